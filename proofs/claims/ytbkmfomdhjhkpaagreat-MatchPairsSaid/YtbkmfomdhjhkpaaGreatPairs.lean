/- The pairs of a list of records: the program's. -/
import Derived.Test.YtbkmfomdhjhkpaaGreatPeople
import Derived.Test.YtbkmfomdhjhkpaaGreatCmpP
import Derived.RegionTactic
namespace Go.Proofs.YtbkmfomdhjhkpaaGreat
open Go.RowKit Go.Maps

instance : Inhabited Rec := ⟨⟨0, [], 0, 0, 0, ByteArray.empty, false, []⟩⟩

/-! What is told. -/
def recsE (l : List Rec) : Int := if 24 < l.length then 4 else if l.all recB = true then (if (l.map Rec.id).Nodup then 0 else 12) else 11
theorem listE_eq (l : List RD) : listE l = recsE (l.map RD.r) := by
  unfold listE recsE recsB idsOf
  rw [List.length_map, List.all_map, List.map_map]
  rfl
def sortR (l : List Rec) : List Rec := l.mergeSort fun a b => decide (a.id ≤ b.id)
def pairRow (u : Rul) (k : Int) (l : List Rec) (i n : Nat) : List (Int × Int) := ((List.range n).filter fun j => decide (i < j) && decide ((matF u l[i]! l[j]!).one = k)).map fun j => (l[i]!.id, l[j]!.id)
def pairTo (u : Rul) (k : Int) (l : List Rec) (i : Nat) : List (Int × Int) := (List.range i).flatMap fun i' => pairRow u k l i' l.length
def pairsE (u : Rul) (l : List Rec) : Int := if rulesB u.l u.d u.y u.t = true then recsE l else 10
def pairsV (u : Rul) (k : Int) (l : List Rec) : List (Int × Int) := if pairsE u l = 0 then pairTo u k (sortR l) l.length else []

theorem pairRow_step (u : Rul) (k : Int) (l : List Rec) (i n : Nat) : pairRow u k l i (n + 1) = pairRow u k l i n ++ if i < n ∧ (matF u l[i]! l[n]!).one = k then [(l[i]!.id, l[n]!.id)] else [] := by
  unfold pairRow
  rw [List.range_succ, List.filter_append, List.map_append]
  congr 1
  by_cases h : i < n ∧ (matF u l[i]! l[n]!).one = k
  · rw [if_pos h, List.filter_cons_of_pos (by simp only [Bool.and_eq_true, decide_eq_true_eq]; exact h)]; rfl
  · rw [if_neg h, List.filter_cons_of_neg (by simp only [Bool.and_eq_true, decide_eq_true_eq]; exact h)]; rfl
theorem pairTo_step (u : Rul) (k : Int) (l : List Rec) (i : Nat) : pairTo u k l (i + 1) = pairTo u k l i ++ pairRow u k l i l.length := by
  unfold pairTo; rw [List.range_succ, List.flatMap_append]; simp
theorem pairRow_le (u : Rul) (k : Int) (l : List Rec) (i n : Nat) : (pairRow u k l i n).length ≤ n := by
  unfold pairRow; rw [List.length_map]; exact Nat.le_trans (List.length_filter_le _ _) (by simp)
theorem pairTo_le (u : Rul) (k : Int) (l : List Rec) (i : Nat) : (pairTo u k l i).length ≤ i * l.length := by
  induction i with
  | zero => simp [pairTo]
  | succ i ih => rw [pairTo_step, List.length_append, Nat.add_mul, Nat.one_mul]; have := pairRow_le u k l i l.length; omega

theorem uniq_sorted : ∀ a b : List Rec, a.Perm b → a.Pairwise (fun x y => x.id < y.id) → b.Pairwise (fun x y => x.id < y.id) → a = b
  | [], b, h, _, _ => (List.nil_perm.1 h).symm
  | x :: a, [], h, _, _ => by have := h.length_eq; simp at this
  | x :: a, y :: b, h, ha, hb => by
    rw [List.pairwise_cons] at ha hb
    have e : x = y := by
      have h1 : x ∈ y :: b := h.mem_iff.1 List.mem_cons_self
      have h2 : y ∈ x :: a := h.mem_iff.2 List.mem_cons_self
      rcases List.mem_cons.1 h1 with h1 | h1
      · exact h1
      · rcases List.mem_cons.1 h2 with h2 | h2
        · exact h2.symm
        · have := hb.1 x h1; have := ha.1 y h2; omega
    subst e
    rw [uniq_sorted a b ((List.perm_cons x).1 h) ha.2 hb.2]
theorem strict_of {l : List Rec} (hs : l.Pairwise fun x y => x.id ≤ y.id) (hn : (l.map Rec.id).Nodup) : l.Pairwise fun x y => x.id < y.id := by
  have h2 : l.Pairwise fun x y => x.id ≠ y.id := List.pairwise_map.1 hn
  exact (hs.and h2).imp fun ⟨h, k⟩ => by omega
theorem sortR_perm (l : List Rec) : (sortR l).Perm l := List.mergeSort_perm _ _
theorem sortR_sorted (l : List Rec) : (sortR l).Pairwise fun x y => x.id ≤ y.id := by
  have := List.pairwise_mergeSort (le := fun a b : Rec => decide (a.id ≤ b.id)) (fun a b c h1 h2 => by simp at *; omega) (fun a b => by simp; omega) l
  exact this.imp fun h => by simpa using h
theorem sorted_eq {l rl : List Rec} (hp : rl.Perm l) (hs : rl.Pairwise fun x y => x.id ≤ y.id) (hn : (l.map Rec.id).Nodup) : rl = sortR l :=
  uniq_sorted rl (sortR l) (hp.trans (sortR_perm l).symm) (strict_of hs ((hp.map Rec.id).nodup_iff.2 hn)) (strict_of (sortR_sorted l) (((sortR_perm l).map Rec.id).nodup_iff.2 hn))

/-! Two lists of pairs in the call's own memory. -/
def pairCells (l : List (Int × Int)) : List Value := l.flatMap fun p => [.int .i64 p.1, .int .i64 p.2]
theorem pairCells_snoc (l : List (Int × Int)) (p : Int × Int) : pairCells (l ++ [p]) = pairCells l ++ [.int .i64 p.1, .int .i64 p.2] := by simp [pairCells]
theorem pairInfo : (Tryz.prog.info? 71).map (fun i => (i.zero, i.size, i.bytes)) = some (some (.agg #[.int .i64 0, .int .i64 0]), 2, 16) := by kernel_rfl

structure PInv (B : Nat) (W0 w : World) (v4 v5 : Value) (s o : List (Int × Int)) : Prop where
  s : w.ownsRow B 71 2 v4 s.length (pairCells s)
  o : w.ownsRow B 71 2 v5 o.length (pairCells o)
  far : v4.ownBlock = none ∨ v4.ownBlock ≠ v5.ownBlock
  below : Below B W0 w
theorem PInv.later {B : Nat} {W0 w w' : World} {v4 v5 : Value} {s o : List (Int × Int)} (h : PInv B W0 w v4 v5 s o) (hb : Below w.heap.size w w') (hB : B ≤ w.heap.size) : PInv B W0 w' v4 v5 s o :=
  ⟨own_below h.s hb, own_below h.o hb, h.far, h.below.trans (hb.mono hB)⟩
theorem PInv.sure {B : Nat} {W0 w w1 : World} {v4 v5 v' : Value} {s o : List (Int × Int)} (h : PInv B W0 w v4 v5 s o) (hB : B ≤ w.heap.size) (p : Int × Int)
    (hown : w1.ownsRow B 71 2 v' (s.length + 1) (pairCells s ++ [.int .i64 p.1, .int .i64 p.2])) (hg : w.grownBy w1 v4.ownBlock) (hat : v'.ownBlock = v4.ownBlock ∨ v'.ownBlock = some w.heap.size) : PInv B W0 w1 v' v5 (s ++ [p]) o := by
  refine ⟨by rw [pairCells_snoc, List.length_append]; exact hown, h.o.kept hg (by
    rcases h.far with h1 | h1
    · rw [h1]
      cases hv : v5.ownBlock with
      | none => exact .inl rfl
      | some g => exact .inr (by simp)
    · exact .inr fun e => h1 e.symm), ?_, h.below.grown hg hB fun k e => (h.s.lt k e).1⟩
  rcases hat with h1 | h1
  · rw [h1]; exact h.far
  · right; rw [h1]; intro e
    have := (h.o.lt _ e.symm).2
    omega
theorem PInv.open_ {B : Nat} {W0 w w1 : World} {v4 v5 v' : Value} {s o : List (Int × Int)} (h : PInv B W0 w v4 v5 s o) (hB : B ≤ w.heap.size) (p : Int × Int)
    (hown : w1.ownsRow B 71 2 v' (o.length + 1) (pairCells o ++ [.int .i64 p.1, .int .i64 p.2])) (hg : w.grownBy w1 v5.ownBlock) (hat : v'.ownBlock = v5.ownBlock ∨ v'.ownBlock = some w.heap.size) : PInv B W0 w1 v4 v' s (o ++ [p]) := by
  refine ⟨h.s.kept hg (by
    rcases h.far with h1 | h1
    · exact .inl h1
    · exact .inr h1), by rw [pairCells_snoc, List.length_append]; exact hown, ?_, h.below.grown hg hB fun k e => (h.o.lt k e).1⟩
  rcases hat with h1 | h1
  · rw [h1]; exact h.far
  · rw [h1]
    cases hv : v4.ownBlock with
    | none => exact .inl rfl
    | some g =>
      right; intro e
      have := (h.s.lt g hv).2
      have := Option.some.inj e
      omega
theorem cells_new2 (W : World) (x y : Int) : ∀ j u, ([.int .i64 x, .int .i64 y] : List Value)[j]? = some u → (W.alloc (.cells #[.int .i64 x, .int .i64 y] 71)).cell? ((⟨W.heap.size, 0, none⟩ : Addr).add j) = some u := fun j u hj => by
  have := (Blk.new W #[.int .i64 x, .int .i64 y] 71).cell j
  rw [show ((⟨W.heap.size, 0, none⟩ : Addr).add j) = ⟨W.heap.size, j, none⟩ by rw [Addr.add]; simp; exact fun h => h.symm]
  refine this.trans ?_
  rw [← hj]; simp

end Go.Proofs.YtbkmfomdhjhkpaaGreat
