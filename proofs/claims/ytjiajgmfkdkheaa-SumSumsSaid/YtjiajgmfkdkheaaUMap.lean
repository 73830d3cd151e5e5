/- Values by numbers, in a map: as data; how many keys it has. -/
import Derived.Test.YtjiajgmfkdkheaaUIns
import Derived.Maps.OwnIn
import Derived.Maps.OwnOps

namespace Go.Proofs.Ytjiajgmfkdkheaa
open Go.RowKit Go.Maps

theorem intKeys_spec {H : Type} {P : Program} {k : TypeId} {R : Value → Option (DataW H × List MemPlace)} {w : World} {b n : Nat} {D : DataW H} (hown : w.ownsMap P k R b n D) (K : Keyed P k) (hk : P.underlying k = some (.int .i64)) :
    (Go.intKeys D).Nodup ∧ ∀ x, x ∈ Go.intKeys D ↔ has D (.int .i64 x) = true := by
  obtain ⟨es, hD, hpw, _⟩ := hown.entries K
  obtain ⟨es', hD', hko⟩ := hown.keysOf
  obtain rfl : es = es' := by rw [hD] at hD'; simpa using hD'
  subst hD
  have hx : ∀ p ∈ es, ∃ x, p.1 = .int .i64 x := fun p hp => by
    obtain ⟨v, hv⟩ := hko p hp
    obtain ⟨x, _, hx, _⟩ := Go.Maps.keyOf_i64 hk hv
    exact ⟨x, hx⟩
  refine ⟨?_, fun x => ?_⟩
  · refine List.pairwise_map.2 (hpw.imp_of_mem fun {p q} hp' hq' hne e => hne ?_)
    obtain ⟨a, ha⟩ := hx p hp'
    obtain ⟨c, hc⟩ := hx q hq'
    rw [ha, hc] at e ⊢
    exact congrArg _ e
  · rw [has_eq, List.any_eq_true]
    show x ∈ es.map (fun p => Go.intOf p.1) ↔ _
    rw [List.mem_map]
    constructor
    · rintro ⟨p, hp', rfl⟩
      obtain ⟨a, ha⟩ := hx p hp'
      exact ⟨p, hp', by rw [ha]; simp [Lit.sameKey, Go.intOf]⟩
    · rintro ⟨p, hp', hs⟩
      obtain ⟨a, ha⟩ := hx p hp'
      rw [ha] at hs
      exact ⟨p, hp', by rw [ha]; simpa [Lit.sameKey, Go.intOf] using hs⟩

theorem size_keys {H : Type} {w : World} {P : Program} {k : TypeId} {R : Value → Option (DataW H × List MemPlace)} {b n : Nat} {D : DataW H} (hown : w.ownsMap P k R b n D) (K : Keyed P k) : Maps.size D = (Go.intKeys D).length := by
  obtain ⟨es, hD, _⟩ := hown.entries K
  rw [hD]
  show es.length = (es.map _).length
  simp
theorem size_of {w : World} {b n : Nat} {D : DataW Value} {G : Lit → Option Value} (hown : w.ownsMap Try.prog 3 rawElem b n D) (hat : ∀ kl z, D.atKey kl z = gotAt (G kl) z) {ks : List Int} (hn : ks.Nodup) (hk : ∀ p, p ∈ ks ↔ (G (.int .i64 p)).isSome = true) : Maps.size D = ks.length := by
  rw [size_keys hown (int_keyed Try.underlying3)]
  have hks := intKeys_spec hown (int_keyed Try.underlying3) Try.underlying3
  exact ((List.perm_ext_iff_of_nodup hks.1 hn).2 fun p => by rw [hks.2, has_some hat, hk]).length_eq

/-! A list without what it has twice. -/
def ded : List Int → List Int
  | [] => []
  | x :: l => if x ∈ l then ded l else x :: ded l
theorem ded_mem : ∀ (l : List Int) (x : Int), x ∈ ded l ↔ x ∈ l
  | [], x => by simp [ded]
  | y :: l, x => by
    unfold ded
    split
    · rename_i h
      rw [ded_mem l x, List.mem_cons]
      exact ⟨.inr, fun e => e.elim (fun e => e ▸ h) id⟩
    · rw [List.mem_cons, ded_mem l x, List.mem_cons]
theorem ded_nodup : ∀ l : List Int, (ded l).Nodup
  | [] => by simp [ded]
  | y :: l => by
    unfold ded
    split
    · exact ded_nodup l
    · rename_i h
      rw [List.nodup_cons, ded_mem]
      exact ⟨h, ded_nodup l⟩
theorem ded_le : ∀ l : List Int, (ded l).length ≤ l.length
  | [] => by simp [ded]
  | y :: l => by
    have := ded_le l
    unfold ded
    split
    · simp only [List.length_cons]; omega
    · simp only [List.length_cons]; omega
theorem ded_len : ∀ l : List Int, (ded l).length = l.length ↔ l.Nodup
  | [] => by simp [ded]
  | y :: l => by
    have h1 := ded_le l
    have h2 := ded_len l
    unfold ded
    split
    · rename_i h
      simp only [List.length_cons, List.nodup_cons]
      exact ⟨fun e => by omega, fun e => absurd h e.1⟩
    · rename_i h
      simp only [List.length_cons, List.nodup_cons]
      exact ⟨fun e => ⟨h, h2.1 (by omega)⟩, fun e => by have := h2.2 e.2; omega⟩

/-! What is in the map. -/
abbrev valsV (x : SubD) : Value := .slice x.V x.v.vals.length x.c
noncomputable def valF (G : Lit → Option Value) : List SubD → Lit → Option Value
  | [] => G
  | x :: l => valF (putFn G (.int .i64 x.v.id) (valsV x)) l
noncomputable def valG (l : List SubD) : Lit → Option Value := valF (fun _ => none) l
theorem valF_snoc : ∀ (l : List SubD) (G : Lit → Option Value) (x : SubD), valF G (l ++ [x]) = putFn (valF G l) (.int .i64 x.v.id) (valsV x)
  | [], _, _ => rfl
  | _ :: l, _, x => valF_snoc l _ x
theorem valG_snoc (l : List SubD) (x : SubD) : valG (l ++ [x]) = putFn (valG l) (.int .i64 x.v.id) (valsV x) := valF_snoc l _ x
theorem put_at (G : Lit → Option Value) (p q : Int) (v : Value) : putFn G (.int .i64 p) v (.int .i64 q) = if q = p then some v else G (.int .i64 q) := by
  unfold putFn
  by_cases h : q = p
  · subst h; rw [if_pos rfl, if_pos rfl]
  · rw [if_neg h, if_neg (fun e => h (by injection e))]
theorem valF_out : ∀ (l : List SubD) (G : Lit → Option Value) (p : Int), (∀ x ∈ l, x.v.id ≠ p) → valF G l (.int .i64 p) = G (.int .i64 p)
  | [], G, p, _ => rfl
  | y :: l, G, p, h => by
    rw [valF, valF_out l _ p (fun x hx => h x (List.mem_cons_of_mem _ hx)), put_at, if_neg (fun e => h y (List.mem_cons_self ..) e.symm)]
theorem valF_some : ∀ (l : List SubD) (G : Lit → Option Value) (p : Int), (valF G l (.int .i64 p)).isSome = true ↔ (G (.int .i64 p)).isSome = true ∨ p ∈ l.map fun x => x.v.id
  | [], G, p => by simp [valF]
  | y :: l, G, p => by
    rw [valF, valF_some l _ p, put_at, List.map_cons, List.mem_cons]
    by_cases h : p = y.v.id
    · rw [if_pos h]; simp [h]
    · rw [if_neg h]; simp [h]
theorem valF_get : ∀ (l : List SubD) (G : Lit → Option Value), (l.map fun x => x.v.id).Nodup → ∀ x ∈ l, valF G l (.int .i64 x.v.id) = some (valsV x)
  | [], _, _, x, h => by simp at h
  | y :: l, G, hn, x, hx => by
    rw [List.map_cons, List.nodup_cons] at hn
    rw [valF]
    rcases List.mem_cons.1 hx with rfl | hx
    · rw [valF_out l _ _ (fun z hz e => hn.1 (List.mem_map.2 ⟨z, hz, e⟩)), put_at, if_pos rfl]
    · exact valF_get l _ hn.2 x hx
theorem valG_some (l : List SubD) (p : Int) : (valG l (.int .i64 p)).isSome = true ↔ p ∈ l.map fun x => x.v.id := by rw [valG, valF_some]; simp
theorem valG_get {l : List SubD} (hn : (l.map fun x => x.v.id).Nodup) {x : SubD} (hx : x ∈ l) : valG l (.int .i64 x.v.id) = some (valsV x) := valF_get l _ hn x hx
theorem val_size {w : World} {b n : Nat} {D : DataW Value} {l : List SubD} (hown : w.ownsMap Try.prog 3 rawElem b n D) (hat : ∀ kl z, D.atKey kl z = gotAt (valG l kl) z) : Maps.size D = (ded (l.map fun x => x.v.id)).length :=
  size_of hown hat (ded_nodup _) fun p => by rw [ded_mem, valG_some]
/-- Values by numbers, in new memory. -/
def ValsPost (w : World) (l : List SubD) (e : Ending) (w' : World) : Prop := ∃ b, e = .returned (.map (some b)) ∧ w.heap.size ≤ b ∧ MapFn w' Try.prog 3 b l.length (valG l) ∧ Below w.heap.size w w'
end Go.Proofs.Ytjiajgmfkdkheaa
