/- The three calls of SumBut. -/
import Derived.Test.YtbkekdbabkncfaaGreatVBuC

namespace Go.Proofs.YtbkekdbabkncfaaGreat
open Go.RowKit Go.Maps

theorem ints3 {w : World} {A : Option Addr} {a b c : Int} (h : IntsAt w w.heap.size A [a, b, c]) : ∃ g o, A = some ⟨g, o, none⟩ ∧ g < w.heap.size ∧ w.cell? ⟨g, o, none⟩ = some (.int .i64 a) ∧ w.cell? ⟨g, o + 1, none⟩ = some (.int .i64 b) ∧ w.cell? ⟨g, o + 2, none⟩ = some (.int .i64 c) := by
  obtain ⟨g, o, e, h1, h2⟩ := h 0 (by simp)
  subst e
  obtain ⟨g1, o1, e1, _, h3⟩ := h 1 (by simp)
  obtain ⟨g2, o2, e2, _, h4⟩ := h 2 (by simp)
  simp only [Option.some.injEq, Addr.mk.injEq, and_true] at e1 e2
  obtain ⟨rfl, rfl⟩ := e1
  obtain ⟨rfl, rfl⟩ := e2
  exact ⟨g, o, rfl, h1, h2 0 (by omega), h3 0 (by omega), h4 0 (by omega)⟩
theorem butF_form (k n : Nat) (hk : k < n) (hn : n ≤ 16) : ∃ lo hi, (butF k).wheres = [⟨0, lo, hi⟩] ∧ (0 ≤ lo ∧ lo ≤ 1000000) ∧ 0 ≤ hi ∧ hi ≤ 1000000 := by
  unfold butF
  split
  · exact ⟨1, 0, rfl, by omega, by omega⟩
  · exact ⟨0, (k : Int) - 1, rfl, by omega, by omega⟩
structure ButW (f : Nat → Int) (n k : Nat) (cl : Int) (L : List SubD) (A : Option Addr) (Wa Wg Wb : Option Addr) (w : World) : Prop where
  n16 : n ≤ 16
  kn : k < n
  fv : ∀ i, i < n → 0 ≤ f i ∧ f i ≤ 65535
  clb : 0 ≤ cl ∧ cl ≤ 65535
  tab : L.map SubD.v = butL f n
  subs : SubsAt w w.heap.size A L
  wa : WhesAt w w.heap.size Wa [⟨0, 0, (n : Int)⟩]
  wg : WhesAt w w.heap.size Wg (butF k).wheres
  wb : WhesAt w w.heap.size Wb [⟨0, (k : Int) + 1, 1000000⟩]
section
variable {f : Nat → Int} {n k : Nat} {cl : Int} {L : List SubD} {A : Option Addr} {Wa Wg Wb : Option Addr} {w w' : World}
theorem ButW.later (h : ButW f n k cl L A Wa Wg Wb w) (hb : Below w.heap.size w w') : ButW f n k cl L A Wa Wg Wb w' := ⟨h.n16, h.kn, h.fv, h.clb, h.tab, h.subs.later hb, Flat.later h.wa hb, Flat.later h.wg hb, Flat.later h.wb hb⟩
theorem ButW.len (h : ButW f n k cl L A Wa Wg Wb w) : L.length = n := ol_len h.tab
def qA (cl : Int) (n : Nat) (Wa : Option Addr) (ca : Nat) : QueD := ⟨qC cl 0 (n : Int), Wa, ca⟩
def qG (cl : Int) (k : Nat) (Wg : Option Addr) (cg : Nat) : QueD := ⟨⟨(butF k).wheres, 1, 1 + cl, 1⟩, Wg, cg⟩
def qB (cl : Int) (k : Nat) (Wb : Option Addr) (cb : Nat) : QueD := ⟨qC cl ((k : Int) + 1) 1000000, Wb, cb⟩
theorem qs_fit (h : ButW f n k cl L A Wa Wg Wb w) (ca cg cb : Nat) : ∀ q ∈ [qA cl n Wa ca, qG cl k Wg cg, qB cl k Wb cb], (∃ lo hi, q.v = qC cl lo hi ∧ (0 ≤ lo ∧ lo ≤ 1000000) ∧ 0 ≤ hi ∧ hi ≤ 1000000) ∧ q.v.wheres.length ≤ maxLen := by
  have h1 := h.n16
  have h2 := h.kn
  intro q hq
  simp only [List.mem_cons, List.not_mem_nil, or_false] at hq
  rcases hq with rfl | rfl | rfl
  · exact ⟨⟨0, (n : Int), rfl, by omega, by omega⟩, by unfold maxLen; simp [qA, qC]⟩
  · obtain ⟨lo, hi, e, h3, h4⟩ := butF_form k n h2 h1
    exact ⟨⟨lo, hi, by unfold qG qC; simp only [e], h3, h4⟩, by unfold maxLen qG; simp only [e]; simp⟩
  · exact ⟨⟨(k : Int) + 1, 1000000, rfl, by omega, by omega⟩, by unfold maxLen; simp [qB, qC]⟩
theorem q_col0 (n k : Nat) : ∀ q ∈ butQ n k, col0 q.wheres := by
  intro q hq x hx
  simp only [butQ, List.mem_cons, List.not_mem_nil, or_false] at hq
  have h1 : ∀ lo hi, x ∈ (qW lo hi).wheres → x.col = 0 := fun lo hi h => by
    simp only [qW, List.mem_singleton] at h
    rw [h]
  rcases hq with rfl | rfl | rfl
  · exact h1 _ _ hx
  · unfold butF at hx
    split at hx
    · exact h1 _ _ hx
    · exact h1 _ _ hx
  · exact h1 _ _ hx
theorem but_case (h : ButW f n k cl L A Wa Wg Wb w) : (okB n (butQ n k) = true ∧ okB n [butF k, butA k] = true ∧ okB n [butA k] = true) ∧ fndI (idsB n) (7 * (k : Int)) = some k ∧ howB (ledB n (butQ n k)) k = true ∧ (howE (ledB n (butQ n k)) k).map (fun x => (clrL 1 x.e.ps, mltL (clrL 1 x.e.ps) x.e.ps)) = some (1, [1, if k = 0 then 0 else -1, if k + 1 = n then 0 else -1]) ∧ hideB (ledB n [butF k, butA k]) n k = true ∧ (hidF (ledB n [butF k, butA k]) k).isSome = true ∧ dedL (idsB n) (ledB n [butA k]) = if k + 2 = n then [7 * ((k : Int) + 1)] else [] := by
  have h1 := case_but h.n16 h.kn
  unfold caseB at h1
  simp only [Bool.and_eq_true, decide_eq_true_eq] at h1
  exact ⟨⟨h1.1.1.1.1.1.1.1.1, h1.1.1.1.1.1.1.1.2, h1.1.1.1.1.1.1.2⟩, h1.1.1.1.1.1.2, h1.1.1.1.1.2, h1.1.1.1.2, h1.1.1.2, h1.1.2, h1.2⟩
theorem flatQ {W : World} {g : Nat} {cs : Array Value} {l : List QueD} {off : Nat} (h : Blk W g cs 25) (e : ∀ k, (hk : k < l.length) → ∀ i, i < 4 → cs[off + k * 4 + i]? = (queC l[k])[i]?) : Flat 4 queC W W.heap.size (some ⟨g, off, none⟩) l := fun k hk => ⟨g, off, rfl, h.lt, fun i hi => by rw [h.cell]; exact e k hk i hi⟩
theorem but_how (h : ButW f n k cl L A Wa Wg Wb w) (c ca cg cb g : Nat) (hg : Blk w g #[.slice Wa 1 ca, .int .i64 1, .int .i64 (1 + cl), .int .i64 1, .slice Wg 1 cg, .int .i64 1, .int .i64 (1 + cl), .int .i64 1, .slice Wb 1 cb, .int .i64 1, .int .i64 (1 + cl), .int .i64 1] 25) :
    Calls Tryz.prog 16 #[.int .i64 2, .slice A n c, .slice (some ⟨g, 0, none⟩) 3 3, .int .i64 (7 * (k : Int))] w fun e w' => ∃ A' c', e = .returned (.tuple #[.slice A' 3 c', .int .i64 1, .int .i64 0]) ∧ Hid (IntsAt w' w'.heap.size A' [1, if k = 0 then 0 else -1, if k + 1 = n then 0 else -1]) ∧ Below w.heap.size w w' := by
  have hf := qs_fit h ca cg cb
  obtain ⟨⟨o1, _, _⟩, hfn, hh, hr, _⟩ := but_case h
  obtain ⟨lo, hi, ef, _, _⟩ := butF_form k n h.kn h.n16
  have hP : PutB f n L A [qA cl n Wa ca, qG cl k Wg cg, qB cl k Wb cb] (some ⟨g, 0, none⟩) (butQ n k) w := by
    refine ⟨h.n16, h.fv, h.tab, h.subs, ⟨flatQ hg fun j hj i hi => ?_, fun x hx => ?_⟩, rfl, q_col0 n k, avl_but h.clb (fun q hq => (hf q hq).1) (by simp), fun x hx => (hf x hx).2, o1⟩
    · have h3 : j = 0 ∨ j = 1 ∨ j = 2 := by simp only [List.length_cons, List.length_nil] at hj; omega
      have h2 : i = 0 ∨ i = 1 ∨ i = 2 ∨ i = 3 := by omega
      rcases h3 with rfl | rfl | rfl <;> rcases h2 with rfl | rfl | rfl | rfl <;> first | rfl | (simp [queC, qG, ef])
    · simp only [List.mem_cons, List.not_mem_nil, or_false] at hx
      rcases hx with rfl | rfl | rfl
      · exact h.wa
      · exact h.wg
      · exact h.wb
  have := hP.how (c := c) (sc := 3) hfn hh hr
  rw [h.len] at this
  exact this
theorem but_hide (h : ButW f n k cl L A Wa Wg Wb w) (c ca cg cb g : Nat) (hg : Blk w g #[.slice Wa 1 ca, .int .i64 1, .int .i64 (1 + cl), .int .i64 1, .slice Wg 1 cg, .int .i64 1, .int .i64 (1 + cl), .int .i64 1, .slice Wb 1 cb, .int .i64 1, .int .i64 (1 + cl), .int .i64 1] 25) :
    Calls Tryz.prog 20 #[.int .i64 2, .slice A n c, .slice (some ⟨g, 4, none⟩) 2 2, .int .i64 (7 * (k : Int))] w fun e w' => ∃ A' m' c', e = .returned (.tuple #[.slice A' m' c', .int .i64 0]) ∧ Below w.heap.size w w' := by
  have hf := qs_fit h ca cg cb
  obtain ⟨⟨_, o2, _⟩, hfn, _, _, hh, hs, _⟩ := but_case h
  obtain ⟨lo, hi, ef, _, _⟩ := butF_form k n h.kn h.n16
  have hP : PutB f n L A [qG cl k Wg cg, qB cl k Wb cb] (some ⟨g, 4, none⟩) [butF k, butA k] w := by
    refine ⟨h.n16, h.fv, h.tab, h.subs, ⟨flatQ hg fun j hj i hi => ?_, fun x hx => ?_⟩, rfl, fun q hq => q_col0 n k q (by simp only [butQ, List.mem_cons, List.not_mem_nil, or_false] at hq ⊢; exact .inr hq), avl_but h.clb (fun q hq => (hf q (by simp only [List.mem_cons, List.not_mem_nil, or_false] at hq ⊢; exact .inr hq)).1) (by simp), fun x hx => (hf x (by simp only [List.mem_cons, List.not_mem_nil, or_false] at hx ⊢; exact .inr hx)).2, o2⟩
    · have h3 : j = 0 ∨ j = 1 := by simp only [List.length_cons, List.length_nil] at hj; omega
      have h2 : i = 0 ∨ i = 1 ∨ i = 2 ∨ i = 3 := by omega
      rcases h3 with rfl | rfl <;> rcases h2 with rfl | rfl | rfl | rfl <;> first | rfl | (simp [queC, qG, ef])
    · simp only [List.mem_cons, List.not_mem_nil, or_false] at hx
      rcases hx with rfl | rfl
      · exact h.wg
      · exact h.wb
  have := hP.hide (c := c) (sc := 2) hfn hh hs
  rw [h.len] at this
  exact this
theorem but_ded (h : ButW f n k cl L A Wa Wg Wb w) (c cb g : Nat) (hg : Blk w g #[.slice Wb 1 cb, .int .i64 1, .int .i64 (1 + cl), .int .i64 1] 25) {r : List Int} (hr : (if k + 2 = n then [7 * ((k : Int) + 1)] else []) = r) {m : Nat} (hm : r.length = m) :
    Calls Tryz.prog 19 #[.int .i64 2, .slice A n c, .slice (some ⟨g, 0, none⟩) 1 1] w fun e w' => ∃ A' c', e = .returned (.tuple #[.slice A' m c', .int .i64 0]) ∧ Hid (IntsAt w' w'.heap.size A' r) ∧ Below w.heap.size w w' := by
  have hf := qs_fit h 0 0 cb
  obtain ⟨⟨_, _, o3⟩, _, _, _, _, _, hd⟩ := but_case h
  have hP : PutB f n L A [qB cl k Wb cb] (some ⟨g, 0, none⟩) [butA k] w := by
    refine ⟨h.n16, h.fv, h.tab, h.subs, ⟨flatQ hg fun j hj i hi => ?_, fun x hx => ?_⟩, rfl, fun q hq => q_col0 n k q (by simp only [butQ, List.mem_cons, List.not_mem_nil, or_false] at hq ⊢; exact .inr (.inr hq)), avl_but h.clb (fun q hq => (hf q (by simp only [List.mem_cons, List.not_mem_nil, or_false] at hq ⊢; exact .inr (.inr hq))).1) (by simp), fun x hx => (hf x (by simp only [List.mem_cons, List.not_mem_nil, or_false] at hx ⊢; exact .inr (.inr hx))).2, o3⟩
    · have h3 : j = 0 := by simp only [List.length_cons, List.length_nil] at hj; omega
      have h2 : i = 0 ∨ i = 1 ∨ i = 2 ∨ i = 3 := by omega
      subst h3
      rcases h2 with rfl | rfl | rfl | rfl <;> rfl
    · simp only [List.mem_cons, List.not_mem_nil, or_false] at hx
      subst hx
      exact h.wb
  have hs : srtI r = r := by
    rw [← hr]
    split
    · exact List.mergeSort_of_pairwise (List.pairwise_singleton _ _)
    · exact List.mergeSort_of_pairwise List.Pairwise.nil
  have := hP.deduced (c := c) (sc := 1) (by rw [hd]; exact hr) hs
  rw [h.len, hm] at this
  exact this
end
end Go.Proofs.YtbkekdbabkncfaaGreat
