/- The least and the greatest score, by the program: whole. -/
import Derived.Test.YtpahcbhikmfamaaGreatBBtw
import Derived.Test.YtpahcbhikmfamaaGreatRExSP2
import Derived.Test.YtpahcbhikmfamaaGreatBAsc
import Derived.Test.YtpahcbhikmfamaaGreatSPrg10
import Derived.Test.YtpahcbhikmfamaaGreatSRef8

namespace Go.Proofs.YtpahcbhikmfamaaGreat
open Go.RowKit Go.Maps

theorem scoreM_boundL {m : Mdl} {x : List Int} (h : mdlB m = true) (hl : (x.length : Int) = m.traits) (hxl : x.length ≤ 10) : -44000000000 ≤ scoreM m x ∧ scoreM m x ≤ 44000000000 := by
  obtain ⟨_, _, h3, h4, h5, h6⟩ := mdlB_parts h
  have := sumL_bound (prodL m x) (fun z hz => by
    unfold prodL at hz
    rcases List.mem_append.1 hz with hz | hz
    · obtain ⟨q, hq, rfl⟩ := List.mem_map.1 hz
      have h7 := h5 q hq
      rw [← hl] at h7
      exact mul_bound (crdB_parts h7).1 (onCrd_bound h7 hxl)
    · obtain ⟨q, hq, rfl⟩ := List.mem_map.1 hz
      have h7 := h6 q hq
      rw [← hl] at h7
      have := onTre_bound h7
      exact mul_bound (treB_parts h7).1 (by omega))
  have hlen : (prodL m x).length = m.cards.length + m.trees.length := by unfold prodL; simp
  rw [hlen] at this
  rw [scoreM_eq]
  omega
theorem vecs_mem_len : ∀ (L : List (List Int)) (v : List Int), v ∈ vecs L → v.length = L.length
  | [], v, h => by
    have : v = [] := by simpa [vecs] using h
    subst this; rfl
  | l :: L, v, h => by
    unfold vecs at h
    obtain ⟨a, _, h2⟩ := List.mem_flatMap.1 h
    obtain ⟨r, hr, rfl⟩ := List.mem_map.1 h2
    simp [vecs_mem_len L r hr]
theorem spnsB_len {traits : Int} {x : List Spn} (h : spnsB traits x = true) : (x.length : Int) = traits := by
  unfold spnsB at h
  simp only [Bool.and_eq_true, decide_eq_true_eq] at h
  exact h.1

/-- The score, where the values are as many as they should be. -/
def scT (m : Mdl) (x : List Int) : Int := if (x.length : Int) = m.traits then scoreM m x else 0

set_option maxHeartbeats 4000000 in
theorem betweenP_all (traits need : Int) (cl : List CrdD) (tl : List TreD) (C T : Option Addr) (c t : Nat) (sp : List Spn) (SA : Option Addr) (sc : Nat) (w : World) (h : MdlAt w w.heap.size ⟨traits, cl, C, c, tl, T, t, need⟩) (hls : MdlLe ⟨traits, cl, C, c, tl, T, t, need⟩) (hx : SpnsAt w w.heap.size SA sp) (hxl : sp.length ≤ 10) :
    Calls Tryz.prog 11 #[.agg #[.int .i64 traits, .slice C cl.length c, .slice T tl.length t, .int .i64 need], .slice SA sp.length sc] w fun e w' => e = .returned (.tuple #[.agg #[.int .i64 (betV ⟨traits, cl.map CrdD.v, tl.map TreD.v, need⟩ sp).lo, .int .i64 (betV ⟨traits, cl.map CrdD.v, tl.map TreD.v, need⟩ sp).hi], .int .i64 (betE ⟨traits, cl.map CrdD.v, tl.map TreD.v, need⟩ sp)]) ∧ Below w.heap.size w w' := by
  by_cases q1 : mdlB ⟨traits, cl.map CrdD.v, tl.map TreD.v, need⟩ = true
  · by_cases q2 : spnsB traits sp = true
    · have hE : betE ⟨traits, cl.map CrdD.v, tl.map TreD.v, need⟩ sp = 0 := by unfold betE; rw [if_pos q1]; exact if_pos q2
      have hV : betV ⟨traits, cl.map CrdD.v, tl.map TreD.v, need⟩ sp = ⟨loL ((vecs (stepsL ⟨traits, cl.map CrdD.v, tl.map TreD.v, need⟩ sp)).map (scoreM ⟨traits, cl.map CrdD.v, tl.map TreD.v, need⟩)), hiL ((vecs (stepsL ⟨traits, cl.map CrdD.v, tl.map TreD.v, need⟩ sp)).map (scoreM ⟨traits, cl.map CrdD.v, tl.map TreD.v, need⟩))⟩ := by unfold betV; exact if_pos hE
      rw [hE, hV]
      have hl := spnsB_len q2
      refine betweenP_good traits need cl tl C T c t sp SA sc w h hls hx hxl q1 q2 _ _ ?_
      intro S s sh W hb hco hlen hat
      have hmap : (vecs (stepsL ⟨traits, cl.map CrdD.v, tl.map TreD.v, need⟩ sp)).map (scoreM ⟨traits, cl.map CrdD.v, tl.map TreD.v, need⟩) = (listsS sp.length sp (fun k => allCuts (k : Int) sh)).map (scT ⟨traits, cl.map CrdD.v, tl.map TreD.v, need⟩) := by
        rw [listsS_eq (traits := traits) (need := need) hco rfl]
        refine List.map_congr_left fun v hv => ?_
        have hvl := vecs_mem_len _ _ hv
        have : v.length = sp.length := by rw [hvl]; simp [stepsL]
        exact (if_pos (by show (v.length : Int) = traits; rw [this]; exact hl)).symm
      rw [hmap]
      obtain ⟨_, _, p3, p4, _, _⟩ := mdlB_parts q1
      have p3' : cl.length ≤ 2 := by simpa using p3
      have p4' : tl.length ≤ 2 := by simpa using p4
      rw [← hlen]
      refine (callsIn_wide (n := 8)).1 (between_any traits need C T S SA cl.length c tl.length t sh.length s sc sp.length sp (fun k => allCuts (k : Int) sh) (by omega) rfl (scT ⟨traits, cl.map CrdD.v, tl.map TreD.v, need⟩) ?_ (listsS_ne _ _ _) W (hx.later hb) ?_ ?_)
      · intro x
        by_cases hxx : (x.length : Int) = traits
        · have := scoreM_boundL (x := x) q1 hxx (by omega)
          rw [show scT ⟨traits, cl.map CrdD.v, tl.map TreD.v, need⟩ x = scoreM ⟨traits, cl.map CrdD.v, tl.map TreD.v, need⟩ x from if_pos hxx]
          omega
        · rw [show scT ⟨traits, cl.map CrdD.v, tl.map TreD.v, need⟩ x = 0 from if_neg hxx]
          omega
      · intro W2 hb2
        have hok := parts_ok (traits := traits) (need := need) hls hco
        have := cuts_any sp.length (by omega) need C T S cl.length c tl.length t s sh W2 (hat.later hb2) (by omega) (fun y hy => (hok y hy).1) (fun y hy => (hok y hy).2) (fun k => by rw [allCuts_eq (traits := traits) (need := need) hco k]; exact cutsT_len hls k) (fun A c zs hz w h => ascending_any A c zs hz w h)
        rw [hl] at this
        exact this
      · intro W2 X xc x hb2 hxx hxl2
        have hxt : (x.length : Int) = traits := by rw [hxl2]; exact hl
        rw [show scT ⟨traits, cl.map CrdD.v, tl.map TreD.v, need⟩ x = scoreM ⟨traits, cl.map CrdD.v, tl.map TreD.v, need⟩ x from if_pos hxt, ← sh_score hco traits need x]
        exact scoreP_inv traits need C T S cl.length c tl.length t s sh.length sh x X xc W2 rfl (hat.later hb2) hxx (sh_ok q1 hxt hco) (by omega) (by omega)
    · have q2' : spnsB traits sp = false := by simpa using q2
      have hE : betE ⟨traits, cl.map CrdD.v, tl.map TreD.v, need⟩ sp = 61 := by unfold betE; rw [if_pos q1]; exact if_neg q2
      have hV : betV ⟨traits, cl.map CrdD.v, tl.map TreD.v, need⟩ sp = ⟨0, 0⟩ := by unfold betV; exact if_neg (by rw [hE]; decide)
      rw [hE, hV]
      exact betweenP_spans traits need cl tl C T c t sp SA sc w h hls hx hxl q1 q2'
  · have q1' : mdlB ⟨traits, cl.map CrdD.v, tl.map TreD.v, need⟩ = false := by simpa using q1
    have hE : betE ⟨traits, cl.map CrdD.v, tl.map TreD.v, need⟩ sp = 60 := by unfold betE; exact if_neg q1
    have hV : betV ⟨traits, cl.map CrdD.v, tl.map TreD.v, need⟩ sp = ⟨0, 0⟩ := by unfold betV; exact if_neg (by rw [hE]; decide)
    rw [hE, hV]
    exact betweenP_bad traits need cl tl C T c t sp SA sc w h hls q1'
end Go.Proofs.YtpahcbhikmfamaaGreat
