/- A part of a proof. -/
import Derived.Test.YtijhbcmmoagdmaaSBR6

namespace Go.Proofs.Ytijhbcmmoagdmaa
open Go.RowKit Go.Maps
theorem betR_all (traits need : Int) (cl : List CrdD) (tl : List TreD) (C T : Option Addr) (c t : Nat) (sp : List Spn) (SA : Option Addr) (sc : Nat) (w : World) (h : MdlAt w w.heap.size ⟨traits, cl, C, c, tl, T, t, need⟩) (hls : MdlLe ⟨traits, cl, C, c, tl, T, t, need⟩) (hx : SpnsAt w w.heap.size SA sp) (hxl : sp.length ≤ 10) :
    Calls Try.prog 16 #[.agg #[.int .i64 traits, .slice C cl.length c, .slice T tl.length t, .int .i64 need], .slice SA sp.length sc] w fun e w' => e = .returned (.tuple #[.agg #[.int .i64 (betV ⟨traits, cl.map CrdD.v, tl.map TreD.v, need⟩ sp).lo, .int .i64 (betV ⟨traits, cl.map CrdD.v, tl.map TreD.v, need⟩ sp).hi], .int .i64 (betE ⟨traits, cl.map CrdD.v, tl.map TreD.v, need⟩ sp)]) ∧ Below w.heap.size w w' := by
  by_cases q1 : mdlB ⟨traits, cl.map CrdD.v, tl.map TreD.v, need⟩ = true
  · by_cases q2 : spnsB traits sp = true
    · have hE : betE ⟨traits, cl.map CrdD.v, tl.map TreD.v, need⟩ sp = 0 := by unfold betE; rw [if_pos q1]; exact if_pos q2
      have hV : betV ⟨traits, cl.map CrdD.v, tl.map TreD.v, need⟩ sp = ⟨loL ((vecs (stepsL ⟨traits, cl.map CrdD.v, tl.map TreD.v, need⟩ sp)).map (scoreM ⟨traits, cl.map CrdD.v, tl.map TreD.v, need⟩)), hiL ((vecs (stepsL ⟨traits, cl.map CrdD.v, tl.map TreD.v, need⟩ sp)).map (scoreM ⟨traits, cl.map CrdD.v, tl.map TreD.v, need⟩))⟩ := by unfold betV; exact if_pos hE
      rw [hE, hV]
      have hn : (sp.length : Int) = traits := by
        have q2' := q2
        unfold spnsB at q2'
        simp only [Bool.and_eq_true, decide_eq_true_eq] at q2'
        exact q2'.1
      exact betR_good traits need cl tl C T c t sp SA sc w h hls hx hxl q1 hn q2
    · have q2' : spnsB traits sp = false := by simpa using q2
      have hE : betE ⟨traits, cl.map CrdD.v, tl.map TreD.v, need⟩ sp = 61 := by unfold betE; rw [if_pos q1]; exact if_neg q2
      have hV : betV ⟨traits, cl.map CrdD.v, tl.map TreD.v, need⟩ sp = ⟨0, 0⟩ := by unfold betV; exact if_neg (by rw [hE]; decide)
      rw [hE, hV]
      by_cases hn : (sp.length : Int) = traits
      · exact betR_spans traits need cl tl C T c t sp SA sc w h hls hx hxl q1 hn q2'
      · exact betR_len traits need cl tl C T c t sp SA sc w h hls q1 hn
  · have q1' : mdlB ⟨traits, cl.map CrdD.v, tl.map TreD.v, need⟩ = false := by simpa using q1
    have hE : betE ⟨traits, cl.map CrdD.v, tl.map TreD.v, need⟩ sp = 60 := by unfold betE; exact if_neg q1
    have hV : betV ⟨traits, cl.map CrdD.v, tl.map TreD.v, need⟩ sp = ⟨0, 0⟩ := by unfold betV; exact if_neg (by rw [hE]; decide)
    rw [hE, hV]
    exact betR_bad traits need cl tl C T c t sp SA sc w h hls q1'
end Go.Proofs.Ytijhbcmmoagdmaa
