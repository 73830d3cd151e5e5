/- Reasons by the program: whole. Written by a program. -/
import Derived.Test.YtpahcbhikmfamaaGreatRP6
import Derived.Test.YtpahcbhikmfamaaGreatBAll

namespace Go.Proofs.YtpahcbhikmfamaaGreat
open Go.RowKit Go.Shelf Go.Maps

theorem stepsI_same (v : Int) (cs : List Int) : stepsI v v cs = [v] := by
  have key : ∀ (cs a : List Int), cs.foldl (fun a c => if spanIn v v c = true then putI a c else a) a = a := by
    intro cs
    induction cs with
    | nil => exact fun _ => rfl
    | cons c cs ih =>
      intro a
      have h : spanIn v v c = false := by
        unfold spanIn
        by_cases h1 : v < c <;> by_cases h2 : c ≤ v <;> simp [h1, h2] <;> omega
      rw [List.foldl_cons, h]
      exact ih a
  exact key cs [v]
theorem vecs_single : ∀ x : List Int, vecs (x.map fun v => [v]) = [x]
  | [] => rfl
  | v :: x => by
    rw [List.map_cons]
    show ([v].flatMap fun u => (vecs (x.map fun v => [v])).map (u :: ·)) = _
    rw [vecs_single x]; rfl
theorem free_none (m : Mdl) (x : List Int) : stepsL m (freeL x []) = x.map fun v => [v] := by
  unfold stepsL
  rw [freeL_len]
  apply List.ext_getElem
  · simp
  · intro k h1 h2
    have hk : k < x.length := by simpa using h2
    simp only [List.getElem_map, List.getElem_range]
    have e : (freeL x []).getD k default = ⟨x[k], x[k]⟩ := by
      rw [getD_lt _ _ (by rw [freeL_len]; exact hk)]
      unfold freeL freeS
      simp [hk]
    rw [e]
    exact stepsI_same _ _
/-- The reasons of a model's answer. -/
def reaR (m : Mdl) (x : List Int) : Option (List Int × List Int) := reasR (fun y => wasB m.need (scoreM m y)) (wasB m.need (scoreM m x)) (fun s => vecs (stepsL m (freeL x s))) (setsS x.length)
def reaE (m : Mdl) (x : List Int) : Int := if forE m x = 0 then (if (reaR m x).isNone = true then 6 else 0) else forE m x
def reaS (m : Mdl) (x : List Int) : List Int := if forE m x = 0 then ((reaR m x).map Prod.fst).getD [] else []
def reaV (m : Mdl) (x : List Int) : List Int := if forE m x = 0 then ((reaR m x).map Prod.snd).getD [] else []
theorem reaR_some {m : Mdl} {x s v : List Int} (h : reaR m x = some (s, v)) : s ∈ setsS x.length ∧ ∃ y, y ∈ vecs (stepsL m (freeL x s)) ∧ wasB m.need (scoreM m y) ≠ wasB m.need (scoreM m x) ∧ v = pickV s y := by
  unfold reaR reasR at h
  obtain ⟨s', hs', he⟩ := List.exists_of_findSome?_eq_some h
  unfold firstR at he
  cases hf : (vecs (stepsL m (freeL x s'))).find? (fun y => wasB m.need (scoreM m y) != wasB m.need (scoreM m x)) with
  | none => rw [hf] at he; cases he
  | some y =>
    rw [hf] at he
    simp only [Option.map_some, Option.some.injEq, Prod.mk.injEq] at he
    obtain ⟨rfl, rfl⟩ := he
    have h2 := List.find?_some hf
    exact ⟨hs', y, List.mem_of_find?_eq_some hf, by simpa using h2, rfl⟩
theorem reaR_ne {m : Mdl} {x s v : List Int} (h : reaR m x = some (s, v)) : s ≠ [] := by
  obtain ⟨_, y, hy, hn, _⟩ := reaR_some h
  rintro rfl
  rw [free_none, vecs_single, List.mem_singleton] at hy
  exact hn (by rw [hy])
/-- What is handed back. -/
def ReaT (w : World) (m : Mdl) (x : List Int) (e : Ending) (w' : World) : Prop :=
  Below w.heap.size w w' ∧ ∃ (A : Option Addr) (a : Nat) (B : Option Addr) (b : Nat), e = .returned (.tuple #[.slice A (reaS m x).length a, .slice B (reaV m x).length b, .int .i64 (reaE m x)]) ∧ IntsAt w' w'.heap.size A (reaS m x) ∧ IntsAt w' w'.heap.size B (reaV m x)
set_option maxRecDepth 100000 in
set_option maxHeartbeats 8000000 in
theorem reasonsP_all (traits need : Int) (cl : List CrdD) (tl : List TreD) (C T : Option Addr) (c t : Nat) (x : List Int) (X : Option Addr) (xc : Nat) (w : World) (h : MdlAt w w.heap.size ⟨traits, cl, C, c, tl, T, t, need⟩) (hls : MdlLe ⟨traits, cl, C, c, tl, T, t, need⟩) (hx : IntsAt w w.heap.size X x) (hxl : x.length ≤ 10) :
    Calls Tryz.prog 13 #[.agg #[.int .i64 traits, .slice C cl.length c, .slice T tl.length t, .int .i64 need], .slice X x.length xc] w (ReaT w ⟨traits, cl.map CrdD.v, tl.map TreD.v, need⟩ x) := by
  have b1 := (Below.refl w.heap.size w).alloc (Nat.le_refl _) (.cells #[.int .i64 traits, .slice C cl.length c, .slice T tl.length t, .int .i64 need] 25)
  have k1 := Blk.new w #[.int .i64 traits, .slice C cl.length c, .slice T tl.length t, .int .i64 need] 25
  have k1c := k1.cell
  have b1s := b1.size
  by_cases q1 : mdlB ⟨traits, cl.map CrdD.v, tl.map TreD.v, need⟩ = true
  · by_cases q2 : valsB traits x = true
    · have hE : forE ⟨traits, cl.map CrdD.v, tl.map TreD.v, need⟩ x = 0 := by unfold forE; rw [if_pos q1]; exact if_pos q2
      obtain ⟨hT0, hnd, p3, p4, _, _⟩ := mdlB_parts q1
      have hl := valsB_len q2
      have hT5 : x.length ≤ 5 := by have h5 : traits ≤ 5 := hT0.2; omega
      have HC := Lib.hid (fun W hb => openFor_good traits need cl tl C T c t x X xc W (h.later (w' := W) hb) hls (hx.later hb) hxl q1 q2)
      have hls6 : cl.length ≤ 2 := by simpa using p3
      have hls7 : tl.length ≤ 2 := by simpa using p4
      have HSh := Lib.hid (fun (sh : List ShD) (hco : sh.map ShD.core = cl.map crdCore ++ tl.map treCore) (S : Option Addr) (s lo : Nat) W (hi : ShInv W lo S s (cl.length + tl.length) sh) (hb : Below w.heap.size w W) => hi.at_ (fun y hy q hq => ((core_parts h hco y hy q hq).below hb).more hb.size))
      have HRe := Lib.hid (fun (sh : List ShD) (hco : sh.map ShD.core = cl.map crdCore ++ tl.map treCore) (S : Option Addr) (s : Nat) W (hlen : sh.length = cl.length + tl.length) (hat : SharesAt W W.heap.size S sh) (hb : Below w.heap.size w W) => show Calls Tryz.prog 25 #[.agg #[.int .i64 traits, .slice C cl.length c, .slice T tl.length t, .int .i64 need, .slice S (cl.length + tl.length) s], .slice X x.length xc] W (ReasS W (reaR ⟨traits, cl.map CrdD.v, tl.map TreD.v, need⟩ x)) from by
        have hok := parts_ok (traits := traits) (need := need) hls hco
        have hr : reaR ⟨traits, cl.map CrdD.v, tl.map TreD.v, need⟩ x = reasR (fun y => wasB need (scoreM ⟨traits, cl.map CrdD.v, tl.map TreD.v, need⟩ y)) (wasB need (scoreM ⟨traits, cl.map CrdD.v, tl.map TreD.v, need⟩ x)) (fun s => listsS x.length (freeL x s) (fun k => allCuts (k : Int) sh)) (setsS x.length) := by
          unfold reaR
          congr 1
          funext s'
          rw [listsS_eq (traits := traits) (need := need) hco (freeL_len x s')]
        rw [hr]
        refine (callsIn_wide (n := 9)).1 ?_
        have := reasonsP_in x.length hT5 need hnd C T S X cl.length c tl.length t (cl.length + tl.length) s xc x rfl (fun k => allCuts (k : Int) sh) (scoreM ⟨traits, cl.map CrdD.v, tl.map TreD.v, need⟩) W (hx.later hb)
          (fun W2 hb2 => by
            have h9 := cuts_any x.length (by omega) need C T S cl.length c tl.length t s sh W2 (hat.later hb2) (by omega) (fun y hy => (hok y hy).1) (fun y hy => (hok y hy).2) (fun k => by rw [allCuts_eq (traits := traits) (need := need) hco k]; exact cutsT_len hls k) (fun A c zs hz w h => ascending_any A c zs hz w h)
            rw [hlen] at h9
            exact h9)
          (fun W2 X2 xc2 x2 hb2 hx2 hxl2 => by
            have hxt : (x2.length : Int) = traits := by rw [hxl2]; exact hl
            have h9 := scoreP_inv traits need C T S cl.length c tl.length t s (cl.length + tl.length) sh x2 X2 xc2 W2 hlen (hat.later hb2) hx2 (sh_ok q1 hxt hco) (by omega) (by omega)
            rw [sh_score hco traits need x2] at h9
            rw [hl]
            exact h9)
          (fun W2 z => by rw [hl]; exact yes_any traits need C T S cl.length c tl.length t (cl.length + tl.length) s z W2 hnd)
        rw [hl] at this
        exact this)
      cases hR : reaR ⟨traits, cl.map CrdD.v, tl.map TreD.v, need⟩ x with
      | none =>
        have e1 : reaS ⟨traits, cl.map CrdD.v, tl.map TreD.v, need⟩ x = [] := by unfold reaS; rw [if_pos hE, hR]; rfl
        have e2 : reaV ⟨traits, cl.map CrdD.v, tl.map TreD.v, need⟩ x = [] := by unfold reaV; rw [if_pos hE, hR]; rfl
        have e3 : reaE ⟨traits, cl.map CrdD.v, tl.map TreD.v, need⟩ x = 6 := by unfold reaE; rw [if_pos hE, hR]; rfl
        unfold ReaT
        rw [e1, e2, e3]
        rw [hR] at HRe
        clear h hx hls e1 e2 e3 hR hE
        go_enter Tryz.func13, Tryz.ntmps13
        go_wp2_with (first
          | (go_at_call 18; (with_reducible refine (HC.out _ b1).mono ?_); rintro e w5 ⟨S, s, sh, rfl, hco, hat, h5⟩; have HO := Lib.hid hco; have HA := Lib.hid hat; clear hco hat; have b5 := b1.trans (h5.mono b1s); have b6 := b5.alloc b5.size (.cells #[.int .i64 traits, .slice C cl.length c, .slice T tl.length t, .int .i64 need, .slice S (cl.length + tl.length) s] 66); have ba := (Below.refl w5.heap.size w5).alloc (Nat.le_refl _) (.cells #[.int .i64 traits, .slice C cl.length c, .slice T tl.length t, .int .i64 need, .slice S (cl.length + tl.length) s] 66); have kw := Blk.new w5 #[.int .i64 traits, .slice C cl.length c, .slice T tl.length t, .int .i64 need, .slice S (cl.length + tl.length) s] 66; have kwc := kw.cell)
          | (go_at_call 25; (with_reducible refine (HRe.out sh HO.out S s _ (ShInv.len HA.out) (HSh.out sh HO.out S s _ _ (HA.out.below ba) b6) b6).mono ?_); rintro e w7 ⟨h7, A, a, B, b, sv, vv, rfl, hA, hB, hm1, hm2⟩; subst hm1; subst hm2))
        all_goals go_ret3
        all_goals exact ⟨b6.trans (h7.mono b6.size), none, 0, none, 0, rfl, Flat.nil _ _ _ _ _, Flat.nil _ _ _ _ _⟩
      | some p =>
        obtain ⟨s0, v0⟩ := p
        have e1 : reaS ⟨traits, cl.map CrdD.v, tl.map TreD.v, need⟩ x = s0 := by unfold reaS; rw [if_pos hE, hR]; rfl
        have e2 : reaV ⟨traits, cl.map CrdD.v, tl.map TreD.v, need⟩ x = v0 := by unfold reaV; rw [if_pos hE, hR]; rfl
        have e3 : reaE ⟨traits, cl.map CrdD.v, tl.map TreD.v, need⟩ x = 0 := by unfold reaE; rw [if_pos hE, hR]; rfl
        have hne : ((s0.length : Int) == 0) = false := by
          have := reaR_ne hR
          have h0 : s0.length ≠ 0 := fun e => this (List.eq_nil_of_length_eq_zero e)
          simpa using h0
        unfold ReaT
        rw [e1, e2, e3]
        rw [hR] at HRe
        clear h hx hls e1 e2 e3 hR hE
        go_enter Tryz.func13, Tryz.ntmps13
        go_wp2_with (first
          | (go_at_call 18; (with_reducible refine (HC.out _ b1).mono ?_); rintro e w5 ⟨S, s, sh, rfl, hco, hat, h5⟩; have HO := Lib.hid hco; have HA := Lib.hid hat; clear hco hat; have b5 := b1.trans (h5.mono b1s); have b6 := b5.alloc b5.size (.cells #[.int .i64 traits, .slice C cl.length c, .slice T tl.length t, .int .i64 need, .slice S (cl.length + tl.length) s] 66); have ba := (Below.refl w5.heap.size w5).alloc (Nat.le_refl _) (.cells #[.int .i64 traits, .slice C cl.length c, .slice T tl.length t, .int .i64 need, .slice S (cl.length + tl.length) s] 66); have kw := Blk.new w5 #[.int .i64 traits, .slice C cl.length c, .slice T tl.length t, .int .i64 need, .slice S (cl.length + tl.length) s] 66; have kwc := kw.cell)
          | (go_at_call 25; (with_reducible refine (HRe.out sh HO.out S s _ (ShInv.len HA.out) (HSh.out sh HO.out S s _ _ (HA.out.below ba) b6) b6).mono ?_); rintro e w7 ⟨h7, A, a, B, b, sv, vv, rfl, hA, hB, hm1, hm2⟩; subst hm1; subst hm2))
        all_goals go_ret3
        all_goals exact ⟨b6.trans (h7.mono b6.size), A, a, B, b, rfl, hA, hB⟩
    · have q2' : valsB traits x = false := by simpa using q2
      have hE : forE ⟨traits, cl.map CrdD.v, tl.map TreD.v, need⟩ x = 61 := by unfold forE; rw [if_pos q1]; exact if_neg q2
      have hE0 : ¬ forE ⟨traits, cl.map CrdD.v, tl.map TreD.v, need⟩ x = 0 := by rw [hE]; decide
      have HR : Hid (reaS ⟨traits, cl.map CrdD.v, tl.map TreD.v, need⟩ x = [] ∧ reaV ⟨traits, cl.map CrdD.v, tl.map TreD.v, need⟩ x = [] ∧ reaE ⟨traits, cl.map CrdD.v, tl.map TreD.v, need⟩ x = 61) := Lib.hid ⟨by unfold reaS; rw [if_neg hE0], by unfold reaV; rw [if_neg hE0], by unfold reaE; rw [if_neg hE0, hE]⟩
      unfold ReaT
      rw [HR.out.1, HR.out.2.1, HR.out.2.2]
      have HC := Lib.hid (fun W hb => openFor_vals traits need cl tl C T c t x X xc W (h.later (w' := W) hb) hls (hx.later hb) hxl q1 q2')
      clear h hx hls hE hE0 HR q1 q2 q2'
      go_enter Tryz.func13, Tryz.ntmps13
      go_wp2_with (go_at_call 18; (with_reducible refine (HC.out _ b1).mono ?_); rintro e w5 ⟨rfl, h5⟩; have b5 := b1.trans (h5.mono b1s); have k5c := (Blk.new w5 #[.int .i64 0, .slice none 0 0, .slice none 0 0, .int .i64 0, .slice none 0 0] 66).cell)
      go_ret3
      exact ⟨b5.alloc b5.size _, none, 0, none, 0, rfl, Flat.nil _ _ _ _ _, Flat.nil _ _ _ _ _⟩
  · have q1' : mdlB ⟨traits, cl.map CrdD.v, tl.map TreD.v, need⟩ = false := by simpa using q1
    have hE : forE ⟨traits, cl.map CrdD.v, tl.map TreD.v, need⟩ x = 60 := by unfold forE; exact if_neg q1
    have hE0 : ¬ forE ⟨traits, cl.map CrdD.v, tl.map TreD.v, need⟩ x = 0 := by rw [hE]; decide
    have HR : Hid (reaS ⟨traits, cl.map CrdD.v, tl.map TreD.v, need⟩ x = [] ∧ reaV ⟨traits, cl.map CrdD.v, tl.map TreD.v, need⟩ x = [] ∧ reaE ⟨traits, cl.map CrdD.v, tl.map TreD.v, need⟩ x = 60) := Lib.hid ⟨by unfold reaS; rw [if_neg hE0], by unfold reaV; rw [if_neg hE0], by unfold reaE; rw [if_neg hE0, hE]⟩
    unfold ReaT
    rw [HR.out.1, HR.out.2.1, HR.out.2.2]
    have HC := Lib.hid (fun W hb => openFor_bad traits need cl tl C T c t x X xc W (h.later (w' := W) hb) hls q1')
    clear h hx hls hE hE0 HR q1 q1'
    go_enter Tryz.func13, Tryz.ntmps13
    go_wp2_with (go_at_call 18; (with_reducible refine (HC.out _ b1).mono ?_); rintro e w5 ⟨rfl, h5⟩; have b5 := b1.trans (h5.mono b1s); have k5c := (Blk.new w5 #[.int .i64 0, .slice none 0 0, .slice none 0 0, .int .i64 0, .slice none 0 0] 66).cell)
    go_ret3
    exact ⟨b5.alloc b5.size _, none, 0, none, 0, rfl, Flat.nil _ _ _ _ _, Flat.nil _ _ _ _ _⟩
end Go.Proofs.YtpahcbhikmfamaaGreat
