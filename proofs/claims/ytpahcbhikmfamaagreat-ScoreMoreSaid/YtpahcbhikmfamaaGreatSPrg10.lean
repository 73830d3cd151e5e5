/- Score and Points, by the program. Written by a program. -/
import Derived.Test.YtpahcbhikmfamaaGreatSPrg9

namespace Go.Proofs.YtpahcbhikmfamaaGreat
open Go.RowKit Go.Maps

theorem ShInv.len {w : World} {lo : Nat} {A : Option Addr} {c n : Nat} {l : List ShD} (h : ShInv w lo A c n l) : l.length = n := h.1
theorem scoreP_inv (traits need : Int) (C T S : Option Addr) (cl c tl t s n : Nat) (l : List ShD) (x : List Int) (X : Option Addr) (xc : Nat) (w : World) (hn : l.length = n) (h : SharesAt w w.heap.size S l) (hx : IntsAt w w.heap.size X x) (hok : ∀ y ∈ l, ShOk x.length y) (hl : n ≤ 10) (hxl : x.length ≤ 10) :
    Calls Tryz.prog 19 #[.agg #[.int .i64 traits, .slice C cl c, .slice T tl t, .int .i64 need, .slice S n s], .slice X x.length xc] w fun e w' => e = .returned (.int .i64 (sumL (l.map fun y => y.weight * shPts x y))) ∧ Below w.heap.size w w' := by
  subst hn; exact scoreP_any traits need C T S cl c tl t s l x X xc w h hx hok hl hxl
theorem pointsP_inv (traits need : Int) (C T S : Option Addr) (cl c tl t s n : Nat) (l : List ShD) (x : List Int) (X : Option Addr) (xc : Nat) (w : World) (hn : l.length = n) (h : SharesAt w w.heap.size S l) (hx : IntsAt w w.heap.size X x) (hok : ∀ y ∈ l, ShOk x.length y) (hl : n ≤ 10) (hxl : x.length ≤ 10) :
    Calls Tryz.prog 21 #[.agg #[.int .i64 traits, .slice C cl c, .slice T tl t, .int .i64 need, .slice S n s], .slice X x.length xc] w fun e w' => ∃ A' c', e = .returned (.slice A' n c') ∧ w'.ownsRow w.heap.size 3 1 (.slice A' n c') n ((l.map (shPts x)).flatMap intC) ∧ Below w.heap.size w w' := by
  subst hn; exact pointsP_any traits need C T S cl c tl t s l x X xc w h hx hok hl hxl

set_option maxRecDepth 100000 in
set_option maxHeartbeats 4000000 in
theorem scoreP_all (traits need : Int) (cl : List CrdD) (tl : List TreD) (C T : Option Addr) (c t : Nat) (x : List Int) (X : Option Addr) (xc : Nat) (w : World) (h : MdlAt w w.heap.size ⟨traits, cl, C, c, tl, T, t, need⟩) (hls : MdlLe ⟨traits, cl, C, c, tl, T, t, need⟩) (hx : IntsAt w w.heap.size X x) (hxl : x.length ≤ 10) :
    Calls Tryz.prog 6 #[.agg #[.int .i64 traits, .slice C cl.length c, .slice T tl.length t, .int .i64 need], .slice X x.length xc] w (fun e w' => e = .returned (.tuple #[.int .i64 (scN ⟨traits, cl.map CrdD.v, tl.map TreD.v, need⟩ x), .bool (scY ⟨traits, cl.map CrdD.v, tl.map TreD.v, need⟩ x), .int .i64 (forE ⟨traits, cl.map CrdD.v, tl.map TreD.v, need⟩ x)]) ∧ Below w.heap.size w w') := by
  have b1 := (Below.refl w.heap.size w).alloc (Nat.le_refl _) (.cells #[.int .i64 traits, .slice C cl.length c, .slice T tl.length t, .int .i64 need] 25)
  have k1 := Blk.new w #[.int .i64 traits, .slice C cl.length c, .slice T tl.length t, .int .i64 need] 25
  have k1c := k1.cell
  have b1s := b1.size
  by_cases q1 : mdlB ⟨traits, cl.map CrdD.v, tl.map TreD.v, need⟩ = true
  · by_cases q2 : valsB traits x = true
    · have hE : forE ⟨traits, cl.map CrdD.v, tl.map TreD.v, need⟩ x = 0 := by unfold forE; rw [if_pos q1]; exact if_pos q2
      have e1 : scN ⟨traits, cl.map CrdD.v, tl.map TreD.v, need⟩ x = scoreM ⟨traits, cl.map CrdD.v, tl.map TreD.v, need⟩ x := by unfold scN; rw [if_pos hE]
      have e2 : scY ⟨traits, cl.map CrdD.v, tl.map TreD.v, need⟩ x = decide (1000 * need ≤ scoreM ⟨traits, cl.map CrdD.v, tl.map TreD.v, need⟩ x) := by unfold scY; rw [if_pos hE]
      rw [e1, e2, hE]
      clear hE e1 e2
      obtain ⟨_, hnd, p3, p4, _, _⟩ := mdlB_parts q1
      have hl := valsB_len q2
      have HC := Lib.hid (fun W hb => openFor_good traits need cl tl C T c t x X xc W (h.later (w' := W) hb) hls (hx.later hb) hxl q1 q2)
      have hls6 : cl.length ≤ 2 := by simpa using p3
      have hls7 : tl.length ≤ 2 := by simpa using p4
      have HSh := Lib.hid (fun (sh : List ShD) (hco : sh.map ShD.core = cl.map crdCore ++ tl.map treCore) (S : Option Addr) (s lo : Nat) W (hi : ShInv W lo S s (cl.length + tl.length) sh) (hb : Below w.heap.size w W) => hi.at_ (fun y hy q hq => ((core_parts h hco y hy q hq).below hb).more hb.size))
      have HS := Lib.hid (fun (sh : List ShD) (hco : sh.map ShD.core = cl.map crdCore ++ tl.map treCore) (S : Option Addr) (s : Nat) W (hlen : sh.length = cl.length + tl.length) (hat : SharesAt W W.heap.size S sh) (hb : Below w.heap.size w W) => show Calls Tryz.prog 19 #[.agg #[.int .i64 traits, .slice C cl.length c, .slice T tl.length t, .int .i64 need, .slice S (cl.length + tl.length) s], .slice X x.length xc] W (fun e w' => e = .returned (.int .i64 (scoreM ⟨traits, cl.map CrdD.v, tl.map TreD.v, need⟩ x)) ∧ Below W.heap.size W w') from by rw [← sh_score hco traits need x]; exact scoreP_inv traits need C T S cl.length c tl.length t s (cl.length + tl.length) sh x X xc W hlen hat (hx.later hb) (sh_ok q1 hl hco) (by omega) hxl)
      have HY := Lib.hid (fun (S : Option Addr) (n s : Nat) (z : Int) W => yes_any traits need C T S cl.length c tl.length t n s z W hnd)
      clear h hx hls
      generalize scoreM ⟨traits, cl.map CrdD.v, tl.map TreD.v, need⟩ x = z at *
      go_enter Tryz.func6, Tryz.ntmps6
      go_wp2_with (first
        | (go_at_call 18; (with_reducible refine (HC.out _ b1).mono ?_); rintro e w5 ⟨S, s, sh, rfl, hco, hat, h5⟩; have HO := Lib.hid hco; have HA := Lib.hid hat; clear hco hat; have b5 := b1.trans (h5.mono b1s); have b6 := b5.alloc b5.size (.cells #[.int .i64 traits, .slice C cl.length c, .slice T tl.length t, .int .i64 need, .slice S (cl.length + tl.length) s] 66); have ba := (Below.refl w5.heap.size w5).alloc (Nat.le_refl _) (.cells #[.int .i64 traits, .slice C cl.length c, .slice T tl.length t, .int .i64 need, .slice S (cl.length + tl.length) s] 66); have kw := Blk.new w5 #[.int .i64 traits, .slice C cl.length c, .slice T tl.length t, .int .i64 need, .slice S (cl.length + tl.length) s] 66; have kwc := kw.cell)
        | (go_at_call 19; (with_reducible refine (HS.out sh HO.out S s _ (ShInv.len HA.out) (HSh.out sh HO.out S s _ _ (HA.out.below ba) b6) b6).mono ?_); rintro e w7 ⟨rfl, h7⟩; have b7 := b6.trans (h7.mono b6.size); have k7c := (kw.below h7 kw.lt).cell)
        | (go_at_call 20; (with_reducible refine (HY.out S _ s z _).mono ?_); rintro e w8 ⟨rfl, h8⟩))
      go_ret3
      exact ⟨rfl, b7.trans (h8.mono b7.size)⟩
    · have q2' : valsB traits x = false := by simpa using q2
      have hE : forE ⟨traits, cl.map CrdD.v, tl.map TreD.v, need⟩ x = 61 := by unfold forE; rw [if_pos q1]; exact if_neg q2
      have HR : Hid (scN ⟨traits, cl.map CrdD.v, tl.map TreD.v, need⟩ x = 0 ∧ scY ⟨traits, cl.map CrdD.v, tl.map TreD.v, need⟩ x = false ∧ forE ⟨traits, cl.map CrdD.v, tl.map TreD.v, need⟩ x = 61) := Lib.hid ⟨by unfold scN; rw [hE]; rfl, by unfold scY; rw [hE]; rfl, hE⟩
      rw [HR.out.1, HR.out.2.1, HR.out.2.2]
      have HC := Lib.hid (fun W hb => openFor_vals traits need cl tl C T c t x X xc W (h.later (w' := W) hb) hls (hx.later hb) hxl q1 q2')
      clear h hx hls hE HR q1 q2 q2'
      go_enter Tryz.func6, Tryz.ntmps6
      go_wp2_with (go_at_call 18; (with_reducible refine (HC.out _ b1).mono ?_); rintro e w5 ⟨rfl, h5⟩; have b5 := b1.trans (h5.mono b1s); have k5c := (Blk.new w5 #[.int .i64 0, .slice none 0 0, .slice none 0 0, .int .i64 0, .slice none 0 0] 66).cell)
      go_ret3
      exact ⟨rfl, b5.alloc b5.size _⟩
  · have q1' : mdlB ⟨traits, cl.map CrdD.v, tl.map TreD.v, need⟩ = false := by simpa using q1
    have hE : forE ⟨traits, cl.map CrdD.v, tl.map TreD.v, need⟩ x = 60 := by unfold forE; exact if_neg q1
    have HR : Hid (scN ⟨traits, cl.map CrdD.v, tl.map TreD.v, need⟩ x = 0 ∧ scY ⟨traits, cl.map CrdD.v, tl.map TreD.v, need⟩ x = false ∧ forE ⟨traits, cl.map CrdD.v, tl.map TreD.v, need⟩ x = 60) := Lib.hid ⟨by unfold scN; rw [hE]; rfl, by unfold scY; rw [hE]; rfl, hE⟩
    rw [HR.out.1, HR.out.2.1, HR.out.2.2]
    have HC := Lib.hid (fun W hb => openFor_bad traits need cl tl C T c t x X xc W (h.later (w' := W) hb) hls q1')
    clear h hx hls hE HR q1 q1'
    go_enter Tryz.func6, Tryz.ntmps6
    go_wp2_with (go_at_call 18; (with_reducible refine (HC.out _ b1).mono ?_); rintro e w5 ⟨rfl, h5⟩; have b5 := b1.trans (h5.mono b1s); have k5c := (Blk.new w5 #[.int .i64 0, .slice none 0 0, .slice none 0 0, .int .i64 0, .slice none 0 0] 66).cell)
    go_ret3
    exact ⟨rfl, b5.alloc b5.size _⟩

set_option maxRecDepth 100000 in
set_option maxHeartbeats 4000000 in
theorem pointsP_all (traits need : Int) (cl : List CrdD) (tl : List TreD) (C T : Option Addr) (c t : Nat) (x : List Int) (X : Option Addr) (xc : Nat) (w : World) (h : MdlAt w w.heap.size ⟨traits, cl, C, c, tl, T, t, need⟩) (hls : MdlLe ⟨traits, cl, C, c, tl, T, t, need⟩) (hx : IntsAt w w.heap.size X x) (hxl : x.length ≤ 10) :
    Calls Tryz.prog 10 #[.agg #[.int .i64 traits, .slice C cl.length c, .slice T tl.length t, .int .i64 need], .slice X x.length xc] w fun e w' => ∃ A' c', e = .returned (.tuple #[.slice A' (ptL ⟨traits, cl.map CrdD.v, tl.map TreD.v, need⟩ x).length c', .int .i64 (forE ⟨traits, cl.map CrdD.v, tl.map TreD.v, need⟩ x)]) ∧ w'.ownsRow w.heap.size 3 1 (.slice A' (ptL ⟨traits, cl.map CrdD.v, tl.map TreD.v, need⟩ x).length c') (ptL ⟨traits, cl.map CrdD.v, tl.map TreD.v, need⟩ x).length ((ptL ⟨traits, cl.map CrdD.v, tl.map TreD.v, need⟩ x).flatMap intC) ∧ Below w.heap.size w w' := by
  have b1 := (Below.refl w.heap.size w).alloc (Nat.le_refl _) (.cells #[.int .i64 traits, .slice C cl.length c, .slice T tl.length t, .int .i64 need] 25)
  have k1 := Blk.new w #[.int .i64 traits, .slice C cl.length c, .slice T tl.length t, .int .i64 need] 25
  have k1c := k1.cell
  have b1s := b1.size
  by_cases q1 : mdlB ⟨traits, cl.map CrdD.v, tl.map TreD.v, need⟩ = true
  · by_cases q2 : valsB traits x = true
    · have hE : forE ⟨traits, cl.map CrdD.v, tl.map TreD.v, need⟩ x = 0 := by unfold forE; rw [if_pos q1]; exact if_pos q2
      have e1 : ptL ⟨traits, cl.map CrdD.v, tl.map TreD.v, need⟩ x = ptsL ⟨traits, cl.map CrdD.v, tl.map TreD.v, need⟩ x := by unfold ptL; rw [if_pos hE]
      have e2 : (ptsL ⟨traits, cl.map CrdD.v, tl.map TreD.v, need⟩ x).length = cl.length + tl.length := by unfold ptsL; simp
      rw [e1, e2, hE]
      clear hE e1 e2
      obtain ⟨_, hnd, p3, p4, _, _⟩ := mdlB_parts q1
      have hl := valsB_len q2
      have HC := Lib.hid (fun W hb => openFor_good traits need cl tl C T c t x X xc W (h.later (w' := W) hb) hls (hx.later hb) hxl q1 q2)
      have hls6 : cl.length ≤ 2 := by simpa using p3
      have hls7 : tl.length ≤ 2 := by simpa using p4
      have HSh := Lib.hid (fun (sh : List ShD) (hco : sh.map ShD.core = cl.map crdCore ++ tl.map treCore) (S : Option Addr) (s lo : Nat) W (hi : ShInv W lo S s (cl.length + tl.length) sh) (hb : Below w.heap.size w W) => hi.at_ (fun y hy q hq => ((core_parts h hco y hy q hq).below hb).more hb.size))
      have HS := Lib.hid (fun (sh : List ShD) (hco : sh.map ShD.core = cl.map crdCore ++ tl.map treCore) (S : Option Addr) (s : Nat) W (hlen : sh.length = cl.length + tl.length) (hat : SharesAt W W.heap.size S sh) (hb : Below w.heap.size w W) => show Calls Tryz.prog 21 #[.agg #[.int .i64 traits, .slice C cl.length c, .slice T tl.length t, .int .i64 need, .slice S (cl.length + tl.length) s], .slice X x.length xc] W (fun e w' => ∃ A' c', e = .returned (.slice A' (cl.length + tl.length) c') ∧ w'.ownsRow W.heap.size 3 1 (.slice A' (cl.length + tl.length) c') (cl.length + tl.length) ((ptsL ⟨traits, cl.map CrdD.v, tl.map TreD.v, need⟩ x).flatMap intC) ∧ Below W.heap.size W w') from by rw [← sh_points hco traits need x]; exact pointsP_inv traits need C T S cl.length c tl.length t s (cl.length + tl.length) sh x X xc W hlen hat (hx.later hb) (sh_ok q1 hl hco) (by omega) hxl)
      clear h hx hls
      generalize ptsL ⟨traits, cl.map CrdD.v, tl.map TreD.v, need⟩ x = L at *
      go_enter Tryz.func10, Tryz.ntmps10
      go_wp2_with (first
        | (go_at_call 18; (with_reducible refine (HC.out _ b1).mono ?_); rintro e w5 ⟨S, s, sh, rfl, hco, hat, h5⟩; have HO := Lib.hid hco; have HA := Lib.hid hat; clear hco hat; have b5 := b1.trans (h5.mono b1s); have b6 := b5.alloc b5.size (.cells #[.int .i64 traits, .slice C cl.length c, .slice T tl.length t, .int .i64 need, .slice S (cl.length + tl.length) s] 66); have ba := (Below.refl w5.heap.size w5).alloc (Nat.le_refl _) (.cells #[.int .i64 traits, .slice C cl.length c, .slice T tl.length t, .int .i64 need, .slice S (cl.length + tl.length) s] 66); have kw := Blk.new w5 #[.int .i64 traits, .slice C cl.length c, .slice T tl.length t, .int .i64 need, .slice S (cl.length + tl.length) s] 66; have kwc := kw.cell)
        | (go_at_call 21; (with_reducible refine (HS.out sh HO.out S s _ (ShInv.len HA.out) (HSh.out sh HO.out S s _ _ (HA.out.below ba) b6) b6).mono ?_); rintro e w7 ⟨A7, c7, rfl, hown, h7⟩; have HW := Lib.hid hown; clear hown))
      go_ret2
      exact ⟨A7, c7, rfl, own_base HW.out b6.size, b6.trans (h7.mono b6.size)⟩
    · have q2' : valsB traits x = false := by simpa using q2
      have hE : forE ⟨traits, cl.map CrdD.v, tl.map TreD.v, need⟩ x = 61 := by unfold forE; rw [if_pos q1]; exact if_neg q2
      have hR : ptL ⟨traits, cl.map CrdD.v, tl.map TreD.v, need⟩ x = [] := by unfold ptL; rw [hE]; rfl
      rw [hR, hE]
      have HC := Lib.hid (fun W hb => openFor_vals traits need cl tl C T c t x X xc W (h.later (w' := W) hb) hls (hx.later hb) hxl q1 q2')
      clear h hx hls hE hR q1 q2 q2'
      go_enter Tryz.func10, Tryz.ntmps10
      go_wp2_with (go_at_call 18; (with_reducible refine (HC.out _ b1).mono ?_); rintro e w5 ⟨rfl, h5⟩; have b5 := b1.trans (h5.mono b1s); have k5c := (Blk.new w5 #[.int .i64 0, .slice none 0 0, .slice none 0 0, .int .i64 0, .slice none 0 0] 66).cell)
      go_ret2
      exact ⟨none, 0, rfl, World.ownsRow_nil _ _ _ _, b5.alloc b5.size _⟩
  · have q1' : mdlB ⟨traits, cl.map CrdD.v, tl.map TreD.v, need⟩ = false := by simpa using q1
    have hE : forE ⟨traits, cl.map CrdD.v, tl.map TreD.v, need⟩ x = 60 := by unfold forE; exact if_neg q1
    have hR : ptL ⟨traits, cl.map CrdD.v, tl.map TreD.v, need⟩ x = [] := by unfold ptL; rw [hE]; rfl
    rw [hR, hE]
    have HC := Lib.hid (fun W hb => openFor_bad traits need cl tl C T c t x X xc W (h.later (w' := W) hb) hls q1')
    clear h hx hls hE hR q1 q1'
    go_enter Tryz.func10, Tryz.ntmps10
    go_wp2_with (go_at_call 18; (with_reducible refine (HC.out _ b1).mono ?_); rintro e w5 ⟨rfl, h5⟩; have b5 := b1.trans (h5.mono b1s); have k5c := (Blk.new w5 #[.int .i64 0, .slice none 0 0, .slice none 0 0, .int .i64 0, .slice none 0 0] 66).cell)
    go_ret2
    exact ⟨none, 0, rfl, World.ownsRow_nil _ _ _ _, b5.alloc b5.size _⟩
end Go.Proofs.YtpahcbhikmfamaaGreat
