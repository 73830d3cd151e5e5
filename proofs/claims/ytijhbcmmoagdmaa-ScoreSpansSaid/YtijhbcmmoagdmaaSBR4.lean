/- Between, by the reference: what is refused. Written by a program. -/
import Derived.Test.YtijhbcmmoagdmaaSBR3
import Derived.Test.YtijhbcmmoagdmaaSRef8
import Derived.Test.YtijhbcmmoagdmaaBSaidP2

namespace Go.Proofs.Ytijhbcmmoagdmaa
open Go.RowKit Go.Maps

set_option maxRecDepth 100000 in
set_option maxHeartbeats 4000000 in
theorem betR_bad (traits need : Int) (cl : List CrdD) (tl : List TreD) (C T : Option Addr) (c t : Nat) (sp : List Spn) (SA : Option Addr) (sc : Nat) (w : World) (h : MdlAt w w.heap.size ⟨traits, cl, C, c, tl, T, t, need⟩) (hls : MdlLe ⟨traits, cl, C, c, tl, T, t, need⟩) (hq : mdlB ⟨traits, cl.map CrdD.v, tl.map TreD.v, need⟩ = false) :
    Calls Try.prog 16 #[.agg #[.int .i64 traits, .slice C cl.length c, .slice T tl.length t, .int .i64 need], .slice SA sp.length sc] w fun e w' => e = .returned (.tuple #[.agg #[.int .i64 0, .int .i64 0], .int .i64 60]) ∧ Below w.heap.size w w' := by
  have b1 := (Below.refl w.heap.size w).alloc (Nat.le_refl _) (.cells #[.int .i64 traits, .slice C cl.length c, .slice T tl.length t, .int .i64 need] 25)
  have b2 := b1.alloc b1.size (.cells #[.int .i64 0, .int .i64 0] 45)
  have km := (Blk.new w #[.int .i64 traits, .slice C cl.length c, .slice T tl.length t, .int .i64 need] 25).alloc (.cells #[.int .i64 0, .int .i64 0] 45)
  have kr := newAt' (w.alloc (.cells #[.int .i64 traits, .slice C cl.length c, .slice T tl.length t, .int .i64 need] 25)) #[.int .i64 0, .int .i64 0] 45 (g := w.heap.size + 1) (by simp)
  have kmc := km.cell
  have HC := Lib.hid (check6_all traits need cl tl C T c t _ (h.later b2) hls)
  have gm := km.lt
  have gr := kr.lt
  have hf : mdlE ⟨traits, cl.map CrdD.v, tl.map TreD.v, need⟩ = 60 := by unfold mdlE; rw [if_neg (by rw [hq]; simp)]
  rw [hf] at HC
  clear h hls hf b1
  go_enter Try.func16, Try.ntmps16
  go_upto_region 1 with fail
  generalize hW : (w.alloc (.cells #[.int .i64 traits, .slice C cl.length c, .slice T tl.length t, .int .i64 need] 25)).alloc (.cells #[.int .i64 0, .int .i64 0] 45) = W2 at *
  clear hW
  have b2s := b2.size
  go_wp2_with (go_at_call 12; (with_reducible refine (HC.out).mono ?_); rintro e w3 ⟨rfl, h3⟩; have b3 := b2.trans (h3.mono b2s); have km3 := km.below h3 gm; have km3c := km3.cell; have kr3 := kr.below h3 gr; have kr3c := kr3.cell; have z0 := kr3.free 0; have z1 := kr3.free 1)
  have hrc := (sp_put (c0 := .int .i64 0) (c1 := .int .i64 0) kr3).cell
  exact bodyPost_ret (v := .tuple #[.agg #[.int .i64 0, .int .i64 0], .int .i64 60]) (by simp [results, Try.results16, go_sem, hrc]) rfl ⟨rfl, (b3.setCell (p := ⟨w.heap.size + 1, 0, none⟩) (by simp) _).setCell (p := ⟨w.heap.size + 1, 1, none⟩) (by simp) _⟩

set_option maxRecDepth 100000 in
set_option maxHeartbeats 4000000 in
theorem betR_len (traits need : Int) (cl : List CrdD) (tl : List TreD) (C T : Option Addr) (c t : Nat) (sp : List Spn) (SA : Option Addr) (sc : Nat) (w : World) (h : MdlAt w w.heap.size ⟨traits, cl, C, c, tl, T, t, need⟩) (hls : MdlLe ⟨traits, cl, C, c, tl, T, t, need⟩) (hq : mdlB ⟨traits, cl.map CrdD.v, tl.map TreD.v, need⟩ = true) (hn : ¬ (sp.length : Int) = traits) :
    Calls Try.prog 16 #[.agg #[.int .i64 traits, .slice C cl.length c, .slice T tl.length t, .int .i64 need], .slice SA sp.length sc] w fun e w' => e = .returned (.tuple #[.agg #[.int .i64 0, .int .i64 0], .int .i64 61]) ∧ Below w.heap.size w w' := by
  have b1 := (Below.refl w.heap.size w).alloc (Nat.le_refl _) (.cells #[.int .i64 traits, .slice C cl.length c, .slice T tl.length t, .int .i64 need] 25)
  have b2 := b1.alloc b1.size (.cells #[.int .i64 0, .int .i64 0] 45)
  have km := (Blk.new w #[.int .i64 traits, .slice C cl.length c, .slice T tl.length t, .int .i64 need] 25).alloc (.cells #[.int .i64 0, .int .i64 0] 45)
  have kr := newAt' (w.alloc (.cells #[.int .i64 traits, .slice C cl.length c, .slice T tl.length t, .int .i64 need] 25)) #[.int .i64 0, .int .i64 0] 45 (g := w.heap.size + 1) (by simp)
  have kmc := km.cell
  have HC := Lib.hid (check6_all traits need cl tl C T c t _ (h.later b2) hls)
  have gm := km.lt
  have gr := kr.lt
  have hf : mdlE ⟨traits, cl.map CrdD.v, tl.map TreD.v, need⟩ = 0 := by unfold mdlE; rw [if_pos hq]
  rw [hf] at HC
  clear h hls hf b1
  have e1 : ((sp.length : Int) != traits) = true := by simpa using hn
  clear hn hq
  go_enter Try.func16, Try.ntmps16
  go_upto_region 1 with fail
  generalize hW : (w.alloc (.cells #[.int .i64 traits, .slice C cl.length c, .slice T tl.length t, .int .i64 need] 25)).alloc (.cells #[.int .i64 0, .int .i64 0] 45) = W2 at *
  clear hW
  have b2s := b2.size
  go_wp2_with (go_at_call 12; (with_reducible refine (HC.out).mono ?_); rintro e w3 ⟨rfl, h3⟩; have b3 := b2.trans (h3.mono b2s); have km3 := km.below h3 gm; have km3c := km3.cell; have kr3 := kr.below h3 gr; have kr3c := kr3.cell; have z0 := kr3.free 0; have z1 := kr3.free 1)
  have hrc := (sp_put (c0 := .int .i64 0) (c1 := .int .i64 0) kr3).cell
  exact bodyPost_ret (v := .tuple #[.agg #[.int .i64 0, .int .i64 0], .int .i64 61]) (by simp [results, Try.results16, go_sem, hrc]) rfl ⟨rfl, (b3.setCell (p := ⟨w.heap.size + 1, 0, none⟩) (by simp) _).setCell (p := ⟨w.heap.size + 1, 1, none⟩) (by simp) _⟩

end Go.Proofs.Ytijhbcmmoagdmaa
