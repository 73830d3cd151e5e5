/- The facts that stand, by the program. Written by genstp.py. -/
import Derived.Test.YtliijiflbfgfaaaDoorAHearW

namespace Go.Proofs.YtliijiflbfgfaaaDoor
open Go.RowKit Go.Maps

/-- What has been noted of some. -/
def outP (K ps : List Rep) : List Rep := (ps.filter fun r => decide (r.kind ≤ 7)).map (standOf K)
theorem outP_fact {K ps : List Rep} {r : Rep} (h : r.kind ≤ 7) : outP K (ps ++ [r]) = outP K ps ++ [standOf K r] := by
  unfold outP
  rw [List.filter_append, List.map_append, List.filter_cons_of_pos (by simpa using h)]; rfl
theorem outP_not {K ps : List Rep} {r : Rep} (h : ¬ r.kind ≤ 7) : outP K (ps ++ [r]) = outP K ps := by
  unfold outP
  rw [List.filter_append, List.map_append, List.filter_cons_of_neg (by simpa using h)]; simp
theorem outP_le (K ps : List Rep) : (outP K ps).length ≤ ps.length := by
  unfold outP
  rw [List.length_map]
  exact List.length_filter_le _ _
theorem outP_end {K ps : List Rep} (hp : ps.Perm (leftL K)) : (outP K ps).Perm (standS K) := by
  unfold outP standS
  refine List.Perm.map _ ?_
  have e : K.filter (factB K) = (leftL K).filter fun r => decide (r.kind ≤ 7) := by
    unfold leftL
    rw [List.filter_filter]
    rfl
  rw [e]
  exact hp.filter _
theorem standL_of {K l' zs : List Rep} (hn : (K.map Rep.id).Nodup) (hp : l'.Perm zs) (hz : zs.Perm (standS K)) (hs : l'.Pairwise leA) : l' = standL K := by
  refine standL_eq hn (hp.trans hz) ?_
  have h2 : (l'.map Rep.id).Nodup := ((hp.trans hz).map Rep.id).nodup_iff.2 (standS_nodup hn)
  have h3 : l'.Pairwise fun a b => a.id ≠ b.id := List.pairwise_map.1 h2
  refine (hs.and h3).imp fun {a b} h => ?_
  obtain ⟨h4, h5⟩ := h
  rw [beforeB_iff]
  rcases h4 with h4 | ⟨h4, h6⟩
  · exact .inl h4
  · exact .inr ⟨h4, by omega⟩
theorem KN.row {w w' : World} {m0 m1 m2 m3 n base size k : Nat} {f0 f1 f2 f3 : Int → Option Value} {e : TypeId} {v : Value} {xs : List Value} (h : KN w m0 m1 m2 m3 n f0 f1 f2 f3) (hr : w.ownsRow base e size v k xs) (hg : w.grownBy w' v.ownBlock) : KN w' m0 m1 m2 m3 n f0 f1 f2 f3 := by
  rcases hr.2 with ⟨rfl, _⟩ | ⟨g, cap, cur, rfl, _, hb, _⟩
  · exact h.more hg
  · exact h.turn (r := g) hg (fun es c e => by rw [hb] at e; cases e)
theorem Step.row {w w' : World} {base size k : Nat} {e : TypeId} {v : Value} {xs : List Value} (hr : w.ownsRow base e size v k xs) (hg : w.grownBy w' v.ownBlock) {g : Nat} {cs : Array Value} {t : TypeId} (h : Blk w g cs t) (ht : t ≠ e) : Blk w' g cs t := by
  refine h.grown hg (fun e' => ?_)
  rcases hr.2 with ⟨rfl, _⟩ | ⟨g', cap, cur, rfl, _, hb, _⟩
  · simp [Value.ownBlock] at e'
  · have : g = g' := by simpa [Value.ownBlock] using e'
    subst this
    unfold Blk at h
    rw [h] at hb
    injection hb with hb
    injection hb with _ hb _
    exact ht hb
theorem ranges_row {w w' : World} {m r n cnt base size k : Nat} {D : DataW Value} {left : Lit → Bool} {e : TypeId} {v : Value} {xs : List Value} (h : w.ranges Tryd.prog 3 rawElem m r n D left cnt) (hr : w.ownsRow base e size v k xs) (hg : w.grownBy w' v.ownBlock) : w'.ranges Tryd.prog 3 rawElem m r n D left cnt := by
  obtain ⟨o, ho, hoc, _⟩ := ranges_it h
  have hm : ∃ es c, w.heap[m]? = some (.map es c) := by obtain ⟨es, c, _, _, _, h1, _⟩ := h; exact ⟨es, c, h1⟩
  rcases hr.2 with ⟨rfl, _⟩ | ⟨g, cap, cur, rfl, _, hb, _⟩
  · exact h.kept hg (by simp [Value.ownBlock]) (by simp [Value.ownBlock])
  · refine h.kept hg (fun e' => ?_) (fun e' => ?_)
    · obtain ⟨es, c, h1⟩ := hm
      have : m = g := by simpa [Value.ownBlock] using e'
      subst this
      rw [h1] at hb; cases hb
    · have : r = g := by simpa [Value.ownBlock] using e'
      subst this
      rw [ho] at hb; cases hb; cases hoc
theorem grownBy_set (V : World) (g o : Nat) (v : Value) : V.grownBy (V.setCell ⟨g, o, none⟩ v) (some g) :=
  ⟨rfl, rfl, rfl, by simp, fun k _ hne => Below.heap_setCell _ _ _ _ (fun e => hne (by rw [e]))⟩
theorem stand_set {V : World} {g o m0 m1 m2 m3 n n' r hs base size k cnt : Nat} {f0 f1 f2 f3 : Int → Option Value} {D : DataW Value} {left : Lit → Bool} {e t t' : TypeId} {cs cs' : Array Value} {vv : Value} {xs : List Value} (h5 : Blk V g cs t) (hrow : ∀ q, vv.ownBlock = some q → q < g) (hkb : hs < g) (ow : V.ownsRow base e size vv k xs) (kn : KN V m0 m1 m2 m3 n f0 f1 f2 f3) (rg : V.ranges Tryd.prog 3 rawElem m0 r n' D left cnt) (kb : Blk V hs cs' t') (v : Value) :
    (V.setCell ⟨g, o, none⟩ v).ownsRow base e size vv k xs ∧ KN (V.setCell ⟨g, o, none⟩ v) m0 m1 m2 m3 n f0 f1 f2 f3 ∧ (V.setCell ⟨g, o, none⟩ v).ranges Tryd.prog 3 rawElem m0 r n' D left cnt ∧ Blk (V.setCell ⟨g, o, none⟩ v) hs cs' t' := by
  have hg := grownBy_set V g o v
  obtain ⟨ob, ho, hoc, _⟩ := ranges_it rg
  have hm : ∃ es c, V.heap[m0]? = some (.map es c) := by obtain ⟨es, c, _, _, _, h1, _⟩ := rg; exact ⟨es, c, h1⟩
  unfold Blk at h5
  refine ⟨ow.kept hg ?_, kn.turn hg (fun es c e' => by rw [h5] at e'; cases e'), rg.kept hg (fun e' => ?_) (fun e' => ?_), kb.grown hg (fun e' => by have := Option.some.inj e'; omega)⟩
  · cases hv : vv.ownBlock with
    | none => exact .inl rfl
    | some q => exact .inr (fun e' => by have := hrow q hv; have := Option.some.inj e'; omega)
  · obtain ⟨es, c, h1⟩ := hm
    have := Option.some.inj e'
    subst this
    rw [h1] at h5; cases h5
  · have := Option.some.inj e'
    subst this
    rw [ho] at h5; cases h5; cases hoc
/-- Where the facts that stand can be asked for, one after the other. -/
structure StAt (w w' : World) (K : List Rep) (Bs : Nat) (A : Option Addr) (c : Nat) : Prop where
  lt : Bs < w'.heap.size
  cell : w'.cell? ⟨Bs, 0, none⟩ = some (.slice A (standL K).length c)
  reps : Reps w' w'.heap.size A (standL K)
  below : Below w.heap.size w w'

set_option maxRecDepth 100000 in
set_option maxHeartbeats 8000000 in
theorem standingP_any (m0 m1 m2 m3 n : Nat) (K : List Rep) (w : World) (hKN : KN w m0 m1 m2 m3 n (repF (leftL K)) (wdMV K) (coMV K) (wkA K)) (hK : KnOk K) (hwf : KnWf K) :
    Calls Tryd.prog 13 #[knowV m0 m1 m2 m3] w fun e w' => ∃ Bs A c, e = .returned (.func (.func 41) #[] #[.pointer (some ⟨Bs, 0, none⟩)]) ∧ StAt w w' K Bs A c := by
  obtain ⟨i0, hi0, hz0, hz1, hz2⟩ := info_parts repInfo

  have HK := Lib.hid hK
  have HWF := Lib.hid hwf
  have kb := Blk.new w #[.map (some m0), .map (some m1), .map (some m2), .map (some m3)] 42
  have hKN1 := hKN.alloc (.cells #[.map (some m0), .map (some m1), .map (some m2), .map (some m3)] 42)
  have hb1 := (Below.refl w.heap.size w).alloc (Nat.le_refl _) (.cells #[.map (some m0), .map (some m1), .map (some m2), .map (some m3)] 42)
  obtain ⟨D, hownD, hatD⟩ := hKN1.r0
  have hat2 : ∀ kl z, D.atKey kl z = gotAt (repG (leftL K) kl) z := by rw [repG_eq]; exact hatD
  have HatD := Lib.hid hat2
  have hm0l := hKN.r0.lt
  have kc := kb.cell
  have Hkb := Lib.hid kb
  have HKN := Lib.hid hKN1
  have Hb1 := Lib.hid hb1
  clear hK hwf kb hKN1 hKN hatD hat2 hb1
  go_enter Tryd.func13, Tryd.ntmps13
  go_wp2_with (at_range; refine wpList_range_own _ rfl _ 36 rfl 3 47 (int_keyed Tryd.underlying3) Tryd.underlying36 rawElem m0 n D rfl hownD ?_; intro w0 hrg0 hg0 hs0)
  go_frame
  simp only [World.size_alloc] at hrg0 ⊢
  generalize hhs : w.heap.size = hs at *
  have HI0 : Hid (w0.ranges Tryd.prog 3 rawElem m0 (hs + 1) n D (has D) (Maps.size D) ∧ CollR (leftL K) (has D) [] ∧ w0.ownsRow hs 47 8 (.slice none 0 0) 0 ((outP K []).flatMap repCells) ∧ KN w0 m0 m1 m2 m3 n (repF (leftL K)) (wdMV K) (coMV K) (wkA K) ∧ Blk w0 hs #[.map (some m0), .map (some m1), .map (some m2), .map (some m3)] 42 ∧ Below hs w w0) := Lib.hid ⟨hrg0, CollR.start HK.out.left.nodup HatD.out, World.ownsRow_nil _ _ _ _, HKN.out.more hg0, Hkb.out.grown hg0 (by simp), Hb1.out.trans ⟨hg0.os, hg0.tape, hg0.output, hg0.size, fun k hk => hg0.block k (by have := Hb1.out.size; omega) (by simp)⟩⟩
  clear hrg0 hg0 hownD kc hs0
  go_loopw [3] (fun vv wi => ∃ left cnt ps A2 c2, vv = .slice A2 (outP K ps).length c2 ∧ Hid (wi.ranges Tryd.prog 3 rawElem m0 (hs + 1) n D left cnt ∧ CollR (leftL K) left ps ∧ wi.ownsRow hs 47 8 (.slice A2 (outP K ps).length c2) (outP K ps).length ((outP K ps).flatMap repCells) ∧ KN wi m0 m1 m2 m3 n (repF (leftL K)) (wdMV K) (coMV K) (wkA K) ∧ Blk wi hs #[.map (some m0), .map (some m1), .map (some m2), .map (some m3)] 42 ∧ Below hs w wi)) (fun _ wi => wi.rangeLeft m0 (hs + 1))
  case atStart => exact ⟨_, _, [], none, 0, rfl, HI0⟩
  case round =>
    obtain ⟨left, cnt, ps, A2, c2, rfl, hR⟩ := hrel
    clear HI0
    obtain ⟨hrg, hC, hown, hKi, hki, hbi⟩ := hR.out
    clear hR
    have Hrg := Lib.hid hrg
    have hpl : (outP K ps).length ≤ 1000 := Nat.le_trans (outP_le K ps) (Nat.le_trans hC.len HK.out.left.len)
    go_wp2_with (at_next; go_loud (refine wpList_next_ranges _ rfl _ rfl 3 (int_keyed Tryd.underlying3) rawElem (Value.int .i64) (fun u : Value => u) intKeyShape rawShape m0 (hs + 1) n D left cnt rfl Hrg.out ?_ ?_))
    · intro _ hl0
      have hperm := outP_end (hC.perm HK.out.left.nodup hl0)
      have HPm := Lib.hid hperm
      have HOw := Lib.hid hown
      have Hbi := Lib.hid hbi
      have Hk := Lib.hid hki
      have hls := hbi.size
      have hRz := reps_own hown
      have HV := Lib.hid (fun a len cap W => callsIn_wide.1 (valuesR_in Fence.wide 1 trivial rfl a len cap W))
      have HB := Lib.hid (fun Bs fb W hBs hc hS hfb hf0 hf1 => byA_any Bs A2 c2 (outP K ps) hpl fb W hBs hc hS hfb hf0 hf1)
      have HRz := Lib.hid hRz
      clear hl0 hrg hKi hki hbi hperm hown hC hRz Hrg
      generalize outP K ps = zs at *
      have x1 := (Below.refl wr.heap.size wr).alloc (Nat.le_refl _) (.cells #[.slice A2 zs.length c2] 22)
      have x2 := x1.alloc x1.size (.cells #[.func (.func 33) #[] #[], .func (.func 34) #[] #[]] 64)
      have y1 := (Blk.new wr #[.slice A2 zs.length c2] 22).alloc (.cells #[.func (.func 33) #[] #[], .func (.func 34) #[] #[]] 64)
      have y2 := Blk.new (wr.alloc (.cells #[.slice A2 zs.length c2] 22)) #[.func (.func 33) #[] #[], .func (.func 34) #[] #[]] 64
      simp only [World.size_alloc] at y2
      have HB2 := Lib.hid (HB.out wr.heap.size (wr.heap.size + 1) _ y1.lt (y1.cell 0) (HRz.out.later x2) y2.lt (y2.cell 0) (y2.cell 1))
      have Hx2 := Lib.hid x2
      clear x1 x2 y1 y2 HB HRz
      go_wp2_with (first
        | (go_at_call 31; (with_reducible refine (HV.out _ _ _ _).mono ?_); rintro e w3 ⟨rfl, rfl⟩)
        | (go_at_call 32; (with_reducible refine (HB2.out).mono ?_); rintro e w4 ⟨A', c', l', rfl, hp, hs', hown, h4⟩; have hbb := (Hbi.out.trans (Hx2.out.mono (by omega))).trans (h4.mono (by have := Hx2.out.size; omega)); have Hown := Lib.hid hown; have Hl := Lib.hid (standL_of HK.out.nodup hp HPm.out hs'); clear hown hp hs'))
      go_ret
      have hfb := hbb.alloc (by have := hbb.size; omega) (.cells #[.slice A' l'.length c'] 22)
      exact ⟨w4.heap.size, A', c', rfl, ⟨by simp, by rw [← Hl.out]; exact (Blk.new w4 #[.slice A' l'.length c'] 22).cell 0, by rw [← Hl.out]; exact (reps_own Hown.out).later ((Below.refl _ _).alloc (Nat.le_refl _) _), by rw [hhs]; exact hfb⟩⟩
    · intro k1 v kl ya yb w1 cnt1 hkey hlk hv hat1 hrg1 hlt2 hg1 hs1 hen
      obtain ⟨p, ep, rfl, hwp⟩ := Maps.keyOf_int_inv Tryd.underlying3 hkey
      injection ep with _ ep
      subst ep
      have hv' := Option.some.inj hv
      injection hv' with hv1 hv2
      subst hv1
      clear hv hv2
      obtain ⟨r, hrL, rfl, rfl⟩ := repG_mem (got_some HatD.out hat1)
      have hrK := (List.mem_filter.1 hrL).1
      have hrw : wdV K r.id < 0 := by simpa using (List.mem_filter.1 hrL).2
      obtain ⟨ob, hob, hoc, how⟩ := ranges_it hrg
      have hK1 := (hKi.turn hg1 (fun es c e => how es c (Option.some.inj (hob.symm.trans e)))).alloc (.cells #[.int .i64 r.id, .int .i64 r.src, .int .i64 r.acc, .int .i64 r.made, .int .i64 r.about, .int .u8 r.kind, .int .i64 r.cents, .int .i64 r.of_] 47)
      have st1 := Step.turn (B := hs) hg1 hob hoc (by omega)
      have hk1 := (hki.step st1).alloc (.cells #[.int .i64 r.id, .int .i64 r.src, .int .i64 r.acc, .int .i64 r.made, .int .i64 r.about, .int .u8 r.kind, .int .i64 r.cents, .int .i64 r.of_] 47)
      have hsz1 : hs ≤ w1.heap.size := by have := hbi.size; have := st1.size; omega
      have hB1 := (hbi.trans st1.below).alloc (by omega) (.cells #[.int .i64 r.id, .int .i64 r.src, .int .i64 r.acc, .int .i64 r.made, .int .i64 r.about, .int .u8 r.kind, .int .i64 r.cents, .int .i64 r.of_] 47)
      have hown1 := (hown.kept hg1 (by
        rcases hown.2 with ⟨h0, _⟩ | ⟨g, cap, cur, h0, _, hbg, _⟩
        · rw [h0]; left; rfl
        · right; rw [h0]; intro e'; have : g = hs + 1 := by simpa [Value.ownBlock] using e'
          subst this; rw [hob] at hbg; cases hbg; cases hoc)).alloc (.cells #[.int .i64 r.id, .int .i64 r.src, .int .i64 r.acc, .int .i64 r.made, .int .i64 r.about, .int .u8 r.kind, .int .i64 r.cents, .int .i64 r.of_] 47)
      have HrowLt : Hid (∀ q, (Value.slice A2 (outP K ps).length c2).ownBlock = some q → q < w1.heap.size) := Lib.hid (fun q hq => by have := (hown.lt q hq).2; omega)
      have hkb5 : hs < w1.heap.size := by have := hki.lt; omega
      have hrg2 := hrg1.alloc (.cells #[.int .i64 r.id, .int .i64 r.src, .int .i64 r.acc, .int .i64 r.made, .int .i64 r.about, .int .u8 r.kind, .int .i64 r.cents, .int .i64 r.of_] 47)
      have hC2 := hC.step hrL hlk HK.out.left.nodup
      have k5 := Blk.new w1 #[.int .i64 r.id, .int .i64 r.src, .int .i64 r.acc, .int .i64 r.made, .int .i64 r.about, .int .u8 r.kind, .int .i64 r.cents, .int .i64 r.of_] 47
      have HF := Lib.hid (isFact_any r (w1.alloc (.cells #[.int .i64 r.id, .int .i64 r.src, .int .i64 r.acc, .int .i64 r.made, .int .i64 r.about, .int .u8 r.kind, .int .i64 r.cents, .int .i64 r.of_] 47)))
      have hwf := HWF.out.id r hrK
      have HrK := Lib.hid hrK
      have hkl := hk1.lt
      have k5c := k5.cell
      have Hlt2 := Lib.hid hlt2
      clear hrg1 hg1 hob hoc hKi hki hbi hat1 hlk hrg hs1 hlt2 how hrL hown hC st1
      by_cases h7 : r.kind ≤ 7
      · have e7 : decide (r.kind ≤ 7) = true := decide_eq_true h7
        have HO7 := Lib.hid (outP_fact (K := K) (ps := ps) h7)
        have hfb : factB K r = true := by unfold factB; simp [h7, hrw]
        have hck : corK K r.id = corV K r.id := by unfold corK; rw [atR_mem HK.out.nodup hrK]; dsimp only; rw [if_pos hfb]
        have Hpre := Lib.hid (And.intro hrg2 (And.intro hC2 (And.intro hown1 (And.intro hK1 (And.intro hk1 (And.intro hB1 k5))))))
        clear hrg2 hC2 hown1 hK1 hk1 hB1 k5 h7 hfb hrw hrK
        go_upto_region 6 with (go_at_call 30; (with_reducible refine (HF.out).mono ?_); rintro e w2 ⟨rfl, h2⟩)
        obtain ⟨hrg2, hC2, hown1, hK1, hk1, hB1, k5⟩ := Hpre.out
        have hg2 := grown_of_below h2
        have hrg3 := hrg2.kept hg2 (by simp) (by simp)
        have hown3 := own_below hown1 h2
        have hK3 := hK1.later h2
        have hk3 := hk1.below h2 hkl
        have hB3 := hB1.trans (h2.mono (by simp; omega))
        have k53 := k5.below h2 k5.lt
        have h5lt := k53.lt
        have hkl3 := hk3.lt
        have kc3 := hk3.cell
        have k5c3 := k53.cell
        generalize hb5 : w1.heap.size = b5 at *
        clear hrg2 hown1 hK1 hk1 hB1 k5 h2 hg2 Hpre HF k5c hkl
        generalize w2 = U at *
        have HC2 := Lib.hid hC2
        have HK3 := Lib.hid hK3
        have Hrg3 := Lib.hid hrg3
        have Hown3 := Lib.hid hown3
        have Hk3 := Lib.hid hk3
        have HB3 := Lib.hid hB3
        have Hk53 := Lib.hid k53
        have look := (hK3.r2).lookOk (int_keyed Tryd.underlying3) Tryd.underlying36 (repZero U) (keyOf_int_mk Tryd.underlying3 hwf)
        rw [intG_at, show coMV K r.id = (corV K r.id).map fun c => .agg #[.int .i64 c.id, .int .i64 c.src, .int .i64 c.acc, .int .i64 c.made, .int .i64 c.about, .int .u8 c.kind, .int .i64 c.cents, .int .i64 c.of_] by unfold coMV; rw [hck]] at look
        clear hC2 hK3 hrg3 hown3 hk3 hB3 k53 hck
        cases hcv : corV K r.id with
        | none =>
          rw [hcv] at look
          simp only [Option.map_none, Option.getD_none, Option.isSome_none] at look
          have hso : standOf K r = r := by unfold standOf; rw [hcv]
          rw [hso] at HO7
          clear hcv hso
          go_upto_region 9 with fail
          have HOw := Lib.hid (Hown3.out.alloc (.cells #[.int .i64 0, .int .i64 0, .int .i64 0, .int .i64 0, .int .i64 0, .int .u8 0, .int .i64 0, .int .i64 0] 47))
          have HBV := Lib.hid (HB3.out.alloc (by have := HB3.out.size; omega) (.cells #[.int .i64 0, .int .i64 0, .int .i64 0, .int .i64 0, .int .i64 0, .int .u8 0, .int .i64 0, .int .i64 0] 47))
          have HKV := Lib.hid (HK3.out.alloc (.cells #[.int .i64 0, .int .i64 0, .int .i64 0, .int .i64 0, .int .i64 0, .int .u8 0, .int .i64 0, .int .i64 0] 47))
          have HrV := Lib.hid (Hrg3.out.alloc (.cells #[.int .i64 0, .int .i64 0, .int .i64 0, .int .i64 0, .int .i64 0, .int .u8 0, .int .i64 0, .int .i64 0] 47))
          have HkV := Lib.hid (Hk3.out.alloc (.cells #[.int .i64 0, .int .i64 0, .int .i64 0, .int .i64 0, .int .i64 0, .int .u8 0, .int .i64 0, .int .i64 0] 47))
          have k5V := (Hk53.out.alloc (.cells #[.int .i64 0, .int .i64 0, .int .i64 0, .int .i64 0, .int .i64 0, .int .u8 0, .int .i64 0, .int .i64 0] 47)).cell
          clear Hown3 HB3 HK3 Hrg3 Hk3 Hk53 look kc3 k5c3
          generalize U.alloc (.cells #[.int .i64 0, .int .i64 0, .int .i64 0, .int .i64 0, .int .i64 0, .int .u8 0, .int .i64 0, .int .i64 0] 47) = V at *
          go_wp2_with (at_builtin; refine wpList_append_own_at _ rfl _ _ 22 rfl hs 47 i0 _ 8 64 Tryd.underlying22 hi0 hz0 hz1 hz2 rfl (by decide) _ _ _ rfl (HOw.out.alloc _) ⟨V.heap.size, 0, none⟩ 1 1 (repCells r) rfl rfl (cells_new8 _ _) (repCells_one _) (by unfold maxLen; omega) (by omega) (by have := HBV.out.size; simp; omega) ?_; intro v' w7 hown7 hg7 _ hat7)
          obtain ⟨A7, c7, rfl⟩ := own_slice hown7
          have hB7 := (HBV.out.alloc (by have := HBV.out.size; omega) (.cells #[.int .i64 r.id, .int .i64 r.src, .int .i64 r.acc, .int .i64 r.made, .int .i64 r.about, .int .u8 r.kind, .int .i64 r.cents, .int .i64 r.of_] 47)).grown hg7 (by have := HBV.out.size; simp; omega) (fun k e => (HOw.out.lt k e).1)
          have HFin := Lib.hid (And.intro (ranges_row (HrV.out.alloc (.cells #[.int .i64 r.id, .int .i64 r.src, .int .i64 r.acc, .int .i64 r.made, .int .i64 r.about, .int .u8 r.kind, .int .i64 r.cents, .int .i64 r.of_] 47)) (HOw.out.alloc _) hg7) (And.intro HC2.out (And.intro hown7 (And.intro ((HKV.out.alloc (.cells #[.int .i64 r.id, .int .i64 r.src, .int .i64 r.acc, .int .i64 r.made, .int .i64 r.about, .int .u8 r.kind, .int .i64 r.cents, .int .i64 r.of_] 47)).row (HOw.out.alloc _) hg7) (And.intro (Step.row (HOw.out.alloc _) hg7 (HkV.out.alloc (.cells #[.int .i64 r.id, .int .i64 r.src, .int .i64 r.acc, .int .i64 r.made, .int .i64 r.about, .int .u8 r.kind, .int .i64 r.cents, .int .i64 r.of_] 47)) (by decide)) hB7)))))
          clear hown7 hg7 hat7 hB7
          go_roundw
          case rel => exact ⟨_, cnt1, ps ++ [r], A7, c7, by rw [HO7.out, List.length_append]; rfl, by rw [HO7.out, List.length_append, repCells_snoc]; exact HFin⟩
          case measure => rw [HFin.out.1.left_eq, Hrg.out.left_eq]; exact Hlt2.out
        | some c =>
          rw [hcv] at look
          simp only [Option.map_some, Option.getD_some, Option.isSome_some] at look
          obtain ⟨s, hso⟩ : ∃ s, standOf K r = s := ⟨_, rfl⟩
          rw [hso] at HO7
          have hse : s = { r with about := c.about, cents := c.cents } := by rw [← hso]; unfold standOf; rw [hcv]
          clear hcv hso
          go_upto_region 8 with fail
          have bU : hs ≤ b5 := hsz1
          have kV5 := Hk53.out.alloc (.cells #[.int .i64 c.id, .int .i64 c.src, .int .i64 c.acc, .int .i64 c.made, .int .i64 c.about, .int .u8 c.kind, .int .i64 c.cents, .int .i64 c.of_] 47)
          have kV6 := Blk.new U #[.int .i64 c.id, .int .i64 c.src, .int .i64 c.acc, .int .i64 c.made, .int .i64 c.about, .int .u8 c.kind, .int .i64 c.cents, .int .i64 c.of_] 47
          have o0 := Hown3.out.alloc (.cells #[.int .i64 c.id, .int .i64 c.src, .int .i64 c.acc, .int .i64 c.made, .int .i64 c.about, .int .u8 c.kind, .int .i64 c.cents, .int .i64 c.of_] 47)
          have n0 := HK3.out.alloc (.cells #[.int .i64 c.id, .int .i64 c.src, .int .i64 c.acc, .int .i64 c.made, .int .i64 c.about, .int .u8 c.kind, .int .i64 c.cents, .int .i64 c.of_] 47)
          have r0 := Hrg3.out.alloc (.cells #[.int .i64 c.id, .int .i64 c.src, .int .i64 c.acc, .int .i64 c.made, .int .i64 c.about, .int .u8 c.kind, .int .i64 c.cents, .int .i64 c.of_] 47)
          have q0 := Hk3.out.alloc (.cells #[.int .i64 c.id, .int .i64 c.src, .int .i64 c.acc, .int .i64 c.made, .int .i64 c.about, .int .u8 c.kind, .int .i64 c.cents, .int .i64 c.of_] 47)
          have w0b := HB3.out.alloc (by have := HB3.out.size; omega) (.cells #[.int .i64 c.id, .int .i64 c.src, .int .i64 c.acc, .int .i64 c.made, .int .i64 c.about, .int .u8 c.kind, .int .i64 c.cents, .int .i64 c.of_] 47)
          clear Hown3 HB3 HK3 Hrg3 Hk3 Hk53 look kc3 k5c3
          have hlt6 : b5 < U.heap.size := h5lt
          generalize U.alloc (.cells #[.int .i64 c.id, .int .i64 c.src, .int .i64 c.acc, .int .i64 c.made, .int .i64 c.about, .int .u8 c.kind, .int .i64 c.cents, .int .i64 c.of_] 47) = X0 at *
          generalize U.heap.size = b6 at *
          have v5 := kV5.cell
          have v5f := kV5.free
          have v6 := kV6.cell
          have kV54 := kV5.set 4 (.int .i64 c.about)
          have kV64 := kV6.far (p := ⟨b5, 4, none⟩) (by show b6 ≠ b5; omega) (.int .i64 c.about)
          have v54 := kV54.cell
          have v54f := kV54.free
          have v64 := kV64.cell
          have S1 := stand_set (o := 4) kV5 HrowLt.out hkb5 o0 n0 r0 q0 (.int .i64 c.about)
          have S2 := stand_set (o := 6) kV54 HrowLt.out hkb5 S1.1 S1.2.1 S1.2.2.1 S1.2.2.2 (.int .i64 c.cents)
          have HS2 := Lib.hid S2
          have HkW := Lib.hid ((kV54.set 6 (.int .i64 c.cents)).drew)
          have HB0 := Lib.hid (((w0b.setCell (p := ⟨b5, 4, none⟩) bU (.int .i64 c.about)).setCell (p := ⟨b5, 6, none⟩) bU (.int .i64 c.cents)).drew)
          clear kV5 kV6 kV54 kV64 S1 S2 o0 n0 r0 q0 w0b
          go_region
          go_upto_region 9 with fail
          have hdw : ∀ X : World, Below X.heap.size X X.drew := fun X => (Below.refl _ X).drew
          have HOw := Lib.hid (own_below HS2.out.1 (hdw _))
          have HBV := Lib.hid HB0.out
          have HKV := Lib.hid (HS2.out.2.1.later (hdw _))
          have HrV := Lib.hid (HS2.out.2.2.1.kept (grown_of_below (hdw _)) (by simp) (by simp))
          have HkV := Lib.hid (HS2.out.2.2.2.drew)
          have k5V := HkW.out.cell
          clear v5 v5f v6 v54 v54f v64 HS2 HB0 HkW hdw
          generalize ((X0.setCell ⟨b5, 4, none⟩ (.int .i64 c.about)).setCell ⟨b5, 6, none⟩ (.int .i64 c.cents)).drew = V at *
          have k5s : ∀ q, V.cell? ⟨b5, q, none⟩ = (#[.int .i64 s.id, .int .i64 s.src, .int .i64 s.acc, .int .i64 s.made, .int .i64 s.about, .int .u8 s.kind, .int .i64 s.cents, .int .i64 s.of_] : Array Value)[q]? := by rw [hse]; exact k5V
          clear k5V hse
          go_wp2_with (at_builtin; refine wpList_append_own_at _ rfl _ _ 22 rfl hs 47 i0 _ 8 64 Tryd.underlying22 hi0 hz0 hz1 hz2 rfl (by decide) _ _ _ rfl (HOw.out.alloc _) ⟨V.heap.size, 0, none⟩ 1 1 (repCells s) rfl rfl (cells_new8 _ _) (repCells_one _) (by unfold maxLen; omega) (by omega) (by have := HBV.out.size; simp; omega) ?_; intro v' w7 hown7 hg7 _ hat7)
          obtain ⟨A7, c7, rfl⟩ := own_slice hown7
          have hB7 := (HBV.out.alloc (by have := HBV.out.size; omega) (.cells #[.int .i64 s.id, .int .i64 s.src, .int .i64 s.acc, .int .i64 s.made, .int .i64 s.about, .int .u8 s.kind, .int .i64 s.cents, .int .i64 s.of_] 47)).grown hg7 (by have := HBV.out.size; simp; omega) (fun k e => (HOw.out.lt k e).1)
          have HFin := Lib.hid (And.intro (ranges_row (HrV.out.alloc (.cells #[.int .i64 s.id, .int .i64 s.src, .int .i64 s.acc, .int .i64 s.made, .int .i64 s.about, .int .u8 s.kind, .int .i64 s.cents, .int .i64 s.of_] 47)) (HOw.out.alloc _) hg7) (And.intro HC2.out (And.intro hown7 (And.intro ((HKV.out.alloc (.cells #[.int .i64 s.id, .int .i64 s.src, .int .i64 s.acc, .int .i64 s.made, .int .i64 s.about, .int .u8 s.kind, .int .i64 s.cents, .int .i64 s.of_] 47)).row (HOw.out.alloc _) hg7) (And.intro (Step.row (HOw.out.alloc _) hg7 (HkV.out.alloc (.cells #[.int .i64 s.id, .int .i64 s.src, .int .i64 s.acc, .int .i64 s.made, .int .i64 s.about, .int .u8 s.kind, .int .i64 s.cents, .int .i64 s.of_] 47)) (by decide)) hB7)))))
          clear hown7 hg7 hat7 hB7
          go_roundw
          case rel => exact ⟨_, cnt1, ps ++ [r], A7, c7, by rw [HO7.out, List.length_append]; rfl, by rw [HO7.out, List.length_append, repCells_snoc]; exact HFin⟩
          case measure => rw [HFin.out.1.left_eq, Hrg.out.left_eq]; exact Hlt2.out
      · have e7 : decide (r.kind ≤ 7) = false := decide_eq_false h7
        have HO7 := Lib.hid (outP_not (K := K) (ps := ps) h7)
        have Hpre := Lib.hid (And.intro hrg2 (And.intro hC2 (And.intro hown1 (And.intro hK1 (And.intro hk1 hB1)))))
        clear hrg2 hC2 hown1 hK1 hk1 hB1 k5 h7 hrw hrK
        go_wp2_with (go_at_call 30; (with_reducible refine (HF.out).mono ?_); rintro e w2 ⟨rfl, h2⟩)
        obtain ⟨hrg2, hC2, hown1, hK1, hk1, hB1⟩ := Hpre.out
        have hrg3 := hrg2.kept (grown_of_below h2) (by simp) (by simp)
        have HFin := Lib.hid (And.intro hrg3 (And.intro hC2 (And.intro (own_below hown1 h2) (And.intro (hK1.later h2) (And.intro (hk1.below h2 hkl) (hB1.trans (h2.mono (by simp; omega))))))))
        clear hrg2 hC2 hown1 hK1 hk1 hB1 hrg3 Hpre
        go_roundw
        case rel => exact ⟨_, cnt1, ps ++ [r], A2, c2, by rw [HO7.out], by rw [HO7.out]; exact HFin⟩
        case measure => rw [HFin.out.1.left_eq, Hrg.out.left_eq]; exact Hlt2.out

end Go.Proofs.YtliijiflbfgfaaaDoor
