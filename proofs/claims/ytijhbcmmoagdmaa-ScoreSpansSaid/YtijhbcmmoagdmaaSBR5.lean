/- Between, by the reference: the spans, one by one. Written by a program. -/
import Derived.Test.YtijhbcmmoagdmaaSBR4

namespace Go.Proofs.Ytijhbcmmoagdmaa
open Go.RowKit Go.Maps

theorem lsInfo : (Try.prog.info? 26).map (fun i => (i.zero, i.size, i.bytes)) = some (some (.slice none 0 0), 1, 24) := by kernel_rfl
structure LsD where
  l : List Int
  A : Option Addr
  a : Nat
def lsC (x : LsD) : List Value := [.slice x.A x.l.length x.a]
theorem sl_ones {A : Option Addr} {n c : Nat} : ∀ u ∈ [Value.slice A n c], u.oneCell' = true := fun u hu => by rw [List.mem_singleton] at hu; subst hu; rfl
theorem sl_new (w : World) (v : Value) (t : TypeId) : ∀ j u, [v][j]? = some u → (w.alloc (.cells #[v] t)).cell? ((⟨w.heap.size, 0, none⟩ : Addr).add j) = some u := fun j u hj => by
  rw [WideShapes.add_plain, Nat.zero_add]
  exact ((Blk.new w #[v] t).cell j).trans (by simpa using hj)
theorem lsC_len (x : LsD) : (lsC x).length = 1 := rfl
def LsInv (w : World) (lo : Nat) (A : Option Addr) (c n : Nat) (l : List LsD) : Prop :=
  l.length = n ∧ w.ownsRow lo 26 1 (.slice A n c) n (l.flatMap lsC) ∧ ∀ y ∈ l, FlatX 1 intC w lo (Value.slice A n c).ownBlock y.A y.l
section
variable {w w' : World} {lo : Nat} {A A' : Option Addr} {c c' n : Nat} {l : List LsD}
theorem LsInv.below (h : LsInv w lo A c n l) (hb : Below w.heap.size w w') : LsInv w' lo A c n l := ⟨h.1, own_below h.2.1 hb, fun y hy => (h.2.2 y hy).below hb⟩
theorem LsInv.lt (h : LsInv w lo A c n l) : ∀ g, (Value.slice A n c).ownBlock = some g → lo ≤ g ∧ g < w.heap.size := fun g hg => h.2.1.lt g hg
theorem LsInv.push (h : LsInv w lo A c n l) {z : LsD} (hz : FlatX 1 intC w lo (Value.slice A n c).ownBlock z.A z.l) (hown : w'.ownsRow lo 26 1 (.slice A' (n + 1) c') (n + 1) (l.flatMap lsC ++ lsC z)) (hg : w.grownBy w' (Value.slice A n c).ownBlock) (ho : (Value.slice A' (n + 1) c').ownBlock = (Value.slice A n c).ownBlock ∨ (Value.slice A' (n + 1) c').ownBlock = some w.heap.size) : LsInv w' lo A' c' (n + 1) (l ++ [z]) := by
  refine ⟨by rw [List.length_append, h.1]; rfl, by rw [List.flatMap_append]; simpa using hown, fun y hy => ?_⟩
  rcases List.mem_append.1 hy with hy | hy
  · exact (h.2.2 y hy).kept hg ho
  · rw [List.mem_singleton] at hy
    subst hy
    exact hz.kept hg ho
end

set_option maxRecDepth 100000 in
set_option maxHeartbeats 16000000 in
theorem betR_spans (traits need : Int) (cl : List CrdD) (tl : List TreD) (C T : Option Addr) (c t : Nat) (sp : List Spn) (SA : Option Addr) (sc : Nat) (w : World) (h : MdlAt w w.heap.size ⟨traits, cl, C, c, tl, T, t, need⟩) (hls : MdlLe ⟨traits, cl, C, c, tl, T, t, need⟩) (hx : SpnsAt w w.heap.size SA sp) (hxl : sp.length ≤ 10) (hq : mdlB ⟨traits, cl.map CrdD.v, tl.map TreD.v, need⟩ = true) (hn : (sp.length : Int) = traits) (hv : spnsB traits sp = false) :
    Calls Try.prog 16 #[.agg #[.int .i64 traits, .slice C cl.length c, .slice T tl.length t, .int .i64 need], .slice SA sp.length sc] w fun e w' => e = .returned (.tuple #[.agg #[.int .i64 0, .int .i64 0], .int .i64 61]) ∧ Below w.heap.size w w' := by
  have b1 := (Below.refl w.heap.size w).alloc (Nat.le_refl _) (.cells #[.int .i64 traits, .slice C cl.length c, .slice T tl.length t, .int .i64 need] 25)
  have b2 := b1.alloc b1.size (.cells #[.int .i64 0, .int .i64 0] 45)
  have km := (Blk.new w #[.int .i64 traits, .slice C cl.length c, .slice T tl.length t, .int .i64 need] 25).alloc (.cells #[.int .i64 0, .int .i64 0] 45)
  have kr := newAt' (w.alloc (.cells #[.int .i64 traits, .slice C cl.length c, .slice T tl.length t, .int .i64 need] 25)) #[.int .i64 0, .int .i64 0] 45 (g := w.heap.size + 1) (by simp)
  have kmc := km.cell
  have HC := Lib.hid (check6_all traits need cl tl C T c t _ (h.later b2) hls)
  have gm := km.lt
  have gr := kr.lt
  have hf : mdlE ⟨traits, cl.map CrdD.v, tl.map TreD.v, need⟩ = 0 := by unfold mdlE; rw [if_pos hq]
  rw [hf] at HC
  have e1 : ((sp.length : Int) != traits) = false := by simpa using hn
  have hsl : ∀ k, k < sp.length → ∀ y ∈ cl, k < y.scales.length := fun k hk y hy => by
    have h7 := crdB_parts ((mdlB_parts hq).2.2.2.2.1 _ (List.mem_map_of_mem hy))
    have h8 : (y.scales.length : Int) = traits := by have := h7.2.2.1; simpa [CrdD.v] using this
    omega
  have HSt := Lib.hid (fun W (hb : Below w.heap.size w W) k (hk : k < sp.length) lo hi => steps6_any traits need cl tl C T c t k lo hi W (h.later hb) hls (hsl k hk))
  have HX := Lib.hid (fun W (hb : Below w.heap.size w W) => hx.later hb)
  have HVa : Hid ((∀ j, j < sp.length → spnB (sp.getD j default) = true) ↔ spnsB traits sp = true) := Lib.hid (by
    unfold spnsB
    rw [Bool.and_eq_true, decide_eq_true_eq, List.all_eq_true]
    constructor
    · intro h; refine ⟨hn, fun x hx => ?_⟩
      obtain ⟨j, hj, rfl⟩ := List.getElem_of_mem hx
      have := h j hj
      rwa [getD_lt sp default hj] at this
    · rintro ⟨_, h⟩ j hj
      rw [getD_lt sp default hj]; exact h _ (List.getElem_mem hj))
  rw [hv] at HVa
  obtain ⟨i4, hi4, hq0, hq1, hq2⟩ := info_parts lsInfo
  clear h hls hf b1 hn hq hsl hx hv
  go_enter Try.func16, Try.ntmps16
  go_upto_region 1 with fail
  generalize hW : (w.alloc (.cells #[.int .i64 traits, .slice C cl.length c, .slice T tl.length t, .int .i64 need] 25)).alloc (.cells #[.int .i64 0, .int .i64 0] 45) = W2 at *
  clear hW
  have b2s := b2.size
  go_wp2_with (go_at_call 12; (with_reducible refine (HC.out).mono ?_); rintro e w3 ⟨rfl, h3⟩; have b3 := b2.trans (h3.mono b2s); have km3 := km.below h3 gm; have km3c := km3.cell; have kr3 := kr.below h3 gr; have kr3c := kr3.cell; have gm3 := km3.lt; have gr3 := kr3.lt; have hs3 := h3.size)
  generalize hgm : w.heap.size = g0 at *
  clear km kr km3c kr3c gm gr h3 HC
  go_loopw [7, 8] (fun ll ii wr => ∃ (i : Nat) (A2 : Option Addr) (c2 : Nat) (ls : List LsD), i ≤ sp.length ∧ ll = .slice A2 i c2 ∧ ii = .int .i64 i ∧ Hid (ls.map LsD.l = (List.range i).map (fun k => stepsI (sp.getD k default).lo (sp.getD k default).hi (cutsT ⟨traits, cl.map CrdD.v, tl.map TreD.v, need⟩ k)) ∧ (∀ j, j < i → spnB (sp.getD j default) = true)) ∧ Hid (LsInv wr w3.heap.size A2 c2 i ls ∧ Below w3.heap.size w3 wr)) (fun _ ii _ => sp.length - (vInt ii).toNat)
  case atStart => exact ⟨0, none, 0, [], Nat.zero_le _, rfl, rfl, Lib.hid ⟨rfl, fun j hj => absurd hj (Nat.not_lt_zero _)⟩, Lib.hid ⟨⟨rfl, ⟨rfl, .inl ⟨rfl, rfl⟩⟩, fun y hy => by cases hy⟩, Below.refl _ _⟩⟩
  case round =>
    obtain ⟨i, A2, c2, ls, hi0, rfl, rfl, hD, hR⟩ := hrel
    have hB := hR.out.2
    have kmr := km3.below hB gm3
    have krr := kr3.below hB gr3
    have kmc := kmr.cell
    have hBw := b3.trans (hB.mono (by rw [← hgm]; exact b3.size))
    by_cases hlt : i < sp.length
    · have hil : (i : Int) < (sp.length : Int) := by omega
      obtain ⟨b, off, rfl, hb, c0, c1⟩ := spns_at (HX.out _ hBw) hlt
      have hge := getD_lt sp default hlt
      have HE : Hid (spnB (sp.getD i default) = (inN sp[i].lo 0 1000000 && inN sp[i].hi sp[i].lo 1000000)) := Lib.hid (by rw [hge]; rfl)
      have HN : Hid ((List.range (i + 1)).map (fun k => stepsI (sp.getD k default).lo (sp.getD k default).hi (cutsT ⟨traits, cl.map CrdD.v, tl.map TreD.v, need⟩ k)) = (List.range i).map (fun k => stepsI (sp.getD k default).lo (sp.getD k default).hi (cutsT ⟨traits, cl.map CrdD.v, tl.map TreD.v, need⟩ k)) ++ [stepsI sp[i].lo sp[i].hi (cutsT ⟨traits, cl.map CrdD.v, tl.map TreD.v, need⟩ i)]) := Lib.hid (by rw [List.range_succ, List.map_append, List.map_singleton, hge])
      have HCa := Lib.hid (fun W hb => HSt.out W hb i hlt sp[i].lo sp[i].hi)
      clear hge
      generalize sp[i] = y at *
      obtain ⟨lo, hi⟩ := y
      dsimp only at *
      have GC1 : Hid (∀ q : After wr.heap.size wr, Calls Try.prog 25 #[.int .i64 lo, .int .i64 0, .int .i64 1000000] q.val fun e w' => e = .returned (.bool (inN lo 0 1000000)) ∧ Below q.val.heap.size q.val w') := Lib.hid (fun q => (within6_any lo 0 1000000 q.val).mono (fun e w' h => ⟨h.1, h.2 ▸ Below.refl _ _⟩))
      have GC2 : Hid (∀ q : After wr.heap.size wr, Calls Try.prog 25 #[.int .i64 hi, .int .i64 lo, .int .i64 1000000] q.val fun e w' => e = .returned (.bool (inN hi lo 1000000)) ∧ Below q.val.heap.size q.val w') := Lib.hid (fun q => (within6_any hi lo 1000000 q.val).mono (fun e w' h => ⟨h.1, h.2 ▸ Below.refl _ _⟩))
      have d0 := After.cell (B := wr.heap.size) c0 hb
      have d1 := After.cell (B := wr.heap.size) c1 hb
      go_upto_region 10 with fail
      cases r1 : inN lo 0 1000000 with
      | false =>
        rw [r1] at HE GC1
        have HF : Hid (spnB (sp.getD i default) = false) := Lib.hid (by rw [HE.out]; rfl)
        refine wp_region_class_lit (C := fun w' => ∃ z : After wr.heap.size wr, w' = z.val) (by kernel_rfl) (by kernel_rfl) ⟨⟨_, (Below.refl _ _).drew⟩, rfl⟩ ?_
        repeat (go_big_quiet_step ((first
          | (go_at_call 25; with_reducible exact after_of (Nat.le_refl _) _ (GC1.out _)))))
        refine wpQuiet_nil ?_
        intro wq hw'
        obtain ⟨⟨wz, hz⟩, hw''⟩ := hw'
        dsimp only at hw''
        subst hw''
        have krz := krr.below hz krr.lt
        have krzc := krz.cell
        have z0 := krz.free 0
        have z1 := krz.free 1
        have hBz := hBw.trans (hz.mono (by have := hBw.size; rw [hgm] at this; exact this))
        go_wp2_with fail
        have hrc := (sp_put (c0 := .int .i64 0) (c1 := .int .i64 0) krz).cell
        show bodyPost _ _ _ _ _ _
        exact bodyPost_ret (v := .tuple #[.agg #[.int .i64 0, .int .i64 0], .int .i64 61]) (by simp [results, Try.results16, go_sem, hrc]) rfl ⟨rfl, by rw [hgm]; exact (hBz.setCell (p := ⟨g0 + 1, 0, none⟩) (by simp) _).setCell (p := ⟨g0 + 1, 1, none⟩) (by simp) _⟩

      | true =>
        cases r2 : inN hi lo 1000000 with
        | false =>
          rw [r1, r2] at HE
          rw [r1] at GC1
          rw [r2] at GC2
          have HF : Hid (spnB (sp.getD i default) = false) := Lib.hid (by rw [HE.out]; rfl)
          refine wp_region_class_lit (C := fun w' => ∃ z : After wr.heap.size wr, w' = z.val) (by kernel_rfl) (by kernel_rfl) ⟨⟨_, (Below.refl _ _).drew⟩, rfl⟩ ?_
          repeat (go_big_quiet_step ((first
            | (go_at_call 25; with_reducible exact after_of (Nat.le_refl _) _ (GC1.out _))
            | (go_at_call 25; with_reducible exact after_of (Nat.le_refl _) _ (GC2.out _)))))
          refine wpQuiet_nil ?_
          intro wq hw'
          obtain ⟨⟨wz, hz⟩, hw''⟩ := hw'
          dsimp only at hw''
          subst hw''
          have krz := krr.below hz krr.lt
          have krzc := krz.cell
          have z0 := krz.free 0
          have z1 := krz.free 1
          have hBz := hBw.trans (hz.mono (by have := hBw.size; rw [hgm] at this; exact this))
          go_wp2_with fail
          have hrc := (sp_put (c0 := .int .i64 0) (c1 := .int .i64 0) krz).cell
          show bodyPost _ _ _ _ _ _
          exact bodyPost_ret (v := .tuple #[.agg #[.int .i64 0, .int .i64 0], .int .i64 61]) (by simp [results, Try.results16, go_sem, hrc]) rfl ⟨rfl, by rw [hgm]; exact (hBz.setCell (p := ⟨g0 + 1, 0, none⟩) (by simp) _).setCell (p := ⟨g0 + 1, 1, none⟩) (by simp) _⟩

        | true =>
          rw [r1, r2] at HE
          rw [r1] at GC1
          rw [r2] at GC2
          have HF : Hid (spnB (sp.getD i default) = true) := Lib.hid (by rw [HE.out]; rfl)
          refine wp_region_class_lit (C := fun w' => ∃ z : After wr.heap.size wr, w' = z.val) (by kernel_rfl) (by kernel_rfl) ⟨⟨_, (Below.refl _ _).drew⟩, rfl⟩ ?_
          repeat (go_big_quiet_step ((first
            | (go_at_call 25; with_reducible exact after_of (Nat.le_refl _) _ (GC1.out _))
            | (go_at_call 25; with_reducible exact after_of (Nat.le_refl _) _ (GC2.out _)))))
          refine wpQuiet_nil ?_
          intro wq hw'
          obtain ⟨⟨wz, hz⟩, hw''⟩ := hw'
          dsimp only at hw''
          subst hw''
          have kmz := kmr.below hz kmr.lt
          have kmzc := kmz.cell
          have c0q := (hz.cell (p := ⟨b, off + i * 2, none⟩) hb).trans c0
          have c1q := (hz.cell (p := ⟨b, off + i * 2 + 1, none⟩) hb).trans c1
          have D0 : Below g0 w wq.drew := (hBw.trans (hz.mono (by have := hBw.size; rw [hgm] at this; exact this))).drew
          have HI := Lib.hid ((hR.out.1.below hz).below ((Below.refl _ _).drew))
          have HB9 : Hid (Below w3.heap.size w3 wq.drew) := Lib.hid ((hB.trans (hz.mono hB.size)).drew)
          have hls3 := HB9.out.size
          have hls4 : w3.heap.size ≤ wq.heap.size := hls3
          generalize stepsI lo hi (cutsT ⟨traits, cl.map CrdD.v, tl.map TreD.v, need⟩ i) = sl at *
          clear kmr krr kmc hB hBw d0 d1 GC1 GC2 c0 c1 r1 r2 HE hz kmz
          go_upto_region 12 with fail
          go_region_law (first
            | (go_simp; go_at_call 33; (with_reducible refine (HCa.out _ D0).mono ?_); rintro e w7 ⟨A7, a7, rfl, hA7, ha7, h7, f7⟩; have hI7 := HI.out.below h7; have hI8 := hI7.below ((Below.refl w7.heap.size w7).alloc (Nat.le_refl _) (.cells #[.slice A7 sl.length a7] 26)); have hv7 := h7.size)
            | (refine step_append_src (by rfl) _ _ _ (by rfl) w3.heap.size 26 i4 _ 1 24 Try.underlying78 hi4 hq0 hq1 hq2 rfl (by decide) _ _ _ (by rfl) hI8.2.1 (some ⟨w7.heap.size, 0, none⟩) 1 1 [.slice A7 sl.length a7] (by rfl) (by rfl) (fun e => by cases e) (fun ad e => by cases e; exact sl_new w7 _ _) sl_ones (by unfold maxLen; omega) (by omega) (by rw [World.size_alloc]; exact Nat.le_trans (Nat.le_trans hls4 hv7) (Nat.le_succ _)) ?_; intro v8 w8 hown8 hg8 ho8; obtain ⟨A8, c8, rfl⟩ := own_slice hown8))
          all_goals have hfx : FlatX 1 intC (w7.alloc (.cells #[.slice A7 sl.length a7] 26)) w3.heap.size (Value.slice A2 i c2).ownBlock A7 sl := FlatX.below (fun k hk => by
            obtain ⟨b9, off9, e9, h1, h2⟩ := hA7 k hk
            have h3 := f7 _ e9
            exact ⟨b9, off9, e9, Nat.le_trans hls4 h3, h1, fun e => by have := (HI.out.lt b9 e.symm).2; exact absurd (Nat.lt_of_lt_of_le this h3) (Nat.lt_irrefl _), h2⟩) ((Below.refl _ _).alloc (Nat.le_refl _) _)
          all_goals have hpush := LsInv.push (z := ⟨sl, A7, a7⟩) hI8 hfx hown8 hg8 ho8
          all_goals have hB8 : Below w3.heap.size w3 w8 := ((HB9.out.trans (h7.mono hls4)).alloc (Nat.le_trans hls4 hv7) (.cells #[.slice A7 sl.length a7] 26)).grown hg8 (by rw [World.size_alloc]; exact Nat.le_trans (Nat.le_trans hls4 hv7) (Nat.le_succ _)) (fun k e => (hI8.lt k e).1)
          all_goals have HFin := Lib.hid (And.intro hpush hB8)
          all_goals clear hpush hB8 hfx hown8 hg8 ho8 hI7 hI8 hA7 h7 f7
          all_goals go_wp2_with fail
          all_goals go_roundw
          all_goals first
            | exact ⟨i + 1, A8, c8, _, by omega, rfl, by go_num, Lib.hid ⟨by rw [List.map_append, hD.out.1, HN.out]; rfl, fun j hj => by
                rcases Nat.lt_or_ge j i with h | h
                · exact hD.out.2 j h
                · obtain rfl : j = i := by omega
                  exact HF.out⟩, Lib.hid HFin.out⟩
            | (simp [vInt]; done)
            | (simp [vInt]; omega)
    · have hil : ¬ (i : Int) < (sp.length : Int) := by omega
      obtain rfl : i = sp.length := by omega
      exact absurd (HVa.out.1 hD.out.2) (by simp)

end Go.Proofs.Ytijhbcmmoagdmaa
