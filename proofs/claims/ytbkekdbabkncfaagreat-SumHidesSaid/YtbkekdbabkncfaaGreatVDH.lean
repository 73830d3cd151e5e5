/- Deduced, How, Hide, by the program. Written by vdh.py. -/
import Derived.Test.YtbkekdbabkncfaaGreatVOB
import Derived.Test.YtbkekdbabkncfaaGreatW4
import Derived.Test.YtbkekdbabkncfaaGreatVP15

namespace Go.Proofs.YtbkekdbabkncfaaGreat
open Go.RowKit Go.Maps

/-- The leads of an audit. -/
def ledR (ol : List SubD) (qs : List QueD) : List Led := solL [] (eqnL ol qs.length 0 (qs.map QueD.v))
def idsR (ol : List SubD) : List Int := ol.map fun x => x.v.id
def dedR (ol : List SubD) (qs : List QueD) : List Int := srtI (dedL (idsR ol) (ledR ol qs))
def howR (ol : List SubD) (qs : List QueD) (id : Int) : Option Led := (fndI (idsR ol) id).bind (howE (ledR ol qs))
def hidR (ol : List SubD) (qs : List QueD) (id : Int) : Option (List Int) := (fndI (idsR ol) id).bind fun a => (hidF (ledR ol qs) a).map fun k => hidV (moreL (ledR ol qs) ol.length k) a
def SrtOf (l ol : List SubD) : Prop := ol.Perm l ∧ ol.Pairwise (fun x y => x.v.id ≤ y.v.id)
def DedP (w : World) (l : List SubD) (qs : List QueD) (e : Ending) (w' : World) : Prop := ∃ ol A' c', Hid (SrtOf l ol) ∧ e = .returned (.tuple #[.slice A' (dedR ol qs).length c', .int .i64 0]) ∧ FlatP 1 intC w' (fun b => w.heap.size ≤ b) A' (dedR ol qs) ∧ Below w.heap.size w w'
def HowP (w : World) (l : List SubD) (qs : List QueD) (id : Int) (e : Ending) (w' : World) : Prop := ∃ ol, Hid (SrtOf l ol) ∧ Below w.heap.size w w' ∧ ((howR ol qs id = none ∧ e = .returned (.tuple #[.slice none 0 0, .int .i64 0, .int .i64 6])) ∨
  ∃ x A' c', howR ol qs id = some x ∧ e = .returned (.tuple #[.slice A' (mltL (clrL 1 x.e.ps) x.e.ps).length c', .int .i64 (clrL 1 x.e.ps), .int .i64 0]) ∧ FlatP 1 intC w' (fun b => w.heap.size ≤ b) A' (mltL (clrL 1 x.e.ps) x.e.ps))
def HidP (w : World) (l : List SubD) (qs : List QueD) (id : Int) (e : Ending) (w' : World) : Prop := ∃ ol, Hid (SrtOf l ol) ∧ Below w.heap.size w w' ∧ ((hidR ol qs id = none ∧ e = .returned (.tuple #[.slice none 0 0, .int .i64 6])) ∨
  ∃ x A' c', hidR ol qs id = some x ∧ e = .returned (.tuple #[.slice A' (List.length x) c', .int .i64 0]) ∧ FlatP 1 intC w' (fun b => w.heap.size ≤ b) A' x)
theorem led8 {ol : List SubD} {qs : List QueD} {L : List LedD} (h : L.map LedD.v = solL [] (eqnL ol qs.length 0 (qs.map QueD.v))) (hq : qs.length ≤ 8) : L.length ≤ 8 := by
  have h1 := congrArg List.length h
  have h2 := solL_len (eqnL ol qs.length 0 (qs.map QueD.v)) []
  have h3 := eqnL_len ol qs.length (qs.map QueD.v) 0
  simp only [List.length_map, List.length_nil] at h1 h2 h3
  omega
theorem led_at_of {ol : List SubD} {qs : List QueD} {L : List LedD} (h : L.map LedD.v = solL [] (eqnL ol qs.length 0 (qs.map QueD.v))) {n : Nat} (ha : ∀ x ∈ ledR ol qs, x.at_ < n) : ∀ x ∈ L, x.v.at_ < n := fun x hx => ha _ (by unfold ledR; rw [← h]; exact List.mem_map_of_mem hx)

set_option maxRecDepth 100000 in
set_option maxHeartbeats 4000000 in
theorem deduced_bad (columns : Int) (l : List SubD) (A : Option Addr) (c : Nat) (qs : List QueD) (S : Option Addr) (sc : Nat) (w : World) (E : Int) (hE : E = 100 ∨ E = 102) (HA : ∀ W, Below w.heap.size w W → Calls Tryz.prog 44 #[.int .i64 columns, .slice A l.length c, .slice S qs.length sc] W fun e w' => e = .returned (.tuple #[.agg #[.slice none 0 0, .map none, .slice none 0 0], .int .i64 E]) ∧ Below W.heap.size W w') :
    Calls Tryz.prog 19 #[.int .i64 columns, .slice A l.length c, .slice S qs.length sc] w fun e w' => e = .returned (.tuple #[.slice none 0 0, .int .i64 E]) ∧ Below w.heap.size w w' := by
  rcases hE with rfl | rfl
  all_goals
    go_enter Tryz.func19, Tryz.ntmps19
    go_wp2_with (go_at_call 44; (with_reducible refine (HA _ (Below.refl _ _)).mono ?_); rintro e w1 ⟨rfl, h1⟩; have b3 := h1.alloc h1.size (.cells #[.slice none 0 0, .map none, .slice none 0 0] 79))
    show bodyPost _ _ _ _ _ _
  · exact bodyPost_ret (v := .tuple #[.slice none 0 0, .int .i64 100]) (by simp [results, Tryz.results19, go_sem]) rfl ⟨rfl, b3⟩
  · exact bodyPost_ret (v := .tuple #[.slice none 0 0, .int .i64 102]) (by simp [results, Tryz.results19, go_sem]) rfl ⟨rfl, b3⟩

set_option maxRecDepth 100000 in
set_option maxHeartbeats 4000000 in
theorem how_bad (columns : Int) (l : List SubD) (A : Option Addr) (c : Nat) (qs : List QueD) (S : Option Addr) (sc : Nat) (id : Int) (w : World) (E : Int) (hE : E = 100 ∨ E = 102) (HA : ∀ W, Below w.heap.size w W → Calls Tryz.prog 42 #[.int .i64 columns, .slice A l.length c, .slice S qs.length sc, .int .i64 id] W fun e w' => e = .returned (.tuple #[.agg #[.slice none 0 0, .map none, .slice none 0 0], .int .i64 0, .int .i64 E]) ∧ Below W.heap.size W w') :
    Calls Tryz.prog 16 #[.int .i64 columns, .slice A l.length c, .slice S qs.length sc, .int .i64 id] w fun e w' => e = .returned (.tuple #[.slice none 0 0, .int .i64 0, .int .i64 E]) ∧ Below w.heap.size w w' := by
  rcases hE with rfl | rfl
  all_goals
    go_enter Tryz.func16, Tryz.ntmps16
    go_wp2_with (go_at_call 42; (with_reducible refine (HA _ (Below.refl _ _)).mono ?_); rintro e w1 ⟨rfl, h1⟩; have b3 := h1.alloc h1.size (.cells #[.slice none 0 0, .map none, .slice none 0 0] 79))
    show bodyPost _ _ _ _ _ _
  · exact bodyPost_ret (v := .tuple #[.slice none 0 0, .int .i64 0, .int .i64 100]) (by simp [results, Tryz.results16, go_sem]) rfl ⟨rfl, b3⟩
  · exact bodyPost_ret (v := .tuple #[.slice none 0 0, .int .i64 0, .int .i64 102]) (by simp [results, Tryz.results16, go_sem]) rfl ⟨rfl, b3⟩

set_option maxRecDepth 100000 in
set_option maxHeartbeats 4000000 in
theorem hide_bad (columns : Int) (l : List SubD) (A : Option Addr) (c : Nat) (qs : List QueD) (S : Option Addr) (sc : Nat) (id : Int) (w : World) (E : Int) (hE : E = 100 ∨ E = 102) (HA : ∀ W, Below w.heap.size w W → Calls Tryz.prog 42 #[.int .i64 columns, .slice A l.length c, .slice S qs.length sc, .int .i64 id] W fun e w' => e = .returned (.tuple #[.agg #[.slice none 0 0, .map none, .slice none 0 0], .int .i64 0, .int .i64 E]) ∧ Below W.heap.size W w') :
    Calls Tryz.prog 20 #[.int .i64 columns, .slice A l.length c, .slice S qs.length sc, .int .i64 id] w fun e w' => e = .returned (.tuple #[.slice none 0 0, .int .i64 E]) ∧ Below w.heap.size w w' := by
  rcases hE with rfl | rfl
  all_goals
    go_enter Tryz.func20, Tryz.ntmps20
    go_wp2_with (go_at_call 42; (with_reducible refine (HA _ (Below.refl _ _)).mono ?_); rintro e w1 ⟨rfl, h1⟩; have b3 := h1.alloc h1.size (.cells #[.slice none 0 0, .map none, .slice none 0 0] 79))
    show bodyPost _ _ _ _ _ _
  · exact bodyPost_ret (v := .tuple #[.slice none 0 0, .int .i64 100]) (by simp [results, Tryz.results20, go_sem]) rfl ⟨rfl, b3⟩
  · exact bodyPost_ret (v := .tuple #[.slice none 0 0, .int .i64 102]) (by simp [results, Tryz.results20, go_sem]) rfl ⟨rfl, b3⟩

set_option maxRecDepth 100000 in
set_option maxHeartbeats 8000000 in
theorem deduced_ok (columns : Int) (l : List SubD) (A : Option Addr) (c : Nat) (qs : List QueD) (S : Option Addr) (sc : Nat) (w : World) (hq : qs.length ≤ 8) (hat : ∀ ol, SrtOf l ol → ∀ x ∈ ledR ol qs, x.at_ < ol.length) (HA : ∀ W, Below w.heap.size w W → Calls Tryz.prog 44 #[.int .i64 columns, .slice A l.length c, .slice S qs.length sc] W (AudU W columns l qs)) :
    Calls Tryz.prog 19 #[.int .i64 columns, .slice A l.length c, .slice S qs.length sc] w (DedP w l qs) := by
  go_enter Tryz.func19, Tryz.ntmps19
  go_upto_region 4 with (go_at_call 44; (with_reducible refine (HA _ (Below.refl _ _)).mono ?_); rintro e w1 ⟨ol, OA, oc, m, LA, lc, L, rfl, hF, h1⟩)
  obtain ⟨hp, hs, hTab, hLv, hLs, hsm⟩ := hF.out
  have hL8 := led8 hLv hq
  have hA2 := led_at_of hLv (hat ol ⟨hp, hs⟩)
  have bB := (Below.refl w1.heap.size w1).alloc (Nat.le_refl _) (.cells #[.slice OA ol.length oc, .map (some m), .slice LA L.length lc] 79)
  have kB := (Blk.new w1 #[.slice OA ol.length oc, .map (some m), .slice LA L.length lc] 79).cell
  have h16 := hTab.len
  have HD := Lib.hid (deduced_any OA (ol.map fun x => x.v.id) oc m L LA lc _ (hTab.ids.later bB) (hLs.later bB) (by omega) (by simpa using hA2) (by simp; omega))
  rw [List.length_map, hLv] at HD
  have HP := Lib.hid (And.intro hp hs)
  clear hp hs hTab hLv hLs hsm hF hA2 HA
  go_wp2_with (go_at_call 45; (with_reducible refine (HD.out).mono ?_); rintro e w2 ⟨A', c', rfl, hf, h2⟩)
  show bodyPost _ _ _ _ _ _
  exact bodyPost_ret (v := .tuple #[.slice A' (dedR ol qs).length c', .int .i64 0]) (by simp [results, Tryz.results19, go_sem, dedR, idsR, ledR]) rfl ⟨ol, A', c', HP, rfl, hf.imp (fun b _ hb => by have := h1.size; simp at hb; omega), (h1.trans (bB.mono h1.size)).trans (h2.mono (by have := h1.size; simp; omega))⟩
set_option maxRecDepth 100000 in
set_option maxHeartbeats 8000000 in
theorem how_ok (columns : Int) (l : List SubD) (A : Option Addr) (c : Nat) (qs : List QueD) (S : Option Addr) (sc : Nat) (id : Int) (w : World) (hq : qs.length ≤ 8) (hl16 : l.length ≤ 1000) (hat : ∀ ol, SrtOf l ol → (∀ x ∈ ledR ol qs, x.at_ < ol.length) ∧ ∀ a, fndI (idsR ol) id = some a → howB (ledR ol qs) a = true) (HA : ∀ W, Below w.heap.size w W → Calls Tryz.prog 42 #[.int .i64 columns, .slice A l.length c, .slice S qs.length sc, .int .i64 id] W (AboU W l qs id)) :
    Calls Tryz.prog 16 #[.int .i64 columns, .slice A l.length c, .slice S qs.length sc, .int .i64 id] w (HowP w l qs id) := by
  go_enter Tryz.func16, Tryz.ntmps16
  go_wp2_with (go_at_call 42; (with_reducible refine (HA _ (Below.refl _ _)).mono ?_); rintro e w1 ⟨ol, OA, oc, m, LA, lc, L, hF, h1, ⟨hn, rfl⟩ | ⟨a, ha, han, rfl⟩⟩)
  · have b3 := h1.alloc h1.size (.cells #[.slice none 0 0, .map none, .slice none 0 0] 79)
    show bodyPost _ _ _ _ _ _
    refine bodyPost_ret (v := .tuple #[.slice none 0 0, .int .i64 0, .int .i64 6]) (by simp [results, Tryz.results16, go_sem]) rfl ⟨ol, Lib.hid ⟨hF.out.1, hF.out.2.1⟩, b3, .inl ⟨?_, rfl⟩⟩
    unfold howR idsR; rw [hn]; rfl
  · obtain ⟨hp, hs, hLv, hLs, hsm⟩ := hF.out
    have hL8 := led8 hLv hq
    obtain ⟨hat1, hat2⟩ := hat ol ⟨hp, hs⟩
    have hA2 := led_at_of hLv hat1
    have hol : ol.length ≤ 1000 := by rw [hp.length_eq]; exact hl16
    have hB2 := hat2 a ha
    have bB := (Below.refl w1.heap.size w1).alloc (Nat.le_refl _) (.cells #[.slice OA ol.length oc, .map (some m), .slice LA L.length lc] 79)
    have kB := (Blk.new w1 #[.slice OA ol.length oc, .map (some m), .slice LA L.length lc] 79).cell
    have bW := h1.trans (bB.mono h1.size)
    have HD := Lib.hid (how_any OA ol.length oc m L LA lc a _ (hLs.later bB) (by omega) (fun x hx => by have := hA2 x hx; omega) (by rw [hLv]; exact hB2))
    rw [hLv] at HD
    have HP := Lib.hid (And.intro hp hs)
    have hR : howR ol qs id = howE (ledR ol qs) a := by unfold howR idsR; rw [ha]; rfl
    have HR := Lib.hid hR
    have hs1 := h1.size
    have hsz : (w1.alloc (.cells #[.slice OA ol.length oc, .map (some m), .slice LA L.length lc] 79)).heap.size = w1.heap.size + 1 := by simp
    change Hid (Calls _ _ _ _ (HowPost _ (howE (ledR ol qs) a))) at HD
    clear hp hs hLv hLs hsm hF hA2 HA hat hat1 hat2 hB2 hR ha
    cases he : howE (ledR ol qs) a with
    | none =>
      rw [he] at HD HR
      unfold HowPost at HD
      go_wp2_with (go_at_call 43; (with_reducible refine (HD.out).mono ?_); rintro e w2 ⟨rfl, h2⟩)
      show bodyPost _ _ _ _ _ _
      exact bodyPost_ret (v := .tuple #[.slice none 0 0, .int .i64 0, .int .i64 6]) (by simp [results, Tryz.results16, go_sem]) rfl ⟨ol, HP, bW.trans (h2.mono (by omega)), .inl ⟨HR.out, rfl⟩⟩
    | some x =>
      rw [he] at HD HR
      unfold HowPost at HD
      dsimp only at HD
      go_wp2_with (go_at_call 43; (with_reducible refine (HD.out).mono ?_); rintro e w2 ⟨A', c', rfl, hf, h2⟩)
      show bodyPost _ _ _ _ _ _
      exact bodyPost_ret (v := .tuple #[.slice A' (mltL (clrL 1 x.e.ps) x.e.ps).length c', .int .i64 (clrL 1 x.e.ps), .int .i64 0]) (by simp [results, Tryz.results16, go_sem]) rfl ⟨ol, HP, bW.trans (h2.mono (by omega)), .inr ⟨x, A', c', HR.out, rfl, hf.imp (fun b _ hb => by omega)⟩⟩
set_option maxRecDepth 100000 in
set_option maxHeartbeats 8000000 in
theorem hide_ok (columns : Int) (l : List SubD) (A : Option Addr) (c : Nat) (qs : List QueD) (S : Option Addr) (sc : Nat) (id : Int) (w : World) (hq : qs.length ≤ 8) (hl16 : l.length ≤ 1000) (hat : ∀ ol, SrtOf l ol → (∀ x ∈ ledR ol qs, x.at_ < ol.length) ∧ ∀ a, fndI (idsR ol) id = some a → hideB (ledR ol qs) ol.length a = true) (HA : ∀ W, Below w.heap.size w W → Calls Tryz.prog 42 #[.int .i64 columns, .slice A l.length c, .slice S qs.length sc, .int .i64 id] W (AboU W l qs id)) :
    Calls Tryz.prog 20 #[.int .i64 columns, .slice A l.length c, .slice S qs.length sc, .int .i64 id] w (HidP w l qs id) := by
  go_enter Tryz.func20, Tryz.ntmps20
  go_wp2_with (go_at_call 42; (with_reducible refine (HA _ (Below.refl _ _)).mono ?_); rintro e w1 ⟨ol, OA, oc, m, LA, lc, L, hF, h1, ⟨hn, rfl⟩ | ⟨a, ha, han, rfl⟩⟩)
  · have b3 := h1.alloc h1.size (.cells #[.slice none 0 0, .map none, .slice none 0 0] 79)
    show bodyPost _ _ _ _ _ _
    refine bodyPost_ret (v := .tuple #[.slice none 0 0, .int .i64 6]) (by simp [results, Tryz.results20, go_sem]) rfl ⟨ol, Lib.hid ⟨hF.out.1, hF.out.2.1⟩, b3, .inl ⟨?_, rfl⟩⟩
    unfold hidR idsR; rw [hn]; rfl
  · obtain ⟨hp, hs, hLv, hLs, hsm⟩ := hF.out
    have hL8 := led8 hLv hq
    obtain ⟨hat1, hat2⟩ := hat ol ⟨hp, hs⟩
    have hA2 := led_at_of hLv hat1
    have hol : ol.length ≤ 1000 := by rw [hp.length_eq]; exact hl16
    have hB2 := hat2 a ha
    have bB := (Below.refl w1.heap.size w1).alloc (Nat.le_refl _) (.cells #[.slice OA ol.length oc, .map (some m), .slice LA L.length lc] 79)
    have kB := (Blk.new w1 #[.slice OA ol.length oc, .map (some m), .slice LA L.length lc] 79).cell
    have bW := h1.trans (bB.mono h1.size)
    have HD := Lib.hid (hide_any OA ol.length oc m L LA lc a _ (hLs.later bB) (by omega) han (fun x hx => by have := hA2 x hx; omega) (by rw [hLv]; exact hB2))
    rw [hLv] at HD
    have HP := Lib.hid (And.intro hp hs)
    have hR : hidR ol qs id = (hidF (ledR ol qs) a).map fun k => hidV (moreL (ledR ol qs) ol.length k) a := by unfold hidR idsR; rw [ha]; rfl
    have HR := Lib.hid hR
    have hs1 := h1.size
    have hsz : (w1.alloc (.cells #[.slice OA ol.length oc, .map (some m), .slice LA L.length lc] 79)).heap.size = w1.heap.size + 1 := by simp
    change Hid (Calls _ _ _ _ (HidePost _ ((hidF (ledR ol qs) a).map fun k => hidV (moreL (ledR ol qs) ol.length k) a))) at HD
    clear hp hs hLv hLs hsm hF hA2 HA hat hat1 hat2 hB2 hR ha
    generalize (hidF (ledR ol qs) a).map (fun k => hidV (moreL (ledR ol qs) ol.length k) a) = ho at *
    cases ho with
    | none =>
      unfold HidePost at HD
      go_wp2_with (go_at_call 46; (with_reducible refine (HD.out).mono ?_); rintro e w2 ⟨rfl, h2⟩)
      show bodyPost _ _ _ _ _ _
      exact bodyPost_ret (v := .tuple #[.slice none 0 0, .int .i64 6]) (by simp [results, Tryz.results20, go_sem]) rfl ⟨ol, HP, bW.trans (h2.mono (by omega)), .inl ⟨HR.out, rfl⟩⟩
    | some x =>
      unfold HidePost at HD
      dsimp only at HD
      go_wp2_with (go_at_call 46; (with_reducible refine (HD.out).mono ?_); rintro e w2 ⟨A', c', rfl, hf, h2⟩)
      show bodyPost _ _ _ _ _ _
      exact bodyPost_ret (v := .tuple #[.slice A' x.length c', .int .i64 0]) (by simp [results, Tryz.results20, go_sem]) rfl ⟨ol, HP, bW.trans (h2.mono (by omega)), .inr ⟨x, A', c', HR.out, rfl, hf.imp (fun b _ hb => by omega)⟩⟩
end Go.Proofs.YtbkekdbabkncfaaGreat
