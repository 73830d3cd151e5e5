/- How a value follows, by the program. Written by v12.py. -/
import Derived.Test.YtbkekdbabkncfaaGreatVP10

namespace Go.Proofs.YtbkekdbabkncfaaGreat
open Go.RowKit Go.Maps

/-- The equation that says how the value of a subject follows. -/
def howE (ls : List Led) (a : Nat) : Option Led := match fndL ls a with
  | none => none
  | some i => let l := ls.getD i ⟨⟨[], []⟩, 0⟩
    if (fndF l.e.fs (l.at_ + 1)).isSome = true then none else some l
def howB (ls : List Led) (a : Nat) : Bool := match howE ls a with
  | none => true
  | some l => clrB 1 l.e.ps && mltB (clrL 1 l.e.ps) l.e.ps
/-- Parts and whole in new memory, or nothing. -/
def HowPost (w : World) (o : Option Led) (e : Ending) (w' : World) : Prop := match o with
  | none => e = .returned (.tuple #[.slice none 0 0, .int .i64 0, .bool false]) ∧ Below w.heap.size w w'
  | some l => ∃ A' c', e = .returned (.tuple #[.slice A' (mltL (clrL 1 l.e.ps) l.e.ps).length c', .int .i64 (clrL 1 l.e.ps), .bool true]) ∧ FlatP 1 intC w' (fun b => w.heap.size ≤ b) A' (mltL (clrL 1 l.e.ps) l.e.ps) ∧ Below w.heap.size w w'

set_option maxRecDepth 100000 in
set_option maxHeartbeats 8000000 in
theorem how_any (I : Option Addr) (n c m : Nat) (L : List LedD) (A : Option Addr) (d a : Nat) (w : World) (h : LedsAt w A L) (hl : L.length ≤ 1000) (hat : ∀ x ∈ L, x.v.at_ ≤ 1000) (hb : howB (L.map LedD.v) a = true) :
    Calls Tryz.prog 43 #[.agg #[.slice I n c, .map (some m), .slice A L.length d], .int .i64 a] w (HowPost w (howE (L.map LedD.v) a)) := by
  have b1 := (Below.refl w.heap.size w).alloc (Nat.le_refl _) (.cells #[.slice I n c, .map (some m), .slice A L.length d] 79)
  have k1 := Blk.new w #[.slice I n c, .map (some m), .slice A L.length d] 79
  have b2 := b1.alloc b1.size (.cells #[.slice none 0 0, .slice none 0 0, .int .i64 0] 116)
  have HLd := Lib.hid (fun W (hb : Below w.heap.size w W) => auditLead_any I n c m L A d a W (h.later hb) hl)
  have HX := Lib.hid (fun W (hb : Below w.heap.size w W) x (hx : x ∈ L) => (h.later hb).each x hx)
  have HAt := Lib.hid hat
  have k1c := k1.cell
  clear h hat
  cases hf : fndL (L.map LedD.v) a with
  | none =>
    have hE : howE (L.map LedD.v) a = none := by unfold howE; rw [hf]
    rw [hE]
    rw [hf] at HLd
    unfold HowPost
    go_enter Tryz.func43, Tryz.ntmps43
    go_wp2_with (go_at_call 66; (with_reducible refine (HLd.out _ b1).mono ?_); rintro e w1 ⟨rfl, h1⟩; have e1 := b1.trans (h1.mono b1.size))
    exact bodyPost_ret (v := .tuple #[.slice none 0 0, .int .i64 0, .bool false]) (by simp [results, Tryz.results43, go_sem]) rfl ⟨rfl, e1.alloc e1.size _⟩
  | some i =>
    have hi : i < L.length := by
      unfold fndL at hf
      rw [List.find?_range_eq_some] at hf
      simpa using hf.2.1
    have hL : L[i]? = some L[i] := List.getElem?_eq_getElem hi
    have HXi := Lib.hid (fun W (hb : Below w.heap.size w W) => HX.out W hb _ (List.getElem_mem hi))
    have hai := HAt.out _ (List.getElem_mem hi)
    have hgd : (L.map LedD.v).getD i ⟨⟨[], []⟩, 0⟩ = L[i].v := by rw [getD_lt _ _ (by simpa using hi), List.getElem_map]
    rw [hf] at HLd
    have hE : howE (L.map LedD.v) a = if (fndF L[i].v.e.fs (L[i].v.at_ + 1)).isSome = true then none else some L[i].v := by
      unfold howE
      rw [hf]
      simp only [hgd]
    unfold howB at hb
    rw [hE] at hb ⊢
    clear hE hgd hf HX HAt
    generalize L[i] = x at *
    have HD := Lib.hid (fun W (hb : Below w.heap.size w W) => depends_any x.v x.F x.P x.f x.p W (HXi.out W hb) hai)
    cases hq : (fndF x.v.e.fs (x.v.at_ + 1)).isSome with
    | true =>
      rw [hq] at HD
      simp only [if_true]
      unfold HowPost
      go_enter Tryz.func43, Tryz.ntmps43
      go_wp2_with (first
        | (go_at_call 66; (with_reducible refine (HLd.out _ b1).mono ?_); rintro e w1 ⟨⟨x', hx', rfl⟩, h1⟩; have e1 := b1.trans (h1.mono b1.size); rw [hL] at hx'; cases hx')
        | (go_at_call 67; (with_reducible refine (HD.out _ ?_).mono ?_); exact e1.alloc e1.size _; rintro e w2 ⟨rfl, h2⟩))
      exact bodyPost_ret (v := .tuple #[.slice none 0 0, .int .i64 0, .bool false]) (by simp [results, Tryz.results43, go_sem]) rfl ⟨rfl, (e1.alloc e1.size _).trans (h2.mono (e1.alloc e1.size _).size)⟩
    | false =>
      rw [hq] at HD hb
      simp only [Bool.false_eq_true, if_false, Bool.and_eq_true] at hb ⊢
      unfold HowPost
      have HCl := Lib.hid (fun W (hb2 : Below w.heap.size w W) => clearing_any x.v.e.ps x.P x.p W (HXi.out W hb2).ps (HXi.out W hb2).pl hb.1)
      have HMu := Lib.hid (fun W (hb2 : Below w.heap.size w W) => multiplied_any x.v.e.ps x.P x.p (clrL 1 x.v.e.ps) W (HXi.out W hb2).ps (HXi.out W hb2).pl hb.2)
      generalize hml : mltL (clrL 1 x.v.e.ps) x.v.e.ps = ml at *
      generalize hcl : clrL 1 x.v.e.ps = cl at *
      have HM := Lib.hid (And.intro hml hcl)
      clear hml hcl
      go_enter Tryz.func43, Tryz.ntmps43
      go_wp2_with (first
        | (go_at_call 66; (with_reducible refine (HLd.out _ b1).mono ?_); rintro e w1 ⟨⟨x', hx', rfl⟩, h1⟩; have e1 := b1.trans (h1.mono b1.size); rw [hL] at hx'; cases hx')
        | (go_at_call 67; (with_reducible refine (HD.out _ ?_).mono ?_); exact e1.alloc e1.size _; rintro e w2 ⟨rfl, h2⟩; have e2 := (e1.alloc e1.size (.cells #[.slice x.F x.v.e.fs.length x.f, .slice x.P x.v.e.ps.length x.p, .int .i64 x.v.at_] 116)).trans (h2.mono (e1.alloc e1.size (.cells #[.slice x.F x.v.e.fs.length x.f, .slice x.P x.v.e.ps.length x.p, .int .i64 x.v.at_] 116)).size); have kb := (Blk.new w1 #[.slice x.F x.v.e.fs.length x.f, .slice x.P x.v.e.ps.length x.p, .int .i64 x.v.at_] 116).below h2 (by simp); have kbc := kb.cell)
        | (go_at_call 68; (with_reducible refine (HCl.out _ e2).mono ?_); rintro e w3 ⟨rfl, h3⟩; have e3 := e2.trans (h3.mono e2.size); have kd := kb.below h3 kb.lt; have kdc := kd.cell)
        | (go_at_call 69; (with_reducible refine (HMu.out _ e3).mono ?_); rintro e w4 ⟨A', c', rfl, h4, h5⟩; have e4 := e3.trans (h5.mono e3.size); have H4 := Lib.hid (h4.imp (Q := fun b => w.heap.size ≤ b) (fun b _ h => Nat.le_trans e3.size h))))
      exact bodyPost_ret (v := .tuple #[.slice A' ml.length c', .int .i64 cl, .bool true]) (by simp [results, Tryz.results43, go_sem]) rfl ⟨A', c', by rw [HM.out.2, HM.out.1], by rw [HM.out.2, HM.out.1]; exact H4.out, e4⟩
end Go.Proofs.YtbkekdbabkncfaaGreat

namespace Go.Proofs.YtbkekdbabkncfaaGreat
open Go.RowKit Go.Maps

def morS (free : Nat) (out : List Frc) (l : Led) : List Frc := out.set l.at_ (subF (intF 0) (l.e.fs.getD free default))
def moreL (ls : List Led) (n free : Nat) : List Frc := ls.foldl (morS free) (digL (2 ^ free) n)
def moreB (ls : List Led) (n free : Nat) : Bool := decide (n ≤ 16) && decide (free < 16) && ls.all fun l => decide (l.at_ < n) && decide (free < l.e.fs.length) && bdF (l.e.fs.getD free default)
theorem mor_len (free : Nat) : ∀ (ls : List Led) (o : List Frc), (ls.foldl (morS free) o).length = o.length
  | [], _ => rfl
  | l :: r, o => by rw [List.foldl_cons, mor_len free r]; simp [morS]
theorem own_lowV {w : World} {base base' : Nat} {e : TypeId} {size : Nat} {v : Value} {n : Nat} {xs : List Value} (h : w.ownsRow base e size v n xs) (hb : base' ≤ base) : w.ownsRow base' e size v n xs := by
  refine ⟨h.1, ?_⟩
  rcases h.2 with h0 | ⟨g, cap, cur, h1, h2, h3, h4⟩
  · exact .inl h0
  · exact .inr ⟨g, cap, cur, h1, Nat.le_trans hb h2, h3, h4⟩
theorem frc_put {B g c i : Nat} {w : World} {l : List Frc} (h : w.ownsRow B 129 2 (.slice (some ⟨g, 0, none⟩) l.length c) l.length (l.flatMap frcC)) (hi : i < l.length) (y : Frc) :
    ((w.setCell ⟨g, i * 2 + 0, none⟩ (.int .i64 y.n)).setCell ⟨g, i * 2 + 1, none⟩ (.int .i64 y.d)).ownsRow B 129 2 (.slice (some ⟨g, 0, none⟩) l.length c) l.length ((l.set i y).flatMap frcC) := by
  have h1 := (h.stored (i * 2 + 0) (.int .i64 y.n)).1
  rw [← flat_set frcC_len l i hi ⟨y.n, l[i].d⟩ 0 (.int .i64 y.n) (by decide) rfl] at h1
  have h2 := (h1.stored (i * 2 + 1) (.int .i64 y.d)).1
  rw [← flat_set frcC_len (l.set i ⟨y.n, l[i].d⟩) i (by simpa using hi) y 1 (.int .i64 y.d) (by decide) (by simp [frcC]), List.set_set] at h2
  exact h2

set_option maxRecDepth 100000 in
set_option maxHeartbeats 8000000 in
theorem more_any (I : Option Addr) (n c m : Nat) (L : List LedD) (A : Option Addr) (d free : Nat) (w : World) (h : LedsAt w A L) (hl : L.length ≤ 1000) (hb : moreB (L.map LedD.v) n free = true) :
    Calls Tryz.prog 74 #[.agg #[.slice I n c, .map (some m), .slice A L.length d], .int .i64 free] w (FrcOwn w (moreL (L.map LedD.v) n free)) := by
  unfold moreB at hb
  simp only [Bool.and_eq_true, decide_eq_true_eq, List.all_eq_true] at hb
  obtain ⟨⟨hn, hf⟩, hb⟩ := hb
  have HBx : Hid (∀ i, (hi : i < L.length) → L[i].v.at_ < n ∧ ∃ hf : free < L[i].v.e.fs.length, bdF L[i].v.e.fs[free] = true) := Lib.hid (fun i hi => by
    obtain ⟨⟨h1, h2⟩, h3⟩ := hb L[i].v (List.mem_map_of_mem (List.getElem_mem hi))
    rw [getD_lt _ _ h2] at h3
    exact ⟨h1, h2, h3⟩)
  have b1 := (Below.refl w.heap.size w).alloc (Nat.le_refl _) (.cells #[.slice I n c, .map (some m), .slice A L.length d] 79)
  have k1 := Blk.new w #[.slice I n c, .map (some m), .slice A L.length d] 79
  have hpw : 2 ^ free < 2 ^ 62 := Nat.pow_lt_pow_right (by decide) (by omega)
  have hp16 := pow16 free (by omega)
  have hsh : IntKind.i64.wrap ((2 : Int) ^ free) = ((2 ^ free : Nat) : Int) := by
    have h1 : ((2 : Int) ^ free) = ((2 ^ free : Nat) : Int) := by push_cast; rfl
    rw [h1]
    exact IntWalk.i64_in _ (by omega)
  have HDg := Lib.hid (fun W => digitsOwn_any (2 ^ free) n hpw (by omega) W)
  rw [← hsh] at HDg
  have k1c := k1.cell
  go_enter Tryz.func74, Tryz.ntmps74
  clear hsh hp16 hpw
  go_upto_region 1 with fail
  generalize hW1 : w.alloc (.cells #[.slice I n c, .map (some m), .slice A L.length d] 79) = W1 at *
  clear hW1
  have g1 := k1.lt
  have D0 : Below W1.heap.size W1 W1.drew := (Below.refl _ _).drew
  go_region_held3 (fun W' => ∀ i, W'.cell? ⟨w.heap.size, i, none⟩ = (#[.slice I n c, .map (some m), .slice A L.length d] : Array Value)[i]?) (first | with_reducible exact (k1.below D0 g1).cell | with_reducible exact (k1.below d2 g1).cell)
    (first
      | (go_at_call 106; (with_reducible refine (HDg.out _).mono ?_); rintro e w2 ⟨A2, c2, rfl, hown2, h2⟩; have d2 := D0.trans h2))
  have kd := (k1.below d2 g1).cell
  have hBw := b1.trans (d2.mono b1.size)
  have HLn : Hid ((digL (2 ^ free) n).length = n) := Lib.hid (by simp [digL])
  obtain ⟨Dg, hDg⟩ : ∃ Dg, Dg = digL (2 ^ free) n := ⟨_, rfl⟩
  rw [← hDg] at HLn hown2
  have HMo : Hid (moreL (L.map LedD.v) n free = (L.map LedD.v).foldl (morS free) Dg) := Lib.hid (by unfold moreL; rw [hDg])
  have hn2 := HLn.out
  rw [hn2] at hown2
  have HI0 : Hid (w2.ownsRow w.heap.size 129 2 (.slice A2 n c2) n ((((L.map LedD.v).take 0).foldl (morS free) Dg).flatMap frcC) ∧ Below w.heap.size w w2) := Lib.hid ⟨own_lowV (by simpa using hown2) b1.size, hBw⟩
  have HH := Lib.hid h
  clear h hown2 d2 h2 D0
  rw [← hDg, hn2]
  clear hDg HDg hn2
  go_wp2_with fail
  go_loopw [18] (fun ii wr => ∃ i : Nat, i ≤ L.length ∧ ii = .int .i64 i ∧ Hid (wr.ownsRow w.heap.size 129 2 (.slice A2 n c2) n ((((L.map LedD.v).take i).foldl (morS free) Dg).flatMap frcC) ∧ Below w.heap.size w wr)) (fun ii _ => L.length - (vInt ii).toNat)
  case atStart => exact ⟨0, Nat.zero_le _, by first | rfl | go_num, HI0⟩
  case round =>
    obtain ⟨i, hi, rfl, hR⟩ := hrel
    clear HI0 kd
    obtain ⟨ho, hB⟩ := hR.out
    by_cases hlt : i < L.length
    · have hil : (i : Int) < (L.length : Int) := by omega
      obtain ⟨b0, off0, hA, hb0, c0, c1, c2'⟩ := led_at (HH.out.later hB) hlt
      obtain ⟨hat, hfl, hbd⟩ := HBx.out i hlt
      obtain ⟨b, off, hF, hbb, f0, f1⟩ := frc_at (HH.out.each _ (List.getElem_mem hlt)).fs hfl
      have f0' := (hB.cell (p := ⟨b, off + free * 2, none⟩) hbb).trans f0
      have f1' := (hB.cell (p := ⟨b, off + free * 2 + 1, none⟩) hbb).trans f1
      have hst : ((L.map LedD.v).take (i + 1)).foldl (morS free) Dg = (((L.map LedD.v).take i).foldl (morS free) Dg).set L[i].v.at_ (subF (intF 0) L[i].v.e.fs[free]) := by
        rw [List.take_succ_eq_append_getElem (by simpa using hlt), List.foldl_append, List.getElem_map]
        show morS free _ L[i].v = _
        unfold morS
        rw [getD_lt _ _ hfl]
      have HIn := Lib.hid (fun W => integer_any 0 W)
      have HMi : Hid (∀ W, Calls Tryz.prog 110 #[.agg #[.int .i64 0, .int .i64 1], .agg #[.int .i64 L[i].v.e.fs[free].n, .int .i64 L[i].v.e.fs[free].d]] W fun e w' => e = .returned (.agg #[.int .i64 (subF (intF 0) L[i].v.e.fs[free]).n, .int .i64 (subF (intF 0) L[i].v.e.fs[free]).d]) ∧ Below W.heap.size W w') := Lib.hid (fun W => minusF_any (intF 0) L[i].v.e.fs[free] (by decide) hbd W)
      have hfl' : (free : Int) < (L[i].v.e.fs.length : Int) := by omega
      rw [hF] at c0
      have hvl := mor_len free ((L.map LedD.v).take i) Dg
      have HSt := Lib.hid hst
      clear hst hbd hR
      generalize L[i].v.e.fs[free] = z at *
      generalize L[i] = y at *
      have hatI : (y.v.at_ : Int) < (n : Int) := by omega
      obtain ⟨g, cap, hv, hgb, hglt⟩ := ho.form (by omega)
      simp only [Value.slice.injEq, true_and] at hv
      obtain ⟨rfl, rfl⟩ := hv
      generalize hr : subF (intF 0) z = r at *
      generalize hov : ((L.map LedD.v).take i).foldl (morS free) Dg = ov at *
      have hov2 : ov.length = n := hvl.trans HLn.out
      have HRow : Hid (∀ W', Below wr.heap.size wr W' → W'.ownsRow w.heap.size 129 2 (.slice (some ⟨g, 0, none⟩) ov.length c2) ov.length (ov.flatMap frcC)) := Lib.hid (fun W' hb => by rw [hov2]; exact own_below ho hb)
      clear ho hov hvl
      have kb := Blk.new wr #[.slice (some ⟨b, off, none⟩) y.v.e.fs.length y.f, .slice y.P y.v.e.ps.length y.p, .int .i64 y.v.at_] 116
      have bA := (Below.refl wr.heap.size wr).alloc (Nat.le_refl _) (.cells #[.slice (some ⟨b, off, none⟩) y.v.e.fs.length y.f, .slice y.P y.v.e.ps.length y.p, .int .i64 y.v.at_] 116)
      have hbw : b < wr.heap.size := Nat.lt_of_lt_of_le hbb hB.size
      subst hA
      go_upto_region 5 with fail
      have f0a := (bA.cell (p := ⟨b, off + free * 2, none⟩) hbw).trans f0'
      have f1a := (bA.cell (p := ⟨b, off + free * 2 + 1, none⟩) hbw).trans f1'
      generalize hW5 : wr.alloc (.cells #[.slice (some ⟨b, off, none⟩) y.v.e.fs.length y.f, .slice y.P y.v.e.ps.length y.p, .int .i64 y.v.at_] 116) = W5 at *
      have g5 := kb.lt
      have hz5 : W5.heap.size = wr.heap.size + 1 := by subst hW5; simp
      clear hW5 c0 c1 c2' f0 f1 f0' f1'
      have D0 : Below W5.heap.size W5 W5.drew := (Below.refl _ _).drew
      have SK : ∀ W', Below W5.heap.size W5 W' → (∀ i, (W').cell? ⟨wr.heap.size, i, none⟩ = (#[.slice (some ⟨b, off, none⟩) y.v.e.fs.length y.f, .slice y.P y.v.e.ps.length y.p, .int .i64 y.v.at_] : Array Value)[i]?) ∧ (W').cell? ⟨b, off + free * 2, none⟩ = some (.int .i64 z.n) ∧ (W').cell? ⟨b, off + free * 2 + 1, none⟩ = some (.int .i64 z.d) := fun W' hW => ⟨(kb.below hW g5).cell, (hW.cell (p := ⟨b, off + free * 2, none⟩) (by show b < W5.heap.size; omega)).trans f0a, (hW.cell (p := ⟨b, off + free * 2 + 1, none⟩) (by show b < W5.heap.size; omega)).trans f1a⟩
      have SKs : ∀ (W' : World) (j : Nat) (v : Value), ((∀ i, (W').cell? ⟨wr.heap.size, i, none⟩ = (#[.slice (some ⟨b, off, none⟩) y.v.e.fs.length y.f, .slice y.P y.v.e.ps.length y.p, .int .i64 y.v.at_] : Array Value)[i]?) ∧ (W').cell? ⟨b, off + free * 2, none⟩ = some (.int .i64 z.n) ∧ (W').cell? ⟨b, off + free * 2 + 1, none⟩ = some (.int .i64 z.d)) → (∀ k, (W'.setCell ⟨g, j, none⟩ v).cell? ⟨wr.heap.size, k, none⟩ = (#[.slice (some ⟨b, off, none⟩) y.v.e.fs.length y.f, .slice y.P y.v.e.ps.length y.p, .int .i64 y.v.at_] : Array Value)[k]?) ∧ (W'.setCell ⟨g, j, none⟩ v).cell? ⟨b, off + free * 2, none⟩ = some (.int .i64 z.n) ∧ (W'.setCell ⟨g, j, none⟩ v).cell? ⟨b, off + free * 2 + 1, none⟩ = some (.int .i64 z.d) := fun W' j v hS => ⟨fun k => (World.cell?_setCell_other _ _ _ _ (fun e => by first | (simp at e; done) | (simp at e; omega))).trans (hS.1 k), (World.cell?_setCell_other _ _ _ _ (fun e => by first | (simp at e; done) | (simp at e; omega))).trans hS.2.1, (World.cell?_setCell_other _ _ _ _ (fun e => by first | (simp at e; done) | (simp at e; omega))).trans hS.2.2⟩
      go_region_held3 (fun W' => (∀ i, (W').cell? ⟨wr.heap.size, i, none⟩ = (#[.slice (some ⟨b, off, none⟩) y.v.e.fs.length y.f, .slice y.P y.v.e.ps.length y.p, .int .i64 y.v.at_] : Array Value)[i]?) ∧ (W').cell? ⟨b, off + free * 2, none⟩ = some (.int .i64 z.n) ∧ (W').cell? ⟨b, off + free * 2 + 1, none⟩ = some (.int .i64 z.d)) (first | with_reducible exact SK _ D0 | with_reducible exact SK _ d4 | with_reducible exact SK _ d3 | (with_reducible refine SKs _ _ _ ?_; first | with_reducible exact SK _ d4 | (with_reducible refine SKs _ _ _ ?_; with_reducible exact SK _ d4)))
        (first
          | (go_at_call 109; (with_reducible refine (HIn.out _).mono ?_); rintro e w3 ⟨rfl, h3⟩; have d3 := D0.trans h3)
          | (go_at_call 110; (with_reducible refine (HMi.out _).mono ?_); rintro e w4 ⟨rfl, h4⟩; have d4 := d3.trans (h4.mono d3.size); have e4 := bA.trans (d4.mono (by omega)); have hrw := HRow.out w4 e4; have hyo : y.v.at_ < ov.length := (by omega); have s0 : w4.cell? ⟨g, y.v.at_ * 2, none⟩ = some (.int .i64 ov[y.v.at_].n) := (hrw.cellAt (y.v.at_ * 2 + 0) (by omega)).trans (flat_get frcC_len ov y.v.at_ hyo 0 (by decide)); have s1 : w4.cell? ⟨g, y.v.at_ * 2 + 1, none⟩ = some (.int .i64 ov[y.v.at_].d) := (hrw.cellAt (y.v.at_ * 2 + 1) (by omega)).trans (flat_get frcC_len ov y.v.at_ hyo 1 (by decide)); have fz : ∀ k, w4.frozen? ⟨g, k, none⟩ = false := (fun k => hrw.frozenAt k)))
      have hput := frc_put hrw hyo r
      have e5 := (((hB.trans (e4.mono hB.size)).setCell (p := ⟨g, y.v.at_ * 2, none⟩) (by show w.heap.size ≤ g; exact hgb) (.int .i64 r.n)).setCell (p := ⟨g, y.v.at_ * 2 + 1, none⟩) (by show w.heap.size ≤ g; exact hgb) (.int .i64 r.d))
      have HF : Hid (((w4.setCell ⟨g, y.v.at_ * 2, none⟩ (.int .i64 r.n)).setCell ⟨g, y.v.at_ * 2 + 1, none⟩ (.int .i64 r.d)).ownsRow w.heap.size 129 2 (.slice (some ⟨g, 0, none⟩) n c2) n ((((L.map LedD.v).take (i + 1)).foldl (morS free) Dg).flatMap frcC)) := Lib.hid (by
        rw [HSt.out]
        rw [hov2] at hput
        exact hput)
      clear hput
      go_wp2_with fail
      go_roundw
      case rel => exact ⟨i + 1, by omega, by go_num, Lib.hid ⟨HF.out, e5⟩⟩
      case measure => simp [vInt]; omega
    · have hil : ¬ (i : Int) < (L.length : Int) := by omega
      obtain rfl : i = L.length := by omega
      have HE : Hid (wr.ownsRow w.heap.size 129 2 (.slice A2 n c2) n ((moreL (L.map LedD.v) n free).flatMap frcC)) := Lib.hid (by
        rw [HMo.out]
        have h1 : (L.map LedD.v).take L.length = L.map LedD.v := List.take_of_length_le (by simp)
        rw [h1] at ho
        exact ho)
      have HLm : Hid ((moreL (L.map LedD.v) n free).length = n) := Lib.hid (by rw [HMo.out, mor_len]; exact HLn.out)
      clear ho hR
      go_wp2_with fail
      go_ret
      exact ⟨A2, c2, by rw [HLm.out]; rfl, by rw [HLm.out]; exact HE.out, hB⟩
end Go.Proofs.YtbkekdbabkncfaaGreat

namespace Go.Proofs.YtbkekdbabkncfaaGreat
open Go.RowKit Go.Maps

/-- Who is free, if the value of a subject does not follow. -/
def hidF (ls : List Led) (a : Nat) : Option Nat := match fndL ls a with
  | none => some a
  | some i => fndF (ls.getD i ⟨⟨[], []⟩, 0⟩).e.fs ((ls.getD i ⟨⟨[], []⟩, 0⟩).at_ + 1)
def hidM (mo : List Frc) (a : Nat) : Int := if (mo.getD a default).n < 0 then -clrL 1 mo else clrL 1 mo
def hidV (mo : List Frc) (a : Nat) : List Int := mltL (hidM mo a) mo
def hideB (ls : List Led) (n a : Nat) : Bool := match hidF ls a with
  | none => true
  | some k => moreB ls n k && clrB 1 (moreL ls n k) && mltB (hidM (moreL ls n k) a) (moreL ls n k)
/-- How much more in new memory, or nothing. -/
def HidePost (w : World) (o : Option (List Int)) (e : Ending) (w' : World) : Prop := match o with
  | none => e = .returned (.tuple #[.slice none 0 0, .bool false]) ∧ Below w.heap.size w w'
  | some l => ∃ A' c', e = .returned (.tuple #[.slice A' l.length c', .bool true]) ∧ FlatP 1 intC w' (fun b => w.heap.size ≤ b) A' l ∧ Below w.heap.size w w'

set_option maxRecDepth 100000 in
set_option maxHeartbeats 16000000 in
theorem hide_any (I : Option Addr) (n c m : Nat) (L : List LedD) (A : Option Addr) (d a : Nat) (w : World) (h : LedsAt w A L) (hl : L.length ≤ 1000) (ha : a < n) (hat : ∀ x ∈ L, x.v.at_ ≤ 1000) (hb : hideB (L.map LedD.v) n a = true) :
    Calls Tryz.prog 46 #[.agg #[.slice I n c, .map (some m), .slice A L.length d], .int .i64 a] w (HidePost w ((hidF (L.map LedD.v) a).map fun k => hidV (moreL (L.map LedD.v) n k) a)) := by
  have b1 := (Below.refl w.heap.size w).alloc (Nat.le_refl _) (.cells #[.slice I n c, .map (some m), .slice A L.length d] 79)
  have k1 := Blk.new w #[.slice I n c, .map (some m), .slice A L.length d] 79
  have HLd := Lib.hid (fun W (hb : Below w.heap.size w W) => auditLead_any I n c m L A d a W (h.later hb) hl)
  have HX := Lib.hid (fun W (hb : Below w.heap.size w W) x (hx : x ∈ L) => (h.later hb).each x hx)
  have HLA := Lib.hid (fun W (hb : Below w.heap.size w W) => h.later hb)
  have HAt := Lib.hid hat
  have k1c := k1.cell
  clear h hat
  cases hf : fndL (L.map LedD.v) a with
  | none =>
    have hE : hidF (L.map LedD.v) a = some a := by unfold hidF; rw [hf]
    rw [hf] at HLd
    unfold hideB at hb
    rw [hE] at hb ⊢
    simp only [Option.map_some, Bool.and_eq_true] at hb ⊢
    clear hE hf HX HAt
    have hm2 : moreB (L.map LedD.v) n a = true := hb.1.1
    have HMo := Lib.hid (fun W (hb2 : Below w.heap.size w W) => more_any I n c m L A d a W (HLA.out W hb2) hl hm2)
    have hln : (moreL (L.map LedD.v) n a).length = n := by unfold moreL; rw [mor_len]; simp [digL]
    have hn16 : n ≤ 16 := by unfold moreB at hm2; simp only [Bool.and_eq_true, decide_eq_true_eq] at hm2; exact hm2.1.1
    have HA : Hid (a < (moreL (L.map LedD.v) n a).length) := Lib.hid (by rw [hln]; exact ha)
    have HCl := Lib.hid (fun F f W (h : FrcAt W W.heap.size F (moreL (L.map LedD.v) n a)) => clearing_any (moreL (L.map LedD.v) n a) F f W h (by omega) hb.1.2)
    have HMu0 := Lib.hid (fun F f W (h : FrcAt W W.heap.size F (moreL (L.map LedD.v) n a)) => multiplied_any (moreL (L.map LedD.v) n a) F f (hidM (moreL (L.map LedD.v) n a) a) W h (by omega) hb.2)
    have hml := hb.2
    have haI : (a : Int) < ((moreL (L.map LedD.v) n a).length : Int) := by omega
    clear hln
    unfold hidV
    unfold HidePost
    generalize moreL (L.map LedD.v) n a = mo at *
    have hna0 : mo.getD a default = mo[a]'(HA.out) := getD_lt _ _ HA.out
    have hcb : -1000000000 ≤ clrL 1 mo ∧ clrL 1 mo ≤ 1000000000 := by
      unfold mltB hidM at hml
      rw [Bool.and_eq_true, inN_iff] at hml
      have := hml.1
      split at this <;> omega
    generalize hna : (mo[a]'(HA.out)).n = na at *
    by_cases hneg : na < 0
    · have hM : hidM mo a = -clrL 1 mo := by unfold hidM; rw [hna0, hna, if_pos hneg]
      rw [hM] at HMu0
      have hwn : IntKind.i64.wrap (-clrL 1 mo) = -clrL 1 mo := IntWalk.i64_in _ (by omega)
      have HMu := HMu0
      generalize hmle : mltL (-clrL 1 mo) mo = ml at *
      have HM : Hid (mltL (hidM mo a) mo = ml) := Lib.hid (by rw [hM, hmle])
      clear hM hmle HMu0 hml
      generalize clrL 1 mo = cl at *
      go_enter Tryz.func46, Tryz.ntmps46
      go_wp2_with (first
        | (go_at_call 66; (with_reducible refine (HLd.out _ b1).mono ?_); rintro e w1 ⟨rfl, h1⟩; have e1 := b1.trans (h1.mono b1.size); have e1a := e1.alloc e1.size (.cells #[.slice none 0 0, .slice none 0 0, .int .i64 0] 116); have kac := ((k1.below h1 k1.lt).alloc (.cells #[.slice none 0 0, .slice none 0 0, .int .i64 0] 116)).cell)
        | (go_at_call 74; (with_reducible refine (HMo.out _ e1a).mono ?_); rintro e w3 ⟨A2, c2, rfl, hown, h3⟩; have e3 := (e1a).trans (h3.mono (e1a).size); have HFA := Lib.hid (Flat.of_own (c := c2) frcC_len (by decide) hown))
        | (go_at_call 68; (with_reducible refine (HCl.out A2 c2 w3 HFA.out).mono ?_); rintro e w4 ⟨rfl, h4⟩; have e4 := e3.trans (h4.mono e3.size); have HFB := Lib.hid (HFA.out.later h4); obtain ⟨b, off, rfl, hbb, q0, q1⟩ := frc_at HFB.out HA.out; rw [hna] at q0)
        | (go_at_call 69; (with_reducible refine (HMu.out _ c2 w4 HFB.out).mono ?_); rintro e w5 ⟨A', c', rfl, h5, h6⟩; have e5 := e4.trans (h6.mono e4.size); have H5 := Lib.hid (h5.imp (Q := fun b => w.heap.size ≤ b) (fun b _ h => Nat.le_trans e4.size h))))
      exact bodyPost_ret (v := .tuple #[.slice A' ml.length c', .bool true]) (by simp [results, Tryz.results46, go_sem]) rfl ⟨A', c', by rw [HM.out], by rw [HM.out]; exact H5.out, e5⟩
    · have hM : hidM mo a = clrL 1 mo := by unfold hidM; rw [hna0, hna, if_neg hneg]
      rw [hM] at HMu0
      have HMu := HMu0
      generalize hmle : mltL (clrL 1 mo) mo = ml at *
      have HM : Hid (mltL (hidM mo a) mo = ml) := Lib.hid (by rw [hM, hmle])
      clear hM hmle HMu0 hml
      generalize clrL 1 mo = cl at *
      go_enter Tryz.func46, Tryz.ntmps46
      go_wp2_with (first
        | (go_at_call 66; (with_reducible refine (HLd.out _ b1).mono ?_); rintro e w1 ⟨rfl, h1⟩; have e1 := b1.trans (h1.mono b1.size); have e1a := e1.alloc e1.size (.cells #[.slice none 0 0, .slice none 0 0, .int .i64 0] 116); have kac := ((k1.below h1 k1.lt).alloc (.cells #[.slice none 0 0, .slice none 0 0, .int .i64 0] 116)).cell)
        | (go_at_call 74; (with_reducible refine (HMo.out _ e1a).mono ?_); rintro e w3 ⟨A2, c2, rfl, hown, h3⟩; have e3 := (e1a).trans (h3.mono (e1a).size); have HFA := Lib.hid (Flat.of_own (c := c2) frcC_len (by decide) hown))
        | (go_at_call 68; (with_reducible refine (HCl.out A2 c2 w3 HFA.out).mono ?_); rintro e w4 ⟨rfl, h4⟩; have e4 := e3.trans (h4.mono e3.size); have HFB := Lib.hid (HFA.out.later h4); obtain ⟨b, off, rfl, hbb, q0, q1⟩ := frc_at HFB.out HA.out; rw [hna] at q0)
        | (go_at_call 69; (with_reducible refine (HMu.out _ c2 w4 HFB.out).mono ?_); rintro e w5 ⟨A', c', rfl, h5, h6⟩; have e5 := e4.trans (h6.mono e4.size); have H5 := Lib.hid (h5.imp (Q := fun b => w.heap.size ≤ b) (fun b _ h => Nat.le_trans e4.size h))))
      exact bodyPost_ret (v := .tuple #[.slice A' ml.length c', .bool true]) (by simp [results, Tryz.results46, go_sem]) rfl ⟨A', c', by rw [HM.out], by rw [HM.out]; exact H5.out, e5⟩
  | some i =>
    have hi : i < L.length := by
      unfold fndL at hf
      rw [List.find?_range_eq_some] at hf
      simpa using hf.2.1
    have hL : L[i]? = some L[i] := List.getElem?_eq_getElem hi
    have HXi := Lib.hid (fun W (hb : Below w.heap.size w W) => HX.out W hb _ (List.getElem_mem hi))
    have hai := HAt.out _ (List.getElem_mem hi)
    have hgd : (L.map LedD.v).getD i ⟨⟨[], []⟩, 0⟩ = L[i].v := by rw [getD_lt _ _ (by simpa using hi), List.getElem_map]
    rw [hf] at HLd
    have hE : hidF (L.map LedD.v) a = fndF L[i].v.e.fs (L[i].v.at_ + 1) := by
      unfold hidF
      rw [hf]
      simp only [hgd]
    unfold hideB at hb
    rw [hE] at hb ⊢
    clear hE hgd hf HX HAt
    generalize hxx : L[i] = x at *
    have HD := Lib.hid (fun W (hb : Below w.heap.size w W) => depends_any x.v x.F x.P x.f x.p W (HXi.out W hb) hai)
    clear hxx
    cases hq : fndF x.v.e.fs (x.v.at_ + 1) with
    | none =>
      rw [hq] at HD
      simp only [Option.getD_none, Option.isSome_none] at HD
      simp only [Option.map_none]
      unfold HidePost
      go_enter Tryz.func46, Tryz.ntmps46
      go_wp2_with (first
        | (go_at_call 66; (with_reducible refine (HLd.out _ b1).mono ?_); rintro e w1 ⟨⟨x', hx', rfl⟩, h1⟩; have e1 := b1.trans (h1.mono b1.size); rw [hL] at hx'; cases hx')
        | (go_at_call 67; (with_reducible refine (HD.out _ ?_).mono ?_); exact e1.alloc e1.size _; rintro e w2 ⟨rfl, h2⟩))
      exact bodyPost_ret (v := .tuple #[.slice none 0 0, .bool false]) (by simp [results, Tryz.results46, go_sem]) rfl ⟨rfl, (e1.alloc e1.size _).trans (h2.mono (e1.alloc e1.size _).size)⟩
    | some k =>
      rw [hq] at HD hb
      simp only [Option.getD_some, Option.isSome_some] at HD
      simp only [Option.map_some, Bool.and_eq_true] at hb ⊢
      clear hq
      have hm2 : moreB (L.map LedD.v) n k = true := hb.1.1
      have HMo := Lib.hid (fun W (hb2 : Below w.heap.size w W) => more_any I n c m L A d k W (HLA.out W hb2) hl hm2)
      have hln : (moreL (L.map LedD.v) n k).length = n := by unfold moreL; rw [mor_len]; simp [digL]
      have hn16 : n ≤ 16 := by unfold moreB at hm2; simp only [Bool.and_eq_true, decide_eq_true_eq] at hm2; exact hm2.1.1
      have HA : Hid (a < (moreL (L.map LedD.v) n k).length) := Lib.hid (by rw [hln]; exact ha)
      have HCl := Lib.hid (fun F f W (h : FrcAt W W.heap.size F (moreL (L.map LedD.v) n k)) => clearing_any (moreL (L.map LedD.v) n k) F f W h (by omega) hb.1.2)
      have HMu0 := Lib.hid (fun F f W (h : FrcAt W W.heap.size F (moreL (L.map LedD.v) n k)) => multiplied_any (moreL (L.map LedD.v) n k) F f (hidM (moreL (L.map LedD.v) n k) a) W h (by omega) hb.2)
      have hml := hb.2
      have haI : (a : Int) < ((moreL (L.map LedD.v) n k).length : Int) := by omega
      clear hln
      unfold hidV
      unfold HidePost
      generalize moreL (L.map LedD.v) n k = mo at *
      have hna0 : mo.getD a default = mo[a]'(HA.out) := getD_lt _ _ HA.out
      have hcb : -1000000000 ≤ clrL 1 mo ∧ clrL 1 mo ≤ 1000000000 := by
        unfold mltB hidM at hml
        rw [Bool.and_eq_true, inN_iff] at hml
        have := hml.1
        split at this <;> omega
      generalize hna : (mo[a]'(HA.out)).n = na at *
      by_cases hneg : na < 0
      · have hM : hidM mo a = -clrL 1 mo := by unfold hidM; rw [hna0, hna, if_pos hneg]
        rw [hM] at HMu0
        have hwn : IntKind.i64.wrap (-clrL 1 mo) = -clrL 1 mo := IntWalk.i64_in _ (by omega)
        have HMu := HMu0
        generalize hmle : mltL (-clrL 1 mo) mo = ml at *
        have HM : Hid (mltL (hidM mo a) mo = ml) := Lib.hid (by rw [hM, hmle])
        clear hM hmle HMu0 hml
        generalize clrL 1 mo = cl at *
        go_enter Tryz.func46, Tryz.ntmps46
        go_wp2_with (first
          | (go_at_call 66; (with_reducible refine (HLd.out _ b1).mono ?_); rintro e w1 ⟨⟨x', hx', rfl⟩, h1⟩; have e1 := b1.trans (h1.mono b1.size); rw [hL] at hx'; cases hx')
          | (go_at_call 67; (with_reducible refine (HD.out _ ?_).mono ?_); exact e1.alloc e1.size _; rintro e w2 ⟨rfl, h2⟩; have e2 := (e1.alloc e1.size (.cells #[.slice x.F x.v.e.fs.length x.f, .slice x.P x.v.e.ps.length x.p, .int .i64 x.v.at_] 116)).trans (h2.mono (e1.alloc e1.size (.cells #[.slice x.F x.v.e.fs.length x.f, .slice x.P x.v.e.ps.length x.p, .int .i64 x.v.at_] 116)).size); have ka := (k1.below h1 k1.lt).alloc (.cells #[.slice x.F x.v.e.fs.length x.f, .slice x.P x.v.e.ps.length x.p, .int .i64 x.v.at_] 116); have kac := (ka.below h2 ka.lt).cell)
          | (go_at_call 74; (with_reducible refine (HMo.out _ e2).mono ?_); rintro e w3 ⟨A2, c2, rfl, hown, h3⟩; have e3 := (e2).trans (h3.mono (e2).size); have HFA := Lib.hid (Flat.of_own (c := c2) frcC_len (by decide) hown))
          | (go_at_call 68; (with_reducible refine (HCl.out A2 c2 w3 HFA.out).mono ?_); rintro e w4 ⟨rfl, h4⟩; have e4 := e3.trans (h4.mono e3.size); have HFB := Lib.hid (HFA.out.later h4); obtain ⟨b, off, rfl, hbb, q0, q1⟩ := frc_at HFB.out HA.out; rw [hna] at q0)
          | (go_at_call 69; (with_reducible refine (HMu.out _ c2 w4 HFB.out).mono ?_); rintro e w5 ⟨A', c', rfl, h5, h6⟩; have e5 := e4.trans (h6.mono e4.size); have H5 := Lib.hid (h5.imp (Q := fun b => w.heap.size ≤ b) (fun b _ h => Nat.le_trans e4.size h))))
        exact bodyPost_ret (v := .tuple #[.slice A' ml.length c', .bool true]) (by simp [results, Tryz.results46, go_sem]) rfl ⟨A', c', by rw [HM.out], by rw [HM.out]; exact H5.out, e5⟩
      · have hM : hidM mo a = clrL 1 mo := by unfold hidM; rw [hna0, hna, if_neg hneg]
        rw [hM] at HMu0
        have HMu := HMu0
        generalize hmle : mltL (clrL 1 mo) mo = ml at *
        have HM : Hid (mltL (hidM mo a) mo = ml) := Lib.hid (by rw [hM, hmle])
        clear hM hmle HMu0 hml
        generalize clrL 1 mo = cl at *
        go_enter Tryz.func46, Tryz.ntmps46
        go_wp2_with (first
          | (go_at_call 66; (with_reducible refine (HLd.out _ b1).mono ?_); rintro e w1 ⟨⟨x', hx', rfl⟩, h1⟩; have e1 := b1.trans (h1.mono b1.size); rw [hL] at hx'; cases hx')
          | (go_at_call 67; (with_reducible refine (HD.out _ ?_).mono ?_); exact e1.alloc e1.size _; rintro e w2 ⟨rfl, h2⟩; have e2 := (e1.alloc e1.size (.cells #[.slice x.F x.v.e.fs.length x.f, .slice x.P x.v.e.ps.length x.p, .int .i64 x.v.at_] 116)).trans (h2.mono (e1.alloc e1.size (.cells #[.slice x.F x.v.e.fs.length x.f, .slice x.P x.v.e.ps.length x.p, .int .i64 x.v.at_] 116)).size); have ka := (k1.below h1 k1.lt).alloc (.cells #[.slice x.F x.v.e.fs.length x.f, .slice x.P x.v.e.ps.length x.p, .int .i64 x.v.at_] 116); have kac := (ka.below h2 ka.lt).cell)
          | (go_at_call 74; (with_reducible refine (HMo.out _ e2).mono ?_); rintro e w3 ⟨A2, c2, rfl, hown, h3⟩; have e3 := (e2).trans (h3.mono (e2).size); have HFA := Lib.hid (Flat.of_own (c := c2) frcC_len (by decide) hown))
          | (go_at_call 68; (with_reducible refine (HCl.out A2 c2 w3 HFA.out).mono ?_); rintro e w4 ⟨rfl, h4⟩; have e4 := e3.trans (h4.mono e3.size); have HFB := Lib.hid (HFA.out.later h4); obtain ⟨b, off, rfl, hbb, q0, q1⟩ := frc_at HFB.out HA.out; rw [hna] at q0)
          | (go_at_call 69; (with_reducible refine (HMu.out _ c2 w4 HFB.out).mono ?_); rintro e w5 ⟨A', c', rfl, h5, h6⟩; have e5 := e4.trans (h6.mono e4.size); have H5 := Lib.hid (h5.imp (Q := fun b => w.heap.size ≤ b) (fun b _ h => Nat.le_trans e4.size h))))
        exact bodyPost_ret (v := .tuple #[.slice A' ml.length c', .bool true]) (by simp [results, Tryz.results46, go_sem]) rfl ⟨A', c', by rw [HM.out], by rw [HM.out]; exact H5.out, e5⟩
end Go.Proofs.YtbkekdbabkncfaaGreat
