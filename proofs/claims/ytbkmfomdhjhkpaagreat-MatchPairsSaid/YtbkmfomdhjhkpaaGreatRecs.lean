/- A list of records in memory: whether it is valid, by the program. -/
import Derived.Test.YtbkmfomdhjhkpaaGreatPerson
import Derived.Test.YtbkmfomdhjhkpaaGreatChecks
namespace Go.Proofs.YtbkmfomdhjhkpaaGreat
open Go.RowKit Go.Maps

/-- A record, with where its slices lie. -/
structure RD where
  r : Rec
  A : Option Addr
  c : Nat
  D : Option Addr
  d : Nat
instance : Inhabited RD := ⟨⟨⟨0, [], 0, 0, 0, ByteArray.empty, false, []⟩, none, 0, none, 0⟩⟩

/-- The slice of records at A holds l, below block B. -/
def Recs (w : World) (B : Nat) (A : Option Addr) (l : List RD) : Prop :=
  ∀ k, (h : k < l.length) → ∃ b off, A = some ⟨b, off, none⟩ ∧ b < B ∧ (∀ i, i < 8 → w.cell? ⟨b, off + k * 8 + i, none⟩ = (#[.int .i64 l[k].r.id, .slice l[k].A l[k].r.names.length l[k].c, .int .u8 l[k].r.suf, .int .i64 l[k].r.lo, .int .i64 l[k].r.hi, .string l[k].r.num, .bool l[k].r.twin, .slice l[k].D l[k].r.stays.length l[k].d] : Array Value)[i]?) ∧ RecAt w B l[k].A l[k].D l[k].r ∧ l[k].r.names.length ≤ l[k].c
theorem Recs.below {w w' : World} {B : Nat} {A : Option Addr} {l : List RD} (h : Recs w B A l) (hb : Below B w w') : Recs w' B A l := fun k hk => by
  obtain ⟨b, off, e, h1, h2, h3, h4⟩ := h k hk
  exact ⟨b, off, e, h1, fun i hi => (hb.cell (p := ⟨b, off + k * 8 + i, none⟩) h1).trans (h2 i hi), h3.below hb, h4⟩
theorem Recs.more {w : World} {B B' : Nat} {A : Option Addr} {l : List RD} (h : Recs w B A l) (hB : B ≤ B') : Recs w B' A l := fun k hk => by
  obtain ⟨b, off, e, h1, h2, h3, h4⟩ := h k hk
  exact ⟨b, off, e, by omega, h2, h3.more hB, h4⟩
theorem Recs.later {w0 W : World} {A : Option Addr} {l : List RD} (h : Recs w0 w0.heap.size A l) (hb : Below w0.heap.size w0 W) : Recs W W.heap.size A l := (h.below hb).more hb.size
theorem Recs.take {w : World} {B : Nat} {A : Option Addr} {l : List RD} (h : Recs w B A l) (n : Nat) : Recs w B A (l.take n) := fun k hk => by
  have hk' : k < l.length := by simp at hk; omega
  have := h k hk'
  simpa using this

/-- Eight cells of a record, one after the other. -/
structure Cells8 (w : World) (b o : Nat) (x : RD) : Prop where
  c0 : w.cell? ⟨b, o, none⟩ = some (.int .i64 x.r.id)
  c1 : w.cell? ⟨b, o + 1, none⟩ = some (.slice x.A x.r.names.length x.c)
  c2 : w.cell? ⟨b, o + 2, none⟩ = some (.int .u8 x.r.suf)
  c3 : w.cell? ⟨b, o + 3, none⟩ = some (.int .i64 x.r.lo)
  c4 : w.cell? ⟨b, o + 4, none⟩ = some (.int .i64 x.r.hi)
  c5 : w.cell? ⟨b, o + 5, none⟩ = some (.string x.r.num)
  c6 : w.cell? ⟨b, o + 6, none⟩ = some (.bool x.r.twin)
  c7 : w.cell? ⟨b, o + 7, none⟩ = some (.slice x.D x.r.stays.length x.d)
theorem Recs.eight {w : World} {B : Nat} {A : Option Addr} {l : List RD} (h : Recs w B A l) {k : Nat} (hk : k < l.length) : ∃ b off, A = some ⟨b, off, none⟩ ∧ b < B ∧ Cells8 w b (off + k * 8) l[k] ∧ RecAt w B l[k].A l[k].D l[k].r ∧ l[k].r.names.length ≤ l[k].c := by
  obtain ⟨b, off, e, h1, h2, h3, h4⟩ := h k hk
  exact ⟨b, off, e, h1, ⟨h2 0 (by omega), h2 1 (by omega), h2 2 (by omega), h2 3 (by omega), h2 4 (by omega), h2 5 (by omega), h2 6 (by omega), h2 7 (by omega)⟩, h3, h4⟩

def recsB (l : List RD) : Bool := l.all fun x => recB x.r
def idsOf (l : List RD) : List Int := l.map fun x => x.r.id
def listE (l : List RD) : Int := if 24 < l.length then 4 else if recsB l = true then (if (idsOf l).Nodup then 0 else 12) else 11

open Classical in
/-- Which numbers have come. -/
noncomputable def seenG (l : List Int) : Lit → Option Value := fun x => if ∃ n ∈ l, x = .int .i64 n then some (.bool true) else none
theorem seenG_at (l : List Int) (n : Int) : (seenG l (.int .i64 n)).getD (.bool false) = .bool (decide (n ∈ l)) := by
  unfold seenG
  by_cases h : n ∈ l
  · rw [if_pos ⟨n, h, rfl⟩]; simp [h]
  · rw [if_neg (by rintro ⟨m, hm, e⟩; injection e with _ e; subst e; exact h hm)]; simp [h]
theorem seenG_put (l : List Int) (n : Int) : putFn (seenG l) (.int .i64 n) (.bool true) = seenG (l ++ [n]) := by
  funext x
  unfold putFn seenG
  by_cases h : x = .int .i64 n
  · rw [if_pos h, if_pos ⟨n, by simp, h⟩]
  · rw [if_neg h]
    by_cases h2 : ∃ m ∈ l, x = .int .i64 m
    · rw [if_pos h2, if_pos (by obtain ⟨m, hm, e⟩ := h2; exact ⟨m, by simp [hm], e⟩)]
    · rw [if_neg h2, if_neg (by
        rintro ⟨m, hm, e⟩
        rcases List.mem_append.1 hm with hm | hm
        · exact h2 ⟨m, hm, e⟩
        · simp at hm; subst hm; exact h e)]
theorem boolZero (w : World) : (zeroValue 4).run Tryz.prog w = .ok (.bool false) w := by kernel_rfl
theorem nodup_next {l : List Int} {k : Nat} (hk : k < l.length) (h : (l.take k).Nodup) (hn : l[k] ∉ l.take k) : (l.take (k + 1)).Nodup := by
  rw [List.take_succ_eq_append_getElem hk, List.nodup_append]
  exact ⟨h, by simp, fun a ha b hb e => by simp at hb; subst hb; subst e; exact hn ha⟩
theorem nodup_stop {l : List Int} {k : Nat} (hk : k < l.length) (hn : l[k] ∈ l.take k) : ¬ l.Nodup := fun h => by
  have h2 : (l.take (k + 1)).Nodup := h.sublist (List.take_sublist _ _)
  rw [List.take_succ_eq_append_getElem hk, List.nodup_append] at h2
  exact h2.2.2 _ hn _ (by simp) rfl

set_option maxRecDepth 100000 in
set_option maxHeartbeats 2000000 in
theorem listError_any (l : List RD) (A : Option Addr) (c : Nat) (w : World) (h : Recs w w.heap.size A l) (hl : l.length ≤ maxLen) :
    Calls Tryz.prog 30 #[.slice A l.length c] w fun e w' => e = .returned (.int .i64 (listE l)) ∧ Below w.heap.size w w' := by
  unfold maxLen at hl
  by_cases h24 : 24 < l.length
  · have hE : listE l = 4 := by rw [listE, if_pos h24]
    rw [hE]
    have h1 : (24 : Int) < (l.length : Int) := by omega
    clear hE
    go_enter Tryz.func30, Tryz.ntmps30
    go_wp2
    go_ret
    exact ⟨rfl, Below.refl _ _⟩
  · have h1 : ¬ (24 : Int) < (l.length : Int) := by omega
    have hmm := @run_makeMap Tryz.prog
    have HE : Hid (listE l = if recsB l = true then (if (idsOf l).Nodup then 0 else 12) else 11) := Lib.hid (by rw [listE, if_neg h24])
    go_enter Tryz.func30, Tryz.ntmps30
    go_wp2_with fail
    go_loopw [13] (fun ii wr => ∃ i : Nat, i ≤ l.length ∧ ii = .int .i64 i ∧ Hid ((l.take i).all (fun x => recB x.r) = true) ∧ Below w.heap.size w wr) (fun ii _ => l.length - (intOf ii).toNat)
    case atStart => exact ⟨0, Nat.zero_le _, rfl, Lib.hid (by simp), Below.refl _ _⟩
    case round =>
      obtain ⟨i, hi, rfl, hall, hbel⟩ := hrel
      by_cases hlt : i < l.length
      · have hil : (i : Int) < (l.length : Int) := by omega
        obtain ⟨b, off, rfl, hb, C, hr, _⟩ := (h.later hbel).eight hlt
        have HN := Lib.hid (fun hf => all_next (fun x : RD => recB x.r) l i hlt hall.out hf)
        have HS := Lib.hid (all_stop (fun x : RD => recB x.r) l i hlt)
        generalize l[i] = x at *
        obtain ⟨c0, c1, c2, c3, c4, c5, c6, c7⟩ := C
        have hr1 := hr.later ((Below.refl _ _).alloc (Nat.le_refl _) (.cells #[.int .i64 x.r.id, .slice x.A x.r.names.length x.c, .int .u8 x.r.suf, .int .i64 x.r.lo, .int .i64 x.r.hi, .string x.r.num, .bool x.r.twin, .slice x.D x.r.stays.length x.d] 47))
        have hb1 := hbel.alloc hbel.size (.cells #[.int .i64 x.r.id, .slice x.A x.r.names.length x.c, .int .u8 x.r.suf, .int .i64 x.r.lo, .int .i64 x.r.hi, .string x.r.num, .bool x.r.twin, .slice x.D x.r.stays.length x.d] 47)
        cases hv : recB x.r with
        | true =>
          have HV := Lib.hid (fun W hh => hv ▸ recordValid_any x.A x.D x.c x.d x.r W hh)
          have HN2 := Lib.hid (HN.out hv)
          clear HN HS hv hall
          go_wp2_with (go_at_call 54; with_reducible refine (HV.out _ hr1).mono ?_; rintro e w1 ⟨rfl, e1⟩)
          go_roundw
          case rel => exact ⟨i + 1, by omega, by go_num, HN2, hb1.trans (e1.mono hb1.size)⟩
          case measure => simp [intOf]; omega
        | false =>
          have HV := Lib.hid (fun W hh => hv ▸ recordValid_any x.A x.D x.c x.d x.r W hh)
          have HS2 := Lib.hid (HS.out hv)
          clear HN HS hv hall
          go_wp2_with (go_at_call 54; with_reducible refine (HV.out _ hr1).mono ?_; rintro e w1 ⟨rfl, e1⟩)
          go_ret
          exact ⟨ret_int (by rw [HE.out, recsB, HS2.out]; rfl), hb1.trans (e1.mono hb1.size)⟩
      · have hil : ¬ (i : Int) < (l.length : Int) := by omega
        have hok := all_end (fun x : RD => recB x.r) l i hlt hall.out
        have HE2 : Hid (listE l = if (idsOf l).Nodup then 0 else 12) := Lib.hid (by rw [HE.out, if_pos (show recsB l = true from hok)])
        have Hok := Lib.hid hok
        clear HE hall hok
        obtain ⟨wo, rfl⟩ : ∃ wo : World, wo = wr := ⟨_, rfl⟩
        go_wp2_with fail
        go_loopw [24] (fun ii wr => ∃ i : Nat, i ≤ l.length ∧ ii = .int .i64 i ∧ Hid (MapFn wr Tryz.prog 3 wo.heap.size i (seenG ((idsOf l).take i)) ∧ ((idsOf l).take i).Nodup ∧ Below w.heap.size w wr)) (fun ii _ => l.length - (intOf ii).toNat)
        case atStart => exact ⟨0, Nat.zero_le _, rfl, Lib.hid ⟨(by have := MapFn.made wo Tryz.prog 3; rw [show seenG ((idsOf l).take 0) = fun _ => none by funext x; simp [seenG]]; exact this), by simp, hbel.alloc hbel.size _⟩⟩
        case round =>
          obtain ⟨i, hi, rfl, hR⟩ := hrel
          obtain ⟨hM, hnd, hb2⟩ := hR.out
          clear hR
          have hlen : (idsOf l).length = l.length := by simp [idsOf]
          by_cases hlt : i < l.length
          · have hil : (i : Int) < (l.length : Int) := by omega
            obtain ⟨b, off, rfl, hb, C, hr, _⟩ := (h.later hb2).eight hlt
            have hx : (idsOf l)[i]'(by omega) = l[i].r.id := by simp [idsOf]
            have hrec : recB l[i].r = true := by
              have := Hok.out
              rw [List.all_eq_true] at this
              exact this _ (List.getElem_mem hlt)
            have HN := Lib.hid (nodup_next (l := idsOf l) (k := i) (by omega) hnd)
            have HS := Lib.hid (nodup_stop (l := idsOf l) (k := i) (by omega))
            have HT := Lib.hid (List.take_succ_eq_append_getElem (l := idsOf l) (i := i) (by omega))
            rw [hx] at HN HS HT
            clear hx
            generalize l[i] = x at *
            obtain ⟨c0, c1, c2, c3, c4, c5, c6, c7⟩ := C
            have wfp : (Lit.int .i64 x.r.id).wf = true := WalkArith.wf_i64 (by simp only [recB, Bool.and_eq_true] at hrec; have := hrec.1.1.1.1.1; simp [inB] at this; omega)
            have hM1 := hM.alloc (.cells #[.int .i64 x.r.id, .slice x.A x.r.names.length x.c, .int .u8 x.r.suf, .int .i64 x.r.lo, .int .i64 x.r.hi, .string x.r.num, .bool x.r.twin, .slice x.D x.r.stays.length x.d] 47)
            have look := hM1.look (int_keyed Tryz.underlying3) Tryz.underlying76 (boolZero _) (keyOf_int_mk Tryz.underlying3 wfp)
            rw [seenG_at] at look
            have hb3 := hb2.alloc hb2.size (.cells #[.int .i64 x.r.id, .slice x.A x.r.names.length x.c, .int .u8 x.r.suf, .int .i64 x.r.lo, .int .i64 x.r.hi, .string x.r.num, .bool x.r.twin, .slice x.D x.r.stays.length x.d] 47)
            cases hin : decide (x.r.id ∈ (idsOf l).take i) with
            | true =>
              rw [hin] at look
              have HS2 := Lib.hid (HS.out (of_decide_eq_true hin))
              clear HN HS HT hin hM hM1 hnd hlen
              go_wp2_with fail
              go_ret
              exact ⟨ret_int (by rw [HE2.out, if_neg HS2.out]), hb3⟩
            | false =>
              rw [hin] at look
              obtain ⟨w3, hrun3, hput, hg3⟩ := hM1.put (int_keyed Tryz.underlying3) Tryz.underlying76 (by unfold maxLen; omega) (keyOf_int_mk Tryz.underlying3 wfp) (val := .bool true)
              rw [seenG_put] at hput
              have HN2 := Lib.hid (HN.out (of_decide_eq_false hin))
              have Hput := Lib.hid hput
              have hb4 := hb3.grown hg3 hb3.size (fun k e => by cases e; exact hbel.size)
              clear HN HS hin hM hM1 hnd hput hlen
              go_wp2_with fail
              go_roundw
              case rel => exact ⟨i + 1, by omega, by go_num, Lib.hid ⟨by rw [HT.out]; exact Hput.out, HN2.out, hb4⟩⟩
              case measure => simp [intOf]; omega
          · have hil : ¬ (i : Int) < (l.length : Int) := by omega
            have hall : (idsOf l).take i = idsOf l := List.take_of_length_le (by omega)
            rw [hall] at hnd
            have Hnd := Lib.hid hnd
            clear hnd hall hM hlen
            go_wp2_with fail
            go_ret
            exact ⟨ret_int (by rw [HE2.out, if_pos Hnd.out]), hb2⟩

end Go.Proofs.YtbkmfomdhjhkpaaGreat
