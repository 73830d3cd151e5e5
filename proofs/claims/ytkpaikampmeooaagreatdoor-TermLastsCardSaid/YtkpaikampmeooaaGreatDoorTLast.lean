/- Until when a fact is kept, by the reference. -/
import Derived.Test.YtkpaikampmeooaaGreatDoorTHom
import Derived.Test.YtkpaikampmeooaaGreatDoorTCardP2

namespace Go.Proofs.YtkpaikampmeooaaGreatDoor
open Go.RowKit Go.Maps

theorem landV_found {l : List HomeT} {acc : Int} {k : Nat} (hk : k < l.length) (h : l[k].acc = acc) (hn : ∀ j, (hj : j < k) → (l[j]'(by omega)).acc ≠ acc) : landV l acc = some l[k].land := by
  have e : (l.find? fun h => decide (h.acc = acc)) = some l[k] := by
    rw [List.find?_eq_some_iff_getElem]
    exact ⟨by simpa using h, k, hk, rfl, fun j hj => by simpa using hn j hj⟩
  unfold landV; rw [e]; rfl
theorem landV_none {l : List HomeT} {acc : Int} (h : ∀ x ∈ l, x.acc ≠ acc) : landV l acc = none := by
  have e : (l.find? fun h => decide (h.acc = acc)) = none := by
    rw [List.find?_eq_none]
    intro x hx; simpa using h x hx
  unfold landV; rw [e]; rfl

set_option maxRecDepth 100000 in
set_option maxHeartbeats 1000000 in
theorem land4_any (l : List HomeT) (A : Option Addr) (c : Nat) (acc : Int) (w : World) (h : HomesAt w w.heap.size A l) (hl : l.length ≤ maxLen) :
    Calls Tryz.prog 42 #[.slice A l.length c, .int .i64 acc] w fun e w' => e = .returned (.int .i64 (landR l acc)) ∧ w = w' := by
  unfold maxLen at hl
  go_enter Tryz.func42, Tryz.ntmps42
  go_wp2_with fail
  go_loopw [5] (fun ii wr => ∃ i : Nat, i ≤ l.length ∧ ii = .int .i64 i ∧ Hid (∀ j, (hj : j < i) → (hl : j < l.length) → l[j].acc ≠ acc) ∧ w = wr) (fun ii _ => l.length - (vInt ii).toNat)
  case atStart => exact ⟨0, Nat.zero_le _, rfl, Lib.hid fun j hj => by omega, rfl⟩
  case round =>
    obtain ⟨i, hi, rfl, hR, rfl⟩ := hrel
    by_cases hlt : i < l.length
    · have hil : (i : Int) < (l.length : Int) := by omega
      obtain ⟨b, off, rfl, hb, C⟩ := homes_at h hlt
      have c0 := C.c0
      have c1 := C.c1
      by_cases he : l[i].acc = acc
      · have e1 : (l[i].acc == acc) = true := by simp [he]
        have hv : Hid (landR l acc = l[i].land) := Lib.hid (by unfold landR; rw [landV_found hlt he (fun j hj => hR.out j hj (by omega))]; rfl)
        clear he C
        go_wp2_with fail
        go_ret
        exact ⟨by rw [hv.out]; rfl, rfl⟩
      · have e1 : (l[i].acc == acc) = false := by simpa using he
        have HR : Hid (∀ j, (hj : j < i + 1) → (hl : j < l.length) → l[j].acc ≠ acc) := Lib.hid (fun j hj hl => by
          by_cases hji : j = i
          · subst hji; exact he
          · exact hR.out j (by omega) hl)
        clear he C
        go_wp2_with fail
        go_roundw
        case rel => exact ⟨i + 1, by omega, by go_num, HR, by first | rfl | trivial⟩
        case measure => simp [vInt]; omega
    · have hil : ¬ (i : Int) < (l.length : Int) := by omega
      have hno : ∀ x ∈ l, x.acc ≠ acc := fun r hr => by
        obtain ⟨j, hj, rfl⟩ := List.getElem_of_mem hr
        exact hR.out j (by omega) hj
      have hv : Hid (landR l acc = -1) := Lib.hid (by unfold landR; rw [landV_none hno]; rfl)
      clear hno
      go_wp2_with fail
      go_ret
      exact ⟨by rw [hv.out]; rfl, rfl⟩

def closeQ (l : List Rep) (acc : Int) (i : Nat) : Int := (l.take i).foldl (closeStep acc) (-1)
theorem closeQ_next {l : List Rep} {acc : Int} {i : Nat} (h : i < l.length) : closeQ l acc (i + 1) = closeStep acc (closeQ l acc i) l[i] := by
  unfold closeQ
  rw [List.take_succ_eq_append_getElem h, List.foldl_append]; rfl
theorem closeQ_end (l : List Rep) (acc : Int) : closeQ l acc l.length = closeR l acc := by
  unfold closeQ closeR; rw [List.take_length]

set_option maxRecDepth 100000 in
set_option maxHeartbeats 4000000 in
theorem closing4_any (l : List Rep) (A : Option Addr) (c : Nat) (acc : Int) (w : World) (h : Reps w w.heap.size A l) (hl : l.length ≤ maxLen) :
    Calls Tryz.prog 43 #[.slice A l.length c, .int .i64 acc] w fun e w' => e = .returned (.int .i64 (closeR l acc)) ∧ w = w' := by
  unfold maxLen at hl
  go_enter Tryz.func43, Tryz.ntmps43
  go_wp2_with fail
  go_loopw [5, 6] (fun bb ii wr => ∃ (i : Nat) (z : Int), i ≤ l.length ∧ bb = .int .i64 z ∧ ii = .int .i64 i ∧ Hid (closeQ l acc i = z) ∧ w = wr) (fun _ ii _ => l.length - (vInt ii).toNat)
  case atStart => exact ⟨0, -1, Nat.zero_le _, rfl, rfl, Lib.hid rfl, rfl⟩
  case round =>
    obtain ⟨i, z, hi, rfl, rfl, hR, rfl⟩ := hrel
    by_cases hlt : i < l.length
    · have hil : (i : Int) < (l.length : Int) := by omega
      obtain ⟨b, off, rfl, hb, C⟩ := h.eight hlt
      have HN : Hid (closeQ l acc (i + 1) = closeStep acc z l[i]) := Lib.hid (by rw [closeQ_next hlt, hR.out])
      generalize l[i] = r at *
      obtain ⟨c0, c1, c2, c3, c4, c5, c6, c7⟩ := C
      by_cases ha : r.acc = acc
      · have e1 : (r.acc == acc) = true := by simp [ha]
        by_cases hk : r.kind = 7
        · have e2 : (r.kind == 7) = true := by simp [hk]
          by_cases hz : z < 0
          · have e3 : decide (z < 0) = true := decide_eq_true hz
            have HJ : Hid (closeQ l acc (i + 1) = r.about) := Lib.hid (by rw [HN.out]; unfold closeStep; rw [if_pos ⟨ha, hk, .inl hz⟩])
            clear ha hk hR HN hz
            go_wp2_with fail
            go_roundw
            case rel => exact ⟨i + 1, r.about, by omega, rfl, by go_num, HJ, by first | rfl | trivial⟩
            case measure => simp [vInt]; omega
          · have e3 : decide (z < 0) = false := decide_eq_false hz
            by_cases hq : r.about < z
            · have e4 : decide (r.about < z) = true := decide_eq_true hq
              have HJ : Hid (closeQ l acc (i + 1) = r.about) := Lib.hid (by rw [HN.out]; unfold closeStep; rw [if_pos ⟨ha, hk, .inr hq⟩])
              clear ha hk hR HN hq
              go_wp2_with fail
              go_roundw
              case rel => exact ⟨i + 1, r.about, by omega, rfl, by go_num, HJ, by first | rfl | trivial⟩
              case measure => simp [vInt]; omega
            · have e4 : decide (r.about < z) = false := decide_eq_false hq
              have HJ : Hid (closeQ l acc (i + 1) = z) := Lib.hid (by rw [HN.out]; unfold closeStep; rw [if_neg (by rintro ⟨_, _, h | h⟩ <;> omega)])
              clear ha hk hR HN hq
              go_wp2_with fail
              go_roundw
              case rel => exact ⟨i + 1, z, by omega, rfl, by go_num, HJ, by first | rfl | trivial⟩
              case measure => simp [vInt]; omega
        · have e2 : (r.kind == 7) = false := by simpa using hk
          have HJ : Hid (closeQ l acc (i + 1) = z) := Lib.hid (by rw [HN.out]; unfold closeStep; rw [if_neg (fun e => hk e.2.1)])
          clear ha hk hR HN
          go_wp2_with fail
          go_roundw
          case rel => exact ⟨i + 1, z, by omega, rfl, by go_num, HJ, by first | rfl | trivial⟩
          case measure => simp [vInt]; omega
      · have e1 : (r.acc == acc) = false := by simpa using ha
        have HJ : Hid (closeQ l acc (i + 1) = z) := Lib.hid (by rw [HN.out]; unfold closeStep; rw [if_neg (fun e => ha e.1)])
        clear ha hR HN
        go_wp2_with fail
        go_roundw
        case rel => exact ⟨i + 1, z, by omega, rfl, by go_num, HJ, by first | rfl | trivial⟩
        case measure => simp [vInt]; omega
    · have hil : ¬ (i : Int) < (l.length : Int) := by omega
      obtain rfl : i = l.length := by omega
      have hv : Hid (closeR l acc = z) := Lib.hid (by rw [← closeQ_end, hR.out])
      go_wp2_with fail
      go_ret
      exact ⟨by rw [hv.out]; rfl, rfl⟩

theorem lawOf_found {l : List LawT} {land kind : Int} {k : Nat} (hk : k < l.length) (h : l[k].land = land ∧ l[k].kind = kind) (hn : ∀ j, (hj : j < k) → ¬ ((l[j]'(by omega)).land = land ∧ (l[j]'(by omega)).kind = kind)) : lawOf l land kind = some l[k] := by
  unfold lawOf
  rw [List.find?_eq_some_iff_getElem]
  exact ⟨by simpa using h, k, hk, rfl, fun j hj => by simp only [Bool.not_eq_true', decide_eq_false_iff_not]; exact hn j hj⟩
theorem lawOf_none {l : List LawT} {land kind : Int} (h : ∀ x ∈ l, ¬ (x.land = land ∧ x.kind = kind)) : lawOf l land kind = none := by
  unfold lawOf
  rw [List.find?_eq_none]
  intro x hx; simpa using h x hx
theorem lastV_found {laws : List LawT} {homes : List HomeT} {facts : List Rep} {r : Rep} {x : LawT} (h : lawOf laws (landR homes r.acc) r.kind = some x) : lastV laws homes facts r = some (lastBy x facts r) := by
  unfold lastV; rw [h]; rfl
theorem lastV_none {laws : List LawT} {homes : List HomeT} (facts : List Rep) {r : Rep} (h : lawOf laws (landR homes r.acc) r.kind = none) : lastV laws homes facts r = none := by
  unfold lastV; rw [h]; rfl
theorem closeR_bounds {facts : List Rep} (acc : Int) (hf : ∀ r ∈ facts, 0 ≤ r.about ∧ r.about ≤ 100000) : -1 ≤ closeR facts acc ∧ closeR facts acc ≤ 100000 := by
  have h : ∀ (facts : List Rep) (b : Int), (∀ r ∈ facts, 0 ≤ r.about ∧ r.about ≤ 100000) → -1 ≤ b ∧ b ≤ 100000 → -1 ≤ facts.foldl (closeStep acc) b ∧ facts.foldl (closeStep acc) b ≤ 100000 := by
    intro facts
    induction facts with
    | nil => intro b _ h; exact h
    | cons r t ih =>
      intro b hf hb
      have h1 := hf r List.mem_cons_self
      refine ih _ (fun x hx => hf x (List.mem_cons_of_mem _ hx)) ?_
      unfold closeStep
      split <;> omega
  exact h facts (-1) hf (by omega)

set_option maxRecDepth 100000 in
set_option maxHeartbeats 8000000 in
theorem last4_any (l : List LawT) (A : Option Addr) (c : Nat) (S : Value) (homes : List HomeT) (H : Option Addr) (ch : Nat) (facts : List Rep) (F : Option Addr) (cf : Nat) (r : Rep) (w : World) (h : Laws w w.heap.size A l) (hh : HomesAt w w.heap.size H homes) (hf : Reps w w.heap.size F facts)
    (hl : l.length ≤ maxLen) (hhl : homes.length ≤ maxLen) (hfl : facts.length ≤ maxLen) (hk : ∀ x ∈ l, 0 ≤ x.keep ∧ x.keep ≤ 100000) (hr : (0 ≤ r.about ∧ r.about ≤ 100000) ∧ 0 ≤ r.made ∧ r.made ≤ 100000) (hfa : ∀ r ∈ facts, 0 ≤ r.about ∧ r.about ≤ 100000) :
    Calls Tryz.prog 23 #[.agg #[.slice A l.length c, S], .slice H homes.length ch, .slice F facts.length cf, .agg #[.int .i64 r.id, .int .i64 r.src, .int .i64 r.acc, .int .i64 r.made, .int .i64 r.about, .int .u8 r.kind, .int .i64 r.cents, .int .i64 r.of_]] w fun e w' => e = .returned (.tuple #[.int .i64 ((lastV l homes facts r).getD 0), .bool (lastV l homes facts r).isSome]) ∧ Below w.heap.size w w' := by
  unfold maxLen at hl
  obtain ⟨⟨hr1, hr2⟩, hr3, hr4⟩ := hr
  have hcb := closeR_bounds r.acc hfa
  have HLa := Lib.hid (fun W (hW : Below w.heap.size w W) => land4_any homes H ch r.acc W (hh.later hW) hhl)
  have HCl := Lib.hid (fun W (hW : Below w.heap.size w W) => closing4_any facts F cf r.acc W (hf.later hW) hfl)
  have HK := Lib.hid hk
  have b1 := ((Below.refl w.heap.size w).alloc (Nat.le_refl _) (.cells #[.slice A l.length c, S] 25)).alloc (by simp) (.cells #[.int .i64 r.id, .int .i64 r.src, .int .i64 r.acc, .int .i64 r.made, .int .i64 r.about, .int .u8 r.kind, .int .i64 r.cents, .int .i64 r.of_] 56)
  have k1 := (Blk.new w #[.slice A l.length c, S] 25).alloc (.cells #[.int .i64 r.id, .int .i64 r.src, .int .i64 r.acc, .int .i64 r.made, .int .i64 r.about, .int .u8 r.kind, .int .i64 r.cents, .int .i64 r.of_] 56)
  have k2 := Blk.new (w.alloc (.cells #[.slice A l.length c, S] 25)) #[.int .i64 r.id, .int .i64 r.src, .int .i64 r.acc, .int .i64 r.made, .int .i64 r.about, .int .u8 r.kind, .int .i64 r.cents, .int .i64 r.of_] 56
  have hnoneV := fun e => lastV_none (laws := l) (homes := homes) facts (r := r) e
  have hsomeV := fun x (e : lawOf l (landR homes r.acc) r.kind = some x) => lastV_found (laws := l) (homes := homes) (facts := facts) (r := r) e
  have HNo := Lib.hid hnoneV
  have HSo := Lib.hid hsomeV
  have HX : Hid (∀ x : LawT, lastBy x facts r = if x.base = 1 then r.about + x.keep else if x.base = 2 then r.made + x.keep else if closeR facts r.acc < 0 then 300000 else closeR facts r.acc + x.keep) := Lib.hid (fun x => rfl)
  simp only [World.size_alloc] at k2
  clear hk hh hf hfa hhl hfl hnoneV hsomeV
  generalize lastV l homes facts r = V at *
  generalize closeR facts r.acc = z at *
  generalize landR homes r.acc = home at *
  go_enter Tryz.func23, Tryz.ntmps23
  go_upto_region 1 with fail
  generalize hW1 : (w.alloc (.cells #[.slice A l.length c, S] 25)).alloc (.cells #[.int .i64 r.id, .int .i64 r.src, .int .i64 r.acc, .int .i64 r.made, .int .i64 r.about, .int .u8 r.kind, .int .i64 r.cents, .int .i64 r.of_] 56) = W1 at *
  clear hW1
  have g1 := k1.lt
  have g2 := k2.lt
  have k1c := k1.cell
  have k2c := k2.cell
  go_upto_region 2 with (go_at_call 42; (with_reducible refine (HLa.out _ b1).mono ?_); rintro e w2 ⟨rfl, rfl⟩)
  clear k1c k2c HLa
  go_wp2_with fail
  go_loopw [11] (fun ii wr => ∃ i : Nat, i ≤ l.length ∧ ii = .int .i64 i ∧ Hid ((∀ j, (hj : j < i) → (hl : j < l.length) → ¬ (l[j].land = home ∧ l[j].kind = r.kind)) ∧ Below W1.heap.size W1 wr)) (fun ii _ => l.length - (vInt ii).toNat)
  case atStart => exact ⟨0, Nat.zero_le _, rfl, Lib.hid ⟨fun j hj => by omega, Below.refl _ _⟩⟩
  case round =>
    obtain ⟨i, hi, rfl, hR⟩ := hrel
    obtain ⟨hV, hB⟩ := hR.out
    have hb1 : Below w.heap.size w wr := b1.trans (hB.mono b1.size)
    have h9 := h.later hb1
    have k1c := (k1.below hB g1).cell
    have k2c := (k2.below hB g2).cell
    have k1l := (k1.below hB g1).lt
    have k2l := (k2.below hB g2).lt
    by_cases hlt : i < l.length
    · have hil : (i : Int) < (l.length : Int) := by omega
      obtain ⟨b, off, rfl, hb, C⟩ := laws_at h9 hlt
      obtain ⟨c0, c1, c2, c3⟩ := C
      obtain ⟨hk1, hk2⟩ := HK.out l[i] (List.getElem_mem hlt)
      have bx := hB.alloc hB.size (.cells #[.int .i64 l[i].land, .int .u8 l[i].kind, .int .u8 l[i].base, .int .i64 l[i].keep] 79)
      have kxc := (Blk.new wr #[.int .i64 l[i].land, .int .u8 l[i].kind, .int .u8 l[i].base, .int .i64 l[i].keep] 79).cell
      have hfin : Below w.heap.size w (wr.alloc (.cells #[.int .i64 l[i].land, .int .u8 l[i].kind, .int .u8 l[i].base, .int .i64 l[i].keep] 79)) := b1.trans (bx.mono b1.size)
      by_cases he : l[i].land = home
      · have e1 : (l[i].land != home) = false := by simp [he]
        by_cases hkk : l[i].kind = r.kind
        · have e2 : (l[i].kind != r.kind) = false := by simp [hkk]
          have HS : Hid (V = some (lastBy l[i] facts r)) := Lib.hid (HSo.out _ (lawOf_found hlt ⟨he, hkk⟩ (fun j hj => hV j hj (by omega))))
          have HX2 := Lib.hid (HX.out l[i])
          clear he hkk hR hV HSo HNo HX h9 k1 k2
          by_cases hb1' : l[i].base = 1
          · as_aux_lemma =>
            have e3 : (l[i].base == 1) = true := by simp [hb1']
            have hs : IntKind.i64.wrap (r.about + l[i].keep) = r.about + l[i].keep := IntWalk.i64_in _ (by omega)
            have HE : Hid (V = some (r.about + l[i].keep)) := Lib.hid (by rw [HS.out, HX2.out, if_pos hb1'])
            clear HS HX2 hb1' HCl
            go_wp2_with fail
            go_ret2
            exact ⟨by rw [HE.out]; rfl, hfin⟩
          · have e3 : (l[i].base == 1) = false := by simpa using hb1'
            by_cases hb2' : l[i].base = 2
            · as_aux_lemma =>
              have e4 : (l[i].base == 2) = true := by simp [hb2']
              have hs : IntKind.i64.wrap (r.made + l[i].keep) = r.made + l[i].keep := IntWalk.i64_in _ (by omega)
              have HE : Hid (V = some (r.made + l[i].keep)) := Lib.hid (by rw [HS.out, HX2.out, if_neg hb1', if_pos hb2'])
              clear HS HX2 hb1' hb2' HCl
              go_wp2_with fail
              go_ret2
              exact ⟨by rw [HE.out]; rfl, hfin⟩
            · have e4 : (l[i].base == 2) = false := by simpa using hb2'
              by_cases hz : z < 0
              · as_aux_lemma =>
                have e5 : decide (z < 0) = true := decide_eq_true hz
                have HE : Hid (V = some 300000) := Lib.hid (by rw [HS.out, HX2.out, if_neg hb1', if_neg hb2', if_pos hz])
                clear HS HX2 hb1' hb2' hz
                go_wp2_with (go_at_call 43; (with_reducible refine (HCl.out _ hfin).mono ?_); rintro e w3 ⟨rfl, rfl⟩)
                go_ret2
                exact ⟨by rw [HE.out]; rfl, hfin⟩
              · as_aux_lemma =>
                have e5 : decide (z < 0) = false := decide_eq_false hz
                have hs : IntKind.i64.wrap (z + l[i].keep) = z + l[i].keep := IntWalk.i64_in _ (by omega)
                have HE : Hid (V = some (z + l[i].keep)) := Lib.hid (by rw [HS.out, HX2.out, if_neg hb1', if_neg hb2', if_neg hz])
                clear HS HX2 hb1' hb2' hz
                go_wp2_with (go_at_call 43; (with_reducible refine (HCl.out _ hfin).mono ?_); rintro e w3 ⟨rfl, rfl⟩)
                go_ret2
                exact ⟨by rw [HE.out]; rfl, hfin⟩
        · as_aux_lemma =>
          have e2 : (l[i].kind != r.kind) = true := by simpa using hkk
          have HJ : Hid (∀ j, (hj : j < i + 1) → (hl : j < l.length) → ¬ (l[j].land = home ∧ l[j].kind = r.kind)) := Lib.hid (fun j hj hl => by
            by_cases hji : j = i
            · subst hji; exact fun e => hkk e.2
            · exact hV j (by omega) hl)
          clear he hkk hR hV HSo HNo HX h9 k1 k2 HCl
          go_wp2_with fail
          go_roundw
          case rel => exact ⟨i + 1, by omega, by go_num, Lib.hid ⟨HJ.out, bx⟩⟩
          case measure => simp [vInt]; omega
      · as_aux_lemma =>
        have e1 : (l[i].land != home) = true := by simpa using he
        have HJ : Hid (∀ j, (hj : j < i + 1) → (hl : j < l.length) → ¬ (l[j].land = home ∧ l[j].kind = r.kind)) := Lib.hid (fun j hj hl => by
          by_cases hji : j = i
          · subst hji; exact fun e => he e.1
          · exact hV j (by omega) hl)
        clear he hR hV HSo HNo HX h9 k1 k2 HCl
        go_wp2_with fail
        go_roundw
        case rel => exact ⟨i + 1, by omega, by go_num, Lib.hid ⟨HJ.out, bx⟩⟩
        case measure => simp [vInt]; omega
    · have hil : ¬ (i : Int) < (l.length : Int) := by omega
      have hno : ∀ x ∈ l, ¬ (x.land = home ∧ x.kind = r.kind) := fun x hx => by
        obtain ⟨j, hj, rfl⟩ := List.getElem_of_mem hx
        exact hV j (by omega) hj
      have HE : Hid (V = none) := Lib.hid (HNo.out (lawOf_none hno))
      clear hno hV hR
      go_wp2_with fail
      go_ret2
      exact ⟨by rw [HE.out]; rfl, hb1⟩

set_option maxRecDepth 100000 in
set_option maxHeartbeats 4000000 in
theorem shown4_any (l : List LawT) (A : Option Addr) (c : Nat) (S : Value) (homes : List HomeT) (H : Option Addr) (ch : Nat) (facts : List Rep) (F : Option Addr) (cf : Nat) (r : Rep) (day : Int) (w : World) (h : Laws w w.heap.size A l) (hh : HomesAt w w.heap.size H homes) (hf : Reps w w.heap.size F facts)
    (hl : l.length ≤ maxLen) (hhl : homes.length ≤ maxLen) (hfl : facts.length ≤ maxLen) (hk : ∀ x ∈ l, 0 ≤ x.keep ∧ x.keep ≤ 100000) (hr : (0 ≤ r.about ∧ r.about ≤ 100000) ∧ 0 ≤ r.made ∧ r.made ≤ 100000) (hfa : ∀ r ∈ facts, 0 ≤ r.about ∧ r.about ≤ 100000) :
    Calls Tryz.prog 27 #[.agg #[.slice A l.length c, S], .slice H homes.length ch, .slice F facts.length cf, .agg #[.int .i64 r.id, .int .i64 r.src, .int .i64 r.acc, .int .i64 r.made, .int .i64 r.about, .int .u8 r.kind, .int .i64 r.cents, .int .i64 r.of_], .int .i64 day] w fun e w' => e = .returned (.bool (shownB l homes facts r day)) ∧ Below w.heap.size w w' := by
  have b1 := ((Below.refl w.heap.size w).alloc (Nat.le_refl _) (.cells #[.slice A l.length c, S] 25)).alloc (by simp) (.cells #[.int .i64 r.id, .int .i64 r.src, .int .i64 r.acc, .int .i64 r.made, .int .i64 r.about, .int .u8 r.kind, .int .i64 r.cents, .int .i64 r.of_] 56)
  have HL := Lib.hid (fun W (hW : Below w.heap.size w W) => last4_any l A c S homes H ch facts F cf r W (h.later hW) (hh.later hW) (hf.later hW) hl hhl hfl hk hr hfa)
  have HV : Hid (shownB l homes facts r day = match lastV l homes facts r with | none => false | some n => decide (r.about ≤ day) && decide (day ≤ n)) := Lib.hid rfl
  have k2 := Blk.new (w.alloc (.cells #[.slice A l.length c, S] 25)) #[.int .i64 r.id, .int .i64 r.src, .int .i64 r.acc, .int .i64 r.made, .int .i64 r.about, .int .u8 r.kind, .int .i64 r.cents, .int .i64 r.of_] 56
  simp only [World.size_alloc] at k2
  clear h hh hf hk hr hfa
  generalize shownB l homes facts r day = s at *
  cases hV : lastV l homes facts r with
  | none =>
    rw [hV] at HL HV
    clear hV
    go_enter Tryz.func27, Tryz.ntmps27
    go_wp2_with (go_at_call 23; (with_reducible refine (HL.out _ b1).mono ?_); rintro e w2 ⟨rfl, h2⟩)
    go_ret
    exact ⟨by rw [HV.out]; rfl, b1.trans (h2.mono b1.size)⟩
  | some n =>
    rw [hV] at HL HV
    clear hV
    go_enter Tryz.func27, Tryz.ntmps27
    go_upto_region 2 with (go_at_call 23; (with_reducible refine (HL.out _ b1).mono ?_); rintro e w2 ⟨rfl, h2⟩)
    have k3c := (k2.below h2 k2.lt).cell
    by_cases q1 : r.about ≤ day
    · have e1 : decide (r.about ≤ day) = true := decide_eq_true q1
      rw [e1, Bool.true_and] at HV
      by_cases q2 : day ≤ n
      · have e2 : decide (day ≤ n) = true := decide_eq_true q2
        rw [e2] at HV
        go_wp2_with fail
        go_ret
        exact ⟨by rw [HV.out]; rfl, b1.trans (h2.mono b1.size)⟩
      · have e2 : decide (day ≤ n) = false := decide_eq_false q2
        rw [e2] at HV
        go_wp2_with fail
        go_ret
        exact ⟨by rw [HV.out]; rfl, b1.trans (h2.mono b1.size)⟩
    · have e1 : decide (r.about ≤ day) = false := decide_eq_false q1
      rw [e1, Bool.false_and] at HV
      go_wp2_with fail
      go_ret
      exact ⟨by rw [HV.out]; rfl, b1.trans (h2.mono b1.size)⟩
end Go.Proofs.YtkpaikampmeooaaGreatDoor
