/- For every list of reports, number and day the law on what stands returns true. No condition on them. -/
import Derived.Test.YtliijiflbfgfaaaDoorATop
import Derived.Test.YtliijiflbfgfaaaDoorASame
import Derived.Laws.AppendOwnNone

namespace Go.Proofs.YtliijiflbfgfaaaDoor
open Go.RowKit Go.Maps

section
variable {P : Program} (w : World)
/-- Nothing is appended to a row of the call's own. -/
theorem run_append_nothing (base : Nat) (t ty e : TypeId) (i : TypeInfo) (size : Nat) (ht : P.underlying t = some (.slice e)) (hi : P.info? e = some i)
    (v : Value) (n : Nat) (xs : List Value) (hown : w.ownsRow base e size v n xs) (c : Nat) : (Builtin.append_ #[t, t] ty #[v, .slice none 0 c]).run P w = .ok v w := by
  rcases hown.2 with ⟨rfl, rfl⟩ | ⟨g, cap, cur, rfl, _, _, hnc, _⟩
  · simp [Builtin.append_, run_underlying ht, sizeOf, typeInfo, hi, Builtin.lenOf, Builtin.firstCells]
  · simp [Builtin.append_, run_underlying ht, sizeOf, typeInfo, hi, Builtin.lenOf, Builtin.firstCells, hnc, storeCells]

/-- 'append(out, src...)', out the call's own, src whatever: nil, empty or not. -/
theorem wpList_append_src {ops : Array Oper} {rest : List Oper} {o : Oper} {a : Act} {Q : Exit → Act → World → Prop} (hgd : o.guard = none) (s x : Operand) (t : TypeId)
    (ho : o.op = .call { callee := .builtin .append, args := #[s, x], argTypes := #[t, t] })
    (base : Nat) (e : TypeId) (i : TypeInfo) (z : Value) (size bytes : Nat) (ht : P.underlying t = some (.slice e)) (hi : P.info? e = some i) (hz : i.zero = some z)
    (hsize : i.size = size) (hby : i.bytes = bytes) (hzs : z.cells.size = size) (hsz : 0 < size)
    (v : Value) (n : Nat) (xs : List Value) (hs : a.eval s = v) (hown : w.ownsRow base e size v n xs)
    (A : Option Addr) (m c : Nat) (news : List Value) (hx : a.eval x = .slice A m c) (hl : news.length = m * size) (hA : A = none → m = 0) (hnews : ∀ ad, A = some ad → ∀ j u, news[j]? = some u → w.cell? (ad.add j) = some u)
    (h1 : ∀ u ∈ news, u.oneCell' = true) (h63 : n + m ≤ maxLen) (hbytes : (n + m) * bytes ≤ 140737488355328) (hbase : base ≤ w.heap.size)
    (h : ∀ v' w', w'.ownsRow base e size v' (n + m) (xs ++ news) → w.grownBy w' v.ownBlock → (v'.ownBlock = v.ownBlock ∨ v'.ownBlock = some w.heap.size) → wpList P ops Q rest (a.put o.dst v') w') : wpList P ops Q (o :: rest) a w := by
  cases A with
  | some ad => exact wpList_append_own_at w hgd s x t ho base e i z size bytes ht hi hz hsize hby hzs hsz v n xs hs hown ad m c news hx hl (hnews ad rfl) h1 h63 hbytes hbase fun v' w' h2 h3 _ h5 => h v' w' h2 h3 h5
  | none =>
    obtain rfl := hA rfl
    have hn : news = [] := List.eq_nil_of_length_eq_zero (by simpa using hl)
    subst hn
    refine wpList_plain hgd fun K hK => ?_
    have hrun := run_append_nothing (P := P) w base t o.type e i size ht hi v n xs hown c
    unfold Oper.wp execOp
    simp only [ho, resolve, invoke, builtin, Sem.run_bind, Sem.run_pure, Result.andThen_ok, List.map_toArray, List.map_cons, List.map_nil, hs, hx, hrun]
    exact hK _ _ (h v w (by simpa using hown) (World.grownBy.refl w _) (.inl rfl))
end

theorem Reps.none_ {w : World} {B : Nat} {l : List Rep} (h : Reps w B none l) : l.length = 0 := by
  rcases Nat.eq_zero_or_pos l.length with e | e
  · exact e
  · obtain ⟨_, _, he, _⟩ := h 0 e; cases he
theorem Reps.news {w : World} {B : Nat} {A : Option Addr} {l : List Rep} (h : Reps w B A l) : ∀ ad, A = some ad → ∀ j u, (l.flatMap repCells)[j]? = some u → w.cell? (ad.add j) = some u := fun ad e j u hj => by
  obtain ⟨q, i, hi, rfl⟩ : ∃ q i, i < 8 ∧ j = q * 8 + i := ⟨j / 8, j % 8, by omega, by omega⟩
  have hq : q < l.length := by
    have := (List.getElem?_eq_some_iff.1 hj).1
    rw [repCells_len] at this; omega
  obtain ⟨b, off, he, _, hc⟩ := h q hq
  rw [e] at he; cases he
  rw [WideShapes.add_plain, ← Nat.add_assoc, hc i hi]
  rw [repCells_get l q hq i hi] at hj
  rw [← hj]; simp [repCells]
theorem repCells_ones (l : List Rep) : ∀ u ∈ l.flatMap repCells, u.oneCell' = true := fun u hu => by
  obtain ⟨x, _, hu⟩ := List.mem_flatMap.1 hu
  exact repCells_one x u hu
theorem standR_le (l : List Rep) (d : Int) (hl : l.length ≤ 1000) : (standR l d).length ≤ 1000 := by
  unfold standR
  split
  · rw [(standL_perm _).length_eq]
    unfold standS
    rw [List.length_map]
    exact Nat.le_trans (List.length_filter_le _ _) (Nat.le_trans (knownL_le l d) hl)
  · simp

set_option maxRecDepth 100000 in
set_option maxHeartbeats 4000000 in
theorem accountStands_any (l : List Rep) (A : Option Addr) (c : Nat) (id d : Int) (w : World) (h : Reps w w.heap.size A l) (hN : NeedsAt w) (hwf : ∀ r ∈ l, RepWf r) (hid : (Lit.int .i64 id).wf = true) (hl : l.length ≤ maxLen) :
    Calls Tryd.prog 3 #[.slice A l.length c, .int .i64 id, .int .i64 d] w fun e w' => e = .returned (.bool true) ∧ Below w.heap.size w w' := by
  unfold maxLen at hl
  by_cases h80 : 80 < l.length
  · have hi : (80 : Int) < (l.length : Int) := by omega
    clear h hN hwf hid
    go_enter Tryd.func3, Tryd.ntmps3
    go_wp2_with fail
    go_ret
    exact ⟨rfl, Below.refl _ _⟩
  · have hi : ¬ (80 : Int) < (l.length : Int) := by omega
    have h1000 : l.length ≤ 1000 := by omega
    have hmx : l.length ≤ maxLen := by unfold maxLen; omega
    obtain ⟨i0, hi0, hz0, hz1, hz2⟩ := info_parts repInfo
    have hown0 := own_empty w 47 8 w.heap.size (Nat.le_refl _)
    have b0 := (Below.refl w.heap.size w).alloc (Nat.le_refl _) (.cells #[] 47)
    have h0 := h.later b0
    have HN := Lib.hid hN
    have HL := Lib.hid h
    have HS := Lib.hid (fun A2 c2 W hh hn => standingTop_any l A2 c2 d W hh hn h1000 hwf)
    have HS3 := Lib.hid (fun A2 c2 W hh => standing3F_any l A2 c2 d W hh h1000 hwf)
    have HF := Lib.hid (fun A2 c2 W hh hn => fateTop_any l A2 c2 id d W hh hn h1000 hwf hid)
    have HF3 := Lib.hid (fun A2 c2 W hh => fate3_any l A2 c2 id d W hh h1000 hwf)
    have HC := Lib.hid (fun A2 c2 W hh hn => check_any l A2 c2 W hh hn hmx hwf)
    have HC3 := Lib.hid (fun A2 c2 W hh => check3_any l A2 c2 W hh hmx hwf)
    have HM := Lib.hid (fun A2 c2 A3 c3 W hh h3 => sameReports_any l A2 A3 c2 c3 W hh h3 h1000)
    have HMR := Lib.hid (fun A2 c2 A3 c3 W hh h3 => sameReports_any (standR l d) A2 A3 c2 c3 W hh h3 (standR_le l d h1000))
    clear hwf hN h80 hid
    generalize standR l d = R at *
    generalize standE l d = sE at *
    generalize fateF l id d = fF at *
    generalize fateB l id d = fB at *
    generalize fateE l id d = fE at *
    generalize checkV l = z at *
    go_enter Tryd.func3, Tryd.ntmps3
    go_wp2_with (first
      | (at_builtin; refine wpList_append_src _ rfl (.tmp 21) (.tmp 22) 22 rfl w.heap.size 47 i0 _ 8 64 Tryd.underlying22 hi0 hz0 hz1 hz2 rfl (by decide) _ 0 [] rfl hown0 A l.length c (l.flatMap repCells) rfl (repCells_len l) (by rintro rfl; exact HL.out.none_) h0.news (repCells_ones l) (by unfold maxLen; omega) (by omega) b0.size ?_; intro v1 w1 hown1 hg1 _; rw [Nat.zero_add, List.nil_append] at hown1; obtain ⟨A1, c1, rfl⟩ := own_slice hown1; have b1 := b0.grown hg1 b0.size (fun k e => (hown0.lt k e).1); have O1 := reps_own hown1; clear hown1 hg1 hown0 h0)
      | (go_at_call 4; (with_reducible refine (HS.out A1 c1 _ O1 (HN.out.later b1)).mono ?_); rintro e w2 ⟨v2, rfl, o2, g2⟩; obtain ⟨A2, c2, rfl⟩ := own_slice o2; have b2 := b1.trans (g2.mono b1.size); have O2 := O1.later g2; have P2 := reps_own o2)
      | (go_at_call 5; (with_reducible refine (HS3.out A c _ (HL.out.later b2)).mono ?_); rintro e w3 ⟨v3, rfl, o3, g3⟩; obtain ⟨A3, c3, rfl⟩ := own_slice o3; have b3 := b2.trans (g3.mono b2.size); have O3 := O2.later g3; have P3 := P2.later g3; have Q3 := reps_own o3)
      | (go_at_call 6; (with_reducible refine (HF.out A1 c1 _ O3 (HN.out.later b3)).mono ?_); rintro e w4 ⟨rfl, g4⟩; have b4 := b3.trans (g4.mono b3.size); have O4 := O3.later g4; have P4 := P3.later g4; have Q4 := Q3.later g4)
      | (go_at_call 7; (with_reducible refine (HF3.out A c _ (HL.out.later b4)).mono ?_); rintro e w5 ⟨rfl, g5⟩; have b5 := b4.trans (g5.mono b4.size); have O5 := O4.later g5; have P5 := P4.later g5; have Q5 := Q4.later g5)
      | (go_at_call 8; (with_reducible refine (HC.out A1 c1 _ O5 (HN.out.later b5)).mono ?_); rintro e w6 ⟨rfl, g6⟩; have b6 := b5.trans (g6.mono b5.size); have O6 := O5.later g6; have P6 := P5.later g6; have Q6 := Q5.later g6)
      | (go_at_call 9; (with_reducible refine (HC3.out A c _ (HL.out.later b6)).mono ?_); rintro e w7 ⟨rfl, g7⟩; have b7 := b6.trans (g7.mono b6.size); have O7 := O6.later g7; have P7 := P6.later g7; have Q7 := Q6.later g7)
      | (go_at_call 10; (with_reducible refine (HMR.out A2 c2 A3 c3 _ P7 Q7).mono ?_); rintro e w8 ⟨rfl, g8⟩; have b8 := b7.trans (g8.mono b7.size); have O8 := O7.later g8)
      | (go_at_call 10; (with_reducible refine (HM.out A1 c1 A c _ O8 (HL.out.later b8)).mono ?_); rintro e w9 ⟨rfl, g9⟩; have b9 := b8.trans (g9.mono b8.size)))
    go_ret
    exact ⟨rfl, b9⟩

end Go.Proofs.YtliijiflbfgfaaaDoor
