/- The pairs of a list of records: the walk of the program's Pairs. -/
import Derived.Test.YtbkmfomdhjhkpaaGreatPairs
namespace Go.Proofs.YtbkmfomdhjhkpaaGreat
open Go.RowKit Go.Maps

/-- The persons at work, in memory. -/
structure PersAt (w : World) (A : Option Addr) (pl : List PD) : Prop where
  cells : PCells w w.heap.size A pl
  by_ : ∀ x ∈ pl, ByPlace w x.m x.r.stays
  at_ : ∀ x ∈ pl, RecAt w w.heap.size x.A x.D x.r
  room : ∀ x ∈ pl, x.r.names.length ≤ x.c
theorem PersAt.later {w0 W : World} {A : Option Addr} {pl : List PD} (h : PersAt w0 A pl) (hb : Below w0.heap.size w0 W) : PersAt W A pl :=
  ⟨(h.cells.below hb).more hb.size, fun x hx => (h.by_ x hx).below hb (Nat.le_refl _), fun x hx => (h.at_ x hx).later hb, h.room⟩

theorem people_at (l : List RD) (A : Option Addr) (c : Nat) (w : World) (h : Recs w w.heap.size A l) (hE : recsE (l.map RD.r) = 0) :
    Calls Tryz.prog 31 #[.slice A l.length c] w fun e w' => ∃ A' c', ∃ pl : List PD, e = .returned (.slice A' pl.length c') ∧ pl.map PD.r = sortR (l.map RD.r) ∧ pl.length = l.length ∧ PersAt w' A' pl ∧ (∀ x ∈ pl, w.heap.size ≤ x.m) ∧ Below w.heap.size w w' := by
  rw [← listE_eq] at hE
  unfold listE at hE
  by_cases h24 : 24 < l.length
  · rw [if_pos h24] at hE; omega
  · rw [if_neg h24] at hE
    by_cases hok : recsB l = true
    · rw [if_pos hok] at hE
      by_cases hnd : (idsOf l).Nodup
      · refine (people_any l A c w h (by omega) hok).mono fun e w' ⟨A', c', pl, he, hp, hs, hP, hby, hms, hb⟩ => ⟨A', c', pl, he, ?_, ?_, ⟨hP, hby, ?_, ?_⟩, hms, hb⟩
        · refine sorted_eq ?_ ?_ ?_
          · have := hp.map RD.r
            rw [List.map_map] at this
            exact this
          · exact List.pairwise_map.2 hs
          · rw [List.map_map]; exact hnd
        · have := hp.length_eq
          simpa using this
        · intro x hx
          have hm : x.rd ∈ l := hp.mem_iff.1 (List.mem_map_of_mem hx)
          obtain ⟨k, hk, e⟩ := List.getElem_of_mem hm
          obtain ⟨_, _, _, _, _, hr, _⟩ := (h.later hb) k hk
          rw [e] at hr
          exact hr
        · intro x hx
          have hm : x.rd ∈ l := hp.mem_iff.1 (List.mem_map_of_mem hx)
          obtain ⟨k, hk, e⟩ := List.getElem_of_mem hm
          obtain ⟨_, _, _, _, _, _, hr⟩ := h k hk
          rw [e] at hr
          exact hr
      · rw [if_neg hnd] at hE; omega
    · rw [if_neg hok] at hE; omega

theorem own_base {w : World} {base base' : Nat} {e : TypeId} {size : Nat} {v : Value} {n : Nat} {xs : List Value} (h : w.ownsRow base e size v n xs) (hb : base' ≤ base) : w.ownsRow base' e size v n xs := by
  refine ⟨h.1, ?_⟩
  rcases h.2 with hn | ⟨g, cap, cur, hv, hbg, rest⟩
  · exact .inl hn
  · exact .inr ⟨g, cap, cur, hv, Nat.le_trans hb hbg, rest⟩

theorem recB_of_zero {l : List Rec} (hE : recsE l = 0) : (∀ x ∈ sortR l, recB x = true) ∧ l.length ≤ 24 := by
  unfold recsE at hE
  by_cases h24 : 24 < l.length
  · rw [if_pos h24] at hE; omega
  · rw [if_neg h24] at hE
    by_cases hok : l.all recB = true
    · refine ⟨fun x hx => ?_, by omega⟩
      rw [List.all_eq_true] at hok
      exact hok x ((sortR_perm l).mem_iff.1 hx)
    · rw [if_neg hok] at hE; omega

set_option maxRecDepth 100000 in
set_option maxHeartbeats 4000000 in
theorem pairs_any (u : Rul) (l : List RD) (A : Option Addr) (c : Nat) (w : World) (h : Recs w w.heap.size A l) (hl : l.length ≤ maxLen) (hsuf : ∀ x ∈ l.map RD.r, 0 ≤ x.suf) :
    Calls Tryz.prog 12 #[.agg #[.int .i64 u.l, .int .i64 u.d, .int .i64 u.y, .int .i64 u.t], .slice A l.length c] w fun e w' => ∃ v4 v5, e = .returned (.tuple #[v4, v5, .int .i64 (pairsE u (l.map RD.r))]) ∧
      w'.ownsRow w.heap.size 71 2 v4 (pairsV u 2 (l.map RD.r)).length (pairCells (pairsV u 2 (l.map RD.r))) ∧ w'.ownsRow w.heap.size 71 2 v5 (pairsV u 1 (l.map RD.r)).length (pairCells (pairsV u 1 (l.map RD.r))) ∧ Below w.heap.size w w' := by
  have b0 := (Below.refl w.heap.size w).alloc (Nat.le_refl _) (.cells #[.int .i64 u.l, .int .i64 u.d, .int .i64 u.y, .int .i64 u.t] 23)
  have k0 := Blk.new w #[.int .i64 u.l, .int .i64 u.d, .int .i64 u.y, .int .i64 u.t] 23
  have Hl := h.later b0
  cases hR : rulesB u.l u.d u.y u.t with
  | false =>
    have hE : pairsE u (l.map RD.r) = 10 := by rw [pairsE, hR]; rfl
    have hV : ∀ k, pairsV u k (l.map RD.r) = [] := fun k => by rw [pairsV, if_neg (by rw [hE]; decide)]
    rw [hE, hV, hV]
    have HA := Lib.hid (fun W => hR ▸ rulesValid_any u.l u.d u.y u.t W)
    clear hE hV hR
    go_enter Tryz.func12, Tryz.ntmps12
    have c0 := k0.cell
    go_wp2_with (go_at_call 29; with_reducible refine (HA.out _).mono ?_; rintro e w1 ⟨rfl, rfl⟩)
    go_ret3
    exact ⟨_, _, rfl, World.ownsRow_nil _ _ _ _, World.ownsRow_nil _ _ _ _, b0.alloc b0.size _⟩
  | true =>
    have hEq : pairsE u (l.map RD.r) = recsE (l.map RD.r) := by rw [pairsE, hR]; rfl
    have HA := Lib.hid (fun W => hR ▸ rulesValid_any u.l u.d u.y u.t W)
    have HL := Lib.hid (fun W hh => listE_eq l ▸ listError_any l A c W hh hl)
    have hu : 0 ≤ u.l := rules_l hR
    by_cases hz : recsE (l.map RD.r) = 0
    · have hV : ∀ k, pairsV u k (l.map RD.r) = pairTo u k (sortR (l.map RD.r)) (l.map RD.r).length := fun k => by rw [pairsV, if_pos (hEq.trans hz)]
      rw [hEq, hV, hV, hz]
      rw [hz] at HL
      have HP := Lib.hid (fun W hh => people_at l A c W hh hz)
      obtain ⟨hrec, h24⟩ := recB_of_zero hz
      have hsuf' : ∀ x ∈ sortR (l.map RD.r), 0 ≤ x.suf := fun x hx => hsuf x ((sortR_perm _).mem_iff.1 hx)
      have hlen : (sortR (l.map RD.r)).length = (l.map RD.r).length := (sortR_perm _).length_eq
      rw [List.length_map] at hlen h24 ⊢
      generalize sortR (l.map RD.r) = rl at *
      clear hV hEq hz hR hsuf
      have Hrec := Lib.hid hrec
      have Hsuf := Lib.hid hsuf'
      have Hlen := Lib.hid hlen
      clear hrec hsuf' hlen
      obtain ⟨i0, hi0, hz0, hz1, hz2⟩ := info_parts pairInfo
      go_enter Tryz.func12, Tryz.ntmps12
      have c0 := k0.cell
      go_wp2_with (first
        | (go_at_call 29; with_reducible refine (HA.out _).mono ?_; rintro e w1 ⟨rfl, rfl⟩; have b1 := b0.alloc b0.size (.cells #[.int .i64 u.l, .int .i64 u.d, .int .i64 u.y, .int .i64 u.t] 23); have Hl1 := h.later b1)
        | (go_at_call 30; with_reducible refine (HL.out _ Hl1).mono ?_; rintro e w2 ⟨rfl, h2⟩; have b2 := b1.trans (h2.mono b1.size); have Hl2 := h.later b2)
        | (go_at_call 31; with_reducible refine (HP.out _ Hl2).mono ?_; rintro e w3 ⟨A', c', pl, rfl, hpl, hpn, hPA, _, h3⟩; have b3 := b2.trans (h3.mono b2.size); have hp24 : pl.length ≤ 24 := (by omega); have Hpn := Lib.hid hpn; clear hpn))
      subst hpl
      have hpn' : (pl.map PD.r).length = pl.length := by simp
      have hR : ∀ i, (hi : i < pl.length) → (pl.map PD.r)[i]! = pl[i].r := fun i hi => by simp [hi]
      have HR := Lib.hid hR
      have K1 := ((k0.alloc (.cells #[.int .i64 u.l, .int .i64 u.d, .int .i64 u.y, .int .i64 u.t] 23)).below h2 (by simp; omega)).below h3 (by have := h2.size; simp at this; omega)
      clear HA HL HP c0 h2 h3 b1 b2 Hl1 Hl2 hR hpn'
      have hB3 : w3.heap.size ≤ w3.heap.size := Nat.le_refl _
      go_loopw [4, 5, 24] (fun v4 v5 ii wr => ∃ i : Nat, i ≤ pl.length ∧ ii = .int .i64 i ∧ Hid (PInv w3.heap.size w3 wr v4 v5 (pairTo u 2 (pl.map PD.r) i) (pairTo u 1 (pl.map PD.r) i))) (fun _ _ ii _ => pl.length - (intOf ii).toNat)
      case atStart => exact ⟨0, Nat.zero_le _, rfl, Lib.hid ⟨World.ownsRow_nil _ _ _ _, World.ownsRow_nil _ _ _ _, .inl rfl, Below.refl _ _⟩⟩
      case round =>
        obtain ⟨i, hi, rfl, hP⟩ := hrel
        by_cases hlt : i < pl.length
        · have hil : (i : Int) < (pl.length : Int) := by omega
          obtain ⟨wo, rfl⟩ : ∃ wo : World, wo = wr := ⟨_, rfl⟩
          go_wp2_with fail
          go_loopw [4, 5, 29] (fun v4 v5 jj wr => ∃ j : Nat, j ≤ pl.length ∧ jj = .int .i64 j ∧ Hid (PInv w3.heap.size w3 wr v4 v5 (pairTo u 2 (pl.map PD.r) i ++ pairRow u 2 (pl.map PD.r) i j) (pairTo u 1 (pl.map PD.r) i ++ pairRow u 1 (pl.map PD.r) i j))) (fun _ _ jj _ => pl.length - (intOf jj).toNat)
          case atStart => exact ⟨0, Nat.zero_le _, rfl, Lib.hid (by simpa [pairRow] using hP.out)⟩
          case round =>
            obtain ⟨j, hj, rfl, hQ⟩ := hrel
            by_cases hjt : j < pl.length
            · have hjl : (j : Int) < (pl.length : Int) := by omega
              have Hs2 := Lib.hid (HR.out i hlt ▸ HR.out j hjt ▸ pairRow_step u 2 (pl.map PD.r) i j)
              have Hs1 := Lib.hid (HR.out i hlt ▸ HR.out j hjt ▸ pairRow_step u 1 (pl.map PD.r) i j)
              by_cases hij : i < j
              · have hij' : ¬ (j : Int) ≤ (i : Int) := by omega
                have hbel := hQ.out.below
                obtain ⟨b, off, rfl, hb, C⟩ := (hPA.cells.below hbel).nine hlt
                obtain ⟨b', off', e', hb', C'⟩ := (hPA.cells.below hbel).nine hjt
                cases e'
                have ci := C.c0
                have cj := C'.c0
                have hbs := hbel.size
                have cia : ∀ o : Obj, (wr.alloc o).cell? ⟨b, off + i * 9, none⟩ = some (.int .i64 pl[i].r.id) := fun o => (((Below.refl wr.heap.size wr).alloc (Nat.le_refl _) o).cell (p := ⟨b, off + i * 9, none⟩) (by show b < _; omega)).trans ci
                have cja : ∀ o : Obj, (wr.alloc o).cell? ⟨b, off + j * 9, none⟩ = some (.int .i64 pl[j].r.id) := fun o => (((Below.refl wr.heap.size wr).alloc (Nat.le_refl _) o).cell (p := ⟨b, off + j * 9, none⟩) (by show b < _; omega)).trans cj
                have hb1 : Below wr.heap.size wr (wr.alloc (.cells #[.int .i64 pl[i].r.id, .int .i64 pl[j].r.id] 71)).drew := ((Below.refl _ _).alloc (Nat.le_refl _) _).drew
                have kp : Blk (wr.alloc (.cells #[.int .i64 pl[i].r.id, .int .i64 pl[j].r.id] 71)).drew wr.heap.size #[.int .i64 pl[i].r.id, .int .i64 pl[j].r.id] 71 := (Blk.new wr _ _).drew
                have HQ1 := Lib.hid (hQ.out.later hb1 hbs)
                have hP1 := hPA.later (hbel.trans (hb1.mono hbs))
                have KU := K1.below (hbel.trans (hb1.mono hbs)) K1.lt
                go_wp2_with fail
                go_region
                generalize (wr.alloc (.cells #[.int .i64 pl[i].r.id, .int .i64 pl[j].r.id] 71)).drew = W1 at *
                have hbW := HQ1.out.below
                obtain ⟨b1, off1, e1, hb1', C1⟩ := hP1.cells.nine hlt
                cases e1
                obtain ⟨b2, off2, e2, hb2', C2⟩ := hP1.cells.nine hjt
                cases e2
                have hri := Hrec.out _ (List.mem_map_of_mem (f := PD.r) (List.getElem_mem hlt))
                have hrj := Hrec.out _ (List.mem_map_of_mem (f := PD.r) (List.getElem_mem hjt))
                have hsi := Hsuf.out _ (List.mem_map_of_mem (f := PD.r) (List.getElem_mem hlt))
                have hsj := Hsuf.out _ (List.mem_map_of_mem (f := PD.r) (List.getElem_mem hjt))
                have gby := hP1.by_ _ (List.getElem_mem hjt)
                have gai := hP1.at_ _ (List.getElem_mem hlt)
                have gaj := hP1.at_ _ (List.getElem_mem hjt)
                have rmi := hP1.room _ (List.getElem_mem hlt)
                have rmj := hP1.room _ (List.getElem_mem hjt)
                clear ci cj cia cja C C'
                generalize pl[i] = p at *
                generalize pl[j] = q at *
                have HC := Lib.hid (fun (x : After W1.heap.size W1) => compare_in u p.r q.r p.A q.A p.D q.D p.c q.c p.d q.d p.m q.m x.val hu hsi hsj (gby.below x.property (Nat.le_refl _)) (gai.later x.property) (gaj.later x.property) hri hrj rmi rmj)
                clear hri hrj hsi hsj gby gai gaj rmi rmj hP1 hbel
                generalize matF u p.r q.r = M at HC Hs1 Hs2
                obtain ⟨mn, mk, mb, mp, mo⟩ := M
                dsimp only at HC Hs1 Hs2
                have hfld : ∀ V, (Instr.field 54 (.agg #[.int .u8 mn, .int .u8 mk, .int .u8 mb, .int .u8 mp, .int .u8 mo]) 4).run Tryz.prog V = .ok (.int .u8 mo) V := fun _ => by kernel_rfl
                have cu := After.cells (B := W1.heap.size) KU.cell KU.lt
                have d0 := After.cell (B := W1.heap.size) C1.c0 hb1'
                have d1 := After.cell (B := W1.heap.size) C1.c1 hb1'
                have d2 := After.cell (B := W1.heap.size) C1.c2 hb1'
                have d3 := After.cell (B := W1.heap.size) C1.c3 hb1'
                have d4 := After.cell (B := W1.heap.size) C1.c4 hb1'
                have d5 := After.cell (B := W1.heap.size) C1.c5 hb1'
                have d6 := After.cell (B := W1.heap.size) C1.c6 hb1'
                have d7 := After.cell (B := W1.heap.size) C1.c7 hb1'
                have d8 := After.cell (B := W1.heap.size) C1.c8 hb1'
                have g0 := After.cell (B := W1.heap.size) C2.c0 hb1'
                have g1 := After.cell (B := W1.heap.size) C2.c1 hb1'
                have g2 := After.cell (B := W1.heap.size) C2.c2 hb1'
                have g3 := After.cell (B := W1.heap.size) C2.c3 hb1'
                have g4 := After.cell (B := W1.heap.size) C2.c4 hb1'
                have g5 := After.cell (B := W1.heap.size) C2.c5 hb1'
                have g6 := After.cell (B := W1.heap.size) C2.c6 hb1'
                have g7 := After.cell (B := W1.heap.size) C2.c7 hb1'
                have g8 := After.cell (B := W1.heap.size) C2.c8 hb1'
                clear C1 C2
                go_wp2_with fail
                refine wp_region_class_lit (C := fun w' => ∃ x : After W1.heap.size W1, w' = x.val) (by kernel_rfl) (by kernel_rfl) ⟨⟨_, (Below.refl _ _).drew⟩, rfl⟩ ?_
                repeat (go_big_quiet_step ((first
                  | (go_at_call 32; with_reducible exact after_of (Nat.le_refl _) _ (HC.out _)))))
                refine wpQuiet_nil ?_
                intro wq hw'
                obtain ⟨⟨wz, hz⟩, hw''⟩ := hw'
                dsimp only at hw''
                subst hw''
                clear hfld d0 d1 d2 d3 d4 d5 d6 d7 d8 g0 g1 g2 g3 g4 g5 g6 g7 g8 cu HC
                have hbz : w3.heap.size ≤ wq.heap.size := Nat.le_trans (Nat.le_trans hbs hb1.size) hz.size
                have HQ2 := Lib.hid (HQ1.out.later hz (Nat.le_trans hbs hb1.size))
                have kp2 := (kp.below hz kp.lt)
                have pcell := kp2.cell
                have hn2 : (pairTo u 2 (pl.map PD.r) i ++ pairRow u 2 (pl.map PD.r) i j).length ≤ 1000 := by
                  have h1 := pairTo_le u 2 (pl.map PD.r) i
                  have h2 := pairRow_le u 2 (pl.map PD.r) i j
                  rw [List.length_map] at h1
                  have h3 : i * pl.length ≤ 24 * 24 := Nat.mul_le_mul (by omega) hp24
                  rw [List.length_append]; omega
                have hn1 : (pairTo u 1 (pl.map PD.r) i ++ pairRow u 1 (pl.map PD.r) i j).length ≤ 1000 := by
                  have h1 := pairTo_le u 1 (pl.map PD.r) i
                  have h2 := pairRow_le u 1 (pl.map PD.r) i j
                  rw [List.length_map] at h1
                  have h3 : i * pl.length ≤ 24 * 24 := Nat.mul_le_mul (by omega) hp24
                  rw [List.length_append]; omega
                have HQ3 := Lib.hid (HQ2.out.later ((Below.refl wq.heap.size wq).alloc (Nat.le_refl _) (.cells #[.int .i64 p.r.id, .int .i64 q.r.id] 71)) hbz)
                have hbz3 : w3.heap.size ≤ (wq.alloc (.cells #[.int .i64 p.r.id, .int .i64 q.r.id] 71)).heap.size := by simp; omega
                clear hbW kp kp2 KU HQ1 hz hb1 hP
                by_cases h2 : mo = 2
                · subst h2
                  have hs2 := Hs2.out
                  have hs1 := Hs1.out
                  rw [if_pos ⟨hij, rfl⟩] at hs2
                  rw [if_neg (by omega), List.append_nil] at hs1
                  have Hs2' := Lib.hid hs2
                  have Hs1' := Lib.hid hs1
                  clear hs1 hs2 Hs1 Hs2
                  go_wp2_with (at_builtin; refine wpList_append_own_at _ rfl _ _ 27 rfl w3.heap.size 71 i0 _ 2 16 Tryz.underlying27 hi0 hz0 hz1 hz2 rfl (by decide) _ _ _ rfl HQ3.out.s ⟨wq.heap.size, 0, none⟩ 1 1 [.int .i64 p.r.id, .int .i64 q.r.id] rfl rfl (cells_new2 _ _ _) (by simp [Value.oneCell']) (by unfold maxLen; omega) (by omega) hbz3 ?_; intro v' w5 hown5 hg5 _ hat5)
                  have HQ4 := Lib.hid (HQ3.out.sure hbz3 (p.r.id, q.r.id) hown5 hg5 hat5)
                  go_wp2_with fail
                  go_roundw
                  case rel => exact ⟨j + 1, by omega, by go_num, Lib.hid (by rw [Hs2'.out, Hs1'.out, ← List.append_assoc]; exact HQ4.out)⟩
                  case measure => simp [intOf]; omega
                · have h2' : (mo == 2) = false := by simpa using h2
                  by_cases h1 : mo = 1
                  · subst h1
                    have hs2 := Hs2.out
                    have hs1 := Hs1.out
                    rw [if_neg (by omega), List.append_nil] at hs2
                    rw [if_pos ⟨hij, rfl⟩] at hs1
                    have Hs2' := Lib.hid hs2
                    have Hs1' := Lib.hid hs1
                    clear hs1 hs2 Hs1 Hs2
                    go_wp2_with (at_builtin; refine wpList_append_own_at _ rfl _ _ 27 rfl w3.heap.size 71 i0 _ 2 16 Tryz.underlying27 hi0 hz0 hz1 hz2 rfl (by decide) _ _ _ rfl HQ3.out.o ⟨wq.heap.size, 0, none⟩ 1 1 [.int .i64 p.r.id, .int .i64 q.r.id] rfl rfl (cells_new2 _ _ _) (by simp [Value.oneCell']) (by unfold maxLen; omega) (by omega) hbz3 ?_; intro v' w5 hown5 hg5 _ hat5)
                    have HQ4 := Lib.hid (HQ3.out.open_ hbz3 (p.r.id, q.r.id) hown5 hg5 hat5)
                    go_wp2_with fail
                    go_roundw
                    case rel => exact ⟨j + 1, by omega, by go_num, Lib.hid (by rw [Hs2'.out, Hs1'.out, ← List.append_assoc]; exact HQ4.out)⟩
                    case measure => simp [intOf]; omega
                  · have h1' : (mo == 1) = false := by simpa using h1
                    have hs2 := Hs2.out
                    have hs1 := Hs1.out
                    rw [if_neg (by omega), List.append_nil] at hs2
                    rw [if_neg (by omega), List.append_nil] at hs1
                    have Hs2' := Lib.hid hs2
                    have Hs1' := Lib.hid hs1
                    clear hs1 hs2 Hs1 Hs2
                    go_wp2_with fail
                    go_roundw
                    case rel => exact ⟨j + 1, by omega, by go_num, Lib.hid (by rw [Hs2'.out, Hs1'.out]; exact HQ2.out)⟩
                    case measure => simp [intOf]; omega
              · have hij' : (j : Int) ≤ (i : Int) := by omega
                have hs2 := Hs2.out
                have hs1 := Hs1.out
                rw [if_neg (by omega), List.append_nil] at hs2
                rw [if_neg (by omega), List.append_nil] at hs1
                have Hs2' := Lib.hid hs2
                have Hs1' := Lib.hid hs1
                clear hs1 hs2 Hs1 Hs2
                go_wp2_with fail
                go_roundw
                case rel => exact ⟨j + 1, by omega, by go_num, Lib.hid (by rw [Hs2'.out, Hs1'.out]; exact hQ.out)⟩
                case measure => simp [intOf]; omega
            · have hjl : ¬ (j : Int) < (pl.length : Int) := by omega
              obtain rfl : j = pl.length := by omega
              have Ht2 := Lib.hid (pairTo_step u 2 (pl.map PD.r) i)
              have Ht1 := Lib.hid (pairTo_step u 1 (pl.map PD.r) i)
              rw [List.length_map] at Ht1 Ht2
              go_wp2_with fail
              go_roundw
              case rel => exact ⟨i + 1, by omega, by go_num, Lib.hid (by rw [Ht2.out, Ht1.out]; exact hQ.out)⟩
              case measure => simp [intOf]; omega
        · have hil : ¬ (i : Int) < (pl.length : Int) := by omega
          obtain rfl : i = pl.length := by omega
          have hfin := hP.out
          rw [Hpn.out] at hfin
          have Hfin := Lib.hid hfin
          clear hfin
          go_wp2_with fail
          go_ret3
          exact ⟨_, _, rfl, own_base Hfin.out.s b3.size, own_base Hfin.out.o b3.size, b3.trans (Hfin.out.below.mono b3.size)⟩
    · have hEz : pairsE u (l.map RD.r) ≠ 0 := by rw [hEq]; exact hz
      have hV : ∀ k, pairsV u k (l.map RD.r) = [] := fun k => by rw [pairsV, if_neg hEz]
      rw [hV, hV, hEq]
      have hne : (recsE (l.map RD.r) != 0) = true := by simpa using hz
      clear hEq hz hEz hV hsuf
      generalize recsE (l.map RD.r) = E at HL hne ⊢
      go_enter Tryz.func12, Tryz.ntmps12
      have c0 := k0.cell
      go_wp2_with (first
        | (go_at_call 29; with_reducible refine (HA.out _).mono ?_; rintro e w1 ⟨rfl, rfl⟩; have b1 := b0.alloc b0.size (.cells #[.int .i64 u.l, .int .i64 u.d, .int .i64 u.y, .int .i64 u.t] 23); have Hl1 := h.later b1)
        | (go_at_call 30; with_reducible refine (HL.out _ Hl1).mono ?_; rintro e w2 ⟨rfl, h2⟩; have b2 := b1.trans (h2.mono b1.size)))
      go_ret3
      exact ⟨_, _, rfl, World.ownsRow_nil _ _ _ _, World.ownsRow_nil _ _ _ _, b2⟩

end Go.Proofs.YtbkmfomdhjhkpaaGreat
