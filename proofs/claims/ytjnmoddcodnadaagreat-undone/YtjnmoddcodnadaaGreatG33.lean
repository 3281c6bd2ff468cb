import Derived.Test.YtjnmoddcodnadaaGreatG32
set_option linter.unusedVariables false
set_option linter.unusedSimpArgs false
namespace Go.Annal
open Go.Proofs.YtjnmoddcodnadaaGreat
/-- An entry of the day behind all that is locked, and its reversal. -/
theorem KOk.undone {s s1 s2 : St} (h : KOk s) (q : K5) (hn : s.ne ≤ 40) (hd1 : s.afterPost (s.lk + 1) (lsA q) (lsM q) (lsN q) = s1) (hd2 : s1.afterRev ((s.ne : Int) + 1) = s2) :
    s.postE (s.lk + 1) (lsA q) (lsM q) (lsN q) = 0 ∧ s.postN (s.lk + 1) (lsA q) (lsM q) (lsN q) = (s.ne : Int) + 1 ∧ KOk s1 ∧ s1.revE ((s.ne : Int) + 1) = 0 ∧ s1.revN ((s.ne : Int) + 1) = (s.ne : Int) + 2 ∧ KOk s2 ∧ s2.ne = s.ne + 2 ∧ s2.revE ((s.ne : Int) + 1) = 12 ∧ s2.revE ((s.ne : Int) + 2) = 12 ∧ ∀ j, tabF s2 ((s.ne : Int) + 2) j = tabF s s.ne j := by
  obtain ⟨day, hday⟩ : ∃ day, s.lk + 1 = day := ⟨_, rfl⟩
  rw [hday] at hd1 ⊢
  have hl0 : -1 ≤ s.lk := h.ok.lk.1
  have hl1 := h.lk
  have e0 : s.postE day (lsA q) (lsM q) (lsN q) = 0 := by
    rw [h.postE q (day := day) (by omega) (by omega) (by omega), if_neg (by omega)]
  have hs1 : s1 = s.posted day (lsA q) (lsM q) (lsN q) := by rw [← hd1]; unfold St.afterPost; rw [if_pos e0]
  have k1 : KOk s1 := by rw [← hd1]; exact (h.post (by omega) q).1
  have n1 : s1.ne = s.ne + 1 := by rw [hs1]; rfl
  have l1 : s1.lk = s.lk := by rw [hs1]; rfl
  have g1 : s1.gn s.ne = false := by rw [hs1]; exact upd_same _ _ _
  have en : ((s.ne : Int) + 1 - 1).toNat = s.ne := by omega
  have e1 : s1.revE ((s.ne : Int) + 1) = 0 := by
    rw [k1.revE (entry := (s.ne : Int) + 1) (by omega) (by rw [n1]; omega) (by omega), en, g1]; rfl
  have hs2 : s2 = s1.reversed s.ne := by rw [← hd2]; unfold St.afterRev; rw [if_pos e1, en]
  have k2 : KOk s2 := by rw [← hd2]; exact (k1.rev _).1
  have n2 : s2.ne = s.ne + 2 := by rw [hs2]; show s1.ne + 1 = _; rw [n1]
  have g2 : s2.gn s.ne = true := by
    rw [hs2]; show upd (upd s1.gn s.ne true) s1.ne true s.ne = true
    rw [n1, upd_ne _ _ (show s.ne ≠ s.ne + 1 by omega), upd_same]
  have g3 : s2.gn (s.ne + 1) = true := by
    rw [hs2]; show upd (upd s1.gn s.ne true) s1.ne true (s.ne + 1) = true
    rw [n1, upd_same]
  refine ⟨e0, by unfold St.postN; rw [if_pos e0], k1, e1, by unfold St.revN; rw [if_pos e1, n1]; omega, k2, n2, ?_, ?_, fun j => ?_⟩
  · rw [k2.revE (entry := (s.ne : Int) + 1) (by omega) (by rw [n2]; omega) (by omega), en, g2]; rfl
  · rw [k2.revE (entry := (s.ne : Int) + 2) (by omega) (by rw [n2]; omega) (by omega), show ((s.ne : Int) + 2 - 1).toNat = s.ne + 1 by omega, g3]; rfl
  · unfold tabF
    have hrd : revDay (s1.dy s.ne) s1.lk = day := by
      rw [l1, show s1.dy s.ne = day by rw [hs1]; exact upd_same _ _ _]
      unfold revDay
      rw [if_neg (by omega)]
    have := enS_undone (s := s) (day := day) (d := ((j % 13 : Nat) : Int)) (xa := lsA q) (xm := lsM q) (n := lsN q) (x := nmK (j / 13))
    rw [show ((s.ne : Int) + 2).toNat = s.ne + 2 by omega, Int.toNat_natCast, ← this, hs2]
    show enS (upd s1.dy s1.ne (revDay (s1.dy s.ne) s1.lk)) (upd s1.la s1.ne (s1.la s.ne)) (upd s1.lm s1.ne (fun j => - s1.lm s.ne j)) _ _ (upd s1.ln s1.ne (s1.ln s.ne)) _ = _
    rw [hrd, n1, show s1.dy = upd s.dy s.ne day by rw [hs1]; rfl, show s1.la = upd s.la s.ne (lsA q) by rw [hs1]; rfl, show s1.lm = upd s.lm s.ne (lsM q) by rw [hs1]; rfl, show s1.ln = upd s.ln s.ne (lsN q) by rw [hs1]; rfl]
    simp only [upd_same]
end Go.Annal
namespace Go.Proofs.YtjnmoddcodnadaaGreat
open Go.RowKit Go.Annal Go.Sort
set_option maxHeartbeats 4000000 in
set_option maxRecDepth 100000 in
theorem undone_walk (ad : Option Addr) (n cap : Nat) (qs : Nat → K5) (q : K5) (w : World) (hS : StepsV w ad n qs) (hq : q.ok) :
    Calls Tryz.prog 6 #[.slice ad n cap, .agg q.v] w fun r w' => r = .returned (.bool true) ∧ Below w.heap.size w w' := by
  have hka : Grew w (w.alloc (.cells q.v 35)) := (Grew.refl _).alloc _
  have hbp := heap_alloc_new w (.cells q.v 35)
  obtain ⟨W1, hW1⟩ : ∃ W1, w.alloc (.cells q.v 35) = W1 := ⟨_, rfl⟩
  have hW1' : w.alloc (.cells #[.int .i64 q.kind, .int .i64 q.day, .int .i64 q.a, .int .i64 q.b, .int .i64 q.c] 35) = W1 := hW1
  rw [hW1] at hka hbp
  have CC : Hid (∀ W, Below W1.heap.size W1 W → _) := fun W hW => changed_at W1 W hW
  have CR : Hid (∀ W, Below W1.heap.size W1 W → _) := fun W hW => run_at W1 W ad n cap qs (hS.mv hka.below) hW
  obtain ⟨hk, hne⟩ := run_small qs n
  obtain ⟨s, hs⟩ : ∃ s, krun qs (lim n 40) = s := ⟨_, rfl⟩
  rw [hs] at hk hne CR
  have HK : Hid (type_of% hk) := hk
  have hlk := hk.lk
  have hlk0 := hk.ok.lk.1
  clear hs hS hW1
  have hne' : (s.ne : Int) ≤ 40 := by omega
  have hwr : IntKind.i64.wrap (s.lk + 1) = s.lk + 1 := wrap_id _ (by omega) (by omega)
  have hkb := hka.below
  show Calls _ _ #[_, .agg #[.int .i64 q.kind, .int .i64 q.day, .int .i64 q.a, .int .i64 q.b, .int .i64 q.c]] _ _
  go_enter Tryz.func6, Tryz.ntmps6
  go_wp2_with (first
    | (go_at_call 8; with_reducible refine Calls.mono (CC.out _ ?_) ?_; (exact Below.refl _ _); rintro e w1 ⟨rfl, hb1⟩)
    | (go_at_call 9; with_reducible refine Calls.mono (CR.out _ hb1) ?_; rintro e w2 ⟨R, rfl, h2⟩; have rN := h2.out.1.n))
  with_reducible refine Calls.mono (table_at _ R s s.ne w2 h2.out.1 HK.out ?_ ?_) ?_
  · omega
  · omega
  rintro e w3 ⟨g3, c3, rfl, h3⟩
  have HL : Hid (∃ S B, RB S w3 R B s.ne s.lk s ∧ (∀ b, w3.heap.size ≤ b → S b) ∧ (∀ b, S b → W1.heap.size ≤ b) ∧ ¬ S g3 ∧ TabAt w3 g3 (tabF s s.ne) ∧ Below W1.heap.size W1 w3) := by
    obtain ⟨a1, a2, a3, a4⟩ := h3.out
    obtain ⟨B, hB⟩ := h2.out.1.rb
    obtain ⟨S, s1, s2, s3, s4⟩ := hB.only a4
    have e2 := h2.out.2.size
    have e3 := a4.size
    exact ⟨S, B, s1, s2, fun b hb' => (s3 b hb').elim id (fun h => by omega), s4 g3 a1 a2.lt, a2, h2.out.2.trans (a4.mono e2)⟩
  obtain ⟨S, B, hS0⟩ := HL.out
  have HS : Hid (type_of% hS0) := hS0
  have rB := hS0.1.c0
  have rN3 := hS0.1.c1
  have rL := hS0.1.c2
  have hb3 := hS0.2.2.2.2.2
  have p0 : w3.cell? ⟨w.heap.size, 0, none⟩ = some (.int .i64 q.kind) := cell_later hb3 (blk_cell' hbp rfl)
  have p1 : w3.cell? ⟨w.heap.size, 1, none⟩ = some (.int .i64 q.day) := cell_later hb3 (blk_cell' hbp rfl)
  have p2 : w3.cell? ⟨w.heap.size, 2, none⟩ = some (.int .i64 q.a) := cell_later hb3 (blk_cell' hbp rfl)
  have p3 : w3.cell? ⟨w.heap.size, 3, none⟩ = some (.int .i64 q.b) := cell_later hb3 (blk_cell' hbp rfl)
  have p4 : w3.cell? ⟨w.heap.size, 4, none⟩ = some (.int .i64 q.c) := cell_later hb3 (blk_cell' hbp rfl)
  have hz : ¬ S w.heap.size := fun h => by
    have := hS0.2.2.1 _ h
    have := blk_lt hbp
    omega
  have CL : Hid (∀ W, Calls Tryz.prog 19 #[.agg #[.int .i64 q.kind, .int .i64 q.day, .int .i64 q.a, .int .i64 q.b, .int .i64 q.c]] W fun r w' => ∃ v, r = .returned v ∧ w'.ownsRow W.heap.size 47 2 v (lsN q) (lineCells (lsA q) (lsM q) (lsN q)) ∧ Below W.heap.size W w') := fun W => linesK_any q W hq
  have hn2 : 2 ≤ lsN q ∧ lsN q ≤ 3 := by unfold lsN; split <;> omega
  have HLV : Hid (∀ W2 v base, W2.ownsRow base 47 2 v (lsN q) (lineCells (lsA q) (lsM q) (lsN q)) → ∃ g c, v = .slice (some ⟨g, 0, none⟩) (lsN q) c ∧ LinesV W2 (some ⟨g, 0, none⟩) (lsN q) c (lsA q) (lsM q)) := fun W2 v base ho => linesV_owns ho (by omega) (by omega) (ls_three q (fun x => x.size ≤ 1000) (fun i _ => by show (1 : Nat) ≤ 1000; decide))
  obtain ⟨s1, hs1⟩ : ∃ s1, s.afterPost (s.lk + 1) (lsA q) (lsM q) (lsN q) = s1 := ⟨_, rfl⟩
  obtain ⟨s2, hs2⟩ : ∃ s2, s1.afterRev ((s.ne : Int) + 1) = s2 := ⟨_, rfl⟩
  have HU := hk.undone q hne hs1 hs2
  obtain ⟨u1, u2, u3, u4, u5, u6, u7, u8, u9, u10⟩ := HU
  have hkeep : Hid (∀ w' t, RB S w' R B s.ne s.lk t ∧ Turn S w3 w' → w'.cell? ⟨R, 0, none⟩ = some (.pointer (some ⟨B, 0, none⟩)) ∧ w'.cell? ⟨w.heap.size, 0, none⟩ = some (.int .i64 q.kind) ∧ w'.cell? ⟨w.heap.size, 1, none⟩ = some (.int .i64 q.day) ∧ w'.cell? ⟨w.heap.size, 2, none⟩ = some (.int .i64 q.a) ∧ w'.cell? ⟨w.heap.size, 3, none⟩ = some (.int .i64 q.b) ∧ w'.cell? ⟨w.heap.size, 4, none⟩ = some (.int .i64 q.c)) := by
    intro w' t ⟨hr, ht⟩
    have hbl := ht.block w.heap.size (World.block_lt_of_cell? _ _ p0) hz
    exact ⟨hr.c0, (World.cell?_of_block hbl).trans p0, (World.cell?_of_block hbl).trans p1, (World.cell?_of_block hbl).trans p2, (World.cell?_of_block hbl).trans p3, (World.cell?_of_block hbl).trans p4⟩
  have HP : Hid (∀ W2 g c, Below w3.heap.size w3 W2 → LinesV W2 (some ⟨g, 0, none⟩) (lsN q) c (lsA q) (lsM q) → Calls Tryz.prog 18 #[.pointer (some ⟨B, 0, none⟩), .int .i64 (s.lk + 1), .slice (some ⟨g, 0, none⟩) (lsN q) c] W2 fun r w' => r = .returned (.tuple #[.int .i64 ((s.ne : Int) + 1), .int .i64 0]) ∧ Hid (RB S w' R B s.ne s.lk s1 ∧ Turn S w3 w')) := fun W2 g c hW hLv => by
    refine (rb_post (hS0.1.mv hW) (fun b hb => hS0.2.1 b (Nat.le_trans hW.size hb)) hk.ok (s.lk + 1) (some ⟨g, 0, none⟩) (lsN q) c (lsA q) (lsM q) hLv).mono ?_
    rintro r w' ⟨rfl, q1, q2⟩
    rw [hs1] at q1
    exact ⟨by rw [u1, u2], q1, (Turn.of_below hW).trans q2⟩
  have HR : Hid (∀ W2 t e, RB S W2 R B s.ne s.lk t → Turn S w3 W2 → t.Ok → Calls Tryz.prog 20 #[.pointer (some ⟨B, 0, none⟩), .int .i64 e] W2 fun r w' => r = .returned (.tuple #[.int .i64 (t.revN e), .int .i64 (t.revE e)]) ∧ Hid (RB S w' R B s.ne s.lk (t.afterRev e) ∧ Turn S w3 w')) := fun W2 t e hr ht ho => by
    refine (rb_rev hr (fun b hb => hS0.2.1 b (Nat.le_trans ht.size hb)) ho e).mono ?_
    rintro r w' ⟨rfl, q1, q2⟩
    exact ⟨rfl, q1, ht.trans q2⟩
  have HR1 : Hid (∀ W2, RB S W2 R B s.ne s.lk s1 ∧ Turn S w3 W2 → Calls Tryz.prog 20 #[.pointer (some ⟨B, 0, none⟩), .int .i64 ((s.ne : Int) + 1)] W2 fun r w' => r = .returned (.tuple #[.int .i64 ((s.ne : Int) + 2), .int .i64 0]) ∧ Hid (RB S w' R B s.ne s.lk s2 ∧ Turn S w3 w')) := fun W2 h => by
    have := HR.out W2 s1 ((s.ne : Int) + 1) h.1 h.2 u3.ok
    rw [u4, u5, hs2] at this; exact this
  have HR2 : Hid (∀ W2, RB S W2 R B s.ne s.lk s2 ∧ Turn S w3 W2 → Calls Tryz.prog 20 #[.pointer (some ⟨B, 0, none⟩), .int .i64 ((s.ne : Int) + 1)] W2 fun r w' => r = .returned (.tuple #[.int .i64 0, .int .i64 12]) ∧ Hid (RB S w' R B s.ne s.lk s2 ∧ Turn S w3 w')) := fun W2 h => by
    have := HR.out W2 s2 ((s.ne : Int) + 1) h.1 h.2 u6.ok
    rw [show s2.revN ((s.ne : Int) + 1) = 0 by unfold St.revN; rw [u8]; rfl, show s2.afterRev ((s.ne : Int) + 1) = s2 by unfold St.afterRev; rw [u8]; rfl, u8] at this; exact this
  have HR3 : Hid (∀ W2, RB S W2 R B s.ne s.lk s2 ∧ Turn S w3 W2 → Calls Tryz.prog 20 #[.pointer (some ⟨B, 0, none⟩), .int .i64 ((s.ne : Int) + 2)] W2 fun r w' => r = .returned (.tuple #[.int .i64 0, .int .i64 12]) ∧ Hid (RB S w' R B s.ne s.lk s2 ∧ Turn S w3 w')) := fun W2 h => by
    have := HR.out W2 s2 ((s.ne : Int) + 2) h.1 h.2 u6.ok
    rw [show s2.revN ((s.ne : Int) + 2) = 0 by unfold St.revN; rw [u9]; rfl, show s2.afterRev ((s.ne : Int) + 2) = s2 by unfold St.afterRev; rw [u9]; rfl, u9] at this; exact this
  have HU2 : Hid (KOk s2 ∧ s2.ne = s.ne + 2 ∧ ∀ j, tabF s2 ((s.ne : Int) + 2) j = tabF s s.ne j) := ⟨u6, u7, u10⟩
  clear hS0 HL rN h2 h3 CC CR hbp hb3 HR u1 u2 u3 u4 u5 u6 u7 u8 u9 u10 hs1 hs2 hk hn2 hz
  go_wp2_with fail
  go_region_held3 (fun w' => w'.cell? ⟨R, 0, none⟩ = some (.pointer (some ⟨B, 0, none⟩)) ∧ w'.cell? ⟨w.heap.size, 0, none⟩ = some (.int .i64 q.kind) ∧ w'.cell? ⟨w.heap.size, 1, none⟩ = some (.int .i64 q.day) ∧ w'.cell? ⟨w.heap.size, 2, none⟩ = some (.int .i64 q.a) ∧ w'.cell? ⟨w.heap.size, 3, none⟩ = some (.int .i64 q.b) ∧ w'.cell? ⟨w.heap.size, 4, none⟩ = some (.int .i64 q.c)) (first | exact hkeep.out _ _ h5.out | exact ⟨cell_later hb4 rB, cell_later hb4 p0, cell_later hb4 p1, cell_later hb4 p2, cell_later hb4 p3, cell_later hb4 p4⟩ | exact ⟨rB, p0, p1, p2, p3, p4⟩ | go_keep)
    (first
      | (go_at_call 19; with_reducible refine Calls.mono (CL.out _) ?_; rintro e w4 ⟨v, rfl, ho4, hb4'⟩; obtain ⟨g, c, rfl, hlv⟩ := HLV.out w4 v _ ho4; have hb4 : Below w3.heap.size w3 w4 := (by first | exact below_drew hb4' | exact hb4'))
      | (go_at_call 18; with_reducible refine Calls.mono (HP.out _ g c hb4 hlv) ?_; rintro e w5 ⟨rfl, h5⟩))
  have rB5 := h5.out.1.c0
  clear rB rN3 rL p0 p1 p2 p3 p4
  go_wp2_with fail
  with_reducible refine Calls.mono (HR1.out _ h5.out) ?_
  rintro e w6 ⟨rfl, h6⟩
  have rB6 := h6.out.1.c0
  clear rB5
  go_wp2_with fail
  with_reducible refine Calls.mono (HR2.out _ h6.out) ?_
  rintro e w7 ⟨rfl, h7⟩
  have rB7 := h7.out.1.c0
  clear rB6
  go_wp2_with fail
  with_reducible refine Calls.mono (HR3.out _ h7.out) ?_
  rintro e w8 ⟨rfl, h8⟩
  have rB8 := h8.out.1.c0
  have rN8 := h8.out.1.c1
  have hw1 : IntKind.i64.wrap ((s.ne : Int) + 1) = (s.ne : Int) + 1 := wrap_id _ (by omega) (by omega)
  have hw2 : IntKind.i64.wrap ((s.ne : Int) + 2) = (s.ne : Int) + 2 := wrap_id _ (by omega) (by omega)
  clear rB7
  go_wp2_with fail
  with_reducible refine Calls.mono (rb_table ((s.ne : Int) + 2) w8 h8.out.1 HU2.out.1 ?_ ?_) ?_
  · omega
  · rw [HU2.out.2.1]; omega
  rintro e w9 ⟨g9, c9, rfl, h9⟩
  go_wp2_with fail
  with_reducible refine Calls.mono (same_tab g9 g3 c9 c3 _ _ w9 h9.out.2.1 ((HS.out.2.2.2.2.1.turn h8.out.2 HS.out.2.2.2.1).mv h9.out.2.2.2) (fun j _ => HU2.out.2.2 j)) ?_
  rintro e w10 ⟨rfl, hb10⟩
  go_wp2
  go_ret
  have b8 := turn_below HS.out.2.2.2.2.2 h8.out.2 HS.out.2.2.1
  have b9 := b8.trans (h9.out.2.2.2.mono b8.size)
  have b10 := b9.trans (hb10.mono b9.size)
  exact ⟨rfl, hkb.trans (b10.mono hkb.size)⟩
end Go.Proofs.YtjnmoddcodnadaaGreat
