import Derived.Test.YtjnmoddcodnadaaGreatG32
set_option linter.unusedVariables false
set_option linter.unusedSimpArgs false
namespace Go.Proofs.YtjnmoddcodnadaaGreat
open Go.RowKit Go.Annal Go.Sort
set_option maxHeartbeats 4000000 in
set_option maxRecDepth 100000 in
theorem shut_c (ad : Option Addr) (n cap : Nat) (qs : Nat → K5) (ad' : Option Addr) (n' cap' : Nat) (ms : Nat → K5) (day into : Int) (shuts : Bool) (w : World) (hS : StepsV w ad n qs) (hM : StepsV w ad' n' ms) (d1 : -9223372036854775808 ≤ day) (d2 : day ≤ 9223372036854775807) (k1 : -9223372036854775808 ≤ into) (k2 : into ≤ 9223372036854775807) (hB : ¬ (¬ pickI day 12 ≤ (krun qs (lim n 40)).lk ∧ shuts = true ∧ (krun qs (lim n 40)).closeE (pickI day 12) (nmK (pickI into 3).toNat) = 0)) :
    Calls Tryz.prog 7 #[.slice ad n cap, .slice ad' n' cap', .int .i64 day, .int .i64 into, .bool shuts] w fun r w' => r = .returned (.bool true) ∧ Below w.heap.size w w' := by
  have CC : Hid (∀ W, Below w.heap.size w W → _) := fun W hW => changed_at w W hW
  have CR : Hid (∀ W, Below w.heap.size w W → _) := fun W hW => run_rb w W ad n cap qs hS hW
  have CN : Hid (∀ W, _) := fun W => namesK_any W
  obtain ⟨hk, hne⟩ := run_small qs n
  obtain ⟨s, hs⟩ : ∃ s, krun qs (lim n 40) = s := ⟨_, rfl⟩
  rw [hs] at hk hne CR hB
  have HM : Hid (type_of% hM) := hM
  clear hs hS hM
  have hlk := hk.lk
  have hlk0 := hk.ok.lk.1
  have hdn := pickI_bd day 12 (by decide)
  obtain ⟨d, hdd⟩ : ∃ d, pickI day 12 = d := ⟨_, rfl⟩
  rw [hdd] at hdn hB
  have CP : Hid (∀ W, Calls Tryz.prog 10 #[.int .i64 day, .int .i64 12] W fun r w' => r = .returned (.int .i64 d) ∧ w' = W) := fun W => by
    have := pickK_any day 12 W d1 d2 (by decide) (by decide)
    rw [hdd] at this; exact this
  have hin := pickI_bd into 3 (by decide)
  obtain ⟨i, hii⟩ : ∃ i : Nat, pickI into 3 = i := ⟨(pickI into 3).toNat, by omega⟩
  rw [hii] at hin
  rw [hii, Int.toNat_natCast] at hB
  have CQ : Hid (∀ W, Calls Tryz.prog 10 #[.int .i64 into, .int .i64 3] W fun r w' => r = .returned (.int .i64 i) ∧ w' = W) := fun W => by
    have := pickK_any into 3 W k1 k2 (by decide) (by decide)
    rw [hii] at this; exact this
  clear hii hdd
  have hi0 : (0 : Int) ≤ (i : Int) := by omega
  have hi6 : (i : Int) < 6 := by omega
  have cellN : ∀ {Wx w2 : World}, w2 = Wx.alloc (.cells nmCells 9) → w2.cell? ⟨Wx.heap.size, i, none⟩ = some (.string (nmK i)) := fun {Wx w2} e => by
    rw [e]; exact blk_cell' (heap_alloc_new Wx _) (nmCells_get i (by omega))
  obtain ⟨t, ht⟩ : ∃ t, s.afterClose d (nmK i) = t := ⟨_, rfl⟩
  obtain ⟨u, hu⟩ : ∃ u, s.afterLock d = u := ⟨_, rfl⟩
  have HX : Hid (∀ W2 R B, RB (fun b => w.heap.size ≤ b) W2 R B s.ne s.lk s → Below w.heap.size w W2 → Calls Tryz.prog 21 #[.pointer (some ⟨B, 0, none⟩), .int .i64 d, .string (nmK i)] W2 fun r w' => r = .returned (.tuple #[.int .i64 (s.closeN d (nmK i)), .int .i64 (s.closeE d (nmK i))]) ∧ Hid (RB (fun b => w.heap.size ≤ b) w' R B s.ne s.lk t ∧ Below w.heap.size w w')) := fun W2 R B hr hW => by
    refine (rb_close hr (fun b hb => Nat.le_trans hW.size hb) hk.ok d (nmK i)).mono ?_
    rintro r w' ⟨rfl, q1, q2⟩
    rw [ht] at q1
    exact ⟨rfl, q1, turn_below hW q2 (fun _ h => h)⟩
  have HY : Hid (∀ W2 R B, RB (fun b => w.heap.size ≤ b) W2 R B s.ne s.lk s → Below w.heap.size w W2 → Calls Tryz.prog 22 #[.pointer (some ⟨B, 0, none⟩), .int .i64 d] W2 fun r w' => r = .returned (.int .i64 (s.lockE d)) ∧ Hid (RB (fun b => w.heap.size ≤ b) w' R B s.ne s.lk u ∧ Below w.heap.size w w')) := fun W2 R B hr hW => by
    refine (rb_lock hr (fun b hb => Nat.le_trans hW.size hb) hk.ok d).mono ?_
    rintro r w' ⟨rfl, q1, q2⟩
    rw [hu] at q1
    exact ⟨rfl, q1, turn_below hW q2 (fun _ h => h)⟩
  obtain ⟨d, rfl⟩ : ∃ d' : Nat, d = d' := ⟨d.toNat, by omega⟩
  have HK : Hid (type_of% hk) := hk
  by_cases hl : (d : Int) ≤ s.lk
  · have hl' : ¬ s.lk < d := by omega
    go_enter Tryz.func7, Tryz.ntmps7
    go_wp2_with (first
      | (go_at_call 8; with_reducible refine Calls.mono (CC.out _ ?_) ?_; (exact Below.refl _ _); rintro e w1 ⟨rfl, hb1⟩)
      | (go_at_call 9; with_reducible refine Calls.mono (CR.out _ hb1) ?_; rintro e w2 ⟨R, B, rfl, rB, rN, rL, h2⟩)
      | (go_at_call 10; with_reducible refine Calls.mono (CP.out _) ?_; rintro e wx ⟨rfl, hw⟩; rw [hw]; clear hw wx))
    have HT : Hid (RunAt (fun b => w.heap.size ≤ b) w2 R s ∧ KOk s ∧ Below w.heap.size w w2 ∧ s.ne ≤ 41 ∧ (d : Int) ≤ s.lk ∧ True) := ⟨h2.out.1.run, HK.out, h2.out.2, by omega, hl, trivial⟩
    clear rB rL h2 HX HY hlk hlk0
    have hTn : s.ne ≤ 41 := HT.out.2.2.2.1
    with_reducible refine Calls.mono (table_at _ R s s.ne w2 HT.out.1 HT.out.2.1 ?_ ?_) ?_
    · omega
    · omega
    rintro e w3 ⟨g3, c3, rfl, h3⟩
    have rN3 := h3.out.2.2.1.n
    have HL : Hid (∃ S, (RunAt S w3 R s ∧ Turn S w3 w3) ∧ (∀ b, w3.heap.size ≤ b → S b) ∧ (∀ b, S b → w.heap.size ≤ b) ∧ ¬ S g3 ∧ TabAt w3 g3 (tabF s s.ne) ∧ Below w.heap.size w w3) := by
      obtain ⟨a1, a2, a3, a4⟩ := h3.out
      obtain ⟨b1, b2, b3, b4, b5⟩ := HT.out
      obtain ⟨S, s1, s2, s3, s4⟩ := b1.only a4
      have e2 := b3.size
      have e3 := a4.size
      exact ⟨S, ⟨s1, Turn.refl _ _⟩, s2, fun b hb' => (s3 b hb').elim id (fun h => by omega), s4 g3 a1 a2.lt, a2, b3.trans (a4.mono e2)⟩
    clear h3 CC CR CP CQ CN cellN
    go_wp2_with fail
    obtain ⟨S, hS0⟩ := HL.out
    have HS : Hid (type_of% hS0) := hS0
    clear hS0 HL rN3
    go_loopw [20, 21] (fun s20 _ wr => ∃ i : Nat, i ≤ n' ∧ i ≤ 15 ∧ s20 = .int .i64 i ∧ Hid (RunAt S wr R (kmore s ms i) ∧ Turn S w3 wr)) (fun s20 _ _ => 15 - (intOf s20).toNat)
    case atStart => exact ⟨0, by omega, by omega, rfl, HS.out.1⟩
    case round =>
      obtain ⟨i, hin, hi15, rfl, hr⟩ := hrel
      have hi0 : (0 : Int) ≤ (i : Int) := by omega
      obtain ⟨hko, hle, hmn⟩ := kmore_ok HT.out.2.1 ms i
      have HLe : Hid (type_of% hle) := hle
      have HKO : Hid (type_of% hko) := hko
      clear hle hko
      by_cases hlt : i < n' ∧ i < 15
      · have hlt1 : (i : Int) < (n' : Int) := by omega
        have hlt2 : (i : Int) < 15 := by omega
        obtain ⟨g, o, rfl, c0, c1, c2, c3, c4⟩ := HM.out.at' (by omega)
        have hb : Below w.heap.size w wr := turn_below HS.out.2.2.2.2.2 hr.out.2 HS.out.2.2.1
        have d0 := cell_later hb (c0 i hlt.1)
        have d1 := cell_later hb (c1 i hlt.1)
        have d2 := cell_later hb (c2 i hlt.1)
        have d3 := cell_later hb (c3 i hlt.1)
        have d4 := cell_later hb (c4 i hlt.1)
        have C1 : Hid (Calls Tryz.prog 12 #[.pointer (some ⟨R, 0, none⟩), .agg #[.int .i64 (ms i).kind, .int .i64 (ms i).day, .int .i64 (ms i).a, .int .i64 (ms i).b, .int .i64 (ms i).c]] wr fun r w' => r = .returned (.bool true) ∧ Hid (RunAt S w' R (kmore s ms (i + 1)) ∧ Turn S w3 w')) := by
          refine (step_at S R (kmore s ms i) (ms i) wr hr.out.1 (fun b h => HS.out.2.1 b (Nat.le_trans hr.out.2.size h)) HKO.out (by omega) (HM.out.ok i hlt.1)).mono ?_
          rintro r w' ⟨rfl, q1, q2⟩
          exact ⟨rfl, q1, hr.out.2.trans q2⟩
        clear c0 c1 c2 c3 c4 hb HM hmn HLe HKO
        go_wp2_with (go_at_call 12; with_reducible refine Calls.mono C1.out ?_; rintro e w5 ⟨rfl, h5⟩)
        exact ⟨⟨i + 1, by omega, by omega, by go_num, h5⟩, by simp [intOf]; omega⟩
      · have HQ0 : Hid (TabAt wr g3 (tabF s s.ne) ∧ Below w.heap.size w wr) := by
          obtain ⟨_, _, s3, s4, s5, s6⟩ := HS.out
          exact ⟨s5.turn hr.out.2 s4, turn_below s6 hr.out.2 s3⟩
        obtain ⟨y, hy⟩ : ∃ y, kmore s ms i = y := ⟨_, rfl⟩
        rw [hy] at hr HLe HKO hmn
        have rNu := hr.out.1.n
        have HG : Hid (∀ W5 g5, TabAt W5 g5 (tabF y y.ne) → Below wr.heap.size wr W5 → (∀ j, j < 78 → W5.cell? ⟨g3, j, none⟩ = some (.int .i64 (tabF s s.ne j))) ∧ (∀ j, j < 78 → ((j % 13 : Nat) : Int) ≤ d → W5.cell? ⟨g5, j, none⟩ = some (.int .i64 (tabF s s.ne j))) ∧ Below w.heap.size w W5) := fun W5 g5 h1 h2 =>
          ⟨fun j hj => cell_later h2 (HQ0.out.1 j hj), fun j hj hjd => by rw [h1 j hj, tab_locked HLe.out HT.out.2.2.2.2.1 hjd], HQ0.out.2.trans (h2.mono HQ0.out.2.size)⟩
        have HZ : Hid True := HT.out.2.2.2.2.2
        have hor : ((i : Int) < (n' : Int) ∧ ¬ (i : Int) < 15) ∨ ¬ (i : Int) < (n' : Int) := by omega
        have HR : Hid (RunAt S wr R y) := hr.out.1
        clear HM HS HLe HQ0 hr hy HT HK
        obtain ⟨h1', h2'⟩ | h1' := hor
        all_goals
          go_wp2_with fail
          with_reducible refine Calls.mono (table_at S R y y.ne wr HR.out HKO.out ?_ ?_) ?_
          · omega
          · omega
          rintro e w5 ⟨g5, c5, rfl, h5⟩
          have HQ : Hid ((∀ j, j < 78 → w5.cell? ⟨g3, j, none⟩ = some (.int .i64 (tabF s s.ne j))) ∧ (∀ j, j < 78 → ((j % 13 : Nat) : Int) ≤ d → w5.cell? ⟨g5, j, none⟩ = some (.int .i64 (tabF s s.ne j))) ∧ Below w.heap.size w w5) := HG.out w5 g5 h5.out.2.1 h5.out.2.2.2
          clear HG h5 rNu HKO HR
          generalize tabF s s.ne = F at *
          go_wp2_with fail
          go_loopw [24, 25] (fun s24 _ wq => ∃ i q : Nat, i ≤ 6 ∧ s24 = .int .i64 i ∧ wq = w5.drewN q) (fun s24 _ _ => 6 - (intOf s24).toNat)
          case atStart => exact ⟨0, 0, by omega, rfl, rfl⟩
          case round =>
            obtain ⟨i, q, hi6', rfl, rfl⟩ := hrel
            by_cases hlt6 : i < 6
            · have hlt6' : (i : Int) < 6 := by omega
              have hi0' : (0 : Int) ≤ (i : Int) := by omega
              go_wp2
              go_loopw [25] (fun s25 wq => ∃ k q : Nat, k ≤ d + 1 ∧ s25 = .int .i64 k ∧ wq = w5.drewN q) (fun s25 _ => d + 1 - (intOf s25).toNat)
              case atStart => exact ⟨0, q, by omega, rfl, rfl⟩
              case round =>
                obtain ⟨k, q', hkd, rfl, rfl⟩ := hrel
                by_cases hkl : k ≤ d
                · have hkl' : (k : Int) ≤ (d : Int) := by omega
                  have hk0' : (0 : Int) ≤ (k : Int) := by omega
                  obtain ⟨m, hm⟩ : ∃ m : Nat, m = i * 13 + k := ⟨_, rfl⟩
                  have hx : (i : Int) * 13 + (k : Int) = (m : Int) := by omega
                  have hm78 : (m : Int) < 78 := by omega
                  have hm0 : (0 : Int) ≤ (m : Int) := by omega
                  have ca := HQ.out.1 m (by omega)
                  have cb := HQ.out.2.1 m (by omega) (by omega)
                  clear hm
                  generalize F m = A at *
                  go_wp2
                  go_quiet (fail)
                  go_wp2
                  exact ⟨⟨k + 1, q' + nq, by omega, by go_num, rfl⟩, by simp [intOf]; omega⟩
                · have hkl' : ¬ (k : Int) ≤ (d : Int) := by omega
                  clear hkd
                  go_wp2
                  exact ⟨⟨i + 1, q', by omega, by go_num, rfl⟩, by simp [intOf]; omega⟩
            · have hlt6' : ¬ (i : Int) < 6 := by omega
              go_wp2
              go_ret
              exact ⟨rfl, HQ.out.2.2.trans ((below_drewN w5 q).mono HQ.out.2.2.size)⟩
  · have hl' : s.lk < d := by omega
    obtain ⟨l0, l1, l2, l3⟩ := hk.locks hdn.1 (by omega) hl hu
    rw [l0] at HY
    cases shuts
    · have HLK : Hid (type_of% (And.intro l0 (And.intro l1 (And.intro l2 l3)))) := And.intro l0 (And.intro l1 (And.intro l2 l3))
      clear l0 l1 l2 l3
      go_enter Tryz.func7, Tryz.ntmps7
      go_wp2_with (first
        | (go_at_call 8; with_reducible refine Calls.mono (CC.out _ ?_) ?_; (exact Below.refl _ _); rintro e w1 ⟨rfl, hb1⟩)
        | (go_at_call 9; with_reducible refine Calls.mono (CR.out _ hb1) ?_; rintro e w2 ⟨R, B, rfl, rB, rN, rL, h2⟩; have HB4 : Hid (RB (fun b => w.heap.size ≤ b) w2 R B s.ne s.lk s ∧ Below w.heap.size w w2) := h2)
        | (go_at_call 10; with_reducible refine Calls.mono (CP.out _) ?_; rintro e wx ⟨rfl, hw⟩; rw [hw]; clear hw wx)
        | (go_at_call 22; with_reducible refine Calls.mono (HY.out _ R B ?_ ?_) ?_; (exact HB4.out.1); (exact HB4.out.2); rintro e w6 ⟨rfl, h6⟩; have x0 := h6.out.1.c0; have x1 := h6.out.1.c1; have x2 := h6.out.1.c2; have z2 := blk_free h6.out.1.blk 2))
      obtain ⟨wz, hwz⟩ : ∃ wz, w6.setCell ⟨R, 2, none⟩ (.int .i64 (d : Int)) = wz := ⟨_, rfl⟩
      have HT : Hid (RunAt (fun b => w.heap.size ≤ b) wz R u ∧ KOk u ∧ Below w.heap.size w wz ∧ u.ne ≤ 41 ∧ (d : Int) ≤ u.lk ∧ True) := by
        have h7 := h6.out.1.set2 (d : Int)
        rw [hwz] at h7
        refine ⟨RB.run (B := B) ?_, HLK.out.2.1, turn_below h6.out.2 h7.2 (fun _ h => h), by rw [HLK.out.2.2.1]; omega, by rw [HLK.out.2.2.2]; omega, trivial⟩
        rw [HLK.out.2.2.1, HLK.out.2.2.2]; exact h7.1
      have hse : (s.ne : Int) = (u.ne : Int) := by rw [HLK.out.2.2.1]
      rw [hwz, hse]
      clear hwz x0 x1 x2 z2 h6 rB rN rL h2 HX HY hlk hlk0
      have hTn : u.ne ≤ 41 := HT.out.2.2.2.1
      with_reducible refine Calls.mono (table_at _ R u u.ne wz HT.out.1 HT.out.2.1 ?_ ?_) ?_
      · omega
      · omega
      rintro e w3 ⟨g3, c3, rfl, h3⟩
      have rN3 := h3.out.2.2.1.n
      have HL : Hid (∃ S, (RunAt S w3 R u ∧ Turn S w3 w3) ∧ (∀ b, w3.heap.size ≤ b → S b) ∧ (∀ b, S b → w.heap.size ≤ b) ∧ ¬ S g3 ∧ TabAt w3 g3 (tabF u u.ne) ∧ Below w.heap.size w w3) := by
        obtain ⟨a1, a2, a3, a4⟩ := h3.out
        obtain ⟨b1, b2, b3, b4, b5⟩ := HT.out
        obtain ⟨S, s1, s2, s3, s4⟩ := b1.only a4
        have e2 := b3.size
        have e3 := a4.size
        exact ⟨S, ⟨s1, Turn.refl _ _⟩, s2, fun b hb' => (s3 b hb').elim id (fun h => by omega), s4 g3 a1 a2.lt, a2, b3.trans (a4.mono e2)⟩
      clear h3 CC CR CP CQ CN cellN
      go_wp2_with fail
      obtain ⟨S, hS0⟩ := HL.out
      have HS : Hid (type_of% hS0) := hS0
      clear hS0 HL rN3
      go_loopw [20, 21] (fun s20 _ wr => ∃ i : Nat, i ≤ n' ∧ i ≤ 15 ∧ s20 = .int .i64 i ∧ Hid (RunAt S wr R (kmore u ms i) ∧ Turn S w3 wr)) (fun s20 _ _ => 15 - (intOf s20).toNat)
      case atStart => exact ⟨0, by omega, by omega, rfl, HS.out.1⟩
      case round =>
        obtain ⟨i, hin, hi15, rfl, hr⟩ := hrel
        have hi0 : (0 : Int) ≤ (i : Int) := by omega
        obtain ⟨hko, hle, hmn⟩ := kmore_ok HT.out.2.1 ms i
        have HLe : Hid (type_of% hle) := hle
        have HKO : Hid (type_of% hko) := hko
        clear hle hko
        by_cases hlt : i < n' ∧ i < 15
        · have hlt1 : (i : Int) < (n' : Int) := by omega
          have hlt2 : (i : Int) < 15 := by omega
          obtain ⟨g, o, rfl, c0, c1, c2, c3, c4⟩ := HM.out.at' (by omega)
          have hb : Below w.heap.size w wr := turn_below HS.out.2.2.2.2.2 hr.out.2 HS.out.2.2.1
          have d0 := cell_later hb (c0 i hlt.1)
          have d1 := cell_later hb (c1 i hlt.1)
          have d2 := cell_later hb (c2 i hlt.1)
          have d3 := cell_later hb (c3 i hlt.1)
          have d4 := cell_later hb (c4 i hlt.1)
          have C1 : Hid (Calls Tryz.prog 12 #[.pointer (some ⟨R, 0, none⟩), .agg #[.int .i64 (ms i).kind, .int .i64 (ms i).day, .int .i64 (ms i).a, .int .i64 (ms i).b, .int .i64 (ms i).c]] wr fun r w' => r = .returned (.bool true) ∧ Hid (RunAt S w' R (kmore u ms (i + 1)) ∧ Turn S w3 w')) := by
            refine (step_at S R (kmore u ms i) (ms i) wr hr.out.1 (fun b h => HS.out.2.1 b (Nat.le_trans hr.out.2.size h)) HKO.out (by omega) (HM.out.ok i hlt.1)).mono ?_
            rintro r w' ⟨rfl, q1, q2⟩
            exact ⟨rfl, q1, hr.out.2.trans q2⟩
          clear c0 c1 c2 c3 c4 hb HM hmn HLe HKO
          go_wp2_with (go_at_call 12; with_reducible refine Calls.mono C1.out ?_; rintro e w5 ⟨rfl, h5⟩)
          exact ⟨⟨i + 1, by omega, by omega, by go_num, h5⟩, by simp [intOf]; omega⟩
        · have HQ0 : Hid (TabAt wr g3 (tabF u u.ne) ∧ Below w.heap.size w wr) := by
            obtain ⟨_, _, s3, s4, s5, s6⟩ := HS.out
            exact ⟨s5.turn hr.out.2 s4, turn_below s6 hr.out.2 s3⟩
          obtain ⟨y, hy⟩ : ∃ y, kmore u ms i = y := ⟨_, rfl⟩
          rw [hy] at hr HLe HKO hmn
          have rNu := hr.out.1.n
          have HG : Hid (∀ W5 g5, TabAt W5 g5 (tabF y y.ne) → Below wr.heap.size wr W5 → (∀ j, j < 78 → W5.cell? ⟨g3, j, none⟩ = some (.int .i64 (tabF u u.ne j))) ∧ (∀ j, j < 78 → ((j % 13 : Nat) : Int) ≤ d → W5.cell? ⟨g5, j, none⟩ = some (.int .i64 (tabF u u.ne j))) ∧ Below w.heap.size w W5) := fun W5 g5 h1 h2 =>
            ⟨fun j hj => cell_later h2 (HQ0.out.1 j hj), fun j hj hjd => by rw [h1 j hj, tab_locked HLe.out HT.out.2.2.2.2.1 hjd], HQ0.out.2.trans (h2.mono HQ0.out.2.size)⟩
          have HZ : Hid True := HT.out.2.2.2.2.2
          have hor : ((i : Int) < (n' : Int) ∧ ¬ (i : Int) < 15) ∨ ¬ (i : Int) < (n' : Int) := by omega
          have HR : Hid (RunAt S wr R y) := hr.out.1
          clear HM HS HLe HQ0 hr hy HT HK
          obtain ⟨h1', h2'⟩ | h1' := hor
          all_goals
            go_wp2_with fail
            with_reducible refine Calls.mono (table_at S R y y.ne wr HR.out HKO.out ?_ ?_) ?_
            · omega
            · omega
            rintro e w5 ⟨g5, c5, rfl, h5⟩
            have HQ : Hid ((∀ j, j < 78 → w5.cell? ⟨g3, j, none⟩ = some (.int .i64 (tabF u u.ne j))) ∧ (∀ j, j < 78 → ((j % 13 : Nat) : Int) ≤ d → w5.cell? ⟨g5, j, none⟩ = some (.int .i64 (tabF u u.ne j))) ∧ Below w.heap.size w w5) := HG.out w5 g5 h5.out.2.1 h5.out.2.2.2
            clear HG h5 rNu HKO HR
            generalize tabF u u.ne = F at *
            go_wp2_with fail
            go_loopw [24, 25] (fun s24 _ wq => ∃ i q : Nat, i ≤ 6 ∧ s24 = .int .i64 i ∧ wq = w5.drewN q) (fun s24 _ _ => 6 - (intOf s24).toNat)
            case atStart => exact ⟨0, 0, by omega, rfl, rfl⟩
            case round =>
              obtain ⟨i, q, hi6', rfl, rfl⟩ := hrel
              by_cases hlt6 : i < 6
              · have hlt6' : (i : Int) < 6 := by omega
                have hi0' : (0 : Int) ≤ (i : Int) := by omega
                go_wp2
                go_loopw [25] (fun s25 wq => ∃ k q : Nat, k ≤ d + 1 ∧ s25 = .int .i64 k ∧ wq = w5.drewN q) (fun s25 _ => d + 1 - (intOf s25).toNat)
                case atStart => exact ⟨0, q, by omega, rfl, rfl⟩
                case round =>
                  obtain ⟨k, q', hkd, rfl, rfl⟩ := hrel
                  by_cases hkl : k ≤ d
                  · have hkl' : (k : Int) ≤ (d : Int) := by omega
                    have hk0' : (0 : Int) ≤ (k : Int) := by omega
                    obtain ⟨m, hm⟩ : ∃ m : Nat, m = i * 13 + k := ⟨_, rfl⟩
                    have hx : (i : Int) * 13 + (k : Int) = (m : Int) := by omega
                    have hm78 : (m : Int) < 78 := by omega
                    have hm0 : (0 : Int) ≤ (m : Int) := by omega
                    have ca := HQ.out.1 m (by omega)
                    have cb := HQ.out.2.1 m (by omega) (by omega)
                    clear hm
                    generalize F m = A at *
                    go_wp2
                    go_quiet (fail)
                    go_wp2
                    exact ⟨⟨k + 1, q' + nq, by omega, by go_num, rfl⟩, by simp [intOf]; omega⟩
                  · have hkl' : ¬ (k : Int) ≤ (d : Int) := by omega
                    clear hkd
                    go_wp2
                    exact ⟨⟨i + 1, q', by omega, by go_num, rfl⟩, by simp [intOf]; omega⟩
              · have hlt6' : ¬ (i : Int) < 6 := by omega
                go_wp2
                go_ret
                exact ⟨rfl, HQ.out.2.2.trans ((below_drewN w5 q).mono HQ.out.2.2.size)⟩
    · obtain ⟨e1, e2, e3⟩ | ⟨e1, e2, e3, e4, e5, e6⟩ := hk.shuts hdn.1 (by omega) hl (show i < 3 by omega) (by omega) ht
      · have HLK : Hid (type_of% (And.intro l0 (And.intro l1 (And.intro l2 l3)))) := And.intro l0 (And.intro l1 (And.intro l2 l3))
        rw [e1, e2, e3] at HX
        clear l0 l1 l2 l3
        go_enter Tryz.func7, Tryz.ntmps7
        go_wp2_with (first
          | (go_at_call 8; with_reducible refine Calls.mono (CC.out _ ?_) ?_; (exact Below.refl _ _); rintro e w1 ⟨rfl, hb1⟩)
          | (go_at_call 9; with_reducible refine Calls.mono (CR.out _ hb1) ?_; rintro e w2 ⟨R, B, rfl, rB, rN, rL, h2⟩)
          | (go_at_call 10; with_reducible refine Calls.mono (CP.out _) ?_; rintro e wx ⟨rfl, hw⟩; rw [hw]; clear hw wx))
        go_region_with (first
          | (go_at_call 10; with_reducible refine Calls.mono (CQ.out _) ?_; rintro e wx ⟨rfl, hw⟩; rw [hw]; clear hw wx)
          | (go_at_call 15; with_reducible refine Calls.mono (CN.out _) ?_; rintro e w3 ⟨rfl, hw3⟩; have hb3 : Grew w2 w3 := (by rw [hw3]; first | exact ((Grew.refl w2).drew).alloc _ | exact (Grew.refl w2).alloc _); have cN := cellN hw3; (try rw [show w2.drew.heap.size = w2.heap.size from rfl] at cN); have rB3 : w3.cell? ⟨R, 0, none⟩ = some (.pointer (some ⟨B, 0, none⟩)) := hb3.cell' rB; clear hw3)
          | (go_at_call 21; with_reducible refine Calls.mono (HX.out _ R B ?_ ?_) ?_; (first | exact h2.out.1.mv hb3.below | exact h2.out.1.mv hb3.drew.below); (first | exact h2.out.2.trans (hb3.below.mono h2.out.2.size) | exact h2.out.2.trans (hb3.drew.below.mono h2.out.2.size)); rintro e w4 ⟨rfl, h4⟩; have y0 := h4.out.1.c0; have y1 := h4.out.1.c1; have y2 := h4.out.1.c2; have v1 := blk_free h4.out.1.blk 1; have v2 := blk_free h4.out.1.blk 2))
        all_goals
          have HB4 : Hid (RB (fun b => w.heap.size ≤ b) w4 R B s.ne s.lk s ∧ Below w.heap.size w w4) := h4
          go_wp2_with ((go_at_call 22; with_reducible refine Calls.mono (HY.out _ R B ?_ ?_) ?_; (exact HB4.out.1); (exact HB4.out.2); rintro e w6 ⟨rfl, h6⟩; have x0 := h6.out.1.c0; have x1 := h6.out.1.c1; have x2 := h6.out.1.c2; have z2 := blk_free h6.out.1.blk 2))
          obtain ⟨wz, hwz⟩ : ∃ wz, w6.setCell ⟨R, 2, none⟩ (.int .i64 (d : Int)) = wz := ⟨_, rfl⟩
          have HT : Hid (RunAt (fun b => w.heap.size ≤ b) wz R u ∧ KOk u ∧ Below w.heap.size w wz ∧ u.ne ≤ 41 ∧ (d : Int) ≤ u.lk ∧ True) := by
            have h7 := h6.out.1.set2 (d : Int)
            rw [hwz] at h7
            refine ⟨RB.run (B := B) ?_, HLK.out.2.1, turn_below h6.out.2 h7.2 (fun _ h => h), by rw [HLK.out.2.2.1]; omega, by rw [HLK.out.2.2.2]; omega, trivial⟩
            rw [HLK.out.2.2.1, HLK.out.2.2.2]; exact h7.1
          have hse : (s.ne : Int) = (u.ne : Int) := by rw [HLK.out.2.2.1]
          rw [hwz, hse]
          clear hwz x0 x1 x2 z2 h6 rB rN rL h2 HX HY hlk hlk0
          have hTn : u.ne ≤ 41 := HT.out.2.2.2.1
          with_reducible refine Calls.mono (table_at _ R u u.ne wz HT.out.1 HT.out.2.1 ?_ ?_) ?_
          · omega
          · omega
          rintro e w3 ⟨g3, c3, rfl, h3⟩
          have rN3 := h3.out.2.2.1.n
          have HL : Hid (∃ S, (RunAt S w3 R u ∧ Turn S w3 w3) ∧ (∀ b, w3.heap.size ≤ b → S b) ∧ (∀ b, S b → w.heap.size ≤ b) ∧ ¬ S g3 ∧ TabAt w3 g3 (tabF u u.ne) ∧ Below w.heap.size w w3) := by
            obtain ⟨a1, a2, a3, a4⟩ := h3.out
            obtain ⟨b1, b2, b3, b4, b5⟩ := HT.out
            obtain ⟨S, s1, s2, s3, s4⟩ := b1.only a4
            have e2 := b3.size
            have e3 := a4.size
            exact ⟨S, ⟨s1, Turn.refl _ _⟩, s2, fun b hb' => (s3 b hb').elim id (fun h => by omega), s4 g3 a1 a2.lt, a2, b3.trans (a4.mono e2)⟩
          clear h3 CC CR CP CQ CN cellN
          go_wp2_with fail
          obtain ⟨S, hS0⟩ := HL.out
          have HS : Hid (type_of% hS0) := hS0
          clear hS0 HL rN3
          go_loopw [20, 21] (fun s20 _ wr => ∃ i : Nat, i ≤ n' ∧ i ≤ 15 ∧ s20 = .int .i64 i ∧ Hid (RunAt S wr R (kmore u ms i) ∧ Turn S w3 wr)) (fun s20 _ _ => 15 - (intOf s20).toNat)
          case atStart => exact ⟨0, by omega, by omega, rfl, HS.out.1⟩
          case round =>
            obtain ⟨i, hin, hi15, rfl, hr⟩ := hrel
            have hi0 : (0 : Int) ≤ (i : Int) := by omega
            obtain ⟨hko, hle, hmn⟩ := kmore_ok HT.out.2.1 ms i
            have HLe : Hid (type_of% hle) := hle
            have HKO : Hid (type_of% hko) := hko
            clear hle hko
            by_cases hlt : i < n' ∧ i < 15
            · have hlt1 : (i : Int) < (n' : Int) := by omega
              have hlt2 : (i : Int) < 15 := by omega
              obtain ⟨g, o, rfl, c0, c1, c2, c3, c4⟩ := HM.out.at' (by omega)
              have hb : Below w.heap.size w wr := turn_below HS.out.2.2.2.2.2 hr.out.2 HS.out.2.2.1
              have d0 := cell_later hb (c0 i hlt.1)
              have d1 := cell_later hb (c1 i hlt.1)
              have d2 := cell_later hb (c2 i hlt.1)
              have d3 := cell_later hb (c3 i hlt.1)
              have d4 := cell_later hb (c4 i hlt.1)
              have C1 : Hid (Calls Tryz.prog 12 #[.pointer (some ⟨R, 0, none⟩), .agg #[.int .i64 (ms i).kind, .int .i64 (ms i).day, .int .i64 (ms i).a, .int .i64 (ms i).b, .int .i64 (ms i).c]] wr fun r w' => r = .returned (.bool true) ∧ Hid (RunAt S w' R (kmore u ms (i + 1)) ∧ Turn S w3 w')) := by
                refine (step_at S R (kmore u ms i) (ms i) wr hr.out.1 (fun b h => HS.out.2.1 b (Nat.le_trans hr.out.2.size h)) HKO.out (by omega) (HM.out.ok i hlt.1)).mono ?_
                rintro r w' ⟨rfl, q1, q2⟩
                exact ⟨rfl, q1, hr.out.2.trans q2⟩
              clear c0 c1 c2 c3 c4 hb HM hmn HLe HKO
              go_wp2_with (go_at_call 12; with_reducible refine Calls.mono C1.out ?_; rintro e w5 ⟨rfl, h5⟩)
              exact ⟨⟨i + 1, by omega, by omega, by go_num, h5⟩, by simp [intOf]; omega⟩
            · have HQ0 : Hid (TabAt wr g3 (tabF u u.ne) ∧ Below w.heap.size w wr) := by
                obtain ⟨_, _, s3, s4, s5, s6⟩ := HS.out
                exact ⟨s5.turn hr.out.2 s4, turn_below s6 hr.out.2 s3⟩
              obtain ⟨y, hy⟩ : ∃ y, kmore u ms i = y := ⟨_, rfl⟩
              rw [hy] at hr HLe HKO hmn
              have rNu := hr.out.1.n
              have HG : Hid (∀ W5 g5, TabAt W5 g5 (tabF y y.ne) → Below wr.heap.size wr W5 → (∀ j, j < 78 → W5.cell? ⟨g3, j, none⟩ = some (.int .i64 (tabF u u.ne j))) ∧ (∀ j, j < 78 → ((j % 13 : Nat) : Int) ≤ d → W5.cell? ⟨g5, j, none⟩ = some (.int .i64 (tabF u u.ne j))) ∧ Below w.heap.size w W5) := fun W5 g5 h1 h2 =>
                ⟨fun j hj => cell_later h2 (HQ0.out.1 j hj), fun j hj hjd => by rw [h1 j hj, tab_locked HLe.out HT.out.2.2.2.2.1 hjd], HQ0.out.2.trans (h2.mono HQ0.out.2.size)⟩
              have HZ : Hid True := HT.out.2.2.2.2.2
              have hor : ((i : Int) < (n' : Int) ∧ ¬ (i : Int) < 15) ∨ ¬ (i : Int) < (n' : Int) := by omega
              have HR : Hid (RunAt S wr R y) := hr.out.1
              clear HM HS HLe HQ0 hr hy HT HK
              obtain ⟨h1', h2'⟩ | h1' := hor
              all_goals
                go_wp2_with fail
                with_reducible refine Calls.mono (table_at S R y y.ne wr HR.out HKO.out ?_ ?_) ?_
                · omega
                · omega
                rintro e w5 ⟨g5, c5, rfl, h5⟩
                have HQ : Hid ((∀ j, j < 78 → w5.cell? ⟨g3, j, none⟩ = some (.int .i64 (tabF u u.ne j))) ∧ (∀ j, j < 78 → ((j % 13 : Nat) : Int) ≤ d → w5.cell? ⟨g5, j, none⟩ = some (.int .i64 (tabF u u.ne j))) ∧ Below w.heap.size w w5) := HG.out w5 g5 h5.out.2.1 h5.out.2.2.2
                clear HG h5 rNu HKO HR
                generalize tabF u u.ne = F at *
                go_wp2_with fail
                go_loopw [24, 25] (fun s24 _ wq => ∃ i q : Nat, i ≤ 6 ∧ s24 = .int .i64 i ∧ wq = w5.drewN q) (fun s24 _ _ => 6 - (intOf s24).toNat)
                case atStart => exact ⟨0, 0, by omega, rfl, rfl⟩
                case round =>
                  obtain ⟨i, q, hi6', rfl, rfl⟩ := hrel
                  by_cases hlt6 : i < 6
                  · have hlt6' : (i : Int) < 6 := by omega
                    have hi0' : (0 : Int) ≤ (i : Int) := by omega
                    go_wp2
                    go_loopw [25] (fun s25 wq => ∃ k q : Nat, k ≤ d + 1 ∧ s25 = .int .i64 k ∧ wq = w5.drewN q) (fun s25 _ => d + 1 - (intOf s25).toNat)
                    case atStart => exact ⟨0, q, by omega, rfl, rfl⟩
                    case round =>
                      obtain ⟨k, q', hkd, rfl, rfl⟩ := hrel
                      by_cases hkl : k ≤ d
                      · have hkl' : (k : Int) ≤ (d : Int) := by omega
                        have hk0' : (0 : Int) ≤ (k : Int) := by omega
                        obtain ⟨m, hm⟩ : ∃ m : Nat, m = i * 13 + k := ⟨_, rfl⟩
                        have hx : (i : Int) * 13 + (k : Int) = (m : Int) := by omega
                        have hm78 : (m : Int) < 78 := by omega
                        have hm0 : (0 : Int) ≤ (m : Int) := by omega
                        have ca := HQ.out.1 m (by omega)
                        have cb := HQ.out.2.1 m (by omega) (by omega)
                        clear hm
                        generalize F m = A at *
                        go_wp2
                        go_quiet (fail)
                        go_wp2
                        exact ⟨⟨k + 1, q' + nq, by omega, by go_num, rfl⟩, by simp [intOf]; omega⟩
                      · have hkl' : ¬ (k : Int) ≤ (d : Int) := by omega
                        clear hkd
                        go_wp2
                        exact ⟨⟨i + 1, q', by omega, by go_num, rfl⟩, by simp [intOf]; omega⟩
                  · have hlt6' : ¬ (i : Int) < 6 := by omega
                    go_wp2
                    go_ret
                    exact ⟨rfl, HQ.out.2.2.trans ((below_drewN w5 q).mono HQ.out.2.2.size)⟩
      · exact absurd ⟨hl, rfl, e1⟩ hB
end Go.Proofs.YtjnmoddcodnadaaGreat
