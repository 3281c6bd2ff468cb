import Derived.Test.YtjnmoddcodnadaaGreatG32
set_option linter.unusedVariables false
set_option linter.unusedSimpArgs false
namespace Go.Proofs.YtjnmoddcodnadaaGreat
open Go.RowKit Go.Annal Go.Sort
set_option maxHeartbeats 4000000 in
set_option maxRecDepth 100000 in
theorem counted_0 (ad : Option Addr) (n cap : Nat) (qs : Nat → K5) (which from' to' known : Int) (w : World) (hS : StepsV w ad n qs) (a1 : -9223372036854775808 ≤ which) (a2 : which ≤ 9223372036854775807) (b1 : -9223372036854775808 ≤ from') (b2 : from' ≤ 9223372036854775807) (c1 : -9223372036854775808 ≤ to') (c2 : to' ≤ 9223372036854775807) (d1 : -9223372036854775808 ≤ known) (d2 : known ≤ 9223372036854775807) (hF0 : pickI from' 12 = 0) :
    Calls Tryz.prog 5 #[.slice ad n cap, .int .i64 which, .int .i64 from', .int .i64 to', .int .i64 known] w fun r w' => r = .returned (.bool true) ∧ Below w.heap.size w w' := by
  have CC : Hid (∀ W, Below w.heap.size w W → _) := fun W hW => changed_at w W hW
  have CR : Hid (∀ W, Below w.heap.size w W → _) := fun W hW => run_rb w W ad n cap qs hS hW
  have CN : Hid (∀ W, _) := fun W => namesK_any W
  obtain ⟨hk, hne⟩ := run_small qs n
  obtain ⟨s, hs⟩ : ∃ s, krun qs (lim n 40) = s := ⟨_, rfl⟩
  rw [hs] at hk hne CR
  clear hs hS
  have hne' : (s.ne : Int) ≤ 40 := by omega
  have hin := pickI_bd which 6 (by decide)
  obtain ⟨i, hii⟩ : ∃ i : Nat, pickI which 6 = i := ⟨(pickI which 6).toNat, by omega⟩
  rw [hii] at hin
  have P0 : Hid (∀ W, Calls Tryz.prog 10 #[.int .i64 which, .int .i64 6] W fun r w' => r = .returned (.int .i64 i) ∧ w' = W) := fun W => by
    have := pickK_any which 6 W a1 a2 (by decide) (by decide)
    rw [hii] at this; exact this
  have hfn := pickI_bd from' 12 (by decide)
  obtain ⟨f, hff⟩ : ∃ f, pickI from' 12 = f := ⟨_, rfl⟩
  rw [hff] at hfn hF0
  have HF0 : Hid (f = 0) := hF0
  clear hF0
  have P1 : Hid (∀ W, Calls Tryz.prog 10 #[.int .i64 from', .int .i64 12] W fun r w' => r = .returned (.int .i64 f) ∧ w' = W) := fun W => by
    have := pickK_any from' 12 W b1 b2 (by decide) (by decide)
    rw [hff] at this; exact this
  have htn := pickI_bd to' 12 (by decide)
  obtain ⟨t, htt⟩ : ∃ t, pickI to' 12 = t := ⟨_, rfl⟩
  rw [htt] at htn
  have P2 : Hid (∀ W, Calls Tryz.prog 10 #[.int .i64 to', .int .i64 12] W fun r w' => r = .returned (.int .i64 t) ∧ w' = W) := fun W => by
    have := pickK_any to' 12 W c1 c2 (by decide) (by decide)
    rw [htt] at this; exact this
  have hkn := pickI_bd known ((s.ne : Int) + 1) (by omega)
  obtain ⟨k, hkk⟩ : ∃ k, pickI known ((s.ne : Int) + 1) = k := ⟨_, rfl⟩
  rw [hkk] at hkn
  have P3 : Hid (∀ W, Calls Tryz.prog 10 #[.int .i64 known, .int .i64 ((s.ne : Int) + 1)] W fun r w' => r = .returned (.int .i64 k) ∧ w' = W) := fun W => by
    have := pickK_any known ((s.ne : Int) + 1) W d1 d2 (by omega) (by omega)
    rw [hkk] at this; exact this
  clear hkk htt hff hii
  have hwr : IntKind.i64.wrap ((s.ne : Int) + 1) = (s.ne : Int) + 1 := wrap_id _ (by omega) (by omega)
  obtain ⟨m, hm⟩ : ∃ m, k.tdiv 2 = m := ⟨_, rfl⟩
  have hmb : 0 ≤ m ∧ m ≤ k := by
    rw [← hm, Int.tdiv_eq_ediv_of_nonneg hkn.1]; omega
  obtain ⟨L, hL⟩ : ∃ L, enI s.dy s.la s.lm (nmK i) f t s.ln k.toNat = L := ⟨_, rfl⟩
  obtain ⟨L2, hL2⟩ : ∃ L2, enI s.dy s.la s.lm (nmK i) f t s.ln m.toNat = L2 := ⟨_, rfl⟩
  obtain ⟨hi, hhi⟩ : ∃ hi, enS s.dy s.la s.lm (nmK i) t s.ln k.toNat = hi := ⟨_, rfl⟩
  obtain ⟨lo, hlo⟩ : ∃ lo, enS s.dy s.la s.lm (nmK i) (f - 1) s.ln k.toNat = lo := ⟨_, rfl⟩
  have HF := hk.counted (i := i) (f := f) (t := t) hkn.1 (show k ≤ s.ne by omega) hmb.1 hmb.2 hL hL2 hhi hlo
  have hhb := hk.bal_in (nmK i) t (n := k.toNat) (by omega)
  have hlb := hk.bal_in (nmK i) (f - 1) (n := k.toNat) (by omega)
  rw [hhi] at hhb
  rw [hlo] at hlb
  have hf0 : f = 0 → lo = 0 := fun e => by rw [← hlo, e]; exact hk.low (nmK i) (by omega)
  have CI : Hid (∀ W R B, RB (fun b => w.heap.size ≤ b) W R B s.ne s.lk s → Calls Tryz.prog 17 #[.pointer (some ⟨B, 0, none⟩), .string (nmK i), .int .i64 f, .int .i64 t, .int .i64 k] W fun r w' => ∃ lad lc, r = .returned (.tuple #[.slice lad L.length lc, .int .i64 0]) ∧ Hid ((∀ j, j < L.length → ∃ g, lad = some ⟨g, 0, none⟩ ∧ w'.cell? ⟨g, j * 3, none⟩ = some (.int .i64 (atJ L j).1) ∧ w'.cell? ⟨g, j * 3 + 1, none⟩ = some (.int .i64 (atJ L j).2.1) ∧ w'.cell? ⟨g, j * 3 + 2, none⟩ = some (.int .i64 (atJ L j).2.2)) ∧ RB (fun b => w.heap.size ≤ b) w' R B s.ne s.lk s ∧ Below W.heap.size W w')) := fun W R B h => by
    have hit := hk.items hfn.1 (by omega) htn.1 (by omega) hkn.1 (show k ≤ s.ne by omega) (show i < 6 by omega)
    rw [hL] at hit
    refine (rb_items h hk.ok (nmK i) f t k).mono ?_
    rintro r w' ⟨v, rfl, ho, hb⟩
    rw [hit.2] at ho
    obtain ⟨lad, lc, rfl, hl⟩ := items_out ho
    exact ⟨lad, lc, by rw [hit.1], hl, h.mv hb, hb⟩
  have CJ : Hid (∀ W R B, RB (fun b => w.heap.size ≤ b) W R B s.ne s.lk s → Calls Tryz.prog 17 #[.pointer (some ⟨B, 0, none⟩), .string (nmK i), .int .i64 f, .int .i64 t, .int .i64 m] W fun r w' => ∃ lad lc, r = .returned (.tuple #[.slice lad L2.length lc, .int .i64 0]) ∧ Hid ((∀ j, j < L2.length → ∃ g, lad = some ⟨g, 0, none⟩ ∧ w'.cell? ⟨g, j * 3, none⟩ = some (.int .i64 (atJ L2 j).1) ∧ w'.cell? ⟨g, j * 3 + 1, none⟩ = some (.int .i64 (atJ L2 j).2.1) ∧ w'.cell? ⟨g, j * 3 + 2, none⟩ = some (.int .i64 (atJ L2 j).2.2)) ∧ RB (fun b => w.heap.size ≤ b) w' R B s.ne s.lk s ∧ Below W.heap.size W w')) := fun W R B h => by
    have hit := hk.items hfn.1 (by omega) htn.1 (by omega) hmb.1 (show m ≤ s.ne by omega) (show i < 6 by omega)
    rw [hL2] at hit
    refine (rb_items h hk.ok (nmK i) f t m).mono ?_
    rintro r w' ⟨v, rfl, ho, hb⟩
    rw [hit.2] at ho
    obtain ⟨lad, lc, rfl, hl⟩ := items_out ho
    exact ⟨lad, lc, by rw [hit.1], hl, h.mv hb, hb⟩
  have CB1 : Hid (∀ W R B, RB (fun b => w.heap.size ≤ b) W R B s.ne s.lk s → Calls Tryz.prog 16 #[.pointer (some ⟨B, 0, none⟩), .string (nmK i), .int .i64 t, .int .i64 k] W fun r w' => r = .returned (.tuple #[.int .i64 hi, .int .i64 0]) ∧ Below W.heap.size W w') := fun W R B h => by
    have := hk.asks htn.1 (by omega) hkn.1 (show k ≤ s.ne by omega) (show i < 6 by omega)
    have h2 := rb_bal h hk.ok (nmK i) t k
    rw [this.1, this.2, hhi] at h2
    exact h2
  have CB2 : Hid (0 < f → ∀ W R B, RB (fun b => w.heap.size ≤ b) W R B s.ne s.lk s → Calls Tryz.prog 16 #[.pointer (some ⟨B, 0, none⟩), .string (nmK i), .int .i64 (f - 1), .int .i64 k] W fun r w' => r = .returned (.tuple #[.int .i64 lo, .int .i64 0]) ∧ Below W.heap.size W w') := fun hf W R B h => by
    have := hk.asks (d := f - 1) (by omega) (by omega) hkn.1 (show k ≤ s.ne by omega) (show i < 6 by omega)
    have h2 := rb_bal h hk.ok (nmK i) (f - 1) k
    rw [this.1, this.2, hlo] at h2
    exact h2
  have cellN : ∀ {Wx w2 : World}, w2 = Wx.alloc (.cells nmCells 9) → w2.cell? ⟨Wx.heap.size, i, none⟩ = some (.string (nmK i)) := fun {Wx w2} e => by
    rw [e]; exact blk_cell' (heap_alloc_new Wx _) (nmCells_get i (by omega))
  have HF' : Hid (type_of% HF) := HF
  have hi0 : (0 : Int) ≤ (i : Int) := by omega
  have hi6 : (i : Int) < 6 := by omega
  clear hk HF hL hL2 hhi hlo
  go_enter Tryz.func5, Tryz.ntmps5
  go_wp2_with (first
    | (go_at_call 8; with_reducible refine Calls.mono (CC.out _ ?_) ?_; (exact Below.refl _ _); rintro e w1 ⟨rfl, hb1⟩)
    | (go_at_call 9; with_reducible refine Calls.mono (CR.out _ hb1) ?_; rintro e w2 ⟨R, B, rfl, rB, rN, rL, h2⟩))
  with_reducible refine Calls.mono (CN.out _) ?_
  rintro e w3 ⟨rfl, hw3⟩
  have cN := cellN hw3
  have hg3 : Grew w2 w3 := by rw [hw3]; exact (Grew.refl w2).alloc _
  have HB3 : Hid (RB (fun b => w.heap.size ≤ b) w3 R B s.ne s.lk s ∧ Below w.heap.size w w3) := ⟨h2.out.1.mv hg3.below, h2.out.2.trans (hg3.below.mono h2.out.2.size)⟩
  have rB3 := HB3.out.1.c0
  have rN3 := HB3.out.1.c1
  clear hw3 hg3 h2 rB rN rL CC CR CN cellN hb1
  go_wp2_with (first
    | (go_at_call 10; with_reducible refine Calls.mono (P0.out _) ?_; rintro e wx ⟨rfl, hw⟩; rw [hw]; clear hw wx)
    | (go_at_call 10; with_reducible refine Calls.mono (P1.out _) ?_; rintro e wx ⟨rfl, hw⟩; rw [hw]; clear hw wx)
    | (go_at_call 10; with_reducible refine Calls.mono (P2.out _) ?_; rintro e wx ⟨rfl, hw⟩; rw [hw]; clear hw wx)
    | (go_at_call 10; with_reducible refine Calls.mono (P3.out _) ?_; rintro e wx ⟨rfl, hw⟩; rw [hw]; clear hw wx))
  with_reducible refine Calls.mono (CI.out _ R B HB3.out.1) ?_
  rintro e w4 ⟨lad, lc, rfl, h4⟩
  have rB4 := h4.out.2.1.c0
  clear P0 P1 P2 P3 rB3 rN3 CI
  go_wp2_with fail
  with_reducible refine Calls.mono (CB1.out _ R B h4.out.2.1) ?_
  rintro e w5 ⟨rfl, hb5⟩
  have HB5 : Hid (RB (fun b => w.heap.size ≤ b) w5 R B s.ne s.lk s ∧ Below w.heap.size w w5 ∧ ∀ j, j < L.length → ∃ g, lad = some ⟨g, 0, none⟩ ∧ w5.cell? ⟨g, j * 3, none⟩ = some (.int .i64 (atJ L j).1) ∧ w5.cell? ⟨g, j * 3 + 1, none⟩ = some (.int .i64 (atJ L j).2.1) ∧ w5.cell? ⟨g, j * 3 + 2, none⟩ = some (.int .i64 (atJ L j).2.2)) := by
    obtain ⟨q1, q2, q3⟩ := h4.out
    have h34 := HB3.out.2.trans (q3.mono HB3.out.2.size)
    refine ⟨q2.mv hb5, h34.trans (hb5.mono h34.size), fun j hj => ?_⟩
    obtain ⟨g, e1, x0, x1, x2⟩ := q1 j hj
    exact ⟨g, e1, cell_later hb5 x0, cell_later hb5 x1, cell_later hb5 x2⟩
  have rB5 := HB5.out.1.c0
  clear rB4 h4 hb5 HB3 CB1 cN
  · obtain rfl : f = 0 := HF0.out
    obtain rfl := hf0 rfl
    by_cases hft : t < 0
    · omega
    · have hft' : ¬ (0 : Int) > t := by omega
      go_wp2_with fail
      go_loopw [23, 24, 25] (fun s23 s24 _ wr => ∃ j : Nat, j ≤ L.length ∧ s24 = .int .i64 j ∧ s23 = .int .i64 (sumJ L j) ∧ Hid (Below w5.heap.size w5 wr)) (fun _ s24 _ _ => L.length - (intOf s24).toNat)
      case atStart => exact ⟨0, by omega, rfl, rfl, Below.refl _ _⟩
      case round =>
        obtain ⟨j, hjL, rfl, rfl, hb⟩ := hrel
        have hLn := HF'.out.1.len
        by_cases hlt : j < L.length
        · have hlt' : (j : Int) < (L.length : Int) := by omega
          have hj0 : (0 : Int) ≤ (j : Int) := by omega
          obtain ⟨g, rfl, y0, y1, y2⟩ := HB5.out.2.2 j hlt
          have x0 := cell_later hb.out y0
          have x1 := cell_later hb.out y1
          have x2 := cell_later hb.out y2
          have n1 := HF'.out.1.nz j hlt
          have n2 := HF'.out.1.lo j hlt
          have n3 := HF'.out.1.hi j hlt
          have n4 := HF'.out.1.n1 j hlt
          have n5 := HF'.out.1.nk j hlt
          have hs0 := HF'.out.1.sum (j + 1) (by omega)
          have HSm : Hid (sumJ L (j + 1) = sumJ L j + (atJ L j).2.2) := rfl
          rw [HSm.out] at hs0
          have n2' : ¬ (atJ L j).2.1 < 0 := by omega
          have n3' : ¬ (atJ L j).2.1 > t := by omega
          have n4' : ¬ (atJ L j).1 < 1 := by omega
          have n5' : ¬ (atJ L j).1 > k := by omega
          rcases Nat.eq_zero_or_pos j with hz | hz
          · subst hz
            clear y0 y1 y2
            generalize (atJ L 0).1 = E at *
            generalize (atJ L 0).2.1 = D at *
            generalize (atJ L 0).2.2 = A at *
            go_wp2
            go_quiet (fail)
            go_wp2
            exact ⟨⟨1, by omega, by go_num, by rw [show sumJ L 1 = _ from HSm.out], by show Below _ _ _; have h7 := hb.out.alloc hb.out.size (.cells #[.int .i64 E, .int .i64 D, .int .i64 A] 53); exact h7.trans ((below_drewN _ _).mono h7.size)⟩, by simp [intOf]; omega⟩
          · obtain ⟨p, rfl⟩ : ∃ p, j = p + 1 := ⟨j - 1, by omega⟩
            obtain ⟨g', e', z0, z1, z2⟩ := HB5.out.2.2 p (by omega)
            injection e' with e'
            injection e' with e'
            subst e'
            have u0 := cell_later hb.out z0
            have u1 := cell_later hb.out z1
            have hor := HF'.out.1.or p hlt
            clear y0 y1 y2 z0 z1 z2
            have hga := ((Grew.refl wr).alloc (.cells #[.int .i64 (atJ L (p + 1)).1, .int .i64 (atJ L (p + 1)).2.1, .int .i64 (atJ L (p + 1)).2.2] 53))
            have v0 := hga.cell' u0
            have v1 := hga.cell' u1
            have hp1 : ((p + 1 : Nat) : Int) - 1 = (p : Int) := by omega
            have hp2 : (p : Int) < (L.length : Int) := by omega
            have hp3 : (0 : Int) ≤ (p : Int) := by omega
            have hp4 : ((p + 1 : Nat) : Int) > 0 := by omega
            clear hga u0 u1
            generalize (atJ L (p + 1)).1 = E at *
            generalize (atJ L (p + 1)).2.1 = D at *
            generalize (atJ L (p + 1)).2.2 = A at *
            generalize (atJ L p).1 = E' at *
            generalize (atJ L p).2.1 = D' at *
            generalize hjj : p + 1 = jj at *
            obtain hor | ⟨rfl, hor⟩ := hor
            · have o1 : ¬ D' > D := by omega
              have o2 : ¬ D' = D := by omega
              have o3 : (D' == D) = false := by simp; omega
              have o4 : decide (D' > D) = false := by simp; omega
              have o5 : decide (D' = D) = false := by simp; omega
              go_wp2
              go_quiet (fail)
              go_wp2
              exact ⟨⟨jj + 1, by omega, by go_num, by rw [HSm.out], by show Below _ _ _; have h7 := hb.out.alloc hb.out.size (.cells #[.int .i64 E, .int .i64 D, .int .i64 A] 53); exact h7.trans ((below_drewN _ _).mono h7.size)⟩, by simp [intOf]; omega⟩
            · have o1 : ¬ E' ≥ E := by omega
              go_wp2
              go_quiet (fail)
              go_wp2
              exact ⟨⟨jj + 1, by omega, by go_num, by rw [HSm.out], by show Below _ _ _; have h7 := hb.out.alloc hb.out.size (.cells #[.int .i64 E, .int .i64 D', .int .i64 A] 53); exact h7.trans ((below_drewN _ _).mono h7.size)⟩, by simp [intOf]; omega⟩
        · have hlt' : ¬ (j : Int) < (L.length : Int) := by omega
          obtain rfl : j = L.length := by omega
          have hsum := HF'.out.2.2 (by omega)
          rw [hsum]
          have HBr : Hid (RB (fun b => w.heap.size ≤ b) wr R B s.ne s.lk s ∧ Below w.heap.size w wr ∧ ∀ j, j < L.length → ∃ g, lad = some ⟨g, 0, none⟩ ∧ wr.cell? ⟨g, j * 3, none⟩ = some (.int .i64 (atJ L j).1) ∧ wr.cell? ⟨g, j * 3 + 1, none⟩ = some (.int .i64 (atJ L j).2.1) ∧ wr.cell? ⟨g, j * 3 + 2, none⟩ = some (.int .i64 (atJ L j).2.2)) := by
            obtain ⟨q1, q2, q3⟩ := HB5.out
            refine ⟨q1.mv hb.out, q2.trans (hb.out.mono q2.size), fun j hj => ?_⟩
            obtain ⟨g, e1, x0, x1, x2⟩ := q3 j hj
            exact ⟨g, e1, cell_later hb.out x0, cell_later hb.out x1, cell_later hb.out x2⟩
          have rBr := HBr.out.1.c0
          clear HB5 rB5 hb hsum
          go_wp2_with fail
          with_reducible refine Calls.mono (CJ.out _ R B HBr.out.1) ?_
          rintro e w6 ⟨lad2, lc2, rfl, h6⟩
          have HB6 : Hid (Below w.heap.size w w6 ∧ (∀ j, j < L.length → ∃ g, lad = some ⟨g, 0, none⟩ ∧ w6.cell? ⟨g, j * 3, none⟩ = some (.int .i64 (atJ L j).1) ∧ w6.cell? ⟨g, j * 3 + 1, none⟩ = some (.int .i64 (atJ L j).2.1) ∧ w6.cell? ⟨g, j * 3 + 2, none⟩ = some (.int .i64 (atJ L j).2.2)) ∧ (∀ j, j < L2.length → ∃ g, lad2 = some ⟨g, 0, none⟩ ∧ w6.cell? ⟨g, j * 3, none⟩ = some (.int .i64 (atJ L2 j).1) ∧ w6.cell? ⟨g, j * 3 + 1, none⟩ = some (.int .i64 (atJ L2 j).2.1) ∧ w6.cell? ⟨g, j * 3 + 2, none⟩ = some (.int .i64 (atJ L2 j).2.2))) := by
            obtain ⟨q1, q2, q3⟩ := h6.out
            refine ⟨HBr.out.2.1.trans (q3.mono HBr.out.2.1.size), fun j hj => ?_, q1⟩
            obtain ⟨g, e1, x0, x1, x2⟩ := HBr.out.2.2 j hj
            exact ⟨g, e1, cell_later q3 x0, cell_later q3 x1, cell_later q3 x2⟩
          clear h6 HBr rBr CJ
          have hL2 := HF'.out.2.1
          have hL2n : L2.length ≤ L.length := by rw [hL2]; exact List.length_filter_le _ _
          have HF2 : Hid (type_of% hL2) := hL2
          clear hL2
          go_wp2_with fail
          go_loopw [28, 29] (fun s28 s29 wq => ∃ j q : Nat, j ≤ L.length ∧ s29 = .int .i64 j ∧ s28 = .int .i64 (fewJ L m j : Nat) ∧ wq = w6.drewN q) (fun _ s29 _ => L.length - (intOf s29).toNat)
          case atStart => exact ⟨0, 0, by omega, rfl, rfl, rfl⟩
          case round =>
            obtain ⟨j, q, hjL, rfl, rfl, rfl⟩ := hrel
            by_cases hlt : j < L.length
            · have hlt' : (j : Int) < (L.length : Int) := by omega
              have hj0 : (0 : Int) ≤ (j : Int) := by omega
              obtain ⟨g, rfl, x0, x1, x2⟩ := HB6.out.2.1 j hlt
              by_cases hle : (atJ L j).1 ≤ m
              · have hle' : ¬ (atJ L j).1 > m := by omega
                obtain ⟨f1, f2, f3⟩ := fewJ_take hlt hle
                rw [← HF2.out] at f2 f3
                obtain ⟨g2, rfl, z0, z1, z2⟩ := HB6.out.2.2 _ f2
                rw [f3] at z0 z1 z2
                have f2' : ((fewJ L m j : Nat) : Int) < (L2.length : Int) := by omega
                have f0' : (0 : Int) ≤ ((fewJ L m j : Nat) : Int) := by omega
                have HF1 : Hid (type_of% f1) := f1
                have hfl : fewJ L m j ≤ 60 := by omega
                clear f1 f3 HB6
                generalize (atJ L j).1 = E at *
                generalize (atJ L j).2.1 = D at *
                generalize (atJ L j).2.2 = A at *
                generalize fewJ L m j = at' at *
                go_wp2
                go_quiet (fail)
                go_wp2
                exact ⟨⟨j + 1, q + nq, by omega, by go_num, by rw [HF1.out]; go_num, rfl⟩, by simp [intOf]; omega⟩
              · have hle' : (atJ L j).1 > m := by omega
                have HF1 : Hid _ := fewJ_skip hlt hle
                clear HB6
                generalize (atJ L j).1 = E at *
                go_wp2
                exact ⟨⟨j + 1, q, by omega, by go_num, by rw [HF1.out], rfl⟩, by simp [intOf]; omega⟩
            · have hlt' : ¬ (j : Int) < (L.length : Int) := by omega
              obtain rfl : j = L.length := by omega
              have hfa : fewJ L m L.length = L2.length := by rw [fewJ_all, HF2.out]
              rw [hfa]
              clear hfa
              go_wp2
              go_ret
              exact ⟨rfl, HB6.out.1.trans ((below_drewN w6 q).mono HB6.out.1.size)⟩
end Go.Proofs.YtjnmoddcodnadaaGreat
namespace Go.Proofs.YtjnmoddcodnadaaGreat
open Go.RowKit Go.Annal Go.Sort
set_option maxHeartbeats 4000000 in
set_option maxRecDepth 100000 in
theorem counted_p (ad : Option Addr) (n cap : Nat) (qs : Nat → K5) (which from' to' known : Int) (w : World) (hS : StepsV w ad n qs) (a1 : -9223372036854775808 ≤ which) (a2 : which ≤ 9223372036854775807) (b1 : -9223372036854775808 ≤ from') (b2 : from' ≤ 9223372036854775807) (c1 : -9223372036854775808 ≤ to') (c2 : to' ≤ 9223372036854775807) (d1 : -9223372036854775808 ≤ known) (d2 : known ≤ 9223372036854775807) (hF0 : 0 < pickI from' 12) :
    Calls Tryz.prog 5 #[.slice ad n cap, .int .i64 which, .int .i64 from', .int .i64 to', .int .i64 known] w fun r w' => r = .returned (.bool true) ∧ Below w.heap.size w w' := by
  have CC : Hid (∀ W, Below w.heap.size w W → _) := fun W hW => changed_at w W hW
  have CR : Hid (∀ W, Below w.heap.size w W → _) := fun W hW => run_rb w W ad n cap qs hS hW
  have CN : Hid (∀ W, _) := fun W => namesK_any W
  obtain ⟨hk, hne⟩ := run_small qs n
  obtain ⟨s, hs⟩ : ∃ s, krun qs (lim n 40) = s := ⟨_, rfl⟩
  rw [hs] at hk hne CR
  clear hs hS
  have hne' : (s.ne : Int) ≤ 40 := by omega
  have hin := pickI_bd which 6 (by decide)
  obtain ⟨i, hii⟩ : ∃ i : Nat, pickI which 6 = i := ⟨(pickI which 6).toNat, by omega⟩
  rw [hii] at hin
  have P0 : Hid (∀ W, Calls Tryz.prog 10 #[.int .i64 which, .int .i64 6] W fun r w' => r = .returned (.int .i64 i) ∧ w' = W) := fun W => by
    have := pickK_any which 6 W a1 a2 (by decide) (by decide)
    rw [hii] at this; exact this
  have hfn := pickI_bd from' 12 (by decide)
  obtain ⟨f, hff⟩ : ∃ f, pickI from' 12 = f := ⟨_, rfl⟩
  rw [hff] at hfn hF0
  have P1 : Hid (∀ W, Calls Tryz.prog 10 #[.int .i64 from', .int .i64 12] W fun r w' => r = .returned (.int .i64 f) ∧ w' = W) := fun W => by
    have := pickK_any from' 12 W b1 b2 (by decide) (by decide)
    rw [hff] at this; exact this
  have htn := pickI_bd to' 12 (by decide)
  obtain ⟨t, htt⟩ : ∃ t, pickI to' 12 = t := ⟨_, rfl⟩
  rw [htt] at htn
  have P2 : Hid (∀ W, Calls Tryz.prog 10 #[.int .i64 to', .int .i64 12] W fun r w' => r = .returned (.int .i64 t) ∧ w' = W) := fun W => by
    have := pickK_any to' 12 W c1 c2 (by decide) (by decide)
    rw [htt] at this; exact this
  have hkn := pickI_bd known ((s.ne : Int) + 1) (by omega)
  obtain ⟨k, hkk⟩ : ∃ k, pickI known ((s.ne : Int) + 1) = k := ⟨_, rfl⟩
  rw [hkk] at hkn
  have P3 : Hid (∀ W, Calls Tryz.prog 10 #[.int .i64 known, .int .i64 ((s.ne : Int) + 1)] W fun r w' => r = .returned (.int .i64 k) ∧ w' = W) := fun W => by
    have := pickK_any known ((s.ne : Int) + 1) W d1 d2 (by omega) (by omega)
    rw [hkk] at this; exact this
  clear hkk htt hff hii
  have hwr : IntKind.i64.wrap ((s.ne : Int) + 1) = (s.ne : Int) + 1 := wrap_id _ (by omega) (by omega)
  obtain ⟨m, hm⟩ : ∃ m, k.tdiv 2 = m := ⟨_, rfl⟩
  have hmb : 0 ≤ m ∧ m ≤ k := by
    rw [← hm, Int.tdiv_eq_ediv_of_nonneg hkn.1]; omega
  obtain ⟨L, hL⟩ : ∃ L, enI s.dy s.la s.lm (nmK i) f t s.ln k.toNat = L := ⟨_, rfl⟩
  obtain ⟨L2, hL2⟩ : ∃ L2, enI s.dy s.la s.lm (nmK i) f t s.ln m.toNat = L2 := ⟨_, rfl⟩
  obtain ⟨hi, hhi⟩ : ∃ hi, enS s.dy s.la s.lm (nmK i) t s.ln k.toNat = hi := ⟨_, rfl⟩
  obtain ⟨lo, hlo⟩ : ∃ lo, enS s.dy s.la s.lm (nmK i) (f - 1) s.ln k.toNat = lo := ⟨_, rfl⟩
  have HF := hk.counted (i := i) (f := f) (t := t) hkn.1 (show k ≤ s.ne by omega) hmb.1 hmb.2 hL hL2 hhi hlo
  have hhb := hk.bal_in (nmK i) t (n := k.toNat) (by omega)
  have hlb := hk.bal_in (nmK i) (f - 1) (n := k.toNat) (by omega)
  rw [hhi] at hhb
  rw [hlo] at hlb
  have hf0 : f = 0 → lo = 0 := fun e => by rw [← hlo, e]; exact hk.low (nmK i) (by omega)
  have CI : Hid (∀ W R B, RB (fun b => w.heap.size ≤ b) W R B s.ne s.lk s → Calls Tryz.prog 17 #[.pointer (some ⟨B, 0, none⟩), .string (nmK i), .int .i64 f, .int .i64 t, .int .i64 k] W fun r w' => ∃ lad lc, r = .returned (.tuple #[.slice lad L.length lc, .int .i64 0]) ∧ Hid ((∀ j, j < L.length → ∃ g, lad = some ⟨g, 0, none⟩ ∧ w'.cell? ⟨g, j * 3, none⟩ = some (.int .i64 (atJ L j).1) ∧ w'.cell? ⟨g, j * 3 + 1, none⟩ = some (.int .i64 (atJ L j).2.1) ∧ w'.cell? ⟨g, j * 3 + 2, none⟩ = some (.int .i64 (atJ L j).2.2)) ∧ RB (fun b => w.heap.size ≤ b) w' R B s.ne s.lk s ∧ Below W.heap.size W w')) := fun W R B h => by
    have hit := hk.items hfn.1 (by omega) htn.1 (by omega) hkn.1 (show k ≤ s.ne by omega) (show i < 6 by omega)
    rw [hL] at hit
    refine (rb_items h hk.ok (nmK i) f t k).mono ?_
    rintro r w' ⟨v, rfl, ho, hb⟩
    rw [hit.2] at ho
    obtain ⟨lad, lc, rfl, hl⟩ := items_out ho
    exact ⟨lad, lc, by rw [hit.1], hl, h.mv hb, hb⟩
  have CJ : Hid (∀ W R B, RB (fun b => w.heap.size ≤ b) W R B s.ne s.lk s → Calls Tryz.prog 17 #[.pointer (some ⟨B, 0, none⟩), .string (nmK i), .int .i64 f, .int .i64 t, .int .i64 m] W fun r w' => ∃ lad lc, r = .returned (.tuple #[.slice lad L2.length lc, .int .i64 0]) ∧ Hid ((∀ j, j < L2.length → ∃ g, lad = some ⟨g, 0, none⟩ ∧ w'.cell? ⟨g, j * 3, none⟩ = some (.int .i64 (atJ L2 j).1) ∧ w'.cell? ⟨g, j * 3 + 1, none⟩ = some (.int .i64 (atJ L2 j).2.1) ∧ w'.cell? ⟨g, j * 3 + 2, none⟩ = some (.int .i64 (atJ L2 j).2.2)) ∧ RB (fun b => w.heap.size ≤ b) w' R B s.ne s.lk s ∧ Below W.heap.size W w')) := fun W R B h => by
    have hit := hk.items hfn.1 (by omega) htn.1 (by omega) hmb.1 (show m ≤ s.ne by omega) (show i < 6 by omega)
    rw [hL2] at hit
    refine (rb_items h hk.ok (nmK i) f t m).mono ?_
    rintro r w' ⟨v, rfl, ho, hb⟩
    rw [hit.2] at ho
    obtain ⟨lad, lc, rfl, hl⟩ := items_out ho
    exact ⟨lad, lc, by rw [hit.1], hl, h.mv hb, hb⟩
  have CB1 : Hid (∀ W R B, RB (fun b => w.heap.size ≤ b) W R B s.ne s.lk s → Calls Tryz.prog 16 #[.pointer (some ⟨B, 0, none⟩), .string (nmK i), .int .i64 t, .int .i64 k] W fun r w' => r = .returned (.tuple #[.int .i64 hi, .int .i64 0]) ∧ Below W.heap.size W w') := fun W R B h => by
    have := hk.asks htn.1 (by omega) hkn.1 (show k ≤ s.ne by omega) (show i < 6 by omega)
    have h2 := rb_bal h hk.ok (nmK i) t k
    rw [this.1, this.2, hhi] at h2
    exact h2
  have CB2 : Hid (0 < f → ∀ W R B, RB (fun b => w.heap.size ≤ b) W R B s.ne s.lk s → Calls Tryz.prog 16 #[.pointer (some ⟨B, 0, none⟩), .string (nmK i), .int .i64 (f - 1), .int .i64 k] W fun r w' => r = .returned (.tuple #[.int .i64 lo, .int .i64 0]) ∧ Below W.heap.size W w') := fun hf W R B h => by
    have := hk.asks (d := f - 1) (by omega) (by omega) hkn.1 (show k ≤ s.ne by omega) (show i < 6 by omega)
    have h2 := rb_bal h hk.ok (nmK i) (f - 1) k
    rw [this.1, this.2, hlo] at h2
    exact h2
  have cellN : ∀ {Wx w2 : World}, w2 = Wx.alloc (.cells nmCells 9) → w2.cell? ⟨Wx.heap.size, i, none⟩ = some (.string (nmK i)) := fun {Wx w2} e => by
    rw [e]; exact blk_cell' (heap_alloc_new Wx _) (nmCells_get i (by omega))
  have HF' : Hid (type_of% HF) := HF
  have hi0 : (0 : Int) ≤ (i : Int) := by omega
  have hi6 : (i : Int) < 6 := by omega
  clear hk HF hL hL2 hhi hlo
  go_enter Tryz.func5, Tryz.ntmps5
  go_wp2_with (first
    | (go_at_call 8; with_reducible refine Calls.mono (CC.out _ ?_) ?_; (exact Below.refl _ _); rintro e w1 ⟨rfl, hb1⟩)
    | (go_at_call 9; with_reducible refine Calls.mono (CR.out _ hb1) ?_; rintro e w2 ⟨R, B, rfl, rB, rN, rL, h2⟩))
  with_reducible refine Calls.mono (CN.out _) ?_
  rintro e w3 ⟨rfl, hw3⟩
  have cN := cellN hw3
  have hg3 : Grew w2 w3 := by rw [hw3]; exact (Grew.refl w2).alloc _
  have HB3 : Hid (RB (fun b => w.heap.size ≤ b) w3 R B s.ne s.lk s ∧ Below w.heap.size w w3) := ⟨h2.out.1.mv hg3.below, h2.out.2.trans (hg3.below.mono h2.out.2.size)⟩
  have rB3 := HB3.out.1.c0
  have rN3 := HB3.out.1.c1
  clear hw3 hg3 h2 rB rN rL CC CR CN cellN hb1
  go_wp2_with (first
    | (go_at_call 10; with_reducible refine Calls.mono (P0.out _) ?_; rintro e wx ⟨rfl, hw⟩; rw [hw]; clear hw wx)
    | (go_at_call 10; with_reducible refine Calls.mono (P1.out _) ?_; rintro e wx ⟨rfl, hw⟩; rw [hw]; clear hw wx)
    | (go_at_call 10; with_reducible refine Calls.mono (P2.out _) ?_; rintro e wx ⟨rfl, hw⟩; rw [hw]; clear hw wx)
    | (go_at_call 10; with_reducible refine Calls.mono (P3.out _) ?_; rintro e wx ⟨rfl, hw⟩; rw [hw]; clear hw wx))
  with_reducible refine Calls.mono (CI.out _ R B HB3.out.1) ?_
  rintro e w4 ⟨lad, lc, rfl, h4⟩
  have rB4 := h4.out.2.1.c0
  clear P0 P1 P2 P3 rB3 rN3 CI
  go_wp2_with fail
  with_reducible refine Calls.mono (CB1.out _ R B h4.out.2.1) ?_
  rintro e w5 ⟨rfl, hb5⟩
  have HB5 : Hid (RB (fun b => w.heap.size ≤ b) w5 R B s.ne s.lk s ∧ Below w.heap.size w w5 ∧ ∀ j, j < L.length → ∃ g, lad = some ⟨g, 0, none⟩ ∧ w5.cell? ⟨g, j * 3, none⟩ = some (.int .i64 (atJ L j).1) ∧ w5.cell? ⟨g, j * 3 + 1, none⟩ = some (.int .i64 (atJ L j).2.1) ∧ w5.cell? ⟨g, j * 3 + 2, none⟩ = some (.int .i64 (atJ L j).2.2)) := by
    obtain ⟨q1, q2, q3⟩ := h4.out
    have h34 := HB3.out.2.trans (q3.mono HB3.out.2.size)
    refine ⟨q2.mv hb5, h34.trans (hb5.mono h34.size), fun j hj => ?_⟩
    obtain ⟨g, e1, x0, x1, x2⟩ := q1 j hj
    exact ⟨g, e1, cell_later hb5 x0, cell_later hb5 x1, cell_later hb5 x2⟩
  have rB5 := HB5.out.1.c0
  clear rB4 h4 hb5 HB3 CB1 cN
  · have hf1 : IntKind.i64.wrap (f - 1) = f - 1 := wrap_id _ (by omega) (by omega)
    have hfg : f > 0 := hF0
    go_wp2_with fail
    with_reducible refine Calls.mono (CB2.out hF0 _ R B HB5.out.1) ?_
    rintro e wx5 ⟨rfl, hb6⟩
    have HBX : Hid (RB (fun b => w.heap.size ≤ b) wx5 R B s.ne s.lk s ∧ Below w.heap.size w wx5 ∧ ∀ j, j < L.length → ∃ g, lad = some ⟨g, 0, none⟩ ∧ wx5.cell? ⟨g, j * 3, none⟩ = some (.int .i64 (atJ L j).1) ∧ wx5.cell? ⟨g, j * 3 + 1, none⟩ = some (.int .i64 (atJ L j).2.1) ∧ wx5.cell? ⟨g, j * 3 + 2, none⟩ = some (.int .i64 (atJ L j).2.2)) := by
      obtain ⟨q1, q2, q3⟩ := HB5.out
      refine ⟨q1.mv hb6, q2.trans (hb6.mono q2.size), fun j hj => ?_⟩
      obtain ⟨g, e1, x0, x1, x2⟩ := q3 j hj
      exact ⟨g, e1, cell_later hb6 x0, cell_later hb6 x1, cell_later hb6 x2⟩
    have rBx := HBX.out.1.c0
    clear rB5 HB5 hb6 CB2 hf1
    by_cases hft : t < f
    · have hft' : f > t := by omega
      have h0 := HF'.out.1.none hft
      have h0' : (L.length : Int) = 0 := by omega
      go_wp2
      go_ret
      exact ⟨rfl, HBX.out.2.1⟩
    · have hft' : ¬ f > t := by omega
      go_wp2_with fail
      go_loopw [23, 24, 25] (fun s23 s24 _ wr => ∃ j : Nat, j ≤ L.length ∧ s24 = .int .i64 j ∧ s23 = .int .i64 (sumJ L j) ∧ Hid (Below wx5.heap.size wx5 wr)) (fun _ s24 _ _ => L.length - (intOf s24).toNat)
      case atStart => exact ⟨0, by omega, rfl, rfl, Below.refl _ _⟩
      case round =>
        obtain ⟨j, hjL, rfl, rfl, hb⟩ := hrel
        have hLn := HF'.out.1.len
        by_cases hlt : j < L.length
        · have hlt' : (j : Int) < (L.length : Int) := by omega
          have hj0 : (0 : Int) ≤ (j : Int) := by omega
          obtain ⟨g, rfl, y0, y1, y2⟩ := HBX.out.2.2 j hlt
          have x0 := cell_later hb.out y0
          have x1 := cell_later hb.out y1
          have x2 := cell_later hb.out y2
          have n1 := HF'.out.1.nz j hlt
          have n2 := HF'.out.1.lo j hlt
          have n3 := HF'.out.1.hi j hlt
          have n4 := HF'.out.1.n1 j hlt
          have n5 := HF'.out.1.nk j hlt
          have hs0 := HF'.out.1.sum (j + 1) (by omega)
          have HSm : Hid (sumJ L (j + 1) = sumJ L j + (atJ L j).2.2) := rfl
          rw [HSm.out] at hs0
          have n2' : ¬ (atJ L j).2.1 < f := by omega
          have n3' : ¬ (atJ L j).2.1 > t := by omega
          have n4' : ¬ (atJ L j).1 < 1 := by omega
          have n5' : ¬ (atJ L j).1 > k := by omega
          rcases Nat.eq_zero_or_pos j with hz | hz
          · subst hz
            clear y0 y1 y2
            generalize (atJ L 0).1 = E at *
            generalize (atJ L 0).2.1 = D at *
            generalize (atJ L 0).2.2 = A at *
            go_wp2
            go_quiet (fail)
            go_wp2
            exact ⟨⟨1, by omega, by go_num, by rw [show sumJ L 1 = _ from HSm.out], by show Below _ _ _; have h7 := hb.out.alloc hb.out.size (.cells #[.int .i64 E, .int .i64 D, .int .i64 A] 53); exact h7.trans ((below_drewN _ _).mono h7.size)⟩, by simp [intOf]; omega⟩
          · obtain ⟨p, rfl⟩ : ∃ p, j = p + 1 := ⟨j - 1, by omega⟩
            obtain ⟨g', e', z0, z1, z2⟩ := HBX.out.2.2 p (by omega)
            injection e' with e'
            injection e' with e'
            subst e'
            have u0 := cell_later hb.out z0
            have u1 := cell_later hb.out z1
            have hor := HF'.out.1.or p hlt
            clear y0 y1 y2 z0 z1 z2
            have hga := ((Grew.refl wr).alloc (.cells #[.int .i64 (atJ L (p + 1)).1, .int .i64 (atJ L (p + 1)).2.1, .int .i64 (atJ L (p + 1)).2.2] 53))
            have v0 := hga.cell' u0
            have v1 := hga.cell' u1
            have hp1 : ((p + 1 : Nat) : Int) - 1 = (p : Int) := by omega
            have hp2 : (p : Int) < (L.length : Int) := by omega
            have hp3 : (0 : Int) ≤ (p : Int) := by omega
            have hp4 : ((p + 1 : Nat) : Int) > 0 := by omega
            clear hga u0 u1
            generalize (atJ L (p + 1)).1 = E at *
            generalize (atJ L (p + 1)).2.1 = D at *
            generalize (atJ L (p + 1)).2.2 = A at *
            generalize (atJ L p).1 = E' at *
            generalize (atJ L p).2.1 = D' at *
            generalize hjj : p + 1 = jj at *
            obtain hor | ⟨rfl, hor⟩ := hor
            · have o1 : ¬ D' > D := by omega
              have o2 : ¬ D' = D := by omega
              have o3 : (D' == D) = false := by simp; omega
              have o4 : decide (D' > D) = false := by simp; omega
              have o5 : decide (D' = D) = false := by simp; omega
              go_wp2
              go_quiet (fail)
              go_wp2
              exact ⟨⟨jj + 1, by omega, by go_num, by rw [HSm.out], by show Below _ _ _; have h7 := hb.out.alloc hb.out.size (.cells #[.int .i64 E, .int .i64 D, .int .i64 A] 53); exact h7.trans ((below_drewN _ _).mono h7.size)⟩, by simp [intOf]; omega⟩
            · have o1 : ¬ E' ≥ E := by omega
              go_wp2
              go_quiet (fail)
              go_wp2
              exact ⟨⟨jj + 1, by omega, by go_num, by rw [HSm.out], by show Below _ _ _; have h7 := hb.out.alloc hb.out.size (.cells #[.int .i64 E, .int .i64 D', .int .i64 A] 53); exact h7.trans ((below_drewN _ _).mono h7.size)⟩, by simp [intOf]; omega⟩
        · have hlt' : ¬ (j : Int) < (L.length : Int) := by omega
          obtain rfl : j = L.length := by omega
          have hsum := HF'.out.2.2 (by omega)
          rw [hsum]
          have HBr : Hid (RB (fun b => w.heap.size ≤ b) wr R B s.ne s.lk s ∧ Below w.heap.size w wr ∧ ∀ j, j < L.length → ∃ g, lad = some ⟨g, 0, none⟩ ∧ wr.cell? ⟨g, j * 3, none⟩ = some (.int .i64 (atJ L j).1) ∧ wr.cell? ⟨g, j * 3 + 1, none⟩ = some (.int .i64 (atJ L j).2.1) ∧ wr.cell? ⟨g, j * 3 + 2, none⟩ = some (.int .i64 (atJ L j).2.2)) := by
            obtain ⟨q1, q2, q3⟩ := HBX.out
            refine ⟨q1.mv hb.out, q2.trans (hb.out.mono q2.size), fun j hj => ?_⟩
            obtain ⟨g, e1, x0, x1, x2⟩ := q3 j hj
            exact ⟨g, e1, cell_later hb.out x0, cell_later hb.out x1, cell_later hb.out x2⟩
          have rBr := HBr.out.1.c0
          clear HBX rBx hb hsum
          go_wp2_with fail
          with_reducible refine Calls.mono (CJ.out _ R B HBr.out.1) ?_
          rintro e w6 ⟨lad2, lc2, rfl, h6⟩
          have HB6 : Hid (Below w.heap.size w w6 ∧ (∀ j, j < L.length → ∃ g, lad = some ⟨g, 0, none⟩ ∧ w6.cell? ⟨g, j * 3, none⟩ = some (.int .i64 (atJ L j).1) ∧ w6.cell? ⟨g, j * 3 + 1, none⟩ = some (.int .i64 (atJ L j).2.1) ∧ w6.cell? ⟨g, j * 3 + 2, none⟩ = some (.int .i64 (atJ L j).2.2)) ∧ (∀ j, j < L2.length → ∃ g, lad2 = some ⟨g, 0, none⟩ ∧ w6.cell? ⟨g, j * 3, none⟩ = some (.int .i64 (atJ L2 j).1) ∧ w6.cell? ⟨g, j * 3 + 1, none⟩ = some (.int .i64 (atJ L2 j).2.1) ∧ w6.cell? ⟨g, j * 3 + 2, none⟩ = some (.int .i64 (atJ L2 j).2.2))) := by
            obtain ⟨q1, q2, q3⟩ := h6.out
            refine ⟨HBr.out.2.1.trans (q3.mono HBr.out.2.1.size), fun j hj => ?_, q1⟩
            obtain ⟨g, e1, x0, x1, x2⟩ := HBr.out.2.2 j hj
            exact ⟨g, e1, cell_later q3 x0, cell_later q3 x1, cell_later q3 x2⟩
          clear h6 HBr rBr CJ
          have hL2 := HF'.out.2.1
          have hL2n : L2.length ≤ L.length := by rw [hL2]; exact List.length_filter_le _ _
          have HF2 : Hid (type_of% hL2) := hL2
          clear hL2
          go_wp2_with fail
          go_loopw [28, 29] (fun s28 s29 wq => ∃ j q : Nat, j ≤ L.length ∧ s29 = .int .i64 j ∧ s28 = .int .i64 (fewJ L m j : Nat) ∧ wq = w6.drewN q) (fun _ s29 _ => L.length - (intOf s29).toNat)
          case atStart => exact ⟨0, 0, by omega, rfl, rfl, rfl⟩
          case round =>
            obtain ⟨j, q, hjL, rfl, rfl, rfl⟩ := hrel
            by_cases hlt : j < L.length
            · have hlt' : (j : Int) < (L.length : Int) := by omega
              have hj0 : (0 : Int) ≤ (j : Int) := by omega
              obtain ⟨g, rfl, x0, x1, x2⟩ := HB6.out.2.1 j hlt
              by_cases hle : (atJ L j).1 ≤ m
              · have hle' : ¬ (atJ L j).1 > m := by omega
                obtain ⟨f1, f2, f3⟩ := fewJ_take hlt hle
                rw [← HF2.out] at f2 f3
                obtain ⟨g2, rfl, z0, z1, z2⟩ := HB6.out.2.2 _ f2
                rw [f3] at z0 z1 z2
                have f2' : ((fewJ L m j : Nat) : Int) < (L2.length : Int) := by omega
                have f0' : (0 : Int) ≤ ((fewJ L m j : Nat) : Int) := by omega
                have HF1 : Hid (type_of% f1) := f1
                have hfl : fewJ L m j ≤ 60 := by omega
                clear f1 f3 HB6
                generalize (atJ L j).1 = E at *
                generalize (atJ L j).2.1 = D at *
                generalize (atJ L j).2.2 = A at *
                generalize fewJ L m j = at' at *
                go_wp2
                go_quiet (fail)
                go_wp2
                exact ⟨⟨j + 1, q + nq, by omega, by go_num, by rw [HF1.out]; go_num, rfl⟩, by simp [intOf]; omega⟩
              · have hle' : (atJ L j).1 > m := by omega
                have HF1 : Hid _ := fewJ_skip hlt hle
                clear HB6
                generalize (atJ L j).1 = E at *
                go_wp2
                exact ⟨⟨j + 1, q, by omega, by go_num, by rw [HF1.out], rfl⟩, by simp [intOf]; omega⟩
            · have hlt' : ¬ (j : Int) < (L.length : Int) := by omega
              obtain rfl : j = L.length := by omega
              have hfa : fewJ L m L.length = L2.length := by rw [fewJ_all, HF2.out]
              rw [hfa]
              clear hfa
              go_wp2
              go_ret
              exact ⟨rfl, HB6.out.1.trans ((below_drewN w6 q).mono HB6.out.1.size)⟩
end Go.Proofs.YtjnmoddcodnadaaGreat
