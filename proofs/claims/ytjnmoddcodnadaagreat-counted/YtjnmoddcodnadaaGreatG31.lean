import Derived.Test.YtjnmoddcodnadaaGreatG30
set_option linter.unusedVariables false
set_option linter.unusedSimpArgs false
namespace Go.Proofs.YtjnmoddcodnadaaGreat
open Go.RowKit Go.Annal Go.Sort
theorem changed_at (w W : World) (h : Below w.heap.size w W) : Calls Tryz.prog 8 #[] W fun r w' => r = .returned (.bool true) ∧ Below w.heap.size w w' :=
  (changed_any W).mono fun _ _ ⟨hr, hb⟩ => ⟨hr, h.trans (hb.mono h.size)⟩
/-- A run behind steps that came in, and what it has. -/
theorem run_at (w0 w : World) (ad : Option Addr) (n cap : Nat) (qs : Nat → K5) (hS : StepsV w0 ad n qs) (h0 : Below w0.heap.size w0 w) :
    Calls Tryz.prog 9 #[.slice ad n cap] w fun r w' => ∃ R, r = .returned (.pointer (some ⟨R, 0, none⟩)) ∧ Hid (RunAt (fun b => w0.heap.size ≤ b) w' R (krun qs (lim n 40)) ∧ Below w0.heap.size w0 w') := by
  refine (run_any ad n cap qs w (hS.mv h0)).mono ?_
  rintro r w' ⟨R, rfl, hr⟩
  obtain ⟨⟨B, Fp, h1, h2, h3⟩, hb⟩ := hr.out
  exact ⟨R, rfl, ⟨B, Fp, h1, Nat.le_trans h0.size h2, fun b hb => Nat.le_trans h0.size (h3 b hb)⟩, h0.trans (hb.mono h0.size)⟩
theorem RunAt.n {S : Nat → Prop} {w : World} {R : Nat} {s : St} (h : RunAt S w R s) : w.cell? ⟨R, 1, none⟩ = some (.int .i64 s.ne) := by
  obtain ⟨B, Fp, h1, h2, h3⟩ := h
  exact blk_cell' h1.rn rfl
theorem RunAt.l {S : Nat → Prop} {w : World} {R : Nat} {s : St} (h : RunAt S w R s) : w.cell? ⟨R, 2, none⟩ = some (.int .i64 s.lk) := by
  obtain ⟨B, Fp, h1, h2, h3⟩ := h
  exact blk_cell' h1.rn rfl
theorem run_small (qs : Nat → K5) (n : Nat) : KOk (krun qs (lim n 40)) ∧ (krun qs (lim n 40)).ne ≤ 40 := by
  obtain ⟨h1, h2⟩ := krun_ok qs (lim n 40)
  exact ⟨h1, Nat.le_trans h2 (lim_le n 40).2⟩
set_option maxHeartbeats 4000000 in
set_option maxRecDepth 100000 in
theorem stays_walk (ad : Option Addr) (n cap : Nat) (qs : Nat → K5) (ad' : Option Addr) (n' cap' : Nat) (ms : Nat → K5) (known : Int) (w : World) (hS : StepsV w ad n qs) (hM : StepsV w ad' n' ms) (k1 : -9223372036854775808 ≤ known) (k2 : known ≤ 9223372036854775807) :
    Calls Tryz.prog 3 #[.slice ad n cap, .slice ad' n' cap', .int .i64 known] w fun r w' => r = .returned (.bool true) ∧ Below w.heap.size w w' := by
  have CC : Hid (∀ W, Below w.heap.size w W → _) := fun W hW => changed_at w W hW
  have CR : Hid (∀ W, Below w.heap.size w W → _) := fun W hW => run_at w W ad n cap qs hS hW
  obtain ⟨hk, hne⟩ := run_small qs n
  obtain ⟨s, hs⟩ : ∃ s, krun qs (lim n 40) = s := ⟨_, rfl⟩
  rw [hs] at hk hne CR
  have HM : Hid (type_of% hM) := hM
  have HK : Hid (type_of% hk) := hk
  clear hs hS hM hk
  have hne' : (s.ne : Int) ≤ 40 := by omega
  have hkn := pickI_bd known ((s.ne : Int) + 1) (by omega)
  obtain ⟨k, hkk⟩ : ∃ k, pickI known ((s.ne : Int) + 1) = k := ⟨_, rfl⟩
  rw [hkk] at hkn
  have CP : Hid (∀ W, Calls Tryz.prog 10 #[.int .i64 known, .int .i64 ((s.ne : Int) + 1)] W fun r w' => r = .returned (.int .i64 k) ∧ w' = W) := fun W => by
    have := pickK_any known ((s.ne : Int) + 1) W k1 k2 (by omega) (by omega)
    rw [hkk] at this; exact this
  clear hkk
  have hwr : IntKind.i64.wrap ((s.ne : Int) + 1) = (s.ne : Int) + 1 := wrap_id _ (by omega) (by omega)
  go_enter Tryz.func3, Tryz.ntmps3
  go_wp2_with (first
    | (go_at_call 8; with_reducible refine Calls.mono (CC.out _ ?_) ?_; (exact Below.refl _ _); rintro e w1 ⟨rfl, hb1⟩)
    | (go_at_call 9; with_reducible refine Calls.mono (CR.out _ hb1) ?_; rintro e w2 ⟨R, rfl, h2⟩; have rN := h2.out.1.n)
    | (go_at_call 10; with_reducible refine Calls.mono (CP.out _) ?_; rintro e wx ⟨rfl, hw⟩; rw [hw]; clear hw wx))
  with_reducible refine Calls.mono (table_at _ R s k w2 h2.out.1 HK.out ?_ ?_) ?_
  · omega
  · omega
  rintro e w3 ⟨g3, c3, rfl, h3⟩
  have rN3 := h3.out.2.2.1.n
  clear rN CC CR CP
  go_wp2_with fail
  with_reducible refine Calls.mono (table_at _ R s s.ne w3 h3.out.2.2.1 HK.out ?_ ?_) ?_
  · omega
  · omega
  rintro e w4 ⟨g4, c4, rfl, h4⟩
  have rN4 := h4.out.2.2.1.n
  clear rN3
  have HL : Hid (∃ S, (RunAt S w4 R s ∧ Turn S w4 w4) ∧ (∀ b, w4.heap.size ≤ b → S b) ∧ (∀ b, S b → w.heap.size ≤ b) ∧ ¬ S g3 ∧ ¬ S g4 ∧ TabAt w4 g3 (tabF s k) ∧ TabAt w4 g4 (tabF s s.ne) ∧ Below w.heap.size w w4) := by
    obtain ⟨a1, a2, a3, a4⟩ := h3.out
    obtain ⟨b1, b2, b3, b4⟩ := h4.out
    have hb := a4.trans (b4.mono a4.size)
    obtain ⟨S, s1, s2, s3, s4⟩ := h2.out.1.only hb
    have e2 := h2.out.2.size
    have e3 := a4.size
    have e4 := b4.size
    have l3 := a2.lt
    have l4 := b2.lt
    exact ⟨S, ⟨s1, Turn.refl _ _⟩, s2, fun b hb' => (s3 b hb').elim id (fun h => by omega), s4 g3 a1 (by omega), s4 g4 (by omega) l4, a2.mv b4, b2, h2.out.2.trans (hb.mono e2)⟩
  clear h2 h3 h4
  go_wp2_with fail
  obtain ⟨S, hS0⟩ := HL.out
  have HS : Hid (type_of% hS0) := hS0
  clear hS0 HL
  go_loopw [15, 16] (fun s15 _ wr => ∃ i : Nat, i ≤ n' ∧ i ≤ 15 ∧ s15 = .int .i64 i ∧ Hid (RunAt S wr R (kmore s ms i) ∧ Turn S w4 wr)) (fun s15 _ _ => 15 - (intOf s15).toNat)
  case atStart => exact ⟨0, by omega, by omega, rfl, HS.out.1⟩
  case round =>
    obtain ⟨i, hin, hi15, rfl, hr⟩ := hrel
    have hi0 : (0 : Int) ≤ (i : Int) := by omega
    obtain ⟨hko, hle, hmn⟩ := kmore_ok HK.out ms i
    have HLe : Hid (type_of% hle) := hle
    have HKO : Hid (type_of% hko) := hko
    clear hle hko
    by_cases hlt : i < n' ∧ i < 15
    · have hlt1 : (i : Int) < (n' : Int) := by omega
      have hlt2 : (i : Int) < 15 := by omega
      obtain ⟨g, o, rfl, c0, c1, c2, c3, c4⟩ := HM.out.at' (by omega)
      have hb : Below w.heap.size w wr := turn_below HS.out.2.2.2.2.2.2.2 hr.out.2 HS.out.2.2.1
      have d0 := cell_later hb (c0 i hlt.1)
      have d1 := cell_later hb (c1 i hlt.1)
      have d2 := cell_later hb (c2 i hlt.1)
      have d3 := cell_later hb (c3 i hlt.1)
      have d4 := cell_later hb (c4 i hlt.1)
      have C1 : Hid (Calls Tryz.prog 12 #[.pointer (some ⟨R, 0, none⟩), .agg #[.int .i64 (ms i).kind, .int .i64 (ms i).day, .int .i64 (ms i).a, .int .i64 (ms i).b, .int .i64 (ms i).c]] wr fun r w' => r = .returned (.bool true) ∧ Hid (RunAt S w' R (kmore s ms (i + 1)) ∧ Turn S w4 w')) := by
        refine (step_at S R (kmore s ms i) (ms i) wr hr.out.1 (fun b h => HS.out.2.1 b (Nat.le_trans hr.out.2.size h)) HKO.out (by omega) (HM.out.ok i hlt.1)).mono ?_
        rintro r w' ⟨rfl, q1, q2⟩
        exact ⟨rfl, q1, hr.out.2.trans q2⟩
      clear c0 c1 c2 c3 c4 hb HM hmn HLe HKO
      go_wp2_with (go_at_call 12; with_reducible refine Calls.mono C1.out ?_; rintro e w5 ⟨rfl, h5⟩)
      exact ⟨⟨i + 1, by omega, by omega, by go_num, h5⟩, by simp [intOf]; omega⟩
    · have he : Hid (∀ W, Below wr.heap.size wr W → Calls Tryz.prog 11 #[.pointer (some ⟨R, 0, none⟩), .int .i64 k] W fun r w' => ∃ g c, r = .returned (.tuple #[.slice (some ⟨g, 0, none⟩) 78 c, .bool true]) ∧ Hid (W.heap.size ≤ g ∧ TabAt w' g (tabF s k) ∧ Below W.heap.size W w')) := fun W hW => by
        have hn := HLe.out.ne
        refine (table_at S R (kmore s ms i) k W (hr.out.1.mv hW) HKO.out hkn.1 (by omega)).mono ?_
        rintro r w' ⟨g, c, rfl, h1, h2, h3, h4⟩
        exact ⟨g, c, rfl, h1, fun j hj => by rw [h2 j hj, tab_known HLe.out hkn.1 (by omega)], h4⟩
      have he' : Hid (∀ W, Below wr.heap.size wr W → Calls Tryz.prog 11 #[.pointer (some ⟨R, 0, none⟩), .int .i64 s.ne] W fun r w' => ∃ g c, r = .returned (.tuple #[.slice (some ⟨g, 0, none⟩) 78 c, .bool true]) ∧ Hid (W.heap.size ≤ g ∧ TabAt w' g (tabF s s.ne) ∧ Below W.heap.size W w')) := fun W hW => by
        have hn := HLe.out.ne
        refine (table_at S R (kmore s ms i) s.ne W (hr.out.1.mv hW) HKO.out (by omega) (by omega)).mono ?_
        rintro r w' ⟨g, c, rfl, h1, h2, h3, h4⟩
        exact ⟨g, c, rfl, h1, fun j hj => by rw [h2 j hj, tab_known HLe.out (by omega) (by omega)], h4⟩
      have HT : Hid (TabAt wr g3 (tabF s k) ∧ TabAt wr g4 (tabF s s.ne) ∧ Below w.heap.size w wr) := by
        obtain ⟨_, _, s3, s4, s5, s6, s7, s8⟩ := HS.out
        exact ⟨s6.turn hr.out.2 s4, s7.turn hr.out.2 s5, turn_below s8 hr.out.2 s3⟩
      clear HM HS HLe HKO hr hmn
      by_cases h1 : i < n'
      · have h1' : (i : Int) < (n' : Int) := by omega
        have h2' : ¬ (i : Int) < 15 := by omega
        go_wp2_with fail
        with_reducible refine Calls.mono (he.out _ ?_) ?_
        · exact Below.refl _ _
        rintro e w5 ⟨g5, c5, rfl, h5⟩
        go_wp2_with fail
        with_reducible refine Calls.mono (he'.out _ ?_) ?_
        · exact h5.out.2.2
        rintro e w6 ⟨g6, c6, rfl, h6⟩
        have hb5 : Hid (Below wr.heap.size wr w6) := h5.out.2.2.trans (h6.out.2.2.mono h5.out.2.2.size)
        go_wp2_with fail
        with_reducible refine Calls.mono (same_tab g5 g3 c5 c3 _ _ w6 (h5.out.2.1.mv h6.out.2.2) (HT.out.1.mv hb5.out) (fun _ _ => rfl)) ?_
        rintro e w7 ⟨rfl, hb7⟩
        go_wp2_with fail
        with_reducible refine Calls.mono (same_tab g6 g4 c6 c4 _ _ w7 (h6.out.2.1.mv hb7) (HT.out.2.1.mv (hb5.out.trans (hb7.mono hb5.out.size))) (fun _ _ => rfl)) ?_
        rintro e w8 ⟨rfl, hb8⟩
        go_wp2
        go_ret
        have hbw := HT.out.2.2
        have hb6 := hb5.out.trans (hb7.mono hb5.out.size)
        have hb9 := hb6.trans (hb8.mono hb6.size)
        exact ⟨rfl, hbw.trans (hb9.mono hbw.size)⟩
      · have h1' : ¬ (i : Int) < (n' : Int) := by omega
        go_wp2_with fail
        with_reducible refine Calls.mono (he.out _ ?_) ?_
        · exact Below.refl _ _
        rintro e w5 ⟨g5, c5, rfl, h5⟩
        go_wp2_with fail
        with_reducible refine Calls.mono (he'.out _ ?_) ?_
        · exact h5.out.2.2
        rintro e w6 ⟨g6, c6, rfl, h6⟩
        have hb5 : Hid (Below wr.heap.size wr w6) := h5.out.2.2.trans (h6.out.2.2.mono h5.out.2.2.size)
        go_wp2_with fail
        with_reducible refine Calls.mono (same_tab g5 g3 c5 c3 _ _ w6 (h5.out.2.1.mv h6.out.2.2) (HT.out.1.mv hb5.out) (fun _ _ => rfl)) ?_
        rintro e w7 ⟨rfl, hb7⟩
        go_wp2_with fail
        with_reducible refine Calls.mono (same_tab g6 g4 c6 c4 _ _ w7 (h6.out.2.1.mv hb7) (HT.out.2.1.mv (hb5.out.trans (hb7.mono hb5.out.size))) (fun _ _ => rfl)) ?_
        rintro e w8 ⟨rfl, hb8⟩
        go_wp2
        go_ret
        have hbw := HT.out.2.2
        have hb6 := hb5.out.trans (hb7.mono hb5.out.size)
        have hb9 := hb6.trans (hb8.mono hb6.size)
        exact ⟨rfl, hbw.trans (hb9.mono hbw.size)⟩
end Go.Proofs.YtjnmoddcodnadaaGreat
