import Derived.Test.YtjnmoddcodnadaaGreatG32
set_option linter.unusedVariables false
set_option linter.unusedSimpArgs false
namespace Go.Annal
open Go.Proofs.YtjnmoddcodnadaaGreat
theorem KOk.bal1 {s : St} (h : KOk s) {d known : Int} (h0 : 0 ≤ d) (h1 : d ≤ 12) (k0 : 0 ≤ known) (k1 : known ≤ s.ne) {i : Nat} (hi : i < 6) : s.balE (nmK i) d known = 0 ∧ s.bal (nmK i) d known = enS s.dy s.la s.lm (nmK i) d s.ln known.toNat := by
  have he : s.balE (nmK i) d known = 0 := by
    unfold St.balE
    have h2 : knownB known s.ne = true := by unfold knownB; simp; omega
    rw [h.there hi, dayB_small h0 h1, h2]; rfl
  refine ⟨he, ?_⟩
  unfold St.bal okOr
  rw [if_pos he]
theorem KOk.bal_bd {s : St} (h : KOk s) (x : ByteArray) (d : Int) {n : Nat} (hn : n ≤ s.ne) (h4 : s.ne ≤ 60) : -6000000000000000 ≤ enS s.dy s.la s.lm x d s.ln n ∧ enS s.dy s.la s.lm x d s.ln n ≤ 6000000000000000 := by
  have := enS_bd s.dy s.la s.lm x d s.ln n (fun i hi => ⟨by have := h.ok.ln i (by omega); omega, h.ok.bd i (by omega)⟩)
  omega
end Go.Annal
namespace Go.Proofs.YtjnmoddcodnadaaGreat
open Go.RowKit Go.Annal Go.Sort
/-- A list of lines that a call has answered with, nil or not. -/
theorem lines_out {w : World} {base : Nat} {v : Value} {T : List Ln} (h : w.ownsRow base 47 2 v T.length (cells2 T)) : ∃ ad c, v = .slice ad T.length c ∧ ∀ j (hj : j < T.length), ∃ g, ad = some ⟨g, 0, none⟩ ∧ w.cell? ⟨g, j * 2, none⟩ = some (.string T[j].1) ∧ w.cell? ⟨g, j * 2 + 1, none⟩ = some (.int .i64 T[j].2) := by
  rcases h.2 with ⟨rfl, h0⟩ | ⟨g, cap, cur, rfl, hg, hc, hr⟩
  · exact ⟨none, 0, by rw [h0], fun j hj => by omega⟩
  · refine ⟨_, cap, rfl, fun j hj => ⟨g, rfl, ?_, ?_⟩⟩
    · rw [h.cellAt (j * 2) (by omega)]; exact (cells2_at T j hj).1
    · rw [h.cellAt (j * 2 + 1) (by omega)]; exact (cells2_at T j hj).2
set_option maxHeartbeats 4000000 in
set_option maxRecDepth 100000 in
theorem balanced_walk (ad : Option Addr) (n cap : Nat) (qs : Nat → K5) (day known : Int) (w : World) (hS : StepsV w ad n qs) (d1 : -9223372036854775808 ≤ day) (d2 : day ≤ 9223372036854775807) (k1 : -9223372036854775808 ≤ known) (k2 : known ≤ 9223372036854775807) :
    Calls Tryz.prog 4 #[.slice ad n cap, .int .i64 day, .int .i64 known] w fun r w' => r = .returned (.bool true) ∧ Below w.heap.size w w' := by
  have CC : Hid (∀ W, Below w.heap.size w W → _) := fun W hW => changed_at w W hW
  have CR : Hid (∀ W, Below w.heap.size w W → _) := fun W hW => run_rb w W ad n cap qs hS hW
  have CN : Hid (∀ W, _) := fun W => namesK_any W
  obtain ⟨hk, hne⟩ := run_small qs n
  obtain ⟨s, hs⟩ : ∃ s, krun qs (lim n 40) = s := ⟨_, rfl⟩
  rw [hs] at hk hne CR
  clear hs hS
  have hne' : (s.ne : Int) ≤ 40 := by omega
  have hkn := pickI_bd known ((s.ne : Int) + 1) (by omega)
  obtain ⟨k, hkk⟩ : ∃ k, pickI known ((s.ne : Int) + 1) = k := ⟨_, rfl⟩
  rw [hkk] at hkn
  have CP : Hid (∀ W, Calls Tryz.prog 10 #[.int .i64 known, .int .i64 ((s.ne : Int) + 1)] W fun r w' => r = .returned (.int .i64 k) ∧ w' = W) := fun W => by
    have := pickK_any known ((s.ne : Int) + 1) W k1 k2 (by omega) (by omega)
    rw [hkk] at this; exact this
  have hdn := pickI_bd day 13 (by decide)
  obtain ⟨d, hdd⟩ : ∃ d, pickI day 13 = d := ⟨_, rfl⟩
  rw [hdd] at hdn
  have CQ : Hid (∀ W, Calls Tryz.prog 10 #[.int .i64 day, .int .i64 13] W fun r w' => r = .returned (.int .i64 d) ∧ w' = W) := fun W => by
    have := pickK_any day 13 W d1 d2 (by decide) (by decide)
    rw [hdd] at this; exact this
  clear hkk hdd
  have hwr : IntKind.i64.wrap ((s.ne : Int) + 1) = (s.ne : Int) + 1 := wrap_id _ (by omega) (by omega)
  obtain ⟨bal, hbal⟩ : ∃ bal : ByteArray → Int, (fun x => enS s.dy s.la s.lm x d s.ln k.toNat) = bal := ⟨_, rfl⟩
  have CT : Hid (∀ W R B, RB (fun b => w.heap.size ≤ b) W R B s.ne s.lk s → Calls Tryz.prog 14 #[.pointer (some ⟨B, 0, none⟩), .int .i64 d, .int .i64 k] W fun r w' => ∃ lad lc, r = .returned (.tuple #[.slice lad (tri bal 6).length lc, .int .i64 0]) ∧ Hid ((∀ j (hj : j < (tri bal 6).length), ∃ g, lad = some ⟨g, 0, none⟩ ∧ w'.cell? ⟨g, j * 2, none⟩ = some (.string (tri bal 6)[j].1) ∧ w'.cell? ⟨g, j * 2 + 1, none⟩ = some (.int .i64 (tri bal 6)[j].2)) ∧ RB (fun b => w.heap.size ≤ b) w' R B s.ne s.lk s ∧ Below W.heap.size W w')) := fun W R B h => by
    have ht := hk.trial hdn.1 (by omega) hkn.1 (show k ≤ s.ne by omega)
    rw [hbal] at ht
    refine (rb_trial h hk.ok d k).mono ?_
    rintro r w' ⟨v, rfl, ho, hb⟩
    rw [ht.2] at ho
    obtain ⟨lad, lc, rfl, hl⟩ := lines_out ho
    exact ⟨lad, lc, by rw [ht.1], hl, h.mv hb, hb⟩
  have CB : Hid (∀ W R B i, i < 6 → RB (fun b => w.heap.size ≤ b) W R B s.ne s.lk s → Calls Tryz.prog 16 #[.pointer (some ⟨B, 0, none⟩), .string (nmK i), .int .i64 d, .int .i64 k] W fun r w' => r = .returned (.tuple #[.int .i64 (bal (nmK i)), .int .i64 0]) ∧ Below W.heap.size W w') := fun W R B i hi h => by
    have := hk.bal1 hdn.1 (by omega) hkn.1 (show k ≤ s.ne by omega) hi
    have h2 := rb_bal h hk.ok (nmK i) d k
    rw [this.1, this.2, show enS s.dy s.la s.lm (nmK i) d s.ln k.toNat = bal (nmK i) by rw [← hbal]] at h2
    exact h2
  have HB : Hid (sF (fun i => bal (nmK i)) 6 = 0 ∧ ∀ i, i ≤ 6 → -60000000000000000 ≤ sF (fun i => bal (nmK i)) i ∧ sF (fun i => bal (nmK i)) i ≤ 60000000000000000) := by
    refine ⟨?_, fun i hi => ?_⟩
    · rw [← hbal]; exact hk.balanced d (show k.toNat ≤ s.ne by omega)
    · have := sF_bd (fun i => bal (nmK i)) 6000000000000000 i (fun j _ => by rw [← hbal]; exact hk.bal_bd _ _ (show k.toNat ≤ s.ne by omega) (by omega))
      omega
  clear hk hbal
  go_enter Tryz.func4, Tryz.ntmps4
  go_wp2_with (first
    | (go_at_call 8; with_reducible refine Calls.mono (CC.out _ ?_) ?_; (exact Below.refl _ _); rintro e w1 ⟨rfl, hb1⟩)
    | (go_at_call 9; with_reducible refine Calls.mono (CR.out _ hb1) ?_; rintro e w2 ⟨R, B, rfl, rB, rN, rL, h2⟩; clear rL)
    | (go_at_call 10; with_reducible refine Calls.mono (CP.out _) ?_; rintro e wx ⟨rfl, hw⟩; rw [hw]; clear hw wx)
    | (go_at_call 10; with_reducible refine Calls.mono (CQ.out _) ?_; rintro e wx ⟨rfl, hw⟩; rw [hw]; clear hw wx)
    | (go_at_call 14; with_reducible refine Calls.mono (CT.out _ R B h2.out.1) ?_; rintro e w3 ⟨lad, lc, rfl, h3⟩; clear rN rB)
    | (go_at_call 15; with_reducible refine Calls.mono (CN.out _) ?_; rintro e w4 ⟨rfl, hw4⟩))
  have HL : Hid (RB (fun b => w.heap.size ≤ b) w4 R B s.ne s.lk s ∧ Below w.heap.size w w4 ∧ (∀ j (hj : j < (tri bal 6).length), ∃ g, lad = some ⟨g, 0, none⟩ ∧ w4.cell? ⟨g, j * 2, none⟩ = some (.string (tri bal 6)[j].1) ∧ w4.cell? ⟨g, j * 2 + 1, none⟩ = some (.int .i64 (tri bal 6)[j].2)) ∧ ∀ i, i < 6 → w4.cell? ⟨w3.heap.size, i, none⟩ = some (.string (nmK i))) := by
    obtain ⟨t1, t2, t3⟩ := h3.out
    have hb4 : Below w3.heap.size w3 w4 := by rw [hw4]; exact ((Grew.refl _).alloc _).below
    have h23 := h2.out.2.trans (t3.mono h2.out.2.size)
    refine ⟨t2.mv hb4, h23.trans (hb4.mono h23.size), fun j hj => ?_, fun i hi => ?_⟩
    · obtain ⟨g, e, c0, c1⟩ := t1 j hj
      exact ⟨g, e, cell_later hb4 c0, cell_later hb4 c1⟩
    · rw [hw4]; exact blk_cell' (heap_alloc_new w3 _) (nmCells_get i hi)
  rw [← hw4]
  clear hw4 h3 h2 hb1 CC CN CR CP CQ CT hwr
  go_loopw [13, 14, 16, 17, 18] (fun s13 s14 s16 _ _ wr => ∃ i : Nat, i ≤ 6 ∧ s16 = .int .i64 i ∧ s13 = .int .i64 (sF (fun i => bal (nmK i)) i) ∧ s14 = .int .i64 ((tri bal i).length : Nat) ∧ Hid (Below w4.heap.size w4 wr)) (fun _ _ s16 _ _ _ => 6 - (intOf s16).toNat)
  case atStart => exact ⟨0, by omega, rfl, rfl, rfl, Below.refl _ _⟩
  case round =>
    obtain ⟨i, hi6, rfl, rfl, rfl, hb⟩ := hrel
    by_cases hlt : i < 6
    · have hlt' : (i : Int) < 6 := by omega
      have hi0 : (0 : Int) ≤ (i : Int) := by omega
      have C1 : Hid (∀ W, Below w4.heap.size w4 W → _) := fun W hW => CB.out W R B i hlt (HL.out.1.mv hW)
      have rB := (HL.out.1.mv hb.out).c0
      have cN := cell_later hb.out (HL.out.2.2.2 i hlt)
      have hsum := (HB.out.2 (i + 1) (by omega))
      have hse : sF (fun i => bal (nmK i)) (i + 1) = sF (fun i => bal (nmK i)) i + bal (nmK i) := rfl
      rw [hse] at hsum
      clear hse
      by_cases hz : bal (nmK i) = 0
      · have hl := tri_zero bal hz
        rw [hz] at C1
        have hs' : sF (fun i => bal (nmK i)) (i + 1) = sF (fun i => bal (nmK i)) i := by show sF (fun i => bal (nmK i)) i + bal (nmK i) = _; rw [hz]; omega
        have HS' : Hid (_ ∧ _) := And.intro hs' hl
        rw [hz] at hsum
        clear hl hs'
        go_wp2
        go_region_with (go_at_call 16; with_reducible refine Calls.mono (C1.out _ ?_) ?_; (first | exact hb.out.drew | exact hb.out); rintro e w5 ⟨rfl, hb5⟩)
        all_goals go_wp2
        all_goals
          have hb6 := hb.out.trans ((below_drew hb5).mono hb.out.size)
          exact ⟨⟨i + 1, by omega, by go_num, by rw [HS'.out.1], by rw [HS'.out.2], hb6⟩, by simp [intOf]; omega⟩
      · obtain ⟨hat, hat2, hat3⟩ := tri_at bal hlt hz
        obtain ⟨g, rfl, l0, l1⟩ := HL.out.2.2.1 _ hat2
        have hg : (tri bal 6)[(tri bal i).length] = (nmK i, bal (nmK i)) := by rw [List.getElem?_eq_getElem hat2] at hat; exact Option.some.inj hat
        rw [hg] at l0 l1
        have m0 := cell_later hb.out l0
        have m1 := cell_later hb.out l1
        have hT : (((tri bal i).length : Nat) : Int) < (((tri bal 6).length : Nat) : Int) := by omega
        have h0L : (0 : Int) ≤ (((tri bal i).length : Nat) : Int) := by omega
        have hT6 : (tri bal 6).length ≤ 6 := by
          have := trL_len bal ((List.range 6).map nmK)
          simpa [tri] using this
        have hsz : i < 6 ∧ (tri bal i).length ≤ 6 := ⟨hlt, by omega⟩
        have HS' : Hid (_ ∧ _) := And.intro (show sF (fun i => bal (nmK i)) (i + 1) = sF (fun i => bal (nmK i)) i + bal (nmK i) from rfl) hat3
        clear l0 l1 hg hat hat3 HL HB CB hsz
        generalize (tri bal 6).length = T at *
        generalize (tri bal i).length = L at *
        generalize sF (fun i => bal (nmK i)) i = Sm at *
        generalize bal (nmK i) = bi at *
        go_wp2
        go_region_with (go_at_call 16; with_reducible refine Calls.mono (C1.out _ ?_) ?_; (first | exact hb.out.drew | exact hb.out); rintro e w5 ⟨rfl, hb5⟩; have n0 := cell_later (below_drew hb5) m0; have n1 := cell_later (below_drew hb5) m1; have n2 := cell_later (below_drew hb5) cN)
        all_goals clear m0 m1 cN
        all_goals go_wp2
        all_goals go_quiet (fail)
        all_goals go_wp2
        all_goals
          have hb6 := hb.out.trans ((below_drew hb5).mono hb.out.size)
          exact ⟨⟨i + 1, by omega, by go_num, by rw [HS'.out.1], by rw [HS'.out.2]; go_num, by show Below _ _ _; exact hb6.trans ((below_drewN _ _).mono hb6.size)⟩, by simp [intOf]; omega⟩
    · have hlt' : ¬ (i : Int) < 6 := by omega
      obtain rfl : i = 6 := by omega
      have h0 := HB.out.1
      rw [h0]
      go_wp2
      go_ret
      exact ⟨rfl, HL.out.2.1.trans (hb.out.mono HL.out.2.1.size)⟩
end Go.Proofs.YtjnmoddcodnadaaGreat
