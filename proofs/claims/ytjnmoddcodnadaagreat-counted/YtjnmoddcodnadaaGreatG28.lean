import Derived.Test.YtjnmoddcodnadaaGreatG27
set_option linter.unusedVariables false
set_option linter.unusedSimpArgs false
namespace Go.Proofs.YtjnmoddcodnadaaGreat
open Go.RowKit Go.Annal Go.Sort
theorem turn_two (R : Nat) (w : World) (v u : Value) : Turn (fun b => b = R) w ((w.setCell ⟨R, 1, none⟩ v).setCell ⟨R, 2, none⟩ u) := (((Turn.refl (fun b => b = R) w).set ⟨R, 1, none⟩ v (fun _ => rfl)).set ⟨R, 2, none⟩ u (fun _ => rfl))
theorem drew_size (w : World) : w.drew.heap.size = w.heap.size := rfl
set_option maxHeartbeats 4000000 in
set_option maxRecDepth 100000 in
theorem step_close (R B : Nat) (s : St) (Fp : Nat → Prop) (q : K5) (w : World) (h : RunIs w R B s Fp) (hk : KOk s) (hne : s.ne < 60) (hq : q.ok) (hK : pickI q.kind 8 = 7) :
    Calls Tryz.prog 12 #[.pointer (some ⟨R, 0, none⟩), .agg q.v] w fun r w' => r = .returned (.bool true) ∧ SteppedTo w w' R B (s.kstep q) Fp := by
  have hks : s.kstep q = s.afterClose (pickI q.day 12) (nmK (pickI q.a 3).toNat) := by
    unfold St.kstep
    rw [if_neg (by omega), if_neg (by omega), if_neg (by omega), if_pos hK]
  rw [hks]
  obtain ⟨hq1, hq2, hq3, hq4, hq5⟩ := id hq
  have hd := pickI_bd q.day 12 (by decide)
  have hlk := hk.lk
  have hka : Grew w (w.alloc (.cells q.v 35)) := (Grew.refl _).alloc _
  have hbp := heap_alloc_new w (.cells q.v 35)
  have p0 : (w.alloc (.cells q.v 35)).cell? ⟨w.heap.size, 0, none⟩ = some (.int .i64 q.kind) := blk_cell' hbp rfl
  have p1 : (w.alloc (.cells q.v 35)).cell? ⟨w.heap.size, 1, none⟩ = some (.int .i64 q.day) := blk_cell' hbp rfl
  have p2 : (w.alloc (.cells q.v 35)).cell? ⟨w.heap.size, 2, none⟩ = some (.int .i64 q.a) := blk_cell' hbp rfl
  have rB : (w.alloc (.cells q.v 35)).cell? ⟨R, 0, none⟩ = some (.pointer (some ⟨B, 0, none⟩)) := hka.cell' (blk_cell' h.rn (o := 0) rfl)
  have rN : (w.alloc (.cells q.v 35)).cell? ⟨R, 1, none⟩ = some (.int .i64 s.ne) := hka.cell' (blk_cell' h.rn (o := 1) rfl)
  have hkb := hka.below
  obtain ⟨W1, hW1⟩ : ∃ W1, w.alloc (.cells q.v 35) = W1 := ⟨_, rfl⟩
  have hW1' : w.alloc (.cells #[.int .i64 q.kind, .int .i64 q.day, .int .i64 q.a, .int .i64 q.b, .int .i64 q.c] 35) = W1 := hW1
  rw [hW1] at hka hbp p0 p1 p2 rB rN hkb
  have hpa := pickI_bd q.a 3 (by decide)
  obtain ⟨i, hi⟩ : ∃ i : Nat, pickI q.a 3 = i := ⟨(pickI q.a 3).toNat, by omega⟩
  rw [hi] at hpa
  rw [hi, Int.toNat_natCast]
  have hi0 : (0 : Int) ≤ (i : Int) := by omega
  have hi6 : (i : Int) < 6 := by omega
  have hpe := hk.closeE (day := pickI q.day 12) (i := i) hd.1 (by omega) (by omega) hne
  have CN : Hid (∀ W, _) := fun W => namesK_any W
  have HP : Hid (∀ W2, Below w.heap.size w W2 → W2.cell? ⟨w.heap.size, 2, none⟩ = some (.int .i64 q.a) → Calls Tryz.prog 21 #[.pointer (some ⟨B, 0, none⟩), .int .i64 (pickI q.day 12), .string (nmK i)] W2 fun r w' => r = .returned (.tuple #[.int .i64 (s.closeN (pickI q.day 12) (nmK i)), .int .i64 (s.closeE (pickI q.day 12) (nmK i))]) ∧ w'.heap[R]? = some (.cells #[.pointer (some ⟨B, 0, none⟩), .int .i64 s.ne, .int .i64 s.lk] 29 (0, 0)) ∧ w'.cell? ⟨w.heap.size, 2, none⟩ = some (.int .i64 q.a) ∧ Hid (∃ Fp', ProgIs w' B (s.afterClose (pickI q.day 12) (nmK i)) Fp' ∧ Turn Fp W2 w' ∧ ∀ b, Fp' b → Fp b ∨ W2.heap.size ≤ b)) := fun W2 hW hp2 => by
    refine (progClose B s Fp (pickI q.day 12) (nmK i) W2 (h.pg.turn (S := fun _ => False) (Turn.of_below hW) (fun _ _ h => h)) hk.ok).mono ?_
    rintro r w' ⟨rfl, Fp', q1, q2, q3⟩
    exact ⟨rfl, run_kept h hW q2, (World.cell?_of_block (w := W2) (q2.block w.heap.size (World.block_lt_of_cell? _ _ hp2) (fun hF => by have := h.pg.lt hF; omega))).trans hp2, ⟨Fp', q1, q2, q3⟩⟩
  obtain ⟨N, hN⟩ : ∃ N, s.closeN (pickI q.day 12) (nmK i) = N := ⟨_, rfl⟩
  obtain ⟨E, hE⟩ : ∃ E, s.closeE (pickI q.day 12) (nmK i) = E := ⟨_, rfl⟩
  obtain ⟨t, ht⟩ : ∃ t, s.afterClose (pickI q.day 12) (nmK i) = t := ⟨_, rfl⟩
  have HC : Hid ((pickI q.day 12 ≤ s.lk ∧ E = 11 ∧ N = 0 ∧ t = s) ∨ (¬ pickI q.day 12 ≤ s.lk ∧ E = 7 ∧ N = 0 ∧ t = s) ∨ (¬ pickI q.day 12 ≤ s.lk ∧ E = 0 ∧ N = (s.ne : Int) + 1 ∧ t.ne = s.ne + 1 ∧ t.lk = pickI q.day 12)) := by
    show _ ∨ _
    rw [← hN, ← hE, ← ht]
    by_cases hl : pickI q.day 12 ≤ s.lk
    · have e11 : s.closeE (pickI q.day 12) (nmK i) = 11 := by rw [hpe, if_pos hl]
      refine .inl ⟨hl, e11, ?_, ?_⟩
      · unfold St.closeN; rw [e11]; rfl
      · unfold St.afterClose; rw [e11]; rfl
    · rw [if_neg hl] at hpe
      cases hz : (s.closeL0 (pickI q.day 12)).isEmpty
      · have e0 : s.closeE (pickI q.day 12) (nmK i) = 0 := by rw [hpe, hz]; rfl
        refine .inr (.inr ⟨hl, e0, ?_, ?_⟩)
        · unfold St.closeN; rw [if_pos e0]
        · unfold St.afterClose; rw [if_pos e0]; exact ⟨rfl, rfl⟩
      · have e7 : s.closeE (pickI q.day 12) (nmK i) = 7 := by rw [hpe, hz]; rfl
        refine .inr (.inl ⟨hl, e7, ?_, ?_⟩)
        · unfold St.closeN; rw [e7]; rfl
        · unfold St.afterClose; rw [e7]; rfl
  rw [hN, hE, ht] at HP
  rw [ht]
  clear hN hE ht
  have HH : Hid (type_of% h) := h
  have cellN : ∀ {Wx w2 : World}, w2 = Wx.alloc (.cells nmCells 9) → w2.cell? ⟨Wx.heap.size, i, none⟩ = some (.string (nmK i)) := fun {Wx w2} e => by
    rw [e]; exact blk_cell' (heap_alloc_new Wx _) (nmCells_get i (by omega))
  clear h hk hq hbp hks hpe hW1
  show Calls _ _ #[_, .agg #[.int .i64 q.kind, .int .i64 q.day, .int .i64 q.a, .int .i64 q.b, .int .i64 q.c]] _ _
  go_enter Tryz.func12, Tryz.ntmps12
  go_wp2_with (go_at_call 10; with_reducible refine Calls.mono (pickK_any _ _ _ (by omega) (by omega) (by omega) (by omega)) ?_; rintro e wx ⟨rfl, hw⟩; rw [hw]; clear hw wx)
  go_region_with (first
      | (go_at_call 10; with_reducible refine Calls.mono (pickK_any _ _ _ (by omega) (by omega) (by omega) (by omega)) ?_; rintro e wx ⟨rfl, hw⟩; rw [hw]; clear hw wx)
      | (go_at_call 15; with_reducible refine Calls.mono (CN.out _) ?_; rintro e w2 ⟨rfl, hw2⟩; have hb2 : Grew W1 w2 := (by rw [hw2]; first | exact ((Grew.refl W1).drew).alloc _ | exact (Grew.refl W1).alloc _); have hg02 := hka.trans hb2; have cN := cellN hw2; (try rw [drew_size] at cN); have rB2 : w2.cell? ⟨R, 0, none⟩ = some (.pointer (some ⟨B, 0, none⟩)) := hb2.cell' rB; have p22 := hb2.cell' p2; clear hw2)
      | (go_at_call 21; with_reducible refine Calls.mono (HP.out _ ?_ ?_) ?_; (first | exact hg02.below | exact hg02.drew.below); (exact p22); rintro e w3 ⟨rfl, hrn, y2, hq3⟩; have x0 := blk_cell' hrn (o := 0) rfl; have x1 := blk_cell' hrn (o := 1) rfl; have x2 := blk_cell' hrn (o := 2) rfl; have z1 := blk_free hrn 1; have z2 := blk_free hrn 2))
  all_goals
    obtain ⟨hl, rfl, rfl, rfl⟩ | ⟨hl, rfl, rfl, rfl⟩ | ⟨hl, rfl, rfl, ea⟩ := HC.out
    · go_wp2
      go_ret
      refine ⟨by first | rfl | (simp; done), ?_⟩
      obtain ⟨Fp', q1, q2, q3⟩ := hq3.out
      exact stepped_by HH.out hg02.below q1 q2 q3 hrn (Turn.refl _ _)
    · go_wp2
      go_ret
      refine ⟨by first | rfl | (simp; done), ?_⟩
      obtain ⟨Fp', q1, q2, q3⟩ := hq3.out
      exact stepped_by HH.out hg02.below q1 q2 q3 hrn (Turn.refl _ _)
    · have eA : Hid _ := ea
      clear ea
      go_wp2
      go_ret
      refine ⟨by first | rfl | (simp; done), ?_⟩
      obtain ⟨Fp', q1, q2, q3⟩ := hq3.out
      refine stepped_by HH.out hg02.below q1 q2 q3 (w'' := _) ?_ (turn_two R w3 _ _)
      rw [eA.out.1, eA.out.2]
      exact blk_set (blk_set hrn 1 (.int .i64 ((s.ne : Int) + 1))) 2 _
end Go.Proofs.YtjnmoddcodnadaaGreat
