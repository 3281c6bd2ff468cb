import Derived.Test.YtjnmoddcodnadaaGreatG26
set_option linter.unusedVariables false
set_option linter.unusedSimpArgs false
namespace Go.Proofs.YtjnmoddcodnadaaGreat
open Go.RowKit Go.Annal Go.Sort
set_option maxHeartbeats 4000000 in
set_option maxRecDepth 100000 in
theorem step_none (R B : Nat) (s : St) (Fp : Nat → Prop) (q : K5) (w : World) (h : RunIs w R B s Fp) (hk : KOk s) (hne : s.ne < 60) (hq : q.ok) (hK : pickI q.kind 8 = 5) (h0 : s.ne = 0) :
    Calls Tryz.prog 12 #[.pointer (some ⟨R, 0, none⟩), .agg q.v] w fun r w' => r = .returned (.bool true) ∧ SteppedTo w w' R B (s.kstep q) Fp := by
  have hks : s.kstep q = s := by
    unfold St.kstep
    rw [if_neg (by omega), if_neg (by omega), if_neg (by omega), if_neg (by omega)]
  rw [hks]
  obtain ⟨hq1, hq2, hq3, hq4, hq5⟩ := id hq
  have hd := pickI_bd q.day 12 (by decide)
  have hlk := hk.lk
  have hka : Grew w (w.alloc (.cells q.v 35)) := (Grew.refl _).alloc _
  have hbp := heap_alloc_new w (.cells q.v 35)
  have p0 : (w.alloc (.cells q.v 35)).cell? ⟨w.heap.size, 0, none⟩ = some (.int .i64 q.kind) := blk_cell' hbp rfl
  have p1 : (w.alloc (.cells q.v 35)).cell? ⟨w.heap.size, 1, none⟩ = some (.int .i64 q.day) := blk_cell' hbp rfl
  have p2 : (w.alloc (.cells q.v 35)).cell? ⟨w.heap.size, 2, none⟩ = some (.int .i64 q.a) := blk_cell' hbp rfl
  have rB := hka.cell' (blk_cell' h.rn (o := 0) rfl)
  have rN := hka.cell' (blk_cell' h.rn (o := 1) rfl)
  have hkb := hka.below
  obtain ⟨W1, hW1⟩ : ∃ W1, w.alloc (.cells q.v 35) = W1 := ⟨_, rfl⟩
  have hW1' : w.alloc (.cells #[.int .i64 q.kind, .int .i64 q.day, .int .i64 q.a, .int .i64 q.b, .int .i64 q.c] 35) = W1 := hW1
  rw [hW1] at hka hbp p0 p1 p2 rB rN hkb
  have hn0 : ¬ (0 : Int) < (s.ne : Int) := by omega
  have HH : Hid (type_of% h) := h
  clear h hk hq hbp hks
  show Calls _ _ #[_, .agg #[.int .i64 q.kind, .int .i64 q.day, .int .i64 q.a, .int .i64 q.b, .int .i64 q.c]] _ _
  go_enter Tryz.func12, Tryz.ntmps12
  go_wp2_with (go_at_call 10; refine Calls.mono (pickK_any _ _ _ (by omega) (by omega) (by omega) (by omega)) ?_; rintro e wx ⟨rfl, hw⟩; rw [hw]; clear hw wx)
  go_ret
  exact ⟨rfl, stepped_same HH.out hkb⟩
set_option maxHeartbeats 4000000 in
set_option maxRecDepth 100000 in
theorem step_lock (R B : Nat) (s : St) (Fp : Nat → Prop) (q : K5) (w : World) (h : RunIs w R B s Fp) (hk : KOk s) (hne : s.ne < 60) (hq : q.ok) (hK : pickI q.kind 8 = 6) :
    Calls Tryz.prog 12 #[.pointer (some ⟨R, 0, none⟩), .agg q.v] w fun r w' => r = .returned (.bool true) ∧ SteppedTo w w' R B (s.kstep q) Fp := by
  have hks : s.kstep q = s.afterLock (pickI q.day 12) := by
    unfold St.kstep
    rw [if_neg (by omega), if_neg (by omega), if_pos hK]
  rw [hks]
  obtain ⟨hq1, hq2, hq3, hq4, hq5⟩ := id hq
  have hd := pickI_bd q.day 12 (by decide)
  have hlk := hk.lk
  have hka : Grew w (w.alloc (.cells q.v 35)) := (Grew.refl _).alloc _
  have hbp := heap_alloc_new w (.cells q.v 35)
  have p0 : (w.alloc (.cells q.v 35)).cell? ⟨w.heap.size, 0, none⟩ = some (.int .i64 q.kind) := blk_cell' hbp rfl
  have p1 : (w.alloc (.cells q.v 35)).cell? ⟨w.heap.size, 1, none⟩ = some (.int .i64 q.day) := blk_cell' hbp rfl
  have p2 : (w.alloc (.cells q.v 35)).cell? ⟨w.heap.size, 2, none⟩ = some (.int .i64 q.a) := blk_cell' hbp rfl
  have rB := hka.cell' (blk_cell' h.rn (o := 0) rfl)
  have rN := hka.cell' (blk_cell' h.rn (o := 1) rfl)
  have hkb := hka.below
  obtain ⟨W1, hW1⟩ : ∃ W1, w.alloc (.cells q.v 35) = W1 := ⟨_, rfl⟩
  have hW1' : w.alloc (.cells #[.int .i64 q.kind, .int .i64 q.day, .int .i64 q.a, .int .i64 q.b, .int .i64 q.c] 35) = W1 := hW1
  rw [hW1] at hka hbp p0 p1 p2 rB rN hkb
  have hpe := hk.lockE (day := pickI q.day 12) hd.1 (by omega)
  have HP : Hid (∀ W2, Below w.heap.size w W2 → Calls Tryz.prog 22 #[.pointer (some ⟨B, 0, none⟩), .int .i64 (pickI q.day 12)] W2 fun r w' => r = .returned (.int .i64 (s.lockE (pickI q.day 12))) ∧ w'.heap[R]? = some (.cells #[.pointer (some ⟨B, 0, none⟩), .int .i64 s.ne, .int .i64 s.lk] 29 (0, 0)) ∧ Hid (∃ Fp', ProgIs w' B (s.afterLock (pickI q.day 12)) Fp' ∧ Turn Fp W2 w' ∧ ∀ b, Fp' b → Fp b ∨ W2.heap.size ≤ b)) := fun W2 hW => by
    refine (progLock B s Fp (pickI q.day 12) W2 (h.pg.turn (S := fun _ => False) (Turn.of_below hW) (fun _ _ h => h)) hk.ok).mono ?_
    rintro r w' ⟨rfl, Fp', q1, q2, q3⟩
    exact ⟨rfl, run_kept h hW q2, ⟨Fp', q1, q2, q3⟩⟩
  have HH : Hid (type_of% h) := h
  have HPE : Hid (type_of% hpe) := hpe
  clear h hk hq hbp hks hpe
  by_cases hl : pickI q.day 12 ≤ s.lk
  · have e11 : s.lockE (pickI q.day 12) = 11 := by rw [HPE.out, if_pos hl]
    have ea : Hid (s.afterLock (pickI q.day 12) = s) := by show _ = _; unfold St.afterLock; rw [e11]; rfl
    rw [e11] at HP
    show Calls _ _ #[_, .agg #[.int .i64 q.kind, .int .i64 q.day, .int .i64 q.a, .int .i64 q.b, .int .i64 q.c]] _ _
    go_enter Tryz.func12, Tryz.ntmps12
    go_wp2_with (first
      | (go_at_call 10; refine Calls.mono (pickK_any _ _ _ (by omega) (by omega) (by omega) (by omega)) ?_; rintro e wx ⟨rfl, hw⟩; rw [hw]; clear hw wx)
      | (go_at_call 22; refine Calls.mono (HP.out _ hkb) ?_; rintro e w3 ⟨rfl, hrn, hq3⟩; have x0 := blk_cell' hrn (o := 0) rfl; have x1 := blk_cell' hrn (o := 1) rfl; have x2 := blk_cell' hrn (o := 2) rfl; have z1 := blk_free hrn 1; have z2 := blk_free hrn 2))
    go_ret
    refine ⟨by first | rfl | (simp; done), ?_⟩
    obtain ⟨Fp', q1, q2, q3⟩ := hq3.out
    rw [ea.out] at q1 ⊢
    exact stepped_by HH.out hkb q1 q2 q3 hrn (Turn.refl _ _)
  · have e0 : s.lockE (pickI q.day 12) = 0 := by rw [HPE.out, if_neg hl]
    have ea : Hid ((s.afterLock (pickI q.day 12)).ne = s.ne ∧ (s.afterLock (pickI q.day 12)).lk = pickI q.day 12) := by show _ ∧ _; unfold St.afterLock; rw [if_pos e0]; exact ⟨rfl, rfl⟩
    rw [e0] at HP
    show Calls _ _ #[_, .agg #[.int .i64 q.kind, .int .i64 q.day, .int .i64 q.a, .int .i64 q.b, .int .i64 q.c]] _ _
    go_enter Tryz.func12, Tryz.ntmps12
    go_wp2_with (first
      | (go_at_call 10; refine Calls.mono (pickK_any _ _ _ (by omega) (by omega) (by omega) (by omega)) ?_; rintro e wx ⟨rfl, hw⟩; rw [hw]; clear hw wx)
      | (go_at_call 22; refine Calls.mono (HP.out _ hkb) ?_; rintro e w3 ⟨rfl, hrn, hq3⟩; have x0 := blk_cell' hrn (o := 0) rfl; have x1 := blk_cell' hrn (o := 1) rfl; have x2 := blk_cell' hrn (o := 2) rfl; have z1 := blk_free hrn 1; have z2 := blk_free hrn 2))
    go_ret
    refine ⟨by first | rfl | (simp; done), ?_⟩
    obtain ⟨Fp', q1, q2, q3⟩ := hq3.out
    exact stepped_by HH.out hkb q1 q2 q3 (by rw [ea.out.1, ea.out.2]; exact blk_set hrn 2 _) ((Turn.refl _ _).set _ _ (fun _ => rfl))
end Go.Proofs.YtjnmoddcodnadaaGreat
