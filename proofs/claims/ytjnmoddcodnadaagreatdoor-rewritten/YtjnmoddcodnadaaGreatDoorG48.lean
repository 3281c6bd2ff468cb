import Derived.Test.YtjnmoddcodnadaaGreatDoorG47
import Derived.Deep.RegionHeld3
import Derived.Test.YtjnmoddcodnadaaGreatDoorRows
import Derived.WalkKit
import Derived.ProofKit
import Derived.OpenShut
import Derived.Carry
import Derived.Deep.Slices
import Derived.Test.YtjnmoddcodnadaaGreatDoorG45
import Derived.ChangeMaps5
set_option linter.unusedVariables false
set_option linter.unusedSimpArgs false
namespace Go.Proofs.YtjnmoddcodnadaaGreatDoor
open Go.RowKit Go.Annal Go.Sort
theorem turn_two (R : Nat) (w : World) (v u : Value) : Turn (fun b => b = R) w ((w.setCell ⟨R, 1, none⟩ v).setCell ⟨R, 2, none⟩ u) := (((Turn.refl (fun b => b = R) w).set ⟨R, 1, none⟩ v (fun _ => rfl)).set ⟨R, 2, none⟩ u (fun _ => rfl))
theorem drew_size (w : World) : w.drew.heap.size = w.heap.size := rfl
set_option maxHeartbeats 4000000 in
set_option maxRecDepth 100000 in
theorem step_close (R B : Nat) (s : St) (Fp : Nat → Prop) (q : K5) (w : World) (h : RunIs w R B s Fp) (hk : KOk s) (hne : s.ne < 60) (hq : q.ok) (hK : pickI q.kind 8 = 7) :
    Calls Tryz.prog 13 #[.pointer (some ⟨R, 0, none⟩), .agg q.v] w fun r w' => r = .returned (.bool true) ∧ SteppedTo w w' R B (s.kstep q) Fp := by
  have hks : s.kstep q = s.afterClose (pickI q.day 12) (nmK (pickI q.a 3).toNat) := by
    unfold St.kstep
    rw [if_neg (by omega), if_neg (by omega), if_neg (by omega), if_pos hK]
  rw [hks]
  obtain ⟨hq1, hq2, hq3, hq4, hq5⟩ := id hq
  have hd := pickI_bd q.day 12 (by decide)
  have hlk := hk.lk
  have hka : Grew w (w.alloc (.cells q.v 38)) := (Grew.refl _).alloc _
  have hbp := heap_alloc_new w (.cells q.v 38)
  have p0 : (w.alloc (.cells q.v 38)).cell? ⟨w.heap.size, 0, none⟩ = some (.int .i64 q.kind) := blk_cell' hbp rfl
  have p1 : (w.alloc (.cells q.v 38)).cell? ⟨w.heap.size, 1, none⟩ = some (.int .i64 q.day) := blk_cell' hbp rfl
  have p2 : (w.alloc (.cells q.v 38)).cell? ⟨w.heap.size, 2, none⟩ = some (.int .i64 q.a) := blk_cell' hbp rfl
  have rB : (w.alloc (.cells q.v 38)).cell? ⟨R, 0, none⟩ = some (.pointer (some ⟨B, 0, none⟩)) := hka.cell' (blk_cell' h.rn (o := 0) rfl)
  have rN : (w.alloc (.cells q.v 38)).cell? ⟨R, 1, none⟩ = some (.int .i64 s.ne) := hka.cell' (blk_cell' h.rn (o := 1) rfl)
  have hkb := hka.below
  obtain ⟨W1, hW1⟩ : ∃ W1, w.alloc (.cells q.v 38) = W1 := ⟨_, rfl⟩
  have hW1' : w.alloc (.cells #[.int .i64 q.kind, .int .i64 q.day, .int .i64 q.a, .int .i64 q.b, .int .i64 q.c] 38) = W1 := hW1
  rw [hW1] at hka hbp p0 p1 p2 rB rN hkb
  have hpa := pickI_bd q.a 3 (by decide)
  obtain ⟨i, hi⟩ : ∃ i : Nat, pickI q.a 3 = i := ⟨(pickI q.a 3).toNat, by omega⟩
  rw [hi] at hpa
  rw [hi, Int.toNat_natCast]
  have hi0 : (0 : Int) ≤ (i : Int) := by omega
  have hi6 : (i : Int) < 6 := by omega
  have hpe := hk.closeE (day := pickI q.day 12) (i := i) hd.1 (by omega) (by omega) hne
  have CN : Hid (∀ W, _) := fun W => namesK_any W
  have HP : Hid (∀ W2, Below w.heap.size w W2 → W2.cell? ⟨w.heap.size, 2, none⟩ = some (.int .i64 q.a) → Calls Tryz.prog 32 #[.pointer (some ⟨B, 0, none⟩), .int .i64 (pickI q.day 12), .string (nmK i)] W2 fun r w' => r = .returned (.tuple #[.int .i64 (s.closeN (pickI q.day 12) (nmK i)), .int .i64 (s.closeE (pickI q.day 12) (nmK i))]) ∧ w'.heap[R]? = some (.cells #[.pointer (some ⟨B, 0, none⟩), .int .i64 s.ne, .int .i64 s.lk] 31 (0, 0)) ∧ w'.cell? ⟨w.heap.size, 2, none⟩ = some (.int .i64 q.a) ∧ Hid (∃ Fp', ProgIs w' B (s.afterClose (pickI q.day 12) (nmK i)) Fp' ∧ Turn Fp W2 w' ∧ ∀ b, Fp' b → Fp b ∨ W2.heap.size ≤ b)) := fun W2 hW hp2 => by
    refine (progClose B s Fp (pickI q.day 12) (nmK i) W2 (h.pg.turn (S := fun _ => False) (Turn.of_below hW) (fun _ _ h => h)) hk.ok).mono ?_
    rintro r w' ⟨rfl, Fp', q1, q2, q3⟩
    exact ⟨rfl, run_kept h hW q2, (World.cell?_of_block (w := W2) (q2.block w.heap.size (World.block_lt_of_cell? _ _ hp2) (fun hF => by have := h.pg.lt hF; omega))).trans hp2, ⟨Fp', q1, q2, q3⟩⟩
  obtain ⟨N, hN⟩ : ∃ N, s.closeN (pickI q.day 12) (nmK i) = N := ⟨_, rfl⟩
  obtain ⟨E, hE⟩ : ∃ E, s.closeE (pickI q.day 12) (nmK i) = E := ⟨_, rfl⟩
  obtain ⟨t, ht⟩ : ∃ t, s.afterClose (pickI q.day 12) (nmK i) = t := ⟨_, rfl⟩
  have HC : Hid ((pickI q.day 12 ≤ s.lk ∧ E = 11 ∧ N = 0 ∧ t = s) ∨ (¬ pickI q.day 12 ≤ s.lk ∧ E = 7 ∧ N = 0 ∧ t = s) ∨ (¬ pickI q.day 12 ≤ s.lk ∧ E = 0 ∧ N = (s.ne : Int) + 1 ∧ t.ne = s.ne + 1 ∧ t.lk = pickI q.day 12)) := by
    show _ ∨ _
    rw [← hN, ← hE, ← ht]
    by_cases hl : pickI q.day 12 ≤ s.lk
    · have e11 : s.closeE (pickI q.day 12) (nmK i) = 11 := by rw [hpe, if_pos hl]
      refine .inl ⟨hl, e11, ?_, ?_⟩
      · unfold St.closeN; rw [e11]; rfl
      · unfold St.afterClose; rw [e11]; rfl
    · rw [if_neg hl] at hpe
      cases hz : (s.closeL0 (pickI q.day 12)).isEmpty
      · have e0 : s.closeE (pickI q.day 12) (nmK i) = 0 := by rw [hpe, hz]; rfl
        refine .inr (.inr ⟨hl, e0, ?_, ?_⟩)
        · unfold St.closeN; rw [if_pos e0]
        · unfold St.afterClose; rw [if_pos e0]; exact ⟨rfl, rfl⟩
      · have e7 : s.closeE (pickI q.day 12) (nmK i) = 7 := by rw [hpe, hz]; rfl
        refine .inr (.inl ⟨hl, e7, ?_, ?_⟩)
        · unfold St.closeN; rw [e7]; rfl
        · unfold St.afterClose; rw [e7]; rfl
  rw [hN, hE, ht] at HP
  rw [ht]
  clear hN hE ht
  have HH : Hid (type_of% h) := h
  have cellN : ∀ {Wx w2 : World}, w2 = Wx.alloc (.cells nmCells 9) → w2.cell? ⟨Wx.heap.size, i, none⟩ = some (.string (nmK i)) := fun {Wx w2} e => by
    rw [e]; exact blk_cell' (heap_alloc_new Wx _) (nmCells_get i (by omega))
  clear h hk hq hbp hks hpe hW1
  show Calls _ _ #[_, .agg #[.int .i64 q.kind, .int .i64 q.day, .int .i64 q.a, .int .i64 q.b, .int .i64 q.c]] _ _
  go_enter Tryz.func13, Tryz.ntmps13
  go_wp2_with (go_at_call 14; with_reducible refine Calls.mono (pickK_any _ _ _ (by omega) (by omega) (by omega) (by omega)) ?_; rintro e wx ⟨rfl, hw⟩; rw [hw]; clear hw wx)
  go_region_with (first
      | (go_at_call 14; with_reducible refine Calls.mono (pickK_any _ _ _ (by omega) (by omega) (by omega) (by omega)) ?_; rintro e wx ⟨rfl, hw⟩; rw [hw]; clear hw wx)
      | (go_at_call 33; with_reducible refine Calls.mono (CN.out _) ?_; rintro e w2 ⟨rfl, hw2⟩; have hb2 : Grew W1 w2 := (by rw [hw2]; first | exact ((Grew.refl W1).drew).alloc _ | exact (Grew.refl W1).alloc _); have hg02 := hka.trans hb2; have cN := cellN hw2; (try rw [drew_size] at cN); have rB2 : w2.cell? ⟨R, 0, none⟩ = some (.pointer (some ⟨B, 0, none⟩)) := hb2.cell' rB; have p22 := hb2.cell' p2; clear hw2)
      | (go_at_call 32; with_reducible refine Calls.mono (HP.out _ ?_ ?_) ?_; (first | exact hg02.below | exact hg02.drew.below); (exact p22); rintro e w3 ⟨rfl, hrn, y2, hq3⟩; have x0 := blk_cell' hrn (o := 0) rfl; have x1 := blk_cell' hrn (o := 1) rfl; have x2 := blk_cell' hrn (o := 2) rfl; have z1 := blk_free hrn 1; have z2 := blk_free hrn 2))
  all_goals
    obtain ⟨hl, rfl, rfl, rfl⟩ | ⟨hl, rfl, rfl, rfl⟩ | ⟨hl, rfl, rfl, ea⟩ := HC.out
    · go_wp2
      go_ret
      refine ⟨by first | rfl | (simp; done), ?_⟩
      obtain ⟨Fp', q1, q2, q3⟩ := hq3.out
      exact stepped_by HH.out hg02.below q1 q2 q3 hrn (Turn.refl _ _)
    · go_wp2
      go_ret
      refine ⟨by first | rfl | (simp; done), ?_⟩
      obtain ⟨Fp', q1, q2, q3⟩ := hq3.out
      exact stepped_by HH.out hg02.below q1 q2 q3 hrn (Turn.refl _ _)
    · have eA : Hid _ := ea
      clear ea
      go_wp2
      go_ret
      refine ⟨by first | rfl | (simp; done), ?_⟩
      obtain ⟨Fp', q1, q2, q3⟩ := hq3.out
      refine stepped_by HH.out hg02.below q1 q2 q3 (w'' := _) ?_ (turn_two R w3 _ _)
      rw [eA.out.1, eA.out.2]
      exact blk_set (blk_set hrn 1 (.int .i64 ((s.ne : Int) + 1))) 2 _
end Go.Proofs.YtjnmoddcodnadaaGreatDoor
namespace Go.Proofs.YtjnmoddcodnadaaGreatDoor
open Go.RowKit Go.Annal Go.Sort
set_option maxHeartbeats 4000000 in
set_option maxRecDepth 100000 in
theorem step_rev (R B : Nat) (s : St) (Fp : Nat → Prop) (q : K5) (w : World) (h : RunIs w R B s Fp) (hk : KOk s) (hne : s.ne < 60) (hq : q.ok) (hK : pickI q.kind 8 = 5) (h0 : 0 < s.ne) :
    Calls Tryz.prog 13 #[.pointer (some ⟨R, 0, none⟩), .agg q.v] w fun r w' => r = .returned (.bool true) ∧ SteppedTo w w' R B (s.kstep q) Fp := by
  have hks : s.kstep q = s.afterRev (1 + pickI q.a s.ne) := by
    unfold St.kstep
    rw [if_neg (by omega), if_pos ⟨hK, h0⟩]
  rw [hks]
  obtain ⟨hq1, hq2, hq3, hq4, hq5⟩ := id hq
  have hd := pickI_bd q.day 12 (by decide)
  have hlk := hk.lk
  have hka : Grew w (w.alloc (.cells q.v 38)) := (Grew.refl _).alloc _
  have hbp := heap_alloc_new w (.cells q.v 38)
  have p0 : (w.alloc (.cells q.v 38)).cell? ⟨w.heap.size, 0, none⟩ = some (.int .i64 q.kind) := blk_cell' hbp rfl
  have p1 : (w.alloc (.cells q.v 38)).cell? ⟨w.heap.size, 1, none⟩ = some (.int .i64 q.day) := blk_cell' hbp rfl
  have p2 : (w.alloc (.cells q.v 38)).cell? ⟨w.heap.size, 2, none⟩ = some (.int .i64 q.a) := blk_cell' hbp rfl
  have rB : (w.alloc (.cells q.v 38)).cell? ⟨R, 0, none⟩ = some (.pointer (some ⟨B, 0, none⟩)) := hka.cell' (blk_cell' h.rn (o := 0) rfl)
  have rN : (w.alloc (.cells q.v 38)).cell? ⟨R, 1, none⟩ = some (.int .i64 s.ne) := hka.cell' (blk_cell' h.rn (o := 1) rfl)
  have hkb := hka.below
  obtain ⟨W1, hW1⟩ : ∃ W1, w.alloc (.cells q.v 38) = W1 := ⟨_, rfl⟩
  have hW1' : w.alloc (.cells #[.int .i64 q.kind, .int .i64 q.day, .int .i64 q.a, .int .i64 q.b, .int .i64 q.c] 38) = W1 := hW1
  rw [hW1] at hka hbp p0 p1 p2 rB rN hkb
  have hn0 : (0 : Int) < (s.ne : Int) := by omega
  have hpa := pickI_bd q.a s.ne hn0
  have hpe := hk.revE (entry := 1 + pickI q.a s.ne) (by omega) (by omega) hne
  have HP : Hid (∀ W2, Below w.heap.size w W2 → W2.cell? ⟨w.heap.size, 2, none⟩ = some (.int .i64 q.a) → Calls Tryz.prog 30 #[.pointer (some ⟨B, 0, none⟩), .int .i64 (1 + pickI q.a s.ne)] W2 fun r w' => r = .returned (.tuple #[.int .i64 (s.revN (1 + pickI q.a s.ne)), .int .i64 (s.revE (1 + pickI q.a s.ne))]) ∧ w'.heap[R]? = some (.cells #[.pointer (some ⟨B, 0, none⟩), .int .i64 s.ne, .int .i64 s.lk] 31 (0, 0)) ∧ w'.cell? ⟨w.heap.size, 2, none⟩ = some (.int .i64 q.a) ∧ Hid (∃ Fp', ProgIs w' B (s.afterRev (1 + pickI q.a s.ne)) Fp' ∧ Turn Fp W2 w' ∧ ∀ b, Fp' b → Fp b ∨ W2.heap.size ≤ b)) := fun W2 hW hp2 => by
    refine (progRev B s Fp (1 + pickI q.a s.ne) W2 (h.pg.turn (S := fun _ => False) (Turn.of_below hW) (fun _ _ h => h)) hk.ok).mono ?_
    rintro r w' ⟨rfl, Fp', q1, q2, q3⟩
    exact ⟨rfl, run_kept h hW q2, (World.cell?_of_block (w := W2) (q2.block w.heap.size (World.block_lt_of_cell? _ _ hp2) (fun hF => by have := h.pg.lt hF; omega))).trans hp2, ⟨Fp', q1, q2, q3⟩⟩
  have HH : Hid (type_of% h) := h
  have HPE : Hid (type_of% hpe) := hpe
  clear h hk hq hbp hks hpe
  clear hW1
  obtain ⟨hpa1, hpa2⟩ := hpa
  have hwr : IntKind.i64.wrap (1 + pickI q.a s.ne) = 1 + pickI q.a s.ne := wrap_id _ (by omega) (by omega)
  cases hg : s.gn (1 + pickI q.a s.ne - 1).toNat
  · have e0 : s.revE (1 + pickI q.a s.ne) = 0 := by rw [HPE.out, hg]; rfl
    have en : s.revN (1 + pickI q.a s.ne) = (s.ne : Int) + 1 := by unfold St.revN; rw [if_pos e0]
    have ea : Hid ((s.afterRev (1 + pickI q.a s.ne)).ne = s.ne + 1 ∧ (s.afterRev (1 + pickI q.a s.ne)).lk = s.lk) := by show _ ∧ _; unfold St.afterRev; rw [if_pos e0]; exact ⟨rfl, rfl⟩
    rw [e0, en] at HP
    clear hg
    show Calls _ _ #[_, .agg #[.int .i64 q.kind, .int .i64 q.day, .int .i64 q.a, .int .i64 q.b, .int .i64 q.c]] _ _
    go_enter Tryz.func13, Tryz.ntmps13
    go_wp2_with (go_at_call 14; refine Calls.mono (pickK_any _ _ _ (by omega) (by omega) (by omega) (by omega)) ?_; rintro e wx ⟨rfl, hw⟩; rw [hw]; clear hw wx)
    go_region_held3 (fun w' => w'.cell? ⟨R, 0, none⟩ = some (.pointer (some ⟨B, 0, none⟩)) ∧ w'.cell? ⟨R, 1, none⟩ = some (.int .i64 s.ne) ∧ w'.cell? ⟨w.heap.size, 2, none⟩ = some (.int .i64 q.a)) (first | exact ⟨x0, x1, y2⟩ | exact ⟨rB, rN, p2⟩ | go_keep)
      (first
        | (go_at_call 14; with_reducible refine Calls.mono (pickK_any _ _ _ (by omega) (by omega) (by omega) (by omega)) ?_; rintro e wx ⟨rfl, hw⟩; rw [hw]; clear hw wx)
        | (go_at_call 30; (try rw [hwr]); go_loud (with_reducible refine Calls.mono (HP.out _ ?_ ?_) ?_); go_loud (first | exact (hka.drew).below | exact hka.below); go_loud (exact p2); rintro e w3 ⟨rfl, hrn, y2, hq3⟩; have x0 := blk_cell' hrn (o := 0) rfl; have x1 := blk_cell' hrn (o := 1) rfl; have x2 := blk_cell' hrn (o := 2) rfl; have z1 := blk_free hrn 1; have z2 := blk_free hrn 2))
    all_goals go_wp2
    all_goals go_ret
    all_goals
      refine ⟨by first | rfl | (simp; done), ?_⟩
      obtain ⟨Fp', q1, q2, q3⟩ := hq3.out
      exact stepped_by HH.out (hka.drew).below q1 q2 q3 (by rw [ea.out.1, ea.out.2]; exact blk_set hrn 1 (.int .i64 ((s.ne : Int) + 1))) ((Turn.refl _ _).set _ _ (fun _ => rfl))
  · have e12 : s.revE (1 + pickI q.a s.ne) = 12 := by rw [HPE.out, hg]; rfl
    have en : s.revN (1 + pickI q.a s.ne) = 0 := by unfold St.revN; rw [e12]; rfl
    have ea : Hid (s.afterRev (1 + pickI q.a s.ne) = s) := by show _ = _; unfold St.afterRev; rw [e12]; rfl
    rw [e12, en] at HP
    clear hg
    show Calls _ _ #[_, .agg #[.int .i64 q.kind, .int .i64 q.day, .int .i64 q.a, .int .i64 q.b, .int .i64 q.c]] _ _
    go_enter Tryz.func13, Tryz.ntmps13
    go_wp2_with (go_at_call 14; refine Calls.mono (pickK_any _ _ _ (by omega) (by omega) (by omega) (by omega)) ?_; rintro e wx ⟨rfl, hw⟩; rw [hw]; clear hw wx)
    go_region_held3 (fun w' => w'.cell? ⟨R, 0, none⟩ = some (.pointer (some ⟨B, 0, none⟩)) ∧ w'.cell? ⟨R, 1, none⟩ = some (.int .i64 s.ne) ∧ w'.cell? ⟨w.heap.size, 2, none⟩ = some (.int .i64 q.a)) (first | exact ⟨x0, x1, y2⟩ | exact ⟨rB, rN, p2⟩ | go_keep)
      (first
        | (go_at_call 14; with_reducible refine Calls.mono (pickK_any _ _ _ (by omega) (by omega) (by omega) (by omega)) ?_; rintro e wx ⟨rfl, hw⟩; rw [hw]; clear hw wx)
        | (go_at_call 30; (try rw [hwr]); go_loud (with_reducible refine Calls.mono (HP.out _ ?_ ?_) ?_); go_loud (first | exact (hka.drew).below | exact hka.below); go_loud (exact p2); rintro e w3 ⟨rfl, hrn, y2, hq3⟩; have x0 := blk_cell' hrn (o := 0) rfl; have x1 := blk_cell' hrn (o := 1) rfl; have x2 := blk_cell' hrn (o := 2) rfl; have z1 := blk_free hrn 1; have z2 := blk_free hrn 2))
    all_goals go_wp2
    all_goals go_ret
    all_goals
      refine ⟨by first | rfl | (simp; done), ?_⟩
      obtain ⟨Fp', q1, q2, q3⟩ := hq3.out
      rw [ea.out] at q1 ⊢
      exact stepped_by HH.out (hka.drew).below q1 q2 q3 hrn (Turn.refl _ _)
end Go.Proofs.YtjnmoddcodnadaaGreatDoor
namespace Go.Proofs.YtjnmoddcodnadaaGreatDoor
open Go.RowKit Go.Annal Go.Sort
/-- A step, whatever it is. -/
theorem step_any (R B : Nat) (s : St) (Fp : Nat → Prop) (q : K5) (w : World) (h : RunIs w R B s Fp) (hk : KOk s) (hne : s.ne < 60) (hq : q.ok) :
    Calls Tryz.prog 13 #[.pointer (some ⟨R, 0, none⟩), .agg q.v] w fun r w' => r = .returned (.bool true) ∧ SteppedTo w w' R B (s.kstep q) Fp := by
  have hb := pickI_bd q.kind 8 (by decide)
  by_cases h5 : pickI q.kind 8 < 5
  · exact step_post R B s Fp q w h hk hne hq h5
  · rcases (show pickI q.kind 8 = 5 ∨ pickI q.kind 8 = 6 ∨ pickI q.kind 8 = 7 by omega) with e | e | e
    · by_cases h0 : s.ne = 0
      · exact step_none R B s Fp q w h hk hne hq e h0
      · exact step_rev R B s Fp q w h hk hne hq e (by omega)
    · exact step_lock R B s Fp q w h hk hne hq e
    · exact step_close R B s Fp q w h hk hne hq e
/-- A run whose memory lies within S. -/
def RunAt (S : Nat → Prop) (w : World) (R : Nat) (s : St) : Prop := ∃ B Fp, RunIs w R B s Fp ∧ S R ∧ ∀ b, Fp b → S b
theorem RunAt.mv {S : Nat → Prop} {w w' : World} {R : Nat} {s : St} (h : RunAt S w R s) (hb : Below w.heap.size w w') : RunAt S w' R s := by
  obtain ⟨B, Fp, h1, h2, h3⟩ := h
  exact ⟨B, Fp, h1.mv hb, h2, h3⟩
theorem step_at (S : Nat → Prop) (R : Nat) (s : St) (q : K5) (w : World) (h : RunAt S w R s) (hS : ∀ b, w.heap.size ≤ b → S b) (hk : KOk s) (hne : s.ne < 60) (hq : q.ok) :
    Calls Tryz.prog 13 #[.pointer (some ⟨R, 0, none⟩), .agg q.v] w fun r w' => r = .returned (.bool true) ∧ Hid (RunAt S w' R (s.kstep q) ∧ Turn S w w') := by
  obtain ⟨B, Fp, h1, h2, h3⟩ := h
  refine (step_any R B s Fp q w h1 hk hne hq).mono ?_
  rintro r w' ⟨rfl, Fp', q1, q2, q3⟩
  refine ⟨rfl, ⟨B, Fp', q1, h2, fun b hb => (q3 b hb).elim (h3 b) (hS b)⟩, q2.mono (fun b _ hb => hb.elim (fun e => e ▸ h2) (h3 b))⟩
theorem turn_below {S : Nat → Prop} {w0 w w' : World} (h0 : Below w0.heap.size w0 w) (ht : Turn S w w') (hS : ∀ b, S b → w0.heap.size ≤ b) : Below w0.heap.size w0 w' :=
  ⟨ht.os.trans h0.os, ht.tape.trans h0.tape, ht.output.trans h0.output, Nat.le_trans h0.size ht.size, fun x hx => (ht.block x (Nat.lt_of_lt_of_le hx h0.size) (fun h => by have := hS x h; omega)).trans (h0.block x hx)⟩
/-- Steps that came in. -/
structure StepsV (w : World) (ad : Option Addr) (n : Nat) (qs : Nat → K5) : Prop where
  at' : 0 < n → ∃ g o, ad = some ⟨g, o, none⟩ ∧ (∀ k, k < n → w.cell? ⟨g, o + k * 5, none⟩ = some (.int .i64 (qs k).kind)) ∧ (∀ k, k < n → w.cell? ⟨g, o + k * 5 + 1, none⟩ = some (.int .i64 (qs k).day)) ∧ (∀ k, k < n → w.cell? ⟨g, o + k * 5 + 2, none⟩ = some (.int .i64 (qs k).a)) ∧ (∀ k, k < n → w.cell? ⟨g, o + k * 5 + 3, none⟩ = some (.int .i64 (qs k).b)) ∧ (∀ k, k < n → w.cell? ⟨g, o + k * 5 + 4, none⟩ = some (.int .i64 (qs k).c))
  ok : ∀ k, k < n → (qs k).ok
theorem StepsV.mv {w w' : World} {ad : Option Addr} {n : Nat} {qs : Nat → K5} (h : StepsV w ad n qs) (hb : Below w.heap.size w w') : StepsV w' ad n qs :=
  ⟨fun hn => by
    obtain ⟨g, o, e, c0, c1, c2, c3, c4⟩ := h.at' hn
    exact ⟨g, o, e, fun k hk => cell_later hb (c0 k hk), fun k hk => cell_later hb (c1 k hk), fun k hk => cell_later hb (c2 k hk), fun k hk => cell_later hb (c3 k hk), fun k hk => cell_later hb (c4 k hk)⟩, h.ok⟩
def lim (n m : Nat) : Nat := if n < m then n else m
theorem lim_le (n m : Nat) : lim n m ≤ n ∧ lim n m ≤ m := by unfold lim; split <;> omega
theorem lim_eq {n m i : Nat} (h : i ≤ n) (h' : i ≤ m) (hh : ¬ (i < n ∧ i < m)) : i = lim n m := by unfold lim; split <;> omega
end Go.Proofs.YtjnmoddcodnadaaGreatDoor
namespace Go.Proofs.YtjnmoddcodnadaaGreatDoor
open Go.RowKit Go.Annal Go.Sort
set_option maxHeartbeats 4000000 in
set_option maxRecDepth 100000 in
theorem run_any (ad : Option Addr) (n cap : Nat) (qs : Nat → K5) (w : World) (hS : StepsV w ad n qs) :
    Calls Tryz.prog 10 #[.slice ad n cap] w fun r w' => ∃ R, r = .returned (.pointer (some ⟨R, 0, none⟩)) ∧ Hid (RunAt (fun b => w.heap.size ≤ b) w' R (krun qs (lim n 40)) ∧ Below w.heap.size w w') := by
  have HS : Hid (type_of% hS) := hS
  have CF : Hid (∀ W, _) := fun W => fresh_any W
  clear hS
  go_enter Tryz.func10, Tryz.ntmps10
  go_wp2_with (go_at_call 20; with_reducible refine Calls.mono (CF.out _) ?_; rintro e w1 ⟨R, rfl, hf⟩)
  have HF : Hid (RunAt (fun b => w.heap.size ≤ b) w1 R (krun qs 0) ∧ Below w.heap.size w w1) := by
    obtain ⟨B, Fp, h1, h2, h3, h4⟩ := hf.out
    exact ⟨⟨B, Fp, h1, h2, h3⟩, h4⟩
  clear hf CF
  go_loopw [4, 5] (fun s3 _ wr => ∃ i : Nat, i ≤ n ∧ i ≤ 40 ∧ s3 = .int .i64 i ∧ Hid (RunAt (fun b => w.heap.size ≤ b) wr R (krun qs i) ∧ Below w.heap.size w wr)) (fun s3 _ _ => 40 - (intOf s3).toNat)
  case atStart => exact ⟨0, by omega, by omega, rfl, HF⟩
  case round =>
    obtain ⟨i, hin, hi40, rfl, hr⟩ := hrel
    clear HF
    have hi0 : (0 : Int) ≤ (i : Int) := by omega
    by_cases hlt : i < n ∧ i < 40
    · have hlt1 : (i : Int) < (n : Int) := by omega
      have hlt2 : (i : Int) < 40 := by omega
      obtain ⟨g, o, rfl, c0, c1, c2, c3, c4⟩ := HS.out.at' (by omega)
      have hb := hr.out.2
      have d0 := cell_later hb (c0 i hlt.1)
      have d1 := cell_later hb (c1 i hlt.1)
      have d2 := cell_later hb (c2 i hlt.1)
      have d3 := cell_later hb (c3 i hlt.1)
      have d4 := cell_later hb (c4 i hlt.1)
      have C1 : Hid (Calls Tryz.prog 13 #[.pointer (some ⟨R, 0, none⟩), .agg #[.int .i64 (qs i).kind, .int .i64 (qs i).day, .int .i64 (qs i).a, .int .i64 (qs i).b, .int .i64 (qs i).c]] wr fun r w' => r = .returned (.bool true) ∧ Hid (RunAt (fun b => w.heap.size ≤ b) w' R (krun qs (i + 1)) ∧ Below w.heap.size w w')) := by
        have ho := krun_ok qs i
        refine (step_at (fun b => w.heap.size ≤ b) R (krun qs i) (qs i) wr hr.out.1 (fun b h => Nat.le_trans hb.size h) ho.1 (by omega) (HS.out.ok i hlt.1)).mono ?_
        rintro r w' ⟨rfl, q1, q2⟩
        exact ⟨rfl, q1, turn_below hb q2 (fun _ h => h)⟩
      clear c0 c1 c2 c3 c4 hb HS
      go_wp2_with (go_at_call 13; with_reducible refine Calls.mono C1.out ?_; rintro e w5 ⟨rfl, h5⟩)
      exact ⟨⟨i + 1, by omega, by omega, by go_num, h5⟩, by simp [intOf]; omega⟩
    · have he : Hid (i = lim n 40) := lim_eq hin hi40 hlt
      by_cases h1 : i < n
      · have h1' : (i : Int) < (n : Int) := by omega
        have h2' : ¬ (i : Int) < 40 := by omega
        go_wp2
        go_ret
        refine ⟨R, rfl, ?_⟩
        rw [← he.out]
        exact hr
      · have h1' : ¬ (i : Int) < (n : Int) := by omega
        go_wp2
        go_ret
        refine ⟨R, rfl, ?_⟩
        rw [← he.out]
        exact hr
end Go.Proofs.YtjnmoddcodnadaaGreatDoor
namespace Go.Proofs.YtjnmoddcodnadaaGreatDoor
open Go.RowKit Go.Annal Go.Sort
/-- A table that lies in memory. -/
def TabAt (w : World) (g : Nat) (f : Nat → Int) : Prop := ∀ j, j < 78 → w.cell? ⟨g, j, none⟩ = some (.int .i64 (f j))
theorem TabAt.turn {S : Nat → Prop} {w w' : World} {g : Nat} {f : Nat → Int} (h : TabAt w g f) (ht : Turn S w w') (hs : ¬ S g) : TabAt w' g f := fun j hj =>
  (World.cell?_of_block (w := w) (ht.block g (World.block_lt_of_cell? _ _ (h j hj)) hs)).trans (h j hj)
theorem TabAt.mv {w w' : World} {g : Nat} {f : Nat → Int} (h : TabAt w g f) (hb : Below w.heap.size w w') : TabAt w' g f := fun j hj => cell_later hb (h j hj)
theorem TabAt.lt {w : World} {g : Nat} {f : Nat → Int} (h : TabAt w g f) : g < w.heap.size := World.block_lt_of_cell? _ _ (h 0 (by decide))
theorem table_at (S : Nat → Prop) (R : Nat) (s : St) (known : Int) (w : World) (h : RunAt S w R s) (hk : KOk s) (k0 : 0 ≤ known) (k1 : known ≤ s.ne) :
    Calls Tryz.prog 15 #[.pointer (some ⟨R, 0, none⟩), .int .i64 known] w fun r w' => ∃ g c, r = .returned (.tuple #[.slice (some ⟨g, 0, none⟩) 78 c, .bool true]) ∧ Hid (w.heap.size ≤ g ∧ TabAt w' g (tabF s known) ∧ RunAt S w' R s ∧ Below w.heap.size w w') := by
  obtain ⟨B, Fp, h1, h2, h3⟩ := id h
  refine (table_any R B s Fp known w h1 hk k0 k1).mono ?_
  rintro r w' ⟨v, rfl, ho, hb⟩
  rcases ho.2 with ⟨_, h0⟩ | ⟨g, cap, cur, rfl, hg, hc, hr⟩
  · exact absurd h0 (by decide)
  · refine ⟨g, cap, rfl, hg, fun j hj => ?_, h.mv hb, hb⟩
    rw [ho.cellAt j (by omega)]
    unfold tabL
    rw [List.getElem?_map, List.getElem?_range hj]
    rfl
theorem same_tab (ga gb ca cb : Nat) (f f' : Nat → Int) (w : World) (ha : TabAt w ga f) (hb : TabAt w gb f') (he : ∀ j, j < 78 → f j = f' j) :
    Calls Tryz.prog 16 #[.slice (some ⟨ga, 0, none⟩) 78 ca, .slice (some ⟨gb, 0, none⟩) 78 cb] w fun r w' => r = .returned (.bool true) ∧ Below w.heap.size w w' :=
  same_all ga gb 78 ca cb f w ha (fun j hj => by rw [hb j hj, he j hj]) (by decide)
theorem tab_known {s t : St} (h : s.Le t) {known : Int} (k0 : 0 ≤ known) (k1 : known ≤ s.ne) (j : Nat) : tabF t known j = tabF s known j := by
  unfold tabF
  exact St.known_le h _ _ (by omega)
/-- The memory of a run, but for what was made behind it. -/
def ofRun (R : Nat) (Fp : Nat → Prop) (n : Nat) (b : Nat) : Prop := b = R ∨ Fp b ∨ n ≤ b
theorem RunAt.only {S : Nat → Prop} {w w' : World} {R : Nat} {s : St} (h : RunAt S w R s) (hb : Below w.heap.size w w') : ∃ S', RunAt S' w' R s ∧ (∀ b, w'.heap.size ≤ b → S' b) ∧ (∀ b, S' b → S b ∨ w'.heap.size ≤ b) ∧ (∀ b, w.heap.size ≤ b → b < w'.heap.size → ¬ S' b) := by
  obtain ⟨B, Fp, h1, h2, h3⟩ := id h
  have hR := blk_lt h1.rn
  refine ⟨ofRun R Fp w'.heap.size, ⟨B, Fp, h1.mv hb, .inl rfl, fun b hb => .inr (.inl hb)⟩, fun b hb => .inr (.inr hb), fun b hb => ?_, fun b hb1 hb2 hs => ?_⟩
  · rcases hb with rfl | hb | hb
    · exact .inl h2
    · exact .inl (h3 b hb)
    · exact .inr hb
  · rcases hs with rfl | hs | hs
    · omega
    · have := h1.pg.lt hs; omega
    · omega
end Go.Proofs.YtjnmoddcodnadaaGreatDoor
namespace Go.Proofs.YtjnmoddcodnadaaGreatDoor
open Go.RowKit Go.Annal Go.Sort
theorem changed_at (w W : World) (h : Below w.heap.size w W) : Calls Tryz.prog 19 #[] W fun r w' => r = .returned (.bool true) ∧ Below w.heap.size w w' :=
  (changed_any W).mono fun _ _ ⟨hr, hb⟩ => ⟨hr, h.trans (hb.mono h.size)⟩
/-- A run behind steps that came in, and what it has. -/
theorem run_at (w0 w : World) (ad : Option Addr) (n cap : Nat) (qs : Nat → K5) (hS : StepsV w0 ad n qs) (h0 : Below w0.heap.size w0 w) :
    Calls Tryz.prog 10 #[.slice ad n cap] w fun r w' => ∃ R, r = .returned (.pointer (some ⟨R, 0, none⟩)) ∧ Hid (RunAt (fun b => w0.heap.size ≤ b) w' R (krun qs (lim n 40)) ∧ Below w0.heap.size w0 w') := by
  refine (run_any ad n cap qs w (hS.mv h0)).mono ?_
  rintro r w' ⟨R, rfl, hr⟩
  obtain ⟨⟨B, Fp, h1, h2, h3⟩, hb⟩ := hr.out
  exact ⟨R, rfl, ⟨B, Fp, h1, Nat.le_trans h0.size h2, fun b hb => Nat.le_trans h0.size (h3 b hb)⟩, h0.trans (hb.mono h0.size)⟩
theorem RunAt.n {S : Nat → Prop} {w : World} {R : Nat} {s : St} (h : RunAt S w R s) : w.cell? ⟨R, 1, none⟩ = some (.int .i64 s.ne) := by
  obtain ⟨B, Fp, h1, h2, h3⟩ := h
  exact blk_cell' h1.rn rfl
theorem RunAt.l {S : Nat → Prop} {w : World} {R : Nat} {s : St} (h : RunAt S w R s) : w.cell? ⟨R, 2, none⟩ = some (.int .i64 s.lk) := by
  obtain ⟨B, Fp, h1, h2, h3⟩ := h
  exact blk_cell' h1.rn rfl
theorem run_small (qs : Nat → K5) (n : Nat) : KOk (krun qs (lim n 40)) ∧ (krun qs (lim n 40)).ne ≤ 40 := by
  obtain ⟨h1, h2⟩ := krun_ok qs (lim n 40)
  exact ⟨h1, Nat.le_trans h2 (lim_le n 40).2⟩
end Go.Proofs.YtjnmoddcodnadaaGreatDoor
namespace Go.Proofs.YtjnmoddcodnadaaGreatDoor
open Go.RowKit Go.Annal Go.Sort
theorem RunIs.turn {w w' : World} {R B : Nat} {s : St} {Fp : Nat → Prop} (h : RunIs w R B s Fp) {S : Nat → Prop} (ht : Turn S w w') (hR : ¬ S R) (hF : ∀ b, Fp b → ¬ S b) : RunIs w' R B s Fp := ⟨ht.blk h.rn hR, h.pg.turn ht hF, h.ap⟩
/-- Two runs side by side. -/
def Two (b0 : Nat) (w : World) (R1 B1 R2 B2 : Nat) (s1 s2 : St) : Prop := ∃ F1 F2, RunIs w R1 B1 s1 F1 ∧ RunIs w R2 B2 s2 F2 ∧ R1 ≠ R2 ∧ ¬ F1 R2 ∧ ¬ F2 R1 ∧ (∀ b, F1 b → ¬ F2 b) ∧ b0 ≤ R1 ∧ b0 ≤ R2 ∧ (∀ b, F1 b → b0 ≤ b) ∧ (∀ b, F2 b → b0 ≤ b)
section
variable {b0 : Nat} {w w' : World} {R1 B1 R2 B2 : Nat} {s1 s2 : St}
theorem Two.symm (h : Two b0 w R1 B1 R2 B2 s1 s2) : Two b0 w R2 B2 R1 B1 s2 s1 := by
  obtain ⟨F1, F2, a1, a2, a3, a4, a5, a6, a7, a8, a9, a10⟩ := h
  exact ⟨F2, F1, a2, a1, a3.symm, a5, a4, fun b h h' => a6 b h' h, a8, a7, a10, a9⟩
theorem Two.mv (h : Two b0 w R1 B1 R2 B2 s1 s2) (hb : Below w.heap.size w w') : Two b0 w' R1 B1 R2 B2 s1 s2 := by
  obtain ⟨F1, F2, a1, a2, a⟩ := h
  exact ⟨F1, F2, a1.mv hb, a2.mv hb, a⟩
theorem Two.one (h : Two b0 w R1 B1 R2 B2 s1 s2) : RunAt (fun _ => True) w R1 s1 := by
  obtain ⟨F1, F2, a1, _⟩ := h
  exact ⟨B1, F1, a1, trivial, fun _ _ => trivial⟩
theorem Two.c0 (h : Two b0 w R1 B1 R2 B2 s1 s2) : w.cell? ⟨R1, 0, none⟩ = some (.pointer (some ⟨B1, 0, none⟩)) := by
  obtain ⟨F1, F2, a1, _⟩ := h
  exact blk_cell' a1.rn rfl
theorem Two.c1 (h : Two b0 w R1 B1 R2 B2 s1 s2) : w.cell? ⟨R1, 1, none⟩ = some (.int .i64 s1.ne) := by
  obtain ⟨F1, F2, a1, _⟩ := h
  exact blk_cell' a1.rn rfl
theorem Two.step (h : Two b0 w R1 B1 R2 B2 s1 s2) (_hb0 : b0 ≤ w.heap.size) (hk : KOk s1) (hne : s1.ne < 60) {q : K5} (hq : q.ok) :
    Calls Tryz.prog 13 #[.pointer (some ⟨R1, 0, none⟩), .agg q.v] w fun r w' => r = .returned (.bool true) ∧ Hid (Two b0 w' R1 B1 R2 B2 (s1.kstep q) s2 ∧ Turn (fun b => b0 ≤ b) w w') := by
  obtain ⟨F1, F2, a1, a2, a3, a4, a5, a6, a7, a8, a9, a10⟩ := h
  refine (step_any R1 B1 s1 F1 q w a1 hk hne hq).mono ?_
  rintro r w' ⟨rfl, F1', q1, q2, q3⟩
  have hR2 := blk_lt a2.rn
  refine ⟨rfl, ⟨F1', F2, q1, a2.turn q2 (fun e => e.elim (fun e => a3 e.symm) a4) (fun b hb e => e.elim (fun e => a5 (e ▸ hb)) (fun e => a6 b e hb)), a3, fun e => (q3 _ e).elim a4 (fun e => by omega), a5, fun b hb hb' => (q3 b hb).elim (fun e => a6 b e hb') (fun e => by have := a2.pg.lt hb'; omega), a7, a8, fun b hb => (q3 b hb).elim (a9 b) (fun e => by omega), a10⟩, q2.mono (fun b _ e => e.elim (fun e => e ▸ a7) (a9 b))⟩
theorem Two.write (h : Two b0 w R1 B1 R2 B2 s1 s2) (ho : s1.Ok) (ht : Tabs w) :
    Calls Tryz.prog 11 #[.pointer (some ⟨B1, 0, none⟩)] w fun r w' => r = .returned (.string s1.tx) ∧ Below w.heap.size w w' := by
  obtain ⟨F1, F2, a1, _⟩ := h
  exact progWrite B1 s1 F1 w a1.pg ho ht
end
theorem read_back {s : St} (h : Reads s) (ho : s.Ok) (w : World) (ht : Tabs w) :
    Calls Tryz.prog 12 #[.string s.tx] w fun r w' => r = .returned (.tuple #[.pointer (some ⟨w.heap.size + 3, 0, none⟩), .int .i64 0, .int .i64 0]) ∧ Hid (Below w.heap.size w w' ∧ ∃ Fp, ProgIs w' (w.heap.size + 3) s Fp ∧ ∀ b, Fp b → w.heap.size ≤ b) := by
  have hts := ho.ts
  have hne := ho.ne
  have hna := ho.na
  have hlk := ho.lk
  refine (read_F s.tx w ht (by omega)).mono ?_
  have hr := readL_ok _ _ _ 0 h.read
  rintro r w' ⟨hb, ⟨s', Fp, h1, h2, h3, h4, h5, h6, h7⟩ | ⟨p, x, s', h1, h2, h3, h4, h5⟩⟩
  · unfold readF at h1
    rw [hr] at h1
    have : s = s' := by simpa using h1
    subst this
    exact ⟨h5, hb, Fp, h6, h7⟩
  · unfold readF at h4
    rw [hr] at h4
    cases h4
/-- A run, with its book. -/
theorem run_two (w0 w : World) (ad : Option Addr) (n cap : Nat) (qs : Nat → K5) (hS : StepsV w0 ad n qs) (h0 : Below w0.heap.size w0 w) :
    Calls Tryz.prog 10 #[.slice ad n cap] w fun r w' => ∃ R B, r = .returned (.pointer (some ⟨R, 0, none⟩)) ∧ w'.cell? ⟨R, 0, none⟩ = some (.pointer (some ⟨B, 0, none⟩)) ∧ Hid (∃ Fp, RunIs w' R B (krun qs (lim n 40)) Fp ∧ w0.heap.size ≤ R ∧ (∀ b, Fp b → w0.heap.size ≤ b) ∧ Below w0.heap.size w0 w') := by
  refine (run_at w0 w ad n cap qs hS h0).mono ?_
  rintro r w' ⟨R, rfl, ⟨B, Fp, h1, h2, h3⟩, hb⟩
  exact ⟨R, B, rfl, blk_cell' h1.rn rfl, Fp, h1, h2, h3, hb⟩
theorem two_start {b0 : Nat} {w5 : World} {R B B2 : Nat} {s : St} {Fp Fp2 : Nat → Prop} (h1 : RunIs w5 R B s Fp) (h2 : ProgIs w5 B2 s Fp2) (hd : ∀ b, Fp b → ¬ Fp2 b) (hR : ¬ Fp2 R) (a1 : b0 ≤ R) (a2 : ∀ b, Fp b → b0 ≤ b) (a3 : ∀ b, Fp2 b → b0 ≤ b) :
    Two b0 (w5.alloc (.cells #[.pointer (some ⟨B2, 0, none⟩), .int .i64 s.ne, .int .i64 s.lk] 31)) R B w5.heap.size B2 s s := by
  have hb : Below w5.heap.size w5 (w5.alloc (.cells #[.pointer (some ⟨B2, 0, none⟩), .int .i64 s.ne, .int .i64 s.lk] 31)) := ((Grew.refl w5).alloc _).below
  have hlt := blk_lt h1.rn
  refine ⟨Fp, Fp2, h1.mv hb, ⟨heap_alloc_new w5 _, h2.turn (S := fun _ => False) (Turn.of_below hb) (fun _ _ h => h), fun h => by have := h2.lt h; omega⟩, by omega, fun h => by have := h1.pg.lt h; omega, hR, hd, a1, by omega, a2, a3⟩
set_option maxHeartbeats 2000000 in
set_option maxRecDepth 100000 in
theorem rewritten_walk (ad : Option Addr) (n cap : Nat) (qs : Nat → K5) (ad' : Option Addr) (n' cap' : Nat) (ms : Nat → K5) (known : Int) (w : World) (hS : StepsV w ad n qs) (hM : StepsV w ad' n' ms) (ht : Tabs w) (k1 : -9223372036854775808 ≤ known) (k2 : known ≤ 9223372036854775807) :
    Calls Tryz.prog 5 #[.slice ad n cap, .slice ad' n' cap', .int .i64 known] w fun r w' => r = .returned (.bool true) ∧ Below w.heap.size w w' := by
  have CC : Hid (type_of% (written_any w ht)) := written_any w ht
  have CT : Hid (∀ W, Below w.heap.size w W → Tabs W) := fun W h => ht.below h
  have CR : Hid (∀ W, Below w.heap.size w W → _) := fun W hW => run_two w W ad n cap qs hS hW
  obtain ⟨hk, hne⟩ := run_small qs n
  have hrd := krun_reads qs (lim n 40) (by have := (lim_le n 40).2; omega)
  obtain ⟨s, hs⟩ : ∃ s, krun qs (lim n 40) = s := ⟨_, rfl⟩
  rw [hs] at hk hne CR hrd
  have HM : Hid (type_of% hM) := hM
  have HK : Hid (type_of% hk) := hk
  have HRD : Hid (type_of% hrd) := hrd
  clear hs hS hM hk ht hrd
  have hne' : (s.ne : Int) ≤ 40 := by omega
  have CP : Hid (∀ (m : Nat), m ≤ 60 → ∃ k, 0 ≤ k ∧ k ≤ (m : Int) ∧ Hid (∀ W, Calls Tryz.prog 14 #[.int .i64 known, .int .i64 ((m : Int) + 1)] W fun r w' => r = .returned (.int .i64 k) ∧ w' = W)) := fun m hm => by
    have hb := pickI_bd known ((m : Int) + 1) (by omega)
    exact ⟨pickI known ((m : Int) + 1), hb.1, by omega, fun W => pickK_any known ((m : Int) + 1) W k1 k2 (by omega) (by omega)⟩
  go_enter Tryz.func5, Tryz.ntmps5
  go_wp2_with (first
    | (go_at_call 9; (with_reducible refine Calls.mono CC.out ?_); rintro e w1 ⟨rfl, hb1⟩)
    | (go_at_call 10; (with_reducible refine Calls.mono (CR.out _ hb1) ?_); rintro e w2 ⟨R, B, rfl, c0, h2⟩))
  obtain ⟨Fp, hr, hR0, hF0, hb2⟩ := h2.out
  with_reducible refine Calls.mono (progWrite B s Fp w2 hr.pg HK.out.ok (CT.out _ hb2)) ?_
  rintro e w3 ⟨rfl, hb3⟩
  have hb3' : Below w.heap.size w w3 := hb2.trans (hb3.mono hb2.size)
  have H3 : Hid (RunIs w3 R B s Fp ∧ w.heap.size ≤ R ∧ (∀ b, Fp b → w.heap.size ≤ b) ∧ Below w.heap.size w w3) := ⟨hr.mv hb3, hR0, hF0, hb3'⟩
  clear c0 h2 hr hR0 hF0 hb2 hb3 hb3' CC CR hb1
  go_wp2_with fail
  with_reducible refine Calls.mono (read_back HRD.out HK.out.ok w3 (CT.out _ H3.out.2.2.2)) ?_
  rintro e w4 ⟨rfl, h4⟩
  have CW4 : Hid (Calls Tryz.prog 11 #[.pointer (some ⟨w3.heap.size + 3, 0, none⟩)] w4 fun r w' => r = .returned (.string s.tx) ∧ Hid (RunIs w' R B s Fp ∧ Below w.heap.size w w' ∧ ∃ Fp2, ProgIs w' (w3.heap.size + 3) s Fp2 ∧ (∀ b, Fp2 b → w3.heap.size ≤ b)) ∧ w'.cell? ⟨R, 1, none⟩ = some (.int .i64 s.ne) ∧ w'.cell? ⟨R, 2, none⟩ = some (.int .i64 s.lk)) := by
    obtain ⟨hb4, Fp2, hp, hf⟩ := h4.out
    obtain ⟨hr, hR0, hF0, hb3⟩ := H3.out
    have hb4' := hb3.trans (hb4.mono hb3.size)
    refine (progWrite _ s Fp2 w4 hp HK.out.ok (CT.out _ hb4')).mono ?_
    rintro r w' ⟨rfl, hb5⟩
    have hr5 := (hr.mv hb4).mv hb5
    exact ⟨rfl, ⟨hr5, hb4'.trans (hb5.mono hb4'.size), Fp2, hp.turn (S := fun _ => False) (Turn.of_below hb5) (fun _ _ h => h), hf⟩, blk_cell' hr5.rn rfl, blk_cell' hr5.rn rfl⟩
  go_wp2_with (go_at_call 11; (with_reducible refine Calls.mono CW4.out ?_); rintro e w5 ⟨rfl, h5, c1, c2⟩)
  have HTw : Hid (Two w.heap.size (w5.alloc (.cells #[.pointer (some ⟨w3.heap.size + 3, 0, none⟩), .int .i64 s.ne, .int .i64 s.lk] 31)) R B w5.heap.size (w3.heap.size + 3) s s ∧ Below w.heap.size w (w5.alloc (.cells #[.pointer (some ⟨w3.heap.size + 3, 0, none⟩), .int .i64 s.ne, .int .i64 s.lk] 31))) := by
    obtain ⟨hr5, hb5, Fp2, hp, hf⟩ := h5.out
    obtain ⟨hr, hR0, hF0, hb3⟩ := H3.out
    have hlt := blk_lt hr.rn
    have hs3 := hb3.size
    exact ⟨two_start hr5 hp (fun b hb hb' => by have := hr.pg.lt hb; have := hf b hb'; omega) (fun hb => by have := hf R hb; omega) hR0 hF0 (fun b hb => by have := hf b hb; omega), hb5.alloc hb5.size _⟩
  go_region_with (fail)
  all_goals clear CW4 h4 h5 H3 c1 c2
  all_goals go_wp2_with fail
  all_goals
    have HTw' : Hid (Two w.heap.size (w5.alloc (.cells #[.pointer (some ⟨w3.heap.size + 3, 0, none⟩), .int .i64 s.ne, .int .i64 s.lk] 31)).drew R B w5.heap.size (w3.heap.size + 3) s s ∧ Below w.heap.size w (w5.alloc (.cells #[.pointer (some ⟨w3.heap.size + 3, 0, none⟩), .int .i64 s.ne, .int .i64 s.lk] 31)).drew) := ⟨HTw.out.1.mv ((Grew.refl _).drew).below, HTw.out.2.trans ((((Grew.refl _).drew).below).mono HTw.out.2.size)⟩
    clear HTw
    obtain ⟨R2, hR2⟩ : ∃ R2, w5.heap.size = R2 := ⟨_, rfl⟩
    obtain ⟨B2, hB2⟩ : ∃ B2, w3.heap.size + 3 = B2 := ⟨_, rfl⟩
    rw [hR2, hB2] at HTw' ⊢
    clear hR2 hB2
    go_loopw [14, 15, 16] (fun s14 _ _ wr => ∃ i : Nat, i ≤ n' ∧ i ≤ 10 ∧ s14 = .int .i64 i ∧ Hid (Two w.heap.size wr R B R2 B2 (kmore s ms i) (kmore s ms i) ∧ Below w.heap.size w wr)) (fun s14 _ _ _ => 10 - (intOf s14).toNat)
    case atStart => exact ⟨0, by omega, by omega, rfl, HTw'⟩
    case round =>
      obtain ⟨i, hin, hi10, rfl, hr⟩ := hrel
      clear HTw'
      have hi0 : (0 : Int) ≤ (i : Int) := by omega
      obtain ⟨hko, hle, hmn⟩ := kmore_ok HK.out ms i
      have HKO : Hid (type_of% hko) := hko
      clear hle hko
      by_cases hlt : i < n' ∧ i < 10
      · have hlt1 : (i : Int) < (n' : Int) := by omega
        have hlt2 : (i : Int) < 10 := by omega
        obtain ⟨g, o, rfl, c0, c1, c2, c3, c4⟩ := HM.out.at' (by omega)
        have hb := hr.out.2
        have d0 := cell_later hb (c0 i hlt.1)
        have d1 := cell_later hb (c1 i hlt.1)
        have d2 := cell_later hb (c2 i hlt.1)
        have d3 := cell_later hb (c3 i hlt.1)
        have d4 := cell_later hb (c4 i hlt.1)
        have C1 : Hid (Calls Tryz.prog 13 #[.pointer (some ⟨R, 0, none⟩), .agg #[.int .i64 (ms i).kind, .int .i64 (ms i).day, .int .i64 (ms i).a, .int .i64 (ms i).b, .int .i64 (ms i).c]] wr fun r w' => r = .returned (.bool true) ∧ Hid (Two w.heap.size w' R B R2 B2 (kmore s ms (i + 1)) (kmore s ms i) ∧ Below w.heap.size w w') ∧ w'.cell? ⟨g, o + i * 5, none⟩ = some (.int .i64 (ms i).kind) ∧ w'.cell? ⟨g, o + i * 5 + 1, none⟩ = some (.int .i64 (ms i).day) ∧ w'.cell? ⟨g, o + i * 5 + 2, none⟩ = some (.int .i64 (ms i).a) ∧ w'.cell? ⟨g, o + i * 5 + 3, none⟩ = some (.int .i64 (ms i).b) ∧ w'.cell? ⟨g, o + i * 5 + 4, none⟩ = some (.int .i64 (ms i).c)) := by
          refine (hr.out.1.step hb.size HKO.out (by omega) (HM.out.ok i hlt.1)).mono ?_
          rintro r w' ⟨rfl, q1, q2⟩
          have hb' : Below w.heap.size w w' := turn_below hb q2 (fun _ h => h)
          exact ⟨rfl, ⟨q1, hb'⟩, cell_later hb' (c0 i hlt.1), cell_later hb' (c1 i hlt.1), cell_later hb' (c2 i hlt.1), cell_later hb' (c3 i hlt.1), cell_later hb' (c4 i hlt.1)⟩
        have C2 : Hid (∀ W, Two w.heap.size W R B R2 B2 (kmore s ms (i + 1)) (kmore s ms i) ∧ Below w.heap.size w W → Calls Tryz.prog 13 #[.pointer (some ⟨R2, 0, none⟩), .agg #[.int .i64 (ms i).kind, .int .i64 (ms i).day, .int .i64 (ms i).a, .int .i64 (ms i).b, .int .i64 (ms i).c]] W fun r w' => r = .returned (.bool true) ∧ Hid (Two w.heap.size w' R B R2 B2 (kmore s ms (i + 1)) (kmore s ms (i + 1)) ∧ Below w.heap.size w w')) := fun W hW => by
          refine (hW.1.symm.step hW.2.size HKO.out (by omega) (HM.out.ok i hlt.1)).mono ?_
          rintro r w' ⟨rfl, q1, q2⟩
          exact ⟨rfl, q1.symm, turn_below hW.2 q2 (fun _ h => h)⟩
        clear c0 c1 c2 c3 c4 hb HM hmn HKO hr CP
        go_wp2_with (go_at_call 13; first
          | ((with_reducible refine Calls.mono C1.out ?_); rintro e w6 ⟨rfl, h6, e0, e1, e2, e3, e4⟩)
          | ((with_reducible refine Calls.mono (C2.out _ h6.out) ?_); rintro e w7 ⟨rfl, h7⟩))
        exact ⟨⟨i + 1, by omega, by omega, by go_num, h7⟩, by simp [intOf]; omega⟩
      · obtain ⟨t, htt⟩ : ∃ t, kmore s ms i = t := ⟨_, rfl⟩
        rw [htt] at hr HKO hmn
        clear htt
        obtain ⟨k, hk0, hk1, ck⟩ := CP.out t.ne (by omega)
        have c1 := hr.out.1.c1
        have hwr : IntKind.i64.wrap ((t.ne : Int) + 1) = (t.ne : Int) + 1 := wrap_id _ (by omega) (by omega)
        have T1 : Hid (∀ W, Below wr.heap.size wr W → Calls Tryz.prog 15 #[.pointer (some ⟨R, 0, none⟩), .int .i64 k] W fun r w' => ∃ g c, r = .returned (.tuple #[.slice (some ⟨g, 0, none⟩) 78 c, .bool true]) ∧ Hid (TabAt w' g (tabF t k) ∧ Below W.heap.size W w' ∧ Below wr.heap.size wr w')) := fun W hW => by
          refine (table_at _ R t k W (hr.out.1.mv hW).one HKO.out hk0 hk1).mono ?_
          rintro r w' ⟨g, c, rfl, h1, h2, h3, h4⟩
          exact ⟨g, c, rfl, h2, h4, hW.trans (h4.mono hW.size)⟩
        have T2 : Hid (∀ W, Below wr.heap.size wr W → Calls Tryz.prog 15 #[.pointer (some ⟨R2, 0, none⟩), .int .i64 k] W fun r w' => ∃ g c, r = .returned (.tuple #[.slice (some ⟨g, 0, none⟩) 78 c, .bool true]) ∧ Hid (TabAt w' g (tabF t k) ∧ Below W.heap.size W w' ∧ Below wr.heap.size wr w')) := fun W hW => by
          refine (table_at _ R2 t k W (hr.out.1.mv hW).symm.one HKO.out hk0 hk1).mono ?_
          rintro r w' ⟨g, c, rfl, h1, h2, h3, h4⟩
          exact ⟨g, c, rfl, h2, h4, hW.trans (h4.mono hW.size)⟩
        have TS : Hid (∀ W ga gb ca cb, TabAt W ga (tabF t k) → TabAt W gb (tabF t k) → Below wr.heap.size wr W → Calls Tryz.prog 16 #[.slice (some ⟨ga, 0, none⟩) 78 ca, .slice (some ⟨gb, 0, none⟩) 78 cb] W fun r w' => r = .returned (.bool true) ∧ Hid (Below wr.heap.size wr w') ∧ w'.cell? ⟨R, 0, none⟩ = some (.pointer (some ⟨B, 0, none⟩)) ∧ w'.cell? ⟨R2, 0, none⟩ = some (.pointer (some ⟨B2, 0, none⟩)) ∧ w'.cell? ⟨R, 1, none⟩ = some (.int .i64 t.ne) ∧ w'.cell? ⟨R2, 1, none⟩ = some (.int .i64 t.ne)) := fun W ga gb ca cb h1 h2 hW => by
          refine (same_tab ga gb ca cb _ _ W h1 h2 (fun _ _ => rfl)).mono ?_
          rintro r w' ⟨rfl, hb⟩
          have hb' := hW.trans (hb.mono hW.size)
          have hT := hr.out.1.mv hb'
          exact ⟨rfl, hb', hT.c0, hT.symm.c0, hT.c1, hT.symm.c1⟩
        have W1 : Hid (∀ W, Below wr.heap.size wr W → Calls Tryz.prog 11 #[.pointer (some ⟨B, 0, none⟩)] W fun r w' => r = .returned (.string t.tx) ∧ Hid (Below wr.heap.size wr w') ∧ w'.cell? ⟨R, 0, none⟩ = some (.pointer (some ⟨B, 0, none⟩)) ∧ w'.cell? ⟨R2, 0, none⟩ = some (.pointer (some ⟨B2, 0, none⟩)) ∧ w'.cell? ⟨R, 1, none⟩ = some (.int .i64 t.ne) ∧ w'.cell? ⟨R2, 1, none⟩ = some (.int .i64 t.ne)) := fun W hW => by
          have hbw := hr.out.2.trans (hW.mono hr.out.2.size)
          refine ((hr.out.1.mv hW).write HKO.out.ok (CT.out _ hbw)).mono ?_
          rintro r w' ⟨rfl, hb⟩
          have hb' := hW.trans (hb.mono hW.size)
          have hT := hr.out.1.mv hb'
          exact ⟨rfl, hb', hT.c0, hT.symm.c0, hT.c1, hT.symm.c1⟩
        have W2 : Hid (∀ W, Below wr.heap.size wr W → Calls Tryz.prog 11 #[.pointer (some ⟨B2, 0, none⟩)] W fun r w' => r = .returned (.string t.tx) ∧ Hid (Below wr.heap.size wr w') ∧ w'.cell? ⟨R, 0, none⟩ = some (.pointer (some ⟨B, 0, none⟩)) ∧ w'.cell? ⟨R2, 0, none⟩ = some (.pointer (some ⟨B2, 0, none⟩)) ∧ w'.cell? ⟨R, 1, none⟩ = some (.int .i64 t.ne) ∧ w'.cell? ⟨R2, 1, none⟩ = some (.int .i64 t.ne)) := fun W hW => by
          have hbw := hr.out.2.trans (hW.mono hr.out.2.size)
          refine ((hr.out.1.mv hW).symm.write HKO.out.ok (CT.out _ hbw)).mono ?_
          rintro r w' ⟨rfl, hb⟩
          have hb' := hW.trans (hb.mono hW.size)
          have hT := hr.out.1.mv hb'
          exact ⟨rfl, hb', hT.c0, hT.symm.c0, hT.c1, hT.symm.c1⟩
        have HB : Hid (Below w.heap.size w wr) := hr.out.2
        have hex : ((i : Int) < (n' : Int) ∧ ¬ (i : Int) < 10) ∨ ¬ (i : Int) < (n' : Int) := by omega
        generalize t.tx = tx at W1 W2
        clear HM HKO hr hmn CP CT
        rcases hex with ⟨h1', h2'⟩ | h1'
        all_goals go_wp2_with (first
          | (go_at_call 14; (with_reducible refine Calls.mono (ck.out _) ?_); rintro e wx ⟨rfl, hw⟩; rw [hw]; clear hw wx)
          | (go_at_call 15; first
            | ((with_reducible refine Calls.mono (T1.out _ (Below.refl _ _)) ?_); rintro e w7 ⟨g7, c7, rfl, h7⟩)
            | ((with_reducible refine Calls.mono (T2.out _ h7.out.2.2) ?_); rintro e w8 ⟨g8, c8, rfl, h8⟩))
          | (go_at_call 16; (with_reducible refine Calls.mono (TS.out _ _ _ _ _ (h7.out.1.mv h8.out.2.1) h8.out.1 h8.out.2.2) ?_); rintro e w9 ⟨rfl, h9, f0, f1, f2, f3⟩))
        all_goals go_region_held3 (fun w' => w'.cell? ⟨R, 0, none⟩ = some (.pointer (some ⟨B, 0, none⟩)) ∧ w'.cell? ⟨R2, 0, none⟩ = some (.pointer (some ⟨B2, 0, none⟩)) ∧ w'.cell? ⟨R, 1, none⟩ = some (.int .i64 t.ne) ∧ w'.cell? ⟨R2, 1, none⟩ = some (.int .i64 t.ne)) (go_keep) (first
          | (go_at_call 11; (with_reducible refine Calls.mono (W1.out _ ?_) ?_); (first | exact h9.out | exact h9.out.drew | exact h9.out.drew.drew); rintro e w10 ⟨rfl, h10, f4, f5, f6, f7⟩)
          | (go_at_call 11; (with_reducible refine Calls.mono (W2.out _ ?_) ?_); (first | exact h10.out | exact h10.out.drew | exact h10.out.drew.drew); rintro e w11 ⟨rfl, h11, f8, f9, f10, f11⟩))
        all_goals go_wp2
        all_goals go_ret
        all_goals exact ⟨rfl, HB.out.trans (h11.out.mono HB.out.size)⟩
end Go.Proofs.YtjnmoddcodnadaaGreatDoor
namespace Go.Proofs.YtjnmoddcodnadaaGreatDoor
open Go.ChangeShapes Go.WideShapes Go.ChangeAt Go.RowKit Go.Annal Go.Deep
theorem readsSteps : Tryz.prog.readableRec 25 = true := by kernel_rfl
theorem rowSteps : 25 < Tryz.prog.types.size := of_decide_eq_true (by kernel_rfl)
theorem readsStep : Tryz.prog.readableRec 38 = true := by kernel_rfl
theorem rowStep : 38 < Tryz.prog.types.size := of_decide_eq_true (by kernel_rfl)
theorem five_of {α : Type} : ∀ l : List α, l.length = 5 → ∃ a b c d e, l = [a, b, c, d, e]
  | [a, b, c, d, e], _ => ⟨a, b, c, d, e, rfl⟩
theorem Tryz.cInt : Tryz.prog.cellsOf 3 = 1 := by kernel_rfl
theorem Tryz.cStep : Tryz.prog.cellsOf 38 = 5 := by kernel_rfl
section
variable {H : Type} {enc : TypeId × Value → H} {W : World}
/-- The five cells of a step that came in. -/
theorem trod_step {n : Nat} {cs : List Value} {x : DataW H × List MemPlace} (h : DataW.trod enc Tryz.prog W 0 (fun _ => true) true n 38 cs = some x) (hl : cs.length = 5) : ∃ q : K5, cs = q.v.toList ∧ q.ok := by
  obtain ⟨v0, v1, v2, v3, v4, rfl⟩ := five_of cs hl
  obtain ⟨xs, k, _, hx, _, hlen, hf⟩ := DataW.trod_struct Tryz.underlying38 h
  obtain ⟨y0, y1, y2, y3, y4, rfl⟩ := five_of xs hlen
  have f0 : DataW.trod enc Tryz.prog W 0 (fun _ => true) true k 3 (List.take (Tryz.prog.cellsOf 3) (List.drop 0 [v0, v1, v2, v3, v4])) = some y0 := hf 0 _ rfl
  rw [Tryz.cInt] at f0
  have g0 : DataW.trod enc Tryz.prog W 0 (fun _ => true) true k 3 [v0] = some y0 := f0
  have f1 : DataW.trod enc Tryz.prog W 0 (fun _ => true) true k 3 (List.take (Tryz.prog.cellsOf 3) (List.drop 1 [v0, v1, v2, v3, v4])) = some y1 := hf 1 _ rfl
  rw [Tryz.cInt] at f1
  have g1 : DataW.trod enc Tryz.prog W 0 (fun _ => true) true k 3 [v1] = some y1 := f1
  have f2 : DataW.trod enc Tryz.prog W 0 (fun _ => true) true k 3 (List.take (Tryz.prog.cellsOf 3) (List.drop 2 [v0, v1, v2, v3, v4])) = some y2 := hf 2 _ rfl
  rw [Tryz.cInt] at f2
  have g2 : DataW.trod enc Tryz.prog W 0 (fun _ => true) true k 3 [v2] = some y2 := f2
  have f3 : DataW.trod enc Tryz.prog W 0 (fun _ => true) true k 3 (List.take (Tryz.prog.cellsOf 3) (List.drop 3 [v0, v1, v2, v3, v4])) = some y3 := hf 3 _ rfl
  rw [Tryz.cInt] at f3
  have g3 : DataW.trod enc Tryz.prog W 0 (fun _ => true) true k 3 [v3] = some y3 := f3
  have f4 : DataW.trod enc Tryz.prog W 0 (fun _ => true) true k 3 (List.take (Tryz.prog.cellsOf 3) (List.drop 4 [v0, v1, v2, v3, v4])) = some y4 := hf 4 _ rfl
  rw [Tryz.cInt] at f4
  have g4 : DataW.trod enc Tryz.prog W 0 (fun _ => true) true k 3 [v4] = some y4 := f4
  obtain ⟨z0, e0, _, w0⟩ := DataW.trod_int Tryz.underlying3 g0
  have e0' : v0 = .int .i64 z0 := by simpa using e0
  obtain ⟨z1, e1, _, w1⟩ := DataW.trod_int Tryz.underlying3 g1
  have e1' : v1 = .int .i64 z1 := by simpa using e1
  obtain ⟨z2, e2, _, w2⟩ := DataW.trod_int Tryz.underlying3 g2
  have e2' : v2 = .int .i64 z2 := by simpa using e2
  obtain ⟨z3, e3, _, w3⟩ := DataW.trod_int Tryz.underlying3 g3
  have e3' : v3 = .int .i64 z3 := by simpa using e3
  obtain ⟨z4, e4, _, w4⟩ := DataW.trod_int Tryz.underlying3 g4
  have e4' : v4 = .int .i64 z4 := by simpa using e4
  subst e0' e1' e2' e3' e4'
  exact ⟨⟨z0, z1, z2, z3, z4⟩, rfl, bounds_i64 w0, bounds_i64 w1, bounds_i64 w2, bounds_i64 w3, bounds_i64 w4⟩
/-- A step that came in by itself. -/
theorem open_step {v : Value} {d : DataW H} {p : List MemPlace} (h0 : DataW.Trod enc Tryz.prog W 0 (fun _ => true) true 38 v d p) (hsl : ∃ cs, v = .agg cs ∧ cs.size = Tryz.prog.cellsOf 38) : ∃ q : K5, v = .agg q.v ∧ q.ok := by
  obtain ⟨fuel, hf⟩ := h0
  obtain ⟨cs, rfl, hc⟩ := hsl
  rw [Tryz.cStep] at hc
  obtain ⟨q, h1, h2⟩ := trod_step (cs := cs.toList) hf (by simpa using hc)
  exact ⟨q, by rw [Array.toList_inj.1 h1], h2⟩
/-- A list of steps that came in. -/
theorem open_steps {v : Value} {d : DataW H} {p : List MemPlace} (h0 : DataW.Trod enc Tryz.prog W 0 (fun _ => true) true 25 v d p) (hsl : ∃ a len cap, v = .slice a len cap) : ∃ ad n cap qs, v = .slice ad n cap ∧ StepsV W ad n qs := by
  obtain ⟨fuel, hf⟩ := h0
  obtain ⟨a0, len0, cap0, rfl⟩ := hsl
  rcases open_slice Tryz.underlying25 hf with ⟨hcs, _⟩ | ⟨a, len, cap, m, n, D, Pl, hcs, _, hl, hm, hmm, hx, hel⟩
  · simp [Value.cells] at hcs
    obtain ⟨rfl, rfl, rfl⟩ := hcs
    exact ⟨none, 0, 0, fun _ => ⟨0, 0, 0, 0, 0⟩, rfl, fun h => absurd h (Nat.not_lt_zero _), fun k h => absurd h (Nat.not_lt_zero _)⟩
  · simp [Value.cells] at hcs
    obtain ⟨rfl, rfl, rfl⟩ := hcs
    simp only [if_true] at hmm
    subst hmm
    have raw : ∀ i, i < len0 → ∃ q : K5, W.cell? ((a.add (i * 5)).add 0) = some (.int .i64 q.kind) ∧ W.cell? ((a.add (i * 5)).add 1) = some (.int .i64 q.day) ∧ W.cell? ((a.add (i * 5)).add 2) = some (.int .i64 q.a) ∧ W.cell? ((a.add (i * 5)).add 3) = some (.int .i64 q.b) ∧ W.cell? ((a.add (i * 5)).add 4) = some (.int .i64 q.c) ∧ q.ok := fun i hi => by
      obtain ⟨cs', hc, ht⟩ := hel i (by omega)
      rw [Tryz.cStep] at hc
      obtain ⟨_, hl5, hcell⟩ := World.cells?_some hc
      obtain ⟨q, rfl, hq⟩ := trod_step ht hl5
      exact ⟨q, hcell 0 (by omega), hcell 1 (by omega), hcell 2 (by omega), hcell 3 (by omega), hcell 4 (by omega), hq⟩
    by_cases hz : len0 = 0
    · subst hz
      exact ⟨_, 0, _, fun _ => ⟨0, 0, 0, 0, 0⟩, rfl, fun h => absurd h (Nat.not_lt_zero _), fun k h => absurd h (Nat.not_lt_zero _)⟩
    · obtain ⟨b, off, spot⟩ := a
      obtain ⟨p0, hp0, _⟩ := raw 0 (by omega)
      obtain rfl : spot = none := by simpa [Addr.add] using World.cell?_spot hp0
      haveI : Inhabited K5 := ⟨⟨0, 0, 0, 0, 0⟩⟩
      obtain ⟨f, hf'⟩ := choose_lt (α := K5) raw
      have cc : ∀ i o, (Addr.add (Addr.add ⟨b, off, none⟩ (i * 5)) o) = ⟨b, off + i * 5 + o, none⟩ := fun i o => by rw [addr_add, addr_add]
      refine ⟨_, len0, m, f, rfl, fun _ => ⟨b, off, rfl, fun k hk => ?_, fun k hk => ?_, fun k hk => ?_, fun k hk => ?_, fun k hk => ?_⟩, fun k hk => (hf' k hk).2.2.2.2.2⟩
      · have := (hf' k hk).1; rw [cc] at this; exact this
      · have := (hf' k hk).2.1; rw [cc] at this; exact this
      · have := (hf' k hk).2.2.1; rw [cc] at this; exact this
      · have := (hf' k hk).2.2.2.1; rw [cc] at this; exact this
      · have := (hf' k hk).2.2.2.2.1; rw [cc] at this; exact this
end
end Go.Proofs.YtjnmoddcodnadaaGreatDoor
namespace Go.Proofs.YtjnmoddcodnadaaGreatDoor
open Go.ChangeShapes Go.WideShapes Go.ChangeAt Go.RowKit Go.Annal Go.Deep
set_option maxRecDepth 100000 in
theorem contractRewritten (H : Type) (enc : TypeId × Value → H) (W : World) (base : Nat) (args : Array Value) (ds gs : List (DataW H)) (before : List MemPlace)
    (hval : ∀ (j : Nat) t v, Tryz.f5.params[j]? = some t → args[j]? = some v → Value.okWide Tryz.prog W .any base t v)
    (hW : DataW.Whole enc Tryz.prog Tryz.f5.params.toList Rows.rewrittenSpec.vars false W args.toList ds gs before) (ht : Tabs W) :
    Calls Tryz.prog 5 args W fun e W' => ∃ v, e = .returned v ∧ Rows.rewrittenSpec.post enc Tryz.prog Tryz.f5 false true false false W args v W' := by
  have hW' := hW
  obtain ⟨p, q, hA0, hV, rfl, hfz, hnd⟩ := hW
  have hA : DataW.TrodAll enc Tryz.prog W 0 (fun _ => true) true Tryz.f5.params.toList args.toList ds p := hA0
  rw [Tryz.params5] at hA hval
  obtain ⟨v0, vs0, d0, ds0, p0, q0, hargs, rfl, rfl, h0, r0⟩ := trodAll_cons hA
  obtain ⟨v1, vs1, d1, ds1, p1, q1, rfl, rfl, rfl, h1, r1⟩ := trodAll_cons r0
  obtain ⟨v2, vs2, d2, ds2, p2, q2, rfl, rfl, rfl, h2, r2⟩ := trodAll_cons r1
  obtain ⟨rfl, rfl, rfl⟩ := trodAll_nil r2
  obtain rfl : args = #[v0, v1, v2] := by cases args; simp_all
  obtain ⟨rfl, rfl⟩ := trodVars_none hV
  obtain ⟨ad0, n0, cap0, qs0, e0, s0⟩ := open_steps h0 (okWide_slice Tryz.underlying25 (hval 0 _ v0 rfl rfl))
  have lt0 : ∀ x ∈ p0, x.block < W.heap.size := by obtain ⟨m, hm⟩ := h0; exact DataW.trod_lt m _ _ _ hm
  obtain ⟨ad1, n1, cap1, qs1, e1, s1⟩ := open_steps h1 (okWide_slice Tryz.underlying25 (hval 1 _ v1 rfl rfl))
  have lt1 : ∀ x ∈ p1, x.block < W.heap.size := by obtain ⟨m, hm⟩ := h1; exact DataW.trod_lt m _ _ _ hm
  obtain ⟨z2, rfl, rfl, rfl, w2⟩ := open_int Tryz.underlying3 (hval 2 _ v2 rfl rfl) h2
  have b2 := bounds_i64 w2
  clear hA0
  subst e0 e1
  refine (rewritten_walk ad0 n0 cap0 qs0 ad1 n1 cap1 qs1 z2 W s0 s1 ht b2.1 b2.2).mono fun e W' ⟨he, bel⟩ => ?_
  subst he
  exact ⟨_, rfl, _, _, _, [], _, [], hW', trodAll_mk1 (shut_bool Tryz.underlying4 _), (trodAll_cons_mk (Below.trod laidOut readsSteps rowSteps h0 bel lt0) (trodAll_cons_mk (Below.trod laidOut readsSteps rowSteps h1 bel lt1) (trodAll_cons_mk (shut_int Tryz.underlying3 w2) trodAll_mk0))), rfl, bel.frame _, fun h => by cases h⟩
theorem laid_metRewritten (os : Os) : laidMet Tryz.prog Rows.rewrittenRow.laid ((laidWorld os).forCall (fun _ _ => 0) ⟨#[], #[.slice none 0 0, .slice none 0 0, .int .i64 0], []⟩).memory :=
  laidMet_of_run' 8 (by kernel_rfl) (by kernel_rfl)
theorem readsRewritten (os : Os) {H : Type} (enc : TypeId × Value → H) : ∃ places, DataW.whole enc Tryz.prog ((laidWorld os).forCall (fun _ _ => 0) ⟨#[], #[.slice none 0 0, .slice none 0 0, .int .i64 0], []⟩).memory Tryz.f5.params.toList Rows.rewrittenSpec.vars false #[Value.slice none 0 0, Value.slice none 0 0, Value.int .i64 0].toList 8 = some ([.nil, .nil, .lit (.int .i64 0)], [], places) :=
  ⟨[], by kernel_rfl⟩
set_option maxRecDepth 100000 in
theorem liftedRewritten (os : Os) (started : os.Started) (H : Type) (enc : TypeId × Value → H) (F : Stop.Interp) :
    ReturnsInHanded {} Tryz.checked os 5 .any ((OpenSpec.ofChange Rows.rewrittenSpec).preRow enc Tryz.prog Tryz.f5 Rows.rewrittenRow.domain false Rows.rewrittenRow.laid) (((OpenSpec.ofChange Rows.rewrittenSpec).at F).post enc Tryz.prog Tryz.f5 false true false false) := by
  obtain ⟨places, hx⟩ := readsRewritten os enc
  refine returnsInHanded_of_row (C := Tryz.checked) (s := OpenSpec.ofChange Rows.rewrittenSpec) own started (by kernel_rfl) Tryz.func5
    (witness_row_at (enc := enc) (C := Tryz.checked) false (laidWorld os) #[.slice none 0 0, .slice none 0 0, .int .i64 0] rfl (by kernel_rfl) (by kernel_rfl) (by kernel_rfl)
      (OpenSpec.preRow_of_cond 8 hx (by kernel_rfl) (fun k hk => by cases hk) (by kernel_rfl) (laid_metRewritten os))) ?_
  intro W base args ds gs before hval hW _ hcond _ hL hS _
  exact contractRewritten H enc W base args ds gs before hval hW (tabs_of hL hS)
theorem saidRewritten : Rows.RewrittenSaid :=
  OpenClaim.holds_of_cond 5 Tryz.f5 rfl rfl rfl rfl rfl rfl rfl ⟨rfl, rfl, rfl, rfl, rfl⟩ rfl rfl rfl rfl rfl (by kernel_rfl) Tryz.func5 (by kernel_rfl)
    (of_decide_eq_true (by kernel_rfl)) (by unfold Func.isWrapper; first | (rw [if_pos (by decide +kernel)]; kernel_rfl) | (rw [if_neg (by decide +kernel)]; exact ⟨rfl, rfl⟩))
    (fun os started H enc _ F => by rw [OpenClaim.pre_eq_preRow]; exact liftedRewritten os started H enc F)
theorem plainRewritten (f : FuncId) (fn : Func) (hf : Tryz.pinned.checked.prog.funcNamed "annal/annalkeep.Rewritten" = some f) (hfn : Tryz.pinned.checked.prog.funcs[f]? = some fn) :
    true = Tryz.pinned.checked.prog.looks [] ∧ ∀ (j : Nat) t, fn.params[j]? = some t → Tryz.pinned.checked.prog.wantsStandIn t = false := by
  obtain rfl : f = 5 := Option.some.inj ((show Tryz.prog.funcNamed "annal/annalkeep.Rewritten" = some 5 by kernel_rfl).symm.trans hf) |>.symm
  obtain rfl : fn = Tryz.f5 := (Option.some.inj (Tryz.func5.symm.trans hfn)).symm
  refine ⟨by kernel_rfl, fun j t ht => ?_⟩
  rw [Tryz.params5] at ht
  have : t = 25 ∨ t = 3 := by simpa using Array.mem_of_getElem? ht
  rcases this with rfl | rfl
  · exact (show Tryz.prog.wantsStandIn 25 = false by kernel_rfl)
  · exact (show Tryz.prog.wantsStandIn 3 = false by kernel_rfl)
theorem rewrittenCard : Rows.RewrittenCardSaid :=
  Claim7.holds_tied_plain_at .later [] _ _ _ _ saidRewritten (fun _ h => by cases h) (by kernel_rfl) (fun _ h => by cases h) rewritten_row_tie rfl ⟨rfl, rfl⟩ (by kernel_rfl) rfl plainRewritten (by kernel_rfl)
#print axioms rewrittenCard
end Go.Proofs.YtjnmoddcodnadaaGreatDoor
