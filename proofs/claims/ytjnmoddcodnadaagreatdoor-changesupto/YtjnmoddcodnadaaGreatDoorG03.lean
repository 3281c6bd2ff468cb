import Derived.Test.YtjnmoddcodnadaaGreatDoorG00
import Derived.RegionTactic
import Derived.BigRegion
import Derived.Deep.RegionHeld3
set_option linter.unusedVariables false
set_option linter.unusedSimpArgs false
namespace Go.Proofs.YtjnmoddcodnadaaGreatDoor
open Go.RowKit Go.Annal
def orI (x y : Int) : Int := if x = 0 then y else x
set_option maxHeartbeats 400000 in
theorem or_two (x y : Int) (w : World) (b cap : Nat) (h0 : w.cell? ⟨b, 0, none⟩ = some (.int .i64 x)) (h1 : w.cell? ⟨b, 1, none⟩ = some (.int .i64 y)) :
    Calls Tryz.prog 164 #[.slice (some ⟨b, 0, none⟩) 2 cap] w fun r w' => r = .returned (.int .i64 (orI x y)) ∧ w' = w := by
  have fin : Hid (x ≠ 0 → orI x y = x) := fun h => by simp [orI, h]
  have fin2 : Hid (x = 0 → orI x y = y) := fun h => by simp [orI, h]
  by_cases hx : x = 0
  · by_cases hy : y = 0
    · go_enter Tryz.func164, Tryz.ntmps164
      go_wp2
      refine wp_loop_rounds 3 ?_; rw [rounds_succ]; go_wp2
      rw [rounds_succ]; go_wp2
      rw [rounds_succ]; go_wp2
      go_ret
      exact ⟨ret_int (by rw [fin2.out hx, hy]), rfl⟩
    · have hy' : (y == 0) = false := by simp [hy]
      go_enter Tryz.func164, Tryz.ntmps164
      go_wp2
      refine wp_loop_rounds 3 ?_; rw [rounds_succ]; go_wp2
      rw [rounds_succ]; go_wp2
      go_ret
      exact ⟨ret_int (fin2.out hx).symm, rfl⟩
  · have hx' : (x == 0) = false := by simp [hx]
    go_enter Tryz.func164, Tryz.ntmps164
    go_wp2
    refine wp_loop_rounds 3 ?_; rw [rounds_succ]; go_wp2
    go_ret
    exact ⟨ret_int (fin.out hx).symm, rfl⟩

set_option maxHeartbeats 400000 in
theorem order_any (e1 d1 a1 e2 d2 a2 : Int) (w : World) :
    Calls Tryz.prog 141 #[.agg #[.int .i64 e1, .int .i64 d1, .int .i64 a1], .agg #[.int .i64 e2, .int .i64 d2, .int .i64 a2]] w fun r w' => r = .returned (.int .i64 (orI (cmpI d1 d2) (cmpI e1 e2))) ∧ Grew w w' := by
  go_enter Tryz.func141, Tryz.ntmps141
  go_wp2
  go_region_held3 (fun w' => w'.cell? ⟨w.heap.size, 1, none⟩ = some (.int .i64 d1) ∧ w'.cell? ⟨w.heap.size, 0, none⟩ = some (.int .i64 e1) ∧ w'.cell? ⟨w.heap.size + 1, 1, none⟩ = some (.int .i64 d2) ∧ w'.cell? ⟨w.heap.size + 1, 0, none⟩ = some (.int .i64 e2)) (go_keep)
    (first | (go_at_call 165; refine (cmpInt_any _ _ _).mono ?_; rintro e w' ⟨rfl, rfl⟩) | (go_at_call 164; refine (or_two (cmpI d1 d2) (cmpI e1 e2) _ _ _ (by go_simp) (by go_simp)).mono ?_; rintro e w' ⟨rfl, rfl⟩))
  all_goals go_wp2
  all_goals go_ret
  all_goals exact ⟨rfl, by repeat first | exact Grew.refl _ | refine Grew.drew ?_ | refine Grew.alloc ?_ _⟩

set_option maxHeartbeats 400000 in
theorem orderRow_any (e1 d1 a1 s1 e2 d2 a2 s2 : Int) (w : World) :
    Calls Tryz.prog 140 #[.agg #[.int .i64 e1, .int .i64 d1, .int .i64 a1, .int .i64 s1], .agg #[.int .i64 e2, .int .i64 d2, .int .i64 a2, .int .i64 s2]] w fun r w' => r = .returned (.int .i64 (orI (cmpI d1 d2) (cmpI e1 e2))) ∧ Grew w w' := by
  go_enter Tryz.func140, Tryz.ntmps140
  go_wp2_with (go_at_call 141; refine (order_any _ _ _ _ _ _ _).mono ?_; rintro e w' ⟨rfl, hg⟩)
  go_ret
  exact ⟨rfl, Grew.trans (by repeat first | exact Grew.refl _ | refine Grew.drew ?_ | refine Grew.alloc ?_ _) hg⟩
end Go.Proofs.YtjnmoddcodnadaaGreatDoor
