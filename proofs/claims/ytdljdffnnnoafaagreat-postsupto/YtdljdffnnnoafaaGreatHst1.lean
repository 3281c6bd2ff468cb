import Derived.Test.YtdljdffnnnoafaaGreatBase
import Derived.RegionTactic
import Derived.BigRegion
import Derived.Deep.RegionHeld3
import Derived.Shelf.SlSorted.Search
import Derived.Shelf.SlSortCmp.NoneTotal
import Derived.Shelf.SlCmpFuncs.None
import Derived.Shelf.Strconv.Clone
import Derived.Test.YtdljdffnnnoafaaGreatProg
import Derived.RangeFuncNested
import Derived.RangeFuncBound
import Derived.RangeFuncCalls
import Derived.RangeFuncLeaves
import Derived.RangeFuncBox
import Derived.Shelf.Abstract
import Derived.Shelf.RegionOpen
import Derived.OwnWalkIn
import Derived.TacticsInMore
import Derived.LoopNIn
import Derived.LoopIn
set_option linter.unusedVariables false
set_option linter.unusedSimpArgs false
namespace Go.Proofs.YtdljdffnnnoafaaGreat
open Go.RowKit Go.Annal
def orI (x y : Int) : Int := if x = 0 then y else x
set_option maxHeartbeats 400000 in
theorem or_two (x y : Int) (w : World) (b cap : Nat) (h0 : w.cell? ⟨b, 0, none⟩ = some (.int .i64 x)) (h1 : w.cell? ⟨b, 1, none⟩ = some (.int .i64 y)) :
    Calls Tryz.prog 98 #[.slice (some ⟨b, 0, none⟩) 2 cap] w fun r w' => r = .returned (.int .i64 (orI x y)) ∧ w' = w := by
  have fin : Hid (x ≠ 0 → orI x y = x) := fun h => by simp [orI, h]
  have fin2 : Hid (x = 0 → orI x y = y) := fun h => by simp [orI, h]
  by_cases hx : x = 0
  · by_cases hy : y = 0
    · go_enter Tryz.func98, Tryz.ntmps98
      go_wp2
      refine wp_loop_rounds 3 ?_; rw [rounds_succ]; go_wp2
      rw [rounds_succ]; go_wp2
      rw [rounds_succ]; go_wp2
      go_ret
      exact ⟨ret_int (by rw [fin2.out hx, hy]), rfl⟩
    · have hy' : (y == 0) = false := by simp [hy]
      go_enter Tryz.func98, Tryz.ntmps98
      go_wp2
      refine wp_loop_rounds 3 ?_; rw [rounds_succ]; go_wp2
      rw [rounds_succ]; go_wp2
      go_ret
      exact ⟨ret_int (fin2.out hx).symm, rfl⟩
  · have hx' : (x == 0) = false := by simp [hx]
    go_enter Tryz.func98, Tryz.ntmps98
    go_wp2
    refine wp_loop_rounds 3 ?_; rw [rounds_succ]; go_wp2
    go_ret
    exact ⟨ret_int (fin.out hx).symm, rfl⟩

set_option maxHeartbeats 400000 in
theorem order_any (e1 d1 a1 e2 d2 a2 : Int) (w : World) :
    Calls Tryz.prog 84 #[.agg #[.int .i64 e1, .int .i64 d1, .int .i64 a1], .agg #[.int .i64 e2, .int .i64 d2, .int .i64 a2]] w fun r w' => r = .returned (.int .i64 (orI (cmpI d1 d2) (cmpI e1 e2))) ∧ Grew w w' := by
  go_enter Tryz.func84, Tryz.ntmps84
  go_wp2
  go_region_held3 (fun w' => w'.cell? ⟨w.heap.size, 1, none⟩ = some (.int .i64 d1) ∧ w'.cell? ⟨w.heap.size, 0, none⟩ = some (.int .i64 e1) ∧ w'.cell? ⟨w.heap.size + 1, 1, none⟩ = some (.int .i64 d2) ∧ w'.cell? ⟨w.heap.size + 1, 0, none⟩ = some (.int .i64 e2)) (go_keep)
    (first | (go_at_call 99; refine (cmpInt_any _ _ _).mono ?_; rintro e w' ⟨rfl, rfl⟩) | (go_at_call 98; refine (or_two (cmpI d1 d2) (cmpI e1 e2) _ _ _ (by go_simp) (by go_simp)).mono ?_; rintro e w' ⟨rfl, rfl⟩))
  all_goals go_wp2
  all_goals go_ret
  all_goals exact ⟨rfl, by repeat first | exact Grew.refl _ | refine Grew.drew ?_ | refine Grew.alloc ?_ _⟩

set_option maxHeartbeats 400000 in
theorem orderRow_any (e1 d1 a1 s1 e2 d2 a2 s2 : Int) (w : World) :
    Calls Tryz.prog 90 #[.agg #[.int .i64 e1, .int .i64 d1, .int .i64 a1, .int .i64 s1], .agg #[.int .i64 e2, .int .i64 d2, .int .i64 a2, .int .i64 s2]] w fun r w' => r = .returned (.int .i64 (orI (cmpI d1 d2) (cmpI e1 e2))) ∧ Grew w w' := by
  go_enter Tryz.func90, Tryz.ntmps90
  go_wp2_with (go_at_call 84; refine (order_any _ _ _ _ _ _ _).mono ?_; rintro e w' ⟨rfl, hg⟩)
  go_ret
  exact ⟨rfl, Grew.trans (by repeat first | exact Grew.refl _ | refine Grew.drew ?_ | refine Grew.alloc ?_ _) hg⟩
end Go.Proofs.YtdljdffnnnoafaaGreat
namespace Go.Proofs
open Go.Shelf
def Tryz.searchL_ren : Go.Shelf.Ren := ⟨fun | 16 => 93 | n => n, fun | 3 => 3 | 35 => 91 | 4 => 4 | 38 => 125 | n => n, fun | n => n⟩
theorem Tryz.searchL : Go.Proofs.SlLaysO.n16 Tryz.prog Tryz.searchL_ren := {
  mixed := by kernel_rfl
  f16 := Tryz.func93.trans (congrArg some (by kernel_rfl))
  t3 := Tryz.underlying3
  a3 := Tryz.isAgg3
  z3 := Tryz.sizeOf3
  v3 := Tryz.zeroValue3
  t4 := Tryz.underlying4
  a4 := Tryz.isAgg4
  z4 := Tryz.sizeOf4
  v4 := Tryz.zeroValue4
  t35 := Tryz.underlying91
  a35 := Tryz.isAgg91
  z35 := Tryz.sizeOf91
  v35 := Tryz.zeroValue91
  t38 := Tryz.underlying125
  a38 := Tryz.isAgg125
  z38 := Tryz.sizeOf125
  v38 := Tryz.zeroValue125 }
def Tryz.sortItemsL_ren : Go.Shelf.Ren := ⟨fun | 6 => 83 | 15 => 97 | 14 => 96 | 28 => 109 | 29 => 110 | 20 => 101 | 21 => 102 | 22 => 103 | 23 => 104 | 24 => 105 | 25 => 106 | 26 => 107 | 27 => 108 | 46 => 120 | 47 => 121 | 48 => 122 | 49 => 123 | 50 => 124 | 57 => 128 | n => n, fun | 22 => 61 | 24 => 63 | 25 => 143 | 3 => 3 | 39 => 125 | 0 => 0 | 53 => 163 | 55 => 165 | 4 => 4 | 46 => 157 | 45 => 156 | 50 => 72 | 5 => 5 | 9 => 9 | 66 => 171 | 70 => 175 | 76 => 179 | 77 => 110 | n => n, fun | n => n⟩
theorem Tryz.sortItemsL : Go.Proofs.SlLaysF0.n6 Tryz.prog Tryz.sortItemsL_ren := {
  mixed := by kernel_rfl
  f6 := ⟨Tryz.f83.name, by decide, Tryz.func83.trans (congrArg some (by kernel_rfl))⟩
  f14 := ⟨Tryz.f96.name, by decide, Tryz.func96.trans (congrArg some (by kernel_rfl))⟩
  f15 := Tryz.func97.trans (congrArg some (by kernel_rfl))
  f20 := ⟨Tryz.f101.name, by decide, Tryz.func101.trans (congrArg some (by kernel_rfl))⟩
  f21 := ⟨Tryz.f102.name, by decide, Tryz.func102.trans (congrArg some (by kernel_rfl))⟩
  f22 := ⟨Tryz.f103.name, by decide, Tryz.func103.trans (congrArg some (by kernel_rfl))⟩
  f23 := ⟨Tryz.f104.name, by decide, Tryz.func104.trans (congrArg some (by kernel_rfl))⟩
  f24 := ⟨Tryz.f105.name, by decide, Tryz.func105.trans (congrArg some (by kernel_rfl))⟩
  f25 := ⟨Tryz.f106.name, by decide, Tryz.func106.trans (congrArg some (by kernel_rfl))⟩
  f26 := ⟨Tryz.f107.name, by decide, Tryz.func107.trans (congrArg some (by kernel_rfl))⟩
  f27 := ⟨Tryz.f108.name, by decide, Tryz.func108.trans (congrArg some (by kernel_rfl))⟩
  f28 := Tryz.func109.trans (congrArg some (by kernel_rfl))
  f29 := Tryz.func110.trans (congrArg some (by kernel_rfl))
  f46 := ⟨Tryz.f120.name, by decide, Tryz.func120.trans (congrArg some (by kernel_rfl))⟩
  f47 := Tryz.func121.trans (congrArg some (by kernel_rfl))
  f48 := Tryz.func122.trans (congrArg some (by kernel_rfl))
  f49 := ⟨Tryz.f123.name, by decide, Tryz.func123.trans (congrArg some (by kernel_rfl))⟩
  f50 := ⟨Tryz.f124.name, by decide, Tryz.func124.trans (congrArg some (by kernel_rfl))⟩
  f57 := ⟨Tryz.f128.name, by decide, Tryz.func128.trans (congrArg some (by kernel_rfl))⟩
  t0 := Tryz.underlying0
  a0 := Tryz.isAgg0
  z0 := Tryz.sizeOf0
  v0 := Tryz.zeroValue0
  t3 := Tryz.underlying3
  a3 := Tryz.isAgg3
  z3 := Tryz.sizeOf3
  v3 := Tryz.zeroValue3
  t4 := Tryz.underlying4
  a4 := Tryz.isAgg4
  z4 := Tryz.sizeOf4
  v4 := Tryz.zeroValue4
  t5 := Tryz.underlying5
  a5 := Tryz.isAgg5
  z5 := Tryz.sizeOf5
  v5 := Tryz.zeroValue5
  t9 := Tryz.underlying9
  a9 := Tryz.isAgg9
  z9 := Tryz.sizeOf9
  v9 := Tryz.zeroValue9
  t22 := Tryz.underlying61
  a22 := Tryz.isAgg61
  z22 := Tryz.sizeOf61
  v22 := Tryz.zeroValue61
  t25 := Tryz.underlying143
  a25 := Tryz.isAgg143
  z25 := Tryz.sizeOf143
  v25 := Tryz.zeroValue143
  t39 := Tryz.underlying125
  a39 := Tryz.isAgg125
  z39 := Tryz.sizeOf125
  v39 := Tryz.zeroValue125
  t45 := Tryz.underlying156
  a45 := Tryz.isAgg156
  z45 := Tryz.sizeOf156
  v45 := Tryz.zeroValue156
  t46 := Tryz.underlying157
  a46 := Tryz.isAgg157
  z46 := Tryz.sizeOf157
  v46 := Tryz.zeroValue157
  t50 := Tryz.underlying72
  a50 := Tryz.isAgg72
  z50 := Tryz.sizeOf72
  v50 := Tryz.zeroValue72
  t53 := Tryz.underlying163
  a53 := Tryz.isAgg163
  z53 := Tryz.sizeOf163
  v53 := Tryz.zeroValue163
  t55 := Tryz.underlying165
  a55 := Tryz.isAgg165
  z55 := Tryz.sizeOf165
  v55 := Tryz.zeroValue165
  t66 := Tryz.underlying171
  a66 := Tryz.isAgg171
  z66 := Tryz.sizeOf171
  v66 := Tryz.zeroValue171
  t70 := Tryz.underlying175
  a70 := Tryz.isAgg175
  z70 := Tryz.sizeOf175
  v70 := Tryz.zeroValue175
  t76 := Tryz.underlying179
  a76 := Tryz.isAgg179
  z76 := Tryz.sizeOf179
  v76 := Tryz.zeroValue179
  t77 := Tryz.underlying110
  a77 := Tryz.isAgg110
  z77 := Tryz.sizeOf110
  v77 := Tryz.zeroValue110 }
def Tryz.sortRowsL_ren : Go.Shelf.Ren := ⟨fun | 6 => 89 | 15 => 97 | 14 => 100 | 28 => 109 | 29 => 110 | 20 => 112 | 21 => 113 | 22 => 114 | 23 => 115 | 24 => 116 | 25 => 117 | 26 => 118 | 27 => 119 | 46 => 125 | 47 => 121 | 48 => 122 | 49 => 126 | 50 => 127 | 57 => 129 | n => n, fun | 22 => 137 | 24 => 141 | 25 => 147 | 3 => 3 | 39 => 125 | 0 => 0 | 53 => 163 | 55 => 165 | 4 => 4 | 46 => 157 | 45 => 156 | 50 => 72 | 5 => 5 | 9 => 9 | 66 => 171 | 70 => 175 | 76 => 179 | 77 => 110 | n => n, fun | n => n⟩
theorem Tryz.sortRowsL : Go.Proofs.SlLaysF0.n6 Tryz.prog Tryz.sortRowsL_ren := {
  mixed := by kernel_rfl
  f6 := ⟨Tryz.f89.name, by decide, Tryz.func89.trans (congrArg some (by kernel_rfl))⟩
  f14 := ⟨Tryz.f100.name, by decide, Tryz.func100.trans (congrArg some (by kernel_rfl))⟩
  f15 := Tryz.func97.trans (congrArg some (by kernel_rfl))
  f20 := ⟨Tryz.f112.name, by decide, Tryz.func112.trans (congrArg some (by kernel_rfl))⟩
  f21 := ⟨Tryz.f113.name, by decide, Tryz.func113.trans (congrArg some (by kernel_rfl))⟩
  f22 := ⟨Tryz.f114.name, by decide, Tryz.func114.trans (congrArg some (by kernel_rfl))⟩
  f23 := ⟨Tryz.f115.name, by decide, Tryz.func115.trans (congrArg some (by kernel_rfl))⟩
  f24 := ⟨Tryz.f116.name, by decide, Tryz.func116.trans (congrArg some (by kernel_rfl))⟩
  f25 := ⟨Tryz.f117.name, by decide, Tryz.func117.trans (congrArg some (by kernel_rfl))⟩
  f26 := ⟨Tryz.f118.name, by decide, Tryz.func118.trans (congrArg some (by kernel_rfl))⟩
  f27 := ⟨Tryz.f119.name, by decide, Tryz.func119.trans (congrArg some (by kernel_rfl))⟩
  f28 := Tryz.func109.trans (congrArg some (by kernel_rfl))
  f29 := Tryz.func110.trans (congrArg some (by kernel_rfl))
  f46 := ⟨Tryz.f125.name, by decide, Tryz.func125.trans (congrArg some (by kernel_rfl))⟩
  f47 := Tryz.func121.trans (congrArg some (by kernel_rfl))
  f48 := Tryz.func122.trans (congrArg some (by kernel_rfl))
  f49 := ⟨Tryz.f126.name, by decide, Tryz.func126.trans (congrArg some (by kernel_rfl))⟩
  f50 := ⟨Tryz.f127.name, by decide, Tryz.func127.trans (congrArg some (by kernel_rfl))⟩
  f57 := ⟨Tryz.f129.name, by decide, Tryz.func129.trans (congrArg some (by kernel_rfl))⟩
  t0 := Tryz.underlying0
  a0 := Tryz.isAgg0
  z0 := Tryz.sizeOf0
  v0 := Tryz.zeroValue0
  t3 := Tryz.underlying3
  a3 := Tryz.isAgg3
  z3 := Tryz.sizeOf3
  v3 := Tryz.zeroValue3
  t4 := Tryz.underlying4
  a4 := Tryz.isAgg4
  z4 := Tryz.sizeOf4
  v4 := Tryz.zeroValue4
  t5 := Tryz.underlying5
  a5 := Tryz.isAgg5
  z5 := Tryz.sizeOf5
  v5 := Tryz.zeroValue5
  t9 := Tryz.underlying9
  a9 := Tryz.isAgg9
  z9 := Tryz.sizeOf9
  v9 := Tryz.zeroValue9
  t22 := Tryz.underlying137
  a22 := Tryz.isAgg137
  z22 := Tryz.sizeOf137
  v22 := Tryz.zeroValue137
  t25 := Tryz.underlying147
  a25 := Tryz.isAgg147
  z25 := Tryz.sizeOf147
  v25 := Tryz.zeroValue147
  t39 := Tryz.underlying125
  a39 := Tryz.isAgg125
  z39 := Tryz.sizeOf125
  v39 := Tryz.zeroValue125
  t45 := Tryz.underlying156
  a45 := Tryz.isAgg156
  z45 := Tryz.sizeOf156
  v45 := Tryz.zeroValue156
  t46 := Tryz.underlying157
  a46 := Tryz.isAgg157
  z46 := Tryz.sizeOf157
  v46 := Tryz.zeroValue157
  t50 := Tryz.underlying72
  a50 := Tryz.isAgg72
  z50 := Tryz.sizeOf72
  v50 := Tryz.zeroValue72
  t53 := Tryz.underlying163
  a53 := Tryz.isAgg163
  z53 := Tryz.sizeOf163
  v53 := Tryz.zeroValue163
  t55 := Tryz.underlying165
  a55 := Tryz.isAgg165
  z55 := Tryz.sizeOf165
  v55 := Tryz.zeroValue165
  t66 := Tryz.underlying171
  a66 := Tryz.isAgg171
  z66 := Tryz.sizeOf171
  v66 := Tryz.zeroValue171
  t70 := Tryz.underlying175
  a70 := Tryz.isAgg175
  z70 := Tryz.sizeOf175
  v70 := Tryz.zeroValue175
  t76 := Tryz.underlying179
  a76 := Tryz.isAgg179
  z76 := Tryz.sizeOf179
  v76 := Tryz.zeroValue179
  t77 := Tryz.underlying110
  a77 := Tryz.isAgg110
  z77 := Tryz.sizeOf110
  v77 := Tryz.zeroValue110 }
def Tryz.placeL_ren : Go.Shelf.Ren := ⟨fun | 14 => 50 | n => n, fun | 22 => 65 | 24 => 74 | 29 => 9 | 32 => 106 | 3 => 3 | 4 => 4 | 35 => 125 | 0 => 0 | n => n, fun | n => n⟩
theorem Tryz.placeL : Go.Proofs.SlLaysG2.n14 Tryz.prog Tryz.placeL_ren := {
  mixed := by kernel_rfl
  f14 := ⟨Tryz.f50.name, by decide, Tryz.func50.trans (congrArg some (by kernel_rfl))⟩
  t0 := Tryz.underlying0
  a0 := Tryz.isAgg0
  z0 := Tryz.sizeOf0
  v0 := Tryz.zeroValue0
  t3 := Tryz.underlying3
  a3 := Tryz.isAgg3
  z3 := Tryz.sizeOf3
  v3 := Tryz.zeroValue3
  t4 := Tryz.underlying4
  a4 := Tryz.isAgg4
  z4 := Tryz.sizeOf4
  v4 := Tryz.zeroValue4
  t22 := Tryz.underlying65
  a22 := Tryz.isAgg65
  z22 := Tryz.sizeOf65
  v22 := Tryz.zeroValue65
  a24 := Tryz.isAgg74
  z24 := Tryz.sizeOf74
  a29 := Tryz.isAgg9
  z29 := Tryz.sizeOf9
  t32 := Tryz.underlying106
  a32 := Tryz.isAgg106
  z32 := Tryz.sizeOf106
  v32 := Tryz.zeroValue106
  t35 := Tryz.underlying125
  a35 := Tryz.isAgg125
  z35 := Tryz.sizeOf125
  v35 := Tryz.zeroValue125 }
def Tryz.cloneL_ren : Go.Shelf.Ren := ⟨fun | 316 => 54 | n => n, fun | 9 => 9 | 3 => 3 | 4 => 4 | 37 => 112 | 0 => 0 | 127 => 126 | 5 => 5 | n => n, fun | n => n⟩
theorem Tryz.cloneL : Go.Proofs.LaysM.n316 Tryz.prog Tryz.cloneL_ren := {
  mixed := by kernel_rfl
  f316 := Tryz.func54.trans (congrArg some (by kernel_rfl))
  t0 := Tryz.underlying0
  a0 := Tryz.isAgg0
  z0 := Tryz.sizeOf0
  v0 := Tryz.zeroValue0
  t3 := Tryz.underlying3
  a3 := Tryz.isAgg3
  z3 := Tryz.sizeOf3
  v3 := Tryz.zeroValue3
  t4 := Tryz.underlying4
  a4 := Tryz.isAgg4
  z4 := Tryz.sizeOf4
  v4 := Tryz.zeroValue4
  t9 := Tryz.underlying9
  a9 := Tryz.isAgg9
  z9 := Tryz.sizeOf9
  v9 := Tryz.zeroValue9
  t37 := Tryz.underlying112
  a37 := Tryz.isAgg112
  z37 := Tryz.sizeOf112
  v37 := Tryz.zeroValue112
  t127 := Tryz.underlying126
  a127 := Tryz.isAgg126
  z127 := Tryz.sizeOf126
  v127 := Tryz.zeroValue126
  t5 := Tryz.underlying5
  a5 := Tryz.isAgg5
  z5 := Tryz.sizeOf5
  v5 := Tryz.zeroValue5
  i0 := by kernel_rfl
  i3 := by kernel_rfl
  i4 := by kernel_rfl
  i5 := by kernel_rfl
  i9 := by kernel_rfl
  i37 := by kernel_rfl
  i127 := by kernel_rfl }
end Go.Proofs
namespace Go.Proofs.YtdljdffnnnoafaaGreat
open Go.RowKit Go.Annal Go.Sort
set_option maxHeartbeats 400000 in
theorem before1_any (i B B' g len cap : Nat) (day x : Int) (w : World) (hb : w.cell? ⟨B, 1, none⟩ = some (.slice (some ⟨g, 0, none⟩) len cap))
    (hd : w.cell? ⟨B', 0, none⟩ = some (.int .i64 day)) (hi : i < len) (hc : w.cell? ⟨g, i * 4 + 1, none⟩ = some (.int .i64 x)) :
    Calls Tryz.prog 95 #[.int .i64 i, .pointer (some ⟨B, 0, none⟩), .pointer (some ⟨B', 0, none⟩)] w fun r w' => r = .returned (.bool (decide (day ≤ x))) ∧ Grew w w' := by
  have hi' : (i : Int) < (len : Int) := by omega
  have hi0 : (0 : Int) ≤ (i : Int) := by omega
  go_enter Tryz.func95, Tryz.ntmps95
  go_wp2
  go_quiet (fail)
  go_wp2
  go_ret
  exact ⟨rfl, (Grew.refl _).drewN _⟩

set_option maxHeartbeats 400000 in
theorem count1_any (i B B' H ho g len cap : Nat) (known x : Int) (w : World) (hb : w.cell? ⟨B, 0, none⟩ = some (.pointer (some ⟨H, ho, none⟩))) (hh : w.cell? ⟨H, ho, none⟩ = some (.slice (some ⟨g, 0, none⟩) len cap))
    (hd : w.cell? ⟨B', 0, none⟩ = some (.int .i64 known)) (hi : i < len) (hc : w.cell? ⟨g, i * 2, none⟩ = some (.int .i64 x)) :
    Calls Tryz.prog 94 #[.int .i64 i, .pointer (some ⟨B, 0, none⟩), .pointer (some ⟨B', 0, none⟩)] w fun r w' => r = .returned (.bool (decide (known < x))) ∧ Grew w w' := by
  have hi' : (i : Int) < (len : Int) := by omega
  have hi0 : (0 : Int) ≤ (i : Int) := by omega
  go_enter Tryz.func94, Tryz.ntmps94
  go_wp2
  go_quiet (fail)
  go_wp2
  go_ret
  exact ⟨rfl, (Grew.refl _).drewN _⟩

theorem cell_at (w : World) (cs : Array Value) (t : TypeId) (o : Nat) (v : Value) (h : cs[o]? = some v) : (w.alloc (.cells cs t)).cell? ⟨w.heap.size, o, none⟩ = some v := by
  unfold World.cell?
  show (match (w.heap.push (.cells cs t))[w.heap.size]? with | some (.cells c _ _) => if (none : Option Nat).isSome then none else c[o]? | _ => none) = some v
  simp [h]
theorem cell_two (w : World) (cs cs' : Array Value) (t t' : TypeId) (o : Nat) (v : Value) (h : cs[o]? = some v) : ((w.alloc (.cells cs t)).alloc (.cells cs' t')).cell? ⟨w.heap.size, o, none⟩ = some v :=
  Grew.cell' ((Grew.refl _).alloc _) (cell_at w cs t o v h)
theorem cell_last (w : World) (o0 : Obj) (cs : Array Value) (t : TypeId) (o : Nat) (v : Value) (h : cs[o]? = some v) : ((w.alloc o0).alloc (.cells cs t)).cell? ⟨w.heap.size + 1, o, none⟩ = some v := by
  have := cell_at (w.alloc o0) cs t o v h
  rwa [World.size_alloc] at this

set_option maxHeartbeats 400000 in
theorem before_any (nw day : Int) (g cap : Nat) (n : Nat) (f : Nat → Int) (w : World) (hl : n ≤ 1000)
    (hc : ∀ i, i < n → w.cell? ⟨g, i * 4 + 1, none⟩ = some (.int .i64 (f i))) (hs : ∀ a b, a ≤ b → b < n → (f a) ≤ (f b)) :
    Calls Tryz.prog 82 #[.agg #[.int .i64 nw, .slice (some ⟨g, 0, none⟩) n cap], .int .i64 day] w fun r w' =>
      r = .returned (.int .i64 ((List.range n).countP (fun i => !decide (day ≤ (f i))) : Nat)) ∧ Grew w w' := by
  have hS := Any.sort_Search (P := Tryz.prog) Tryz.searchL 95 #[.pointer (some ⟨w.heap.size, 0, none⟩), .pointer (some ⟨w.heap.size + 1, 0, none⟩)] n (fun i => decide (day ≤ (f i)))
    ((w.alloc (.cells #[.int .i64 nw, .slice (some ⟨g, 0, none⟩) n cap] 139)).alloc (.cells #[.int .i64 day] 3)) (enters_of Tryz.func95 (by kernel_rfl) rfl) (by omega)
    (fun m os i hi => by
      have hg : Grew ((w.alloc (.cells #[.int .i64 nw, .slice (some ⟨g, 0, none⟩) n cap] 139)).alloc (.cells #[.int .i64 day] 3)) (grow ((((w.alloc (.cells #[.int .i64 nw, .slice (some ⟨g, 0, none⟩) n cap] 139)).alloc (.cells #[.int .i64 day] 3))).drewN m) os) := ⟨m, os, rfl⟩
      exact before1_any i w.heap.size (w.heap.size + 1) g n cap day (f i) _ (hg.cell' (cell_two _ _ _ _ _ _ _ rfl)) (hg.cell' (cell_last _ _ _ _ _ _ rfl)) hi
        (hg.cell' (Grew.cell' (((Grew.refl _).alloc _).alloc _) (hc i hi))))
    (fun a b hab hb h => by have := hs a b hab hb; exact decide_eq_true (by have := of_decide_eq_true h; omega))
  change Calls Tryz.prog 93 _ _ _ at hS
  clear hc hs
  go_enter Tryz.func82, Tryz.ntmps82
  go_wp2_with (go_at_call 93; refine hS.mono ?_; rintro e w' ⟨rfl, hw⟩)
  go_ret
  exact ⟨rfl, Grew.trans (((Grew.refl _).alloc _).alloc _) hw⟩

set_option maxHeartbeats 400000 in
theorem count_any (known : Int) (H ho g cap : Nat) (ad : Option Addr) (n : Nat) (f : Nat → Int) (w : World) (hl : n ≤ 1000) (hh : w.cell? ⟨H, ho, none⟩ = some (.slice ad n cap)) (ha : 0 < n → ad = some ⟨g, 0, none⟩)
    (hc : ∀ i, i < n → w.cell? ⟨g, i * 2, none⟩ = some (.int .i64 (f i))) (hs : ∀ a b, a ≤ b → b < n → (f a) ≤ (f b)) :
    Calls Tryz.prog 81 #[.pointer (some ⟨H, ho, none⟩), .int .i64 known] w fun r w' =>
      r = .returned (.int .i64 ((List.range n).countP (fun i => !decide (known < (f i))) : Nat)) ∧ Grew w w' := by
  have hS := Any.sort_Search (P := Tryz.prog) Tryz.searchL 94 #[.pointer (some ⟨w.heap.size, 0, none⟩), .pointer (some ⟨w.heap.size + 1, 0, none⟩)] n (fun i => decide (known < (f i)))
    ((w.alloc (.cells #[.pointer (some ⟨H, ho, none⟩)] 132)).alloc (.cells #[.int .i64 known] 3)) (enters_of Tryz.func94 (by kernel_rfl) rfl) (by omega)
    (fun m os i hi => by
      have hg : Grew ((w.alloc (.cells #[.pointer (some ⟨H, ho, none⟩)] 132)).alloc (.cells #[.int .i64 known] 3)) (grow (((w.alloc (.cells #[.pointer (some ⟨H, ho, none⟩)] 132)).alloc (.cells #[.int .i64 known] 3)).drewN m) os) := ⟨m, os, rfl⟩
      obtain rfl := ha (by omega)
      exact count1_any i w.heap.size (w.heap.size + 1) H ho g n cap known (f i) _ (hg.cell' (cell_two _ _ _ _ _ _ _ rfl)) (hg.cell' (Grew.cell' (((Grew.refl _).alloc _).alloc _) hh)) (hg.cell' (cell_last _ _ _ _ _ _ rfl)) hi
        (hg.cell' (Grew.cell' (((Grew.refl _).alloc _).alloc _) (hc i hi))))
    (fun a b hab hb h => by have := hs a b hab hb; exact decide_eq_true (by have := of_decide_eq_true h; omega))
  change Calls Tryz.prog 93 _ _ _ at hS
  clear hc hs
  have hh' := Grew.cell' (((Grew.refl w).alloc (.cells #[.pointer (some ⟨H, ho, none⟩)] 132)).alloc (.cells #[.int .i64 known] 3)) hh
  go_enter Tryz.func81, Tryz.ntmps81
  go_wp2_with (go_at_call 93; refine hS.mono ?_; rintro e w' ⟨rfl, hw⟩)
  go_ret
  exact ⟨rfl, Grew.trans (((Grew.refl _).alloc _).alloc _) hw⟩
end Go.Proofs.YtdljdffnnnoafaaGreat
namespace Go.Annal
open Go.RowKit

/-- What a round keeps: all below n, and the cells of the named blocks. -/
def KeepB (n : Nat) (B : List Nat) (W W' : World) : Prop := Below n W W' ∧ ∀ p v, p.block ∈ B → W.cell? p = some v → W'.cell? p = some v
theorem KeepB.trans {n : Nat} {B : List Nat} {a b c : World} (h : KeepB n B a b) (k : KeepB n B b c) : KeepB n B a c :=
  ⟨h.1.trans k.1, fun p v hp hv => k.2 p v hp (h.2 p v hp hv)⟩
theorem KeepB.refl {n : Nat} {B : List Nat} (a : World) : KeepB n B a a := ⟨Below.refl _ _, fun _ _ _ h => h⟩
theorem KeepB.put {n : Nat} {B : List Nat} {w : World} (hn : n ≤ w.heap.size) (W : World) (l : Nat) (o o' : Obj) (hl : w.heap.size ≤ l) (ho : W.heap[l]? = some o) (hc : o.isCells = false) (hw : o.isWalk = false) : KeepB n B W (W.putObj l o') := by
  refine ⟨belowK_b (w := w) hn W l o o' hl ho hc hw, fun p v _ hv => ?_⟩
  refine cell_kept hv (grownBy_putObj' W l o') (fun r e => ?_)
  cases e
  exact ⟨_, ho, hc⟩
theorem KeepB.of_grew {n : Nat} {B : List Nat} {W W' : World} (hn : n ≤ W.heap.size) (h : Grew W W') : KeepB n B W W' :=
  ⟨h.below.mono hn, fun _ _ _ hv => h.cell' hv⟩

/-- The places of the blocks that hold the items behind the first lo ones, up to the k-th: from the newest on. -/
def chainF (low : Nat → Nat) (lo : Nat) : Nat → Nat → List Nat
  | 0, _ => []
  | f + 1, k => if lo < k then (k - 1) :: chainF low lo f (k - low k) else []
end Go.Annal

namespace Go.Proofs.YtdljdffnnnoafaaGreat
open Go.RowKit Go.Annal Go.Sort Go.Shelf
attribute [local go_sem] Oper.semAt_some
theorem low_pos (k : Nat) : 1 ≤ low k := by unfold low; repeat' split <;> try omega
theorem low_le_aux : ∀ k : Fin 65, k.1 ≠ 0 → low k.1 ≤ k.1 := by decide +kernel
theorem low_le (k : Nat) (h : 1 ≤ k) (h' : k ≤ 64) : low k ≤ k := low_le_aux ⟨k, by omega⟩ (by simp; omega)
def chain (lo k : Nat) : List Nat := chainF low lo k k
theorem chainF_fuel (lo : Nat) : ∀ (f g k : Nat), k ≤ f → k ≤ g → chainF low lo f k = chainF low lo g k
  | 0, 0, _, _, _ => rfl
  | 0, g + 1, k, h, _ => by simp [chainF]; omega
  | f + 1, 0, k, _, h => by simp [chainF]; omega
  | f + 1, g + 1, k, h, h' => by
    simp only [chainF]
    split
    · rw [chainF_fuel lo f g (k - low k) (by have := low_pos k; omega) (by have := low_pos k; omega)]
    · rfl
theorem chain_step (lo k : Nat) (h : lo < k) : chain lo k = (k - 1) :: chain lo (k - low k) := by
  unfold chain
  obtain ⟨f, rfl⟩ : ∃ f, k = f + 1 := ⟨k - 1, by omega⟩
  rw [chainF, if_pos h, chainF_fuel lo f (f + 1 - low (f + 1)) (f + 1 - low (f + 1)) (by have := low_pos (f + 1); omega) (Nat.le_refl _)]
theorem chain_stop (lo k : Nat) (h : ¬ lo < k) : chain lo k = [] := by
  unfold chain
  cases k with
  | zero => rfl
  | succ f => rw [chainF, if_neg h]

/-- The cells of m blocks, each (newest, rows). -/
def encB (nw : Nat → Int) (gr ln cp : Nat → Nat) {m : Nat} (x : { k : Nat // k < m }) : Array Value := #[.agg #[.int .i64 (nw x.1), .slice (some ⟨gr x.1, 0, none⟩) (ln x.1) (cp x.1)]]

set_option maxRecDepth 100000 in
set_option maxHeartbeats 1000000 in
theorem span1_in (n : Nat) (hn : 3 ≤ n) (l Bh Bl Bp n₀ H ho g cap m hi lo : Nat) (ad : Option Addr) (nw : Nat → Int) (gr ln cp : Nat → Nat)
    (hm : m ≤ 64) (hhi : hi ≤ m) (hg : 0 < m → g < n₀) (hH : H < n₀)
    (J Jx : List { k : Nat // k < m } → World → Prop)
    (hY : ∀ pre x W, J pre W → pre.length < m → YieldAt Fence.wide (n - 1) Tryz.prog l (encB nw gr ln cp x) W fun e W' =>
      (e = .returned (.bool true) ∧ J (pre ++ [x]) W' ∧ KeepB n₀ [Bl, Bp] W W') ∨ (e = .returned (.bool false) ∧ Jx (pre ++ [x]) W'))
    (W : World) (cBh : W.cell? ⟨Bh, 0, none⟩ = some (.int .i64 hi)) (cBl : W.cell? ⟨Bl, 0, none⟩ = some (.int .i64 lo)) (cBp : W.cell? ⟨Bp, 0, none⟩ = some (.pointer (some ⟨H, ho, none⟩)))
    (cH : W.cell? ⟨H, ho, none⟩ = some (.slice ad m cap)) (ha : 0 < m → ad = some ⟨g, 0, none⟩)
    (cn : ∀ i, i < m → W.cell? ⟨g, i * 2, none⟩ = some (.int .i64 (nw i))) (cr : ∀ i, i < m → W.cell? ⟨g, i * 2 + 1, none⟩ = some (.slice (some ⟨gr i, 0, none⟩) (ln i) (cp i))) (h0 : J [] W) :
    CallsIn Fence.wide n Tryz.prog 92 #[.func (.yield l) #[] #[], .pointer (some ⟨Bh, 0, none⟩), .pointer (some ⟨Bl, 0, none⟩), .pointer (some ⟨Bp, 0, none⟩)] W fun e W' => (∃ v, e = .returned v) ∧
      ((∃ ys : List { k : Nat // k < m }, ys.map (·.1) = chain lo hi ∧ J ys W') ∨ (∃ pre : List { k : Nat // k < m }, True ∧ Jx pre W')) := by
  refine callsIn_of_wp Tryz.func92 rfl trivial ?_ rfl
  simp only [Tryz.ntmps92, List.size_toArray, List.length_cons, List.length_nil, Nat.reduceAdd, Nat.reduceSub, Array.replicate_succ, Array.replicate_zero, List.push_toArray, List.append_toArray, List.nil_append, List.cons_append]
  gi_wp2
  gi_loopw [5] (fun kv wr => ∃ (k : Nat) (pre : List { k : Nat // k < m }), kv = .int .i64 k ∧ k ≤ m ∧ pre.length + k ≤ m ∧ chain lo hi = pre.map (·.1) ++ chain lo k ∧ J pre wr ∧ KeepB n₀ [Bl, Bp] W wr)
    (fun kv _ => (intOf kv).toNat)
  case atStart => exact ⟨hi, [], rfl, hhi, by simpa using hhi, by simp, h0, KeepB.refl _⟩
  case round =>
    obtain ⟨k, pre, rfl, hk, hpl, hch, hJ, hK⟩ := hrel
    have HC : Hid (chain lo hi = pre.map (·.1) ++ chain lo k) := hch
    clear hch
    have dBl := hK.2 _ _ (by simp) cBl
    have dBp := hK.2 _ _ (by simp) cBp
    by_cases hlt : lo < k
    · obtain rfl := ha (by omega)
      have dH := (hK.1.cell (p := ⟨H, ho, none⟩) hH).trans cH
      have dn : wr.cell? ⟨g, (k - 1) * 2, none⟩ = some (.int .i64 (nw (k - 1))) := (hK.1.cell (p := ⟨g, (k - 1) * 2, none⟩) (hg (by omega))).trans (cn (k - 1) (by omega))
      have dr : wr.cell? ⟨g, (k - 1) * 2 + 1, none⟩ = some (.slice (some ⟨gr (k - 1), 0, none⟩) (ln (k - 1)) (cp (k - 1))) := (hK.1.cell (p := ⟨g, (k - 1) * 2 + 1, none⟩) (hg (by omega))).trans (cr (k - 1) (by omega))
      obtain ⟨fn, tmps, assign, body, hy, hR⟩ := hY pre ⟨k - 1, by omega⟩ wr hJ (by omega)
      dsimp only [encB] at hy
      have hlt' : (lo : Int) < (k : Int) := by omega
      have hk0 : (1 : Int) ≤ (k : Int) := by omega
      have hk1 : (k : Int) ≤ (m : Int) := by omega
      clear cn cr hY cBh cBl cBp cH
      gi_wp2
      refine ⟨fun _ => by omega, ?_⟩
      refine hR.mono ?_
      have hlow := low_le k (by omega) (by omega)
      have hlp := low_pos k
      rintro e W3 (⟨rfl, hJ3, hk3⟩ | ⟨rfl, hJx3⟩)
      · clear hR hy dn dr dH
        have eBl := hk3.2 _ _ (by simp) dBl
        gi_wp2
        refine ⟨trivial, fun _ => by omega, ?_⟩
        refine (callsIn_wide.2 (reach_any k _ (by omega) (by omega))).mono ?_
        rintro e w' ⟨rfl, rfl⟩
        gi_wp2
        go_roundw
        case rel => exact ⟨k - low k, pre ++ [⟨k - 1, by omega⟩], by go_num, by omega, by simp; omega, by rw [HC.out, chain_step lo k hlt]; simp, hJ3, hK.trans hk3⟩
        case measure => simp [intOf]; omega
      · clear hR hy
        gi_wp2
        refine bodyPost_ret (results_none rfl _ _ _) rfl ?_
        exact ⟨⟨_, rfl⟩, .inr ⟨_, trivial, hJx3⟩⟩
    · have hlt' : ¬ (lo : Int) < (k : Int) := by omega
      clear cn cr hY cBh cBl cBp cH
      gi_wp2
      go_end0
      exact ⟨⟨_, rfl⟩, .inl ⟨pre, by have := HC.out; rw [chain_stop lo k hlt] at this; simpa using this.symm, hJ⟩⟩

set_option maxHeartbeats 400000 in
theorem span_any (H ho : Nat) (lo hi : Int) (w : World) :
    Calls Tryz.prog 80 #[.pointer (some ⟨H, ho, none⟩), .int .i64 lo, .int .i64 hi] w fun e w' =>
      e = .returned (.func (.func 92) #[] #[.pointer (some ⟨w.heap.size + 2, 0, none⟩), .pointer (some ⟨w.heap.size + 1, 0, none⟩), .pointer (some ⟨w.heap.size, 0, none⟩)]) ∧
      w' = ((w.alloc (.cells #[.pointer (some ⟨H, ho, none⟩)] 132)).alloc (.cells #[.int .i64 lo] 3)).alloc (.cells #[.int .i64 hi] 3) := by
  go_enter Tryz.func80, Tryz.ntmps80
  go_wp2
  go_ret
  exact ⟨rfl, rfl⟩

/-- What is read of an account's blocks: m of them; the i-th: the newest entry's number, where its rows lie, how many they are. -/
structure BlocksAt (w : World) (H ho g cap m : Nat) (ad : Option Addr) (nw : Nat → Int) (gr ln cp : Nat → Nat) : Prop where
  cH : w.cell? ⟨H, ho, none⟩ = some (.slice ad m cap)
  ha : 0 < m → ad = some ⟨g, 0, none⟩
  cn : ∀ i, i < m → w.cell? ⟨g, i * 2, none⟩ = some (.int .i64 (nw i))
  cr : ∀ i, i < m → w.cell? ⟨g, i * 2 + 1, none⟩ = some (.slice (some ⟨gr i, 0, none⟩) (ln i) (cp i))

theorem BlocksAt.mv {w w' : World} {H ho g cap m : Nat} {ad : Option Addr} {nw : Nat → Int} {gr ln cp : Nat → Nat} (h : BlocksAt w H ho g cap m ad nw gr ln cp)
    (hb : Below w.heap.size w w') : BlocksAt w' H ho g cap m ad nw gr ln cp :=
  ⟨cell_later hb h.cH, h.ha, fun i hi => cell_later hb (h.cn i hi), fun i hi => cell_later hb (h.cr i hi)⟩

theorem span_stops (n : Nat) (hn : 3 ≤ n) (Bh Bl Bp n₀ H ho g cap m hi lo : Nat) (ad : Option Addr) (nw : Nat → Int) (gr ln cp : Nat → Nat) (w : World)
    (hm : m ≤ 64) (hhi : hi ≤ m) (hg : 0 < m → g < n₀) (hH : H < n₀)
    (cBh : w.cell? ⟨Bh, 0, none⟩ = some (.int .i64 hi)) (cBl : w.cell? ⟨Bl, 0, none⟩ = some (.int .i64 lo)) (cBp : w.cell? ⟨Bp, 0, none⟩ = some (.pointer (some ⟨H, ho, none⟩)))
    (hB : BlocksAt w H ho g cap m ad nw gr ln cp) :
    SeqStopsK Fence.wide n Tryz.prog 92 #[.pointer (some ⟨Bh, 0, none⟩), .pointer (some ⟨Bl, 0, none⟩), .pointer (some ⟨Bp, 0, none⟩)] (fun x : { k : Nat // k < m } => encB nw gr ln cp x) (KeepB n₀ [Bl, Bp])
      (fun ys => ys.map (·.1) = chain lo hi) (fun _ => True) m w := fun l J Jx W hW _ _ hY h0 =>
  have hB' := hB.mv hW
  span1_in n hn l Bh Bl Bp n₀ H ho g cap m hi lo ad nw gr ln cp hm hhi hg hH J Jx hY W (cell_later hW cBh) (cell_later hW cBl) (cell_later hW cBp) hB'.cH hB'.ha hB'.cn hB'.cr h0
end Go.Proofs.YtdljdffnnnoafaaGreat
