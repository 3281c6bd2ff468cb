import Derived.Test.YtjnmoddcodnadaaGreatDoorG29
import Derived.Test.YtjnmoddcodnadaaGreatDoorG25
set_option linter.unusedVariables false
set_option linter.unusedSimpArgs false
namespace Go.Proofs.YtjnmoddcodnadaaGreatDoor
open Go.RowKit Go.Annal Go.Sort
set_option maxHeartbeats 1000000 in
theorem refuseClose_nil (B : Nat) (day : Int) (w : World) :
    Calls Tryz.prog 67 #[.pointer (some ⟨B, 0, none⟩), .int .i64 day, .pointer none] w fun r w' => r = .returned (.int .i64 (if dayB day then 7 else 5)) ∧ Below w.heap.size w w' := by
  cases hd : dayB day
  all_goals
    go_enter Tryz.func67, Tryz.ntmps67
    go_wp2_with (go_at_call 64; refine Calls.mono (isDay_any _ _) ?_; rintro e wx ⟨rfl, hw⟩; rw [hw]; clear hw wx; rw [hd])
    go_ret
    exact ⟨rfl, Below.refl _ _⟩
set_option maxHeartbeats 2000000 in
theorem refuseClose_some (B A : Nat) (k : Bk) (day kind : Int) (M : List Ln) (w : World) (cK : w.cell? ⟨A, 1, none⟩ = some (.int .i64 kind)) (cE : w.cell? ⟨B, 2, none⟩ = some k.nv) (cU : w.cell? ⟨B, 3, none⟩ = some (.int .i64 k.ul))
    (CF : dayB day = true → Calls Tryz.prog 111 #[.pointer (some ⟨B, 0, none⟩), .int .i64 day] w fun r w' => ∃ v, r = .returned v ∧ Hid (w'.ownsRow w.heap.size 58 2 v M.length (cells2 M) ∧ Below w.heap.size w w')) :
    Calls Tryz.prog 67 #[.pointer (some ⟨B, 0, none⟩), .int .i64 day, .pointer (some ⟨A, 0, none⟩)] w fun r w' => r = .returned (.int .i64 (if closeE1 (dayB day) true (decide (kind = 1)) (decide (day < k.ul)) ≠ 0 then closeE1 (dayB day) true (decide (kind = 1)) (decide (day < k.ul)) else closeE2 M.isEmpty (decide (60 ≤ k.ne)))) ∧ Below w.heap.size w w' := by
  cases hd : dayB day
  · have e : (if closeE1 false true (decide (kind = 1)) (decide (day < k.ul)) ≠ 0 then closeE1 false true (decide (kind = 1)) (decide (day < k.ul)) else closeE2 M.isEmpty (decide (60 ≤ k.ne))) = 5 := rfl
    rw [e]
    clear CF e
    go_enter Tryz.func67, Tryz.ntmps67
    go_wp2_with (go_at_call 64; refine Calls.mono (isDay_any _ _) ?_; rintro e wx ⟨rfl, hw⟩; rw [hw]; clear hw wx; rw [hd])
    go_ret
    exact ⟨rfl, Below.refl _ _⟩
  · have C : Hid (type_of% (CF hd)) := CF hd
    clear CF
    by_cases hk : kind = 1
    · subst hk
      have e : (if closeE1 true true (decide ((1 : Int) = 1)) (decide (day < k.ul)) ≠ 0 then closeE1 true true (decide ((1 : Int) = 1)) (decide (day < k.ul)) else closeE2 M.isEmpty (decide (60 ≤ k.ne))) = 2 := rfl
      rw [e]
      clear e
      go_enter Tryz.func67, Tryz.ntmps67
      go_wp2_with (go_at_call 64; refine Calls.mono (isDay_any _ _) ?_; rintro e wx ⟨rfl, hw⟩; rw [hw]; clear hw wx; rw [hd])
      go_ret
      exact ⟨rfl, Below.refl _ _⟩
    · have hk' : (kind == 1) = false := beq_eq_false_iff_ne.2 hk
      rw [decide_eq_false hk]
      by_cases hu : day < k.ul
      · rw [decide_eq_true hu]
        have e : (if closeE1 true true false true ≠ 0 then closeE1 true true false true else closeE2 M.isEmpty (decide (60 ≤ k.ne))) = 11 := rfl
        rw [e]
        clear e
        go_enter Tryz.func67, Tryz.ntmps67
        go_wp2_with (first
          | (go_at_call 64; refine Calls.mono (isDay_any _ _) ?_; rintro e wx ⟨rfl, hw⟩; rw [hw]; clear hw wx; rw [hd])
          | (go_at_call 65; refine Calls.mono (isLocked_any B k.ul _ _ cU) ?_; rintro e wx ⟨rfl, hw⟩; rw [hw]; clear hw wx))
        go_ret
        exact ⟨rfl, Below.refl _ _⟩
      · rw [decide_eq_false hu]
        have e : ∀ x, (if closeE1 true true false false ≠ 0 then closeE1 true true false false else x) = x := fun _ => rfl
        rw [e]
        clear e
        have H2 : Hid (∀ (v : Value) (w2 : World), w2.ownsRow w.heap.size 58 2 v M.length (cells2 M) → ∃ a c, v = .slice a M.length c) := by
          intro v w2 ho
          rcases ho.2 with ⟨rfl, hm⟩ | ⟨g, cap, cur, rfl, _⟩
          · exact ⟨none, 0, by rw [hm]⟩
          · exact ⟨_, _, rfl⟩
        cases hM : M with
        | nil =>
          rw [hM] at C H2
          have e : closeE2 ([] : List Ln).isEmpty (decide (60 ≤ k.ne)) = 7 := rfl
          rw [e]
          clear e
          go_enter Tryz.func67, Tryz.ntmps67
          go_wp2_with (first
            | (go_at_call 64; refine Calls.mono (isDay_any _ _) ?_; rintro e wx ⟨rfl, hw⟩; rw [hw]; clear hw wx; rw [hd])
            | (go_at_call 65; refine Calls.mono (isLocked_any B k.ul _ _ cU) ?_; rintro e wx ⟨rfl, hw⟩; rw [hw]; clear hw wx)
            | (go_at_call 111; refine Calls.mono C.out ?_; rintro e w2 ⟨v, rfl, hq⟩; obtain ⟨a2, c2, rfl⟩ := H2.out v w2 hq.out.1))
          go_ret
          exact ⟨rfl, hq.out.2⟩
        | cons y r =>
          have hl : M.length = r.length + 1 := by rw [hM]; rfl
          rw [← hM]
          have e : closeE2 M.isEmpty (decide (60 ≤ k.ne)) = if 60 ≤ k.ne then 4 else 0 := by rw [hM]; show (if decide (60 ≤ k.ne) = true then (4 : Int) else 0) = _; simp
          rw [e]
          clear e hM
          have hne : ((M.length : Int) == 0) = false := beq_eq_false_iff_ne.2 (by omega)
          generalize M.length = m at *
          by_cases hf : 60 ≤ k.ne
          · rw [if_pos hf]
            go_enter Tryz.func67, Tryz.ntmps67
            go_wp2_with (first
              | (go_at_call 64; refine Calls.mono (isDay_any _ _) ?_; rintro e wx ⟨rfl, hw⟩; rw [hw]; clear hw wx; rw [hd])
              | (go_at_call 65; refine Calls.mono (isLocked_any B k.ul _ _ cU) ?_; rintro e wx ⟨rfl, hw⟩; rw [hw]; clear hw wx)
              | (go_at_call 111; refine Calls.mono C.out ?_; rintro e w2 ⟨v, rfl, hq⟩; obtain ⟨a2, c2, rfl⟩ := H2.out v w2 hq.out.1; have cE2 := cell_later hq.out.2 cE)
              | (go_at_call 106; refine Calls.mono (isFull_any B k.ne k.ce k.ade _ cE2) ?_; rintro e wx ⟨rfl, hw⟩; rw [hw]; clear hw wx))
            go_ret
            exact ⟨rfl, hq.out.2⟩
          · rw [if_neg hf]
            go_enter Tryz.func67, Tryz.ntmps67
            go_wp2_with (first
              | (go_at_call 64; refine Calls.mono (isDay_any _ _) ?_; rintro e wx ⟨rfl, hw⟩; rw [hw]; clear hw wx; rw [hd])
              | (go_at_call 65; refine Calls.mono (isLocked_any B k.ul _ _ cU) ?_; rintro e wx ⟨rfl, hw⟩; rw [hw]; clear hw wx)
              | (go_at_call 111; refine Calls.mono C.out ?_; rintro e w2 ⟨v, rfl, hq⟩; obtain ⟨a2, c2, rfl⟩ := H2.out v w2 hq.out.1; have cE2 := cell_later hq.out.2 cE)
              | (go_at_call 106; refine Calls.mono (isFull_any B k.ne k.ce k.ade _ cE2) ?_; rintro e wx ⟨rfl, hw⟩; rw [hw]; clear hw wx))
            go_ret
            exact ⟨rfl, hq.out.2⟩
set_option maxHeartbeats 1000000 in
theorem CloseA_err (B : Nat) (day E : Int) (into : ByteArray) (P : Value) (w : World) (hE : E ≠ 0)
    (CF : Calls Tryz.prog 66 #[.pointer (some ⟨B, 0, none⟩), .string into] w fun r w' => r = .returned P ∧ Grew w w')
    (CR : ∀ W, Below w.heap.size w W → Calls Tryz.prog 67 #[.pointer (some ⟨B, 0, none⟩), .int .i64 day, P] W fun r w' => r = .returned (.int .i64 E) ∧ Below W.heap.size W w') :
    Calls Tryz.prog 32 #[.pointer (some ⟨B, 0, none⟩), .int .i64 day, .string into] w fun r w' => r = .returned (.tuple #[.int .i64 0, .int .i64 E]) ∧ Below w.heap.size w w' := by
  have C : Hid (type_of% CF) := CF
  have C1 : Hid (type_of% CR) := CR
  clear CF CR
  have hE' : (E != 0) = true := by simpa using hE
  go_enter Tryz.func32, Tryz.ntmps32
  go_wp2_with (first
    | (go_at_call 66; refine Calls.mono C.out ?_; rintro e wx ⟨rfl, hw⟩)
    | (go_at_call 67; refine Calls.mono (C1.out _ hw.below) ?_; rintro e wy ⟨rfl, hy⟩))
  go_ret2
  exact ⟨rfl, hw.below.trans (hy.mono hw.size)⟩
set_option maxHeartbeats 1000000 in
theorem CloseA_ok (B n ne : Nat) (day : Int) (into name : ByteArray) (P : Value) (w : World) (R : Nat → Nat → World → Prop) (Q : World → Prop)
    (CF : Calls Tryz.prog 66 #[.pointer (some ⟨B, 0, none⟩), .string into] w fun r w' => r = .returned P ∧ Grew w w')
    (CR : ∀ W, Below w.heap.size w W → Calls Tryz.prog 67 #[.pointer (some ⟨B, 0, none⟩), .int .i64 day, P] W fun r w' => r = .returned (.int .i64 0) ∧ Below W.heap.size W w')
    (CP : ∀ W, Below w.heap.size w W → Calls Tryz.prog 68 #[.pointer (some ⟨B, 0, none⟩), .int .i64 day, P] W fun r w' => ∃ g c, r = .returned (.agg #[.int .i64 day, .slice (some ⟨g, 0, none⟩) n c, .string name]) ∧ R g c w')
    (CE : ∀ g c W, R g c W → Calls Tryz.prog 60 #[.pointer (some ⟨B, 0, none⟩), .iface 136 (.agg #[.int .i64 day, .slice (some ⟨g, 0, none⟩) n c, .string name])] W fun r w' => r = .returned (.int .i64 ne) ∧ ∃ u, w'.cell? ⟨B, 3, none⟩ = some u ∧ w'.frozen? ⟨B, 3, none⟩ = false ∧ Q (w'.setCell ⟨B, 3, none⟩ (.int .i64 (day + 1)))) (hday : 0 ≤ day ∧ day ≤ 9999) :
    Calls Tryz.prog 32 #[.pointer (some ⟨B, 0, none⟩), .int .i64 day, .string into] w fun r w' => r = .returned (.tuple #[.int .i64 ne, .int .i64 0]) ∧ Q w' := by
  have C : Hid (type_of% CF) := CF
  have C1 : Hid (type_of% CR) := CR
  have C2 : Hid (type_of% CP) := CP
  have C3 : Hid (type_of% CE) := CE
  clear CF CR CP CE
  obtain ⟨hd1, hd2⟩ := hday
  go_enter Tryz.func32, Tryz.ntmps32
  go_wp2_with (first
    | (go_at_call 66; refine Calls.mono C.out ?_; rintro e wx ⟨rfl, hw⟩)
    | (go_at_call 67; refine Calls.mono (C1.out _ hw.below) ?_; rintro e wy ⟨rfl, hy⟩; have hwy := hw.below.trans (hy.mono hw.size))
    | (go_at_call 68; refine Calls.mono (C2.out _ hwy) ?_; rintro e wz ⟨g, c, rfl, hr⟩)
    | (go_at_call 60; refine Calls.mono (C3.out g c _ hr) ?_; rintro e wv ⟨rfl, u, cu, fu, hq⟩))
  go_ret2
  exact ⟨rfl, hq⟩
end Go.Proofs.YtjnmoddcodnadaaGreatDoor
