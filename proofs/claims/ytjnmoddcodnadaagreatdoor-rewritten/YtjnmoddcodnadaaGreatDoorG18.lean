import Derived.Test.YtjnmoddcodnadaaGreatDoorG14
set_option linter.unusedVariables false
set_option linter.unusedSimpArgs false
namespace Go.Proofs.YtjnmoddcodnadaaGreatDoor
open Go.RowKit Go.Annal
set_option maxRecDepth 100000 in
set_option maxHeartbeats 800000 in
theorem width_s2 (s : ByteArray) (p : Nat) (w : World) (hs : s.size ≤ 4611686018427387904) (b0 : Nat) (hp : p < s.size) (h0 : (s[p]'hp).toNat = b0) (hl : s.size < p + 2) (c0 : 194 ≤ b0) (c1 : b0 < 224) :
    Calls Tryz.prog 123 #[.string s, .int .i64 p] w fun r w' => r = .returned (.tuple #[.int .i64 (widthN s p).1, .int .i64 (widthN s p).2]) ∧ w' = w := by
  have hd : Hid (widthN s p = (0, 0)) := width_s2_dec s p b0 hp h0 hl c0 c1
  have x0 : b0 < 256 := by rw [← h0]; exact UInt8.toNat_lt _
  have t0 : ¬ (b0 : Int) < 128 := by omega
  have t1 : (b0 : Int) < 224 := by omega
  have t2 : (b0 : Int) < 240 := by omega
  have t3 : (b0 : Int) < 245 := by omega
  have u0 : (194 : Int) ≤ (b0 : Int) := by omega
  have u1 : ¬ (224 : Int) ≤ (b0 : Int) := by omega
  have u2 : ¬ (240 : Int) ≤ (b0 : Int) := by omega
  go_enter Tryz.func123, Tryz.ntmps123
  go_wp2
  all_goals try (exfalso; omega)
  all_goals go_ret2
  all_goals exact ⟨ret_two (by rw [hd.out]; first | done | rfl | (simp; done) | (simp; omega)) (by rw [hd.out]; first | done | rfl), rfl⟩

set_option maxRecDepth 100000 in
set_option maxHeartbeats 800000 in
theorem width_s3 (s : ByteArray) (p : Nat) (w : World) (hs : s.size ≤ 4611686018427387904) (b0 : Nat) (hp : p < s.size) (h0 : (s[p]'hp).toNat = b0) (hl : s.size < p + 3) (c0 : 224 ≤ b0) (c1 : b0 < 240) :
    Calls Tryz.prog 123 #[.string s, .int .i64 p] w fun r w' => r = .returned (.tuple #[.int .i64 (widthN s p).1, .int .i64 (widthN s p).2]) ∧ w' = w := by
  have hd : Hid (widthN s p = (0, 0)) := width_s3_dec s p b0 hp h0 hl c0 c1
  have x0 : b0 < 256 := by rw [← h0]; exact UInt8.toNat_lt _
  have t0 : ¬ (b0 : Int) < 128 := by omega
  have t1 : ¬ (b0 : Int) < 224 := by omega
  have t2 : (b0 : Int) < 240 := by omega
  have t3 : (b0 : Int) < 245 := by omega
  have u0 : (194 : Int) ≤ (b0 : Int) := by omega
  have u1 : (224 : Int) ≤ (b0 : Int) := by omega
  have u2 : ¬ (240 : Int) ≤ (b0 : Int) := by omega
  go_enter Tryz.func123, Tryz.ntmps123
  go_wp2
  all_goals try (exfalso; omega)
  all_goals go_ret2
  all_goals exact ⟨ret_two (by rw [hd.out]; first | done | rfl | (simp; done) | (simp; omega)) (by rw [hd.out]; first | done | rfl), rfl⟩

set_option maxRecDepth 100000 in
set_option maxHeartbeats 800000 in
theorem width_b32h (s : ByteArray) (p : Nat) (w : World) (hs : s.size ≤ 4611686018427387904) (b0 b1 b2 : Nat) (hp : p < s.size) (h0 : (s[p]'hp).toNat = b0) (hp1 : p + 1 < s.size) (h1 : (s[p + 1]'hp1).toNat = b1) (hp2 : p + 2 < s.size) (h2 : (s[p + 2]'hp2).toNat = b2) (hl : p + 3 ≤ s.size) (c0 : 224 ≤ b0) (c1 : b0 < 240) (d1 : 128 ≤ b1) (e1 : b1 < 192) (d2 : 192 ≤ b2) :
    Calls Tryz.prog 123 #[.string s, .int .i64 p] w fun r w' => r = .returned (.tuple #[.int .i64 (widthN s p).1, .int .i64 (widthN s p).2]) ∧ w' = w := by
  have hd : Hid (widthN s p = (0, 0)) := width_b32h_dec s p b0 b1 b2 hp h0 hp1 h1 hp2 h2 hl c0 c1 d1 e1 d2
  have x0 : b0 < 256 := by rw [← h0]; exact UInt8.toNat_lt _
  have x1 : b1 < 256 := by rw [← h1]; exact UInt8.toNat_lt _
  have x2 : b2 < 256 := by rw [← h2]; exact UInt8.toNat_lt _
  have t0 : ¬ (b0 : Int) < 128 := by omega
  have t1 : ¬ (b0 : Int) < 224 := by omega
  have t2 : (b0 : Int) < 240 := by omega
  have t3 : (b0 : Int) < 245 := by omega
  have u0 : (194 : Int) ≤ (b0 : Int) := by omega
  have u1 : (224 : Int) ≤ (b0 : Int) := by omega
  have u2 : ¬ (240 : Int) ≤ (b0 : Int) := by omega
  go_enter Tryz.func123, Tryz.ntmps123
  go_wp2
  refine wp_loop_rounds 4 ?_; rw [rounds_succ]; go_wp2
  rw [rounds_succ]; go_wp2
  all_goals try (exfalso; omega)
  all_goals go_ret2
  all_goals exact ⟨ret_two (by rw [hd.out]; first | done | rfl | (simp; done) | (simp; omega)) (by rw [hd.out]; first | done | rfl), rfl⟩

set_option maxRecDepth 100000 in
set_option maxHeartbeats 800000 in
theorem width_3ok2 (s : ByteArray) (p : Nat) (w : World) (hs : s.size ≤ 4611686018427387904) (b0 b1 b2 : Nat) (hp : p < s.size) (h0 : (s[p]'hp).toNat = b0) (hp1 : p + 1 < s.size) (h1 : (s[p + 1]'hp1).toNat = b1) (hp2 : p + 2 < s.size) (h2 : (s[p + 2]'hp2).toNat = b2)  (c0 : 224 ≤ b0) (c1 : b0 < 240) (d1 : 128 ≤ b1) (e1 : b1 < 192) (d2 : 128 ≤ b2) (e2 : b2 < 192) (f1 : 57344 ≤ (64 * (64 * (b0 - 224) + b1 - 128) + b2 - 128)) :
    Calls Tryz.prog 123 #[.string s, .int .i64 p] w fun r w' => r = .returned (.tuple #[.int .i64 (widthN s p).1, .int .i64 (widthN s p).2]) ∧ w' = w := by
  have hd : Hid (widthN s p = ((64 * (64 * (b0 - 224) + b1 - 128) + b2 - 128), 3)) := width_3ok2_dec s p b0 b1 b2 hp h0 hp1 h1 hp2 h2 c0 c1 d1 e1 d2 e2 f1
  have x0 : b0 < 256 := by rw [← h0]; exact UInt8.toNat_lt _
  have x1 : b1 < 256 := by rw [← h1]; exact UInt8.toNat_lt _
  have x2 : b2 < 256 := by rw [← h2]; exact UInt8.toNat_lt _
  have t0 : ¬ (b0 : Int) < 128 := by omega
  have t1 : ¬ (b0 : Int) < 224 := by omega
  have t2 : (b0 : Int) < 240 := by omega
  have t3 : (b0 : Int) < 245 := by omega
  have u0 : (194 : Int) ≤ (b0 : Int) := by omega
  have u1 : (224 : Int) ≤ (b0 : Int) := by omega
  have u2 : ¬ (240 : Int) ≤ (b0 : Int) := by omega
  go_enter Tryz.func123, Tryz.ntmps123
  go_wp2
  refine wp_loop_rounds 4 ?_; rw [rounds_succ]; go_wp2
  rw [rounds_succ]; go_wp2
  rw [rounds_succ]; go_wp2
  all_goals try (exfalso; omega)
  all_goals go_ret2
  all_goals exact ⟨ret_two (by rw [hd.out]; first | done | rfl | (simp; done) | (simp; omega)) (by rw [hd.out]; first | done | rfl), rfl⟩

set_option maxRecDepth 100000 in
set_option maxHeartbeats 800000 in
theorem width_b42l (s : ByteArray) (p : Nat) (w : World) (hs : s.size ≤ 4611686018427387904) (b0 b1 b2 : Nat) (hp : p < s.size) (h0 : (s[p]'hp).toNat = b0) (hp1 : p + 1 < s.size) (h1 : (s[p + 1]'hp1).toNat = b1) (hp2 : p + 2 < s.size) (h2 : (s[p + 2]'hp2).toNat = b2) (hl : p + 4 ≤ s.size) (c0 : 240 ≤ b0) (c1 : b0 < 245) (d1 : 128 ≤ b1) (e1 : b1 < 192) (d2 : b2 < 128) :
    Calls Tryz.prog 123 #[.string s, .int .i64 p] w fun r w' => r = .returned (.tuple #[.int .i64 (widthN s p).1, .int .i64 (widthN s p).2]) ∧ w' = w := by
  have hd : Hid (widthN s p = (0, 0)) := width_b42l_dec s p b0 b1 b2 hp h0 hp1 h1 hp2 h2 hl c0 c1 d1 e1 d2
  have x0 : b0 < 256 := by rw [← h0]; exact UInt8.toNat_lt _
  have x1 : b1 < 256 := by rw [← h1]; exact UInt8.toNat_lt _
  have x2 : b2 < 256 := by rw [← h2]; exact UInt8.toNat_lt _
  have t0 : ¬ (b0 : Int) < 128 := by omega
  have t1 : ¬ (b0 : Int) < 224 := by omega
  have t2 : ¬ (b0 : Int) < 240 := by omega
  have t3 : (b0 : Int) < 245 := by omega
  have u0 : (194 : Int) ≤ (b0 : Int) := by omega
  have u1 : (224 : Int) ≤ (b0 : Int) := by omega
  have u2 : (240 : Int) ≤ (b0 : Int) := by omega
  go_enter Tryz.func123, Tryz.ntmps123
  go_wp2
  refine wp_loop_rounds 4 ?_; rw [rounds_succ]; go_wp2
  rw [rounds_succ]; go_wp2
  all_goals try (exfalso; omega)
  all_goals go_ret2
  all_goals exact ⟨ret_two (by rw [hd.out]; first | done | rfl | (simp; done) | (simp; omega)) (by rw [hd.out]; first | done | rfl), rfl⟩

set_option maxRecDepth 100000 in
set_option maxHeartbeats 800000 in
theorem width_4z1 (s : ByteArray) (p : Nat) (w : World) (hs : s.size ≤ 4611686018427387904) (b0 b1 b2 b3 : Nat) (hp : p < s.size) (h0 : (s[p]'hp).toNat = b0) (hp1 : p + 1 < s.size) (h1 : (s[p + 1]'hp1).toNat = b1) (hp2 : p + 2 < s.size) (h2 : (s[p + 2]'hp2).toNat = b2) (hp3 : p + 3 < s.size) (h3 : (s[p + 3]'hp3).toNat = b3)  (c0 : 240 ≤ b0) (c1 : b0 < 245) (d1 : 128 ≤ b1) (e1 : b1 < 192) (d2 : 128 ≤ b2) (e2 : b2 < 192) (d3 : 128 ≤ b3) (e3 : b3 < 192) (f1 : (64 * (64 * (64 * (b0 - 240) + b1 - 128) + b2 - 128) + b3 - 128) < 65536) :
    Calls Tryz.prog 123 #[.string s, .int .i64 p] w fun r w' => r = .returned (.tuple #[.int .i64 (widthN s p).1, .int .i64 (widthN s p).2]) ∧ w' = w := by
  have hd : Hid (widthN s p = (0, 0)) := width_4z1_dec s p b0 b1 b2 b3 hp h0 hp1 h1 hp2 h2 hp3 h3 c0 c1 d1 e1 d2 e2 d3 e3 f1
  have x0 : b0 < 256 := by rw [← h0]; exact UInt8.toNat_lt _
  have x1 : b1 < 256 := by rw [← h1]; exact UInt8.toNat_lt _
  have x2 : b2 < 256 := by rw [← h2]; exact UInt8.toNat_lt _
  have x3 : b3 < 256 := by rw [← h3]; exact UInt8.toNat_lt _
  have t0 : ¬ (b0 : Int) < 128 := by omega
  have t1 : ¬ (b0 : Int) < 224 := by omega
  have t2 : ¬ (b0 : Int) < 240 := by omega
  have t3 : (b0 : Int) < 245 := by omega
  have u0 : (194 : Int) ≤ (b0 : Int) := by omega
  have u1 : (224 : Int) ≤ (b0 : Int) := by omega
  have u2 : (240 : Int) ≤ (b0 : Int) := by omega
  go_enter Tryz.func123, Tryz.ntmps123
  go_wp2
  refine wp_loop_rounds 4 ?_; rw [rounds_succ]; go_wp2
  rw [rounds_succ]; go_wp2
  rw [rounds_succ]; go_wp2
  rw [rounds_succ]; go_wp2
  all_goals try (exfalso; omega)
  all_goals go_ret2
  all_goals exact ⟨ret_two (by rw [hd.out]; first | done | rfl | (simp; done) | (simp; omega)) (by rw [hd.out]; first | done | rfl), rfl⟩

end Go.Proofs.YtjnmoddcodnadaaGreatDoor
