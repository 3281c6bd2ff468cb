import Derived.Test.YtjnmoddcodnadaaGreatDoorG13
set_option linter.unusedVariables false
set_option linter.unusedSimpArgs false
namespace Go.Proofs.YtjnmoddcodnadaaGreatDoor
open Go.RowKit Go.Annal
theorem ret_two {a b c d : Int} (h : a = c) (h' : b = d) : Ending.returned (.tuple #[.int .i64 a, .int .i64 b]) = .returned (.tuple #[.int .i64 c, .int .i64 d]) := by rw [h, h']
def widthN (s : ByteArray) (p : Nat) : Nat × Nat := if Utf8.decode s p = (65533, 1) then (0, 0) else Utf8.decode s p
theorem get_at (s : ByteArray) (i : Nat) (h : i < s.size) : s.get! i = s[i]'h := by
  simp [ByteArray.get!, getElem!_pos, h]
  rfl

theorem width_1_dec (s : ByteArray) (p : Nat) (b0 : Nat) (hp : p < s.size) (h0 : (s[p]'hp).toNat = b0)  (c0 : b0 < 128) : widthN s p = (b0, 1) := by
  unfold widthN Utf8.decode
  simp only [Nat.add_zero, get_at s p hp, h0]
  repeat' split
  all_goals simp_all [Utf8.valid, Utf8.runeError]
  all_goals omega

theorem width_d1_dec (s : ByteArray) (p : Nat) (b0 : Nat) (hp : p < s.size) (h0 : (s[p]'hp).toNat = b0)  (c0 : 128 ≤ b0) (c1 : b0 < 194) : widthN s p = (0, 0) := by
  unfold widthN Utf8.decode
  simp only [Nat.add_zero, get_at s p hp, h0]
  repeat' split
  all_goals simp_all [Utf8.valid, Utf8.runeError]
  all_goals omega

theorem width_d2_dec (s : ByteArray) (p : Nat) (b0 : Nat) (hp : p < s.size) (h0 : (s[p]'hp).toNat = b0)  (c0 : 245 ≤ b0) : widthN s p = (0, 0) := by
  unfold widthN Utf8.decode
  simp only [Nat.add_zero, get_at s p hp, h0]
  repeat' split
  all_goals simp_all [Utf8.valid, Utf8.runeError]
  all_goals omega

theorem width_s2_dec (s : ByteArray) (p : Nat) (b0 : Nat) (hp : p < s.size) (h0 : (s[p]'hp).toNat = b0) (hl : s.size < p + 2) (c0 : 194 ≤ b0) (c1 : b0 < 224) : widthN s p = (0, 0) := by
  unfold widthN Utf8.decode
  simp only [Nat.add_zero, get_at s p hp, h0]
  repeat' split
  all_goals simp_all [Utf8.valid, Utf8.runeError]
  all_goals omega

theorem width_b21l_dec (s : ByteArray) (p : Nat) (b0 b1 : Nat) (hp : p < s.size) (h0 : (s[p]'hp).toNat = b0) (hp1 : p + 1 < s.size) (h1 : (s[p + 1]'hp1).toNat = b1) (hl : p + 2 ≤ s.size) (c0 : 194 ≤ b0) (c1 : b0 < 224)  (d1 : b1 < 128) : widthN s p = (0, 0) := by
  unfold widthN Utf8.decode
  simp only [Nat.add_zero, get_at s p hp, h0, get_at s (p + 1) hp1, h1]
  repeat' split
  all_goals simp_all [Utf8.valid, Utf8.runeError]
  all_goals omega

theorem width_b21h_dec (s : ByteArray) (p : Nat) (b0 b1 : Nat) (hp : p < s.size) (h0 : (s[p]'hp).toNat = b0) (hp1 : p + 1 < s.size) (h1 : (s[p + 1]'hp1).toNat = b1) (hl : p + 2 ≤ s.size) (c0 : 194 ≤ b0) (c1 : b0 < 224)  (d1 : 192 ≤ b1) : widthN s p = (0, 0) := by
  unfold widthN Utf8.decode
  simp only [Nat.add_zero, get_at s p hp, h0, get_at s (p + 1) hp1, h1]
  repeat' split
  all_goals simp_all [Utf8.valid, Utf8.runeError]
  all_goals omega

theorem width_2ok_dec (s : ByteArray) (p : Nat) (b0 b1 : Nat) (hp : p < s.size) (h0 : (s[p]'hp).toNat = b0) (hp1 : p + 1 < s.size) (h1 : (s[p + 1]'hp1).toNat = b1)  (c0 : 194 ≤ b0) (c1 : b0 < 224) (d1 : 128 ≤ b1) (e1 : b1 < 192)  : widthN s p = ((64 * (b0 - 192) + b1 - 128), 2) := by
  unfold widthN Utf8.decode
  simp only [Nat.add_zero, get_at s p hp, h0, get_at s (p + 1) hp1, h1]
  repeat' split
  all_goals simp_all [Utf8.valid, Utf8.runeError]
  all_goals omega

theorem width_s3_dec (s : ByteArray) (p : Nat) (b0 : Nat) (hp : p < s.size) (h0 : (s[p]'hp).toNat = b0) (hl : s.size < p + 3) (c0 : 224 ≤ b0) (c1 : b0 < 240) : widthN s p = (0, 0) := by
  unfold widthN Utf8.decode
  simp only [Nat.add_zero, get_at s p hp, h0]
  repeat' split
  all_goals simp_all [Utf8.valid, Utf8.runeError]
  all_goals omega

theorem width_b31l_dec (s : ByteArray) (p : Nat) (b0 b1 : Nat) (hp : p < s.size) (h0 : (s[p]'hp).toNat = b0) (hp1 : p + 1 < s.size) (h1 : (s[p + 1]'hp1).toNat = b1) (hl : p + 3 ≤ s.size) (c0 : 224 ≤ b0) (c1 : b0 < 240)  (d1 : b1 < 128) : widthN s p = (0, 0) := by
  unfold widthN Utf8.decode
  simp only [Nat.add_zero, get_at s p hp, h0, get_at s (p + 1) hp1, h1]
  repeat' split
  all_goals simp_all [Utf8.valid, Utf8.runeError]
  all_goals omega

theorem width_b31h_dec (s : ByteArray) (p : Nat) (b0 b1 : Nat) (hp : p < s.size) (h0 : (s[p]'hp).toNat = b0) (hp1 : p + 1 < s.size) (h1 : (s[p + 1]'hp1).toNat = b1) (hl : p + 3 ≤ s.size) (c0 : 224 ≤ b0) (c1 : b0 < 240)  (d1 : 192 ≤ b1) : widthN s p = (0, 0) := by
  unfold widthN Utf8.decode
  simp only [Nat.add_zero, get_at s p hp, h0, get_at s (p + 1) hp1, h1]
  repeat' split
  all_goals simp_all [Utf8.valid, Utf8.runeError]
  all_goals omega

theorem width_b32l_dec (s : ByteArray) (p : Nat) (b0 b1 b2 : Nat) (hp : p < s.size) (h0 : (s[p]'hp).toNat = b0) (hp1 : p + 1 < s.size) (h1 : (s[p + 1]'hp1).toNat = b1) (hp2 : p + 2 < s.size) (h2 : (s[p + 2]'hp2).toNat = b2) (hl : p + 3 ≤ s.size) (c0 : 224 ≤ b0) (c1 : b0 < 240) (d1 : 128 ≤ b1) (e1 : b1 < 192) (d2 : b2 < 128) : widthN s p = (0, 0) := by
  unfold widthN Utf8.decode
  simp only [Nat.add_zero, get_at s p hp, h0, get_at s (p + 1) hp1, h1, get_at s (p + 2) hp2, h2]
  repeat' split
  all_goals simp_all [Utf8.valid, Utf8.runeError]
  all_goals omega

theorem width_b32h_dec (s : ByteArray) (p : Nat) (b0 b1 b2 : Nat) (hp : p < s.size) (h0 : (s[p]'hp).toNat = b0) (hp1 : p + 1 < s.size) (h1 : (s[p + 1]'hp1).toNat = b1) (hp2 : p + 2 < s.size) (h2 : (s[p + 2]'hp2).toNat = b2) (hl : p + 3 ≤ s.size) (c0 : 224 ≤ b0) (c1 : b0 < 240) (d1 : 128 ≤ b1) (e1 : b1 < 192) (d2 : 192 ≤ b2) : widthN s p = (0, 0) := by
  unfold widthN Utf8.decode
  simp only [Nat.add_zero, get_at s p hp, h0, get_at s (p + 1) hp1, h1, get_at s (p + 2) hp2, h2]
  repeat' split
  all_goals simp_all [Utf8.valid, Utf8.runeError]
  all_goals omega

theorem width_3z1_dec (s : ByteArray) (p : Nat) (b0 b1 b2 : Nat) (hp : p < s.size) (h0 : (s[p]'hp).toNat = b0) (hp1 : p + 1 < s.size) (h1 : (s[p + 1]'hp1).toNat = b1) (hp2 : p + 2 < s.size) (h2 : (s[p + 2]'hp2).toNat = b2)  (c0 : 224 ≤ b0) (c1 : b0 < 240) (d1 : 128 ≤ b1) (e1 : b1 < 192) (d2 : 128 ≤ b2) (e2 : b2 < 192) (f1 : (64 * (64 * (b0 - 224) + b1 - 128) + b2 - 128) < 2048) : widthN s p = (0, 0) := by
  unfold widthN Utf8.decode
  simp only [Nat.add_zero, get_at s p hp, h0, get_at s (p + 1) hp1, h1, get_at s (p + 2) hp2, h2]
  repeat' split
  all_goals simp_all [Utf8.valid, Utf8.runeError]
  all_goals omega

theorem width_3z2_dec (s : ByteArray) (p : Nat) (b0 b1 b2 : Nat) (hp : p < s.size) (h0 : (s[p]'hp).toNat = b0) (hp1 : p + 1 < s.size) (h1 : (s[p + 1]'hp1).toNat = b1) (hp2 : p + 2 < s.size) (h2 : (s[p + 2]'hp2).toNat = b2)  (c0 : 224 ≤ b0) (c1 : b0 < 240) (d1 : 128 ≤ b1) (e1 : b1 < 192) (d2 : 128 ≤ b2) (e2 : b2 < 192) (f1 : 55296 ≤ (64 * (64 * (b0 - 224) + b1 - 128) + b2 - 128)) (f2 : (64 * (64 * (b0 - 224) + b1 - 128) + b2 - 128) < 57344) : widthN s p = (0, 0) := by
  unfold widthN Utf8.decode
  simp only [Nat.add_zero, get_at s p hp, h0, get_at s (p + 1) hp1, h1, get_at s (p + 2) hp2, h2]
  repeat' split
  all_goals simp_all [Utf8.valid, Utf8.runeError]
  all_goals omega

theorem width_3ok1_dec (s : ByteArray) (p : Nat) (b0 b1 b2 : Nat) (hp : p < s.size) (h0 : (s[p]'hp).toNat = b0) (hp1 : p + 1 < s.size) (h1 : (s[p + 1]'hp1).toNat = b1) (hp2 : p + 2 < s.size) (h2 : (s[p + 2]'hp2).toNat = b2)  (c0 : 224 ≤ b0) (c1 : b0 < 240) (d1 : 128 ≤ b1) (e1 : b1 < 192) (d2 : 128 ≤ b2) (e2 : b2 < 192) (f1 : 2048 ≤ (64 * (64 * (b0 - 224) + b1 - 128) + b2 - 128)) (f2 : (64 * (64 * (b0 - 224) + b1 - 128) + b2 - 128) < 55296) : widthN s p = ((64 * (64 * (b0 - 224) + b1 - 128) + b2 - 128), 3) := by
  unfold widthN Utf8.decode
  simp only [Nat.add_zero, get_at s p hp, h0, get_at s (p + 1) hp1, h1, get_at s (p + 2) hp2, h2]
  repeat' split
  all_goals simp_all [Utf8.valid, Utf8.runeError]
  all_goals omega

theorem width_3ok2_dec (s : ByteArray) (p : Nat) (b0 b1 b2 : Nat) (hp : p < s.size) (h0 : (s[p]'hp).toNat = b0) (hp1 : p + 1 < s.size) (h1 : (s[p + 1]'hp1).toNat = b1) (hp2 : p + 2 < s.size) (h2 : (s[p + 2]'hp2).toNat = b2)  (c0 : 224 ≤ b0) (c1 : b0 < 240) (d1 : 128 ≤ b1) (e1 : b1 < 192) (d2 : 128 ≤ b2) (e2 : b2 < 192) (f1 : 57344 ≤ (64 * (64 * (b0 - 224) + b1 - 128) + b2 - 128)) : widthN s p = ((64 * (64 * (b0 - 224) + b1 - 128) + b2 - 128), 3) := by
  unfold widthN Utf8.decode
  simp only [Nat.add_zero, get_at s p hp, h0, get_at s (p + 1) hp1, h1, get_at s (p + 2) hp2, h2]
  repeat' split
  all_goals simp_all [Utf8.valid, Utf8.runeError]
  all_goals omega

theorem width_s4_dec (s : ByteArray) (p : Nat) (b0 : Nat) (hp : p < s.size) (h0 : (s[p]'hp).toNat = b0) (hl : s.size < p + 4) (c0 : 240 ≤ b0) (c1 : b0 < 245) : widthN s p = (0, 0) := by
  unfold widthN Utf8.decode
  simp only [Nat.add_zero, get_at s p hp, h0]
  repeat' split
  all_goals simp_all [Utf8.valid, Utf8.runeError]
  all_goals omega

theorem width_b41l_dec (s : ByteArray) (p : Nat) (b0 b1 : Nat) (hp : p < s.size) (h0 : (s[p]'hp).toNat = b0) (hp1 : p + 1 < s.size) (h1 : (s[p + 1]'hp1).toNat = b1) (hl : p + 4 ≤ s.size) (c0 : 240 ≤ b0) (c1 : b0 < 245)  (d1 : b1 < 128) : widthN s p = (0, 0) := by
  unfold widthN Utf8.decode
  simp only [Nat.add_zero, get_at s p hp, h0, get_at s (p + 1) hp1, h1]
  repeat' split
  all_goals simp_all [Utf8.valid, Utf8.runeError]
  all_goals omega

theorem width_b41h_dec (s : ByteArray) (p : Nat) (b0 b1 : Nat) (hp : p < s.size) (h0 : (s[p]'hp).toNat = b0) (hp1 : p + 1 < s.size) (h1 : (s[p + 1]'hp1).toNat = b1) (hl : p + 4 ≤ s.size) (c0 : 240 ≤ b0) (c1 : b0 < 245)  (d1 : 192 ≤ b1) : widthN s p = (0, 0) := by
  unfold widthN Utf8.decode
  simp only [Nat.add_zero, get_at s p hp, h0, get_at s (p + 1) hp1, h1]
  repeat' split
  all_goals simp_all [Utf8.valid, Utf8.runeError]
  all_goals omega

theorem width_b42l_dec (s : ByteArray) (p : Nat) (b0 b1 b2 : Nat) (hp : p < s.size) (h0 : (s[p]'hp).toNat = b0) (hp1 : p + 1 < s.size) (h1 : (s[p + 1]'hp1).toNat = b1) (hp2 : p + 2 < s.size) (h2 : (s[p + 2]'hp2).toNat = b2) (hl : p + 4 ≤ s.size) (c0 : 240 ≤ b0) (c1 : b0 < 245) (d1 : 128 ≤ b1) (e1 : b1 < 192) (d2 : b2 < 128) : widthN s p = (0, 0) := by
  unfold widthN Utf8.decode
  simp only [Nat.add_zero, get_at s p hp, h0, get_at s (p + 1) hp1, h1, get_at s (p + 2) hp2, h2]
  repeat' split
  all_goals simp_all [Utf8.valid, Utf8.runeError]
  all_goals omega

theorem width_b42h_dec (s : ByteArray) (p : Nat) (b0 b1 b2 : Nat) (hp : p < s.size) (h0 : (s[p]'hp).toNat = b0) (hp1 : p + 1 < s.size) (h1 : (s[p + 1]'hp1).toNat = b1) (hp2 : p + 2 < s.size) (h2 : (s[p + 2]'hp2).toNat = b2) (hl : p + 4 ≤ s.size) (c0 : 240 ≤ b0) (c1 : b0 < 245) (d1 : 128 ≤ b1) (e1 : b1 < 192) (d2 : 192 ≤ b2) : widthN s p = (0, 0) := by
  unfold widthN Utf8.decode
  simp only [Nat.add_zero, get_at s p hp, h0, get_at s (p + 1) hp1, h1, get_at s (p + 2) hp2, h2]
  repeat' split
  all_goals simp_all [Utf8.valid, Utf8.runeError]
  all_goals omega

theorem width_b43l_dec (s : ByteArray) (p : Nat) (b0 b1 b2 b3 : Nat) (hp : p < s.size) (h0 : (s[p]'hp).toNat = b0) (hp1 : p + 1 < s.size) (h1 : (s[p + 1]'hp1).toNat = b1) (hp2 : p + 2 < s.size) (h2 : (s[p + 2]'hp2).toNat = b2) (hp3 : p + 3 < s.size) (h3 : (s[p + 3]'hp3).toNat = b3) (hl : p + 4 ≤ s.size) (c0 : 240 ≤ b0) (c1 : b0 < 245) (d1 : 128 ≤ b1) (e1 : b1 < 192) (d2 : 128 ≤ b2) (e2 : b2 < 192) (d3 : b3 < 128) : widthN s p = (0, 0) := by
  unfold widthN Utf8.decode
  simp only [Nat.add_zero, get_at s p hp, h0, get_at s (p + 1) hp1, h1, get_at s (p + 2) hp2, h2, get_at s (p + 3) hp3, h3]
  repeat' split
  all_goals simp_all [Utf8.valid, Utf8.runeError]
  all_goals omega

theorem width_b43h_dec (s : ByteArray) (p : Nat) (b0 b1 b2 b3 : Nat) (hp : p < s.size) (h0 : (s[p]'hp).toNat = b0) (hp1 : p + 1 < s.size) (h1 : (s[p + 1]'hp1).toNat = b1) (hp2 : p + 2 < s.size) (h2 : (s[p + 2]'hp2).toNat = b2) (hp3 : p + 3 < s.size) (h3 : (s[p + 3]'hp3).toNat = b3) (hl : p + 4 ≤ s.size) (c0 : 240 ≤ b0) (c1 : b0 < 245) (d1 : 128 ≤ b1) (e1 : b1 < 192) (d2 : 128 ≤ b2) (e2 : b2 < 192) (d3 : 192 ≤ b3) : widthN s p = (0, 0) := by
  unfold widthN Utf8.decode
  simp only [Nat.add_zero, get_at s p hp, h0, get_at s (p + 1) hp1, h1, get_at s (p + 2) hp2, h2, get_at s (p + 3) hp3, h3]
  repeat' split
  all_goals simp_all [Utf8.valid, Utf8.runeError]
  all_goals omega

theorem width_4z1_dec (s : ByteArray) (p : Nat) (b0 b1 b2 b3 : Nat) (hp : p < s.size) (h0 : (s[p]'hp).toNat = b0) (hp1 : p + 1 < s.size) (h1 : (s[p + 1]'hp1).toNat = b1) (hp2 : p + 2 < s.size) (h2 : (s[p + 2]'hp2).toNat = b2) (hp3 : p + 3 < s.size) (h3 : (s[p + 3]'hp3).toNat = b3)  (c0 : 240 ≤ b0) (c1 : b0 < 245) (d1 : 128 ≤ b1) (e1 : b1 < 192) (d2 : 128 ≤ b2) (e2 : b2 < 192) (d3 : 128 ≤ b3) (e3 : b3 < 192) (f1 : (64 * (64 * (64 * (b0 - 240) + b1 - 128) + b2 - 128) + b3 - 128) < 65536) : widthN s p = (0, 0) := by
  unfold widthN Utf8.decode
  simp only [Nat.add_zero, get_at s p hp, h0, get_at s (p + 1) hp1, h1, get_at s (p + 2) hp2, h2, get_at s (p + 3) hp3, h3]
  repeat' split
  all_goals simp_all [Utf8.valid, Utf8.runeError]
  all_goals omega

theorem width_4z2_dec (s : ByteArray) (p : Nat) (b0 b1 b2 b3 : Nat) (hp : p < s.size) (h0 : (s[p]'hp).toNat = b0) (hp1 : p + 1 < s.size) (h1 : (s[p + 1]'hp1).toNat = b1) (hp2 : p + 2 < s.size) (h2 : (s[p + 2]'hp2).toNat = b2) (hp3 : p + 3 < s.size) (h3 : (s[p + 3]'hp3).toNat = b3)  (c0 : 240 ≤ b0) (c1 : b0 < 245) (d1 : 128 ≤ b1) (e1 : b1 < 192) (d2 : 128 ≤ b2) (e2 : b2 < 192) (d3 : 128 ≤ b3) (e3 : b3 < 192) (f1 : 1114111 < (64 * (64 * (64 * (b0 - 240) + b1 - 128) + b2 - 128) + b3 - 128)) : widthN s p = (0, 0) := by
  unfold widthN Utf8.decode
  simp only [Nat.add_zero, get_at s p hp, h0, get_at s (p + 1) hp1, h1, get_at s (p + 2) hp2, h2, get_at s (p + 3) hp3, h3]
  repeat' split
  all_goals simp_all [Utf8.valid, Utf8.runeError]
  all_goals omega

theorem width_4ok_dec (s : ByteArray) (p : Nat) (b0 b1 b2 b3 : Nat) (hp : p < s.size) (h0 : (s[p]'hp).toNat = b0) (hp1 : p + 1 < s.size) (h1 : (s[p + 1]'hp1).toNat = b1) (hp2 : p + 2 < s.size) (h2 : (s[p + 2]'hp2).toNat = b2) (hp3 : p + 3 < s.size) (h3 : (s[p + 3]'hp3).toNat = b3)  (c0 : 240 ≤ b0) (c1 : b0 < 245) (d1 : 128 ≤ b1) (e1 : b1 < 192) (d2 : 128 ≤ b2) (e2 : b2 < 192) (d3 : 128 ≤ b3) (e3 : b3 < 192) (f1 : 65536 ≤ (64 * (64 * (64 * (b0 - 240) + b1 - 128) + b2 - 128) + b3 - 128)) (f2 : (64 * (64 * (64 * (b0 - 240) + b1 - 128) + b2 - 128) + b3 - 128) ≤ 1114111) : widthN s p = ((64 * (64 * (64 * (b0 - 240) + b1 - 128) + b2 - 128) + b3 - 128), 4) := by
  unfold widthN Utf8.decode
  simp only [Nat.add_zero, get_at s p hp, h0, get_at s (p + 1) hp1, h1, get_at s (p + 2) hp2, h2, get_at s (p + 3) hp3, h3]
  repeat' split
  all_goals simp_all [Utf8.valid, Utf8.runeError]
  all_goals omega

end Go.Proofs.YtjnmoddcodnadaaGreatDoor
