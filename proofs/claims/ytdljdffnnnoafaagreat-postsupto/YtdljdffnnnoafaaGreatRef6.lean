import Derived.Test.YtdljdffnnnoafaaGreatNam1
import Derived.Test.YtdljdffnnnoafaaGreatNam2
import Derived.Test.YtdljdffnnnoafaaGreatNam3
import Derived.Test.YtdljdffnnnoafaaGreatNam4
import Derived.Test.YtdljdffnnnoafaaGreatRef5
set_option linter.unusedVariables false
set_option linter.unusedSimpArgs false
namespace Go.Proofs.YtdljdffnnnoafaaGreat
open Go.RowKit Go.Annal
theorem width_any (s : ByteArray) (p : Nat) (w : World) (hs : s.size ≤ 4611686018427387904) (hp : p < s.size) :
    Calls Tryz.prog 57 #[.string s, .int .i64 p] w fun r w' => r = .returned (.tuple #[.int .i64 (widthN s p).1, .int .i64 (widthN s p).2]) ∧ w' = w := by
  obtain ⟨b0, h0⟩ : ∃ b0, (s[p]'hp).toNat = b0 := ⟨_, rfl⟩
  by_cases a1 : b0 < 128
  · exact width_1 s p w hs b0 hp h0 a1
  by_cases a2 : b0 < 194
  · exact width_d1 s p w hs b0 hp h0 (by omega) a2
  by_cases a3 : 245 ≤ b0
  · exact width_d2 s p w hs b0 hp h0 a3
  by_cases a4 : b0 < 224
  · by_cases l : s.size < p + 2
    · exact width_s2 s p w hs b0 hp h0 l (by omega) a4
    have hp1 : p + 1 < s.size := by omega
    obtain ⟨b1, h1⟩ : ∃ b1, (s[p + 1]'hp1).toNat = b1 := ⟨_, rfl⟩
    by_cases d1 : b1 < 128
    · exact width_b21l s p w hs b0 b1 hp h0 hp1 h1 (by omega) (by omega) a4 d1
    by_cases e1 : 192 ≤ b1
    · exact width_b21h s p w hs b0 b1 hp h0 hp1 h1 (by omega) (by omega) a4 e1
    exact width_2ok s p w hs b0 b1 hp h0 hp1 h1 (by omega) a4 (by omega) (by omega)
  by_cases a5 : b0 < 240
  · by_cases l : s.size < p + 3
    · exact width_s3 s p w hs b0 hp h0 l (by omega) a5
    have hp1 : p + 1 < s.size := by omega
    have hp2 : p + 2 < s.size := by omega
    obtain ⟨b1, h1⟩ : ∃ b1, (s[p + 1]'hp1).toNat = b1 := ⟨_, rfl⟩
    obtain ⟨b2, h2⟩ : ∃ b2, (s[p + 2]'hp2).toNat = b2 := ⟨_, rfl⟩
    by_cases d1 : b1 < 128
    · exact width_b31l s p w hs b0 b1 hp h0 hp1 h1 (by omega) (by omega) a5 d1
    by_cases e1 : 192 ≤ b1
    · exact width_b31h s p w hs b0 b1 hp h0 hp1 h1 (by omega) (by omega) a5 e1
    by_cases d2 : b2 < 128
    · exact width_b32l s p w hs b0 b1 b2 hp h0 hp1 h1 hp2 h2 (by omega) (by omega) a5 (by omega) (by omega) d2
    by_cases e2 : 192 ≤ b2
    · exact width_b32h s p w hs b0 b1 b2 hp h0 hp1 h1 hp2 h2 (by omega) (by omega) a5 (by omega) (by omega) e2
    by_cases f1 : (64 * (64 * (b0 - 224) + b1 - 128) + b2 - 128) < 2048
    · exact width_3z1 s p w hs b0 b1 b2 hp h0 hp1 h1 hp2 h2 (by omega) a5 (by omega) (by omega) (by omega) (by omega) f1
    by_cases f2 : (64 * (64 * (b0 - 224) + b1 - 128) + b2 - 128) < 55296
    · exact width_3ok1 s p w hs b0 b1 b2 hp h0 hp1 h1 hp2 h2 (by omega) a5 (by omega) (by omega) (by omega) (by omega) (by omega) f2
    by_cases f3 : (64 * (64 * (b0 - 224) + b1 - 128) + b2 - 128) < 57344
    · exact width_3z2 s p w hs b0 b1 b2 hp h0 hp1 h1 hp2 h2 (by omega) a5 (by omega) (by omega) (by omega) (by omega) (by omega) f3
    exact width_3ok2 s p w hs b0 b1 b2 hp h0 hp1 h1 hp2 h2 (by omega) a5 (by omega) (by omega) (by omega) (by omega) (by omega)
  · have a6 : b0 < 245 := by omega
    by_cases l : s.size < p + 4
    · exact width_s4 s p w hs b0 hp h0 l (by omega) a6
    have hp1 : p + 1 < s.size := by omega
    have hp2 : p + 2 < s.size := by omega
    have hp3 : p + 3 < s.size := by omega
    obtain ⟨b1, h1⟩ : ∃ b1, (s[p + 1]'hp1).toNat = b1 := ⟨_, rfl⟩
    obtain ⟨b2, h2⟩ : ∃ b2, (s[p + 2]'hp2).toNat = b2 := ⟨_, rfl⟩
    obtain ⟨b3, h3⟩ : ∃ b3, (s[p + 3]'hp3).toNat = b3 := ⟨_, rfl⟩
    by_cases d1 : b1 < 128
    · exact width_b41l s p w hs b0 b1 hp h0 hp1 h1 (by omega) (by omega) a6 d1
    by_cases e1 : 192 ≤ b1
    · exact width_b41h s p w hs b0 b1 hp h0 hp1 h1 (by omega) (by omega) a6 e1
    by_cases d2 : b2 < 128
    · exact width_b42l s p w hs b0 b1 b2 hp h0 hp1 h1 hp2 h2 (by omega) (by omega) a6 (by omega) (by omega) d2
    by_cases e2 : 192 ≤ b2
    · exact width_b42h s p w hs b0 b1 b2 hp h0 hp1 h1 hp2 h2 (by omega) (by omega) a6 (by omega) (by omega) e2
    by_cases d3 : b3 < 128
    · exact width_b43l s p w hs b0 b1 b2 b3 hp h0 hp1 h1 hp2 h2 hp3 h3 (by omega) (by omega) a6 (by omega) (by omega) (by omega) (by omega) d3
    by_cases e3 : 192 ≤ b3
    · exact width_b43h s p w hs b0 b1 b2 b3 hp h0 hp1 h1 hp2 h2 hp3 h3 (by omega) (by omega) a6 (by omega) (by omega) (by omega) (by omega) e3
    by_cases f1 : (64 * (64 * (64 * (b0 - 240) + b1 - 128) + b2 - 128) + b3 - 128) < 65536
    · exact width_4z1 s p w hs b0 b1 b2 b3 hp h0 hp1 h1 hp2 h2 hp3 h3 (by omega) a6 (by omega) (by omega) (by omega) (by omega) (by omega) (by omega) f1
    by_cases f2 : 1114111 < (64 * (64 * (64 * (b0 - 240) + b1 - 128) + b2 - 128) + b3 - 128)
    · exact width_4z2 s p w hs b0 b1 b2 b3 hp h0 hp1 h1 hp2 h2 hp3 h3 (by omega) a6 (by omega) (by omega) (by omega) (by omega) (by omega) (by omega) f2
    exact width_4ok s p w hs b0 b1 b2 b3 hp h0 hp1 h1 hp2 h2 hp3 h3 (by omega) a6 (by omega) (by omega) (by omega) (by omega) (by omega) (by omega) (by omega) (by omega)

set_option maxRecDepth 100000 in
set_option maxHeartbeats 1000000 in
theorem name_any (s : ByteArray) (w : World) (hs : s.size ≤ 1000000000) :
    Calls Tryz.prog 29 #[.string s] w fun r w' => r = .returned (.bool (isName s)) ∧ w' = w := by
  go_enter Tryz.func29, Tryz.ntmps29
  go_wp2
  go_loop [3, 4] (fun kv iv => ∃ k pos : Nat, k ≤ pos ∧ pos ≤ s.size + 4 ∧ kv = .int .i64 k ∧ iv = .int .i64 pos ∧ Came s k pos) (fun _ iv => s.size - (intOf iv).toNat)
  case atStart => exact ⟨0, 0, by omega, by omega, rfl, rfl, Came.start s⟩
  case round =>
    obtain ⟨k, pos, hkp, hps, rfl, rfl, hcame⟩ := hrel
    by_cases hp : pos < s.size
    · have hp' : (pos : Int) < (s.size : Int) := by omega
      have HC : Hid (∀ W, Calls Tryz.prog 57 #[.string s, .int .i64 pos] W fun r w' => r = .returned (.tuple #[.int .i64 (widthN s pos).1, .int .i64 (widthN s pos).2]) ∧ w' = W) := fun W => width_any s pos W (by omega) hp
      have hstep : Hid (okRune (Utf8.decode s pos).1 = true → Came s (k + 1) (pos + (Utf8.decode s pos).2)) := fun h => hcame.step hp h
      have hbad : Hid (okRune (Utf8.decode s pos).1 = false → isName s = false) := fun h => hcame.bad hp h
      have hd := decode_lt s pos
      have hd2 := decode_pos s pos
      by_cases herr : Utf8.decode s pos = (65533, 1)
      · have hno : Hid (isName s = false) := hbad.out (by rw [herr]; decide)
        have hw : widthN s pos = (0, 0) := by simp [widthN, herr]
        rw [hw] at HC
        clear hstep hbad hd hd2 herr hcame hw
        go_wp2_with (go_at_call 57; refine (HC.out _).mono ?_; rintro e w' ⟨rfl, rfl⟩)
        go_ret
        exact ⟨ret_bool hno.out.symm, rfl⟩
      · have hw : widthN s pos = Utf8.decode s pos := by simp [widthN, herr]
        rw [hw] at HC
        clear herr hcame hw
        generalize (Utf8.decode s pos).1 = v at *
        generalize (Utf8.decode s pos).2 = n at *
        obtain ⟨hn1, hn4⟩ := hd2
        have hn0 : ((n : Int) == 0) = false := by rw [beq_eq_false_iff_ne]; omega
        rcases (show v ≤ 32 ∨ (32 < v ∧ v < 127) ∨ (127 ≤ v ∧ v ≤ 160) ∨ (160 < v ∧ v ≠ 65533) ∨ v = 65533 by omega) with h | ⟨h, h'⟩ | ⟨h, h'⟩ | ⟨h, h'⟩ | h
        · have hno : Hid (isName s = false) := hbad.out (by simp [okRune]; omega)
          have a2 : (v : Int) ≤ 32 := by omega
          go_wp2_with (go_at_call 57; refine (HC.out _).mono ?_; rintro e w' ⟨rfl, rfl⟩)
          go_ret
          exact ⟨ret_bool hno.out.symm, rfl⟩
        · have hyes : Hid (Came s (k + 1) (pos + n)) := hstep.out (by simp [okRune]; omega)
          have a2 : ¬ (v : Int) ≤ 32 := by omega
          have a3 : ¬ (127 : Int) ≤ (v : Int) := by omega
          have a4 : ((v : Int) == 65533) = false := by rw [beq_eq_false_iff_ne]; omega
          go_wp2_with (go_at_call 57; refine (HC.out _).mono ?_; rintro e w' ⟨rfl, rfl⟩)
          go_round
          case rel => exact ⟨k + 1, pos + n, by omega, by omega, by go_num, by go_num, hyes.out⟩
          case measure => simp [intOf]; omega
        · have hno : Hid (isName s = false) := hbad.out (by simp [okRune]; omega)
          have a2 : ¬ (v : Int) ≤ 32 := by omega
          have a3 : (127 : Int) ≤ (v : Int) := by omega
          have a4 : (v : Int) ≤ 160 := by omega
          go_wp2_with (go_at_call 57; refine (HC.out _).mono ?_; rintro e w' ⟨rfl, rfl⟩)
          go_ret
          exact ⟨ret_bool hno.out.symm, rfl⟩
        · have hyes : Hid (Came s (k + 1) (pos + n)) := hstep.out (by simp [okRune]; omega)
          have a2 : ¬ (v : Int) ≤ 32 := by omega
          have a3 : (127 : Int) ≤ (v : Int) := by omega
          have a5 : ¬ (v : Int) ≤ 160 := by omega
          have a4 : ((v : Int) == 65533) = false := by rw [beq_eq_false_iff_ne]; omega
          go_wp2_with (go_at_call 57; refine (HC.out _).mono ?_; rintro e w' ⟨rfl, rfl⟩)
          go_round
          case rel => exact ⟨k + 1, pos + n, by omega, by omega, by go_num, by go_num, hyes.out⟩
          case measure => simp [intOf]; omega
        · have hno : Hid (isName s = false) := hbad.out (by subst h; decide)
          subst h
          go_wp2_with (go_at_call 57; refine (HC.out _).mono ?_; rintro e w' ⟨rfl, rfl⟩)
          go_ret
          exact ⟨ret_bool hno.out.symm, rfl⟩
    · have hp' : ¬ (pos : Int) < (s.size : Int) := by omega
      have hd : Hid (isName s = (decide (1 ≤ k) && decide (k ≤ 12))) := hcame.done hp
      clear hcame
      by_cases hk : (1 : Int) ≤ (k : Int)
      · go_wp2
        go_ret
        exact ⟨ret_bool (by rw [hd.out, Bool.eq_iff_iff]; simp; omega), rfl⟩
      · go_wp2
        go_ret
        exact ⟨ret_bool (by rw [hd.out, Bool.eq_iff_iff]; simp; omega), rfl⟩
end Go.Proofs.YtdljdffnnnoafaaGreat
namespace Go.Annal
def kindB (k : Int) : Bool := decide (k = 0) || decide (k = 1)
def openE (name kind there full : Bool) : Int := if !name then 1 else if !kind then 2 else if there then 3 else if full then 4 else 0
end Go.Annal
namespace Go.Proofs.YtdljdffnnnoafaaGreat
open Go.RowKit Go.Annal
theorem Tryz.infoAcc : (Tryz.prog.info? 84).map (fun i => (i.zero, i.size, i.bytes)) = some (some (.agg #[.string ⟨#[]⟩, .int .i64 0]), 2, 24) := by kernel_rfl

theorem sz_arr (a : Array UInt8) : (⟨a⟩ : ByteArray).size = a.size := rfl

set_option maxRecDepth 100000 in
set_option maxHeartbeats 1000000 in
theorem OpenR_err (R ga ca na : Nat) (ada : Option Addr) (fn : Nat → ByteArray) (name : ByteArray) (kind : Int) (w : World) (hA : AccsAt w R ga ca na ada fn) (hs : name.size ≤ 1000000000)
    (he : openE (isName name) (kindB kind) (decide (0 ≤ atI fn na name)) (decide (10 ≤ na)) ≠ 0) :
    Calls Tryz.prog 12 #[.pointer (some ⟨R, 0, none⟩), .string name, .int .i64 kind] w fun r w' => r = .returned (.int .i64 (openE (isName name) (kindB kind) (decide (0 ≤ atI fn na name)) (decide (10 ≤ na)))) ∧ w' = w := by
  have C1 : Hid _ := name_any name w hs
  have C2 : Hid _ := hA.at name
  have cA := hA.cA
  have hfew := hA.few
  clear hA
  cases h1 : isName name
  · rw [h1] at C1
    clear h1 he
    generalize atI fn na name = t at *
    go_enter Tryz.func12, Tryz.ntmps12
    go_wp2_with (first | (go_at_call 29; refine Calls.mono C1.out ?_; rintro e wx ⟨rfl, hw⟩; rw [hw]; clear hw wx) | (go_at_call 30; refine Calls.mono C2.out ?_; rintro e wx ⟨rfl, hw⟩; rw [hw]; clear hw wx))
    go_ret
    exact ⟨rfl, rfl⟩
  · rw [h1] at C1 he
    clear h1
    cases h2 : kindB kind
    · have k0 : (kind != 0) = true := by simp [kindB] at h2; simp; omega
      have k1 : (kind != 1) = true := by simp [kindB] at h2; simp; omega
      clear h2 he
      generalize atI fn na name = t at *
      go_enter Tryz.func12, Tryz.ntmps12
      go_wp2_with (first | (go_at_call 29; refine Calls.mono C1.out ?_; rintro e wx ⟨rfl, hw⟩; rw [hw]; clear hw wx) | (go_at_call 30; refine Calls.mono C2.out ?_; rintro e wx ⟨rfl, hw⟩; rw [hw]; clear hw wx))
      go_ret
      exact ⟨rfl, rfl⟩
    · rw [h2] at he
      have hk : kind = 0 ∨ kind = 1 := by simpa [kindB] using h2
      clear h2
      cases h3 : decide (0 ≤ atI fn na name)
      · rw [h3] at he
        have ht : atI fn na name < 0 := by simpa using h3
        have h4 : decide (10 ≤ na) = true := by
          cases h : decide (10 ≤ na)
          · rw [h] at he; exact absurd rfl he
          · rfl
        rw [h4]
        have hna : 10 ≤ na := by simpa using h4
        have hna' : (10 : Int) ≤ (na : Int) := by omega
        have ht' : ¬ 0 ≤ atI fn na name := by omega
        clear h3 h4 he
        generalize atI fn na name = t at *
        rcases hk with rfl | rfl
        · go_enter Tryz.func12, Tryz.ntmps12
          go_wp2_with (first | (go_at_call 29; refine Calls.mono C1.out ?_; rintro e wx ⟨rfl, hw⟩; rw [hw]; clear hw wx) | (go_at_call 30; refine Calls.mono C2.out ?_; rintro e wx ⟨rfl, hw⟩; rw [hw]; clear hw wx))
          go_ret
          exact ⟨rfl, rfl⟩
        · go_enter Tryz.func12, Tryz.ntmps12
          go_wp2_with (first | (go_at_call 29; refine Calls.mono C1.out ?_; rintro e wx ⟨rfl, hw⟩; rw [hw]; clear hw wx) | (go_at_call 30; refine Calls.mono C2.out ?_; rintro e wx ⟨rfl, hw⟩; rw [hw]; clear hw wx))
          go_ret
          exact ⟨rfl, rfl⟩
      · have ht : 0 ≤ atI fn na name := by simpa using h3
        clear h3 he
        generalize atI fn na name = t at *
        rcases hk with rfl | rfl
        · go_enter Tryz.func12, Tryz.ntmps12
          go_wp2_with (first | (go_at_call 29; refine Calls.mono C1.out ?_; rintro e wx ⟨rfl, hw⟩; rw [hw]; clear hw wx) | (go_at_call 30; refine Calls.mono C2.out ?_; rintro e wx ⟨rfl, hw⟩; rw [hw]; clear hw wx))
          go_ret
          exact ⟨rfl, rfl⟩
        · go_enter Tryz.func12, Tryz.ntmps12
          go_wp2_with (first | (go_at_call 29; refine Calls.mono C1.out ?_; rintro e wx ⟨rfl, hw⟩; rw [hw]; clear hw wx) | (go_at_call 30; refine Calls.mono C2.out ?_; rintro e wx ⟨rfl, hw⟩; rw [hw]; clear hw wx))
          go_ret
          exact ⟨rfl, rfl⟩

set_option maxRecDepth 100000 in
set_option maxHeartbeats 1000000 in
theorem OpenR_ok (R ga ca na : Nat) (av ev c2 : Value) (t : ByteArray) (ada : Option Addr) (fn : Nat → ByteArray) (xs : List Value) (name : ByteArray) (kind : Int) (w : World) (hA : AccsAt w R ga ca na ada fn) (hs : name.size ≤ 1000000000) (ht : t.size ≤ 900000000000)
    (hR : w.heap[R]? = some (.cells #[av, ev, c2, .string t] 60 (0, 0))) (hown : w.ownsRow 0 84 2 av na xs)
    (h1 : isName name = true) (h2 : kind = 0 ∨ kind = 1) (h3 : atI fn na name < 0) (h4 : na < 10) :
    Calls Tryz.prog 12 #[.pointer (some ⟨R, 0, none⟩), .string name, .int .i64 kind] w fun r w' => r = .returned (.int .i64 0) ∧ ∃ g cap t', t'.size ≤ t.size + name.size + 100 ∧
      w'.heap[R]? = some (.cells #[.slice (some ⟨g, 0, none⟩) (na + 1) cap, ev, c2, .string t'] 60 (0, 0)) ∧ w'.ownsRow 0 84 2 (.slice (some ⟨g, 0, none⟩) (na + 1) cap) (na + 1) (xs ++ [.string name, .int .i64 kind]) ∧
      Turn (fun k => k = R ∨ av.ownBlock = some k) w w' ∧ (av.ownBlock = some g ∨ w.heap.size ≤ g) := by
  obtain ⟨i0, hi, hz0, hz1, hz2⟩ := info_parts Tryz.infoAcc
  have C1 : Hid _ := name_any name w hs
  have C2 : Hid _ := hA.at name
  rw [h1] at C1
  have hcA := hA.cA
  have hR0 := blk_cell' hR (o := 0) rfl
  have hav : av = .slice ada na ca := by have := hcA.symm.trans hR0; simpa using this.symm
  clear hA hcA
  have hRb : av.ownBlock ≠ some R := fun h => by
    obtain ⟨c, fz, hc⟩ := owns_kind hown R h
    rw [hR] at hc; simp at hc
  have hRlt := blk_lt hR
  have f0 := blk_free hR 0
  have h3' : ¬ 0 ≤ atI fn na name := by omega
  have h4' : ¬ (10 : Int) ≤ (na : Int) := by omega
  generalize atI fn na name = tt at *
  clear h1
  subst hav
  have CD := fun W => digits_any kind W (by omega) (by omega)
  have HD : Hid _ := CD
  have hdl := digZ_len kind
  clear CD
  have k01 : Hid (kind = 0 ∨ kind = 1) := h2
  have kk : (kind != 0 && kind != 1) = false := by rcases h2 with rfl | rfl <;> rfl
  generalize digZ kind = dl at HD hdl
  rcases h2 with rfl | rfl
  · go_enter Tryz.func12, Tryz.ntmps12
    go_wp2_with (first
      | (go_at_call 29; refine Calls.mono C1.out ?_; rintro e wx ⟨rfl, hw⟩; rw [hw]; clear hw wx)
      | (go_at_call 30; refine Calls.mono C2.out ?_; rintro e wx ⟨rfl, hw⟩; rw [hw]; clear hw wx)
      | (at_builtin; refine wpList_append_lies _ rfl (.tmp 38) (.tmp 42) 57 rfl 0 84 i0 _ 2 24 Tryz.underlying57 hi hz0 hz1 hz2 rfl (by decide) _ na xs rfl (hown.alloc _) ⟨w.heap.size, 0, none⟩ 1 1 [.string name, .int .i64 0] rfl rfl (World.news_of_block (cs := #[.string name, .int .i64 0]) (heap_alloc_new w _)) (by simp [Value.oneCell']) (by decide) (by unfold maxLen; omega) (by omega) (Nat.zero_le _) (w.heap.size + 1) (by simp) ?_; intro g cap w1 hown1 hg1 hat hlt; have R1 : w1.heap[R]? = some (.cells #[.slice ada na ca, ev, c2, .string t] 60 (0, 0)) := (hg1.block R (by simp; omega) (Ne.symm hRb)).trans (Grew.blk ((Grew.refl w).alloc _) hR); have r1' := blk_cell' R1 (o := 0) rfl; have f1'' := blk_free R1 0))
    refine Calls.mono (HD.out _) ?_
    rintro e w3 ⟨rfl, hg3⟩
    have R3 := hg3.blk (blk_set R1 0 (.slice (some ⟨g, 0, none⟩) (na + 1) cap))
    have hge : (Value.slice (some ⟨g, 0, none⟩) (na + 1) cap).ownBlock ≠ some R := fun h => by
      obtain ⟨c, fz, hc⟩ := owns_kind hown1 R h
      rw [R1] at hc; simp at hc
    have own2 := ownsRow_setCell_other hown1 (a := ⟨R, 0, none⟩) hge (.slice (some ⟨g, 0, none⟩) (na + 1) cap)
    have own3 := owns_mv own2 hg3.below
    have T3 : Turn (fun k => k = R ∨ (Value.slice ada na ca).ownBlock = some k) w w3 := Turn.below (Turn.set (Turn.of_grown (Turn.alloc (Turn.refl _ w) _) hg1 (fun k hk _ => Or.inr hk)) _ _ (fun _ => Or.inl rfl)) hg3.below
    have HG : Hid ((Value.slice ada na ca).ownBlock = some g ∨ g = w.heap.size + 1) := hat
    clear hg1 hg3 hown1 own2 R1 r1' f1'' hat HD
    go_wp2_with fail
    refine Calls.mono (note_any R _ _ _ t _ w3 R3 (by simp only [ByteArray.size_append, sz_arr, List.size_toArray, List.length_cons, List.length_nil]; omega)) ?_
    rintro e w4 ⟨rfl, rfl⟩
    have R4 := blk_set R3 3
    have own4 := fun v => ownsRow_setCell_other own3 (a := ⟨R, 3, none⟩) hge v
    have T4 := fun v => Turn.set T3 ⟨R, 3, none⟩ v (fun _ => Or.inl rfl)
    clear R3 own3 T3
    go_wp2
    go_ret
    refine ⟨rfl, g, cap, _, ?_, R4 _, own4 _, T4 _, ?_⟩
    · simp only [ByteArray.size_append, sz_arr, List.size_toArray, List.length_cons, List.length_nil]; omega
    · rcases HG.out with h | h
      · exact .inl h
      · exact .inr (by omega)
  · go_enter Tryz.func12, Tryz.ntmps12
    go_wp2_with (first
      | (go_at_call 29; refine Calls.mono C1.out ?_; rintro e wx ⟨rfl, hw⟩; rw [hw]; clear hw wx)
      | (go_at_call 30; refine Calls.mono C2.out ?_; rintro e wx ⟨rfl, hw⟩; rw [hw]; clear hw wx)
      | (at_builtin; refine wpList_append_lies _ rfl (.tmp 38) (.tmp 42) 57 rfl 0 84 i0 _ 2 24 Tryz.underlying57 hi hz0 hz1 hz2 rfl (by decide) _ na xs rfl (hown.alloc _) ⟨w.heap.size, 0, none⟩ 1 1 [.string name, .int .i64 1] rfl rfl (World.news_of_block (cs := #[.string name, .int .i64 1]) (heap_alloc_new w _)) (by simp [Value.oneCell']) (by decide) (by unfold maxLen; omega) (by omega) (Nat.zero_le _) (w.heap.size + 1) (by simp) ?_; intro g cap w1 hown1 hg1 hat hlt; have R1 : w1.heap[R]? = some (.cells #[.slice ada na ca, ev, c2, .string t] 60 (0, 0)) := (hg1.block R (by simp; omega) (Ne.symm hRb)).trans (Grew.blk ((Grew.refl w).alloc _) hR); have r1' := blk_cell' R1 (o := 0) rfl; have f1'' := blk_free R1 0))
    refine Calls.mono (HD.out _) ?_
    rintro e w3 ⟨rfl, hg3⟩
    have R3 := hg3.blk (blk_set R1 0 (.slice (some ⟨g, 0, none⟩) (na + 1) cap))
    have hge : (Value.slice (some ⟨g, 0, none⟩) (na + 1) cap).ownBlock ≠ some R := fun h => by
      obtain ⟨c, fz, hc⟩ := owns_kind hown1 R h
      rw [R1] at hc; simp at hc
    have own2 := ownsRow_setCell_other hown1 (a := ⟨R, 0, none⟩) hge (.slice (some ⟨g, 0, none⟩) (na + 1) cap)
    have own3 := owns_mv own2 hg3.below
    have T3 : Turn (fun k => k = R ∨ (Value.slice ada na ca).ownBlock = some k) w w3 := Turn.below (Turn.set (Turn.of_grown (Turn.alloc (Turn.refl _ w) _) hg1 (fun k hk _ => Or.inr hk)) _ _ (fun _ => Or.inl rfl)) hg3.below
    have HG : Hid ((Value.slice ada na ca).ownBlock = some g ∨ g = w.heap.size + 1) := hat
    clear hg1 hg3 hown1 own2 R1 r1' f1'' hat HD
    go_wp2_with fail
    refine Calls.mono (note_any R _ _ _ t _ w3 R3 (by simp only [ByteArray.size_append, sz_arr, List.size_toArray, List.length_cons, List.length_nil]; omega)) ?_
    rintro e w4 ⟨rfl, rfl⟩
    have R4 := blk_set R3 3
    have own4 := fun v => ownsRow_setCell_other own3 (a := ⟨R, 3, none⟩) hge v
    have T4 := fun v => Turn.set T3 ⟨R, 3, none⟩ v (fun _ => Or.inl rfl)
    clear R3 own3 T3
    go_wp2
    go_ret
    refine ⟨rfl, g, cap, _, ?_, R4 _, own4 _, T4 _, ?_⟩
    · simp only [ByteArray.size_append, sz_arr, List.size_toArray, List.length_cons, List.length_nil]; omega
    · rcases HG.out with h | h
      · exact .inl h
      · exact .inr (by omega)
end Go.Proofs.YtdljdffnnnoafaaGreat
namespace Go.Annal
def postE (day : Bool) (wrong : Int) (locked full : Bool) : Int := if !day then 5 else if wrong ≠ 0 then wrong else if locked then 11 else if full then 4 else 0
end Go.Annal
namespace Go.Proofs.YtdljdffnnnoafaaGreat
open Go.RowKit Go.Annal
attribute [local go_sem ↓] Go.wp_at_zero Go.wp_at_succ

set_option maxRecDepth 100000 in
set_option maxHeartbeats 1000000 in
theorem PostR_day (R n cap : Nat) (lad : Option Addr) (day : Int) (w : World) (h : dayB day = false) :
    Calls Tryz.prog 34 #[.pointer (some ⟨R, 0, none⟩), .int .i64 day, .slice lad n cap] w fun r w' => r = .returned (.tuple #[.int .i64 0, .int .i64 5]) ∧ w' = w := by
  have C1 : Hid _ := isDayR_any day w
  rw [h] at C1
  go_enter Tryz.func34, Tryz.ntmps34
  go_wp2_with (go_at_call 36; refine Calls.mono C1.out ?_; rintro e wx ⟨rfl, hw⟩; rw [hw]; clear hw wx)
  go_ret2
  exact ⟨rfl, rfl⟩

set_option maxRecDepth 100000 in
set_option maxHeartbeats 1000000 in
/-- The lines, the lock, the number of entries: what they refuse. 'CW': what 'wrong' says. -/
theorem PostR_err (R n cap ne ce : Nat) (lad ade : Option Addr) (day E lk : Int) (w : World) (h : dayB day = true)
    (CW : Calls Tryz.prog 60 #[.pointer (some ⟨R, 0, none⟩), .slice lad n cap] w fun r w' => r = .returned (.int .i64 E) ∧ ∃ q, w' = w.drewN q)
    (cE : w.cell? ⟨R, 1, none⟩ = some (.slice ade ne ce)) (cL : w.cell? ⟨R, 2, none⟩ = some (.int .i64 lk)) (hne : ne ≤ 1000) (he : postE true E (decide (day ≤ lk)) (decide (60 ≤ ne)) ≠ 0) :
    Calls Tryz.prog 34 #[.pointer (some ⟨R, 0, none⟩), .int .i64 day, .slice lad n cap] w fun r w' => r = .returned (.tuple #[.int .i64 0, .int .i64 (postE true E (decide (day ≤ lk)) (decide (60 ≤ ne)))]) ∧ ∃ q, w' = w.drewN q := by
  have C1 : Hid _ := isDayR_any day w
  rw [h] at C1
  have C2 : Hid _ := CW
  clear CW
  by_cases h1 : E = 0
  · subst h1
    by_cases h2 : day ≤ lk
    · have e : Hid (postE true 0 (decide (day ≤ lk)) (decide (60 ≤ ne)) = 11) := by show postE _ _ _ _ = _; simp [postE, h2]
      generalize postE true 0 (decide (day ≤ lk)) (decide (60 ≤ ne)) = F at *
      clear he
      go_enter Tryz.func34, Tryz.ntmps34
      go_wp2_with (first | (go_at_call 36; refine Calls.mono C1.out ?_; rintro e wx ⟨rfl, hw⟩; rw [hw]; clear hw wx) | (go_at_call 60; refine Calls.mono C2.out ?_; rintro e wx ⟨rfl, q, hw⟩; rw [hw]; clear hw wx))
      go_ret2
      exact ⟨ret_ie rfl e.out.symm, _, rfl⟩
    · have h3 : 60 ≤ ne := by
        rcases Nat.lt_or_ge ne 60 with h | h
        · exfalso; apply he; simp [postE, h2]; omega
        · exact h
      have e : Hid (postE true 0 (decide (day ≤ lk)) (decide (60 ≤ ne)) = 4) := by show postE _ _ _ _ = _; simp [postE, h2, h3]
      have h3' : (60 : Int) ≤ (ne : Int) := by omega
      generalize postE true 0 (decide (day ≤ lk)) (decide (60 ≤ ne)) = F at *
      clear he
      go_enter Tryz.func34, Tryz.ntmps34
      go_wp2_with (first | (go_at_call 36; refine Calls.mono C1.out ?_; rintro e wx ⟨rfl, hw⟩; rw [hw]; clear hw wx) | (go_at_call 60; refine Calls.mono C2.out ?_; rintro e wx ⟨rfl, q, hw⟩; rw [hw]; clear hw wx))
      go_ret2
      exact ⟨ret_ie rfl e.out.symm, _, rfl⟩
  · have e : Hid (postE true E (decide (day ≤ lk)) (decide (60 ≤ ne)) = E) := by show postE _ _ _ _ = _; simp [postE, h1]
    have h1' : (E != 0) = true := by simpa using h1
    generalize postE true E (decide (day ≤ lk)) (decide (60 ≤ ne)) = F at *
    clear he
    go_enter Tryz.func34, Tryz.ntmps34
    go_wp2_with (first | (go_at_call 36; refine Calls.mono C1.out ?_; rintro e wx ⟨rfl, hw⟩; rw [hw]; clear hw wx) | (go_at_call 60; refine Calls.mono C2.out ?_; rintro e wx ⟨rfl, q, hw⟩; rw [hw]; clear hw wx))
    go_ret2
    exact ⟨ret_ie rfl e.out.symm, _, rfl⟩

/-- The cells of n lines. -/
def lineCells (xa : Nat → ByteArray) (xm : Nat → Int) (n : Nat) : List Value := cells2 ((List.range n).map (fun k => (xa k, xm k)))
theorem lineCells_len (xa : Nat → ByteArray) (xm : Nat → Int) (n : Nat) : (lineCells xa xm n).length = n * 2 := by simp [lineCells, cells2_len]
theorem cells2_drop (l : List Ln) (k : Nat) : (cells2 l).drop (k * 2) = cells2 (l.drop k) := by
  induction l generalizing k with
  | nil => simp [cells2]
  | cons x r ih =>
    cases k with
    | zero => simp [cells2]
    | succ k =>
      have := ih k
      simp only [cells2, List.flatMap_cons, List.drop_succ_cons] at *
      rw [show (k + 1) * 2 = (enc2 x).length + k * 2 by simp [enc2]; omega, List.drop_append, List.drop_of_length_le (by omega), Nat.add_sub_cancel_left, this, List.nil_append]
theorem cells2_get (l : List Ln) (j : Nat) (h : j < l.length) (o : Nat) (ho : o < 2) : (cells2 l)[j * 2 + o]? = (enc2 l[j])[o]? := by
  have h1 : (cells2 l)[j * 2 + o]? = ((cells2 l).drop (j * 2))[o]? := by rw [List.getElem?_drop]
  rw [h1, cells2_drop, List.drop_eq_getElem_cons h]
  simp only [cells2, List.flatMap_cons]
  rw [List.getElem?_append_left (by simp [enc2]; omega)]
theorem lineCells_a (xa : Nat → ByteArray) (xm : Nat → Int) (n k : Nat) (h : k < n) : (lineCells xa xm n)[k * 2]? = some (.string (xa k)) := by
  have := cells2_get ((List.range n).map (fun k => (xa k, xm k))) k (by simpa using h) 0 (by omega)
  simpa [lineCells, enc2] using this
theorem lineCells_m (xa : Nat → ByteArray) (xm : Nat → Int) (n k : Nat) (h : k < n) : (lineCells xa xm n)[k * 2 + 1]? = some (.int .i64 (xm k)) := by
  have := cells2_get ((List.range n).map (fun k => (xa k, xm k))) k (by simpa using h) 1 (by omega)
  simpa [lineCells, enc2] using this
end Go.Proofs.YtdljdffnnnoafaaGreat
namespace Go.Proofs.YtdljdffnnnoafaaGreat
open Go.RowKit Go.Annal
attribute [local go_sem ↓] Go.wp_at_zero Go.wp_at_succ

set_option maxRecDepth 100000 in
set_option maxHeartbeats 2000000 in
theorem PostR_ok (R n cap ne ce lg lo : Nat) (av : Value) (ade : Option Addr) (xs : List Value) (xa : Nat → ByteArray) (xm : Nat → Int) (day lk : Int) (t : ByteArray) (w : World) (h : dayB day = true)
    (CW : Calls Tryz.prog 60 #[.pointer (some ⟨R, 0, none⟩), .slice (some ⟨lg, lo, none⟩) n cap] w fun r w' => r = .returned (.int .i64 0) ∧ ∃ q, w' = w.drewN q)
    (hR : w.heap[R]? = some (.cells #[av, .slice ade ne ce, .int .i64 lk, .string t] 60 (0, 0))) (hown : w.ownsRow 0 89 3 (.slice ade ne ce) ne xs)
    (hL : LinesAt w lg lo n xa xm) (hn : 2 ≤ n) (hn6 : n ≤ 6) (hxa : ∀ k, k < n → (xa k).size ≤ 1000000000) (hxm : ∀ k, k < n → -1000000000 ≤ xm k ∧ xm k ≤ 1000000000) (ht : t.size ≤ 900000000000)
    (hlk : ¬ day ≤ lk) (hne : ne < 60) :
    Calls Tryz.prog 34 #[.pointer (some ⟨R, 0, none⟩), .int .i64 day, .slice (some ⟨lg, lo, none⟩) n cap] w fun r w' => r = .returned (.tuple #[.int .i64 ((ne + 1 : Nat) : Int), .int .i64 0]) ∧ ∃ g cap' gl cl t', t'.size ≤ t.size + 7000000000 ∧
      w'.heap[R]? = some (.cells #[av, .slice (some ⟨g, 0, none⟩) (ne + 1) cap', .int .i64 lk, .string t'] 60 (0, 0)) ∧
      w'.ownsRow 0 89 3 (.slice (some ⟨g, 0, none⟩) (ne + 1) cap') (ne + 1) (xs ++ [.int .i64 day, .slice (some ⟨gl, 0, none⟩) n cl, .bool false]) ∧
      w'.ownsRow w.heap.size 38 2 (.slice (some ⟨gl, 0, none⟩) n cl) n (lineCells xa xm n) ∧
      Turn (fun k => k = R ∨ (Value.slice ade ne ce).ownBlock = some k) w w' ∧ ((Value.slice ade ne ce).ownBlock = some g ∨ w.heap.size ≤ g) := by
  obtain ⟨i0, hi, hz0, hz1, hz2⟩ := info_parts Tryz.infoLine
  have C1 : Hid _ := isDayR_any day w
  rw [h] at C1
  have C2 : Hid _ := CW
  clear CW
  have hdb := dayB_yes h
  obtain ⟨hd0, hd1⟩ := hdb
  have CD := fun W => digits_any day W (by omega) (by omega)
  have HD : Hid _ := CD
  have hdl := digZ_len day
  clear CD
  have cE := blk_cell' hR (o := 1) rfl
  have cL := blk_cell' hR (o := 2) rfl
  have hne' : ¬ (60 : Int) ≤ (ne : Int) := by omega
  have hsrc : ∀ W, Below w.heap.size w W → SrcAt W 2 (.slice (some ⟨lg, lo, none⟩) n cap) n (lineCells xa xm n) := fun W hW => .inr ⟨_, _, rfl, lineCells_len _ _ _, fun j u hj => by
    have hjl : j < n * 2 := by have := (List.getElem?_eq_some_iff.1 hj).1; rwa [lineCells_len] at this
    refine cell_later hW ?_
    rw [addr_add]
    rcases Nat.mod_two_eq_zero_or_one j with hm | hm
    · obtain ⟨k, rfl⟩ : ∃ k, j = k * 2 := ⟨j / 2, by omega⟩
      rw [lineCells_a _ _ _ _ (by omega)] at hj
      cases hj
      exact hL.ca k (by omega)
    · obtain ⟨k, rfl⟩ : ∃ k, j = k * 2 + 1 := ⟨j / 2, by omega⟩
      rw [lineCells_m _ _ _ _ (by omega)] at hj
      cases hj
      rw [← Nat.add_assoc]
      exact hL.cm k (by omega)⟩
  have hBq : ∀ q, Below w.heap.size w (w.drewN q) := fun q => ⟨rfl, rfl, rfl, Nat.le_refl _, fun _ _ => rfl⟩
  have hone : ∀ u ∈ lineCells xa xm n, u.oneCell' = true := cells2_one _
  clear hL
  generalize digZ day = dl at HD hdl
  go_enter Tryz.func34, Tryz.ntmps34
  go_wp2_with (first
    | (go_at_call 36; refine Calls.mono C1.out ?_; rintro e wx ⟨rfl, hw⟩; rw [hw]; clear hw wx)
    | (go_at_call 60; refine Calls.mono C2.out ?_; rintro e wx ⟨rfl, q, hw⟩; rw [hw]; clear hw wx)
    | (at_builtin; refine wpList_append_src rfl (.tmp 39) (.tmp 40) 34 rfl w.heap.size 38 i0 _ 2 24 Tryz.underlying34 hi hz0 hz1 hz2 rfl (by decide) (.slice none 0 0) 0 [] rfl (World.ownsRow_nil _ _ _ _) _ n (lineCells xa xm n) rfl (hsrc _ (hBq _)) hone (by unfold maxLen; omega) (by omega) (Nat.le_refl _) ?_; intro v1 w1 hown1 hg1; have hB1 := (hBq q).grown hg1 (Nat.le_refl _) (fun k hk => by cases hk)))
  rw [Nat.zero_add, List.nil_append] at hown1
  rcases hown1.2 with ⟨_, h0⟩ | ⟨gl, cl, cur, rfl, hgl, hglh, _⟩
  · omega
  have hcl : ∀ j, j < n * 2 → w1.cell? ⟨gl, j, none⟩ = (lineCells xa xm n)[j]? := fun j hj => hown1.cellAt j hj
  refine Calls.mono (HD.out _) ?_
  rintro e w2 ⟨rfl, hg2⟩
  have hB2 := hB1.trans (hg2.below.mono hB1.size)
  have own2 := owns_mv hown1 hg2.below
  have hB12 := hg2.below
  clear C1 C2 HD hsrc hg1 hglh hg2
  go_wp2
  go_loopw [11, 12] (fun sv iv wr => ∃ (k : Nat) (sx : ByteArray), k ≤ n ∧ iv = .int .i64 k ∧ sv = .string sx ∧ sx.size ≤ 100 + k * 1000000100 ∧ Below w1.heap.size w1 wr) (fun _ iv _ => n - (intOf iv).toNat)
  case atStart => exact ⟨0, _, Nat.zero_le _, rfl, rfl, by simp only [ByteArray.size_append, sz_arr, List.size_toArray, List.length_cons, List.length_nil]; omega, hB12⟩
  case round =>
    obtain ⟨k, sx, hk, rfl, rfl, hsx, hB⟩ := hrel
    by_cases hlt : k < n
    · have hlt' : (k : Int) < (n : Int) := by omega
      have hk0 : (0 : Int) ≤ (k : Int) := by omega
      have ca := (cell_later hB ((hcl (k * 2) (by omega)).trans (lineCells_a xa xm n k hlt)))
      have cm := (cell_later hB ((hcl (k * 2 + 1) (by omega)).trans (lineCells_m xa xm n k hlt)))
      have hxs := hxa k hlt
      have hxb := hxm k hlt
      have CD0 := fun W => digits_any (xm k) W (by omega) (by omega)
      have HD : Hid _ := CD0
      have hdl2 := digZ_len (xm k)
      clear CD0 hcl
      generalize digZ (xm k) = d2 at HD hdl2
      generalize xa k = nm at *
      generalize xm k = am at *
      have p1 : ∀ W : World, (Op.stringOp .add sx ⟨#[32]⟩).run Tryz.prog W = .ok (.string (sx ++ ⟨#[32]⟩)) W := fun W => run_string_add_sum W _ _ (by simp only [sz_arr, List.size_toArray, List.length_cons, List.length_nil]; omega)
      have p2 : ∀ W : World, (Op.stringOp .add (sx ++ ⟨#[32]⟩) nm).run Tryz.prog W = .ok (.string (sx ++ ⟨#[32]⟩ ++ nm)) W := fun W => run_string_add_sum W _ _ (by simp only [ByteArray.size_append, sz_arr, List.size_toArray, List.length_cons, List.length_nil]; omega)
      have p3 : ∀ W : World, (Op.stringOp .add (sx ++ ⟨#[32]⟩ ++ nm) ⟨#[32]⟩).run Tryz.prog W = .ok (.string (sx ++ ⟨#[32]⟩ ++ nm ++ ⟨#[32]⟩)) W := fun W => run_string_add_sum W _ _ (by simp only [ByteArray.size_append, sz_arr, List.size_toArray, List.length_cons, List.length_nil]; omega)
      have p4 : ∀ W : World, (Op.stringOp .add (sx ++ ⟨#[32]⟩ ++ nm ++ ⟨#[32]⟩) ⟨d2.toArray⟩).run Tryz.prog W = .ok (.string (sx ++ ⟨#[32]⟩ ++ nm ++ ⟨#[32]⟩ ++ ⟨d2.toArray⟩)) W := fun W => run_string_add_sum W _ _ (by simp only [ByteArray.size_append, sz_arr, List.size_toArray, List.length_cons, List.length_nil]; omega)
      go_wp2
      go_region_held3 (fun w' => w'.cell? ⟨gl, k * 2, none⟩ = some (.string nm) ∧ w'.cell? ⟨gl, k * 2 + 1, none⟩ = some (.int .i64 am))
        (first | go_keep | (exact ⟨cell_later (below_drew hg3.below) ca, cell_later (below_drew hg3.below) cm⟩))
        (first | (go_at_call 32; refine Calls.mono (HD.out _) ?_; rintro e w3 ⟨rfl, hg3⟩))
      all_goals go_wp2
      all_goals
        refine ⟨⟨k + 1, _, by omega, by go_num, rfl, ?_, hB.trans ((below_drew hg3.below).mono hB.size)⟩, by simp [intOf]; omega⟩
        simp only [ByteArray.size_append, sz_arr, List.size_toArray, List.length_cons, List.length_nil]; omega
    · have hlt' : ¬ (k : Int) < (n : Int) := by omega
      have hke : k = n := by omega
      subst hke
      have hBw : Below w.heap.size w wr := hB1.trans (hB.mono hB1.size)
      have Rr := (hBw.block R (blk_lt hR)).trans hR
      have hRlt := blk_lt hR
      have hge : (Value.slice ade ne ce).ownBlock ≠ some R := fun h => by
        obtain ⟨c, fz, hc⟩ := owns_kind hown R h
        rw [hR] at hc; simp at hc
      have ownE := owns_mv hown hBw
      have ownL := owns_mv hown1 hB
      have hEl : ∀ g, (Value.slice ade ne ce).ownBlock = some g → g < w.heap.size := fun g h => (hown.lt g h).2
      clear hcl hown hown1 own2 hB2 hB12 hB cE cL
      go_wp2_with fail
      refine Calls.mono (note_any R _ _ _ t sx wr Rr (by omega)) ?_
      rintro e w4 ⟨rfl, rfl⟩
      have R4 := blk_set Rr 3 (.string (t ++ sx ++ ⟨#[10]⟩))
      have ownE4 := ownsRow_setCell_other ownE (a := ⟨R, 3, none⟩) hge (.string (t ++ sx ++ ⟨#[10]⟩))
      have ownL4 := ownsRow_setCell_other ownL (a := ⟨R, 3, none⟩) (fun h => by simp only [Value.ownBlock, Option.some.injEq] at h; omega) (.string (t ++ sx ++ ⟨#[10]⟩))
      have T4 : Turn (fun k => k = R ∨ (Value.slice ade ne ce).ownBlock = some k) w (wr.setCell ⟨R, 3, none⟩ (.string (t ++ sx ++ ⟨#[10]⟩))) := Turn.set (Turn.of_below hBw) ⟨R, 3, none⟩ _ (fun _ => Or.inl rfl)
      have hsz4 : w.heap.size ≤ (wr.setCell ⟨R, 3, none⟩ (.string (t ++ sx ++ ⟨#[10]⟩))).heap.size := T4.size
      have hsize : Hid ((t ++ sx ++ ⟨#[10]⟩ : ByteArray).size ≤ t.size + 7000000000) := by
        show _ ≤ _
        simp only [ByteArray.size_append, sz_arr, List.size_toArray, List.length_cons, List.length_nil]; omega
      clear Rr ownE ownL hBw
      generalize (t ++ sx ++ ⟨#[10]⟩ : ByteArray) = tx at *
      go_wp2_with fail
      refine Calls.mono (enterR_any R ne av (.slice ade ne ce) (.int .i64 lk) (.string tx) (.slice (some ⟨gl, 0, none⟩) k cl) xs day false _ R4 ownE4 (by omega) rfl) ?_
      rintro e w5 ⟨rfl, g, cap', hR5, own5, T5, hat⟩
      have T6 := T4.trans T5
      have ownL6 := owns_turn ownL4 T5 (fun g' h' => by
        simp only [Value.ownBlock, Option.some.injEq] at h'
        subst h'
        rintro (h | h)
        · omega
        · have := hEl _ h; omega)
      clear R4 ownE4 ownL4 T4 T5
      go_wp2
      refine bodyPost_ret (results_tmp2 rfl _ _ _) rfl ?_
      refine ⟨rfl, g, cap', gl, cl, tx, hsize.out, hR5, own5, ownL6, T6, ?_⟩
      rcases hat with h | h
      · exact .inl h
      · exact .inr (by omega)
end Go.Proofs.YtdljdffnnnoafaaGreat
