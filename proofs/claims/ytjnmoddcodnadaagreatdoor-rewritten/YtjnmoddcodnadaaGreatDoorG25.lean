import Derived.Test.YtjnmoddcodnadaaGreatDoorG24
import Derived.Test.YtjnmoddcodnadaaGreatDoorG01
import Derived.Test.YtjnmoddcodnadaaGreatDoorG04
import Derived.Test.YtjnmoddcodnadaaGreatDoorG22
set_option linter.unusedVariables false
set_option linter.unusedSimpArgs false
namespace Go.Annal
/-- What a closing enters: of each flow that has something its opposite. -/
def closeL (fn : Nat → ByteArray) (kd : Nat → Int) (bal : ByteArray → Int) : Nat → List Ln
  | 0 => []
  | i + 1 => closeL fn kd bal i ++ (if kd i = 1 ∧ bal (fn i) ≠ 0 then [(fn i, - bal (fn i))] else [])
def closeSum (fn : Nat → ByteArray) (kd : Nat → Int) (bal : ByteArray → Int) : Nat → Int
  | 0 => 0
  | i + 1 => closeSum fn kd bal i + (if kd i = 1 ∧ bal (fn i) ≠ 0 then bal (fn i) else 0)
def closeE1 (day there flow locked : Bool) : Int := if !day then 5 else if !there then 7 else if flow then 2 else if locked then 11 else 0
def closeE2 (none full : Bool) : Int := if none then 7 else if full then 4 else 0
end Go.Annal
namespace Go.Proofs.YtjnmoddcodnadaaGreatDoor
open Go.RowKit Go.Annal
set_option maxRecDepth 100000 in
set_option maxHeartbeats 1000000 in
theorem CloseR_err1 (R ga ca na ne ce : Nat) (ada ade : Option Addr) (fn : Nat → ByteArray) (kd : Nat → Int) (c3 : Value) (lk day : Int) (into : ByteArray) (w : World) (hR : w.heap[R]? = some (.cells #[.slice ada na ca, .slice ade ne ce, .int .i64 lk, c3] 103 (0, 0))) (hA : AccsAt w R ga ca na ada fn) (hK : ∀ i, i < na → w.cell? ⟨ga, i * 2 + 1, none⟩ = some (.int .i64 (kd i)))
    (he : closeE1 (dayB day) (decide (0 ≤ atI fn na into)) (decide (kd (atI fn na into).toNat = 1)) (decide (day ≤ lk)) ≠ 0) (hat : atI fn na into < na) :
    Calls Tryz.prog 44 #[.pointer (some ⟨R, 0, none⟩), .int .i64 day, .string into] w fun r w' => r = .returned (.tuple #[.int .i64 0, .int .i64 (closeE1 (dayB day) (decide (0 ≤ atI fn na into)) (decide (kd (atI fn na into).toNat = 1)) (decide (day ≤ lk)))]) ∧ w' = w := by
  have C1 : Hid _ := isDayR_any day w
  have C2 : Hid _ := hA.at into
  have cA := hA.cA
  have cL := blk_cell' hR (o := 2) rfl
  have hfew := hA.few
  cases h1 : dayB day
  · rw [h1] at C1
    clear h1 he hK
    generalize atI fn na into = t at *
    go_enter Tryz.func44, Tryz.ntmps44
    go_wp2_with (first | (go_at_call 82; refine Calls.mono C1.out ?_; rintro e wx ⟨rfl, hw⟩; rw [hw]; clear hw wx) | (go_at_call 77; refine Calls.mono C2.out ?_; rintro e wx ⟨rfl, hw⟩; rw [hw]; clear hw wx))
    go_ret2
    exact ⟨rfl, rfl⟩
  · rw [h1] at C1 he
    clear h1
    by_cases h2 : atI fn na into < 0
    · have e2 : decide (0 ≤ atI fn na into) = false := by simp; omega
      rw [e2]
      clear he e2 hK
      generalize atI fn na into = t at *
      go_enter Tryz.func44, Tryz.ntmps44
      go_wp2_with (first | (go_at_call 82; refine Calls.mono C1.out ?_; rintro e wx ⟨rfl, hw⟩; rw [hw]; clear hw wx) | (go_at_call 77; refine Calls.mono C2.out ?_; rintro e wx ⟨rfl, hw⟩; rw [hw]; clear hw wx))
      go_ret2
      exact ⟨rfl, rfl⟩
    · have e2 : decide (0 ≤ atI fn na into) = true := by simp; omega
      rw [e2] at he ⊢
      obtain ⟨j, hj⟩ : ∃ j : Nat, atI fn na into = j := ⟨(atI fn na into).toNat, by omega⟩
      rw [hj] at C2 hat he ⊢
      rw [Int.toNat_natCast] at he ⊢
      have hj' : j < na := by omega
      obtain rfl := hA.hA (by omega)
      have ck := hK j hj'
      have b1 : (0 : Int) ≤ (j : Int) := by omega
      have b2 : (j : Int) < (na : Int) := by omega
      have b3 : ¬ (j : Int) < 0 := by omega
      clear hA hK e2 h2 hj
      by_cases h3 : kd j = 1
      · rw [h3] at ck
        have e3 : decide (kd j = 1) = true := by simpa using h3
        rw [e3]
        clear he e3 h3
        go_enter Tryz.func44, Tryz.ntmps44
        go_wp2_with (first | (go_at_call 82; refine Calls.mono C1.out ?_; rintro e wx ⟨rfl, hw⟩; rw [hw]; clear hw wx) | (go_at_call 77; refine Calls.mono C2.out ?_; rintro e wx ⟨rfl, hw⟩; rw [hw]; clear hw wx))
        go_ret2
        exact ⟨rfl, rfl⟩
      · have e3 : decide (kd j = 1) = false := by simpa using h3
        rw [e3] at he ⊢
        cases h4 : decide (day ≤ lk)
        · rw [h4] at he; exact absurd rfl he
        · have h5 : day ≤ lk := by simpa using h4
          clear he e3 h4
          generalize kd j = kj at *
          go_enter Tryz.func44, Tryz.ntmps44
          go_wp2_with (first | (go_at_call 82; refine Calls.mono C1.out ?_; rintro e wx ⟨rfl, hw⟩; rw [hw]; clear hw wx) | (go_at_call 77; refine Calls.mono C2.out ?_; rintro e wx ⟨rfl, hw⟩; rw [hw]; clear hw wx))
          go_ret2
          exact ⟨rfl, rfl⟩
end Go.Proofs.YtjnmoddcodnadaaGreatDoor
namespace Go.Annal
/-- What the first n lines of an entry say of a name. -/
def am (xa : Nat → ByteArray) (xm : Nat → Int) (x : ByteArray) : Nat → Int
  | 0 => 0
  | k + 1 => am xa xm x k + if (xa k).toList == x.toList then xm k else 0
theorem lnS_am (dy : Nat → Int) (la : Nat → Nat → ByteArray) (lm : Nat → Nat → Int) (x : ByteArray) (day : Int) (i : Nat) : ∀ n, lnS dy la lm x day i n = if dy i ≤ day then am (la i) (lm i) x n else 0
  | 0 => by simp [lnS, am]
  | n + 1 => by
    simp only [lnS, lnT, am]
    rw [lnS_am dy la lm x day i n]
    by_cases h : dy i ≤ day <;> simp [h]
theorem enS_sF (dy : Nat → Int) (la : Nat → Nat → ByteArray) (lm : Nat → Nat → Int) (x : ByteArray) (day : Int) (ln : Nat → Nat) : ∀ n, enS dy la lm x day ln n = sF (upD dy (fun i => am (la i) (lm i) x (ln i)) day) n
  | 0 => rfl
  | n + 1 => by
    simp only [enS, sF]
    rw [enS_sF dy la lm x day ln n, lnS_am]
    rfl
theorem am_congr {xa ya : Nat → ByteArray} {xm ym : Nat → Int} {x : ByteArray} : ∀ n, (∀ k, k < n → xa k = ya k ∧ xm k = ym k) → am xa xm x n = am ya ym x n
  | 0, _ => rfl
  | n + 1, h => by
    simp only [am]
    rw [am_congr n (fun k hk => h k (by omega)), (h n (by omega)).1, (h n (by omega)).2]
theorem am_none {xa : Nat → ByteArray} {xm : Nat → Int} {x : ByteArray} : ∀ n, (∀ k, k < n → (xa k).toList ≠ x.toList) → am xa xm x n = 0
  | 0, _ => rfl
  | n + 1, h => by
    simp only [am]
    rw [am_none n (fun k hk => h k (by omega)), if_neg (by simpa using h n (by omega))]; rfl
theorem am_neg (xa : Nat → ByteArray) (xm : Nat → Int) (x : ByteArray) : ∀ n, am xa (fun k => - xm k) x n = - am xa xm x n
  | 0 => rfl
  | n + 1 => by
    simp only [am]
    rw [am_neg xa xm x n]
    split <;> omega
theorem am_bd {xa : Nat → ByteArray} {xm : Nat → Int} {x : ByteArray} {M : Int} (hM : 0 ≤ M) : ∀ n, (∀ a b, a < b → b < n → (xa a).toList ≠ (xa b).toList) → (∀ k, k < n → -M ≤ xm k ∧ xm k ≤ M) → ((am xa xm x n).natAbs : Int) ≤ M
  | 0, _, _ => by simpa [am] using hM
  | n + 1, h, hb => by
    have hn := hb n (by omega)
    have hi := am_bd (x := x) hM n (fun a b hab hb => h a b hab (by omega)) (fun k hk => hb k (by omega))
    simp only [am]
    by_cases e : (xa n).toList = x.toList
    · rw [am_none n (fun k hk => by rw [← e]; exact h k n hk (by omega)), if_pos (by simpa using e)]; omega
    · rw [if_neg (by simpa using e)]; omega
/-- A list of lines, by places. -/
def lnA (L : List Ln) (j : Nat) : ByteArray := (L.getD j (⟨#[]⟩, 0)).1
def lnM (L : List Ln) (j : Nat) : Int := (L.getD j (⟨#[]⟩, 0)).2
theorem lnA_left {A B : List Ln} {j : Nat} (h : j < A.length) : lnA (A ++ B) j = lnA A j := by unfold lnA; rw [List.getD_eq_getElem?_getD, List.getD_eq_getElem?_getD, List.getElem?_append_left h]
theorem lnM_left {A B : List Ln} {j : Nat} (h : j < A.length) : lnM (A ++ B) j = lnM A j := by unfold lnM; rw [List.getD_eq_getElem?_getD, List.getD_eq_getElem?_getD, List.getElem?_append_left h]
theorem lnA_last (A : List Ln) (y : Ln) : lnA (A ++ [y]) A.length = y.1 := by unfold lnA; simp
theorem lnM_last (A : List Ln) (y : Ln) : lnM (A ++ [y]) A.length = y.2 := by unfold lnM; simp
/-- What a list of lines says of a name. -/
def amL (L : List Ln) (x : ByteArray) : Int := am (lnA L) (lnM L) x L.length
theorem amL_nil (x : ByteArray) : amL [] x = 0 := rfl
theorem amL_snoc (A : List Ln) (y : Ln) (x : ByteArray) : amL (A ++ [y]) x = amL A x + if y.1.toList == x.toList then y.2 else 0 := by
  unfold amL
  rw [List.length_append]
  simp only [List.length_cons, List.length_nil, Nat.zero_add, am]
  rw [lnA_last, lnM_last, am_congr A.length (fun k hk => ⟨lnA_left hk, lnM_left hk⟩)]
theorem lineCells_ofL (L : List Ln) : Go.Proofs.YtjnmoddcodnadaaGreatDoor.lineCells (lnA L) (lnM L) L.length = cells2 L := by
  unfold Go.Proofs.YtjnmoddcodnadaaGreatDoor.lineCells
  congr 1
  refine List.ext_getElem (by simp) (fun i h1 h2 => ?_)
  simp [lnA, lnM, List.getD_eq_getElem?_getD, List.getElem?_eq_getElem h2]
/-- What a closing enters for a name. -/
theorem closeL_am (fn : Nat → ByteArray) (kd : Nat → Int) (bal : ByteArray → Int) (x : ByteArray) : ∀ n, (∀ a b, a < b → b < n → (fn a).toList ≠ (fn b).toList) → amL (closeL fn kd bal n) x = sF (fun i => if (fn i).toList = x.toList ∧ kd i = 1 then - bal (fn i) else 0) n
  | 0, _ => rfl
  | n + 1, h => by
    simp only [closeL, sF]
    have hi := closeL_am fn kd bal x n (fun a b hab hb => h a b hab (by omega))
    by_cases hk : kd n = 1 ∧ bal (fn n) ≠ 0
    · rw [if_pos hk, amL_snoc, hi]
      by_cases e : (fn n).toList = x.toList <;> simp [e, hk.1]
    · rw [if_neg hk, List.append_nil, hi]
      by_cases e : (fn n).toList = x.toList ∧ kd n = 1
      · have : bal (fn n) = 0 := Classical.byContradiction fun h' => hk ⟨e.2, h'⟩
        rw [if_pos e, this]; simp
      · rw [if_neg e]; simp
end Go.Annal
namespace Go.Annal
def lockE (day locked : Bool) : Int := if !day then 5 else if locked then 11 else 0
end Go.Annal
namespace Go.Proofs.YtjnmoddcodnadaaGreatDoor
open Go.RowKit Go.Annal
theorem sz_arr' (a : Array UInt8) : (⟨a⟩ : ByteArray).size = a.size := rfl
set_option maxRecDepth 100000 in
set_option maxHeartbeats 1000000 in
theorem LockR_err (R : Nat) (c0 c1 c3 : Value) (lk day : Int) (w : World) (hR : w.heap[R]? = some (.cells #[c0, c1, .int .i64 lk, c3] 103 (0, 0))) (he : lockE (dayB day) (decide (day ≤ lk)) ≠ 0) :
    Calls Tryz.prog 43 #[.pointer (some ⟨R, 0, none⟩), .int .i64 day] w fun r w' => r = .returned (.int .i64 (lockE (dayB day) (decide (day ≤ lk)))) ∧ w' = w := by
  have C1 : Hid _ := isDayR_any day w
  have cL := blk_cell' hR (o := 2) rfl
  cases h1 : dayB day
  · rw [h1] at C1
    clear h1 he
    go_enter Tryz.func43, Tryz.ntmps43
    go_wp2_with (go_at_call 82; refine Calls.mono C1.out ?_; rintro e wx ⟨rfl, hw⟩; rw [hw]; clear hw wx)
    go_ret
    exact ⟨rfl, rfl⟩
  · rw [h1] at C1 he
    cases h2 : decide (day ≤ lk)
    · rw [h2] at he; exact absurd rfl he
    · have h3 : day ≤ lk := by simpa using h2
      clear h1 he h2
      go_enter Tryz.func43, Tryz.ntmps43
      go_wp2_with (go_at_call 82; refine Calls.mono C1.out ?_; rintro e wx ⟨rfl, hw⟩; rw [hw]; clear hw wx)
      go_ret
      exact ⟨rfl, rfl⟩
set_option maxRecDepth 100000 in
set_option maxHeartbeats 1000000 in
theorem LockR_ok (R : Nat) (c0 c1 : Value) (lk day : Int) (t : ByteArray) (w : World) (hR : w.heap[R]? = some (.cells #[c0, c1, .int .i64 lk, .string t] 103 (0, 0))) (h1 : dayB day = true) (h2 : ¬ day ≤ lk) (ht : t.size ≤ 900000000000) :
    Calls Tryz.prog 43 #[.pointer (some ⟨R, 0, none⟩), .int .i64 day] w fun r w' => r = .returned (.int .i64 0) ∧ w'.heap[R]? = some (.cells #[c0, c1, .int .i64 day, .string (t ++ (⟨#[108, 32]⟩ ++ ⟨(digZ day).toArray⟩) ++ ⟨#[10]⟩)] 103 (0, 0)) ∧ Turn (fun k => k = R) w w' := by
  have C1 : Hid _ := isDayR_any day w
  rw [h1] at C1
  have hdb := dayB_yes h1
  obtain ⟨hd0, hd1⟩ := hdb
  have CD := fun W => digits_any day W (by omega) (by omega)
  have HD : Hid _ := CD
  have hdl := digZ_len day
  have cL := blk_cell' hR (o := 2) rfl
  have fL := blk_free hR 2
  have hRlt := blk_lt hR
  have R1 := blk_set hR 2 (.int .i64 day)
  have T1 : Turn (fun k => k = R) w (w.setCell ⟨R, 2, none⟩ (.int .i64 day)) := (Turn.refl _ w).set _ _ (fun _ => rfl)
  clear CD
  generalize digZ day = dl at HD hdl
  go_enter Tryz.func43, Tryz.ntmps43
  go_wp2_with (first
    | (go_at_call 82; refine Calls.mono C1.out ?_; rintro e wx ⟨rfl, hw⟩; rw [hw]; clear hw wx))
  refine Calls.mono (HD.out _) ?_
  rintro e w3 ⟨rfl, hg3⟩
  have R3 := hg3.blk R1
  have T3 := T1.below hg3.below
  clear hg3 R1 T1 cL fL
  go_wp2_with fail
  refine Calls.mono (note_any R _ _ _ t _ w3 R3 (by simp only [ByteArray.size_append, sz_arr', List.size_toArray, List.length_cons, List.length_nil]; omega)) ?_
  rintro e w4 ⟨rfl, rfl⟩
  have R4 := blk_set R3 3
  have T4 := fun v => Turn.set T3 ⟨R, 3, none⟩ v (fun _ => rfl)
  clear R3 T3
  go_wp2
  go_ret
  exact ⟨rfl, R4 _, T4 _⟩
end Go.Proofs.YtjnmoddcodnadaaGreatDoor
