import Derived.Test.YtjnmoddcodnadaaGreatDoorG09
set_option linter.unusedVariables false
set_option linter.unusedSimpArgs false
namespace Go.Proofs.YtjnmoddcodnadaaGreatDoor
open Go.RowKit Go.Annal
theorem annalNew_any (w : World) :
    Calls Tryz.prog 25 #[] w fun r w' => r = .returned (.pointer (some ⟨w.heap.size, 0, none⟩)) ∧ w' = w.alloc (.cells #[.slice none 0 0, .slice none 0 0, .slice none 0 0, .int .i64 0] 68) := by
  go_enter Tryz.func25, Tryz.ntmps25
  go_wp2
  go_ret
  exact ⟨rfl, rfl⟩
theorem sumN_wide (xm : Nat → Int) : ∀ k, (∀ j, j < k → -1000000000000 ≤ xm j ∧ xm j ≤ 1000000000000) → -(1000000000000 * (k : Int)) ≤ sumN xm k ∧ sumN xm k ≤ 1000000000000 * (k : Int)
  | 0, _ => by simp [sumN]
  | k + 1, h => by
    have := sumN_wide xm k (fun j hj => h j (by omega))
    have h2 := h k (by omega)
    simp only [sumN]; omega
theorem isLocked_any (B : Nat) (ul day : Int) (w : World) (hU : w.cell? ⟨B, 3, none⟩ = some (.int .i64 ul)) :
    Calls Tryz.prog 65 #[.pointer (some ⟨B, 0, none⟩), .int .i64 day] w fun r w' => r = .returned (.bool (decide (day < ul))) ∧ w' = w := by
  go_enter Tryz.func65, Tryz.ntmps65
  go_wp2
  go_ret
  exact ⟨rfl, rfl⟩
theorem isFull_any (B ne ce : Nat) (ade : Option Addr) (w : World) (hE : w.cell? ⟨B, 2, none⟩ = some (.slice ade ne ce)) :
    Calls Tryz.prog 106 #[.pointer (some ⟨B, 0, none⟩)] w fun r w' => r = .returned (.bool (decide (60 ≤ ne))) ∧ w' = w := by
  have e : decide ((60 : Int) ≤ (ne : Int)) = decide (60 ≤ ne) := by rw [Bool.eq_iff_iff, decide_eq_true_iff, decide_eq_true_iff]; omega
  go_enter Tryz.func106, Tryz.ntmps106
  go_wp2
  go_ret
  exact ⟨ret_bool rfl, rfl⟩
set_option maxHeartbeats 400000 in
theorem wrongAmt_any (a : ByteArray) (m : Int) (w : World) :
    Calls Tryz.prog 104 #[.agg #[.string a, .int .i64 m]] w fun r w' => r = .returned (.bool (badAmt m)) ∧ w' = w.alloc (.cells #[.string a, .int .i64 m] 58) := by
  by_cases h0 : m = 0
  · subst h0
    go_enter Tryz.func104, Tryz.ntmps104
    go_wp2
    go_ret
    exact ⟨rfl, rfl⟩
  · by_cases h1 : m < -1000000000
    · have e : badAmt m = true := by simp [badAmt, h1]
      rw [e]
      go_enter Tryz.func104, Tryz.ntmps104
      go_wp2
      go_ret
      exact ⟨rfl, rfl⟩
    · have e : badAmt m = decide (1000000000 < m) := by simp [badAmt, h0, h1]
      rw [e]
      go_enter Tryz.func104, Tryz.ntmps104
      go_wp2
      go_ret
      exact ⟨ret_bool (by simp [h0]), rfl⟩
set_option maxHeartbeats 400000 in
theorem sum_any (lg lo n cap : Nat) (xa : Nat → ByteArray) (xm : Nat → Int) (w : World) (hL : LinesAt w lg lo n xa xm) (hn : n ≤ 100) (hb : ∀ j, j < n → -1000000000000 ≤ xm j ∧ xm j ≤ 1000000000000) :
    Calls Tryz.prog 105 #[.slice (some ⟨lg, lo, none⟩) n cap] w fun r w' => r = .returned (.int .i64 (sumN xm n)) ∧ Grew w w' := by
  have HB : Hid _ := fun k (hk : k ≤ n) => sumN_wide xm k (fun j hj => hb j (by omega))
  clear hb
  go_enter Tryz.func105, Tryz.ntmps105
  go_wp2
  go_loopw [3, 5, 8] (fun sv _ iv wr => ∃ k : Nat, k ≤ n ∧ iv = .int .i64 k ∧ sv = .int .i64 (sumN xm k) ∧ Grew w wr) (fun _ _ iv _ => n - (intOf iv).toNat)
  case atStart => exact ⟨0, Nat.zero_le _, rfl, rfl, Grew.refl _⟩
  case round =>
    obtain ⟨k, hk, rfl, rfl, hg⟩ := hrel
    have hbd := HB.out k hk
    by_cases hlt : k < n
    · have hlt' : (k : Int) < (n : Int) := by omega
      have hk0 : (0 : Int) ≤ (k : Int) := by omega
      have ca := hg.cell' (hL.ca k hlt)
      have cm := hg.cell' (hL.cm k hlt)
      have hbd2 := HB.out (k + 1) hlt
      have hs : sumN xm (k + 1) = sumN xm k + xm k := rfl
      rw [hs] at hbd2
      have hbd3 : -9223372036854775808 ≤ sumN xm k + xm k ∧ sumN xm k + xm k ≤ 9223372036854775807 := by omega
      go_wp2
      go_roundw
      case rel => exact ⟨k + 1, by omega, by go_num, by rw [hs], hg.alloc _⟩
      case measure => simp [intOf]; omega
    · have hlt' : ¬ (k : Int) < (n : Int) := by omega
      obtain rfl : k = n := by omega
      go_wp2
      go_ret
      exact ⟨rfl, hg⟩
set_option maxHeartbeats 400000 in
theorem refuseView_any {ade : Option Addr} {ce : Nat} (R dg k cap ne : Nat) (known : Int) (dy : Nat → Int) (w : World) (hR : w.cell? ⟨R, 2, none⟩ = some (.slice ade ne ce)) (hd : ∀ j, j < k → w.cell? ⟨dg, j, none⟩ = some (.int .i64 (dy j))) (hk : k ≤ 2) :
    Calls Tryz.prog 69 #[.pointer (some ⟨R, 0, none⟩), .int .i64 known, .slice (some ⟨dg, 0, none⟩) k cap] w fun r w' => r = .returned (.int .i64 (viewE (!anyN k (fun j => !dayB (dy j))) (knownB known ne))) ∧ w' = w := by
  have e5 : Hid (anyN k (fun j => !dayB (dy j)) = true → viewE (!anyN k (fun j => !dayB (dy j))) (knownB known ne) = 5) := fun h => by unfold viewE; rw [h]; rfl
  have e1 : Hid (anyN k (fun j => !dayB (dy j)) = false → knownB known ne = false → viewE (!anyN k (fun j => !dayB (dy j))) (knownB known ne) = 13) := fun h h' => by unfold viewE; rw [h, h']; rfl
  have e0 : Hid (anyN k (fun j => !dayB (dy j)) = false → knownB known ne = true → viewE (!anyN k (fun j => !dayB (dy j))) (knownB known ne) = 0) := fun h h' => by unfold viewE; rw [h, h']; rfl
  generalize viewE (!anyN k (fun j => !dayB (dy j))) (knownB known ne) = E at *
  go_enter Tryz.func69, Tryz.ntmps69
  go_wp2
  go_loop [8, 11] (fun _ iv => ∃ i : Nat, i ≤ k ∧ iv = .int .i64 i ∧ ∀ j, j < i → dayB (dy j) = true) (fun _ iv => k - (intOf iv).toNat)
  case atStart => exact ⟨0, Nat.zero_le _, rfl, fun _ h => by omega⟩
  case round =>
    obtain ⟨i, hi, rfl, hb⟩ := hrel
    have HB : Hid (type_of% hb) := hb
    clear hb
    by_cases hlt : i < k
    · have hlt' : (i : Int) < (k : Int) := by omega
      have hi0 : (0 : Int) ≤ (i : Int) := by omega
      have ci := hd i hlt
      cases ht : dayB (dy i)
      · have fin : Hid (E = 5) := e5.out (anyN_true hlt (by rw [ht]; rfl))
        clear e5 e1 e0 hd
        go_wp2_with (go_at_call 64; refine Calls.mono (isDay_any _ _) ?_; rintro e wx ⟨rfl, hw⟩; rw [hw]; clear hw wx)
        go_ret
        exact ⟨ret_int fin.out.symm, rfl⟩
      · have HN : Hid (∀ j, j < i + 1 → dayB (dy j) = true) := fun j hj => by
          by_cases h : j = i
          · subst h; exact ht
          · exact HB.out j (by omega)
        clear e5 e1 e0 hd
        go_wp2_with (go_at_call 64; refine Calls.mono (isDay_any _ _) ?_; rintro e wx ⟨rfl, hw⟩; rw [hw]; clear hw wx)
        go_round
        case rel => exact ⟨i + 1, by omega, by go_num, HN.out⟩
        case measure => simp [intOf]; omega
    · have hlt' : ¬ (i : Int) < (k : Int) := by omega
      have F : Hid (anyN k (fun j => !dayB (dy j)) = false) := anyN_false (fun j hj => by rw [HB.out j (by omega)]; rfl)
      clear HB e5
      by_cases h0 : known < 0
      · have fin : Hid (E = 13) := e1.out F.out (by simp [knownB]; omega)
        clear e1 e0 hd
        go_wp2
        go_ret
        exact ⟨ret_int fin.out.symm, rfl⟩
      · by_cases h1 : (ne : Int) < known
        · have fin : Hid (E = 13) := e1.out F.out (by simp [knownB]; omega)
          clear e1 e0 hd
          go_wp2
          go_ret
          exact ⟨ret_int fin.out.symm, rfl⟩
        · have fin : Hid (E = 0) := e0.out F.out (by simp [knownB]; omega)
          clear e1 e0 hd
          go_wp2
          go_ret
          exact ⟨ret_int fin.out.symm, rfl⟩
end Go.Proofs.YtjnmoddcodnadaaGreatDoor
namespace Go.Annal
/-- Texts in order of their bytes. -/
def cmpS (x y : ByteArray) : Int := if Op.bytesLess x.toList y.toList then -1 else if x.toList == y.toList then 0 else 1
end Go.Annal
namespace Go.Proofs.YtjnmoddcodnadaaGreatDoor
open Go.RowKit Go.Annal Go.Sort Go.Shelf
set_option maxHeartbeats 400000 in
theorem cmpStr_any (x y : ByteArray) (w : World) :
    Calls Tryz.prog 118 #[.string x, .string y] w fun r w' => r = .returned (.int .i64 (cmpS x y)) ∧ w' = w := by
  cases h : Op.bytesLess x.toList y.toList
  · cases h' : x.toList == y.toList
    · have e : cmpS x y = 1 := by unfold cmpS; rw [h, h']; rfl
      go_enter Tryz.func118, Tryz.ntmps118
      go_wp2
      go_ret
      exact ⟨ret_int e.symm, rfl⟩
    · have e : cmpS x y = 0 := by unfold cmpS; rw [h, h']; rfl
      go_enter Tryz.func118, Tryz.ntmps118
      go_wp2
      go_ret
      exact ⟨ret_int e.symm, rfl⟩
  · have e : cmpS x y = -1 := by unfold cmpS; rw [h]; rfl
    go_enter Tryz.func118, Tryz.ntmps118
    go_wp2
    go_ret
    exact ⟨ret_int e.symm, rfl⟩
set_option maxHeartbeats 400000 in
theorem placeCmp_any (p : Addr) (x y : ByteArray) (w : World) (hp : w.cell? p = some (.string x)) :
    Calls Tryz.prog 117 #[.pointer (some p), .string y] w fun r w' => r = .returned (.int .i64 (cmpS x y)) ∧ w' = w := by
  go_enter Tryz.func117, Tryz.ntmps117
  go_wp2_with (go_at_call 118; refine Calls.mono (cmpStr_any _ _ _) ?_; rintro e wx ⟨rfl, hw⟩; rw [hw]; clear hw wx)
  go_ret
  exact ⟨rfl, rfl⟩

/-- How many of the first na names come ahead of a text; is it there? -/
def lessN (nm : Nat → ByteArray) (na : Nat) (x : ByteArray) : Nat := (List.range na).countP (fun i => Op.bytesLess (nm i).toList x.toList)
def isAt (nm : Nat → ByteArray) (na : Nat) (x : ByteArray) : Bool := decide (lessN nm na x < na) && decide (cmpS (nm (lessN nm na x)) x = 0)

/-- A book's accounts, as they are read: a row of pointers; what they point to begins with a name. -/
structure BookAt (w : World) (B ga ca na : Nat) (ada : Option Addr) (pa : Nat → Nat) (nm : Nat → ByteArray) : Prop where
  cB : w.cell? ⟨B, 0, none⟩ = some (.slice ada na ca)
  ha : 0 < na → ada = some ⟨ga, 0, none⟩
  cp : ∀ i, i < na → w.cell? ⟨ga, i, none⟩ = some (.pointer (some ⟨pa i, 0, none⟩))
  fp : ∀ i, i < na → w.frozen? ⟨ga, i, none⟩ = false
  cn : ∀ i, i < na → w.cell? ⟨pa i, 0, none⟩ = some (.string (nm i))
  ne : ∀ i, i < na → pa i ≠ ga
  up : ∀ x a b, a ≤ b → b < na → Op.bytesLess (nm b).toList x = true → Op.bytesLess (nm a).toList x = true
theorem BookAt.mv {w w' : World} {B ga ca na : Nat} {ada : Option Addr} {pa : Nat → Nat} {nm : Nat → ByteArray} (h : BookAt w B ga ca na ada pa nm) (hb : Below w.heap.size w w') : BookAt w' B ga ca na ada pa nm :=
  ⟨cell_later hb h.cB, h.ha, fun i hi => cell_later hb (h.cp i hi), fun i hi => by rw [hb.frozen (World.block_lt_of_cell? _ _ (h.cp i hi))]; exact h.fp i hi, fun i hi => cell_later hb (h.cn i hi), h.ne, h.up⟩

theorem cmpS_neg (x y : ByteArray) : cmpS x y < 0 ↔ Op.bytesLess x.toList y.toList = true := by
  unfold cmpS
  cases Op.bytesLess x.toList y.toList
  · simp; split <;> omega
  · simp
theorem sw_cell {α : Type} [Inhabited α] (enc : α → Value) (W : World) (blk off n : Nat) (dk : Array α) (os : Array Obj) (a : Addr) (h1 : a.block ≠ blk) (h2 : a.block < W.heap.size) : (sortWorld enc W blk off n dk os).cell? a = W.cell? a := by
  have h3 : a.block < (putRow enc (Sort.ahead W n) blk off dk).heap.size := by rw [size_putRow]; exact h2
  exact (cell?_grow _ _ _ h3).trans (cell?_putRow_other enc _ blk off dk a (Or.inl h1))
theorem grew_sw {α : Type} [Inhabited α] {enc : α → Value} {w W : World} {blk off : Nat} {d : Array α} (h : SW enc w blk off d W) (hH : Holds enc w blk off d) : Grew w W := by
  obtain ⟨n, os, rfl⟩ := h
  unfold sortWorld
  rw [putRow_self enc _ blk off d (holds_ahead enc w n blk off d hH)]
  exact ⟨n, os, rfl⟩

theorem finRange_val (na : Nat) : (List.finRange na).map (fun i : Fin na => i.1) = List.range na := List.ext_getElem (by simp) (fun i h1 h2 => by simp)
theorem finRange_get (na : Nat) [Inhabited (Fin na)] (j : Nat) (hj : j < na) : (List.finRange na).toArray[j]! = ⟨j, hj⟩ := by
  rw [getElem!_pos _ j (by simpa using hj)]
  simp

set_option maxHeartbeats 400000 in
theorem search_place (B ga ca na : Nat) (ada : Option Addr) (pa : Nat → Nat) (nm : Nat → ByteArray) (x : ByteArray) (w : World) (h : BookAt w B ga ca na ada pa nm) (hn : na ≤ 1000) :
    Calls Tryz.prog 116 #[.slice ada na ca, .string x, .func (.func 117) #[] #[]] w fun r w' => r = .returned (.tuple #[.int .i64 (lessN nm na x), .bool (isAt nm na x)]) ∧ Grew w w' := by
  rcases Nat.eq_zero_or_pos na with rfl | hpos
  · refine (Any.slices_BinarySearchFunc_none Tryz.placeL ada ca (.string x) _ w).mono ?_
    rintro e w' ⟨rfl, rfl⟩
    exact ⟨rfl, Grew.refl _⟩
  · letI : Inhabited (Fin na) := ⟨⟨0, hpos⟩⟩
    obtain rfl := h.ha hpos
    have hH : Holds (fun i : Fin na => Value.pointer (some ⟨pa i.1, 0, none⟩)) w ga 0 (List.finRange na).toArray := fun j hj => by
      have hj' : j < na := by simpa using hj
      rw [finRange_get na j hj', Nat.zero_add]
      exact ⟨h.cp j hj', h.fp j hj'⟩
    have hb : ga < w.heap.size := World.block_lt_of_cell? _ _ (h.cp 0 hpos)
    have hc : CmpLaysT Tryz.prog 117 #[] (fun i : Fin na => Value.pointer (some ⟨pa i.1, 0, none⟩)) (.string x) (fun i => cmpS (nm i.1) x) ga 0 (List.finRange na).toArray.size w := fun m os dk _ i => by
      refine (placeCmp_any ⟨pa i.1, 0, none⟩ (nm i.1) x _ ?_).mono ?_
      · rw [sw_cell _ _ _ _ _ _ _ _ (h.ne i.1 i.2) (World.block_lt_of_cell? _ _ (h.cn i.1 i.2))]
        exact h.cn i.1 i.2
      · rintro e w' ⟨rfl, rfl⟩
        exact ⟨rfl, 0, #[], by simp [grow_empty]; rfl⟩
    have hcnt : ((List.finRange na).toArray.toList.countP (fun i : Fin na => decide (cmpS (nm i.1) x < 0))) = lessN nm na x := by
      unfold lessN
      rw [List.toList_toArray, ← finRange_val na, List.countP_map]
      congr 1
      funext i
      simp [Function.comp, cmpS_neg]
    have := Any.slices_BinarySearchFunc Tryz.placeL (fun i : Fin na => Value.pointer (some ⟨pa i.1, 0, none⟩)) (fun _ => rfl) (.string x) (fun i => cmpS (nm i.1) x) 117 #[] ga 0 ca (List.finRange na).toArray w (enters_of Tryz.func117 (by kernel_rfl) rfl) hc hH hb (by simp; omega) (fun a b hab hbs => by
      have hb' : b < na := by simpa using hbs
      rw [finRange_get na b hb', finRange_get na a (by omega), cmpS_neg, cmpS_neg]
      exact h.up x.toList a b hab hb')
    rw [hcnt] at this
    rw [show (List.finRange na).toArray.size = na by simp] at this
    refine Calls.mono this ?_
    rintro e w' ⟨rfl, hw⟩
    refine ⟨?_, grew_sw hw hH⟩
    have e1 : (decide (lessN nm na x < na) && decide (cmpS (nm ((List.finRange na).toArray[lessN nm na x]! : Fin na).1) x = 0)) = isAt nm na x := by
      unfold isAt
      by_cases hl : lessN nm na x < na
      · rw [finRange_get na _ hl]
      · simp [hl]
    rw [e1]

set_option maxHeartbeats 400000 in
theorem place_any (B ga ca na : Nat) (ada : Option Addr) (pa : Nat → Nat) (nm : Nat → ByteArray) (x : ByteArray) (w : World) (h : BookAt w B ga ca na ada pa nm) (hn : na ≤ 1000) :
    Calls Tryz.prog 72 #[.pointer (some ⟨B, 0, none⟩), .string x] w fun r w' => r = .returned (.tuple #[.int .i64 (lessN nm na x), .bool (isAt nm na x)]) ∧ Grew w w' := by
  have cB := h.cB
  have C : Hid (type_of% (search_place B ga ca na ada pa nm x w h hn)) := search_place B ga ca na ada pa nm x w h hn
  clear h
  go_enter Tryz.func72, Tryz.ntmps72
  go_wp2_with (go_at_call 116; refine Calls.mono C.out ?_; rintro e wx ⟨rfl, hw⟩)
  go_ret2
  exact ⟨rfl, hw⟩
/-- Where an account of a name lies, if there is one. -/
def findV (pa : Nat → Nat) (nm : Nat → ByteArray) (na : Nat) (x : ByteArray) : Value := if isAt nm na x then .pointer (some ⟨pa (lessN nm na x), 0, none⟩) else .pointer none
set_option maxHeartbeats 400000 in
theorem find_any (B ga ca na : Nat) (ada : Option Addr) (pa : Nat → Nat) (nm : Nat → ByteArray) (x : ByteArray) (w : World) (h : BookAt w B ga ca na ada pa nm) (hn : na ≤ 1000) :
    Calls Tryz.prog 66 #[.pointer (some ⟨B, 0, none⟩), .string x] w fun r w' => r = .returned (findV pa nm na x) ∧ Grew w w' := by
  have C : Hid (type_of% (place_any B ga ca na ada pa nm x w h hn)) := place_any B ga ca na ada pa nm x w h hn
  cases hi : isAt nm na x
  · have e0 : findV pa nm na x = .pointer none := by unfold findV; rw [hi]; rfl
    rw [e0]
    rw [hi] at C
    clear h
    go_enter Tryz.func66, Tryz.ntmps66
    go_wp2_with (go_at_call 72; refine Calls.mono C.out ?_; rintro e wx ⟨rfl, hw⟩)
    go_ret
    exact ⟨rfl, hw⟩
  · have e0 : findV pa nm na x = .pointer (some ⟨pa (lessN nm na x), 0, none⟩) := by unfold findV; rw [hi]; rfl
    rw [e0]
    rw [hi] at C
    have hl : lessN nm na x < na := by
      unfold isAt at hi
      simp at hi
      exact hi.1
    obtain rfl := h.ha (by omega)
    have cB := h.cB
    have cp := h.cp _ hl
    clear h hi e0
    generalize lessN nm na x = k at *
    have hl' : (k : Int) < (na : Int) := by omega
    have hk0 : (0 : Int) ≤ (k : Int) := by omega
    go_enter Tryz.func66, Tryz.ntmps66
    go_wp2_with (go_at_call 72; refine Calls.mono C.out ?_; rintro e wx ⟨rfl, hw⟩; have cB' := hw.cell' cB; have cp' := hw.cell' cp)
    go_ret
    exact ⟨rfl, hw⟩
end Go.Proofs.YtjnmoddcodnadaaGreatDoor
namespace Go.Proofs.YtjnmoddcodnadaaGreatDoor
open Go.RowKit Go.Annal
theorem anyN_one (p : Nat → Bool) : anyN 1 p = p 0 := by simp [anyN]
theorem anyN_two (p : Nat → Bool) : anyN 2 p = (p 0 || p 1) := by simp [anyN, List.range_succ]
theorem refuseOne_any {ade : Option Addr} {ce : Nat} (R dg ne : Nat) (known day : Int) (w : World) (hR : w.cell? ⟨R, 2, none⟩ = some (.slice ade ne ce)) (hd : w.cell? ⟨dg, 0, none⟩ = some (.int .i64 day)) :
    Calls Tryz.prog 69 #[.pointer (some ⟨R, 0, none⟩), .int .i64 known, .slice (some ⟨dg, 0, none⟩) 1 1] w fun r w' => r = .returned (.int .i64 (viewE (dayB day) (knownB known ne))) ∧ w' = w := by
  have := refuseView_any R dg 1 1 ne known (fun _ => day) w hR (fun j hj => by
    obtain rfl : j = 0 := by omega
    exact hd) (by omega)
  rwa [anyN_one, Bool.not_not] at this
theorem refuseTwo_any {ade : Option Addr} {ce : Nat} (R dg ne : Nat) (known d1 d2 : Int) (w : World) (hR : w.cell? ⟨R, 2, none⟩ = some (.slice ade ne ce)) (hd : w.cell? ⟨dg, 0, none⟩ = some (.int .i64 d1)) (hd' : w.cell? ⟨dg, 1, none⟩ = some (.int .i64 d2)) :
    Calls Tryz.prog 69 #[.pointer (some ⟨R, 0, none⟩), .int .i64 known, .slice (some ⟨dg, 0, none⟩) 2 2] w fun r w' => r = .returned (.int .i64 (viewE (dayB d1 && dayB d2) (knownB known ne))) ∧ w' = w := by
  have := refuseView_any R dg 2 2 ne known (fun j => if j = 0 then d1 else d2) w hR (fun j hj => by
    rcases (show j = 0 ∨ j = 1 by omega) with rfl | rfl
    · exact hd
    · exact hd') (by omega)
  rw [anyN_two] at this
  simpa using this

set_option maxRecDepth 100000 in
set_option maxHeartbeats 1000000 in
theorem Balance_any {ade : Option Addr} {ce : Nat} (B ga ca na ne : Nat) (ada : Option Addr) (pa : Nat → Nat) (nm : Nat → ByteArray) (x : ByteArray) (day known V : Int) (w : World) (h : BookAt w B ga ca na ada pa nm) (hn : na ≤ 1000) (hE : w.cell? ⟨B, 2, none⟩ = some (.slice ade ne ce))
    (hP : isAt nm na x = true → dayB day = true → knownB known ne = true → ∀ W, Below w.heap.size w W → Calls Tryz.prog 70 #[.pointer (some ⟨pa (lessN nm na x), 2, none⟩), .int .i64 day, .int .i64 known] W fun r w' => r = .returned (.int .i64 V) ∧ Below W.heap.size W w') :
    Calls Tryz.prog 34 #[.pointer (some ⟨B, 0, none⟩), .string x, .int .i64 day, .int .i64 known] w fun r w' =>
      r = .returned (.tuple #[.int .i64 (okOr (askErr (isAt nm na x) (dayB day) (knownB known ne)) V), .int .i64 (askErr (isAt nm na x) (dayB day) (knownB known ne))]) ∧ Below w.heap.size w w' := by
  have C1 : Hid (type_of% (find_any B ga ca na ada pa nm x w h hn)) := find_any B ga ca na ada pa nm x w h hn
  clear h
  cases hi : isAt nm na x
  · have e0 : findV pa nm na x = .pointer none := by unfold findV; rw [hi]; rfl
    rw [e0] at C1
    clear hP e0
    go_enter Tryz.func34, Tryz.ntmps34
    go_wp2_with (go_at_call 66; refine Calls.mono C1.out ?_; rintro e wx ⟨rfl, hw⟩)
    go_ret2
    exact ⟨ret_ie rfl rfl, hw.below⟩
  · have e0 : findV pa nm na x = .pointer (some ⟨pa (lessN nm na x), 0, none⟩) := by unfold findV; rw [hi]; rfl
    rw [e0] at C1
    cases h2 : dayB day
    · clear hP
      generalize pa (lessN nm na x) = A at *
      cases h3 : knownB known ne
      all_goals
        go_enter Tryz.func34, Tryz.ntmps34
        go_wp2_with (first | (go_at_call 66; refine Calls.mono C1.out ?_; rintro e wx ⟨rfl, hw⟩; have hE' := hw.cell' hE) | (go_at_call 69; refine Calls.mono (refuseOne_any B wx.heap.size ne known day _ (((Grew.refl _).alloc _).cell' hE') (blk_cell' (heap_alloc_new wx _) rfl)) ?_; rintro e wy ⟨rfl, hwy⟩; rw [hwy]; clear hwy wy; simp only [h2, h3]))
        go_ret2
        exact ⟨ret_ie rfl rfl, (hw.alloc _).below⟩
    · cases h3 : knownB known ne
      · clear hP
        generalize pa (lessN nm na x) = A at *
        go_enter Tryz.func34, Tryz.ntmps34
        go_wp2_with (first | (go_at_call 66; refine Calls.mono C1.out ?_; rintro e wx ⟨rfl, hw⟩; have hE' := hw.cell' hE) | (go_at_call 69; refine Calls.mono (refuseOne_any B wx.heap.size ne known day _ (((Grew.refl _).alloc _).cell' hE') (blk_cell' (heap_alloc_new wx _) rfl)) ?_; rintro e wy ⟨rfl, hwy⟩; rw [hwy]; clear hwy wy; simp only [h2, h3]))
        go_ret2
        exact ⟨ret_ie rfl rfl, (hw.alloc _).below⟩
      · have C3 : Hid (type_of% (hP hi h2 h3)) := hP hi h2 h3
        clear hP
        generalize pa (lessN nm na x) = A at *
        go_enter Tryz.func34, Tryz.ntmps34
        go_wp2_with (first | (go_at_call 66; refine Calls.mono C1.out ?_; rintro e wx ⟨rfl, hw⟩; have hE' := hw.cell' hE) | (go_at_call 69; refine Calls.mono (refuseOne_any B wx.heap.size ne known day _ (((Grew.refl _).alloc _).cell' hE') (blk_cell' (heap_alloc_new wx _) rfl)) ?_; rintro e wy ⟨rfl, hwy⟩; rw [hwy]; clear hwy wy; simp only [h2, h3]) | (go_at_call 70; refine Calls.mono (C3.out _ (hw.alloc _).below) ?_; rintro e wz ⟨rfl, hz⟩))
        go_ret2
        exact ⟨ret_ie rfl rfl, (hw.alloc _).below.trans (hz.mono (hw.alloc _).size)⟩
end Go.Proofs.YtjnmoddcodnadaaGreatDoor
namespace Go.Proofs.YtjnmoddcodnadaaGreatDoor
open Go.RowKit Go.Annal
set_option maxRecDepth 100000 in
set_option maxHeartbeats 1000000 in
theorem Items_err {ade : Option Addr} {ce : Nat} (B ga ca na ne : Nat) (ada : Option Addr) (pa : Nat → Nat) (nm : Nat → ByteArray) (x : ByteArray) (d1 d2 known : Int) (w : World) (h : BookAt w B ga ca na ada pa nm) (hn : na ≤ 1000) (hE : w.cell? ⟨B, 2, none⟩ = some (.slice ade ne ce))
    (hbad : askErr (isAt nm na x) (dayB d1 && dayB d2) (knownB known ne) ≠ 0) :
    Calls Tryz.prog 89 #[.pointer (some ⟨B, 0, none⟩), .string x, .int .i64 d1, .int .i64 d2, .int .i64 known] w fun r w' =>
      r = .returned (.tuple #[.slice none 0 0, .int .i64 (askErr (isAt nm na x) (dayB d1 && dayB d2) (knownB known ne))]) ∧ Below w.heap.size w w' := by
  have C1 : Hid (type_of% (find_any B ga ca na ada pa nm x w h hn)) := find_any B ga ca na ada pa nm x w h hn
  clear h
  cases hi : isAt nm na x
  · have e0 : findV pa nm na x = .pointer none := by unfold findV; rw [hi]; rfl
    rw [e0] at C1
    clear e0 hbad
    go_enter Tryz.func89, Tryz.ntmps89
    go_wp2_with (go_at_call 66; refine Calls.mono C1.out ?_; rintro e wx ⟨rfl, hw⟩)
    go_ret2
    exact ⟨rfl, hw.below⟩
  · have e0 : findV pa nm na x = .pointer (some ⟨pa (lessN nm na x), 0, none⟩) := by unfold findV; rw [hi]; rfl
    rw [e0] at C1
    rw [hi] at hbad
    generalize pa (lessN nm na x) = A at *
    generalize h2 : (dayB d1 && dayB d2) = u at *
    generalize h3 : knownB known ne = v at *
    cases u <;> cases v
    case true.true => exact absurd rfl hbad
    all_goals
      clear hbad
      go_enter Tryz.func89, Tryz.ntmps89
      go_wp2_with (first | (go_at_call 66; refine Calls.mono C1.out ?_; rintro e wx ⟨rfl, hw⟩; have hE' := hw.cell' hE) | (go_at_call 69; refine Calls.mono (refuseTwo_any B wx.heap.size ne known d1 d2 _ (((Grew.refl _).alloc _).cell' hE') (blk_cell' (heap_alloc_new wx _) rfl) (blk_cell' (heap_alloc_new wx _) rfl)) ?_; rintro e wy ⟨rfl, hwy⟩; rw [hwy]; clear hwy wy; simp only [h2, h3]))
      go_ret2
      exact ⟨rfl, (hw.alloc _).below⟩
set_option maxRecDepth 100000 in
set_option maxHeartbeats 1000000 in
theorem Items_ok {ade : Option Addr} {ce : Nat} (B ga ca na ne : Nat) (ada : Option Addr) (pa : Nat → Nat) (nm : Nat → ByteArray) (x : ByteArray) (d1 d2 known : Int) (w : World) (Q : Value → World → Prop) (h : BookAt w B ga ca na ada pa nm) (hn : na ≤ 1000) (hE : w.cell? ⟨B, 2, none⟩ = some (.slice ade ne ce))
    (hi : isAt nm na x = true) (h2 : (dayB d1 && dayB d2) = true) (h3 : knownB known ne = true)
    (hP : ∀ W, Below w.heap.size w W → Calls Tryz.prog 127 #[.pointer (some ⟨pa (lessN nm na x), 2, none⟩), .int .i64 d1, .int .i64 d2, .int .i64 known] W fun r w' => ∃ v, r = .returned v ∧ Q v w' ∧ Below W.heap.size W w') :
    Calls Tryz.prog 89 #[.pointer (some ⟨B, 0, none⟩), .string x, .int .i64 d1, .int .i64 d2, .int .i64 known] w fun r w' =>
      ∃ v, r = .returned (.tuple #[v, .int .i64 0]) ∧ Q v w' ∧ Below w.heap.size w w' := by
  have C1 : Hid (type_of% (find_any B ga ca na ada pa nm x w h hn)) := find_any B ga ca na ada pa nm x w h hn
  have C3 : Hid (type_of% hP) := hP
  clear h hP
  have e0 : findV pa nm na x = .pointer (some ⟨pa (lessN nm na x), 0, none⟩) := by unfold findV; rw [hi]; rfl
  rw [e0] at C1
  clear e0
  generalize pa (lessN nm na x) = A at *
  go_enter Tryz.func89, Tryz.ntmps89
  go_wp2_with (first | (go_at_call 66; refine Calls.mono C1.out ?_; rintro e wx ⟨rfl, hw⟩; have hE' := hw.cell' hE) | (go_at_call 69; refine Calls.mono (refuseTwo_any B wx.heap.size ne known d1 d2 _ (((Grew.refl _).alloc _).cell' hE') (blk_cell' (heap_alloc_new wx _) rfl) (blk_cell' (heap_alloc_new wx _) rfl)) ?_; rintro e wy ⟨rfl, hwy⟩; rw [hwy]; clear hwy wy; simp only [h2, h3]) | (go_at_call 127; refine Calls.mono (C3.out _ (hw.alloc _).below) ?_; rintro e wz ⟨vz, rfl, hq, hz⟩))
  go_ret2
  exact ⟨_, rfl, hq, (hw.alloc _).below.trans (hz.mono (hw.alloc _).size)⟩
end Go.Proofs.YtjnmoddcodnadaaGreatDoor
namespace Go.Annal
def trA (nm : Nat → ByteArray) (V : Nat → Int) (k : Nat) : List Ln := ((List.range k).map (fun i => (nm i, V i))).filter (fun p => !decide (p.2 = 0))
theorem trA_succ (nm : Nat → ByteArray) (V : Nat → Int) (k : Nat) : trA nm V (k + 1) = trA nm V k ++ (if V k = 0 then [] else [(nm k, V k)]) := by
  simp only [trA, List.range_succ, List.map_append, List.filter_append, List.map_cons, List.map_nil]
  by_cases h : V k = 0 <;> simp [h]
theorem trA_len (nm : Nat → ByteArray) (V : Nat → Int) (k : Nat) : (trA nm V k).length ≤ k := by
  unfold trA
  exact Nat.le_trans (List.length_filter_le _ _) (by simp)
end Go.Annal
namespace Go.Proofs.YtjnmoddcodnadaaGreatDoor
open Go.RowKit Go.Annal
set_option maxRecDepth 100000 in
set_option maxHeartbeats 1000000 in
theorem Trial_err {ade : Option Addr} {ce : Nat} (B ne : Nat) (day known : Int) (w : World) (hE : w.cell? ⟨B, 2, none⟩ = some (.slice ade ne ce)) (hbad : viewE (dayB day) (knownB known ne) ≠ 0) :
    Calls Tryz.prog 85 #[.pointer (some ⟨B, 0, none⟩), .int .i64 day, .int .i64 known] w fun r w' =>
      r = .returned (.tuple #[.slice none 0 0, .int .i64 (viewE (dayB day) (knownB known ne))]) ∧ Below w.heap.size w w' := by
  have C : Hid (type_of% (refuseOne_any B w.heap.size ne known day _ (((Grew.refl _).alloc _).cell' hE) (blk_cell' (heap_alloc_new w (.cells #[.int .i64 day] 3)) rfl))) := refuseOne_any B w.heap.size ne known day _ (((Grew.refl _).alloc _).cell' hE) (blk_cell' (heap_alloc_new w (.cells #[.int .i64 day] 3)) rfl)
  generalize viewE (dayB day) (knownB known ne) = E at *
  go_enter Tryz.func85, Tryz.ntmps85
  go_wp2_with (go_at_call 69; refine Calls.mono C.out ?_; rintro e wy ⟨rfl, hwy⟩; rw [hwy]; clear hwy wy)
  go_ret2
  exact ⟨rfl, ((Grew.refl _).alloc _).below⟩
set_option maxRecDepth 100000 in
set_option maxHeartbeats 1000000 in
theorem Trial_ok {ade : Option Addr} {ce : Nat} (B ga ca na ne : Nat) (ada : Option Addr) (pa : Nat → Nat) (nm : Nat → ByteArray) (V : Nat → Int) (day known : Int) (w : World) (h : BookAt w B ga ca na ada pa nm) (hn : na ≤ 1000) (hE : w.cell? ⟨B, 2, none⟩ = some (.slice ade ne ce))
    (h2 : dayB day = true) (h3 : knownB known ne = true)
    (hP : ∀ i, i < na → ∀ W, Below w.heap.size w W → Calls Tryz.prog 70 #[.pointer (some ⟨pa i, 2, none⟩), .int .i64 day, .int .i64 known] W fun r w' => r = .returned (.int .i64 (V i)) ∧ Below W.heap.size W w') :
    Calls Tryz.prog 85 #[.pointer (some ⟨B, 0, none⟩), .int .i64 day, .int .i64 known] w fun r w' => ∃ v,
      r = .returned (.tuple #[v, .int .i64 0]) ∧ w'.ownsRow w.heap.size 58 2 v (trA nm V na).length (cells2 (trA nm V na)) ∧ Below w.heap.size w w' := by
  obtain ⟨i0, hi, hz0, hz1, hz2⟩ := info_parts Tryz.infoLine
  have C : Hid (type_of% (refuseOne_any B w.heap.size ne known day _ (((Grew.refl _).alloc _).cell' hE) (blk_cell' (heap_alloc_new w (.cells #[.int .i64 day] 3)) rfl))) := refuseOne_any B w.heap.size ne known day _ (((Grew.refl _).alloc _).cell' hE) (blk_cell' (heap_alloc_new w (.cells #[.int .i64 day] 3)) rfl)
  rw [h2, h3, show viewE true true = 0 from rfl] at C
  have HP : Hid (type_of% hP) := hP
  clear hP
  have hk1 : Grew w (w.alloc (.cells #[.int .i64 day] 3)) := (Grew.refl _).alloc _
  have cB := hk1.cell' h.cB
  have HA : Hid (type_of% h) := h
  clear h
  go_enter Tryz.func85, Tryz.ntmps85
  go_wp2_with (go_at_call 69; refine Calls.mono C.out ?_; rintro e wy ⟨rfl, hwy⟩; rw [hwy]; clear hwy wy)
  obtain ⟨W1, hW1⟩ : ∃ W1, w.alloc (.cells #[.int .i64 day] 3) = W1 := ⟨_, rfl⟩
  rw [hW1] at hk1 cB ⊢
  have hB1 := hk1.below
  clear hW1 C hk1
  have hnz : na = 0 ∨ 0 < na := by omega
  rcases hnz with rfl | hpos
  · refine wp_loop_rounds 2 ?_; rw [rounds_succ]; go_wp2
    refine bodyPost_ret (results_tmp2 rfl _ _ _) rfl ?_
    exact ⟨_, rfl, World.ownsRow_nil _ _ _ _, hB1⟩
  · obtain rfl := HA.out.ha hpos
    go_loopw [9, 11, 12, 26] (fun ov _ _ iv wr => ∃ k : Nat, k ≤ na ∧ iv = .int .i64 k ∧ wr.ownsRow w.heap.size 58 2 ov (trA nm V k).length (cells2 (trA nm V k)) ∧ Below w.heap.size w wr) (fun _ _ _ iv _ => na - (intOf iv).toNat)
    case atStart => exact ⟨0, Nat.zero_le _, rfl, by simpa [trA, cells2] using World.ownsRow_nil W1 w.heap.size 58 2, hB1⟩
    case round =>
      obtain ⟨k, hkn, rfl, hown, hB⟩ := hrel
      by_cases hlt : k < na
      · have hlt' : (k : Int) < (na : Int) := by omega
        have hk0 : (0 : Int) ≤ (k : Int) := by omega
        have cp := cell_later hB (HA.out.cp k hlt)
        have hll := trA_len nm V k
        have hst := trA_succ nm V k
        have cn := HA.out.cn k hlt
        have CX : Hid (type_of% (HP.out k hlt wr hB)) := HP.out k hlt wr hB
        generalize trA nm V k = M at *
        by_cases h0 : V k = 0
        · rw [if_pos h0, List.append_nil] at hst
          have HS : Hid (type_of% hst) := hst
          rw [h0] at CX
          clear hst
          go_wp2_with (go_at_call 70; refine Calls.mono CX.out ?_; rintro e wx ⟨rfl, hw⟩)
          go_roundw
          case rel => exact ⟨k + 1, by omega, by go_num, by rw [HS.out]; exact owns_mv hown hw, hB.trans (hw.mono hB.size)⟩
          case measure => simp [intOf]; omega
        · have h0' : (V k != 0) = true := by simpa using h0
          rw [if_neg h0] at hst
          have HS : Hid (type_of% hst) := hst
          clear hst
          generalize V k = z at *
          generalize nm k = y at *
          go_wp2_with (first
            | (go_at_call 70; refine Calls.mono CX.out ?_; rintro e wx ⟨rfl, hw⟩; have hBx := hB.trans (hw.mono hB.size); have cn' := cell_later hBx cn; have hownx := owns_mv hown hw)
            | (at_builtin; refine wpList_append_src rfl (.tmp 38) (.tmp 46) 54 rfl w.heap.size 58 i0 _ 2 24 Tryz.underlying54 hi hz0 hz1 hz2 rfl (by decide) _ _ _ rfl (hownx.alloc _) _ 1 [.string y, .int .i64 z] rfl (src_new2 _ _ _ _) (by simp [Value.oneCell']) (by unfold maxLen; omega) (by omega) (by have := hBx.size; simp; omega) ?_; intro v2 w2 hown2 hg2; have hB4 := (hBx.alloc hBx.size _).grown hg2 (by have := hBx.size; simp; omega) (fun k hk => (hownx.lt k hk).1)))
          go_roundw
          case rel => exact ⟨k + 1, by omega, by go_num, by rw [HS.out, cells2_append]; simpa [cells2, enc2] using hown2, hB4⟩
          case measure => simp [intOf]; omega
      · have hlt' : ¬ (k : Int) < (na : Int) := by omega
        obtain rfl : k = na := by omega
        go_wp2
        refine bodyPost_ret (results_tmp2 rfl _ _ _) rfl ?_
        exact ⟨_, rfl, hown, hB⟩
end Go.Proofs.YtjnmoddcodnadaaGreatDoor
namespace Go.Proofs.YtjnmoddcodnadaaGreatDoor
open Go.RowKit Go.Annal
set_option maxHeartbeats 400000 in
theorem isMissing_any (B ga ca na : Nat) (ada : Option Addr) (pa : Nat → Nat) (nm : Nat → ByteArray) (x : ByteArray) (m : Int) (w : World) (h : BookAt w B ga ca na ada pa nm) (hn : na ≤ 1000) :
    Calls Tryz.prog 102 #[.pointer (some ⟨B, 0, none⟩), .agg #[.string x, .int .i64 m]] w fun r w' => r = .returned (.bool (!isAt nm na x)) ∧ Below w.heap.size w w' := by
  have hk : Grew w (w.alloc (.cells #[.string x, .int .i64 m] 58)) := (Grew.refl _).alloc _
  have C1 : Hid (type_of% (find_any B ga ca na ada pa nm x _ (h.mv hk.below) hn)) := find_any B ga ca na ada pa nm x _ (h.mv hk.below) hn
  clear h
  cases hi : isAt nm na x
  · have e0 : findV pa nm na x = .pointer none := by unfold findV; rw [hi]; rfl
    rw [e0] at C1
    clear e0
    go_enter Tryz.func102, Tryz.ntmps102
    go_wp2_with (go_at_call 66; refine Calls.mono C1.out ?_; rintro e wx ⟨rfl, hw⟩)
    go_ret
    exact ⟨rfl, (hk.trans hw).below⟩
  · have e0 : findV pa nm na x = .pointer (some ⟨pa (lessN nm na x), 0, none⟩) := by unfold findV; rw [hi]; rfl
    rw [e0] at C1
    clear e0
    generalize pa (lessN nm na x) = A at *
    go_enter Tryz.func102, Tryz.ntmps102
    go_wp2_with (go_at_call 66; refine Calls.mono C1.out ?_; rintro e wx ⟨rfl, hw⟩)
    go_ret
    exact ⟨rfl, (hk.trans hw).below⟩
set_option maxHeartbeats 1000000 in
theorem idxFunc_any (G : Nat) (ba lb : Array Value) (lg lo n cap : Nat) (xa : Nat → ByteArray) (xm : Nat → Int) (p : Nat → Bool) (w : World) (eg : ∀ args w, (callFunc G args).run Tryz.prog w = .ok (.enter G args) w) (hL : LinesAt w lg lo n xa xm) (hn6 : n ≤ 1000)
    (hC : ∀ i, i < n → ∀ W, Below w.heap.size w W → Calls Tryz.prog G (ba ++ #[.agg #[.string (xa i), .int .i64 (xm i)]] ++ lb) W fun r w' => r = .returned (.bool (p i)) ∧ Below W.heap.size W w') :
    Calls Tryz.prog 136 #[.slice (some ⟨lg, lo, none⟩) n cap, .func (.func G) ba lb] w fun r w' =>
      (∃ z : Int, r = .returned (.int .i64 z) ∧ decide (0 ≤ z) = anyN n p) ∧ Below w.heap.size w w' := by
  have C : Hid (type_of% hC) := hC
  clear hC
  go_enter Tryz.func136, Tryz.ntmps136
  go_wp2
  go_loopw [5, 8] (fun _ iv wr => ∃ k : Nat, k ≤ n ∧ iv = .int .i64 k ∧ (∀ j, j < k → p j = false) ∧ Below w.heap.size w wr) (fun _ iv _ => n - (intOf iv).toNat)
  case atStart => exact ⟨0, Nat.zero_le _, rfl, fun _ h => by omega, Below.refl _ _⟩
  case round =>
    obtain ⟨k, hk, rfl, hb, hB⟩ := hrel
    have HB : Hid (type_of% hb) := hb
    clear hb
    by_cases hlt : k < n
    · have hlt' : (k : Int) < (n : Int) := by omega
      have hk0 : (0 : Int) ≤ (k : Int) := by omega
      have ca := cell_later hB (hL.ca k hlt)
      have cm := cell_later hB (hL.cm k hlt)
      have CX : Hid (type_of% (C.out k hlt wr hB)) := C.out k hlt wr hB
      generalize hpk : p k = pk at CX
      have HPK : Hid (type_of% hpk) := hpk
      clear hpk C
      cases pk
      · have HN : Hid (∀ j, j < k + 1 → p j = false) := fun j hj => by
          by_cases h : j = k
          · subst h; exact HPK.out
          · exact HB.out j (by omega)
        go_wp2_with (go_at_fn G; refine Calls.mono CX.out ?_; rintro e wx ⟨rfl, hw⟩)
        go_roundw
        case rel => exact ⟨k + 1, by omega, by go_num, HN.out, hB.trans (hw.mono hB.size)⟩
        case measure => simp [intOf]; omega
      · have fin : Hid (anyN n p = true) := anyN_true hlt HPK.out
        go_wp2_with (go_at_fn G; refine Calls.mono CX.out ?_; rintro e wx ⟨rfl, hw⟩)
        go_ret
        exact ⟨⟨_, rfl, by rw [fin.out]; simp⟩, hB.trans (hw.mono hB.size)⟩
    · have hlt' : ¬ (k : Int) < (n : Int) := by omega
      have fin : Hid (anyN n p = false) := anyN_false (fun j hj => HB.out j (by omega))
      go_wp2
      go_ret
      exact ⟨⟨_, rfl, by rw [fin.out]; rfl⟩, hB⟩
set_option maxHeartbeats 1000000 in
theorem contains_any (G : Nat) (ba lb : Array Value) (lg lo n cap : Nat) (xa : Nat → ByteArray) (xm : Nat → Int) (p : Nat → Bool) (w : World) (eg : ∀ args w, (callFunc G args).run Tryz.prog w = .ok (.enter G args) w) (hL : LinesAt w lg lo n xa xm) (hn6 : n ≤ 1000)
    (hC : ∀ i, i < n → ∀ W, Below w.heap.size w W → Calls Tryz.prog G (ba ++ #[.agg #[.string (xa i), .int .i64 (xm i)]] ++ lb) W fun r w' => r = .returned (.bool (p i)) ∧ Below W.heap.size W w') :
    Calls Tryz.prog 101 #[.slice (some ⟨lg, lo, none⟩) n cap, .func (.func G) ba lb] w fun r w' => r = .returned (.bool (anyN n p)) ∧ Below w.heap.size w w' := by
  have C : Hid (type_of% (idxFunc_any G ba lb lg lo n cap xa xm p w eg hL hn6 hC)) := idxFunc_any G ba lb lg lo n cap xa xm p w eg hL hn6 hC
  clear hC hL
  go_enter Tryz.func101, Tryz.ntmps101
  go_wp2_with (go_at_call 136; refine Calls.mono C.out ?_; rintro e wx ⟨⟨z, rfl, hz⟩, hw⟩)
  go_ret
  exact ⟨rfl, hw⟩
set_option maxHeartbeats 1000000 in
theorem same_any (Bx : Nat) (x y : ByteArray) (m : Int) (w : World) (hx : w.cell? ⟨Bx, 0, none⟩ = some (.string x)) :
    Calls Tryz.prog 137 #[.agg #[.string y, .int .i64 m], .pointer (some ⟨Bx, 0, none⟩)] w fun r w' => r = .returned (.bool (y.toList == x.toList)) ∧ Below w.heap.size w w' := by
  have hk : Grew w (w.alloc (.cells #[.string y, .int .i64 m] 58)) := (Grew.refl _).alloc _
  have hx' := hk.cell' hx
  go_enter Tryz.func137, Tryz.ntmps137
  go_wp2
  go_ret
  exact ⟨rfl, hk.below⟩
theorem LinesAt.less {w : World} {lg lo n k : Nat} {xa : Nat → ByteArray} {xm : Nat → Int} (h : LinesAt w lg lo n xa xm) (hk : k ≤ n) : LinesAt w lg lo k xa xm := ⟨fun i hi => h.ca i (by omega), fun i hi => h.cm i (by omega)⟩
theorem toList_comm (x y : ByteArray) : (x.toList == y.toList) = (y.toList == x.toList) := by
  rw [Bool.eq_iff_iff, beq_iff_eq, beq_iff_eq]; exact eq_comm
set_option maxHeartbeats 1000000 in
theorem anyTwice_any (lg lo n cap : Nat) (xa : Nat → ByteArray) (xm : Nat → Int) (w : World) (hL : LinesAt w lg lo n xa xm) (hn6 : n ≤ 6) (hcap : n ≤ cap) :
    Calls Tryz.prog 103 #[.slice (some ⟨lg, lo, none⟩) n cap] w fun r w' => r = .returned (.bool (anyN n (fun i => anyN i (fun k => (xa i).toList == (xa k).toList)))) ∧ Below w.heap.size w w' := by
  have HT : Hid (∀ i, i < n → anyN i (fun k => (xa i).toList == (xa k).toList) = true → anyN n (fun i => anyN i (fun k => (xa i).toList == (xa k).toList)) = true) := fun i hi h => anyN_true hi h
  have HF : Hid ((∀ i, i < n → anyN i (fun k => (xa i).toList == (xa k).toList) = false) → anyN n (fun i => anyN i (fun k => (xa i).toList == (xa k).toList)) = false) := fun h => anyN_false h
  generalize anyN n (fun i => anyN i (fun k => (xa i).toList == (xa k).toList)) = R at *
  go_enter Tryz.func103, Tryz.ntmps103
  go_wp2
  go_loopw [3, 4, 5, 8] (fun _ _ _ iv wr => ∃ k : Nat, k ≤ n ∧ iv = .int .i64 k ∧ (∀ j, j < k → anyN j (fun l => (xa j).toList == (xa l).toList) = false) ∧ Below w.heap.size w wr) (fun _ _ _ iv _ => n - (intOf iv).toNat)
  case atStart => exact ⟨0, Nat.zero_le _, rfl, fun _ h => by omega, Below.refl _ _⟩
  case round =>
    obtain ⟨k, hk, rfl, hb, hB⟩ := hrel
    have HB : Hid (type_of% hb) := hb
    clear hb
    by_cases hlt : k < n
    · have hlt' : (k : Int) < (n : Int) := by omega
      have hk0 : (0 : Int) ≤ (k : Int) := by omega
      have hkc : (k : Int) ≤ (cap : Int) := by omega
      have ca := cell_later hB (hL.ca k hlt)
      have cm := cell_later hB (hL.cm k hlt)
      have hka : Grew wr (wr.alloc (.cells #[.string (xa k), .int .i64 (xm k)] 58)) := (Grew.refl _).alloc _
      have hBa := hB.trans (hka.below.mono hB.size)
      have cx := blk_cell' (heap_alloc_new wr (.cells #[.string (xa k), .int .i64 (xm k)] 58)) (o := 0) rfl
      have hCX := contains_any 137 #[] #[.pointer (some ⟨wr.heap.size, 0, none⟩)] lg lo k cap xa xm (fun l => (xa k).toList == (xa l).toList) (wr.alloc (.cells #[.string (xa k), .int .i64 (xm k)] 58)) (enters_of Tryz.func137 (by kernel_rfl) rfl) ((hL.mv hBa).less hk) (by omega)
        (fun i hi W hW => by
          have := same_any wr.heap.size (xa k) (xa i) (xm i) W (cell_later hW cx)
          rw [toList_comm] at this
          exact this)
      have CX : Hid (type_of% hCX) := hCX
      clear hCX
      generalize hpk : anyN k (fun l => (xa k).toList == (xa l).toList) = pk at CX
      have HPK : Hid (type_of% hpk) := hpk
      clear hpk
      cases pk
      · have HN : Hid (∀ j, j < k + 1 → anyN j (fun l => (xa j).toList == (xa l).toList) = false) := fun j hj => by
          by_cases h : j = k
          · subst h; exact HPK.out
          · exact HB.out j (by omega)
        clear cx
        go_wp2_with (go_at_call 101; refine Calls.mono CX.out ?_; rintro e wx ⟨rfl, hw⟩)
        go_roundw
        case rel => exact ⟨k + 1, by omega, by go_num, HN.out, hBa.trans (hw.mono hBa.size)⟩
        case measure => simp [intOf]; omega
      · have fin : Hid (R = true) := HT.out k hlt HPK.out
        clear cx
        go_wp2_with (go_at_call 101; refine Calls.mono CX.out ?_; rintro e wx ⟨rfl, hw⟩)
        go_ret
        exact ⟨ret_bool fin.out.symm, hBa.trans (hw.mono hBa.size)⟩
    · have hlt' : ¬ (k : Int) < (n : Int) := by omega
      have fin : Hid (R = false) := HF.out (fun j hj => HB.out j (by omega))
      go_wp2
      go_ret
      exact ⟨ret_bool fin.out.symm, hB⟩
end Go.Proofs.YtjnmoddcodnadaaGreatDoor
