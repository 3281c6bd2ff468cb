import Derived.Test.YtjnmoddcodnadaaGreatDoorG04
import Derived.Test.YtjnmoddcodnadaaGreatDoorG06
import Derived.Lib.OwnBridge
import Derived.Test.YtjnmoddcodnadaaGreatDoorG02
set_option linter.unusedVariables false
set_option linter.unusedSimpArgs false
namespace Go.Annal
/-- A row of a block: an item and a sum. -/
abbrev Rw := Int × Int × Int × Int
def enc4 (x : Rw) : List Value := [.int .i64 x.1, .int .i64 x.2.1, .int .i64 x.2.2.1, .int .i64 x.2.2.2]
def cells4 (l : List Rw) : List Value := l.flatMap enc4
theorem cells4_append (a b : List Rw) : cells4 (a ++ b) = cells4 a ++ cells4 b := by simp [cells4]
theorem cells4_cons (x : Rw) (b : List Rw) : cells4 (x :: b) = enc4 x ++ cells4 b := by simp [cells4]
theorem cells4_len (l : List Rw) : (cells4 l).length = l.length * 4 := by
  induction l with
  | nil => rfl
  | cons x r ih => rw [cells4_cons, List.length_append, ih]; simp [enc4]; omega
theorem cells4_one (l : List Rw) : ∀ u ∈ cells4 l, u.oneCell' = true := by
  intro u hu
  simp only [cells4, List.mem_flatMap, enc4] at hu
  obtain ⟨x, _, hx⟩ := hu
  simp at hx
  rcases hx with rfl | rfl | rfl | rfl <;> rfl
theorem cells4_drop (l : List Rw) (k : Nat) : (cells4 l).drop (k * 4) = cells4 (l.drop k) := by
  induction l generalizing k with
  | nil => simp [cells4]
  | cons x r ih =>
    cases k with
    | zero => simp [cells4]
    | succ k =>
      rw [cells4_cons, List.drop_succ_cons, ← ih k, show (k + 1) * 4 = (enc4 x).length + k * 4 by simp [enc4]; omega, List.drop_append, List.drop_of_length_le (by omega), Nat.add_sub_cancel_left, List.nil_append]
theorem cells4_get (l : List Rw) (j : Nat) (h : j < l.length) (o : Nat) (ho : o < 4) : (cells4 l)[j * 4 + o]? = (enc4 l[j])[o]? := by
  have h1 : (cells4 l)[j * 4 + o]? = ((cells4 l).drop (j * 4))[o]? := by rw [List.getElem?_drop]
  rw [h1, cells4_drop, List.drop_eq_getElem_cons h, cells4_cons]
  rw [List.getElem?_append_left (by simp [enc4]; omega)]
theorem cells4_set (A B : List Rw) (x : Rw) (s : Int) : (cells4 (A ++ x :: B)).set (A.length * 4 + 3) (.int .i64 s) = cells4 (A ++ (x.1, x.2.1, x.2.2.1, s) :: B) := by
  rw [cells4_append, cells4_append, cells4_cons, cells4_cons, List.set_append_right _ _ (by rw [cells4_len]; omega), cells4_len, Nat.add_sub_cancel_left]
  simp [enc4]
/-- Rows with their sums. -/
def addUpF (acc : Int) : List Rw → List Rw
  | [] => []
  | x :: r => (x.1, x.2.1, x.2.2.1, acc + x.2.2.1) :: addUpF (acc + x.2.2.1) r
def amtSum (l : List Rw) : Int := (l.map (fun x => x.2.2.1)).sum
theorem addUpF_snoc (acc : Int) (l : List Rw) (x : Rw) : addUpF acc (l ++ [x]) = addUpF acc l ++ [(x.1, x.2.1, x.2.2.1, acc + amtSum l + x.2.2.1)] := by
  induction l generalizing acc with
  | nil => simp [addUpF, amtSum]
  | cons y r ih => simp only [List.cons_append, addUpF, ih, amtSum, List.map_cons, List.sum_cons]; congr 3; simp; omega
theorem addUpF_len (acc : Int) (l : List Rw) : (addUpF acc l).length = l.length := by
  induction l generalizing acc with
  | nil => rfl
  | cons y r ih => simp [addUpF, ih]
theorem amtSum_bd (l : List Rw) (h : ∀ x ∈ l, -100000000000000 ≤ x.2.2.1 ∧ x.2.2.1 ≤ 100000000000000) : -(100000000000000 * (l.length : Int)) ≤ amtSum l ∧ amtSum l ≤ 100000000000000 * (l.length : Int) := by
  induction l with
  | nil => simp [amtSum]
  | cons y r ih =>
    have h1 := ih (fun x hx => h x (List.mem_cons_of_mem _ hx))
    have h2 := h y (List.mem_cons_self)
    simp only [amtSum, List.map_cons, List.sum_cons, List.length_cons] at *
    omega
theorem amtSum_snoc (l : List Rw) (x : Rw) : amtSum (l ++ [x]) = amtSum l + x.2.2.1 := by simp [amtSum]
end Go.Annal
namespace Go.Proofs.YtjnmoddcodnadaaGreatDoor
open Go.RowKit Go.Annal
set_option maxRecDepth 100000 in
set_option maxHeartbeats 1000000 in
theorem addUp_any (B g cap : Nat) (l : List Rw) (w : World) (hown : w.ownsRow B 195 4 (.slice (some ⟨g, 0, none⟩) l.length cap) l.length (cells4 l)) (hn : l.length ≤ 1000) (hb : ∀ x ∈ l, -100000000000000 ≤ x.2.2.1 ∧ x.2.2.1 ≤ 100000000000000) :
    Calls Tryz.prog 142 #[.slice (some ⟨g, 0, none⟩) l.length cap] w fun r w' => r = .returned (.tuple #[]) ∧ w'.ownsRow B 195 4 (.slice (some ⟨g, 0, none⟩) l.length cap) l.length (cells4 (addUpF 0 l)) ∧ w.grownBy w' (some g) := by
  go_enter Tryz.func142, Tryz.ntmps142
  go_wp2
  go_loopw [2, 3, 6] (fun sv _ iv wr => ∃ k : Nat, k ≤ l.length ∧ iv = .int .i64 k ∧ sv = .int .i64 (amtSum (l.take k)) ∧ wr.ownsRow B 195 4 (.slice (some ⟨g, 0, none⟩) l.length cap) l.length (cells4 (addUpF 0 (l.take k) ++ l.drop k)) ∧ w.grownBy wr (some g)) (fun _ _ iv _ => l.length - (intOf iv).toNat)
  case atStart => exact ⟨0, Nat.zero_le _, rfl, rfl, by simpa [addUpF] using hown, ⟨rfl, rfl, rfl, Nat.le_refl _, fun _ _ _ => rfl⟩⟩
  case round =>
    obtain ⟨k, hk, rfl, rfl, hown2, hg⟩ := hrel
    by_cases hlt : k < l.length
    · have hlt' : (k : Int) < (l.length : Int) := by omega
      have hk0 : (0 : Int) ≤ (k : Int) := by omega
      have hdr : l.drop k = l[k] :: l.drop (k + 1) := List.drop_eq_getElem_cons hlt
      have htk : l.take (k + 1) = l.take k ++ [l[k]] := List.take_succ_eq_append_getElem hlt
      have hbk := hb l[k] (List.getElem_mem hlt)
      have hbs := amtSum_bd (l.take k) (fun x hx => hb x (List.mem_of_mem_take hx))
      have hlk : (l.take k).length = k := by simp; omega
      rw [hlk] at hbs
      have hal : (addUpF 0 (l.take k)).length = k := by rw [addUpF_len, hlk]
      have hc := fun o (ho : o < 4) => (hown2.cellAt (k * 4 + o) (by omega)).trans (cells4_get (addUpF 0 (l.take k) ++ l.drop k) k (by rw [List.length_append, hal]; simp; omega) o ho)
      have hgk : (addUpF 0 (l.take k) ++ l.drop k)[k]'(by rw [List.length_append, hal]; simp; omega) = l[k] := by
        rw [List.getElem_append_right (by omega)]
        simp [hal]
      have c2 := hc 2 (by omega)
      have c3 := hc 3 (by omega)
      rw [hgk] at c2 c3
      have f3 := hown2.frozenAt (k * 4 + 3)
      have hst := hown2.stored (k * 4 + 3) (.int .i64 (amtSum (l.take k) + l[k].2.2.1))
      have hcs : (cells4 (addUpF 0 (l.take k) ++ l.drop k)).set (k * 4 + 3) (.int .i64 (amtSum (l.take k) + l[k].2.2.1)) = cells4 (addUpF 0 (l.take (k + 1)) ++ l.drop (k + 1)) := by
        have := cells4_set (addUpF 0 (l.take k)) (l.drop (k + 1)) l[k] (amtSum (l.take k) + l[k].2.2.1)
        rw [hal, ← hdr] at this
        rw [this, htk, addUpF_snoc]
        simp
      rw [hcs] at hst
      have hsm : amtSum (l.take (k + 1)) = amtSum (l.take k) + l[k].2.2.1 := by rw [htk, amtSum_snoc]
      have HS : Hid _ := hst
      have HM : Hid _ := hsm
      clear hst hsm hcs hc hgk hal hdr htk hown2
      simp only [enc4] at c2 c3
      generalize hS : amtSum (l.take k) = S at *
      generalize hA : l[k].2.2.1 = A at *
      clear hS hA
      obtain ⟨hbs1, hbs2⟩ := hbs
      obtain ⟨hbk1, hbk2⟩ := hbk
      simp at c2 c3
      go_wp2
      go_roundw
      case rel => exact ⟨k + 1, by omega, by go_num, by rw [HM.out], HS.out.1, ⟨HS.out.2.os.trans hg.os, HS.out.2.tape.trans hg.tape, HS.out.2.output.trans hg.output, Nat.le_trans hg.size HS.out.2.size, fun j hj hne => (HS.out.2.block j (Nat.lt_of_lt_of_le hj hg.size) hne).trans (hg.block j hj hne)⟩⟩
      case measure => simp [intOf]; omega
    · have hlt' : ¬ (k : Int) < (l.length : Int) := by omega
      have hke : k = l.length := by omega
      rw [List.take_of_length_le (by omega), List.drop_of_length_le (by omega), List.append_nil] at hown2
      have HO : Hid _ := hown2
      clear hown2 hke
      go_wp2
      go_end0
      exact ⟨rfl, HO.out, hg⟩
end Go.Proofs.YtjnmoddcodnadaaGreatDoor
namespace Go.Annal
open Go.RowKit Go.Sort Go.Proofs
section
variable {α : Type} {enc : α → List Value} {k : Nat}
theorem flat_len (hk : ∀ x, (enc x).length = k) (l : List α) : (l.flatMap enc).length = l.length * k := by
  induction l with
  | nil => simp
  | cons x r ih => rw [List.flatMap_cons, List.length_append, ih, hk, List.length_cons, Nat.add_mul]; omega
theorem flat_get (hk : ∀ x, (enc x).length = k) (l : List α) : ∀ (j : Nat) (hj : j < l.length) (o : Nat), o < k → (l.flatMap enc)[j * k + o]? = (enc l[j])[o]? := by
  induction l with
  | nil => intro j hj; simp at hj
  | cons x r ih =>
    intro j hj o ho
    rw [List.flatMap_cons]
    cases j with
    | zero => rw [List.getElem?_append_left (by rw [hk]; omega)]; simp
    | succ j =>
      have hj' : j < r.length := by simpa using hj
      rw [List.getElem?_append_right (by rw [hk, Nat.add_mul]; omega), hk, show (j + 1) * k + o - k = j * k + o by rw [Nat.add_mul]; omega, ih j hj' o ho]
      simp
end
section
variable {α : Type} [Inhabited α] {enc : α → List Value} {k : Nat}
theorem flatK_eq (h0 : 0 < k) (hk : ∀ x, (enc x).length = k) (d : Array α) : flatK enc k d = (d.toList.flatMap enc).toArray := by
  apply Array.ext_getElem?
  intro t
  by_cases ht : t < d.size * k
  · have htd : t / k < d.size := Nat.div_lt_of_lt_mul (by rwa [Nat.mul_comm] at ht)
    have h1 : (flatK enc k d)[t]? = some ((enc d[t / k]!)[t % k]!) := by
      rw [Array.getElem?_eq_getElem (by simpa using ht), ← getElem!_pos (flatK enc k d) t (by simpa using ht), get_flatK enc k d t ht]
    have h2 := flat_get hk d.toList (t / k) (by simpa using htd) (t % k) (Nat.mod_lt _ h0)
    rw [Nat.div_add_mod'] at h2
    rw [h1, List.getElem?_toArray, h2, getElem!_pos d (t / k) htd]
    have hlt : t % k < (enc d[t / k]).length := by rw [hk]; exact Nat.mod_lt _ h0
    simp [getElem!_pos, hlt]
  · rw [Array.getElem?_eq_none (by simp; omega), List.getElem?_toArray, List.getElem?_eq_none (by rw [flat_len hk]; simp; omega)]
theorem holdsK_of_owns (h0 : 0 < k) (hk : ∀ x, (enc x).length = k) {w : World} {B : Nat} {e : TypeId} {g cap : Nat} {l : List α} (h : w.ownsRow B e k (.slice (some ⟨g, 0, none⟩) l.length cap) l.length (l.flatMap enc)) : HoldsK enc k w g 0 l.toArray := by
  unfold HoldsK
  rw [flatK_eq h0 hk]
  intro j hj
  have hj' : j < l.length * k := by simpa [flat_len hk] using hj
  refine ⟨?_, h.frozenAt _⟩
  rw [Nat.zero_add, h.cellAt j hj']
  have hjl : j < (l.flatMap enc).length := by rw [flat_len hk]; exact hj'
  rw [List.getElem?_eq_getElem (by simpa using hjl)]
  simp only [id]
  congr 1
  rw [getElem!_pos _ j (by simpa using hjl)]
  simp
theorem owns_sortK (h0 : 0 < k) (hk : ∀ x, (enc x).length = k) {w : World} {B : Nat} {e : TypeId} {g cap n q : Nat} {xs : List Value} {d : Array α} {os : Array Obj} (h : w.ownsRow B e k (.slice (some ⟨g, 0, none⟩) n cap) n xs) (hd : d.size = n) :
    (sortWorldK enc k w g 0 q d os).ownsRow B e k (.slice (some ⟨g, 0, none⟩) n cap) n (d.toList.flatMap enc) ∧ w.grownBy (sortWorldK enc k w g 0 q d os) (some g) := by
  rcases h.2 with ⟨e0, _⟩ | ⟨g', cap', cur, e0, hb, hg, hn, hm, hs, ht⟩
  · cases e0
  · injection e0 with e1 _ e3
    injection e1 with e1
    injection e1 with e1
    subst e1; subst e3
    have hgl : g < w.heap.size := (Array.getElem?_eq_some_iff.1 hg).1
    have hflen : (d.toList.flatMap enc).length = n * k := by rw [flat_len hk]; simp [hd]
    constructor
    · refine ⟨hflen, .inr ⟨g, cap, putCells id 0 (flatK enc k d) cur, rfl, hb, ?_, hn, hm, by simpa [putCells] using hs, ?_⟩⟩
      · unfold sortWorldK grow putRowK putRow mapBlock Sort.ahead
        show (w.heap.modify g _ ++ os)[g]? = _
        rw [Array.getElem?_append_left (by simpa using hgl)]
        simp [Array.getElem?_modify, hg, onCells]
      · apply List.ext_getElem?
        intro j
        rw [List.getElem?_take, Array.getElem?_toList]
        by_cases hj : j < n * k
        · have hnk : n * k ≤ cap * k := Nat.mul_le_mul_right k hn
          have hjc : j < cur.size := by omega
          simp only [if_pos hj, putCells, Array.getElem?_mapIdx, Array.getElem?_eq_getElem hjc, Option.map_some]
          rw [if_pos (by simp [hd]; omega), flatK_eq h0 hk]
          simp only [id, Nat.sub_zero]
          rw [getElem!_pos _ j (by simpa [hflen] using hj), List.getElem?_eq_getElem (by omega)]
          simp
        · rw [if_neg hj, List.getElem?_eq_none (by omega)]
    · refine ⟨rfl, rfl, rfl, by simp [sortWorldK, grow, putRowK, putRow, mapBlock, Sort.ahead], fun j hj hne => ?_⟩
      have hjg : g ≠ j := fun e => hne (by rw [e])
      unfold sortWorldK grow putRowK putRow mapBlock Sort.ahead
      show (w.heap.modify g _ ++ os)[j]? = _
      rw [Array.getElem?_append_left (by simpa using hj)]
      simp [Array.getElem?_modify, hjg]
end
end Go.Annal
namespace Go.Annal
open Go.Sort Go.Proofs
/-- The order of items and rows: by days, of one day by numbers. -/
def ordI (d1 e1 d2 e2 : Int) : Bool := decide (d1 < d2 ∨ (d1 = d2 ∧ e1 < e2))
end Go.Annal
namespace Go.Proofs.YtjnmoddcodnadaaGreatDoor
open Go.RowKit Go.Annal Go.Sort Go.Shelf
def cfR (x y : Rw) : Int := orI (cmpI x.2.1 y.2.1) (cmpI x.1 y.1)
def cfT (x y : It) : Int := orI (cmpI x.2.1 y.2.1) (cmpI x.1 y.1)
theorem lt_ord (d1 e1 d2 e2 : Int) : decide (orI (cmpI d1 d2) (cmpI e1 e2) < 0) = ordI d1 e1 d2 e2 := by
  unfold orI cmpI ordI
  rcases (show d1 < d2 ∨ d2 < d1 ∨ d1 = d2 by omega) with h | h | h
  · simp [h]
  · have h1 : ¬ d1 < d2 := by omega
    have h2 : d1 ≠ d2 := by omega
    simp [h, h1, h2]
  · subst h
    rcases (show e1 < e2 ∨ e2 < e1 ∨ e1 = e2 by omega) with h' | h' | h'
    · simp [h']
    · have h1 : ¬ e1 < e2 := by omega
      simp [h', h1]
    · subst h'; simp
theorem ltR (x y : Rw) : ltOf cfR x y = ordI x.2.1 x.1 y.2.1 y.1 := lt_ord _ _ _ _
theorem ltT (x y : It) : ltOf cfT x y = ordI x.2.1 x.1 y.2.1 y.1 := lt_ord _ _ _ _
theorem swoR : SWO (ltOf cfR) where
  irrefl x := by rw [ltR]; simp [ordI]
  trans x y z h1 h2 := by rw [ltR] at *; simp [ordI] at *; omega
  ntrans x y z h1 h2 := by rw [ltR] at *; simp [ordI] at *; omega
theorem swoT : SWO (ltOf cfT) where
  irrefl x := by rw [ltT]; simp [ordI]
  trans x y z h1 h2 := by rw [ltT] at *; simp [ordI] at *; omega
  ntrans x y z h1 h2 := by rw [ltT] at *; simp [ordI] at *; omega
theorem aggRow (w : World) : (isAgg 195).run Tryz.prog w = .ok true w := by kernel_rfl
theorem sizeRow (w : World) : (Go.sizeOf 195).run Tryz.prog w = .ok 4 w := by kernel_rfl
theorem aggItem (w : World) : (isAgg 106).run Tryz.prog w = .ok true w := by kernel_rfl
theorem sizeItem (w : World) : (Go.sizeOf 106).run Tryz.prog w = .ok 3 w := by kernel_rfl

/-- No later one comes ahead of an earlier one. -/
def SortedBy {α : Type} (lt : α → α → Bool) (l : List α) : Prop := l.Pairwise (fun x y => lt y x = false)
theorem sortedBy_of {α : Type} [Inhabited α] (lt : α → α → Bool) (d : Array α) (h : SortedIn lt 0 d.size d) : SortedBy lt d.toList := by
  unfold SortedBy
  rw [List.pairwise_iff_getElem]
  intro i j hi hj hij
  have hi' : i < d.size := by simpa using hi
  have hj' : j < d.size := by simpa using hj
  have := h i j (Nat.zero_le _) hij hj'
  rw [getElem!_pos d i hi', getElem!_pos d j hj'] at this
  simpa using this
theorem perm_of {α : Type} [Inhabited α] (d d' : Array α) (h : PermIn 0 d.size d d') : d'.toList.Perm d.toList := by
  obtain ⟨h1, _, h3⟩ := h
  have e1 : d'.extract 0 d.size = d' := by rw [← h1]; simp
  have e2 : d.extract 0 d.size = d := by simp
  rwa [e1, e2] at h3

theorem sortRows_any (B g cap : Nat) (l : List Rw) (w : World) (hown : w.ownsRow B 195 4 (.slice (some ⟨g, 0, none⟩) l.length cap) l.length (cells4 l)) (hn : l.length ≤ 1000) :
    Calls Tryz.prog 139 #[.slice (some ⟨g, 0, none⟩) l.length cap, .func (.func 140) #[] #[]] w fun r w' => r = .returned (.tuple #[]) ∧ ∃ l' : List Rw, l'.Perm l ∧ SortedBy (ltOf cfR) l' ∧
      w'.ownsRow B 195 4 (.slice (some ⟨g, 0, none⟩) l.length cap) l.length (cells4 l') ∧ w.grownBy w' (some g) := by
  have hk : ∀ x : Rw, (enc4 x).length = 4 := fun _ => rfl
  have hgl : g < w.heap.size := (hown.lt g rfl).2
  have hc : CmpLays Tryz.prog 140 #[] enc4 4 cfR g 0 l.toArray.size w := fun m os dk _ x y => by
    have := orderRow_any x.1 x.2.1 x.2.2.1 x.2.2.2 y.1 y.2.1 y.2.2.1 y.2.2.2 (sortWorldK enc4 4 w g 0 m dk os)
    exact this
  have h := AnyQ.slices_SortFunc (P := Tryz.prog) Tryz.sortRowsL 4 aggRow sizeRow enc4 hk (fun x v hv => cells4_one [x] v (by simpa [cells4] using hv)) cfR swoR 140 #[] g 0 cap l.toArray w (enters_of Tryz.func140 (by kernel_rfl) rfl) hc (holdsK_of_owns (by decide) hk hown) hgl (by simp; omega)
  simp only [List.size_toArray] at h
  refine Calls.mono h ?_
  rintro e w' ⟨rfl, d', n, os, hp, hs, rfl⟩
  have hsz : d'.size = l.length := by have := hp.1; simpa using this
  have ho := owns_sortK (enc := enc4) (by decide) hk (q := n) (os := os) hown hsz
  refine ⟨rfl, d'.toList, by have := perm_of l.toArray d' (by simpa using hp); simpa using this, sortedBy_of _ d' (by rw [hsz]; exact hs), ho.1, ho.2⟩

theorem sortItems_any (B g cap : Nat) (l : List It) (w : World) (hown : w.ownsRow B 106 3 (.slice (some ⟨g, 0, none⟩) l.length cap) l.length (cells3 l)) (hn : l.length ≤ 1000000) :
    Calls Tryz.prog 156 #[.slice (some ⟨g, 0, none⟩) l.length cap, .func (.func 141) #[] #[]] w fun r w' => r = .returned (.tuple #[]) ∧ ∃ l' : List It, l'.Perm l ∧ SortedBy (ltOf cfT) l' ∧
      w'.ownsRow B 106 3 (.slice (some ⟨g, 0, none⟩) l.length cap) l.length (cells3 l') ∧ w.grownBy w' (some g) := by
  have hk : ∀ x : It, (enc3 x).length = 3 := fun _ => rfl
  have hgl : g < w.heap.size := (hown.lt g rfl).2
  have hc : CmpLays Tryz.prog 141 #[] enc3 3 cfT g 0 l.toArray.size w := fun m os dk _ x y => by
    have := order_any x.1 x.2.1 x.2.2 y.1 y.2.1 y.2.2 (sortWorldK enc3 3 w g 0 m dk os)
    exact this
  have h := AnyQ.slices_SortFunc (P := Tryz.prog) Tryz.sortItemsL 3 aggItem sizeItem enc3 hk (fun x v hv => cells3_one [x] v (by simpa [cells3] using hv)) cfT swoT 141 #[] g 0 cap l.toArray w (enters_of Tryz.func141 (by kernel_rfl) rfl) hc (holdsK_of_owns (by decide) hk hown) hgl (by simp; omega)
  simp only [List.size_toArray] at h
  refine Calls.mono h ?_
  rintro e w' ⟨rfl, d', n, os, hp, hs, rfl⟩
  have hsz : d'.size = l.length := by have := hp.1; simpa using this
  have ho := owns_sortK (enc := enc3) (by decide) hk (q := n) (os := os) hown hsz
  refine ⟨rfl, d'.toList, by have := perm_of l.toArray d' (by simpa using hp); simpa using this, sortedBy_of _ d' (by rw [hsz]; exact hs), ho.1, ho.2⟩

/-- No item: nothing turns. -/
theorem sortItems_none (p : Option Addr) (cap : Nat) (fv : Value) (w : World) :
    Calls Tryz.prog 156 #[.slice p 0 cap, fv] w fun r w' => r = .returned (.tuple #[]) ∧ w' = w :=
  AnyF.slices_SortFunc_none (P := Tryz.prog) Tryz.sortItemsL p cap fv w
end Go.Proofs.YtjnmoddcodnadaaGreatDoor
namespace Go.Annal
open Go.RowKit
/-- An append in a region, kept whole while the region is walked. -/
def AppendIn (F : Fence) (n : Nat) (P : Program) (o : Oper) (a : Act) (w : World) (K : Act → World → Prop) (Q : Exit → Act → World → Prop) : Prop := Oper.wpIn F n P o a w K Q
theorem appendIn_pre {F : Fence} {n : Nat} {P : Program} {d : Option Tmp} {s x : Operand} {t ty : TypeId} {pos : String} {af : Array Edge} {a : Act} {w : World} {K : Act → World → Prop} {Q : Exit → Act → World → Prop} :
    Oper.wpIn F n P { dst := d, op := .call { callee := .builtin .append, args := #[s, x], argTypes := #[t, t] }, type := ty, pos := pos, after := af, guard := none } a w K Q = AppendIn F n P { dst := d, op := .call { callee := .builtin .append, args := #[s, x], argTypes := #[t, t] }, type := ty, pos := pos, after := af, guard := none } a w K Q := rfl
theorem appendIn_run {F : Fence} {n : Nat} {P : Program} {d : Option Tmp} {s x : Operand} {t ty : TypeId} {pos : String} {af : Array Edge} {a : Act} {w : World} {K : Act → World → Prop} {Q : Exit → Act → World → Prop} (v xv v' : Value) (w' : World)
    (hs : a.eval s = v) (hx : a.eval x = xv) (hrun : (Builtin.append_ #[t, t] ty #[v, xv]).run P w = .ok v' w') (hK : K (a.put d v') w') :
    AppendIn F n P { dst := d, op := .call { callee := .builtin .append, args := #[s, x], argTypes := #[t, t] }, type := ty, pos := pos, after := af, guard := none } a w K Q := by
  unfold AppendIn Oper.wpIn
  refine ⟨?_, ?_⟩
  · simp [Oper.about, resolve, Target.leads, Sem.run_pure]
  · rw [Oper.semAt_plain F _ _ (by intro c hc'; cases hc')]
    simp [execOp, resolve, invoke, builtin, hs, hx, hrun, Result.andThen]
    exact hK
theorem wpIn_at_zero {F : Fence} {n : Nat} {P : Program} {o : Oper} {l : List Oper} {h : 0 < (o :: l).toArray.size} {a : Act} {w : World} {K : Act → World → Prop} {Q : Exit → Act → World → Prop} : Oper.wpIn F n P ((o :: l).toArray[0]'h) a w K Q = Oper.wpIn F n P o a w K Q := rfl
theorem wpIn_at_succ {F : Fence} {m : Nat} {P : Program} {o : Oper} {l : List Oper} {n : Nat} {h : n + 1 < (o :: l).toArray.size} {a : Act} {w : World} {K : Act → World → Prop} {Q : Exit → Act → World → Prop} : Oper.wpIn F m P ((o :: l).toArray[n + 1]'h) a w K Q = Oper.wpIn F m P (l.toArray[n]'(by simpa using h)) a w K Q := rfl
end Go.Annal
