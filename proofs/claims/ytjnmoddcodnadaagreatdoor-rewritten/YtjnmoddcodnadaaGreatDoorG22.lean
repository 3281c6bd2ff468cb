import Derived.Test.YtjnmoddcodnadaaGreatDoorG11
import Derived.Test.YtjnmoddcodnadaaGreatDoorG03
import Derived.Test.YtjnmoddcodnadaaGreatDoorG01
import Derived.Test.YtjnmoddcodnadaaGreatDoorG12
import Derived.Test.YtjnmoddcodnadaaGreatDoorG04
import Derived.Test.YtjnmoddcodnadaaGreatDoorG19
set_option linter.unusedVariables false
set_option linter.unusedSimpArgs false
namespace Go.Annal
open Go.Proofs Go.Proofs.YtjnmoddcodnadaaGreatDoor Go.Sort
variable (dy : Nat → Int) (la : Nat → Nat → ByteArray) (lm : Nat → Nat → Int) (x : ByteArray)
/-- What the first lines of an entry have for a name; what the first entries have. -/
def itsL (k : Nat) : Nat → List It
  | 0 => []
  | j + 1 => itsL k j ++ (if (la k j).toList == x.toList then [((k : Int) + 1, dy k, lm k j)] else [])
def its (ln : Nat → Nat) : Nat → List It
  | 0 => []
  | k + 1 => its ln k ++ itsL dy la lm x k (ln k)
theorem lnS_its (day : Int) (k : Nat) : ∀ j, lnS dy la lm x day k j = balI day (itsL dy la lm x k j)
  | 0 => rfl
  | j + 1 => by
    simp only [lnS, itsL, balI_append, lnS_its day k j, lnT]
    congr 1
    cases (la k j).toList == x.toList
    · simp [balI]
    · by_cases h : dy k ≤ day <;> simp [balI, h]
theorem enS_its (day : Int) (ln : Nat → Nat) : ∀ n, enS dy la lm x day ln n = balI day (its dy la lm x ln n)
  | 0 => rfl
  | k + 1 => by simp only [enS, its, balI_append, enS_its day ln k, lnS_its]
theorem itsL_num (k : Nat) : ∀ j, ∀ y ∈ itsL dy la lm x k j, y.1 = (k : Int) + 1
  | 0, y, h => by simp [itsL] at h
  | j + 1, y, h => by
    simp only [itsL, List.mem_append] at h
    rcases h with h | h
    · exact itsL_num k j y h
    · split at h
      · simp at h; rw [h]
      · simp at h
theorem its_num (ln : Nat → Nat) : ∀ n, ∀ y ∈ its dy la lm x ln n, 1 ≤ y.1 ∧ y.1 ≤ (n : Int)
  | 0, y, h => by simp [its] at h
  | k + 1, y, h => by
    simp only [its, List.mem_append] at h
    rcases h with h | h
    · have := its_num ln k y h; omega
    · have := itsL_num dy la lm x k _ y h; omega
theorem its_le (ln : Nat → Nat) (a : Nat) : ∀ n, a ≤ n → ∃ r, its dy la lm x ln n = its dy la lm x ln a ++ r ∧ ∀ y ∈ r, (a : Int) < y.1
  | 0, h => ⟨[], by obtain rfl : a = 0 := by omega
                    simp, by simp⟩
  | k + 1, h => by
    rcases Nat.eq_or_lt_of_le h with rfl | h
    · exact ⟨[], by simp, by simp⟩
    · obtain ⟨r, e, hr⟩ := its_le ln a k (by omega)
      refine ⟨r ++ itsL dy la lm x k (ln k), by simp only [its]; rw [e, List.append_assoc], fun y hy => ?_⟩
      rcases List.mem_append.1 hy with hy | hy
      · exact hr y hy
      · have := itsL_num dy la lm x k _ y hy; omega
/-- Of an entry in which no account stands twice there is one line for a name at most. -/
theorem itsL_one (k : Nat) (n : Nat) (h : ∀ a b, a < b → b < n → (la k a).toList ≠ (la k b).toList) : (itsL dy la lm x k n).length ≤ 1 ∧ ((∃ a, a < n ∧ (la k a).toList = x.toList) ∨ itsL dy la lm x k n = []) := by
  induction n with
  | zero => exact ⟨by simp [itsL], .inr rfl⟩
  | succ n ih =>
    obtain ⟨h1, h2⟩ := ih (fun a b hab hb => h a b hab (by omega))
    simp only [itsL]
    cases he : (la k n).toList == x.toList
    · simp only [Bool.false_eq_true, if_false, List.append_nil]
      exact ⟨h1, h2.imp (fun ⟨a, ha, e⟩ => ⟨a, by omega, e⟩) id⟩
    · have he' : (la k n).toList = x.toList := by simpa using he
      rcases h2 with ⟨a, ha, e⟩ | e
      · exact absurd (e.trans he'.symm) (h a n ha (by omega))
      · rw [e]
        exact ⟨by simp, .inl ⟨n, by omega, he'⟩⟩
theorem its_strict (ln : Nat → Nat) : ∀ n, (∀ k, k < n → ∀ a b, a < b → b < ln k → (la k a).toList ≠ (la k b).toList) → (its dy la lm x ln n).Pairwise (fun y z => y.1 < z.1)
  | 0, _ => List.Pairwise.nil
  | k + 1, h => by
    simp only [its]
    rw [List.pairwise_append]
    refine ⟨its_strict ln k (fun i hi => h i (by omega)), ?_, fun y hy z hz => ?_⟩
    · have := (itsL_one dy la lm x k (ln k) (h k (by omega))).1
      match hl : itsL dy la lm x k (ln k) with
      | [] => exact List.Pairwise.nil
      | [y] => exact List.pairwise_singleton _ _
      | y :: z :: r => rw [hl] at this; simp at this
    · have h1 := its_num dy la lm x ln k y hy
      have h2 := itsL_num dy la lm x k _ z hz
      omega
/-- The items that are known are those of the entries up to that number. -/
theorem known_its (ln : Nat → Nat) (n : Nat) (m : Nat) (f : Nat → It) (known : Int) (hf : (List.range m).map f = its dy la lm x ln n) (h0 : 0 ≤ known) (h1 : known ≤ n) :
    (List.range (cntKnown (fun i => (f i).1) m known)).map f = its dy la lm x ln known.toNat := by
  obtain ⟨r, e, hr⟩ := its_le dy la lm x ln known.toNat n (by omega)
  have hc : cntKnown (fun i => (f i).1) m known = (its dy la lm x ln known.toNat).length := by
    unfold cntKnown
    have e1 : (List.range m).countP (fun i => !decide (known < (f i).1)) = ((List.range m).map f).countP (fun y => !decide (known < y.1)) := by rw [List.countP_map]; rfl
    rw [e1, hf, e, List.countP_append]
    have e2 : r.countP (fun y => !decide (known < y.1)) = 0 := List.countP_eq_zero.2 (fun y hy => by have := hr y hy; simp; omega)
    have e3 : (its dy la lm x ln known.toNat).countP (fun y => !decide (known < y.1)) = (its dy la lm x ln known.toNat).length := List.countP_eq_length.2 (fun y hy => by have := its_num dy la lm x ln _ y hy; simp; omega)
    rw [e2, e3]; rfl
  have hm : m = (its dy la lm x ln n).length := by rw [← hf]; simp
  rw [hc]
  have e4 : (List.range (its dy la lm x ln known.toNat).length) = (List.range m).take (its dy la lm x ln known.toNat).length := by
    rw [List.take_range]
    congr 1
    rw [hm, e, List.length_append]
    omega
  rw [e4, List.map_take, hf, e, List.take_left]
theorem num_le (ln : Nat → Nat) (n : Nat) (m : Nat) (f : Nat → It) (hf : (List.range m).map f = its dy la lm x ln n) (h : ∀ k, k < n → ∀ a b, a < b → b < ln k → (la k a).toList ≠ (la k b).toList) : ∀ p q, p ≤ q → q < m → (f p).1 ≤ (f q).1 := by
  intro p q hpq hq
  rcases Nat.eq_or_lt_of_le hpq with rfl | hlt
  · exact Int.le_refl _
  · have h1 := its_strict dy la lm x ln n h
    rw [← hf, List.pairwise_map, List.pairwise_iff_getElem] at h1
    have := h1 p q (by simp; omega) (by simp; omega) hlt
    simp at this
    omega
/-- An item that comes behind all of a list's, by its number, is put into its place. -/
theorem ins_sorted (l : List It) (y : It) (hs : SortedBy (ltOf cfT) l) (hn : ∀ z ∈ l, z.1 ≤ y.1) : SortedBy (ltOf cfT) (ins l y) ∧ (ins l y).Perm (y :: l) := by
  have key : ∃ k, k ≤ l.length ∧ (∀ z ∈ l.drop k, y.2.1 < z.2.1) ∧ (∀ z ∈ l.take k, z.2.1 ≤ y.2.1) := by
    have hd : l.Pairwise (fun a b => a.2.1 ≤ b.2.1) := hs.imp (fun {a b} h => by rw [ltT] at h; simp [ordI] at h; omega)
    clear hs hn
    induction l with
    | nil => exact ⟨0, by simp, by simp, by simp⟩
    | cons a r ih =>
      rw [List.pairwise_cons] at hd
      by_cases ha : a.2.1 ≤ y.2.1
      · obtain ⟨k, h1, h2, h3⟩ := ih hd.2
        refine ⟨k + 1, by simp; omega, by simpa using h2, fun z hz => ?_⟩
        rw [List.take_succ_cons, List.mem_cons] at hz
        rcases hz with rfl | hz
        · exact ha
        · exact h3 z hz
      · refine ⟨0, by simp, fun z hz => ?_, by simp⟩
        rw [List.drop_zero, List.mem_cons] at hz
        rcases hz with rfl | hz
        · omega
        · have := hd.1 z hz; omega
  obtain ⟨k, hk, h1, h2⟩ := key
  rw [ins_eq l y k hk h1 (fun h => h2 _ (by rw [List.mem_take_iff_getElem]; exact ⟨k - 1, by omega, rfl⟩))]
  constructor
  · unfold SortedBy at *
    have hs' := hs
    rw [← List.take_append_drop k l, List.pairwise_append] at hs'
    obtain ⟨g1, g2, g3⟩ := hs'
    rw [List.pairwise_append, List.pairwise_cons]
    refine ⟨g1, ⟨fun z hz => ?_, g2⟩, fun z hz u hu => ?_⟩
    · have := h1 z hz
      rw [ltT]; simp [ordI]; omega
    · rw [List.mem_cons] at hu
      rcases hu with rfl | hu
      · have e1 := h2 z hz
        have e2 := hn z (List.mem_of_mem_take hz)
        rw [ltT]; simp [ordI]; omega
      · exact g3 z hz u hu
  · have := (List.perm_middle (a := y) (l₁ := l.take k) (l₂ := l.drop k))
    rwa [List.take_append_drop] at this
theorem lnI_its (d1 d2 : Int) (k : Nat) (l : List It) (hs : SortedBy (ltOf cfT) l) (hn : ∀ z ∈ l, z.1 ≤ (k : Int) + 1) : ∀ j,
    SortedBy (ltOf cfT) (lnI dy la lm x d1 d2 k j l) ∧ (lnI dy la lm x d1 d2 k j l).Perm (l ++ itmI d1 d2 (itsL dy la lm x k j)) ∧ (∀ z ∈ lnI dy la lm x d1 d2 k j l, z.1 ≤ (k : Int) + 1)
  | 0 => ⟨hs, by simp [itsL, itmI, lnI], hn⟩
  | j + 1 => by
    obtain ⟨h1, h2, h3⟩ := lnI_its d1 d2 k l hs hn j
    simp only [lnI, itsL, itmI_append]
    cases hx : (la k j).toList == x.toList
    · simp only [Bool.and_false, Bool.false_eq_true, if_false]
      exact ⟨h1, by simpa [itmI] using h2, h3⟩
    · cases hd : decide (d1 ≤ dy k) && decide (dy k ≤ d2)
      · simp only [Bool.false_and, Bool.false_eq_true, if_false]
        refine ⟨h1, ?_, h3⟩
        have : itmI d1 d2 [((k : Int) + 1, dy k, lm k j)] = [] := by simp only [itmI, List.filter_cons, hd]; rfl
        simp only [if_true, this, List.append_nil]
        exact h2
      · simp only [Bool.and_self, if_true]
        obtain ⟨g1, g2⟩ := ins_sorted _ ((k : Int) + 1, dy k, lm k j) h1 h3
        refine ⟨g1, ?_, fun z hz => ?_⟩
        · have : itmI d1 d2 [((k : Int) + 1, dy k, lm k j)] = [((k : Int) + 1, dy k, lm k j)] := by simp only [itmI, List.filter_cons, hd]; rfl
          rw [this, ← List.append_assoc]
          exact g2.trans ((List.Perm.cons _ h2).trans (List.perm_append_comm (l₁ := [((k : Int) + 1, dy k, lm k j)])))
        · rcases List.mem_cons.1 (g2.mem_iff.1 hz) with rfl | hz
          · exact Int.le_refl _
          · exact h3 z hz
theorem enI_its (d1 d2 : Int) (ln : Nat → Nat) : ∀ n, SortedBy (ltOf cfT) (enI dy la lm x d1 d2 ln n) ∧ (enI dy la lm x d1 d2 ln n).Perm (itmI d1 d2 (its dy la lm x ln n)) ∧ (∀ z ∈ enI dy la lm x d1 d2 ln n, z.1 ≤ (n : Int))
  | 0 => ⟨List.Pairwise.nil, by simp [enI, its, itmI], by simp [enI]⟩
  | k + 1 => by
    obtain ⟨h1, h2, h3⟩ := enI_its d1 d2 ln k
    obtain ⟨g1, g2, g3⟩ := lnI_its dy la lm x d1 d2 k (enI dy la lm x d1 d2 ln k) h1 (fun z hz => by have := h3 z hz; omega) (ln k)
    simp only [enI, its, itmI_append]
    exact ⟨g1, g2.trans (h2.append_right _), fun z hz => by have := g3 z hz; omega⟩
/-- Two lists in order of the same items, whose numbers differ, are one. -/
theorem items_same (d1 d2 : Int) (ln : Nat → Nat) (n : Nat) (h : ∀ k, k < n → ∀ a b, a < b → b < ln k → (la k a).toList ≠ (la k b).toList) (l' : List It) (hp : l'.Perm (itmI d1 d2 (its dy la lm x ln n))) (hs : SortedBy (ltOf cfT) l') :
    l' = enI dy la lm x d1 d2 ln n := by
  obtain ⟨g1, g2, _⟩ := enI_its dy la lm x d1 d2 ln n
  have hst : (itmI d1 d2 (its dy la lm x ln n)).Pairwise (fun y z => y.1 ≠ z.1) := ((its_strict dy la lm x ln n h).filter _).imp (fun {y z} h => by omega)
  have hu : ∀ y z, y ∈ itmI d1 d2 (its dy la lm x ln n) → z ∈ itmI d1 d2 (its dy la lm x ln n) → y.1 = z.1 → y = z := by
    intro y z hy hz e
    rw [List.pairwise_iff_getElem] at hst
    obtain ⟨i, hi, rfl⟩ := List.mem_iff_getElem.1 hy
    obtain ⟨j, hj, rfl⟩ := List.mem_iff_getElem.1 hz
    rcases Nat.lt_trichotomy i j with h | h | h
    · exact absurd e (hst i j hi hj h)
    · subst h; rfl
    · exact absurd e.symm (hst j i hj hi h)
  refine List.Perm.eq_of_pairwise ?_ hs g1 (hp.trans g2.symm)
  intro y z hy hz h1 h2
  apply hu y z (hp.mem_iff.1 hy) (g2.mem_iff.1 hz)
  rw [ltT] at h1 h2
  simp [ordI] at h1 h2
  omega
end Go.Annal
namespace Go.Proofs.YtjnmoddcodnadaaGreatDoor
open Go.Annal
theorem range_snoc {α : Type} (m : Nat) (f : Nat → α) (v : α) : (List.range (m + 1)).map (fun j => if j = m then v else f j) = (List.range m).map f ++ [v] := by
  rw [List.range_succ, List.map_append]
  congr 1
  · apply List.map_congr_left
    intro j hj
    have : j ≠ m := by simp at hj; omega
    simp [this]
  · simp
/-- What an entry adds to an account's items. -/
theorem stF_map (p : Nat → Nat) (it : Nat → It) (mm : Nat → Nat) (ff : Nat → Nat → It) (i : Nat) : ∀ n,
    (List.range (stM p mm n i)).map (stF p it mm ff n i) = (List.range (mm i)).map (ff i) ++ ((List.range n).filter (fun l => decide (p l = i))).map it
  | 0 => by simp [stM, stF]
  | n + 1 => by
    have ih := stF_map p it mm ff i n
    rw [List.range_succ, List.filter_append, List.map_append, ← List.append_assoc, ← ih]
    by_cases h : i = p n
    · subst h
      simp only [stM, stF, if_true]
      rw [range_snoc]
      simp
    · have h' : ¬ p n = i := fun e => h e.symm
      simp only [stM, stF, if_neg h]
      simp [h']
theorem itsL_congr (dy dy' : Nat → Int) (la la' : Nat → Nat → ByteArray) (lm lm' : Nat → Nat → Int) (x : ByteArray) (k : Nat) (hd : dy' k = dy k) : ∀ n, (∀ j, j < n → la' k j = la k j ∧ lm' k j = lm k j) → itsL dy' la' lm' x k n = itsL dy la lm x k n
  | 0, _ => rfl
  | n + 1, h => by
    simp only [itsL]
    rw [itsL_congr dy dy' la la' lm lm' x k hd n (fun j hj => h j (by omega)), (h n (by omega)).1, (h n (by omega)).2, hd]
theorem its_congr (dy dy' : Nat → Int) (la la' : Nat → Nat → ByteArray) (lm lm' : Nat → Nat → Int) (ln ln' : Nat → Nat) (x : ByteArray) : ∀ n, (∀ k, k < n → dy' k = dy k ∧ ln' k = ln k ∧ ∀ j, j < ln k → la' k j = la k j ∧ lm' k j = lm k j) → its dy' la' lm' x ln' n = its dy la lm x ln n
  | 0, _ => rfl
  | n + 1, h => by
    simp only [its]
    rw [its_congr dy dy' la la' lm lm' ln ln' x n (fun k hk => h k (by omega)), (h n (by omega)).2.1, itsL_congr dy dy' la la' lm lm' x n (h n (by omega)).1 (ln n) (h n (by omega)).2.2]
theorem itsL_filter (dy : Nat → Int) (la : Nat → Nat → ByteArray) (lm : Nat → Nat → Int) (x : ByteArray) (k : Nat) : ∀ n, itsL dy la lm x k n = ((List.range n).filter (fun l => (la k l).toList == x.toList)).map (fun l => ((k : Int) + 1, dy k, lm k l))
  | 0 => rfl
  | n + 1 => by
    rw [List.range_succ, List.filter_append, List.map_append]
    simp only [itsL, itsL_filter dy la lm x k n]
    congr 1
    cases h : (la k n).toList == x.toList <;> simp [h]
/-- Which account a line is for. -/
theorem line_for {nm : Nat → ByteArray} {na : Nat} (h : Rise nm na) {x : ByteArray} (hx : isAt nm na x = true) {i : Nat} (hi : i < na) : (lessN nm na x = i) ↔ (x.toList == (nm i).toList) = true := by
  rw [sEq_iff]
  obtain ⟨h1, h2⟩ := isAt_eq hx
  constructor
  · rintro rfl; exact h2.symm
  · rintro rfl; exact lessN_at h hi
/-- The items of all accounts, behind one entry more. -/
theorem its_enter {nm : Nat → ByteArray} {na ne n : Nat} (h : Rise nm na) (dy dy' : Nat → Int) (la la' : Nat → Nat → ByteArray) (lm lm' : Nat → Nat → Int) (ln ln' : Nat → Nat) (xa : Nat → ByteArray) (xm : Nat → Int) (day : Int) (mm : Nat → Nat) (ff : Nat → Nat → It)
    (hold : ∀ k, k < ne → dy' k = dy k ∧ ln' k = ln k ∧ ∀ j, j < ln k → la' k j = la k j ∧ lm' k j = lm k j) (hdy : dy' ne = day) (hln : ln' ne = n) (hla : ∀ j, j < n → la' ne j = xa j ∧ lm' ne j = xm j) (hin : ∀ l, l < n → isAt nm na (xa l) = true)
    (hI : ∀ i, i < na → (List.range (mm i)).map (ff i) = its dy la lm (nm i) ln ne) :
    ∀ i, i < na → (List.range (stM (fun l => lessN nm na (xa l)) mm n i)).map (stF (fun l => lessN nm na (xa l)) (fun l => ((ne : Int) + 1, day, xm l)) mm ff n i) = its dy' la' lm' (nm i) ln' (ne + 1) := by
  intro i hi
  rw [stF_map, hI i hi]
  simp only [its]
  rw [its_congr dy dy' la la' lm lm' ln ln' (nm i) ne hold, hln]
  congr 1
  rw [itsL_filter]
  have e1 : (List.range n).filter (fun l => decide (lessN nm na (xa l) = i)) = (List.range n).filter (fun l => (la' ne l).toList == (nm i).toList) := by
    apply List.filter_congr
    intro l hl
    have hl' : l < n := by simpa using hl
    rw [Bool.eq_iff_iff, decide_eq_true_iff, (hla l hl').1]
    exact line_for h (hin l hl') hi
  rw [e1]
  apply List.map_congr_left
  intro l hl
  have hl' : l < n := by have := (List.mem_filter.1 hl).1; simpa using this
  rw [(hla l hl').2, hdy]
/-- An account that has nothing: no entry speaks of it. -/
theorem its_none (dy : Nat → Int) (la : Nat → Nat → ByteArray) (lm : Nat → Nat → Int) (ln : Nat → Nat) (x : ByteArray) : ∀ n, (∀ k, k < n → ∀ j, j < ln k → la k j ≠ x) → its dy la lm x ln n = []
  | 0, _ => rfl
  | n + 1, h => by
    simp only [its]
    rw [its_none dy la lm ln x n (fun k hk => h k (by omega)), itsL_filter]
    have : (List.range (ln n)).filter (fun l => (la n l).toList == x.toList) = [] := List.filter_eq_nil_iff.2 (fun l hl => by
      have := h n (by omega) l (by simpa using hl)
      rw [Bool.not_eq_true, sEq_false]
      exact this)
    rw [this]; rfl
end Go.Proofs.YtjnmoddcodnadaaGreatDoor
namespace Go.Proofs.YtjnmoddcodnadaaGreatDoor
open Go.RowKit Go.Annal
set_option maxRecDepth 100000 in
set_option maxHeartbeats 1000000 in
theorem ItemsR_err (R ga ca na ne cE : Nat) (ada ade : Option Addr) (fn : Nat → ByteArray) (name : ByteArray) (d1 d2 known : Int) (w : World)
    (hA : AccsAt w R ga ca na ada fn) (hE : w.cell? ⟨R, 1, none⟩ = some (.slice ade ne cE)) (hbad : askErr (decide (0 ≤ atI fn na name)) (dayB d1 && dayB d2) (knownB known ne) ≠ 0) :
    Calls Tryz.prog 90 #[.pointer (some ⟨R, 0, none⟩), .string name, .int .i64 d1, .int .i64 d2, .int .i64 known] w fun r w' =>
      r = .returned (.tuple #[.slice none 0 0, .int .i64 (askErr (decide (0 ≤ atI fn na name)) (dayB d1 && dayB d2) (knownB known ne))]) ∧ w' = w := by
  have C1 : Hid (type_of% (hA.at name)) := hA.at name
  have C3 : Hid (type_of% (isKnown_b R ne cE ade known w hE)) := isKnown_b R ne cE ade known w hE
  clear hA hE
  generalize hu1 : dayB d1 = u1 at *
  generalize hu2 : dayB d2 = u2 at *
  generalize knownB known ne = v at *
  by_cases h1 : atI fn na name < 0
  · rw [show decide (0 ≤ atI fn na name) = false by simp; omega] at hbad ⊢
    generalize atI fn na name = t at *
    clear hbad
    go_enter Tryz.func90, Tryz.ntmps90
    go_wp2_with (first | (go_at_call 77; refine Calls.mono C1.out ?_; rintro e w' ⟨rfl, rfl⟩) | (go_at_call 82; refine Calls.mono (isDayR_any _ _) ?_; rintro e w' ⟨rfl, rfl⟩; simp only [hu1, hu2]) | (go_at_call 125; refine Calls.mono C3.out ?_; rintro e w' ⟨rfl, rfl⟩))
    go_ret2
    exact ⟨rfl, rfl⟩
  · rw [show decide (0 ≤ atI fn na name) = true by simp; omega] at hbad ⊢
    generalize atI fn na name = t at *
    cases u1 <;> cases u2 <;> cases v
    case true.true.true => exact absurd rfl hbad
    all_goals
      clear hbad
      go_enter Tryz.func90, Tryz.ntmps90
      go_wp2_with (first | (go_at_call 77; refine Calls.mono C1.out ?_; rintro e w' ⟨rfl, rfl⟩) | (go_at_call 82; refine Calls.mono (isDayR_any _ _) ?_; rintro e w' ⟨rfl, rfl⟩; simp only [hu1, hu2]) | (go_at_call 125; refine Calls.mono C3.out ?_; rintro e w' ⟨rfl, rfl⟩))
      go_ret2
      exact ⟨rfl, rfl⟩
set_option maxRecDepth 100000 in
set_option maxHeartbeats 1000000 in
theorem TrialR_err (R ne cE : Nat) (ade : Option Addr) (day known : Int) (w : World)
    (hE : w.cell? ⟨R, 1, none⟩ = some (.slice ade ne cE)) (hbad : viewE (dayB day) (knownB known ne) ≠ 0) :
    Calls Tryz.prog 86 #[.pointer (some ⟨R, 0, none⟩), .int .i64 day, .int .i64 known] w fun r w' =>
      r = .returned (.tuple #[.slice none 0 0, .int .i64 (viewE (dayB day) (knownB known ne))]) ∧ w' = w := by
  have C2 : Hid (type_of% (isDayR_any day w)) := isDayR_any day w
  have C3 : Hid (type_of% (isKnown_b R ne cE ade known w hE)) := isKnown_b R ne cE ade known w hE
  clear hE
  generalize dayB day = u at *
  generalize knownB known ne = v at *
  cases u <;> cases v
  case true.true => exact absurd rfl hbad
  all_goals
    clear hbad
    go_enter Tryz.func86, Tryz.ntmps86
    go_wp2_with (first | (go_at_call 82; refine Calls.mono C2.out ?_; rintro e w' ⟨rfl, rfl⟩) | (go_at_call 125; refine Calls.mono C3.out ?_; rintro e w' ⟨rfl, rfl⟩))
    go_ret2
    exact ⟨rfl, rfl⟩
end Go.Proofs.YtjnmoddcodnadaaGreatDoor
namespace Go.Annal
/-- A sum of the first n. -/
def sF (f : Nat → Int) : Nat → Int
  | 0 => 0
  | n + 1 => sF f n + f n
theorem sF_congr {f g : Nat → Int} : ∀ n, (∀ k, k < n → f k = g k) → sF f n = sF g n
  | 0, _ => rfl
  | n + 1, h => by simp only [sF]; rw [sF_congr n (fun k hk => h k (by omega)), h n (by omega)]
theorem sF_le {f g : Nat → Int} : ∀ n, (∀ k, k < n → f k ≤ g k) → sF f n ≤ sF g n
  | 0, _ => Int.le_refl _
  | n + 1, h => by
    have h1 := sF_le n (fun k hk => h k (by omega))
    have h2 := h n (by omega)
    simp only [sF]; omega
theorem sF_add (f g : Nat → Int) : ∀ n, sF (fun k => f k + g k) n = sF f n + sF g n
  | 0 => rfl
  | n + 1 => by simp only [sF]; rw [sF_add f g n]; omega
theorem sF_abs {f g : Nat → Int} : ∀ n, (∀ k, k < n → ((f k).natAbs : Int) ≤ g k) → ((sF f n).natAbs : Int) ≤ sF g n
  | 0, _ => by simp [sF]
  | n + 1, h => by
    have h1 := sF_abs n (fun k hk => h k (by omega))
    have h2 := h n (by omega)
    simp only [sF]; omega
/-- One place changed. -/
theorem sF_one {f g : Nat → Int} {e : Nat} : ∀ n, e < n → (∀ k, k < n → k ≠ e → f k = g k) → sF f n = sF g n - g e + f e
  | 0, h, _ => by omega
  | n + 1, he, h => by
    by_cases e' : e = n
    · subst e'
      have := sF_congr e (fun k hk => h k (by omega) (by omega))
      simp only [sF]; omega
    · have h1 := sF_one n (by omega) (fun k hk hne => h k (by omega) hne)
      have h2 := h n (by omega) (fun h => e' h.symm)
      simp only [sF]; omega
/-- What the entries up to a day make. -/
def upD (dy a : Nat → Int) (d : Int) (k : Nat) : Int := if dy k ≤ d then a k else 0
/-- What weighs yet: entries behind the last closing, and closings that may be reversed. -/
def wgh (dy a : Nat → Int) (gn K : Nat → Bool) (cd : Int) (k : Nat) : Int := if cd < dy k ∨ (K k = true ∧ gn k = false) then ((a k).natAbs : Int) else 0
def upd {α : Type} (f : Nat → α) (n : Nat) (v : α) (k : Nat) : α := if k = n then v else f k
theorem upd_same {α : Type} (f : Nat → α) (n : Nat) (v : α) : upd f n v n = v := if_pos rfl
theorem upd_ne {α : Type} (f : Nat → α) {n k : Nat} (v : α) (h : k ≠ n) : upd f n v k = f k := if_neg h
/-- Of a name that is no stock: what its entries can come to. -/
structure Lim1 (ne : Nat) (dy a : Nat → Int) (gn K : Nat → Bool) (cd : Int) : Prop where
  zero : sF (upD dy a cd) ne = 0
  phi : sF (wgh dy a gn K cd) ne ≤ 1000000000 * (ne : Int)
  one : ∀ k, k < ne → K k = false → gn k = false → ((a k).natAbs : Int) ≤ 1000000000
  old : ∀ k, k < ne → K k = true → dy k ≤ cd
theorem Lim1.new (dy a : Nat → Int) (gn K : Nat → Bool) (cd : Int) : Lim1 0 dy a gn K cd := ⟨rfl, by simp [sF], fun _ h => absurd h (Nat.not_lt_zero _), fun _ h => absurd h (Nat.not_lt_zero _)⟩
/-- An entry of someone's. -/
theorem Lim1.post {ne : Nat} {dy a : Nat → Int} {gn K : Nat → Bool} {cd : Int} (h : Lim1 ne dy a gn K cd) {day v : Int} (hd : cd < day) (hv : (v.natAbs : Int) ≤ 1000000000) :
    Lim1 (ne + 1) (upd dy ne day) (upd a ne v) (upd gn ne false) (upd K ne false) cd := by
  refine ⟨?_, ?_, fun k hk h1 h2 => ?_, fun k hk h1 => ?_⟩
  · have e := sF_congr (f := upD (upd dy ne day) (upd a ne v) cd) (g := upD dy a cd) ne (fun k hk => by simp only [upD, upd_ne _ _ (show k ≠ ne by omega)])
    have h0 := h.zero
    simp only [sF]; rw [e, h0]
    simp only [upD, upd_same]
    rw [if_neg (by omega)]; rfl
  · have e := sF_congr (f := wgh (upd dy ne day) (upd a ne v) (upd gn ne false) (upd K ne false) cd) (g := wgh dy a gn K cd) ne (fun k hk => by simp only [wgh, upd_ne _ _ (show k ≠ ne by omega)])
    have h0 := h.phi
    simp only [sF]; rw [e]
    simp only [wgh, upd_same]
    rw [if_pos (.inl hd)]
    omega
  · by_cases e : k = ne
    · subst e; rw [upd_same]; exact hv
    · rw [upd_ne _ _ e] at *; exact h.one k (by omega) h1 h2
  · by_cases e : k = ne
    · subst e; rw [upd_same] at h1; cases h1
    · rw [upd_ne _ _ e] at *; exact h.old k (by omega) h1
/-- The opposite of an entry. -/
theorem Lim1.rev {ne : Nat} {dy a : Nat → Int} {gn K : Nat → Bool} {cd : Int} (h : Lim1 ne dy a gn K cd) {e : Nat} (he : e < ne) (hg : gn e = false) {day v : Int} (hd : cd < day) (hv : v = - a e) :
    Lim1 (ne + 1) (upd dy ne day) (upd a ne v) (upd (upd gn e true) ne true) (upd K ne false) cd := by
  refine ⟨?_, ?_, fun k hk h1 h2 => ?_, fun k hk h1 => ?_⟩
  · have e' := sF_congr (f := upD (upd dy ne day) (upd a ne v) cd) (g := upD dy a cd) ne (fun k hk => by simp only [upD, upd_ne _ _ (show k ≠ ne by omega)])
    have h0 := h.zero
    simp only [sF]; rw [e', h0]
    simp only [upD, upd_same]
    rw [if_neg (by omega)]; rfl
  · have e' := sF_one (f := wgh (upd dy ne day) (upd a ne v) (upd (upd gn e true) ne true) (upd K ne false) cd) (g := wgh dy a gn K cd) ne he (fun k hk hke => by simp only [wgh, upd_ne _ _ (show k ≠ ne by omega), upd_ne _ _ hke])
    have h0 := h.phi
    simp only [sF]; rw [e']
    simp only [wgh, upd_same, upd_ne _ _ (show e ≠ ne by omega)]
    rw [if_pos (show cd < day ∨ false = true ∧ true = false from .inl hd), hg]
    cases hK : K e
    · have h1 := h.one e he hK hg
      by_cases hc : cd < dy e
      · simp only [hc, true_or, if_true]; omega
      · simp only [hc, false_or, Bool.false_eq_true, false_and, if_false]; omega
    · have h1 := h.old e he hK
      simp only [show ¬ cd < dy e by omega, false_or, and_self, if_true, Bool.true_eq_false, and_false, if_false]
      omega
  · by_cases e' : k = ne
    · subst e'; rw [upd_same] at h2; cases h2
    · rw [upd_ne _ _ e'] at *
      by_cases e2 : k = e
      · subst e2; rw [upd_same] at h2; cases h2
      · rw [upd_ne _ _ e2] at h2; exact h.one k (by omega) h1 h2
  · by_cases e' : k = ne
    · subst e'; rw [upd_same] at h1; cases h1
    · rw [upd_ne _ _ e'] at *; exact h.old k (by omega) h1
/-- What a closing takes weighs no less. -/
theorem Lim1.take {ne : Nat} {dy a : Nat → Int} {gn K : Nat → Bool} {cd : Int} (h : Lim1 ne dy a gn K cd) {day : Int} (hd : cd < day) :
    ((sF (upD dy a day) ne).natAbs : Int) + sF (wgh dy a gn K day) ne ≤ sF (wgh dy a gn K cd) ne := by
  have e1 : sF (upD dy a day) ne = sF (fun k => if cd < dy k ∧ dy k ≤ day then a k else 0) ne := by
    have e2 := sF_add (upD dy a cd) (fun k => if cd < dy k ∧ dy k ≤ day then a k else 0) ne
    rw [h.zero, Int.zero_add] at e2
    rw [← e2]
    refine sF_congr ne (fun k hk => ?_)
    simp only [upD]
    by_cases h1 : dy k ≤ cd
    · rw [if_pos (show dy k ≤ day by omega), if_pos h1, if_neg (by omega)]; omega
    · by_cases h2 : dy k ≤ day
      · rw [if_pos h2, if_neg h1, if_pos (by omega)]; omega
      · rw [if_neg h2, if_neg h1, if_neg (by omega)]; rfl
  rw [e1]
  have e3 := sF_abs (f := fun k => if cd < dy k ∧ dy k ≤ day then a k else 0) (g := fun k => if cd < dy k ∧ dy k ≤ day then ((a k).natAbs : Int) else 0) ne (fun k hk => by split <;> simp)
  have e4 := sF_add (fun k => if cd < dy k ∧ dy k ≤ day then ((a k).natAbs : Int) else 0) (wgh dy a gn K day) ne
  have e5 := sF_le (f := fun k => (if cd < dy k ∧ dy k ≤ day then ((a k).natAbs : Int) else 0) + wgh dy a gn K day k) (g := wgh dy a gn K cd) ne (fun k hk => by
    simp only [wgh]
    by_cases h1 : cd < dy k
    · have hK : K k = false := by
        cases hK : K k
        · rfl
        · have := h.old k hk hK; omega
      rw [hK]
      by_cases h2 : dy k ≤ day
      · simp only [h1, h2, and_self, if_true, true_or, show ¬ day < dy k by omega, false_or, Bool.false_eq_true, false_and, if_false]; omega
      · simp only [h1, h2, and_false, if_false, true_or, if_true, show day < dy k by omega]; omega
    · simp only [h1, false_and, if_false, false_or, show ¬ day < dy k by omega]; omega)
  omega
theorem Lim1.bd {ne : Nat} {dy a : Nat → Int} {gn K : Nat → Bool} {cd : Int} (h : Lim1 ne dy a gn K cd) {day : Int} (hd : cd < day) : ((sF (upD dy a day) ne).natAbs : Int) ≤ 1000000000 * (ne : Int) := by
  have h1 := h.take hd
  have h2 := h.phi
  have h3 : (0 : Int) ≤ sF (wgh dy a gn K day) ne := by
    have := sF_le (f := fun _ => 0) (g := wgh dy a gn K day) ne (fun k _ => by simp only [wgh]; split <;> omega)
    have h0 : ∀ n, sF (fun _ => 0) n = 0 := fun n => by
      induction n with
      | zero => rfl
      | succ n ih => simp only [sF]; rw [ih]; rfl
    rw [h0] at this; exact this
  omega
/-- A closing. -/
theorem Lim1.close {ne : Nat} {dy a : Nat → Int} {gn K : Nat → Bool} {cd : Int} (h : Lim1 ne dy a gn K cd) {day v : Int} (hd : cd < day) (hv : v = - sF (upD dy a day) ne) :
    Lim1 (ne + 1) (upd dy ne day) (upd a ne v) (upd gn ne false) (upd K ne true) day := by
  refine ⟨?_, ?_, fun k hk h1 h2 => ?_, fun k hk h1 => ?_⟩
  · have e := sF_congr (f := upD (upd dy ne day) (upd a ne v) day) (g := upD dy a day) ne (fun k hk => by simp only [upD, upd_ne _ _ (show k ≠ ne by omega)])
    simp only [sF]; rw [e]
    simp only [upD, upd_same]
    rw [if_pos (Int.le_refl _), hv]; omega
  · have e := sF_congr (f := wgh (upd dy ne day) (upd a ne v) (upd gn ne false) (upd K ne true) day) (g := wgh dy a gn K day) ne (fun k hk => by simp only [wgh, upd_ne _ _ (show k ≠ ne by omega)])
    have h0 := h.phi
    have h1 := h.take hd
    simp only [sF]; rw [e]
    simp only [wgh, upd_same]
    rw [if_pos (.inr ⟨by trivial, by trivial⟩), hv]
    omega
  · by_cases e : k = ne
    · subst e; rw [upd_same] at h1; cases h1
    · rw [upd_ne _ _ e] at *; exact h.one k (by omega) h1 h2
  · by_cases e : k = ne
    · subst e; rw [upd_same]; exact Int.le_refl _
    · rw [upd_ne _ _ e] at *; have := h.old k (by omega) h1; omega
end Go.Annal
namespace Go.Annal
def postE (day : Bool) (wrong : Int) (locked full : Bool) : Int := if !day then 5 else if wrong ≠ 0 then wrong else if locked then 11 else if full then 4 else 0
end Go.Annal
namespace Go.Proofs.YtjnmoddcodnadaaGreatDoor
open Go.RowKit Go.Annal
attribute [local go_sem ↓] Go.wp_at_zero Go.wp_at_succ

set_option maxRecDepth 100000 in
set_option maxHeartbeats 1000000 in
theorem PostR_day (R n cap : Nat) (lad : Option Addr) (day : Int) (w : World) (h : dayB day = false) :
    Calls Tryz.prog 80 #[.pointer (some ⟨R, 0, none⟩), .int .i64 day, .slice lad n cap] w fun r w' => r = .returned (.tuple #[.int .i64 0, .int .i64 5]) ∧ w' = w := by
  have C1 : Hid _ := isDayR_any day w
  rw [h] at C1
  go_enter Tryz.func80, Tryz.ntmps80
  go_wp2_with (go_at_call 82; refine Calls.mono C1.out ?_; rintro e wx ⟨rfl, hw⟩; rw [hw]; clear hw wx)
  go_ret2
  exact ⟨rfl, rfl⟩

set_option maxRecDepth 100000 in
set_option maxHeartbeats 1000000 in
/-- The lines, the lock, the number of entries: what they refuse. 'CW': what 'wrong' says. -/
theorem PostR_err (R n cap ne ce : Nat) (lad ade : Option Addr) (day E lk : Int) (w : World) (h : dayB day = true)
    (CW : Calls Tryz.prog 124 #[.pointer (some ⟨R, 0, none⟩), .slice lad n cap] w fun r w' => r = .returned (.int .i64 E) ∧ ∃ q, w' = w.drewN q)
    (cE : w.cell? ⟨R, 1, none⟩ = some (.slice ade ne ce)) (cL : w.cell? ⟨R, 2, none⟩ = some (.int .i64 lk)) (hne : ne ≤ 1000) (he : postE true E (decide (day ≤ lk)) (decide (60 ≤ ne)) ≠ 0) :
    Calls Tryz.prog 80 #[.pointer (some ⟨R, 0, none⟩), .int .i64 day, .slice lad n cap] w fun r w' => r = .returned (.tuple #[.int .i64 0, .int .i64 (postE true E (decide (day ≤ lk)) (decide (60 ≤ ne)))]) ∧ ∃ q, w' = w.drewN q := by
  have C1 : Hid _ := isDayR_any day w
  rw [h] at C1
  have C2 : Hid _ := CW
  clear CW
  by_cases h1 : E = 0
  · subst h1
    by_cases h2 : day ≤ lk
    · have e : Hid (postE true 0 (decide (day ≤ lk)) (decide (60 ≤ ne)) = 11) := by show postE _ _ _ _ = _; simp [postE, h2]
      generalize postE true 0 (decide (day ≤ lk)) (decide (60 ≤ ne)) = F at *
      clear he
      go_enter Tryz.func80, Tryz.ntmps80
      go_wp2_with (first | (go_at_call 82; refine Calls.mono C1.out ?_; rintro e wx ⟨rfl, hw⟩; rw [hw]; clear hw wx) | (go_at_call 124; refine Calls.mono C2.out ?_; rintro e wx ⟨rfl, q, hw⟩; rw [hw]; clear hw wx))
      go_ret2
      exact ⟨ret_ie rfl e.out.symm, _, rfl⟩
    · have h3 : 60 ≤ ne := by
        rcases Nat.lt_or_ge ne 60 with h | h
        · exfalso; apply he; simp [postE, h2]; omega
        · exact h
      have e : Hid (postE true 0 (decide (day ≤ lk)) (decide (60 ≤ ne)) = 4) := by show postE _ _ _ _ = _; simp [postE, h2, h3]
      have h3' : (60 : Int) ≤ (ne : Int) := by omega
      generalize postE true 0 (decide (day ≤ lk)) (decide (60 ≤ ne)) = F at *
      clear he
      go_enter Tryz.func80, Tryz.ntmps80
      go_wp2_with (first | (go_at_call 82; refine Calls.mono C1.out ?_; rintro e wx ⟨rfl, hw⟩; rw [hw]; clear hw wx) | (go_at_call 124; refine Calls.mono C2.out ?_; rintro e wx ⟨rfl, q, hw⟩; rw [hw]; clear hw wx))
      go_ret2
      exact ⟨ret_ie rfl e.out.symm, _, rfl⟩
  · have e : Hid (postE true E (decide (day ≤ lk)) (decide (60 ≤ ne)) = E) := by show postE _ _ _ _ = _; simp [postE, h1]
    have h1' : (E != 0) = true := by simpa using h1
    generalize postE true E (decide (day ≤ lk)) (decide (60 ≤ ne)) = F at *
    clear he
    go_enter Tryz.func80, Tryz.ntmps80
    go_wp2_with (first | (go_at_call 82; refine Calls.mono C1.out ?_; rintro e wx ⟨rfl, hw⟩; rw [hw]; clear hw wx) | (go_at_call 124; refine Calls.mono C2.out ?_; rintro e wx ⟨rfl, q, hw⟩; rw [hw]; clear hw wx))
    go_ret2
    exact ⟨ret_ie rfl e.out.symm, _, rfl⟩

/-- The cells of n lines. -/
def lineCells (xa : Nat → ByteArray) (xm : Nat → Int) (n : Nat) : List Value := cells2 ((List.range n).map (fun k => (xa k, xm k)))
theorem lineCells_len (xa : Nat → ByteArray) (xm : Nat → Int) (n : Nat) : (lineCells xa xm n).length = n * 2 := by simp [lineCells, cells2_len]
theorem cells2_drop (l : List Ln) (k : Nat) : (cells2 l).drop (k * 2) = cells2 (l.drop k) := by
  induction l generalizing k with
  | nil => simp [cells2]
  | cons x r ih =>
    cases k with
    | zero => simp [cells2]
    | succ k =>
      have := ih k
      simp only [cells2, List.flatMap_cons, List.drop_succ_cons] at *
      rw [show (k + 1) * 2 = (enc2 x).length + k * 2 by simp [enc2]; omega, List.drop_append, List.drop_of_length_le (by omega), Nat.add_sub_cancel_left, this, List.nil_append]
theorem cells2_get (l : List Ln) (j : Nat) (h : j < l.length) (o : Nat) (ho : o < 2) : (cells2 l)[j * 2 + o]? = (enc2 l[j])[o]? := by
  have h1 : (cells2 l)[j * 2 + o]? = ((cells2 l).drop (j * 2))[o]? := by rw [List.getElem?_drop]
  rw [h1, cells2_drop, List.drop_eq_getElem_cons h]
  simp only [cells2, List.flatMap_cons]
  rw [List.getElem?_append_left (by simp [enc2]; omega)]
theorem lineCells_a (xa : Nat → ByteArray) (xm : Nat → Int) (n k : Nat) (h : k < n) : (lineCells xa xm n)[k * 2]? = some (.string (xa k)) := by
  have := cells2_get ((List.range n).map (fun k => (xa k, xm k))) k (by simpa using h) 0 (by omega)
  simpa [lineCells, enc2] using this
theorem lineCells_m (xa : Nat → ByteArray) (xm : Nat → Int) (n k : Nat) (h : k < n) : (lineCells xa xm n)[k * 2 + 1]? = some (.int .i64 (xm k)) := by
  have := cells2_get ((List.range n).map (fun k => (xa k, xm k))) k (by simpa using h) 1 (by omega)
  simpa [lineCells, enc2] using this
end Go.Proofs.YtjnmoddcodnadaaGreatDoor
