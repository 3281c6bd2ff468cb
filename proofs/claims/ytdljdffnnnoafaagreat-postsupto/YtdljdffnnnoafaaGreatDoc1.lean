import Derived.Test.YtdljdffnnnoafaaGreatHst6
import Derived.Test.YtdljdffnnnoafaaGreatRef2
import Derived.Test.YtdljdffnnnoafaaGreatRef1
import Derived.Test.YtdljdffnnnoafaaGreatPrg4
import Derived.Test.YtdljdffnnnoafaaGreatPrg3
import Derived.Test.YtdljdffnnnoafaaGreatPrg1
import Derived.Test.YtdljdffnnnoafaaGreatRef6
set_option linter.unusedVariables false
set_option linter.unusedSimpArgs false
namespace Go.Annal
open Go.Proofs Go.Proofs.YtdljdffnnnoafaaGreat Go.Sort
variable (dy : Nat → Int) (la : Nat → Nat → ByteArray) (lm : Nat → Nat → Int) (x : ByteArray)
/-- What the first lines of an entry have for a name; what the first entries have. -/
def itsL (k : Nat) : Nat → List It
  | 0 => []
  | j + 1 => itsL k j ++ (if (la k j).toList == x.toList then [((k : Int) + 1, dy k, lm k j)] else [])
def its (ln : Nat → Nat) : Nat → List It
  | 0 => []
  | k + 1 => its ln k ++ itsL dy la lm x k (ln k)
theorem lnS_its (day : Int) (k : Nat) : ∀ j, lnS dy la lm x day k j = balI day (itsL dy la lm x k j)
  | 0 => rfl
  | j + 1 => by
    simp only [lnS, itsL, balI_append, lnS_its day k j, lnT]
    congr 1
    cases (la k j).toList == x.toList
    · simp [balI]
    · by_cases h : dy k ≤ day <;> simp [balI, h]
theorem enS_its (day : Int) (ln : Nat → Nat) : ∀ n, enS dy la lm x day ln n = balI day (its dy la lm x ln n)
  | 0 => rfl
  | k + 1 => by simp only [enS, its, balI_append, enS_its day ln k, lnS_its]
theorem itsL_num (k : Nat) : ∀ j, ∀ y ∈ itsL dy la lm x k j, y.1 = (k : Int) + 1
  | 0, y, h => by simp [itsL] at h
  | j + 1, y, h => by
    simp only [itsL, List.mem_append] at h
    rcases h with h | h
    · exact itsL_num k j y h
    · split at h
      · simp at h; rw [h]
      · simp at h
theorem its_num (ln : Nat → Nat) : ∀ n, ∀ y ∈ its dy la lm x ln n, 1 ≤ y.1 ∧ y.1 ≤ (n : Int)
  | 0, y, h => by simp [its] at h
  | k + 1, y, h => by
    simp only [its, List.mem_append] at h
    rcases h with h | h
    · have := its_num ln k y h; omega
    · have := itsL_num dy la lm x k _ y h; omega
theorem its_le (ln : Nat → Nat) (a : Nat) : ∀ n, a ≤ n → ∃ r, its dy la lm x ln n = its dy la lm x ln a ++ r ∧ ∀ y ∈ r, (a : Int) < y.1
  | 0, h => ⟨[], by obtain rfl : a = 0 := by omega
                    simp, by simp⟩
  | k + 1, h => by
    rcases Nat.eq_or_lt_of_le h with rfl | h
    · exact ⟨[], by simp, by simp⟩
    · obtain ⟨r, e, hr⟩ := its_le ln a k (by omega)
      refine ⟨r ++ itsL dy la lm x k (ln k), by simp only [its]; rw [e, List.append_assoc], fun y hy => ?_⟩
      rcases List.mem_append.1 hy with hy | hy
      · exact hr y hy
      · have := itsL_num dy la lm x k _ y hy; omega
/-- Of an entry in which no account stands twice there is one line for a name at most. -/
theorem itsL_one (k : Nat) (n : Nat) (h : ∀ a b, a < b → b < n → (la k a).toList ≠ (la k b).toList) : (itsL dy la lm x k n).length ≤ 1 ∧ ((∃ a, a < n ∧ (la k a).toList = x.toList) ∨ itsL dy la lm x k n = []) := by
  induction n with
  | zero => exact ⟨by simp [itsL], .inr rfl⟩
  | succ n ih =>
    obtain ⟨h1, h2⟩ := ih (fun a b hab hb => h a b hab (by omega))
    simp only [itsL]
    cases he : (la k n).toList == x.toList
    · simp only [Bool.false_eq_true, if_false, List.append_nil]
      exact ⟨h1, h2.imp (fun ⟨a, ha, e⟩ => ⟨a, by omega, e⟩) id⟩
    · have he' : (la k n).toList = x.toList := by simpa using he
      rcases h2 with ⟨a, ha, e⟩ | e
      · exact absurd (e.trans he'.symm) (h a n ha (by omega))
      · rw [e]
        exact ⟨by simp, .inl ⟨n, by omega, he'⟩⟩
theorem its_strict (ln : Nat → Nat) : ∀ n, (∀ k, k < n → ∀ a b, a < b → b < ln k → (la k a).toList ≠ (la k b).toList) → (its dy la lm x ln n).Pairwise (fun y z => y.1 < z.1)
  | 0, _ => List.Pairwise.nil
  | k + 1, h => by
    simp only [its]
    rw [List.pairwise_append]
    refine ⟨its_strict ln k (fun i hi => h i (by omega)), ?_, fun y hy z hz => ?_⟩
    · have := (itsL_one dy la lm x k (ln k) (h k (by omega))).1
      match hl : itsL dy la lm x k (ln k) with
      | [] => exact List.Pairwise.nil
      | [y] => exact List.pairwise_singleton _ _
      | y :: z :: r => rw [hl] at this; simp at this
    · have h1 := its_num dy la lm x ln k y hy
      have h2 := itsL_num dy la lm x k _ z hz
      omega
/-- The items that are known are those of the entries up to that number. -/
theorem known_its (ln : Nat → Nat) (n : Nat) (m : Nat) (f : Nat → It) (known : Int) (hf : (List.range m).map f = its dy la lm x ln n) (h0 : 0 ≤ known) (h1 : known ≤ n) :
    (List.range (cntKnown (fun i => (f i).1) m known)).map f = its dy la lm x ln known.toNat := by
  obtain ⟨r, e, hr⟩ := its_le dy la lm x ln known.toNat n (by omega)
  have hc : cntKnown (fun i => (f i).1) m known = (its dy la lm x ln known.toNat).length := by
    unfold cntKnown
    have e1 : (List.range m).countP (fun i => !decide (known < (f i).1)) = ((List.range m).map f).countP (fun y => !decide (known < y.1)) := by rw [List.countP_map]; rfl
    rw [e1, hf, e, List.countP_append]
    have e2 : r.countP (fun y => !decide (known < y.1)) = 0 := List.countP_eq_zero.2 (fun y hy => by have := hr y hy; simp; omega)
    have e3 : (its dy la lm x ln known.toNat).countP (fun y => !decide (known < y.1)) = (its dy la lm x ln known.toNat).length := List.countP_eq_length.2 (fun y hy => by have := its_num dy la lm x ln _ y hy; simp; omega)
    rw [e2, e3]; rfl
  have hm : m = (its dy la lm x ln n).length := by rw [← hf]; simp
  rw [hc]
  have e4 : (List.range (its dy la lm x ln known.toNat).length) = (List.range m).take (its dy la lm x ln known.toNat).length := by
    rw [List.take_range]
    congr 1
    rw [hm, e, List.length_append]
    omega
  rw [e4, List.map_take, hf, e, List.take_left]
theorem num_le (ln : Nat → Nat) (n : Nat) (m : Nat) (f : Nat → It) (hf : (List.range m).map f = its dy la lm x ln n) (h : ∀ k, k < n → ∀ a b, a < b → b < ln k → (la k a).toList ≠ (la k b).toList) : ∀ p q, p ≤ q → q < m → (f p).1 ≤ (f q).1 := by
  intro p q hpq hq
  rcases Nat.eq_or_lt_of_le hpq with rfl | hlt
  · exact Int.le_refl _
  · have h1 := its_strict dy la lm x ln n h
    rw [← hf, List.pairwise_map, List.pairwise_iff_getElem] at h1
    have := h1 p q (by simp; omega) (by simp; omega) hlt
    simp at this
    omega
/-- An item that comes behind all of a list's, by its number, is put into its place. -/
theorem ins_sorted (l : List It) (y : It) (hs : SortedBy (ltOf cfT) l) (hn : ∀ z ∈ l, z.1 ≤ y.1) : SortedBy (ltOf cfT) (ins l y) ∧ (ins l y).Perm (y :: l) := by
  have key : ∃ k, k ≤ l.length ∧ (∀ z ∈ l.drop k, y.2.1 < z.2.1) ∧ (∀ z ∈ l.take k, z.2.1 ≤ y.2.1) := by
    have hd : l.Pairwise (fun a b => a.2.1 ≤ b.2.1) := hs.imp (fun {a b} h => by rw [ltT] at h; simp [ordI] at h; omega)
    clear hs hn
    induction l with
    | nil => exact ⟨0, by simp, by simp, by simp⟩
    | cons a r ih =>
      rw [List.pairwise_cons] at hd
      by_cases ha : a.2.1 ≤ y.2.1
      · obtain ⟨k, h1, h2, h3⟩ := ih hd.2
        refine ⟨k + 1, by simp; omega, by simpa using h2, fun z hz => ?_⟩
        rw [List.take_succ_cons, List.mem_cons] at hz
        rcases hz with rfl | hz
        · exact ha
        · exact h3 z hz
      · refine ⟨0, by simp, fun z hz => ?_, by simp⟩
        rw [List.drop_zero, List.mem_cons] at hz
        rcases hz with rfl | hz
        · omega
        · have := hd.1 z hz; omega
  obtain ⟨k, hk, h1, h2⟩ := key
  rw [ins_eq l y k hk h1 (fun h => h2 _ (by rw [List.mem_take_iff_getElem]; exact ⟨k - 1, by omega, rfl⟩))]
  constructor
  · unfold SortedBy at *
    have hs' := hs
    rw [← List.take_append_drop k l, List.pairwise_append] at hs'
    obtain ⟨g1, g2, g3⟩ := hs'
    rw [List.pairwise_append, List.pairwise_cons]
    refine ⟨g1, ⟨fun z hz => ?_, g2⟩, fun z hz u hu => ?_⟩
    · have := h1 z hz
      rw [ltT]; simp [ordI]; omega
    · rw [List.mem_cons] at hu
      rcases hu with rfl | hu
      · have e1 := h2 z hz
        have e2 := hn z (List.mem_of_mem_take hz)
        rw [ltT]; simp [ordI]; omega
      · exact g3 z hz u hu
  · have := (List.perm_middle (a := y) (l₁ := l.take k) (l₂ := l.drop k))
    rwa [List.take_append_drop] at this
theorem lnI_its (d1 d2 : Int) (k : Nat) (l : List It) (hs : SortedBy (ltOf cfT) l) (hn : ∀ z ∈ l, z.1 ≤ (k : Int) + 1) : ∀ j,
    SortedBy (ltOf cfT) (lnI dy la lm x d1 d2 k j l) ∧ (lnI dy la lm x d1 d2 k j l).Perm (l ++ itmI d1 d2 (itsL dy la lm x k j)) ∧ (∀ z ∈ lnI dy la lm x d1 d2 k j l, z.1 ≤ (k : Int) + 1)
  | 0 => ⟨hs, by simp [itsL, itmI, lnI], hn⟩
  | j + 1 => by
    obtain ⟨h1, h2, h3⟩ := lnI_its d1 d2 k l hs hn j
    simp only [lnI, itsL, itmI_append]
    cases hx : (la k j).toList == x.toList
    · simp only [Bool.and_false, Bool.false_eq_true, if_false]
      exact ⟨h1, by simpa [itmI] using h2, h3⟩
    · cases hd : decide (d1 ≤ dy k) && decide (dy k ≤ d2)
      · simp only [Bool.false_and, Bool.false_eq_true, if_false]
        refine ⟨h1, ?_, h3⟩
        have : itmI d1 d2 [((k : Int) + 1, dy k, lm k j)] = [] := by simp only [itmI, List.filter_cons, hd]; rfl
        simp only [if_true, this, List.append_nil]
        exact h2
      · simp only [Bool.and_self, if_true]
        obtain ⟨g1, g2⟩ := ins_sorted _ ((k : Int) + 1, dy k, lm k j) h1 h3
        refine ⟨g1, ?_, fun z hz => ?_⟩
        · have : itmI d1 d2 [((k : Int) + 1, dy k, lm k j)] = [((k : Int) + 1, dy k, lm k j)] := by simp only [itmI, List.filter_cons, hd]; rfl
          rw [this, ← List.append_assoc]
          exact g2.trans ((List.Perm.cons _ h2).trans (List.perm_append_comm (l₁ := [((k : Int) + 1, dy k, lm k j)])))
        · rcases List.mem_cons.1 (g2.mem_iff.1 hz) with rfl | hz
          · exact Int.le_refl _
          · exact h3 z hz
theorem enI_its (d1 d2 : Int) (ln : Nat → Nat) : ∀ n, SortedBy (ltOf cfT) (enI dy la lm x d1 d2 ln n) ∧ (enI dy la lm x d1 d2 ln n).Perm (itmI d1 d2 (its dy la lm x ln n)) ∧ (∀ z ∈ enI dy la lm x d1 d2 ln n, z.1 ≤ (n : Int))
  | 0 => ⟨List.Pairwise.nil, by simp [enI, its, itmI], by simp [enI]⟩
  | k + 1 => by
    obtain ⟨h1, h2, h3⟩ := enI_its d1 d2 ln k
    obtain ⟨g1, g2, g3⟩ := lnI_its dy la lm x d1 d2 k (enI dy la lm x d1 d2 ln k) h1 (fun z hz => by have := h3 z hz; omega) (ln k)
    simp only [enI, its, itmI_append]
    exact ⟨g1, g2.trans (h2.append_right _), fun z hz => by have := g3 z hz; omega⟩
/-- Two lists in order of the same items, whose numbers differ, are one. -/
theorem items_same (d1 d2 : Int) (ln : Nat → Nat) (n : Nat) (h : ∀ k, k < n → ∀ a b, a < b → b < ln k → (la k a).toList ≠ (la k b).toList) (l' : List It) (hp : l'.Perm (itmI d1 d2 (its dy la lm x ln n))) (hs : SortedBy (ltOf cfT) l') :
    l' = enI dy la lm x d1 d2 ln n := by
  obtain ⟨g1, g2, _⟩ := enI_its dy la lm x d1 d2 ln n
  have hst : (itmI d1 d2 (its dy la lm x ln n)).Pairwise (fun y z => y.1 ≠ z.1) := ((its_strict dy la lm x ln n h).filter _).imp (fun {y z} h => by omega)
  have hu : ∀ y z, y ∈ itmI d1 d2 (its dy la lm x ln n) → z ∈ itmI d1 d2 (its dy la lm x ln n) → y.1 = z.1 → y = z := by
    intro y z hy hz e
    rw [List.pairwise_iff_getElem] at hst
    obtain ⟨i, hi, rfl⟩ := List.mem_iff_getElem.1 hy
    obtain ⟨j, hj, rfl⟩ := List.mem_iff_getElem.1 hz
    rcases Nat.lt_trichotomy i j with h | h | h
    · exact absurd e (hst i j hi hj h)
    · subst h; rfl
    · exact absurd e.symm (hst j i hj hi h)
  refine List.Perm.eq_of_pairwise ?_ hs g1 (hp.trans g2.symm)
  intro y z hy hz h1 h2
  apply hu y z (hp.mem_iff.1 hy) (g2.mem_iff.1 hz)
  rw [ltT] at h1 h2
  simp [ordI] at h1 h2
  omega
end Go.Annal
namespace Go.Proofs.YtdljdffnnnoafaaGreat
open Go.Annal
theorem range_snoc {α : Type} (m : Nat) (f : Nat → α) (v : α) : (List.range (m + 1)).map (fun j => if j = m then v else f j) = (List.range m).map f ++ [v] := by
  rw [List.range_succ, List.map_append]
  congr 1
  · apply List.map_congr_left
    intro j hj
    have : j ≠ m := by simp at hj; omega
    simp [this]
  · simp
/-- What an entry adds to an account's items. -/
theorem stF_map (p : Nat → Nat) (it : Nat → It) (mm : Nat → Nat) (ff : Nat → Nat → It) (i : Nat) : ∀ n,
    (List.range (stM p mm n i)).map (stF p it mm ff n i) = (List.range (mm i)).map (ff i) ++ ((List.range n).filter (fun l => decide (p l = i))).map it
  | 0 => by simp [stM, stF]
  | n + 1 => by
    have ih := stF_map p it mm ff i n
    rw [List.range_succ, List.filter_append, List.map_append, ← List.append_assoc, ← ih]
    by_cases h : i = p n
    · subst h
      simp only [stM, stF, if_true]
      rw [range_snoc]
      simp
    · have h' : ¬ p n = i := fun e => h e.symm
      simp only [stM, stF, if_neg h]
      simp [h']
theorem itsL_congr (dy dy' : Nat → Int) (la la' : Nat → Nat → ByteArray) (lm lm' : Nat → Nat → Int) (x : ByteArray) (k : Nat) (hd : dy' k = dy k) : ∀ n, (∀ j, j < n → la' k j = la k j ∧ lm' k j = lm k j) → itsL dy' la' lm' x k n = itsL dy la lm x k n
  | 0, _ => rfl
  | n + 1, h => by
    simp only [itsL]
    rw [itsL_congr dy dy' la la' lm lm' x k hd n (fun j hj => h j (by omega)), (h n (by omega)).1, (h n (by omega)).2, hd]
theorem its_congr (dy dy' : Nat → Int) (la la' : Nat → Nat → ByteArray) (lm lm' : Nat → Nat → Int) (ln ln' : Nat → Nat) (x : ByteArray) : ∀ n, (∀ k, k < n → dy' k = dy k ∧ ln' k = ln k ∧ ∀ j, j < ln k → la' k j = la k j ∧ lm' k j = lm k j) → its dy' la' lm' x ln' n = its dy la lm x ln n
  | 0, _ => rfl
  | n + 1, h => by
    simp only [its]
    rw [its_congr dy dy' la la' lm lm' ln ln' x n (fun k hk => h k (by omega)), (h n (by omega)).2.1, itsL_congr dy dy' la la' lm lm' x n (h n (by omega)).1 (ln n) (h n (by omega)).2.2]
theorem itsL_filter (dy : Nat → Int) (la : Nat → Nat → ByteArray) (lm : Nat → Nat → Int) (x : ByteArray) (k : Nat) : ∀ n, itsL dy la lm x k n = ((List.range n).filter (fun l => (la k l).toList == x.toList)).map (fun l => ((k : Int) + 1, dy k, lm k l))
  | 0 => rfl
  | n + 1 => by
    rw [List.range_succ, List.filter_append, List.map_append]
    simp only [itsL, itsL_filter dy la lm x k n]
    congr 1
    cases h : (la k n).toList == x.toList <;> simp [h]
/-- Which account a line is for. -/
theorem line_for {nm : Nat → ByteArray} {na : Nat} (h : Rise nm na) {x : ByteArray} (hx : isAt nm na x = true) {i : Nat} (hi : i < na) : (lessN nm na x = i) ↔ (x.toList == (nm i).toList) = true := by
  rw [sEq_iff]
  obtain ⟨h1, h2⟩ := isAt_eq hx
  constructor
  · rintro rfl; exact h2.symm
  · rintro rfl; exact lessN_at h hi
/-- The items of all accounts, behind one entry more. -/
theorem its_enter {nm : Nat → ByteArray} {na ne n : Nat} (h : Rise nm na) (dy dy' : Nat → Int) (la la' : Nat → Nat → ByteArray) (lm lm' : Nat → Nat → Int) (ln ln' : Nat → Nat) (xa : Nat → ByteArray) (xm : Nat → Int) (day : Int) (mm : Nat → Nat) (ff : Nat → Nat → It)
    (hold : ∀ k, k < ne → dy' k = dy k ∧ ln' k = ln k ∧ ∀ j, j < ln k → la' k j = la k j ∧ lm' k j = lm k j) (hdy : dy' ne = day) (hln : ln' ne = n) (hla : ∀ j, j < n → la' ne j = xa j ∧ lm' ne j = xm j) (hin : ∀ l, l < n → isAt nm na (xa l) = true)
    (hI : ∀ i, i < na → (List.range (mm i)).map (ff i) = its dy la lm (nm i) ln ne) :
    ∀ i, i < na → (List.range (stM (fun l => lessN nm na (xa l)) mm n i)).map (stF (fun l => lessN nm na (xa l)) (fun l => ((ne : Int) + 1, day, xm l)) mm ff n i) = its dy' la' lm' (nm i) ln' (ne + 1) := by
  intro i hi
  rw [stF_map, hI i hi]
  simp only [its]
  rw [its_congr dy dy' la la' lm lm' ln ln' (nm i) ne hold, hln]
  congr 1
  rw [itsL_filter]
  have e1 : (List.range n).filter (fun l => decide (lessN nm na (xa l) = i)) = (List.range n).filter (fun l => (la' ne l).toList == (nm i).toList) := by
    apply List.filter_congr
    intro l hl
    have hl' : l < n := by simpa using hl
    rw [Bool.eq_iff_iff, decide_eq_true_iff, (hla l hl').1]
    exact line_for h (hin l hl') hi
  rw [e1]
  apply List.map_congr_left
  intro l hl
  have hl' : l < n := by have := (List.mem_filter.1 hl).1; simpa using this
  rw [(hla l hl').2, hdy]
/-- An account that has nothing: no entry speaks of it. -/
theorem its_none (dy : Nat → Int) (la : Nat → Nat → ByteArray) (lm : Nat → Nat → Int) (ln : Nat → Nat) (x : ByteArray) : ∀ n, (∀ k, k < n → ∀ j, j < ln k → la k j ≠ x) → its dy la lm x ln n = []
  | 0, _ => rfl
  | n + 1, h => by
    simp only [its]
    rw [its_none dy la lm ln x n (fun k hk => h k (by omega)), itsL_filter]
    have : (List.range (ln n)).filter (fun l => (la n l).toList == x.toList) = [] := List.filter_eq_nil_iff.2 (fun l hl => by
      have := h n (by omega) l (by simpa using hl)
      rw [Bool.not_eq_true, sEq_false]
      exact this)
    rw [this]; rfl
end Go.Proofs.YtdljdffnnnoafaaGreat
namespace Go.Proofs.YtdljdffnnnoafaaGreat
open Go.RowKit Go.Annal
set_option maxRecDepth 100000 in
set_option maxHeartbeats 1000000 in
theorem ItemsR_err (R ga ca na ne cE : Nat) (ada ade : Option Addr) (fn : Nat → ByteArray) (name : ByteArray) (d1 d2 known : Int) (w : World)
    (hA : AccsAt w R ga ca na ada fn) (hE : w.cell? ⟨R, 1, none⟩ = some (.slice ade ne cE)) (hbad : askErr (decide (0 ≤ atI fn na name)) (dayB d1 && dayB d2) (knownB known ne) ≠ 0) :
    Calls Tryz.prog 45 #[.pointer (some ⟨R, 0, none⟩), .string name, .int .i64 d1, .int .i64 d2, .int .i64 known] w fun r w' =>
      r = .returned (.tuple #[.slice none 0 0, .int .i64 (askErr (decide (0 ≤ atI fn na name)) (dayB d1 && dayB d2) (knownB known ne))]) ∧ w' = w := by
  have C1 : Hid (type_of% (hA.at name)) := hA.at name
  have C3 : Hid (type_of% (isKnown_b R ne cE ade known w hE)) := isKnown_b R ne cE ade known w hE
  clear hA hE
  generalize hu1 : dayB d1 = u1 at *
  generalize hu2 : dayB d2 = u2 at *
  generalize knownB known ne = v at *
  by_cases h1 : atI fn na name < 0
  · rw [show decide (0 ≤ atI fn na name) = false by simp; omega] at hbad ⊢
    generalize atI fn na name = t at *
    clear hbad
    go_enter Tryz.func45, Tryz.ntmps45
    go_wp2_with (first | (go_at_call 30; refine Calls.mono C1.out ?_; rintro e w' ⟨rfl, rfl⟩) | (go_at_call 36; refine Calls.mono (isDayR_any _ _) ?_; rintro e w' ⟨rfl, rfl⟩; simp only [hu1, hu2]) | (go_at_call 64; refine Calls.mono C3.out ?_; rintro e w' ⟨rfl, rfl⟩))
    go_ret2
    exact ⟨rfl, rfl⟩
  · rw [show decide (0 ≤ atI fn na name) = true by simp; omega] at hbad ⊢
    generalize atI fn na name = t at *
    cases u1 <;> cases u2 <;> cases v
    case true.true.true => exact absurd rfl hbad
    all_goals
      clear hbad
      go_enter Tryz.func45, Tryz.ntmps45
      go_wp2_with (first | (go_at_call 30; refine Calls.mono C1.out ?_; rintro e w' ⟨rfl, rfl⟩) | (go_at_call 36; refine Calls.mono (isDayR_any _ _) ?_; rintro e w' ⟨rfl, rfl⟩; simp only [hu1, hu2]) | (go_at_call 64; refine Calls.mono C3.out ?_; rintro e w' ⟨rfl, rfl⟩))
      go_ret2
      exact ⟨rfl, rfl⟩
set_option maxRecDepth 100000 in
set_option maxHeartbeats 1000000 in
theorem TrialR_err (R ne cE : Nat) (ade : Option Addr) (day known : Int) (w : World)
    (hE : w.cell? ⟨R, 1, none⟩ = some (.slice ade ne cE)) (hbad : viewE (dayB day) (knownB known ne) ≠ 0) :
    Calls Tryz.prog 41 #[.pointer (some ⟨R, 0, none⟩), .int .i64 day, .int .i64 known] w fun r w' =>
      r = .returned (.tuple #[.slice none 0 0, .int .i64 (viewE (dayB day) (knownB known ne))]) ∧ w' = w := by
  have C2 : Hid (type_of% (isDayR_any day w)) := isDayR_any day w
  have C3 : Hid (type_of% (isKnown_b R ne cE ade known w hE)) := isKnown_b R ne cE ade known w hE
  clear hE
  generalize dayB day = u at *
  generalize knownB known ne = v at *
  cases u <;> cases v
  case true.true => exact absurd rfl hbad
  all_goals
    clear hbad
    go_enter Tryz.func41, Tryz.ntmps41
    go_wp2_with (first | (go_at_call 36; refine Calls.mono C2.out ?_; rintro e w' ⟨rfl, rfl⟩) | (go_at_call 64; refine Calls.mono C3.out ?_; rintro e w' ⟨rfl, rfl⟩))
    go_ret2
    exact ⟨rfl, rfl⟩
end Go.Proofs.YtdljdffnnnoafaaGreat
namespace Go.Annal
open Go.Proofs.YtdljdffnnnoafaaGreat
/-- What a book is, in the document's words: accounts in their order, entries, the last day that is locked. -/
structure St where
  na : Nat
  ne : Nat
  fn : Nat → ByteArray
  dy : Nat → Int
  ln : Nat → Nat
  la : Nat → Nat → ByteArray
  lm : Nat → Nat → Int
  lk : Int
def St.there (s : St) (x : ByteArray) : Bool := decide (0 ≤ atI s.fn s.na x)
structure St.Ok (s : St) : Prop where
  na : s.na ≤ 10
  ne : s.ne ≤ 60
  ln : ∀ k, k < s.ne → s.ln k ≤ 6
  tw : ∀ k, k < s.ne → ∀ a b, a < b → b < s.ln k → (s.la k a).toList ≠ (s.la k b).toList
  th : ∀ k, k < s.ne → ∀ j, j < s.ln k → s.there (s.la k j) = true
  bd : ∀ k, k < s.ne → ∀ j, j < s.ln k → -1000000000 ≤ s.lm k j ∧ s.lm k j ≤ 1000000000
def St.new : St := ⟨0, 0, fun _ => ⟨#[]⟩, fun _ => 0, fun _ => 0, fun _ _ => ⟨#[]⟩, fun _ _ => 0, -1⟩
theorem St.new_ok : St.new.Ok := ⟨by decide, by decide, fun k h => absurd h (Nat.not_lt_zero _), fun k h => absurd h (Nat.not_lt_zero _), fun k h => absurd h (Nat.not_lt_zero _), fun k h => absurd h (Nat.not_lt_zero _)⟩
def St.openE (s : St) (name : ByteArray) (kind : Int) : Int := Go.Annal.openE (isName name) (kindB kind) (s.there name) (decide (10 ≤ s.na))
def St.opened (s : St) (name : ByteArray) : St := { s with na := s.na + 1, fn := fun i => if i = s.na then name else s.fn i }
def St.afterOpen (s : St) (name : ByteArray) (kind : Int) : St := if s.openE name kind = 0 then s.opened name else s
def St.postE (s : St) (day : Int) (xa : Nat → ByteArray) (xm : Nat → Int) (n : Nat) : Int := Go.Annal.postE (dayB day) (wrongE s.there xa xm n) (decide (day ≤ s.lk)) (decide (60 ≤ s.ne))
def St.posted (s : St) (day : Int) (xa : Nat → ByteArray) (xm : Nat → Int) (n : Nat) : St :=
  { s with ne := s.ne + 1, dy := fun k => if k = s.ne then day else s.dy k, ln := fun k => if k = s.ne then n else s.ln k, la := fun k => if k = s.ne then xa else s.la k, lm := fun k => if k = s.ne then xm else s.lm k }
def St.afterPost (s : St) (day : Int) (xa : Nat → ByteArray) (xm : Nat → Int) (n : Nat) : St := if s.postE day xa xm n = 0 then s.posted day xa xm n else s
def St.postN (s : St) (day : Int) (xa : Nat → ByteArray) (xm : Nat → Int) (n : Nat) : Int := if s.postE day xa xm n = 0 then (s.ne : Int) + 1 else 0
def St.balE (s : St) (name : ByteArray) (day known : Int) : Int := askErr (s.there name) (dayB day) (knownB known s.ne)
def St.bal (s : St) (name : ByteArray) (day known : Int) : Int := okOr (s.balE name day known) (enS s.dy s.la s.lm name day s.ln known.toNat)
def St.trialE (s : St) (day known : Int) : Int := viewE (dayB day) (knownB known s.ne)
def St.trial (s : St) (day known : Int) : List Ln := if s.trialE day known = 0 then trL (fun x => enS s.dy s.la s.lm x day s.ln known.toNat) (nmS s.fn s.na) else []
def St.itemsE (s : St) (name : ByteArray) (d1 d2 known : Int) : Int := askErr (s.there name) (dayB d1 && dayB d2) (knownB known s.ne)
def St.items (s : St) (name : ByteArray) (d1 d2 known : Int) : List It := if s.itemsE name d1 d2 known = 0 then enI s.dy s.la s.lm name d1 d2 s.ln known.toNat else []
theorem openE_zero {a b c d : Bool} (h : Go.Annal.openE a b c d = 0) : a = true ∧ b = true ∧ c = false ∧ d = false := by
  revert h; cases a <;> cases b <;> cases c <;> cases d <;> decide
theorem postE_zero {a c d : Bool} {e : Int} (h : Go.Annal.postE a e c d = 0) : a = true ∧ e = 0 ∧ c = false ∧ d = false := by
  unfold Go.Annal.postE at h
  cases a
  · simp at h
  · by_cases he : e = 0
    · subst he; revert h; cases c <;> cases d <;> simp
    · simp [he] at h
theorem askErr_zero {a b c : Bool} (h : askErr a b c = 0) : a = true ∧ b = true ∧ c = true := by
  revert h; cases a <;> cases b <;> cases c <;> decide
theorem viewE_zero {a b : Bool} (h : viewE a b = 0) : a = true ∧ b = true := by
  revert h; cases a <;> cases b <;> decide
theorem knownB_yes {n : Int} {ne : Nat} (h : knownB n ne = true) : 0 ≤ n ∧ n ≤ ne := by
  unfold knownB at h; simpa using h
theorem kindB_yes {k : Int} (h : kindB k = true) : k = 0 ∨ k = 1 := by unfold kindB at h; simpa using h
theorem atI_opened (s : St) (name x : ByteArray) (h : s.there x = true) : (s.opened name).there x = true := by
  unfold St.there at *
  rw [decide_eq_true_iff] at *
  unfold atI at *
  cases hf : (List.range s.na).find? (fun i => (s.fn i).toList == x.toList) with
  | none => rw [hf] at h; simp at h
  | some i =>
    have h1 := List.find?_some hf
    have h2 := List.mem_of_find?_eq_some hf
    simp at h2
    cases hg : (List.range (s.opened name).na).find? (fun i => ((s.opened name).fn i).toList == x.toList) with
    | some j => simp
    | none =>
      rw [List.find?_eq_none] at hg
      have h3 := hg i (by simp [St.opened]; omega)
      simp only [St.opened, if_neg (show i ≠ s.na by omega)] at h3
      exact absurd h1 h3
theorem St.opened_ok {s : St} (h : s.Ok) (name : ByteArray) (hn : s.na < 10) : (s.opened name).Ok :=
  ⟨hn, h.ne, h.ln, h.tw, fun k hk j hj => atI_opened s name _ (h.th k hk j hj), h.bd⟩
theorem St.afterOpen_ok {s : St} (h : s.Ok) (name : ByteArray) (kind : Int) : (s.afterOpen name kind).Ok := by
  unfold St.afterOpen
  split
  · rename_i he
    have := (openE_zero he).2.2.2
    exact St.opened_ok h name (by simp at this; omega)
  · exact h
theorem anyN_no {n : Nat} {p : Nat → Bool} (h : anyN n p = false) {k : Nat} (hk : k < n) : p k = false := by
  cases hp : p k
  · rfl
  · rw [anyN_true hk hp] at h; cases h
/-- What lines are in which nothing is wrong. -/
theorem wrong_zero {there : ByteArray → Bool} {xa : Nat → ByteArray} {xm : Nat → Int} {n : Nat} (h : wrongE there xa xm n = 0) :
    2 ≤ n ∧ n ≤ 6 ∧ (∀ l, l < n → there (xa l) = true) ∧ (∀ a b, a < b → b < n → (xa a).toList ≠ (xa b).toList) ∧ (∀ l, l < n → -1000000000 ≤ xm l ∧ xm l ≤ 1000000000) := by
  unfold wrongE at h
  split at h
  · cases h
  · rename_i h1
    split at h
    · cases h
    · rename_i h2
      split at h
      · cases h
      · rename_i h3
        split at h
        · cases h
        · rename_i h4
          rw [Bool.not_eq_true] at h2 h3 h4
          refine ⟨by omega, by omega, fun l hl => ?_, fun a b hab hb e => ?_, fun l hl => ?_⟩
          · have := anyN_no h2 hl
            simpa using this
          · have := anyN_no (anyN_no h3 hb) hab
            simp at this
            exact this e.symm
          · have := anyN_no h4 hl
            simp only [badAmt, Bool.or_eq_false_iff, decide_eq_false_iff_not] at this
            omega
theorem St.posted_ok {s : St} (h : s.Ok) {day : Int} {xa : Nat → ByteArray} {xm : Nat → Int} {n : Nat} (hn : s.ne < 60) (hw : wrongE s.there xa xm n = 0) : (s.posted day xa xm n).Ok := by
  obtain ⟨h1, h2, h3, h4, h5⟩ := wrong_zero hw
  refine ⟨h.na, hn, fun k hk => ?_, fun k hk a b hab hb => ?_, fun k hk j hj => ?_, fun k hk j hj => ?_⟩
  · simp only [St.posted] at *
    by_cases e : k = s.ne
    · rw [if_pos e]; exact h2
    · rw [if_neg e]; exact h.ln k (by omega)
  · simp only [St.posted] at *
    by_cases e : k = s.ne
    · rw [if_pos e] at *; exact h4 a b hab hb
    · rw [if_neg e] at *; exact h.tw k (by omega) a b hab hb
  · simp only [St.posted] at *
    by_cases e : k = s.ne
    · rw [if_pos e] at *; exact h3 j hj
    · rw [if_neg e] at *; exact h.th k (by omega) j hj
  · simp only [St.posted] at *
    by_cases e : k = s.ne
    · rw [if_pos e] at *; exact h5 j hj
    · rw [if_neg e] at *; exact h.bd k (by omega) j hj
theorem St.afterPost_ok {s : St} (h : s.Ok) (day : Int) (xa : Nat → ByteArray) (xm : Nat → Int) (n : Nat) : (s.afterPost day xa xm n).Ok := by
  unfold St.afterPost
  split
  · rename_i he
    have := postE_zero he
    exact St.posted_ok h (by have := this.2.2.2; simp at this; omega) this.2.1
  · exact h
end Go.Annal
namespace Go.Proofs.YtdljdffnnnoafaaGreat
open Go.RowKit Go.Annal
def accCells (fn : Nat → ByteArray) (kd : Nat → Int) (n : Nat) : List Value := (List.range n).flatMap (fun i => [.string (fn i), .int .i64 (kd i)])
def entCells (dy : Nat → Int) (gl ln cl : Nat → Nat) (gn : Nat → Bool) (n : Nat) : List Value := (List.range n).flatMap (fun i => [.int .i64 (dy i), .slice (some ⟨gl i, 0, none⟩) (ln i) (cl i), .bool (gn i)])
theorem flat_len {α : Type} (c : Nat) (e : Nat → List α) (he : ∀ i, (e i).length = c) : ∀ n, ((List.range n).flatMap e).length = n * c
  | 0 => by simp
  | n + 1 => by rw [List.range_succ, List.flatMap_append, List.length_append, flat_len c e he n]; simp [he]; rw [Nat.succ_mul]
theorem flat_get {α : Type} (c : Nat) (e : Nat → List α) (he : ∀ i, (e i).length = c) : ∀ n i o, i < n → o < c → ((List.range n).flatMap e)[i * c + o]? = (e i)[o]?
  | 0, i, _, h, _ => by omega
  | n + 1, i, o, h, ho => by
    rw [List.range_succ, List.flatMap_append]
    by_cases hi : i < n
    · have h1 : (i + 1) * c ≤ n * c := Nat.mul_le_mul_right c hi
      rw [Nat.succ_mul] at h1
      rw [List.getElem?_append_left (by rw [flat_len c e he]; omega)]
      exact flat_get c e he n i o hi ho
    · obtain rfl : i = n := by omega
      rw [List.getElem?_append_right (by rw [flat_len c e he]; omega), flat_len c e he]
      simp
theorem flat_congr {α : Type} (e e' : Nat → List α) (n : Nat) (h : ∀ i, i < n → e' i = e i) : (List.range n).flatMap e' = (List.range n).flatMap e := by
  induction n with
  | zero => rfl
  | succ n ih => rw [List.range_succ, List.flatMap_append, List.flatMap_append, ih (fun i hi => h i (by omega))]; simp [h n (by omega)]
/-- The document's book lies at R; Fd: its blocks of memory. -/
structure DocAt (w : World) (R : Nat) (s : St) (ada ade : Option Addr) (ca ce : Nat) (t : ByteArray) (kd : Nat → Int) (gl cl : Nat → Nat) (gn : Nat → Bool) : Prop where
  bk : w.heap[R]? = some (.cells #[.slice ada s.na ca, .slice ade s.ne ce, .int .i64 s.lk, .string t] 60 (0, 0))
  ac : w.ownsRow 0 84 2 (.slice ada s.na ca) s.na (accCells s.fn kd s.na)
  en : w.ownsRow 0 89 3 (.slice ade s.ne ce) s.ne (entCells s.dy gl s.ln cl gn s.ne)
  li : ∀ k, k < s.ne → w.ownsRow 0 38 2 (.slice (some ⟨gl k, 0, none⟩) (s.ln k) (cl k)) (s.ln k) (lineCells (s.la k) (s.lm k) (s.ln k))
  tx : t.size ≤ 8000000000 * s.ne + 1100000000 * s.na
def docFoot (R : Nat) (ada ade : Option Addr) (ca ce na ne : Nat) (gl : Nat → Nat) (k : Nat) : Prop := k = R ∨ (Value.slice ada na ca).ownBlock = some k ∨ (Value.slice ade ne ce).ownBlock = some k ∨ ∃ i, i < ne ∧ k = gl i
def DocIs (w : World) (R : Nat) (s : St) (Fd : Nat → Prop) : Prop := ∃ ada ade ca ce t kd gl cl gn, DocAt w R s ada ade ca ce t kd gl cl gn ∧ (∀ k, Fd k ↔ docFoot R ada ade ca ce s.na s.ne gl k)
theorem DocIs.turn {w w' : World} {R : Nat} {s : St} {Fd : Nat → Prop} (h : DocIs w R s Fd) {S : Nat → Prop} (ht : Turn S w w') (hs : ∀ k, Fd k → ¬ S k) : DocIs w' R s Fd := by
  obtain ⟨ada, ade, ca, ce, t, kd, gl, cl, gn, h1, h2⟩ := h
  refine ⟨ada, ade, ca, ce, t, kd, gl, cl, gn, ⟨ht.blk h1.bk (hs R ((h2 R).2 (.inl rfl))), owns_turn h1.ac ht (fun g e => hs g ((h2 g).2 (.inr (.inl e)))), owns_turn h1.en ht (fun g e => hs g ((h2 g).2 (.inr (.inr (.inl e))))), fun k hk => owns_turn (h1.li k hk) ht (fun g e => hs g ((h2 g).2 (.inr (.inr (.inr ⟨k, hk, (Option.some.inj e).symm⟩))))), h1.tx⟩, h2⟩
theorem DocIs.kind {w : World} {R : Nat} {s : St} {Fd : Nat → Prop} (h : DocIs w R s Fd) {k : Nat} (hk : Fd k) : ∃ cs t, w.heap[k]? = some (.cells cs t (0, 0)) ∧ (t = 60 ∨ t = 84 ∨ t = 89 ∨ t = 38) := by
  obtain ⟨ada, ade, ca, ce, t, kd, gl, cl, gn, h1, h2⟩ := h
  have hrow : ∀ {e : TypeId} {sz n : Nat} {v : Value} {xs : List Value}, w.ownsRow 0 e sz v n xs → v.ownBlock = some k → ∃ cs, w.heap[k]? = some (.cells cs e (0, 0)) := by
    intro e sz n v xs ho hb
    rcases ho.2 with ⟨rfl, _⟩ | ⟨g, c, cur, rfl, _, hg, _⟩
    · simp [Value.ownBlock] at hb
    · simp [Value.ownBlock] at hb; subst hb; exact ⟨_, hg⟩
  rcases (h2 k).1 hk with rfl | hb | hb | ⟨i, hi, rfl⟩
  · exact ⟨_, _, h1.bk, .inl rfl⟩
  · obtain ⟨cs, hc⟩ := hrow h1.ac hb; exact ⟨cs, _, hc, .inr (.inl rfl)⟩
  · obtain ⟨cs, hc⟩ := hrow h1.en hb; exact ⟨cs, _, hc, .inr (.inr (.inl rfl))⟩
  · obtain ⟨cs, hc⟩ := hrow (h1.li i hi) rfl; exact ⟨cs, _, hc, .inr (.inr (.inr rfl))⟩
theorem DocAt.accs {w : World} {R : Nat} {s : St} {ada ade : Option Addr} {ca ce : Nat} {t : ByteArray} {kd : Nat → Int} {gl cl : Nat → Nat} {gn : Nat → Bool} (h : DocAt w R s ada ade ca ce t kd gl cl gn) (ho : s.Ok) : ∃ ga, AccsAt w R ga ca s.na ada s.fn := by
  have hna := ho.na
  rcases h.ac.2 with ⟨e, h0⟩ | ⟨g, c, cur, e, _⟩
  · exact ⟨0, blk_cell' h.bk (o := 0) rfl, fun h => by omega, fun i hi => by omega, by omega⟩
  · injection e with e1 _ e3
    subst e1; subst e3
    refine ⟨g, blk_cell' h.bk (o := 0) rfl, fun _ => rfl, fun i hi => ?_, by omega⟩
    have h1 := h.ac.cellAt (i * 2) (by omega)
    have h2 := flat_get 2 (fun i => [Value.string (s.fn i), .int .i64 (kd i)]) (fun _ => rfl) s.na i 0 hi (by omega)
    rw [Nat.add_zero] at h2
    unfold accCells at h1
    rw [h2] at h1
    exact h1
theorem DocAt.ents {w : World} {R : Nat} {s : St} {ada ade : Option Addr} {ca ce : Nat} {t : ByteArray} {kd : Nat → Int} {gl cl : Nat → Nat} {gn : Nat → Bool} (h : DocAt w R s ada ade ca ce t kd gl cl gn) (ho : s.Ok) : ∃ ge, EntsAt w R ge ce s.ne ade s.dy gl s.ln cl s.la s.lm := by
  have hne := ho.ne
  have hli : ∀ k, k < s.ne → ∀ j, j < s.ln k → ∀ o, o < 2 → w.cell? ⟨gl k, j * 2 + o, none⟩ = (lineCells (s.la k) (s.lm k) (s.ln k))[j * 2 + o]? := fun k hk j hj o ho => (h.li k hk).cellAt (j * 2 + o) (by omega)
  have hsm : ∀ i, i < s.ne → s.ln i ≤ 100 := fun i hi => by have := ho.ln i hi; omega
  have hbd : ∀ i, i < s.ne → ∀ k, k < s.ln i → -1000000000000 ≤ s.lm i k ∧ s.lm i k ≤ 1000000000000 := fun i hi k hk => by have := ho.bd i hi k hk; omega
  have hca : ∀ i, i < s.ne → ∀ k, k < s.ln i → w.cell? ⟨gl i, k * 2, none⟩ = some (.string (s.la i k)) := fun i hi k hk => (hli i hi k hk 0 (by omega)).trans (lineCells_a _ _ _ _ hk)
  have hcm : ∀ i, i < s.ne → ∀ k, k < s.ln i → w.cell? ⟨gl i, k * 2 + 1, none⟩ = some (.int .i64 (s.lm i k)) := fun i hi k hk => (hli i hi k hk 1 (by omega)).trans (lineCells_m _ _ _ _ hk)
  rcases h.en.2 with ⟨e, h0⟩ | ⟨g, c, cur, e, _⟩
  · exact ⟨0, blk_cell' h.bk (o := 1) rfl, fun h => by omega, fun i hi => by omega, fun i hi => by omega, fun i hi => by omega, hca, hcm, hsm, hbd, by omega⟩
  · injection e with e1 _ e3
    subst e1; subst e3
    have hc : ∀ i, i < s.ne → ∀ o, o < 3 → w.cell? ⟨g, i * 3 + o, none⟩ = ([Value.int .i64 (s.dy i), .slice (some ⟨gl i, 0, none⟩) (s.ln i) (cl i), .bool (gn i)])[o]? := fun i hi o ho => by
      have h1 := h.en.cellAt (i * 3 + o) (by omega)
      unfold entCells at h1
      rw [flat_get 3 (fun i => [Value.int .i64 (s.dy i), .slice (some ⟨gl i, 0, none⟩) (s.ln i) (cl i), .bool (gn i)]) (fun _ => rfl) s.ne i o hi ho] at h1
      exact h1
    exact ⟨g, blk_cell' h.bk (o := 1) rfl, fun _ => rfl, fun i hi => hc i hi 0 (by omega), fun i hi => hc i hi 1 (by omega), fun i hi => ⟨_, hc i hi 2 (by omega)⟩, hca, hcm, hsm, hbd, by omega⟩
theorem lt_of_own {w : World} {B : Nat} {e : TypeId} {sz n k : Nat} {v : Value} {xs : List Value} (h : w.ownsRow B e sz v n xs) (hb : v.ownBlock = some k) : k < w.heap.size := (h.lt k hb).2
/-- Open of the document's book. -/
theorem docOpen (R : Nat) (s : St) (Fd : Nat → Prop) (name : ByteArray) (kind : Int) (w : World) (h : DocIs w R s Fd) (ho : s.Ok) (hs : name.size ≤ 1000000000) :
    Calls Tryz.prog 12 #[.pointer (some ⟨R, 0, none⟩), .string name, .int .i64 kind] w fun r w' => r = .returned (.int .i64 (s.openE name kind)) ∧ ∃ Fd', DocIs w' R (s.afterOpen name kind) Fd' ∧ Turn Fd w w' ∧ ∀ k, Fd' k → Fd k ∨ w.heap.size ≤ k := by
  obtain ⟨ada, ade, ca, ce, t, kd, gl, cl, gn, h1, h2⟩ := h
  obtain ⟨ga, hA⟩ := h1.accs ho
  by_cases he : s.openE name kind = 0
  · have hz := openE_zero he
    have h3 : atI s.fn s.na name < 0 := by have := hz.2.2.1; unfold St.there at this; simp at this; omega
    have h4 : s.na < 10 := by have := hz.2.2.2; simp at this; omega
    have hne := ho.ne
    have htx := h1.tx
    refine (OpenR_ok R ga ca s.na _ _ _ t ada s.fn _ name kind w hA hs (by omega) h1.bk h1.ac hz.1 (kindB_yes hz.2.1) h3 h4).mono ?_
    rintro r w' ⟨rfl, g, cap, t', ht', hR', hown', hT, hg⟩
    refine ⟨by rw [he], docFoot R (some ⟨g, 0, none⟩) ade cap ce (s.na + 1) s.ne gl, ?_, hT.mono (fun k _ hk => (h2 k).2 (hk.elim .inl (fun h => .inr (.inl h)))), ?_⟩
    · unfold St.afterOpen
      rw [if_pos he]
      have hnk : ∀ k, (k = R ∨ (Value.slice ada s.na ca).ownBlock = some k) → ∀ {e : TypeId} {sz n : Nat} {v : Value} {xs : List Value}, w.ownsRow 0 e sz v n xs → e ≠ 60 → e ≠ 84 → v.ownBlock ≠ some k := by
        intro k hk e sz n v xs hv e1 e2 hb
        obtain ⟨c, fz, hc⟩ := owns_kind hv k hb
        rcases hk with rfl | hk
        · rw [h1.bk] at hc; simp at hc; exact e1 hc.2.1.symm
        · obtain ⟨c', fz', hc'⟩ := owns_kind h1.ac k hk
          rw [hc] at hc'; simp at hc'; exact e2 hc'.2.1
      refine ⟨some ⟨g, 0, none⟩, ade, cap, ce, t', fun i => if i = s.na then kind else kd i, gl, cl, gn, ⟨hR', ?_, owns_turn h1.en hT (fun k e hk => hnk k hk h1.en (by decide) (by decide) e), fun k hk => owns_turn (h1.li k hk) hT (fun x e hx => hnk x hx (h1.li k hk) (by decide) (by decide) e), ?_⟩, fun k => Iff.rfl⟩
      · have e1 : accCells (s.opened name).fn (fun i => if i = s.na then kind else kd i) (s.na + 1) = accCells s.fn kd s.na ++ [.string name, .int .i64 kind] := by
          unfold accCells
          rw [List.range_succ, List.flatMap_append]
          congr 1
          · apply flat_congr
            intro i hi
            simp only [St.opened, if_neg (show i ≠ s.na by omega)]
          · simp [St.opened]
        show w'.ownsRow 0 _ 2 _ (s.na + 1) (accCells (s.opened name).fn _ (s.na + 1))
        rw [e1]
        exact hown'
      · show t'.size ≤ 8000000000 * s.ne + 1100000000 * (s.na + 1)
        omega
    · intro k hk
      rcases hk with rfl | hb | hb | hb
      · exact .inl ((h2 _).2 (.inl rfl))
      · have : g = k := Option.some.inj hb
        subst this
        rcases hg with hg | hg
        · exact .inl ((h2 _).2 (.inr (.inl hg)))
        · exact .inr hg
      · exact .inl ((h2 _).2 (.inr (.inr (.inl hb))))
      · exact .inl ((h2 _).2 (.inr (.inr (.inr hb))))
  · refine (OpenR_err R ga ca s.na ada s.fn name kind w hA hs he).mono ?_
    rintro r w' ⟨rfl, rfl⟩
    refine ⟨rfl, Fd, ?_, Turn.refl _ _, fun k hk => .inl hk⟩
    unfold St.afterOpen
    rw [if_neg he]
    exact ⟨ada, ade, ca, ce, t, kd, gl, cl, gn, h1, h2⟩
end Go.Proofs.YtdljdffnnnoafaaGreat
namespace Go.Proofs.YtdljdffnnnoafaaGreat
open Go.RowKit Go.Annal
theorem below_drewN (w : World) (q : Nat) : Below w.heap.size w (w.drewN q) := ((Grew.refl w).drewN q).below
/-- A list of lines that is handed in. -/
structure LinesV (w : World) (lad : Option Addr) (n cap : Nat) (xa : Nat → ByteArray) (xm : Nat → Int) : Prop where
  le : n ≤ cap
  few : n ≤ 1000000000
  sm : ∀ k, k < n → (xa k).size ≤ 1000000000
  ls : 0 < n → ∃ lg lo, lad = some ⟨lg, lo, none⟩ ∧ LinesAt w lg lo n xa xm
theorem LinesV.mv {w w' : World} {lad : Option Addr} {n cap : Nat} {xa : Nat → ByteArray} {xm : Nat → Int} (h : LinesV w lad n cap xa xm) (hb : Below w.heap.size w w') : LinesV w' lad n cap xa xm :=
  ⟨h.le, h.few, h.sm, fun hn => by obtain ⟨lg, lo, e, hL⟩ := h.ls hn; exact ⟨lg, lo, e, hL.mv hb⟩⟩
theorem St.postE_day {s : St} {day : Int} {xa : Nat → ByteArray} {xm : Nat → Int} {n : Nat} (h : dayB day = false) : s.postE day xa xm n = 5 := by unfold St.postE Go.Annal.postE; rw [h]; rfl
theorem St.postE_len {s : St} {day : Int} {xa : Nat → ByteArray} {xm : Nat → Int} {n : Nat} (h : dayB day = true) (hn : n < 2 ∨ 6 < n) : s.postE day xa xm n = 6 := by
  unfold St.postE Go.Annal.postE wrongE
  rw [h, if_pos hn]; rfl
/-- Post of the document's book. -/
theorem docPost (R : Nat) (s : St) (Fd : Nat → Prop) (day : Int) (lad : Option Addr) (n cap : Nat) (xa : Nat → ByteArray) (xm : Nat → Int) (w : World) (h : DocIs w R s Fd) (ho : s.Ok) (hL : LinesV w lad n cap xa xm) :
    Calls Tryz.prog 34 #[.pointer (some ⟨R, 0, none⟩), .int .i64 day, .slice lad n cap] w fun r w' => r = .returned (.tuple #[.int .i64 (s.postN day xa xm n), .int .i64 (s.postE day xa xm n)]) ∧ ∃ Fd', DocIs w' R (s.afterPost day xa xm n) Fd' ∧ Turn Fd w w' ∧ ∀ k, Fd' k → Fd k ∨ w.heap.size ≤ k := by
  have hkeep : ∀ w', Below w.heap.size w w' → s.postE day xa xm n ≠ 0 → ∃ Fd', DocIs w' R (s.afterPost day xa xm n) Fd' ∧ Turn Fd w w' ∧ ∀ k, Fd' k → Fd k ∨ w.heap.size ≤ k := fun w' hb he => by
    refine ⟨Fd, ?_, Turn.of_below hb, fun k hk => .inl hk⟩
    unfold St.afterPost
    rw [if_neg he]
    exact h.turn (S := fun _ => False) (Turn.of_below hb) (fun _ _ h => h)
  have hN : s.postE day xa xm n ≠ 0 → s.postN day xa xm n = 0 := fun he => by unfold St.postN; rw [if_neg he]
  cases hd : dayB day
  · have he := St.postE_day (s := s) (xa := xa) (xm := xm) (n := n) hd
    refine (PostR_day R n cap lad day w hd).mono ?_
    rintro r w' ⟨rfl, rfl⟩
    exact ⟨by rw [hN (by rw [he]; decide), he], hkeep _ (Below.refl _ _) (by rw [he]; decide)⟩
  · obtain ⟨ada, ade, ca, ce, t, kd, gl, cl, gn, h1, h2⟩ := id h
    have hne := ho.ne
    have cE := blk_cell' h1.bk (o := 1) rfl
    have cL := blk_cell' h1.bk (o := 2) rfl
    by_cases hn : n < 2 ∨ 6 < n
    · have he := St.postE_len (s := s) (xa := xa) (xm := xm) hd hn
      have hfew := hL.few
      have he' : Go.Annal.postE true 6 (decide (day ≤ s.lk)) (decide (60 ≤ s.ne)) = 6 := rfl
      have CW := (wrong_len R n cap lad w hn (by omega)).mono (R' := fun r w' => r = .returned (.int .i64 6) ∧ ∃ q, w' = w.drewN q) (by rintro r w' ⟨rfl, rfl⟩; exact ⟨rfl, 0, rfl⟩)
      refine (PostR_err R n cap s.ne ce lad ade day 6 s.lk w hd CW cE cL (by omega) (by rw [he']; decide)).mono ?_
      rintro r w' ⟨rfl, q, rfl⟩
      exact ⟨by rw [hN (by rw [he]; decide), he, he'], hkeep _ (below_drewN w q) (by rw [he]; decide)⟩
    · obtain ⟨lg, lo, rfl, hLA⟩ := hL.ls (by omega)
      obtain ⟨ga, hA⟩ := h1.accs ho
      have CW := wrong_any R ga ca s.na n cap lg lo ada s.fn xa xm w hA hLA (by omega) (by omega)
      have hE : s.postE day xa xm n = Go.Annal.postE true (wrongE (fun x => decide (0 ≤ atI s.fn s.na x)) xa xm n) (decide (day ≤ s.lk)) (decide (60 ≤ s.ne)) := by unfold St.postE; rw [hd]; rfl
      by_cases he : s.postE day xa xm n = 0
      · have hz := postE_zero (hE ▸ he)
        rw [hz.2.1] at CW
        have hw := wrong_zero hz.2.1
        have htx := h1.tx
        have hna := ho.na
        have hlk : ¬ day ≤ s.lk := by have := hz.2.2.1; simpa using this
        have hn60 : s.ne < 60 := by have := hz.2.2.2; simp at this; omega
        refine (PostR_ok R n cap s.ne ce lg lo _ ade _ xa xm day s.lk t w hd CW h1.bk h1.en hLA (by omega) (by omega) hL.sm hw.2.2.2.2 (by omega) hlk hn60).mono ?_
        rintro r w' ⟨rfl, g, cap', gl', cl', t', ht', hR', hown', hli', hT, hg⟩
        refine ⟨?_, docFoot R ada (some ⟨g, 0, none⟩) ca cap' s.na (s.ne + 1) (fun k => if k = s.ne then gl' else gl k), ?_, hT.mono (fun k _ hk => (h2 k).2 (hk.elim .inl (fun h => .inr (.inr (.inl h))))), ?_⟩
        · have : s.postN day xa xm n = ((s.ne + 1 : Nat) : Int) := by unfold St.postN; rw [if_pos he]; omega
          rw [he, this]
        · unfold St.afterPost
          rw [if_pos he]
          have hnk : ∀ k, (k = R ∨ (Value.slice ade s.ne ce).ownBlock = some k) → ∀ {e : TypeId} {sz n : Nat} {v : Value} {xs : List Value}, w.ownsRow 0 e sz v n xs → e ≠ 60 → e ≠ 89 → v.ownBlock ≠ some k := by
            intro k hk e sz n v xs hv e1 e2 hb
            obtain ⟨c, fz, hc⟩ := owns_kind hv k hb
            rcases hk with rfl | hk
            · rw [h1.bk] at hc; simp at hc; exact e1 hc.2.1.symm
            · obtain ⟨c', fz', hc'⟩ := owns_kind h1.en k hk
              rw [hc] at hc'; simp at hc'; exact e2 hc'.2.1
          refine ⟨ada, some ⟨g, 0, none⟩, ca, cap', t', kd, fun k => if k = s.ne then gl' else gl k, fun k => if k = s.ne then cl' else cl k, fun k => if k = s.ne then false else gn k, ⟨hR', owns_turn h1.ac hT (fun k e hk => hnk k hk h1.ac (by decide) (by decide) e), ?_, fun k hk => ?_, ?_⟩, fun k => Iff.rfl⟩
          · have e1 : entCells (s.posted day xa xm n).dy (fun k => if k = s.ne then gl' else gl k) (s.posted day xa xm n).ln (fun k => if k = s.ne then cl' else cl k) (fun k => if k = s.ne then false else gn k) (s.ne + 1) = entCells s.dy gl s.ln cl gn s.ne ++ [.int .i64 day, .slice (some ⟨gl', 0, none⟩) n cl', .bool false] := by
              unfold entCells
              rw [List.range_succ, List.flatMap_append]
              congr 1
              · apply flat_congr
                intro i hi
                simp only [St.posted, if_neg (show i ≠ s.ne by omega)]
              · simp [St.posted]
            show w'.ownsRow 0 _ 3 _ (s.ne + 1) (entCells (s.posted day xa xm n).dy _ (s.posted day xa xm n).ln _ _ (s.ne + 1))
            rw [e1]
            exact hown'
          · by_cases ek : k = s.ne
            · subst ek
              simp only [St.posted, if_true]
              exact owns_le hli' (Nat.zero_le _)
            · have hk' : k < s.ne := by simp only [St.posted] at hk; omega
              simp only [St.posted, if_neg ek]
              exact owns_turn (h1.li k hk') hT (fun x e hx => hnk x hx (h1.li k hk') (by decide) (by decide) e)
          · show t'.size ≤ 8000000000 * (s.ne + 1) + 1100000000 * s.na
            omega
        · intro k hk
          rcases hk with rfl | hb | hb | ⟨i, hi, rfl⟩
          · exact .inl ((h2 _).2 (.inl rfl))
          · exact .inl ((h2 _).2 (.inr (.inl hb)))
          · have : g = k := Option.some.inj hb
            subst this
            rcases hg with hg | hg
            · exact .inl ((h2 _).2 (.inr (.inr (.inl hg))))
            · exact .inr hg
          · show Fd (if i = s.ne then gl' else gl i) ∨ w.heap.size ≤ (if i = s.ne then gl' else gl i)
            by_cases ei : i = s.ne
            · rw [if_pos ei]; exact .inr (hli'.lt gl' rfl).1
            · rw [if_neg ei]; exact .inl ((h2 _).2 (.inr (.inr (.inr ⟨i, by omega, rfl⟩))))
      · refine (PostR_err R n cap s.ne ce (some ⟨lg, lo, none⟩) ade day _ s.lk w hd CW cE cL (by omega) (hE ▸ he)).mono ?_
        rintro r w' ⟨rfl, q, rfl⟩
        exact ⟨by rw [hN he, hE], hkeep _ (below_drewN w q) he⟩
/-- Balance of the document's book. -/
theorem docBal (R : Nat) (s : St) (Fd : Nat → Prop) (name : ByteArray) (day known : Int) (w : World) (h : DocIs w R s Fd) (ho : s.Ok) :
    Calls Tryz.prog 39 #[.pointer (some ⟨R, 0, none⟩), .string name, .int .i64 day, .int .i64 known] w fun r w' => r = .returned (.tuple #[.int .i64 (s.bal name day known), .int .i64 (s.balE name day known)]) ∧ w' = w := by
  obtain ⟨ada, ade, ca, ce, t, kd, gl, cl, gn, h1, h2⟩ := h
  obtain ⟨ga, hA⟩ := h1.accs ho
  obtain ⟨ge, hE⟩ := h1.ents ho
  exact BalanceR_any R ga ca s.na ge ce s.ne ada ade s.fn s.dy gl s.ln cl s.la s.lm name day known w hA hE
/-- Trial of the document's book. -/
theorem docTrial (R : Nat) (s : St) (Fd : Nat → Prop) (day known : Int) (w : World) (h : DocIs w R s Fd) (ho : s.Ok) :
    Calls Tryz.prog 41 #[.pointer (some ⟨R, 0, none⟩), .int .i64 day, .int .i64 known] w fun r w' => ∃ v, r = .returned (.tuple #[v, .int .i64 (s.trialE day known)]) ∧ w'.ownsRow w.heap.size 38 2 v (s.trial day known).length (cells2 (s.trial day known)) ∧ Below w.heap.size w w' := by
  obtain ⟨ada, ade, ca, ce, t, kd, gl, cl, gn, h1, h2⟩ := h
  obtain ⟨ga, hA⟩ := h1.accs ho
  obtain ⟨ge, hE⟩ := h1.ents ho
  by_cases he : s.trialE day known = 0
  · obtain ⟨g1, g2⟩ := viewE_zero he
    obtain ⟨k1, k2⟩ := knownB_yes g2
    obtain ⟨kn, rfl⟩ : ∃ kn : Nat, known = kn := ⟨known.toNat, by omega⟩
    refine (TrialR_ok R ga ca s.na ge ce s.ne ada ade s.fn s.dy gl s.ln cl s.la s.lm day kn w hA hE g1 (by omega)).mono ?_
    rintro r w' ⟨v, rfl, hv, hb⟩
    refine ⟨v, by rw [he], ?_, hb⟩
    unfold St.trial
    rw [if_pos he]
    exact hv
  · refine (TrialR_err R s.ne ce ade day known w hE.cE he).mono ?_
    rintro r w' ⟨rfl, rfl⟩
    refine ⟨_, rfl, ?_, Below.refl _ _⟩
    unfold St.trial
    rw [if_neg he]
    exact ⟨rfl, .inl ⟨rfl, rfl⟩⟩
/-- Items of the document's book. -/
theorem docItems (R : Nat) (s : St) (Fd : Nat → Prop) (name : ByteArray) (d1 d2 known : Int) (w : World) (h : DocIs w R s Fd) (ho : s.Ok) :
    Calls Tryz.prog 45 #[.pointer (some ⟨R, 0, none⟩), .string name, .int .i64 d1, .int .i64 d2, .int .i64 known] w fun r w' => ∃ v, r = .returned (.tuple #[v, .int .i64 (s.itemsE name d1 d2 known)]) ∧ w'.ownsRow w.heap.size 63 3 v (s.items name d1 d2 known).length (cells3 (s.items name d1 d2 known)) ∧ Below w.heap.size w w' := by
  obtain ⟨ada, ade, ca, ce, t, kd, gl, cl, gn, h1, h2⟩ := h
  obtain ⟨ga, hA⟩ := h1.accs ho
  obtain ⟨ge, hE⟩ := h1.ents ho
  by_cases he : s.itemsE name d1 d2 known = 0
  · obtain ⟨g0, g1, g2⟩ := askErr_zero he
    obtain ⟨k1, k2⟩ := knownB_yes g2
    obtain ⟨kn, rfl⟩ : ∃ kn : Nat, known = kn := ⟨known.toNat, by omega⟩
    rw [Bool.and_eq_true] at g1
    refine (ItemsR_ok R ga ca s.na ge ce s.ne ada ade s.fn s.dy gl s.ln cl s.la s.lm name d1 d2 kn w hA hE ho.ln (by unfold St.there at g0; simpa using g0) g1.1 g1.2 (by omega)).mono ?_
    rintro r w' ⟨v, rfl, hv, hb⟩
    refine ⟨v, by rw [he], ?_, hb⟩
    unfold St.items
    rw [if_pos he]
    exact hv
  · refine (ItemsR_err R ga ca s.na s.ne ce ada ade s.fn name d1 d2 known w hA hE.cE he).mono ?_
    rintro r w' ⟨rfl, rfl⟩
    refine ⟨_, rfl, ?_, Below.refl _ _⟩
    unfold St.items
    rw [if_neg he]
    exact ⟨rfl, .inl ⟨rfl, rfl⟩⟩
end Go.Proofs.YtdljdffnnnoafaaGreat
