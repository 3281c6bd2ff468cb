import Derived.Test.YtjnmoddcodnadaaGreatG07
import Derived.Test.YtjnmoddcodnadaaGreatG00
import Derived.Test.YtjnmoddcodnadaaGreatG08
import Derived.Test.YtjnmoddcodnadaaGreatG11
set_option linter.unusedVariables false
set_option linter.unusedSimpArgs false
namespace Go.Annal
open Go.Proofs Go.Proofs.YtjnmoddcodnadaaGreat Go.Sort
variable (dy : Nat → Int) (la : Nat → Nat → ByteArray) (lm : Nat → Nat → Int) (x : ByteArray)
/-- What the first lines of an entry have for a name; what the first entries have. -/
def itsL (k : Nat) : Nat → List It
  | 0 => []
  | j + 1 => itsL k j ++ (if (la k j).toList == x.toList then [((k : Int) + 1, dy k, lm k j)] else [])
def its (ln : Nat → Nat) : Nat → List It
  | 0 => []
  | k + 1 => its ln k ++ itsL dy la lm x k (ln k)
theorem lnS_its (day : Int) (k : Nat) : ∀ j, lnS dy la lm x day k j = balI day (itsL dy la lm x k j)
  | 0 => rfl
  | j + 1 => by
    simp only [lnS, itsL, balI_append, lnS_its day k j, lnT]
    congr 1
    cases (la k j).toList == x.toList
    · simp [balI]
    · by_cases h : dy k ≤ day <;> simp [balI, h]
theorem enS_its (day : Int) (ln : Nat → Nat) : ∀ n, enS dy la lm x day ln n = balI day (its dy la lm x ln n)
  | 0 => rfl
  | k + 1 => by simp only [enS, its, balI_append, enS_its day ln k, lnS_its]
theorem itsL_num (k : Nat) : ∀ j, ∀ y ∈ itsL dy la lm x k j, y.1 = (k : Int) + 1
  | 0, y, h => by simp [itsL] at h
  | j + 1, y, h => by
    simp only [itsL, List.mem_append] at h
    rcases h with h | h
    · exact itsL_num k j y h
    · split at h
      · simp at h; rw [h]
      · simp at h
theorem its_num (ln : Nat → Nat) : ∀ n, ∀ y ∈ its dy la lm x ln n, 1 ≤ y.1 ∧ y.1 ≤ (n : Int)
  | 0, y, h => by simp [its] at h
  | k + 1, y, h => by
    simp only [its, List.mem_append] at h
    rcases h with h | h
    · have := its_num ln k y h; omega
    · have := itsL_num dy la lm x k _ y h; omega
theorem its_le (ln : Nat → Nat) (a : Nat) : ∀ n, a ≤ n → ∃ r, its dy la lm x ln n = its dy la lm x ln a ++ r ∧ ∀ y ∈ r, (a : Int) < y.1
  | 0, h => ⟨[], by obtain rfl : a = 0 := by omega
                    simp, by simp⟩
  | k + 1, h => by
    rcases Nat.eq_or_lt_of_le h with rfl | h
    · exact ⟨[], by simp, by simp⟩
    · obtain ⟨r, e, hr⟩ := its_le ln a k (by omega)
      refine ⟨r ++ itsL dy la lm x k (ln k), by simp only [its]; rw [e, List.append_assoc], fun y hy => ?_⟩
      rcases List.mem_append.1 hy with hy | hy
      · exact hr y hy
      · have := itsL_num dy la lm x k _ y hy; omega
/-- Of an entry in which no account stands twice there is one line for a name at most. -/
theorem itsL_one (k : Nat) (n : Nat) (h : ∀ a b, a < b → b < n → (la k a).toList ≠ (la k b).toList) : (itsL dy la lm x k n).length ≤ 1 ∧ ((∃ a, a < n ∧ (la k a).toList = x.toList) ∨ itsL dy la lm x k n = []) := by
  induction n with
  | zero => exact ⟨by simp [itsL], .inr rfl⟩
  | succ n ih =>
    obtain ⟨h1, h2⟩ := ih (fun a b hab hb => h a b hab (by omega))
    simp only [itsL]
    cases he : (la k n).toList == x.toList
    · simp only [Bool.false_eq_true, if_false, List.append_nil]
      exact ⟨h1, h2.imp (fun ⟨a, ha, e⟩ => ⟨a, by omega, e⟩) id⟩
    · have he' : (la k n).toList = x.toList := by simpa using he
      rcases h2 with ⟨a, ha, e⟩ | e
      · exact absurd (e.trans he'.symm) (h a n ha (by omega))
      · rw [e]
        exact ⟨by simp, .inl ⟨n, by omega, he'⟩⟩
theorem its_strict (ln : Nat → Nat) : ∀ n, (∀ k, k < n → ∀ a b, a < b → b < ln k → (la k a).toList ≠ (la k b).toList) → (its dy la lm x ln n).Pairwise (fun y z => y.1 < z.1)
  | 0, _ => List.Pairwise.nil
  | k + 1, h => by
    simp only [its]
    rw [List.pairwise_append]
    refine ⟨its_strict ln k (fun i hi => h i (by omega)), ?_, fun y hy z hz => ?_⟩
    · have := (itsL_one dy la lm x k (ln k) (h k (by omega))).1
      match hl : itsL dy la lm x k (ln k) with
      | [] => exact List.Pairwise.nil
      | [y] => exact List.pairwise_singleton _ _
      | y :: z :: r => rw [hl] at this; simp at this
    · have h1 := its_num dy la lm x ln k y hy
      have h2 := itsL_num dy la lm x k _ z hz
      omega
/-- The items that are known are those of the entries up to that number. -/
theorem known_its (ln : Nat → Nat) (n : Nat) (m : Nat) (f : Nat → It) (known : Int) (hf : (List.range m).map f = its dy la lm x ln n) (h0 : 0 ≤ known) (h1 : known ≤ n) :
    (List.range (cntKnown (fun i => (f i).1) m known)).map f = its dy la lm x ln known.toNat := by
  obtain ⟨r, e, hr⟩ := its_le dy la lm x ln known.toNat n (by omega)
  have hc : cntKnown (fun i => (f i).1) m known = (its dy la lm x ln known.toNat).length := by
    unfold cntKnown
    have e1 : (List.range m).countP (fun i => !decide (known < (f i).1)) = ((List.range m).map f).countP (fun y => !decide (known < y.1)) := by rw [List.countP_map]; rfl
    rw [e1, hf, e, List.countP_append]
    have e2 : r.countP (fun y => !decide (known < y.1)) = 0 := List.countP_eq_zero.2 (fun y hy => by have := hr y hy; simp; omega)
    have e3 : (its dy la lm x ln known.toNat).countP (fun y => !decide (known < y.1)) = (its dy la lm x ln known.toNat).length := List.countP_eq_length.2 (fun y hy => by have := its_num dy la lm x ln _ y hy; simp; omega)
    rw [e2, e3]; rfl
  have hm : m = (its dy la lm x ln n).length := by rw [← hf]; simp
  rw [hc]
  have e4 : (List.range (its dy la lm x ln known.toNat).length) = (List.range m).take (its dy la lm x ln known.toNat).length := by
    rw [List.take_range]
    congr 1
    rw [hm, e, List.length_append]
    omega
  rw [e4, List.map_take, hf, e, List.take_left]
theorem num_le (ln : Nat → Nat) (n : Nat) (m : Nat) (f : Nat → It) (hf : (List.range m).map f = its dy la lm x ln n) (h : ∀ k, k < n → ∀ a b, a < b → b < ln k → (la k a).toList ≠ (la k b).toList) : ∀ p q, p ≤ q → q < m → (f p).1 ≤ (f q).1 := by
  intro p q hpq hq
  rcases Nat.eq_or_lt_of_le hpq with rfl | hlt
  · exact Int.le_refl _
  · have h1 := its_strict dy la lm x ln n h
    rw [← hf, List.pairwise_map, List.pairwise_iff_getElem] at h1
    have := h1 p q (by simp; omega) (by simp; omega) hlt
    simp at this
    omega
/-- An item that comes behind all of a list's, by its number, is put into its place. -/
theorem ins_sorted (l : List It) (y : It) (hs : SortedBy (ltOf cfT) l) (hn : ∀ z ∈ l, z.1 ≤ y.1) : SortedBy (ltOf cfT) (ins l y) ∧ (ins l y).Perm (y :: l) := by
  have key : ∃ k, k ≤ l.length ∧ (∀ z ∈ l.drop k, y.2.1 < z.2.1) ∧ (∀ z ∈ l.take k, z.2.1 ≤ y.2.1) := by
    have hd : l.Pairwise (fun a b => a.2.1 ≤ b.2.1) := hs.imp (fun {a b} h => by rw [ltT] at h; simp [ordI] at h; omega)
    clear hs hn
    induction l with
    | nil => exact ⟨0, by simp, by simp, by simp⟩
    | cons a r ih =>
      rw [List.pairwise_cons] at hd
      by_cases ha : a.2.1 ≤ y.2.1
      · obtain ⟨k, h1, h2, h3⟩ := ih hd.2
        refine ⟨k + 1, by simp; omega, by simpa using h2, fun z hz => ?_⟩
        rw [List.take_succ_cons, List.mem_cons] at hz
        rcases hz with rfl | hz
        · exact ha
        · exact h3 z hz
      · refine ⟨0, by simp, fun z hz => ?_, by simp⟩
        rw [List.drop_zero, List.mem_cons] at hz
        rcases hz with rfl | hz
        · omega
        · have := hd.1 z hz; omega
  obtain ⟨k, hk, h1, h2⟩ := key
  rw [ins_eq l y k hk h1 (fun h => h2 _ (by rw [List.mem_take_iff_getElem]; exact ⟨k - 1, by omega, rfl⟩))]
  constructor
  · unfold SortedBy at *
    have hs' := hs
    rw [← List.take_append_drop k l, List.pairwise_append] at hs'
    obtain ⟨g1, g2, g3⟩ := hs'
    rw [List.pairwise_append, List.pairwise_cons]
    refine ⟨g1, ⟨fun z hz => ?_, g2⟩, fun z hz u hu => ?_⟩
    · have := h1 z hz
      rw [ltT]; simp [ordI]; omega
    · rw [List.mem_cons] at hu
      rcases hu with rfl | hu
      · have e1 := h2 z hz
        have e2 := hn z (List.mem_of_mem_take hz)
        rw [ltT]; simp [ordI]; omega
      · exact g3 z hz u hu
  · have := (List.perm_middle (a := y) (l₁ := l.take k) (l₂ := l.drop k))
    rwa [List.take_append_drop] at this
theorem lnI_its (d1 d2 : Int) (k : Nat) (l : List It) (hs : SortedBy (ltOf cfT) l) (hn : ∀ z ∈ l, z.1 ≤ (k : Int) + 1) : ∀ j,
    SortedBy (ltOf cfT) (lnI dy la lm x d1 d2 k j l) ∧ (lnI dy la lm x d1 d2 k j l).Perm (l ++ itmI d1 d2 (itsL dy la lm x k j)) ∧ (∀ z ∈ lnI dy la lm x d1 d2 k j l, z.1 ≤ (k : Int) + 1)
  | 0 => ⟨hs, by simp [itsL, itmI, lnI], hn⟩
  | j + 1 => by
    obtain ⟨h1, h2, h3⟩ := lnI_its d1 d2 k l hs hn j
    simp only [lnI, itsL, itmI_append]
    cases hx : (la k j).toList == x.toList
    · simp only [Bool.and_false, Bool.false_eq_true, if_false]
      exact ⟨h1, by simpa [itmI] using h2, h3⟩
    · cases hd : decide (d1 ≤ dy k) && decide (dy k ≤ d2)
      · simp only [Bool.false_and, Bool.false_eq_true, if_false]
        refine ⟨h1, ?_, h3⟩
        have : itmI d1 d2 [((k : Int) + 1, dy k, lm k j)] = [] := by simp only [itmI, List.filter_cons, hd]; rfl
        simp only [if_true, this, List.append_nil]
        exact h2
      · simp only [Bool.and_self, if_true]
        obtain ⟨g1, g2⟩ := ins_sorted _ ((k : Int) + 1, dy k, lm k j) h1 h3
        refine ⟨g1, ?_, fun z hz => ?_⟩
        · have : itmI d1 d2 [((k : Int) + 1, dy k, lm k j)] = [((k : Int) + 1, dy k, lm k j)] := by simp only [itmI, List.filter_cons, hd]; rfl
          rw [this, ← List.append_assoc]
          exact g2.trans ((List.Perm.cons _ h2).trans (List.perm_append_comm (l₁ := [((k : Int) + 1, dy k, lm k j)])))
        · rcases List.mem_cons.1 (g2.mem_iff.1 hz) with rfl | hz
          · exact Int.le_refl _
          · exact h3 z hz
theorem enI_its (d1 d2 : Int) (ln : Nat → Nat) : ∀ n, SortedBy (ltOf cfT) (enI dy la lm x d1 d2 ln n) ∧ (enI dy la lm x d1 d2 ln n).Perm (itmI d1 d2 (its dy la lm x ln n)) ∧ (∀ z ∈ enI dy la lm x d1 d2 ln n, z.1 ≤ (n : Int))
  | 0 => ⟨List.Pairwise.nil, by simp [enI, its, itmI], by simp [enI]⟩
  | k + 1 => by
    obtain ⟨h1, h2, h3⟩ := enI_its d1 d2 ln k
    obtain ⟨g1, g2, g3⟩ := lnI_its dy la lm x d1 d2 k (enI dy la lm x d1 d2 ln k) h1 (fun z hz => by have := h3 z hz; omega) (ln k)
    simp only [enI, its, itmI_append]
    exact ⟨g1, g2.trans (h2.append_right _), fun z hz => by have := g3 z hz; omega⟩
/-- Two lists in order of the same items, whose numbers differ, are one. -/
theorem items_same (d1 d2 : Int) (ln : Nat → Nat) (n : Nat) (h : ∀ k, k < n → ∀ a b, a < b → b < ln k → (la k a).toList ≠ (la k b).toList) (l' : List It) (hp : l'.Perm (itmI d1 d2 (its dy la lm x ln n))) (hs : SortedBy (ltOf cfT) l') :
    l' = enI dy la lm x d1 d2 ln n := by
  obtain ⟨g1, g2, _⟩ := enI_its dy la lm x d1 d2 ln n
  have hst : (itmI d1 d2 (its dy la lm x ln n)).Pairwise (fun y z => y.1 ≠ z.1) := ((its_strict dy la lm x ln n h).filter _).imp (fun {y z} h => by omega)
  have hu : ∀ y z, y ∈ itmI d1 d2 (its dy la lm x ln n) → z ∈ itmI d1 d2 (its dy la lm x ln n) → y.1 = z.1 → y = z := by
    intro y z hy hz e
    rw [List.pairwise_iff_getElem] at hst
    obtain ⟨i, hi, rfl⟩ := List.mem_iff_getElem.1 hy
    obtain ⟨j, hj, rfl⟩ := List.mem_iff_getElem.1 hz
    rcases Nat.lt_trichotomy i j with h | h | h
    · exact absurd e (hst i j hi hj h)
    · subst h; rfl
    · exact absurd e.symm (hst j i hj hi h)
  refine List.Perm.eq_of_pairwise ?_ hs g1 (hp.trans g2.symm)
  intro y z hy hz h1 h2
  apply hu y z (hp.mem_iff.1 hy) (g2.mem_iff.1 hz)
  rw [ltT] at h1 h2
  simp [ordI] at h1 h2
  omega
end Go.Annal
namespace Go.Proofs.YtjnmoddcodnadaaGreat
open Go.Annal
theorem range_snoc {α : Type} (m : Nat) (f : Nat → α) (v : α) : (List.range (m + 1)).map (fun j => if j = m then v else f j) = (List.range m).map f ++ [v] := by
  rw [List.range_succ, List.map_append]
  congr 1
  · apply List.map_congr_left
    intro j hj
    have : j ≠ m := by simp at hj; omega
    simp [this]
  · simp
/-- What an entry adds to an account's items. -/
theorem stF_map (p : Nat → Nat) (it : Nat → It) (mm : Nat → Nat) (ff : Nat → Nat → It) (i : Nat) : ∀ n,
    (List.range (stM p mm n i)).map (stF p it mm ff n i) = (List.range (mm i)).map (ff i) ++ ((List.range n).filter (fun l => decide (p l = i))).map it
  | 0 => by simp [stM, stF]
  | n + 1 => by
    have ih := stF_map p it mm ff i n
    rw [List.range_succ, List.filter_append, List.map_append, ← List.append_assoc, ← ih]
    by_cases h : i = p n
    · subst h
      simp only [stM, stF, if_true]
      rw [range_snoc]
      simp
    · have h' : ¬ p n = i := fun e => h e.symm
      simp only [stM, stF, if_neg h]
      simp [h']
theorem itsL_congr (dy dy' : Nat → Int) (la la' : Nat → Nat → ByteArray) (lm lm' : Nat → Nat → Int) (x : ByteArray) (k : Nat) (hd : dy' k = dy k) : ∀ n, (∀ j, j < n → la' k j = la k j ∧ lm' k j = lm k j) → itsL dy' la' lm' x k n = itsL dy la lm x k n
  | 0, _ => rfl
  | n + 1, h => by
    simp only [itsL]
    rw [itsL_congr dy dy' la la' lm lm' x k hd n (fun j hj => h j (by omega)), (h n (by omega)).1, (h n (by omega)).2, hd]
theorem its_congr (dy dy' : Nat → Int) (la la' : Nat → Nat → ByteArray) (lm lm' : Nat → Nat → Int) (ln ln' : Nat → Nat) (x : ByteArray) : ∀ n, (∀ k, k < n → dy' k = dy k ∧ ln' k = ln k ∧ ∀ j, j < ln k → la' k j = la k j ∧ lm' k j = lm k j) → its dy' la' lm' x ln' n = its dy la lm x ln n
  | 0, _ => rfl
  | n + 1, h => by
    simp only [its]
    rw [its_congr dy dy' la la' lm lm' ln ln' x n (fun k hk => h k (by omega)), (h n (by omega)).2.1, itsL_congr dy dy' la la' lm lm' x n (h n (by omega)).1 (ln n) (h n (by omega)).2.2]
theorem itsL_filter (dy : Nat → Int) (la : Nat → Nat → ByteArray) (lm : Nat → Nat → Int) (x : ByteArray) (k : Nat) : ∀ n, itsL dy la lm x k n = ((List.range n).filter (fun l => (la k l).toList == x.toList)).map (fun l => ((k : Int) + 1, dy k, lm k l))
  | 0 => rfl
  | n + 1 => by
    rw [List.range_succ, List.filter_append, List.map_append]
    simp only [itsL, itsL_filter dy la lm x k n]
    congr 1
    cases h : (la k n).toList == x.toList <;> simp [h]
/-- Which account a line is for. -/
theorem line_for {nm : Nat → ByteArray} {na : Nat} (h : Rise nm na) {x : ByteArray} (hx : isAt nm na x = true) {i : Nat} (hi : i < na) : (lessN nm na x = i) ↔ (x.toList == (nm i).toList) = true := by
  rw [sEq_iff]
  obtain ⟨h1, h2⟩ := isAt_eq hx
  constructor
  · rintro rfl; exact h2.symm
  · rintro rfl; exact lessN_at h hi
/-- The items of all accounts, behind one entry more. -/
theorem its_enter {nm : Nat → ByteArray} {na ne n : Nat} (h : Rise nm na) (dy dy' : Nat → Int) (la la' : Nat → Nat → ByteArray) (lm lm' : Nat → Nat → Int) (ln ln' : Nat → Nat) (xa : Nat → ByteArray) (xm : Nat → Int) (day : Int) (mm : Nat → Nat) (ff : Nat → Nat → It)
    (hold : ∀ k, k < ne → dy' k = dy k ∧ ln' k = ln k ∧ ∀ j, j < ln k → la' k j = la k j ∧ lm' k j = lm k j) (hdy : dy' ne = day) (hln : ln' ne = n) (hla : ∀ j, j < n → la' ne j = xa j ∧ lm' ne j = xm j) (hin : ∀ l, l < n → isAt nm na (xa l) = true)
    (hI : ∀ i, i < na → (List.range (mm i)).map (ff i) = its dy la lm (nm i) ln ne) :
    ∀ i, i < na → (List.range (stM (fun l => lessN nm na (xa l)) mm n i)).map (stF (fun l => lessN nm na (xa l)) (fun l => ((ne : Int) + 1, day, xm l)) mm ff n i) = its dy' la' lm' (nm i) ln' (ne + 1) := by
  intro i hi
  rw [stF_map, hI i hi]
  simp only [its]
  rw [its_congr dy dy' la la' lm lm' ln ln' (nm i) ne hold, hln]
  congr 1
  rw [itsL_filter]
  have e1 : (List.range n).filter (fun l => decide (lessN nm na (xa l) = i)) = (List.range n).filter (fun l => (la' ne l).toList == (nm i).toList) := by
    apply List.filter_congr
    intro l hl
    have hl' : l < n := by simpa using hl
    rw [Bool.eq_iff_iff, decide_eq_true_iff, (hla l hl').1]
    exact line_for h (hin l hl') hi
  rw [e1]
  apply List.map_congr_left
  intro l hl
  have hl' : l < n := by have := (List.mem_filter.1 hl).1; simpa using this
  rw [(hla l hl').2, hdy]
/-- An account that has nothing: no entry speaks of it. -/
theorem its_none (dy : Nat → Int) (la : Nat → Nat → ByteArray) (lm : Nat → Nat → Int) (ln : Nat → Nat) (x : ByteArray) : ∀ n, (∀ k, k < n → ∀ j, j < ln k → la k j ≠ x) → its dy la lm x ln n = []
  | 0, _ => rfl
  | n + 1, h => by
    simp only [its]
    rw [its_none dy la lm ln x n (fun k hk => h k (by omega)), itsL_filter]
    have : (List.range (ln n)).filter (fun l => (la n l).toList == x.toList) = [] := List.filter_eq_nil_iff.2 (fun l hl => by
      have := h n (by omega) l (by simpa using hl)
      rw [Bool.not_eq_true, sEq_false]
      exact this)
    rw [this]; rfl
end Go.Proofs.YtjnmoddcodnadaaGreat
namespace Go.Proofs.YtjnmoddcodnadaaGreat
open Go.RowKit Go.Annal
end Go.Proofs.YtjnmoddcodnadaaGreat
namespace Go.Annal
/-- A sum of the first n. -/
def sF (f : Nat → Int) : Nat → Int
  | 0 => 0
  | n + 1 => sF f n + f n
theorem sF_congr {f g : Nat → Int} : ∀ n, (∀ k, k < n → f k = g k) → sF f n = sF g n
  | 0, _ => rfl
  | n + 1, h => by simp only [sF]; rw [sF_congr n (fun k hk => h k (by omega)), h n (by omega)]
theorem sF_le {f g : Nat → Int} : ∀ n, (∀ k, k < n → f k ≤ g k) → sF f n ≤ sF g n
  | 0, _ => Int.le_refl _
  | n + 1, h => by
    have h1 := sF_le n (fun k hk => h k (by omega))
    have h2 := h n (by omega)
    simp only [sF]; omega
theorem sF_add (f g : Nat → Int) : ∀ n, sF (fun k => f k + g k) n = sF f n + sF g n
  | 0 => rfl
  | n + 1 => by simp only [sF]; rw [sF_add f g n]; omega
theorem sF_abs {f g : Nat → Int} : ∀ n, (∀ k, k < n → ((f k).natAbs : Int) ≤ g k) → ((sF f n).natAbs : Int) ≤ sF g n
  | 0, _ => by simp [sF]
  | n + 1, h => by
    have h1 := sF_abs n (fun k hk => h k (by omega))
    have h2 := h n (by omega)
    simp only [sF]; omega
/-- One place changed. -/
theorem sF_one {f g : Nat → Int} {e : Nat} : ∀ n, e < n → (∀ k, k < n → k ≠ e → f k = g k) → sF f n = sF g n - g e + f e
  | 0, h, _ => by omega
  | n + 1, he, h => by
    by_cases e' : e = n
    · subst e'
      have := sF_congr e (fun k hk => h k (by omega) (by omega))
      simp only [sF]; omega
    · have h1 := sF_one n (by omega) (fun k hk hne => h k (by omega) hne)
      have h2 := h n (by omega) (fun h => e' h.symm)
      simp only [sF]; omega
/-- What the entries up to a day make. -/
def upD (dy a : Nat → Int) (d : Int) (k : Nat) : Int := if dy k ≤ d then a k else 0
/-- What weighs yet: entries behind the last closing, and closings that may be reversed. -/
def wgh (dy a : Nat → Int) (gn K : Nat → Bool) (cd : Int) (k : Nat) : Int := if cd < dy k ∨ (K k = true ∧ gn k = false) then ((a k).natAbs : Int) else 0
def upd {α : Type} (f : Nat → α) (n : Nat) (v : α) (k : Nat) : α := if k = n then v else f k
theorem upd_same {α : Type} (f : Nat → α) (n : Nat) (v : α) : upd f n v n = v := if_pos rfl
theorem upd_ne {α : Type} (f : Nat → α) {n k : Nat} (v : α) (h : k ≠ n) : upd f n v k = f k := if_neg h
/-- Of a name that is no stock: what its entries can come to. -/
structure Lim1 (ne : Nat) (dy a : Nat → Int) (gn K : Nat → Bool) (cd : Int) : Prop where
  zero : sF (upD dy a cd) ne = 0
  phi : sF (wgh dy a gn K cd) ne ≤ 1000000000 * (ne : Int)
  one : ∀ k, k < ne → K k = false → gn k = false → ((a k).natAbs : Int) ≤ 1000000000
  old : ∀ k, k < ne → K k = true → dy k ≤ cd
theorem Lim1.new (dy a : Nat → Int) (gn K : Nat → Bool) (cd : Int) : Lim1 0 dy a gn K cd := ⟨rfl, by simp [sF], fun _ h => absurd h (Nat.not_lt_zero _), fun _ h => absurd h (Nat.not_lt_zero _)⟩
/-- An entry of someone's. -/
theorem Lim1.post {ne : Nat} {dy a : Nat → Int} {gn K : Nat → Bool} {cd : Int} (h : Lim1 ne dy a gn K cd) {day v : Int} (hd : cd < day) (hv : (v.natAbs : Int) ≤ 1000000000) :
    Lim1 (ne + 1) (upd dy ne day) (upd a ne v) (upd gn ne false) (upd K ne false) cd := by
  refine ⟨?_, ?_, fun k hk h1 h2 => ?_, fun k hk h1 => ?_⟩
  · have e := sF_congr (f := upD (upd dy ne day) (upd a ne v) cd) (g := upD dy a cd) ne (fun k hk => by simp only [upD, upd_ne _ _ (show k ≠ ne by omega)])
    have h0 := h.zero
    simp only [sF]; rw [e, h0]
    simp only [upD, upd_same]
    rw [if_neg (by omega)]; rfl
  · have e := sF_congr (f := wgh (upd dy ne day) (upd a ne v) (upd gn ne false) (upd K ne false) cd) (g := wgh dy a gn K cd) ne (fun k hk => by simp only [wgh, upd_ne _ _ (show k ≠ ne by omega)])
    have h0 := h.phi
    simp only [sF]; rw [e]
    simp only [wgh, upd_same]
    rw [if_pos (.inl hd)]
    omega
  · by_cases e : k = ne
    · subst e; rw [upd_same]; exact hv
    · rw [upd_ne _ _ e] at *; exact h.one k (by omega) h1 h2
  · by_cases e : k = ne
    · subst e; rw [upd_same] at h1; cases h1
    · rw [upd_ne _ _ e] at *; exact h.old k (by omega) h1
/-- The opposite of an entry. -/
theorem Lim1.rev {ne : Nat} {dy a : Nat → Int} {gn K : Nat → Bool} {cd : Int} (h : Lim1 ne dy a gn K cd) {e : Nat} (he : e < ne) (hg : gn e = false) {day v : Int} (hd : cd < day) (hv : v = - a e) :
    Lim1 (ne + 1) (upd dy ne day) (upd a ne v) (upd (upd gn e true) ne true) (upd K ne false) cd := by
  refine ⟨?_, ?_, fun k hk h1 h2 => ?_, fun k hk h1 => ?_⟩
  · have e' := sF_congr (f := upD (upd dy ne day) (upd a ne v) cd) (g := upD dy a cd) ne (fun k hk => by simp only [upD, upd_ne _ _ (show k ≠ ne by omega)])
    have h0 := h.zero
    simp only [sF]; rw [e', h0]
    simp only [upD, upd_same]
    rw [if_neg (by omega)]; rfl
  · have e' := sF_one (f := wgh (upd dy ne day) (upd a ne v) (upd (upd gn e true) ne true) (upd K ne false) cd) (g := wgh dy a gn K cd) ne he (fun k hk hke => by simp only [wgh, upd_ne _ _ (show k ≠ ne by omega), upd_ne _ _ hke])
    have h0 := h.phi
    simp only [sF]; rw [e']
    simp only [wgh, upd_same, upd_ne _ _ (show e ≠ ne by omega)]
    rw [if_pos (show cd < day ∨ false = true ∧ true = false from .inl hd), hg]
    cases hK : K e
    · have h1 := h.one e he hK hg
      by_cases hc : cd < dy e
      · simp only [hc, true_or, if_true]; omega
      · simp only [hc, false_or, Bool.false_eq_true, false_and, if_false]; omega
    · have h1 := h.old e he hK
      simp only [show ¬ cd < dy e by omega, false_or, and_self, if_true, Bool.true_eq_false, and_false, if_false]
      omega
  · by_cases e' : k = ne
    · subst e'; rw [upd_same] at h2; cases h2
    · rw [upd_ne _ _ e'] at *
      by_cases e2 : k = e
      · subst e2; rw [upd_same] at h2; cases h2
      · rw [upd_ne _ _ e2] at h2; exact h.one k (by omega) h1 h2
  · by_cases e' : k = ne
    · subst e'; rw [upd_same] at h1; cases h1
    · rw [upd_ne _ _ e'] at *; exact h.old k (by omega) h1
/-- What a closing takes weighs no less. -/
theorem Lim1.take {ne : Nat} {dy a : Nat → Int} {gn K : Nat → Bool} {cd : Int} (h : Lim1 ne dy a gn K cd) {day : Int} (hd : cd < day) :
    ((sF (upD dy a day) ne).natAbs : Int) + sF (wgh dy a gn K day) ne ≤ sF (wgh dy a gn K cd) ne := by
  have e1 : sF (upD dy a day) ne = sF (fun k => if cd < dy k ∧ dy k ≤ day then a k else 0) ne := by
    have e2 := sF_add (upD dy a cd) (fun k => if cd < dy k ∧ dy k ≤ day then a k else 0) ne
    rw [h.zero, Int.zero_add] at e2
    rw [← e2]
    refine sF_congr ne (fun k hk => ?_)
    simp only [upD]
    by_cases h1 : dy k ≤ cd
    · rw [if_pos (show dy k ≤ day by omega), if_pos h1, if_neg (by omega)]; omega
    · by_cases h2 : dy k ≤ day
      · rw [if_pos h2, if_neg h1, if_pos (by omega)]; omega
      · rw [if_neg h2, if_neg h1, if_neg (by omega)]; rfl
  rw [e1]
  have e3 := sF_abs (f := fun k => if cd < dy k ∧ dy k ≤ day then a k else 0) (g := fun k => if cd < dy k ∧ dy k ≤ day then ((a k).natAbs : Int) else 0) ne (fun k hk => by split <;> simp)
  have e4 := sF_add (fun k => if cd < dy k ∧ dy k ≤ day then ((a k).natAbs : Int) else 0) (wgh dy a gn K day) ne
  have e5 := sF_le (f := fun k => (if cd < dy k ∧ dy k ≤ day then ((a k).natAbs : Int) else 0) + wgh dy a gn K day k) (g := wgh dy a gn K cd) ne (fun k hk => by
    simp only [wgh]
    by_cases h1 : cd < dy k
    · have hK : K k = false := by
        cases hK : K k
        · rfl
        · have := h.old k hk hK; omega
      rw [hK]
      by_cases h2 : dy k ≤ day
      · simp only [h1, h2, and_self, if_true, true_or, show ¬ day < dy k by omega, false_or, Bool.false_eq_true, false_and, if_false]; omega
      · simp only [h1, h2, and_false, if_false, true_or, if_true, show day < dy k by omega]; omega
    · simp only [h1, false_and, if_false, false_or, show ¬ day < dy k by omega]; omega)
  omega
theorem Lim1.bd {ne : Nat} {dy a : Nat → Int} {gn K : Nat → Bool} {cd : Int} (h : Lim1 ne dy a gn K cd) {day : Int} (hd : cd < day) : ((sF (upD dy a day) ne).natAbs : Int) ≤ 1000000000 * (ne : Int) := by
  have h1 := h.take hd
  have h2 := h.phi
  have h3 : (0 : Int) ≤ sF (wgh dy a gn K day) ne := by
    have := sF_le (f := fun _ => 0) (g := wgh dy a gn K day) ne (fun k _ => by simp only [wgh]; split <;> omega)
    have h0 : ∀ n, sF (fun _ => 0) n = 0 := fun n => by
      induction n with
      | zero => rfl
      | succ n ih => simp only [sF]; rw [ih]; rfl
    rw [h0] at this; exact this
  omega
/-- A closing. -/
theorem Lim1.close {ne : Nat} {dy a : Nat → Int} {gn K : Nat → Bool} {cd : Int} (h : Lim1 ne dy a gn K cd) {day v : Int} (hd : cd < day) (hv : v = - sF (upD dy a day) ne) :
    Lim1 (ne + 1) (upd dy ne day) (upd a ne v) (upd gn ne false) (upd K ne true) day := by
  refine ⟨?_, ?_, fun k hk h1 h2 => ?_, fun k hk h1 => ?_⟩
  · have e := sF_congr (f := upD (upd dy ne day) (upd a ne v) day) (g := upD dy a day) ne (fun k hk => by simp only [upD, upd_ne _ _ (show k ≠ ne by omega)])
    simp only [sF]; rw [e]
    simp only [upD, upd_same]
    rw [if_pos (Int.le_refl _), hv]; omega
  · have e := sF_congr (f := wgh (upd dy ne day) (upd a ne v) (upd gn ne false) (upd K ne true) day) (g := wgh dy a gn K day) ne (fun k hk => by simp only [wgh, upd_ne _ _ (show k ≠ ne by omega)])
    have h0 := h.phi
    have h1 := h.take hd
    simp only [sF]; rw [e]
    simp only [wgh, upd_same]
    rw [if_pos (.inr ⟨by trivial, by trivial⟩), hv]
    omega
  · by_cases e : k = ne
    · subst e; rw [upd_same] at h1; cases h1
    · rw [upd_ne _ _ e] at *; exact h.one k (by omega) h1 h2
  · by_cases e : k = ne
    · subst e; rw [upd_same]; exact Int.le_refl _
    · rw [upd_ne _ _ e] at *; have := h.old k (by omega) h1; omega
end Go.Annal
namespace Go.Annal
def postE (day : Bool) (wrong : Int) (locked full : Bool) : Int := if !day then 5 else if wrong ≠ 0 then wrong else if locked then 11 else if full then 4 else 0
end Go.Annal
namespace Go.Proofs.YtjnmoddcodnadaaGreat
open Go.RowKit Go.Annal
attribute [local go_sem ↓] Go.wp_at_zero Go.wp_at_succ

/-- The cells of n lines. -/
def lineCells (xa : Nat → ByteArray) (xm : Nat → Int) (n : Nat) : List Value := cells2 ((List.range n).map (fun k => (xa k, xm k)))
theorem lineCells_len (xa : Nat → ByteArray) (xm : Nat → Int) (n : Nat) : (lineCells xa xm n).length = n * 2 := by simp [lineCells, cells2_len]
theorem cells2_drop (l : List Ln) (k : Nat) : (cells2 l).drop (k * 2) = cells2 (l.drop k) := by
  induction l generalizing k with
  | nil => simp [cells2]
  | cons x r ih =>
    cases k with
    | zero => simp [cells2]
    | succ k =>
      have := ih k
      simp only [cells2, List.flatMap_cons, List.drop_succ_cons] at *
      rw [show (k + 1) * 2 = (enc2 x).length + k * 2 by simp [enc2]; omega, List.drop_append, List.drop_of_length_le (by omega), Nat.add_sub_cancel_left, this, List.nil_append]
theorem cells2_get (l : List Ln) (j : Nat) (h : j < l.length) (o : Nat) (ho : o < 2) : (cells2 l)[j * 2 + o]? = (enc2 l[j])[o]? := by
  have h1 : (cells2 l)[j * 2 + o]? = ((cells2 l).drop (j * 2))[o]? := by rw [List.getElem?_drop]
  rw [h1, cells2_drop, List.drop_eq_getElem_cons h]
  simp only [cells2, List.flatMap_cons]
  rw [List.getElem?_append_left (by simp [enc2]; omega)]
theorem lineCells_a (xa : Nat → ByteArray) (xm : Nat → Int) (n k : Nat) (h : k < n) : (lineCells xa xm n)[k * 2]? = some (.string (xa k)) := by
  have := cells2_get ((List.range n).map (fun k => (xa k, xm k))) k (by simpa using h) 0 (by omega)
  simpa [lineCells, enc2] using this
theorem lineCells_m (xa : Nat → ByteArray) (xm : Nat → Int) (n k : Nat) (h : k < n) : (lineCells xa xm n)[k * 2 + 1]? = some (.int .i64 (xm k)) := by
  have := cells2_get ((List.range n).map (fun k => (xa k, xm k))) k (by simpa using h) 1 (by omega)
  simpa [lineCells, enc2] using this
end Go.Proofs.YtjnmoddcodnadaaGreat
namespace Go.Proofs.YtjnmoddcodnadaaGreat
open Go.RowKit Go.Annal
attribute [local go_sem ↓] Go.wp_at_zero Go.wp_at_succ
/-- What a document's book notes of an entry: its line, up to the n-th of its lines. -/
def postT (day : Int) (xa : Nat → ByteArray) (xm : Nat → Int) : Nat → ByteArray
  | 0 => ⟨#[112, 32]⟩ ++ ⟨(digZ day).toArray⟩
  | k + 1 => postT day xa xm k ++ ⟨#[32]⟩ ++ xa k ++ ⟨#[32]⟩ ++ ⟨(digZ (xm k)).toArray⟩

end Go.Proofs.YtjnmoddcodnadaaGreat
namespace Go.Annal
def revE (inr gone late full : Bool) : Int := if !inr then 7 else if gone then 12 else if late then 11 else if full then 4 else 0
def revDay (d lk : Int) : Int := if d ≤ lk then lk + 1 else d
end Go.Annal
namespace Go.Proofs.YtjnmoddcodnadaaGreat
open Go.RowKit Go.Annal
end Go.Proofs.YtjnmoddcodnadaaGreat
namespace Go.Proofs.YtjnmoddcodnadaaGreat
open Go.RowKit Go.Annal
theorem lineCells_succ (la : Nat → ByteArray) (lm : Nat → Int) (k : Nat) : lineCells la lm (k + 1) = lineCells la lm k ++ [.string (la k), .int .i64 (lm k)] := by
  unfold lineCells
  rw [List.range_succ, List.map_append, cells2_append]
  rfl
theorem owns_view' {w : World} {B : Nat} {e : TypeId} {sz : Nat} {v : Value} {n : Nat} {xs : List Value} (h : w.ownsRow B e sz v n xs) : ∃ ad cap g, v = .slice ad n cap ∧ n ≤ cap ∧ (0 < n → ad = some ⟨g, 0, none⟩ ∧ B ≤ g) ∧ True := by
  rcases h.2 with ⟨rfl, rfl⟩ | ⟨g, cap, cur, rfl, hb, hg, hnc, _⟩
  · exact ⟨none, 0, 0, rfl, Nat.le_refl _, fun h => absurd h (Nat.lt_irrefl _), trivial⟩
  · exact ⟨_, cap, g, rfl, hnc, fun _ => ⟨rfl, hb⟩, trivial⟩
end Go.Proofs.YtjnmoddcodnadaaGreat
namespace Go.Annal
/-- What a closing enters: of each flow that has something its opposite. -/
def closeL (fn : Nat → ByteArray) (kd : Nat → Int) (bal : ByteArray → Int) : Nat → List Ln
  | 0 => []
  | i + 1 => closeL fn kd bal i ++ (if kd i = 1 ∧ bal (fn i) ≠ 0 then [(fn i, - bal (fn i))] else [])
def closeSum (fn : Nat → ByteArray) (kd : Nat → Int) (bal : ByteArray → Int) : Nat → Int
  | 0 => 0
  | i + 1 => closeSum fn kd bal i + (if kd i = 1 ∧ bal (fn i) ≠ 0 then bal (fn i) else 0)
def closeE1 (day there flow locked : Bool) : Int := if !day then 5 else if !there then 7 else if flow then 2 else if locked then 11 else 0
def closeE2 (none full : Bool) : Int := if none then 7 else if full then 4 else 0
end Go.Annal
namespace Go.Proofs.YtjnmoddcodnadaaGreat
open Go.RowKit Go.Annal
end Go.Proofs.YtjnmoddcodnadaaGreat
namespace Go.Annal
/-- What the first n lines of an entry say of a name. -/
def am (xa : Nat → ByteArray) (xm : Nat → Int) (x : ByteArray) : Nat → Int
  | 0 => 0
  | k + 1 => am xa xm x k + if (xa k).toList == x.toList then xm k else 0
theorem lnS_am (dy : Nat → Int) (la : Nat → Nat → ByteArray) (lm : Nat → Nat → Int) (x : ByteArray) (day : Int) (i : Nat) : ∀ n, lnS dy la lm x day i n = if dy i ≤ day then am (la i) (lm i) x n else 0
  | 0 => by simp [lnS, am]
  | n + 1 => by
    simp only [lnS, lnT, am]
    rw [lnS_am dy la lm x day i n]
    by_cases h : dy i ≤ day <;> simp [h]
theorem enS_sF (dy : Nat → Int) (la : Nat → Nat → ByteArray) (lm : Nat → Nat → Int) (x : ByteArray) (day : Int) (ln : Nat → Nat) : ∀ n, enS dy la lm x day ln n = sF (upD dy (fun i => am (la i) (lm i) x (ln i)) day) n
  | 0 => rfl
  | n + 1 => by
    simp only [enS, sF]
    rw [enS_sF dy la lm x day ln n, lnS_am]
    rfl
theorem am_congr {xa ya : Nat → ByteArray} {xm ym : Nat → Int} {x : ByteArray} : ∀ n, (∀ k, k < n → xa k = ya k ∧ xm k = ym k) → am xa xm x n = am ya ym x n
  | 0, _ => rfl
  | n + 1, h => by
    simp only [am]
    rw [am_congr n (fun k hk => h k (by omega)), (h n (by omega)).1, (h n (by omega)).2]
theorem am_none {xa : Nat → ByteArray} {xm : Nat → Int} {x : ByteArray} : ∀ n, (∀ k, k < n → (xa k).toList ≠ x.toList) → am xa xm x n = 0
  | 0, _ => rfl
  | n + 1, h => by
    simp only [am]
    rw [am_none n (fun k hk => h k (by omega)), if_neg (by simpa using h n (by omega))]; rfl
theorem am_neg (xa : Nat → ByteArray) (xm : Nat → Int) (x : ByteArray) : ∀ n, am xa (fun k => - xm k) x n = - am xa xm x n
  | 0 => rfl
  | n + 1 => by
    simp only [am]
    rw [am_neg xa xm x n]
    split <;> omega
theorem am_bd {xa : Nat → ByteArray} {xm : Nat → Int} {x : ByteArray} {M : Int} (hM : 0 ≤ M) : ∀ n, (∀ a b, a < b → b < n → (xa a).toList ≠ (xa b).toList) → (∀ k, k < n → -M ≤ xm k ∧ xm k ≤ M) → ((am xa xm x n).natAbs : Int) ≤ M
  | 0, _, _ => by simpa [am] using hM
  | n + 1, h, hb => by
    have hn := hb n (by omega)
    have hi := am_bd (x := x) hM n (fun a b hab hb => h a b hab (by omega)) (fun k hk => hb k (by omega))
    simp only [am]
    by_cases e : (xa n).toList = x.toList
    · rw [am_none n (fun k hk => by rw [← e]; exact h k n hk (by omega)), if_pos (by simpa using e)]; omega
    · rw [if_neg (by simpa using e)]; omega
/-- A list of lines, by places. -/
def lnA (L : List Ln) (j : Nat) : ByteArray := (L.getD j (⟨#[]⟩, 0)).1
def lnM (L : List Ln) (j : Nat) : Int := (L.getD j (⟨#[]⟩, 0)).2
theorem lnA_left {A B : List Ln} {j : Nat} (h : j < A.length) : lnA (A ++ B) j = lnA A j := by unfold lnA; rw [List.getD_eq_getElem?_getD, List.getD_eq_getElem?_getD, List.getElem?_append_left h]
theorem lnM_left {A B : List Ln} {j : Nat} (h : j < A.length) : lnM (A ++ B) j = lnM A j := by unfold lnM; rw [List.getD_eq_getElem?_getD, List.getD_eq_getElem?_getD, List.getElem?_append_left h]
theorem lnA_last (A : List Ln) (y : Ln) : lnA (A ++ [y]) A.length = y.1 := by unfold lnA; simp
theorem lnM_last (A : List Ln) (y : Ln) : lnM (A ++ [y]) A.length = y.2 := by unfold lnM; simp
/-- What a list of lines says of a name. -/
def amL (L : List Ln) (x : ByteArray) : Int := am (lnA L) (lnM L) x L.length
theorem amL_nil (x : ByteArray) : amL [] x = 0 := rfl
theorem amL_snoc (A : List Ln) (y : Ln) (x : ByteArray) : amL (A ++ [y]) x = amL A x + if y.1.toList == x.toList then y.2 else 0 := by
  unfold amL
  rw [List.length_append]
  simp only [List.length_cons, List.length_nil, Nat.zero_add, am]
  rw [lnA_last, lnM_last, am_congr A.length (fun k hk => ⟨lnA_left hk, lnM_left hk⟩)]
theorem lineCells_ofL (L : List Ln) : Go.Proofs.YtjnmoddcodnadaaGreat.lineCells (lnA L) (lnM L) L.length = cells2 L := by
  unfold Go.Proofs.YtjnmoddcodnadaaGreat.lineCells
  congr 1
  refine List.ext_getElem (by simp) (fun i h1 h2 => ?_)
  simp [lnA, lnM, List.getD_eq_getElem?_getD, List.getElem?_eq_getElem h2]
/-- What a closing enters for a name. -/
theorem closeL_am (fn : Nat → ByteArray) (kd : Nat → Int) (bal : ByteArray → Int) (x : ByteArray) : ∀ n, (∀ a b, a < b → b < n → (fn a).toList ≠ (fn b).toList) → amL (closeL fn kd bal n) x = sF (fun i => if (fn i).toList = x.toList ∧ kd i = 1 then - bal (fn i) else 0) n
  | 0, _ => rfl
  | n + 1, h => by
    simp only [closeL, sF]
    have hi := closeL_am fn kd bal x n (fun a b hab hb => h a b hab (by omega))
    by_cases hk : kd n = 1 ∧ bal (fn n) ≠ 0
    · rw [if_pos hk, amL_snoc, hi]
      by_cases e : (fn n).toList = x.toList <;> simp [e, hk.1]
    · rw [if_neg hk, List.append_nil, hi]
      by_cases e : (fn n).toList = x.toList ∧ kd n = 1
      · have : bal (fn n) = 0 := Classical.byContradiction fun h' => hk ⟨e.2, h'⟩
        rw [if_pos e, this]; simp
      · rw [if_neg e]; simp
end Go.Annal
namespace Go.Annal
def lockE (day locked : Bool) : Int := if !day then 5 else if locked then 11 else 0
end Go.Annal
namespace Go.Proofs.YtjnmoddcodnadaaGreat
open Go.RowKit Go.Annal
theorem sz_arr' (a : Array UInt8) : (⟨a⟩ : ByteArray).size = a.size := rfl
end Go.Proofs.YtjnmoddcodnadaaGreat
namespace Go.Annal
theorem closeSum_bd (fn : Nat → ByteArray) (kd : Nat → Int) (bal : ByteArray → Int) (M : Int) (hM : 0 ≤ M) (h : ∀ x, -M ≤ bal x ∧ bal x ≤ M) : ∀ i : Nat, -(M * i) ≤ closeSum fn kd bal i ∧ closeSum fn kd bal i ≤ M * i
  | 0 => by simp [closeSum]
  | i + 1 => by
    have h1 := closeSum_bd fn kd bal M hM h i
    have h2 := h (fn i)
    have e : M * ((i + 1 : Nat) : Int) = M * i + M := by rw [Int.natCast_add, Int.mul_add]; simp
    simp only [closeSum]
    rw [e]
    split <;> omega
theorem closeL_len (fn : Nat → ByteArray) (kd : Nat → Int) (bal : ByteArray → Int) : ∀ i, (closeL fn kd bal i).length ≤ i
  | 0 => by simp [closeL]
  | i + 1 => by
    have := closeL_len fn kd bal i
    simp only [closeL, List.length_append]
    split <;> simp <;> omega
end Go.Annal
namespace Go.Proofs.YtjnmoddcodnadaaGreat
open Go.RowKit Go.Annal
end Go.Proofs.YtjnmoddcodnadaaGreat
