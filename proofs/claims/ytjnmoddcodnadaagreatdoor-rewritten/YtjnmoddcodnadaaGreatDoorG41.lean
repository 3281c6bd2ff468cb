import Derived.Test.YtjnmoddcodnadaaGreatDoorG40
import Derived.KernelRfl
set_option linter.unusedVariables false
set_option linter.unusedSimpArgs false
namespace Go.Annal
open Go.RowKit Go.Proofs.YtjnmoddcodnadaaGreatDoor
theorem index_low (c : UInt8) : ∀ l, -1 ≤ Lib.index l [c]
  | [] => by simp [Lib.index]
  | b :: t => by
    have := index_low c t
    unfold Lib.index
    split
    · decide
    · split
      · decide
      · omega
theorem index_split (c : UInt8) : ∀ l i, Lib.index l [c] = i → 0 ≤ i → l = l.take i.toNat ++ c :: l.drop (i.toNat + 1) ∧ c ∉ l.take i.toNat
  | [], i, h, h0 => by simp [Lib.index] at h; omega
  | b :: t, i, h, h0 => by
    unfold Lib.index at h
    by_cases hb : b = c
    · subst hb
      simp at h
      subst h
      exact ⟨by simp, by simp⟩
    · rw [if_neg (by simp; exact fun e => hb e.symm)] at h
      by_cases ht : Lib.index t [c] = -1
      · rw [if_pos (by simpa using ht)] at h; omega
      · rw [if_neg (by simpa using ht)] at h
        have hl := index_low c t
        obtain ⟨h1, h2⟩ := index_split c t (i - 1) (by omega) (by omega)
        have e : i.toNat = (i - 1).toNat + 1 := by omega
        rw [e]
        refine ⟨?_, ?_⟩
        · simp only [List.take_succ_cons, List.drop_succ_cons, List.cons_append]
          rw [← h1]
        · simp only [List.take_succ_cons, List.mem_cons, not_or]
          exact ⟨fun e => hb e.symm, h2⟩
theorem index_no (c : UInt8) : ∀ l, Lib.index l [c] = -1 ↔ c ∉ l
  | [] => by simp [Lib.index]
  | b :: t => by
    have ih := index_no c t
    have hl := index_low c t
    unfold Lib.index
    by_cases hb : b = c
    · subst hb; simp
    · rw [if_neg (by simp; exact fun e => hb e.symm)]
      by_cases ht : Lib.index t [c] = -1
      · rw [if_pos (by simpa using ht)]
        simp only [true_iff, List.mem_cons, not_or]
        exact ⟨fun e => hb e.symm, ih.1 ht⟩
      · rw [if_neg (by simpa using ht)]
        refine ⟨fun h => by omega, fun h => ?_⟩
        simp only [List.mem_cons, not_or] at h
        exact absurd (ih.2 h.2) ht
theorem ba_data {a b : ByteArray} (h : a.data.toList = b.data.toList) : a = b := by
  cases a; cases b; congr 1; exact Array.toList_inj.1 h
theorem ba_app (a b : ByteArray) : (a ++ b).data.toList = a.data.toList ++ b.data.toList := by simp
/-- A line is its words, with blanks. -/
theorem cut_yes {x : ByteArray} (h : fd x = true) : x = wd x ++ ⟨#[32]⟩ ++ rs x := by
  apply ba_data
  rw [ba_app, ba_app]
  unfold fd at h
  unfold wd rs
  unfold Lib.cut at *
  split at h
  · rename_i hi
    rw [if_pos hi]
    have := (index_split 32 x.data.toList _ rfl hi).1
    simpa using this
  · cases h
theorem cut_no {x : ByteArray} (h : fd x = false) : wd x = x := by
  apply ba_data
  unfold fd at h
  unfold wd
  unfold Lib.cut at *
  split at h
  · cases h
  · rename_i hi
    rw [if_neg hi]
theorem num_word {y : ByteArray} {v : Int} (h : numB y = some v) (h1 : -1000000000000000000 < v) (h2 : v < 1000000000000000000) : (⟨(digZ v).toArray⟩ : ByteArray) = y := by
  unfold numB at h
  split at h
  · cases h
  · split at h
    · split at h
      · rename_i e
        cases h
        rw [← itoa_digZ _ h1 h2]; exact e
      · cases h
    · cases h
theorem num_getD {y : ByteArray} (h : (numB y).isSome = true) (h1 : -1000000000000000000 < (numB y).getD 0) (h2 : (numB y).getD 0 < 1000000000000000000) : (⟨(digZ ((numB y).getD 0)).toArray⟩ : ByteArray) = y := by
  obtain ⟨v, hv⟩ := Option.isSome_iff_exists.1 h
  rw [hv] at h1 h2 ⊢
  exact num_word hv h1 h2
/-- What is written of lines. -/
def pairT : List Ln → ByteArray
  | [] => ⟨#[]⟩
  | y :: r => ⟨#[32]⟩ ++ y.1 ++ ⟨#[32]⟩ ++ ⟨(digZ y.2).toArray⟩ ++ pairT r
theorem pairT_snoc : ∀ (L : List Ln) (y : Ln), pairT (L ++ [y]) = pairT L ++ ⟨#[32]⟩ ++ y.1 ++ ⟨#[32]⟩ ++ ⟨(digZ y.2).toArray⟩
  | [], y => by simp only [List.nil_append, pairT]; apply ba_data; simp
  | z :: r, y => by
    simp only [List.cons_append, pairT]
    rw [pairT_snoc r y]
    simp only [ByteArray.append_assoc]
theorem postT_pairs (day : Int) (L : List Ln) : ∀ n, n ≤ L.length → postT day (lnA L) (lnM L) n = ⟨#[112, 32]⟩ ++ ⟨(digZ day).toArray⟩ ++ pairT (L.take n)
  | 0, _ => by unfold postT; simp only [List.take_zero, pairT]; apply ba_data; simp
  | n + 1, h => by
    have hn : n < L.length := by omega
    unfold postT
    rw [postT_pairs day L n (by omega), List.take_succ_eq_append_getElem hn, pairT_snoc, (lnA_at L n hn).1, (lnA_at L n hn).2]
    simp only [ByteArray.append_assoc]
theorem pairs_text : ∀ f rest more L, pairsF f rest more false = some L → (∀ y ∈ L, -1000000000000000000 < y.2 ∧ y.2 < 1000000000000000000) → if more then (⟨#[32]⟩ : ByteArray) ++ rest = pairT L else L = []
  | 0, _, _, _, h, _ => by cases h
  | f + 1, rest, more, L, h, hb => by
    rw [pairsF] at h
    cases more with
    | false => simp at h; simp [h]
    | true =>
      simp only [Bool.false_eq_true, if_false, Bool.not_true, if_true] at h ⊢
      split at h
      · rename_i hn
        rw [Bool.and_eq_true] at hn
        split at h
        · rename_i v hv
          cases hp : pairsF f (rs (rs rest)) (fd (rs rest)) false with
          | none => rw [hp] at h; cases h
          | some M =>
            rw [hp] at h
            simp only [Option.map_some, Option.some.injEq] at h
            subst h
            have ih := pairs_text f _ _ M hp (fun y hy => hb y (List.mem_cons_of_mem _ hy))
            have hvb := hb _ List.mem_cons_self
            have hw := num_word hv hvb.1 hvb.2
            have hc := cut_yes hn.2
            show _ = ⟨#[32]⟩ ++ wd rest ++ ⟨#[32]⟩ ++ ⟨(digZ v).toArray⟩ ++ pairT M
            rw [hw]
            cases hf : fd (rs rest) with
            | true =>
              rw [hf] at ih
              simp only [if_true] at ih
              rw [← ih]
              have e : rest = wd rest ++ ⟨#[32]⟩ ++ (wd (rs rest) ++ ⟨#[32]⟩ ++ rs (rs rest)) := hc.trans (congrArg (fun z => wd rest ++ ⟨#[32]⟩ ++ z) (cut_yes hf))
              exact (congrArg (fun z => (⟨#[32]⟩ : ByteArray) ++ z) e).trans (by simp only [ByteArray.append_assoc])
            | false =>
              rw [hf] at ih
              simp only [Bool.false_eq_true, if_false] at ih
              subst ih
              have e : rest = wd rest ++ ⟨#[32]⟩ ++ wd (rs rest) := hc.trans (congrArg (fun z => wd rest ++ ⟨#[32]⟩ ++ z) (cut_no hf).symm)
              refine (congrArg (fun z => (⟨#[32]⟩ : ByteArray) ++ z) e).trans ?_
              unfold pairT
              apply ba_data
              simp
        · cases h
      · cases h
theorem lockE_zero {a b : Bool} (h : Go.Annal.lockE a b = 0) : a = true ∧ b = false := by revert h; cases a <;> cases b <;> decide
theorem one_word {x : ByteArray} (h : fd x = true) (hf : fd (rs x) = false) : x = wd x ++ ⟨#[32]⟩ ++ wd (rs x) := (cut_yes h).trans (congrArg (fun z => wd x ++ ⟨#[32]⟩ ++ z) (cut_no hf).symm)
theorem two_words {x : ByteArray} (h : fd x = true) (h' : fd (rs x) = true) (hf : fd (rs (rs x)) = false) : x = wd x ++ ⟨#[32]⟩ ++ wd (rs x) ++ ⟨#[32]⟩ ++ wd (rs (rs x)) := by
  have e := (cut_yes h).trans (congrArg (fun z => wd x ++ ⟨#[32]⟩ ++ z) (one_word h' hf))
  exact e.trans (by simp only [ByteArray.append_assoc])
theorem kindB_bd {k : Int} (h : kindB k = true) : 0 ≤ k ∧ k ≤ 1 := by
  unfold kindB at h
  simp at h
  omega
/-- WHAT IS READ IS JUST WHAT WOULD BE WRITTEN: a line that was done is the line that is written. -/
theorem doF_tx {s : St} (x : ByteArray) (h : (doF s x).1 = 0) : (doF s x).2.tx = s.tx ++ x ++ ⟨#[10]⟩ := by
  revert h
  unfold doF
  split
  · rename_i hw
    split
    · rename_i hc
      simp only [Bool.and_eq_true, Bool.not_eq_true'] at hc
      obtain ⟨⟨⟨⟨h1, h2⟩, h3⟩, h4⟩, h5⟩ := hc
      intro h
      simp only at h ⊢
      unfold St.afterOpen
      rw [if_pos h]
      have hk := kindB_bd (openE_zero h).2.1
      show s.tx ++ _ ++ _ = _
      rw [num_getD h4 (by omega) (by omega)]
      have e := two_words h1 h3 h5
      rw [hw] at e
      congr 2
      refine Eq.trans ?_ e.symm
      apply ba_data
      simp
    · intro h; cases h
  · split
    · rename_i hw
      split
      · rename_i L hL
        intro h
        simp only at h ⊢
        unfold St.afterPost
        rw [if_pos h]
        have hz := postE_zero h
        have hd := dayB_yes hz.1
        obtain ⟨g1, g2, g3, g4, g5⟩ := wrong_zero hz.2.1
        have hwr : (!fd x || !(numB (wd (rs x))).isSome) = false := by
          cases hh : (!fd x || !(numB (wd (rs x))).isSome) with
          | false => rfl
          | true => rw [hh, pairsF] at hL; simp at hL
        rw [hwr] at hL
        rw [Bool.or_eq_false_iff] at hwr
        have h1 : fd x = true := by simpa using hwr.1
        have h4 : (numB (wd (rs x))).isSome = true := by simpa using hwr.2
        have hpt := pairs_text _ _ _ L hL (fun y hy => by
          obtain ⟨j, hj, rfl⟩ := List.getElem_of_mem hy
          have := g5 j hj
          rw [(lnA_at L j hj).2] at this
          omega)
        show s.tx ++ postT _ _ _ _ ++ _ = _
        rw [postT_pairs _ L _ (Nat.le_refl _), List.take_length, num_getD h4 (by omega) (by omega)]
        congr 2
        have e := cut_yes h1
        rw [hw] at e
        cases hf : fd (rs x) with
        | true =>
          rw [hf] at hpt
          simp only [if_true] at hpt
          rw [← hpt]
          have e2 := e.trans (congrArg (fun z => (⟨#[112]⟩ : ByteArray) ++ ⟨#[32]⟩ ++ z) (cut_yes hf))
          refine Eq.trans ?_ e2.symm
          apply ba_data
          simp
        | false =>
          rw [hf] at hpt
          simp only [Bool.false_eq_true, if_false] at hpt
          subst hpt
          simp at g1
      · intro h; cases h
    · split
      · rename_i hw
        split
        · rename_i hc
          simp only [Bool.and_eq_true, Bool.not_eq_true'] at hc
          obtain ⟨⟨h1, h4⟩, h5⟩ := hc
          intro h
          simp only at h ⊢
          unfold St.afterRev
          rw [if_pos h]
          have hz := revE_zero h
          have hr : 1 ≤ (numB (wd (rs x))).getD 0 ∧ (numB (wd (rs x))).getD 0 ≤ s.ne := by simpa using hz.1
          have h60 : ¬ 60 ≤ s.ne := of_decide_eq_false hz.2.2.2
          show s.tx ++ _ ++ _ = _
          have ee : (((numB (wd (rs x))).getD 0 - 1).toNat : Int) + 1 = (numB (wd (rs x))).getD 0 := by omega
          rw [ee, num_getD h4 (by omega) (by omega)]
          have e := one_word h1 h5
          rw [hw] at e
          congr 2
          refine Eq.trans ?_ e.symm
          apply ba_data
          simp
        · intro h; cases h
      · split
        · rename_i hw
          split
          · rename_i hc
            simp only [Bool.and_eq_true, Bool.not_eq_true'] at hc
            obtain ⟨⟨h1, h4⟩, h5⟩ := hc
            intro h
            simp only at h ⊢
            unfold St.afterLock
            rw [if_pos h]
            have hd := dayB_yes (lockE_zero h).1
            show s.tx ++ _ ++ _ = _
            rw [num_getD h4 (by omega) (by omega)]
            have e := one_word h1 h5
            rw [hw] at e
            congr 2
            refine Eq.trans ?_ e.symm
            apply ba_data
            simp
          · intro h; cases h
        · split
          · rename_i hw
            split
            · rename_i hc
              simp only [Bool.and_eq_true, Bool.not_eq_true'] at hc
              obtain ⟨⟨⟨⟨h1, h4⟩, h3⟩, h2⟩, h5⟩ := hc
              intro h
              simp only at h ⊢
              unfold St.afterClose
              rw [if_pos h]
              have hF : s.closeF ((numB (wd (rs x))).getD 0) (wd (rs (rs x))) = 0 := by
                unfold St.closeE at h
                by_cases hF : s.closeF ((numB (wd (rs x))).getD 0) (wd (rs (rs x))) = 0
                · exact hF
                · rw [if_pos hF] at h; exact h
              have hd := dayB_yes (closeE1_zero hF).1
              show s.tx ++ _ ++ _ = _
              rw [num_getD h4 (by omega) (by omega)]
              have e := two_words h1 h3 h5
              rw [hw] at e
              congr 2
              refine Eq.trans ?_ e.symm
              apply ba_data
              simp
            · intro h; cases h
          · intro h; cases h
theorem redoF_tx {s : St} (x : ByteArray) (h : (redoF s x).1 = 0) : (redoF s x).2.tx = s.tx ++ x := by
  revert h
  unfold redoF
  split
  · rename_i hs
    intro h
    rw [doF_tx _ h]
    apply ba_data
    rw [ba_app, ba_app, ba_app, List.append_assoc]
    congr 1
    obtain ⟨t, ht⟩ := List.isSuffixOf_iff_suffix.1 hs
    show (Lib.trimSuffix x.data.toList [10]).toArray.toList ++ [10] = _
    unfold Lib.trimSuffix
    rw [if_pos hs, ← ht]
    simp
  · intro h; cases h
theorem runL_tx : ∀ (a : List ByteArray) (s t : St), runL s a = some t → t.tx.data.toList = s.tx.data.toList ++ (a.map (·.data.toList)).flatten
  | [], s, t, e => by cases e; simp
  | x :: r, s, t, e => by
    unfold runL at e
    split at e
    · rename_i h
      rw [runL_tx r _ t e, redoF_tx x h]
      simp
    · cases e
theorem lns_flat (x : ByteArray) : ((lns x).map (·.data.toList)).flatten = x.data.toList := by
  unfold lns
  rw [List.map_map]
  have : ((fun y : ByteArray => y.data.toList) ∘ fun l : List UInt8 => (⟨l.toArray⟩ : ByteArray)) = id := by funext l; simp
  rw [this, List.map_id, lnsL_flat]
/-- Read gives back the text. -/
theorem read_tx {x : ByteArray} {t : St} (h : runL St.new (lns x) = some t) : t.tx = x := by
  apply ba_data
  rw [runL_tx _ _ _ h, lns_flat]
  rfl
end Go.Annal
namespace Go.Annal
open Go.RowKit Go.Proofs.YtjnmoddcodnadaaGreatDoor
/-- What Read answers. -/
def readL : St → Nat → List ByteArray → Option St × Nat × Int
  | s, _, [] => (some s, 0, 0)
  | s, k, x :: r => if (redoF s x).1 = 0 then readL (redoF s x).2 (k + 1) r else (none, k + 1, (redoF s x).1)
theorem readL_ok : ∀ (l : List ByteArray) (s t : St) (k : Nat), runL s l = some t → readL s k l = (some t, 0, 0)
  | [], s, t, k, h => by cases h; rfl
  | x :: r, s, t, k, h => by
    unfold runL at h
    unfold readL
    split at h
    · rename_i e; rw [if_pos e]; exact readL_ok r _ t _ h
    · cases h
theorem readL_no : ∀ (p : List ByteArray) (x : ByteArray) (q : List ByteArray) (s t : St) (k : Nat), runL s p = some t → (redoF t x).1 ≠ 0 → readL s k (p ++ x :: q) = (none, k + p.length + 1, (redoF t x).1)
  | [], x, q, s, t, k, h, hx => by
    cases h
    show readL s k (x :: q) = _
    unfold readL
    rw [if_neg hx]; rfl
  | y :: r, x, q, s, t, k, h, hx => by
    unfold runL at h
    show readL s k (y :: (r ++ x :: q)) = _
    unfold readL
    split at h
    · rename_i e
      rw [if_pos e, readL_no r x q _ t _ h hx]
      simp; omega
    · cases h
def readF (text : ByteArray) : Option St × Nat × Int := readL St.new 0 (lns text)
abbrev T1 : ByteArray := ⟨#[111, 32, 99, 97, 115, 104, 32, 48, 10, 111, 32, 114, 101, 110, 116, 32, 49, 10, 112, 32, 53, 32, 99, 97, 115, 104, 32, 45, 51, 48, 32, 114, 101, 110, 116, 32, 51, 48, 10, 114, 32, 49, 10]⟩
abbrev T2 : ByteArray := ⟨#[108, 32, 55, 10, 108, 32, 55, 10]⟩
theorem T2_read : (readF T2).2 = (2, 11) := by kernel_rfl
theorem T1_read : (readF T1).1.isSome = true := by kernel_rfl
end Go.Annal
namespace Go.Proofs.YtjnmoddcodnadaaGreatDoor
open Go.RowKit Go.Annal Go.Sort Go.Shelf
/-- Read: the answer, and the book if there is one. -/
theorem read_F (text : ByteArray) (w : World) (ht : Tabs w) (hx : text.size < 1000000000) :
    Calls Tryz.prog 12 #[.string text] w fun r w' => Below w.heap.size w w' ∧
      ((∃ s Fp, readF text = (some s, 0, 0) ∧ s.Ok ∧ s.tx = text ∧ runL St.new (lns text) = some s ∧ r = .returned (.tuple #[.pointer (some ⟨w.heap.size + 3, 0, none⟩), .int .i64 0, .int .i64 0]) ∧ ProgIs w' (w.heap.size + 3) s Fp ∧ ∀ b, Fp b → w.heap.size ≤ b) ∨
       ∃ p x s, (p ++ [x]) <+: lns text ∧ runL St.new p = some s ∧ (redoF s x).1 ≠ 0 ∧ readF text = (none, p.length + 1, (redoF s x).1) ∧ r = .returned (.tuple #[.pointer none, .int .i64 (p.length + 1 : Nat), .int .i64 (redoF s x).1])) := by
  refine (read_any text w ht hx).mono ?_
  rintro r w' ⟨hb, ⟨s, Fp, h1, h2, h3, h4⟩ | ⟨p, x, s, h1, h2, h3, h4⟩⟩
  · exact ⟨hb, .inl ⟨s, Fp, readL_ok _ _ _ _ h1, runL_ok _ _ _ St.new_ok h1, read_tx h1, h1, h2, h3, h4⟩⟩
  · refine ⟨hb, .inr ⟨p, x, s, h1, h2, h3, ?_, h4⟩⟩
    obtain ⟨q, hq⟩ := h1
    unfold readF
    rw [← hq, List.append_assoc]
    show readL St.new 0 (p ++ x :: q) = _
    rw [readL_no p x q _ s 0 h2 h3]
    simp
end Go.Proofs.YtjnmoddcodnadaaGreatDoor
