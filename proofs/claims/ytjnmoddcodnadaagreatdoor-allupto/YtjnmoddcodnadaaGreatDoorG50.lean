import Derived.Test.YtjnmoddcodnadaaGreatDoorG41
import Derived.Test.YtjnmoddcodnadaaGreatDoorG49
import Derived.Test.YtjnmoddcodnadaaGreatDoorG48
import Derived.Test.YtjnmoddcodnadaaGreatDoorG43
import Derived.Test.YtjnmoddcodnadaaGreatDoorG45
set_option linter.unusedVariables false
set_option linter.unusedSimpArgs false
namespace Go.Annal
open Go.RowKit Go.Proofs.YtjnmoddcodnadaaGreatDoor
/-! ### The document's numbers -/
theorem decFrom_snoc (b : UInt8) : ∀ (l : List UInt8) (acc : Nat), Lib.decFrom acc (l ++ [b]) = (Lib.decFrom acc l).bind (fun n => (Lib.digitVal b).map (fun d => n * 10 + d))
  | [], acc => by
    show Lib.decFrom acc [b] = _
    unfold Lib.decFrom
    cases h : Lib.digitVal b <;> simp [Lib.decFrom]
  | a :: t, acc => by
    show Lib.decFrom acc (a :: (t ++ [b])) = _
    rw [Lib.decFrom, Lib.decFrom]
    cases h : Lib.digitVal a with
    | none => rfl
    | some d => exact decFrom_snoc b t _
theorem digit_val {d : Nat} (h : d < 10) : Lib.digitVal (UInt8.ofNat (48 + d)) = some d := by
  unfold Lib.digitVal
  have e : (UInt8.ofNat (48 + d)).toNat = 48 + d := by rw [UInt8.toNat_ofNat']; omega
  rw [e, if_pos (by omega)]
  congr 1; omega
theorem digit_back {b : UInt8} {d : Nat} (h : Lib.digitVal b = some d) : b = UInt8.ofNat (48 + d) ∧ d < 10 := by
  unfold Lib.digitVal at h
  split at h
  · rename_i hb
    have e : b.toNat - 48 = d := Option.some.inj h
    refine ⟨?_, by omega⟩
    apply UInt8.toNat_inj.1
    rw [UInt8.toNat_ofNat']; omega
  · cases h
theorem decDigits_ne (u : Nat) : Lib.decDigits u ≠ [] := by
  rw [Lib.decDigits]
  split <;> simp
theorem decDigits_dec : ∀ u, Lib.decFrom 0 (Lib.decDigits u) = some u := by
  intro u
  induction u using Nat.strongRecOn with
  | ind u ih =>
    rw [Lib.decDigits]
    split
    · rename_i h
      have := decFrom_snoc (UInt8.ofNat (48 + u)) [] 0
      rw [List.nil_append] at this
      rw [this, digit_val h]
      simp [Lib.decFrom]
    · rename_i h
      rw [decFrom_snoc, ih (u / 10) (by omega), digit_val (by omega)]
      show some (u / 10 * 10 + u % 10) = some u
      congr 1; omega
theorem decDigits_zero : Lib.decDigits 0 = [48] := by rw [Lib.decDigits, dif_pos (by decide)]; rfl
theorem head_append {α : Type} {l m : List α} (h : l ≠ []) : (l ++ m).head? = l.head? := by
  cases l with
  | nil => exact absurd rfl h
  | cons a t => rfl
theorem decDigits_head : ∀ u, u ≠ 0 → (Lib.decDigits u).head? ≠ some 48 := by
  intro u
  induction u using Nat.strongRecOn with
  | ind u ih =>
    intro h0
    rw [Lib.decDigits]
    split
    · rename_i h
      intro e
      have e1 : UInt8.ofNat (48 + u) = 48 := by simpa using e
      have e2 := congrArg UInt8.toNat e1
      rw [UInt8.toNat_ofNat'] at e2
      have : (48 : UInt8).toNat = 48 := rfl
      omega
    · rename_i h
      rw [head_append (decDigits_ne _)]
      exact ih (u / 10) (by omega) (by omega)
theorem dec_canon : ∀ (k : Nat) (m : List UInt8) (u : Nat), m.length = k → Lib.decFrom 0 m = some u → m ≠ [] → (m.head? = some 48 → m.length = 1) → Lib.decDigits u = m
  | 0, m, u, hk, _, hm, _ => absurd (List.length_eq_zero_iff.1 hk) hm
  | k + 1, m, u, hk, h, hm, hh => by
    obtain ⟨t, b, rfl⟩ : ∃ t b, m = t ++ [b] := ⟨m.dropLast, m.getLast hm, (List.dropLast_concat_getLast hm).symm⟩
    rw [decFrom_snoc] at h
    cases ht : Lib.decFrom 0 t with
    | none => rw [ht] at h; cases h
    | some n =>
      rw [ht] at h
      cases hb : Lib.digitVal b with
      | none => rw [hb] at h; cases h
      | some d =>
        rw [hb] at h
        have hu : n * 10 + d = u := Option.some.inj h
        obtain ⟨e1, e2⟩ := digit_back hb
        by_cases ht0 : t = []
        · subst ht0
          have hn : n = 0 := by simp [Lib.decFrom] at ht; omega
          rw [Lib.decDigits, dif_pos (by omega)]
          rw [e1, show u = d by omega]; rfl
        · have hl : 0 < t.length := List.length_pos_iff.2 ht0
          have hh' : t.head? ≠ some 48 := fun e => by
            have := hh (by rw [head_append ht0]; exact e)
            rw [List.length_append, List.length_singleton] at this; omega
          have ih := dec_canon k t n (by simp at hk; omega) ht ht0 (fun e => absurd e hh')
          have hn : n ≠ 0 := fun e => by
            subst e
            rw [decDigits_zero] at ih
            rw [← ih] at hh'
            exact hh' rfl
          have h10 : ¬ u < 10 := by have : 1 ≤ n := Nat.pos_of_ne_zero hn; omega
          rw [Lib.decDigits, dif_neg h10, show u / 10 = n by omega, show u % 10 = d by omega, ih, e1]
theorem numForm_head {m : List UInt8} {minus : Bool} (h : numForm m minus = true) : m ≠ [] ∧ m.length ≤ 10 ∧ (m.head? = some 48 → m.length = 1 ∧ minus = false) := by
  unfold numForm at h
  simp only [Bool.and_eq_true, decide_eq_true_eq, Bool.not_eq_true', Bool.and_eq_false_iff, decide_eq_false_iff_not, Bool.or_eq_false_iff] at h
  refine ⟨fun e => by rw [e] at h; simp at h, h.1.2, fun e => ?_⟩
  rcases h.2 with h2 | h2
  · exact absurd e h2
  · exact ⟨by omega, h2.2⟩
theorem numForm_of {m : List UInt8} {minus : Bool} (h1 : m ≠ []) (h2 : m.length ≤ 10) (h3 : m.head? = some 48 → m.length = 1 ∧ minus = false) : numForm m minus = true := by
  have hl : 0 < m.length := List.length_pos_iff.2 h1
  unfold numForm
  simp only [Bool.and_eq_true, decide_eq_true_eq, Bool.not_eq_true', Bool.and_eq_false_iff, decide_eq_false_iff_not, Bool.or_eq_false_iff]
  refine ⟨⟨by omega, h2⟩, ?_⟩
  by_cases e : m.head? = some 48
  · exact .inr ⟨by have := (h3 e).1; omega, (h3 e).2⟩
  · exact .inl e
theorem ba_iff (l : List UInt8) (x : ByteArray) : (⟨l.toArray⟩ : ByteArray) = x ↔ l = x.data.toList := by
  constructor
  · rintro rfl; simp
  · intro h; apply ba_data; simpa using h
theorem numB_minus (x : ByteArray) (r : List UInt8) (hx : x.data.toList = 45 :: r) : numB x = numD true r := by
  have htp : Lib.trimPrefix (45 :: r) [45] = r := by unfold Lib.trimPrefix Lib.hasPrefix; simp
  unfold numB
  rw [hx, htp]
  by_cases hl : r.length > 10
  · rw [if_pos hl]
    unfold numD
    rw [if_neg]
    intro h
    have := (numForm_head h).2.1
    omega
  · rw [if_neg hl, Lib.atoiAll_short _ (by simp; omega)]
    have ha : Lib.atoi (45 :: r) = (Lib.decNat r).map fun (m : Nat) => -(m : Int) := rfl
    rw [ha]
    unfold Lib.decNat
    cases hr : r.isEmpty with
    | true =>
      have : r = [] := List.isEmpty_iff.1 hr
      subst this
      rfl
    | false =>
      have hr0 : r ≠ [] := fun e => by rw [e] at hr; cases hr
      simp only [Bool.false_eq_true, if_false]
      unfold numD
      cases hd : Lib.decFrom 0 r with
      | none =>
        show none = _
        split <;> rfl
      | some u =>
        show (if (⟨(Lib.itoa (-(u : Int))).toArray⟩ : ByteArray) = x then some (-(u : Int)) else none) = if numForm r true = true then some (-(u : Int)) else none
        have hiff : (⟨(Lib.itoa (-(u : Int))).toArray⟩ : ByteArray) = x ↔ numForm r true = true := by
          rw [ba_iff, hx]
          constructor
          · intro h
            by_cases hu : u = 0
            · subst hu
              have : Lib.itoa (-((0 : Nat) : Int)) = [48] := by unfold Lib.itoa; rw [if_neg (by decide)]; exact decDigits_zero
              rw [this] at h
              injection h with h; cases h
            · have : Lib.itoa (-(u : Int)) = 45 :: Lib.decDigits u := by unfold Lib.itoa; rw [if_pos (by omega)]; simp
              rw [this] at h
              injection h with _ h
              exact numForm_of hr0 (by omega) (fun e => absurd (h ▸ e) (decDigits_head u hu))
          · intro h
            obtain ⟨_, _, h3⟩ := numForm_head h
            have hh : r.head? ≠ some 48 := fun e => by have := (h3 e).2; cases this
            have hc := dec_canon r.length r u rfl hd hr0 (fun e => absurd e hh)
            have hu : u ≠ 0 := fun e => by
              subst e
              rw [decDigits_zero] at hc
              rw [← hc] at hh; exact hh rfl
            unfold Lib.itoa
            rw [if_pos (by omega)]
            simp [hc]
        by_cases hc : numForm r true = true
        · rw [if_pos hc, if_pos (hiff.2 hc)]
        · rw [if_neg hc, if_neg (fun e => hc (hiff.1 e))]
theorem numB_plain (x : ByteArray) (hx : x.data.toList.head? ≠ some 45) : numB x = numD false x.data.toList := by
  have htp : Lib.trimPrefix x.data.toList [45] = x.data.toList := by
    unfold Lib.trimPrefix Lib.hasPrefix
    rw [if_neg]
    cases hl : x.data.toList with
    | nil => simp
    | cons a t =>
      rw [hl] at hx
      simp only [List.head?_cons, ne_eq, Option.some.injEq] at hx
      simp
      exact fun e => hx e.symm
  unfold numB
  rw [htp]
  by_cases hl : x.data.toList.length > 10
  · rw [if_pos hl]
    unfold numD
    rw [if_neg]
    intro h
    have := (numForm_head h).2.1
    omega
  · rw [if_neg hl, Lib.atoiAll_short _ (by omega)]
    cases hm : x.data.toList with
    | nil => rfl
    | cons a t =>
      rw [hm] at hx hl
      have ha : a ≠ 45 := fun e => hx (by rw [e]; rfl)
      by_cases h43 : a = 43
      · subst h43
        have hn : numD false ((43 : UInt8) :: t) = none := by
          unfold numD
          split
          · show (Lib.decFrom 0 ((43 : UInt8) :: t)).map _ = none
            have : Lib.decFrom 0 ((43 : UInt8) :: t) = none := rfl
            rw [this]; rfl
          · rfl
        rw [hn]
        have hat : Lib.atoi ((43 : UInt8) :: t) = (Lib.decNat t).map fun (m : Nat) => (m : Int) := rfl
        rw [hat]
        cases hd : Lib.decNat t with
        | none => rfl
        | some u =>
          show (if (⟨(Lib.itoa (u : Int)).toArray⟩ : ByteArray) = x then some (u : Int) else none) = none
          rw [if_neg]
          rw [ba_iff, hm]
          intro h
          have hi : Lib.itoa (u : Int) = Lib.decDigits u := by unfold Lib.itoa; rw [if_neg (by omega)]; simp
          rw [hi] at h
          have := decDigits_dec u
          rw [h] at this
          have h2 : Lib.decFrom 0 ((43 : UInt8) :: t) = none := rfl
          rw [h2] at this; cases this
      · have hat : Lib.atoi (a :: t) = (Lib.decNat (a :: t)).map fun (m : Nat) => (m : Int) := by
          rw [Lib.atoi, if_neg (by simpa using ha), if_neg (by simpa using h43)]
        rw [hat]
        have hdn : Lib.decNat (a :: t) = Lib.decFrom 0 (a :: t) := rfl
        rw [hdn]
        unfold numD
        cases hd : Lib.decFrom 0 (a :: t) with
        | none =>
          show none = _
          split <;> rfl
        | some u =>
          show (if (⟨(Lib.itoa (u : Int)).toArray⟩ : ByteArray) = x then some (u : Int) else none) = if numForm (a :: t) false = true then some (u : Int) else none
          have hi : Lib.itoa (u : Int) = Lib.decDigits u := by unfold Lib.itoa; rw [if_neg (by omega)]; simp
          have hiff : (⟨(Lib.itoa (u : Int)).toArray⟩ : ByteArray) = x ↔ numForm (a :: t) false = true := by
            rw [ba_iff, hm, hi]
            constructor
            · intro h
              refine numForm_of (by simp) (by omega) (fun e => ⟨?_, rfl⟩)
              by_cases hu : u = 0
              · subst hu
                rw [decDigits_zero] at h
                rw [← h]; rfl
              · exact absurd (h ▸ e) (decDigits_head u hu)
            · intro h
              exact dec_canon _ _ u rfl hd (by simp) (fun e => ((numForm_head h).2.2 e).1)
          by_cases hc : numForm (a :: t) false = true
          · rw [if_pos hc, if_pos (hiff.2 hc)]
          · rw [if_neg hc, if_neg (fun e => hc (hiff.1 e))]
theorem numB_X (x : ByteArray) : numB x = numX x := by
  unfold numX
  cases hl : x.data.toList with
  | nil =>
    rw [numB_plain x (by rw [hl]; simp), hl]
    rfl
  | cons a t =>
    by_cases ha : a = 45
    · subst ha
      rw [numB_minus x t hl]
      rfl
    · rw [numB_plain x (by rw [hl]; simp; exact ha), hl, if_neg (by simp; exact ha)]
/-! ### The words of a line -/
theorem cut_cons {b : UInt8} (hb : b ≠ 32) (t : List UInt8) : Lib.cut (b :: t) [32] = (b :: (Lib.cut t [32]).1, (Lib.cut t [32]).2.1, (Lib.cut t [32]).2.2) := by
  have hl := index_low 32 t
  have e : Lib.index (b :: t) [32] = if Lib.index t [32] == -1 then -1 else Lib.index t [32] + 1 := by
    rw [Lib.index, if_neg (by simp; exact fun e => hb e.symm)]
  by_cases h : Lib.index t [32] = -1
  · have e' : Lib.index (b :: t) [32] = -1 := by rw [e, if_pos (by simpa using h)]
    have h1 : Lib.cut (b :: t) [32] = (b :: t, [], false) := by unfold Lib.cut; rw [e', if_neg (by decide)]
    have h2 : Lib.cut t [32] = (t, [], false) := by unfold Lib.cut; rw [h, if_neg (by decide)]
    rw [h1, h2]
  · have e' : Lib.index (b :: t) [32] = Lib.index t [32] + 1 := by rw [e, if_neg (by simpa using h)]
    have h2 : Lib.cut t [32] = (t.take (Lib.index t [32]).toNat, t.drop ((Lib.index t [32]).toNat + 1), true) := by unfold Lib.cut; rw [if_pos (by omega)]; rfl
    have h1 : Lib.cut (b :: t) [32] = (b :: t.take (Lib.index t [32]).toNat, t.drop ((Lib.index t [32]).toNat + 1), true) := by
      have e2 : (Lib.index t [32] + 1).toNat = (Lib.index t [32]).toNat + 1 := by omega
      unfold Lib.cut
      rw [e', if_pos (by omega), e2]
      rfl
    rw [h1, h2]
theorem wl_cut : ∀ (l w : List UInt8), wl w l = (w ++ (Lib.cut l [32]).1) :: (if (Lib.cut l [32]).2.2 then wl [] (Lib.cut l [32]).2.1 else [])
  | [], w => by
    have : Lib.cut [] [32] = (([] : List UInt8), [], false) := rfl
    rw [this]; simp [wl]
  | b :: t, w => by
    by_cases hb : b = 32
    · subst hb
      have : Lib.cut ((32 : UInt8) :: t) [32] = ([], t, true) := by
        have hi : Lib.index ((32 : UInt8) :: t) [32] = 0 := by rw [Lib.index, if_pos (by simp)]
        unfold Lib.cut
        rw [hi]
        simp
      rw [this, wl, if_pos rfl]
      simp
    · rw [cut_cons hb, wl, if_neg hb, wl_cut t (w ++ [b])]
      simp
theorem wsB_cut (x : ByteArray) : wsB x = wd x :: (if fd x then wsB (rs x) else []) := by
  unfold wsB wlB
  show (wl [] x.data.toList).map _ = wd x :: (if fd x then (wl [] (rs x).data.toList).map _ else [])
  rw [wl_cut]
  unfold wd fd rs
  simp only [List.map_cons, List.nil_append]
  congr 1
  cases (Lib.cut x.data.toList [32]).2.2 <;> simp
theorem pairsF_W : ∀ (f : Nat) (rest : ByteArray) (more : Bool), rest.size < f → pairsF f rest more false = if more then pairsW (wsB rest) else some []
  | 0, _, _, h => absurd h (Nat.not_lt_zero _)
  | f + 1, rest, false, h => by rw [pairsF]; rfl
  | f + 1, rest, true, h => by
    rw [pairsF]
    simp only [Bool.false_eq_true, if_false, Bool.not_true, if_true]
    rw [wsB_cut rest]
    cases hf : fd rest with
    | false =>
      simp [pairsW]
    | true =>
      simp only [Bool.and_true, if_true]
      rw [wsB_cut (rs rest)]
      have h1 := rs_lt hf
      have h2 := rs_size (rs rest)
      have ih := pairsF_W f (rs (rs rest)) (fd (rs rest)) (by omega)
      rw [ih, pairsW, numB_X]
      cases isName (wd rest) with
      | false => rfl
      | true =>
        simp only [if_true]
        cases numX (wd (rs rest)) with
        | none => rfl
        | some v =>
          cases fd (rs rest) with
          | false => rfl
          | true => rfl
/-! ### What a line does, by its words -/
theorem wsB_one {x : ByteArray} (h : fd x = false) : wsB x = [wd x] := by rw [wsB_cut, h]; rfl
theorem wsB_two {x : ByteArray} (h : fd x = true) : wsB x = wd x :: wd (rs x) :: (if fd (rs x) then wsB (rs (rs x)) else []) := by rw [wsB_cut, h, if_pos rfl, wsB_cut (rs x)]
theorem wsB_ne (x : ByteArray) : ∃ a t, wsB x = a :: t := ⟨_, _, wsB_cut x⟩
theorem pairsF_wrong (f : Nat) (r : ByteArray) (m : Bool) : pairsF (f + 1) r m true = none := by rw [pairsF]; rfl
theorem doF_W (s : St) (x : ByteArray) : doF s x = doW s (wsB x) := by
  unfold doF
  simp only [numB_X]
  cases h1 : fd x with
  | false =>
    rw [wsB_one h1]
    simp only [Bool.false_and, Bool.false_eq_true, if_false, Bool.not_false, Bool.true_or]
    rw [pairsF_wrong]
    repeat' split
    all_goals first | rfl | (rename_i h; cases h)
  | true =>
    rw [wsB_two h1]
    simp only [Bool.true_and, Bool.not_true, Bool.false_or]
    by_cases a1 : wd x = ⟨#[111]⟩
    · rw [if_pos a1, a1]
      cases h2 : fd (rs x) with
      | false => simp [doW]
      | true =>
        cases h3 : fd (rs (rs x)) with
        | false => rw [wsB_one h3]; simp [doW]
        | true =>
          obtain ⟨a, t, e⟩ := wsB_ne (rs (rs (rs x)))
          rw [wsB_cut, h3, if_pos rfl, e]
          simp [doW]
    · rw [if_neg a1]
      by_cases a2 : wd x = ⟨#[112]⟩
      · rw [if_pos a2, a2]
        cases hn : (numX (wd (rs x))).isSome with
        | false =>
          rw [Bool.not_false, pairsF_wrong]
          cases h2 : fd (rs x) <;> simp [doW, hn]
        | true =>
          rw [Bool.not_true, pairsF_W _ _ _ (Nat.lt_succ_self _)]
          cases h2 : fd (rs x) with
          | false => simp [doW, hn, pairsW]
          | true =>
            simp only [if_true]
            cases hp : pairsW (wsB (rs (rs x))) <;> simp [doW, hn, hp]
      · rw [if_neg a2]
        by_cases a3 : wd x = ⟨#[114]⟩
        · rw [if_pos a3, a3]
          cases h2 : fd (rs x) with
          | false => simp [doW]
          | true =>
            obtain ⟨a, t, e⟩ := wsB_ne (rs (rs x))
            simp [e, doW]
        · rw [if_neg a3]
          by_cases a4 : wd x = ⟨#[108]⟩
          · rw [if_pos a4, a4]
            cases h2 : fd (rs x) with
            | false => simp [doW]
            | true =>
              obtain ⟨a, t, e⟩ := wsB_ne (rs (rs x))
              simp [e, doW]
          · rw [if_neg a4]
            by_cases a5 : wd x = ⟨#[99]⟩
            · rw [if_pos a5, a5]
              cases h2 : fd (rs x) with
              | false => simp [doW]
              | true =>
                cases h3 : fd (rs (rs x)) with
                | false => rw [wsB_one h3]; simp [doW]
                | true =>
                  obtain ⟨a, t, e⟩ := wsB_ne (rs (rs (rs x)))
                  rw [wsB_cut, h3, if_pos rfl, e]
                  simp [doW]
            · rw [if_neg a5]
              unfold doW
              simp [a1, a2, a3, a4, a5]
theorem lnsL_D : ∀ l, lnsL l = lnsD l
  | [] => rfl
  | b :: t => by
    rw [lnsL, lnsD, lnsL_D t]
    split
    · rename_i h; rw [h]
    · rfl
theorem redo_D (s : St) (x : ByteArray) : redoF s x = redoD s x.data.toList := by
  unfold redoF redoD
  by_cases h : x.data.toList.getLast? = some 10
  · obtain ⟨u, hu⟩ := List.getLast?_eq_some_iff.1 h
    have hs : Lib.hasSuffix x.data.toList [10] = true := List.isSuffixOf_iff_suffix.2 ⟨u, by rw [hu]⟩
    rw [if_pos h, if_pos hs, doF_W]
    congr 2
    unfold Lib.trimSuffix
    rw [if_pos hs, hu]
    simp
  · rw [if_neg h, if_neg]
    intro hs
    obtain ⟨t, ht⟩ := List.isSuffixOf_iff_suffix.1 hs
    exact h (by rw [← ht]; simp)
theorem readL_D : ∀ (l : List (List UInt8)) (s : St) (k : Nat), readL s k (l.map (fun l => ⟨l.toArray⟩)) = readD s k l
  | [], s, k => rfl
  | x :: r, s, k => by
    have e : redoF s ⟨x.toArray⟩ = redoD s x := redo_D s ⟨x.toArray⟩
    rw [List.map_cons, readL, readD, e, readL_D r]
theorem readF_D (text : ByteArray) : readF text = readD St.new 0 (lnsD text.data.toList) := by
  unfold readF lns
  rw [readL_D, lnsL_D]
end Go.Annal
namespace Go.Proofs.YtjnmoddcodnadaaGreatDoor
open Go.RowKit Go.Annal Go.Sort
theorem Ls.Grows.same (d : Ls) : Ls.Grows d d := ⟨⟨Nat.le_refl _, Nat.le_succ _⟩, Nat.le_add_right _ _, Nat.le_add_right _ _, Nat.le_succ _⟩
/-- The document's Read, where the text is one. -/
theorem readR_some {text : ByteArray} {s : St} {w : World} (hx : text.size < 1000000000) (h : readF text = (some s, 0, 0)) :
    Calls Tryz.prog 71 #[.string text] w fun e w' => e = .returned (.tuple #[.pointer (some ⟨w.heap.size, 0, none⟩), .int .i64 0, .int .i64 0]) ∧ Hid (Below w.heap.size w w' ∧ ∃ Fd, DocIs w' w.heap.size s Fd ∧ ∀ b, Fd b → w.heap.size ≤ b) := by
  refine (readR_any text w hx).mono ?_
  rintro e w' hR
  rw [← readF_D, h] at hR
  obtain ⟨h1, h2, h3, h4⟩ := hR
  exact ⟨h2, h1, h4⟩
theorem readR_none {text : ByteArray} {k : Nat} {en : Int} {w : World} (hx : text.size < 1000000000) (h : readF text = (none, k, en)) :
    Calls Tryz.prog 71 #[.string text] w fun e w' => e = .returned (.tuple #[.pointer none, .int .i64 k, .int .i64 en]) ∧ Hid (Below w.heap.size w w') := by
  refine (readR_any text w hx).mono ?_
  rintro e w' hR
  rw [← readF_D, h] at hR
  exact ⟨hR.2, hR.1⟩
set_option maxHeartbeats 4000000 in
set_option maxRecDepth 100000 in
theorem reads_any (H L : Nat) (d : Ls) (text : ByteArray) (w : World) (h : LawIs H w L d) (hnb : d.nb ≤ 100000000) (ht : Tabs w) (hx : text.size < 1000000000) :
    Calls Tryz.prog 36 #[.pointer (some ⟨L, 0, none⟩), .string text] w fun r w' => r = .returned (.bool true) ∧ ∃ d', LawIs H w' L d' ∧ Ls.Grows d d' ∧ Turn (fun b => H ≤ b) w w' := by
  obtain ⟨i0, hi0, hz0, hz1, hz2⟩ := info_parts Tryz.infoPair
  have HL : Hid (type_of% h) := h
  have CR : Hid (type_of% (read_F text w ht hx)) := read_F text w ht hx
  clear h ht
  go_enter Tryz.func36, Tryz.ntmps36
  go_wp2_with fail
  refine Calls.mono CR.out ?_
  clear CR
  rintro e w1 ⟨hb1, ⟨s, Fp, h1, h2, h3, h4, rfl, h6, h7⟩ | ⟨p, x, s, h1, h2, h3, h4, rfl⟩⟩
  · have CD : Hid (type_of% (readR_some (w := w1) hx h1)) := readR_some (w := w1) hx h1
    have H6 : Hid (s.Ok ∧ ProgIs w1 (w.heap.size + 3) s Fp ∧ ∀ b, Fp b → w.heap.size ≤ b) := ⟨h2, h6, h7⟩
    clear h1 h2 h3 h4 h6 h7
    go_wp2_with (go_at_call 71; (with_reducible refine Calls.mono CD.out ?_); rintro e w2 ⟨rfl, k2⟩)
    have hb2 : Below w.heap.size w w2 := hb1.trans (k2.out.1.mono hb1.size)
    have hL2 := HL.out.mv hb2
    have cL := blk_cell' hL2.bk (o := 0) rfl
    have fL := blk_free hL2.bk 0
    have hLlt := blk_lt hL2.bk
    have hbL : d.vb.ownBlock ≠ some L := fun e => by
      obtain ⟨c, fz, hc⟩ := owns_kind HL.out.rb L e
      rw [HL.out.bk] at hc; simp at hc
    have hHw : H ≤ w2.heap.size := by have := hL2.lo; omega
    go_wp2_with (first
      | (go_at_call 40; (with_reducible refine Calls.mono (num_any _ _) ?_); rintro e wx ⟨rfl, hw⟩; rw [hw]; clear hw wx)
      | (at_builtin; go_loud (refine wpList_append_lies _ rfl _ _ 47 rfl H 94 i0 _ 2 16 Tryz.underlying47 hi0 hz0 hz1 hz2 rfl (by decide) d.vb d.nb _ rfl (hL2.rb.alloc _) ⟨w2.heap.size, 0, none⟩ 1 1 [.pointer (some ⟨w.heap.size + 3, 0, none⟩), .pointer (some ⟨w1.heap.size, 0, none⟩)] rfl rfl (World.news_of_block (cs := #[.pointer (some ⟨w.heap.size + 3, 0, none⟩), .pointer (some ⟨w1.heap.size, 0, none⟩)]) (heap_alloc_new w2 _)) (by simp [Value.oneCell']) (by decide) (by unfold maxLen; omega) (by omega) (by simp; omega) (w2.heap.size + 1) (by simp) ?_); intro g6 cap6 w6 hown6 hg6 hat6 hlt6; have hL6 : w6.heap[L]? = some (.cells #[d.vb, d.vl, d.vi, d.vt, d.v0, d.v1] 52 (0, 0)) := (hg6.block _ (by simp; omega) (Ne.symm hbL)).trans (Grew.blk ((Grew.refl w2).alloc _) hL2.bk); have cL6 := blk_cell' hL6 (o := 0) rfl; have fL6 := blk_free hL6 0))
    all_goals go_ret
    all_goals
      have T6 : Turn (fun b => d.vb.ownBlock = some b ∨ b = L) w2 (w6.setCell ⟨L, 0, none⟩ (.slice (some ⟨g6, 0, none⟩) (d.nb + 1) cap6)) := (Turn.of_grown ((Turn.refl _ w2).alloc _) hg6 (fun k hk _ => .inl hk)).set _ _ (fun _ => .inr rfl)
      have T : Turn (fun b => d.vb.ownBlock = some b ∨ b = L) w (w6.setCell ⟨L, 0, none⟩ (.slice (some ⟨g6, 0, none⟩) (d.nb + 1) cap6)) := (Turn.of_below hb2).trans T6
      have hvlt : ∀ k, d.vb.ownBlock = some k → k < w.heap.size := fun k e => (HL.out.rb.lt k e).2
      have hwL := blk_lt HL.out.bk
      have hs1 := hb1.size
      obtain ⟨k21, Fd, hD, hFd⟩ := k2.out
      obtain ⟨hok, hP, hFp⟩ := H6.out
      have hP2 : ProgIs w2 (w.heap.size + 3) s Fp := hP.turn (S := fun _ => False) (Turn.of_below k21) (fun _ _ h => h)
      refine ⟨rfl, d.addAny (w.heap.size + 3) w1.heap.size s Fp Fd (.slice (some ⟨g6, 0, none⟩) (d.nb + 1) cap6), HL.out.bookAny T (blk_set hL6 0 _) ?_ (hP2.turn T6 (fun k hk hs => ?_)) (hD.turn T6 (fun k hk hs => ?_)) hok hFp (fun k hk => ?_) (fun k hk hk' => ?_), ⟨⟨Nat.le_succ _, Nat.le_refl _⟩, Nat.le_add_right _ _, Nat.le_add_right _ _, Nat.le_succ _⟩, T.mono (fun k _ hk => hk.elim (fun e => (HL.out.rb.lt k e).1) (fun e => by rw [e]; exact HL.out.lo))⟩
      · have e1 : pairCells (upd d.B d.nb (w.heap.size + 3)) (upd d.R d.nb w1.heap.size) (d.nb + 1) = pairCells d.B d.R d.nb ++ [.pointer (some ⟨w.heap.size + 3, 0, none⟩), .pointer (some ⟨w1.heap.size, 0, none⟩)] := by
          unfold pairCells
          rw [List.range_succ, List.flatMap_append]
          congr 1
          · apply flat_congr
            intro i hi
            rw [upd_ne _ _ (by omega), upd_ne _ _ (by omega)]
          · simp [upd]
        rw [e1]
        exact ownsRow_setCell_other hown6 (a := ⟨L, 0, none⟩) (fun e => by
          obtain ⟨c, fz, hc⟩ := owns_kind hown6 L e
          rw [hL6] at hc; simp at hc) _
      · have := hFp k hk
        rcases hs with e | e
        · have := hvlt k e; omega
        · omega
      · have := hFd k hk
        rcases hs with e | e
        · have := hvlt k e; omega
        · omega
      · have := hFd k hk; omega
      · have := hP.lt hk; have := hFd k hk'; omega
  · have CD : Hid (type_of% (readR_none (w := w1) hx h4)) := readR_none (w := w1) hx h4
    generalize (redoF s x).1 = en at CD
    generalize p.length + 1 = kn at CD
    clear h1 h2 h3 h4
    go_wp2_with (first
      | (go_at_call 71; (with_reducible refine Calls.mono CD.out ?_); rintro e w2 ⟨rfl, k2⟩)
      | (go_at_call 40; (with_reducible refine Calls.mono (num_any _ _) ?_); rintro e wx ⟨rfl, hw⟩; rw [hw]; clear hw wx))
    all_goals go_ret
    all_goals
      have hb2 : Below w.heap.size w w2 := hb1.trans (k2.out.mono hb1.size)
      exact ⟨rfl, d, HL.out.mv hb2, Ls.Grows.same d, Turn.of_below hb2⟩
end Go.Proofs.YtjnmoddcodnadaaGreatDoor
namespace Go.Proofs.YtjnmoddcodnadaaGreatDoor
open Go.RowKit Go.Annal Go.Sort
theorem doc_text {w : World} {R : Nat} {s : St} {Fd : Nat → Prop} (h : DocIs w R s Fd) : w.cell? ⟨R, 3, none⟩ = some (.string s.tx) := by
  obtain ⟨ada, ade, ca, ce, gl, cl, h1, h2⟩ := h
  exact blk_cell' h1.bk (o := 3) rfl
theorem tx_short {s : St} (h : s.Ok) : s.tx.size < 1000000000 := by
  have h1 := h.ts
  have h2 := h.ne
  have h3 := h.na
  have h4 := h.lk
  omega
set_option maxHeartbeats 4000000 in
set_option maxRecDepth 100000 in
theorem asks_write (H L i : Nat) (d : Ls) (kw A B C : Int) (name : ByteArray) (lv : Value) (w : World) (h : LawIs H w L d) (hi : i < d.nb) (ht : Tabs w) :
    Calls Tryz.prog 45 #[.pointer (some ⟨L, 0, none⟩), .agg #[.pointer (some ⟨d.B i, 0, none⟩), .pointer (some ⟨d.R i, 0, none⟩)], .agg #[.int .i64 10, .int .i64 kw, .string name, .int .i64 A, .int .i64 B, .int .i64 C, lv]] w fun r w' => r = .returned (.bool true) ∧ LawIs H w' L d ∧ Below w.heap.size w w' := by
  have HL : Hid (LawIs H w L d) := h
  have hA := argAt w (d.B i) (d.R i) 10 kw A B C name lv
  obtain ⟨W0, hW0⟩ : ∃ W0, W0 = (w.alloc (.cells #[.pointer (some ⟨d.B i, 0, none⟩), .pointer (some ⟨d.R i, 0, none⟩)] 94)).alloc (.cells #[.int .i64 10, .int .i64 kw, .string name, .int .i64 A, .int .i64 B, .int .i64 C, lv] 56) := ⟨_, rfl⟩
  rw [← hW0] at hA
  have hb0 : Below w.heap.size w W0 := by rw [hW0]; exact (((Grew.refl w).alloc _).alloc _).below
  have HA : Hid (type_of% hA) := hA
  have HW : Hid (type_of% hW0) := hW0
  have C1 : Hid (type_of% (progWrite (d.B i) (d.st i) (d.Fp i) W0 ((h.mv hb0).pr i hi) (h.ok i hi) (ht.below hb0))) := progWrite (d.B i) (d.st i) (d.Fp i) W0 ((h.mv hb0).pr i hi) (h.ok i hi) (ht.below hb0)
  have HD : Hid (∀ W, Below w.heap.size w W → W.cell? ⟨d.R i, 3, none⟩ = some (.string (d.st i).tx)) := fun W hW => doc_text ((HL.out.mv hW).dc i hi)
  clear h hA hW0 ht
  generalize (d.st i).tx = tx at C1 HD
  generalize d.B i = Bi at *
  generalize d.R i = Ri at *
  go_enter Tryz.func45, Tryz.ntmps45
  go_wp2_with (go_at_call 11; rw [← HW.out]; (with_reducible refine Calls.mono C1.out ?_); rintro e w1 ⟨rfl, hb1⟩; obtain ⟨p0, p1, o0, o1, o2, o3, o4, o5, o6⟩ := HA.out.mv hb1; have hb2 : Below w.heap.size w w1 := hb0.trans (hb1.mono hb0.size); have hdc := HD.out _ hb2)
  go_ret
  exact ⟨rfl, HL.out.mv hb2, hb2⟩
set_option maxHeartbeats 4000000 in
set_option maxRecDepth 100000 in
theorem step_writes (H L : Nat) (d : Ls) (kw A B C : Int) (name : ByteArray) (lv : Value) (w : World) (h : LawIs H w L d) (hnb : d.nb ≤ 100000000) (hn0 : 0 < d.nb) (h1 : -9223372036854775808 ≤ kw) (h2 : kw ≤ 9223372036854775807) (ht : Tabs w) :
    Calls Tryz.prog 17 #[.pointer (some ⟨L, 0, none⟩), .agg #[.int .i64 10, .int .i64 kw, .string name, .int .i64 A, .int .i64 B, .int .i64 C, lv]] w fun r w' => r = .returned (.bool true) ∧ ∃ d', LawIs H w' L d' ∧ Ls.Grows d d' ∧ Turn (fun b => H ≤ b) w w' := by
  have HL : Hid (LawIs H w L d) := h
  have HT : Hid (Tabs w) := ht
  clear ht
  obtain ⟨ip, hip⟩ : ∃ ip : Nat, pickI kw d.nb = ip := ⟨(pickI kw d.nb).toNat, by have := pick_lt kw d.nb hn0; omega⟩
  have hipl : ip < d.nb := by have := pick_lt kw d.nb hn0; omega
  have CK : Hid (∀ W, Calls Tryz.prog 37 #[.int .i64 kw, .int .i64 d.nb] W fun r w' => r = .returned (.int .i64 ip) ∧ w' = W) := fun W => by
    have := pick_any kw d.nb W h1 h2 (by omega) (by omega)
    rw [hip] at this
    exact this
  obtain ⟨adb, cb, gb, eb, hcb, hab, hbc⟩ := owns_view h.rb
  obtain ⟨rfl, _, _⟩ := hab (by omega)
  have cL := blk_cell' h.bk (o := 0) rfl
  rw [eb] at cL
  have q0 : w.cell? ⟨gb, ip * 2, none⟩ = some (.pointer (some ⟨d.B ip, 0, none⟩)) := by
    rw [hbc (ip * 2) (by omega)]
    exact flat_get 2 (fun i => [Value.pointer (some ⟨d.B i, 0, none⟩), .pointer (some ⟨d.R i, 0, none⟩)]) (fun _ => rfl) d.nb ip 0 hipl (by omega)
  have q1 : w.cell? ⟨gb, ip * 2 + 1, none⟩ = some (.pointer (some ⟨d.R ip, 0, none⟩)) := by
    rw [hbc (ip * 2 + 1) (by omega)]
    exact flat_get 2 (fun i => [Value.pointer (some ⟨d.B i, 0, none⟩), .pointer (some ⟨d.R i, 0, none⟩)]) (fun _ => rfl) d.nb ip 1 hipl (by omega)
  have hi1 : (0 : Int) ≤ (ip : Int) := by omega
  have hi2 : (ip : Int) < (d.nb : Int) := by omega
  have hn1 : ¬ (d.nb : Int) = 0 := by omega
  clear h hbc eb hip
  have hga : Grew w (w.alloc (.cells #[.int .i64 10, .int .i64 kw, .string name, .int .i64 A, .int .i64 B, .int .i64 C, lv] 56)) := (Grew.refl w).alloc _
  have cL' := hga.cell' cL
  have q0' := hga.cell' q0
  have q1' := hga.cell' q1
  go_enter Tryz.func17, Tryz.ntmps17
  go_wp2_with (first
    | (go_at_call 37; refine Calls.mono (CK.out _) ?_; rintro e wx ⟨rfl, hw⟩; rw [hw]; clear hw wx))
  have hne1 : L ≠ w.heap.size := by have := blk_lt HL.out.bk; omega
  go_region_held3 (fun w' => w'.cell? ⟨L, 0, none⟩ = some (.slice (some ⟨gb, 0, none⟩) d.nb cb) ∧ w'.cell? ⟨w.heap.size, 1, none⟩ = some (.int .i64 kw) ∧ w'.cell? ⟨gb, ip * 2, none⟩ = some (.pointer (some ⟨d.B ip, 0, none⟩)) ∧ w'.cell? ⟨gb, ip * 2 + 1, none⟩ = some (.pointer (some ⟨d.R ip, 0, none⟩))) (go_keep) (first | (go_at_call 37; refine Calls.mono (CK.out _) ?_; rintro e wx ⟨rfl, hw⟩; rw [hw]; clear hw wx))
  all_goals
    have hb2 : Below w.heap.size w ((w.alloc (.cells #[.int .i64 10, .int .i64 kw, .string name, .int .i64 A, .int .i64 B, .int .i64 C, lv] 56)).alloc (.cells #[.pointer (some ⟨d.B ip, 0, none⟩), .pointer (some ⟨d.R ip, 0, none⟩)] 94)).drew := ((((Grew.refl w).alloc _).alloc _).drew).below
    have hx1 : ((w.alloc (.cells #[.int .i64 10, .int .i64 kw, .string name, .int .i64 A, .int .i64 B, .int .i64 C, lv] 56)).alloc (.cells #[.pointer (some ⟨d.B ip, 0, none⟩), .pointer (some ⟨d.R ip, 0, none⟩)] 94)).drew.heap[w.heap.size]? = some (.cells #[.int .i64 10, .int .i64 kw, .string name, .int .i64 A, .int .i64 B, .int .i64 C, lv] 56 (0, 0)) := Grew.blk ((Grew.refl _).alloc _).drew (heap_alloc_new w _)
    have hx2 : ((w.alloc (.cells #[.int .i64 10, .int .i64 kw, .string name, .int .i64 A, .int .i64 B, .int .i64 C, lv] 56)).alloc (.cells #[.pointer (some ⟨d.B ip, 0, none⟩), .pointer (some ⟨d.R ip, 0, none⟩)] 94)).drew.heap[w.heap.size + 1]? = some (.cells #[.pointer (some ⟨d.B ip, 0, none⟩), .pointer (some ⟨d.R ip, 0, none⟩)] 94 (0, 0)) := by
      have := heap_alloc_new (w.alloc (.cells #[.int .i64 10, .int .i64 kw, .string name, .int .i64 A, .int .i64 B, .int .i64 C, lv] 56)) (.cells #[.pointer (some ⟨d.B ip, 0, none⟩), .pointer (some ⟨d.R ip, 0, none⟩)] 94)
      rwa [World.size_alloc] at this
    obtain ⟨W2, hW2⟩ : ∃ W2, ((w.alloc (.cells #[.int .i64 10, .int .i64 kw, .string name, .int .i64 A, .int .i64 B, .int .i64 C, lv] 56)).alloc (.cells #[.pointer (some ⟨d.B ip, 0, none⟩), .pointer (some ⟨d.R ip, 0, none⟩)] 94)).drew = W2 := ⟨_, rfl⟩
    rw [hW2] at hb2 hx1 hx2 ⊢
    clear hW2 cL' q0' q1' hga cL q0 q1
  all_goals
    have a0 := blk_cell' hx1 (o := 0) rfl
    have a1 := blk_cell' hx1 (o := 1) rfl
    have a2 := blk_cell' hx1 (o := 2) rfl
    have a3 := blk_cell' hx1 (o := 3) rfl
    have a4 := blk_cell' hx1 (o := 4) rfl
    have a5 := blk_cell' hx1 (o := 5) rfl
    have a6 := blk_cell' hx1 (o := 6) rfl
    have b0 := blk_cell' hx2 (o := 0) rfl
    have b1 := blk_cell' hx2 (o := 1) rfl
    have C1 : Hid (type_of% (asks_write H L ip d kw A B C name lv W2 (HL.out.mv hb2) hipl (HT.out.below hb2))) := asks_write H L ip d kw A B C name lv W2 (HL.out.mv hb2) hipl (HT.out.below hb2)
  go_wp2_with (go_at_call 45; refine Calls.mono C1.out ?_; rintro e w3 ⟨rfl, hd', hb3⟩)
  all_goals go_ret
  all_goals exact ⟨rfl, d, hd', ⟨⟨Nat.le_refl _, Nat.le_succ _⟩, Nat.le_add_right _ _, Nat.le_add_right _ _, Nat.le_succ _⟩, (Turn.of_below hb2).trans (Turn.of_below hb3)⟩
set_option maxHeartbeats 4000000 in
set_option maxRecDepth 100000 in
theorem step_read (H L : Nat) (d : Ls) (kw A B C : Int) (name : ByteArray) (lv : Value) (w : World) (h : LawIs H w L d) (hnb : d.nb ≤ 100000000) (ht : Tabs w) (hs : name.size < 1000000000) :
    Calls Tryz.prog 17 #[.pointer (some ⟨L, 0, none⟩), .agg #[.int .i64 11, .int .i64 kw, .string name, .int .i64 A, .int .i64 B, .int .i64 C, lv]] w fun r w' => r = .returned (.bool true) ∧ ∃ d', LawIs H w' L d' ∧ Ls.Grows d d' ∧ Turn (fun b => H ≤ b) w w' := by
  have hb1 : Below w.heap.size w (w.alloc (.cells #[.int .i64 11, .int .i64 kw, .string name, .int .i64 A, .int .i64 B, .int .i64 C, lv] 56)) := ((Grew.refl w).alloc _).below
  have C1 : Hid (type_of% (reads_any H L d name _ (h.mv hb1) hnb (ht.below hb1) hs)) := reads_any H L d name _ (h.mv hb1) hnb (ht.below hb1) hs
  clear h ht
  go_enter Tryz.func17, Tryz.ntmps17
  go_wp2_with (go_at_call 36; (with_reducible refine Calls.mono C1.out ?_); rintro e w3 ⟨rfl, d', hd', hgr, hT⟩)
  go_ret
  exact ⟨rfl, d', hd', hgr, (Turn.of_below hb1).trans hT⟩
set_option maxHeartbeats 4000000 in
set_option maxRecDepth 100000 in
theorem step_again (H L : Nat) (d : Ls) (kw A B C : Int) (name : ByteArray) (lv : Value) (w : World) (h : LawIs H w L d) (hnb : d.nb ≤ 100000000) (hn0 : 0 < d.nb) (h1 : -9223372036854775808 ≤ kw) (h2 : kw ≤ 9223372036854775807) (ht : Tabs w) :
    Calls Tryz.prog 17 #[.pointer (some ⟨L, 0, none⟩), .agg #[.int .i64 12, .int .i64 kw, .string name, .int .i64 A, .int .i64 B, .int .i64 C, lv]] w fun r w' => r = .returned (.bool true) ∧ ∃ d', LawIs H w' L d' ∧ Ls.Grows d d' ∧ Turn (fun b => H ≤ b) w w' := by
  have HL : Hid (LawIs H w L d) := h
  have HT : Hid (Tabs w) := ht
  clear ht
  obtain ⟨ip, hip⟩ : ∃ ip : Nat, pickI kw d.nb = ip := ⟨(pickI kw d.nb).toNat, by have := pick_lt kw d.nb hn0; omega⟩
  have hipl : ip < d.nb := by have := pick_lt kw d.nb hn0; omega
  have CK : Hid (∀ W, Calls Tryz.prog 37 #[.int .i64 kw, .int .i64 d.nb] W fun r w' => r = .returned (.int .i64 ip) ∧ w' = W) := fun W => by
    have := pick_any kw d.nb W h1 h2 (by omega) (by omega)
    rw [hip] at this
    exact this
  obtain ⟨adb, cb, gb, eb, hcb, hab, hbc⟩ := owns_view h.rb
  obtain ⟨rfl, _, _⟩ := hab (by omega)
  have cL := blk_cell' h.bk (o := 0) rfl
  rw [eb] at cL
  have q0 : w.cell? ⟨gb, ip * 2, none⟩ = some (.pointer (some ⟨d.B ip, 0, none⟩)) := by
    rw [hbc (ip * 2) (by omega)]
    exact flat_get 2 (fun i => [Value.pointer (some ⟨d.B i, 0, none⟩), .pointer (some ⟨d.R i, 0, none⟩)]) (fun _ => rfl) d.nb ip 0 hipl (by omega)
  have q1 : w.cell? ⟨gb, ip * 2 + 1, none⟩ = some (.pointer (some ⟨d.R ip, 0, none⟩)) := by
    rw [hbc (ip * 2 + 1) (by omega)]
    exact flat_get 2 (fun i => [Value.pointer (some ⟨d.B i, 0, none⟩), .pointer (some ⟨d.R i, 0, none⟩)]) (fun _ => rfl) d.nb ip 1 hipl (by omega)
  have hi1 : (0 : Int) ≤ (ip : Int) := by omega
  have hi2 : (ip : Int) < (d.nb : Int) := by omega
  have hn1 : ¬ (d.nb : Int) = 0 := by omega
  clear h hbc eb hip
  have hga : Grew w (w.alloc (.cells #[.int .i64 12, .int .i64 kw, .string name, .int .i64 A, .int .i64 B, .int .i64 C, lv] 56)) := (Grew.refl w).alloc _
  have cL' := hga.cell' cL
  have q0' := hga.cell' q0
  have q1' := hga.cell' q1
  go_enter Tryz.func17, Tryz.ntmps17
  go_wp2_with (first
    | (go_at_call 37; refine Calls.mono (CK.out _) ?_; rintro e wx ⟨rfl, hw⟩; rw [hw]; clear hw wx))
  have hne1 : L ≠ w.heap.size := by have := blk_lt HL.out.bk; omega
  go_region_held3 (fun w' => w'.cell? ⟨L, 0, none⟩ = some (.slice (some ⟨gb, 0, none⟩) d.nb cb) ∧ w'.cell? ⟨w.heap.size, 1, none⟩ = some (.int .i64 kw) ∧ w'.cell? ⟨gb, ip * 2, none⟩ = some (.pointer (some ⟨d.B ip, 0, none⟩)) ∧ w'.cell? ⟨gb, ip * 2 + 1, none⟩ = some (.pointer (some ⟨d.R ip, 0, none⟩))) (go_keep) (first | (go_at_call 37; refine Calls.mono (CK.out _) ?_; rintro e wx ⟨rfl, hw⟩; rw [hw]; clear hw wx))
  all_goals
    have hb2 : Below w.heap.size w ((w.alloc (.cells #[.int .i64 12, .int .i64 kw, .string name, .int .i64 A, .int .i64 B, .int .i64 C, lv] 56)).alloc (.cells #[.pointer (some ⟨d.B ip, 0, none⟩), .pointer (some ⟨d.R ip, 0, none⟩)] 94)).drew := ((((Grew.refl w).alloc _).alloc _).drew).below
    have hx1 : ((w.alloc (.cells #[.int .i64 12, .int .i64 kw, .string name, .int .i64 A, .int .i64 B, .int .i64 C, lv] 56)).alloc (.cells #[.pointer (some ⟨d.B ip, 0, none⟩), .pointer (some ⟨d.R ip, 0, none⟩)] 94)).drew.heap[w.heap.size]? = some (.cells #[.int .i64 12, .int .i64 kw, .string name, .int .i64 A, .int .i64 B, .int .i64 C, lv] 56 (0, 0)) := Grew.blk ((Grew.refl _).alloc _).drew (heap_alloc_new w _)
    have hx2 : ((w.alloc (.cells #[.int .i64 12, .int .i64 kw, .string name, .int .i64 A, .int .i64 B, .int .i64 C, lv] 56)).alloc (.cells #[.pointer (some ⟨d.B ip, 0, none⟩), .pointer (some ⟨d.R ip, 0, none⟩)] 94)).drew.heap[w.heap.size + 1]? = some (.cells #[.pointer (some ⟨d.B ip, 0, none⟩), .pointer (some ⟨d.R ip, 0, none⟩)] 94 (0, 0)) := by
      have := heap_alloc_new (w.alloc (.cells #[.int .i64 12, .int .i64 kw, .string name, .int .i64 A, .int .i64 B, .int .i64 C, lv] 56)) (.cells #[.pointer (some ⟨d.B ip, 0, none⟩), .pointer (some ⟨d.R ip, 0, none⟩)] 94)
      rwa [World.size_alloc] at this
    obtain ⟨W2, hW2⟩ : ∃ W2, ((w.alloc (.cells #[.int .i64 12, .int .i64 kw, .string name, .int .i64 A, .int .i64 B, .int .i64 C, lv] 56)).alloc (.cells #[.pointer (some ⟨d.B ip, 0, none⟩), .pointer (some ⟨d.R ip, 0, none⟩)] 94)).drew = W2 := ⟨_, rfl⟩
    rw [hW2] at hb2 hx1 hx2 ⊢
    clear hW2 cL' q0' q1' hga cL q0 q1
  all_goals
    have a0 := blk_cell' hx1 (o := 0) rfl
    have b0 := blk_cell' hx2 (o := 0) rfl
    have b1 := blk_cell' hx2 (o := 1) rfl
    have d3 := doc_text ((HL.out.mv hb2).dc ip hipl)
    have C1 : Hid (type_of% (reads_any H L d (d.st ip).tx W2 (HL.out.mv hb2) hnb (HT.out.below hb2) (tx_short (HL.out.ok ip hipl)))) := reads_any H L d (d.st ip).tx W2 (HL.out.mv hb2) hnb (HT.out.below hb2) (tx_short (HL.out.ok ip hipl))
  go_wp2_with (go_at_call 36; (with_reducible refine Calls.mono C1.out ?_); rintro e w3 ⟨rfl, d', hd', hgr, hT⟩)
  all_goals go_ret
  all_goals exact ⟨rfl, d', hd', hgr, (Turn.of_below hb2).trans hT⟩
end Go.Proofs.YtjnmoddcodnadaaGreatDoor
namespace Go.Proofs.YtjnmoddcodnadaaGreatDoor
open Go.RowKit Go.Annal Go.Sort
/-- One step of a script, whatever it is. -/
theorem step_anyT (H L : Nat) (d : Ls) (kk kw A B C : Int) (name : ByteArray) (n cap : Nat) (lad : Option Addr) (xa : Nat → ByteArray) (xm : Nat → Int) (w : World) (h : LawIs H w L d) (hn0 : 0 < d.nb) (hnb : d.nb ≤ 100000000) (hnl : d.nl ≤ 100000000) (hni : d.ni ≤ 100000000) (hnt : d.nt ≤ 100000000) (hk : kk ≤ 12) (h1 : -9223372036854775808 ≤ kw) (h2 : kw ≤ 9223372036854775807) (hs : name.size < 1000000000) (ht : Tabs w)
    (hLn : LinesV w lad n cap xa xm) (hnil : lad = none → cap = 0) (hap : ∀ a, lad = some a → 0 < n → a.block < w.heap.size ∧ ∀ j, j < d.nb → ¬ d.Fp j a.block ∧ ¬ d.Fd j a.block) :
    Calls Tryz.prog 17 #[.pointer (some ⟨L, 0, none⟩), .agg #[.int .i64 kk, .int .i64 kw, .string name, .int .i64 A, .int .i64 B, .int .i64 C, .slice lad n cap]] w fun r w' => r = .returned (.bool true) ∧ ∃ d', LawIs H w' L d' ∧ Ls.Grows d d' ∧ Turn (fun b => H ≤ b) w w' := by
  by_cases k9 : kk ≤ 9
  · exact step_any H L d kk kw A B C name n cap lad xa xm w h hn0 hnb hnl hni hnt k9 h1 h2 (by omega) hLn hnil hap
  · have : kk = 10 ∨ kk = 11 ∨ kk = 12 := by omega
    rcases this with rfl | rfl | rfl
    · exact step_writes H L d kw A B C name _ w h hnb hn0 h1 h2 ht
    · exact step_read H L d kw A B C name _ w h hnb ht hs
    · exact step_again H L d kw A B C name _ w h hnb hn0 h1 h2 ht
set_option maxHeartbeats 4000000 in
set_option maxRecDepth 100000 in
theorem playedT (last : Int) (hla : last ≤ 12) (sg so sn sc : Nat) (sad : Option Addr) (kd kw A B C : Nat → Int) (nm : Nat → ByteArray) (lad : Nat → Option Addr) (ln lc : Nat → Nat) (xa : Nat → Nat → ByteArray) (xm : Nat → Nat → Int) (w : World) (hS : ScriptAt w sg so sn kd kw A B C nm lad ln lc xa xm) (hsa : 0 < sn → sad = some ⟨sg, so, none⟩) (hsn : sn ≤ 2000000) (ht : Tabs w) :
    Calls Tryz.prog 8 #[.slice sad sn sc, .int .i64 last] w fun r w' => r = .returned (.bool true) ∧ Below w.heap.size w w' := by
  have HS : Hid (type_of% hS) := hS
  have HT : Hid (type_of% ht) := ht
  clear hS ht
  go_enter Tryz.func8, Tryz.ntmps8
  have hL0 : LawIs w.heap.size (w.alloc (.cells #[.slice none 0 0, .slice none 0 0, .slice none 0 0, .slice none 0 0, .slice none 0 0, .slice none 0 0] 52)) w.heap.size Ls.none := lawNone (Nat.le_refl _) (heap_alloc_new w _)
  have hT0 : Turn (fun b => w.heap.size ≤ b) w (w.alloc (.cells #[.slice none 0 0, .slice none 0 0, .slice none 0 0, .slice none 0 0, .slice none 0 0, .slice none 0 0] 52)) := (Turn.refl _ w).alloc _
  obtain ⟨W0, hW0⟩ : ∃ W0, W0 = w.alloc (.cells #[.slice none 0 0, .slice none 0 0, .slice none 0 0, .slice none 0 0, .slice none 0 0, .slice none 0 0] 52) := ⟨_, rfl⟩
  rw [← hW0] at hL0 hT0
  have HW0 : Hid (type_of% hW0) := hW0
  have HL0 : Hid (type_of% hL0) := hL0
  have HT0 : Hid (type_of% hT0) := hT0
  clear hW0 hL0 hT0
  go_wp2_with fail
  rw [← HW0.out]
  refine Calls.mono (step_new w.heap.size w.heap.size Ls.none 0 0 0 0 ⟨#[]⟩ _ W0 HL0.out (Nat.zero_le _)) ?_
  rintro e w1 ⟨rfl, d1, hd1, hg1, hn1, hT1⟩
  go_wp2_with fail
  have F1 : Few d1 1 := ⟨by rw [hn1]; exact Nat.succ_pos _, by rw [hn1]; exact Nat.le_refl _, hg1.nl, hg1.ni, hg1.nt⟩
  refine Calls.mono (step_open w.heap.size w.heap.size d1 0 0 0 0 ⟨#[99, 97, 115, 104]⟩ _ w1 hd1 (by have := F1.nb; omega) F1.b0 (by decide) (by decide) (by decide)) ?_
  rintro e w2 ⟨rfl, d2, hd2, hg2, hT2⟩
  have F2 := F1.grow hg2
  go_wp2_with fail
  refine Calls.mono (step_open w.heap.size w.heap.size d2 0 1 0 0 ⟨#[114, 101, 110, 116]⟩ _ w2 hd2 (by have := F2.nb; omega) F2.b0 (by decide) (by decide) (by decide)) ?_
  rintro e w3 ⟨rfl, d3, hd3, hg3, hT3⟩
  have F3 := F2.grow hg3
  go_wp2_with fail
  have hbl : (w3.alloc (.cells #[.string ⟨#[99, 97, 115, 104]⟩, .int .i64 (-30), .string ⟨#[114, 101, 110, 116]⟩, .int .i64 30] 58)).heap[w3.heap.size]? = some (.cells #[.string ⟨#[99, 97, 115, 104]⟩, .int .i64 (-30), .string ⟨#[114, 101, 110, 116]⟩, .int .i64 30] 58 (0, 0)) := heap_alloc_new w3 _
  have hLA : LinesAt (w3.alloc (.cells #[.string ⟨#[99, 97, 115, 104]⟩, .int .i64 (-30), .string ⟨#[114, 101, 110, 116]⟩, .int .i64 30] 58)) w3.heap.size 0 2 (fun k => if k = 0 then ⟨#[99, 97, 115, 104]⟩ else ⟨#[114, 101, 110, 116]⟩) (fun k => if k = 0 then -30 else 30) := by
    refine ⟨fun k hk => ?_, fun k hk => ?_⟩
    · have : k = 0 ∨ k = 1 := by omega
      rcases this with rfl | rfl
      · exact blk_cell' hbl (o := 0) rfl
      · exact blk_cell' hbl (o := 2) rfl
    · have : k = 0 ∨ k = 1 := by omega
      rcases this with rfl | rfl
      · exact blk_cell' hbl (o := 1) rfl
      · exact blk_cell' hbl (o := 3) rfl
  have hb34 : Below w3.heap.size w3 (w3.alloc (.cells #[.string ⟨#[99, 97, 115, 104]⟩, .int .i64 (-30), .string ⟨#[114, 101, 110, 116]⟩, .int .i64 30] 58)) := ((Grew.refl w3).alloc _).below
  refine Calls.mono (step_post w.heap.size w.heap.size d3 0 5 0 0 ⟨#[]⟩ 2 2 (some ⟨w3.heap.size, 0, none⟩) _ (hd3.mv hb34) (by have := F3.nb; omega) F3.b0 (by decide) (by decide) (by have := F3.nt; omega) (fun k => if k = 0 then ⟨#[99, 97, 115, 104]⟩ else ⟨#[114, 101, 110, 116]⟩) (fun k => if k = 0 then -30 else 30) ⟨Nat.le_refl _, by decide, fun k hk => by split <;> decide, fun _ => ⟨_, _, rfl, hLA⟩⟩ (fun e => by cases e) (fun a e _ => by injection e with e; subst e; exact ⟨by simp, fun j hj => ⟨fun h => by have := hd3.plt hj h; simp at this, fun h => by have := hd3.dlt hj h; simp at this⟩⟩)) ?_
  rintro e w4 ⟨rfl, d4, hd4, hg4, hT4⟩
  have F4 := F3.grow hg4
  have hTw : Turn (fun b => w.heap.size ≤ b) w w4 := (((HT0.out.trans hT1).trans hT2).trans hT3).trans ((Turn.of_below hb34).trans hT4)
  have HD4 : Hid (type_of% hd4) := hd4
  have HF4 : Hid (Few d4 (0 + 4)) := F4
  have HT4 : Hid (type_of% hTw) := hTw
  clear hTw F4 hd4 hT4 hg4 hb34 hLA hbl F3 hd3 hg3 hT3 F2 hd2 hg2 hT2 F1 hd1 hg1 hT1 hn1 HL0 HT0 HW0
  go_wp2
  go_loopw [6, 7] (fun okv iv wr => ∃ (k : Nat) (d : Ls), k ≤ sn ∧ iv = .int .i64 k ∧ okv = .bool true ∧ Hid (LawIs w.heap.size wr w.heap.size d) ∧ Hid (Few d (k + 4)) ∧ Hid (Turn (fun b => w.heap.size ≤ b) w wr)) (fun _ iv _ => sn - (intOf iv).toNat)
  case atStart => exact ⟨0, d4, Nat.zero_le _, rfl, rfl, HD4, HF4, HT4⟩
  case round =>
    obtain ⟨k, d, hk, rfl, rfl, hd, hf, hT⟩ := hrel
    clear HD4 HF4 HT4
    by_cases hlt : k < sn
    · have hlt' : (k : Int) < (sn : Int) := by omega
      have hk0 : (0 : Int) ≤ (k : Int) := by omega
      obtain rfl := hsa (by omega)
      have hsb := below_of_turn hT.out
      have hS := HS.out.mv hsb
      have c0 := hS.c0 k hlt
      have c1 := hS.c1 k hlt
      have c2 := hS.c2 k hlt
      have c3 := hS.c3 k hlt
      have c4 := hS.c4 k hlt
      have c5 := hS.c5 k hlt
      have c6 := hS.c6 k hlt
      by_cases hk6 : kd k ≤ last
      · have C1 : Hid (Calls Tryz.prog 17 #[.pointer (some ⟨w.heap.size, 0, none⟩), .agg #[.int .i64 (kd k), .int .i64 (kw k), .string (nm k), .int .i64 (A k), .int .i64 (B k), .int .i64 (C k), .slice (lad k) (ln k) (lc k)]] wr fun r w' => r = .returned (.bool true) ∧ ∃ d', LawIs w.heap.size w' w.heap.size d' ∧ Ls.Grows d d' ∧ Turn (fun b => w.heap.size ≤ b) wr w') := by
          have h1 := hf.out.nb; have h2 := hf.out.nl; have h3 := hf.out.ni; have h4 := hf.out.nt
          exact step_anyT w.heap.size w.heap.size d (kd k) (kw k) (A k) (B k) (C k) (nm k) (ln k) (lc k) (lad k) (xa k) (xm k) wr hd.out hf.out.b0 (by omega) (by omega) (by omega) (by omega) (Int.le_trans hk6 hla) (hS.wb k hlt).1 (hS.wb k hlt).2 (by have := hS.sm k hlt; omega) (HT.out.below hsb) (hS.ls k hlt) (hS.nl k hlt) (fun a e hn => ⟨hS.lt k hlt a e hn, fun j hj => ⟨fun h => by have := hd.out.pH j _ hj h; have := HS.out.lt k hlt a e hn; omega, fun h => by have := hd.out.dH j _ hj h; have := HS.out.lt k hlt a e hn; omega⟩⟩)
        clear hS hsb
        go_wp2_with (first
          | (go_at_call 17; refine Calls.mono C1.out ?_; rintro e w5 ⟨rfl, d5, hd5, hg5, hT5⟩; have F5 := hf.out.grow hg5)
          | (go_at_call 18; refine Calls.mono (looks_any w.heap.size _ w.heap.size d5 hd5 (by have := F5.nl; omega) (by have := F5.ni; omega) (by have := F5.nt; omega)) ?_; rintro e w6 ⟨rfl, hb6⟩))
        exact ⟨⟨k + 1, d5, by omega, by go_num, rfl, hd5.mv hb6, by have := F5; rw [show k + 4 + 1 = k + 1 + 4 by omega] at this; exact this, show Hid _ from (hT.out.trans hT5).trans (Turn.of_below hb6)⟩, by simp [intOf]; omega⟩
      · clear hS hsb
        go_wp2_with (go_at_call 18; refine Calls.mono (looks_any w.heap.size _ w.heap.size d hd.out (by have := hf.out.nl; omega) (by have := hf.out.ni; omega) (by have := hf.out.nt; omega)) ?_; rintro e w6 ⟨rfl, hb6⟩)
        exact ⟨⟨k + 1, d, by omega, by go_num, rfl, hd.out.mv hb6, by have h := hf.out; exact ⟨h.b0, by have := h.nb; omega, by have := h.nl; omega, by have := h.ni; omega, by have := h.nt; omega⟩, show Hid _ from hT.out.trans (Turn.of_below hb6)⟩, by simp [intOf]; omega⟩
    · have hlt' : ¬ (k : Int) < (sn : Int) := by omega
      have hlt'' : decide ((k : Int) < (sn : Int)) = false := by simpa using hlt'
      go_wp2
      go_ret
      exact ⟨rfl, below_of_turn hT.out⟩
set_option maxHeartbeats 1000000 in
theorem all_walk (sg so sn sc : Nat) (sad : Option Addr) (kd kw A B C : Nat → Int) (nm : Nat → ByteArray) (lad : Nat → Option Addr) (ln lc : Nat → Nat) (xa : Nat → Nat → ByteArray) (xm : Nat → Nat → Int) (w : World) (hS : ScriptAt w sg so sn kd kw A B C nm lad ln lc xa xm) (hsa : 0 < sn → sad = some ⟨sg, so, none⟩) (hsn : sn ≤ 2000000) (ht : Tabs w) :
    Calls Tryz.prog 7 #[.slice sad sn sc] w fun r w' => r = .returned (.bool true) ∧ Below w.heap.size w w' := by
  have C0 : Hid (type_of% (playedT 12 (by decide) sg so sn sc sad kd kw A B C nm lad ln lc xa xm w hS hsa hsn ht)) := playedT 12 (by decide) sg so sn sc sad kd kw A B C nm lad ln lc xa xm w hS hsa hsn ht
  clear hS ht
  go_enter Tryz.func7, Tryz.ntmps7
  go_wp2_with (go_at_call 8; refine Calls.mono C0.out ?_; rintro e w1 ⟨rfl, hb⟩)
  go_ret
  exact ⟨rfl, hb⟩
end Go.Proofs.YtjnmoddcodnadaaGreatDoor
namespace Go.Proofs.YtjnmoddcodnadaaGreatDoor
open Go.ChangeShapes Go.WideShapes Go.ChangeAt Go.RowKit Go.Annal Go.Deep
set_option maxRecDepth 100000 in
theorem contractAll (H : Type) (enc : TypeId × Value → H) (W : World) (base : Nat) (args : Array Value) (ds gs : List (DataW H)) (before : List MemPlace)
    (hval : ∀ (j : Nat) t v, Tryz.f7.params[j]? = some t → args[j]? = some v → Value.okWide Tryz.prog W .any base t v)
    (hW : DataW.Whole enc Tryz.prog Tryz.f7.params.toList Rows.allSpec.vars false W args.toList ds gs before) (hk : Rows.uptoSmall H (ds ++ gs) = true) (ht : Tabs W) :
    Calls Tryz.prog 7 args W fun e W' => ∃ v, e = .returned v ∧ Rows.allSpec.post enc Tryz.prog Tryz.f7 false true false false W args v W' := by
  have hW' := hW
  obtain ⟨p, q, hA0, hV, rfl, hfz, hnd⟩ := hW
  have hA : DataW.TrodAll enc Tryz.prog W 0 (fun _ => true) true Tryz.f7.params.toList args.toList ds p := hA0
  rw [Tryz.params7] at hA hval
  obtain ⟨v0, vs0, d0, ds0, p0, q0, hargs, rfl, rfl, h0, r0⟩ := trodAll_cons hA
  obtain ⟨rfl, rfl, rfl⟩ := trodAll_nil r0
  obtain rfl : args = #[v0] := by cases args; simp_all
  obtain ⟨rfl, rfl⟩ := trodVars_none hV
  clear hA0
  have hb : Rows.uptoBulk d0 ≤ 1048576 := by
    have h : Rows.uptoBulkAll ([d0] ++ []) ≤ 1048576 := of_decide_eq_true hk
    simp only [List.append_nil, Rows.uptoBulkAll] at h
    omega
  have hlt : ∀ x ∈ p0, x.block < W.heap.size := fun x hx => by simpa using hW'.lt x (by simpa using hx)
  refine (open_script (P := fun v => Calls Tryz.prog 7 #[v] W fun r w' => r = .returned (.bool true) ∧ Below W.heap.size W w') h0 (okWide_slice Tryz.underlying22 (hval 0 _ v0 rfl rfl)) hb (fun sg so sn sc sad kd kw A B C nm lad ln lc xa xm h1 h2 h3 => all_walk sg so sn sc sad kd kw A B C nm lad ln lc xa xm W h1 h2 h3 ht)).mono fun e W' ⟨he, hg⟩ => ?_
  subst he
  refine ⟨_, rfl, [d0], [], (p0 ++ []) ++ [], [], p0 ++ [], [], hW', trodAll_cons_mk (shut_bool Tryz.underlying4 _) trodAll_mk0, trodAll_cons_mk (Below.trod laidOut readsOp rowOp h0 hg hlt) trodAll_mk0, rfl, hg.frame _, fun h => by cases h⟩
theorem laid_metAll (os : Os) : laidMet Tryz.prog Rows.allUptoRow.laid ((laidWorld os).forCall (fun _ _ => 0) ⟨#[], #[.slice none 0 0], []⟩).memory :=
  laidMet_of_run' 8 (by kernel_rfl) (by kernel_rfl)
theorem readsAll (os : Os) {H : Type} (enc : TypeId × Value → H) : ∃ places, DataW.whole enc Tryz.prog ((laidWorld os).forCall (fun _ _ => 0) ⟨#[], #[.slice none 0 0], []⟩).memory Tryz.f7.params.toList Rows.allSpec.vars false #[Value.slice none 0 0].toList 8 = some ([.nil], [], places) :=
  ⟨[], by kernel_rfl⟩
set_option maxRecDepth 100000 in
theorem liftedAll (os : Os) (started : os.Started) (H : Type) (enc : TypeId × Value → H) (F : Stop.Interp) :
    ReturnsInHanded {} Tryz.checked os 7 .any ((Rows.OpenSpec.upto Rows.allSpec).preRow enc Tryz.prog Tryz.f7 Rows.allUptoRow.domain false Rows.allUptoRow.laid) (((Rows.OpenSpec.upto Rows.allSpec).at F).post enc Tryz.prog Tryz.f7 false true false false) := by
  obtain ⟨places, hx⟩ := readsAll os enc
  refine returnsInHanded_of_row (C := Tryz.checked) (s := Rows.OpenSpec.upto Rows.allSpec) own started (by kernel_rfl) Tryz.func7
    (witness_row_at (enc := enc) (C := Tryz.checked) false (laidWorld os) #[.slice none 0 0] rfl (by kernel_rfl) (by kernel_rfl) (by kernel_rfl)
      (OpenSpec.preRow_of_cond 8 hx (by kernel_rfl) (fun k hk => by cases hk; kernel_rfl) (by kernel_rfl) (laid_metAll os))) ?_
  intro W base args ds gs before hval hW _ hcond _ hL hS _
  exact contractAll H enc W base args ds gs before hval hW (hcond _ rfl) (tabs_of hL hS)
theorem saidAll : Rows.AllUptoSaid :=
  OpenClaim.holds_of_cond 7 Tryz.f7 rfl rfl rfl rfl rfl rfl rfl ⟨rfl, rfl, rfl, rfl, rfl⟩ rfl rfl rfl rfl rfl (by kernel_rfl) Tryz.func7 (by kernel_rfl)
    (of_decide_eq_true (by kernel_rfl)) (by unfold Func.isWrapper; first | (rw [if_pos (by decide +kernel)]; kernel_rfl) | (rw [if_neg (by decide +kernel)]; exact ⟨rfl, rfl⟩))
    (fun os started H enc _ F => by rw [OpenClaim.pre_eq_preRow]; exact liftedAll os started H enc F)
theorem plainAll (f : FuncId) (fn : Func) (hf : Tryz.pinned.checked.prog.funcNamed "annal/annallaw.All" = some f) (hfn : Tryz.pinned.checked.prog.funcs[f]? = some fn) :
    true = Tryz.pinned.checked.prog.looks [] ∧ ∀ (j : Nat) t, fn.params[j]? = some t → Tryz.pinned.checked.prog.wantsStandIn t = false := by
  obtain rfl : f = 7 := Option.some.inj ((show Tryz.prog.funcNamed "annal/annallaw.All" = some 7 by kernel_rfl).symm.trans hf) |>.symm
  obtain rfl : fn = Tryz.f7 := (Option.some.inj (Tryz.func7.symm.trans hfn)).symm
  refine ⟨by kernel_rfl, fun j t ht => ?_⟩
  rw [Tryz.params7] at ht
  obtain rfl : t = 22 := by simpa using Array.mem_of_getElem? ht
  exact (show Tryz.prog.wantsStandIn 22 = false by kernel_rfl)
theorem allUptoCard : Rows.AllUptoCardSaid :=
  Claim7.holds_tied_plain_at .later [] _ _ _ _ saidAll (fun _ h => by cases h) (by kernel_rfl) (fun _ h => by cases h) allUpto_row_tie rfl ⟨rfl, rfl⟩ (by kernel_rfl) rfl plainAll (by kernel_rfl)
#print axioms allUptoCard
end Go.Proofs.YtjnmoddcodnadaaGreatDoor
