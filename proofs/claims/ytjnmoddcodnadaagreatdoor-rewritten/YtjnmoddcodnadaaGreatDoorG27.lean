import Derived.Test.YtjnmoddcodnadaaGreatDoorG22
import Derived.Test.YtjnmoddcodnadaaGreatDoorG25
import Derived.Test.YtjnmoddcodnadaaGreatDoorG26
import Derived.Test.YtjnmoddcodnadaaGreatDoorG23
import Derived.Test.YtjnmoddcodnadaaGreatDoorG03
import Derived.Test.YtjnmoddcodnadaaGreatDoorG19
import Derived.Test.YtjnmoddcodnadaaGreatDoorG01
import Derived.Lib.SliceRun
import Derived.Test.YtjnmoddcodnadaaGreatDoorG12
import Derived.Test.YtjnmoddcodnadaaGreatDoorG10
set_option linter.unusedVariables false
set_option linter.unusedSimpArgs false
namespace Go.Annal
open Go.Proofs.YtjnmoddcodnadaaGreatDoor
/-- What a book is, in the document's words: accounts in their order, entries, the last day that is locked. -/
structure St where
  na : Nat
  ne : Nat
  fn : Nat → ByteArray
  kd : Nat → Int
  dy : Nat → Int
  gn : Nat → Bool
  ln : Nat → Nat
  la : Nat → Nat → ByteArray
  lm : Nat → Nat → Int
  lk : Int
  tx : ByteArray
def St.there (s : St) (x : ByteArray) : Bool := decide (0 ≤ atI s.fn s.na x)
/-- What entry k says of a name. -/
def St.amt (s : St) (x : ByteArray) (k : Nat) : Int := am (s.la k) (s.lm k) x (s.ln k)
/-- A name is a stock's. -/
def St.stk (s : St) (x : ByteArray) : Prop := ∃ i, i < s.na ∧ (s.fn i).toList = x.toList ∧ s.kd i ≠ 1
structure St.Ok (s : St) : Prop where
  na : s.na ≤ 10
  ne : s.ne ≤ 60
  l1 : ∀ k, k < s.ne → 0 < s.ln k
  ln : ∀ k, k < s.ne → s.ln k ≤ 10
  tw : ∀ k, k < s.ne → ∀ a b, a < b → b < s.ln k → (s.la k a).toList ≠ (s.la k b).toList
  th : ∀ k, k < s.ne → ∀ j, j < s.ln k → s.there (s.la k j) = true
  bd : ∀ k, k < s.ne → ∀ j, j < s.ln k → -1000000000000 ≤ s.lm k j ∧ s.lm k j ≤ 1000000000000
  nm : ∀ a b, a < b → b < s.na → (s.fn a).toList ≠ (s.fn b).toList
  lk : -1 ≤ s.lk ∧ s.lk ≤ 9999
  dd : ∀ k, k < s.ne → 0 ≤ s.dy k ∧ s.dy k ≤ 9999
  lim : ∃ (cd : Int) (K : Nat → Bool), cd ≤ s.lk ∧ ∀ x, ¬ s.stk x → Lim1 s.ne s.dy (s.amt x) s.gn K cd
  fs : ∀ i, i < s.na → (s.fn i).size ≤ 48
  ts : (s.tx.size : Int) ≤ 600 * s.ne + 100 * s.na + 100 * (s.lk + 1)
def St.new : St := ⟨0, 0, fun _ => ⟨#[]⟩, fun _ => 0, fun _ => 0, fun _ => false, fun _ => 0, fun _ _ => ⟨#[]⟩, fun _ _ => 0, -1, ⟨#[]⟩⟩
theorem St.new_ok : St.new.Ok := ⟨by decide, by decide, fun k h => absurd h (Nat.not_lt_zero _), fun k h => absurd h (Nat.not_lt_zero _), fun k h => absurd h (Nat.not_lt_zero _), fun k h => absurd h (Nat.not_lt_zero _), fun k h => absurd h (Nat.not_lt_zero _), fun _ _ _ h => absurd h (Nat.not_lt_zero _), by decide, fun k h => absurd h (Nat.not_lt_zero _), ⟨-1, fun _ => false, by decide, fun _ _ => Lim1.new _ _ _ _ _⟩, fun i h => absurd h (Nat.not_lt_zero _), by decide⟩
def St.openE (s : St) (name : ByteArray) (kind : Int) : Int := Go.Annal.openE (isName name) (kindB kind) (s.there name) (decide (10 ≤ s.na))
def St.opened (s : St) (name : ByteArray) (kind : Int) : St := { s with na := s.na + 1, fn := upd s.fn s.na name, kd := upd s.kd s.na kind, tx := s.tx ++ (⟨#[111, 32]⟩ ++ name ++ ⟨#[32]⟩ ++ ⟨(digZ kind).toArray⟩) ++ ⟨#[10]⟩ }
def St.afterOpen (s : St) (name : ByteArray) (kind : Int) : St := if s.openE name kind = 0 then s.opened name kind else s
def St.postE (s : St) (day : Int) (xa : Nat → ByteArray) (xm : Nat → Int) (n : Nat) : Int := Go.Annal.postE (dayB day) (wrongE s.there xa xm n) (decide (day ≤ s.lk)) (decide (60 ≤ s.ne))
def St.posted (s : St) (day : Int) (xa : Nat → ByteArray) (xm : Nat → Int) (n : Nat) : St :=
  { s with ne := s.ne + 1, dy := upd s.dy s.ne day, gn := upd s.gn s.ne false, ln := upd s.ln s.ne n, la := upd s.la s.ne xa, lm := upd s.lm s.ne xm, tx := s.tx ++ postT day xa xm n ++ ⟨#[10]⟩ }
def St.afterPost (s : St) (day : Int) (xa : Nat → ByteArray) (xm : Nat → Int) (n : Nat) : St := if s.postE day xa xm n = 0 then s.posted day xa xm n else s
def St.postN (s : St) (day : Int) (xa : Nat → ByteArray) (xm : Nat → Int) (n : Nat) : Int := if s.postE day xa xm n = 0 then (s.ne : Int) + 1 else 0
def St.lockE (s : St) (day : Int) : Int := Go.Annal.lockE (dayB day) (decide (day ≤ s.lk))
def St.afterLock (s : St) (day : Int) : St := if s.lockE day = 0 then { s with lk := day, tx := s.tx ++ (⟨#[108, 32]⟩ ++ ⟨(digZ day).toArray⟩) ++ ⟨#[10]⟩ } else s
def St.revE (s : St) (entry : Int) : Int := Go.Annal.revE (decide (1 ≤ entry ∧ entry ≤ s.ne)) (s.gn (entry - 1).toNat) (decide (9999 < revDay (s.dy (entry - 1).toNat) s.lk)) (decide (60 ≤ s.ne))
def St.reversed (s : St) (e : Nat) : St :=
  { s with ne := s.ne + 1, dy := upd s.dy s.ne (revDay (s.dy e) s.lk), gn := upd (upd s.gn e true) s.ne true, ln := upd s.ln s.ne (s.ln e), la := upd s.la s.ne (s.la e), lm := upd s.lm s.ne (fun j => - s.lm e j), tx := s.tx ++ (⟨#[114, 32]⟩ ++ ⟨(digZ ((e : Int) + 1)).toArray⟩) ++ ⟨#[10]⟩ }
def St.afterRev (s : St) (entry : Int) : St := if s.revE entry = 0 then s.reversed (entry - 1).toNat else s
def St.revN (s : St) (entry : Int) : Int := if s.revE entry = 0 then (s.ne : Int) + 1 else 0
/-- All that a name has up to a day. -/
def St.sum (s : St) (day : Int) (x : ByteArray) : Int := enS s.dy s.la s.lm x day s.ln s.ne
def St.closeL0 (s : St) (day : Int) : List Ln := closeL s.fn s.kd (s.sum day) s.na
def St.closeS (s : St) (day : Int) : Int := closeSum s.fn s.kd (s.sum day) s.na
def St.closeLs (s : St) (day : Int) (into : ByteArray) : List Ln := s.closeL0 day ++ if s.closeS day ≠ 0 then [(into, s.closeS day)] else []
def St.closeF (s : St) (day : Int) (into : ByteArray) : Int := closeE1 (dayB day) (decide (0 ≤ atI s.fn s.na into)) (decide (s.kd (atI s.fn s.na into).toNat = 1)) (decide (day ≤ s.lk))
def St.closeE (s : St) (day : Int) (into : ByteArray) : Int := if s.closeF day into ≠ 0 then s.closeF day into else closeE2 (s.closeL0 day).isEmpty (decide (60 ≤ s.ne))
def St.closed (s : St) (day : Int) (into : ByteArray) : St :=
  { s with ne := s.ne + 1, dy := upd s.dy s.ne day, gn := upd s.gn s.ne false, ln := upd s.ln s.ne (s.closeLs day into).length, la := upd s.la s.ne (lnA (s.closeLs day into)), lm := upd s.lm s.ne (lnM (s.closeLs day into)), lk := day, tx := s.tx ++ (⟨#[99, 32]⟩ ++ ⟨(digZ day).toArray⟩ ++ ⟨#[32]⟩ ++ into) ++ ⟨#[10]⟩ }
def St.afterClose (s : St) (day : Int) (into : ByteArray) : St := if s.closeE day into = 0 then s.closed day into else s
def St.closeN (s : St) (day : Int) (into : ByteArray) : Int := if s.closeE day into = 0 then (s.ne : Int) + 1 else 0
def St.balE (s : St) (name : ByteArray) (day known : Int) : Int := askErr (s.there name) (dayB day) (knownB known s.ne)
def St.bal (s : St) (name : ByteArray) (day known : Int) : Int := okOr (s.balE name day known) (enS s.dy s.la s.lm name day s.ln known.toNat)
def St.trialE (s : St) (day known : Int) : Int := viewE (dayB day) (knownB known s.ne)
def St.trial (s : St) (day known : Int) : List Ln := if s.trialE day known = 0 then trL (fun x => enS s.dy s.la s.lm x day s.ln known.toNat) (nmS s.fn s.na) else []
def St.itemsE (s : St) (name : ByteArray) (d1 d2 known : Int) : Int := askErr (s.there name) (dayB d1 && dayB d2) (knownB known s.ne)
def St.items (s : St) (name : ByteArray) (d1 d2 known : Int) : List It := if s.itemsE name d1 d2 known = 0 then enI s.dy s.la s.lm name d1 d2 s.ln known.toNat else []
theorem openE_zero {a b c d : Bool} (h : Go.Annal.openE a b c d = 0) : a = true ∧ b = true ∧ c = false ∧ d = false := by
  revert h; cases a <;> cases b <;> cases c <;> cases d <;> decide
theorem postE_zero {a c d : Bool} {e : Int} (h : Go.Annal.postE a e c d = 0) : a = true ∧ e = 0 ∧ c = false ∧ d = false := by
  unfold Go.Annal.postE at h
  cases a
  · simp at h
  · by_cases he : e = 0
    · subst he; revert h; cases c <;> cases d <;> simp
    · simp [he] at h
theorem askErr_zero {a b c : Bool} (h : askErr a b c = 0) : a = true ∧ b = true ∧ c = true := by
  revert h; cases a <;> cases b <;> cases c <;> decide
theorem viewE_zero {a b : Bool} (h : viewE a b = 0) : a = true ∧ b = true := by
  revert h; cases a <;> cases b <;> decide
theorem knownB_yes {n : Int} {ne : Nat} (h : knownB n ne = true) : 0 ≤ n ∧ n ≤ ne := by
  unfold knownB at h; simpa using h
theorem kindB_yes {k : Int} (h : kindB k = true) : k = 0 ∨ k = 1 := by unfold kindB at h; simpa using h
theorem there_iff (s : St) (x : ByteArray) : s.there x = true ↔ ∃ i, i < s.na ∧ (s.fn i).toList = x.toList := by
  unfold St.there
  rw [decide_eq_true_iff]
  unfold atI
  constructor
  · intro h
    cases hf : (List.range s.na).find? (fun i => (s.fn i).toList == x.toList) with
    | none => rw [hf] at h; simp at h
    | some i =>
      have h1 := List.find?_some hf
      have h2 := List.mem_of_find?_eq_some hf
      simp at h2
      exact ⟨i, h2, by simpa using h1⟩
  · rintro ⟨i, hi, he⟩
    cases hg : (List.range s.na).find? (fun i => (s.fn i).toList == x.toList) with
    | some j => simp
    | none =>
      rw [List.find?_eq_none] at hg
      have h3 := hg i (by simp; omega)
      exact absurd he (by simpa using h3)
theorem atI_opened (s : St) (name x : ByteArray) (kind : Int) (h : s.there x = true) : (s.opened name kind).there x = true := by
  rw [there_iff] at *
  obtain ⟨i, hi, he⟩ := h
  exact ⟨i, by show i < s.na + 1; omega, by show (upd s.fn s.na name i).toList = _; rw [upd_ne _ _ (by omega)]; exact he⟩
theorem dig_sz (v : Int) : (⟨(digZ v).toArray⟩ : ByteArray).size ≤ 19 := by
  have := digZ_len v
  show (digZ v).toArray.size ≤ 19
  rw [List.size_toArray]; exact this
theorem St.opened_ok {s : St} (h : s.Ok) (name : ByteArray) (kind : Int) (hn : s.na < 10) (ht : s.there name = false) (h48 : name.size ≤ 48) : (s.opened name kind).Ok := by
  refine ⟨hn, h.ne, h.l1, h.ln, h.tw, fun k hk j hj => atI_opened s name _ kind (h.th k hk j hj), h.bd, ?_, h.lk, h.dd, ?_, fun i hi => ?_, ?_⟩
  · intro a b hab hb
    have hb' : b < s.na + 1 := hb
    show (upd s.fn s.na name a).toList ≠ (upd s.fn s.na name b).toList
    rw [upd_ne _ _ (show a ≠ s.na by omega)]
    by_cases e : b = s.na
    · subst e
      rw [upd_same]
      intro he
      have := (there_iff s name).2 ⟨a, hab, he⟩
      rw [ht] at this; cases this
    · rw [upd_ne _ _ e]; exact h.nm a b hab (by omega)
  · obtain ⟨cd, K, h1, h2⟩ := h.lim
    refine ⟨cd, K, h1, fun x hx => h2 x (fun ⟨i, hi, he, hk⟩ => hx ⟨i, by show i < s.na + 1; omega, ?_, ?_⟩)⟩
    · show (upd s.fn s.na name i).toList = _; rw [upd_ne _ _ (by omega)]; exact he
    · show upd s.kd s.na kind i ≠ 1; rw [upd_ne _ _ (by omega)]; exact hk
  · have hi' : i < s.na + 1 := hi
    show (upd s.fn s.na name i).size ≤ 48
    by_cases e : i = s.na
    · subst e; rw [upd_same]; exact h48
    · rw [upd_ne _ _ e]; exact h.fs i (by omega)
  · have h1 := h.ts
    have h2 := dig_sz kind
    have e1 : (⟨#[111, 32]⟩ : ByteArray).size = 2 := rfl
    have e2 : (⟨#[32]⟩ : ByteArray).size = 1 := rfl
    have e3 : (⟨#[10]⟩ : ByteArray).size = 1 := rfl
    show ((s.tx ++ (⟨#[111, 32]⟩ ++ name ++ ⟨#[32]⟩ ++ ⟨(digZ kind).toArray⟩) ++ ⟨#[10]⟩ : ByteArray).size : Int) ≤ 600 * s.ne + 100 * ((s.na + 1 : Nat) : Int) + 100 * (s.lk + 1)
    simp only [ByteArray.size_append, e1, e2, e3]
    omega
theorem St.afterOpen_ok {s : St} (h : s.Ok) (name : ByteArray) (kind : Int) : (s.afterOpen name kind).Ok := by
  unfold St.afterOpen
  split
  · rename_i he
    have hz := openE_zero he
    have := hz.2.2.2
    exact St.opened_ok h name kind (by simp at this; omega) hz.2.2.1 (isName_size hz.1)
  · exact h
theorem anyN_no {n : Nat} {p : Nat → Bool} (h : anyN n p = false) {k : Nat} (hk : k < n) : p k = false := by
  cases hp : p k
  · rfl
  · rw [anyN_true hk hp] at h; cases h
/-- What lines are in which nothing is wrong. -/
theorem wrong_zero {there : ByteArray → Bool} {xa : Nat → ByteArray} {xm : Nat → Int} {n : Nat} (h : wrongE there xa xm n = 0) :
    2 ≤ n ∧ n ≤ 6 ∧ (∀ l, l < n → there (xa l) = true) ∧ (∀ a b, a < b → b < n → (xa a).toList ≠ (xa b).toList) ∧ (∀ l, l < n → -1000000000 ≤ xm l ∧ xm l ≤ 1000000000) := by
  unfold wrongE at h
  split at h
  · cases h
  · rename_i h1
    split at h
    · cases h
    · rename_i h2
      split at h
      · cases h
      · rename_i h3
        split at h
        · cases h
        · rename_i h4
          rw [Bool.not_eq_true] at h2 h3 h4
          refine ⟨by omega, by omega, fun l hl => ?_, fun a b hab hb e => ?_, fun l hl => ?_⟩
          · have := anyN_no h2 hl
            simpa using this
          · have := anyN_no (anyN_no h3 hb) hab
            simp at this
            exact this e.symm
          · have := anyN_no h4 hl
            simp only [badAmt, Bool.or_eq_false_iff, decide_eq_false_iff_not] at this
            omega
/-- Every state with an entry more is right if the entry is. -/
theorem St.entered_ok {s : St} (h : s.Ok) {day : Int} {xa : Nat → ByteArray} {xm : Nat → Int} {n : Nat} {gn : Nat → Bool} {lk : Int} {tx : ByteArray} (hn : s.ne < 60) (hn1 : 0 < n) (hn10 : n ≤ 10) (htw : ∀ a b, a < b → b < n → (xa a).toList ≠ (xa b).toList) (hth : ∀ l, l < n → s.there (xa l) = true)
    (hbd : ∀ l, l < n → -1000000000000 ≤ xm l ∧ xm l ≤ 1000000000000) (hlk : -1 ≤ lk ∧ lk ≤ 9999) (hd : 0 ≤ day ∧ day ≤ 9999)
    (hlim : ∃ (cd : Int) (K : Nat → Bool), cd ≤ lk ∧ ∀ x, ¬ s.stk x → Lim1 (s.ne + 1) (upd s.dy s.ne day) (upd (s.amt x) s.ne (am xa xm x n)) gn K cd)
    (hts : (tx.size : Int) ≤ 600 * ((s.ne + 1 : Nat) : Int) + 100 * s.na + 100 * (lk + 1)) :
    ({ s with ne := s.ne + 1, dy := upd s.dy s.ne day, gn := gn, ln := upd s.ln s.ne n, la := upd s.la s.ne xa, lm := upd s.lm s.ne xm, lk := lk, tx := tx } : St).Ok := by
  refine ⟨h.na, hn, fun k hk => ?_, fun k hk => ?_, fun k hk a b hab hb => ?_, fun k hk j hj => ?_, fun k hk j hj => ?_, h.nm, hlk, fun k hk => ?_, ?_, h.fs, hts⟩
  · simp only at *
    by_cases e : k = s.ne
    · subst e; rw [upd_same]; exact hn1
    · rw [upd_ne _ _ e]; exact h.l1 k (by omega)
  · simp only at *
    by_cases e : k = s.ne
    · subst e; rw [upd_same]; exact hn10
    · rw [upd_ne _ _ e]; exact h.ln k (by omega)
  · simp only at *
    by_cases e : k = s.ne
    · subst e; rw [upd_same] at *; exact htw a b hab hb
    · rw [upd_ne _ _ e] at *; exact h.tw k (by omega) a b hab hb
  · simp only at *
    by_cases e : k = s.ne
    · subst e; rw [upd_same] at *; exact hth j hj
    · rw [upd_ne _ _ e] at *; exact h.th k (by omega) j hj
  · simp only at *
    by_cases e : k = s.ne
    · subst e; rw [upd_same] at *; exact hbd j hj
    · rw [upd_ne _ _ e] at *; exact h.bd k (by omega) j hj
  · simp only at *
    by_cases e : k = s.ne
    · subst e; rw [upd_same]; exact hd
    · rw [upd_ne _ _ e]; exact h.dd k (by omega)
  · obtain ⟨cd, K, h1, h2⟩ := hlim
    refine ⟨cd, K, h1, fun x hx => ?_⟩
    have h3 := h2 x hx
    have e : St.amt { s with ne := s.ne + 1, dy := upd s.dy s.ne day, gn := gn, ln := upd s.ln s.ne n, la := upd s.la s.ne xa, lm := upd s.lm s.ne xm, lk := lk, tx := tx } x = upd (s.amt x) s.ne (am xa xm x n) := by
      funext k
      by_cases e : k = s.ne
      · subst e; unfold St.amt; simp only [upd_same]
      · unfold St.amt; simp only [upd_ne _ _ e]
    rw [e]; exact h3
theorem St.Ok.size {s : St} (h : s.Ok) {x : ByteArray} (hx : s.there x = true) : x.size ≤ 48 := by
  obtain ⟨i, hi, e⟩ := (there_iff s x).1 hx
  have := h.fs i hi
  rwa [show s.fn i = x from sEq_iff.1 (by simpa using e)] at this
theorem postT_sz (day : Int) (xa : Nat → ByteArray) (xm : Nat → Int) : ∀ n, (∀ k, k < n → (xa k).size ≤ 48) → (postT day xa xm n).size ≤ 21 + n * 69
  | 0, _ => by
    have h1 := dig_sz day
    have e1 : (⟨#[112, 32]⟩ : ByteArray).size = 2 := rfl
    unfold postT
    simp only [ByteArray.size_append, e1]
    omega
  | n + 1, h => by
    have h1 := postT_sz day xa xm n (fun k hk => h k (by omega))
    have h2 := h n (by omega)
    have h3 := dig_sz (xm n)
    have e1 : (⟨#[32]⟩ : ByteArray).size = 1 := rfl
    unfold postT
    simp only [ByteArray.size_append, e1]
    omega
theorem St.posted_ok {s : St} (h : s.Ok) {day : Int} {xa : Nat → ByteArray} {xm : Nat → Int} {n : Nat} (hn : s.ne < 60) (hw : wrongE s.there xa xm n = 0) (hd : dayB day = true) (hl : s.lk < day) : (s.posted day xa xm n).Ok := by
  obtain ⟨h1, h2, h3, h4, h5⟩ := wrong_zero hw
  have hd' := dayB_yes hd
  refine St.entered_ok h hn (by omega) (by omega) h4 h3 (fun l hl => by have := h5 l hl; omega) h.lk hd' ?_ ?_
  · obtain ⟨cd, K, e1, e2⟩ := h.lim
    exact ⟨cd, upd K s.ne false, e1, fun x hx => (e2 x hx).post (by omega) (am_bd (by omega) n h4 h5)⟩
  · have g1 := h.ts
    have g2 := postT_sz day xa xm n (fun k hk => h.size (h3 k hk))
    have g3 : n * 69 ≤ 6 * 69 := Nat.mul_le_mul_right _ h2
    have e3 : (⟨#[10]⟩ : ByteArray).size = 1 := rfl
    simp only [ByteArray.size_append, e3]
    omega
theorem St.afterPost_ok {s : St} (h : s.Ok) (day : Int) (xa : Nat → ByteArray) (xm : Nat → Int) (n : Nat) : (s.afterPost day xa xm n).Ok := by
  unfold St.afterPost
  split
  · rename_i he
    have hz := postE_zero he
    exact St.posted_ok h (by have := hz.2.2.2; simp at this; omega) hz.2.1 hz.1 (by have := hz.2.2.1; simp at this; omega)
  · exact h
theorem St.afterLock_ok {s : St} (h : s.Ok) (day : Int) : (s.afterLock day).Ok := by
  unfold St.afterLock
  split
  · rename_i he
    have hz : dayB day = true ∧ ¬ day ≤ s.lk := by
      unfold St.lockE Go.Annal.lockE at he
      cases hd : dayB day
      · rw [hd] at he; simp at he
      · rw [hd] at he
        refine ⟨rfl, fun h' => ?_⟩
        rw [decide_eq_true h'] at he; simp at he
    have hd := dayB_yes hz.1
    obtain ⟨cd, K, h1, h2⟩ := h.lim
    refine ⟨h.na, h.ne, h.l1, h.ln, h.tw, h.th, h.bd, h.nm, by show -1 ≤ day ∧ day ≤ 9999; omega, h.dd, ⟨cd, K, by show cd ≤ day; omega, h2⟩, h.fs, ?_⟩
    have g1 := h.ts
    have g2 := dig_sz day
    have e1 : (⟨#[108, 32]⟩ : ByteArray).size = 2 := rfl
    have e3 : (⟨#[10]⟩ : ByteArray).size = 1 := rfl
    show ((s.tx ++ (⟨#[108, 32]⟩ ++ ⟨(digZ day).toArray⟩) ++ ⟨#[10]⟩ : ByteArray).size : Int) ≤ 600 * s.ne + 100 * s.na + 100 * (day + 1)
    simp only [ByteArray.size_append, e1, e3]
    omega
  · exact h
theorem revE_zero {a b c d : Bool} (h : Go.Annal.revE a b c d = 0) : a = true ∧ b = false ∧ c = false ∧ d = false := by
  revert h; cases a <;> cases b <;> cases c <;> cases d <;> decide
theorem St.afterRev_ok {s : St} (h : s.Ok) (entry : Int) : (s.afterRev entry).Ok := by
  unfold St.afterRev
  split
  · rename_i he
    have hz := revE_zero he
    have h1 : 1 ≤ entry ∧ entry ≤ s.ne := by simpa using hz.1
    have h2 : s.ne < 60 := by have := hz.2.2.2; simp at this; omega
    have h3 : ¬ 9999 < revDay (s.dy (entry - 1).toNat) s.lk := of_decide_eq_false hz.2.2.1
    have hg := hz.2.1
    generalize hE : (entry - 1).toNat = e at *
    have he : e < s.ne := by omega
    have hd : s.lk < revDay (s.dy e) s.lk ∧ 0 ≤ revDay (s.dy e) s.lk := by
      have := h.dd e he
      have := h.lk
      unfold revDay; split <;> omega
    refine St.entered_ok h h2 (h.l1 e he) (h.ln e he) (h.tw e he) (h.th e he) (fun l hl => by have := h.bd e he l hl; omega) h.lk ⟨hd.2, by omega⟩ ?_ ?_
    · obtain ⟨cd, K, e1, e2⟩ := h.lim
      exact ⟨cd, upd K s.ne false, e1, fun x hx => (e2 x hx).rev he hg (by omega) (am_neg _ _ _ _)⟩
    · have g1 := h.ts
      have g2 := dig_sz ((e : Int) + 1)
      have e1 : (⟨#[114, 32]⟩ : ByteArray).size = 2 := rfl
      have e3 : (⟨#[10]⟩ : ByteArray).size = 1 := rfl
      simp only [ByteArray.size_append, e1, e3]
      omega
  · exact h
theorem closeE2_zero {a b : Bool} (h : closeE2 a b = 0) : a = false ∧ b = false := by revert h; cases a <;> cases b <;> decide
theorem closeE1_zero {a b c d : Bool} (h : closeE1 a b c d = 0) : a = true ∧ b = true ∧ c = false ∧ d = false := by revert h; cases a <;> cases b <;> cases c <;> cases d <;> decide
theorem atI_at (fn : Nat → ByteArray) (na : Nat) (x : ByteArray) (h : 0 ≤ atI fn na x) : (atI fn na x).toNat < na ∧ (fn (atI fn na x).toNat).toList = x.toList := by
  unfold atI at *
  cases hf : (List.range na).find? (fun i => (fn i).toList == x.toList) with
  | none => rw [hf] at h; simp at h
  | some i =>
    have h1 := List.find?_some hf
    have h2 := List.mem_of_find?_eq_some hf
    simp at h1 h2
    exact ⟨h2, h1⟩
theorem closeL_mem {fn : Nat → ByteArray} {kd : Nat → Int} {bal : ByteArray → Int} : ∀ n y, y ∈ closeL fn kd bal n → ∃ i, i < n ∧ kd i = 1 ∧ y = (fn i, - bal (fn i))
  | 0, _, h => by simp [closeL] at h
  | n + 1, y, h => by
    simp only [closeL, List.mem_append] at h
    rcases h with h | h
    · obtain ⟨i, hi, r⟩ := closeL_mem n y h
      exact ⟨i, by omega, r⟩
    · by_cases hk : kd n = 1 ∧ bal (fn n) ≠ 0
      · rw [if_pos hk] at h; simp at h; exact ⟨n, by omega, hk.1, h⟩
      · rw [if_neg hk] at h; simp at h
theorem closeL_two {fn : Nat → ByteArray} {kd : Nat → Int} {bal : ByteArray → Int} : ∀ n, (∀ a b, a < b → b < n → (fn a).toList ≠ (fn b).toList) → (closeL fn kd bal n).Pairwise (fun a b => a.1.toList ≠ b.1.toList)
  | 0, _ => by simp [closeL]
  | n + 1, h => by
    simp only [closeL]
    have hi := closeL_two (kd := kd) (bal := bal) n (fun a b hab hb => h a b hab (by omega))
    by_cases hk : kd n = 1 ∧ bal (fn n) ≠ 0
    · rw [if_pos hk, List.pairwise_append]
      refine ⟨hi, by simp, fun y hy z hz => ?_⟩
      obtain ⟨i, hi, _, rfl⟩ := closeL_mem n y hy
      simp at hz; subst hz
      exact h i n hi (by omega)
    · rw [if_neg hk, List.append_nil]; exact hi
theorem closeL_less {fn : Nat → ByteArray} {kd : Nat → Int} {bal : ByteArray → Int} {j : Nat} (hk : kd j ≠ 1) : ∀ n, j < n → (closeL fn kd bal n).length + 1 ≤ n
  | 0, h => absurd h (Nat.not_lt_zero _)
  | n + 1, h => by
    simp only [closeL, List.length_append]
    by_cases e : j = n
    · subst e
      have := closeL_len fn kd bal j
      rw [if_neg (fun h => hk h.1)]; simp; omega
    · have := closeL_less (fn := fn) (kd := kd) (bal := bal) hk n (by omega)
      split <;> simp <;> omega
theorem closeSum_few {fn : Nat → ByteArray} {kd : Nat → Int} {bal : ByteArray → Int} {M : Int} (hM : 0 ≤ M) : ∀ n : Nat, (∀ i, i < n → kd i = 1 → -M ≤ bal (fn i) ∧ bal (fn i) ≤ M) → -(M * n) ≤ closeSum fn kd bal n ∧ closeSum fn kd bal n ≤ M * n
  | 0, _ => by simp [closeSum]
  | n + 1, h => by
    have h1 := closeSum_few hM n (fun i hi => h i (by omega))
    have e : M * ((n + 1 : Nat) : Int) = M * n + M := by rw [Int.natCast_add, Int.mul_add]; simp
    simp only [closeSum]
    rw [e]
    by_cases hk : kd n = 1 ∧ bal (fn n) ≠ 0
    · have := h n (by omega) hk.1
      rw [if_pos hk]; omega
    · rw [if_neg hk]; omega
theorem sF_zero {f : Nat → Int} (n : Nat) (h : ∀ k, k < n → f k = 0) : sF f n = 0 := by
  induction n with
  | zero => rfl
  | succ n ih => simp only [sF]; rw [ih (fun k hk => h k (by omega)), h n (by omega)]; rfl
theorem St.sum_sF (s : St) (day : Int) (x : ByteArray) : s.sum day x = sF (upD s.dy (s.amt x) day) s.ne := enS_sF _ _ _ _ _ _ _
theorem St.sum_none {s : St} (h : s.Ok) (day : Int) (x : ByteArray) (hx : s.there x = false) : s.sum day x = 0 := by
  rw [St.sum_sF]
  refine sF_zero _ (fun k hk => ?_)
  have : s.amt x k = 0 := am_none _ (fun j hj e => by
    have := h.th k hk j hj
    rw [there_iff] at this
    obtain ⟨i, hi, he⟩ := this
    have := (there_iff s x).2 ⟨i, hi, he.trans e⟩
    rw [hx] at this; cases this)
  unfold upD; rw [this]; split <;> rfl
theorem St.afterClose_ok {s : St} (h : s.Ok) (day : Int) (into : ByteArray) : (s.afterClose day into).Ok := by
  unfold St.afterClose
  split
  · rename_i he
    unfold St.closeE at he
    by_cases hF : s.closeF day into = 0
    · rw [if_neg (by rw [hF]; decide)] at he
      have hz := closeE1_zero hF
      have hy := closeE2_zero he
      have h1 : 0 ≤ atI s.fn s.na into := of_decide_eq_true hz.2.1
      have h2 : ¬ s.kd (atI s.fn s.na into).toNat = 1 := of_decide_eq_false hz.2.2.1
      have h3 : ¬ day ≤ s.lk := of_decide_eq_false hz.2.2.2
      have h4 : ¬ 60 ≤ s.ne := of_decide_eq_false hy.2
      obtain ⟨hj, hjn⟩ := atI_at _ _ _ h1
      generalize (atI s.fn s.na into).toNat = j at *
      have hd := dayB_yes hz.1
      have hna := h.na
      have hlk := h.lk
      obtain ⟨cd, K, e1, e2⟩ := h.lim
      have hflow : ∀ i, i < s.na → s.kd i = 1 → ¬ s.stk (s.fn i) := fun i hi hk ⟨i', hi', hn, hk'⟩ => by
        by_cases e : i = i'
        · subst e; exact hk' hk
        · rcases Nat.lt_or_gt_of_ne e with e | e
          · exact h.nm i i' e hi' hn.symm
          · exact h.nm i' i e hi hn
      have hbal : ∀ i, i < s.na → s.kd i = 1 → -60000000000 ≤ s.sum day (s.fn i) ∧ s.sum day (s.fn i) ≤ 60000000000 := fun i hi hk => by
        have := (e2 _ (hflow i hi hk)).bd (day := day) (by omega)
        rw [← St.sum_sF] at this
        omega
      have hS := closeSum_few (fn := s.fn) (kd := s.kd) (bal := s.sum day) (M := 60000000000) (by decide) s.na hbal
      have hlen := closeL_less (fn := s.fn) (bal := s.sum day) h2 s.na hj
      have hstk : s.stk into := ⟨j, hj, hjn, h2⟩
      -- what the lines are
      have hmem : ∀ y ∈ s.closeLs day into, (∃ i, i < s.na ∧ s.kd i = 1 ∧ y = (s.fn i, - s.sum day (s.fn i))) ∨ y = (into, s.closeS day) := fun y hy => by
        rcases List.mem_append.1 hy with hy | hy
        · exact .inl (closeL_mem _ _ hy)
        · by_cases e : s.closeS day ≠ 0
          · rw [if_pos e] at hy; simp at hy; exact .inr hy
          · rw [if_neg e] at hy; simp at hy
      have htwo : (s.closeLs day into).Pairwise (fun a b => a.1.toList ≠ b.1.toList) := by
        unfold St.closeLs
        rw [List.pairwise_append]
        refine ⟨closeL_two _ h.nm, by split <;> simp, fun y hy z hz' => ?_⟩
        obtain ⟨i, hi, hk, rfl⟩ := closeL_mem _ _ hy
        by_cases e : s.closeS day ≠ 0
        · rw [if_pos e] at hz'; simp at hz'; subst hz'
          exact fun e' => hflow i hi hk ⟨j, hj, hjn.trans e'.symm, h2⟩
        · rw [if_neg e] at hz'; simp at hz'
      have hget : ∀ l, (hl : l < (s.closeLs day into).length) → lnA (s.closeLs day into) l = (s.closeLs day into)[l].1 ∧ lnM (s.closeLs day into) l = (s.closeLs day into)[l].2 := fun l hl => by
        simp [lnA, lnM, List.getD_eq_getElem?_getD, List.getElem?_eq_getElem hl]
      refine St.entered_ok h (by omega) ?_ ?_ (fun a b hab hb => ?_) (fun l hl => ?_) (fun l hl => ?_) ⟨by omega, hd.2⟩ hd ⟨day, upd K s.ne true, Int.le_refl _, fun x hx => (e2 x hx).close (by omega) ?_⟩ ?_
      · have : (s.closeL0 day).isEmpty = false := hy.1
        unfold St.closeLs
        rw [List.length_append]
        cases hL : s.closeL0 day with
        | nil => rw [hL] at this; cases this
        | cons _ _ => simp; omega
      · unfold St.closeLs St.closeL0
        rw [List.length_append]
        split <;> simp <;> omega
      · rw [(hget a (by omega)).1, (hget b hb).1]
        exact (List.pairwise_iff_getElem.1 htwo) a b (by omega) hb hab
      · rw [(hget l hl).1, there_iff]
        rcases hmem _ (List.getElem_mem hl) with ⟨i, hi, _, e⟩ | e
        · rw [e]; exact ⟨i, hi, rfl⟩
        · rw [e]; exact ⟨j, hj, hjn⟩
      · rw [(hget l hl).2]
        rcases hmem _ (List.getElem_mem hl) with ⟨i, hi, hk, e⟩ | e
        · rw [e]; have := hbal i hi hk; show -1000000000000 ≤ - s.sum day (s.fn i) ∧ - s.sum day (s.fn i) ≤ 1000000000000; omega
        · rw [e]; show -1000000000000 ≤ closeSum _ _ _ _ ∧ closeSum _ _ _ _ ≤ 1000000000000; omega
      · show amL (s.closeLs day into) x = _
        rw [← St.sum_sF]
        have ei : amL (s.closeLs day into) x = amL (s.closeL0 day) x := by
          unfold St.closeLs
          by_cases e : s.closeS day ≠ 0
          · rw [if_pos e, amL_snoc, if_neg (by
              simp only [beq_iff_eq]
              exact fun e' => hx ⟨j, hj, hjn.trans e', h2⟩)]
            omega
          · rw [if_neg e, List.append_nil]
        rw [ei]
        unfold St.closeL0
        rw [closeL_am _ _ _ _ _ h.nm]
        cases ht : s.there x
        · rw [St.sum_none h day x ht]
          refine (sF_zero _ (fun k hk => if_neg (fun e' => ?_))).trans rfl
          have := (there_iff s x).2 ⟨k, hk, e'.1⟩
          rw [ht] at this; cases this
        · obtain ⟨i, hi, hix⟩ := (there_iff s x).1 ht
          have hk : s.kd i = 1 := Classical.byContradiction fun hk => hx ⟨i, hi, hix, hk⟩
          have hxe : s.fn i = x := sEq_iff.1 (by simpa using hix)
          have := sF_one (f := fun k => if (s.fn k).toList = x.toList ∧ s.kd k = 1 then - s.sum day (s.fn k) else 0) (g := fun _ => 0) s.na hi (fun k hk' hne => if_neg (fun e' => by
            rcases Nat.lt_or_gt_of_ne hne with e | e
            · exact h.nm k i e hi (e'.1.trans hix.symm)
            · exact h.nm i k e hk' (hix.trans e'.1.symm)))
          rw [this, sF_zero _ (fun _ _ => rfl), if_pos ⟨hix, hk⟩, hxe]; omega
      · have g1 := h.ts
        have g2 := dig_sz day
        have g3 := h.size ((there_iff s into).2 ⟨j, hj, hjn⟩)
        have e1 : (⟨#[99, 32]⟩ : ByteArray).size = 2 := rfl
        have e2 : (⟨#[32]⟩ : ByteArray).size = 1 := rfl
        have e3 : (⟨#[10]⟩ : ByteArray).size = 1 := rfl
        simp only [ByteArray.size_append, e1, e2, e3]
        omega
    · rw [if_pos hF] at he; exact absurd he hF
  · exact h
end Go.Annal
namespace Go.Proofs.YtjnmoddcodnadaaGreatDoor
open Go.RowKit Go.Annal Go.Sort
theorem lines_news {w : World} {lg lo n : Nat} {xa : Nat → ByteArray} {xm : Nat → Int} (h : LinesAt w lg lo n xa xm) : ∀ j u, (lineCells xa xm n)[j]? = some u → w.cell? ⟨lg, lo + j, none⟩ = some u := fun j u hj => by
  have hlt : j < n * 2 := by
    have := (List.getElem?_eq_some_iff.1 hj).1
    rwa [lineCells_len] at this
  rcases (show j = (j / 2) * 2 ∨ j = (j / 2) * 2 + 1 by omega) with e | e
  · rw [e] at hj ⊢
    rw [lineCells_a _ _ _ _ (by omega)] at hj
    rw [← hj]; exact h.ca _ (by omega)
  · rw [e] at hj ⊢
    rw [lineCells_m _ _ _ _ (by omega)] at hj
    rw [← hj, ← Nat.add_assoc]; exact h.cm _ (by omega)
theorem lines_one (xa : Nat → ByteArray) (xm : Nat → Int) (n : Nat) : ∀ u ∈ lineCells xa xm n, u.oneCell' = true := cells2_one _
/-- A row of lines that someone owns reads as lines. -/
theorem owns_lines {w : World} {B n : Nat} {v : Value} {xa : Nat → ByteArray} {xm : Nat → Int} (h : w.ownsRow B 58 2 v n (lineCells xa xm n)) (hn : 0 < n) : ∃ g cap, v = .slice (some ⟨g, 0, none⟩) n cap ∧ B ≤ g ∧ n ≤ cap ∧ LinesAt w g 0 n xa xm ∧ ∃ cs, w.heap[g]? = some (.cells cs 58 (0, 0)) := by
  rcases h.2 with ⟨rfl, hm⟩ | ⟨g, cap, cur, rfl, hB, hc, hr⟩
  · omega
  · have h' := h
    refine ⟨g, cap, rfl, hB, ?_, ⟨fun k hk => ?_, fun k hk => ?_⟩, _, hc⟩
    · exact hr.1
    · rw [Nat.zero_add, h'.cellAt (k * 2) (by omega), lineCells_a _ _ _ _ hk]
    · rw [Nat.zero_add, h'.cellAt (k * 2 + 1) (by omega), lineCells_m _ _ _ _ hk]
set_option maxHeartbeats 2000000 in
set_option maxRecDepth 100000 in
theorem cloneL_any (lg lo n cap : Nat) (xa : Nat → ByteArray) (xm : Nat → Int) (w : World) (hL : LinesAt w lg lo n xa xm) (hn : n ≤ 1000) :
    Calls Tryz.prog 108 #[.slice (some ⟨lg, lo, none⟩) n cap] w fun r w' => ∃ v', r = .returned v' ∧ w'.ownsRow w.heap.size 58 2 v' n (lineCells xa xm n) ∧ Below w.heap.size w w' := by
  obtain ⟨i0, hi, hz0, hz1, hz2⟩ := info_parts Tryz.infoLine
  have q22 : ∀ (w : World) (a : Option Addr) (n c n' c' : Nat), (binOp .eql 54 (.slice a n c) (.slice none n' c')).run Tryz.prog w = .ok (.bool a.isNone) w := fun w a n c n' c' => Lib.run_eql_slice_nil w _ _ a n c n' c' Tryz.underlying54
  have A : Hid (∀ j u, (lineCells xa xm n)[j]? = some u → w.cell? ⟨lg, lo + j, none⟩ = some u) := lines_news hL
  have hl := lineCells_len xa xm n
  have h1 := lines_one xa xm n
  generalize lineCells xa xm n = news at *
  clear hL
  go_enter Tryz.func108, Tryz.ntmps108
  go_wp2_with (at_builtin; refine wpList_append_own _ rfl _ _ 54 rfl w.heap.size 58 i0 _ 2 24 Tryz.underlying54 hi hz0 hz1 hz2 rfl (by decide) _ _ _ rfl (World.ownsRow_made w #[] 0 (Nat.le_refl _) (Nat.zero_le _) (by simp)) ⟨lg, lo, none⟩ n cap news rfl ?qc1 ?qc2 ?qc3 ?qc4 ?qc5 ?qc6 ?_)
  case qc1 => exact hl
  case qc2 =>
    intro j u hj
    rw [Addr.add_lit]
    exact Lib.cell?_alloc_some _ (A.out j u hj)
  case qc3 => exact h1
  case qc4 => rw [Nat.zero_add]; unfold maxLen; omega
  case qc5 => rw [Nat.zero_add]; omega
  case qc6 => simp
  intro v' w1 hown hgrow hnil
  go_wp2
  go_ret
  refine ⟨v', rfl, by simpa using hown, ?_⟩
  exact ((Below.refl _ w).alloc (Nat.le_refl _) _).grown hgrow (by simp) (by intro k hk; simp [Value.ownBlock] at hk; omega)
theorem lineCells_set_m (xa : Nat → ByteArray) (xm : Nat → Int) (n k : Nat) (hk : k < n) (v : Int) : (lineCells xa xm n).set (k * 2 + 1) (.int .i64 v) = lineCells xa (upd xm k v) n := by
  apply List.ext_getElem?
  intro j
  by_cases hj : j < n * 2
  · rcases (show j = (j / 2) * 2 ∨ j = (j / 2) * 2 + 1 by omega) with e | e
    · rw [e, lineCells_a _ _ _ _ (by omega), List.getElem?_set_ne (by omega), lineCells_a _ _ _ _ (by omega)]
    · rw [e, lineCells_m _ _ _ _ (by omega)]
      by_cases ek : j / 2 = k
      · rw [ek, List.getElem?_set_self (by rw [lineCells_len]; omega), upd_same]
      · rw [List.getElem?_set_ne (by omega), lineCells_m _ _ _ _ (by omega), upd_ne _ _ ek]
  · rw [List.getElem?_eq_none (by rw [List.length_set, lineCells_len]; omega), List.getElem?_eq_none (by rw [lineCells_len]; omega)]
theorem lineCells_set_a (xa : Nat → ByteArray) (xm : Nat → Int) (n k : Nat) (hk : k < n) (v : ByteArray) (hv : v = xa k) : (lineCells xa xm n).set (k * 2) (.string v) = lineCells xa xm n := by
  apply List.ext_getElem?
  intro j
  by_cases ek : j = k * 2
  · rw [ek, List.getElem?_set_self (by rw [lineCells_len]; omega), lineCells_a _ _ _ _ hk, hv]
  · rw [List.getElem?_set_ne (by omega)]
/-- The first k amounts turned round. -/
def mixN (xm : Nat → Int) (k j : Nat) : Int := if j < k then - xm j else xm j
theorem mixN_zero (xm : Nat → Int) : mixN xm 0 = xm := by funext j; simp [mixN]
theorem mixN_succ (xm : Nat → Int) (k : Nat) : mixN xm (k + 1) = upd (mixN xm k) k (- xm k) := by
  funext j
  by_cases e : j = k
  · subst e; rw [upd_same]; simp [mixN]
  · rw [upd_ne _ _ e]; unfold mixN
    by_cases h : j < k
    · rw [if_pos h, if_pos (by omega)]
    · rw [if_neg h, if_neg (by omega)]
theorem lineCells_congr {xa ya : Nat → ByteArray} {xm ym : Nat → Int} {n : Nat} (h : ∀ k, k < n → xa k = ya k ∧ xm k = ym k) : lineCells xa xm n = lineCells ya ym n := by
  unfold lineCells
  congr 1
  apply List.map_congr_left
  intro k hk
  rw [List.mem_range] at hk
  rw [(h k hk).1, (h k hk).2]
set_option maxHeartbeats 2000000 in
set_option maxRecDepth 100000 in
theorem opposite_any (lg lo n cap : Nat) (xa : Nat → ByteArray) (xm : Nat → Int) (w : World) (hL : LinesAt w lg lo n xa xm) (hn : n ≤ 1000) (h0 : 0 < n) (hb : ∀ j, j < n → -1000000000000 ≤ xm j ∧ xm j ≤ 1000000000000) :
    Calls Tryz.prog 110 #[.slice (some ⟨lg, lo, none⟩) n cap] w fun r w' => ∃ v', r = .returned v' ∧ w'.ownsRow w.heap.size 58 2 v' n (lineCells xa (fun j => - xm j) n) ∧ Below w.heap.size w w' := by
  have C : Hid (type_of% (cloneL_any lg lo n cap xa xm w hL hn)) := cloneL_any lg lo n cap xa xm w hL hn
  clear hL
  go_enter Tryz.func110, Tryz.ntmps110
  go_wp2_with (go_at_call 108; refine Calls.mono C.out ?_; rintro e w1 ⟨v', rfl, hown, hb1⟩; obtain ⟨g, cap', rfl, hg, hcap, hL1, cs, hcs⟩ := owns_lines hown h0; clear hcs hL1)
  have HO : Hid (type_of% hown) := hown
  have HB : Hid (type_of% hb) := hb
  clear hown hb
  go_loopw [4, 9] (fun _ iv wr => ∃ k : Nat, k ≤ n ∧ iv = .int .i64 k ∧ Hid (wr.ownsRow w.heap.size 58 2 (.slice (some ⟨g, 0, none⟩) n cap') n (lineCells xa (mixN xm k) n)) ∧ Below w.heap.size w wr) (fun _ iv _ => n - (intOf iv).toNat)
  case atStart => exact ⟨0, Nat.zero_le _, rfl, by rw [mixN_zero]; exact HO, hb1⟩
  case round =>
    obtain ⟨k, hk, rfl, ho, hB⟩ := hrel
    by_cases hlt : k < n
    · have hlt' : (k : Int) < (n : Int) := by omega
      have hk0 : (0 : Int) ≤ (k : Int) := by omega
      have cm := (ho.out.cellAt (k * 2 + 1) (by omega)).trans (lineCells_m xa (mixN xm k) n k hlt)
      have ca := (ho.out.cellAt (k * 2) (by omega)).trans (lineCells_a xa (mixN xm k) n k hlt)
      have em : mixN xm k k = xm k := by simp [mixN]
      rw [em] at cm
      have hbk := HB.out k hlt
      have fm := ho.out.frozenAt (k * 2 + 1)
      have hst := ho.out.stored (k * 2 + 1) (.int .i64 (- xm k))
      rw [lineCells_set_m _ _ _ _ hlt, ← mixN_succ] at hst
      have HS : Hid (type_of% hst) := hst
      clear hst em ho
      generalize xm k = A at *
      obtain ⟨hb3, hb4⟩ := hbk
      go_wp2
      go_roundw
      case rel => exact ⟨k + 1, by omega, by go_num, HS.out.1, hB.setCell hg _⟩
      case measure => simp [intOf]; omega
    · have hlt' : ¬ (k : Int) < (n : Int) := by omega
      obtain rfl : k = n := by omega
      have HF : Hid (type_of% (lineCells_congr (xa := xa) (ya := xa) (xm := mixN xm k) (ym := fun j => - xm j) (n := k) (fun j hj => ⟨rfl, if_pos hj⟩))) := lineCells_congr (fun j hj => ⟨rfl, if_pos hj⟩)
      go_wp2
      go_ret
      exact ⟨_, rfl, by rw [← HF.out]; exact ho.out, hB⟩
end Go.Proofs.YtjnmoddcodnadaaGreatDoor
namespace Go.Annal
theorem cells2_at (l : List Ln) (j : Nat) (h : j < l.length) : (cells2 l)[j * 2]? = some (.string l[j].1) ∧ (cells2 l)[j * 2 + 1]? = some (.int .i64 l[j].2) := by
  have h0 := Go.Proofs.YtjnmoddcodnadaaGreatDoor.cells2_get l j h 0 (by omega)
  have h1 := Go.Proofs.YtjnmoddcodnadaaGreatDoor.cells2_get l j h 1 (by omega)
  exact ⟨h0, h1⟩
end Go.Annal
namespace Go.Proofs.YtjnmoddcodnadaaGreatDoor
open Go.RowKit Go.Annal Go.Sort
theorem cells2_set (l : List Ln) (i : Nat) (h : i < l.length) (y : Ln) : ((cells2 l).set (i * 2) (.string y.1)).set (i * 2 + 1) (.int .i64 y.2) = cells2 (l.set i y) := by
  apply List.ext_getElem?
  intro j
  by_cases hj : j < l.length * 2
  · obtain ⟨q, hq, e⟩ : ∃ q, q < l.length ∧ (j = q * 2 ∨ j = q * 2 + 1) := ⟨j / 2, by omega, by omega⟩
    rcases e with rfl | rfl
    · rw [List.getElem?_set_ne (by omega), (cells2_at (l.set i y) q (by simp; omega)).1]
      by_cases ek : q = i
      · subst ek; rw [List.getElem?_set_self (by rw [cells2_len]; omega)]; simp
      · rw [List.getElem?_set_ne (by omega), (cells2_at l q hq).1, List.getElem_set_ne (fun e => ek e.symm)]
    · rw [(cells2_at (l.set i y) q (by simp; omega)).2]
      by_cases ek : q = i
      · subst ek; rw [List.getElem?_set_self (by rw [List.length_set, cells2_len]; omega)]; simp
      · rw [List.getElem?_set_ne (by omega), List.getElem?_set_ne (by omega), (cells2_at l q hq).2, List.getElem_set_ne (fun e => ek e.symm)]
  · rw [List.getElem?_eq_none (by simp [cells2_len]; omega), List.getElem?_eq_none (by simp [cells2_len]; omega)]
/-- A shorter piece of a row that is owned. -/
theorem owns_cut {w : World} {B : Nat} {g n cap i : Nat} {l : List Ln} (h : w.ownsRow B 58 2 (.slice (some ⟨g, 0, none⟩) n cap) n (cells2 l)) (hl : l.length = n) (hi : i ≤ n) : w.ownsRow B 58 2 (.slice (some ⟨g, 0, none⟩) i cap) i (cells2 (l.take i)) := by
  refine ⟨by rw [cells2_len]; simp; omega, ?_⟩
  rcases h.2 with ⟨e, _⟩ | ⟨g', cap', cur, e, hB, hc, h1, h2, h3, h4⟩
  · cases e
  · injection e with e1 _ e3
    injection e1 with e1
    injection e1 with e1
    subst e1; subst e3
    refine .inr ⟨g, cap, cur, rfl, hB, hc, by omega, h2, h3, ?_⟩
    have e5 : cells2 (l.take i) = (cells2 l).take (i * 2) := by
      have hd := cells2_append (l.take i) (l.drop i)
      rw [List.take_append_drop] at hd
      rw [hd]
      exact (List.take_left' (by rw [cells2_len]; simp; omega)).symm
    rw [e5, ← h4, List.take_take]
    congr 1; omega
/-- clear(s), s a piece of a row of lines. -/
theorem clear_lines (w : World) (ty : TypeId) (b o n c : Nat) (hn : 0 < n) (hc : ∀ j, j < n * 2 → (w.cell? ⟨b, o + j, none⟩).isSome = true) (hf : ∀ j, j < n * 2 → w.frozen? ⟨b, o + j, none⟩ = false) :
    ∃ vs : List Value, vs.length = n * 2 ∧ (Builtin.clear_ #[54] ty #[.slice (some ⟨b, o, none⟩) n c]).run Tryz.prog w = .ok (.tuple #[]) (w.setCells b o vs) := by
  refine ⟨(Builtin.zeroCells (Value.agg #[.string ⟨#[]⟩, .int .i64 0]).cells n).toList, ?_, ?_⟩
  · simp [Builtin.zeroCells, Value.cells]
  · have hl : (Builtin.zeroCells (Value.agg #[.string ⟨#[]⟩, .int .i64 0]).cells n).toList.length = n * 2 := by simp [Builtin.zeroCells, Value.cells]
    have hst := run_storeCells_cells (P := Tryz.prog) b o (Builtin.zeroCells (Value.agg #[.string ⟨#[]⟩, .int .i64 0]).cells n).toList 0 w (fun j hj => by rw [Nat.add_zero]; exact hc j (by omega)) (fun j hj => by rw [Nat.add_zero]; exact hf j (by omega)) (by
      intro v hv
      simp [Builtin.zeroCells, Value.cells] at hv
      obtain ⟨i, hi, rfl⟩ := hv
      rcases (show i % 2 = 0 ∨ i % 2 = 1 by omega) with e | e <;> rw [e] <;> rfl)
    rw [Nat.add_zero] at hst
    have hv : (zeroValue 58).run Tryz.prog w = .ok (.agg #[.string ⟨#[]⟩, .int .i64 0]) w := Tryz.zeroValue58 w
    obtain ⟨m, rfl⟩ : ∃ m, n = m + 1 := ⟨n - 1, by omega⟩
    simp [Builtin.clear_, run_underlying Tryz.underlying54, hv, hst]
set_option maxHeartbeats 1000000 in
/-- Where the first one lies for which it holds. -/
theorem idxL_any (G : Nat) (ba lb : Array Value) (lg lo n cap : Nat) (xa : Nat → ByteArray) (xm : Nat → Int) (p : Nat → Bool) (w : World) (eg : ∀ args w, (callFunc G args).run Tryz.prog w = .ok (.enter G args) w) (hL : LinesAt w lg lo n xa xm) (hn6 : n ≤ 1000)
    (hC : ∀ i, i < n → ∀ W, Below w.heap.size w W → Calls Tryz.prog G (ba ++ #[.agg #[.string (xa i), .int .i64 (xm i)]] ++ lb) W fun r w' => r = .returned (.bool (p i)) ∧ Below W.heap.size W w') :
    Calls Tryz.prog 136 #[.slice (some ⟨lg, lo, none⟩) n cap, .func (.func G) ba lb] w fun r w' =>
      ((r = .returned (.int .i64 (-1)) ∧ ∀ j, j < n → p j = false) ∨ ∃ i : Nat, i < n ∧ r = .returned (.int .i64 i) ∧ p i = true ∧ ∀ j, j < i → p j = false) ∧ Below w.heap.size w w' := by
  have C : Hid (type_of% hC) := hC
  clear hC
  go_enter Tryz.func136, Tryz.ntmps136
  go_wp2
  go_loopw [5, 8] (fun _ iv wr => ∃ k : Nat, k ≤ n ∧ iv = .int .i64 k ∧ (∀ j, j < k → p j = false) ∧ Below w.heap.size w wr) (fun _ iv _ => n - (intOf iv).toNat)
  case atStart => exact ⟨0, Nat.zero_le _, rfl, fun _ h => by omega, Below.refl _ _⟩
  case round =>
    obtain ⟨k, hk, rfl, hb, hB⟩ := hrel
    have HB : Hid (type_of% hb) := hb
    clear hb
    by_cases hlt : k < n
    · have hlt' : (k : Int) < (n : Int) := by omega
      have hk0 : (0 : Int) ≤ (k : Int) := by omega
      have ca := cell_later hB (hL.ca k hlt)
      have cm := cell_later hB (hL.cm k hlt)
      have CX : Hid (type_of% (C.out k hlt wr hB)) := C.out k hlt wr hB
      generalize hpk : p k = pk at CX
      have HPK : Hid (type_of% hpk) := hpk
      clear hpk C
      cases pk
      · have HN : Hid (∀ j, j < k + 1 → p j = false) := fun j hj => by
          by_cases h : j = k
          · subst h; exact HPK.out
          · exact HB.out j (by omega)
        go_wp2_with (go_at_fn G; refine Calls.mono CX.out ?_; rintro e wx ⟨rfl, hw⟩)
        go_roundw
        case rel => exact ⟨k + 1, by omega, by go_num, HN.out, hB.trans (hw.mono hB.size)⟩
        case measure => simp [intOf]; omega
      · go_wp2_with (go_at_fn G; refine Calls.mono CX.out ?_; rintro e wx ⟨rfl, hw⟩)
        go_ret
        exact ⟨.inr ⟨k, hlt, rfl, HPK.out, HB.out⟩, hB.trans (hw.mono hB.size)⟩
    · have hlt' : ¬ (k : Int) < (n : Int) := by omega
      go_wp2
      go_ret
      exact ⟨.inl ⟨rfl, fun j hj => HB.out j (by omega)⟩, hB⟩
end Go.Proofs.YtjnmoddcodnadaaGreatDoor
