import Derived.Test.YtjnmoddcodnadaaGreatDoorG27
import Derived.Test.YtjnmoddcodnadaaGreatDoorG37
import Derived.KernelRfl
set_option linter.unusedVariables false
set_option linter.unusedSimpArgs false
namespace Go.Annal
open Go.Proofs.YtjnmoddcodnadaaGreatDoor
/-- The names that small books have, in their order. -/
def nmK (i : Nat) : ByteArray := ⟨#[([97, 98, 99, 120, 121, 122] : List UInt8).getD i 0]⟩
theorem nmK_inj : ∀ a, a < 6 → ∀ b, b < 6 → (nmK a).toList = (nmK b).toList → a = b := by
  simp only [ByteArray.toList_eq]
  decide
/-- A step, raw. -/
structure K5 where
  kind : Int
  day : Int
  a : Int
  b : Int
  c : Int
def lsI (q : K5) : Int := pickI q.a 6
def lsK (q : K5) : Int := (lsI q + 1 + pickI q.b 5) % 6
def lsJ (q : K5) : Int := if lsI q ≠ 0 ∧ lsK q ≠ 0 then 0 else if lsI q ≠ 1 ∧ lsK q ≠ 1 then 1 else 2
def lsS (q : K5) : Int := 1 + pickI q.c 1000
def lsP (q : K5) : Int := pickI (q.b.tdiv 6) (lsS q)
def lsN (q : K5) : Nat := if 0 < lsP q then 3 else 2
def lsA (q : K5) (j : Nat) : ByteArray := if j = 0 then nmK (lsI q).toNat else if j = 1 then nmK (lsK q).toNat else if j < lsN q then nmK (lsJ q).toNat else ⟨#[]⟩
def lsM (q : K5) (j : Nat) : Int := if j = 0 then - lsS q else if j = 1 then lsS q - lsP q else if j < lsN q then lsP q else 0
theorem lsI_bd (q : K5) : 0 ≤ lsI q ∧ lsI q < 6 := pickI_bd _ _ (by decide)
theorem lsK_bd (q : K5) : 0 ≤ lsK q ∧ lsK q < 6 := ⟨Int.emod_nonneg _ (by decide), Int.emod_lt_of_pos _ (by decide)⟩
theorem lsK_ne (q : K5) : lsK q ≠ lsI q := by
  have h1 := lsI_bd q
  have h2 := pickI_bd q.b (n := 5) (by decide)
  unfold lsK
  omega
theorem lsJ_bd (q : K5) : 0 ≤ lsJ q ∧ lsJ q < 3 ∧ lsJ q ≠ lsI q ∧ lsJ q ≠ lsK q := by
  have h := lsK_ne q
  unfold lsJ
  split
  · omega
  · split <;> omega
theorem lsS_bd (q : K5) : 1 ≤ lsS q ∧ lsS q ≤ 1000 := by
  have := pickI_bd q.c (n := 1000) (by decide)
  unfold lsS; omega
theorem lsP_bd (q : K5) : 0 ≤ lsP q ∧ lsP q < lsS q := pickI_bd _ _ (by have := lsS_bd q; omega)
/-- A small book: its accounts, and what its steps come to. -/
structure KOk (s : St) : Prop where
  ok : s.Ok
  na : s.na = 6
  fn : ∀ i, i < 6 → s.fn i = nmK i
  kd : ∀ i, i < 6 → s.kd i = if i < 3 then 0 else 1
  dd : ∀ k, k < s.ne → s.dy k ≤ 12
  lk : s.lk ≤ 11
  z : ∀ k, k < s.ne → sumN (s.lm k) (s.ln k) = 0
  nz : ∀ k, k < s.ne → ∀ j, j < s.ln k → s.lm k j ≠ 0
theorem KOk.there {s : St} (h : KOk s) {i : Nat} (hi : i < 6) : s.there (nmK i) = true := (there_iff _ _).2 ⟨i, by rw [h.na]; exact hi, by rw [h.fn i hi]⟩
theorem KOk.at {s : St} (h : KOk s) {i : Nat} (hi : i < 6) : atI s.fn s.na (nmK i) = i := by
  rw [h.na]
  exact atI_found _ _ _ i hi (h.fn i hi) (fun j hj e => by
    rw [h.fn j (by omega)] at e
    have := nmK_inj j (by omega) i hi (by rw [e])
    omega)
theorem ls_three (q : K5) (P : ByteArray → Prop) (h : ∀ i, i < 6 → P (nmK i)) : ∀ l, l < lsN q → P (lsA q l) := fun l hl => by
  have h1 := lsI_bd q
  have h2 := lsK_bd q
  have h3 := lsJ_bd q
  unfold lsA
  rw [if_pos hl]
  split
  · exact h _ (by omega)
  · split <;> exact h _ (by omega)
theorem ls_ne (q : K5) : ∀ a b, a < b → b < lsN q → (lsA q a).toList ≠ (lsA q b).toList := fun a b hab hb e => by
  have h1 := lsI_bd q
  have h2 := lsK_bd q
  have h3 := lsJ_bd q
  have h4 := lsK_ne q
  have hb3 : b < 3 := by unfold lsN at hb; split at hb <;> omega
  unfold lsA at e
  rw [if_pos hb, if_pos (show a < lsN q by omega)] at e
  rcases (show (a = 0 ∧ b = 1) ∨ (a = 0 ∧ b = 2) ∨ (a = 1 ∧ b = 2) by omega) with ⟨rfl, rfl⟩ | ⟨rfl, rfl⟩ | ⟨rfl, rfl⟩
  · simp at e; have := nmK_inj _ (by omega) _ (by omega) e; omega
  · simp at e; have := nmK_inj _ (by omega) _ (by omega) e; omega
  · simp at e; have := nmK_inj _ (by omega) _ (by omega) e; omega
theorem ls_amt (q : K5) : ∀ l, l < lsN q → lsM q l ≠ 0 ∧ -1000 ≤ lsM q l ∧ lsM q l ≤ 1000 := fun l hl => by
  have h1 := lsS_bd q
  have h2 := lsP_bd q
  unfold lsM
  rw [if_pos hl]
  unfold lsN at hl
  split
  · omega
  · split
    · omega
    · split at hl <;> omega
theorem ls_sum (q : K5) : sumN (lsM q) (lsN q) = 0 := by
  have := lsP_bd q
  by_cases h : 0 < lsP q
  · have e : lsN q = 3 := by unfold lsN; rw [if_pos h]
    rw [e]
    simp [sumN, lsM, e]; omega
  · have e : lsN q = 2 := by unfold lsN; rw [if_neg h]
    rw [e]
    simp [sumN, lsM]; omega
theorem ls_wrong {s : St} (h : KOk s) (q : K5) : wrongE s.there (lsA q) (lsM q) (lsN q) = 0 := by
  unfold wrongE
  have hn : 2 ≤ lsN q ∧ lsN q ≤ 3 := by unfold lsN; split <;> omega
  rw [if_neg (by omega), if_neg, if_neg, if_neg, if_pos (ls_sum q)]
  · rw [anyN_false (fun k hk => by
      have := ls_amt q k hk
      simp only [badAmt, Bool.or_eq_false_iff, decide_eq_false_iff_not]
      omega)]
    decide
  · rw [anyN_false (fun k hk => anyN_false (fun j hj => by
      have := ls_ne q j k hj hk
      simp
      exact fun e => this e.symm))]
    decide
  · rw [anyN_false (fun k hk => by rw [ls_three q (fun x => s.there x = true) (fun i hi => h.there hi) k hk]; rfl)]
    decide
/-- What comes behind: nothing that was there has turned; what is new is of days that were not locked. -/
structure St.Le (s t : St) : Prop where
  na : t.na = s.na
  fn : t.fn = s.fn
  kd : t.kd = s.kd
  ne : s.ne ≤ t.ne
  dy : ∀ k, k < s.ne → t.dy k = s.dy k
  ln : ∀ k, k < s.ne → t.ln k = s.ln k
  la : ∀ k, k < s.ne → t.la k = s.la k
  lm : ∀ k, k < s.ne → t.lm k = s.lm k
  lk : s.lk ≤ t.lk
  new : ∀ k, s.ne ≤ k → k < t.ne → s.lk < t.dy k
theorem St.Le.refl (s : St) : s.Le s := ⟨rfl, rfl, rfl, Nat.le_refl _, fun _ _ => rfl, fun _ _ => rfl, fun _ _ => rfl, fun _ _ => rfl, Int.le_refl _, fun k h h' => by omega⟩
theorem St.Le.trans {s t u : St} (h : s.Le t) (g : t.Le u) : s.Le u := by
  have hn := h.ne
  refine ⟨g.na.trans h.na, g.fn.trans h.fn, g.kd.trans h.kd, Nat.le_trans hn g.ne, fun k hk => (g.dy k (by omega)).trans (h.dy k hk), fun k hk => (g.ln k (by omega)).trans (h.ln k hk), fun k hk => (g.la k (by omega)).trans (h.la k hk), fun k hk => (g.lm k (by omega)).trans (h.lm k hk), Int.le_trans h.lk g.lk, fun k h1 h2 => ?_⟩
  by_cases hk : k < t.ne
  · rw [g.dy k hk]; exact h.new k h1 hk
  · have := g.new k (by omega) h2
    have := h.lk
    omega
theorem St.Le.one {s : St} {day : Int} {xa : Nat → ByteArray} {xm : Nat → Int} {n : Nat} {gn : Nat → Bool} {lk : Int} {tx : ByteArray} (hd : s.lk < day) (hl : s.lk ≤ lk) :
    s.Le { s with ne := s.ne + 1, dy := upd s.dy s.ne day, gn := gn, ln := upd s.ln s.ne n, la := upd s.la s.ne xa, lm := upd s.lm s.ne xm, lk := lk, tx := tx } :=
  ⟨rfl, rfl, rfl, Nat.le_succ _, fun k hk => upd_ne _ _ (by omega), fun k hk => upd_ne _ _ (by omega), fun k hk => upd_ne _ _ (by omega), fun k hk => upd_ne _ _ (by omega), hl, fun k h1 h2 => by
    have : k = s.ne := by simp only at h2; omega
    subst this
    simp only [upd_same]; exact hd⟩
theorem St.amt_le {s t : St} (h : s.Le t) (x : ByteArray) {k : Nat} (hk : k < s.ne) : t.amt x k = s.amt x k := by
  unfold St.amt
  rw [h.la k hk, h.lm k hk, h.ln k hk]
/-- WHAT WAS KNOWN STAYS. -/
theorem St.known_le {s t : St} (h : s.Le t) (x : ByteArray) (day : Int) {n : Nat} (hn : n ≤ s.ne) : enS t.dy t.la t.lm x day t.ln n = enS s.dy s.la s.lm x day s.ln n := by
  rw [enS_sF, enS_sF]
  refine sF_congr n (fun k hk => ?_)
  unfold upD
  simp only [h.dy k (by omega), h.la k (by omega), h.lm k (by omega), h.ln k (by omega)]
/-- What is locked stays. -/
theorem St.locked_le {s t : St} (h : s.Le t) (x : ByteArray) {day : Int} (hd : day ≤ s.lk) : enS t.dy t.la t.lm x day t.ln t.ne = enS s.dy s.la s.lm x day s.ln s.ne := by
  have h1 := St.known_le h x day (Nat.le_refl s.ne)
  rw [← h1]
  have key : ∀ j, s.ne + j ≤ t.ne → enS t.dy t.la t.lm x day t.ln (s.ne + j) = enS t.dy t.la t.lm x day t.ln s.ne := by
    intro j
    induction j with
    | zero => intro _; rfl
    | succ j ih =>
      intro hle
      have hi := ih (by omega)
      rw [enS_sF, enS_sF] at hi ⊢
      show sF _ (s.ne + j) + _ = _
      rw [hi]
      have hnw := h.new (s.ne + j) (by omega) (by omega)
      have e : upD t.dy (fun i => am (t.la i) (t.lm i) x (t.ln i)) day (s.ne + j) = 0 := by unfold upD; rw [if_neg (by omega)]
      have e' : upD t.dy (fun i => am (t.la i) (t.lm i) x (t.ln i)) day (s.ne.add j) = 0 := e
      first | rw [e] | rw [e']
      omega
  have := key (t.ne - s.ne) (by have := h.ne; omega)
  rwa [show s.ne + (t.ne - s.ne) = t.ne by have := h.ne; omega] at this
theorem KOk.entered {s : St} (h : KOk s) {day : Int} {xa : Nat → ByteArray} {xm : Nat → Int} {n : Nat} {gn : Nat → Bool} {lk : Int} {tx : ByteArray} (hd : day ≤ 12) (hl : lk ≤ 11) (hz : sumN xm n = 0) (hnz : ∀ j, j < n → xm j ≠ 0)
    (ho : ({ s with ne := s.ne + 1, dy := upd s.dy s.ne day, gn := gn, ln := upd s.ln s.ne n, la := upd s.la s.ne xa, lm := upd s.lm s.ne xm, lk := lk, tx := tx } : St).Ok) :
    KOk { s with ne := s.ne + 1, dy := upd s.dy s.ne day, gn := gn, ln := upd s.ln s.ne n, la := upd s.la s.ne xa, lm := upd s.lm s.ne xm, lk := lk, tx := tx } := by
  refine ⟨ho, h.na, h.fn, h.kd, fun k hk => ?_, hl, fun k hk => ?_, fun k hk j hj => ?_⟩
  · simp only at *
    by_cases e : k = s.ne
    · subst e; rw [upd_same]; exact hd
    · rw [upd_ne _ _ e]; exact h.dd k (by omega)
  · simp only at *
    by_cases e : k = s.ne
    · subst e; rw [upd_same, upd_same]; exact hz
    · rw [upd_ne _ _ e, upd_ne _ _ e]; exact h.z k (by omega)
  · simp only at *
    by_cases e : k = s.ne
    · subst e; rw [upd_same] at *; exact hnz j hj
    · rw [upd_ne _ _ e] at *; exact h.nz k (by omega) j hj
theorem sumN_neg (xm : Nat → Int) : ∀ n, sumN (fun j => - xm j) n = - sumN xm n
  | 0 => rfl
  | n + 1 => by simp only [sumN]; rw [sumN_neg xm n]; omega
theorem sumN_congr {xm ym : Nat → Int} : ∀ n, (∀ k, k < n → xm k = ym k) → sumN xm n = sumN ym n
  | 0, _ => rfl
  | n + 1, h => by simp only [sumN]; rw [sumN_congr n (fun k hk => h k (by omega)), h n (by omega)]
theorem sumL_snoc (A : List Ln) (y : Ln) : sumN (lnM (A ++ [y])) (A ++ [y]).length = sumN (lnM A) A.length + y.2 := by
  rw [List.length_append, List.length_singleton]
  simp only [sumN]
  rw [lnM_last, sumN_congr A.length (fun k hk => lnM_left hk)]
theorem closeL_sum (fn : Nat → ByteArray) (kd : Nat → Int) (bal : ByteArray → Int) : ∀ n, sumN (lnM (closeL fn kd bal n)) (closeL fn kd bal n).length = - closeSum fn kd bal n
  | 0 => rfl
  | n + 1 => by
    simp only [closeL, closeSum]
    by_cases h : kd n = 1 ∧ bal (fn n) ≠ 0
    · rw [if_pos h, if_pos h, sumL_snoc, closeL_sum fn kd bal n]; show _ + - bal (fn n) = _; omega
    · rw [if_neg h, if_neg h, List.append_nil, closeL_sum fn kd bal n]; omega
theorem closeLs_sum (s : St) (day : Int) (into : ByteArray) : sumN (lnM (s.closeLs day into)) (s.closeLs day into).length = 0 := by
  unfold St.closeLs
  have h := closeL_sum s.fn s.kd (s.sum day) s.na
  by_cases e : s.closeS day ≠ 0
  · rw [if_pos e, sumL_snoc]
    unfold St.closeL0 St.closeS
    rw [h]; show - closeSum _ _ _ _ + closeSum _ _ _ _ = 0; omega
  · rw [if_neg e, List.append_nil]
    unfold St.closeL0
    rw [h]
    have : closeSum s.fn s.kd (s.sum day) s.na = 0 := Classical.byContradiction e
    omega
theorem closeL_nz {fn : Nat → ByteArray} {kd : Nat → Int} {bal : ByteArray → Int} : ∀ n y, y ∈ closeL fn kd bal n → y.2 ≠ 0
  | 0, _, h => by simp [closeL] at h
  | n + 1, y, h => by
    simp only [closeL, List.mem_append] at h
    rcases h with h | h
    · exact closeL_nz n y h
    · by_cases hk : kd n = 1 ∧ bal (fn n) ≠ 0
      · rw [if_pos hk] at h; simp at h; subst h; show - bal (fn n) ≠ 0; omega
      · rw [if_neg hk] at h; simp at h
theorem closeLs_nz (s : St) (day : Int) (into : ByteArray) : ∀ j, j < (s.closeLs day into).length → lnM (s.closeLs day into) j ≠ 0 := fun j hj => by
  have hm : ∀ y ∈ s.closeLs day into, y.2 ≠ 0 := fun y hy => by
    rcases List.mem_append.1 hy with hy | hy
    · exact closeL_nz _ _ hy
    · by_cases e : s.closeS day ≠ 0
      · rw [if_pos e] at hy; simp at hy; subst hy; exact e
      · rw [if_neg e] at hy; simp at hy
  have : lnM (s.closeLs day into) j = (s.closeLs day into)[j].2 := by simp [lnM, List.getD_eq_getElem?_getD, List.getElem?_eq_getElem hj]
  rw [this]
  exact hm _ (List.getElem_mem hj)
/-- What a step makes of a book. -/
def St.kstep (s : St) (q : K5) : St :=
  if pickI q.kind 8 < 5 then s.afterPost (pickI q.day 12) (lsA q) (lsM q) (lsN q)
  else if pickI q.kind 8 = 5 ∧ 0 < s.ne then s.afterRev (1 + pickI q.a s.ne)
  else if pickI q.kind 8 = 6 then s.afterLock (pickI q.day 12)
  else if pickI q.kind 8 = 7 then s.afterClose (pickI q.day 12) (nmK (pickI q.a 3).toNat)
  else s
/-- What each call keeps. -/
theorem KOk.post {s : St} (h : KOk s) {day : Int} (hd : day ≤ 12) (q : K5) : KOk (s.afterPost day (lsA q) (lsM q) (lsN q)) ∧ s.Le (s.afterPost day (lsA q) (lsM q) (lsN q)) ∧ (s.afterPost day (lsA q) (lsM q) (lsN q)).ne ≤ s.ne + 1 := by
  have ho := St.afterPost_ok h.ok day (lsA q) (lsM q) (lsN q)
  unfold St.afterPost at *
  by_cases he : s.postE day (lsA q) (lsM q) (lsN q) = 0
  · rw [if_pos he] at *
    have hz := postE_zero he
    have hl : s.lk < day := by have := hz.2.2.1; simp at this; omega
    exact ⟨h.entered hd h.lk (ls_sum q) (fun j hj => (ls_amt q j hj).1) ho, St.Le.one hl (Int.le_refl _), Nat.le_refl _⟩
  · rw [if_neg he]
    exact ⟨h, St.Le.refl s, Nat.le_succ _⟩
theorem KOk.rev {s : St} (h : KOk s) (entry : Int) : KOk (s.afterRev entry) ∧ s.Le (s.afterRev entry) ∧ (s.afterRev entry).ne ≤ s.ne + 1 := by
  have ho := St.afterRev_ok h.ok entry
  unfold St.afterRev at *
  by_cases he : s.revE entry = 0
  · rw [if_pos he] at *
    have hz := revE_zero he
    have h1 : 1 ≤ entry ∧ entry ≤ s.ne := by simpa using hz.1
    generalize hE : (entry - 1).toNat = e at *
    have he' : e < s.ne := by omega
    have hd := h.dd e he'
    have hlk := h.lk
    have hr : s.lk < revDay (s.dy e) s.lk ∧ revDay (s.dy e) s.lk ≤ 12 := by unfold revDay; split <;> omega
    exact ⟨h.entered hr.2 h.lk (by rw [sumN_neg, h.z e he']; rfl) (fun j hj => by have := h.nz e he' j hj; omega) ho, St.Le.one hr.1 (Int.le_refl _), Nat.le_refl _⟩
  · rw [if_neg he]
    exact ⟨h, St.Le.refl s, Nat.le_succ _⟩
theorem lockE_zeroK {a b : Bool} (h : Go.Annal.lockE a b = 0) : a = true ∧ b = false := by revert h; cases a <;> cases b <;> decide
theorem KOk.lock {s : St} (h : KOk s) {day : Int} (hd : day ≤ 11) : KOk (s.afterLock day) ∧ s.Le (s.afterLock day) ∧ (s.afterLock day).ne ≤ s.ne + 1 := by
  have ho := St.afterLock_ok h.ok day
  unfold St.afterLock at *
  by_cases he : s.lockE day = 0
  · rw [if_pos he] at *
    have hz := lockE_zeroK he
    have hl : ¬ day ≤ s.lk := of_decide_eq_false hz.2
    exact ⟨⟨ho, h.na, h.fn, h.kd, h.dd, hd, h.z, h.nz⟩, ⟨rfl, rfl, rfl, Nat.le_refl _, fun _ _ => rfl, fun _ _ => rfl, fun _ _ => rfl, fun _ _ => rfl, by show s.lk ≤ day; omega, fun k h1 h2 => by simp only at h2; omega⟩, Nat.le_succ _⟩
  · rw [if_neg he]
    exact ⟨h, St.Le.refl s, Nat.le_succ _⟩
theorem KOk.close {s : St} (h : KOk s) {day : Int} (hd : day ≤ 11) (into : ByteArray) : KOk (s.afterClose day into) ∧ s.Le (s.afterClose day into) ∧ (s.afterClose day into).ne ≤ s.ne + 1 := by
  have ho := St.afterClose_ok h.ok day into
  unfold St.afterClose at *
  by_cases he : s.closeE day into = 0
  · rw [if_pos he] at *
    have hl : s.lk < day := by
      unfold St.closeE at he
      by_cases hF : s.closeF day into = 0
      · have hz := closeE1_zero hF
        have h3 : ¬ day ≤ s.lk := of_decide_eq_false hz.2.2.2
        omega
      · rw [if_pos hF] at he; exact absurd he hF
    exact ⟨h.entered (by omega) hd (closeLs_sum s day into) (closeLs_nz s day into) ho, St.Le.one hl (by omega), Nat.le_refl _⟩
  · rw [if_neg he]
    exact ⟨h, St.Le.refl s, Nat.le_succ _⟩
theorem KOk.step {s : St} (h : KOk s) (q : K5) : KOk (s.kstep q) ∧ s.Le (s.kstep q) ∧ (s.kstep q).ne ≤ s.ne + 1 := by
  have hd := pickI_bd q.day (n := 12) (by decide)
  unfold St.kstep
  split
  · exact h.post (by omega) q
  · split
    · exact h.rev _
    · split
      · exact h.lock (by omega)
      · split
        · exact h.close (by omega) _
        · exact ⟨h, St.Le.refl s, Nat.le_succ _⟩
end Go.Annal
namespace Go.Proofs.YtjnmoddcodnadaaGreatDoor
open Go.RowKit Go.Annal
set_option maxHeartbeats 400000 in
theorem pickK_any (c n : Int) (w : World) (h1 : -9223372036854775808 ≤ c) (h2 : c ≤ 9223372036854775807) (hn : 0 < n) (hm : n ≤ 9223372036854775807) :
    Calls Tryz.prog 14 #[.int .i64 c, .int .i64 n] w fun r w' => r = .returned (.int .i64 (pickI c n)) ∧ w' = w := by
  by_cases h : c < 0
  · go_enter Tryz.func14, Tryz.ntmps14
    go_wp2
    go_ret
    exact ⟨ret_int (by simp only [pickI, if_pos h]; rw [neg_tmod' _ _ (by omega)]), rfl⟩
  · go_enter Tryz.func14, Tryz.ntmps14
    go_wp2
    go_ret
    exact ⟨ret_int (by simp only [pickI, if_neg (show ¬ c < 0 by omega)]), rfl⟩
def nmCells : Array Value := #[.string (nmK 0), .string (nmK 1), .string (nmK 2), .string (nmK 3), .string (nmK 4), .string (nmK 5)]
theorem namesK_any (w : World) : Calls Tryz.prog 33 #[] w fun r w' => r = .returned (.slice (some ⟨w.heap.size, 0, none⟩) 6 6) ∧ w' = w.alloc (.cells nmCells 9) := by
  go_enter Tryz.func33, Tryz.ntmps33
  go_wp2
  go_ret
  exact ⟨rfl, rfl⟩
theorem nmCells_get (i : Nat) (hi : i < 6) : nmCells[i]? = some (.string (nmK i)) := by
  rcases (show i = 0 ∨ i = 1 ∨ i = 2 ∨ i = 3 ∨ i = 4 ∨ i = 5 by omega) with rfl | rfl | rfl | rfl | rfl | rfl <;> rfl
set_option maxHeartbeats 1000000 in
/-- The same numbers? -/
theorem same_all (ga gb n ca cb : Nat) (f : Nat → Int) (w : World) (ha : ∀ j, j < n → w.cell? ⟨ga, j, none⟩ = some (.int .i64 (f j))) (hb : ∀ j, j < n → w.cell? ⟨gb, j, none⟩ = some (.int .i64 (f j))) (hn : n ≤ 1000) :
    Calls Tryz.prog 16 #[.slice (some ⟨ga, 0, none⟩) n ca, .slice (some ⟨gb, 0, none⟩) n cb] w fun r w' => r = .returned (.bool true) ∧ Below w.heap.size w w' := by
  have HA : Hid (type_of% ha) := ha
  have HB : Hid (type_of% hb) := hb
  clear ha hb
  go_enter Tryz.func16, Tryz.ntmps16
  go_wp2
  go_loopw [5] (fun iv wr => ∃ k q : Nat, k ≤ n ∧ iv = .int .i64 k ∧ wr = w.drewN q) (fun iv _ => n - (intOf iv).toNat)
  case atStart => exact ⟨0, 0, Nat.zero_le _, rfl, rfl⟩
  case round =>
    obtain ⟨k, q, hk, rfl, rfl⟩ := hrel
    by_cases hlt : k < n
    · have hlt' : (k : Int) < (n : Int) := by omega
      have hk0 : (0 : Int) ≤ (k : Int) := by omega
      have ca := HA.out k hlt
      have cb := HB.out k hlt
      generalize f k = A at *
      go_wp2
      go_quiet (fail)
      go_wp2
      exact ⟨⟨k + 1, q + nq, by omega, by go_num, rfl⟩, by simp [intOf]; omega⟩
    · have hlt' : ¬ (k : Int) < (n : Int) := by omega
      go_wp2
      go_ret
      exact ⟨rfl, ((Grew.refl w).drewN q).below⟩
end Go.Proofs.YtjnmoddcodnadaaGreatDoor
namespace Go.Annal
def K5.ok (q : K5) : Prop := (-9223372036854775808 ≤ q.kind ∧ q.kind ≤ 9223372036854775807) ∧ (-9223372036854775808 ≤ q.day ∧ q.day ≤ 9223372036854775807) ∧ (-9223372036854775808 ≤ q.a ∧ q.a ≤ 9223372036854775807) ∧ (-9223372036854775808 ≤ q.b ∧ q.b ≤ 9223372036854775807) ∧ (-9223372036854775808 ≤ q.c ∧ q.c ≤ 9223372036854775807)
def K5.v (q : K5) : Array Value := #[.int .i64 q.kind, .int .i64 q.day, .int .i64 q.a, .int .i64 q.b, .int .i64 q.c]
theorem lsJ_below (q : K5) : ∀ j, 0 ≤ j → j < lsJ q → j = lsI q ∨ j = lsK q := by
  intro j h0 h1
  have := lsJ_bd q
  unfold lsJ at h1
  split at h1
  · omega
  · split at h1 <;> omega
end Go.Annal
namespace Go.Proofs.YtjnmoddcodnadaaGreatDoor
open Go.RowKit Go.Annal
theorem tdiv6_bd (b : Int) (h1 : -9223372036854775808 ≤ b) (h2 : b ≤ 9223372036854775807) : -9223372036854775808 ≤ b.tdiv 6 ∧ b.tdiv 6 ≤ 9223372036854775807 := by
  rcases Int.le_total 0 b with h | h
  · rw [Int.tdiv_eq_ediv_of_nonneg h]; omega
  · have : b.tdiv 6 = -((-b).tdiv 6) := by rw [Int.neg_tdiv, Int.neg_neg]
    rw [this, Int.tdiv_eq_ediv_of_nonneg (by omega)]; omega
theorem owns_new {w : World} {base : Nat} {cs : Array Value} {e : TypeId} {size n : Nat} (hb : base ≤ w.heap.size) (hm : n ≤ maxLen) (hs : cs.size = n * size) : (w.alloc (.cells cs e)).ownsRow base e size (.slice (some ⟨w.heap.size, 0, none⟩) n n) n cs.toList :=
  ⟨by simp [hs], .inr ⟨w.heap.size, n, cs, rfl, hb, heap_alloc_new w _, Nat.le_refl _, hm, hs, by rw [← hs, List.take_of_length_le (by simp)]⟩⟩
theorem names_in (w : World) (kind day a b c : Int) : Calls Tryz.prog 33 #[] (w.alloc (.cells #[.int .i64 kind, .int .i64 day, .int .i64 a, .int .i64 b, .int .i64 c] 38)) fun r w1 => r = .returned (.slice (some ⟨w.heap.size + 1, 0, none⟩) 6 6) ∧ Grew w w1 ∧ w1.cell? ⟨w.heap.size, 2, none⟩ = some (.int .i64 a) ∧ w1.cell? ⟨w.heap.size, 3, none⟩ = some (.int .i64 b) ∧ w1.cell? ⟨w.heap.size, 4, none⟩ = some (.int .i64 c) ∧ ∀ i, i < 6 → w1.cell? ⟨w.heap.size + 1, i, none⟩ = some (.string (nmK i)) := by
  refine (namesK_any _).mono ?_
  rintro r w1 ⟨rfl, h1⟩
  have hb0 := heap_alloc_new w (.cells #[.int .i64 kind, .int .i64 day, .int .i64 a, .int .i64 b, .int .i64 c] 38)
  have hg : Grew (w.alloc (.cells #[.int .i64 kind, .int .i64 day, .int .i64 a, .int .i64 b, .int .i64 c] 38)) w1 := by rw [h1]; exact (Grew.refl _).alloc _
  have hb1 := hg.blk hb0
  have hb2 : w1.heap[w.heap.size + 1]? = some (.cells nmCells 9 (0, 0)) := by
    have := heap_alloc_new (w.alloc (.cells #[.int .i64 kind, .int .i64 day, .int .i64 a, .int .i64 b, .int .i64 c] 38)) (.cells nmCells 9)
    rw [World.size_alloc] at this
    rw [h1]; exact this
  exact ⟨by rw [World.size_alloc], ((Grew.refl w).alloc _).trans hg, blk_cell' hb1 rfl, blk_cell' hb1 rfl, blk_cell' hb1 rfl, fun i hi => blk_cell' hb2 (nmCells_get i hi)⟩
set_option maxRecDepth 100000 in
set_option maxHeartbeats 400000 in
theorem linesK0 (kind day a b c : Int) (i k jj : Nat) (C P : Int) (w : World) (ha : -9223372036854775808 ≤ a ∧ a ≤ 9223372036854775807) (hb : -9223372036854775808 ≤ b ∧ b ≤ 9223372036854775807) (hc : -9223372036854775808 ≤ c ∧ c ≤ 9223372036854775807)
    (hI : pickI a 6 = i) (hK : ((i : Int) + 1 + pickI b 5) % 6 = k) (hC : pickI c 1000 = C) (hP : pickI (b.tdiv 6) (1 + C) = P)
    (hJ : jj < 3 ∧ jj ≠ i ∧ jj ≠ k) (hJb : Hid (∀ j, j < jj → j = i ∨ j = k)) :
    Calls Tryz.prog 29 #[.agg #[.int .i64 kind, .int .i64 day, .int .i64 a, .int .i64 b, .int .i64 c]] w fun r w' => ∃ v, r = .returned v ∧ w'.ownsRow w.heap.size 58 2 v (if 0 < P then 3 else 2) ([.string (nmK i), .int .i64 (-(1 + C)), .string (nmK k), .int .i64 (1 + C - P)] ++ if 0 < P then [.string (nmK jj), .int .i64 P] else []) ∧ Below w.heap.size w w' := by
  have CN : Hid (type_of% (names_in w kind day a b c)) := names_in w kind day a b c
  have hI' := pickI_bd a 6 (by decide)
  rw [hI] at hI'
  obtain ⟨hi0, hi6⟩ := hI'
  obtain ⟨hB1, hB2⟩ := pickI_bd b 5 (by decide)
  have hC' := pickI_bd c 1000 (by decide)
  rw [hC] at hC'
  obtain ⟨hC1, hC2⟩ := hC'
  obtain ⟨hD1, hD2⟩ := tdiv6_bd b hb.1 hb.2
  have hP' := pickI_bd (b.tdiv 6) (1 + C) (by omega)
  rw [hP] at hP'
  obtain ⟨hP1, hP2⟩ := hP'
  have hk0 : (0 : Int) ≤ (k : Int) := by omega
  have hk6 : (k : Int) < 6 := by omega
  have hj0 : (0 : Int) ≤ (jj : Int) := by omega
  have hj6 : (jj : Int) < 6 := by omega
  have HJ : Hid _ := hJ
  have HI : Hid _ := hI
  have HK : Hid _ := hK
  have HC : Hid _ := hC
  have HP : Hid _ := hP
  clear hJ hI hK hC hP
  go_enter Tryz.func29, Tryz.ntmps29
  go_wp2_with (first
    | (go_at_call 33; refine Calls.mono CN.out ?_; rintro e w1 ⟨rfl, hg1, cK2, cK3, cK4, cN⟩)
    | (go_at_call 14; refine Calls.mono (pickK_any _ _ _ (by omega) (by omega) (by omega) (by omega)) ?_; rintro e wx ⟨rfl, hw⟩; rw [hw]; clear hw wx; try rw [HI.out]))
  rw [HK.out]
  have cI := cN i (by omega)
  have cK := cN k (by omega)
  have cJ := cN jj (by omega)
  have hlt1 : w.heap.size + 1 < w1.heap.size := World.block_lt_of_cell? _ _ cI
  have hs1 : w.heap.size ≤ w1.heap.size := by omega
  obtain ⟨i0, hi, hz0, hz1, hz2⟩ := info_parts Tryz.infoLine
  clear cN CN
  go_loop [7] (fun jv => ∃ j : Nat, jv = .int .i64 j ∧ j ≤ jj) (fun jv => jj - (intOf jv).toNat)
  case atStart => exact ⟨0, rfl, Nat.zero_le _⟩
  case round =>
    obtain ⟨j, rfl, hj1⟩ := hrel
    by_cases hjJ : j = jj
    · subst hjJ
      have n1 : ¬ (j : Int) = (i : Int) := by have := HJ.out.2.1; omega
      have n2 : ¬ (j : Int) = (k : Int) := by have := HJ.out.2.2; omega
      have n1' : ((j : Int) == (i : Int)) = false := beq_eq_false_iff_ne.2 n1
      have n2' : ((j : Int) == (k : Int)) = false := beq_eq_false_iff_ne.2 n2
      by_cases hP0 : 0 < P
      · go_wp2_with (go_at_call 14; refine Calls.mono (pickK_any _ _ _ (by omega) (by omega) (by omega) (by omega)) ?_; rintro e wx ⟨rfl, hw⟩; rw [hw]; clear hw wx; first | rw [HC.out] | rw [HP.out])
        go_region
        all_goals
          obtain ⟨W2, hW2⟩ : ∃ W2, (w1.alloc (.cells #[.string (nmK i), .int .i64 (-(1 + C)), .string (nmK k), .int .i64 (1 + C - P)] 58)).drew = W2 := ⟨_, rfl⟩
          rw [hW2]
          have hown : W2.ownsRow w.heap.size 58 2 (.slice (some ⟨w1.heap.size, 0, none⟩) 2 2) 2 [.string (nmK i), .int .i64 (-(1 + C)), .string (nmK k), .int .i64 (1 + C - P)] := by rw [← hW2]; exact (owns_new hs1 (by decide) rfl).drew
          have hg2 : Grew w W2 := by rw [← hW2]; exact (hg1.alloc _).drew
          have cJ2 : W2.cell? ⟨w.heap.size + 1, j, none⟩ = some (.string (nmK j)) := by rw [← hW2]; exact Grew.cell' (((Grew.refl w1).alloc _).drew) cJ
          have hs2 := hg2.size
          clear hW2
        all_goals go_wp2_with (at_builtin; refine wpList_append_src rfl _ _ 54 rfl w.heap.size 58 i0 _ 2 24 Tryz.underlying54 hi hz0 hz1 hz2 rfl (by decide) _ _ _ rfl (hown.alloc _) _ 1 [.string (nmK j), .int .i64 P] rfl (src_new2 _ _ _ _) (by simp [Value.oneCell']) (by decide) (by decide) (by simp; omega) ?_; intro v2 w2 hown2 hg3; have hB3 := (hg2.below.alloc hs2 (.cells #[.string (nmK j), .int .i64 P] 58)).grown hg3 (by simp; omega) (fun x hx => (hown.lt x hx).1))
        all_goals go_ret
        all_goals exact ⟨_, rfl, by simpa using hown2, hB3⟩
      · go_wp2_with (go_at_call 14; refine Calls.mono (pickK_any _ _ _ (by omega) (by omega) (by omega) (by omega)) ?_; rintro e wx ⟨rfl, hw⟩; rw [hw]; clear hw wx; first | rw [HC.out] | rw [HP.out])
        go_region
        all_goals go_wp2
        all_goals go_ret
        all_goals
          refine ⟨_, rfl, ?_, ?_⟩
          · exact (owns_new hs1 (by decide) rfl).drew
          · exact ((hg1.alloc _).drew).below
    · have hlt : j < jj := by omega
      rcases hJb.out j hlt with rfl | rfl
      · go_wp2
        go_round
        case rel => exact ⟨j + 1, by go_num, by omega⟩
        case measure => simp [intOf]; omega
      · by_cases n1 : (j : Int) = (i : Int)
        · have n1' : ((j : Int) == (i : Int)) = true := by simpa using n1
          go_wp2
          go_round
          case rel => exact ⟨j + 1, by go_num, by omega⟩
          case measure => simp [intOf]; omega
        · have n1' : ((j : Int) == (i : Int)) = false := beq_eq_false_iff_ne.2 n1
          go_wp2
          go_round
          case rel => exact ⟨j + 1, by go_num, by omega⟩
          case measure => simp [intOf]; omega
theorem linesK_any (q : K5) (w : World) (hq : q.ok) :
    Calls Tryz.prog 29 #[.agg q.v] w fun r w' => ∃ v, r = .returned v ∧ w'.ownsRow w.heap.size 58 2 v (lsN q) (lineCells (lsA q) (lsM q) (lsN q)) ∧ Below w.heap.size w w' := by
  obtain ⟨_, _, ha, hb, hc⟩ := hq
  have h1 := lsI_bd q
  have h2 := lsK_bd q
  have h3 := lsJ_bd q
  refine (linesK0 q.kind q.day q.a q.b q.c (lsI q).toNat (lsK q).toNat (lsJ q).toNat (pickI q.c 1000) (lsP q) w ha hb hc (by show lsI q = _; omega) (by rw [Int.toNat_of_nonneg h1.1, Int.toNat_of_nonneg h2.1]; rfl) rfl rfl ⟨by omega, by omega, by omega⟩ (fun j hj => ?_)).mono ?_
  · have := lsJ_below q j (by omega) (by omega)
    omega
  · rintro r w' ⟨v, rfl, ho, hb⟩
    refine ⟨v, rfl, ?_, hb⟩
    unfold lsN
    by_cases h : 0 < lsP q
    · rw [if_pos h, if_pos h] at ho
      rw [if_pos h]
      have e : lineCells (lsA q) (lsM q) 3 = [.string (nmK (lsI q).toNat), .int .i64 (-(1 + pickI q.c 1000)), .string (nmK (lsK q).toNat), .int .i64 (1 + pickI q.c 1000 - lsP q), .string (nmK (lsJ q).toNat), .int .i64 (lsP q)] := by
        have e3 : lsN q = 3 := by unfold lsN; rw [if_pos h]
        simp [lineCells, cells2, enc2, lsA, lsM, List.range_succ, lsS, e3]
      rw [e]; simpa using ho
    · rw [if_neg h, if_neg h] at ho
      rw [if_neg h]
      have e : lineCells (lsA q) (lsM q) 2 = [.string (nmK (lsI q).toNat), .int .i64 (-(1 + pickI q.c 1000)), .string (nmK (lsK q).toNat), .int .i64 (1 + pickI q.c 1000 - lsP q)] := by
        simp [lineCells, cells2, enc2, lsA, lsM, List.range_succ, lsS]
      rw [e]; simpa using ho
end Go.Proofs.YtjnmoddcodnadaaGreatDoor
namespace Go.Annal
open Go.Proofs.YtjnmoddcodnadaaGreatDoor
theorem sF_swap (g : Nat → Nat → Int) (m : Nat) : ∀ n, sF (fun i => sF (g i) n) m = sF (fun k => sF (fun i => g i k) m) n
  | 0 => sF_zero _ (fun _ _ => rfl)
  | n + 1 => by
    have e : sF (fun i => sF (g i) (n + 1)) m = sF (fun i => sF (g i) n + g i n) m := rfl
    rw [e, sF_add, sF_swap g m n]
    rfl
/-- What the six names have together is what the lines have. -/
theorem am_all (xa : Nat → ByteArray) (xm : Nat → Int) : ∀ n, (∀ j, j < n → ∃ i, i < 6 ∧ (nmK i).toList = (xa j).toList) → sF (fun i => am xa xm (nmK i) n) 6 = sumN xm n
  | 0, _ => rfl
  | n + 1, h => by
    have e : sF (fun i => am xa xm (nmK i) (n + 1)) 6 = sF (fun i => am xa xm (nmK i) n + if (xa n).toList == (nmK i).toList then xm n else 0) 6 := rfl
    rw [e, sF_add, am_all xa xm n (fun j hj => h j (by omega))]
    obtain ⟨i, hi, hx⟩ := h n (by omega)
    have := sF_one (f := fun i => if (xa n).toList == (nmK i).toList then xm n else 0) (g := fun _ => 0) 6 hi (fun k hk hne => if_neg (by
      simp only [beq_iff_eq]
      exact fun e' => hne (nmK_inj k hk i hi (e'.symm.trans hx.symm))))
    rw [this, sF_zero _ (fun _ _ => rfl), if_pos (by simp [hx])]
    simp [sumN]
/-- All balances together are 0. -/
theorem KOk.balanced {s : St} (h : KOk s) (day : Int) {n : Nat} (hn : n ≤ s.ne) : sF (fun i => enS s.dy s.la s.lm (nmK i) day s.ln n) 6 = 0 := by
  have e : (fun i => enS s.dy s.la s.lm (nmK i) day s.ln n) = fun i => sF (upD s.dy (fun k => am (s.la k) (s.lm k) (nmK i) (s.ln k)) day) n := by
    funext i; exact enS_sF _ _ _ _ _ _ _
  rw [e, sF_swap (fun i k => upD s.dy (fun k => am (s.la k) (s.lm k) (nmK i) (s.ln k)) day k)]
  refine sF_zero _ (fun k hk => ?_)
  unfold upD
  by_cases hd : s.dy k ≤ day
  · simp only [if_pos hd]
    rw [am_all _ _ _ (fun j hj => ?_), h.z k (by omega)]
    have := h.ok.th k (by omega) j hj
    obtain ⟨i, hi, he⟩ := (there_iff _ _).1 this
    rw [h.na] at hi
    rw [h.fn i hi] at he
    exact ⟨i, hi, he⟩
  · simp only [if_neg hd]
    exact sF_zero _ (fun _ _ => rfl)
theorem KOk.flow {s : St} (h : KOk s) {i : Nat} (h3 : 3 ≤ i) (h6 : i < 6) : ¬ s.stk (nmK i) := fun ⟨j, hj, hn, hk⟩ => by
  rw [h.na] at hj
  rw [h.fn j hj] at hn
  have := nmK_inj j hj i h6 hn
  subst this
  rw [h.kd j hj, if_neg (by omega)] at hk
  exact hk rfl
theorem closeLs_am {s : St} (h : s.Ok) {day : Int} {into x : ByteArray} (hi : s.stk into) (hx : ¬ s.stk x) : amL (s.closeLs day into) x = - s.sum day x := by
  obtain ⟨j, hj, hjn, h2⟩ := hi
  have ei : amL (s.closeLs day into) x = amL (s.closeL0 day) x := by
    unfold St.closeLs
    by_cases e : s.closeS day ≠ 0
    · rw [if_pos e, amL_snoc, if_neg (by
        simp only [beq_iff_eq]
        exact fun e' => hx ⟨j, hj, hjn.trans e', h2⟩)]
      omega
    · rw [if_neg e, List.append_nil]
  rw [ei]
  unfold St.closeL0
  rw [closeL_am _ _ _ _ _ h.nm]
  cases ht : s.there x
  · rw [St.sum_none h day x ht]
    refine (sF_zero _ (fun k hk => if_neg (fun e' => ?_))).trans rfl
    have := (there_iff s x).2 ⟨k, hk, e'.1⟩
    rw [ht] at this; cases this
  · obtain ⟨i, hi, hix⟩ := (there_iff s x).1 ht
    have hk : s.kd i = 1 := Classical.byContradiction fun hk => hx ⟨i, hi, hix, hk⟩
    have hxe : s.fn i = x := sEq_iff.1 (by simpa using hix)
    have := sF_one (f := fun k => if (s.fn k).toList = x.toList ∧ s.kd k = 1 then - s.sum day (s.fn k) else 0) (g := fun _ => 0) s.na hi (fun k hk' hne => if_neg (fun e' => by
      rcases Nat.lt_or_gt_of_ne hne with e | e
      · exact h.nm k i e hi (e'.1.trans hix.symm)
      · exact h.nm i k e hk' (hix.trans e'.1.symm)))
    rw [this, sF_zero _ (fun _ _ => rfl), if_pos ⟨hix, hk⟩, hxe]; omega
/-- An entry more. -/
theorem enS_one {s : St} {day d : Int} {xa : Nat → ByteArray} {xm : Nat → Int} {n : Nat} {x : ByteArray} :
    enS (upd s.dy s.ne day) (upd s.la s.ne xa) (upd s.lm s.ne xm) x d (upd s.ln s.ne n) (s.ne + 1) = enS s.dy s.la s.lm x d s.ln s.ne + if day ≤ d then am xa xm x n else 0 := by
  rw [enS_sF, enS_sF]
  simp only [sF]
  rw [sF_congr (g := upD s.dy (fun i => am (s.la i) (s.lm i) x (s.ln i)) d) s.ne (fun k hk => by
    unfold upD
    simp only [upd_ne _ _ (show k ≠ s.ne by omega)])]
  congr 1
  unfold upD
  simp only [upd_same]
/-- Behind a closing no flow has anything on that day. -/
theorem KOk.shut {s : St} (h : KOk s) {day : Int} {into : Nat} (hi : into < 3) {i : Nat} (h3 : 3 ≤ i) (h6 : i < 6) : (s.closed day (nmK into)).sum day (nmK i) = 0 := by
  have hstk : s.stk (nmK into) := ⟨into, by rw [h.na]; omega, by rw [h.fn _ (by omega)], by rw [h.kd _ (by omega), if_pos hi]; decide⟩
  have := closeLs_am h.ok (day := day) hstk (h.flow h3 h6)
  unfold St.sum
  unfold St.closed
  simp only
  rw [enS_one (s := s), if_pos (Int.le_refl _)]
  show s.sum day (nmK i) + amL (s.closeLs day (nmK into)) (nmK i) = 0
  rw [this]; omega
/-- An entry and its reversal leave nothing. -/
theorem enS_undone {s : St} {day d : Int} {xa : Nat → ByteArray} {xm : Nat → Int} {n : Nat} {x : ByteArray} :
    enS (upd (upd s.dy s.ne day) (s.ne + 1) day) (upd (upd s.la s.ne xa) (s.ne + 1) xa) (upd (upd s.lm s.ne xm) (s.ne + 1) (fun j => - xm j)) x d (upd (upd s.ln s.ne n) (s.ne + 1) n) (s.ne + 2) = enS s.dy s.la s.lm x d s.ln s.ne := by
  have h1 := enS_one (s := s) (day := day) (d := d) (xa := xa) (xm := xm) (n := n) (x := x)
  have h2 := enS_one (s := { s with ne := s.ne + 1, dy := upd s.dy s.ne day, ln := upd s.ln s.ne n, la := upd s.la s.ne xa, lm := upd s.lm s.ne xm }) (day := day) (d := d) (xa := xa) (xm := fun j => - xm j) (n := n) (x := x)
  simp only at h2
  rw [show s.ne + 2 = s.ne + 1 + 1 from rfl, h2, h1, am_neg]
  split <;> omega
end Go.Annal
namespace Go.Annal
open Go.Proofs.YtjnmoddcodnadaaGreatDoor
/-- The book of i accounts that steps begin with. -/
def kn : Nat → St
  | 0 => St.new
  | i + 1 => (kn i).afterOpen (nmK i) (if i < 3 then 0 else 1)
theorem kn_ok : ∀ i, (kn i).Ok
  | 0 => St.new_ok
  | i + 1 => St.afterOpen_ok (kn_ok i) _ _
theorem nmK_name : ∀ i, i < 6 → isName (nmK i) = true := by decide +kernel
structure KnIs (i : Nat) (s : St) : Prop where
  na : s.na = i
  ne : s.ne = 0
  lk : s.lk = -1
  fn : ∀ j, j < i → s.fn j = nmK j
  kd : ∀ j, j < i → s.kd j = if j < 3 then 0 else 1
theorem kn_is : ∀ i, i ≤ 6 → KnIs i (kn i) ∧ (i < 6 → (kn i).openE (nmK i) (if i < 3 then 0 else 1) = 0)
  | 0, _ => by
    refine ⟨⟨rfl, rfl, rfl, fun j hj => by omega, fun j hj => by omega⟩, fun _ => ?_⟩
    unfold St.openE
    rw [nmK_name 0 (by omega)]
    rfl
  | i + 1, h => by
    obtain ⟨g, ge⟩ := kn_is i (by omega)
    have he := ge (by omega)
    have hs : kn (i + 1) = (kn i).opened (nmK i) (if i < 3 then 0 else 1) := by
      show (kn i).afterOpen _ _ = _
      unfold St.afterOpen
      rw [if_pos he]
    have g' : KnIs (i + 1) (kn (i + 1)) := by
      rw [hs]
      refine ⟨by show (kn i).na + 1 = _; rw [g.na], g.ne, g.lk, fun j hj => ?_, fun j hj => ?_⟩
      · show upd (kn i).fn (kn i).na (nmK i) j = _
        rw [g.na]
        by_cases e : j = i
        · subst e; rw [upd_same]
        · rw [upd_ne _ _ e]; exact g.fn j (by omega)
      · show upd (kn i).kd (kn i).na _ j = _
        rw [g.na]
        by_cases e : j = i
        · subst e; rw [upd_same]
        · rw [upd_ne _ _ e]; exact g.kd j (by omega)
    refine ⟨g', fun h6 => ?_⟩
    unfold St.openE
    rw [nmK_name _ h6]
    have h1 : (kn (i + 1)).there (nmK (i + 1)) = false := by
      rw [Bool.eq_false_iff]
      intro ht
      obtain ⟨j, hj, e⟩ := (there_iff _ _).1 ht
      rw [g'.na] at hj
      rw [g'.fn j hj] at e
      have := nmK_inj j (by omega) (i + 1) h6 e
      omega
    rw [h1, g'.na]
    have h2 : kindB (if i + 1 < 3 then 0 else 1) = true := by split <;> rfl
    rw [h2, decide_eq_false (by omega)]
    rfl
theorem kn_kok : KOk (kn 6) := by
  have g := (kn_is 6 (by omega)).1
  exact ⟨kn_ok 6, g.na, fun i hi => g.fn i hi, fun i hi => g.kd i hi, fun k hk => by rw [g.ne] at hk; omega, by rw [g.lk]; decide, fun k hk => by rw [g.ne] at hk; omega, fun k hk => by rw [g.ne] at hk; omega⟩
end Go.Annal
namespace Go.Proofs.YtjnmoddcodnadaaGreatDoor
open Go.RowKit Go.Annal Go.Sort
/-- A book that is played. -/
structure RunIs (w : World) (R B : Nat) (s : St) (Fp : Nat → Prop) : Prop where
  rn : w.heap[R]? = some (.cells #[.pointer (some ⟨B, 0, none⟩), .int .i64 s.ne, .int .i64 s.lk] 31 (0, 0))
  pg : ProgIs w B s Fp
  ap : ¬ Fp R
theorem RunIs.mv {w w' : World} {R B : Nat} {s : St} {Fp : Nat → Prop} (h : RunIs w R B s Fp) (hb : Below w.heap.size w w') : RunIs w' R B s Fp :=
  ⟨(hb.block _ (blk_lt h.rn)).trans h.rn, h.pg.turn (S := fun _ => False) (Turn.of_below hb) (fun _ _ h => h), h.ap⟩
set_option maxHeartbeats 2000000 in
set_option maxRecDepth 100000 in
theorem fresh_any (w : World) : Calls Tryz.prog 20 #[] w fun r w' => ∃ R, r = .returned (.pointer (some ⟨R, 0, none⟩)) ∧ Hid (∃ B Fp, RunIs w' R B (kn 6) Fp ∧ w.heap.size ≤ R ∧ (∀ b, Fp b → w.heap.size ≤ b) ∧ Below w.heap.size w w') := by
  have CN : Hid (∀ W, _) := fun W => progNew W
  have CM : Hid (∀ W, _) := fun W => namesK_any W
  go_enter Tryz.func20, Tryz.ntmps20
  go_wp2_with (first
    | (go_at_call 25; refine Calls.mono (CN.out _) ?_; rintro e w1 ⟨rfl, hP, hg1⟩; have HP : Hid (type_of% hP) := hP; clear hP)
    | (go_at_call 33; refine Calls.mono (CM.out _) ?_; rintro e w2 ⟨rfl, hw2⟩))
  have HN : Hid (w2.heap[w1.heap.size]? = some (.cells nmCells 9 (0, 0)) ∧ Below w.heap.size w w2 ∧ ProgIs w2 w.heap.size (kn 0) (fun b => b = w.heap.size) ∧ w.heap.size < w1.heap.size) := by
    have hk : Grew w1 w2 := by rw [hw2]; exact (Grew.refl _).alloc _
    refine ⟨by rw [hw2]; exact heap_alloc_new w1 _, (hg1.trans hk).below, HP.out.turn (S := fun _ => False) (Turn.of_below hk.below) (fun _ _ h => h), ?_⟩
    exact HP.out.lt rfl
  rw [← hw2]
  clear hw2 HP
  have HST : Hid (∀ (i : Nat) (wr : World) (Fp : Nat → Prop), i < 6 → ProgIs wr w.heap.size (kn i) Fp → (∀ b, Fp b → w.heap.size ≤ b) → ¬ Fp w1.heap.size → wr.heap[w1.heap.size]? = some (.cells nmCells 9 (0, 0)) → Below w.heap.size w wr → Calls Tryz.prog 38 #[.pointer (some ⟨w.heap.size, 0, none⟩), .string (nmK i), .int .i64 (if i < 3 then 0 else 1)] wr fun r w' => r = .returned (.int .i64 0) ∧ Hid (∃ Fp', ProgIs w' w.heap.size (kn (i + 1)) Fp' ∧ (∀ b, Fp' b → w.heap.size ≤ b) ∧ ¬ Fp' w1.heap.size ∧ w'.heap[w1.heap.size]? = some (.cells nmCells 9 (0, 0)) ∧ Below w.heap.size w w')) := by
    intro i wr Fp hi hP hF hN hnb hb
    refine (progOpen w.heap.size (kn i) Fp (nmK i) (if i < 3 then 0 else 1) wr hP (kn_ok i) (by show (1 : Nat) ≤ 1000000000; decide)).mono ?_
    rintro r w' ⟨rfl, Fp', hP', hT, hF'⟩
    have hbs := hb.size
    have hlt := blk_lt hnb
    refine ⟨by rw [(kn_is i (by omega)).2 hi], ⟨Fp', hP', fun b hb' => (hF' b hb').elim (hF b) (fun h => by omega), fun hb' => (hF' _ hb').elim hN (fun h => by omega), hT.blk hnb hN, ?_⟩⟩
    exact ⟨hT.os.trans hb.os, hT.tape.trans hb.tape, hT.output.trans hb.output, Nat.le_trans hbs hT.size, fun x hx => (hT.block x (by omega) (fun h => by have := hF x h; omega)).trans (hb.block x hx)⟩
  go_loopw [3, 4, 5] (fun s3 _ _ wr => ∃ i : Nat, i ≤ 6 ∧ s3 = .int .i64 i ∧ Hid (∃ Fp, ProgIs wr w.heap.size (kn i) Fp ∧ (∀ b, Fp b → w.heap.size ≤ b) ∧ ¬ Fp w1.heap.size ∧ wr.heap[w1.heap.size]? = some (.cells nmCells 9 (0, 0)) ∧ Below w.heap.size w wr)) (fun s3 _ _ _ => 6 - (intOf s3).toNat)
  case atStart => exact ⟨0, by omega, rfl, ⟨fun b => b = w.heap.size, HN.out.2.2.1, fun b (hb : b = w.heap.size) => by omega, fun (e : w1.heap.size = w.heap.size) => by have := HN.out.2.2.2; omega, HN.out.1, HN.out.2.1⟩⟩
  case round =>
    obtain ⟨i, hi, rfl, hq⟩ := hrel
    by_cases hi6 : i < 6
    · have hi6' : (i : Int) < 6 := by omega
      have hi0 : (0 : Int) ≤ (i : Int) := by omega
      have CO : Hid (Calls Tryz.prog 38 #[.pointer (some ⟨w.heap.size, 0, none⟩), .string (nmK i), .int .i64 (if i < 3 then 0 else 1)] wr fun r w' => r = .returned (.int .i64 0) ∧ Hid (∃ Fp', ProgIs w' w.heap.size (kn (i + 1)) Fp' ∧ (∀ b, Fp' b → w.heap.size ≤ b) ∧ ¬ Fp' w1.heap.size ∧ w'.heap[w1.heap.size]? = some (.cells nmCells 9 (0, 0)) ∧ Below w.heap.size w w')) := by
        obtain ⟨Fp, a1, a2, a3, a4, a5⟩ := hq.out
        exact HST.out i wr Fp hi6 a1 a2 a3 a4 a5
      have cn : wr.cell? ⟨w1.heap.size, i, none⟩ = some (.string (nmK i)) := by
        obtain ⟨Fp, a1, a2, a3, a4, a5⟩ := hq.out
        exact blk_cell' a4 (nmCells_get i hi6)
      by_cases h3 : i < 3
      · have h3' : ¬ (2 : Int) < (i : Int) := by omega
        rw [if_pos h3] at CO
        go_wp2_with (go_at_call 38; refine Calls.mono CO.out ?_; rintro e w3 ⟨rfl, hq3⟩)
        go_roundw
        case rel => exact ⟨i + 1, by omega, by go_num, hq3⟩
        case measure => simp [intOf]; omega
      · have h3' : (2 : Int) < (i : Int) := by omega
        rw [if_neg h3] at CO
        go_wp2_with (go_at_call 38; refine Calls.mono CO.out ?_; rintro e w3 ⟨rfl, hq3⟩)
        go_roundw
        case rel => exact ⟨i + 1, by omega, by go_num, hq3⟩
        case measure => simp [intOf]; omega
    · have hi6' : ¬ (i : Int) < 6 := by omega
      obtain rfl : i = 6 := by omega
      go_wp2
      go_ret
      refine ⟨wr.heap.size, rfl, ?_⟩
      obtain ⟨Fp, a1, a2, a3, a4, a5⟩ := hq.out
      have g := (kn_is 6 (by omega)).1
      refine ⟨w.heap.size, Fp, ⟨?_, a1.turn (S := fun _ => False) (Turn.of_below ((Grew.refl wr).alloc _).below) (fun _ _ h => h), fun h => by have := a1.lt h; omega⟩, a5.size, a2, a5.alloc a5.size _⟩
      rw [g.ne, g.lk]
      exact heap_alloc_new wr _
end Go.Proofs.YtjnmoddcodnadaaGreatDoor
namespace Go.Annal
open Go.Proofs.YtjnmoddcodnadaaGreatDoor
def cashB : ByteArray := ⟨#[99, 97, 115, 104]⟩
def rentB : ByteArray := ⟨#[114, 101, 110, 116]⟩
/-- Two lines. -/
def twoA (j : Nat) : ByteArray := if j = 0 then cashB else rentB
def twoM (n : Int) (j : Nat) : Int := if j = 0 then - n else n
def sb1 : St := St.new.afterOpen cashB 0
def sb2 : St := sb1.afterOpen rentB 1
def sb3 : St := sb2.afterPost 5 twoA (twoM 30) 2
theorem sb1_e : St.new.openE cashB 0 = 0 := by kernel_rfl
theorem sb2_e : sb1.openE rentB 1 = 0 := by kernel_rfl
theorem sb3_e : sb2.postE 5 twoA (twoM 30) 2 = 0 ∧ sb2.postN 5 twoA (twoM 30) 2 = 1 := ⟨by kernel_rfl, by kernel_rfl⟩
theorem sb3_b : sb3.bal cashB 5 1 = -30 ∧ sb3.balE cashB 5 1 = 0 ∧ sb3.bal cashB 4 1 = 0 ∧ sb3.balE cashB 4 1 = 0 ∧ sb3.bal cashB 5 0 = 0 ∧ sb3.balE cashB 5 0 = 0 := ⟨by kernel_rfl, by kernel_rfl, by kernel_rfl, by kernel_rfl, by kernel_rfl, by kernel_rfl⟩
theorem sb3_t : sb3.trialE 5 1 = 0 ∧ sb3.trial 5 1 = [(cashB, -30), (rentB, 30)] := ⟨by kernel_rfl, by kernel_rfl⟩
def sc3 : St := sb2.afterPost 3 twoA (twoM 70) 2
def sc4 : St := sc3.afterClose 4 cashB
def sc5 : St := sc4.afterRev 1
theorem sc3_e : sb2.postE 3 twoA (twoM 70) 2 = 0 ∧ sb2.postN 3 twoA (twoM 70) 2 = 1 := ⟨by kernel_rfl, by kernel_rfl⟩
theorem sc4_e : sc3.closeE 4 cashB = 0 ∧ sc3.closeN 4 cashB = 2 := ⟨by kernel_rfl, by kernel_rfl⟩
theorem sc5_e : sc4.revE 1 = 0 ∧ sc4.revN 1 = 3 ∧ sc5.revE 1 = 12 ∧ sc5.lockE 4 = 11 := ⟨by kernel_rfl, by kernel_rfl, by kernel_rfl, by kernel_rfl⟩
theorem sc5_b : sc5.bal rentB 4 3 = 0 ∧ sc5.bal rentB 5 3 = -70 := ⟨by kernel_rfl, by kernel_rfl⟩
theorem sb1_ok : sb1.Ok := St.afterOpen_ok St.new_ok _ _
theorem sb2_ok : sb2.Ok := St.afterOpen_ok sb1_ok _ _
theorem sb3_ok : sb3.Ok := St.afterPost_ok sb2_ok _ _ _ _
theorem sc3_ok : sc3.Ok := St.afterPost_ok sb2_ok _ _ _ _
theorem sc4_ok : sc4.Ok := St.afterClose_ok sc3_ok _ _
theorem sc5_ok : sc5.Ok := St.afterRev_ok sc4_ok _
end Go.Annal
namespace Go.Proofs.YtjnmoddcodnadaaGreatDoor
open Go.RowKit Go.Annal Go.Sort
theorem two_lines {w : World} {g : Nat} {n : Int} (h : w.heap[g]? = some (.cells #[.string cashB, .int .i64 (-n), .string rentB, .int .i64 n] 58 (0, 0))) : LinesV w (some ⟨g, 0, none⟩) 2 2 twoA (twoM n) := by
  refine ⟨Nat.le_refl _, by decide, fun k _ => ?_, fun _ => ⟨g, 0, rfl, ⟨fun k hk => ?_, fun k hk => ?_⟩⟩⟩
  · unfold twoA; split <;> decide
  · rcases (show k = 0 ∨ k = 1 by omega) with rfl | rfl
    · exact blk_cell' h rfl
    · exact blk_cell' h rfl
  · rcases (show k = 0 ∨ k = 1 by omega) with rfl | rfl
    · exact blk_cell' h rfl
    · exact blk_cell' h rfl
/-- A book that was made in a call. -/
def Mine (w W : World) (B : Nat) (s : St) : Prop := ∃ Fp, ProgIs W B s Fp ∧ (∀ b, Fp b → w.heap.size ≤ b) ∧ Below w.heap.size w W
theorem Mine.of {w W w' : World} {B : Nat} {t : St} {Fp : Nat → Prop} (h2 : ∀ b, Fp b → w.heap.size ≤ b) (h3 : Below w.heap.size w W) (q : ∃ Fp', ProgIs w' B t Fp' ∧ Turn Fp W w' ∧ ∀ b, Fp' b → Fp b ∨ W.heap.size ≤ b) : Mine w w' B t := by
  obtain ⟨Fp', q1, q2, q3⟩ := q
  have hs := h3.size
  refine ⟨Fp', q1, fun b hb => (q3 b hb).elim (h2 b) (fun h => by omega), ?_⟩
  exact ⟨q2.os.trans h3.os, q2.tape.trans h3.tape, q2.output.trans h3.output, Nat.le_trans hs q2.size, fun x hx => (q2.block x (by omega) (fun h => by have := h2 x h; omega)).trans (h3.block x hx)⟩
theorem Mine.mv {w W w' : World} {B : Nat} {s : St} (h : Mine w W B s) (hb : Below W.heap.size W w') : Mine w w' B s := by
  obtain ⟨Fp, h1, h2, h3⟩ := h
  exact ⟨Fp, h1.turn (S := fun _ => False) (Turn.of_below hb) (fun _ _ h => h), h2, h3.trans (hb.mono h3.size)⟩
theorem Mine.below {w W : World} {B : Nat} {s : St} (h : Mine w W B s) : Below w.heap.size w W := by obtain ⟨_, _, _, h⟩ := h; exact h
theorem mine_new (w0 w : World) (h0 : Below w0.heap.size w0 w) : Calls Tryz.prog 25 #[] w fun r w' => r = .returned (.pointer (some ⟨w.heap.size, 0, none⟩)) ∧ Mine w0 w' w.heap.size St.new := by
  refine (progNew w).mono ?_
  rintro r w' ⟨rfl, hP, hg⟩
  have := h0.size
  exact ⟨rfl, _, hP, fun b (hb : b = w.heap.size) => by omega, h0.trans (hg.below.mono h0.size)⟩
theorem mine_open {w W : World} {B : Nat} {s : St} (h : Mine w W B s) (ho : s.Ok) (name : ByteArray) (kind : Int) (hs : name.size ≤ 1000000000) : Calls Tryz.prog 38 #[.pointer (some ⟨B, 0, none⟩), .string name, .int .i64 kind] W fun r w' => r = .returned (.int .i64 (s.openE name kind)) ∧ Mine w w' B (s.afterOpen name kind) := by
  obtain ⟨Fp, h1, h2, h3⟩ := id h
  refine (progOpen B s Fp name kind W h1 ho hs).mono ?_
  rintro r w' ⟨rfl, q⟩
  exact ⟨rfl, Mine.of h2 h3 q⟩
theorem mine_post {w W : World} {B : Nat} {s : St} (h : Mine w W B s) (ho : s.Ok) (day : Int) (lad : Option Addr) (n cap : Nat) (ya : Nat → ByteArray) (ym : Nat → Int) (hL : LinesV W lad n cap ya ym) : Calls Tryz.prog 28 #[.pointer (some ⟨B, 0, none⟩), .int .i64 day, .slice lad n cap] W fun r w' => r = .returned (.tuple #[.int .i64 (s.postN day ya ym n), .int .i64 (s.postE day ya ym n)]) ∧ Mine w w' B (s.afterPost day ya ym n) := by
  obtain ⟨Fp, h1, h2, h3⟩ := id h
  refine (progPost B s Fp day lad n cap ya ym W h1 ho hL).mono ?_
  rintro r w' ⟨rfl, q⟩
  exact ⟨rfl, Mine.of h2 h3 q⟩
theorem mine_rev {w W : World} {B : Nat} {s : St} (h : Mine w W B s) (ho : s.Ok) (e : Int) : Calls Tryz.prog 30 #[.pointer (some ⟨B, 0, none⟩), .int .i64 e] W fun r w' => r = .returned (.tuple #[.int .i64 (s.revN e), .int .i64 (s.revE e)]) ∧ Mine w w' B (s.afterRev e) := by
  obtain ⟨Fp, h1, h2, h3⟩ := id h
  refine (progRev B s Fp e W h1 ho).mono ?_
  rintro r w' ⟨rfl, q⟩
  exact ⟨rfl, Mine.of h2 h3 q⟩
theorem mine_lock {w W : World} {B : Nat} {s : St} (h : Mine w W B s) (ho : s.Ok) (day : Int) : Calls Tryz.prog 31 #[.pointer (some ⟨B, 0, none⟩), .int .i64 day] W fun r w' => r = .returned (.int .i64 (s.lockE day)) ∧ Mine w w' B (s.afterLock day) := by
  obtain ⟨Fp, h1, h2, h3⟩ := id h
  refine (progLock B s Fp day W h1 ho).mono ?_
  rintro r w' ⟨rfl, q⟩
  exact ⟨rfl, Mine.of h2 h3 q⟩
theorem mine_close {w W : World} {B : Nat} {s : St} (h : Mine w W B s) (ho : s.Ok) (day : Int) (into : ByteArray) : Calls Tryz.prog 32 #[.pointer (some ⟨B, 0, none⟩), .int .i64 day, .string into] W fun r w' => r = .returned (.tuple #[.int .i64 (s.closeN day into), .int .i64 (s.closeE day into)]) ∧ Mine w w' B (s.afterClose day into) := by
  obtain ⟨Fp, h1, h2, h3⟩ := id h
  refine (progClose B s Fp day into W h1 ho).mono ?_
  rintro r w' ⟨rfl, q⟩
  exact ⟨rfl, Mine.of h2 h3 q⟩
theorem mine_bal {w W : World} {B : Nat} {s : St} (h : Mine w W B s) (ho : s.Ok) (name : ByteArray) (day known : Int) : Calls Tryz.prog 34 #[.pointer (some ⟨B, 0, none⟩), .string name, .int .i64 day, .int .i64 known] W fun r w' => r = .returned (.tuple #[.int .i64 (s.bal name day known), .int .i64 (s.balE name day known)]) ∧ Mine w w' B s := by
  obtain ⟨Fp, h1, h2, h3⟩ := id h
  refine (progBal B s Fp name day known W h1 ho).mono ?_
  rintro r w' ⟨rfl, hb⟩
  exact ⟨rfl, h.mv hb⟩
theorem mine_trial {w W : World} {B : Nat} {s : St} (h : Mine w W B s) (ho : s.Ok) (day known : Int) : Calls Tryz.prog 85 #[.pointer (some ⟨B, 0, none⟩), .int .i64 day, .int .i64 known] W fun r w' => ∃ v, r = .returned (.tuple #[v, .int .i64 (s.trialE day known)]) ∧ w'.ownsRow W.heap.size 58 2 v (s.trial day known).length (cells2 (s.trial day known)) ∧ Mine w w' B s := by
  obtain ⟨Fp, h1, h2, h3⟩ := id h
  refine (progTrial B s Fp day known W h1 ho).mono ?_
  rintro r w' ⟨v, rfl, hv, hb⟩
  exact ⟨v, rfl, hv, h.mv hb⟩
/-- What the small books answer, each once, in a form that the walk takes. -/
theorem begun_open1 (w W : World) (B : Nat) (h : Hid (Mine w W B St.new)) : Calls Tryz.prog 38 #[.pointer (some ⟨B, 0, none⟩), .string ⟨#[99, 97, 115, 104]⟩, .int .i64 0] W fun r w' => r = .returned (.int .i64 0) ∧ Hid (Mine w w' B sb1) := by
  have := mine_open h.out St.new_ok cashB 0 (by decide)
  rw [sb1_e] at this
  exact this
theorem begun_open2 (w W : World) (B : Nat) (h : Hid (Mine w W B sb1)) : Calls Tryz.prog 38 #[.pointer (some ⟨B, 0, none⟩), .string ⟨#[114, 101, 110, 116]⟩, .int .i64 1] W fun r w' => r = .returned (.int .i64 0) ∧ Hid (Mine w w' B sb2) := by
  have := mine_open h.out sb1_ok rentB 1 (by decide)
  rw [sb2_e] at this
  exact this
theorem begun_new (w : World) : Calls Tryz.prog 25 #[] w fun r w' => r = .returned (.pointer (some ⟨w.heap.size, 0, none⟩)) ∧ Hid (Mine w w' w.heap.size St.new) := mine_new w w (Below.refl _ _)
theorem begun_postN {s : St} {day n : Int} (hs : s.Ok) (he : s.postE day twoA (twoM n) 2 = 0 ∧ s.postN day twoA (twoM n) 2 = 1) (w W : World) (B : Nat) (h : Hid (Mine w W B s)) : Calls Tryz.prog 28 #[.pointer (some ⟨B, 0, none⟩), .int .i64 day, .slice (some ⟨W.heap.size, 0, none⟩) 2 2] (W.alloc (.cells #[.string ⟨#[99, 97, 115, 104]⟩, .int .i64 (-n), .string ⟨#[114, 101, 110, 116]⟩, .int .i64 n] 58)) fun r w' => r = .returned (.tuple #[.int .i64 1, .int .i64 0]) ∧ Hid (Mine w w' B (s.afterPost day twoA (twoM n) 2)) := by
  have := mine_post (h.out.mv ((Grew.refl W).alloc (.cells #[.string ⟨#[99, 97, 115, 104]⟩, .int .i64 (-n), .string ⟨#[114, 101, 110, 116]⟩, .int .i64 n] 58)).below) hs day (some ⟨W.heap.size, 0, none⟩) 2 2 twoA (twoM n) (two_lines (heap_alloc_new W _))
  rw [he.1, he.2] at this
  exact this
theorem begun_post (w W : World) (B : Nat) (h : Hid (Mine w W B sb2)) : Calls Tryz.prog 28 #[.pointer (some ⟨B, 0, none⟩), .int .i64 5, .slice (some ⟨W.heap.size, 0, none⟩) 2 2] (W.alloc (.cells #[.string ⟨#[99, 97, 115, 104]⟩, .int .i64 (-30), .string ⟨#[114, 101, 110, 116]⟩, .int .i64 30] 58)) fun r w' => r = .returned (.tuple #[.int .i64 1, .int .i64 0]) ∧ Hid (Mine w w' B sb3) := begun_postN sb2_ok sb3_e w W B h
theorem changed_post (w W : World) (B : Nat) (h : Hid (Mine w W B sb2)) : Calls Tryz.prog 28 #[.pointer (some ⟨B, 0, none⟩), .int .i64 3, .slice (some ⟨W.heap.size, 0, none⟩) 2 2] (W.alloc (.cells #[.string ⟨#[99, 97, 115, 104]⟩, .int .i64 (-70), .string ⟨#[114, 101, 110, 116]⟩, .int .i64 70] 58)) fun r w' => r = .returned (.tuple #[.int .i64 1, .int .i64 0]) ∧ Hid (Mine w w' B sc3) := begun_postN sb2_ok sc3_e w W B h
theorem begun_bal1 (w W : World) (B : Nat) (h : Hid (Mine w W B sb3)) : Calls Tryz.prog 34 #[.pointer (some ⟨B, 0, none⟩), .string ⟨#[99, 97, 115, 104]⟩, .int .i64 5, .int .i64 1] W fun r w' => r = .returned (.tuple #[.int .i64 (-30), .int .i64 0]) ∧ Hid (Mine w w' B sb3) := by
  have := mine_bal h.out sb3_ok cashB 5 1
  rw [sb3_b.1, sb3_b.2.1] at this
  exact this
theorem begun_bal2 (w W : World) (B : Nat) (h : Hid (Mine w W B sb3)) : Calls Tryz.prog 34 #[.pointer (some ⟨B, 0, none⟩), .string ⟨#[99, 97, 115, 104]⟩, .int .i64 4, .int .i64 1] W fun r w' => r = .returned (.tuple #[.int .i64 0, .int .i64 0]) ∧ Hid (Mine w w' B sb3) := by
  have := mine_bal h.out sb3_ok cashB 4 1
  rw [sb3_b.2.2.1, sb3_b.2.2.2.1] at this
  exact this
theorem begun_bal3 (w W : World) (B : Nat) (h : Hid (Mine w W B sb3)) : Calls Tryz.prog 34 #[.pointer (some ⟨B, 0, none⟩), .string ⟨#[99, 97, 115, 104]⟩, .int .i64 5, .int .i64 0] W fun r w' => r = .returned (.tuple #[.int .i64 0, .int .i64 0]) ∧ Hid (Mine w w' B sb3) := by
  have := mine_bal h.out sb3_ok cashB 5 0
  rw [sb3_b.2.2.2.2.1, sb3_b.2.2.2.2.2] at this
  exact this
theorem begun_trial (w W : World) (B : Nat) (h : Hid (Mine w W B sb3)) : Calls Tryz.prog 85 #[.pointer (some ⟨B, 0, none⟩), .int .i64 5, .int .i64 1] W fun r w' => ∃ g c, r = .returned (.tuple #[.slice (some ⟨g, 0, none⟩) 2 c, .int .i64 0]) ∧ w'.cell? ⟨g, 2, none⟩ = some (.string ⟨#[114, 101, 110, 116]⟩) ∧ w'.cell? ⟨g, 3, none⟩ = some (.int .i64 30) ∧ Hid (Mine w w' B sb3) := by
  refine (mine_trial h.out sb3_ok 5 1).mono ?_
  rintro r w' ⟨v, rfl, hv, hm⟩
  rw [sb3_t.1]
  rw [sb3_t.2] at hv
  rcases hv.2 with ⟨rfl, h0⟩ | ⟨g, cap, cur, rfl, _, _, _⟩
  · exact absurd h0 (by decide)
  · exact ⟨g, cap, rfl, hv.cellAt 2 (by decide), hv.cellAt 3 (by decide), hm⟩
set_option maxHeartbeats 4000000 in
set_option maxRecDepth 100000 in
theorem begun_any (w : World) : Calls Tryz.prog 47 #[] w fun r w' => r = .returned (.bool true) ∧ Below w.heap.size w w' := by
  go_enter Tryz.func47, Tryz.ntmps47
  go_wp2_with (first
    | (go_at_call 25; with_reducible refine Calls.mono (begun_new _) ?_; rintro e w1 ⟨rfl, hm1⟩)
    | (go_at_call 38; with_reducible refine Calls.mono (begun_open1 w _ _ hm1) ?_; rintro e w2 ⟨rfl, hm2⟩; clear hm1)
    | (go_at_call 38; with_reducible refine Calls.mono (begun_open2 w _ _ hm2) ?_; rintro e w3 ⟨rfl, hm3⟩; clear hm2)
    | (go_at_call 28; with_reducible refine Calls.mono (begun_post w _ _ hm3) ?_; rintro e w4 ⟨rfl, hm4⟩; clear hm3)
    | (go_at_call 34; with_reducible refine Calls.mono (begun_bal1 w _ _ hm4) ?_; rintro e w5 ⟨rfl, hm5⟩; clear hm4)
    | (go_at_call 34; with_reducible refine Calls.mono (begun_bal2 w _ _ hm5) ?_; rintro e w6 ⟨rfl, hm6⟩; clear hm5)
    | (go_at_call 34; with_reducible refine Calls.mono (begun_bal3 w _ _ hm6) ?_; rintro e w7 ⟨rfl, hm7⟩; clear hm6)
    | (go_at_call 85; with_reducible refine Calls.mono (begun_trial w _ _ hm7) ?_; rintro e w8 ⟨g, c, rfl, hc2, hc3, hm8⟩; clear hm7))
  go_ret
  exact ⟨rfl, hm8.out.below⟩
end Go.Proofs.YtjnmoddcodnadaaGreatDoor
