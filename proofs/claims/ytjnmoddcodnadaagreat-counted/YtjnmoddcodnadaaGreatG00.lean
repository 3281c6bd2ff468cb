import Derived.Test.YtjnmoddcodnadaaGreatProg
import Derived.WalkKit
import Derived.WalkSpells
import Derived.WalkLawsBesides
import Derived.BigQuiet
import Derived.Deep.QuietTactic
import Derived.Sort.Grow
import Derived.RangeFuncOwn
import Derived.Shelf.GgSortFunc.RowK
import Derived.Laws.AppendOwnNone
import Derived.Deep.AppendLies
import Derived.Deep.RegionHeld3
import Derived.Deep.DrawnRows
import Derived.Deep.RegionLaw
import Derived.RegionTactic
import Derived.BigRegion
set_option linter.unusedVariables false
set_option linter.unusedSimpArgs false
namespace Go.Proofs.YtjnmoddcodnadaaGreat
open Go.RowKit
theorem ret_int {k : IntKind} {a b : Int} (h : a = b) : Ending.returned (.int k a) = .returned (.int k b) := by rw [h]
theorem ret_bool {a b : Bool} (h : a = b) : Ending.returned (.bool a) = .returned (.bool b) := by rw [h]

def dayB (n : Int) : Bool := decide (0 ≤ n) && decide (n ≤ 9999)
theorem dayB_yes {n : Int} (h : dayB n = true) : 0 ≤ n ∧ n ≤ 9999 := by simpa [dayB] using h
theorem dayB_no {n : Int} (h : dayB n = false) : n < 0 ∨ 9999 < n := by simp [dayB] at h; omega

set_option maxHeartbeats 400000 in
theorem isDay_any (n : Int) (w : World) :
    Calls Tryz.prog 38 #[.int .i64 n] w fun r w' => r = .returned (.bool (dayB n)) ∧ w' = w := by
  by_cases h : 0 ≤ n
  · go_enter Tryz.func38, Tryz.ntmps38
    go_wp2
    go_ret
    exact ⟨ret_bool (by simp [dayB, h]), rfl⟩
  · go_enter Tryz.func38, Tryz.ntmps38
    go_wp2
    go_ret
    exact ⟨ret_bool (by simp [dayB]; omega), rfl⟩

def pickI (c n : Int) : Int := (if c < 0 then -(c + 1) else c) % n
theorem pickI_bd (c n : Int) (hn : 0 < n) : 0 ≤ pickI c n ∧ pickI c n < n := ⟨Int.emod_nonneg _ (by omega), Int.emod_lt_of_pos _ hn⟩
theorem neg_tmod' (a n : Int) (h : a ≤ 0) : -(a.tmod n) = (-a) % n := by
  rw [← Int.neg_tmod, Int.tmod_eq_emod_of_nonneg (by omega)]

def cmpI (x y : Int) : Int := if x < y then -1 else if y < x then 1 else 0

set_option maxHeartbeats 400000 in
theorem cmpInt_any (x y : Int) (w : World) :
    Calls Tryz.prog 75 #[.int .i64 x, .int .i64 y] w fun r w' => r = .returned (.int .i64 (cmpI x y)) ∧ w' = w := by
  rcases (show x < y ∨ (¬ x < y ∧ y < x) ∨ (¬ x < y ∧ ¬ y < x) by omega) with h | ⟨h, h'⟩ | ⟨h, h'⟩
  · have e : cmpI x y = -1 := by simp [cmpI, h]
    go_enter Tryz.func75, Tryz.ntmps75
    go_wp2
    go_ret
    exact ⟨ret_int e.symm, rfl⟩
  · have e : cmpI x y = 1 := by simp [cmpI, h, h']
    go_enter Tryz.func75, Tryz.ntmps75
    go_wp2
    go_ret
    exact ⟨ret_int rfl, rfl⟩
  · have e : cmpI x y = 0 := by simp [cmpI, h, h']
    go_enter Tryz.func75, Tryz.ntmps75
    go_wp2
    go_ret
    exact ⟨ret_int rfl, rfl⟩

/-- The greatest power of two that divides a number. -/
def low (k : Nat) : Nat := if k % 2 = 1 then 1 else if k % 4 = 2 then 2 else if k % 8 = 4 then 4 else if k % 16 = 8 then 8 else if k % 32 = 16 then 16 else if k % 64 = 32 then 32 else 64
theorem low_bits : ∀ k : Fin 65, k.1 ≠ 0 → bits .and .i64 (k.1 : Int) (-(k.1 : Int)) = (low k.1 : Nat) := by decide +kernel

set_option maxHeartbeats 400000 in
theorem reach_any (k : Nat) (w : World) (h1 : 1 ≤ k) (h2 : k ≤ 64) :
    Calls Tryz.prog 68 #[.int .i64 k] w fun r w' => r = .returned (.int .i64 (low k : Nat)) ∧ w' = w := by
  have hb := low_bits ⟨k, by omega⟩ (by simp; omega)
  have hB : Hid (bits .and .i64 (k : Int) (-(k : Int)) = (low k : Nat)) := hb
  clear hb
  go_enter Tryz.func68, Tryz.ntmps68
  go_wp2
  go_ret
  exact ⟨ret_int hB.out, rfl⟩
end Go.Proofs.YtjnmoddcodnadaaGreat
namespace Go.Annal
open Go.RowKit Go.Sort

/-- Nothing that was there has turned; there are new blocks, and draws. -/
def Grew (w w' : World) : Prop := ∃ (q : Nat) (os : Array Obj), w' = grow (w.drewN q) os

theorem drewN_eq (w : World) (q : Nat) : w.drewN q = { w with drawn := w.drawn + q } := rfl

theorem grew_iff {w w' : World} : Grew w w' ↔ Below w.heap.size w w' ∧ w.drawn ≤ w'.drawn := by
  constructor
  · rintro ⟨q, os, rfl⟩
    rw [drewN_eq]
    refine ⟨⟨rfl, rfl, rfl, by simp [grow], fun k hk => ?_⟩, by simp [grow]⟩
    show (w.heap ++ os)[k]? = _
    rw [Array.getElem?_append_left hk]
  · rintro ⟨hb, hd⟩
    refine ⟨w'.drawn - w.drawn, w'.heap.extract w.heap.size w'.heap.size, ?_⟩
    rw [drewN_eq]
    have hh : w'.heap = w.heap ++ w'.heap.extract w.heap.size w'.heap.size := by
      have hs := hb.size
      apply Array.ext
      · simp; omega
      · intro i h1 h2
        by_cases hi : i < w.heap.size
        · rw [Array.getElem_append_left hi]
          have := hb.block i hi
          rw [Array.getElem?_eq_getElem h1, Array.getElem?_eq_getElem hi] at this
          exact Option.some.inj this
        · rw [Array.getElem_append_right (by omega)]
          simp
          congr 1
          omega
    have h1 := hb.os; have h2 := hb.tape; have h3 := hb.output
    cases w' with | mk heap tape drawn os output =>
    cases w with | mk heap0 tape0 drawn0 os0 output0 =>
    simp only at h1 h2 h3 hd hh
    subst h1 h2 h3
    simp only [grow]
    rw [show drawn0 + (drawn - drawn0) = drawn by omega]
    rw [← hh]

theorem Grew.below {w w' : World} (h : Grew w w') : Below w.heap.size w w' := (grew_iff.1 h).1
theorem Grew.refl (w : World) : Grew w w := grew_iff.2 ⟨Below.refl _ _, Nat.le_refl _⟩
theorem Grew.trans {a b c : World} (h : Grew a b) (k : Grew b c) : Grew a c := by
  obtain ⟨h1, h2⟩ := grew_iff.1 h
  obtain ⟨k1, k2⟩ := grew_iff.1 k
  exact grew_iff.2 ⟨h1.trans (k1.mono h1.size), by omega⟩
theorem Grew.alloc {a w : World} (h : Grew a w) (o : Obj) : Grew a (w.alloc o) :=
  h.trans (grew_iff.2 ⟨(Below.refl _ _).alloc (Nat.le_refl _) _, Nat.le_refl _⟩)
theorem Grew.drew {a w : World} (h : Grew a w) : Grew a w.drew :=
  h.trans (grew_iff.2 ⟨(Below.refl _ _).drew, Nat.le_succ _⟩)
theorem Grew.drewN {a w : World} (h : Grew a w) (n : Nat) : Grew a (w.drewN n) :=
  h.trans ⟨n, #[], by simp⟩
theorem Grew.setCell {a w : World} (h : Grew a w) {p : Addr} (hp : a.heap.size ≤ p.block) (u : Value) : Grew a (w.setCell p u) := by
  obtain ⟨h1, h2⟩ := grew_iff.1 h
  exact grew_iff.2 ⟨h1.setCell hp u, h2⟩
theorem Grew.size {w w' : World} (h : Grew w w') : w.heap.size ≤ w'.heap.size := h.below.size
theorem Grew.cell {w w' : World} (h : Grew w w') {p : Addr} (hp : p.block < w.heap.size) : w'.cell? p = w.cell? p := h.below.cell hp
theorem Grew.frozen {w w' : World} (h : Grew w w') {p : Addr} (hp : p.block < w.heap.size) : w'.frozen? p = w.frozen? p := h.below.frozen hp
theorem Grew.block {w w' : World} (h : Grew w w') {k : Nat} (hp : k < w.heap.size) : w'.heap[k]? = w.heap[k]? := h.below.block k hp
/-- A cell that is there is there behind. -/
theorem Grew.cell' {w w' : World} (h : Grew w w') {p : Addr} {v : Value} (hp : w.cell? p = some v) : w'.cell? p = some v :=
  (h.cell (World.block_lt_of_cell? _ _ hp)).trans hp
theorem Grew.blk {w w' : World} (h : Grew w w') {b : Nat} {o : Obj} (hb : w.heap[b]? = some o) : w'.heap[b]? = some o :=
  (h.block (Array.getElem?_eq_some_iff.1 hb).1).trans hb
theorem blk_cell {w : World} {b : Nat} {cs : Array Value} {t : TypeId} {fz : Nat × Nat} (h : w.heap[b]? = some (.cells cs t fz)) (o : Nat) : w.cell? ⟨b, o, none⟩ = cs[o]? := by
  simp [World.cell?, h]
theorem blk_cell' {w : World} {b : Nat} {cs : Array Value} {t : TypeId} {fz : Nat × Nat} (h : w.heap[b]? = some (.cells cs t fz)) {o : Nat} {v : Value} (hv : cs[o]? = some v) : w.cell? ⟨b, o, none⟩ = some v :=
  (blk_cell h o).trans hv
theorem blk_free {w : World} {b : Nat} {cs : Array Value} {t : TypeId} (h : w.heap[b]? = some (.cells cs t (0, 0))) (o : Nat) : w.frozen? ⟨b, o, none⟩ = false := by
  simp [World.frozen?, h]
theorem blk_set {w : World} {b : Nat} {cs : Array Value} {t : TypeId} {fz : Nat × Nat} (h : w.heap[b]? = some (.cells cs t fz)) (o : Nat) (v : Value) : (w.setCell ⟨b, o, none⟩ v).heap[b]? = some (.cells (cs.setIfInBounds o v) t fz) := by
  simp only [World.setCell, Array.getElem?_modify]
  simp [h]
theorem blk_set_other {w : World} {b : Nat} {o : Obj} (h : w.heap[b]? = some o) {a : Addr} (hne : b ≠ a.block) (v : Value) : (w.setCell a v).heap[b]? = some o :=
  (Below.heap_setCell w a v b hne).trans h
theorem blk_lt {w : World} {b : Nat} {o : Obj} (h : w.heap[b]? = some o) : b < w.heap.size := (Array.getElem?_eq_some_iff.1 h).1
theorem blk_kept {w w' : World} {row : Option Nat} {b : Nat} {cs : Array Value} {t : TypeId} {fz : Nat × Nat} (h : w.heap[b]? = some (.cells cs t fz)) (hg : w.grownBy w' row)
    (hr : ∀ r, row = some r → ∃ o : Obj, w.heap[r]? = some o ∧ o.isCells = false) : w'.heap[b]? = some (.cells cs t fz) := by
  refine (hg.block b (blk_lt h) (fun e => ?_)).trans h
  obtain ⟨o, ho, hc⟩ := hr b e.symm
  rw [h] at ho
  cases ho
  cases hc
theorem sEq_iff {a b : ByteArray} : (a.toList == b.toList) = true ↔ a = b := by
  rw [ByteArray.toList_eq, ByteArray.toList_eq, beq_iff_eq]
  constructor
  · intro h
    cases a; cases b
    simp only at h
    exact congrArg ByteArray.mk (Array.toList_inj.1 h)
  · rintro rfl; rfl
theorem sEq_false {a b : ByteArray} : (a.toList == b.toList) = false ↔ a ≠ b := by
  rw [← Bool.not_eq_true, sEq_iff]
theorem owns_le {w : World} {B B' : Nat} {e : TypeId} {size n : Nat} {v : Value} {xs : List Value} (h : w.ownsRow B e size v n xs) (hB : B' ≤ B) : w.ownsRow B' e size v n xs :=
  ⟨h.1, h.2.elim .inl (fun ⟨g, cap, cur, hv, hg, r⟩ => .inr ⟨g, cap, cur, hv, Nat.le_trans hB hg, r⟩)⟩
theorem owns0 {w : World} {B : Nat} {e : TypeId} {size n : Nat} {v : Value} {xs : List Value} (h : w.ownsRow B e size v n xs) : w.ownsRow 0 e size v n xs := owns_le h (Nat.zero_le _)
theorem owns_mv {w w' : World} {B : Nat} {e : TypeId} {size n : Nat} {v : Value} {xs : List Value} (h : w.ownsRow B e size v n xs) (hb : Below w.heap.size w w') : w'.ownsRow B e size v n xs :=
  ⟨h.1, h.2.elim .inl (fun ⟨g, cap, cur, hv, hg, hh, r⟩ => .inr ⟨g, cap, cur, hv, hg, (hb.block g (Array.getElem?_eq_some_iff.1 hh).1).trans hh, r⟩)⟩
theorem wrap_id (n : Int) (h1 : -9223372036854775808 ≤ n) (h2 : n ≤ 9223372036854775807) : IntKind.i64.wrap n = n := by
  simp [IntKind.wrap, IntKind.bits, IntKind.signed]; omega
end Go.Annal
namespace Go.Annal
/-- The first place below n at which a list of texts has x; -1: nowhere. -/
def atI (f : Nat → ByteArray) (n : Nat) (x : ByteArray) : Int := match (List.range n).find? (fun i => (f i).toList == x.toList) with | some i => (i : Int) | none => -1
theorem atI_found (f : Nat → ByteArray) (n : Nat) (x : ByteArray) (k : Nat) (hk : k < n) (h : f k = x) (hb : ∀ j, j < k → f j ≠ x) : atI f n x = k := by
  unfold atI
  have : (List.range n).find? (fun i => (f i).toList == x.toList) = some k := by
    rw [List.find?_range_eq_some]
    refine ⟨by rw [sEq_iff]; exact h, by simpa using hk, fun j hj => by rw [Bool.not_eq_true', sEq_false]; exact hb j hj⟩
  rw [this]
theorem atI_none (f : Nat → ByteArray) (n : Nat) (x : ByteArray) (hb : ∀ j, j < n → f j ≠ x) : atI f n x = -1 := by
  unfold atI
  have : (List.range n).find? (fun i => (f i).toList == x.toList) = none := by
    rw [List.find?_eq_none]
    intro j hj
    rw [Bool.not_eq_true, sEq_false]; exact hb j (by simpa using hj)
  rw [this]
end Go.Annal
namespace Go.Proofs.YtjnmoddcodnadaaGreat
open Go.RowKit Go.Annal
end Go.Proofs.YtjnmoddcodnadaaGreat
namespace Go.Proofs.YtjnmoddcodnadaaGreat
open Go.RowKit Go.Annal
/-- The digits of a number. -/
def digL : Nat → Nat → List UInt8
  | 0, _ => []
  | f + 1, n => if n < 10 then [UInt8.ofNat (48 + n)] else digL f (n / 10) ++ [UInt8.ofNat (48 + n % 10)]

theorem digL_len : ∀ f n, (digL f n).length ≤ f
  | 0, _ => by simp [digL]
  | f + 1, n => by
    simp only [digL]
    split
    · simp
    · have := digL_len f (n / 10); simp; omega
theorem ba_append (a b : Array UInt8) : (⟨a⟩ ++ ⟨b⟩ : ByteArray) = ⟨a ++ b⟩ := by
  apply ByteArray.ext
  simp

/-- The number's text. -/
def digZ (n : Int) : List UInt8 := if n < 0 then 45 :: digL 18 (-n).toNat else digL 18 n.toNat
theorem digZ_len (n : Int) : (digZ n).length ≤ 19 := by
  unfold digZ
  split
  · have := digL_len 18 (-n).toNat; simp; omega
  · have := digL_len 18 n.toNat; omega

end Go.Proofs.YtjnmoddcodnadaaGreat
namespace Go.Annal
section
variable (dy : Nat → Int) (la : Nat → Nat → ByteArray) (lm : Nat → Nat → Int) (name : ByteArray) (day : Int)
def lnT (i k : Nat) : Int := if decide (dy i ≤ day) && ((la i k).toList == name.toList) then lm i k else 0
def lnS (i : Nat) : Nat → Int
  | 0 => 0
  | k + 1 => lnS i k + lnT dy la lm name day i k
def enS (ln : Nat → Nat) : Nat → Int
  | 0 => 0
  | i + 1 => enS ln i + lnS dy la lm name day i (ln i)
theorem lnT_bd (i k : Nat) (hb : -1000000000000 ≤ lm i k ∧ lm i k ≤ 1000000000000) : -1000000000000 ≤ lnT dy la lm name day i k ∧ lnT dy la lm name day i k ≤ 1000000000000 := by
  unfold lnT; split <;> omega
theorem lnS_bd (i : Nat) : ∀ k, (∀ j, j < k → -1000000000000 ≤ lm i j ∧ lm i j ≤ 1000000000000) → -(1000000000000 * (k : Int)) ≤ lnS dy la lm name day i k ∧ lnS dy la lm name day i k ≤ 1000000000000 * (k : Int)
  | 0, _ => by simp [lnS]
  | k + 1, h => by
    have := lnS_bd i k (fun j hj => h j (by omega))
    have := lnT_bd dy la lm name day i k (h k (by omega))
    simp only [lnS]; omega
theorem enS_bd (ln : Nat → Nat) : ∀ n, (∀ i, i < n → ln i ≤ 100 ∧ ∀ j, j < ln i → -1000000000000 ≤ lm i j ∧ lm i j ≤ 1000000000000) → -(100000000000000 * (n : Int)) ≤ enS dy la lm name day ln n ∧ enS dy la lm name day ln n ≤ 100000000000000 * (n : Int)
  | 0, _ => by simp [enS]
  | n + 1, h => by
    have := enS_bd ln n (fun j hj => h j (by omega))
    have h1 := h n (by omega)
    have := lnS_bd dy la lm name day n (ln n) h1.2
    simp only [enS]; omega
end
end Go.Annal
namespace Go.Proofs.YtjnmoddcodnadaaGreat
open Go.RowKit Go.Annal
/-- What is read of a document's book's entries. -/
structure EntsAt (w : World) (R ge ce ne : Nat) (ade : Option Addr) (dy : Nat → Int) (gl ln cl : Nat → Nat) (la : Nat → Nat → ByteArray) (lm : Nat → Nat → Int) : Prop where
  cE : w.cell? ⟨R, 1, none⟩ = some (.slice ade ne ce)
  hE : 0 < ne → ade = some ⟨ge, 0, none⟩
  cd : ∀ i, i < ne → w.cell? ⟨ge, i * 3, none⟩ = some (.int .i64 (dy i))
  cl : ∀ i, i < ne → w.cell? ⟨ge, i * 3 + 1, none⟩ = some (.slice (some ⟨gl i, 0, none⟩) (ln i) (cl i))
  cg : ∀ i, i < ne → ∃ b, w.cell? ⟨ge, i * 3 + 2, none⟩ = some (.bool b)
  ca : ∀ i, i < ne → ∀ k, k < ln i → w.cell? ⟨gl i, k * 2, none⟩ = some (.string (la i k))
  cm : ∀ i, i < ne → ∀ k, k < ln i → w.cell? ⟨gl i, k * 2 + 1, none⟩ = some (.int .i64 (lm i k))
  small : ∀ i, i < ne → ln i ≤ 100
  bound : ∀ i, i < ne → ∀ k, k < ln i → -1000000000000 ≤ lm i k ∧ lm i k ≤ 1000000000000
  few : ne ≤ 100

theorem EntsAt.mv {w w' : World} {R ge ce ne : Nat} {ade : Option Addr} {dy : Nat → Int} {gl ln cl : Nat → Nat} {la : Nat → Nat → ByteArray} {lm : Nat → Nat → Int} (h : EntsAt w R ge ce ne ade dy gl ln cl la lm) (hb : Below w.heap.size w w') :
    EntsAt w' R ge ce ne ade dy gl ln cl la lm :=
  ⟨cell_later hb h.cE, h.hE, fun i hi => cell_later hb (h.cd i hi), fun i hi => cell_later hb (h.cl i hi), fun i hi => (h.cg i hi).imp fun _ hg => cell_later hb hg, fun i hi k hk => cell_later hb (h.ca i hi k hk), fun i hi k hk => cell_later hb (h.cm i hi k hk), h.small, h.bound, h.few⟩

end Go.Proofs.YtjnmoddcodnadaaGreat
namespace Go.Annal
open Go.RowKit
/-- What is appended: nothing of a nil slice, or cells that lie at an address. -/
def SrcAt (w : World) (size : Nat) (xv : Value) (m : Nat) (news : List Value) : Prop :=
  (xv = .slice none 0 0 ∧ m = 0 ∧ news = []) ∨ (∃ ad c, xv = .slice (some ad) m c ∧ news.length = m * size ∧ ∀ j u, news[j]? = some u → w.cell? (ad.add j) = some u)
theorem SrcAt.mv {w w' : World} {size : Nat} {xv : Value} {m : Nat} {news : List Value} (h : SrcAt w size xv m news) (hb : Below w.heap.size w w') : SrcAt w' size xv m news := by
  rcases h with h | ⟨ad, c, h1, h2, h3⟩
  · exact .inl h
  · exact .inr ⟨ad, c, h1, h2, fun j u hj => cell_later hb (h3 j u hj)⟩

theorem wpList_append_src {P : Program} {w : World} {ops : Array Oper} {rest : List Oper} {o : Oper} {a : Act} {Q : Exit → Act → World → Prop} (hgd : o.guard = none) (s x : Operand) (t : TypeId)
    (ho : o.op = .call { callee := .builtin .append, args := #[s, x], argTypes := #[t, t] })
    (base : Nat) (e : TypeId) (i : TypeInfo) (z : Value) (size bytes : Nat) (ht : P.underlying t = some (.slice e)) (hi : P.info? e = some i) (hz : i.zero = some z)
    (hsize : i.size = size) (hby : i.bytes = bytes) (hzs : z.cells.size = size) (hsz : 0 < size)
    (v : Value) (n : Nat) (xs : List Value) (hs : a.eval s = v) (hown : w.ownsRow base e size v n xs)
    (xv : Value) (m : Nat) (news : List Value) (hx : a.eval x = xv) (hsrc : SrcAt w size xv m news) (h1 : ∀ u ∈ news, u.oneCell' = true)
    (h63 : n + m ≤ maxLen) (hbytes : (n + m) * bytes ≤ 140737488355328) (hbase : base ≤ w.heap.size)
    (h : ∀ v' w', w'.ownsRow base e size v' (n + m) (xs ++ news) → w.grownBy w' v.ownBlock → wpList P ops Q rest (a.put o.dst v') w') :
    wpList P ops Q (o :: rest) a w := by
  rcases hsrc with ⟨h1', h2, h3⟩ | ⟨ad, c, h1', h2, h3⟩
  · subst h2 h3
    refine wpList_append_own_none hgd s x t ho base e i size ht hi v n xs hs hown (hx.trans h1') ?_
    exact h v w (by simpa using hown) ⟨rfl, rfl, rfl, Nat.le_refl _, fun _ _ _ => rfl⟩
  · exact wpList_append_own (w := w) hgd s x t ho base e i z size bytes ht hi hz hsize hby hzs hsz v n xs hs hown ad m c news (hx.trans h1') h2 h3 h1 h63 hbytes hbase (fun v' w' h4 h5 _ => h v' w' h4 h5)
end Go.Annal
namespace Go.Proofs.YtjnmoddcodnadaaGreat
open Go.RowKit Go.Annal
theorem Tryz.infoItem : (Tryz.prog.info? 53).map (fun i => (i.zero, i.size, i.bytes)) = some (some (.agg #[.int .i64 0, .int .i64 0, .int .i64 0]), 3, 24) := by kernel_rfl

theorem addr_add (g o j : Nat) : (⟨g, o, none⟩ : Addr).add j = ⟨g, o + j, none⟩ := by
  unfold Addr.add; split
  · subst_vars; rfl
  · rfl
theorem src_new3 (w : World) (a b c : Value) (t : TypeId) : SrcAt (w.alloc (.cells #[a, b, c] t)) 3 (.slice (some ⟨w.heap.size, 0, none⟩) 1 1) 1 [a, b, c] :=
  .inr ⟨_, _, rfl, rfl, fun j u hj => by rw [addr_add, Nat.zero_add, World.cell?_alloc_at (w := w) _ _ _ _ rfl]; simpa using hj⟩
theorem one3 {a b c : Int} : ∀ u ∈ [Value.int .i64 a, .int .i64 b, .int .i64 c], u.oneCell' = true := by simp [Value.oneCell']

end Go.Proofs.YtjnmoddcodnadaaGreat
namespace Go.Annal
/-- Is a number one of entries that are there? -/
def knownB (n : Int) (ne : Nat) : Bool := decide (0 ≤ n) && decide (n ≤ ne)
/-- The answer, if there is no error. -/
def okOr (e z : Int) : Int := if e = 0 then z else 0
def viewE (days known : Bool) : Int := if !days then 5 else if !known then 13 else 0
def askErr (there day known : Bool) : Int := if !there then 7 else if !day then 5 else if !known then 13 else 0
end Go.Annal
namespace Go.Proofs.YtjnmoddcodnadaaGreat
open Go.RowKit Go.Annal
theorem ret_ie {a b c d : Int} (h : a = c) (h' : b = d) : Ending.returned (.tuple #[.int .i64 a, .int .i64 b]) = .returned (.tuple #[.int .i64 c, .int .i64 d]) := by rw [h, h']
/-- What is read of a document's book's accounts. -/
structure AccsAt (w : World) (R ga ca na : Nat) (ada : Option Addr) (fn : Nat → ByteArray) : Prop where
  cA : w.cell? ⟨R, 0, none⟩ = some (.slice ada na ca)
  hA : 0 < na → ada = some ⟨ga, 0, none⟩
  cn : ∀ i, i < na → w.cell? ⟨ga, i * 2, none⟩ = some (.string (fn i))
  few : na ≤ 1000
end Go.Proofs.YtjnmoddcodnadaaGreat
namespace Go.Annal
/-- An item: the entry's number, the day, the amount. -/
abbrev It := Int × Int × Int
def enc3 (x : It) : List Value := [.int .i64 x.1, .int .i64 x.2.1, .int .i64 x.2.2]
def cells3 (l : List It) : List Value := l.flatMap enc3
theorem cells3_len (l : List It) : (cells3 l).length = l.length * 3 := by
  induction l with
  | nil => rfl
  | cons x r ih => simp only [cells3, List.flatMap_cons, List.length_append, List.length_cons] at *; rw [ih]; simp [enc3]; omega
theorem cells3_append (a b : List It) : cells3 (a ++ b) = cells3 a ++ cells3 b := by simp [cells3]
theorem cells3_one (l : List It) : ∀ u ∈ cells3 l, u.oneCell' = true := by
  intro u hu
  simp only [cells3, List.mem_flatMap, enc3] at hu
  obtain ⟨x, _, hx⟩ := hu
  simp at hx
  rcases hx with rfl | rfl | rfl <;> rfl
theorem cells3_take (l : List It) (k : Nat) : (cells3 l).take (k * 3) = cells3 (l.take k) := by
  induction l generalizing k with
  | nil => simp [cells3]
  | cons x r ih =>
    cases k with
    | zero => simp [cells3]
    | succ k =>
      have := ih k
      simp only [cells3, List.flatMap_cons, List.take_succ_cons] at *
      rw [show (k + 1) * 3 = (enc3 x).length + k * 3 by simp [enc3]; omega, List.take_append, List.take_of_length_le (by omega), Nat.add_sub_cancel_left, this]
theorem cells3_drop (l : List It) (k : Nat) : (cells3 l).drop (k * 3) = cells3 (l.drop k) := by
  induction l generalizing k with
  | nil => simp [cells3]
  | cons x r ih =>
    cases k with
    | zero => simp [cells3]
    | succ k =>
      have := ih k
      simp only [cells3, List.flatMap_cons, List.drop_succ_cons] at *
      rw [show (k + 1) * 3 = (enc3 x).length + k * 3 by simp [enc3]; omega, List.drop_append, List.drop_of_length_le (by omega), Nat.add_sub_cancel_left, this, List.nil_append]
theorem cells3_get (l : List It) (j : Nat) (h : j < l.length) (o : Nat) (ho : o < 3) : (cells3 l)[j * 3 + o]? = (enc3 l[j])[o]? := by
  have h1 : (cells3 l)[j * 3 + o]? = ((cells3 l).drop (j * 3))[o]? := by rw [List.getElem?_drop]
  rw [h1, cells3_drop, List.drop_eq_getElem_cons h]
  simp only [cells3, List.flatMap_cons]
  rw [List.getElem?_append_left (by simp [enc3]; omega)]
/-- An item more, behind those of its day and of days before. -/
def ins (l : List It) (x : It) : List It :=
  (l.reverse.dropWhile (fun y => decide (x.2.1 < y.2.1))).reverse ++ x :: (l.reverse.takeWhile (fun y => decide (x.2.1 < y.2.1))).reverse
theorem ins_eq (l : List It) (x : It) (k : Nat) (hk : k ≤ l.length) (h1 : ∀ y ∈ l.drop k, x.2.1 < y.2.1) (h2 : ∀ (h : 0 < k), (l[k - 1]'(by omega)).2.1 ≤ x.2.1) : ins l x = l.take k ++ x :: l.drop k := by
  have hr : l.reverse = (l.drop k).reverse ++ (l.take k).reverse := by rw [← List.reverse_append, List.take_append_drop]
  have ht : (l.take k).reverse.takeWhile (fun y => decide (x.2.1 < y.2.1)) = [] ∧ (l.take k).reverse.dropWhile (fun y => decide (x.2.1 < y.2.1)) = (l.take k).reverse := by
    cases k with
    | zero => simp
    | succ k =>
      have hlt : k < l.length := by omega
      have h3 := h2 (by omega)
      simp only [Nat.add_sub_cancel] at h3
      rw [List.take_succ_eq_append_getElem hlt, List.reverse_append]
      simp only [List.reverse_cons, List.reverse_nil, List.nil_append, List.singleton_append]
      constructor
      · rw [List.takeWhile_cons_of_neg (by simpa using h3)]
      · rw [List.dropWhile_cons_of_neg (by simpa using h3)]
  have hall : ∀ y ∈ (l.drop k).reverse, decide (x.2.1 < y.2.1) = true := fun y hy => decide_eq_true (h1 y (List.mem_reverse.1 hy))
  unfold ins
  rw [hr, List.dropWhile_append_of_pos hall, List.takeWhile_append_of_pos hall, ht.1, ht.2]
  simp
end Go.Annal
namespace Go.Annal
section
variable (dy : Nat → Int) (la : Nat → Nat → ByteArray) (lm : Nat → Nat → Int) (name : ByteArray) (from' to' : Int)
def lnI (i : Nat) : Nat → List It → List It
  | 0, l => l
  | k + 1, l => if (decide (from' ≤ dy i) && decide (dy i ≤ to')) && ((la i k).toList == name.toList) then ins (lnI i k l) ((i : Int) + 1, dy i, lm i k) else lnI i k l
def enI (ln : Nat → Nat) : Nat → List It
  | 0 => []
  | i + 1 => lnI dy la lm name from' to' i (ln i) (enI ln i)
theorem ins_len (l : List It) (x : It) : (ins l x).length = l.length + 1 := by
  unfold ins
  simp only [List.length_append, List.length_cons, List.length_reverse]
  have := congrArg List.length (List.takeWhile_append_dropWhile (p := fun y : It => decide (x.2.1 < y.2.1)) (l := l.reverse))
  simp only [List.length_append, List.length_reverse] at this
  omega
theorem lnI_len (i : Nat) (l : List It) : ∀ k, (lnI dy la lm name from' to' i k l).length ≤ l.length + k
  | 0 => by simp [lnI]
  | k + 1 => by
    have := lnI_len i l k
    simp only [lnI]
    split
    · rw [ins_len]; omega
    · omega
theorem enI_len (ln : Nat → Nat) : ∀ n, (∀ i, i < n → ln i ≤ 10) → (enI dy la lm name from' to' ln n).length ≤ n * 10
  | 0, _ => by simp [enI]
  | n + 1, h => by
    have h1 := enI_len ln n (fun i hi => h i (by omega))
    have h2 := lnI_len dy la lm name from' to' n (enI dy la lm name from' to' ln n) (ln n)
    have h3 := h n (by omega)
    simp only [enI]; omega
end
end Go.Annal
namespace Go.Proofs.YtjnmoddcodnadaaGreat
open Go.RowKit Go.Annal
attribute [local go_sem ↓] Go.wp_at_zero Go.wp_at_succ
theorem below_drew {w w' : World} (h : Below w.drew.heap.size w.drew w') : Below w.heap.size w w' := ⟨h.os, h.tape, h.output, h.size, h.block⟩
end Go.Proofs.YtjnmoddcodnadaaGreat
namespace Go.Annal
/-- 'a < b', byte by byte. -/
def sLt (a b : ByteArray) : Bool := Op.bytesLess a.toList b.toList
def insS (l : List ByteArray) (x : ByteArray) : List ByteArray := l.takeWhile (fun y => sLt y x) ++ x :: l.dropWhile (fun y => sLt y x)
theorem insS_len (l : List ByteArray) (x : ByteArray) : (insS l x).length = l.length + 1 := by
  unfold insS
  have := congrArg List.length (List.takeWhile_append_dropWhile (p := fun y => sLt y x) (l := l))
  simp only [List.length_append, List.length_cons] at *
  omega
theorem insS_eq (l : List ByteArray) (x : ByteArray) (k : Nat) (hk : k ≤ l.length) (h1 : ∀ y ∈ l.take k, sLt y x = true) (h2 : ∀ (h : k < l.length), sLt (l[k]'h) x = false) : insS l x = l.take k ++ x :: l.drop k := by
  have ht : (l.drop k).takeWhile (fun y => sLt y x) = [] ∧ (l.drop k).dropWhile (fun y => sLt y x) = l.drop k := by
    by_cases h : k < l.length
    · rw [List.drop_eq_getElem_cons h]
      constructor
      · rw [List.takeWhile_cons_of_neg (by simp [h2 h])]
      · rw [List.dropWhile_cons_of_neg (by simp [h2 h])]
    · rw [List.drop_of_length_le (by omega)]; simp
  unfold insS
  conv => lhs; rw [← List.take_append_drop k l]
  rw [List.dropWhile_append_of_pos h1, List.takeWhile_append_of_pos h1, ht.1, ht.2]
  simp
def nmS (fn : Nat → ByteArray) : Nat → List ByteArray
  | 0 => []
  | i + 1 => insS (nmS fn i) (fn i)
theorem nmS_len (fn : Nat → ByteArray) : ∀ i, (nmS fn i).length = i
  | 0 => rfl
  | i + 1 => by simp [nmS, insS_len, nmS_len fn i]
end Go.Annal
namespace Go.Proofs.YtjnmoddcodnadaaGreat
open Go.RowKit Go.Annal
theorem Tryz.infoStr : (Tryz.prog.info? 9).map (fun i => (i.zero, i.size, i.bytes)) = some (some (.string ⟨#[]⟩), 1, 16) := by kernel_rfl
theorem src_new1 (w : World) (a : Value) (t : TypeId) : SrcAt (w.alloc (.cells #[a] t)) 1 (.slice (some ⟨w.heap.size, 0, none⟩) 1 1) 1 [a] :=
  .inr ⟨_, _, rfl, rfl, fun j u hj => by rw [addr_add, Nat.zero_add, World.cell?_alloc_at (w := w) _ _ _ _ rfl]; simpa using hj⟩

theorem strs_one (l : List ByteArray) : ∀ u ∈ l.map Value.string, u.oneCell' = true := by
  intro u hu
  obtain ⟨_, _, rfl⟩ := List.mem_map.1 hu
  rfl

end Go.Proofs.YtjnmoddcodnadaaGreat
namespace Go.Annal
/-- A line: an account's name, an amount. -/
abbrev Ln := ByteArray × Int
def enc2 (x : Ln) : List Value := [.string x.1, .int .i64 x.2]
def cells2 (l : List Ln) : List Value := l.flatMap enc2
theorem cells2_append (a b : List Ln) : cells2 (a ++ b) = cells2 a ++ cells2 b := by simp [cells2]
theorem cells2_len (l : List Ln) : (cells2 l).length = l.length * 2 := by
  induction l with
  | nil => rfl
  | cons x r ih => simp only [cells2, List.flatMap_cons, List.length_append, List.length_cons] at *; rw [ih]; simp [enc2]; omega
theorem cells2_one (l : List Ln) : ∀ u ∈ cells2 l, u.oneCell' = true := by
  intro u hu
  simp only [cells2, List.mem_flatMap, enc2] at hu
  obtain ⟨x, _, hx⟩ := hu
  simp at hx
  rcases hx with rfl | rfl <;> rfl
/-- All that have a balance. -/
def trL (bal : ByteArray → Int) (l : List ByteArray) : List Ln := (l.map (fun x => (x, bal x))).filter (fun p => !decide (p.2 = 0))
theorem trL_snoc (bal : ByteArray → Int) (l : List ByteArray) (x : ByteArray) : trL bal (l ++ [x]) = trL bal l ++ (if bal x = 0 then [] else [(x, bal x)]) := by
  simp only [trL, List.map_append, List.filter_append, List.map_cons, List.map_nil]
  by_cases h : bal x = 0 <;> simp [h]
theorem trL_len (bal : ByteArray → Int) (l : List ByteArray) : (trL bal l).length ≤ l.length := by
  unfold trL
  exact Nat.le_trans (List.length_filter_le _ _) (by simp)
end Go.Annal
namespace Go.Proofs.YtjnmoddcodnadaaGreat
open Go.RowKit Go.Annal
theorem Tryz.infoLine : (Tryz.prog.info? 47).map (fun i => (i.zero, i.size, i.bytes)) = some (some (.agg #[.string ⟨#[]⟩, .int .i64 0]), 2, 24) := by kernel_rfl
theorem src_new2 (w : World) (a b : Value) (t : TypeId) : SrcAt (w.alloc (.cells #[a, b] t)) 2 (.slice (some ⟨w.heap.size, 0, none⟩) 1 1) 1 [a, b] :=
  .inr ⟨_, _, rfl, rfl, fun j u hj => by rw [addr_add, Nat.zero_add, World.cell?_alloc_at (w := w) _ _ _ _ rfl]; simpa using hj⟩

end Go.Proofs.YtjnmoddcodnadaaGreat
namespace Go.Annal
def anyN (n : Nat) (p : Nat → Bool) : Bool := (List.range n).any p
theorem anyN_true {n : Nat} {p : Nat → Bool} {k : Nat} (hk : k < n) (h : p k = true) : anyN n p = true := List.any_eq_true.2 ⟨k, by simpa using hk, h⟩
theorem anyN_false {n : Nat} {p : Nat → Bool} (h : ∀ k, k < n → p k = false) : anyN n p = false := by
  rw [Bool.eq_false_iff]; intro hc
  obtain ⟨k, hk, hp⟩ := List.any_eq_true.1 hc
  rw [h k (by simpa using hk)] at hp; cases hp
def badAmt (m : Int) : Bool := decide (m = 0) || decide (m < -1000000000) || decide (1000000000 < m)
def sumN (xm : Nat → Int) : Nat → Int
  | 0 => 0
  | k + 1 => sumN xm k + xm k
theorem sumN_bd (xm : Nat → Int) : ∀ k, (∀ j, j < k → badAmt (xm j) = false) → -(1000000000 * (k : Int)) ≤ sumN xm k ∧ sumN xm k ≤ 1000000000 * (k : Int)
  | 0, _ => by simp [sumN]
  | k + 1, h => by
    have := sumN_bd xm k (fun j hj => h j (by omega))
    have h2 := h k (by omega)
    simp only [badAmt, Bool.or_eq_false_iff, decide_eq_false_iff_not] at h2
    simp only [sumN]; omega
/-- What is wrong with n lines. -/
def wrongE (there : ByteArray → Bool) (xa : Nat → ByteArray) (xm : Nat → Int) (n : Nat) : Int :=
  if n < 2 ∨ 6 < n then 6 else if anyN n (fun i => !there (xa i)) then 7 else if anyN n (fun i => anyN i (fun k => (xa i).toList == (xa k).toList)) then 8
  else if anyN n (fun i => badAmt (xm i)) then 9 else if sumN xm n = 0 then 0 else 10
end Go.Annal
namespace Go.Proofs.YtjnmoddcodnadaaGreat
open Go.RowKit Go.Annal
/-- Lines that are handed in: n of them, at an address. -/
structure LinesAt (w : World) (lg lo n : Nat) (xa : Nat → ByteArray) (xm : Nat → Int) : Prop where
  ca : ∀ k, k < n → w.cell? ⟨lg, lo + k * 2, none⟩ = some (.string (xa k))
  cm : ∀ k, k < n → w.cell? ⟨lg, lo + k * 2 + 1, none⟩ = some (.int .i64 (xm k))
theorem LinesAt.mv {w w' : World} {lg lo n : Nat} {xa : Nat → ByteArray} {xm : Nat → Int} (h : LinesAt w lg lo n xa xm) (hb : Below w.heap.size w w') : LinesAt w' lg lo n xa xm :=
  ⟨fun k hk => cell_later hb (h.ca k hk), fun k hk => cell_later hb (h.cm k hk)⟩

theorem drewN_add (w : World) (a b : Nat) : (w.drewN a).drewN b = w.drewN (a + b) := by
  simp only [drewN_eq]; rw [Nat.add_assoc]

end Go.Proofs.YtjnmoddcodnadaaGreat
namespace Go.Annal
open Go.RowKit
/-- Of what was there nothing but the blocks of S has turned. -/
structure Turn (S : Nat → Prop) (w w' : World) : Prop where
  os : w'.os = w.os
  tape : w'.tape = w.tape
  output : w'.output = w.output
  size : w.heap.size ≤ w'.heap.size
  block : ∀ k, k < w.heap.size → ¬ S k → w'.heap[k]? = w.heap[k]?
theorem Turn.refl (S : Nat → Prop) (w : World) : Turn S w w := ⟨rfl, rfl, rfl, Nat.le_refl _, fun _ _ _ => rfl⟩
theorem Turn.trans {S : Nat → Prop} {a b c : World} (h : Turn S a b) (k : Turn S b c) : Turn S a c :=
  ⟨k.os.trans h.os, k.tape.trans h.tape, k.output.trans h.output, Nat.le_trans h.size k.size, fun i hi hs => (k.block i (Nat.lt_of_lt_of_le hi h.size) hs).trans (h.block i hi hs)⟩
theorem Turn.mono {S S' : Nat → Prop} {w w' : World} (h : Turn S w w') (hS : ∀ k, k < w.heap.size → S k → S' k) : Turn S' w w' := ⟨h.os, h.tape, h.output, h.size, fun k hk hs => h.block k hk (fun h' => hs (hS k hk h'))⟩
theorem Turn.of_below {S : Nat → Prop} {w w' : World} (h : Below w.heap.size w w') : Turn S w w' := ⟨h.os, h.tape, h.output, h.size, fun k hk _ => h.block k hk⟩
theorem Turn.below {S : Nat → Prop} {a w w' : World} (h : Turn S a w) (hb : Below w.heap.size w w') : Turn S a w' := h.trans (Turn.of_below hb)
/-- A step that turns blocks of S, or new ones, alone. -/
theorem Turn.of_grown {S : Nat → Prop} {a w w' : World} {row : Option Nat} (h : Turn S a w) (hg : w.grownBy w' row) (hr : ∀ k, row = some k → k < a.heap.size → S k) : Turn S a w' :=
  ⟨hg.os.trans h.os, hg.tape.trans h.tape, hg.output.trans h.output, Nat.le_trans h.size hg.size, fun k hk hs => (hg.block k (Nat.lt_of_lt_of_le hk h.size) (fun e => hs (hr k e.symm hk))).trans (h.block k hk hs)⟩
theorem Turn.alloc {S : Nat → Prop} {a w : World} (h : Turn S a w) (o : Obj) : Turn S a (w.alloc o) := h.of_grown (World.grownBy_alloc w o none) (fun _ e => by cases e)
theorem Turn.drew {S : Nat → Prop} {a w : World} (h : Turn S a w) : Turn S a w.drew := ⟨h.os, h.tape, h.output, h.size, h.block⟩
theorem Turn.set {S : Nat → Prop} {a w : World} (h : Turn S a w) (p : Addr) (v : Value) (hp : p.block < a.heap.size → S p.block) : Turn S a (w.setCell p v) :=
  ⟨h.os, h.tape, h.output, by simpa [World.setCell] using h.size, fun k hk hs => by
    by_cases e : k = p.block
    · subst e; exact absurd (hp hk) hs
    · exact (Below.heap_setCell w p v k e).trans (h.block k hk hs)⟩
theorem owns_turn {S : Nat → Prop} {w w' : World} {B : Nat} {e : TypeId} {size n : Nat} {v : Value} {xs : List Value} (h : w.ownsRow B e size v n xs) (ht : Turn S w w') (hs : ∀ g, v.ownBlock = some g → ¬ S g) : w'.ownsRow B e size v n xs :=
  ⟨h.1, h.2.elim .inl (fun ⟨g, cap, cur, hv, hg, hh, r⟩ => .inr ⟨g, cap, cur, hv, hg, (ht.block g (Array.getElem?_eq_some_iff.1 hh).1 (hs g (by rw [hv]; rfl))).trans hh, r⟩)⟩
theorem Turn.blk {S : Nat → Prop} {w w' : World} (h : Turn S w w') {b : Nat} {o : Obj} (hb : w.heap[b]? = some o) (hs : ¬ S b) : w'.heap[b]? = some o := (h.block b (blk_lt hb) hs).trans hb
end Go.Annal
namespace Go.Proofs.YtjnmoddcodnadaaGreat
open Go.RowKit Go.Annal
attribute [local go_sem ↓] Go.wp_at_zero Go.wp_at_succ
theorem owns_kind {w : World} {B : Nat} {e : TypeId} {size : Nat} {v : Value} {n : Nat} {xs : List Value} (h : w.ownsRow B e size v n xs) : ∀ g, v.ownBlock = some g → ∃ c fz, w.heap[g]? = some (.cells c e fz) := by
  intro g hg
  rcases h.2 with ⟨rfl, _⟩ | ⟨g', cap, cur, rfl, _, hgg, _⟩
  · simp [Value.ownBlock] at hg
  · simp [Value.ownBlock] at hg; subst hg; exact ⟨_, _, hgg⟩

end Go.Proofs.YtjnmoddcodnadaaGreat
namespace Go.Proofs.YtjnmoddcodnadaaGreat
open Go.RowKit Go.Annal
def orI (x y : Int) : Int := if x = 0 then y else x
set_option maxHeartbeats 400000 in
theorem or_two (x y : Int) (w : World) (b cap : Nat) (h0 : w.cell? ⟨b, 0, none⟩ = some (.int .i64 x)) (h1 : w.cell? ⟨b, 1, none⟩ = some (.int .i64 y)) :
    Calls Tryz.prog 74 #[.slice (some ⟨b, 0, none⟩) 2 cap] w fun r w' => r = .returned (.int .i64 (orI x y)) ∧ w' = w := by
  have fin : Hid (x ≠ 0 → orI x y = x) := fun h => by simp [orI, h]
  have fin2 : Hid (x = 0 → orI x y = y) := fun h => by simp [orI, h]
  by_cases hx : x = 0
  · by_cases hy : y = 0
    · go_enter Tryz.func74, Tryz.ntmps74
      go_wp2
      refine wp_loop_rounds 3 ?_; rw [rounds_succ]; go_wp2
      rw [rounds_succ]; go_wp2
      rw [rounds_succ]; go_wp2
      go_ret
      exact ⟨ret_int (by rw [fin2.out hx, hy]), rfl⟩
    · have hy' : (y == 0) = false := by simp [hy]
      go_enter Tryz.func74, Tryz.ntmps74
      go_wp2
      refine wp_loop_rounds 3 ?_; rw [rounds_succ]; go_wp2
      rw [rounds_succ]; go_wp2
      go_ret
      exact ⟨ret_int (fin2.out hx).symm, rfl⟩
  · have hx' : (x == 0) = false := by simp [hx]
    go_enter Tryz.func74, Tryz.ntmps74
    go_wp2
    refine wp_loop_rounds 3 ?_; rw [rounds_succ]; go_wp2
    go_ret
    exact ⟨ret_int (fin.out hx).symm, rfl⟩

set_option maxHeartbeats 400000 in
theorem order_any (e1 d1 a1 e2 d2 a2 : Int) (w : World) :
    Calls Tryz.prog 48 #[.agg #[.int .i64 e1, .int .i64 d1, .int .i64 a1], .agg #[.int .i64 e2, .int .i64 d2, .int .i64 a2]] w fun r w' => r = .returned (.int .i64 (orI (cmpI d1 d2) (cmpI e1 e2))) ∧ Grew w w' := by
  go_enter Tryz.func48, Tryz.ntmps48
  go_wp2
  go_region_held3 (fun w' => w'.cell? ⟨w.heap.size, 1, none⟩ = some (.int .i64 d1) ∧ w'.cell? ⟨w.heap.size, 0, none⟩ = some (.int .i64 e1) ∧ w'.cell? ⟨w.heap.size + 1, 1, none⟩ = some (.int .i64 d2) ∧ w'.cell? ⟨w.heap.size + 1, 0, none⟩ = some (.int .i64 e2)) (go_keep)
    (first | (go_at_call 75; refine (cmpInt_any _ _ _).mono ?_; rintro e w' ⟨rfl, rfl⟩) | (go_at_call 74; refine (or_two (cmpI d1 d2) (cmpI e1 e2) _ _ _ (by go_simp) (by go_simp)).mono ?_; rintro e w' ⟨rfl, rfl⟩))
  all_goals go_wp2
  all_goals go_ret
  all_goals exact ⟨rfl, by repeat first | exact Grew.refl _ | refine Grew.drew ?_ | refine Grew.alloc ?_ _⟩

set_option maxHeartbeats 400000 in
theorem orderRow_any (e1 d1 a1 s1 e2 d2 a2 s2 : Int) (w : World) :
    Calls Tryz.prog 79 #[.agg #[.int .i64 e1, .int .i64 d1, .int .i64 a1, .int .i64 s1], .agg #[.int .i64 e2, .int .i64 d2, .int .i64 a2, .int .i64 s2]] w fun r w' => r = .returned (.int .i64 (orI (cmpI d1 d2) (cmpI e1 e2))) ∧ Grew w w' := by
  go_enter Tryz.func79, Tryz.ntmps79
  go_wp2_with (go_at_call 48; refine (order_any _ _ _ _ _ _ _).mono ?_; rintro e w' ⟨rfl, hg⟩)
  go_ret
  exact ⟨rfl, Grew.trans (by repeat first | exact Grew.refl _ | refine Grew.drew ?_ | refine Grew.alloc ?_ _) hg⟩
end Go.Proofs.YtjnmoddcodnadaaGreat
