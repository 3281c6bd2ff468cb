import Derived.Test.YtjnmoddcodnadaaGreatDoorG00
import Derived.Shelf.Strings.OnBuilder
import Derived.Shelf.Strings.Builder2
import Derived.Shelf.LaysM
import Derived.Shelf.LaysC
import Derived.Shelf.Strconv.Itoa3
import Derived.Shelf.Strconv.ErrVarAll
import Derived.Shelf.Strings.Cut
import Derived.Shelf.Strings.Prefix
import Derived.Shelf.Small.Strs
import Derived.Test.YtjnmoddcodnadaaGreatDoorProg
import Derived.WalkKit
import Derived.WalkSpells
import Derived.WalkLawsBesides
import Derived.BigQuiet
import Derived.Deep.QuietTactic
import Derived.Sort.Grow
import Derived.RangeFuncOwn
import Derived.Shelf.GgSortFunc.RowK
set_option linter.unusedVariables false
set_option linter.unusedSimpArgs false
namespace Go.Proofs
open Go.Shelf
def Tryz.wbyteL_ren : Go.Shelf.Ren := ⟨fun | 167 => 23 | 240 => 48 | 276 => 93 | n => n, fun | 0 => 0 | 3 => 3 | 4 => 4 | 5 => 5 | 9 => 9 | 20 => 20 | 37 => 61 | 70 => 60 | 72 => 63 | 75 => 72 | 76 => 73 | 80 => 32 | 164 => 169 | n => n, fun | n => n⟩
theorem Tryz.wbyteL : Go.Proofs.Lays.n167 Tryz.prog Tryz.wbyteL_ren := {
  mixed := by kernel_rfl
  f167 := Tryz.func23.trans (congrArg some (by kernel_rfl))
  f240 := Tryz.func48.trans (congrArg some (by kernel_rfl))
  f276 := Tryz.func93.trans (congrArg some (by kernel_rfl))
  t0 := Tryz.underlying0
  a0 := Tryz.isAgg0
  z0 := Tryz.sizeOf0
  v0 := Tryz.zeroValue0
  t4 := Tryz.underlying4
  a4 := Tryz.isAgg4
  z4 := Tryz.sizeOf4
  v4 := Tryz.zeroValue4
  t5 := Tryz.underlying5
  a5 := Tryz.isAgg5
  z5 := Tryz.sizeOf5
  v5 := Tryz.zeroValue5
  t9 := Tryz.underlying9
  a9 := Tryz.isAgg9
  z9 := Tryz.sizeOf9
  v9 := Tryz.zeroValue9
  t20 := Tryz.underlying20
  a20 := Tryz.isAgg20
  z20 := Tryz.sizeOf20
  v20 := Tryz.zeroValue20
  t37 := Tryz.underlying61
  a37 := Tryz.isAgg61
  z37 := Tryz.sizeOf61
  v37 := Tryz.zeroValue61
  t70 := Tryz.underlying60
  a70 := Tryz.isAgg60
  z70 := Tryz.sizeOf60
  v70 := Tryz.zeroValue60
  t72 := Tryz.underlying63
  a72 := Tryz.isAgg63
  z72 := Tryz.sizeOf63
  v72 := Tryz.zeroValue63
  t75 := Tryz.underlying72
  a75 := Tryz.isAgg72
  z75 := Tryz.sizeOf72
  v75 := Tryz.zeroValue72
  t164 := Tryz.underlying169
  a164 := Tryz.isAgg169
  z164 := Tryz.sizeOf169
  v164 := Tryz.zeroValue169 }
def Tryz.wstrL_ren : Go.Shelf.Ren := ⟨fun | 166 => 21 | 240 => 48 | 276 => 93 | n => n, fun | 0 => 0 | 3 => 3 | 4 => 4 | 5 => 5 | 9 => 9 | 20 => 20 | 37 => 61 | 70 => 60 | 72 => 63 | 75 => 72 | 76 => 73 | 80 => 32 | 164 => 169 | n => n, fun | n => n⟩
theorem Tryz.wstrL : Go.Proofs.Lays.n166 Tryz.prog Tryz.wstrL_ren := {
  mixed := by kernel_rfl
  f166 := Tryz.func21.trans (congrArg some (by kernel_rfl))
  f240 := Tryz.func48.trans (congrArg some (by kernel_rfl))
  f276 := Tryz.func93.trans (congrArg some (by kernel_rfl))
  t0 := Tryz.underlying0
  a0 := Tryz.isAgg0
  z0 := Tryz.sizeOf0
  v0 := Tryz.zeroValue0
  t3 := Tryz.underlying3
  a3 := Tryz.isAgg3
  z3 := Tryz.sizeOf3
  v3 := Tryz.zeroValue3
  t4 := Tryz.underlying4
  a4 := Tryz.isAgg4
  z4 := Tryz.sizeOf4
  v4 := Tryz.zeroValue4
  t9 := Tryz.underlying9
  a9 := Tryz.isAgg9
  z9 := Tryz.sizeOf9
  v9 := Tryz.zeroValue9
  t20 := Tryz.underlying20
  a20 := Tryz.isAgg20
  z20 := Tryz.sizeOf20
  v20 := Tryz.zeroValue20
  t37 := Tryz.underlying61
  a37 := Tryz.isAgg61
  z37 := Tryz.sizeOf61
  v37 := Tryz.zeroValue61
  t70 := Tryz.underlying60
  a70 := Tryz.isAgg60
  z70 := Tryz.sizeOf60
  v70 := Tryz.zeroValue60
  t72 := Tryz.underlying63
  a72 := Tryz.isAgg63
  z72 := Tryz.sizeOf63
  v72 := Tryz.zeroValue63
  t75 := Tryz.underlying72
  a75 := Tryz.isAgg72
  z75 := Tryz.sizeOf72
  v75 := Tryz.zeroValue72
  t164 := Tryz.underlying169
  a164 := Tryz.isAgg169
  z164 := Tryz.sizeOf169
  v164 := Tryz.zeroValue169 }
theorem Tryz.joinX : Builder.Extra Tryz.prog Tryz.joinL_ren where
  sizeBuilder := by kernel_rfl
  liesBuilder := by kernel_rfl
  t5 := Tryz.underlying5
  a5 := Tryz.isAgg5
  z5 := Tryz.sizeOf5
  v5 := Tryz.zeroValue5
  infoByte := by kernel_rfl
  cellsByte := by kernel_rfl
  sizeByte := by kernel_rfl
  neB5 := by decide
theorem Tryz.wbyteX : Builder.Extra Tryz.prog Tryz.wbyteL_ren where
  sizeBuilder := by kernel_rfl
  liesBuilder := by kernel_rfl
  t5 := Tryz.underlying5
  a5 := Tryz.isAgg5
  z5 := Tryz.sizeOf5
  v5 := Tryz.zeroValue5
  infoByte := by kernel_rfl
  cellsByte := by kernel_rfl
  sizeByte := by kernel_rfl
  neB5 := by decide
theorem Tryz.wstrX : Builder.Extra Tryz.prog Tryz.wstrL_ren where
  sizeBuilder := by kernel_rfl
  liesBuilder := by kernel_rfl
  t5 := Tryz.underlying5
  a5 := Tryz.isAgg5
  z5 := Tryz.sizeOf5
  v5 := Tryz.zeroValue5
  infoByte := by kernel_rfl
  cellsByte := by kernel_rfl
  sizeByte := by kernel_rfl
  neB5 := by decide
theorem Tryz.bstrX : Builder.Extra Tryz.prog Tryz.bstrL_ren where
  sizeBuilder := by kernel_rfl
  liesBuilder := by kernel_rfl
  t5 := Tryz.underlying5
  a5 := Tryz.isAgg5
  z5 := Tryz.sizeOf5
  v5 := Tryz.zeroValue5
  infoByte := by kernel_rfl
  cellsByte := by kernel_rfl
  sizeByte := by kernel_rfl
  neB5 := by decide
end Go.Proofs
namespace Go.Proofs.YtjnmoddcodnadaaGreatDoor
open Go.RowKit
theorem ret_int {k : IntKind} {a b : Int} (h : a = b) : Ending.returned (.int k a) = .returned (.int k b) := by rw [h]
theorem ret_bool {a b : Bool} (h : a = b) : Ending.returned (.bool a) = .returned (.bool b) := by rw [h]

def dayB (n : Int) : Bool := decide (0 ≤ n) && decide (n ≤ 9999)
theorem dayB_yes {n : Int} (h : dayB n = true) : 0 ≤ n ∧ n ≤ 9999 := by simpa [dayB] using h
theorem dayB_no {n : Int} (h : dayB n = false) : n < 0 ∨ 9999 < n := by simp [dayB] at h; omega

set_option maxHeartbeats 400000 in
theorem num_any (e : Int) (w : World) :
    Calls Tryz.prog 40 #[.int .i64 e] w fun r w' => r = .returned (.int .i64 e) ∧ w' = w := by
  go_enter Tryz.func40, Tryz.ntmps40
  go_wp2
  go_ret
  exact ⟨rfl, rfl⟩

set_option maxHeartbeats 400000 in
theorem isDayR_any (n : Int) (w : World) :
    Calls Tryz.prog 82 #[.int .i64 n] w fun r w' => r = .returned (.bool (dayB n)) ∧ w' = w := by
  by_cases h : 0 ≤ n
  · go_enter Tryz.func82, Tryz.ntmps82
    go_wp2
    go_ret
    exact ⟨ret_bool (by simp [dayB, h]), rfl⟩
  · go_enter Tryz.func82, Tryz.ntmps82
    go_wp2
    go_ret
    exact ⟨ret_bool (by simp [dayB]; omega), rfl⟩

set_option maxHeartbeats 400000 in
theorem isDay_any (n : Int) (w : World) :
    Calls Tryz.prog 64 #[.int .i64 n] w fun r w' => r = .returned (.bool (dayB n)) ∧ w' = w := by
  by_cases h : 0 ≤ n
  · go_enter Tryz.func64, Tryz.ntmps64
    go_wp2
    go_ret
    exact ⟨ret_bool (by simp [dayB, h]), rfl⟩
  · go_enter Tryz.func64, Tryz.ntmps64
    go_wp2
    go_ret
    exact ⟨ret_bool (by simp [dayB]; omega), rfl⟩

def pickI (c n : Int) : Int := (if c < 0 then -(c + 1) else c) % n
theorem pickI_bd (c n : Int) (hn : 0 < n) : 0 ≤ pickI c n ∧ pickI c n < n := ⟨Int.emod_nonneg _ (by omega), Int.emod_lt_of_pos _ hn⟩
theorem neg_tmod' (a n : Int) (h : a ≤ 0) : -(a.tmod n) = (-a) % n := by
  rw [← Int.neg_tmod, Int.tmod_eq_emod_of_nonneg (by omega)]

set_option maxHeartbeats 400000 in
theorem pick_any (c n : Int) (w : World) (h1 : -9223372036854775808 ≤ c) (h2 : c ≤ 9223372036854775807) (hn : 0 < n) (hm : n ≤ 9223372036854775807) :
    Calls Tryz.prog 37 #[.int .i64 c, .int .i64 n] w fun r w' => r = .returned (.int .i64 (pickI c n)) ∧ w' = w := by
  by_cases h : c < 0
  · go_enter Tryz.func37, Tryz.ntmps37
    go_wp2
    go_ret
    exact ⟨ret_int (by simp only [pickI, if_pos h]; rw [neg_tmod' _ _ (by omega)]), rfl⟩
  · go_enter Tryz.func37, Tryz.ntmps37
    go_wp2
    go_ret
    exact ⟨ret_int (by simp only [pickI, if_neg (show ¬ c < 0 by omega)]), rfl⟩

def cmpI (x y : Int) : Int := if x < y then -1 else if y < x then 1 else 0

set_option maxHeartbeats 400000 in
theorem cmpInt_any (x y : Int) (w : World) :
    Calls Tryz.prog 165 #[.int .i64 x, .int .i64 y] w fun r w' => r = .returned (.int .i64 (cmpI x y)) ∧ w' = w := by
  rcases (show x < y ∨ (¬ x < y ∧ y < x) ∨ (¬ x < y ∧ ¬ y < x) by omega) with h | ⟨h, h'⟩ | ⟨h, h'⟩
  · have e : cmpI x y = -1 := by simp [cmpI, h]
    go_enter Tryz.func165, Tryz.ntmps165
    go_wp2
    go_ret
    exact ⟨ret_int e.symm, rfl⟩
  · have e : cmpI x y = 1 := by simp [cmpI, h, h']
    go_enter Tryz.func165, Tryz.ntmps165
    go_wp2
    go_ret
    exact ⟨ret_int rfl, rfl⟩
  · have e : cmpI x y = 0 := by simp [cmpI, h, h']
    go_enter Tryz.func165, Tryz.ntmps165
    go_wp2
    go_ret
    exact ⟨ret_int rfl, rfl⟩

/-- The greatest power of two that divides a number. -/
def low (k : Nat) : Nat := if k % 2 = 1 then 1 else if k % 4 = 2 then 2 else if k % 8 = 4 then 4 else if k % 16 = 8 then 8 else if k % 32 = 16 then 16 else if k % 64 = 32 then 32 else 64
theorem low_bits : ∀ k : Fin 65, k.1 ≠ 0 → bits .and .i64 (k.1 : Int) (-(k.1 : Int)) = (low k.1 : Nat) := by decide +kernel

set_option maxHeartbeats 400000 in
theorem reach_any (k : Nat) (w : World) (h1 : 1 ≤ k) (h2 : k ≤ 64) :
    Calls Tryz.prog 138 #[.int .i64 k] w fun r w' => r = .returned (.int .i64 (low k : Nat)) ∧ w' = w := by
  have hb := low_bits ⟨k, by omega⟩ (by simp; omega)
  have hB : Hid (bits .and .i64 (k : Int) (-(k : Int)) = (low k : Nat)) := hb
  clear hb
  go_enter Tryz.func138, Tryz.ntmps138
  go_wp2
  go_ret
  exact ⟨ret_int hB.out, rfl⟩
end Go.Proofs.YtjnmoddcodnadaaGreatDoor
namespace Go.Annal
open Go.RowKit Go.Sort

/-- Nothing that was there has turned; there are new blocks, and draws. -/
def Grew (w w' : World) : Prop := ∃ (q : Nat) (os : Array Obj), w' = grow (w.drewN q) os

theorem drewN_eq (w : World) (q : Nat) : w.drewN q = { w with drawn := w.drawn + q } := rfl

theorem grew_iff {w w' : World} : Grew w w' ↔ Below w.heap.size w w' ∧ w.drawn ≤ w'.drawn := by
  constructor
  · rintro ⟨q, os, rfl⟩
    rw [drewN_eq]
    refine ⟨⟨rfl, rfl, rfl, by simp [grow], fun k hk => ?_⟩, by simp [grow]⟩
    show (w.heap ++ os)[k]? = _
    rw [Array.getElem?_append_left hk]
  · rintro ⟨hb, hd⟩
    refine ⟨w'.drawn - w.drawn, w'.heap.extract w.heap.size w'.heap.size, ?_⟩
    rw [drewN_eq]
    have hh : w'.heap = w.heap ++ w'.heap.extract w.heap.size w'.heap.size := by
      have hs := hb.size
      apply Array.ext
      · simp; omega
      · intro i h1 h2
        by_cases hi : i < w.heap.size
        · rw [Array.getElem_append_left hi]
          have := hb.block i hi
          rw [Array.getElem?_eq_getElem h1, Array.getElem?_eq_getElem hi] at this
          exact Option.some.inj this
        · rw [Array.getElem_append_right (by omega)]
          simp
          congr 1
          omega
    have h1 := hb.os; have h2 := hb.tape; have h3 := hb.output
    cases w' with | mk heap tape drawn os output =>
    cases w with | mk heap0 tape0 drawn0 os0 output0 =>
    simp only at h1 h2 h3 hd hh
    subst h1 h2 h3
    simp only [grow]
    rw [show drawn0 + (drawn - drawn0) = drawn by omega]
    rw [← hh]

theorem Grew.below {w w' : World} (h : Grew w w') : Below w.heap.size w w' := (grew_iff.1 h).1
theorem Grew.refl (w : World) : Grew w w := grew_iff.2 ⟨Below.refl _ _, Nat.le_refl _⟩
theorem Grew.trans {a b c : World} (h : Grew a b) (k : Grew b c) : Grew a c := by
  obtain ⟨h1, h2⟩ := grew_iff.1 h
  obtain ⟨k1, k2⟩ := grew_iff.1 k
  exact grew_iff.2 ⟨h1.trans (k1.mono h1.size), by omega⟩
theorem Grew.alloc {a w : World} (h : Grew a w) (o : Obj) : Grew a (w.alloc o) :=
  h.trans (grew_iff.2 ⟨(Below.refl _ _).alloc (Nat.le_refl _) _, Nat.le_refl _⟩)
theorem Grew.drew {a w : World} (h : Grew a w) : Grew a w.drew :=
  h.trans (grew_iff.2 ⟨(Below.refl _ _).drew, Nat.le_succ _⟩)
theorem Grew.drewN {a w : World} (h : Grew a w) (n : Nat) : Grew a (w.drewN n) :=
  h.trans ⟨n, #[], by simp⟩
theorem Grew.setCell {a w : World} (h : Grew a w) {p : Addr} (hp : a.heap.size ≤ p.block) (u : Value) : Grew a (w.setCell p u) := by
  obtain ⟨h1, h2⟩ := grew_iff.1 h
  exact grew_iff.2 ⟨h1.setCell hp u, h2⟩
theorem Grew.size {w w' : World} (h : Grew w w') : w.heap.size ≤ w'.heap.size := h.below.size
theorem Grew.cell {w w' : World} (h : Grew w w') {p : Addr} (hp : p.block < w.heap.size) : w'.cell? p = w.cell? p := h.below.cell hp
theorem Grew.frozen {w w' : World} (h : Grew w w') {p : Addr} (hp : p.block < w.heap.size) : w'.frozen? p = w.frozen? p := h.below.frozen hp
theorem Grew.block {w w' : World} (h : Grew w w') {k : Nat} (hp : k < w.heap.size) : w'.heap[k]? = w.heap[k]? := h.below.block k hp
/-- A cell that is there is there behind. -/
theorem Grew.cell' {w w' : World} (h : Grew w w') {p : Addr} {v : Value} (hp : w.cell? p = some v) : w'.cell? p = some v :=
  (h.cell (World.block_lt_of_cell? _ _ hp)).trans hp
theorem Grew.blk {w w' : World} (h : Grew w w') {b : Nat} {o : Obj} (hb : w.heap[b]? = some o) : w'.heap[b]? = some o :=
  (h.block (Array.getElem?_eq_some_iff.1 hb).1).trans hb
theorem blk_cell {w : World} {b : Nat} {cs : Array Value} {t : TypeId} {fz : Nat × Nat} (h : w.heap[b]? = some (.cells cs t fz)) (o : Nat) : w.cell? ⟨b, o, none⟩ = cs[o]? := by
  simp [World.cell?, h]
theorem blk_cell' {w : World} {b : Nat} {cs : Array Value} {t : TypeId} {fz : Nat × Nat} (h : w.heap[b]? = some (.cells cs t fz)) {o : Nat} {v : Value} (hv : cs[o]? = some v) : w.cell? ⟨b, o, none⟩ = some v :=
  (blk_cell h o).trans hv
theorem blk_free {w : World} {b : Nat} {cs : Array Value} {t : TypeId} (h : w.heap[b]? = some (.cells cs t (0, 0))) (o : Nat) : w.frozen? ⟨b, o, none⟩ = false := by
  simp [World.frozen?, h]
theorem blk_set {w : World} {b : Nat} {cs : Array Value} {t : TypeId} {fz : Nat × Nat} (h : w.heap[b]? = some (.cells cs t fz)) (o : Nat) (v : Value) : (w.setCell ⟨b, o, none⟩ v).heap[b]? = some (.cells (cs.setIfInBounds o v) t fz) := by
  simp only [World.setCell, Array.getElem?_modify]
  simp [h]
theorem blk_set_other {w : World} {b : Nat} {o : Obj} (h : w.heap[b]? = some o) {a : Addr} (hne : b ≠ a.block) (v : Value) : (w.setCell a v).heap[b]? = some o :=
  (Below.heap_setCell w a v b hne).trans h
theorem blk_lt {w : World} {b : Nat} {o : Obj} (h : w.heap[b]? = some o) : b < w.heap.size := (Array.getElem?_eq_some_iff.1 h).1
theorem blk_kept {w w' : World} {row : Option Nat} {b : Nat} {cs : Array Value} {t : TypeId} {fz : Nat × Nat} (h : w.heap[b]? = some (.cells cs t fz)) (hg : w.grownBy w' row)
    (hr : ∀ r, row = some r → ∃ o : Obj, w.heap[r]? = some o ∧ o.isCells = false) : w'.heap[b]? = some (.cells cs t fz) := by
  refine (hg.block b (blk_lt h) (fun e => ?_)).trans h
  obtain ⟨o, ho, hc⟩ := hr b e.symm
  rw [h] at ho
  cases ho
  cases hc
theorem sEq_iff {a b : ByteArray} : (a.toList == b.toList) = true ↔ a = b := by
  rw [ByteArray.toList_eq, ByteArray.toList_eq, beq_iff_eq]
  constructor
  · intro h
    cases a; cases b
    simp only at h
    exact congrArg ByteArray.mk (Array.toList_inj.1 h)
  · rintro rfl; rfl
theorem sEq_false {a b : ByteArray} : (a.toList == b.toList) = false ↔ a ≠ b := by
  rw [← Bool.not_eq_true, sEq_iff]
theorem owns_le {w : World} {B B' : Nat} {e : TypeId} {size n : Nat} {v : Value} {xs : List Value} (h : w.ownsRow B e size v n xs) (hB : B' ≤ B) : w.ownsRow B' e size v n xs :=
  ⟨h.1, h.2.elim .inl (fun ⟨g, cap, cur, hv, hg, r⟩ => .inr ⟨g, cap, cur, hv, Nat.le_trans hB hg, r⟩)⟩
theorem owns0 {w : World} {B : Nat} {e : TypeId} {size n : Nat} {v : Value} {xs : List Value} (h : w.ownsRow B e size v n xs) : w.ownsRow 0 e size v n xs := owns_le h (Nat.zero_le _)
theorem owns_mv {w w' : World} {B : Nat} {e : TypeId} {size n : Nat} {v : Value} {xs : List Value} (h : w.ownsRow B e size v n xs) (hb : Below w.heap.size w w') : w'.ownsRow B e size v n xs :=
  ⟨h.1, h.2.elim .inl (fun ⟨g, cap, cur, hv, hg, hh, r⟩ => .inr ⟨g, cap, cur, hv, hg, (hb.block g (Array.getElem?_eq_some_iff.1 hh).1).trans hh, r⟩)⟩
theorem wrap_id (n : Int) (h1 : -9223372036854775808 ≤ n) (h2 : n ≤ 9223372036854775807) : IntKind.i64.wrap n = n := by
  simp [IntKind.wrap, IntKind.bits, IntKind.signed]; omega
end Go.Annal
namespace Go.Annal
/-- The first place below n at which a list of texts has x; -1: nowhere. -/
def atI (f : Nat → ByteArray) (n : Nat) (x : ByteArray) : Int := match (List.range n).find? (fun i => (f i).toList == x.toList) with | some i => (i : Int) | none => -1
theorem atI_found (f : Nat → ByteArray) (n : Nat) (x : ByteArray) (k : Nat) (hk : k < n) (h : f k = x) (hb : ∀ j, j < k → f j ≠ x) : atI f n x = k := by
  unfold atI
  have : (List.range n).find? (fun i => (f i).toList == x.toList) = some k := by
    rw [List.find?_range_eq_some]
    refine ⟨by rw [sEq_iff]; exact h, by simpa using hk, fun j hj => by rw [Bool.not_eq_true', sEq_false]; exact hb j hj⟩
  rw [this]
theorem atI_none (f : Nat → ByteArray) (n : Nat) (x : ByteArray) (hb : ∀ j, j < n → f j ≠ x) : atI f n x = -1 := by
  unfold atI
  have : (List.range n).find? (fun i => (f i).toList == x.toList) = none := by
    rw [List.find?_eq_none]
    intro j hj
    rw [Bool.not_eq_true, sEq_false]; exact hb j (by simpa using hj)
  rw [this]
end Go.Annal
namespace Go.Proofs.YtjnmoddcodnadaaGreatDoor
open Go.RowKit Go.Annal
set_option maxHeartbeats 400000 in
theorem at_any (R g n cap : Nat) (ad : Option Addr) (f : Nat → ByteArray) (x : ByteArray) (w : World) (hn : n ≤ 1000) (hR : w.cell? ⟨R, 0, none⟩ = some (.slice ad n cap)) (ha : 0 < n → ad = some ⟨g, 0, none⟩)
    (hc : ∀ i, i < n → w.cell? ⟨g, i * 2, none⟩ = some (.string (f i))) :
    Calls Tryz.prog 77 #[.pointer (some ⟨R, 0, none⟩), .string x] w fun r w' => r = .returned (.int .i64 (atI f n x)) ∧ w' = w := by
  go_enter Tryz.func77, Tryz.ntmps77
  go_wp2
  go_loop [5] (fun iv => ∃ k : Nat, k ≤ n ∧ iv = .int .i64 k ∧ ∀ j, j < k → f j ≠ x) (fun iv => n - (intOf iv).toNat)
  case atStart => exact ⟨0, Nat.zero_le _, rfl, fun _ h => by omega⟩
  case round =>
    obtain ⟨k, hk, rfl, hb⟩ := hrel
    have HB : Hid (∀ j, j < k → f j ≠ x) := hb
    clear hb
    by_cases hlt : k < n
    · obtain rfl := ha (by omega)
      have hck := hc k hlt
      have hlt' : (k : Int) < (n : Int) := by omega
      clear hc ha
      cases he : (f k).toList == x.toList
      · have hne := sEq_false.1 he
        have hX : Hid (∀ j, j < k + 1 → f j ≠ x) := fun j hj => by
          by_cases h : j = k
          · subst h; exact hne
          · exact HB.out j (by omega)
        clear hne
        go_wp2
        go_round
        case rel => exact ⟨k + 1, by omega, by go_num, hX.out⟩
        case measure => simp [intOf]; omega
      · have fin : Hid (atI f n x = k) := atI_found f n x k hlt (sEq_iff.1 he) HB.out
        go_wp2
        go_ret
        exact ⟨ret_int fin.out.symm, rfl⟩
    · have hlt' : ¬ (k : Int) < (n : Int) := by omega
      have fin : Hid (atI f n x = -1) := atI_none f n x (fun j hj => HB.out j (by omega))
      clear hc
      go_wp2
      go_ret
      exact ⟨ret_int fin.out.symm, rfl⟩
end Go.Proofs.YtjnmoddcodnadaaGreatDoor
namespace Go.Proofs.YtjnmoddcodnadaaGreatDoor
open Go.RowKit Go.Annal
set_option maxHeartbeats 400000 in
theorem newR_any (w : World) :
    Calls Tryz.prog 35 #[] w fun r w' => r = .returned (.pointer (some ⟨w.heap.size, 0, none⟩)) ∧ w' = w.alloc (.cells #[.slice none 0 0, .slice none 0 0, .int .i64 (-1), .string ⟨#[]⟩] 103) := by
  go_enter Tryz.func35, Tryz.ntmps35
  go_wp2
  go_ret
  exact ⟨rfl, rfl⟩

set_option maxHeartbeats 400000 in
theorem isKnown_any (R ne cap : Nat) (ad : Option Addr) (n : Int) (w : World) (hR : w.cell? ⟨R, 1, none⟩ = some (.slice ad ne cap)) :
    Calls Tryz.prog 125 #[.pointer (some ⟨R, 0, none⟩), .int .i64 n] w fun r w' => r = .returned (.bool (decide (0 ≤ n) && decide (n ≤ ne))) ∧ w' = w := by
  by_cases h : 0 ≤ n
  · go_enter Tryz.func125, Tryz.ntmps125
    go_wp2
    go_ret
    exact ⟨ret_bool (by simp [h]), rfl⟩
  · go_enter Tryz.func125, Tryz.ntmps125
    go_wp2
    go_ret
    exact ⟨ret_bool (by simp; omega), rfl⟩

set_option maxHeartbeats 400000 in
theorem note_any (R : Nat) (c0 c1 c2 : Value) (t s : ByteArray) (w : World) (hR : w.heap[R]? = some (.cells #[c0, c1, c2, .string t] 103 (0, 0))) (ht : t.size + s.size ≤ 1000000000000) :
    Calls Tryz.prog 78 #[.pointer (some ⟨R, 0, none⟩), .string s] w fun r w' => r = .returned (.tuple #[]) ∧ w' = w.setCell ⟨R, 3, none⟩ (.string (t ++ s ++ ⟨#[10]⟩)) := by
  have h3 := blk_cell' hR (o := 3) rfl
  have f3 := blk_free hR 3
  clear hR
  go_enter Tryz.func78, Tryz.ntmps78
  go_wp2
  go_end0
  exact ⟨rfl, rfl⟩

/-- The digits of a number. -/
def digL : Nat → Nat → List UInt8
  | 0, _ => []
  | f + 1, n => if n < 10 then [UInt8.ofNat (48 + n)] else digL f (n / 10) ++ [UInt8.ofNat (48 + n % 10)]

theorem digL_len : ∀ f n, (digL f n).length ≤ f
  | 0, _ => by simp [digL]
  | f + 1, n => by
    simp only [digL]
    split
    · simp
    · have := digL_len f (n / 10); simp; omega
theorem ba_append (a b : Array UInt8) : (⟨a⟩ ++ ⟨b⟩ : ByteArray) = ⟨a ++ b⟩ := by
  apply ByteArray.ext
  simp

set_option maxRecDepth 100000 in
set_option maxHeartbeats 400000 in
theorem digits_nat (f : Nat) : ∀ (n : Nat) (w : World), n < 10 ^ f → f ≤ 18 → 0 < f →
    Calls Tryz.prog 79 #[.int .i64 n] w fun r w' => r = .returned (.string ⟨(digL f n).toArray⟩) ∧ Grew w w' := by
  induction f with
  | zero => intro n w _ _ h; omega
  | succ f ih =>
    intro n w hn hf _
    have hb : n < 1000000000000000000 := Nat.lt_of_lt_of_le hn (Nat.le_trans (Nat.pow_le_pow_right (by omega) hf) (by decide))
    have hcv : (convert 61 9 (.slice (some ⟨w.heap.size, 0, none⟩) 1 1)).run Tryz.prog (w.alloc (.cells #[.int .u8 (48 + (n : Int) % 10)] 5)) = .ok (.string ⟨#[UInt8.ofNat (48 + n % 10)]⟩) (w.alloc (.cells #[.int .u8 (48 + (n : Int) % 10)] 5)) := by
      have h8 : (UInt8.ofNat (48 + n % 10)).toNat = 48 + n % 10 := by rw [UInt8.toNat_ofNat']; omega
      exact run_convert_bytes_back (P := Tryz.prog) (w.alloc (.cells #[.int .u8 (48 + (n : Int) % 10)] 5)) 61 9 5 ⟨w.heap.size, 0, none⟩ 1 [UInt8.ofNat (48 + n % 10)] Tryz.underlying61 Tryz.underlying5 Tryz.underlying9
        (fun j hj => by
          have : j = 0 := by simp at hj; omega
          subst this
          simp only [List.getElem_cons_zero, h8]
          refine (World.cell?_alloc_at (w := w) #[.int .u8 (48 + (n : Int) % 10)] 5 w.heap.size 0 rfl).trans ?_
          simp)
    by_cases h : n < 10
    · have e : Hid (digL (f + 1) n = [UInt8.ofNat (48 + n % 10)]) := by show digL (f + 1) n = _; simp [digL, h, Nat.mod_eq_of_lt h]
      have h' : (n : Int) < 10 := by omega
      have h1 : ¬ (n : Int) < 0 := by omega
      clear ih hn
      generalize UInt8.ofNat (48 + n % 10) = x at hcv e
      go_enter Tryz.func79, Tryz.ntmps79
      go_wp2
      go_ret
      exact ⟨by rw [e.out]; rfl, (Grew.refl _).alloc _⟩
    · have e : Hid (digL (f + 1) n = digL f (n / 10) ++ [UInt8.ofNat (48 + n % 10)]) := by show digL (f + 1) n = _; simp [digL, h]
      have h' : ¬ (n : Int) < 10 := by omega
      have h1 : ¬ (n : Int) < 0 := by omega
      have hf0 : 0 < f := by
        rcases Nat.eq_zero_or_pos f with rfl | h
        · simp at hn; omega
        · exact h
      have hlen : (digL f (n / 10)).length ≤ f := digL_len f _
      have IH : ∀ W, Calls Tryz.prog 79 #[.int .i64 ((n : Int) / 10)] W fun r w' => r = .returned (.string ⟨(digL f (n / 10)).toArray⟩) ∧ Grew W w' := fun W => by
        have := ih (n / 10) W (by rw [Nat.pow_succ] at hn; omega) (by omega) hf0
        rwa [show ((n / 10 : Nat) : Int) = (n : Int) / 10 from by omega] at this
      have HI : Hid _ := IH
      clear ih IH hn
      generalize digL f (n / 10) = l at e HI hlen
      generalize UInt8.ofNat (48 + n % 10) = x at hcv e
      go_enter Tryz.func79, Tryz.ntmps79
      go_wp2_with (go_at_call 79; refine (HI.out _).mono ?_; rintro e w' ⟨rfl, hg⟩)
      go_ret
      exact ⟨by rw [e.out]; simp [ba_append], Grew.trans ((Grew.refl _).alloc _) hg⟩

/-- The number's text. -/
def digZ (n : Int) : List UInt8 := if n < 0 then 45 :: digL 18 (-n).toNat else digL 18 n.toNat
theorem digZ_len (n : Int) : (digZ n).length ≤ 19 := by
  unfold digZ
  split
  · have := digL_len 18 (-n).toNat; simp; omega
  · have := digL_len 18 n.toNat; omega

set_option maxRecDepth 100000 in
set_option maxHeartbeats 400000 in
theorem digits_any (n : Int) (w : World) (h1 : -1000000000000 ≤ n) (h2 : n ≤ 1000000000000) :
    Calls Tryz.prog 79 #[.int .i64 n] w fun r w' => r = .returned (.string ⟨(digZ n).toArray⟩) ∧ Grew w w' := by
  by_cases h : n < 0
  · have e : Hid (digZ n = 45 :: digL 18 (-n).toNat) := by show digZ n = _; simp [digZ, h]
    have HI : Hid (∀ W, Calls Tryz.prog 79 #[.int .i64 (-n)] W fun r w' => r = .returned (.string ⟨(digL 18 (-n).toNat).toArray⟩) ∧ Grew W w') := fun W => by
      have := digits_nat 18 (-n).toNat W (by omega) (by omega) (by omega)
      rwa [Int.toNat_of_nonneg (by omega)] at this
    have hlen := digL_len 18 (-n).toNat
    generalize digL 18 (-n).toNat = l at e HI hlen
    go_enter Tryz.func79, Tryz.ntmps79
    go_wp2_with (go_at_call 79; refine (HI.out _).mono ?_; rintro e w' ⟨rfl, hg⟩)
    go_ret
    exact ⟨by rw [e.out]; simp [ba_append], hg⟩
  · have := digits_nat 18 n.toNat w (by omega) (by omega) (by omega)
    rw [Int.toNat_of_nonneg (by omega)] at this
    simpa [digZ, h] using this
end Go.Proofs.YtjnmoddcodnadaaGreatDoor
namespace Go.Annal
section
variable (dy : Nat → Int) (la : Nat → Nat → ByteArray) (lm : Nat → Nat → Int) (name : ByteArray) (day : Int)
def lnT (i k : Nat) : Int := if decide (dy i ≤ day) && ((la i k).toList == name.toList) then lm i k else 0
def lnS (i : Nat) : Nat → Int
  | 0 => 0
  | k + 1 => lnS i k + lnT dy la lm name day i k
def enS (ln : Nat → Nat) : Nat → Int
  | 0 => 0
  | i + 1 => enS ln i + lnS dy la lm name day i (ln i)
theorem lnT_bd (i k : Nat) (hb : -1000000000000 ≤ lm i k ∧ lm i k ≤ 1000000000000) : -1000000000000 ≤ lnT dy la lm name day i k ∧ lnT dy la lm name day i k ≤ 1000000000000 := by
  unfold lnT; split <;> omega
theorem lnS_bd (i : Nat) : ∀ k, (∀ j, j < k → -1000000000000 ≤ lm i j ∧ lm i j ≤ 1000000000000) → -(1000000000000 * (k : Int)) ≤ lnS dy la lm name day i k ∧ lnS dy la lm name day i k ≤ 1000000000000 * (k : Int)
  | 0, _ => by simp [lnS]
  | k + 1, h => by
    have := lnS_bd i k (fun j hj => h j (by omega))
    have := lnT_bd dy la lm name day i k (h k (by omega))
    simp only [lnS]; omega
theorem enS_bd (ln : Nat → Nat) : ∀ n, (∀ i, i < n → ln i ≤ 100 ∧ ∀ j, j < ln i → -1000000000000 ≤ lm i j ∧ lm i j ≤ 1000000000000) → -(100000000000000 * (n : Int)) ≤ enS dy la lm name day ln n ∧ enS dy la lm name day ln n ≤ 100000000000000 * (n : Int)
  | 0, _ => by simp [enS]
  | n + 1, h => by
    have := enS_bd ln n (fun j hj => h j (by omega))
    have h1 := h n (by omega)
    have := lnS_bd dy la lm name day n (ln n) h1.2
    simp only [enS]; omega
end
end Go.Annal
namespace Go.Proofs.YtjnmoddcodnadaaGreatDoor
open Go.RowKit Go.Annal
/-- What is read of a document's book's entries. -/
structure EntsAt (w : World) (R ge ce ne : Nat) (ade : Option Addr) (dy : Nat → Int) (gl ln cl : Nat → Nat) (la : Nat → Nat → ByteArray) (lm : Nat → Nat → Int) : Prop where
  cE : w.cell? ⟨R, 1, none⟩ = some (.slice ade ne ce)
  hE : 0 < ne → ade = some ⟨ge, 0, none⟩
  cd : ∀ i, i < ne → w.cell? ⟨ge, i * 3, none⟩ = some (.int .i64 (dy i))
  cl : ∀ i, i < ne → w.cell? ⟨ge, i * 3 + 1, none⟩ = some (.slice (some ⟨gl i, 0, none⟩) (ln i) (cl i))
  cg : ∀ i, i < ne → ∃ b, w.cell? ⟨ge, i * 3 + 2, none⟩ = some (.bool b)
  ca : ∀ i, i < ne → ∀ k, k < ln i → w.cell? ⟨gl i, k * 2, none⟩ = some (.string (la i k))
  cm : ∀ i, i < ne → ∀ k, k < ln i → w.cell? ⟨gl i, k * 2 + 1, none⟩ = some (.int .i64 (lm i k))
  small : ∀ i, i < ne → ln i ≤ 100
  bound : ∀ i, i < ne → ∀ k, k < ln i → -1000000000000 ≤ lm i k ∧ lm i k ≤ 1000000000000
  few : ne ≤ 100

theorem EntsAt.mv {w w' : World} {R ge ce ne : Nat} {ade : Option Addr} {dy : Nat → Int} {gl ln cl : Nat → Nat} {la : Nat → Nat → ByteArray} {lm : Nat → Nat → Int} (h : EntsAt w R ge ce ne ade dy gl ln cl la lm) (hb : Below w.heap.size w w') :
    EntsAt w' R ge ce ne ade dy gl ln cl la lm :=
  ⟨cell_later hb h.cE, h.hE, fun i hi => cell_later hb (h.cd i hi), fun i hi => cell_later hb (h.cl i hi), fun i hi => (h.cg i hi).imp fun _ hg => cell_later hb hg, fun i hi k hk => cell_later hb (h.ca i hi k hk), fun i hi k hk => cell_later hb (h.cm i hi k hk), h.small, h.bound, h.few⟩

set_option maxRecDepth 100000 in
set_option maxHeartbeats 1000000 in
theorem balanceR_any (R ge ce ne : Nat) (ade : Option Addr) (dy : Nat → Int) (gl ln cl : Nat → Nat) (la : Nat → Nat → ByteArray) (lm : Nat → Nat → Int) (name : ByteArray) (day : Int) (known : Nat) (w : World)
    (hA : EntsAt w R ge ce ne ade dy gl ln cl la lm) (hk : known ≤ ne) :
    Calls Tryz.prog 83 #[.pointer (some ⟨R, 0, none⟩), .string name, .int .i64 day, .int .i64 known] w fun r w' => r = .returned (.int .i64 (enS dy la lm name day ln known)) ∧ w' = w := by
  have hfew := hA.few
  have hall : Hid (∀ i, i < ne → ln i ≤ 100 ∧ ∀ j, j < ln i → -1000000000000 ≤ lm i j ∧ lm i j ≤ 1000000000000) := fun i hi => ⟨hA.small i hi, hA.bound i hi⟩
  go_enter Tryz.func83, Tryz.ntmps83
  go_wp2
  go_loop [9, 10, 11] (fun nv iv _ => ∃ i : Nat, i ≤ known ∧ iv = .int .i64 i ∧ nv = .int .i64 (enS dy la lm name day ln i)) (fun _ iv _ => known - (intOf iv).toNat)
  case atStart => exact ⟨0, Nat.zero_le _, rfl, rfl⟩
  case round =>
    obtain ⟨i, hi, rfl, rfl⟩ := hrel
    by_cases hlt : i < known
    · have hin : i < ne := by omega
      obtain rfl := hA.hE (by omega)
      have cE := hA.cE
      have cd := hA.cd i hin
      have cl := hA.cl i hin
      have hsm := hA.small i hin
      have hlt' : (i : Int) < (known : Int) := by omega
      have hin' : (i : Int) < (ne : Int) := by omega
      have hen := enS_bd dy la lm name day ln i (fun j hj => hall.out j (by omega))
      obtain ⟨hen1, hen2⟩ := hen
      go_wp2
      go_loop [9, 11] (fun nv kv => ∃ k : Nat, k ≤ ln i ∧ kv = .int .i64 k ∧ nv = .int .i64 (enS dy la lm name day ln i + lnS dy la lm name day i k)) (fun _ kv => ln i - (intOf kv).toNat)
      case atStart => exact ⟨0, Nat.zero_le _, rfl, by simp [lnS]⟩
      case round =>
        obtain ⟨k, hk2, rfl, rfl⟩ := hrel
        by_cases hkl : k < ln i
        · have ca := hA.ca i hin k hkl
          have cm := hA.cm i hin k hkl
          have hkl' : (k : Int) < (ln i : Int) := by omega
          have hls := lnS_bd dy la lm name day i k (fun j hj => (hall.out i hin).2 j (by omega))
          obtain ⟨hls1, hls2⟩ := hls
          have hbk := (hall.out i hin).2 k hkl
          obtain ⟨hbk1, hbk2⟩ := hbk
          have hst : Hid (lnS dy la lm name day i (k + 1) = lnS dy la lm name day i k + if decide (dy i ≤ day) && ((la i k).toList == name.toList) then lm i k else 0) := rfl
          generalize enS dy la lm name day ln i = E at *
          generalize lnS dy la lm name day i k = L at *
          by_cases hd : dy i ≤ day
          · cases he : (la i k).toList == name.toList
            · go_wp2
              go_round
              case rel => exact ⟨k + 1, by omega, by go_num, by rw [hst.out, he]; simp⟩
              case measure => simp [intOf]; omega
            · go_wp2
              go_round
              case rel => exact ⟨k + 1, by omega, by go_num, by rw [hst.out, he]; simp [hd]; omega⟩
              case measure => simp [intOf]; omega
          · have hd2 : decide (dy i ≤ day) = false := by simpa using hd
            go_wp2
            go_round
            case rel => exact ⟨k + 1, by omega, by go_num, by rw [hst.out, hd2]; simp⟩
            case measure => simp [intOf]; omega
        · have hkl' : ¬ (k : Int) < (ln i : Int) := by omega
          have hke : k = ln i := by omega
          subst hke
          have hst : Hid (enS dy la lm name day ln (i + 1) = enS dy la lm name day ln i + lnS dy la lm name day i (ln i)) := rfl
          go_wp2
          go_round
          case rel => exact ⟨i + 1, by omega, by go_num, by rw [hst.out]⟩
          case measure => simp [intOf]; omega
    · have hlt' : ¬ (i : Int) < (known : Int) := by omega
      have hie : i = known := by omega
      subst hie
      go_wp2
      go_ret
      exact ⟨rfl, rfl⟩
end Go.Proofs.YtjnmoddcodnadaaGreatDoor
