import Derived.Test.YtjnmoddcodnadaaGreatDoorG10
import Derived.Test.YtjnmoddcodnadaaGreatDoorG04
import Derived.Test.YtjnmoddcodnadaaGreatDoorG01
import Derived.Shelf.Spec.SlicesInsertGrow
import Derived.Test.YtjnmoddcodnadaaGreatDoorG00
import Derived.Test.YtjnmoddcodnadaaGreatDoorProg
import Derived.Shelf.Strconv.Clone
set_option linter.unusedVariables false
set_option linter.unusedSimpArgs false
namespace Go.Annal
open Go.Proofs.YtjnmoddcodnadaaGreatDoor
theorem bl_irrefl : ∀ x : List UInt8, Op.bytesLess x x = false
  | [] => rfl
  | a :: r => by simp [Op.bytesLess, bl_irrefl r]
theorem bl_trans : ∀ x y z : List UInt8, Op.bytesLess x y = true → Op.bytesLess y z = true → Op.bytesLess x z = true
  | x, [], z, h, _ => by cases x <;> simp [Op.bytesLess] at h
  | _, _ :: _, [], _, h => by simp [Op.bytesLess] at h
  | [], _ :: _, _ :: _, _, _ => by simp [Op.bytesLess]
  | a :: x, b :: y, c :: z, h, h' => by
    simp only [Op.bytesLess, Bool.or_eq_true, Bool.and_eq_true, decide_eq_true_eq, beq_iff_eq] at *
    rcases h with h | ⟨rfl, h⟩
    · rcases h' with h' | ⟨rfl, h'⟩
      · exact .inl (UInt8.lt_trans h h')
      · exact .inl h
    · rcases h' with h' | ⟨rfl, h'⟩
      · exact .inl h'
      · exact .inr ⟨rfl, bl_trans x y z h h'⟩
theorem bl_total : ∀ x y : List UInt8, Op.bytesLess x y = false → Op.bytesLess y x = false → x = y
  | [], [], _, _ => rfl
  | [], _ :: _, h, _ => by simp [Op.bytesLess] at h
  | _ :: _, [], _, h => by simp [Op.bytesLess] at h
  | a :: x, b :: y, h, h' => by
    simp only [Op.bytesLess, Bool.or_eq_false_iff, decide_eq_false_iff_not, Bool.and_eq_false_iff, beq_eq_false_iff_ne] at *
    have e : a = b := by
      rw [← UInt8.toNat_inj]
      have h1 := h.1; have h2 := h'.1
      rw [UInt8.lt_iff_toNat_lt] at h1 h2
      omega
    subst e
    rw [bl_total x y (h.2.resolve_left (by simp)) (h'.2.resolve_left (by simp))]
theorem ba_ext {x y : ByteArray} (h : x.toList = y.toList) : x = y := sEq_iff.1 (by simpa using h)
/-- How many meet what those behind them make them meet. -/
theorem cnt_prefix (q : Nat → Bool) : ∀ n, (∀ a b, a ≤ b → b < n → q b = true → q a = true) → ∀ i, i < n → (q i = true ↔ i < (List.range n).countP q)
  | 0, _, i, h => by omega
  | n + 1, hd, i, hi => by
    have ih := cnt_prefix q n (fun a b hab hb => hd a b hab (by omega))
    rw [List.range_succ, List.countP_append, List.countP_singleton]
    have hle : (List.range n).countP q ≤ n := by have := List.countP_le_length (p := q) (l := List.range n); simpa using this
    by_cases hq : q n = true
    · rw [if_pos hq]
      have : (List.range n).countP q = n := by
        have := List.countP_eq_length (p := q) (l := List.range n) |>.2 (fun a ha => hd a n (by simp at ha; omega) (by omega) hq)
        simpa using this
      rw [this]
      exact ⟨fun _ => hi, fun _ => hd i n (by omega) (by omega) hq⟩
    · rw [if_neg hq, Nat.add_zero]
      by_cases hin : i < n
      · exact ih i hin
      · obtain rfl : i = n := by omega
        exact ⟨fun h => absurd h hq, fun h => by omega⟩
/-- Names in order, none twice. -/
def Rise (nm : Nat → ByteArray) (na : Nat) : Prop := ∀ a b, a < b → b < na → sLt (nm a) (nm b) = true
theorem Rise.up {nm : Nat → ByteArray} {na : Nat} (h : Rise nm na) : ∀ x a b, a ≤ b → b < na → Op.bytesLess (nm b).toList x = true → Op.bytesLess (nm a).toList x = true := by
  intro x a b hab hb hx
  rcases Nat.eq_or_lt_of_le hab with rfl | hlt
  · exact hx
  · exact bl_trans _ _ _ (h a b hlt hb) hx
theorem Rise.inj {nm : Nat → ByteArray} {na : Nat} (h : Rise nm na) {a b : Nat} (ha : a < na) (hb : b < na) (e : nm a = nm b) : a = b := by
  rcases Nat.lt_trichotomy a b with hl | hl | hl
  · have := h a b hl hb; rw [e] at this; unfold sLt at this; rw [bl_irrefl] at this; cases this
  · exact hl
  · have := h b a hl ha; rw [e] at this; unfold sLt at this; rw [bl_irrefl] at this; cases this
theorem less_iff {nm : Nat → ByteArray} {na : Nat} (h : Rise nm na) (x : ByteArray) {i : Nat} (hi : i < na) : sLt (nm i) x = true ↔ i < lessN nm na x :=
  cnt_prefix (fun i => Op.bytesLess (nm i).toList x.toList) na (fun a b hab hb => h.up x.toList a b hab hb) i hi
theorem lessN_le (nm : Nat → ByteArray) (na : Nat) (x : ByteArray) : lessN nm na x ≤ na := by
  unfold lessN
  have := List.countP_le_length (p := fun i => Op.bytesLess (nm i).toList x.toList) (l := List.range na)
  simpa using this
theorem cmpS_zero {x y : ByteArray} : cmpS x y = 0 ↔ x = y := by
  unfold cmpS
  constructor
  · intro h
    split at h
    · omega
    · split at h
      · rename_i h2; exact ba_ext (by simpa using h2)
      · omega
  · rintro rfl
    rw [bl_irrefl]; simp
theorem isAt_eq {nm : Nat → ByteArray} {na : Nat} {x : ByteArray} (hx : isAt nm na x = true) : lessN nm na x < na ∧ nm (lessN nm na x) = x := by
  unfold isAt at hx
  simp only [Bool.and_eq_true, decide_eq_true_eq] at hx
  exact ⟨hx.1, cmpS_zero.1 hx.2⟩
theorem isAt_iff {nm : Nat → ByteArray} {na : Nat} (h : Rise nm na) (x : ByteArray) : isAt nm na x = true ↔ ∃ i, i < na ∧ nm i = x := by
  constructor
  · intro hx; exact ⟨_, isAt_eq hx⟩
  · rintro ⟨i, hi, rfl⟩
    have h1 : ¬ i < lessN nm na (nm i) := fun hl => by
      have := (less_iff h (nm i) hi).2 hl
      unfold sLt at this; rw [bl_irrefl] at this; cases this
    have h2 : lessN nm na (nm i) = i := by
      rcases Nat.eq_or_lt_of_le (Nat.not_lt.1 h1) with e | hl
      · exact e
      · have h3 := h _ _ hl hi
        exact absurd ((less_iff h (nm i) (by omega)).1 h3) (by omega)
    unfold isAt
    rw [h2]
    simp [hi, cmpS_zero]
theorem lessN_at {nm : Nat → ByteArray} {na : Nat} (h : Rise nm na) {i : Nat} (hi : i < na) : lessN nm na (nm i) = i := by
  obtain ⟨h1, h2⟩ := isAt_eq ((isAt_iff h (nm i)).2 ⟨i, hi, rfl⟩)
  exact h.inj h1 hi h2
theorem atI_iff (fn : Nat → ByteArray) (na : Nat) (x : ByteArray) : 0 ≤ atI fn na x ↔ ∃ i, i < na ∧ fn i = x := by
  unfold atI
  cases hf : (List.range na).find? (fun i => (fn i).toList == x.toList) with
  | some i =>
    have h1 := List.find?_some hf
    have h2 := List.mem_of_find?_eq_some hf
    simp at h1 h2
    exact ⟨fun _ => ⟨i, h2, ba_ext h1⟩, fun _ => by simp⟩
  | none =>
    rw [List.find?_eq_none] at hf
    constructor
    · intro h; simp at h
    · rintro ⟨i, hi, rfl⟩
      have := hf i (by simpa using hi)
      simp at this
theorem insS_perm (l : List ByteArray) (x : ByteArray) : (insS l x).Perm (x :: l) := by
  unfold insS
  have := (List.perm_middle (a := x) (l₁ := l.takeWhile (fun y => sLt y x)) (l₂ := l.dropWhile (fun y => sLt y x)))
  rwa [List.takeWhile_append_dropWhile] at this
theorem nmS_perm (fn : Nat → ByteArray) : ∀ n, (nmS fn n).Perm ((List.range n).map fn)
  | 0 => List.Perm.refl _
  | n + 1 => by
    rw [List.range_succ, List.map_append]
    exact (insS_perm _ _).trans ((List.Perm.cons _ (nmS_perm fn n)).trans (List.perm_append_comm (l₁ := [fn n])))
/-- The accounts' names, in the document's order and in order. -/
structure NamesIs (nm fn : Nat → ByteArray) (na : Nat) : Prop where
  rise : Rise nm na
  same : (List.range na).map nm = nmS fn na
theorem NamesIs.at {nm fn : Nat → ByteArray} {na : Nat} (h : NamesIs nm fn na) (x : ByteArray) : isAt nm na x = decide (0 ≤ atI fn na x) := by
  rw [Bool.eq_iff_iff, decide_eq_true_iff, isAt_iff h.rise, atI_iff]
  have h1 : x ∈ (List.range na).map nm ↔ x ∈ (List.range na).map fn := by rw [h.same]; exact (nmS_perm fn na).mem_iff
  simpa using h1
theorem NamesIs.zero (nm fn : Nat → ByteArray) : NamesIs nm fn 0 := ⟨fun a b _ h => by omega, rfl⟩
/-- One more at place p. -/
def sh {α : Type} (p : Nat) (v : α) (f : Nat → α) (j : Nat) : α := if j < p then f j else if j = p then v else f (j - 1)
theorem sh_map {α : Type} (p : Nat) (v : α) (f : Nat → α) (n : Nat) (hp : p ≤ n) : (List.range (n + 1)).map (sh p v f) = ((List.range n).map f).take p ++ v :: ((List.range n).map f).drop p := by
  apply List.ext_getElem
  · simp; omega
  · intro i h1 h2
    have hi : i < n + 1 := by simpa using h1
    rw [List.getElem_map, List.getElem_range]
    unfold sh
    by_cases h3 : i < p
    · rw [if_pos h3, List.getElem_append_left (by simp; omega)]
      simp
    · rw [if_neg h3, List.getElem_append_right (by simp; omega)]
      have hl : (((List.range n).map f).take p).length = p := by simp; omega
      by_cases h4 : i = p
      · subst h4
        rw [if_pos rfl]
        simp [hl]
      · rw [if_neg h4]
        obtain ⟨d, rfl⟩ : ∃ d, i = p + 1 + d := ⟨i - (p + 1), by omega⟩
        simp only [hl, show p + 1 + d - p = d + 1 by omega, List.getElem_cons_succ, List.getElem_drop, List.getElem_map, List.getElem_range]
        congr 1
        omega
/-- An account more. -/
theorem NamesIs.open {nm fn fn' : Nat → ByteArray} {na : Nat} (h : NamesIs nm fn na) (x : ByteArray) (hx : isAt nm na x = false) (hf : ∀ i, i < na → fn' i = fn i) (hf' : fn' na = x) : NamesIs (sh (lessN nm na x) x nm) fn' (na + 1) := by
  have hp := lessN_le nm na x
  have hno : ∀ i, i < na → nm i ≠ x := fun i hi e => by
    have := (isAt_iff h.rise x).2 ⟨i, hi, e⟩
    rw [hx] at this; cases this
  have hgt : ∀ i, i < na → lessN nm na x ≤ i → sLt x (nm i) = true := fun i hi hl => by
    cases e : sLt x (nm i)
    · have h1 : sLt (nm i) x = false := by
        cases e' : sLt (nm i) x
        · rfl
        · exact absurd ((less_iff h.rise x hi).1 e') (by omega)
      exact absurd (ba_ext (bl_total _ _ h1 e)) (hno i hi)
    · rfl
  constructor
  · intro a b hab hb
    unfold sh
    by_cases h1 : a < lessN nm na x
    · rw [if_pos h1]
      by_cases h2 : b < lessN nm na x
      · rw [if_pos h2]; exact h.rise a b hab (by omega)
      · rw [if_neg h2]
        by_cases h3 : b = lessN nm na x
        · rw [if_pos h3]; exact (less_iff h.rise x (by omega)).2 h1
        · rw [if_neg h3]; exact h.rise a (b - 1) (by omega) (by omega)
    · rw [if_neg h1, if_neg (show ¬ b < lessN nm na x by omega), if_neg (show ¬ b = lessN nm na x by omega)]
      by_cases h3 : a = lessN nm na x
      · rw [if_pos h3]; exact hgt (b - 1) (by omega) (by omega)
      · rw [if_neg h3]; exact h.rise (a - 1) (b - 1) (by omega) (by omega)
  · rw [sh_map _ _ _ _ hp]
    have e1 : ∀ m, m ≤ na → nmS fn' m = nmS fn m := by
      intro m
      induction m with
      | zero => intro _; rfl
      | succ m ih => intro hm; simp only [nmS]; rw [ih (by omega), hf m (by omega)]
    simp only [nmS]
    rw [e1 na (Nat.le_refl _), hf', ← h.same]
    refine (insS_eq _ x _ (by simpa using hp) (fun y hy => ?_) (fun hl => ?_)).symm
    · rw [List.mem_take_iff_getElem] at hy
      obtain ⟨i, hi, rfl⟩ := hy
      have hi' : i < lessN nm na x ∧ i < na := by simp at hi; omega
      simp only [List.getElem_map, List.getElem_range]
      exact (less_iff h.rise x hi'.2).2 hi'.1
    · have hl' : lessN nm na x < na := by simpa using hl
      simp only [List.getElem_map, List.getElem_range]
      cases e : sLt (nm (lessN nm na x)) x
      · rfl
      · exact absurd ((less_iff h.rise x hl').1 e) (by omega)
theorem NamesIs.trial {nm fn : Nat → ByteArray} {na : Nat} (h : NamesIs nm fn na) (bal : ByteArray → Int) (V : Nat → Int) (hV : ∀ i, i < na → V i = bal (nm i)) : trA nm V na = trL bal (nmS fn na) := by
  unfold trA trL
  rw [← h.same, List.map_map]
  congr 1
  apply List.map_congr_left
  intro i hi
  simp only [Function.comp]
  rw [hV i (by simpa using hi)]
end Go.Annal
namespace Go.Annal
open Go.RowKit Go.Proofs
theorem setCells_blk {b : Nat} {t : TypeId} {fz : Nat × Nat} : ∀ (vs : List Value) (o : Nat) {w : World} {cs : Array Value}, w.heap[b]? = some (.cells cs t fz) → ∃ cs', (w.setCells b o vs).heap[b]? = some (.cells cs' t fz) ∧ cs'.size = cs.size
  | [], _, _, cs, h => ⟨cs, h, rfl⟩
  | v :: r, o, w, cs, h => by
    have h1 := blk_set h o v
    obtain ⟨cs', h2, h3⟩ := setCells_blk r (o + 1) h1
    exact ⟨cs', h2, by rw [h3]; simp⟩
theorem Turn.setCells {S : Nat → Prop} {a : World} {b : Nat} (hp : b < a.heap.size → S b) : ∀ (vs : List Value) (o : Nat) {w : World}, Turn S a w → Turn S a (w.setCells b o vs)
  | [], _, _, h => h
  | v :: r, o, _, h => Turn.setCells hp r (o + 1) (h.set ⟨b, o, none⟩ v hp)
theorem owns_of_cells {w : World} {B g cap n : Nat} {t : TypeId} {cs : Array Value} {xs : List Value} (hg : w.heap[g]? = some (.cells cs t (0, 0))) (hB : B ≤ g) (hn : n ≤ cap) (hm : cap ≤ maxLen) (hs : cs.size = cap) (hl : xs.length = n) (hx : ∀ j, j < n → w.cell? ⟨g, j, none⟩ = xs[j]?) :
    w.ownsRow B t 1 (.slice (some ⟨g, 0, none⟩) n cap) n xs := by
  refine ⟨by omega, .inr ⟨g, cap, cs, rfl, hB, hg, hn, hm, by omega, ?_⟩⟩
  apply List.ext_getElem?
  intro j
  by_cases hj : j < n
  · rw [List.getElem?_take_of_lt (by omega), ← hx j hj, Array.getElem?_toList]
    have : j < cs.size := by omega
    rw [blk_cell' (o := j) hg (Array.getElem?_eq_getElem this), Array.getElem?_eq_getElem this]
  · rw [List.getElem?_eq_none (by simp; omega), List.getElem?_eq_none (by omega)]
end Go.Annal
namespace Go.Proofs.YtjnmoddcodnadaaGreatDoor
open Go.RowKit Go.Annal
theorem Tryz.infoPtr : (Tryz.prog.info? 132).map (fun i => (i.zero, i.size, i.bytes)) = some (some (.pointer none), 1, 8) := by kernel_rfl
set_option maxHeartbeats 4000000 in
set_option maxRecDepth 100000 in
/-- Insert where there is room, ahead of others. -/
theorem insert_shift (g cap n i vb : Nat) (xs : List Value) (p : Value) (w : World) (hown : w.ownsRow 0 132 1 (.slice (some ⟨g, 0, none⟩) n cap) n xs) (hi : i < n) (hroom : n + 1 ≤ cap) (hn : n ≤ 1000) (hv : w.heap[vb]? = some (.cells #[p] 132 (0, 0))) (hvb : vb ≠ g) (hp : p.oneCell' = true) (hx1 : ∀ v ∈ xs, v.oneCell' = true) :
    Calls Tryz.prog 75 #[.slice (some ⟨g, 0, none⟩) n cap, .int .i64 i, .slice (some ⟨vb, 0, none⟩) 1 1] w fun r w' => r = .returned (.slice (some ⟨g, 0, none⟩) (n + 1) cap) ∧
      w' = (w.drew.setCells g (i + 1) (xs.drop i)).setCells g i [p] := by
  obtain ⟨hxl, hrow⟩ := hown
  rcases hrow with ⟨e, _⟩ | ⟨g', cap', cur, e, _, hg, hnc, hcm, hcs, htk⟩
  · simp at e
  injection e with e1 _ e3
  injection e1 with e1
  injection e1 with e1
  subst e1; subst e3
  rw [Nat.mul_one] at hxl hcs htk
  obtain ⟨i0, hi0, hz0, hzs, hzb⟩ := info_parts Tryz.infoPtr
  have hsz : (Tryz.prog.info? 132).map (·.size) = some 1 := by rw [hi0]; simp [hzs]
  have hcell : ∀ (j : Nat) (v : Value), xs[j]? = some v → w.cell? ⟨g, j, none⟩ = some v := fun j v hj => by
    rw [← htk, List.getElem?_take] at hj
    split at hj
    · exact blk_cell' (o := j) hg (by simpa using hj)
    · cases hj
  have hsp : ∀ j, j < cap → (w.cell? ⟨g, j, none⟩).isSome = true := fun j hj => by
    have : j < cur.size := by omega
    rw [blk_cell' (o := j) hg (Array.getElem?_eq_getElem this)]; rfl
  have hfz : ∀ j, w.frozen? ⟨g, j, none⟩ = false := fun j => blk_free hg j
  have hvc : w.cell? ⟨vb, 0, none⟩ = some p := blk_cell' (o := 0) hv rfl
  have hdl : (xs.drop i).length = n - i := by rw [List.length_drop, hxl]
  have hov : ∀ lb cb, (callFunc 121 #[.slice (some ⟨vb, 0, none⟩) 1 1, .slice (some ⟨g, i + 1, none⟩) lb cb]).run Tryz.prog w = .ok (.value (.bool false)) w := fun lb cb => by
    rw [run_callFunc_extern Tryz.func121 (by kernel_rfl) (by kernel_rfl) (by kernel_rfl) (e := Extern.SlicesOverlaps.overlaps #[64, 64] #[4]) (by kernel_rfl),
      Lib.run_overlaps_apart w 64 4 132 Tryz.underlying64 1 (fun _ => by kernel_rfl) ⟨vb, 0, none⟩ ⟨g, i + 1, none⟩ 1 1 lb cb hvb 132 132 1 cap (by simp [World.shape?, hv]) (by simp [World.shape?, hg, hcs]) (by omega) (blk_free hv 0) (blk_free hv 1)]
    rfl
  have hw1 : IntKind.i64.wrap ((i : Int) + 1) = (i : Int) + 1 := by rw [IntKind.wrap_i64]; omega
  have hb1 : (0 : Int) ≤ (i : Int) + 1 := by omega
  have htn : ((i : Int) + 1).toNat = i + 1 := by omega
  have hb2 : ¬ (cap = i + 1) := by omega
  have hb3 : (i : Int) ≤ (n : Int) + 1 := by omega
  have hb4 : ¬ (cap = i) := by omega
  have hin : i ≤ n := by omega
  have hcp1 : ∀ ty dc sc, (Builtin.copy_ #[64, 64] ty #[.slice (some ⟨g, i + 1, none⟩) (n - i) dc, .slice (some ⟨g, i, none⟩) (n + 1 - i) sc]).run Tryz.prog w.drew = .ok (goInt (xs.drop i).length) (w.drew.setCells g (i + 1) (xs.drop i)) := fun ty dc sc =>
    run_copy_cells w.drew _ _ ty 132 g (i + 1) (n - i) dc ⟨g, i, none⟩ (n + 1 - i) sc (xs.drop i) Tryz.underlying64 hsz (by rw [hdl]; simp only [Nat.min_def]; split <;> omega)
      (fun j v hj => by rw [Addr.add_lit]; exact hcell (i + j) v (by rwa [List.getElem?_drop] at hj))
      (fun j hj => hsp _ (by omega)) (fun j hj => hfz _) (fun v hv => hx1 v (List.mem_of_mem_drop hv))
  obtain ⟨W1, hW1⟩ : ∃ W1, W1 = w.drew.setCells g (i + 1) (xs.drop i) := ⟨_, rfl⟩
  have hsp1 : ∀ k, k < cap → (W1.cell? ⟨g, k, none⟩).isSome = true := fun k hk => by
    rw [hW1]
    exact isSome_setCells g (xs.drop i) (i + 1) w.drew (fun j hj => hsp (i + 1 + j) (by rw [hdl] at hj; omega)) k (hsp k hk)
  have hcp2 : ∀ (W : World), (∀ x, W.cell? x = W1.cell? x) → (∀ x, W.frozen? x = W1.frozen? x) → ∀ ty dc, (Builtin.copy_ #[64, 64] ty #[.slice (some ⟨g, i, none⟩) (n + 1 - i) dc, .slice (some ⟨vb, 0, none⟩) 1 1]).run Tryz.prog W = .ok (goInt [p].length) (W.setCells g i [p]) := fun W hWc hWf ty dc =>
    run_copy_cells W _ _ ty 132 g i (n + 1 - i) dc ⟨vb, 0, none⟩ 1 1 [p] Tryz.underlying64 hsz (by simp only [Nat.min_def]; split <;> simp <;> omega)
      (fun j v hj => by
        rw [Addr.add_lit, hWc, hW1, World.cell?_setCells_out g _ _ _ _ (fun h _ => absurd h hvb)]
        cases j with
        | zero => simp at hj; rw [← hj]; exact hvc
        | succ j => simp at hj)
      (fun j hj => by rw [hWc]; simp at hj; exact hsp1 _ (by omega)) (fun j hj => by rw [hWf, hW1, World.frozen?_setCells]; exact hfz _) (by simpa using hp)
  rw [← hW1] at hcp1 ⊢
  have mixed : Tryz.prog.follows .mixedOrders = true := by kernel_rfl
  clear hW1 hsp1 hcell hsp hfz htk hg
  go_enter Tryz.func75, Tryz.ntmps75
  go_wp2_with (simp only [hov])
  go_region_law_o (refine step_copy_runI rfl _ _ 64 64 rfl _ _ (by simp [Act.eval, Act.put]) (by simp [Act.eval, Act.put]) (hcp1 _ _ _) ?_)
  go_wp2_with (at_builtin; refine wpList_copy_runI _ rfl _ _ 64 64 rfl _ _ rfl rfl (hcp2 _ (fun _ => rfl) (fun _ => rfl) _ _) ?_)
  go_ret
  exact ⟨rfl, rfl⟩
set_option maxHeartbeats 4000000 in
set_option maxRecDepth 100000 in
/-- Insert where there is no room, ahead of others: a new row. -/
theorem insert_grow (g cap n i vb : Nat) (xs : List Value) (p : Value) (w : World) (hown : w.ownsRow 0 132 1 (.slice (some ⟨g, 0, none⟩) n cap) n xs) (hi : i < n) (hroom : cap < n + 1) (hn : n ≤ 1000) (hv : w.heap[vb]? = some (.cells #[p] 132 (0, 0))) (hp : p.oneCell' = true) (hx1 : ∀ v ∈ xs, v.oneCell' = true) :
    Calls Tryz.prog 75 #[.slice (some ⟨g, 0, none⟩) n cap, .int .i64 i, .slice (some ⟨vb, 0, none⟩) 1 1] w fun r w' => ∃ G ROW, n + 1 ≤ G ∧ G ≤ maxLen ∧ ROW.size = G ∧ (∀ j v, j < i → xs[j]? = some v → ROW[j]? = some v) ∧ r = .returned (.slice (some ⟨w.heap.size, 0, none⟩) (n + 1) G) ∧
      w' = (((w.alloc (.cells ROW 132)).drew.setCells w.heap.size i [p]).drew).setCells w.heap.size (i + 1) (xs.drop i) := by
  obtain ⟨hxl, hrow⟩ := hown
  rcases hrow with ⟨e, _⟩ | ⟨g', cap', cur, e, _, hg, hnc, hcm, hcs, htk⟩
  · simp at e
  injection e with e1 _ e3
  injection e1 with e1
  injection e1 with e1
  subst e1; subst e3
  rw [Nat.mul_one] at hxl hcs htk
  obtain ⟨i0, hi0, hz0, hzs, hzb⟩ := info_parts Tryz.infoPtr
  have hsz : (Tryz.prog.info? 132).map (·.size) = some 1 := by rw [hi0]; simp [hzs]
  have hcell : ∀ (j : Nat) (v : Value), xs[j]? = some v → w.cell? ⟨g, j, none⟩ = some v := fun j v hj => by
    rw [← htk, List.getElem?_take] at hj
    split at hj
    · exact blk_cell' (o := j) hg (by simpa using hj)
    · cases hj
  have hvc : w.cell? ⟨vb, 0, none⟩ = some p := blk_cell' (o := 0) hv rfl
  have hdl : (xs.drop i).length = n - i := by rw [List.length_drop, hxl]
  have hgw := blk_lt hg
  have hvw := blk_lt hv
  have hgN : g ≠ w.heap.size := by omega
  have hold : (Builtin.firstCells i0.size i (.slice (some ⟨g, 0, none⟩) i cap)).run Tryz.prog w.drew = .ok (xs.take i).toArray w.drew := by
    rw [hzs]
    exact run_firstCells_some w.drew 1 i ⟨g, 0, none⟩ i cap (xs.take i) (by rw [List.length_take]; omega) (fun j v hj => by
      rw [Addr.add_lit, Nat.zero_add]
      rw [List.getElem?_take] at hj
      split at hj
      · exact hcell j v hj
      · cases hj)
  have hik : i + (n + 1 - i) = n + 1 := by omega
  have hkk : (n : Int) + 1 - (i : Int) = ((n + 1 - i : Nat) : Int) := by omega
  obtain ⟨G, hG⟩ : ∃ G, G = grownCap w (n + 1) cap 132 := ⟨_, rfl⟩
  obtain ⟨ROW, hROW⟩ : ∃ ROW : Array Value, ROW = (xs.take i).toArray ++ Builtin.zeroCells (Value.pointer none).cells (n + 1 - i) ++ Builtin.zeroCells (Value.pointer none).cells (G - (n + 1)) := ⟨_, rfl⟩
  have hrz : ∀ ty, (Builtin.append_ #[64, 3] ty #[.slice (some ⟨g, 0, none⟩) i cap, .int .i64 ((n : Int) + 1 - (i : Int))]).run Tryz.prog w =
      .ok (.slice (some ⟨w.heap.size, 0, none⟩) (n + 1) G) (w.drew.alloc (.cells ROW 132)) := fun ty => by
    have h := Lib.run_append_grow_zeros w 64 3 ty 132 i0 _ .i64 .i64 Tryz.underlying64 Tryz.underlying3 hi0 hz0 (some ⟨g, 0, none⟩) i cap (xs.take i) hold (n + 1 - i) (by omega) (by omega) (by omega) (by omega) (by rw [hzb]; omega) (by rw [hzb, hik]; exact growslice_fits (by omega) (by omega))
    rw [hik, ← hG, ← hROW] at h
    rw [hkk]
    exact h
  have hGn : n + 1 ≤ G := by rw [hG]; exact grownCap_ge w _ _ _
  have hGm : G ≤ maxLen := by rw [hG]; exact grownCap_le_maxLen w (n + 1) cap _ (by unfold maxLen; omega)
  have hRs : ROW.size = G := by
    rw [hROW]
    simp [Builtin.zeroCells, Value.cells]
    omega
  have hRt : ∀ j v, j < i → xs[j]? = some v → ROW[j]? = some v := fun j v hj hx => by
    rw [hROW, Array.getElem?_append_left (by simp [Builtin.zeroCells, Value.cells]; omega), Array.getElem?_append_left (by simp; omega)]
    simp [hj, hx]
  clear hROW hG hold hik hkk
  obtain ⟨W1, hW1⟩ : ∃ W1, W1 = w.drew.alloc (.cells ROW 132) := ⟨_, rfl⟩
  rw [← hW1] at hrz
  have hN : ∀ j, j < n + 1 → (W1.cell? ⟨w.heap.size, j, none⟩).isSome = true := fun j hj => by
    rw [hW1, World.cell?_alloc_at (w := w.drew) ROW _ w.heap.size j rfl, Array.getElem?_eq_getElem (by omega)]; rfl
  have hNf : ∀ j, W1.frozen? ⟨w.heap.size, j, none⟩ = false := fun j => by rw [hW1]; exact World.frozen?_alloc_at (w := w.drew) ROW _ w.heap.size j rfl
  have hOg : ∀ j v, w.cell? ⟨g, j, none⟩ = some v → W1.cell? ⟨g, j, none⟩ = some v := fun j v h => by rw [hW1, World.cell?_alloc_past (w := w.drew) _ g j hgw]; exact h
  have hOv : W1.cell? ⟨vb, 0, none⟩ = some p := by rw [hW1, World.cell?_alloc_past (w := w.drew) _ vb 0 hvw]; exact hvc
  have hcpA : ∀ (W : World), (∀ x, W.cell? x = W1.cell? x) → (∀ x, W.frozen? x = W1.frozen? x) → ∀ ty dc, (Builtin.copy_ #[64, 64] ty #[.slice (some ⟨w.heap.size, i, none⟩) (n + 1 - i) dc, .slice (some ⟨vb, 0, none⟩) 1 1]).run Tryz.prog W = .ok (goInt [p].length) (W.setCells w.heap.size i [p]) := fun W hWc hWf ty dc =>
    run_copy_cells W _ _ ty 132 w.heap.size i (n + 1 - i) dc ⟨vb, 0, none⟩ 1 1 [p] Tryz.underlying64 hsz (by simp only [Nat.min_def]; split <;> simp <;> omega)
      (fun j v hj => by
        rw [Addr.add_lit, hWc]
        cases j with
        | zero => simp at hj; rw [← hj]; exact hOv
        | succ j => simp at hj)
      (fun j hj => by rw [hWc]; simp at hj; exact hN _ (by omega)) (fun j hj => by rw [hWf]; exact hNf _) (by simpa using hp)
  have hcpB : ∀ (W : World), (∀ x, W.cell? x = (W1.setCells w.heap.size i [p]).cell? x) → (∀ x, W.frozen? x = (W1.setCells w.heap.size i [p]).frozen? x) → ∀ ty dc sc, (Builtin.copy_ #[64, 64] ty #[.slice (some ⟨w.heap.size, i + 1, none⟩) (n - i) dc, .slice (some ⟨g, i, none⟩) (n - i) sc]).run Tryz.prog W = .ok (goInt (xs.drop i).length) (W.setCells w.heap.size (i + 1) (xs.drop i)) := fun W hWc hWf ty dc sc =>
    run_copy_cells W _ _ ty 132 w.heap.size (i + 1) (n - i) dc ⟨g, i, none⟩ (n - i) sc (xs.drop i) Tryz.underlying64 hsz (by rw [hdl]; simp only [Nat.min_def]; split <;> omega)
      (fun j v hj => by
        rw [Addr.add_lit, hWc, World.cell?_setCells_out _ _ _ _ _ (fun h _ => absurd h hgN)]
        exact hOg _ v (hcell (i + j) v (by rwa [List.getElem?_drop] at hj)))
      (fun j hj => by rw [hWc]; exact isSome_setCells w.heap.size [p] i W1 (fun t ht => hN _ (by simp at ht; omega)) _ (hN _ (by rw [hdl] at hj; omega)))
      (fun j hj => by rw [hWf, World.frozen?_setCells]; exact hNf _) (fun v hv => hx1 v (List.mem_of_mem_drop hv))
  subst hW1
  have hE1 : ∀ x, ((w.alloc (.cells ROW 132)).drew).cell? x = (w.drew.alloc (.cells ROW 132)).cell? x := fun x => rfl
  have hE2 : ∀ x, ((w.alloc (.cells ROW 132)).drew).frozen? x = (w.drew.alloc (.cells ROW 132)).frozen? x := fun x => rfl
  have hF1 : ∀ x, (((w.alloc (.cells ROW 132)).drew.setCells w.heap.size i [p]).drew).cell? x = ((w.drew.alloc (.cells ROW 132)).setCells w.heap.size i [p]).cell? x := fun x => rfl
  have hF2 : ∀ x, (((w.alloc (.cells ROW 132)).drew.setCells w.heap.size i [p]).drew).frozen? x = ((w.drew.alloc (.cells ROW 132)).setCells w.heap.size i [p]).frozen? x := fun x => rfl
  have hw1 : IntKind.i64.wrap ((i : Int) + 1) = (i : Int) + 1 := by rw [IntKind.wrap_i64]; omega
  have hb1 : (0 : Int) ≤ (i : Int) + 1 := by omega
  have hin : i ≤ n := by omega
  have htn : ((i : Int) + 1).toNat = i + 1 := by omega
  have hb3 : (i : Int) ≤ (n : Int) := by omega
  have hGi : ¬ (G = i) := by omega
  have hGim : ¬ (G = i + 1) := by omega
  have hci : ¬ (cap = i) := by omega
  have hz3 : (cap : Int) < (n : Int) + 1 := by omega
  have HG : Hid (n + 1 ≤ G ∧ G ≤ maxLen ∧ ROW.size = G ∧ (∀ j v, j < i → xs[j]? = some v → ROW[j]? = some v)) := ⟨hGn, hGm, hRs, hRt⟩
  have hG63 : G ≤ 9223372036854775807 := by unfold maxLen at hGm; omega
  have mixed : Tryz.prog.follows .mixedOrders = true := by kernel_rfl
  clear hRs hRt hGm hN hNf hOg hOv hcell htk hg hv hvc hcs
  go_enter Tryz.func75, Tryz.ntmps75
  go_wp2_with (first
    | (at_builtin; refine Lib.wpList_append_run _ rfl _ _ _ _ rfl _ _ rfl rfl _ _ (hrz _) ?_)
    | (at_builtin; refine wpList_copy_runI _ rfl _ _ 64 64 rfl _ _ rfl rfl (hcpA _ hE1 hE2 _ _) ?_)
    | (at_builtin; refine wpList_copy_runI _ rfl _ _ 64 64 rfl _ _ rfl rfl (hcpB _ (fun _ => rfl) (fun _ => rfl) _ _ _) ?_))
  go_region_law_o (refine step_copy_runI rfl _ _ 64 64 rfl (.slice (some ⟨w.heap.size, i + 1, none⟩) (n - i) (G - (i + 1))) (.slice (some ⟨g, i, none⟩) (n - i) (cap - i)) (by simp [Act.eval, Act.put]) (by simp [Act.eval, Act.put]) (hcpB _ hF1 hF2 _ _ _) ?_)
  go_wp2
  go_ret
  exact ⟨G, ROW, HG.out.1, HG.out.2.1, HG.out.2.2.1, HG.out.2.2.2, rfl, rfl⟩
set_option maxHeartbeats 1000000 in
set_option maxRecDepth 100000 in
/-- Insert behind all others. -/
theorem insert_end (v : Value) (ad : Option Addr) (cap n vb : Nat) (xs : List Value) (p : Value) (w : World) (hv' : v = .slice ad n cap) (hown : w.ownsRow 0 132 1 v n xs) (hn : n ≤ 1000) (hv : w.heap[vb]? = some (.cells #[p] 132 (0, 0))) (hp : p.oneCell' = true) :
    Calls Tryz.prog 75 #[v, .int .i64 n, .slice (some ⟨vb, 0, none⟩) 1 1] w fun r w' => ∃ g' cap', r = .returned (.slice (some ⟨g', 0, none⟩) (n + 1) cap') ∧
      w'.ownsRow 0 132 1 (.slice (some ⟨g', 0, none⟩) (n + 1) cap') (n + 1) (xs ++ [p]) ∧ Turn (fun k => v.ownBlock = some k) w w' ∧ (v.ownBlock = some g' ∨ w.heap.size ≤ g') := by
  obtain ⟨i0, hi, hz0, hz1, hz2⟩ := info_parts Tryz.infoPtr
  have hnc : n ≤ cap := by
    rcases hown.2 with ⟨e, h0⟩ | ⟨g, c, cur, e, _, _, h, _⟩
    · omega
    · rw [hv'] at e; injection e with _ _ e3; omega
  have hx1 : ∀ u ∈ [p], u.oneCell' = true := by simpa using hp
  have mixed : Tryz.prog.follows .mixedOrders = true := by kernel_rfl
  subst hv'
  by_cases hc : cap = n
  · subst hc
    go_enter Tryz.func75, Tryz.ntmps75
    go_wp2_with (at_builtin; refine wpList_append_lies _ rfl (.tmp 23) (.tmp 24) 64 rfl 0 132 i0 _ 1 8 Tryz.underlying64 hi hz0 hz1 hz2 rfl (by decide) (.slice ad cap cap) cap xs rfl hown ⟨vb, 0, none⟩ 1 1 [p] rfl rfl (World.news_of_block (cs := #[p]) hv) hx1 (by decide) (by unfold maxLen; omega) (by omega) (Nat.zero_le _) w.heap.size (by simp) ?_; intro g cap1 w1 hown1 hg1 hat hlt)
    go_ret
    exact ⟨g, cap1, rfl, hown1, Turn.of_grown (Turn.refl _ w) hg1 (fun k hk _ => hk), hat.imp id (fun h => by omega)⟩
  · go_enter Tryz.func75, Tryz.ntmps75
    go_wp2_with (at_builtin; refine wpList_append_lies _ rfl (.tmp 23) (.tmp 24) 64 rfl 0 132 i0 _ 1 8 Tryz.underlying64 hi hz0 hz1 hz2 rfl (by decide) (.slice ad n cap) n xs rfl hown ⟨vb, 0, none⟩ 1 1 [p] rfl rfl (World.news_of_block (cs := #[p]) hv) hx1 (by decide) (by unfold maxLen; omega) (by omega) (Nat.zero_le _) w.heap.size (by simp) ?_; intro g cap1 w1 hown1 hg1 hat hlt)
    go_ret
    exact ⟨g, cap1, rfl, hown1, Turn.of_grown (Turn.refl _ w) hg1 (fun k hk _ => hk), hat.imp id (fun h => by omega)⟩
end Go.Proofs.YtjnmoddcodnadaaGreatDoor
namespace Go.Annal
open Go.RowKit Go.Proofs
theorem take_ins {α : Type} (xs : List α) (p : α) (i j : Nat) (hi : i ≤ xs.length) : (xs.take i ++ p :: xs.drop i)[j]? = if j < i then xs[j]? else if j = i then some p else xs[j - 1]? := by
  have hl : (xs.take i).length = i := by simp; omega
  by_cases h : j < i
  · rw [if_pos h, List.getElem?_append_left (by omega), List.getElem?_take, if_pos h]
  · rw [if_neg h, List.getElem?_append_right (by omega), hl]
    by_cases h' : j = i
    · subst h'; simp
    · rw [if_neg h', show j - i = (j - 1 - i) + 1 by omega, List.getElem?_cons_succ, List.getElem?_drop]
      congr 1; omega
end Go.Annal
namespace Go.Proofs.YtjnmoddcodnadaaGreatDoor
open Go.RowKit Go.Annal
/-- Insert of one value into a row of its own. -/
theorem insert_any (v : Value) (ad : Option Addr) (cap n i vb : Nat) (xs : List Value) (p : Value) (w : World) (hv' : v = .slice ad n cap) (hown : w.ownsRow 0 132 1 v n xs) (hi : i ≤ n) (hn : n ≤ 1000) (hv : w.heap[vb]? = some (.cells #[p] 132 (0, 0))) (hvb : v.ownBlock ≠ some vb) (hp : p.oneCell' = true) (hx1 : ∀ u ∈ xs, u.oneCell' = true) :
    Calls Tryz.prog 75 #[v, .int .i64 i, .slice (some ⟨vb, 0, none⟩) 1 1] w fun r w' => ∃ g' cap', r = .returned (.slice (some ⟨g', 0, none⟩) (n + 1) cap') ∧
      w'.ownsRow 0 132 1 (.slice (some ⟨g', 0, none⟩) (n + 1) cap') (n + 1) (xs.take i ++ p :: xs.drop i) ∧ Turn (fun k => v.ownBlock = some k) w w' ∧ (v.ownBlock = some g' ∨ w.heap.size ≤ g') := by
  have hxl : xs.length = n := by have := hown.1; omega
  rcases Nat.eq_or_lt_of_le hi with rfl | hlt
  · refine (insert_end v ad cap i vb xs p w hv' hown hn hv hp).mono ?_
    rintro r w' ⟨g', cap', rfl, h1, h2, h3⟩
    refine ⟨g', cap', rfl, ?_, h2, h3⟩
    rw [List.take_of_length_le (by omega), List.drop_of_length_le (by omega)]
    exact h1
  · rcases hown.2 with ⟨_, h0⟩ | ⟨g, c, cur, e, _, hg, hnc, hcm, hcs, htk⟩
    · omega
    · have hcell : ∀ (j : Nat), j < n → w.cell? ⟨g, j, none⟩ = xs[j]? := fun j hj => by
        rw [Nat.mul_one] at htk hcs
        have hjc : j < cur.size := by omega
        rw [← htk, List.getElem?_take, if_pos hj, Array.getElem?_toList, blk_cell' (o := j) hg (Array.getElem?_eq_getElem hjc), Array.getElem?_eq_getElem hjc]
      rw [Nat.mul_one] at hcs htk
      rw [e] at hown hvb ⊢
      have hvg : vb ≠ g := fun h => hvb (by rw [h]; rfl)
      have hdl : (xs.drop i).length = n - i := by rw [List.length_drop, hxl]
      have hgw := blk_lt hg
      by_cases hroom : n + 1 ≤ c
      · refine (insert_shift g c n i vb xs p w hown hlt hroom hn hv hvg hp hx1).mono ?_
        rintro r w' ⟨rfl, rfl⟩
        obtain ⟨cs1, hb1, hs1⟩ := setCells_blk (xs.drop i) (i + 1) (w := w.drew) (b := g) hg
        obtain ⟨cs2, hb2, hs2⟩ := setCells_blk [p] i hb1
        have hT : Turn (fun k => (Value.slice (some ⟨g, 0, none⟩) n c).ownBlock = some k) w ((w.drew.setCells g (i + 1) (xs.drop i)).setCells g i [p]) := Turn.setCells (S := fun k => (Value.slice (some ⟨g, 0, none⟩) n c).ownBlock = some k) (fun _ => rfl) _ _ (Turn.setCells (S := fun k => (Value.slice (some ⟨g, 0, none⟩) n c).ownBlock = some k) (fun _ => rfl) _ _ (Turn.refl _ w).drew)
        refine ⟨g, c, rfl, owns_of_cells hb2 (Nat.zero_le _) hroom hcm (by omega) (by simp; omega) (fun j hj => ?_), hT, .inl rfl⟩
        rw [take_ins xs p i j (by omega)]
        have hs : ∀ k, k < c → (w.drew.cell? ⟨g, k, none⟩).isSome = true := fun k hk => by
          have : k < cur.size := by omega
          rw [blk_cell' (w := w.drew) (o := k) hg (Array.getElem?_eq_getElem this)]; rfl
        have hin1 := World.cell?_setCells_in g (xs.drop i) (i + 1) w.drew (fun k hk => hs _ (by omega))
        have hs2' : ∀ k, k < [p].length → ((w.drew.setCells g (i + 1) (xs.drop i)).cell? ⟨g, i + k, none⟩).isSome = true := fun k hk => isSome_setCells g (xs.drop i) (i + 1) w.drew (fun k hk => hs _ (by omega)) _ (hs _ (by simp at hk; omega))
        have hin2 := World.cell?_setCells_in g [p] i (w.drew.setCells g (i + 1) (xs.drop i)) hs2'
        by_cases h1 : j < i
        · rw [if_pos h1, World.cell?_setCells_out _ _ _ _ _ (fun _ _ => .inl h1), World.cell?_setCells_out _ _ _ _ _ (fun _ _ => .inl (by show j < i + 1; omega))]
          exact hcell j (by omega)
        · rw [if_neg h1]
          by_cases h2 : j = i
          · subst h2
            rw [if_pos rfl]
            exact hin2 0 (by simp)
          · rw [if_neg h2, World.cell?_setCells_out _ _ _ _ _ (fun _ _ => .inr (by simp; omega))]
            have := hin1 (j - (i + 1)) (by omega)
            rw [show i + 1 + (j - (i + 1)) = j by omega] at this
            rw [this, ← List.getElem?_eq_getElem (l := xs.drop i), List.getElem?_drop]
            congr 1; omega
      · refine (insert_grow g c n i vb xs p w hown hlt (by omega) hn hv hp hx1).mono ?_
        rintro r w' ⟨G, ROW, hG1, hG2, hR1, hR2, rfl, rfl⟩
        obtain ⟨cs1, hb1, hs1⟩ := setCells_blk [p] i (w := (w.alloc (.cells ROW 132)).drew) (b := w.heap.size) (heap_alloc_new w _)
        obtain ⟨cs2, hb2, hs2⟩ := setCells_blk (xs.drop i) (i + 1) (w := ((w.alloc (.cells ROW 132)).drew.setCells w.heap.size i [p]).drew) hb1
        have hT : Turn (fun k => (Value.slice (some ⟨g, 0, none⟩) n c).ownBlock = some k) w ((((w.alloc (.cells ROW 132)).drew.setCells w.heap.size i [p]).drew).setCells w.heap.size (i + 1) (xs.drop i)) := Turn.setCells (fun h => by omega) _ _ (Turn.setCells (fun h => by omega) _ _ ((Turn.refl _ w).alloc _).drew).drew
        refine ⟨w.heap.size, G, rfl, owns_of_cells hb2 (Nat.zero_le _) hG1 hG2 (by omega) (by simp; omega) (fun j hj => ?_), hT, .inr (Nat.le_refl _)⟩
        rw [take_ins xs p i j (by omega)]
        have hs : ∀ k, k < G → ((w.alloc (.cells ROW 132)).drew.cell? ⟨w.heap.size, k, none⟩).isSome = true := fun k hk => by
          have : k < ROW.size := by omega
          rw [blk_cell' (w := (w.alloc (.cells ROW 132)).drew) (o := k) (heap_alloc_new w _) (Array.getElem?_eq_getElem this)]; rfl
        have hin1 := World.cell?_setCells_in w.heap.size [p] i (w.alloc (.cells ROW 132)).drew (fun k hk => hs _ (by simp at hk; omega))
        have hs2' : ∀ k, k < (xs.drop i).length → ((((w.alloc (.cells ROW 132)).drew.setCells w.heap.size i [p]).drew).cell? ⟨w.heap.size, i + 1 + k, none⟩).isSome = true := fun k hk => isSome_setCells w.heap.size [p] i (w.alloc (.cells ROW 132)).drew (fun k hk => hs _ (by simp at hk; omega)) _ (hs _ (by omega))
        have hin2 := World.cell?_setCells_in w.heap.size (xs.drop i) (i + 1) _ hs2'
        by_cases h1 : j < i
        · rw [if_pos h1, World.cell?_setCells_out _ _ _ _ _ (fun _ _ => .inl (by show j < i + 1; omega))]
          show ((w.alloc (.cells ROW 132)).drew.setCells w.heap.size i [p]).cell? _ = _
          rw [World.cell?_setCells_out _ _ _ _ _ (fun _ _ => .inl h1)]
          have hj : j < xs.length := by omega
          rw [List.getElem?_eq_getElem hj]
          exact blk_cell' (w := (w.alloc (.cells ROW 132)).drew) (o := j) (heap_alloc_new w _) (hR2 j _ h1 (List.getElem?_eq_getElem hj))
        · rw [if_neg h1]
          by_cases h2 : j = i
          · subst h2
            rw [if_pos rfl, World.cell?_setCells_out _ _ _ _ _ (fun _ _ => .inl (by show j < j + 1; omega))]
            exact hin1 0 (by simp)
          · rw [if_neg h2]
            have := hin2 (j - (i + 1)) (by omega)
            rw [show i + 1 + (j - (i + 1)) = j by omega] at this
            rw [this, ← List.getElem?_eq_getElem (l := xs.drop i), List.getElem?_drop]
            congr 1; omega
end Go.Proofs.YtjnmoddcodnadaaGreatDoor
namespace Go.Proofs.YtjnmoddcodnadaaGreatDoor
open Go.RowKit Go.Annal
set_option maxHeartbeats 400000 in
theorem clone_any (s : ByteArray) (w : World) (h : s.size ≤ 1000000000) :
    Calls Tryz.prog 74 #[.string s] w fun r w' => r = .returned (.string s) ∧ Below w.heap.size w w' := by
  have C : Hid (type_of% (Any.stringslite_Clone Tryz.cloneL s w (by omega))) := Any.stringslite_Clone Tryz.cloneL s w (by omega)
  go_enter Tryz.func74, Tryz.ntmps74
  go_wp2_with (go_at_call 120; refine Calls.mono C.out ?_; rintro e wx ⟨rfl, hw⟩)
  go_ret
  exact ⟨rfl, hw⟩
end Go.Proofs.YtjnmoddcodnadaaGreatDoor
