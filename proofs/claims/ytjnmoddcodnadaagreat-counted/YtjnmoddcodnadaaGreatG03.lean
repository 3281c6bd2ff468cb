import Derived.Test.YtjnmoddcodnadaaGreatG02
import Derived.Lib.OwnBridge
import Derived.Test.YtjnmoddcodnadaaGreatG00
set_option linter.unusedVariables false
set_option linter.unusedSimpArgs false
namespace Go.Annal
open Go.RowKit Go.Sort Go.Proofs
section
variable {α : Type} {enc : α → List Value} {k : Nat}
theorem flat_len (hk : ∀ x, (enc x).length = k) (l : List α) : (l.flatMap enc).length = l.length * k := by
  induction l with
  | nil => simp
  | cons x r ih => rw [List.flatMap_cons, List.length_append, ih, hk, List.length_cons, Nat.add_mul]; omega
theorem flat_get (hk : ∀ x, (enc x).length = k) (l : List α) : ∀ (j : Nat) (hj : j < l.length) (o : Nat), o < k → (l.flatMap enc)[j * k + o]? = (enc l[j])[o]? := by
  induction l with
  | nil => intro j hj; simp at hj
  | cons x r ih =>
    intro j hj o ho
    rw [List.flatMap_cons]
    cases j with
    | zero => rw [List.getElem?_append_left (by rw [hk]; omega)]; simp
    | succ j =>
      have hj' : j < r.length := by simpa using hj
      rw [List.getElem?_append_right (by rw [hk, Nat.add_mul]; omega), hk, show (j + 1) * k + o - k = j * k + o by rw [Nat.add_mul]; omega, ih j hj' o ho]
      simp
end
section
variable {α : Type} [Inhabited α] {enc : α → List Value} {k : Nat}
theorem flatK_eq (h0 : 0 < k) (hk : ∀ x, (enc x).length = k) (d : Array α) : flatK enc k d = (d.toList.flatMap enc).toArray := by
  apply Array.ext_getElem?
  intro t
  by_cases ht : t < d.size * k
  · have htd : t / k < d.size := Nat.div_lt_of_lt_mul (by rwa [Nat.mul_comm] at ht)
    have h1 : (flatK enc k d)[t]? = some ((enc d[t / k]!)[t % k]!) := by
      rw [Array.getElem?_eq_getElem (by simpa using ht), ← getElem!_pos (flatK enc k d) t (by simpa using ht), get_flatK enc k d t ht]
    have h2 := flat_get hk d.toList (t / k) (by simpa using htd) (t % k) (Nat.mod_lt _ h0)
    rw [Nat.div_add_mod'] at h2
    rw [h1, List.getElem?_toArray, h2, getElem!_pos d (t / k) htd]
    have hlt : t % k < (enc d[t / k]).length := by rw [hk]; exact Nat.mod_lt _ h0
    simp [getElem!_pos, hlt]
  · rw [Array.getElem?_eq_none (by simp; omega), List.getElem?_toArray, List.getElem?_eq_none (by rw [flat_len hk]; simp; omega)]
theorem holdsK_of_owns (h0 : 0 < k) (hk : ∀ x, (enc x).length = k) {w : World} {B : Nat} {e : TypeId} {g cap : Nat} {l : List α} (h : w.ownsRow B e k (.slice (some ⟨g, 0, none⟩) l.length cap) l.length (l.flatMap enc)) : HoldsK enc k w g 0 l.toArray := by
  unfold HoldsK
  rw [flatK_eq h0 hk]
  intro j hj
  have hj' : j < l.length * k := by simpa [flat_len hk] using hj
  refine ⟨?_, h.frozenAt _⟩
  rw [Nat.zero_add, h.cellAt j hj']
  have hjl : j < (l.flatMap enc).length := by rw [flat_len hk]; exact hj'
  rw [List.getElem?_eq_getElem (by simpa using hjl)]
  simp only [id]
  congr 1
  rw [getElem!_pos _ j (by simpa using hjl)]
  simp
theorem owns_sortK (h0 : 0 < k) (hk : ∀ x, (enc x).length = k) {w : World} {B : Nat} {e : TypeId} {g cap n q : Nat} {xs : List Value} {d : Array α} {os : Array Obj} (h : w.ownsRow B e k (.slice (some ⟨g, 0, none⟩) n cap) n xs) (hd : d.size = n) :
    (sortWorldK enc k w g 0 q d os).ownsRow B e k (.slice (some ⟨g, 0, none⟩) n cap) n (d.toList.flatMap enc) ∧ w.grownBy (sortWorldK enc k w g 0 q d os) (some g) := by
  rcases h.2 with ⟨e0, _⟩ | ⟨g', cap', cur, e0, hb, hg, hn, hm, hs, ht⟩
  · cases e0
  · injection e0 with e1 _ e3
    injection e1 with e1
    injection e1 with e1
    subst e1; subst e3
    have hgl : g < w.heap.size := (Array.getElem?_eq_some_iff.1 hg).1
    have hflen : (d.toList.flatMap enc).length = n * k := by rw [flat_len hk]; simp [hd]
    constructor
    · refine ⟨hflen, .inr ⟨g, cap, putCells id 0 (flatK enc k d) cur, rfl, hb, ?_, hn, hm, by simpa [putCells] using hs, ?_⟩⟩
      · unfold sortWorldK grow putRowK putRow mapBlock Sort.ahead
        show (w.heap.modify g _ ++ os)[g]? = _
        rw [Array.getElem?_append_left (by simpa using hgl)]
        simp [Array.getElem?_modify, hg, onCells]
      · apply List.ext_getElem?
        intro j
        rw [List.getElem?_take, Array.getElem?_toList]
        by_cases hj : j < n * k
        · have hnk : n * k ≤ cap * k := Nat.mul_le_mul_right k hn
          have hjc : j < cur.size := by omega
          simp only [if_pos hj, putCells, Array.getElem?_mapIdx, Array.getElem?_eq_getElem hjc, Option.map_some]
          rw [if_pos (by simp [hd]; omega), flatK_eq h0 hk]
          simp only [id, Nat.sub_zero]
          rw [getElem!_pos _ j (by simpa [hflen] using hj), List.getElem?_eq_getElem (by omega)]
          simp
        · rw [if_neg hj, List.getElem?_eq_none (by omega)]
    · refine ⟨rfl, rfl, rfl, by simp [sortWorldK, grow, putRowK, putRow, mapBlock, Sort.ahead], fun j hj hne => ?_⟩
      have hjg : g ≠ j := fun e => hne (by rw [e])
      unfold sortWorldK grow putRowK putRow mapBlock Sort.ahead
      show (w.heap.modify g _ ++ os)[j]? = _
      rw [Array.getElem?_append_left (by simpa using hj)]
      simp [Array.getElem?_modify, hjg]
end
end Go.Annal
namespace Go.Annal
open Go.Sort Go.Proofs
/-- The order of items and rows: by days, of one day by numbers. -/
def ordI (d1 e1 d2 e2 : Int) : Bool := decide (d1 < d2 ∨ (d1 = d2 ∧ e1 < e2))
end Go.Annal
namespace Go.Proofs.YtjnmoddcodnadaaGreat
open Go.RowKit Go.Annal Go.Sort Go.Shelf
def cfR (x y : Rw) : Int := orI (cmpI x.2.1 y.2.1) (cmpI x.1 y.1)
def cfT (x y : It) : Int := orI (cmpI x.2.1 y.2.1) (cmpI x.1 y.1)
theorem lt_ord (d1 e1 d2 e2 : Int) : decide (orI (cmpI d1 d2) (cmpI e1 e2) < 0) = ordI d1 e1 d2 e2 := by
  unfold orI cmpI ordI
  rcases (show d1 < d2 ∨ d2 < d1 ∨ d1 = d2 by omega) with h | h | h
  · simp [h]
  · have h1 : ¬ d1 < d2 := by omega
    have h2 : d1 ≠ d2 := by omega
    simp [h, h1, h2]
  · subst h
    rcases (show e1 < e2 ∨ e2 < e1 ∨ e1 = e2 by omega) with h' | h' | h'
    · simp [h']
    · have h1 : ¬ e1 < e2 := by omega
      simp [h', h1]
    · subst h'; simp
theorem ltR (x y : Rw) : ltOf cfR x y = ordI x.2.1 x.1 y.2.1 y.1 := lt_ord _ _ _ _
theorem ltT (x y : It) : ltOf cfT x y = ordI x.2.1 x.1 y.2.1 y.1 := lt_ord _ _ _ _
theorem swoR : SWO (ltOf cfR) where
  irrefl x := by rw [ltR]; simp [ordI]
  trans x y z h1 h2 := by rw [ltR] at *; simp [ordI] at *; omega
  ntrans x y z h1 h2 := by rw [ltR] at *; simp [ordI] at *; omega
theorem swoT : SWO (ltOf cfT) where
  irrefl x := by rw [ltT]; simp [ordI]
  trans x y z h1 h2 := by rw [ltT] at *; simp [ordI] at *; omega
  ntrans x y z h1 h2 := by rw [ltT] at *; simp [ordI] at *; omega
theorem aggRow (w : World) : (isAgg 114).run Tryz.prog w = .ok true w := by kernel_rfl
theorem sizeRow (w : World) : (Go.sizeOf 114).run Tryz.prog w = .ok 4 w := by kernel_rfl
theorem aggItem (w : World) : (isAgg 53).run Tryz.prog w = .ok true w := by kernel_rfl
theorem sizeItem (w : World) : (Go.sizeOf 53).run Tryz.prog w = .ok 3 w := by kernel_rfl

/-- No later one comes ahead of an earlier one. -/
def SortedBy {α : Type} (lt : α → α → Bool) (l : List α) : Prop := l.Pairwise (fun x y => lt y x = false)
theorem sortedBy_of {α : Type} [Inhabited α] (lt : α → α → Bool) (d : Array α) (h : SortedIn lt 0 d.size d) : SortedBy lt d.toList := by
  unfold SortedBy
  rw [List.pairwise_iff_getElem]
  intro i j hi hj hij
  have hi' : i < d.size := by simpa using hi
  have hj' : j < d.size := by simpa using hj
  have := h i j (Nat.zero_le _) hij hj'
  rw [getElem!_pos d i hi', getElem!_pos d j hj'] at this
  simpa using this
theorem perm_of {α : Type} [Inhabited α] (d d' : Array α) (h : PermIn 0 d.size d d') : d'.toList.Perm d.toList := by
  obtain ⟨h1, _, h3⟩ := h
  have e1 : d'.extract 0 d.size = d' := by rw [← h1]; simp
  have e2 : d.extract 0 d.size = d := by simp
  rwa [e1, e2] at h3

theorem sortRows_any (B g cap : Nat) (l : List Rw) (w : World) (hown : w.ownsRow B 114 4 (.slice (some ⟨g, 0, none⟩) l.length cap) l.length (cells4 l)) (hn : l.length ≤ 1000) :
    Calls Tryz.prog 78 #[.slice (some ⟨g, 0, none⟩) l.length cap, .func (.func 79) #[] #[]] w fun r w' => r = .returned (.tuple #[]) ∧ ∃ l' : List Rw, l'.Perm l ∧ SortedBy (ltOf cfR) l' ∧
      w'.ownsRow B 114 4 (.slice (some ⟨g, 0, none⟩) l.length cap) l.length (cells4 l') ∧ w.grownBy w' (some g) := by
  have hk : ∀ x : Rw, (enc4 x).length = 4 := fun _ => rfl
  have hgl : g < w.heap.size := (hown.lt g rfl).2
  have hc : CmpLays Tryz.prog 79 #[] enc4 4 cfR g 0 l.toArray.size w := fun m os dk _ x y => by
    have := orderRow_any x.1 x.2.1 x.2.2.1 x.2.2.2 y.1 y.2.1 y.2.2.1 y.2.2.2 (sortWorldK enc4 4 w g 0 m dk os)
    exact this
  have h := AnyQ.slices_SortFunc (P := Tryz.prog) Tryz.sortRowsL 4 aggRow sizeRow enc4 hk (fun x v hv => cells4_one [x] v (by simpa [cells4] using hv)) cfR swoR 79 #[] g 0 cap l.toArray w (enters_of Tryz.func79 (by kernel_rfl) rfl) hc (holdsK_of_owns (by decide) hk hown) hgl (by simp; omega)
  simp only [List.size_toArray] at h
  refine Calls.mono h ?_
  rintro e w' ⟨rfl, d', n, os, hp, hs, rfl⟩
  have hsz : d'.size = l.length := by have := hp.1; simpa using this
  have ho := owns_sortK (enc := enc4) (by decide) hk (q := n) (os := os) hown hsz
  refine ⟨rfl, d'.toList, by have := perm_of l.toArray d' (by simpa using hp); simpa using this, sortedBy_of _ d' (by rw [hsz]; exact hs), ho.1, ho.2⟩

theorem sortItems_any (B g cap : Nat) (l : List It) (w : World) (hown : w.ownsRow B 53 3 (.slice (some ⟨g, 0, none⟩) l.length cap) l.length (cells3 l)) (hn : l.length ≤ 1000000) :
    Calls Tryz.prog 47 #[.slice (some ⟨g, 0, none⟩) l.length cap, .func (.func 48) #[] #[]] w fun r w' => r = .returned (.tuple #[]) ∧ ∃ l' : List It, l'.Perm l ∧ SortedBy (ltOf cfT) l' ∧
      w'.ownsRow B 53 3 (.slice (some ⟨g, 0, none⟩) l.length cap) l.length (cells3 l') ∧ w.grownBy w' (some g) := by
  have hk : ∀ x : It, (enc3 x).length = 3 := fun _ => rfl
  have hgl : g < w.heap.size := (hown.lt g rfl).2
  have hc : CmpLays Tryz.prog 48 #[] enc3 3 cfT g 0 l.toArray.size w := fun m os dk _ x y => by
    have := order_any x.1 x.2.1 x.2.2 y.1 y.2.1 y.2.2 (sortWorldK enc3 3 w g 0 m dk os)
    exact this
  have h := AnyQ.slices_SortFunc (P := Tryz.prog) Tryz.sortItemsL 3 aggItem sizeItem enc3 hk (fun x v hv => cells3_one [x] v (by simpa [cells3] using hv)) cfT swoT 48 #[] g 0 cap l.toArray w (enters_of Tryz.func48 (by kernel_rfl) rfl) hc (holdsK_of_owns (by decide) hk hown) hgl (by simp; omega)
  simp only [List.size_toArray] at h
  refine Calls.mono h ?_
  rintro e w' ⟨rfl, d', n, os, hp, hs, rfl⟩
  have hsz : d'.size = l.length := by have := hp.1; simpa using this
  have ho := owns_sortK (enc := enc3) (by decide) hk (q := n) (os := os) hown hsz
  refine ⟨rfl, d'.toList, by have := perm_of l.toArray d' (by simpa using hp); simpa using this, sortedBy_of _ d' (by rw [hsz]; exact hs), ho.1, ho.2⟩

/-- No item: nothing turns. -/
theorem sortItems_none (p : Option Addr) (cap : Nat) (fv : Value) (w : World) :
    Calls Tryz.prog 47 #[.slice p 0 cap, fv] w fun r w' => r = .returned (.tuple #[]) ∧ w' = w :=
  AnyF.slices_SortFunc_none (P := Tryz.prog) Tryz.sortItemsL p cap fv w
end Go.Proofs.YtjnmoddcodnadaaGreat
namespace Go.Annal
open Go.RowKit
/-- An append in a region, kept whole while the region is walked. -/
def AppendIn (F : Fence) (n : Nat) (P : Program) (o : Oper) (a : Act) (w : World) (K : Act → World → Prop) (Q : Exit → Act → World → Prop) : Prop := Oper.wpIn F n P o a w K Q
theorem appendIn_pre {F : Fence} {n : Nat} {P : Program} {d : Option Tmp} {s x : Operand} {t ty : TypeId} {pos : String} {af : Array Edge} {a : Act} {w : World} {K : Act → World → Prop} {Q : Exit → Act → World → Prop} :
    Oper.wpIn F n P { dst := d, op := .call { callee := .builtin .append, args := #[s, x], argTypes := #[t, t] }, type := ty, pos := pos, after := af, guard := none } a w K Q = AppendIn F n P { dst := d, op := .call { callee := .builtin .append, args := #[s, x], argTypes := #[t, t] }, type := ty, pos := pos, after := af, guard := none } a w K Q := rfl
theorem appendIn_run {F : Fence} {n : Nat} {P : Program} {d : Option Tmp} {s x : Operand} {t ty : TypeId} {pos : String} {af : Array Edge} {a : Act} {w : World} {K : Act → World → Prop} {Q : Exit → Act → World → Prop} (v xv v' : Value) (w' : World)
    (hs : a.eval s = v) (hx : a.eval x = xv) (hrun : (Builtin.append_ #[t, t] ty #[v, xv]).run P w = .ok v' w') (hK : K (a.put d v') w') :
    AppendIn F n P { dst := d, op := .call { callee := .builtin .append, args := #[s, x], argTypes := #[t, t] }, type := ty, pos := pos, after := af, guard := none } a w K Q := by
  unfold AppendIn Oper.wpIn
  refine ⟨?_, ?_⟩
  · simp [Oper.about, resolve, Target.leads, Sem.run_pure]
  · rw [Oper.semAt_plain F _ _ (by intro c hc'; cases hc')]
    simp [execOp, resolve, invoke, builtin, hs, hx, hrun, Result.andThen]
    exact hK
theorem wpIn_at_zero {F : Fence} {n : Nat} {P : Program} {o : Oper} {l : List Oper} {h : 0 < (o :: l).toArray.size} {a : Act} {w : World} {K : Act → World → Prop} {Q : Exit → Act → World → Prop} : Oper.wpIn F n P ((o :: l).toArray[0]'h) a w K Q = Oper.wpIn F n P o a w K Q := rfl
theorem wpIn_at_succ {F : Fence} {m : Nat} {P : Program} {o : Oper} {l : List Oper} {n : Nat} {h : n + 1 < (o :: l).toArray.size} {a : Act} {w : World} {K : Act → World → Prop} {Q : Exit → Act → World → Prop} : Oper.wpIn F m P ((o :: l).toArray[n + 1]'h) a w K Q = Oper.wpIn F m P (l.toArray[n]'(by simpa using h)) a w K Q := rfl
end Go.Annal
