import Derived.Test.YtjnmoddcodnadaaGreatDoorG10
import Derived.Test.YtjnmoddcodnadaaGreatDoorG04
set_option linter.unusedVariables false
set_option linter.unusedSimpArgs false
namespace Go.Annal
open Go.Proofs.YtjnmoddcodnadaaGreatDoor
/-- What a row says, its sum aside. -/
def itmOf (x : Rw) : It := (x.1, x.2.1, x.2.2.1)
theorem addUpF_itm (acc : Int) (l : List Rw) : (addUpF acc l).map itmOf = l.map itmOf := by
  induction l generalizing acc with
  | nil => rfl
  | cons y r ih => simp only [addUpF, List.map_cons, ih]; rfl
/-- The numbers of the items that block i holds. -/
def rng (i : Nat) : List Nat := List.range' (i + 1 - low (i + 1)) (low (i + 1))
theorem rng_chain : ∀ m : Fin 60, ((chain (m.1 + 1 - low (m.1 + 1)) m.1).flatMap rng ++ [m.1]).isPerm (rng m.1) = true := by decide +kernel
def bcells (nw : Nat → Int) (gr ln cp : Nat → Nat) (m : Nat) : List Value := (List.range m).flatMap (fun i => [.int .i64 (nw i), .slice (some ⟨gr i, 0, none⟩) (ln i) (cp i)])
theorem bcells_succ (nw : Nat → Int) (gr ln cp : Nat → Nat) (m : Nat) : bcells nw gr ln cp (m + 1) = bcells nw gr ln cp m ++ [.int .i64 (nw m), .slice (some ⟨gr m, 0, none⟩) (ln m) (cp m)] := by
  simp [bcells, List.range_succ]
theorem bcells_congr {nw nw' : Nat → Int} {gr gr' ln ln' cp cp' : Nat → Nat} {m : Nat} (h : ∀ i, i < m → nw i = nw' i ∧ gr i = gr' i ∧ ln i = ln' i ∧ cp i = cp' i) : bcells nw gr ln cp m = bcells nw' gr' ln' cp' m := by
  induction m with
  | zero => rfl
  | succ m ih =>
    obtain ⟨h1, h2, h3, h4⟩ := h m (by omega)
    rw [bcells_succ, bcells_succ, ih (fun i hi => h i (by omega)), h1, h2, h3, h4]
theorem bcells_get (nw : Nat → Int) (gr ln cp : Nat → Nat) (m i : Nat) (hi : i < m) (o : Nat) (ho : o < 2) : (bcells nw gr ln cp m)[i * 2 + o]? = ([.int .i64 (nw i), .slice (some ⟨gr i, 0, none⟩) (ln i) (cp i)] : List Value)[o]? := by
  have := flat_get (k := 2) (enc := fun i => ([.int .i64 (nw i), .slice (some ⟨gr i, 0, none⟩) (ln i) (cp i)] : List Value)) (fun _ => rfl) (List.range m) i (by simpa using hi) o ho
  simpa [bcells] using this
end Go.Annal
namespace Go.Proofs.YtjnmoddcodnadaaGreatDoor
open Go.RowKit Go.Annal Go.Sort
/-- An account, and what its entries say: m items, f 0 to f (m - 1), in blocks. -/
structure HistAt (w : World) (A : Nat) (nm : ByteArray) (kd : Int) (m : Nat) (f : Nat → It) (ad : Option Addr) (cap : Nat) (gr cp : Nat → Nat) (bl : Nat → List Rw) : Prop where
  acc : w.heap[A]? = some (.cells #[.string nm, .int .i64 kd, .slice ad m cap] 145 (0, 0))
  blk : w.ownsRow 0 193 2 (.slice ad m cap) m (bcells (fun i => (f i).1) gr (fun i => low (i + 1)) cp m)
  row : ∀ i, i < m → w.ownsRow 0 195 4 (.slice (some ⟨gr i, 0, none⟩) (low (i + 1)) (cp i)) (low (i + 1)) (cells4 (addUpF 0 (bl i)))
  len : ∀ i, i < m → (bl i).length = low (i + 1)
  srt : ∀ i, i < m → SortedBy (ltOf cfR) (bl i)
  prm : ∀ i, i < m → ((bl i).map itmOf).Perm ((rng i).map f)
  bd : ∀ i, i < m → -1000000000000 ≤ (f i).2.2 ∧ (f i).2.2 ≤ 1000000000000
/-- The blocks of memory that an account is made of. -/
def foot (A : Nat) (ad : Option Addr) (m cap : Nat) (gr : Nat → Nat) (k : Nat) : Prop := k = A ∨ (Value.slice ad m cap).ownBlock = some k ∨ ∃ i, i < m ∧ k = gr i
theorem HistAt.turn {w w' : World} {A : Nat} {nm : ByteArray} {kd : Int} {m : Nat} {f : Nat → It} {ad : Option Addr} {cap : Nat} {gr cp : Nat → Nat} {bl : Nat → List Rw} (h : HistAt w A nm kd m f ad cap gr cp bl) {S : Nat → Prop} (ht : Turn S w w') (hs : ∀ k, foot A ad m cap gr k → ¬ S k) : HistAt w' A nm kd m f ad cap gr cp bl :=
  ⟨ht.blk h.acc (hs A (.inl rfl)), owns_turn h.blk ht (fun g e => hs g (.inr (.inl e))), fun i hi => owns_turn (h.row i hi) ht (fun g e => hs g (.inr (.inr ⟨i, hi, (Option.some.inj e).symm⟩))), h.len, h.srt, h.prm, h.bd⟩
theorem low_64 (k : Nat) : low k ≤ 64 := by unfold low; repeat' split <;> try omega
theorem HistAt.blocks {w : World} {A : Nat} {nm : ByteArray} {kd : Int} {m : Nat} {f : Nat → It} {ad : Option Addr} {cap : Nat} {gr cp : Nat → Nat} {bl : Nat → List Rw} (h : HistAt w A nm kd m f ad cap gr cp bl) :
    ∃ g, BlocksAt w A 2 g cap m ad (fun i => (f i).1) gr (fun i => low (i + 1)) cp := by
  rcases h.blk.2 with ⟨e, hm⟩ | ⟨g, cap', cur, e, _⟩
  · subst hm
    exact ⟨0, blk_cell' h.acc rfl, fun h => by omega, fun i hi => by omega, fun i hi => by omega⟩
  · injection e with e1 _ e3
    subst e1; subst e3
    refine ⟨g, blk_cell' h.acc rfl, fun _ => rfl, fun i hi => ?_, fun i hi => ?_⟩
    · have := h.blk.cellAt (i * 2) (by omega)
      have h2 := bcells_get (fun i => (f i).1) gr (fun i => low (i + 1)) cp m i hi 0 (by omega)
      rw [Nat.add_zero] at h2
      rw [h2] at this
      exact this
    · have := h.blk.cellAt (i * 2 + 1) (by omega)
      rw [bcells_get (fun i => (f i).1) gr (fun i => low (i + 1)) cp m i hi 1 (by omega)] at this
      exact this
theorem rowsAll_itm (rl : Nat → List Rw) (f : Nat → It) (xs : List Nat) (h : ∀ i ∈ xs, ((rl i).map itmOf).Perm ((rng i).map f)) : ((rowsAll rl xs).map itmOf).Perm ((xs.flatMap rng).map f) := by
  induction xs with
  | nil => exact List.Perm.refl _
  | cons x r ih =>
    simp only [rowsAll, List.flatMap_cons, List.map_append] at *
    exact (h x List.mem_cons_self).append (ih (fun i hi => h i (List.mem_cons_of_mem _ hi)))
theorem chainF_lt (lo : Nat) : ∀ fu k, ∀ i ∈ chainF low lo fu k, i < k
  | 0, k, i, h => by simp [chainF] at h
  | fu + 1, k, i, h => by
    simp only [chainF] at h
    split at h
    · rcases List.mem_cons.1 h with rfl | h'
      · omega
      · have := chainF_lt lo fu _ i h'
        have := low_pos k
        omega
    · cases h
theorem chain_lt (lo k i : Nat) (h : i ∈ chain lo k) : i < k := chainF_lt lo k k i h
theorem rng_lt (m i : Nat) (hm : m ≤ 64) (hi : i < m) : ∀ j ∈ rng i, j < m := by
  intro j hj
  have h1 := low_le (i + 1) (by omega) (by omega)
  simp only [rng, List.mem_range'_1] at hj
  omega
set_option maxRecDepth 100000 in
set_option maxHeartbeats 1000000 in
theorem histAdd_at (A : Nat) (nm : ByteArray) (kd : Int) (m : Nat) (f : Nat → It) (ad : Option Addr) (cap : Nat) (gr cp : Nat → Nat) (bl : Nat → List Rw) (w : World) (e0 d0 a0 : Int) (h : HistAt w A nm kd m f ad cap gr cp bl) (hm : m < 60) (ha : -1000000000000 ≤ a0 ∧ a0 ≤ 1000000000000) :
    Calls Tryz.prog 107 #[.pointer (some ⟨A, 2, none⟩), .agg #[.int .i64 e0, .int .i64 d0, .int .i64 a0]] w fun r w' => r = .returned (.tuple #[]) ∧ ∃ ad' cap' gr' cp' bl',
      HistAt w' A nm kd (m + 1) (fun i => if i = m then (e0, d0, a0) else f i) ad' cap' gr' cp' bl' ∧ Turn (foot A ad m cap gr) w w' ∧ (∀ k, foot A ad' (m + 1) cap' gr' k → foot A ad m cap gr k ∨ w.heap.size ≤ k) := by
  obtain ⟨g, hB⟩ := h.blocks
  have hch : ∀ i ∈ chain (m + 1 - low (m + 1)) m, i < m := fun i hi => chain_lt _ _ i hi
  have hp1 : ((rowsAll (fun i => addUpF 0 (bl i)) (chain (m + 1 - low (m + 1)) m)).map itmOf).Perm (((chain (m + 1 - low (m + 1)) m).flatMap rng).map f) := rowsAll_itm _ f _ (fun i hi => by rw [addUpF_itm]; exact h.prm i (hch i hi))
  have hidx : ((chain (m + 1 - low (m + 1)) m).flatMap rng ++ [m]).Perm (rng m) := List.isPerm_iff.1 (rng_chain ⟨m, hm⟩)
  have hlen : (rowsAll (fun i => addUpF 0 (bl i)) (chain (m + 1 - low (m + 1)) m)).length + 1 = low (m + 1) := by
    have h1 := hp1.length_eq
    have h2 := hidx.length_eq
    simp only [List.length_map, List.length_append, List.length_cons, List.length_nil] at h1 h2
    have h3 : (rng m).length = low (m + 1) := by simp [rng]
    omega
  have hbd : ∀ i, i < m → ∀ x ∈ addUpF 0 (bl i), -100000000000000 ≤ x.2.2.1 ∧ x.2.2.1 ≤ 100000000000000 := fun i hi x hx => by
    have h1 : itmOf x ∈ (bl i).map itmOf := by rw [← addUpF_itm 0]; exact List.mem_map_of_mem hx
    have h2 := (h.prm i hi).mem_iff.1 h1
    obtain ⟨j, hj, e⟩ := List.mem_map.1 h2
    have h3 := h.bd j (rng_lt m i (by omega) hi j hj)
    rw [e] at h3
    have h4 : (itmOf x).2.2 = x.2.2.1 := rfl
    omega
  refine (histAdd_any A 2 g cap m ad (fun i => (f i).1) gr (fun i => low (i + 1)) cp (fun i => addUpF 0 (bl i)) _ _ _ e0 d0 a0 w hm hB h.acc (by decide) h.blk h.row (fun i hi => ⟨by rw [addUpF_len]; exact h.len i hi, low_64 _⟩) hbd (by omega) (by have := low_64 (m + 1); omega)).mono ?_
  rintro r w' ⟨rfl, g', cap', gn, cn, l', hperm, hsort, hA', hblk', hrow', hT, hg'⟩
  have hll : l'.length = low (m + 1) := by
    have := hperm.length_eq
    simp only [List.length_append, List.length_cons, List.length_nil] at this
    omega
  refine ⟨rfl, some ⟨g', 0, none⟩, cap', fun i => if i = m then gn else gr i, fun i => if i = m then cn else cp i, fun i => if i = m then l' else bl i, ⟨?_, ?_, ?_, ?_, ?_, ?_, ?_⟩, ?_, ?_⟩
  · exact hA'
  · have e1 : bcells (fun i => (if i = m then (e0, d0, a0) else f i : It).1) (fun i => if i = m then gn else gr i) (fun i => low (i + 1)) (fun i => if i = m then cn else cp i) (m + 1)
        = bcells (fun i => (f i).1) gr (fun i => low (i + 1)) cp m ++ [.int .i64 e0, .slice (some ⟨gn, 0, none⟩) l'.length cn] := by
      rw [bcells_succ, hll, bcells_congr (nw' := fun i => (f i).1) (gr' := gr) (ln' := fun i => low (i + 1)) (cp' := cp) (fun i hi => by
        have : i ≠ m := by omega
        simp [this])]
      simp
    rw [e1]
    exact hblk'
  · intro i hi
    by_cases him : i = m
    · subst him
      simp only [if_true]
      rw [← hll]
      exact owns0 hrow'
    · simp only [if_neg him]
      refine owns_turn (h.row i (by omega)) hT (fun g2 eg hs => ?_)
      obtain ⟨c, fz, hc⟩ := owns_kind (h.row i (by omega)) g2 eg
      rcases hs with hs | hs
      · subst hs
        rw [h.acc] at hc
        simp at hc
      · obtain ⟨c', fz', hc'⟩ := owns_kind h.blk g2 hs
        rw [hc'] at hc
        simp at hc
  · intro i hi
    by_cases him : i = m
    · subst him; simp only [if_true]; exact hll
    · simp only [if_neg him]; exact h.len i (by omega)
  · intro i hi
    by_cases him : i = m
    · subst him; simp only [if_true]; exact hsort
    · simp only [if_neg him]; exact h.srt i (by omega)
  · intro i hi
    by_cases him : i = m
    · subst him
      simp only [if_true]
      have h1 := hperm.map itmOf
      rw [List.map_append] at h1
      refine h1.trans ((hp1.append_right _).trans ?_)
      have h2 := hidx.map (fun j => if j = i then (e0, d0, a0) else f j)
      rw [List.map_append] at h2
      refine List.Perm.trans (List.Perm.of_eq ?_) h2
      congr 1
      · apply List.map_congr_left
        intro j hj
        obtain ⟨b, hb, hjb⟩ := List.mem_flatMap.1 hj
        have := rng_lt i b (by omega) (hch b hb) j hjb
        rw [if_neg (by omega)]
      · simp [itmOf]
    · simp only [if_neg him]
      refine (h.prm i (by omega)).trans (List.Perm.of_eq ?_)
      apply List.map_congr_left
      intro j hj
      have := rng_lt m i (by omega) (by omega) j hj
      rw [if_neg (by omega)]
  · intro i hi
    by_cases him : i = m
    · subst him; simp only [if_true]; exact ha
    · simp only [if_neg him]; exact h.bd i (by omega)
  · exact hT.mono (fun k _ hk => by
      rcases hk with hk | hk
      · exact .inl hk
      · exact .inr (.inl hk))
  · rintro k (hk | hk | ⟨i, hi, hk⟩)
    · exact .inl (.inl hk)
    · have hk' : g' = k := Option.some.inj hk
      subst hk'
      rcases hg' with hg' | hg'
      · exact .inl (.inr (.inl hg'))
      · exact .inr hg'
    · dsimp only at hk
      by_cases him : i = m
      · rw [if_pos him] at hk
        rw [hk]
        exact .inr (hrow'.lt gn rfl).1
      · rw [if_neg him] at hk
        exact .inl (.inr (.inr ⟨i, by omega, hk⟩))
end Go.Proofs.YtjnmoddcodnadaaGreatDoor
namespace Go.Annal
open Go.Proofs.YtjnmoddcodnadaaGreatDoor Go.Sort
theorem perm_sum {l l' : List Int} (h : l.Perm l') : l.sum = l'.sum := by
  induction h with
  | nil => rfl
  | cons x _ ih => simp [ih]
  | swap x y l => simp; omega
  | trans _ _ h1 h2 => exact h1.trans h2
/-- What items make up to a day. -/
def balI (day : Int) (l : List It) : Int := ((l.filter (fun x => decide (x.2.1 ≤ day))).map (fun x => x.2.2)).sum
theorem balI_perm (day : Int) {l l' : List It} (h : l.Perm l') : balI day l = balI day l' := perm_sum ((h.filter _).map _)
theorem balI_append (day : Int) (l l' : List It) : balI day (l ++ l') = balI day l + balI day l' := by simp [balI, List.sum_append]
theorem addUpF_get (acc : Int) (l : List Rw) (j : Nat) (hj : j < l.length) : (addUpF acc l).getD j (0, 0, 0, 0) = (l[j].1, l[j].2.1, l[j].2.2.1, acc + amtSum (l.take (j + 1))) := by
  induction l generalizing acc j with
  | nil => simp at hj
  | cons y r ih =>
    cases j with
    | zero => simp [addUpF, amtSum]
    | succ j =>
      have := ih (acc + y.2.2.1) j (by simpa using hj)
      simp only [addUpF, List.getD_cons_succ, this, List.getElem_cons_succ, List.take_succ_cons, amtSum, List.map_cons, List.sum_cons]
      congr 3; omega
theorem amtSum_bd1 (l : List Rw) (h : ∀ x ∈ l, -1000000000000 ≤ x.2.2.1 ∧ x.2.2.1 ≤ 1000000000000) : -(1000000000000 * (l.length : Int)) ≤ amtSum l ∧ amtSum l ≤ 1000000000000 * (l.length : Int) := by
  induction l with
  | nil => simp [amtSum]
  | cons y r ih =>
    have h1 := ih (fun x hx => h x (List.mem_cons_of_mem _ hx))
    have h2 := h y (List.mem_cons_self)
    simp only [amtSum, List.map_cons, List.sum_cons, List.length_cons] at *
    omega
theorem take_filter (p : Rw → Bool) : ∀ l : List Rw, l.Pairwise (fun x y => p y = true → p x = true) → l.take (l.countP p) = l.filter p
  | [], _ => rfl
  | x :: r, h => by
    rw [List.pairwise_cons] at h
    cases hx : p x
    · have hr : r.filter p = [] := List.filter_eq_nil_iff.2 (fun y hy hp => by have := h.1 y hy hp; rw [hx] at this; cases this)
      have hc : r.countP p = 0 := by rw [List.countP_eq_length_filter, hr]; rfl
      rw [List.countP_cons_of_neg (by simp [hx]), hc, List.filter_cons_of_neg (by simp [hx]), hr]; rfl
    · rw [List.countP_cons_of_pos hx, List.take_succ_cons, take_filter p r h.2, List.filter_cons_of_pos hx]
theorem range_getD (l : List Rw) : (List.range l.length).map (fun j => l.getD j (0, 0, 0, 0)) = l := List.ext_getElem (by simp) (fun i h1 h2 => by simp [List.getD_eq_getElem?_getD, h2])
theorem amtSum_filter (day : Int) (l : List Rw) : amtSum (l.filter (fun x => decide (x.2.1 ≤ day))) = balI day (l.map itmOf) := by
  unfold amtSum balI
  rw [List.filter_map, List.map_map]
  rfl
theorem rng_all : ∀ k : Fin 61, ((chain 0 k.1).flatMap rng).isPerm (List.range k.1) = true := by decide +kernel
end Go.Annal
namespace Go.Proofs.YtjnmoddcodnadaaGreatDoor
open Go.RowKit Go.Annal Go.Sort
def atR (bl : Nat → List Rw) (i j : Nat) : Rw := (addUpF 0 (bl i)).getD j (0, 0, 0, 0)
theorem sorted_day {l : List Rw} (h : SortedBy (ltOf cfR) l) : l.Pairwise (fun x y => x.2.1 ≤ y.2.1) := by
  refine List.Pairwise.imp ?_ h
  intro x y hxy
  by_cases hd : x.2.1 ≤ y.2.1
  · exact hd
  · have h1 : cmpI y.2.1 x.2.1 = -1 := by unfold cmpI; rw [if_pos (by omega)]
    have h2 : ltOf cfR y x = true := by unfold ltOf cfR; rw [h1]; simp [orI]
    rw [h2] at hxy; cases hxy
theorem HistAt.rows {w : World} {A : Nat} {nm : ByteArray} {kd : Int} {m : Nat} {f : Nat → It} {ad : Option Addr} {cap : Nat} {gr cp : Nat → Nat} {bl : Nat → List Rw} (h : HistAt w A nm kd m f ad cap gr cp bl) (hm : m ≤ 60) :
    RowsAt w m gr (fun i => low (i + 1)) (fun i j => (atR bl i j).1) (fun i j => (atR bl i j).2.1) (fun i j => (atR bl i j).2.2.1) (fun i j => (atR bl i j).2.2.2) := by
  have hl : ∀ i, i < m → ∀ j, j < low (i + 1) → j < (bl i).length := fun i hi j hj => by rw [h.len i hi]; exact hj
  have hl' : ∀ i, i < m → ∀ j, j < low (i + 1) → j < (addUpF 0 (bl i)).length := fun i hi j hj => by rw [addUpF_len]; exact hl i hi j hj
  have hc : ∀ i, i < m → ∀ j, j < low (i + 1) → ∀ o, o < 4 → w.cell? ⟨gr i, j * 4 + o, none⟩ = (enc4 (atR bl i j))[o]? := fun i hi j hj o ho => by
    have e1 : atR bl i j = (addUpF 0 (bl i))[j]'(hl' i hi j hj) := by
      unfold atR
      rw [List.getD_eq_getElem?_getD, List.getElem?_eq_getElem (hl' i hi j hj)]
      rfl
    rw [(h.row i hi).cellAt (j * 4 + o) (by omega), cells4_get _ j (hl' i hi j hj) o ho, e1]
  have hg : ∀ i (hi : i < m) j (hj : j < low (i + 1)), atR bl i j = (((bl i)[j]'(hl i hi j hj)).1, ((bl i)[j]'(hl i hi j hj)).2.1, ((bl i)[j]'(hl i hi j hj)).2.2.1, 0 + amtSum ((bl i).take (j + 1))) := fun i hi j hj => addUpF_get 0 (bl i) j (hl i hi j hj)
  have hb : ∀ i, i < m → ∀ x ∈ bl i, -1000000000000 ≤ x.2.2.1 ∧ x.2.2.1 ≤ 1000000000000 := fun i hi x hx => by
    have h2 := (h.prm i hi).mem_iff.1 (List.mem_map_of_mem (f := itmOf) hx)
    obtain ⟨j, hj, e⟩ := List.mem_map.1 h2
    have h3 := h.bd j (rng_lt m i (by omega) hi j hj)
    rw [e] at h3
    exact h3
  refine ⟨fun i hi j hj => hc i hi j hj 0 (by omega), fun i hi j hj => hc i hi j hj 1 (by omega), fun i hi j hj => hc i hi j hj 2 (by omega), fun i hi j hj => hc i hi j hj 3 (by omega), ?_, fun i hi => Nat.le_trans (low_64 _) (by omega), ?_⟩
  · intro i hi p q hpq hq
    have hq' : q < low (i + 1) := hq
    show (atR bl i p).2.1 ≤ (atR bl i q).2.1
    rw [hg i hi p (by omega), hg i hi q hq']
    rcases Nat.eq_or_lt_of_le hpq with rfl | hlt
    · exact Int.le_refl _
    · exact (List.pairwise_iff_getElem.1 (sorted_day (h.srt i hi))) p q (by rw [h.len i hi]; omega) (by rw [h.len i hi]; omega) hlt
  · intro i hi j hj
    have hj' : j < low (i + 1) := hj
    show _ ≤ (atR bl i j).2.2.2 ∧ (atR bl i j).2.2.2 ≤ _
    rw [hg i hi j hj']
    have h1 := amtSum_bd1 ((bl i).take (j + 1)) (fun x hx => hb i hi x (List.mem_of_mem_take hx))
    have h2 : ((bl i).take (j + 1)).length ≤ 64 := by have := low_64 (i + 1); have := h.len i hi; simp; omega
    dsimp only
    omega
theorem balTerm_eq {f : Nat → It} {bl : Nat → List Rw} (day : Int) (i : Nat) (hl : (bl i).length = low (i + 1)) (hs : SortedBy (ltOf cfR) (bl i)) (hp : ((bl i).map itmOf).Perm ((rng i).map f)) :
    balTerm (fun i => low (i + 1)) (fun i j => (atR bl i j).2.1) (fun i j => (atR bl i j).2.2.2) day i = balI day ((rng i).map f) := by
  rw [← balI_perm day hp, ← amtSum_filter]
  have hcnt : upTo (fun j => (atR bl i j).2.1) (low (i + 1)) (day + 1) = (bl i).countP (fun x => decide (x.2.1 ≤ day)) := by
    unfold upTo
    have e1 : (bl i).countP (fun x => decide (x.2.1 ≤ day)) = ((List.range (bl i).length).map (fun j => (bl i).getD j (0, 0, 0, 0))).countP (fun x => decide (x.2.1 ≤ day)) := by rw [range_getD]
    rw [e1, List.countP_map, hl]
    apply List.countP_congr
    intro j hj
    have hj' : j < (bl i).length := by rw [hl]; simpa using hj
    have e2 : (atR bl i j).2.1 = ((bl i).getD j (0, 0, 0, 0)).2.1 := by
      unfold atR
      rw [addUpF_get 0 (bl i) j hj', List.getD_eq_getElem?_getD, List.getElem?_eq_getElem hj']
      rfl
    simp only [Function.comp, e2, Bool.not_eq_true', decide_eq_false_iff_not, decide_eq_true_eq]
    omega
  have hsrt : (bl i).Pairwise (fun x y => decide (y.2.1 ≤ day) = true → decide (x.2.1 ≤ day) = true) := (sorted_day hs).imp (fun {x y} hxy hy => by simp at *; omega)
  have htk := take_filter (fun x => decide (x.2.1 ≤ day)) (bl i) hsrt
  have hle : (bl i).countP (fun x => decide (x.2.1 ≤ day)) ≤ (bl i).length := List.countP_le_length
  unfold balTerm
  rw [hcnt, ← htk]
  generalize (bl i).countP (fun x => decide (x.2.1 ≤ day)) = n at *
  by_cases h0 : 0 < n
  · rw [if_pos h0]
    have := addUpF_get 0 (bl i) (n - 1) (by omega)
    show (atR bl i (n - 1)).2.2.2 = _
    unfold atR
    rw [this]
    simp [show n - 1 + 1 = n by omega]
  · rw [if_neg h0, show n = 0 by omega]; rfl
theorem balSum_eq {f : Nat → It} {bl : Nat → List Rw} (day : Int) (xs : List Nat) (h : ∀ i ∈ xs, balTerm (fun i => low (i + 1)) (fun i j => (atR bl i j).2.1) (fun i j => (atR bl i j).2.2.2) day i = balI day ((rng i).map f)) :
    balSum (fun i => low (i + 1)) (fun i j => (atR bl i j).2.1) (fun i j => (atR bl i j).2.2.2) day xs = balI day ((xs.flatMap rng).map f) := by
  induction xs with
  | nil => rfl
  | cons x r ih =>
    have h1 := ih (fun i hi => h i (List.mem_cons_of_mem _ hi))
    have h2 := h x List.mem_cons_self
    simp only [balSum, List.map_cons, List.sum_cons, List.flatMap_cons, List.map_append, balI_append] at *
    rw [h1, h2]
/-- A balance of an account: what its first items make, those that are known. -/
theorem histBal_at (A : Nat) (nm : ByteArray) (kd : Int) (m : Nat) (f : Nat → It) (ad : Option Addr) (cap : Nat) (gr cp : Nat → Nat) (bl : Nat → List Rw) (w : World) (day known : Int) (h : HistAt w A nm kd m f ad cap gr cp bl) (hm : m ≤ 60) (hN : ∀ p q, p ≤ q → q < m → (f p).1 ≤ (f q).1) (hd : dayB day = true) :
    Calls Tryz.prog 70 #[.pointer (some ⟨A, 2, none⟩), .int .i64 day, .int .i64 known] w fun r w' =>
      r = .returned (.int .i64 (balI day ((List.range (cntKnown (fun i => (f i).1) m known)).map f))) ∧ Below w.heap.size w w' := by
  obtain ⟨g, hB⟩ := h.blocks
  have hck := cntKnown_le (fun i => (f i).1) m known
  have e1 : balSum (fun i => low (i + 1)) (fun i j => (atR bl i j).2.1) (fun i j => (atR bl i j).2.2.2) day (chain 0 (cntKnown (fun i => (f i).1) m known)) = balI day ((List.range (cntKnown (fun i => (f i).1) m known)).map f) := by
    rw [balSum_eq (f := f) day _ (fun i hi => by
      have him : i < m := Nat.lt_of_lt_of_le (chain_lt _ _ i hi) hck
      exact balTerm_eq day i (h.len i him) (h.srt i him) (h.prm i him))]
    exact balI_perm day ((List.isPerm_iff.1 (rng_all ⟨cntKnown (fun i => (f i).1) m known, by omega⟩)).map f)
  rw [← e1]
  have := dayB_yes hd
  exact histBalance_any A 2 g cap m ad (fun i => (f i).1) gr (fun i => low (i + 1)) cp _ _ _ _ day known w (by omega) hB (h.rows hm) hN this.1 this.2
end Go.Proofs.YtjnmoddcodnadaaGreatDoor
namespace Go.Annal
open Go.Proofs.YtjnmoddcodnadaaGreatDoor Go.Sort
/-- Items from one day to another. -/
def itmI (d1 d2 : Int) (l : List It) : List It := l.filter (fun x => decide (d1 ≤ x.2.1) && decide (x.2.1 ≤ d2))
theorem itmI_append (d1 d2 : Int) (l l' : List It) : itmI d1 d2 (l ++ l') = itmI d1 d2 l ++ itmI d1 d2 l' := List.filter_append ..
theorem drop_filter (p : Rw → Bool) : ∀ l : List Rw, l.Pairwise (fun x y => p y = true → p x = true) → l.drop (l.countP p) = l.filter (fun x => !p x)
  | [], _ => rfl
  | x :: r, h => by
    rw [List.pairwise_cons] at h
    cases hx : p x
    · have hr : ∀ y ∈ r, p y = false := fun y hy => by
        cases hp : p y
        · rfl
        · have := h.1 y hy hp; rw [hx] at this; cases this
      have hc : r.countP p = 0 := List.countP_eq_zero.2 (fun y hy => by rw [hr y hy]; simp)
      rw [List.countP_cons_of_neg (by simp [hx]), hc, List.drop_zero, List.filter_cons_of_pos (by simp [hx]), List.filter_eq_self.2 (fun y hy => by rw [hr y hy]; rfl)]
    · rw [List.countP_cons_of_pos hx, List.drop_succ_cons, drop_filter p r h.2, List.filter_cons_of_neg (by simp [hx])]
theorem seg_eq (l : List Rw) (a b : Nat) (hb : b ≤ l.length) : (List.range' a (b - a)).map (fun j => l.getD j (0, 0, 0, 0)) = (l.take b).drop a := by
  apply List.ext_getElem
  · simp; omega
  · intro i h1 h2
    have : a + i < l.length := by simp at h1; omega
    simp [List.getD_eq_getElem?_getD, this]
theorem seg_filter (l : List Rw) (d1 d2 : Int) (h : l.Pairwise (fun x y => x.2.1 ≤ y.2.1)) :
    (List.range' (l.countP (fun x => decide (x.2.1 < d1))) (l.countP (fun x => decide (x.2.1 ≤ d2)) - l.countP (fun x => decide (x.2.1 < d1)))).map (fun j => l.getD j (0, 0, 0, 0)) = l.filter (fun x => decide (d1 ≤ x.2.1) && decide (x.2.1 ≤ d2)) := by
  by_cases hd : d1 ≤ d2
  · rw [seg_eq l _ _ List.countP_le_length, take_filter (fun x => decide (x.2.1 ≤ d2)) l (h.imp (fun {x y} hxy hy => by simp at *; omega))]
    have e1 : l.countP (fun x => decide (x.2.1 < d1)) = (l.filter (fun x => decide (x.2.1 ≤ d2))).countP (fun x => decide (x.2.1 < d1)) := by
      rw [List.countP_filter]
      apply List.countP_congr
      intro x _
      simp; omega
    rw [e1, drop_filter (fun x => decide (x.2.1 < d1)) _ ((h.filter _).imp (fun {x y} hxy hy => by simp at *; omega)), List.filter_filter]
    apply List.filter_congr
    intro x _
    rw [Bool.eq_iff_iff]; simp
  · have e1 : l.countP (fun x => decide (x.2.1 ≤ d2)) ≤ l.countP (fun x => decide (x.2.1 < d1)) := List.countP_mono_left (fun x _ hx => by simp at *; omega)
    rw [show l.countP (fun x => decide (x.2.1 ≤ d2)) - l.countP (fun x => decide (x.2.1 < d1)) = 0 by omega]
    symm
    apply List.filter_eq_nil_iff.2
    intro x _
    simp; omega
end Go.Annal
namespace Go.Proofs.YtjnmoddcodnadaaGreatDoor
open Go.RowKit Go.Annal Go.Sort
theorem upTo_atR {bl : Nat → List Rw} (i : Nat) (day : Int) (hl : (bl i).length = low (i + 1)) : upTo (fun j => (atR bl i j).2.1) (low (i + 1)) day = (bl i).countP (fun x => decide (x.2.1 < day)) := by
  unfold upTo
  have e1 : (bl i).countP (fun x => decide (x.2.1 < day)) = ((List.range (bl i).length).map (fun j => (bl i).getD j (0, 0, 0, 0))).countP (fun x => decide (x.2.1 < day)) := by rw [range_getD]
  rw [e1, List.countP_map, hl]
  apply List.countP_congr
  intro j hj
  have hj' : j < (bl i).length := by rw [hl]; simpa using hj
  have e2 : (atR bl i j).2.1 = ((bl i).getD j (0, 0, 0, 0)).2.1 := by
    unfold atR
    rw [addUpF_get 0 (bl i) j hj', List.getD_eq_getElem?_getD, List.getElem?_eq_getElem hj']
    rfl
  simp only [Function.comp, e2, Bool.not_eq_true', decide_eq_false_iff_not, decide_eq_true_eq]
  omega
theorem itmBlk_eq {f : Nat → It} {bl : Nat → List Rw} (d1 d2 : Int) (i : Nat) (hl : (bl i).length = low (i + 1)) (hs : SortedBy (ltOf cfR) (bl i)) (hp : ((bl i).map itmOf).Perm ((rng i).map f)) :
    (itmBlk (fun i => low (i + 1)) (fun i j => (atR bl i j).1) (fun i j => (atR bl i j).2.1) (fun i j => (atR bl i j).2.2.1) d1 d2 i).Perm (itmI d1 d2 ((rng i).map f)) := by
  unfold itmBlk
  rw [upTo_atR i d1 hl, upTo_atR i (d2 + 1) hl]
  have e0 : (bl i).countP (fun x => decide (x.2.1 < d2 + 1)) = (bl i).countP (fun x => decide (x.2.1 ≤ d2)) := List.countP_congr (fun x _ => by simp; omega)
  rw [e0]
  have e1 : ∀ a b, b ≤ (bl i).length → (List.range' a (b - a)).map (fun j => ((atR bl i j).1, (atR bl i j).2.1, (atR bl i j).2.2.1)) = ((List.range' a (b - a)).map (fun j => (bl i).getD j (0, 0, 0, 0))).map itmOf := fun a b hb => by
    rw [List.map_map]
    apply List.map_congr_left
    intro j hj
    have hj' : j < (bl i).length := by rw [List.mem_range'_1] at hj; omega
    unfold atR
    rw [addUpF_get 0 (bl i) j hj']
    simp [itmOf, List.getD_eq_getElem?_getD, List.getElem?_eq_getElem hj']
  rw [e1 _ _ List.countP_le_length, seg_filter _ d1 d2 (sorted_day hs)]
  have e2 : ((bl i).filter (fun x => decide (d1 ≤ x.2.1) && decide (x.2.1 ≤ d2))).map itmOf = itmI d1 d2 ((bl i).map itmOf) := by
    unfold itmI
    rw [List.filter_map]
    rfl
  rw [e2]
  exact hp.filter _
theorem itmAll_eq {f : Nat → It} {bl : Nat → List Rw} (d1 d2 : Int) (xs : List Nat) (h : ∀ i ∈ xs, (itmBlk (fun i => low (i + 1)) (fun i j => (atR bl i j).1) (fun i j => (atR bl i j).2.1) (fun i j => (atR bl i j).2.2.1) d1 d2 i).Perm (itmI d1 d2 ((rng i).map f))) :
    (itmAll (fun i => low (i + 1)) (fun i j => (atR bl i j).1) (fun i j => (atR bl i j).2.1) (fun i j => (atR bl i j).2.2.1) d1 d2 xs).Perm (itmI d1 d2 ((xs.flatMap rng).map f)) := by
  induction xs with
  | nil => exact List.Perm.refl _
  | cons x r ih =>
    simp only [itmAll, List.flatMap_cons, List.map_append, itmI_append] at *
    exact (h x List.mem_cons_self).append (ih (fun i hi => h i (List.mem_cons_of_mem _ hi)))
/-- The items of an account from one day to another, those that are known, in order. -/
theorem histItems_at (A : Nat) (nm : ByteArray) (kd : Int) (m : Nat) (f : Nat → It) (ad : Option Addr) (cap : Nat) (gr cp : Nat → Nat) (bl : Nat → List Rw) (w : World) (d1 d2 known : Int) (h : HistAt w A nm kd m f ad cap gr cp bl) (hm : m ≤ 60) (hN : ∀ p q, p ≤ q → q < m → (f p).1 ≤ (f q).1) (hd : dayB d1 = true) (hd' : dayB d2 = true) :
    Calls Tryz.prog 127 #[.pointer (some ⟨A, 2, none⟩), .int .i64 d1, .int .i64 d2, .int .i64 known] w fun r w' => ∃ v, r = .returned v ∧
      (∃ l', l'.Perm (itmI d1 d2 ((List.range (cntKnown (fun i => (f i).1) m known)).map f)) ∧ SortedBy (ltOf cfT) l' ∧ w'.ownsRow w.heap.size 106 3 v l'.length (cells3 l')) ∧ Below w.heap.size w w' := by
  obtain ⟨g, hB⟩ := h.blocks
  have hck := cntKnown_le (fun i => (f i).1) m known
  have e1 := (itmAll_eq (f := f) (bl := bl) d1 d2 (chain 0 (cntKnown (fun i => (f i).1) m known)) (fun i hi => by
      have him : i < m := Nat.lt_of_lt_of_le (chain_lt _ _ i hi) hck
      exact itmBlk_eq d1 d2 i (h.len i him) (h.srt i him) (h.prm i him))).trans (((List.isPerm_iff.1 (rng_all ⟨cntKnown (fun i => (f i).1) m known, by omega⟩)).map f).filter _)
  have h1 := dayB_yes hd
  have h2 := dayB_yes hd'
  refine (histItems_any A 2 g cap m ad (fun i => (f i).1) gr (fun i => low (i + 1)) cp _ _ _ _ d1 d2 known w (by omega) hB (h.rows hm) hN h1.1 h1.2 h2.1 h2.2).mono ?_
  rintro r w' ⟨v, l', rfl, hp, hs, ho, hb⟩
  exact ⟨v, rfl, ⟨l', hp.trans e1, hs, ho⟩, hb⟩
end Go.Proofs.YtjnmoddcodnadaaGreatDoor
namespace Go.Proofs.YtjnmoddcodnadaaGreatDoor
open Go.RowKit Go.Annal Go.Sort
/-- All accounts of a book, each of its own blocks; F: the blocks of them all. -/
def Accs (w : World) (na : Nat) (pa : Nat → Nat) (nm : Nat → ByteArray) (kd : Nat → Int) (mm : Nat → Nat) (ff : Nat → Nat → It) (F : Nat → Prop) : Prop :=
  ∃ (ad : Nat → Option Addr) (cap : Nat → Nat) (gr cp : Nat → Nat → Nat) (bl : Nat → Nat → List Rw),
    (∀ i, i < na → HistAt w (pa i) (nm i) (kd i) (mm i) (ff i) (ad i) (cap i) (gr i) (cp i) (bl i)) ∧
    (∀ i j k, i < na → j < na → i ≠ j → foot (pa i) (ad i) (mm i) (cap i) (gr i) k → ¬ foot (pa j) (ad j) (mm j) (cap j) (gr j) k) ∧
    (∀ k, F k ↔ ∃ i, i < na ∧ foot (pa i) (ad i) (mm i) (cap i) (gr i) k)
theorem HistAt.kind {w : World} {A : Nat} {nm : ByteArray} {kd : Int} {m : Nat} {f : Nat → It} {ad : Option Addr} {cap : Nat} {gr cp : Nat → Nat} {bl : Nat → List Rw} (h : HistAt w A nm kd m f ad cap gr cp bl) {k : Nat} (hk : foot A ad m cap gr k) :
    ∃ cs t, w.heap[k]? = some (.cells cs t (0, 0)) ∧ (t = 145 ∨ t = 193 ∨ t = 195) := by
  rcases hk with rfl | hk | ⟨i, hi, rfl⟩
  · exact ⟨_, _, h.acc, .inl rfl⟩
  · rcases h.blk.2 with ⟨e, _⟩ | ⟨g, cap', cur, e, _, hc, _⟩
    · rw [e] at hk; cases hk
    · rw [e] at hk
      have : g = k := Option.some.inj hk
      subst this
      exact ⟨_, _, hc, .inr (.inl rfl)⟩
  · rcases (h.row i hi).2 with ⟨e, _⟩ | ⟨g, cap', cur, e, _, hc, _⟩
    · cases e
    · injection e with e1
      injection e1 with e1
      injection e1 with e1
      rw [e1]
      exact ⟨_, _, hc, .inr (.inr rfl)⟩
theorem HistAt.lt {w : World} {A : Nat} {nm : ByteArray} {kd : Int} {m : Nat} {f : Nat → It} {ad : Option Addr} {cap : Nat} {gr cp : Nat → Nat} {bl : Nat → List Rw} (h : HistAt w A nm kd m f ad cap gr cp bl) {k : Nat} (hk : foot A ad m cap gr k) : k < w.heap.size := by
  obtain ⟨cs, t, hc, _⟩ := h.kind hk
  exact blk_lt hc
theorem Accs.kind {w : World} {na : Nat} {pa : Nat → Nat} {nm : Nat → ByteArray} {kd : Nat → Int} {mm : Nat → Nat} {ff : Nat → Nat → It} {F : Nat → Prop} (h : Accs w na pa nm kd mm ff F) {k : Nat} (hk : F k) :
    ∃ cs t, w.heap[k]? = some (.cells cs t (0, 0)) ∧ (t = 145 ∨ t = 193 ∨ t = 195) := by
  obtain ⟨ad, cap, gr, cp, bl, h1, _, h3⟩ := h
  obtain ⟨i, hi, hf⟩ := (h3 k).1 hk
  exact (h1 i hi).kind hf
theorem Accs.turn {w w' : World} {na : Nat} {pa : Nat → Nat} {nm : Nat → ByteArray} {kd : Nat → Int} {mm : Nat → Nat} {ff : Nat → Nat → It} {F : Nat → Prop} (h : Accs w na pa nm kd mm ff F) {S : Nat → Prop} (ht : Turn S w w') (hs : ∀ k, F k → ¬ S k) : Accs w' na pa nm kd mm ff F := by
  obtain ⟨ad, cap, gr, cp, bl, h1, h2, h3⟩ := h
  exact ⟨ad, cap, gr, cp, bl, fun i hi => (h1 i hi).turn ht (fun k hk => hs k ((h3 k).2 ⟨i, hi, hk⟩)), h2, h3⟩
theorem accs_add (na : Nat) (pa : Nat → Nat) (nm : Nat → ByteArray) (kd : Nat → Int) (mm : Nat → Nat) (ff : Nat → Nat → It) (F : Nat → Prop) (w : World) (p : Nat) (e0 d0 a0 : Int) (h : Accs w na pa nm kd mm ff F) (hp : p < na) (hm : mm p < 60) (ha : -1000000000000 ≤ a0 ∧ a0 ≤ 1000000000000) :
    Calls Tryz.prog 107 #[.pointer (some ⟨pa p, 2, none⟩), .agg #[.int .i64 e0, .int .i64 d0, .int .i64 a0]] w fun r w' => r = .returned (.tuple #[]) ∧ ∃ F',
      Accs w' na pa nm kd (fun i => if i = p then mm p + 1 else mm i) (fun i => if i = p then (fun j => if j = mm p then (e0, d0, a0) else ff p j) else ff i) F' ∧ Turn F w w' ∧ (∀ k, F' k → F k ∨ w.heap.size ≤ k) := by
  obtain ⟨ad, cap, gr, cp, bl, h1, h2, h3⟩ := h
  refine (histAdd_at (pa p) (nm p) (kd p) (mm p) (ff p) (ad p) (cap p) (gr p) (cp p) (bl p) w e0 d0 a0 (h1 p hp) hm ha).mono ?_
  rintro r w' ⟨rfl, ad', cap', gr', cp', bl', hA, hT, hF⟩
  have hkeep : ∀ i, i < na → i ≠ p → HistAt w' (pa i) (nm i) (kd i) (mm i) (ff i) (ad i) (cap i) (gr i) (cp i) (bl i) := fun i hi hip => (h1 i hi).turn hT (fun k hk => h2 i p k hi hp hip hk)
  have hdis : ∀ i k, i < na → i ≠ p → foot (pa i) (ad i) (mm i) (cap i) (gr i) k → ¬ foot (pa p) ad' (mm p + 1) cap' gr' k := fun i k hi hip hk hk' => by
    rcases hF k hk' with h | h
    · exact h2 i p k hi hp hip hk h
    · have := (h1 i hi).lt hk; omega
  refine ⟨rfl, fun k => ∃ i, i < na ∧ foot (pa i) (if i = p then ad' else ad i) (if i = p then mm p + 1 else mm i) (if i = p then cap' else cap i) (if i = p then gr' else gr i) k,
    ⟨fun i => if i = p then ad' else ad i, fun i => if i = p then cap' else cap i, fun i => if i = p then gr' else gr i, fun i => if i = p then cp' else cp i, fun i => if i = p then bl' else bl i, ?_, ?_, fun k => Iff.rfl⟩, ?_, ?_⟩
  · intro i hi
    by_cases hip : i = p
    · subst hip
      simp only [if_true]
      exact hA
    · simp only [if_neg hip]
      exact hkeep i hi hip
  · intro i j k hi hj hij hk
    by_cases hip : i = p
    · by_cases hjp : j = p
      · omega
      · subst hip
        simp only [if_true, if_neg hjp] at *
        exact fun hk' => hdis j k hj hjp hk' hk
    · by_cases hjp : j = p
      · subst hjp
        simp only [if_true, if_neg hip] at *
        exact hdis i k hi hip hk
      · simp only [if_neg hip, if_neg hjp] at *
        exact h2 i j k hi hj hij hk
  · exact hT.mono (fun k _ hk => (h3 k).2 ⟨p, hp, hk⟩)
  · rintro k ⟨i, hi, hk⟩
    by_cases hip : i = p
    · subst hip
      simp only [if_true] at hk
      rcases hF k hk with h | h
      · exact .inl ((h3 k).2 ⟨i, hi, h⟩)
      · exact .inr h
    · simp only [if_neg hip] at hk
      exact .inl ((h3 k).2 ⟨i, hi, hk⟩)
end Go.Proofs.YtjnmoddcodnadaaGreatDoor
namespace Go.Annal
/-- What a book's block says: rows of accounts, of what was done, of entries; the first day that is not locked. -/
structure Bk where
  na : Nat
  ca : Nat
  ada : Option Addr
  nd : Nat
  cd : Nat
  add : Option Addr
  ne : Nat
  ce : Nat
  ade : Option Addr
  ul : Int
  pa : Nat → Nat
  nm : Nat → ByteArray
  ds : List Value
  ev : Nat → Value
def ptrs (pa : Nat → Nat) (na : Nat) : List Value := (List.range na).map (fun i => .pointer (some ⟨pa i, 0, none⟩))
abbrev Bk.av (k : Bk) : Value := .slice k.ada k.na k.ca
abbrev Bk.dv (k : Bk) : Value := .slice k.add k.nd k.cd
abbrev Bk.nv (k : Bk) : Value := .slice k.ade k.ne k.ce
def Bk.evs (k : Bk) : List Value := (List.range k.ne).map k.ev
/-- The blocks of a book itself: its own one and its rows'. -/
def Bk.own (k : Bk) (B b : Nat) : Prop := b = B ∨ k.av.ownBlock = some b ∨ k.dv.ownBlock = some b ∨ k.nv.ownBlock = some b
end Go.Annal
namespace Go.Proofs.YtjnmoddcodnadaaGreatDoor
open Go.RowKit Go.Annal Go.Sort
structure BookIs (w : World) (B : Nat) (k : Bk) : Prop where
  bk : w.heap[B]? = some (.cells #[k.av, k.dv, k.nv, .int .i64 k.ul] 68 (0, 0))
  ac : w.ownsRow 0 132 1 k.av k.na (ptrs k.pa k.na)
  dn : w.ownsRow 0 70 1 k.dv k.nd k.ds
  en : w.ownsRow 0 181 1 k.nv k.ne k.evs
  up : ∀ x a b, a ≤ b → b < k.na → Op.bytesLess (k.nm b).toList x = true → Op.bytesLess (k.nm a).toList x = true
theorem Accs.acc {w : World} {na : Nat} {pa : Nat → Nat} {nm : Nat → ByteArray} {kd : Nat → Int} {mm : Nat → Nat} {ff : Nat → Nat → It} {F : Nat → Prop} (h : Accs w na pa nm kd mm ff F) {i : Nat} (hi : i < na) :
    F (pa i) ∧ ∃ v, w.heap[pa i]? = some (.cells #[.string (nm i), .int .i64 (kd i), v] 145 (0, 0)) := by
  obtain ⟨ad, cap, gr, cp, bl, h1, _, h3⟩ := h
  exact ⟨(h3 _).2 ⟨i, hi, .inl rfl⟩, _, (h1 i hi).acc⟩
theorem BookIs.at {w : World} {B : Nat} {k : Bk} (h : BookIs w B k) {kd : Nat → Int} {mm : Nat → Nat} {ff : Nat → Nat → It} {F : Nat → Prop} (hA : Accs w k.na k.pa k.nm kd mm ff F) :
    ∃ ga, BookAt w B ga k.ca k.na k.ada k.pa k.nm := by
  rcases h.ac.2 with ⟨e, hm⟩ | ⟨g, cap', cur, e, _, hc, _⟩
  · exact ⟨0, blk_cell' h.bk rfl, fun h => by omega, fun i hi => by omega, fun i hi => by omega, fun i hi => by omega, fun i hi => by omega, h.up⟩
  · injection e with e1 _ e3
    have hac := h.ac
    unfold Bk.av at hac
    rw [e1, e3] at hac
    refine ⟨g, blk_cell' h.bk rfl, fun _ => e1, fun i hi => ?_, fun i hi => hac.frozenAt _, fun i hi => ?_, fun i hi e => ?_, h.up⟩
    · rw [hac.cellAt i (by omega)]
      simp [ptrs, hi]
    · obtain ⟨_, v, hv⟩ := hA.acc hi
      exact blk_cell' hv rfl
    · obtain ⟨_, v, hv⟩ := hA.acc hi
      rw [e, hc] at hv
      simp at hv
theorem BookIs.turn {w w' : World} {B : Nat} {k : Bk} (h : BookIs w B k) {S : Nat → Prop} (ht : Turn S w w') (hs : ∀ b, k.own B b → ¬ S b) : BookIs w' B k :=
  ⟨ht.blk h.bk (hs B (.inl rfl)), owns_turn h.ac ht (fun g e => hs g (.inr (.inl e))), owns_turn h.dn ht (fun g e => hs g (.inr (.inr (.inl e)))), owns_turn h.en ht (fun g e => hs g (.inr (.inr (.inr e)))), h.up⟩
/-- A book's own blocks are of their own kinds. -/
theorem BookIs.kind {w : World} {B : Nat} {k : Bk} (h : BookIs w B k) {b : Nat} (hb : k.own B b) : ∃ cs t fz, w.heap[b]? = some (.cells cs t fz) ∧ (t = 68 ∨ t = 132 ∨ t = 70 ∨ t = 181) := by
  rcases hb with rfl | hb | hb | hb
  · exact ⟨_, _, _, h.bk, .inl rfl⟩
  · obtain ⟨c, fz, hc⟩ := owns_kind h.ac b hb
    exact ⟨_, _, _, hc, .inr (.inl rfl)⟩
  · obtain ⟨c, fz, hc⟩ := owns_kind h.dn b hb
    exact ⟨_, _, _, hc, .inr (.inr (.inl rfl))⟩
  · obtain ⟨c, fz, hc⟩ := owns_kind h.en b hb
    exact ⟨_, _, _, hc, .inr (.inr (.inr rfl))⟩
theorem BookIs.lt {w : World} {B : Nat} {k : Bk} (h : BookIs w B k) {b : Nat} (hb : k.own B b) : b < w.heap.size := by
  obtain ⟨cs, t, fz, hc, _⟩ := h.kind hb
  exact blk_lt hc
/-- They are no account's. -/
theorem Accs.not {w : World} {na : Nat} {pa : Nat → Nat} {nm : Nat → ByteArray} {kd : Nat → Int} {mm : Nat → Nat} {ff : Nat → Nat → It} {F : Nat → Prop} (h : Accs w na pa nm kd mm ff F) {b : Nat} {cs : Array Value} {t : TypeId} {fz : Nat × Nat} (hb : w.heap[b]? = some (.cells cs t fz)) (h1 : t ≠ 145) (h2 : t ≠ 193) (h3 : t ≠ 195) : ¬ F b := fun hc => by
  obtain ⟨cs', t', hk', ht'⟩ := h.kind hc
  rw [hb] at hk'
  simp at hk'
  rcases ht' with rfl | rfl | rfl
  · exact h1 hk'.2.1
  · exact h2 hk'.2.1
  · exact h3 hk'.2.1
theorem BookIs.apart {w : World} {B : Nat} {k : Bk} (h : BookIs w B k) {na : Nat} {pa : Nat → Nat} {nm : Nat → ByteArray} {kd : Nat → Int} {mm : Nat → Nat} {ff : Nat → Nat → It} {F : Nat → Prop} (hA : Accs w na pa nm kd mm ff F) {b : Nat} (hb : k.own B b) : ¬ F b := by
  obtain ⟨cs, t, fz, hc, ht⟩ := h.kind hb
  rcases ht with rfl | rfl | rfl | rfl <;> exact hA.not hc (by decide) (by decide) (by decide)
/-- How many items, and which, behind k lines of an entry, the l-th of which is for account p l. -/
def stM (p : Nat → Nat) (mm : Nat → Nat) : Nat → Nat → Nat
  | 0 => mm
  | k + 1 => fun i => if i = p k then stM p mm k (p k) + 1 else stM p mm k i
def stF (p : Nat → Nat) (it : Nat → It) (mm : Nat → Nat) (ff : Nat → Nat → It) : Nat → Nat → Nat → It
  | 0 => ff
  | k + 1 => fun i => if i = p k then (fun j => if j = stM p mm k (p k) then it k else stF p it mm ff k (p k) j) else stF p it mm ff k i
theorem stM_same (p : Nat → Nat) (mm : Nat → Nat) (i : Nat) : ∀ k, (∀ l, l < k → p l ≠ i) → stM p mm k i = mm i
  | 0, _ => rfl
  | k + 1, h => by
    simp only [stM]
    rw [if_neg (fun e => h k (by omega) e.symm)]
    exact stM_same p mm i k (fun l hl => h l (by omega))
theorem LinesAt.turn {w w' : World} {lg lo n : Nat} {xa : Nat → ByteArray} {xm : Nat → Int} (h : LinesAt w lg lo n xa xm) {S : Nat → Prop} (ht : Turn S w w') (hs : ¬ S lg) (hlt : lg < w.heap.size) : LinesAt w' lg lo n xa xm :=
  ⟨fun k hk => (World.cell?_of_block (w := w) (ht.block lg hlt hs)).trans (h.ca k hk), fun k hk => (World.cell?_of_block (w := w) (ht.block lg hlt hs)).trans (h.cm k hk)⟩
end Go.Proofs.YtjnmoddcodnadaaGreatDoor
