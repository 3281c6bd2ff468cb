import Derived.Test.YtjnmoddcodnadaaGreatDoorG46
import Derived.Test.YtjnmoddcodnadaaGreatDoorG41
import Derived.Test.YtjnmoddcodnadaaGreatDoorG43
set_option linter.unusedVariables false
set_option linter.unusedSimpArgs false
namespace Go.Proofs.YtjnmoddcodnadaaGreatDoor
open Go.RowKit Go.Annal Go.Sort
theorem begun_mine (w W : World) (B : Nat) (s : St) (h : Hid (Mine w W B s)) : Calls Tryz.prog 47 #[] W fun r w' => r = .returned (.bool true) ∧ Hid (Mine w w' B s) :=
  (begun_any W).mono fun _ _ ⟨hr, hb⟩ => ⟨hr, h.out.mv hb⟩
theorem changed_close (w W : World) (B : Nat) (h : Hid (Mine w W B sc3)) : Calls Tryz.prog 32 #[.pointer (some ⟨B, 0, none⟩), .int .i64 4, .string ⟨#[99, 97, 115, 104]⟩] W fun r w' => r = .returned (.tuple #[.int .i64 2, .int .i64 0]) ∧ Hid (Mine w w' B sc4) := by
  have := mine_close h.out sc3_ok 4 cashB
  rw [sc4_e.1, sc4_e.2] at this
  exact this
theorem changed_rev1 (w W : World) (B : Nat) (h : Hid (Mine w W B sc4)) : Calls Tryz.prog 30 #[.pointer (some ⟨B, 0, none⟩), .int .i64 1] W fun r w' => r = .returned (.tuple #[.int .i64 3, .int .i64 0]) ∧ Hid (Mine w w' B sc5) := by
  have := mine_rev h.out sc4_ok 1
  rw [sc5_e.1, sc5_e.2.1] at this
  exact this
theorem changed_rev2 (w W : World) (B : Nat) (h : Hid (Mine w W B sc5)) : Calls Tryz.prog 30 #[.pointer (some ⟨B, 0, none⟩), .int .i64 1] W fun r w' => r = .returned (.tuple #[.int .i64 0, .int .i64 12]) ∧ Hid (Mine w w' B sc5) := by
  have := mine_rev h.out sc5_ok 1
  have e1 : sc5.revN 1 = 0 := by unfold St.revN; rw [sc5_e.2.2.1]; rfl
  have e2 : sc5.afterRev 1 = sc5 := by unfold St.afterRev; rw [sc5_e.2.2.1]; rfl
  rw [sc5_e.2.2.1, e1, e2] at this
  exact this
theorem changed_lock (w W : World) (B : Nat) (h : Hid (Mine w W B sc5)) : Calls Tryz.prog 31 #[.pointer (some ⟨B, 0, none⟩), .int .i64 4] W fun r w' => r = .returned (.int .i64 11) ∧ Hid (Mine w w' B sc5) := by
  have := mine_lock h.out sc5_ok 4
  have e2 : sc5.afterLock 4 = sc5 := by unfold St.afterLock; rw [sc5_e.2.2.2]; rfl
  rw [sc5_e.2.2.2, e2] at this
  exact this
theorem changed_bal1 (w W : World) (B : Nat) (h : Hid (Mine w W B sc5)) : Calls Tryz.prog 34 #[.pointer (some ⟨B, 0, none⟩), .string ⟨#[114, 101, 110, 116]⟩, .int .i64 4, .int .i64 3] W fun r w' => r = .returned (.tuple #[.int .i64 0, .int .i64 (sc5.balE rentB 4 3)]) ∧ Hid (Mine w w' B sc5) := by
  have := mine_bal h.out sc5_ok rentB 4 3
  rw [sc5_b.1] at this
  exact this
theorem changed_bal2 (w W : World) (B : Nat) (h : Hid (Mine w W B sc5)) : Calls Tryz.prog 34 #[.pointer (some ⟨B, 0, none⟩), .string ⟨#[114, 101, 110, 116]⟩, .int .i64 5, .int .i64 3] W fun r w' => r = .returned (.tuple #[.int .i64 (-70), .int .i64 (sc5.balE rentB 5 3)]) ∧ Hid (Mine w w' B sc5) := by
  have := mine_bal h.out sc5_ok rentB 5 3
  rw [sc5_b.2] at this
  exact this
set_option maxHeartbeats 4000000 in
set_option maxRecDepth 100000 in
theorem changed_any (w : World) : Calls Tryz.prog 19 #[] w fun r w' => r = .returned (.bool true) ∧ Below w.heap.size w w' := by
  go_enter Tryz.func19, Tryz.ntmps19
  go_wp2_with (first
    | (go_at_call 25; with_reducible refine Calls.mono (begun_new _) ?_; rintro e w0 ⟨rfl, hm0⟩)
    | (go_at_call 47; with_reducible refine Calls.mono (begun_mine w _ _ _ hm0) ?_; rintro e w1 ⟨rfl, hm1⟩; clear hm0)
    | (go_at_call 38; with_reducible refine Calls.mono (begun_open1 w _ _ hm1) ?_; rintro e w2 ⟨rfl, hm2⟩; clear hm1)
    | (go_at_call 38; with_reducible refine Calls.mono (begun_open2 w _ _ hm2) ?_; rintro e w3 ⟨rfl, hm3⟩; clear hm2)
    | (go_at_call 28; with_reducible refine Calls.mono (changed_post w _ _ hm3) ?_; rintro e w4 ⟨rfl, hm4⟩; clear hm3)
    | (go_at_call 32; with_reducible refine Calls.mono (changed_close w _ _ hm4) ?_; rintro e w5 ⟨rfl, hm5⟩; clear hm4)
    | (go_at_call 30; with_reducible refine Calls.mono (changed_rev1 w _ _ hm5) ?_; rintro e w6 ⟨rfl, hm6⟩; clear hm5)
    | (go_at_call 30; with_reducible refine Calls.mono (changed_rev2 w _ _ hm6) ?_; rintro e w7 ⟨rfl, hm7⟩; clear hm6)
    | (go_at_call 31; with_reducible refine Calls.mono (changed_lock w _ _ hm7) ?_; rintro e w8 ⟨rfl, hm8⟩; clear hm7)
    | (go_at_call 34; with_reducible refine Calls.mono (changed_bal1 w _ _ hm8) ?_; rintro e w9 ⟨rfl, hm9⟩; clear hm8)
    | (go_at_call 34; with_reducible refine Calls.mono (changed_bal2 w _ _ hm9) ?_; rintro e w10 ⟨rfl, hm10⟩; clear hm9))
  go_ret
  exact ⟨rfl, hm10.out.below⟩
end Go.Proofs.YtjnmoddcodnadaaGreatDoor
namespace Go.Proofs.YtjnmoddcodnadaaGreatDoor
open Go.RowKit Go.Annal Go.Sort Go.Shelf
theorem read_T1 (w : World) (ht : Tabs w) : Calls Tryz.prog 12 #[.string T1] w fun r w' => r = .returned (.tuple #[.pointer (some ⟨w.heap.size + 3, 0, none⟩), .int .i64 0, .int .i64 0]) ∧ Hid (Below w.heap.size w w' ∧ ∃ s Fp, s.Ok ∧ s.tx = T1 ∧ ProgIs w' (w.heap.size + 3) s Fp) := by
  refine (read_F T1 w ht (by decide)).mono ?_
  rintro r w' ⟨hb, ⟨s, Fp, h1, h2, h3, h4, h5, h6, h7⟩ | ⟨p, x, s, h1, h2, h3, h4, h5⟩⟩
  · exact ⟨h5, hb, s, Fp, h2, h3, h6⟩
  · have := T1_read
    rw [h4] at this
    cases this
theorem read_T2 (w : World) (ht : Tabs w) : Calls Tryz.prog 12 #[.string T2] w fun r w' => r = .returned (.tuple #[.pointer none, .int .i64 2, .int .i64 11]) ∧ Hid (Below w.heap.size w w') := by
  refine (read_F T2 w ht (by decide)).mono ?_
  have h0 := T2_read
  rintro r w' ⟨hb, ⟨s, Fp, h1, h2, h3, h4, h5, h6, h7⟩ | ⟨p, x, s, h1, h2, h3, h4, h5⟩⟩
  · rw [h1] at h0; cases h0
  · rw [h4] at h0
    simp only [Prod.mk.injEq] at h0
    rw [h5, h0.1, h0.2]
    exact ⟨rfl, hb⟩
theorem write_T1 {w w2 w3 : World} (k2 : Hid (Below w.heap.size w w2 ∧ ∃ s Fp, s.Ok ∧ s.tx = T1 ∧ ProgIs w2 (w.heap.size + 3) s Fp)) (k3 : Below w2.heap.size w2 w3) (ht : Tabs w3) :
    Calls Tryz.prog 11 #[.pointer (some ⟨w.heap.size + 3, 0, none⟩)] w3 fun r w' => r = .returned (.string T1) ∧ Below w3.heap.size w3 w' := by
  obtain ⟨s, Fp, h1, h2, h3⟩ := k2.out.2
  have := progWrite _ s Fp w3 (h3.turn (S := fun _ => False) (Turn.of_below k3) (fun _ _ h => h)) h1 ht
  rwa [h2] at this
set_option maxHeartbeats 1000000 in
set_option maxRecDepth 100000 in
theorem written_any (w : World) (ht : Tabs w) : Calls Tryz.prog 9 #[] w fun r w' => r = .returned (.bool true) ∧ Below w.heap.size w w' := by
  have HT : Hid (type_of% ht) := ht
  clear ht
  go_enter Tryz.func9, Tryz.ntmps9
  have CT : Hid (∀ W, Below w.heap.size w W → Tabs W) := fun W h => HT.out.below h
  go_wp2_with (first
    | (go_at_call 19; (with_reducible refine Calls.mono (changed_any _) ?_); rintro e w1 ⟨rfl, hb1⟩; have HB1 : Hid (type_of% hb1) := hb1; clear hb1)
    | (go_at_call 12; first
      | ((with_reducible refine Calls.mono (read_T1 _ (CT.out _ HB1.out)) ?_); rintro e w2 ⟨rfl, k2⟩; have HB2 : Hid (Below w.heap.size w w2) := HB1.out.trans (k2.out.1.mono HB1.out.size))
      | ((with_reducible refine Calls.mono (read_T2 _ (CT.out _ HB2.out)) ?_); rintro e w3 ⟨rfl, k3⟩; have HB3 : Hid (Below w.heap.size w w3) := HB2.out.trans (k3.out.mono HB2.out.size)))
    | (go_at_call 11; (with_reducible refine Calls.mono (write_T1 k2 k3.out (CT.out _ HB3.out)) ?_); rintro e w4 ⟨rfl, hb4⟩; have HB4 : Hid (type_of% hb4) := hb4; clear hb4))
  go_ret
  exact ⟨rfl, HB3.out.trans (HB4.out.mono HB3.out.size)⟩
end Go.Proofs.YtjnmoddcodnadaaGreatDoor
namespace Go.Annal
open Go.RowKit Go.Proofs.YtjnmoddcodnadaaGreatDoor
/-- A line that is ended. -/
def Whole (l : List UInt8) : Prop := ∃ u, l = u ++ [10] ∧ (10 : UInt8) ∉ u
theorem lnsL_whole {l : List UInt8} (h : Whole l) (r : List UInt8) : lnsL (l ++ r) = l :: lnsL r := by
  obtain ⟨u, rfl, hu⟩ := h
  induction u with
  | nil => show lnsL (10 :: r) = _; rw [lnsL, if_pos rfl]; rfl
  | cons b t ih =>
    simp only [List.mem_cons, not_or] at hu
    have ih := ih hu.2
    show lnsL (b :: (t ++ [10] ++ r)) = _
    rw [lnsL, if_neg (fun e => hu.1 e.symm), ih]
    rfl
theorem lnsL_wholes : ∀ (p : List (List UInt8)) (r : List UInt8), (∀ l ∈ p, Whole l) → lnsL (p.flatten ++ r) = p ++ lnsL r
  | [], r, _ => rfl
  | l :: p, r, h => by
    rw [List.flatten_cons, List.append_assoc, lnsL_whole (h l List.mem_cons_self), lnsL_wholes p r (fun y hy => h y (List.mem_cons_of_mem _ hy))]
    rfl
theorem lnsL_form : ∀ t, ∃ ps last, lnsL t = ps ++ last ∧ (∀ l ∈ ps, Whole l) ∧ (last = [] ∨ ∃ y, last = [y] ∧ (10 : UInt8) ∉ y)
  | [] => ⟨[], [], rfl, (fun _ h => by cases h), .inl rfl⟩
  | b :: t => by
    obtain ⟨ps, last, h1, h2, h3⟩ := lnsL_form t
    by_cases hb : b = 10
    · subst hb
      refine ⟨[10] :: ps, last, by rw [lnsL, if_pos rfl, h1]; rfl, fun l hl => ?_, h3⟩
      rcases List.mem_cons.1 hl with rfl | hl
      · exact ⟨[], rfl, by simp⟩
      · exact h2 l hl
    · have hb' : (10 : UInt8) ≠ b := fun e => hb e.symm
      cases ps with
      | nil =>
        rcases h3 with rfl | ⟨y, rfl, hy⟩
        · exact ⟨[], [[b]], by rw [lnsL, if_neg hb, h1]; rfl, (fun _ h => by cases h), .inr ⟨[b], rfl, by simpa using hb'⟩⟩
        · exact ⟨[], [b :: y], by rw [lnsL, if_neg hb, h1]; rfl, (fun _ h => by cases h), .inr ⟨b :: y, rfl, by simp [hb', hy]⟩⟩
      | cons l ls =>
        refine ⟨(b :: l) :: ls, last, by rw [lnsL, if_neg hb, h1]; rfl, fun m hm => ?_, h3⟩
        rcases List.mem_cons.1 hm with rfl | hm
        · obtain ⟨u, rfl, hu⟩ := h2 l List.mem_cons_self
          exact ⟨b :: u, rfl, by simp [hb', hu]⟩
        · exact h2 m (List.mem_cons_of_mem _ hm)
/-- A line within a text: those ahead of it are ended; it is, or it is the last one. -/
theorem lnsL_at {t : List UInt8} {p : List (List UInt8)} {x : List UInt8} {q : List (List UInt8)} (h : lnsL t = p ++ x :: q) : (∀ l ∈ p, Whole l) ∧ t = p.flatten ++ (x ++ q.flatten) ∧ (Whole x ∨ ((10 : UInt8) ∉ x ∧ q = [])) := by
  obtain ⟨ps, last, h1, h2, h3⟩ := lnsL_form t
  have hf : t = p.flatten ++ (x ++ q.flatten) := by
    have := lnsL_flat t
    rw [h] at this
    simpa using this.symm
  rw [h1] at h
  rcases List.append_eq_append_iff.1 h with ⟨c, e1, e2⟩ | ⟨c, e1, e2⟩
  · -- p = ps ++ c, last = c ++ x :: q
    have hc : c = [] ∧ q = [] ∧ (10 : UInt8) ∉ x := by
      rcases h3 with rfl | ⟨y, rfl, hy⟩
      · have := congrArg List.length e2; simp at this
      · cases c with
        | nil => simp at e2; exact ⟨rfl, e2.2, by rw [← e2.1]; exact hy⟩
        | cons a b => have := congrArg List.length e2; simp at this
    obtain ⟨rfl, rfl, hx⟩ := hc
    rw [List.append_nil] at e1
    subst e1
    exact ⟨h2, hf, .inr ⟨hx, rfl⟩⟩
  · -- ps = p ++ c, x :: q = c ++ last
    refine ⟨fun l hl => h2 l (by rw [e1]; exact List.mem_append_left _ hl), hf, ?_⟩
    cases c with
    | nil =>
      rcases h3 with rfl | ⟨y, rfl, hy⟩
      · simp at e2
      · simp at e2; exact .inr ⟨by rw [e2.1]; exact hy, e2.2⟩
    | cons a b =>
      simp at e2
      exact .inl (h2 x (by rw [e1, e2.1]; simp))
theorem lns_list (x : ByteArray) : (lns x).map (·.data.toList) = lnsL x.data.toList := by
  unfold lns
  rw [List.map_map]
  have : ((fun y : ByteArray => y.data.toList) ∘ fun l : List UInt8 => (⟨l.toArray⟩ : ByteArray)) = id := by funext l; simp
  rw [this, List.map_id]
theorem lns_of_list {x : ByteArray} {p : List ByteArray} (h : lnsL x.data.toList = p.map (·.data.toList)) : lns x = p := by
  unfold lns
  rw [h, List.map_map]
  have : ((fun l : List UInt8 => (⟨l.toArray⟩ : ByteArray)) ∘ fun y : ByteArray => y.data.toList) = id := by funext y; simp
  rw [this, List.map_id]
/-- Where the lines ahead of one end. -/
def atP (p : List ByteArray) : Nat := (p.map (·.data.toList)).flatten.length
/-- What is known of a text and one of its lines. -/
structure CutAt (text : ByteArray) (p : List ByteArray) (x : ByteArray) : Prop where
  whole : ∀ l ∈ p, Whole l.data.toList
  text : ∃ r, text.data.toList = (p.map (·.data.toList)).flatten ++ (x.data.toList ++ r) ∧ (Whole x.data.toList ∨ ((10 : UInt8) ∉ x.data.toList ∧ r = []))
theorem cut_at {text : ByteArray} {p : List ByteArray} {x : ByteArray} (h : (p ++ [x]) <+: lns text) : CutAt text p x := by
  obtain ⟨q, hq⟩ := h
  have e : lnsL text.data.toList = p.map (·.data.toList) ++ x.data.toList :: q.map (·.data.toList) := by
    rw [← lns_list, ← hq]; simp
  obtain ⟨h1, h2, h3⟩ := lnsL_at e
  refine ⟨fun l hl => h1 _ (List.mem_map_of_mem hl), _, h2, ?_⟩
  rcases h3 with h3 | ⟨h3, h4⟩
  · exact .inl h3
  · exact .inr ⟨h3, by rw [h4]; rfl⟩
/-- The text up to a line has the lines ahead of it. -/
theorem CutAt.ahead {text : ByteArray} {p : List ByteArray} {x : ByteArray} (h : CutAt text p x) : lns (text.extract 0 (atP p)) = p := by
  obtain ⟨r, hr, _⟩ := h.text
  apply lns_of_list
  rw [extract_list, hr]
  simp only [List.drop_zero, Nat.sub_zero]
  unfold atP
  rw [List.take_left]
  have := lnsL_wholes (p.map (·.data.toList)) [] (fun l hl => by
    obtain ⟨y, hy, rfl⟩ := List.mem_map.1 hl
    exact h.whole y hy)
  rw [List.append_nil] at this
  rw [this]
  exact List.append_nil _
/-- The text with that line, and anything behind. -/
theorem CutAt.behind {text : ByteArray} {p : List ByteArray} {x : ByteArray} (h : CutAt text p x) (hw : Whole x.data.toList) (more : ByteArray) : (p ++ [x]) <+: lns (text.extract 0 (atP p + x.size) ++ more) := by
  obtain ⟨r, hr, _⟩ := h.text
  have e : (text.extract 0 (atP p + x.size) ++ more).data.toList = ((p ++ [x]).map (·.data.toList)).flatten ++ more.data.toList := by
    rw [ba_app, extract_list, hr]
    simp only [List.drop_zero, Nat.sub_zero]
    congr 1
    unfold atP
    rw [← List.append_assoc, Lib.size_eq, ← List.length_append, List.take_left]
    simp
  have e2 : lnsL (text.extract 0 (atP p + x.size) ++ more).data.toList = (p ++ [x] ++ lns more).map (·.data.toList) := by
    rw [e, lnsL_wholes _ _ (fun l hl => by
      obtain ⟨y, hy, rfl⟩ := List.mem_map.1 hl
      rcases List.mem_append.1 hy with hy | hy
      · exact h.whole y hy
      · rw [List.mem_singleton.1 hy]; exact hw)]
    rw [List.map_append, List.map_append, List.map_append, lns_list]
  exact ⟨lns more, (lns_of_list e2).symm⟩
theorem atP_nil : atP [] = 0 := rfl
theorem atP_snoc (p : List ByteArray) (y : ByteArray) : atP (p ++ [y]) = atP p + y.size := by
  unfold atP
  rw [List.map_append, List.flatten_append, List.length_append, Lib.size_eq]
  simp
/-- A byte of the lines ahead. -/
theorem CutAt.le {text : ByteArray} {p : List ByteArray} {x : ByteArray} (h : CutAt text p x) : atP p + x.size ≤ text.size := by
  obtain ⟨r, hr, _⟩ := h.text
  have := congrArg List.length hr
  rw [← Lib.size_eq] at this
  simp only [List.length_append] at this
  unfold atP
  rw [Lib.size_eq x]
  omega
theorem CutAt.take {text : ByteArray} {p : List ByteArray} {x : ByteArray} (h : CutAt text p x) (j : Nat) (hj : j < p.length) : CutAt text (p.take j) p[j] := by
  obtain ⟨r, hr, _⟩ := h.text
  refine ⟨fun l hl => h.whole l (List.mem_of_mem_take hl), ((p.drop (j + 1)).map (·.data.toList)).flatten ++ (x.data.toList ++ r), ?_, .inl (h.whole _ (List.getElem_mem hj))⟩
  rw [hr]
  have e : p = p.take j ++ (p[j] :: p.drop (j + 1)) := by rw [List.getElem_cons_drop, List.take_append_drop]
  have e2 : (p.map (·.data.toList)).flatten = ((p.take j).map (·.data.toList)).flatten ++ (p[j].data.toList ++ ((p.drop (j + 1)).map (·.data.toList)).flatten) :=
    (congrArg (fun l : List ByteArray => (l.map (·.data.toList)).flatten) e).trans (by
      show (List.map _ (_ ++ _ :: _)).flatten = _
      rw [List.map_append, List.flatten_append, List.map_cons, List.flatten_cons])
  rw [e2]
  simp only [List.append_assoc]
/-- The byte at a place within a line. -/
theorem CutAt.byte {text : ByteArray} {p : List ByteArray} {x : ByteArray} (h : CutAt text p x) (i : Nat) (h0 : atP p ≤ i) (h1 : i < atP p + x.size) : text.data.toList[i]? = x.data.toList[i - atP p]? := by
  obtain ⟨r, hr, _⟩ := h.text
  rw [hr, List.getElem?_append_right h0, List.getElem?_append_left (by unfold atP at h1 h0; rw [Lib.size_eq] at h1; omega)]
  rfl
theorem whole_size {x : ByteArray} (h : Whole x.data.toList) : 0 < x.size ∧ x.data.toList[x.size - 1]? = some 10 ∧ ∀ i, i < x.size - 1 → x.data.toList[i]? ≠ some 10 := by
  obtain ⟨u, e, hu⟩ := h
  have hs : x.size = u.length + 1 := by rw [Lib.size_eq, e]; simp
  refine ⟨by omega, ?_, fun i hi e2 => ?_⟩
  · rw [hs, e]; simp
  · rw [e, List.getElem?_append_left (by omega)] at e2
    exact hu (List.mem_of_getElem? e2)
theorem open_bytes {x : ByteArray} (h : (10 : UInt8) ∉ x.data.toList) (i : Nat) : x.data.toList[i]? ≠ some 10 := fun e => h (List.mem_of_getElem? e)
end Go.Annal
namespace Go.Annal
open Go.Proofs.YtjnmoddcodnadaaGreatDoor
theorem dayB_small {d : Int} (h0 : 0 ≤ d) (h1 : d ≤ 12) : dayB d = true := by
  unfold dayB; simp; omega
theorem KOk.postE {s : St} (h : KOk s) (q : K5) {day : Int} (h0 : 0 ≤ day) (h1 : day ≤ 12) (hn : s.ne < 60) : s.postE day (lsA q) (lsM q) (lsN q) = if day ≤ s.lk then 11 else 0 := by
  unfold St.postE
  rw [dayB_small h0 h1, ls_wrong h q, decide_eq_false (show ¬ 60 ≤ s.ne by omega)]
  by_cases hl : day ≤ s.lk
  · rw [if_pos hl, decide_eq_true hl]; rfl
  · rw [if_neg hl, decide_eq_false hl]; rfl
theorem KOk.lockE {s : St} (_h : KOk s) {day : Int} (h0 : 0 ≤ day) (h1 : day ≤ 12) : s.lockE day = if day ≤ s.lk then 11 else 0 := by
  unfold St.lockE
  rw [dayB_small h0 h1]
  by_cases hl : day ≤ s.lk
  · rw [if_pos hl, decide_eq_true hl]; rfl
  · rw [if_neg hl, decide_eq_false hl]; rfl
theorem KOk.revE {s : St} (h : KOk s) {entry : Int} (h0 : 1 ≤ entry) (h1 : entry ≤ s.ne) (hn : s.ne < 60) : s.revE entry = if s.gn (entry - 1).toNat then 12 else 0 := by
  unfold St.revE
  have hd := h.dd (entry - 1).toNat (by omega)
  have hl := h.lk
  have hr : ¬ 9999 < revDay (s.dy (entry - 1).toNat) s.lk := by unfold revDay; split <;> omega
  rw [decide_eq_true ⟨h0, h1⟩, decide_eq_false hr, decide_eq_false (show ¬ 60 ≤ s.ne by omega)]
  cases s.gn (entry - 1).toNat <;> rfl
theorem KOk.closeE {s : St} (h : KOk s) {day : Int} (h0 : 0 ≤ day) (h1 : day ≤ 12) {i : Nat} (hi : i < 3) (hn : s.ne < 60) : s.closeE day (nmK i) = if day ≤ s.lk then 11 else if (s.closeL0 day).isEmpty then 7 else 0 := by
  have hf : s.closeF day (nmK i) = if day ≤ s.lk then 11 else 0 := by
    unfold St.closeF
    rw [h.at (show i < 6 by omega), dayB_small h0 h1, Int.toNat_natCast, h.kd i (by omega), if_pos hi, decide_eq_true (show (0 : Int) ≤ (i : Int) by omega), decide_eq_false (show ¬ (0 : Int) = 1 by decide)]
    by_cases hl : day ≤ s.lk
    · rw [if_pos hl, decide_eq_true hl]; rfl
    · rw [if_neg hl, decide_eq_false hl]; rfl
  unfold St.closeE
  rw [decide_eq_false (show ¬ 60 ≤ s.ne by omega)]
  by_cases hl : day ≤ s.lk
  · simp [hf, hl]
  · simp only [hf, if_neg hl]
    cases (s.closeL0 day).isEmpty <;> rfl
end Go.Annal
namespace Go.Proofs.YtjnmoddcodnadaaGreatDoor
open Go.RowKit Go.Annal Go.Sort
/-- What a step makes of a run. -/
def SteppedTo (w w' : World) (R B : Nat) (t : St) (Fp : Nat → Prop) : Prop := ∃ Fp', RunIs w' R B t Fp' ∧ Turn (fun b => b = R ∨ Fp b) w w' ∧ (∀ b, Fp' b → Fp b ∨ w.heap.size ≤ b)
theorem linesV_owns {w : World} {base : Nat} {v : Value} {n : Nat} {ya : Nat → ByteArray} {ym : Nat → Int} (h : w.ownsRow base 58 2 v n (lineCells ya ym n)) (h0 : 0 < n) (hn : n ≤ 1000) (hs : ∀ k, k < n → (ya k).size ≤ 1000) : ∃ g c, v = .slice (some ⟨g, 0, none⟩) n c ∧ LinesV w (some ⟨g, 0, none⟩) n c ya ym := by
  obtain ⟨g, c, rfl, _, hc, hL, _⟩ := owns_lines h h0
  exact ⟨g, c, rfl, hc, by omega, fun k hk => by have := hs k hk; omega, fun _ => ⟨g, 0, rfl, hL⟩⟩
theorem stepped_same {w w' : World} {R B : Nat} {s : St} {Fp : Nat → Prop} (h : RunIs w R B s Fp) (hb : Below w.heap.size w w') : SteppedTo w w' R B s Fp := ⟨Fp, h.mv hb, Turn.of_below hb, fun _ h => .inl h⟩
/-- Behind a call that has made t of the book, in which the run's own numbers are put right. -/
theorem stepped_by {w W w' w'' : World} {R B : Nat} {s t : St} {Fp Fp' : Nat → Prop} (h : RunIs w R B s Fp) (hW : Below w.heap.size w W) (hP : ProgIs w' B t Fp') (hT : Turn Fp W w') (hF : ∀ b, Fp' b → Fp b ∨ W.heap.size ≤ b)
    (hw : w''.heap[R]? = some (.cells #[.pointer (some ⟨B, 0, none⟩), .int .i64 t.ne, .int .i64 t.lk] 31 (0, 0))) (ht : Turn (fun b => b = R) w' w'') : SteppedTo w w'' R B t Fp := by
  have hRlt := blk_lt h.rn
  have hWs := hW.size
  have hap : ¬ Fp' R := fun hb => (hF R hb).elim h.ap (fun h' => by omega)
  have t0 : Turn (fun b => b = R ∨ Fp b) w w' := (Turn.of_below hW).trans (hT.mono (fun b _ hb => .inr hb))
  refine ⟨Fp', ⟨hw, hP.turn ht (fun b hb e => hap (e ▸ hb)), hap⟩, ?_, fun b hb => (hF b hb).elim .inl (fun h' => .inr (by omega))⟩
  exact t0.trans (ht.mono (fun b _ hb => .inl hb))
theorem run_kept {w W w' : World} {R B : Nat} {s : St} {Fp : Nat → Prop} (h : RunIs w R B s Fp) (hW : Below w.heap.size w W) (hT : Turn Fp W w') : w'.heap[R]? = some (.cells #[.pointer (some ⟨B, 0, none⟩), .int .i64 s.ne, .int .i64 s.lk] 31 (0, 0)) :=
  hT.blk ((hW.block _ (blk_lt h.rn)).trans h.rn) h.ap
set_option maxHeartbeats 4000000 in
set_option maxRecDepth 100000 in
theorem step_post (R B : Nat) (s : St) (Fp : Nat → Prop) (q : K5) (w : World) (h : RunIs w R B s Fp) (hk : KOk s) (hne : s.ne < 60) (hq : q.ok) (hK : pickI q.kind 8 < 5) :
    Calls Tryz.prog 13 #[.pointer (some ⟨R, 0, none⟩), .agg q.v] w fun r w' => r = .returned (.bool true) ∧ SteppedTo w w' R B (s.kstep q) Fp := by
  have hks : s.kstep q = s.afterPost (pickI q.day 12) (lsA q) (lsM q) (lsN q) := by unfold St.kstep; rw [if_pos hK]
  rw [hks]
  obtain ⟨hq1, hq2, hq3, hq4, hq5⟩ := id hq
  have hd := pickI_bd q.day 12 (by decide)
  have hpe := hk.postE q (day := pickI q.day 12) hd.1 (by omega) hne
  have hlk := hk.lk
  have hka : Grew w (w.alloc (.cells q.v 38)) := (Grew.refl _).alloc _
  have hbp := heap_alloc_new w (.cells q.v 38)
  have p0 : (w.alloc (.cells q.v 38)).cell? ⟨w.heap.size, 0, none⟩ = some (.int .i64 q.kind) := blk_cell' hbp rfl
  have p1 : (w.alloc (.cells q.v 38)).cell? ⟨w.heap.size, 1, none⟩ = some (.int .i64 q.day) := blk_cell' hbp rfl
  have p2 : (w.alloc (.cells q.v 38)).cell? ⟨w.heap.size, 2, none⟩ = some (.int .i64 q.a) := blk_cell' hbp rfl
  have p3 : (w.alloc (.cells q.v 38)).cell? ⟨w.heap.size, 3, none⟩ = some (.int .i64 q.b) := blk_cell' hbp rfl
  have p4 : (w.alloc (.cells q.v 38)).cell? ⟨w.heap.size, 4, none⟩ = some (.int .i64 q.c) := blk_cell' hbp rfl
  have rB := hka.cell' (blk_cell' h.rn (o := 0) rfl)
  have hkb := hka.below
  obtain ⟨W1, hW1⟩ : ∃ W1, w.alloc (.cells q.v 38) = W1 := ⟨_, rfl⟩
  have hW1' : w.alloc (.cells #[.int .i64 q.kind, .int .i64 q.day, .int .i64 q.a, .int .i64 q.b, .int .i64 q.c] 38) = W1 := hW1
  rw [hW1] at hka hbp p0 p1 p2 p3 p4 rB hkb
  have CL : Hid (∀ W, Calls Tryz.prog 29 #[.agg #[.int .i64 q.kind, .int .i64 q.day, .int .i64 q.a, .int .i64 q.b, .int .i64 q.c]] W fun r w' => ∃ v, r = .returned v ∧ w'.ownsRow W.heap.size 58 2 v (lsN q) (lineCells (lsA q) (lsM q) (lsN q)) ∧ Below W.heap.size W w') := fun W => linesK_any q W hq
  have hn2 : 2 ≤ lsN q ∧ lsN q ≤ 3 := by unfold lsN; split <;> omega
  have HLV : Hid (∀ W2 v base, W2.ownsRow base 58 2 v (lsN q) (lineCells (lsA q) (lsM q) (lsN q)) → ∃ g c, v = .slice (some ⟨g, 0, none⟩) (lsN q) c ∧ LinesV W2 (some ⟨g, 0, none⟩) (lsN q) c (lsA q) (lsM q)) := fun W2 v base ho => linesV_owns ho (by omega) (by omega) (ls_three q (fun x => x.size ≤ 1000) (fun i _ => by show (1 : Nat) ≤ 1000; decide))
  have HP : Hid (∀ W2 g c, Below w.heap.size w W2 → LinesV W2 (some ⟨g, 0, none⟩) (lsN q) c (lsA q) (lsM q) → Calls Tryz.prog 28 #[.pointer (some ⟨B, 0, none⟩), .int .i64 (pickI q.day 12), .slice (some ⟨g, 0, none⟩) (lsN q) c] W2 fun r w' => r = .returned (.tuple #[.int .i64 (s.postN (pickI q.day 12) (lsA q) (lsM q) (lsN q)), .int .i64 (s.postE (pickI q.day 12) (lsA q) (lsM q) (lsN q))]) ∧ w'.heap[R]? = some (.cells #[.pointer (some ⟨B, 0, none⟩), .int .i64 s.ne, .int .i64 s.lk] 31 (0, 0)) ∧ Hid (∃ Fp', ProgIs w' B (s.afterPost (pickI q.day 12) (lsA q) (lsM q) (lsN q)) Fp' ∧ Turn Fp W2 w' ∧ ∀ b, Fp' b → Fp b ∨ W2.heap.size ≤ b)) := fun W2 g c hW hLv => by
    refine (progPost B s Fp (pickI q.day 12) (some ⟨g, 0, none⟩) (lsN q) c (lsA q) (lsM q) W2 (h.pg.turn (S := fun _ => False) (Turn.of_below hW) (fun _ _ h => h)) hk.ok hLv).mono ?_
    rintro r w' ⟨rfl, Fp', q1, q2, q3⟩
    exact ⟨rfl, run_kept h hW q2, ⟨Fp', q1, q2, q3⟩⟩
  have HH : Hid (type_of% h) := h
  have HK : Hid (type_of% hk) := hk
  have HPE : Hid (type_of% hpe) := hpe
  clear h hk hpe hks hbp hq
  by_cases hl : pickI q.day 12 ≤ s.lk
  · have e11 : s.postE (pickI q.day 12) (lsA q) (lsM q) (lsN q) = 11 := by rw [HPE.out, if_pos hl]
    have en : s.postN (pickI q.day 12) (lsA q) (lsM q) (lsN q) = 0 := by unfold St.postN; rw [e11]; rfl
    have ea : Hid (s.afterPost (pickI q.day 12) (lsA q) (lsM q) (lsN q) = s) := by show _ = _; unfold St.afterPost; rw [e11]; rfl
    rw [e11, en] at HP
    show Calls _ _ #[_, .agg #[.int .i64 q.kind, .int .i64 q.day, .int .i64 q.a, .int .i64 q.b, .int .i64 q.c]] _ _
    go_enter Tryz.func13, Tryz.ntmps13
    go_wp2_with (go_at_call 14; refine Calls.mono (pickK_any _ _ _ (by omega) (by omega) (by omega) (by omega)) ?_; rintro e wx ⟨rfl, hw⟩; rw [hw]; clear hw wx)
    go_region_with (first
      | (go_at_call 29; refine Calls.mono (CL.out _) ?_; rintro e w2 ⟨v, rfl, ho2, hb2⟩; obtain ⟨g, c, rfl, hlv⟩ := HLV.out w2 v _ ho2; have hb12 : Below W1.heap.size W1 w2 := (by first | exact below_drew hb2 | exact hb2); have hb02 := hkb.trans (hb12.mono hkb.size); have rB2 := cell_later hb12 rB)
      | (go_at_call 28; refine Calls.mono (HP.out _ g c hb02 hlv) ?_; rintro e w3 ⟨rfl, hrn, hq3⟩; have x0 := blk_cell' hrn (o := 0) rfl; have x1 := blk_cell' hrn (o := 1) rfl; have x2 := blk_cell' hrn (o := 2) rfl; have z1 := blk_free hrn 1))
    all_goals go_wp2
    all_goals go_ret
    all_goals
      refine ⟨by first | rfl | (simp; done), ?_⟩
      obtain ⟨Fp', q1, q2, q3⟩ := hq3.out
      rw [ea.out] at q1 ⊢
      exact stepped_by HH.out hb02 q1 q2 q3 hrn (Turn.refl _ _)
  · have e0 : s.postE (pickI q.day 12) (lsA q) (lsM q) (lsN q) = 0 := by rw [HPE.out, if_neg hl]
    have en : s.postN (pickI q.day 12) (lsA q) (lsM q) (lsN q) = (s.ne : Int) + 1 := by unfold St.postN; rw [if_pos e0]
    have ea : Hid (s.afterPost (pickI q.day 12) (lsA q) (lsM q) (lsN q) = s.posted (pickI q.day 12) (lsA q) (lsM q) (lsN q)) := by show _ = _; unfold St.afterPost; rw [if_pos e0]
    rw [e0, en] at HP
    show Calls _ _ #[_, .agg #[.int .i64 q.kind, .int .i64 q.day, .int .i64 q.a, .int .i64 q.b, .int .i64 q.c]] _ _
    go_enter Tryz.func13, Tryz.ntmps13
    go_wp2_with (go_at_call 14; refine Calls.mono (pickK_any _ _ _ (by omega) (by omega) (by omega) (by omega)) ?_; rintro e wx ⟨rfl, hw⟩; rw [hw]; clear hw wx)
    go_region_with (first
      | (go_at_call 29; refine Calls.mono (CL.out _) ?_; rintro e w2 ⟨v, rfl, ho2, hb2⟩; obtain ⟨g, c, rfl, hlv⟩ := HLV.out w2 v _ ho2; have hb12 : Below W1.heap.size W1 w2 := (by first | exact below_drew hb2 | exact hb2); have hb02 := hkb.trans (hb12.mono hkb.size); have rB2 := cell_later hb12 rB)
      | (go_at_call 28; refine Calls.mono (HP.out _ g c hb02 hlv) ?_; rintro e w3 ⟨rfl, hrn, hq3⟩; have x0 := blk_cell' hrn (o := 0) rfl; have x1 := blk_cell' hrn (o := 1) rfl; have x2 := blk_cell' hrn (o := 2) rfl; have z1 := blk_free hrn 1))
    all_goals go_wp2
    all_goals go_ret
    all_goals
      refine ⟨by first | rfl | (simp; done), ?_⟩
      obtain ⟨Fp', q1, q2, q3⟩ := hq3.out
      rw [ea.out] at q1 ⊢
      exact stepped_by HH.out hb02 q1 q2 q3 (blk_set hrn 1 (.int .i64 ((s.ne : Int) + 1))) ((Turn.refl _ _).set _ _ (fun _ => rfl))
end Go.Proofs.YtjnmoddcodnadaaGreatDoor
namespace Go.Proofs.YtjnmoddcodnadaaGreatDoor
open Go.RowKit Go.Annal Go.Sort
set_option maxHeartbeats 4000000 in
set_option maxRecDepth 100000 in
theorem step_none (R B : Nat) (s : St) (Fp : Nat → Prop) (q : K5) (w : World) (h : RunIs w R B s Fp) (hk : KOk s) (hne : s.ne < 60) (hq : q.ok) (hK : pickI q.kind 8 = 5) (h0 : s.ne = 0) :
    Calls Tryz.prog 13 #[.pointer (some ⟨R, 0, none⟩), .agg q.v] w fun r w' => r = .returned (.bool true) ∧ SteppedTo w w' R B (s.kstep q) Fp := by
  have hks : s.kstep q = s := by
    unfold St.kstep
    rw [if_neg (by omega), if_neg (by omega), if_neg (by omega), if_neg (by omega)]
  rw [hks]
  obtain ⟨hq1, hq2, hq3, hq4, hq5⟩ := id hq
  have hd := pickI_bd q.day 12 (by decide)
  have hlk := hk.lk
  have hka : Grew w (w.alloc (.cells q.v 38)) := (Grew.refl _).alloc _
  have hbp := heap_alloc_new w (.cells q.v 38)
  have p0 : (w.alloc (.cells q.v 38)).cell? ⟨w.heap.size, 0, none⟩ = some (.int .i64 q.kind) := blk_cell' hbp rfl
  have p1 : (w.alloc (.cells q.v 38)).cell? ⟨w.heap.size, 1, none⟩ = some (.int .i64 q.day) := blk_cell' hbp rfl
  have p2 : (w.alloc (.cells q.v 38)).cell? ⟨w.heap.size, 2, none⟩ = some (.int .i64 q.a) := blk_cell' hbp rfl
  have rB := hka.cell' (blk_cell' h.rn (o := 0) rfl)
  have rN := hka.cell' (blk_cell' h.rn (o := 1) rfl)
  have hkb := hka.below
  obtain ⟨W1, hW1⟩ : ∃ W1, w.alloc (.cells q.v 38) = W1 := ⟨_, rfl⟩
  have hW1' : w.alloc (.cells #[.int .i64 q.kind, .int .i64 q.day, .int .i64 q.a, .int .i64 q.b, .int .i64 q.c] 38) = W1 := hW1
  rw [hW1] at hka hbp p0 p1 p2 rB rN hkb
  have hn0 : ¬ (0 : Int) < (s.ne : Int) := by omega
  have HH : Hid (type_of% h) := h
  clear h hk hq hbp hks
  show Calls _ _ #[_, .agg #[.int .i64 q.kind, .int .i64 q.day, .int .i64 q.a, .int .i64 q.b, .int .i64 q.c]] _ _
  go_enter Tryz.func13, Tryz.ntmps13
  go_wp2_with (go_at_call 14; refine Calls.mono (pickK_any _ _ _ (by omega) (by omega) (by omega) (by omega)) ?_; rintro e wx ⟨rfl, hw⟩; rw [hw]; clear hw wx)
  go_ret
  exact ⟨rfl, stepped_same HH.out hkb⟩
set_option maxHeartbeats 4000000 in
set_option maxRecDepth 100000 in
theorem step_lock (R B : Nat) (s : St) (Fp : Nat → Prop) (q : K5) (w : World) (h : RunIs w R B s Fp) (hk : KOk s) (hne : s.ne < 60) (hq : q.ok) (hK : pickI q.kind 8 = 6) :
    Calls Tryz.prog 13 #[.pointer (some ⟨R, 0, none⟩), .agg q.v] w fun r w' => r = .returned (.bool true) ∧ SteppedTo w w' R B (s.kstep q) Fp := by
  have hks : s.kstep q = s.afterLock (pickI q.day 12) := by
    unfold St.kstep
    rw [if_neg (by omega), if_neg (by omega), if_pos hK]
  rw [hks]
  obtain ⟨hq1, hq2, hq3, hq4, hq5⟩ := id hq
  have hd := pickI_bd q.day 12 (by decide)
  have hlk := hk.lk
  have hka : Grew w (w.alloc (.cells q.v 38)) := (Grew.refl _).alloc _
  have hbp := heap_alloc_new w (.cells q.v 38)
  have p0 : (w.alloc (.cells q.v 38)).cell? ⟨w.heap.size, 0, none⟩ = some (.int .i64 q.kind) := blk_cell' hbp rfl
  have p1 : (w.alloc (.cells q.v 38)).cell? ⟨w.heap.size, 1, none⟩ = some (.int .i64 q.day) := blk_cell' hbp rfl
  have p2 : (w.alloc (.cells q.v 38)).cell? ⟨w.heap.size, 2, none⟩ = some (.int .i64 q.a) := blk_cell' hbp rfl
  have rB := hka.cell' (blk_cell' h.rn (o := 0) rfl)
  have rN := hka.cell' (blk_cell' h.rn (o := 1) rfl)
  have hkb := hka.below
  obtain ⟨W1, hW1⟩ : ∃ W1, w.alloc (.cells q.v 38) = W1 := ⟨_, rfl⟩
  have hW1' : w.alloc (.cells #[.int .i64 q.kind, .int .i64 q.day, .int .i64 q.a, .int .i64 q.b, .int .i64 q.c] 38) = W1 := hW1
  rw [hW1] at hka hbp p0 p1 p2 rB rN hkb
  have hpe := hk.lockE (day := pickI q.day 12) hd.1 (by omega)
  have HP : Hid (∀ W2, Below w.heap.size w W2 → Calls Tryz.prog 31 #[.pointer (some ⟨B, 0, none⟩), .int .i64 (pickI q.day 12)] W2 fun r w' => r = .returned (.int .i64 (s.lockE (pickI q.day 12))) ∧ w'.heap[R]? = some (.cells #[.pointer (some ⟨B, 0, none⟩), .int .i64 s.ne, .int .i64 s.lk] 31 (0, 0)) ∧ Hid (∃ Fp', ProgIs w' B (s.afterLock (pickI q.day 12)) Fp' ∧ Turn Fp W2 w' ∧ ∀ b, Fp' b → Fp b ∨ W2.heap.size ≤ b)) := fun W2 hW => by
    refine (progLock B s Fp (pickI q.day 12) W2 (h.pg.turn (S := fun _ => False) (Turn.of_below hW) (fun _ _ h => h)) hk.ok).mono ?_
    rintro r w' ⟨rfl, Fp', q1, q2, q3⟩
    exact ⟨rfl, run_kept h hW q2, ⟨Fp', q1, q2, q3⟩⟩
  have HH : Hid (type_of% h) := h
  have HPE : Hid (type_of% hpe) := hpe
  clear h hk hq hbp hks hpe
  by_cases hl : pickI q.day 12 ≤ s.lk
  · have e11 : s.lockE (pickI q.day 12) = 11 := by rw [HPE.out, if_pos hl]
    have ea : Hid (s.afterLock (pickI q.day 12) = s) := by show _ = _; unfold St.afterLock; rw [e11]; rfl
    rw [e11] at HP
    show Calls _ _ #[_, .agg #[.int .i64 q.kind, .int .i64 q.day, .int .i64 q.a, .int .i64 q.b, .int .i64 q.c]] _ _
    go_enter Tryz.func13, Tryz.ntmps13
    go_wp2_with (first
      | (go_at_call 14; refine Calls.mono (pickK_any _ _ _ (by omega) (by omega) (by omega) (by omega)) ?_; rintro e wx ⟨rfl, hw⟩; rw [hw]; clear hw wx)
      | (go_at_call 31; refine Calls.mono (HP.out _ hkb) ?_; rintro e w3 ⟨rfl, hrn, hq3⟩; have x0 := blk_cell' hrn (o := 0) rfl; have x1 := blk_cell' hrn (o := 1) rfl; have x2 := blk_cell' hrn (o := 2) rfl; have z1 := blk_free hrn 1; have z2 := blk_free hrn 2))
    go_ret
    refine ⟨by first | rfl | (simp; done), ?_⟩
    obtain ⟨Fp', q1, q2, q3⟩ := hq3.out
    rw [ea.out] at q1 ⊢
    exact stepped_by HH.out hkb q1 q2 q3 hrn (Turn.refl _ _)
  · have e0 : s.lockE (pickI q.day 12) = 0 := by rw [HPE.out, if_neg hl]
    have ea : Hid ((s.afterLock (pickI q.day 12)).ne = s.ne ∧ (s.afterLock (pickI q.day 12)).lk = pickI q.day 12) := by show _ ∧ _; unfold St.afterLock; rw [if_pos e0]; exact ⟨rfl, rfl⟩
    rw [e0] at HP
    show Calls _ _ #[_, .agg #[.int .i64 q.kind, .int .i64 q.day, .int .i64 q.a, .int .i64 q.b, .int .i64 q.c]] _ _
    go_enter Tryz.func13, Tryz.ntmps13
    go_wp2_with (first
      | (go_at_call 14; refine Calls.mono (pickK_any _ _ _ (by omega) (by omega) (by omega) (by omega)) ?_; rintro e wx ⟨rfl, hw⟩; rw [hw]; clear hw wx)
      | (go_at_call 31; refine Calls.mono (HP.out _ hkb) ?_; rintro e w3 ⟨rfl, hrn, hq3⟩; have x0 := blk_cell' hrn (o := 0) rfl; have x1 := blk_cell' hrn (o := 1) rfl; have x2 := blk_cell' hrn (o := 2) rfl; have z1 := blk_free hrn 1; have z2 := blk_free hrn 2))
    go_ret
    refine ⟨by first | rfl | (simp; done), ?_⟩
    obtain ⟨Fp', q1, q2, q3⟩ := hq3.out
    exact stepped_by HH.out hkb q1 q2 q3 (by rw [ea.out.1, ea.out.2]; exact blk_set hrn 2 _) ((Turn.refl _ _).set _ _ (fun _ => rfl))
end Go.Proofs.YtjnmoddcodnadaaGreatDoor
namespace Go.Annal
open Go.Proofs.YtjnmoddcodnadaaGreatDoor
/-- The j-th of all balances: by names, then by days. -/
def tabF (s : St) (known : Int) (j : Nat) : Int := enS s.dy s.la s.lm (nmK (j / 13)) ((j % 13 : Nat) : Int) s.ln known.toNat
def tabL (s : St) (known : Int) (n : Nat) : List Value := (List.range n).map (fun j => .int .i64 (tabF s known j))
theorem tabL_snoc (s : St) (known : Int) (n : Nat) : tabL s known (n + 1) = tabL s known n ++ [.int .i64 (tabF s known n)] := by
  unfold tabL; rw [List.range_succ, List.map_append]; rfl
theorem KOk.bal {s : St} (h : KOk s) {known : Int} (k0 : 0 ≤ known) (k1 : known ≤ s.ne) {i d : Nat} (hi : i < 6) (hd : d ≤ 12) : s.balE (nmK i) d known = 0 ∧ s.bal (nmK i) d known = tabF s known (i * 13 + d) := by
  have he : s.balE (nmK i) d known = 0 := by
    unfold St.balE
    rw [h.there hi]
    have h1 : dayB (d : Int) = true := by unfold dayB; simp; omega
    have h2 : knownB known s.ne = true := by unfold knownB; simp; omega
    rw [h1, h2]; rfl
  refine ⟨he, ?_⟩
  unfold St.bal okOr
  rw [if_pos he]
  unfold tabF
  rw [show (i * 13 + d) / 13 = i by omega, show (i * 13 + d) % 13 = d by omega]
end Go.Annal
namespace Go.Proofs.YtjnmoddcodnadaaGreatDoor
open Go.RowKit Go.Annal Go.Sort
theorem Tryz.infoInt : (Tryz.prog.info? 3).map (fun i => (i.zero, i.size, i.bytes)) = some (some (.int .i64 0), 1, 8) := by kernel_rfl
set_option maxHeartbeats 4000000 in
set_option maxRecDepth 100000 in
theorem table_b (R B : Nat) (s : St) (Fp : Nat → Prop) (known : Int) (w : World) (rB : w.cell? ⟨R, 0, none⟩ = some (.pointer (some ⟨B, 0, none⟩))) (pg : ProgIs w B s Fp) (hk : KOk s) (k0 : 0 ≤ known) (k1 : known ≤ s.ne) :
    Calls Tryz.prog 15 #[.pointer (some ⟨R, 0, none⟩), .int .i64 known] w fun r w' => ∃ v, r = .returned (.tuple #[v, .bool true]) ∧ Hid (w'.ownsRow w.heap.size 3 1 v 78 (tabL s known 78) ∧ Below w.heap.size w w') := by
  obtain ⟨i0, hi, hz0, hz1, hz2⟩ := info_parts Tryz.infoInt
  have CN : Hid (∀ W, _) := fun W => namesK_any W
  have HB : Hid (∀ (i d : Nat) W, i < 6 → d ≤ 12 → Below w.heap.size w W → Calls Tryz.prog 34 #[.pointer (some ⟨B, 0, none⟩), .string (nmK i), .int .i64 d, .int .i64 known] W fun r w' => r = .returned (.tuple #[.int .i64 (tabF s known (i * 13 + d)), .int .i64 0]) ∧ Below W.heap.size W w') := fun i d W hi hd hW => by
    have := progBal B s Fp (nmK i) d known W (pg.turn (S := fun _ => False) (Turn.of_below hW) (fun _ _ h => h)) hk.ok
    rw [(hk.bal k0 k1 hi hd).1, (hk.bal k0 k1 hi hd).2] at this
    exact this
  clear pg hk
  go_enter Tryz.func15, Tryz.ntmps15
  go_wp2_with (go_at_call 33; refine Calls.mono (CN.out _) ?_; rintro e w1 ⟨rfl, hw1⟩)
  have hg1 : Grew w w1 := by rw [hw1]; exact (Grew.refl _).alloc _
  have hb1 := hg1.below
  have hN1 : w1.heap[w.heap.size]? = some (.cells nmCells 9 (0, 0)) := by rw [hw1]; exact heap_alloc_new w _
  have hs1 : w1.heap.size = w.heap.size + 1 := by rw [hw1, World.size_alloc]
  have rB1 := hg1.cell' rB
  rw [← hw1]
  clear hw1
  have HW : Hid (∀ wr, Below w1.heap.size w1 wr → Below w.heap.size w wr ∧ wr.cell? ⟨R, 0, none⟩ = some (.pointer (some ⟨B, 0, none⟩)) ∧ ∀ i, i < 6 → wr.cell? ⟨w.heap.size, i, none⟩ = some (.string (nmK i))) := fun wr hb => ⟨hb1.trans (hb.mono hb1.size), cell_later hb rB1, fun i hi => blk_cell' ((hb.block _ (blk_lt hN1)).trans hN1) (nmCells_get i hi)⟩
  clear rB1 hN1 CN
  go_loopw [6, 8, 9, 10, 11, 12] (fun s6 s8 s9 _ _ _ wr => ∃ i : Nat, i ≤ 6 ∧ s9 = .int .i64 i ∧ s8 = .bool true ∧ Hid (wr.ownsRow w1.heap.size 3 1 s6 (i * 13) (tabL s known (i * 13))) ∧ Hid (Below w1.heap.size w1 wr)) (fun _ _ s9 _ _ _ _ => 6 - (intOf s9).toNat)
  case atStart => exact ⟨0, by omega, rfl, rfl, ⟨rfl, .inl ⟨rfl, rfl⟩⟩, Below.refl _ _⟩
  case round =>
    obtain ⟨i, hi6, rfl, rfl, ho, hb⟩ := hrel
    by_cases hlt : i < 6
    · have hlt' : (i : Int) < 6 := by omega
      have hi0 : (0 : Int) ≤ (i : Int) := by omega
      go_wp2
      go_loopw [6, 8, 10, 11, 12] (fun s6 s8 s10 _ _ wr => ∃ d : Nat, d ≤ 13 ∧ s10 = .int .i64 d ∧ s8 = .bool true ∧ Hid (wr.ownsRow w1.heap.size 3 1 s6 (i * 13 + d) (tabL s known (i * 13 + d))) ∧ Hid (Below w1.heap.size w1 wr)) (fun _ _ s10 _ _ _ => 13 - (intOf s10).toNat)
      case atStart => exact ⟨0, by omega, rfl, rfl, ho, hb⟩
      case round =>
        clear ho hb
        obtain ⟨d, hd13, rfl, rfl, ho, hb⟩ := hrel
        by_cases hdl : d < 13
        · have hdl' : (d : Int) ≤ 12 := by omega
          obtain ⟨hbw, cR, cN⟩ := HW.out _ hb.out
          have cN' := cN i hlt
          have CB : Hid (∀ W, Below w.heap.size w W → _) := fun W hW => HB.out i d W hlt (by omega) hW
          have hsz := hb.out.size
          clear cN
          go_wp2
          go_region_with (go_at_call 34; refine Calls.mono (CB.out _ hbw.drew) ?_; rintro e w3 ⟨rfl, hb3⟩; have hb13 : Below w1.heap.size w1 w3 := hb.out.trans ((below_drew hb3).mono hsz); have ho3 := owns_mv ho.out (below_drew hb3))
          all_goals go_wp2_with (at_builtin; go_loud (refine wpList_append_src rfl _ _ 40 rfl w1.heap.size 3 i0 _ 1 8 Tryz.underlying40 hi hz0 hz1 hz2 rfl (by decide) _ _ _ rfl (ho3.alloc _) _ 1 [.int .i64 (tabF s known (i * 13 + d))] rfl (src_new1 _ _ _) (by simp [Value.oneCell']) (by unfold maxLen; omega) (by omega) (by have := hb13.size; simp; omega) ?_); intro v4 w4 ho4 hg4; go_loud (have hb14 := (hb13.alloc hb13.size (.cells #[.int .i64 (tabF s known (i * 13 + d))] 3)).grown hg4 (by have := hb13.size; simp; omega) (fun x hx => (ho3.lt x hx).1)))
          all_goals exact ⟨⟨d + 1, by omega, by go_num, rfl, by rw [← Nat.add_assoc, tabL_snoc]; exact ho4, hb14⟩, by simp [intOf]; omega⟩
        · have hdl' : ¬ (d : Int) ≤ 12 := by omega
          obtain rfl : d = 13 := by omega
          go_wp2
          exact ⟨⟨i + 1, by omega, by go_num, rfl, by rw [show (i + 1) * 13 = i * 13 + 13 by omega]; exact ho, hb⟩, by simp [intOf]; omega⟩
    · have hlt' : ¬ (i : Int) < 6 := by omega
      obtain rfl : i = 6 := by omega
      go_wp2
      go_ret2
      exact ⟨_, rfl, owns_le ho.out (by omega), (HW.out _ hb.out).1⟩
theorem table_any (R B : Nat) (s : St) (Fp : Nat → Prop) (known : Int) (w : World) (h : RunIs w R B s Fp) (hk : KOk s) (k0 : 0 ≤ known) (k1 : known ≤ s.ne) :
    Calls Tryz.prog 15 #[.pointer (some ⟨R, 0, none⟩), .int .i64 known] w fun r w' => ∃ v, r = .returned (.tuple #[v, .bool true]) ∧ Hid (w'.ownsRow w.heap.size 3 1 v 78 (tabL s known 78) ∧ Below w.heap.size w w') :=
  table_b R B s Fp known w (blk_cell' h.rn rfl) h.pg hk k0 k1
end Go.Proofs.YtjnmoddcodnadaaGreatDoor
namespace Go.Annal
open Go.Proofs.YtjnmoddcodnadaaGreatDoor
/-- A book behind n steps. -/
def krun (qs : Nat → K5) : Nat → St
  | 0 => kn 6
  | n + 1 => (krun qs n).kstep (qs n)
theorem krun_ok (qs : Nat → K5) : ∀ n, KOk (krun qs n) ∧ (krun qs n).ne ≤ n
  | 0 => ⟨kn_kok, by rw [show krun qs 0 = kn 6 from rfl, (kn_is 6 (by omega)).1.ne]; exact Nat.le_refl _⟩
  | n + 1 => by
    obtain ⟨h1, h2⟩ := krun_ok qs n
    have := h1.step (qs n)
    exact ⟨this.1, by have := this.2.2; show ((krun qs n).kstep (qs n)).ne ≤ n + 1; omega⟩
/-- And behind m more. -/
def kmore (s : St) (qs : Nat → K5) : Nat → St
  | 0 => s
  | n + 1 => (kmore s qs n).kstep (qs n)
theorem kmore_ok {s : St} (h : KOk s) (qs : Nat → K5) : ∀ n, KOk (kmore s qs n) ∧ s.Le (kmore s qs n) ∧ (kmore s qs n).ne ≤ s.ne + n
  | 0 => ⟨h, St.Le.refl s, Nat.le_refl _⟩
  | n + 1 => by
    obtain ⟨h1, h2, h3⟩ := kmore_ok h qs n
    have := h1.step (qs n)
    exact ⟨this.1, h2.trans this.2.1, by have := this.2.2; show ((kmore s qs n).kstep (qs n)).ne ≤ s.ne + (n + 1); omega⟩
end Go.Annal
namespace Go.Annal
open Go.RowKit Go.Proofs.YtjnmoddcodnadaaGreatDoor
/-- A book that its text gives back. -/
def Reads (s : St) : Prop := ∃ p : List ByteArray, (∀ l ∈ p, Whole l.data.toList) ∧ (p.map (·.data.toList)).flatten = s.tx.data.toList ∧ runL St.new p = some s
theorem Reads.new : Reads St.new := ⟨[], (fun _ h => by cases h), rfl, rfl⟩
theorem Reads.read {s : St} (h : Reads s) : runL St.new (lns s.tx) = some s := by
  obtain ⟨p, h1, h2, h3⟩ := h
  have : lns s.tx = p := by
    apply lns_of_list
    have := lnsL_wholes (p.map (·.data.toList)) [] (fun l hl => by
      obtain ⟨y, hy, rfl⟩ := List.mem_map.1 hl
      exact h1 y hy)
    rw [List.append_nil, h2] at this
    rw [this]
    exact List.append_nil _
  rw [this]; exact h3
theorem redoF_whole (s : St) (x : ByteArray) : redoF s (x ++ ⟨#[10]⟩) = doF s x := by
  unfold redoF
  have e : (x ++ (⟨#[10]⟩ : ByteArray)).data.toList = x.data.toList ++ [10] := by rw [ba_app]
  have hs : Lib.hasSuffix (x.data.toList ++ [10]) [10] = true := List.isSuffixOf_iff_suffix.2 ⟨_, rfl⟩
  rw [e, if_pos hs]
  congr 1
  apply ba_data
  show (Lib.trimSuffix (x.data.toList ++ [10]) [10]).toArray.toList = _
  unfold Lib.trimSuffix
  rw [if_pos hs]
  simp
theorem Reads.step {s t : St} (h : Reads s) (x : ByteArray) (hx : (10 : UInt8) ∉ x.data.toList) (he : doF s x = (0, t)) : Reads t := by
  obtain ⟨p, h1, h2, h3⟩ := h
  have ht : t.tx = s.tx ++ x ++ ⟨#[10]⟩ := by
    have := doF_tx (s := s) x (by rw [he])
    rwa [he] at this
  refine ⟨p ++ [x ++ ⟨#[10]⟩], fun l hl => ?_, ?_, ?_⟩
  · rcases List.mem_append.1 hl with hl | hl
    · exact h1 l hl
    · rw [List.mem_singleton.1 hl]
      exact ⟨x.data.toList, by rw [ba_app], hx⟩
  · rw [ht, List.map_append, List.flatten_append, h2]
    simp
  · rw [runL_append, h3]
    show runL s [x ++ ⟨#[10]⟩] = some t
    unfold runL
    rw [redoF_whole, he]
    rfl
theorem index_at (c : UInt8) : ∀ (a b : List UInt8), c ∉ a → Lib.index (a ++ c :: b) [c] = a.length
  | [], b, _ => by simp [Lib.index]
  | d :: a, b, h => by
    simp only [List.mem_cons, not_or] at h
    have ih := index_at c a b h.2
    show Lib.index (d :: (a ++ c :: b)) [c] = _
    unfold Lib.index
    rw [if_neg (by simp; exact h.1), ih, if_neg (by simp)]
    simp
theorem cut_make (a b : ByteArray) (h : (32 : UInt8) ∉ a.data.toList) : wd (a ++ ⟨#[32]⟩ ++ b) = a ∧ rs (a ++ ⟨#[32]⟩ ++ b) = b ∧ fd (a ++ ⟨#[32]⟩ ++ b) = true := by
  have e : (a ++ (⟨#[32]⟩ : ByteArray) ++ b).data.toList = a.data.toList ++ 32 :: b.data.toList := by rw [ba_app, ba_app]; simp
  have hi := index_at 32 a.data.toList b.data.toList h
  have hc : Lib.cut (a.data.toList ++ 32 :: b.data.toList) [32] = (a.data.toList, b.data.toList, true) := by
    have h1 : (a.data.toList ++ 32 :: b.data.toList).take a.data.toList.length = a.data.toList := List.take_left
    have h2 : (a.data.toList ++ 32 :: b.data.toList).drop (a.data.toList.length + 1) = b.data.toList := by rw [← List.drop_drop, List.drop_left]; rfl
    unfold Lib.cut
    rw [hi, if_pos (by omega), Int.toNat_natCast, h1]
    exact congrArg (fun z => (a.data.toList, z, true)) h2
  refine ⟨?_, ?_, ?_⟩
  · unfold wd; rw [e, hc]
  · unfold rs; rw [e, hc]
  · unfold fd; rw [e, hc]
theorem cut_none (a : ByteArray) (h : (32 : UInt8) ∉ a.data.toList) : wd a = a ∧ rs a = ⟨#[]⟩ ∧ fd a = false := by
  have hi := (index_no 32 a.data.toList).2 h
  have hc : Lib.cut a.data.toList [32] = (a.data.toList, [], false) := by
    unfold Lib.cut
    rw [hi, if_neg (by decide)]
  refine ⟨?_, ?_, ?_⟩
  · unfold wd; rw [hc]
  · unfold rs; rw [hc]
  · unfold fd; rw [hc]
/-- A number's text. -/
def dB (v : Int) : ByteArray := ⟨(digZ v).toArray⟩
/-- A number that is read as it is written. -/
structure NumB (v : Int) : Prop where
  num : numB (dB v) = some v
  blank : (32 : UInt8) ∉ (dB v).data.toList
  line : (10 : UInt8) ∉ (dB v).data.toList
def numsB (i : Nat) : Bool := decide (numB (dB ((i : Int) - 1000)) = some ((i : Int) - 1000)) && !((dB ((i : Int) - 1000)).data.toList.contains 32) && !((dB ((i : Int) - 1000)).data.toList.contains 10)
theorem numsB_all : (List.range 2001).all numsB = true := by kernel_rfl
theorem numB_small {v : Int} (h1 : -1000 ≤ v) (h2 : v ≤ 1000) : NumB v := by
  have h := List.all_eq_true.1 numsB_all (v + 1000).toNat (by simp; omega)
  unfold numsB at h
  rw [show (((v + 1000).toNat : Int) - 1000) = v by omega] at h
  simp only [Bool.and_eq_true, Bool.not_eq_true', decide_eq_true_eq] at h
  refine ⟨h.1.1, fun hm => ?_, fun hm => ?_⟩
  · have := h.1.2
    rw [List.contains_iff_mem.2 hm] at this; cases this
  · have := h.2
    rw [List.contains_iff_mem.2 hm] at this; cases this
/-- A name as a word. -/
structure NameB (x : ByteArray) : Prop where
  name : isName x = true
  blank : (32 : UInt8) ∉ x.data.toList
  line : (10 : UInt8) ∉ x.data.toList
theorem nmK_word : ∀ i, i < 6 → NameB (nmK i) := fun i hi => by
  have h1 : ∀ i, i < 6 → isName (nmK i) = true := nmK_name
  have h2 : ∀ i, i < 6 → (32 : UInt8) ∉ (nmK i).data.toList := by decide +kernel
  have h3 : ∀ i, i < 6 → (10 : UInt8) ∉ (nmK i).data.toList := by decide +kernel
  exact ⟨h1 i hi, h2 i hi, h3 i hi⟩
theorem Reads.open' {s : St} (h : Reads s) {x : ByteArray} {k : Int} (hx : NameB x) (hk : NumB k) : Reads (s.afterOpen x k) := by
  by_cases he : s.openE x k = 0
  · refine h.step (⟨#[111]⟩ ++ ⟨#[32]⟩ ++ (x ++ ⟨#[32]⟩ ++ dB k)) ?_ ?_
    · simp only [ba_app, List.mem_append, not_or]
      exact ⟨⟨by decide, by decide⟩, ⟨hx.line, by decide⟩, hk.line⟩
    · obtain ⟨a1, a2, a3⟩ := cut_make ⟨#[111]⟩ (x ++ ⟨#[32]⟩ ++ dB k) (by decide)
      obtain ⟨b1, b2, b3⟩ := cut_make x (dB k) hx.blank
      obtain ⟨c1, c2, c3⟩ := cut_none (dB k) hk.blank
      unfold doF
      rw [a1, if_pos rfl, a2, a3, b1, b2, b3, c1, c3, hk.num, hx.name]
      simp [he]
  · unfold St.afterOpen
    rw [if_neg he]; exact h
theorem Reads.rev {s : St} (h : Reads s) {e : Int} (hk : NumB e) : Reads (s.afterRev e) := by
  by_cases he : s.revE e = 0
  · refine h.step (⟨#[114]⟩ ++ ⟨#[32]⟩ ++ dB e) ?_ ?_
    · simp only [ba_app, List.mem_append, not_or]
      exact ⟨⟨by decide, by decide⟩, hk.line⟩
    · obtain ⟨a1, a2, a3⟩ := cut_make ⟨#[114]⟩ (dB e) (by decide)
      obtain ⟨c1, c2, c3⟩ := cut_none (dB e) hk.blank
      unfold doF
      rw [a1, if_neg (by decide), if_neg (by decide), if_pos rfl, a2, a3, c1, c3, hk.num]
      simp [he]
  · unfold St.afterRev
    rw [if_neg he]; exact h
theorem Reads.lock {s : St} (h : Reads s) {e : Int} (hk : NumB e) : Reads (s.afterLock e) := by
  by_cases he : s.lockE e = 0
  · refine h.step (⟨#[108]⟩ ++ ⟨#[32]⟩ ++ dB e) ?_ ?_
    · simp only [ba_app, List.mem_append, not_or]
      exact ⟨⟨by decide, by decide⟩, hk.line⟩
    · obtain ⟨a1, a2, a3⟩ := cut_make ⟨#[108]⟩ (dB e) (by decide)
      obtain ⟨c1, c2, c3⟩ := cut_none (dB e) hk.blank
      unfold doF
      rw [a1, if_neg (by decide), if_neg (by decide), if_neg (by decide), if_pos rfl, a2, a3, c1, c3, hk.num]
      simp [he]
  · unfold St.afterLock
    rw [if_neg he]; exact h
theorem Reads.close {s : St} (h : Reads s) {e : Int} {x : ByteArray} (hk : NumB e) (hx : NameB x) : Reads (s.afterClose e x) := by
  by_cases he : s.closeE e x = 0
  · refine h.step (⟨#[99]⟩ ++ ⟨#[32]⟩ ++ (dB e ++ ⟨#[32]⟩ ++ x)) ?_ ?_
    · simp only [ba_app, List.mem_append, not_or]
      exact ⟨⟨by decide, by decide⟩, ⟨hk.line, by decide⟩, hx.line⟩
    · obtain ⟨a1, a2, a3⟩ := cut_make ⟨#[99]⟩ (dB e ++ ⟨#[32]⟩ ++ x) (by decide)
      obtain ⟨b1, b2, b3⟩ := cut_make (dB e) x hk.blank
      obtain ⟨c1, c2, c3⟩ := cut_none x hx.blank
      unfold doF
      rw [a1, if_neg (by decide), if_neg (by decide), if_neg (by decide), if_neg (by decide), if_pos rfl, a2, a3, b1, b2, b3, c1, c3, hk.num, hx.name]
      simp [he]
  · unfold St.afterClose
    rw [if_neg he]; exact h
/-- What stands behind the day. -/
def restT : List Ln → ByteArray
  | [] => ⟨#[]⟩
  | y :: r => y.1 ++ ⟨#[32]⟩ ++ (dB y.2 ++ match r with | [] => ⟨#[]⟩ | z :: q => ⟨#[32]⟩ ++ restT (z :: q))
theorem restT_size : ∀ L, L.length ≤ (restT L).size
  | [] => Nat.zero_le _
  | [y] => by
    simp only [restT, ByteArray.size_append]
    have : (⟨#[32]⟩ : ByteArray).size = 1 := rfl
    simp; omega
  | y :: z :: q => by
    have ih := restT_size (z :: q)
    have : (⟨#[32]⟩ : ByteArray).size = 1 := rfl
    rw [restT]
    simp only [ByteArray.size_append, List.length_cons] at *
    omega
theorem restT_line : ∀ L : List Ln, (∀ y ∈ L, NameB y.1 ∧ NumB y.2) → (10 : UInt8) ∉ (restT L).data.toList
  | [], _ => by simp [restT]
  | [y], h => by
    have := h y List.mem_cons_self
    rw [restT]
    simp only [ba_app, List.mem_append, not_or]
    exact ⟨⟨this.1.line, by decide⟩, this.2.line, by simp⟩
  | y :: z :: q, h => by
    have := h y List.mem_cons_self
    have ih := restT_line (z :: q) (fun x hx => h x (List.mem_cons_of_mem _ hx))
    rw [restT]
    simp only [ba_app, List.mem_append, not_or]
    exact ⟨⟨this.1.line, by decide⟩, this.2.line, by decide, ih⟩
theorem pairs_back : ∀ (L : List Ln) (f : Nat), L ≠ [] → L.length < f → (∀ y ∈ L, NameB y.1 ∧ NumB y.2) → pairsF f (restT L) true false = some L
  | [], _, h, _, _ => absurd rfl h
  | [y], f, _, hf, h => by
    obtain ⟨h1, h2⟩ := h y List.mem_cons_self
    obtain ⟨f, rfl⟩ : ∃ g, f = g + 2 := ⟨f - 2, by simp at hf; omega⟩
    have e : restT [y] = y.1 ++ ⟨#[32]⟩ ++ dB y.2 := by rw [restT]; apply ba_data; simp
    obtain ⟨b1, b2, b3⟩ := cut_make y.1 (dB y.2) h1.blank
    obtain ⟨c1, c2, c3⟩ := cut_none (dB y.2) h2.blank
    rw [e, pairsF]
    rw [b1, b2, b3, c1, c2, c3, h1.name, h2.num]
    simp [pairsF]
  | y :: z :: q, f, _, hf, h => by
    obtain ⟨h1, h2⟩ := h y List.mem_cons_self
    obtain ⟨f, rfl⟩ : ∃ g, f = g + 1 := ⟨f - 1, by simp at hf; omega⟩
    have e : restT (y :: z :: q) = y.1 ++ ⟨#[32]⟩ ++ (dB y.2 ++ ⟨#[32]⟩ ++ restT (z :: q)) := by rw [restT]; simp only [ByteArray.append_assoc]
    obtain ⟨b1, b2, b3⟩ := cut_make y.1 (dB y.2 ++ ⟨#[32]⟩ ++ restT (z :: q)) h1.blank
    obtain ⟨c1, c2, c3⟩ := cut_make (dB y.2) (restT (z :: q)) h2.blank
    have ih := pairs_back (z :: q) f (by simp) (by simp at hf ⊢; omega) (fun x hx => h x (List.mem_cons_of_mem _ hx))
    rw [e, pairsF]
    rw [b1, b2, b3, c1, c2, c3, h1.name, h2.num]
    simp [ih]
theorem Reads.post {s : St} (h : Reads s) {e : Int} {L : List Ln} (hk : NumB e) (h0 : L ≠ []) (hL : ∀ y ∈ L, NameB y.1 ∧ NumB y.2) : Reads (s.afterPost e (lnA L) (lnM L) L.length) := by
  by_cases he : s.postE e (lnA L) (lnM L) L.length = 0
  · refine h.step (⟨#[112]⟩ ++ ⟨#[32]⟩ ++ (dB e ++ ⟨#[32]⟩ ++ restT L)) ?_ ?_
    · simp only [ba_app, List.mem_append, not_or]
      exact ⟨⟨by decide, by decide⟩, ⟨hk.line, by decide⟩, restT_line L hL⟩
    · obtain ⟨a1, a2, a3⟩ := cut_make ⟨#[112]⟩ (dB e ++ ⟨#[32]⟩ ++ restT L) (by decide)
      obtain ⟨b1, b2, b3⟩ := cut_make (dB e) (restT L) hk.blank
      have hp := pairs_back L ((restT L).size + 1) h0 (Nat.lt_succ_of_le (restT_size L)) hL
      unfold doF
      rw [a1, if_neg (by decide), if_pos rfl, a2, a3, b1, b2, b3, hk.num]
      simp only [Option.isSome_some, Bool.not_true, Bool.or_self]
      rw [hp]
      simp [he]
  · unfold St.afterPost
    rw [if_neg he]; exact h
/-- The lines of a step as a list. -/
def lsL (q : K5) : List Ln := (List.range (lsN q)).map (fun j => (lsA q j, lsM q j))
theorem lsL_len (q : K5) : (lsL q).length = lsN q := by unfold lsL; simp
theorem lsA_out (q : K5) (j : Nat) (h : ¬ j < lsN q) : lsA q j = ⟨#[]⟩ ∧ lsM q j = 0 := by
  have hn : 2 ≤ lsN q := by unfold lsN; split <;> omega
  constructor
  · unfold lsA
    rw [if_neg (by omega), if_neg (by omega), if_neg h]
  · unfold lsM
    rw [if_neg (by omega), if_neg (by omega), if_neg h]
theorem lsL_at (q : K5) : lnA (lsL q) = lsA q ∧ lnM (lsL q) = lsM q := by
  have e : ∀ j, (lsL q).getD j (⟨#[]⟩, 0) = (lsA q j, lsM q j) := fun j => by
    by_cases hj : j < lsN q
    · unfold lsL
      rw [List.getD_eq_getElem?_getD, List.getElem?_map, List.getElem?_range hj]
      rfl
    · obtain ⟨h1, h2⟩ := lsA_out q j hj
      rw [h1, h2, List.getD_eq_getElem?_getD, List.getElem?_eq_none (by rw [lsL_len]; omega)]
      rfl
  exact ⟨funext fun j => by unfold lnA; rw [e], funext fun j => by unfold lnM; rw [e]⟩
theorem lsL_ok (q : K5) : ∀ y ∈ lsL q, NameB y.1 ∧ NumB y.2 := fun y hy => by
  unfold lsL at hy
  obtain ⟨j, hj, rfl⟩ := List.mem_map.1 hy
  have hj' : j < lsN q := by simpa using hj
  have := ls_amt q j hj'
  exact ⟨ls_three q NameB nmK_word j hj', numB_small this.2.1 this.2.2⟩
theorem Reads.kstep {s : St} (h : Reads s) (hn : s.ne ≤ 60) (q : K5) : Reads (s.kstep q) := by
  have hd := pickI_bd q.day (n := 12) (by decide)
  have ha := pickI_bd q.a (n := 3) (by decide)
  unfold St.kstep
  split
  · have := h.post (e := pickI q.day 12) (L := lsL q) (numB_small (by omega) (by omega)) (fun e => by
      have := congrArg List.length e
      rw [lsL_len] at this
      have hn : 2 ≤ lsN q := by unfold lsN; split <;> omega
      simp at this; omega) (lsL_ok q)
    rwa [(lsL_at q).1, (lsL_at q).2, lsL_len] at this
  · split
    · rename_i hh
      have := pickI_bd q.a (n := s.ne) (by omega)
      exact h.rev (numB_small (by omega) (by omega))
    · split
      · exact h.lock (numB_small (by omega) (by omega))
      · split
        · exact h.close (numB_small (by omega) (by omega)) (nmK_word _ (by omega))
        · exact h
theorem kn_reads : ∀ i, i ≤ 6 → Reads (kn i)
  | 0, _ => Reads.new
  | i + 1, h => (kn_reads i (by omega)).open' (nmK_word i (by omega)) (by split <;> exact numB_small (by decide) (by decide))
theorem krun_reads (qs : Nat → K5) : ∀ n, n ≤ 60 → Reads (krun qs n)
  | 0, _ => kn_reads 6 (Nat.le_refl _)
  | n + 1, h => (krun_reads qs n (by omega)).kstep (by have := (krun_ok qs n).2; omega) (qs n)
end Go.Annal
