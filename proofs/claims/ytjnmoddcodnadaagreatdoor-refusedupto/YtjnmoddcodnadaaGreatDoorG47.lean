import Derived.Test.YtjnmoddcodnadaaGreatDoorG46
import Derived.Test.YtjnmoddcodnadaaGreatDoorG41
import Derived.Test.YtjnmoddcodnadaaGreatDoorG43
import Derived.Test.YtjnmoddcodnadaaGreatDoorG45
import Derived.ChangeMaps5
set_option linter.unusedVariables false
set_option linter.unusedSimpArgs false
namespace Go.Proofs.YtjnmoddcodnadaaGreatDoor
open Go.RowKit Go.Annal Go.Sort
theorem begun_mine (w W : World) (B : Nat) (s : St) (h : Hid (Mine w W B s)) : Calls Tryz.prog 47 #[] W fun r w' => r = .returned (.bool true) ∧ Hid (Mine w w' B s) :=
  (begun_any W).mono fun _ _ ⟨hr, hb⟩ => ⟨hr, h.out.mv hb⟩
theorem changed_close (w W : World) (B : Nat) (h : Hid (Mine w W B sc3)) : Calls Tryz.prog 32 #[.pointer (some ⟨B, 0, none⟩), .int .i64 4, .string ⟨#[99, 97, 115, 104]⟩] W fun r w' => r = .returned (.tuple #[.int .i64 2, .int .i64 0]) ∧ Hid (Mine w w' B sc4) := by
  have := mine_close h.out sc3_ok 4 cashB
  rw [sc4_e.1, sc4_e.2] at this
  exact this
theorem changed_rev1 (w W : World) (B : Nat) (h : Hid (Mine w W B sc4)) : Calls Tryz.prog 30 #[.pointer (some ⟨B, 0, none⟩), .int .i64 1] W fun r w' => r = .returned (.tuple #[.int .i64 3, .int .i64 0]) ∧ Hid (Mine w w' B sc5) := by
  have := mine_rev h.out sc4_ok 1
  rw [sc5_e.1, sc5_e.2.1] at this
  exact this
theorem changed_rev2 (w W : World) (B : Nat) (h : Hid (Mine w W B sc5)) : Calls Tryz.prog 30 #[.pointer (some ⟨B, 0, none⟩), .int .i64 1] W fun r w' => r = .returned (.tuple #[.int .i64 0, .int .i64 12]) ∧ Hid (Mine w w' B sc5) := by
  have := mine_rev h.out sc5_ok 1
  have e1 : sc5.revN 1 = 0 := by unfold St.revN; rw [sc5_e.2.2.1]; rfl
  have e2 : sc5.afterRev 1 = sc5 := by unfold St.afterRev; rw [sc5_e.2.2.1]; rfl
  rw [sc5_e.2.2.1, e1, e2] at this
  exact this
theorem changed_lock (w W : World) (B : Nat) (h : Hid (Mine w W B sc5)) : Calls Tryz.prog 31 #[.pointer (some ⟨B, 0, none⟩), .int .i64 4] W fun r w' => r = .returned (.int .i64 11) ∧ Hid (Mine w w' B sc5) := by
  have := mine_lock h.out sc5_ok 4
  have e2 : sc5.afterLock 4 = sc5 := by unfold St.afterLock; rw [sc5_e.2.2.2]; rfl
  rw [sc5_e.2.2.2, e2] at this
  exact this
theorem changed_bal1 (w W : World) (B : Nat) (h : Hid (Mine w W B sc5)) : Calls Tryz.prog 34 #[.pointer (some ⟨B, 0, none⟩), .string ⟨#[114, 101, 110, 116]⟩, .int .i64 4, .int .i64 3] W fun r w' => r = .returned (.tuple #[.int .i64 0, .int .i64 (sc5.balE rentB 4 3)]) ∧ Hid (Mine w w' B sc5) := by
  have := mine_bal h.out sc5_ok rentB 4 3
  rw [sc5_b.1] at this
  exact this
theorem changed_bal2 (w W : World) (B : Nat) (h : Hid (Mine w W B sc5)) : Calls Tryz.prog 34 #[.pointer (some ⟨B, 0, none⟩), .string ⟨#[114, 101, 110, 116]⟩, .int .i64 5, .int .i64 3] W fun r w' => r = .returned (.tuple #[.int .i64 (-70), .int .i64 (sc5.balE rentB 5 3)]) ∧ Hid (Mine w w' B sc5) := by
  have := mine_bal h.out sc5_ok rentB 5 3
  rw [sc5_b.2] at this
  exact this
set_option maxHeartbeats 4000000 in
set_option maxRecDepth 100000 in
theorem changed_any (w : World) : Calls Tryz.prog 19 #[] w fun r w' => r = .returned (.bool true) ∧ Below w.heap.size w w' := by
  go_enter Tryz.func19, Tryz.ntmps19
  go_wp2_with (first
    | (go_at_call 25; with_reducible refine Calls.mono (begun_new _) ?_; rintro e w0 ⟨rfl, hm0⟩)
    | (go_at_call 47; with_reducible refine Calls.mono (begun_mine w _ _ _ hm0) ?_; rintro e w1 ⟨rfl, hm1⟩; clear hm0)
    | (go_at_call 38; with_reducible refine Calls.mono (begun_open1 w _ _ hm1) ?_; rintro e w2 ⟨rfl, hm2⟩; clear hm1)
    | (go_at_call 38; with_reducible refine Calls.mono (begun_open2 w _ _ hm2) ?_; rintro e w3 ⟨rfl, hm3⟩; clear hm2)
    | (go_at_call 28; with_reducible refine Calls.mono (changed_post w _ _ hm3) ?_; rintro e w4 ⟨rfl, hm4⟩; clear hm3)
    | (go_at_call 32; with_reducible refine Calls.mono (changed_close w _ _ hm4) ?_; rintro e w5 ⟨rfl, hm5⟩; clear hm4)
    | (go_at_call 30; with_reducible refine Calls.mono (changed_rev1 w _ _ hm5) ?_; rintro e w6 ⟨rfl, hm6⟩; clear hm5)
    | (go_at_call 30; with_reducible refine Calls.mono (changed_rev2 w _ _ hm6) ?_; rintro e w7 ⟨rfl, hm7⟩; clear hm6)
    | (go_at_call 31; with_reducible refine Calls.mono (changed_lock w _ _ hm7) ?_; rintro e w8 ⟨rfl, hm8⟩; clear hm7)
    | (go_at_call 34; with_reducible refine Calls.mono (changed_bal1 w _ _ hm8) ?_; rintro e w9 ⟨rfl, hm9⟩; clear hm8)
    | (go_at_call 34; with_reducible refine Calls.mono (changed_bal2 w _ _ hm9) ?_; rintro e w10 ⟨rfl, hm10⟩; clear hm9))
  go_ret
  exact ⟨rfl, hm10.out.below⟩
end Go.Proofs.YtjnmoddcodnadaaGreatDoor
namespace Go.Proofs.YtjnmoddcodnadaaGreatDoor
open Go.RowKit Go.Annal Go.Sort Go.Shelf
theorem read_T1 (w : World) (ht : Tabs w) : Calls Tryz.prog 12 #[.string T1] w fun r w' => r = .returned (.tuple #[.pointer (some ⟨w.heap.size + 3, 0, none⟩), .int .i64 0, .int .i64 0]) ∧ Hid (Below w.heap.size w w' ∧ ∃ s Fp, s.Ok ∧ s.tx = T1 ∧ ProgIs w' (w.heap.size + 3) s Fp) := by
  refine (read_F T1 w ht (by decide)).mono ?_
  rintro r w' ⟨hb, ⟨s, Fp, h1, h2, h3, h4, h5, h6, h7⟩ | ⟨p, x, s, h1, h2, h3, h4, h5⟩⟩
  · exact ⟨h5, hb, s, Fp, h2, h3, h6⟩
  · have := T1_read
    rw [h4] at this
    cases this
theorem read_T2 (w : World) (ht : Tabs w) : Calls Tryz.prog 12 #[.string T2] w fun r w' => r = .returned (.tuple #[.pointer none, .int .i64 2, .int .i64 11]) ∧ Hid (Below w.heap.size w w') := by
  refine (read_F T2 w ht (by decide)).mono ?_
  have h0 := T2_read
  rintro r w' ⟨hb, ⟨s, Fp, h1, h2, h3, h4, h5, h6, h7⟩ | ⟨p, x, s, h1, h2, h3, h4, h5⟩⟩
  · rw [h1] at h0; cases h0
  · rw [h4] at h0
    simp only [Prod.mk.injEq] at h0
    rw [h5, h0.1, h0.2]
    exact ⟨rfl, hb⟩
theorem write_T1 {w w2 w3 : World} (k2 : Hid (Below w.heap.size w w2 ∧ ∃ s Fp, s.Ok ∧ s.tx = T1 ∧ ProgIs w2 (w.heap.size + 3) s Fp)) (k3 : Below w2.heap.size w2 w3) (ht : Tabs w3) :
    Calls Tryz.prog 11 #[.pointer (some ⟨w.heap.size + 3, 0, none⟩)] w3 fun r w' => r = .returned (.string T1) ∧ Below w3.heap.size w3 w' := by
  obtain ⟨s, Fp, h1, h2, h3⟩ := k2.out.2
  have := progWrite _ s Fp w3 (h3.turn (S := fun _ => False) (Turn.of_below k3) (fun _ _ h => h)) h1 ht
  rwa [h2] at this
set_option maxHeartbeats 1000000 in
set_option maxRecDepth 100000 in
theorem written_any (w : World) (ht : Tabs w) : Calls Tryz.prog 9 #[] w fun r w' => r = .returned (.bool true) ∧ Below w.heap.size w w' := by
  have HT : Hid (type_of% ht) := ht
  clear ht
  go_enter Tryz.func9, Tryz.ntmps9
  have CT : Hid (∀ W, Below w.heap.size w W → Tabs W) := fun W h => HT.out.below h
  go_wp2_with (first
    | (go_at_call 19; (with_reducible refine Calls.mono (changed_any _) ?_); rintro e w1 ⟨rfl, hb1⟩; have HB1 : Hid (type_of% hb1) := hb1; clear hb1)
    | (go_at_call 12; first
      | ((with_reducible refine Calls.mono (read_T1 _ (CT.out _ HB1.out)) ?_); rintro e w2 ⟨rfl, k2⟩; have HB2 : Hid (Below w.heap.size w w2) := HB1.out.trans (k2.out.1.mono HB1.out.size))
      | ((with_reducible refine Calls.mono (read_T2 _ (CT.out _ HB2.out)) ?_); rintro e w3 ⟨rfl, k3⟩; have HB3 : Hid (Below w.heap.size w w3) := HB2.out.trans (k3.out.mono HB2.out.size)))
    | (go_at_call 11; (with_reducible refine Calls.mono (write_T1 k2 k3.out (CT.out _ HB3.out)) ?_); rintro e w4 ⟨rfl, hb4⟩; have HB4 : Hid (type_of% hb4) := hb4; clear hb4))
  go_ret
  exact ⟨rfl, HB3.out.trans (HB4.out.mono HB3.out.size)⟩
end Go.Proofs.YtjnmoddcodnadaaGreatDoor
namespace Go.Annal
open Go.RowKit Go.Proofs.YtjnmoddcodnadaaGreatDoor
/-- A line that is ended. -/
def Whole (l : List UInt8) : Prop := ∃ u, l = u ++ [10] ∧ (10 : UInt8) ∉ u
theorem lnsL_whole {l : List UInt8} (h : Whole l) (r : List UInt8) : lnsL (l ++ r) = l :: lnsL r := by
  obtain ⟨u, rfl, hu⟩ := h
  induction u with
  | nil => show lnsL (10 :: r) = _; rw [lnsL, if_pos rfl]; rfl
  | cons b t ih =>
    simp only [List.mem_cons, not_or] at hu
    have ih := ih hu.2
    show lnsL (b :: (t ++ [10] ++ r)) = _
    rw [lnsL, if_neg (fun e => hu.1 e.symm), ih]
    rfl
theorem lnsL_wholes : ∀ (p : List (List UInt8)) (r : List UInt8), (∀ l ∈ p, Whole l) → lnsL (p.flatten ++ r) = p ++ lnsL r
  | [], r, _ => rfl
  | l :: p, r, h => by
    rw [List.flatten_cons, List.append_assoc, lnsL_whole (h l List.mem_cons_self), lnsL_wholes p r (fun y hy => h y (List.mem_cons_of_mem _ hy))]
    rfl
theorem lnsL_form : ∀ t, ∃ ps last, lnsL t = ps ++ last ∧ (∀ l ∈ ps, Whole l) ∧ (last = [] ∨ ∃ y, last = [y] ∧ (10 : UInt8) ∉ y)
  | [] => ⟨[], [], rfl, (fun _ h => by cases h), .inl rfl⟩
  | b :: t => by
    obtain ⟨ps, last, h1, h2, h3⟩ := lnsL_form t
    by_cases hb : b = 10
    · subst hb
      refine ⟨[10] :: ps, last, by rw [lnsL, if_pos rfl, h1]; rfl, fun l hl => ?_, h3⟩
      rcases List.mem_cons.1 hl with rfl | hl
      · exact ⟨[], rfl, by simp⟩
      · exact h2 l hl
    · have hb' : (10 : UInt8) ≠ b := fun e => hb e.symm
      cases ps with
      | nil =>
        rcases h3 with rfl | ⟨y, rfl, hy⟩
        · exact ⟨[], [[b]], by rw [lnsL, if_neg hb, h1]; rfl, (fun _ h => by cases h), .inr ⟨[b], rfl, by simpa using hb'⟩⟩
        · exact ⟨[], [b :: y], by rw [lnsL, if_neg hb, h1]; rfl, (fun _ h => by cases h), .inr ⟨b :: y, rfl, by simp [hb', hy]⟩⟩
      | cons l ls =>
        refine ⟨(b :: l) :: ls, last, by rw [lnsL, if_neg hb, h1]; rfl, fun m hm => ?_, h3⟩
        rcases List.mem_cons.1 hm with rfl | hm
        · obtain ⟨u, rfl, hu⟩ := h2 l List.mem_cons_self
          exact ⟨b :: u, rfl, by simp [hb', hu]⟩
        · exact h2 m (List.mem_cons_of_mem _ hm)
/-- A line within a text: those ahead of it are ended; it is, or it is the last one. -/
theorem lnsL_at {t : List UInt8} {p : List (List UInt8)} {x : List UInt8} {q : List (List UInt8)} (h : lnsL t = p ++ x :: q) : (∀ l ∈ p, Whole l) ∧ t = p.flatten ++ (x ++ q.flatten) ∧ (Whole x ∨ ((10 : UInt8) ∉ x ∧ q = [])) := by
  obtain ⟨ps, last, h1, h2, h3⟩ := lnsL_form t
  have hf : t = p.flatten ++ (x ++ q.flatten) := by
    have := lnsL_flat t
    rw [h] at this
    simpa using this.symm
  rw [h1] at h
  rcases List.append_eq_append_iff.1 h with ⟨c, e1, e2⟩ | ⟨c, e1, e2⟩
  · -- p = ps ++ c, last = c ++ x :: q
    have hc : c = [] ∧ q = [] ∧ (10 : UInt8) ∉ x := by
      rcases h3 with rfl | ⟨y, rfl, hy⟩
      · have := congrArg List.length e2; simp at this
      · cases c with
        | nil => simp at e2; exact ⟨rfl, e2.2, by rw [← e2.1]; exact hy⟩
        | cons a b => have := congrArg List.length e2; simp at this
    obtain ⟨rfl, rfl, hx⟩ := hc
    rw [List.append_nil] at e1
    subst e1
    exact ⟨h2, hf, .inr ⟨hx, rfl⟩⟩
  · -- ps = p ++ c, x :: q = c ++ last
    refine ⟨fun l hl => h2 l (by rw [e1]; exact List.mem_append_left _ hl), hf, ?_⟩
    cases c with
    | nil =>
      rcases h3 with rfl | ⟨y, rfl, hy⟩
      · simp at e2
      · simp at e2; exact .inr ⟨by rw [e2.1]; exact hy, e2.2⟩
    | cons a b =>
      simp at e2
      exact .inl (h2 x (by rw [e1, e2.1]; simp))
theorem lns_list (x : ByteArray) : (lns x).map (·.data.toList) = lnsL x.data.toList := by
  unfold lns
  rw [List.map_map]
  have : ((fun y : ByteArray => y.data.toList) ∘ fun l : List UInt8 => (⟨l.toArray⟩ : ByteArray)) = id := by funext l; simp
  rw [this, List.map_id]
theorem lns_of_list {x : ByteArray} {p : List ByteArray} (h : lnsL x.data.toList = p.map (·.data.toList)) : lns x = p := by
  unfold lns
  rw [h, List.map_map]
  have : ((fun l : List UInt8 => (⟨l.toArray⟩ : ByteArray)) ∘ fun y : ByteArray => y.data.toList) = id := by funext y; simp
  rw [this, List.map_id]
/-- Where the lines ahead of one end. -/
def atP (p : List ByteArray) : Nat := (p.map (·.data.toList)).flatten.length
/-- What is known of a text and one of its lines. -/
structure CutAt (text : ByteArray) (p : List ByteArray) (x : ByteArray) : Prop where
  whole : ∀ l ∈ p, Whole l.data.toList
  text : ∃ r, text.data.toList = (p.map (·.data.toList)).flatten ++ (x.data.toList ++ r) ∧ (Whole x.data.toList ∨ ((10 : UInt8) ∉ x.data.toList ∧ r = []))
theorem cut_at {text : ByteArray} {p : List ByteArray} {x : ByteArray} (h : (p ++ [x]) <+: lns text) : CutAt text p x := by
  obtain ⟨q, hq⟩ := h
  have e : lnsL text.data.toList = p.map (·.data.toList) ++ x.data.toList :: q.map (·.data.toList) := by
    rw [← lns_list, ← hq]; simp
  obtain ⟨h1, h2, h3⟩ := lnsL_at e
  refine ⟨fun l hl => h1 _ (List.mem_map_of_mem hl), _, h2, ?_⟩
  rcases h3 with h3 | ⟨h3, h4⟩
  · exact .inl h3
  · exact .inr ⟨h3, by rw [h4]; rfl⟩
/-- The text up to a line has the lines ahead of it. -/
theorem CutAt.ahead {text : ByteArray} {p : List ByteArray} {x : ByteArray} (h : CutAt text p x) : lns (text.extract 0 (atP p)) = p := by
  obtain ⟨r, hr, _⟩ := h.text
  apply lns_of_list
  rw [extract_list, hr]
  simp only [List.drop_zero, Nat.sub_zero]
  unfold atP
  rw [List.take_left]
  have := lnsL_wholes (p.map (·.data.toList)) [] (fun l hl => by
    obtain ⟨y, hy, rfl⟩ := List.mem_map.1 hl
    exact h.whole y hy)
  rw [List.append_nil] at this
  rw [this]
  exact List.append_nil _
/-- The text with that line, and anything behind. -/
theorem CutAt.behind {text : ByteArray} {p : List ByteArray} {x : ByteArray} (h : CutAt text p x) (hw : Whole x.data.toList) (more : ByteArray) : (p ++ [x]) <+: lns (text.extract 0 (atP p + x.size) ++ more) := by
  obtain ⟨r, hr, _⟩ := h.text
  have e : (text.extract 0 (atP p + x.size) ++ more).data.toList = ((p ++ [x]).map (·.data.toList)).flatten ++ more.data.toList := by
    rw [ba_app, extract_list, hr]
    simp only [List.drop_zero, Nat.sub_zero]
    congr 1
    unfold atP
    rw [← List.append_assoc, Lib.size_eq, ← List.length_append, List.take_left]
    simp
  have e2 : lnsL (text.extract 0 (atP p + x.size) ++ more).data.toList = (p ++ [x] ++ lns more).map (·.data.toList) := by
    rw [e, lnsL_wholes _ _ (fun l hl => by
      obtain ⟨y, hy, rfl⟩ := List.mem_map.1 hl
      rcases List.mem_append.1 hy with hy | hy
      · exact h.whole y hy
      · rw [List.mem_singleton.1 hy]; exact hw)]
    rw [List.map_append, List.map_append, List.map_append, lns_list]
  exact ⟨lns more, (lns_of_list e2).symm⟩
theorem atP_nil : atP [] = 0 := rfl
theorem atP_snoc (p : List ByteArray) (y : ByteArray) : atP (p ++ [y]) = atP p + y.size := by
  unfold atP
  rw [List.map_append, List.flatten_append, List.length_append, Lib.size_eq]
  simp
/-- A byte of the lines ahead. -/
theorem CutAt.le {text : ByteArray} {p : List ByteArray} {x : ByteArray} (h : CutAt text p x) : atP p + x.size ≤ text.size := by
  obtain ⟨r, hr, _⟩ := h.text
  have := congrArg List.length hr
  rw [← Lib.size_eq] at this
  simp only [List.length_append] at this
  unfold atP
  rw [Lib.size_eq x]
  omega
theorem CutAt.take {text : ByteArray} {p : List ByteArray} {x : ByteArray} (h : CutAt text p x) (j : Nat) (hj : j < p.length) : CutAt text (p.take j) p[j] := by
  obtain ⟨r, hr, _⟩ := h.text
  refine ⟨fun l hl => h.whole l (List.mem_of_mem_take hl), ((p.drop (j + 1)).map (·.data.toList)).flatten ++ (x.data.toList ++ r), ?_, .inl (h.whole _ (List.getElem_mem hj))⟩
  rw [hr]
  have e : p = p.take j ++ (p[j] :: p.drop (j + 1)) := by rw [List.getElem_cons_drop, List.take_append_drop]
  have e2 : (p.map (·.data.toList)).flatten = ((p.take j).map (·.data.toList)).flatten ++ (p[j].data.toList ++ ((p.drop (j + 1)).map (·.data.toList)).flatten) :=
    (congrArg (fun l : List ByteArray => (l.map (·.data.toList)).flatten) e).trans (by
      show (List.map _ (_ ++ _ :: _)).flatten = _
      rw [List.map_append, List.flatten_append, List.map_cons, List.flatten_cons])
  rw [e2]
  simp only [List.append_assoc]
/-- The byte at a place within a line. -/
theorem CutAt.byte {text : ByteArray} {p : List ByteArray} {x : ByteArray} (h : CutAt text p x) (i : Nat) (h0 : atP p ≤ i) (h1 : i < atP p + x.size) : text.data.toList[i]? = x.data.toList[i - atP p]? := by
  obtain ⟨r, hr, _⟩ := h.text
  rw [hr, List.getElem?_append_right h0, List.getElem?_append_left (by unfold atP at h1 h0; rw [Lib.size_eq] at h1; omega)]
  rfl
theorem whole_size {x : ByteArray} (h : Whole x.data.toList) : 0 < x.size ∧ x.data.toList[x.size - 1]? = some 10 ∧ ∀ i, i < x.size - 1 → x.data.toList[i]? ≠ some 10 := by
  obtain ⟨u, e, hu⟩ := h
  have hs : x.size = u.length + 1 := by rw [Lib.size_eq, e]; simp
  refine ⟨by omega, ?_, fun i hi e2 => ?_⟩
  · rw [hs, e]; simp
  · rw [e, List.getElem?_append_left (by omega)] at e2
    exact hu (List.mem_of_getElem? e2)
theorem open_bytes {x : ByteArray} (h : (10 : UInt8) ∉ x.data.toList) (i : Nat) : x.data.toList[i]? ≠ some 10 := fun e => h (List.mem_of_getElem? e)
end Go.Annal
namespace Go.Proofs.YtjnmoddcodnadaaGreatDoor
open Go.RowKit Go.Annal Go.Sort Go.Shelf
theorem lnsL_ne : ∀ t, ∀ l ∈ lnsL t, l ≠ []
  | [], l, h => by cases h
  | b :: t, l, h => by
    have ih := lnsL_ne t
    rw [lnsL] at h
    split at h
    · rcases List.mem_cons.1 h with rfl | h
      · simp
      · exact ih l h
    · split at h
      · rw [List.mem_singleton.1 h]; simp
      · rename_i m ms e
        rcases List.mem_cons.1 h with rfl | h
        · simp
        · exact ih l (by rw [e]; exact List.mem_cons_of_mem _ h)
theorem lns_pos {x y : ByteArray} (h : y ∈ lns x) : 0 < y.size := by
  have h1 : y.data.toList ∈ lnsL x.data.toList := by rw [← lns_list]; exact List.mem_map_of_mem h
  have h2 := lnsL_ne _ _ h1
  rw [Lib.size_eq]
  exact List.length_pos_iff.2 h2
theorem byte10 (text : ByteArray) (i : Nat) (hi : i < text.size) : (text[i]'hi).toNat = 10 ↔ text.data.toList[i]? = some 10 := by
  have e : text.data.toList[i]? = some (text[i]'hi) := by
    rw [Array.getElem?_toList, Array.getElem?_eq_getElem (by simpa using hi)]
    rfl
  rw [e]
  constructor
  · intro h
    congr 1
    exact UInt8.toNat_inj.1 h
  · intro h
    rw [Option.some.inj h]; rfl
set_option maxHeartbeats 2000000 in
set_option maxRecDepth 100000 in
theorem refused_any (text more : ByteArray) (w : World) (ht : Tabs w) (hs1 : text.size ≤ 1048576) (hs2 : more.size ≤ 1048576) :
    Calls Tryz.prog 6 #[.string text, .string more] w fun r w' => r = .returned (.bool true) ∧ Below w.heap.size w w' := by
  have CT : Hid (∀ W, Below w.heap.size w W → Tabs W) := fun W h => ht.below h
  have CW : Hid (type_of% (written_any w ht)) := written_any w ht
  have CR : Hid (∀ W, Below w.heap.size w W → _) := fun W h => read_F text W (ht.below h) (by omega)
  clear ht
  go_enter Tryz.func6, Tryz.ntmps6
  go_wp2_with (first
    | (go_at_call 9; (with_reducible refine Calls.mono CW.out ?_); rintro e w1 ⟨rfl, hb1⟩))
  refine Calls.mono (CR.out _ hb1) ?_
  rintro e w2 ⟨hb2, ⟨s, Fp, h1, h2, h3, h4, rfl, h6, h7⟩ | ⟨p, x, s, h1, h2, h3, h4, rfl⟩⟩
  · have hb2' := hb1.trans (hb2.mono hb1.size)
    have hW := progWrite _ s Fp w2 h6 h2 (CT.out _ hb2')
    rw [h3] at hW
    have HB2 : Hid (type_of% hb2') := hb2'
    have HW : Hid (type_of% hW) := hW
    clear hb2' hb2 hb1 h1 h2 h3 h4 h6 h7 hW CT CW CR
    go_wp2_with (go_at_call 11; (with_reducible refine Calls.mono HW.out ?_); rintro e w4 ⟨rfl, hb4⟩)
    go_ret
    exact ⟨rfl, HB2.out.trans (hb4.mono HB2.out.size)⟩
  · have hb2' := hb1.trans (hb2.mono hb1.size)
    have HB2 : Hid (type_of% hb2') := hb2'
    have hC := cut_at h1
    have hle := hC.le
    have hpl : (p ++ [x]).length ≤ (lns text).length := h1.length_le
    have hln := lns_len text
    have hpn : p.length + 1 ≤ 1048576 := by simp at hpl; omega
    obtain ⟨en, hen⟩ : ∃ en, (redoF s x).1 = en := ⟨_, rfl⟩
    rw [hen] at h3 h4 ⊢
    obtain ⟨n, hn⟩ : ∃ n, p.length + 1 = n := ⟨_, rfl⟩
    rw [hn] at h4 ⊢
    have hn1 : ¬ (n : Int) < 1 := by omega
    have HC : Hid (type_of% hC) := hC
    have H1 : Hid (type_of% h1) := h1
    have H2 : Hid (type_of% h2) := h2
    have H4 : Hid (type_of% h4) := h4
    have HE : Hid (type_of% hen) := hen
    clear hb1 hb2 hb2' hC h1 h2 h4 hen CW CR
    have hn1d : decide ((n : Int) < 1) = false := decide_eq_false hn1
    go_wp2
    go_loopw [9, 10, 11] (fun s9 s10 s11 wr => ∃ (j i q : Nat), j ≤ p.length ∧ s9 = .int .i64 (atP (p.take j)) ∧ s10 = .int .i64 (j + 1 : Nat) ∧ s11 = .int .i64 i ∧ atP (p.take j) ≤ i ∧ (∀ h : j < p.length, i < atP (p.take j) + (p[j]'h).size) ∧ (¬ j < p.length → i = atP (p.take j)) ∧ wr = w2.drewN q) (fun _ _ s11 _ => text.size - (intOf s11).toNat)
    case atStart => exact ⟨0, 0, 0, Nat.zero_le _, by rw [List.take_zero]; rfl, rfl, rfl, by rw [List.take_zero]; exact Nat.le_refl _, fun h => by rw [List.take_zero, atP_nil]; have := (whole_size (HC.out.whole _ (List.getElem_mem h))).1; omega, fun _ => by rw [List.take_zero]; rfl, rfl⟩
    case round =>
      obtain ⟨j, i, q, hj, rfl, rfl, rfl, hi0, hi1, hi3, rfl⟩ := hrel
      by_cases hjp : j < p.length
      · have hCj := HC.out.take j hjp
        have hlej := hCj.le
        have hwj := whole_size (HC.out.whole _ (List.getElem_mem hjp))
        have hi2 := hi1 hjp
        have hit : i < text.size := by omega
        have hb := hCj.byte i hi0 hi2
        have hbt := byte10 text i hit
        have hlt1 : (i : Int) < (text.size : Int) := by omega
        have hlt2 : ((j + 1 : Nat) : Int) < (n : Int) := by omega
        rw [hb] at hbt
        by_cases hend : i - atP (p.take j) = p[j].size - 1
        · have h10 : (text[i]'hit).toNat = 10 := hbt.2 (by rw [hend]; exact hwj.2.1)
          have hat : atP (p.take (j + 1)) = i + 1 := by rw [List.take_succ_eq_append_getElem hjp, atP_snoc]; omega
          have HN : Hid (∀ h : j + 1 < p.length, i + 1 < i + 1 + (p[j + 1]'h).size) := fun h => by have := (whole_size (HC.out.whole _ (List.getElem_mem h))).1; omega
          clear hbt hb hi1
          go_wp2
          exact ⟨⟨j + 1, i + 1, q, hjp, by rw [hat]; go_num, by go_num, by go_num, by omega, by rw [hat]; exact HN.out, fun _ => hat.symm, rfl⟩, by simp [intOf]; omega⟩
        · have h10 : ¬ (text[i]'hit).toNat = 10 := fun e => hwj.2.2 _ (by omega) (hbt.1 e)
          have HN : Hid (∀ h : j < p.length, i + 1 < atP (p.take j) + (p[j]'h).size) := fun h => by omega
          clear hbt hb hi1
          go_wp2
          exact ⟨⟨j, i + 1, q, hj, rfl, by go_num, by go_num, by omega, HN.out, fun h => absurd hjp h, rfl⟩, by simp [intOf]; omega⟩
      · have hje : j = p.length := by omega
        subst hje
        have hlt2 : ¬ ((p.length + 1 : Nat) : Int) < (n : Int) := by omega
        have htk : p.take p.length = p := List.take_length
        rw [htk]
        rw [htk] at hi0
        have hie := hi3 hjp
        rw [htk] at hie
        have hxp := lns_pos (H1.out.subset (List.mem_append_right _ (List.mem_singleton_self x)))
        clear hi1 htk hjp hi3
        have hlt1 : (i : Int) < (text.size : Int) := by omega
        have hlt3 : ((p.length + 1 : Nat) : Int) = (n : Int) := by omega
        have hR : Hid (Calls Tryz.prog 12 #[.string (text.extract 0 (atP p))] (w2.drewN q) fun r w' => ∃ B, r = .returned (.tuple #[.pointer (some ⟨B, 0, none⟩), .int .i64 0, .int .i64 0]) ∧ Below w.heap.size w w') := by
          have hb : Below w.heap.size w (w2.drewN q) := ⟨HB2.out.os, HB2.out.tape, HB2.out.output, HB2.out.size, HB2.out.block⟩
          refine (read_F (text.extract 0 (atP p)) (w2.drewN q) (CT.out _ hb) (by rw [ByteArray.size_extract]; omega)).mono ?_
          rintro r w' ⟨hb2, ⟨s', Fp, g1, g2, g3, g4, g5, g6, g7⟩ | ⟨p', x', s', g1, g2, g3, g4, g5⟩⟩
          · exact ⟨_, g5, hb.trans (hb2.mono hb.size)⟩
          · have := readL_ok _ _ _ 0 (show runL St.new (lns (text.extract 0 (atP p))) = some s by rw [HC.out.ahead]; exact H2.out)
            unfold readF at g4
            rw [this] at g4
            cases g4
        have hm : (more.size : Int) ≤ 1048576 := by omega
        go_wp2_with (go_at_call 12; (with_reducible refine Calls.mono hR.out ?_); rintro e w5 ⟨B, rfl, hb5⟩)
        have HB5 : Hid (type_of% hb5) := hb5
        clear hb5 hR
        go_loopw [15] (fun s15 wr => ∃ (k q : Nat), s15 = .int .i64 k ∧ atP p ≤ k ∧ k ≤ atP p + x.size ∧ (Whole x.data.toList → k < atP p + x.size) ∧ wr = w5.drewN q) (fun s15 _ => text.size - (intOf s15).toNat)
        case atStart => exact ⟨atP p, 0, rfl, Nat.le_refl _, by omega, fun _ => by omega, rfl⟩
        case round =>
          obtain ⟨k, q', rfl, hk0, hk1, hk2, rfl⟩ := hrel
          obtain ⟨r, hr, hwo⟩ := HC.out.text
          have hbb : k < atP p + x.size → text.data.toList[k]? = x.data.toList[k - atP p]? := HC.out.byte k hk0
          have HR : Hid (type_of% hr) := hr
          clear hr
          rcases hwo with hw | ⟨hx, hr0⟩
          · have hk3 := hk2 hw
            have hkt : k < text.size := by omega
            have hlt4 : (k : Int) < (text.size : Int) := by omega
            have hbt := byte10 text k hkt
            rw [hbb hk3] at hbt
            have hws := whole_size hw
            by_cases hend : k - atP p = x.size - 1
            · have h10 : (text[k]'hkt).toNat = 10 := hbt.2 (by rw [hend]; exact hws.2.1)
              have hne : ¬ (k : Int) = (text.size : Int) := by omega
              have hke : k + 1 = atP p + x.size := by omega
              clear hbt hbb
              have hX : Hid (Calls Tryz.prog 12 #[.string (text.extract 0 (k + 1) ++ more)] (w5.drewN q') fun r w' => ∃ v, r = .returned (.tuple #[v, .int .i64 n, .int .i64 en]) ∧ Below w.heap.size w w') := by
                have hb : Below w.heap.size w (w5.drewN q') := ⟨HB5.out.os, HB5.out.tape, HB5.out.output, HB5.out.size, HB5.out.block⟩
                have hpre := HC.out.behind hw more
                rw [← hke] at hpre
                have hno : readF (text.extract 0 (k + 1) ++ more) = (none, n, en) := by
                  obtain ⟨q2, hq2⟩ := hpre
                  unfold readF
                  rw [← hq2, List.append_assoc]
                  show readL St.new 0 (p ++ x :: q2) = _
                  rw [readL_no p x q2 _ s 0 H2.out (by rw [HE.out]; exact h3), HE.out, ← hn, Nat.zero_add]
                refine (read_F (text.extract 0 (k + 1) ++ more) (w5.drewN q') (CT.out _ hb) (by rw [ByteArray.size_append, ByteArray.size_extract]; omega)).mono ?_
                rintro r w' ⟨hb2, ⟨s', Fp, g1, g2, g3, g4, g5, g6, g7⟩ | ⟨p', x', s', g1, g2, g3, g4, g5⟩⟩
                · rw [hno] at g1; cases g1
                · rw [hno] at g4
                  simp only [Prod.mk.injEq] at g4
                  rw [g5, ← g4.2.1, ← g4.2.2]
                  exact ⟨_, rfl, hb.trans (hb2.mono hb.size)⟩
              clear hke hws
              go_wp2_with (go_at_call 12; (with_reducible refine Calls.mono hX.out ?_); rintro e w6 ⟨v, rfl, hb6⟩)
              go_ret
              exact ⟨rfl, hb6⟩
            · have h10 : ¬ (text[k]'hkt).toNat = 10 := fun e => hws.2.2 _ (by omega) (hbt.1 e)
              clear hbt hbb
              go_wp2
              exact ⟨⟨k + 1, q', by go_num, by omega, by omega, fun _ => by omega, rfl⟩, by simp [intOf]; omega⟩
          · have hts : text.size = atP p + x.size := by
              have := congrArg List.length HR.out
              rw [hr0, ← Lib.size_eq] at this
              simp only [List.length_append, List.append_nil] at this
              unfold atP
              rw [Lib.size_eq x]
              omega
            have HTS : Hid (type_of% hts) := hts
            clear hts
            by_cases hend : k < text.size
            · have hk4 : k + 1 ≤ atP p + x.size := by have := HTS.out; omega
              have hk5 : k < atP p + x.size := by omega
              have hlt4 : (k : Int) < (text.size : Int) := by omega
              have hbt := byte10 text k hend
              rw [hbb hk5] at hbt
              have h10 : ¬ (text[k]'hend).toNat = 10 := fun e => open_bytes hx _ (hbt.1 e)
              clear hbt hbb
              go_wp2
              exact ⟨⟨k + 1, q', by go_num, by omega, by omega, fun h => absurd h (by rintro ⟨u, e, _⟩; exact hx (by rw [e]; simp)), rfl⟩, by simp [intOf]; omega⟩
            · have hlt4 : ¬ (k : Int) < (text.size : Int) := by omega
              have heq : (k : Int) = (text.size : Int) := by have := HTS.out; omega
              have he14 : en = 14 := by
                rw [← HE.out]
                unfold redoF
                rw [if_neg]
                intro h
                obtain ⟨t, ht⟩ := List.isSuffixOf_iff_suffix.1 h
                exact hx (by rw [← ht]; simp)
              clear hbb
              subst he14
              go_wp2
              go_ret
              exact ⟨rfl, HB5.out.os, HB5.out.tape, HB5.out.output, HB5.out.size, HB5.out.block⟩
end Go.Proofs.YtjnmoddcodnadaaGreatDoor
namespace Go.Proofs.YtjnmoddcodnadaaGreatDoor
open Go.ChangeShapes Go.WideShapes Go.ChangeAt Go.RowKit Go.Annal Go.Deep
set_option maxRecDepth 100000 in
theorem contractRefused (H : Type) (enc : TypeId × Value → H) (W : World) (base : Nat) (args : Array Value) (ds gs : List (DataW H)) (before : List MemPlace)
    (hval : ∀ (j : Nat) t v, Tryz.f6.params[j]? = some t → args[j]? = some v → Value.okWide Tryz.prog W .any base t v)
    (hW : DataW.Whole enc Tryz.prog Tryz.f6.params.toList Rows.refusedSpec.vars false W args.toList ds gs before) (hk : Rows.uptoSmall H (ds ++ gs) = true) (ht : Tabs W) :
    Calls Tryz.prog 6 args W fun e W' => ∃ v, e = .returned v ∧ Rows.refusedSpec.post enc Tryz.prog Tryz.f6 false true false false W args v W' := by
  have hW' := hW
  obtain ⟨p, q, hA0, hV, rfl, hfz, hnd⟩ := hW
  have hA : DataW.TrodAll enc Tryz.prog W 0 (fun _ => true) true Tryz.f6.params.toList args.toList ds p := hA0
  rw [Tryz.params6] at hA hval
  obtain ⟨v0, vs0, d0, ds0, p0, q0, hargs, rfl, rfl, h0, r0⟩ := trodAll_cons hA
  obtain ⟨v1, vs1, d1, ds1, p1, q1, rfl, rfl, rfl, h1, r1⟩ := trodAll_cons r0
  obtain ⟨rfl, rfl, rfl⟩ := trodAll_nil r1
  obtain rfl : args = #[v0, v1] := by cases args; simp_all
  obtain ⟨rfl, rfl⟩ := trodVars_none hV
  clear hA0
  obtain ⟨text, rfl, rfl, rfl, hs0⟩ := Go.ChangeMaps.open_string Tryz.underlying9 (hval 0 _ v0 rfl rfl) h0
  obtain ⟨more, rfl, rfl, rfl, hs1⟩ := Go.ChangeMaps.open_string Tryz.underlying9 (hval 1 _ v1 rfl rfl) h1
  have hb : text.size ≤ 1048576 ∧ more.size ≤ 1048576 := by
    have h : Rows.uptoBulkAll ([.lit (.string text.data.toList), .lit (.string more.data.toList)] ++ ([] : List (DataW H))) ≤ 1048576 := of_decide_eq_true hk
    simp only [List.append_nil, Rows.uptoBulkAll, Rows.uptoBulk] at h
    rw [Lib.size_eq, Lib.size_eq]
    omega
  refine (refused_any text more W ht hb.1 hb.2).mono fun e W' ⟨he, bel⟩ => ?_
  subst he
  exact ⟨_, rfl, _, _, _, [], _, [], hW', trodAll_mk1 (shut_bool Tryz.underlying4 _), (trodAll_cons_mk (Go.ChangeMaps.shut_string Tryz.underlying9 hs0) (trodAll_cons_mk (Go.ChangeMaps.shut_string Tryz.underlying9 hs1) trodAll_mk0)), rfl, bel.frame _, fun h => by cases h⟩
theorem laid_metRefused (os : Os) : laidMet Tryz.prog Rows.refusedUptoRow.laid ((laidWorld os).forCall (fun _ _ => 0) ⟨#[], #[.string ⟨#[]⟩, .string ⟨#[]⟩], []⟩).memory :=
  laidMet_of_run' 8 (by kernel_rfl) (by kernel_rfl)
theorem readsRefused (os : Os) {H : Type} (enc : TypeId × Value → H) : ∃ places, DataW.whole enc Tryz.prog ((laidWorld os).forCall (fun _ _ => 0) ⟨#[], #[.string ⟨#[]⟩, .string ⟨#[]⟩], []⟩).memory Tryz.f6.params.toList Rows.refusedSpec.vars false #[Value.string ⟨#[]⟩, Value.string ⟨#[]⟩].toList 8 = some ([.lit (.string []), .lit (.string [])], [], places) :=
  ⟨[], by kernel_rfl⟩
set_option maxRecDepth 100000 in
theorem liftedRefused (os : Os) (started : os.Started) (H : Type) (enc : TypeId × Value → H) (F : Stop.Interp) :
    ReturnsInHanded {} Tryz.checked os 6 .any ((Rows.OpenSpec.upto Rows.refusedSpec).preRow enc Tryz.prog Tryz.f6 Rows.refusedUptoRow.domain false Rows.refusedUptoRow.laid) (((Rows.OpenSpec.upto Rows.refusedSpec).at F).post enc Tryz.prog Tryz.f6 false true false false) := by
  obtain ⟨places, hx⟩ := readsRefused os enc
  refine returnsInHanded_of_row (C := Tryz.checked) (s := Rows.OpenSpec.upto Rows.refusedSpec) own started (by kernel_rfl) Tryz.func6
    (witness_row_at (enc := enc) (C := Tryz.checked) false (laidWorld os) #[.string ⟨#[]⟩, .string ⟨#[]⟩] rfl (by kernel_rfl) (by kernel_rfl) (by kernel_rfl)
      (OpenSpec.preRow_of_cond 8 hx (by kernel_rfl) (fun k hk => by cases hk; kernel_rfl) (by kernel_rfl) (laid_metRefused os))) ?_
  intro W base args ds gs before hval hW _ hcond _ hL hS _
  exact contractRefused H enc W base args ds gs before hval hW (hcond _ rfl) (tabs_of hL hS)
theorem saidRefused : Rows.RefusedUptoSaid :=
  OpenClaim.holds_of_cond 6 Tryz.f6 rfl rfl rfl rfl rfl rfl rfl ⟨rfl, rfl, rfl, rfl, rfl⟩ rfl rfl rfl rfl rfl (by kernel_rfl) Tryz.func6 (by kernel_rfl)
    (of_decide_eq_true (by kernel_rfl)) (by unfold Func.isWrapper; first | (rw [if_pos (by decide +kernel)]; kernel_rfl) | (rw [if_neg (by decide +kernel)]; exact ⟨rfl, rfl⟩))
    (fun os started H enc _ F => by rw [OpenClaim.pre_eq_preRow]; exact liftedRefused os started H enc F)
theorem plainRefused (f : FuncId) (fn : Func) (hf : Tryz.pinned.checked.prog.funcNamed "annal/annalkeep.Refused" = some f) (hfn : Tryz.pinned.checked.prog.funcs[f]? = some fn) :
    true = Tryz.pinned.checked.prog.looks [] ∧ ∀ (j : Nat) t, fn.params[j]? = some t → Tryz.pinned.checked.prog.wantsStandIn t = false := by
  obtain rfl : f = 6 := Option.some.inj ((show Tryz.prog.funcNamed "annal/annalkeep.Refused" = some 6 by kernel_rfl).symm.trans hf) |>.symm
  obtain rfl : fn = Tryz.f6 := (Option.some.inj (Tryz.func6.symm.trans hfn)).symm
  refine ⟨by kernel_rfl, fun j t ht => ?_⟩
  rw [Tryz.params6] at ht
  obtain rfl : t = 9 := by simpa using Array.mem_of_getElem? ht
  exact (show Tryz.prog.wantsStandIn 9 = false by kernel_rfl)
theorem refusedUptoCard : Rows.RefusedUptoCardSaid :=
  Claim7.holds_tied_plain_at .later [] _ _ _ _ saidRefused (fun _ h => by cases h) (by kernel_rfl) (fun _ h => by cases h) refusedUpto_row_tie rfl ⟨rfl, rfl⟩ (by kernel_rfl) rfl plainRefused (by kernel_rfl)
#print axioms refusedUptoCard
end Go.Proofs.YtjnmoddcodnadaaGreatDoor
