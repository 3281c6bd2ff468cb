import Derived.Test.YtjnmoddcodnadaaGreatDoorG37
set_option linter.unusedVariables false
set_option linter.unusedSimpArgs false
namespace Go.Annal
/-- The lines that the rest of a line tells; none: it tells none. -/
def pairsF : Nat → ByteArray → Bool → Bool → Option (List Ln)
  | 0, _, _, _ => none
  | f + 1, rest, more, wrong =>
    if wrong then none else if !more then some [] else
      if isName (wd rest) && fd rest then
        match numB (wd (rs rest)) with
        | some v => (pairsF f (rs (rs rest)) (fd (rs rest)) false).map ((wd rest, v) :: ·)
        | none => none
      else none
/-- What the rest of a line tells, behind those that were taken. -/
def pairsG (f : Nat) (L : List Ln) (rest : ByteArray) (more wrong : Bool) : Option (List Ln) := (pairsF f rest more wrong).map (L ++ ·)
theorem pairsG_step (f : Nat) (L : List Ln) (rest : ByteArray) :
    pairsG (f + 1) L rest true false = if isName (wd rest) && fd rest && (numB (wd (rs rest))).isSome then pairsG f (L ++ [(wd rest, (numB (wd (rs rest))).getD 0)]) (rs (rs rest)) (fd (rs rest)) false else none := by
  unfold pairsG
  rw [pairsF]
  simp only [Bool.false_eq_true, if_false, Bool.not_true]
  by_cases h : isName (wd rest) && fd rest
  · rw [if_pos h]
    cases hn : numB (wd (rs rest)) with
    | none => simp
    | some x =>
      simp only [Option.isSome_some, Bool.and_true, if_pos h, Option.getD_some]
      cases pairsF f (rs (rs rest)) (fd (rs rest)) false with
      | none => rfl
      | some y => simp
  · rw [if_neg h]
    simp [h]
theorem rs_lt {x : ByteArray} (h : fd x = true) : (rs x).size < x.size := by
  unfold fd at h
  unfold rs
  show (Lib.cut x.data.toList [32]).2.1.toArray.size < x.data.size
  rw [List.size_toArray, ← Array.length_toList]
  unfold Lib.cut at *
  split at h
  · rename_i hi
    rw [if_pos hi]
    show (List.drop _ _).length < _
    rw [List.length_drop]
    cases hx : x.data.toList with
    | nil => rw [hx] at hi; exact absurd hi (by decide)
    | cons a b => simp; omega
  · cases h
theorem rs_none {x : ByteArray} (h : fd x = false) : rs x = ⟨#[]⟩ := by
  unfold fd at h
  unfold rs
  unfold Lib.cut at *
  split at h
  · cases h
  · rename_i hi
    rw [if_neg hi]
theorem pairsG_wrong (f : Nat) (L : List Ln) (rest : ByteArray) (more : Bool) : pairsG f L rest more true = none := by
  unfold pairsG
  cases f with
  | zero => rfl
  | succ f => rw [pairsF]; rfl
theorem pairsG_end (f : Nat) (L : List Ln) (rest : ByteArray) : pairsG (f + 1) L rest false false = some L := by
  unfold pairsG
  rw [pairsF]
  simp
theorem pairs_next {f : Nat} {L : List Ln} {rest : ByteArray} {n : Int} (hf : rest.size < f) (hn : ∀ v, numB (wd (rs rest)) = some v → n = v) :
    ∃ f', (rs (rs rest)).size < f' ∧ pairsG f' (L ++ [(wd rest, n)]) (rs (rs rest)) (fd (rs rest)) ((((false || !true) || !(isName (wd rest))) || !(fd rest)) || !(numB (wd (rs rest))).isSome) = pairsG f L rest true false := by
  have h1 := Go.Proofs.YtjnmoddcodnadaaGreatDoor.rs_size (rs rest)
  obtain ⟨g, rfl⟩ : ∃ g, f = g + 1 := ⟨f - 1, by omega⟩
  rw [pairsG_step]
  by_cases hc : (isName (wd rest) && fd rest && (numB (wd (rs rest))).isSome) = true
  · have hc' := hc
    rw [Bool.and_eq_true, Bool.and_eq_true] at hc'
    obtain ⟨⟨a1, a2⟩, a3⟩ := hc'
    have h2 := rs_lt a2
    obtain ⟨v, hv⟩ := Option.isSome_iff_exists.1 a3
    refine ⟨g, by omega, ?_⟩
    rw [if_pos hc, a1, a2, a3, hn v hv, hv]
    rfl
  · refine ⟨(rs (rs rest)).size + 1, by omega, ?_⟩
    rw [if_neg hc]
    have : ((((false || !true) || !(isName (wd rest))) || !(fd rest)) || !(numB (wd (rs rest))).isSome) = true := by
      revert hc
      cases isName (wd rest) <;> cases fd rest <;> cases (numB (wd (rs rest))).isSome <;> decide
    rw [this, pairsG_wrong]
theorem pairs_less {rest : ByteArray} : (rs (rs rest)).size + (if fd (rs rest) then 1 else 0) < rest.size + 1 := by
  cases h : fd rest
  · rw [rs_none h]
    have : (rs ⟨#[]⟩).size = 0 ∧ fd ⟨#[]⟩ = false := by decide
    rw [this.1, this.2]; simp
  · have h1 := rs_lt h
    have h2 := Go.Proofs.YtjnmoddcodnadaaGreatDoor.rs_size (rs rest)
    cases h3 : fd (rs rest)
    · simp; omega
    · have := rs_lt h3; simp; omega
end Go.Annal
namespace Go.Proofs.YtjnmoddcodnadaaGreatDoor
open Go.RowKit Go.Annal Go.Sort
def sizeAt (w : World) (l : Nat) : Nat := (match w.cell? ⟨l, 0, none⟩ with | some (.string r) => r.size | _ => 0) + (match w.cell? ⟨l, 1, none⟩ with | some (.bool true) => 1 | _ => 0)
theorem sizeAt_is {w : World} {l : Nat} {rest : ByteArray} {more wrong : Bool} (h : LineIs w l rest more wrong) : sizeAt w l = rest.size + (if more then 1 else 0) := by
  unfold sizeAt
  rw [h.c0, h.c1]
  cases more <;> rfl
/-- What the loop over pairs keeps. -/
def PairsAt (w : World) (l : Nat) (rest0 : ByteArray) (G : Option (List Ln)) (wr : World) (v : Value) : Prop := ∃ (f : Nat) (L : List Ln) (rest : ByteArray) (more wrong : Bool), wr.ownsRow w.heap.size 58 2 v L.length (cells2 L) ∧ LineIs wr l rest more wrong ∧ Turn (fun b => b = l) w wr ∧ L.length + rest.size + (if more then 1 else 0) ≤ rest0.size + 1 ∧ (∀ y ∈ L, y.1.size ≤ rest0.size) ∧ rest.size < f ∧ pairsG f L rest more wrong = G ∧ rest.size ≤ rest0.size
set_option maxHeartbeats 1000000 in
set_option maxRecDepth 100000 in
theorem pairs_any (l : Nat) (rest0 : ByteArray) (more0 wrong0 : Bool) (w : World) (h : LineIs w l rest0 more0 wrong0) (ht : ∀ w', Turn (fun b => b = l) w w' → Tabs w') (hx : rest0.size ≤ 1000000000) :
    Calls Tryz.prog 58 #[.pointer (some ⟨l, 0, none⟩)] w fun r w' => ∃ v L rest more wrong, r = .returned v ∧ Hid (w'.ownsRow w.heap.size 58 2 v L.length (cells2 L) ∧ LineIs w' l rest more wrong ∧ Turn (fun b => b = l) w w' ∧ L.length ≤ rest0.size + 1 ∧ (∀ y ∈ L, y.1.size ≤ rest0.size) ∧ (if !more && !wrong then pairsF (rest0.size + 1) rest0 more0 wrong0 = some L else pairsF (rest0.size + 1) rest0 more0 wrong0 = none)) := by
  obtain ⟨i0, hi, hz0, hz1, hz2⟩ := info_parts Tryz.infoLine
  have HT : Hid (type_of% ht) := ht
  have HH : Hid (type_of% h) := h
  clear h ht
  go_enter Tryz.func58, Tryz.ntmps58
  go_wp2_with fail
  go_loopw [3, 4, 5] (fun s3 _ _ wr => PairsAt w l rest0 (pairsF (rest0.size + 1) rest0 more0 wrong0) wr s3) (fun _ _ _ wr => sizeAt wr l)
  case atStart => exact ⟨rest0.size + 1, [], rest0, more0, wrong0, ⟨rfl, .inl ⟨rfl, rfl⟩⟩, HH.out, Turn.refl _ _, by cases more0 <;> simp, (fun y hy => by cases hy), Nat.lt_succ_self _, (by unfold pairsG; cases pairsF (rest0.size + 1) rest0 more0 wrong0 <;> simp), Nat.le_refl _⟩
  case round =>
    obtain ⟨f, L, rest, more, wrong, q1, q2, q3, q4, q5, q6, q7, q8⟩ := hrel
    have hlw := HH.out.lt
    by_cases hmw : more = true ∧ wrong = false
    · obtain ⟨rfl, rfl⟩ := hmw
      have CM : Hid (Calls Tryz.prog 100 #[.pointer (some ⟨l, 0, none⟩)] wr fun r w' => r = .returned (.bool true) ∧ Below wr.heap.size wr w') := more_any l rest true false wr q2
      have CN : Hid (∀ W, Below wr.heap.size wr W → _) := fun W hW => lineName_any l rest true false W (q2.mv hW) (HT.out W (q3.trans (Turn.of_below hW))) (by omega)
      have hrs := rs_size rest
      have CU : Hid (∀ W b, LineIs W l (rs rest) (fd rest) b → Turn (fun b => b = l) w W → _) := fun W b hl hW => lineNumber_any l (rs rest) (fd rest) b W hl (HT.out W hW) (fun w' hw' => HT.out w' (hW.trans hw')) (by omega)
      have Q1 : Hid (type_of% q1) := q1
      have Q2 : Hid (type_of% q2) := q2
      have Q3 : Hid (type_of% q3) := q3
      have Q5 : Hid (type_of% q5) := q5
      have Q7 : Hid (type_of% q7) := q7
      clear q1 q2 q3 q5 q7
      go_wp2_with (go_at_call 100; with_reducible refine Calls.mono CM.out ?_; rintro e w1 ⟨rfl, hb1⟩)
      with_reducible refine Calls.mono (CN.out _ hb1) ?_
      rintro e w2 ⟨rfl, h2⟩
      have T2 : Hid (Turn (fun b => b = l) w w2) := (Q3.out.trans (Turn.of_below hb1)).trans h2.out.2
      go_wp2_with fail
      with_reducible refine Calls.mono (CU.out _ _ h2.out.1 T2.out) ?_
      rintro e w3 ⟨n, rfl, h3⟩
      have T3 : Turn (fun b => b = l) w w3 := T2.out.trans h3.out.2.2
      have T13 : Turn (fun b => b = l) wr w3 := ((Turn.of_below hb1).trans h2.out.2).trans h3.out.2.2
      have o3 := owns_turn Q1.out T13 (fun g e hg => by have := (Q1.out.lt g e).1; omega)
      have hs3 := T3.size
      have HT3 : Hid (type_of% T3) := T3
      have hq4 : L.length + rest.size + 1 ≤ rest0.size + 1 := q4
      clear T3 T13 CM CN CU
      go_wp2_with (at_builtin; refine wpList_append_lies _ rfl (.tmp 12) (.tmp 16) 54 rfl w.heap.size 58 i0 _ 2 24 Tryz.underlying54 hi hz0 hz1 hz2 rfl (by decide) _ L.length _ rfl (o3.alloc _) ⟨w3.heap.size, 0, none⟩ 1 1 [.string (wd rest), .int .i64 n] rfl rfl (World.news_of_block (cs := #[.string (wd rest), .int .i64 n]) (heap_alloc_new w3 _)) (by simp [Value.oneCell']) (by decide) (by unfold maxLen; omega) (by omega) (by simp; omega) (w3.heap.size + 1) (by simp) ?_; intro g4 cap4 w4 hown4 hg4 hat4 hlt4)
      obtain ⟨f', hf', hG⟩ := pairs_next (L := L) q6 h3.out.1
      have hl4 : LineIs w4 l (rs (rs rest)) (fd (rs rest)) ((((false || !true) || !(isName (wd rest))) || !(fd rest)) || !(numB (wd (rs rest))).isSome) := (hg4.block _ (by have := h3.out.2.1.lt; simp; omega) (fun e => by have := (o3.lt l e.symm).1; omega)).trans (Grew.blk ((Grew.refl w3).alloc _) h3.out.2.1)
      have T4 : Turn (fun b => b = l) w w4 := Turn.of_grown (HT3.out.alloc _) hg4 (fun k hk hlt => by have := (o3.lt k hk).1; omega)
      have hls := pairs_less (rest := rest)
      refine ⟨⟨f', L ++ [(wd rest, n)], rs (rs rest), fd (rs rest), _, ?_, hl4, T4, ?_, ?_, hf', hG.trans Q7.out, ?_⟩, ?_⟩
      · rw [List.length_append, cells2_append]
        exact hown4
      · rw [List.length_append]; simp only [List.length_cons, List.length_nil]; omega
      · intro y hy
        rcases List.mem_append.1 hy with hy | hy
        · exact Q5.out y hy
        · obtain rfl : y = (wd rest, n) := by simpa using hy
          have := wd_size rest
          show (wd rest).size ≤ _; omega
      · have := rs_size (rs rest); omega
      · rw [sizeAt_is hl4, sizeAt_is Q2.out]; exact hls
    · have CM : Hid (Calls Tryz.prog 100 #[.pointer (some ⟨l, 0, none⟩)] wr fun r w' => r = .returned (.bool false) ∧ Below wr.heap.size wr w') := by
        have := more_any l rest more wrong wr q2
        rw [show (more && !wrong) = false by revert hmw; cases more <;> cases wrong <;> simp] at this
        exact this
      have HE : Hid (∀ w', Below wr.heap.size wr w' → w'.ownsRow w.heap.size 58 2 u3 L.length (cells2 L) ∧ LineIs w' l rest more wrong ∧ Turn (fun b => b = l) w w' ∧ L.length ≤ rest0.size + 1 ∧ (∀ y ∈ L, y.1.size ≤ rest0.size) ∧ (if !more && !wrong then pairsF (rest0.size + 1) rest0 more0 wrong0 = some L else pairsF (rest0.size + 1) rest0 more0 wrong0 = none)) := fun w' hb => by
        refine ⟨owns_mv q1 hb, q2.mv hb, q3.trans (Turn.of_below hb), by omega, q5, ?_⟩
        cases more <;> cases wrong
        · obtain ⟨g, rfl⟩ : ∃ g, f = g + 1 := ⟨f - 1, by omega⟩
          rw [pairsG_end] at q7
          simp [q7]
        · rw [pairsG_wrong] at q7
          simp [← q7]
        · exact absurd ⟨rfl, rfl⟩ hmw
        · rw [pairsG_wrong] at q7
          simp [← q7]
      clear q1 q2 q3 q4 q5 q7 hmw
      go_wp2_with (go_at_call 100; with_reducible refine Calls.mono CM.out ?_; rintro e w1 ⟨rfl, hb1⟩)
      go_ret
      exact ⟨_, L, rest, more, wrong, rfl, HE.out _ hb1⟩
end Go.Proofs.YtjnmoddcodnadaaGreatDoor
namespace Go.Annal
open Go.Proofs.YtjnmoddcodnadaaGreatDoor
/-- What a line of a text does: the answer and what becomes of the book. The line has no byte 10 any more. -/
def doF (s : St) (x : ByteArray) : Int × St :=
  if wd x = ⟨#[111]⟩ then
    if fd x && isName (wd (rs x)) && fd (rs x) && (numB (wd (rs (rs x)))).isSome && !fd (rs (rs x)) then (s.openE (wd (rs x)) ((numB (wd (rs (rs x)))).getD 0), s.afterOpen (wd (rs x)) ((numB (wd (rs (rs x)))).getD 0)) else (14, s)
  else if wd x = ⟨#[112]⟩ then
    match pairsF ((rs (rs x)).size + 1) (rs (rs x)) (fd (rs x)) (!fd x || !(numB (wd (rs x))).isSome) with
    | some L => (s.postE ((numB (wd (rs x))).getD 0) (lnA L) (lnM L) L.length, s.afterPost ((numB (wd (rs x))).getD 0) (lnA L) (lnM L) L.length)
    | none => (14, s)
  else if wd x = ⟨#[114]⟩ then
    if fd x && (numB (wd (rs x))).isSome && !fd (rs x) then (s.revE ((numB (wd (rs x))).getD 0), s.afterRev ((numB (wd (rs x))).getD 0)) else (14, s)
  else if wd x = ⟨#[108]⟩ then
    if fd x && (numB (wd (rs x))).isSome && !fd (rs x) then (s.lockE ((numB (wd (rs x))).getD 0), s.afterLock ((numB (wd (rs x))).getD 0)) else (14, s)
  else if wd x = ⟨#[99]⟩ then
    if fd x && (numB (wd (rs x))).isSome && fd (rs x) && isName (wd (rs (rs x))) && !fd (rs (rs x)) then (s.closeE ((numB (wd (rs x))).getD 0) (wd (rs (rs x))), s.afterClose ((numB (wd (rs x))).getD 0) (wd (rs (rs x)))) else (14, s)
  else (14, s)
end Go.Annal
namespace Go.Proofs.YtjnmoddcodnadaaGreatDoor
open Go.RowKit Go.Annal Go.Sort
theorem turnL {w W W' : World} {l : Nat} (hb : Below w.heap.size w W) (hl : w.heap.size ≤ l) (ht : Turn (fun b => b = l) W W') : Below w.heap.size w W' :=
  ⟨ht.os.trans hb.os, ht.tape.trans hb.tape, ht.output.trans hb.output, Nat.le_trans hb.size ht.size, fun x hx => (ht.block x (Nat.lt_of_lt_of_le hx hb.size) (by omega)).trans (hb.block x hx)⟩
theorem rName {w : World} {l : Nat} (ht : Tabs w) (hl : w.heap.size ≤ l) (W : World) (rest : ByteArray) (more wrong : Bool) (h : LineIs W l rest more wrong) (hb : Below w.heap.size w W) (hx : rest.size ≤ 1000000000) :
    Calls Tryz.prog 55 #[.pointer (some ⟨l, 0, none⟩)] W fun r w' => r = .returned (.string (wd rest)) ∧ Hid (LineIs w' l (rs rest) (fd rest) ((wrong || !more) || !(isName (wd rest))) ∧ Below w.heap.size w w') := by
  refine (lineName_any l rest more wrong W h (ht.below hb) hx).mono ?_
  rintro r w' ⟨rfl, q1, q2⟩
  exact ⟨rfl, q1, turnL hb hl q2⟩
theorem rNumber {w : World} {l : Nat} (ht : Tabs w) (hl : w.heap.size ≤ l) (W : World) (rest : ByteArray) (more wrong : Bool) (h : LineIs W l rest more wrong) (hb : Below w.heap.size w W) (hx : rest.size ≤ 1000000000) :
    Calls Tryz.prog 56 #[.pointer (some ⟨l, 0, none⟩)] W fun r w' => ∃ n, r = .returned (.int .i64 n) ∧ Hid (NumOf (wd rest) n ∧ LineIs w' l (rs rest) (fd rest) ((wrong || !more) || !(numB (wd rest)).isSome) ∧ Below w.heap.size w w') := by
  refine (lineNumber_any l rest more wrong W h (ht.below hb) (fun w' hw' => ht.below (turnL hb hl hw')) hx).mono ?_
  rintro r w' ⟨n, rfl, q1, q2, q3⟩
  exact ⟨n, rfl, q1, q2, turnL hb hl q3⟩
theorem rPairs {w : World} {l : Nat} (ht : Tabs w) (hl : w.heap.size ≤ l) (W : World) (rest : ByteArray) (more wrong : Bool) (h : LineIs W l rest more wrong) (hb : Below w.heap.size w W) (hx : rest.size ≤ 1000000000) :
    Calls Tryz.prog 58 #[.pointer (some ⟨l, 0, none⟩)] W fun r w' => ∃ v L rest' more' wrong', r = .returned v ∧ Hid (w'.ownsRow W.heap.size 58 2 v L.length (cells2 L) ∧ LineIs w' l rest' more' wrong' ∧ Below w.heap.size w w' ∧ L.length ≤ rest.size + 1 ∧ (∀ y ∈ L, y.1.size ≤ rest.size) ∧ (if !more' && !wrong' then pairsF (rest.size + 1) rest more wrong = some L else pairsF (rest.size + 1) rest more wrong = none)) := by
  refine (pairs_any l rest more wrong W h (fun w' hw' => ht.below (turnL hb hl hw')) hx).mono ?_
  rintro r w' ⟨v, L, rest', more', wrong', rfl, q1, q2, q3, q4⟩
  exact ⟨v, L, rest', more', wrong', rfl, q1, q2, turnL hb hl q3, q4⟩
theorem rRight {w : World} {l : Nat} (W : World) (rest : ByteArray) (more wrong : Bool) (h : LineIs W l rest more wrong) (hb : Below w.heap.size w W) :
    Calls Tryz.prog 57 #[.pointer (some ⟨l, 0, none⟩)] W fun r w' => r = .returned (.bool (!more && !wrong)) ∧ Hid (Below W.heap.size W w' ∧ Below w.heap.size w w') := by
  refine (lineRight_any l rest more wrong W h).mono ?_
  rintro r w' ⟨rfl, q⟩
  exact ⟨rfl, q, hb.trans (q.mono hb.size)⟩
/-- What redo leaves. -/
def Redone (w w' : World) (B : Nat) (t : St) (Fp : Nat → Prop) : Prop := ∃ Fp', ProgIs w' B t Fp' ∧ Turn Fp w w' ∧ ∀ b, Fp' b → Fp b ∨ w.heap.size ≤ b
theorem redone_same {w w' : World} {B : Nat} {s : St} {Fp : Nat → Prop} (h : ProgIs w B s Fp) (hb : Below w.heap.size w w') : Redone w w' B s Fp := ⟨Fp, h.turn (S := fun _ => False) (Turn.of_below hb) (fun _ _ h => h), Turn.of_below hb, fun _ h => .inl h⟩
theorem redone_by {w W w' : World} {B : Nat} {t : St} {Fp : Nat → Prop} (hb : Below w.heap.size w W) (q : ∃ Fp', ProgIs w' B t Fp' ∧ Turn Fp W w' ∧ ∀ b, Fp' b → Fp b ∨ W.heap.size ≤ b) : Redone w w' B t Fp := by
  obtain ⟨Fp', q1, q2, q3⟩ := q
  exact ⟨Fp', q1, (Turn.of_below hb).trans q2, fun b h => (q3 b h).imp id (fun h => Nat.le_trans hb.size h)⟩
/-- A line that begins: its first word is taken. -/
theorem redo_word {x : ByteArray} {w : World} (ht : Tabs w) (hx : x.size ≤ 1000000000) :
    Calls Tryz.prog 54 #[.pointer (some ⟨w.heap.size, 0, none⟩)] (w.alloc (.cells #[.string x, .bool true, .bool false] 172)) fun r w' => r = .returned (.string (wd x)) ∧ Hid (LineIs w' w.heap.size (rs x) (fd x) (false || !true) ∧ Below w.heap.size w w') := by
  have hb : Below w.heap.size w (w.alloc (.cells #[.string x, .bool true, .bool false] 172)) := ((Grew.refl w).alloc _).below
  refine (word_any w.heap.size x true false _ (heap_alloc_new w _) (ht.below hb) (by omega)).mono ?_
  rintro r w' ⟨rfl, q1, q2⟩
  exact ⟨rfl, q1, turnL hb (Nat.le_refl _) q2⟩
theorem getD_num {x : ByteArray} {n : Int} (h : NumOf x n) (hs : (numB x).isSome = true) : (numB x).getD 0 = n := by
  obtain ⟨v, hv⟩ := Option.isSome_iff_exists.1 hs
  rw [hv, h v hv]; rfl
end Go.Proofs.YtjnmoddcodnadaaGreatDoor
namespace Go.Proofs.YtjnmoddcodnadaaGreatDoor
open Go.RowKit Go.Annal Go.Sort
set_option maxHeartbeats 1000000 in
set_option maxRecDepth 100000 in
theorem redo_rev (B : Nat) (s : St) (Fp : Nat → Prop) (x text : ByteArray) (w : World) (h : ProgIs w B s Fp) (ho : s.Ok) (ht : Tabs w) (hx : x.size ≤ 1000000000) (hc : ∀ W, Calls Tryz.prog 52 #[.string text, .string ⟨#[10]⟩] W fun r w' => r = .returned (.tuple #[.string x, .bool true]) ∧ w' = W) (hw : wd x = ⟨#[114]⟩) :
    Calls Tryz.prog 27 #[.pointer (some ⟨B, 0, none⟩), .string text] w fun r w' => r = .returned (.int .i64 (doF s x).1) ∧ Redone w w' B (doF s x).2 Fp := by
  have hrx := rs_size x
  have hrx2 := rs_size (rs x)
  have hwx1 := wd_size (rs x)
  have hwx2 := wd_size (rs (rs x))
  have CW : Hid (type_of% (redo_word (x := x) ht hx)) := redo_word (x := x) ht hx
  rw [hw] at CW
  have CC : Hid (type_of% hc) := hc
  have C1 : Hid (∀ W, LineIs W w.heap.size (rs x) (fd x) (false || !true) → Below w.heap.size w W → _) := fun W h1 h2 => rNumber ht (Nat.le_refl _) W (rs x) (fd x) (false || !true) h1 h2 (by omega)
  have CP : Hid (∀ W n, Below w.heap.size w W → _) := fun W n hW => progRev B s Fp n W (h.turn (S := fun _ => False) (Turn.of_below hW) (fun _ _ h => h)) ho
  have HN : Hid (¬ wd x = ⟨#[111]⟩ ∧ ¬ wd x = ⟨#[112]⟩) := ⟨by rw [hw]; decide, by rw [hw]; decide⟩
  have HH : Hid (type_of% h) := h
  have HW : Hid (type_of% hw) := hw
  have eR : (!(fd (rs x)) && !(((false || !true) || !(fd x)) || !(numB (wd (rs x))).isSome)) = (fd x && (numB (wd (rs x))).isSome && !fd (rs x)) := by
    cases fd x <;> cases fd (rs x) <;> cases (numB (wd (rs x))).isSome <;> rfl
  have CR : Hid (∀ W, LineIs W w.heap.size (rs (rs x)) (fd (rs x)) (((false || !true) || !(fd x)) || !(numB (wd (rs x))).isSome) → Below w.heap.size w W → Calls Tryz.prog 57 #[.pointer (some ⟨w.heap.size, 0, none⟩)] W fun r w' => r = .returned (.bool (fd x && (numB (wd (rs x))).isSome && !fd (rs x))) ∧ Hid (Below W.heap.size W w' ∧ Below w.heap.size w w')) := fun W h1 h2 => by
    have := rRight W _ _ _ h1 h2
    rw [eR] at this
    exact this
  clear eR
  cases hok : (fd x && (numB (wd (rs x))).isSome && !fd (rs x)) with
  | true =>
    have hD : ∀ n, (numB (wd (rs x))).getD 0 = n → doF s x = (s.revE n, s.afterRev n) := fun n hn => by
      unfold doF
      rw [if_neg HN.out.1, if_neg HN.out.2, if_pos HW.out, hok, hn]; rfl
    have hs : (numB (wd (rs x))).isSome = true := by revert hok; cases fd x <;> cases fd (rs x) <;> cases (numB (wd (rs x))).isSome <;> simp
    rw [hok] at CR
    have HD : Hid (type_of% hD) := hD
    have HS : Hid (type_of% hs) := hs
    clear hD hs hok hw hc h ht
    go_enter Tryz.func27, Tryz.ntmps27
    go_wp2_with (first
      | (go_at_call 52; with_reducible refine Calls.mono (CC.out _) ?_; rintro e wx ⟨rfl, hw⟩; rw [hw]; clear hw wx)
      | (go_at_call 53; with_reducible refine Calls.mono (of_any _ _) ?_; rintro e wx ⟨rfl, hw⟩; rw [hw]; clear hw wx)
      | (go_at_call 54; with_reducible refine Calls.mono CW.out ?_; rintro e w2 ⟨rfl, k0⟩; have a0 := k0.out.1; have b0 := k0.out.2)
      | (go_at_call 56; with_reducible refine Calls.mono (C1.out _ a0 b0) ?_; rintro e v1 ⟨n, rfl, k1⟩; have m1 := k1.out.1; have a1 := k1.out.2.1; have b1 := k1.out.2.2)
      | (go_at_call 57; with_reducible refine Calls.mono (CR.out _ a1 b1) ?_; rintro e w4 ⟨rfl, h4⟩)
      | (go_at_call 30; with_reducible refine Calls.mono (CP.out _ n h4.out.2) ?_; rintro e w5 ⟨rfl, h5⟩))
    go_ret
    rw [HD.out n (getD_num m1 HS.out)]
    exact ⟨rfl, redone_by h4.out.2 h5⟩
  | false =>
    have hD : doF s x = (14, s) := by
      unfold doF
      rw [if_neg HN.out.1, if_neg HN.out.2, if_pos HW.out, hok]; rfl
    rw [hok] at CR
    have HD : Hid (type_of% hD) := hD
    clear hD hok hw hc h ht
    go_enter Tryz.func27, Tryz.ntmps27
    go_wp2_with (first
      | (go_at_call 52; with_reducible refine Calls.mono (CC.out _) ?_; rintro e wx ⟨rfl, hw⟩; rw [hw]; clear hw wx)
      | (go_at_call 53; with_reducible refine Calls.mono (of_any _ _) ?_; rintro e wx ⟨rfl, hw⟩; rw [hw]; clear hw wx)
      | (go_at_call 54; with_reducible refine Calls.mono CW.out ?_; rintro e w2 ⟨rfl, k0⟩; have a0 := k0.out.1; have b0 := k0.out.2)
      | (go_at_call 56; with_reducible refine Calls.mono (C1.out _ a0 b0) ?_; rintro e v1 ⟨n, rfl, k1⟩; have m1 := k1.out.1; have a1 := k1.out.2.1; have b1 := k1.out.2.2)
      | (go_at_call 57; with_reducible refine Calls.mono (CR.out _ a1 b1) ?_; rintro e w4 ⟨rfl, h4⟩))
    go_ret
    rw [HD.out]
    exact ⟨rfl, redone_same HH.out h4.out.2⟩
set_option maxHeartbeats 1000000 in
set_option maxRecDepth 100000 in
theorem redo_lock (B : Nat) (s : St) (Fp : Nat → Prop) (x text : ByteArray) (w : World) (h : ProgIs w B s Fp) (ho : s.Ok) (ht : Tabs w) (hx : x.size ≤ 1000000000) (hc : ∀ W, Calls Tryz.prog 52 #[.string text, .string ⟨#[10]⟩] W fun r w' => r = .returned (.tuple #[.string x, .bool true]) ∧ w' = W) (hw : wd x = ⟨#[108]⟩) :
    Calls Tryz.prog 27 #[.pointer (some ⟨B, 0, none⟩), .string text] w fun r w' => r = .returned (.int .i64 (doF s x).1) ∧ Redone w w' B (doF s x).2 Fp := by
  have hrx := rs_size x
  have hrx2 := rs_size (rs x)
  have hwx1 := wd_size (rs x)
  have hwx2 := wd_size (rs (rs x))
  have CW : Hid (type_of% (redo_word (x := x) ht hx)) := redo_word (x := x) ht hx
  rw [hw] at CW
  have CC : Hid (type_of% hc) := hc
  have C1 : Hid (∀ W, LineIs W w.heap.size (rs x) (fd x) (false || !true) → Below w.heap.size w W → _) := fun W h1 h2 => rNumber ht (Nat.le_refl _) W (rs x) (fd x) (false || !true) h1 h2 (by omega)
  have CP : Hid (∀ W n, Below w.heap.size w W → _) := fun W n hW => progLock B s Fp n W (h.turn (S := fun _ => False) (Turn.of_below hW) (fun _ _ h => h)) ho
  have HN : Hid (¬ wd x = ⟨#[111]⟩ ∧ ¬ wd x = ⟨#[112]⟩ ∧ ¬ wd x = ⟨#[114]⟩) := ⟨by rw [hw]; decide, by rw [hw]; decide, by rw [hw]; decide⟩
  have HH : Hid (type_of% h) := h
  have HW : Hid (type_of% hw) := hw
  have eR : (!(fd (rs x)) && !(((false || !true) || !(fd x)) || !(numB (wd (rs x))).isSome)) = (fd x && (numB (wd (rs x))).isSome && !fd (rs x)) := by
    cases fd x <;> cases fd (rs x) <;> cases (numB (wd (rs x))).isSome <;> rfl
  have CR : Hid (∀ W, LineIs W w.heap.size (rs (rs x)) (fd (rs x)) (((false || !true) || !(fd x)) || !(numB (wd (rs x))).isSome) → Below w.heap.size w W → Calls Tryz.prog 57 #[.pointer (some ⟨w.heap.size, 0, none⟩)] W fun r w' => r = .returned (.bool (fd x && (numB (wd (rs x))).isSome && !fd (rs x))) ∧ Hid (Below W.heap.size W w' ∧ Below w.heap.size w w')) := fun W h1 h2 => by
    have := rRight W _ _ _ h1 h2
    rw [eR] at this
    exact this
  clear eR
  cases hok : (fd x && (numB (wd (rs x))).isSome && !fd (rs x)) with
  | true =>
    have hD : ∀ n, (numB (wd (rs x))).getD 0 = n → doF s x = (s.lockE n, s.afterLock n) := fun n hn => by
      unfold doF
      rw [if_neg HN.out.1, if_neg HN.out.2.1, if_neg HN.out.2.2, if_pos HW.out, hok, hn]; rfl
    have hs : (numB (wd (rs x))).isSome = true := by revert hok; cases fd x <;> cases fd (rs x) <;> cases (numB (wd (rs x))).isSome <;> simp
    rw [hok] at CR
    have HD : Hid (type_of% hD) := hD
    have HS : Hid (type_of% hs) := hs
    clear hD hs hok hw hc h ht
    go_enter Tryz.func27, Tryz.ntmps27
    go_wp2_with (first
      | (go_at_call 52; with_reducible refine Calls.mono (CC.out _) ?_; rintro e wx ⟨rfl, hw⟩; rw [hw]; clear hw wx)
      | (go_at_call 53; with_reducible refine Calls.mono (of_any _ _) ?_; rintro e wx ⟨rfl, hw⟩; rw [hw]; clear hw wx)
      | (go_at_call 54; with_reducible refine Calls.mono CW.out ?_; rintro e w2 ⟨rfl, k0⟩; have a0 := k0.out.1; have b0 := k0.out.2)
      | (go_at_call 56; with_reducible refine Calls.mono (C1.out _ a0 b0) ?_; rintro e v1 ⟨n, rfl, k1⟩; have m1 := k1.out.1; have a1 := k1.out.2.1; have b1 := k1.out.2.2)
      | (go_at_call 57; with_reducible refine Calls.mono (CR.out _ a1 b1) ?_; rintro e w4 ⟨rfl, h4⟩)
      | (go_at_call 31; with_reducible refine Calls.mono (CP.out _ n h4.out.2) ?_; rintro e w5 ⟨rfl, h5⟩))
    go_ret
    rw [HD.out n (getD_num m1 HS.out)]
    exact ⟨rfl, redone_by h4.out.2 h5⟩
  | false =>
    have hD : doF s x = (14, s) := by
      unfold doF
      rw [if_neg HN.out.1, if_neg HN.out.2.1, if_neg HN.out.2.2, if_pos HW.out, hok]; rfl
    rw [hok] at CR
    have HD : Hid (type_of% hD) := hD
    clear hD hok hw hc h ht
    go_enter Tryz.func27, Tryz.ntmps27
    go_wp2_with (first
      | (go_at_call 52; with_reducible refine Calls.mono (CC.out _) ?_; rintro e wx ⟨rfl, hw⟩; rw [hw]; clear hw wx)
      | (go_at_call 53; with_reducible refine Calls.mono (of_any _ _) ?_; rintro e wx ⟨rfl, hw⟩; rw [hw]; clear hw wx)
      | (go_at_call 54; with_reducible refine Calls.mono CW.out ?_; rintro e w2 ⟨rfl, k0⟩; have a0 := k0.out.1; have b0 := k0.out.2)
      | (go_at_call 56; with_reducible refine Calls.mono (C1.out _ a0 b0) ?_; rintro e v1 ⟨n, rfl, k1⟩; have m1 := k1.out.1; have a1 := k1.out.2.1; have b1 := k1.out.2.2)
      | (go_at_call 57; with_reducible refine Calls.mono (CR.out _ a1 b1) ?_; rintro e w4 ⟨rfl, h4⟩))
    go_ret
    rw [HD.out]
    exact ⟨rfl, redone_same HH.out h4.out.2⟩
set_option maxHeartbeats 1000000 in
set_option maxRecDepth 100000 in
theorem redo_open (B : Nat) (s : St) (Fp : Nat → Prop) (x text : ByteArray) (w : World) (h : ProgIs w B s Fp) (ho : s.Ok) (ht : Tabs w) (hx : x.size ≤ 1000000000) (hc : ∀ W, Calls Tryz.prog 52 #[.string text, .string ⟨#[10]⟩] W fun r w' => r = .returned (.tuple #[.string x, .bool true]) ∧ w' = W) (hw : wd x = ⟨#[111]⟩) :
    Calls Tryz.prog 27 #[.pointer (some ⟨B, 0, none⟩), .string text] w fun r w' => r = .returned (.int .i64 (doF s x).1) ∧ Redone w w' B (doF s x).2 Fp := by
  have hrx := rs_size x
  have hrx2 := rs_size (rs x)
  have hwx1 := wd_size (rs x)
  have hwx2 := wd_size (rs (rs x))
  have CW : Hid (type_of% (redo_word (x := x) ht hx)) := redo_word (x := x) ht hx
  rw [hw] at CW
  have CC : Hid (type_of% hc) := hc
  have C1 : Hid (∀ W, LineIs W w.heap.size (rs x) (fd x) (false || !true) → Below w.heap.size w W → _) := fun W h1 h2 => rName ht (Nat.le_refl _) W (rs x) (fd x) (false || !true) h1 h2 (by omega)
  have C2 : Hid (∀ W, LineIs W w.heap.size (rs (rs x)) (fd (rs x)) (((false || !true) || !(fd x)) || !(isName (wd (rs x)))) → Below w.heap.size w W → _) := fun W h1 h2 => rNumber ht (Nat.le_refl _) W (rs (rs x)) (fd (rs x)) (((false || !true) || !(fd x)) || !(isName (wd (rs x)))) h1 h2 (by omega)
  have CP : Hid (∀ W n, Below w.heap.size w W → _) := fun W n hW => progOpen B s Fp (wd (rs x)) n W (h.turn (S := fun _ => False) (Turn.of_below hW) (fun _ _ h => h)) ho (by omega)
  have HN : Hid (True) := trivial
  have HH : Hid (type_of% h) := h
  have HW : Hid (type_of% hw) := hw
  have eR : (!(fd (rs (rs x))) && !(((((false || !true) || !(fd x)) || !(isName (wd (rs x)))) || !(fd (rs x))) || !(numB (wd (rs (rs x)))).isSome)) = (fd x && isName (wd (rs x)) && fd (rs x) && (numB (wd (rs (rs x)))).isSome && !fd (rs (rs x))) := by
    cases fd x <;> cases fd (rs x) <;> cases fd (rs (rs x)) <;> cases (isName (wd (rs x))) <;> cases (numB (wd (rs (rs x)))).isSome <;> rfl
  have CR : Hid (∀ W, LineIs W w.heap.size (rs (rs (rs x))) (fd (rs (rs x))) (((((false || !true) || !(fd x)) || !(isName (wd (rs x)))) || !(fd (rs x))) || !(numB (wd (rs (rs x)))).isSome) → Below w.heap.size w W → Calls Tryz.prog 57 #[.pointer (some ⟨w.heap.size, 0, none⟩)] W fun r w' => r = .returned (.bool (fd x && isName (wd (rs x)) && fd (rs x) && (numB (wd (rs (rs x)))).isSome && !fd (rs (rs x)))) ∧ Hid (Below W.heap.size W w' ∧ Below w.heap.size w w')) := fun W h1 h2 => by
    have := rRight W _ _ _ h1 h2
    rw [eR] at this
    exact this
  clear eR
  cases hok : (fd x && isName (wd (rs x)) && fd (rs x) && (numB (wd (rs (rs x)))).isSome && !fd (rs (rs x))) with
  | true =>
    have hD : ∀ n, (numB (wd (rs (rs x)))).getD 0 = n → doF s x = (s.openE (wd (rs x)) n, s.afterOpen (wd (rs x)) n) := fun n hn => by
      unfold doF
      rw [if_pos HW.out, hok, hn]; rfl
    have hs : (numB (wd (rs (rs x)))).isSome = true := by revert hok; cases fd x <;> cases fd (rs x) <;> cases fd (rs (rs x)) <;> cases (isName (wd (rs x))) <;> cases (numB (wd (rs (rs x)))).isSome <;> simp
    rw [hok] at CR
    have HD : Hid (type_of% hD) := hD
    have HS : Hid (type_of% hs) := hs
    clear hD hs hok hw hc h ht
    go_enter Tryz.func27, Tryz.ntmps27
    go_wp2_with (first
      | (go_at_call 52; with_reducible refine Calls.mono (CC.out _) ?_; rintro e wx ⟨rfl, hw⟩; rw [hw]; clear hw wx)
      | (go_at_call 53; with_reducible refine Calls.mono (of_any _ _) ?_; rintro e wx ⟨rfl, hw⟩; rw [hw]; clear hw wx)
      | (go_at_call 54; with_reducible refine Calls.mono CW.out ?_; rintro e w2 ⟨rfl, k0⟩; have a0 := k0.out.1; have b0 := k0.out.2)
      | (go_at_call 55; with_reducible refine Calls.mono (C1.out _ a0 b0) ?_; rintro e v1 ⟨rfl, k1⟩; have a1 := k1.out.1; have b1 := k1.out.2)
      | (go_at_call 56; with_reducible refine Calls.mono (C2.out _ a1 b1) ?_; rintro e v2 ⟨n, rfl, k2⟩; have m2 := k2.out.1; have a2 := k2.out.2.1; have b2 := k2.out.2.2)
      | (go_at_call 57; with_reducible refine Calls.mono (CR.out _ a2 b2) ?_; rintro e w4 ⟨rfl, h4⟩)
      | (go_at_call 38; with_reducible refine Calls.mono (CP.out _ n h4.out.2) ?_; rintro e w5 ⟨rfl, h5⟩))
    go_ret
    rw [HD.out n (getD_num m2 HS.out)]
    exact ⟨rfl, redone_by h4.out.2 h5⟩
  | false =>
    have hD : doF s x = (14, s) := by
      unfold doF
      rw [if_pos HW.out, hok]; rfl
    rw [hok] at CR
    have HD : Hid (type_of% hD) := hD
    clear hD hok hw hc h ht
    go_enter Tryz.func27, Tryz.ntmps27
    go_wp2_with (first
      | (go_at_call 52; with_reducible refine Calls.mono (CC.out _) ?_; rintro e wx ⟨rfl, hw⟩; rw [hw]; clear hw wx)
      | (go_at_call 53; with_reducible refine Calls.mono (of_any _ _) ?_; rintro e wx ⟨rfl, hw⟩; rw [hw]; clear hw wx)
      | (go_at_call 54; with_reducible refine Calls.mono CW.out ?_; rintro e w2 ⟨rfl, k0⟩; have a0 := k0.out.1; have b0 := k0.out.2)
      | (go_at_call 55; with_reducible refine Calls.mono (C1.out _ a0 b0) ?_; rintro e v1 ⟨rfl, k1⟩; have a1 := k1.out.1; have b1 := k1.out.2)
      | (go_at_call 56; with_reducible refine Calls.mono (C2.out _ a1 b1) ?_; rintro e v2 ⟨n, rfl, k2⟩; have m2 := k2.out.1; have a2 := k2.out.2.1; have b2 := k2.out.2.2)
      | (go_at_call 57; with_reducible refine Calls.mono (CR.out _ a2 b2) ?_; rintro e w4 ⟨rfl, h4⟩))
    go_ret
    rw [HD.out]
    exact ⟨rfl, redone_same HH.out h4.out.2⟩
set_option maxHeartbeats 1000000 in
set_option maxRecDepth 100000 in
theorem redo_close (B : Nat) (s : St) (Fp : Nat → Prop) (x text : ByteArray) (w : World) (h : ProgIs w B s Fp) (ho : s.Ok) (ht : Tabs w) (hx : x.size ≤ 1000000000) (hc : ∀ W, Calls Tryz.prog 52 #[.string text, .string ⟨#[10]⟩] W fun r w' => r = .returned (.tuple #[.string x, .bool true]) ∧ w' = W) (hw : wd x = ⟨#[99]⟩) :
    Calls Tryz.prog 27 #[.pointer (some ⟨B, 0, none⟩), .string text] w fun r w' => r = .returned (.int .i64 (doF s x).1) ∧ Redone w w' B (doF s x).2 Fp := by
  have hrx := rs_size x
  have hrx2 := rs_size (rs x)
  have hwx1 := wd_size (rs x)
  have hwx2 := wd_size (rs (rs x))
  have CW : Hid (type_of% (redo_word (x := x) ht hx)) := redo_word (x := x) ht hx
  rw [hw] at CW
  have CC : Hid (type_of% hc) := hc
  have C1 : Hid (∀ W, LineIs W w.heap.size (rs x) (fd x) (false || !true) → Below w.heap.size w W → _) := fun W h1 h2 => rNumber ht (Nat.le_refl _) W (rs x) (fd x) (false || !true) h1 h2 (by omega)
  have C2 : Hid (∀ W, LineIs W w.heap.size (rs (rs x)) (fd (rs x)) (((false || !true) || !(fd x)) || !(numB (wd (rs x))).isSome) → Below w.heap.size w W → _) := fun W h1 h2 => rName ht (Nat.le_refl _) W (rs (rs x)) (fd (rs x)) (((false || !true) || !(fd x)) || !(numB (wd (rs x))).isSome) h1 h2 (by omega)
  have CP : Hid (∀ W n, Below w.heap.size w W → _) := fun W n hW => progClose B s Fp n (wd (rs (rs x))) W (h.turn (S := fun _ => False) (Turn.of_below hW) (fun _ _ h => h)) ho
  have HN : Hid (¬ wd x = ⟨#[111]⟩ ∧ ¬ wd x = ⟨#[112]⟩ ∧ ¬ wd x = ⟨#[114]⟩ ∧ ¬ wd x = ⟨#[108]⟩) := ⟨by rw [hw]; decide, by rw [hw]; decide, by rw [hw]; decide, by rw [hw]; decide⟩
  have HH : Hid (type_of% h) := h
  have HW : Hid (type_of% hw) := hw
  have eR : (!(fd (rs (rs x))) && !(((((false || !true) || !(fd x)) || !(numB (wd (rs x))).isSome) || !(fd (rs x))) || !(isName (wd (rs (rs x)))))) = (fd x && (numB (wd (rs x))).isSome && fd (rs x) && isName (wd (rs (rs x))) && !fd (rs (rs x))) := by
    cases fd x <;> cases fd (rs x) <;> cases fd (rs (rs x)) <;> cases (numB (wd (rs x))).isSome <;> cases (isName (wd (rs (rs x)))) <;> rfl
  have CR : Hid (∀ W, LineIs W w.heap.size (rs (rs (rs x))) (fd (rs (rs x))) (((((false || !true) || !(fd x)) || !(numB (wd (rs x))).isSome) || !(fd (rs x))) || !(isName (wd (rs (rs x))))) → Below w.heap.size w W → Calls Tryz.prog 57 #[.pointer (some ⟨w.heap.size, 0, none⟩)] W fun r w' => r = .returned (.bool (fd x && (numB (wd (rs x))).isSome && fd (rs x) && isName (wd (rs (rs x))) && !fd (rs (rs x)))) ∧ Hid (Below W.heap.size W w' ∧ Below w.heap.size w w')) := fun W h1 h2 => by
    have := rRight W _ _ _ h1 h2
    rw [eR] at this
    exact this
  clear eR
  cases hok : (fd x && (numB (wd (rs x))).isSome && fd (rs x) && isName (wd (rs (rs x))) && !fd (rs (rs x))) with
  | true =>
    have hD : ∀ n, (numB (wd (rs x))).getD 0 = n → doF s x = (s.closeE n (wd (rs (rs x))), s.afterClose n (wd (rs (rs x)))) := fun n hn => by
      unfold doF
      rw [if_neg HN.out.1, if_neg HN.out.2.1, if_neg HN.out.2.2.1, if_neg HN.out.2.2.2, if_pos HW.out, hok, hn]; rfl
    have hs : (numB (wd (rs x))).isSome = true := by revert hok; cases fd x <;> cases fd (rs x) <;> cases fd (rs (rs x)) <;> cases (numB (wd (rs x))).isSome <;> cases (isName (wd (rs (rs x)))) <;> simp
    rw [hok] at CR
    have HD : Hid (type_of% hD) := hD
    have HS : Hid (type_of% hs) := hs
    clear hD hs hok hw hc h ht
    go_enter Tryz.func27, Tryz.ntmps27
    go_wp2_with (first
      | (go_at_call 52; with_reducible refine Calls.mono (CC.out _) ?_; rintro e wx ⟨rfl, hw⟩; rw [hw]; clear hw wx)
      | (go_at_call 53; with_reducible refine Calls.mono (of_any _ _) ?_; rintro e wx ⟨rfl, hw⟩; rw [hw]; clear hw wx)
      | (go_at_call 54; with_reducible refine Calls.mono CW.out ?_; rintro e w2 ⟨rfl, k0⟩; have a0 := k0.out.1; have b0 := k0.out.2)
      | (go_at_call 56; with_reducible refine Calls.mono (C1.out _ a0 b0) ?_; rintro e v1 ⟨n, rfl, k1⟩; have m1 := k1.out.1; have a1 := k1.out.2.1; have b1 := k1.out.2.2)
      | (go_at_call 55; with_reducible refine Calls.mono (C2.out _ a1 b1) ?_; rintro e v2 ⟨rfl, k2⟩; have a2 := k2.out.1; have b2 := k2.out.2)
      | (go_at_call 57; with_reducible refine Calls.mono (CR.out _ a2 b2) ?_; rintro e w4 ⟨rfl, h4⟩)
      | (go_at_call 32; with_reducible refine Calls.mono (CP.out _ n h4.out.2) ?_; rintro e w5 ⟨rfl, h5⟩))
    go_ret
    rw [HD.out n (getD_num m1 HS.out)]
    exact ⟨rfl, redone_by h4.out.2 h5⟩
  | false =>
    have hD : doF s x = (14, s) := by
      unfold doF
      rw [if_neg HN.out.1, if_neg HN.out.2.1, if_neg HN.out.2.2.1, if_neg HN.out.2.2.2, if_pos HW.out, hok]; rfl
    rw [hok] at CR
    have HD : Hid (type_of% hD) := hD
    clear hD hok hw hc h ht
    go_enter Tryz.func27, Tryz.ntmps27
    go_wp2_with (first
      | (go_at_call 52; with_reducible refine Calls.mono (CC.out _) ?_; rintro e wx ⟨rfl, hw⟩; rw [hw]; clear hw wx)
      | (go_at_call 53; with_reducible refine Calls.mono (of_any _ _) ?_; rintro e wx ⟨rfl, hw⟩; rw [hw]; clear hw wx)
      | (go_at_call 54; with_reducible refine Calls.mono CW.out ?_; rintro e w2 ⟨rfl, k0⟩; have a0 := k0.out.1; have b0 := k0.out.2)
      | (go_at_call 56; with_reducible refine Calls.mono (C1.out _ a0 b0) ?_; rintro e v1 ⟨n, rfl, k1⟩; have m1 := k1.out.1; have a1 := k1.out.2.1; have b1 := k1.out.2.2)
      | (go_at_call 55; with_reducible refine Calls.mono (C2.out _ a1 b1) ?_; rintro e v2 ⟨rfl, k2⟩; have a2 := k2.out.1; have b2 := k2.out.2)
      | (go_at_call 57; with_reducible refine Calls.mono (CR.out _ a2 b2) ?_; rintro e w4 ⟨rfl, h4⟩))
    go_ret
    rw [HD.out]
    exact ⟨rfl, redone_same HH.out h4.out.2⟩
end Go.Proofs.YtjnmoddcodnadaaGreatDoor
