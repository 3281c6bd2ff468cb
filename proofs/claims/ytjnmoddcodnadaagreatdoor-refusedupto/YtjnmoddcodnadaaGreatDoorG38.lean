import Derived.Test.YtjnmoddcodnadaaGreatDoorG37
set_option linter.unusedVariables false
set_option linter.unusedSimpArgs false
namespace Go.Annal
open Go.RowKit
/-- The lines of a text, each with its byte 10. -/
def lnsL : List UInt8 → List (List UInt8)
  | [] => []
  | b :: t => if b = 10 then [b] :: lnsL t else match lnsL t with
    | [] => [[b]]
    | l :: ls => (b :: l) :: ls
def lns (x : ByteArray) : List ByteArray := (lnsL x.data.toList).map (fun l => ⟨l.toArray⟩)
theorem indexByte_low (c : UInt8) : ∀ l, -1 ≤ Lib.indexByte l c
  | [] => by simp [Lib.indexByte]
  | b :: t => by
    have := indexByte_low c t
    unfold Lib.indexByte
    split
    · decide
    · split
      · decide
      · omega
theorem lnsL_none : ∀ l, Lib.indexByte l 10 = -1 → l ≠ [] → lnsL l = [l]
  | [], _, h => absurd rfl h
  | b :: t, h, _ => by
    unfold Lib.indexByte at h
    by_cases hb : b = 10
    · subst hb; simp at h
    · rw [if_neg (by simpa using hb)] at h
      by_cases ht : Lib.indexByte t 10 = -1
      · unfold lnsL
        rw [if_neg hb]
        cases t with
        | nil => rfl
        | cons c u => rw [lnsL_none (c :: u) ht (by simp)]
      · rw [if_neg (by simpa using ht)] at h
        have := indexByte_low 10 t
        omega
theorem lnsL_some : ∀ l i, Lib.indexByte l 10 = (i : Int) → 0 ≤ i → i.toNat + 1 ≤ l.length ∧ lnsL l = l.take (i.toNat + 1) :: lnsL (l.drop (i.toNat + 1))
  | [], i, h, h0 => by simp [Lib.indexByte] at h; omega
  | b :: t, i, h, h0 => by
    unfold Lib.indexByte at h
    by_cases hb : b = 10
    · subst hb
      simp at h
      subst h
      exact ⟨by simp, by simp [lnsL]⟩
    · rw [if_neg (by simpa using hb)] at h
      by_cases ht : Lib.indexByte t 10 = -1
      · rw [if_pos (by simpa using ht)] at h; omega
      · rw [if_neg (by simpa using ht)] at h
        have hl := indexByte_low 10 t
        obtain ⟨h1, h2⟩ := lnsL_some t (i - 1) (by omega) (by omega)
        have e : i.toNat = (i - 1).toNat + 1 := by omega
        refine ⟨by simp; omega, ?_⟩
        rw [lnsL, if_neg hb, h2, e]
        simp
theorem extract_list (x : ByteArray) (a b : Nat) : (x.extract a b).data.toList = (x.data.toList.drop a).take (b - a) := by
  rw [ByteArray.data_extract]
  simp [Array.toList_extract]
theorem lns_none (x : ByteArray) (h : Lib.indexByte x.data.toList 10 = -1) (hx : 0 < x.size) : lns x = [x] := by
  unfold lns
  rw [lnsL_none _ h (fun e => by have : x.data.toList.length = 0 := by rw [e]; rfl
                                 have h2 : x.data.size = 0 := by simpa using this
                                 have : x.size = x.data.size := rfl
                                 omega)]
  rfl
theorem lns_some (x : ByteArray) (i : Int) (h : Lib.indexByte x.data.toList 10 = i) (h0 : 0 ≤ i) : i.toNat + 1 ≤ x.size ∧ lns x = x.extract 0 (i.toNat + 1) :: lns (x.extract (i.toNat + 1) x.size) := by
  obtain ⟨h1, h2⟩ := lnsL_some _ i h h0
  refine ⟨by simpa using h1, ?_⟩
  unfold lns
  rw [h2, List.map_cons, extract_list]
  congr 1
  · have := extract_list x 0 (i.toNat + 1)
    simp only [List.drop_zero, Nat.sub_zero] at this
    rw [← this]
  · rw [List.take_of_length_le]
    simp
theorem lns_nil (x : ByteArray) (h : x.size = 0) : lns x = [] := by
  have : x.data.toList = [] := List.length_eq_zero_iff.1 (by simpa using h)
  unfold lns; rw [this]; rfl
def boxSize (w : World) (b : Nat) : Nat := match w.cell? ⟨b, 0, none⟩ with
  | some (.string s) => s.size
  | _ => 0
end Go.Annal
namespace Go.Proofs.YtjnmoddcodnadaaGreatDoor
open Go.RowKit Go.Annal Go.Sort Go.Shelf
attribute [local go_sem] Oper.semAt_some
set_option maxRecDepth 100000 in
set_option maxHeartbeats 1000000 in
theorem lines1_in (n : Nat) (hn : 3 ≤ n) (l b : Nat) (text : ByteArray) (hsz : text.size ≤ 1000000000000)
    (J Jx : List ByteArray → World → Prop) (hJ : AbB b J)
    (hY : ∀ pre x W, J pre W → (pre ++ [x]) <+: lns text → YieldAt Fence.wide (n - 1) Tryz.prog l #[.string x] W fun e W' => (e = .returned (.bool true) ∧ J (pre ++ [x]) W' ∧ W'.heap[b]? = W.heap[b]?) ∨ (e = .returned (.bool false) ∧ Jx (pre ++ [x]) W'))
    (W : World) (hb : Boxed W b 9 (.string text)) (h0 : J [] W) :
    CallsIn Fence.wide n Tryz.prog 50 #[.func (.yield l) #[] #[], .pointer (some ⟨b, 0, none⟩)] W fun e W' => (∃ v, e = .returned v) ∧ ((∃ xs, xs = lns text ∧ J xs W') ∨ ∃ pre, pre <+: lns text ∧ Jx pre W') := by
  refine callsIn_of_wp Tryz.func50 rfl trivial ?_ rfl
  simp only [Tryz.ntmps50, List.size_toArray, List.length_cons, List.length_nil, Nat.reduceAdd, Nat.reduceSub, Array.replicate_succ, Array.replicate_zero, List.push_toArray, List.append_toArray, List.nil_append, List.cons_append]
  gi_wp2
  gi_loopw [3, 4] (fun _ _ wr => ∃ (pre : List ByteArray) (rest : ByteArray), rest.size ≤ text.size ∧ pre ++ lns rest = lns text ∧ Boxed wr b 9 (.string rest) ∧ J pre wr)
    (fun _ _ wr => boxSize wr b)
  case atStart => exact ⟨[], text, Nat.le_refl _, rfl, hb, h0⟩
  case round =>
    obtain ⟨pre, rest, hr, hl, hB, hj⟩ := hrel
    have cb : wr.cell? ⟨b, 0, none⟩ = some (.string rest) := blk_cell' hB (o := 0) rfl
    have fb := blk_free hB 0
    by_cases h0' : rest.size = 0
    · have hz : ¬ (0 : Int) < (rest.size : Int) := by omega
      have HL : Hid (pre = lns text) := by rw [lns_nil rest h0', List.append_nil] at hl; exact hl
      clear hl hY hb
      gi_wp2
      go_end0
      exact ⟨⟨_, rfl⟩, .inl (HL.out ▸ hj)⟩
    · have hz : (0 : Int) < (rest.size : Int) := by omega
      have mixed : Tryz.prog.follows .mixedOrders = true := by kernel_rfl
      have hi := Any.strings_IndexByte Tryz.indexbL rest 10 wr
      obtain ⟨i, hie⟩ : ∃ i, Lib.indexByte rest.data.toList (10 : Int).toNat.toUInt8 = i := ⟨_, rfl⟩
      have hlow : -1 ≤ i := by rw [← hie]; exact indexByte_low _ _
      rw [hie] at hi
      by_cases hi0 : 0 ≤ i
      · obtain ⟨hsz1, hsp⟩ := lns_some rest i hie hi0
        have hlt : i + 1 ≤ (rest.size : Int) := by omega
        have hlt0 : 0 ≤ i + 1 := by omega
        have ei : i.toNat + 1 = (i + 1).toNat := by omega
        rw [ei] at hsp
        have HS : Hid (type_of% hsp) := hsp
        have HL : Hid (type_of% hl) := hl
        have HZ : Hid (((rest.extract (i + 1).toNat rest.size) : ByteArray).size < rest.size) := by show (ByteArray.extract _ _ _).size < _; rw [ByteArray.size_extract]; omega
        clear hsp hl hb ei
        have hT : Turn (fun k => k = b) wr (wr.setCell ⟨b, 0, none⟩ (.string (rest.extract (i + 1).toNat rest.size))).drew := ((Turn.refl (fun k => k = b) wr).set ⟨b, 0, none⟩ _ (fun _ => rfl)).drew
        have hJ2 := hJ pre _ _ hj hT
        have hB2 : Boxed (wr.setCell ⟨b, 0, none⟩ (.string (rest.extract (i + 1).toNat rest.size))).drew b 9 (.string (rest.extract (i + 1).toNat rest.size)) := blk_set hB 0 (.string (rest.extract (i + 1).toNat rest.size))
        obtain ⟨fn, tmps, assign, body, hy, hR⟩ := hY pre (rest.extract 0 (i + 1).toNat) _ hJ2 ⟨lns (rest.extract (i + 1).toNat rest.size), by rw [← HL.out, HS.out]; simp⟩
        have hY2 : ((rest.extract (i + 1).toNat rest.size) : ByteArray).size ≤ text.size ∧ ((rest.extract (i + 1).toNat rest.size) : ByteArray).size < rest.size := ⟨by have := HZ.out; omega, HZ.out⟩
        have HB2 : Hid (type_of% hB2) := hB2
        clear hY hB2 hJ2 hT
        gi_wp2
        refine ⟨trivial, fun _ => by omega, (callsIn_wide.2 hi).mono ?_⟩
        rintro e wx ⟨rfl, hw⟩
        rw [hw]
        clear hw wx
        gi_wp2
        gi_region_o
        all_goals gi_wp2
        refine ⟨fun _ => by omega, ?_⟩
        refine hR.mono ?_
        rintro e W3 (⟨rfl, hJ3, hk3⟩ | ⟨rfl, hJx3⟩)
        · clear hR hy
          have hB3 : Boxed W3 b 9 (.string (rest.extract (i + 1).toNat rest.size)) := hk3.trans HB2.out
          gi_wp2
          go_roundw
          case rel => exact ⟨pre ++ [(rest.extract 0 (i + 1).toNat)], (rest.extract (i + 1).toNat rest.size), hY2.1, by rw [← HL.out, HS.out]; simp, hB3, hJ3⟩
          case measure =>
            have e1 : boxSize W3 b = ((rest.extract (i + 1).toNat rest.size) : ByteArray).size := by unfold boxSize; rw [show W3.cell? ⟨b, 0, none⟩ = some (.string (rest.extract (i + 1).toNat rest.size)) from blk_cell' hB3 rfl]
            have e2 : boxSize wr b = rest.size := by unfold boxSize; rw [cb]
            rw [e1, e2]; exact hY2.2
        · clear hR hy
          gi_wp2
          refine bodyPost_ret (results_none rfl _ _ _) rfl ?_
          exact ⟨⟨_, rfl⟩, .inr ⟨_, ⟨lns (rest.extract (i + 1).toNat rest.size), by rw [← HL.out, HS.out]; simp⟩, hJx3⟩⟩
      · have hi1 : i = -1 := by omega
        subst hi1
        have hsp := lns_none rest hie (by omega)
        have HS : Hid (lns rest = rest :: lns ⟨#[]⟩) := by show lns rest = _; rw [hsp]; rfl
        have HL : Hid (type_of% hl) := hl
        have HZ : Hid ((⟨#[]⟩ : ByteArray).size < rest.size) := by show 0 < rest.size; omega
        clear hsp hl hb
        have hT : Turn (fun k => k = b) wr (wr.setCell ⟨b, 0, none⟩ (.string ⟨#[]⟩)) := (Turn.refl (fun k => k = b) wr).set ⟨b, 0, none⟩ _ (fun _ => rfl)
        have hJ2 := hJ pre _ _ hj hT
        have hB2 : Boxed (wr.setCell ⟨b, 0, none⟩ (.string ⟨#[]⟩)) b 9 (.string ⟨#[]⟩) := blk_set hB 0 (.string ⟨#[]⟩)
        obtain ⟨fn, tmps, assign, body, hy, hR⟩ := hY pre rest _ hJ2 ⟨lns ⟨#[]⟩, by rw [← HL.out, HS.out]; simp⟩
        have hY2 : (⟨#[]⟩ : ByteArray).size ≤ text.size ∧ (⟨#[]⟩ : ByteArray).size < rest.size := ⟨by have := HZ.out; omega, HZ.out⟩
        have HB2 : Hid (type_of% hB2) := hB2
        clear hY hB2 hJ2 hT
        gi_wp2
        refine ⟨trivial, fun _ => by omega, (callsIn_wide.2 hi).mono ?_⟩
        rintro e wx ⟨rfl, hw⟩
        rw [hw]
        clear hw wx
        gi_wp2
        refine ⟨fun _ => by omega, ?_⟩
        refine hR.mono ?_
        rintro e W3 (⟨rfl, hJ3, hk3⟩ | ⟨rfl, hJx3⟩)
        · clear hR hy
          have hB3 : Boxed W3 b 9 (.string ⟨#[]⟩) := hk3.trans HB2.out
          gi_wp2
          go_roundw
          case rel => exact ⟨pre ++ [rest], ⟨#[]⟩, hY2.1, by rw [← HL.out, HS.out]; simp, hB3, hJ3⟩
          case measure =>
            have e1 : boxSize W3 b = (⟨#[]⟩ : ByteArray).size := by unfold boxSize; rw [show W3.cell? ⟨b, 0, none⟩ = some (.string ⟨#[]⟩) from blk_cell' hB3 rfl]
            have e2 : boxSize wr b = rest.size := by unfold boxSize; rw [cb]
            rw [e1, e2]; exact hY2.2
        · clear hR hy
          gi_wp2
          refine bodyPost_ret (results_none rfl _ _ _) rfl ?_
          exact ⟨⟨_, rfl⟩, .inr ⟨_, ⟨lns ⟨#[]⟩, by rw [← HL.out, HS.out]; simp⟩, hJx3⟩⟩
set_option maxHeartbeats 400000 in
theorem lines_any (text : ByteArray) (w : World) :
    Calls Tryz.prog 26 #[.string text] w fun e w' => e = .returned (.func (.func 50) #[] #[.pointer (some ⟨w.heap.size, 0, none⟩)]) ∧ w' = w.alloc (.cells #[.string text] 9) := by
  go_enter Tryz.func26, Tryz.ntmps26
  go_wp2
  go_ret
  exact ⟨rfl, rfl⟩
theorem lines_box (n : Nat) (hn : 3 ≤ n) (b : Nat) (text : ByteArray) (w : World) (hsz : text.size ≤ 1000000000000) (hb : Boxed w b 9 (.string text)) :
    SeqBox Fence.wide n Tryz.prog 50 #[.pointer (some ⟨b, 0, none⟩)] (fun x : ByteArray => #[.string x]) b (fun xs => xs = lns text) (fun pre => pre <+: lns text) w := fun l J Jx W hW hJ _ hY h0 =>
  lines1_in n hn l b text hsz J Jx hJ hY W (hW.trans hb) h0
end Go.Proofs.YtjnmoddcodnadaaGreatDoor
namespace Go.Annal
open Go.RowKit Go.Proofs.YtjnmoddcodnadaaGreatDoor
/-- All lines are done. -/
def runL : St → List ByteArray → Option St
  | s, [] => some s
  | s, x :: r => if (redoF s x).1 = 0 then runL (redoF s x).2 r else none
theorem runL_append (s : St) : ∀ a b, runL s (a ++ b) = (runL s a).bind (fun t => runL t b)
  | [], b => rfl
  | x :: r, b => by
    rw [List.cons_append, runL, runL]
    split
    · exact runL_append _ r b
    · rfl
theorem doF_ok {s : St} (h : s.Ok) (x : ByteArray) : (doF s x).2.Ok := by
  unfold doF
  repeat' split
  all_goals first | exact h | exact St.afterOpen_ok h _ _ | exact St.afterPost_ok h _ _ _ _ | exact St.afterRev_ok h _ | exact St.afterLock_ok h _ | exact St.afterClose_ok h _ _
theorem redoF_ok {s : St} (h : s.Ok) (x : ByteArray) : (redoF s x).2.Ok := by
  unfold redoF
  split
  · exact doF_ok h _
  · exact h
theorem runL_ok : ∀ (a : List ByteArray) (s t : St), s.Ok → runL s a = some t → t.Ok
  | [], s, t, h, e => by cases e; exact h
  | x :: r, s, t, h, e => by
    unfold runL at e
    split at e
    · exact runL_ok r _ t (redoF_ok h x) e
    · cases e
theorem lnsL_flat : ∀ l, (lnsL l).flatten = l
  | [] => rfl
  | b :: t => by
    have ih := lnsL_flat t
    rw [lnsL]
    split
    · rw [List.flatten_cons, ih]; rfl
    · split
      · rename_i e; rw [e] at ih; simp at ih; subst ih; rfl
      · rename_i l ls e; rw [e] at ih; rw [List.flatten_cons] at ih ⊢; rw [List.cons_append, ih]
theorem lnsL_len : ∀ l, (lnsL l).length ≤ l.length
  | [] => Nat.le_refl _
  | b :: t => by
    have ih := lnsL_len t
    rw [lnsL]
    split
    · simp; omega
    · split
      · simp
      · rename_i e; rw [e] at ih; simp at ih ⊢; omega
theorem lns_len (x : ByteArray) : (lns x).length ≤ x.size := by
  unfold lns
  rw [List.length_map, Lib.size_eq]
  exact lnsL_len _
theorem lns_mem {x y : ByteArray} (h : y ∈ lns x) : y.size ≤ x.size := by
  obtain ⟨l, hl, rfl⟩ := List.mem_map.1 h
  have h1 := congrArg List.length (lnsL_flat x.data.toList)
  have h2 : l.length ≤ (lnsL x.data.toList).flatten.length := by
    exact (List.sublist_flatten_of_mem hl).length_le
  have h3 : (⟨l.toArray⟩ : ByteArray).size = l.length := by show l.toArray.size = _; simp
  rw [h3, Lib.size_eq]
  omega
end Go.Annal
namespace Go.Proofs.YtjnmoddcodnadaaGreatDoor
open Go.RowKit Go.Annal Go.Sort Go.Shelf
attribute [local go_sem] Oper.semAt_some
theorem progFresh {w : World} {B : Nat} (h : w.heap[B]? = some (.cells #[.slice none 0 0, .slice none 0 0, .slice none 0 0, .int .i64 0] 68 (0, 0))) : ProgIs w B St.new (fun k => k = B) := by
  refine ⟨⟨0, 0, none, 0, 0, none, 0, 0, none, 0, fun _ => 0, fun _ => ⟨#[]⟩, [], fun _ => .nilIface⟩, fun _ => 0, fun _ => 0, fun _ _ => (0, 0, 0), fun _ => False, fun _ => 0, fun _ => 0, fun _ _ => ⟨#[]⟩, fun _ _ => 0, fun _ => .post, ⟨⟨h, ⟨rfl, .inl ⟨rfl, rfl⟩⟩, ⟨rfl, .inl ⟨rfl, rfl⟩⟩, ⟨rfl, .inl ⟨rfl, rfl⟩⟩, fun x a b _ hb => absurd hb (Nat.not_lt_zero _)⟩, ⟨fun _ => none, fun _ => 0, fun _ _ => 0, fun _ _ => 0, fun _ _ => [], fun i hi => absurd hi (Nat.not_lt_zero _), fun i j k hi => absurd hi (Nat.not_lt_zero _), fun k => ⟨fun h => h.elim, fun ⟨i, hi, _⟩ => absurd hi (Nat.not_lt_zero _)⟩⟩, rfl, rfl, rfl, by decide, NamesIs.zero _ _, fun i hi => absurd hi (Nat.not_lt_zero _), fun i hi => absurd hi (Nat.not_lt_zero _), fun i hi => absurd hi (Nat.not_lt_zero _), fun i hi => absurd hi (Nat.not_lt_zero _), fun i hi => absurd hi (Nat.not_lt_zero _), fun i hi => absurd hi (Nat.not_lt_zero _), fun i hi => absurd hi (Nat.not_lt_zero _), fun i hi => absurd hi (Nat.not_lt_zero _), TextIs.new _ _ _ _ _⟩, fun b => ?_⟩
  constructor
  · intro h; exact .inl (.inl h)
  · rintro ((h | h | h | h) | h | ⟨i, hi, _⟩)
    · exact h
    · cases h
    · cases h
    · cases h
    · exact h.elim
    · exact absurd hi (Nat.not_lt_zero _)
/-- What Read's loop keeps: H: the first block that was free. -/
structure ReadI (w : World) (H : Nat) (pre : List ByteArray) (W : World) : Prop where
  bk : ∃ s Fp, runL St.new pre = some s ∧ ProgIs W (H + 3) s Fp ∧ ∀ b, Fp b → b = H + 3 ∨ H + 9 ≤ b
  r0 : Boxed W H 29 (.pointer none)
  r1 : Boxed W (H + 1) 3 (.int .i64 0)
  r2 : Boxed W (H + 2) 33 (.int .i64 0)
  vb : Boxed W (H + 4) 29 (.pointer (some ⟨H + 3, 0, none⟩))
  vn : Boxed W (H + 5) 3 (.int .i64 pre.length)
  bl : Below H w W
structure ReadX (w : World) (H : Nat) (pre : List ByteArray) (W : World) : Prop where
  bk : ∃ p x s, pre = p ++ [x] ∧ runL St.new p = some s ∧ (redoF s x).1 ≠ 0 ∧ Boxed W (H + 1) 3 (.int .i64 pre.length) ∧ Boxed W (H + 2) 33 (.int .i64 (redoF s x).1)
  r0 : Boxed W H 29 (.pointer none)
  bl : Below H w W
theorem below_turn {S : Nat → Prop} {w W W' : World} {H : Nat} (h : Below H w W) (ht : Turn S W W') (hs : ∀ k, S k → H ≤ k) (hH : H ≤ W.heap.size) : Below H w W' :=
  ⟨ht.os.trans h.os, ht.tape.trans h.tape, ht.output.trans h.output, Nat.le_trans h.size ht.size, fun k hk => (ht.block k (by omega) (fun hk' => by have := hs k hk'; omega)).trans (h.block k hk)⟩
theorem ReadI.turn {w : World} {H : Nat} {pre : List ByteArray} {W W' : World} (h : ReadI w H pre W) (ht : Turn (fun k => k = H + 6 ∨ k = H + 7 ∨ k = H + 8) W W') : ReadI w H pre W' := by
  obtain ⟨⟨s, Fp, h1, h2, h3⟩, h4, h5, h6, h7, h8, h9⟩ := h
  exact ⟨⟨s, Fp, h1, h2.turn ht (fun b hb => by have := h3 b hb; omega), h3⟩, ht.blk h4 (by omega), ht.blk h5 (by omega), ht.blk h6 (by omega), ht.blk h7 (by omega), ht.blk h8 (by omega), below_turn h9 ht (fun k hk => by omega) (by have := blk_lt h4; omega)⟩
theorem ReadX.turn {w : World} {H : Nat} {pre : List ByteArray} {W W' : World} (h : ReadX w H pre W) (ht : Turn (fun k => k = H + 6 ∨ k = H + 7 ∨ k = H + 8) W W') : ReadX w H pre W' := by
  obtain ⟨⟨p, x, s, h1, h2, h3, h4, h5⟩, h6, h7⟩ := h
  exact ⟨⟨p, x, s, h1, h2, h3, ht.blk h4 (by omega), ht.blk h5 (by omega)⟩, ht.blk h6 (by omega), below_turn h7 ht (fun k hk => by omega) (by have := blk_lt h6; omega)⟩
theorem allocH (w : World) (o : Obj) : (w.alloc o).heap = w.heap.push o := rfl
theorem boxed_put {W : World} {b l : Nat} {t : TypeId} {v : Value} {o : Obj} (h : Boxed W b t v) (hne : b ≠ l) : (W.putObj l o).heap[b]? = some (.cells #[v] t (0, 0)) := (World.putObj_heap_other hne).trans h
theorem read_results {w : World} {tmps : Array Value} {A B C : Nat} {va vb vc : Value} (h1 : tmps.getD 2 undef = .pointer (some ⟨A, 0, none⟩)) (h2 : tmps.getD 3 undef = .pointer (some ⟨B, 0, none⟩)) (h3 : tmps.getD 4 undef = .pointer (some ⟨C, 0, none⟩))
    (c1 : w.cell? ⟨A, 0, none⟩ = some va) (c2 : w.cell? ⟨B, 0, none⟩ = some vb) (c3 : w.cell? ⟨C, 0, none⟩ = some vc) : (results Tryz.f12 tmps).run Tryz.prog w = .ok (.tuple #[va, vb, vc]) w := by
  rw [Array.getD_eq_getD_getElem?] at h1 h2 h3
  simp [results, h1, h2, h3, c1, c2, c3, go_sem]
def readW (w : World) (text : ByteArray) : World :=
  ((((((w.alloc (.cells #[.pointer none] 29)).alloc (.cells #[.int .i64 0] 3)).alloc (.cells #[.int .i64 0] 33)).alloc (.cells #[.slice none 0 0, .slice none 0 0, .slice none 0 0, .int .i64 0] 68)).alloc (.cells #[.pointer (some ⟨w.heap.size + 3, 0, none⟩)] 29)).alloc (.cells #[.int .i64 0] 3)).alloc (.cells #[.string text] 9)
theorem readW_size (w : World) (text : ByteArray) : (readW w text).heap.size = w.heap.size + 7 := by simp [readW]
theorem readW_box (w : World) (text : ByteArray) : Boxed (readW w text) (w.heap.size + 6) 9 (.string text) := by
  show (readW w text).heap[_]? = _
  unfold readW
  simp only [allocH, Array.getElem?_push, Array.size_push]
  simp
theorem readW_is (w : World) (text : ByteArray) : ReadI w w.heap.size [] (readW w text) := by
  have hg : Grew w (readW w text) := by
    unfold readW
    exact (((((((Grew.refl w).alloc _).alloc _).alloc _).alloc _).alloc _).alloc _).alloc _
  refine ⟨⟨St.new, _, rfl, progFresh ?_, fun b hb => .inl hb⟩, ?_, ?_, ?_, ?_, ?_, hg.below⟩ <;> (try show (readW w text).heap[_]? = _) <;> unfold readW <;> simp only [allocH, Array.getElem?_push, Array.size_push] <;> simp
  repeat rw [if_neg (by omega)]
set_option maxRecDepth 100000 in
set_option maxHeartbeats 2000000 in
theorem read_any (text : ByteArray) (w : World) (ht : Tabs w) (hx : text.size < 1000000000) :
    Calls Tryz.prog 12 #[.string text] w fun r w' => Below w.heap.size w w' ∧
      ((∃ s Fp, runL St.new (lns text) = some s ∧ r = .returned (.tuple #[.pointer (some ⟨w.heap.size + 3, 0, none⟩), .int .i64 0, .int .i64 0]) ∧ ProgIs w' (w.heap.size + 3) s Fp ∧ ∀ b, Fp b → w.heap.size ≤ b) ∨
       ∃ p x s, (p ++ [x]) <+: lns text ∧ runL St.new p = some s ∧ (redoF s x).1 ≠ 0 ∧ r = .returned (.tuple #[.pointer none, .int .i64 (p.length + 1 : Nat), .int .i64 (redoF s x).1])) := by
  have hln := lns_len text
  refine (callsIn_wide (n := 12)).1 ?_
  refine callsIn_of_wp_marks Tryz.func12 rfl trivial ?_ rfl
  simp only [Tryz.ntmps12, List.size_toArray, List.length_cons, List.length_nil, Nat.reduceAdd, Nat.reduceSub, Array.replicate_succ, Array.replicate_zero, List.push_toArray, List.append_toArray, List.nil_append, List.cons_append]
  gi_wp2
  refine ⟨trivial, (callsIn_wide.2 (annalNew_any _)).mono ?_⟩
  rintro e wx ⟨rfl, hw⟩
  rw [hw]
  clear hw wx
  gi_wp2
  refine ⟨trivial, (callsIn_wide.2 (lines_any _ _)).mono ?_⟩
  rintro e wx ⟨rfl, hw⟩
  rw [hw]
  clear hw wx
  gi_wp2
  simp only [Nat.add_assoc, Nat.reduceAdd]
  change Code.wpIn _ _ _ _ _ _ (readW w text)
  have hI0 := readW_is w text
  have hs3 := readW_size w text
  have hb3 := readW_box w text
  generalize readW w text = W3 at *
  generalize hH : w.heap.size = H at *
  refine wpIn_rangeBox rfl (by omega) (gf := 50) (lb := #[.pointer (some ⟨H + 6, 0, none⟩)]) rfl trivial (enters_of Tryz.func50 (by kernel_rfl) rfl) (b := H + 6) (by omega) (lines_box 11 (by omega) (H + 6) text W3 (by omega) hb3) (fun _ => rfl)
    (ReadI w H) (ReadX w H) (fun s W W' h ht => h.turn (by rw [hs3] at ht; exact ht)) (fun s W W' h ht => h.turn (by rw [hs3] at ht; exact ht)) hI0
    (fun x => { tmps := #[.string text, undef, .pointer (some ⟨H, 0, none⟩), .pointer (some ⟨H + 1, 0, none⟩), .pointer (some ⟨H + 2, 0, none⟩), .pointer (some ⟨H + 4, 0, none⟩), .pointer (some ⟨H + 5, 0, none⟩), .string x, undef, .pointer (some ⟨H + 3, 0, none⟩), .string text, .func (.func 50) #[] #[.pointer (some ⟨H + 6, 0, none⟩)], .string x, undef, undef, undef, undef, undef, undef, undef, undef, undef, undef], defers := [] })
    ?assign ?body ?done ?stop
  case assign =>
    intro l x W K hK
    gi_wp2
    exact hK
  case body =>
    intro l pre x W hsz hi hpre
    obtain ⟨⟨s, Fp, h1, h2, h3⟩, h4, h5, h6, h7, h8, h9⟩ := hi
    have hpl : (pre ++ [x]).length ≤ (lns text).length := hpre.length_le
    have hpl' : pre.length + 1 ≤ 1000000000 := by simp at hpl; omega
    have hxs : x.size < 1000000000 := by have := lns_mem (hpre.subset (List.mem_append_right _ (List.mem_singleton_self x))); omega
    have c5 : W.cell? ⟨H + 5, 0, none⟩ = some (.int .i64 pre.length) := blk_cell' h8 rfl
    have f5 := blk_free h8 0
    have hT1 : Turn (fun k => k = H + 5) W (W.setCell ⟨H + 5, 0, none⟩ (.int .i64 (pre.length + 1))) := (Turn.refl (fun k => k = H + 5) W).set ⟨H + 5, 0, none⟩ _ (fun _ => rfl)
    have hP1 := h2.turn hT1 (fun b hb => by have := h3 b hb; omega)
    have hT1' := ht.below (by rw [hH]; exact below_turn h9 hT1 (fun k hk => by omega) (by omega))
    have hR := redo_any (H + 3) s Fp x _ hP1 (runL_ok pre _ _ St.new_ok h1) hT1' hxs
    have c4 : (W.setCell ⟨H + 5, 0, none⟩ (.int .i64 (pre.length + 1))).cell? ⟨H + 4, 0, none⟩ = some (.pointer (some ⟨H + 3, 0, none⟩)) := blk_cell' (blk_set_other h7 (show H + 4 ≠ H + 5 by omega) _) rfl
    have b8 : Boxed (W.setCell ⟨H + 5, 0, none⟩ (.int .i64 (pre.length + 1))) (H + 5) 3 (.int .i64 (pre.length + 1)) := blk_set h8 0 _
    have HT1 : Hid (type_of% hT1) := hT1
    have HB8 : Hid (type_of% b8) := b8
    clear b8 hP1 hT1' hT1
    gi_wp2
    refine ⟨trivial, (CallsIn.inRound l (callsIn_wide.2 hR)).mono ?_⟩
    rintro e w5 ⟨rfl, Fp', g1, g2, g3⟩
    have T2 : Turn (fun k => Fp k ∨ k = H + 5) W w5 := (HT1.out.mono (fun k _ h => .inr h)).trans (g2.mono (fun k _ h => .inl h))
    have nF : ∀ k, k < H + 9 → k ≠ H + 3 → ¬ Fp k := fun k hk hk' hF => by have := h3 k hF; omega
    have k4 := T2.blk h4 (fun h => h.elim (nF _ (by omega) (by omega)) (by omega))
    have k5 := T2.blk h5 (fun h => h.elim (nF _ (by omega) (by omega)) (by omega))
    have k6 := T2.blk h6 (fun h => h.elim (nF _ (by omega) (by omega)) (by omega))
    have k7 := T2.blk h7 (fun h => h.elim (nF _ (by omega) (by omega)) (by omega))
    have k8 : Boxed w5 (H + 5) 3 (.int .i64 (pre.length + 1)) := g2.blk HB8.out (nF _ (by omega) (by omega))
    have k9 := below_turn h9 T2 (fun k hk => by rcases hk with hk | hk; have := h3 k hk; omega; omega) (by omega)
    have kb := T2.block (H + 6) (by omega) (fun h => h.elim (nF _ (by omega) (by omega)) (by omega))
    have kD := T2.block (H + 7) (by omega) (fun h => h.elim (nF _ (by omega) (by omega)) (by omega))
    have kL := T2.block (H + 8) (by omega) (fun h => h.elim (nF _ (by omega) (by omega)) (by omega))
    have g3' : ∀ b, Fp' b → b = H + 3 ∨ H + 9 ≤ b := fun b hb => by
      rcases g3 b hb with hb | hb
      · exact h3 b hb
      · simp only [World.size_setCell] at hb; omega
    have hlen : ((pre ++ [x]).length : Int) = pre.length + 1 := by simp
    by_cases he : (redoF s x).1 = 0
    · have hrun : runL St.new (pre ++ [x]) = some (redoF s x).2 := by rw [runL_append, h1]; show runL s [x] = _; rw [runL, if_pos he]; rfl
      have HRun : Hid (type_of% hrun) := hrun
      rw [he]
      clear hrun HT1 HB8
      gi_wp2
      show (_ ∧ _) ∧ _ ∧ _
      rw [hs3]
      exact ⟨⟨kD, kL⟩, kb, ⟨_, Fp', HRun.out, g1, g3'⟩, k4, k5, k6, k7, by rw [hlen]; exact k8, k9⟩
    · have c5' : w5.cell? ⟨H + 5, 0, none⟩ = some (.int .i64 (pre.length + 1)) := blk_cell' k8 rfl
      have c0 : w5.cell? ⟨H, 0, none⟩ = some (.pointer none) := blk_cell' k4 rfl
      have c1 : w5.cell? ⟨H + 1, 0, none⟩ = some (.int .i64 0) := blk_cell' k5 rfl
      have c2 : w5.cell? ⟨H + 2, 0, none⟩ = some (.int .i64 0) := blk_cell' k6 rfl
      have f0 := blk_free k4 0
      have f1 := blk_free k5 0
      have f2 := blk_free k6 0
      have mixed : Tryz.prog.follows .mixedOrders = true := by kernel_rfl
      clear c5 f5 c4 HT1 HB8
      obtain ⟨en, hen⟩ : ∃ en, (redoF s x).1 = en := ⟨_, rfl⟩
      rw [hen] at he ⊢
      have hX : boxPost (H + 6) W3.heap.size (ReadI w H) (ReadX w H) (pre ++ [x]) W .ret { tmps := #[], defers := [] } (((w5.setCell ⟨H, 0, none⟩ (.pointer none)).setCell ⟨H + 1, 0, none⟩ (.int .i64 (pre.length + 1))).setCell ⟨H + 2, 0, none⟩ (.int .i64 en)).drew := by
        have T3 : Turn (fun k => k = H ∨ k = H + 1 ∨ k = H + 2) w5 (((w5.setCell ⟨H, 0, none⟩ (.pointer none)).setCell ⟨H + 1, 0, none⟩ (.int .i64 (pre.length + 1))).setCell ⟨H + 2, 0, none⟩ (.int .i64 en)).drew :=
          ((((Turn.refl (fun k => k = H ∨ k = H + 1 ∨ k = H + 2) w5).set ⟨H, 0, none⟩ _ (fun _ => .inl rfl)).set ⟨H + 1, 0, none⟩ _ (fun _ => .inr (.inl rfl))).set ⟨H + 2, 0, none⟩ _ (fun _ => .inr (.inr rfl))).drew
        have hs5 : W.heap.size ≤ w5.heap.size := T2.size
        show (_ ∧ _) ∧ _
        rw [hs3]
        refine ⟨⟨(T3.block _ (by omega) (by omega)).trans kD, (T3.block _ (by omega) (by omega)).trans kL⟩, ⟨pre, x, s, rfl, h1, by rw [hen]; exact he, ?_, ?_⟩, ?_, below_turn k9 T3 (fun k hk => by omega) (by omega)⟩
        · rw [hlen]
          exact blk_set_other (blk_set (blk_set_other k5 (show H + 1 ≠ H by omega) _) 0 _) (show H + 1 ≠ H + 2 by omega) _
        · rw [hen]
          exact blk_set (blk_set_other (blk_set_other k6 (show H + 2 ≠ H by omega) _) (show H + 2 ≠ H + 1 by omega) _) 0 _
        · exact blk_set_other (blk_set_other (blk_set k4 0 _) (show H ≠ H + 1 by omega) _) (show H ≠ H + 2 by omega) _
      have HX : Hid (type_of% hX) := hX
      clear hX k4 k5 k6 k7 k8 k9 kb kD kL T2
      gi_wp2
      gi_region_o
      all_goals gi_wp2
      all_goals exact HX.out
  case done =>
    rintro xs W hsz rfl hi hD
    obtain ⟨⟨s, Fp, h1, h2, h3⟩, h4, h5, h6, h7, h8, h9⟩ := hi
    have c4 : W.cell? ⟨H + 4, 0, none⟩ = some (.pointer (some ⟨H + 3, 0, none⟩)) := blk_cell' h7 rfl
    have c0 : W.cell? ⟨H, 0, none⟩ = some (.pointer none) := blk_cell' h4 rfl
    have c1 : W.cell? ⟨H + 1, 0, none⟩ = some (.int .i64 0) := blk_cell' h5 rfl
    have c2 : W.cell? ⟨H + 2, 0, none⟩ = some (.int .i64 0) := blk_cell' h6 rfl
    have f0 := blk_free h4 0
    have f1 := blk_free h5 0
    have f2 := blk_free h6 0
    have T3 : Turn (fun k => k = H ∨ k = H + 1 ∨ k = H + 2) W (((W.setCell ⟨H, 0, none⟩ (.pointer (some ⟨H + 3, 0, none⟩))).setCell ⟨H + 1, 0, none⟩ (.int .i64 0)).setCell ⟨H + 2, 0, none⟩ (.int .i64 0)) :=
      ((((Turn.refl (fun k => k = H ∨ k = H + 1 ∨ k = H + 2) W).set ⟨H, 0, none⟩ _ (fun _ => .inl rfl)).set ⟨H + 1, 0, none⟩ _ (fun _ => .inr (.inl rfl))).set ⟨H + 2, 0, none⟩ _ (fun _ => .inr (.inr rfl)))
    have HD3 : Hid (_) := T3.blk hD (by omega)
    have HB0 : Hid (type_of% h4) := h4
    clear h4
    gi_wp2
    refine ⟨by simp, .inl ⟨_, _, rfl, run_takeDeferred HD3.out, ?_⟩⟩
    have T4 := (T3.mono (S' := fun k => k = H ∨ k = H + 1 ∨ k = H + 2 ∨ k = W3.heap.size) (fun k _ h => by omega)).trans (turn_put (fun k => k = H ∨ k = H + 1 ∨ k = H + 2 ∨ k = W3.heap.size) _ W3.heap.size (.deferred none) (.inr (.inr (.inr rfl))))
    have b0 : Boxed (((W.setCell ⟨H, 0, none⟩ (.pointer (some ⟨H + 3, 0, none⟩))).setCell ⟨H + 1, 0, none⟩ (.int .i64 0)).setCell ⟨H + 2, 0, none⟩ (.int .i64 0)) H 29 (.pointer (some ⟨H + 3, 0, none⟩)) := blk_set_other (blk_set_other (blk_set HB0.out 0 _) (show H ≠ H + 1 by omega) _) (show H ≠ H + 2 by omega) _
    have b1 : Boxed (((W.setCell ⟨H, 0, none⟩ (.pointer (some ⟨H + 3, 0, none⟩))).setCell ⟨H + 1, 0, none⟩ (.int .i64 0)).setCell ⟨H + 2, 0, none⟩ (.int .i64 0)) (H + 1) 3 (.int .i64 0) := blk_set_other (blk_set (blk_set_other h5 (show H + 1 ≠ H by omega) _) 0 _) (show H + 1 ≠ H + 2 by omega) _
    have b2 : Boxed (((W.setCell ⟨H, 0, none⟩ (.pointer (some ⟨H + 3, 0, none⟩))).setCell ⟨H + 1, 0, none⟩ (.int .i64 0)).setCell ⟨H + 2, 0, none⟩ (.int .i64 0)) (H + 2) 33 (.int .i64 0) := blk_set (blk_set_other (blk_set_other h6 (show H + 2 ≠ H by omega) _) (show H + 2 ≠ H + 1 by omega) _) 0 _
    refine ⟨_, read_results rfl rfl rfl (blk_cell' (boxed_put b0 (by omega)) rfl) (blk_cell' (boxed_put b1 (by omega)) rfl) (blk_cell' (boxed_put b2 (by omega)) rfl), ?_, .inl ⟨s, Fp, h1, ?_, by rw [hH]; exact h2.turn T4 (fun b hb => by have := h3 b hb; omega), fun b hb => by have := h3 b hb; omega⟩⟩
    · rw [hH]; exact below_turn h9 T4 (fun k hk => by omega) (by omega)
    · rw [hH]; rfl
  case stop =>
    rintro pre W hsz hpre hi hD
    obtain ⟨⟨p, x, s, h1, h2, h3, h4, h5⟩, h6, h7⟩ := hi
    gi_wp2
    refine ⟨by simp, .inl ⟨_, _, rfl, run_takeDeferred hD, ?_⟩⟩
    refine ⟨_, read_results rfl rfl rfl (blk_cell' (boxed_put h6 (by omega)) rfl) (blk_cell' (boxed_put h4 (by omega)) rfl) (blk_cell' (boxed_put h5 (by omega)) rfl), ?_, .inr ⟨p, x, s, by rw [← h1]; exact hpre, h2, h3, ?_⟩⟩
    · rw [hH]; exact below_turn h7 (turn_put (fun k => k = W3.heap.size) W W3.heap.size (.deferred none) rfl) (fun k hk => by omega) (by omega)
    · rw [h1]; simp
end Go.Proofs.YtjnmoddcodnadaaGreatDoor
namespace Go.Annal
open Go.RowKit Go.Proofs.YtjnmoddcodnadaaGreatDoor
theorem index_low (c : UInt8) : ∀ l, -1 ≤ Lib.index l [c]
  | [] => by simp [Lib.index]
  | b :: t => by
    have := index_low c t
    unfold Lib.index
    split
    · decide
    · split
      · decide
      · omega
theorem index_split (c : UInt8) : ∀ l i, Lib.index l [c] = i → 0 ≤ i → l = l.take i.toNat ++ c :: l.drop (i.toNat + 1) ∧ c ∉ l.take i.toNat
  | [], i, h, h0 => by simp [Lib.index] at h; omega
  | b :: t, i, h, h0 => by
    unfold Lib.index at h
    by_cases hb : b = c
    · subst hb
      simp at h
      subst h
      exact ⟨by simp, by simp⟩
    · rw [if_neg (by simp; exact fun e => hb e.symm)] at h
      by_cases ht : Lib.index t [c] = -1
      · rw [if_pos (by simpa using ht)] at h; omega
      · rw [if_neg (by simpa using ht)] at h
        have hl := index_low c t
        obtain ⟨h1, h2⟩ := index_split c t (i - 1) (by omega) (by omega)
        have e : i.toNat = (i - 1).toNat + 1 := by omega
        rw [e]
        refine ⟨?_, ?_⟩
        · simp only [List.take_succ_cons, List.drop_succ_cons, List.cons_append]
          rw [← h1]
        · simp only [List.take_succ_cons, List.mem_cons, not_or]
          exact ⟨fun e => hb e.symm, h2⟩
theorem index_no (c : UInt8) : ∀ l, Lib.index l [c] = -1 ↔ c ∉ l
  | [] => by simp [Lib.index]
  | b :: t => by
    have ih := index_no c t
    have hl := index_low c t
    unfold Lib.index
    by_cases hb : b = c
    · subst hb; simp
    · rw [if_neg (by simp; exact fun e => hb e.symm)]
      by_cases ht : Lib.index t [c] = -1
      · rw [if_pos (by simpa using ht)]
        simp only [true_iff, List.mem_cons, not_or]
        exact ⟨fun e => hb e.symm, ih.1 ht⟩
      · rw [if_neg (by simpa using ht)]
        refine ⟨fun h => by omega, fun h => ?_⟩
        simp only [List.mem_cons, not_or] at h
        exact absurd (ih.2 h.2) ht
theorem ba_data {a b : ByteArray} (h : a.data.toList = b.data.toList) : a = b := by
  cases a; cases b; congr 1; exact Array.toList_inj.1 h
theorem ba_app (a b : ByteArray) : (a ++ b).data.toList = a.data.toList ++ b.data.toList := by simp
/-- A line is its words, with blanks. -/
theorem cut_yes {x : ByteArray} (h : fd x = true) : x = wd x ++ ⟨#[32]⟩ ++ rs x := by
  apply ba_data
  rw [ba_app, ba_app]
  unfold fd at h
  unfold wd rs
  unfold Lib.cut at *
  split at h
  · rename_i hi
    rw [if_pos hi]
    have := (index_split 32 x.data.toList _ rfl hi).1
    simpa using this
  · cases h
theorem cut_no {x : ByteArray} (h : fd x = false) : wd x = x := by
  apply ba_data
  unfold fd at h
  unfold wd
  unfold Lib.cut at *
  split at h
  · cases h
  · rename_i hi
    rw [if_neg hi]
theorem num_word {y : ByteArray} {v : Int} (h : numB y = some v) (h1 : -1000000000000000000 < v) (h2 : v < 1000000000000000000) : (⟨(digZ v).toArray⟩ : ByteArray) = y := by
  unfold numB at h
  split at h
  · cases h
  · split at h
    · split at h
      · rename_i e
        cases h
        rw [← itoa_digZ _ h1 h2]; exact e
      · cases h
    · cases h
theorem num_getD {y : ByteArray} (h : (numB y).isSome = true) (h1 : -1000000000000000000 < (numB y).getD 0) (h2 : (numB y).getD 0 < 1000000000000000000) : (⟨(digZ ((numB y).getD 0)).toArray⟩ : ByteArray) = y := by
  obtain ⟨v, hv⟩ := Option.isSome_iff_exists.1 h
  rw [hv] at h1 h2 ⊢
  exact num_word hv h1 h2
/-- What is written of lines. -/
def pairT : List Ln → ByteArray
  | [] => ⟨#[]⟩
  | y :: r => ⟨#[32]⟩ ++ y.1 ++ ⟨#[32]⟩ ++ ⟨(digZ y.2).toArray⟩ ++ pairT r
theorem pairT_snoc : ∀ (L : List Ln) (y : Ln), pairT (L ++ [y]) = pairT L ++ ⟨#[32]⟩ ++ y.1 ++ ⟨#[32]⟩ ++ ⟨(digZ y.2).toArray⟩
  | [], y => by simp only [List.nil_append, pairT]; apply ba_data; simp
  | z :: r, y => by
    simp only [List.cons_append, pairT]
    rw [pairT_snoc r y]
    simp only [ByteArray.append_assoc]
theorem postT_pairs (day : Int) (L : List Ln) : ∀ n, n ≤ L.length → postT day (lnA L) (lnM L) n = ⟨#[112, 32]⟩ ++ ⟨(digZ day).toArray⟩ ++ pairT (L.take n)
  | 0, _ => by unfold postT; simp only [List.take_zero, pairT]; apply ba_data; simp
  | n + 1, h => by
    have hn : n < L.length := by omega
    unfold postT
    rw [postT_pairs day L n (by omega), List.take_succ_eq_append_getElem hn, pairT_snoc, (lnA_at L n hn).1, (lnA_at L n hn).2]
    simp only [ByteArray.append_assoc]
theorem pairs_text : ∀ f rest more L, pairsF f rest more false = some L → (∀ y ∈ L, -1000000000000000000 < y.2 ∧ y.2 < 1000000000000000000) → if more then (⟨#[32]⟩ : ByteArray) ++ rest = pairT L else L = []
  | 0, _, _, _, h, _ => by cases h
  | f + 1, rest, more, L, h, hb => by
    rw [pairsF] at h
    cases more with
    | false => simp at h; simp [h]
    | true =>
      simp only [Bool.false_eq_true, if_false, Bool.not_true, if_true] at h ⊢
      split at h
      · rename_i hn
        rw [Bool.and_eq_true] at hn
        split at h
        · rename_i v hv
          cases hp : pairsF f (rs (rs rest)) (fd (rs rest)) false with
          | none => rw [hp] at h; cases h
          | some M =>
            rw [hp] at h
            simp only [Option.map_some, Option.some.injEq] at h
            subst h
            have ih := pairs_text f _ _ M hp (fun y hy => hb y (List.mem_cons_of_mem _ hy))
            have hvb := hb _ List.mem_cons_self
            have hw := num_word hv hvb.1 hvb.2
            have hc := cut_yes hn.2
            show _ = ⟨#[32]⟩ ++ wd rest ++ ⟨#[32]⟩ ++ ⟨(digZ v).toArray⟩ ++ pairT M
            rw [hw]
            cases hf : fd (rs rest) with
            | true =>
              rw [hf] at ih
              simp only [if_true] at ih
              rw [← ih]
              have e : rest = wd rest ++ ⟨#[32]⟩ ++ (wd (rs rest) ++ ⟨#[32]⟩ ++ rs (rs rest)) := hc.trans (congrArg (fun z => wd rest ++ ⟨#[32]⟩ ++ z) (cut_yes hf))
              exact (congrArg (fun z => (⟨#[32]⟩ : ByteArray) ++ z) e).trans (by simp only [ByteArray.append_assoc])
            | false =>
              rw [hf] at ih
              simp only [Bool.false_eq_true, if_false] at ih
              subst ih
              have e : rest = wd rest ++ ⟨#[32]⟩ ++ wd (rs rest) := hc.trans (congrArg (fun z => wd rest ++ ⟨#[32]⟩ ++ z) (cut_no hf).symm)
              refine (congrArg (fun z => (⟨#[32]⟩ : ByteArray) ++ z) e).trans ?_
              unfold pairT
              apply ba_data
              simp
        · cases h
      · cases h
theorem lockE_zero {a b : Bool} (h : Go.Annal.lockE a b = 0) : a = true ∧ b = false := by revert h; cases a <;> cases b <;> decide
theorem one_word {x : ByteArray} (h : fd x = true) (hf : fd (rs x) = false) : x = wd x ++ ⟨#[32]⟩ ++ wd (rs x) := (cut_yes h).trans (congrArg (fun z => wd x ++ ⟨#[32]⟩ ++ z) (cut_no hf).symm)
theorem two_words {x : ByteArray} (h : fd x = true) (h' : fd (rs x) = true) (hf : fd (rs (rs x)) = false) : x = wd x ++ ⟨#[32]⟩ ++ wd (rs x) ++ ⟨#[32]⟩ ++ wd (rs (rs x)) := by
  have e := (cut_yes h).trans (congrArg (fun z => wd x ++ ⟨#[32]⟩ ++ z) (one_word h' hf))
  exact e.trans (by simp only [ByteArray.append_assoc])
theorem kindB_bd {k : Int} (h : kindB k = true) : 0 ≤ k ∧ k ≤ 1 := by
  unfold kindB at h
  simp at h
  omega
/-- WHAT IS READ IS JUST WHAT WOULD BE WRITTEN: a line that was done is the line that is written. -/
theorem doF_tx {s : St} (x : ByteArray) (h : (doF s x).1 = 0) : (doF s x).2.tx = s.tx ++ x ++ ⟨#[10]⟩ := by
  revert h
  unfold doF
  split
  · rename_i hw
    split
    · rename_i hc
      simp only [Bool.and_eq_true, Bool.not_eq_true'] at hc
      obtain ⟨⟨⟨⟨h1, h2⟩, h3⟩, h4⟩, h5⟩ := hc
      intro h
      simp only at h ⊢
      unfold St.afterOpen
      rw [if_pos h]
      have hk := kindB_bd (openE_zero h).2.1
      show s.tx ++ _ ++ _ = _
      rw [num_getD h4 (by omega) (by omega)]
      have e := two_words h1 h3 h5
      rw [hw] at e
      congr 2
      refine Eq.trans ?_ e.symm
      apply ba_data
      simp
    · intro h; cases h
  · split
    · rename_i hw
      split
      · rename_i L hL
        intro h
        simp only at h ⊢
        unfold St.afterPost
        rw [if_pos h]
        have hz := postE_zero h
        have hd := dayB_yes hz.1
        obtain ⟨g1, g2, g3, g4, g5⟩ := wrong_zero hz.2.1
        have hwr : (!fd x || !(numB (wd (rs x))).isSome) = false := by
          cases hh : (!fd x || !(numB (wd (rs x))).isSome) with
          | false => rfl
          | true => rw [hh, pairsF] at hL; simp at hL
        rw [hwr] at hL
        rw [Bool.or_eq_false_iff] at hwr
        have h1 : fd x = true := by simpa using hwr.1
        have h4 : (numB (wd (rs x))).isSome = true := by simpa using hwr.2
        have hpt := pairs_text _ _ _ L hL (fun y hy => by
          obtain ⟨j, hj, rfl⟩ := List.getElem_of_mem hy
          have := g5 j hj
          rw [(lnA_at L j hj).2] at this
          omega)
        show s.tx ++ postT _ _ _ _ ++ _ = _
        rw [postT_pairs _ L _ (Nat.le_refl _), List.take_length, num_getD h4 (by omega) (by omega)]
        congr 2
        have e := cut_yes h1
        rw [hw] at e
        cases hf : fd (rs x) with
        | true =>
          rw [hf] at hpt
          simp only [if_true] at hpt
          rw [← hpt]
          have e2 := e.trans (congrArg (fun z => (⟨#[112]⟩ : ByteArray) ++ ⟨#[32]⟩ ++ z) (cut_yes hf))
          refine Eq.trans ?_ e2.symm
          apply ba_data
          simp
        | false =>
          rw [hf] at hpt
          simp only [Bool.false_eq_true, if_false] at hpt
          subst hpt
          simp at g1
      · intro h; cases h
    · split
      · rename_i hw
        split
        · rename_i hc
          simp only [Bool.and_eq_true, Bool.not_eq_true'] at hc
          obtain ⟨⟨h1, h4⟩, h5⟩ := hc
          intro h
          simp only at h ⊢
          unfold St.afterRev
          rw [if_pos h]
          have hz := revE_zero h
          have hr : 1 ≤ (numB (wd (rs x))).getD 0 ∧ (numB (wd (rs x))).getD 0 ≤ s.ne := by simpa using hz.1
          have h60 : ¬ 60 ≤ s.ne := of_decide_eq_false hz.2.2.2
          show s.tx ++ _ ++ _ = _
          have ee : (((numB (wd (rs x))).getD 0 - 1).toNat : Int) + 1 = (numB (wd (rs x))).getD 0 := by omega
          rw [ee, num_getD h4 (by omega) (by omega)]
          have e := one_word h1 h5
          rw [hw] at e
          congr 2
          refine Eq.trans ?_ e.symm
          apply ba_data
          simp
        · intro h; cases h
      · split
        · rename_i hw
          split
          · rename_i hc
            simp only [Bool.and_eq_true, Bool.not_eq_true'] at hc
            obtain ⟨⟨h1, h4⟩, h5⟩ := hc
            intro h
            simp only at h ⊢
            unfold St.afterLock
            rw [if_pos h]
            have hd := dayB_yes (lockE_zero h).1
            show s.tx ++ _ ++ _ = _
            rw [num_getD h4 (by omega) (by omega)]
            have e := one_word h1 h5
            rw [hw] at e
            congr 2
            refine Eq.trans ?_ e.symm
            apply ba_data
            simp
          · intro h; cases h
        · split
          · rename_i hw
            split
            · rename_i hc
              simp only [Bool.and_eq_true, Bool.not_eq_true'] at hc
              obtain ⟨⟨⟨⟨h1, h4⟩, h3⟩, h2⟩, h5⟩ := hc
              intro h
              simp only at h ⊢
              unfold St.afterClose
              rw [if_pos h]
              have hF : s.closeF ((numB (wd (rs x))).getD 0) (wd (rs (rs x))) = 0 := by
                unfold St.closeE at h
                by_cases hF : s.closeF ((numB (wd (rs x))).getD 0) (wd (rs (rs x))) = 0
                · exact hF
                · rw [if_pos hF] at h; exact h
              have hd := dayB_yes (closeE1_zero hF).1
              show s.tx ++ _ ++ _ = _
              rw [num_getD h4 (by omega) (by omega)]
              have e := two_words h1 h3 h5
              rw [hw] at e
              congr 2
              refine Eq.trans ?_ e.symm
              apply ba_data
              simp
            · intro h; cases h
          · intro h; cases h
theorem redoF_tx {s : St} (x : ByteArray) (h : (redoF s x).1 = 0) : (redoF s x).2.tx = s.tx ++ x := by
  revert h
  unfold redoF
  split
  · rename_i hs
    intro h
    rw [doF_tx _ h]
    apply ba_data
    rw [ba_app, ba_app, ba_app, List.append_assoc]
    congr 1
    obtain ⟨t, ht⟩ := List.isSuffixOf_iff_suffix.1 hs
    show (Lib.trimSuffix x.data.toList [10]).toArray.toList ++ [10] = _
    unfold Lib.trimSuffix
    rw [if_pos hs, ← ht]
    simp
  · intro h; cases h
theorem runL_tx : ∀ (a : List ByteArray) (s t : St), runL s a = some t → t.tx.data.toList = s.tx.data.toList ++ (a.map (·.data.toList)).flatten
  | [], s, t, e => by cases e; simp
  | x :: r, s, t, e => by
    unfold runL at e
    split at e
    · rename_i h
      rw [runL_tx r _ t e, redoF_tx x h]
      simp
    · cases e
theorem lns_flat (x : ByteArray) : ((lns x).map (·.data.toList)).flatten = x.data.toList := by
  unfold lns
  rw [List.map_map]
  have : ((fun y : ByteArray => y.data.toList) ∘ fun l : List UInt8 => (⟨l.toArray⟩ : ByteArray)) = id := by funext l; simp
  rw [this, List.map_id, lnsL_flat]
/-- Read gives back the text. -/
theorem read_tx {x : ByteArray} {t : St} (h : runL St.new (lns x) = some t) : t.tx = x := by
  apply ba_data
  rw [runL_tx _ _ _ h, lns_flat]
  rfl
end Go.Annal
