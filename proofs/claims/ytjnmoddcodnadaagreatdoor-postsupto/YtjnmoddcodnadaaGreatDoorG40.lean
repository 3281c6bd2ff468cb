import Derived.Test.YtjnmoddcodnadaaGreatDoorG38
import Derived.Test.YtjnmoddcodnadaaGreatDoorG32
import Derived.Test.YtjnmoddcodnadaaGreatDoorG21
import Derived.Test.YtjnmoddcodnadaaGreatDoorG23
set_option linter.unusedVariables false
set_option linter.unusedSimpArgs false
namespace Go.Proofs.YtjnmoddcodnadaaGreatDoor
open Go.RowKit Go.Annal Go.Sort
set_option maxHeartbeats 4000000 in
set_option maxRecDepth 100000 in
theorem step_none (H L : Nat) (d : Ls) (kk kw A B C : Int) (name : ByteArray) (lv : Value) (w : World) (h : LawIs H w L d) (hnb : d.nb ≤ 100000000) (hn0 : 0 < d.nb) (h1 : -9223372036854775808 ≤ kw) (h2 : kw ≤ 9223372036854775807) (hk : kk ≤ 0) :
    Calls Tryz.prog 17 #[.pointer (some ⟨L, 0, none⟩), .agg #[.int .i64 kk, .int .i64 kw, .string name, .int .i64 A, .int .i64 B, .int .i64 C, lv]] w fun r w' => r = .returned (.bool true) ∧ ∃ d', LawIs H w' L d' ∧ Ls.Grows d d' ∧ Turn (fun b => H ≤ b) w w' := by
  have HL : Hid (LawIs H w L d) := h
  obtain ⟨ip, hip⟩ : ∃ ip : Nat, pickI kw d.nb = ip := ⟨(pickI kw d.nb).toNat, by have := pick_lt kw d.nb hn0; omega⟩
  have hipl : ip < d.nb := by have := pick_lt kw d.nb hn0; omega
  have CK : Hid (∀ W, Calls Tryz.prog 37 #[.int .i64 kw, .int .i64 d.nb] W fun r w' => r = .returned (.int .i64 ip) ∧ w' = W) := fun W => by
    have := pick_any kw d.nb W h1 h2 (by omega) (by omega)
    rw [hip] at this
    exact this
  obtain ⟨adb, cb, gb, eb, hcb, hab, hbc⟩ := owns_view h.rb
  obtain ⟨rfl, _, _⟩ := hab (by omega)
  have cL := blk_cell' h.bk (o := 0) rfl
  rw [eb] at cL
  have q0 : w.cell? ⟨gb, ip * 2, none⟩ = some (.pointer (some ⟨d.B ip, 0, none⟩)) := by
    rw [hbc (ip * 2) (by omega)]
    exact flat_get 2 (fun i => [Value.pointer (some ⟨d.B i, 0, none⟩), .pointer (some ⟨d.R i, 0, none⟩)]) (fun _ => rfl) d.nb ip 0 hipl (by omega)
  have q1 : w.cell? ⟨gb, ip * 2 + 1, none⟩ = some (.pointer (some ⟨d.R ip, 0, none⟩)) := by
    rw [hbc (ip * 2 + 1) (by omega)]
    exact flat_get 2 (fun i => [Value.pointer (some ⟨d.B i, 0, none⟩), .pointer (some ⟨d.R i, 0, none⟩)]) (fun _ => rfl) d.nb ip 1 hipl (by omega)
  have hi1 : (0 : Int) ≤ (ip : Int) := by omega
  have hi2 : (ip : Int) < (d.nb : Int) := by omega
  have hn1 : ¬ (d.nb : Int) = 0 := by omega
  clear h hbc eb hip
  have hga : Grew w (w.alloc (.cells #[.int .i64 kk, .int .i64 kw, .string name, .int .i64 A, .int .i64 B, .int .i64 C, lv] 56)) := (Grew.refl w).alloc _
  have cL' := hga.cell' cL
  have q0' := hga.cell' q0
  have q1' := hga.cell' q1
  have hk1 : (kk == 1) = false := by simp; omega
  have hk2 : (kk == 2) = false := by simp; omega
  have hk3 : (kk == 3) = false := by simp; omega
  have hk4 : (kk == 4) = false := by simp; omega
  have hk5 : (kk == 5) = false := by simp; omega
  have hk6 : (kk == 6) = false := by simp; omega
  have hk7 : (kk == 7) = false := by simp; omega
  have hk8 : (kk == 8) = false := by simp; omega
  have hk9 : (kk == 9) = false := by simp; omega
  have hk10 : (kk == 10) = false := by simp; omega
  have hk11 : (kk == 11) = false := by simp; omega
  have hk12 : (kk == 12) = false := by simp; omega
  go_enter Tryz.func17, Tryz.ntmps17
  go_wp2_with (first
    | (go_at_call 37; refine Calls.mono (CK.out _) ?_; rintro e wx ⟨rfl, hw⟩; rw [hw]; clear hw wx))
  have hne1 : L ≠ w.heap.size := by have := blk_lt HL.out.bk; omega
  go_region_held3 (fun w' => w'.cell? ⟨L, 0, none⟩ = some (.slice (some ⟨gb, 0, none⟩) d.nb cb) ∧ w'.cell? ⟨w.heap.size, 1, none⟩ = some (.int .i64 kw) ∧ w'.cell? ⟨gb, ip * 2, none⟩ = some (.pointer (some ⟨d.B ip, 0, none⟩)) ∧ w'.cell? ⟨gb, ip * 2 + 1, none⟩ = some (.pointer (some ⟨d.R ip, 0, none⟩))) (go_keep) (first | (go_at_call 37; refine Calls.mono (CK.out _) ?_; rintro e wx ⟨rfl, hw⟩; rw [hw]; clear hw wx))
  all_goals
    have hb2 : Below w.heap.size w ((w.alloc (.cells #[.int .i64 kk, .int .i64 kw, .string name, .int .i64 A, .int .i64 B, .int .i64 C, lv] 56)).alloc (.cells #[.pointer (some ⟨d.B ip, 0, none⟩), .pointer (some ⟨d.R ip, 0, none⟩)] 94)).drew := ((((Grew.refl w).alloc _).alloc _).drew).below
    have hx1 : ((w.alloc (.cells #[.int .i64 kk, .int .i64 kw, .string name, .int .i64 A, .int .i64 B, .int .i64 C, lv] 56)).alloc (.cells #[.pointer (some ⟨d.B ip, 0, none⟩), .pointer (some ⟨d.R ip, 0, none⟩)] 94)).drew.heap[w.heap.size]? = some (.cells #[.int .i64 kk, .int .i64 kw, .string name, .int .i64 A, .int .i64 B, .int .i64 C, lv] 56 (0, 0)) := Grew.blk ((Grew.refl _).alloc _).drew (heap_alloc_new w _)
    have hx2 : ((w.alloc (.cells #[.int .i64 kk, .int .i64 kw, .string name, .int .i64 A, .int .i64 B, .int .i64 C, lv] 56)).alloc (.cells #[.pointer (some ⟨d.B ip, 0, none⟩), .pointer (some ⟨d.R ip, 0, none⟩)] 94)).drew.heap[w.heap.size + 1]? = some (.cells #[.pointer (some ⟨d.B ip, 0, none⟩), .pointer (some ⟨d.R ip, 0, none⟩)] 94 (0, 0)) := by
      have := heap_alloc_new (w.alloc (.cells #[.int .i64 kk, .int .i64 kw, .string name, .int .i64 A, .int .i64 B, .int .i64 C, lv] 56)) (.cells #[.pointer (some ⟨d.B ip, 0, none⟩), .pointer (some ⟨d.R ip, 0, none⟩)] 94)
      rwa [World.size_alloc] at this
    obtain ⟨W2, hW2⟩ : ∃ W2, ((w.alloc (.cells #[.int .i64 kk, .int .i64 kw, .string name, .int .i64 A, .int .i64 B, .int .i64 C, lv] 56)).alloc (.cells #[.pointer (some ⟨d.B ip, 0, none⟩), .pointer (some ⟨d.R ip, 0, none⟩)] 94)).drew = W2 := ⟨_, rfl⟩
    rw [hW2] at hb2 hx1 hx2 ⊢
    clear hW2 cL' q0' q1' hga cL q0 q1
  all_goals
    have a0 := blk_cell' hx1 (o := 0) rfl
  go_wp2
  all_goals go_ret
  all_goals exact ⟨rfl, d, HL.out.mv hb2, ⟨⟨Nat.le_refl _, Nat.le_succ _⟩, Nat.le_add_right _ _, Nat.le_add_right _ _, Nat.le_succ _⟩, Turn.of_below hb2⟩
end Go.Proofs.YtjnmoddcodnadaaGreatDoor
namespace Go.Proofs.YtjnmoddcodnadaaGreatDoor
open Go.RowKit Go.Annal Go.Sort
theorem DocAt.kinds {w : World} {R : Nat} {s : St} {ada ade : Option Addr} {ca ce : Nat} {gl cl : Nat → Nat} (h : DocAt w R s ada ade ca ce gl cl) {ga : Nat} (hA : AccsAt w R ga ca s.na ada s.fn) : ∀ i, i < s.na → w.cell? ⟨ga, i * 2 + 1, none⟩ = some (.int .i64 (s.kd i)) := fun i hi => by
  have ha := h.ac
  rw [hA.hA (by omega)] at ha
  rw [ha.cellAt (i * 2 + 1) (by omega)]
  exact flat_get 2 (fun i => [Value.string (s.fn i), .int .i64 (s.kd i)]) (fun _ => rfl) s.na i 1 hi (by omega)
theorem DocAt.lines {w : World} {R : Nat} {s : St} {ada ade : Option Addr} {ca ce : Nat} {gl cl : Nat → Nat} (h : DocAt w R s ada ade ca ce gl cl) {e : Nat} (he : e < s.ne) : LinesAt w (gl e) 0 (s.ln e) (s.la e) (s.lm e) :=
  ⟨fun j hj => by rw [Nat.zero_add, (h.li e he).cellAt (j * 2) (by omega)]; exact lineCells_a _ _ _ _ hj, fun j hj => by rw [Nat.zero_add, (h.li e he).cellAt (j * 2 + 1) (by omega)]; exact lineCells_m _ _ _ _ hj⟩
/-- Reverse of the document's book. -/
theorem docRev (R : Nat) (s : St) (Fd : Nat → Prop) (entry : Int) (w : World) (h : DocIs w R s Fd) (ho : s.Ok) :
    Calls Tryz.prog 42 #[.pointer (some ⟨R, 0, none⟩), .int .i64 entry] w fun r w' => r = .returned (.tuple #[.int .i64 (s.revN entry), .int .i64 (s.revE entry)]) ∧ ∃ Fd', DocIs w' R (s.afterRev entry) Fd' ∧ Turn Fd w w' ∧ ∀ k, Fd' k → Fd k ∨ w.heap.size ≤ k := by
  have hkeep : ∀ w', Below w.heap.size w w' → s.revE entry ≠ 0 → ∃ Fd', DocIs w' R (s.afterRev entry) Fd' ∧ Turn Fd w w' ∧ ∀ k, Fd' k → Fd k ∨ w.heap.size ≤ k := fun w' hb he => by
    refine ⟨Fd, ?_, Turn.of_below hb, fun k hk => .inl hk⟩
    unfold St.afterRev
    rw [if_neg he]
    exact h.turn (S := fun _ => False) (Turn.of_below hb) (fun _ _ h => h)
  have hN : s.revE entry ≠ 0 → s.revN entry = 0 := fun he => by unfold St.revN; rw [if_neg he]
  obtain ⟨ada, ade, ca, ce, gl, cl, h1, h2⟩ := id h
  have hne := ho.ne
  have hna := ho.na
  have hlk := ho.lk
  have htx := h1.tx
  by_cases hin : 1 ≤ entry ∧ entry ≤ s.ne
  · obtain ⟨e, rfl⟩ : ∃ e : Nat, entry = (e : Int) + 1 := ⟨(entry - 1).toNat, by omega⟩
    have he : e < s.ne := by omega
    have hx : ((e : Int) + 1 - 1).toNat = e := by omega
    have hE : s.revE ((e : Int) + 1) = Go.Annal.revE true (s.gn e) (decide (9999 < revDay (s.dy e) s.lk)) (decide (60 ≤ s.ne)) := by
      unfold St.revE; rw [hx, decide_eq_true hin]
    obtain ⟨ge, rfl⟩ : ∃ ge, ade = some ⟨ge, 0, none⟩ := by
      rcases h1.en.2 with ⟨_, h0⟩ | ⟨g, cap, cur, e1, _⟩
      · omega
      · injection e1 with e1; exact ⟨g, e1⟩
    have cell : ∀ o, o < 3 → w.cell? ⟨ge, e * 3 + o, none⟩ = ([Value.int .i64 (s.dy e), .slice (some ⟨gl e, 0, none⟩) (s.ln e) (cl e), .bool (s.gn e)])[o]? := fun o ho' => by
      rw [h1.en.cellAt (e * 3 + o) (by omega)]
      exact flat_get 3 (fun i => [Value.int .i64 (s.dy i), .slice (some ⟨gl i, 0, none⟩) (s.ln i) (cl i), .bool (s.gn i)]) (fun _ => rfl) s.ne e o he ho'
    have cd : w.cell? ⟨ge, e * 3, none⟩ = some (.int .i64 (s.dy e)) := cell 0 (by omega)
    have cl' : w.cell? ⟨ge, e * 3 + 1, none⟩ = some (.slice (some ⟨gl e, 0, none⟩) (s.ln e) (cl e)) := cell 1 (by omega)
    have cg : w.cell? ⟨ge, e * 3 + 2, none⟩ = some (.bool (s.gn e)) := cell 2 (by omega)
    by_cases hz : s.revE ((e : Int) + 1) = 0
    · have hz' : s.gn e = false ∧ ¬ 9999 < revDay (s.dy e) s.lk ∧ s.ne < 60 := by
        have h0 := hE ▸ hz
        unfold Go.Annal.revE at h0
        cases hg : s.gn e
        · rw [hg] at h0
          by_cases hd : 9999 < revDay (s.dy e) s.lk
          · rw [decide_eq_true hd] at h0; simp at h0
          · rw [decide_eq_false hd] at h0
            by_cases hf : 60 ≤ s.ne
            · rw [decide_eq_true hf] at h0; simp at h0
            · exact ⟨rfl, hd, by omega⟩
        · rw [hg] at h0; simp at h0
      rw [hz'.1] at cg
      have hlc : s.ln e ≤ cl e := by
        obtain ⟨ad, c, g, e1, hc, _⟩ := owns_view' (h1.li e he)
        injection e1 with _ _ e3
        omega
      have hln := ho.ln e he
      refine (ReverseR_ok R s.ne ce e ge (gl e) (s.ln e) (cl e) _ s.lk (s.dy e) s.tx _ (s.la e) (s.lm e) w h1.bk h1.en he hz'.2.2 cd cl' cg hlk (h1.lines he) (ho.l1 e he) (by omega) hlc (ho.bd e he) (by omega) hz'.2.1).mono ?_
      rintro r w' ⟨rfl, g, cap', gl', cl2, hR', hown', hli', hT, hg⟩
      have hdl := digZ_len ((e : Int) + 1)
      refine ⟨by rw [hz]; unfold St.revN; rw [if_pos hz]; rfl, ?_⟩
      unfold St.afterRev
      rw [if_pos hz, hx]
      refine doc_entered h1 h2 hR' (by rw [entCells_snoc, ← entCells_set _ _ _ _ _ _ _ he]; exact hown') hli' (hT.mono (fun k _ hk => hk.imp id (fun h => by rw [h]; rfl))) (hg.imp (fun h => by rw [h]; rfl) id) ?_
      simp only [ByteArray.size_append, sz_arr, List.size_toArray, List.length_cons, List.length_nil]
      omega
    · refine (ReverseR_err R s.ne ce e ge (gl e) (s.ln e) (cl e) _ _ s.lk (s.dy e) (s.gn e) w h1.bk he (by omega) cd cl' cg hlk (hE ▸ hz)).mono ?_
      rintro r w' ⟨rfl, hb⟩
      exact ⟨by rw [hN hz, hE], hkeep _ hb hz⟩
  · have hE : s.revE entry = 7 := by unfold St.revE; rw [decide_eq_false hin]; rfl
    refine (ReverseR_none R s.ne ce ade _ _ _ entry w h1.bk (by omega)).mono ?_
    rintro r w' ⟨rfl, hb⟩
    exact ⟨by rw [hN (by rw [hE]; decide), hE], hkeep _ hb (by rw [hE]; decide)⟩
/-- Close of the document's book. -/
theorem docClose (R : Nat) (s : St) (Fd : Nat → Prop) (day : Int) (into : ByteArray) (w : World) (h : DocIs w R s Fd) (ho : s.Ok) (hin : into.size ≤ 1000000000) :
    Calls Tryz.prog 44 #[.pointer (some ⟨R, 0, none⟩), .int .i64 day, .string into] w fun r w' => r = .returned (.tuple #[.int .i64 (s.closeN day into), .int .i64 (s.closeE day into)]) ∧ ∃ Fd', DocIs w' R (s.afterClose day into) Fd' ∧ Turn Fd w w' ∧ ∀ k, Fd' k → Fd k ∨ w.heap.size ≤ k := by
  have hkeep : ∀ w', Below w.heap.size w w' → s.closeE day into ≠ 0 → ∃ Fd', DocIs w' R (s.afterClose day into) Fd' ∧ Turn Fd w w' ∧ ∀ k, Fd' k → Fd k ∨ w.heap.size ≤ k := fun w' hb he => by
    refine ⟨Fd, ?_, Turn.of_below hb, fun k hk => .inl hk⟩
    unfold St.afterClose
    rw [if_neg he]
    exact h.turn (S := fun _ => False) (Turn.of_below hb) (fun _ _ h => h)
  have hN : s.closeE day into ≠ 0 → s.closeN day into = 0 := fun he => by unfold St.closeN; rw [if_neg he]
  obtain ⟨ada, ade, ca, ce, gl, cl, h1, h2⟩ := id h
  have hne := ho.ne
  have hna := ho.na
  have hlk := ho.lk
  have htx := h1.tx
  obtain ⟨ga, hA⟩ := h1.accs ho
  obtain ⟨ge, hEn⟩ := h1.ents ho
  have hat : atI s.fn s.na into < s.na ∨ s.na = 0 ∧ atI s.fn s.na into < 0 := by
    by_cases h0 : 0 ≤ atI s.fn s.na into
    · have := (atI_at s.fn s.na into h0).1; left; omega
    · by_cases h3 : s.na = 0
      · right; exact ⟨h3, by omega⟩
      · left; omega
  have hat' : atI s.fn s.na into < s.na := by omega
  by_cases hF : s.closeF day into = 0
  · obtain ⟨f1, f2, f3, f4⟩ := closeE1_zero hF
    have g2 : 0 ≤ atI s.fn s.na into := by simpa using f2
    have g3 : ¬ s.kd (atI s.fn s.na into).toNat = 1 := by simpa using f3
    have g4 : ¬ day ≤ s.lk := by simpa using f4
    have hE : s.closeE day into = closeE2 (s.closeL0 day).isEmpty (decide (60 ≤ s.ne)) := by unfold St.closeE; rw [if_neg (by simpa using hF)]
    refine (CloseR_any R ga ca s.na ge ce s.ne ada ade s.fn s.kd s.dy gl s.ln cl s.la s.lm s.tx _ s.lk day into w h1.bk hA (h1.kinds hA) hEn h1.en f1 g2 hat' g3 g4 hna hne hin (by omega) (s.closeL0 day) (s.closeS day) rfl rfl).mono ?_
    rintro r w' ⟨q1, q2⟩
    by_cases hz : closeE2 (s.closeL0 day).isEmpty (decide (60 ≤ s.ne)) = 0
    · obtain ⟨rfl, g, cap', gl', cl2, L', rfl, hR', hown', hli', hT, hg⟩ := q2 hz
      have hz' : s.closeE day into = 0 := by rw [hE, hz]
      have hdl := digZ_len day
      have hd0 : 0 ≤ day := by unfold dayB at f1; simp at f1; omega
      refine ⟨by rw [hz']; unfold St.closeN; rw [if_pos hz']; rfl, ?_⟩
      unfold St.afterClose
      rw [if_pos hz']
      refine doc_entered h1 h2 hR' (by rw [entCells_snoc]; exact hown') (xa := lnA (s.closeLs day into)) (xm := lnM (s.closeLs day into)) ?_ hT hg ?_
      · rw [lineCells_ofL]; exact hli'
      · simp only [ByteArray.size_append, sz_arr, List.size_toArray, List.length_cons, List.length_nil]
        omega
    · obtain ⟨rfl, hb⟩ := q1 hz
      have hz' : s.closeE day into ≠ 0 := by rw [hE]; exact hz
      exact ⟨by rw [hN hz', hE], hkeep _ hb hz'⟩
  · have hE : s.closeE day into = s.closeF day into := by unfold St.closeE; rw [if_pos hF]
    refine (CloseR_err1 R ga ca s.na s.ne ce ada ade s.fn s.kd _ s.lk day into w h1.bk hA (h1.kinds hA) hF hat').mono ?_
    rintro r w' ⟨rfl, rfl⟩
    exact ⟨by rw [hN (by rw [hE]; exact hF), hE]; rfl, hkeep _ (Below.refl _ _) (by rw [hE]; exact hF)⟩
end Go.Proofs.YtjnmoddcodnadaaGreatDoor
namespace Go.Proofs.YtjnmoddcodnadaaGreatDoor
open Go.RowKit Go.Annal Go.Sort
set_option maxHeartbeats 4000000 in
set_option maxRecDepth 100000 in
theorem step_reverse (H L : Nat) (d : Ls) (kw A B C : Int) (name : ByteArray) (lv : Value) (w : World) (h : LawIs H w L d) (hnb : d.nb ≤ 100000000) (hn0 : 0 < d.nb) (h1 : -9223372036854775808 ≤ kw) (h2 : kw ≤ 9223372036854775807) :
    Calls Tryz.prog 17 #[.pointer (some ⟨L, 0, none⟩), .agg #[.int .i64 7, .int .i64 kw, .string name, .int .i64 A, .int .i64 B, .int .i64 C, lv]] w fun r w' => r = .returned (.bool true) ∧ ∃ d', LawIs H w' L d' ∧ Ls.Grows d d' ∧ Turn (fun b => H ≤ b) w w' := by
  have HL : Hid (LawIs H w L d) := h
  obtain ⟨ip, hip⟩ : ∃ ip : Nat, pickI kw d.nb = ip := ⟨(pickI kw d.nb).toNat, by have := pick_lt kw d.nb hn0; omega⟩
  have hipl : ip < d.nb := by have := pick_lt kw d.nb hn0; omega
  have CK : Hid (∀ W, Calls Tryz.prog 37 #[.int .i64 kw, .int .i64 d.nb] W fun r w' => r = .returned (.int .i64 ip) ∧ w' = W) := fun W => by
    have := pick_any kw d.nb W h1 h2 (by omega) (by omega)
    rw [hip] at this
    exact this
  obtain ⟨adb, cb, gb, eb, hcb, hab, hbc⟩ := owns_view h.rb
  obtain ⟨rfl, _, _⟩ := hab (by omega)
  have cL := blk_cell' h.bk (o := 0) rfl
  rw [eb] at cL
  have q0 : w.cell? ⟨gb, ip * 2, none⟩ = some (.pointer (some ⟨d.B ip, 0, none⟩)) := by
    rw [hbc (ip * 2) (by omega)]
    exact flat_get 2 (fun i => [Value.pointer (some ⟨d.B i, 0, none⟩), .pointer (some ⟨d.R i, 0, none⟩)]) (fun _ => rfl) d.nb ip 0 hipl (by omega)
  have q1 : w.cell? ⟨gb, ip * 2 + 1, none⟩ = some (.pointer (some ⟨d.R ip, 0, none⟩)) := by
    rw [hbc (ip * 2 + 1) (by omega)]
    exact flat_get 2 (fun i => [Value.pointer (some ⟨d.B i, 0, none⟩), .pointer (some ⟨d.R i, 0, none⟩)]) (fun _ => rfl) d.nb ip 1 hipl (by omega)
  have hi1 : (0 : Int) ≤ (ip : Int) := by omega
  have hi2 : (ip : Int) < (d.nb : Int) := by omega
  have hn1 : ¬ (d.nb : Int) = 0 := by omega
  clear h hbc eb hip
  have hga : Grew w (w.alloc (.cells #[.int .i64 7, .int .i64 kw, .string name, .int .i64 A, .int .i64 B, .int .i64 C, lv] 56)) := (Grew.refl w).alloc _
  have cL' := hga.cell' cL
  have q0' := hga.cell' q0
  have q1' := hga.cell' q1
  go_enter Tryz.func17, Tryz.ntmps17
  go_wp2_with (first
    | (go_at_call 37; refine Calls.mono (CK.out _) ?_; rintro e wx ⟨rfl, hw⟩; rw [hw]; clear hw wx))
  have hne1 : L ≠ w.heap.size := by have := blk_lt HL.out.bk; omega
  go_region_held3 (fun w' => w'.cell? ⟨L, 0, none⟩ = some (.slice (some ⟨gb, 0, none⟩) d.nb cb) ∧ w'.cell? ⟨w.heap.size, 1, none⟩ = some (.int .i64 kw) ∧ w'.cell? ⟨gb, ip * 2, none⟩ = some (.pointer (some ⟨d.B ip, 0, none⟩)) ∧ w'.cell? ⟨gb, ip * 2 + 1, none⟩ = some (.pointer (some ⟨d.R ip, 0, none⟩))) (go_keep) (first | (go_at_call 37; refine Calls.mono (CK.out _) ?_; rintro e wx ⟨rfl, hw⟩; rw [hw]; clear hw wx))
  all_goals
    have hb2 : Below w.heap.size w ((w.alloc (.cells #[.int .i64 7, .int .i64 kw, .string name, .int .i64 A, .int .i64 B, .int .i64 C, lv] 56)).alloc (.cells #[.pointer (some ⟨d.B ip, 0, none⟩), .pointer (some ⟨d.R ip, 0, none⟩)] 94)).drew := ((((Grew.refl w).alloc _).alloc _).drew).below
    have hx1 : ((w.alloc (.cells #[.int .i64 7, .int .i64 kw, .string name, .int .i64 A, .int .i64 B, .int .i64 C, lv] 56)).alloc (.cells #[.pointer (some ⟨d.B ip, 0, none⟩), .pointer (some ⟨d.R ip, 0, none⟩)] 94)).drew.heap[w.heap.size]? = some (.cells #[.int .i64 7, .int .i64 kw, .string name, .int .i64 A, .int .i64 B, .int .i64 C, lv] 56 (0, 0)) := Grew.blk ((Grew.refl _).alloc _).drew (heap_alloc_new w _)
    have hx2 : ((w.alloc (.cells #[.int .i64 7, .int .i64 kw, .string name, .int .i64 A, .int .i64 B, .int .i64 C, lv] 56)).alloc (.cells #[.pointer (some ⟨d.B ip, 0, none⟩), .pointer (some ⟨d.R ip, 0, none⟩)] 94)).drew.heap[w.heap.size + 1]? = some (.cells #[.pointer (some ⟨d.B ip, 0, none⟩), .pointer (some ⟨d.R ip, 0, none⟩)] 94 (0, 0)) := by
      have := heap_alloc_new (w.alloc (.cells #[.int .i64 7, .int .i64 kw, .string name, .int .i64 A, .int .i64 B, .int .i64 C, lv] 56)) (.cells #[.pointer (some ⟨d.B ip, 0, none⟩), .pointer (some ⟨d.R ip, 0, none⟩)] 94)
      rwa [World.size_alloc] at this
    obtain ⟨W2, hW2⟩ : ∃ W2, ((w.alloc (.cells #[.int .i64 7, .int .i64 kw, .string name, .int .i64 A, .int .i64 B, .int .i64 C, lv] 56)).alloc (.cells #[.pointer (some ⟨d.B ip, 0, none⟩), .pointer (some ⟨d.R ip, 0, none⟩)] 94)).drew = W2 := ⟨_, rfl⟩
    rw [hW2] at hb2 hx1 hx2 ⊢
    clear hW2 cL' q0' q1' hga cL q0 q1
  all_goals
    have a0 := blk_cell' hx1 (o := 0) rfl
    have a2 := blk_cell' hx1 (o := 2) rfl
    have a3 := blk_cell' hx1 (o := 3) rfl
    have b0 := blk_cell' hx2 (o := 0) rfl
    have b1 := blk_cell' hx2 (o := 1) rfl
    have C1 : Hid (type_of% (progRev (d.B ip) (d.st ip) (d.Fp ip) A W2 ((HL.out.mv hb2).pr ip hipl) (HL.out.ok ip hipl))) := progRev (d.B ip) (d.st ip) (d.Fp ip) A W2 ((HL.out.mv hb2).pr ip hipl) (HL.out.ok ip hipl)
    have C2 : Hid (∀ W, Turn (d.Fp ip) W2 W → Calls Tryz.prog 42 #[.pointer (some ⟨d.R ip, 0, none⟩), .int .i64 A] W fun r w' => r = .returned (.tuple #[.int .i64 ((d.st ip).revN A), .int .i64 ((d.st ip).revE A)]) ∧ ∃ Fd', DocIs w' (d.R ip) ((d.st ip).afterRev A) Fd' ∧ Turn (d.Fd ip) W w' ∧ ∀ k, Fd' k → d.Fd ip k ∨ W.heap.size ≤ k) := fun W hW => docRev (d.R ip) (d.st ip) (d.Fd ip) A W (((HL.out.mv hb2).dc ip hipl).turn hW (fun k hk hp => HL.out.pd ip ip k hipl hipl hp hk)) (HL.out.ok ip hipl)
    have hnp : ∀ k, w.heap.size ≤ k → ¬ d.Fp ip k := fun k hk h => by have := HL.out.plt hipl h; omega
    generalize hpn : (d.st ip).revN A = pn at C1 C2
    generalize hpe : (d.st ip).revE A = pe at C1 C2
    clear hpe
    clear hpn
  go_wp2_with (first
    | (go_at_call 30; refine Calls.mono C1.out ?_; rintro e w3 ⟨rfl, Fp', hP', hTp, hFp'⟩; have hy1 := hTp.blk hx1 (hnp _ (Nat.le_refl _)); have hy2 := hTp.blk hx2 (hnp _ (Nat.le_succ _)); have c2 := blk_cell' hy1 (o := 2) rfl; have c3 := blk_cell' hy1 (o := 3) rfl; have d1 := blk_cell' hy2 (o := 1) rfl)
    | (go_at_call 42; refine Calls.mono (C2.out _ hTp) ?_; rintro e w4 ⟨rfl, Fd', hD', hTd, hFd'⟩)
    | (go_at_call 40; refine Calls.mono (num_any _ _) ?_; rintro e wx ⟨rfl, hw⟩; rw [hw]; clear hw wx))
  all_goals go_ret
  all_goals
    have hwt : Turn (stepS d ip L) w w4 := (Turn.of_below hb2).trans ((hTp.mono (fun _ _ h => .inl h)).trans (hTd.mono (fun _ _ h => .inr (.inl h))))
    have hT2 : Turn (fun b => d.Fp ip b ∨ d.Fd ip b) w w4 := (Turn.of_below hb2).trans ((hTp.mono (fun _ _ h => .inl h)).trans (hTd.mono (fun _ _ h => .inr h)))
    have hL4 := hT2.blk HL.out.bk (fun hs => hs.elim (prog_not (HL.out.pr ip hipl) HL.out.bk (by decide)) (doc_not (HL.out.dc ip hipl) HL.out.bk (by decide)))
    have hrt4 := owns_turn HL.out.rt hT2 (fun g e hs => by
      obtain ⟨c, fz, hc⟩ := owns_kind HL.out.rt g e
      exact hs.elim (prog_not (HL.out.pr ip hipl) hc (by decide)) (doc_not (HL.out.dc ip hipl) hc (by decide)))
    have hD3 : DocIs w3 (d.R ip) (d.st ip) (d.Fd ip) := ((HL.out.mv hb2).dc ip hipl).turn hTp (fun k hk hp => HL.out.pd ip ip k hipl hipl hp hk)
    have hP4 := hP'.turn hTd (fun k hk hk' => (hFp' k hk).elim (fun h => HL.out.pd ip ip k hipl hipl h hk') (fun h => by have := HL.out.dlt hipl hk'; have := hb2.size; omega))
    have hbs := hb2.size
    have hps := hTp.size
    have hFp4 : ∀ k, Fp' k → d.Fp ip k ∨ w.heap.size ≤ k := fun k hk => (hFp' k hk).imp id (fun h => by omega)
    have hFd4 : ∀ k, Fd' k → d.Fd ip k ∨ w.heap.size ≤ k := fun k hk => (hFd' k hk).imp id (fun h => by omega)
    have hPD4 : ∀ k, Fp' k → ¬ Fd' k := fun k hk hk' => by
      rcases hFd' k hk' with h | h
      · rcases hFp' k hk with h' | h'
        · exact HL.out.pd ip ip k hipl hipl h' h
        · have := HL.out.dlt hipl h; omega
      · have := hP'.lt hk; omega
    exact ⟨rfl, d.turned ip ((d.st ip).afterRev A) Fp' Fd' d.nt d.tv d.vt, HL.out.pairStep hipl hwt hL4 hrt4 (fun b e => .inl e) hP4 hD' (St.afterRev_ok (HL.out.ok ip hipl) _) hFp4 hFd4 hPD4 (HL.out.lentOn hipl hwt hFp4 hFd4), ⟨⟨Nat.le_refl _, Nat.le_succ _⟩, Nat.le_add_right _ _, Nat.le_add_right _ _, Nat.le_succ _⟩, hwt.mono (fun k _ hk => HL.out.stepH hipl k hk)⟩
end Go.Proofs.YtjnmoddcodnadaaGreatDoor
namespace Go.Proofs.YtjnmoddcodnadaaGreatDoor
open Go.RowKit Go.Annal Go.Sort
set_option maxHeartbeats 4000000 in
set_option maxRecDepth 100000 in
theorem step_locks (H L : Nat) (d : Ls) (kw A B C : Int) (name : ByteArray) (lv : Value) (w : World) (h : LawIs H w L d) (hnb : d.nb ≤ 100000000) (hn0 : 0 < d.nb) (h1 : -9223372036854775808 ≤ kw) (h2 : kw ≤ 9223372036854775807) :
    Calls Tryz.prog 17 #[.pointer (some ⟨L, 0, none⟩), .agg #[.int .i64 8, .int .i64 kw, .string name, .int .i64 A, .int .i64 B, .int .i64 C, lv]] w fun r w' => r = .returned (.bool true) ∧ ∃ d', LawIs H w' L d' ∧ Ls.Grows d d' ∧ Turn (fun b => H ≤ b) w w' := by
  have HL : Hid (LawIs H w L d) := h
  obtain ⟨ip, hip⟩ : ∃ ip : Nat, pickI kw d.nb = ip := ⟨(pickI kw d.nb).toNat, by have := pick_lt kw d.nb hn0; omega⟩
  have hipl : ip < d.nb := by have := pick_lt kw d.nb hn0; omega
  have CK : Hid (∀ W, Calls Tryz.prog 37 #[.int .i64 kw, .int .i64 d.nb] W fun r w' => r = .returned (.int .i64 ip) ∧ w' = W) := fun W => by
    have := pick_any kw d.nb W h1 h2 (by omega) (by omega)
    rw [hip] at this
    exact this
  obtain ⟨adb, cb, gb, eb, hcb, hab, hbc⟩ := owns_view h.rb
  obtain ⟨rfl, _, _⟩ := hab (by omega)
  have cL := blk_cell' h.bk (o := 0) rfl
  rw [eb] at cL
  have q0 : w.cell? ⟨gb, ip * 2, none⟩ = some (.pointer (some ⟨d.B ip, 0, none⟩)) := by
    rw [hbc (ip * 2) (by omega)]
    exact flat_get 2 (fun i => [Value.pointer (some ⟨d.B i, 0, none⟩), .pointer (some ⟨d.R i, 0, none⟩)]) (fun _ => rfl) d.nb ip 0 hipl (by omega)
  have q1 : w.cell? ⟨gb, ip * 2 + 1, none⟩ = some (.pointer (some ⟨d.R ip, 0, none⟩)) := by
    rw [hbc (ip * 2 + 1) (by omega)]
    exact flat_get 2 (fun i => [Value.pointer (some ⟨d.B i, 0, none⟩), .pointer (some ⟨d.R i, 0, none⟩)]) (fun _ => rfl) d.nb ip 1 hipl (by omega)
  have hi1 : (0 : Int) ≤ (ip : Int) := by omega
  have hi2 : (ip : Int) < (d.nb : Int) := by omega
  have hn1 : ¬ (d.nb : Int) = 0 := by omega
  clear h hbc eb hip
  have hga : Grew w (w.alloc (.cells #[.int .i64 8, .int .i64 kw, .string name, .int .i64 A, .int .i64 B, .int .i64 C, lv] 56)) := (Grew.refl w).alloc _
  have cL' := hga.cell' cL
  have q0' := hga.cell' q0
  have q1' := hga.cell' q1
  go_enter Tryz.func17, Tryz.ntmps17
  go_wp2_with (first
    | (go_at_call 37; refine Calls.mono (CK.out _) ?_; rintro e wx ⟨rfl, hw⟩; rw [hw]; clear hw wx))
  have hne1 : L ≠ w.heap.size := by have := blk_lt HL.out.bk; omega
  go_region_held3 (fun w' => w'.cell? ⟨L, 0, none⟩ = some (.slice (some ⟨gb, 0, none⟩) d.nb cb) ∧ w'.cell? ⟨w.heap.size, 1, none⟩ = some (.int .i64 kw) ∧ w'.cell? ⟨gb, ip * 2, none⟩ = some (.pointer (some ⟨d.B ip, 0, none⟩)) ∧ w'.cell? ⟨gb, ip * 2 + 1, none⟩ = some (.pointer (some ⟨d.R ip, 0, none⟩))) (go_keep) (first | (go_at_call 37; refine Calls.mono (CK.out _) ?_; rintro e wx ⟨rfl, hw⟩; rw [hw]; clear hw wx))
  all_goals
    have hb2 : Below w.heap.size w ((w.alloc (.cells #[.int .i64 8, .int .i64 kw, .string name, .int .i64 A, .int .i64 B, .int .i64 C, lv] 56)).alloc (.cells #[.pointer (some ⟨d.B ip, 0, none⟩), .pointer (some ⟨d.R ip, 0, none⟩)] 94)).drew := ((((Grew.refl w).alloc _).alloc _).drew).below
    have hx1 : ((w.alloc (.cells #[.int .i64 8, .int .i64 kw, .string name, .int .i64 A, .int .i64 B, .int .i64 C, lv] 56)).alloc (.cells #[.pointer (some ⟨d.B ip, 0, none⟩), .pointer (some ⟨d.R ip, 0, none⟩)] 94)).drew.heap[w.heap.size]? = some (.cells #[.int .i64 8, .int .i64 kw, .string name, .int .i64 A, .int .i64 B, .int .i64 C, lv] 56 (0, 0)) := Grew.blk ((Grew.refl _).alloc _).drew (heap_alloc_new w _)
    have hx2 : ((w.alloc (.cells #[.int .i64 8, .int .i64 kw, .string name, .int .i64 A, .int .i64 B, .int .i64 C, lv] 56)).alloc (.cells #[.pointer (some ⟨d.B ip, 0, none⟩), .pointer (some ⟨d.R ip, 0, none⟩)] 94)).drew.heap[w.heap.size + 1]? = some (.cells #[.pointer (some ⟨d.B ip, 0, none⟩), .pointer (some ⟨d.R ip, 0, none⟩)] 94 (0, 0)) := by
      have := heap_alloc_new (w.alloc (.cells #[.int .i64 8, .int .i64 kw, .string name, .int .i64 A, .int .i64 B, .int .i64 C, lv] 56)) (.cells #[.pointer (some ⟨d.B ip, 0, none⟩), .pointer (some ⟨d.R ip, 0, none⟩)] 94)
      rwa [World.size_alloc] at this
    obtain ⟨W2, hW2⟩ : ∃ W2, ((w.alloc (.cells #[.int .i64 8, .int .i64 kw, .string name, .int .i64 A, .int .i64 B, .int .i64 C, lv] 56)).alloc (.cells #[.pointer (some ⟨d.B ip, 0, none⟩), .pointer (some ⟨d.R ip, 0, none⟩)] 94)).drew = W2 := ⟨_, rfl⟩
    rw [hW2] at hb2 hx1 hx2 ⊢
    clear hW2 cL' q0' q1' hga cL q0 q1
  all_goals
    have a0 := blk_cell' hx1 (o := 0) rfl
    have a2 := blk_cell' hx1 (o := 2) rfl
    have a3 := blk_cell' hx1 (o := 3) rfl
    have b0 := blk_cell' hx2 (o := 0) rfl
    have b1 := blk_cell' hx2 (o := 1) rfl
    have C1 : Hid (type_of% (progLock (d.B ip) (d.st ip) (d.Fp ip) A W2 ((HL.out.mv hb2).pr ip hipl) (HL.out.ok ip hipl))) := progLock (d.B ip) (d.st ip) (d.Fp ip) A W2 ((HL.out.mv hb2).pr ip hipl) (HL.out.ok ip hipl)
    have C2 : Hid (∀ W, Turn (d.Fp ip) W2 W → Calls Tryz.prog 43 #[.pointer (some ⟨d.R ip, 0, none⟩), .int .i64 A] W fun r w' => r = .returned (.int .i64 ((d.st ip).lockE A)) ∧ ∃ Fd', DocIs w' (d.R ip) ((d.st ip).afterLock A) Fd' ∧ Turn (d.Fd ip) W w' ∧ ∀ k, Fd' k → d.Fd ip k ∨ W.heap.size ≤ k) := fun W hW => docLock (d.R ip) (d.st ip) (d.Fd ip) A W (((HL.out.mv hb2).dc ip hipl).turn hW (fun k hk hp => HL.out.pd ip ip k hipl hipl hp hk)) (HL.out.ok ip hipl)
    have hnp : ∀ k, w.heap.size ≤ k → ¬ d.Fp ip k := fun k hk h => by have := HL.out.plt hipl h; omega
    generalize hpe : (d.st ip).lockE A = pe at C1 C2
    clear hpe
  go_wp2_with (first
    | (go_at_call 31; refine Calls.mono C1.out ?_; rintro e w3 ⟨rfl, Fp', hP', hTp, hFp'⟩; have hy1 := hTp.blk hx1 (hnp _ (Nat.le_refl _)); have hy2 := hTp.blk hx2 (hnp _ (Nat.le_succ _)); have c2 := blk_cell' hy1 (o := 2) rfl; have c3 := blk_cell' hy1 (o := 3) rfl; have d1 := blk_cell' hy2 (o := 1) rfl)
    | (go_at_call 43; refine Calls.mono (C2.out _ hTp) ?_; rintro e w4 ⟨rfl, Fd', hD', hTd, hFd'⟩)
    | (go_at_call 40; refine Calls.mono (num_any _ _) ?_; rintro e wx ⟨rfl, hw⟩; rw [hw]; clear hw wx))
  all_goals go_ret
  all_goals
    have hwt : Turn (stepS d ip L) w w4 := (Turn.of_below hb2).trans ((hTp.mono (fun _ _ h => .inl h)).trans (hTd.mono (fun _ _ h => .inr (.inl h))))
    have hT2 : Turn (fun b => d.Fp ip b ∨ d.Fd ip b) w w4 := (Turn.of_below hb2).trans ((hTp.mono (fun _ _ h => .inl h)).trans (hTd.mono (fun _ _ h => .inr h)))
    have hL4 := hT2.blk HL.out.bk (fun hs => hs.elim (prog_not (HL.out.pr ip hipl) HL.out.bk (by decide)) (doc_not (HL.out.dc ip hipl) HL.out.bk (by decide)))
    have hrt4 := owns_turn HL.out.rt hT2 (fun g e hs => by
      obtain ⟨c, fz, hc⟩ := owns_kind HL.out.rt g e
      exact hs.elim (prog_not (HL.out.pr ip hipl) hc (by decide)) (doc_not (HL.out.dc ip hipl) hc (by decide)))
    have hD3 : DocIs w3 (d.R ip) (d.st ip) (d.Fd ip) := ((HL.out.mv hb2).dc ip hipl).turn hTp (fun k hk hp => HL.out.pd ip ip k hipl hipl hp hk)
    have hP4 := hP'.turn hTd (fun k hk hk' => (hFp' k hk).elim (fun h => HL.out.pd ip ip k hipl hipl h hk') (fun h => by have := HL.out.dlt hipl hk'; have := hb2.size; omega))
    have hbs := hb2.size
    have hps := hTp.size
    have hFp4 : ∀ k, Fp' k → d.Fp ip k ∨ w.heap.size ≤ k := fun k hk => (hFp' k hk).imp id (fun h => by omega)
    have hFd4 : ∀ k, Fd' k → d.Fd ip k ∨ w.heap.size ≤ k := fun k hk => (hFd' k hk).imp id (fun h => by omega)
    have hPD4 : ∀ k, Fp' k → ¬ Fd' k := fun k hk hk' => by
      rcases hFd' k hk' with h | h
      · rcases hFp' k hk with h' | h'
        · exact HL.out.pd ip ip k hipl hipl h' h
        · have := HL.out.dlt hipl h; omega
      · have := hP'.lt hk; omega
    exact ⟨rfl, d.turned ip ((d.st ip).afterLock A) Fp' Fd' d.nt d.tv d.vt, HL.out.pairStep hipl hwt hL4 hrt4 (fun b e => .inl e) hP4 hD' (St.afterLock_ok (HL.out.ok ip hipl) _) hFp4 hFd4 hPD4 (HL.out.lentOn hipl hwt hFp4 hFd4), ⟨⟨Nat.le_refl _, Nat.le_succ _⟩, Nat.le_add_right _ _, Nat.le_add_right _ _, Nat.le_succ _⟩, hwt.mono (fun k _ hk => HL.out.stepH hipl k hk)⟩
end Go.Proofs.YtjnmoddcodnadaaGreatDoor
namespace Go.Proofs.YtjnmoddcodnadaaGreatDoor
open Go.RowKit Go.Annal Go.Sort
set_option maxHeartbeats 4000000 in
set_option maxRecDepth 100000 in
theorem step_closes (H L : Nat) (d : Ls) (kw A B C : Int) (name : ByteArray) (lv : Value) (w : World) (h : LawIs H w L d) (hnb : d.nb ≤ 100000000) (hn0 : 0 < d.nb) (h1 : -9223372036854775808 ≤ kw) (h2 : kw ≤ 9223372036854775807) (hs : name.size ≤ 1000000000) :
    Calls Tryz.prog 17 #[.pointer (some ⟨L, 0, none⟩), .agg #[.int .i64 9, .int .i64 kw, .string name, .int .i64 A, .int .i64 B, .int .i64 C, lv]] w fun r w' => r = .returned (.bool true) ∧ ∃ d', LawIs H w' L d' ∧ Ls.Grows d d' ∧ Turn (fun b => H ≤ b) w w' := by
  have HL : Hid (LawIs H w L d) := h
  obtain ⟨ip, hip⟩ : ∃ ip : Nat, pickI kw d.nb = ip := ⟨(pickI kw d.nb).toNat, by have := pick_lt kw d.nb hn0; omega⟩
  have hipl : ip < d.nb := by have := pick_lt kw d.nb hn0; omega
  have CK : Hid (∀ W, Calls Tryz.prog 37 #[.int .i64 kw, .int .i64 d.nb] W fun r w' => r = .returned (.int .i64 ip) ∧ w' = W) := fun W => by
    have := pick_any kw d.nb W h1 h2 (by omega) (by omega)
    rw [hip] at this
    exact this
  obtain ⟨adb, cb, gb, eb, hcb, hab, hbc⟩ := owns_view h.rb
  obtain ⟨rfl, _, _⟩ := hab (by omega)
  have cL := blk_cell' h.bk (o := 0) rfl
  rw [eb] at cL
  have q0 : w.cell? ⟨gb, ip * 2, none⟩ = some (.pointer (some ⟨d.B ip, 0, none⟩)) := by
    rw [hbc (ip * 2) (by omega)]
    exact flat_get 2 (fun i => [Value.pointer (some ⟨d.B i, 0, none⟩), .pointer (some ⟨d.R i, 0, none⟩)]) (fun _ => rfl) d.nb ip 0 hipl (by omega)
  have q1 : w.cell? ⟨gb, ip * 2 + 1, none⟩ = some (.pointer (some ⟨d.R ip, 0, none⟩)) := by
    rw [hbc (ip * 2 + 1) (by omega)]
    exact flat_get 2 (fun i => [Value.pointer (some ⟨d.B i, 0, none⟩), .pointer (some ⟨d.R i, 0, none⟩)]) (fun _ => rfl) d.nb ip 1 hipl (by omega)
  have hi1 : (0 : Int) ≤ (ip : Int) := by omega
  have hi2 : (ip : Int) < (d.nb : Int) := by omega
  have hn1 : ¬ (d.nb : Int) = 0 := by omega
  clear h hbc eb hip
  have hga : Grew w (w.alloc (.cells #[.int .i64 9, .int .i64 kw, .string name, .int .i64 A, .int .i64 B, .int .i64 C, lv] 56)) := (Grew.refl w).alloc _
  have cL' := hga.cell' cL
  have q0' := hga.cell' q0
  have q1' := hga.cell' q1
  go_enter Tryz.func17, Tryz.ntmps17
  go_wp2_with (first
    | (go_at_call 37; refine Calls.mono (CK.out _) ?_; rintro e wx ⟨rfl, hw⟩; rw [hw]; clear hw wx))
  have hne1 : L ≠ w.heap.size := by have := blk_lt HL.out.bk; omega
  go_region_held3 (fun w' => w'.cell? ⟨L, 0, none⟩ = some (.slice (some ⟨gb, 0, none⟩) d.nb cb) ∧ w'.cell? ⟨w.heap.size, 1, none⟩ = some (.int .i64 kw) ∧ w'.cell? ⟨gb, ip * 2, none⟩ = some (.pointer (some ⟨d.B ip, 0, none⟩)) ∧ w'.cell? ⟨gb, ip * 2 + 1, none⟩ = some (.pointer (some ⟨d.R ip, 0, none⟩))) (go_keep) (first | (go_at_call 37; refine Calls.mono (CK.out _) ?_; rintro e wx ⟨rfl, hw⟩; rw [hw]; clear hw wx))
  all_goals
    have hb2 : Below w.heap.size w ((w.alloc (.cells #[.int .i64 9, .int .i64 kw, .string name, .int .i64 A, .int .i64 B, .int .i64 C, lv] 56)).alloc (.cells #[.pointer (some ⟨d.B ip, 0, none⟩), .pointer (some ⟨d.R ip, 0, none⟩)] 94)).drew := ((((Grew.refl w).alloc _).alloc _).drew).below
    have hx1 : ((w.alloc (.cells #[.int .i64 9, .int .i64 kw, .string name, .int .i64 A, .int .i64 B, .int .i64 C, lv] 56)).alloc (.cells #[.pointer (some ⟨d.B ip, 0, none⟩), .pointer (some ⟨d.R ip, 0, none⟩)] 94)).drew.heap[w.heap.size]? = some (.cells #[.int .i64 9, .int .i64 kw, .string name, .int .i64 A, .int .i64 B, .int .i64 C, lv] 56 (0, 0)) := Grew.blk ((Grew.refl _).alloc _).drew (heap_alloc_new w _)
    have hx2 : ((w.alloc (.cells #[.int .i64 9, .int .i64 kw, .string name, .int .i64 A, .int .i64 B, .int .i64 C, lv] 56)).alloc (.cells #[.pointer (some ⟨d.B ip, 0, none⟩), .pointer (some ⟨d.R ip, 0, none⟩)] 94)).drew.heap[w.heap.size + 1]? = some (.cells #[.pointer (some ⟨d.B ip, 0, none⟩), .pointer (some ⟨d.R ip, 0, none⟩)] 94 (0, 0)) := by
      have := heap_alloc_new (w.alloc (.cells #[.int .i64 9, .int .i64 kw, .string name, .int .i64 A, .int .i64 B, .int .i64 C, lv] 56)) (.cells #[.pointer (some ⟨d.B ip, 0, none⟩), .pointer (some ⟨d.R ip, 0, none⟩)] 94)
      rwa [World.size_alloc] at this
    obtain ⟨W2, hW2⟩ : ∃ W2, ((w.alloc (.cells #[.int .i64 9, .int .i64 kw, .string name, .int .i64 A, .int .i64 B, .int .i64 C, lv] 56)).alloc (.cells #[.pointer (some ⟨d.B ip, 0, none⟩), .pointer (some ⟨d.R ip, 0, none⟩)] 94)).drew = W2 := ⟨_, rfl⟩
    rw [hW2] at hb2 hx1 hx2 ⊢
    clear hW2 cL' q0' q1' hga cL q0 q1
  all_goals
    have a0 := blk_cell' hx1 (o := 0) rfl
    have a2 := blk_cell' hx1 (o := 2) rfl
    have a3 := blk_cell' hx1 (o := 3) rfl
    have b0 := blk_cell' hx2 (o := 0) rfl
    have b1 := blk_cell' hx2 (o := 1) rfl
    have C1 : Hid (type_of% (progClose (d.B ip) (d.st ip) (d.Fp ip) A name W2 ((HL.out.mv hb2).pr ip hipl) (HL.out.ok ip hipl))) := progClose (d.B ip) (d.st ip) (d.Fp ip) A name W2 ((HL.out.mv hb2).pr ip hipl) (HL.out.ok ip hipl)
    have C2 : Hid (∀ W, Turn (d.Fp ip) W2 W → Calls Tryz.prog 44 #[.pointer (some ⟨d.R ip, 0, none⟩), .int .i64 A, .string name] W fun r w' => r = .returned (.tuple #[.int .i64 ((d.st ip).closeN A name), .int .i64 ((d.st ip).closeE A name)]) ∧ ∃ Fd', DocIs w' (d.R ip) ((d.st ip).afterClose A name) Fd' ∧ Turn (d.Fd ip) W w' ∧ ∀ k, Fd' k → d.Fd ip k ∨ W.heap.size ≤ k) := fun W hW => docClose (d.R ip) (d.st ip) (d.Fd ip) A name W (((HL.out.mv hb2).dc ip hipl).turn hW (fun k hk hp => HL.out.pd ip ip k hipl hipl hp hk)) (HL.out.ok ip hipl) hs
    have hnp : ∀ k, w.heap.size ≤ k → ¬ d.Fp ip k := fun k hk h => by have := HL.out.plt hipl h; omega
    generalize hpn : (d.st ip).closeN A name = pn at C1 C2
    generalize hpe : (d.st ip).closeE A name = pe at C1 C2
    clear hpe
    clear hpn
  go_wp2_with (first
    | (go_at_call 32; refine Calls.mono C1.out ?_; rintro e w3 ⟨rfl, Fp', hP', hTp, hFp'⟩; have hy1 := hTp.blk hx1 (hnp _ (Nat.le_refl _)); have hy2 := hTp.blk hx2 (hnp _ (Nat.le_succ _)); have c2 := blk_cell' hy1 (o := 2) rfl; have c3 := blk_cell' hy1 (o := 3) rfl; have d1 := blk_cell' hy2 (o := 1) rfl)
    | (go_at_call 44; refine Calls.mono (C2.out _ hTp) ?_; rintro e w4 ⟨rfl, Fd', hD', hTd, hFd'⟩)
    | (go_at_call 40; refine Calls.mono (num_any _ _) ?_; rintro e wx ⟨rfl, hw⟩; rw [hw]; clear hw wx))
  all_goals go_ret
  all_goals
    have hwt : Turn (stepS d ip L) w w4 := (Turn.of_below hb2).trans ((hTp.mono (fun _ _ h => .inl h)).trans (hTd.mono (fun _ _ h => .inr (.inl h))))
    have hT2 : Turn (fun b => d.Fp ip b ∨ d.Fd ip b) w w4 := (Turn.of_below hb2).trans ((hTp.mono (fun _ _ h => .inl h)).trans (hTd.mono (fun _ _ h => .inr h)))
    have hL4 := hT2.blk HL.out.bk (fun hs => hs.elim (prog_not (HL.out.pr ip hipl) HL.out.bk (by decide)) (doc_not (HL.out.dc ip hipl) HL.out.bk (by decide)))
    have hrt4 := owns_turn HL.out.rt hT2 (fun g e hs => by
      obtain ⟨c, fz, hc⟩ := owns_kind HL.out.rt g e
      exact hs.elim (prog_not (HL.out.pr ip hipl) hc (by decide)) (doc_not (HL.out.dc ip hipl) hc (by decide)))
    have hD3 : DocIs w3 (d.R ip) (d.st ip) (d.Fd ip) := ((HL.out.mv hb2).dc ip hipl).turn hTp (fun k hk hp => HL.out.pd ip ip k hipl hipl hp hk)
    have hP4 := hP'.turn hTd (fun k hk hk' => (hFp' k hk).elim (fun h => HL.out.pd ip ip k hipl hipl h hk') (fun h => by have := HL.out.dlt hipl hk'; have := hb2.size; omega))
    have hbs := hb2.size
    have hps := hTp.size
    have hFp4 : ∀ k, Fp' k → d.Fp ip k ∨ w.heap.size ≤ k := fun k hk => (hFp' k hk).imp id (fun h => by omega)
    have hFd4 : ∀ k, Fd' k → d.Fd ip k ∨ w.heap.size ≤ k := fun k hk => (hFd' k hk).imp id (fun h => by omega)
    have hPD4 : ∀ k, Fp' k → ¬ Fd' k := fun k hk hk' => by
      rcases hFd' k hk' with h | h
      · rcases hFp' k hk with h' | h'
        · exact HL.out.pd ip ip k hipl hipl h' h
        · have := HL.out.dlt hipl h; omega
      · have := hP'.lt hk; omega
    exact ⟨rfl, d.turned ip ((d.st ip).afterClose A name) Fp' Fd' d.nt d.tv d.vt, HL.out.pairStep hipl hwt hL4 hrt4 (fun b e => .inl e) hP4 hD' (St.afterClose_ok (HL.out.ok ip hipl) _ _) hFp4 hFd4 hPD4 (HL.out.lentOn hipl hwt hFp4 hFd4), ⟨⟨Nat.le_refl _, Nat.le_succ _⟩, Nat.le_add_right _ _, Nat.le_add_right _ _, Nat.le_succ _⟩, hwt.mono (fun k _ hk => HL.out.stepH hipl k hk)⟩
end Go.Proofs.YtjnmoddcodnadaaGreatDoor
