import Derived.Test.YtjnmoddcodnadaaGreatDoorG00
import Derived.Deep.RegionLaw
import Derived.Test.YtjnmoddcodnadaaGreatDoorG37
set_option linter.unusedVariables false
set_option linter.unusedSimpArgs false
namespace Go.Proofs.YtjnmoddcodnadaaGreatDoor
open Go.RowKit Go.Annal
/-- The document's New, as one step of a region that draws. -/
theorem step_newR {ops : Array Oper} {o : Oper} {a : Act} {w : World} {K : Act → World → Prop} {Q : Exit → Act → World → Prop} {E : Prop}
    (hg : o.guard = none) (hop : o.op = Op.call { callee := Callee.value (Operand.func 35), args := #[], argTypes := #[] })
    (hK : K (a.put o.dst (.pointer (some ⟨w.heap.size, 0, none⟩))) (w.alloc (.cells #[.slice none 0 0, .slice none 0 0, .int .i64 (-1), .string ⟨#[]⟩] 103))) :
    if Region.wanted o (yielded ops a.tmps) = true then Oper.wp Tryz.prog o a w K Q else E := by
  have hw : Region.wanted o (yielded ops a.tmps) = true := by simp [Region.wanted, hg]
  rw [if_pos hw]
  unfold Oper.wp
  simp only [execOp, hop, resolve, Act.eval]
  go_simp
  refine Calls.mono (newR_any w) ?_
  rintro r w' ⟨rfl, rfl⟩
  exact hK
end Go.Proofs.YtjnmoddcodnadaaGreatDoor
namespace Go.Proofs.YtjnmoddcodnadaaGreatDoor
open Go.RowKit Go.Annal Go.Sort
theorem Tryz.infoPair : (Tryz.prog.info? 94).map (fun i => (i.zero, i.size, i.bytes)) = some (some (.agg #[.pointer none, .pointer none]), 2, 16) := by kernel_rfl
theorem docNew {w : World} {R : Nat} (h : w.heap[R]? = some (.cells #[.slice none 0 0, .slice none 0 0, .int .i64 (-1), .string ⟨#[]⟩] 103 (0, 0))) : DocIs w R St.new (fun k => k = R) :=
  ⟨none, none, 0, 0, fun _ => 0, fun _ => 0, ⟨h, ⟨rfl, .inl ⟨rfl, rfl⟩⟩, ⟨rfl, .inl ⟨rfl, rfl⟩⟩, fun k hk => absurd hk (Nat.not_lt_zero _), by decide⟩, fun k => ⟨.inl, fun h => h.elim id (fun h => h.elim (fun h => by cases h) (fun h => h.elim (fun h => by cases h) (fun ⟨i, hi, _⟩ => absurd hi (Nat.not_lt_zero _))))⟩⟩
def Ls.addBook (d : Ls) (b r : Nat) (vb : Value) : Ls := { d with nb := d.nb + 1, B := upd d.B d.nb b, R := upd d.R d.nb r, st := upd d.st d.nb St.new, Fp := upd d.Fp d.nb (fun k => k = b), Fd := upd d.Fd d.nb (fun k => k = r), vb := vb }
theorem progNewAt {w : World} {B : Nat} (h : w.heap[B]? = some (.cells #[.slice none 0 0, .slice none 0 0, .slice none 0 0, .int .i64 0] 68 (0, 0))) : ProgIs w B St.new (fun k => k = B) := by
  refine ⟨⟨0, 0, none, 0, 0, none, 0, 0, none, 0, fun _ => 0, fun _ => ⟨#[]⟩, [], fun _ => .nilIface⟩, fun _ => 0, fun _ => 0, fun _ _ => (0, 0, 0), fun _ => False, fun _ => 0, fun _ => 0, fun _ _ => ⟨#[]⟩, fun _ _ => 0, fun _ => .post, ⟨⟨h, ⟨rfl, .inl ⟨rfl, rfl⟩⟩, ⟨rfl, .inl ⟨rfl, rfl⟩⟩, ⟨rfl, .inl ⟨rfl, rfl⟩⟩, fun x a b _ hb => absurd hb (Nat.not_lt_zero _)⟩, ⟨fun _ => none, fun _ => 0, fun _ _ => 0, fun _ _ => 0, fun _ _ => [], fun i hi => absurd hi (Nat.not_lt_zero _), fun i j k hi => absurd hi (Nat.not_lt_zero _), fun k => ⟨fun h => h.elim, fun ⟨i, hi, _⟩ => absurd hi (Nat.not_lt_zero _)⟩⟩, rfl, rfl, rfl, by decide, NamesIs.zero _ _, fun i hi => absurd hi (Nat.not_lt_zero _), fun i hi => absurd hi (Nat.not_lt_zero _), fun i hi => absurd hi (Nat.not_lt_zero _), fun i hi => absurd hi (Nat.not_lt_zero _), fun i hi => absurd hi (Nat.not_lt_zero _), fun i hi => absurd hi (Nat.not_lt_zero _), fun i hi => absurd hi (Nat.not_lt_zero _), fun i hi => absurd hi (Nat.not_lt_zero _)⟩, fun b => ?_⟩
  constructor
  · intro h; exact .inl (.inl h)
  · rintro ((h | h | h | h) | h | ⟨i, hi, _⟩)
    · exact h
    · cases h
    · cases h
    · cases h
    · exact h.elim
    · exact absurd hi (Nat.not_lt_zero _)
theorem LawIs.book {H : Nat} {w w' : World} {L : Nat} {d : Ls} {b r : Nat} {vb' : Value} (h : LawIs H w L d) (T : Turn (fun b => d.vb.ownBlock = some b ∨ b = L) w w') (hL' : w'.heap[L]? = some (.cells #[vb', d.vl, d.vi, d.vt, d.v0, d.v1] 52 (0, 0)))
    (hrb : w'.ownsRow H 94 2 vb' (d.nb + 1) (pairCells (upd d.B d.nb b) (upd d.R d.nb r) (d.nb + 1))) (hP : ProgIs w' b St.new (fun k => k = b)) (hD : DocIs w' r St.new (fun k => k = r)) (hb : w.heap.size ≤ b) (hr : w.heap.size ≤ r) (hbr : b ≠ r) : LawIs H w' L (d.addBook b r vb') := by
  have hK : KindIn w (fun b => d.vb.ownBlock = some b ∨ b = L) [94, 52] := by
    rintro k (hk | rfl) _
    · obtain ⟨c, fz, hc⟩ := owns_kind h.rb k hk; exact ⟨c, _, fz, hc, by decide⟩
    · exact ⟨_, _, _, h.bk, by decide⟩
  have hLt := blk_lt h.bk
  have hlo := h.lo
  have hap : ∀ g, g < w.heap.size → d.apart g → (d.addBook b r vb').apart g := fun g hg ha j hj hk => by
    have hj' : j < d.nb + 1 := hj
    by_cases e : j = d.nb
    · subst e
      simp only [Ls.addBook, upd_same] at hk
      omega
    · simp only [Ls.addBook, upd_ne _ _ e] at hk
      exact ha j (by omega) hk
  refine ⟨h.lo, hL', hrb, owns_turn h.rl T (hK.row h.rl (by decide)), owns_turn h.ri T (hK.row h.ri (by decide)), owns_turn h.rt T (hK.row h.rt (by decide)), owns_turn h.r0 T (hK.row h.r0 (by decide)), owns_turn h.r1 T (hK.row h.r1 (by decide)), h.a1, h.a2, ?_, ?_, ?_, ?_, ?_, ?_, ?_, ?_, fun i hi => (h.cl i hi).turn T (fun _ _ _ hc _ => hK.no hc (by decide)) hap, fun i hi => (h.ci i hi).turn T (fun _ _ _ hc _ => hK.no hc (by decide)) hap, fun i hi => (h.ct i hi).turn T (fun _ _ _ hc _ => hK.no hc (by decide)) hap⟩
  · intro j hj
    have hj' : j < d.nb + 1 := hj
    by_cases e : j = d.nb
    · subst e; simp only [Ls.addBook, upd_same]; exact hP
    · simp only [Ls.addBook, upd_ne _ _ e]
      exact (h.pr j (by omega)).turn T (hK.prog (h.pr j (by omega)) (by decide))
  · intro j hj
    have hj' : j < d.nb + 1 := hj
    by_cases e : j = d.nb
    · subst e; simp only [Ls.addBook, upd_same]; exact hD
    · simp only [Ls.addBook, upd_ne _ _ e]
      exact (h.dc j (by omega)).turn T (hK.doc (h.dc j (by omega)) (by decide))
  · intro j hj
    have hj' : j < d.nb + 1 := hj
    by_cases e : j = d.nb
    · subst e; simp only [Ls.addBook, upd_same]; exact St.new_ok
    · simp only [Ls.addBook, upd_ne _ _ e]; exact h.ok j (by omega)
  · intro x y k hx hy hxy hk hk'
    have hx' : x < d.nb + 1 := hx
    have hy' : y < d.nb + 1 := hy
    simp only [Ls.addBook] at hk hk'
    by_cases e : x = d.nb
    · subst e
      rw [upd_same] at hk
      rw [upd_ne _ _ (fun e => hxy e.symm)] at hk'
      have := h.plt (by omega) hk'; omega
    · rw [upd_ne _ _ e] at hk
      by_cases e' : y = d.nb
      · subst e'
        rw [upd_same] at hk'
        have := h.plt (by omega) hk; omega
      · rw [upd_ne _ _ e'] at hk'
        exact h.pp x y k (by omega) (by omega) hxy hk hk'
  · intro x y k hx hy hxy hk hk'
    have hx' : x < d.nb + 1 := hx
    have hy' : y < d.nb + 1 := hy
    simp only [Ls.addBook] at hk hk'
    by_cases e : x = d.nb
    · subst e
      rw [upd_same] at hk
      rw [upd_ne _ _ (fun e => hxy e.symm)] at hk'
      have := h.dlt (by omega) hk'; omega
    · rw [upd_ne _ _ e] at hk
      by_cases e' : y = d.nb
      · subst e'
        rw [upd_same] at hk'
        have := h.dlt (by omega) hk; omega
      · rw [upd_ne _ _ e'] at hk'
        exact h.dd x y k (by omega) (by omega) hxy hk hk'
  · intro x y k hx hy hk hk'
    have hx' : x < d.nb + 1 := hx
    have hy' : y < d.nb + 1 := hy
    simp only [Ls.addBook] at hk hk'
    by_cases e : x = d.nb
    · subst e
      rw [upd_same] at hk
      by_cases e' : y = d.nb
      · subst e'
        rw [upd_same] at hk'
        omega
      · rw [upd_ne _ _ e'] at hk'
        have := h.dlt (by omega) hk'; omega
    · rw [upd_ne _ _ e] at hk
      by_cases e' : y = d.nb
      · subst e'
        rw [upd_same] at hk'
        have := h.plt (by omega) hk; omega
      · rw [upd_ne _ _ e'] at hk'
        exact h.pd x y k (by omega) (by omega) hk hk'
  · intro j k hj hk
    have hj' : j < d.nb + 1 := hj
    simp only [Ls.addBook] at hk
    by_cases e : j = d.nb
    · subst e; rw [upd_same] at hk; omega
    · rw [upd_ne _ _ e] at hk; exact h.pH j k (by omega) hk
  · intro j k hj hk
    have hj' : j < d.nb + 1 := hj
    simp only [Ls.addBook] at hk
    by_cases e : j = d.nb
    · subst e; rw [upd_same] at hk; omega
    · rw [upd_ne _ _ e] at hk; exact h.dH j k (by omega) hk
set_option maxHeartbeats 4000000 in
set_option maxRecDepth 100000 in
theorem step_new (H L : Nat) (d : Ls) (kw A B C : Int) (name : ByteArray) (lv : Value) (w : World) (h : LawIs H w L d) (hnb : d.nb ≤ 100000000) :
    Calls Tryz.prog 17 #[.pointer (some ⟨L, 0, none⟩), .agg #[.int .i64 1, .int .i64 kw, .string name, .int .i64 A, .int .i64 B, .int .i64 C, lv]] w fun r w' => r = .returned (.bool true) ∧ ∃ d', LawIs H w' L d' ∧ Ls.Grows d d' ∧ d'.nb = d.nb + 1 ∧ Turn (fun b => H ≤ b) w w' := by
  obtain ⟨i0, hi0, hz0, hz1, hz2⟩ := info_parts Tryz.infoPair
  go_enter Tryz.func17, Tryz.ntmps17
  obtain ⟨W1, hW1⟩ : ∃ W1, W1 = (w.alloc (.cells #[.int .i64 1, .int .i64 kw, .string name, .int .i64 A, .int .i64 B, .int .i64 C, lv] 56)).alloc (.cells #[.slice none 0 0, .slice none 0 0, .slice none 0 0, .int .i64 0] 68) := ⟨_, rfl⟩
  have hb1 : Below w.heap.size w W1 := by rw [hW1]; exact (((Grew.refl w).alloc _).alloc _).below
  have hL1 := (h.mv hb1)
  have hbk1 : W1.heap[w.heap.size + 1]? = some (.cells #[.slice none 0 0, .slice none 0 0, .slice none 0 0, .int .i64 0] 68 (0, 0)) := by
    have := heap_alloc_new (w.alloc (.cells #[.int .i64 1, .int .i64 kw, .string name, .int .i64 A, .int .i64 B, .int .i64 C, lv] 56)) (.cells #[.slice none 0 0, .slice none 0 0, .slice none 0 0, .int .i64 0] 68)
    rw [World.size_alloc] at this
    rw [hW1]; exact this
  have hs1 : W1.heap.size = w.heap.size + 2 := by rw [hW1]; simp
  have HW1 : Hid (type_of% hW1) := hW1
  have HBK1 : Hid (type_of% hbk1) := hbk1
  have HS1 : Hid (type_of% hs1) := hs1
  clear hW1 hbk1 hs1
  go_wp2_with (first
    | (go_at_call 25; refine Calls.mono (annalNew_any _) ?_; rintro e wx ⟨rfl, hw⟩; rw [← HW1.out] at hw; rw [hw]; clear hw wx))
  have cL := blk_cell' hL1.bk (o := 0) rfl
  have fL := blk_free hL1.bk 0
  have hb2 : ((W1.alloc (.cells #[.slice none 0 0, .slice none 0 0, .int .i64 (-1), .string ⟨#[]⟩] 103)).alloc (.cells #[.pointer (some ⟨w.heap.size + 1, 0, none⟩), .pointer (some ⟨W1.heap.size, 0, none⟩)] 94)).drew.heap[W1.heap.size + 1]? = some (.cells #[.pointer (some ⟨w.heap.size + 1, 0, none⟩), .pointer (some ⟨W1.heap.size, 0, none⟩)] 94 (0, 0)) := by
    have := heap_alloc_new (W1.alloc (.cells #[.slice none 0 0, .slice none 0 0, .int .i64 (-1), .string ⟨#[]⟩] 103)) (.cells #[.pointer (some ⟨w.heap.size + 1, 0, none⟩), .pointer (some ⟨W1.heap.size, 0, none⟩)] 94)
    rwa [World.size_alloc] at this
  have hLlt := blk_lt hL1.bk
  have hbL : d.vb.ownBlock ≠ some L := fun e => by
    obtain ⟨c, fz, hc⟩ := owns_kind h.rb L e
    rw [h.bk] at hc; simp at hc
  have hHw : H ≤ W1.heap.size := by have := h.lo; omega
  go_region_law (first
    | (refine step_newR (by rfl) (by rfl) ?_)
    | (refine step_append_lies _ (by rfl) _ _ _ (by rfl) H 94 i0 _ 2 16 Tryz.underlying47 hi0 hz0 hz1 hz2 rfl (by decide) d.vb d.nb _ (by rfl) (by exact ((hL1.rb.alloc _).alloc _).drew) ⟨W1.heap.size + 1, 0, none⟩ 1 1 [.pointer (some ⟨w.heap.size + 1, 0, none⟩), .pointer (some ⟨W1.heap.size, 0, none⟩)] (by rfl) rfl (World.news_of_block (cs := #[.pointer (some ⟨w.heap.size + 1, 0, none⟩), .pointer (some ⟨W1.heap.size, 0, none⟩)]) hb2) (by simp [Value.oneCell']) (by decide) (by unfold maxLen; omega) (by omega) (by simp; omega) (W1.heap.size + 2) (by simp) ?_; intro g6 cap6 w6 hown6 hg6 hat6 hlt6; have hL6 : w6.heap[L]? = some (.cells #[d.vb, d.vl, d.vi, d.vt, d.v0, d.v1] 52 (0, 0)) := (hg6.block _ (by simp; omega) (Ne.symm hbL)).trans (Grew.blk (((Grew.refl W1).alloc _).alloc _).drew hL1.bk); have cL6 := blk_cell' hL6 (o := 0) rfl; have fL6 := blk_free hL6 0))
  all_goals go_wp2
  all_goals go_ret
  all_goals
    have hs1 := HS1.out
    have T6 : Turn (fun b => d.vb.ownBlock = some b ∨ b = L) W1 (w6.setCell ⟨L, 0, none⟩ (.slice (some ⟨g6, 0, none⟩) (d.nb + 1) cap6)) := (Turn.of_grown (((Turn.refl _ W1).alloc _).alloc _).drew hg6 (fun k hk _ => .inl hk)).set _ _ (fun _ => .inr rfl)
    have T : Turn (fun b => d.vb.ownBlock = some b ∨ b = L) w (w6.setCell ⟨L, 0, none⟩ (.slice (some ⟨g6, 0, none⟩) (d.nb + 1) cap6)) := (Turn.of_below hb1).trans T6
    have hvlt : ∀ k, d.vb.ownBlock = some k → k < w.heap.size := fun k e => (h.rb.lt k e).2
    have hwL := blk_lt h.bk
    have hB7 := T6.blk HBK1.out (fun hs => hs.elim (fun e => by have := hvlt _ e; omega) (fun e => by omega))
    have hR6 : w6.heap[W1.heap.size]? = some (.cells #[.slice none 0 0, .slice none 0 0, .int .i64 (-1), .string ⟨#[]⟩] 103 (0, 0)) := (hg6.block _ (by simp; omega) (fun e => by have := hvlt _ e.symm; omega)).trans (Grew.blk ((Grew.refl _).alloc _).drew (heap_alloc_new W1 _))
    have hR7 : (w6.setCell ⟨L, 0, none⟩ (.slice (some ⟨g6, 0, none⟩) (d.nb + 1) cap6)).heap[W1.heap.size]? = some (.cells #[.slice none 0 0, .slice none 0 0, .int .i64 (-1), .string ⟨#[]⟩] 103 (0, 0)) := (Below.heap_setCell w6 ⟨L, 0, none⟩ _ W1.heap.size (by show W1.heap.size ≠ L; omega)).trans hR6
    refine ⟨rfl, d.addBook (w.heap.size + 1) W1.heap.size (.slice (some ⟨g6, 0, none⟩) (d.nb + 1) cap6), h.book T (blk_set hL6 0 _) ?_ (progNewAt hB7) (docNew hR7) (by omega) (by omega) (by omega), ⟨⟨Nat.le_succ _, Nat.le_refl _⟩, Nat.le_add_right _ _, Nat.le_add_right _ _, Nat.le_succ _⟩, rfl, T.mono (fun k _ hk => hk.elim (fun e => (h.rb.lt k e).1) (fun e => by rw [e]; exact h.lo))⟩
    have e1 : pairCells (upd d.B d.nb (w.heap.size + 1)) (upd d.R d.nb W1.heap.size) (d.nb + 1) = pairCells d.B d.R d.nb ++ [.pointer (some ⟨w.heap.size + 1, 0, none⟩), .pointer (some ⟨W1.heap.size, 0, none⟩)] := by
      unfold pairCells
      rw [List.range_succ, List.flatMap_append]
      congr 1
      · apply flat_congr
        intro i hi
        rw [upd_ne _ _ (by omega), upd_ne _ _ (by omega)]
      · simp [upd]
    rw [e1]
    exact ownsRow_setCell_other hown6 (a := ⟨L, 0, none⟩) (fun e => by
      obtain ⟨c, fz, hc⟩ := owns_kind hown6 L e
      rw [hL6] at hc; simp at hc) _
end Go.Proofs.YtjnmoddcodnadaaGreatDoor
namespace Go.Proofs.YtjnmoddcodnadaaGreatDoor
open Go.RowKit Go.Annal Go.Sort
theorem pick_lt (kw : Int) (n : Nat) (hn : 0 < n) : 0 ≤ pickI kw n ∧ pickI kw n < n := by
  unfold pickI
  exact ⟨Int.emod_nonneg _ (by omega), Int.emod_lt_of_pos _ (by omega)⟩
set_option maxHeartbeats 4000000 in
set_option maxRecDepth 100000 in
theorem step_open (H L : Nat) (d : Ls) (kw A B C : Int) (name : ByteArray) (lv : Value) (w : World) (h : LawIs H w L d) (hnb : d.nb ≤ 100000000) (hn0 : 0 < d.nb) (h1 : -9223372036854775808 ≤ kw) (h2 : kw ≤ 9223372036854775807) (hs : name.size ≤ 1000000000) :
    Calls Tryz.prog 17 #[.pointer (some ⟨L, 0, none⟩), .agg #[.int .i64 2, .int .i64 kw, .string name, .int .i64 A, .int .i64 B, .int .i64 C, lv]] w fun r w' => r = .returned (.bool true) ∧ ∃ d', LawIs H w' L d' ∧ Ls.Grows d d' ∧ Turn (fun b => H ≤ b) w w' := by
  have HL : Hid (LawIs H w L d) := h
  obtain ⟨ip, hip⟩ : ∃ ip : Nat, pickI kw d.nb = ip := ⟨(pickI kw d.nb).toNat, by have := pick_lt kw d.nb hn0; omega⟩
  have hipl : ip < d.nb := by have := pick_lt kw d.nb hn0; omega
  have CK : Hid (∀ W, Calls Tryz.prog 37 #[.int .i64 kw, .int .i64 d.nb] W fun r w' => r = .returned (.int .i64 ip) ∧ w' = W) := fun W => by
    have := pick_any kw d.nb W h1 h2 (by omega) (by omega)
    rw [hip] at this
    exact this
  obtain ⟨adb, cb, gb, eb, hcb, hab, hbc⟩ := owns_view h.rb
  obtain ⟨rfl, _, _⟩ := hab (by omega)
  have cL := blk_cell' h.bk (o := 0) rfl
  rw [eb] at cL
  have q0 : w.cell? ⟨gb, ip * 2, none⟩ = some (.pointer (some ⟨d.B ip, 0, none⟩)) := by
    rw [hbc (ip * 2) (by omega)]
    exact flat_get 2 (fun i => [Value.pointer (some ⟨d.B i, 0, none⟩), .pointer (some ⟨d.R i, 0, none⟩)]) (fun _ => rfl) d.nb ip 0 hipl (by omega)
  have q1 : w.cell? ⟨gb, ip * 2 + 1, none⟩ = some (.pointer (some ⟨d.R ip, 0, none⟩)) := by
    rw [hbc (ip * 2 + 1) (by omega)]
    exact flat_get 2 (fun i => [Value.pointer (some ⟨d.B i, 0, none⟩), .pointer (some ⟨d.R i, 0, none⟩)]) (fun _ => rfl) d.nb ip 1 hipl (by omega)
  have hi1 : (0 : Int) ≤ (ip : Int) := by omega
  have hi2 : (ip : Int) < (d.nb : Int) := by omega
  have hn1 : ¬ (d.nb : Int) = 0 := by omega
  clear h hbc eb hip
  have hga : Grew w (w.alloc (.cells #[.int .i64 2, .int .i64 kw, .string name, .int .i64 A, .int .i64 B, .int .i64 C, lv] 56)) := (Grew.refl w).alloc _
  have cL' := hga.cell' cL
  have q0' := hga.cell' q0
  have q1' := hga.cell' q1
  go_enter Tryz.func17, Tryz.ntmps17
  go_wp2_with (first
    | (go_at_call 37; refine Calls.mono (CK.out _) ?_; rintro e wx ⟨rfl, hw⟩; rw [hw]; clear hw wx))
  have hne1 : L ≠ w.heap.size := by have := blk_lt HL.out.bk; omega
  go_region_held3 (fun w' => w'.cell? ⟨L, 0, none⟩ = some (.slice (some ⟨gb, 0, none⟩) d.nb cb) ∧ w'.cell? ⟨w.heap.size, 1, none⟩ = some (.int .i64 kw) ∧ w'.cell? ⟨gb, ip * 2, none⟩ = some (.pointer (some ⟨d.B ip, 0, none⟩)) ∧ w'.cell? ⟨gb, ip * 2 + 1, none⟩ = some (.pointer (some ⟨d.R ip, 0, none⟩))) (go_keep) (first | (go_at_call 37; refine Calls.mono (CK.out _) ?_; rintro e wx ⟨rfl, hw⟩; rw [hw]; clear hw wx))
  all_goals
    have hb2 : Below w.heap.size w ((w.alloc (.cells #[.int .i64 2, .int .i64 kw, .string name, .int .i64 A, .int .i64 B, .int .i64 C, lv] 56)).alloc (.cells #[.pointer (some ⟨d.B ip, 0, none⟩), .pointer (some ⟨d.R ip, 0, none⟩)] 94)).drew := ((((Grew.refl w).alloc _).alloc _).drew).below
    have hx1 : ((w.alloc (.cells #[.int .i64 2, .int .i64 kw, .string name, .int .i64 A, .int .i64 B, .int .i64 C, lv] 56)).alloc (.cells #[.pointer (some ⟨d.B ip, 0, none⟩), .pointer (some ⟨d.R ip, 0, none⟩)] 94)).drew.heap[w.heap.size]? = some (.cells #[.int .i64 2, .int .i64 kw, .string name, .int .i64 A, .int .i64 B, .int .i64 C, lv] 56 (0, 0)) := Grew.blk ((Grew.refl _).alloc _).drew (heap_alloc_new w _)
    have hx2 : ((w.alloc (.cells #[.int .i64 2, .int .i64 kw, .string name, .int .i64 A, .int .i64 B, .int .i64 C, lv] 56)).alloc (.cells #[.pointer (some ⟨d.B ip, 0, none⟩), .pointer (some ⟨d.R ip, 0, none⟩)] 94)).drew.heap[w.heap.size + 1]? = some (.cells #[.pointer (some ⟨d.B ip, 0, none⟩), .pointer (some ⟨d.R ip, 0, none⟩)] 94 (0, 0)) := by
      have := heap_alloc_new (w.alloc (.cells #[.int .i64 2, .int .i64 kw, .string name, .int .i64 A, .int .i64 B, .int .i64 C, lv] 56)) (.cells #[.pointer (some ⟨d.B ip, 0, none⟩), .pointer (some ⟨d.R ip, 0, none⟩)] 94)
      rwa [World.size_alloc] at this
    obtain ⟨W2, hW2⟩ : ∃ W2, ((w.alloc (.cells #[.int .i64 2, .int .i64 kw, .string name, .int .i64 A, .int .i64 B, .int .i64 C, lv] 56)).alloc (.cells #[.pointer (some ⟨d.B ip, 0, none⟩), .pointer (some ⟨d.R ip, 0, none⟩)] 94)).drew = W2 := ⟨_, rfl⟩
    rw [hW2] at hb2 hx1 hx2 ⊢
    clear hW2 cL' q0' q1' hga cL q0 q1
  all_goals
    have a0 := blk_cell' hx1 (o := 0) rfl
    have a2 := blk_cell' hx1 (o := 2) rfl
    have a3 := blk_cell' hx1 (o := 3) rfl
    have b0 := blk_cell' hx2 (o := 0) rfl
    have b1 := blk_cell' hx2 (o := 1) rfl
    have C1 : Hid (type_of% (progOpen (d.B ip) (d.st ip) (d.Fp ip) name A W2 ((HL.out.mv hb2).pr ip hipl) (HL.out.ok ip hipl) hs)) := progOpen (d.B ip) (d.st ip) (d.Fp ip) name A W2 ((HL.out.mv hb2).pr ip hipl) (HL.out.ok ip hipl) hs
    have C2 : Hid (∀ W, Turn (d.Fp ip) W2 W → Calls Tryz.prog 39 #[.pointer (some ⟨d.R ip, 0, none⟩), .string name, .int .i64 A] W fun r w' => r = .returned (.int .i64 ((d.st ip).openE name A)) ∧ ∃ Fd', DocIs w' (d.R ip) ((d.st ip).afterOpen name A) Fd' ∧ Turn (d.Fd ip) W w' ∧ ∀ k, Fd' k → d.Fd ip k ∨ W.heap.size ≤ k) := fun W hW => docOpen (d.R ip) (d.st ip) (d.Fd ip) name A W (((HL.out.mv hb2).dc ip hipl).turn hW (fun k hk hp => HL.out.pd ip ip k hipl hipl hp hk)) (HL.out.ok ip hipl) hs
    have hnp : ∀ k, w.heap.size ≤ k → ¬ d.Fp ip k := fun k hk h => by have := HL.out.plt hipl h; omega
    generalize hpe : (d.st ip).openE name A = pe at C1 C2
    clear hpe
  go_wp2_with (first
    | (go_at_call 38; refine Calls.mono C1.out ?_; rintro e w3 ⟨rfl, Fp', hP', hTp, hFp'⟩; have hy1 := hTp.blk hx1 (hnp _ (Nat.le_refl _)); have hy2 := hTp.blk hx2 (hnp _ (Nat.le_succ _)); have c2 := blk_cell' hy1 (o := 2) rfl; have c3 := blk_cell' hy1 (o := 3) rfl; have d1 := blk_cell' hy2 (o := 1) rfl)
    | (go_at_call 39; refine Calls.mono (C2.out _ hTp) ?_; rintro e w4 ⟨rfl, Fd', hD', hTd, hFd'⟩)
    | (go_at_call 40; refine Calls.mono (num_any _ _) ?_; rintro e wx ⟨rfl, hw⟩; rw [hw]; clear hw wx))
  all_goals go_ret
  all_goals
    have hwt : Turn (stepS d ip L) w w4 := (Turn.of_below hb2).trans ((hTp.mono (fun _ _ h => .inl h)).trans (hTd.mono (fun _ _ h => .inr (.inl h))))
    have hT2 : Turn (fun b => d.Fp ip b ∨ d.Fd ip b) w w4 := (Turn.of_below hb2).trans ((hTp.mono (fun _ _ h => .inl h)).trans (hTd.mono (fun _ _ h => .inr h)))
    have hL4 := hT2.blk HL.out.bk (fun hs => hs.elim (prog_not (HL.out.pr ip hipl) HL.out.bk (by decide)) (doc_not (HL.out.dc ip hipl) HL.out.bk (by decide)))
    have hrt4 := owns_turn HL.out.rt hT2 (fun g e hs => by
      obtain ⟨c, fz, hc⟩ := owns_kind HL.out.rt g e
      exact hs.elim (prog_not (HL.out.pr ip hipl) hc (by decide)) (doc_not (HL.out.dc ip hipl) hc (by decide)))
    have hD3 : DocIs w3 (d.R ip) (d.st ip) (d.Fd ip) := ((HL.out.mv hb2).dc ip hipl).turn hTp (fun k hk hp => HL.out.pd ip ip k hipl hipl hp hk)
    have hP4 := hP'.turn hTd (fun k hk hk' => (hFp' k hk).elim (fun h => HL.out.pd ip ip k hipl hipl h hk') (fun h => by have := HL.out.dlt hipl hk'; have := hb2.size; omega))
    have hbs := hb2.size
    have hps := hTp.size
    have hFp4 : ∀ k, Fp' k → d.Fp ip k ∨ w.heap.size ≤ k := fun k hk => (hFp' k hk).imp id (fun h => by omega)
    have hFd4 : ∀ k, Fd' k → d.Fd ip k ∨ w.heap.size ≤ k := fun k hk => (hFd' k hk).imp id (fun h => by omega)
    have hPD4 : ∀ k, Fp' k → ¬ Fd' k := fun k hk hk' => by
      rcases hFd' k hk' with h | h
      · rcases hFp' k hk with h' | h'
        · exact HL.out.pd ip ip k hipl hipl h' h
        · have := HL.out.dlt hipl h; omega
      · have := hP'.lt hk; omega
    exact ⟨rfl, d.turned ip ((d.st ip).afterOpen name A) Fp' Fd' d.nt d.tv d.vt, HL.out.pairStep hipl hwt hL4 hrt4 (fun b e => .inl e) hP4 hD' (St.afterOpen_ok (HL.out.ok ip hipl) _ _) hFp4 hFd4 hPD4 (HL.out.lentOn hipl hwt hFp4 hFd4), ⟨⟨Nat.le_refl _, Nat.le_succ _⟩, Nat.le_add_right _ _, Nat.le_add_right _ _, Nat.le_succ _⟩, hwt.mono (fun k _ hk => HL.out.stepH hipl k hk)⟩
end Go.Proofs.YtjnmoddcodnadaaGreatDoor
namespace Go.Proofs.YtjnmoddcodnadaaGreatDoor
open Go.RowKit Go.Annal Go.Sort
set_option maxHeartbeats 4000000 in
set_option maxRecDepth 100000 in
theorem step_post (H L : Nat) (d : Ls) (kw A B C : Int) (name : ByteArray) (n cap : Nat) (lad : Option Addr) (w : World) (h : LawIs H w L d) (hnb : d.nb ≤ 100000000) (hn0 : 0 < d.nb) (h1 : -9223372036854775808 ≤ kw) (h2 : kw ≤ 9223372036854775807) (hnt : d.nt ≤ 100000000) (xa : Nat → ByteArray) (xm : Nat → Int) (hLn : LinesV w lad n cap xa xm) (hnil : lad = none → cap = 0) (hap : ∀ a, lad = some a → 0 < n → a.block < w.heap.size ∧ ∀ j, j < d.nb → ¬ d.Fp j a.block ∧ ¬ d.Fd j a.block) :
    Calls Tryz.prog 17 #[.pointer (some ⟨L, 0, none⟩), .agg #[.int .i64 3, .int .i64 kw, .string name, .int .i64 A, .int .i64 B, .int .i64 C, .slice lad n cap]] w fun r w' => r = .returned (.bool true) ∧ ∃ d', LawIs H w' L d' ∧ Ls.Grows d d' ∧ Turn (fun b => H ≤ b) w w' := by
  have HL : Hid (LawIs H w L d) := h
  obtain ⟨ip, hip⟩ : ∃ ip : Nat, pickI kw d.nb = ip := ⟨(pickI kw d.nb).toNat, by have := pick_lt kw d.nb hn0; omega⟩
  have hipl : ip < d.nb := by have := pick_lt kw d.nb hn0; omega
  have CK : Hid (∀ W, Calls Tryz.prog 37 #[.int .i64 kw, .int .i64 d.nb] W fun r w' => r = .returned (.int .i64 ip) ∧ w' = W) := fun W => by
    have := pick_any kw d.nb W h1 h2 (by omega) (by omega)
    rw [hip] at this
    exact this
  obtain ⟨adb, cb, gb, eb, hcb, hab, hbc⟩ := owns_view h.rb
  obtain ⟨rfl, _, _⟩ := hab (by omega)
  have cL := blk_cell' h.bk (o := 0) rfl
  rw [eb] at cL
  have q0 : w.cell? ⟨gb, ip * 2, none⟩ = some (.pointer (some ⟨d.B ip, 0, none⟩)) := by
    rw [hbc (ip * 2) (by omega)]
    exact flat_get 2 (fun i => [Value.pointer (some ⟨d.B i, 0, none⟩), .pointer (some ⟨d.R i, 0, none⟩)]) (fun _ => rfl) d.nb ip 0 hipl (by omega)
  have q1 : w.cell? ⟨gb, ip * 2 + 1, none⟩ = some (.pointer (some ⟨d.R ip, 0, none⟩)) := by
    rw [hbc (ip * 2 + 1) (by omega)]
    exact flat_get 2 (fun i => [Value.pointer (some ⟨d.B i, 0, none⟩), .pointer (some ⟨d.R i, 0, none⟩)]) (fun _ => rfl) d.nb ip 1 hipl (by omega)
  have hi1 : (0 : Int) ≤ (ip : Int) := by omega
  have hi2 : (ip : Int) < (d.nb : Int) := by omega
  have hn1 : ¬ (d.nb : Int) = 0 := by omega
  clear h hbc eb hip
  have hga : Grew w (w.alloc (.cells #[.int .i64 3, .int .i64 kw, .string name, .int .i64 A, .int .i64 B, .int .i64 C, .slice lad n cap] 56)) := (Grew.refl w).alloc _
  have cL' := hga.cell' cL
  have q0' := hga.cell' q0
  have q1' := hga.cell' q1
  go_enter Tryz.func17, Tryz.ntmps17
  go_wp2_with (first
    | (go_at_call 37; refine Calls.mono (CK.out _) ?_; rintro e wx ⟨rfl, hw⟩; rw [hw]; clear hw wx))
  have hne1 : L ≠ w.heap.size := by have := blk_lt HL.out.bk; omega
  go_region_held3 (fun w' => w'.cell? ⟨L, 0, none⟩ = some (.slice (some ⟨gb, 0, none⟩) d.nb cb) ∧ w'.cell? ⟨w.heap.size, 1, none⟩ = some (.int .i64 kw) ∧ w'.cell? ⟨gb, ip * 2, none⟩ = some (.pointer (some ⟨d.B ip, 0, none⟩)) ∧ w'.cell? ⟨gb, ip * 2 + 1, none⟩ = some (.pointer (some ⟨d.R ip, 0, none⟩))) (go_keep) (first | (go_at_call 37; refine Calls.mono (CK.out _) ?_; rintro e wx ⟨rfl, hw⟩; rw [hw]; clear hw wx))
  all_goals
    have hb2 : Below w.heap.size w ((w.alloc (.cells #[.int .i64 3, .int .i64 kw, .string name, .int .i64 A, .int .i64 B, .int .i64 C, .slice lad n cap] 56)).alloc (.cells #[.pointer (some ⟨d.B ip, 0, none⟩), .pointer (some ⟨d.R ip, 0, none⟩)] 94)).drew := ((((Grew.refl w).alloc _).alloc _).drew).below
    have hx1 : ((w.alloc (.cells #[.int .i64 3, .int .i64 kw, .string name, .int .i64 A, .int .i64 B, .int .i64 C, .slice lad n cap] 56)).alloc (.cells #[.pointer (some ⟨d.B ip, 0, none⟩), .pointer (some ⟨d.R ip, 0, none⟩)] 94)).drew.heap[w.heap.size]? = some (.cells #[.int .i64 3, .int .i64 kw, .string name, .int .i64 A, .int .i64 B, .int .i64 C, .slice lad n cap] 56 (0, 0)) := Grew.blk ((Grew.refl _).alloc _).drew (heap_alloc_new w _)
    have hx2 : ((w.alloc (.cells #[.int .i64 3, .int .i64 kw, .string name, .int .i64 A, .int .i64 B, .int .i64 C, .slice lad n cap] 56)).alloc (.cells #[.pointer (some ⟨d.B ip, 0, none⟩), .pointer (some ⟨d.R ip, 0, none⟩)] 94)).drew.heap[w.heap.size + 1]? = some (.cells #[.pointer (some ⟨d.B ip, 0, none⟩), .pointer (some ⟨d.R ip, 0, none⟩)] 94 (0, 0)) := by
      have := heap_alloc_new (w.alloc (.cells #[.int .i64 3, .int .i64 kw, .string name, .int .i64 A, .int .i64 B, .int .i64 C, .slice lad n cap] 56)) (.cells #[.pointer (some ⟨d.B ip, 0, none⟩), .pointer (some ⟨d.R ip, 0, none⟩)] 94)
      rwa [World.size_alloc] at this
    obtain ⟨W2, hW2⟩ : ∃ W2, ((w.alloc (.cells #[.int .i64 3, .int .i64 kw, .string name, .int .i64 A, .int .i64 B, .int .i64 C, .slice lad n cap] 56)).alloc (.cells #[.pointer (some ⟨d.B ip, 0, none⟩), .pointer (some ⟨d.R ip, 0, none⟩)] 94)).drew = W2 := ⟨_, rfl⟩
    rw [hW2] at hb2 hx1 hx2 ⊢
    clear hW2 cL' q0' q1' hga cL q0 q1
  all_goals
    have a0 := blk_cell' hx1 (o := 0) rfl
    have a3 := blk_cell' hx1 (o := 3) rfl
    have a6 := blk_cell' hx1 (o := 6) rfl
    have b0 := blk_cell' hx2 (o := 0) rfl
    have b1 := blk_cell' hx2 (o := 1) rfl
    have C1 : Hid (type_of% (posts_any H L ip n cap d A lad xa xm W2 (HL.out.mv hb2) hipl hnt (hLn.mv hb2) hnil (fun a e hn => ⟨Nat.lt_of_lt_of_le (hap a e hn).1 hb2.size, (hap a e hn).2⟩))) := posts_any H L ip n cap d A lad xa xm W2 (HL.out.mv hb2) hipl hnt (hLn.mv hb2) hnil (fun a e hn => ⟨Nat.lt_of_lt_of_le (hap a e hn).1 hb2.size, (hap a e hn).2⟩)
  go_wp2_with (go_at_call 41; refine Calls.mono C1.out ?_; rintro e w3 ⟨rfl, d', hd', hgr, hT⟩)
  all_goals go_ret
  all_goals exact ⟨rfl, d', hd', hgr, (Turn.of_below hb2).trans hT⟩
end Go.Proofs.YtjnmoddcodnadaaGreatDoor
