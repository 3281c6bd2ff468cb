import Derived.Test.YtdljdffnnnoafaaGreatBase
import Derived.Deep.RegionLaw
import Derived.Test.YtdljdffnnnoafaaGreatLaw6
set_option linter.unusedVariables false
set_option linter.unusedSimpArgs false
namespace Go.Proofs.YtdljdffnnnoafaaGreat
open Go.RowKit Go.Annal
/-- The document's New, as one step of a region that draws. -/
theorem step_newR {ops : Array Oper} {o : Oper} {a : Act} {w : World} {K : Act → World → Prop} {Q : Exit → Act → World → Prop} {E : Prop}
    (hg : o.guard = none) (hop : o.op = Op.call { callee := Callee.value (Operand.func 8), args := #[], argTypes := #[] })
    (hK : K (a.put o.dst (.pointer (some ⟨w.heap.size, 0, none⟩))) (w.alloc (.cells #[.slice none 0 0, .slice none 0 0, .int .i64 (-1), .string ⟨#[]⟩] 60))) :
    if Region.wanted o (yielded ops a.tmps) = true then Oper.wp Tryz.prog o a w K Q else E := by
  have hw : Region.wanted o (yielded ops a.tmps) = true := by simp [Region.wanted, hg]
  rw [if_pos hw]
  unfold Oper.wp
  simp only [execOp, hop, resolve, Act.eval]
  go_simp
  refine Calls.mono (newR_any w) ?_
  rintro r w' ⟨rfl, rfl⟩
  exact hK
end Go.Proofs.YtdljdffnnnoafaaGreat
namespace Go.Proofs.YtdljdffnnnoafaaGreat
open Go.RowKit Go.Annal Go.Sort
theorem Tryz.infoPair : (Tryz.prog.info? 45).map (fun i => (i.zero, i.size, i.bytes)) = some (some (.agg #[.pointer none, .pointer none]), 2, 16) := by kernel_rfl
theorem docNew {w : World} {R : Nat} (h : w.heap[R]? = some (.cells #[.slice none 0 0, .slice none 0 0, .int .i64 (-1), .string ⟨#[]⟩] 60 (0, 0))) : DocIs w R St.new (fun k => k = R) :=
  ⟨none, none, 0, 0, ⟨#[]⟩, fun _ => 0, fun _ => 0, fun _ => 0, fun _ => false, ⟨h, ⟨rfl, .inl ⟨rfl, rfl⟩⟩, ⟨rfl, .inl ⟨rfl, rfl⟩⟩, fun k hk => absurd hk (Nat.not_lt_zero _), Nat.zero_le _⟩, fun k => ⟨.inl, fun h => h.elim id (fun h => h.elim (fun h => by cases h) (fun h => h.elim (fun h => by cases h) (fun ⟨i, hi, _⟩ => absurd hi (Nat.not_lt_zero _))))⟩⟩
def Ls.addBook (d : Ls) (b r : Nat) (vb : Value) : Ls := { d with nb := d.nb + 1, B := upd d.B d.nb b, R := upd d.R d.nb r, st := upd d.st d.nb St.new, Fp := upd d.Fp d.nb (fun k => k = b), Fd := upd d.Fd d.nb (fun k => k = r), vb := vb }
theorem progNewAt {w : World} {B : Nat} (h : w.heap[B]? = some (.cells #[.slice none 0 0, .int .i64 0, .int .i64 0] 67 (0, 0))) : ProgIs w B St.new (fun k => k = B) :=
  ⟨none, 0, fun _ => 0, fun _ => ⟨#[]⟩, fun _ => 0, fun _ => 0, fun _ _ => (0, 0, 0), fun _ => False, ⟨⟨h, ⟨rfl, .inl ⟨rfl, rfl⟩⟩, fun x a b _ hb => absurd hb (Nat.not_lt_zero _)⟩, ⟨fun _ => none, fun _ => 0, fun _ _ => 0, fun _ _ => 0, fun _ _ => [], fun i hi => absurd hi (Nat.not_lt_zero _), fun i j k hi => absurd hi (Nat.not_lt_zero _), fun k => ⟨fun h => h.elim, fun ⟨i, hi, _⟩ => absurd hi (Nat.not_lt_zero _)⟩⟩, NamesIs.zero _ _, fun i hi => absurd hi (Nat.not_lt_zero _)⟩, fun k => ⟨.inl, fun h => h.elim id (fun h => h.elim (fun h => by cases h) (fun h => h.elim))⟩⟩
theorem LawIs.book {H : Nat} {w w' : World} {L : Nat} {d : Ls} {b r : Nat} {vb' : Value} (h : LawIs H w L d) (T : Turn (fun b => d.vb.ownBlock = some b ∨ b = L) w w') (hL' : w'.heap[L]? = some (.cells #[vb', d.vl, d.vi, d.vt, d.v0, d.v1] 32 (0, 0)))
    (hrb : w'.ownsRow H 45 2 vb' (d.nb + 1) (pairCells (upd d.B d.nb b) (upd d.R d.nb r) (d.nb + 1))) (hP : ProgIs w' b St.new (fun k => k = b)) (hD : DocIs w' r St.new (fun k => k = r)) (hb : w.heap.size ≤ b) (hr : w.heap.size ≤ r) : LawIs H w' L (d.addBook b r vb') := by
  have hK : KindIn w (fun b => d.vb.ownBlock = some b ∨ b = L) [45, 32] := by
    rintro k (hk | rfl) _
    · obtain ⟨c, fz, hc⟩ := owns_kind h.rb k hk; exact ⟨c, _, fz, hc, by decide⟩
    · exact ⟨_, _, _, h.bk, by decide⟩
  have hLt := blk_lt h.bk
  have hlo := h.lo
  have hap : ∀ g, g < w.heap.size → d.apart g → (d.addBook b r vb').apart g := fun g hg ha j hj hk => by
    have hj' : j < d.nb + 1 := hj
    by_cases e : j = d.nb
    · subst e
      simp only [Ls.addBook, upd_same] at hk
      omega
    · simp only [Ls.addBook, upd_ne _ _ _ e] at hk
      exact ha j (by omega) hk
  refine ⟨h.lo, hL', hrb, owns_turn h.rl T (hK.row h.rl (by decide)), owns_turn h.ri T (hK.row h.ri (by decide)), owns_turn h.rt T (hK.row h.rt (by decide)), owns_turn h.r0 T (hK.row h.r0 (by decide)), owns_turn h.r1 T (hK.row h.r1 (by decide)), h.a1, h.a2, ?_, ?_, ?_, ?_, ?_, ?_, ?_, fun i hi => (h.cl i hi).turn T (fun _ _ _ hc _ => hK.no hc (by decide)) hap, fun i hi => (h.ci i hi).turn T (fun _ _ _ hc _ => hK.no hc (by decide)) hap, fun i hi => (h.ct i hi).turn T (fun _ _ _ hc _ => hK.no hc (by decide)) hap⟩
  · intro j hj
    have hj' : j < d.nb + 1 := hj
    by_cases e : j = d.nb
    · subst e; simp only [Ls.addBook, upd_same]; exact hP
    · simp only [Ls.addBook, upd_ne _ _ _ e]
      exact (h.pr j (by omega)).turn T (hK.prog (h.pr j (by omega)) (by decide))
  · intro j hj
    have hj' : j < d.nb + 1 := hj
    by_cases e : j = d.nb
    · subst e; simp only [Ls.addBook, upd_same]; exact hD
    · simp only [Ls.addBook, upd_ne _ _ _ e]
      exact (h.dc j (by omega)).turn T (hK.doc (h.dc j (by omega)) (by decide))
  · intro j hj
    have hj' : j < d.nb + 1 := hj
    by_cases e : j = d.nb
    · subst e; simp only [Ls.addBook, upd_same]; exact St.new_ok
    · simp only [Ls.addBook, upd_ne _ _ _ e]; exact h.ok j (by omega)
  · intro x y k hx hy hxy hk hk'
    have hx' : x < d.nb + 1 := hx
    have hy' : y < d.nb + 1 := hy
    simp only [Ls.addBook] at hk hk'
    by_cases e : x = d.nb
    · subst e
      rw [upd_same] at hk
      rw [upd_ne _ _ _ (fun e => hxy e.symm)] at hk'
      have := h.plt (by omega) hk'; omega
    · rw [upd_ne _ _ _ e] at hk
      by_cases e' : y = d.nb
      · subst e'
        rw [upd_same] at hk'
        have := h.plt (by omega) hk; omega
      · rw [upd_ne _ _ _ e'] at hk'
        exact h.pp x y k (by omega) (by omega) hxy hk hk'
  · intro x y k hx hy hxy hk hk'
    have hx' : x < d.nb + 1 := hx
    have hy' : y < d.nb + 1 := hy
    simp only [Ls.addBook] at hk hk'
    by_cases e : x = d.nb
    · subst e
      rw [upd_same] at hk
      rw [upd_ne _ _ _ (fun e => hxy e.symm)] at hk'
      have := h.dlt (by omega) hk'; omega
    · rw [upd_ne _ _ _ e] at hk
      by_cases e' : y = d.nb
      · subst e'
        rw [upd_same] at hk'
        have := h.dlt (by omega) hk; omega
      · rw [upd_ne _ _ _ e'] at hk'
        exact h.dd x y k (by omega) (by omega) hxy hk hk'
  · intro j k hj hk
    have hj' : j < d.nb + 1 := hj
    simp only [Ls.addBook] at hk
    by_cases e : j = d.nb
    · subst e; rw [upd_same] at hk; omega
    · rw [upd_ne _ _ _ e] at hk; exact h.pH j k (by omega) hk
  · intro j k hj hk
    have hj' : j < d.nb + 1 := hj
    simp only [Ls.addBook] at hk
    by_cases e : j = d.nb
    · subst e; rw [upd_same] at hk; omega
    · rw [upd_ne _ _ _ e] at hk; exact h.dH j k (by omega) hk
set_option maxHeartbeats 4000000 in
set_option maxRecDepth 100000 in
theorem step_new (H L : Nat) (d : Ls) (kw A B C : Int) (name : ByteArray) (lv : Value) (w : World) (h : LawIs H w L d) (hnb : d.nb ≤ 100000000) :
    Calls Tryz.prog 5 #[.pointer (some ⟨L, 0, none⟩), .agg #[.int .i64 1, .int .i64 kw, .string name, .int .i64 A, .int .i64 B, .int .i64 C, lv]] w fun r w' => r = .returned (.bool true) ∧ ∃ d', LawIs H w' L d' ∧ Ls.Grows d d' ∧ d'.nb = d.nb + 1 ∧ Turn (fun b => H ≤ b) w w' := by
  obtain ⟨i0, hi0, hz0, hz1, hz2⟩ := info_parts Tryz.infoPair
  go_enter Tryz.func5, Tryz.ntmps5
  obtain ⟨W1, hW1⟩ : ∃ W1, W1 = (w.alloc (.cells #[.int .i64 1, .int .i64 kw, .string name, .int .i64 A, .int .i64 B, .int .i64 C, lv] 36)).alloc (.cells #[.slice none 0 0, .int .i64 0, .int .i64 0] 67) := ⟨_, rfl⟩
  have hb1 : Below w.heap.size w W1 := by rw [hW1]; exact (((Grew.refl w).alloc _).alloc _).below
  have hL1 := (h.mv hb1)
  have hbk1 : W1.heap[w.heap.size + 1]? = some (.cells #[.slice none 0 0, .int .i64 0, .int .i64 0] 67 (0, 0)) := by
    have := heap_alloc_new (w.alloc (.cells #[.int .i64 1, .int .i64 kw, .string name, .int .i64 A, .int .i64 B, .int .i64 C, lv] 36)) (.cells #[.slice none 0 0, .int .i64 0, .int .i64 0] 67)
    rw [World.size_alloc] at this
    rw [hW1]; exact this
  have hs1 : W1.heap.size = w.heap.size + 2 := by rw [hW1]; simp
  have HW1 : Hid (type_of% hW1) := hW1
  have HBK1 : Hid (type_of% hbk1) := hbk1
  have HS1 : Hid (type_of% hs1) := hs1
  clear hW1 hbk1 hs1
  go_wp2_with (first
    | (go_at_call 7; refine Calls.mono (annalNew_any _) ?_; rintro e wx ⟨rfl, hw⟩; rw [← HW1.out] at hw; rw [hw]; clear hw wx))
  have cL := blk_cell' hL1.bk (o := 0) rfl
  have fL := blk_free hL1.bk 0
  have hb2 : ((W1.alloc (.cells #[.slice none 0 0, .slice none 0 0, .int .i64 (-1), .string ⟨#[]⟩] 60)).alloc (.cells #[.pointer (some ⟨w.heap.size + 1, 0, none⟩), .pointer (some ⟨W1.heap.size, 0, none⟩)] 45)).drew.heap[W1.heap.size + 1]? = some (.cells #[.pointer (some ⟨w.heap.size + 1, 0, none⟩), .pointer (some ⟨W1.heap.size, 0, none⟩)] 45 (0, 0)) := by
    have := heap_alloc_new (W1.alloc (.cells #[.slice none 0 0, .slice none 0 0, .int .i64 (-1), .string ⟨#[]⟩] 60)) (.cells #[.pointer (some ⟨w.heap.size + 1, 0, none⟩), .pointer (some ⟨W1.heap.size, 0, none⟩)] 45)
    rwa [World.size_alloc] at this
  have hLlt := blk_lt hL1.bk
  have hbL : d.vb.ownBlock ≠ some L := fun e => by
    obtain ⟨c, fz, hc⟩ := owns_kind h.rb L e
    rw [h.bk] at hc; simp at hc
  have hHw : H ≤ W1.heap.size := by have := h.lo; omega
  go_region_law (first
    | (refine step_newR (by rfl) (by rfl) ?_)
    | (refine step_append_lies _ (by rfl) _ _ _ (by rfl) H 45 i0 _ 2 16 Tryz.underlying26 hi0 hz0 hz1 hz2 rfl (by decide) d.vb d.nb _ (by rfl) (by exact ((hL1.rb.alloc _).alloc _).drew) ⟨W1.heap.size + 1, 0, none⟩ 1 1 [.pointer (some ⟨w.heap.size + 1, 0, none⟩), .pointer (some ⟨W1.heap.size, 0, none⟩)] (by rfl) rfl (World.news_of_block (cs := #[.pointer (some ⟨w.heap.size + 1, 0, none⟩), .pointer (some ⟨W1.heap.size, 0, none⟩)]) hb2) (by simp [Value.oneCell']) (by decide) (by unfold maxLen; omega) (by omega) (by simp; omega) (W1.heap.size + 2) (by simp) ?_; intro g6 cap6 w6 hown6 hg6 hat6 hlt6; have hL6 : w6.heap[L]? = some (.cells #[d.vb, d.vl, d.vi, d.vt, d.v0, d.v1] 32 (0, 0)) := (hg6.block _ (by simp; omega) (Ne.symm hbL)).trans (Grew.blk (((Grew.refl W1).alloc _).alloc _).drew hL1.bk); have cL6 := blk_cell' hL6 (o := 0) rfl; have fL6 := blk_free hL6 0))
  all_goals go_wp2
  all_goals go_ret
  all_goals
    have hs1 := HS1.out
    have T6 : Turn (fun b => d.vb.ownBlock = some b ∨ b = L) W1 (w6.setCell ⟨L, 0, none⟩ (.slice (some ⟨g6, 0, none⟩) (d.nb + 1) cap6)) := (Turn.of_grown (((Turn.refl _ W1).alloc _).alloc _).drew hg6 (fun k hk _ => .inl hk)).set _ _ (fun _ => .inr rfl)
    have T : Turn (fun b => d.vb.ownBlock = some b ∨ b = L) w (w6.setCell ⟨L, 0, none⟩ (.slice (some ⟨g6, 0, none⟩) (d.nb + 1) cap6)) := (Turn.of_below hb1).trans T6
    have hvlt : ∀ k, d.vb.ownBlock = some k → k < w.heap.size := fun k e => (h.rb.lt k e).2
    have hwL := blk_lt h.bk
    have hB7 := T6.blk HBK1.out (fun hs => hs.elim (fun e => by have := hvlt _ e; omega) (fun e => by omega))
    have hR6 : w6.heap[W1.heap.size]? = some (.cells #[.slice none 0 0, .slice none 0 0, .int .i64 (-1), .string ⟨#[]⟩] 60 (0, 0)) := (hg6.block _ (by simp; omega) (fun e => by have := hvlt _ e.symm; omega)).trans (Grew.blk ((Grew.refl _).alloc _).drew (heap_alloc_new W1 _))
    have hR7 : (w6.setCell ⟨L, 0, none⟩ (.slice (some ⟨g6, 0, none⟩) (d.nb + 1) cap6)).heap[W1.heap.size]? = some (.cells #[.slice none 0 0, .slice none 0 0, .int .i64 (-1), .string ⟨#[]⟩] 60 (0, 0)) := (Below.heap_setCell w6 ⟨L, 0, none⟩ _ W1.heap.size (by show W1.heap.size ≠ L; omega)).trans hR6
    refine ⟨rfl, d.addBook (w.heap.size + 1) W1.heap.size (.slice (some ⟨g6, 0, none⟩) (d.nb + 1) cap6), h.book T (blk_set hL6 0 _) ?_ (progNewAt hB7) (docNew hR7) (by omega) (by omega), ⟨⟨Nat.le_succ _, Nat.le_refl _⟩, Nat.le_add_right _ _, Nat.le_add_right _ _, Nat.le_succ _⟩, rfl, T.mono (fun k _ hk => hk.elim (fun e => (h.rb.lt k e).1) (fun e => by rw [e]; exact h.lo))⟩
    have e1 : pairCells (upd d.B d.nb (w.heap.size + 1)) (upd d.R d.nb W1.heap.size) (d.nb + 1) = pairCells d.B d.R d.nb ++ [.pointer (some ⟨w.heap.size + 1, 0, none⟩), .pointer (some ⟨W1.heap.size, 0, none⟩)] := by
      unfold pairCells
      rw [List.range_succ, List.flatMap_append]
      congr 1
      · apply flat_congr
        intro i hi
        rw [upd_ne _ _ _ (by omega), upd_ne _ _ _ (by omega)]
      · simp [upd]
    rw [e1]
    exact ownsRow_setCell_other hown6 (a := ⟨L, 0, none⟩) (fun e => by
      obtain ⟨c, fz, hc⟩ := owns_kind hown6 L e
      rw [hL6] at hc; simp at hc) _
end Go.Proofs.YtdljdffnnnoafaaGreat
