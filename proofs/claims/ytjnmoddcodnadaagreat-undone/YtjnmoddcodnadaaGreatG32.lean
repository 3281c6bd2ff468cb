import Derived.Test.YtjnmoddcodnadaaGreatG31
set_option linter.unusedVariables false
set_option linter.unusedSimpArgs false
namespace Go.Proofs.YtjnmoddcodnadaaGreat
open Go.RowKit Go.Annal Go.Sort
/-- A run's book, whatever the run's own numbers are. -/
def RB (S : Nat → Prop) (w : World) (R B : Nat) (n l : Int) (s : St) : Prop := w.heap[R]? = some (.cells #[.pointer (some ⟨B, 0, none⟩), .int .i64 n, .int .i64 l] 29 (0, 0)) ∧ S R ∧ ∃ Fp, ProgIs w B s Fp ∧ ¬ Fp R ∧ ∀ b, Fp b → S b
theorem RunAt.rb {S : Nat → Prop} {w : World} {R : Nat} {s : St} (h : RunAt S w R s) : ∃ B, RB S w R B s.ne s.lk s := by
  obtain ⟨B, Fp, h1, h2, h3⟩ := h
  exact ⟨B, h1.rn, h2, Fp, h1.pg, h1.ap, h3⟩
theorem RB.run {S : Nat → Prop} {w : World} {R B : Nat} {s : St} (h : RB S w R B s.ne s.lk s) : RunAt S w R s := by
  obtain ⟨h1, h2, Fp, h3, h4, h5⟩ := h
  exact ⟨B, Fp, ⟨h1, h3, h4⟩, h2, h5⟩
theorem RB.mv {S : Nat → Prop} {w w' : World} {R B : Nat} {n l : Int} {s : St} (h : RB S w R B n l s) (hb : Below w.heap.size w w') : RB S w' R B n l s := by
  obtain ⟨h1, h2, Fp, h3, h4, h5⟩ := h
  exact ⟨(hb.block _ (blk_lt h1)).trans h1, h2, Fp, h3.turn (S := fun _ => False) (Turn.of_below hb) (fun _ _ h => h), h4, h5⟩
theorem RB.c0 {S : Nat → Prop} {w : World} {R B : Nat} {n l : Int} {s : St} (h : RB S w R B n l s) : w.cell? ⟨R, 0, none⟩ = some (.pointer (some ⟨B, 0, none⟩)) := blk_cell' h.1 rfl
theorem RB.c1 {S : Nat → Prop} {w : World} {R B : Nat} {n l : Int} {s : St} (h : RB S w R B n l s) : w.cell? ⟨R, 1, none⟩ = some (.int .i64 n) := blk_cell' h.1 rfl
theorem RB.c2 {S : Nat → Prop} {w : World} {R B : Nat} {n l : Int} {s : St} (h : RB S w R B n l s) : w.cell? ⟨R, 2, none⟩ = some (.int .i64 l) := blk_cell' h.1 rfl
theorem RB.only {S : Nat → Prop} {w w' : World} {R B : Nat} {n l : Int} {s : St} (h : RB S w R B n l s) (hb : Below w.heap.size w w') : ∃ S', RB S' w' R B n l s ∧ (∀ b, w'.heap.size ≤ b → S' b) ∧ (∀ b, S' b → S b ∨ w'.heap.size ≤ b) ∧ (∀ b, w.heap.size ≤ b → b < w'.heap.size → ¬ S' b) := by
  obtain ⟨h1, h2, Fp, h3, h4, h5⟩ := id h
  have hR := blk_lt h1
  refine ⟨ofRun R Fp w'.heap.size, ⟨(hb.block _ hR).trans h1, .inl rfl, Fp, h3.turn (S := fun _ => False) (Turn.of_below hb) (fun _ _ h => h), h4, fun b hb => .inr (.inl hb)⟩, fun b hb => .inr (.inr hb), fun b hb => ?_, fun b hb1 hb2 hs => ?_⟩
  · rcases hb with rfl | hb | hb
    · exact .inl h2
    · exact .inl (h5 b hb)
    · exact .inr hb
  · rcases hs with rfl | hs | hs
    · omega
    · have := h3.lt hs; omega
    · omega
/-- Behind a call that has made t of the book. -/
theorem rb_call {S : Nat → Prop} {w w' : World} {R B : Nat} {n l : Int} {t : St} {Fp : Nat → Prop} (h1 : w.heap[R]? = some (.cells #[.pointer (some ⟨B, 0, none⟩), .int .i64 n, .int .i64 l] 29 (0, 0))) (h2 : S R) (h4 : ¬ Fp R) (h5 : ∀ b, Fp b → S b) (hS : ∀ b, w.heap.size ≤ b → S b) (q : ∃ Fp', ProgIs w' B t Fp' ∧ Turn Fp w w' ∧ ∀ b, Fp' b → Fp b ∨ w.heap.size ≤ b) : RB S w' R B n l t ∧ Turn S w w' := by
  obtain ⟨Fp', q1, q2, q3⟩ := q
  have hR := blk_lt h1
  exact ⟨⟨q2.blk h1 h4, h2, Fp', q1, fun h => (q3 R h).elim h4 (fun h => by omega), fun b hb => (q3 b hb).elim (h5 b) (hS b)⟩, q2.mono (fun b _ hb => h5 b hb)⟩
theorem rb_post {S : Nat → Prop} {W : World} {R B : Nat} {n l : Int} {s : St} (h : RB S W R B n l s) (hS : ∀ b, W.heap.size ≤ b → S b) (ho : s.Ok) (day : Int) (lad : Option Addr) (k cap : Nat) (ya : Nat → ByteArray) (ym : Nat → Int) (hL : LinesV W lad k cap ya ym) : Calls Tryz.prog 18 #[.pointer (some ⟨B, 0, none⟩), .int .i64 day, .slice lad k cap] W fun r w' => r = .returned (.tuple #[.int .i64 (s.postN day ya ym k), .int .i64 (s.postE day ya ym k)]) ∧ RB S w' R B n l (s.afterPost day ya ym k) ∧ Turn S W w' := by
  obtain ⟨h1, h2, Fp, h3, h4, h5⟩ := h
  refine (progPost B s Fp day lad k cap ya ym W h3 ho hL).mono ?_
  rintro r w' ⟨rfl, q⟩
  exact ⟨rfl, rb_call h1 h2 h4 h5 hS q⟩
theorem rb_rev {S : Nat → Prop} {W : World} {R B : Nat} {n l : Int} {s : St} (h : RB S W R B n l s) (hS : ∀ b, W.heap.size ≤ b → S b) (ho : s.Ok) (e : Int) : Calls Tryz.prog 20 #[.pointer (some ⟨B, 0, none⟩), .int .i64 e] W fun r w' => r = .returned (.tuple #[.int .i64 (s.revN e), .int .i64 (s.revE e)]) ∧ RB S w' R B n l (s.afterRev e) ∧ Turn S W w' := by
  obtain ⟨h1, h2, Fp, h3, h4, h5⟩ := h
  refine (progRev B s Fp e W h3 ho).mono ?_
  rintro r w' ⟨rfl, q⟩
  exact ⟨rfl, rb_call h1 h2 h4 h5 hS q⟩
theorem rb_lock {S : Nat → Prop} {W : World} {R B : Nat} {n l : Int} {s : St} (h : RB S W R B n l s) (hS : ∀ b, W.heap.size ≤ b → S b) (ho : s.Ok) (day : Int) : Calls Tryz.prog 22 #[.pointer (some ⟨B, 0, none⟩), .int .i64 day] W fun r w' => r = .returned (.int .i64 (s.lockE day)) ∧ RB S w' R B n l (s.afterLock day) ∧ Turn S W w' := by
  obtain ⟨h1, h2, Fp, h3, h4, h5⟩ := h
  refine (progLock B s Fp day W h3 ho).mono ?_
  rintro r w' ⟨rfl, q⟩
  exact ⟨rfl, rb_call h1 h2 h4 h5 hS q⟩
theorem rb_close {S : Nat → Prop} {W : World} {R B : Nat} {n l : Int} {s : St} (h : RB S W R B n l s) (hS : ∀ b, W.heap.size ≤ b → S b) (ho : s.Ok) (day : Int) (into : ByteArray) : Calls Tryz.prog 21 #[.pointer (some ⟨B, 0, none⟩), .int .i64 day, .string into] W fun r w' => r = .returned (.tuple #[.int .i64 (s.closeN day into), .int .i64 (s.closeE day into)]) ∧ RB S w' R B n l (s.afterClose day into) ∧ Turn S W w' := by
  obtain ⟨h1, h2, Fp, h3, h4, h5⟩ := h
  refine (progClose B s Fp day into W h3 ho).mono ?_
  rintro r w' ⟨rfl, q⟩
  exact ⟨rfl, rb_call h1 h2 h4 h5 hS q⟩
theorem rb_table {S : Nat → Prop} {R B : Nat} {n l : Int} {s : St} (known : Int) (w : World) (h : RB S w R B n l s) (hk : KOk s) (k0 : 0 ≤ known) (k1 : known ≤ s.ne) :
    Calls Tryz.prog 11 #[.pointer (some ⟨R, 0, none⟩), .int .i64 known] w fun r w' => ∃ g c, r = .returned (.tuple #[.slice (some ⟨g, 0, none⟩) 78 c, .bool true]) ∧ Hid (w.heap.size ≤ g ∧ TabAt w' g (tabF s known) ∧ RB S w' R B n l s ∧ Below w.heap.size w w') := by
  obtain ⟨h1, h2, Fp, h3, h4, h5⟩ := id h
  refine (table_b R B s Fp known w h.c0 h3 hk k0 k1).mono ?_
  rintro r w' ⟨v, rfl, ho, hb⟩
  rcases ho.2 with ⟨_, h0⟩ | ⟨g, cap, cur, rfl, hg, hc, hr⟩
  · exact absurd h0 (by decide)
  · refine ⟨g, cap, rfl, hg, fun j hj => ?_, h.mv hb, hb⟩
    rw [ho.cellAt j (by omega)]
    unfold tabL
    rw [List.getElem?_map, List.getElem?_range hj]
    rfl
theorem rb_bal {S : Nat → Prop} {W : World} {R B : Nat} {n l : Int} {s : St} (h : RB S W R B n l s) (ho : s.Ok) (name : ByteArray) (day known : Int) : Calls Tryz.prog 16 #[.pointer (some ⟨B, 0, none⟩), .string name, .int .i64 day, .int .i64 known] W fun r w' => r = .returned (.tuple #[.int .i64 (s.bal name day known), .int .i64 (s.balE name day known)]) ∧ Below W.heap.size W w' := by
  obtain ⟨h1, h2, Fp, h3, h4, h5⟩ := h
  exact progBal B s Fp name day known W h3 ho
theorem rb_trial {S : Nat → Prop} {W : World} {R B : Nat} {n l : Int} {s : St} (h : RB S W R B n l s) (ho : s.Ok) (day known : Int) : Calls Tryz.prog 14 #[.pointer (some ⟨B, 0, none⟩), .int .i64 day, .int .i64 known] W fun r w' => ∃ v, r = .returned (.tuple #[v, .int .i64 (s.trialE day known)]) ∧ w'.ownsRow W.heap.size 47 2 v (s.trial day known).length (cells2 (s.trial day known)) ∧ Below W.heap.size W w' := by
  obtain ⟨h1, h2, Fp, h3, h4, h5⟩ := h
  exact progTrial B s Fp day known W h3 ho
/-- A run, with its book. -/
theorem run_rb (w0 w : World) (ad : Option Addr) (n cap : Nat) (qs : Nat → K5) (hS : StepsV w0 ad n qs) (h0 : Below w0.heap.size w0 w) :
    Calls Tryz.prog 9 #[.slice ad n cap] w fun r w' => ∃ R B, r = .returned (.pointer (some ⟨R, 0, none⟩)) ∧ w'.cell? ⟨R, 0, none⟩ = some (.pointer (some ⟨B, 0, none⟩)) ∧ w'.cell? ⟨R, 1, none⟩ = some (.int .i64 (krun qs (lim n 40)).ne) ∧ w'.cell? ⟨R, 2, none⟩ = some (.int .i64 (krun qs (lim n 40)).lk) ∧ Hid (RB (fun b => w0.heap.size ≤ b) w' R B (krun qs (lim n 40)).ne (krun qs (lim n 40)).lk (krun qs (lim n 40)) ∧ Below w0.heap.size w0 w') := by
  refine (run_at w0 w ad n cap qs hS h0).mono ?_
  rintro r w' ⟨R, rfl, hr⟩
  obtain ⟨B, hB⟩ := hr.out.1.rb
  exact ⟨R, B, rfl, hB.c0, hB.c1, hB.c2, hB, hr.out.2⟩
end Go.Proofs.YtjnmoddcodnadaaGreat
