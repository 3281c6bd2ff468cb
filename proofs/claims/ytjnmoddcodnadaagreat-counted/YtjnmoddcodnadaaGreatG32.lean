import Derived.Test.YtjnmoddcodnadaaGreatG31
import Derived.KernelRfl
import Derived.Test.YtjnmoddcodnadaaGreatG25
import Derived.Test.YtjnmoddcodnadaaGreatG14
set_option linter.unusedVariables false
set_option linter.unusedSimpArgs false
namespace Go.Proofs.YtjnmoddcodnadaaGreat
open Go.RowKit Go.Annal Go.Sort
/-- A run's book, whatever the run's own numbers are. -/
def RB (S : Nat → Prop) (w : World) (R B : Nat) (n l : Int) (s : St) : Prop := w.heap[R]? = some (.cells #[.pointer (some ⟨B, 0, none⟩), .int .i64 n, .int .i64 l] 29 (0, 0)) ∧ S R ∧ ∃ Fp, ProgIs w B s Fp ∧ ¬ Fp R ∧ ∀ b, Fp b → S b
theorem RunAt.rb {S : Nat → Prop} {w : World} {R : Nat} {s : St} (h : RunAt S w R s) : ∃ B, RB S w R B s.ne s.lk s := by
  obtain ⟨B, Fp, h1, h2, h3⟩ := h
  exact ⟨B, h1.rn, h2, Fp, h1.pg, h1.ap, h3⟩
theorem RB.run {S : Nat → Prop} {w : World} {R B : Nat} {s : St} (h : RB S w R B s.ne s.lk s) : RunAt S w R s := by
  obtain ⟨h1, h2, Fp, h3, h4, h5⟩ := h
  exact ⟨B, Fp, ⟨h1, h3, h4⟩, h2, h5⟩
theorem RB.mv {S : Nat → Prop} {w w' : World} {R B : Nat} {n l : Int} {s : St} (h : RB S w R B n l s) (hb : Below w.heap.size w w') : RB S w' R B n l s := by
  obtain ⟨h1, h2, Fp, h3, h4, h5⟩ := h
  exact ⟨(hb.block _ (blk_lt h1)).trans h1, h2, Fp, h3.turn (S := fun _ => False) (Turn.of_below hb) (fun _ _ h => h), h4, h5⟩
theorem RB.c0 {S : Nat → Prop} {w : World} {R B : Nat} {n l : Int} {s : St} (h : RB S w R B n l s) : w.cell? ⟨R, 0, none⟩ = some (.pointer (some ⟨B, 0, none⟩)) := blk_cell' h.1 rfl
theorem RB.c1 {S : Nat → Prop} {w : World} {R B : Nat} {n l : Int} {s : St} (h : RB S w R B n l s) : w.cell? ⟨R, 1, none⟩ = some (.int .i64 n) := blk_cell' h.1 rfl
theorem RB.c2 {S : Nat → Prop} {w : World} {R B : Nat} {n l : Int} {s : St} (h : RB S w R B n l s) : w.cell? ⟨R, 2, none⟩ = some (.int .i64 l) := blk_cell' h.1 rfl
theorem RB.only {S : Nat → Prop} {w w' : World} {R B : Nat} {n l : Int} {s : St} (h : RB S w R B n l s) (hb : Below w.heap.size w w') : ∃ S', RB S' w' R B n l s ∧ (∀ b, w'.heap.size ≤ b → S' b) ∧ (∀ b, S' b → S b ∨ w'.heap.size ≤ b) ∧ (∀ b, w.heap.size ≤ b → b < w'.heap.size → ¬ S' b) := by
  obtain ⟨h1, h2, Fp, h3, h4, h5⟩ := id h
  have hR := blk_lt h1
  refine ⟨ofRun R Fp w'.heap.size, ⟨(hb.block _ hR).trans h1, .inl rfl, Fp, h3.turn (S := fun _ => False) (Turn.of_below hb) (fun _ _ h => h), h4, fun b hb => .inr (.inl hb)⟩, fun b hb => .inr (.inr hb), fun b hb => ?_, fun b hb1 hb2 hs => ?_⟩
  · rcases hb with rfl | hb | hb
    · exact .inl h2
    · exact .inl (h5 b hb)
    · exact .inr hb
  · rcases hs with rfl | hs | hs
    · omega
    · have := h3.lt hs; omega
    · omega
/-- Behind a call that has made t of the book. -/
theorem rb_call {S : Nat → Prop} {w w' : World} {R B : Nat} {n l : Int} {t : St} {Fp : Nat → Prop} (h1 : w.heap[R]? = some (.cells #[.pointer (some ⟨B, 0, none⟩), .int .i64 n, .int .i64 l] 29 (0, 0))) (h2 : S R) (h4 : ¬ Fp R) (h5 : ∀ b, Fp b → S b) (hS : ∀ b, w.heap.size ≤ b → S b) (q : ∃ Fp', ProgIs w' B t Fp' ∧ Turn Fp w w' ∧ ∀ b, Fp' b → Fp b ∨ w.heap.size ≤ b) : RB S w' R B n l t ∧ Turn S w w' := by
  obtain ⟨Fp', q1, q2, q3⟩ := q
  have hR := blk_lt h1
  exact ⟨⟨q2.blk h1 h4, h2, Fp', q1, fun h => (q3 R h).elim h4 (fun h => by omega), fun b hb => (q3 b hb).elim (h5 b) (hS b)⟩, q2.mono (fun b _ hb => h5 b hb)⟩
theorem rb_post {S : Nat → Prop} {W : World} {R B : Nat} {n l : Int} {s : St} (h : RB S W R B n l s) (hS : ∀ b, W.heap.size ≤ b → S b) (ho : s.Ok) (day : Int) (lad : Option Addr) (k cap : Nat) (ya : Nat → ByteArray) (ym : Nat → Int) (hL : LinesV W lad k cap ya ym) : Calls Tryz.prog 18 #[.pointer (some ⟨B, 0, none⟩), .int .i64 day, .slice lad k cap] W fun r w' => r = .returned (.tuple #[.int .i64 (s.postN day ya ym k), .int .i64 (s.postE day ya ym k)]) ∧ RB S w' R B n l (s.afterPost day ya ym k) ∧ Turn S W w' := by
  obtain ⟨h1, h2, Fp, h3, h4, h5⟩ := h
  refine (progPost B s Fp day lad k cap ya ym W h3 ho hL).mono ?_
  rintro r w' ⟨rfl, q⟩
  exact ⟨rfl, rb_call h1 h2 h4 h5 hS q⟩
theorem rb_rev {S : Nat → Prop} {W : World} {R B : Nat} {n l : Int} {s : St} (h : RB S W R B n l s) (hS : ∀ b, W.heap.size ≤ b → S b) (ho : s.Ok) (e : Int) : Calls Tryz.prog 20 #[.pointer (some ⟨B, 0, none⟩), .int .i64 e] W fun r w' => r = .returned (.tuple #[.int .i64 (s.revN e), .int .i64 (s.revE e)]) ∧ RB S w' R B n l (s.afterRev e) ∧ Turn S W w' := by
  obtain ⟨h1, h2, Fp, h3, h4, h5⟩ := h
  refine (progRev B s Fp e W h3 ho).mono ?_
  rintro r w' ⟨rfl, q⟩
  exact ⟨rfl, rb_call h1 h2 h4 h5 hS q⟩
theorem rb_lock {S : Nat → Prop} {W : World} {R B : Nat} {n l : Int} {s : St} (h : RB S W R B n l s) (hS : ∀ b, W.heap.size ≤ b → S b) (ho : s.Ok) (day : Int) : Calls Tryz.prog 22 #[.pointer (some ⟨B, 0, none⟩), .int .i64 day] W fun r w' => r = .returned (.int .i64 (s.lockE day)) ∧ RB S w' R B n l (s.afterLock day) ∧ Turn S W w' := by
  obtain ⟨h1, h2, Fp, h3, h4, h5⟩ := h
  refine (progLock B s Fp day W h3 ho).mono ?_
  rintro r w' ⟨rfl, q⟩
  exact ⟨rfl, rb_call h1 h2 h4 h5 hS q⟩
theorem rb_close {S : Nat → Prop} {W : World} {R B : Nat} {n l : Int} {s : St} (h : RB S W R B n l s) (hS : ∀ b, W.heap.size ≤ b → S b) (ho : s.Ok) (day : Int) (into : ByteArray) : Calls Tryz.prog 21 #[.pointer (some ⟨B, 0, none⟩), .int .i64 day, .string into] W fun r w' => r = .returned (.tuple #[.int .i64 (s.closeN day into), .int .i64 (s.closeE day into)]) ∧ RB S w' R B n l (s.afterClose day into) ∧ Turn S W w' := by
  obtain ⟨h1, h2, Fp, h3, h4, h5⟩ := h
  refine (progClose B s Fp day into W h3 ho).mono ?_
  rintro r w' ⟨rfl, q⟩
  exact ⟨rfl, rb_call h1 h2 h4 h5 hS q⟩
theorem rb_table {S : Nat → Prop} {R B : Nat} {n l : Int} {s : St} (known : Int) (w : World) (h : RB S w R B n l s) (hk : KOk s) (k0 : 0 ≤ known) (k1 : known ≤ s.ne) :
    Calls Tryz.prog 11 #[.pointer (some ⟨R, 0, none⟩), .int .i64 known] w fun r w' => ∃ g c, r = .returned (.tuple #[.slice (some ⟨g, 0, none⟩) 78 c, .bool true]) ∧ Hid (w.heap.size ≤ g ∧ TabAt w' g (tabF s known) ∧ RB S w' R B n l s ∧ Below w.heap.size w w') := by
  obtain ⟨h1, h2, Fp, h3, h4, h5⟩ := id h
  refine (table_b R B s Fp known w h.c0 h3 hk k0 k1).mono ?_
  rintro r w' ⟨v, rfl, ho, hb⟩
  rcases ho.2 with ⟨_, h0⟩ | ⟨g, cap, cur, rfl, hg, hc, hr⟩
  · exact absurd h0 (by decide)
  · refine ⟨g, cap, rfl, hg, fun j hj => ?_, h.mv hb, hb⟩
    rw [ho.cellAt j (by omega)]
    unfold tabL
    rw [List.getElem?_map, List.getElem?_range hj]
    rfl
theorem rb_bal {S : Nat → Prop} {W : World} {R B : Nat} {n l : Int} {s : St} (h : RB S W R B n l s) (ho : s.Ok) (name : ByteArray) (day known : Int) : Calls Tryz.prog 16 #[.pointer (some ⟨B, 0, none⟩), .string name, .int .i64 day, .int .i64 known] W fun r w' => r = .returned (.tuple #[.int .i64 (s.bal name day known), .int .i64 (s.balE name day known)]) ∧ Below W.heap.size W w' := by
  obtain ⟨h1, h2, Fp, h3, h4, h5⟩ := h
  exact progBal B s Fp name day known W h3 ho
theorem rb_trial {S : Nat → Prop} {W : World} {R B : Nat} {n l : Int} {s : St} (h : RB S W R B n l s) (ho : s.Ok) (day known : Int) : Calls Tryz.prog 14 #[.pointer (some ⟨B, 0, none⟩), .int .i64 day, .int .i64 known] W fun r w' => ∃ v, r = .returned (.tuple #[v, .int .i64 (s.trialE day known)]) ∧ w'.ownsRow W.heap.size 47 2 v (s.trial day known).length (cells2 (s.trial day known)) ∧ Below W.heap.size W w' := by
  obtain ⟨h1, h2, Fp, h3, h4, h5⟩ := h
  exact progTrial B s Fp day known W h3 ho
/-- A run, with its book. -/
theorem run_rb (w0 w : World) (ad : Option Addr) (n cap : Nat) (qs : Nat → K5) (hS : StepsV w0 ad n qs) (h0 : Below w0.heap.size w0 w) :
    Calls Tryz.prog 9 #[.slice ad n cap] w fun r w' => ∃ R B, r = .returned (.pointer (some ⟨R, 0, none⟩)) ∧ w'.cell? ⟨R, 0, none⟩ = some (.pointer (some ⟨B, 0, none⟩)) ∧ w'.cell? ⟨R, 1, none⟩ = some (.int .i64 (krun qs (lim n 40)).ne) ∧ w'.cell? ⟨R, 2, none⟩ = some (.int .i64 (krun qs (lim n 40)).lk) ∧ Hid (RB (fun b => w0.heap.size ≤ b) w' R B (krun qs (lim n 40)).ne (krun qs (lim n 40)).lk (krun qs (lim n 40)) ∧ Below w0.heap.size w0 w') := by
  refine (run_at w0 w ad n cap qs hS h0).mono ?_
  rintro r w' ⟨R, rfl, hr⟩
  obtain ⟨B, hB⟩ := hr.out.1.rb
  exact ⟨R, B, rfl, hB.c0, hB.c1, hB.c2, hB, hr.out.2⟩
end Go.Proofs.YtjnmoddcodnadaaGreat
namespace Go.Annal
open Go.Proofs.YtjnmoddcodnadaaGreat
theorem nmS_congr {fn gn : Nat → ByteArray} : ∀ n, (∀ k, k < n → fn k = gn k) → nmS fn n = nmS gn n
  | 0, _ => rfl
  | n + 1, h => by simp only [nmS]; rw [nmS_congr n (fun k hk => h k (by omega)), h n (by omega)]
theorem nmS_nmK : nmS nmK 6 = (List.range 6).map nmK := by kernel_rfl
/-- What a trial tells, up to the i-th name. -/
def tri (bal : ByteArray → Int) (i : Nat) : List Ln := trL bal ((List.range i).map nmK)
theorem tri_succ (bal : ByteArray → Int) (i : Nat) : tri bal (i + 1) = tri bal i ++ (if bal (nmK i) = 0 then [] else [(nmK i, bal (nmK i))]) := by
  unfold tri
  rw [List.range_succ, List.map_append]
  exact trL_snoc _ _ _
theorem tri_pre (bal : ByteArray → Int) (i : Nat) : ∀ j, tri bal i <+: tri bal (i + j)
  | 0 => List.prefix_rfl
  | j + 1 => (tri_pre bal i j).trans (by rw [show i + (j + 1) = i + j + 1 by omega, tri_succ]; exact List.prefix_append _ _)
theorem tri_at (bal : ByteArray → Int) {i : Nat} (hi : i < 6) (hz : bal (nmK i) ≠ 0) : (tri bal 6)[(tri bal i).length]? = some (nmK i, bal (nmK i)) ∧ (tri bal i).length < (tri bal 6).length ∧ (tri bal (i + 1)).length = (tri bal i).length + 1 := by
  have h := tri_pre bal (i + 1) (5 - i)
  rw [show i + 1 + (5 - i) = 6 by omega] at h
  obtain ⟨r, hr⟩ := h
  rw [tri_succ, if_neg hz] at hr
  refine ⟨?_, ?_, ?_⟩
  · rw [← hr]; simp
  · rw [← hr]; simp
  · rw [tri_succ, if_neg hz]; simp
theorem tri_zero (bal : ByteArray → Int) {i : Nat} (hz : bal (nmK i) = 0) : (tri bal (i + 1)).length = (tri bal i).length := by
  rw [tri_succ, if_pos hz]; simp
theorem KOk.trial {s : St} (h : KOk s) {d known : Int} (h0 : 0 ≤ d) (h1 : d ≤ 12) (k0 : 0 ≤ known) (k1 : known ≤ s.ne) : s.trialE d known = 0 ∧ s.trial d known = tri (fun x => enS s.dy s.la s.lm x d s.ln known.toNat) 6 := by
  have he : s.trialE d known = 0 := by
    unfold St.trialE
    have h2 : knownB known s.ne = true := by unfold knownB; simp; omega
    rw [dayB_small h0 h1, h2]; rfl
  refine ⟨he, ?_⟩
  unfold St.trial tri
  rw [if_pos he, h.na, nmS_congr 6 h.fn, nmS_nmK]
theorem sF_bd (f : Nat → Int) (M : Int) : ∀ n : Nat, (∀ k, k < n → -M ≤ f k ∧ f k ≤ M) → -(M * n) ≤ sF f n ∧ sF f n ≤ M * n
  | 0, _ => by simp [sF]
  | n + 1, h => by
    have h1 := sF_bd f M n (fun k hk => h k (by omega))
    have h2 := h n (by omega)
    simp only [sF]
    rw [show ((n + 1 : Nat) : Int) = (n : Int) + 1 by omega, Int.mul_add]
    omega
end Go.Annal
namespace Go.Annal
open Go.Proofs.YtjnmoddcodnadaaGreat Go.Sort
variable (dy : Nat → Int) (la : Nat → Nat → ByteArray) (lm : Nat → Nat → Int) (x : ByteArray)
theorem its_amt (ln : Nat → Nat) : ∀ n, (∀ k, k < n → ∀ j, j < ln k → lm k j ≠ 0) → ∀ y ∈ its dy la lm x ln n, y.2.2 ≠ 0
  | 0, _, y, hy => by simp [its] at hy
  | n + 1, h, y, hy => by
    simp only [its, List.mem_append] at hy
    rcases hy with hy | hy
    · exact its_amt ln n (fun k hk => h k (by omega)) y hy
    · have key : ∀ j, j ≤ ln n → ∀ y ∈ itsL dy la lm x n j, y.2.2 ≠ 0 := by
        intro j
        induction j with
        | zero => intro _ y hy; simp [itsL] at hy
        | succ j ih =>
          intro hj y hy
          simp only [itsL, List.mem_append] at hy
          rcases hy with hy | hy
          · exact ih (by omega) y hy
          · split at hy
            · simp at hy; subst hy; exact h n (by omega) j (by omega)
            · simp at hy
      exact key _ (Nat.le_refl _) y hy
/-- What a list of items is: in order, of these days and numbers, of amounts that are not 0. -/
theorem items_facts (d1 d2 : Int) (ln : Nat → Nat) (n : Nat) (h : ∀ k, k < n → ∀ a b, a < b → b < ln k → (la k a).toList ≠ (la k b).toList) (hz : ∀ k, k < n → ∀ j, j < ln k → lm k j ≠ 0) :
    (∀ y ∈ enI dy la lm x d1 d2 ln n, y.2.2 ≠ 0 ∧ d1 ≤ y.2.1 ∧ y.2.1 ≤ d2 ∧ 1 ≤ y.1 ∧ y.1 ≤ (n : Int)) ∧
    (enI dy la lm x d1 d2 ln n).Pairwise (fun a b => a.2.1 < b.2.1 ∨ (a.2.1 = b.2.1 ∧ a.1 < b.1)) := by
  obtain ⟨g1, g2, g3⟩ := enI_its dy la lm x d1 d2 ln n
  have hmem : ∀ y ∈ enI dy la lm x d1 d2 ln n, y ∈ itmI d1 d2 (its dy la lm x ln n) := fun y hy => g2.mem_iff.1 hy
  refine ⟨fun y hy => ?_, ?_⟩
  · have hm := hmem y hy
    unfold itmI at hm
    rw [List.mem_filter] at hm
    have h1 := its_amt dy la lm x ln n hz y hm.1
    have h2 := its_num dy la lm x ln n y hm.1
    have h3 := hm.2
    rw [Bool.and_eq_true, decide_eq_true_iff, decide_eq_true_iff] at h3
    exact ⟨h1, h3.1, h3.2, h2.1, h2.2⟩
  · have hst : (itmI d1 d2 (its dy la lm x ln n)).Pairwise (fun y z => y.1 ≠ z.1) := ((its_strict dy la lm x ln n h).filter _).imp (fun {y z} h => by omega)
    have hne : (enI dy la lm x d1 d2 ln n).Pairwise (fun y z => y.1 ≠ z.1) := (g2.symm.pairwise hst (fun {a b} h => fun e => h e.symm))
    refine (g1.and hne).imp (fun {a b} hab => ?_)
    obtain ⟨h1, h2⟩ := hab
    rw [ltT] at h1
    simp [ordI] at h1
    omega
/-- Those known by fewer are among them, in the same order. -/
theorem items_few (d1 d2 : Int) (ln : Nat → Nat) (m n : Nat) (hmn : m ≤ n) (h : ∀ k, k < n → ∀ a b, a < b → b < ln k → (la k a).toList ≠ (la k b).toList) :
    (enI dy la lm x d1 d2 ln n).filter (fun y => decide (y.1 ≤ (m : Int))) = enI dy la lm x d1 d2 ln m := by
  obtain ⟨g1, g2, g3⟩ := enI_its dy la lm x d1 d2 ln n
  refine items_same dy la lm x d1 d2 ln m (fun k hk => h k (by omega)) _ ?_ (List.Pairwise.filter _ g1)
  obtain ⟨r, hr, hr'⟩ := its_le dy la lm x ln m n hmn
  refine (g2.filter _).trans ?_
  rw [hr]
  unfold itmI
  rw [List.filter_append, List.filter_append]
  have e1 : (List.filter (fun y => decide (y.1 ≤ (m : Int))) (List.filter (fun x => decide (d1 ≤ x.2.1) && decide (x.2.1 ≤ d2)) (its dy la lm x ln m))) = List.filter (fun x => decide (d1 ≤ x.2.1) && decide (x.2.1 ≤ d2)) (its dy la lm x ln m) := by
    rw [List.filter_eq_self]
    intro y hy
    rw [List.mem_filter] at hy
    have := (its_num dy la lm x ln m y hy.1).2
    simpa using this
  have e2 : (List.filter (fun y => decide (y.1 ≤ (m : Int))) (List.filter (fun x => decide (d1 ≤ x.2.1) && decide (x.2.1 ≤ d2)) r)) = [] := by
    rw [List.filter_eq_nil_iff]
    intro y hy
    rw [List.mem_filter] at hy
    have := hr' y hy.1
    simp; omega
  rw [e1, e2, List.append_nil]
theorem sum_filter (l : List It) (d1 d2 : Int) (hd : d1 ≤ d2 + 1) : ((itmI d1 d2 l).map (fun y => y.2.2)).sum = balI d2 l - balI (d1 - 1) l := by
  induction l with
  | nil => simp [itmI, balI]
  | cons y l ih =>
    unfold itmI balI at *
    simp only [List.filter_cons]
    by_cases h1 : d1 ≤ y.2.1 <;> by_cases h2 : y.2.1 ≤ d2 <;> by_cases h3 : y.2.1 ≤ d1 - 1 <;> simp [h1, h2, h3, ih] <;> omega
/-- A balance is what the items make. -/
theorem items_sum (d1 d2 : Int) (ln : Nat → Nat) (n : Nat) (hd : d1 ≤ d2 + 1) : ((enI dy la lm x d1 d2 ln n).map (fun y => y.2.2)).sum = enS dy la lm x d2 ln n - enS dy la lm x (d1 - 1) ln n := by
  obtain ⟨g1, g2, g3⟩ := enI_its dy la lm x d1 d2 ln n
  rw [perm_sum (g2.map (fun y : It => y.2.2)), sum_filter _ _ _ hd, enS_its, enS_its]
theorem enS_none (d : Int) (ln : Nat → Nat) (n : Nat) (hd : ∀ k, k < n → d < dy k) : enS dy la lm x d ln n = 0 := by
  rw [enS_sF]
  exact sF_zero _ (fun k hk => by unfold upD; rw [if_neg (by have := hd k hk; omega)])
end Go.Annal
namespace Go.Annal
open Go.Proofs.YtjnmoddcodnadaaGreat Go.Sort
theorem its_all (dy : Nat → Int) (la : Nat → Nat → ByteArray) (lm : Nat → Nat → Int) (x : ByteArray) (P : Int → Prop) (ln : Nat → Nat) : ∀ n, (∀ k, k < n → ∀ j, j < ln k → P (lm k j)) → ∀ y ∈ its dy la lm x ln n, P y.2.2
  | 0, _, y, hy => by simp [its] at hy
  | n + 1, h, y, hy => by
    simp only [its, List.mem_append] at hy
    rcases hy with hy | hy
    · exact its_all dy la lm x P ln n (fun k hk => h k (by omega)) y hy
    · have key : ∀ j, j ≤ ln n → ∀ y ∈ itsL dy la lm x n j, P y.2.2 := by
        intro j
        induction j with
        | zero => intro _ y hy; simp [itsL] at hy
        | succ j ih =>
          intro hj y hy
          simp only [itsL, List.mem_append] at hy
          rcases hy with hy | hy
          · exact ih (by omega) y hy
          · split at hy
            · simp at hy; subst hy; exact h n (by omega) j (by omega)
            · simp at hy
      exact key _ (Nat.le_refl _) y hy
def atJ (L : List It) (j : Nat) : It := L.getD j (0, 0, 0)
theorem atJ_eq {L : List It} {j : Nat} (h : j < L.length) : atJ L j = L[j] := by unfold atJ; simp [List.getD, h]
def sumJ (L : List It) (j : Nat) : Int := sF (fun i => (atJ L i).2.2) j
theorem sumJ_take (L : List It) : ∀ j, j ≤ L.length → sumJ L j = ((L.take j).map (fun y => y.2.2)).sum
  | 0, _ => by simp [sumJ, sF]
  | j + 1, h => by
    have ih := sumJ_take L j (by omega)
    have hj : j < L.length := by omega
    rw [List.take_add_one, List.getElem?_eq_getElem hj, List.map_append, List.sum_append, ← ih]
    show sumJ L j + (atJ L j).2.2 = _
    rw [atJ_eq hj]
    simp
def fewJ (L : List It) (m : Int) (j : Nat) : Nat := ((L.take j).filter (fun y => decide (y.1 ≤ m))).length
theorem fewJ_skip {L : List It} {m : Int} {j : Nat} (hj : j < L.length) (h : ¬ (atJ L j).1 ≤ m) : fewJ L m (j + 1) = fewJ L m j := by
  rw [atJ_eq hj] at h
  unfold fewJ
  rw [List.take_add_one, List.getElem?_eq_getElem hj, List.filter_append]
  simp [h]
theorem fewJ_take {L : List It} {m : Int} {j : Nat} (hj : j < L.length) (h : (atJ L j).1 ≤ m) : fewJ L m (j + 1) = fewJ L m j + 1 ∧ fewJ L m j < (L.filter (fun y => decide (y.1 ≤ m))).length ∧ atJ (L.filter (fun y => decide (y.1 ≤ m))) (fewJ L m j) = atJ L j := by
  rw [atJ_eq hj] at h ⊢
  have e1 : fewJ L m (j + 1) = fewJ L m j + 1 := by
    unfold fewJ
    rw [List.take_add_one, List.getElem?_eq_getElem hj, List.filter_append]
    simp [h]
  have e2 : L.filter (fun y => decide (y.1 ≤ m)) = (L.take j).filter (fun y => decide (y.1 ≤ m)) ++ (L[j] :: (L.drop (j + 1)).filter (fun y => decide (y.1 ≤ m))) := by
    have h0 : L = L.take j ++ (L[j] :: L.drop (j + 1)) := by rw [← List.drop_eq_getElem_cons hj, List.take_append_drop]
    have h1 := congrArg (List.filter (fun y : It => decide (y.1 ≤ m))) h0
    rw [List.filter_append, List.filter_cons, if_pos (by simpa using h)] at h1
    exact h1
  have e3 : fewJ L m j < (L.filter (fun y => decide (y.1 ≤ m))).length := by
    rw [e2, List.length_append, List.length_cons]; unfold fewJ; omega
  refine ⟨e1, e3, ?_⟩
  unfold atJ
  rw [List.getD_eq_getElem?_getD, e2]
  unfold fewJ
  rw [List.getElem?_append_right (Nat.le_refl _), Nat.sub_self]
  rfl
theorem fewJ_all (L : List It) (m : Int) : fewJ L m L.length = (L.filter (fun y => decide (y.1 ≤ m))).length := by
  unfold fewJ; rw [List.take_length]
/-- What the items of a small book are. -/
structure ItemsOk (L : List It) (f t k : Int) : Prop where
  nz : ∀ j, j < L.length → (atJ L j).2.2 ≠ 0
  bd : ∀ j, j < L.length → -1000000000000 ≤ (atJ L j).2.2 ∧ (atJ L j).2.2 ≤ 1000000000000
  lo : ∀ j, j < L.length → f ≤ (atJ L j).2.1
  hi : ∀ j, j < L.length → (atJ L j).2.1 ≤ t
  n1 : ∀ j, j < L.length → 1 ≤ (atJ L j).1
  nk : ∀ j, j < L.length → (atJ L j).1 ≤ k
  or : ∀ j, j + 1 < L.length → (atJ L j).2.1 < (atJ L (j + 1)).2.1 ∨ ((atJ L j).2.1 = (atJ L (j + 1)).2.1 ∧ (atJ L j).1 < (atJ L (j + 1)).1)
  len : L.length ≤ 60
theorem ItemsOk.sum {L : List It} {f t k : Int} (h : ItemsOk L f t k) (j : Nat) (hj : j ≤ L.length) : -60000000000000 ≤ sumJ L j ∧ sumJ L j ≤ 60000000000000 := by
  have := sF_bd (fun i => (atJ L i).2.2) 1000000000000 j (fun i hi => h.bd i (by omega))
  have := h.len
  unfold sumJ
  omega
theorem KOk.itemsOk {s : St} (h : KOk s) (x : ByteArray) (f t : Int) {n : Nat} (hn : n ≤ s.ne) : ItemsOk (enI s.dy s.la s.lm x f t s.ln n) f t n := by
  obtain ⟨g1, g2⟩ := items_facts s.dy s.la s.lm x f t s.ln n (fun k hk => h.ok.tw k (by omega)) (fun k hk => h.nz k (by omega))
  obtain ⟨_, p2, _⟩ := enI_its s.dy s.la s.lm x f t s.ln n
  have hb : ∀ y ∈ enI s.dy s.la s.lm x f t s.ln n, -1000000000000 ≤ y.2.2 ∧ y.2.2 ≤ 1000000000000 := fun y hy => by
    have := p2.mem_iff.1 hy
    unfold itmI at this
    rw [List.mem_filter] at this
    exact its_all s.dy s.la s.lm x (fun z => -1000000000000 ≤ z ∧ z ≤ 1000000000000) s.ln n (fun k hk => h.ok.bd k (by omega)) y this.1
  have hl : (enI s.dy s.la s.lm x f t s.ln n).length ≤ n := by
    rw [p2.length_eq]
    exact Nat.le_trans (List.length_filter_le _ _) (its_len s.dy s.la s.lm x s.ln n (fun k hk => h.ok.tw k (by omega)))
  have hne := h.ok.ne
  obtain ⟨L, hL⟩ : ∃ L, enI s.dy s.la s.lm x f t s.ln n = L := ⟨_, rfl⟩
  rw [hL] at g1 g2 hb hl ⊢
  have hm : ∀ j, j < L.length → atJ L j ∈ L := fun j hj => by rw [atJ_eq hj]; exact List.getElem_mem hj
  refine ⟨fun j hj => (g1 _ (hm j hj)).1, fun j hj => hb _ (hm j hj), fun j hj => (g1 _ (hm j hj)).2.1, fun j hj => (g1 _ (hm j hj)).2.2.1, fun j hj => (g1 _ (hm j hj)).2.2.2.1, fun j hj => (g1 _ (hm j hj)).2.2.2.2, fun j hj => ?_, by omega⟩
  rw [atJ_eq hj, atJ_eq (show j < L.length by omega)]
  exact List.pairwise_iff_getElem.1 g2 j (j + 1) (by omega) hj (by omega)
end Go.Annal
namespace Go.Proofs.YtjnmoddcodnadaaGreat
open Go.RowKit Go.Annal Go.Sort
/-- A list of items that a call has answered with, nil or not. -/
theorem items_out {w : World} {base : Nat} {v : Value} {T : List It} (h : w.ownsRow base 53 3 v T.length (cells3 T)) : ∃ ad c, v = .slice ad T.length c ∧ ∀ j, j < T.length → ∃ g, ad = some ⟨g, 0, none⟩ ∧ w.cell? ⟨g, j * 3, none⟩ = some (.int .i64 (atJ T j).1) ∧ w.cell? ⟨g, j * 3 + 1, none⟩ = some (.int .i64 (atJ T j).2.1) ∧ w.cell? ⟨g, j * 3 + 2, none⟩ = some (.int .i64 (atJ T j).2.2) := by
  rcases h.2 with ⟨rfl, h0⟩ | ⟨g, cap, cur, rfl, hg, hc, hr⟩
  · exact ⟨none, 0, by rw [h0], fun j hj => by omega⟩
  · refine ⟨_, cap, rfl, fun j hj => ⟨g, rfl, ?_, ?_, ?_⟩⟩
    · rw [h.cellAt (j * 3) (by omega), atJ_eq hj]; exact cells3_get T j hj 0 (by omega)
    · rw [h.cellAt (j * 3 + 1) (by omega), atJ_eq hj]; exact cells3_get T j hj 1 (by omega)
    · rw [h.cellAt (j * 3 + 2) (by omega), atJ_eq hj]; exact cells3_get T j hj 2 (by omega)
theorem rb_items {S : Nat → Prop} {W : World} {R B : Nat} {n l : Int} {s : St} (h : RB S W R B n l s) (ho : s.Ok) (name : ByteArray) (d1 d2 known : Int) : Calls Tryz.prog 17 #[.pointer (some ⟨B, 0, none⟩), .string name, .int .i64 d1, .int .i64 d2, .int .i64 known] W fun r w' => ∃ v, r = .returned (.tuple #[v, .int .i64 (s.itemsE name d1 d2 known)]) ∧ w'.ownsRow W.heap.size 53 3 v (s.items name d1 d2 known).length (cells3 (s.items name d1 d2 known)) ∧ Below W.heap.size W w' := by
  obtain ⟨h1, h2, Fp, h3, h4, h5⟩ := h
  exact progItems B s Fp name d1 d2 known W h3 ho
end Go.Proofs.YtjnmoddcodnadaaGreat
namespace Go.Annal
open Go.Proofs.YtjnmoddcodnadaaGreat
theorem KOk.asks {s : St} (h : KOk s) {d known : Int} (h0 : 0 ≤ d) (h1 : d ≤ 12) (k0 : 0 ≤ known) (k1 : known ≤ s.ne) {i : Nat} (hi : i < 6) : s.balE (nmK i) d known = 0 ∧ s.bal (nmK i) d known = enS s.dy s.la s.lm (nmK i) d s.ln known.toNat := by
  have he : s.balE (nmK i) d known = 0 := by
    unfold St.balE
    have h2 : knownB known s.ne = true := by unfold knownB; simp; omega
    rw [h.there hi, dayB_small h0 h1, h2]; rfl
  refine ⟨he, ?_⟩
  unfold St.bal okOr
  rw [if_pos he]
theorem KOk.items {s : St} (h : KOk s) {f t known : Int} (f0 : 0 ≤ f) (f1 : f ≤ 12) (t0 : 0 ≤ t) (t1 : t ≤ 12) (k0 : 0 ≤ known) (k1 : known ≤ s.ne) {i : Nat} (hi : i < 6) : s.itemsE (nmK i) f t known = 0 ∧ s.items (nmK i) f t known = enI s.dy s.la s.lm (nmK i) f t s.ln known.toNat := by
  have he : s.itemsE (nmK i) f t known = 0 := by
    unfold St.itemsE
    have h2 : knownB known s.ne = true := by unfold knownB; simp; omega
    rw [h.there hi, dayB_small f0 f1, dayB_small t0 t1, h2]; rfl
  refine ⟨he, ?_⟩
  unfold St.items
  rw [if_pos he]
/-- What an account has, and what of it came before a day. -/
theorem KOk.low {s : St} (h : KOk s) (x : ByteArray) {n : Nat} (hn : n ≤ s.ne) : enS s.dy s.la s.lm x (0 - 1) s.ln n = 0 :=
  enS_none s.dy s.la s.lm x _ s.ln n (fun k hk => by have := (h.ok.dd k (by omega)).1; omega)
theorem KOk.bal_in {s : St} (h : KOk s) (x : ByteArray) (d : Int) {n : Nat} (hn : n ≤ s.ne) : -6000000000000000 ≤ enS s.dy s.la s.lm x d s.ln n ∧ enS s.dy s.la s.lm x d s.ln n ≤ 6000000000000000 := by
  have := enS_bd s.dy s.la s.lm x d s.ln n (fun i hi => ⟨by have := h.ok.ln i (by omega); omega, h.ok.bd i (by omega)⟩)
  have := h.ok.ne
  omega
/-- All that the walk wants of the items. -/
theorem KOk.counted {s : St} (h : KOk s) {i : Nat} {f t k m : Int} (k0 : 0 ≤ k) (k1 : k ≤ s.ne) (m0 : 0 ≤ m) (m1 : m ≤ k) {L L2 : List It} {hi lo : Int}
    (hL : enI s.dy s.la s.lm (nmK i) f t s.ln k.toNat = L) (hL2 : enI s.dy s.la s.lm (nmK i) f t s.ln m.toNat = L2) (hh : enS s.dy s.la s.lm (nmK i) t s.ln k.toNat = hi) (hlo : enS s.dy s.la s.lm (nmK i) (f - 1) s.ln k.toNat = lo) :
    ItemsOk L f t k ∧ L2 = L.filter (fun y => decide (y.1 ≤ m)) ∧ (f ≤ t → sumJ L L.length = hi - lo) := by
  have h1 := h.itemsOk (nmK i) f t (n := k.toNat) (by omega)
  have h2 := items_few s.dy s.la s.lm (nmK i) f t s.ln m.toNat k.toNat (by omega) (fun k hk => h.ok.tw k (by omega))
  rw [hL, Int.toNat_of_nonneg k0] at h1
  rw [hL, hL2, Int.toNat_of_nonneg m0] at h2
  refine ⟨h1, h2.symm, fun hft => ?_⟩
  have h3 := items_sum s.dy s.la s.lm (nmK i) f t s.ln k.toNat (by omega)
  rw [hL, hh, hlo] at h3
  rw [sumJ_take _ _ (Nat.le_refl _), List.take_length]
  exact h3
theorem ItemsOk.none {L : List It} {f t k : Int} (h : ItemsOk L f t k) (hft : t < f) : L.length = 0 := by
  cases hl : L.length with
  | zero => rfl
  | succ n =>
    have h1 := h.lo 0 (by omega)
    have h2 := h.hi 0 (by omega)
    omega
end Go.Annal
