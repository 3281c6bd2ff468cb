import Derived.Test.YtjnmoddcodnadaaGreatG31
set_option linter.unusedVariables false
set_option linter.unusedSimpArgs false
namespace Go.Proofs.YtjnmoddcodnadaaGreat
open Go.RowKit Go.Annal Go.Sort
/-- A run's book, whatever the run's own numbers are. -/
def RB (S : Nat → Prop) (w : World) (R B : Nat) (n l : Int) (s : St) : Prop := w.heap[R]? = some (.cells #[.pointer (some ⟨B, 0, none⟩), .int .i64 n, .int .i64 l] 29 (0, 0)) ∧ S R ∧ ∃ Fp, ProgIs w B s Fp ∧ ¬ Fp R ∧ ∀ b, Fp b → S b
theorem RunAt.rb {S : Nat → Prop} {w : World} {R : Nat} {s : St} (h : RunAt S w R s) : ∃ B, RB S w R B s.ne s.lk s := by
  obtain ⟨B, Fp, h1, h2, h3⟩ := h
  exact ⟨B, h1.rn, h2, Fp, h1.pg, h1.ap, h3⟩
theorem RB.run {S : Nat → Prop} {w : World} {R B : Nat} {s : St} (h : RB S w R B s.ne s.lk s) : RunAt S w R s := by
  obtain ⟨h1, h2, Fp, h3, h4, h5⟩ := h
  exact ⟨B, Fp, ⟨h1, h3, h4⟩, h2, h5⟩
theorem RB.mv {S : Nat → Prop} {w w' : World} {R B : Nat} {n l : Int} {s : St} (h : RB S w R B n l s) (hb : Below w.heap.size w w') : RB S w' R B n l s := by
  obtain ⟨h1, h2, Fp, h3, h4, h5⟩ := h
  exact ⟨(hb.block _ (blk_lt h1)).trans h1, h2, Fp, h3.turn (S := fun _ => False) (Turn.of_below hb) (fun _ _ h => h), h4, h5⟩
theorem RB.c0 {S : Nat → Prop} {w : World} {R B : Nat} {n l : Int} {s : St} (h : RB S w R B n l s) : w.cell? ⟨R, 0, none⟩ = some (.pointer (some ⟨B, 0, none⟩)) := blk_cell' h.1 rfl
theorem RB.c1 {S : Nat → Prop} {w : World} {R B : Nat} {n l : Int} {s : St} (h : RB S w R B n l s) : w.cell? ⟨R, 1, none⟩ = some (.int .i64 n) := blk_cell' h.1 rfl
theorem RB.c2 {S : Nat → Prop} {w : World} {R B : Nat} {n l : Int} {s : St} (h : RB S w R B n l s) : w.cell? ⟨R, 2, none⟩ = some (.int .i64 l) := blk_cell' h.1 rfl
theorem RB.only {S : Nat → Prop} {w w' : World} {R B : Nat} {n l : Int} {s : St} (h : RB S w R B n l s) (hb : Below w.heap.size w w') : ∃ S', RB S' w' R B n l s ∧ (∀ b, w'.heap.size ≤ b → S' b) ∧ (∀ b, S' b → S b ∨ w'.heap.size ≤ b) ∧ (∀ b, w.heap.size ≤ b → b < w'.heap.size → ¬ S' b) := by
  obtain ⟨h1, h2, Fp, h3, h4, h5⟩ := id h
  have hR := blk_lt h1
  refine ⟨ofRun R Fp w'.heap.size, ⟨(hb.block _ hR).trans h1, .inl rfl, Fp, h3.turn (S := fun _ => False) (Turn.of_below hb) (fun _ _ h => h), h4, fun b hb => .inr (.inl hb)⟩, fun b hb => .inr (.inr hb), fun b hb => ?_, fun b hb1 hb2 hs => ?_⟩
  · rcases hb with rfl | hb | hb
    · exact .inl h2
    · exact .inl (h5 b hb)
    · exact .inr hb
  · rcases hs with rfl | hs | hs
    · omega
    · have := h3.lt hs; omega
    · omega
/-- Behind a call that has made t of the book. -/
theorem rb_call {S : Nat → Prop} {w w' : World} {R B : Nat} {n l : Int} {t : St} {Fp : Nat → Prop} (h1 : w.heap[R]? = some (.cells #[.pointer (some ⟨B, 0, none⟩), .int .i64 n, .int .i64 l] 29 (0, 0))) (h2 : S R) (h4 : ¬ Fp R) (h5 : ∀ b, Fp b → S b) (hS : ∀ b, w.heap.size ≤ b → S b) (q : ∃ Fp', ProgIs w' B t Fp' ∧ Turn Fp w w' ∧ ∀ b, Fp' b → Fp b ∨ w.heap.size ≤ b) : RB S w' R B n l t ∧ Turn S w w' := by
  obtain ⟨Fp', q1, q2, q3⟩ := q
  have hR := blk_lt h1
  exact ⟨⟨q2.blk h1 h4, h2, Fp', q1, fun h => (q3 R h).elim h4 (fun h => by omega), fun b hb => (q3 b hb).elim (h5 b) (hS b)⟩, q2.mono (fun b _ hb => h5 b hb)⟩
theorem rb_post {S : Nat → Prop} {W : World} {R B : Nat} {n l : Int} {s : St} (h : RB S W R B n l s) (hS : ∀ b, W.heap.size ≤ b → S b) (ho : s.Ok) (day : Int) (lad : Option Addr) (k cap : Nat) (ya : Nat → ByteArray) (ym : Nat → Int) (hL : LinesV W lad k cap ya ym) : Calls Tryz.prog 18 #[.pointer (some ⟨B, 0, none⟩), .int .i64 day, .slice lad k cap] W fun r w' => r = .returned (.tuple #[.int .i64 (s.postN day ya ym k), .int .i64 (s.postE day ya ym k)]) ∧ RB S w' R B n l (s.afterPost day ya ym k) ∧ Turn S W w' := by
  obtain ⟨h1, h2, Fp, h3, h4, h5⟩ := h
  refine (progPost B s Fp day lad k cap ya ym W h3 ho hL).mono ?_
  rintro r w' ⟨rfl, q⟩
  exact ⟨rfl, rb_call h1 h2 h4 h5 hS q⟩
theorem rb_rev {S : Nat → Prop} {W : World} {R B : Nat} {n l : Int} {s : St} (h : RB S W R B n l s) (hS : ∀ b, W.heap.size ≤ b → S b) (ho : s.Ok) (e : Int) : Calls Tryz.prog 20 #[.pointer (some ⟨B, 0, none⟩), .int .i64 e] W fun r w' => r = .returned (.tuple #[.int .i64 (s.revN e), .int .i64 (s.revE e)]) ∧ RB S w' R B n l (s.afterRev e) ∧ Turn S W w' := by
  obtain ⟨h1, h2, Fp, h3, h4, h5⟩ := h
  refine (progRev B s Fp e W h3 ho).mono ?_
  rintro r w' ⟨rfl, q⟩
  exact ⟨rfl, rb_call h1 h2 h4 h5 hS q⟩
theorem rb_lock {S : Nat → Prop} {W : World} {R B : Nat} {n l : Int} {s : St} (h : RB S W R B n l s) (hS : ∀ b, W.heap.size ≤ b → S b) (ho : s.Ok) (day : Int) : Calls Tryz.prog 22 #[.pointer (some ⟨B, 0, none⟩), .int .i64 day] W fun r w' => r = .returned (.int .i64 (s.lockE day)) ∧ RB S w' R B n l (s.afterLock day) ∧ Turn S W w' := by
  obtain ⟨h1, h2, Fp, h3, h4, h5⟩ := h
  refine (progLock B s Fp day W h3 ho).mono ?_
  rintro r w' ⟨rfl, q⟩
  exact ⟨rfl, rb_call h1 h2 h4 h5 hS q⟩
theorem rb_close {S : Nat → Prop} {W : World} {R B : Nat} {n l : Int} {s : St} (h : RB S W R B n l s) (hS : ∀ b, W.heap.size ≤ b → S b) (ho : s.Ok) (day : Int) (into : ByteArray) : Calls Tryz.prog 21 #[.pointer (some ⟨B, 0, none⟩), .int .i64 day, .string into] W fun r w' => r = .returned (.tuple #[.int .i64 (s.closeN day into), .int .i64 (s.closeE day into)]) ∧ RB S w' R B n l (s.afterClose day into) ∧ Turn S W w' := by
  obtain ⟨h1, h2, Fp, h3, h4, h5⟩ := h
  refine (progClose B s Fp day into W h3 ho).mono ?_
  rintro r w' ⟨rfl, q⟩
  exact ⟨rfl, rb_call h1 h2 h4 h5 hS q⟩
theorem rb_table {S : Nat → Prop} {R B : Nat} {n l : Int} {s : St} (known : Int) (w : World) (h : RB S w R B n l s) (hk : KOk s) (k0 : 0 ≤ known) (k1 : known ≤ s.ne) :
    Calls Tryz.prog 11 #[.pointer (some ⟨R, 0, none⟩), .int .i64 known] w fun r w' => ∃ g c, r = .returned (.tuple #[.slice (some ⟨g, 0, none⟩) 78 c, .bool true]) ∧ Hid (w.heap.size ≤ g ∧ TabAt w' g (tabF s known) ∧ RB S w' R B n l s ∧ Below w.heap.size w w') := by
  obtain ⟨h1, h2, Fp, h3, h4, h5⟩ := id h
  refine (table_b R B s Fp known w h.c0 h3 hk k0 k1).mono ?_
  rintro r w' ⟨v, rfl, ho, hb⟩
  rcases ho.2 with ⟨_, h0⟩ | ⟨g, cap, cur, rfl, hg, hc, hr⟩
  · exact absurd h0 (by decide)
  · refine ⟨g, cap, rfl, hg, fun j hj => ?_, h.mv hb, hb⟩
    rw [ho.cellAt j (by omega)]
    unfold tabL
    rw [List.getElem?_map, List.getElem?_range hj]
    rfl
theorem rb_bal {S : Nat → Prop} {W : World} {R B : Nat} {n l : Int} {s : St} (h : RB S W R B n l s) (ho : s.Ok) (name : ByteArray) (day known : Int) : Calls Tryz.prog 16 #[.pointer (some ⟨B, 0, none⟩), .string name, .int .i64 day, .int .i64 known] W fun r w' => r = .returned (.tuple #[.int .i64 (s.bal name day known), .int .i64 (s.balE name day known)]) ∧ Below W.heap.size W w' := by
  obtain ⟨h1, h2, Fp, h3, h4, h5⟩ := h
  exact progBal B s Fp name day known W h3 ho
theorem rb_trial {S : Nat → Prop} {W : World} {R B : Nat} {n l : Int} {s : St} (h : RB S W R B n l s) (ho : s.Ok) (day known : Int) : Calls Tryz.prog 14 #[.pointer (some ⟨B, 0, none⟩), .int .i64 day, .int .i64 known] W fun r w' => ∃ v, r = .returned (.tuple #[v, .int .i64 (s.trialE day known)]) ∧ w'.ownsRow W.heap.size 47 2 v (s.trial day known).length (cells2 (s.trial day known)) ∧ Below W.heap.size W w' := by
  obtain ⟨h1, h2, Fp, h3, h4, h5⟩ := h
  exact progTrial B s Fp day known W h3 ho
/-- A run, with its book. -/
theorem run_rb (w0 w : World) (ad : Option Addr) (n cap : Nat) (qs : Nat → K5) (hS : StepsV w0 ad n qs) (h0 : Below w0.heap.size w0 w) :
    Calls Tryz.prog 9 #[.slice ad n cap] w fun r w' => ∃ R B, r = .returned (.pointer (some ⟨R, 0, none⟩)) ∧ w'.cell? ⟨R, 0, none⟩ = some (.pointer (some ⟨B, 0, none⟩)) ∧ w'.cell? ⟨R, 1, none⟩ = some (.int .i64 (krun qs (lim n 40)).ne) ∧ w'.cell? ⟨R, 2, none⟩ = some (.int .i64 (krun qs (lim n 40)).lk) ∧ Hid (RB (fun b => w0.heap.size ≤ b) w' R B (krun qs (lim n 40)).ne (krun qs (lim n 40)).lk (krun qs (lim n 40)) ∧ Below w0.heap.size w0 w') := by
  refine (run_at w0 w ad n cap qs hS h0).mono ?_
  rintro r w' ⟨R, rfl, hr⟩
  obtain ⟨B, hB⟩ := hr.out.1.rb
  exact ⟨R, B, rfl, hB.c0, hB.c1, hB.c2, hB, hr.out.2⟩
end Go.Proofs.YtjnmoddcodnadaaGreat
namespace Go.Annal
open Go.Proofs.YtjnmoddcodnadaaGreat
theorem tab_locked {s t : St} (h : s.Le t) {d : Int} (hd : d ≤ s.lk) {j : Nat} (hj : ((j % 13 : Nat) : Int) ≤ d) : tabF t t.ne j = tabF s s.ne j := by
  unfold tabF
  rw [Int.toNat_natCast, Int.toNat_natCast]
  exact St.locked_le h _ (by omega)
/-- What a closing makes of a small book that is not locked there. -/
theorem KOk.shuts {s t : St} (h : KOk s) {d : Int} (d0 : 0 ≤ d) (d1 : d ≤ 11) (hl : ¬ d ≤ s.lk) {i : Nat} (hi : i < 3) (hn : s.ne < 60) (ht : s.afterClose d (nmK i) = t) :
    (s.closeE d (nmK i) = 7 ∧ s.closeN d (nmK i) = 0 ∧ t = s) ∨ (s.closeE d (nmK i) = 0 ∧ s.closeN d (nmK i) = (s.ne : Int) + 1 ∧ KOk t ∧ t.ne = s.ne + 1 ∧ t.lk = d ∧ ∀ j, 3 ≤ j → j < 6 → tabF t t.ne (j * 13 + d.toNat) = 0) := by
  have hpe := h.closeE (day := d) (i := i) d0 (by omega) hi hn
  rw [if_neg hl] at hpe
  cases hz : (s.closeL0 d).isEmpty
  · have e0 : s.closeE d (nmK i) = 0 := by rw [hpe, hz]; rfl
    have hk := (h.close d1 (nmK i)).1
    rw [ht] at hk
    refine .inr ⟨e0, by unfold St.closeN; rw [if_pos e0], hk, ?_⟩
    have ha : t = s.closed d (nmK i) := by rw [← ht]; unfold St.afterClose; rw [if_pos e0]
    subst ha
    refine ⟨rfl, rfl, fun j h3 h6 => ?_⟩
    have := h.shut (day := d) (into := i) hi h3 h6
    unfold tabF
    rw [show (j * 13 + d.toNat) / 13 = j by omega, show (((j * 13 + d.toNat) % 13 : Nat) : Int) = d by omega, Int.toNat_natCast]
    exact this
  · have e7 : s.closeE d (nmK i) = 7 := by rw [hpe, hz]; rfl
    refine .inl ⟨e7, ?_, ?_⟩
    · unfold St.closeN; rw [e7]; rfl
    · rw [← ht]; unfold St.afterClose; rw [e7]; rfl
theorem KOk.locks {s t : St} (h : KOk s) {d : Int} (d0 : 0 ≤ d) (d1 : d ≤ 11) (hl : ¬ d ≤ s.lk) (ht : s.afterLock d = t) : s.lockE d = 0 ∧ KOk t ∧ t.ne = s.ne ∧ t.lk = d := by
  have he : s.lockE d = 0 := by rw [h.lockE d0 (by omega), if_neg hl]
  have hk := (h.lock d1).1
  rw [ht] at hk
  refine ⟨he, hk, ?_⟩
  rw [← ht]
  unfold St.afterLock
  rw [if_pos he]
  exact ⟨rfl, rfl⟩
end Go.Annal
namespace Go.Proofs.YtjnmoddcodnadaaGreat
open Go.RowKit Go.Annal Go.Sort
theorem RB.blk {S : Nat → Prop} {w : World} {R B : Nat} {n l : Int} {s : St} (h : RB S w R B n l s) : w.heap[R]? = some (.cells #[.pointer (some ⟨B, 0, none⟩), .int .i64 n, .int .i64 l] 29 (0, 0)) := h.1
theorem RB.set1 {S : Nat → Prop} {w : World} {R B : Nat} {n l : Int} {s : St} (h : RB S w R B n l s) (n' : Int) : RB S (w.setCell ⟨R, 1, none⟩ (.int .i64 n')) R B n' l s ∧ Turn S w (w.setCell ⟨R, 1, none⟩ (.int .i64 n')) := by
  obtain ⟨h1, h2, Fp, h3, h4, h5⟩ := h
  have ht : Turn (fun b => b = R) w (w.setCell ⟨R, 1, none⟩ (.int .i64 n')) := (Turn.refl (fun b => b = R) w).set ⟨R, 1, none⟩ (.int .i64 n') (fun _ => rfl)
  exact ⟨⟨blk_set h1 1 _, h2, Fp, h3.turn ht (fun b hb e => h4 (e ▸ hb)), h4, h5⟩, ht.mono (fun b _ e => e ▸ h2)⟩
theorem RB.set2 {S : Nat → Prop} {w : World} {R B : Nat} {n l : Int} {s : St} (h : RB S w R B n l s) (l' : Int) : RB S (w.setCell ⟨R, 2, none⟩ (.int .i64 l')) R B n l' s ∧ Turn S w (w.setCell ⟨R, 2, none⟩ (.int .i64 l')) := by
  obtain ⟨h1, h2, Fp, h3, h4, h5⟩ := h
  have ht : Turn (fun b => b = R) w (w.setCell ⟨R, 2, none⟩ (.int .i64 l')) := (Turn.refl (fun b => b = R) w).set ⟨R, 2, none⟩ (.int .i64 l') (fun _ => rfl)
  exact ⟨⟨blk_set h1 2 _, h2, Fp, h3.turn ht (fun b hb e => h4 (e ▸ hb)), h4, h5⟩, ht.mono (fun b _ e => e ▸ h2)⟩
end Go.Proofs.YtjnmoddcodnadaaGreat
namespace Go.Proofs.YtjnmoddcodnadaaGreat
open Go.RowKit Go.Annal Go.Sort
set_option maxHeartbeats 4000000 in
set_option maxRecDepth 100000 in
theorem shut_b (ad : Option Addr) (n cap : Nat) (qs : Nat → K5) (ad' : Option Addr) (n' cap' : Nat) (ms : Nat → K5) (day into : Int) (shuts : Bool) (w : World) (hS : StepsV w ad n qs) (hM : StepsV w ad' n' ms) (d1 : -9223372036854775808 ≤ day) (d2 : day ≤ 9223372036854775807) (k1 : -9223372036854775808 ≤ into) (k2 : into ≤ 9223372036854775807) (hB : (¬ pickI day 12 ≤ (krun qs (lim n 40)).lk ∧ shuts = true ∧ (krun qs (lim n 40)).closeE (pickI day 12) (nmK (pickI into 3).toNat) = 0)) :
    Calls Tryz.prog 7 #[.slice ad n cap, .slice ad' n' cap', .int .i64 day, .int .i64 into, .bool shuts] w fun r w' => r = .returned (.bool true) ∧ Below w.heap.size w w' := by
  have CC : Hid (∀ W, Below w.heap.size w W → _) := fun W hW => changed_at w W hW
  have CR : Hid (∀ W, Below w.heap.size w W → _) := fun W hW => run_rb w W ad n cap qs hS hW
  have CN : Hid (∀ W, _) := fun W => namesK_any W
  obtain ⟨hk, hne⟩ := run_small qs n
  obtain ⟨s, hs⟩ : ∃ s, krun qs (lim n 40) = s := ⟨_, rfl⟩
  rw [hs] at hk hne CR hB
  have HM : Hid (type_of% hM) := hM
  clear hs hS hM
  have hlk := hk.lk
  have hlk0 := hk.ok.lk.1
  have hdn := pickI_bd day 12 (by decide)
  obtain ⟨d, hdd⟩ : ∃ d, pickI day 12 = d := ⟨_, rfl⟩
  rw [hdd] at hdn hB
  have CP : Hid (∀ W, Calls Tryz.prog 10 #[.int .i64 day, .int .i64 12] W fun r w' => r = .returned (.int .i64 d) ∧ w' = W) := fun W => by
    have := pickK_any day 12 W d1 d2 (by decide) (by decide)
    rw [hdd] at this; exact this
  have hin := pickI_bd into 3 (by decide)
  obtain ⟨i, hii⟩ : ∃ i : Nat, pickI into 3 = i := ⟨(pickI into 3).toNat, by omega⟩
  rw [hii] at hin
  rw [hii, Int.toNat_natCast] at hB
  have CQ : Hid (∀ W, Calls Tryz.prog 10 #[.int .i64 into, .int .i64 3] W fun r w' => r = .returned (.int .i64 i) ∧ w' = W) := fun W => by
    have := pickK_any into 3 W k1 k2 (by decide) (by decide)
    rw [hii] at this; exact this
  clear hii hdd
  have hi0 : (0 : Int) ≤ (i : Int) := by omega
  have hi6 : (i : Int) < 6 := by omega
  have cellN : ∀ {Wx w2 : World}, w2 = Wx.alloc (.cells nmCells 9) → w2.cell? ⟨Wx.heap.size, i, none⟩ = some (.string (nmK i)) := fun {Wx w2} e => by
    rw [e]; exact blk_cell' (heap_alloc_new Wx _) (nmCells_get i (by omega))
  obtain ⟨t, ht⟩ : ∃ t, s.afterClose d (nmK i) = t := ⟨_, rfl⟩
  obtain ⟨u, hu⟩ : ∃ u, s.afterLock d = u := ⟨_, rfl⟩
  have HX : Hid (∀ W2 R B, RB (fun b => w.heap.size ≤ b) W2 R B s.ne s.lk s → Below w.heap.size w W2 → Calls Tryz.prog 21 #[.pointer (some ⟨B, 0, none⟩), .int .i64 d, .string (nmK i)] W2 fun r w' => r = .returned (.tuple #[.int .i64 (s.closeN d (nmK i)), .int .i64 (s.closeE d (nmK i))]) ∧ Hid (RB (fun b => w.heap.size ≤ b) w' R B s.ne s.lk t ∧ Below w.heap.size w w')) := fun W2 R B hr hW => by
    refine (rb_close hr (fun b hb => Nat.le_trans hW.size hb) hk.ok d (nmK i)).mono ?_
    rintro r w' ⟨rfl, q1, q2⟩
    rw [ht] at q1
    exact ⟨rfl, q1, turn_below hW q2 (fun _ h => h)⟩
  have HY : Hid (∀ W2 R B, RB (fun b => w.heap.size ≤ b) W2 R B s.ne s.lk s → Below w.heap.size w W2 → Calls Tryz.prog 22 #[.pointer (some ⟨B, 0, none⟩), .int .i64 d] W2 fun r w' => r = .returned (.int .i64 (s.lockE d)) ∧ Hid (RB (fun b => w.heap.size ≤ b) w' R B s.ne s.lk u ∧ Below w.heap.size w w')) := fun W2 R B hr hW => by
    refine (rb_lock hr (fun b hb => Nat.le_trans hW.size hb) hk.ok d).mono ?_
    rintro r w' ⟨rfl, q1, q2⟩
    rw [hu] at q1
    exact ⟨rfl, q1, turn_below hW q2 (fun _ h => h)⟩
  obtain ⟨d, rfl⟩ : ∃ d' : Nat, d = d' := ⟨d.toNat, by omega⟩
  have HK : Hid (type_of% hk) := hk
  obtain ⟨hl, rfl, hB3⟩ := hB
  · have hl' : s.lk < d := by omega
    obtain ⟨l0, l1, l2, l3⟩ := hk.locks hdn.1 (by omega) hl hu
    rw [l0] at HY
    · obtain ⟨e1, e2, e3⟩ | ⟨e1, e2, e3, e4, e5, e6⟩ := hk.shuts hdn.1 (by omega) hl (show i < 3 by omega) (by omega) ht
      · rw [hB3] at e1; exact absurd e1 (by decide)
      · rw [e1, e2] at HX
        have HCL : Hid (KOk t ∧ t.ne = s.ne + 1 ∧ t.lk = (d : Int) ∧ (∀ j, 3 ≤ j → j < 6 → tabF t t.ne (j * 13 + d) = 0)) := ⟨e3, e4, e5, fun j h3 h6 => by have := e6 j h3 h6; rwa [Int.toNat_natCast] at this⟩
        clear l0 l1 l2 l3 e3 e4 e5 e6
        go_enter Tryz.func7, Tryz.ntmps7
        go_wp2_with (first
          | (go_at_call 8; with_reducible refine Calls.mono (CC.out _ ?_) ?_; (exact Below.refl _ _); rintro e w1 ⟨rfl, hb1⟩)
          | (go_at_call 9; with_reducible refine Calls.mono (CR.out _ hb1) ?_; rintro e w2 ⟨R, B, rfl, rB, rN, rL, h2⟩)
          | (go_at_call 10; with_reducible refine Calls.mono (CP.out _) ?_; rintro e wx ⟨rfl, hw⟩; rw [hw]; clear hw wx))
        go_region_with (first
          | (go_at_call 10; with_reducible refine Calls.mono (CQ.out _) ?_; rintro e wx ⟨rfl, hw⟩; rw [hw]; clear hw wx)
          | (go_at_call 15; with_reducible refine Calls.mono (CN.out _) ?_; rintro e w3 ⟨rfl, hw3⟩; have hb3 : Grew w2 w3 := (by rw [hw3]; first | exact ((Grew.refl w2).drew).alloc _ | exact (Grew.refl w2).alloc _); have cN := cellN hw3; (try rw [show w2.drew.heap.size = w2.heap.size from rfl] at cN); have rB3 : w3.cell? ⟨R, 0, none⟩ = some (.pointer (some ⟨B, 0, none⟩)) := hb3.cell' rB; clear hw3)
          | (go_at_call 21; with_reducible refine Calls.mono (HX.out _ R B ?_ ?_) ?_; (first | exact h2.out.1.mv hb3.below | exact h2.out.1.mv hb3.drew.below); (first | exact h2.out.2.trans (hb3.below.mono h2.out.2.size) | exact h2.out.2.trans (hb3.drew.below.mono h2.out.2.size)); rintro e w4 ⟨rfl, h4⟩; have y0 := h4.out.1.c0; have y1 := h4.out.1.c1; have y2 := h4.out.1.c2; have v1 := blk_free h4.out.1.blk 1; have v2 := blk_free h4.out.1.blk 2))
        all_goals
          go_wp2_with fail
          obtain ⟨wz, hwz⟩ : ∃ wz, (w4.setCell ⟨R, 1, none⟩ (.int .i64 ((s.ne : Int) + 1))).setCell ⟨R, 2, none⟩ (.int .i64 (d : Int)) = wz := ⟨_, rfl⟩
          have HT : Hid (RunAt (fun b => w.heap.size ≤ b) wz R t ∧ KOk t ∧ Below w.heap.size w wz ∧ t.ne ≤ 41 ∧ (d : Int) ≤ t.lk ∧ (∀ j, 3 ≤ j → j < 6 → tabF t t.ne (j * 13 + d) = 0)) := by
            have h6 := h4.out.1.set1 ((s.ne : Int) + 1)
            have h7 := h6.1.set2 (d : Int)
            rw [hwz] at h7
            refine ⟨RB.run (B := B) ?_, HCL.out.1, turn_below (turn_below h4.out.2 h6.2 (fun _ h => h)) h7.2 (fun _ h => h), by rw [HCL.out.2.1]; omega, by rw [HCL.out.2.2.1]; omega, HCL.out.2.2.2⟩
            rw [HCL.out.2.1, HCL.out.2.2.1]; exact h7.1
          have hse : (s.ne : Int) + 1 = (t.ne : Int) := by rw [HCL.out.2.1]; omega
          rw [hwz, hse]
          clear hwz y0 y1 y2 v1 v2 h4 rB rN rL h2 HX HY hlk hlk0
          have hTn : t.ne ≤ 41 := HT.out.2.2.2.1
          with_reducible refine Calls.mono (table_at _ R t t.ne wz HT.out.1 HT.out.2.1 ?_ ?_) ?_
          · omega
          · omega
          rintro e w3 ⟨g3, c3, rfl, h3⟩
          have rN3 := h3.out.2.2.1.n
          have HL : Hid (∃ S, (RunAt S w3 R t ∧ Turn S w3 w3) ∧ (∀ b, w3.heap.size ≤ b → S b) ∧ (∀ b, S b → w.heap.size ≤ b) ∧ ¬ S g3 ∧ TabAt w3 g3 (tabF t t.ne) ∧ Below w.heap.size w w3) := by
            obtain ⟨a1, a2, a3, a4⟩ := h3.out
            obtain ⟨b1, b2, b3, b4, b5⟩ := HT.out
            obtain ⟨S, s1, s2, s3, s4⟩ := b1.only a4
            have e2 := b3.size
            have e3 := a4.size
            exact ⟨S, ⟨s1, Turn.refl _ _⟩, s2, fun b hb' => (s3 b hb').elim id (fun h => by omega), s4 g3 a1 a2.lt, a2, b3.trans (a4.mono e2)⟩
          clear h3 CC CR CP CQ CN cellN
          go_wp2_with fail
          obtain ⟨S, hS0⟩ := HL.out
          have HS : Hid (type_of% hS0) := hS0
          clear hS0 HL rN3
          go_loopw [20, 21] (fun s20 _ wr => ∃ i : Nat, i ≤ n' ∧ i ≤ 15 ∧ s20 = .int .i64 i ∧ Hid (RunAt S wr R (kmore t ms i) ∧ Turn S w3 wr)) (fun s20 _ _ => 15 - (intOf s20).toNat)
          case atStart => exact ⟨0, by omega, by omega, rfl, HS.out.1⟩
          case round =>
            obtain ⟨i, hin, hi15, rfl, hr⟩ := hrel
            have hi0 : (0 : Int) ≤ (i : Int) := by omega
            obtain ⟨hko, hle, hmn⟩ := kmore_ok HT.out.2.1 ms i
            have HLe : Hid (type_of% hle) := hle
            have HKO : Hid (type_of% hko) := hko
            clear hle hko
            by_cases hlt : i < n' ∧ i < 15
            · have hlt1 : (i : Int) < (n' : Int) := by omega
              have hlt2 : (i : Int) < 15 := by omega
              obtain ⟨g, o, rfl, c0, c1, c2, c3, c4⟩ := HM.out.at' (by omega)
              have hb : Below w.heap.size w wr := turn_below HS.out.2.2.2.2.2 hr.out.2 HS.out.2.2.1
              have d0 := cell_later hb (c0 i hlt.1)
              have d1 := cell_later hb (c1 i hlt.1)
              have d2 := cell_later hb (c2 i hlt.1)
              have d3 := cell_later hb (c3 i hlt.1)
              have d4 := cell_later hb (c4 i hlt.1)
              have C1 : Hid (Calls Tryz.prog 12 #[.pointer (some ⟨R, 0, none⟩), .agg #[.int .i64 (ms i).kind, .int .i64 (ms i).day, .int .i64 (ms i).a, .int .i64 (ms i).b, .int .i64 (ms i).c]] wr fun r w' => r = .returned (.bool true) ∧ Hid (RunAt S w' R (kmore t ms (i + 1)) ∧ Turn S w3 w')) := by
                refine (step_at S R (kmore t ms i) (ms i) wr hr.out.1 (fun b h => HS.out.2.1 b (Nat.le_trans hr.out.2.size h)) HKO.out (by omega) (HM.out.ok i hlt.1)).mono ?_
                rintro r w' ⟨rfl, q1, q2⟩
                exact ⟨rfl, q1, hr.out.2.trans q2⟩
              clear c0 c1 c2 c3 c4 hb HM hmn HLe HKO
              go_wp2_with (go_at_call 12; with_reducible refine Calls.mono C1.out ?_; rintro e w5 ⟨rfl, h5⟩)
              exact ⟨⟨i + 1, by omega, by omega, by go_num, h5⟩, by simp [intOf]; omega⟩
            · have HQ0 : Hid (TabAt wr g3 (tabF t t.ne) ∧ Below w.heap.size w wr) := by
                obtain ⟨_, _, s3, s4, s5, s6⟩ := HS.out
                exact ⟨s5.turn hr.out.2 s4, turn_below s6 hr.out.2 s3⟩
              obtain ⟨y, hy⟩ : ∃ y, kmore t ms i = y := ⟨_, rfl⟩
              rw [hy] at hr HLe HKO hmn
              have rNu := hr.out.1.n
              have HG : Hid (∀ W5 g5, TabAt W5 g5 (tabF y y.ne) → Below wr.heap.size wr W5 → (∀ j, j < 78 → W5.cell? ⟨g3, j, none⟩ = some (.int .i64 (tabF t t.ne j))) ∧ (∀ j, j < 78 → ((j % 13 : Nat) : Int) ≤ d → W5.cell? ⟨g5, j, none⟩ = some (.int .i64 (tabF t t.ne j))) ∧ Below w.heap.size w W5) := fun W5 g5 h1 h2 =>
                ⟨fun j hj => cell_later h2 (HQ0.out.1 j hj), fun j hj hjd => by rw [h1 j hj, tab_locked HLe.out HT.out.2.2.2.2.1 hjd], HQ0.out.2.trans (h2.mono HQ0.out.2.size)⟩
              have HZ : Hid (∀ j, 3 ≤ j → j < 6 → tabF t t.ne (j * 13 + d) = 0) := HT.out.2.2.2.2.2
              have hor : ((i : Int) < (n' : Int) ∧ ¬ (i : Int) < 15) ∨ ¬ (i : Int) < (n' : Int) := by omega
              have HR : Hid (RunAt S wr R y) := hr.out.1
              clear HM HS HLe HQ0 hr hy HT HK
              obtain ⟨h1', h2'⟩ | h1' := hor
              all_goals
                go_wp2_with fail
                with_reducible refine Calls.mono (table_at S R y y.ne wr HR.out HKO.out ?_ ?_) ?_
                · omega
                · omega
                rintro e w5 ⟨g5, c5, rfl, h5⟩
                have HQ : Hid ((∀ j, j < 78 → w5.cell? ⟨g3, j, none⟩ = some (.int .i64 (tabF t t.ne j))) ∧ (∀ j, j < 78 → ((j % 13 : Nat) : Int) ≤ d → w5.cell? ⟨g5, j, none⟩ = some (.int .i64 (tabF t t.ne j))) ∧ Below w.heap.size w w5) := HG.out w5 g5 h5.out.2.1 h5.out.2.2.2
                clear HG h5 rNu HKO HR
                generalize tabF t t.ne = F at *
                go_wp2_with fail
                go_loopw [24, 25] (fun s24 _ wq => ∃ i q : Nat, i ≤ 6 ∧ s24 = .int .i64 i ∧ wq = w5.drewN q) (fun s24 _ _ => 6 - (intOf s24).toNat)
                case atStart => exact ⟨0, 0, by omega, rfl, rfl⟩
                case round =>
                  obtain ⟨i, q, hi6', rfl, rfl⟩ := hrel
                  by_cases hlt6 : i < 6
                  · have hlt6' : (i : Int) < 6 := by omega
                    have hi0' : (0 : Int) ≤ (i : Int) := by omega
                    go_wp2
                    go_loopw [25] (fun s25 wq => ∃ k q : Nat, k ≤ d + 1 ∧ s25 = .int .i64 k ∧ wq = w5.drewN q) (fun s25 _ => d + 1 - (intOf s25).toNat)
                    case atStart => exact ⟨0, q, by omega, rfl, rfl⟩
                    case round =>
                      obtain ⟨k, q', hkd, rfl, rfl⟩ := hrel
                      by_cases hkl : k ≤ d
                      · have hkl' : (k : Int) ≤ (d : Int) := by omega
                        have hk0' : (0 : Int) ≤ (k : Int) := by omega
                        obtain ⟨m, hm⟩ : ∃ m : Nat, m = i * 13 + k := ⟨_, rfl⟩
                        have hx : (i : Int) * 13 + (k : Int) = (m : Int) := by omega
                        have hm78 : (m : Int) < 78 := by omega
                        have hm0 : (0 : Int) ≤ (m : Int) := by omega
                        have ca := HQ.out.1 m (by omega)
                        have cb := HQ.out.2.1 m (by omega) (by omega)
                        clear hm
                        generalize F m = A at *
                        go_wp2
                        go_quiet (fail)
                        go_wp2
                        exact ⟨⟨k + 1, q' + nq, by omega, by go_num, rfl⟩, by simp [intOf]; omega⟩
                      · have hkl' : ¬ (k : Int) ≤ (d : Int) := by omega
                        clear hkd
                        by_cases hi2 : i > 2
                        · have hi2' : (i : Int) > 2 := by omega
                          obtain ⟨m, hm⟩ : ∃ m : Nat, m = i * 13 + d := ⟨_, rfl⟩
                          have hx : (i : Int) * 13 + (d : Int) = (m : Int) := by omega
                          have hm78 : (m : Int) < 78 := by omega
                          have hm0 : (0 : Int) ≤ (m : Int) := by omega
                          have ca := HQ.out.1 m (by omega)
                          have hz : F m = 0 := by rw [hm]; exact HZ.out i (by omega) hlt6
                          rw [hz] at ca
                          clear hm hz
                          go_wp2
                          exact ⟨⟨i + 1, q', by omega, by go_num, rfl⟩, by simp [intOf]; omega⟩
                        · have hi2' : ¬ (i : Int) > 2 := by omega
                          go_wp2
                          exact ⟨⟨i + 1, q', by omega, by go_num, rfl⟩, by simp [intOf]; omega⟩
                  · have hlt6' : ¬ (i : Int) < 6 := by omega
                    go_wp2
                    go_ret
                    exact ⟨rfl, HQ.out.2.2.trans ((below_drewN w5 q).mono HQ.out.2.2.size)⟩
end Go.Proofs.YtjnmoddcodnadaaGreat
