import Derived.Test.YtjnmoddcodnadaaGreatG25
import Derived.Test.YtjnmoddcodnadaaGreatG27
import Derived.KernelRfl
import Derived.Test.YtjnmoddcodnadaaGreatG28
import Derived.Test.YtjnmoddcodnadaaGreatG29
import Derived.Test.YtjnmoddcodnadaaGreatRows
import Derived.WalkKit
import Derived.ProofKit
import Derived.OpenShut
import Derived.Carry
import Derived.Deep.Slices
set_option linter.unusedVariables false
set_option linter.unusedSimpArgs false
namespace Go.Annal
open Go.Proofs.YtjnmoddcodnadaaGreat
/-- The j-th of all balances: by names, then by days. -/
def tabF (s : St) (known : Int) (j : Nat) : Int := enS s.dy s.la s.lm (nmK (j / 13)) ((j % 13 : Nat) : Int) s.ln known.toNat
def tabL (s : St) (known : Int) (n : Nat) : List Value := (List.range n).map (fun j => .int .i64 (tabF s known j))
theorem tabL_snoc (s : St) (known : Int) (n : Nat) : tabL s known (n + 1) = tabL s known n ++ [.int .i64 (tabF s known n)] := by
  unfold tabL; rw [List.range_succ, List.map_append]; rfl
theorem KOk.bal {s : St} (h : KOk s) {known : Int} (k0 : 0 ≤ known) (k1 : known ≤ s.ne) {i d : Nat} (hi : i < 6) (hd : d ≤ 12) : s.balE (nmK i) d known = 0 ∧ s.bal (nmK i) d known = tabF s known (i * 13 + d) := by
  have he : s.balE (nmK i) d known = 0 := by
    unfold St.balE
    rw [h.there hi]
    have h1 : dayB (d : Int) = true := by unfold dayB; simp; omega
    have h2 : knownB known s.ne = true := by unfold knownB; simp; omega
    rw [h1, h2]; rfl
  refine ⟨he, ?_⟩
  unfold St.bal okOr
  rw [if_pos he]
  unfold tabF
  rw [show (i * 13 + d) / 13 = i by omega, show (i * 13 + d) % 13 = d by omega]
end Go.Annal
namespace Go.Proofs.YtjnmoddcodnadaaGreat
open Go.RowKit Go.Annal Go.Sort
theorem Tryz.infoInt : (Tryz.prog.info? 3).map (fun i => (i.zero, i.size, i.bytes)) = some (some (.int .i64 0), 1, 8) := by kernel_rfl
set_option maxHeartbeats 4000000 in
set_option maxRecDepth 100000 in
theorem table_b (R B : Nat) (s : St) (Fp : Nat → Prop) (known : Int) (w : World) (rB : w.cell? ⟨R, 0, none⟩ = some (.pointer (some ⟨B, 0, none⟩))) (pg : ProgIs w B s Fp) (hk : KOk s) (k0 : 0 ≤ known) (k1 : known ≤ s.ne) :
    Calls Tryz.prog 11 #[.pointer (some ⟨R, 0, none⟩), .int .i64 known] w fun r w' => ∃ v, r = .returned (.tuple #[v, .bool true]) ∧ Hid (w'.ownsRow w.heap.size 3 1 v 78 (tabL s known 78) ∧ Below w.heap.size w w') := by
  obtain ⟨i0, hi, hz0, hz1, hz2⟩ := info_parts Tryz.infoInt
  have CN : Hid (∀ W, _) := fun W => namesK_any W
  have HB : Hid (∀ (i d : Nat) W, i < 6 → d ≤ 12 → Below w.heap.size w W → Calls Tryz.prog 16 #[.pointer (some ⟨B, 0, none⟩), .string (nmK i), .int .i64 d, .int .i64 known] W fun r w' => r = .returned (.tuple #[.int .i64 (tabF s known (i * 13 + d)), .int .i64 0]) ∧ Below W.heap.size W w') := fun i d W hi hd hW => by
    have := progBal B s Fp (nmK i) d known W (pg.turn (S := fun _ => False) (Turn.of_below hW) (fun _ _ h => h)) hk.ok
    rw [(hk.bal k0 k1 hi hd).1, (hk.bal k0 k1 hi hd).2] at this
    exact this
  clear pg hk
  go_enter Tryz.func11, Tryz.ntmps11
  go_wp2_with (go_at_call 15; refine Calls.mono (CN.out _) ?_; rintro e w1 ⟨rfl, hw1⟩)
  have hg1 : Grew w w1 := by rw [hw1]; exact (Grew.refl _).alloc _
  have hb1 := hg1.below
  have hN1 : w1.heap[w.heap.size]? = some (.cells nmCells 9 (0, 0)) := by rw [hw1]; exact heap_alloc_new w _
  have hs1 : w1.heap.size = w.heap.size + 1 := by rw [hw1, World.size_alloc]
  have rB1 := hg1.cell' rB
  rw [← hw1]
  clear hw1
  have HW : Hid (∀ wr, Below w1.heap.size w1 wr → Below w.heap.size w wr ∧ wr.cell? ⟨R, 0, none⟩ = some (.pointer (some ⟨B, 0, none⟩)) ∧ ∀ i, i < 6 → wr.cell? ⟨w.heap.size, i, none⟩ = some (.string (nmK i))) := fun wr hb => ⟨hb1.trans (hb.mono hb1.size), cell_later hb rB1, fun i hi => blk_cell' ((hb.block _ (blk_lt hN1)).trans hN1) (nmCells_get i hi)⟩
  clear rB1 hN1 CN
  go_loopw [6, 8, 9, 10, 11, 12] (fun s6 s8 s9 _ _ _ wr => ∃ i : Nat, i ≤ 6 ∧ s9 = .int .i64 i ∧ s8 = .bool true ∧ Hid (wr.ownsRow w1.heap.size 3 1 s6 (i * 13) (tabL s known (i * 13))) ∧ Hid (Below w1.heap.size w1 wr)) (fun _ _ s9 _ _ _ _ => 6 - (intOf s9).toNat)
  case atStart => exact ⟨0, by omega, rfl, rfl, ⟨rfl, .inl ⟨rfl, rfl⟩⟩, Below.refl _ _⟩
  case round =>
    obtain ⟨i, hi6, rfl, rfl, ho, hb⟩ := hrel
    by_cases hlt : i < 6
    · have hlt' : (i : Int) < 6 := by omega
      have hi0 : (0 : Int) ≤ (i : Int) := by omega
      go_wp2
      go_loopw [6, 8, 10, 11, 12] (fun s6 s8 s10 _ _ wr => ∃ d : Nat, d ≤ 13 ∧ s10 = .int .i64 d ∧ s8 = .bool true ∧ Hid (wr.ownsRow w1.heap.size 3 1 s6 (i * 13 + d) (tabL s known (i * 13 + d))) ∧ Hid (Below w1.heap.size w1 wr)) (fun _ _ s10 _ _ _ => 13 - (intOf s10).toNat)
      case atStart => exact ⟨0, by omega, rfl, rfl, ho, hb⟩
      case round =>
        clear ho hb
        obtain ⟨d, hd13, rfl, rfl, ho, hb⟩ := hrel
        by_cases hdl : d < 13
        · have hdl' : (d : Int) ≤ 12 := by omega
          obtain ⟨hbw, cR, cN⟩ := HW.out _ hb.out
          have cN' := cN i hlt
          have CB : Hid (∀ W, Below w.heap.size w W → _) := fun W hW => HB.out i d W hlt (by omega) hW
          have hsz := hb.out.size
          clear cN
          go_wp2
          go_region_with (go_at_call 16; refine Calls.mono (CB.out _ hbw.drew) ?_; rintro e w3 ⟨rfl, hb3⟩; have hb13 : Below w1.heap.size w1 w3 := hb.out.trans ((below_drew hb3).mono hsz); have ho3 := owns_mv ho.out (below_drew hb3))
          all_goals go_wp2_with (at_builtin; go_loud (refine wpList_append_src rfl _ _ 30 rfl w1.heap.size 3 i0 _ 1 8 Tryz.underlying30 hi hz0 hz1 hz2 rfl (by decide) _ _ _ rfl (ho3.alloc _) _ 1 [.int .i64 (tabF s known (i * 13 + d))] rfl (src_new1 _ _ _) (by simp [Value.oneCell']) (by unfold maxLen; omega) (by omega) (by have := hb13.size; simp; omega) ?_); intro v4 w4 ho4 hg4; go_loud (have hb14 := (hb13.alloc hb13.size (.cells #[.int .i64 (tabF s known (i * 13 + d))] 3)).grown hg4 (by have := hb13.size; simp; omega) (fun x hx => (ho3.lt x hx).1)))
          all_goals exact ⟨⟨d + 1, by omega, by go_num, rfl, by rw [← Nat.add_assoc, tabL_snoc]; exact ho4, hb14⟩, by simp [intOf]; omega⟩
        · have hdl' : ¬ (d : Int) ≤ 12 := by omega
          obtain rfl : d = 13 := by omega
          go_wp2
          exact ⟨⟨i + 1, by omega, by go_num, rfl, by rw [show (i + 1) * 13 = i * 13 + 13 by omega]; exact ho, hb⟩, by simp [intOf]; omega⟩
    · have hlt' : ¬ (i : Int) < 6 := by omega
      obtain rfl : i = 6 := by omega
      go_wp2
      go_ret2
      exact ⟨_, rfl, owns_le ho.out (by omega), (HW.out _ hb.out).1⟩
theorem table_any (R B : Nat) (s : St) (Fp : Nat → Prop) (known : Int) (w : World) (h : RunIs w R B s Fp) (hk : KOk s) (k0 : 0 ≤ known) (k1 : known ≤ s.ne) :
    Calls Tryz.prog 11 #[.pointer (some ⟨R, 0, none⟩), .int .i64 known] w fun r w' => ∃ v, r = .returned (.tuple #[v, .bool true]) ∧ Hid (w'.ownsRow w.heap.size 3 1 v 78 (tabL s known 78) ∧ Below w.heap.size w w') :=
  table_b R B s Fp known w (blk_cell' h.rn rfl) h.pg hk k0 k1
end Go.Proofs.YtjnmoddcodnadaaGreat
namespace Go.Annal
open Go.Proofs.YtjnmoddcodnadaaGreat
/-- A book behind n steps. -/
def krun (qs : Nat → K5) : Nat → St
  | 0 => kn 6
  | n + 1 => (krun qs n).kstep (qs n)
theorem krun_ok (qs : Nat → K5) : ∀ n, KOk (krun qs n) ∧ (krun qs n).ne ≤ n
  | 0 => ⟨kn_kok, by rw [show krun qs 0 = kn 6 from rfl, (kn_is 6 (by omega)).1.ne]; exact Nat.le_refl _⟩
  | n + 1 => by
    obtain ⟨h1, h2⟩ := krun_ok qs n
    have := h1.step (qs n)
    exact ⟨this.1, by have := this.2.2; show ((krun qs n).kstep (qs n)).ne ≤ n + 1; omega⟩
/-- And behind m more. -/
def kmore (s : St) (qs : Nat → K5) : Nat → St
  | 0 => s
  | n + 1 => (kmore s qs n).kstep (qs n)
theorem kmore_ok {s : St} (h : KOk s) (qs : Nat → K5) : ∀ n, KOk (kmore s qs n) ∧ s.Le (kmore s qs n) ∧ (kmore s qs n).ne ≤ s.ne + n
  | 0 => ⟨h, St.Le.refl s, Nat.le_refl _⟩
  | n + 1 => by
    obtain ⟨h1, h2, h3⟩ := kmore_ok h qs n
    have := h1.step (qs n)
    exact ⟨this.1, h2.trans this.2.1, by have := this.2.2; show ((kmore s qs n).kstep (qs n)).ne ≤ s.ne + (n + 1); omega⟩
end Go.Annal
namespace Go.Annal
open Go.Proofs.YtjnmoddcodnadaaGreat
def cashB : ByteArray := ⟨#[99, 97, 115, 104]⟩
def rentB : ByteArray := ⟨#[114, 101, 110, 116]⟩
/-- Two lines. -/
def twoA (j : Nat) : ByteArray := if j = 0 then cashB else rentB
def twoM (n : Int) (j : Nat) : Int := if j = 0 then - n else n
def sb1 : St := St.new.afterOpen cashB 0
def sb2 : St := sb1.afterOpen rentB 1
def sb3 : St := sb2.afterPost 5 twoA (twoM 30) 2
theorem sb1_e : St.new.openE cashB 0 = 0 := by kernel_rfl
theorem sb2_e : sb1.openE rentB 1 = 0 := by kernel_rfl
theorem sb3_e : sb2.postE 5 twoA (twoM 30) 2 = 0 ∧ sb2.postN 5 twoA (twoM 30) 2 = 1 := ⟨by kernel_rfl, by kernel_rfl⟩
theorem sb3_b : sb3.bal cashB 5 1 = -30 ∧ sb3.balE cashB 5 1 = 0 ∧ sb3.bal cashB 4 1 = 0 ∧ sb3.balE cashB 4 1 = 0 ∧ sb3.bal cashB 5 0 = 0 ∧ sb3.balE cashB 5 0 = 0 := ⟨by kernel_rfl, by kernel_rfl, by kernel_rfl, by kernel_rfl, by kernel_rfl, by kernel_rfl⟩
theorem sb3_t : sb3.trialE 5 1 = 0 ∧ sb3.trial 5 1 = [(cashB, -30), (rentB, 30)] := ⟨by kernel_rfl, by kernel_rfl⟩
def sc3 : St := sb2.afterPost 3 twoA (twoM 70) 2
def sc4 : St := sc3.afterClose 4 cashB
def sc5 : St := sc4.afterRev 1
theorem sc3_e : sb2.postE 3 twoA (twoM 70) 2 = 0 ∧ sb2.postN 3 twoA (twoM 70) 2 = 1 := ⟨by kernel_rfl, by kernel_rfl⟩
theorem sc4_e : sc3.closeE 4 cashB = 0 ∧ sc3.closeN 4 cashB = 2 := ⟨by kernel_rfl, by kernel_rfl⟩
theorem sc5_e : sc4.revE 1 = 0 ∧ sc4.revN 1 = 3 ∧ sc5.revE 1 = 12 ∧ sc5.lockE 4 = 11 := ⟨by kernel_rfl, by kernel_rfl, by kernel_rfl, by kernel_rfl⟩
theorem sc5_b : sc5.bal rentB 4 3 = 0 ∧ sc5.bal rentB 5 3 = -70 := ⟨by kernel_rfl, by kernel_rfl⟩
theorem sb1_ok : sb1.Ok := St.afterOpen_ok St.new_ok _ _
theorem sb2_ok : sb2.Ok := St.afterOpen_ok sb1_ok _ _
theorem sb3_ok : sb3.Ok := St.afterPost_ok sb2_ok _ _ _ _
theorem sc3_ok : sc3.Ok := St.afterPost_ok sb2_ok _ _ _ _
theorem sc4_ok : sc4.Ok := St.afterClose_ok sc3_ok _ _
theorem sc5_ok : sc5.Ok := St.afterRev_ok sc4_ok _
end Go.Annal
namespace Go.Proofs.YtjnmoddcodnadaaGreat
open Go.RowKit Go.Annal Go.Sort
theorem two_lines {w : World} {g : Nat} {n : Int} (h : w.heap[g]? = some (.cells #[.string cashB, .int .i64 (-n), .string rentB, .int .i64 n] 47 (0, 0))) : LinesV w (some ⟨g, 0, none⟩) 2 2 twoA (twoM n) := by
  refine ⟨Nat.le_refl _, by decide, fun k _ => ?_, fun _ => ⟨g, 0, rfl, ⟨fun k hk => ?_, fun k hk => ?_⟩⟩⟩
  · unfold twoA; split <;> decide
  · rcases (show k = 0 ∨ k = 1 by omega) with rfl | rfl
    · exact blk_cell' h rfl
    · exact blk_cell' h rfl
  · rcases (show k = 0 ∨ k = 1 by omega) with rfl | rfl
    · exact blk_cell' h rfl
    · exact blk_cell' h rfl
/-- A book that was made in a call. -/
def Mine (w W : World) (B : Nat) (s : St) : Prop := ∃ Fp, ProgIs W B s Fp ∧ (∀ b, Fp b → w.heap.size ≤ b) ∧ Below w.heap.size w W
theorem Mine.of {w W w' : World} {B : Nat} {t : St} {Fp : Nat → Prop} (h2 : ∀ b, Fp b → w.heap.size ≤ b) (h3 : Below w.heap.size w W) (q : ∃ Fp', ProgIs w' B t Fp' ∧ Turn Fp W w' ∧ ∀ b, Fp' b → Fp b ∨ W.heap.size ≤ b) : Mine w w' B t := by
  obtain ⟨Fp', q1, q2, q3⟩ := q
  have hs := h3.size
  refine ⟨Fp', q1, fun b hb => (q3 b hb).elim (h2 b) (fun h => by omega), ?_⟩
  exact ⟨q2.os.trans h3.os, q2.tape.trans h3.tape, q2.output.trans h3.output, Nat.le_trans hs q2.size, fun x hx => (q2.block x (by omega) (fun h => by have := h2 x h; omega)).trans (h3.block x hx)⟩
theorem Mine.mv {w W w' : World} {B : Nat} {s : St} (h : Mine w W B s) (hb : Below W.heap.size W w') : Mine w w' B s := by
  obtain ⟨Fp, h1, h2, h3⟩ := h
  exact ⟨Fp, h1.turn (S := fun _ => False) (Turn.of_below hb) (fun _ _ h => h), h2, h3.trans (hb.mono h3.size)⟩
theorem Mine.below {w W : World} {B : Nat} {s : St} (h : Mine w W B s) : Below w.heap.size w W := by obtain ⟨_, _, _, h⟩ := h; exact h
theorem mine_new (w0 w : World) (h0 : Below w0.heap.size w0 w) : Calls Tryz.prog 23 #[] w fun r w' => r = .returned (.pointer (some ⟨w.heap.size, 0, none⟩)) ∧ Mine w0 w' w.heap.size St.new := by
  refine (progNew w).mono ?_
  rintro r w' ⟨rfl, hP, hg⟩
  have := h0.size
  exact ⟨rfl, _, hP, fun b (hb : b = w.heap.size) => by omega, h0.trans (hg.below.mono h0.size)⟩
theorem mine_open {w W : World} {B : Nat} {s : St} (h : Mine w W B s) (ho : s.Ok) (name : ByteArray) (kind : Int) (hs : name.size ≤ 1000000000) : Calls Tryz.prog 25 #[.pointer (some ⟨B, 0, none⟩), .string name, .int .i64 kind] W fun r w' => r = .returned (.int .i64 (s.openE name kind)) ∧ Mine w w' B (s.afterOpen name kind) := by
  obtain ⟨Fp, h1, h2, h3⟩ := id h
  refine (progOpen B s Fp name kind W h1 ho hs).mono ?_
  rintro r w' ⟨rfl, q⟩
  exact ⟨rfl, Mine.of h2 h3 q⟩
theorem mine_post {w W : World} {B : Nat} {s : St} (h : Mine w W B s) (ho : s.Ok) (day : Int) (lad : Option Addr) (n cap : Nat) (ya : Nat → ByteArray) (ym : Nat → Int) (hL : LinesV W lad n cap ya ym) : Calls Tryz.prog 18 #[.pointer (some ⟨B, 0, none⟩), .int .i64 day, .slice lad n cap] W fun r w' => r = .returned (.tuple #[.int .i64 (s.postN day ya ym n), .int .i64 (s.postE day ya ym n)]) ∧ Mine w w' B (s.afterPost day ya ym n) := by
  obtain ⟨Fp, h1, h2, h3⟩ := id h
  refine (progPost B s Fp day lad n cap ya ym W h1 ho hL).mono ?_
  rintro r w' ⟨rfl, q⟩
  exact ⟨rfl, Mine.of h2 h3 q⟩
theorem mine_rev {w W : World} {B : Nat} {s : St} (h : Mine w W B s) (ho : s.Ok) (e : Int) : Calls Tryz.prog 20 #[.pointer (some ⟨B, 0, none⟩), .int .i64 e] W fun r w' => r = .returned (.tuple #[.int .i64 (s.revN e), .int .i64 (s.revE e)]) ∧ Mine w w' B (s.afterRev e) := by
  obtain ⟨Fp, h1, h2, h3⟩ := id h
  refine (progRev B s Fp e W h1 ho).mono ?_
  rintro r w' ⟨rfl, q⟩
  exact ⟨rfl, Mine.of h2 h3 q⟩
theorem mine_lock {w W : World} {B : Nat} {s : St} (h : Mine w W B s) (ho : s.Ok) (day : Int) : Calls Tryz.prog 22 #[.pointer (some ⟨B, 0, none⟩), .int .i64 day] W fun r w' => r = .returned (.int .i64 (s.lockE day)) ∧ Mine w w' B (s.afterLock day) := by
  obtain ⟨Fp, h1, h2, h3⟩ := id h
  refine (progLock B s Fp day W h1 ho).mono ?_
  rintro r w' ⟨rfl, q⟩
  exact ⟨rfl, Mine.of h2 h3 q⟩
theorem mine_close {w W : World} {B : Nat} {s : St} (h : Mine w W B s) (ho : s.Ok) (day : Int) (into : ByteArray) : Calls Tryz.prog 21 #[.pointer (some ⟨B, 0, none⟩), .int .i64 day, .string into] W fun r w' => r = .returned (.tuple #[.int .i64 (s.closeN day into), .int .i64 (s.closeE day into)]) ∧ Mine w w' B (s.afterClose day into) := by
  obtain ⟨Fp, h1, h2, h3⟩ := id h
  refine (progClose B s Fp day into W h1 ho).mono ?_
  rintro r w' ⟨rfl, q⟩
  exact ⟨rfl, Mine.of h2 h3 q⟩
theorem mine_bal {w W : World} {B : Nat} {s : St} (h : Mine w W B s) (ho : s.Ok) (name : ByteArray) (day known : Int) : Calls Tryz.prog 16 #[.pointer (some ⟨B, 0, none⟩), .string name, .int .i64 day, .int .i64 known] W fun r w' => r = .returned (.tuple #[.int .i64 (s.bal name day known), .int .i64 (s.balE name day known)]) ∧ Mine w w' B s := by
  obtain ⟨Fp, h1, h2, h3⟩ := id h
  refine (progBal B s Fp name day known W h1 ho).mono ?_
  rintro r w' ⟨rfl, hb⟩
  exact ⟨rfl, h.mv hb⟩
theorem mine_trial {w W : World} {B : Nat} {s : St} (h : Mine w W B s) (ho : s.Ok) (day known : Int) : Calls Tryz.prog 14 #[.pointer (some ⟨B, 0, none⟩), .int .i64 day, .int .i64 known] W fun r w' => ∃ v, r = .returned (.tuple #[v, .int .i64 (s.trialE day known)]) ∧ w'.ownsRow W.heap.size 47 2 v (s.trial day known).length (cells2 (s.trial day known)) ∧ Mine w w' B s := by
  obtain ⟨Fp, h1, h2, h3⟩ := id h
  refine (progTrial B s Fp day known W h1 ho).mono ?_
  rintro r w' ⟨v, rfl, hv, hb⟩
  exact ⟨v, rfl, hv, h.mv hb⟩
/-- What the small books answer, each once, in a form that the walk takes. -/
theorem begun_open1 (w W : World) (B : Nat) (h : Hid (Mine w W B St.new)) : Calls Tryz.prog 25 #[.pointer (some ⟨B, 0, none⟩), .string ⟨#[99, 97, 115, 104]⟩, .int .i64 0] W fun r w' => r = .returned (.int .i64 0) ∧ Hid (Mine w w' B sb1) := by
  have := mine_open h.out St.new_ok cashB 0 (by decide)
  rw [sb1_e] at this
  exact this
theorem begun_open2 (w W : World) (B : Nat) (h : Hid (Mine w W B sb1)) : Calls Tryz.prog 25 #[.pointer (some ⟨B, 0, none⟩), .string ⟨#[114, 101, 110, 116]⟩, .int .i64 1] W fun r w' => r = .returned (.int .i64 0) ∧ Hid (Mine w w' B sb2) := by
  have := mine_open h.out sb1_ok rentB 1 (by decide)
  rw [sb2_e] at this
  exact this
theorem begun_new (w : World) : Calls Tryz.prog 23 #[] w fun r w' => r = .returned (.pointer (some ⟨w.heap.size, 0, none⟩)) ∧ Hid (Mine w w' w.heap.size St.new) := mine_new w w (Below.refl _ _)
theorem begun_postN {s : St} {day n : Int} (hs : s.Ok) (he : s.postE day twoA (twoM n) 2 = 0 ∧ s.postN day twoA (twoM n) 2 = 1) (w W : World) (B : Nat) (h : Hid (Mine w W B s)) : Calls Tryz.prog 18 #[.pointer (some ⟨B, 0, none⟩), .int .i64 day, .slice (some ⟨W.heap.size, 0, none⟩) 2 2] (W.alloc (.cells #[.string ⟨#[99, 97, 115, 104]⟩, .int .i64 (-n), .string ⟨#[114, 101, 110, 116]⟩, .int .i64 n] 47)) fun r w' => r = .returned (.tuple #[.int .i64 1, .int .i64 0]) ∧ Hid (Mine w w' B (s.afterPost day twoA (twoM n) 2)) := by
  have := mine_post (h.out.mv ((Grew.refl W).alloc (.cells #[.string ⟨#[99, 97, 115, 104]⟩, .int .i64 (-n), .string ⟨#[114, 101, 110, 116]⟩, .int .i64 n] 47)).below) hs day (some ⟨W.heap.size, 0, none⟩) 2 2 twoA (twoM n) (two_lines (heap_alloc_new W _))
  rw [he.1, he.2] at this
  exact this
theorem begun_post (w W : World) (B : Nat) (h : Hid (Mine w W B sb2)) : Calls Tryz.prog 18 #[.pointer (some ⟨B, 0, none⟩), .int .i64 5, .slice (some ⟨W.heap.size, 0, none⟩) 2 2] (W.alloc (.cells #[.string ⟨#[99, 97, 115, 104]⟩, .int .i64 (-30), .string ⟨#[114, 101, 110, 116]⟩, .int .i64 30] 47)) fun r w' => r = .returned (.tuple #[.int .i64 1, .int .i64 0]) ∧ Hid (Mine w w' B sb3) := begun_postN sb2_ok sb3_e w W B h
theorem changed_post (w W : World) (B : Nat) (h : Hid (Mine w W B sb2)) : Calls Tryz.prog 18 #[.pointer (some ⟨B, 0, none⟩), .int .i64 3, .slice (some ⟨W.heap.size, 0, none⟩) 2 2] (W.alloc (.cells #[.string ⟨#[99, 97, 115, 104]⟩, .int .i64 (-70), .string ⟨#[114, 101, 110, 116]⟩, .int .i64 70] 47)) fun r w' => r = .returned (.tuple #[.int .i64 1, .int .i64 0]) ∧ Hid (Mine w w' B sc3) := begun_postN sb2_ok sc3_e w W B h
theorem begun_bal1 (w W : World) (B : Nat) (h : Hid (Mine w W B sb3)) : Calls Tryz.prog 16 #[.pointer (some ⟨B, 0, none⟩), .string ⟨#[99, 97, 115, 104]⟩, .int .i64 5, .int .i64 1] W fun r w' => r = .returned (.tuple #[.int .i64 (-30), .int .i64 0]) ∧ Hid (Mine w w' B sb3) := by
  have := mine_bal h.out sb3_ok cashB 5 1
  rw [sb3_b.1, sb3_b.2.1] at this
  exact this
theorem begun_bal2 (w W : World) (B : Nat) (h : Hid (Mine w W B sb3)) : Calls Tryz.prog 16 #[.pointer (some ⟨B, 0, none⟩), .string ⟨#[99, 97, 115, 104]⟩, .int .i64 4, .int .i64 1] W fun r w' => r = .returned (.tuple #[.int .i64 0, .int .i64 0]) ∧ Hid (Mine w w' B sb3) := by
  have := mine_bal h.out sb3_ok cashB 4 1
  rw [sb3_b.2.2.1, sb3_b.2.2.2.1] at this
  exact this
theorem begun_bal3 (w W : World) (B : Nat) (h : Hid (Mine w W B sb3)) : Calls Tryz.prog 16 #[.pointer (some ⟨B, 0, none⟩), .string ⟨#[99, 97, 115, 104]⟩, .int .i64 5, .int .i64 0] W fun r w' => r = .returned (.tuple #[.int .i64 0, .int .i64 0]) ∧ Hid (Mine w w' B sb3) := by
  have := mine_bal h.out sb3_ok cashB 5 0
  rw [sb3_b.2.2.2.2.1, sb3_b.2.2.2.2.2] at this
  exact this
theorem begun_trial (w W : World) (B : Nat) (h : Hid (Mine w W B sb3)) : Calls Tryz.prog 14 #[.pointer (some ⟨B, 0, none⟩), .int .i64 5, .int .i64 1] W fun r w' => ∃ g c, r = .returned (.tuple #[.slice (some ⟨g, 0, none⟩) 2 c, .int .i64 0]) ∧ w'.cell? ⟨g, 2, none⟩ = some (.string ⟨#[114, 101, 110, 116]⟩) ∧ w'.cell? ⟨g, 3, none⟩ = some (.int .i64 30) ∧ Hid (Mine w w' B sb3) := by
  refine (mine_trial h.out sb3_ok 5 1).mono ?_
  rintro r w' ⟨v, rfl, hv, hm⟩
  rw [sb3_t.1]
  rw [sb3_t.2] at hv
  rcases hv.2 with ⟨rfl, h0⟩ | ⟨g, cap, cur, rfl, _, _, _⟩
  · exact absurd h0 (by decide)
  · exact ⟨g, cap, rfl, hv.cellAt 2 (by decide), hv.cellAt 3 (by decide), hm⟩
set_option maxHeartbeats 4000000 in
set_option maxRecDepth 100000 in
theorem begun_any (w : World) : Calls Tryz.prog 24 #[] w fun r w' => r = .returned (.bool true) ∧ Below w.heap.size w w' := by
  go_enter Tryz.func24, Tryz.ntmps24
  go_wp2_with (first
    | (go_at_call 23; with_reducible refine Calls.mono (begun_new _) ?_; rintro e w1 ⟨rfl, hm1⟩)
    | (go_at_call 25; with_reducible refine Calls.mono (begun_open1 w _ _ hm1) ?_; rintro e w2 ⟨rfl, hm2⟩; clear hm1)
    | (go_at_call 25; with_reducible refine Calls.mono (begun_open2 w _ _ hm2) ?_; rintro e w3 ⟨rfl, hm3⟩; clear hm2)
    | (go_at_call 18; with_reducible refine Calls.mono (begun_post w _ _ hm3) ?_; rintro e w4 ⟨rfl, hm4⟩; clear hm3)
    | (go_at_call 16; with_reducible refine Calls.mono (begun_bal1 w _ _ hm4) ?_; rintro e w5 ⟨rfl, hm5⟩; clear hm4)
    | (go_at_call 16; with_reducible refine Calls.mono (begun_bal2 w _ _ hm5) ?_; rintro e w6 ⟨rfl, hm6⟩; clear hm5)
    | (go_at_call 16; with_reducible refine Calls.mono (begun_bal3 w _ _ hm6) ?_; rintro e w7 ⟨rfl, hm7⟩; clear hm6)
    | (go_at_call 14; with_reducible refine Calls.mono (begun_trial w _ _ hm7) ?_; rintro e w8 ⟨g, c, rfl, hc2, hc3, hm8⟩; clear hm7))
  go_ret
  exact ⟨rfl, hm8.out.below⟩
end Go.Proofs.YtjnmoddcodnadaaGreat
namespace Go.Proofs.YtjnmoddcodnadaaGreat
open Go.RowKit Go.Annal Go.Sort
theorem begun_mine (w W : World) (B : Nat) (s : St) (h : Hid (Mine w W B s)) : Calls Tryz.prog 24 #[] W fun r w' => r = .returned (.bool true) ∧ Hid (Mine w w' B s) :=
  (begun_any W).mono fun _ _ ⟨hr, hb⟩ => ⟨hr, h.out.mv hb⟩
theorem changed_close (w W : World) (B : Nat) (h : Hid (Mine w W B sc3)) : Calls Tryz.prog 21 #[.pointer (some ⟨B, 0, none⟩), .int .i64 4, .string ⟨#[99, 97, 115, 104]⟩] W fun r w' => r = .returned (.tuple #[.int .i64 2, .int .i64 0]) ∧ Hid (Mine w w' B sc4) := by
  have := mine_close h.out sc3_ok 4 cashB
  rw [sc4_e.1, sc4_e.2] at this
  exact this
theorem changed_rev1 (w W : World) (B : Nat) (h : Hid (Mine w W B sc4)) : Calls Tryz.prog 20 #[.pointer (some ⟨B, 0, none⟩), .int .i64 1] W fun r w' => r = .returned (.tuple #[.int .i64 3, .int .i64 0]) ∧ Hid (Mine w w' B sc5) := by
  have := mine_rev h.out sc4_ok 1
  rw [sc5_e.1, sc5_e.2.1] at this
  exact this
theorem changed_rev2 (w W : World) (B : Nat) (h : Hid (Mine w W B sc5)) : Calls Tryz.prog 20 #[.pointer (some ⟨B, 0, none⟩), .int .i64 1] W fun r w' => r = .returned (.tuple #[.int .i64 0, .int .i64 12]) ∧ Hid (Mine w w' B sc5) := by
  have := mine_rev h.out sc5_ok 1
  have e1 : sc5.revN 1 = 0 := by unfold St.revN; rw [sc5_e.2.2.1]; rfl
  have e2 : sc5.afterRev 1 = sc5 := by unfold St.afterRev; rw [sc5_e.2.2.1]; rfl
  rw [sc5_e.2.2.1, e1, e2] at this
  exact this
theorem changed_lock (w W : World) (B : Nat) (h : Hid (Mine w W B sc5)) : Calls Tryz.prog 22 #[.pointer (some ⟨B, 0, none⟩), .int .i64 4] W fun r w' => r = .returned (.int .i64 11) ∧ Hid (Mine w w' B sc5) := by
  have := mine_lock h.out sc5_ok 4
  have e2 : sc5.afterLock 4 = sc5 := by unfold St.afterLock; rw [sc5_e.2.2.2]; rfl
  rw [sc5_e.2.2.2, e2] at this
  exact this
theorem changed_bal1 (w W : World) (B : Nat) (h : Hid (Mine w W B sc5)) : Calls Tryz.prog 16 #[.pointer (some ⟨B, 0, none⟩), .string ⟨#[114, 101, 110, 116]⟩, .int .i64 4, .int .i64 3] W fun r w' => r = .returned (.tuple #[.int .i64 0, .int .i64 (sc5.balE rentB 4 3)]) ∧ Hid (Mine w w' B sc5) := by
  have := mine_bal h.out sc5_ok rentB 4 3
  rw [sc5_b.1] at this
  exact this
theorem changed_bal2 (w W : World) (B : Nat) (h : Hid (Mine w W B sc5)) : Calls Tryz.prog 16 #[.pointer (some ⟨B, 0, none⟩), .string ⟨#[114, 101, 110, 116]⟩, .int .i64 5, .int .i64 3] W fun r w' => r = .returned (.tuple #[.int .i64 (-70), .int .i64 (sc5.balE rentB 5 3)]) ∧ Hid (Mine w w' B sc5) := by
  have := mine_bal h.out sc5_ok rentB 5 3
  rw [sc5_b.2] at this
  exact this
set_option maxHeartbeats 4000000 in
set_option maxRecDepth 100000 in
theorem changed_any (w : World) : Calls Tryz.prog 8 #[] w fun r w' => r = .returned (.bool true) ∧ Below w.heap.size w w' := by
  go_enter Tryz.func8, Tryz.ntmps8
  go_wp2_with (first
    | (go_at_call 23; with_reducible refine Calls.mono (begun_new _) ?_; rintro e w0 ⟨rfl, hm0⟩)
    | (go_at_call 24; with_reducible refine Calls.mono (begun_mine w _ _ _ hm0) ?_; rintro e w1 ⟨rfl, hm1⟩; clear hm0)
    | (go_at_call 25; with_reducible refine Calls.mono (begun_open1 w _ _ hm1) ?_; rintro e w2 ⟨rfl, hm2⟩; clear hm1)
    | (go_at_call 25; with_reducible refine Calls.mono (begun_open2 w _ _ hm2) ?_; rintro e w3 ⟨rfl, hm3⟩; clear hm2)
    | (go_at_call 18; with_reducible refine Calls.mono (changed_post w _ _ hm3) ?_; rintro e w4 ⟨rfl, hm4⟩; clear hm3)
    | (go_at_call 21; with_reducible refine Calls.mono (changed_close w _ _ hm4) ?_; rintro e w5 ⟨rfl, hm5⟩; clear hm4)
    | (go_at_call 20; with_reducible refine Calls.mono (changed_rev1 w _ _ hm5) ?_; rintro e w6 ⟨rfl, hm6⟩; clear hm5)
    | (go_at_call 20; with_reducible refine Calls.mono (changed_rev2 w _ _ hm6) ?_; rintro e w7 ⟨rfl, hm7⟩; clear hm6)
    | (go_at_call 22; with_reducible refine Calls.mono (changed_lock w _ _ hm7) ?_; rintro e w8 ⟨rfl, hm8⟩; clear hm7)
    | (go_at_call 16; with_reducible refine Calls.mono (changed_bal1 w _ _ hm8) ?_; rintro e w9 ⟨rfl, hm9⟩; clear hm8)
    | (go_at_call 16; with_reducible refine Calls.mono (changed_bal2 w _ _ hm9) ?_; rintro e w10 ⟨rfl, hm10⟩; clear hm9))
  go_ret
  exact ⟨rfl, hm10.out.below⟩
end Go.Proofs.YtjnmoddcodnadaaGreat
namespace Go.Proofs.YtjnmoddcodnadaaGreat
open Go.RowKit Go.Annal Go.Sort
/-- A step, whatever it is. -/
theorem step_any (R B : Nat) (s : St) (Fp : Nat → Prop) (q : K5) (w : World) (h : RunIs w R B s Fp) (hk : KOk s) (hne : s.ne < 60) (hq : q.ok) :
    Calls Tryz.prog 12 #[.pointer (some ⟨R, 0, none⟩), .agg q.v] w fun r w' => r = .returned (.bool true) ∧ SteppedTo w w' R B (s.kstep q) Fp := by
  have hb := pickI_bd q.kind 8 (by decide)
  by_cases h5 : pickI q.kind 8 < 5
  · exact step_post R B s Fp q w h hk hne hq h5
  · rcases (show pickI q.kind 8 = 5 ∨ pickI q.kind 8 = 6 ∨ pickI q.kind 8 = 7 by omega) with e | e | e
    · by_cases h0 : s.ne = 0
      · exact step_none R B s Fp q w h hk hne hq e h0
      · exact step_rev R B s Fp q w h hk hne hq e (by omega)
    · exact step_lock R B s Fp q w h hk hne hq e
    · exact step_close R B s Fp q w h hk hne hq e
/-- A run whose memory lies within S. -/
def RunAt (S : Nat → Prop) (w : World) (R : Nat) (s : St) : Prop := ∃ B Fp, RunIs w R B s Fp ∧ S R ∧ ∀ b, Fp b → S b
theorem RunAt.mv {S : Nat → Prop} {w w' : World} {R : Nat} {s : St} (h : RunAt S w R s) (hb : Below w.heap.size w w') : RunAt S w' R s := by
  obtain ⟨B, Fp, h1, h2, h3⟩ := h
  exact ⟨B, Fp, h1.mv hb, h2, h3⟩
theorem step_at (S : Nat → Prop) (R : Nat) (s : St) (q : K5) (w : World) (h : RunAt S w R s) (hS : ∀ b, w.heap.size ≤ b → S b) (hk : KOk s) (hne : s.ne < 60) (hq : q.ok) :
    Calls Tryz.prog 12 #[.pointer (some ⟨R, 0, none⟩), .agg q.v] w fun r w' => r = .returned (.bool true) ∧ Hid (RunAt S w' R (s.kstep q) ∧ Turn S w w') := by
  obtain ⟨B, Fp, h1, h2, h3⟩ := h
  refine (step_any R B s Fp q w h1 hk hne hq).mono ?_
  rintro r w' ⟨rfl, Fp', q1, q2, q3⟩
  refine ⟨rfl, ⟨B, Fp', q1, h2, fun b hb => (q3 b hb).elim (h3 b) (hS b)⟩, q2.mono (fun b _ hb => hb.elim (fun e => e ▸ h2) (h3 b))⟩
theorem turn_below {S : Nat → Prop} {w0 w w' : World} (h0 : Below w0.heap.size w0 w) (ht : Turn S w w') (hS : ∀ b, S b → w0.heap.size ≤ b) : Below w0.heap.size w0 w' :=
  ⟨ht.os.trans h0.os, ht.tape.trans h0.tape, ht.output.trans h0.output, Nat.le_trans h0.size ht.size, fun x hx => (ht.block x (Nat.lt_of_lt_of_le hx h0.size) (fun h => by have := hS x h; omega)).trans (h0.block x hx)⟩
/-- Steps that came in. -/
structure StepsV (w : World) (ad : Option Addr) (n : Nat) (qs : Nat → K5) : Prop where
  at' : 0 < n → ∃ g o, ad = some ⟨g, o, none⟩ ∧ (∀ k, k < n → w.cell? ⟨g, o + k * 5, none⟩ = some (.int .i64 (qs k).kind)) ∧ (∀ k, k < n → w.cell? ⟨g, o + k * 5 + 1, none⟩ = some (.int .i64 (qs k).day)) ∧ (∀ k, k < n → w.cell? ⟨g, o + k * 5 + 2, none⟩ = some (.int .i64 (qs k).a)) ∧ (∀ k, k < n → w.cell? ⟨g, o + k * 5 + 3, none⟩ = some (.int .i64 (qs k).b)) ∧ (∀ k, k < n → w.cell? ⟨g, o + k * 5 + 4, none⟩ = some (.int .i64 (qs k).c))
  ok : ∀ k, k < n → (qs k).ok
theorem StepsV.mv {w w' : World} {ad : Option Addr} {n : Nat} {qs : Nat → K5} (h : StepsV w ad n qs) (hb : Below w.heap.size w w') : StepsV w' ad n qs :=
  ⟨fun hn => by
    obtain ⟨g, o, e, c0, c1, c2, c3, c4⟩ := h.at' hn
    exact ⟨g, o, e, fun k hk => cell_later hb (c0 k hk), fun k hk => cell_later hb (c1 k hk), fun k hk => cell_later hb (c2 k hk), fun k hk => cell_later hb (c3 k hk), fun k hk => cell_later hb (c4 k hk)⟩, h.ok⟩
def lim (n m : Nat) : Nat := if n < m then n else m
theorem lim_le (n m : Nat) : lim n m ≤ n ∧ lim n m ≤ m := by unfold lim; split <;> omega
theorem lim_eq {n m i : Nat} (h : i ≤ n) (h' : i ≤ m) (hh : ¬ (i < n ∧ i < m)) : i = lim n m := by unfold lim; split <;> omega
end Go.Proofs.YtjnmoddcodnadaaGreat
namespace Go.Proofs.YtjnmoddcodnadaaGreat
open Go.ChangeShapes Go.WideShapes Go.ChangeAt Go.RowKit Go.Annal Go.Deep
theorem own : ownKnob Tryz.prog.godebug = none := by kernel_rfl
theorem laidOut : laidOutB Tryz.prog = true := by kernel_rfl
theorem readsSteps : Tryz.prog.readableRec 22 = true := by kernel_rfl
theorem rowSteps : 22 < Tryz.prog.types.size := of_decide_eq_true (by kernel_rfl)
theorem readsStep : Tryz.prog.readableRec 35 = true := by kernel_rfl
theorem rowStep : 35 < Tryz.prog.types.size := of_decide_eq_true (by kernel_rfl)
theorem five_of {α : Type} : ∀ l : List α, l.length = 5 → ∃ a b c d e, l = [a, b, c, d, e]
  | [a, b, c, d, e], _ => ⟨a, b, c, d, e, rfl⟩
theorem Tryz.cInt : Tryz.prog.cellsOf 3 = 1 := by kernel_rfl
theorem Tryz.cStep : Tryz.prog.cellsOf 35 = 5 := by kernel_rfl
section
variable {H : Type} {enc : TypeId × Value → H} {W : World}
/-- The five cells of a step that came in. -/
theorem trod_step {n : Nat} {cs : List Value} {x : DataW H × List MemPlace} (h : DataW.trod enc Tryz.prog W 0 (fun _ => true) true n 35 cs = some x) (hl : cs.length = 5) : ∃ q : K5, cs = q.v.toList ∧ q.ok := by
  obtain ⟨v0, v1, v2, v3, v4, rfl⟩ := five_of cs hl
  obtain ⟨xs, k, _, hx, _, hlen, hf⟩ := DataW.trod_struct Tryz.underlying35 h
  obtain ⟨y0, y1, y2, y3, y4, rfl⟩ := five_of xs hlen
  have f0 : DataW.trod enc Tryz.prog W 0 (fun _ => true) true k 3 (List.take (Tryz.prog.cellsOf 3) (List.drop 0 [v0, v1, v2, v3, v4])) = some y0 := hf 0 _ rfl
  rw [Tryz.cInt] at f0
  have g0 : DataW.trod enc Tryz.prog W 0 (fun _ => true) true k 3 [v0] = some y0 := f0
  have f1 : DataW.trod enc Tryz.prog W 0 (fun _ => true) true k 3 (List.take (Tryz.prog.cellsOf 3) (List.drop 1 [v0, v1, v2, v3, v4])) = some y1 := hf 1 _ rfl
  rw [Tryz.cInt] at f1
  have g1 : DataW.trod enc Tryz.prog W 0 (fun _ => true) true k 3 [v1] = some y1 := f1
  have f2 : DataW.trod enc Tryz.prog W 0 (fun _ => true) true k 3 (List.take (Tryz.prog.cellsOf 3) (List.drop 2 [v0, v1, v2, v3, v4])) = some y2 := hf 2 _ rfl
  rw [Tryz.cInt] at f2
  have g2 : DataW.trod enc Tryz.prog W 0 (fun _ => true) true k 3 [v2] = some y2 := f2
  have f3 : DataW.trod enc Tryz.prog W 0 (fun _ => true) true k 3 (List.take (Tryz.prog.cellsOf 3) (List.drop 3 [v0, v1, v2, v3, v4])) = some y3 := hf 3 _ rfl
  rw [Tryz.cInt] at f3
  have g3 : DataW.trod enc Tryz.prog W 0 (fun _ => true) true k 3 [v3] = some y3 := f3
  have f4 : DataW.trod enc Tryz.prog W 0 (fun _ => true) true k 3 (List.take (Tryz.prog.cellsOf 3) (List.drop 4 [v0, v1, v2, v3, v4])) = some y4 := hf 4 _ rfl
  rw [Tryz.cInt] at f4
  have g4 : DataW.trod enc Tryz.prog W 0 (fun _ => true) true k 3 [v4] = some y4 := f4
  obtain ⟨z0, e0, _, w0⟩ := DataW.trod_int Tryz.underlying3 g0
  have e0' : v0 = .int .i64 z0 := by simpa using e0
  obtain ⟨z1, e1, _, w1⟩ := DataW.trod_int Tryz.underlying3 g1
  have e1' : v1 = .int .i64 z1 := by simpa using e1
  obtain ⟨z2, e2, _, w2⟩ := DataW.trod_int Tryz.underlying3 g2
  have e2' : v2 = .int .i64 z2 := by simpa using e2
  obtain ⟨z3, e3, _, w3⟩ := DataW.trod_int Tryz.underlying3 g3
  have e3' : v3 = .int .i64 z3 := by simpa using e3
  obtain ⟨z4, e4, _, w4⟩ := DataW.trod_int Tryz.underlying3 g4
  have e4' : v4 = .int .i64 z4 := by simpa using e4
  subst e0' e1' e2' e3' e4'
  exact ⟨⟨z0, z1, z2, z3, z4⟩, rfl, bounds_i64 w0, bounds_i64 w1, bounds_i64 w2, bounds_i64 w3, bounds_i64 w4⟩
/-- A step that came in by itself. -/
theorem open_step {v : Value} {d : DataW H} {p : List MemPlace} (h0 : DataW.Trod enc Tryz.prog W 0 (fun _ => true) true 35 v d p) (hsl : ∃ cs, v = .agg cs ∧ cs.size = Tryz.prog.cellsOf 35) : ∃ q : K5, v = .agg q.v ∧ q.ok := by
  obtain ⟨fuel, hf⟩ := h0
  obtain ⟨cs, rfl, hc⟩ := hsl
  rw [Tryz.cStep] at hc
  obtain ⟨q, h1, h2⟩ := trod_step (cs := cs.toList) hf (by simpa using hc)
  exact ⟨q, by rw [Array.toList_inj.1 h1], h2⟩
/-- A list of steps that came in. -/
theorem open_steps {v : Value} {d : DataW H} {p : List MemPlace} (h0 : DataW.Trod enc Tryz.prog W 0 (fun _ => true) true 22 v d p) (hsl : ∃ a len cap, v = .slice a len cap) : ∃ ad n cap qs, v = .slice ad n cap ∧ StepsV W ad n qs := by
  obtain ⟨fuel, hf⟩ := h0
  obtain ⟨a0, len0, cap0, rfl⟩ := hsl
  rcases open_slice Tryz.underlying22 hf with ⟨hcs, _⟩ | ⟨a, len, cap, m, n, D, Pl, hcs, _, hl, hm, hmm, hx, hel⟩
  · simp [Value.cells] at hcs
    obtain ⟨rfl, rfl, rfl⟩ := hcs
    exact ⟨none, 0, 0, fun _ => ⟨0, 0, 0, 0, 0⟩, rfl, fun h => absurd h (Nat.not_lt_zero _), fun k h => absurd h (Nat.not_lt_zero _)⟩
  · simp [Value.cells] at hcs
    obtain ⟨rfl, rfl, rfl⟩ := hcs
    simp only [if_true] at hmm
    subst hmm
    have raw : ∀ i, i < len0 → ∃ q : K5, W.cell? ((a.add (i * 5)).add 0) = some (.int .i64 q.kind) ∧ W.cell? ((a.add (i * 5)).add 1) = some (.int .i64 q.day) ∧ W.cell? ((a.add (i * 5)).add 2) = some (.int .i64 q.a) ∧ W.cell? ((a.add (i * 5)).add 3) = some (.int .i64 q.b) ∧ W.cell? ((a.add (i * 5)).add 4) = some (.int .i64 q.c) ∧ q.ok := fun i hi => by
      obtain ⟨cs', hc, ht⟩ := hel i (by omega)
      rw [Tryz.cStep] at hc
      obtain ⟨_, hl5, hcell⟩ := World.cells?_some hc
      obtain ⟨q, rfl, hq⟩ := trod_step ht hl5
      exact ⟨q, hcell 0 (by omega), hcell 1 (by omega), hcell 2 (by omega), hcell 3 (by omega), hcell 4 (by omega), hq⟩
    by_cases hz : len0 = 0
    · subst hz
      exact ⟨_, 0, _, fun _ => ⟨0, 0, 0, 0, 0⟩, rfl, fun h => absurd h (Nat.not_lt_zero _), fun k h => absurd h (Nat.not_lt_zero _)⟩
    · obtain ⟨b, off, spot⟩ := a
      obtain ⟨p0, hp0, _⟩ := raw 0 (by omega)
      obtain rfl : spot = none := by simpa [Addr.add] using World.cell?_spot hp0
      haveI : Inhabited K5 := ⟨⟨0, 0, 0, 0, 0⟩⟩
      obtain ⟨f, hf'⟩ := choose_lt (α := K5) raw
      have cc : ∀ i o, (Addr.add (Addr.add ⟨b, off, none⟩ (i * 5)) o) = ⟨b, off + i * 5 + o, none⟩ := fun i o => by rw [addr_add, addr_add]
      refine ⟨_, len0, m, f, rfl, fun _ => ⟨b, off, rfl, fun k hk => ?_, fun k hk => ?_, fun k hk => ?_, fun k hk => ?_, fun k hk => ?_⟩, fun k hk => (hf' k hk).2.2.2.2.2⟩
      · have := (hf' k hk).1; rw [cc] at this; exact this
      · have := (hf' k hk).2.1; rw [cc] at this; exact this
      · have := (hf' k hk).2.2.1; rw [cc] at this; exact this
      · have := (hf' k hk).2.2.2.1; rw [cc] at this; exact this
      · have := (hf' k hk).2.2.2.2.1; rw [cc] at this; exact this
end
end Go.Proofs.YtjnmoddcodnadaaGreat
namespace Go.Proofs.YtjnmoddcodnadaaGreat
open Go.RowKit Go.Annal Go.Sort
set_option maxHeartbeats 4000000 in
set_option maxRecDepth 100000 in
theorem run_any (ad : Option Addr) (n cap : Nat) (qs : Nat → K5) (w : World) (hS : StepsV w ad n qs) :
    Calls Tryz.prog 9 #[.slice ad n cap] w fun r w' => ∃ R, r = .returned (.pointer (some ⟨R, 0, none⟩)) ∧ Hid (RunAt (fun b => w.heap.size ≤ b) w' R (krun qs (lim n 40)) ∧ Below w.heap.size w w') := by
  have HS : Hid (type_of% hS) := hS
  have CF : Hid (∀ W, _) := fun W => fresh_any W
  clear hS
  go_enter Tryz.func9, Tryz.ntmps9
  go_wp2_with (go_at_call 26; with_reducible refine Calls.mono (CF.out _) ?_; rintro e w1 ⟨R, rfl, hf⟩)
  have HF : Hid (RunAt (fun b => w.heap.size ≤ b) w1 R (krun qs 0) ∧ Below w.heap.size w w1) := by
    obtain ⟨B, Fp, h1, h2, h3, h4⟩ := hf.out
    exact ⟨⟨B, Fp, h1, h2, h3⟩, h4⟩
  clear hf CF
  go_loopw [4, 5] (fun s3 _ wr => ∃ i : Nat, i ≤ n ∧ i ≤ 40 ∧ s3 = .int .i64 i ∧ Hid (RunAt (fun b => w.heap.size ≤ b) wr R (krun qs i) ∧ Below w.heap.size w wr)) (fun s3 _ _ => 40 - (intOf s3).toNat)
  case atStart => exact ⟨0, by omega, by omega, rfl, HF⟩
  case round =>
    obtain ⟨i, hin, hi40, rfl, hr⟩ := hrel
    clear HF
    have hi0 : (0 : Int) ≤ (i : Int) := by omega
    by_cases hlt : i < n ∧ i < 40
    · have hlt1 : (i : Int) < (n : Int) := by omega
      have hlt2 : (i : Int) < 40 := by omega
      obtain ⟨g, o, rfl, c0, c1, c2, c3, c4⟩ := HS.out.at' (by omega)
      have hb := hr.out.2
      have d0 := cell_later hb (c0 i hlt.1)
      have d1 := cell_later hb (c1 i hlt.1)
      have d2 := cell_later hb (c2 i hlt.1)
      have d3 := cell_later hb (c3 i hlt.1)
      have d4 := cell_later hb (c4 i hlt.1)
      have C1 : Hid (Calls Tryz.prog 12 #[.pointer (some ⟨R, 0, none⟩), .agg #[.int .i64 (qs i).kind, .int .i64 (qs i).day, .int .i64 (qs i).a, .int .i64 (qs i).b, .int .i64 (qs i).c]] wr fun r w' => r = .returned (.bool true) ∧ Hid (RunAt (fun b => w.heap.size ≤ b) w' R (krun qs (i + 1)) ∧ Below w.heap.size w w')) := by
        have ho := krun_ok qs i
        refine (step_at (fun b => w.heap.size ≤ b) R (krun qs i) (qs i) wr hr.out.1 (fun b h => Nat.le_trans hb.size h) ho.1 (by omega) (HS.out.ok i hlt.1)).mono ?_
        rintro r w' ⟨rfl, q1, q2⟩
        exact ⟨rfl, q1, turn_below hb q2 (fun _ h => h)⟩
      clear c0 c1 c2 c3 c4 hb HS
      go_wp2_with (go_at_call 12; with_reducible refine Calls.mono C1.out ?_; rintro e w5 ⟨rfl, h5⟩)
      exact ⟨⟨i + 1, by omega, by omega, by go_num, h5⟩, by simp [intOf]; omega⟩
    · have he : Hid (i = lim n 40) := lim_eq hin hi40 hlt
      by_cases h1 : i < n
      · have h1' : (i : Int) < (n : Int) := by omega
        have h2' : ¬ (i : Int) < 40 := by omega
        go_wp2
        go_ret
        refine ⟨R, rfl, ?_⟩
        rw [← he.out]
        exact hr
      · have h1' : ¬ (i : Int) < (n : Int) := by omega
        go_wp2
        go_ret
        refine ⟨R, rfl, ?_⟩
        rw [← he.out]
        exact hr
end Go.Proofs.YtjnmoddcodnadaaGreat
namespace Go.Proofs.YtjnmoddcodnadaaGreat
open Go.RowKit Go.Annal Go.Sort
/-- A table that lies in memory. -/
def TabAt (w : World) (g : Nat) (f : Nat → Int) : Prop := ∀ j, j < 78 → w.cell? ⟨g, j, none⟩ = some (.int .i64 (f j))
theorem TabAt.turn {S : Nat → Prop} {w w' : World} {g : Nat} {f : Nat → Int} (h : TabAt w g f) (ht : Turn S w w') (hs : ¬ S g) : TabAt w' g f := fun j hj =>
  (World.cell?_of_block (w := w) (ht.block g (World.block_lt_of_cell? _ _ (h j hj)) hs)).trans (h j hj)
theorem TabAt.mv {w w' : World} {g : Nat} {f : Nat → Int} (h : TabAt w g f) (hb : Below w.heap.size w w') : TabAt w' g f := fun j hj => cell_later hb (h j hj)
theorem TabAt.lt {w : World} {g : Nat} {f : Nat → Int} (h : TabAt w g f) : g < w.heap.size := World.block_lt_of_cell? _ _ (h 0 (by decide))
theorem table_at (S : Nat → Prop) (R : Nat) (s : St) (known : Int) (w : World) (h : RunAt S w R s) (hk : KOk s) (k0 : 0 ≤ known) (k1 : known ≤ s.ne) :
    Calls Tryz.prog 11 #[.pointer (some ⟨R, 0, none⟩), .int .i64 known] w fun r w' => ∃ g c, r = .returned (.tuple #[.slice (some ⟨g, 0, none⟩) 78 c, .bool true]) ∧ Hid (w.heap.size ≤ g ∧ TabAt w' g (tabF s known) ∧ RunAt S w' R s ∧ Below w.heap.size w w') := by
  obtain ⟨B, Fp, h1, h2, h3⟩ := id h
  refine (table_any R B s Fp known w h1 hk k0 k1).mono ?_
  rintro r w' ⟨v, rfl, ho, hb⟩
  rcases ho.2 with ⟨_, h0⟩ | ⟨g, cap, cur, rfl, hg, hc, hr⟩
  · exact absurd h0 (by decide)
  · refine ⟨g, cap, rfl, hg, fun j hj => ?_, h.mv hb, hb⟩
    rw [ho.cellAt j (by omega)]
    unfold tabL
    rw [List.getElem?_map, List.getElem?_range hj]
    rfl
theorem same_tab (ga gb ca cb : Nat) (f f' : Nat → Int) (w : World) (ha : TabAt w ga f) (hb : TabAt w gb f') (he : ∀ j, j < 78 → f j = f' j) :
    Calls Tryz.prog 13 #[.slice (some ⟨ga, 0, none⟩) 78 ca, .slice (some ⟨gb, 0, none⟩) 78 cb] w fun r w' => r = .returned (.bool true) ∧ Below w.heap.size w w' :=
  same_all ga gb 78 ca cb f w ha (fun j hj => by rw [hb j hj, he j hj]) (by decide)
theorem tab_known {s t : St} (h : s.Le t) {known : Int} (k0 : 0 ≤ known) (k1 : known ≤ s.ne) (j : Nat) : tabF t known j = tabF s known j := by
  unfold tabF
  exact St.known_le h _ _ (by omega)
/-- The memory of a run, but for what was made behind it. -/
def ofRun (R : Nat) (Fp : Nat → Prop) (n : Nat) (b : Nat) : Prop := b = R ∨ Fp b ∨ n ≤ b
theorem RunAt.only {S : Nat → Prop} {w w' : World} {R : Nat} {s : St} (h : RunAt S w R s) (hb : Below w.heap.size w w') : ∃ S', RunAt S' w' R s ∧ (∀ b, w'.heap.size ≤ b → S' b) ∧ (∀ b, S' b → S b ∨ w'.heap.size ≤ b) ∧ (∀ b, w.heap.size ≤ b → b < w'.heap.size → ¬ S' b) := by
  obtain ⟨B, Fp, h1, h2, h3⟩ := id h
  have hR := blk_lt h1.rn
  refine ⟨ofRun R Fp w'.heap.size, ⟨B, Fp, h1.mv hb, .inl rfl, fun b hb => .inr (.inl hb)⟩, fun b hb => .inr (.inr hb), fun b hb => ?_, fun b hb1 hb2 hs => ?_⟩
  · rcases hb with rfl | hb | hb
    · exact .inl h2
    · exact .inl (h3 b hb)
    · exact .inr hb
  · rcases hs with rfl | hs | hs
    · omega
    · have := h1.pg.lt hs; omega
    · omega
end Go.Proofs.YtjnmoddcodnadaaGreat
