import Derived.Test.YtdljdffnnnoafaaGreatHst6
set_option linter.unusedVariables false
set_option linter.unusedSimpArgs false
namespace Go.Proofs.YtdljdffnnnoafaaGreat
open Go.RowKit Go.Annal Go.Sort
def ptrs (pa : Nat → Nat) (na : Nat) : List Value := (List.range na).map (fun i => .pointer (some ⟨pa i, 0, none⟩))
/-- A book: its block, the row of its accounts, and their order. -/
structure BookIs (w : World) (B ca na ne : Nat) (ul : Int) (ada : Option Addr) (pa : Nat → Nat) (nm : Nat → ByteArray) : Prop where
  bk : w.heap[B]? = some (.cells #[.slice ada na ca, .int .i64 ne, .int .i64 ul] 67 (0, 0))
  ac : w.ownsRow 0 74 1 (.slice ada na ca) na (ptrs pa na)
  up : ∀ x a b, a ≤ b → b < na → Op.bytesLess (nm b).toList x = true → Op.bytesLess (nm a).toList x = true
theorem Accs.acc {w : World} {na : Nat} {pa : Nat → Nat} {nm : Nat → ByteArray} {kd : Nat → Int} {mm : Nat → Nat} {ff : Nat → Nat → It} {F : Nat → Prop} (h : Accs w na pa nm kd mm ff F) {i : Nat} (hi : i < na) :
    F (pa i) ∧ ∃ v, w.heap[pa i]? = some (.cells #[.string (nm i), .int .i64 (kd i), v] 80 (0, 0)) := by
  obtain ⟨ad, cap, gr, cp, bl, h1, _, h3⟩ := h
  exact ⟨(h3 _).2 ⟨i, hi, .inl rfl⟩, _, (h1 i hi).acc⟩
theorem BookIs.at {w : World} {B ca na ne : Nat} {ul : Int} {ada : Option Addr} {pa : Nat → Nat} {nm : Nat → ByteArray} (h : BookIs w B ca na ne ul ada pa nm) {kd : Nat → Int} {mm : Nat → Nat} {ff : Nat → Nat → It} {F : Nat → Prop} (hA : Accs w na pa nm kd mm ff F) :
    ∃ ga, BookAt w B ga ca na ada pa nm := by
  rcases h.ac.2 with ⟨e, hm⟩ | ⟨g, cap', cur, e, _, hc, _⟩
  · subst hm
    exact ⟨0, blk_cell' h.bk rfl, fun h => by omega, fun i hi => by omega, fun i hi => by omega, fun i hi => by omega, fun i hi => by omega, h.up⟩
  · injection e with e1 _ e3
    subst e1; subst e3
    refine ⟨g, blk_cell' h.bk rfl, fun _ => rfl, fun i hi => ?_, fun i hi => h.ac.frozenAt _, fun i hi => ?_, fun i hi e => ?_, h.up⟩
    · rw [h.ac.cellAt i (by omega)]
      simp [ptrs, hi]
    · obtain ⟨_, v, hv⟩ := hA.acc hi
      exact blk_cell' hv rfl
    · obtain ⟨_, v, hv⟩ := hA.acc hi
      rw [e, hc] at hv
      simp at hv
theorem BookIs.turn {w w' : World} {B ca na ne : Nat} {ul : Int} {ada : Option Addr} {pa : Nat → Nat} {nm : Nat → ByteArray} (h : BookIs w B ca na ne ul ada pa nm) {S : Nat → Prop} (ht : Turn S w w') (hB : ¬ S B) (hs : ∀ k, (Value.slice ada na ca).ownBlock = some k → ¬ S k) : BookIs w' B ca na ne ul ada pa nm :=
  ⟨ht.blk h.bk hB, owns_turn h.ac ht (fun g e => hs g e), h.up⟩
/-- How many items, and which, behind k lines of an entry, the l-th of which is for account p l. -/
def stM (p : Nat → Nat) (mm : Nat → Nat) : Nat → Nat → Nat
  | 0 => mm
  | k + 1 => fun i => if i = p k then stM p mm k (p k) + 1 else stM p mm k i
def stF (p : Nat → Nat) (it : Nat → It) (mm : Nat → Nat) (ff : Nat → Nat → It) : Nat → Nat → Nat → It
  | 0 => ff
  | k + 1 => fun i => if i = p k then (fun j => if j = stM p mm k (p k) then it k else stF p it mm ff k (p k) j) else stF p it mm ff k i
theorem stM_same (p : Nat → Nat) (mm : Nat → Nat) (i : Nat) : ∀ k, (∀ l, l < k → p l ≠ i) → stM p mm k i = mm i
  | 0, _ => rfl
  | k + 1, h => by
    simp only [stM]
    rw [if_neg (fun e => h k (by omega) e.symm)]
    exact stM_same p mm i k (fun l hl => h l (by omega))
theorem LinesAt.turn {w w' : World} {lg lo n : Nat} {xa : Nat → ByteArray} {xm : Nat → Int} (h : LinesAt w lg lo n xa xm) {S : Nat → Prop} (ht : Turn S w w') (hs : ¬ S lg) (hlt : lg < w.heap.size) : LinesAt w' lg lo n xa xm :=
  ⟨fun k hk => (World.cell?_of_block (w := w) (ht.block lg hlt hs)).trans (h.ca k hk), fun k hk => (World.cell?_of_block (w := w) (ht.block lg hlt hs)).trans (h.cm k hk)⟩
set_option maxHeartbeats 2000000 in
set_option maxRecDepth 100000 in
theorem enterA_any (B ca na ne lg lo n cap : Nat) (ul day : Int) (ada : Option Addr) (pa : Nat → Nat) (nm xa : Nat → ByteArray) (xm : Nat → Int) (kd : Nat → Int) (mm : Nat → Nat) (ff : Nat → Nat → It) (F : Nat → Prop) (w : World) (lcs : Array Value) (lfz : Nat × Nat)
    (h : BookIs w B ca na ne ul ada pa nm) (hA : Accs w na pa nm kd mm ff F) (hna : na ≤ 1000) (hne : ne < 60) (hL : LinesAt w lg lo n xa xm) (hLt : w.heap[lg]? = some (.cells lcs 38 lfz)) (hn : n ≤ 6)
    (hin : ∀ l, l < n → isAt nm na (xa l) = true) (hdis : ∀ a b, a < b → b < n → lessN nm na (xa a) ≠ lessN nm na (xa b)) (hmm : ∀ i, i < na → mm i < 60) (hxm : ∀ l, l < n → -1000000000 ≤ xm l ∧ xm l ≤ 1000000000) :
    Calls Tryz.prog 59 #[.pointer (some ⟨B, 0, none⟩), .int .i64 day, .slice (some ⟨lg, lo, none⟩) n cap] w fun r w' => r = .returned (.int .i64 (ne + 1 : Nat)) ∧ ∃ F',
      BookIs w' B ca na (ne + 1) ul ada pa nm ∧ Accs w' na pa nm kd (stM (fun l => lessN nm na (xa l)) mm n) (stF (fun l => lessN nm na (xa l)) (fun l => ((ne : Int) + 1, day, xm l)) mm ff n) F' ∧ Turn (fun k => k = B ∨ F k) w w' ∧ (∀ k, F' k → F k ∨ w.heap.size ≤ k) := by
  have c1 := blk_cell' h.bk (o := 1) rfl
  have f1 := blk_free h.bk 1
  have hbk1 := blk_set h.bk 1 (.int .i64 ((ne : Int) + 1))
  obtain ⟨w1, hw1⟩ : ∃ w1, w.setCell ⟨B, 1, none⟩ (.int .i64 ((ne : Int) + 1)) = w1 := ⟨_, rfl⟩
  have hT1 : Turn (fun k => k = B) w w1 := by rw [← hw1]; exact (Turn.refl _ _).set _ _ (fun _ => rfl)
  rw [hw1] at hbk1
  have hnB : ∀ {W : World} {na' : Nat} {mm' : Nat → Nat} {ff' : Nat → Nat → It} {G : Nat → Prop} {cs : Array Value} {t : TypeId} {fz : Nat × Nat} {k : Nat}, Accs W na' pa nm kd mm' ff' G → W.heap[k]? = some (.cells cs t fz) → t ≠ 80 → t ≠ 139 → t ≠ 141 → ¬ G k := by
    intro W na' mm' ff' G cs t fz k hG hk h1 h2 h3 hc
    obtain ⟨cs', t', hk', ht'⟩ := hG.kind hc
    rw [hk] at hk'
    simp at hk'
    rcases ht' with rfl | rfl | rfl
    · exact h1 hk'.2.1
    · exact h2 hk'.2.1
    · exact h3 hk'.2.1
  have hFB : ¬ F B := hnB hA h.bk (by decide) (by decide) (by decide)
  have hlB : lg ≠ B := fun e => by rw [e, h.bk] at hLt; simp at hLt
  have hlF : ¬ F lg := hnB hA hLt (by decide) (by decide) (by decide)
  have hrowk : ∀ {W : World} {ne' : Nat}, BookIs W B ca na ne' ul ada pa nm → ∀ k, (Value.slice ada na ca).ownBlock = some k → ∃ cs fz, W.heap[k]? = some (.cells cs 74 fz) := fun hb k e => owns_kind hb.ac k e
  have hrB : ∀ k, (Value.slice ada na ca).ownBlock = some k → k ≠ B := fun k e e' => by
    obtain ⟨cs, fz, hc⟩ := hrowk h k e
    rw [e', h.bk] at hc; simp at hc
  have hA1 : Accs w1 na pa nm kd mm ff F := hA.turn hT1 (fun k hk e => hFB (e ▸ hk))
  have hB1 : BookIs w1 B ca na (ne + 1) ul ada pa nm := ⟨by simpa using hbk1, owns_turn h.ac hT1 (fun g e es => hrB g e es), h.up⟩
  have hL1 := hL.turn hT1 hlB (blk_lt hLt)
  have hLt1 := hT1.blk hLt hlB
  have hT1' : Turn (fun k => k = B ∨ F k) w w1 := hT1.mono (fun k _ hk => .inl hk)
  generalize hp : (fun l => lessN nm na (xa l)) = p
  generalize hit : (fun l => ((ne : Int) + 1, day, xm l)) = it
  have hpl : ∀ l, lessN nm na (xa l) = p l := fun l => by rw [← hp]
  have hitl : ∀ l, it l = ((ne : Int) + 1, day, xm l) := fun l => by rw [← hit]
  have HBK : Hid (type_of% hB1) := hB1
  have HA1 : Hid (type_of% hA1) := hA1
  have HT1 : Hid (type_of% hT1') := hT1'
  have HL1 : Hid (type_of% hL1) := hL1
  have HLt1 : Hid (type_of% hLt1) := hLt1
  have HW1 : Hid (type_of% hw1) := hw1
  have HNB : Hid (type_of% @hnB) := @hnB
  have HRK : Hid (type_of% @hrowk) := @hrowk
  have HPL : Hid (type_of% hpl) := hpl
  have HIT : Hid (type_of% hitl) := hitl
  clear hB1 hA1 hT1' hL1 hLt1 hT1 hbk1 hw1 hnB hrowk hp hit hpl hitl h hA hL hLt
  go_enter Tryz.func59, Tryz.ntmps59
  go_wp2
  rw [HW1.out]
  go_loopw [8, 18] (fun _ iv wr => ∃ (k : Nat) (G : Nat → Prop), k ≤ n ∧ iv = .int .i64 k ∧ Hid (BookIs wr B ca na (ne + 1) ul ada pa nm) ∧ Hid (Accs wr na pa nm kd (stM p mm k) (stF p it mm ff k) G) ∧ Hid (LinesAt wr lg lo n xa xm) ∧ Hid (wr.heap[lg]? = some (.cells lcs 38 lfz)) ∧ Hid (Turn (fun k => k = B ∨ F k) w wr) ∧ Hid (∀ k, G k → F k ∨ w.heap.size ≤ k)) (fun _ iv _ => n - (intOf iv).toNat)
  case atStart => exact ⟨0, F, Nat.zero_le _, rfl, HBK, HA1, HL1, HLt1, HT1, fun k hk => .inl hk⟩
  case round =>
    obtain ⟨k, G, hk, rfl, hb, ha, hl, hlt, ht, hG⟩ := hrel
    clear HBK HA1 HL1 HLt1 HT1
    by_cases hkn : k < n
    · have hlt' : (k : Int) < (n : Int) := by omega
      have hk0 : (0 : Int) ≤ (k : Int) := by omega
      have ca' := hl.out.ca k hkn
      have cm' := hl.out.cm k hkn
      have hpk : p k < na := by
        rw [← HPL.out k]
        have h1 := hin k hkn
        unfold isAt at h1
        simp at h1
        exact h1.1
      have hmk : stM p mm k (p k) < 60 := by
        rw [stM_same p mm (p k) k (fun l hl e => hdis l k hl hkn (by rw [HPL.out, HPL.out]; exact e))]
        exact hmm _ hpk
      have hxk := hxm k hkn
      have hka : Grew wr (wr.alloc (.cells #[.string (xa k), .int .i64 (xm k)] 38)).drew := ((Grew.refl _).alloc _).drew
      obtain ⟨ga, hat⟩ := hb.out.at ha.out
      have hfi := find_any B ga ca na ada pa nm (xa k) _ (hat.mv hka.below) hna
      have e0 : findV pa nm na (xa k) = .pointer (some ⟨pa (p k), 0, none⟩) := by unfold findV; rw [hin k hkn, HPL.out]; rfl
      rw [e0] at hfi
      have CF : Hid (type_of% hfi) := hfi
      have cx0 : (wr.alloc (.cells #[.string (xa k), .int .i64 (xm k)] 38)).drew.cell? ⟨wr.heap.size, 0, none⟩ = some (.string (xa k)) := blk_cell' (heap_alloc_new wr (.cells #[.string (xa k), .int .i64 (xm k)] 38)) (o := 0) rfl
      have cx1 : (wr.alloc (.cells #[.string (xa k), .int .i64 (xm k)] 38)).drew.cell? ⟨wr.heap.size, 1, none⟩ = some (.int .i64 (xm k)) := blk_cell' (heap_alloc_new wr (.cells #[.string (xa k), .int .i64 (xm k)] 38)) (o := 1) rfl
      have cB1 := blk_cell' hb.out.bk (o := 1) rfl
      have HXK : Hid (type_of% hxk) := hxk
      have HMK : Hid (type_of% hmk) := hmk
      have HPK : Hid (type_of% hpk) := hpk
      clear hfi e0 hat hxk hmk hpk
      have HFIN : Hid (∀ (w2 w3 : World) (F3 : Nat → Prop), Grew wr w2 → Accs w3 na pa nm kd (fun i => if i = p k then stM p mm k (p k) + 1 else stM p mm k i) (fun i => if i = p k then fun j => if j = stM p mm k (p k) then ((ne : Int) + 1, day, xm k) else stF p it mm ff k (p k) j else stF p it mm ff k i) F3 → Turn G w2 w3 → (∀ k, F3 k → G k ∨ w2.heap.size ≤ k) →
          Hid (BookIs w3 B ca na (ne + 1) ul ada pa nm) ∧ Hid (Accs w3 na pa nm kd (stM p mm (k + 1)) (stF p it mm ff (k + 1)) F3) ∧ Hid (LinesAt w3 lg lo n xa xm) ∧ Hid (w3.heap[lg]? = some (.cells lcs 38 lfz)) ∧ Hid (Turn (fun k => k = B ∨ F k) w w3) ∧ Hid (∀ k, F3 k → F k ∨ w.heap.size ≤ k)) := by
        intro w2 w3 F3 hG2 hA3 hT3 hF3
        have T2 : Turn G wr w3 := (Turn.of_below hG2.below).trans hT3
        have hGl : ¬ G lg := HNB.out ha.out hlt.out (by decide) (by decide) (by decide)
        have hws := ht.out.size
        refine ⟨hb.out.turn T2 (HNB.out ha.out hb.out.bk (by decide) (by decide) (by decide)) (fun x e => ?_), ?_, hl.out.turn T2 hGl (blk_lt hlt.out), T2.blk hlt.out hGl, ?_, ?_⟩
        · obtain ⟨cs, fz, hc⟩ := HRK.out hb.out x e
          exact HNB.out ha.out hc (by decide) (by decide) (by decide)
        · rw [show ((ne : Int) + 1, day, xm k) = it k from (HIT.out k).symm] at hA3
          exact hA3
        · exact ⟨T2.os.trans ht.out.os, T2.tape.trans ht.out.tape, T2.output.trans ht.out.output, Nat.le_trans hws T2.size, fun x hx hs => (T2.block x (Nat.lt_of_lt_of_le hx hws) (fun hg => by
            rcases hG.out x hg with h | h
            · exact hs (.inr h)
            · omega)).trans (ht.out.block x hx hs)⟩
        · intro x hx
          rcases hF3 x hx with h | h
          · exact hG.out x h
          · have := hG2.size
            exact .inr (by omega)
      have cB1' := hka.cell' cB1
      rw [show ((ne + 1 : Nat) : Int) = (ne : Int) + 1 by omega] at cB1 cB1'
      go_wp2
      go_region_with (first | (go_at_call 61; refine Calls.mono CF.out ?_; rintro e w2 ⟨rfl, hg2⟩; have hG2 := hka.trans hg2; have cy0 := hg2.cell' cx0; have cy1 := hg2.cell' cx1; have cB2 := hG2.cell' cB1) | (go_at_call 79; refine Calls.mono (accs_add na pa nm kd (stM p mm k) (stF p it mm ff k) G _ (p k) ((ne : Int) + 1) day (xm k) (ha.out.turn (S := fun _ => False) (Turn.of_below hG2.below) (fun _ _ h => h)) HPK.out HMK.out HXK.out) ?_; rintro e w3 ⟨rfl, F3, hA3, hT3, hF3⟩))
      all_goals go_wp2
      all_goals exact ⟨⟨k + 1, F3, by omega, by go_num, HFIN.out _ _ _ hG2 hA3 hT3 hF3⟩, by simp [intOf]; omega⟩
    · have hlt' : ¬ (k : Int) < (n : Int) := by omega
      obtain rfl : k = n := by omega
      have cB1 := blk_cell' hb.out.bk (o := 1) rfl
      go_wp2
      go_ret
      exact ⟨rfl, hb.out, G, ha.out, ht.out, hG.out⟩
end Go.Proofs.YtdljdffnnnoafaaGreat
