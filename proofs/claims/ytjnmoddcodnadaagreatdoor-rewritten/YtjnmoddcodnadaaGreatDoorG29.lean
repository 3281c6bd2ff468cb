import Derived.Test.YtjnmoddcodnadaaGreatDoorG28
import Derived.Test.YtjnmoddcodnadaaGreatDoorG11
import Derived.Test.YtjnmoddcodnadaaGreatDoorG12
import Derived.Test.YtjnmoddcodnadaaGreatDoorG20
import Derived.Test.YtjnmoddcodnadaaGreatDoorG22
import Derived.Test.YtjnmoddcodnadaaGreatDoorG27
set_option linter.unusedVariables false
set_option linter.unusedSimpArgs false
namespace Go.Proofs.YtjnmoddcodnadaaGreatDoor
open Go.RowKit Go.Annal Go.Sort
set_option maxHeartbeats 400000 in
theorem isStock_any (B : Nat) (k : Bk) (kd : Nat → Int) (mm : Nat → Nat) (ff : Nat → Nat → It) (F : Nat → Prop) (x : ByteArray) (m : Int) (w : World) (h : BookIs w B k) (hA : Accs w k.na k.pa k.nm kd mm ff F) (hna : k.na ≤ 1000) (hx : isAt k.nm k.na x = true) :
    Calls Tryz.prog 146 #[.pointer (some ⟨B, 0, none⟩), .agg #[.string x, .int .i64 m]] w fun r w' => r = .returned (.bool (kd (lessN k.nm k.na x) == 0)) ∧ Below w.heap.size w w' := by
  obtain ⟨ga, hat⟩ := h.at hA
  have hk : Grew w (w.alloc (.cells #[.string x, .int .i64 m] 58)) := (Grew.refl _).alloc _
  have C1 : Hid (type_of% (find_any B ga k.ca k.na k.ada k.pa k.nm x _ (hat.mv hk.below) hna)) := find_any B ga k.ca k.na k.ada k.pa k.nm x _ (hat.mv hk.below) hna
  obtain ⟨hl, hnm⟩ := isAt_eq hx
  obtain ⟨_, v, hv⟩ := hA.acc hl
  have ck := hk.cell' (blk_cell' hv (o := 1) rfl)
  have e0 : findV k.pa k.nm k.na x = .pointer (some ⟨k.pa (lessN k.nm k.na x), 0, none⟩) := by unfold findV; rw [hx]; rfl
  rw [e0] at C1
  clear h hA hat hl hnm hv e0 hx
  generalize k.pa (lessN k.nm k.na x) = A at *
  generalize kd (lessN k.nm k.na x) = K at *
  go_enter Tryz.func146, Tryz.ntmps146
  go_wp2_with (go_at_call 66; refine Calls.mono C1.out ?_; rintro e wx ⟨rfl, hw⟩; have ck' := hw.cell' ck)
  go_ret
  exact ⟨rfl, (hk.trans hw).below⟩
set_option maxHeartbeats 1000000 in
theorem deleteL_nil (G : Nat) (ba lb : Array Value) (w : World) :
    Calls Tryz.prog 145 #[.slice none 0 0, .func (.func G) ba lb] w fun r w' => r = .returned (.slice none 0 0) ∧ Below w.heap.size w w' := by
  have CI : Hid (∀ W, Calls Tryz.prog 136 #[.slice none 0 0, .func (.func G) ba lb] W fun r w' => r = .returned (.int .i64 (-1)) ∧ w' = W) := by
    intro W
    go_enter Tryz.func136, Tryz.ntmps136
    go_wp2
    refine wp_loop_rounds 2 ?_; rw [rounds_succ]; go_wp2
    go_ret
    exact ⟨rfl, rfl⟩
  go_enter Tryz.func145, Tryz.ntmps145
  go_wp2_with (go_at_call 136; refine Calls.mono (CI.out _) ?_; rintro e w1 ⟨rfl, hw⟩; rw [hw]; clear hw w1)
  go_ret
  exact ⟨rfl, Below.refl _ _⟩
/-- The stocks taken out of lines. -/
theorem flow_delete (B : Nat) (k : Bk) (kd : Nat → Int) (mm : Nat → Nat) (ff : Nat → Nat → It) (F : Nat → Prop) (base : Nat) (v : Value) (L : List Ln) (w : World) (h : BookIs w B k) (hA : Accs w k.na k.pa k.nm kd mm ff F) (hna : k.na ≤ 1000) (hB : ∀ b, (k.own B b ∨ F b) → b < base)
    (hown : w.ownsRow base 58 2 v L.length (cells2 L)) (hn : L.length ≤ 100) (hx : ∀ y ∈ L, isAt k.nm k.na y.1 = true) :
    Calls Tryz.prog 145 #[v, .func (.func 146) #[.pointer (some ⟨B, 0, none⟩)] #[]] w fun r w' => ∃ v', r = .returned v' ∧
      Hid (w'.ownsRow base 58 2 v' (L.filter (fun y => !(kd (lessN k.nm k.na y.1) == 0))).length (cells2 (L.filter (fun y => !(kd (lessN k.nm k.na y.1) == 0)))) ∧ Turn (fun b => base ≤ b) w w') := by
  rcases hown.2 with ⟨rfl, hm⟩ | ⟨g, cap, cur, rfl, hBg, hc, hr⟩
  · obtain rfl : L = [] := List.length_eq_zero_iff.1 hm
    refine (deleteL_nil _ _ _ w).mono ?_
    rintro r w' ⟨rfl, hb⟩
    exact ⟨_, rfl, ⟨rfl, .inl ⟨rfl, rfl⟩⟩, Turn.of_below hb⟩
  · refine (deleteL_any 146 #[.pointer (some ⟨B, 0, none⟩)] #[] base g L.length cap L (fun y => kd (lessN k.nm k.na y.1) == 0) w (enters_of Tryz.func146 (by kernel_rfl) rfl) hown rfl hn (fun y hy W hW => ?_)).mono ?_
    · have h' := h.turn hW (fun b hb e => by have := hB b (.inl hb); omega)
      have hA' := hA.turn hW (fun b hb e => by have := hB b (.inr hb); omega)
      exact isStock_any B k kd mm ff F y.1 y.2 W h' hA' hna (hx y hy)
    · rintro r w' ⟨rfl, hq⟩
      exact ⟨_, rfl, hq.out.1, hq.out.2.mono (fun b _ e => by omega)⟩
set_option maxHeartbeats 1000000 in
theorem flowed_any (B : Nat) (k : Bk) (kd : Nat → Int) (mm : Nat → Nat) (ff : Nat → Nat → It) (F : Nat → Prop) (day : Int) (L : List Ln) (w : World) (h : BookIs w B k) (hA : Accs w k.na k.pa k.nm kd mm ff F) (hna : k.na ≤ 1000) (hFl : ∀ b, F b → b < w.heap.size) (hn : L.length ≤ 100) (hx : ∀ y ∈ L, isAt k.nm k.na y.1 = true)
    (CT : Calls Tryz.prog 85 #[.pointer (some ⟨B, 0, none⟩), .int .i64 day, .int .i64 k.ne] w fun r w' => ∃ v, r = .returned (.tuple #[v, .int .i64 0]) ∧ w'.ownsRow w.heap.size 58 2 v L.length (cells2 L) ∧ Below w.heap.size w w') :
    Calls Tryz.prog 111 #[.pointer (some ⟨B, 0, none⟩), .int .i64 day] w fun r w' => ∃ v, r = .returned v ∧ Hid (w'.ownsRow w.heap.size 58 2 v (L.filter (fun y => !(kd (lessN k.nm k.na y.1) == 0))).length (cells2 (L.filter (fun y => !(kd (lessN k.nm k.na y.1) == 0)))) ∧ Below w.heap.size w w') := by
  have C : Hid (type_of% CT) := CT
  have cE : w.cell? ⟨B, 2, none⟩ = some k.nv := blk_cell' h.bk rfl
  have HD : Hid (∀ v w1, w1.ownsRow w.heap.size 58 2 v L.length (cells2 L) → Below w.heap.size w w1 → _) := fun v w1 ho hb => flow_delete B k kd mm ff F w.heap.size v L w1 (h.turn (S := fun _ => False) (Turn.of_below hb) (fun _ _ h => h)) (hA.turn (S := fun _ => False) (Turn.of_below hb) (fun _ _ h => h)) hna (fun b hb => hb.elim (fun hb => h.lt hb) (hFl b)) ho hn hx
  clear CT h hA
  generalize (L.filter (fun y => !(kd (lessN k.nm k.na y.1) == 0))) = M at *
  go_enter Tryz.func111, Tryz.ntmps111
  go_wp2_with (first
    | (go_at_call 85; refine Calls.mono C.out ?_; rintro e w1 ⟨v, rfl, ho1, hb1⟩)
    | (go_at_call 145; refine Calls.mono (HD.out v w1 ho1 hb1) ?_; rintro e w2 ⟨v2, rfl, hq2⟩))
  go_ret
  refine ⟨v2, rfl, hq2.out.1, ?_⟩
  have t := hq2.out.2
  exact ⟨t.os.trans hb1.os, t.tape.trans hb1.tape, t.output.trans hb1.output, Nat.le_trans hb1.size t.size, fun b hb => (t.block b (Nat.lt_of_lt_of_le hb hb1.size) (by omega)).trans (hb1.block b hb)⟩
end Go.Proofs.YtjnmoddcodnadaaGreatDoor
namespace Go.Annal
/-- How an entry came about. -/
inductive EvK where
  | post
  | rev (u : Int)
  | close (into : ByteArray)
/-- The entry that it undoes, or 0. -/
def EvK.un : EvK → Int
  | .rev u => u
  | _ => 0
end Go.Annal
namespace Go.Proofs.YtjnmoddcodnadaaGreatDoor
open Go.RowKit Go.Annal Go.Sort
def evV (day : Int) (g n c : Nat) : EvK → Value
  | .post => .iface 124 (.agg #[.int .i64 day, .slice (some ⟨g, 0, none⟩) n c])
  | .rev u => .iface 127 (.agg #[.int .i64 day, .slice (some ⟨g, 0, none⟩) n c, .int .i64 u])
  | .close s => .iface 136 (.agg #[.int .i64 day, .slice (some ⟨g, 0, none⟩) n c, .string s])
theorem ev_entered (day : Int) (g n c : Nat) (e : EvK) : ∃ t v, evV day g n c e = .iface t v ∧ ∀ w, (method 397 t v "annal/annal.entered").run Tryz.prog w = .ok (240, .agg #[.int .i64 day, .slice (some ⟨g, 0, none⟩) n c]) w := by
  cases e with
  | post => exact ⟨_, _, rfl, fun w => method_posting w _ _ _ _⟩
  | rev u => exact ⟨_, _, rfl, fun w => method_reversal w _ _ _ _ _⟩
  | close s => exact ⟨_, _, rfl, fun w => method_closing w _ _ _ _ _⟩
set_option maxHeartbeats 400000 in
theorem undoesW_any (day : Int) (a : Option Addr) (n c : Nat) (w : World) : Calls Tryz.prog 241 #[.agg #[.int .i64 day, .slice a n c]] w fun r w' => r = .returned (.int .i64 0) ∧ Grew w w' := by
  go_enter Tryz.func241, Tryz.ntmps241
  go_wp2
  go_ret
  exact ⟨rfl, by first | exact Grew.refl _ | exact (Grew.refl _).alloc _⟩
set_option maxHeartbeats 400000 in
theorem undoesR_any (day u : Int) (a : Option Addr) (n c : Nat) (w : World) : Calls Tryz.prog 243 #[.agg #[.int .i64 day, .slice a n c, .int .i64 u]] w fun r w' => r = .returned (.int .i64 u) ∧ Grew w w' := by
  go_enter Tryz.func243, Tryz.ntmps243
  go_wp2
  go_ret
  exact ⟨rfl, by first | exact Grew.refl _ | exact (Grew.refl _).alloc _⟩
theorem ev_undoes (day : Int) (g n c : Nat) (e : EvK) : ∃ t v f u, evV day g n c e = .iface t v ∧ (∀ args w, (callFunc f args).run Tryz.prog w = .ok (.enter f args) w) ∧ (∀ w, (method 397 t v "annal/annal.undoes").run Tryz.prog w = .ok (f, u) w) ∧ ∀ W, Calls Tryz.prog f #[u] W fun r w' => r = .returned (.int .i64 e.un) ∧ Grew W w' := by
  cases e with
  | post => exact ⟨_, _, _, _, rfl, enters_of Tryz.func241 (by kernel_rfl) rfl, fun w => undoes_posting w _ _ _ _, fun W => undoesW_any _ _ _ _ W⟩
  | rev u => exact ⟨_, _, _, _, rfl, enters_of Tryz.func243 (by kernel_rfl) rfl, fun w => undoes_reversal w _ _ _ _ _, fun W => undoesR_any _ _ _ _ _ W⟩
  | close s => exact ⟨_, _, _, _, rfl, enters_of Tryz.func241 (by kernel_rfl) rfl, fun w => undoes_closing w _ _ _ _ _, fun W => undoesW_any _ _ _ _ W⟩
set_option maxHeartbeats 1000000 in
theorem undoing_any (t : TypeId) (v u : Value) (f : Nat) (un number : Int) (Bn : Nat) (w : World) (hc : w.cell? ⟨Bn, 0, none⟩ = some (.int .i64 number)) (ef : ∀ args w, (callFunc f args).run Tryz.prog w = .ok (.enter f args) w) (hm : ∀ w, (method 397 t v "annal/annal.undoes").run Tryz.prog w = .ok (f, u) w) (C : ∀ W, Calls Tryz.prog f #[u] W fun r w' => r = .returned (.int .i64 un) ∧ Grew W w') :
    Calls Tryz.prog 143 #[.iface t v, .pointer (some ⟨Bn, 0, none⟩)] w fun r w' => r = .returned (.bool (un == number)) ∧ Below w.heap.size w w' := by
  have C' : Hid (type_of% C) := C
  clear C
  go_enter Tryz.func143, Tryz.ntmps143
  go_wp2
  go_region_with (go_at_fn f; refine Calls.mono (C'.out _) ?_; rintro e w1 ⟨rfl, hg1⟩; have hc1 := hg1.cell' hc)
  all_goals go_wp2
  all_goals go_ret
  all_goals exact ⟨by first | rfl | (simp; done), ((Grew.refl w).drew.trans hg1).below⟩
set_option maxHeartbeats 1000000 in
theorem idxE_any (G : Nat) (ba lb : Array Value) (ge n cap : Nat) (ev : Nat → Value) (p : Nat → Bool) (w : World) (eg : ∀ args w, (callFunc G args).run Tryz.prog w = .ok (.enter G args) w) (hE : ∀ i, i < n → w.cell? ⟨ge, i, none⟩ = some (ev i)) (hn6 : n ≤ 1000)
    (hC : ∀ i, i < n → ∀ W, Below w.heap.size w W → Calls Tryz.prog G (ba ++ #[ev i] ++ lb) W fun r w' => r = .returned (.bool (p i)) ∧ Below W.heap.size W w') :
    Calls Tryz.prog 166 #[.slice (some ⟨ge, 0, none⟩) n cap, .func (.func G) ba lb] w fun r w' =>
      (∃ z : Int, r = .returned (.int .i64 z) ∧ decide (0 ≤ z) = anyN n p) ∧ Below w.heap.size w w' := by
  have C : Hid (type_of% hC) := hC
  have HE : Hid (type_of% hE) := hE
  clear hC hE
  go_enter Tryz.func166, Tryz.ntmps166
  go_wp2
  go_loopw [5, 8] (fun _ iv wr => ∃ k : Nat, k ≤ n ∧ iv = .int .i64 k ∧ (∀ j, j < k → p j = false) ∧ Below w.heap.size w wr) (fun _ iv _ => n - (intOf iv).toNat)
  case atStart => exact ⟨0, Nat.zero_le _, rfl, fun _ h => by omega, Below.refl _ _⟩
  case round =>
    obtain ⟨k, hk, rfl, hb, hB⟩ := hrel
    have HB : Hid (type_of% hb) := hb
    clear hb
    by_cases hlt : k < n
    · have hlt' : (k : Int) < (n : Int) := by omega
      have hk0 : (0 : Int) ≤ (k : Int) := by omega
      have ca := cell_later hB (HE.out k hlt)
      have CX : Hid (type_of% (C.out k hlt wr hB)) := C.out k hlt wr hB
      generalize hpk : p k = pk at CX
      have HPK : Hid (type_of% hpk) := hpk
      clear hpk C
      generalize ev k = evk at *
      cases pk
      · have HN : Hid (∀ j, j < k + 1 → p j = false) := fun j hj => by
          by_cases h : j = k
          · subst h; exact HPK.out
          · exact HB.out j (by omega)
        go_wp2_with (go_at_fn G; refine Calls.mono CX.out ?_; rintro e wx ⟨rfl, hw⟩)
        go_roundw
        case rel => exact ⟨k + 1, by omega, by go_num, HN.out, hB.trans (hw.mono hB.size)⟩
        case measure => simp [intOf]; omega
      · have fin : Hid (anyN n p = true) := anyN_true hlt HPK.out
        go_wp2_with (go_at_fn G; refine Calls.mono CX.out ?_; rintro e wx ⟨rfl, hw⟩)
        go_ret
        exact ⟨⟨_, rfl, by rw [fin.out]; simp⟩, hB.trans (hw.mono hB.size)⟩
    · have hlt' : ¬ (k : Int) < (n : Int) := by omega
      have fin : Hid (anyN n p = false) := anyN_false (fun j hj => HB.out j (by omega))
      go_wp2
      go_ret
      exact ⟨⟨_, rfl, by rw [fin.out]; rfl⟩, hB⟩
set_option maxHeartbeats 1000000 in
theorem containsE_any (G : Nat) (ba lb : Array Value) (ge n cap : Nat) (ev : Nat → Value) (p : Nat → Bool) (w : World) (eg : ∀ args w, (callFunc G args).run Tryz.prog w = .ok (.enter G args) w) (hE : ∀ i, i < n → w.cell? ⟨ge, i, none⟩ = some (ev i)) (hn6 : n ≤ 1000)
    (hC : ∀ i, i < n → ∀ W, Below w.heap.size w W → Calls Tryz.prog G (ba ++ #[ev i] ++ lb) W fun r w' => r = .returned (.bool (p i)) ∧ Below W.heap.size W w') :
    Calls Tryz.prog 144 #[.slice (some ⟨ge, 0, none⟩) n cap, .func (.func G) ba lb] w fun r w' => r = .returned (.bool (anyN n p)) ∧ Below w.heap.size w w' := by
  have C : Hid (type_of% (idxE_any G ba lb ge n cap ev p w eg hE hn6 hC)) := idxE_any G ba lb ge n cap ev p w eg hE hn6 hC
  clear hC hE
  go_enter Tryz.func144, Tryz.ntmps144
  go_wp2_with (go_at_call 166; refine Calls.mono C.out ?_; rintro e wx ⟨⟨z, rfl, hz⟩, hw⟩)
  go_ret
  exact ⟨rfl, hw⟩
end Go.Proofs.YtjnmoddcodnadaaGreatDoor
namespace Go.Annal
/-- The lines with their amounts turned round. -/
def negL (M : List Ln) : List Ln := M.map (fun y => (y.1, - y.2))
def sumL (M : List Ln) : Int := sumN (lnM M) M.length
def closedL (M : List Ln) (name : ByteArray) : List Ln := negL M ++ if sumL M ≠ 0 then [(name, sumL M)] else []
theorem negL_cells (M : List Ln) : Go.Proofs.YtjnmoddcodnadaaGreatDoor.lineCells (lnA M) (fun j => - lnM M j) M.length = cells2 (negL M) := by
  have h := Go.Proofs.YtjnmoddcodnadaaGreatDoor.lineCells_congr (xa := lnA M) (ya := lnA (negL M)) (xm := fun j => - lnM M j) (ym := lnM (negL M)) (n := M.length) (fun k hk => by
    simp [lnA, lnM, negL, List.getD_eq_getElem?_getD, List.getElem?_eq_getElem hk])
  rw [h]
  have := lineCells_ofL (negL M)
  rwa [show (negL M).length = M.length by simp [negL]] at this
end Go.Annal
namespace Go.Proofs.YtjnmoddcodnadaaGreatDoor
open Go.RowKit Go.Annal Go.Sort
set_option maxHeartbeats 2000000 in
set_option maxRecDepth 100000 in
theorem closed_any (B A : Nat) (day : Int) (name : ByteArray) (M : List Ln) (w : World) (cA : w.cell? ⟨A, 0, none⟩ = some (.string name)) (hn : M.length ≤ 20) (h0 : 0 < M.length) (hb : ∀ j, j < M.length → -100000000000 ≤ lnM M j ∧ lnM M j ≤ 100000000000)
    (CF : ∀ W, Below w.heap.size w W → Calls Tryz.prog 111 #[.pointer (some ⟨B, 0, none⟩), .int .i64 day] W fun r w' => ∃ v, r = .returned v ∧ Hid (w'.ownsRow W.heap.size 58 2 v M.length (cells2 M) ∧ Below W.heap.size W w')) :
    Calls Tryz.prog 68 #[.pointer (some ⟨B, 0, none⟩), .int .i64 day, .pointer (some ⟨A, 0, none⟩)] w fun r w' => ∃ g c, r = .returned (.agg #[.int .i64 day, .slice (some ⟨g, 0, none⟩) (closedL M name).length c, .string name]) ∧ Hid (w'.ownsRow w.heap.size 58 2 (.slice (some ⟨g, 0, none⟩) (closedL M name).length c) (closedL M name).length (cells2 (closedL M name)) ∧ Below w.heap.size w w') := by
  obtain ⟨i0, hi, hz0, hz1, hz2⟩ := info_parts Tryz.infoLine
  have hk1 : Grew w (w.alloc (.cells #[.int .i64 0, .slice none 0 0, .string ⟨#[]⟩] 136)) := (Grew.refl _).alloc _
  have HR0 := heap_alloc_new w (.cells #[.int .i64 0, .slice none 0 0, .string ⟨#[]⟩] 136)
  have C1 : Hid (type_of% (CF _ hk1.below)) := CF _ hk1.below
  have cA1 := hk1.cell' cA
  have hsz : (w.alloc (.cells #[.int .i64 0, .slice none 0 0, .string ⟨#[]⟩] 136)).heap.size = w.heap.size + 1 := World.size_alloc _ _
  have hbl := hk1.below
  obtain ⟨W1, hW1⟩ : ∃ W1, w.alloc (.cells #[.int .i64 0, .slice none 0 0, .string ⟨#[]⟩] 136) = W1 := ⟨_, rfl⟩
  rw [hW1] at HR0 C1 cA1 hsz hbl
  -- what comes behind flowed
  have H2 : Hid (∀ (v : Value) (w2 : World), w2.ownsRow W1.heap.size 58 2 v M.length (cells2 M) → Below W1.heap.size W1 w2 → ∃ gf cf, v = .slice (some ⟨gf, 0, none⟩) M.length cf ∧
      (Calls Tryz.prog 110 #[.slice (some ⟨gf, 0, none⟩) M.length cf] w2 fun r w' => ∃ g c, r = .returned (.slice (some ⟨g, 0, none⟩) M.length c) ∧ Hid (w'.ownsRow w2.heap.size 58 2 (.slice (some ⟨g, 0, none⟩) M.length c) M.length (cells2 (negL M)) ∧ Below w2.heap.size w2 w')) ∧
      (∀ W, Below w2.heap.size w2 W → Calls Tryz.prog 105 #[.slice (some ⟨gf, 0, none⟩) M.length cf] W fun r w' => r = .returned (.int .i64 (sumL M)) ∧ Below W.heap.size W w')) := by
    intro v w2 ho hb2
    have ho' := ho
    rw [← lineCells_ofL M] at ho'
    obtain ⟨gf, cf, rfl, hgf, hcf, hL, cs, hcs⟩ := owns_lines ho' h0
    refine ⟨gf, cf, rfl, (opposite_any gf 0 M.length cf (lnA M) (lnM M) w2 hL (by omega) h0 (fun j hj => by have := hb j hj; omega)).mono ?_, fun W hW => (sum_any gf 0 M.length cf (lnA M) (lnM M) W (hL.mv hW) (by omega) (fun j hj => by have := hb j hj; omega)).mono ?_⟩
    · rintro r w' ⟨v', rfl, ho3, hb3⟩
      obtain ⟨g, c, rfl, _⟩ := owns_lines ho3 h0
      rw [negL_cells] at ho3
      exact ⟨g, c, rfl, ho3, hb3⟩
    · rintro r w' ⟨rfl, hg⟩
      exact ⟨rfl, hg.below⟩
  have hnl : (negL M).length = M.length := by simp [negL]
  have hsb : -2000000000000 ≤ sumL M ∧ sumL M ≤ 2000000000000 := by
    have := sumN_wide (lnM M) M.length (fun j hj => by have := hb j hj; omega)
    have key : ∀ q : Nat, q ≤ M.length → -(100000000000 * (q : Int)) ≤ sumN (lnM M) q ∧ sumN (lnM M) q ≤ 100000000000 * (q : Int) := by
      intro q
      induction q with
      | zero => intro _; simp [sumN]
      | succ q ih =>
        intro hq
        have h1 := ih (by omega)
        have h2 := hb q (by omega)
        simp only [sumN]; omega
    have := key M.length (Nat.le_refl _)
    unfold sumL; omega
  generalize hS : sumL M = S at *
  have HC : Hid (closedL M name = negL M ++ if S ≠ 0 then [(name, S)] else []) := by unfold closedL; rw [hS]; exact rfl
  clear CF hb hS
  by_cases hS0 : S = 0
  · have hcl : closedL M name = negL M := by rw [HC.out, if_neg (by simpa using hS0), List.append_nil]
    rw [hcl, hnl]
    have hS1 : (S != 0) = false := by simp [hS0]
    clear hcl
    go_enter Tryz.func68, Tryz.ntmps68
    go_wp2_with (first
      | (go_at_call 111; refine Calls.mono C1.out ?_; rintro e w2 ⟨v, rfl, hq2⟩; obtain ⟨gf, cf, rfl, C2, C3⟩ := H2.out v w2 hq2.out.1 hq2.out.2; have K2 : Hid (type_of% C2) := C2; have K3 : Hid (type_of% C3) := C3; clear C2 C3)
      | (go_at_call 110; refine Calls.mono K2.out ?_; rintro e w3 ⟨g, c, rfl, hq3⟩)
      | (go_at_call 105; refine Calls.mono (K3.out _ hq3.out.2) ?_; rintro e w4 ⟨rfl, hb4⟩; have hb14 : Below W1.heap.size W1 w4 := (hq2.out.2.trans (hq3.out.2.mono hq2.out.2.size)).trans (hb4.mono (hq2.out.2.trans (hq3.out.2.mono hq2.out.2.size)).size); have HR4 := (hb14.block _ (blk_lt HR0)).trans HR0; have r0 := blk_cell' HR4 (o := 0) rfl; have r1 := blk_cell' HR4 (o := 1) rfl; have r2 := blk_cell' HR4 (o := 2) rfl; have f0 := blk_free HR4 0; have f1 := blk_free HR4 1; have f2 := blk_free HR4 2; have cA4 := cell_later hb14 cA1))
    have hs2 := hq2.out.2.size
    have hgw : w.heap.size < g := by have := (hq3.out.1.lt g rfl).1; omega
    refine bodyPost_ret (v := .agg #[.int .i64 day, .slice (some ⟨g, 0, none⟩) M.length c, .string name]) (results_cell_row Tryz.results68 _ _ w.heap.size _ #[.int .i64 day, .slice (some ⟨g, 0, none⟩) M.length c, .string name] _ _ rfl (blk_set (blk_set (blk_set HR4 0 _) 1 _) 2 _) Tryz.underlying136 rfl (by kernel_rfl)) rfl ⟨g, c, rfl, ?_, ?_⟩
    · exact owns_le (ownsRow_setCell_other (ownsRow_setCell_other (ownsRow_setCell_other (owns_mv hq3.out.1 hb4) (a := ⟨w.heap.size, 0, none⟩) (by simp [Value.ownBlock]; omega) _) (a := ⟨w.heap.size, 1, none⟩) (by simp [Value.ownBlock]; omega) _) (a := ⟨w.heap.size, 2, none⟩) (by simp [Value.ownBlock]; omega) _) (by omega)
    · exact (((hbl.trans (hb14.mono hbl.size)).setCell (Nat.le_refl _) _).setCell (Nat.le_refl _) _).setCell (Nat.le_refl _) _
  · have hcl : closedL M name = negL M ++ [(name, S)] := by rw [HC.out, if_pos hS0]
    have hcll : (closedL M name).length = M.length + 1 := by rw [hcl]; simp [hnl]
    rw [hcll]
    have HCL : Hid (cells2 (closedL M name) = cells2 (negL M) ++ [.string name, .int .i64 S]) := by show _ = _; rw [hcl, cells2_append]; simp [cells2, enc2]
    have hS1 : (S != 0) = true := by simpa using hS0
    clear hcl hcll
    go_enter Tryz.func68, Tryz.ntmps68
    go_wp2_with (first
      | (go_at_call 111; refine Calls.mono C1.out ?_; rintro e w2 ⟨v, rfl, hq2⟩; obtain ⟨gf, cf, rfl, C2, C3⟩ := H2.out v w2 hq2.out.1 hq2.out.2; have K2 : Hid (type_of% C2) := C2; have K3 : Hid (type_of% C3) := C3; clear C2 C3)
      | (go_at_call 110; refine Calls.mono K2.out ?_; rintro e w3 ⟨g, c, rfl, hq3⟩)
      | (go_at_call 105; refine Calls.mono (K3.out _ hq3.out.2) ?_; rintro e w4 ⟨rfl, hb4⟩; have hb14 : Below W1.heap.size W1 w4 := (hq2.out.2.trans (hq3.out.2.mono hq2.out.2.size)).trans (hb4.mono (hq2.out.2.trans (hq3.out.2.mono hq2.out.2.size)).size); have HR4 := (hb14.block _ (blk_lt HR0)).trans HR0; have cA4 := cell_later hb14 cA1; have own4 := owns_mv hq3.out.1 hb4; have cA4' := ((Grew.refl w4).alloc (.cells #[.string name, .int .i64 S] 58)).cell' cA4)
      | (at_builtin; go_loud (refine wpList_append_src rfl _ _ 54 rfl w2.heap.size 58 i0 _ 2 24 Tryz.underlying54 hi hz0 hz1 hz2 rfl (by decide) _ _ _ rfl (own4.alloc _) _ 1 [.string name, .int .i64 S] rfl (src_new2 _ _ _ _) (by simp [Value.oneCell']) (by unfold maxLen; omega) (by omega) (by have := (hq3.out.2.trans (hb4.mono hq3.out.2.size)).size; simp; omega) ?_); intro v5 w5 ho5 hg5; go_loud (obtain ⟨g5, c5, rfl, hB5, hlt5⟩ := ho5.form (by omega)); go_loud (have hb15 : Below W1.heap.size W1 w5 := (hb14.alloc hb14.size (.cells #[.string name, .int .i64 S] 58)).grown hg5 (by have := hb14.size; simp; omega) (fun x hx => Nat.le_trans hq2.out.2.size (own4.lt x hx).1)); have HR5 := (hb15.block _ (blk_lt HR0)).trans HR0; have r0 := blk_cell' HR5 (o := 0) rfl; have r1 := blk_cell' HR5 (o := 1) rfl; have r2 := blk_cell' HR5 (o := 2) rfl; have f0 := blk_free HR5 0; have f1 := blk_free HR5 1; have f2 := blk_free HR5 2; have cA5 := cell_later hb15 cA1))
    have hs2 := hq2.out.2.size
    refine bodyPost_ret (v := .agg #[.int .i64 day, .slice (some ⟨g5, 0, none⟩) (M.length + 1) c5, .string name]) (results_cell_row Tryz.results68 _ _ w.heap.size _ #[.int .i64 day, .slice (some ⟨g5, 0, none⟩) (M.length + 1) c5, .string name] _ _ rfl (blk_set (blk_set (blk_set HR5 0 _) 1 _) 2 _) Tryz.underlying136 rfl (by kernel_rfl)) rfl ⟨g5, c5, rfl, ?_, ?_⟩
    · rw [HCL.out]
      exact owns_le (ownsRow_setCell_other (ownsRow_setCell_other (ownsRow_setCell_other ho5 (a := ⟨w.heap.size, 0, none⟩) (by simp [Value.ownBlock]; omega) _) (a := ⟨w.heap.size, 1, none⟩) (by simp [Value.ownBlock]; omega) _) (a := ⟨w.heap.size, 2, none⟩) (by simp [Value.ownBlock]; omega) _) (by omega)
    · exact (((hbl.trans (hb15.mono hbl.size)).setCell (Nat.le_refl _) _).setCell (Nat.le_refl _) _).setCell (Nat.le_refl _) _
end Go.Proofs.YtjnmoddcodnadaaGreatDoor
namespace Go.Annal
open Go.Proofs.YtjnmoddcodnadaaGreatDoor
/-- n lines as a list. -/
def linesL (xa : Nat → ByteArray) (xm : Nat → Int) (n : Nat) : List Ln := (List.range n).map (fun j => (xa j, xm j))
theorem linesL_len (xa : Nat → ByteArray) (xm : Nat → Int) (n : Nat) : (linesL xa xm n).length = n := by simp [linesL]
theorem linesL_ofL (L : List Ln) : linesL (lnA L) (lnM L) L.length = L := by
  apply List.ext_getElem
  · simp [linesL]
  · intro i h1 h2
    simp [linesL, lnA, lnM, List.getD_eq_getElem?_getD, List.getElem?_eq_getElem h2]
theorem linesL_neg (xa : Nat → ByteArray) (xm : Nat → Int) (n : Nat) : linesL xa (fun j => - xm j) n = (linesL xa xm n).map (fun y => (y.1, - y.2)) := by
  simp [linesL]
theorem itsL_lines (dy : Nat → Int) (la : Nat → Nat → ByteArray) (lm : Nat → Nat → Int) (x : ByteArray) (k n : Nat) : itsL dy la lm x k n = ((linesL (la k) (lm k) n).filter (fun y => y.1.toList == x.toList)).map (fun y => ((k : Int) + 1, dy k, y.2)) := by
  rw [itsL_filter]
  unfold linesL
  rw [List.filter_map, List.map_map]
  rfl
theorem perm_short {α : Type} {l l' : List α} (h : l.Perm l') (hl : l.length ≤ 1) : l = l' := by
  match l, hl with
  | [], _ => exact (List.nil_perm.1 h).symm
  | [a], _ => exact List.singleton_perm.1 h
theorem short_filter (xa : Nat → ByteArray) (xm : Nat → Int) (x : ByteArray) : ∀ n, (∀ a b, a < b → b < n → (xa a).toList ≠ (xa b).toList) → ((linesL xa xm n).filter (fun y => y.1.toList == x.toList)).length ≤ 1 := fun n h => by
  have := (itsL_one (fun _ => 0) (fun _ => xa) (fun _ => xm) x 0 n h).1
  rw [itsL_lines, List.length_map] at this
  exact this
/-- Which items are a name's does not hang on the order of an entry's lines. -/
theorem its_perm (dy : Nat → Int) (la la' : Nat → Nat → ByteArray) (lm lm' : Nat → Nat → Int) (ln : Nat → Nat) (x : ByteArray) : ∀ n, (∀ k, k < n → (linesL (la k) (lm k) (ln k)).Perm (linesL (la' k) (lm' k) (ln k))) → (∀ k, k < n → ∀ a b, a < b → b < ln k → (la' k a).toList ≠ (la' k b).toList) → its dy la lm x ln n = its dy la' lm' x ln n
  | 0, _, _ => rfl
  | n + 1, h, hd => by
    simp only [its]
    rw [its_perm dy la la' lm lm' ln x n (fun k hk => h k (by omega)) (fun k hk => hd k (by omega)), itsL_lines, itsL_lines]
    congr 2
    exact (perm_short ((h n (by omega)).symm.filter _) (short_filter _ _ x (ln n) (hd n (by omega)))).symm
/-- Lines that are the same but for their order have the same names. -/
theorem perm_mem {xa ya : Nat → ByteArray} {xm ym : Nat → Int} {n : Nat} (h : (linesL xa xm n).Perm (linesL ya ym n)) {j : Nat} (hj : j < n) : ∃ i, i < n ∧ ya i = xa j ∧ ym i = xm j := by
  have : (xa j, xm j) ∈ linesL xa xm n := List.mem_map.2 ⟨j, by simpa using hj, rfl⟩
  obtain ⟨i, hi, e⟩ := List.mem_map.1 (h.mem_iff.1 this)
  injection e with e1 e2
  exact ⟨i, by simpa using hi, e1, e2⟩
theorem pairwise_lines {xa : Nat → ByteArray} {xm : Nat → Int} {n : Nat} : (∀ a b, a < b → b < n → (xa a).toList ≠ (xa b).toList) ↔ (linesL xa xm n).Pairwise (fun y z => y.1.toList ≠ z.1.toList) := by
  unfold linesL
  rw [List.pairwise_map, List.pairwise_iff_getElem]
  constructor
  · intro h i j hi hj hij
    simp only [List.getElem_range]
    exact h i j hij (by simpa using hj)
  · intro h a b hab hb
    have := h a b (by simp; omega) (by simpa using hb) hab
    simpa using this
theorem perm_two {xa ya : Nat → ByteArray} {xm ym : Nat → Int} {n : Nat} (h : (linesL xa xm n).Perm (linesL ya ym n)) (hd : ∀ a b, a < b → b < n → (ya a).toList ≠ (ya b).toList) : ∀ a b, a < b → b < n → (xa a).toList ≠ (xa b).toList :=
  pairwise_lines.2 (h.symm.pairwise (pairwise_lines.1 hd) (fun e e' => e e'.symm))
/-- What a closing takes, by names. -/
def closeN (bal : ByteArray → Int) (fl : ByteArray → Bool) (ns : List ByteArray) : List Ln := (ns.filter (fun x => fl x && !decide (bal x = 0))).map (fun x => (x, - bal x))
theorem closeN_perm {bal : ByteArray → Int} {fl : ByteArray → Bool} {ns ns' : List ByteArray} (h : ns.Perm ns') : (closeN bal fl ns).Perm (closeN bal fl ns') := (h.filter _).map _
theorem closeL_names (fn : Nat → ByteArray) (kd : Nat → Int) (bal : ByteArray → Int) (fl : ByteArray → Bool) : ∀ n, (∀ i, i < n → fl (fn i) = decide (kd i = 1)) → closeL fn kd bal n = closeN bal fl ((List.range n).map fn)
  | 0, _ => rfl
  | n + 1, h => by
    have ih := closeL_names fn kd bal fl n (fun i hi => h i (by omega))
    simp only [closeL]
    rw [ih]
    unfold closeN
    rw [List.range_succ, List.map_append, List.filter_append, List.map_append]
    congr 1
    have hf := h n (by omega)
    by_cases h1 : kd n = 1 <;> by_cases h2 : bal (fn n) = 0 <;> simp [hf, h1, h2]
theorem flow_names (nm : Nat → ByteArray) (bal : ByteArray → Int) (V : Nat → Int) (fl : ByteArray → Bool) (st : Ln → Bool) (n : Nat) (hV : ∀ i, i < n → V i = bal (nm i)) (hst : ∀ i, i < n → ∀ m, (!st (nm i, m)) = fl (nm i)) : negL ((trA nm V n).filter (fun y => !st y)) = closeN bal fl ((List.range n).map nm) := by
  unfold negL trA closeN
  rw [List.filter_filter, List.filter_map, List.map_map, List.filter_map, List.map_map]
  have e : (List.range n).filter ((fun a => !st a && !decide (a.2 = 0)) ∘ fun i => (nm i, V i)) = (List.range n).filter ((fun x => fl x && !decide (bal x = 0)) ∘ nm) := by
    apply List.filter_congr
    intro i hi
    have hi' : i < n := by simpa using hi
    show (!st (nm i, V i) && !decide (V i = 0)) = (fl (nm i) && !decide (bal (nm i) = 0))
    rw [hst i hi' (V i)]
    simp only [hV i hi']
  rw [e]
  apply List.map_congr_left
  intro i hi
  have hi' : i < n := by have := (List.mem_filter.1 hi).1; simpa using this
  simp only [Function.comp]
  rw [hV i hi']
theorem sumN_list (L : List Ln) : sumN (lnM L) L.length = (L.map (fun y => y.2)).sum := by
  have key : ∀ k, k ≤ L.length → sumN (lnM L) k = ((L.take k).map (fun y => y.2)).sum := by
    intro k
    induction k with
    | zero => intro _; simp [sumN]
    | succ k ih =>
      intro hk
      simp only [sumN]
      rw [ih (by omega), List.take_succ_eq_append_getElem (by omega), List.map_append, List.sum_append]
      simp [lnM, List.getD_eq_getElem?_getD, List.getElem?_eq_getElem (show k < L.length by omega)]
  have := key L.length (Nat.le_refl _)
  rwa [List.take_of_length_le (Nat.le_refl _)] at this
theorem sum_neg (L : List Ln) : ((negL L).map (fun y => y.2)).sum = - (L.map (fun y => y.2)).sum := by
  induction L with
  | nil => rfl
  | cons y L ih =>
    unfold negL at *
    simp only [List.map_cons, List.sum_cons]
    rw [ih]; omega
/-- The amounts of a closing's flows together. -/
theorem sumL_close {fn : Nat → ByteArray} {kd : Nat → Int} {bal : ByteArray → Int} {n : Nat} {M : List Ln} (h : (negL M).Perm (closeL fn kd bal n)) : sumL M = closeSum fn kd bal n := by
  have e1 : sumL M = (M.map (fun y => y.2)).sum := sumN_list M
  have e2 := sum_neg M
  have e3 : ((closeL fn kd bal n).map (fun y => y.2)).sum = - closeSum fn kd bal n := by
    have hc : ∀ n, ((closeL fn kd bal n).map (fun y => y.2)).sum = - closeSum fn kd bal n := by
      intro n
      induction n with
      | zero => rfl
      | succ n ih =>
        simp only [closeL, closeSum, List.map_append, List.sum_append]
        rw [ih]
        by_cases hk : kd n = 1 ∧ bal (fn n) ≠ 0
        · rw [if_pos hk, if_pos hk]; simp; omega
        · rw [if_neg hk, if_neg hk]; simp
    exact hc n
  have e4 := perm_sum (h.map (fun y : Ln => y.2))
  omega
theorem St.flow_bd {s : St} (h : s.Ok) {day : Int} (hd : s.lk < day) {i : Nat} (hi : i < s.na) (hk : s.kd i = 1) : -60000000000 ≤ s.sum day (s.fn i) ∧ s.sum day (s.fn i) ≤ 60000000000 := by
  obtain ⟨cd, K, e1, e2⟩ := h.lim
  have hf : ¬ s.stk (s.fn i) := fun ⟨i', hi', hn, hk'⟩ => by
    by_cases e : i = i'
    · subst e; exact hk' hk
    · rcases Nat.lt_or_gt_of_ne e with e | e
      · exact h.nm i i' e hi' hn.symm
      · exact h.nm i' i e hi hn
  have := (e2 _ hf).bd (day := day) (by omega)
  rw [← St.sum_sF] at this
  have := h.ne
  omega
end Go.Annal
