import Derived.Test.YtjnmoddcodnadaaGreatDoorG42
import Derived.Deep.RegionLaw
set_option linter.unusedVariables false
set_option linter.unusedSimpArgs false
namespace Go.Proofs.YtjnmoddcodnadaaGreatDoor
open Go.RowKit Go.Annal
/-- strconv.Itoa, as one step of a region that draws. -/
theorem step_itoa {ops : Array Oper} {o : Oper} {a : Act} {w : World} {K : Act → World → Prop} {Q : Exit → Act → World → Prop} {E : Prop} (t : Nat) (n : Int) (s : ByteArray) {P : World → Prop}
    (hg : o.guard = none) (hop : o.op = Op.call { callee := Callee.value (Operand.func 135), args := #[Operand.tmp t], argTypes := #[3] }) (hv : a.eval (Operand.tmp t) = .int .i64 n)
    (C : Calls Tryz.prog 135 #[.int .i64 n] w fun r w' => r = .returned (.string s) ∧ P w')
    (hK : ∀ w', P w' → K (a.put o.dst (.string s)) w') :
    if Region.wanted o (yielded ops a.tmps) = true then Oper.wp Tryz.prog o a w K Q else E := by
  have hw : Region.wanted o (yielded ops a.tmps) = true := by simp [Region.wanted, hg]
  rw [if_pos hw]
  unfold Oper.wp
  simp only [execOp, hop, resolve]
  simp only [List.map_toArray, List.map_cons, List.map_nil, hv]
  go_simp
  refine Calls.mono C ?_
  rintro r w' ⟨rfl, hp⟩
  exact hK w' hp
end Go.Proofs.YtjnmoddcodnadaaGreatDoor
namespace Go.Annal
open Go.Proofs.YtjnmoddcodnadaaGreatDoor
def postW (day : Int) (xa : Nat → ByteArray) (xm : Nat → Int) : Nat → List ByteArray
  | 0 => [⟨#[112]⟩, digB day]
  | k + 1 => postW day xa xm k ++ [xa k, digB (xm k)]
theorem postW_len (day : Int) (xa : Nat → ByteArray) (xm : Nat → Int) : ∀ n, (postW day xa xm n).length = 2 + 2 * n
  | 0 => rfl
  | n + 1 => by rw [postW, List.length_append, postW_len day xa xm n]; simp; omega
end Go.Annal
namespace Go.Proofs.YtjnmoddcodnadaaGreatDoor
open Go.RowKit Go.Annal Go.Sort
set_option maxHeartbeats 4000000 in
set_option maxRecDepth 100000 in
theorem wordsPost_any (day : Int) (g n c : Nat) (xa : Nat → ByteArray) (xm : Nat → Int) (w : World) (ht : Tabs w) (h1 : -1000000000000000000 < day) (h2 : day < 1000000000000000000) (hL : LinesAt w g 0 n xa xm) (hn : n ≤ 100) (hm : ∀ k, k < n → -1000000000000000000 < xm k ∧ xm k < 1000000000000000000) :
    Calls Tryz.prog 242 #[.agg #[.int .i64 day, .slice (some ⟨g, 0, none⟩) n c]] w fun r w' => ∃ v, r = .returned v ∧ Hid (w'.ownsRow w.heap.size 9 1 v (2 + 2 * n) (strV (postW day xa xm n)) ∧ Below w.heap.size w w') := by
  obtain ⟨i0, hi, hz0, hz1, hz2⟩ := info_parts Tryz.infoStr
  have hka : Grew w (w.alloc (.cells #[.int .i64 day, .slice (some ⟨g, 0, none⟩) n c] 124)) := (Grew.refl _).alloc _
  have hbp := heap_alloc_new w (.cells #[.int .i64 day, .slice (some ⟨g, 0, none⟩) n c] 124)
  have p0 : (w.alloc (.cells #[.int .i64 day, .slice (some ⟨g, 0, none⟩) n c] 124)).cell? ⟨w.heap.size, 0, none⟩ = some (.int .i64 day) := blk_cell' hbp rfl
  have p1 : (w.alloc (.cells #[.int .i64 day, .slice (some ⟨g, 0, none⟩) n c] 124)).cell? ⟨w.heap.size, 1, none⟩ = some (.slice (some ⟨g, 0, none⟩) n c) := blk_cell' hbp rfl
  obtain ⟨W1, hW1⟩ : ∃ W1, w.alloc (.cells #[.int .i64 day, .slice (some ⟨g, 0, none⟩) n c] 124) = W1 := ⟨_, rfl⟩
  rw [hW1] at hka hbp p0 p1
  have C : Hid (∀ W, Below w.heap.size w W → _) := fun W hW => dayWord_any day W (ht.below hW) h1 h2
  have CI : Hid (∀ W k, k < n → Below w.heap.size w W → Calls Tryz.prog 135 #[.int .i64 (xm k)] W fun r w' => r = .returned (.string (digB (xm k))) ∧ Below W.heap.size W w') := fun W k hk hW => itoa_any (xm k) W (ht.below hW) (hm k hk).1 (hm k hk).2
  have HL : Hid (type_of% hL) := hL
  have hkb := hka.below
  clear hL ht hm
  go_enter Tryz.func242, Tryz.ntmps242
  go_wp2_with (go_at_call 239; with_reducible refine Calls.mono (C.out _ ?_) ?_; (first | exact hkb.drew | exact hkb); rintro e w3 ⟨rfl, hb3⟩; have hb13 : Below W1.heap.size W1 w3 := (by first | exact below_drew hb3 | exact hb3); have p13 := cell_later hb13 p1; have p14 := ((Grew.refl w3).alloc (.cells #[.string ⟨#[112]⟩, .string (digB day)] 9)).cell' p13)
  have hbw := hkb.trans (hb13.mono hkb.size)
  have ho4 : (w3.alloc (.cells #[.string ⟨#[112]⟩, .string (digB day)] 9)).ownsRow w.heap.size 9 1 (.slice (some ⟨w3.heap.size, 0, none⟩) 2 2) 2 (strV (postW day xa xm 0)) := owns_made hbw.size (by decide) rfl
  have hb4 := hbw.alloc hbw.size (.cells #[.string ⟨#[112]⟩, .string (digB day)] 9)
  obtain ⟨W4, hW4⟩ : ∃ W4, w3.alloc (.cells #[.string ⟨#[112]⟩, .string (digB day)] 9) = W4 := ⟨_, rfl⟩
  rw [hW4] at ho4 hb4 p14 ⊢
  clear hW4 p0 p1 p13 hbp hW1 hb3 hb13 hbw C hka hkb
  have HO : Hid (W4.ownsRow w.heap.size 9 1 (.slice (some ⟨w3.heap.size, 0, none⟩) 2 2) (2 + 2 * 0) (strV (postW day xa xm 0)) ∧ Below w.heap.size w W4) := ⟨ho4, hb4⟩
  clear ho4 hb4
  go_wp2_with fail
  go_loopw [3, 5, 15] (fun s3 _ s15 wr => ∃ k : Nat, k ≤ n ∧ s15 = .int .i64 k ∧ Hid (wr.ownsRow w.heap.size 9 1 s3 (2 + 2 * k) (strV (postW day xa xm k)) ∧ Below w.heap.size w wr)) (fun _ _ s15 _ => n - (intOf s15).toNat)
  case atStart => exact ⟨0, Nat.zero_le _, rfl, HO⟩
  case round =>
    obtain ⟨k, hkn, rfl, hr⟩ := hrel
    clear HO p14
    by_cases hlt : k < n
    · have hlt' : (k : Int) < (n : Int) := by omega
      have hk0 : (0 : Int) ≤ (k : Int) := by omega
      have hL := HL.out.mv hr.out.2
      have l0 := hL.ca k hlt
      have l1 := hL.cm k hlt
      rw [Nat.zero_add] at l0 l1
      have hbp := heap_alloc_new wr (.cells #[.string (xa k), .int .i64 (xm k)] 58)
      have m0 : (wr.alloc (.cells #[.string (xa k), .int .i64 (xm k)] 58)).cell? ⟨wr.heap.size, 0, none⟩ = some (.string (xa k)) := blk_cell' hbp rfl
      have m1 : (wr.alloc (.cells #[.string (xa k), .int .i64 (xm k)] 58)).cell? ⟨wr.heap.size, 1, none⟩ = some (.int .i64 (xm k)) := blk_cell' hbp rfl
      have hbr := hr.out.2
      have hor := hr.out.1
      have hb5 : Below w.heap.size w (wr.alloc (.cells #[.string (xa k), .int .i64 (xm k)] 58)).drew := (hbr.alloc hbr.size _).drew
      have ho5 := (hor.alloc (.cells #[.string (xa k), .int .i64 (xm k)] 58)).drew
      have CK := CI.out (wr.alloc (.cells #[.string (xa k), .int .i64 (xm k)] 58)).drew k hlt hb5
      go_wp2_with fail
      go_region_law (first
        | (refine step_itoa 23 (xm k) (digB (xm k)) (by rfl) (by rfl) (by rfl) CK ?_; intro w6 hb6; have hb6' : Below (wr.alloc (.cells #[.string (xa k), .int .i64 (xm k)] 58)).heap.size (wr.alloc (.cells #[.string (xa k), .int .i64 (xm k)] 58)) w6 := below_drew hb6; have m06 := cell_later hb6' m0; have ho6 := owns_mv (hor.alloc (.cells #[.string (xa k), .int .i64 (xm k)] 58)) hb6'; have hbw6 : Below w.heap.size w w6 := (hbr.alloc hbr.size _).trans (hb6'.mono (hbr.alloc hbr.size _).size))
        | (refine step_append_lies _ (by rfl) _ _ _ (by rfl) w.heap.size 9 i0 _ 1 16 Tryz.underlying76 hi hz0 hz1 hz2 rfl (by decide) _ (2 + 2 * k) _ (by rfl) (ho6.alloc _) ⟨w6.heap.size, 0, none⟩ 2 2 [.string (xa k), .string (digB (xm k))] (by rfl) rfl (World.news_of_block (cs := #[.string (xa k), .string (digB (xm k))]) (heap_alloc_new w6 _)) (by simp [Value.oneCell']) (by decide) (by unfold maxLen; omega) (by omega) (by have := hbw6.size; simp; omega) (w6.heap.size + 1) (by simp) ?_; intro g7 cap7 w7 hown7 hg7 hat7 hlt7; have hb7 : Below w.heap.size w w7 := (hbw6.alloc hbw6.size (.cells #[.string (xa k), .string (digB (xm k))] 9)).grown hg7 (by have := hbw6.size; simp; omega) (fun x hx => (ho6.lt x hx).1)))
      all_goals go_wp2
      all_goals exact ⟨⟨k + 1, by omega, by go_num, by
        show _ ∧ _
        refine ⟨?_, hb7⟩
        have e1 : strV (postW day xa xm (k + 1)) = strV (postW day xa xm k) ++ [.string (xa k), .string (digB (xm k))] := by unfold strV; rw [postW, List.map_append]; rfl
        rw [e1, show 2 + 2 * (k + 1) = 2 + 2 * k + 2 by omega]
        exact hown7⟩, by simp [intOf]; omega⟩
    · have hlt' : ¬ (k : Int) < (n : Int) := by omega
      obtain rfl : k = n := by omega
      go_wp2
      go_ret
      exact ⟨_, rfl, hr⟩
end Go.Proofs.YtjnmoddcodnadaaGreatDoor
namespace Go.Annal
open Go.Proofs.YtjnmoddcodnadaaGreatDoor
def bl (ws : List ByteArray) : List (List UInt8) := ws.map (fun x => x.data.toList)
theorem join_two (l : List (List UInt8)) (a b s : List UInt8) (h : l ≠ []) : Lib.join (l ++ [a, b]) s = Lib.join l s ++ s ++ a ++ s ++ b := by
  induction l with
  | nil => exact absurd rfl h
  | cons x r ih =>
    cases r with
    | nil => simp [Lib.join, List.intercalate, List.intersperse]
    | cons y r =>
      have := ih (by simp)
      simp only [Lib.join, List.intercalate, List.intersperse, List.cons_append, List.flatten_cons] at this ⊢
      rw [this]
      simp [List.append_assoc]
def evW (day : Int) (xa : Nat → ByteArray) (xm : Nat → Int) (n : Nat) : EvK → List ByteArray
  | .post => postW day xa xm n
  | .rev u => [⟨#[114]⟩, digB u]
  | .close into => [⟨#[99]⟩, digB day, into]
theorem postW_ne (day : Int) (xa : Nat → ByteArray) (xm : Nat → Int) (n : Nat) : bl (postW day xa xm n) ≠ [] := fun e => by
  have := congrArg List.length e
  unfold bl at this
  rw [List.length_map, postW_len] at this
  simp at this
theorem postW_join (day : Int) (xa : Nat → ByteArray) (xm : Nat → Int) : ∀ n, Lib.join (bl (postW day xa xm n)) [32] = (postT day xa xm n).data.toList
  | 0 => by simp [postW, postT, bl, Lib.join, List.intercalate, List.intersperse]
  | n + 1 => by
    have h := postW_join day xa xm n
    have e : bl (postW day xa xm (n + 1)) = bl (postW day xa xm n) ++ [(xa n).data.toList, digZ (xm n)] := by unfold bl; rw [postW, List.map_append]; rfl
    rw [e, join_two _ _ _ _ (postW_ne day xa xm n), h]
    simp [postT]
theorem evW_join (day : Int) (xa : Nat → ByteArray) (xm : Nat → Int) (n : Nat) (e : EvK) : Lib.join (bl (evW day xa xm n e)) [32] = (evT day xa xm n e).data.toList := by
  cases e with
  | post => exact postW_join day xa xm n
  | rev u => simp [evW, evT, bl, Lib.join, List.intercalate, List.intersperse]
  | close s => simp [evW, evT, bl, Lib.join, List.intercalate, List.intersperse]
end Go.Annal
namespace Go.Proofs.YtjnmoddcodnadaaGreatDoor
open Go.RowKit Go.Annal Go.Sort
theorem wm_opening (w : World) (name : ByteArray) (kind : Int) : (method 397 140 (.agg #[.string name, .int .i64 kind]) "annal/annal.words").run Tryz.prog w = .ok (246, .agg #[.string name, .int .i64 kind]) w := by kernel_rfl
theorem wm_locking (w : World) (day : Int) : (method 397 131 (.agg #[.int .i64 day]) "annal/annal.words").run Tryz.prog w = .ok (245, .agg #[.int .i64 day]) w := by kernel_rfl
theorem wm_posting (w : World) (day : Int) (a : Option Addr) (n c : Nat) : (method 397 124 (.agg #[.int .i64 day, .slice a n c]) "annal/annal.words").run Tryz.prog w = .ok (242, .agg #[.int .i64 day, .slice a n c]) w := by kernel_rfl
theorem wm_reversal (w : World) (day u : Int) (a : Option Addr) (n c : Nat) : (method 397 127 (.agg #[.int .i64 day, .slice a n c, .int .i64 u]) "annal/annal.words").run Tryz.prog w = .ok (244, .agg #[.int .i64 day, .slice a n c, .int .i64 u]) w := by kernel_rfl
theorem wm_closing (w : World) (day : Int) (u : ByteArray) (a : Option Addr) (n c : Nat) : (method 397 136 (.agg #[.int .i64 day, .slice a n c, .string u]) "annal/annal.words").run Tryz.prog w = .ok (247, .agg #[.int .i64 day, .slice a n c, .string u]) w := by kernel_rfl
/-- What a deed tells of itself: its words, which joined are its line. -/
def Tells (w : World) (V : Value) (T : ByteArray) : Prop := ∃ t v F rcv ws, V = .iface t v ∧ (∀ w, (method 397 t v "annal/annal.words").run Tryz.prog w = .ok (F, rcv) w) ∧ (∀ args w, (callFunc F args).run Tryz.prog w = .ok (.enter F args) w) ∧ Lib.join (bl ws) [32] = T.data.toList ∧ 0 < ws.length ∧ ws.length ≤ 1000 ∧ ∀ W, Below w.heap.size w W → Calls Tryz.prog F #[rcv] W fun r w' => ∃ u, r = .returned u ∧ Hid (w'.ownsRow W.heap.size 9 1 u ws.length (strV ws) ∧ Below W.heap.size W w')
theorem tells_open (name : ByteArray) (kind : Int) (w : World) (ht : Tabs w) (h1 : -1000000000000000000 < kind) (h2 : kind < 1000000000000000000) : Tells w (.iface 140 (.agg #[.string name, .int .i64 kind])) (⟨#[111, 32]⟩ ++ name ++ ⟨#[32]⟩ ++ ⟨(digZ kind).toArray⟩) :=
  ⟨_, _, _, _, [⟨#[111]⟩, name, digB kind], rfl, fun w => wm_opening w _ _, enters_of Tryz.func246 (by kernel_rfl) rfl, by simp [bl, Lib.join, List.intercalate, List.intersperse], by simp, by simp, fun W hW => wordsOpen_any name kind W (ht.below hW) h1 h2⟩
theorem tells_lock (day : Int) (w : World) (ht : Tabs w) (h1 : -1000000000000000000 < day) (h2 : day < 1000000000000000000) : Tells w (.iface 131 (.agg #[.int .i64 day])) (⟨#[108, 32]⟩ ++ ⟨(digZ day).toArray⟩) :=
  ⟨_, _, _, _, [⟨#[108]⟩, digB day], rfl, fun w => wm_locking w _, enters_of Tryz.func245 (by kernel_rfl) rfl, by simp [bl, Lib.join, List.intercalate, List.intersperse], by simp, by simp, fun W hW => wordsLock_any day W (ht.below hW) h1 h2⟩
theorem tells_ev (day : Int) (g n c : Nat) (xa : Nat → ByteArray) (xm : Nat → Int) (e : EvK) (w : World) (ht : Tabs w) (h1 : -1000000000000000000 < day) (h2 : day < 1000000000000000000) (hu : -1000000000000000000 < e.un ∧ e.un < 1000000000000000000) (hL : LinesAt w g 0 n xa xm) (hn : n ≤ 100) (hm : ∀ k, k < n → -1000000000000000000 < xm k ∧ xm k < 1000000000000000000) : Tells w (evV day g n c e) (evT day xa xm n e) := by
  cases e with
  | post => exact ⟨_, _, _, _, postW day xa xm n, rfl, fun w => wm_posting w _ _ _ _, enters_of Tryz.func242 (by kernel_rfl) rfl, postW_join day xa xm n, by rw [postW_len]; omega, by rw [postW_len]; omega, fun W hW => by rw [postW_len]; exact wordsPost_any day g n c xa xm W (ht.below hW) h1 h2 (hL.mv hW) hn hm⟩
  | rev u => exact ⟨_, _, _, _, [⟨#[114]⟩, digB u], rfl, fun w => wm_reversal w _ _ _ _ _, enters_of Tryz.func244 (by kernel_rfl) rfl, evW_join day xa xm n (.rev u), by simp, by simp, fun W hW => wordsRev_any day u g n c W (ht.below hW) hu.1 hu.2⟩
  | close s => exact ⟨_, _, _, _, [⟨#[99]⟩, digB day, s], rfl, fun w => wm_closing w _ _ _ _ _, enters_of Tryz.func247 (by kernel_rfl) rfl, evW_join day xa xm n (.close s), by simp, by simp, fun W hW => wordsClose_any day g n c s W (ht.below hW) h1 h2⟩
end Go.Proofs.YtjnmoddcodnadaaGreatDoor
namespace Go.Proofs.YtjnmoddcodnadaaGreatDoor
open Go.RowKit Go.Annal Go.Sort
theorem doneT_mono (f : Nat → ByteArray) : ∀ n m, n ≤ m → (doneT f n).size ≤ (doneT f m).size
  | n, 0, h => by
    have e : n = 0 := by omega
    rw [e]
    exact Nat.le_refl _
  | n, m + 1, h => by
    rcases Nat.lt_or_ge n (m + 1) with h1 | h1
    · have := doneT_mono f n m (by omega)
      rw [doneT_succ, ByteArray.size_append, ByteArray.size_append]; omega
    · obtain rfl : n = m + 1 := by omega
      exact Nat.le_refl _
theorem doneT_cells (f : Nat → ByteArray) (k : Nat) : Lib.strCells (doneT f (k + 1)) = Lib.strCells (doneT f k) ++ Lib.strCells (f k) ++ [.int .u8 10] := by
  rw [doneT_succ]
  unfold Lib.strCells
  simp
/-- All that a book's deeds tell. -/
theorem progTells {w : World} {B : Nat} {s : St} {k : Bk} {kd : Nat → Int} {mm : Nat → Nat} {ff : Nat → Nat → It} {F : Nat → Prop} {gl cl : Nat → Nat} {xa : Nat → Nat → ByteArray} {xm : Nat → Nat → Int} {kk : Nat → EvK} (h : ProgAt w B s k kd mm ff F gl cl xa xm kk) (ho : s.Ok) (ht : Tabs w) :
    ∃ (D : Nat → Value) (T : Nat → ByteArray), k.ds = (List.range k.nd).map D ∧ s.tx = doneT T k.nd ∧ ∀ j, j < k.nd → Tells w (D j) (T j) := by
  obtain ⟨D, h1, h2, h3⟩ := h.tx.tx
  refine ⟨_, _, h1, h2, fun j hj => ?_⟩
  have hok := h3 j hj
  cases hD : D j with
  | opens name kind =>
    rw [hD] at hok
    exact tells_open name kind w ht (by have := hok.1; omega) (by have := hok.2; omega)
  | locks day =>
    rw [hD] at hok
    exact tells_lock day w ht (by have := hok.1; omega) (by have := hok.2; omega)
  | enters i =>
    rw [hD] at hok
    have hi : i < s.ne := hok
    have hd := ho.dd i hi
    have hu := h.un i hi
    have hne := ho.ne
    have hln := ho.ln i hi
    refine tells_ev (s.dy i) (gl i) (s.ln i) (cl i) (xa i) (xm i) (kk i) w ht (by omega) (by omega) ⟨by omega, by omega⟩ (linesK_lines (h.lo i hi) (ho.l1 i hi)).1 (by omega) (fun l hl => ?_)
    obtain ⟨i', hi', _, e2⟩ := perm_mem (h.pl i hi) hl
    have := ho.bd i hi i' hi'
    rw [← e2]; omega
abbrev bT : TypeId := 63
abbrev bE : TypeId := 5
theorem IsB.mv {B b : Nat} {bs : List Value} {w w' : World} (h : Lib.IsBuilder bT bE B b bs w) (hb : Below w.heap.size w w') : Lib.IsBuilder bT bE B b bs w' := by
  have key : ∀ p, Lib.BuilderAt bT bE B b p bs w → Lib.BuilderAt bT bE B b p bs w' := by
    rintro p ⟨h1, v, h2, h3, h4⟩
    exact ⟨h1, v, (hb.block _ (blk_lt h2)).trans h2, owns_mv h3 hb, h4⟩
  exact h.elim (fun h => .inl (key _ h)) (fun h => .inr (key _ h))
theorem join_any (ws : List ByteArray) (T : ByteArray) (u : Value) (base : Nat) (w : World) (hj : Lib.join (bl ws) [32] = T.data.toList) (h0 : 0 < ws.length) (h1 : ws.length ≤ 1000) (ho : w.ownsRow base 9 1 u ws.length (strV ws)) (hT : T.size ≤ 1000000000000) :
    Calls Tryz.prog 22 #[u, .string ⟨#[32]⟩] w fun r w' => r = .returned (.string T) ∧ Below w.heap.size w w' := by
  rcases ho.2 with ⟨_, e⟩ | ⟨g, cap, cur, rfl, hg, hc, hnc, _⟩
  · omega
  · have hl : (Lib.join (ws.map (·.data.toList)) [32]).length ≤ 140737488355328 := by
      rw [show Lib.join (ws.map (·.data.toList)) [32] = T.data.toList from hj, Array.length_toList]
      show T.size ≤ _; omega
    refine (Any.strings_Join Tryz.joinL Tryz.joinX g 0 cap ws ⟨#[32]⟩ w (fun j x hx => ?_) (blk_lt hc) (by omega) hnc hl).mono ?_
    · have hjl : j < ws.length := (List.getElem?_eq_some_iff.1 hx).1
      rw [Nat.zero_add, ho.cellAt j (by omega)]
      unfold strV
      rw [List.getElem?_map, hx]; rfl
    · rintro r w' ⟨rfl, hb⟩
      refine ⟨?_, hb⟩
      have e : Lib.join (ws.map (·.data.toList)) [32] = T.data.toList := hj
      show Ending.returned (.string ⟨(Lib.join (ws.map (·.data.toList)) [32]).toArray⟩) = _
      rw [e]
set_option maxHeartbeats 4000000 in
set_option maxRecDepth 100000 in
theorem write_any (B nd cd : Nat) (add : Option Addr) (D : Nat → Value) (T : Nat → ByteArray) (w : World) (cD : w.cell? ⟨B, 1, none⟩ = some (.slice add nd cd)) (hd : w.ownsRow 0 70 1 (.slice add nd cd) nd ((List.range nd).map D)) (hT : ∀ j, j < nd → Tells w (D j) (T j)) (hnd : nd ≤ 100000) (hsz : (doneT T nd).size ≤ 1000000000000) :
    Calls Tryz.prog 11 #[.pointer (some ⟨B, 0, none⟩)] w fun r w' => r = .returned (.string (doneT T nd)) ∧ Below w.heap.size w w' := by
  have HT : Hid (type_of% hT) := hT
  have HD : Hid (type_of% hd) := hd
  have hb0 : Below w.heap.size w (w.alloc (.cells #[.pointer none, .slice none 0 0] 63)) := ((Grew.refl w).alloc _).below
  have hB0 : Lib.IsBuilder bT bE w.heap.size w.heap.size [] (w.alloc (.cells #[.pointer none, .slice none 0 0] 63)) := Lib.fresh_isBuilder bT bE w
  have c1 := ((Grew.refl w).alloc (.cells #[.pointer none, .slice none 0 0] 63)).cell' cD
  have HS : Hid (∀ j, j ≤ nd → (doneT T j).size ≤ 1000000000000) := fun j hj => Nat.le_trans (doneT_mono T j nd hj) hsz
  clear hT hd cD
  go_enter Tryz.func11, Tryz.ntmps11
  go_wp2_with fail
  have HI : Hid (Lib.IsBuilder bT bE w.heap.size w.heap.size (Lib.strCells (doneT T 0)) (w.alloc (.cells #[.pointer none, .slice none 0 0] 63)) ∧ Below w.heap.size w (w.alloc (.cells #[.pointer none, .slice none 0 0] 63))) := ⟨hB0, hb0⟩
  clear hB0 hb0
  go_loopw [5, 11] (fun _ s11 wr => ∃ k : Nat, k ≤ nd ∧ s11 = .int .i64 k ∧ Hid (Lib.IsBuilder bT bE w.heap.size w.heap.size (Lib.strCells (doneT T k)) wr ∧ Below w.heap.size w wr)) (fun _ s11 _ => nd - (intOf s11).toNat)
  case atStart => exact ⟨0, Nat.zero_le _, rfl, HI⟩
  case round =>
    obtain ⟨k, hkn, rfl, hr⟩ := hrel
    clear HI c1
    by_cases hlt : k < nd
    · have hlt' : (k : Int) < (nd : Int) := by omega
      have hk0 : (0 : Int) ≤ (k : Int) := by omega
      obtain ⟨t, v, F, rcv, ws, hV, hm, ef, hj, h0, h1, hc⟩ := HT.out k hlt
      obtain ⟨gd, rfl, cd'⟩ : ∃ gd, add = some ⟨gd, 0, none⟩ ∧ wr.cell? ⟨gd, k, none⟩ = some (.iface t v) := by
        rcases HD.out.2 with ⟨_, e⟩ | ⟨g, cap, cur, e, _⟩
        · omega
        · injection e with e1 _ e3
          refine ⟨g, e1, cell_later hr.out.2 ?_⟩
          have hd := HD.out
          rw [e1] at hd
          rw [hd.cellAt k (by omega), List.getElem?_map, List.getElem?_range hlt]
          show some (D k) = _
          rw [hV]
      have hsz1 := HS.out (k + 1) (by omega)
      rw [doneT_succ, ByteArray.size_append, ByteArray.size_append] at hsz1
      have HC : Hid (type_of% hc) := hc
      have HJ : Hid (type_of% hj) := hj
      have h10 : (⟨#[10]⟩ : ByteArray).size = 1 := rfl
      have hszT : (T k).size ≤ 1000000000000 := by omega
      have hszD : (doneT T k).size + (T k).size + 1 ≤ 1000000000000 := by omega
      have CW : Hid (∀ W, Lib.IsBuilder bT bE w.heap.size w.heap.size (Lib.strCells (doneT T k)) W → Below w.heap.size w W → Calls Tryz.prog 21 #[.pointer (some ⟨w.heap.size, 0, none⟩), .string (T k)] W fun r w' => ∃ x, r = .returned (.tuple #[.int .i64 x, .nilIface]) ∧ Hid (Lib.IsBuilder bT bE w.heap.size w.heap.size (Lib.strCells (doneT T k) ++ Lib.strCells (T k)) w' ∧ Below w.heap.size w w')) := fun W hI hW => by
        refine (Any.Builder_WriteString Tryz.wstrL Tryz.wstrX w.heap.size w.heap.size _ (T k) W hI (by rw [Lib.strCells_length]; omega) hW.size).mono ?_
        rintro r w' ⟨rfl, q1, q2⟩
        exact ⟨_, rfl, .inr q1, hW.trans q2⟩
      have CB : Hid (∀ W, Lib.IsBuilder bT bE w.heap.size w.heap.size (Lib.strCells (doneT T k) ++ Lib.strCells (T k)) W → Below w.heap.size w W → Calls Tryz.prog 23 #[.pointer (some ⟨w.heap.size, 0, none⟩), .int .u8 10] W fun r w' => r = .returned .nilIface ∧ Hid (Lib.IsBuilder bT bE w.heap.size w.heap.size (Lib.strCells (doneT T (k + 1))) w' ∧ Below w.heap.size w w')) := fun W hI hW => by
        refine (Any.Builder_WriteByte Tryz.wbyteL Tryz.wbyteX w.heap.size w.heap.size _ 10 W hI (by rw [List.length_append, Lib.strCells_length, Lib.strCells_length]; omega) hW.size).mono ?_
        rintro r w' ⟨rfl, q1, q2⟩
        rw [doneT_cells]
        exact ⟨rfl, .inr q1, hW.trans q2⟩
      clear hc hj hV hsz1 h10 HS
      go_wp2_with (first
        | (go_at_fn F; with_reducible refine Calls.mono (HC.out _ hr.out.2) ?_; rintro e w1 ⟨u, rfl, h1q⟩)
        | (go_at_call 22; with_reducible refine Calls.mono (join_any ws (T k) u _ _ HJ.out h0 h1 h1q.out.1 hszT) ?_; rintro e w2 ⟨rfl, hb2⟩; have hb12 := h1q.out.2.trans (hb2.mono h1q.out.2.size); have hbw2 := hr.out.2.trans (hb12.mono hr.out.2.size); have hI2 := IsB.mv hr.out.1 hb12)
        | (go_at_call 21; with_reducible refine Calls.mono (CW.out _ hI2 hbw2) ?_; rintro e w3 ⟨x, rfl, h3q⟩)
        | (go_at_call 23; with_reducible refine Calls.mono (CB.out _ h3q.out.1 h3q.out.2) ?_; rintro e w4 ⟨rfl, h4q⟩))
      exact ⟨⟨k + 1, by omega, by go_num, h4q⟩, by simp [intOf]; omega⟩
    · have hlt' : ¬ (k : Int) < (nd : Int) := by omega
      obtain rfl : k = nd := by omega
      have CS : Hid (Calls Tryz.prog 24 #[.pointer (some ⟨w.heap.size, 0, none⟩)] wr fun r w' => r = .returned (.string (doneT T k)) ∧ Below w.heap.size w w') := by
        refine (Any.Builder_String_any Tryz.bstrL Tryz.bstrX w.heap.size w.heap.size (doneT T k).data.toList wr hr.out.1 hr.out.2.size).mono ?_
        rintro r w' ⟨rfl, q⟩
        exact ⟨rfl, hr.out.2.trans q⟩
      go_wp2_with (go_at_call 24; with_reducible refine Calls.mono CS.out ?_; rintro e w5 ⟨rfl, hb5⟩)
      go_ret
      exact ⟨rfl, hb5⟩
/-- Write. -/
theorem progWrite (B : Nat) (s : St) (Fp : Nat → Prop) (w : World) (h : ProgIs w B s Fp) (ho : s.Ok) (ht : Tabs w) :
    Calls Tryz.prog 11 #[.pointer (some ⟨B, 0, none⟩)] w fun r w' => r = .returned (.string s.tx) ∧ Below w.heap.size w w' := by
  obtain ⟨k, kd, mm, ff, F, gl, cl, xa, xm, kk, h1, h2⟩ := h
  obtain ⟨D, T, e1, e2, hT⟩ := progTells h1 ho ht
  have hsz := h1.tx.sz
  have hne := ho.ne
  have hna := ho.na
  have hlk := ho.lk
  have hdn := h1.bk.dn
  rw [e1] at hdn
  rw [e2]
  rw [e2] at hsz
  exact write_any B k.nd k.cd k.add D T w (blk_cell' h1.bk.bk (o := 1) rfl) hdn hT (h1.ndb ho) (by omega)
end Go.Proofs.YtjnmoddcodnadaaGreatDoor
