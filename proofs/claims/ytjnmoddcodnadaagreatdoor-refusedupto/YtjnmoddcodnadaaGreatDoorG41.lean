import Derived.Test.YtjnmoddcodnadaaGreatDoorG40
import Derived.Deep.RegionLaw
import Derived.Test.YtjnmoddcodnadaaGreatDoorG23
set_option linter.unusedVariables false
set_option linter.unusedSimpArgs false
namespace Go.Proofs.YtjnmoddcodnadaaGreatDoor
open Go.RowKit Go.Annal
/-- strconv.Itoa, as one step of a region that draws. -/
theorem step_itoa {ops : Array Oper} {o : Oper} {a : Act} {w : World} {K : Act → World → Prop} {Q : Exit → Act → World → Prop} {E : Prop} (t : Nat) (n : Int) (s : ByteArray) {P : World → Prop}
    (hg : o.guard = none) (hop : o.op = Op.call { callee := Callee.value (Operand.func 135), args := #[Operand.tmp t], argTypes := #[3] }) (hv : a.eval (Operand.tmp t) = .int .i64 n)
    (C : Calls Tryz.prog 135 #[.int .i64 n] w fun r w' => r = .returned (.string s) ∧ P w')
    (hK : ∀ w', P w' → K (a.put o.dst (.string s)) w') :
    if Region.wanted o (yielded ops a.tmps) = true then Oper.wp Tryz.prog o a w K Q else E := by
  have hw : Region.wanted o (yielded ops a.tmps) = true := by simp [Region.wanted, hg]
  rw [if_pos hw]
  unfold Oper.wp
  simp only [execOp, hop, resolve]
  simp only [List.map_toArray, List.map_cons, List.map_nil, hv]
  go_simp
  refine Calls.mono C ?_
  rintro r w' ⟨rfl, hp⟩
  exact hK w' hp
end Go.Proofs.YtjnmoddcodnadaaGreatDoor
namespace Go.Annal
open Go.Proofs.YtjnmoddcodnadaaGreatDoor
def postW (day : Int) (xa : Nat → ByteArray) (xm : Nat → Int) : Nat → List ByteArray
  | 0 => [⟨#[112]⟩, digB day]
  | k + 1 => postW day xa xm k ++ [xa k, digB (xm k)]
theorem postW_len (day : Int) (xa : Nat → ByteArray) (xm : Nat → Int) : ∀ n, (postW day xa xm n).length = 2 + 2 * n
  | 0 => rfl
  | n + 1 => by rw [postW, List.length_append, postW_len day xa xm n]; simp; omega
end Go.Annal
namespace Go.Proofs.YtjnmoddcodnadaaGreatDoor
open Go.RowKit Go.Annal Go.Sort
set_option maxHeartbeats 4000000 in
set_option maxRecDepth 100000 in
theorem wordsPost_any (day : Int) (g n c : Nat) (xa : Nat → ByteArray) (xm : Nat → Int) (w : World) (ht : Tabs w) (h1 : -1000000000000000000 < day) (h2 : day < 1000000000000000000) (hL : LinesAt w g 0 n xa xm) (hn : n ≤ 100) (hm : ∀ k, k < n → -1000000000000000000 < xm k ∧ xm k < 1000000000000000000) :
    Calls Tryz.prog 242 #[.agg #[.int .i64 day, .slice (some ⟨g, 0, none⟩) n c]] w fun r w' => ∃ v, r = .returned v ∧ Hid (w'.ownsRow w.heap.size 9 1 v (2 + 2 * n) (strV (postW day xa xm n)) ∧ Below w.heap.size w w') := by
  obtain ⟨i0, hi, hz0, hz1, hz2⟩ := info_parts Tryz.infoStr
  have hka : Grew w (w.alloc (.cells #[.int .i64 day, .slice (some ⟨g, 0, none⟩) n c] 124)) := (Grew.refl _).alloc _
  have hbp := heap_alloc_new w (.cells #[.int .i64 day, .slice (some ⟨g, 0, none⟩) n c] 124)
  have p0 : (w.alloc (.cells #[.int .i64 day, .slice (some ⟨g, 0, none⟩) n c] 124)).cell? ⟨w.heap.size, 0, none⟩ = some (.int .i64 day) := blk_cell' hbp rfl
  have p1 : (w.alloc (.cells #[.int .i64 day, .slice (some ⟨g, 0, none⟩) n c] 124)).cell? ⟨w.heap.size, 1, none⟩ = some (.slice (some ⟨g, 0, none⟩) n c) := blk_cell' hbp rfl
  obtain ⟨W1, hW1⟩ : ∃ W1, w.alloc (.cells #[.int .i64 day, .slice (some ⟨g, 0, none⟩) n c] 124) = W1 := ⟨_, rfl⟩
  rw [hW1] at hka hbp p0 p1
  have C : Hid (∀ W, Below w.heap.size w W → _) := fun W hW => dayWord_any day W (ht.below hW) h1 h2
  have CI : Hid (∀ W k, k < n → Below w.heap.size w W → Calls Tryz.prog 135 #[.int .i64 (xm k)] W fun r w' => r = .returned (.string (digB (xm k))) ∧ Below W.heap.size W w') := fun W k hk hW => itoa_any (xm k) W (ht.below hW) (hm k hk).1 (hm k hk).2
  have HL : Hid (type_of% hL) := hL
  have hkb := hka.below
  clear hL ht hm
  go_enter Tryz.func242, Tryz.ntmps242
  go_wp2_with (go_at_call 239; with_reducible refine Calls.mono (C.out _ ?_) ?_; (first | exact hkb.drew | exact hkb); rintro e w3 ⟨rfl, hb3⟩; have hb13 : Below W1.heap.size W1 w3 := (by first | exact below_drew hb3 | exact hb3); have p13 := cell_later hb13 p1; have p14 := ((Grew.refl w3).alloc (.cells #[.string ⟨#[112]⟩, .string (digB day)] 9)).cell' p13)
  have hbw := hkb.trans (hb13.mono hkb.size)
  have ho4 : (w3.alloc (.cells #[.string ⟨#[112]⟩, .string (digB day)] 9)).ownsRow w.heap.size 9 1 (.slice (some ⟨w3.heap.size, 0, none⟩) 2 2) 2 (strV (postW day xa xm 0)) := owns_made hbw.size (by decide) rfl
  have hb4 := hbw.alloc hbw.size (.cells #[.string ⟨#[112]⟩, .string (digB day)] 9)
  obtain ⟨W4, hW4⟩ : ∃ W4, w3.alloc (.cells #[.string ⟨#[112]⟩, .string (digB day)] 9) = W4 := ⟨_, rfl⟩
  rw [hW4] at ho4 hb4 p14 ⊢
  clear hW4 p0 p1 p13 hbp hW1 hb3 hb13 hbw C hka hkb
  have HO : Hid (W4.ownsRow w.heap.size 9 1 (.slice (some ⟨w3.heap.size, 0, none⟩) 2 2) (2 + 2 * 0) (strV (postW day xa xm 0)) ∧ Below w.heap.size w W4) := ⟨ho4, hb4⟩
  clear ho4 hb4
  go_wp2_with fail
  go_loopw [3, 5, 15] (fun s3 _ s15 wr => ∃ k : Nat, k ≤ n ∧ s15 = .int .i64 k ∧ Hid (wr.ownsRow w.heap.size 9 1 s3 (2 + 2 * k) (strV (postW day xa xm k)) ∧ Below w.heap.size w wr)) (fun _ _ s15 _ => n - (intOf s15).toNat)
  case atStart => exact ⟨0, Nat.zero_le _, rfl, HO⟩
  case round =>
    obtain ⟨k, hkn, rfl, hr⟩ := hrel
    clear HO p14
    by_cases hlt : k < n
    · have hlt' : (k : Int) < (n : Int) := by omega
      have hk0 : (0 : Int) ≤ (k : Int) := by omega
      have hL := HL.out.mv hr.out.2
      have l0 := hL.ca k hlt
      have l1 := hL.cm k hlt
      rw [Nat.zero_add] at l0 l1
      have hbp := heap_alloc_new wr (.cells #[.string (xa k), .int .i64 (xm k)] 58)
      have m0 : (wr.alloc (.cells #[.string (xa k), .int .i64 (xm k)] 58)).cell? ⟨wr.heap.size, 0, none⟩ = some (.string (xa k)) := blk_cell' hbp rfl
      have m1 : (wr.alloc (.cells #[.string (xa k), .int .i64 (xm k)] 58)).cell? ⟨wr.heap.size, 1, none⟩ = some (.int .i64 (xm k)) := blk_cell' hbp rfl
      have hbr := hr.out.2
      have hor := hr.out.1
      have hb5 : Below w.heap.size w (wr.alloc (.cells #[.string (xa k), .int .i64 (xm k)] 58)).drew := (hbr.alloc hbr.size _).drew
      have ho5 := (hor.alloc (.cells #[.string (xa k), .int .i64 (xm k)] 58)).drew
      have CK := CI.out (wr.alloc (.cells #[.string (xa k), .int .i64 (xm k)] 58)).drew k hlt hb5
      go_wp2_with fail
      go_region_law (first
        | (refine step_itoa 23 (xm k) (digB (xm k)) (by rfl) (by rfl) (by rfl) CK ?_; intro w6 hb6; have hb6' : Below (wr.alloc (.cells #[.string (xa k), .int .i64 (xm k)] 58)).heap.size (wr.alloc (.cells #[.string (xa k), .int .i64 (xm k)] 58)) w6 := below_drew hb6; have m06 := cell_later hb6' m0; have ho6 := owns_mv (hor.alloc (.cells #[.string (xa k), .int .i64 (xm k)] 58)) hb6'; have hbw6 : Below w.heap.size w w6 := (hbr.alloc hbr.size _).trans (hb6'.mono (hbr.alloc hbr.size _).size))
        | (refine step_append_lies _ (by rfl) _ _ _ (by rfl) w.heap.size 9 i0 _ 1 16 Tryz.underlying76 hi hz0 hz1 hz2 rfl (by decide) _ (2 + 2 * k) _ (by rfl) (ho6.alloc _) ⟨w6.heap.size, 0, none⟩ 2 2 [.string (xa k), .string (digB (xm k))] (by rfl) rfl (World.news_of_block (cs := #[.string (xa k), .string (digB (xm k))]) (heap_alloc_new w6 _)) (by simp [Value.oneCell']) (by decide) (by unfold maxLen; omega) (by omega) (by have := hbw6.size; simp; omega) (w6.heap.size + 1) (by simp) ?_; intro g7 cap7 w7 hown7 hg7 hat7 hlt7; have hb7 : Below w.heap.size w w7 := (hbw6.alloc hbw6.size (.cells #[.string (xa k), .string (digB (xm k))] 9)).grown hg7 (by have := hbw6.size; simp; omega) (fun x hx => (ho6.lt x hx).1)))
      all_goals go_wp2
      all_goals exact ⟨⟨k + 1, by omega, by go_num, by
        show _ ∧ _
        refine ⟨?_, hb7⟩
        have e1 : strV (postW day xa xm (k + 1)) = strV (postW day xa xm k) ++ [.string (xa k), .string (digB (xm k))] := by unfold strV; rw [postW, List.map_append]; rfl
        rw [e1, show 2 + 2 * (k + 1) = 2 + 2 * k + 2 by omega]
        exact hown7⟩, by simp [intOf]; omega⟩
    · have hlt' : ¬ (k : Int) < (n : Int) := by omega
      obtain rfl : k = n := by omega
      go_wp2
      go_ret
      exact ⟨_, rfl, hr⟩
end Go.Proofs.YtjnmoddcodnadaaGreatDoor
namespace Go.Annal
open Go.Proofs.YtjnmoddcodnadaaGreatDoor
def bl (ws : List ByteArray) : List (List UInt8) := ws.map (fun x => x.data.toList)
theorem join_two (l : List (List UInt8)) (a b s : List UInt8) (h : l ≠ []) : Lib.join (l ++ [a, b]) s = Lib.join l s ++ s ++ a ++ s ++ b := by
  induction l with
  | nil => exact absurd rfl h
  | cons x r ih =>
    cases r with
    | nil => simp [Lib.join, List.intercalate, List.intersperse]
    | cons y r =>
      have := ih (by simp)
      simp only [Lib.join, List.intercalate, List.intersperse, List.cons_append, List.flatten_cons] at this ⊢
      rw [this]
      simp [List.append_assoc]
def evW (day : Int) (xa : Nat → ByteArray) (xm : Nat → Int) (n : Nat) : EvK → List ByteArray
  | .post => postW day xa xm n
  | .rev u => [⟨#[114]⟩, digB u]
  | .close into => [⟨#[99]⟩, digB day, into]
theorem postW_ne (day : Int) (xa : Nat → ByteArray) (xm : Nat → Int) (n : Nat) : bl (postW day xa xm n) ≠ [] := fun e => by
  have := congrArg List.length e
  unfold bl at this
  rw [List.length_map, postW_len] at this
  simp at this
theorem postW_join (day : Int) (xa : Nat → ByteArray) (xm : Nat → Int) : ∀ n, Lib.join (bl (postW day xa xm n)) [32] = (postT day xa xm n).data.toList
  | 0 => by simp [postW, postT, bl, Lib.join, List.intercalate, List.intersperse]
  | n + 1 => by
    have h := postW_join day xa xm n
    have e : bl (postW day xa xm (n + 1)) = bl (postW day xa xm n) ++ [(xa n).data.toList, digZ (xm n)] := by unfold bl; rw [postW, List.map_append]; rfl
    rw [e, join_two _ _ _ _ (postW_ne day xa xm n), h]
    simp [postT]
theorem evW_join (day : Int) (xa : Nat → ByteArray) (xm : Nat → Int) (n : Nat) (e : EvK) : Lib.join (bl (evW day xa xm n e)) [32] = (evT day xa xm n e).data.toList := by
  cases e with
  | post => exact postW_join day xa xm n
  | rev u => simp [evW, evT, bl, Lib.join, List.intercalate, List.intersperse]
  | close s => simp [evW, evT, bl, Lib.join, List.intercalate, List.intersperse]
end Go.Annal
namespace Go.Proofs.YtjnmoddcodnadaaGreatDoor
open Go.RowKit Go.Annal Go.Sort
theorem wm_opening (w : World) (name : ByteArray) (kind : Int) : (method 397 140 (.agg #[.string name, .int .i64 kind]) "annal/annal.words").run Tryz.prog w = .ok (246, .agg #[.string name, .int .i64 kind]) w := by kernel_rfl
theorem wm_locking (w : World) (day : Int) : (method 397 131 (.agg #[.int .i64 day]) "annal/annal.words").run Tryz.prog w = .ok (245, .agg #[.int .i64 day]) w := by kernel_rfl
theorem wm_posting (w : World) (day : Int) (a : Option Addr) (n c : Nat) : (method 397 124 (.agg #[.int .i64 day, .slice a n c]) "annal/annal.words").run Tryz.prog w = .ok (242, .agg #[.int .i64 day, .slice a n c]) w := by kernel_rfl
theorem wm_reversal (w : World) (day u : Int) (a : Option Addr) (n c : Nat) : (method 397 127 (.agg #[.int .i64 day, .slice a n c, .int .i64 u]) "annal/annal.words").run Tryz.prog w = .ok (244, .agg #[.int .i64 day, .slice a n c, .int .i64 u]) w := by kernel_rfl
theorem wm_closing (w : World) (day : Int) (u : ByteArray) (a : Option Addr) (n c : Nat) : (method 397 136 (.agg #[.int .i64 day, .slice a n c, .string u]) "annal/annal.words").run Tryz.prog w = .ok (247, .agg #[.int .i64 day, .slice a n c, .string u]) w := by kernel_rfl
/-- What a deed tells of itself: its words, which joined are its line. -/
def Tells (w : World) (V : Value) (T : ByteArray) : Prop := ∃ t v F rcv ws, V = .iface t v ∧ (∀ w, (method 397 t v "annal/annal.words").run Tryz.prog w = .ok (F, rcv) w) ∧ (∀ args w, (callFunc F args).run Tryz.prog w = .ok (.enter F args) w) ∧ Lib.join (bl ws) [32] = T.data.toList ∧ 0 < ws.length ∧ ws.length ≤ 1000 ∧ ∀ W, Below w.heap.size w W → Calls Tryz.prog F #[rcv] W fun r w' => ∃ u, r = .returned u ∧ Hid (w'.ownsRow W.heap.size 9 1 u ws.length (strV ws) ∧ Below W.heap.size W w')
theorem tells_open (name : ByteArray) (kind : Int) (w : World) (ht : Tabs w) (h1 : -1000000000000000000 < kind) (h2 : kind < 1000000000000000000) : Tells w (.iface 140 (.agg #[.string name, .int .i64 kind])) (⟨#[111, 32]⟩ ++ name ++ ⟨#[32]⟩ ++ ⟨(digZ kind).toArray⟩) :=
  ⟨_, _, _, _, [⟨#[111]⟩, name, digB kind], rfl, fun w => wm_opening w _ _, enters_of Tryz.func246 (by kernel_rfl) rfl, by simp [bl, Lib.join, List.intercalate, List.intersperse], by simp, by simp, fun W hW => wordsOpen_any name kind W (ht.below hW) h1 h2⟩
theorem tells_lock (day : Int) (w : World) (ht : Tabs w) (h1 : -1000000000000000000 < day) (h2 : day < 1000000000000000000) : Tells w (.iface 131 (.agg #[.int .i64 day])) (⟨#[108, 32]⟩ ++ ⟨(digZ day).toArray⟩) :=
  ⟨_, _, _, _, [⟨#[108]⟩, digB day], rfl, fun w => wm_locking w _, enters_of Tryz.func245 (by kernel_rfl) rfl, by simp [bl, Lib.join, List.intercalate, List.intersperse], by simp, by simp, fun W hW => wordsLock_any day W (ht.below hW) h1 h2⟩
theorem tells_ev (day : Int) (g n c : Nat) (xa : Nat → ByteArray) (xm : Nat → Int) (e : EvK) (w : World) (ht : Tabs w) (h1 : -1000000000000000000 < day) (h2 : day < 1000000000000000000) (hu : -1000000000000000000 < e.un ∧ e.un < 1000000000000000000) (hL : LinesAt w g 0 n xa xm) (hn : n ≤ 100) (hm : ∀ k, k < n → -1000000000000000000 < xm k ∧ xm k < 1000000000000000000) : Tells w (evV day g n c e) (evT day xa xm n e) := by
  cases e with
  | post => exact ⟨_, _, _, _, postW day xa xm n, rfl, fun w => wm_posting w _ _ _ _, enters_of Tryz.func242 (by kernel_rfl) rfl, postW_join day xa xm n, by rw [postW_len]; omega, by rw [postW_len]; omega, fun W hW => by rw [postW_len]; exact wordsPost_any day g n c xa xm W (ht.below hW) h1 h2 (hL.mv hW) hn hm⟩
  | rev u => exact ⟨_, _, _, _, [⟨#[114]⟩, digB u], rfl, fun w => wm_reversal w _ _ _ _ _, enters_of Tryz.func244 (by kernel_rfl) rfl, evW_join day xa xm n (.rev u), by simp, by simp, fun W hW => wordsRev_any day u g n c W (ht.below hW) hu.1 hu.2⟩
  | close s => exact ⟨_, _, _, _, [⟨#[99]⟩, digB day, s], rfl, fun w => wm_closing w _ _ _ _ _, enters_of Tryz.func247 (by kernel_rfl) rfl, evW_join day xa xm n (.close s), by simp, by simp, fun W hW => wordsClose_any day g n c s W (ht.below hW) h1 h2⟩
end Go.Proofs.YtjnmoddcodnadaaGreatDoor
namespace Go.Proofs.YtjnmoddcodnadaaGreatDoor
open Go.RowKit Go.Annal Go.Sort
theorem doneT_mono (f : Nat → ByteArray) : ∀ n m, n ≤ m → (doneT f n).size ≤ (doneT f m).size
  | n, 0, h => by
    have e : n = 0 := by omega
    rw [e]
    exact Nat.le_refl _
  | n, m + 1, h => by
    rcases Nat.lt_or_ge n (m + 1) with h1 | h1
    · have := doneT_mono f n m (by omega)
      rw [doneT_succ, ByteArray.size_append, ByteArray.size_append]; omega
    · obtain rfl : n = m + 1 := by omega
      exact Nat.le_refl _
theorem doneT_cells (f : Nat → ByteArray) (k : Nat) : Lib.strCells (doneT f (k + 1)) = Lib.strCells (doneT f k) ++ Lib.strCells (f k) ++ [.int .u8 10] := by
  rw [doneT_succ]
  unfold Lib.strCells
  simp
/-- All that a book's deeds tell. -/
theorem progTells {w : World} {B : Nat} {s : St} {k : Bk} {kd : Nat → Int} {mm : Nat → Nat} {ff : Nat → Nat → It} {F : Nat → Prop} {gl cl : Nat → Nat} {xa : Nat → Nat → ByteArray} {xm : Nat → Nat → Int} {kk : Nat → EvK} (h : ProgAt w B s k kd mm ff F gl cl xa xm kk) (ho : s.Ok) (ht : Tabs w) :
    ∃ (D : Nat → Value) (T : Nat → ByteArray), k.ds = (List.range k.nd).map D ∧ s.tx = doneT T k.nd ∧ ∀ j, j < k.nd → Tells w (D j) (T j) := by
  obtain ⟨D, h1, h2, h3⟩ := h.tx.tx
  refine ⟨_, _, h1, h2, fun j hj => ?_⟩
  have hok := h3 j hj
  cases hD : D j with
  | opens name kind =>
    rw [hD] at hok
    exact tells_open name kind w ht (by have := hok.1; omega) (by have := hok.2; omega)
  | locks day =>
    rw [hD] at hok
    exact tells_lock day w ht (by have := hok.1; omega) (by have := hok.2; omega)
  | enters i =>
    rw [hD] at hok
    have hi : i < s.ne := hok
    have hd := ho.dd i hi
    have hu := h.un i hi
    have hne := ho.ne
    have hln := ho.ln i hi
    refine tells_ev (s.dy i) (gl i) (s.ln i) (cl i) (xa i) (xm i) (kk i) w ht (by omega) (by omega) ⟨by omega, by omega⟩ (linesK_lines (h.lo i hi) (ho.l1 i hi)).1 (by omega) (fun l hl => ?_)
    obtain ⟨i', hi', _, e2⟩ := perm_mem (h.pl i hi) hl
    have := ho.bd i hi i' hi'
    rw [← e2]; omega
abbrev bT : TypeId := 63
abbrev bE : TypeId := 5
theorem IsB.mv {B b : Nat} {bs : List Value} {w w' : World} (h : Lib.IsBuilder bT bE B b bs w) (hb : Below w.heap.size w w') : Lib.IsBuilder bT bE B b bs w' := by
  have key : ∀ p, Lib.BuilderAt bT bE B b p bs w → Lib.BuilderAt bT bE B b p bs w' := by
    rintro p ⟨h1, v, h2, h3, h4⟩
    exact ⟨h1, v, (hb.block _ (blk_lt h2)).trans h2, owns_mv h3 hb, h4⟩
  exact h.elim (fun h => .inl (key _ h)) (fun h => .inr (key _ h))
theorem join_any (ws : List ByteArray) (T : ByteArray) (u : Value) (base : Nat) (w : World) (hj : Lib.join (bl ws) [32] = T.data.toList) (h0 : 0 < ws.length) (h1 : ws.length ≤ 1000) (ho : w.ownsRow base 9 1 u ws.length (strV ws)) (hT : T.size ≤ 1000000000000) :
    Calls Tryz.prog 22 #[u, .string ⟨#[32]⟩] w fun r w' => r = .returned (.string T) ∧ Below w.heap.size w w' := by
  rcases ho.2 with ⟨_, e⟩ | ⟨g, cap, cur, rfl, hg, hc, hnc, _⟩
  · omega
  · have hl : (Lib.join (ws.map (·.data.toList)) [32]).length ≤ 140737488355328 := by
      rw [show Lib.join (ws.map (·.data.toList)) [32] = T.data.toList from hj, Array.length_toList]
      show T.size ≤ _; omega
    refine (Any.strings_Join Tryz.joinL Tryz.joinX g 0 cap ws ⟨#[32]⟩ w (fun j x hx => ?_) (blk_lt hc) (by omega) hnc hl).mono ?_
    · have hjl : j < ws.length := (List.getElem?_eq_some_iff.1 hx).1
      rw [Nat.zero_add, ho.cellAt j (by omega)]
      unfold strV
      rw [List.getElem?_map, hx]; rfl
    · rintro r w' ⟨rfl, hb⟩
      refine ⟨?_, hb⟩
      have e : Lib.join (ws.map (·.data.toList)) [32] = T.data.toList := hj
      show Ending.returned (.string ⟨(Lib.join (ws.map (·.data.toList)) [32]).toArray⟩) = _
      rw [e]
set_option maxHeartbeats 4000000 in
set_option maxRecDepth 100000 in
theorem write_any (B nd cd : Nat) (add : Option Addr) (D : Nat → Value) (T : Nat → ByteArray) (w : World) (cD : w.cell? ⟨B, 1, none⟩ = some (.slice add nd cd)) (hd : w.ownsRow 0 70 1 (.slice add nd cd) nd ((List.range nd).map D)) (hT : ∀ j, j < nd → Tells w (D j) (T j)) (hnd : nd ≤ 100000) (hsz : (doneT T nd).size ≤ 1000000000000) :
    Calls Tryz.prog 11 #[.pointer (some ⟨B, 0, none⟩)] w fun r w' => r = .returned (.string (doneT T nd)) ∧ Below w.heap.size w w' := by
  have HT : Hid (type_of% hT) := hT
  have HD : Hid (type_of% hd) := hd
  have hb0 : Below w.heap.size w (w.alloc (.cells #[.pointer none, .slice none 0 0] 63)) := ((Grew.refl w).alloc _).below
  have hB0 : Lib.IsBuilder bT bE w.heap.size w.heap.size [] (w.alloc (.cells #[.pointer none, .slice none 0 0] 63)) := Lib.fresh_isBuilder bT bE w
  have c1 := ((Grew.refl w).alloc (.cells #[.pointer none, .slice none 0 0] 63)).cell' cD
  have HS : Hid (∀ j, j ≤ nd → (doneT T j).size ≤ 1000000000000) := fun j hj => Nat.le_trans (doneT_mono T j nd hj) hsz
  clear hT hd cD
  go_enter Tryz.func11, Tryz.ntmps11
  go_wp2_with fail
  have HI : Hid (Lib.IsBuilder bT bE w.heap.size w.heap.size (Lib.strCells (doneT T 0)) (w.alloc (.cells #[.pointer none, .slice none 0 0] 63)) ∧ Below w.heap.size w (w.alloc (.cells #[.pointer none, .slice none 0 0] 63))) := ⟨hB0, hb0⟩
  clear hB0 hb0
  go_loopw [5, 11] (fun _ s11 wr => ∃ k : Nat, k ≤ nd ∧ s11 = .int .i64 k ∧ Hid (Lib.IsBuilder bT bE w.heap.size w.heap.size (Lib.strCells (doneT T k)) wr ∧ Below w.heap.size w wr)) (fun _ s11 _ => nd - (intOf s11).toNat)
  case atStart => exact ⟨0, Nat.zero_le _, rfl, HI⟩
  case round =>
    obtain ⟨k, hkn, rfl, hr⟩ := hrel
    clear HI c1
    by_cases hlt : k < nd
    · have hlt' : (k : Int) < (nd : Int) := by omega
      have hk0 : (0 : Int) ≤ (k : Int) := by omega
      obtain ⟨t, v, F, rcv, ws, hV, hm, ef, hj, h0, h1, hc⟩ := HT.out k hlt
      obtain ⟨gd, rfl, cd'⟩ : ∃ gd, add = some ⟨gd, 0, none⟩ ∧ wr.cell? ⟨gd, k, none⟩ = some (.iface t v) := by
        rcases HD.out.2 with ⟨_, e⟩ | ⟨g, cap, cur, e, _⟩
        · omega
        · injection e with e1 _ e3
          refine ⟨g, e1, cell_later hr.out.2 ?_⟩
          have hd := HD.out
          rw [e1] at hd
          rw [hd.cellAt k (by omega), List.getElem?_map, List.getElem?_range hlt]
          show some (D k) = _
          rw [hV]
      have hsz1 := HS.out (k + 1) (by omega)
      rw [doneT_succ, ByteArray.size_append, ByteArray.size_append] at hsz1
      have HC : Hid (type_of% hc) := hc
      have HJ : Hid (type_of% hj) := hj
      have h10 : (⟨#[10]⟩ : ByteArray).size = 1 := rfl
      have hszT : (T k).size ≤ 1000000000000 := by omega
      have hszD : (doneT T k).size + (T k).size + 1 ≤ 1000000000000 := by omega
      have CW : Hid (∀ W, Lib.IsBuilder bT bE w.heap.size w.heap.size (Lib.strCells (doneT T k)) W → Below w.heap.size w W → Calls Tryz.prog 21 #[.pointer (some ⟨w.heap.size, 0, none⟩), .string (T k)] W fun r w' => ∃ x, r = .returned (.tuple #[.int .i64 x, .nilIface]) ∧ Hid (Lib.IsBuilder bT bE w.heap.size w.heap.size (Lib.strCells (doneT T k) ++ Lib.strCells (T k)) w' ∧ Below w.heap.size w w')) := fun W hI hW => by
        refine (Any.Builder_WriteString Tryz.wstrL Tryz.wstrX w.heap.size w.heap.size _ (T k) W hI (by rw [Lib.strCells_length]; omega) hW.size).mono ?_
        rintro r w' ⟨rfl, q1, q2⟩
        exact ⟨_, rfl, .inr q1, hW.trans q2⟩
      have CB : Hid (∀ W, Lib.IsBuilder bT bE w.heap.size w.heap.size (Lib.strCells (doneT T k) ++ Lib.strCells (T k)) W → Below w.heap.size w W → Calls Tryz.prog 23 #[.pointer (some ⟨w.heap.size, 0, none⟩), .int .u8 10] W fun r w' => r = .returned .nilIface ∧ Hid (Lib.IsBuilder bT bE w.heap.size w.heap.size (Lib.strCells (doneT T (k + 1))) w' ∧ Below w.heap.size w w')) := fun W hI hW => by
        refine (Any.Builder_WriteByte Tryz.wbyteL Tryz.wbyteX w.heap.size w.heap.size _ 10 W hI (by rw [List.length_append, Lib.strCells_length, Lib.strCells_length]; omega) hW.size).mono ?_
        rintro r w' ⟨rfl, q1, q2⟩
        rw [doneT_cells]
        exact ⟨rfl, .inr q1, hW.trans q2⟩
      clear hc hj hV hsz1 h10 HS
      go_wp2_with (first
        | (go_at_fn F; with_reducible refine Calls.mono (HC.out _ hr.out.2) ?_; rintro e w1 ⟨u, rfl, h1q⟩)
        | (go_at_call 22; with_reducible refine Calls.mono (join_any ws (T k) u _ _ HJ.out h0 h1 h1q.out.1 hszT) ?_; rintro e w2 ⟨rfl, hb2⟩; have hb12 := h1q.out.2.trans (hb2.mono h1q.out.2.size); have hbw2 := hr.out.2.trans (hb12.mono hr.out.2.size); have hI2 := IsB.mv hr.out.1 hb12)
        | (go_at_call 21; with_reducible refine Calls.mono (CW.out _ hI2 hbw2) ?_; rintro e w3 ⟨x, rfl, h3q⟩)
        | (go_at_call 23; with_reducible refine Calls.mono (CB.out _ h3q.out.1 h3q.out.2) ?_; rintro e w4 ⟨rfl, h4q⟩))
      exact ⟨⟨k + 1, by omega, by go_num, h4q⟩, by simp [intOf]; omega⟩
    · have hlt' : ¬ (k : Int) < (nd : Int) := by omega
      obtain rfl : k = nd := by omega
      have CS : Hid (Calls Tryz.prog 24 #[.pointer (some ⟨w.heap.size, 0, none⟩)] wr fun r w' => r = .returned (.string (doneT T k)) ∧ Below w.heap.size w w') := by
        refine (Any.Builder_String_any Tryz.bstrL Tryz.bstrX w.heap.size w.heap.size (doneT T k).data.toList wr hr.out.1 hr.out.2.size).mono ?_
        rintro r w' ⟨rfl, q⟩
        exact ⟨rfl, hr.out.2.trans q⟩
      go_wp2_with (go_at_call 24; with_reducible refine Calls.mono CS.out ?_; rintro e w5 ⟨rfl, hb5⟩)
      go_ret
      exact ⟨rfl, hb5⟩
/-- Write. -/
theorem progWrite (B : Nat) (s : St) (Fp : Nat → Prop) (w : World) (h : ProgIs w B s Fp) (ho : s.Ok) (ht : Tabs w) :
    Calls Tryz.prog 11 #[.pointer (some ⟨B, 0, none⟩)] w fun r w' => r = .returned (.string s.tx) ∧ Below w.heap.size w w' := by
  obtain ⟨k, kd, mm, ff, F, gl, cl, xa, xm, kk, h1, h2⟩ := h
  obtain ⟨D, T, e1, e2, hT⟩ := progTells h1 ho ht
  have hsz := h1.tx.sz
  have hne := ho.ne
  have hna := ho.na
  have hlk := ho.lk
  have hdn := h1.bk.dn
  rw [e1] at hdn
  rw [e2]
  rw [e2] at hsz
  exact write_any B k.nd k.cd k.add D T w (blk_cell' h1.bk.bk (o := 1) rfl) hdn hT (h1.ndb ho) (by omega)
end Go.Proofs.YtjnmoddcodnadaaGreatDoor
namespace Go.Annal
open Go.Proofs.YtjnmoddcodnadaaGreatDoor
/-- The names that small books have, in their order. -/
def nmK (i : Nat) : ByteArray := ⟨#[([97, 98, 99, 120, 121, 122] : List UInt8).getD i 0]⟩
theorem nmK_inj : ∀ a, a < 6 → ∀ b, b < 6 → (nmK a).toList = (nmK b).toList → a = b := by
  simp only [ByteArray.toList_eq]
  decide
/-- A step, raw. -/
structure K5 where
  kind : Int
  day : Int
  a : Int
  b : Int
  c : Int
def lsI (q : K5) : Int := pickI q.a 6
def lsK (q : K5) : Int := (lsI q + 1 + pickI q.b 5) % 6
def lsJ (q : K5) : Int := if lsI q ≠ 0 ∧ lsK q ≠ 0 then 0 else if lsI q ≠ 1 ∧ lsK q ≠ 1 then 1 else 2
def lsS (q : K5) : Int := 1 + pickI q.c 1000
def lsP (q : K5) : Int := pickI (q.b.tdiv 6) (lsS q)
def lsN (q : K5) : Nat := if 0 < lsP q then 3 else 2
def lsA (q : K5) (j : Nat) : ByteArray := if j = 0 then nmK (lsI q).toNat else if j = 1 then nmK (lsK q).toNat else if j < lsN q then nmK (lsJ q).toNat else ⟨#[]⟩
def lsM (q : K5) (j : Nat) : Int := if j = 0 then - lsS q else if j = 1 then lsS q - lsP q else if j < lsN q then lsP q else 0
theorem lsI_bd (q : K5) : 0 ≤ lsI q ∧ lsI q < 6 := pickI_bd _ _ (by decide)
theorem lsK_bd (q : K5) : 0 ≤ lsK q ∧ lsK q < 6 := ⟨Int.emod_nonneg _ (by decide), Int.emod_lt_of_pos _ (by decide)⟩
theorem lsK_ne (q : K5) : lsK q ≠ lsI q := by
  have h1 := lsI_bd q
  have h2 := pickI_bd q.b (n := 5) (by decide)
  unfold lsK
  omega
theorem lsJ_bd (q : K5) : 0 ≤ lsJ q ∧ lsJ q < 3 ∧ lsJ q ≠ lsI q ∧ lsJ q ≠ lsK q := by
  have h := lsK_ne q
  unfold lsJ
  split
  · omega
  · split <;> omega
theorem lsS_bd (q : K5) : 1 ≤ lsS q ∧ lsS q ≤ 1000 := by
  have := pickI_bd q.c (n := 1000) (by decide)
  unfold lsS; omega
theorem lsP_bd (q : K5) : 0 ≤ lsP q ∧ lsP q < lsS q := pickI_bd _ _ (by have := lsS_bd q; omega)
/-- A small book: its accounts, and what its steps come to. -/
structure KOk (s : St) : Prop where
  ok : s.Ok
  na : s.na = 6
  fn : ∀ i, i < 6 → s.fn i = nmK i
  kd : ∀ i, i < 6 → s.kd i = if i < 3 then 0 else 1
  dd : ∀ k, k < s.ne → s.dy k ≤ 12
  lk : s.lk ≤ 11
  z : ∀ k, k < s.ne → sumN (s.lm k) (s.ln k) = 0
  nz : ∀ k, k < s.ne → ∀ j, j < s.ln k → s.lm k j ≠ 0
theorem KOk.there {s : St} (h : KOk s) {i : Nat} (hi : i < 6) : s.there (nmK i) = true := (there_iff _ _).2 ⟨i, by rw [h.na]; exact hi, by rw [h.fn i hi]⟩
theorem KOk.at {s : St} (h : KOk s) {i : Nat} (hi : i < 6) : atI s.fn s.na (nmK i) = i := by
  rw [h.na]
  exact atI_found _ _ _ i hi (h.fn i hi) (fun j hj e => by
    rw [h.fn j (by omega)] at e
    have := nmK_inj j (by omega) i hi (by rw [e])
    omega)
theorem ls_three (q : K5) (P : ByteArray → Prop) (h : ∀ i, i < 6 → P (nmK i)) : ∀ l, l < lsN q → P (lsA q l) := fun l hl => by
  have h1 := lsI_bd q
  have h2 := lsK_bd q
  have h3 := lsJ_bd q
  unfold lsA
  rw [if_pos hl]
  split
  · exact h _ (by omega)
  · split <;> exact h _ (by omega)
theorem ls_ne (q : K5) : ∀ a b, a < b → b < lsN q → (lsA q a).toList ≠ (lsA q b).toList := fun a b hab hb e => by
  have h1 := lsI_bd q
  have h2 := lsK_bd q
  have h3 := lsJ_bd q
  have h4 := lsK_ne q
  have hb3 : b < 3 := by unfold lsN at hb; split at hb <;> omega
  unfold lsA at e
  rw [if_pos hb, if_pos (show a < lsN q by omega)] at e
  rcases (show (a = 0 ∧ b = 1) ∨ (a = 0 ∧ b = 2) ∨ (a = 1 ∧ b = 2) by omega) with ⟨rfl, rfl⟩ | ⟨rfl, rfl⟩ | ⟨rfl, rfl⟩
  · simp at e; have := nmK_inj _ (by omega) _ (by omega) e; omega
  · simp at e; have := nmK_inj _ (by omega) _ (by omega) e; omega
  · simp at e; have := nmK_inj _ (by omega) _ (by omega) e; omega
theorem ls_amt (q : K5) : ∀ l, l < lsN q → lsM q l ≠ 0 ∧ -1000 ≤ lsM q l ∧ lsM q l ≤ 1000 := fun l hl => by
  have h1 := lsS_bd q
  have h2 := lsP_bd q
  unfold lsM
  rw [if_pos hl]
  unfold lsN at hl
  split
  · omega
  · split
    · omega
    · split at hl <;> omega
theorem ls_sum (q : K5) : sumN (lsM q) (lsN q) = 0 := by
  have := lsP_bd q
  by_cases h : 0 < lsP q
  · have e : lsN q = 3 := by unfold lsN; rw [if_pos h]
    rw [e]
    simp [sumN, lsM, e]; omega
  · have e : lsN q = 2 := by unfold lsN; rw [if_neg h]
    rw [e]
    simp [sumN, lsM]; omega
theorem ls_wrong {s : St} (h : KOk s) (q : K5) : wrongE s.there (lsA q) (lsM q) (lsN q) = 0 := by
  unfold wrongE
  have hn : 2 ≤ lsN q ∧ lsN q ≤ 3 := by unfold lsN; split <;> omega
  rw [if_neg (by omega), if_neg, if_neg, if_neg, if_pos (ls_sum q)]
  · rw [anyN_false (fun k hk => by
      have := ls_amt q k hk
      simp only [badAmt, Bool.or_eq_false_iff, decide_eq_false_iff_not]
      omega)]
    decide
  · rw [anyN_false (fun k hk => anyN_false (fun j hj => by
      have := ls_ne q j k hj hk
      simp
      exact fun e => this e.symm))]
    decide
  · rw [anyN_false (fun k hk => by rw [ls_three q (fun x => s.there x = true) (fun i hi => h.there hi) k hk]; rfl)]
    decide
/-- What comes behind: nothing that was there has turned; what is new is of days that were not locked. -/
structure St.Le (s t : St) : Prop where
  na : t.na = s.na
  fn : t.fn = s.fn
  kd : t.kd = s.kd
  ne : s.ne ≤ t.ne
  dy : ∀ k, k < s.ne → t.dy k = s.dy k
  ln : ∀ k, k < s.ne → t.ln k = s.ln k
  la : ∀ k, k < s.ne → t.la k = s.la k
  lm : ∀ k, k < s.ne → t.lm k = s.lm k
  lk : s.lk ≤ t.lk
  new : ∀ k, s.ne ≤ k → k < t.ne → s.lk < t.dy k
theorem St.Le.refl (s : St) : s.Le s := ⟨rfl, rfl, rfl, Nat.le_refl _, fun _ _ => rfl, fun _ _ => rfl, fun _ _ => rfl, fun _ _ => rfl, Int.le_refl _, fun k h h' => by omega⟩
theorem St.Le.trans {s t u : St} (h : s.Le t) (g : t.Le u) : s.Le u := by
  have hn := h.ne
  refine ⟨g.na.trans h.na, g.fn.trans h.fn, g.kd.trans h.kd, Nat.le_trans hn g.ne, fun k hk => (g.dy k (by omega)).trans (h.dy k hk), fun k hk => (g.ln k (by omega)).trans (h.ln k hk), fun k hk => (g.la k (by omega)).trans (h.la k hk), fun k hk => (g.lm k (by omega)).trans (h.lm k hk), Int.le_trans h.lk g.lk, fun k h1 h2 => ?_⟩
  by_cases hk : k < t.ne
  · rw [g.dy k hk]; exact h.new k h1 hk
  · have := g.new k (by omega) h2
    have := h.lk
    omega
theorem St.Le.one {s : St} {day : Int} {xa : Nat → ByteArray} {xm : Nat → Int} {n : Nat} {gn : Nat → Bool} {lk : Int} {tx : ByteArray} (hd : s.lk < day) (hl : s.lk ≤ lk) :
    s.Le { s with ne := s.ne + 1, dy := upd s.dy s.ne day, gn := gn, ln := upd s.ln s.ne n, la := upd s.la s.ne xa, lm := upd s.lm s.ne xm, lk := lk, tx := tx } :=
  ⟨rfl, rfl, rfl, Nat.le_succ _, fun k hk => upd_ne _ _ (by omega), fun k hk => upd_ne _ _ (by omega), fun k hk => upd_ne _ _ (by omega), fun k hk => upd_ne _ _ (by omega), hl, fun k h1 h2 => by
    have : k = s.ne := by simp only at h2; omega
    subst this
    simp only [upd_same]; exact hd⟩
theorem St.amt_le {s t : St} (h : s.Le t) (x : ByteArray) {k : Nat} (hk : k < s.ne) : t.amt x k = s.amt x k := by
  unfold St.amt
  rw [h.la k hk, h.lm k hk, h.ln k hk]
/-- WHAT WAS KNOWN STAYS. -/
theorem St.known_le {s t : St} (h : s.Le t) (x : ByteArray) (day : Int) {n : Nat} (hn : n ≤ s.ne) : enS t.dy t.la t.lm x day t.ln n = enS s.dy s.la s.lm x day s.ln n := by
  rw [enS_sF, enS_sF]
  refine sF_congr n (fun k hk => ?_)
  unfold upD
  simp only [h.dy k (by omega), h.la k (by omega), h.lm k (by omega), h.ln k (by omega)]
/-- What is locked stays. -/
theorem St.locked_le {s t : St} (h : s.Le t) (x : ByteArray) {day : Int} (hd : day ≤ s.lk) : enS t.dy t.la t.lm x day t.ln t.ne = enS s.dy s.la s.lm x day s.ln s.ne := by
  have h1 := St.known_le h x day (Nat.le_refl s.ne)
  rw [← h1]
  have key : ∀ j, s.ne + j ≤ t.ne → enS t.dy t.la t.lm x day t.ln (s.ne + j) = enS t.dy t.la t.lm x day t.ln s.ne := by
    intro j
    induction j with
    | zero => intro _; rfl
    | succ j ih =>
      intro hle
      have hi := ih (by omega)
      rw [enS_sF, enS_sF] at hi ⊢
      show sF _ (s.ne + j) + _ = _
      rw [hi]
      have hnw := h.new (s.ne + j) (by omega) (by omega)
      have e : upD t.dy (fun i => am (t.la i) (t.lm i) x (t.ln i)) day (s.ne + j) = 0 := by unfold upD; rw [if_neg (by omega)]
      have e' : upD t.dy (fun i => am (t.la i) (t.lm i) x (t.ln i)) day (s.ne.add j) = 0 := e
      first | rw [e] | rw [e']
      omega
  have := key (t.ne - s.ne) (by have := h.ne; omega)
  rwa [show s.ne + (t.ne - s.ne) = t.ne by have := h.ne; omega] at this
theorem KOk.entered {s : St} (h : KOk s) {day : Int} {xa : Nat → ByteArray} {xm : Nat → Int} {n : Nat} {gn : Nat → Bool} {lk : Int} {tx : ByteArray} (hd : day ≤ 12) (hl : lk ≤ 11) (hz : sumN xm n = 0) (hnz : ∀ j, j < n → xm j ≠ 0)
    (ho : ({ s with ne := s.ne + 1, dy := upd s.dy s.ne day, gn := gn, ln := upd s.ln s.ne n, la := upd s.la s.ne xa, lm := upd s.lm s.ne xm, lk := lk, tx := tx } : St).Ok) :
    KOk { s with ne := s.ne + 1, dy := upd s.dy s.ne day, gn := gn, ln := upd s.ln s.ne n, la := upd s.la s.ne xa, lm := upd s.lm s.ne xm, lk := lk, tx := tx } := by
  refine ⟨ho, h.na, h.fn, h.kd, fun k hk => ?_, hl, fun k hk => ?_, fun k hk j hj => ?_⟩
  · simp only at *
    by_cases e : k = s.ne
    · subst e; rw [upd_same]; exact hd
    · rw [upd_ne _ _ e]; exact h.dd k (by omega)
  · simp only at *
    by_cases e : k = s.ne
    · subst e; rw [upd_same, upd_same]; exact hz
    · rw [upd_ne _ _ e, upd_ne _ _ e]; exact h.z k (by omega)
  · simp only at *
    by_cases e : k = s.ne
    · subst e; rw [upd_same] at *; exact hnz j hj
    · rw [upd_ne _ _ e] at *; exact h.nz k (by omega) j hj
theorem sumN_neg (xm : Nat → Int) : ∀ n, sumN (fun j => - xm j) n = - sumN xm n
  | 0 => rfl
  | n + 1 => by simp only [sumN]; rw [sumN_neg xm n]; omega
theorem sumN_congr {xm ym : Nat → Int} : ∀ n, (∀ k, k < n → xm k = ym k) → sumN xm n = sumN ym n
  | 0, _ => rfl
  | n + 1, h => by simp only [sumN]; rw [sumN_congr n (fun k hk => h k (by omega)), h n (by omega)]
theorem sumL_snoc (A : List Ln) (y : Ln) : sumN (lnM (A ++ [y])) (A ++ [y]).length = sumN (lnM A) A.length + y.2 := by
  rw [List.length_append, List.length_singleton]
  simp only [sumN]
  rw [lnM_last, sumN_congr A.length (fun k hk => lnM_left hk)]
theorem closeL_sum (fn : Nat → ByteArray) (kd : Nat → Int) (bal : ByteArray → Int) : ∀ n, sumN (lnM (closeL fn kd bal n)) (closeL fn kd bal n).length = - closeSum fn kd bal n
  | 0 => rfl
  | n + 1 => by
    simp only [closeL, closeSum]
    by_cases h : kd n = 1 ∧ bal (fn n) ≠ 0
    · rw [if_pos h, if_pos h, sumL_snoc, closeL_sum fn kd bal n]; show _ + - bal (fn n) = _; omega
    · rw [if_neg h, if_neg h, List.append_nil, closeL_sum fn kd bal n]; omega
theorem closeLs_sum (s : St) (day : Int) (into : ByteArray) : sumN (lnM (s.closeLs day into)) (s.closeLs day into).length = 0 := by
  unfold St.closeLs
  have h := closeL_sum s.fn s.kd (s.sum day) s.na
  by_cases e : s.closeS day ≠ 0
  · rw [if_pos e, sumL_snoc]
    unfold St.closeL0 St.closeS
    rw [h]; show - closeSum _ _ _ _ + closeSum _ _ _ _ = 0; omega
  · rw [if_neg e, List.append_nil]
    unfold St.closeL0
    rw [h]
    have : closeSum s.fn s.kd (s.sum day) s.na = 0 := Classical.byContradiction e
    omega
theorem closeL_nz {fn : Nat → ByteArray} {kd : Nat → Int} {bal : ByteArray → Int} : ∀ n y, y ∈ closeL fn kd bal n → y.2 ≠ 0
  | 0, _, h => by simp [closeL] at h
  | n + 1, y, h => by
    simp only [closeL, List.mem_append] at h
    rcases h with h | h
    · exact closeL_nz n y h
    · by_cases hk : kd n = 1 ∧ bal (fn n) ≠ 0
      · rw [if_pos hk] at h; simp at h; subst h; show - bal (fn n) ≠ 0; omega
      · rw [if_neg hk] at h; simp at h
theorem closeLs_nz (s : St) (day : Int) (into : ByteArray) : ∀ j, j < (s.closeLs day into).length → lnM (s.closeLs day into) j ≠ 0 := fun j hj => by
  have hm : ∀ y ∈ s.closeLs day into, y.2 ≠ 0 := fun y hy => by
    rcases List.mem_append.1 hy with hy | hy
    · exact closeL_nz _ _ hy
    · by_cases e : s.closeS day ≠ 0
      · rw [if_pos e] at hy; simp at hy; subst hy; exact e
      · rw [if_neg e] at hy; simp at hy
  have : lnM (s.closeLs day into) j = (s.closeLs day into)[j].2 := by simp [lnM, List.getD_eq_getElem?_getD, List.getElem?_eq_getElem hj]
  rw [this]
  exact hm _ (List.getElem_mem hj)
/-- What a step makes of a book. -/
def St.kstep (s : St) (q : K5) : St :=
  if pickI q.kind 8 < 5 then s.afterPost (pickI q.day 12) (lsA q) (lsM q) (lsN q)
  else if pickI q.kind 8 = 5 ∧ 0 < s.ne then s.afterRev (1 + pickI q.a s.ne)
  else if pickI q.kind 8 = 6 then s.afterLock (pickI q.day 12)
  else if pickI q.kind 8 = 7 then s.afterClose (pickI q.day 12) (nmK (pickI q.a 3).toNat)
  else s
/-- What each call keeps. -/
theorem KOk.post {s : St} (h : KOk s) {day : Int} (hd : day ≤ 12) (q : K5) : KOk (s.afterPost day (lsA q) (lsM q) (lsN q)) ∧ s.Le (s.afterPost day (lsA q) (lsM q) (lsN q)) ∧ (s.afterPost day (lsA q) (lsM q) (lsN q)).ne ≤ s.ne + 1 := by
  have ho := St.afterPost_ok h.ok day (lsA q) (lsM q) (lsN q)
  unfold St.afterPost at *
  by_cases he : s.postE day (lsA q) (lsM q) (lsN q) = 0
  · rw [if_pos he] at *
    have hz := postE_zero he
    have hl : s.lk < day := by have := hz.2.2.1; simp at this; omega
    exact ⟨h.entered hd h.lk (ls_sum q) (fun j hj => (ls_amt q j hj).1) ho, St.Le.one hl (Int.le_refl _), Nat.le_refl _⟩
  · rw [if_neg he]
    exact ⟨h, St.Le.refl s, Nat.le_succ _⟩
theorem KOk.rev {s : St} (h : KOk s) (entry : Int) : KOk (s.afterRev entry) ∧ s.Le (s.afterRev entry) ∧ (s.afterRev entry).ne ≤ s.ne + 1 := by
  have ho := St.afterRev_ok h.ok entry
  unfold St.afterRev at *
  by_cases he : s.revE entry = 0
  · rw [if_pos he] at *
    have hz := revE_zero he
    have h1 : 1 ≤ entry ∧ entry ≤ s.ne := by simpa using hz.1
    generalize hE : (entry - 1).toNat = e at *
    have he' : e < s.ne := by omega
    have hd := h.dd e he'
    have hlk := h.lk
    have hr : s.lk < revDay (s.dy e) s.lk ∧ revDay (s.dy e) s.lk ≤ 12 := by unfold revDay; split <;> omega
    exact ⟨h.entered hr.2 h.lk (by rw [sumN_neg, h.z e he']; rfl) (fun j hj => by have := h.nz e he' j hj; omega) ho, St.Le.one hr.1 (Int.le_refl _), Nat.le_refl _⟩
  · rw [if_neg he]
    exact ⟨h, St.Le.refl s, Nat.le_succ _⟩
theorem lockE_zero {a b : Bool} (h : Go.Annal.lockE a b = 0) : a = true ∧ b = false := by revert h; cases a <;> cases b <;> decide
theorem KOk.lock {s : St} (h : KOk s) {day : Int} (hd : day ≤ 11) : KOk (s.afterLock day) ∧ s.Le (s.afterLock day) ∧ (s.afterLock day).ne ≤ s.ne + 1 := by
  have ho := St.afterLock_ok h.ok day
  unfold St.afterLock at *
  by_cases he : s.lockE day = 0
  · rw [if_pos he] at *
    have hz := lockE_zero he
    have hl : ¬ day ≤ s.lk := of_decide_eq_false hz.2
    exact ⟨⟨ho, h.na, h.fn, h.kd, h.dd, hd, h.z, h.nz⟩, ⟨rfl, rfl, rfl, Nat.le_refl _, fun _ _ => rfl, fun _ _ => rfl, fun _ _ => rfl, fun _ _ => rfl, by show s.lk ≤ day; omega, fun k h1 h2 => by simp only at h2; omega⟩, Nat.le_succ _⟩
  · rw [if_neg he]
    exact ⟨h, St.Le.refl s, Nat.le_succ _⟩
theorem KOk.close {s : St} (h : KOk s) {day : Int} (hd : day ≤ 11) (into : ByteArray) : KOk (s.afterClose day into) ∧ s.Le (s.afterClose day into) ∧ (s.afterClose day into).ne ≤ s.ne + 1 := by
  have ho := St.afterClose_ok h.ok day into
  unfold St.afterClose at *
  by_cases he : s.closeE day into = 0
  · rw [if_pos he] at *
    have hl : s.lk < day := by
      unfold St.closeE at he
      by_cases hF : s.closeF day into = 0
      · have hz := closeE1_zero hF
        have h3 : ¬ day ≤ s.lk := of_decide_eq_false hz.2.2.2
        omega
      · rw [if_pos hF] at he; exact absurd he hF
    exact ⟨h.entered (by omega) hd (closeLs_sum s day into) (closeLs_nz s day into) ho, St.Le.one hl (by omega), Nat.le_refl _⟩
  · rw [if_neg he]
    exact ⟨h, St.Le.refl s, Nat.le_succ _⟩
theorem KOk.step {s : St} (h : KOk s) (q : K5) : KOk (s.kstep q) ∧ s.Le (s.kstep q) ∧ (s.kstep q).ne ≤ s.ne + 1 := by
  have hd := pickI_bd q.day (n := 12) (by decide)
  unfold St.kstep
  split
  · exact h.post (by omega) q
  · split
    · exact h.rev _
    · split
      · exact h.lock (by omega)
      · split
        · exact h.close (by omega) _
        · exact ⟨h, St.Le.refl s, Nat.le_succ _⟩
end Go.Annal
