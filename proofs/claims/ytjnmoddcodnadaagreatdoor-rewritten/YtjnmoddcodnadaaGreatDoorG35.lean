import Derived.Test.YtjnmoddcodnadaaGreatDoorG21
import Derived.Test.YtjnmoddcodnadaaGreatDoorG29
import Derived.Test.YtjnmoddcodnadaaGreatDoorG31
import Derived.Test.YtjnmoddcodnadaaGreatDoorG33
import Derived.Test.YtjnmoddcodnadaaGreatDoorG34
import Derived.Test.YtjnmoddcodnadaaGreatDoorG27
set_option linter.unusedVariables false
set_option linter.unusedSimpArgs false
namespace Go.Proofs.YtjnmoddcodnadaaGreatDoor
open Go.RowKit Go.Annal Go.Sort
/-- What was done: an account opened, an entry written, days locked. -/
inductive Deed where
  | opens (name : ByteArray) (kind : Int)
  | enters (i : Nat)
  | locks (day : Int)
/-- What is known of a deed: kinds and days are right ones, entries are there. -/
def Deed.ok (ne : Nat) : Deed → Prop
  | .opens _ kind => 0 ≤ kind ∧ kind ≤ 1
  | .enters i => i < ne
  | .locks day => 0 ≤ day ∧ day ≤ 9999
theorem Deed.ok.up {ne : Nat} {d : Deed} (h : d.ok ne) : d.ok (ne + 1) := by
  cases d with
  | opens a b => exact h
  | enters i => exact Nat.lt_succ_of_lt h
  | locks a => exact h
def deedV (dy : Nat → Int) (gl ln cl : Nat → Nat) (kk : Nat → EvK) : Deed → Value
  | .opens name kind => .iface 140 (.agg #[.string name, .int .i64 kind])
  | .enters i => evV (dy i) (gl i) (ln i) (cl i) (kk i)
  | .locks day => .iface 131 (.agg #[.int .i64 day])
/-- The line of an entry, and of a deed. -/
def evT (day : Int) (xa : Nat → ByteArray) (xm : Nat → Int) (n : Nat) : EvK → ByteArray
  | .post => postT day xa xm n
  | .rev u => ⟨#[114, 32]⟩ ++ ⟨(digZ u).toArray⟩
  | .close into => ⟨#[99, 32]⟩ ++ ⟨(digZ day).toArray⟩ ++ ⟨#[32]⟩ ++ into
def deedT (dy : Nat → Int) (ln : Nat → Nat) (xa : Nat → Nat → ByteArray) (xm : Nat → Nat → Int) (kk : Nat → EvK) : Deed → ByteArray
  | .opens name kind => ⟨#[111, 32]⟩ ++ name ++ ⟨#[32]⟩ ++ ⟨(digZ kind).toArray⟩
  | .enters i => evT (dy i) (xa i) (xm i) (ln i) (kk i)
  | .locks day => ⟨#[108, 32]⟩ ++ ⟨(digZ day).toArray⟩
def doneT (f : Nat → ByteArray) : Nat → ByteArray
  | 0 => ⟨#[]⟩
  | n + 1 => doneT f n ++ f n ++ ⟨#[10]⟩
theorem doneT_succ (f : Nat → ByteArray) (n : Nat) : doneT f (n + 1) = doneT f n ++ f n ++ ⟨#[10]⟩ := rfl
theorem doneT_congr {f g : Nat → ByteArray} : ∀ n, (∀ j, j < n → f j = g j) → doneT f n = doneT g n
  | 0, _ => rfl
  | n + 1, h => by unfold doneT; rw [doneT_congr n (fun j hj => h j (by omega)), h n (by omega)]
theorem postT_size (day : Int) (xa : Nat → ByteArray) (xm : Nat → Int) : ∀ n, (∀ k, k < n → (xa k).size ≤ 1000000000) → (postT day xa xm n).size ≤ 30 + n * 1000000030
  | 0, _ => by
    have := digZ_len day
    unfold postT
    simp only [ByteArray.size_append, sz_arr, List.size_toArray, List.length_cons, List.length_nil]
    omega
  | n + 1, h => by
    have h1 := postT_size day xa xm n (fun k hk => h k (by omega))
    have h2 := h n (by omega)
    have h3 := digZ_len (xm n)
    unfold postT
    simp only [ByteArray.size_append, sz_arr, List.size_toArray, List.length_cons, List.length_nil]
    omega
/-- The book's text is what was done, and no longer than what the document's may be. -/
structure TextIs (ds : List Value) (nd : Nat) (s : St) (gl cl : Nat → Nat) (xa : Nat → Nat → ByteArray) (xm : Nat → Nat → Int) (kk : Nat → EvK) : Prop where
  tx : ∃ D : Nat → Deed, ds = (List.range nd).map (fun j => deedV s.dy gl s.ln cl kk (D j)) ∧ s.tx = doneT (fun j => deedT s.dy s.ln xa xm kk (D j)) nd ∧ ∀ j, j < nd → (D j).ok s.ne
  sz : (s.tx.size : Int) ≤ 8000000000 * s.ne + 1100000000 * s.na + 1000 * (s.lk + 1)
  ns : ∀ i, i < s.na → (s.fn i).size ≤ 1000000000
theorem range_upd (f : Nat → Deed) (n : Nat) (d : Deed) (g : Deed → Value) : (List.range (n + 1)).map (fun j => g (upd f n d j)) = (List.range n).map (fun j => g (f j)) ++ [g d] := by
  rw [List.range_succ, List.map_append]
  congr 1
  · apply List.map_congr_left
    intro j hj
    have : j < n := by simpa using hj
    rw [upd_ne _ _ (by omega)]
  · simp [upd_same]
/-- Behind a deed that is no entry. -/
theorem TextIs.did {ds : List Value} {nd : Nat} {s s' : St} {gl cl : Nat → Nat} {xa : Nat → Nat → ByteArray} {xm : Nat → Nat → Int} {kk : Nat → EvK} (h : TextIs ds nd s gl cl xa xm kk) (d : Deed) (hd : d.ok s.ne) (e1 : s'.dy = s.dy) (e2 : s'.ln = s.ln) (e3 : s'.ne = s.ne)
    (et : s'.tx = s.tx ++ deedT s.dy s.ln xa xm kk d ++ ⟨#[10]⟩) (hs : (s'.tx.size : Int) ≤ 8000000000 * s'.ne + 1100000000 * s'.na + 1000 * (s'.lk + 1)) (hn : ∀ i, i < s'.na → (s'.fn i).size ≤ 1000000000) : TextIs (ds ++ [deedV s.dy gl s.ln cl kk d]) (nd + 1) s' gl cl xa xm kk := by
  obtain ⟨D, h1, h2, h3⟩ := h.tx
  refine ⟨⟨upd D nd d, ?_, ?_, fun j hj => ?_⟩, hs, hn⟩
  · rw [e1, e2, range_upd, ← h1]
  · have hc : doneT (fun j => deedT s.dy s.ln xa xm kk (upd D nd d j)) nd = doneT (fun j => deedT s.dy s.ln xa xm kk (D j)) nd := doneT_congr nd (fun j hj => by show deedT _ _ _ _ _ (upd D nd d j) = _; rw [upd_ne _ _ (by omega)])
    rw [et, e1, e2, doneT_succ, hc, ← h2, upd_same]
  · rw [e3]
    by_cases e' : j = nd
    · subst e'; rw [upd_same]; exact hd
    · rw [upd_ne _ _ e']; exact h3 j (by omega)
/-- Behind an entry. -/
theorem TextIs.entered {ds : List Value} {nd : Nat} {s s' : St} {gl cl : Nat → Nat} {xa : Nat → Nat → ByteArray} {xm : Nat → Nat → Int} {kk : Nat → EvK} (h : TextIs ds nd s gl cl xa xm kk) {day : Int} {g n c : Nat} {ya : Nat → ByteArray} {ym : Nat → Int} {e : EvK} (e1 : s'.dy = upd s.dy s.ne day) (e2 : s'.ln = upd s.ln s.ne n) (e3 : s'.ne = s.ne + 1)
    (et : s'.tx = s.tx ++ evT day ya ym n e ++ ⟨#[10]⟩) (hs : (s'.tx.size : Int) ≤ 8000000000 * s'.ne + 1100000000 * s'.na + 1000 * (s'.lk + 1)) (hn : ∀ i, i < s'.na → (s'.fn i).size ≤ 1000000000) : TextIs (ds ++ [evV day g n c e]) (nd + 1) s' (upd gl s.ne g) (upd cl s.ne c) (upd xa s.ne ya) (upd xm s.ne ym) (upd kk s.ne e) := by
  obtain ⟨D, h1, h2, h3⟩ := h.tx
  have hold : ∀ j, j < nd → deedV s'.dy (upd gl s.ne g) s'.ln (upd cl s.ne c) (upd kk s.ne e) (D j) = deedV s.dy gl s.ln cl kk (D j) ∧ deedT s'.dy s'.ln (upd xa s.ne ya) (upd xm s.ne ym) (upd kk s.ne e) (D j) = deedT s.dy s.ln xa xm kk (D j) := fun j hj => by
    cases hD : D j with
    | opens a b => exact ⟨rfl, rfl⟩
    | locks a => exact ⟨rfl, rfl⟩
    | enters i =>
      have hi : i < s.ne := by have := h3 j hj; rw [hD] at this; exact this
      unfold deedV deedT
      simp only [e1, e2, upd_ne _ _ (show i ≠ s.ne by omega)]
      exact ⟨trivial, trivial⟩
  refine ⟨⟨upd D nd (.enters s.ne), ?_, ?_, fun j hj => ?_⟩, hs, hn⟩
  · rw [range_upd, h1]
    congr 1
    · apply List.map_congr_left
      intro j hj
      exact (hold j (by simpa using hj)).1.symm
    · unfold deedV
      simp only [e1, e2, upd_same]
  · have : deedT s'.dy s'.ln (upd xa s.ne ya) (upd xm s.ne ym) (upd kk s.ne e) (.enters s.ne) = evT day ya ym n e := by
      unfold deedT
      simp only [e1, e2, upd_same]
    have hc : doneT (fun j => deedT s'.dy s'.ln (upd xa s.ne ya) (upd xm s.ne ym) (upd kk s.ne e) (upd D nd (.enters s.ne) j)) nd = doneT (fun j => deedT s.dy s.ln xa xm kk (D j)) nd := doneT_congr nd (fun j hj => by show deedT _ _ _ _ _ (upd D nd _ j) = _; rw [upd_ne _ _ (by omega)]; exact (hold j hj).2)
    rw [et, doneT_succ, hc, ← h2, upd_same, this]
  · rw [e3]
    by_cases e'' : j = nd
    · subst e''; rw [upd_same]; exact Nat.lt_succ_self _
    · rw [upd_ne _ _ e'']; exact (h3 j (by omega)).up
/-- The program's book lies at B; F: its accounts' blocks; gl: its entries' lines. -/
structure ProgAt (w : World) (B : Nat) (s : St) (k : Bk) (kd : Nat → Int) (mm : Nat → Nat) (ff : Nat → Nat → It) (F : Nat → Prop) (gl cl : Nat → Nat) (xa : Nat → Nat → ByteArray) (xm : Nat → Nat → Int) (kk : Nat → EvK) : Prop where
  bk : BookIs w B k
  ac : Accs w k.na k.pa k.nm kd mm ff F
  na : k.na = s.na
  ne : k.ne = s.ne
  ul : k.ul = s.lk + 1
  nd : (k.nd : Int) ≤ (s.na : Int) + s.ne + s.lk + 1
  ns : NamesIs k.nm s.fn s.na
  kb : ∀ i, i < s.na → s.kd i = 0 ∨ s.kd i = 1
  ks : ∀ i, i < s.na → kd i = s.kd (atI s.fn s.na (k.nm i)).toNat
  it : ∀ i, i < s.na → (List.range (mm i)).map (ff i) = its s.dy s.la s.lm (k.nm i) s.ln s.ne
  ev : ∀ i, i < s.ne → k.ev i = evV (s.dy i) (gl i) (s.ln i) (cl i) (kk i)
  lo : ∀ i, i < s.ne → w.ownsRow 0 58 2 (.slice (some ⟨gl i, 0, none⟩) (s.ln i) (cl i)) (s.ln i) (lineCells (xa i) (xm i) (s.ln i))
  pl : ∀ i, i < s.ne → (linesL (xa i) (xm i) (s.ln i)).Perm (linesL (s.la i) (s.lm i) (s.ln i))
  gn : ∀ i, i < s.ne → s.gn i = ((kk i).un != 0 || anyN s.ne (fun j => (kk j).un == (i : Int) + 1))
  un : ∀ i, i < s.ne → 0 ≤ (kk i).un ∧ (kk i).un ≤ (i : Int)
  tx : TextIs k.ds k.nd s gl cl xa xm kk
def progFoot (B : Nat) (k : Bk) (F : Nat → Prop) (ne : Nat) (gl : Nat → Nat) (b : Nat) : Prop := k.own B b ∨ F b ∨ ∃ i, i < ne ∧ b = gl i
def ProgIs (w : World) (B : Nat) (s : St) (Fp : Nat → Prop) : Prop := ∃ k kd mm ff F gl cl xa xm kk, ProgAt w B s k kd mm ff F gl cl xa xm kk ∧ (∀ b, Fp b ↔ progFoot B k F s.ne gl b)
section
variable {w : World} {B : Nat} {s : St} {k : Bk} {kd : Nat → Int} {mm : Nat → Nat} {ff : Nat → Nat → It} {F : Nat → Prop} {gl cl : Nat → Nat} {xa : Nat → Nat → ByteArray} {xm : Nat → Nat → Int} {kk : Nat → EvK}
theorem ProgAt.turn (h : ProgAt w B s k kd mm ff F gl cl xa xm kk) {w' : World} {S : Nat → Prop} (ht : Turn S w w') (hs : ∀ b, progFoot B k F s.ne gl b → ¬ S b) : ProgAt w' B s k kd mm ff F gl cl xa xm kk :=
  ⟨h.bk.turn ht (fun b hb => hs b (.inl hb)), h.ac.turn ht (fun b hb => hs b (.inr (.inl hb))), h.na, h.ne, h.ul, h.nd, h.ns, h.kb, h.ks, h.it, h.ev, fun i hi => owns_turn (h.lo i hi) ht (fun b hb => hs b (.inr (.inr ⟨i, hi, (Option.some.inj hb).symm⟩))), h.pl, h.gn, h.un, h.tx⟩
theorem ProgAt.mv (h : ProgAt w B s k kd mm ff F gl cl xa xm kk) {w' : World} (hb : Below w.heap.size w w') : ProgAt w' B s k kd mm ff F gl cl xa xm kk := h.turn (S := fun _ => False) (Turn.of_below hb) (fun _ _ h => h)
theorem ProgAt.lt (h : ProgAt w B s k kd mm ff F gl cl xa xm kk) {b : Nat} (hb : progFoot B k F s.ne gl b) : b < w.heap.size := by
  rcases hb with hb | hb | ⟨i, hi, rfl⟩
  · exact h.bk.lt hb
  · obtain ⟨cs, t, hc, _⟩ := h.ac.kind hb
    exact blk_lt hc
  · exact ((h.lo i hi).lt (gl i) rfl).2
theorem ProgIs.turn {Fp : Nat → Prop} (h : ProgIs w B s Fp) {w' : World} {S : Nat → Prop} (ht : Turn S w w') (hs : ∀ b, Fp b → ¬ S b) : ProgIs w' B s Fp := by
  obtain ⟨k, kd, mm, ff, F, gl, cl, xa, xm, kk, h1, h2⟩ := h
  exact ⟨k, kd, mm, ff, F, gl, cl, xa, xm, kk, h1.turn ht (fun b hb => hs b ((h2 b).2 hb)), h2⟩
theorem ProgIs.lt {Fp : Nat → Prop} (h : ProgIs w B s Fp) {b : Nat} (hb : Fp b) : b < w.heap.size := by
  obtain ⟨k, kd, mm, ff, F, gl, cl, xa, xm, kk, h1, h2⟩ := h
  exact h1.lt ((h2 b).1 hb)
theorem ProgAt.there (h : ProgAt w B s k kd mm ff F gl cl xa xm kk) : isAt k.nm k.na = s.there := by
  funext x
  rw [h.na]
  exact h.ns.at x
theorem its_len (dy : Nat → Int) (la : Nat → Nat → ByteArray) (lm : Nat → Nat → Int) (x : ByteArray) (ln : Nat → Nat) : ∀ n, (∀ k, k < n → ∀ a b, a < b → b < ln k → (la k a).toList ≠ (la k b).toList) → (its dy la lm x ln n).length ≤ n
  | 0, _ => by simp [its]
  | n + 1, h => by
    have h1 := its_len dy la lm x ln n (fun k hk => h k (by omega))
    have h2 := (itsL_one dy la lm x n (ln n) (h n (by omega))).1
    simp only [its, List.length_append]
    omega
theorem ProgAt.few (h : ProgAt w B s k kd mm ff F gl cl xa xm kk) (ho : s.Ok) : ∀ i, i < k.na → mm i ≤ s.ne := fun i hi => by
  have h1 := its_len s.dy s.la s.lm (k.nm i) s.ln s.ne ho.tw
  rw [← h.it i (by rw [← h.na]; exact hi)] at h1
  simpa using h1
theorem ProgAt.ndb (h : ProgAt w B s k kd mm ff F gl cl xa xm kk) (ho : s.Ok) : k.nd ≤ 100000 := by
  have h1 := h.nd
  have h2 := ho.na
  have h3 := ho.ne
  have h4 := ho.lk
  omega
theorem TextIs.new (gl cl : Nat → Nat) (xa : Nat → Nat → ByteArray) (xm : Nat → Nat → Int) (kk : Nat → EvK) : TextIs [] 0 St.new gl cl xa xm kk := ⟨⟨fun _ => .locks 0, rfl, rfl, fun j hj => absurd hj (Nat.not_lt_zero _)⟩, by decide, fun i hi => absurd hi (Nat.not_lt_zero _)⟩
/-- New. -/
theorem progNew (w : World) : Calls Tryz.prog 25 #[] w fun r w' => r = .returned (.pointer (some ⟨w.heap.size, 0, none⟩)) ∧ ProgIs w' w.heap.size St.new (fun b => b = w.heap.size) ∧ Grew w w' := by
  refine (annalNew_any w).mono ?_
  rintro r w' ⟨rfl, rfl⟩
  refine ⟨rfl, ⟨⟨0, 0, none, 0, 0, none, 0, 0, none, 0, fun _ => 0, fun _ => ⟨#[]⟩, [], fun _ => .nilIface⟩, fun _ => 0, fun _ => 0, fun _ _ => (0, 0, 0), fun _ => False, fun _ => 0, fun _ => 0, fun _ _ => ⟨#[]⟩, fun _ _ => 0, fun _ => .post, ⟨⟨heap_alloc_new w _, ⟨rfl, .inl ⟨rfl, rfl⟩⟩, ⟨rfl, .inl ⟨rfl, rfl⟩⟩, ⟨rfl, .inl ⟨rfl, rfl⟩⟩, fun x a b _ hb => absurd hb (Nat.not_lt_zero _)⟩, ⟨fun _ => none, fun _ => 0, fun _ _ => 0, fun _ _ => 0, fun _ _ => [], fun i hi => absurd hi (Nat.not_lt_zero _), fun i j k hi => absurd hi (Nat.not_lt_zero _), fun k => ⟨fun h => h.elim, fun ⟨i, hi, _⟩ => absurd hi (Nat.not_lt_zero _)⟩⟩, rfl, rfl, rfl, by decide, NamesIs.zero _ _, fun i hi => absurd hi (Nat.not_lt_zero _), fun i hi => absurd hi (Nat.not_lt_zero _), fun i hi => absurd hi (Nat.not_lt_zero _), fun i hi => absurd hi (Nat.not_lt_zero _), fun i hi => absurd hi (Nat.not_lt_zero _), fun i hi => absurd hi (Nat.not_lt_zero _), fun i hi => absurd hi (Nat.not_lt_zero _), fun i hi => absurd hi (Nat.not_lt_zero _), TextIs.new _ _ _ _ _⟩, fun b => ?_⟩, (Grew.refl w).alloc _⟩
  constructor
  · intro h; exact .inl (.inl h)
  · rintro ((h | h | h | h) | h | ⟨i, hi, _⟩)
    · exact h
    · cases h
    · cases h
    · cases h
    · exact h.elim
    · exact absurd hi (Nat.not_lt_zero _)
end
end Go.Proofs.YtjnmoddcodnadaaGreatDoor
namespace Go.Proofs.YtjnmoddcodnadaaGreatDoor
open Go.RowKit Go.Annal
def accCells (fn : Nat → ByteArray) (kd : Nat → Int) (n : Nat) : List Value := (List.range n).flatMap (fun i => [.string (fn i), .int .i64 (kd i)])
def entCells (dy : Nat → Int) (gl ln cl : Nat → Nat) (gn : Nat → Bool) (n : Nat) : List Value := (List.range n).flatMap (fun i => [.int .i64 (dy i), .slice (some ⟨gl i, 0, none⟩) (ln i) (cl i), .bool (gn i)])
theorem flat_len {α : Type} (c : Nat) (e : Nat → List α) (he : ∀ i, (e i).length = c) : ∀ n, ((List.range n).flatMap e).length = n * c
  | 0 => by simp
  | n + 1 => by rw [List.range_succ, List.flatMap_append, List.length_append, flat_len c e he n]; simp [he]; rw [Nat.succ_mul]
theorem flat_get {α : Type} (c : Nat) (e : Nat → List α) (he : ∀ i, (e i).length = c) : ∀ n i o, i < n → o < c → ((List.range n).flatMap e)[i * c + o]? = (e i)[o]?
  | 0, i, _, h, _ => by omega
  | n + 1, i, o, h, ho => by
    rw [List.range_succ, List.flatMap_append]
    by_cases hi : i < n
    · have h1 : (i + 1) * c ≤ n * c := Nat.mul_le_mul_right c hi
      rw [Nat.succ_mul] at h1
      rw [List.getElem?_append_left (by rw [flat_len c e he]; omega)]
      exact flat_get c e he n i o hi ho
    · obtain rfl : i = n := by omega
      rw [List.getElem?_append_right (by rw [flat_len c e he]; omega), flat_len c e he]
      simp
theorem flat_congr {α : Type} (e e' : Nat → List α) (n : Nat) (h : ∀ i, i < n → e' i = e i) : (List.range n).flatMap e' = (List.range n).flatMap e := by
  induction n with
  | zero => rfl
  | succ n ih => rw [List.range_succ, List.flatMap_append, List.flatMap_append, ih (fun i hi => h i (by omega))]; simp [h n (by omega)]
/-- The document's book lies at R; Fd: its blocks of memory. -/
structure DocAt (w : World) (R : Nat) (s : St) (ada ade : Option Addr) (ca ce : Nat) (gl cl : Nat → Nat) : Prop where
  bk : w.heap[R]? = some (.cells #[.slice ada s.na ca, .slice ade s.ne ce, .int .i64 s.lk, .string s.tx] 103 (0, 0))
  ac : w.ownsRow 0 154 2 (.slice ada s.na ca) s.na (accCells s.fn s.kd s.na)
  en : w.ownsRow 0 158 3 (.slice ade s.ne ce) s.ne (entCells s.dy gl s.ln cl s.gn s.ne)
  li : ∀ k, k < s.ne → w.ownsRow 0 58 2 (.slice (some ⟨gl k, 0, none⟩) (s.ln k) (cl k)) (s.ln k) (lineCells (s.la k) (s.lm k) (s.ln k))
  tx : (s.tx.size : Int) ≤ 8000000000 * s.ne + 1100000000 * s.na + 1000 * (s.lk + 1)
def docFoot (R : Nat) (ada ade : Option Addr) (ca ce na ne : Nat) (gl : Nat → Nat) (k : Nat) : Prop := k = R ∨ (Value.slice ada na ca).ownBlock = some k ∨ (Value.slice ade ne ce).ownBlock = some k ∨ ∃ i, i < ne ∧ k = gl i
def DocIs (w : World) (R : Nat) (s : St) (Fd : Nat → Prop) : Prop := ∃ ada ade ca ce gl cl, DocAt w R s ada ade ca ce gl cl ∧ (∀ k, Fd k ↔ docFoot R ada ade ca ce s.na s.ne gl k)
theorem DocIs.turn {w w' : World} {R : Nat} {s : St} {Fd : Nat → Prop} (h : DocIs w R s Fd) {S : Nat → Prop} (ht : Turn S w w') (hs : ∀ k, Fd k → ¬ S k) : DocIs w' R s Fd := by
  obtain ⟨ada, ade, ca, ce, gl, cl, h1, h2⟩ := h
  refine ⟨ada, ade, ca, ce, gl, cl, ⟨ht.blk h1.bk (hs R ((h2 R).2 (.inl rfl))), owns_turn h1.ac ht (fun g e => hs g ((h2 g).2 (.inr (.inl e)))), owns_turn h1.en ht (fun g e => hs g ((h2 g).2 (.inr (.inr (.inl e))))), fun k hk => owns_turn (h1.li k hk) ht (fun g e => hs g ((h2 g).2 (.inr (.inr (.inr ⟨k, hk, (Option.some.inj e).symm⟩))))), h1.tx⟩, h2⟩
theorem DocIs.kind {w : World} {R : Nat} {s : St} {Fd : Nat → Prop} (h : DocIs w R s Fd) {k : Nat} (hk : Fd k) : ∃ cs t, w.heap[k]? = some (.cells cs t (0, 0)) ∧ (t = 103 ∨ t = 154 ∨ t = 158 ∨ t = 58) := by
  obtain ⟨ada, ade, ca, ce, gl, cl, h1, h2⟩ := h
  have hrow : ∀ {e : TypeId} {sz n : Nat} {v : Value} {xs : List Value}, w.ownsRow 0 e sz v n xs → v.ownBlock = some k → ∃ cs, w.heap[k]? = some (.cells cs e (0, 0)) := by
    intro e sz n v xs ho hb
    rcases ho.2 with ⟨rfl, _⟩ | ⟨g, c, cur, rfl, _, hg, _⟩
    · simp [Value.ownBlock] at hb
    · simp [Value.ownBlock] at hb; subst hb; exact ⟨_, hg⟩
  rcases (h2 k).1 hk with rfl | hb | hb | ⟨i, hi, rfl⟩
  · exact ⟨_, _, h1.bk, .inl rfl⟩
  · obtain ⟨cs, hc⟩ := hrow h1.ac hb; exact ⟨cs, _, hc, .inr (.inl rfl)⟩
  · obtain ⟨cs, hc⟩ := hrow h1.en hb; exact ⟨cs, _, hc, .inr (.inr (.inl rfl))⟩
  · obtain ⟨cs, hc⟩ := hrow (h1.li i hi) rfl; exact ⟨cs, _, hc, .inr (.inr (.inr rfl))⟩
theorem DocAt.accs {w : World} {R : Nat} {s : St} {ada ade : Option Addr} {ca ce : Nat} {gl cl : Nat → Nat} (h : DocAt w R s ada ade ca ce gl cl) (ho : s.Ok) : ∃ ga, AccsAt w R ga ca s.na ada s.fn := by
  have hna := ho.na
  rcases h.ac.2 with ⟨e, h0⟩ | ⟨g, c, cur, e, _⟩
  · exact ⟨0, blk_cell' h.bk (o := 0) rfl, fun h => by omega, fun i hi => by omega, by omega⟩
  · injection e with e1 _ e3
    subst e1; subst e3
    refine ⟨g, blk_cell' h.bk (o := 0) rfl, fun _ => rfl, fun i hi => ?_, by omega⟩
    have h1 := h.ac.cellAt (i * 2) (by omega)
    have h2 := flat_get 2 (fun i => [Value.string (s.fn i), .int .i64 (s.kd i)]) (fun _ => rfl) s.na i 0 hi (by omega)
    rw [Nat.add_zero] at h2
    unfold accCells at h1
    rw [h2] at h1
    exact h1
theorem DocAt.ents {w : World} {R : Nat} {s : St} {ada ade : Option Addr} {ca ce : Nat} {gl cl : Nat → Nat} (h : DocAt w R s ada ade ca ce gl cl) (ho : s.Ok) : ∃ ge, EntsAt w R ge ce s.ne ade s.dy gl s.ln cl s.la s.lm := by
  have hne := ho.ne
  have hli : ∀ k, k < s.ne → ∀ j, j < s.ln k → ∀ o, o < 2 → w.cell? ⟨gl k, j * 2 + o, none⟩ = (lineCells (s.la k) (s.lm k) (s.ln k))[j * 2 + o]? := fun k hk j hj o ho => (h.li k hk).cellAt (j * 2 + o) (by omega)
  have hsm : ∀ i, i < s.ne → s.ln i ≤ 100 := fun i hi => by have := ho.ln i hi; omega
  have hbd : ∀ i, i < s.ne → ∀ k, k < s.ln i → -1000000000000 ≤ s.lm i k ∧ s.lm i k ≤ 1000000000000 := fun i hi k hk => by have := ho.bd i hi k hk; omega
  have hca : ∀ i, i < s.ne → ∀ k, k < s.ln i → w.cell? ⟨gl i, k * 2, none⟩ = some (.string (s.la i k)) := fun i hi k hk => (hli i hi k hk 0 (by omega)).trans (lineCells_a _ _ _ _ hk)
  have hcm : ∀ i, i < s.ne → ∀ k, k < s.ln i → w.cell? ⟨gl i, k * 2 + 1, none⟩ = some (.int .i64 (s.lm i k)) := fun i hi k hk => (hli i hi k hk 1 (by omega)).trans (lineCells_m _ _ _ _ hk)
  rcases h.en.2 with ⟨e, h0⟩ | ⟨g, c, cur, e, _⟩
  · exact ⟨0, blk_cell' h.bk (o := 1) rfl, fun h => by omega, fun i hi => by omega, fun i hi => by omega, fun i hi => by omega, hca, hcm, hsm, hbd, by omega⟩
  · injection e with e1 _ e3
    subst e1; subst e3
    have hc : ∀ i, i < s.ne → ∀ o, o < 3 → w.cell? ⟨g, i * 3 + o, none⟩ = ([Value.int .i64 (s.dy i), .slice (some ⟨gl i, 0, none⟩) (s.ln i) (cl i), .bool (s.gn i)])[o]? := fun i hi o ho => by
      have h1 := h.en.cellAt (i * 3 + o) (by omega)
      unfold entCells at h1
      rw [flat_get 3 (fun i => [Value.int .i64 (s.dy i), .slice (some ⟨gl i, 0, none⟩) (s.ln i) (cl i), .bool (s.gn i)]) (fun _ => rfl) s.ne i o hi ho] at h1
      exact h1
    exact ⟨g, blk_cell' h.bk (o := 1) rfl, fun _ => rfl, fun i hi => hc i hi 0 (by omega), fun i hi => hc i hi 1 (by omega), fun i hi => ⟨_, hc i hi 2 (by omega)⟩, hca, hcm, hsm, hbd, by omega⟩
theorem lt_of_own {w : World} {B : Nat} {e : TypeId} {sz n k : Nat} {v : Value} {xs : List Value} (h : w.ownsRow B e sz v n xs) (hb : v.ownBlock = some k) : k < w.heap.size := (h.lt k hb).2
/-- Open of the document's book. -/
theorem docOpen (R : Nat) (s : St) (Fd : Nat → Prop) (name : ByteArray) (kind : Int) (w : World) (h : DocIs w R s Fd) (ho : s.Ok) (hs : name.size ≤ 1000000000) :
    Calls Tryz.prog 39 #[.pointer (some ⟨R, 0, none⟩), .string name, .int .i64 kind] w fun r w' => r = .returned (.int .i64 (s.openE name kind)) ∧ ∃ Fd', DocIs w' R (s.afterOpen name kind) Fd' ∧ Turn Fd w w' ∧ ∀ k, Fd' k → Fd k ∨ w.heap.size ≤ k := by
  obtain ⟨ada, ade, ca, ce, gl, cl, h1, h2⟩ := h
  obtain ⟨ga, hA⟩ := h1.accs ho
  by_cases he : s.openE name kind = 0
  · have hz := openE_zero he
    have h3 : atI s.fn s.na name < 0 := by have := hz.2.2.1; unfold St.there at this; simp at this; omega
    have h4 : s.na < 10 := by have := hz.2.2.2; simp at this; omega
    have hne := ho.ne
    have htx := h1.tx
    have hlk := ho.lk
    refine (OpenR_ok R ga ca s.na _ _ _ s.tx ada s.fn _ name kind w hA hs (by omega) h1.bk h1.ac hz.1 (kindB_yes hz.2.1) h3 h4).mono ?_
    rintro r w' ⟨rfl, g, cap, t', ⟨ht', rfl⟩, hR', hown', hT, hg⟩
    refine ⟨by rw [he], docFoot R (some ⟨g, 0, none⟩) ade cap ce (s.na + 1) s.ne gl, ?_, hT.mono (fun k _ hk => (h2 k).2 (hk.elim .inl (fun h => .inr (.inl h)))), ?_⟩
    · unfold St.afterOpen
      rw [if_pos he]
      have hnk : ∀ k, (k = R ∨ (Value.slice ada s.na ca).ownBlock = some k) → ∀ {e : TypeId} {sz n : Nat} {v : Value} {xs : List Value}, w.ownsRow 0 e sz v n xs → e ≠ 103 → e ≠ 154 → v.ownBlock ≠ some k := by
        intro k hk e sz n v xs hv e1 e2 hb
        obtain ⟨c, fz, hc⟩ := owns_kind hv k hb
        rcases hk with rfl | hk
        · rw [h1.bk] at hc; simp at hc; exact e1 hc.2.1.symm
        · obtain ⟨c', fz', hc'⟩ := owns_kind h1.ac k hk
          rw [hc] at hc'; simp at hc'; exact e2 hc'.2.1
      refine ⟨some ⟨g, 0, none⟩, ade, cap, ce, gl, cl, ⟨hR', ?_, owns_turn h1.en hT (fun k e hk => hnk k hk h1.en (by decide) (by decide) e), fun k hk => owns_turn (h1.li k hk) hT (fun x e hx => hnk x hx (h1.li k hk) (by decide) (by decide) e), ?_⟩, fun k => Iff.rfl⟩
      · have e1 : accCells (s.opened name kind).fn (s.opened name kind).kd (s.na + 1) = accCells s.fn s.kd s.na ++ [.string name, .int .i64 kind] := by
          unfold accCells
          rw [List.range_succ, List.flatMap_append]
          congr 1
          · apply flat_congr
            intro i hi
            simp only [St.opened, upd_ne _ _ (show i ≠ s.na by omega)]
          · simp [St.opened, upd_same]
        show w'.ownsRow 0 _ 2 _ (s.na + 1) (accCells (s.opened name kind).fn _ (s.na + 1))
        rw [e1]
        exact hown'
      · have e : (s.opened name kind).tx.size ≤ s.tx.size + name.size + 100 := ht'
        show ((s.opened name kind).tx.size : Int) ≤ 8000000000 * s.ne + 1100000000 * ((s.na + 1 : Nat) : Int) + 1000 * (s.lk + 1)
        omega
    · intro k hk
      rcases hk with rfl | hb | hb | hb
      · exact .inl ((h2 _).2 (.inl rfl))
      · have : g = k := Option.some.inj hb
        subst this
        rcases hg with hg | hg
        · exact .inl ((h2 _).2 (.inr (.inl hg)))
        · exact .inr hg
      · exact .inl ((h2 _).2 (.inr (.inr (.inl hb))))
      · exact .inl ((h2 _).2 (.inr (.inr (.inr hb))))
  · refine (OpenR_err R ga ca s.na ada s.fn name kind w hA hs he).mono ?_
    rintro r w' ⟨rfl, rfl⟩
    refine ⟨rfl, Fd, ?_, Turn.refl _ _, fun k hk => .inl hk⟩
    unfold St.afterOpen
    rw [if_neg he]
    exact ⟨ada, ade, ca, ce, gl, cl, h1, h2⟩
end Go.Proofs.YtjnmoddcodnadaaGreatDoor
namespace Go.Proofs.YtjnmoddcodnadaaGreatDoor
open Go.RowKit Go.Annal
theorem below_drewN (w : World) (q : Nat) : Below w.heap.size w (w.drewN q) := ((Grew.refl w).drewN q).below
/-- A list of lines that is handed in. -/
structure LinesV (w : World) (lad : Option Addr) (n cap : Nat) (xa : Nat → ByteArray) (xm : Nat → Int) : Prop where
  le : n ≤ cap
  few : n ≤ 1000000000
  sm : ∀ k, k < n → (xa k).size ≤ 1000000000
  ls : 0 < n → ∃ lg lo, lad = some ⟨lg, lo, none⟩ ∧ LinesAt w lg lo n xa xm
theorem LinesV.mv {w w' : World} {lad : Option Addr} {n cap : Nat} {xa : Nat → ByteArray} {xm : Nat → Int} (h : LinesV w lad n cap xa xm) (hb : Below w.heap.size w w') : LinesV w' lad n cap xa xm :=
  ⟨h.le, h.few, h.sm, fun hn => by obtain ⟨lg, lo, e, hL⟩ := h.ls hn; exact ⟨lg, lo, e, hL.mv hb⟩⟩
theorem St.postE_day {s : St} {day : Int} {xa : Nat → ByteArray} {xm : Nat → Int} {n : Nat} (h : dayB day = false) : s.postE day xa xm n = 5 := by unfold St.postE Go.Annal.postE; rw [h]; rfl
theorem St.postE_len {s : St} {day : Int} {xa : Nat → ByteArray} {xm : Nat → Int} {n : Nat} (h : dayB day = true) (hn : n < 2 ∨ 6 < n) : s.postE day xa xm n = 6 := by
  unfold St.postE Go.Annal.postE wrongE
  rw [h, if_pos hn]; rfl
theorem entCells_snoc (dy : Nat → Int) (gl ln cl : Nat → Nat) (gn : Nat → Bool) (n : Nat) (day : Int) (gl' n' cl' : Nat) (b : Bool) :
    entCells (upd dy n day) (upd gl n gl') (upd ln n n') (upd cl n cl') (upd gn n b) (n + 1) = entCells dy gl ln cl gn n ++ [.int .i64 day, .slice (some ⟨gl', 0, none⟩) n' cl', .bool b] := by
  unfold entCells
  rw [List.range_succ, List.flatMap_append]
  congr 1
  · apply flat_congr
    intro i hi
    simp only [upd_ne _ _ (show i ≠ n by omega)]
  · simp [upd_same]
theorem entCells_set (dy : Nat → Int) (gl ln cl : Nat → Nat) (gn : Nat → Bool) (n e : Nat) (he : e < n) (b : Bool) : (entCells dy gl ln cl gn n).set (e * 3 + 2) (.bool b) = entCells dy gl ln cl (upd gn e b) n := by
  unfold entCells
  induction n with
  | zero => omega
  | succ n ih =>
    rw [List.range_succ, List.flatMap_append, List.flatMap_append]
    have hl : ((List.range n).flatMap (fun i => [Value.int .i64 (dy i), .slice (some ⟨gl i, 0, none⟩) (ln i) (cl i), .bool (gn i)])).length = n * 3 := flat_len 3 _ (fun _ => rfl) n
    by_cases e1 : e = n
    · subst e1
      rw [List.set_append_right _ _ (by rw [hl]; omega), hl]
      congr 1
      · apply flat_congr
        intro i hi
        simp only [upd_ne _ _ (show i ≠ e by omega)]
      · simp [upd_same]
    · rw [List.set_append_left _ _ (by rw [hl]; omega), ih (by omega)]
      congr 1
      simp [upd_ne _ _ (show n ≠ e by omega)]
/-- An entry more. -/
theorem doc_entered {w w' : World} {R : Nat} {s : St} {Fd : Nat → Prop} {ada ade : Option Addr} {ca ce : Nat} {gl cl : Nat → Nat} (h1 : DocAt w R s ada ade ca ce gl cl) (h2 : ∀ k, Fd k ↔ docFoot R ada ade ca ce s.na s.ne gl k)
    {g cap' gl' cl' n : Nat} {day lk : Int} {tx : ByteArray} {gn : Nat → Bool} {xa : Nat → ByteArray} {xm : Nat → Int}
    (hR' : w'.heap[R]? = some (.cells #[.slice ada s.na ca, .slice (some ⟨g, 0, none⟩) (s.ne + 1) cap', .int .i64 lk, .string tx] 103 (0, 0)))
    (hown' : w'.ownsRow 0 158 3 (.slice (some ⟨g, 0, none⟩) (s.ne + 1) cap') (s.ne + 1) (entCells (upd s.dy s.ne day) (upd gl s.ne gl') (upd s.ln s.ne n) (upd cl s.ne cl') gn (s.ne + 1)))
    (hli' : w'.ownsRow w.heap.size 58 2 (.slice (some ⟨gl', 0, none⟩) n cl') n (lineCells xa xm n))
    (hT : Turn (fun k => k = R ∨ (Value.slice ade s.ne ce).ownBlock = some k) w w') (hg : (Value.slice ade s.ne ce).ownBlock = some g ∨ w.heap.size ≤ g)
    (htx : (tx.size : Int) ≤ 8000000000 * ((s.ne + 1 : Nat) : Int) + 1100000000 * s.na + 1000 * (lk + 1)) :
    ∃ Fd', DocIs w' R { s with ne := s.ne + 1, dy := upd s.dy s.ne day, gn := gn, ln := upd s.ln s.ne n, la := upd s.la s.ne xa, lm := upd s.lm s.ne xm, lk := lk, tx := tx } Fd' ∧ Turn Fd w w' ∧ ∀ k, Fd' k → Fd k ∨ w.heap.size ≤ k := by
  refine ⟨docFoot R ada (some ⟨g, 0, none⟩) ca cap' s.na (s.ne + 1) (upd gl s.ne gl'), ?_, hT.mono (fun k _ hk => (h2 k).2 (hk.elim .inl (fun h => .inr (.inr (.inl h))))), ?_⟩
  · have hnk : ∀ k, (k = R ∨ (Value.slice ade s.ne ce).ownBlock = some k) → ∀ {e : TypeId} {sz n : Nat} {v : Value} {xs : List Value}, w.ownsRow 0 e sz v n xs → e ≠ 103 → e ≠ 158 → v.ownBlock ≠ some k := by
      intro k hk e sz n v xs hv e1 e2 hb
      obtain ⟨c, fz, hc⟩ := owns_kind hv k hb
      rcases hk with rfl | hk
      · rw [h1.bk] at hc; simp at hc; exact e1 hc.2.1.symm
      · obtain ⟨c', fz', hc'⟩ := owns_kind h1.en k hk
        rw [hc] at hc'; simp at hc'; exact e2 hc'.2.1
    refine ⟨ada, some ⟨g, 0, none⟩, ca, cap', upd gl s.ne gl', upd cl s.ne cl', ⟨hR', owns_turn h1.ac hT (fun k e hk => hnk k hk h1.ac (by decide) (by decide) e), hown', fun k hk => ?_, htx⟩, fun k => Iff.rfl⟩
    by_cases ek : k = s.ne
    · subst ek
      simp only [upd_same]
      exact owns_le hli' (Nat.zero_le _)
    · have hk' : k < s.ne := by simp only at hk; omega
      simp only [upd_ne _ _ ek]
      exact owns_turn (h1.li k hk') hT (fun x e hx => hnk x hx (h1.li k hk') (by decide) (by decide) e)
  · intro k hk
    rcases hk with rfl | hb | hb | ⟨i, hi, rfl⟩
    · exact .inl ((h2 _).2 (.inl rfl))
    · exact .inl ((h2 _).2 (.inr (.inl hb)))
    · have : g = k := Option.some.inj hb
      subst this
      rcases hg with hg | hg
      · exact .inl ((h2 _).2 (.inr (.inr (.inl hg))))
      · exact .inr hg
    · by_cases ei : i = s.ne
      · rw [ei, upd_same]; exact .inr (hli'.lt gl' rfl).1
      · rw [upd_ne _ _ ei]; exact .inl ((h2 _).2 (.inr (.inr (.inr ⟨i, by omega, rfl⟩))))
/-- Post of the document's book. -/
theorem docPost (R : Nat) (s : St) (Fd : Nat → Prop) (day : Int) (lad : Option Addr) (n cap : Nat) (xa : Nat → ByteArray) (xm : Nat → Int) (w : World) (h : DocIs w R s Fd) (ho : s.Ok) (hL : LinesV w lad n cap xa xm) :
    Calls Tryz.prog 80 #[.pointer (some ⟨R, 0, none⟩), .int .i64 day, .slice lad n cap] w fun r w' => r = .returned (.tuple #[.int .i64 (s.postN day xa xm n), .int .i64 (s.postE day xa xm n)]) ∧ ∃ Fd', DocIs w' R (s.afterPost day xa xm n) Fd' ∧ Turn Fd w w' ∧ ∀ k, Fd' k → Fd k ∨ w.heap.size ≤ k := by
  have hkeep : ∀ w', Below w.heap.size w w' → s.postE day xa xm n ≠ 0 → ∃ Fd', DocIs w' R (s.afterPost day xa xm n) Fd' ∧ Turn Fd w w' ∧ ∀ k, Fd' k → Fd k ∨ w.heap.size ≤ k := fun w' hb he => by
    refine ⟨Fd, ?_, Turn.of_below hb, fun k hk => .inl hk⟩
    unfold St.afterPost
    rw [if_neg he]
    exact h.turn (S := fun _ => False) (Turn.of_below hb) (fun _ _ h => h)
  have hN : s.postE day xa xm n ≠ 0 → s.postN day xa xm n = 0 := fun he => by unfold St.postN; rw [if_neg he]
  cases hd : dayB day
  · have he := St.postE_day (s := s) (xa := xa) (xm := xm) (n := n) hd
    refine (PostR_day R n cap lad day w hd).mono ?_
    rintro r w' ⟨rfl, rfl⟩
    exact ⟨by rw [hN (by rw [he]; decide), he], hkeep _ (Below.refl _ _) (by rw [he]; decide)⟩
  · obtain ⟨ada, ade, ca, ce, gl, cl, h1, h2⟩ := id h
    have hne := ho.ne
    have cE := blk_cell' h1.bk (o := 1) rfl
    have cL := blk_cell' h1.bk (o := 2) rfl
    by_cases hn : n < 2 ∨ 6 < n
    · have he := St.postE_len (s := s) (xa := xa) (xm := xm) hd hn
      have hfew := hL.few
      have he' : Go.Annal.postE true 6 (decide (day ≤ s.lk)) (decide (60 ≤ s.ne)) = 6 := rfl
      have CW := (wrong_len R n cap lad w hn (by omega)).mono (R' := fun r w' => r = .returned (.int .i64 6) ∧ ∃ q, w' = w.drewN q) (by rintro r w' ⟨rfl, rfl⟩; exact ⟨rfl, 0, rfl⟩)
      refine (PostR_err R n cap s.ne ce lad ade day 6 s.lk w hd CW cE cL (by omega) (by rw [he']; decide)).mono ?_
      rintro r w' ⟨rfl, q, rfl⟩
      exact ⟨by rw [hN (by rw [he]; decide), he, he'], hkeep _ (below_drewN w q) (by rw [he]; decide)⟩
    · obtain ⟨lg, lo, rfl, hLA⟩ := hL.ls (by omega)
      obtain ⟨ga, hA⟩ := h1.accs ho
      have CW := wrong_any R ga ca s.na n cap lg lo ada s.fn xa xm w hA hLA (by omega) (by omega)
      have hE : s.postE day xa xm n = Go.Annal.postE true (wrongE (fun x => decide (0 ≤ atI s.fn s.na x)) xa xm n) (decide (day ≤ s.lk)) (decide (60 ≤ s.ne)) := by unfold St.postE; rw [hd]; rfl
      by_cases he : s.postE day xa xm n = 0
      · have hz := postE_zero (hE ▸ he)
        rw [hz.2.1] at CW
        have hw := wrong_zero hz.2.1
        have htx := h1.tx
        have hna := ho.na
        have hlk : ¬ day ≤ s.lk := by have := hz.2.2.1; simpa using this
        have hn60 : s.ne < 60 := by have := hz.2.2.2; simp at this; omega
        have hlk' := ho.lk
        refine (PostR_ok R n cap s.ne ce lg lo _ ade _ xa xm day s.lk s.tx w hd CW h1.bk h1.en hLA (by omega) (by omega) hL.sm hw.2.2.2.2 (by omega) hlk hn60).mono ?_
        rintro r w' ⟨rfl, g, cap', gl', cl', t', ⟨ht', rfl⟩, hR', hown', hli', hT, hg⟩
        have : s.postN day xa xm n = ((s.ne + 1 : Nat) : Int) := by unfold St.postN; rw [if_pos he]; omega
        refine ⟨by rw [he, this], ?_⟩
        unfold St.afterPost
        rw [if_pos he]
        exact doc_entered h1 h2 hR' (by rw [entCells_snoc]; exact hown') hli' hT hg (by omega)
      · refine (PostR_err R n cap s.ne ce (some ⟨lg, lo, none⟩) ade day _ s.lk w hd CW cE cL (by omega) (hE ▸ he)).mono ?_
        rintro r w' ⟨rfl, q, rfl⟩
        exact ⟨by rw [hN he, hE], hkeep _ (below_drewN w q) he⟩
/-- Balance of the document's book. -/
theorem docBal (R : Nat) (s : St) (Fd : Nat → Prop) (name : ByteArray) (day known : Int) (w : World) (h : DocIs w R s Fd) (ho : s.Ok) :
    Calls Tryz.prog 84 #[.pointer (some ⟨R, 0, none⟩), .string name, .int .i64 day, .int .i64 known] w fun r w' => r = .returned (.tuple #[.int .i64 (s.bal name day known), .int .i64 (s.balE name day known)]) ∧ w' = w := by
  obtain ⟨ada, ade, ca, ce, gl, cl, h1, h2⟩ := h
  obtain ⟨ga, hA⟩ := h1.accs ho
  obtain ⟨ge, hE⟩ := h1.ents ho
  exact BalanceR_any R ga ca s.na ge ce s.ne ada ade s.fn s.dy gl s.ln cl s.la s.lm name day known w hA hE
/-- Trial of the document's book. -/
theorem docTrial (R : Nat) (s : St) (Fd : Nat → Prop) (day known : Int) (w : World) (h : DocIs w R s Fd) (ho : s.Ok) :
    Calls Tryz.prog 86 #[.pointer (some ⟨R, 0, none⟩), .int .i64 day, .int .i64 known] w fun r w' => ∃ v, r = .returned (.tuple #[v, .int .i64 (s.trialE day known)]) ∧ w'.ownsRow w.heap.size 58 2 v (s.trial day known).length (cells2 (s.trial day known)) ∧ Below w.heap.size w w' := by
  obtain ⟨ada, ade, ca, ce, gl, cl, h1, h2⟩ := h
  obtain ⟨ga, hA⟩ := h1.accs ho
  obtain ⟨ge, hE⟩ := h1.ents ho
  by_cases he : s.trialE day known = 0
  · obtain ⟨g1, g2⟩ := viewE_zero he
    obtain ⟨k1, k2⟩ := knownB_yes g2
    obtain ⟨kn, rfl⟩ : ∃ kn : Nat, known = kn := ⟨known.toNat, by omega⟩
    refine (TrialR_ok R ga ca s.na ge ce s.ne ada ade s.fn s.dy gl s.ln cl s.la s.lm day kn w hA hE g1 (by omega)).mono ?_
    rintro r w' ⟨v, rfl, hv, hb⟩
    refine ⟨v, by rw [he], ?_, hb⟩
    unfold St.trial
    rw [if_pos he]
    exact hv
  · refine (TrialR_err R s.ne ce ade day known w hE.cE he).mono ?_
    rintro r w' ⟨rfl, rfl⟩
    refine ⟨_, rfl, ?_, Below.refl _ _⟩
    unfold St.trial
    rw [if_neg he]
    exact ⟨rfl, .inl ⟨rfl, rfl⟩⟩
/-- Items of the document's book. -/
theorem docItems (R : Nat) (s : St) (Fd : Nat → Prop) (name : ByteArray) (d1 d2 known : Int) (w : World) (h : DocIs w R s Fd) (ho : s.Ok) :
    Calls Tryz.prog 90 #[.pointer (some ⟨R, 0, none⟩), .string name, .int .i64 d1, .int .i64 d2, .int .i64 known] w fun r w' => ∃ v, r = .returned (.tuple #[v, .int .i64 (s.itemsE name d1 d2 known)]) ∧ w'.ownsRow w.heap.size 106 3 v (s.items name d1 d2 known).length (cells3 (s.items name d1 d2 known)) ∧ Below w.heap.size w w' := by
  obtain ⟨ada, ade, ca, ce, gl, cl, h1, h2⟩ := h
  obtain ⟨ga, hA⟩ := h1.accs ho
  obtain ⟨ge, hE⟩ := h1.ents ho
  by_cases he : s.itemsE name d1 d2 known = 0
  · obtain ⟨g0, g1, g2⟩ := askErr_zero he
    obtain ⟨k1, k2⟩ := knownB_yes g2
    obtain ⟨kn, rfl⟩ : ∃ kn : Nat, known = kn := ⟨known.toNat, by omega⟩
    rw [Bool.and_eq_true] at g1
    refine (ItemsR_ok R ga ca s.na ge ce s.ne ada ade s.fn s.dy gl s.ln cl s.la s.lm name d1 d2 kn w hA hE ho.ln (by unfold St.there at g0; simpa using g0) g1.1 g1.2 (by omega)).mono ?_
    rintro r w' ⟨v, rfl, hv, hb⟩
    refine ⟨v, by rw [he], ?_, hb⟩
    unfold St.items
    rw [if_pos he]
    exact hv
  · refine (ItemsR_err R ga ca s.na s.ne ce ada ade s.fn name d1 d2 known w hA hE.cE he).mono ?_
    rintro r w' ⟨rfl, rfl⟩
    refine ⟨_, rfl, ?_, Below.refl _ _⟩
    unfold St.items
    rw [if_neg he]
    exact ⟨rfl, .inl ⟨rfl, rfl⟩⟩
/-- Lock of the document's book. -/
theorem docLock (R : Nat) (s : St) (Fd : Nat → Prop) (day : Int) (w : World) (h : DocIs w R s Fd) (ho : s.Ok) :
    Calls Tryz.prog 43 #[.pointer (some ⟨R, 0, none⟩), .int .i64 day] w fun r w' => r = .returned (.int .i64 (s.lockE day)) ∧ ∃ Fd', DocIs w' R (s.afterLock day) Fd' ∧ Turn Fd w w' ∧ ∀ k, Fd' k → Fd k ∨ w.heap.size ≤ k := by
  obtain ⟨ada, ade, ca, ce, gl, cl, h1, h2⟩ := h
  have hne := ho.ne
  have hna := ho.na
  have hlk := ho.lk
  have htx := h1.tx
  by_cases he : s.lockE day = 0
  · have hz : dayB day = true ∧ ¬ day ≤ s.lk := by
      have he' := he
      unfold St.lockE Go.Annal.lockE at he'
      cases hd : dayB day
      · rw [hd] at he'; simp at he'
      · rw [hd] at he'
        refine ⟨rfl, fun h' => ?_⟩
        rw [decide_eq_true h'] at he'; simp at he'
    refine (LockR_ok R _ _ s.lk day s.tx w h1.bk hz.1 hz.2 (by omega)).mono ?_
    rintro r w' ⟨rfl, hR', hT⟩
    have hdl := digZ_len day
    refine ⟨by rw [he], Fd, ?_, hT.mono (fun k _ hk => (h2 k).2 (.inl hk)), fun k hk => .inl hk⟩
    unfold St.afterLock
    rw [if_pos he]
    have hnk : ∀ {e : TypeId} {sz n : Nat} {v : Value} {xs : List Value}, w.ownsRow 0 e sz v n xs → e ≠ 103 → ∀ k, v.ownBlock = some k → ¬ k = R := by
      intro e sz n v xs hv e1 k hb hk
      obtain ⟨c, fz, hc⟩ := owns_kind hv k hb
      rw [hk, h1.bk] at hc; simp at hc; exact e1 hc.2.1.symm
    refine ⟨ada, ade, ca, ce, gl, cl, ⟨hR', owns_turn h1.ac hT (hnk h1.ac (by decide)), owns_turn h1.en hT (hnk h1.en (by decide)), fun k hk => owns_turn (h1.li k hk) hT (hnk (h1.li k hk) (by decide)), ?_⟩, h2⟩
    show ((s.tx ++ (⟨#[108, 32]⟩ ++ ⟨(digZ day).toArray⟩) ++ ⟨#[10]⟩ : ByteArray).size : Int) ≤ 8000000000 * s.ne + 1100000000 * s.na + 1000 * (day + 1)
    simp only [ByteArray.size_append, sz_arr, List.size_toArray, List.length_cons, List.length_nil]
    omega
  · refine (LockR_err R _ _ _ s.lk day w h1.bk he).mono ?_
    rintro r w' ⟨rfl, rfl⟩
    refine ⟨rfl, Fd, ?_, Turn.refl _ _, fun k hk => .inl hk⟩
    unfold St.afterLock
    rw [if_neg he]
    exact ⟨ada, ade, ca, ce, gl, cl, h1, h2⟩
end Go.Proofs.YtjnmoddcodnadaaGreatDoor
