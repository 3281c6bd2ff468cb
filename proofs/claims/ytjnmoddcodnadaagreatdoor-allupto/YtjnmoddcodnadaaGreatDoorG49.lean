import Derived.Test.YtjnmoddcodnadaaGreatDoorG47
import Derived.Test.YtjnmoddcodnadaaGreatDoorG01
import Derived.Lib.AtoiTie
import Derived.Test.YtjnmoddcodnadaaGreatDoorG04
import Derived.Test.YtjnmoddcodnadaaGreatDoorG19
import Derived.Test.YtjnmoddcodnadaaGreatDoorG48
import Derived.OwnWalk
set_option linter.unusedVariables false
set_option linter.unusedSimpArgs false
namespace Go.Proofs.YtjnmoddcodnadaaGreatDoor
open Go.RowKit Go.Annal Go.Sort
/-- A book more, whatever it holds. -/
def Ls.addAny (d : Ls) (b r : Nat) (s : St) (Fp Fd : Nat → Prop) (vb : Value) : Ls := { d with nb := d.nb + 1, B := upd d.B d.nb b, R := upd d.R d.nb r, st := upd d.st d.nb s, Fp := upd d.Fp d.nb Fp, Fd := upd d.Fd d.nb Fd, vb := vb }
theorem LawIs.bookAny {H : Nat} {w w' : World} {L : Nat} {d : Ls} {b r : Nat} {vb' : Value} {s : St} {Fp Fd : Nat → Prop} (h : LawIs H w L d) (T : Turn (fun b => d.vb.ownBlock = some b ∨ b = L) w w') (hL' : w'.heap[L]? = some (.cells #[vb', d.vl, d.vi, d.vt, d.v0, d.v1] 52 (0, 0)))
    (hrb : w'.ownsRow H 94 2 vb' (d.nb + 1) (pairCells (upd d.B d.nb b) (upd d.R d.nb r) (d.nb + 1))) (hP : ProgIs w' b s Fp) (hD : DocIs w' r s Fd) (ho : s.Ok) (hFp : ∀ k, Fp k → w.heap.size ≤ k) (hFd : ∀ k, Fd k → w.heap.size ≤ k) (hPD : ∀ k, Fp k → ¬ Fd k) : LawIs H w' L (d.addAny b r s Fp Fd vb') := by
  have hK : KindIn w (fun b => d.vb.ownBlock = some b ∨ b = L) [94, 52] := by
    rintro k (hk | rfl) _
    · obtain ⟨c, fz, hc⟩ := owns_kind h.rb k hk; exact ⟨c, _, fz, hc, by decide⟩
    · exact ⟨_, _, _, h.bk, by decide⟩
  have hLt := blk_lt h.bk
  have hlo := h.lo
  have hap : ∀ g, g < w.heap.size → d.apart g → (d.addAny b r s Fp Fd vb').apart g := fun g hg ha j hj hk => by
    have hj' : j < d.nb + 1 := hj
    by_cases e : j = d.nb
    · subst e
      simp only [Ls.addAny, upd_same] at hk
      rcases hk with hk | hk
      · have := hFd g hk; omega
      · have := hFp g hk; omega
    · simp only [Ls.addAny, upd_ne _ _ e] at hk
      exact ha j (by omega) hk
  refine ⟨h.lo, hL', hrb, owns_turn h.rl T (hK.row h.rl (by decide)), owns_turn h.ri T (hK.row h.ri (by decide)), owns_turn h.rt T (hK.row h.rt (by decide)), owns_turn h.r0 T (hK.row h.r0 (by decide)), owns_turn h.r1 T (hK.row h.r1 (by decide)), h.a1, h.a2, ?_, ?_, ?_, ?_, ?_, ?_, ?_, ?_, fun i hi => (h.cl i hi).turn T (fun _ _ _ hc _ => hK.no hc (by decide)) hap, fun i hi => (h.ci i hi).turn T (fun _ _ _ hc _ => hK.no hc (by decide)) hap, fun i hi => (h.ct i hi).turn T (fun _ _ _ hc _ => hK.no hc (by decide)) hap⟩
  · intro j hj
    have hj' : j < d.nb + 1 := hj
    by_cases e : j = d.nb
    · subst e; simp only [Ls.addAny, upd_same]; exact hP
    · simp only [Ls.addAny, upd_ne _ _ e]
      exact (h.pr j (by omega)).turn T (hK.prog (h.pr j (by omega)) (by decide))
  · intro j hj
    have hj' : j < d.nb + 1 := hj
    by_cases e : j = d.nb
    · subst e; simp only [Ls.addAny, upd_same]; exact hD
    · simp only [Ls.addAny, upd_ne _ _ e]
      exact (h.dc j (by omega)).turn T (hK.doc (h.dc j (by omega)) (by decide))
  · intro j hj
    have hj' : j < d.nb + 1 := hj
    by_cases e : j = d.nb
    · subst e; simp only [Ls.addAny, upd_same]; exact ho
    · simp only [Ls.addAny, upd_ne _ _ e]; exact h.ok j (by omega)
  · intro x y k hx hy hxy hk hk'
    have hx' : x < d.nb + 1 := hx
    have hy' : y < d.nb + 1 := hy
    simp only [Ls.addAny] at hk hk'
    by_cases e : x = d.nb
    · subst e
      rw [upd_same] at hk
      rw [upd_ne _ _ (fun e => hxy e.symm)] at hk'
      have := h.plt (by omega) hk'; have := hFp k hk; omega
    · rw [upd_ne _ _ e] at hk
      by_cases e' : y = d.nb
      · subst e'
        rw [upd_same] at hk'
        have := h.plt (by omega) hk; have := hFp k hk'; omega
      · rw [upd_ne _ _ e'] at hk'
        exact h.pp x y k (by omega) (by omega) hxy hk hk'
  · intro x y k hx hy hxy hk hk'
    have hx' : x < d.nb + 1 := hx
    have hy' : y < d.nb + 1 := hy
    simp only [Ls.addAny] at hk hk'
    by_cases e : x = d.nb
    · subst e
      rw [upd_same] at hk
      rw [upd_ne _ _ (fun e => hxy e.symm)] at hk'
      have := h.dlt (by omega) hk'; have := hFd k hk; omega
    · rw [upd_ne _ _ e] at hk
      by_cases e' : y = d.nb
      · subst e'
        rw [upd_same] at hk'
        have := h.dlt (by omega) hk; have := hFd k hk'; omega
      · rw [upd_ne _ _ e'] at hk'
        exact h.dd x y k (by omega) (by omega) hxy hk hk'
  · intro x y k hx hy hk hk'
    have hx' : x < d.nb + 1 := hx
    have hy' : y < d.nb + 1 := hy
    simp only [Ls.addAny] at hk hk'
    by_cases e : x = d.nb
    · subst e
      rw [upd_same] at hk
      by_cases e' : y = d.nb
      · subst e'
        rw [upd_same] at hk'
        exact hPD k hk hk'
      · rw [upd_ne _ _ e'] at hk'
        have := h.dlt (by omega) hk'; have := hFp k hk; omega
    · rw [upd_ne _ _ e] at hk
      by_cases e' : y = d.nb
      · subst e'
        rw [upd_same] at hk'
        have := h.plt (by omega) hk; have := hFd k hk'; omega
      · rw [upd_ne _ _ e'] at hk'
        exact h.pd x y k (by omega) (by omega) hk hk'
  · intro j k hj hk
    have hj' : j < d.nb + 1 := hj
    simp only [Ls.addAny] at hk
    by_cases e : j = d.nb
    · subst e; rw [upd_same] at hk; have := hFp k hk; omega
    · rw [upd_ne _ _ e] at hk; exact h.pH j k (by omega) hk
  · intro j k hj hk
    have hj' : j < d.nb + 1 := hj
    simp only [Ls.addAny] at hk
    by_cases e : j = d.nb
    · subst e; rw [upd_same] at hk; have := hFd k hk; omega
    · rw [upd_ne _ _ e] at hk; exact h.dH j k (by omega) hk
end Go.Proofs.YtjnmoddcodnadaaGreatDoor
namespace Go.Annal
/-- A number in form: the digits behind a sign. -/
def numForm (m : List UInt8) (minus : Bool) : Bool := decide (1 ≤ m.length) && decide (m.length ≤ 10) && !(decide (m.head? = some 48) && (decide (1 < m.length) || minus))
def numD (minus : Bool) (m : List UInt8) : Option Int := if numForm m minus then (Lib.decFrom 0 m).map (fun (u : Nat) => if minus then -(u : Int) else (u : Int)) else none
/-- The number that a word is, in the document's reading. -/
def numX (x : ByteArray) : Option Int := if x.data.toList.head? = some 45 then numD true x.data.toList.tail else numD false x.data.toList
theorem decFrom_none {l : List UInt8} : ∀ (k acc : Nat) (b : UInt8), l[k]? = some b → Lib.digitVal b = none → Lib.decFrom acc l = none := by
  induction l with
  | nil => intro k acc b h; simp at h
  | cons a t ih =>
    intro k acc b h hb
    rw [Lib.decFrom]
    cases k with
    | zero =>
      simp only [List.getElem?_cons_zero, Option.some.injEq] at h
      rw [h, hb]
    | succ k =>
      cases ha : Lib.digitVal a with
      | none => rfl
      | some d => exact ih k _ b (by simpa using h) hb
theorem decFrom_bd : ∀ (l : List UInt8) (acc n : Nat), Lib.decFrom acc l = some n → n < (acc + 1) * 10 ^ l.length
  | [], acc, n, h => by simp [Lib.decFrom] at h; simp; omega
  | a :: t, acc, n, h => by
    rw [Lib.decFrom] at h
    cases ha : Lib.digitVal a with
    | none => rw [ha] at h; cases h
    | some d =>
      rw [ha] at h
      have hd : d < 10 := by
        unfold Lib.digitVal at ha
        split at ha
        · have := Option.some.inj ha; omega
        · cases ha
      have ih := decFrom_bd t _ n h
      refine Nat.lt_of_lt_of_le ih ?_
      rw [List.length_cons, Nat.pow_succ, Nat.mul_comm (10 ^ t.length) 10, ← Nat.mul_assoc]
      exact Nat.mul_le_mul_right _ (by omega)
theorem byte_list (x : ByteArray) (i : Nat) (hi : i < x.size) : x.data.toList[i]? = some (x[i]'hi) := by
  rw [Array.getElem?_toList, Array.getElem?_eq_getElem (by simpa using hi)]
  rfl
theorem size_list (x : ByteArray) : x.size = x.data.toList.length := by simp
theorem head_byte (x : ByteArray) (h : 0 < x.size) (b : UInt8) : x.data.toList.head? = some b ↔ (x[0]'h).toNat = b.toNat := by
  rw [List.head?_eq_getElem?, byte_list x 0 h]
  constructor
  · intro e; rw [Option.some.inj e]
  · intro e; rw [UInt8.toNat_inj.1 e]
end Go.Annal
namespace Go.Proofs.YtjnmoddcodnadaaGreatDoor
open Go.RowKit Go.Annal
def numIs (o : Option Int) : Ending := .returned (.tuple #[.int .i64 (o.getD 0), .bool o.isSome])
theorem numIs_none {o : Option Int} (h : o = none) : Ending.returned (.tuple #[.int .i64 0, .bool false]) = numIs o := by rw [h]; rfl
theorem numIs_some {o : Option Int} {v : Int} (h : o = some v) : Ending.returned (.tuple #[.int .i64 v, .bool true]) = numIs o := by rw [h]; rfl
/-- What stands behind the sign, once it was cut off. -/
theorem numD_no (minus : Bool) (y : ByteArray) (h : ¬ 0 < y.size ∨ 10 < y.size) : numD minus y.data.toList = none := by
  unfold numD
  rw [if_neg]
  unfold numForm
  rw [← size_list]
  rcases h with h | h
  · rw [decide_eq_false (show ¬ 1 ≤ y.size by omega)]; simp
  · rw [decide_eq_false (show ¬ y.size ≤ 10 by omega)]; simp
theorem numD_zero (minus : Bool) (y : ByteArray) (hy : 0 < y.size) (h0 : (y[0]'hy).toNat = 48) (h : 1 < y.size ∨ minus = true) : numD minus y.data.toList = none := by
  unfold numD
  rw [if_neg]
  unfold numForm
  rw [decide_eq_true ((head_byte y hy 48).2 h0), ← size_list]
  rcases h with h | h
  · rw [decide_eq_true h]; simp
  · rw [h]; simp
theorem numD_form (minus : Bool) (y : ByteArray) (hy : 0 < y.size) (h10 : y.size ≤ 10) (h : ¬ ((y[0]'hy).toNat = 48 ∧ (1 < y.size ∨ minus = true))) : numD minus y.data.toList = (Lib.decFrom 0 y.data.toList).map (fun (u : Nat) => if minus then -(u : Int) else (u : Int)) := by
  unfold numD
  rw [if_pos]
  unfold numForm
  rw [← size_list, decide_eq_true (show 1 ≤ y.size by omega), decide_eq_true h10]
  by_cases h0 : (y[0]'hy).toNat = 48
  · have h1 : ¬ 1 < y.size := fun e => h ⟨h0, .inl e⟩
    have h2 : minus = false := by
      cases minus with
      | false => rfl
      | true => exact absurd ⟨h0, .inr rfl⟩ h
    rw [decide_eq_false h1, h2]; simp
  · rw [decide_eq_false (fun e => h0 ((head_byte y hy 48).1 e))]; simp
theorem extract_listD (x : ByteArray) (a b : Nat) : (x.extract a b).data.toList = (x.data.toList.drop a).take (b - a) := by
  rw [ByteArray.data_extract, Array.toList_extract, List.extract_eq_take_drop]
theorem pow_ten {i : Nat} (h : i ≤ 10) : 10 ^ i ≤ 10000000000 := Nat.le_trans (Nat.pow_le_pow_right (by decide) h) (by decide)
set_option maxHeartbeats 2000000 in
set_option maxRecDepth 100000 in
theorem numberR_plain (x : ByteArray) (w : World) (hx : x.size ≤ 1000000000000) (hm : ∀ h : 0 < x.size, ¬ (x[0]'h).toNat = 45) :
    Calls Tryz.prog 152 #[.string x] w fun r w' => r = numIs (numD false x.data.toList) ∧ w' = w := by
  by_cases h0 : 0 < x.size
  · have h0' : (x.size : Int) > 0 := by omega
    have h0'' : ¬ (x.size : Int) < 1 := by omega
    have hm' := hm h0
    clear hm
    by_cases h10 : 10 < x.size
    · have h10' : (x.size : Int) > 10 := by omega
      have hN : Hid (numD false x.data.toList = none) := numD_no false x (.inr h10)
      go_enter Tryz.func152, Tryz.ntmps152
      go_wp2
      go_ret2
      exact ⟨numIs_none hN.out, rfl⟩
    · have h10' : ¬ (x.size : Int) > 10 := by omega
      by_cases hz : (x[0]'h0).toNat = 48 ∧ 1 < x.size
      · have hz0 := hz.1
        have hz1 : (x.size : Int) > 1 := by omega
        have hN : Hid (numD false x.data.toList = none) := numD_zero false x h0 hz.1 (.inl hz.2)
        clear hz
        go_enter Tryz.func152, Tryz.ntmps152
        go_wp2
        go_ret2
        exact ⟨numIs_none hN.out, rfl⟩
      · have hN : Hid (numD false x.data.toList = (Lib.decFrom 0 x.data.toList).map (fun (u : Nat) => (u : Int))) := numD_form false x h0 (by omega) (fun h => hz ⟨h.1, h.2.elim id (fun e => by cases e)⟩)
        have hsz : x.data.toList.length = x.size := (size_list x).symm
        have hz' : ((x[0]'h0).toNat = 48 ∧ ¬ (x.size : Int) > 1) ∨ ¬ (x[0]'h0).toNat = 48 := by
          by_cases e : (x[0]'h0).toNat = 48
          · exact .inl ⟨e, fun h => hz ⟨e, by omega⟩⟩
          · exact .inr e
        clear hz
        have hdec : Hid (∀ i u, i ≤ x.size → Lib.decFrom 0 (x.data.toList.take i) = some u → u < 10000000000) := fun i u hi hd => by
          have := decFrom_bd _ _ _ hd
          rw [List.length_take, hsz, Nat.min_eq_left hi] at this
          have := pow_ten (show i ≤ 10 by omega)
          omega
        go_enter Tryz.func152, Tryz.ntmps152
        rcases hz' with ⟨hz1, hz2⟩ | hz1
        all_goals go_wp2
        all_goals go_loop [5, 6] (fun nv iv => ∃ i u : Nat, i ≤ x.size ∧ nv = .int .i64 u ∧ iv = .int .i64 i ∧ Hid (Lib.decFrom 0 (x.data.toList.take i) = some u)) (fun _ iv => x.size - (intOf iv).toNat)
        all_goals first
          | exact ⟨0, 0, Nat.zero_le _, rfl, rfl, rfl⟩
          | skip
        all_goals
          obtain ⟨i, u, hi, rfl, rfl, hd⟩ := hrel
          have hu := hdec.out i u hi hd.out
          by_cases hlt : i < x.size
          · have hlt' : (i : Int) < (x.size : Int) := by omega
            have hb := byte_list x i hlt
            have hc := UInt8.toNat_lt (x[i]'hlt)
            by_cases hdg : 48 ≤ (x[i]'hlt).toNat ∧ (x[i]'hlt).toNat ≤ 57
            · have hdv : Lib.digitVal (x[i]'hlt) = some ((x[i]'hlt).toNat - 48) := by unfold Lib.digitVal; rw [if_pos hdg]
              have hnx : Hid (Lib.decFrom 0 (x.data.toList.take (i + 1)) = some (u * 10 + ((x[i]'hlt).toNat - 48))) := Lib.decFrom_take _ _ _ _ _ _ hd.out hb hdv
              obtain ⟨c, hcc⟩ : ∃ c, (x[i]'hlt).toNat = c := ⟨_, rfl⟩
              rw [hcc] at hdg hnx hc
              have hd1 : ¬ (c : Int) < 48 := by omega
              have hd2 : ¬ (c : Int) > 57 := by omega
              clear hb hdv
              go_wp2
              go_round
              case rel => exact ⟨i + 1, u * 10 + (c - 48), by omega, by go_num, by go_num, hnx⟩
              case measure => simp [intOf]; omega
            · have hdv : Lib.digitVal (x[i]'hlt) = none := by unfold Lib.digitVal; rw [if_neg hdg]
              have hno : Hid (numD false x.data.toList = none) := by show numD false x.data.toList = none; rw [hN.out, decFrom_none i 0 _ hb hdv]; rfl
              obtain ⟨c, hcc⟩ : ∃ c, (x[i]'hlt).toNat = c := ⟨_, rfl⟩
              rw [hcc] at hdg hc
              have hd1 : (c : Int) < 48 ∨ ((c : Int) > 57 ∧ ¬ (c : Int) < 48) := by omega
              clear hb hdv hdg
              rcases hd1 with hd1 | ⟨hd1, hd2⟩
              · go_wp2
                go_ret2
                exact ⟨numIs_none hno.out, rfl⟩
              · go_wp2
                go_ret2
                exact ⟨numIs_none hno.out, rfl⟩
          · have hlt' : ¬ (i : Int) < (x.size : Int) := by omega
            have hys : Hid (numD false x.data.toList = some (u : Int)) := by
              show numD false x.data.toList = some (u : Int)
              have := hd.out
              rw [List.take_of_length_le (by omega)] at this
              rw [hN.out, this]; rfl
            go_wp2
            go_ret2
            exact ⟨numIs_some hys.out, rfl⟩
  · have h0' : ¬ (x.size : Int) > 0 := by omega
    have h0'' : (x.size : Int) < 1 := by omega
    have hN : Hid (numD false x.data.toList = none) := numD_no false x (.inl h0)
    clear hm
    go_enter Tryz.func152, Tryz.ntmps152
    go_wp2
    go_ret2
    exact ⟨numIs_none hN.out, rfl⟩
set_option maxHeartbeats 2000000 in
set_option maxRecDepth 100000 in
theorem numberR_minus (x : ByteArray) (w : World) (hx : x.size ≤ 1000000000000) (hx0 : 0 < x.size) (hm : (x[0]'hx0).toNat = 45) (o : Option Int) (ho : Hid (o = numD true (x.extract 1 x.size).data.toList)) :
    Calls Tryz.prog 152 #[.string x] w fun r w' => r = numIs o ∧ w' = w := by
  have hx0' : (x.size : Int) > 0 := by omega
  have hys : (x.extract 1 x.size).size = x.size - 1 := by rw [ByteArray.size_extract]; omega
  by_cases h0 : 0 < (x.extract 1 x.size).size
  · have h0'' : ¬ ((x.size - 1 : Nat) : Int) < 1 := by omega
    by_cases h10 : 10 < (x.extract 1 x.size).size
    · have h10' : ((x.size - 1 : Nat) : Int) > 10 := by omega
      have hN : Hid (o = none) := ho.out.trans (numD_no true _ (.inr h10))
      go_enter Tryz.func152, Tryz.ntmps152
      go_wp2
      go_ret2
      exact ⟨numIs_none hN.out, rfl⟩
    · have h10' : ¬ ((x.size - 1 : Nat) : Int) > 10 := by omega
      by_cases hz : ((x.extract 1 x.size)[0]'h0).toNat = 48
      · have hN : Hid (o = none) := ho.out.trans (numD_zero true _ h0 hz (.inr rfl))
        have h00 : 0 < x.size - 1 := by omega
        go_enter Tryz.func152, Tryz.ntmps152
        go_wp2
        all_goals go_ret2
        all_goals exact ⟨numIs_none hN.out, rfl⟩
      · have hN : Hid (o = (Lib.decFrom 0 (x.extract 1 x.size).data.toList).map (fun (u : Nat) => -(u : Int))) := ho.out.trans (numD_form true _ h0 (by omega) (fun h => hz h.1))
        have hsz : (x.extract 1 x.size).data.toList.length = x.size - 1 := by rw [← size_list, hys]
        have HSZ : Hid (type_of% hsz) := hsz
        have HYS : Hid (type_of% hys) := hys
        have h00 : 0 < x.size - 1 := by omega
        have hdec : Hid (∀ i u, i ≤ x.size - 1 → Lib.decFrom 0 ((x.extract 1 x.size).data.toList.take i) = some u → u < 10000000000) := fun i u hi hd => by
          have := decFrom_bd _ _ _ hd
          rw [List.length_take, hsz, Nat.min_eq_left hi] at this
          have := pow_ten (show i ≤ 10 by omega)
          omega
        clear hsz
        go_enter Tryz.func152, Tryz.ntmps152
        go_wp2
        go_loop [5, 6] (fun nv iv => ∃ i u : Nat, i ≤ x.size - 1 ∧ nv = .int .i64 u ∧ iv = .int .i64 i ∧ Hid (Lib.decFrom 0 ((x.extract 1 x.size).data.toList.take i) = some u)) (fun _ iv => x.size - 1 - (intOf iv).toNat)
        case atStart => exact ⟨0, 0, Nat.zero_le _, rfl, rfl, rfl⟩
        case round =>
          obtain ⟨i, u, hi, rfl, rfl, hd⟩ := hrel
          have hu := hdec.out i u hi hd.out
          by_cases hlt : i < x.size - 1
          · have hlt' : (i : Int) < ((x.size - 1 : Nat) : Int) := by omega
            have hlt2 : i < (x.extract 1 x.size).size := by rw [HYS.out]; exact hlt
            have hb := byte_list (x.extract 1 x.size) i hlt2
            have hc := UInt8.toNat_lt ((x.extract 1 x.size)[i]'hlt2)
            by_cases hdg : 48 ≤ ((x.extract 1 x.size)[i]'hlt2).toNat ∧ ((x.extract 1 x.size)[i]'hlt2).toNat ≤ 57
            · have hdv : Lib.digitVal ((x.extract 1 x.size)[i]'hlt2) = some (((x.extract 1 x.size)[i]'hlt2).toNat - 48) := by unfold Lib.digitVal; rw [if_pos hdg]
              have hnx : Hid (Lib.decFrom 0 ((x.extract 1 x.size).data.toList.take (i + 1)) = some (u * 10 + (((x.extract 1 x.size)[i]'hlt2).toNat - 48))) := Lib.decFrom_take _ _ _ _ _ _ hd.out hb hdv
              obtain ⟨c, hcc⟩ : ∃ c, ((x.extract 1 x.size)[i]'hlt2).toNat = c := ⟨_, rfl⟩
              rw [hcc] at hdg hnx hc
              have hd1 : ¬ (c : Int) < 48 := by omega
              have hd2 : ¬ (c : Int) > 57 := by omega
              clear hb hdv
              go_wp2
              go_round
              case rel => exact ⟨i + 1, u * 10 + (c - 48), by omega, by go_num, by go_num, hnx⟩
              case measure => simp [intOf]; omega
            · have hdv : Lib.digitVal ((x.extract 1 x.size)[i]'hlt2) = none := by unfold Lib.digitVal; rw [if_neg hdg]
              have hno : Hid (o = none) := by show o = none; rw [hN.out, decFrom_none i 0 _ hb hdv]; rfl
              obtain ⟨c, hcc⟩ : ∃ c, ((x.extract 1 x.size)[i]'hlt2).toNat = c := ⟨_, rfl⟩
              rw [hcc] at hdg hc
              have hd1 : (c : Int) < 48 ∨ ((c : Int) > 57 ∧ ¬ (c : Int) < 48) := by omega
              clear hb hdv hdg
              rcases hd1 with hd1 | ⟨hd1, hd2⟩
              · go_wp2
                go_ret2
                exact ⟨numIs_none hno.out, rfl⟩
              · go_wp2
                go_ret2
                exact ⟨numIs_none hno.out, rfl⟩
          · have hlt' : ¬ (i : Int) < ((x.size - 1 : Nat) : Int) := by omega
            have hys : Hid (o = some (-(u : Int))) := by
              show o = some (-(u : Int))
              have := hd.out
              rw [List.take_of_length_le (by rw [HSZ.out]; omega)] at this
              rw [hN.out, this]; rfl
            go_wp2
            go_ret2
            exact ⟨numIs_some hys.out, rfl⟩
  · have h0'' : ((x.size - 1 : Nat) : Int) < 1 := by omega
    have hN : Hid (o = none) := ho.out.trans (numD_no true _ (.inl h0))
    go_enter Tryz.func152, Tryz.ntmps152
    go_wp2
    go_ret2
    exact ⟨numIs_none hN.out, rfl⟩
theorem numberR_any (x : ByteArray) (w : World) (hx : x.size ≤ 1000000000000) :
    Calls Tryz.prog 152 #[.string x] w fun r w' => r = numIs (numX x) ∧ w' = w := by
  by_cases h0 : 0 < x.size
  · by_cases hm : (x[0]'h0).toNat = 45
    · have e : numX x = numD true (x.extract 1 x.size).data.toList := by
        unfold numX
        rw [if_pos ((head_byte x h0 45).2 hm), extract_listD]
        congr 1
        rw [List.drop_one, List.take_of_length_le]
        rw [List.length_tail, ← size_list]; exact Nat.le_refl _
      exact numberR_minus x w hx h0 hm _ e
    · have e : numX x = numD false x.data.toList := by
        unfold numX
        rw [if_neg (fun e => hm ((head_byte x h0 45).1 e))]
      rw [e]
      exact numberR_plain x w hx (fun _ => hm)
  · have e : numX x = numD false x.data.toList := by
      unfold numX
      rw [if_neg]
      intro e
      have : x.data.toList = [] := List.length_eq_zero_iff.1 (by rw [← size_list]; omega)
      rw [this] at e; cases e
    rw [e]
    exact numberR_plain x w hx (fun h => absurd h h0)
end Go.Proofs.YtjnmoddcodnadaaGreatDoor
namespace Go.Annal
/-- The words of a line: w stands ahead of what is left. -/
def wl (w : List UInt8) : List UInt8 → List (List UInt8)
  | [] => [w]
  | b :: t => if b = 32 then w :: wl [] t else wl (w ++ [b]) t
def wlB (c : ByteArray) (l : List UInt8) : List ByteArray := (wl c.data.toList l).map (fun l => ⟨l.toArray⟩)
def wsB (x : ByteArray) : List ByteArray := wlB ⟨#[]⟩ x.data.toList
theorem drop_byte (x : ByteArray) (i : Nat) (hi : i < x.size) : x.data.toList.drop i = (x[i]'hi) :: x.data.toList.drop (i + 1) := by
  have h : i < x.data.toList.length := by simpa using hi
  rw [List.drop_eq_getElem_cons h]
  congr 1
theorem ba_mk (c : ByteArray) : (⟨c.data.toList.toArray⟩ : ByteArray) = c := by cases c; simp
theorem wlB_blank (c x : ByteArray) (i : Nat) (hi : i < x.size) (h : (x[i]'hi).toNat = 32) : wlB c (x.data.toList.drop i) = c :: wlB ⟨#[]⟩ (x.data.toList.drop (i + 1)) := by
  rw [drop_byte x i hi]
  unfold wlB
  rw [wl, if_pos (UInt8.toNat_inj.1 h), List.map_cons, ba_mk]
theorem wlB_byte (c x : ByteArray) (i : Nat) (hi : i < x.size) (h : ¬ (x[i]'hi).toNat = 32) : wlB c (x.data.toList.drop i) = wlB (c ++ x.extract i (i + 1)) (x.data.toList.drop (i + 1)) := by
  have e : (c ++ x.extract i (i + 1)).data.toList = c.data.toList ++ [x[i]'hi] := by
    have h1 : (c ++ x.extract i (i + 1)).data.toList = c.data.toList ++ (x.extract i (i + 1)).data.toList := by simp
    have h2 : (x.extract i (i + 1)).data.toList = (x.data.toList.drop i).take (i + 1 - i) := Go.Proofs.YtjnmoddcodnadaaGreatDoor.extract_listD x i (i + 1)
    rw [h1, h2, drop_byte x i hi, show i + 1 - i = 1 by omega]; rfl
  unfold wlB
  rw [e, drop_byte x i hi, wl, if_neg (fun e => h (by rw [e]; rfl))]
theorem wlB_end (c : ByteArray) : wlB c [] = [c] := by unfold wlB; rw [wl]; simp
end Go.Annal
namespace Go.Proofs.YtjnmoddcodnadaaGreatDoor
open Go.RowKit Go.Annal
set_option maxRecDepth 100000 in
set_option maxHeartbeats 2000000 in
theorem wordsR_any (x : ByteArray) (w : World) (hx : x.size ≤ 1000000000) :
    Calls Tryz.prog 151 #[.string x] w fun r w' => ∃ v, r = .returned v ∧ Hid (w'.ownsRow w.heap.size 9 1 v (wsB x).length ((wsB x).map .string) ∧ Below w.heap.size w w' ∧ (wsB x).length ≤ x.size + 1 ∧ ∀ y ∈ wsB x, y.size ≤ x.size) := by
  obtain ⟨i0, hi0, hz0, hz1, hz2⟩ := info_parts Tryz.infoStr
  obtain ⟨ws, hws⟩ : ∃ ws, wsB x = ws := ⟨_, rfl⟩
  have HW : Hid (type_of% hws) := hws
  rw [hws]
  clear hws
  go_enter Tryz.func151, Tryz.ntmps151
  go_wp2
  go_loopw [3, 4, 5] (fun ov wv iv wr => ∃ (i : Nat) (ds : List ByteArray) (c : ByteArray), i ≤ x.size ∧ iv = .int .i64 i ∧ wv = .string c ∧ c.size ≤ i ∧ ds.length ≤ i ∧ Hid (wr.ownsRow w.heap.size 9 1 ov ds.length (ds.map .string) ∧ Below w.heap.size w wr ∧ ws = ds ++ wlB c (x.data.toList.drop i) ∧ ∀ y ∈ ds, y.size ≤ x.size)) (fun _ _ iv _ => x.size - (intOf iv).toNat)
  case atStart => exact ⟨0, [], ⟨#[]⟩, Nat.zero_le _, rfl, rfl, Nat.le_refl _, Nat.le_refl _, World.ownsRow_nil _ _ _ _, Below.refl _ _, HW.out.symm, fun y h => by cases h⟩
  case round =>
    obtain ⟨i, ds, c, hix, rfl, rfl, hci, hdi, hR⟩ := hrel
    have hown := hR.out.1
    have hB := hR.out.2.1
    by_cases hlt : i < x.size
    · have hlt' : (i : Int) < (x.size : Int) := by omega
      by_cases hb : (x[i]'hlt).toNat = 32
      · have HN : Hid (ws = (ds ++ [c]) ++ wlB ⟨#[]⟩ (x.data.toList.drop (i + 1)) ∧ ∀ y ∈ ds ++ [c], y.size ≤ x.size) := by
          refine ⟨?_, fun y hy => ?_⟩
          · rw [hR.out.2.2.1, wlB_blank c x i hlt hb]; simp
          · rcases List.mem_append.1 hy with hy | hy
            · exact hR.out.2.2.2 y hy
            · rw [List.mem_singleton.1 hy]; omega
        clear hR
        go_wp2_with (at_builtin; go_loud (refine wpList_append_src rfl _ _ 76 rfl w.heap.size 9 i0 _ 1 16 Tryz.underlying76 hi0 hz0 hz1 hz2 rfl (by decide) _ _ _ rfl (hown.alloc _) _ 1 [.string c] rfl (src_new1 _ _ _) (by simp [Value.oneCell']) (by unfold maxLen; omega) (by omega) (by have := hB.size; simp; omega) ?_); intro v2 w2 hown2 hg2; have hB2 := (hB.alloc hB.size (.cells #[.string c] 9)).grown hg2 (by have := hB.size; simp; omega) (fun k hk => (hown.lt k hk).1))
        exact ⟨⟨i + 1, ds ++ [c], ⟨#[]⟩, by omega, by go_num, rfl, Nat.zero_le _, by simp; omega, by simpa using hown2, hB2, HN.out.1, HN.out.2⟩, by simp [intOf]; omega⟩
      · have HN : Hid (ws = ds ++ wlB (c ++ x.extract i (i + 1)) (x.data.toList.drop (i + 1)) ∧ ∀ y ∈ ds, y.size ≤ x.size) := by
          refine ⟨?_, hR.out.2.2.2⟩
          rw [hR.out.2.2.1, wlB_byte c x i hlt hb]
        clear hR
        go_wp2
        exact ⟨⟨i + 1, ds, c ++ x.extract i (i + 1), by omega, by go_num, rfl, by rw [ByteArray.size_append, ByteArray.size_extract]; omega, by omega, hown, hB, HN.out.1, HN.out.2⟩, by simp [intOf]; omega⟩
    · have hlt' : ¬ (i : Int) < (x.size : Int) := by omega
      have HN : Hid (ws = ds ++ [c] ∧ ∀ y ∈ ds ++ [c], y.size ≤ x.size) := by
        refine ⟨?_, fun y hy => ?_⟩
        · rw [hR.out.2.2.1, List.drop_eq_nil_of_le (by rw [← size_list]; omega), wlB_end]
        · rcases List.mem_append.1 hy with hy | hy
          · exact hR.out.2.2.2 y hy
          · rw [List.mem_singleton.1 hy]; omega
      clear hR
      go_wp2_with (at_builtin; go_loud (refine wpList_append_src rfl _ _ 76 rfl w.heap.size 9 i0 _ 1 16 Tryz.underlying76 hi0 hz0 hz1 hz2 rfl (by decide) _ _ _ rfl (hown.alloc _) _ 1 [.string c] rfl (src_new1 _ _ _) (by simp [Value.oneCell']) (by unfold maxLen; omega) (by omega) (by have := hB.size; simp; omega) ?_); intro v2 w2 hown2 hg2; have hB2 := (hB.alloc hB.size (.cells #[.string c] 9)).grown hg2 (by have := hB.size; simp; omega) (fun k hk => (hown.lt k hk).1))
      go_ret
      refine ⟨_, rfl, ?_⟩
      rw [HN.out.1]
      exact ⟨by simpa using hown2, hB2, by simp; omega, HN.out.2⟩
end Go.Proofs.YtjnmoddcodnadaaGreatDoor
namespace Go.Annal
/-- The lines that words tell. -/
def pairsW : List ByteArray → Option (List Ln)
  | [] => some []
  | [_] => none
  | a :: b :: r => if isName a then match numX b with | some v => (pairsW r).map ((a, v) :: ·) | none => none else none
theorem pairsW_odd : ∀ (k : Nat) (l : List ByteArray), l.length ≤ k → l.length % 2 ≠ 0 → pairsW l = none
  | k, [], _, h => by simp at h
  | k, [a], _, _ => rfl
  | 0, a :: b :: r, hk, h => by simp at hk
  | k + 1, a :: b :: r, hk, h => by
    have ih := pairsW_odd k r (by simp at hk; omega) (by simp at h ⊢; omega)
    rw [pairsW, ih]
    split
    · split <;> rfl
    · rfl
end Go.Annal
namespace Go.Proofs.YtjnmoddcodnadaaGreatDoor
open Go.RowKit Go.Annal
/-- Words as they lie in memory. -/
structure WordsV (w : World) (ad : Option Addr) (ws : List ByteArray) : Prop where
  at' : 0 < ws.length → ∃ g o, ad = some ⟨g, o, none⟩ ∧ ∀ j (hj : j < ws.length), w.cell? ⟨g, o + j, none⟩ = some (.string ws[j])
  sm : ∀ y ∈ ws, y.size ≤ 1000000000
  few : ws.length ≤ 2000000000
def LinesR (w w' : World) (ws : List ByteArray) (r : Ending) : Prop := Below w.heap.size w w' ∧ match pairsW ws with
  | some L => ∃ v, r = .returned (.tuple #[v, .bool true]) ∧ w'.ownsRow w.heap.size 58 2 v L.length (cells2 L)
  | none => r = .returned (.tuple #[.slice none 0 0, .bool false])
theorem linesR_none {w w' : World} {ws : List ByteArray} (hb : Below w.heap.size w w') (h : pairsW ws = none) : LinesR w w' ws (.returned (.tuple #[.slice none 0 0, .bool false])) := by
  unfold LinesR; rw [h]; exact ⟨hb, rfl⟩
theorem linesR_some {w w' : World} {ws : List ByteArray} {L : List Ln} {v : Value} (hb : Below w.heap.size w w') (h : pairsW ws = some L) (ho : w'.ownsRow w.heap.size 58 2 v L.length (cells2 L)) : LinesR w w' ws (.returned (.tuple #[v, .bool true])) := by
  unfold LinesR; rw [h]; exact ⟨hb, v, rfl, ho⟩
set_option maxRecDepth 100000 in
set_option maxHeartbeats 2000000 in
theorem linesR_any (ad : Option Addr) (cap : Nat) (ws : List ByteArray) (w : World) (hW : WordsV w ad ws) :
    Calls Tryz.prog 153 #[.slice ad ws.length cap] w fun r w' => LinesR w w' ws r := by
  obtain ⟨i0, hi0, hz0, hz1, hz2⟩ := info_parts Tryz.infoLine
  obtain ⟨n, hn⟩ : ∃ n, ws.length = n := ⟨_, rfl⟩
  have hfew := hW.few
  rw [hn] at hfew ⊢
  have HW : Hid (type_of% hW) := hW
  have HN : Hid (type_of% hn) := hn
  clear hW hn
  by_cases hodd : n % 2 = 0
  · have hodd' : (n : Int) % 2 = 0 := by omega
    have hodd2 : (n : Int).tmod 2 = 0 := by rw [Int.tmod_eq_emod_of_nonneg (by omega)]; omega
    go_enter Tryz.func153, Tryz.ntmps153
    go_wp2
    go_loopw [4, 5, 6, 7, 8] (fun ov iv _ _ _ wr => ∃ (i : Nat) (L : List Ln), i ≤ n ∧ i % 2 = 0 ∧ iv = .int .i64 i ∧ L.length ≤ i ∧ Hid (wr.ownsRow w.heap.size 58 2 ov L.length (cells2 L) ∧ Below w.heap.size w wr ∧ pairsW ws = (pairsW (ws.drop i)).map (L ++ ·))) (fun _ iv _ _ _ _ => n - (intOf iv).toNat)
    case atStart => exact ⟨0, [], Nat.zero_le _, rfl, rfl, Nat.le_refl _, World.ownsRow_nil _ _ _ _, Below.refl _ _, by simp⟩
    case round =>
      obtain ⟨i, L, hin, hi2, rfl, hLi, hR⟩ := hrel
      have hown := hR.out.1
      have hB := hR.out.2.1
      have hi0' : (0 : Int) ≤ (i : Int) := by omega
      by_cases hlt : i < n
      · have hlt' : (i : Int) < (n : Int) := by omega
        have hlt1 : i + 1 < n := by omega
        have hlt1' : (i : Int) + 1 < (n : Int) := by omega
        have hl0 : i < ws.length := by rw [HN.out]; exact hlt
        have hl1 : i + 1 < ws.length := by rw [HN.out]; exact hlt1
        obtain ⟨g, o, rfl, hc⟩ := HW.out.at' (by rw [HN.out]; omega)
        have c0 := cell_later hB (hc i hl0)
        have c1 := cell_later hB (hc (i + 1) hl1)
        have hst : Hid (pairsW (ws.drop i) = if isName ws[i] then match numX ws[i + 1] with | some v => (pairsW (ws.drop (i + 2))).map ((ws[i], v) :: ·) | none => none else none) := by
          show pairsW (ws.drop i) = _
          rw [List.drop_eq_getElem_cons hl0, List.drop_eq_getElem_cons hl1, pairsW]
        have hs0 := HW.out.sm _ (List.getElem_mem hl0)
        have hs1 := HW.out.sm _ (List.getElem_mem hl1)
        generalize ws[i] = a at *
        generalize ws[i + 1] = b at *
        have C0 : Hid (∀ W, _) := fun W => name_any a W hs0
        have C1 : Hid (∀ W, _) := fun W => numberR_any b W (by omega)
        clear hc
        cases hnm : isName a with
        | false =>
          have hno : Hid (pairsW ws = none) := by
            show pairsW ws = none
            rw [hR.out.2.2, hst.out, hnm]; rfl
          rw [hnm] at C0
          obtain ⟨z, f, hzf⟩ : ∃ z f, numIs (numX b) = .returned (.tuple #[.int .i64 z, .bool f]) := ⟨_, _, rfl⟩
          rw [hzf] at C1
          clear hst hR hzf hnm
          go_wp2_with (first
            | (go_at_call 76; (with_reducible refine Calls.mono (C0.out _) ?_); rintro e wx ⟨rfl, hw⟩; rw [hw]; clear hw wx)
            | (go_at_call 152; (with_reducible refine Calls.mono (C1.out _) ?_); rintro e wx ⟨rfl, hw⟩; rw [hw]; clear hw wx))
          all_goals go_ret2
          all_goals exact linesR_none hB hno.out
        | true =>
          rw [hnm] at C0
          cases hnx : numX b with
          | none =>
            have hno : Hid (pairsW ws = none) := by
              show pairsW ws = none
              rw [hR.out.2.2, hst.out, hnm, hnx]; rfl
            rw [hnx] at C1
            have C1' : Hid (∀ W, Calls Tryz.prog 152 #[.string b] W fun r w' => r = .returned (.tuple #[.int .i64 0, .bool false]) ∧ w' = W) := C1
            clear hst hR hnx hnm C1
            go_wp2_with (first
              | (go_at_call 76; (with_reducible refine Calls.mono (C0.out _) ?_); rintro e wx ⟨rfl, hw⟩; rw [hw]; clear hw wx)
              | (go_at_call 152; (with_reducible refine Calls.mono (C1'.out _) ?_); rintro e wx ⟨rfl, hw⟩; rw [hw]; clear hw wx))
            all_goals go_ret2
            all_goals exact linesR_none hB hno.out
          | some v =>
            have hno : Hid (pairsW ws = (pairsW (ws.drop (i + 2))).map ((L ++ [(a, v)]) ++ ·)) := by
              show pairsW ws = _
              rw [hR.out.2.2, hst.out, hnm, hnx]
              cases pairsW (ws.drop (i + 2)) <;> simp
            rw [hnx] at C1
            have C1' : Hid (∀ W, Calls Tryz.prog 152 #[.string b] W fun r w' => r = .returned (.tuple #[.int .i64 v, .bool true]) ∧ w' = W) := C1
            clear hst hR hnx hnm C1
            go_wp2_with (first
              | (go_at_call 76; (with_reducible refine Calls.mono (C0.out _) ?_); rintro e wx ⟨rfl, hw⟩; rw [hw]; clear hw wx)
              | (go_at_call 152; (with_reducible refine Calls.mono (C1'.out _) ?_); rintro e wx ⟨rfl, hw⟩; rw [hw]; clear hw wx)
              | (at_builtin; go_loud (refine wpList_append_src rfl _ _ 54 rfl w.heap.size 58 i0 _ 2 24 Tryz.underlying54 hi0 hz0 hz1 hz2 rfl (by decide) _ _ _ rfl (hown.alloc _) _ 1 [.string a, .int .i64 v] rfl (src_new2 _ _ _ _) (by simp [Value.oneCell']) (by unfold maxLen; omega) (by omega) (by have := hB.size; simp; omega) ?_); intro v2 w2 hown2 hg2; have hB2 := (hB.alloc hB.size (.cells #[.string a, .int .i64 v] 58)).grown hg2 (by have := hB.size; simp; omega) (fun k hk => (hown.lt k hk).1)))
            exact ⟨⟨i + 2, L ++ [(a, v)], by omega, by omega, by go_num, by simp; omega, by rw [List.length_append, List.length_singleton]; unfold cells2; rw [List.flatMap_append]; exact hown2, hB2, hno.out⟩, by simp [intOf]; omega⟩
      · have hlt' : ¬ (i : Int) < (n : Int) := by omega
        have hys : Hid (pairsW ws = some L) := by
          show pairsW ws = some L
          rw [hR.out.2.2, List.drop_eq_nil_of_le (by rw [HN.out]; omega)]
          simp [pairsW]
        clear hR
        go_wp2
        go_ret2
        exact linesR_some hB hys.out hown
  · have hodd' : ¬ (n : Int) % 2 = 0 := by omega
    have hodd2 : ¬ (n : Int).tmod 2 = 0 := by rw [Int.tmod_eq_emod_of_nonneg (by omega)]; omega
    have hno : Hid (pairsW ws = none) := pairsW_odd _ ws (Nat.le_refl _) (by rw [HN.out]; exact hodd)
    go_enter Tryz.func153, Tryz.ntmps153
    go_wp2
    go_ret2
    exact linesR_none (Below.refl _ _) hno.out
end Go.Proofs.YtjnmoddcodnadaaGreatDoor
namespace Go.Annal
open Go.Proofs.YtjnmoddcodnadaaGreatDoor
/-- What a line does, by its words. -/
def doW (s : St) : List ByteArray → Int × St
  | a :: b :: r =>
    if a = ⟨#[111]⟩ then match r with
      | [c] => if isName b && (numX c).isSome then (s.openE b ((numX c).getD 0), s.afterOpen b ((numX c).getD 0)) else (14, s)
      | _ => (14, s)
    else if a = ⟨#[112]⟩ then
      if (numX b).isSome then match pairsW r with
        | some L => (s.postE ((numX b).getD 0) (lnA L) (lnM L) L.length, s.afterPost ((numX b).getD 0) (lnA L) (lnM L) L.length)
        | none => (14, s)
      else (14, s)
    else if a = ⟨#[114]⟩ then if (numX b).isSome && r.isEmpty then (s.revE ((numX b).getD 0), s.afterRev ((numX b).getD 0)) else (14, s)
    else if a = ⟨#[108]⟩ then if (numX b).isSome && r.isEmpty then (s.lockE ((numX b).getD 0), s.afterLock ((numX b).getD 0)) else (14, s)
    else if a = ⟨#[99]⟩ then match r with
      | [c] => if (numX b).isSome && isName c then (s.closeE ((numX b).getD 0) c, s.afterClose ((numX b).getD 0) c) else (14, s)
      | _ => (14, s)
    else (14, s)
  | _ => (14, s)
theorem doW_open_not (s : St) (b : ByteArray) (r : List ByteArray) (h : ¬ r.length = 1) : doW s (⟨#[111]⟩ :: b :: r) = (14, s) := by
  match r, h with
  | [], _ => simp [doW]
  | [_], h => exact absurd rfl h
  | _ :: _ :: _, _ => simp [doW]
theorem doW_close_not (s : St) (b : ByteArray) (r : List ByteArray) (h : ¬ r.length = 1) : doW s (⟨#[99]⟩ :: b :: r) = (14, s) := by
  match r, h with
  | [], _ => simp [doW]
  | [_], h => exact absurd rfl h
  | _ :: _ :: _, _ => simp [doW]
end Go.Annal
namespace Go.Proofs.YtjnmoddcodnadaaGreatDoor
open Go.RowKit Go.Annal
theorem neq_bytes {a c : ByteArray} {l : List UInt8} (h : ¬ a = c) (hl : c.toList = l) : (a.toList == l) = false := by
  rw [beq_eq_false_iff_ne]
  intro e
  exact h (sEq_iff.1 (by rw [hl]; simpa using e))
/-- What does leaves. -/
def Did (w w' : World) (R : Nat) (t : St) (Fd : Nat → Prop) : Prop := ∃ Fd', DocIs w' R t Fd' ∧ Turn Fd w w' ∧ ∀ b, Fd' b → Fd b ∨ w.heap.size ≤ b
theorem did_same {w w' : World} {R : Nat} {s : St} {Fd : Nat → Prop} (h : DocIs w R s Fd) (hb : Below w.heap.size w w') : Did w w' R s Fd := ⟨Fd, h.turn (S := fun _ => False) (Turn.of_below hb) (fun _ _ h => h), Turn.of_below hb, fun _ h => .inl h⟩
theorem did_by {w W w' : World} {R : Nat} {t : St} {Fd : Nat → Prop} (hb : Below w.heap.size w W) (q : ∃ Fd', DocIs w' R t Fd' ∧ Turn Fd W w' ∧ ∀ b, Fd' b → Fd b ∨ W.heap.size ≤ b) : Did w w' R t Fd := by
  obtain ⟨Fd', q1, q2, q3⟩ := q
  exact ⟨Fd', q1, (Turn.of_below hb).trans q2, fun b h => (q3 b h).imp id (fun h => Nat.le_trans hb.size h)⟩
/-- The words as they come out. -/
def WordsR (w w' : World) (ws : List ByteArray) (r : Ending) : Prop := ∃ g cap, r = .returned (.slice (some ⟨g, 0, none⟩) ws.length cap) ∧ ws.length ≤ cap ∧ (∀ j (hj : j < ws.length), w'.cell? ⟨g, j, none⟩ = some (.string ws[j])) ∧ Below w.heap.size w w'
theorem wsB_pos (x : ByteArray) : 0 < (wsB x).length := by
  have : ∀ l c, 0 < (wl c l).length := by
    intro l
    induction l with
    | nil => intro c; simp [wl]
    | cons b t ih =>
      intro c
      rw [wl]
      split
      · simp
      · exact ih _
  unfold wsB wlB
  rw [List.length_map]
  exact this _ _
theorem wl_few : ∀ (l c : List UInt8), (wl c l).length ≤ l.length + 1 ∧ ∀ y ∈ wl c l, y.length ≤ c.length + l.length
  | [], c => by
    rw [wl]
    exact ⟨Nat.le_refl _, fun y hy => by rw [List.mem_singleton.1 hy]; simp⟩
  | b :: t, c => by
    rw [wl]
    split
    · obtain ⟨h1, h2⟩ := wl_few t []
      refine ⟨by simp; omega, fun y hy => ?_⟩
      rcases List.mem_cons.1 hy with rfl | hy
      · simp
      · have := h2 y hy; simp at this ⊢; omega
    · obtain ⟨h1, h2⟩ := wl_few t (c ++ [b])
      refine ⟨by simp; omega, fun y hy => ?_⟩
      have := h2 y hy; simp at this ⊢; omega
theorem wsB_few (x : ByteArray) : (wsB x).length ≤ x.size + 1 ∧ ∀ y ∈ wsB x, y.size ≤ x.size := by
  obtain ⟨h1, h2⟩ := wl_few x.data.toList []
  rw [← size_list] at h1
  refine ⟨by unfold wsB wlB; rw [List.length_map]; exact h1, fun y hy => ?_⟩
  unfold wsB wlB at hy
  obtain ⟨l, hl, rfl⟩ := List.mem_map.1 hy
  have := h2 l hl
  rw [← size_list] at this
  show l.toArray.size ≤ _
  rw [List.size_toArray]
  simpa using this
theorem wordsR_at (x : ByteArray) (w : World) (hx : x.size ≤ 1000000000) : Calls Tryz.prog 151 #[.string x] w fun r w' => WordsR w w' (wsB x) r ∧ (wsB x).length ≤ x.size + 1 ∧ ∀ y ∈ wsB x, y.size ≤ x.size := by
  refine (wordsR_any x w hx).mono ?_
  rintro r w' ⟨v, rfl, h1, h2, h3, h4⟩
  rcases h1.2 with ⟨_, h0⟩ | ⟨g, cap, cur, rfl, _, _, hc, _⟩
  · have := wsB_pos x; omega
  · refine ⟨⟨g, cap, rfl, hc, fun j hj => ?_, h2⟩, h3, h4⟩
    rw [h1.cellAt j (by omega), List.getElem?_map, List.getElem?_eq_getElem hj]
    rfl
theorem cells2_atD (l : List Ln) (j : Nat) (h : j < l.length) : (cells2 l)[j * 2]? = some (.string l[j].1) ∧ (cells2 l)[j * 2 + 1]? = some (.int .i64 l[j].2) := ⟨cells2_get l j h 0 (by omega), cells2_get l j h 1 (by omega)⟩
theorem lnA_atD (L : List Ln) (j : Nat) (h : j < L.length) : lnA L j = L[j].1 ∧ lnM L j = L[j].2 := by
  simp [lnA, lnM, List.getD_eq_getElem?_getD, List.getElem?_eq_getElem h]
theorem lv_of_ownsD {w : World} {base : Nat} {v : Value} {L : List Ln} (h : w.ownsRow base 58 2 v L.length (cells2 L)) (hf : L.length ≤ 1000000000) (hs : ∀ y ∈ L, y.1.size ≤ 1000000000) : ∃ lad cap, v = .slice lad L.length cap ∧ LinesV w lad L.length cap (lnA L) (lnM L) := by
  rcases h.2 with ⟨rfl, h0⟩ | ⟨g, cap, cur, rfl, hg, hc, hnc, hr⟩
  · refine ⟨none, 0, by rw [h0], by omega, hf, fun k hk => by omega, fun hn => by omega⟩
  · refine ⟨_, cap, rfl, hnc, hf, fun k hk => ?_, fun _ => ⟨g, 0, rfl, fun k hk => ?_, fun k hk => ?_⟩⟩
    · rw [(lnA_atD L k hk).1]; exact hs _ (List.getElem_mem hk)
    · rw [Nat.zero_add, h.cellAt (k * 2) (by omega), (lnA_atD L k hk).1]; exact (cells2_atD L k hk).1
    · rw [Nat.zero_add, h.cellAt (k * 2 + 1) (by omega), (lnA_atD L k hk).2]; exact (cells2_atD L k hk).2
theorem pairsW_len : ∀ (k : Nat) (l : List ByteArray) (L : List Ln), l.length ≤ k → pairsW l = some L → L.length ≤ l.length ∧ ∀ y ∈ L, y.1 ∈ l
  | k, [], L, _, h => by
    rw [pairsW] at h
    cases h
    exact ⟨Nat.le_refl _, fun _ h => by cases h⟩
  | k, [a], L, _, h => by rw [pairsW] at h; cases h
  | 0, a :: b :: r, L, hk, _ => by simp at hk
  | k + 1, a :: b :: r, L, hk, h => by
    rw [pairsW] at h
    split at h
    · split at h
      · rename_i v hv
        cases hp : pairsW r with
        | none => rw [hp] at h; cases h
        | some M =>
          rw [hp] at h
          have e : (a, v) :: M = L := Option.some.inj h
          obtain ⟨h1, h2⟩ := pairsW_len k r M (by simp at hk; omega) hp
          subst e
          refine ⟨by simp; omega, fun y hy => ?_⟩
          rcases List.mem_cons.1 hy with rfl | hy
          · simp
          · have := h2 y hy; simp [this]
      · cases h
    · cases h
/-- The words of a line that has two at least. -/
def WordsTo (w : World) (x a b : ByteArray) (r : List ByteArray) (n : Nat) : Prop := Calls Tryz.prog 151 #[.string x] w fun e w1 => ∃ g cap, e = .returned (.slice (some ⟨g, 0, none⟩) n cap) ∧ n ≤ cap ∧ w1.cell? ⟨g, 0, none⟩ = some (.string a) ∧ w1.cell? ⟨g, 1, none⟩ = some (.string b) ∧ Hid ((∀ j (hj : j < r.length), w1.cell? ⟨g, 2 + j, none⟩ = some (.string r[j])) ∧ Below w.heap.size w w1)
theorem words_to {x a b : ByteArray} {r : List ByteArray} {w : World} (hx : x.size ≤ 1000000000) (hws : wsB x = a :: b :: r) {n : Nat} (hn : n = r.length + 2) : WordsTo w x a b r n := by
  have := wordsR_at x w hx
  rw [hws] at this
  refine this.mono ?_
  rintro e w1 ⟨⟨g, cap, rfl, hc, hv, hb⟩, _⟩
  refine ⟨g, cap, by rw [hn]; rfl, by rw [hn]; exact hc, hv 0 (by simp), hv 1 (by simp), fun j hj => ?_, hb⟩
  rw [Nat.add_comm]
  exact hv (j + 2) (by simp; omega)
set_option maxHeartbeats 1000000 in
set_option maxRecDepth 100000 in
theorem does_few (R : Nat) (s : St) (Fd : Nat → Prop) (x : ByteArray) (w : World) (h : DocIs w R s Fd) (hx : x.size ≤ 1000000000) (a : ByteArray) (hws : wsB x = [a]) :
    Calls Tryz.prog 115 #[.pointer (some ⟨R, 0, none⟩), .string x] w fun r w' => r = .returned (.int .i64 14) ∧ Did w w' R s Fd := by
  have CW : Hid (Calls Tryz.prog 151 #[.string x] w fun e w1 => ∃ g cap, e = .returned (.slice (some ⟨g, 0, none⟩) 1 cap) ∧ Hid (Below w.heap.size w w1)) := by
    have := wordsR_at x w hx
    rw [hws] at this
    refine this.mono ?_
    rintro e w1 ⟨⟨g, cap, rfl, hc, hv, hb⟩, _⟩
    exact ⟨g, cap, rfl, hb⟩
  have HH : Hid (type_of% h) := h
  clear h
  go_enter Tryz.func115, Tryz.ntmps115
  go_wp2_with (go_at_call 151; (with_reducible refine Calls.mono CW.out ?_); rintro e w1 ⟨g, cap, rfl, hb⟩)
  go_ret
  exact ⟨rfl, did_same HH.out hb.out⟩
set_option maxHeartbeats 1000000 in
set_option maxRecDepth 100000 in
theorem does_none (R : Nat) (s : St) (Fd : Nat → Prop) (x : ByteArray) (w : World) (h : DocIs w R s Fd) (hx : x.size ≤ 1000000000) (a b : ByteArray) (r : List ByteArray) (hws : wsB x = a :: b :: r) (h1 : ¬ a = ⟨#[111]⟩) (h2 : ¬ a = ⟨#[112]⟩) (h3 : ¬ a = ⟨#[114]⟩) (h4 : ¬ a = ⟨#[108]⟩) (h5 : ¬ a = ⟨#[99]⟩) (hbs : b.size ≤ 1000000000) (hr : r.length ≤ 1000000000) :
    Calls Tryz.prog 115 #[.pointer (some ⟨R, 0, none⟩), .string x] w fun r w' => r = .returned (.int .i64 14) ∧ Did w w' R s Fd := by
  obtain ⟨n, hn⟩ : ∃ n, n = r.length + 2 := ⟨_, rfl⟩
  have CW : Hid (WordsTo w x a b r n) := words_to hx hws hn
  unfold WordsTo at CW
  have hn2 : ¬ (n : Int) < 2 := by omega
  have g1 : (a.toList == [111]) = false := neq_bytes h1 (by rw [ByteArray.toList_eq])
  have g2 : (a.toList == [112]) = false := neq_bytes h2 (by rw [ByteArray.toList_eq])
  have g3 : (a.toList == [114]) = false := neq_bytes h3 (by rw [ByteArray.toList_eq])
  have g4 : (a.toList == [108]) = false := neq_bytes h4 (by rw [ByteArray.toList_eq])
  have g5 : (a.toList == [99]) = false := neq_bytes h5 (by rw [ByteArray.toList_eq])
  have CN : Hid (∀ W, _) := fun W => numberR_any b W (by omega)
  unfold numIs at CN
  have HH : Hid (type_of% h) := h
  clear h h1 h2 h3 h4 h5 hn
  go_enter Tryz.func115, Tryz.ntmps115
  go_wp2_with (first
    | (go_at_call 151; (with_reducible refine Calls.mono CW.out ?_); rintro e w1 ⟨g, cap, rfl, hnc, c0, c1, hb⟩)
    | (go_at_call 152; (with_reducible refine Calls.mono (CN.out _) ?_); rintro e wx ⟨rfl, hw⟩; rw [hw]; clear hw wx))
  go_ret
  exact ⟨rfl, did_same HH.out hb.out.2⟩
set_option maxHeartbeats 1000000 in
set_option maxRecDepth 100000 in
theorem does_rev (R : Nat) (s : St) (Fd : Nat → Prop) (x : ByteArray) (w : World) (h : DocIs w R s Fd) (ho : s.Ok) (hx : x.size ≤ 1000000000) (b : ByteArray) (r : List ByteArray) (hws : wsB x = ⟨#[114]⟩ :: b :: r) (hbs : b.size ≤ 1000000000) (hr : r.length ≤ 1000000000) :
    Calls Tryz.prog 115 #[.pointer (some ⟨R, 0, none⟩), .string x] w fun e w' => e = .returned (.int .i64 (doW s (⟨#[114]⟩ :: b :: r)).1) ∧ Did w w' R (doW s (⟨#[114]⟩ :: b :: r)).2 Fd := by
  obtain ⟨n, hn⟩ : ∃ n, n = r.length + 2 := ⟨_, rfl⟩
  have CW : Hid (WordsTo w x ⟨#[114]⟩ b r n) := words_to hx hws hn
  unfold WordsTo at CW
  have hn2 : ¬ (n : Int) < 2 := by omega
  have CN : Hid (∀ W, _) := fun W => numberR_any b W (by omega)
  have CP : Hid (∀ W v, Below w.heap.size w W → _) := fun W v hW => docRev R s Fd v W (h.turn (S := fun _ => False) (Turn.of_below hW) (fun _ _ h => h)) ho
  have HH : Hid (type_of% h) := h
  clear h
  cases hv : numX b with
  | none =>
    rw [hv] at CN
    have CN' : Hid (∀ W, Calls Tryz.prog 152 #[.string b] W fun r w' => r = .returned (.tuple #[.int .i64 0, .bool false]) ∧ w' = W) := CN
    have hD : doW s (⟨#[114]⟩ :: b :: r) = (14, s) := by
      unfold doW
      simp [hv]
    rw [hD]
    clear hD hn CN hv
    go_enter Tryz.func115, Tryz.ntmps115
    go_wp2_with (first
      | (go_at_call 151; (with_reducible refine Calls.mono CW.out ?_); rintro e w1 ⟨g, cap, rfl, hnc, c0, c1, hb⟩)
      | (go_at_call 152; (with_reducible refine Calls.mono (CN'.out _) ?_); rintro e wx ⟨rfl, hw⟩; rw [hw]; clear hw wx))
    all_goals go_ret
    all_goals exact ⟨rfl, did_same HH.out hb.out.2⟩
  | some v =>
    rw [hv] at CN
    have CN' : Hid (∀ W, Calls Tryz.prog 152 #[.string b] W fun r w' => r = .returned (.tuple #[.int .i64 v, .bool true]) ∧ w' = W) := CN
    by_cases hr0 : r = []
    · have hn3 : (n : Int) = 2 := by rw [hn, hr0]; rfl
      have hD : doW s (⟨#[114]⟩ :: b :: r) = (s.revE v, s.afterRev v) := by
        unfold doW
        simp [hv, hr0]
      rw [hD]
      clear hD hn CN hv
      go_enter Tryz.func115, Tryz.ntmps115
      go_wp2_with (first
        | (go_at_call 151; (with_reducible refine Calls.mono CW.out ?_); rintro e w1 ⟨g, cap, rfl, hnc, c0, c1, hb⟩)
        | (go_at_call 152; (with_reducible refine Calls.mono (CN'.out _) ?_); rintro e wx ⟨rfl, hw⟩; rw [hw]; clear hw wx)
        | (go_at_call 42; (with_reducible refine Calls.mono (CP.out _ v hb.out.2) ?_); rintro e w5 ⟨rfl, h5⟩))
      all_goals go_ret
      all_goals exact ⟨rfl, did_by hb.out.2 h5⟩
    · have hn3 : ¬ (n : Int) = 2 := by
        have : 0 < r.length := List.length_pos_iff.2 hr0
        omega
      have hD : doW s (⟨#[114]⟩ :: b :: r) = (14, s) := by
        unfold doW
        simp [hv, hr0]
      rw [hD]
      clear hD hn CN hv
      go_enter Tryz.func115, Tryz.ntmps115
      go_wp2_with (first
        | (go_at_call 151; (with_reducible refine Calls.mono CW.out ?_); rintro e w1 ⟨g, cap, rfl, hnc, c0, c1, hb⟩)
        | (go_at_call 152; (with_reducible refine Calls.mono (CN'.out _) ?_); rintro e wx ⟨rfl, hw⟩; rw [hw]; clear hw wx))
      all_goals go_ret
      all_goals exact ⟨rfl, did_same HH.out hb.out.2⟩
set_option maxHeartbeats 1000000 in
set_option maxRecDepth 100000 in
theorem does_lock (R : Nat) (s : St) (Fd : Nat → Prop) (x : ByteArray) (w : World) (h : DocIs w R s Fd) (ho : s.Ok) (hx : x.size ≤ 1000000000) (b : ByteArray) (r : List ByteArray) (hws : wsB x = ⟨#[108]⟩ :: b :: r) (hbs : b.size ≤ 1000000000) (hr : r.length ≤ 1000000000) :
    Calls Tryz.prog 115 #[.pointer (some ⟨R, 0, none⟩), .string x] w fun e w' => e = .returned (.int .i64 (doW s (⟨#[108]⟩ :: b :: r)).1) ∧ Did w w' R (doW s (⟨#[108]⟩ :: b :: r)).2 Fd := by
  obtain ⟨n, hn⟩ : ∃ n, n = r.length + 2 := ⟨_, rfl⟩
  have CW : Hid (WordsTo w x ⟨#[108]⟩ b r n) := words_to hx hws hn
  unfold WordsTo at CW
  have hn2 : ¬ (n : Int) < 2 := by omega
  have CN : Hid (∀ W, _) := fun W => numberR_any b W (by omega)
  have CP : Hid (∀ W v, Below w.heap.size w W → _) := fun W v hW => docLock R s Fd v W (h.turn (S := fun _ => False) (Turn.of_below hW) (fun _ _ h => h)) ho
  have HH : Hid (type_of% h) := h
  clear h
  cases hv : numX b with
  | none =>
    rw [hv] at CN
    have CN' : Hid (∀ W, Calls Tryz.prog 152 #[.string b] W fun r w' => r = .returned (.tuple #[.int .i64 0, .bool false]) ∧ w' = W) := CN
    have hD : doW s (⟨#[108]⟩ :: b :: r) = (14, s) := by
      unfold doW
      simp [hv]
    rw [hD]
    clear hD hn CN hv
    go_enter Tryz.func115, Tryz.ntmps115
    go_wp2_with (first
      | (go_at_call 151; (with_reducible refine Calls.mono CW.out ?_); rintro e w1 ⟨g, cap, rfl, hnc, c0, c1, hb⟩)
      | (go_at_call 152; (with_reducible refine Calls.mono (CN'.out _) ?_); rintro e wx ⟨rfl, hw⟩; rw [hw]; clear hw wx))
    all_goals go_ret
    all_goals exact ⟨rfl, did_same HH.out hb.out.2⟩
  | some v =>
    rw [hv] at CN
    have CN' : Hid (∀ W, Calls Tryz.prog 152 #[.string b] W fun r w' => r = .returned (.tuple #[.int .i64 v, .bool true]) ∧ w' = W) := CN
    by_cases hr0 : r = []
    · have hn3 : (n : Int) = 2 := by rw [hn, hr0]; rfl
      have hD : doW s (⟨#[108]⟩ :: b :: r) = (s.lockE v, s.afterLock v) := by
        unfold doW
        simp [hv, hr0]
      rw [hD]
      clear hD hn CN hv
      go_enter Tryz.func115, Tryz.ntmps115
      go_wp2_with (first
        | (go_at_call 151; (with_reducible refine Calls.mono CW.out ?_); rintro e w1 ⟨g, cap, rfl, hnc, c0, c1, hb⟩)
        | (go_at_call 152; (with_reducible refine Calls.mono (CN'.out _) ?_); rintro e wx ⟨rfl, hw⟩; rw [hw]; clear hw wx)
        | (go_at_call 43; (with_reducible refine Calls.mono (CP.out _ v hb.out.2) ?_); rintro e w5 ⟨rfl, h5⟩))
      all_goals go_ret
      all_goals exact ⟨rfl, did_by hb.out.2 h5⟩
    · have hn3 : ¬ (n : Int) = 2 := by
        have : 0 < r.length := List.length_pos_iff.2 hr0
        omega
      have hD : doW s (⟨#[108]⟩ :: b :: r) = (14, s) := by
        unfold doW
        simp [hv, hr0]
      rw [hD]
      clear hD hn CN hv
      go_enter Tryz.func115, Tryz.ntmps115
      go_wp2_with (first
        | (go_at_call 151; (with_reducible refine Calls.mono CW.out ?_); rintro e w1 ⟨g, cap, rfl, hnc, c0, c1, hb⟩)
        | (go_at_call 152; (with_reducible refine Calls.mono (CN'.out _) ?_); rintro e wx ⟨rfl, hw⟩; rw [hw]; clear hw wx))
      all_goals go_ret
      all_goals exact ⟨rfl, did_same HH.out hb.out.2⟩
set_option maxHeartbeats 1000000 in
set_option maxRecDepth 100000 in
theorem does_open (R : Nat) (s : St) (Fd : Nat → Prop) (x : ByteArray) (w : World) (h : DocIs w R s Fd) (ho : s.Ok) (hx : x.size ≤ 1000000000) (b : ByteArray) (r : List ByteArray) (hws : wsB x = ⟨#[111]⟩ :: b :: r) (hbs : b.size ≤ 1000000000) (hr : r.length ≤ 1000000000) (hrs : ∀ y ∈ r, y.size ≤ 1000000000) :
    Calls Tryz.prog 115 #[.pointer (some ⟨R, 0, none⟩), .string x] w fun e w' => e = .returned (.int .i64 (doW s (⟨#[111]⟩ :: b :: r)).1) ∧ Did w w' R (doW s (⟨#[111]⟩ :: b :: r)).2 Fd := by
  obtain ⟨n, hn⟩ : ∃ n, n = r.length + 2 := ⟨_, rfl⟩
  have hn2 : ¬ (n : Int) < 2 := by omega
  have CN : Hid (∀ W, _) := fun W => numberR_any b W (by omega)
  unfold numIs at CN
  have HH : Hid (type_of% h) := h
  have CB : Hid (∀ W, _) := fun W => name_any b W hbs
  have CP : Hid (∀ W v, Below w.heap.size w W → _) := fun W v hW => docOpen R s Fd b v W (h.turn (S := fun _ => False) (Turn.of_below hW) (fun _ _ h => h)) ho hbs
  clear h
  by_cases h3 : r.length = 1
  · obtain ⟨c, rfl⟩ := List.length_eq_one_iff.1 h3
    have hn3 : (n : Int) = 3 := by rw [hn]; rfl
    obtain rfl : n = 3 := by omega
    have CW : Hid (WordsTo w x ⟨#[111]⟩ b [c] 3) := words_to hx hws rfl
    unfold WordsTo at CW
    have hcs := hrs c (by simp)
    have CC : Hid (∀ W, _) := fun W => numberR_any c W (by omega)
    clear hn hws h3
    cases hb' : isName b with
    | false =>
      rw [hb'] at CB
      have hD : doW s (⟨#[111]⟩ :: b :: [c]) = (14, s) := by unfold doW; simp [hb']
      rw [hD]
      clear hD hb'
      go_enter Tryz.func115, Tryz.ntmps115
      go_wp2_with (first
      | (go_at_call 151; (with_reducible refine Calls.mono CW.out ?_); rintro e w1 ⟨g, cap, rfl, hnc, c0, c1, hb⟩)
      | (go_at_call 152; (with_reducible refine Calls.mono (CN.out _) ?_); rintro e wx ⟨rfl, hw⟩; rw [hw]; clear hw wx)
      | (go_at_call 76; (with_reducible refine Calls.mono (CB.out _) ?_); rintro e wx ⟨rfl, hw⟩; rw [hw]; clear hw wx))
      all_goals go_ret
      all_goals exact ⟨rfl, did_same HH.out hb.out.2⟩
    | true =>
      rw [hb'] at CB
      cases hv : numX c with
      | none =>
        rw [hv] at CC
        have CC' : Hid (∀ W, Calls Tryz.prog 152 #[.string c] W fun r w' => r = .returned (.tuple #[.int .i64 0, .bool false]) ∧ w' = W) := CC
        have hD : doW s (⟨#[111]⟩ :: b :: [c]) = (14, s) := by unfold doW; simp [hb', hv]
        rw [hD]
        clear hD hb' hv CC
        go_enter Tryz.func115, Tryz.ntmps115
        go_wp2_with (first
          | (go_at_call 151; (with_reducible refine Calls.mono CW.out ?_); rintro e w1 ⟨g, cap, rfl, hnc, c0, c1, hb⟩; have c2 : w1.cell? ⟨g, 2, none⟩ = some (.string c) := hb.out.1 0 (Nat.succ_pos 0))
          | (go_at_call 152; first
            | ((with_reducible refine Calls.mono (CN.out _) ?_); rintro e wx ⟨rfl, hw⟩; rw [hw]; clear hw wx CN)
            | ((with_reducible refine Calls.mono (CC'.out _) ?_); rintro e wx ⟨rfl, hw⟩; rw [hw]; clear hw wx))
          | (go_at_call 76; (with_reducible refine Calls.mono (CB.out _) ?_); rintro e wx ⟨rfl, hw⟩; rw [hw]; clear hw wx))
        all_goals go_ret
        all_goals exact ⟨rfl, did_same HH.out hb.out.2⟩
      | some v =>
        rw [hv] at CC
        have CC' : Hid (∀ W, Calls Tryz.prog 152 #[.string c] W fun r w' => r = .returned (.tuple #[.int .i64 v, .bool true]) ∧ w' = W) := CC
        have hD : doW s (⟨#[111]⟩ :: b :: [c]) = (s.openE b v, s.afterOpen b v) := by unfold doW; simp [hb', hv]
        rw [hD]
        clear hD hb' hv CC
        go_enter Tryz.func115, Tryz.ntmps115
        go_wp2_with (first
          | (go_at_call 151; (with_reducible refine Calls.mono CW.out ?_); rintro e w1 ⟨g, cap, rfl, hnc, c0, c1, hb⟩; have c2 : w1.cell? ⟨g, 2, none⟩ = some (.string c) := hb.out.1 0 (Nat.succ_pos 0))
          | (go_at_call 152; first
            | ((with_reducible refine Calls.mono (CN.out _) ?_); rintro e wx ⟨rfl, hw⟩; rw [hw]; clear hw wx CN)
            | ((with_reducible refine Calls.mono (CC'.out _) ?_); rintro e wx ⟨rfl, hw⟩; rw [hw]; clear hw wx))
          | (go_at_call 76; (with_reducible refine Calls.mono (CB.out _) ?_); rintro e wx ⟨rfl, hw⟩; rw [hw]; clear hw wx)
          | (go_at_call 39; (with_reducible refine Calls.mono (CP.out _ v hb.out.2) ?_); rintro e w5 ⟨rfl, h5⟩))
        all_goals go_ret
        all_goals exact ⟨rfl, did_by hb.out.2 h5⟩
  · have CW : Hid (WordsTo w x ⟨#[111]⟩ b r n) := words_to hx hws hn
    unfold WordsTo at CW
    have hn3 : ¬ (n : Int) = 3 := by omega
    have hD : doW s (⟨#[111]⟩ :: b :: r) = (14, s) := doW_open_not s b r h3
    rw [hD]
    clear hD hn h3 hws
    go_enter Tryz.func115, Tryz.ntmps115
    go_wp2_with (first
      | (go_at_call 151; (with_reducible refine Calls.mono CW.out ?_); rintro e w1 ⟨g, cap, rfl, hnc, c0, c1, hb⟩)
      | (go_at_call 152; (with_reducible refine Calls.mono (CN.out _) ?_); rintro e wx ⟨rfl, hw⟩; rw [hw]; clear hw wx)
      | (go_at_call 76; (with_reducible refine Calls.mono (CB.out _) ?_); rintro e wx ⟨rfl, hw⟩; rw [hw]; clear hw wx))
    all_goals go_ret
    all_goals exact ⟨rfl, did_same HH.out hb.out.2⟩
set_option maxHeartbeats 1000000 in
set_option maxRecDepth 100000 in
theorem does_close (R : Nat) (s : St) (Fd : Nat → Prop) (x : ByteArray) (w : World) (h : DocIs w R s Fd) (ho : s.Ok) (hx : x.size ≤ 1000000000) (b : ByteArray) (r : List ByteArray) (hws : wsB x = ⟨#[99]⟩ :: b :: r) (hbs : b.size ≤ 1000000000) (hr : r.length ≤ 1000000000) (hrs : ∀ y ∈ r, y.size ≤ 1000000000) :
    Calls Tryz.prog 115 #[.pointer (some ⟨R, 0, none⟩), .string x] w fun e w' => e = .returned (.int .i64 (doW s (⟨#[99]⟩ :: b :: r)).1) ∧ Did w w' R (doW s (⟨#[99]⟩ :: b :: r)).2 Fd := by
  obtain ⟨n, hn⟩ : ∃ n, n = r.length + 2 := ⟨_, rfl⟩
  have hn2 : ¬ (n : Int) < 2 := by omega
  have CN : Hid (∀ W, _) := fun W => numberR_any b W (by omega)
  unfold numIs at CN
  have HH : Hid (type_of% h) := h
  have CP : Hid (∀ W v (c : ByteArray), c.size ≤ 1000000000 → Below w.heap.size w W → _) := fun W v c hc hW => docClose R s Fd v c W (h.turn (S := fun _ => False) (Turn.of_below hW) (fun _ _ h => h)) ho hc
  clear h
  by_cases h3 : r.length = 1
  · obtain ⟨c, rfl⟩ := List.length_eq_one_iff.1 h3
    have hn3 : (n : Int) = 3 := by rw [hn]; rfl
    obtain rfl : n = 3 := by omega
    have CW : Hid (WordsTo w x ⟨#[99]⟩ b [c] 3) := words_to hx hws rfl
    unfold WordsTo at CW
    have hcs := hrs c (by simp)
    have CC : Hid (∀ W, _) := fun W => name_any c W hcs
    clear hn hws h3
    cases hv : numX b with
    | none =>
      rw [hv] at CN
      have CN' : Hid (∀ W, Calls Tryz.prog 152 #[.string b] W fun r w' => r = .returned (.tuple #[.int .i64 0, .bool false]) ∧ w' = W) := CN
      have hD : doW s (⟨#[99]⟩ :: b :: [c]) = (14, s) := by unfold doW; simp [hv]
      rw [hD]
      clear hD hv CN
      go_enter Tryz.func115, Tryz.ntmps115
      go_wp2_with (first
      | (go_at_call 151; (with_reducible refine Calls.mono CW.out ?_); rintro e w1 ⟨g, cap, rfl, hnc, c0, c1, hb⟩)
      | (go_at_call 152; (with_reducible refine Calls.mono (CN'.out _) ?_); rintro e wx ⟨rfl, hw⟩; rw [hw]; clear hw wx))
      all_goals go_ret
      all_goals exact ⟨rfl, did_same HH.out hb.out.2⟩
    | some v =>
      rw [hv] at CN
      have CN' : Hid (∀ W, Calls Tryz.prog 152 #[.string b] W fun r w' => r = .returned (.tuple #[.int .i64 v, .bool true]) ∧ w' = W) := CN
      cases hc' : isName c with
      | false =>
        rw [hc'] at CC
        have hD : doW s (⟨#[99]⟩ :: b :: [c]) = (14, s) := by unfold doW; simp [hv, hc']
        rw [hD]
        clear hD hv CN hc'
        go_enter Tryz.func115, Tryz.ntmps115
        go_wp2_with (first
      | (go_at_call 151; (with_reducible refine Calls.mono CW.out ?_); rintro e w1 ⟨g, cap, rfl, hnc, c0, c1, hb⟩; have c2 : w1.cell? ⟨g, 2, none⟩ = some (.string c) := hb.out.1 0 (Nat.succ_pos 0))
      | (go_at_call 152; (with_reducible refine Calls.mono (CN'.out _) ?_); rintro e wx ⟨rfl, hw⟩; rw [hw]; clear hw wx)
      | (go_at_call 76; (with_reducible refine Calls.mono (CC.out _) ?_); rintro e wx ⟨rfl, hw⟩; rw [hw]; clear hw wx))
        all_goals go_ret
        all_goals exact ⟨rfl, did_same HH.out hb.out.2⟩
      | true =>
        rw [hc'] at CC
        have hD : doW s (⟨#[99]⟩ :: b :: [c]) = (s.closeE v c, s.afterClose v c) := by unfold doW; simp [hv, hc']
        rw [hD]
        clear hD hv CN hc'
        go_enter Tryz.func115, Tryz.ntmps115
        go_wp2_with (first
      | (go_at_call 151; (with_reducible refine Calls.mono CW.out ?_); rintro e w1 ⟨g, cap, rfl, hnc, c0, c1, hb⟩; have c2 : w1.cell? ⟨g, 2, none⟩ = some (.string c) := hb.out.1 0 (Nat.succ_pos 0))
      | (go_at_call 152; (with_reducible refine Calls.mono (CN'.out _) ?_); rintro e wx ⟨rfl, hw⟩; rw [hw]; clear hw wx)
      | (go_at_call 76; (with_reducible refine Calls.mono (CC.out _) ?_); rintro e wx ⟨rfl, hw⟩; rw [hw]; clear hw wx)
      | (go_at_call 44; (with_reducible refine Calls.mono (CP.out _ v c hcs hb.out.2) ?_); rintro e w5 ⟨rfl, h5⟩))
        all_goals go_ret
        all_goals exact ⟨rfl, did_by hb.out.2 h5⟩
  · have CW : Hid (WordsTo w x ⟨#[99]⟩ b r n) := words_to hx hws hn
    unfold WordsTo at CW
    have hn3 : ¬ (n : Int) = 3 := by omega
    have hD : doW s (⟨#[99]⟩ :: b :: r) = (14, s) := doW_close_not s b r h3
    rw [hD]
    obtain ⟨z, f, hzf⟩ : ∃ z f, numIs (numX b) = .returned (.tuple #[.int .i64 z, .bool f]) := ⟨_, _, rfl⟩
    have CN' : Hid (∀ W, Calls Tryz.prog 152 #[.string b] W fun r w' => r = .returned (.tuple #[.int .i64 z, .bool f]) ∧ w' = W) := fun W => by
      have := numberR_any b W (by omega)
      rw [hzf] at this
      exact this
    clear hD hn h3 hws hzf CN
    cases f
    all_goals
      go_enter Tryz.func115, Tryz.ntmps115
      go_wp2_with (first
      | (go_at_call 151; (with_reducible refine Calls.mono CW.out ?_); rintro e w1 ⟨g, cap, rfl, hnc, c0, c1, hb⟩)
      | (go_at_call 152; (with_reducible refine Calls.mono (CN'.out _) ?_); rintro e wx ⟨rfl, hw⟩; rw [hw]; clear hw wx))
      all_goals go_ret
      all_goals exact ⟨rfl, did_same HH.out hb.out.2⟩
set_option maxHeartbeats 2000000 in
set_option maxRecDepth 100000 in
theorem does_post (R : Nat) (s : St) (Fd : Nat → Prop) (x : ByteArray) (w : World) (h : DocIs w R s Fd) (ho : s.Ok) (hx : x.size ≤ 1000000000) (b : ByteArray) (r : List ByteArray) (hws : wsB x = ⟨#[112]⟩ :: b :: r) (hbs : b.size ≤ 1000000000) (hr : r.length ≤ 1000000000) (hrs : ∀ y ∈ r, y.size ≤ 1000000000) :
    Calls Tryz.prog 115 #[.pointer (some ⟨R, 0, none⟩), .string x] w fun e w' => e = .returned (.int .i64 (doW s (⟨#[112]⟩ :: b :: r)).1) ∧ Did w w' R (doW s (⟨#[112]⟩ :: b :: r)).2 Fd := by
  obtain ⟨n, hn⟩ : ∃ n, n = r.length + 2 := ⟨_, rfl⟩
  have hn2 : ¬ (n : Int) < 2 := by omega
  have CN : Hid (∀ W, _) := fun W => numberR_any b W (by omega)
  have HH : Hid (type_of% h) := h
  have CW : Hid (WordsTo w x ⟨#[112]⟩ b r n) := words_to hx hws hn
  unfold WordsTo at CW
  have CL : Hid (∀ W ad cap, (0 < r.length → ∃ g o, ad = some ⟨g, o, none⟩ ∧ ∀ j (hj : j < r.length), W.cell? ⟨g, o + j, none⟩ = some (.string r[j])) → Calls Tryz.prog 153 #[.slice ad (n - 2) cap] W fun e w' => LinesR W w' r e) := fun W ad cap hW => by
    rw [show n - 2 = r.length by omega]
    exact linesR_any ad cap r W ⟨hW, hrs, by omega⟩
  have CP : Hid (∀ W v lad m cap ya ym, Below w.heap.size w W → LinesV W lad m cap ya ym → _) := fun W v lad m cap ya ym hW hL => docPost R s Fd v lad m cap ya ym W (h.turn (S := fun _ => False) (Turn.of_below hW) (fun _ _ h => h)) ho hL
  have HR : Hid (∀ L, pairsW r = some L → L.length ≤ 1000000000 ∧ ∀ y ∈ L, y.1.size ≤ 1000000000) := fun L hL => by
    obtain ⟨h1, h2⟩ := pairsW_len _ r L (Nat.le_refl _) hL
    exact ⟨by omega, fun y hy => hrs _ (h2 y hy)⟩
  clear h
  obtain ⟨z, f, hzf⟩ : ∃ z f, numIs (numX b) = .returned (.tuple #[.int .i64 z, .bool f]) ∧ f = (numX b).isSome ∧ z = (numX b).getD 0 := ⟨_, _, rfl, rfl, rfl⟩
  have CN' : Hid (∀ W, Calls Tryz.prog 152 #[.string b] W fun r w' => r = .returned (.tuple #[.int .i64 z, .bool f]) ∧ w' = W) := fun W => by
    have := numberR_any b W (by omega)
    rw [hzf.1] at this
    exact this
  have hE : Hid (∀ L, pairsW r = some L → f = true → doW s (⟨#[112]⟩ :: b :: r) = (s.postE z (lnA L) (lnM L) L.length, s.afterPost z (lnA L) (lnM L) L.length)) := fun L hL hf => by
    rw [hzf.2.2]
    unfold doW
    simp [← hzf.2.1, hf, hL]
  have hE' : Hid (pairsW r = none ∨ f = false → doW s (⟨#[112]⟩ :: b :: r) = (14, s)) := fun hL => by
    unfold doW
    rcases hL with hL | hL
    · simp [hL]
    · simp [← hzf.2.1, hL]
  clear CN hzf hws hrs
  have hnn : n = r.length + 2 := hn
  have HN : Hid (type_of% hnn) := hnn
  clear hnn hn
  go_enter Tryz.func115, Tryz.ntmps115
  go_wp2_with (first
    | (go_at_call 151; (with_reducible refine Calls.mono CW.out ?_); rintro e w1 ⟨g, cap, rfl, hnc, c0, c1, hb⟩)
    | (go_at_call 152; (with_reducible refine Calls.mono (CN'.out _) ?_); rintro e wx ⟨rfl, hw⟩; rw [hw]; clear hw wx))
  all_goals
    with_reducible refine Calls.mono (CL.out _ _ _ ?_) ?_
    · first
        | exact fun h0 => absurd h0 (by have := HN.out; omega)
        | exact fun _ => ⟨g, 2, rfl, hb.out.1⟩
    intro e w2 hL
    cases hp : pairsW r with
    | none =>
      have hL' : Below w1.heap.size w1 w2 ∧ e = .returned (.tuple #[.slice none 0 0, .bool false]) := by unfold LinesR at hL; rw [hp] at hL; exact hL
      obtain ⟨hb2, rfl⟩ := hL'
      have HB2 : Hid (Below w.heap.size w w2) := hb.out.2.trans (hb2.mono hb.out.2.size)
      have HD : Hid (type_of% (hE'.out (.inl hp))) := hE'.out (.inl hp)
      clear hL hb2 hp hb CL CP HR hE hE' CN' CW c0 c1
      cases f
      all_goals go_wp2
      all_goals go_ret
      all_goals rw [HD.out]
      all_goals exact ⟨rfl, did_same HH.out HB2.out⟩
    | some L =>
      have hL' : Below w1.heap.size w1 w2 ∧ ∃ lad cap', e = .returned (.tuple #[.slice lad L.length cap', .bool true]) ∧ LinesV w2 lad L.length cap' (lnA L) (lnM L) := by
        unfold LinesR at hL
        rw [hp] at hL
        obtain ⟨h1, v, h2, h3⟩ := hL
        obtain ⟨g1, g2⟩ := HR.out L hp
        obtain ⟨lad, cap', rfl, hV⟩ := lv_of_ownsD h3 g1 g2
        exact ⟨h1, lad, cap', h2, hV⟩
      obtain ⟨hb2, lad, cap', rfl, hV⟩ := hL'
      have HB2 : Hid (Below w.heap.size w w2) := hb.out.2.trans (hb2.mono hb.out.2.size)
      have HV : Hid (type_of% hV) := hV
      cases f with
      | false =>
        have HD : Hid (type_of% (hE'.out (.inr rfl))) := hE'.out (.inr rfl)
        clear hL hb2 hp hb CL CP HR hE hE' CN' CW c0 c1 hV
        go_wp2
        go_ret
        rw [HD.out]
        exact ⟨rfl, did_same HH.out HB2.out⟩
      | true =>
        have HD : Hid (type_of% (hE.out L hp rfl)) := hE.out L hp rfl
        clear hL hb2 hp hb CL HR hE hE' CN' CW c0 c1 hV
        go_wp2_with (go_at_call 80; (with_reducible refine Calls.mono (CP.out _ _ _ _ _ _ _ HB2.out HV.out) ?_); rintro e w5 ⟨rfl, h5⟩)
        go_ret
        rw [HD.out]
        exact ⟨rfl, did_by HB2.out h5⟩
/-- does: a line of a text is done. -/
theorem doesR_any (R : Nat) (s : St) (Fd : Nat → Prop) (x : ByteArray) (w : World) (h : DocIs w R s Fd) (ho : s.Ok) (hx : x.size < 1000000000) :
    Calls Tryz.prog 115 #[.pointer (some ⟨R, 0, none⟩), .string x] w fun e w' => e = .returned (.int .i64 (doW s (wsB x)).1) ∧ Did w w' R (doW s (wsB x)).2 Fd := by
  have hw := wordsR_at x w (by omega)
  have hl : (wsB x).length ≤ x.size + 1 ∧ ∀ y ∈ wsB x, y.size ≤ x.size := wsB_few x
  clear hw
  match hws : wsB x with
  | [] => have := wsB_pos x; rw [hws] at this; exact absurd this (Nat.lt_irrefl _)
  | [a] => exact does_few R s Fd x w h (by omega) a hws
  | a :: b :: r =>
    rw [hws] at hl
    have hbs := hl.2 b (by simp)
    have hr : r.length ≤ 1000000000 := by have := hl.1; simp at this; omega
    have hrs : ∀ y ∈ r, y.size ≤ 1000000000 := fun y hy => by have := hl.2 y (by simp [hy]); omega
    by_cases h1 : a = ⟨#[111]⟩
    · subst h1; exact does_open R s Fd x w h ho (by omega) b r hws (by omega) hr hrs
    · by_cases h2 : a = ⟨#[112]⟩
      · subst h2; exact does_post R s Fd x w h ho (by omega) b r hws (by omega) hr hrs
      · by_cases h3 : a = ⟨#[114]⟩
        · subst h3; exact does_rev R s Fd x w h ho (by omega) b r hws (by omega) hr
        · by_cases h4 : a = ⟨#[108]⟩
          · subst h4; exact does_lock R s Fd x w h ho (by omega) b r hws (by omega) hr
          · by_cases h5 : a = ⟨#[99]⟩
            · subst h5; exact does_close R s Fd x w h ho (by omega) b r hws (by omega) hr hrs
            · have hD : doW s (a :: b :: r) = (14, s) := by unfold doW; simp [h1, h2, h3, h4, h5]
              rw [hD]
              exact does_none R s Fd x w h (by omega) a b r hws h1 h2 h3 h4 h5 (by omega) hr
end Go.Proofs.YtjnmoddcodnadaaGreatDoor
namespace Go.Annal
open Go.Proofs.YtjnmoddcodnadaaGreatDoor
/-- A text's lines: each with its byte 10, if it has it. -/
def lnsD : List UInt8 → List (List UInt8)
  | [] => []
  | b :: t => if b = 10 then [10] :: lnsD t else match lnsD t with
    | [] => [[b]]
    | l :: ls => (b :: l) :: ls
/-- What a line does that has its byte 10 or not. -/
def redoD (s : St) (l : List UInt8) : Int × St := if l.getLast? = some 10 then doW s (wsB ⟨l.dropLast.toArray⟩) else (14, s)
def readD : St → Nat → List (List UInt8) → Option St × Nat × Int
  | s, _, [] => (some s, 0, 0)
  | s, k, x :: r => if (redoD s x).1 = 0 then readD (redoD s x).2 (k + 1) r else (none, k + 1, (redoD s x).1)
theorem lnsD_whole (u : List UInt8) (hu : (10 : UInt8) ∉ u) (r : List UInt8) : lnsD (u ++ 10 :: r) = (u ++ [10]) :: lnsD r := by
  induction u with
  | nil => show lnsD (10 :: r) = _; rw [lnsD, if_pos rfl]; rfl
  | cons b t ih =>
    simp only [List.mem_cons, not_or] at hu
    have ih := ih hu.2
    show lnsD (b :: (t ++ 10 :: r)) = _
    rw [lnsD, if_neg (fun e => hu.1 e.symm), ih]
    rfl
theorem lnsD_open (u : List UInt8) (hu : (10 : UInt8) ∉ u) (h0 : u ≠ []) : lnsD u = [u] := by
  induction u with
  | nil => exact absurd rfl h0
  | cons b t ih =>
    simp only [List.mem_cons, not_or] at hu
    rw [lnsD, if_neg (fun e => hu.1 e.symm)]
    by_cases ht : t = []
    · subst ht; rfl
    · rw [ih hu.2 ht]
theorem redoD_whole (s : St) (u : List UInt8) : redoD s (u ++ [10]) = doW s (wsB ⟨u.toArray⟩) := by
  unfold redoD
  rw [if_pos (by simp)]
  simp
theorem redoD_open (s : St) (u : List UInt8) (hu : (10 : UInt8) ∉ u) : redoD s u = (14, s) := by
  unfold redoD
  rw [if_neg]
  intro h
  exact hu (List.mem_of_getLast? h)
theorem doW_ok {s : St} (h : s.Ok) (ws : List ByteArray) : (doW s ws).2.Ok := by
  unfold doW
  repeat' split
  all_goals first | exact h | exact St.afterOpen_ok h _ _ | exact St.afterPost_ok h _ _ _ _ | exact St.afterRev_ok h _ | exact St.afterLock_ok h _ | exact St.afterClose_ok h _ _
/-- A piece of a text. -/
def pc (text : ByteArray) (a b : Nat) : List UInt8 := (text.data.toList.drop a).take (b - a)
theorem pc_drop (text : ByteArray) (a b : Nat) (h : a ≤ b) : text.data.toList.drop a = pc text a b ++ text.data.toList.drop b := by
  unfold pc
  have : text.data.toList.drop b = (text.data.toList.drop a).drop (b - a) := by rw [List.drop_drop]; congr 1; omega
  rw [this, List.take_append_drop]
theorem pc_no {text : ByteArray} {a b : Nat} (hb : b ≤ text.size) (h : ∀ j (hj : j < text.size), a ≤ j → j < b → ¬ (text[j]'hj).toNat = 10) : (10 : UInt8) ∉ pc text a b := by
  intro hm
  obtain ⟨i, hi, e⟩ := List.getElem_of_mem hm
  unfold pc at hi e
  have hi0 := hi
  rw [List.length_take, List.length_drop, ← size_list] at hi
  have hj : a + i < text.size := by omega
  have h2 := byte_list text (a + i) hj
  have h3 : ((text.data.toList.drop a).take (b - a))[i]? = some 10 := (List.getElem?_eq_getElem hi0).trans (congrArg some e)
  rw [List.getElem?_take_of_lt (by omega), List.getElem?_drop, h2] at h3
  exact h (a + i) hj (by omega) (by omega) (by rw [Option.some.inj h3]; rfl)
end Go.Annal
namespace Go.Proofs.YtjnmoddcodnadaaGreatDoor
open Go.RowKit Go.Annal
/-- What Read of the document answers. -/
def ReadD (w w' : World) (R : Nat) (o : Option St × Nat × Int) (e : Ending) : Prop := Below w.heap.size w w' ∧ match o with
  | (some s, _, _) => e = .returned (.tuple #[.pointer (some ⟨R, 0, none⟩), .int .i64 0, .int .i64 0]) ∧ s.Ok ∧ ∃ Fd, DocIs w' R s Fd ∧ ∀ b, Fd b → w.heap.size ≤ b
  | (none, k, n) => e = .returned (.tuple #[.pointer none, .int .i64 k, .int .i64 n])
theorem newD_any (w : World) : Calls Tryz.prog 35 #[] w fun r w' => r = .returned (.pointer (some ⟨w.heap.size, 0, none⟩)) ∧ w' = w.alloc (.cells #[.slice none 0 0, .slice none 0 0, .int .i64 (-1), .string ⟨#[]⟩] 103) := by
  go_enter Tryz.func35, Tryz.ntmps35
  go_wp2
  go_ret
  exact ⟨rfl, rfl⟩
theorem docNewD {w : World} {R : Nat} (h : w.heap[R]? = some (.cells #[.slice none 0 0, .slice none 0 0, .int .i64 (-1), .string ⟨#[]⟩] 103 (0, 0))) : DocIs w R St.new (fun k => k = R) :=
  ⟨none, none, 0, 0, fun _ => 0, fun _ => 0, ⟨h, ⟨rfl, .inl ⟨rfl, rfl⟩⟩, ⟨rfl, .inl ⟨rfl, rfl⟩⟩, fun k hk => absurd hk (Nat.not_lt_zero _), by decide⟩, fun k => ⟨.inl, fun h => h.elim id (fun h => h.elim (fun h => by cases h) (fun h => h.elim (fun h => by cases h) (fun ⟨i, hi, _⟩ => absurd hi (Nat.not_lt_zero _))))⟩⟩
/-- Where Read stands: a book of the lines ahead. -/
def AtD (w wr : World) (text : ByteArray) (k a : Nat) (s : St) : Prop := s.Ok ∧ Below w.heap.size w wr ∧ (∃ Fd, DocIs wr w.heap.size s Fd ∧ ∀ b, Fd b → w.heap.size ≤ b) ∧ readD St.new 0 (lnsD text.data.toList) = readD s k (lnsD (text.data.toList.drop a))
set_option maxRecDepth 100000 in
set_option maxHeartbeats 2000000 in
theorem readR_any (text : ByteArray) (w : World) (hx : text.size < 1000000000) :
    Calls Tryz.prog 71 #[.string text] w fun e w' => ReadD w w' w.heap.size (readD St.new 0 (lnsD text.data.toList)) e := by
  have CN : Hid (Calls Tryz.prog 35 #[] w fun r w' => r = .returned (.pointer (some ⟨w.heap.size, 0, none⟩)) ∧ Hid (AtD w w' text 0 0 St.new)) := by
    refine (newD_any w).mono ?_
    rintro r w' ⟨rfl, rfl⟩
    exact ⟨rfl, St.new_ok, ((Grew.refl w).alloc _).below, ⟨_, docNewD (heap_alloc_new w _), fun b (hb : b = w.heap.size) => by omega⟩, rfl⟩
  obtain ⟨o, ho⟩ : ∃ o, readD St.new 0 (lnsD text.data.toList) = o := ⟨_, rfl⟩
  have HO : Hid (type_of% ho) := ho
  rw [ho]
  clear ho
  go_enter Tryz.func71, Tryz.ntmps71
  go_wp2_with (go_at_call 35; (with_reducible refine Calls.mono CN.out ?_); rintro e w1 ⟨rfl, h1⟩)
  clear CN
  go_loopw [6, 7, 8, 9] (fun lv fv iv _ wr => ∃ (k a i : Nat) (s : St), a ≤ i ∧ i ≤ text.size ∧ k ≤ a ∧ lv = .int .i64 (k + 1 : Nat) ∧ fv = .int .i64 a ∧ iv = .int .i64 i ∧ Hid (AtD w wr text k a s ∧ ∀ j (hj : j < text.size), a ≤ j → j < i → ¬ (text[j]'hj).toNat = 10)) (fun _ _ iv _ _ => text.size - (intOf iv).toNat)
  case atStart => exact ⟨0, 0, 0, St.new, Nat.le_refl _, Nat.zero_le _, Nat.le_refl _, rfl, rfl, rfl, h1.out, fun j _ _ h => absurd h (Nat.not_lt_zero _)⟩
  case round =>
    obtain ⟨k, a, i, s, hai, hit, hka, rfl, rfl, rfl, hR⟩ := hrel
    clear h1
    by_cases hlt : i < text.size
    · have hlt' : (i : Int) < (text.size : Int) := by omega
      by_cases hb : (text[i]'hlt).toNat = 10
      · have hno := pc_no (a := a) (b := i) (text := text) (by omega) hR.out.2
        have hst : Hid (readD St.new 0 (lnsD text.data.toList) = readD s k ((pc text a i ++ [10]) :: lnsD (text.data.toList.drop (i + 1)))) := by
          show readD St.new 0 (lnsD text.data.toList) = _
          rw [hR.out.1.2.2.2, pc_drop text a i hai, drop_byte text i hlt, UInt8.toNat_inj.1 (show (text[i]'hlt).toNat = (10 : UInt8).toNat from hb), lnsD_whole _ hno]
        have hex : (⟨(pc text a i).toArray⟩ : ByteArray) = text.extract a i := by
          have h1 : (text.extract a i).data.toList = pc text a i := extract_listD text a i
          rw [← h1]
        have hrd : redoD s (pc text a i ++ [10]) = doW s (wsB (text.extract a i)) := by rw [redoD_whole, hex]
        obtain ⟨en, t, het⟩ : ∃ en t, doW s (wsB (text.extract a i)) = (en, t) := ⟨_, _, rfl⟩
        have CD : Hid (Calls Tryz.prog 115 #[.pointer (some ⟨w.heap.size, 0, none⟩), .string (text.extract a i)] wr fun e w' => e = .returned (.int .i64 en) ∧ Hid (t.Ok ∧ Below w.heap.size w w' ∧ ∃ Fd, DocIs w' w.heap.size t Fd ∧ ∀ b, Fd b → w.heap.size ≤ b)) := by
          obtain ⟨ok, hbl, ⟨Fd, hd, hf⟩, _⟩ := hR.out.1
          have := doesR_any w.heap.size s Fd (text.extract a i) wr hd ok (by rw [ByteArray.size_extract]; omega)
          rw [het] at this
          refine this.mono ?_
          rintro e w' ⟨rfl, Fd', d1, d2, d3⟩
          have hok := doW_ok ok (wsB (text.extract a i))
          rw [het] at hok
          have hbs := hbl.size
          exact ⟨rfl, hok, ⟨d2.os.trans hbl.os, d2.tape.trans hbl.tape, d2.output.trans hbl.output, Nat.le_trans hbl.size d2.size, fun x hx => (d2.block x (Nat.lt_of_lt_of_le hx hbl.size) (fun h => by have := hf x h; omega)).trans (hbl.block x hx)⟩, Fd', d1, fun b hb => (d3 b hb).elim (hf b) (fun h => by omega)⟩
        rw [het] at hrd
        by_cases h0 : en = 0
        · have hnx : Hid (readD St.new 0 (lnsD text.data.toList) = readD t (k + 1) (lnsD (text.data.toList.drop (i + 1)))) := by
            show readD St.new 0 (lnsD text.data.toList) = _
            rw [hst.out, readD, hrd, if_pos h0]
          clear hst hex hrd het hno
          subst h0
          go_wp2_with (go_at_call 115; (with_reducible refine Calls.mono CD.out ?_); rintro e w2 ⟨rfl, h2⟩)
          exact ⟨⟨k + 1, i + 1, i + 1, t, by omega, by omega, by omega, by go_num, by go_num, by go_num, ⟨h2.out.1, h2.out.2.1, h2.out.2.2, hnx.out⟩, fun j _ h1 h2 => by omega⟩, by simp [intOf]; omega⟩
        · have hnx : Hid (o = (none, k + 1, en)) := by
            show o = _
            rw [← HO.out, hst.out, readD, hrd, if_neg h0]
          have h0' : (en == 0) = false := by rw [beq_eq_false_iff_ne]; exact h0
          clear hst hex hrd het hno
          go_wp2_with (go_at_call 115; (with_reducible refine Calls.mono CD.out ?_); rintro e w2 ⟨rfl, h2⟩)
          go_ret3
          rw [hnx.out]
          exact ⟨h2.out.2.1, rfl⟩
      · have HN : Hid (∀ j (hj : j < text.size), a ≤ j → j < i + 1 → ¬ (text[j]'hj).toNat = 10) := fun j hj h1 h2 => by
          by_cases e : j = i
          · subst e; exact hb
          · exact hR.out.2 j hj h1 (by omega)
        go_wp2
        exact ⟨⟨k, a, i + 1, s, by omega, by omega, hka, by go_num, by go_num, by go_num, hR.out.1, HN.out⟩, by simp [intOf]; omega⟩
    · have hlt' : ¬ (i : Int) < (text.size : Int) := by omega
      obtain rfl : i = text.size := by omega
      by_cases hfa : a < text.size
      · have hfa' : (a : Int) < (text.size : Int) := by omega
        have hno := pc_no (a := a) (b := text.size) (text := text) (Nat.le_refl _) hR.out.2
        have hnx : Hid (o = (none, k + 1, 14)) := by
          show o = _
          have e1 : text.data.toList.drop a = pc text a text.size := by
            rw [pc_drop text a text.size hai, List.drop_eq_nil_of_le (by rw [← size_list]; exact Nat.le_refl _), List.append_nil]
          have e2 : pc text a text.size ≠ [] := by
            rw [← e1]
            intro e
            have := congrArg List.length e
            rw [List.length_drop, ← size_list] at this
            simp at this; omega
          rw [← HO.out, hR.out.1.2.2.2, e1, lnsD_open _ hno e2, readD, redoD_open _ _ hno, if_neg (show ¬ (14 : Int) = 0 by decide)]
        have HB : Hid (type_of% hR.out.1.2.1) := hR.out.1.2.1
        clear hno hR
        go_wp2
        go_ret3
        rw [hnx.out]
        exact ⟨HB.out, rfl⟩
      · have hfa' : ¬ (a : Int) < (text.size : Int) := by omega
        have hnx : Hid (o = (some s, 0, 0)) := by
          show o = _
          rw [← HO.out, hR.out.1.2.2.2, List.drop_eq_nil_of_le (by rw [← size_list]; omega), lnsD, readD]
        have HB : Hid (type_of% hR.out.1) := hR.out.1
        clear hR
        go_wp2
        go_ret3
        rw [hnx.out]
        exact ⟨HB.out.2.1, rfl, HB.out.1, HB.out.2.2.1⟩
end Go.Proofs.YtjnmoddcodnadaaGreatDoor
