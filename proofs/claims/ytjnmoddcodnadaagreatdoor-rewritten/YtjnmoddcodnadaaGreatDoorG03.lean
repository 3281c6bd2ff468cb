import Derived.Test.YtjnmoddcodnadaaGreatDoorG02
import Derived.Deep.RegionHeld3
import Derived.Deep.DrawnRows
set_option linter.unusedVariables false
set_option linter.unusedSimpArgs false
namespace Go.Annal
section
variable (dy : Nat → Int) (la : Nat → Nat → ByteArray) (lm : Nat → Nat → Int) (name : ByteArray) (from' to' : Int)
def lnI (i : Nat) : Nat → List It → List It
  | 0, l => l
  | k + 1, l => if (decide (from' ≤ dy i) && decide (dy i ≤ to')) && ((la i k).toList == name.toList) then ins (lnI i k l) ((i : Int) + 1, dy i, lm i k) else lnI i k l
def enI (ln : Nat → Nat) : Nat → List It
  | 0 => []
  | i + 1 => lnI dy la lm name from' to' i (ln i) (enI ln i)
theorem ins_len (l : List It) (x : It) : (ins l x).length = l.length + 1 := by
  unfold ins
  simp only [List.length_append, List.length_cons, List.length_reverse]
  have := congrArg List.length (List.takeWhile_append_dropWhile (p := fun y : It => decide (x.2.1 < y.2.1)) (l := l.reverse))
  simp only [List.length_append, List.length_reverse] at this
  omega
theorem lnI_len (i : Nat) (l : List It) : ∀ k, (lnI dy la lm name from' to' i k l).length ≤ l.length + k
  | 0 => by simp [lnI]
  | k + 1 => by
    have := lnI_len i l k
    simp only [lnI]
    split
    · rw [ins_len]; omega
    · omega
theorem enI_len (ln : Nat → Nat) : ∀ n, (∀ i, i < n → ln i ≤ 10) → (enI dy la lm name from' to' ln n).length ≤ n * 10
  | 0, _ => by simp [enI]
  | n + 1, h => by
    have h1 := enI_len ln n (fun i hi => h i (by omega))
    have h2 := lnI_len dy la lm name from' to' n (enI dy la lm name from' to' ln n) (ln n)
    have h3 := h n (by omega)
    simp only [enI]; omega
end
end Go.Annal
namespace Go.Proofs.YtjnmoddcodnadaaGreatDoor
open Go.RowKit Go.Annal
attribute [local go_sem ↓] Go.wp_at_zero Go.wp_at_succ
theorem below_drew {w w' : World} (h : Below w.drew.heap.size w.drew w') : Below w.heap.size w w' := ⟨h.os, h.tape, h.output, h.size, h.block⟩
theorem placedL (v : Value) (l : List It) (x : It) (w : World) (hown : w.ownsRow 0 106 3 v l.length (cells3 l)) (hn : l.length ≤ 1000) :
    Calls Tryz.prog 128 #[v, .agg #[.int .i64 x.1, .int .i64 x.2.1, .int .i64 x.2.2]] w fun r w' => ∃ v',
      r = .returned v' ∧ w'.ownsRow w.heap.size 106 3 v' (ins l x).length (cells3 (ins l x)) ∧ Below w.heap.size w w' := by
  refine (placed_any v l.length (cells3 l) (fun j => (l.getD j (0, 0, 0)).2.1) x.1 x.2.1 x.2.2 w hown (fun j hj => ?_) (cells3_one l) hn).mono ?_
  · rw [cells3_get l j hj 1 (by omega)]
    simp [enc3, List.getD_eq_getElem?_getD, hj]
  · rintro r w' ⟨k, v', hk, h1, h2, hr, ho, hb⟩
    have he : ins l x = l.take k ++ x :: l.drop k := by
      refine ins_eq l x k hk (fun y hy => ?_) (fun h => ?_)
      · obtain ⟨j, hj, rfl⟩ := List.getElem_of_mem hy
        have hj' : k + j < l.length := by simp at hj; omega
        have := h1 (k + j) (by omega) hj'
        simpa [List.getD_eq_getElem?_getD, hj'] using this
      · have := h2 h
        simpa [List.getD_eq_getElem?_getD, show k - 1 < l.length by omega] using this
    refine ⟨v', hr, ?_, hb⟩
    have hc : cells3 (ins l x) = (cells3 l).take (k * 3) ++ [.int .i64 x.1, .int .i64 x.2.1, .int .i64 x.2.2] ++ (cells3 l).drop (k * 3) := by
      rw [he, cells3_append, cells3_take, cells3_drop]
      simp [cells3, enc3]
    rw [ins_len, hc]
    exact ho

set_option maxRecDepth 100000 in
set_option maxHeartbeats 1000000 in
theorem ItemsR_ok (R ga ca na ge ce ne : Nat) (ada ade : Option Addr) (fn : Nat → ByteArray) (dy : Nat → Int) (gl ln cl : Nat → Nat) (la : Nat → Nat → ByteArray) (lm : Nat → Nat → Int) (name : ByteArray) (from' to' : Int) (known : Nat) (w : World)
    (hA : AccsAt w R ga ca na ada fn) (hE : EntsAt w R ge ce ne ade dy gl ln cl la lm) (h6 : ∀ i, i < ne → ln i ≤ 10) (h1 : 0 ≤ atI fn na name) (h2 : dayB from' = true) (h2' : dayB to' = true) (hk : known ≤ ne) :
    Calls Tryz.prog 90 #[.pointer (some ⟨R, 0, none⟩), .string name, .int .i64 from', .int .i64 to', .int .i64 known] w fun r w' => ∃ v,
      r = .returned (.tuple #[v, .int .i64 0]) ∧ w'.ownsRow w.heap.size 106 3 v (enI dy la lm name from' to' ln known).length (cells3 (enI dy la lm name from' to' ln known)) ∧ Below w.heap.size w w' := by
  have C1 : Hid _ := hA.at name
  have C2 : Hid _ := isDayR_any from' w
  have C2' : Hid _ := isDayR_any to' w
  have C3 : Hid _ := isKnown_b R ne ce ade known w hE.cE
  rw [h2] at C2
  rw [h2'] at C2'
  rw [show knownB (known : Int) ne = true by simp [knownB]; omega] at C3
  have hfew := hE.few
  clear hA h2 h2'
  generalize atI fn na name = t at *
  go_enter Tryz.func90, Tryz.ntmps90
  go_wp2_with fail
  refine Calls.mono C1.out ?_
  rintro e wx ⟨rfl, hw⟩; rw [hw]; clear hw wx
  go_wp2_with fail
  refine Calls.mono C2.out ?_
  rintro e wx ⟨rfl, hw⟩; rw [hw]; clear hw wx
  go_wp2_with fail
  refine Calls.mono C2'.out ?_
  rintro e wx ⟨rfl, hw⟩; rw [hw]; clear hw wx
  go_wp2_with fail
  refine Calls.mono C3.out ?_
  rintro e wx ⟨rfl, hw⟩; rw [hw]; clear hw wx
  clear C1 C2 C2' C3
  go_wp2
  have hl6 := fun i (hi : i ≤ known) => enI_len dy la lm name from' to' ln i (fun j hj => h6 j (by omega))
  go_loopw [16, 17, 18, 19] (fun ov iv _ _ wr => ∃ i : Nat, i ≤ known ∧ iv = .int .i64 i ∧ wr.ownsRow w.heap.size 106 3 ov (enI dy la lm name from' to' ln i).length (cells3 (enI dy la lm name from' to' ln i)) ∧ Below w.heap.size w wr) (fun _ iv _ _ _ => known - (intOf iv).toNat)
  case atStart => exact ⟨0, Nat.zero_le _, rfl, World.ownsRow_nil _ _ _ _, Below.refl _ _⟩
  case round =>
    obtain ⟨i, hi, rfl, hown, hB⟩ := hrel
    by_cases hlt : i < known
    · have hin : i < ne := by omega
      obtain rfl := hE.hE (by omega)
      have hlt' : (i : Int) < (known : Int) := by omega
      have hin' : (i : Int) < (ne : Int) := by omega
      have cE := cell_later hB hE.cE
      have cd := cell_later hB (hE.cd i hin)
      have cl := cell_later hB (hE.cl i hin)
      obtain ⟨gb, hgb⟩ := hE.cg i hin
      have cg := cell_later hB hgb
      have hs6 := h6 i hin
      have hli := hl6 i (by omega)
      have hst : Hid (enI dy la lm name from' to' ln (i + 1) = lnI dy la lm name from' to' i (ln i) (enI dy la lm name from' to' ln i)) := rfl
      generalize enI dy la lm name from' to' ln i = L at *
      go_wp2
      clear cE cd cl cg hgb
      generalize hBe : wr.heap.size = Be
      have HBe : Hid (wr.heap.size = Be) := hBe
      clear hBe
      go_loopw [16, 19] (fun ov kv w2 => ∃ k : Nat, k ≤ ln i ∧ kv = .int .i64 k ∧ w2.ownsRow w.heap.size 106 3 ov (lnI dy la lm name from' to' i k L).length (cells3 (lnI dy la lm name from' to' i k L)) ∧ Below w.heap.size w w2 ∧
          w2.heap[Be]? = some (.cells #[.int .i64 (dy i), .slice (some ⟨gl i, 0, none⟩) (ln i) (cl i), .bool gb] 158 (0, 0))) (fun _ kv _ => ln i - (intOf kv).toNat)
      case atStart => exact ⟨0, Nat.zero_le _, rfl, hown.alloc _, hB.alloc hB.size _, HBe.out ▸ heap_alloc_new wr _⟩
      case round =>
        obtain ⟨k, hkl, rfl, hown2, hB2, hbx⟩ := hrel
        have b0 := blk_cell' hbx (o := 0) rfl
        have b1 := blk_cell' hbx (o := 1) rfl
        have hll := lnI_len dy la lm name from' to' i L k
        by_cases hk2 : k < ln i
        · have hk2' : (k : Int) < (ln i : Int) := by omega
          have hk0 : (0 : Int) ≤ (k : Int) := by omega
          have ca := cell_later hB2 (hE.ca i hin k hk2)
          have cm := cell_later hB2 (hE.cm i hin k hk2)
          have hst2 : Hid (lnI dy la lm name from' to' i (k + 1) L = if (decide (from' ≤ dy i) && decide (dy i ≤ to')) && ((la i k).toList == name.toList) then ins (lnI dy la lm name from' to' i k L) ((i : Int) + 1, dy i, lm i k) else lnI dy la lm name from' to' i k L) := rfl
          generalize lnI dy la lm name from' to' i k L = M at *
          by_cases hd : from' ≤ dy i
          · by_cases hd' : dy i ≤ to'
            · cases he : (la i k).toList == name.toList
              · clear hE hown
                go_wp2
                go_roundw
                case rel => exact ⟨k + 1, by omega, by go_num, by rw [hst2.out, he]; simpa using hown2, hB2, hbx⟩
                case measure => simp [intOf]; omega
              · have CP0 := fun (v : Value) (W : World) (hW : W.ownsRow 0 106 3 v M.length (cells3 M)) => placedL v M ((i : Int) + 1, dy i, lm i k) W hW (by omega)
                have CP : Hid _ := CP0
                clear CP0
                have hw1 : IntKind.i64.wrap ((i : Int) + 1) = (i : Int) + 1 := wrap_id _ (by omega) (by omega)
                clear hE hown
                go_wp2
                go_region_held3 (fun w' => w'.cell? ⟨Be, 0, none⟩ = some (.int .i64 (dy i)) ∧ w'.cell? ⟨Be, 1, none⟩ = some (.slice (some ⟨gl i, 0, none⟩) (ln i) (cl i)) ∧ w'.cell? ⟨gl i, k * 2 + 1, none⟩ = some (.int .i64 (lm i k)))
                  (first | go_keep | (rename_i hb3; exact ⟨cell_later hb3 b0, cell_later hb3 b1, cell_later hb3 cm⟩))
                  (first | (go_at_call 128; refine Calls.mono (CP.out _ _ (owns0 hown2).drew) ?_; rintro e w3 ⟨v3, rfl, hown3, hb3⟩))
                all_goals go_wp2
                all_goals
                  refine ⟨⟨k + 1, by omega, by go_num, ?_, hB2.trans ((below_drew hb3).mono hB2.size), ((below_drew hb3).block Be (blk_lt hbx)).trans hbx⟩, by simp [intOf]; omega⟩
                  rw [hst2.out, if_pos (by simp [hd, hd', he])]
                  exact owns_le hown3 hB2.size
            · have hd2 : decide (dy i ≤ to') = false := by simpa using hd'
              clear hE hown
              go_wp2
              go_roundw
              case rel => exact ⟨k + 1, by omega, by go_num, by rw [hst2.out, if_neg (by simp [hd2])]; exact hown2, hB2, hbx⟩
              case measure => simp [intOf]; omega
          · have hd2 : decide (from' ≤ dy i) = false := by simpa using hd
            clear hE hown
            go_wp2
            go_roundw
            case rel => exact ⟨k + 1, by omega, by go_num, by rw [hst2.out, if_neg (by simp [hd2])]; exact hown2, hB2, hbx⟩
            case measure => simp [intOf]; omega
        · have hk2' : ¬ (k : Int) < (ln i : Int) := by omega
          have hke : k = ln i := by omega
          subst hke
          clear hE hown
          go_wp2
          go_roundw
          case rel => exact ⟨i + 1, by omega, by go_num, by rw [hst.out]; exact hown2, hB2⟩
          case measure => simp [intOf]; omega
    · have hlt' : ¬ (i : Int) < (known : Int) := by omega
      have hie : i = known := by omega
      subst hie
      clear hl6 hE h6
      go_wp2
      refine bodyPost_ret (results_tmp2 rfl _ _ _) rfl ?_
      exact ⟨_, rfl, hown, hB⟩
end Go.Proofs.YtjnmoddcodnadaaGreatDoor
