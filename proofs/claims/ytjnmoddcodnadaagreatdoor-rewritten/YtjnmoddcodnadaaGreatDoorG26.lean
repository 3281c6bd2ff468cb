import Derived.Test.YtjnmoddcodnadaaGreatDoorG25
set_option linter.unusedVariables false
set_option linter.unusedSimpArgs false
namespace Go.Annal
theorem closeSum_bd (fn : Nat → ByteArray) (kd : Nat → Int) (bal : ByteArray → Int) (M : Int) (hM : 0 ≤ M) (h : ∀ x, -M ≤ bal x ∧ bal x ≤ M) : ∀ i : Nat, -(M * i) ≤ closeSum fn kd bal i ∧ closeSum fn kd bal i ≤ M * i
  | 0 => by simp [closeSum]
  | i + 1 => by
    have h1 := closeSum_bd fn kd bal M hM h i
    have h2 := h (fn i)
    have e : M * ((i + 1 : Nat) : Int) = M * i + M := by rw [Int.natCast_add, Int.mul_add]; simp
    simp only [closeSum]
    rw [e]
    split <;> omega
theorem closeL_len (fn : Nat → ByteArray) (kd : Nat → Int) (bal : ByteArray → Int) : ∀ i, (closeL fn kd bal i).length ≤ i
  | 0 => by simp [closeL]
  | i + 1 => by
    have := closeL_len fn kd bal i
    simp only [closeL, List.length_append]
    split <;> simp <;> omega
end Go.Annal
namespace Go.Proofs.YtjnmoddcodnadaaGreatDoor
open Go.RowKit Go.Annal
set_option maxRecDepth 100000 in
set_option maxHeartbeats 2000000 in
theorem CloseR_any0 (R ga ca na ge ce ne : Nat) (ada ade : Option Addr) (fn : Nat → ByteArray) (kd : Nat → Int) (dy : Nat → Int) (gl ln cl : Nat → Nat) (la : Nat → Nat → ByteArray) (lm : Nat → Nat → Int) (t : ByteArray) (xs : List Value) (lk day : Int) (into : ByteArray) (w : World)
    (hR : w.heap[R]? = some (.cells #[.slice ada na ca, .slice ade ne ce, .int .i64 lk, .string t] 103 (0, 0))) (hA : AccsAt w R ga ca na ada fn) (hK : ∀ i, i < na → w.cell? ⟨ga, i * 2 + 1, none⟩ = some (.int .i64 (kd i))) (hE : EntsAt w R ge ce ne ade dy gl ln cl la lm) (hown : w.ownsRow 0 158 3 (.slice ade ne ce) ne xs)
    (h1 : dayB day = true) (h2 : 0 ≤ atI fn na into) (hat : atI fn na into < na) (h3 : ¬ kd (atI fn na into).toNat = 1) (h4 : ¬ day ≤ lk) (hna : na ≤ 10) (hne : ne ≤ 60) (hin : into.size ≤ 1000000000) (ht : t.size ≤ 900000000000)
    (L : List Ln) (S : Int) (hL : closeL fn kd (fun x => enS dy la lm x day ln ne) na = L) (hS : closeSum fn kd (fun x => enS dy la lm x day ln ne) na = S)
    (P : World → Prop) (hP : ∀ w', (∃ g cap' gl' cl2 L', L' = (L ++ if S ≠ 0 then [(into, S)] else []) ∧
        w'.heap[R]? = some (.cells #[.slice ada na ca, .slice (some ⟨g, 0, none⟩) (ne + 1) cap', .int .i64 day, .string (t ++ (⟨#[99, 32]⟩ ++ ⟨(digZ day).toArray⟩ ++ ⟨#[32]⟩ ++ into) ++ ⟨#[10]⟩)] 103 (0, 0)) ∧
        w'.ownsRow 0 158 3 (.slice (some ⟨g, 0, none⟩) (ne + 1) cap') (ne + 1) (xs ++ [.int .i64 day, .slice (some ⟨gl', 0, none⟩) L'.length cl2, .bool false]) ∧
        w'.ownsRow w.heap.size 58 2 (.slice (some ⟨gl', 0, none⟩) L'.length cl2) L'.length (cells2 L') ∧
        Turn (fun k => k = R ∨ (Value.slice ade ne ce).ownBlock = some k) w w' ∧ ((Value.slice ade ne ce).ownBlock = some g ∨ w.heap.size ≤ g)) → P w') :
    Calls Tryz.prog 44 #[.pointer (some ⟨R, 0, none⟩), .int .i64 day, .string into] w fun r w' =>
      (closeE2 L.isEmpty (decide (60 ≤ ne)) ≠ 0 → r = .returned (.tuple #[.int .i64 0, .int .i64 (closeE2 L.isEmpty (decide (60 ≤ ne)))]) ∧ Below w.heap.size w w') ∧ (closeE2 L.isEmpty (decide (60 ≤ ne)) = 0 → r = .returned (.tuple #[.int .i64 ((ne + 1 : Nat) : Int), .int .i64 0]) ∧ P w') := by
  obtain ⟨i0, hi, hz0, hz1, hz2⟩ := info_parts Tryz.infoLine
  generalize hEE : closeE2 L.isEmpty (decide (60 ≤ ne)) = E
  have HE0 : Hid (type_of% hEE) := hEE
  have HP : Hid (type_of% hP) := hP
  clear hEE hP
  have C1 : Hid _ := isDayR_any day w
  rw [h1] at C1
  have C2 : Hid _ := hA.at into
  have HDB : Hid _ := dayB_yes h1
  obtain ⟨j, hj⟩ : ∃ j : Nat, atI fn na into = j := ⟨(atI fn na into).toNat, by omega⟩
  rw [hj] at C2 h3 hat
  rw [Int.toNat_natCast] at h3
  have hj' : j < na := by omega
  obtain rfl := hA.hA (by omega)
  have cA := hA.cA
  have cL := blk_cell' hR (o := 2) rfl
  have cE := blk_cell' hR (o := 1) rfl
  have ck := hK j hj'
  have b1 : (0 : Int) ≤ (j : Int) := by omega
  have b2 : (j : Int) < (na : Int) := by omega
  have b3 : ¬ (j : Int) < 0 := by omega
  have CB : Hid (∀ (x : ByteArray) (W : World), Below w.heap.size w W → Calls Tryz.prog 83 #[.pointer (some ⟨R, 0, none⟩), .string x, .int .i64 day, .int .i64 ne] W fun r w' => r = .returned (.int .i64 (enS dy la lm x day ln ne)) ∧ w' = W) := fun x W hW => balanceR_any R ge ce ne ade dy gl ln cl la lm x day ne W (hE.mv hW) (Nat.le_refl _)
  have hbd : ∀ x, -(6000000000000000 : Int) ≤ enS dy la lm x day ln ne ∧ enS dy la lm x day ln ne ≤ 6000000000000000 := fun x => by
    have := enS_bd dy la lm x day ln ne (fun i hi => ⟨hE.small i hi, hE.bound i hi⟩)
    omega
  have HA : Hid (type_of% hA) := hA
  have HK : Hid (type_of% hK) := hK
  have HR : Hid (type_of% hR) := hR
  have HO : Hid (type_of% hown) := hown
  have HBD : Hid (type_of% hbd) := hbd
  have HL : Hid (type_of% hL) := hL
  have HSm : Hid (type_of% hS) := hS
  generalize hbal : (fun x => enS dy la lm x day ln ne) = bal at HL HSm
  have hb' : ∀ x, enS dy la lm x day ln ne = bal x := fun x => by rw [← hbal]
  have CB' : Hid (∀ (x : ByteArray) (W : World), Below w.heap.size w W → Calls Tryz.prog 83 #[.pointer (some ⟨R, 0, none⟩), .string x, .int .i64 day, .int .i64 ne] W fun r w' => r = .returned (.int .i64 (bal x)) ∧ w' = W) := fun x W hW => by rw [← hb']; exact CB.out x W hW
  have HBD' : Hid (∀ x, -(6000000000000000 : Int) ≤ bal x ∧ bal x ≤ 6000000000000000) := fun x => by rw [← hb']; exact HBD.out x
  clear CB HBD hbd hb' hbal hA hK hE hR hown hL hS hj h2 h1
  generalize kd j = kj at ck h3
  have h3' : (kj == 1) = false := by simpa using h3
  have h4' : decide (day ≤ lk) = false := by simpa using h4
  have b3' : decide ((j : Int) < 0) = false := by simp
  clear h3 h4 b3
  go_enter Tryz.func44, Tryz.ntmps44
  go_wp2_with (first | (go_at_call 82; refine Calls.mono C1.out ?_; rintro e wx ⟨rfl, hw⟩; rw [hw]; clear hw wx) | (go_at_call 77; refine Calls.mono C2.out ?_; rintro e wx ⟨rfl, hw⟩; rw [hw]; clear hw wx))
  clear h3' h4' b1 b2 b3' ck cL hat hj' C1 C2
  go_loopw [10, 11, 12, 13] (fun lv sv iv _ wr => ∃ k : Nat, k ≤ na ∧ iv = .int .i64 k ∧ sv = .int .i64 (closeSum fn kd bal k) ∧ Hid (wr.ownsRow w.heap.size 58 2 lv (closeL fn kd bal k).length (cells2 (closeL fn kd bal k))) ∧ Hid (Below w.heap.size w wr)) (fun _ _ iv _ _ => na - (intOf iv).toNat)
  case atStart => exact ⟨0, Nat.zero_le _, rfl, rfl, World.ownsRow_nil _ _ _ _, Below.refl _ _⟩
  case round =>
    obtain ⟨k, hk, rfl, rfl, ho, hb⟩ := hrel
    by_cases hlt : k < na
    · have hlt' : (k : Int) < (na : Int) := by omega
      have hk0 : (0 : Int) ≤ (k : Int) := by omega
      have rA := cell_later hb.out cA
      have rE := cell_later hb.out cE
      have rn := cell_later hb.out (HA.out.cn k hlt)
      have rk := cell_later hb.out (HK.out k hlt)
      have hbk := HBD'.out (fn k)
      obtain ⟨hb1, hb2⟩ := hbk
      have hsk := closeSum_bd fn kd bal 6000000000000000 (by decide) HBD'.out k
      obtain ⟨hs1, hs2⟩ := hsk
      have CBq : Hid (∀ q, Calls Tryz.prog 83 #[.pointer (some ⟨R, 0, none⟩), .string (fn k), .int .i64 day, .int .i64 ne] (wr.drewN q) fun r w' => r = .returned (.int .i64 (bal (fn k))) ∧ w' = wr.drewN q) := fun q => CB'.out _ _ (hb.out.trans (((Grew.refl wr).drewN q).below.mono hb.out.size))
      have hsuc : Hid (closeSum fn kd bal (k + 1) = closeSum fn kd bal k + (if kd k = 1 ∧ bal (fn k) ≠ 0 then bal (fn k) else 0)) := rfl
      have hlsu : Hid (closeL fn kd bal (k + 1) = closeL fn kd bal k ++ (if kd k = 1 ∧ bal (fn k) ≠ 0 then [(fn k, - bal (fn k))] else [])) := rfl
      have hll := closeL_len fn kd bal k
      generalize closeSum fn kd bal k = Sk at *
      generalize closeL fn kd bal k = Lk at *
      generalize hbv : bal (fn k) = bv at *
      generalize hkk : kd k = kk at *
      by_cases hk1 : kk = 1
      · by_cases hb0 : bv = 0
        · have hb0' : (bv != 0) = false := by simpa using hb0
          have e1 : Hid (¬ (kk = 1 ∧ bv ≠ 0)) := fun h => h.2 hb0
          go_wp2
          go_quiet (first | (go_at_call 83; refine Calls.quiet_of_same (CBq.out _)))
          go_wp2
          exact ⟨⟨k + 1, by omega, by go_num, by rw [hsuc.out, if_neg e1.out]; simp, by show World.ownsRow _ _ _ _ _ _ _; rw [hlsu.out, if_neg e1.out, List.append_nil]; exact owns_mv ho.out ((Grew.refl wr).drewN _).below, show Hid _ from hb.out.trans (((Grew.refl wr).drewN _).below.mono hb.out.size)⟩, by simp [intOf]; omega⟩
        · have hb0' : (bv != 0) = true := by simpa using hb0
          have e1 : Hid (kk = 1 ∧ bv ≠ 0) := ⟨hk1, hb0⟩
          have hws := hb.out.size
          go_wp2
          go_quiet (first | (go_at_call 83; refine Calls.quiet_of_same (CBq.out _)))
          go_wp2_with (at_builtin; refine wpList_append_lies _ rfl (.tmp 81) (.tmp 93) 54 rfl w.heap.size 58 i0 _ 2 24 Tryz.underlying54 hi hz0 hz1 hz2 rfl (by decide) _ Lk.length _ rfl ((owns_mv ho.out ((Grew.refl wr).drewN nq).below).alloc _) ⟨wr.heap.size, 0, none⟩ 1 1 [.string (fn k), .int .i64 (-bv)] rfl rfl (World.news_of_block (cs := #[.string (fn k), .int .i64 (-bv)]) (heap_alloc_new (wr.drewN nq) _)) (by simp [Value.oneCell']) (by decide) (by unfold maxLen; omega) (by omega) (by simp; omega) (wr.heap.size + 1) (by simp) ?_; intro g2 cap2 w2 hown2 hg2 hat2 hlt2)
          have hb3 : Below w.heap.size w w2 := ((hb.out.trans (((Grew.refl wr).drewN nq).below.mono hws)).alloc hws _).grown hg2 (by simp; omega) (fun j hj => (ho.out.lt j hj).1)
          go_roundw
          case rel => exact ⟨k + 1, by omega, by go_num, by rw [hsuc.out, if_pos e1.out], by show World.ownsRow _ _ _ _ _ _ _; rw [hlsu.out, if_pos e1.out, cells2_append, List.length_append]; exact hown2, hb3⟩
          case measure => simp [intOf]; omega
      · have hk1' : (kk == 1) = false := by simpa using hk1
        have e1 : Hid (¬ (kk = 1 ∧ bv ≠ 0)) := fun h => hk1 h.1
        go_wp2
        go_quiet (first | (go_at_call 83; refine Calls.quiet_of_same (CBq.out _)))
        go_wp2
        exact ⟨⟨k + 1, by omega, by go_num, by rw [hsuc.out, if_neg e1.out]; simp, by show World.ownsRow _ _ _ _ _ _ _; rw [hlsu.out, if_neg e1.out, List.append_nil]; exact owns_mv ho.out ((Grew.refl wr).drewN _).below, show Hid _ from hb.out.trans (((Grew.refl wr).drewN _).below.mono hb.out.size)⟩, by simp [intOf]; omega⟩
    · have hlt' : ¬ (k : Int) < (na : Int) := by omega
      obtain rfl : k = na := by omega
      have rA := cell_later hb.out cA
      have rE := cell_later hb.out cE
      have hll := closeL_len fn kd bal k
      have hsk := closeSum_bd fn kd bal 6000000000000000 (by decide) HBD'.out k
      obtain ⟨hs1, hs2⟩ := hsk
      have ho' := ho.out
      rw [HL.out] at ho' hll
      rw [HSm.out] at hs1 hs2 ⊢
      obtain ⟨ad, cl2, gl2, eg, _, hgav, _⟩ := owns_view' ho'
      clear ho HL HSm HA HK CB' HBD'
      by_cases hl0 : L.length = 0
      · have e0 : L = [] := List.eq_nil_of_length_eq_zero hl0
        subst e0
        rw [eg]
        obtain rfl : E = 7 := HE0.out.symm.trans rfl
        go_wp2
        go_ret2
        exact ⟨rfl, hb.out⟩
      · have e0 : L.isEmpty = false := by cases L with | nil => exact absurd rfl hl0 | cons _ _ => rfl
        obtain ⟨rfl, hgb⟩ := hgav (by omega)
        have hl0' : ¬ (L.length : Int) = 0 := by omega
        rw [eg] at ho' ⊢
        by_cases hf : 60 ≤ ne
        · have hf' : (60 : Int) ≤ (ne : Int) := by omega
          obtain rfl : E = 4 := HE0.out.symm.trans (by rw [e0, decide_eq_true hf]; rfl)
          clear e0 HE0
          go_wp2
          go_ret2
          exact ⟨rfl, hb.out⟩
        · have hf' : ¬ (60 : Int) ≤ (ne : Int) := by omega
          obtain rfl : E = 0 := HE0.out.symm.trans (by rw [e0, decide_eq_false hf]; rfl)
          clear e0 HE0
          have hRr := (hb.out.block R (blk_lt HR.out)).trans HR.out
          have hor := owns_mv HO.out hb.out
          have hge : (Value.slice ade ne ce).ownBlock ≠ some R := fun h => by
            obtain ⟨c, fz, hc⟩ := owns_kind HO.out R h
            rw [HR.out] at hc; simp at hc
          have hEl : Hid (∀ g, (Value.slice ade ne ce).ownBlock = some g → g < w.heap.size) := fun g h => (HO.out.lt g h).2
          have hRl := blk_lt HR.out
          have hws := hb.out.size
          have hdb := HDB.out
          obtain ⟨hd0, hd1⟩ := hdb
          have CD := fun W => digits_any day W (by omega) (by omega)
          have HD : Hid _ := CD
          have hdl := digZ_len day
          generalize hdz : digZ day = dl at HD hdl
          have HDZ : Hid (type_of% hdz) := hdz
          clear CD hdz
          by_cases hS0 : S = 0
          · have hS0' : (S != 0) = false := by simpa using hS0
            have HS0 : Hid (type_of% hS0) := hS0
            clear hS0
            have HR1 : Hid (type_of% hRr) := hRr
            have HE1 : Hid (type_of% hor) := hor
            have HL1 : Hid (type_of% ho') := ho'
            have HT1 : Hid (Turn (fun k => k = R ∨ (Value.slice ade ne ce).ownBlock = some k) w wr) := Turn.of_below hb.out
            clear hRr hor ho'
            go_wp2_with fail
            refine Calls.mono (HD.out _) ?_
            rintro e' w3 ⟨rfl, hg3⟩
            have R3 := hg3.blk HR1.out
            have oE3 := owns_mv HE1.out hg3.below
            have oL3 := owns_mv HL1.out hg3.below
            have T3 := HT1.out.below hg3.below
            clear hg3 HR1 HE1 HL1 HT1 HD
            go_wp2_with fail
            refine Calls.mono (note_any R _ _ _ t _ w3 R3 (by simp only [ByteArray.size_append, sz_arr, List.size_toArray, List.length_cons, List.length_nil]; omega)) ?_
            rintro e' w4 ⟨rfl, rfl⟩
            generalize htx : (t ++ (⟨#[99, 32]⟩ ++ ⟨dl.toArray⟩ ++ ⟨#[32]⟩ ++ into) ++ ⟨#[10]⟩ : ByteArray) = tx
            have HTX : Hid (type_of% htx) := htx
            clear htx
            have R4 := blk_set R3 3 (.string tx)
            have oE4 := ownsRow_setCell_other oE3 (a := ⟨R, 3, none⟩) hge (.string tx)
            have hgl : (Value.slice (some ⟨gl2, 0, none⟩) L.length cl2).ownBlock ≠ some R := fun h => by have h9 : gl2 = R := Option.some.inj h; omega
            have oL4 := ownsRow_setCell_other oL3 (a := ⟨R, 3, none⟩) hgl (.string tx)
            have T4 := T3.set ⟨R, 3, none⟩ (.string tx) (fun _ => .inl rfl)
            clear R3 oE3 oL3 T3
            have R5 := blk_set R4 2 (.int .i64 day)
            have oE5 := ownsRow_setCell_other oE4 (a := ⟨R, 2, none⟩) hge (.int .i64 day)
            have oL5 := ownsRow_setCell_other oL4 (a := ⟨R, 2, none⟩) hgl (.int .i64 day)
            have T5 := T4.set ⟨R, 2, none⟩ (.int .i64 day) (fun _ => .inl rfl)
            have r4 := blk_cell' R4 (o := 2) rfl
            have f4 := blk_free R4 2
            have HR5 : Hid (type_of% R5) := R5
            have HE5 : Hid (type_of% oE5) := oE5
            have HL5 : Hid (type_of% oL5) := oL5
            have HT5 : Hid (type_of% T5) := T5
            clear R5 oE5 oL5 T5 oE4 oL4 T4 R4
            generalize w3.setCell ⟨R, 3, none⟩ (.string tx) = w4 at *
            go_wp2_with fail
            refine Calls.mono (enterR_any R ne _ (.slice ade ne ce) (.int .i64 day) (.string tx) (.slice (some ⟨gl2, 0, none⟩) L.length cl2) _ day false _ HR5.out HE5.out (by omega) rfl) ?_
            rintro e' w5 ⟨rfl, g, cap', hR6, own6, T6, hat⟩
            have oL6 := owns_turn HL5.out T6 (fun x hx => by
              have hx' : gl2 = x := Option.some.inj hx
              subst hx'
              rintro (h | h)
              · omega
              · have := hEl.out _ h; omega)
            have T7 := HT5.out.trans T6
            have hs5 := HT5.out.size
            go_wp2
            go_ret2
            rw [← HTX.out, ← HDZ.out] at hR6
            exact ⟨rfl, HP.out _ ⟨g, cap', gl2, cl2, L, by simp [HS0.out], hR6, own6, oL6, T7, hat.imp id (fun h => Nat.le_trans hs5 h)⟩⟩
          · have hS0' : (S != 0) = true := by simpa using hS0
            have HS0 : Hid (type_of% hS0) := hS0
            clear hS0
            go_wp2_with (at_builtin; refine wpList_append_lies _ rfl (.tmp 111) (.tmp 115) 54 rfl w.heap.size 58 i0 _ 2 24 Tryz.underlying54 hi hz0 hz1 hz2 rfl (by decide) _ L.length _ rfl (ho'.alloc _) ⟨wr.heap.size, 0, none⟩ 1 1 [.string into, .int .i64 S] rfl rfl (World.news_of_block (cs := #[.string into, .int .i64 S]) (heap_alloc_new wr _)) (by simp [Value.oneCell']) (by decide) (by unfold maxLen; omega) (by omega) (by simp; omega) (wr.heap.size + 1) (by simp) ?_; intro g2 cap2 w2 hown2 hg2 hat2 hlt2)
            have hb2 : Below w.heap.size w w2 := (hb.out.alloc hws _).grown hg2 (by simp; omega) (fun j hj => (ho'.lt j hj).1)
            have hg2l : w.heap.size ≤ g2 := (hown2.lt g2 rfl).1
            have HR1 : Hid _ := (hb2.block R (blk_lt HR.out)).trans HR.out
            have HE1 : Hid _ := owns_mv HO.out hb2
            have HL1 : Hid (type_of% hown2) := hown2
            have HT1 : Hid (Turn (fun k => k = R ∨ (Value.slice ade ne ce).ownBlock = some k) w w2) := Turn.of_below hb2
            clear hRr hor ho' hown2 hg2 hat2
            go_wp2_with fail
            refine Calls.mono (HD.out _) ?_
            rintro e' w3 ⟨rfl, hg3⟩
            have R3 := hg3.blk HR1.out
            have oE3 := owns_mv HE1.out hg3.below
            have oL3 := owns_mv HL1.out hg3.below
            have T3 := HT1.out.below hg3.below
            clear hg3 HR1 HE1 HL1 HT1 HD
            go_wp2_with fail
            refine Calls.mono (note_any R _ _ _ t _ w3 R3 (by simp only [ByteArray.size_append, sz_arr, List.size_toArray, List.length_cons, List.length_nil]; omega)) ?_
            rintro e' w4 ⟨rfl, rfl⟩
            generalize htx : (t ++ (⟨#[99, 32]⟩ ++ ⟨dl.toArray⟩ ++ ⟨#[32]⟩ ++ into) ++ ⟨#[10]⟩ : ByteArray) = tx
            have HTX : Hid (type_of% htx) := htx
            clear htx
            have R4 := blk_set R3 3 (.string tx)
            have oE4 := ownsRow_setCell_other oE3 (a := ⟨R, 3, none⟩) hge (.string tx)
            have hgl : (Value.slice (some ⟨g2, 0, none⟩) (L.length + 1) cap2).ownBlock ≠ some R := fun h => by have h9 : g2 = R := Option.some.inj h; omega
            have oL4 := ownsRow_setCell_other oL3 (a := ⟨R, 3, none⟩) hgl (.string tx)
            have T4 := T3.set ⟨R, 3, none⟩ (.string tx) (fun _ => .inl rfl)
            clear R3 oE3 oL3 T3
            have R5 := blk_set R4 2 (.int .i64 day)
            have oE5 := ownsRow_setCell_other oE4 (a := ⟨R, 2, none⟩) hge (.int .i64 day)
            have oL5 := ownsRow_setCell_other oL4 (a := ⟨R, 2, none⟩) hgl (.int .i64 day)
            have T5 := T4.set ⟨R, 2, none⟩ (.int .i64 day) (fun _ => .inl rfl)
            have r4 := blk_cell' R4 (o := 2) rfl
            have f4 := blk_free R4 2
            have HR5 : Hid (type_of% R5) := R5
            have HE5 : Hid (type_of% oE5) := oE5
            have HL5 : Hid (type_of% oL5) := oL5
            have HT5 : Hid (type_of% T5) := T5
            clear R5 oE5 oL5 T5 oE4 oL4 T4 R4
            generalize w3.setCell ⟨R, 3, none⟩ (.string tx) = w4 at *
            go_wp2_with fail
            refine Calls.mono (enterR_any R ne _ (.slice ade ne ce) (.int .i64 day) (.string tx) (.slice (some ⟨g2, 0, none⟩) (L.length + 1) cap2) _ day false _ HR5.out HE5.out (by omega) rfl) ?_
            rintro e' w5 ⟨rfl, g, cap', hR6, own6, T6, hat⟩
            have oL6 := owns_turn HL5.out T6 (fun x hx => by
              have hx' : g2 = x := Option.some.inj hx
              subst hx'
              rintro (h | h)
              · omega
              · have := hEl.out _ h; omega)
            have T7 := HT5.out.trans T6
            have hs5 := HT5.out.size
            go_wp2
            go_ret2
            rw [← HTX.out, ← HDZ.out] at hR6
            exact ⟨rfl, HP.out _ ⟨g, cap', g2, cap2, L ++ [(into, S)], by simp [HS0.out], hR6, by simpa using own6, by rw [cells2_append, List.length_append]; exact oL6, T7, hat.imp id (fun h => Nat.le_trans hs5 h)⟩⟩
theorem CloseR_any (R ga ca na ge ce ne : Nat) (ada ade : Option Addr) (fn : Nat → ByteArray) (kd : Nat → Int) (dy : Nat → Int) (gl ln cl : Nat → Nat) (la : Nat → Nat → ByteArray) (lm : Nat → Nat → Int) (t : ByteArray) (xs : List Value) (lk day : Int) (into : ByteArray) (w : World)
    (hR : w.heap[R]? = some (.cells #[.slice ada na ca, .slice ade ne ce, .int .i64 lk, .string t] 103 (0, 0))) (hA : AccsAt w R ga ca na ada fn) (hK : ∀ i, i < na → w.cell? ⟨ga, i * 2 + 1, none⟩ = some (.int .i64 (kd i))) (hE : EntsAt w R ge ce ne ade dy gl ln cl la lm) (hown : w.ownsRow 0 158 3 (.slice ade ne ce) ne xs)
    (h1 : dayB day = true) (h2 : 0 ≤ atI fn na into) (hat : atI fn na into < na) (h3 : ¬ kd (atI fn na into).toNat = 1) (h4 : ¬ day ≤ lk) (hna : na ≤ 10) (hne : ne ≤ 60) (hin : into.size ≤ 1000000000) (ht : t.size ≤ 900000000000)
    (L : List Ln) (S : Int) (hL : closeL fn kd (fun x => enS dy la lm x day ln ne) na = L) (hS : closeSum fn kd (fun x => enS dy la lm x day ln ne) na = S) :
    Calls Tryz.prog 44 #[.pointer (some ⟨R, 0, none⟩), .int .i64 day, .string into] w fun r w' =>
      (closeE2 L.isEmpty (decide (60 ≤ ne)) ≠ 0 → r = .returned (.tuple #[.int .i64 0, .int .i64 (closeE2 L.isEmpty (decide (60 ≤ ne)))]) ∧ Below w.heap.size w w') ∧ (closeE2 L.isEmpty (decide (60 ≤ ne)) = 0 → r = .returned (.tuple #[.int .i64 ((ne + 1 : Nat) : Int), .int .i64 0]) ∧ ∃ g cap' gl' cl2 L', L' = (L ++ if S ≠ 0 then [(into, S)] else []) ∧
        w'.heap[R]? = some (.cells #[.slice ada na ca, .slice (some ⟨g, 0, none⟩) (ne + 1) cap', .int .i64 day, .string (t ++ (⟨#[99, 32]⟩ ++ ⟨(digZ day).toArray⟩ ++ ⟨#[32]⟩ ++ into) ++ ⟨#[10]⟩)] 103 (0, 0)) ∧
        w'.ownsRow 0 158 3 (.slice (some ⟨g, 0, none⟩) (ne + 1) cap') (ne + 1) (xs ++ [.int .i64 day, .slice (some ⟨gl', 0, none⟩) L'.length cl2, .bool false]) ∧
        w'.ownsRow w.heap.size 58 2 (.slice (some ⟨gl', 0, none⟩) L'.length cl2) L'.length (cells2 L') ∧
        Turn (fun k => k = R ∨ (Value.slice ade ne ce).ownBlock = some k) w w' ∧ ((Value.slice ade ne ce).ownBlock = some g ∨ w.heap.size ≤ g)) :=
  CloseR_any0 R ga ca na ge ce ne ada ade fn kd dy gl ln cl la lm t xs lk day into w hR hA hK hE hown h1 h2 hat h3 h4 hna hne hin ht L S hL hS _ (fun _ h => h)
end Go.Proofs.YtjnmoddcodnadaaGreatDoor
