import Derived.Test.YtfpakfidfmjfhaaWa7
set_option linter.unusedSimpArgs false
set_option linter.unusedVariables false
set_option linter.unusedSectionVars false
open Go Go.Eng
namespace Go.Proofs.Ytfpakfidfmjfhaa
attribute [local congr] undef_congr WpK.congr WpS.congr WpL.congr WpC.congr WpF.congr gotS.congr callS.congr nextS.congr wantS.congr condS.congr
attribute [local irreducible] WpK
attribute [local simp] WpDr_nil WpDr_cons atS_some dwantS_true dwantS_false kindS_light kindS_float kindS_heavy lightS_value floatS_some heavyS_value heavyS_skip heavyS_enter dcallS_some doneS_eq
  isLight isFloat isPlain dLook testBit_dec dChain dLights_nil dLights_skip dLights_one dLight_nil dLight_cons dFreshes_nil dFreshes_one oneF_none oneF_some dFresh_nil dFresh_cons oneL_some oneW_true oneW_false sameV_value dPut dMay valEq arrEq listEq List.getElem?_cons Tr.get_nil dEnd
attribute [local simp] WpS_nil WpS_cons isDefer undef_false wantS_true wantS_false nextS_value nextS_skip nextS_enter callS_some gotS_some aWanted aOp aEvalF aEval opMove opAssign opPick aVal flat flat1 AAct.put opBinOp opConvert opIndex Tr.get_set Tr.get_lay aBin aResults tupled
  aCall aVals aCallB blt_dec ble_dec beq_dec aBinI_add aBinI_sub aBinI_lss aBinI_leq aBinI_gtr aBinI_geq aBinI_eql aBinI_neq index_str len_str len_slice Nat.beq_refl und3 und37 und5 und9
  opBox opLoad opFieldAddr opIndexAddr acells aAddr field25 und22 und23 und43 und4 und28
attribute [local simp] field31 conv_3_5 conv_3_37 conv_37_3 conv_5_3
set_option maxHeartbeats 4000000


theorem fun3 : T0.funcs.get 3 = some Try.f3 := by kernel_rfl
theorem fun12 : T0.funcs.get 12 = some Try.f12 := by kernel_rfl
theorem valEq_slice (a : Option Addr) (n c : Nat) : valEq (.slice a n c) (.slice a n c) = true := by
  rcases a with _ | ⟨b, o, s⟩ <;> simp [valEq]
theorem bool_ne (xo yo : Operand) (a : Bool) : aBin T0 .neq 4 xo yo (.bool a) (.bool a) = some (.bool false) := by
  simp [aBin, aGuard, aBinO, aEq, und4]

theorem letters_wp (n : Int) (W : AW) : WpF T0 6 [.int .i64 n] W (fun v W' => W' = W ∧ ∃ k : Nat, v = .int .i64 k ∧ 1 ≤ k ∧ k ≤ 4) := by
  refine wpF fun6 rfl ?_
  refine wpK_reg (fun R hR => by simp; exact hR) ?_
  have hrem := aBinI_rem .u64 (IntKind.u64.wrap (IntKind.i64.wrap (n + 3))) 4 (by omega)
  have hr := u64_range (IntKind.i64.wrap (n + 3))
  obtain ⟨x, hx⟩ : ∃ x : Nat, (IntKind.u64.wrap (IntKind.i64.wrap (n + 3))).tmod 4 = x := ⟨((IntKind.u64.wrap (IntKind.i64.wrap (n + 3))).tmod 4).toNat, by rw [Int.toNat_of_nonneg (Int.tmod_nonneg _ hr.1)]⟩
  have hx4 : x < 4 := by
    have := Int.tmod_lt_of_pos (IntKind.u64.wrap (IntKind.i64.wrap (n + 3))) (show (0 : Int) < 4 by omega)
    omega
  have hw : IntKind.i64.wrap (x : Int) = x := i64_nat x (by omega)
  have hw2 : IntKind.i64.wrap (1 + (x : Int)) = ((1 + x : Nat) : Int) := by rw [IntWalk.i64_in _ (by omega)]; omega
  refine wpK_reg (fun R hR => by simp [hrem, hx, hw, hw2]; exact hR) ?_
  refine wpK_ret ⟨.inr rfl, rfl, [.int .i64 ((1 + x : Nat) : Int)], by simp, rfl, 1 + x, rfl, by omega, by omega⟩

theorem wordAccepts_wp (L0 : Int) (vN vG : Value) (nN nG : Nat) (len : Nat → Nat) (f : Nat → Nat → Int) (g : Nat → Bool) (w : ByteArray) (hw : w.data.toList.length < 9223372036854775808) (W : AW) (hN : RowsIn W vN nN len f) (hG : BoolsIn W vG nG g) :
    WpF T0 3 [.agg ⟨[.int .i64 L0, vN, vG]⟩, .string w] W (fun v W' => Ext W W' ∧ v = .bool true) := by
  have hN0 := hN
  have hG0 := hG
  obtain ⟨aN, cN, rfl, _⟩ := hN
  obtain ⟨aG, cG, rfl, _⟩ := hG
  refine wpF fun3 rfl ?_
  refine wpK_reg (fun R hR => by simp; exact hR) ?_
  have hE1 : Ext W (W.newCells 25 [.int .i64 L0, .slice aN nN cN, .slice aG nG cG]) := .newCells _ _ _
  have hb1 : ∀ j, j < 3 → (W.newCells 25 [.int .i64 L0, .slice aN nN cN, .slice aG nG cG]).Has W.next j ([Value.int .i64 L0, .slice aN nN cN, .slice aG nG cG].getD j undef) := fun j hj =>
    Has.newCells (by match j, hj with | 0, _ => rfl | 1, _ => rfl | 2, _ => rfl)
  have hat : ∃ k, (W.newCells 25 [.int .i64 L0, .slice aN nN cN, .slice aG nG cG]).blocks.get W.next = some k := ⟨_, by rw [newCells_get, if_pos rfl]⟩
  have hn1' : (W.newCells 25 [.int .i64 L0, .slice aN nN cN, .slice aG nG cG]).next = W.next + 1 := rfl
  generalize W.newCells 25 [.int .i64 L0, .slice aN nN cN, .slice aG nG cG] = W₁ at hE1 hb1 hat hn1'
  have hl0 : ∀ W', Ext W₁ W' → aLoadVar T0 W' 3 W.next 0 = some (.int .i64 L0) := fun W' h => by rw [loadVar_cell und3 rfl]; exact ((hb1 0 (by omega)).ext h).2
  have hl25 : ∀ W', Ext W₁ W' → aLoadVar T0 W' 25 W.next 0 = some (.agg ⟨[.int .i64 L0, .slice aN nN cN, .slice aG nG cG]⟩) := fun W' h => by
    refine load25 (cellsAt_of_cells rfl ?_ (fun j hj => ?_) (by omega))
    · obtain ⟨k, hk⟩ := hat
      exact ⟨k, by rw [h.2 _ (by omega) (fun x => x)]; exact hk⟩
    · rw [Nat.zero_add, ((hb1 j hj).ext h).2]
      match j, hj with
      | 0, _ => rfl
      | 1, _ => rfl
      | 2, _ => rfl
  have hE2 : Ext W₁ (W₁.newCells 25 [.int .i64 0, .slice none 0 0, .slice none 0 0]) := .newCells _ _ _
  have hg2 : (W₁.newCells 25 [.int .i64 0, .slice none 0 0, .slice none 0 0]).blocks.get W₁.next = some ⟨.cells (Tr.nil.lay 0 [.int .i64 0, .slice none 0 0, .slice none 0 0]) 3 25, []⟩ := by rw [newCells_get, if_pos rfl]; rfl
  have hn2' : (W₁.newCells 25 [.int .i64 0, .slice none 0 0, .slice none 0 0]).next = W₁.next + 1 := rfl
  have hfr : ∀ W', Ext (W₁.newCells 25 [.int .i64 0, .slice none 0 0, .slice none 0 0]) W' → freshB W' W₁.next 25 [.int .i64 0, .slice none 0 0, .slice none 0 0] = true := fun W' h => by
    have hlt : W₁.next < W'.next := by have := h.1; omega
    simp only [freshB, h.2 W₁.next (by omega) (fun x => x), hg2, blt_dec, hlt, decide_true]
    rfl
  try simp only [wpK_assoc]
  refine wpK_dr (wr := Tr.nil |>.set 10 0 |>.set 11 1 |>.set 12 2 |>.set 13 3 |>.set 14 4 |>.set 5 5) (bits := Tr.nil.lay 0 [0, 0, 2, 6, 15, 0, 63]) (ord := [0, 1, 2, 5, 3, 4, 6])
    (J := fun A' W' => A'.n = 52 ∧ A'.defers = [] ∧ A'.tmps.get 1 = some (.string w) ∧ A'.tmps.get 5 = some (.pointer (some ⟨W₁.next, 0, none⟩)) ∧ Ext W W' ∧ W₁.next < W'.next ∧
      ∃ L n bN bG nx gd, 1 ≤ L ∧ L ≤ 4 ∧ 1 ≤ n ∧ n ≤ 12 ∧ (∀ j, j < 3 → W'.Has W₁.next j ([Value.int .i64 (L : Nat), .slice (some ⟨bN, 0, none⟩) n 3, .slice (some ⟨bG, 0, none⟩) n 3].getD j undef)) ∧ (∃ k, W'.blocks.get W₁.next = some k) ∧
        Rows W' bN 0 n L nx ∧ Goods W' bG 0 n gd ∧ ∀ s i, s < n → i < L → nx s i < n)
    (by kernel_rfl) (by kernel_rfl) (by kernel_rfl) (fun G hG' => ?_) ?_
  · simp [hl0 W₁ (.refl _ _), hl25 W₁ (.refl _ _), aFlt, zero25, AFlt.val, aEnter, fun6, fun5, short_other, aCallV]
    rw [dcallS_none]
    generalize W₁.newCells 25 [.int .i64 0, .slice none 0 0, .slice none 0 0] = W₂ at hE2 hg2 hn2' hfr
    have hEW2 : Ext W W₂ := hE1.trans hE2
    refine (letters_wp L0 W₂).mono ?_
    rintro v W' ⟨rfl, L, rfl, hL1, hL4⟩
    simp [hl0 W₁ (.refl _ _), hl25 W₁ (.refl _ _), aEnter, fun5, short_other, aCallV]
    rw [dcallS_none]
    refine (tame_wp L hL1 hL4 L0 _ _ nN nG len f g W' (hN0.ext hEW2) (hG0.ext hEW2)).mono ?_
    rintro v W₃ ⟨hE3, n, bN, bG, nx, gd, rfl, hn1, hn12, hbN, hbG, hR, hGd, hnx⟩
    have hg3 : W₃.blocks.get W₁.next = some ⟨.cells (Tr.nil.lay 0 [.int .i64 0, .slice none 0 0, .slice none 0 0]) 3 25, []⟩ := by rw [hE3.2 _ (by omega) (fun x => x)]; exact hg2
    obtain ⟨W₄, hs1, hs2, hs3, hs4⟩ := storeVar_own (T := T0) (t := 25) (v := autoV L n bN 0 3 bG 0 3) (o := 0) inf25 (by kernel_rfl) hg3 (by show 0 + 3 ≤ 3; omega) rfl
    have hW3 := hE3.1
    simp [hl0 W₁ (.refl _ _), hl25 W₁ (.refl _ _), hl0 W' hE2, hl25 W' hE2, opStore, hs1, hs2, hW3, valEq_slice, hfr W' (.refl _ _), hfr W₃ hE3]
    apply hG'
    have hO : Only (fun b => b = W₁.next) W₃ W₄ := ⟨by rw [hs2]; exact Nat.le_refl _, fun b _ hb => hs3 b hb⟩
    have hEW3 : Ext W W₃ := hEW2.trans hE3
    have hc4 : ∀ j, j < 3 → W₄.Has W₁.next j ([Value.int .i64 (L : Nat), .slice (some ⟨bN, 0, none⟩) n 3, .slice (some ⟨bG, 0, none⟩) n 3].getD j undef) := fun j hj => ⟨by omega, by
      simp only [AW.cell, hs4, blt_dec, hj, decide_true]
      rw [Tr.get_lay]
      match j, hj with
      | 0, _ => rfl
      | 1, _ => rfl
      | 2, _ => rfl⟩
    refine ⟨rfl, rfl, by simp, by simp, ⟨by have := hEW3.1; omega, fun b hb _ => ?_⟩, by omega, L, n, bN, bG, nx, gd, hL1, hL4, hn1, hn12, hc4, ⟨_, hs4⟩, ?_, ?_, hnx⟩
    · rw [hs3 b (by have := hE1.1; omega)]; exact hEW3.2 b hb (fun x => x)
    · intro s hs
      obtain ⟨r, ro, c, q1, q2, q3⟩ := hR s hs
      exact ⟨r, ro, c, q2.only hO (by omega), fun i hi => (q3 i hi).only hO (by omega)⟩
    · exact fun s hs => (hGd s hs).only hO (by omega)
  · rintro ⟨t, m, ds⟩ W' ⟨hm, hd, h1, h5, hE, hlt, L, n, bN, bG, nx, gd, hL1, hL4, hn1, hn12, hc, hat', hR, hGd, hnx⟩
    simp only at hm hd h1 h5
    subst hm; subst hd
    have hl5 : ∀ W2, Ext W' W2 → aLoadVar T0 W2 25 W₁.next 0 = some (autoV L n bN 0 3 bG 0 3) := fun W2 h => by
      refine load25 (cellsAt_of_cells rfl ?_ (fun j hj => ?_) (by omega))
      · obtain ⟨k, hk⟩ := hat'
        exact ⟨k, by rw [h.2 _ hlt (fun x => x)]; exact hk⟩
      · rw [Nat.zero_add, ((hc j hj).ext h).2]
        match j, hj with
        | 0, _ => rfl
        | 1, _ => rfl
        | 2, _ => rfl
    have hlL : ∀ W2, Ext W' W2 → aLoadVar T0 W2 3 W₁.next 0 = some (.int .i64 L) := fun W2 h => by rw [loadVar_cell und3 rfl]; exact ((hc 0 (by omega)).ext h).2
    try simp only [wpK_assoc]
    refine wpK_reg (fun R hR => by simp; exact hR) ?_
    refine wpK_while (I := fun k A W2 => Ext W' W2 ∧ A.n = 52 ∧ A.defers = [] ∧ A.tmps.get 5 = some (.pointer (some ⟨W₁.next, 0, none⟩)) ∧ ∃ (i : Nat) (u : ByteArray), k = 2 - i ∧ i ≤ 2 ∧ A.tmps.get 6 = some (.int .i64 i) ∧ A.tmps.get 1 = some (.string u) ∧ u.data.toList.length < 9223372036854775808)
      (J := fun A W2 => Ext W' W2 ∧ A.n = 52 ∧ A.defers = [])
      (Rt := fun _ _ => False) (k := 2) ?_ ?_ ?_ ?_
    · exact ⟨.refl _ _, rfl, rfl, by simp [h5], 0, w, by omega, by omega, by simp, by simp [h1], hw⟩
    · rintro k ⟨t, m, ds⟩ W2 ⟨hE2', hm, hd, h5, i, u, hk, hi, h6, h1, hu⟩ Q' hJ hRt hI
      simp only at hm hd h5 h6 h1
      subst hm; subst hd
      try simp only [wpK_assoc]
      by_cases hi2 : i < 2
      case neg =>
        have hi3 : ¬ ((i : Int) < 2) := by omega
        refine wpK_reg (fun R hR => by simp [h6, hi3]; exact hR) ?_
        exact wpK_out (by simp) (hJ _ _ ⟨hE2', rfl, rfl⟩)
      have hi3 : (i : Int) < 2 := by omega
      refine wpK_reg (fun R hR => by simp [h6, hi3]; exact hR) ?_
      refine wpK_onT (by simp) ?_
      refine wpK_block ?_
      generalize hul : u.data.toList = ul at hu
      try simp only [wpK_assoc]
      -- the program's answer
      refine wpK_regc (J := fun A W3 => Ext W' W3 ∧ A.n = 52 ∧ A.defers = [] ∧ A.tmps.get 5 = some (.pointer (some ⟨W₁.next, 0, none⟩)) ∧ A.tmps.get 6 = some (.int .i64 i) ∧ A.tmps.get 1 = some (.string u) ∧
        A.tmps.get 7 = some (.bool (if wordErr L ul = 0 then gd (runN nx 0 ul) else false)) ∧ A.tmps.get 8 = some (.int .i64 (wordErr L ul))) (fun R hR' => ?_) ?_
      · simp [h5, hl5 W2 hE2', aEnter, fun8, short_other, aCallV]
        rw [callS_none]
        refine (give_wp L n bN 0 3 bG 0 3 W2).mono ?_
        rintro v W3 ⟨hE3, rfl⟩
        simp [h1, aEnter, fun7, short_other, aCallV]
        rw [callS_none]
        refine (accepts_wp L n bN 0 3 bG 0 3 nx gd u ul hul hu W3 ((hR.ext hE2').ext hE3) ((hGd.ext hE2').ext hE3) hL1 hL4 hn1 (by omega) hnx).mono ?_
        rintro v W4 ⟨hE4, rfl⟩
        simp [opExtract, aExtract]
        apply hR'
        exact ⟨(hE2'.trans hE3).trans hE4, rfl, rfl, by simp [h5], by simp [h6], by simp [h1], by simp, by simp⟩
      rintro ⟨t, m, ds⟩ W3 ⟨hE3, hm, hd, h5, h6, h1, h7, h8⟩
      simp only at hm hd h5 h6 h1 h7 h8
      subst hm; subst hd
      try simp only [wpK_assoc]
      -- the reference's
      refine wpK_regc (J := fun A W4 => Ext W' W4 ∧ A.n = 52 ∧ A.defers = [] ∧ A.tmps.get 5 = some (.pointer (some ⟨W₁.next, 0, none⟩)) ∧ A.tmps.get 6 = some (.int .i64 i) ∧ A.tmps.get 1 = some (.string u) ∧
        A.tmps.get 7 = some (.bool (if wordErr L ul = 0 then gd (runN nx 0 ul) else false)) ∧ A.tmps.get 8 = some (.int .i64 (wordErr L ul)) ∧ A.tmps.get 9 = some (.int .i64 (wordErr L ul))) (fun R hR' => ?_) ?_
      · simp [h1, h5, hlL W3 hE3, aEnter, fun9, short_other, aCallV]
        rw [callS_none]
        refine (refWord_wp L u (by rw [hul]; exact hu) W3).mono ?_
        rintro v W4 ⟨rfl, rfl⟩
        simp [hul]
        apply hR'
        exact ⟨hE3, rfl, rfl, by simp [h5], by simp [h6], by simp [h1], by simp [h7], by simp [h8], by simp⟩
      rintro ⟨t, m, ds⟩ W4 ⟨hE4, hm, hd, h5, h6, h1, h7, h8, h9⟩
      simp only at hm hd h5 h6 h1 h7 h8 h9
      subst hm; subst hd
      try simp only [wpK_assoc]
      refine wpK_reg (fun R hR => by simp [h9]; exact hR) ?_
      by_cases he : wordErr L ul = 0
      · refine wpK_condF (by simp [he]) ?_
        have hw0 : ∀ c ∈ ul, badB L c = false := by
          intro c hc
          unfold wordErr at he
          split at he
          · cases he
          · rename_i h0
            have := List.any_eq_false.1 (Bool.eq_false_iff.2 h0) c hc
            simpa using this
        have hrun : runN nx 0 ul < n := by
          have : ∀ (l : List UInt8) (s : Nat), s < n → (∀ c ∈ l, badB L c = false) → runN nx s l < n := by
            intro l
            induction l with
            | nil => intro s hs _; exact hs
            | cons c l ih =>
              intro s hs hb
              have hc := hb c (List.mem_cons_self ..)
              simp only [badB, Bool.or_eq_false_iff, decide_eq_false_iff_not] at hc
              exact ih _ (hnx _ _ hs (by omega)) (fun d hd => hb d (List.mem_cons_of_mem _ hd))
          exact this ul 0 (by omega) hw0
        simp only [he, if_true] at h7 h8
        try simp only [wpK_assoc]
        refine wpK_regc (J := fun A W5 => Ext W' W5 ∧ A.n = 52 ∧ A.defers = [] ∧ A.tmps.get 5 = some (.pointer (some ⟨W₁.next, 0, none⟩)) ∧ A.tmps.get 6 = some (.int .i64 i) ∧ A.tmps.get 1 = some (.string u) ∧ A.tmps.get 46 = some (.bool false)) (fun R hR' => ?_) ?_
        · simp [h1, h5, h7, h8, hl5 W4 hE4, aEnter, fun10, short_other, aCallV]
          rw [callS_none]
          refine (refAccepts_wp L n bN 0 3 bG 0 3 nx gd u ul hul hu W4 (hR.ext hE4) (hGd.ext hE4) (by omega) hnx hw0 hrun).mono ?_
          rintro v W5 ⟨hE5, rfl⟩
          simp [bool_ne, aGuard, aBinO, aEq]
          apply hR'
          exact ⟨hE4.trans hE5, rfl, rfl, by simp [h5], by simp [h6], by simp [h1], by simp⟩
        rintro ⟨t, m, ds⟩ W5 ⟨hE5, hm, hd, h5, h6, h1, h46⟩
        simp only at hm hd h5 h6 h1 h46
        subst hm; subst hd
        refine wpK_endF (by simp [h46]) (wpK_skip ?_)
        refine wpK_regc1 (J := fun A W6 => Ext W' W6 ∧ A.n = 52 ∧ A.defers = [] ∧ A.tmps.get 5 = some (.pointer (some ⟨W₁.next, 0, none⟩)) ∧ A.tmps.get 6 = some (.int .i64 i) ∧ ∃ u' : ByteArray, A.tmps.get 1 = some (.string u') ∧ u'.data.toList.length ≤ 60) (fun R hR' => ?_) ?_
        · simp [h1, h5, hlL W5 hE5, aEnter, fun11, short_other, aCallV]
          rw [callS_none]
          refine (text_wp L hL1 hL4 u ul hul hu W5).mono ?_
          rintro v W6 ⟨hE6, u', rfl, hu'⟩
          simp
          apply hR'
          exact ⟨hE5.trans hE6, rfl, rfl, by simp [h5], by simp [h6], u', by simp, hu'⟩
        rintro ⟨t, m, ds⟩ W6 ⟨hE6, hm, hd, h5, h6, u', h1, hu'⟩
        simp only at hm hd h5 h6 h1
        subst hm; subst hd
        refine wpK_reg1 (fun R hR => by simp [h6]; exact hR) ?_
        exact hI (k - 1) _ _ (by omega) ⟨hE6, rfl, rfl, by simp [h5], i + 1, u', by omega, by omega, by simp; exact i64_succ i (by omega), by simp [h1], by omega⟩
      · refine wpK_condT (by simp [he]) ?_
        simp only [he, if_false] at h7
        try simp only [wpK_assoc]
        refine wpK_reg (fun R hR => by simp [h7, h8, h9]; exact hR) ?_
        refine wpK_endF (by simp) (wpK_skip ?_)
        refine wpK_regc1 (J := fun A W6 => Ext W' W6 ∧ A.n = 52 ∧ A.defers = [] ∧ A.tmps.get 5 = some (.pointer (some ⟨W₁.next, 0, none⟩)) ∧ A.tmps.get 6 = some (.int .i64 i) ∧ ∃ u' : ByteArray, A.tmps.get 1 = some (.string u') ∧ u'.data.toList.length ≤ 60) (fun R hR' => ?_) ?_
        · simp [h1, h5, hlL W4 hE4, aEnter, fun11, short_other, aCallV]
          rw [callS_none]
          refine (text_wp L hL1 hL4 u ul hul hu W4).mono ?_
          rintro v W6 ⟨hE6, u', rfl, hu'⟩
          simp
          apply hR'
          exact ⟨hE4.trans hE6, rfl, rfl, by simp [h5], by simp [h6], u', by simp, hu'⟩
        rintro ⟨t, m, ds⟩ W6 ⟨hE6, hm, hd, h5, h6, u', h1, hu'⟩
        simp only at hm hd h5 h6 h1
        subst hm; subst hd
        refine wpK_reg1 (fun R hR => by simp [h6]; exact hR) ?_
        exact hI (k - 1) _ _ (by omega) ⟨hE6, rfl, rfl, by simp [h5], i + 1, u', by omega, by omega, by simp; exact i64_succ i (by omega), by simp [h1], by omega⟩
    · rintro A' W2 h; exact h.elim
    · rintro ⟨t, m, ds⟩ W2 ⟨hE2', hm, hd⟩
      simp only at hm hd
      subst hm; subst hd
      try simp only [wpK_assoc]
      refine wpK_reg (fun R hR => by simp [aEnter, fun12, short_awake, aCallV]; exact hR) ?_
      exact wpK_ret ⟨.inr rfl, rfl, [.bool true], by simp, hE.trans hE2', rfl⟩
end Go.Proofs.Ytfpakfidfmjfhaa
