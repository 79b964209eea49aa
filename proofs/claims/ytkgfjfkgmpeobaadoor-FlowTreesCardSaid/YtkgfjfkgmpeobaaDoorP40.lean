import Derived.Test.YtkgfjfkgmpeobaaDoorP39
import Derived.Test.YtkgfjfkgmpeobaaDoorEngRe
set_option linter.unusedSimpArgs false
set_option linter.unusedVariables false
set_option linter.unusedSectionVars false
open Go Go.Eng
namespace Go.Proofs.YtkgfjfkgmpeobaaDoor
attribute [local congr] undef_congr WpK.congr WpS.congr WpL.congr WpC.congr WpF.congr gotS.congr callS.congr nextS.congr wantS.congr condS.congr
attribute [local irreducible] WpK
attribute [local simp] WpDr_nil WpDr_cons atS_some dwantS_true dwantS_false kindS_light kindS_float kindS_heavy lightS_value floatS_some heavyS_value heavyS_skip heavyS_enter dcallS_some doneS_eq
  isLight isFloat isPlain dLook testBit_dec dChain dLights_nil dLights_skip dLights_one dLight_nil dLight_cons dFreshes_nil dFreshes_one oneF_none oneF_some dFresh_nil dFresh_cons oneL_some oneW_true oneW_false sameV_value dPut dMay valEq arrEq listEq List.getElem?_cons Tr.get_nil dEnd
attribute [local simp] WpS_nil WpS_cons isDefer undef_false wantS_true wantS_false nextS_value nextS_skip nextS_enter callS_some gotS_some aWanted aOp aEvalF aEval opMove opAssign opPick aVal flat flat1 AAct.put opBinOp opConvert opIndex Tr.get_set Tr.get_lay aBin aResults tupled
  aCall aVals aCallB blt_dec ble_dec beq_dec aBinI_add aBinI_sub aBinI_lss aBinI_leq aBinI_gtr aBinI_geq aBinI_eql aBinI_neq index_str len_str len_slice Nat.beq_refl und2 und3 und4 und5 und39 und76 und82 und115 und22 und29 und25 und33 und46 und43 und49 und111 und113 field151 field155_0 field155_1 field155_2 field155_3 field155_4
  field78 field106 field24 field31 field27 field35 field108 field109 opBox opLoad opFieldAddr opIndexAddr acells aAddr opExtract aExtract opUnOp opAlloc opStore opMakeInterface opNilCheck opBuild aParts opBuildSlice aValW
set_option maxHeartbeats 4000000
set_option linter.unusedSimpArgs false
set_option linter.unusedVariables false
theorem wpK_range2 {T : Tabs} {f₀ : FuncId} {A : AAct} {W : AW} {Q : AExit → AAct → AW → Prop} {id : Nat} {b : Code} {g : Operand} {ps : Array Tmp} {asn bd : Code} {f : FuncId} {first cap : Array Value} {fn : Func}
    (hg : aEval T A.tmps g = some (.func (.func f) first cap)) (hf : T.funcs.get f = some fn)
    (h : ∀ W5 : AW, W5.next = W.next + 2 → (∀ b, b < W.next → W5.blocks.get b = W.blocks.get b) → W5.blocks.get W.next = some ⟨.deferred (some []), []⟩ → W5.blocks.get (W.next + 1) = some ⟨.loop .ready none f₀ A.tmps A.n ps asn bd W.next, []⟩ →
      WpF T f (first.toList ++ .func (.yield (W.next + 1)) #[] #[] :: cap.toList) W5 (fun _ W₂ =>
      ∃ st p fn' t' n' ps' as' bd' df', W₂.blocks.get (W.next + 1) = some ⟨.loop st p fn' t' n' ps' as' bd' df', []⟩ ∧ st ≠ .busy ∧
        goOn (leaves id (behind Q fun A' W' => WpK T ⟨f₀, none⟩ b A' W' Q)) { A with defers := { target := .collected W.next, args := #[] } :: A.defers } (W₂.setObj (W.next + 1) (.loop .exhausted p fn' t' n' ps' as' bd' df')) p)) :
    WpK T ⟨f₀, none⟩ (.seq (.block id (.rangeFunc g ps asn bd)) b) A W Q := by
  try simp only [wpK_assoc]
  refine wpK_range hg hf (h _ rfl (fun b hb => ?_) ?_ ?_)
  · simp only [AW.beforeLoop, AW.new, Tr.get_set]; rw [if_neg (by omega), if_neg (by omega)]
  · simp only [AW.beforeLoop, AW.new, Tr.get_set]; rw [if_neg (by omega), if_true]
  · simp only [AW.beforeLoop, AW.new, Tr.get_set]; rw [if_true]
theorem setObj_get (W : AW) (r : Nat) (o : AObj) (b : Nat) : (W.setObj r o).blocks.get b = if b = r then some ⟨o, []⟩ else W.blocks.get b := by
  simp only [AW.setObj, Tr.get_set]
theorem setObj_next (W : AW) (r : Nat) (o : AObj) : (W.setObj r o).next = W.next := rfl
theorem setObj_only (W : AW) (r : Nat) (o : AObj) : Only (fun b => b = r) W (W.setObj r o) := ⟨Nat.le_refl _, fun b _ hb => by rw [setObj_get, if_neg hb]⟩
def dropLow (x : Nat) : Nat := x &&& (x - 1)
theorem dropLow_bit {x k : Nat} (h1 : x.testBit k = true) (h2 : ∀ j, j < k → x.testBit j = false) (i : Nat) : (dropLow x).testBit i = (x.testBit i && decide (i ≠ k)) := by
  rw [dropLow, Nat.testBit_and, pred_bits h1 h2]
  by_cases hlt : i < k
  · rw [if_pos hlt, h2 i hlt]; rfl
  · rw [if_neg hlt]
    by_cases e : i = k
    · subst e; simp
    · rw [if_neg e]; simp [-testBit_dec, e]
theorem dropLow_lt {x : Nat} (h : x ≠ 0) : dropLow x < x := by
  have := Nat.and_le_right (n := x) (m := x - 1)
  unfold dropLow; omega
theorem memb_empty : ∀ (P s : Nat), (∀ j, j < P → s.testBit j = false) → memb P s = []
  | 0, _, _ => by simp [memb]
  | P + 1, s, h => by rw [memb_succ, memb_empty P s (fun j hj => h j (by omega)), h P (by omega)]; rfl
theorem memb_low {x k : Nat} (h1 : x.testBit k = true) (h2 : ∀ j, j < k → x.testBit j = false) : ∀ P, memb P x = (if k < P then [(k : Int)] else []) ++ memb P (dropLow x)
  | 0 => by simp [memb]
  | P + 1 => by
    rw [memb_succ, memb_succ, memb_low h1 h2 P, dropLow_bit h1 h2]
    by_cases e1 : P < k
    · rw [h2 P e1]
      simp only [Bool.false_and, Bool.false_eq_true, if_false, List.append_nil, if_neg (show ¬ k < P by omega), if_neg (show ¬ k < P + 1 by omega)]
    · by_cases e2 : P = k
      · subst e2
        rw [h1, memb_empty P (dropLow x) (fun j hj => by rw [dropLow_bit h1 h2, h2 j hj]; rfl)]
        simp
      · have : decide (P ≠ k) = true := by simp [e2]
        rw [this, Bool.and_true]
        simp only [if_pos (show k < P by omega), if_pos (show k < P + 1 by omega), List.append_assoc]
theorem places1_wp {l bx x : Nat} (C : Nat → AW → Prop) (hx : x < 18446744073709551616)
    (hC : ∀ left k W, C left W → left < 18446744073709551616 → left.testBit k = true → (∀ j, j < k → left.testBit j = false) → tabsIn T0 T0.tabs W = true ∧ ∃ st pd fn t n ps asn bd df kin t', W.blocks.get l = some ⟨.loop st pd fn t n ps asn bd df, kin⟩ ∧ aSetAll t n ps.toList [.int .i64 (k : Nat)] = some t' ∧
      WpR T0 l fn t' n asn bd W (fun v W' => v = .bool true ∧ C (dropLow left) W'))
    {W : AW} (h0 : C x W) (hb : W.Has bx 0 (.int .u64 (x : Nat))) : WpF T0 81 [.func (.yield l) #[] #[], .pointer (some ⟨bx, 0, none⟩)] W (fun _ W' => C 0 W') := by
  have hl := load_of und115 rfl hb
  refine wpF fun81 rfl ?_
  try simp only [wpK_assoc]
  refine wpK_reg (fun R hR => by simp [hl]; exact hR) ?_
  try simp only [wpK_assoc]
  refine wpK_while1 (I := fun k A W' => A.n = 16 ∧ A.defers = [] ∧ A.tmps.get 0 = some (.func (.yield l) #[] #[]) ∧ A.tmps.get 3 = some (.int .u64 (k : Nat)) ∧ k < 18446744073709551616 ∧ C k W')
    (J := fun A W' => A.defers = [] ∧ C 0 W') (Rt := fun _ _ => False) (k := x) ?_ ?_ ?_ ?_
  · exact ⟨rfl, rfl, by simp, by simp, hx, h0⟩
  · rintro k ⟨tm, n, ds⟩ W3 ⟨hn, hd, h0, h3, hk, hCk⟩ Q' hJ hRt hI
    simp only at hn hd h0
    subst hn; subst hd
    simp only at h3
    by_cases hz : k = 0
    · subst hz
      try simp only [wpK_assoc]
      refine wpK_reg (fun R hR => by simp [h3]; exact hR) ?_
      try simp only [wpK_assoc]
      first | refine wpK_onF (by simp []) ?_ | refine wpK_out (by simp []) ?_ | refine wpK_condF (by simp []) ?_ | refine wpK_endF (by simp []) (wpK_skip ?_) | refine wpK_endF (by simp []) ?_
      exact hJ _ _ ⟨rfl, hCk⟩
    have hz' : ¬ (k : Int) = 0 := by omega
    try simp only [wpK_assoc]
    refine wpK_reg (fun R hR => by simp [h3, hz', hz]; exact hR) ?_
    try simp only [wpK_assoc]
    first | refine wpK_onT (by simp []) ?_ | refine wpK_outT (by simp []) ?_ | refine wpK_condT (by simp []) ?_ | refine wpK_endT (by simp []) ?_
    obtain ⟨q, hq1, hq2⟩ := low_ex hz
    obtain ⟨hT, st, pd, fn, t', n', ps, asn, bd, df, kin, tt, hy1, hy2, hy3⟩ := hC k q W3 hCk hk hq1 hq2
    refine wpK_block ?_
    try simp only [wpK_assoc]
    refine wpK_x0 (fun R hR => by
      simp [h0, h3, aEnter, fun75, short_other, aCallV]; rw [callS_none]
      refine (first_wp hT hk hq1 hq2).mono ?_
      rintro _ W9 ⟨e9, rfl⟩; subst W9
      simp [aEnter, hy1, hy2, aCallV, nextS_round]
      refine hy3.mono ?_
      rintro _ W4 ⟨rfl, hC4⟩
      simp; exact hR W4 hC4) ?_
    rintro W4 hC4
    try simp only [wpK_assoc]
    first | refine wpK_onF (by simp []) ?_ | refine wpK_out (by simp []) ?_ | refine wpK_condF (by simp []) ?_ | refine wpK_endF (by simp []) (wpK_skip ?_) | refine wpK_endF (by simp []) ?_
    have w1 : IntKind.u64.wrap ((k : Int) - 1) = ((k - 1 : Nat) : Int) := by
      have : ((k : Int) - 1) = ((k - 1 : Nat) : Int) := by omega
      rw [this]; exact wrap_nat .u64 _ (by show k - 1 < 18446744073709551616; omega)
    have hand := aBinI_and .u64 k (k - 1) (by show k < 18446744073709551616; omega) (by show k - 1 < 18446744073709551616; omega)
    have hlt := dropLow_lt hz
    try simp only [wpK_assoc]
    refine wpK_reg1 (fun R hR => by simp [h3, w1, hand]; exact hR) ?_
    exact hI (dropLow k) _ _ hlt ⟨rfl, rfl, by simp [h0], by simp; rfl, by omega, hC4⟩
  · rintro A' W' hf; exact hf.elim
  · rintro A' W' ⟨h1, h2⟩
    exact ⟨.inl rfl, h1, [], by rfl, h2⟩
theorem zero46 : aZero T0 46 = some (.slice none 0 0) := by kernel_rfl
theorem places_wp {W : AW} (x : Nat) : WpF T0 66 [.int .u64 (x : Nat)] W (fun v W' => Ext W W' ∧ v = .func (.func 81) ⟨[]⟩ ⟨[.pointer (some ⟨W.next, 0, none⟩)]⟩ ∧ W'.Has W.next 0 (.int .u64 (x : Nat))) := by
  refine wpF fun66 rfl ?_
  try simp only [wpK_assoc]
  refine wpK_reg (fun R hR => by simp []; exact hR) ?_
  try simp only [wpK_assoc]
  refine wpK_reg (fun R hR => by simp [opMakeFunc]; exact hR) ?_
  exact wpK_ret ⟨.inr rfl, rfl, [.func (.func 81) ⟨[]⟩ ⟨[.pointer (some ⟨W.next, 0, none⟩)]⟩], by simp, .newCells _ _ _, rfl, (Var.new W 115 [.int .u64 (x : Nat)]).has rfl⟩
theorem list_wp {W : AW} {x : Nat} (hx : x < 16777216) (hT : tabsIn T0 T0.tabs W = true) (h0 : 0 < W.next) :
    WpF T0 58 [.int .u64 (x : Nat)] W (fun v W' => Ext W W' ∧ GrowsN W' v (memb 24 x).length (intsV (memb 24 x)) 3 1 (fun b => W.next ≤ b)) := by
  refine wpFd fun58 rfl ?_
  obtain ⟨W1, hW1, hE1, hn1, hV1⟩ : ∃ W1, W1 = W.newCells 46 [.slice none 0 0] ∧ Ext W W1 ∧ W1.next = W.next + 1 ∧ Var W1 W.next 46 [.slice none 0 0] := ⟨_, rfl, .newCells _ _ _, rfl, Var.new _ _ _⟩
  try simp only [wpK_assoc]
  refine wpK_reg (fun R hR => by simp []; exact hR) ?_
  try simp only [wpK_assoc]
  refine wpK_reg (fun R hR => by simp [zero46, ← hW1]; exact hR) ?_
  try simp only [wpK_assoc]
  refine wpK_x0 (fun R hR => by
      simp [aEnter, fun66, short_other, aCallV]; rw [callS_none]
      refine (places_wp x).mono ?_
      rintro _ W2 ⟨hE2, rfl, hB2⟩
      simp []; exact hR W2 (And.intro hE2 hB2)) ?_
  rintro W2 ⟨hE2, hB2⟩
  refine wpK_keep (fun tm' => tm'.get 3 = some (.pointer (some ⟨W.next, 0, none⟩)) ∧ tm'.get 6 = some (.func (.func 81) ⟨[]⟩ ⟨[.pointer (some ⟨W1.next, 0, none⟩)]⟩)) ⟨by simp, by simp⟩ ?_
  rintro tm ⟨h3, h6⟩
  have n2 := hE2.1
  refine wpK_range2 (f := 81) (first := ⟨[]⟩) (cap := ⟨[.pointer (some ⟨W1.next, 0, none⟩)]⟩) (by simp [h6]) fun81 (fun W5 hn5 hW5 hdf hlp => ?_)
  have hE25 : Ext W2 W5 := ⟨by omega, fun b hb _ => hW5 b hb⟩
  have hV5 := (hV1.ext hE2).ext hE25
  have hE5 : Ext W W5 := (hE1.trans hE2).trans hE25
  have hmw : (memb 24 x).length ≤ 24 := memb_len 24 x
  refine (places1_wp (l := W2.next + 1) (bx := W1.next) (x := x) (fun left W' => Ext W W' ∧ W5.next ≤ W'.next ∧ W'.blocks.get (W2.next + 1) = W5.blocks.get (W2.next + 1) ∧ W'.blocks.get W2.next = W5.blocks.get W2.next ∧ left < 16777216 ∧
    ∃ v l0, memb 24 x = l0 ++ memb 24 left ∧ Var W' W.next 46 [v] ∧ GrowsN W' v l0.length (intsV l0) 3 1 (fun b => W5.next ≤ b)) (by omega) (fun left k W' hC hl hb1 hb2 => ?_) ⟨hE5, Nat.le_refl _, rfl, rfl, hx, _, [], rfl, hV5, .nil _ _ _ _⟩ (hB2.ext hE25)).mono ?_
  · obtain ⟨c1, c2, c3, c4, c5, v, l0, c6, c7, c8⟩ := hC
    have hl := c3.trans hlp
    have hk24 : k < 24 := by
      apply Classical.byContradiction
      intro hk
      rw [Nat.testBit_lt_two_pow (Nat.lt_of_lt_of_le (show left < 2 ^ 24 from c5) (Nat.pow_le_pow_right (by omega) (by omega)))] at hb1
      cases hb1
    refine ⟨tabs_ext hT h0 c1, _, _, _, _, _, _, _, _, _, _, tm.set 7 (.int .i64 (k : Nat)), hl, rfl, ?_⟩
    refine wpR ?_
    try simp only [wpK_assoc]
    refine wpK_reg1 (fun R hR => by simp []; exact hR) ?_
    refine ⟨rfl, _, _, _, _, _, _, _, _, hl, ?_⟩
    generalize hbz : (AObj.loop LoopState.busy _ _ _ _ _ _ _ _) = bz
    obtain ⟨Wb, hWb, hOb, hnb⟩ : ∃ Wb, Wb = W'.setObj (W2.next + 1) bz ∧ Only (fun b => b = W2.next + 1) W' Wb ∧ Wb.next = W'.next := ⟨_, rfl, setObj_only _ _ _, rfl⟩
    rw [← hWb]
    have hlb : Wb.blocks.get (W2.next + 1) = some ⟨bz, []⟩ := by rw [hWb, setObj_get, if_pos rfl]
    have c7b := c7.only hOb (by omega)
    have c8b := c8.only hOb (fun b _ hb e => by omega)
    have hl0 : l0.length ≤ 24 := by
      have := congrArg List.length c6
      rw [List.length_append] at this; omega
    obtain ⟨v', Wc, Wd, a1, a2, a3, a4, a5, a6, a7⟩ := Var.push (T := T0) (t := 46) (el := 3) (i := Tryd.t3) (it := Tryd.t46) (sz := 1) (by omega) und46 inf3 is3 z3 rfl inf46 is46 c8b c7b (o := 0) (by omega) (by simp) (u := [.int .i64 (k : Nat)]) rfl rfl (by rw [by3]; omega) (by omega)
    have a1 : aAppend T0 (Wb.newCells 3 [.int .i64 (k : Nat)]) [46, 46] [v, .slice (some ⟨Wb.next, 0, none⟩) 1 2] = some (v', Wc) := a1
    have hld := c7b.load1 (T := T0) und46 rfl (j := 0) (v := v) rfl
    refine wpK_block1 ?_
    try simp only [wpK_assoc]
    refine wpK_reg1 (fun R hR => by simp [h3, hld, bs46, a1, a2]; exact hR) ?_
    simp only [leaves_normal]
    have hdl : Wd.blocks.get (W2.next + 1) = some ⟨bz, []⟩ := by rw [a7.2 _ (by omega) (by omega)]; exact hlb
    subst hbz
    refine ⟨_, _, _, _, _, _, _, _, _, hdl, rfl, ?_⟩
    have hOz := fun o => setObj_only Wd (W2.next + 1) o
    have hml := memb_low hb1 hb2 24
    rw [if_pos hk24] at hml
    refine ⟨⟨by rw [setObj_next]; have := c1.1; omega, fun b hb hk => ?_⟩, by rw [setObj_next]; omega, by rw [setObj_get, if_pos rfl]; exact hlp.symm, ?_, ?_, v', l0 ++ [(k : Int)], ?_, ?_, ?_⟩
    · rw [setObj_get, if_neg (by omega), a7.2 b (by have := c1.1; omega) (by omega), hOb.2 b (by have := c1.1; omega) (by omega)]
      exact c1.2 b hb hk
    · rw [setObj_get, if_neg (by omega), a7.2 _ (by omega) (by omega), hOb.2 _ (by omega) (by omega)]; exact c4
    · have := dropLow_lt (x := left) (fun e => by subst e; simp at hb1)
      omega
    · rw [c6, hml]; simp
    · exact (by simpa using a5 : Var Wd W.next 46 [v']).only (hOz _) (by omega)
    · have e1 : (l0 ++ [(k : Int)]).length = l0.length + 1 := by simp
      have e2 : intsV (l0 ++ [(k : Int)]) = intsV l0 ++ [.int .i64 (k : Nat)] := by simp [intsV]
      rw [e1, e2]
      exact (a6.only (K' := fun b => b = W2.next + 1) (hOz _) (fun b _ hb e => by omega)).mono (K' := fun b => W5.next ≤ b) (fun b hb => by omega)
  · rintro _ W6 ⟨c1, c2, c3, c4, c5, v, l0, c6, c7, c8⟩
    have hl6 := c3.trans hlp
    rw [memb_empty 24 0 (fun j _ => by simp), List.append_nil] at c6
    subst c6
    refine ⟨_, _, _, _, _, _, _, _, _, hl6, (fun h => by cases h), ?_⟩
    show WpK T0 ⟨58, none⟩ _ _ _ _
    generalize hex : (AObj.loop LoopState.exhausted _ _ _ _ _ _ _ _) = ex
    obtain ⟨W7, hW7, hO7, hn7⟩ : ∃ W7, W7 = W6.setObj (W2.next + 1) ex ∧ Only (fun b => b = W2.next + 1) W6 W7 ∧ W7.next = W6.next := ⟨_, rfl, setObj_only _ _ _, rfl⟩
    rw [← hW7]
    clear hW7 hex
    have c77 := c7.only hO7 (by omega)
    have hld := c77.load1 (T := T0) und46 rfl (j := 0) (v := v) rfl
    try simp only [wpK_assoc]
    refine wpK_reg (fun R hR => by simp [h3, hld]; exact hR) ?_
    have hdf7 : W7.blocks.get W2.next = some ⟨.deferred (some []), []⟩ := by rw [hO7.2 _ (by omega) (by omega), c4]; exact hdf
    refine wpK_ret ⟨.inr rfl, W7.setObj W2.next (.deferred none), ⟨W2.next, rfl, hdf7, rfl⟩, [v], by simp, ⟨by rw [setObj_next]; have := c1.1; omega, fun b hb hk => ?_⟩, ?_⟩
    · rw [setObj_get, if_neg (by omega), hO7.2 b (by have := c1.1; omega) (by omega)]; exact c1.2 b hb hk
    · exact ((c8.only hO7 (fun b _ hb e => by omega)).only (K' := fun b => b = W2.next) (setObj_only _ _ _) (fun b _ hb e => by omega)).mono (fun b hb => by omega)
def capL (T : Nat) (L : List Stp) (rm : Nat → Int) : Nat → Int
  | 0 => 0
  | i + 1 => capL T L rm i + (if T.testBit (stp L i).a && !T.testBit (stp L i).b then rm (2 * i) else 0) + (if T.testBit (stp L i).b && !T.testBit (stp L i).a then rm (2 * i + 1) else 0)
def sumT (T : Nat) (g : Nat → Int) : Nat → Int
  | 0 => 0
  | n + 1 => sumT T g n + (if T.testBit n then g n else 0)
theorem sumT_add (T : Nat) (g h : Nat → Int) : ∀ n, sumT T (fun q => g q + h q) n = sumT T g n + sumT T h n
  | 0 => rfl
  | n + 1 => by
    rw [sumT, sumT, sumT, sumT_add T g h n]
    split <;> omega
theorem sumT_congr {T : Nat} {g h : Nat → Int} : ∀ {n : Nat}, (∀ q, q < n → g q = h q) → sumT T g n = sumT T h n
  | 0, _ => rfl
  | n + 1, he => by
    rw [sumT, sumT, sumT_congr (fun q hq => he q (by omega)), he n (by omega)]
theorem sumT_zero (T : Nat) : ∀ n, sumT T (fun _ => 0) n = 0
  | 0 => rfl
  | n + 1 => by rw [sumT, sumT_zero T n]; split <;> rfl
theorem sumT_one (T a : Nat) (f : Int) : ∀ n, sumT T (fun q => if a = q then f else 0) n = if a < n && T.testBit a then f else 0
  | 0 => by simp [sumT]
  | n + 1 => by
    rw [sumT, sumT_one T a f n]
    by_cases e : a = n
    · subst e
      cases T.testBit a <;> simp
    · have e1 : (a < n + 1) = (a < n) := propext ⟨fun _ => by omega, fun _ => by omega⟩
      simp only [e1, if_neg e]
      split <;> split <;> simp
def inner (T : Nat) (L : List Stp) (rm : Nat → Int) : Nat → Int
  | 0 => 0
  | i + 1 => inner T L rm i + (if T.testBit (stp L i).a && T.testBit (stp L i).b then rm (2 * i) + rm (2 * i + 1) else 0)
theorem sum_out {T : Nat} {L : List Stp} {rm : Nat → Int} (hL : StpsOk L) : ∀ i, i ≤ L.length → sumT T (fun q => outN L rm q i) 24 = capL T L rm i + inner T L rm i
  | 0, _ => by
    have : (fun q => outN L rm q 0) = fun _ => 0 := rfl
    rw [this, sumT_zero]; rfl
  | i + 1, hi => by
    have h1 := hL.ok i (by omega)
    have e : sumT T (fun q => outN L rm q (i + 1)) 24 = sumT T (fun q => outN L rm q i) 24 + sumT T (fun q => if (stp L i).a = q then rm (2 * i) else 0) 24 + sumT T (fun q => if (stp L i).b = q then rm (2 * i + 1) else 0) 24 := by
      rw [← sumT_add, ← sumT_add]
      refine sumT_congr (fun q _ => ?_)
      rw [outN, Int.add_assoc]
    rw [e, sum_out hL i (by omega), sumT_one, sumT_one, capL, inner]
    have e1 : decide ((stp L i).a < 24) = true := decide_eq_true h1.1
    have e2 : decide ((stp L i).b < 24) = true := decide_eq_true h1.2.1
    rw [e1, e2]
    cases T.testBit (stp L i).a <;> cases T.testBit (stp L i).b <;> simp <;> omega
theorem inner_congr {T : Nat} {L : List Stp} {rm rm' : Nat → Int} : ∀ {i : Nat}, (∀ y, y < i → rm (2 * y) + rm (2 * y + 1) = rm' (2 * y) + rm' (2 * y + 1)) → inner T L rm i = inner T L rm' i
  | 0, _ => rfl
  | i + 1, h => by rw [inner, inner, inner_congr (fun y hy => h y (by omega)), h i (by omega)]
theorem capL_nn {T : Nat} {L : List Stp} {rm : Nat → Int} : ∀ {i : Nat}, (∀ y, y < 2 * i → 0 ≤ rm y) → 0 ≤ capL T L rm i
  | 0, _ => by simp [capL]
  | i + 1, h => by
    have h1 := capL_nn (T := T) (L := L) (rm := rm) (i := i) (fun y hy => h y (by omega))
    have h2 := h (2 * i) (by omega)
    have h3 := h (2 * i + 1) (by omega)
    rw [capL]; split <;> split <;> omega
theorem capL_zero {T : Nat} {L : List Stp} {rm : Nat → Int} : ∀ {i : Nat}, (∀ y, y < 2 * i → 0 ≤ rm y) → (capL T L rm i = 0 ↔ ∀ y, y < 2 * i → T.testBit (hFrom L y) = true → T.testBit (hTo L y) = false → rm y = 0)
  | 0, _ => by simp [capL]
  | i + 1, h => by
    have h0 := capL_nn (T := T) (L := L) (rm := rm) (i := i) (fun y hy => h y (by omega))
    have h1 := capL_zero (T := T) (L := L) (rm := rm) (i := i) (fun y hy => h y (by omega))
    have h2 := h (2 * i) (by omega)
    have h3 := h (2 * i + 1) (by omega)
    have g1 : hFrom L (2 * i) = (stp L i).a := by unfold hFrom; rw [if_pos (by omega), show 2 * i / 2 = i from by omega]
    have g2 : hFrom L (2 * i + 1) = (stp L i).b := by unfold hFrom; rw [if_neg (by omega), show (2 * i + 1) / 2 = i from by omega]
    have g3 : hTo L (2 * i) = (stp L i).b := by unfold hTo; rw [if_pos (by omega), show 2 * i / 2 = i from by omega]
    have g4 : hTo L (2 * i + 1) = (stp L i).a := by unfold hTo; rw [if_neg (by omega), show (2 * i + 1) / 2 = i from by omega]
    rw [capL]
    constructor
    · intro he y hy hf ht
      have hz : capL T L rm i = 0 := by split at he <;> split at he <;> omega
      by_cases e1 : y = 2 * i
      · subst e1; rw [g1] at hf; rw [g3] at ht; rw [hf, ht] at he; simp at he; omega
      · by_cases e2 : y = 2 * i + 1
        · subst e2; rw [g2] at hf; rw [g4] at ht; rw [hf, ht] at he; simp at he; omega
        · exact h1.1 hz y (by omega) hf ht
    · intro hall
      rw [h1.2 (fun y hy => hall y (by omega))]
      have q1 := hall (2 * i) (by omega)
      have q2 := hall (2 * i + 1) (by omega)
      rw [g1, g3] at q1
      rw [g2, g4] at q2
      cases ha : T.testBit (stp L i).a <;> cases hb : T.testBit (stp L i).b <;> simp [-testBit_dec, ha, hb] at q1 q2 ⊢ <;> omega
theorem flip_two (i : Nat) : flip (2 * i) = 2 * i + 1 := by unfold flip; rw [if_pos (by omega)]
theorem cut_gone {L : List Stp} {s t T : Nat} {rm rm' : Nat → Int} {x : Int} (hL : StpsOk L) (hs : s < 24) (ht : t < 24) (hR : Rooms L rm) (hR' : Rooms L rm') (hG : Gone L s t rm rm' x) (h1 : T.testBit s = true) (h2 : T.testBit t = false) :
    capL T L rm' L.length = capL T L rm L.length - x := by
  have e1 := sum_out (T := T) (rm := rm) hL L.length (Nat.le_refl _)
  have e2 := sum_out (T := T) (rm := rm') hL L.length (Nat.le_refl _)
  have e3 : inner T L rm' L.length = inner T L rm L.length := inner_congr (fun y hy => by
    have a := hR'.sum (2 * y) (by omega)
    have b := hR.sum (2 * y) (by omega)
    rw [flip_two] at a b
    omega)
  have e4 : sumT T (fun q => outN L rm' q L.length) 24 = sumT T (fun q => outN L rm q L.length) 24 + sumT T (fun q => if s = q then -x else 0) 24 + sumT T (fun q => if t = q then x else 0) 24 := by
    rw [← sumT_add, ← sumT_add]
    refine sumT_congr (fun q _ => ?_)
    rw [hG q]; split <;> split <;> omega
  rw [sumT_one, sumT_one, h1, h2] at e4
  simp [hs, ht] at e4
  omega
theorem Filled.cuts {L : List Stp} {s t : Nat} {rm rm' : Nat → Int} {x : Int} {lv : Nat → Nat} (h : Filled L s t rm x rm' lv) (hL : StpsOk L) (hs : s < 24) (ht : t < 24) (hR : Rooms L rm) :
    (∀ T, T.testBit s = true → T.testBit t = false → x ≤ capL T L rm L.length ∧ (x = capL T L rm L.length → ∀ q, q < 24 → 0 < lv q → T.testBit q = true)) ∧ x = capL (nearS lv 24) L rm L.length ∧ (nearS lv 24).testBit s = true ∧ (nearS lv 24).testBit t = false := by
  have hnn := fun (i : Nat) (hi : i = L.length) y (hy : y < 2 * i) => h.rooms.nn y (by omega)
  have hn := hnn L.length rfl
  have n1 : (nearS lv 24).testBit s = true := by rw [nearS_bit, h.lev.src]; simp [hs]
  have n2 : (nearS lv 24).testBit t = false := by rw [nearS_bit, h.snk]; simp
  refine ⟨fun T h1 h2 => ?_, ?_, n1, n2⟩
  · have hc := cut_gone hL hs ht hR h.rooms h.gone h1 h2
    have h0 := capL_nn (T := T) (L := L) hn
    refine ⟨by omega, fun he => ?_⟩
    have hz := (capL_zero (T := T) (L := L) hn).1 (by omega)
    have key : ∀ n q, q < 24 → 0 < lv q → lv q ≤ n → T.testBit q = true := by
      intro n
      induction n with
      | zero => intro q _ h3 h4; omega
      | succ n ih =>
        intro q hq h3 h4
        rcases h.lev.pre q hq h3 with rfl | ⟨y, hy, hto, hr, hf1, hf2⟩
        · exact h1
        · have hb := (hL.to hy).2.1
          have := ih _ hb hf1 (by omega)
          cases hT : T.testBit q with
          | true => rfl
          | false => exact absurd (hz y hy this (by rw [hto]; exact hT)) hr
    exact fun q hq h3 => key (lv q) q hq h3 (Nat.le_refl _)
  · have hc := cut_gone hL hs ht hR h.rooms h.gone n1 n2
    have hz := (capL_zero (T := nearS lv 24) (L := L) hn).2 (fun y hy h3 h4 => by
      apply Classical.byContradiction
      intro hr
      have hb := hL.to hy
      rw [nearS_bit] at h3 h4
      simp [hb.1, hb.2.1] at h3 h4
      have := h.closed y hy h3 hr
      omega)
    omega
theorem atP_one (s q : Nat) : atP (1 <<< s) s q = q := by
  unfold atP; rw [one_bit]; split
  · rename_i h; simpa using h
  · rfl
theorem capL_Q (T : Nat) (s : Nat) (l : List Quad) : ∀ i, i ≤ l.length → capL T (layL (1 <<< s) s l) (hCap (layL (1 <<< s) s l)) i = capQ T (l.take i)
  | 0, _ => by simp [capL, capQ]
  | i + 1, hi => by
    have ha : l[i]? = some l[i] := List.getElem?_eq_getElem (by omega)
    generalize l[i] = a at ha
    rw [capL, capL_Q T s l i (by omega), capQ_take ha, stp_lay ha]
    have g1 : hCap (layL (1 <<< s) s l) (2 * i) = a.2.2.1 := by unfold hCap; rw [if_pos (by omega), show 2 * i / 2 = i from by omega, stp_lay ha]
    have g2 : hCap (layL (1 <<< s) s l) (2 * i + 1) = a.2.2.2 := by unfold hCap; rw [if_neg (by omega), show (2 * i + 1) / 2 = i from by omega, stp_lay ha]
    rw [g1, g2]
    simp only [atP_one, out1]
    omega
theorem layL_len (f s : Nat) (l : List Quad) : (layL f s l).length = l.length := by simp [layL]
def flowOf (rm : Nat → Int) (n : Nat) : List Int := (List.range n).map fun i => rm (2 * i + 1)
def flowTo (rm : Nat → Int) (n i : Nat) : List Int := (List.range n).map fun j => if j < i then rm (2 * j + 1) else 0
theorem ends_wp {W : AW} (P : Nat) (a b : Int) (hP : 2 ≤ P) (hP24 : P ≤ 24) : WpF T0 31 [.int .i64 P, .agg ⟨[.int .i64 a, .int .i64 b]⟩] W (fun u W' => Ext W W' ∧ ∃ s t : Nat, u = .tuple ⟨[.int .i64 s, .int .i64 t]⟩ ∧ two? s t P = true ∧ s < P ∧ t < P ∧ s ≠ t) := by
  refine wpF fun31 rfl ?_
  have hV := Var.new W 28 [.int .i64 a, .int .i64 b]
  have hE : Ext W (W.newCells 28 [.int .i64 a, .int .i64 b]) := .newCells _ _ _
  generalize hW1 : W.newCells 28 [.int .i64 a, .int .i64 b] = W1 at hV hE
  have l0 := hV.load1 (T := T0) und3 rfl (j := 0) (v := .int .i64 a) rfl
  have l1 := hV.load1 (T := T0) und3 rfl (j := 1) (v := .int .i64 b) rfl
  have hwP : IntKind.u64.wrap (P : Int) = P := IntWalk.u64_in _ (by omega)
  obtain ⟨s, hs1, hs2⟩ := u64_mod a P (by omega)
  obtain ⟨t, ht1, ht2⟩ := u64_mod b P (by omega)
  have r1 := aBinI_rem .u64 (IntKind.u64.wrap a) (P : Int) (by omega)
  rw [hs1] at r1
  have r2 := aBinI_rem .u64 (IntKind.u64.wrap b) (P : Int) (by omega)
  rw [ht1] at r2
  have ws : IntKind.i64.wrap (s : Int) = s := IntWalk.i64_in _ (by omega)
  have wt : IntKind.i64.wrap (t : Int) = t := IntWalk.i64_in _ (by omega)
  have i0 := ix28_0 W.next 0
  have i1 := ix28_1 W.next 0
  try simp only [wpK_assoc]
  refine wpK_reg (fun R hR => by simp [hW1]; exact hR) ?_
  try simp only [wpK_assoc]
  refine wpK_reg (fun R hR => by simp [i0, l0, conv_3_82, conv_82_3, hwP, r1, ws]; exact hR) ?_
  try simp only [wpK_assoc]
  refine wpK_reg (fun R hR => by simp [i1, l1, conv_3_82, conv_82_3, hwP, r2, wt]; exact hR) ?_
  by_cases he : s = t
  · subst he
    have r3 := aBinI_rem .i64 ((s : Int) + 1) (P : Int) (by omega)
    have w3 : IntKind.i64.wrap ((s : Int) + 1) = (s : Int) + 1 := IntWalk.i64_in _ (by omega)
    obtain ⟨y, hy, hyP, hys⟩ : ∃ y : Nat, ((s : Int) + 1).tmod P = y ∧ y < P ∧ s ≠ y := by
      refine ⟨(s + 1) % P, by rw [show ((s : Int) + 1) = ((s + 1 : Nat) : Int) from rfl, ← Int.ofNat_tmod], Nat.mod_lt _ (by omega), ?_⟩
      by_cases e : s + 1 = P
      · rw [e, Nat.mod_self]; omega
      · rw [Nat.mod_eq_of_lt (by omega)]; omega
    rw [hy] at r3
    try simp only [wpK_assoc]
    refine wpK_reg (fun R hR => by simp []; exact hR) ?_
    try simp only [wpK_assoc]
    first | refine wpK_onT (by simp []) ?_ | refine wpK_outT (by simp []) ?_ | refine wpK_condT (by simp []) ?_ | refine wpK_endT (by simp []) ?_
    try simp only [wpK_assoc]
    refine wpK_reg1 (fun R hR => by simp [w3, r3]; exact hR) ?_
    simp only [behind_normal]
    try simp only [wpK_assoc]
    refine wpK_reg (fun R hR => by simp []; exact hR) ?_
    exact wpK_ret ⟨.inr rfl, rfl, [.int .i64 s, .int .i64 y], by simp, hE, s, y, rfl, by simp [two?]; omega, hs2, hyP, hys⟩
  · have he' : ¬ (s : Int) = t := by omega
    try simp only [wpK_assoc]
    refine wpK_reg (fun R hR => by simp [he', he]; exact hR) ?_
    try simp only [wpK_assoc]
    first | refine wpK_onF (by simp []) ?_ | refine wpK_out (by simp []) ?_ | refine wpK_condF (by simp []) ?_ | refine wpK_endF (by simp []) (wpK_skip ?_) | refine wpK_endF (by simp []) ?_
    try simp only [wpK_assoc]
    refine wpK_reg (fun R hR => by simp []; exact hR) ?_
    exact wpK_ret ⟨.inr rfl, rfl, [.int .i64 s, .int .i64 t], by simp, hE, s, t, rfl, by simp [two?]; omega, hs2, ht2, he⟩
theorem has50_wp {W : AW} {v : Value} {l : List Int} (h : IntL W v l) (hl : l.length < 4611686018427387904) (x : Int) : WpF T0 50 [v, .int .i64 x] W (fun u W' => W' = W ∧ u = .bool (decide (x ∈ l))) := by
  obtain ⟨A, c, rfl, hA⟩ := h
  refine wpF fun50 rfl ?_
  try simp only [wpK_assoc]
  refine wpK_reg (fun R hR => by simp []; exact hR) ?_
  try simp only [wpK_assoc]
  refine wpK_reg (fun R hR => by simp []; exact hR) ?_
  try simp only [wpK_assoc]
  refine wpK_while (I := fun k B W' => B.n = 18 ∧ B.defers = [] ∧ B.tmps.get 0 = some (.slice A l.length c) ∧ B.tmps.get 1 = some (.int .i64 x) ∧ W' = W ∧ ∃ i : Nat, k = l.length - i ∧ i ≤ l.length ∧ B.tmps.get 5 = some (.int .i64 i) ∧ ∀ (j : Nat) y, j < i → l[j]? = some y → y ≠ x)
    (J := fun B W' => B.n = 18 ∧ B.defers = [] ∧ W' = W ∧ x ∉ l) (Rt := fun B W' => B.defers = [] ∧ B.tmps.get 4 = some (.bool true) ∧ W' = W ∧ x ∈ l) (k := l.length) ?_ ?_ ?_ ?_
  · exact ⟨rfl, rfl, by simp, by simp, rfl, 0, by simp, by omega, by simp, fun j y hj => by omega⟩
  · rintro k ⟨tm, n, ds⟩ W3 ⟨hn, hd, h0, h1, rfl, i, hk, hi, h5, hno⟩ Q' hJ hRt hI
    simp only at hn hd h0 h1
    subst hn; subst hd
    simp only at h5
    try simp only [wpK_assoc]
    refine wpK_reg (fun R hR => by simp [h0, h5, len_slice und46]; exact hR) ?_
    by_cases hlt : i < l.length
    · try simp only [wpK_assoc]
      first | refine wpK_onT (by simp [hlt]) ?_ | refine wpK_outT (by simp [hlt]) ?_ | refine wpK_condT (by simp [hlt]) ?_ | refine wpK_endT (by simp [hlt]) ?_
      have ha : l[i]? = some l[i] := List.getElem?_eq_getElem hlt
      have hm : l[i] ∈ l := List.getElem_mem hlt
      generalize l[i] = y at ha hm
      obtain ⟨b, o, rfl, hh⟩ := hA i y ha
      have hx := indexAddr_slice (T := T0) und46 sz3 (b := b) (o := o) (c := c) (k := .i64) hlt
      rw [Nat.mul_one] at hx
      have hl := load_of und3 rfl hh
      refine wpK_block ?_
      by_cases e : y = x
      · try simp only [wpK_assoc]
        refine wpK_reg (fun R hR => by simp [h0, h1, h5, hx, hl, e]; exact hR) ?_
        try simp only [wpK_assoc]
        first | refine wpK_onT (by simp []) ?_ | refine wpK_outT (by simp []) ?_ | refine wpK_condT (by simp []) ?_ | refine wpK_endT (by simp []) ?_
        try simp only [wpK_assoc]
        refine wpK_reg (fun R hR => by simp []; exact hR) ?_
        exact wpK_ret (hRt _ _ ⟨rfl, by simp, rfl, e ▸ hm⟩)
      · try simp only [wpK_assoc]
        refine wpK_reg (fun R hR => by simp [h0, h1, h5, hx, hl, e]; exact hR) ?_
        try simp only [wpK_assoc]
        first | refine wpK_onF (by simp []) ?_ | refine wpK_out (by simp []) ?_ | refine wpK_condF (by simp []) ?_ | refine wpK_endF (by simp []) (wpK_skip ?_) | refine wpK_endF (by simp []) ?_
        try simp only [wpK_assoc]
        refine wpK_reg1 (fun R hR => by simp [h5]; exact hR) ?_
        refine hI (k - 1) _ _ (by omega) ⟨rfl, rfl, by simp [h0, h1], by simp [h0, h1], rfl, i + 1, by omega, by omega, by simp; exact i64_succ i (by omega), fun j z hj hz => ?_⟩
        by_cases e2 : j = i
        · subst e2; rw [ha] at hz; cases hz; exact e
        · exact hno j z (by omega) hz
    · try simp only [wpK_assoc]
      first | refine wpK_onF (by simp [hlt]) ?_ | refine wpK_out (by simp [hlt]) ?_ | refine wpK_condF (by simp [hlt]) ?_ | refine wpK_endF (by simp [hlt]) (wpK_skip ?_) | refine wpK_endF (by simp [hlt]) ?_
      refine hJ _ _ ⟨rfl, rfl, rfl, fun hm => ?_⟩
      obtain ⟨j, hj, he⟩ := List.getElem_of_mem hm
      exact hno j _ (by omega) (List.getElem?_eq_getElem hj) he
  · rintro A' W' ⟨h1, h2, rfl, h3⟩
    exact ⟨.inr rfl, h1, [.bool true], by simp [h2], rfl, by simp [h3]⟩
  · rintro ⟨tm, n, ds⟩ W' ⟨hn, hd, rfl, h3⟩
    simp only at hn hd
    subst hn; subst hd
    try simp only [wpK_assoc]
    refine wpK_reg (fun R hR => by simp []; exact hR) ?_
    exact wpK_ret ⟨.inr rfl, rfl, [.bool false], by simp, rfl, by simp [h3]⟩
theorem memb_more {S P : Nat} (h : ∀ j, P ≤ j → S.testBit j = false) : ∀ n, P ≤ n → memb n S = memb P S := by
  intro n hn
  induction n with
  | zero => obtain rfl : P = 0 := by omega
            rfl
  | succ n ih =>
    by_cases e : P = n + 1
    · subst e; rfl
    · rw [memb_succ, h n (by omega), ih (by omega)]; simp
theorem near_in {P : Nat} {l : List Quad} {s t : Nat} {x : Int} {rm : Nat → Int} {lv : Nat → Nat} (hin : PlanIn P l) (hs : s < P) (F : Filled (layL (1 <<< s) s l) s t (hCap (layL (1 <<< s) s l)) x rm lv) :
    (∀ j, P ≤ j → (nearS lv 24).testBit j = false) ∧ nearS lv 24 < 2 ^ P := by
  have key : ∀ j, P ≤ j → (nearS lv 24).testBit j = false := by
    intro j hj
    rw [nearS_bit]
    by_cases h24 : j < 24
    · by_cases h0 : 0 < lv j
      · exfalso
        rcases F.lev.pre j h24 h0 with rfl | ⟨y, hy, hto, _, _, _⟩
        · omega
        · rw [layL_len] at hy
          have ha : l[y / 2]? = some (l[y / 2]'(by omega)) := List.getElem?_eq_getElem (by omega)
          have hm : l[y / 2]'(by omega) ∈ l := List.getElem_mem _
          generalize l[y / 2]'_ = a at ha hm
          have := hin.step hm
          unfold hTo at hto
          rw [stp_lay ha] at hto
          simp only [atP_one] at hto
          split at hto <;> omega
      · simp [h0]
    · simp [h24]
  exact ⟨key, Nat.lt_pow_two_of_testBit _ (fun i hi => key i hi)⟩
theorem filled_capQ {P : Int} {l : List Quad} {s t : Nat} {x : Int} {rm : Nat → Int} {lv : Nat → Nat} (hin : PlanIn P l) (hs : s < 24) (ht : t < 24) (F : Filled (layL (1 <<< s) s l) s t (hCap (layL (1 <<< s) s l)) x rm lv) :
    (∀ T, T.testBit s = true → T.testBit t = false → x ≤ capQ T l ∧ (x = capQ T l → ∀ q, q < 24 → 0 < lv q → T.testBit q = true)) ∧ x = capQ (nearS lv 24) l ∧ (nearS lv 24).testBit s = true ∧ (nearS lv 24).testBit t = false := by
  have hL := layL_ok hin (from_ := 1 <<< s) (show s < 24 by omega)
  have hc := F.cuts hL hs ht (cap_rooms hL)
  have e : ∀ T, capL T (layL (1 <<< s) s l) (hCap (layL (1 <<< s) s l)) (layL (1 <<< s) s l).length = capQ T l := fun T => by
    rw [layL_len, capL_Q T s l l.length (Nat.le_refl _), List.take_length]
  simp only [e] at hc
  exact hc

def bitI (S i : Nat) : Int := if S.testBit i then 1 else 0
theorem bit_tmod (S i : Nat) : ((S >>> i : Nat) : Int).tmod 2 = bitI S i := by
  have h := bit_rem S i
  have h0 : 0 ≤ ((S >>> i : Nat) : Int).tmod 2 ∧ ((S >>> i : Nat) : Int).tmod 2 < 2 := ⟨Int.tmod_nonneg _ (Int.natCast_nonneg _), Int.tmod_lt_of_pos _ (by omega)⟩
  unfold bitI
  cases hb : S.testBit i with
  | true => rw [if_pos rfl]; exact h.2 hb
  | false =>
    have : ¬ ((S >>> i : Nat) : Int).tmod 2 = 1 := fun e => by rw [h.1 e] at hb; cases hb
    simp only [Bool.false_eq_true, if_false]; omega
theorem bit_ops (S i : Nat) (hi : i ≤ 63) : aBinI .shr .i64 (S : Int) .u64 (i : Int) = some (.int .i64 ((S >>> i : Nat) : Int)) ∧ aBinI .rem .i64 ((S >>> i : Nat) : Int) .i64 2 = some (.int .i64 (bitI S i)) := by
  refine ⟨aBinI_shr .i64 .u64 S i (by show i ≤ 64; omega), ?_⟩
  have := aBinI_rem .i64 ((S >>> i : Nat) : Int) 2 (by omega)
  rw [bit_tmod] at this; exact this
theorem bits_wp {W : AW} {v : Value} {P : Int} {l : List Tri} (h : TriIn W v l) (hok : planOk P (arcsQ l) = true) (S : Nat) :
    WpF T0 70 [.agg ⟨[.int .i64 P, v]⟩, .int .i64 S] W (fun u W' => Ext W W' ∧ u = .int .i64 (capQ S (arcsQ l))) := by
  have hin := arcsQ_in hok
  obtain ⟨hP2, hP24, h200⟩ := hin.size
  have hql : (arcsQ l).length = l.length := by simp [arcsQ]
  rw [hql] at h200
  obtain ⟨Av, cv, rfl, hA⟩ := h
  refine wpF fun70 rfl ?_
  obtain ⟨W0, hW0, hE0, hV0⟩ : ∃ W0, W0 = W.newCells 24 [.int .i64 P, .slice Av l.length cv] ∧ Ext W W0 ∧ Var W0 W.next 24 [.int .i64 P, .slice Av l.length cv] := ⟨_, rfl, .newCells _ _ _, Var.new _ _ _⟩
  have l1 := hV0.load1 (T := T0) und22 rfl (j := 1) (v := .slice Av l.length cv) rfl
  try simp only [wpK_assoc]
  refine wpK_reg (fun R hR => by simp [← hW0]; exact hR) ?_
  try simp only [wpK_assoc]
  refine wpK_reg (fun R hR => by simp []; exact hR) ?_
  try simp only [wpK_assoc]
  refine wpK_reg (fun R hR => by simp []; exact hR) ?_
  try simp only [wpK_assoc]
  refine wpK_while (I := fun k A W' => A.n = 47 ∧ A.defers = [] ∧ A.tmps.get 1 = some (.int .i64 S) ∧ A.tmps.get 2 = some (.pointer (some ⟨W.next, 0, none⟩)) ∧ W' = W0 ∧ ∃ i : Nat, k = l.length - i ∧ i ≤ l.length ∧ A.tmps.get 6 = some (.int .i64 i) ∧ A.tmps.get 5 = some (.int .i64 (capQ S ((arcsQ l).take i))))
    (J := fun A W' => A.n = 47 ∧ A.defers = [] ∧ W' = W0 ∧ A.tmps.get 5 = some (.int .i64 (capQ S (arcsQ l))))
    (Rt := fun _ _ => False) (k := l.length) ?_ ?_ ?_ ?_
  · exact ⟨rfl, rfl, by simp, by simp, rfl, 0, by simp, by omega, by simp, by simp [capQ]⟩
  · rintro k ⟨tm, n, ds⟩ W3 ⟨hn, hd, h1, h2, rfl, i, hk, hi, h6, h5⟩ Q' hJ hRt hI
    simp only at hn hd h1 h2
    subst hn; subst hd
    simp only at h6 h5
    try simp only [wpK_assoc]
    refine wpK_reg (fun R hR => by simp [h2, h6, l1, len_slice und22]; exact hR) ?_
    by_cases hlt : i < l.length
    · try simp only [wpK_assoc]
      first | refine wpK_onT (by simp [hlt]) ?_ | refine wpK_outT (by simp [hlt]) ?_ | refine wpK_condT (by simp [hlt]) ?_ | refine wpK_endT (by simp [hlt]) ?_
      have ha : l[i]? = some l[i] := List.getElem?_eq_getElem hlt
      have hmem : l[i] ∈ l := List.getElem_mem hlt
      generalize l[i] = a at ha hmem
      have haq : (arcsQ l)[i]? = some (a.1, a.2.1, a.2.2, 0) := by simp [arcsQ, ha]
      have hst1 := hin.step (a := (a.1, a.2.1, a.2.2, 0)) (List.mem_of_getElem? haq)
      have hsum := capQ_take (s := S) haq
      have hb := capQ_le hin S i (by omega)
      obtain ⟨a1, a2, a3⟩ := a
      simp only at hst1
      obtain ⟨f, rfl⟩ : ∃ f : Nat, a1 = f := ⟨a1.toNat, by omega⟩
      obtain ⟨g, rfl⟩ : ∃ g : Nat, a2 = g := ⟨a2.toNat, by omega⟩
      obtain ⟨b, o, rfl, q1, q2, q3⟩ := hA i _ ha
      have eV := indexAddr_tri (T := T0) und22 sz78 (b := b) (o := o) (c := cv) (k := .i64) hlt
      have la1 := load_of und3 rfl (q1.ext hE0)
      have la2 := load_of und3 rfl (q2.ext hE0)
      have la3 := load_of und2 rfl (q3.ext hE0)
      simp only at la1 la2 la3
      obtain ⟨f1, f2⟩ := bit_ops S f (by omega)
      obtain ⟨g1, g2⟩ := bit_ops S g (by omega)
      generalize hsf : ((S >>> f : Nat) : Int) = sf at f1 f2
      generalize hsg : ((S >>> g : Nat) : Int) = sg at g1 g2
      have wf : IntKind.u64.wrap (f : Int) = f := IntWalk.u64_in _ (by omega)
      have wg : IntKind.u64.wrap (g : Int) = g := IntWalk.u64_in _ (by omega)
      have ho : out1 S ((f : Int), (g : Int), a3, 0) = if S.testBit f && !S.testBit g then a3 else 0 := by
        simp only [out1, Int.toNat_natCast]; split <;> split <;> omega
      rw [ho] at hsum
      generalize capQ S ((arcsQ l).take i) = z at h5 hb hsum
      have w1 : IntKind.i64.wrap (z + a3) = z + a3 := IntWalk.i64_in _ (by omega)
      have hsi : IntKind.i64.wrap ((i : Int) + 1) = ((i + 1 : Nat) : Int) := i64_succ i (by omega)
      have fin : ∀ tm' : Tr Value, tm'.get 1 = some (.int .i64 S) → tm'.get 2 = some (.pointer (some ⟨W.next, 0, none⟩)) → tm'.get 6 = some (.int .i64 ((i + 1 : Nat) : Int)) → tm'.get 5 = some (.int .i64 (z + if S.testBit f && !S.testBit g then a3 else 0)) → Q' .normal ⟨tm', 47, []⟩ W3 := fun tm' x1 x2 x6 x5 =>
        hI (k - 1) _ _ (by omega) ⟨rfl, rfl, x1, x2, rfl, i + 1, by omega, by omega, x6, by rw [x5, hsum]⟩
      refine wpK_block ?_
      cases hbf : S.testBit f with
      | false =>
        have e1 : bitI S f = 0 := by simp [-testBit_dec, bitI, hbf]
        rw [e1] at f2
        try simp only [wpK_assoc]
        refine wpK_reg (fun R hR => by simp [h1, h2, h6, l1, eV, la1, conv_3_82, wf, f1, f2, undef]; exact hR) ?_
        try simp only [wpK_assoc]
        first | refine wpK_onF (by simp []) ?_ | refine wpK_out (by simp []) ?_ | refine wpK_condF (by simp []) ?_ | refine wpK_endF (by simp []) (wpK_skip ?_) | refine wpK_endF (by simp []) ?_
        try simp only [wpK_assoc]
        refine wpK_reg1 (fun R hR => by simp [h6, hsi]; exact hR) ?_
        exact fin _ (by simp [h1]) (by simp [h2]) (by simp) (by simp [-testBit_dec, hbf, h5])
      | true =>
        have e1 : bitI S f = 1 := by simp [-testBit_dec, bitI, hbf]
        rw [e1] at f2
        cases hbg : S.testBit g with
        | true =>
          have e2 : bitI S g = 1 := by simp [-testBit_dec, bitI, hbg]
          rw [e2] at g2
          try simp only [wpK_assoc]
          refine wpK_reg (fun R hR => by simp [h1, h2, h6, l1, eV, la1, la2, conv_3_82, wf, wg, f1, f2, g1, g2]; exact hR) ?_
          try simp only [wpK_assoc]
          first | refine wpK_onF (by simp []) ?_ | refine wpK_out (by simp []) ?_ | refine wpK_condF (by simp []) ?_ | refine wpK_endF (by simp []) (wpK_skip ?_) | refine wpK_endF (by simp []) ?_
          try simp only [wpK_assoc]
          refine wpK_reg1 (fun R hR => by simp [h6, hsi]; exact hR) ?_
          exact fin _ (by simp [h1]) (by simp [h2]) (by simp) (by simp [-testBit_dec, hbf, hbg, h5])
        | false =>
          have e2 : bitI S g = 0 := by simp [-testBit_dec, bitI, hbg]
          rw [e2] at g2
          try simp only [wpK_assoc]
          refine wpK_reg (fun R hR => by simp [h1, h2, h6, l1, eV, la1, la2, conv_3_82, wf, wg, f1, f2, g1, g2]; exact hR) ?_
          try simp only [wpK_assoc]
          first | refine wpK_onT (by simp []) ?_ | refine wpK_outT (by simp []) ?_ | refine wpK_condT (by simp []) ?_ | refine wpK_endT (by simp []) ?_
          try simp only [wpK_assoc]
          refine wpK_reg1 (fun R hR => by simp [h2, h5, h6, l1, eV, la3, w1]; exact hR) ?_
          try simp only [wpK_assoc]
          refine wpK_reg1 (fun R hR => by simp [h6, hsi]; exact hR) ?_
          exact fin _ (by simp [h1]) (by simp [h2]) (by simp) (by simp [-testBit_dec, hbf, hbg])
    · have e : i = l.length := by omega
      rw [e, ← hql, List.take_length] at h5
      try simp only [wpK_assoc]
      first | refine wpK_onF (by simp [hlt]) ?_ | refine wpK_out (by simp [hlt]) ?_ | refine wpK_condF (by simp [hlt]) ?_ | refine wpK_endF (by simp [hlt]) (wpK_skip ?_) | refine wpK_endF (by simp [hlt]) ?_
      exact hJ _ _ ⟨rfl, rfl, rfl, by simp [h5]⟩
  · rintro A' W' hf; exact hf.elim
  · rintro ⟨tm, n, ds⟩ W' ⟨hn, hd, rfl, h5⟩
    simp only at hn hd h5
    subst hn; subst hd
    try simp only [wpK_assoc]
    refine wpK_reg (fun R hR => by simp [h5]; exact hR) ?_
    exact wpK_ret ⟨.inr rfl, rfl, [.int .i64 (capQ S (arcsQ l))], by simp, hE0, rfl⟩
theorem same_wp {W : AW} {v w : Value} {l m : List Int} (h : IntL W v l) (h' : IntL W w m) (hl : l.length < 4611686018427387904) : WpF T0 34 [v, w] W (fun u W' => W' = W ∧ u = .bool (decide (l = m))) := by
  obtain ⟨A, c, rfl, hA⟩ := h
  obtain ⟨B, d, rfl, hB⟩ := h'
  refine wpF fun34 rfl ?_
  try simp only [wpK_assoc]
  refine wpK_reg (fun R hR => by simp []; exact hR) ?_
  by_cases hlen : l.length = m.length
  case neg =>
    have hlen' : ¬ (l.length : Int) = m.length := by omega
    try simp only [wpK_assoc]
    refine wpK_reg (fun R hR => by simp [len_slice und46, hlen']; exact hR) ?_
    try simp only [wpK_assoc]
    first | refine wpK_onT (by simp []) ?_ | refine wpK_outT (by simp []) ?_ | refine wpK_condT (by simp []) ?_ | refine wpK_endT (by simp []) ?_
    try simp only [wpK_assoc]
    refine wpK_reg (fun R hR => by simp []; exact hR) ?_
    exact wpK_ret ⟨.inr rfl, rfl, [.bool false], by simp, rfl, by simp; exact fun e => hlen (by rw [e])⟩
  try simp only [wpK_assoc]
  refine wpK_reg (fun R hR => by simp [len_slice und46, hlen]; exact hR) ?_
  try simp only [wpK_assoc]
  first | refine wpK_onF (by simp []) ?_ | refine wpK_out (by simp []) ?_ | refine wpK_condF (by simp []) ?_ | refine wpK_endF (by simp []) (wpK_skip ?_) | refine wpK_endF (by simp []) ?_
  try simp only [wpK_assoc]
  refine wpK_reg (fun R hR => by simp []; exact hR) ?_
  rw [← hlen]
  try simp only [wpK_assoc]
  refine wpK_while (I := fun k D W' => D.n = 26 ∧ D.defers = [] ∧ D.tmps.get 0 = some (.slice A l.length c) ∧ D.tmps.get 1 = some (.slice B l.length d) ∧ W' = W ∧ ∃ i : Nat, k = l.length - i ∧ i ≤ l.length ∧ D.tmps.get 5 = some (.int .i64 i) ∧ l.take i = m.take i)
    (J := fun D W' => D.n = 26 ∧ D.defers = [] ∧ W' = W ∧ l = m) (Rt := fun D W' => D.defers = [] ∧ D.tmps.get 4 = some (.bool false) ∧ W' = W ∧ l ≠ m) (k := l.length) ?_ ?_ ?_ ?_
  · exact ⟨rfl, rfl, by simp, by simp, rfl, 0, by simp, by omega, by simp, by simp⟩
  · rintro k ⟨tm, n, ds⟩ W3 ⟨hn, hd, h0, h1, rfl, i, hk, hi, h5, htk⟩ Q' hJ hRt hI
    simp only at hn hd h0 h1
    subst hn; subst hd
    simp only at h5
    try simp only [wpK_assoc]
    refine wpK_reg (fun R hR => by simp [h0, h5, len_slice und46]; exact hR) ?_
    by_cases hlt : i < l.length
    · try simp only [wpK_assoc]
      first | refine wpK_onT (by simp [hlt]) ?_ | refine wpK_outT (by simp [hlt]) ?_ | refine wpK_condT (by simp [hlt]) ?_ | refine wpK_endT (by simp [hlt]) ?_
      have ha : l[i]? = some l[i] := List.getElem?_eq_getElem hlt
      have hb : m[i]? = some (m[i]'(by omega)) := List.getElem?_eq_getElem (by omega)
      generalize l[i] = x at ha
      generalize m[i]'_ = y at hb
      obtain ⟨b, o, rfl, hh⟩ := hA i x ha
      obtain ⟨b', o', rfl, hh'⟩ := hB i y hb
      have hx := indexAddr_slice (T := T0) und46 sz3 (b := b) (o := o) (c := c) (k := .i64) hlt
      have hy := indexAddr_slice (T := T0) und46 sz3 (b := b') (o := o') (c := d) (k := .i64) hlt
      rw [Nat.mul_one] at hx hy
      have hl1 := load_of und3 rfl hh
      have hl2 := load_of und3 rfl hh'
      have hsi : IntKind.i64.wrap ((i : Int) + 1) = ((i + 1 : Nat) : Int) := i64_succ i (by omega)
      refine wpK_block ?_
      by_cases e : x = y
      · try simp only [wpK_assoc]
        refine wpK_dn (wr := Tr.nil |>.set 17 0 |>.set 18 1 |>.set 19 2 |>.set 20 3 |>.set 21 4 |>.set 22 5 |>.set 23 6 |>.set 24 7 |>.set 25 8) (bits := Tr.nil.lay 0 [0, 0, 3, 7, 0, 0, 48, 112, 255]) (ord := [0, 1, 2, 3, 4, 5, 6, 7, 8]) (by kernel_rfl) (by kernel_rfl) (by kernel_rfl) (fun G hG => by
          simp [h0, h1, h5, hx, hy, hl1, hl2, e]
          exact hG) ?_
        try simp only [wpK_assoc]
        first | refine wpK_onF (by simp []) ?_ | refine wpK_out (by simp []) ?_ | refine wpK_condF (by simp []) ?_ | refine wpK_endF (by simp []) (wpK_skip ?_) | refine wpK_endF (by simp []) ?_
        try simp only [wpK_assoc]
        refine wpK_reg1 (fun R hR => by simp [h5, hsi]; exact hR) ?_
        exact hI (k - 1) _ _ (by omega) ⟨rfl, rfl, by simp [h0, h1], by simp [h0, h1], rfl, i + 1, by omega, by omega, by simp, by rw [List.take_add_one, List.take_add_one, htk, ha, hb, e]⟩
      · try simp only [wpK_assoc]
        refine wpK_dn (wr := Tr.nil |>.set 17 0 |>.set 18 1 |>.set 19 2 |>.set 20 3 |>.set 21 4 |>.set 22 5 |>.set 23 6 |>.set 24 7 |>.set 25 8) (bits := Tr.nil.lay 0 [0, 0, 3, 7, 0, 0, 48, 112, 255]) (ord := [0, 1, 2, 3, 4, 5, 6, 7, 8]) (by kernel_rfl) (by kernel_rfl) (by kernel_rfl) (fun G hG => by
          simp [h0, h1, h5, hx, hy, hl1, hl2, e]
          exact hG) ?_
        try simp only [wpK_assoc]
        first | refine wpK_onT (by simp []) ?_ | refine wpK_outT (by simp []) ?_ | refine wpK_condT (by simp []) ?_ | refine wpK_endT (by simp []) ?_
        try simp only [wpK_assoc]
        refine wpK_reg (fun R hR => by simp []; exact hR) ?_
        exact wpK_ret (hRt _ _ ⟨rfl, by simp, rfl, fun em => by rw [em, hb] at ha; cases ha; exact e rfl⟩)
    · have e : i = l.length := by omega
      try simp only [wpK_assoc]
      first | refine wpK_onF (by simp [hlt]) ?_ | refine wpK_out (by simp [hlt]) ?_ | refine wpK_condF (by simp [hlt]) ?_ | refine wpK_endF (by simp [hlt]) (wpK_skip ?_) | refine wpK_endF (by simp [hlt]) ?_
      refine hJ _ _ ⟨rfl, rfl, rfl, ?_⟩
      rw [e, List.take_length, List.take_of_length_le (by omega)] at htk
      exact htk
  · rintro A' W' ⟨g1, g2, rfl, g3⟩
    exact ⟨.inr rfl, g1, [.bool false], by simp [g2], rfl, by simp [g3]⟩
  · rintro ⟨tm, n, ds⟩ W' ⟨hn, hd, rfl, he⟩
    simp only at hn hd
    subst hn; subst hd
    try simp only [wpK_assoc]
    refine wpK_reg (fun R hR => by simp []; exact hR) ?_
    exact wpK_ret ⟨.inr rfl, rfl, [.bool true], by simp, rfl, by simp [he]⟩
def isCut (s t T : Nat) : Prop := T.testBit s = true ∧ T.testBit t = false
def Seen (s t : Nat) (l : List Quad) (k : Nat) (best : Int) (com : Nat) : Prop :=
  ((∀ T, T < k → ¬ isCut s t T) ∧ best = -1) ∨
  (0 ≤ best ∧ (∃ T, T < k ∧ isCut s t T ∧ capQ T l = best) ∧ (∀ T, T < k → isCut s t T → best ≤ capQ T l) ∧ (∀ q, com.testBit q = true ↔ ∀ T, T < k → isCut s t T → capQ T l = best → T.testBit q = true))
theorem Seen.skip {s t : Nat} {l : List Quad} {k : Nat} {best : Int} {com : Nat} (h : Seen s t l k best com) (hk : ¬ isCut s t k) : Seen s t l (k + 1) best com := by
  have sp : ∀ T, T < k + 1 → isCut s t T → T < k := fun T hT hc => by
    by_cases e : T = k
    · subst e; exact absurd hc hk
    · omega
  rcases h with ⟨h1, h2⟩ | ⟨h0, ⟨T0, a1, a2, a3⟩, h2, h3⟩
  · exact .inl ⟨fun T hT hc => h1 T (sp T hT hc) hc, h2⟩
  · exact .inr ⟨h0, ⟨T0, by omega, a2, a3⟩, fun T hT hc => h2 T (sp T hT hc) hc, fun q => (h3 q).trans ⟨fun h T hT hc he => h T (sp T hT hc) hc he, fun h T hT hc he => h T (by omega) hc he⟩⟩
theorem Seen.less {s t : Nat} {l : List Quad} {k : Nat} {best : Int} {com : Nat} (h : Seen s t l k best com) (hk : isCut s t k) (h0 : 0 ≤ capQ k l) (hc : best < 0 ∨ capQ k l < best) : Seen s t l (k + 1) (capQ k l) k := by
  have old : ∀ T, T < k → isCut s t T → capQ k l < capQ T l := fun T hT hT2 => by
    rcases h with ⟨h1, _⟩ | ⟨g0, _, h2, _⟩
    · exact absurd hT2 (h1 T hT)
    · have := h2 T hT hT2; omega
  refine .inr ⟨h0, ⟨k, by omega, hk, rfl⟩, fun T hT hT2 => ?_, fun q => ⟨fun hq T hT hT2 he => ?_, fun hall => hall k (by omega) hk rfl⟩⟩
  · by_cases e : T = k
    · subst e; exact Int.le_refl _
    · have := old T (by omega) hT2; omega
  · by_cases e : T = k
    · subst e; exact hq
    · have := old T (by omega) hT2; omega
theorem Seen.same {s t : Nat} {l : List Quad} {k : Nat} {best : Int} {com : Nat} (h : Seen s t l k best com) (hk : isCut s t k) (hb : 0 ≤ best) (hc : capQ k l = best) : Seen s t l (k + 1) best (com &&& k) := by
  rcases h with ⟨h1, h2⟩ | ⟨_, ⟨T0, a1, a2, a3⟩, h2, h3⟩
  · omega
  · refine .inr ⟨hb, ⟨T0, by omega, a2, a3⟩, fun T hT hT2 => ?_, fun q => ?_⟩
    · by_cases e : T = k
      · subst e; omega
      · exact h2 T (by omega) hT2
    · rw [Nat.testBit_and, Bool.and_eq_true, h3 q]
      constructor
      · rintro ⟨g1, g2⟩ T hT hT2 he
        by_cases e : T = k
        · subst e; exact g2
        · exact g1 T (by omega) hT2 he
      · intro hall
        exact ⟨fun T hT hT2 he => hall T (by omega) hT2 he, hall k (by omega) hk hc⟩
theorem Seen.more {s t : Nat} {l : List Quad} {k : Nat} {best : Int} {com : Nat} (h : Seen s t l k best com) (hk : isCut s t k) (hb : 0 ≤ best) (hc : best < capQ k l) : Seen s t l (k + 1) best com := by
  rcases h with ⟨h1, h2⟩ | ⟨_, ⟨T0, a1, a2, a3⟩, h2, h3⟩
  · omega
  · refine .inr ⟨hb, ⟨T0, by omega, a2, a3⟩, fun T hT hT2 => ?_, fun q => (h3 q).trans ⟨fun h T hT hT2 he => ?_, fun h T hT hT2 he => h T (by omega) hT2 he⟩⟩
    · by_cases e : T = k
      · subst e; omega
      · exact h2 T (by omega) hT2
    · by_cases e : T = k
      · subst e; omega
      · exact h T (by omega) hT2 he
theorem least32_wp {W : AW} {v : Value} {P s t S : Nat} {x : Int} {l : List Tri} (h : TriIn W v l) (hok : planOk P (arcsQ l) = true) (hP : P ≤ 20) (hs : s < P) (ht : t < P) (hS : S < 2 ^ P) (hSc : isCut s t S) (hx : x = capQ S (arcsQ l))
    (hmin : ∀ T, isCut s t T → x ≤ capQ T (arcsQ l) ∧ (x = capQ T (arcsQ l) → ∀ q, S.testBit q = true → T.testBit q = true)) :
    WpF T0 32 [.agg ⟨[.int .i64 P, v]⟩, .int .i64 s, .int .i64 t] W (fun u W' => Ext W W' ∧ ∃ sl, u = .tuple ⟨[.int .i64 x, sl]⟩ ∧ IntL W' sl (memb P S)) := by
  refine wpF fun32 rfl ?_
  obtain ⟨W0, hW0, hE0, hV0⟩ : ∃ W0, W0 = W.newCells 24 [.int .i64 P, v] ∧ Ext W W0 ∧ Var W0 W.next 24 [.int .i64 P, v] := ⟨_, rfl, .newCells _ _ _, Var.new _ _ _⟩
  have l0 : ∀ W', Ext W0 W' → aLoadVar T0 W' 3 W.next 0 = some (.int .i64 P) := fun W' h => (hV0.ext h).load1 (T := T0) und3 rfl (j := 0) (v := .int .i64 P) rfl
  have l24 : ∀ W', Ext W0 W' → aLoadVar T0 W' 24 W.next 0 = some (.agg ⟨[.int .i64 P, v]⟩) := fun W' h => load24 (hV0.ext h)
  have hpow : 2 ^ P ≤ 2 ^ 20 := Nat.pow_le_pow_right (by omega) hP
  have hwP : IntKind.u64.wrap (P : Int) = P := IntWalk.u64_in _ (by omega)
  have hws : IntKind.u64.wrap (s : Int) = s := IntWalk.u64_in _ (by omega)
  have hwt : IntKind.u64.wrap (t : Int) = t := IntWalk.u64_in _ (by omega)
  have shP : aBinI .shl .i64 1 .u64 (P : Int) = some (.int .i64 ((2 ^ P : Nat) : Int)) := by
    have := aBinI_shl .i64 .u64 1 P (by show P ≤ 64; omega) (by rw [Nat.one_mul]; show 2 ^ P < 9223372036854775808; omega)
    rw [Nat.shiftLeft_eq, Nat.one_mul] at this; exact this
  have hin := arcsQ_in hok
  generalize hpw : 2 ^ P = pw at shP hS hpow
  try simp only [wpK_assoc]
  refine wpK_reg (fun R hR => by simp [← hW0]; exact hR) ?_
  try simp only [wpK_assoc]
  refine wpK_reg (fun R hR => by simp []; exact hR) ?_
  try simp only [wpK_assoc]
  refine wpK_reg (fun R hR => by simp []; exact hR) ?_
  try simp only [wpK_assoc]
  refine wpK_while (I := fun k A W' => A.n = 57 ∧ A.defers = [] ∧ A.tmps.get 1 = some (.int .i64 s) ∧ A.tmps.get 2 = some (.int .i64 t) ∧ A.tmps.get 3 = some (.pointer (some ⟨W.next, 0, none⟩)) ∧ Ext W0 W' ∧ ∃ (i : Nat) (best : Int) (com : Nat), k = pw - i ∧ i ≤ pw ∧ A.tmps.get 10 = some (.int .i64 i) ∧ A.tmps.get 8 = some (.int .i64 best) ∧ A.tmps.get 9 = some (.int .i64 com) ∧ com < pw ∧ Seen s t (arcsQ l) i best com)
    (J := fun A W' => A.n = 57 ∧ A.defers = [] ∧ A.tmps.get 1 = some (.int .i64 s) ∧ A.tmps.get 2 = some (.int .i64 t) ∧ A.tmps.get 3 = some (.pointer (some ⟨W.next, 0, none⟩)) ∧ Ext W0 W' ∧ A.tmps.get 8 = some (.int .i64 x) ∧ A.tmps.get 9 = some (.int .i64 S))
    (Rt := fun _ _ => False) (k := pw) ?_ ?_ ?_ ?_
  · exact ⟨rfl, rfl, by simp, by simp, by simp, .refl _ _, 0, -1, 0, by omega, by omega, by simp, by simp, by simp, by omega, .inl ⟨fun T hT => by omega, rfl⟩⟩
  · rintro k ⟨tm, n, ds⟩ W3 ⟨hn, hd, h1, h2, h3, e3, i, best, com, hk, hi, h10, h8, h9, hcom, hSeen⟩ Q' hJ hRt hI
    simp only at hn hd h1 h2 h3
    subst hn; subst hd
    simp only at h10 h8 h9
    try simp only [wpK_assoc]
    refine wpK_reg (fun R hR => by simp [h3, h10, l0, e3, conv_3_82, hwP, shP]; exact hR) ?_
    by_cases hlt : i < pw
    · try simp only [wpK_assoc]
      first | refine wpK_onT (by simp [hlt]) ?_ | refine wpK_outT (by simp [hlt]) ?_ | refine wpK_condT (by simp [hlt]) ?_ | refine wpK_endT (by simp [hlt]) ?_
      have hsi : IntKind.i64.wrap ((i : Int) + 1) = ((i + 1 : Nat) : Int) := i64_succ i (by omega)
      have fin : ∀ (tm' : Tr Value) (W4 : AW) (best' : Int) (com' : Nat), Ext W0 W4 → tm'.get 1 = some (.int .i64 s) → tm'.get 2 = some (.int .i64 t) → tm'.get 3 = some (.pointer (some ⟨W.next, 0, none⟩)) → tm'.get 10 = some (.int .i64 ((i + 1 : Nat) : Int)) → tm'.get 8 = some (.int .i64 best') → tm'.get 9 = some (.int .i64 com') → com' < pw → Seen s t (arcsQ l) (i + 1) best' com' → Q' .normal ⟨tm', 57, []⟩ W4 :=
        fun tm' W4 best' com' e4 x1 x2 x3 x10 x8 x9 hc' hS' => hI (k - 1) _ _ (by omega) ⟨rfl, rfl, x1, x2, x3, e4, i + 1, best', com', by omega, by omega, x10, x8, x9, hc', hS'⟩
      obtain ⟨f1, f2⟩ := bit_ops i s (by omega)
      obtain ⟨g1, g2⟩ := bit_ops i t (by omega)
      generalize hsf : ((i >>> s : Nat) : Int) = sf at f1 f2
      generalize hsg : ((i >>> t : Nat) : Int) = sg at g1 g2
      refine wpK_block ?_
      cases hbs : i.testBit s with
      | false =>
        have e1 : bitI i s = 0 := by simp [-testBit_dec, bitI, hbs]
        rw [e1] at f2
        try simp only [wpK_assoc]
        refine wpK_reg (fun R hR => by simp [h1, h2, h10, conv_3_82, hws, f1, f2, undef]; exact hR) ?_
        try simp only [wpK_assoc]
        first | refine wpK_onT (by simp []) ?_ | refine wpK_outT (by simp []) ?_ | refine wpK_condT (by simp []) ?_ | refine wpK_endT (by simp []) ?_
        rw [leaves_exit, if_pos rfl]
        simp only [behind_normal]
        try simp only [wpK_assoc]
        refine wpK_reg1 (fun R hR => by simp [h10, hsi]; exact hR) ?_
        exact fin _ _ best com e3 (by simp [h1]) (by simp [h2]) (by simp [h3]) (by simp) (by simp [h8]) (by simp [h9]) hcom (hSeen.skip (fun hc => by rw [hc.1] at hbs; cases hbs))
      | true =>
        have e1 : bitI i s = 1 := by simp [-testBit_dec, bitI, hbs]
        rw [e1] at f2
        cases hbt : i.testBit t with
        | true =>
          have e2 : bitI i t = 1 := by simp [-testBit_dec, bitI, hbt]
          rw [e2] at g2
          try simp only [wpK_assoc]
          refine wpK_reg (fun R hR => by simp [h1, h2, h10, conv_3_82, hws, hwt, f1, f2, g1, g2]; exact hR) ?_
          try simp only [wpK_assoc]
          first | refine wpK_onT (by simp []) ?_ | refine wpK_outT (by simp []) ?_ | refine wpK_condT (by simp []) ?_ | refine wpK_endT (by simp []) ?_
          rw [leaves_exit, if_pos rfl]
          simp only [behind_normal]
          try simp only [wpK_assoc]
          refine wpK_reg1 (fun R hR => by simp [h10, hsi]; exact hR) ?_
          exact fin _ _ best com e3 (by simp [h1]) (by simp [h2]) (by simp [h3]) (by simp) (by simp [h8]) (by simp [h9]) hcom (hSeen.skip (fun hc => by rw [hc.2] at hbt; cases hbt))
        | false =>
          have e2 : bitI i t = 0 := by simp [-testBit_dec, bitI, hbt]
          rw [e2] at g2
          have hcut : isCut s t i := ⟨hbs, hbt⟩
          try simp only [wpK_assoc]
          refine wpK_reg (fun R hR => by simp [h1, h2, h10, conv_3_82, hws, hwt, f1, f2, g1, g2]; exact hR) ?_
          try simp only [wpK_assoc]
          first | refine wpK_onF (by simp []) ?_ | refine wpK_out (by simp []) ?_ | refine wpK_condF (by simp []) ?_ | refine wpK_endF (by simp []) (wpK_skip ?_) | refine wpK_endF (by simp []) ?_
          try simp only [wpK_assoc]
          refine wpK_x0 (fun R hR => by
              simp [h3, h10, l24, e3, aEnter, fun70, short_other, aCallV]; rw [callS_none]
              refine (bits_wp (P := (P : Int)) (h.ext (hE0.trans e3)) hok i).mono ?_
              rintro _ W4 ⟨e34, rfl⟩
              simp [h3, h10, l24, e3]; exact hR W4 e34) ?_
          rintro W4 e34
          have e4 := e3.trans e34
          have hc0 := capQ_le hin i (arcsQ l).length (Nat.le_refl _)
          rw [List.take_length] at hc0
          obtain ⟨c, hcc⟩ : ∃ c, c = capQ i (arcsQ l) := ⟨_, rfl⟩
          have s1 := fun hh => hSeen.less hcut hc0.1 hh
          have s2 := fun hb hh => hSeen.same hcut hb hh
          have s3 := fun hb hh => hSeen.more hcut hb hh
          rw [← hcc] at s1 s2 s3 hc0
          rw [← hcc]
          clear hcc
          by_cases c1 : best < 0
          · try simp only [wpK_assoc]
            refine wpK_reg (fun R hR => by simp [h8, c1, undef]; exact hR) ?_
            try simp only [wpK_assoc]
            first | refine wpK_onT (by simp []) ?_ | refine wpK_outT (by simp []) ?_ | refine wpK_condT (by simp []) ?_ | refine wpK_endT (by simp []) ?_
            try simp only [wpK_assoc]
            refine wpK_reg1 (fun R hR => by simp [h10]; exact hR) ?_
            try simp only [wpK_assoc]
            refine wpK_reg1 (fun R hR => by simp [h10, hsi]; exact hR) ?_
            exact fin _ _ c i e4 (by simp [h1]) (by simp [h2]) (by simp [h3]) (by simp) (by simp) (by simp) hlt (s1 (.inl c1))
          by_cases c2 : c < best
          · try simp only [wpK_assoc]
            refine wpK_reg (fun R hR => by simp [h8, c1, c2]; exact hR) ?_
            try simp only [wpK_assoc]
            first | refine wpK_onT (by simp []) ?_ | refine wpK_outT (by simp []) ?_ | refine wpK_condT (by simp []) ?_ | refine wpK_endT (by simp []) ?_
            try simp only [wpK_assoc]
            refine wpK_reg1 (fun R hR => by simp [h10]; exact hR) ?_
            try simp only [wpK_assoc]
            refine wpK_reg1 (fun R hR => by simp [h10, hsi]; exact hR) ?_
            exact fin _ _ c i e4 (by simp [h1]) (by simp [h2]) (by simp [h3]) (by simp) (by simp) (by simp) hlt (s1 (.inr c2))
          try simp only [wpK_assoc]
          refine wpK_reg (fun R hR => by simp [h8, c1, c2]; exact hR) ?_
          try simp only [wpK_assoc]
          first | refine wpK_onF (by simp []) ?_ | refine wpK_out (by simp []) ?_ | refine wpK_condF (by simp []) ?_ | refine wpK_endF (by simp []) (wpK_skip ?_) | refine wpK_endF (by simp []) ?_
          try simp only [wpK_assoc]
          refine wpK_reg (fun R hR => by simp [h8]; exact hR) ?_
          by_cases c3 : c = best
          · have hand := aBinI_and .i64 com i (by show com < 9223372036854775808; omega) (by show i < 9223372036854775808; omega)
            have hle : com &&& i ≤ com := Nat.and_le_left
            try simp only [wpK_assoc]
            first | refine wpK_onT (by simp [c3]) ?_ | refine wpK_outT (by simp [c3]) ?_ | refine wpK_condT (by simp [c3]) ?_ | refine wpK_endT (by simp [c3]) ?_
            try simp only [wpK_assoc]
            refine wpK_reg1 (fun R hR => by simp [h9, h10, hand]; exact hR) ?_
            try simp only [wpK_assoc]
            refine wpK_reg1 (fun R hR => by simp [h10, hsi]; exact hR) ?_
            exact fin _ _ best (com &&& i) e4 (by simp [h1]) (by simp [h2]) (by simp [h3]) (by simp) (by simp [h8]) (by simp) (by omega) (s2 (by omega) c3)
          · try simp only [wpK_assoc]
            first | refine wpK_onF (by simp [c3]) ?_ | refine wpK_out (by simp [c3]) ?_ | refine wpK_condF (by simp [c3]) ?_ | refine wpK_endF (by simp [c3]) (wpK_skip ?_) | refine wpK_endF (by simp [c3]) ?_
            try simp only [wpK_assoc]
            refine wpK_reg1 (fun R hR => by simp [h10, hsi]; exact hR) ?_
            exact fin _ _ best com e4 (by simp [h1]) (by simp [h2]) (by simp [h3]) (by simp) (by simp [h8]) (by simp [h9]) hcom (s3 (by omega) (by omega))
    · have e : i = pw := by omega
      subst e
      try simp only [wpK_assoc]
      first | refine wpK_onF (by simp []) ?_ | refine wpK_out (by simp []) ?_ | refine wpK_condF (by simp []) ?_ | refine wpK_endF (by simp []) (wpK_skip ?_) | refine wpK_endF (by simp []) ?_
      have hbest : best = x ∧ com = S := by
        rcases hSeen with ⟨g1, _⟩ | ⟨_, ⟨T1, a1, a2, a3⟩, g2, g3⟩
        · exact absurd hSc (g1 S hS)
        · have b1 := g2 S hS hSc
          have b2 := (hmin T1 a2).1
          have hb : best = x := by omega
          refine ⟨hb, Nat.eq_of_testBit_eq fun q => ?_⟩
          rw [Bool.eq_iff_iff, g3 q]
          exact ⟨fun hall => hall S hS hSc (by omega), fun hq T hT hT2 he => (hmin T hT2).2 (by omega) q hq⟩
      obtain ⟨rfl, rfl⟩ := hbest
      exact hJ _ _ ⟨rfl, rfl, by simp [h1, h2, h3], by simp [h1, h2, h3], by simp [h1, h2, h3], e3, by simp [h8], by simp [h9]⟩
  · rintro A' W' hf; exact hf.elim
  · rintro ⟨tm, n, ds⟩ W3 ⟨hn, hd, h1, h2, h3, e3, h8, h9⟩
    simp only at hn hd h1 h2 h3
    subst hn; subst hd
    simp only at h8 h9
    try simp only [wpK_assoc]
    refine wpK_x1 (fun R hR => by
        simp [h3, h8, h9, l0, e3, aEnter, fun37, short_other, aCallV]; rw [callS_none]
        refine (members_wp P S (by omega) W3).mono ?_
        rintro sl W4 ⟨e34, hG⟩
        simp [h3, h8, h9, l0, e3]; exact hR sl W4 (And.intro e34 hG)) ?_
    rintro sl W4 ⟨e34, hG⟩
    exact wpK_ret ⟨.inr rfl, rfl, [.int .i64 x, sl], by simp, (hE0.trans e3).trans e34, sl, rfl, GrowsN.ints hG⟩

theorem refCap_wp {W : AW} {v sv : Value} {P : Int} {l : List Tri} {S : List Int} (h : TriIn W v l) (hS : IntL W sv S) (hlS : S.length < 4611686018427387904) (hok : planOk P (arcsQ l) = true) (B : Nat) (hB : ∀ f : Nat, f < 24 → decide ((f : Int) ∈ S) = B.testBit f) :
    WpF T0 36 [.agg ⟨[.int .i64 P, v]⟩, sv] W (fun u W' => Ext W W' ∧ u = .int .i64 (capQ B (arcsQ l))) := by
  have hin := arcsQ_in hok
  obtain ⟨hP2, hP24, h200⟩ := hin.size
  have hql : (arcsQ l).length = l.length := by simp [arcsQ]
  rw [hql] at h200
  obtain ⟨Av, cv, rfl, hA⟩ := h
  refine wpF fun36 rfl ?_
  obtain ⟨W0, hW0, hE0, hV0⟩ : ∃ W0, W0 = W.newCells 24 [.int .i64 P, .slice Av l.length cv] ∧ Ext W W0 ∧ Var W0 W.next 24 [.int .i64 P, .slice Av l.length cv] := ⟨_, rfl, .newCells _ _ _, Var.new _ _ _⟩
  have l1 := hV0.load1 (T := T0) und22 rfl (j := 1) (v := .slice Av l.length cv) rfl
  have hS0 := hS.ext hE0
  try simp only [wpK_assoc]
  refine wpK_reg (fun R hR => by simp [← hW0]; exact hR) ?_
  try simp only [wpK_assoc]
  refine wpK_reg (fun R hR => by simp []; exact hR) ?_
  try simp only [wpK_assoc]
  refine wpK_reg (fun R hR => by simp []; exact hR) ?_
  try simp only [wpK_assoc]
  refine wpK_while (I := fun k A W' => A.n = 42 ∧ A.defers = [] ∧ A.tmps.get 1 = some (sv) ∧ A.tmps.get 2 = some (.pointer (some ⟨W.next, 0, none⟩)) ∧ W' = W0 ∧ ∃ i : Nat, k = l.length - i ∧ i ≤ l.length ∧ A.tmps.get 6 = some (.int .i64 i) ∧ A.tmps.get 5 = some (.int .i64 (capQ B ((arcsQ l).take i))))
    (J := fun A W' => A.n = 42 ∧ A.defers = [] ∧ W' = W0 ∧ A.tmps.get 5 = some (.int .i64 (capQ B (arcsQ l))))
    (Rt := fun _ _ => False) (k := l.length) ?_ ?_ ?_ ?_
  · exact ⟨rfl, rfl, by simp, by simp, rfl, 0, by simp, by omega, by simp, by simp [capQ]⟩
  · rintro k ⟨tm, n, ds⟩ W3 ⟨hn, hd, h1, h2, rfl, i, hk, hi, h6, h5⟩ Q' hJ hRt hI
    simp only at hn hd h1 h2
    subst hn; subst hd
    simp only at h6 h5
    try simp only [wpK_assoc]
    refine wpK_reg (fun R hR => by simp [h2, h6, l1, len_slice und22]; exact hR) ?_
    by_cases hlt : i < l.length
    · try simp only [wpK_assoc]
      first | refine wpK_onT (by simp [hlt]) ?_ | refine wpK_outT (by simp [hlt]) ?_ | refine wpK_condT (by simp [hlt]) ?_ | refine wpK_endT (by simp [hlt]) ?_
      have ha : l[i]? = some l[i] := List.getElem?_eq_getElem hlt
      generalize l[i] = a at ha
      have haq : (arcsQ l)[i]? = some (a.1, a.2.1, a.2.2, 0) := by simp [arcsQ, ha]
      have hst1 := hin.step (a := (a.1, a.2.1, a.2.2, 0)) (List.mem_of_getElem? haq)
      have hsum := capQ_take (s := B) haq
      have hb := capQ_le hin B i (by omega)
      obtain ⟨a1, a2, a3⟩ := a
      simp only at hst1
      obtain ⟨f, rfl⟩ : ∃ f : Nat, a1 = f := ⟨a1.toNat, by omega⟩
      obtain ⟨g, rfl⟩ : ∃ g : Nat, a2 = g := ⟨a2.toNat, by omega⟩
      obtain ⟨b, o, rfl, q1, q2, q3⟩ := hA i _ ha
      have eV := indexAddr_tri (T := T0) und22 sz78 (b := b) (o := o) (c := cv) (k := .i64) hlt
      have la1 := load_of und3 rfl (q1.ext hE0)
      have la2 := load_of und3 rfl (q2.ext hE0)
      have la3 := load_of und2 rfl (q3.ext hE0)
      simp only at la1 la2 la3
      have hf1 := has50_wp hS0 hlS (f : Int)
      have hf2 := has50_wp hS0 hlS (g : Int)
      rw [hB f (by omega)] at hf1
      rw [hB g (by omega)] at hf2
      have ho : out1 B ((f : Int), (g : Int), a3, 0) = if B.testBit f && !B.testBit g then a3 else 0 := by
        simp only [out1, Int.toNat_natCast]; split <;> split <;> omega
      rw [ho] at hsum
      generalize capQ B ((arcsQ l).take i) = z at h5 hb hsum
      have w1 : IntKind.i64.wrap (z + a3) = z + a3 := IntWalk.i64_in _ (by omega)
      have hsi : IntKind.i64.wrap ((i : Int) + 1) = ((i + 1 : Nat) : Int) := i64_succ i (by omega)
      have fin : ∀ tm' : Tr Value, tm'.get 1 = some sv → tm'.get 2 = some (.pointer (some ⟨W.next, 0, none⟩)) → tm'.get 6 = some (.int .i64 ((i + 1 : Nat) : Int)) → tm'.get 5 = some (.int .i64 (z + if B.testBit f && !B.testBit g then a3 else 0)) → Q' .normal ⟨tm', 42, []⟩ W3 := fun tm' x1 x2 x6 x5 =>
        hI (k - 1) _ _ (by omega) ⟨rfl, rfl, x1, x2, rfl, i + 1, by omega, by omega, x6, by rw [x5, hsum]⟩
      refine wpK_block ?_
      cases hbf : B.testBit f with
      | false =>
        rw [hbf] at hf1
        try simp only [wpK_assoc]
        refine wpK_reg (fun R hR => by
            simp [h1, h2, h6, l1, eV, la1, aEnter, fun50, short_other, aCallV]; rw [callS_none]
            refine (hf1).mono ?_
            rintro _ W9 ⟨e9, rfl⟩; subst W9
            simp [undef]; exact hR) ?_
        try simp only [wpK_assoc]
        first | refine wpK_onF (by simp []) ?_ | refine wpK_out (by simp []) ?_ | refine wpK_condF (by simp []) ?_ | refine wpK_endF (by simp []) (wpK_skip ?_) | refine wpK_endF (by simp []) ?_
        try simp only [wpK_assoc]
        refine wpK_reg1 (fun R hR => by simp [h6, hsi]; exact hR) ?_
        exact fin _ (by simp [h1]) (by simp [h2]) (by simp) (by simp [-testBit_dec, hbf, h5])
      | true =>
        rw [hbf] at hf1
        cases hbg : B.testBit g with
        | true =>
          rw [hbg] at hf2
          try simp only [wpK_assoc]
          refine wpK_reg (fun R hR => by
            simp [h1, h2, h6, l1, eV, la1, aEnter, fun50, short_other, aCallV]; rw [callS_none]
            refine hf1.mono ?_
            rintro _ W9 ⟨e9, rfl⟩; subst W9
            simp [h1, h2, h6, l1, eV, la2, aEnter, fun50, short_other, aCallV]; rw [callS_none]
            refine hf2.mono ?_
            rintro _ W9 ⟨e9, rfl⟩; subst W9
            simp; exact hR) ?_
          try simp only [wpK_assoc]
          first | refine wpK_onF (by simp []) ?_ | refine wpK_out (by simp []) ?_ | refine wpK_condF (by simp []) ?_ | refine wpK_endF (by simp []) (wpK_skip ?_) | refine wpK_endF (by simp []) ?_
          try simp only [wpK_assoc]
          refine wpK_reg1 (fun R hR => by simp [h6, hsi]; exact hR) ?_
          exact fin _ (by simp [h1]) (by simp [h2]) (by simp) (by simp [-testBit_dec, hbf, hbg, h5])
        | false =>
          rw [hbg] at hf2
          try simp only [wpK_assoc]
          refine wpK_reg (fun R hR => by
            simp [h1, h2, h6, l1, eV, la1, aEnter, fun50, short_other, aCallV]; rw [callS_none]
            refine hf1.mono ?_
            rintro _ W9 ⟨e9, rfl⟩; subst W9
            simp [h1, h2, h6, l1, eV, la2, aEnter, fun50, short_other, aCallV]; rw [callS_none]
            refine hf2.mono ?_
            rintro _ W9 ⟨e9, rfl⟩; subst W9
            simp; exact hR) ?_
          try simp only [wpK_assoc]
          first | refine wpK_onT (by simp []) ?_ | refine wpK_outT (by simp []) ?_ | refine wpK_condT (by simp []) ?_ | refine wpK_endT (by simp []) ?_
          try simp only [wpK_assoc]
          refine wpK_reg1 (fun R hR => by simp [h2, h5, h6, l1, eV, la3, w1]; exact hR) ?_
          try simp only [wpK_assoc]
          refine wpK_reg1 (fun R hR => by simp [h6, hsi]; exact hR) ?_
          exact fin _ (by simp [h1]) (by simp [h2]) (by simp) (by simp [-testBit_dec, hbf, hbg])
    · have e : i = l.length := by omega
      rw [e, ← hql, List.take_length] at h5
      try simp only [wpK_assoc]
      first | refine wpK_onF (by simp [hlt]) ?_ | refine wpK_out (by simp [hlt]) ?_ | refine wpK_condF (by simp [hlt]) ?_ | refine wpK_endF (by simp [hlt]) (wpK_skip ?_) | refine wpK_endF (by simp [hlt]) ?_
      exact hJ _ _ ⟨rfl, rfl, rfl, by simp [h5]⟩
  · rintro A' W' hf; exact hf.elim
  · rintro ⟨tm, n, ds⟩ W' ⟨hn, hd, rfl, h5⟩
    simp only at hn hd h5
    subst hn; subst hd
    try simp only [wpK_assoc]
    refine wpK_reg (fun R hR => by simp [h5]; exact hR) ?_
    exact wpK_ret ⟨.inr rfl, rfl, [.int .i64 (capQ B (arcsQ l))], by simp, hE0, rfl⟩

theorem z3' : Tryd.t3.zero = some (.int .i64 0) := z3
theorem by3' : Tryd.t3.bytes = 8 := by3
abbrev Bra := Tri
def Joined (l : List Bra) (wo : Int) (x y : Int) : Prop := ∃ (i : Nat) (a : Bra), l[i]? = some a ∧ (i : Int) ≠ wo ∧ ((a.1 = x ∧ a.2.1 = y) ∨ (a.1 = y ∧ a.2.1 = x))
inductive Way (l : List Bra) (wo : Int) (x : Int) : Int → Prop
  | here : Way l wo x x
  | next {y z : Int} : Way l wo x y → Joined l wo y z → Way l wo x z
def ClosedB (l : List Bra) (wo : Int) (T : Int → Prop) : Prop := ∀ y z, T y → Joined l wo y z → T z
theorem Way.within {l : List Bra} {wo x : Int} {T : Int → Prop} (hT : ClosedB l wo T) (hx : T x) {y : Int} (h : Way l wo x y) : T y := by
  induction h with
  | here => exact hx
  | next _ hj ih => exact hT _ _ ih hj
theorem Joined.symm {l : List Bra} {wo x y : Int} (h : Joined l wo x y) : Joined l wo y x := by
  obtain ⟨i, a, h1, h2, h3⟩ := h
  exact ⟨i, a, h1, h2, h3.symm⟩
def inB (T : Nat) (x : Int) : Prop := 0 ≤ x ∧ T.testBit x.toNat = true
def stepB (wo : Int) (i : Nat) (a : Bra) (T : Nat) : Nat := if (i : Int) ≠ wo ∧ T.testBit a.1.toNat ≠ T.testBit a.2.1.toNat then T ||| (1 <<< a.1.toNat ||| 1 <<< a.2.1.toNat) else T
def roundB (wo : Int) : Nat → List Bra → Nat → Nat
  | _, [], T => T
  | i, a :: l, T => roundB wo (i + 1) l (stepB wo i a T)
def roundsB (l : List Bra) (wo : Int) : Nat → Nat → Nat
  | 0, T => T
  | n + 1, T => roundsB l wo n (roundB wo 0 l T)
def BrIn (n : Nat) (l : List Bra) : Prop := ∀ a ∈ l, 0 ≤ a.1 ∧ a.1 < n ∧ 0 ≤ a.2.1 ∧ a.2.1 < n
theorem stepB_bit {wo : Int} {i : Nat} {a : Bra} {T q : Nat} : (stepB wo i a T).testBit q = (T.testBit q || (decide ((i : Int) ≠ wo ∧ T.testBit a.1.toNat ≠ T.testBit a.2.1.toNat) && (decide (a.1.toNat = q) || decide (a.2.1.toNat = q)))) := by
  unfold stepB
  split
  · rename_i h
    rw [Nat.testBit_or, Nat.testBit_or, one_bit, one_bit, decide_eq_true h]; simp
  · rename_i h
    rw [decide_eq_false h]; simp
theorem stepB_le {wo : Int} {i : Nat} {a : Bra} {T q : Nat} (h : T.testBit q = true) : (stepB wo i a T).testBit q = true := by rw [stepB_bit, h]; rfl
theorem roundB_le {wo : Int} : ∀ {l : List Bra} {i T q : Nat}, T.testBit q = true → (roundB wo i l T).testBit q = true
  | [], _, _, _, h => h
  | a :: l, i, T, q, h => by rw [roundB]; exact roundB_le (l := l) (i := i + 1) (T := stepB wo i a T) (stepB_le h)
theorem roundB_in {wo : Int} {L : List Bra} {n : Nat} {C : Int → Prop} (hC : ClosedB L wo C) (hL : BrIn n L) : ∀ (l : List Bra) (i T : Nat), (∀ (j : Nat) a, l[j]? = some a → L[i + j]? = some a) → (∀ q : Nat, T.testBit q = true → C q) → ∀ q : Nat, (roundB wo i l T).testBit q = true → C q
  | [], _, _, _, hT, q, h => hT q h
  | a :: l, i, T, hl, hT, q, h => by
    have ha := hl 0 a rfl
    rw [Nat.add_zero] at ha
    have hb := hL a (List.mem_of_getElem? ha)
    refine roundB_in hC hL l (i + 1) (stepB wo i a T) (fun j b hj => by rw [show i + 1 + j = i + (j + 1) from by omega]; exact hl (j + 1) b (by simpa using hj)) (fun r hr => ?_) q h
    rw [stepB_bit] at hr
    cases hTr : T.testBit r with
    | true => exact hT r hTr
    | false =>
      rw [hTr, Bool.false_or, Bool.and_eq_true, decide_eq_true_eq, Bool.or_eq_true, decide_eq_true_eq, decide_eq_true_eq] at hr
      obtain ⟨⟨h1, h2⟩, h3⟩ := hr
      have e1 : ((a.1.toNat : Nat) : Int) = a.1 := by omega
      have e2 : ((a.2.1.toNat : Nat) : Int) = a.2.1 := by omega
      rcases h3 with h3 | h3
      · have : T.testBit a.2.1.toNat = true := by
          rw [h3, hTr] at h2
          cases hh : T.testBit a.2.1.toNat with
          | true => rfl
          | false => exact absurd hh.symm h2
        have := hC _ _ (hT _ this) ⟨i, a, ha, h1, .inr ⟨rfl, by rw [e2]⟩⟩
        rw [← h3, e1]; exact this
      · have : T.testBit a.1.toNat = true := by
          rw [h3, hTr] at h2
          cases hh : T.testBit a.1.toNat with
          | true => rfl
          | false => exact absurd hh h2
        have := hC _ _ (hT _ this) ⟨i, a, ha, h1, .inl ⟨by rw [e1], rfl⟩⟩
        rw [← h3, e2]; exact this
theorem roundB_same {wo : Int} : ∀ {l : List Bra} {i T : Nat}, (∀ q, (roundB wo i l T).testBit q = T.testBit q) → ∀ (j : Nat) a, l[j]? = some a → ((i + j : Nat) : Int) ≠ wo → T.testBit a.1.toNat = T.testBit a.2.1.toNat
  | [], _, _, _, j, a, h, _ => by simp at h
  | b :: l, i, T, hs, j, a, h, hw => by
    have h1 : ∀ q, (stepB wo i b T).testBit q = T.testBit q := fun q => by
      cases hT : T.testBit q with
      | true => exact stepB_le hT
      | false =>
        cases hS : (stepB wo i b T).testBit q with
        | false => rfl
        | true =>
          have := roundB_le (wo := wo) (l := l) (i := i + 1) hS
          have h2 := hs q
          rw [hT] at h2
          have h2' : (roundB wo (i + 1) l (stepB wo i b T)).testBit q = false := h2
          rw [this] at h2'; cases h2'
    have e : stepB wo i b T = T := Nat.eq_of_testBit_eq h1
    cases j with
    | zero =>
      simp at h; subst h
      rw [Nat.add_zero] at hw
      apply Classical.byContradiction
      intro hne
      have ha := h1 b.1.toNat
      have hb := h1 b.2.1.toNat
      rw [stepB_bit, decide_eq_true ⟨hw, hne⟩] at ha hb
      simp [-testBit_dec] at ha hb
      rw [ha, hb] at hne
      exact hne rfl
    | succ j =>
      have hs' : ∀ q, (roundB wo (i + 1) l T).testBit q = T.testBit q := fun q => by
        have := hs q
        rw [roundB, e] at this; exact this
      exact roundB_same hs' j a (by simpa using h) (by rw [show i + 1 + j = i + (j + 1) from by omega]; exact hw)
def cntB (T : Nat) : Nat → Nat
  | 0 => 0
  | n + 1 => cntB T n + (if T.testBit n then 1 else 0)
theorem cntB_le {T U : Nat} (h : ∀ q, T.testBit q = true → U.testBit q = true) : ∀ n, cntB T n ≤ cntB U n
  | 0 => Nat.le_refl _
  | n + 1 => by
    have := cntB_le h n
    rw [cntB, cntB]
    cases hT : T.testBit n with
    | false => simp only [Bool.false_eq_true, if_false]; split <;> omega
    | true => rw [h n hT]; omega
theorem cntB_lt {T U q : Nat} (h : ∀ q, T.testBit q = true → U.testBit q = true) (h1 : T.testBit q = false) (h2 : U.testBit q = true) : ∀ n, q < n → cntB T n < cntB U n
  | 0, hq => by omega
  | n + 1, hq => by
    rw [cntB, cntB]
    by_cases e : q = n
    · subst e
      have := cntB_le h q
      rw [h1, h2]; simp; omega
    · have := cntB_lt h h1 h2 n (by omega)
      cases hT : T.testBit n with
      | false => simp only [Bool.false_eq_true, if_false]; split <;> omega
      | true => rw [h n hT]; omega
theorem cntB_max (T : Nat) : ∀ n, cntB T n ≤ n
  | 0 => Nat.le_refl _
  | n + 1 => by have := cntB_max T n; rw [cntB]; split <;> omega
theorem cntB_pos {T q : Nat} (h : T.testBit q = true) : ∀ n, q < n → 0 < cntB T n
  | 0, hq => by omega
  | n + 1, hq => by
    rw [cntB]
    by_cases e : q = n
    · subst e; rw [h]; simp
    · have := cntB_pos h n (by omega); omega
theorem rounds_fix {l : List Bra} {wo : Int} {n : Nat} (hL : BrIn n l) : ∀ (k T : Nat), (∀ q : Nat, T.testBit q = true → q < n) → n ≤ k + cntB T n → (∀ q, (roundB wo 0 l (roundsB l wo k T)).testBit q = (roundsB l wo k T).testBit q) ∧ (∀ q, T.testBit q = true → (roundsB l wo k T).testBit q = true)
  | 0, T, hT, hk => by
    have hin := roundB_in (wo := wo) (L := l) (n := n) (C := fun x => 0 ≤ x ∧ x < n) (fun y z hy ⟨i, a, h1, _, h3⟩ => by
      have := hL a (List.mem_of_getElem? h1)
      rcases h3 with ⟨_, rfl⟩ | ⟨rfl, _⟩ <;> omega) hL l 0 T (fun j a h => by rw [Nat.zero_add]; exact h) (fun q hq => by have := hT q hq; omega)
    refine ⟨fun q => ?_, fun q h => h⟩
    show (roundB wo 0 l T).testBit q = T.testBit q
    cases hq : T.testBit q with
    | true => exact roundB_le hq
    | false =>
      cases hr : (roundB wo 0 l T).testBit q with
      | false => rfl
      | true =>
        have h1 := (hin q hr).2
        have := cntB_lt (T := T) (U := roundB wo 0 l T) (fun q => roundB_le) hq hr n (by omega)
        have := cntB_max (roundB wo 0 l T) n
        omega
  | k + 1, T, hT, hk => by
    have hin := roundB_in (wo := wo) (L := l) (n := n) (C := fun x => 0 ≤ x ∧ x < n) (fun y z hy ⟨i, a, h1, _, h3⟩ => by
      have := hL a (List.mem_of_getElem? h1)
      rcases h3 with ⟨_, rfl⟩ | ⟨rfl, _⟩ <;> omega) hL l 0 T (fun j a h => by rw [Nat.zero_add]; exact h) (fun q hq => by have := hT q hq; omega)
    have hin' : ∀ q : Nat, (roundB wo 0 l T).testBit q = true → q < n := fun q hq => by have := hin q hq; omega
    rw [roundsB]
    by_cases hs : ∀ q, (roundB wo 0 l T).testBit q = T.testBit q
    · have e : roundB wo 0 l T = T := Nat.eq_of_testBit_eq hs
      have key : ∀ k, roundsB l wo k T = T := fun k => by
        induction k with
        | zero => rfl
        | succ k ih => rw [roundsB, e, ih]
      rw [e, key k]
      exact ⟨hs, fun q h => h⟩
    · have : ∃ q, (roundB wo 0 l T).testBit q = true ∧ T.testBit q = false := by
        apply Classical.byContradiction
        intro hn
        apply hs
        intro q
        cases hq : T.testBit q with
        | true => exact roundB_le hq
        | false =>
          cases hr : (roundB wo 0 l T).testBit q with
          | false => rfl
          | true => exact absurd ⟨q, hr, hq⟩ hn
      obtain ⟨q, h1, h2⟩ := this
      have hlt := cntB_lt (T := T) (U := roundB wo 0 l T) (fun q => roundB_le) h2 h1 n (hin' q h1)
      obtain ⟨g1, g2⟩ := rounds_fix hL k (roundB wo 0 l T) hin' (by omega)
      exact ⟨g1, fun q hq => g2 q (roundB_le hq)⟩
theorem reach_way {l : List Bra} {wo : Int} {n f : Nat} (hL : BrIn n l) (hf : f < n) (hn : n ≤ l.length + 1) (q : Nat) : (roundsB l wo l.length (1 <<< f)).testBit q = true ↔ Way l wo f q := by
  have h0 : ∀ q : Nat, (1 <<< f).testBit q = true → q < n := fun q hq => by rw [one_bit] at hq; simp at hq; omega
  have hc : 0 < cntB (1 <<< f) n := cntB_pos (q := f) (by rw [one_bit]; simp) n hf
  obtain ⟨g1, g2⟩ := rounds_fix (wo := wo) hL l.length (1 <<< f) h0 (by omega)
  have hin : ∀ (k T : Nat) (C : Int → Prop), ClosedB l wo C → (∀ q : Nat, T.testBit q = true → C q) → ∀ q : Nat, (roundsB l wo k T).testBit q = true → C q := by
    intro k
    induction k with
    | zero => intro T C _ hT q h; exact hT q h
    | succ k ih => intro T C hC hT q h; exact ih _ C hC (roundB_in hC hL l 0 T (fun j a h => by rw [Nat.zero_add]; exact h) hT) q h
  constructor
  · intro h
    refine hin l.length (1 <<< f) (fun x => Way l wo f x) (fun y z hy hj => .next hy hj) (fun q hq => ?_) q h
    rw [one_bit] at hq; simp at hq; subst hq; exact .here
  · intro h
    have hcl : ClosedB l wo (inB (roundsB l wo l.length (1 <<< f))) := fun y z hy ⟨i, a, h1, h2, h3⟩ => by
      have hs := roundB_same g1 i a h1 (by rw [Nat.zero_add]; exact h2)
      have hb := hL a (List.mem_of_getElem? h1)
      rcases h3 with ⟨rfl, rfl⟩ | ⟨rfl, rfl⟩
      · exact ⟨hb.2.2.1, by rw [← hs]; exact hy.2⟩
      · exact ⟨hb.1, by rw [hs]; exact hy.2⟩
    have := h.within hcl ⟨by omega, by rw [Int.toNat_natCast]; exact g2 f (by rw [one_bit]; simp)⟩
    simpa using this.2
theorem sz66 : aSize T0 66 = some 3 := by kernel_rfl
theorem field66 (b o f : Nat) (hf : f < 3) : aField T0 66 (.pointer (some ⟨b, o, none⟩)) f = some (.pointer (some ⟨b, o + f, none⟩)) := by
  match f, hf with
  | 0, _ => rfl
  | 1, _ => rfl
  | 2, _ => rfl
theorem und66 : T0.und.get 66 = some Tryd.t65.desc := by kernel_rfl
theorem agg66 : isAggD Tryd.t65.desc = true := by kernel_rfl
theorem inf66 : T0.info.get 66 = some Tryd.t66 := by kernel_rfl
theorem is66 : Tryd.t66.size = 3 := by kernel_rfl
theorem z66 : Tryd.t66.zero = some (.agg ⟨[.int .i64 0, .int .i64 0, .int .i64 0]⟩) := by kernel_rfl
theorem by66 : Tryd.t66.bytes = 24 := by kernel_rfl
theorem zero66 : aZero T0 66 = some (.agg ⟨[.int .i64 0, .int .i64 0, .int .i64 0]⟩) := by kernel_rfl
theorem sz97 : aSize T0 97 = some 3 := by kernel_rfl
theorem field97 (b o f : Nat) (hf : f < 3) : aField T0 97 (.pointer (some ⟨b, o, none⟩)) f = some (.pointer (some ⟨b, o + f, none⟩)) := by
  match f, hf with
  | 0, _ => rfl
  | 1, _ => rfl
  | 2, _ => rfl
theorem inf97 : T0.info.get 97 = some Tryd.t97 := by kernel_rfl
theorem is97 : Tryd.t97.size = 3 := by kernel_rfl
theorem z97 : Tryd.t97.zero = some (.agg ⟨[.int .i64 0, .int .i64 0, .int .i64 0]⟩) := by kernel_rfl
theorem by97 : Tryd.t97.bytes = 24 := by kernel_rfl
theorem und92 : T0.und.get 92 = some (.slice 97) := by kernel_rfl
theorem bs92 (W : AW) (x y z : Value) : aBuildSlice T0 W 92 1 [(0, .agg ⟨[x, y, z]⟩)] = some (.slice (some ⟨W.next, 0, none⟩) 1 2, W.newCells 97 [x, y, z]) := by kernel_rfl
theorem below_wp (n : Nat) (hn : n ≤ 31) (W : AW) : WpF T0 82 [.int .i64 n] W (fun v W' => W' = W ∧ v = .int .u64 ((2 ^ n - 1 : Nat) : Int)) := by
  refine wpF fun82 rfl ?_
  have hp : 2 ^ n ≤ 2 ^ 31 := Nat.pow_le_pow_right (by omega) hn
  have h0 : 0 < 2 ^ n := Nat.two_pow_pos n
  have h1 : aBinI .shl .u64 1 .i64 (n : Int) = some (.int .u64 ((2 ^ n : Nat) : Int)) := by
    have := aBinI_shl .u64 .i64 1 n (by show n ≤ 64; omega) (by rw [Nat.one_mul]; show 2 ^ n < 18446744073709551616; omega)
    rw [Nat.shiftLeft_eq, Nat.one_mul] at this; exact this
  have w : IntKind.u64.wrap (((2 ^ n : Nat) : Int) - 1) = ((2 ^ n - 1 : Nat) : Int) := by
    have : (((2 ^ n : Nat) : Int) - 1) = ((2 ^ n - 1 : Nat) : Int) := by omega
    rw [this]; exact wrap_nat .u64 _ (by show 2 ^ n - 1 < 18446744073709551616; omega)
  generalize ((2 ^ n : Nat) : Int) = pw at h1 w
  generalize ((2 ^ n - 1 : Nat) : Int) = pm at w
  try simp only [wpK_assoc]
  refine wpK_reg (fun R hR => by simp []; exact hR) ?_
  try simp only [wpK_assoc]
  refine wpK_reg (fun R hR => by simp [h1, w]; exact hR) ?_
  exact wpK_ret ⟨.inr rfl, rfl, [.int .u64 pm], by simp, rfl, rfl⟩
theorem stepB_lt {wo : Int} {i : Nat} {a : Bra} {T n : Nat} (h : T < 2 ^ n) (h1 : a.1.toNat < n) (h2 : a.2.1.toNat < n) : stepB wo i a T < 2 ^ n := by
  unfold stepB
  split
  · refine Nat.or_lt_two_pow h (Nat.or_lt_two_pow ?_ ?_)
    · rw [Nat.shiftLeft_eq, Nat.one_mul]; exact Nat.pow_lt_pow_right (by omega) h1
    · rw [Nat.shiftLeft_eq, Nat.one_mul]; exact Nat.pow_lt_pow_right (by omega) h2
  · exact h
theorem roundB_snoc (wo : Int) : ∀ (l : List Bra) (i T : Nat) (a : Bra), roundB wo i (l ++ [a]) T = stepB wo (i + l.length) a (roundB wo i l T)
  | [], i, T, a => by simp [roundB]
  | b :: l, i, T, a => by
    rw [List.cons_append, roundB, roundB, roundB_snoc wo l (i + 1) _ a, List.length_cons]
    congr 1; omega
theorem roundsB_succ (l : List Bra) (wo : Int) : ∀ (n T : Nat), roundsB l wo (n + 1) T = roundB wo 0 l (roundsB l wo n T)
  | 0, _ => rfl
  | n + 1, T => by rw [roundsB, roundsB_succ l wo n, roundsB]
theorem reach_wp {W : AW} {v : Value} {l : List Bra} {n f : Nat} (h : TriIn W v l) (hl : l.length ≤ 100) (hL : BrIn n l) (hn : n ≤ 31) (hf : f < n) (wo : Int) :
    WpF T0 69 [v, .int .i64 f, .int .i64 wo] W (fun u W' => Ext W W' ∧ u = .int .u64 ((roundsB l wo l.length (1 <<< f) : Nat) : Int) ∧ roundsB l wo l.length (1 <<< f) < 2 ^ n) := by
  obtain ⟨Av, cv, rfl, hA⟩ := h
  refine wpF fun69 rfl ?_
  have hp : 2 ^ n ≤ 2 ^ 31 := Nat.pow_le_pow_right (by omega) hn
  have h1 := one_wp f (by omega) W
  have hof : 1 <<< f < 2 ^ n := by rw [Nat.shiftLeft_eq, Nat.one_mul]; exact Nat.pow_lt_pow_right (by omega) hf
  generalize h1f : 1 <<< f = s0 at h1 hof
  try simp only [wpK_assoc]
  refine wpK_reg (fun R hR => by simp []; exact hR) ?_
  try simp only [wpK_assoc]
  refine wpK_reg (fun R hR => by
      simp [aEnter, fun54, short_other, aCallV]; rw [callS_none]
      refine (h1).mono ?_
      rintro _ W9 ⟨e9, rfl⟩; subst W9
      simp []; exact hR) ?_
  try simp only [wpK_assoc]
  refine wpK_reg (fun R hR => by simp [len_slice und59]; exact hR) ?_
  try simp only [wpK_assoc]
  refine wpK_while (I := fun k A W' => A.n = 49 ∧ A.defers = [] ∧ A.tmps.get 0 = some (.slice Av l.length cv) ∧ A.tmps.get 2 = some (.int .i64 wo) ∧ A.tmps.get 13 = some (.int .i64 l.length) ∧ Ext W W' ∧ ∃ i T : Nat, k = l.length - i ∧ i ≤ l.length ∧ A.tmps.get 14 = some (.int .i64 i) ∧ T = roundsB l wo i s0 ∧ T < 2 ^ n ∧ A.tmps.get 7 = some (.int .u64 (T : Int)))
    (J := fun A W' => A.n = 49 ∧ A.defers = [] ∧ Ext W W' ∧ ∃ T : Nat, T = roundsB l wo l.length s0 ∧ T < 2 ^ n ∧ A.tmps.get 7 = some (.int .u64 (T : Int)))
    (Rt := fun _ _ => False) (k := l.length) ?_ ?_ ?_ ?_
  · exact ⟨rfl, rfl, by simp, by simp, by simp, .refl _ _, 0, s0, by simp, by omega, by simp, rfl, hof, by simp⟩
  · rintro k ⟨tm, n, ds⟩ W3 ⟨hn, hd, h0, h2, h13, e3, i, T, hk, hi, h14, hT, hTn, h7⟩ Q' hJ hRt hI
    simp only at hn hd h0 h2 h13
    subst hn; subst hd
    simp only at h14 h7
    try simp only [wpK_assoc]
    refine wpK_reg (fun R hR => by simp [h13, h14]; exact hR) ?_
    by_cases hlt : i < l.length
    case neg =>
      have e : i = l.length := by omega
      try simp only [wpK_assoc]
      first | refine wpK_onF (by simp [hlt]) ?_ | refine wpK_out (by simp [hlt]) ?_ | refine wpK_condF (by simp [hlt]) ?_ | refine wpK_endF (by simp [hlt]) (wpK_skip ?_) | refine wpK_endF (by simp [hlt]) ?_
      exact hJ _ _ ⟨rfl, rfl, e3, T, by rw [hT, e], hTn, by simp [h7]⟩
    try simp only [wpK_assoc]
    first | refine wpK_onT (by simp [hlt]) ?_ | refine wpK_outT (by simp [hlt]) ?_ | refine wpK_condT (by simp [hlt]) ?_ | refine wpK_endT (by simp [hlt]) ?_
    have hsi : IntKind.i64.wrap ((i : Int) + 1) = ((i + 1 : Nat) : Int) := i64_succ i (by omega)
    refine wpK_block ?_
    try simp only [wpK_assoc]
    refine wpK_reg (fun R hR => by simp [h0, len_slice und59]; exact hR) ?_
    try simp only [wpK_assoc]
    refine wpK_while1 (I := fun k A W' => A.n = 49 ∧ A.defers = [] ∧ A.tmps.get 0 = some (.slice Av l.length cv) ∧ A.tmps.get 2 = some (.int .i64 wo) ∧ A.tmps.get 13 = some (.int .i64 l.length) ∧ A.tmps.get 14 = some (.int .i64 i) ∧ A.tmps.get 16 = some (.slice Av l.length cv) ∧ A.tmps.get 17 = some (.int .i64 l.length) ∧ Ext W W' ∧ ∃ j U : Nat, k = l.length - j ∧ j ≤ l.length ∧ A.tmps.get 18 = some (.int .i64 j) ∧ U = roundB wo 0 (l.take j) T ∧ U < 2 ^ n ∧ A.tmps.get 7 = some (.int .u64 (U : Int)))
      (J := fun A W' => A.n = 49 ∧ A.defers = [] ∧ A.tmps.get 0 = some (.slice Av l.length cv) ∧ A.tmps.get 2 = some (.int .i64 wo) ∧ A.tmps.get 13 = some (.int .i64 l.length) ∧ Ext W W' ∧ A.tmps.get 14 = some (.int .i64 i) ∧ ∃ U : Nat, U = roundB wo 0 l T ∧ U < 2 ^ n ∧ A.tmps.get 7 = some (.int .u64 (U : Int)))
      (Rt := fun _ _ => False) (k := l.length) ?_ ?_ ?_ ?_
    · exact ⟨rfl, rfl, by simp [h0, h2, h13, h14], by simp [h0, h2, h13, h14], by simp [h0, h2, h13, h14], by simp [h0, h2, h13, h14], by simp [h0, h2, h13, h14], by simp [h0, h2, h13, h14], e3, 0, T, by simp, by omega, by simp, by simp [roundB], hTn, by simp [h7]⟩
    · rintro kk ⟨tm, n, ds⟩ W4 ⟨hn, hd, h0, h2, h13, h14, h16, h17, e4, j, U, hkk, hj, h18, hU, hUn, h7⟩ Q3 hJ3 hRt3 hI3
      simp only at hn hd h0 h2 h13 h14 h16 h17
      subst hn; subst hd
      simp only at h18 h7
      try simp only [wpK_assoc]
      refine wpK_reg (fun R hR => by simp [h17, h18]; exact hR) ?_
      by_cases hltj : j < l.length
      case neg =>
        have e : j = l.length := by omega
        rw [e, List.take_length] at hU
        try simp only [wpK_assoc]
        first | refine wpK_onF (by simp [hltj]) ?_ | refine wpK_out (by simp [hltj]) ?_ | refine wpK_condF (by simp [hltj]) ?_ | refine wpK_endF (by simp [hltj]) (wpK_skip ?_) | refine wpK_endF (by simp [hltj]) ?_
        exact hJ3 _ _ ⟨rfl, rfl, by simp [h0, h2, h13], by simp [h0, h2, h13], by simp [h0, h2, h13], e4, by simp [h14], U, hU, hUn, by simp [h7]⟩
      try simp only [wpK_assoc]
      first | refine wpK_onT (by simp [hltj]) ?_ | refine wpK_outT (by simp [hltj]) ?_ | refine wpK_condT (by simp [hltj]) ?_ | refine wpK_endT (by simp [hltj]) ?_
      have ha : l[j]? = some l[j] := List.getElem?_eq_getElem hltj
      have hmem : l[j] ∈ l := List.getElem_mem hltj
      generalize l[j] = a at ha hmem
      have hb := hL a hmem
      have hsn : roundB wo 0 (l.take (j + 1)) T = stepB wo j a U := by
        have : l.take (j + 1) = l.take j ++ [a] := by rw [List.take_add_one, ha]; rfl
        rw [this, roundB_snoc, ← hU, List.length_take, Nat.zero_add, Nat.min_eq_left (by omega)]
      have hslt := stepB_lt (wo := wo) (i := j) (a := a) hUn (show a.1.toNat < n by omega) (show a.2.1.toNat < n by omega)
      obtain ⟨a1, a2, a3⟩ := a
      simp only at hb
      obtain ⟨x, rfl⟩ : ∃ x : Nat, a1 = x := ⟨a1.toNat, by omega⟩
      obtain ⟨y, rfl⟩ : ∃ y : Nat, a2 = y := ⟨a2.toNat, by omega⟩
      obtain ⟨b, o, hAv, q1, q2, q3⟩ := hA j _ ha
      have eV := indexAddr_tri (T := T0) und59 sz66 (b := b) (o := o) (c := cv) (k := .i64) hltj
      rw [← hAv] at eV
      have hl3 := load3 (T := T0) und66 agg66 inf66 is66 (q1.ext e4) (q2.ext e4) (q3.ext e4)
      obtain ⟨W5, s1, s2, hE5, hV5⟩ := storeVar_new (T := T0) (W := W4) (t := 66) (v := .agg ⟨[.int .i64 x, .int .i64 y, .int .i64 a3]⟩) (z := [.int .i64 0, .int .i64 0, .int .i64 0]) inf66 (by rw [is66]; rfl) (by rw [is66]; rfl) rfl
      have e5 := e4.trans hE5
      have lx : aLoadVar T0 W5 3 W4.next 0 = some (.int .i64 x) := hV5.load1 (T := T0) und3 rfl (j := 0) (v := .int .i64 x) rfl
      have ly : aLoadVar T0 W5 3 W4.next 1 = some (.int .i64 y) := hV5.load1 (T := T0) und3 rfl (j := 1) (v := .int .i64 y) rfl
      have hsj : IntKind.i64.wrap ((j : Int) + 1) = ((j + 1 : Nat) : Int) := i64_succ j (by omega)
      refine wpK_block ?_
      try simp only [wpK_assoc]
      refine wpK_reg (fun R hR => by simp [h16, h18, eV, hl3, zero66, s1]; exact hR) ?_
      have hx1 := has_wp U x (by omega) (by omega) W5
      have hy1 := has_wp U y (by omega) (by omega) W5
      obtain ⟨bx, hbx⟩ : ∃ c : Bool, c = U.testBit x := ⟨_, rfl⟩
      obtain ⟨by', hby⟩ : ∃ c : Bool, c = U.testBit y := ⟨_, rfl⟩
      rw [← hbx] at hx1
      rw [← hby] at hy1
      refine wpK_cut1 (J := fun A W' => A.n = 49 ∧ A.defers = [] ∧ A.tmps.get 0 = some (.slice Av l.length cv) ∧ A.tmps.get 2 = some (.int .i64 wo) ∧ A.tmps.get 13 = some (.int .i64 l.length) ∧ A.tmps.get 14 = some (.int .i64 i) ∧ A.tmps.get 16 = some (.slice Av l.length cv) ∧ A.tmps.get 17 = some (.int .i64 l.length) ∧ W' = W5 ∧ A.tmps.get 18 = some (.int .i64 j) ∧ A.tmps.get 7 = some (.int .u64 ((stepB wo j ((x : Int), (y : Int), a3) U : Nat) : Int))) (fun Q2 hQ2 => ?_) ?_
      · by_cases c1 : (j : Int) = wo
        · have hst : stepB wo j ((x : Int), (y : Int), a3) U = U := by unfold stepB; rw [if_neg (fun h => h.1 c1)]
          try simp only [wpK_assoc]
          refine wpK_dn (wr := Tr.nil |>.set 23 0 |>.set 24 1 |>.set 25 2 |>.set 26 3 |>.set 27 4 |>.set 28 5 |>.set 29 6 |>.set 30 7 |>.set 31 8 |>.set 32 9 |>.set 33 10 |>.set 34 11 |>.set 35 12 |>.set 36 13) (bits := Tr.nil.lay 0 [0, 0, 3, 7, 15, 15, 47, 127, 15, 15, 527, 2047, 4095, 8191]) (ord := [0, 1, 2, 3, 4, 5, 6, 7, 8, 9, 10, 11, 12, 13]) (by kernel_rfl) (by kernel_rfl) (by kernel_rfl) (fun G hG => by
            simp [h2, c1, undef]
            exact hG) ?_
          refine wpK_endF (by simp) (wpK_skip (hQ2 _ _ ⟨rfl, rfl, by simp [h0, h2, h13, h14, h16, h17], by simp [h0, h2, h13, h14, h16, h17], by simp [h0, h2, h13, h14, h16, h17], by simp [h0, h2, h13, h14, h16, h17], by simp [h0, h2, h13, h14, h16, h17], by simp [h0, h2, h13, h14, h16, h17], rfl, by simp [h18], by rw [hst]; simp [h7]⟩))
        by_cases c2 : bx = by'
        · have hst : stepB wo j ((x : Int), (y : Int), a3) U = U := by
            unfold stepB; rw [if_neg (fun h => h.2 (by
              show U.testBit ((x : Int)).toNat = U.testBit ((y : Int)).toNat
              rw [Int.toNat_natCast, Int.toNat_natCast, ← hbx, ← hby]; exact c2))]
          subst c2
          clear hbx hby
          try simp only [wpK_assoc]
          refine wpK_dn (wr := Tr.nil |>.set 23 0 |>.set 24 1 |>.set 25 2 |>.set 26 3 |>.set 27 4 |>.set 28 5 |>.set 29 6 |>.set 30 7 |>.set 31 8 |>.set 32 9 |>.set 33 10 |>.set 34 11 |>.set 35 12 |>.set 36 13) (bits := Tr.nil.lay 0 [0, 0, 3, 7, 15, 15, 47, 127, 15, 15, 527, 2047, 4095, 8191]) (ord := [0, 1, 2, 3, 4, 5, 6, 7, 8, 9, 10, 11, 12, 13]) (by kernel_rfl) (by kernel_rfl) (by kernel_rfl) (fun G hG => by
            simp [h2, h7, c1, lx, aEnter, fun62, short_other, aCallV, field66]
            rw [dcallS_none]
            refine hx1.mono ?_
            rintro _ W9 ⟨e9, rfl⟩; subst W9
            simp [h2, h7, c1, lx, ly, aEnter, fun62, short_other, aCallV, field66]
            rw [dcallS_none]
            refine hy1.mono ?_
            rintro _ W9 ⟨e9, rfl⟩; subst W9
            simp [h2, h7, c1, lx, ly, aGuard, aBinO, aEq, und4, field66]
            exact hG) ?_
          refine wpK_endF (by simp) (wpK_skip (hQ2 _ _ ⟨rfl, rfl, by simp [h0, h2, h13, h14, h16, h17], by simp [h0, h2, h13, h14, h16, h17], by simp [h0, h2, h13, h14, h16, h17], by simp [h0, h2, h13, h14, h16, h17], by simp [h0, h2, h13, h14, h16, h17], by simp [h0, h2, h13, h14, h16, h17], rfl, by simp [h18], by rw [hst]; simp [h7]⟩))
        · have hst : stepB wo j ((x : Int), (y : Int), a3) U = U ||| (1 <<< x ||| 1 <<< y) := by
            unfold stepB; rw [if_pos ⟨c1, by
              show ¬ U.testBit ((x : Int)).toNat = U.testBit ((y : Int)).toNat
              rw [Int.toNat_natCast, Int.toNat_natCast, ← hbx, ← hby]; exact c2⟩]; rfl
          clear hbx hby
          have o1 := one_wp x (by omega) W5
          have o2 := one_wp y (by omega) W5
          have ho1 := one_lt (p := x) (by omega)
          have ho2 := one_lt (p := y) (by omega)
          have hor1 := aBinI_or .u64 (1 <<< x) (1 <<< y) ho1 ho2
          have hlt2 : 1 <<< x ||| 1 <<< y < 18446744073709551616 := Nat.or_lt_two_pow (n := 64) ho1 ho2
          have hor2 := aBinI_or .u64 U (1 <<< x ||| 1 <<< y) (by show U < 18446744073709551616; omega) hlt2
          generalize U ||| (1 <<< x ||| 1 <<< y) = r2 at hor2 hst
          generalize 1 <<< x ||| 1 <<< y = r1 at hor1 hor2
          generalize 1 <<< x = r3 at hor1 o1
          generalize 1 <<< y = r4 at hor1 o2
          have hne : (bx == by') = false := by simpa using c2
          try simp only [wpK_assoc]
          refine wpK_dn (wr := Tr.nil |>.set 23 0 |>.set 24 1 |>.set 25 2 |>.set 26 3 |>.set 27 4 |>.set 28 5 |>.set 29 6 |>.set 30 7 |>.set 31 8 |>.set 32 9 |>.set 33 10 |>.set 34 11 |>.set 35 12 |>.set 36 13) (bits := Tr.nil.lay 0 [0, 0, 3, 7, 15, 15, 47, 127, 15, 15, 527, 2047, 4095, 8191]) (ord := [0, 1, 2, 3, 4, 5, 6, 7, 8, 9, 10, 11, 12, 13]) (by kernel_rfl) (by kernel_rfl) (by kernel_rfl) (fun G hG => by
            simp [h2, h7, c1, lx, aEnter, fun62, short_other, aCallV, field66]
            rw [dcallS_none]
            refine hx1.mono ?_
            rintro _ W9 ⟨e9, rfl⟩; subst W9
            simp [h2, h7, c1, lx, ly, aEnter, fun62, short_other, aCallV, field66]
            rw [dcallS_none]
            refine hy1.mono ?_
            rintro _ W9 ⟨e9, rfl⟩; subst W9
            simp [h2, h7, c1, lx, ly, aGuard, aBinO, aEq, und4, field66, hne]
            exact hG) ?_
          try simp only [wpK_assoc]
          first | refine wpK_onT (by simp []) ?_ | refine wpK_outT (by simp []) ?_ | refine wpK_condT (by simp []) ?_ | refine wpK_endT (by simp []) ?_
          try simp only [wpK_assoc]
          refine wpK_qn (wr := Tr.nil |>.set 37 0 |>.set 38 1 |>.set 39 2 |>.set 40 3 |>.set 41 4 |>.set 42 5 |>.set 43 6 |>.set 44 7 |>.set 45 8 |>.set 7 9) (bits := Tr.nil.lay 0 [0, 0, 2, 6, 0, 16, 62, 126, 255, 511]) (ord := [0, 1, 2, 3, 4, 5, 6, 7, 8, 9]) (by kernel_rfl) (by kernel_rfl) (by kernel_rfl) (fun G hG => by
            simp [h7, lx, aEnter, fun54, short_other, aCallV, field66]
            rw [dcallS_none]
            refine o1.mono ?_
            rintro _ W9 ⟨e9, rfl⟩; subst W9
            simp [h7, lx, ly, aEnter, fun54, short_other, aCallV, field66]
            rw [dcallS_none]
            refine o2.mono ?_
            rintro _ W9 ⟨e9, rfl⟩; subst W9
            simp [h7, lx, ly, hor1, hor2, field66]
            exact hG) ?_
          exact hQ2 _ _ ⟨rfl, rfl, by simp [h0, h2, h13, h14, h16, h17], by simp [h0, h2, h13, h14, h16, h17], by simp [h0, h2, h13, h14, h16, h17], by simp [h0, h2, h13, h14, h16, h17], by simp [h0, h2, h13, h14, h16, h17], by simp [h0, h2, h13, h14, h16, h17], rfl, by simp [h18], by rw [hst]; simp⟩
      rintro ⟨tm, n, ds⟩ W6 ⟨hn, hd, h0, h2, h13, h14, h16, h17, rfl, h18, h7⟩
      simp only at hn hd h0 h2 h13 h14 h16 h17
      subst hn; subst hd
      simp only at h18 h7
      try simp only [wpK_assoc]
      refine wpK_reg1 (fun R hR => by simp [h18, hsj]; exact hR) ?_
      exact hI3 (kk - 1) _ _ (by omega) ⟨rfl, rfl, by simp [h0, h2, h13, h14, h16, h17], by simp [h0, h2, h13, h14, h16, h17], by simp [h0, h2, h13, h14, h16, h17], by simp [h0, h2, h13, h14, h16, h17], by simp [h0, h2, h13, h14, h16, h17], by simp [h0, h2, h13, h14, h16, h17], e5, j + 1, _, by omega, by omega, by simp, hsn.symm, hslt, by simp [h7]⟩
    · rintro A' W' hf; exact hf.elim
    · rintro ⟨tm, n, ds⟩ W4 ⟨hn, hd, h0, h2, h13, e4, h14, U, hU, hUn, h7⟩
      simp only at hn hd h0 h2 h13
      subst hn; subst hd
      simp only at h14 h7
      try simp only [wpK_assoc]
      refine wpK_reg1 (fun R hR => by simp [h14, hsi]; exact hR) ?_
      exact hI (k - 1) _ _ (by omega) ⟨rfl, rfl, by simp [h0, h2, h13], by simp [h0, h2, h13], by simp [h0, h2, h13], e4, i + 1, U, by omega, by omega, by simp, by rw [roundsB_succ, ← hT, hU], hUn, by simp [h7]⟩
  · rintro A' W' hf; exact hf.elim
  · rintro ⟨tm, n', ds⟩ W3 ⟨hn', hd, e3, T, hT, hTn, h7⟩
    simp only at hn' hd h7
    subst hn'; subst hd
    try simp only [wpK_assoc]
    refine wpK_reg (fun R hR => by simp [h7]; exact hR) ?_
    exact wpK_ret ⟨.inr rfl, rfl, [.int .u64 (T : Int)], by simp, e3, by rw [hT]; rfl, by rw [← hT]; exact hTn⟩
theorem flt_bs22 {ρ : Operand → Option Value} {o : Operand} {x y z : Int} (h : ρ o = some (.agg ⟨[.int .i64 x, .int .i64 y, .int .i64 z]⟩)) : aFlt T0 ρ (.buildSlice 22 1 #[(0, o)]) = some ⟨78, [.int .i64 x, .int .i64 y, .int .i64 z], false, 1, 1⟩ := by
  have hp : aParts ρ [(0, o)] = some [(0, .agg ⟨[.int .i64 x, .int .i64 y, .int .i64 z]⟩)] := by simp [aParts, h]
  have hf : aFill (fun j => some (j * 3, 3)) (rep [.int .i64 0, .int .i64 0, .int .i64 0] 1) [(0, .agg ⟨[.int .i64 x, .int .i64 y, .int .i64 z]⟩)] = some [.int .i64 x, .int .i64 y, .int .i64 z] := by kernel_rfl
  simp only [aFlt, hp, und22, inf78, z78, is78, acells]
  rw [show Nat.ble (1 * 3) 16777216 = true from rfl]
  simp only [List.length_cons, List.length_nil, Nat.beq_refl]
  rw [hf]
theorem flt_bs25 {ρ : Operand → Option Value} {o : Operand} {x y z : Int} (h : ρ o = some (.agg ⟨[.int .i64 x, .int .i64 y, .int .i64 z]⟩)) : aFlt T0 ρ (.buildSlice 25 1 #[(0, o)]) = some ⟨109, [.int .i64 x, .int .i64 y, .int .i64 z], false, 1, 1⟩ := by
  have hp : aParts ρ [(0, o)] = some [(0, .agg ⟨[.int .i64 x, .int .i64 y, .int .i64 z]⟩)] := by simp [aParts, h]
  have hf : aFill (fun j => some (j * 3, 3)) (rep [.int .i64 0, .int .i64 0, .int .i64 0] 1) [(0, .agg ⟨[.int .i64 x, .int .i64 y, .int .i64 z]⟩)] = some [.int .i64 x, .int .i64 y, .int .i64 z] := by kernel_rfl
  simp only [aFlt, hp, und25, inf109, z109, is109, acells]
  rw [show Nat.ble (1 * 3) 16777216 = true from rfl]
  simp only [List.length_cons, List.length_nil, Nat.beq_refl]
  rw [hf]
theorem build109 (x y z : Int) : aBuild T0 109 [(0, .int .i64 x), (1, .int .i64 y), (2, .int .i64 z)] = some (.agg ⟨[.int .i64 x, .int .i64 y, .int .i64 z]⟩) := by kernel_rfl
theorem tamed_wp (pl m : Nat) (hpl : 2 ≤ pl) (hpl2 : pl ≤ 24) (hm : m ≤ 1000) {W : AW} {v : Value} (N0 : Int) {l : List Tri} (h : TriIn W v l) (hlen : l.length < 9223372036854775808) :
    WpF T0 42 [.agg ⟨[.int .i64 N0, v]⟩, .int .i64 pl, .int .i64 m] W (fun u W' => Ext W W' ∧ ∃ (P : Nat) (l' : List Tri) (v' : Value), TameOk P pl m l' ∧ u = .agg ⟨[.int .i64 P, v']⟩ ∧ GrowsN W' v' l'.length (flat3 l') 109 3 (fun b => W.next ≤ b)) := by
  obtain ⟨A, c, rfl, hA⟩ := h
  refine wpF fun42 rfl ?_
  obtain ⟨W1, hW1, hE1, hn1, hV0, hV1⟩ : ∃ W1, W1 = (W.newCells 27 [.int .i64 N0, .slice A l.length c]).newCells 27 [.int .i64 0, .slice none 0 0] ∧ Ext W W1 ∧ W1.next = W.next + 2 ∧ Var W1 W.next 27 [.int .i64 N0, .slice A l.length c] ∧ Var W1 (W.next + 1) 27 [.int .i64 0, .slice none 0 0] :=
    ⟨_, rfl, (Only.newCells _ _ _).trans (Only.newCells _ _ _), rfl, (Var.new _ _ _).ext (.newCells _ _ _), Var.new _ _ _⟩
  obtain ⟨W2, s1, s2, hE2, hV2⟩ := storeVar_new (T := T0) (W := W1) (t := 24) (v := .agg ⟨[.int .i64 N0, .slice none 0 0]⟩) (z := [.int .i64 0, .slice none 0 0]) inf24 (by rw [is24]; rfl) (by rw [is24]; rfl) rfl
  have hl0 := hV0.load1 (T := T0) und3 rfl (j := 0) (v := .int .i64 N0) rfl
  try simp only [wpK_assoc]
  refine wpK_reg (fun R hR => by simp [zero27, newCells_next, ← hW1]; exact hR) ?_
  try simp only [wpK_assoc]
  refine wpK_reg (fun R hR => by simp [hl0, build24, zero24, s1]; exact hR) ?_
  try simp only [wpK_assoc]
  refine wpK_reg (fun R hR => by simp []; exact hR) ?_
  have hE12 := hE1.trans hE2
  have hV02 := hV0.ext hE2
  have hV12 := hV1.ext hE2
  rw [hn1] at hV2 s2
  have l01 : ∀ W', Ext W2 W' → aLoadVar T0 W' 25 W.next 1 = some (.slice A l.length c) := fun W' h => (hV02.ext h).load1 (T := T0) und25 rfl (j := 1) (v := .slice A l.length c) rfl
  try simp only [wpK_assoc]
  refine wpK_while (I := fun k B W' => B.n = 94 ∧ B.defers = [] ∧ B.tmps.get 1 = some (.int .i64 pl) ∧ B.tmps.get 2 = some (.int .i64 m) ∧ B.tmps.get 3 = some (.pointer (some ⟨W.next, 0, none⟩)) ∧ B.tmps.get 6 = some (.pointer (some ⟨W.next + 1, 0, none⟩)) ∧ B.tmps.get 7 = some (.pointer (some ⟨W.next + 2, 0, none⟩)) ∧ Only (fun b => b = W.next + 2) W2 W' ∧ ∃ (i : Nat) (w : Value), k = l.length - i ∧ i ≤ l.length ∧ i ≤ m ∧ B.tmps.get 8 = some (.int .i64 i) ∧ Var W' (W.next + 2) 24 [.int .i64 N0, w] ∧ GrowsN W' w i (flat3 (l.take i)) 78 3 (fun b => W2.next ≤ b))
    (J := fun B W' => B.n = 94 ∧ B.defers = [] ∧ B.tmps.get 1 = some (.int .i64 pl) ∧ B.tmps.get 2 = some (.int .i64 m) ∧ B.tmps.get 3 = some (.pointer (some ⟨W.next, 0, none⟩)) ∧ B.tmps.get 6 = some (.pointer (some ⟨W.next + 1, 0, none⟩)) ∧ B.tmps.get 7 = some (.pointer (some ⟨W.next + 2, 0, none⟩)) ∧ Only (fun b => b = W.next + 2) W2 W' ∧ ∃ (w : Value) (l1 : List Tri), Var W' (W.next + 2) 24 [.int .i64 N0, w] ∧ TriIn W' w l1 ∧ l1.length < 9223372036854775808) (Rt := fun _ _ => False) (k := l.length) ?_ ?_ ?_ ?_
  · exact ⟨rfl, rfl, by simp [hn1], by simp [hn1], by simp [hn1], by simp [hn1], by simp [hn1], Only_refl _, 0, .slice none 0 0, by simp, by omega, by omega, by simp, hV2, .nil _ _ _ _⟩
  · rintro k ⟨tm, n, ds⟩ W3 ⟨hn, hd, h1, h2, h3, h6, h7, hO3, i, w, hk, hi, him, h8, hV3, hGr⟩ Q' hJ hRt hI
    simp only at hn hd h1 h2 h3 h6 h7
    subst hn; subst hd
    simp only at h8
    have n3 := hO3.1
    have hV03 := hV02.only hO3 (by omega)
    have l03 := hV03.load1 (T := T0) und25 rfl (j := 1) (v := .slice A l.length c) rfl
    have out : ∀ (tm' : Tr Value), tm'.get 1 = some (.int .i64 pl) → tm'.get 2 = some (.int .i64 m) → tm'.get 3 = some (.pointer (some ⟨W.next, 0, none⟩)) → tm'.get 6 = some (.pointer (some ⟨W.next + 1, 0, none⟩)) → tm'.get 7 = some (.pointer (some ⟨W.next + 2, 0, none⟩)) → Q' (.exit 0) ⟨tm', 94, []⟩ W3 := fun tm' x1 x2 x3 x6 x7 =>
      hJ _ _ ⟨rfl, rfl, x1, x2, x3, x6, x7, hO3, w, l.take i, hV3, GrowsN.tri (by rw [List.length_take, Nat.min_eq_left hi]; exact hGr), by rw [List.length_take]; omega⟩
    by_cases hlt : i < l.length
    case neg =>
      try simp only [wpK_assoc]
      refine wpK_reg (fun R hR => by simp [h3, h8, l03, len_slice und25, hlt, undef]; exact hR) ?_
      try simp only [wpK_assoc]
      first | refine wpK_onF (by simp []) ?_ | refine wpK_out (by simp []) ?_ | refine wpK_condF (by simp []) ?_ | refine wpK_endF (by simp []) (wpK_skip ?_) | refine wpK_endF (by simp []) ?_
      exact out _ (by simp [h1]) (by simp [h2]) (by simp [h3]) (by simp [h6]) (by simp [h7])
    by_cases hltm : i < m
    case neg =>
      try simp only [wpK_assoc]
      refine wpK_reg (fun R hR => by simp [h2, h3, h8, l03, len_slice und25, hlt, hltm]; exact hR) ?_
      try simp only [wpK_assoc]
      first | refine wpK_onF (by simp []) ?_ | refine wpK_out (by simp []) ?_ | refine wpK_condF (by simp []) ?_ | refine wpK_endF (by simp []) (wpK_skip ?_) | refine wpK_endF (by simp []) ?_
      exact out _ (by simp [h1]) (by simp [h2]) (by simp [h3]) (by simp [h6]) (by simp [h7])
    try simp only [wpK_assoc]
    refine wpK_reg (fun R hR => by simp [h2, h3, h8, l03, len_slice und25, hlt, hltm]; exact hR) ?_
    try simp only [wpK_assoc]
    first | refine wpK_onT (by simp []) ?_ | refine wpK_outT (by simp []) ?_ | refine wpK_condT (by simp []) ?_ | refine wpK_endT (by simp []) ?_
    have hl1 : i ≤ 1000 := by omega
    have ha : l[i]? = some l[i] := List.getElem?_eq_getElem hlt
    generalize l[i] = a at ha
    obtain ⟨b', o, rfl, q1, q2, q3⟩ := hA i a ha
    have eV := indexAddr_tri (T := T0) und25 sz109 (b := b') (o := o) (c := c) (k := .i64) hlt
    have n2 := hE12.1
    have hq : ∀ {W' : AW}, Only (fun b => b = W.next + 2 ∨ W2.next ≤ b) W2 W' → aLoadVar T0 W' 25 W.next 1 = some (.slice (some ⟨b', o, none⟩) l.length c) ∧ aLoadVar T0 W' 3 b' (o + 3 * i) = some (.int .i64 a.1) ∧ aLoadVar T0 W' 3 b' (o + 3 * i + 1) = some (.int .i64 a.2.1) ∧ aLoadVar T0 W' 2 b' (o + 3 * i + 2) = some (.int .i64 a.2.2) := fun {W'} hO =>
      ⟨(hV02.only hO (by omega)).load1 (T := T0) und25 rfl (j := 1) (v := .slice (some ⟨b', o, none⟩) l.length c) rfl,
       load_of und3 rfl ((q1.ext hE12).only hO (by have := q1.1; omega)), load_of und3 rfl ((q2.ext hE12).only hO (by have := q2.1; omega)), load_of und2 rfl ((q3.ext hE12).only hO (by have := q3.1; omega))⟩
    have oW3 : Only (fun b => b = W.next + 2 ∨ W2.next ≤ b) W2 W3 := ⟨hO3.1, fun b hb hk => hO3.2 b hb (fun e => hk (.inl e))⟩
    have hl2 := hV3.load1 (T := T0) und22 rfl (j := 1) (v := w) rfl
    obtain ⟨w', W4, W5, a1, a2, a3, a4, a5, a6, a7⟩ := Var.push (T := T0) (t := 22) (el := 78) (i := Tryd.t78) (it := Tryd.t22) (sz := 3) (by omega) und22 inf78 is78 z78 rfl inf22 is22 hGr hV3 (o := 1) (by omega) (by simp) (u := cells3 a) rfl (oneCells_tri a) (by rw [by78]; omega) (by omega)
    have a1 : aAppend T0 (W3.newCells 78 [.int .i64 a.1, .int .i64 a.2.1, .int .i64 a.2.2]) [22, 22] [w, .slice (some ⟨W3.next, 0, none⟩) 1 2] = some (w', W4) := a1
    obtain ⟨p1, p2, p3, p4⟩ := hq oW3
    have oWf : Only (fun b => b = W.next + 2 ∨ W2.next ≤ b) W2 (W3.newCells 78 [.int .i64 a.1, .int .i64 a.2.1, .int .i64 a.2.2]) := ⟨by rw [newCells_next]; omega, fun b hb hk => by rw [newCells_get, if_neg (by omega)]; exact oW3.2 b hb hk⟩
    obtain ⟨r1, r2, r3, r4⟩ := hq oWf
    have fb := fun (ρ : Operand → Option Value) (o : Operand) => flt_bs22 (ρ := ρ) (o := o) (x := a.1) (y := a.2.1) (z := a.2.2)
    have fr1 := freshB_new W3 78 [.int .i64 a.1, .int .i64 a.2.1, .int .i64 a.2.2] (by simp [listEq, valEq])
    have hsi : IntKind.i64.wrap ((i : Int) + 1) = ((i + 1 : Nat) : Int) := i64_succ i (by omega)
    refine wpK_block ?_
    try simp only [wpK_assoc]
    refine wpK_reg (fun R hR => by simp [h7, hl2]; exact hR) ?_
    try simp only [wpK_assoc]
    refine wpK_qn (wr := Tr.nil |>.set 31 0 |>.set 32 1 |>.set 33 2 |>.set 34 3 |>.set 35 4 |>.set 36 5 |>.set 37 6 |>.set 38 7 |>.set 39 8 |>.set 40 9 |>.set 41 10 |>.set 42 11 |>.set 43 12 |>.set 44 13 |>.set 45 14 |>.set 46 15 |>.set 47 16 |>.set 48 17 |>.set 49 18 |>.set 50 19 |>.set 51 20 |>.set 52 21 |>.set 53 22) (bits := Tr.nil.lay 0 [0, 0, 2, 0, 14, 30, 62, 0, 128, 0, 896, 1920, 3968, 0, 8192, 0, 57344, 122880, 253952, 524286, 1048574, 2097151, 4194303, 8388607]) (ord := [0, 1, 2, 3, 4, 5, 6, 7, 8, 9, 10, 11, 12, 13, 14, 15, 16, 17, 18, 19, 20, 21, 22, 23]) (by kernel_rfl) (by kernel_rfl) (by kernel_rfl) (fun G hG => by
      simp [h3, h7, h8, p1, p2, p3, p4, r1, r2, r3, r4, eV, build78', fb, AFlt.val, fr1, a1, a2, a3, a4, newCells_next]
      exact hG) ?_
    try simp only [wpK_assoc]
    refine wpK_reg1 (fun R hR => by simp [h8, hsi]; exact hR) ?_
    have hO5 : Only (fun b => b = W.next + 2) W2 W5 := ⟨by omega, fun b hb hk => by rw [a7.2 b (by omega) (by omega)]; exact hO3.2 b hb hk⟩
    refine hI (k - 1) _ _ (by omega) ⟨rfl, rfl, by simp [h1, h2, h3, h6, h7], by simp [h1, h2, h3, h6, h7], by simp [h1, h2, h3, h6, h7], by simp [h1, h2, h3, h6, h7], by simp [h1, h2, h3, h6, h7], hO5, i + 1, w', by omega, by omega, by omega, by simp, by simpa using a5, ?_⟩
    rw [List.take_add_one, ha, Option.toList_some, flat3_append]
    have : flat3 [a] = cells3 a := by simp [flat3]
    rw [this]
    exact a6.mono (fun b hb => by
      rcases hb with hb | hb
      · exact hb
      · omega)
  · rintro A' W' hf; exact hf.elim
  rintro ⟨tm, n, ds⟩ W3 ⟨hn, hd, h1, h2, h3, h6, h7, hO3, w, l1, hV3, hT1, hlen1⟩
  simp only at hn hd h1 h2 h3 h6 h7
  subst hn; subst hd
  have n3 := hO3.1
  have n2 := hE12.1
  have hl3 := load24 hV3
  have hE03 : Ext W W3 := ⟨by omega, fun b hb hk => by rw [hO3.2 b (by omega) (by omega)]; exact hE12.2 b hb hk⟩
  have hV13 := hV12.only hO3 (by omega)
  -- the network, and its arcs as links
  try simp only [wpK_assoc]
  refine wpK_x4 (fun R hR => by
    simp [h1, h2, h7, hl3, aEnter, fun30, short_other, aCallV]; rw [callS_none]
    refine (tame_wp pl m hpl hpl2 hm N0 hT1 hlen1).mono ?_
    rintro _ W4 ⟨hE4, P, l', v', hT, rfl, hG⟩
    obtain ⟨av, cv, hvs⟩ := hG.len
    obtain ⟨W5, s1, s2, hE5, hVx⟩ := storeVar_new (T := T0) (W := W4) (t := 24) (v := .agg ⟨[.int .i64 P, v']⟩) (z := [.int .i64 0, .slice none 0 0]) inf24 (by rw [is24]; rfl) (by rw [is24]; rfl) (by rw [hvs]; rfl)
    simp [zero24, s1]
    exact hR P l' v' W4 W5 (And.intro (hE4.trans hE5) (And.intro hT (And.intro hVx (And.intro hE4.1 (And.intro s2 ((hG.tri).ext hE5))))))) ?_
  rintro P l' v' W4 W5 ⟨hE5, hT, hVx, n4, n5, hTri⟩
  have n5' : W4.next < W5.next := by omega
  generalize hpx : W4.next = px at hVx n5 n5' n4
  have hE05 : Ext W W5 := hE03.trans hE5
  have hV15 := hV13.ext hE5
  have hP2 := hT.P2
  have hll := hT.len
  obtain ⟨W6, s1, s2, hE6, hV6⟩ := storeVar_new (T := T0) (W := W5) (t := 27) (v := .agg ⟨[.int .i64 P, .slice none 0 0]⟩) (z := [.int .i64 0, .slice none 0 0]) inf27 (by rw [is27]; rfl) (by rw [is27]; rfl) rfl
  have hlP := hVx.load1 (T := T0) und3 rfl (j := 0) (v := .int .i64 P) rfl
  try simp only [wpK_assoc]
  refine wpK_reg (fun R hR => by simp [hlP, build27, zero27, s1]; exact hR) ?_
  try simp only [wpK_assoc]
  refine wpK_reg (fun R hR => by simp []; exact hR) ?_
  have hVx6 := hVx.ext hE6
  have hV16 := hV15.ext hE6
  have n6 := hE6.1
  obtain ⟨A6, c6, hvx, hA6⟩ := hTri
  subst hvx
  have hE06 := hE05.trans hE6
  have n06 := hE06.1
  have n3' := hE03.1
  try simp only [wpK_assoc]
  refine wpK_while (I := fun k B W' => B.n = 94 ∧ B.defers = [] ∧ B.tmps.get 6 = some (.pointer (some ⟨W.next + 1, 0, none⟩)) ∧ B.tmps.get 10 = some (.pointer (some ⟨px, 0, none⟩)) ∧ B.tmps.get 11 = some (.pointer (some ⟨W5.next, 0, none⟩)) ∧ Only (fun b => b = W5.next) W6 W' ∧ ∃ (i : Nat) (w : Value), k = l'.length - i ∧ i ≤ l'.length ∧ B.tmps.get 12 = some (.int .i64 i) ∧ Var W' W5.next 27 [.int .i64 P, w] ∧ GrowsN W' w i (flat3 (l'.take i)) 109 3 (fun b => W6.next ≤ b))
    (J := fun B W' => B.n = 94 ∧ B.defers = [] ∧ B.tmps.get 6 = some (.pointer (some ⟨W.next + 1, 0, none⟩)) ∧ B.tmps.get 11 = some (.pointer (some ⟨W5.next, 0, none⟩)) ∧ Only (fun b => b = W5.next) W6 W' ∧ ∃ (w : Value), Var W' W5.next 27 [.int .i64 P, w] ∧ GrowsN W' w l'.length (flat3 l') 109 3 (fun b => W6.next ≤ b)) (Rt := fun _ _ => False) (k := l'.length) ?_ ?_ ?_ ?_
  · exact ⟨rfl, rfl, by simp [h6, hpx], by simp [h6, hpx], by simp [h6, hpx], Only_refl _, 0, .slice none 0 0, by simp, by omega, by simp, hV6, .nil _ _ _ _⟩
  · rintro k ⟨tm, n, ds⟩ W7 ⟨hn, hd, h6, h10, h11, hO7, i, w2, hk, hi, h12, hV7, hGr⟩ Q' hJ hRt hI
    simp only at hn hd h6 h10 h11
    subst hn; subst hd
    simp only at h12
    have n7 := hO7.1
    have hVx7 := hVx6.only hO7 (by omega)
    have l71 := hVx7.load1 (T := T0) und22 rfl (j := 1) (v := .slice A6 l'.length c6) rfl
    try simp only [wpK_assoc]
    refine wpK_reg (fun R hR => by simp [h10, h12, l71, len_slice und22]; exact hR) ?_
    by_cases hlt : i < l'.length
    case neg =>
      have e : i = l'.length := by omega
      rw [e, List.take_length] at hGr
      try simp only [wpK_assoc]
      first | refine wpK_onF (by simp [hlt]) ?_ | refine wpK_out (by simp [hlt]) ?_ | refine wpK_condF (by simp [hlt]) ?_ | refine wpK_endF (by simp [hlt]) (wpK_skip ?_) | refine wpK_endF (by simp [hlt]) ?_
      exact hJ _ _ ⟨rfl, rfl, by simp [h6], by simp [h11], hO7, w2, hV7, hGr⟩
    try simp only [wpK_assoc]
    first | refine wpK_onT (by simp [hlt]) ?_ | refine wpK_outT (by simp [hlt]) ?_ | refine wpK_condT (by simp [hlt]) ?_ | refine wpK_endT (by simp [hlt]) ?_
    have ha : l'[i]? = some l'[i] := List.getElem?_eq_getElem hlt
    generalize l'[i] = a at ha
    obtain ⟨b', o, rfl, q1, q2, q3⟩ := hA6 i a ha
    have eV := indexAddr_tri (T := T0) und22 sz78 (b := b') (o := o) (c := c6) (k := .i64) hlt
    have hq : ∀ {W' : AW}, Only (fun b => b = W5.next ∨ W6.next ≤ b) W6 W' → aLoadVar T0 W' 22 px 1 = some (.slice (some ⟨b', o, none⟩) l'.length c6) ∧ aLoadVar T0 W' 3 b' (o + 3 * i) = some (.int .i64 a.1) ∧ aLoadVar T0 W' 3 b' (o + 3 * i + 1) = some (.int .i64 a.2.1) ∧ aLoadVar T0 W' 2 b' (o + 3 * i + 2) = some (.int .i64 a.2.2) := fun {W'} hO =>
      ⟨(hVx6.only hO (by omega)).load1 (T := T0) und22 rfl (j := 1) (v := .slice (some ⟨b', o, none⟩) l'.length c6) rfl,
       load_of und3 rfl ((q1.ext hE6).only hO (by have := q1.1; omega)), load_of und3 rfl ((q2.ext hE6).only hO (by have := q2.1; omega)), load_of und2 rfl ((q3.ext hE6).only hO (by have := q3.1; omega))⟩
    have oW7 : Only (fun b => b = W5.next ∨ W6.next ≤ b) W6 W7 := ⟨hO7.1, fun b hb hk => hO7.2 b hb (fun e => hk (.inl e))⟩
    have hl2 := hV7.load1 (T := T0) und25 rfl (j := 1) (v := w2) rfl
    obtain ⟨w', W8, W9, a1, a2, a3, a4, a5, a6, a7⟩ := Var.push (T := T0) (t := 25) (el := 109) (i := Tryd.t109) (it := Tryd.t25) (sz := 3) (by omega) und25 inf109 is109 z109 rfl inf25 is25 hGr hV7 (o := 1) (by omega) (by simp) (u := cells3 a) rfl (oneCells_tri a) (by rw [by109]; omega) (by omega)
    have a1 : aAppend T0 (W7.newCells 109 [.int .i64 a.1, .int .i64 a.2.1, .int .i64 a.2.2]) [25, 25] [w2, .slice (some ⟨W7.next, 0, none⟩) 1 2] = some (w', W8) := a1
    obtain ⟨p1, p2, p3, p4⟩ := hq oW7
    have oWf : Only (fun b => b = W5.next ∨ W6.next ≤ b) W6 (W7.newCells 109 [.int .i64 a.1, .int .i64 a.2.1, .int .i64 a.2.2]) := ⟨by rw [newCells_next]; omega, fun b hb hk => by rw [newCells_get, if_neg (by omega)]; exact oW7.2 b hb hk⟩
    obtain ⟨r1, r2, r3, r4⟩ := hq oWf
    have fb := fun (ρ : Operand → Option Value) (o : Operand) => flt_bs25 (ρ := ρ) (o := o) (x := a.1) (y := a.2.1) (z := a.2.2)
    have fr1 := freshB_new W7 109 [.int .i64 a.1, .int .i64 a.2.1, .int .i64 a.2.2] (by simp [listEq, valEq])
    have hsi : IntKind.i64.wrap ((i : Int) + 1) = ((i + 1 : Nat) : Int) := i64_succ i (by omega)
    refine wpK_block ?_
    try simp only [wpK_assoc]
    refine wpK_reg (fun R hR => by simp [h11, hl2]; exact hR) ?_
    try simp only [wpK_assoc]
    refine wpK_qn (wr := Tr.nil |>.set 70 0 |>.set 71 1 |>.set 72 2 |>.set 73 3 |>.set 74 4 |>.set 75 5 |>.set 76 6 |>.set 77 7 |>.set 78 8 |>.set 79 9 |>.set 80 10 |>.set 81 11 |>.set 82 12 |>.set 83 13 |>.set 84 14 |>.set 85 15 |>.set 86 16 |>.set 87 17 |>.set 88 18 |>.set 89 19 |>.set 90 20 |>.set 91 21 |>.set 92 22) (bits := Tr.nil.lay 0 [0, 0, 2, 0, 14, 30, 62, 0, 128, 0, 896, 1920, 3968, 0, 8192, 0, 57344, 122880, 253952, 524286, 1048574, 2097151, 4194303, 8388607]) (ord := [0, 1, 2, 3, 4, 5, 6, 7, 8, 9, 10, 11, 12, 13, 14, 15, 16, 17, 18, 19, 20, 21, 22, 23]) (by kernel_rfl) (by kernel_rfl) (by kernel_rfl) (fun G hG => by
      simp [h10, h11, h12, p1, p2, p3, p4, r1, r2, r3, r4, eV, build109, fb, AFlt.val, fr1, a1, a2, a3, a4, newCells_next]
      exact hG) ?_
    try simp only [wpK_assoc]
    refine wpK_reg1 (fun R hR => by simp [h12, hsi]; exact hR) ?_
    have hO9 : Only (fun b => b = W5.next) W6 W9 := ⟨by omega, fun b hb hk => by rw [a7.2 b (by omega) (by omega)]; exact hO7.2 b hb hk⟩
    refine hI (k - 1) _ _ (by omega) ⟨rfl, rfl, by simp [h6, h10, h11], by simp [h6, h10, h11], by simp [h6, h10, h11], hO9, i + 1, w', by omega, by omega, by simp, by simpa using a5, ?_⟩
    rw [List.take_add_one, ha, Option.toList_some, flat3_append]
    have : flat3 [a] = cells3 a := by simp [flat3]
    rw [this]
    exact a6.mono (fun b hb => by
      rcases hb with hb | hb
      · exact hb
      · omega)
  · rintro A' W' hf; exact hf.elim
  · rintro ⟨tm, n, ds⟩ W7 ⟨hn, hd, h6, h11, hO7, w2, hV7, hGr⟩
    simp only at hn hd h6 h11
    subst hn; subst hd
    have n7 := hO7.1
    obtain ⟨av, cv, hvs⟩ := hGr.len
    have hl := load27 hV7
    obtain ⟨W8, t1, t2, t3, t4⟩ := (hV16.only hO7 (by omega)).store (T := T0) (t := 27) (v := .agg ⟨[.int .i64 P, w2]⟩) (o := 0) inf27 (by rw [is27]; rfl) (by simp) (by rw [hvs]; rfl)
    have hl4 := t4.load (T := T0) und27 agg27 inf27 (by rw [is27]; rfl)
    try simp only [wpK_assoc]
    refine wpK_reg (fun R hR => by simp [h6, h11, hl, t1]; exact hR) ?_
    refine wpK_ret ⟨.inr rfl, rfl, [.agg ⟨[.int .i64 P, w2]⟩], by simp at hl4; simp [h6, hl4], ?_, P, l', w2, hT, rfl, ?_⟩
    · exact ⟨by omega, fun b hb hk => by rw [t3.2 b (by omega) (by omega), hO7.2 b (by omega) (by omega)]; exact hE06.2 b hb hk⟩
    · exact (hGr.only t3 (fun b _ hb e => by omega)).mono (fun b hb => by omega)
theorem push3_tmp {W : AW} {v : Value} {n : Nat} {l u : List Value} {K : Nat → Prop} {t el : TypeId} {i : TypeInfo} {z : Value} (ht : T0.und.get t = some (.slice el)) (hi : T0.info.get el = some i) (hs : i.size = 3) (hz : i.zero = some z) (hz3 : (acells z).length = 3) (hby : i.bytes = 24)
    (h : GrowsN W v n l el 3 K) (hl : n ≤ 1000) (hu3 : u.length = 3) (hu : oneCells u = true) :
    ∃ v' W', aAppend T0 (W.newCells el u) [t, t] [v, .slice (some ⟨W.next, 0, none⟩) 1 2] = some (v', W') ∧ W'.next = W.next + 2 ∧ GrowsN W' v' (n + 1) (l ++ u) el 3 (fun b => K b ∨ b = W.next + 1) ∧ Only K W W' := by
  have hE : Ext W (W.newCells el u) := .newCells _ _ _
  have h1 := h.only (K' := fun _ => False) hE (fun _ _ _ y => y)
  obtain ⟨v', W', a1, a2, a3, a4⟩ := append_growsN (T := T0) (t := t) (el := el) (c := 2) (by omega) ht hi hs hz hz3 h1 (u := u) hu3 (newCells_cellsAt W el u 3 hu3) hu (by rw [hby]; omega) (by omega)
  refine ⟨v', W', a1, by rw [a2, newCells_next], ?_, ?_⟩
  · rw [newCells_next] at a3; exact a3
  · refine ⟨by rw [a2, newCells_next]; omega, fun b hb hk => ?_⟩
    rw [a4.2 b (by rw [newCells_next]; omega) hk]
    exact hE.2 b hb (fun y => y)
def bothL (l : List Tri) : List Tri := l.flatMap fun a => [(a.1, a.2.1, a.2.2), (a.2.1, a.1, a.2.2)]
theorem bothL_len : ∀ l : List Tri, (bothL l).length = 2 * l.length
  | [] => rfl
  | a :: l => by
    have := bothL_len l
    simp only [bothL, List.flatMap_cons, List.length_append, List.length_cons, List.length_nil] at this ⊢
    omega
theorem bothL_snoc (l : List Tri) (a : Tri) : bothL (l ++ [a]) = bothL l ++ [(a.1, a.2.1, a.2.2)] ++ [(a.2.1, a.1, a.2.2)] := by simp [bothL]
theorem capQ_both (S : Nat) : ∀ l : List Tri, capQ S (arcsQ (bothL l)) = capQ S (linksQ l)
  | [] => rfl
  | a :: l => by
    have ih := capQ_both S l
    have e : arcsQ (bothL (a :: l)) = (a.1, a.2.1, a.2.2, 0) :: (a.2.1, a.1, a.2.2, 0) :: arcsQ (bothL l) := by simp [bothL, arcsQ]
    rw [e]
    simp only [linksQ, List.map_cons, capQ, List.sum_cons] at ih ⊢
    rw [show (List.map (out1 S) (arcsQ (bothL l))).sum = (List.map (out1 S) (List.map (fun a => (a.1, a.2.1, a.2.2, a.2.2)) l)).sum from ih]
    simp only [out1]
    split <;> split <;> simp <;> omega
theorem both_ok {P : Int} {l : List Tri} (h : planOk P (arcsQ l) = true) (h100 : l.length ≤ 100) : planOk P (arcsQ (bothL l)) = true := by
  have hin := arcsQ_in h
  obtain ⟨h1, h2, _⟩ := hin.size
  simp only [planOk, Bool.and_eq_true, decide_eq_true_eq, List.all_eq_true]
  refine ⟨⟨⟨h1, h2⟩, by simp [arcsQ, bothL_len]; omega⟩, fun q hq => ?_⟩
  simp only [arcsQ, bothL, List.mem_map, List.mem_flatMap] at hq
  obtain ⟨x, ⟨a, ha, hx⟩, rfl⟩ := hq
  have hst := hin.step (a := (a.1, a.2.1, a.2.2, 0)) (by simp only [arcsQ, List.mem_map]; exact ⟨a, ha, rfl⟩)
  simp only at hst
  simp only [List.mem_cons, List.not_mem_nil, or_false] at hx
  rcases hx with rfl | rfl <;> simp [okStep, two?] <;> omega
theorem both_wp {W : AW} {v : Value} {P : Int} {l : List Tri} (h : TriIn W v l) (hlen : l.length ≤ 200) :
    WpF T0 43 [.agg ⟨[.int .i64 P, v]⟩] W (fun u W' => Ext W W' ∧ ∃ v', u = .agg ⟨[.int .i64 P, v']⟩ ∧ GrowsN W' v' (bothL l).length (flat3 (bothL l)) 78 3 (fun b => W.next ≤ b)) := by
  obtain ⟨A, c, rfl, hA⟩ := h
  refine wpF fun43 rfl ?_
  obtain ⟨W1, hW1, hE1, hn1, hV0, hV1⟩ : ∃ W1, W1 = (W.newCells 27 [.int .i64 P, .slice A l.length c]).newCells 24 [.int .i64 0, .slice none 0 0] ∧ Ext W W1 ∧ W1.next = W.next + 2 ∧ Var W1 W.next 27 [.int .i64 P, .slice A l.length c] ∧ Var W1 (W.next + 1) 24 [.int .i64 0, .slice none 0 0] :=
    ⟨_, rfl, (Only.newCells _ _ _).trans (Only.newCells _ _ _), rfl, (Var.new _ _ _).ext (.newCells _ _ _), Var.new _ _ _⟩
  obtain ⟨W2, s1, s2, hE2, hV2⟩ := storeVar_new (T := T0) (W := W1) (t := 24) (v := .agg ⟨[.int .i64 P, .slice none 0 0]⟩) (z := [.int .i64 0, .slice none 0 0]) inf24 (by rw [is24]; rfl) (by rw [is24]; rfl) rfl
  have hl0 := hV0.load1 (T := T0) und3 rfl (j := 0) (v := .int .i64 P) rfl
  try simp only [wpK_assoc]
  refine wpK_reg (fun R hR => by simp [zero24, newCells_next, ← hW1]; exact hR) ?_
  try simp only [wpK_assoc]
  refine wpK_reg (fun R hR => by simp [hl0, build24, zero24, s1]; exact hR) ?_
  try simp only [wpK_assoc]
  refine wpK_reg (fun R hR => by simp []; exact hR) ?_
  have hE12 := hE1.trans hE2
  have n12 := hE12.1
  have hV02 := hV0.ext hE2
  have hV12 := hV1.ext hE2
  rw [hn1] at hV2 s2
  try simp only [wpK_assoc]
  refine wpK_while (I := fun k B W' => B.n = 46 ∧ B.defers = [] ∧ B.tmps.get 1 = some (.pointer (some ⟨W.next, 0, none⟩)) ∧ B.tmps.get 2 = some (.pointer (some ⟨W.next + 1, 0, none⟩)) ∧ B.tmps.get 3 = some (.pointer (some ⟨W.next + 2, 0, none⟩)) ∧ Only (fun b => b = W.next + 2) W2 W' ∧ ∃ (i : Nat) (w : Value) (K : Nat → Prop), k = l.length - i ∧ i ≤ l.length ∧ B.tmps.get 4 = some (.int .i64 i) ∧ Var W' (W.next + 2) 24 [.int .i64 P, w] ∧ GrowsN W' w (2 * i) (flat3 (bothL (l.take i))) 78 3 K ∧ ∀ b, K b → W2.next ≤ b ∧ b < W'.next)
    (J := fun B W' => B.n = 46 ∧ B.defers = [] ∧ B.tmps.get 2 = some (.pointer (some ⟨W.next + 1, 0, none⟩)) ∧ B.tmps.get 3 = some (.pointer (some ⟨W.next + 2, 0, none⟩)) ∧ Only (fun b => b = W.next + 2) W2 W' ∧ ∃ w : Value, Var W' (W.next + 2) 24 [.int .i64 P, w] ∧ GrowsN W' w (bothL l).length (flat3 (bothL l)) 78 3 (fun b => W2.next ≤ b)) (Rt := fun _ _ => False) (k := l.length) ?_ ?_ ?_ ?_
  · exact ⟨rfl, rfl, by simp [hn1], by simp [hn1], by simp [hn1], Only_refl _, 0, .slice none 0 0, fun _ => False, by simp, by omega, by simp, hV2, .nil _ _ _ _, fun _ h => h.elim⟩
  · rintro k ⟨tm, n, ds⟩ W3 ⟨hn, hd, h1, h2, h3, hO3, i, w, K, hk, hi, h4, hV3, hGr, hKb⟩ Q' hJ hRt hI
    simp only at hn hd h1 h2 h3
    subst hn; subst hd
    simp only at h4
    have n3 := hO3.1
    have l31 := (hV02.only hO3 (by omega)).load1 (T := T0) und25 rfl (j := 1) (v := .slice A l.length c) rfl
    try simp only [wpK_assoc]
    refine wpK_reg (fun R hR => by simp [h1, h4, l31, len_slice und25]; exact hR) ?_
    by_cases hlt : i < l.length
    case neg =>
      have e : i = l.length := by omega
      rw [e, List.take_length, ← bothL_len] at hGr
      try simp only [wpK_assoc]
      first | refine wpK_onF (by simp [hlt]) ?_ | refine wpK_out (by simp [hlt]) ?_ | refine wpK_condF (by simp [hlt]) ?_ | refine wpK_endF (by simp [hlt]) (wpK_skip ?_) | refine wpK_endF (by simp [hlt]) ?_
      exact hJ _ _ ⟨rfl, rfl, by simp [h2], by simp [h3], hO3, w, hV3, hGr.mono (fun b hb => (hKb b hb).1)⟩
    try simp only [wpK_assoc]
    first | refine wpK_onT (by simp [hlt]) ?_ | refine wpK_outT (by simp [hlt]) ?_ | refine wpK_condT (by simp [hlt]) ?_ | refine wpK_endT (by simp [hlt]) ?_
    have ha : l[i]? = some l[i] := List.getElem?_eq_getElem hlt
    generalize l[i] = a at ha
    obtain ⟨b', o, rfl, q1, q2, q3⟩ := hA i a ha
    have eV := indexAddr_tri (T := T0) und25 sz109 (b := b') (o := o) (c := c) (k := .i64) hlt
    have hl3 := load3 (T := T0) und109 agg109 inf109 is109 ((q1.ext hE12).only hO3 (by have := q1.1; omega)) ((q2.ext hE12).only hO3 (by have := q2.1; omega)) ((q3.ext hE12).only hO3 (by have := q3.1; omega))
    obtain ⟨W4, t1, t2, hE4, hV4⟩ := storeVar_new (T := T0) (W := W3) (t := 109) (v := .agg ⟨[.int .i64 a.1, .int .i64 a.2.1, .int .i64 a.2.2]⟩) (z := [.int .i64 0, .int .i64 0, .int .i64 0]) inf109 (by rw [is109]; rfl) (by rw [is109]; rfl) rfl
    have hGr4 := hGr.only (K' := fun _ => False) hE4 (fun _ _ _ y => y)
    have hV34 := hV3.ext hE4
    have hl2 := hV34.load1 (T := T0) und22 rfl (j := 1) (v := w) rfl
    have m0 : ∀ W', Var W' W3.next 109 [.int .i64 a.1, .int .i64 a.2.1, .int .i64 a.2.2] → aLoadVar T0 W' 3 W3.next 0 = some (.int .i64 a.1) ∧ aLoadVar T0 W' 3 W3.next 1 = some (.int .i64 a.2.1) ∧ aLoadVar T0 W' 2 W3.next 2 = some (.int .i64 a.2.2) := fun W' hV =>
      ⟨hV.load1 (T := T0) und3 rfl (j := 0) (v := .int .i64 a.1) rfl, hV.load1 (T := T0) und3 rfl (j := 1) (v := .int .i64 a.2.1) rfl, hV.load1 (T := T0) und2 rfl (j := 2) (v := .int .i64 a.2.2) rfl⟩
    obtain ⟨w1, W5, a1, a2, a3, a4⟩ := push3_tmp und22 inf78 is78 z78 rfl by78 hGr4 (by omega) (u := cells3 a) rfl (oneCells_tri a)
    have a1 : aAppend T0 (W4.newCells 78 [.int .i64 a.1, .int .i64 a.2.1, .int .i64 a.2.2]) [22, 22] [w, .slice (some ⟨W4.next, 0, none⟩) 1 2] = some (w1, W5) := a1
    obtain ⟨x0, x1, x2⟩ := m0 W4 hV4
    obtain ⟨y0, y1, y2⟩ := m0 W5 (hV4.only a4 (fun hk => by have := (hKb _ hk).2; omega))
    have hV35 := hV34.only a4 (fun hk => by have := (hKb _ hk).1; omega)
    obtain ⟨w2, W6, W7, b1, b2, b3, b4, b5, b6, b7⟩ := Var.push (T := T0) (t := 22) (el := 78) (i := Tryd.t78) (it := Tryd.t22) (sz := 3) (by omega) und22 inf78 is78 z78 rfl inf22 is22 a3 hV35 (by
      rintro (hk | hk)
      · have := (hKb _ hk).1; omega
      · omega) (o := 1) (by simp) (u := cells3 (a.2.1, a.1, a.2.2)) rfl (oneCells_tri _) (by rw [by78]; omega) (by omega)
    have b1 : aAppend T0 (W5.newCells 78 [.int .i64 a.2.1, .int .i64 a.1, .int .i64 a.2.2]) [22, 22] [w1, .slice (some ⟨W5.next, 0, none⟩) 1 2] = some (w2, W6) := b1
    have hsi : IntKind.i64.wrap ((i : Int) + 1) = ((i + 1 : Nat) : Int) := i64_succ i (by omega)
    refine wpK_block ?_
    try simp only [wpK_assoc]
    refine wpK_reg (fun R hR => by simp [h1, h4, l31, eV, hl3, zero109, t1]; exact hR) ?_
    try simp only [wpK_assoc]
    refine wpK_reg (fun R hR => by simp [h3, hl2]; exact hR) ?_
    try simp only [wpK_assoc]
    refine wpK_reg (fun R hR => by simp [x0, x1, x2, build78', bs22, a1]; exact hR) ?_
    try simp only [wpK_assoc]
    refine wpK_reg1 (fun R hR => by simp [h3, y0, y1, y2, build78', bs22, b1, b2]; exact hR) ?_
    try simp only [wpK_assoc]
    refine wpK_reg1 (fun R hR => by simp [h4, hsi]; exact hR) ?_
    have n4 := hE4.1
    have hO7 : Only (fun b => b = W.next + 2) W2 W7 := ⟨by omega, fun b hb hk => by
      have hnK : ¬ K b := fun h => by have := (hKb _ h).1; omega
      rw [b7.2 b (by omega) (by rintro ((h | h) | h); exact hnK h; omega; exact hk h), a4.2 b (by omega) hnK, hE4.2 b (by omega) (fun y => y)]; exact hO3.2 b hb hk⟩
    refine hI (k - 1) _ _ (by omega) ⟨rfl, rfl, by simp [h1, h2, h3], by simp [h1, h2, h3], by simp [h1, h2, h3], hO7, i + 1, w2, fun b => (K b ∨ b = W4.next + 1) ∨ b = W5.next + 1, by omega, by omega, by simp, by simpa using b5, ?_, fun b hb => ?_⟩
    rotate_left
    · rcases hb with (hb | hb) | hb
      · have := hKb b hb; omega
      · omega
      · omega
    have e : flat3 (bothL (l.take (i + 1))) = flat3 (bothL (l.take i)) ++ cells3 a ++ cells3 (a.2.1, a.1, a.2.2) := by
      rw [List.take_add_one, ha, Option.toList_some, bothL_snoc, flat3_append, flat3_append]
      simp [flat3, cells3]
    rw [e, show 2 * (i + 1) = 2 * i + 1 + 1 from by omega]
    exact b6
  · rintro A' W' hf; exact hf.elim
  · rintro ⟨tm, n, ds⟩ W7 ⟨hn, hd, h2, h3, hO7, w2, hV7, hGr⟩
    simp only at hn hd h2 h3
    subst hn; subst hd
    have n7 := hO7.1
    obtain ⟨av, cv, hvs⟩ := hGr.len
    have hl := load24 hV7
    obtain ⟨W8, t1, t2, t3, t4⟩ := (hV12.only hO7 (by omega)).store (T := T0) (t := 24) (v := .agg ⟨[.int .i64 P, w2]⟩) (o := 0) inf24 (by rw [is24]; rfl) (by simp) (by rw [hvs]; rfl)
    have hl4 := t4.load (T := T0) und24 agg24 inf24 (by rw [is24]; rfl)
    try simp only [wpK_assoc]
    refine wpK_reg (fun R hR => by simp [h2, h3, hl, t1]; exact hR) ?_
    refine wpK_ret ⟨.inr rfl, rfl, [.agg ⟨[.int .i64 P, w2]⟩], by simp at hl4; simp [h2, hl4], ?_, w2, rfl, ?_⟩
    · exact ⟨by omega, fun b hb hk => by rw [t3.2 b (by omega) (by omega), hO7.2 b (by omega) (by omega)]; exact hE12.2 b hb hk⟩
    · exact (hGr.only t3 (fun b _ hb e => by omega)).mono (fun b hb => by omega)
def usedB (wo : Int) (T : Nat) : Nat → List Bra → Nat
  | _, [] => 0
  | i, a :: l => usedB wo T (i + 1) l + (if (i : Int) ≠ wo ∧ a.1 ≠ a.2.1 ∧ T.testBit a.1.toNat = true ∧ T.testBit a.2.1.toNat = true then 1 else 0)
theorem usedB_le {wo : Int} {T U : Nat} (h : ∀ q, T.testBit q = true → U.testBit q = true) : ∀ (l : List Bra) (i : Nat), usedB wo T i l ≤ usedB wo U i l
  | [], _ => Nat.le_refl _
  | a :: l, i => by
    have := usedB_le (wo := wo) h l (i + 1)
    rw [usedB, usedB]
    split
    · rename_i g
      rw [if_pos ⟨g.1, g.2.1, h _ g.2.2.1, h _ g.2.2.2⟩]; omega
    · split <;> omega
theorem usedB_lt {wo : Int} {T U : Nat} (h : ∀ q, T.testBit q = true → U.testBit q = true) : ∀ (l : List Bra) (i j : Nat) (a : Bra), l[j]? = some a → ((i + j : Nat) : Int) ≠ wo → a.1 ≠ a.2.1 → U.testBit a.1.toNat = true → U.testBit a.2.1.toNat = true → ¬ (T.testBit a.1.toNat = true ∧ T.testBit a.2.1.toNat = true) → usedB wo T i l < usedB wo U i l
  | [], _, j, _, hj, _, _, _, _, _ => by simp at hj
  | b :: l, i, 0, a, hj, h1, h2, h3, h4, h5 => by
    simp at hj; subst hj
    have := usedB_le (wo := wo) h l (i + 1)
    rw [usedB, usedB, if_neg (fun g => h5 ⟨g.2.2.1, g.2.2.2⟩), if_pos ⟨by simpa using h1, h2, h3, h4⟩]; omega
  | b :: l, i, j + 1, a, hj, h1, h2, h3, h4, h5 => by
    have := usedB_lt (wo := wo) h l (i + 1) j a (by simpa using hj) (by rw [show i + 1 + j = i + (j + 1) from by omega]; exact h1) h2 h3 h4 h5
    rw [usedB, usedB]
    split
    · rename_i g
      rw [if_pos ⟨g.1, g.2.1, h _ g.2.2.1, h _ g.2.2.2⟩]; omega
    · split <;> omega
theorem usedB_max (wo : Int) (T : Nat) : ∀ (l : List Bra) (i : Nat), usedB wo T i l ≤ l.length
  | [], _ => Nat.le_refl _
  | a :: l, i => by have := usedB_max wo T l (i + 1); rw [usedB, List.length_cons]; split <;> omega
theorem usedB_less (wo : Int) (T : Nat) : ∀ (l : List Bra) (i j : Nat) (a : Bra), l[j]? = some a → (((i + j : Nat) : Int) = wo ∨ a.1 = a.2.1) → usedB wo T i l < l.length
  | [], _, j, _, hj, _ => by simp at hj
  | b :: l, i, 0, a, hj, h => by
    simp at hj; subst hj
    have := usedB_max wo T l (i + 1)
    rw [usedB, List.length_cons, if_neg (fun g => by
      rcases h with h | h
      · exact g.1 (by simpa using h)
      · exact g.2.1 h)]; omega
  | b :: l, i, j + 1, a, hj, h => by
    have := usedB_less wo T l (i + 1) j a (by simpa using hj) (by rw [show i + 1 + j = i + (j + 1) from by omega]; exact h)
    rw [usedB, List.length_cons]; split <;> omega
structure Grown (L : List Bra) (wo : Int) (n f T : Nat) : Prop where
  lt : ∀ q, T.testBit q = true → q < n
  src : T.testBit f = true
  cnt : cntB T n ≤ 1 + usedB wo T 0 L
  wo' : ∀ (j : Nat) a, L[j]? = some a → (j : Int) ≠ wo → ¬ (T.testBit a.1.toNat = true ∧ T.testBit a.2.1.toNat = true) → wo = -1 → ∀ q : Nat, T.testBit q = true → Way L j f q
  by' : wo = -1 → ∀ q : Nat, T.testBit q = true → q ≠ f → ∃ (j : Nat) (y : Nat) (a : Bra), L[j]? = some a ∧ ((a.1 = y ∧ a.2.1 = q) ∨ (a.1 = q ∧ a.2.1 = y)) ∧ Way L j f y
theorem cntB_or {T x : Nat} (h : T.testBit x = false) : ∀ n, x < n → cntB (T ||| 1 <<< x) n = cntB T n + 1
  | 0, hx => by omega
  | n + 1, hx => by
    rw [cntB, cntB, Nat.testBit_or, one_bit]
    by_cases e : x = n
    · subst e
      have key : ∀ m, m ≤ x → cntB (T ||| 1 <<< x) m = cntB T m := by
        intro m
        induction m with
        | zero => intro _; rfl
        | succ m ih =>
          intro hm
          rw [cntB, cntB, ih (by omega), Nat.testBit_or, one_bit, decide_eq_false (by omega), Bool.or_false]
      rw [key x (Nat.le_refl _), h]; simp
    · rw [cntB_or h n (by omega), decide_eq_false e, Bool.or_false]; omega
theorem Grown.start {L : List Bra} {wo : Int} {n f : Nat} (hf : f < n) : Grown L wo n f (1 <<< f) := by
  have hb : ∀ q, (1 <<< f).testBit q = true ↔ q = f := fun q => by rw [one_bit]; simp; exact ⟨fun h => h.symm, fun h => h.symm⟩
  refine ⟨fun q hq => by have := (hb q).1 hq; omega, (hb f).2 rfl, ?_, fun j a _ _ _ _ q hq => ?_, fun _ q hq hne => absurd ((hb q).1 hq) hne⟩
  · have h0 : cntB 0 n = 0 := by
      have : ∀ m, cntB 0 m = 0 := fun m => by
        induction m with
        | zero => rfl
        | succ m ih => rw [cntB, ih, Nat.zero_testBit]; rfl
      exact this n
    have h1 := cntB_or (T := 0) (x := f) (Nat.zero_testBit f) n hf
    rw [Nat.zero_or] at h1
    omega
  · rw [(hb q).1 hq]; exact .here
theorem Grown.step {L : List Bra} {wo : Int} {n f T : Nat} (hL : BrIn n L) (h : Grown L wo n f T) {i : Nat} {a : Bra} (ha : L[i]? = some a) : Grown L wo n f (stepB wo i a T) := by
  by_cases hc : (i : Int) ≠ wo ∧ T.testBit a.1.toNat ≠ T.testBit a.2.1.toNat
  case neg =>
    have : stepB wo i a T = T := by unfold stepB; rw [if_neg hc]
    rw [this]; exact h
  have hb := hL a (List.mem_of_getElem? ha)
  -- the new place and the old one
  obtain ⟨x, y, hxy, hx, hy⟩ : ∃ x y : Nat, ((a.1 = x ∧ a.2.1 = y) ∨ (a.1 = y ∧ a.2.1 = x)) ∧ T.testBit x = false ∧ T.testBit y = true := by
    cases h1 : T.testBit a.1.toNat with
    | false =>
      refine ⟨a.1.toNat, a.2.1.toNat, .inl ⟨by omega, by omega⟩, h1, ?_⟩
      cases h2 : T.testBit a.2.1.toNat with
      | true => rfl
      | false => exact absurd (h1.trans h2.symm) hc.2
    | true =>
      refine ⟨a.2.1.toNat, a.1.toNat, .inr ⟨by omega, by omega⟩, ?_, h1⟩
      cases h2 : T.testBit a.2.1.toNat with
      | true => exact absurd (h1.trans h2.symm) hc.2
      | false => rfl
  have hxn : x < n := by omega
  have hbit : ∀ q, (stepB wo i a T).testBit q = (T.testBit q || decide (x = q)) := fun q => by
    rw [stepB_bit, decide_eq_true hc, Bool.true_and]
    cases hT : T.testBit q with
    | true => rfl
    | false =>
      have hqy : q ≠ y := fun e => by rw [e, hy] at hT; cases hT
      rcases hxy with ⟨e1, e2⟩ | ⟨e1, e2⟩
      · rw [e1, e2, Int.toNat_natCast, Int.toNat_natCast, decide_eq_false (show ¬ y = q from fun e => hqy e.symm)]; simp
      · rw [e1, e2, Int.toNat_natCast, Int.toNat_natCast, decide_eq_false (show ¬ y = q from fun e => hqy e.symm)]; simp
  have hor : stepB wo i a T = T ||| 1 <<< x := Nat.eq_of_testBit_eq fun q => by rw [hbit, Nat.testBit_or, one_bit]
  have hsub : ∀ q, T.testBit q = true → (stepB wo i a T).testBit q = true := fun q hq => by rw [hbit, hq]; rfl
  have hxb : (stepB wo i a T).testBit x = true := by rw [hbit]; simp
  have hyb := hsub y hy
  have hboth : (stepB wo i a T).testBit a.1.toNat = true ∧ (stepB wo i a T).testBit a.2.1.toNat = true := by
    rcases hxy with ⟨e1, e2⟩ | ⟨e1, e2⟩
    · rw [e1, e2, Int.toNat_natCast, Int.toNat_natCast]; exact ⟨hxb, hyb⟩
    · rw [e1, e2, Int.toNat_natCast, Int.toNat_natCast]; exact ⟨hyb, hxb⟩
  have hnot : ¬ (T.testBit a.1.toNat = true ∧ T.testBit a.2.1.toNat = true) := fun g => hc.2 (g.1.trans g.2.symm)
  refine ⟨fun q hq => ?_, hsub f h.src, ?_, fun j b hj hjw hjn hw q hq => ?_, fun hw q hq hne => ?_⟩
  · rw [hbit, Bool.or_eq_true, decide_eq_true_eq] at hq
    rcases hq with hq | hq
    · exact h.lt q hq
    · omega
  · have h1 := usedB_lt (wo := wo) hsub L 0 i a ha (by rw [Nat.zero_add]; exact hc.1) (fun e => hc.2 (by rw [e])) hboth.1 hboth.2 hnot
    have h2 := h.cnt
    rw [hor, cntB_or hx n hxn, ← hor]
    omega
  · have hjn' : ¬ (T.testBit b.1.toNat = true ∧ T.testBit b.2.1.toNat = true) := fun g => hjn ⟨hsub _ g.1, hsub _ g.2⟩
    have hold := h.wo' j b hj hjw hjn' hw
    rw [hbit, Bool.or_eq_true, decide_eq_true_eq] at hq
    rcases hq with hq | rfl
    · exact hold q hq
    · have hij : (i : Int) ≠ j := fun e => by
        have : i = j := by omega
        subst this; rw [ha] at hj; cases hj; exact hjn hboth
      exact .next (hold y hy) ⟨i, a, ha, hij, by rcases hxy with ⟨e1, e2⟩ | ⟨e1, e2⟩ <;> omega⟩
  · rw [hbit, Bool.or_eq_true, decide_eq_true_eq] at hq
    rcases hq with hq | rfl
    · exact h.by' hw q hq hne
    · exact ⟨i, y, a, ha, by rcases hxy with ⟨e1, e2⟩ | ⟨e1, e2⟩ <;> omega, h.wo' i a ha hc.1 hnot hw y hy⟩
theorem Grown.round {L : List Bra} {wo : Int} {n f : Nat} (hL : BrIn n L) : ∀ (l : List Bra) (i T : Nat), (∀ (j : Nat) a, l[j]? = some a → L[i + j]? = some a) → Grown L wo n f T → Grown L wo n f (roundB wo i l T)
  | [], _, _, _, h => h
  | a :: l, i, T, hl, h => by
    rw [roundB]
    exact Grown.round hL l (i + 1) _ (fun j b hj => by rw [show i + 1 + j = i + (j + 1) from by omega]; exact hl (j + 1) b (by simpa using hj)) (h.step hL (by have := hl 0 a rfl; simpa using this))
theorem Grown.rounds {L : List Bra} {wo : Int} {n f : Nat} (hL : BrIn n L) : ∀ (k T : Nat), Grown L wo n f T → Grown L wo n f (roundsB L wo k T)
  | 0, _, h => h
  | k + 1, T, h => Grown.rounds hL k _ (Grown.round hL L 0 T (fun j a hj => by rw [Nat.zero_add]; exact hj) h)
def spansB (l : List Bra) : Prop := ∀ q : Nat, q < l.length + 1 → (roundsB l (-1) l.length (1 <<< 0)).testBit q = true
theorem cntB_all {T : Nat} : ∀ n, (∀ q, q < n → T.testBit q = true) → cntB T n = n
  | 0, _ => rfl
  | n + 1, h => by rw [cntB, cntB_all n (fun q hq => h q (by omega)), h n (by omega)]; rfl
theorem spans_two {l : List Bra} (hL : BrIn (l.length + 1) l) (h : spansB l) : ∀ a ∈ l, a.1 ≠ a.2.1 := by
  intro a ha e
  obtain ⟨j, hj⟩ := List.mem_iff_getElem?.1 ha
  have hg := Grown.rounds (wo := -1) hL l.length (1 <<< 0) (Grown.start (by omega))
  have h1 := hg.cnt
  rw [cntB_all _ h] at h1
  have := usedB_less (-1) (roundsB l (-1) l.length (1 <<< 0)) l 0 j a hj (.inr e)
  omega
theorem spans_cut {l : List Bra} (hL : BrIn (l.length + 1) l) (h : spansB l) {j : Nat} {a : Bra} (hj : l[j]? = some a) {f : Nat} (hf : f < l.length + 1) (hy : Way l j f a.1) (hz : Way l j f a.2.1) : False := by
  have hall : ∀ q : Nat, q < l.length + 1 → Way l j f q := by
    -- a way over the branch is one around it
    have cl : ClosedB l (-1) (fun x => Way l j f x) := fun y z hw ⟨i, b, h1, _, h3⟩ => by
      by_cases e : i = j
      · subst e
        rw [hj] at h1; cases h1
        rcases h3 with ⟨_, rfl⟩ | ⟨rfl, _⟩
        · exact hz
        · exact hy
      · exact .next hw ⟨i, b, h1, by omega, h3⟩
    have h0 : Way l j f (0 : Nat) := by
      have hr := (reach_way (wo := -1) hL (show (0 : Nat) < l.length + 1 by omega) (Nat.le_refl _) f).1 (h f hf)
      -- the way back
      have back : ∀ x : Int, Way l (-1) (0 : Nat) x → Way l (-1) x (0 : Nat) := fun x hx => by
        induction hx with
        | here => exact .here
        | next hw hjn ih =>
          have tr : ∀ {u v w : Int}, Way l (-1) u v → Way l (-1) v w → Way l (-1) u w := fun {u v w} huv hvw => by
            induction hvw with
            | here => exact huv
            | next _ hj2 ih2 => exact .next ih2 hj2
          exact tr (.next .here hjn.symm) ih
      exact (back f hr).within cl .here
    intro q hq
    exact ((reach_way (wo := -1) hL (show (0 : Nat) < l.length + 1 by omega) (Nat.le_refl _) q).1 (h q hq)).within cl h0
  have hg := Grown.rounds (wo := (j : Int)) hL l.length (1 <<< f) (Grown.start hf)
  have h1 := hg.cnt
  rw [cntB_all _ (fun q hq => (reach_way (wo := (j : Int)) hL hf (Nat.le_refl _) q).2 (hall q hq))] at h1
  have := usedB_less (j : Int) (roundsB l j l.length (1 <<< f)) l 0 j a hj (.inl (by rw [Nat.zero_add]))
  omega
theorem spans_sep {l : List Bra} (hL : BrIn (l.length + 1) l) (h : spansB l) {f q : Nat} (hf : f < l.length + 1) (hq : q < l.length + 1) (hne : q ≠ f) : ∃ (j : Nat) (a : Bra), l[j]? = some a ∧ ¬ Way l j f q := by
  have hall : ∀ x : Nat, x < l.length + 1 → (roundsB l (-1) l.length (1 <<< f)).testBit x = true := by
    intro x hx
    have h0 : Way l (-1) f (0 : Nat) := by
      have hr := (reach_way (wo := -1) hL (show (0 : Nat) < l.length + 1 by omega) (Nat.le_refl _) f).1 (h f hf)
      have back : ∀ x : Int, Way l (-1) (0 : Nat) x → Way l (-1) x (0 : Nat) := fun x hx => by
        induction hx with
        | here => exact .here
        | next hw hjn ih =>
          have tr : ∀ {u v w : Int}, Way l (-1) u v → Way l (-1) v w → Way l (-1) u w := fun {u v w} huv hvw => by
            induction hvw with
            | here => exact huv
            | next _ hj2 ih2 => exact .next ih2 hj2
          exact tr (.next .here hjn.symm) ih
      exact back f hr
    have hx0 := (reach_way (wo := -1) hL (show (0 : Nat) < l.length + 1 by omega) (Nat.le_refl _) x).1 (h x hx)
    exact (reach_way (wo := -1) hL hf (Nat.le_refl _) x).2 (hx0.within (fun y z hw hj => .next hw hj) h0)
  have hg := Grown.rounds (wo := -1) hL l.length (1 <<< f) (Grown.start hf)
  obtain ⟨j, y, a, hj, hxy, hw⟩ := hg.by' rfl q (hall q hq) hne
  refine ⟨j, a, hj, fun hwq => ?_⟩
  rcases hxy with ⟨e1, e2⟩ | ⟨e1, e2⟩
  · exact spans_cut hL h hj hf (by rw [e1]; exact hw) (by rw [e2]; exact hwq)
  · exact spans_cut hL h hj hf (by rw [e1]; exact hwq) (by rw [e2]; exact hw)
def joinsB (l : List Bra) : Prop := 1 ≤ l.length ∧ l.length ≤ 23 ∧ BrIn (l.length + 1) l ∧ spansB l
theorem full_iff {T n : Nat} (h : T < 2 ^ n) : T = 2 ^ n - 1 ↔ ∀ q, q < n → T.testBit q = true := by
  constructor
  · rintro rfl q hq; rw [Nat.testBit_two_pow_sub_one]; simpa using hq
  · intro hall
    apply Nat.eq_of_testBit_eq
    intro q
    rw [Nat.testBit_two_pow_sub_one]
    by_cases hq : q < n
    · rw [hall q hq]; simp [hq]
    · rw [Nat.testBit_lt_two_pow (Nat.lt_of_lt_of_le h (Nat.pow_le_pow_right (by omega) (by omega)))]; simp [hq]
theorem joins_wp {W : AW} {v : Value} {l : List Bra} (h : TriIn W v l) (hl : l.length ≤ 1000) :
    WpF T0 68 [v] W (fun u W' => Ext W W' ∧ ((joinsB l ∧ u = .bool true) ∨ (¬ joinsB l ∧ u = .bool false))) := by
  have h' := h
  obtain ⟨Av, cv, rfl, hA⟩ := h
  refine wpF fun68 rfl ?_
  have w1 : IntKind.i64.wrap ((l.length : Int) + 1) = (l.length : Int) + 1 := IntWalk.i64_in _ (by omega)
  try simp only [wpK_assoc]
  refine wpK_reg (fun R hR => by simp []; exact hR) ?_
  by_cases c1 : (l.length : Int) + 1 < 2
  · try simp only [wpK_assoc]
    refine wpK_reg (fun R hR => by simp [len_slice und59, w1, c1]; exact hR) ?_
    try simp only [wpK_assoc]
    first | refine wpK_onT (by simp []) ?_ | refine wpK_outT (by simp []) ?_ | refine wpK_condT (by simp []) ?_ | refine wpK_endT (by simp []) ?_
    try simp only [wpK_assoc]
    refine wpK_reg (fun R hR => by simp []; exact hR) ?_
    exact wpK_ret ⟨.inr rfl, rfl, [.bool false], by simp, .refl _ _, .inr ⟨fun hj => by have := hj.1; omega, rfl⟩⟩
  by_cases c2 : (24 : Int) < (l.length : Int) + 1
  · try simp only [wpK_assoc]
    refine wpK_reg (fun R hR => by simp [len_slice und59, w1, c1, c2]; exact hR) ?_
    try simp only [wpK_assoc]
    first | refine wpK_onT (by simp []) ?_ | refine wpK_outT (by simp []) ?_ | refine wpK_condT (by simp []) ?_ | refine wpK_endT (by simp []) ?_
    try simp only [wpK_assoc]
    refine wpK_reg (fun R hR => by simp []; exact hR) ?_
    exact wpK_ret ⟨.inr rfl, rfl, [.bool false], by simp, .refl _ _, .inr ⟨fun hj => by have := hj.2.1; omega, rfl⟩⟩
  try simp only [wpK_assoc]
  refine wpK_reg (fun R hR => by simp [len_slice und59, w1, c1, c2]; exact hR) ?_
  try simp only [wpK_assoc]
  first | refine wpK_onF (by simp []) ?_ | refine wpK_out (by simp []) ?_ | refine wpK_condF (by simp []) ?_ | refine wpK_endF (by simp []) (wpK_skip ?_) | refine wpK_endF (by simp []) ?_
  try simp only [wpK_assoc]
  refine wpK_reg (fun R hR => by simp [len_slice und59]; exact hR) ?_
  try simp only [wpK_assoc]
  refine wpK_while (I := fun k A W' => A.n = 38 ∧ A.defers = [] ∧ A.tmps.get 0 = some (.slice Av l.length cv) ∧ A.tmps.get 15 = some (.slice Av l.length cv) ∧ A.tmps.get 16 = some (.int .i64 l.length) ∧ Ext W W' ∧ ∃ i : Nat, k = l.length - i ∧ i ≤ l.length ∧ A.tmps.get 17 = some (.int .i64 i) ∧ ∀ (j : Nat) a, j < i → l[j]? = some a → two? a.1 a.2.1 ((l.length + 1 : Nat) : Int) = true)
    (J := fun A W' => A.n = 38 ∧ A.defers = [] ∧ A.tmps.get 0 = some (.slice Av l.length cv) ∧ A.tmps.get 15 = some (.slice Av l.length cv) ∧ A.tmps.get 16 = some (.int .i64 l.length) ∧ Ext W W' ∧ ∀ a ∈ l, two? a.1 a.2.1 ((l.length + 1 : Nat) : Int) = true)
    (Rt := fun A W' => A.defers = [] ∧ A.tmps.get 2 = some (.bool false) ∧ Ext W W' ∧ ¬ joinsB l) (k := l.length) ?_ ?_ ?_ ?_
  · exact ⟨rfl, rfl, by simp, by simp, by simp, .refl _ _, 0, by simp, by omega, by simp, fun j a hj => by omega⟩
  · rintro k ⟨tm, n, ds⟩ W3 ⟨hn, hd, h0, h15, h16, e3, i, hk, hi, h17, hgood⟩ Q' hJ hRt hI
    simp only at hn hd h0 h15 h16
    subst hn; subst hd
    simp only at h17
    try simp only [wpK_assoc]
    refine wpK_reg (fun R hR => by simp [h16, h17]; exact hR) ?_
    by_cases hlt : i < l.length
    · try simp only [wpK_assoc]
      first | refine wpK_onT (by simp [hlt]) ?_ | refine wpK_outT (by simp [hlt]) ?_ | refine wpK_condT (by simp [hlt]) ?_ | refine wpK_endT (by simp [hlt]) ?_
      have ha : l[i]? = some l[i] := List.getElem?_eq_getElem hlt
      have hmem : l[i] ∈ l := List.getElem_mem hlt
      generalize l[i] = a at ha hmem
      obtain ⟨b, o, hAv, q1, q2, q3⟩ := hA i _ ha
      have eV := indexAddr_tri (T := T0) und59 sz66 (b := b) (o := o) (c := cv) (k := .i64) hlt
      rw [← hAv] at eV
      have hl3 := load3 (T := T0) und66 agg66 inf66 is66 (q1.ext e3) (q2.ext e3) (q3.ext e3)
      obtain ⟨W5, s1, s2, hE5, hV5⟩ := storeVar_new (T := T0) (W := W3) (t := 66) (v := .agg ⟨[.int .i64 a.1, .int .i64 a.2.1, .int .i64 a.2.2]⟩) (z := [.int .i64 0, .int .i64 0, .int .i64 0]) inf66 (by rw [is66]; rfl) (by rw [is66]; rfl) rfl
      have e5 := e3.trans hE5
      have lx : aLoadVar T0 W5 3 W3.next 0 = some (.int .i64 a.1) := hV5.load1 (T := T0) und3 rfl (j := 0) (v := .int .i64 a.1) rfl
      have ly : aLoadVar T0 W5 3 W3.next 1 = some (.int .i64 a.2.1) := hV5.load1 (T := T0) und3 rfl (j := 1) (v := .int .i64 a.2.1) rfl
      have hsi : IntKind.i64.wrap ((i : Int) + 1) = ((i + 1 : Nat) : Int) := i64_succ i (by omega)
      have hat := areTwo_wp a.1 a.2.1 ((l.length : Int) + 1) W5
      have e1 : ((l.length + 1 : Nat) : Int) = (l.length : Int) + 1 := by omega
      refine wpK_block ?_
      try simp only [wpK_assoc]
      refine wpK_reg (fun R hR => by simp [h15, h17, eV, hl3, zero66, s1]; exact hR) ?_
      cases h2 : two? a.1 a.2.1 ((l.length : Int) + 1) with
      | false =>
        rw [h2] at hat
        try simp only [wpK_assoc]
        refine wpK_reg (fun R hR => by
            simp [h0, lx, ly, len_slice und59, w1, field66, aEnter, fun74, short_other, aCallV]; rw [callS_none]
            refine (hat).mono ?_
            rintro _ W9 ⟨e9, rfl⟩; subst W9
            simp [h0, lx, ly, len_slice und59, w1, field66]; exact hR) ?_
        try simp only [wpK_assoc]
        first | refine wpK_onT (by simp []) ?_ | refine wpK_outT (by simp []) ?_ | refine wpK_condT (by simp []) ?_ | refine wpK_endT (by simp []) ?_
        try simp only [wpK_assoc]
        refine wpK_reg (fun R hR => by simp []; exact hR) ?_
        refine wpK_ret (hRt _ _ ⟨rfl, by simp, e5, fun hj => ?_⟩)
        have b1 := hj.2.2.1 a hmem
        have b2 := spans_two hj.2.2.1 hj.2.2.2 a hmem
        simp [two?] at h2
        omega
      | true =>
        rw [h2] at hat
        try simp only [wpK_assoc]
        refine wpK_reg (fun R hR => by
            simp [h0, lx, ly, len_slice und59, w1, field66, aEnter, fun74, short_other, aCallV]; rw [callS_none]
            refine (hat).mono ?_
            rintro _ W9 ⟨e9, rfl⟩; subst W9
            simp [h0, lx, ly, len_slice und59, w1, field66]; exact hR) ?_
        try simp only [wpK_assoc]
        first | refine wpK_onF (by simp []) ?_ | refine wpK_out (by simp []) ?_ | refine wpK_condF (by simp []) ?_ | refine wpK_endF (by simp []) (wpK_skip ?_) | refine wpK_endF (by simp []) ?_
        try simp only [wpK_assoc]
        refine wpK_reg1 (fun R hR => by simp [h17, hsi]; exact hR) ?_
        refine hI (k - 1) _ _ (by omega) ⟨rfl, rfl, by simp [h0, h15, h16], by simp [h0, h15, h16], by simp [h0, h15, h16], e5, i + 1, by omega, by omega, by simp, fun j b hj hb => ?_⟩
        by_cases e : j = i
        · subst e; rw [ha] at hb; cases hb; rw [e1]; exact h2
        · exact hgood j b (by omega) hb
    · try simp only [wpK_assoc]
      first | refine wpK_onF (by simp [hlt]) ?_ | refine wpK_out (by simp [hlt]) ?_ | refine wpK_condF (by simp [hlt]) ?_ | refine wpK_endF (by simp [hlt]) (wpK_skip ?_) | refine wpK_endF (by simp [hlt]) ?_
      refine hJ _ _ ⟨rfl, rfl, by simp [h0, h15, h16], by simp [h0, h15, h16], by simp [h0, h15, h16], e3, fun a ha => ?_⟩
      obtain ⟨j, hj, rfl⟩ := List.getElem_of_mem ha
      exact hgood j l[j] (by omega) (List.getElem?_eq_getElem hj)
  · rintro A' W' ⟨g1, g2, g3, g4⟩
    exact ⟨.inr rfl, g1, [.bool false], by simp [g2], g3, .inr ⟨g4, rfl⟩⟩
  · rintro ⟨tm, n, ds⟩ W3 ⟨hn, hd, h0, h15, h16, e3, hall⟩
    simp only at hn hd h0 h15 h16
    subst hn; subst hd
    have hL : BrIn (l.length + 1) l := fun a ha => by
      have := hall a ha
      simp [two?] at this
      omega
    have hrw := reach_wp (n := l.length + 1) (f := 0) (h'.ext e3) (by omega) hL (by omega) (by omega) (-1)
    have hbw := fun W' => below_wp (l.length + 1) (by omega) W'
    have e1 : ((l.length + 1 : Nat) : Int) = (l.length : Int) + 1 := by omega
    simp only [e1] at hbw
    have hfi := fun h => full_iff (T := roundsB l (-1) l.length (1 <<< 0)) (n := l.length + 1) h
    have hsp : (∀ q, q < l.length + 1 → (roundsB l (-1) l.length (1 <<< 0)).testBit q = true) ↔ spansB l := Iff.rfl
    generalize roundsB l (-1) l.length (1 <<< 0) = R0 at hrw hfi hsp
    generalize 2 ^ (l.length + 1) - 1 = pm at hbw hfi
    simp only [Int.natCast_zero] at hrw
    by_cases hR : R0 = pm
    · try simp only [wpK_assoc]
      refine wpK_x0 (fun R hR' => by
        simp [h0, aEnter, fun69, short_other, aCallV]; rw [callS_none]
        refine hrw.mono ?_
        rintro _ W4 ⟨e4, rfl, hlt⟩
        simp [h0, len_slice und59, w1, aEnter, fun82, short_other, aCallV]; rw [callS_none]
        refine (hbw W4).mono ?_
        rintro _ W9 ⟨e9, rfl⟩; subst W9
        simp [hR]; exact hR' W4 (And.intro e4 hlt)) ?_
      rintro W4 ⟨e4, hlt⟩
      exact wpK_ret ⟨.inr rfl, rfl, [.bool true], by simp, e3.trans e4, .inl ⟨⟨by omega, by omega, hL, hsp.1 ((hfi hlt).1 hR)⟩, rfl⟩⟩
    · have hR2 : ¬ (R0 : Int) = pm := by omega
      try simp only [wpK_assoc]
      refine wpK_x0 (fun R hR' => by
        simp [h0, aEnter, fun69, short_other, aCallV]; rw [callS_none]
        refine hrw.mono ?_
        rintro _ W4 ⟨e4, rfl, hlt⟩
        simp [h0, len_slice und59, w1, aEnter, fun82, short_other, aCallV]; rw [callS_none]
        refine (hbw W4).mono ?_
        rintro _ W9 ⟨e9, rfl⟩; subst W9
        simp [hR, hR2]; exact hR' W4 (And.intro e4 hlt)) ?_
      rintro W4 ⟨e4, hlt⟩
      exact wpK_ret ⟨.inr rfl, rfl, [.bool false], by simp, e3.trans e4, .inr ⟨fun hj => hR ((hfi hlt).2 (hsp.2 hj.2.2.2)), rfl⟩⟩
def maxI : Int := 9223372036854775807
def MinW (l : List Bra) (f q : Nat) (x : Int) : Prop := (∀ (j : Nat) a, l[j]? = some a → ¬ Way l j f q → x ≤ a.2.2) ∧ ∃ (j : Nat) (a : Bra), l[j]? = some a ∧ ¬ Way l j f q ∧ x = a.2.2
theorem MinW.one {l : List Bra} {f q : Nat} {x y : Int} (h : MinW l f q x) (h' : MinW l f q y) : x = y := by
  obtain ⟨j, a, h1, h2, h3⟩ := h.2
  obtain ⟨k, b, g1, g2, g3⟩ := h'.2
  have := h.1 k b g1 g2
  have := h'.1 j a h1 h2
  omega
theorem between_wp {W : AW} {v : Value} {l : List Bra} (h : TriIn W v l) (hl : l.length ≤ 1000) (hw : ∀ a ∈ l, a.2.2 ≤ maxI) (f q : Int) :
    WpF T0 47 [v, .int .i64 f, .int .i64 q] W (fun u W' => Ext W W' ∧ ((¬ joinsB l ∧ u = .tuple ⟨[.int .i64 0, .int .i64 30]⟩) ∨ (joinsB l ∧ two? f q ((l.length + 1 : Nat) : Int) = false ∧ u = .tuple ⟨[.int .i64 0, .int .i64 1]⟩) ∨
      (joinsB l ∧ two? f q ((l.length + 1 : Nat) : Int) = true ∧ ∃ x, MinW l f.toNat q.toNat x ∧ u = .tuple ⟨[.int .i64 x, .int .i64 0]⟩))) := by
  have h' := h
  obtain ⟨Av, cv, rfl, hA⟩ := h
  refine wpF fun47 rfl ?_
  try simp only [wpK_assoc]
  refine wpK_reg (fun R hR => by simp []; exact hR) ?_
  by_cases hj : joinsB l
  case neg =>
    have hjw : WpF T0 68 [.slice Av l.length cv] W (fun u W' => Ext W W' ∧ u = .bool false) := by
      refine (joins_wp h' hl).mono ?_
      rintro u W' ⟨e, ⟨g, _⟩ | ⟨_, rfl⟩⟩
      · exact absurd g hj
      · exact ⟨e, rfl⟩
    try simp only [wpK_assoc]
    refine wpK_x0 (fun R hR => by
        simp [aEnter, fun68, short_other, aCallV]; rw [callS_none]
        refine (hjw).mono ?_
        rintro _ W1 ⟨e1, rfl⟩
        simp []; exact hR W1 e1) ?_
    rintro W1 e1
    try simp only [wpK_assoc]
    first | refine wpK_onT (by simp []) ?_ | refine wpK_outT (by simp []) ?_ | refine wpK_condT (by simp []) ?_ | refine wpK_endT (by simp []) ?_
    try simp only [wpK_assoc]
    refine wpK_reg (fun R hR => by simp []; exact hR) ?_
    exact wpK_ret ⟨.inr rfl, rfl, [.int .i64 0, .int .i64 30], by simp, e1, .inl ⟨hj, rfl⟩⟩
  have hjw : WpF T0 68 [.slice Av l.length cv] W (fun u W' => Ext W W' ∧ u = .bool true) := by
    refine (joins_wp h' hl).mono ?_
    rintro u W' ⟨e, ⟨_, rfl⟩ | ⟨g, _⟩⟩
    · exact ⟨e, rfl⟩
    · exact absurd hj g
  obtain ⟨hj1, hj2, hL, hsp⟩ := hj
  have w1 : IntKind.i64.wrap ((l.length : Int) + 1) = (l.length : Int) + 1 := IntWalk.i64_in _ (by omega)
  have e1' : ((l.length + 1 : Nat) : Int) = (l.length : Int) + 1 := by omega
  try simp only [wpK_assoc]
  refine wpK_x0 (fun R hR => by
      simp [aEnter, fun68, short_other, aCallV]; rw [callS_none]
      refine (hjw).mono ?_
      rintro _ W1 ⟨e1, rfl⟩
      simp []; exact hR W1 e1) ?_
  rintro W1 e1
  try simp only [wpK_assoc]
  first | refine wpK_onF (by simp []) ?_ | refine wpK_out (by simp []) ?_ | refine wpK_condF (by simp []) ?_ | refine wpK_endF (by simp []) (wpK_skip ?_) | refine wpK_endF (by simp []) ?_
  have hat := areTwo_wp f q ((l.length : Int) + 1) W1
  cases h2 : two? f q ((l.length : Int) + 1) with
  | false =>
    rw [h2] at hat
    try simp only [wpK_assoc]
    refine wpK_reg (fun R hR => by
        simp [len_slice und59, w1, aEnter, fun74, short_other, aCallV]; rw [callS_none]
        refine (hat).mono ?_
        rintro _ W9 ⟨e9, rfl⟩; subst W9
        simp [len_slice und59, w1]; exact hR) ?_
    try simp only [wpK_assoc]
    first | refine wpK_onT (by simp []) ?_ | refine wpK_outT (by simp []) ?_ | refine wpK_condT (by simp []) ?_ | refine wpK_endT (by simp []) ?_
    try simp only [wpK_assoc]
    refine wpK_reg (fun R hR => by simp []; exact hR) ?_
    exact wpK_ret ⟨.inr rfl, rfl, [.int .i64 0, .int .i64 1], by simp, e1, .inr (.inl ⟨⟨hj1, hj2, hL, hsp⟩, by rw [e1']; exact h2, rfl⟩)⟩
  | true =>
    rw [h2] at hat
    try simp only [wpK_assoc]
    refine wpK_reg (fun R hR => by
        simp [len_slice und59, w1, aEnter, fun74, short_other, aCallV]; rw [callS_none]
        refine (hat).mono ?_
        rintro _ W9 ⟨e9, rfl⟩; subst W9
        simp [len_slice und59, w1]; exact hR) ?_
    try simp only [wpK_assoc]
    first | refine wpK_onF (by simp []) ?_ | refine wpK_out (by simp []) ?_ | refine wpK_condF (by simp []) ?_ | refine wpK_endF (by simp []) (wpK_skip ?_) | refine wpK_endF (by simp []) ?_
    have h2' := h2
    simp only [two?, Bool.and_eq_true, decide_eq_true_eq] at h2'
    obtain ⟨fn, rfl⟩ : ∃ n : Nat, f = n := ⟨f.toNat, by omega⟩
    obtain ⟨qn, rfl⟩ : ∃ n : Nat, q = n := ⟨q.toNat, by omega⟩
    try simp only [wpK_assoc]
    refine wpK_reg (fun R hR => by simp []; exact hR) ?_
    try simp only [wpK_assoc]
    refine wpK_reg (fun R hR => by simp [len_slice und59]; exact hR) ?_
    try simp only [wpK_assoc]
    refine wpK_while (I := fun k A W' => A.n = 41 ∧ A.defers = [] ∧ A.tmps.get 0 = some (.slice Av l.length cv) ∧ A.tmps.get 1 = some (.int .i64 fn) ∧ A.tmps.get 2 = some (.int .i64 qn) ∧ A.tmps.get 21 = some (.slice Av l.length cv) ∧ A.tmps.get 22 = some (.int .i64 l.length) ∧ Ext W W' ∧ ∃ (i : Nat) (x : Int), k = l.length - i ∧ i ≤ l.length ∧ A.tmps.get 23 = some (.int .i64 i) ∧ A.tmps.get 8 = some (.int .i64 x) ∧ x ≤ maxI ∧ (∀ (j : Nat) a, j < i → l[j]? = some a → ¬ Way l j fn qn → x ≤ a.2.2) ∧ (x = maxI ∨ ∃ (j : Nat) (a : Bra), j < i ∧ l[j]? = some a ∧ ¬ Way l j fn qn ∧ x = a.2.2))
      (J := fun A W' => A.n = 41 ∧ A.defers = [] ∧ Ext W W' ∧ ∃ x : Int, A.tmps.get 8 = some (.int .i64 x) ∧ MinW l fn qn x)
      (Rt := fun _ _ => False) (k := l.length) ?_ ?_ ?_ ?_
    · exact ⟨rfl, rfl, by simp, by simp, by simp, by simp, by simp, e1, 0, maxI, by simp, by omega, by simp, by simp [maxI], Int.le_refl _, fun j a hj => by omega, .inl rfl⟩
    · rintro k ⟨tm, n, ds⟩ W3 ⟨hn, hd, h0, h1, h2, h21, h22, e3, i, x, hk, hi, h23, h8, hxM, hlow, hatt⟩ Q' hJ hRt hI
      simp only at hn hd h0 h1 h2 h21 h22
      subst hn; subst hd
      simp only at h23 h8
      try simp only [wpK_assoc]
      refine wpK_reg (fun R hR => by simp [h22, h23]; exact hR) ?_
      by_cases hlt : i < l.length
      case neg =>
        have e : i = l.length := by omega
        try simp only [wpK_assoc]
        first | refine wpK_onF (by simp [hlt]) ?_ | refine wpK_out (by simp [hlt]) ?_ | refine wpK_condF (by simp [hlt]) ?_ | refine wpK_endF (by simp [hlt]) (wpK_skip ?_) | refine wpK_endF (by simp [hlt]) ?_
        refine hJ _ _ ⟨rfl, rfl, e3, x, by simp [h8], fun j a hj hn => hlow j a (by have := (List.getElem?_eq_some_iff.1 hj).1; omega) hj hn, ?_⟩
        obtain ⟨j, a, g1, g2⟩ := spans_sep hL hsp (f := fn) (q := qn) (by omega) (by omega) (by omega)
        rcases hatt with rfl | ⟨j', a', _, g3, g4, g5⟩
        · have := hlow j a (by have := (List.getElem?_eq_some_iff.1 g1).1; omega) g1 g2
          have := hw a (List.mem_of_getElem? g1)
          exact ⟨j, a, g1, g2, by omega⟩
        · exact ⟨j', a', g3, g4, g5⟩
      try simp only [wpK_assoc]
      first | refine wpK_onT (by simp [hlt]) ?_ | refine wpK_outT (by simp [hlt]) ?_ | refine wpK_condT (by simp [hlt]) ?_ | refine wpK_endT (by simp [hlt]) ?_
      have ha : l[i]? = some l[i] := List.getElem?_eq_getElem hlt
      have hmem : l[i] ∈ l := List.getElem_mem hlt
      generalize l[i] = a at ha hmem
      obtain ⟨b, o, hAv, q1, q2, q3⟩ := hA i _ ha
      have eV := indexAddr_tri (T := T0) und59 sz66 (b := b) (o := o) (c := cv) (k := .i64) hlt
      rw [← hAv] at eV
      have hl3 := load3 (T := T0) und66 agg66 inf66 is66 (q1.ext e3) (q2.ext e3) (q3.ext e3)
      obtain ⟨W5, s1, s2, hE5, hV5⟩ := storeVar_new (T := T0) (W := W3) (t := 66) (v := .agg ⟨[.int .i64 a.1, .int .i64 a.2.1, .int .i64 a.2.2]⟩) (z := [.int .i64 0, .int .i64 0, .int .i64 0]) inf66 (by rw [is66]; rfl) (by rw [is66]; rfl) rfl
      have e5 := e3.trans hE5
      have hk1 : k - 1 < k ∧ k - 1 = l.length - (i + 1) ∧ i + 1 ≤ l.length := by clear hatt hlow; omega
      have hsi : IntKind.i64.wrap ((i : Int) + 1) = ((i + 1 : Nat) : Int) := i64_succ i (by omega)
      have hrw := reach_wp (n := l.length + 1) (f := fn) (h'.ext e5) (by omega) hL (by omega) (by omega) (i : Int)
      have hwy := reach_way (wo := (i : Int)) hL (f := fn) (by omega) (Nat.le_refl _) qn
      generalize roundsB l (i : Int) l.length (1 <<< fn) = R0 at hrw hwy
      obtain ⟨rb, hrb⟩ : ∃ c : Bool, c = R0.testBit qn := ⟨_, rfl⟩
      rw [← hrb] at hwy
      refine wpK_block ?_
      try simp only [wpK_assoc]
      refine wpK_reg (fun R hR => by simp [h21, h23, eV, hl3, zero66, s1]; exact hR) ?_
      try simp only [wpK_assoc]
      refine wpK_x0 (fun R hR' => by
        simp [h0, h1, aEnter, fun69, short_other, aCallV]; rw [callS_none]
        refine hrw.mono ?_
        rintro _ W6 ⟨e6, rfl, hlt6⟩
        simp [h2, aEnter, fun62, short_other, aCallV]; rw [callS_none]
        refine (has_wp R0 qn (by have : 2 ^ (l.length + 1) ≤ 2 ^ 31 := Nat.pow_le_pow_right (by omega) (by omega)
                                 omega) (by omega) W6).mono ?_
        rintro _ W9 ⟨e9, rfl⟩; subst W9
        rw [← hrb]
        simp; exact hR' W6 e6) ?_
      rintro W6 e56
      have e6 := e5.trans e56
      have lw : aLoadVar T0 W6 2 W3.next 2 = some (.int .i64 a.2.2) := (hV5.ext e56).load1 (T := T0) und2 rfl (j := 2) (v := .int .i64 a.2.2) rfl
      clear hrb
      cases rb with
      | true =>
        have hway := hwy.1 rfl
        try simp only [wpK_assoc]
        first | refine wpK_onF (by simp []) ?_ | refine wpK_out (by simp []) ?_ | refine wpK_condF (by simp []) ?_ | refine wpK_endF (by simp []) (wpK_skip ?_) | refine wpK_endF (by simp []) ?_
        try simp only [wpK_assoc]
        refine wpK_reg1 (fun R hR => by simp [h23, hsi]; exact hR) ?_
        refine hI (k - 1) _ _ hk1.1 ⟨rfl, rfl, by simp [h0, h1, h2, h21, h22], by simp [h0, h1, h2, h21, h22], by simp [h0, h1, h2, h21, h22], by simp [h0, h1, h2, h21, h22], by simp [h0, h1, h2, h21, h22], e6, i + 1, x, hk1.2.1, hk1.2.2, by simp, by simp [h8], hxM, fun j b hj hb hn => ?_, ?_⟩
        · by_cases e : j = i
          · subst e; exact absurd hway hn
          · exact hlow j b (by omega) hb hn
        · rcases hatt with g | ⟨j, b, g1, g2⟩
          · exact .inl g
          · exact .inr ⟨j, b, by omega, g2⟩
      | false =>
        have hway : ¬ Way l i fn qn := fun g => by have := hwy.2 g; cases this
        try simp only [wpK_assoc]
        first | refine wpK_onT (by simp []) ?_ | refine wpK_outT (by simp []) ?_ | refine wpK_condT (by simp []) ?_ | refine wpK_endT (by simp []) ?_
        try simp only [wpK_assoc]
        refine wpK_reg1 (fun R hR => by simp [h8, lw, min_int, field66]; exact hR) ?_
        try simp only [wpK_assoc]
        refine wpK_reg1 (fun R hR => by simp [h23, hsi]; exact hR) ?_
        refine hI (k - 1) _ _ hk1.1 ⟨rfl, rfl, by simp [h0, h1, h2, h21, h22], by simp [h0, h1, h2, h21, h22], by simp [h0, h1, h2, h21, h22], by simp [h0, h1, h2, h21, h22], by simp [h0, h1, h2, h21, h22], e6, i + 1, min x a.2.2, hk1.2.1, hk1.2.2, by simp, by simp, (by clear hatt hlow; omega), fun j b hj hb hn => ?_, ?_⟩
        · by_cases e : j = i
          · subst e; rw [ha] at hb; cases hb; omega
          · have := hlow j b (by omega) hb hn; omega
        · by_cases c : x ≤ a.2.2
          · rw [Int.min_eq_left c]
            rcases hatt with g | ⟨j, b, g1, g2⟩
            · exact .inl g
            · exact .inr ⟨j, b, by omega, g2⟩
          · rw [Int.min_eq_right (by omega)]
            exact .inr ⟨i, a, by omega, ha, hway, rfl⟩
    · rintro A' W' hf; exact hf.elim
    · rintro ⟨tm, n, ds⟩ W3 ⟨hn, hd, e3, x, h8, hx⟩
      simp only at hn hd h8
      subst hn; subst hd
      try simp only [wpK_assoc]
      refine wpK_reg (fun R hR => by simp [h8]; exact hR) ?_
      exact wpK_ret ⟨.inr rfl, rfl, [.int .i64 x, .int .i64 0], by simp, e3, .inr (.inr ⟨⟨hj1, hj2, hL, hsp⟩, by rw [e1']; exact h2, x, hx, rfl⟩)⟩
def MinCut (q : List Quad) (s t : Nat) (x : Int) : Prop := (∃ S, isCut s t S ∧ capQ S q = x) ∧ ∀ T, isCut s t T → x ≤ capQ T q
theorem MinCut.one {q : List Quad} {s t : Nat} {x y : Int} (h : MinCut q s t x) (h' : MinCut q s t y) : x = y := by
  obtain ⟨⟨S, h1, h2⟩, h3⟩ := h
  obtain ⟨⟨S', g1, g2⟩, g3⟩ := h'
  have := h3 S' g1
  have := g3 S h1
  omega
theorem Filled.minCut {P : Int} {l : List Quad} {s t : Nat} {x : Int} {rm : Nat → Int} {lv : Nat → Nat} (F : Filled (layL (1 <<< s) s l) s t (hCap (layL (1 <<< s) s l)) x rm lv) (hin : PlanIn P l) (hs : s < 24) (ht : t < 24) : MinCut l s t x := by
  obtain ⟨d1, d2, d3, d4⟩ := filled_capQ hin hs ht F
  exact ⟨⟨_, ⟨d3, d4⟩, d2.symm⟩, fun T hT => (d1 T hT.1 hT.2).1⟩
def TreeB (P : Nat) (q : List Quad) (l : List Bra) : Prop := l.length + 1 = P ∧ joinsB l ∧ ∀ (i : Nat) a, l[i]? = some a → ∃ x, MinCut q a.1.toNat a.2.1.toNat x ∧ a.2.2 = x ∧ capQ (roundsB l i l.length (1 <<< a.1.toNat)) q = x
theorem isTree_wp {W : AW} {v bv : Value} {P : Nat} {lk : List Tri} {l : List Bra} (h : TriIn W v lk) (hok : planOk P (arcsQ lk) = true) (hb : TriIn W bv l) (hl : l.length ≤ 1000) (hT : tabsIn T0 T0.tabs W = true) (h0 : 0 < W.next) :
    WpF T0 29 [.agg ⟨[.int .i64 P, v]⟩, bv] W (fun u W' => Ext W W' ∧ ((TreeB P (linksQ lk) l ∧ u = .bool true) ∨ (¬ TreeB P (linksQ lk) l ∧ u = .bool false))) := by
  have hb' := hb
  obtain ⟨Ab, cb, rfl, hA⟩ := hb
  have hPin := links_in hok
  obtain ⟨hP2, hP24, _⟩ := hPin.size
  refine wpF fun29 rfl ?_
  obtain ⟨W0, hW0, hE0, hV0⟩ : ∃ W0, W0 = W.newCells 35 [.int .i64 P, v] ∧ Ext W W0 ∧ Var W0 W.next 35 [.int .i64 P, v] := ⟨_, rfl, .newCells _ _ _, Var.new _ _ _⟩
  have hN := boardPlan (P := (P : Int)) (h.ext hE0)
  have hc := check_wp hN
  rw [chk, planOk_links, hok] at hc
  have l35 : ∀ W', Ext W0 W' → aLoadVar T0 W' 35 W.next 0 = some (.agg ⟨[.int .i64 P, v]⟩) := fun W' h => load35 (hV0.ext h)
  have lP : ∀ W', Ext W0 W' → aLoadVar T0 W' 3 W.next 0 = some (.int .i64 P) := fun W' h => (hV0.ext h).load1 (T := T0) und3 rfl (j := 0) (v := .int .i64 P) rfl
  have e00 : Ext W0 W0 := .refl _ _
  have hT0 := tabs_ext hT h0 hE0
  have h00 : 0 < W0.next := Nat.lt_of_lt_of_le h0 hE0.1
  have wP : IntKind.i64.wrap ((P : Int) - 1) = (P : Int) - 1 := IntWalk.i64_in _ (by omega)
  try simp only [wpK_assoc]
  refine wpK_reg (fun R hR => by simp [← hW0]; exact hR) ?_
  by_cases c1 : (l.length : Int) = (P : Int) - 1
  case neg =>
    try simp only [wpK_assoc]
    refine wpK_x0 (fun R hR => by
        simp [l35, e00, opMI35, -opMakeInterface, aEnter, fun51, short_other, aCallV]; rw [callS_none]
        refine (hc).mono ?_
        rintro _ W1 ⟨e1, rfl⟩
        simp [lP, e1, len_slice und59, wP, c1]; exact hR W1 e1) ?_
    rintro W1 e1
    try simp only [wpK_assoc]
    first | refine wpK_onT (by simp []) ?_ | refine wpK_outT (by simp []) ?_ | refine wpK_condT (by simp []) ?_ | refine wpK_endT (by simp []) ?_
    try simp only [wpK_assoc]
    refine wpK_reg (fun R hR => by simp []; exact hR) ?_
    exact wpK_ret ⟨.inr rfl, rfl, [.bool false], by simp, hE0.trans e1, .inr ⟨fun ht => by have := ht.1; omega, rfl⟩⟩
  by_cases hj : joinsB l
  case neg =>
    try simp only [wpK_assoc]
    refine wpK_x0 (fun R hR => by
      simp [l35, e00, opMI35, -opMakeInterface, aEnter, fun51, short_other, aCallV]; rw [callS_none]
      refine hc.mono ?_
      rintro _ W1 ⟨e1, rfl⟩
      simp [lP, e1, len_slice und59, wP, c1, aEnter, fun68, short_other, aCallV]; rw [callS_none]
      refine (joins_wp (hb'.ext (hE0.trans e1)) hl).mono ?_
      rintro u W2 ⟨e2, ⟨g, _⟩ | ⟨_, rfl⟩⟩
      · exact absurd g hj
      · simp; exact hR W2 (e1.trans e2)) ?_
    rintro W2 e2
    try simp only [wpK_assoc]
    first | refine wpK_onT (by simp []) ?_ | refine wpK_outT (by simp []) ?_ | refine wpK_condT (by simp []) ?_ | refine wpK_endT (by simp []) ?_
    try simp only [wpK_assoc]
    refine wpK_reg (fun R hR => by simp []; exact hR) ?_
    exact wpK_ret ⟨.inr rfl, rfl, [.bool false], by simp, hE0.trans e2, .inr ⟨fun ht => hj ht.2.1, rfl⟩⟩
  try simp only [wpK_assoc]
  refine wpK_x0 (fun R hR => by
    simp [l35, e00, opMI35, -opMakeInterface, aEnter, fun51, short_other, aCallV]; rw [callS_none]
    refine hc.mono ?_
    rintro _ W1 ⟨e1, rfl⟩
    simp [lP, e1, len_slice und59, wP, c1, aEnter, fun68, short_other, aCallV]; rw [callS_none]
    refine (joins_wp (hb'.ext (hE0.trans e1)) hl).mono ?_
    rintro u W2 ⟨e2, ⟨_, rfl⟩ | ⟨g, _⟩⟩
    · simp; exact hR W2 (e1.trans e2)
    · exact absurd hj g) ?_
  rintro W2 e2
  try simp only [wpK_assoc]
  first | refine wpK_onF (by simp []) ?_ | refine wpK_out (by simp []) ?_ | refine wpK_condF (by simp []) ?_ | refine wpK_endF (by simp []) (wpK_skip ?_) | refine wpK_endF (by simp []) ?_
  try simp only [wpK_assoc]
  refine wpK_reg (fun R hR => by simp [len_slice und59]; exact hR) ?_
  have hj' := hj
  obtain ⟨hj1, hj2, hL, hsp⟩ := hj
  have hlP : l.length + 1 = P := by omega
  try simp only [wpK_assoc]
  refine wpK_while (I := fun k A W' => A.n = 59 ∧ A.defers = [] ∧ A.tmps.get 1 = some (.slice Ab l.length cb) ∧ A.tmps.get 2 = some (.pointer (some ⟨W.next, 0, none⟩)) ∧ A.tmps.get 26 = some (.slice Ab l.length cb) ∧ A.tmps.get 27 = some (.int .i64 l.length) ∧ Ext W0 W' ∧ ∃ i : Nat, k = l.length - i ∧ i ≤ l.length ∧ A.tmps.get 28 = some (.int .i64 i) ∧ ∀ (j : Nat) a, j < i → l[j]? = some a → ∃ x, MinCut (linksQ lk) a.1.toNat a.2.1.toNat x ∧ a.2.2 = x ∧ capQ (roundsB l j l.length (1 <<< a.1.toNat)) (linksQ lk) = x)
    (J := fun A W' => A.n = 59 ∧ A.defers = [] ∧ Ext W0 W' ∧ TreeB P (linksQ lk) l)
    (Rt := fun A W' => A.defers = [] ∧ A.tmps.get 4 = some (.bool false) ∧ Ext W0 W' ∧ ¬ TreeB P (linksQ lk) l) (k := l.length) ?_ ?_ ?_ ?_
  · exact ⟨rfl, rfl, by simp, by simp, by simp, by simp, e2, 0, by simp, by omega, by simp, fun j a hj => by omega⟩
  · rintro k ⟨tm, n, ds⟩ W3 ⟨hn, hd, h1, h2, h26, h27, e3, i, hk, hi, h28, hgood⟩ Q' hJ hRt hI
    simp only at hn hd h1 h2 h26 h27
    subst hn; subst hd
    simp only at h28
    try simp only [wpK_assoc]
    refine wpK_reg (fun R hR => by simp [h27, h28]; exact hR) ?_
    by_cases hlt : i < l.length
    case neg =>
      try simp only [wpK_assoc]
      first | refine wpK_onF (by simp [hlt]) ?_ | refine wpK_out (by simp [hlt]) ?_ | refine wpK_condF (by simp [hlt]) ?_ | refine wpK_endF (by simp [hlt]) (wpK_skip ?_) | refine wpK_endF (by simp [hlt]) ?_
      exact hJ _ _ ⟨rfl, rfl, e3, hlP, hj', fun j a hj => hgood j a (by have := (List.getElem?_eq_some_iff.1 hj).1; omega) hj⟩
    try simp only [wpK_assoc]
    first | refine wpK_onT (by simp [hlt]) ?_ | refine wpK_outT (by simp [hlt]) ?_ | refine wpK_condT (by simp [hlt]) ?_ | refine wpK_endT (by simp [hlt]) ?_
    have ha : l[i]? = some l[i] := List.getElem?_eq_getElem hlt
    have hmem : l[i] ∈ l := List.getElem_mem hlt
    generalize l[i] = a at ha hmem
    have hbr := hL a hmem
    have hne := spans_two hL hsp a hmem
    obtain ⟨a1, a2, a3⟩ := a
    simp only at hbr hne
    obtain ⟨x, rfl⟩ : ∃ x : Nat, a1 = x := ⟨a1.toNat, by omega⟩
    obtain ⟨y, rfl⟩ : ∃ y : Nat, a2 = y := ⟨a2.toNat, by omega⟩
    obtain ⟨b, o, hAv, q1, q2, q3⟩ := hA i _ ha
    have eV := indexAddr_tri (T := T0) und59 sz66 (b := b) (o := o) (c := cb) (k := .i64) hlt
    rw [← hAv] at eV
    have e03 := hE0.trans e3
    have hl3 := load3 (T := T0) und66 agg66 inf66 is66 (q1.ext e03) (q2.ext e03) (q3.ext e03)
    obtain ⟨W5, s1, s2, hE5, hV5⟩ := storeVar_new (T := T0) (W := W3) (t := 66) (v := .agg ⟨[.int .i64 x, .int .i64 y, .int .i64 a3]⟩) (z := [.int .i64 0, .int .i64 0, .int .i64 0]) inf66 (by rw [is66]; rfl) (by rw [is66]; rfl) rfl
    have e5 := e3.trans hE5
    have lx : ∀ W', Ext W5 W' → aLoadVar T0 W' 3 W3.next 0 = some (.int .i64 x) := fun W' h => (hV5.ext h).load1 (T := T0) und3 rfl (j := 0) (v := .int .i64 x) rfl
    have ly : ∀ W', Ext W5 W' → aLoadVar T0 W' 3 W3.next 1 = some (.int .i64 y) := fun W' h => (hV5.ext h).load1 (T := T0) und3 rfl (j := 1) (v := .int .i64 y) rfl
    have lw : ∀ W', Ext W5 W' → aLoadVar T0 W' 2 W3.next 2 = some (.int .i64 a3) := fun W' h => (hV5.ext h).load1 (T := T0) und2 rfl (j := 2) (v := .int .i64 a3) rfl
    have e55 : Ext W5 W5 := .refl _ _
    have hsi : IntKind.i64.wrap ((i : Int) + 1) = ((i + 1 : Nat) : Int) := i64_succ i (by omega)
    have hst : two? (x : Int) (y : Int) (P : Int) = true := by simp [two?]; omega
    refine wpK_block ?_
    try simp only [wpK_assoc]
    refine wpK_reg (fun R hR => by simp [h26, h28, eV, hl3, zero66, s1]; exact hR) ?_
    try simp only [wpK_assoc]
    refine wpK_x3 (fun R hR => by
      simp [h2, l35, e5, lx, ly, e55, field66, aEnter, fun25, short_other, aCallV]; rw [callS_none]
      refine (least_ok (P := (P : Int)) (h.ext (hE0.trans e5)) hPin hst (tabs_ext hT0 h00 e5) (Nat.lt_of_lt_of_le h00 e5.1)).mono ?_
      rintro _ W6 ⟨e6, xv, rm, lv, rfl, hF⟩
      simp; exact hR xv rm lv W6 (And.intro e6 hF)) ?_
    rintro xv rm lv W6 ⟨e56, hF⟩
    have hmc := hF.minCut hPin (by omega) (by omega)
    have e6 := e5.trans e56
    have hrw := reach_wp (n := l.length + 1) (f := x) (hb'.ext (hE0.trans e6)) (by omega) hL (by omega) (by omega) (i : Int)
    have hspec : (∃ x', MinCut (linksQ lk) x y x' ∧ a3 = x' ∧ capQ (roundsB l i l.length (1 <<< x)) (linksQ lk) = x') ↔ a3 = xv ∧ capQ (roundsB l i l.length (1 <<< x)) (linksQ lk) = xv := by
      constructor
      · rintro ⟨x', g1, g2, g3⟩
        have := g1.one hmc
        omega
      · rintro ⟨g1, g2⟩; exact ⟨xv, hmc, g1, g2⟩
    have hbad : ¬ (a3 = xv ∧ capQ (roundsB l i l.length (1 <<< x)) (linksQ lk) = xv) → ¬ TreeB P (linksQ lk) l := fun hn ht => hn (hspec.1 (by
      have := ht.2.2 i _ ha
      simpa using this))
    have hnew : (a3 = xv ∧ capQ (roundsB l i l.length (1 <<< x)) (linksQ lk) = xv) → ∃ x', MinCut (linksQ lk) ((x : Int)).toNat ((y : Int)).toNat x' ∧ a3 = x' ∧ capQ (roundsB l i l.length (1 <<< ((x : Int)).toNat)) (linksQ lk) = x' := by
      intro g; simpa using hspec.2 g
    have hk1 : k - 1 < k ∧ k - 1 = l.length - (i + 1) ∧ i + 1 ≤ l.length := by clear hgood hspec hbad hnew hmc; omega
    have p31 : 2 ^ (l.length + 1) ≤ 2 ^ 31 := Nat.pow_le_pow_right (by omega) (by omega)
    by_cases c2 : a3 = xv
    case neg =>
      try simp only [wpK_assoc]
      refine wpK_dn (wr := Tr.nil |>.set 42 0 |>.set 43 1 |>.set 44 2 |>.set 45 3 |>.set 46 4 |>.set 47 5 |>.set 48 6 |>.set 49 7 |>.set 50 8 |>.set 51 9 |>.set 52 10 |>.set 53 11 |>.set 54 12 |>.set 55 13 |>.set 56 14 |>.set 57 15) (bits := Tr.nil.lay 0 [0, 1, 0, 7, 15, 31, 63, 31, 31, 287, 31, 1951, 4095, 31, 16383, 32767]) (ord := [0, 1, 2, 3, 4, 5, 6, 7, 8, 9, 10, 11, 12, 13, 14, 15]) (by kernel_rfl) (by kernel_rfl) (by kernel_rfl) (fun G hG => by
        simp [h1, h2, lx, ly, lw, e56, c2, field66, undef]
        exact hG) ?_
      try simp only [wpK_assoc]
      first | refine wpK_onT (by simp []) ?_ | refine wpK_outT (by simp []) ?_ | refine wpK_condT (by simp []) ?_ | refine wpK_endT (by simp []) ?_
      try simp only [wpK_assoc]
      refine wpK_reg (fun R hR => by simp []; exact hR) ?_
      exact wpK_ret (hRt _ _ ⟨rfl, by simp, e6, hbad (fun g => c2 g.1)⟩)
    rw [show ((x : Int)).toNat = x from rfl] at hnew
    generalize hR0 : roundsB l i l.length (1 <<< x) = R0 at hrw hspec hbad hnew
    have vvv := tri_eq h
    have step : ∀ W7, Ext W6 W7 → WpF T0 65 [.iface 35 (.agg ⟨[.int .i64 P, v]⟩), .int .u64 (R0 : Nat)] W7 (fun u W' => Ext W7 W' ∧ (R0 < 2 ^ (l.length + 1) → u = .int .i64 (capQ R0 (linksQ lk)))) → True := fun _ _ _ => trivial
    clear step
    by_cases c3 : capQ R0 (linksQ lk) = xv
    · try simp only [wpK_assoc]
      refine wpK_d0 (wr := Tr.nil |>.set 42 0 |>.set 43 1 |>.set 44 2 |>.set 45 3 |>.set 46 4 |>.set 47 5 |>.set 48 6 |>.set 49 7 |>.set 50 8 |>.set 51 9 |>.set 52 10 |>.set 53 11 |>.set 54 12 |>.set 55 13 |>.set 56 14 |>.set 57 15) (bits := Tr.nil.lay 0 [0, 1, 0, 7, 15, 31, 63, 31, 31, 287, 31, 1951, 4095, 31, 16383, 32767]) (ord := [0, 1, 2, 3, 4, 5, 6, 7, 8, 9, 10, 11, 12, 13, 14, 15]) (by kernel_rfl) (by kernel_rfl) (by kernel_rfl) (fun G hG => by
        simp [h1, h2, l35, e6, lx, ly, lw, e56, c2, field66, opMI35, -opMakeInterface, aEnter, fun69, short_other, aCallV]
        rw [dcallS_none]
        refine hrw.mono ?_
        rintro _ W7 ⟨e7, rfl, hlt7⟩
        simp [h1, h2, l35, e6, e6.trans e7, e7.1, lx, ly, lw, e56, e56.trans e7, c2, field66, opMI35, -opMakeInterface, aEnter, fun65, short_other, aCallV]
        rw [dcallS_none]
        refine (across_wp (hN.ext (e6.trans e7)) hPin R0 (by omega)).mono ?_
        rintro _ W8 ⟨e8, rfl⟩
        simp [h1, h2, l35, e6, e6.trans e7, (e6.trans e7).trans e8, e7.1, e8.1, lx, ly, lw, e56, e56.trans e7, (e56.trans e7).trans e8, c2, c3, vvv, field66, opMI35, -opMakeInterface]
        exact hG W8 (e7.trans e8)) ?_
      rintro W8 e8
      try simp only [wpK_assoc]
      first | refine wpK_onF (by simp []) ?_ | refine wpK_out (by simp []) ?_ | refine wpK_condF (by simp []) ?_ | refine wpK_endF (by simp []) (wpK_skip ?_) | refine wpK_endF (by simp []) ?_
      try simp only [wpK_assoc]
      refine wpK_reg1 (fun R hR => by simp [h28, hsi]; exact hR) ?_
      refine hI (k - 1) _ _ hk1.1 ⟨rfl, rfl, by simp [h1, h2, h26, h27], by simp [h1, h2, h26, h27], by simp [h1, h2, h26, h27], by simp [h1, h2, h26, h27], e6.trans e8, i + 1, hk1.2.1, hk1.2.2, by simp, fun j b hj hb => ?_⟩
      by_cases e : j = i
      · subst e; rw [ha] at hb; cases hb
        have := hnew ⟨c2, c3⟩
        rw [← hR0] at this
        exact this
      · exact hgood j b (by omega) hb
    · try simp only [wpK_assoc]
      refine wpK_d0 (wr := Tr.nil |>.set 42 0 |>.set 43 1 |>.set 44 2 |>.set 45 3 |>.set 46 4 |>.set 47 5 |>.set 48 6 |>.set 49 7 |>.set 50 8 |>.set 51 9 |>.set 52 10 |>.set 53 11 |>.set 54 12 |>.set 55 13 |>.set 56 14 |>.set 57 15) (bits := Tr.nil.lay 0 [0, 1, 0, 7, 15, 31, 63, 31, 31, 287, 31, 1951, 4095, 31, 16383, 32767]) (ord := [0, 1, 2, 3, 4, 5, 6, 7, 8, 9, 10, 11, 12, 13, 14, 15]) (by kernel_rfl) (by kernel_rfl) (by kernel_rfl) (fun G hG => by
        simp [h1, h2, l35, e6, lx, ly, lw, e56, c2, field66, opMI35, -opMakeInterface, aEnter, fun69, short_other, aCallV]
        rw [dcallS_none]
        refine hrw.mono ?_
        rintro _ W7 ⟨e7, rfl, hlt7⟩
        simp [h1, h2, l35, e6, e6.trans e7, e7.1, lx, ly, lw, e56, e56.trans e7, c2, field66, opMI35, -opMakeInterface, aEnter, fun65, short_other, aCallV]
        rw [dcallS_none]
        refine (across_wp (hN.ext (e6.trans e7)) hPin R0 (by omega)).mono ?_
        rintro _ W8 ⟨e8, rfl⟩
        simp [h1, h2, l35, e6, e6.trans e7, (e6.trans e7).trans e8, e7.1, e8.1, lx, ly, lw, e56, e56.trans e7, (e56.trans e7).trans e8, c2, c3, vvv, field66, opMI35, -opMakeInterface]
        exact hG W8 (e7.trans e8)) ?_
      rintro W8 e8
      try simp only [wpK_assoc]
      first | refine wpK_onT (by simp []) ?_ | refine wpK_outT (by simp []) ?_ | refine wpK_condT (by simp []) ?_ | refine wpK_endT (by simp []) ?_
      try simp only [wpK_assoc]
      refine wpK_reg (fun R hR => by simp []; exact hR) ?_
      exact wpK_ret (hRt _ _ ⟨rfl, by simp, e6.trans e8, hbad (fun g => c3 g.2)⟩)
  · rintro A' W' ⟨g1, g2, g3, g4⟩
    exact ⟨.inr rfl, g1, [.bool false], by simp [g2], hE0.trans g3, .inr ⟨g4, rfl⟩⟩
  · rintro ⟨tm, n, ds⟩ W3 ⟨hn, hd, e3, ht⟩
    simp only at hn hd
    subst hn; subst hd
    try simp only [wpK_assoc]
    refine wpK_reg (fun R hR => by simp []; exact hR) ?_
    exact wpK_ret ⟨.inr rfl, rfl, [.bool true], by simp, hE0.trans e3, .inl ⟨ht, rfl⟩⟩
theorem wpK_cut2 {T : Tabs} {cx : Cx} {a b c : Code} {A : AAct} {W : AW} {Q : AExit → AAct → AW → Prop} (J : AAct → AW → Prop) (h : ∀ Q' : AExit → AAct → AW → Prop, (∀ A' W', J A' W' → Q' .normal A' W') → WpK T cx (.seq a b) A W Q') (h2 : ∀ A' W', J A' W' → WpK T cx c A' W' Q) : WpK T cx (.seq a (.seq b c)) A W Q := by
  rw [← wpK_assoc]; exact wpK_cut J h h2
theorem Way.bound {l : List Bra} {n : Nat} {wo x y : Int} (hL : BrIn n l) (hx : 0 ≤ x ∧ x < n) (h : Way l wo x y) : 0 ≤ y ∧ y < n :=
  h.within (T := fun y => 0 ≤ y ∧ y < n) (fun y z _ hj => by
    obtain ⟨i, a, h1, h2, h3⟩ := hj
    have := hL a (List.mem_of_getElem? h1)
    rcases h3 with ⟨rfl, rfl⟩ | ⟨rfl, rfl⟩ <;> omega) hx
theorem set_of (n : Nat) : ∀ S : List Int, S.Nodup → (∀ y ∈ S, 0 ≤ y ∧ y < n) → ∃ T : Nat, (∀ i : Nat, T.testBit i = decide ((i : Int) ∈ S)) ∧ cntB T n = S.length
  | [], _, _ => ⟨0, fun i => by simp, by
    have : ∀ m, cntB 0 m = 0 := fun m => by
      induction m with
      | zero => rfl
      | succ m ih => rw [cntB, ih, Nat.zero_testBit]; rfl
    exact this n⟩
  | y :: S, hn, hb => by
    have hn' := List.nodup_cons.1 hn
    obtain ⟨T, h1, h2⟩ := set_of n S hn'.2 (fun z hz => hb z (List.mem_cons_of_mem _ hz))
    have hy := hb y List.mem_cons_self
    have ey : ((y.toNat : Nat) : Int) = y := by omega
    have hT : T.testBit y.toNat = false := by rw [h1, ey]; exact decide_eq_false hn'.1
    refine ⟨T ||| 1 <<< y.toNat, fun i => ?_, by rw [cntB_or hT n (by omega), h2]; rfl⟩
    rw [Nat.testBit_or, one_bit, h1]
    by_cases e : y.toNat = i
    · have : (i : Int) = y := by omega
      rw [decide_eq_true e, Bool.or_true, this]
      exact (decide_eq_true List.mem_cons_self).symm
    · rw [decide_eq_false e, Bool.or_false]
      have : ¬ (i : Int) = y := by omega
      simp [List.mem_cons, this]
structure SideS (l : List Bra) (wo x : Int) (S : List Int) (i : Nat) : Prop where
  nd : S.Nodup
  here : x ∈ S
  way : ∀ y ∈ S, Way l wo x y
  done : ∀ (j : Nat) y, j < i → S[j]? = some y → ∀ z, Joined l wo y z → z ∈ S
theorem SideS.start (l : List Bra) (wo x : Int) : SideS l wo x [x] 0 := ⟨by simp, by simp, fun y hy => by
  rw [List.mem_singleton] at hy; subst hy; exact .here, fun j y hj => by omega⟩
theorem SideS.len {l : List Bra} {wo : Int} {x n : Nat} {S : List Int} {i : Nat} (h : SideS l wo x S i) (hL : BrIn n l) (hx : x < n) : S.length ≤ n := by
  obtain ⟨T, _, h2⟩ := set_of n S h.nd (fun y hy => (h.way y hy).bound hL (by omega))
  rw [← h2]; exact cntB_max T n
theorem SideS.pos {l : List Bra} {wo x : Int} {S : List Int} {i : Nat} (h : SideS l wo x S i) : 0 < S.length := List.length_pos_of_mem h.here
theorem SideS.add {l : List Bra} {wo x y z : Int} {S : List Int} {i : Nat} (h : SideS l wo x S i) (hy : y ∈ S) (hz : Joined l wo y z) (hn : z ∉ S) (hi : i ≤ S.length) : SideS l wo x (S ++ [z]) i where
  nd := by
    rw [List.nodup_append]
    exact ⟨h.nd, by simp, fun a ha b hb e => by rw [List.mem_singleton] at hb; subst hb; subst e; exact hn ha⟩
  here := List.mem_append_left _ h.here
  way w hw := by
    rcases List.mem_append.1 hw with hw | hw
    · exact h.way w hw
    · rw [List.mem_singleton] at hw; subst hw; exact .next (h.way y hy) hz
  done j w hj hw v hv := by
    rw [List.getElem?_append_left (by omega)] at hw
    exact List.mem_append_left _ (h.done j w hj hw v hv)
def PartS (l : List Bra) (wo y : Int) (j : Nat) (S : List Int) : Prop := ∀ (m : Nat) a, m < j → l[m]? = some a → (m : Int) ≠ wo → (a.1 = y → a.2.1 ∈ S) ∧ (a.2.1 = y → a.1 ∈ S)
theorem PartS.more {l : List Bra} {wo y : Int} {j : Nat} {S S' : List Int} (h : PartS l wo y j S) (hs : ∀ w ∈ S, w ∈ S') : PartS l wo y j S' := fun m a h1 h2 h3 => ⟨fun e => hs _ ((h m a h1 h2 h3).1 e), fun e => hs _ ((h m a h1 h2 h3).2 e)⟩
theorem SideS.next {l : List Bra} {wo x y : Int} {S : List Int} {i : Nat} (h : SideS l wo x S i) (hy : S[i]? = some y) (hP : PartS l wo y l.length S) : SideS l wo x S (i + 1) where
  nd := h.nd
  here := h.here
  way := h.way
  done j w hj hw z hz := by
    by_cases e : j = i
    · subst e; rw [hy] at hw; cases hw
      obtain ⟨m, a, h1, h2, h3⟩ := hz
      have hp := hP m a (List.getElem?_eq_some_iff.1 h1).1 h1 h2
      rcases h3 with ⟨e1, e2⟩ | ⟨e1, e2⟩
      · exact e2 ▸ hp.1 e1
      · exact e1 ▸ hp.2 e2
    · exact h.done j w (by omega) hw z hz
theorem SideS.all {l : List Bra} {wo x : Int} {S : List Int} (h : SideS l wo x S S.length) (y : Int) : y ∈ S ↔ Way l wo x y :=
  ⟨h.way y, fun hw => hw.within (T := fun y => y ∈ S) (fun a b ha hj => by
    obtain ⟨i, hi, e⟩ := List.getElem_of_mem ha
    exact h.done i a hi (by rw [← e]; exact List.getElem?_eq_getElem hi) b hj) h.here⟩
def HeldI (W0 W : AW) (v : Value) (S : List Int) : Prop := HeldN W v S.length (intsV S) 3 1 (fun b => W0.next ≤ b)
theorem held_new (W : AW) (x : Int) : HeldI W (W.newCells 3 [.int .i64 x]) (.slice (some ⟨W.next, 0, none⟩) 1 2) [x] :=
  .inl ⟨rfl, W.next, Tr.nil.lay 0 [.int .i64 x], [], rfl, by show 0 < 1; omega, Nat.le_refl _, Nat.lt_succ_self _, by rw [newCells_get, if_pos rfl]; rfl, fun j hj => by
    rw [Tr.get_lay, if_pos (by have : j < 1 := hj; show 0 ≤ j ∧ j < 0 + 1; omega)]; simp [intsV], by simp⟩
theorem HeldI.has {W0 W : AW} {v : Value} {S : List Int} (h : HeldI W0 W v S) (hn : 0 < S.length) : ∃ b c, v = .slice (some ⟨b, 0, none⟩) S.length c ∧ b < W.next ∧ ∀ (i : Nat) x, S[i]? = some x → W.Has b i (.int .i64 x) := by
  obtain ⟨b, c, h1, _, h3, h4⟩ := HeldN.has h hn
  exact ⟨b, c, h1, h3, fun i x hx => h4 i _ (by rw [intsV, List.getElem?_map, hx]; rfl)⟩
theorem HeldI.ints {W0 W : AW} {v : Value} {S : List Int} (h : HeldI W0 W v S) (hn : 0 < S.length) : IntL W v S := by
  obtain ⟨b, c, rfl, _, h4⟩ := h.has hn
  exact ⟨_, _, rfl, fun i x hx => ⟨b, 0, rfl, by rw [Nat.zero_add]; exact h4 i x hx⟩⟩
theorem HeldI.push {W0 W : AW} {v : Value} {S : List Int} (h : HeldI W0 W v S) (he : Ext W0 W) (hl : S.length ≤ 1000) (x : Int) :
    ∃ v' W', aAppend T0 (W.newCells 3 [.int .i64 x]) [46, 46] [v, .slice (some ⟨W.next, 0, none⟩) 1 2] = some (v', W') ∧ HeldI W0 W' v' (S ++ [x]) ∧ Ext W0 W' := by
  have hE : Ext W (W.newCells 3 [.int .i64 x]) := .newCells _ _ _
  have h1 := HeldN.only (K' := fun _ => False) h hE (fun _ _ _ y => y)
  have hn := he.1
  obtain ⟨v', W', a1, a2, a3, a4⟩ := append_heldN (T := T0) (t := 46) (el := 3) (c := 2) (by omega) und46 inf3 is3 z3' rfl h1 (u := [.int .i64 x]) rfl (newCells_cellsAt W 3 [.int .i64 x] 1 rfl) rfl (by rw [by3']; omega) (by omega)
  refine ⟨v', W', a1, ?_, ?_⟩
  · have e1 : (S ++ [x]).length = S.length + 1 := by simp
    have e2 : intsV (S ++ [x]) = intsV S ++ [.int .i64 x] := by simp [intsV]
    show HeldN W' v' (S ++ [x]).length (intsV (S ++ [x])) 3 1 _
    rw [e1, e2]
    refine a3.mono (fun b hb => ?_)
    rcases hb with hb | hb
    · exact hb
    · rw [newCells_next] at hb; omega
  · refine ⟨by rw [a2, newCells_next]; omega, fun b hb _ => ?_⟩
    rw [a4.2 b (by rw [newCells_next]; omega) (by omega)]
    rw [hE.2 b (by omega) (fun y => y)]
    exact he.2 b hb (fun y => y)
theorem side_wp {W : AW} {v : Value} {l : List Bra} {n x : Nat} {wo : Int} (h : TriIn W v l) (hll : l.length ≤ 1000) (hL : BrIn n l) (hn : n ≤ 900) (hx : x < n) :
    WpF T0 72 [v, .int .i64 wo, .int .i64 (x : Int)] W (fun u W' => Ext W W' ∧ ∃ S : List Int, IntL W' u S ∧ S.Nodup ∧ (∀ y, y ∈ S ↔ Way l wo x y) ∧ S.length ≤ n) := by
  obtain ⟨Av, cv, rfl, hA⟩ := h
  refine wpF fun72 rfl ?_
  obtain ⟨W0, hW0, hE0, hH0⟩ : ∃ W0, W0 = W.newCells 3 [.int .i64 (x : Int)] ∧ Ext W W0 ∧ HeldI W W0 (.slice (some ⟨W.next, 0, none⟩) 1 2) [(x : Int)] := ⟨_, rfl, .newCells _ _ _, held_new W x⟩
  try simp only [wpK_assoc]
  refine wpK_reg (fun R hR => by simp [zero46]; exact hR) ?_
  try simp only [wpK_assoc]
  refine wpK_reg (fun R hR => by simp [bs46, ← hW0]; exact hR) ?_
  try simp only [wpK_assoc]
  refine wpK_reg (fun R hR => by simp []; exact hR) ?_
  try simp only [wpK_assoc]
  refine wpK_while (I := fun k B W' => B.n = 84 ∧ B.defers = [] ∧ B.tmps.get 0 = some (.slice Av l.length cv) ∧ B.tmps.get 1 = some (.int .i64 wo) ∧ Ext W W' ∧ ∃ (i : Nat) (u : Value) (S : List Int), k = n - i ∧ i ≤ S.length ∧ B.tmps.get 8 = some (.int .i64 i) ∧ B.tmps.get 7 = some u ∧ HeldI W W' u S ∧ SideS l wo x S i)
    (J := fun B W' => B.n = 84 ∧ B.defers = [] ∧ Ext W W' ∧ ∃ (u : Value) (S : List Int), B.tmps.get 7 = some u ∧ HeldI W W' u S ∧ SideS l wo x S S.length) (Rt := fun _ _ => False) (k := n) ?_ ?_ ?_ ?_
  · exact ⟨rfl, rfl, by simp, by simp, hE0, 0, _, [(x : Int)], by simp, by simp, by simp, by simp, hH0, .start l wo x⟩
  · rintro k ⟨tm, n, ds⟩ W3 ⟨hn, hd, h0, h1, e3, i, u, S, hk, hi, h8, h7, hH, hS⟩ Q' hJ hRt hI
    simp only at hn hd h0 h1
    subst hn; subst hd
    simp only at h8 h7
    have hSn := hS.len hL hx
    obtain ⟨bb, cc, rfl, hbn, hHas⟩ := hH.has hS.pos
    try simp only [wpK_assoc]
    refine wpK_reg (fun R hR => by simp [h7, h8, len_slice und46]; exact hR) ?_
    by_cases hlt : i < S.length
    case neg =>
      have e : i = S.length := by omega
      try simp only [wpK_assoc]
      first | refine wpK_onF (by simp [hlt]) ?_ | refine wpK_out (by simp [hlt]) ?_ | refine wpK_condF (by simp [hlt]) ?_ | refine wpK_endF (by simp [hlt]) (wpK_skip ?_) | refine wpK_endF (by simp [hlt]) ?_
      exact hJ _ _ ⟨rfl, rfl, e3, _, S, by simp [h7], hH, e ▸ hS⟩
    try simp only [wpK_assoc]
    first | refine wpK_onT (by simp [hlt]) ?_ | refine wpK_outT (by simp [hlt]) ?_ | refine wpK_condT (by simp [hlt]) ?_ | refine wpK_endT (by simp [hlt]) ?_
    have hsi : IntKind.i64.wrap ((i : Int) + 1) = ((i + 1 : Nat) : Int) := i64_succ i (by omega)
    have hyi : S[i]? = some S[i] := List.getElem?_eq_getElem hlt
    generalize S[i] = y at hyi
    refine wpK_block ?_
    try simp only [wpK_assoc]
    refine wpK_reg (fun R hR => by simp []; exact hR) ?_
    try simp only [wpK_assoc]
    refine wpK_while1 (I := fun k B W' => B.n = 84 ∧ B.defers = [] ∧ B.tmps.get 0 = some (.slice Av l.length cv) ∧ B.tmps.get 1 = some (.int .i64 wo) ∧ B.tmps.get 8 = some (.int .i64 i) ∧ Ext W W' ∧ ∃ (j : Nat) (u : Value) (S : List Int), k = l.length - j ∧ j ≤ l.length ∧ B.tmps.get 9 = some (.int .i64 j) ∧ B.tmps.get 7 = some u ∧ HeldI W W' u S ∧ SideS l wo x S i ∧ S[i]? = some y ∧ PartS l wo y j S)
      (J := fun B W' => B.n = 84 ∧ B.defers = [] ∧ B.tmps.get 0 = some (.slice Av l.length cv) ∧ B.tmps.get 1 = some (.int .i64 wo) ∧ B.tmps.get 8 = some (.int .i64 i) ∧ Ext W W' ∧ ∃ (u : Value) (S : List Int), B.tmps.get 7 = some u ∧ HeldI W W' u S ∧ SideS l wo x S (i + 1) ∧ i < S.length) (Rt := fun _ _ => False) (k := l.length) ?_ ?_ ?_ ?_
    · exact ⟨rfl, rfl, by simp [h0, h1, h8], by simp [h0, h1, h8], by simp [h0, h1, h8], e3, 0, _, S, by simp, by omega, by simp, by simp [h7], hH, hS, hyi, fun m a hm => by omega⟩
    · clear hH hS hyi hHas hlt hbn h7 hSn
      rintro kk ⟨tm, n, ds⟩ W4 ⟨hn, hd, h0, h1, h8, e4, j, u, S, hkk, hj, h9, h7, hH, hS, hyi, hP⟩ Q3 hJ3 hRt3 hI3
      simp only at hn hd h0 h1 h8
      subst hn; subst hd
      simp only at h9 h7
      try simp only [wpK_assoc]
      refine wpK_reg (fun R hR => by simp [h0, h9, len_slice und92]; exact hR) ?_
      have hiS : i < S.length := (List.getElem?_eq_some_iff.1 hyi).1
      by_cases hltj : j < l.length
      case neg =>
        have e : j = l.length := by omega
        subst e
        try simp only [wpK_assoc]
        first | refine wpK_onF (by simp [hltj]) ?_ | refine wpK_out (by simp [hltj]) ?_ | refine wpK_condF (by simp [hltj]) ?_ | refine wpK_endF (by simp [hltj]) (wpK_skip ?_) | refine wpK_endF (by simp [hltj]) ?_
        exact hJ3 _ _ ⟨rfl, rfl, by simp [h0, h1, h8], by simp [h0, h1, h8], by simp [h0, h1, h8], e4, u, S, by simp [h7], hH, hS.next hyi hP, hiS⟩
      try simp only [wpK_assoc]
      first | refine wpK_onT (by simp [hltj]) ?_ | refine wpK_outT (by simp [hltj]) ?_ | refine wpK_condT (by simp [hltj]) ?_ | refine wpK_endT (by simp [hltj]) ?_
      have hsj : IntKind.i64.wrap ((j : Int) + 1) = ((j + 1 : Nat) : Int) := i64_succ j (by omega)
      have ha : l[j]? = some l[j] := List.getElem?_eq_getElem hltj
      generalize l[j] = a at ha
      obtain ⟨a1, a2, a3⟩ := a
      have fin : ∀ (A' : AAct) (W' : AW) (u : Value) (S : List Int), A'.n = 84 ∧ A'.defers = [] ∧ A'.tmps.get 0 = some (.slice Av l.length cv) ∧ A'.tmps.get 1 = some (.int .i64 wo) ∧ A'.tmps.get 8 = some (.int .i64 i) → Ext W W' → A'.tmps.get 9 = some (.int .i64 ((j + 1 : Nat) : Int)) → A'.tmps.get 7 = some u → HeldI W W' u S → SideS l wo x S i → S[i]? = some y → PartS l wo y (j + 1) S → Q3 .normal A' W' := fun A' W' u S hG h1 h2 h3 h4 h5 h6 h7 => hI3 (kk - 1) _ _ (by omega) ⟨hG.1, hG.2.1, hG.2.2.1, hG.2.2.2.1, hG.2.2.2.2, h1, j + 1, u, S, by omega, by omega, h2, h3, h4, h5, h6, h7⟩
      obtain ⟨b, o, hAv, q1, q2, q3⟩ := hA j _ ha
      have eV := indexAddr_tri (T := T0) und92 sz97 (b := b) (o := o) (c := cv) (k := .i64) hltj
      rw [← hAv] at eV
      have l1 : ∀ W', Ext W W' → aLoadVar T0 W' 3 b (o + 3 * j) = some (.int .i64 a1) := fun W' he => load_of und3 rfl (q1.ext he)
      have l2 : ∀ W', Ext W W' → aLoadVar T0 W' 3 b (o + 3 * j + 1) = some (.int .i64 a2) := fun W' he => load_of und3 rfl (q2.ext he)
      refine wpK_block ?_
      by_cases c1 : (j : Int) = wo
      · try simp only [wpK_assoc]
        refine wpK_reg (fun R hR => by simp [h1, h9, c1]; exact hR) ?_
        try simp only [wpK_assoc]
        first | refine wpK_onT (by simp []) ?_ | refine wpK_outT (by simp []) ?_ | refine wpK_condT (by simp []) ?_ | refine wpK_endT (by simp []) ?_
        simp only [behind_exit, leaves_exit, if_true, behind_normal]
        try simp only [wpK_assoc]
        refine wpK_reg1 (fun R hR => by simp [h9, hsj]; exact hR) ?_
        exact fin _ _ u S (by exact ⟨rfl, rfl, by simp [h0, h1, h8], by simp [h0, h1, h8], by simp [h0, h1, h8]⟩) e4 (by simp) (by simp [h7]) hH hS hyi (fun m a h1 h2 h3 => by
          by_cases e : m = j
          · exact absurd (e ▸ c1) h3
          · exact hP m a (by omega) h2 h3)
      try simp only [wpK_assoc]
      refine wpK_reg (fun R hR => by simp [h1, h9, c1]; exact hR) ?_
      try simp only [wpK_assoc]
      first | refine wpK_onF (by simp []) ?_ | refine wpK_out (by simp []) ?_ | refine wpK_condF (by simp []) ?_ | refine wpK_endF (by simp []) (wpK_skip ?_) | refine wpK_endF (by simp []) ?_
      have hyS0 : y ∈ S := List.mem_of_getElem? hyi
      have hSn0 := hS.len hL hx
      have h50 := has50_wp (hH.ints hS.pos) (by omega) a2
      try simp only [wpK_assoc]
      refine wpK_cut2 (J := fun B W' => B.n = 84 ∧ B.defers = [] ∧ B.tmps.get 0 = some (.slice Av l.length cv) ∧ B.tmps.get 1 = some (.int .i64 wo) ∧ B.tmps.get 8 = some (.int .i64 i) ∧ B.tmps.get 9 = some (.int .i64 j) ∧ Ext W W' ∧ ∃ (u : Value) (S : List Int), B.tmps.get 7 = some u ∧ HeldI W W' u S ∧ SideS l wo x S i ∧ S[i]? = some y ∧ PartS l wo y j S ∧ (a1 = y → a2 ∈ S)) (fun Q2 hQ2 => ?_) ?_
      · obtain ⟨bb, cc, rfl, hbn, hHas⟩ := hH.has hS.pos
        have eU := indexAddr_slice (T := T0) und46 sz3 (b := bb) (o := 0) (c := cc) (k := .i64) hiS
        rw [Nat.mul_one, Nat.zero_add] at eU
        have lU := load_of und3 rfl (hHas i y hyi)
        by_cases e1 : a1 = y
        case neg =>
          try simp only [wpK_assoc]
          refine wpK_dn (wr := Tr.nil |>.set 27 0 |>.set 28 1 |>.set 29 2 |>.set 30 3 |>.set 31 4 |>.set 32 5 |>.set 33 6 |>.set 34 7 |>.set 35 8 |>.set 36 9 |>.set 37 10 |>.set 38 11 |>.set 39 12 |>.set 40 13 |>.set 41 14 |>.set 42 15 |>.set 43 16 |>.set 44 17 |>.set 45 18 |>.set 46 19) (bits := Tr.nil.lay 0 [0, 0, 3, 7, 15, 0, 0, 96, 224, 511, 1023, 2047, 2047, 2047, 14335, 30719, 63487, 131071, 262143, 524287]) (ord := [0, 1, 2, 3, 4, 5, 6, 7, 8, 9, 10, 11, 12, 13, 14, 15, 16, 17, 18, 19]) (by kernel_rfl) (by kernel_rfl) (by kernel_rfl) (fun G hG => by
            simp [h0, h7, h8, h9, eV, l1, e4, eU, lU, e1, field97, undef]
            exact hG) ?_
          refine wpK_endF (by simp) (wpK_skip (hQ2 _ _ ⟨rfl, rfl, by simp [h0, h1, h8], by simp [h0, h1, h8], by simp [h0, h1, h8], by simp [h9], e4, _, S, by simp [h7], hH, hS, hyi, hP, fun e => absurd e e1⟩))
        by_cases hz : a2 ∈ S
        · try simp only [wpK_assoc]
          refine wpK_dn (wr := Tr.nil |>.set 27 0 |>.set 28 1 |>.set 29 2 |>.set 30 3 |>.set 31 4 |>.set 32 5 |>.set 33 6 |>.set 34 7 |>.set 35 8 |>.set 36 9 |>.set 37 10 |>.set 38 11 |>.set 39 12 |>.set 40 13 |>.set 41 14 |>.set 42 15 |>.set 43 16 |>.set 44 17 |>.set 45 18 |>.set 46 19) (bits := Tr.nil.lay 0 [0, 0, 3, 7, 15, 0, 0, 96, 224, 511, 1023, 2047, 2047, 2047, 14335, 30719, 63487, 131071, 262143, 524287]) (ord := [0, 1, 2, 3, 4, 5, 6, 7, 8, 9, 10, 11, 12, 13, 14, 15, 16, 17, 18, 19]) (by kernel_rfl) (by kernel_rfl) (by kernel_rfl) (fun G hG => by
            simp [h0, h7, h8, h9, eV, l1, l2, e4, eU, lU, e1, field97, aEnter, fun50, short_other, aCallV]
            rw [dcallS_none]
            refine h50.mono ?_
            rintro _ W9 ⟨e9, rfl⟩; subst W9
            simp [h0, h7, h8, h9, eV, l1, l2, e4, eU, lU, e1, field97, hz]
            exact hG) ?_
          refine wpK_endF (by simp) (wpK_skip (hQ2 _ _ ⟨rfl, rfl, by simp [h0, h1, h8], by simp [h0, h1, h8], by simp [h0, h1, h8], by simp [h9], e4, _, S, by simp [h7], hH, hS, hyi, hP, fun _ => hz⟩))
        · try simp only [wpK_assoc]
          refine wpK_dn (wr := Tr.nil |>.set 27 0 |>.set 28 1 |>.set 29 2 |>.set 30 3 |>.set 31 4 |>.set 32 5 |>.set 33 6 |>.set 34 7 |>.set 35 8 |>.set 36 9 |>.set 37 10 |>.set 38 11 |>.set 39 12 |>.set 40 13 |>.set 41 14 |>.set 42 15 |>.set 43 16 |>.set 44 17 |>.set 45 18 |>.set 46 19) (bits := Tr.nil.lay 0 [0, 0, 3, 7, 15, 0, 0, 96, 224, 511, 1023, 2047, 2047, 2047, 14335, 30719, 63487, 131071, 262143, 524287]) (ord := [0, 1, 2, 3, 4, 5, 6, 7, 8, 9, 10, 11, 12, 13, 14, 15, 16, 17, 18, 19]) (by kernel_rfl) (by kernel_rfl) (by kernel_rfl) (fun G hG => by
            simp [h0, h7, h8, h9, eV, l1, l2, e4, eU, lU, e1, field97, aEnter, fun50, short_other, aCallV]
            rw [dcallS_none]
            refine h50.mono ?_
            rintro _ W9 ⟨e9, rfl⟩; subst W9
            simp [h0, h7, h8, h9, eV, l1, l2, e4, eU, lU, e1, field97, hz]
            exact hG) ?_
          try simp only [wpK_assoc]
          first | refine wpK_onT (by simp []) ?_ | refine wpK_outT (by simp []) ?_ | refine wpK_condT (by simp []) ?_ | refine wpK_endT (by simp []) ?_
          obtain ⟨w', W8, p1, p2, p3⟩ := hH.push e4 (by omega) a2
          have hjz : Joined l wo y a2 := ⟨j, _, ha, c1, by subst e1; exact .inl ⟨rfl, rfl⟩⟩
          have hadd := hS.add hyS0 hjz hz (by omega)
          try simp only [wpK_assoc]
          refine wpK_reg1 (fun R hR => by simp [h0, h7, h9, eV, l2, e4, field97, bs46, p1]; exact hR) ?_
          have hmem : ∀ w ∈ S, w ∈ S ++ [a2] := fun w hw => List.mem_append_left _ hw
          exact hQ2 _ _ ⟨rfl, rfl, by simp [h0, h1, h8], by simp [h0, h1, h8], by simp [h0, h1, h8], by simp [h9], p3, w', S ++ [a2], by simp, p2, hadd, by rw [List.getElem?_append_left hiS]; exact hyi, hP.more hmem, fun _ => List.mem_append_right _ (by simp)⟩
      clear h0 h1 h7 h8 h9 hH hS hyi hP hyS0 hSn0 h50 hiS
      rintro ⟨tm, n, ds⟩ W5 ⟨hn, hd, h0, h1, h8, h9, e5, u, S, h7, hH, hS, hyi, hP, hq⟩
      simp only at hn hd h0 h1 h8
      subst hn; subst hd
      simp only at h9 h7
      have hiS : i < S.length := (List.getElem?_eq_some_iff.1 hyi).1
      have hyS1 : y ∈ S := List.mem_of_getElem? hyi
      have hSn1 := hS.len hL hx
      have h50 := has50_wp (hH.ints hS.pos) (by omega) a1
      try simp only [wpK_assoc]
      refine wpK_cut1 (J := fun B W' => B.n = 84 ∧ B.defers = [] ∧ B.tmps.get 0 = some (.slice Av l.length cv) ∧ B.tmps.get 1 = some (.int .i64 wo) ∧ B.tmps.get 8 = some (.int .i64 i) ∧ B.tmps.get 9 = some (.int .i64 j) ∧ Ext W W' ∧ ∃ (u : Value) (S : List Int), B.tmps.get 7 = some u ∧ HeldI W W' u S ∧ SideS l wo x S i ∧ S[i]? = some y ∧ PartS l wo y j S ∧ ((a1 = y → a2 ∈ S) ∧ (a2 = y → a1 ∈ S))) (fun Q2 hQ2 => ?_) ?_
      · obtain ⟨bb, cc, rfl, hbn, hHas⟩ := hH.has hS.pos
        have eU := indexAddr_slice (T := T0) und46 sz3 (b := bb) (o := 0) (c := cc) (k := .i64) hiS
        rw [Nat.mul_one, Nat.zero_add] at eU
        have lU := load_of und3 rfl (hHas i y hyi)
        by_cases e1 : a2 = y
        case neg =>
          try simp only [wpK_assoc]
          refine wpK_dn (wr := Tr.nil |>.set 55 0 |>.set 56 1 |>.set 57 2 |>.set 58 3 |>.set 59 4 |>.set 60 5 |>.set 61 6 |>.set 62 7 |>.set 63 8 |>.set 64 9 |>.set 65 10 |>.set 66 11 |>.set 67 12 |>.set 68 13 |>.set 69 14 |>.set 70 15 |>.set 71 16 |>.set 72 17 |>.set 73 18 |>.set 74 19) (bits := Tr.nil.lay 0 [0, 0, 3, 7, 15, 0, 0, 96, 224, 511, 1023, 2047, 2047, 2047, 14335, 30719, 63487, 131071, 262143, 524287]) (ord := [0, 1, 2, 3, 4, 5, 6, 7, 8, 9, 10, 11, 12, 13, 14, 15, 16, 17, 18, 19]) (by kernel_rfl) (by kernel_rfl) (by kernel_rfl) (fun G hG => by
            simp [h0, h7, h8, h9, eV, l2, e5, eU, lU, e1, field97, undef]
            exact hG) ?_
          refine wpK_endF (by simp) (wpK_skip (hQ2 _ _ ⟨rfl, rfl, by simp [h0, h1, h8], by simp [h0, h1, h8], by simp [h0, h1, h8], by simp [h9], e5, _, S, by simp [h7], hH, hS, hyi, hP, ⟨hq, fun e => absurd e e1⟩⟩))
        by_cases hz : a1 ∈ S
        · try simp only [wpK_assoc]
          refine wpK_dn (wr := Tr.nil |>.set 55 0 |>.set 56 1 |>.set 57 2 |>.set 58 3 |>.set 59 4 |>.set 60 5 |>.set 61 6 |>.set 62 7 |>.set 63 8 |>.set 64 9 |>.set 65 10 |>.set 66 11 |>.set 67 12 |>.set 68 13 |>.set 69 14 |>.set 70 15 |>.set 71 16 |>.set 72 17 |>.set 73 18 |>.set 74 19) (bits := Tr.nil.lay 0 [0, 0, 3, 7, 15, 0, 0, 96, 224, 511, 1023, 2047, 2047, 2047, 14335, 30719, 63487, 131071, 262143, 524287]) (ord := [0, 1, 2, 3, 4, 5, 6, 7, 8, 9, 10, 11, 12, 13, 14, 15, 16, 17, 18, 19]) (by kernel_rfl) (by kernel_rfl) (by kernel_rfl) (fun G hG => by
            simp [h0, h7, h8, h9, eV, l2, l1, e5, eU, lU, e1, field97, aEnter, fun50, short_other, aCallV]
            rw [dcallS_none]
            refine h50.mono ?_
            rintro _ W9 ⟨e9, rfl⟩; subst W9
            simp [h0, h7, h8, h9, eV, l2, l1, e5, eU, lU, e1, field97, hz]
            exact hG) ?_
          refine wpK_endF (by simp) (wpK_skip (hQ2 _ _ ⟨rfl, rfl, by simp [h0, h1, h8], by simp [h0, h1, h8], by simp [h0, h1, h8], by simp [h9], e5, _, S, by simp [h7], hH, hS, hyi, hP, ⟨hq, fun _ => hz⟩⟩))
        · try simp only [wpK_assoc]
          refine wpK_dn (wr := Tr.nil |>.set 55 0 |>.set 56 1 |>.set 57 2 |>.set 58 3 |>.set 59 4 |>.set 60 5 |>.set 61 6 |>.set 62 7 |>.set 63 8 |>.set 64 9 |>.set 65 10 |>.set 66 11 |>.set 67 12 |>.set 68 13 |>.set 69 14 |>.set 70 15 |>.set 71 16 |>.set 72 17 |>.set 73 18 |>.set 74 19) (bits := Tr.nil.lay 0 [0, 0, 3, 7, 15, 0, 0, 96, 224, 511, 1023, 2047, 2047, 2047, 14335, 30719, 63487, 131071, 262143, 524287]) (ord := [0, 1, 2, 3, 4, 5, 6, 7, 8, 9, 10, 11, 12, 13, 14, 15, 16, 17, 18, 19]) (by kernel_rfl) (by kernel_rfl) (by kernel_rfl) (fun G hG => by
            simp [h0, h7, h8, h9, eV, l2, l1, e5, eU, lU, e1, field97, aEnter, fun50, short_other, aCallV]
            rw [dcallS_none]
            refine h50.mono ?_
            rintro _ W9 ⟨e9, rfl⟩; subst W9
            simp [h0, h7, h8, h9, eV, l2, l1, e5, eU, lU, e1, field97, hz]
            exact hG) ?_
          try simp only [wpK_assoc]
          first | refine wpK_onT (by simp []) ?_ | refine wpK_outT (by simp []) ?_ | refine wpK_condT (by simp []) ?_ | refine wpK_endT (by simp []) ?_
          obtain ⟨w', W8, p1, p2, p3⟩ := hH.push e5 (by omega) a1
          have hjz : Joined l wo y a1 := ⟨j, _, ha, c1, by subst e1; exact .inr ⟨rfl, rfl⟩⟩
          have hadd := hS.add hyS1 hjz hz (by omega)
          try simp only [wpK_assoc]
          refine wpK_reg1 (fun R hR => by simp [h0, h7, h9, eV, l1, e5, field97, bs46, p1]; exact hR) ?_
          have hmem : ∀ w ∈ S, w ∈ S ++ [a1] := fun w hw => List.mem_append_left _ hw
          exact hQ2 _ _ ⟨rfl, rfl, by simp [h0, h1, h8], by simp [h0, h1, h8], by simp [h0, h1, h8], by simp [h9], p3, w', S ++ [a1], by simp, p2, hadd, by rw [List.getElem?_append_left hiS]; exact hyi, hP.more hmem, ⟨fun e => hmem _ (hq e), fun _ => List.mem_append_right _ (by simp)⟩⟩
      clear h0 h1 h7 h8 h9 hH hS hyi hP hyS1 hSn1 h50 hiS
      rintro ⟨tm, n, ds⟩ W6 ⟨hn, hd, h0, h1, h8, h9, e6, u, S, h7, hH, hS, hyi, hP, hq2⟩
      simp only at hn hd h0 h1 h8
      subst hn; subst hd
      simp only at h9 h7
      try simp only [behind_normal]
      try simp only [wpK_assoc]
      refine wpK_reg1 (fun R hR => by simp [h9, hsj]; exact hR) ?_
      exact fin _ _ u S (by exact ⟨rfl, rfl, by simp [h0, h1, h8], by simp [h0, h1, h8], by simp [h0, h1, h8]⟩) e6 (by simp) (by simp [h7]) hH hS hyi (fun m a h1 h2 h3 => by
        by_cases e : m = j
        · subst e; rw [ha] at h2; cases h2; exact hq2
        · exact hP m a (by omega) h2 h3)
    · rintro A' W' hf; exact hf.elim
    · rintro ⟨tm, n, ds⟩ W6 ⟨hn, hd, h0, h1, h8, e6, u, S', h7', hH', hS', hi'⟩
      simp only at hn hd h0 h1 h8
      subst hn; subst hd
      simp only at h7'
      try simp only [behind_normal]
      try simp only [wpK_assoc]
      refine wpK_reg1 (fun R hR => by simp [h8, hsi]; exact hR) ?_
      exact hI (n - (i + 1)) _ _ (by omega) ⟨rfl, rfl, by simp [h0, h1], by simp [h0, h1], e6, i + 1, u, S', rfl, by omega, by simp, by simp [h7'], hH', hS'⟩
  · rintro A' W' hf; exact hf.elim
  · rintro ⟨tm, m, ds⟩ W3 ⟨hn', hd, e3, u, S, h7, hH, hS⟩
    simp only at hn' hd h7
    subst hn'; subst hd
    try simp only [wpK_assoc]
    refine wpK_reg (fun R hR => by simp [h7]; exact hR) ?_
    exact wpK_ret ⟨.inr rfl, rfl, [u], by simp, e3, S, hH.ints hS.pos, hS.nd, hS.all, hS.len hL hx⟩
theorem cntB_full {T : Nat} : ∀ n, cntB T n = n → ∀ q, q < n → T.testBit q = true
  | 0, _, q, hq => by omega
  | n + 1, h, q, hq => by
    have hm := cntB_max T n
    rw [cntB] at h
    cases hb : T.testBit n with
    | false => rw [hb] at h; simp at h; omega
    | true =>
      rw [hb] at h
      have h' : cntB T n + 1 = n + 1 := h
      by_cases e : q = n
      · rw [e]; exact hb
      · exact cntB_full n (by omega) q (by omega)
theorem spans_side {l : List Bra} (hL : BrIn (l.length + 1) l) {S : List Int} (hn : S.Nodup) (hw : ∀ y, y ∈ S ↔ Way l (-1) (0 : Nat) y) : S.length = l.length + 1 ↔ spansB l := by
  obtain ⟨T, h1, h2⟩ := set_of (l.length + 1) S hn (fun y hy => ((hw y).1 hy).bound hL (by omega))
  have hq : ∀ q : Nat, T.testBit q = (roundsB l (-1) l.length (1 <<< 0)).testBit q := fun q => by
    have h3 := reach_way (wo := -1) hL (f := 0) (by omega) (Nat.le_refl _) q
    rw [h1]
    by_cases e : (q : Int) ∈ S
    · rw [decide_eq_true e, h3.2 ((hw q).1 e)]
    · rw [decide_eq_false e]
      cases hb : (roundsB l (-1) l.length (1 <<< 0)).testBit q with
      | false => rfl
      | true => exact absurd ((hw q).2 (h3.1 hb)) e
  rw [← h2]
  constructor
  · intro h q hlt
    rw [← hq]; exact cntB_full _ h q hlt
  · intro h
    exact cntB_all _ (fun q hlt => by rw [hq]; exact h q hlt)
theorem refJoins_wp {W : AW} {v : Value} {l : List Bra} (h : TriIn W v l) (hl : l.length ≤ 1000) :
    WpF T0 48 [v] W (fun u W' => Ext W W' ∧ ((joinsB l ∧ u = .bool true) ∨ (¬ joinsB l ∧ u = .bool false))) := by
  have h' := h
  obtain ⟨Av, cv, rfl, hA⟩ := h
  refine wpF fun48 rfl ?_
  have w1 : IntKind.i64.wrap ((l.length : Int) + 1) = ((l.length + 1 : Nat) : Int) := i64_succ _ (by omega)
  try simp only [wpK_assoc]
  refine wpK_reg (fun R hR => by simp []; exact hR) ?_
  by_cases c1 : (l.length : Int) < 1
  · try simp only [wpK_assoc]
    refine wpK_reg (fun R hR => by simp [len_slice und92, c1, undef]; exact hR) ?_
    try simp only [wpK_assoc]
    first | refine wpK_onT (by simp []) ?_ | refine wpK_outT (by simp []) ?_ | refine wpK_condT (by simp []) ?_ | refine wpK_endT (by simp []) ?_
    try simp only [wpK_assoc]
    refine wpK_reg (fun R hR => by simp []; exact hR) ?_
    exact wpK_ret ⟨.inr rfl, rfl, [.bool false], by simp, .refl _ _, .inr ⟨fun hj => by have := hj.1; omega, rfl⟩⟩
  by_cases c2 : (23 : Int) < (l.length : Int)
  · try simp only [wpK_assoc]
    refine wpK_reg (fun R hR => by simp [len_slice und92, c1, c2]; exact hR) ?_
    try simp only [wpK_assoc]
    first | refine wpK_onT (by simp []) ?_ | refine wpK_outT (by simp []) ?_ | refine wpK_condT (by simp []) ?_ | refine wpK_endT (by simp []) ?_
    try simp only [wpK_assoc]
    refine wpK_reg (fun R hR => by simp []; exact hR) ?_
    exact wpK_ret ⟨.inr rfl, rfl, [.bool false], by simp, .refl _ _, .inr ⟨fun hj => by have := hj.2.1; omega, rfl⟩⟩
  try simp only [wpK_assoc]
  refine wpK_reg (fun R hR => by simp [len_slice und92, c1, c2]; exact hR) ?_
  try simp only [wpK_assoc]
  first | refine wpK_onF (by simp []) ?_ | refine wpK_out (by simp []) ?_ | refine wpK_condF (by simp []) ?_ | refine wpK_endF (by simp []) (wpK_skip ?_) | refine wpK_endF (by simp []) ?_
  try simp only [wpK_assoc]
  refine wpK_reg (fun R hR => by simp []; exact hR) ?_
  try simp only [wpK_assoc]
  refine wpK_while (I := fun k A W' => A.n = 59 ∧ A.defers = [] ∧ A.tmps.get 0 = some (.slice Av l.length cv) ∧ W' = W ∧ ∃ i : Nat, k = l.length - i ∧ i ≤ l.length ∧ A.tmps.get 3 = some (.int .i64 i) ∧ ∀ (j : Nat) a, j < i → l[j]? = some a → 0 ≤ a.1 ∧ a.1 < ((l.length + 1 : Nat) : Int) ∧ 0 ≤ a.2.1 ∧ a.2.1 < ((l.length + 1 : Nat) : Int))
    (J := fun A W' => A.n = 59 ∧ A.defers = [] ∧ A.tmps.get 0 = some (.slice Av l.length cv) ∧ W' = W ∧ BrIn (l.length + 1) l)
    (Rt := fun A W' => A.defers = [] ∧ A.tmps.get 2 = some (.bool false) ∧ W' = W ∧ ¬ joinsB l) (k := l.length) ?_ ?_ ?_ ?_
  · exact ⟨rfl, rfl, by simp, rfl, 0, by simp, by omega, by simp, fun j a hj => by omega⟩
  · rintro k ⟨tm, n, ds⟩ W3 ⟨hn, hd, h0, rfl, i, hk, hi, h3, hgood⟩ Q' hJ hRt hI
    simp only at hn hd h0
    subst hn; subst hd
    simp only at h3
    try simp only [wpK_assoc]
    refine wpK_reg (fun R hR => by simp [h0, h3, len_slice und92]; exact hR) ?_
    by_cases hlt : i < l.length
    · try simp only [wpK_assoc]
      first | refine wpK_onT (by simp [hlt]) ?_ | refine wpK_outT (by simp [hlt]) ?_ | refine wpK_condT (by simp [hlt]) ?_ | refine wpK_endT (by simp [hlt]) ?_
      have ha : l[i]? = some l[i] := List.getElem?_eq_getElem hlt
      have hmem : l[i] ∈ l := List.getElem_mem hlt
      generalize l[i] = a at ha hmem
      obtain ⟨b, o, hAv, q1, q2, q3⟩ := hA i _ ha
      have eV := indexAddr_tri (T := T0) und92 sz97 (b := b) (o := o) (c := cv) (k := .i64) hlt
      rw [← hAv] at eV
      obtain ⟨a1, a2, a3⟩ := a
      have l1 := load_of und3 rfl q1
      have l2 := load_of und3 rfl q2
      have hsi : IntKind.i64.wrap ((i : Int) + 1) = ((i + 1 : Nat) : Int) := i64_succ i (by omega)
      have hbad : ¬ (0 ≤ a1 ∧ a1 < ((l.length + 1 : Nat) : Int) ∧ 0 ≤ a2 ∧ a2 < ((l.length + 1 : Nat) : Int)) → ¬ joinsB l := fun hn hj => hn (hj.2.2.1 _ hmem)
      refine wpK_block ?_
      by_cases d1 : a1 < 0
      · try simp only [wpK_assoc]
        refine wpK_reg (fun R hR => by simp [h0, h3, eV, l1, l2, field97, len_slice und92, d1, undef]; exact hR) ?_
        try simp only [wpK_assoc]
        first | refine wpK_onT (by simp []) ?_ | refine wpK_outT (by simp []) ?_ | refine wpK_condT (by simp []) ?_ | refine wpK_endT (by simp []) ?_
        try simp only [wpK_assoc]
        refine wpK_reg (fun R hR => by simp []; exact hR) ?_
        exact wpK_ret (hRt _ _ ⟨rfl, by simp, rfl, hbad (by omega)⟩)
      by_cases d2 : (l.length : Int) < a1
      · try simp only [wpK_assoc]
        refine wpK_reg (fun R hR => by simp [h0, h3, eV, l1, l2, field97, len_slice und92, d1, d2, undef]; exact hR) ?_
        try simp only [wpK_assoc]
        first | refine wpK_onT (by simp []) ?_ | refine wpK_outT (by simp []) ?_ | refine wpK_condT (by simp []) ?_ | refine wpK_endT (by simp []) ?_
        try simp only [wpK_assoc]
        refine wpK_reg (fun R hR => by simp []; exact hR) ?_
        exact wpK_ret (hRt _ _ ⟨rfl, by simp, rfl, hbad (by omega)⟩)
      by_cases d3 : a2 < 0
      · try simp only [wpK_assoc]
        refine wpK_reg (fun R hR => by simp [h0, h3, eV, l1, l2, field97, len_slice und92, d1, d2, d3, undef]; exact hR) ?_
        try simp only [wpK_assoc]
        first | refine wpK_onT (by simp []) ?_ | refine wpK_outT (by simp []) ?_ | refine wpK_condT (by simp []) ?_ | refine wpK_endT (by simp []) ?_
        try simp only [wpK_assoc]
        refine wpK_reg (fun R hR => by simp []; exact hR) ?_
        exact wpK_ret (hRt _ _ ⟨rfl, by simp, rfl, hbad (by omega)⟩)
      by_cases d4 : (l.length : Int) < a2
      · try simp only [wpK_assoc]
        refine wpK_reg (fun R hR => by simp [h0, h3, eV, l1, l2, field97, len_slice und92, d1, d2, d3, d4]; exact hR) ?_
        try simp only [wpK_assoc]
        first | refine wpK_onT (by simp []) ?_ | refine wpK_outT (by simp []) ?_ | refine wpK_condT (by simp []) ?_ | refine wpK_endT (by simp []) ?_
        try simp only [wpK_assoc]
        refine wpK_reg (fun R hR => by simp []; exact hR) ?_
        exact wpK_ret (hRt _ _ ⟨rfl, by simp, rfl, hbad (by omega)⟩)
      try simp only [wpK_assoc]
      refine wpK_reg (fun R hR => by simp [h0, h3, eV, l1, l2, field97, len_slice und92, d1, d2, d3, d4]; exact hR) ?_
      try simp only [wpK_assoc]
      first | refine wpK_onF (by simp []) ?_ | refine wpK_out (by simp []) ?_ | refine wpK_condF (by simp []) ?_ | refine wpK_endF (by simp []) (wpK_skip ?_) | refine wpK_endF (by simp []) ?_
      try simp only [wpK_assoc]
      refine wpK_reg1 (fun R hR => by simp [h3, hsi]; exact hR) ?_
      refine hI (k - 1) _ _ (by omega) ⟨rfl, rfl, by simp [h0], rfl, i + 1, by omega, by omega, by simp, fun j b hj hb => ?_⟩
      by_cases e : j = i
      · subst e; rw [ha] at hb; cases hb; simp only; omega
      · exact hgood j b (by omega) hb
    · try simp only [wpK_assoc]
      first | refine wpK_onF (by simp [hlt]) ?_ | refine wpK_out (by simp [hlt]) ?_ | refine wpK_condF (by simp [hlt]) ?_ | refine wpK_endF (by simp [hlt]) (wpK_skip ?_) | refine wpK_endF (by simp [hlt]) ?_
      refine hJ _ _ ⟨rfl, rfl, by simp [h0], rfl, fun a ha => ?_⟩
      obtain ⟨j, hj, rfl⟩ := List.getElem_of_mem ha
      exact hgood j l[j] (by omega) (List.getElem?_eq_getElem hj)
  · rintro A' W' ⟨g1, g2, rfl, g4⟩
    exact ⟨.inr rfl, g1, [.bool false], by simp [g2], .refl _ _, .inr ⟨g4, rfl⟩⟩
  · rintro ⟨tm, n, ds⟩ W3 ⟨hn, hd, h0, rfl, hL⟩
    simp only at hn hd h0
    subst hn; subst hd
    have hsw := side_wp (x := 0) (wo := -1) h' hl hL (by omega) (by omega)
    simp only [Int.natCast_zero] at hsw
    try simp only [wpK_assoc]
    refine wpK_x3 (fun R hR => by
      simp [h0, aEnter, fun72, short_other, aCallV]; rw [callS_none]
      refine hsw.mono ?_
      rintro _ W4 ⟨e4, S, ⟨As, cs, rfl, hS1⟩, hS2, hS3, hS4⟩
      simp [h0, len_slice und46, len_slice und92, w1]
      exact hR As S cs W4 (And.intro e4 (And.intro hS2 hS3))) ?_
    rintro As S cs W4 ⟨e4, hS2, hS3⟩
    have hsp := spans_side hL hS2 hS3
    by_cases c : S.length = l.length + 1
    · refine wpK_ret ⟨.inr rfl, rfl, [.bool true], ?_, e4, .inl ⟨⟨by omega, by omega, hL, hsp.1 c⟩, rfl⟩⟩
      simp [c]
    · refine wpK_ret ⟨.inr rfl, rfl, [.bool false], ?_, e4, .inr ⟨fun hj => c (hsp.2 hj.2.2.2), rfl⟩⟩
      simp; omega

theorem cut_least {W : AW} {v : Value} {P : Nat} {lk : List Tri} (h : TriIn W v lk) (hok : planOk P (arcsQ lk) = true) {s t : Nat} (hst : two? (s : Int) (t : Int) (P : Int) = true) (hT : tabsIn T0 T0.tabs W = true) (h0 : 0 < W.next) :
    ∃ (S : Nat) (c : Int), S < 2 ^ P ∧ isCut s t S ∧ c = capQ S (linksQ lk) ∧ MinCut (linksQ lk) s t c ∧ ∀ T, isCut s t T → c ≤ capQ T (linksQ lk) ∧ (c = capQ T (linksQ lk) → ∀ q, S.testBit q = true → T.testBit q = true) := by
  have hin := links_in hok
  obtain ⟨hP2, hP24, _⟩ := hin.size
  have h2 := hst
  simp only [two?, Bool.and_eq_true, decide_eq_true_eq] at h2
  obtain ⟨_, _, _, _, c, rm, lv, _, hF⟩ := least_ok (P := (P : Int)) h hin hst hT h0
  obtain ⟨nb, nlt⟩ := near_in hin (by omega) hF
  obtain ⟨d1, d2, d3, d4⟩ := filled_capQ hin (by omega) (by omega) hF
  exact ⟨nearS lv 24, c, nlt, ⟨d3, d4⟩, d2, hF.minCut hin (by omega) (by omega), fun T hc => ⟨(d1 T hc.1 hc.2).1, fun he q hq => by
    rw [nearS_bit] at hq
    simp only [Bool.and_eq_true, decide_eq_true_eq] at hq
    exact (d1 T hc.1 hc.2).2 he q hq.1 hq.2⟩⟩
theorem refIsTree_wp {W : AW} {v bv : Value} {P : Nat} {lk : List Tri} {l : List Bra} (h : TriIn W v lk) (hok : planOk P (arcsQ lk) = true) (h100 : lk.length ≤ 100) (hP20 : P ≤ 20) (hb : TriIn W bv l) (hl : l.length ≤ 1000) (hT : tabsIn T0 T0.tabs W = true) (h0 : 0 < W.next) :
    WpF T0 44 [.agg ⟨[.int .i64 P, v]⟩, bv] W (fun u W' => Ext W W' ∧ ((TreeB P (linksQ lk) l ∧ u = .bool true) ∨ (¬ TreeB P (linksQ lk) l ∧ u = .bool false))) := by
  have hb' := hb
  obtain ⟨Ab, cb, rfl, hA⟩ := hb
  have hPin := links_in hok
  obtain ⟨hP2, hP24, _⟩ := hPin.size
  refine wpF fun44 rfl ?_
  obtain ⟨W0, hW0, hE0, hV0⟩ : ∃ W0, W0 = W.newCells 27 [.int .i64 P, v] ∧ Ext W W0 ∧ Var W0 W.next 27 [.int .i64 P, v] := ⟨_, rfl, .newCells _ _ _, Var.new _ _ _⟩
  have hc := refCheckB_wp (P : Int) (h.ext hE0)
  rw [chk, hok] at hc
  have l27 : ∀ W', Ext W0 W' → aLoadVar T0 W' 27 W.next 0 = some (.agg ⟨[.int .i64 P, v]⟩) := fun W' h => load27 (hV0.ext h)
  have lP : ∀ W', Ext W0 W' → aLoadVar T0 W' 3 W.next 0 = some (.int .i64 P) := fun W' h => (hV0.ext h).load1 (T := T0) und3 rfl (j := 0) (v := .int .i64 P) rfl
  have e00 : Ext W0 W0 := .refl _ _
  have hT0 := tabs_ext hT h0 hE0
  have h00 : 0 < W0.next := Nat.lt_of_lt_of_le h0 hE0.1
  have wP : IntKind.i64.wrap ((P : Int) - 1) = (P : Int) - 1 := IntWalk.i64_in _ (by omega)
  try simp only [wpK_assoc]
  refine wpK_reg (fun R hR => by simp [← hW0]; exact hR) ?_
  by_cases c1 : (l.length : Int) = (P : Int) - 1
  case neg =>
    try simp only [wpK_assoc]
    refine wpK_x0 (fun R hR => by
        simp [l27, e00, aEnter, fun15, short_other, aCallV]; rw [callS_none]
        refine (hc).mono ?_
        rintro _ W1 ⟨e1, rfl⟩
        simp [lP, e1, len_slice und92, wP, c1, undef]; exact hR W1 e1) ?_
    rintro W1 e1
    try simp only [wpK_assoc]
    first | refine wpK_onT (by simp []) ?_ | refine wpK_outT (by simp []) ?_ | refine wpK_condT (by simp []) ?_ | refine wpK_endT (by simp []) ?_
    try simp only [wpK_assoc]
    refine wpK_reg (fun R hR => by simp []; exact hR) ?_
    exact wpK_ret ⟨.inr rfl, rfl, [.bool false], by simp, hE0.trans e1, .inr ⟨fun ht => by have := ht.1; omega, rfl⟩⟩
  by_cases hj : joinsB l
  case neg =>
    try simp only [wpK_assoc]
    refine wpK_x0 (fun R hR => by
      simp [l27, e00, aEnter, fun15, short_other, aCallV]; rw [callS_none]
      refine hc.mono ?_
      rintro _ W1 ⟨e1, rfl⟩
      simp [lP, e1, len_slice und92, wP, c1, aEnter, fun48, short_other, aCallV]; rw [callS_none]
      refine (refJoins_wp (hb'.ext (hE0.trans e1)) hl).mono ?_
      rintro u W2 ⟨e2, ⟨g, _⟩ | ⟨_, rfl⟩⟩
      · exact absurd g hj
      · simp; exact hR W2 (e1.trans e2)) ?_
    rintro W2 e2
    try simp only [wpK_assoc]
    first | refine wpK_onT (by simp []) ?_ | refine wpK_outT (by simp []) ?_ | refine wpK_condT (by simp []) ?_ | refine wpK_endT (by simp []) ?_
    try simp only [wpK_assoc]
    refine wpK_reg (fun R hR => by simp []; exact hR) ?_
    exact wpK_ret ⟨.inr rfl, rfl, [.bool false], by simp, hE0.trans e2, .inr ⟨fun ht => hj ht.2.1, rfl⟩⟩
  try simp only [wpK_assoc]
  refine wpK_x0 (fun R hR => by
    simp [l27, e00, aEnter, fun15, short_other, aCallV]; rw [callS_none]
    refine hc.mono ?_
    rintro _ W1 ⟨e1, rfl⟩
    simp [lP, e1, len_slice und92, wP, c1, aEnter, fun48, short_other, aCallV]; rw [callS_none]
    refine (refJoins_wp (hb'.ext (hE0.trans e1)) hl).mono ?_
    rintro u W2 ⟨e2, ⟨_, rfl⟩ | ⟨g, _⟩⟩
    · simp; exact hR W2 (e1.trans e2)
    · exact absurd hj g) ?_
  rintro W2 e2
  try simp only [wpK_assoc]
  first | refine wpK_onF (by simp []) ?_ | refine wpK_out (by simp []) ?_ | refine wpK_condF (by simp []) ?_ | refine wpK_endF (by simp []) (wpK_skip ?_) | refine wpK_endF (by simp []) ?_
  have hj' := hj
  obtain ⟨hj1, hj2, hL, hsp⟩ := hj
  have hlP : l.length + 1 = P := by omega
  -- both
  have hbw := fun (W' : AW) (h' : TriIn W' v lk) => both_wp (P := (P : Int)) h' (by omega)
  try simp only [wpK_assoc]
  refine wpK_x2 (fun R hR => by
    simp [l27, e2, aEnter, fun43, short_other, aCallV]; rw [callS_none]
    refine (hbw W2 (h.ext (hE0.trans e2))).mono ?_
    rintro _ W3 ⟨e3, v', rfl, hG⟩
    obtain ⟨av, cv, hvs⟩ := hG.len
    obtain ⟨W4, s1, s2, hE4, hVx⟩ := storeVar_new (T := T0) (W := W3) (t := 24) (v := .agg ⟨[.int .i64 P, v']⟩) (z := [.int .i64 0, .slice none 0 0]) inf24 (by rw [is24]; rfl) (by rw [is24]; rfl) (by rw [hvs]; rfl)
    simp [zero24, s1]
    exact hR v' W3 W4 (And.intro ((e2.trans e3).trans hE4) (And.intro hVx ((hG.tri).ext hE4)))) ?_
  rintro v' W3 W4 ⟨e4, hVx, hTri⟩
  clear hbw
  generalize W3.next = px at hVx
  have l24 : ∀ W', Ext W4 W' → aLoadVar T0 W' 24 px 0 = some (.agg ⟨[.int .i64 P, v']⟩) := fun W' h => load24 (hVx.ext h)
  have hokB := both_ok hok h100
  have vvv := tri_eq hTri
  try simp only [wpK_assoc]
  refine wpK_reg (fun R hR => by simp []; exact hR) ?_
  try simp only [wpK_assoc]
  refine wpK_while (I := fun k A W' => A.n = 69 ∧ A.defers = [] ∧ A.tmps.get 1 = some (.slice Ab l.length cb) ∧ A.tmps.get 5 = some (.pointer (some ⟨px, 0, none⟩)) ∧ Ext W4 W' ∧ ∃ i : Nat, k = l.length - i ∧ i ≤ l.length ∧ A.tmps.get 6 = some (.int .i64 i) ∧ ∀ (j : Nat) a, j < i → l[j]? = some a → ∃ x, MinCut (linksQ lk) a.1.toNat a.2.1.toNat x ∧ a.2.2 = x ∧ capQ (roundsB l j l.length (1 <<< a.1.toNat)) (linksQ lk) = x)
    (J := fun A W' => A.n = 69 ∧ A.defers = [] ∧ Ext W4 W' ∧ TreeB P (linksQ lk) l)
    (Rt := fun A W' => A.defers = [] ∧ A.tmps.get 4 = some (.bool false) ∧ Ext W4 W' ∧ ¬ TreeB P (linksQ lk) l) (k := l.length) ?_ ?_ ?_ ?_
  · exact ⟨rfl, rfl, by simp, by simp, .refl _ _, 0, by simp, by omega, by simp, fun j a hj => by omega⟩
  · rintro k ⟨tm, n, ds⟩ W5 ⟨hn, hd, h1, h5, e5, i, hk, hi, h6, hgood⟩ Q' hJ hRt hI
    simp only at hn hd h1 h5
    subst hn; subst hd
    simp only at h6
    try simp only [wpK_assoc]
    refine wpK_reg (fun R hR => by simp [h1, h6, len_slice und92]; exact hR) ?_
    by_cases hlt : i < l.length
    case neg =>
      try simp only [wpK_assoc]
      first | refine wpK_onF (by simp [hlt]) ?_ | refine wpK_out (by simp [hlt]) ?_ | refine wpK_condF (by simp [hlt]) ?_ | refine wpK_endF (by simp [hlt]) (wpK_skip ?_) | refine wpK_endF (by simp [hlt]) ?_
      exact hJ _ _ ⟨rfl, rfl, e5, hlP, hj', fun j a hj => hgood j a (by have := (List.getElem?_eq_some_iff.1 hj).1; omega) hj⟩
    try simp only [wpK_assoc]
    first | refine wpK_onT (by simp [hlt]) ?_ | refine wpK_outT (by simp [hlt]) ?_ | refine wpK_condT (by simp [hlt]) ?_ | refine wpK_endT (by simp [hlt]) ?_
    have ha : l[i]? = some l[i] := List.getElem?_eq_getElem hlt
    have hmem : l[i] ∈ l := List.getElem_mem hlt
    generalize l[i] = a at ha hmem
    have hbr := hL a hmem
    have hne := spans_two hL hsp a hmem
    obtain ⟨a1, a2, a3⟩ := a
    simp only at hbr hne
    obtain ⟨x, rfl⟩ : ∃ x : Nat, a1 = x := ⟨a1.toNat, by omega⟩
    obtain ⟨y, rfl⟩ : ∃ y : Nat, a2 = y := ⟨a2.toNat, by omega⟩
    obtain ⟨b, o, hAv, q1, q2, q3⟩ := hA i _ ha
    have eV := indexAddr_tri (T := T0) und92 sz97 (b := b) (o := o) (c := cb) (k := .i64) hlt
    rw [← hAv] at eV
    have e04 := hE0.trans e4
    have l1 : ∀ W', Ext W4 W' → aLoadVar T0 W' 3 b (o + 3 * i) = some (.int .i64 x) := fun W' he => load_of und3 rfl (q1.ext (e04.trans he))
    have l2 : ∀ W', Ext W4 W' → aLoadVar T0 W' 3 b (o + 3 * i + 1) = some (.int .i64 y) := fun W' he => load_of und3 rfl (q2.ext (e04.trans he))
    have lw : ∀ W', Ext W4 W' → aLoadVar T0 W' 2 b (o + 3 * i + 2) = some (.int .i64 a3) := fun W' he => load_of und2 rfl (q3.ext (e04.trans he))
    have hsi : IntKind.i64.wrap ((i : Int) + 1) = ((i + 1 : Nat) : Int) := i64_succ i (by omega)
    have hst : two? (x : Int) (y : Int) (P : Int) = true := by simp [two?]; omega
    obtain ⟨S, xv, hS1, hS2, hS3, hmc, hS4⟩ := cut_least h hok hst hT h0
    have hls := least32_wp (x := xv) (hTri.ext e5) hokB hP20 (show x < P by omega) (show y < P by omega) hS1 hS2 (by rw [capQ_both]; exact hS3) (fun T hc => by rw [capQ_both]; exact hS4 T hc)
    have hsw := fun (W' : AW) (he : Ext W4 W') => side_wp (x := x) (wo := (i : Int)) (hb'.ext (e04.trans he)) hl hL (by omega) (by omega)
    have hrw := fun q : Nat => reach_way (wo := (i : Int)) hL (f := x) (by omega) (Nat.le_refl _) q
    have hspec : (∃ x', MinCut (linksQ lk) x y x' ∧ a3 = x' ∧ capQ (roundsB l i l.length (1 <<< x)) (linksQ lk) = x') ↔ a3 = xv ∧ capQ (roundsB l i l.length (1 <<< x)) (linksQ lk) = xv := by
      constructor
      · rintro ⟨x', g1, g2, g3⟩
        have := g1.one hmc
        omega
      · rintro ⟨g1, g2⟩; exact ⟨xv, hmc, g1, g2⟩
    have hbad : ¬ (a3 = xv ∧ capQ (roundsB l i l.length (1 <<< x)) (linksQ lk) = xv) → ¬ TreeB P (linksQ lk) l := fun hn ht => hn (hspec.1 (by
      have := ht.2.2 i _ ha
      simpa using this))
    have hnew : (a3 = xv ∧ capQ (roundsB l i l.length (1 <<< x)) (linksQ lk) = xv) → ∃ x', MinCut (linksQ lk) ((x : Int)).toNat ((y : Int)).toNat x' ∧ a3 = x' ∧ capQ (roundsB l i l.length (1 <<< ((x : Int)).toNat)) (linksQ lk) = x' := by
      intro g; simpa using hspec.2 g
    have hk1 : k - 1 < k ∧ k - 1 = l.length - (i + 1) ∧ i + 1 ≤ l.length := by clear hgood hspec hbad hnew hmc hS4 hS2; omega
    have hlen : ∀ m : Nat, m ≤ l.length + 1 → m < 4611686018427387904 := by clear hgood hspec hbad hnew hmc hS4 hS2 hsw; omega
    refine wpK_block ?_
    try simp only [wpK_assoc]
    refine wpK_d1 (wr := Tr.nil |>.set 34 0 |>.set 35 1 |>.set 36 2 |>.set 37 3 |>.set 38 4 |>.set 39 5 |>.set 40 6 |>.set 41 7 |>.set 42 8 |>.set 43 9 |>.set 44 10 |>.set 45 11 |>.set 33 12 |>.set 46 13 |>.set 47 14 |>.set 7 15 |>.set 8 16) (bits := Tr.nil.lay 0 [0, 0, 0, 6, 14, 30, 0, 0, 192, 448, 960, 2047, 4095, 8191, 8191, 16383, 65535]) (ord := [0, 1, 2, 3, 4, 5, 6, 7, 8, 9, 10, 11, 12, 13, 14, 15, 16]) (by kernel_rfl) (by kernel_rfl) (by kernel_rfl) (fun G hG => by
      simp [h1, h5, h6, eV, l1, l2, l24, e5, field97, aEnter, fun32, short_other, aCallV]
      rw [dcallS_none]
      refine hls.mono ?_
      rintro _ W6 ⟨e6, sl, rfl, _⟩
      simp [h1, h5, h6, eV, l1, l2, l24, e5, e5.trans e6, e6.1, vvv, field97]
      exact hG sl W6 e6) ?_
    rintro sl W6 e56
    have e6 := e5.trans e56
    by_cases c2 : a3 = xv
    case neg =>
      try simp only [wpK_assoc]
      refine wpK_dn (wr := Tr.nil |>.set 48 0 |>.set 49 1 |>.set 50 2 |>.set 51 3 |>.set 52 4 |>.set 53 5 |>.set 54 6 |>.set 55 7 |>.set 56 8 |>.set 57 9 |>.set 58 10 |>.set 59 11 |>.set 60 12 |>.set 61 13 |>.set 62 14 |>.set 63 15 |>.set 64 16 |>.set 65 17 |>.set 66 18 |>.set 67 19 |>.set 68 20) (bits := Tr.nil.lay 0 [0, 0, 3, 7, 15, 0, 63, 127, 255, 255, 255, 255, 255, 6399, 14591, 30975, 65279, 131071, 255, 524287, 1048575]) (ord := [0, 1, 2, 3, 4, 5, 6, 7, 8, 9, 10, 11, 12, 13, 14, 15, 16, 17, 18, 19, 20]) (by kernel_rfl) (by kernel_rfl) (by kernel_rfl) (fun G hG => by
        simp [h1, h5, h6, eV, l1, l2, lw, l24, e6, c2, field97, undef]
        exact hG) ?_
      try simp only [wpK_assoc]
      first | refine wpK_onT (by simp []) ?_ | refine wpK_outT (by simp []) ?_ | refine wpK_condT (by simp []) ?_ | refine wpK_endT (by simp []) ?_
      try simp only [wpK_assoc]
      refine wpK_reg (fun R hR => by simp []; exact hR) ?_
      exact wpK_ret (hRt _ _ ⟨rfl, by simp, e6, hbad (fun g => c2 g.1)⟩)
    rw [show ((x : Int)).toNat = x from rfl] at hnew
    generalize hR0 : roundsB l i l.length (1 <<< x) = R0 at hrw hspec hbad hnew
    have hrc := fun (W' : AW) (sv : Value) (S' : List Int) (he : Ext W4 W') (h1 : IntL W' sv S') (h2 : S'.length < 4611686018427387904) (h3 : ∀ y, y ∈ S' ↔ Way l i x y) => refCap_wp (P := (P : Int)) (hTri.ext he) h1 h2 hokB R0 (fun f _ => by
      by_cases e : (f : Int) ∈ S'
      · rw [decide_eq_true e, (hrw f).2 ((h3 f).1 e)]
      · rw [decide_eq_false e]
        cases hb : R0.testBit f with
        | false => rfl
        | true => exact absurd ((h3 f).2 ((hrw f).1 hb)) e)
    simp only [capQ_both] at hrc
    by_cases c3 : capQ R0 (linksQ lk) = xv
    · try simp only [wpK_assoc]
      refine wpK_d1 (wr := Tr.nil |>.set 48 0 |>.set 49 1 |>.set 50 2 |>.set 51 3 |>.set 52 4 |>.set 53 5 |>.set 54 6 |>.set 55 7 |>.set 56 8 |>.set 57 9 |>.set 58 10 |>.set 59 11 |>.set 60 12 |>.set 61 13 |>.set 62 14 |>.set 63 15 |>.set 64 16 |>.set 65 17 |>.set 66 18 |>.set 67 19 |>.set 68 20) (bits := Tr.nil.lay 0 [0, 0, 3, 7, 15, 0, 63, 127, 255, 255, 255, 255, 255, 6399, 14591, 30975, 65279, 131071, 255, 524287, 1048575]) (ord := [0, 1, 2, 3, 4, 5, 6, 7, 8, 9, 10, 11, 12, 13, 14, 15, 16, 17, 18, 19, 20]) (by kernel_rfl) (by kernel_rfl) (by kernel_rfl) (fun G hG => by
        simp [h1, h5, h6, eV, l1, l2, lw, l24, e6, c2, field97, aEnter, fun72, short_other, aCallV]
        rw [dcallS_none]
        refine (hsw W6 e6).mono ?_
        rintro sv W7 ⟨e7, S', g1, g2, g3, g4⟩
        simp [h1, h5, h6, eV, l1, l2, lw, l24, e6, e6.trans e7, e7.1, vvv, c2, field97, aEnter, fun36, short_other, aCallV]
        rw [dcallS_none]
        refine (hrc W7 sv S' (e6.trans e7) g1 (hlen _ g4) g3).mono ?_
        rintro _ W8 ⟨e8, rfl⟩
        simp [h1, h5, h6, eV, l1, l2, lw, l24, e6, (e6.trans e7).trans e8, e6.trans e7, e7.1, e8.1, (e7.trans e8).1, vvv, c2, c3, field97]
        exact hG sv W8 (e7.trans e8)) ?_
      rintro sv W8 e8
      try simp only [wpK_assoc]
      first | refine wpK_onF (by simp []) ?_ | refine wpK_out (by simp []) ?_ | refine wpK_condF (by simp []) ?_ | refine wpK_endF (by simp []) (wpK_skip ?_) | refine wpK_endF (by simp []) ?_
      try simp only [wpK_assoc]
      refine wpK_reg1 (fun R hR => by simp [h6, hsi]; exact hR) ?_
      refine hI (k - 1) _ _ hk1.1 ⟨rfl, rfl, by simp [h1, h5], by simp [h1, h5], e6.trans e8, i + 1, hk1.2.1, hk1.2.2, by simp, fun j b hj hb => ?_⟩
      by_cases e : j = i
      · subst e; rw [ha] at hb; cases hb
        have := hnew ⟨c2, c3⟩
        rw [← hR0] at this
        exact this
      · exact hgood j b (by omega) hb
    · try simp only [wpK_assoc]
      refine wpK_d1 (wr := Tr.nil |>.set 48 0 |>.set 49 1 |>.set 50 2 |>.set 51 3 |>.set 52 4 |>.set 53 5 |>.set 54 6 |>.set 55 7 |>.set 56 8 |>.set 57 9 |>.set 58 10 |>.set 59 11 |>.set 60 12 |>.set 61 13 |>.set 62 14 |>.set 63 15 |>.set 64 16 |>.set 65 17 |>.set 66 18 |>.set 67 19 |>.set 68 20) (bits := Tr.nil.lay 0 [0, 0, 3, 7, 15, 0, 63, 127, 255, 255, 255, 255, 255, 6399, 14591, 30975, 65279, 131071, 255, 524287, 1048575]) (ord := [0, 1, 2, 3, 4, 5, 6, 7, 8, 9, 10, 11, 12, 13, 14, 15, 16, 17, 18, 19, 20]) (by kernel_rfl) (by kernel_rfl) (by kernel_rfl) (fun G hG => by
        simp [h1, h5, h6, eV, l1, l2, lw, l24, e6, c2, field97, aEnter, fun72, short_other, aCallV]
        rw [dcallS_none]
        refine (hsw W6 e6).mono ?_
        rintro sv W7 ⟨e7, S', g1, g2, g3, g4⟩
        simp [h1, h5, h6, eV, l1, l2, lw, l24, e6, e6.trans e7, e7.1, vvv, c2, field97, aEnter, fun36, short_other, aCallV]
        rw [dcallS_none]
        refine (hrc W7 sv S' (e6.trans e7) g1 (hlen _ g4) g3).mono ?_
        rintro _ W8 ⟨e8, rfl⟩
        simp [h1, h5, h6, eV, l1, l2, lw, l24, e6, (e6.trans e7).trans e8, e6.trans e7, e7.1, e8.1, (e7.trans e8).1, vvv, c2, c3, field97]
        exact hG sv W8 (e7.trans e8)) ?_
      rintro sv W8 e8
      try simp only [wpK_assoc]
      first | refine wpK_onT (by simp []) ?_ | refine wpK_outT (by simp []) ?_ | refine wpK_condT (by simp []) ?_ | refine wpK_endT (by simp []) ?_
      try simp only [wpK_assoc]
      refine wpK_reg (fun R hR => by simp []; exact hR) ?_
      exact wpK_ret (hRt _ _ ⟨rfl, by simp, e6.trans e8, hbad (fun g => c3 g.2)⟩)
  · rintro A' W' ⟨g1, g2, g3, g4⟩
    exact ⟨.inr rfl, g1, [.bool false], by simp [g2], (hE0.trans e4).trans g3, .inr ⟨g4, rfl⟩⟩
  · rintro ⟨tm, n, ds⟩ W3 ⟨hn, hd, e3, ht⟩
    simp only at hn hd
    subst hn; subst hd
    try simp only [wpK_assoc]
    refine wpK_reg (fun R hR => by simp []; exact hR) ?_
    exact wpK_ret ⟨.inr rfl, rfl, [.bool true], by simp, (hE0.trans e4).trans e3, .inl ⟨ht, rfl⟩⟩
theorem kill_other {t : Tr ABlk} : ∀ {kin : List (Nat × Bool)} {x : Nat}, (∀ p ∈ kin, p.1 ≠ x) → (AW.kill t kin).get x = t.get x
  | [], _, _ => rfl
  | (c, g) :: l, x, h => by
    simp only [AW.kill, Tr.get_del]
    rw [if_neg (fun e => h (c, g) List.mem_cons_self e.symm)]
    exact kill_other (fun p hp => h p (List.mem_cons_of_mem _ hp))
theorem zero92 : aZero T0 92 = some (.slice none 0 0) := by kernel_rfl

end Go.Proofs.YtkgfjfkgmpeobaaDoor