import Derived.Test.YtkgfjfkgmpeobaaDoorP38
import Derived.Test.YtkgfjfkgmpeobaaDoorEngRe
set_option linter.unusedSimpArgs false
set_option linter.unusedVariables false
set_option linter.unusedSectionVars false
open Go Go.Eng
namespace Go.Proofs.YtkgfjfkgmpeobaaDoor
attribute [local congr] undef_congr WpK.congr WpS.congr WpL.congr WpC.congr WpF.congr gotS.congr callS.congr nextS.congr wantS.congr condS.congr
attribute [local irreducible] WpK
attribute [local simp] WpDr_nil WpDr_cons atS_some dwantS_true dwantS_false kindS_light kindS_float kindS_heavy lightS_value floatS_some heavyS_value heavyS_skip heavyS_enter dcallS_some doneS_eq
  isLight isFloat isPlain dLook testBit_dec dChain dLights_nil dLights_skip dLights_one dLight_nil dLight_cons dFreshes_nil dFreshes_one oneF_none oneF_some dFresh_nil dFresh_cons oneL_some oneW_true oneW_false sameV_value dPut dMay valEq arrEq listEq List.getElem?_cons Tr.get_nil dEnd
attribute [local simp] WpS_nil WpS_cons isDefer undef_false wantS_true wantS_false nextS_value nextS_skip nextS_enter callS_some gotS_some aWanted aOp aEvalF aEval opMove opAssign opPick aVal flat flat1 AAct.put opBinOp opConvert opIndex Tr.get_set Tr.get_lay aBin aResults tupled
  aCall aVals aCallB blt_dec ble_dec beq_dec aBinI_add aBinI_sub aBinI_lss aBinI_leq aBinI_gtr aBinI_geq aBinI_eql aBinI_neq index_str len_str len_slice Nat.beq_refl und2 und3 und4 und5 und39 und76 und82 und115 und22 und29 und25 und33 und46 und43 und49 und111 und113 field151 field155_0 field155_1 field155_2 field155_3 field155_4
  field78 field106 field24 field31 field27 field35 field108 field109 opBox opLoad opFieldAddr opIndexAddr acells aAddr opExtract aExtract opUnOp opAlloc opStore opMakeInterface opNilCheck opBuild aParts opBuildSlice aValW
set_option maxHeartbeats 4000000
set_option linter.unusedSimpArgs false
set_option linter.unusedVariables false
def nearS (lv : Nat → Nat) : Nat → Nat
  | 0 => 0
  | n + 1 => if 0 < lv n then nearS lv n ||| 1 <<< n else nearS lv n
theorem nearS_bit (lv : Nat → Nat) (q : Nat) : ∀ n, (nearS lv n).testBit q = (decide (q < n) && decide (0 < lv q))
  | 0 => by simp [nearS]
  | n + 1 => by
    rw [nearS]
    by_cases h : 0 < lv n
    · rw [if_pos h, Nat.testBit_or, nearS_bit lv q n, one_bit]
      by_cases e : n = q
      · subst e; simp [-testBit_dec, h]
      · have : (q < n + 1) = (q < n) := propext ⟨fun _ => by omega, fun _ => by omega⟩
        simp only [this, decide_eq_false e, Bool.or_false]
    · rw [if_neg h, nearS_bit lv q n]
      by_cases e : n = q
      · subst e; simp [h]
      · have : (q < n + 1) = (q < n) := propext ⟨fun _ => by omega, fun _ => by omega⟩
        simp only [this]
theorem nearS_lt (lv : Nat → Nat) : ∀ n, nearS lv n < 2 ^ n
  | 0 => by simp [nearS]
  | n + 1 => by
    have := nearS_lt lv n
    have h2 : 2 ^ (n + 1) = 2 * 2 ^ n := by rw [Nat.pow_succ]; omega
    rw [nearS]
    split
    · refine Nat.or_lt_two_pow (by omega) ?_
      rw [Nat.shiftLeft_eq, Nat.one_mul]; exact Nat.pow_lt_pow_right (by omega) (by omega)
    · omega
theorem idx132 (l : List Int) (q : Nat) (hq : q < 24) (x : Int) (h : l[q]? = some x) : aIndex T0 132 (.agg ⟨intsV l⟩) (.int .i64 (q : Nat)) = some (.int .i64 x) := by
  show aIndex T0 132 (.agg ⟨intsV l⟩) (.int .i64 (Int.ofNat q)) = _
  simp only [aIndex, und132, sz3, blt_dec, hq, decide_true, Nat.mul_one]
  simp only [aPart, und3, sz3]
  simp only [intsV, List.getElem?_map, h]
  rfl
theorem wpK_cut1 {T : Tabs} {cx : Cx} {c : Code} {A : AAct} {W : AW} {Q : AExit → AAct → AW → Prop} (J : AAct → AW → Prop) (h : ∀ Q' : AExit → AAct → AW → Prop, (∀ A' W', J A' W' → Q' .normal A' W') → WpK T cx c A W Q') (h2 : ∀ A' W', J A' W' → Q .normal A' W') : WpK T cx c A W Q := h Q h2
theorem near_wp {W : AW} {p B : Nat} {L : List Stp} {s t : Nat} {rm : Nat → Int} {lv : Nat → Nat} (h : Wk W p B L s t rm lv) :
    WpF T0 61 [.pointer (some ⟨p, 0, none⟩)] W (fun v W' => W' = W ∧ v = .int .u64 (nearS lv 24 : Nat)) := by
  refine wpF fun61 rfl ?_
  obtain ⟨_, _, _, _, hlv⟩ := h.has
  have hld : aLoadVar T0 W 132 p 826 = some (.agg ⟨intsV ((List.range 24).map fun q => (lv q : Int))⟩) := by
    refine loadVar_agg und132 agg132 inf132 ?_
    rw [is132]
    refine cellsAt_of_cells (by simp [intsV]) (has_blk (hlv 0 (by omega))) (fun j hj => ?_) (by omega)
    rw [(hlv j hj).2]
    simp [intsV, List.getElem?_range hj]
  generalize hL : (List.range 24).map (fun q => (lv q : Int)) = LL at hld
  have hget : ∀ q, q < 24 → LL[q]? = some (lv q : Int) := fun q hq => by rw [← hL]; simp [List.getElem?_range hq]
  try simp only [wpK_assoc]
  refine wpK_reg (fun R hR => by simp []; exact hR) ?_
  try simp only [wpK_assoc]
  refine wpK_reg (fun R hR => by simp []; exact hR) ?_
  try simp only [wpK_assoc]
  refine wpK_reg (fun R hR => by simp [nilck, hld]; exact hR) ?_
  try simp only [wpK_assoc]
  refine wpK_while (I := fun k A W' => A.n = 22 ∧ A.defers = [] ∧ A.tmps.get 9 = some (.agg ⟨intsV LL⟩) ∧ W' = W ∧ ∃ i : Nat, k = 24 - i ∧ i ≤ 24 ∧ A.tmps.get 10 = some (.int .i64 i) ∧ A.tmps.get 3 = some (.int .u64 (nearS lv i : Nat)))
    (J := fun A W' => A.n = 22 ∧ A.defers = [] ∧ A.tmps.get 9 = some (.agg ⟨intsV LL⟩) ∧ W' = W ∧ A.tmps.get 3 = some (.int .u64 (nearS lv 24 : Nat)))
    (Rt := fun _ _ => False) (k := 24) ?_ ?_ ?_ ?_
  · exact ⟨rfl, rfl, by simp, rfl, 0, rfl, by omega, by simp, by simp [nearS]⟩
  · rintro k ⟨tm, n, ds⟩ W3 ⟨hn, hd, h9, rfl, i, hk, hi, h10, h3⟩ Q' hJ hRt hI
    simp only at hn hd h9
    subst hn; subst hd
    simp only at h10 h3
    try simp only [wpK_assoc]
    refine wpK_reg (fun R hR => by simp [h10]; exact hR) ?_
    by_cases hlt : i < 24
    · have hlt' : (i : Int) < 24 := by omega
      try simp only [wpK_assoc]
      first | refine wpK_onT (by simp [hlt']) ?_ | refine wpK_outT (by simp [hlt']) ?_ | refine wpK_condT (by simp [hlt']) ?_ | refine wpK_endT (by simp [hlt']) ?_
      have hx := idx132 LL i hlt _ (hget i hlt)
      have hlti := nearS_lt lv i
      have hpi : 2 ^ i ≤ 2 ^ 24 := Nat.pow_le_pow_right (by omega) hi
      refine wpK_block ?_
      try simp only [wpK_assoc]
      refine wpK_reg (fun R hR => by simp [h9, h10, hx, opIndex]; exact hR) ?_
      try simp only [wpK_assoc]
      refine wpK_reg (fun R hR => by simp []; exact hR) ?_
      refine wpK_cut1 (J := fun A W' => A.n = 22 ∧ A.defers = [] ∧ A.tmps.get 9 = some (.agg ⟨intsV LL⟩) ∧ W' = W3 ∧ A.tmps.get 10 = some (.int .i64 i) ∧ A.tmps.get 3 = some (.int .u64 (nearS lv (i + 1) : Nat))) (fun Q2 hQ2 => ?_) ?_
      · by_cases hp : 0 < lv i
        · have hor := aBinI_or .u64 (nearS lv i) (1 <<< i) (by show _ < 18446744073709551616; omega) (one_lt (by omega))
          refine wpK_endT (by simp [hp]) ?_
          have e : nearS lv i ||| 1 <<< i = nearS lv (i + 1) := by rw [nearS, if_pos hp]
          rw [e] at hor
          have h1p := one_wp i (by omega) W3
          generalize 1 <<< i = q at hor h1p
          try simp only [wpK_assoc]
          refine wpK_reg1 (fun R hR => by
              simp [h3, aEnter, fun54, short_other, aCallV]; rw [callS_none]
              refine (h1p).mono ?_
              rintro _ W9 ⟨e9, rfl⟩; subst W9
              simp [h3, hor]; exact hR) ?_
          exact hQ2 _ _ ⟨rfl, rfl, by simp [h9], rfl, by simp [h10], by simp⟩
        · refine wpK_endF (by simp [hp]) (wpK_skip (hQ2 _ _ ⟨rfl, rfl, by simp [h9], rfl, by simp [h10], by simp [h3, nearS, hp]⟩))
      rintro ⟨tm, n, ds⟩ W4 ⟨hn, hd, h9, rfl, h10, h3⟩
      simp only at hn hd h9
      subst hn; subst hd
      simp only at h10 h3
      try simp only [wpK_assoc]
      refine wpK_reg1 (fun R hR => by simp [h10]; exact hR) ?_
      exact hI (k - 1) _ _ (by omega) ⟨rfl, rfl, by simp [h9], rfl, i + 1, by omega, by omega, by simp; exact i64_succ i (by omega), by simp [h3]⟩
    · obtain rfl : i = 24 := by omega
      try simp only [wpK_assoc]
      first | refine wpK_onF (by simp []) ?_ | refine wpK_out (by simp []) ?_ | refine wpK_condF (by simp []) ?_ | refine wpK_endF (by simp []) (wpK_skip ?_) | refine wpK_endF (by simp []) ?_
      exact hJ _ _ ⟨rfl, rfl, by simp [h9], rfl, by simp [h3]⟩
  · rintro A' W' hf; exact hf.elim
  · rintro ⟨tm, n, ds⟩ W3 ⟨hn, hd, h9, rfl, h3⟩
    simp only at hn hd h9
    subst hn; subst hd
    simp only at h3
    try simp only [wpK_assoc]
    refine wpK_reg (fun R hR => by simp [h3]; exact hR) ?_
    exact wpK_ret ⟨.inr rfl, rfl, [.int .u64 (nearS lv 24 : Nat)], by simp, rfl, rfl⟩
theorem firstCut_wp {W : AW} {ty : TypeId} {r : Value} {fz fs : FuncId} {P : Int} {l : List Quad} (h : PlanOf W ty r fz fs P l) (hP : PlanIn P l) {s t : Nat} (hst : two? s t P = true) (hT : tabsIn T0 T0.tabs W = true) (h0 : 0 < W.next) :
    WpF T0 57 [.iface ty r, .int .i64 s, .int .i64 t] W (fun u W' => Ext W W' ∧ ∃ x rm lv, u = .tuple ⟨[.int .u64 (nearS lv 24 : Nat), .int .i64 x]⟩ ∧ Filled (layL (1 <<< s) s l) s t (hCap (layL (1 <<< s) s l)) x rm lv) := by
  obtain ⟨hP2, hP24, _⟩ := hP.size
  simp only [two?, Bool.and_eq_true, decide_eq_true_eq] at hst
  refine wpF fun57 rfl ?_
  try simp only [wpK_assoc]
  refine wpK_reg (fun R hR => by simp []; exact hR) ?_
  try simp only [wpK_assoc]
  refine wpK_x2 (fun R hR => by
    simp [aEnter, fun54, short_other, aCallV]; rw [callS_none]
    refine (one_wp s (by omega) W).mono ?_
    rintro _ W2 ⟨hW2, rfl⟩
    subst W2
    simp [aEnter, fun53, short_other, aCallV]; rw [callS_none]
    refine (lay_wp h hP (by exact one_lt (by omega)) one_low.1 one_low.2 (by omega) (by omega) hT h0).mono ?_
    rintro _ W3 ⟨hE3, p, B, rfl, hp, hWk⟩
    simp; exact hR p B W3 (And.intro hE3 (And.intro hp hWk))) ?_
  rintro p B W3 ⟨hE3, hp, hWk⟩
  try simp only [wpK_assoc]
  refine wpK_x3 (fun R hR => by
      simp [aEnter, fun55, short_other, aCallV]; rw [callS_none]
      refine (fill_wp hWk (layL_ok hP (by omega)) (by omega) (by omega) (by omega) (cap_rooms (layL_ok hP (by omega)))).mono ?_
      rintro _ W4 ⟨x, rm', lv, rfl, hO4, hWk4, hF⟩
      simp []; exact hR x rm' lv W4 (And.intro hO4 (And.intro hWk4 hF))) ?_
  rintro x rm' lv W4 ⟨hO4, hWk4, hF⟩
  try simp only [wpK_assoc]
  refine wpK_reg (fun R hR => by
      simp [aEnter, fun61, short_other, aCallV]; rw [callS_none]
      refine (near_wp hWk4).mono ?_
      rintro _ W9 ⟨e9, rfl⟩; subst W9
      simp []; exact hR) ?_
  have hE4 : Ext W W4 := ⟨Nat.le_trans hE3.1 hO4.1, fun b hb hk => by rw [hO4.2 b (Nat.lt_of_lt_of_le hb hE3.1) (fun e => by omega)]; exact hE3.2 b hb hk⟩
  exact wpK_ret ⟨.inr rfl, rfl, [.int .u64 (nearS lv 24 : Nat), .int .i64 x], by simp, hE4, x, rm', lv, rfl, hF⟩
end Go.Proofs.YtkgfjfkgmpeobaaDoor

open Go Go.Eng
namespace Go.Proofs.YtkgfjfkgmpeobaaDoor
attribute [local congr] undef_congr WpK.congr WpS.congr WpL.congr WpC.congr WpF.congr gotS.congr callS.congr nextS.congr wantS.congr condS.congr
attribute [local irreducible] WpK
attribute [local simp] WpDr_nil WpDr_cons atS_some dwantS_true dwantS_false kindS_light kindS_float kindS_heavy lightS_value floatS_some heavyS_value heavyS_skip heavyS_enter dcallS_some doneS_eq
  isLight isFloat isPlain dLook testBit_dec dChain dLights_nil dLights_skip dLights_one dLight_nil dLight_cons dFreshes_nil dFreshes_one oneF_none oneF_some dFresh_nil dFresh_cons oneL_some oneW_true oneW_false sameV_value dPut dMay valEq arrEq listEq List.getElem?_cons Tr.get_nil dEnd
attribute [local simp] WpS_nil WpS_cons isDefer undef_false wantS_true wantS_false nextS_value nextS_skip nextS_enter callS_some gotS_some aWanted aOp aEvalF aEval opMove opAssign opPick aVal flat flat1 AAct.put opBinOp opConvert opIndex Tr.get_set Tr.get_lay aBin aResults tupled
  aCall aVals aCallB blt_dec ble_dec beq_dec aBinI_add aBinI_sub aBinI_lss aBinI_leq aBinI_gtr aBinI_geq aBinI_eql aBinI_neq index_str len_str len_slice Nat.beq_refl und2 und3 und4 und5 und39 und76 und82 und115 und22 und29 und25 und33 und46 und43 und49 und111 und113 field151 field155_0 field155_1 field155_2 field155_3 field155_4
  field78 field106 field24 field31 field27 field35 field108 field109 opBox opLoad opFieldAddr opIndexAddr acells aAddr opExtract aExtract opUnOp opAlloc opStore opMakeInterface opNilCheck opBuild aParts opBuildSlice aValW
set_option maxHeartbeats 4000000
set_option linter.unusedSimpArgs false
set_option linter.unusedVariables false
theorem wpK_range2 {T : Tabs} {f₀ : FuncId} {A : AAct} {W : AW} {Q : AExit → AAct → AW → Prop} {id : Nat} {b : Code} {g : Operand} {ps : Array Tmp} {asn bd : Code} {f : FuncId} {first cap : Array Value} {fn : Func}
    (hg : aEval T A.tmps g = some (.func (.func f) first cap)) (hf : T.funcs.get f = some fn)
    (h : ∀ W5 : AW, W5.next = W.next + 2 → (∀ b, b < W.next → W5.blocks.get b = W.blocks.get b) → W5.blocks.get W.next = some ⟨.deferred (some []), []⟩ → W5.blocks.get (W.next + 1) = some ⟨.loop .ready none f₀ A.tmps A.n ps asn bd W.next, []⟩ →
      WpF T f (first.toList ++ .func (.yield (W.next + 1)) #[] #[] :: cap.toList) W5 (fun _ W₂ =>
      ∃ st p fn' t' n' ps' as' bd' df', W₂.blocks.get (W.next + 1) = some ⟨.loop st p fn' t' n' ps' as' bd' df', []⟩ ∧ st ≠ .busy ∧
        goOn (leaves id (behind Q fun A' W' => WpK T ⟨f₀, none⟩ b A' W' Q)) { A with defers := { target := .collected W.next, args := #[] } :: A.defers } (W₂.setObj (W.next + 1) (.loop .exhausted p fn' t' n' ps' as' bd' df')) p)) :
    WpK T ⟨f₀, none⟩ (.seq (.block id (.rangeFunc g ps asn bd)) b) A W Q := by
  try simp only [wpK_assoc]
  refine wpK_range hg hf (h _ rfl (fun b hb => ?_) ?_ ?_)
  · simp only [AW.beforeLoop, AW.new, Tr.get_set]; rw [if_neg (by omega), if_neg (by omega)]
  · simp only [AW.beforeLoop, AW.new, Tr.get_set]; rw [if_neg (by omega), if_true]
  · simp only [AW.beforeLoop, AW.new, Tr.get_set]; rw [if_true]
theorem setObj_get (W : AW) (r : Nat) (o : AObj) (b : Nat) : (W.setObj r o).blocks.get b = if b = r then some ⟨o, []⟩ else W.blocks.get b := by
  simp only [AW.setObj, Tr.get_set]
theorem setObj_next (W : AW) (r : Nat) (o : AObj) : (W.setObj r o).next = W.next := rfl
theorem setObj_only (W : AW) (r : Nat) (o : AObj) : Only (fun b => b = r) W (W.setObj r o) := ⟨Nat.le_refl _, fun b _ hb => by rw [setObj_get, if_neg hb]⟩
def dropLow (x : Nat) : Nat := x &&& (x - 1)
theorem dropLow_bit {x k : Nat} (h1 : x.testBit k = true) (h2 : ∀ j, j < k → x.testBit j = false) (i : Nat) : (dropLow x).testBit i = (x.testBit i && decide (i ≠ k)) := by
  rw [dropLow, Nat.testBit_and, pred_bits h1 h2]
  by_cases hlt : i < k
  · rw [if_pos hlt, h2 i hlt]; rfl
  · rw [if_neg hlt]
    by_cases e : i = k
    · subst e; simp
    · rw [if_neg e]; simp [-testBit_dec, e]
theorem dropLow_lt {x : Nat} (h : x ≠ 0) : dropLow x < x := by
  have := Nat.and_le_right (n := x) (m := x - 1)
  unfold dropLow; omega
theorem memb_empty : ∀ (P s : Nat), (∀ j, j < P → s.testBit j = false) → memb P s = []
  | 0, _, _ => by simp [memb]
  | P + 1, s, h => by rw [memb_succ, memb_empty P s (fun j hj => h j (by omega)), h P (by omega)]; rfl
theorem memb_low {x k : Nat} (h1 : x.testBit k = true) (h2 : ∀ j, j < k → x.testBit j = false) : ∀ P, memb P x = (if k < P then [(k : Int)] else []) ++ memb P (dropLow x)
  | 0 => by simp [memb]
  | P + 1 => by
    rw [memb_succ, memb_succ, memb_low h1 h2 P, dropLow_bit h1 h2]
    by_cases e1 : P < k
    · rw [h2 P e1]
      simp only [Bool.false_and, Bool.false_eq_true, if_false, List.append_nil, if_neg (show ¬ k < P by omega), if_neg (show ¬ k < P + 1 by omega)]
    · by_cases e2 : P = k
      · subst e2
        rw [h1, memb_empty P (dropLow x) (fun j hj => by rw [dropLow_bit h1 h2, h2 j hj]; rfl)]
        simp
      · have : decide (P ≠ k) = true := by simp [e2]
        rw [this, Bool.and_true]
        simp only [if_pos (show k < P by omega), if_pos (show k < P + 1 by omega), List.append_assoc]
theorem places1_wp {l bx x : Nat} (C : Nat → AW → Prop) (hx : x < 18446744073709551616)
    (hC : ∀ left k W, C left W → left < 18446744073709551616 → left.testBit k = true → (∀ j, j < k → left.testBit j = false) → tabsIn T0 T0.tabs W = true ∧ ∃ st pd fn t n ps asn bd df kin t', W.blocks.get l = some ⟨.loop st pd fn t n ps asn bd df, kin⟩ ∧ aSetAll t n ps.toList [.int .i64 (k : Nat)] = some t' ∧
      WpR T0 l fn t' n asn bd W (fun v W' => v = .bool true ∧ C (dropLow left) W'))
    {W : AW} (h0 : C x W) (hb : W.Has bx 0 (.int .u64 (x : Nat))) : WpF T0 81 [.func (.yield l) #[] #[], .pointer (some ⟨bx, 0, none⟩)] W (fun _ W' => C 0 W') := by
  have hl := load_of und115 rfl hb
  refine wpF fun81 rfl ?_
  try simp only [wpK_assoc]
  refine wpK_reg (fun R hR => by simp [hl]; exact hR) ?_
  try simp only [wpK_assoc]
  refine wpK_while1 (I := fun k A W' => A.n = 16 ∧ A.defers = [] ∧ A.tmps.get 0 = some (.func (.yield l) #[] #[]) ∧ A.tmps.get 3 = some (.int .u64 (k : Nat)) ∧ k < 18446744073709551616 ∧ C k W')
    (J := fun A W' => A.defers = [] ∧ C 0 W') (Rt := fun _ _ => False) (k := x) ?_ ?_ ?_ ?_
  · exact ⟨rfl, rfl, by simp, by simp, hx, h0⟩
  · rintro k ⟨tm, n, ds⟩ W3 ⟨hn, hd, h0, h3, hk, hCk⟩ Q' hJ hRt hI
    simp only at hn hd h0
    subst hn; subst hd
    simp only at h3
    by_cases hz : k = 0
    · subst hz
      try simp only [wpK_assoc]
      refine wpK_reg (fun R hR => by simp [h3]; exact hR) ?_
      try simp only [wpK_assoc]
      first | refine wpK_onF (by simp []) ?_ | refine wpK_out (by simp []) ?_ | refine wpK_condF (by simp []) ?_ | refine wpK_endF (by simp []) (wpK_skip ?_) | refine wpK_endF (by simp []) ?_
      exact hJ _ _ ⟨rfl, hCk⟩
    have hz' : ¬ (k : Int) = 0 := by omega
    try simp only [wpK_assoc]
    refine wpK_reg (fun R hR => by simp [h3, hz', hz]; exact hR) ?_
    try simp only [wpK_assoc]
    first | refine wpK_onT (by simp []) ?_ | refine wpK_outT (by simp []) ?_ | refine wpK_condT (by simp []) ?_ | refine wpK_endT (by simp []) ?_
    obtain ⟨q, hq1, hq2⟩ := low_ex hz
    obtain ⟨hT, st, pd, fn, t', n', ps, asn, bd, df, kin, tt, hy1, hy2, hy3⟩ := hC k q W3 hCk hk hq1 hq2
    refine wpK_block ?_
    try simp only [wpK_assoc]
    refine wpK_x0 (fun R hR => by
      simp [h0, h3, aEnter, fun75, short_other, aCallV]; rw [callS_none]
      refine (first_wp hT hk hq1 hq2).mono ?_
      rintro _ W9 ⟨e9, rfl⟩; subst W9
      simp [aEnter, hy1, hy2, aCallV, nextS_round]
      refine hy3.mono ?_
      rintro _ W4 ⟨rfl, hC4⟩
      simp; exact hR W4 hC4) ?_
    rintro W4 hC4
    try simp only [wpK_assoc]
    first | refine wpK_onF (by simp []) ?_ | refine wpK_out (by simp []) ?_ | refine wpK_condF (by simp []) ?_ | refine wpK_endF (by simp []) (wpK_skip ?_) | refine wpK_endF (by simp []) ?_
    have w1 : IntKind.u64.wrap ((k : Int) - 1) = ((k - 1 : Nat) : Int) := by
      have : ((k : Int) - 1) = ((k - 1 : Nat) : Int) := by omega
      rw [this]; exact wrap_nat .u64 _ (by show k - 1 < 18446744073709551616; omega)
    have hand := aBinI_and .u64 k (k - 1) (by show k < 18446744073709551616; omega) (by show k - 1 < 18446744073709551616; omega)
    have hlt := dropLow_lt hz
    try simp only [wpK_assoc]
    refine wpK_reg1 (fun R hR => by simp [h3, w1, hand]; exact hR) ?_
    exact hI (dropLow k) _ _ hlt ⟨rfl, rfl, by simp [h0], by simp; rfl, by omega, hC4⟩
  · rintro A' W' hf; exact hf.elim
  · rintro A' W' ⟨h1, h2⟩
    exact ⟨.inl rfl, h1, [], by rfl, h2⟩
end Go.Proofs.YtkgfjfkgmpeobaaDoor

open Go Go.Eng
namespace Go.Proofs.YtkgfjfkgmpeobaaDoor
attribute [local congr] undef_congr WpK.congr WpS.congr WpL.congr WpC.congr WpF.congr gotS.congr callS.congr nextS.congr wantS.congr condS.congr
attribute [local irreducible] WpK
attribute [local simp] WpDr_nil WpDr_cons atS_some dwantS_true dwantS_false kindS_light kindS_float kindS_heavy lightS_value floatS_some heavyS_value heavyS_skip heavyS_enter dcallS_some doneS_eq
  isLight isFloat isPlain dLook testBit_dec dChain dLights_nil dLights_skip dLights_one dLight_nil dLight_cons dFreshes_nil dFreshes_one oneF_none oneF_some dFresh_nil dFresh_cons oneL_some oneW_true oneW_false sameV_value dPut dMay valEq arrEq listEq List.getElem?_cons Tr.get_nil dEnd
attribute [local simp] WpS_nil WpS_cons isDefer undef_false wantS_true wantS_false nextS_value nextS_skip nextS_enter callS_some gotS_some aWanted aOp aEvalF aEval opMove opAssign opPick aVal flat flat1 AAct.put opBinOp opConvert opIndex Tr.get_set Tr.get_lay aBin aResults tupled
  aCall aVals aCallB blt_dec ble_dec beq_dec aBinI_add aBinI_sub aBinI_lss aBinI_leq aBinI_gtr aBinI_geq aBinI_eql aBinI_neq index_str len_str len_slice Nat.beq_refl und2 und3 und4 und5 und39 und76 und82 und115 und22 und29 und25 und33 und46 und43 und49 und111 und113 field151 field155_0 field155_1 field155_2 field155_3 field155_4
  field78 field106 field24 field31 field27 field35 field108 field109 opBox opLoad opFieldAddr opIndexAddr acells aAddr opExtract aExtract opUnOp opAlloc opStore opMakeInterface opNilCheck opBuild aParts opBuildSlice aValW
set_option maxHeartbeats 4000000
set_option linter.unusedSimpArgs false
set_option linter.unusedVariables false
theorem zero46 : aZero T0 46 = some (.slice none 0 0) := by kernel_rfl
theorem places_wp {W : AW} (x : Nat) : WpF T0 66 [.int .u64 (x : Nat)] W (fun v W' => Ext W W' ∧ v = .func (.func 81) ⟨[]⟩ ⟨[.pointer (some ⟨W.next, 0, none⟩)]⟩ ∧ W'.Has W.next 0 (.int .u64 (x : Nat))) := by
  refine wpF fun66 rfl ?_
  try simp only [wpK_assoc]
  refine wpK_reg (fun R hR => by simp []; exact hR) ?_
  try simp only [wpK_assoc]
  refine wpK_reg (fun R hR => by simp [opMakeFunc]; exact hR) ?_
  exact wpK_ret ⟨.inr rfl, rfl, [.func (.func 81) ⟨[]⟩ ⟨[.pointer (some ⟨W.next, 0, none⟩)]⟩], by simp, .newCells _ _ _, rfl, (Var.new W 115 [.int .u64 (x : Nat)]).has rfl⟩
theorem list_wp {W : AW} {x : Nat} (hx : x < 16777216) (hT : tabsIn T0 T0.tabs W = true) (h0 : 0 < W.next) :
    WpF T0 58 [.int .u64 (x : Nat)] W (fun v W' => Ext W W' ∧ GrowsN W' v (memb 24 x).length (intsV (memb 24 x)) 3 1 (fun b => W.next ≤ b)) := by
  refine wpFd fun58 rfl ?_
  obtain ⟨W1, hW1, hE1, hn1, hV1⟩ : ∃ W1, W1 = W.newCells 46 [.slice none 0 0] ∧ Ext W W1 ∧ W1.next = W.next + 1 ∧ Var W1 W.next 46 [.slice none 0 0] := ⟨_, rfl, .newCells _ _ _, rfl, Var.new _ _ _⟩
  try simp only [wpK_assoc]
  refine wpK_reg (fun R hR => by simp []; exact hR) ?_
  try simp only [wpK_assoc]
  refine wpK_reg (fun R hR => by simp [zero46, ← hW1]; exact hR) ?_
  try simp only [wpK_assoc]
  refine wpK_x0 (fun R hR => by
      simp [aEnter, fun66, short_other, aCallV]; rw [callS_none]
      refine (places_wp x).mono ?_
      rintro _ W2 ⟨hE2, rfl, hB2⟩
      simp []; exact hR W2 (And.intro hE2 hB2)) ?_
  rintro W2 ⟨hE2, hB2⟩
  refine wpK_keep (fun tm' => tm'.get 3 = some (.pointer (some ⟨W.next, 0, none⟩)) ∧ tm'.get 6 = some (.func (.func 81) ⟨[]⟩ ⟨[.pointer (some ⟨W1.next, 0, none⟩)]⟩)) ⟨by simp, by simp⟩ ?_
  rintro tm ⟨h3, h6⟩
  have n2 := hE2.1
  refine wpK_range2 (f := 81) (first := ⟨[]⟩) (cap := ⟨[.pointer (some ⟨W1.next, 0, none⟩)]⟩) (by simp [h6]) fun81 (fun W5 hn5 hW5 hdf hlp => ?_)
  have hE25 : Ext W2 W5 := ⟨by omega, fun b hb _ => hW5 b hb⟩
  have hV5 := (hV1.ext hE2).ext hE25
  have hE5 : Ext W W5 := (hE1.trans hE2).trans hE25
  have hmw : (memb 24 x).length ≤ 24 := memb_len 24 x
  refine (places1_wp (l := W2.next + 1) (bx := W1.next) (x := x) (fun left W' => Ext W W' ∧ W5.next ≤ W'.next ∧ W'.blocks.get (W2.next + 1) = W5.blocks.get (W2.next + 1) ∧ W'.blocks.get W2.next = W5.blocks.get W2.next ∧ left < 16777216 ∧
    ∃ v l0, memb 24 x = l0 ++ memb 24 left ∧ Var W' W.next 46 [v] ∧ GrowsN W' v l0.length (intsV l0) 3 1 (fun b => W5.next ≤ b)) (by omega) (fun left k W' hC hl hb1 hb2 => ?_) ⟨hE5, Nat.le_refl _, rfl, rfl, hx, _, [], rfl, hV5, .nil _ _ _ _⟩ (hB2.ext hE25)).mono ?_
  · obtain ⟨c1, c2, c3, c4, c5, v, l0, c6, c7, c8⟩ := hC
    have hl := c3.trans hlp
    have hk24 : k < 24 := by
      apply Classical.byContradiction
      intro hk
      rw [Nat.testBit_lt_two_pow (Nat.lt_of_lt_of_le (show left < 2 ^ 24 from c5) (Nat.pow_le_pow_right (by omega) (by omega)))] at hb1
      cases hb1
    refine ⟨tabs_ext hT h0 c1, _, _, _, _, _, _, _, _, _, _, tm.set 7 (.int .i64 (k : Nat)), hl, rfl, ?_⟩
    refine wpR ?_
    try simp only [wpK_assoc]
    refine wpK_reg1 (fun R hR => by simp []; exact hR) ?_
    refine ⟨rfl, _, _, _, _, _, _, _, _, hl, ?_⟩
    generalize hbz : (AObj.loop LoopState.busy _ _ _ _ _ _ _ _) = bz
    obtain ⟨Wb, hWb, hOb, hnb⟩ : ∃ Wb, Wb = W'.setObj (W2.next + 1) bz ∧ Only (fun b => b = W2.next + 1) W' Wb ∧ Wb.next = W'.next := ⟨_, rfl, setObj_only _ _ _, rfl⟩
    rw [← hWb]
    have hlb : Wb.blocks.get (W2.next + 1) = some ⟨bz, []⟩ := by rw [hWb, setObj_get, if_pos rfl]
    have c7b := c7.only hOb (by omega)
    have c8b := c8.only hOb (fun b _ hb e => by omega)
    have hl0 : l0.length ≤ 24 := by
      have := congrArg List.length c6
      rw [List.length_append] at this; omega
    obtain ⟨v', Wc, Wd, a1, a2, a3, a4, a5, a6, a7⟩ := Var.push (T := T0) (t := 46) (el := 3) (i := Tryd.t3) (it := Tryd.t46) (sz := 1) (by omega) und46 inf3 is3 z3 rfl inf46 is46 c8b c7b (o := 0) (by omega) (by simp) (u := [.int .i64 (k : Nat)]) rfl rfl (by rw [by3]; omega) (by omega)
    have a1 : aAppend T0 (Wb.newCells 3 [.int .i64 (k : Nat)]) [46, 46] [v, .slice (some ⟨Wb.next, 0, none⟩) 1 2] = some (v', Wc) := a1
    have hld := c7b.load1 (T := T0) und46 rfl (j := 0) (v := v) rfl
    refine wpK_block1 ?_
    try simp only [wpK_assoc]
    refine wpK_reg1 (fun R hR => by simp [h3, hld, bs46, a1, a2]; exact hR) ?_
    simp only [leaves_normal]
    have hdl : Wd.blocks.get (W2.next + 1) = some ⟨bz, []⟩ := by rw [a7.2 _ (by omega) (by omega)]; exact hlb
    subst hbz
    refine ⟨_, _, _, _, _, _, _, _, _, hdl, rfl, ?_⟩
    have hOz := fun o => setObj_only Wd (W2.next + 1) o
    have hml := memb_low hb1 hb2 24
    rw [if_pos hk24] at hml
    refine ⟨⟨by rw [setObj_next]; have := c1.1; omega, fun b hb hk => ?_⟩, by rw [setObj_next]; omega, by rw [setObj_get, if_pos rfl]; exact hlp.symm, ?_, ?_, v', l0 ++ [(k : Int)], ?_, ?_, ?_⟩
    · rw [setObj_get, if_neg (by omega), a7.2 b (by have := c1.1; omega) (by omega), hOb.2 b (by have := c1.1; omega) (by omega)]
      exact c1.2 b hb hk
    · rw [setObj_get, if_neg (by omega), a7.2 _ (by omega) (by omega), hOb.2 _ (by omega) (by omega)]; exact c4
    · have := dropLow_lt (x := left) (fun e => by subst e; simp at hb1)
      omega
    · rw [c6, hml]; simp
    · exact (by simpa using a5 : Var Wd W.next 46 [v']).only (hOz _) (by omega)
    · have e1 : (l0 ++ [(k : Int)]).length = l0.length + 1 := by simp
      have e2 : intsV (l0 ++ [(k : Int)]) = intsV l0 ++ [.int .i64 (k : Nat)] := by simp [intsV]
      rw [e1, e2]
      exact (a6.only (K' := fun b => b = W2.next + 1) (hOz _) (fun b _ hb e => by omega)).mono (K' := fun b => W5.next ≤ b) (fun b hb => by omega)
  · rintro _ W6 ⟨c1, c2, c3, c4, c5, v, l0, c6, c7, c8⟩
    have hl6 := c3.trans hlp
    rw [memb_empty 24 0 (fun j _ => by simp), List.append_nil] at c6
    subst c6
    refine ⟨_, _, _, _, _, _, _, _, _, hl6, (fun h => by cases h), ?_⟩
    show WpK T0 ⟨58, none⟩ _ _ _ _
    generalize hex : (AObj.loop LoopState.exhausted _ _ _ _ _ _ _ _) = ex
    obtain ⟨W7, hW7, hO7, hn7⟩ : ∃ W7, W7 = W6.setObj (W2.next + 1) ex ∧ Only (fun b => b = W2.next + 1) W6 W7 ∧ W7.next = W6.next := ⟨_, rfl, setObj_only _ _ _, rfl⟩
    rw [← hW7]
    clear hW7 hex
    have c77 := c7.only hO7 (by omega)
    have hld := c77.load1 (T := T0) und46 rfl (j := 0) (v := v) rfl
    try simp only [wpK_assoc]
    refine wpK_reg (fun R hR => by simp [h3, hld]; exact hR) ?_
    have hdf7 : W7.blocks.get W2.next = some ⟨.deferred (some []), []⟩ := by rw [hO7.2 _ (by omega) (by omega), c4]; exact hdf
    refine wpK_ret ⟨.inr rfl, W7.setObj W2.next (.deferred none), ⟨W2.next, rfl, hdf7, rfl⟩, [v], by simp, ⟨by rw [setObj_next]; have := c1.1; omega, fun b hb hk => ?_⟩, ?_⟩
    · rw [setObj_get, if_neg (by omega), hO7.2 b (by have := c1.1; omega) (by omega)]; exact c1.2 b hb hk
    · exact ((c8.only hO7 (fun b _ hb e => by omega)).only (K' := fun b => b = W2.next) (setObj_only _ _ _) (fun b _ hb e => by omega)).mono (fun b hb => by omega)
end Go.Proofs.YtkgfjfkgmpeobaaDoor

open Go Go.Eng
namespace Go.Proofs.YtkgfjfkgmpeobaaDoor
attribute [local congr] undef_congr WpK.congr WpS.congr WpL.congr WpC.congr WpF.congr gotS.congr callS.congr nextS.congr wantS.congr condS.congr
attribute [local irreducible] WpK
attribute [local simp] WpDr_nil WpDr_cons atS_some dwantS_true dwantS_false kindS_light kindS_float kindS_heavy lightS_value floatS_some heavyS_value heavyS_skip heavyS_enter dcallS_some doneS_eq
  isLight isFloat isPlain dLook testBit_dec dChain dLights_nil dLights_skip dLights_one dLight_nil dLight_cons dFreshes_nil dFreshes_one oneF_none oneF_some dFresh_nil dFresh_cons oneL_some oneW_true oneW_false sameV_value dPut dMay valEq arrEq listEq List.getElem?_cons Tr.get_nil dEnd
attribute [local simp] WpS_nil WpS_cons isDefer undef_false wantS_true wantS_false nextS_value nextS_skip nextS_enter callS_some gotS_some aWanted aOp aEvalF aEval opMove opAssign opPick aVal flat flat1 AAct.put opBinOp opConvert opIndex Tr.get_set Tr.get_lay aBin aResults tupled
  aCall aVals aCallB blt_dec ble_dec beq_dec aBinI_add aBinI_sub aBinI_lss aBinI_leq aBinI_gtr aBinI_geq aBinI_eql aBinI_neq index_str len_str len_slice Nat.beq_refl und2 und3 und4 und5 und39 und76 und82 und115 und22 und29 und25 und33 und46 und43 und49 und111 und113 field151 field155_0 field155_1 field155_2 field155_3 field155_4
  field78 field106 field24 field31 field27 field35 field108 field109 opBox opLoad opFieldAddr opIndexAddr acells aAddr opExtract aExtract opUnOp opAlloc opStore opMakeInterface opNilCheck opBuild aParts opBuildSlice aValW
set_option maxHeartbeats 4000000
set_option linter.unusedSimpArgs false
set_option linter.unusedVariables false
def capL (T : Nat) (L : List Stp) (rm : Nat → Int) : Nat → Int
  | 0 => 0
  | i + 1 => capL T L rm i + (if T.testBit (stp L i).a && !T.testBit (stp L i).b then rm (2 * i) else 0) + (if T.testBit (stp L i).b && !T.testBit (stp L i).a then rm (2 * i + 1) else 0)
def sumT (T : Nat) (g : Nat → Int) : Nat → Int
  | 0 => 0
  | n + 1 => sumT T g n + (if T.testBit n then g n else 0)
theorem sumT_add (T : Nat) (g h : Nat → Int) : ∀ n, sumT T (fun q => g q + h q) n = sumT T g n + sumT T h n
  | 0 => rfl
  | n + 1 => by
    rw [sumT, sumT, sumT, sumT_add T g h n]
    split <;> omega
theorem sumT_congr {T : Nat} {g h : Nat → Int} : ∀ {n : Nat}, (∀ q, q < n → g q = h q) → sumT T g n = sumT T h n
  | 0, _ => rfl
  | n + 1, he => by
    rw [sumT, sumT, sumT_congr (fun q hq => he q (by omega)), he n (by omega)]
theorem sumT_zero (T : Nat) : ∀ n, sumT T (fun _ => 0) n = 0
  | 0 => rfl
  | n + 1 => by rw [sumT, sumT_zero T n]; split <;> rfl
theorem sumT_one (T a : Nat) (f : Int) : ∀ n, sumT T (fun q => if a = q then f else 0) n = if a < n && T.testBit a then f else 0
  | 0 => by simp [sumT]
  | n + 1 => by
    rw [sumT, sumT_one T a f n]
    by_cases e : a = n
    · subst e
      cases T.testBit a <;> simp
    · have e1 : (a < n + 1) = (a < n) := propext ⟨fun _ => by omega, fun _ => by omega⟩
      simp only [e1, if_neg e]
      split <;> split <;> simp
def inner (T : Nat) (L : List Stp) (rm : Nat → Int) : Nat → Int
  | 0 => 0
  | i + 1 => inner T L rm i + (if T.testBit (stp L i).a && T.testBit (stp L i).b then rm (2 * i) + rm (2 * i + 1) else 0)
theorem sum_out {T : Nat} {L : List Stp} {rm : Nat → Int} (hL : StpsOk L) : ∀ i, i ≤ L.length → sumT T (fun q => outN L rm q i) 24 = capL T L rm i + inner T L rm i
  | 0, _ => by
    have : (fun q => outN L rm q 0) = fun _ => 0 := rfl
    rw [this, sumT_zero]; rfl
  | i + 1, hi => by
    have h1 := hL.ok i (by omega)
    have e : sumT T (fun q => outN L rm q (i + 1)) 24 = sumT T (fun q => outN L rm q i) 24 + sumT T (fun q => if (stp L i).a = q then rm (2 * i) else 0) 24 + sumT T (fun q => if (stp L i).b = q then rm (2 * i + 1) else 0) 24 := by
      rw [← sumT_add, ← sumT_add]
      refine sumT_congr (fun q _ => ?_)
      rw [outN, Int.add_assoc]
    rw [e, sum_out hL i (by omega), sumT_one, sumT_one, capL, inner]
    have e1 : decide ((stp L i).a < 24) = true := decide_eq_true h1.1
    have e2 : decide ((stp L i).b < 24) = true := decide_eq_true h1.2.1
    rw [e1, e2]
    cases T.testBit (stp L i).a <;> cases T.testBit (stp L i).b <;> simp <;> omega
theorem inner_congr {T : Nat} {L : List Stp} {rm rm' : Nat → Int} : ∀ {i : Nat}, (∀ y, y < i → rm (2 * y) + rm (2 * y + 1) = rm' (2 * y) + rm' (2 * y + 1)) → inner T L rm i = inner T L rm' i
  | 0, _ => rfl
  | i + 1, h => by rw [inner, inner, inner_congr (fun y hy => h y (by omega)), h i (by omega)]
theorem capL_nn {T : Nat} {L : List Stp} {rm : Nat → Int} : ∀ {i : Nat}, (∀ y, y < 2 * i → 0 ≤ rm y) → 0 ≤ capL T L rm i
  | 0, _ => by simp [capL]
  | i + 1, h => by
    have h1 := capL_nn (T := T) (L := L) (rm := rm) (i := i) (fun y hy => h y (by omega))
    have h2 := h (2 * i) (by omega)
    have h3 := h (2 * i + 1) (by omega)
    rw [capL]; split <;> split <;> omega
theorem capL_zero {T : Nat} {L : List Stp} {rm : Nat → Int} : ∀ {i : Nat}, (∀ y, y < 2 * i → 0 ≤ rm y) → (capL T L rm i = 0 ↔ ∀ y, y < 2 * i → T.testBit (hFrom L y) = true → T.testBit (hTo L y) = false → rm y = 0)
  | 0, _ => by simp [capL]
  | i + 1, h => by
    have h0 := capL_nn (T := T) (L := L) (rm := rm) (i := i) (fun y hy => h y (by omega))
    have h1 := capL_zero (T := T) (L := L) (rm := rm) (i := i) (fun y hy => h y (by omega))
    have h2 := h (2 * i) (by omega)
    have h3 := h (2 * i + 1) (by omega)
    have g1 : hFrom L (2 * i) = (stp L i).a := by unfold hFrom; rw [if_pos (by omega), show 2 * i / 2 = i from by omega]
    have g2 : hFrom L (2 * i + 1) = (stp L i).b := by unfold hFrom; rw [if_neg (by omega), show (2 * i + 1) / 2 = i from by omega]
    have g3 : hTo L (2 * i) = (stp L i).b := by unfold hTo; rw [if_pos (by omega), show 2 * i / 2 = i from by omega]
    have g4 : hTo L (2 * i + 1) = (stp L i).a := by unfold hTo; rw [if_neg (by omega), show (2 * i + 1) / 2 = i from by omega]
    rw [capL]
    constructor
    · intro he y hy hf ht
      have hz : capL T L rm i = 0 := by split at he <;> split at he <;> omega
      by_cases e1 : y = 2 * i
      · subst e1; rw [g1] at hf; rw [g3] at ht; rw [hf, ht] at he; simp at he; omega
      · by_cases e2 : y = 2 * i + 1
        · subst e2; rw [g2] at hf; rw [g4] at ht; rw [hf, ht] at he; simp at he; omega
        · exact h1.1 hz y (by omega) hf ht
    · intro hall
      rw [h1.2 (fun y hy => hall y (by omega))]
      have q1 := hall (2 * i) (by omega)
      have q2 := hall (2 * i + 1) (by omega)
      rw [g1, g3] at q1
      rw [g2, g4] at q2
      cases ha : T.testBit (stp L i).a <;> cases hb : T.testBit (stp L i).b <;> simp [-testBit_dec, ha, hb] at q1 q2 ⊢ <;> omega
theorem flip_two (i : Nat) : flip (2 * i) = 2 * i + 1 := by unfold flip; rw [if_pos (by omega)]
theorem cut_gone {L : List Stp} {s t T : Nat} {rm rm' : Nat → Int} {x : Int} (hL : StpsOk L) (hs : s < 24) (ht : t < 24) (hR : Rooms L rm) (hR' : Rooms L rm') (hG : Gone L s t rm rm' x) (h1 : T.testBit s = true) (h2 : T.testBit t = false) :
    capL T L rm' L.length = capL T L rm L.length - x := by
  have e1 := sum_out (T := T) (rm := rm) hL L.length (Nat.le_refl _)
  have e2 := sum_out (T := T) (rm := rm') hL L.length (Nat.le_refl _)
  have e3 : inner T L rm' L.length = inner T L rm L.length := inner_congr (fun y hy => by
    have a := hR'.sum (2 * y) (by omega)
    have b := hR.sum (2 * y) (by omega)
    rw [flip_two] at a b
    omega)
  have e4 : sumT T (fun q => outN L rm' q L.length) 24 = sumT T (fun q => outN L rm q L.length) 24 + sumT T (fun q => if s = q then -x else 0) 24 + sumT T (fun q => if t = q then x else 0) 24 := by
    rw [← sumT_add, ← sumT_add]
    refine sumT_congr (fun q _ => ?_)
    rw [hG q]; split <;> split <;> omega
  rw [sumT_one, sumT_one, h1, h2] at e4
  simp [hs, ht] at e4
  omega
theorem Filled.cuts {L : List Stp} {s t : Nat} {rm rm' : Nat → Int} {x : Int} {lv : Nat → Nat} (h : Filled L s t rm x rm' lv) (hL : StpsOk L) (hs : s < 24) (ht : t < 24) (hR : Rooms L rm) :
    (∀ T, T.testBit s = true → T.testBit t = false → x ≤ capL T L rm L.length ∧ (x = capL T L rm L.length → ∀ q, q < 24 → 0 < lv q → T.testBit q = true)) ∧ x = capL (nearS lv 24) L rm L.length ∧ (nearS lv 24).testBit s = true ∧ (nearS lv 24).testBit t = false := by
  have hnn := fun (i : Nat) (hi : i = L.length) y (hy : y < 2 * i) => h.rooms.nn y (by omega)
  have hn := hnn L.length rfl
  have n1 : (nearS lv 24).testBit s = true := by rw [nearS_bit, h.lev.src]; simp [hs]
  have n2 : (nearS lv 24).testBit t = false := by rw [nearS_bit, h.snk]; simp
  refine ⟨fun T h1 h2 => ?_, ?_, n1, n2⟩
  · have hc := cut_gone hL hs ht hR h.rooms h.gone h1 h2
    have h0 := capL_nn (T := T) (L := L) hn
    refine ⟨by omega, fun he => ?_⟩
    have hz := (capL_zero (T := T) (L := L) hn).1 (by omega)
    have key : ∀ n q, q < 24 → 0 < lv q → lv q ≤ n → T.testBit q = true := by
      intro n
      induction n with
      | zero => intro q _ h3 h4; omega
      | succ n ih =>
        intro q hq h3 h4
        rcases h.lev.pre q hq h3 with rfl | ⟨y, hy, hto, hr, hf1, hf2⟩
        · exact h1
        · have hb := (hL.to hy).2.1
          have := ih _ hb hf1 (by omega)
          cases hT : T.testBit q with
          | true => rfl
          | false => exact absurd (hz y hy this (by rw [hto]; exact hT)) hr
    exact fun q hq h3 => key (lv q) q hq h3 (Nat.le_refl _)
  · have hc := cut_gone hL hs ht hR h.rooms h.gone n1 n2
    have hz := (capL_zero (T := nearS lv 24) (L := L) hn).2 (fun y hy h3 h4 => by
      apply Classical.byContradiction
      intro hr
      have hb := hL.to hy
      rw [nearS_bit] at h3 h4
      simp [hb.1, hb.2.1] at h3 h4
      have := h.closed y hy h3 hr
      omega)
    omega
theorem atP_one (s q : Nat) : atP (1 <<< s) s q = q := by
  unfold atP; rw [one_bit]; split
  · rename_i h; simpa using h
  · rfl
theorem capL_Q (T : Nat) (s : Nat) (l : List Quad) : ∀ i, i ≤ l.length → capL T (layL (1 <<< s) s l) (hCap (layL (1 <<< s) s l)) i = capQ T (l.take i)
  | 0, _ => by simp [capL, capQ]
  | i + 1, hi => by
    have ha : l[i]? = some l[i] := List.getElem?_eq_getElem (by omega)
    generalize l[i] = a at ha
    rw [capL, capL_Q T s l i (by omega), capQ_take ha, stp_lay ha]
    have g1 : hCap (layL (1 <<< s) s l) (2 * i) = a.2.2.1 := by unfold hCap; rw [if_pos (by omega), show 2 * i / 2 = i from by omega, stp_lay ha]
    have g2 : hCap (layL (1 <<< s) s l) (2 * i + 1) = a.2.2.2 := by unfold hCap; rw [if_neg (by omega), show (2 * i + 1) / 2 = i from by omega, stp_lay ha]
    rw [g1, g2]
    simp only [atP_one, out1]
    omega
theorem layL_len (f s : Nat) (l : List Quad) : (layL f s l).length = l.length := by simp [layL]
end Go.Proofs.YtkgfjfkgmpeobaaDoor

open Go Go.Eng
namespace Go.Proofs.YtkgfjfkgmpeobaaDoor
attribute [local congr] undef_congr WpK.congr WpS.congr WpL.congr WpC.congr WpF.congr gotS.congr callS.congr nextS.congr wantS.congr condS.congr
attribute [local irreducible] WpK
attribute [local simp] WpDr_nil WpDr_cons atS_some dwantS_true dwantS_false kindS_light kindS_float kindS_heavy lightS_value floatS_some heavyS_value heavyS_skip heavyS_enter dcallS_some doneS_eq
  isLight isFloat isPlain dLook testBit_dec dChain dLights_nil dLights_skip dLights_one dLight_nil dLight_cons dFreshes_nil dFreshes_one oneF_none oneF_some dFresh_nil dFresh_cons oneL_some oneW_true oneW_false sameV_value dPut dMay valEq arrEq listEq List.getElem?_cons Tr.get_nil dEnd
attribute [local simp] WpS_nil WpS_cons isDefer undef_false wantS_true wantS_false nextS_value nextS_skip nextS_enter callS_some gotS_some aWanted aOp aEvalF aEval opMove opAssign opPick aVal flat flat1 AAct.put opBinOp opConvert opIndex Tr.get_set Tr.get_lay aBin aResults tupled
  aCall aVals aCallB blt_dec ble_dec beq_dec aBinI_add aBinI_sub aBinI_lss aBinI_leq aBinI_gtr aBinI_geq aBinI_eql aBinI_neq index_str len_str len_slice Nat.beq_refl und2 und3 und4 und5 und39 und76 und82 und115 und22 und29 und25 und33 und46 und43 und49 und111 und113 field151 field155_0 field155_1 field155_2 field155_3 field155_4
  field78 field106 field24 field31 field27 field35 field108 field109 opBox opLoad opFieldAddr opIndexAddr acells aAddr opExtract aExtract opUnOp opAlloc opStore opMakeInterface opNilCheck opBuild aParts opBuildSlice aValW
set_option maxHeartbeats 4000000
set_option linter.unusedSimpArgs false
set_option linter.unusedVariables false
def flowOf (rm : Nat → Int) (n : Nat) : List Int := (List.range n).map fun i => rm (2 * i + 1)
def flowTo (rm : Nat → Int) (n i : Nat) : List Int := (List.range n).map fun j => if j < i then rm (2 * j + 1) else 0
theorem flowTo_len (rm : Nat → Int) (n i : Nat) : (flowTo rm n i).length = n := by simp [flowTo]
theorem flowTo_set (rm : Nat → Int) (n i : Nat) (hi : i < n) : (flowTo rm n i).set i (rm (2 * i + 1)) = flowTo rm n (i + 1) := by
  apply List.ext_getElem?
  intro j
  by_cases hj : j < n
  · by_cases e : j = i
    · subst e
      rw [List.getElem?_set_self (by rw [flowTo_len]; exact hj)]
      simp [flowTo, List.getElem?_range hj]
    · rw [List.getElem?_set_ne (fun x => e x.symm)]
      have : (j < i + 1) = (j < i) := propext ⟨fun _ => by omega, fun _ => by omega⟩
      simp [flowTo, List.getElem?_range hj, this]
  · rw [List.getElem?_eq_none (by rw [List.length_set, flowTo_len]; omega), List.getElem?_eq_none (by rw [flowTo_len]; omega)]
theorem rep_ints : ∀ n, intsV (List.replicate n 0) = rep [.int .i64 0] n
  | 0 => rfl
  | n + 1 => by
    show intsV (List.replicate (n + 1) 0) = [.int .i64 0] ++ rep [.int .i64 0] n
    rw [← rep_ints n, List.replicate_succ]; rfl
theorem flowTo_zero (rm : Nat → Int) (n : Nat) : intsV (flowTo rm n 0) = rep [.int .i64 0] n := by
  have : flowTo rm n 0 = List.replicate n 0 := by
    rw [flowTo, List.eq_replicate_iff]
    simp
  rw [this, rep_ints]
theorem flowTo_all (rm : Nat → Int) (n : Nat) : flowTo rm n n = flowOf rm n := by
  apply List.map_congr_left
  intro j hj
  rw [if_pos (by simpa using hj)]
theorem taken_wp {W : AW} {p B : Nat} {L : List Stp} {s t : Nat} {rm : Nat → Int} {lv : Nat → Nat} (h : Wk W p B L s t rm lv) (h200 : L.length ≤ 200) :
    WpF T0 56 [.pointer (some ⟨p, 0, none⟩), .int .i64 (L.length : Nat)] W (fun v W' => Ext W W' ∧ v = .slice (some ⟨W.next, 0, none⟩) L.length (2 * L.length) ∧ Var W' W.next 2 (intsV (flowOf rm L.length))) := by
  refine wpF fun56 rfl ?_
  have hm := mk43 W L.length (by omega)
  rw [← flowTo_zero rm] at hm
  obtain ⟨W1, hW1, hE1, hn1, hV1⟩ : ∃ W1, W1 = W.newCells 2 (intsV (flowTo rm L.length 0)) ∧ Ext W W1 ∧ W1.next = W.next + 1 ∧ Var W1 W.next 2 (intsV (flowTo rm L.length 0)) := ⟨_, rfl, .newCells _ _ _, rfl, Var.new _ _ _⟩
  rw [← hW1] at hm
  try simp only [wpK_assoc]
  refine wpK_reg (fun R hR => by simp []; exact hR) ?_
  try simp only [wpK_assoc]
  refine wpK_reg (fun R hR => by simp [hm, opMakeSlice, aValW]; exact hR) ?_
  try simp only [wpK_assoc]
  refine wpK_reg (fun R hR => by simp [len_slice und43]; exact hR) ?_
  try simp only [wpK_assoc]
  refine wpK_while (I := fun k A W' => A.n = 28 ∧ A.defers = [] ∧ A.tmps.get 0 = some (.pointer (some ⟨p, 0, none⟩)) ∧ A.tmps.get 5 = some (.slice (some ⟨W.next, 0, none⟩) L.length (2 * L.length)) ∧ A.tmps.get 10 = some (.int .i64 L.length) ∧ Ext W W' ∧ ∃ i : Nat, k = L.length - i ∧ i ≤ L.length ∧ A.tmps.get 11 = some (.int .i64 i) ∧ Var W' W.next 2 (intsV (flowTo rm L.length i)))
    (J := fun A W' => A.n = 28 ∧ A.defers = [] ∧ A.tmps.get 0 = some (.pointer (some ⟨p, 0, none⟩)) ∧ A.tmps.get 5 = some (.slice (some ⟨W.next, 0, none⟩) L.length (2 * L.length)) ∧ A.tmps.get 10 = some (.int .i64 L.length) ∧ Ext W W' ∧ Var W' W.next 2 (intsV (flowOf rm L.length)))
    (Rt := fun _ _ => False) (k := L.length) ?_ ?_ ?_ ?_
  · exact ⟨rfl, rfl, by simp, by simp, by simp, hE1, 0, by simp, by omega, by simp, hV1⟩
  · rintro k ⟨tm, n, ds⟩ W3 ⟨hn, hd, h0, h5, h10, hE3, i, hk, hi, h11, hV3⟩ Q' hJ hRt hI
    simp only at hn hd h0 h5 h10
    subst hn; subst hd
    simp only at h11
    try simp only [wpK_assoc]
    refine wpK_reg (fun R hR => by simp [h10, h11]; exact hR) ?_
    by_cases hlt : i < L.length
    · try simp only [wpK_assoc]
      first | refine wpK_onT (by simp [hlt]) ?_ | refine wpK_outT (by simp [hlt]) ?_ | refine wpK_condT (by simp [hlt]) ?_ | refine wpK_endT (by simp [hlt]) ?_
      have hx := indexAddr_slice (T := T0) und43 sz2 (b := W.next) (o := 0) (c := 2 * L.length) (k := .i64) hlt
      rw [Nat.mul_one] at hx
      have hr := ((h.ext hE3).has.1 (2 * i + 1) (by omega) (by omega)).2
      have hl := load_of und2 rfl hr
      have hix := ix152 p 0 (2 * i + 1) (by omega)
      obtain ⟨W4, s1, s2, s3, s4⟩ := hV3.store (T := T0) (t := 2) (v := .int .i64 (rm (2 * i + 1))) (o := i) inf2 (by rw [is2]; rfl) (by rw [intsV_len, flowTo_len]; show i + 1 ≤ L.length; omega) rfl
      have s4 : Var W4 W.next 2 ((intsV (flowTo rm L.length i)).take i ++ [.int .i64 (rm (2 * i + 1))] ++ (intsV (flowTo rm L.length i)).drop (i + 1)) := s4
      rw [set_ints _ _ _ (by rw [flowTo_len]; exact hlt), flowTo_set rm _ _ hlt] at s4
      have w1 : IntKind.i64.wrap (2 * (i : Int)) = 2 * (i : Int) := IntWalk.i64_in _ (by omega)
      have w2 : IntKind.i64.wrap (2 * (i : Int) + 1) = ((2 * i + 1 : Nat) : Int) := by rw [IntWalk.i64_in _ (by omega)]; omega
      have e : (2 * i + 1) * 2 + 1 = 2 * (2 * i + 1) + 1 := by omega
      rw [← e] at hl
      generalize hy : 2 * i + 1 = y at hix hl w2 s1
      refine wpK_block ?_
      try simp only [wpK_assoc]
      refine wpK_reg (fun R hR => by simp [h11]; exact hR) ?_
      try simp only [wpK_assoc]
      refine wpK_reg1 (fun R hR => by simp [h0, h5, hx, nilck, aBinI_mul, w1, w2, hix, hl, s1]; exact hR) ?_
      try simp only [wpK_assoc]
      refine wpK_reg1 (fun R hR => by simp [h11]; exact hR) ?_
      have n3 := hE3.1
      exact hI (k - 1) _ _ (by omega) ⟨rfl, rfl, by simp [h0, h5, h10], by simp [h0, h5, h10], by simp [h0, h5, h10], ⟨by omega, fun b hb hk => by rw [s3.2 b (by omega) (by omega)]; exact hE3.2 b hb hk⟩, i + 1, by omega, by omega, by simp; exact i64_succ i (by omega), s4⟩
    · have e : i = L.length := by omega
      rw [e, flowTo_all] at hV3
      try simp only [wpK_assoc]
      first | refine wpK_onF (by simp [e]) ?_ | refine wpK_out (by simp [e]) ?_ | refine wpK_condF (by simp [e]) ?_ | refine wpK_endF (by simp [e]) (wpK_skip ?_) | refine wpK_endF (by simp [e]) ?_
      exact hJ _ _ ⟨rfl, rfl, by simp [h0, h5, h10], by simp [h0, h5, h10], by simp [h0, h5, h10], hE3, hV3⟩
  · rintro A' W' hf; exact hf.elim
  · rintro ⟨tm, n, ds⟩ W3 ⟨hn, hd, h0, h5, h10, hE3, hV3⟩
    simp only at hn hd h0 h5 h10
    subst hn; subst hd
    try simp only [wpK_assoc]
    refine wpK_reg (fun R hR => by simp [h5]; exact hR) ?_
    exact wpK_ret ⟨.inr rfl, rfl, [.slice (some ⟨W.next, 0, none⟩) L.length (2 * L.length)], by simp, hE3, rfl, hV3⟩
end Go.Proofs.YtkgfjfkgmpeobaaDoor

open Go Go.Eng
namespace Go.Proofs.YtkgfjfkgmpeobaaDoor
attribute [local congr] undef_congr WpK.congr WpS.congr WpL.congr WpC.congr WpF.congr gotS.congr callS.congr nextS.congr wantS.congr condS.congr
attribute [local irreducible] WpK
attribute [local simp] WpDr_nil WpDr_cons atS_some dwantS_true dwantS_false kindS_light kindS_float kindS_heavy lightS_value floatS_some heavyS_value heavyS_skip heavyS_enter dcallS_some doneS_eq
  isLight isFloat isPlain dLook testBit_dec dChain dLights_nil dLights_skip dLights_one dLight_nil dLight_cons dFreshes_nil dFreshes_one oneF_none oneF_some dFresh_nil dFresh_cons oneL_some oneW_true oneW_false sameV_value dPut dMay valEq arrEq listEq List.getElem?_cons Tr.get_nil dEnd
attribute [local simp] WpS_nil WpS_cons isDefer undef_false wantS_true wantS_false nextS_value nextS_skip nextS_enter callS_some gotS_some aWanted aOp aEvalF aEval opMove opAssign opPick aVal flat flat1 AAct.put opBinOp opConvert opIndex Tr.get_set Tr.get_lay aBin aResults tupled
  aCall aVals aCallB blt_dec ble_dec beq_dec aBinI_add aBinI_sub aBinI_lss aBinI_leq aBinI_gtr aBinI_geq aBinI_eql aBinI_neq index_str len_str len_slice Nat.beq_refl und2 und3 und4 und5 und39 und76 und82 und115 und22 und29 und25 und33 und46 und43 und49 und111 und113 field151 field155_0 field155_1 field155_2 field155_3 field155_4
  field78 field106 field24 field31 field27 field35 field108 field109 opBox opLoad opFieldAddr opIndexAddr acells aAddr opExtract aExtract opUnOp opAlloc opStore opMakeInterface opNilCheck opBuild aParts opBuildSlice aValW
set_option maxHeartbeats 4000000
set_option linter.unusedSimpArgs false
set_option linter.unusedVariables false
theorem var_ints {W : AW} {b : Nat} {el : TypeId} {l : List Int} {n c : Nat} (h : Var W b el (intsV l)) (hn : l.length = n) : IntL W (.slice (some ⟨b, 0, none⟩) n c) l :=
  ⟨_, c, by rw [hn], fun i x hx => ⟨b, 0, rfl, by rw [Nat.zero_add]; exact h.has (intsV_get hx)⟩⟩
theorem flowOf_len (rm : Nat → Int) (n : Nat) : (flowOf rm n).length = n := by simp [flowOf]
theorem flowOf_get {rm : Nat → Int} {n i : Nat} (h : i < n) : (flowOf rm n)[i]? = some (rm (2 * i + 1)) := by simp [flowOf, List.getElem?_range h]
theorem flow_is {P : Int} {l : List Tri} {s t : Nat} {x : Int} {rm : Nat → Int} {lv : Nat → Nat} (hin : PlanIn P (arcsQ l)) (F : Filled (layL (1 <<< s) s (arcsQ l)) s t (hCap (layL (1 <<< s) s (arcsQ l))) x rm lv) :
    capsOk (l.zip (flowOf rm l.length)) ∧ ∀ q : Nat, netZ (l.zip (flowOf rm l.length)) q = (if s = q then x else 0) - (if t = q then x else 0) := by
  have hLl : (layL (1 <<< s) s (arcsQ l)).length = l.length := by rw [layL_len]; simp [arcsQ]
  have hq : ∀ {i : Nat} {a : Tri}, l[i]? = some a → (arcsQ l)[i]? = some (a.1, a.2.1, a.2.2, 0) := fun h => by simp [arcsQ, h]
  have room : ∀ (i : Nat) (a : Tri), l[i]? = some a → rm (2 * i) + rm (2 * i + 1) = a.2.2 ∧ 0 ≤ rm (2 * i) ∧ 0 ≤ rm (2 * i + 1) ∧ hCap (layL (1 <<< s) s (arcsQ l)) (2 * i) = a.2.2 ∧ hCap (layL (1 <<< s) s (arcsQ l)) (2 * i + 1) = 0 := by
    intro i a ha
    have hlt := (List.getElem?_eq_some_iff.1 ha).1
    have h1 := F.rooms.sum (2 * i) (by omega)
    have h2 := F.rooms.nn (2 * i) (by omega)
    have h3 := F.rooms.nn (2 * i + 1) (by omega)
    rw [flip_two] at h1
    have g1 : hCap (layL (1 <<< s) s (arcsQ l)) (2 * i) = a.2.2 := by unfold hCap; rw [if_pos (by omega), show 2 * i / 2 = i from by omega, stp_lay (hq ha)]
    have g2 : hCap (layL (1 <<< s) s (arcsQ l)) (2 * i + 1) = 0 := by unfold hCap; rw [if_neg (by omega), show (2 * i + 1) / 2 = i from by omega, stp_lay (hq ha)]
    rw [g1, g2] at h1
    exact ⟨by omega, h2, h3, g1, g2⟩
  refine ⟨fun q hm => ?_, fun q => ?_⟩
  · obtain ⟨i, hi⟩ := List.mem_iff_getElem?.1 hm
    rw [List.getElem?_zip_eq_some] at hi
    obtain ⟨h1, h2⟩ := hi
    have hlt := (List.getElem?_eq_some_iff.1 h1).1
    rw [flowOf_get hlt] at h2
    obtain ⟨r1, r2, r3, _, _⟩ := room i q.1 h1
    simp only [Option.some.injEq] at h2
    omega
  · have key : ∀ i, i ≤ l.length → netZ ((l.zip (flowOf rm l.length)).take i) q = outN (layL (1 <<< s) s (arcsQ l)) (hCap (layL (1 <<< s) s (arcsQ l))) q i - outN (layL (1 <<< s) s (arcsQ l)) rm q i := by
      intro i
      induction i with
      | zero => intro _; simp [netZ, outN]
      | succ i ih =>
        intro hi
        have ha : l[i]? = some l[i] := List.getElem?_eq_getElem (by omega)
        have hmem : l[i] ∈ l := List.getElem_mem _
        generalize l[i] = a at ha hmem
        obtain ⟨r1, r2, r3, r4, r5⟩ := room i a ha
        have hst := hin.step (a := (a.1, a.2.1, a.2.2, 0)) (by simp only [arcsQ, List.mem_map]; exact ⟨a, hmem, rfl⟩)
        simp only at hst
        rw [zip_snoc ha (flowOf_get (by omega)), netZ_snoc, ih (by omega), outN, outN, stp_lay (hq ha), r4, r5]
        simp only [atP_one, net1]
        have e1 : (a.1.toNat = q) = (a.1 = q) := propext ⟨fun _ => by omega, fun _ => by omega⟩
        have e2 : (a.2.1.toNat = q) = (a.2.1 = q) := propext ⟨fun _ => by omega, fun _ => by omega⟩
        simp only [e1, e2]
        split <;> split <;> omega
    have hk := key l.length (Nat.le_refl _)
    have hg := F.gone q
    rw [hLl] at hg
    rw [List.take_of_length_le (by rw [List.length_zip]; omega)] at hk
    rw [hk, hg]; omega
theorem most_ok {W : AW} {v : Value} {P : Int} {l : List Tri} (h : TriIn W v l) {s t : Nat} (hok : planOk P (arcsQ l) = true) (hst : two? s t P = true) (hT : tabsIn T0 T0.tabs W = true) (h0 : 0 < W.next) :
    WpF T0 19 [.agg ⟨[.int .i64 P, v]⟩, .int .i64 s, .int .i64 t] W (fun u W' => Ext W W' ∧ ∃ x rm lv b, u = .tuple ⟨[.int .i64 x, .slice (some ⟨b, 0, none⟩) l.length (2 * l.length), .int .i64 0]⟩ ∧ W.next ≤ b ∧ Var W' b 2 (intsV (flowOf rm l.length)) ∧
      Filled (layL (1 <<< s) s (arcsQ l)) s t (hCap (layL (1 <<< s) s (arcsQ l))) x rm lv) := by
  refine wpF fun19 rfl ?_
  have hN := netPlan (netIn (P := P) h)
  have hE0 : Ext W (W.newCells 31 [.int .i64 P, v]) := .newCells _ _ _
  have hV := Var.new W 31 [.int .i64 P, v]
  have hT0 := tabs_ext hT h0 hE0
  have h00 : 0 < (W.newCells 31 [.int .i64 P, v]).next := by rw [newCells_next]; omega
  generalize hW0 : W.newCells 31 [.int .i64 P, v] = W0 at hN hE0 hV hT0 h00
  have hin := arcsQ_in hok
  obtain ⟨hP2, hP24, h200⟩ := hin.size
  have hee : chkE P (arcsQ l) s t = 0 := by simp only [chkE, hok, endE, hst, if_true]
  simp only [two?, Bool.and_eq_true, decide_eq_true_eq] at hst
  have hc := checkEnds_wp hN s t
  rw [hee] at hc
  have hLl : (layL (1 <<< s) s (arcsQ l)).length = l.length := by rw [layL_len]; simp [arcsQ]
  obtain ⟨av, cv, hvs⟩ := tri_len h
  have l1 : ∀ W', Ext W0 W' → aLoadVar T0 W' 29 W.next 1 = some v := fun W' h => (hV.ext h).load1 (T := T0) und29 rfl (j := 1) (v := v) rfl
  have hlen : ∀ W', aLen T0 W' 29 v = some (.int .i64 l.length) := fun W' => by rw [hvs]; exact len_slice und29 _ _ _
  try simp only [wpK_assoc]
  refine wpK_reg (fun R hR => by simp [hW0]; exact hR) ?_
  try simp only [wpK_assoc]
  refine wpK_x0 (fun R hR => by
      simp [aEnter, fun52, short_other, aCallV]; rw [callS_none]
      refine (hc).mono ?_
      rintro _ W1 ⟨hE1, rfl⟩
      simp []; exact hR W1 hE1) ?_
  rintro W1 hE1
  try simp only [wpK_assoc]
  refine wpK_reg (fun R hR => by simp []; exact hR) ?_
  try simp only [wpK_assoc]
  first | refine wpK_onF (by simp []) ?_ | refine wpK_out (by simp []) ?_ | refine wpK_condF (by simp []) ?_ | refine wpK_endF (by simp []) (wpK_skip ?_) | refine wpK_endF (by simp []) ?_
  have hN1 := hN.ext hE1
  have hT1 := tabs_ext hT0 h00 hE1
  have h10 : 0 < W1.next := Nat.lt_of_lt_of_le h00 hE1.1
  try simp only [wpK_assoc]
  refine wpK_x2 (fun R hR => by
    simp [aEnter, fun54, short_other, aCallV]; rw [callS_none]
    refine (one_wp s (by omega) W1).mono ?_
    rintro _ W2 ⟨hW2, rfl⟩
    subst W2
    simp [aEnter, fun53, short_other, aCallV]; rw [callS_none]
    refine (lay_wp hN1 hin (by exact one_lt (by omega)) one_low.1 one_low.2 (by omega) (by omega) hT1 h10).mono ?_
    rintro _ W3 ⟨hE3, p, B, rfl, hp, hWk⟩
    simp; exact hR p B W3 (And.intro hE3 (And.intro hp hWk))) ?_
  rintro p B W3 ⟨hE3, hp, hWk⟩
  have hL := layL_ok hin (from_ := 1 <<< s) (show s < 24 by omega)
  try simp only [wpK_assoc]
  refine wpK_x3 (fun R hR => by
      simp [aEnter, fun55, short_other, aCallV]; rw [callS_none]
      refine (fill_wp hWk hL (by omega) (by omega) (by omega) (cap_rooms hL)).mono ?_
      rintro _ W4 ⟨x, rm', lv, rfl, hO4, hWk4, hF⟩
      simp []; exact hR x rm' lv W4 (And.intro hO4 (And.intro hWk4 hF))) ?_
  rintro x rm' lv W4 ⟨hO4, hWk4, hF⟩
  have hE4 : Ext W1 W4 := ⟨Nat.le_trans hE3.1 hO4.1, fun b hb hk => by rw [hO4.2 b (Nat.lt_of_lt_of_le hb hE3.1) (fun e => by omega)]; exact hE3.2 b hb hk⟩
  have htk := taken_wp hWk4 (by rw [hLl]; have : (arcsQ l).length = l.length := by simp [arcsQ]
                                omega)
  rw [hLl] at htk
  have hE04 := hE1.trans hE4
  try simp only [wpK_assoc]
  refine wpK_x0 (fun R hR => by
      simp [l1, hE04, hlen, aEnter, fun56, short_other, aCallV]; rw [callS_none]
      refine (htk).mono ?_
      rintro _ W5 ⟨hE5, rfl, hV5⟩
      simp [l1, hE04, hlen]; exact hR W5 (And.intro hE5 hV5)) ?_
  rintro W5 ⟨hE5, hV5⟩
  have n1 := hE0.1
  have n2 := hE04.1
  exact wpK_ret ⟨.inr rfl, rfl, [.int .i64 x, .slice (some ⟨W4.next, 0, none⟩) l.length (2 * l.length), .int .i64 0], by simp, (hE0.trans hE04).trans hE5, x, rm', lv, W4.next, rfl, by omega, hV5, hF⟩
theorem cut_ok {W : AW} {v : Value} {P : Int} {l : List Tri} (h : TriIn W v l) {s t : Nat} (hok : planOk P (arcsQ l) = true) (hst : two? s t P = true) (hT : tabsIn T0 T0.tabs W = true) (h0 : 0 < W.next) :
    WpF T0 20 [.agg ⟨[.int .i64 P, v]⟩, .int .i64 s, .int .i64 t] W (fun u W' => Ext W W' ∧ ∃ x rm lv sl, u = .tuple ⟨[sl, .int .i64 x, .int .i64 0]⟩ ∧ GrowsN W' sl (memb 24 (nearS lv 24)).length (intsV (memb 24 (nearS lv 24))) 3 1 (fun b => W.next ≤ b) ∧
      Filled (layL (1 <<< s) s (arcsQ l)) s t (hCap (layL (1 <<< s) s (arcsQ l))) x rm lv) := by
  refine wpF fun20 rfl ?_
  have hN := netPlan (netIn (P := P) h)
  have hE0 : Ext W (W.newCells 31 [.int .i64 P, v]) := .newCells _ _ _
  have hT0 := tabs_ext hT h0 hE0
  have h00 : 0 < (W.newCells 31 [.int .i64 P, v]).next := by rw [newCells_next]; omega
  generalize hW0 : W.newCells 31 [.int .i64 P, v] = W0 at hN hE0 hT0 h00
  have hin := arcsQ_in hok
  have hee : chkE P (arcsQ l) s t = 0 := by simp only [chkE, hok, endE, hst, if_true]
  have hc := checkEnds_wp hN s t
  rw [hee] at hc
  try simp only [wpK_assoc]
  refine wpK_reg (fun R hR => by simp [hW0]; exact hR) ?_
  try simp only [wpK_assoc]
  refine wpK_x0 (fun R hR => by
      simp [aEnter, fun52, short_other, aCallV]; rw [callS_none]
      refine (hc).mono ?_
      rintro _ W1 ⟨hE1, rfl⟩
      simp []; exact hR W1 hE1) ?_
  rintro W1 hE1
  try simp only [wpK_assoc]
  refine wpK_reg (fun R hR => by simp []; exact hR) ?_
  try simp only [wpK_assoc]
  first | refine wpK_onF (by simp []) ?_ | refine wpK_out (by simp []) ?_ | refine wpK_condF (by simp []) ?_ | refine wpK_endF (by simp []) (wpK_skip ?_) | refine wpK_endF (by simp []) ?_
  have hT1 := tabs_ext hT0 h00 hE1
  have h10 : 0 < W1.next := Nat.lt_of_lt_of_le h00 hE1.1
  try simp only [wpK_assoc]
  refine wpK_x3 (fun R hR => by
      simp [aEnter, fun57, short_other, aCallV]; rw [callS_none]
      refine (firstCut_wp (hN.ext hE1) hin hst hT1 h10).mono ?_
      rintro _ W2 ⟨hE2, x, rm, lv, rfl, hF⟩
      simp []; exact hR x rm lv W2 (And.intro hE2 hF)) ?_
  rintro x rm lv W2 ⟨hE2, hF⟩
  have hT2 := tabs_ext hT1 h10 hE2
  have h20 : 0 < W2.next := Nat.lt_of_lt_of_le h10 hE2.1
  try simp only [wpK_assoc]
  refine wpK_x1 (fun R hR => by
      simp [aEnter, fun58, short_other, aCallV]; rw [callS_none]
      refine (list_wp (nearS_lt lv 24) hT2 h20).mono ?_
      rintro sl W3 ⟨hE3, hG3⟩
      simp []; exact hR sl W3 (And.intro hE3 hG3)) ?_
  rintro sl W3 ⟨hE3, hG3⟩
  have n1 := hE0.1
  have n2 := hE1.1
  have n3 := hE2.1
  exact wpK_ret ⟨.inr rfl, rfl, [sl, .int .i64 x, .int .i64 0], by simp, ((hE0.trans hE1).trans hE2).trans hE3, x, rm, lv, sl, rfl, hG3.mono (fun b hb => by omega), hF⟩
theorem ends_wp {W : AW} (P : Nat) (a b : Int) (hP : 2 ≤ P) (hP24 : P ≤ 24) : WpF T0 31 [.int .i64 P, .agg ⟨[.int .i64 a, .int .i64 b]⟩] W (fun u W' => Ext W W' ∧ ∃ s t : Nat, u = .tuple ⟨[.int .i64 s, .int .i64 t]⟩ ∧ two? s t P = true ∧ s < P ∧ t < P ∧ s ≠ t) := by
  refine wpF fun31 rfl ?_
  have hV := Var.new W 28 [.int .i64 a, .int .i64 b]
  have hE : Ext W (W.newCells 28 [.int .i64 a, .int .i64 b]) := .newCells _ _ _
  generalize hW1 : W.newCells 28 [.int .i64 a, .int .i64 b] = W1 at hV hE
  have l0 := hV.load1 (T := T0) und3 rfl (j := 0) (v := .int .i64 a) rfl
  have l1 := hV.load1 (T := T0) und3 rfl (j := 1) (v := .int .i64 b) rfl
  have hwP : IntKind.u64.wrap (P : Int) = P := IntWalk.u64_in _ (by omega)
  obtain ⟨s, hs1, hs2⟩ := u64_mod a P (by omega)
  obtain ⟨t, ht1, ht2⟩ := u64_mod b P (by omega)
  have r1 := aBinI_rem .u64 (IntKind.u64.wrap a) (P : Int) (by omega)
  rw [hs1] at r1
  have r2 := aBinI_rem .u64 (IntKind.u64.wrap b) (P : Int) (by omega)
  rw [ht1] at r2
  have ws : IntKind.i64.wrap (s : Int) = s := IntWalk.i64_in _ (by omega)
  have wt : IntKind.i64.wrap (t : Int) = t := IntWalk.i64_in _ (by omega)
  have i0 := ix28_0 W.next 0
  have i1 := ix28_1 W.next 0
  try simp only [wpK_assoc]
  refine wpK_reg (fun R hR => by simp [hW1]; exact hR) ?_
  try simp only [wpK_assoc]
  refine wpK_reg (fun R hR => by simp [i0, l0, conv_3_82, conv_82_3, hwP, r1, ws]; exact hR) ?_
  try simp only [wpK_assoc]
  refine wpK_reg (fun R hR => by simp [i1, l1, conv_3_82, conv_82_3, hwP, r2, wt]; exact hR) ?_
  by_cases he : s = t
  · subst he
    have r3 := aBinI_rem .i64 ((s : Int) + 1) (P : Int) (by omega)
    have w3 : IntKind.i64.wrap ((s : Int) + 1) = (s : Int) + 1 := IntWalk.i64_in _ (by omega)
    obtain ⟨y, hy, hyP, hys⟩ : ∃ y : Nat, ((s : Int) + 1).tmod P = y ∧ y < P ∧ s ≠ y := by
      refine ⟨(s + 1) % P, by rw [show ((s : Int) + 1) = ((s + 1 : Nat) : Int) from rfl, ← Int.ofNat_tmod], Nat.mod_lt _ (by omega), ?_⟩
      by_cases e : s + 1 = P
      · rw [e, Nat.mod_self]; omega
      · rw [Nat.mod_eq_of_lt (by omega)]; omega
    rw [hy] at r3
    try simp only [wpK_assoc]
    refine wpK_reg (fun R hR => by simp []; exact hR) ?_
    try simp only [wpK_assoc]
    first | refine wpK_onT (by simp []) ?_ | refine wpK_outT (by simp []) ?_ | refine wpK_condT (by simp []) ?_ | refine wpK_endT (by simp []) ?_
    try simp only [wpK_assoc]
    refine wpK_reg1 (fun R hR => by simp [w3, r3]; exact hR) ?_
    simp only [behind_normal]
    try simp only [wpK_assoc]
    refine wpK_reg (fun R hR => by simp []; exact hR) ?_
    exact wpK_ret ⟨.inr rfl, rfl, [.int .i64 s, .int .i64 y], by simp, hE, s, y, rfl, by simp [two?]; omega, hs2, hyP, hys⟩
  · have he' : ¬ (s : Int) = t := by omega
    try simp only [wpK_assoc]
    refine wpK_reg (fun R hR => by simp [he', he]; exact hR) ?_
    try simp only [wpK_assoc]
    first | refine wpK_onF (by simp []) ?_ | refine wpK_out (by simp []) ?_ | refine wpK_condF (by simp []) ?_ | refine wpK_endF (by simp []) (wpK_skip ?_) | refine wpK_endF (by simp []) ?_
    try simp only [wpK_assoc]
    refine wpK_reg (fun R hR => by simp []; exact hR) ?_
    exact wpK_ret ⟨.inr rfl, rfl, [.int .i64 s, .int .i64 t], by simp, hE, s, t, rfl, by simp [two?]; omega, hs2, ht2, he⟩
end Go.Proofs.YtkgfjfkgmpeobaaDoor

open Go Go.Eng
namespace Go.Proofs.YtkgfjfkgmpeobaaDoor
attribute [local congr] undef_congr WpK.congr WpS.congr WpL.congr WpC.congr WpF.congr gotS.congr callS.congr nextS.congr wantS.congr condS.congr
attribute [local irreducible] WpK
attribute [local simp] WpDr_nil WpDr_cons atS_some dwantS_true dwantS_false kindS_light kindS_float kindS_heavy lightS_value floatS_some heavyS_value heavyS_skip heavyS_enter dcallS_some doneS_eq
  isLight isFloat isPlain dLook testBit_dec dChain dLights_nil dLights_skip dLights_one dLight_nil dLight_cons dFreshes_nil dFreshes_one oneF_none oneF_some dFresh_nil dFresh_cons oneL_some oneW_true oneW_false sameV_value dPut dMay valEq arrEq listEq List.getElem?_cons Tr.get_nil dEnd
attribute [local simp] WpS_nil WpS_cons isDefer undef_false wantS_true wantS_false nextS_value nextS_skip nextS_enter callS_some gotS_some aWanted aOp aEvalF aEval opMove opAssign opPick aVal flat flat1 AAct.put opBinOp opConvert opIndex Tr.get_set Tr.get_lay aBin aResults tupled
  aCall aVals aCallB blt_dec ble_dec beq_dec aBinI_add aBinI_sub aBinI_lss aBinI_leq aBinI_gtr aBinI_geq aBinI_eql aBinI_neq index_str len_str len_slice Nat.beq_refl und2 und3 und4 und5 und39 und76 und82 und115 und22 und29 und25 und33 und46 und43 und49 und111 und113 field151 field155_0 field155_1 field155_2 field155_3 field155_4
  field78 field106 field24 field31 field27 field35 field108 field109 opBox opLoad opFieldAddr opIndexAddr acells aAddr opExtract aExtract opUnOp opAlloc opStore opMakeInterface opNilCheck opBuild aParts opBuildSlice aValW
set_option maxHeartbeats 4000000
set_option linter.unusedSimpArgs false
set_option linter.unusedVariables false
theorem memb_more {S P : Nat} (h : ∀ j, P ≤ j → S.testBit j = false) : ∀ n, P ≤ n → memb n S = memb P S := by
  intro n hn
  induction n with
  | zero => obtain rfl : P = 0 := by omega
            rfl
  | succ n ih =>
    by_cases e : P = n + 1
    · subst e; rfl
    · rw [memb_succ, h n (by omega), ih (by omega)]; simp
theorem near_in {P : Nat} {l : List Quad} {s t : Nat} {x : Int} {rm : Nat → Int} {lv : Nat → Nat} (hin : PlanIn P l) (hs : s < P) (F : Filled (layL (1 <<< s) s l) s t (hCap (layL (1 <<< s) s l)) x rm lv) :
    (∀ j, P ≤ j → (nearS lv 24).testBit j = false) ∧ nearS lv 24 < 2 ^ P := by
  have key : ∀ j, P ≤ j → (nearS lv 24).testBit j = false := by
    intro j hj
    rw [nearS_bit]
    by_cases h24 : j < 24
    · by_cases h0 : 0 < lv j
      · exfalso
        rcases F.lev.pre j h24 h0 with rfl | ⟨y, hy, hto, _, _, _⟩
        · omega
        · rw [layL_len] at hy
          have ha : l[y / 2]? = some (l[y / 2]'(by omega)) := List.getElem?_eq_getElem (by omega)
          have hm : l[y / 2]'(by omega) ∈ l := List.getElem_mem _
          generalize l[y / 2]'_ = a at ha hm
          have := hin.step hm
          unfold hTo at hto
          rw [stp_lay ha] at hto
          simp only [atP_one] at hto
          split at hto <;> omega
      · simp [h0]
    · simp [h24]
  exact ⟨key, Nat.lt_pow_two_of_testBit _ (fun i hi => key i hi)⟩
theorem filled_capQ {P : Int} {l : List Quad} {s t : Nat} {x : Int} {rm : Nat → Int} {lv : Nat → Nat} (hin : PlanIn P l) (hs : s < 24) (ht : t < 24) (F : Filled (layL (1 <<< s) s l) s t (hCap (layL (1 <<< s) s l)) x rm lv) :
    (∀ T, T.testBit s = true → T.testBit t = false → x ≤ capQ T l ∧ (x = capQ T l → ∀ q, q < 24 → 0 < lv q → T.testBit q = true)) ∧ x = capQ (nearS lv 24) l ∧ (nearS lv 24).testBit s = true ∧ (nearS lv 24).testBit t = false := by
  have hL := layL_ok hin (from_ := 1 <<< s) (show s < 24 by omega)
  have hc := F.cuts hL hs ht (cap_rooms hL)
  have e : ∀ T, capL T (layL (1 <<< s) s l) (hCap (layL (1 <<< s) s l)) (layL (1 <<< s) s l).length = capQ T l := fun T => by
    rw [layL_len, capL_Q T s l l.length (Nat.le_refl _), List.take_length]
  simp only [e] at hc
  exact hc
end Go.Proofs.YtkgfjfkgmpeobaaDoor

open Go Go.Eng
namespace Go.Proofs.YtkgfjfkgmpeobaaDoor
attribute [local congr] undef_congr WpK.congr WpS.congr WpL.congr WpC.congr WpF.congr gotS.congr callS.congr nextS.congr wantS.congr condS.congr
attribute [local irreducible] WpK
attribute [local simp] WpDr_nil WpDr_cons atS_some dwantS_true dwantS_false kindS_light kindS_float kindS_heavy lightS_value floatS_some heavyS_value heavyS_skip heavyS_enter dcallS_some doneS_eq
  isLight isFloat isPlain dLook testBit_dec dChain dLights_nil dLights_skip dLights_one dLight_nil dLight_cons dFreshes_nil dFreshes_one oneF_none oneF_some dFresh_nil dFresh_cons oneL_some oneW_true oneW_false sameV_value dPut dMay valEq arrEq listEq List.getElem?_cons Tr.get_nil dEnd
attribute [local simp] WpS_nil WpS_cons isDefer undef_false wantS_true wantS_false nextS_value nextS_skip nextS_enter callS_some gotS_some aWanted aOp aEvalF aEval opMove opAssign opPick aVal flat flat1 AAct.put opBinOp opConvert opIndex Tr.get_set Tr.get_lay aBin aResults tupled
  aCall aVals aCallB blt_dec ble_dec beq_dec aBinI_add aBinI_sub aBinI_lss aBinI_leq aBinI_gtr aBinI_geq aBinI_eql aBinI_neq index_str len_str len_slice Nat.beq_refl und2 und3 und4 und5 und39 und76 und82 und115 und22 und29 und25 und33 und46 und43 und49 und111 und113 field151 field155_0 field155_1 field155_2 field155_3 field155_4
  field78 field106 field24 field31 field27 field35 field108 field109 opBox opLoad opFieldAddr opIndexAddr acells aAddr opExtract aExtract opUnOp opAlloc opStore opMakeInterface opNilCheck opBuild aParts opBuildSlice aValW
set_option maxHeartbeats 4000000
set_option linter.unusedSimpArgs false
set_option linter.unusedVariables false
theorem caps_bound {P : Int} {l : List Tri} {fl : List Int} (hok : planOk P (arcsQ l) = true) (hc : capsOk (l.zip fl)) : ∀ q ∈ l.zip fl, 0 ≤ q.2 ∧ q.2 ≤ 1000000000 := fun q hq => by
  have h1 := hc q hq
  have hm := (List.of_mem_zip hq).1
  have := (arcsQ_in hok).step (a := (q.1.1, q.1.2.1, q.1.2.2, 0)) (by simp only [arcsQ, List.mem_map]; exact ⟨q.1, hm, rfl⟩)
  simp only at this
  omega
theorem value_wp {W : AW} {v fv : Value} {P : Int} {l : List Tri} {fl : List Int} (h : TriIn W v l) (hF : IntL W fv fl) (hlen : fl.length = l.length) (h200 : l.length ≤ 200) (hb : ∀ q ∈ l.zip fl, 0 ≤ q.2 ∧ q.2 ≤ 1000000000) (p : Nat) :
    WpF T0 71 [.agg ⟨[.int .i64 P, v]⟩, fv, .int .i64 p] W (fun u W' => Ext W W' ∧ u = .int .i64 (netZ (l.zip fl) p)) := by
  obtain ⟨Av, cv, rfl, hA⟩ := h
  obtain ⟨Af, cf, rfl, hB⟩ := hF
  refine wpF fun71 rfl ?_
  obtain ⟨W0, hW0, hE0, hV0⟩ : ∃ W0, W0 = W.newCells 24 [.int .i64 P, .slice Av l.length cv] ∧ Ext W W0 ∧ Var W0 W.next 24 [.int .i64 P, .slice Av l.length cv] := ⟨_, rfl, .newCells _ _ _, Var.new _ _ _⟩
  have l1 := hV0.load1 (T := T0) und22 rfl (j := 1) (v := .slice Av l.length cv) rfl
  have hzl : (l.zip fl).length = l.length := by rw [List.length_zip]; omega
  try simp only [wpK_assoc]
  refine wpK_reg (fun R hR => by simp [← hW0]; exact hR) ?_
  try simp only [wpK_assoc]
  refine wpK_reg (fun R hR => by simp []; exact hR) ?_
  try simp only [wpK_assoc]
  refine wpK_reg (fun R hR => by simp []; exact hR) ?_
  try simp only [wpK_assoc]
  refine wpK_while (I := fun k A W' => A.n = 45 ∧ A.defers = [] ∧ A.tmps.get 1 = some (.slice Af fl.length cf) ∧ A.tmps.get 2 = some (.int .i64 p) ∧ A.tmps.get 3 = some (.pointer (some ⟨W.next, 0, none⟩)) ∧ W' = W0 ∧ ∃ i : Nat, k = l.length - i ∧ i ≤ l.length ∧ A.tmps.get 8 = some (.int .i64 i) ∧ A.tmps.get 7 = some (.int .i64 (netZ ((l.zip fl).take i) p)))
    (J := fun A W' => A.n = 45 ∧ A.defers = [] ∧ W' = W0 ∧ A.tmps.get 7 = some (.int .i64 (netZ (l.zip fl) p)))
    (Rt := fun _ _ => False) (k := l.length) ?_ ?_ ?_ ?_
  · exact ⟨rfl, rfl, by simp, by simp, by simp, rfl, 0, by simp, by omega, by simp, by simp [netZ]⟩
  · rintro k ⟨tm, n, ds⟩ W3 ⟨hn, hd, h1, h2, h3, rfl, i, hk, hi, h8, h7⟩ Q' hJ hRt hI
    simp only at hn hd h1 h2 h3
    subst hn; subst hd
    simp only at h7 h8
    try simp only [wpK_assoc]
    refine wpK_reg (fun R hR => by simp [h3, h8, l1, len_slice und22]; exact hR) ?_
    by_cases hlt : i < l.length
    · try simp only [wpK_assoc]
      first | refine wpK_onT (by simp [hlt]) ?_ | refine wpK_outT (by simp [hlt]) ?_ | refine wpK_condT (by simp [hlt]) ?_ | refine wpK_endT (by simp [hlt]) ?_
      have ha : l[i]? = some l[i] := List.getElem?_eq_getElem hlt
      have hx : fl[i]? = some (fl[i]'(by omega)) := List.getElem?_eq_getElem (by omega)
      generalize l[i] = a at ha
      generalize fl[i]'_ = x at hx
      have hzs := zip_snoc ha hx
      obtain ⟨b, o, rfl, q1, q2, q3⟩ := hA i _ ha
      obtain ⟨b', o', rfl, q4⟩ := hB i _ hx
      have eF := indexAddr_slice (T := T0) und43 sz2 (b := b') (o := o') (c := cf) (k := .i64) (show i < fl.length by omega)
      rw [Nat.mul_one] at eF
      have eV := indexAddr_tri (T := T0) und22 sz78 (b := b) (o := o) (c := cv) (k := .i64) hlt
      have lF := load_of und2 rfl (q4.ext hE0)
      have la1 := load_of und3 rfl (q1.ext hE0)
      have la2 := load_of und3 rfl (q2.ext hE0)
      have hbt : ∀ q ∈ (l.zip fl).take i, 0 ≤ q.2 ∧ q.2 ≤ 1000000000 := fun q hq => hb q (List.mem_of_mem_take hq)
      have hzb := netZ_le ((l.zip fl).take i) p hbt
      have hzt : ((l.zip fl).take i).length = i := by rw [List.length_take, hzl]; omega
      rw [hzt] at hzb
      have hxb := hb (a, x) (List.mem_of_getElem? (i := i) (by rw [List.getElem?_zip_eq_some]; exact ⟨ha, hx⟩))
      simp only at hxb
      have hsum : netZ ((l.zip fl).take (i + 1)) p = netZ ((l.zip fl).take i) p + net1 p (a, x) := by rw [hzs, netZ_snoc]
      generalize netZ ((l.zip fl).take i) p = z at h7 hzb hsum
      refine wpK_block ?_
      have w1 : IntKind.i64.wrap (z + x) = z + x := IntWalk.i64_in _ (by omega)
      have w2 : IntKind.i64.wrap (z - x) = z - x := IntWalk.i64_in _ (by omega)
      have w3 : IntKind.i64.wrap z = z := IntWalk.i64_in _ (by omega)
      have fin : ∀ tm' : Tr Value, tm'.get 1 = some (.slice (some ⟨b', o', none⟩) fl.length cf) → tm'.get 2 = some (.int .i64 p) → tm'.get 3 = some (.pointer (some ⟨W.next, 0, none⟩)) → tm'.get 8 = some (.int .i64 ((i + 1 : Nat) : Int)) → tm'.get 7 = some (.int .i64 (z + net1 p (a, x))) → Q' .normal ⟨tm', 45, []⟩ W3 := fun tm' g1 g2 g3 g8 g7 =>
        hI (k - 1) _ _ (by omega) ⟨rfl, rfl, g1, g2, g3, rfl, i + 1, by omega, by omega, g8, by rw [g7, hsum]⟩
      have hsi : IntKind.i64.wrap ((i : Int) + 1) = ((i + 1 : Nat) : Int) := i64_succ i (by omega)
      by_cases c1 : a.1 = p
      · by_cases c2 : a.2.1 = p
        · try simp only [wpK_assoc]
          refine wpK_reg (fun R hR => by simp [h2, h3, h8, l1, eV, la1, c1]; exact hR) ?_
          try simp only [wpK_assoc]
          first | refine wpK_onT (by simp []) ?_ | refine wpK_outT (by simp []) ?_ | refine wpK_condT (by simp []) ?_ | refine wpK_endT (by simp []) ?_
          try simp only [wpK_assoc]
          refine wpK_reg1 (fun R hR => by simp [h1, h7, h8, eF, lF, w1]; exact hR) ?_
          simp only [behind_normal]
          try simp only [wpK_assoc]
          refine wpK_reg (fun R hR => by simp [h2, h3, h8, l1, eV, la2, c2]; exact hR) ?_
          try simp only [wpK_assoc]
          first | refine wpK_onT (by simp []) ?_ | refine wpK_outT (by simp []) ?_ | refine wpK_condT (by simp []) ?_ | refine wpK_endT (by simp []) ?_
          try simp only [wpK_assoc]
          refine wpK_reg1 (fun R hR => by simp [h1, h8, eF, lF, w3]; exact hR) ?_
          try simp only [wpK_assoc]
          refine wpK_reg1 (fun R hR => by simp [h8, hsi]; exact hR) ?_
          exact fin _ (by simp [h1]) (by simp [h2]) (by simp [h3]) (by simp) (by simp [net1, c1, c2])
        · try simp only [wpK_assoc]
          refine wpK_reg (fun R hR => by simp [h2, h3, h8, l1, eV, la1, c1]; exact hR) ?_
          try simp only [wpK_assoc]
          first | refine wpK_onT (by simp []) ?_ | refine wpK_outT (by simp []) ?_ | refine wpK_condT (by simp []) ?_ | refine wpK_endT (by simp []) ?_
          try simp only [wpK_assoc]
          refine wpK_reg1 (fun R hR => by simp [h1, h7, h8, eF, lF, w1]; exact hR) ?_
          simp only [behind_normal]
          try simp only [wpK_assoc]
          refine wpK_reg (fun R hR => by simp [h2, h3, h8, l1, eV, la2, c2]; exact hR) ?_
          try simp only [wpK_assoc]
          first | refine wpK_onF (by simp []) ?_ | refine wpK_out (by simp []) ?_ | refine wpK_condF (by simp []) ?_ | refine wpK_endF (by simp []) (wpK_skip ?_) | refine wpK_endF (by simp []) ?_
          try simp only [wpK_assoc]
          refine wpK_reg1 (fun R hR => by simp [h8, hsi]; exact hR) ?_
          exact fin _ (by simp [h1]) (by simp [h2]) (by simp [h3]) (by simp) (by simp [net1, c1, c2])
      · by_cases c2 : a.2.1 = p
        · try simp only [wpK_assoc]
          refine wpK_reg (fun R hR => by simp [h2, h3, h8, l1, eV, la1, c1]; exact hR) ?_
          try simp only [wpK_assoc]
          first | refine wpK_onF (by simp []) ?_ | refine wpK_out (by simp []) ?_ | refine wpK_condF (by simp []) ?_ | refine wpK_endF (by simp []) (wpK_skip ?_) | refine wpK_endF (by simp []) ?_
          try simp only [wpK_assoc]
          refine wpK_reg (fun R hR => by simp [h2, h3, h8, l1, eV, la2, c2]; exact hR) ?_
          try simp only [wpK_assoc]
          first | refine wpK_onT (by simp []) ?_ | refine wpK_outT (by simp []) ?_ | refine wpK_condT (by simp []) ?_ | refine wpK_endT (by simp []) ?_
          try simp only [wpK_assoc]
          refine wpK_reg1 (fun R hR => by simp [h1, h7, h8, eF, lF, w2]; exact hR) ?_
          try simp only [wpK_assoc]
          refine wpK_reg1 (fun R hR => by simp [h8, hsi]; exact hR) ?_
          exact fin _ (by simp [h1]) (by simp [h2]) (by simp [h3]) (by simp) (by simp [net1, c1, c2]; rfl)
        · try simp only [wpK_assoc]
          refine wpK_reg (fun R hR => by simp [h2, h3, h8, l1, eV, la1, c1]; exact hR) ?_
          try simp only [wpK_assoc]
          first | refine wpK_onF (by simp []) ?_ | refine wpK_out (by simp []) ?_ | refine wpK_condF (by simp []) ?_ | refine wpK_endF (by simp []) (wpK_skip ?_) | refine wpK_endF (by simp []) ?_
          try simp only [wpK_assoc]
          refine wpK_reg (fun R hR => by simp [h2, h3, h8, l1, eV, la2, c2]; exact hR) ?_
          try simp only [wpK_assoc]
          first | refine wpK_onF (by simp []) ?_ | refine wpK_out (by simp []) ?_ | refine wpK_condF (by simp []) ?_ | refine wpK_endF (by simp []) (wpK_skip ?_) | refine wpK_endF (by simp []) ?_
          try simp only [wpK_assoc]
          refine wpK_reg1 (fun R hR => by simp [h8, hsi]; exact hR) ?_
          exact fin _ (by simp [h1]) (by simp [h2]) (by simp [h3]) (by simp) (by simp [net1, c1, c2, h7])
    · have e : i = l.length := by omega
      rw [e, ← hzl, List.take_length] at h7
      try simp only [wpK_assoc]
      first | refine wpK_onF (by simp [hlt]) ?_ | refine wpK_out (by simp [hlt]) ?_ | refine wpK_condF (by simp [hlt]) ?_ | refine wpK_endF (by simp [hlt]) (wpK_skip ?_) | refine wpK_endF (by simp [hlt]) ?_
      exact hJ _ _ ⟨rfl, rfl, rfl, by simp [h7]⟩
  · rintro A' W' hf; exact hf.elim
  · rintro ⟨tm, n, ds⟩ W' ⟨hn, hd, rfl, h7⟩
    simp only at hn hd h7
    subst hn; subst hd
    try simp only [wpK_assoc]
    refine wpK_reg (fun R hR => by simp [h7]; exact hR) ?_
    exact wpK_ret ⟨.inr rfl, rfl, [.int .i64 (netZ (l.zip fl) p)], by simp, hE0, rfl⟩
theorem refIsFlow_wp {W : AW} {v fv : Value} {P s t : Nat} {l : List Tri} {fl : List Int} (h : TriIn W v l) (hF : IntL W fv fl) (hok : planOk P (arcsQ l) = true) (hst : two? s t P = true) (hfl : fl.length < 4611686018427387904) :
    WpF T0 33 [.agg ⟨[.int .i64 P, v]⟩, .int .i64 s, .int .i64 t, fv] W (fun u W' => Ext W W' ∧ ((isFl P s t l fl ∧ u = .tuple ⟨[.int .i64 (netZ (l.zip fl) s), .bool true]⟩) ∨ (¬ isFl P s t l fl ∧ u = .tuple ⟨[.int .i64 0, .bool false]⟩))) := by
  obtain ⟨hP2, hP24, h200⟩ := (arcsQ_in hok).size
  have hql : (arcsQ l).length = l.length := by simp [arcsQ]
  rw [hql] at h200
  have h' := h
  have hF' := hF
  obtain ⟨Av, cv, rfl, hA⟩ := h
  obtain ⟨Af, cf, rfl, hB⟩ := hF
  have hst' := hst
  simp only [two?, Bool.and_eq_true, decide_eq_true_eq] at hst'
  refine wpF fun33 rfl ?_
  obtain ⟨W0, hW0, hE0, hV0⟩ : ∃ W0, W0 = W.newCells 24 [.int .i64 P, .slice Av l.length cv] ∧ Ext W W0 ∧ Var W0 W.next 24 [.int .i64 P, .slice Av l.length cv] := ⟨_, rfl, .newCells _ _ _, Var.new _ _ _⟩
  have l0 : ∀ W', Ext W0 W' → aLoadVar T0 W' 3 W.next 0 = some (.int .i64 P) := fun W' h => (hV0.ext h).load1 (T := T0) und3 rfl (j := 0) (v := .int .i64 P) rfl
  have l1 : ∀ W', Ext W0 W' → aLoadVar T0 W' 22 W.next 1 = some (.slice Av l.length cv) := fun W' h => (hV0.ext h).load1 (T := T0) und22 rfl (j := 1) (v := .slice Av l.length cv) rfl
  have l24 : ∀ W', Ext W0 W' → aLoadVar T0 W' 24 W.next 0 = some (.agg ⟨[.int .i64 P, .slice Av l.length cv]⟩) := fun W' h => load24 (hV0.ext h)
  have e00 : Ext W0 W0 := .refl _ _
  have hck := refCheck_wp (P : Int) (h'.ext hE0)
  rw [chk, hok] at hck
  have hen : endE P s t = 0 := by simp only [endE, hst, if_true]
  try simp only [wpK_assoc]
  refine wpK_reg (fun R hR => by simp [← hW0]; exact hR) ?_
  have first : ∀ (b : Bool), (b = true ↔ fl.length = l.length) → True := fun _ _ => trivial
  clear first
  have hstep : ∀ W1 : AW, Ext W0 W1 → WpF T0 18 [.int .i64 P, .int .i64 s, .int .i64 t] W1 (fun v W' => W' = W1 ∧ v = .int .i64 0) := fun W1 _ => by
    have := refEnds_wp (P : Int) (s : Int) (t : Int) W1
    rw [hen] at this; exact this
  by_cases hlen : fl.length = l.length
  case neg =>
    have hlen' : ¬ (fl.length : Int) = (l.length : Int) := by omega
    try simp only [wpK_assoc]
    refine wpK_x0 (fun R hR => by
      simp [l24, e00, aEnter, fun14, short_other, aCallV]; rw [callS_none]
      refine hck.mono ?_
      rintro _ W1 ⟨e1, rfl⟩
      simp [l0, e1, aEnter, fun18, short_other, aCallV]; rw [callS_none]
      refine (hstep W1 e1).mono ?_
      rintro _ W9 ⟨e9, rfl⟩; subst W9
      simp [l1, e1, len_slice und43, len_slice und22, hlen']; exact hR W1 e1) ?_
    rintro W1 e1
    try simp only [wpK_assoc]
    first | refine wpK_onT (by simp []) ?_ | refine wpK_outT (by simp []) ?_ | refine wpK_condT (by simp []) ?_ | refine wpK_endT (by simp []) ?_
    try simp only [wpK_assoc]
    refine wpK_reg (fun R hR => by simp []; exact hR) ?_
    exact wpK_ret ⟨.inr rfl, rfl, [.int .i64 0, .bool false], by simp, hE0.trans e1, .inr ⟨fun hf => hlen hf.1, rfl⟩⟩
  rw [hlen]
  rw [hlen] at hF'
  try simp only [wpK_assoc]
  refine wpK_x0 (fun R hR => by
    simp [l24, e00, aEnter, fun14, short_other, aCallV]; rw [callS_none]
    refine hck.mono ?_
    rintro _ W1 ⟨e1, rfl⟩
    simp [l0, e1, aEnter, fun18, short_other, aCallV]; rw [callS_none]
    refine (hstep W1 e1).mono ?_
    rintro _ W9 ⟨e9, rfl⟩; subst W9
    simp [l1, e1, len_slice und43, len_slice und22]; exact hR W1 e1) ?_
  rintro W1 e1
  try simp only [wpK_assoc]
  first | refine wpK_onF (by simp []) ?_ | refine wpK_out (by simp []) ?_ | refine wpK_condF (by simp []) ?_ | refine wpK_endF (by simp []) (wpK_skip ?_) | refine wpK_endF (by simp []) ?_
  try simp only [wpK_assoc]
  refine wpK_reg (fun R hR => by simp []; exact hR) ?_
  have hzl : (l.zip fl).length = l.length := by rw [List.length_zip]; omega
  try simp only [wpK_assoc]
  refine wpK_while (I := fun k A W' => A.n = 80 ∧ A.defers = [] ∧ A.tmps.get 1 = some (.int .i64 s) ∧ A.tmps.get 2 = some (.int .i64 t) ∧ A.tmps.get 3 = some (.slice Af l.length cf) ∧ A.tmps.get 4 = some (.pointer (some ⟨W.next, 0, none⟩)) ∧ W' = W1 ∧ ∃ i : Nat, k = l.length - i ∧ i ≤ l.length ∧ A.tmps.get 10 = some (.int .i64 i) ∧ capsOk ((l.zip fl).take i))
    (J := fun A W' => A.n = 80 ∧ A.defers = [] ∧ A.tmps.get 1 = some (.int .i64 s) ∧ A.tmps.get 2 = some (.int .i64 t) ∧ A.tmps.get 3 = some (.slice Af l.length cf) ∧ A.tmps.get 4 = some (.pointer (some ⟨W.next, 0, none⟩)) ∧ W' = W1 ∧ capsOk (l.zip fl))
    (Rt := fun A W' => A.defers = [] ∧ A.tmps.get 8 = some (.int .i64 0) ∧ A.tmps.get 9 = some (.bool false) ∧ W' = W1 ∧ ¬ capsOk (l.zip fl)) (k := l.length) ?_ ?_ ?_ ?_
  · exact ⟨rfl, rfl, by simp, by simp, by simp, by simp, rfl, 0, by simp, by omega, by simp, fun q hq => by simp at hq⟩
  · rintro k ⟨tm, n, ds⟩ W3 ⟨hn, hd, h1, h2, h3, h4, rfl, i, hk, hi, h10, hcaps⟩ Q' hJ hRt hI
    simp only at hn hd h1 h2 h3 h4
    subst hn; subst hd
    simp only at h10
    try simp only [wpK_assoc]
    refine wpK_reg (fun R hR => by simp [h3, h10, len_slice und43]; exact hR) ?_
    by_cases hlt : i < l.length
    · try simp only [wpK_assoc]
      first | refine wpK_onT (by simp [hlt]) ?_ | refine wpK_outT (by simp [hlt]) ?_ | refine wpK_condT (by simp [hlt]) ?_ | refine wpK_endT (by simp [hlt]) ?_
      have ha : l[i]? = some l[i] := List.getElem?_eq_getElem hlt
      have hx : fl[i]? = some (fl[i]'(by omega)) := List.getElem?_eq_getElem (by omega)
      generalize l[i] = a at ha
      generalize fl[i]'_ = x at hx
      have hzs := zip_snoc ha hx
      obtain ⟨b, o, rfl, q1, q2, q3⟩ := hA i _ ha
      obtain ⟨b', o', rfl, q4⟩ := hB i _ hx
      have eF := indexAddr_slice (T := T0) und43 sz2 (b := b') (o := o') (c := cf) (k := .i64) hlt
      rw [Nat.mul_one] at eF
      have eV := indexAddr_tri (T := T0) und22 sz78 (b := b) (o := o) (c := cv) (k := .i64) hlt
      have lF := load_of und2 rfl (q4.ext (hE0.trans e1))
      have la3 := load_of und2 rfl (q3.ext (hE0.trans e1))
      have bad : ¬ (0 ≤ x ∧ x ≤ a.2.2) → ¬ capsOk (l.zip fl) := fun hb hc => hb (hc (a, x) (List.mem_of_getElem? (i := i) (by rw [List.getElem?_zip_eq_some]; exact ⟨ha, hx⟩)))
      have hsi : IntKind.i64.wrap ((i : Int) + 1) = ((i + 1 : Nat) : Int) := i64_succ i (by omega)
      refine wpK_block ?_
      by_cases g1 : x < 0
      · try simp only [wpK_assoc]
        refine wpK_dn (wr := Tr.nil |>.set 37 0 |>.set 38 1 |>.set 39 2 |>.set 40 3 |>.set 41 4 |>.set 42 5 |>.set 43 6 |>.set 44 7 |>.set 45 8 |>.set 46 9 |>.set 47 10 |>.set 48 11 |>.set 49 12 |>.set 50 13 |>.set 51 14 |>.set 52 15 |>.set 53 16 |>.set 54 17) (bits := Tr.nil.lay 0 [0, 0, 3, 7, 15, 31, 63, 63, 255, 511, 63, 1087, 63, 7231, 15423, 31807, 65535, 131071]) (ord := [0, 1, 2, 3, 4, 5, 6, 7, 8, 9, 10, 11, 12, 13, 14, 15, 16, 17]) (by kernel_rfl) (by kernel_rfl) (by kernel_rfl) (fun G hG => by
          simp [h3, h4, h10, eF, lF, eV, la3, l1, e1, g1, undef]
          exact hG) ?_
        try simp only [wpK_assoc]
        first | refine wpK_onT (by simp []) ?_ | refine wpK_outT (by simp []) ?_ | refine wpK_condT (by simp []) ?_ | refine wpK_endT (by simp []) ?_
        try simp only [wpK_assoc]
        refine wpK_reg (fun R hR => by simp []; exact hR) ?_
        exact wpK_ret (hRt _ _ ⟨rfl, by simp, by simp, rfl, bad (by omega)⟩)
      by_cases g2 : a.2.2 < x
      · try simp only [wpK_assoc]
        refine wpK_dn (wr := Tr.nil |>.set 37 0 |>.set 38 1 |>.set 39 2 |>.set 40 3 |>.set 41 4 |>.set 42 5 |>.set 43 6 |>.set 44 7 |>.set 45 8 |>.set 46 9 |>.set 47 10 |>.set 48 11 |>.set 49 12 |>.set 50 13 |>.set 51 14 |>.set 52 15 |>.set 53 16 |>.set 54 17) (bits := Tr.nil.lay 0 [0, 0, 3, 7, 15, 31, 63, 63, 255, 511, 63, 1087, 63, 7231, 15423, 31807, 65535, 131071]) (ord := [0, 1, 2, 3, 4, 5, 6, 7, 8, 9, 10, 11, 12, 13, 14, 15, 16, 17]) (by kernel_rfl) (by kernel_rfl) (by kernel_rfl) (fun G hG => by
          simp [h3, h4, h10, eF, lF, eV, la3, l1, e1, g1, g2, undef]
          exact hG) ?_
        try simp only [wpK_assoc]
        first | refine wpK_onT (by simp []) ?_ | refine wpK_outT (by simp []) ?_ | refine wpK_condT (by simp []) ?_ | refine wpK_endT (by simp []) ?_
        try simp only [wpK_assoc]
        refine wpK_reg (fun R hR => by simp []; exact hR) ?_
        exact wpK_ret (hRt _ _ ⟨rfl, by simp, by simp, rfl, bad (by omega)⟩)
      try simp only [wpK_assoc]
      refine wpK_dn (wr := Tr.nil |>.set 37 0 |>.set 38 1 |>.set 39 2 |>.set 40 3 |>.set 41 4 |>.set 42 5 |>.set 43 6 |>.set 44 7 |>.set 45 8 |>.set 46 9 |>.set 47 10 |>.set 48 11 |>.set 49 12 |>.set 50 13 |>.set 51 14 |>.set 52 15 |>.set 53 16 |>.set 54 17) (bits := Tr.nil.lay 0 [0, 0, 3, 7, 15, 31, 63, 63, 255, 511, 63, 1087, 63, 7231, 15423, 31807, 65535, 131071]) (ord := [0, 1, 2, 3, 4, 5, 6, 7, 8, 9, 10, 11, 12, 13, 14, 15, 16, 17]) (by kernel_rfl) (by kernel_rfl) (by kernel_rfl) (fun G hG => by
        simp [h3, h4, h10, eF, lF, eV, la3, l1, e1, g1, g2, undef]
        exact hG) ?_
      try simp only [wpK_assoc]
      first | refine wpK_onF (by simp []) ?_ | refine wpK_out (by simp []) ?_ | refine wpK_condF (by simp []) ?_ | refine wpK_endF (by simp []) (wpK_skip ?_) | refine wpK_endF (by simp []) ?_
      try simp only [wpK_assoc]
      refine wpK_reg1 (fun R hR => by simp [h10, hsi]; exact hR) ?_
      refine hI (k - 1) _ _ (by omega) ⟨rfl, rfl, by simp [h1, h2, h3, h4], by simp [h1, h2, h3, h4], by simp [h1, h2, h3, h4], by simp [h1, h2, h3, h4], rfl, i + 1, by omega, by omega, by simp, ?_⟩
      rw [hzs]
      intro q hq
      rcases List.mem_append.1 hq with hq | hq
      · exact hcaps q hq
      · simp at hq; subst hq; exact ⟨by omega, by simp only; omega⟩
    · have e : i = l.length := by omega
      rw [e, ← hzl, List.take_length] at hcaps
      try simp only [wpK_assoc]
      first | refine wpK_onF (by simp [hlt]) ?_ | refine wpK_out (by simp [hlt]) ?_ | refine wpK_condF (by simp [hlt]) ?_ | refine wpK_endF (by simp [hlt]) (wpK_skip ?_) | refine wpK_endF (by simp [hlt]) ?_
      exact hJ _ _ ⟨rfl, rfl, by simp [h1, h2, h3, h4], by simp [h1, h2, h3, h4], by simp [h1, h2, h3, h4], by simp [h1, h2, h3, h4], rfl, hcaps⟩
  · rintro A' W' ⟨g1, g2, g3, rfl, g5⟩
    exact ⟨.inr rfl, g1, [.int .i64 0, .bool false], by simp [g2, g3], hE0.trans e1, .inr ⟨fun hf => g5 hf.2.1, rfl⟩⟩
  rintro ⟨tm, n, ds⟩ W3 ⟨hn, hd, h1, h2, h3, h4, rfl, hcaps⟩
  simp only at hn hd h1 h2 h3 h4
  subst hn; subst hd
  have hbz := caps_bound hok hcaps
  try simp only [wpK_assoc]
  refine wpK_reg (fun R hR => by simp []; exact hR) ?_
  try simp only [wpK_assoc]
  refine wpK_while (I := fun k A W' => A.n = 80 ∧ A.defers = [] ∧ A.tmps.get 1 = some (.int .i64 s) ∧ A.tmps.get 2 = some (.int .i64 t) ∧ A.tmps.get 3 = some (.slice Af l.length cf) ∧ A.tmps.get 4 = some (.pointer (some ⟨W.next, 0, none⟩)) ∧ Ext W0 W' ∧ ∃ i : Nat, k = P - i ∧ i ≤ P ∧ A.tmps.get 11 = some (.int .i64 i) ∧ ∀ p : Nat, p < i → p ≠ s → p ≠ t → netZ (l.zip fl) p = 0)
    (J := fun A W' => A.n = 80 ∧ A.defers = [] ∧ A.tmps.get 1 = some (.int .i64 s) ∧ A.tmps.get 2 = some (.int .i64 t) ∧ A.tmps.get 3 = some (.slice Af l.length cf) ∧ A.tmps.get 4 = some (.pointer (some ⟨W.next, 0, none⟩)) ∧ Ext W0 W' ∧ isFl P s t l fl)
    (Rt := fun A W' => A.defers = [] ∧ A.tmps.get 8 = some (.int .i64 0) ∧ A.tmps.get 9 = some (.bool false) ∧ Ext W0 W' ∧ ¬ isFl P s t l fl) (k := P) ?_ ?_ ?_ ?_
  · exact ⟨rfl, rfl, by simp [h1, h2, h3, h4], by simp [h1, h2, h3, h4], by simp [h1, h2, h3, h4], by simp [h1, h2, h3, h4], e1, 0, by simp, by omega, by simp, fun p hp => by omega⟩
  · rintro k ⟨tm, n, ds⟩ W4 ⟨hn, hd, h1, h2, h3, h4, e4, i, hk, hi, h11, hz⟩ Q' hJ hRt hI
    simp only at hn hd h1 h2 h3 h4
    subst hn; subst hd
    simp only at h11
    try simp only [wpK_assoc]
    refine wpK_reg (fun R hR => by simp [h4, h11, l0, e4]; exact hR) ?_
    by_cases hlt : i < P
    · try simp only [wpK_assoc]
      first | refine wpK_onT (by simp [hlt]) ?_ | refine wpK_outT (by simp [hlt]) ?_ | refine wpK_condT (by simp [hlt]) ?_ | refine wpK_endT (by simp [hlt]) ?_
      have hsi : IntKind.i64.wrap ((i : Int) + 1) = ((i + 1 : Nat) : Int) := i64_succ i (by omega)
      refine wpK_block ?_
      have next : ∀ (tm' : Tr Value) (W5 : AW), Ext W0 W5 → tm'.get 1 = some (.int .i64 s) → tm'.get 2 = some (.int .i64 t) → tm'.get 3 = some (.slice Af l.length cf) → tm'.get 4 = some (.pointer (some ⟨W.next, 0, none⟩)) → tm'.get 11 = some (.int .i64 ((i + 1 : Nat) : Int)) → (i ≠ s → i ≠ t → netZ (l.zip fl) i = 0) → Q' .normal ⟨tm', 80, []⟩ W5 := fun tm' W5 e5 g1 g2 g3 g4 g11 g =>
        hI (k - 1) _ _ (by omega) ⟨rfl, rfl, g1, g2, g3, g4, e5, i + 1, by omega, by omega, g11, fun p hp h1 h2 => by
          by_cases e : p = i
          · subst e; exact g h1 h2
          · exact hz p (by omega) h1 h2⟩
      by_cases g1 : i = s
      · have g1' : (i : Int) = s := by omega
        try simp only [wpK_assoc]
        refine wpK_reg (fun R hR => by simp [h1, h2, h11, g1', undef]; exact hR) ?_
        try simp only [wpK_assoc]
        first | refine wpK_onF (by simp []) ?_ | refine wpK_out (by simp []) ?_ | refine wpK_condF (by simp []) ?_ | refine wpK_endF (by simp []) (wpK_skip ?_) | refine wpK_endF (by simp []) ?_
        try simp only [wpK_assoc]
        refine wpK_reg1 (fun R hR => by simp [h11, hsi]; exact hR) ?_
        exact next _ _ e4 (by simp [h1]) (by simp [h2]) (by simp [h3]) (by simp [h4]) (by simp) (fun h => absurd g1 h)
      have g1' : ¬ (i : Int) = s := by omega
      by_cases g2 : i = t
      · have g2' : (i : Int) = t := by omega
        have g3' : ¬ (t : Int) = s := by omega
        try simp only [wpK_assoc]
        refine wpK_reg (fun R hR => by simp [h1, h2, h11, g1', g2', g3', undef]; exact hR) ?_
        try simp only [wpK_assoc]
        first | refine wpK_onF (by simp []) ?_ | refine wpK_out (by simp []) ?_ | refine wpK_condF (by simp []) ?_ | refine wpK_endF (by simp []) (wpK_skip ?_) | refine wpK_endF (by simp []) ?_
        try simp only [wpK_assoc]
        refine wpK_reg1 (fun R hR => by simp [h11, hsi]; exact hR) ?_
        exact next _ _ e4 (by simp [h1]) (by simp [h2]) (by simp [h3]) (by simp [h4]) (by simp) (fun _ h => absurd g2 h)
      have g2' : ¬ (i : Int) = t := by omega
      have hv := value_wp (P := (P : Int)) (h'.ext (hE0.trans e4)) (hF'.ext (hE0.trans e4)) hlen h200 hbz i
      by_cases g3 : netZ (l.zip fl) i = 0
      · try simp only [wpK_assoc]
        refine wpK_x0 (fun R hR => by
            simp [h1, h2, h3, h4, h11, g1', g2', l24, e4, aEnter, fun71, short_other, aCallV]; rw [callS_none]
            refine (hv).mono ?_
            rintro _ W5 ⟨e45, rfl⟩
            simp [g3]; exact hR W5 e45) ?_
        rintro W5 e45
        try simp only [wpK_assoc]
        first | refine wpK_onF (by simp []) ?_ | refine wpK_out (by simp []) ?_ | refine wpK_condF (by simp []) ?_ | refine wpK_endF (by simp []) (wpK_skip ?_) | refine wpK_endF (by simp []) ?_
        try simp only [wpK_assoc]
        refine wpK_reg1 (fun R hR => by simp [h11, hsi]; exact hR) ?_
        exact next _ _ (e4.trans e45) (by simp [h1]) (by simp [h2]) (by simp [h3]) (by simp [h4]) (by simp) (fun _ _ => g3)
      · try simp only [wpK_assoc]
        refine wpK_x0 (fun R hR => by
            simp [h1, h2, h3, h4, h11, g1', g2', l24, e4, aEnter, fun71, short_other, aCallV]; rw [callS_none]
            refine (hv).mono ?_
            rintro _ W5 ⟨e45, rfl⟩
            simp [g3]; exact hR W5 e45) ?_
        rintro W5 e45
        try simp only [wpK_assoc]
        first | refine wpK_onT (by simp []) ?_ | refine wpK_outT (by simp []) ?_ | refine wpK_condT (by simp []) ?_ | refine wpK_endT (by simp []) ?_
        try simp only [wpK_assoc]
        refine wpK_reg (fun R hR => by simp []; exact hR) ?_
        exact wpK_ret (hRt _ _ ⟨rfl, by simp, by simp, e4.trans e45, fun hf => g3 (hf.2.2 i hlt g1 g2)⟩)
    · have e : i = P := by omega
      subst e
      try simp only [wpK_assoc]
      first | refine wpK_onF (by simp []) ?_ | refine wpK_out (by simp []) ?_ | refine wpK_condF (by simp []) ?_ | refine wpK_endF (by simp []) (wpK_skip ?_) | refine wpK_endF (by simp []) ?_
      exact hJ _ _ ⟨rfl, rfl, by simp [h1, h2, h3, h4], by simp [h1, h2, h3, h4], by simp [h1, h2, h3, h4], by simp [h1, h2, h3, h4], e4, hlen, hcaps, hz⟩
  · rintro A' W' ⟨g1, g2, g3, g4, g5⟩
    exact ⟨.inr rfl, g1, [.int .i64 0, .bool false], by simp [g2, g3], hE0.trans g4, .inr ⟨g5, rfl⟩⟩
  rintro ⟨tm, n, ds⟩ W4 ⟨hn, hd, h1, h2, h3, h4, e4, hfl'⟩
  simp only at hn hd h1 h2 h3 h4
  subst hn; subst hd
  have hv := value_wp (P := (P : Int)) (h'.ext (hE0.trans e4)) (hF'.ext (hE0.trans e4)) hlen h200 hbz s
  try simp only [wpK_assoc]
  refine wpK_x0 (fun R hR => by
      simp [h1, h3, h4, l24, e4, aEnter, fun71, short_other, aCallV]; rw [callS_none]
      refine (hv).mono ?_
      rintro _ W5 ⟨e45, rfl⟩
      simp [h1, h3, h4, l24, e4]; exact hR W5 e45) ?_
  rintro W5 e45
  exact wpK_ret ⟨.inr rfl, rfl, [.int .i64 (netZ (l.zip fl) s), .bool true], by simp, (hE0.trans e4).trans e45, .inl ⟨hfl', rfl⟩⟩
end Go.Proofs.YtkgfjfkgmpeobaaDoor

open Go Go.Eng
namespace Go.Proofs.YtkgfjfkgmpeobaaDoor
attribute [local congr] undef_congr WpK.congr WpS.congr WpL.congr WpC.congr WpF.congr gotS.congr callS.congr nextS.congr wantS.congr condS.congr
attribute [local irreducible] WpK
attribute [local simp] WpDr_nil WpDr_cons atS_some dwantS_true dwantS_false kindS_light kindS_float kindS_heavy lightS_value floatS_some heavyS_value heavyS_skip heavyS_enter dcallS_some doneS_eq
  isLight isFloat isPlain dLook testBit_dec dChain dLights_nil dLights_skip dLights_one dLight_nil dLight_cons dFreshes_nil dFreshes_one oneF_none oneF_some dFresh_nil dFresh_cons oneL_some oneW_true oneW_false sameV_value dPut dMay valEq arrEq listEq List.getElem?_cons Tr.get_nil dEnd
attribute [local simp] WpS_nil WpS_cons isDefer undef_false wantS_true wantS_false nextS_value nextS_skip nextS_enter callS_some gotS_some aWanted aOp aEvalF aEval opMove opAssign opPick aVal flat flat1 AAct.put opBinOp opConvert opIndex Tr.get_set Tr.get_lay aBin aResults tupled
  aCall aVals aCallB blt_dec ble_dec beq_dec aBinI_add aBinI_sub aBinI_lss aBinI_leq aBinI_gtr aBinI_geq aBinI_eql aBinI_neq index_str len_str len_slice Nat.beq_refl und2 und3 und4 und5 und39 und76 und82 und115 und22 und29 und25 und33 und46 und43 und49 und111 und113 field151 field155_0 field155_1 field155_2 field155_3 field155_4
  field78 field106 field24 field31 field27 field35 field108 field109 opBox opLoad opFieldAddr opIndexAddr acells aAddr opExtract aExtract opUnOp opAlloc opStore opMakeInterface opNilCheck opBuild aParts opBuildSlice aValW
set_option maxHeartbeats 4000000
set_option linter.unusedSimpArgs false
set_option linter.unusedVariables false
def bitI (S i : Nat) : Int := if S.testBit i then 1 else 0
theorem bit_tmod (S i : Nat) : ((S >>> i : Nat) : Int).tmod 2 = bitI S i := by
  have h := bit_rem S i
  have h0 : 0 ≤ ((S >>> i : Nat) : Int).tmod 2 ∧ ((S >>> i : Nat) : Int).tmod 2 < 2 := ⟨Int.tmod_nonneg _ (Int.natCast_nonneg _), Int.tmod_lt_of_pos _ (by omega)⟩
  unfold bitI
  cases hb : S.testBit i with
  | true => rw [if_pos rfl]; exact h.2 hb
  | false =>
    have : ¬ ((S >>> i : Nat) : Int).tmod 2 = 1 := fun e => by rw [h.1 e] at hb; cases hb
    simp only [Bool.false_eq_true, if_false]; omega
theorem bit_ops (S i : Nat) (hi : i ≤ 63) : aBinI .shr .i64 (S : Int) .u64 (i : Int) = some (.int .i64 ((S >>> i : Nat) : Int)) ∧ aBinI .rem .i64 ((S >>> i : Nat) : Int) .i64 2 = some (.int .i64 (bitI S i)) := by
  refine ⟨aBinI_shr .i64 .u64 S i (by show i ≤ 64; omega), ?_⟩
  have := aBinI_rem .i64 ((S >>> i : Nat) : Int) 2 (by omega)
  rw [bit_tmod] at this; exact this
theorem bits_wp {W : AW} {v : Value} {P : Int} {l : List Tri} (h : TriIn W v l) (hok : planOk P (arcsQ l) = true) (S : Nat) :
    WpF T0 70 [.agg ⟨[.int .i64 P, v]⟩, .int .i64 S] W (fun u W' => Ext W W' ∧ u = .int .i64 (capQ S (arcsQ l))) := by
  have hin := arcsQ_in hok
  obtain ⟨hP2, hP24, h200⟩ := hin.size
  have hql : (arcsQ l).length = l.length := by simp [arcsQ]
  rw [hql] at h200
  obtain ⟨Av, cv, rfl, hA⟩ := h
  refine wpF fun70 rfl ?_
  obtain ⟨W0, hW0, hE0, hV0⟩ : ∃ W0, W0 = W.newCells 24 [.int .i64 P, .slice Av l.length cv] ∧ Ext W W0 ∧ Var W0 W.next 24 [.int .i64 P, .slice Av l.length cv] := ⟨_, rfl, .newCells _ _ _, Var.new _ _ _⟩
  have l1 := hV0.load1 (T := T0) und22 rfl (j := 1) (v := .slice Av l.length cv) rfl
  try simp only [wpK_assoc]
  refine wpK_reg (fun R hR => by simp [← hW0]; exact hR) ?_
  try simp only [wpK_assoc]
  refine wpK_reg (fun R hR => by simp []; exact hR) ?_
  try simp only [wpK_assoc]
  refine wpK_reg (fun R hR => by simp []; exact hR) ?_
  try simp only [wpK_assoc]
  refine wpK_while (I := fun k A W' => A.n = 47 ∧ A.defers = [] ∧ A.tmps.get 1 = some (.int .i64 S) ∧ A.tmps.get 2 = some (.pointer (some ⟨W.next, 0, none⟩)) ∧ W' = W0 ∧ ∃ i : Nat, k = l.length - i ∧ i ≤ l.length ∧ A.tmps.get 6 = some (.int .i64 i) ∧ A.tmps.get 5 = some (.int .i64 (capQ S ((arcsQ l).take i))))
    (J := fun A W' => A.n = 47 ∧ A.defers = [] ∧ W' = W0 ∧ A.tmps.get 5 = some (.int .i64 (capQ S (arcsQ l))))
    (Rt := fun _ _ => False) (k := l.length) ?_ ?_ ?_ ?_
  · exact ⟨rfl, rfl, by simp, by simp, rfl, 0, by simp, by omega, by simp, by simp [capQ]⟩
  · rintro k ⟨tm, n, ds⟩ W3 ⟨hn, hd, h1, h2, rfl, i, hk, hi, h6, h5⟩ Q' hJ hRt hI
    simp only at hn hd h1 h2
    subst hn; subst hd
    simp only at h6 h5
    try simp only [wpK_assoc]
    refine wpK_reg (fun R hR => by simp [h2, h6, l1, len_slice und22]; exact hR) ?_
    by_cases hlt : i < l.length
    · try simp only [wpK_assoc]
      first | refine wpK_onT (by simp [hlt]) ?_ | refine wpK_outT (by simp [hlt]) ?_ | refine wpK_condT (by simp [hlt]) ?_ | refine wpK_endT (by simp [hlt]) ?_
      have ha : l[i]? = some l[i] := List.getElem?_eq_getElem hlt
      have hmem : l[i] ∈ l := List.getElem_mem hlt
      generalize l[i] = a at ha hmem
      have haq : (arcsQ l)[i]? = some (a.1, a.2.1, a.2.2, 0) := by simp [arcsQ, ha]
      have hst1 := hin.step (a := (a.1, a.2.1, a.2.2, 0)) (List.mem_of_getElem? haq)
      have hsum := capQ_take (s := S) haq
      have hb := capQ_le hin S i (by omega)
      obtain ⟨a1, a2, a3⟩ := a
      simp only at hst1
      obtain ⟨f, rfl⟩ : ∃ f : Nat, a1 = f := ⟨a1.toNat, by omega⟩
      obtain ⟨g, rfl⟩ : ∃ g : Nat, a2 = g := ⟨a2.toNat, by omega⟩
      obtain ⟨b, o, rfl, q1, q2, q3⟩ := hA i _ ha
      have eV := indexAddr_tri (T := T0) und22 sz78 (b := b) (o := o) (c := cv) (k := .i64) hlt
      have la1 := load_of und3 rfl (q1.ext hE0)
      have la2 := load_of und3 rfl (q2.ext hE0)
      have la3 := load_of und2 rfl (q3.ext hE0)
      simp only at la1 la2 la3
      obtain ⟨f1, f2⟩ := bit_ops S f (by omega)
      obtain ⟨g1, g2⟩ := bit_ops S g (by omega)
      generalize hsf : ((S >>> f : Nat) : Int) = sf at f1 f2
      generalize hsg : ((S >>> g : Nat) : Int) = sg at g1 g2
      have wf : IntKind.u64.wrap (f : Int) = f := IntWalk.u64_in _ (by omega)
      have wg : IntKind.u64.wrap (g : Int) = g := IntWalk.u64_in _ (by omega)
      have ho : out1 S ((f : Int), (g : Int), a3, 0) = if S.testBit f && !S.testBit g then a3 else 0 := by
        simp only [out1, Int.toNat_natCast]; split <;> split <;> omega
      rw [ho] at hsum
      generalize capQ S ((arcsQ l).take i) = z at h5 hb hsum
      have w1 : IntKind.i64.wrap (z + a3) = z + a3 := IntWalk.i64_in _ (by omega)
      have hsi : IntKind.i64.wrap ((i : Int) + 1) = ((i + 1 : Nat) : Int) := i64_succ i (by omega)
      have fin : ∀ tm' : Tr Value, tm'.get 1 = some (.int .i64 S) → tm'.get 2 = some (.pointer (some ⟨W.next, 0, none⟩)) → tm'.get 6 = some (.int .i64 ((i + 1 : Nat) : Int)) → tm'.get 5 = some (.int .i64 (z + if S.testBit f && !S.testBit g then a3 else 0)) → Q' .normal ⟨tm', 47, []⟩ W3 := fun tm' x1 x2 x6 x5 =>
        hI (k - 1) _ _ (by omega) ⟨rfl, rfl, x1, x2, rfl, i + 1, by omega, by omega, x6, by rw [x5, hsum]⟩
      refine wpK_block ?_
      cases hbf : S.testBit f with
      | false =>
        have e1 : bitI S f = 0 := by simp [-testBit_dec, bitI, hbf]
        rw [e1] at f2
        try simp only [wpK_assoc]
        refine wpK_reg (fun R hR => by simp [h1, h2, h6, l1, eV, la1, conv_3_82, wf, f1, f2, undef]; exact hR) ?_
        try simp only [wpK_assoc]
        first | refine wpK_onF (by simp []) ?_ | refine wpK_out (by simp []) ?_ | refine wpK_condF (by simp []) ?_ | refine wpK_endF (by simp []) (wpK_skip ?_) | refine wpK_endF (by simp []) ?_
        try simp only [wpK_assoc]
        refine wpK_reg1 (fun R hR => by simp [h6, hsi]; exact hR) ?_
        exact fin _ (by simp [h1]) (by simp [h2]) (by simp) (by simp [-testBit_dec, hbf, h5])
      | true =>
        have e1 : bitI S f = 1 := by simp [-testBit_dec, bitI, hbf]
        rw [e1] at f2
        cases hbg : S.testBit g with
        | true =>
          have e2 : bitI S g = 1 := by simp [-testBit_dec, bitI, hbg]
          rw [e2] at g2
          try simp only [wpK_assoc]
          refine wpK_reg (fun R hR => by simp [h1, h2, h6, l1, eV, la1, la2, conv_3_82, wf, wg, f1, f2, g1, g2]; exact hR) ?_
          try simp only [wpK_assoc]
          first | refine wpK_onF (by simp []) ?_ | refine wpK_out (by simp []) ?_ | refine wpK_condF (by simp []) ?_ | refine wpK_endF (by simp []) (wpK_skip ?_) | refine wpK_endF (by simp []) ?_
          try simp only [wpK_assoc]
          refine wpK_reg1 (fun R hR => by simp [h6, hsi]; exact hR) ?_
          exact fin _ (by simp [h1]) (by simp [h2]) (by simp) (by simp [-testBit_dec, hbf, hbg, h5])
        | false =>
          have e2 : bitI S g = 0 := by simp [-testBit_dec, bitI, hbg]
          rw [e2] at g2
          try simp only [wpK_assoc]
          refine wpK_reg (fun R hR => by simp [h1, h2, h6, l1, eV, la1, la2, conv_3_82, wf, wg, f1, f2, g1, g2]; exact hR) ?_
          try simp only [wpK_assoc]
          first | refine wpK_onT (by simp []) ?_ | refine wpK_outT (by simp []) ?_ | refine wpK_condT (by simp []) ?_ | refine wpK_endT (by simp []) ?_
          try simp only [wpK_assoc]
          refine wpK_reg1 (fun R hR => by simp [h2, h5, h6, l1, eV, la3, w1]; exact hR) ?_
          try simp only [wpK_assoc]
          refine wpK_reg1 (fun R hR => by simp [h6, hsi]; exact hR) ?_
          exact fin _ (by simp [h1]) (by simp [h2]) (by simp) (by simp [-testBit_dec, hbf, hbg])
    · have e : i = l.length := by omega
      rw [e, ← hql, List.take_length] at h5
      try simp only [wpK_assoc]
      first | refine wpK_onF (by simp [hlt]) ?_ | refine wpK_out (by simp [hlt]) ?_ | refine wpK_condF (by simp [hlt]) ?_ | refine wpK_endF (by simp [hlt]) (wpK_skip ?_) | refine wpK_endF (by simp [hlt]) ?_
      exact hJ _ _ ⟨rfl, rfl, rfl, by simp [h5]⟩
  · rintro A' W' hf; exact hf.elim
  · rintro ⟨tm, n, ds⟩ W' ⟨hn, hd, rfl, h5⟩
    simp only at hn hd h5
    subst hn; subst hd
    try simp only [wpK_assoc]
    refine wpK_reg (fun R hR => by simp [h5]; exact hR) ?_
    exact wpK_ret ⟨.inr rfl, rfl, [.int .i64 (capQ S (arcsQ l))], by simp, hE0, rfl⟩
theorem same_wp {W : AW} {v w : Value} {l m : List Int} (h : IntL W v l) (h' : IntL W w m) (hl : l.length < 4611686018427387904) : WpF T0 34 [v, w] W (fun u W' => W' = W ∧ u = .bool (decide (l = m))) := by
  obtain ⟨A, c, rfl, hA⟩ := h
  obtain ⟨B, d, rfl, hB⟩ := h'
  refine wpF fun34 rfl ?_
  try simp only [wpK_assoc]
  refine wpK_reg (fun R hR => by simp []; exact hR) ?_
  by_cases hlen : l.length = m.length
  case neg =>
    have hlen' : ¬ (l.length : Int) = m.length := by omega
    try simp only [wpK_assoc]
    refine wpK_reg (fun R hR => by simp [len_slice und46, hlen']; exact hR) ?_
    try simp only [wpK_assoc]
    first | refine wpK_onT (by simp []) ?_ | refine wpK_outT (by simp []) ?_ | refine wpK_condT (by simp []) ?_ | refine wpK_endT (by simp []) ?_
    try simp only [wpK_assoc]
    refine wpK_reg (fun R hR => by simp []; exact hR) ?_
    exact wpK_ret ⟨.inr rfl, rfl, [.bool false], by simp, rfl, by simp; exact fun e => hlen (by rw [e])⟩
  try simp only [wpK_assoc]
  refine wpK_reg (fun R hR => by simp [len_slice und46, hlen]; exact hR) ?_
  try simp only [wpK_assoc]
  first | refine wpK_onF (by simp []) ?_ | refine wpK_out (by simp []) ?_ | refine wpK_condF (by simp []) ?_ | refine wpK_endF (by simp []) (wpK_skip ?_) | refine wpK_endF (by simp []) ?_
  try simp only [wpK_assoc]
  refine wpK_reg (fun R hR => by simp []; exact hR) ?_
  rw [← hlen]
  try simp only [wpK_assoc]
  refine wpK_while (I := fun k D W' => D.n = 26 ∧ D.defers = [] ∧ D.tmps.get 0 = some (.slice A l.length c) ∧ D.tmps.get 1 = some (.slice B l.length d) ∧ W' = W ∧ ∃ i : Nat, k = l.length - i ∧ i ≤ l.length ∧ D.tmps.get 5 = some (.int .i64 i) ∧ l.take i = m.take i)
    (J := fun D W' => D.n = 26 ∧ D.defers = [] ∧ W' = W ∧ l = m) (Rt := fun D W' => D.defers = [] ∧ D.tmps.get 4 = some (.bool false) ∧ W' = W ∧ l ≠ m) (k := l.length) ?_ ?_ ?_ ?_
  · exact ⟨rfl, rfl, by simp, by simp, rfl, 0, by simp, by omega, by simp, by simp⟩
  · rintro k ⟨tm, n, ds⟩ W3 ⟨hn, hd, h0, h1, rfl, i, hk, hi, h5, htk⟩ Q' hJ hRt hI
    simp only at hn hd h0 h1
    subst hn; subst hd
    simp only at h5
    try simp only [wpK_assoc]
    refine wpK_reg (fun R hR => by simp [h0, h5, len_slice und46]; exact hR) ?_
    by_cases hlt : i < l.length
    · try simp only [wpK_assoc]
      first | refine wpK_onT (by simp [hlt]) ?_ | refine wpK_outT (by simp [hlt]) ?_ | refine wpK_condT (by simp [hlt]) ?_ | refine wpK_endT (by simp [hlt]) ?_
      have ha : l[i]? = some l[i] := List.getElem?_eq_getElem hlt
      have hb : m[i]? = some (m[i]'(by omega)) := List.getElem?_eq_getElem (by omega)
      generalize l[i] = x at ha
      generalize m[i]'_ = y at hb
      obtain ⟨b, o, rfl, hh⟩ := hA i x ha
      obtain ⟨b', o', rfl, hh'⟩ := hB i y hb
      have hx := indexAddr_slice (T := T0) und46 sz3 (b := b) (o := o) (c := c) (k := .i64) hlt
      have hy := indexAddr_slice (T := T0) und46 sz3 (b := b') (o := o') (c := d) (k := .i64) hlt
      rw [Nat.mul_one] at hx hy
      have hl1 := load_of und3 rfl hh
      have hl2 := load_of und3 rfl hh'
      have hsi : IntKind.i64.wrap ((i : Int) + 1) = ((i + 1 : Nat) : Int) := i64_succ i (by omega)
      refine wpK_block ?_
      by_cases e : x = y
      · try simp only [wpK_assoc]
        refine wpK_dn (wr := Tr.nil |>.set 17 0 |>.set 18 1 |>.set 19 2 |>.set 20 3 |>.set 21 4 |>.set 22 5 |>.set 23 6 |>.set 24 7 |>.set 25 8) (bits := Tr.nil.lay 0 [0, 0, 3, 7, 0, 0, 48, 112, 255]) (ord := [0, 1, 2, 3, 4, 5, 6, 7, 8]) (by kernel_rfl) (by kernel_rfl) (by kernel_rfl) (fun G hG => by
          simp [h0, h1, h5, hx, hy, hl1, hl2, e]
          exact hG) ?_
        try simp only [wpK_assoc]
        first | refine wpK_onF (by simp []) ?_ | refine wpK_out (by simp []) ?_ | refine wpK_condF (by simp []) ?_ | refine wpK_endF (by simp []) (wpK_skip ?_) | refine wpK_endF (by simp []) ?_
        try simp only [wpK_assoc]
        refine wpK_reg1 (fun R hR => by simp [h5, hsi]; exact hR) ?_
        exact hI (k - 1) _ _ (by omega) ⟨rfl, rfl, by simp [h0, h1], by simp [h0, h1], rfl, i + 1, by omega, by omega, by simp, by rw [List.take_add_one, List.take_add_one, htk, ha, hb, e]⟩
      · try simp only [wpK_assoc]
        refine wpK_dn (wr := Tr.nil |>.set 17 0 |>.set 18 1 |>.set 19 2 |>.set 20 3 |>.set 21 4 |>.set 22 5 |>.set 23 6 |>.set 24 7 |>.set 25 8) (bits := Tr.nil.lay 0 [0, 0, 3, 7, 0, 0, 48, 112, 255]) (ord := [0, 1, 2, 3, 4, 5, 6, 7, 8]) (by kernel_rfl) (by kernel_rfl) (by kernel_rfl) (fun G hG => by
          simp [h0, h1, h5, hx, hy, hl1, hl2, e]
          exact hG) ?_
        try simp only [wpK_assoc]
        first | refine wpK_onT (by simp []) ?_ | refine wpK_outT (by simp []) ?_ | refine wpK_condT (by simp []) ?_ | refine wpK_endT (by simp []) ?_
        try simp only [wpK_assoc]
        refine wpK_reg (fun R hR => by simp []; exact hR) ?_
        exact wpK_ret (hRt _ _ ⟨rfl, by simp, rfl, fun em => by rw [em, hb] at ha; cases ha; exact e rfl⟩)
    · have e : i = l.length := by omega
      try simp only [wpK_assoc]
      first | refine wpK_onF (by simp [hlt]) ?_ | refine wpK_out (by simp [hlt]) ?_ | refine wpK_condF (by simp [hlt]) ?_ | refine wpK_endF (by simp [hlt]) (wpK_skip ?_) | refine wpK_endF (by simp [hlt]) ?_
      refine hJ _ _ ⟨rfl, rfl, rfl, ?_⟩
      rw [e, List.take_length, List.take_of_length_le (by omega)] at htk
      exact htk
  · rintro A' W' ⟨g1, g2, rfl, g3⟩
    exact ⟨.inr rfl, g1, [.bool false], by simp [g2], rfl, by simp [g3]⟩
  · rintro ⟨tm, n, ds⟩ W' ⟨hn, hd, rfl, he⟩
    simp only at hn hd
    subst hn; subst hd
    try simp only [wpK_assoc]
    refine wpK_reg (fun R hR => by simp []; exact hR) ?_
    exact wpK_ret ⟨.inr rfl, rfl, [.bool true], by simp, rfl, by simp [he]⟩
end Go.Proofs.YtkgfjfkgmpeobaaDoor

open Go Go.Eng
namespace Go.Proofs.YtkgfjfkgmpeobaaDoor
attribute [local congr] undef_congr WpK.congr WpS.congr WpL.congr WpC.congr WpF.congr gotS.congr callS.congr nextS.congr wantS.congr condS.congr
attribute [local irreducible] WpK
attribute [local simp] WpDr_nil WpDr_cons atS_some dwantS_true dwantS_false kindS_light kindS_float kindS_heavy lightS_value floatS_some heavyS_value heavyS_skip heavyS_enter dcallS_some doneS_eq
  isLight isFloat isPlain dLook testBit_dec dChain dLights_nil dLights_skip dLights_one dLight_nil dLight_cons dFreshes_nil dFreshes_one oneF_none oneF_some dFresh_nil dFresh_cons oneL_some oneW_true oneW_false sameV_value dPut dMay valEq arrEq listEq List.getElem?_cons Tr.get_nil dEnd
attribute [local simp] WpS_nil WpS_cons isDefer undef_false wantS_true wantS_false nextS_value nextS_skip nextS_enter callS_some gotS_some aWanted aOp aEvalF aEval opMove opAssign opPick aVal flat flat1 AAct.put opBinOp opConvert opIndex Tr.get_set Tr.get_lay aBin aResults tupled
  aCall aVals aCallB blt_dec ble_dec beq_dec aBinI_add aBinI_sub aBinI_lss aBinI_leq aBinI_gtr aBinI_geq aBinI_eql aBinI_neq index_str len_str len_slice Nat.beq_refl und2 und3 und4 und5 und39 und76 und82 und115 und22 und29 und25 und33 und46 und43 und49 und111 und113 field151 field155_0 field155_1 field155_2 field155_3 field155_4
  field78 field106 field24 field31 field27 field35 field108 field109 opBox opLoad opFieldAddr opIndexAddr acells aAddr opExtract aExtract opUnOp opAlloc opStore opMakeInterface opNilCheck opBuild aParts opBuildSlice aValW
set_option maxHeartbeats 4000000
set_option linter.unusedSimpArgs false
set_option linter.unusedVariables false
def isCut (s t T : Nat) : Prop := T.testBit s = true ∧ T.testBit t = false
def Seen (s t : Nat) (l : List Quad) (k : Nat) (best : Int) (com : Nat) : Prop :=
  ((∀ T, T < k → ¬ isCut s t T) ∧ best = -1) ∨
  (0 ≤ best ∧ (∃ T, T < k ∧ isCut s t T ∧ capQ T l = best) ∧ (∀ T, T < k → isCut s t T → best ≤ capQ T l) ∧ (∀ q, com.testBit q = true ↔ ∀ T, T < k → isCut s t T → capQ T l = best → T.testBit q = true))
theorem Seen.skip {s t : Nat} {l : List Quad} {k : Nat} {best : Int} {com : Nat} (h : Seen s t l k best com) (hk : ¬ isCut s t k) : Seen s t l (k + 1) best com := by
  have sp : ∀ T, T < k + 1 → isCut s t T → T < k := fun T hT hc => by
    by_cases e : T = k
    · subst e; exact absurd hc hk
    · omega
  rcases h with ⟨h1, h2⟩ | ⟨h0, ⟨T0, a1, a2, a3⟩, h2, h3⟩
  · exact .inl ⟨fun T hT hc => h1 T (sp T hT hc) hc, h2⟩
  · exact .inr ⟨h0, ⟨T0, by omega, a2, a3⟩, fun T hT hc => h2 T (sp T hT hc) hc, fun q => (h3 q).trans ⟨fun h T hT hc he => h T (sp T hT hc) hc he, fun h T hT hc he => h T (by omega) hc he⟩⟩
theorem Seen.less {s t : Nat} {l : List Quad} {k : Nat} {best : Int} {com : Nat} (h : Seen s t l k best com) (hk : isCut s t k) (h0 : 0 ≤ capQ k l) (hc : best < 0 ∨ capQ k l < best) : Seen s t l (k + 1) (capQ k l) k := by
  have old : ∀ T, T < k → isCut s t T → capQ k l < capQ T l := fun T hT hT2 => by
    rcases h with ⟨h1, _⟩ | ⟨g0, _, h2, _⟩
    · exact absurd hT2 (h1 T hT)
    · have := h2 T hT hT2; omega
  refine .inr ⟨h0, ⟨k, by omega, hk, rfl⟩, fun T hT hT2 => ?_, fun q => ⟨fun hq T hT hT2 he => ?_, fun hall => hall k (by omega) hk rfl⟩⟩
  · by_cases e : T = k
    · subst e; exact Int.le_refl _
    · have := old T (by omega) hT2; omega
  · by_cases e : T = k
    · subst e; exact hq
    · have := old T (by omega) hT2; omega
theorem Seen.same {s t : Nat} {l : List Quad} {k : Nat} {best : Int} {com : Nat} (h : Seen s t l k best com) (hk : isCut s t k) (hb : 0 ≤ best) (hc : capQ k l = best) : Seen s t l (k + 1) best (com &&& k) := by
  rcases h with ⟨h1, h2⟩ | ⟨_, ⟨T0, a1, a2, a3⟩, h2, h3⟩
  · omega
  · refine .inr ⟨hb, ⟨T0, by omega, a2, a3⟩, fun T hT hT2 => ?_, fun q => ?_⟩
    · by_cases e : T = k
      · subst e; omega
      · exact h2 T (by omega) hT2
    · rw [Nat.testBit_and, Bool.and_eq_true, h3 q]
      constructor
      · rintro ⟨g1, g2⟩ T hT hT2 he
        by_cases e : T = k
        · subst e; exact g2
        · exact g1 T (by omega) hT2 he
      · intro hall
        exact ⟨fun T hT hT2 he => hall T (by omega) hT2 he, hall k (by omega) hk hc⟩
theorem Seen.more {s t : Nat} {l : List Quad} {k : Nat} {best : Int} {com : Nat} (h : Seen s t l k best com) (hk : isCut s t k) (hb : 0 ≤ best) (hc : best < capQ k l) : Seen s t l (k + 1) best com := by
  rcases h with ⟨h1, h2⟩ | ⟨_, ⟨T0, a1, a2, a3⟩, h2, h3⟩
  · omega
  · refine .inr ⟨hb, ⟨T0, by omega, a2, a3⟩, fun T hT hT2 => ?_, fun q => (h3 q).trans ⟨fun h T hT hT2 he => ?_, fun h T hT hT2 he => h T (by omega) hT2 he⟩⟩
    · by_cases e : T = k
      · subst e; omega
      · exact h2 T (by omega) hT2
    · by_cases e : T = k
      · subst e; omega
      · exact h T (by omega) hT2 he
theorem least32_wp {W : AW} {v : Value} {P s t S : Nat} {x : Int} {l : List Tri} (h : TriIn W v l) (hok : planOk P (arcsQ l) = true) (hP : P ≤ 20) (hs : s < P) (ht : t < P) (hS : S < 2 ^ P) (hSc : isCut s t S) (hx : x = capQ S (arcsQ l))
    (hmin : ∀ T, isCut s t T → x ≤ capQ T (arcsQ l) ∧ (x = capQ T (arcsQ l) → ∀ q, S.testBit q = true → T.testBit q = true)) :
    WpF T0 32 [.agg ⟨[.int .i64 P, v]⟩, .int .i64 s, .int .i64 t] W (fun u W' => Ext W W' ∧ ∃ sl, u = .tuple ⟨[.int .i64 x, sl]⟩ ∧ IntL W' sl (memb P S)) := by
  refine wpF fun32 rfl ?_
  obtain ⟨W0, hW0, hE0, hV0⟩ : ∃ W0, W0 = W.newCells 24 [.int .i64 P, v] ∧ Ext W W0 ∧ Var W0 W.next 24 [.int .i64 P, v] := ⟨_, rfl, .newCells _ _ _, Var.new _ _ _⟩
  have l0 : ∀ W', Ext W0 W' → aLoadVar T0 W' 3 W.next 0 = some (.int .i64 P) := fun W' h => (hV0.ext h).load1 (T := T0) und3 rfl (j := 0) (v := .int .i64 P) rfl
  have l24 : ∀ W', Ext W0 W' → aLoadVar T0 W' 24 W.next 0 = some (.agg ⟨[.int .i64 P, v]⟩) := fun W' h => load24 (hV0.ext h)
  have hpow : 2 ^ P ≤ 2 ^ 20 := Nat.pow_le_pow_right (by omega) hP
  have hwP : IntKind.u64.wrap (P : Int) = P := IntWalk.u64_in _ (by omega)
  have hws : IntKind.u64.wrap (s : Int) = s := IntWalk.u64_in _ (by omega)
  have hwt : IntKind.u64.wrap (t : Int) = t := IntWalk.u64_in _ (by omega)
  have shP : aBinI .shl .i64 1 .u64 (P : Int) = some (.int .i64 ((2 ^ P : Nat) : Int)) := by
    have := aBinI_shl .i64 .u64 1 P (by show P ≤ 64; omega) (by rw [Nat.one_mul]; show 2 ^ P < 9223372036854775808; omega)
    rw [Nat.shiftLeft_eq, Nat.one_mul] at this; exact this
  have hin := arcsQ_in hok
  generalize hpw : 2 ^ P = pw at shP hS hpow
  try simp only [wpK_assoc]
  refine wpK_reg (fun R hR => by simp [← hW0]; exact hR) ?_
  try simp only [wpK_assoc]
  refine wpK_reg (fun R hR => by simp []; exact hR) ?_
  try simp only [wpK_assoc]
  refine wpK_reg (fun R hR => by simp []; exact hR) ?_
  try simp only [wpK_assoc]
  refine wpK_while (I := fun k A W' => A.n = 57 ∧ A.defers = [] ∧ A.tmps.get 1 = some (.int .i64 s) ∧ A.tmps.get 2 = some (.int .i64 t) ∧ A.tmps.get 3 = some (.pointer (some ⟨W.next, 0, none⟩)) ∧ Ext W0 W' ∧ ∃ (i : Nat) (best : Int) (com : Nat), k = pw - i ∧ i ≤ pw ∧ A.tmps.get 10 = some (.int .i64 i) ∧ A.tmps.get 8 = some (.int .i64 best) ∧ A.tmps.get 9 = some (.int .i64 com) ∧ com < pw ∧ Seen s t (arcsQ l) i best com)
    (J := fun A W' => A.n = 57 ∧ A.defers = [] ∧ A.tmps.get 1 = some (.int .i64 s) ∧ A.tmps.get 2 = some (.int .i64 t) ∧ A.tmps.get 3 = some (.pointer (some ⟨W.next, 0, none⟩)) ∧ Ext W0 W' ∧ A.tmps.get 8 = some (.int .i64 x) ∧ A.tmps.get 9 = some (.int .i64 S))
    (Rt := fun _ _ => False) (k := pw) ?_ ?_ ?_ ?_
  · exact ⟨rfl, rfl, by simp, by simp, by simp, .refl _ _, 0, -1, 0, by omega, by omega, by simp, by simp, by simp, by omega, .inl ⟨fun T hT => by omega, rfl⟩⟩
  · rintro k ⟨tm, n, ds⟩ W3 ⟨hn, hd, h1, h2, h3, e3, i, best, com, hk, hi, h10, h8, h9, hcom, hSeen⟩ Q' hJ hRt hI
    simp only at hn hd h1 h2 h3
    subst hn; subst hd
    simp only at h10 h8 h9
    try simp only [wpK_assoc]
    refine wpK_reg (fun R hR => by simp [h3, h10, l0, e3, conv_3_82, hwP, shP]; exact hR) ?_
    by_cases hlt : i < pw
    · try simp only [wpK_assoc]
      first | refine wpK_onT (by simp [hlt]) ?_ | refine wpK_outT (by simp [hlt]) ?_ | refine wpK_condT (by simp [hlt]) ?_ | refine wpK_endT (by simp [hlt]) ?_
      have hsi : IntKind.i64.wrap ((i : Int) + 1) = ((i + 1 : Nat) : Int) := i64_succ i (by omega)
      have fin : ∀ (tm' : Tr Value) (W4 : AW) (best' : Int) (com' : Nat), Ext W0 W4 → tm'.get 1 = some (.int .i64 s) → tm'.get 2 = some (.int .i64 t) → tm'.get 3 = some (.pointer (some ⟨W.next, 0, none⟩)) → tm'.get 10 = some (.int .i64 ((i + 1 : Nat) : Int)) → tm'.get 8 = some (.int .i64 best') → tm'.get 9 = some (.int .i64 com') → com' < pw → Seen s t (arcsQ l) (i + 1) best' com' → Q' .normal ⟨tm', 57, []⟩ W4 :=
        fun tm' W4 best' com' e4 x1 x2 x3 x10 x8 x9 hc' hS' => hI (k - 1) _ _ (by omega) ⟨rfl, rfl, x1, x2, x3, e4, i + 1, best', com', by omega, by omega, x10, x8, x9, hc', hS'⟩
      obtain ⟨f1, f2⟩ := bit_ops i s (by omega)
      obtain ⟨g1, g2⟩ := bit_ops i t (by omega)
      generalize hsf : ((i >>> s : Nat) : Int) = sf at f1 f2
      generalize hsg : ((i >>> t : Nat) : Int) = sg at g1 g2
      refine wpK_block ?_
      cases hbs : i.testBit s with
      | false =>
        have e1 : bitI i s = 0 := by simp [-testBit_dec, bitI, hbs]
        rw [e1] at f2
        try simp only [wpK_assoc]
        refine wpK_reg (fun R hR => by simp [h1, h2, h10, conv_3_82, hws, f1, f2, undef]; exact hR) ?_
        try simp only [wpK_assoc]
        first | refine wpK_onT (by simp []) ?_ | refine wpK_outT (by simp []) ?_ | refine wpK_condT (by simp []) ?_ | refine wpK_endT (by simp []) ?_
        rw [leaves_exit, if_pos rfl]
        simp only [behind_normal]
        try simp only [wpK_assoc]
        refine wpK_reg1 (fun R hR => by simp [h10, hsi]; exact hR) ?_
        exact fin _ _ best com e3 (by simp [h1]) (by simp [h2]) (by simp [h3]) (by simp) (by simp [h8]) (by simp [h9]) hcom (hSeen.skip (fun hc => by rw [hc.1] at hbs; cases hbs))
      | true =>
        have e1 : bitI i s = 1 := by simp [-testBit_dec, bitI, hbs]
        rw [e1] at f2
        cases hbt : i.testBit t with
        | true =>
          have e2 : bitI i t = 1 := by simp [-testBit_dec, bitI, hbt]
          rw [e2] at g2
          try simp only [wpK_assoc]
          refine wpK_reg (fun R hR => by simp [h1, h2, h10, conv_3_82, hws, hwt, f1, f2, g1, g2]; exact hR) ?_
          try simp only [wpK_assoc]
          first | refine wpK_onT (by simp []) ?_ | refine wpK_outT (by simp []) ?_ | refine wpK_condT (by simp []) ?_ | refine wpK_endT (by simp []) ?_
          rw [leaves_exit, if_pos rfl]
          simp only [behind_normal]
          try simp only [wpK_assoc]
          refine wpK_reg1 (fun R hR => by simp [h10, hsi]; exact hR) ?_
          exact fin _ _ best com e3 (by simp [h1]) (by simp [h2]) (by simp [h3]) (by simp) (by simp [h8]) (by simp [h9]) hcom (hSeen.skip (fun hc => by rw [hc.2] at hbt; cases hbt))
        | false =>
          have e2 : bitI i t = 0 := by simp [-testBit_dec, bitI, hbt]
          rw [e2] at g2
          have hcut : isCut s t i := ⟨hbs, hbt⟩
          try simp only [wpK_assoc]
          refine wpK_reg (fun R hR => by simp [h1, h2, h10, conv_3_82, hws, hwt, f1, f2, g1, g2]; exact hR) ?_
          try simp only [wpK_assoc]
          first | refine wpK_onF (by simp []) ?_ | refine wpK_out (by simp []) ?_ | refine wpK_condF (by simp []) ?_ | refine wpK_endF (by simp []) (wpK_skip ?_) | refine wpK_endF (by simp []) ?_
          try simp only [wpK_assoc]
          refine wpK_x0 (fun R hR => by
              simp [h3, h10, l24, e3, aEnter, fun70, short_other, aCallV]; rw [callS_none]
              refine (bits_wp (P := (P : Int)) (h.ext (hE0.trans e3)) hok i).mono ?_
              rintro _ W4 ⟨e34, rfl⟩
              simp [h3, h10, l24, e3]; exact hR W4 e34) ?_
          rintro W4 e34
          have e4 := e3.trans e34
          have hc0 := capQ_le hin i (arcsQ l).length (Nat.le_refl _)
          rw [List.take_length] at hc0
          obtain ⟨c, hcc⟩ : ∃ c, c = capQ i (arcsQ l) := ⟨_, rfl⟩
          have s1 := fun hh => hSeen.less hcut hc0.1 hh
          have s2 := fun hb hh => hSeen.same hcut hb hh
          have s3 := fun hb hh => hSeen.more hcut hb hh
          rw [← hcc] at s1 s2 s3 hc0
          rw [← hcc]
          clear hcc
          by_cases c1 : best < 0
          · try simp only [wpK_assoc]
            refine wpK_reg (fun R hR => by simp [h8, c1, undef]; exact hR) ?_
            try simp only [wpK_assoc]
            first | refine wpK_onT (by simp []) ?_ | refine wpK_outT (by simp []) ?_ | refine wpK_condT (by simp []) ?_ | refine wpK_endT (by simp []) ?_
            try simp only [wpK_assoc]
            refine wpK_reg1 (fun R hR => by simp [h10]; exact hR) ?_
            try simp only [wpK_assoc]
            refine wpK_reg1 (fun R hR => by simp [h10, hsi]; exact hR) ?_
            exact fin _ _ c i e4 (by simp [h1]) (by simp [h2]) (by simp [h3]) (by simp) (by simp) (by simp) hlt (s1 (.inl c1))
          by_cases c2 : c < best
          · try simp only [wpK_assoc]
            refine wpK_reg (fun R hR => by simp [h8, c1, c2]; exact hR) ?_
            try simp only [wpK_assoc]
            first | refine wpK_onT (by simp []) ?_ | refine wpK_outT (by simp []) ?_ | refine wpK_condT (by simp []) ?_ | refine wpK_endT (by simp []) ?_
            try simp only [wpK_assoc]
            refine wpK_reg1 (fun R hR => by simp [h10]; exact hR) ?_
            try simp only [wpK_assoc]
            refine wpK_reg1 (fun R hR => by simp [h10, hsi]; exact hR) ?_
            exact fin _ _ c i e4 (by simp [h1]) (by simp [h2]) (by simp [h3]) (by simp) (by simp) (by simp) hlt (s1 (.inr c2))
          try simp only [wpK_assoc]
          refine wpK_reg (fun R hR => by simp [h8, c1, c2]; exact hR) ?_
          try simp only [wpK_assoc]
          first | refine wpK_onF (by simp []) ?_ | refine wpK_out (by simp []) ?_ | refine wpK_condF (by simp []) ?_ | refine wpK_endF (by simp []) (wpK_skip ?_) | refine wpK_endF (by simp []) ?_
          try simp only [wpK_assoc]
          refine wpK_reg (fun R hR => by simp [h8]; exact hR) ?_
          by_cases c3 : c = best
          · have hand := aBinI_and .i64 com i (by show com < 9223372036854775808; omega) (by show i < 9223372036854775808; omega)
            have hle : com &&& i ≤ com := Nat.and_le_left
            try simp only [wpK_assoc]
            first | refine wpK_onT (by simp [c3]) ?_ | refine wpK_outT (by simp [c3]) ?_ | refine wpK_condT (by simp [c3]) ?_ | refine wpK_endT (by simp [c3]) ?_
            try simp only [wpK_assoc]
            refine wpK_reg1 (fun R hR => by simp [h9, h10, hand]; exact hR) ?_
            try simp only [wpK_assoc]
            refine wpK_reg1 (fun R hR => by simp [h10, hsi]; exact hR) ?_
            exact fin _ _ best (com &&& i) e4 (by simp [h1]) (by simp [h2]) (by simp [h3]) (by simp) (by simp [h8]) (by simp) (by omega) (s2 (by omega) c3)
          · try simp only [wpK_assoc]
            first | refine wpK_onF (by simp [c3]) ?_ | refine wpK_out (by simp [c3]) ?_ | refine wpK_condF (by simp [c3]) ?_ | refine wpK_endF (by simp [c3]) (wpK_skip ?_) | refine wpK_endF (by simp [c3]) ?_
            try simp only [wpK_assoc]
            refine wpK_reg1 (fun R hR => by simp [h10, hsi]; exact hR) ?_
            exact fin _ _ best com e4 (by simp [h1]) (by simp [h2]) (by simp [h3]) (by simp) (by simp [h8]) (by simp [h9]) hcom (s3 (by omega) (by omega))
    · have e : i = pw := by omega
      subst e
      try simp only [wpK_assoc]
      first | refine wpK_onF (by simp []) ?_ | refine wpK_out (by simp []) ?_ | refine wpK_condF (by simp []) ?_ | refine wpK_endF (by simp []) (wpK_skip ?_) | refine wpK_endF (by simp []) ?_
      have hbest : best = x ∧ com = S := by
        rcases hSeen with ⟨g1, _⟩ | ⟨_, ⟨T1, a1, a2, a3⟩, g2, g3⟩
        · exact absurd hSc (g1 S hS)
        · have b1 := g2 S hS hSc
          have b2 := (hmin T1 a2).1
          have hb : best = x := by omega
          refine ⟨hb, Nat.eq_of_testBit_eq fun q => ?_⟩
          rw [Bool.eq_iff_iff, g3 q]
          exact ⟨fun hall => hall S hS hSc (by omega), fun hq T hT hT2 he => (hmin T hT2).2 (by omega) q hq⟩
      obtain ⟨rfl, rfl⟩ := hbest
      exact hJ _ _ ⟨rfl, rfl, by simp [h1, h2, h3], by simp [h1, h2, h3], by simp [h1, h2, h3], e3, by simp [h8], by simp [h9]⟩
  · rintro A' W' hf; exact hf.elim
  · rintro ⟨tm, n, ds⟩ W3 ⟨hn, hd, h1, h2, h3, e3, h8, h9⟩
    simp only at hn hd h1 h2 h3
    subst hn; subst hd
    simp only at h8 h9
    try simp only [wpK_assoc]
    refine wpK_x1 (fun R hR => by
        simp [h3, h8, h9, l0, e3, aEnter, fun37, short_other, aCallV]; rw [callS_none]
        refine (members_wp P S (by omega) W3).mono ?_
        rintro sl W4 ⟨e34, hG⟩
        simp [h3, h8, h9, l0, e3]; exact hR sl W4 (And.intro e34 hG)) ?_
    rintro sl W4 ⟨e34, hG⟩
    exact wpK_ret ⟨.inr rfl, rfl, [.int .i64 x, sl], by simp, (hE0.trans e3).trans e34, sl, rfl, GrowsN.ints hG⟩
end Go.Proofs.YtkgfjfkgmpeobaaDoor

open Go Go.Eng
namespace Go.Proofs.YtkgfjfkgmpeobaaDoor
attribute [local congr] undef_congr WpK.congr WpS.congr WpL.congr WpC.congr WpF.congr gotS.congr callS.congr nextS.congr wantS.congr condS.congr
attribute [local irreducible] WpK
attribute [local simp] WpDr_nil WpDr_cons atS_some dwantS_true dwantS_false kindS_light kindS_float kindS_heavy lightS_value floatS_some heavyS_value heavyS_skip heavyS_enter dcallS_some doneS_eq
  isLight isFloat isPlain dLook testBit_dec dChain dLights_nil dLights_skip dLights_one dLight_nil dLight_cons dFreshes_nil dFreshes_one oneF_none oneF_some dFresh_nil dFresh_cons oneL_some oneW_true oneW_false sameV_value dPut dMay valEq arrEq listEq List.getElem?_cons Tr.get_nil dEnd
attribute [local simp] WpS_nil WpS_cons isDefer undef_false wantS_true wantS_false nextS_value nextS_skip nextS_enter callS_some gotS_some aWanted aOp aEvalF aEval opMove opAssign opPick aVal flat flat1 AAct.put opBinOp opConvert opIndex Tr.get_set Tr.get_lay aBin aResults tupled
  aCall aVals aCallB blt_dec ble_dec beq_dec aBinI_add aBinI_sub aBinI_lss aBinI_leq aBinI_gtr aBinI_geq aBinI_eql aBinI_neq index_str len_str len_slice Nat.beq_refl und2 und3 und4 und5 und39 und76 und82 und115 und22 und29 und25 und33 und46 und43 und49 und111 und113 field151 field155_0 field155_1 field155_2 field155_3 field155_4
  field78 field106 field24 field31 field27 field35 field108 field109 opBox opLoad opFieldAddr opIndexAddr acells aAddr opExtract aExtract opUnOp opAlloc opStore opMakeInterface opNilCheck opBuild aParts opBuildSlice aValW
set_option maxHeartbeats 4000000
set_option linter.unusedSimpArgs false
set_option linter.unusedVariables false
theorem flowMost_wp {W : AW} {v0 : Value} (P0 oa ob : Int) {l0 : List Tri} (h0 : TriIn W v0 l0) (hlen0 : l0.length < 9223372036854775808) (htb : tabsIn T0 T0.tabs W = true) (hW0 : 0 < W.next) :
    WpF T0 4 [.agg ⟨[.int .i64 P0, v0]⟩, .agg ⟨[.int .i64 oa, .int .i64 ob]⟩] W (fun u _ => u = .bool true) := by
  refine wpF fun4 rfl ?_
  obtain ⟨W1, hW1, hE1, hn1, hV3, hV4⟩ : ∃ W1, W1 = (W.newCells 24 [.int .i64 P0, v0]).newCells 28 [.int .i64 oa, .int .i64 ob] ∧ Ext W W1 ∧ W1.next = W.next + 2 ∧ Var W1 W.next 24 [.int .i64 P0, v0] ∧ Var W1 (W.next + 1) 28 [.int .i64 oa, .int .i64 ob] :=
    ⟨_, rfl, (Only.newCells _ _ _).trans (Only.newCells _ _ _), rfl, (Var.new _ _ _).ext (.newCells _ _ _), Var.new _ _ _⟩
  have hl3 := load24 hV3
  try simp only [wpK_assoc]
  refine wpK_reg (fun R hR => by simp [newCells_next, ← hW1]; exact hR) ?_
  try simp only [wpK_assoc]
  refine wpK_x4 (fun R hR => by
    simp [hl3, aEnter, fun30, short_other, aCallV]; rw [callS_none]
    refine (tame_wp 9 24 (by omega) (by omega) (by omega) P0 (h0.ext hE1) hlen0).mono ?_
    rintro _ W2 ⟨hE2, P, l, v, hT, rfl, hG⟩
    obtain ⟨av, cv, hvs⟩ := hG.len
    obtain ⟨W3, s1, s2, hE3, hVx⟩ := storeVar_new (T := T0) (W := W2) (t := 24) (v := .agg ⟨[.int .i64 P, v]⟩) (z := [.int .i64 0, .slice none 0 0]) inf24 (by rw [is24]; rfl) (by rw [is24]; rfl) (by rw [hvs]; rfl)
    simp [zero24, s1]
    exact hR P l v W2 W3 (And.intro (hE2.trans hE3) (And.intro hT (And.intro hVx ((hG.tri).ext hE3))))) ?_
  rintro P l v W2 W3 ⟨hE3, hT, hVx, hTri⟩
  generalize hpx : W2.next = px at hVx
  have hP2 := hT.P2
  have hPle := hT.Ple
  have hok := hT.plan (by omega) (by omega)
  have hll := hT.len
  have hin := arcsQ_in hok
  have hTb3 := tabs_ext htb hW0 (hE1.trans hE3)
  have h03 : 0 < W3.next := Nat.lt_of_lt_of_le hW0 (hE1.trans hE3).1
  have hl43 : ∀ W', Ext W3 W' → aLoadVar T0 W' 28 (W.next + 1) 0 = some (.agg ⟨[.int .i64 oa, .int .i64 ob]⟩) := fun W' h => ((hV4.ext hE3).ext h).load (T := T0) (t := 28) und28 rfl (show T0.info.get 28 = some Tryd.t28 by kernel_rfl) (show Tryd.t28.size = _ by kernel_rfl)
  have LP : ∀ W', Ext W3 W' → aLoadVar T0 W' 3 px 0 = some (.int .i64 P) := fun W' h => (hVx.ext h).load1 (T := T0) und3 rfl (j := 0) (v := .int .i64 P) rfl
  have Lx : ∀ W', Ext W3 W' → aLoadVar T0 W' 24 px 0 = some (.agg ⟨[.int .i64 P, v]⟩) := fun W' h => load24 (hVx.ext h)
  have e33 : Ext W3 W3 := .refl _ _
  have Tb : ∀ {W'}, Ext W3 W' → tabsIn T0 T0.tabs W' = true := fun h => tabs_ext hTb3 h03 h
  have N0 : ∀ {W'}, Ext W3 W' → 0 < W'.next := fun h => Nat.lt_of_lt_of_le h03 h.1
  try simp only [wpK_assoc]
  refine wpK_x2 (fun R hR => by
      simp [LP, hl43, e33, aEnter, fun31, short_other, aCallV]; rw [callS_none]
      refine (ends_wp P oa ob hP2 (by omega)).mono ?_
      rintro _ W4 ⟨f1, s, t, rfl, hst, hsP, htP, hne⟩
      simp [LP, hl43, e33]; exact hR s t W4 (And.intro f1 (And.intro hst (And.intro hsP (And.intro htP hne))))) ?_
  rintro s t W4 ⟨f1, hst, hsP, htP, hne⟩
  try simp only [wpK_assoc]
  refine wpK_x5 (fun R hR => by
    simp [Lx, f1, aEnter, fun12, short_other, aCallV]; rw [callS_none]
    refine (net_wp (P := (P : Int)) (hTri.ext f1) (by omega)).mono ?_
    rintro _ W5 ⟨g1, vn, rfl, hGn⟩
    have e5 := f1.trans g1
    simp [aEnter, fun19, short_other, aCallV]; rw [callS_none]
    refine (most_ok (P := (P : Int)) hGn.tri hok hst (Tb e5) (N0 e5)).mono ?_
    rintro _ W6 ⟨g2, x, rm, lv, b, rfl, hb, hVf, hF⟩
    simp; exact hR x rm lv b vn W6 (And.intro (e5.trans g2) (And.intro hVf hF))) ?_
  rintro x rm lv bf vn W6 ⟨e6, hVf, hF⟩
  try simp only [wpK_assoc]
  refine wpK_x5 (fun R hR => by
    simp [Lx, e6, aEnter, fun12, short_other, aCallV]; rw [callS_none]
    refine (net_wp (P := (P : Int)) (hTri.ext e6) (by omega)).mono ?_
    rintro _ W7 ⟨g1, vn2, rfl, hGn⟩
    have e7 := e6.trans g1
    simp [aEnter, fun20, short_other, aCallV]; rw [callS_none]
    refine (cut_ok (P := (P : Int)) hGn.tri hok hst (Tb e7) (N0 e7)).mono ?_
    rintro _ W8 ⟨g2, x2, rm2, lv2, sl, rfl, hGs, hF2⟩
    simp; exact hR x2 rm2 lv2 sl vn2 W8 (And.intro (g1.trans g2) (And.intro (GrowsN.ints hGs) hF2))) ?_
  rintro x2 rm2 lv2 sl vn2 W8 ⟨g8, hIs, hF2⟩
  have e8 := e6.trans g8
  obtain ⟨nb, nlt⟩ := near_in hin hsP hF2
  rw [memb_more nb 24 (by omega)] at hIs
  obtain ⟨c1, c2, c3, c4⟩ := filled_capQ hin (by omega) (by omega) hF
  obtain ⟨d1, d2, d3, d4⟩ := filled_capQ hin (by omega) (by omega) hF2
  have hxx : x2 = x := by
    have h1 := (c1 _ d3 d4).1
    have h2 := (d1 _ c3 c4).1
    omega
  subst hxx
  have hml := memb_len P (nearS lv2 24)
  obtain ⟨fcap, fnet⟩ := flow_is hin hF
  have hfl : isFl P s t l (flowOf rm l.length) := ⟨flowOf_len _ _, fcap, fun p hp h1 h2 => by rw [fnet p, if_neg (fun e => h1 e.symm), if_neg (fun e => h2 e.symm)]; rfl⟩
  have hfv : netZ (l.zip (flowOf rm l.length)) s = x2 := by rw [fnet s, if_pos rfl, if_neg (fun e => hne e.symm)]; omega
  -- the reference
  have hls := fun (W' : AW) (h' : TriIn W' v l) => least32_wp (P := P) (s := s) (t := t) (S := nearS lv2 24) (x := x2) h' hok (by omega) hsP htP nlt ⟨d3, d4⟩ d2 (fun T hc => ⟨(d1 T hc.1 hc.2).1, fun he q hq => by
    rw [nearS_bit] at hq
    simp only [Bool.and_eq_true, decide_eq_true_eq] at hq
    exact (d1 T hc.1 hc.2).2 he q hq.1 hq.2⟩)
  try simp only [wpK_assoc]
  refine wpK_x1 (fun R hR => by
      simp [Lx, e8, aEnter, fun32, short_other, aCallV]; rw [callS_none]
      refine (hls W8 (hTri.ext e8)).mono ?_
      rintro _ W9 ⟨g9, sl2, rfl, hIs2⟩
      simp [Lx, e8]; exact hR sl2 W9 (And.intro g9 hIs2)) ?_
  rintro sl2 W9 ⟨g9, hIs2⟩
  have e9 := e8.trans g9
  have hIf : ∀ {W'}, Ext W6 W' → IntL W' (.slice (some ⟨bf, 0, none⟩) l.length (2 * l.length)) (flowOf rm l.length) := fun h => var_ints (hVf.ext h) (flowOf_len _ _)
  try simp only [wpK_assoc]
  refine wpK_x0 (fun R hR => by
    simp [Lx, e9, aEnter, fun33, short_other, aCallV]; rw [callS_none]
    refine (refIsFlow_wp (P := P) (hTri.ext e9) (hIf (g8.trans g9)) hok hst (by rw [flowOf_len]; omega)).mono ?_
    rintro u W10 ⟨g10, ⟨_, rfl⟩ | ⟨hn, _⟩⟩
    · simp [hfv]; exact hR W10 g10
    · exact absurd hfl hn) ?_
  rintro W10 g10
  have e10 := e9.trans g10
  have hsm := same_wp ((hIs.ext g9).ext g10) (hIs2.ext g10) (by omega)
  rw [decide_eq_true rfl] at hsm
  try simp only [wpK_assoc]
  refine wpK_reg (fun R hR => by
      simp [aEnter, fun34, short_other, aCallV]; rw [callS_none]
      refine (hsm).mono ?_
      rintro _ W9 ⟨e9, rfl⟩; subst W9
      simp []; exact hR) ?_
  try simp only [wpK_assoc]
  first | refine wpK_onF (by simp []) ?_ | refine wpK_out (by simp []) ?_ | refine wpK_condF (by simp []) ?_ | refine wpK_endF (by simp []) (wpK_skip ?_) | refine wpK_endF (by simp []) ?_
  try simp only [wpK_assoc]
  refine wpK_x1 (fun R hR => by
    simp [Lx, e10, aEnter, fun12, short_other, aCallV]; rw [callS_none]
    refine (net_wp (P := (P : Int)) (hTri.ext e10) (by omega)).mono ?_
    rintro _ W11 ⟨g1, vn3, rfl, hGn⟩
    simp [aEnter, fun22, short_other, aCallV]; rw [callS_none]
    refine (isFlow_wp (P := P) hGn.tri (hIf (((g8.trans g9).trans g10).trans g1)) hok hst).mono ?_
    rintro u W12 ⟨g2, ⟨_, rfl⟩ | ⟨hn, _⟩⟩
    · simp [hfv]; exact hR vn3 W12 (g1.trans g2)
    · exact absurd hfl hn) ?_
  rintro vn3 W12 g12
  have ht12 := Tb (e10.trans g12)
  try simp only [wpK_assoc]
  refine wpK_reg (fun R hR => by simp [aEnter, fun26, short_awake, aCallV, ht12]; exact hR) ?_
  exact wpK_ret ⟨.inr rfl, rfl, [.bool true], by simp, rfl⟩
end Go.Proofs.YtkgfjfkgmpeobaaDoor
