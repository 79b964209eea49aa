import Derived.Test.YtkipaffjmcmclaaDoorP50
set_option linter.unusedSimpArgs false
set_option linter.unusedVariables false
set_option linter.unusedSectionVars false
open Go Go.Eng
namespace Go.Proofs.YtkipaffjmcmclaaDoor
attribute [local congr] undef_congr WpK.congr WpS.congr WpL.congr WpC.congr WpF.congr gotS.congr callS.congr nextS.congr wantS.congr condS.congr
attribute [local irreducible] WpK
attribute [local simp] WpDr_nil WpDr_cons atS_some dwantS_true dwantS_false kindS_light kindS_float kindS_heavy lightS_value floatS_some heavyS_value heavyS_skip heavyS_enter dcallS_some doneS_eq
  isLight isFloat isPlain dLook testBit_dec dChain dLights_nil dLights_skip dLights_one dLight_nil dLight_cons dFreshes_nil dFreshes_one oneF_none oneF_some dFresh_nil dFresh_cons oneL_some oneW_true oneW_false sameV_value dPut dMay valEq arrEq listEq List.getElem?_cons Tr.get_nil dEnd
attribute [local simp] WpS_nil WpS_cons isDefer undef_false wantS_true wantS_false nextS_value nextS_skip nextS_enter callS_some gotS_some aWanted aOp aEvalF aEval opMove opAssign opPick aVal flat flat1 AAct.put opBinOp opConvert opIndex Tr.get_set Tr.get_lay aBin aResults tupled
  aCall aVals aCallB blt_dec ble_dec beq_dec aBinI_add aBinI_sub aBinI_lss aBinI_leq aBinI_gtr aBinI_geq aBinI_eql aBinI_neq index_str len_str len_slice Nat.beq_refl und2 und3 und4 und5 und39 und76 und82 und116 und22 und29 und25 und33 und46 und43 und49 und111 und113 field152 field156_0 field156_1 field156_2 field156_3 field156_4
  field78 field106 field24 field31 field27 field35 field108 field109 opBox opLoad opFieldAddr opIndexAddr acells aAddr opExtract aExtract opUnOp opAlloc opStore opMakeInterface opNilCheck opBuild aParts opBuildSlice aValW
set_option maxHeartbeats 4000000
set_option linter.unusedSimpArgs false
set_option linter.unusedVariables false
/-! ### the law FlowJudges -/
theorem z3' : Tryd.t3.zero = some (.int .i64 0) := z3
theorem by3' : Tryd.t3.bytes = 8 := by3
theorem conv_3_76 (W : AW) (k : IntKind) (n : Int) : aConv T0 W 3 76 (.int k n) = some (.int .u64 (IntKind.u64.wrap n)) := by kernel_rfl
theorem conv_76_3 (W : AW) (k : IntKind) (n : Int) : aConv T0 W 76 3 (.int k n) = some (.int .i64 (IntKind.i64.wrap n)) := by kernel_rfl
theorem isFl_dec (P s t : Nat) (l : List Tri) (fl : List Int) : isFl P s t l fl ∨ ¬ isFl P s t l fl := Classical.em _
theorem flowJudges_wp {W : AW} {v0 vL : Value} (P0 oa ob : Int) {l0 : List Tri} {lL : List Int} (h0 : TriIn W v0 l0) (hlen0 : l0.length < 9223372036854775808) (hL : IntL W vL lL) (hSL : SlOk vL lL.length) (hlenL : lL.length < 9223372036854775808) (htb : tabsIn T0 T0.tabs W = true) (hW0 : 0 < W.next) :
    WpF T0 5 [.agg ⟨[.int .i64 P0, v0]⟩, .agg ⟨[.int .i64 oa, .int .i64 ob]⟩, vL] W (fun u _ => u = .bool true) := by
  refine wpF fun5 rfl ?_
  obtain ⟨W1, hW1, hE1, hn1, hV3, hV4⟩ : ∃ W1, W1 = (W.newCells 24 [.int .i64 P0, v0]).newCells 28 [.int .i64 oa, .int .i64 ob] ∧ Ext W W1 ∧ W1.next = W.next + 2 ∧ Var W1 W.next 24 [.int .i64 P0, v0] ∧ Var W1 (W.next + 1) 28 [.int .i64 oa, .int .i64 ob] :=
    ⟨_, rfl, (Only.newCells _ _ _).trans (Only.newCells _ _ _), rfl, (Var.new _ _ _).ext (.newCells _ _ _), Var.new _ _ _⟩
  have hl3 := load24 hV3
  try simp only [wpK_assoc]
  refine wpK_reg (fun R hR => by simp [newCells_next, ← hW1]; exact hR) ?_
  try simp only [wpK_assoc]
  refine wpK_x4 (fun R hR => by
    simp [hl3, aEnter, fun30, short_other, aCallV]; rw [callS_none]
    refine (tame_wp 6 8 (by omega) (by omega) (by omega) P0 (h0.ext hE1) hlen0).mono ?_
    rintro _ W2 ⟨hE2, P, l, v, hT, rfl, hG⟩
    obtain ⟨av, cv, hvs⟩ := hG.len
    obtain ⟨W3, s1, s2, hE3, hVx⟩ := storeVar_new (T := T0) (W := W2) (t := 24) (v := .agg ⟨[.int .i64 P, v]⟩) (z := [.int .i64 0, .slice none 0 0]) inf24 (by rw [is24]; rfl) (by rw [is24]; rfl) (by rw [hvs]; rfl)
    simp [zero24, s1]
    exact hR P l v W2 W3 (And.intro (hE2.trans hE3) (And.intro hT (And.intro hVx ((hG.tri).ext hE3))))) ?_
  rintro P l v W2 W3 ⟨hE3, hT, hVx, hTri⟩
  generalize hpx : W2.next = px at hVx
  have hP2 := hT.P2
  have hPle := hT.Ple
  have hok := hT.plan (by omega) (by omega)
  have hll := hT.len
  have hin := arcsQ_in hok
  have hTb3 := tabs_ext htb hW0 (hE1.trans hE3)
  have h03 : 0 < W3.next := Nat.lt_of_lt_of_le hW0 (hE1.trans hE3).1
  have hl43 : ∀ W', Ext W3 W' → aLoadVar T0 W' 28 (W.next + 1) 0 = some (.agg ⟨[.int .i64 oa, .int .i64 ob]⟩) := fun W' h => ((hV4.ext hE3).ext h).load (T := T0) (t := 28) und28 rfl (show T0.info.get 28 = some Tryd.t28 by kernel_rfl) (show Tryd.t28.size = _ by kernel_rfl)
  have hl40 : ∀ W', Ext W3 W' → aLoadVar T0 W' 3 (W.next + 1) 0 = some (.int .i64 oa) := fun W' h => ((hV4.ext hE3).ext h).load1 (T := T0) und3 rfl (j := 0) (v := .int .i64 oa) rfl
  have LP : ∀ W', Ext W3 W' → aLoadVar T0 W' 3 px 0 = some (.int .i64 P) := fun W' h => (hVx.ext h).load1 (T := T0) und3 rfl (j := 0) (v := .int .i64 P) rfl
  have L1 : ∀ W', Ext W3 W' → aLoadVar T0 W' 22 px 1 = some v := fun W' h => (hVx.ext h).load1 (T := T0) und22 rfl (j := 1) (v := v) rfl
  have Lx : ∀ W', Ext W3 W' → aLoadVar T0 W' 24 px 0 = some (.agg ⟨[.int .i64 P, v]⟩) := fun W' h => load24 (hVx.ext h)
  have e33 : Ext W3 W3 := .refl _ _
  have Tb : ∀ {W'}, Ext W3 W' → tabsIn T0 T0.tabs W' = true := fun h => tabs_ext hTb3 h03 h
  have N0 : ∀ {W'}, Ext W3 W' → 0 < W'.next := fun h => Nat.lt_of_lt_of_le h03 h.1
  have E0 : Ext W W3 := hE1.trans hE3
  try simp only [wpK_assoc]
  refine wpK_x2 (fun R hR => by
      simp [LP, hl43, e33, aEnter, fun31, short_other, aCallV]; rw [callS_none]
      refine (ends_wp P oa ob hP2 (by omega)).mono ?_
      rintro _ W4 ⟨f1, s, t, rfl, hst, hsP, htP, hne⟩
      simp [LP, hl43, e33]; exact hR s t W4 (And.intro f1 (And.intro hst (And.intro hsP (And.intro htP hne))))) ?_
  rintro s t W4 ⟨f1, hst, hsP, htP, hne⟩
  -- the own numbers
  obtain ⟨kk, hkk⟩ : ∃ k : Nat, k = min lL.length 10 := ⟨_, rfl⟩
  have hmk : min (lL.length : Int) 10 = (kk : Int) := by omega
  obtain ⟨As, cs, hsl, hIs, hshape⟩ := slice_ints und43 sz2 hSL (hL.ext E0) (k := kk) (by omega)
  have hlk : (lL.take kk).length = kk := by rw [List.length_take]; omega
  obtain ⟨ov, W5, ha1, hE5, hI5⟩ := app_ints (hIs.ext f1) (by omega) (fun e => hshape (by omega))
  rw [hlk] at ha1
  obtain ⟨aL, cL, hvL⟩ : ∃ A c, vL = .slice A lL.length c := let ⟨A, c, h, _⟩ := hL; ⟨A, c, h⟩
  have hlenV : ∀ W', aLen T0 W' 43 vL = some (.int .i64 lL.length) := fun W' => by rw [hvL]; exact len_slice und43 _ _ _
  try simp only [wpK_assoc]
  refine wpK_reg (fun R hR => by simp []; exact hR) ?_
  try simp only [wpK_assoc]
  refine wpK_reg (fun R hR => by simp [opSlice, aOpt, hlenV, min_int, hmk, hsl, ha1]; exact hR) ?_
  try simp only [wpK_assoc]
  refine wpK_reg (fun R hR => by simp []; exact hR) ?_
  have e5 : Ext W3 W5 := f1.trans hE5
  have vvv := tri_eq hTri
  obtain ⟨av, cv, hvs⟩ := tri_len hTri
  have hlen22 : ∀ W', aLen T0 W' 22 v = some (.int .i64 l.length) := fun W' => by rw [hvs]; exact len_slice und22 _ _ _
  try simp only [wpK_assoc]
  refine wpK_while (I := fun k B W' => B.n = 207 ∧ B.defers = [] ∧ B.tmps.get 2 = some (vL) ∧ B.tmps.get 4 = some (.pointer (some ⟨W.next + 1, 0, none⟩)) ∧ B.tmps.get 7 = some (.pointer (some ⟨px, 0, none⟩)) ∧ B.tmps.get 8 = some (.int .i64 s) ∧ B.tmps.get 9 = some (.int .i64 t) ∧ Ext W3 W' ∧ ∃ (i : Nat) (own : Value) (L : List Int), k = 3 - i ∧ i ≤ 3 ∧ B.tmps.get 11 = some (.int .i64 i) ∧ B.tmps.get 10 = some own ∧ IntL W' own L ∧ L.length ≤ 1000)
    (J := fun B W' => B.n = 207 ∧ B.defers = [] ∧ B.tmps.get 2 = some (vL) ∧ B.tmps.get 4 = some (.pointer (some ⟨W.next + 1, 0, none⟩)) ∧ B.tmps.get 7 = some (.pointer (some ⟨px, 0, none⟩)) ∧ B.tmps.get 8 = some (.int .i64 s) ∧ B.tmps.get 9 = some (.int .i64 t) ∧ Ext W3 W') (Rt := fun _ _ => False) (k := 3) ?_ ?_ ?_ ?_
  · exact ⟨rfl, rfl, by simp [hpx], by simp [hpx], by simp [hpx], by simp [hpx], by simp [hpx], e5, 0, ov, lL.take kk, rfl, by omega, by simp, by simp, hI5, by omega⟩
  · rintro k ⟨tm, n, ds⟩ W6 ⟨hn, hd, h2, h4, h7, h8, h9, e6, i, own, L, hk, hi, h11, h10, hIo, hLo⟩ Q' hJ hRt hI
    simp only at hn hd h2 h4 h7 h8 h9
    subst hn; subst hd
    simp only at h11 h10
    by_cases hlt : i < 3
    case neg =>
      have hlt' : ¬ (i : Int) < 3 := by omega
      try simp only [wpK_assoc]
      refine wpK_reg (fun R hR => by simp [h11, hlt']; exact hR) ?_
      try simp only [wpK_assoc]
      first | refine wpK_onF (by simp []) ?_ | refine wpK_out (by simp []) ?_ | refine wpK_condF (by simp []) ?_ | refine wpK_endF (by simp []) (wpK_skip ?_) | refine wpK_endF (by simp []) ?_
      exact hJ _ _ ⟨rfl, rfl, by simp [h2, h4, h7, h8, h9], by simp [h2, h4, h7, h8, h9], by simp [h2, h4, h7, h8, h9], by simp [h2, h4, h7, h8, h9], by simp [h2, h4, h7, h8, h9], e6⟩
    have hlt' : (i : Int) < 3 := by omega
    try simp only [wpK_assoc]
    refine wpK_reg (fun R hR => by simp [h11, hlt']; exact hR) ?_
    try simp only [wpK_assoc]
    first | refine wpK_onT (by simp []) ?_ | refine wpK_outT (by simp []) ?_ | refine wpK_condT (by simp []) ?_ | refine wpK_endT (by simp []) ?_
    have hsi : IntKind.i64.wrap ((i : Int) + 1) = ((i + 1 : Nat) : Int) := i64_succ i (by omega)
    have fin : ∀ (tm' : Tr Value) (W' : AW) (own' : Value) (L' : List Int), Ext W3 W' → tm'.get 2 = some vL → tm'.get 4 = some (.pointer (some ⟨W.next + 1, 0, none⟩)) → tm'.get 7 = some (.pointer (some ⟨px, 0, none⟩)) → tm'.get 8 = some (.int .i64 s) → tm'.get 9 = some (.int .i64 t) → tm'.get 11 = some (.int .i64 ((i + 1 : Nat) : Int)) → tm'.get 10 = some own' → IntL W' own' L' → L'.length ≤ 1000 → Q' .normal ⟨tm', 207, []⟩ W' :=
      fun tm' W' own' L' e' x2 x4 x7 x8 x9 x11 x10 hI' hL' => hI (k - 1) _ _ (by omega) ⟨rfl, rfl, x2, x4, x7, x8, x9, e', i + 1, own', L', by omega, by omega, x11, x10, hI', hL'⟩
    refine wpK_block ?_
    -- both judges
    obtain ⟨r1, r2, hr⟩ : ∃ (r1 : Int) (r2 : Bool), (isFl P s t l L ∧ r1 = netZ (l.zip L) s ∧ r2 = true) ∨ (¬ isFl P s t l L ∧ r1 = 0 ∧ r2 = false) := by
      rcases isFl_dec P s t l L with h | h
      · exact ⟨_, _, .inl ⟨h, rfl, rfl⟩⟩
      · exact ⟨_, _, .inr ⟨h, rfl, rfl⟩⟩
    have judge1 : ∀ {W' : AW} {v' : Value}, Ext W6 W' → TriIn W' v' l → WpF T0 22 [.agg ⟨[.int .i64 P, v']⟩, .int .i64 s, .int .i64 t, own] W' (fun u W'' => Ext W' W'' ∧ u = .tuple ⟨[.int .i64 r1, .bool r2]⟩) := fun {W' v'} hx hv' => by
      refine (isFlow_wp (P := P) hv' (hIo.ext hx) hok hst).mono ?_
      rintro u W'' ⟨g, ⟨g1, rfl⟩ | ⟨g1, rfl⟩⟩
      · rcases hr with ⟨_, rfl, rfl⟩ | ⟨hn, _⟩
        · exact ⟨g, rfl⟩
        · exact absurd g1 hn
      · rcases hr with ⟨hy, _⟩ | ⟨_, rfl, rfl⟩
        · exact absurd hy g1
        · exact ⟨g, rfl⟩
    have judge2 : ∀ {W' : AW} {v' : Value}, Ext W6 W' → TriIn W' v' l → WpF T0 33 [.agg ⟨[.int .i64 P, v']⟩, .int .i64 s, .int .i64 t, own] W' (fun u W'' => Ext W' W'' ∧ u = .tuple ⟨[.int .i64 r1, .bool r2]⟩) := fun {W' v'} hx hv' => by
      refine (refIsFlow_wp (P := P) hv' (hIo.ext hx) hok hst (by omega)).mono ?_
      rintro u W'' ⟨g, ⟨g1, rfl⟩ | ⟨g1, rfl⟩⟩
      · rcases hr with ⟨_, rfl, rfl⟩ | ⟨hn, _⟩
        · exact ⟨g, rfl⟩
        · exact absurd g1 hn
      · rcases hr with ⟨hy, _⟩ | ⟨_, rfl, rfl⟩
        · exact absurd hy g1
        · exact ⟨g, rfl⟩
    clear hr
    try simp only [wpK_assoc]
    refine wpK_x1 (fun R hR => by
      simp [h7, Lx, e6, aEnter, fun12, short_other, aCallV]; rw [callS_none]
      refine (net_wp (P := (P : Int)) (hTri.ext e6) (by omega)).mono ?_
      rintro _ W7 ⟨g1, vn, rfl, hGn⟩
      simp [h8, h9, h10, aEnter, fun22, short_other, aCallV]; rw [callS_none]
      refine (judge1 g1 hGn.tri).mono ?_
      rintro _ W8 ⟨g2, rfl⟩
      simp; exact hR vn W8 (g1.trans g2)) ?_
    rintro vn W8 g8
    have e8 := e6.trans g8
    try simp only [wpK_assoc]
    refine wpK_x0 (fun R hR => by
        simp [h7, h8, h9, h10, Lx, e8, aEnter, fun33, short_other, aCallV]; rw [callS_none]
        refine (judge2 g8 (hTri.ext e8)).mono ?_
        rintro _ W9 ⟨g9, rfl⟩
        simp [h7, h8, h9, h10, Lx, e8]; exact hR W9 g9) ?_
    rintro W9 g9
    have e9 := e8.trans g9
    try simp only [wpK_assoc]
    refine wpK_reg (fun R hR => by simp [aGuard, aBinO, aEq, und4]; exact hR) ?_
    try simp only [wpK_assoc]
    first | refine wpK_onF (by simp []) ?_ | refine wpK_out (by simp []) ?_ | refine wpK_condF (by simp []) ?_ | refine wpK_endF (by simp []) (wpK_skip ?_) | refine wpK_endF (by simp []) ?_
    try simp only [wpK_assoc]
    refine wpK_reg (fun R hR => by simp [h11]; exact hR) ?_
    have finB : ∀ (tm' : Tr Value) (W' : AW) (own' : Value) (L' : List Int), Ext W3 W' → tm'.get 2 = some vL → tm'.get 4 = some (.pointer (some ⟨W.next + 1, 0, none⟩)) → tm'.get 7 = some (.pointer (some ⟨px, 0, none⟩)) → tm'.get 8 = some (.int .i64 s) → tm'.get 9 = some (.int .i64 t) → tm'.get 11 = some (.int .i64 i) → tm'.get 10 = some own' → IntL W' own' L' → L'.length ≤ 1000 → True := fun _ _ _ _ _ _ _ _ _ _ _ _ _ _ => trivial
    clear finB
    by_cases hi0 : i = 0
    · subst hi0
      -- numbers below the capacities
      simp only [Int.natCast_zero] at h11 hsi
      refine wpK_condT (by simp) ?_
      try simp only [wpK_assoc]
      refine wpK_reg (fun R hR => by simp []; exact hR) ?_
      try simp only [wpK_assoc]
      refine wpK_reg (fun R hR => by simp []; exact hR) ?_
      try simp only [wpK_assoc]
      refine wpK_while (I := fun k B W' => B.n = 207 ∧ B.defers = [] ∧ B.tmps.get 2 = some (vL) ∧ B.tmps.get 4 = some (.pointer (some ⟨W.next + 1, 0, none⟩)) ∧ B.tmps.get 7 = some (.pointer (some ⟨px, 0, none⟩)) ∧ B.tmps.get 8 = some (.int .i64 s) ∧ B.tmps.get 9 = some (.int .i64 t) ∧ B.tmps.get 11 = some (.int .i64 0) ∧ Ext W3 W' ∧ W9.next ≤ W'.next ∧ ∃ (j : Nat) (w : Value) (M : List Int), k = l.length - j ∧ j ≤ l.length ∧ M.length = j ∧ B.tmps.get 16 = some (.int .i64 j) ∧ B.tmps.get 10 = some w ∧ GrowsN W' w M.length (intsV M) 2 1 (fun b => W9.next ≤ b))
        (J := fun B W' => B.n = 207 ∧ B.defers = [] ∧ B.tmps.get 2 = some (vL) ∧ B.tmps.get 4 = some (.pointer (some ⟨W.next + 1, 0, none⟩)) ∧ B.tmps.get 7 = some (.pointer (some ⟨px, 0, none⟩)) ∧ B.tmps.get 8 = some (.int .i64 s) ∧ B.tmps.get 9 = some (.int .i64 t) ∧ B.tmps.get 11 = some (.int .i64 0) ∧ Ext W3 W' ∧ ∃ (w : Value) (M : List Int), B.tmps.get 10 = some w ∧ IntL W' w M ∧ M.length ≤ 1000) (Rt := fun _ _ => False) (k := l.length) ?_ ?_ ?_ ?_
      · exact ⟨rfl, rfl, by simp [h2, h4, h7, h8, h9, h11], by simp [h2, h4, h7, h8, h9, h11], by simp [h2, h4, h7, h8, h9, h11], by simp [h2, h4, h7, h8, h9, h11], by simp [h2, h4, h7, h8, h9, h11], by simp [h2, h4, h7, h8, h9, h11], e9, Nat.le_refl _, 0, .slice none 0 0, [], by simp, by omega, rfl, by simp, by simp, .nil _ _ _ _⟩
      · rintro kq ⟨tm, n, ds⟩ W10 ⟨hn, hd, h2, h4, h7, h8, h9, h11, e10, n10, j, w, M, hkq, hj, hM, h16, h10, hG⟩ Q3 hJ3 hRt3 hI3
        simp only at hn hd h2 h4 h7 h8 h9 h11
        subst hn; subst hd
        simp only at h16 h10
        try simp only [wpK_assoc]
        refine wpK_reg (fun R hR => by simp [h7, h16, L1, e10, hlen22]; exact hR) ?_
        by_cases hltj : j < l.length
        case neg =>
          try simp only [wpK_assoc]
          first | refine wpK_onF (by simp [hltj]) ?_ | refine wpK_out (by simp [hltj]) ?_ | refine wpK_condF (by simp [hltj]) ?_ | refine wpK_endF (by simp [hltj]) (wpK_skip ?_) | refine wpK_endF (by simp [hltj]) ?_
          exact hJ3 _ _ ⟨rfl, rfl, by simp [h2, h4, h7, h8, h9, h11], by simp [h2, h4, h7, h8, h9, h11], by simp [h2, h4, h7, h8, h9, h11], by simp [h2, h4, h7, h8, h9, h11], by simp [h2, h4, h7, h8, h9, h11], by simp [h2, h4, h7, h8, h9, h11], e10, w, M, by simp [h10], GrowsN.ints hG, by omega⟩
        try simp only [wpK_assoc]
        first | refine wpK_onT (by simp [hltj]) ?_ | refine wpK_outT (by simp [hltj]) ?_ | refine wpK_condT (by simp [hltj]) ?_ | refine wpK_endT (by simp [hltj]) ?_
        refine wpK_block ?_
        try simp only [wpK_assoc]
        refine wpK_reg (fun R hR => by simp []; exact hR) ?_
        try simp only [wpK_assoc]
        refine wpK_reg (fun R hR => by simp [h2, h16, hlenV]; exact hR) ?_
        try simp only [wpK_assoc]
        refine wpK_cut (J := fun B W' => B.n = 207 ∧ B.defers = [] ∧ B.tmps.get 2 = some (vL) ∧ B.tmps.get 4 = some (.pointer (some ⟨W.next + 1, 0, none⟩)) ∧ B.tmps.get 7 = some (.pointer (some ⟨px, 0, none⟩)) ∧ B.tmps.get 8 = some (.int .i64 s) ∧ B.tmps.get 9 = some (.int .i64 t) ∧ B.tmps.get 11 = some (.int .i64 0) ∧ W' = W10 ∧ B.tmps.get 16 = some (.int .i64 j) ∧ B.tmps.get 10 = some w ∧ ∃ f : Int, B.tmps.get 17 = some (.int .i64 f)) (fun Q2 hQ2 => ?_) ?_
        · by_cases hjL : j < lL.length
          · have ha : l[j]? = some l[j] := List.getElem?_eq_getElem hltj
            have hmem : l[j] ∈ l := List.getElem_mem hltj
            have hb : lL[j]? = some lL[j] := List.getElem?_eq_getElem hjL
            generalize l[j] = a at ha hmem
            generalize lL[j] = y at hb
            have harc := hT.arc a hmem
            obtain ⟨_, _, e', hB2⟩ := hL
            rw [hvL] at e'
            cases e'
            obtain ⟨b', o', rfl, hhy⟩ := hB2 j y hb
            obtain ⟨_, _, e'', hA2⟩ := hTri
            rw [hvs] at e''
            cases e''
            obtain ⟨b, o, rfl, q1, q2, q3⟩ := hA2 j a ha
            have eF := indexAddr_slice (T := T0) und43 sz2 (b := b') (o := o') (c := cL) (k := .i64) hjL
            rw [Nat.mul_one, ← hvL] at eF
            have eV := indexAddr_tri (T := T0) und22 sz78 (b := b) (o := o) (c := cv) (k := .i64) hltj
            rw [← hvs] at eV
            have lF := load_of und2 rfl (hhy.ext (E0.trans e10))
            have la3 := load_of und2 rfl (q3.ext e10)
            have w1 : IntKind.i64.wrap (a.2.2 + 1) = a.2.2 + 1 := IntWalk.i64_in _ (by omega)
            have w2 : IntKind.u64.wrap (a.2.2 + 1) = a.2.2 + 1 := IntWalk.u64_in _ (by omega)
            have rr := aBinI_rem .u64 (IntKind.u64.wrap y) (a.2.2 + 1) (by omega)
            refine wpK_endT (by simp [hjL]) ?_
            try simp only [wpK_assoc]
            refine wpK_qn (wr := Tr.nil |>.set 84 0 |>.set 85 1 |>.set 86 2 |>.set 87 3 |>.set 88 4 |>.set 89 5 |>.set 90 6 |>.set 91 7 |>.set 92 8 |>.set 93 9 |>.set 94 10 |>.set 95 11 |>.set 96 12 |>.set 97 13 |>.set 98 14 |>.set 17 15) (bits := Tr.nil.lay 0 [0, 0, 3, 7, 15, 0, 32, 0, 224, 480, 992, 2016, 4064, 8191, 16383, 32767]) (ord := [0, 1, 2, 3, 4, 5, 6, 7, 8, 9, 10, 11, 12, 13, 14, 15]) (by kernel_rfl) (by kernel_rfl) (by kernel_rfl) (fun G hG => by
              simp [h2, h7, h16, eF, lF, eV, la3, L1, e10, conv_2_76, conv_76_2, w1, w2, rr, vvv]
              exact hG) ?_
            exact hQ2 _ _ ⟨rfl, rfl, by simp [h2, h4, h7, h8, h9, h11], by simp [h2, h4, h7, h8, h9, h11], by simp [h2, h4, h7, h8, h9, h11], by simp [h2, h4, h7, h8, h9, h11], by simp [h2, h4, h7, h8, h9, h11], by simp [h2, h4, h7, h8, h9, h11], rfl, by simp [h16], by simp [h10], _, by simp; rfl⟩
          · refine wpK_endF (by simp [hjL]) (wpK_skip (hQ2 _ _ ⟨rfl, rfl, by simp [h2, h4, h7, h8, h9, h11], by simp [h2, h4, h7, h8, h9, h11], by simp [h2, h4, h7, h8, h9, h11], by simp [h2, h4, h7, h8, h9, h11], by simp [h2, h4, h7, h8, h9, h11], by simp [h2, h4, h7, h8, h9, h11], rfl, by simp [h16], by simp [h10], 0, by simp⟩))
        rintro ⟨tm, n, ds⟩ W11 ⟨hn, hd, h2, h4, h7, h8, h9, h11, rfl, h16, h10, f, h17⟩
        simp only at hn hd h2 h4 h7 h8 h9 h11
        subst hn; subst hd
        simp only at h16 h10 h17
        obtain ⟨w', W12, p1, p2, p3, p4⟩ := push_tmp und43 inf2 is2 z2' by2 hG (by omega) f (fun _ _ _ => trivial)
        have hsj : IntKind.i64.wrap ((j : Int) + 1) = ((j + 1 : Nat) : Int) := i64_succ j (by omega)
        try simp only [wpK_assoc]
        refine wpK_reg1 (fun R hR => by simp [h10, h17, bs43, p1]; exact hR) ?_
        try simp only [wpK_assoc]
        refine wpK_reg1 (fun R hR => by simp [h16, hsj]; exact hR) ?_
        refine hI3 (kq - 1) _ _ (by omega) ⟨rfl, rfl, by simp [h2, h4, h7, h8, h9, h11], by simp [h2, h4, h7, h8, h9, h11], by simp [h2, h4, h7, h8, h9, h11], by simp [h2, h4, h7, h8, h9, h11], by simp [h2, h4, h7, h8, h9, h11], by simp [h2, h4, h7, h8, h9, h11], ?_, by omega, j + 1, w', M ++ [f], by omega, by omega, by simp; omega, by simp, by simp, p3.mono (fun b hb => by omega)⟩
        have n39 := e9.1
        exact ⟨by omega, fun b hb hk => by rw [p4.2 b (by have := e10.1; omega) (by omega)]; exact e10.2 b hb hk⟩
      · rintro A' W' hf; exact hf.elim
      · rintro ⟨tm, n, ds⟩ W10 ⟨hn, hd, h2, h4, h7, h8, h9, h11, e10, w, M, h10, hIM, hLM⟩
        simp only at hn hd h2 h4 h7 h8 h9 h11
        subst hn; subst hd
        simp only at h10
        refine wpK_exit ?_
        simp only [behind_exit, leaves_exit, if_true, behind_normal]
        have w1 : IntKind.i64.wrap 1 = 1 := IntWalk.i64_in _ (by omega)
        try simp only [wpK_assoc]
        refine wpK_reg1 (fun R hR => by simp [h11, w1]; exact hR) ?_
        exact fin _ _ w M e10 (by simp [h2]) (by simp [h4]) (by simp [h7]) (by simp [h8]) (by simp [h9]) (by simp) (by simp [h10]) hIM hLM
    have hi0' : ¬ (i : Int) = 0 := by omega
    refine wpK_onF (by simp [hi0', hi0]) ?_
    -- the greatest flow, with an arc's number changed
    try simp only [wpK_assoc]
    refine wpK_x5 (fun R hR => by
      simp [h7, h8, h9, Lx, e9, aEnter, fun12, short_other, aCallV]; rw [callS_none]
      refine (net_wp (P := (P : Int)) (hTri.ext e9) (by omega)).mono ?_
      rintro _ W10 ⟨g1, vn2, rfl, hGn⟩
      have e10 := e9.trans g1
      simp [aEnter, h8, h9, fun19, short_other, aCallV]; rw [callS_none]
      refine (most_ok (P := (P : Int)) hGn.tri hok hst (Tb e10) (N0 e10)).mono ?_
      rintro _ W11 ⟨g2, x, rm, lv, b, rfl, hb, hVf, hF⟩
      simp; exact hR x rm lv b vn2 W11 (And.intro (e10.trans g2) (And.intro (Nat.le_trans e10.1 hb) (And.intro hVf hF)))) ?_
    rintro x rm lv bf vn2 W11 ⟨e11, hbf, hVf, hF⟩
    obtain ⟨fcap, _⟩ := flow_is hin hF
    try simp only [wpK_assoc]
    refine wpK_reg (fun R hR => by simp [len_slice und43, h7, L1, e11, hlen22]; exact hR) ?_
    try simp only [wpK_assoc]
    first | refine wpK_onF (by simp []) ?_ | refine wpK_out (by simp []) ?_ | refine wpK_condF (by simp []) ?_ | refine wpK_endF (by simp []) (wpK_skip ?_) | refine wpK_endF (by simp []) ?_
    try simp only [wpK_assoc]
    refine wpK_reg (fun R hR => by simp []; exact hR) ?_
    by_cases hll0 : 0 < l.length
    case neg =>
      have hll0' : ¬ (0 : Int) < l.length := by omega
      have hl00 : l.length = 0 := by omega
      try simp only [wpK_assoc]
      refine wpK_reg (fun R hR => by simp [h2, len_slice und43, hll0, hl00, undef]; exact hR) ?_
      refine wpK_cut1 (J := fun B W' => B.n = 207 ∧ B.defers = [] ∧ B.tmps.get 2 = some (vL) ∧ B.tmps.get 4 = some (.pointer (some ⟨W.next + 1, 0, none⟩)) ∧ B.tmps.get 7 = some (.pointer (some ⟨px, 0, none⟩)) ∧ B.tmps.get 8 = some (.int .i64 s) ∧ B.tmps.get 9 = some (.int .i64 t) ∧ W' = W11 ∧ B.tmps.get 11 = some (.int .i64 i) ∧ B.tmps.get 10 = some (.slice (some ⟨bf, 0, none⟩) l.length (2 * l.length))) (fun Q2 hQ2 => ?_) ?_
      · refine wpK_endF (by simp) (wpK_skip (hQ2 _ _ ⟨rfl, rfl, by simp [h2, h4, h7, h8, h9], by simp [h2, h4, h7, h8, h9], by simp [h2, h4, h7, h8, h9], by simp [h2, h4, h7, h8, h9], by simp [h2, h4, h7, h8, h9], rfl, by simp [h11], by simp [hl00]⟩))
      rintro ⟨tm, n, ds⟩ W12 ⟨hn, hd, h2, h4, h7, h8, h9, rfl, h11, h10⟩
      simp only at hn hd h2 h4 h7 h8 h9
      subst hn; subst hd
      simp only at h11 h10
      try simp only [wpK_assoc]
      refine wpK_reg1 (fun R hR => by simp [h11, hsi]; exact hR) ?_
      exact fin _ _ (.slice (some ⟨bf, 0, none⟩) l.length (2 * l.length)) _ e11 (by simp [h2]) (by simp [h4]) (by simp [h7]) (by simp [h8]) (by simp [h9]) (by simp) (by simp [h10]) (var_ints hVf (flowOf_len _ _)) (by rw [flowOf_len]; omega)
    by_cases hLL0 : 0 < lL.length
    case neg =>
      have hLL0' : lL.length = 0 := by omega
      try simp only [wpK_assoc]
      refine wpK_reg (fun R hR => by simp [h2, len_slice und43, hll0, hlenV, hLL0']; exact hR) ?_
      refine wpK_cut1 (J := fun B W' => B.n = 207 ∧ B.defers = [] ∧ B.tmps.get 2 = some (vL) ∧ B.tmps.get 4 = some (.pointer (some ⟨W.next + 1, 0, none⟩)) ∧ B.tmps.get 7 = some (.pointer (some ⟨px, 0, none⟩)) ∧ B.tmps.get 8 = some (.int .i64 s) ∧ B.tmps.get 9 = some (.int .i64 t) ∧ W' = W11 ∧ B.tmps.get 11 = some (.int .i64 i) ∧ B.tmps.get 10 = some (.slice (some ⟨bf, 0, none⟩) l.length (2 * l.length))) (fun Q2 hQ2 => ?_) ?_
      · refine wpK_endF (by simp) (wpK_skip (hQ2 _ _ ⟨rfl, rfl, by simp [h2, h4, h7, h8, h9], by simp [h2, h4, h7, h8, h9], by simp [h2, h4, h7, h8, h9], by simp [h2, h4, h7, h8, h9], by simp [h2, h4, h7, h8, h9], rfl, by simp [h11], by simp⟩))
      rintro ⟨tm, n, ds⟩ W12 ⟨hn, hd, h2, h4, h7, h8, h9, rfl, h11, h10⟩
      simp only at hn hd h2 h4 h7 h8 h9
      subst hn; subst hd
      simp only at h11 h10
      try simp only [wpK_assoc]
      refine wpK_reg1 (fun R hR => by simp [h11, hsi]; exact hR) ?_
      exact fin _ _ (.slice (some ⟨bf, 0, none⟩) l.length (2 * l.length)) _ e11 (by simp [h2]) (by simp [h4]) (by simp [h7]) (by simp [h8]) (by simp [h9]) (by simp) (by simp [h10]) (var_ints hVf (flowOf_len _ _)) (by rw [flowOf_len]; omega)
    try simp only [wpK_assoc]
    refine wpK_reg (fun R hR => by simp [h2, len_slice und43, hll0, hlenV, hLL0]; exact hR) ?_
    refine wpK_cut1 (J := fun B W' => B.n = 207 ∧ B.defers = [] ∧ B.tmps.get 2 = some (vL) ∧ B.tmps.get 4 = some (.pointer (some ⟨W.next + 1, 0, none⟩)) ∧ B.tmps.get 7 = some (.pointer (some ⟨px, 0, none⟩)) ∧ B.tmps.get 8 = some (.int .i64 s) ∧ B.tmps.get 9 = some (.int .i64 t) ∧ Ext W3 W' ∧ B.tmps.get 11 = some (.int .i64 i) ∧ B.tmps.get 10 = some (.slice (some ⟨bf, 0, none⟩) l.length (2 * l.length)) ∧ ∃ M : List Int, M.length = l.length ∧ Var W' bf 2 (intsV M)) (fun Q2 hQ2 => ?_) ?_
    · have hb : lL[0]? = some lL[0] := List.getElem?_eq_getElem hLL0
      generalize lL[0] = y at hb
      obtain ⟨_, _, e', hB2⟩ := hL
      rw [hvL] at e'
      cases e'
      obtain ⟨b', o', rfl, hhy⟩ := hB2 0 y hb
      have eF := indexAddr_slice (T := T0) und43 sz2 (b := b') (o := o') (c := cL) (k := .i64) hLL0
      rw [Nat.zero_mul, ← hvL] at eF
      simp only [Int.natCast_zero] at eF
      have lF := load_of und2 rfl (hhy.ext (E0.trans e11))
      rw [Nat.add_zero] at lF
      obtain ⟨q, hq1, hq2⟩ := u64_mod y l.length hll0
      have rr := aBinI_rem .u64 (IntKind.u64.wrap y) (l.length : Int) (by omega)
      rw [hq1] at rr
      have wl : IntKind.u64.wrap (l.length : Int) = l.length := IntWalk.u64_in _ (by omega)
      have wq : IntKind.i64.wrap (q : Int) = q := IntWalk.i64_in _ (by omega)
      have eO := indexAddr_slice (T := T0) und43 sz2 (b := bf) (o := 0) (c := 2 * l.length) (k := .i64) hq2
      rw [Nat.mul_one] at eO
      have hfl : (flowOf rm l.length)[q]? = some (rm (2 * q + 1)) := flowOf_get hq2
      have lO := hVf.load1 (T := T0) und2 rfl (j := q) (v := .int .i64 (rm (2 * q + 1))) (intsV_get hfl)
      have ha : l[q]? = some l[q] := List.getElem?_eq_getElem hq2
      have hmem : l[q] ∈ l := List.getElem_mem hq2
      have hcq := fcap (l[q], rm (2 * q + 1)) (List.mem_of_getElem? (i := q) (by rw [List.getElem?_zip_eq_some]; exact ⟨ha, hfl⟩))
      have harc := hT.arc _ hmem
      simp only at hcq
      have w1 : IntKind.i64.wrap (rm (2 * q + 1) - 1) = rm (2 * q + 1) - 1 := IntWalk.i64_in _ (by omega)
      obtain ⟨W12, s1, s2, s3, s4⟩ := hVf.store (T := T0) (t := 2) (v := .int .i64 (rm (2 * q + 1) - 1)) (o := q) inf2 (by rw [is2]; rfl) (by rw [intsV_len, flowOf_len]; show q + 1 ≤ l.length; omega) rfl
      have s4 : Var W12 bf 2 ((intsV (flowOf rm l.length)).take q ++ [.int .i64 (rm (2 * q + 1) - 1)] ++ (intsV (flowOf rm l.length)).drop (q + 1)) := s4
      rw [set_ints _ _ _ (by rw [flowOf_len]; exact hq2)] at s4
      generalize rm (2 * q + 1) = rq at lO w1 s1 s4
      have n11 := e11.1
      have e12 : Ext W3 W12 := ⟨by omega, fun b hb hk => by rw [s3.2 b (by omega) (by omega)]; exact e11.2 b hb hk⟩
      refine wpK_endT (by simp) ?_
      try simp only [wpK_assoc]
      refine wpK_reg1 (fun R hR => by simp [h2, eF, lF, conv_2_76, len_slice und43, conv_3_76, conv_76_3, wl, rr, wq, eO, lO, w1, s1]; exact hR) ?_
      exact hQ2 _ _ ⟨rfl, rfl, by simp [h2, h4, h7, h8, h9], by simp [h2, h4, h7, h8, h9], by simp [h2, h4, h7, h8, h9], by simp [h2, h4, h7, h8, h9], by simp [h2, h4, h7, h8, h9], e12, by simp [h11], by simp, _, by rw [List.length_set, flowOf_len], s4⟩
    rintro ⟨tm, n, ds⟩ W12 ⟨hn, hd, h2, h4, h7, h8, h9, e12, h11, h10, M, hM, hVM⟩
    simp only at hn hd h2 h4 h7 h8 h9
    subst hn; subst hd
    simp only at h11 h10
    try simp only [wpK_assoc]
    refine wpK_reg1 (fun R hR => by simp [h11, hsi]; exact hR) ?_
    exact fin _ _ (.slice (some ⟨bf, 0, none⟩) l.length (2 * l.length)) _ e12 (by simp [h2]) (by simp [h4]) (by simp [h7]) (by simp [h8]) (by simp [h9]) (by simp) (by simp [h10]) (var_ints hVM hM) (by omega)
  · rintro A' W' hf; exact hf.elim
  rintro ⟨tm, n, ds⟩ W6 ⟨hn, hd, h2, h4, h7, h8, h9, e6⟩
  simp only at hn hd h2 h4 h7 h8 h9
  subst hn; subst hd
  -- sets
  try simp only [wpK_assoc]
  refine wpK_reg (fun R hR => by simp []; exact hR) ?_
  try simp only [wpK_assoc]
  refine wpK_reg (fun R hR => by simp []; exact hR) ?_
  try simp only [wpK_assoc]
  refine wpK_while (I := fun k B W' => B.n = 207 ∧ B.defers = [] ∧ B.tmps.get 2 = some (vL) ∧ B.tmps.get 4 = some (.pointer (some ⟨W.next + 1, 0, none⟩)) ∧ B.tmps.get 7 = some (.pointer (some ⟨px, 0, none⟩)) ∧ Ext W3 W' ∧ W6.next ≤ W'.next ∧ ∃ (j : Nat) (w : Value) (M : List Int), k = lL.length - j ∧ j ≤ lL.length ∧ j ≤ 8 ∧ M.length = j ∧ B.tmps.get 22 = some (.int .i64 j) ∧ B.tmps.get 21 = some w ∧ GrowsN W' w M.length (intsV M) 3 1 (fun b => W6.next ≤ b))
    (J := fun B W' => B.n = 207 ∧ B.defers = [] ∧ B.tmps.get 2 = some (vL) ∧ B.tmps.get 4 = some (.pointer (some ⟨W.next + 1, 0, none⟩)) ∧ B.tmps.get 7 = some (.pointer (some ⟨px, 0, none⟩)) ∧ Ext W3 W' ∧ ∃ (w : Value) (M : List Int), B.tmps.get 21 = some w ∧ IntL W' w M ∧ M.length ≤ 1000) (Rt := fun _ _ => False) (k := lL.length) ?_ ?_ ?_ ?_
  · exact ⟨rfl, rfl, by simp [h2, h4, h7], by simp [h2, h4, h7], by simp [h2, h4, h7], e6, Nat.le_refl _, 0, .slice none 0 0, [], by simp, by omega, by omega, rfl, by simp, by simp, .nil _ _ _ _⟩
  · rintro k ⟨tm, n, ds⟩ W7 ⟨hn, hd, h2, h4, h7, e7, n7, j, w, M, hk, hj, hj8, hM, h22, h21, hG⟩ Q' hJ hRt hI
    simp only at hn hd h2 h4 h7
    subst hn; subst hd
    simp only at h22 h21
    by_cases hlt : j < lL.length
    case neg =>
      try simp only [wpK_assoc]
      refine wpK_reg (fun R hR => by simp [h2, h22, hlenV, hlt, undef]; exact hR) ?_
      try simp only [wpK_assoc]
      first | refine wpK_onF (by simp []) ?_ | refine wpK_out (by simp []) ?_ | refine wpK_condF (by simp []) ?_ | refine wpK_endF (by simp []) (wpK_skip ?_) | refine wpK_endF (by simp []) ?_
      exact hJ _ _ ⟨rfl, rfl, by simp [h2, h4, h7], by simp [h2, h4, h7], by simp [h2, h4, h7], e7, w, M, by simp [h21], GrowsN.ints hG, by omega⟩
    by_cases hlt8 : (j : Int) < 8
    case neg =>
      try simp only [wpK_assoc]
      refine wpK_reg (fun R hR => by simp [h2, h22, hlenV, hlt, hlt8]; exact hR) ?_
      try simp only [wpK_assoc]
      first | refine wpK_onF (by simp []) ?_ | refine wpK_out (by simp []) ?_ | refine wpK_condF (by simp []) ?_ | refine wpK_endF (by simp []) (wpK_skip ?_) | refine wpK_endF (by simp []) ?_
      exact hJ _ _ ⟨rfl, rfl, by simp [h2, h4, h7], by simp [h2, h4, h7], by simp [h2, h4, h7], e7, w, M, by simp [h21], GrowsN.ints hG, by omega⟩
    try simp only [wpK_assoc]
    refine wpK_reg (fun R hR => by simp [h2, h22, hlenV, hlt, hlt8]; exact hR) ?_
    try simp only [wpK_assoc]
    first | refine wpK_onT (by simp []) ?_ | refine wpK_outT (by simp []) ?_ | refine wpK_condT (by simp []) ?_ | refine wpK_endT (by simp []) ?_
    have hb : lL[j]? = some lL[j] := List.getElem?_eq_getElem hlt
    generalize lL[j] = y at hb
    obtain ⟨_, _, e', hB2⟩ := hL
    rw [hvL] at e'
    cases e'
    obtain ⟨b', o', rfl, hhy⟩ := hB2 j y hb
    have eF := indexAddr_slice (T := T0) und43 sz2 (b := b') (o := o') (c := cL) (k := .i64) hlt
    rw [Nat.mul_one, ← hvL] at eF
    have lF := load_of und2 rfl (hhy.ext (E0.trans e7))
    have rr := aBinI_rem .i64 y 10 (by omega)
    have hsj : IntKind.i64.wrap ((j : Int) + 1) = ((j + 1 : Nat) : Int) := i64_succ j (by omega)
    obtain ⟨w', W8, p1, p2, p3, p4⟩ := push_tmp und46 inf3 is3 z3' by3' hG (by omega) (y.tmod 10) (fun _ _ _ => trivial)
    refine wpK_block ?_
    try simp only [wpK_assoc]
    refine wpK_reg1 (fun R hR => by simp [h2, h21, h22, eF, lF, rr, bs46, p1]; exact hR) ?_
    try simp only [wpK_assoc]
    refine wpK_reg1 (fun R hR => by simp [h22, hsj]; exact hR) ?_
    refine hI (k - 1) _ _ (by omega) ⟨rfl, rfl, by simp [h2, h4, h7], by simp [h2, h4, h7], by simp [h2, h4, h7], ?_, by omega, j + 1, w', M ++ [y.tmod 10], by omega, by omega, by omega, by simp; omega, by simp, by simp, p3.mono (fun b hb => by omega)⟩
    have n36 := e6.1
    exact ⟨by omega, fun b hb hk => by rw [p4.2 b (by have := e7.1; omega) (by omega)]; exact e7.2 b hb hk⟩
  · rintro A' W' hf; exact hf.elim
  rintro ⟨tm, n, ds⟩ W7 ⟨hn, hd, h2, h4, h7, e7, w, M, h21, hIM, hLM⟩
  simp only at hn hd h2 h4 h7
  subst hn; subst hd
  simp only at h21
  have hwP : IntKind.u64.wrap (P : Int) = P := IntWalk.u64_in _ (by omega)
  have hpow : 2 ^ P ≤ 2 ^ 6 := Nat.pow_le_pow_right (by omega) hPle
  have hpos : 0 < 2 ^ P := Nat.two_pow_pos P
  have shP : aBinI .shl .u64 1 .u64 (P : Int) = some (.int .u64 ((2 ^ P : Nat) : Int)) := by
    have := aBinI_shl .u64 .u64 1 P (by show P ≤ 64; omega) (by rw [Nat.one_mul]; show 2 ^ P < 18446744073709551616; omega)
    rw [Nat.shiftLeft_eq, Nat.one_mul] at this; exact this
  obtain ⟨pw, hpw⟩ : ∃ pw : Int, pw = ((2 ^ P : Nat) : Int) := ⟨_, rfl⟩
  rw [← hpw] at shP
  try simp only [wpK_assoc]
  refine wpK_reg (fun R hR => by simp []; exact hR) ?_
  try simp only [wpK_assoc]
  refine wpK_while (I := fun k B W' => B.n = 207 ∧ B.defers = [] ∧ B.tmps.get 2 = some (vL) ∧ B.tmps.get 4 = some (.pointer (some ⟨W.next + 1, 0, none⟩)) ∧ B.tmps.get 7 = some (.pointer (some ⟨px, 0, none⟩)) ∧ Ext W3 W' ∧ ∃ (j : Nat) (w : Value) (M : List Int), k = 2 - j ∧ j ≤ 2 ∧ B.tmps.get 23 = some (.int .i64 j) ∧ B.tmps.get 21 = some w ∧ IntL W' w M ∧ M.length ≤ 1000)
    (J := fun B W' => B.n = 207 ∧ B.defers = [] ∧ Ext W3 W') (Rt := fun _ _ => False) (k := 2) ?_ ?_ ?_ ?_
  · exact ⟨rfl, rfl, by simp [h2, h4, h7], by simp [h2, h4, h7], by simp [h2, h4, h7], e7, 0, w, M, rfl, by omega, by simp, by simp [h21], hIM, hLM⟩
  · rintro k ⟨tm, n, ds⟩ W8 ⟨hn, hd, h2, h4, h7, e8, j, w, M, hk, hj, h23, h21, hIM, hLM⟩ Q' hJ hRt hI
    simp only at hn hd h2 h4 h7
    subst hn; subst hd
    simp only at h23 h21
    by_cases hlt : (j : Int) < 2
    case neg =>
      try simp only [wpK_assoc]
      refine wpK_reg (fun R hR => by simp [h23, hlt]; exact hR) ?_
      try simp only [wpK_assoc]
      first | refine wpK_onF (by simp []) ?_ | refine wpK_out (by simp []) ?_ | refine wpK_condF (by simp []) ?_ | refine wpK_endF (by simp []) (wpK_skip ?_) | refine wpK_endF (by simp []) ?_
      exact hJ _ _ ⟨rfl, rfl, e8⟩
    try simp only [wpK_assoc]
    refine wpK_reg (fun R hR => by simp [h23, hlt]; exact hR) ?_
    try simp only [wpK_assoc]
    first | refine wpK_onT (by simp []) ?_ | refine wpK_outT (by simp []) ?_ | refine wpK_condT (by simp []) ?_ | refine wpK_endT (by simp []) ?_
    have hsj : IntKind.i64.wrap ((j : Int) + 1) = ((j + 1 : Nat) : Int) := i64_succ j (by omega)
    obtain ⟨q, hq1, hq2⟩ := u64_mod oa (2 ^ P) hpos
    have rr := aBinI_rem .u64 (IntKind.u64.wrap oa) ((2 ^ P : Nat) : Int) (by omega)
    rw [hq1, ← hpw] at rr
    have wq : IntKind.i64.wrap (q : Int) = q := IntWalk.i64_in _ (by omega)
    have i0 := ix28_0 (W.next + 1) 0
    refine wpK_block ?_
    rcases Classical.em (RiseOk (P : Int) M) with hr | hr
    · have hcw : ∀ {W' : AW} {v' : Value}, Ext W8 W' → TriIn W' v' l → WpF T0 24 [.agg ⟨[.int .i64 P, v']⟩, w] W' (fun u W'' => Ext W' W'' ∧ u = .tuple ⟨[.int .i64 (capQ (orAll M) (arcsQ l)), .int .i64 0]⟩) := fun {W' v'} hx hv' => by
        refine (capacity_wp (P := (P : Int)) hv' (hIM.ext hx) (by omega)).mono ?_
        rintro u W'' ⟨g, ⟨_, _, rfl⟩ | ⟨_, hn, _⟩ | ⟨hn, _⟩⟩
        · exact ⟨g, rfl⟩
        · exact absurd hr hn
        · rw [hok] at hn; cases hn
      have hrw : ∀ {W' : AW}, Ext W8 W' → WpF T0 35 [.int .i64 P, w] W' (fun u W'' => W'' = W' ∧ u = .bool true) := fun {W'} hx => by
        refine (refRising_wp (hIM.ext hx) P (by omega)).mono ?_
        rintro u W'' ⟨rfl, ⟨_, rfl⟩ | ⟨hn, _⟩⟩
        · exact ⟨rfl, rfl⟩
        · exact absurd hr hn
      try simp only [wpK_assoc]
      refine wpK_x1 (fun R hR => by
        simp [h7, Lx, e8, aEnter, fun12, short_other, aCallV]; rw [callS_none]
        refine (net_wp (P := (P : Int)) (hTri.ext e8) (by omega)).mono ?_
        rintro _ W9 ⟨g1, vn, rfl, hGn⟩
        simp [h21, aEnter, fun24, short_other, aCallV]; rw [callS_none]
        refine (hcw g1 hGn.tri).mono ?_
        rintro _ W10 ⟨g2, rfl⟩
        simp; exact hR vn W10 (g1.trans g2)) ?_
      rintro vn W10 g10
      have e10 := e8.trans g10
      try simp only [wpK_assoc]
      refine wpK_reg (fun R hR => by
          simp [h7, h21, LP, e10, aEnter, fun35, short_other, aCallV]; rw [callS_none]
          refine (hrw g10).mono ?_
          rintro _ W9 ⟨e9, rfl⟩; subst W9
          simp [h7, h21, LP, e10]; exact hR) ?_
      refine wpK_condF (by simp) ?_
      have hrc := refCap_wp (P := (P : Int)) (hTri.ext e10) (hIM.ext g10) (by omega) hok (orAll M) (fun f hf => (orAll_bit (fun x hx => by
        obtain ⟨i, hi⟩ := List.mem_iff_getElem?.1 hx
        exact hr.nonneg i x hi) f).symm)
      try simp only [wpK_assoc]
      refine wpK_x0 (fun R hR => by
          simp [h7, h21, Lx, e10, aEnter, fun36, short_other, aCallV]; rw [callS_none]
          refine (hrc).mono ?_
          rintro _ W11 ⟨g11, rfl⟩
          simp [h7, h21, Lx, e10]; exact hR W11 g11) ?_
      rintro W11 g11
      have e11 := e10.trans g11
      try simp only [wpK_assoc]
      first | refine wpK_onF (by simp []) ?_ | refine wpK_out (by simp []) ?_ | refine wpK_condF (by simp []) ?_ | refine wpK_endF (by simp []) (wpK_skip ?_) | refine wpK_endF (by simp []) ?_
      simp only [behind_normal]
      try simp only [wpK_assoc]
      refine wpK_q1 (wr := Tr.nil |>.set 194 0 |>.set 195 1 |>.set 196 2 |>.set 197 3 |>.set 198 4 |>.set 199 5 |>.set 200 6 |>.set 201 7 |>.set 202 8 |>.set 203 9 |>.set 204 10 |>.set 205 11 |>.set 21 12) (bits := Tr.nil.lay 0 [0, 1, 0, 4, 12, 0, 32, 96, 224, 508, 1020, 2047, 4095]) (ord := [0, 1, 2, 3, 4, 5, 6, 7, 8, 9, 10, 11, 12]) (by kernel_rfl) (by kernel_rfl) (by kernel_rfl) (fun G hG => by
        simp [h4, h7, LP, hl40, e11, i0, conv_3_82, conv_82_3, hwP, shP, rr, wq, aEnter, fun37, short_other, aCallV]
        rw [dcallS_none]
        refine (members_wp P q (by omega) W11).mono ?_
        rintro sm W12 ⟨g12, hGm⟩
        simp [h4, h7, LP, hl40, e11, e11.trans g12, i0, conv_3_82, conv_82_3, hwP, shP, rr, wq, g12.1]
        exact hG sm W12 (And.intro (e11.trans g12) (GrowsN.ints hGm))) ?_
      rintro sm W12 ⟨e12, hIs'⟩
      have hml := memb_len P q
      try simp only [wpK_assoc]
      refine wpK_reg1 (fun R hR => by simp [h23, hsj]; exact hR) ?_
      exact hI (k - 1) _ _ (by omega) ⟨rfl, rfl, by simp [h2, h4, h7], by simp [h2, h4, h7], by simp [h2, h4, h7], e12, j + 1, sm, memb P q, by omega, by omega, by simp, by simp, hIs', by omega⟩
    · have hcw : ∀ {W' : AW} {v' : Value}, Ext W8 W' → TriIn W' v' l → WpF T0 24 [.agg ⟨[.int .i64 P, v']⟩, w] W' (fun u W'' => Ext W' W'' ∧ u = .tuple ⟨[.int .i64 0, .int .i64 1]⟩) := fun {W' v'} hx hv' => by
        refine (capacity_wp (P := (P : Int)) hv' (hIM.ext hx) (by omega)).mono ?_
        rintro u W'' ⟨g, ⟨_, hn, _⟩ | ⟨_, _, rfl⟩ | ⟨hn, _⟩⟩
        · exact absurd hn hr
        · exact ⟨g, rfl⟩
        · rw [hok] at hn; cases hn
      have hrw : ∀ {W' : AW}, Ext W8 W' → WpF T0 35 [.int .i64 P, w] W' (fun u W'' => W'' = W' ∧ u = .bool false) := fun {W'} hx => by
        refine (refRising_wp (hIM.ext hx) P (by omega)).mono ?_
        rintro u W'' ⟨rfl, ⟨hn, _⟩ | ⟨_, rfl⟩⟩
        · exact absurd hn hr
        · exact ⟨rfl, rfl⟩
      try simp only [wpK_assoc]
      refine wpK_x1 (fun R hR => by
        simp [h7, Lx, e8, aEnter, fun12, short_other, aCallV]; rw [callS_none]
        refine (net_wp (P := (P : Int)) (hTri.ext e8) (by omega)).mono ?_
        rintro _ W9 ⟨g1, vn, rfl, hGn⟩
        simp [h21, aEnter, fun24, short_other, aCallV]; rw [callS_none]
        refine (hcw g1 hGn.tri).mono ?_
        rintro _ W10 ⟨g2, rfl⟩
        simp; exact hR vn W10 (g1.trans g2)) ?_
      rintro vn W10 g10
      have e10 := e8.trans g10
      try simp only [wpK_assoc]
      refine wpK_reg (fun R hR => by
          simp [h7, h21, LP, e10, aEnter, fun35, short_other, aCallV]; rw [callS_none]
          refine (hrw g10).mono ?_
          rintro _ W9 ⟨e9, rfl⟩; subst W9
          simp [h7, h21, LP, e10]; exact hR) ?_
      refine wpK_condT (by simp) ?_
      try simp only [wpK_assoc]
      refine wpK_reg (fun R hR => by simp []; exact hR) ?_
      try simp only [wpK_assoc]
      first | refine wpK_onF (by simp []) ?_ | refine wpK_out (by simp []) ?_ | refine wpK_condF (by simp []) ?_ | refine wpK_endF (by simp []) (wpK_skip ?_) | refine wpK_endF (by simp []) ?_
      simp only [behind_normal]
      try simp only [wpK_assoc]
      refine wpK_q1 (wr := Tr.nil |>.set 194 0 |>.set 195 1 |>.set 196 2 |>.set 197 3 |>.set 198 4 |>.set 199 5 |>.set 200 6 |>.set 201 7 |>.set 202 8 |>.set 203 9 |>.set 204 10 |>.set 205 11 |>.set 21 12) (bits := Tr.nil.lay 0 [0, 1, 0, 4, 12, 0, 32, 96, 224, 508, 1020, 2047, 4095]) (ord := [0, 1, 2, 3, 4, 5, 6, 7, 8, 9, 10, 11, 12]) (by kernel_rfl) (by kernel_rfl) (by kernel_rfl) (fun G hG => by
        simp [h4, h7, LP, hl40, e10, i0, conv_3_82, conv_82_3, hwP, shP, rr, wq, aEnter, fun37, short_other, aCallV]
        rw [dcallS_none]
        refine (members_wp P q (by omega) W10).mono ?_
        rintro sm W12 ⟨g12, hGm⟩
        simp [h4, h7, LP, hl40, e10, e10.trans g12, i0, conv_3_82, conv_82_3, hwP, shP, rr, wq, g12.1]
        exact hG sm W12 (And.intro (e10.trans g12) (GrowsN.ints hGm))) ?_
      rintro sm W12 ⟨e12, hIs'⟩
      have hml := memb_len P q
      try simp only [wpK_assoc]
      refine wpK_reg1 (fun R hR => by simp [h23, hsj]; exact hR) ?_
      exact hI (k - 1) _ _ (by omega) ⟨rfl, rfl, by simp [h2, h4, h7], by simp [h2, h4, h7], by simp [h2, h4, h7], e12, j + 1, sm, memb P q, by omega, by omega, by simp, by simp, hIs', by omega⟩
  · rintro A' W' hf; exact hf.elim
  · rintro ⟨tm, n, ds⟩ W8 ⟨hn, hd, e8⟩
    simp only at hn hd
    subst hn; subst hd
    have ht8 := Tb e8
    try simp only [wpK_assoc]
    refine wpK_reg (fun R hR => by simp [aEnter, fun26, short_awake, aCallV, ht8]; exact hR) ?_
    exact wpK_ret ⟨.inr rfl, rfl, [.bool true], by simp, rfl⟩

end Go.Proofs.YtkipaffjmcmclaaDoor
