import Derived.Test.YtkgfjfkgmpeobaaDoorP40
import Derived.Test.YtkgfjfkgmpeobaaDoorP39
set_option linter.unusedSimpArgs false
set_option linter.unusedVariables false
set_option linter.unusedSectionVars false
open Go Go.Eng
namespace Go.Proofs.YtkgfjfkgmpeobaaDoor
attribute [local congr] undef_congr WpK.congr WpS.congr WpL.congr WpC.congr WpF.congr gotS.congr callS.congr nextS.congr wantS.congr condS.congr
attribute [local irreducible] WpK
attribute [local simp] WpDr_nil WpDr_cons atS_some dwantS_true dwantS_false kindS_light kindS_float kindS_heavy lightS_value floatS_some heavyS_value heavyS_skip heavyS_enter dcallS_some doneS_eq
  isLight isFloat isPlain dLook testBit_dec dChain dLights_nil dLights_skip dLights_one dLight_nil dLight_cons dFreshes_nil dFreshes_one oneF_none oneF_some dFresh_nil dFresh_cons oneL_some oneW_true oneW_false sameV_value dPut dMay valEq arrEq listEq List.getElem?_cons Tr.get_nil dEnd
attribute [local simp] WpS_nil WpS_cons isDefer undef_false wantS_true wantS_false nextS_value nextS_skip nextS_enter callS_some gotS_some aWanted aOp aEvalF aEval opMove opAssign opPick aVal flat flat1 AAct.put opBinOp opConvert opIndex Tr.get_set Tr.get_lay aBin aResults tupled
  aCall aVals aCallB blt_dec ble_dec beq_dec aBinI_add aBinI_sub aBinI_lss aBinI_leq aBinI_gtr aBinI_geq aBinI_eql aBinI_neq index_str len_str len_slice Nat.beq_refl und2 und3 und4 und5 und39 und76 und82 und115 und22 und29 und25 und33 und46 und43 und49 und111 und113 field151 field155_0 field155_1 field155_2 field155_3 field155_4
  field78 field106 field24 field31 field27 field35 field108 field109 opBox opLoad opFieldAddr opIndexAddr acells aAddr opExtract aExtract opUnOp opAlloc opStore opMakeInterface opNilCheck opBuild aParts opBuildSlice aValW
set_option maxHeartbeats 4000000
set_option linter.unusedSimpArgs false
set_option linter.unusedVariables false
theorem ok_ones {P : Int} {l : List Tri} (h : planOk P (arcsQ l) = true) : planOk P (arcsQ (onesL l)) = true := by
  simp only [planOk, Bool.and_eq_true, decide_eq_true_eq, List.all_eq_true] at h ⊢
  obtain ⟨⟨⟨h1, h2⟩, h3⟩, h4⟩ := h
  refine ⟨⟨⟨h1, h2⟩, by simpa [arcsQ, onesL] using h3⟩, fun q hq => ?_⟩
  simp only [arcsQ, onesL, List.map_map, List.mem_map] at hq
  obtain ⟨a, ha, rfl⟩ := hq
  have := h4 (a.1, a.2.1, a.2.2, 0) (List.mem_map.2 ⟨a, ha, rfl⟩)
  simp only [okStep, Bool.and_eq_true, decide_eq_true_eq] at this ⊢
  exact ⟨⟨this.1.1, by simp⟩, by simp⟩
theorem WaysG.base {W0 W1 W : AW} {mv : Value} {ways : List (List Int)} (h : WaysG W1 W mv ways) (hn : W0.next ≤ W1.next) : WaysG W0 W mv ways := by
  obtain ⟨KL, KR, us, h1, h2, h3, h4, h5⟩ := h.all
  exact ⟨KL, KR, us, h1, h2, h3, fun b hb => by have := h4 b hb; omega, fun b hb => by have := h5 b hb; exact ⟨by omega, this.2⟩⟩
theorem build31v (P : Int) (A : Option Addr) (n c : Nat) : aBuild T0 31 [(0, .int .i64 P), (1, .slice A n c)] = some (.agg ⟨[.int .i64 P, .slice A n c]⟩) := by kernel_rfl
theorem zero106' : aZero T0 106 = some (.agg ⟨[.int .i64 0, .int .i64 0, .int .i64 0]⟩) := by kernel_rfl
theorem ones_of {L : List Tri} {F : List Int} (hl : F.length = L.length) (h1 : ∀ e ∈ L, e.2.2 = 1) (hc : capsOk (L.zip F)) : onesF F := fun f hf => by
  obtain ⟨i, hi⟩ := List.mem_iff_getElem?.1 hf
  have hlt := (List.getElem?_eq_some_iff.1 hi).1
  have he : L[i]? = some (L[i]'(by omega)) := List.getElem?_eq_getElem (by omega)
  have := hc (L[i]'(by omega), f) (List.mem_of_getElem? (i := i) (by rw [List.getElem?_zip_eq_some]; exact ⟨he, hi⟩))
  have h := h1 _ (List.mem_of_getElem? he)
  simp only at this
  omega
theorem flat_push {U : List (List Int)} {w : List Int} (h : U.flatten.Nodup) (hw : w.Nodup) (hd : ∀ a ∈ w, a ∉ U.flatten) : (U ++ [w]).flatten.Nodup := by
  rw [List.flatten_append]
  simp only [List.flatten_cons, List.flatten_nil, List.append_nil]
  exact List.nodup_append.2 ⟨h, hw, fun a ha b hb e => hd b hb (e ▸ ha)⟩
theorem apart_wp {W : AW} {v : Value} {P : Int} {l : List Tri} {s t : Nat} (h : TriIn W v l) (hv : (l = [] ∧ v = .slice none 0 0) ∨ (0 < l.length ∧ ∃ b c, v = .slice (some ⟨b, 0, none⟩) l.length c)) (hok : planOk P (arcsQ l) = true) (hst : two? s t P = true) (hT : tabsIn T0 T0.tabs W = true) (h0 : 0 < W.next) :
    WpF T0 21 [.agg ⟨[.int .i64 P, v]⟩, .int .i64 s, .int .i64 t] W (fun u W' => Ext W W' ∧ ∃ (ways : List (List Int)) (x : Int) (rm : Nat → Int) (lv : Nat → Nat) (mv av : Value), u = .tuple ⟨[mv, av, .int .i64 0]⟩ ∧ WaysG W W' mv ways ∧ IntL W' av (arcsTo (nearS lv 24) l l.length) ∧ apartW l s t ways ∧ (ways.length : Int) = x ∧
      Filled (layL (1 <<< s) s (arcsQ (onesL l))) s t (hCap (layL (1 <<< s) s (arcsQ (onesL l)))) x rm lv) := by
  obtain ⟨hin, h200, hP2, hP24, harc⟩ := arc_ok hok
  have ok1 := ok_ones hok
  have hst' : s < P ∧ t < P ∧ s ≠ t := by simp only [two?, Bool.and_eq_true, decide_eq_true_eq] at hst; omega
  refine wpF fun21 rfl ?_
  have hN := netPlan (netIn (P := P) h)
  have hE0 : Ext W (W.newCells 31 [.int .i64 P, v]) := .newCells _ _ _
  have hV := Var.new W 31 [.int .i64 P, v]
  have hT0 := tabs_ext hT h0 hE0
  have h00 : 0 < (W.newCells 31 [.int .i64 P, v]).next := by rw [newCells_next]; omega
  generalize hW0 : W.newCells 31 [.int .i64 P, v] = W0 at hN hE0 hV hT0 h00
  have hee : chkE P (arcsQ l) s t = 0 := by simp only [chkE, hok, endE, hst, if_true]
  have hc := checkEnds_wp hN s t
  rw [hee] at hc
  have hvv := tri_eq h
  try simp only [wpK_assoc]
  refine wpK_reg (fun R hR => by simp [hW0]; exact hR) ?_
  try simp only [wpK_assoc]
  refine wpK_x0 (fun R hR => by
      simp [aEnter, fun52, short_other, aCallV]; rw [callS_none]
      refine (hc).mono ?_
      rintro _ W1 ⟨hE1, rfl⟩
      simp []; exact hR W1 hE1) ?_
  rintro W1 hE1
  try simp only [wpK_assoc]
  refine wpK_reg (fun R hR => by simp []; exact hR) ?_
  try simp only [wpK_assoc]
  first | refine wpK_onF (by simp []) ?_ | refine wpK_out (by simp []) ?_ | refine wpK_condF (by simp []) ?_ | refine wpK_endF (by simp []) (wpK_skip ?_) | refine wpK_endF (by simp []) ?_
  have hT1 := tabs_ext hT0 h00 hE1
  have hz10 : 0 < W1.next := Nat.lt_of_lt_of_le h00 hE1.1
  have hE01 := hE0.trans hE1
  have l3 : ∀ W', Ext W1 W' → aLoadVar T0 W' 3 W.next 0 = some (.int .i64 P) := fun W' he => ((hV.ext hE1).ext he).load1 (T := T0) und3 rfl (j := 0) (v := .int .i64 P) rfl
  have l29 : ∀ W', Ext W1 W' → aLoadVar T0 W' 29 W.next 1 = some v := fun W' he => ((hV.ext hE1).ext he).load1 (T := T0) und29 rfl (j := 1) (v := v) rfl
  have e11 : Ext W1 W1 := .refl _ _
  obtain ⟨Wa, hWa, hEa, hna, hVa⟩ : ∃ Wa, Wa = W1.newCells 31 [.int .i64 0, .slice none 0 0] ∧ Ext W1 Wa ∧ Wa.next = W1.next + 1 ∧ Var Wa W1.next 31 [.int .i64 0, .slice none 0 0] := ⟨_, rfl, .newCells _ _ _, rfl, Var.new _ _ _⟩
  have hclone := clone_wp (h.ext (hE01.trans hEa)) (by omega) hv
  have hfa := freshB_var hVa (by simp [listEq, valEq])
  obtain ⟨pe, hpe⟩ : ∃ pe, pe = W1.next := ⟨_, rfl⟩
  try simp only [wpK_assoc]
  refine wpK_d1 (wr := Tr.nil |>.set 25 0 |>.set 26 1 |>.set 27 2 |>.set 28 3 |>.set 29 4 |>.set 30 5 |>.set 10 6) (bits := Tr.nil.lay 0 [0, 1, 0, 4, 12, 31, 0, 127]) (ord := [0, 1, 2, 3, 6, 4, 5, 7]) (by kernel_rfl) (by kernel_rfl) (by kernel_rfl) (fun G hG => by
    simp [l3, l29, e11, hEa, hvv, aFlt, zero31, AFlt.val, ← hWa, hfa, hna, aEnter, fun59, short_other, aCallV]
    rw [dcallS_none]
    refine hclone.mono ?_
    rintro u W2 ⟨hE2, hO⟩
    obtain ⟨Au, cu, hu⟩ := tri_len hO.tri
    have hE12 := hEa.trans hE2
    have hfb := freshB_var (hVa.ext hE2) (by simp [listEq, valEq])
    obtain ⟨W3, g1, g2, g3, g4⟩ := (hVa.ext hE2).store (T := T0) (t := 31) (v := .agg ⟨[.int .i64 P, u]⟩) (o := 0) inf31 (by rw [is31]; rfl) (by simp) (by rw [hu]; rfl)
    have g4 : Var W3 W1.next 31 [.int .i64 P, u] := by simpa using g4
    have hb := build31v P Au l.length cu
    rw [← hu] at hb
    have huv := tri_eq hO.tri
    have hP : Only (fun b => b = W1.next) Wa W3 ∧ Var W3 W1.next 31 [.int .i64 P, u] ∧ ((l = [] ∧ u = .slice none 0 0) ∨ (0 < l.length ∧ ∃ p, u = .slice (some ⟨p, 0, none⟩) l.length 7 ∧ Wa.next ≤ p ∧ Var W3 p 106 (flat3 l))) := by
      refine ⟨⟨by have := hE2.1; have := g3.1; omega, fun b hb hk => by rw [g3.2 b (by have := hE2.1; omega) hk]; exact hE2.2 b hb (fun x => x)⟩, g4, ?_⟩
      rcases hO with h1 | ⟨h1, p, h2, h3, h4⟩
      · exact .inl h1
      · exact .inr ⟨h1, p, h2, h3, h4.only g3 (by omega)⟩
    have hn2 : W1.next + 1 ≤ W2.next := by have := hE2.1; omega
    have hn3 := g3.1
    simp [l3, l29, hE12, hEa, hE2.1, hn2, hn3, hvv, huv, hb, zero31, g1, hfa, hfb, hna]
    exact hG u W3 hP) ?_
  rintro u W3 ⟨hO3, hVe, hOwn⟩
  have hE13 : Ext W1 W3 := ⟨by have := hO3.1; omega, fun b hb hk => by rw [hO3.2 b (by omega) (by omega)]; exact hEa.2 b hb (fun x => x)⟩
  obtain ⟨Au, cu, hu⟩ : ∃ Au cu, u = .slice Au l.length cu := by
    rcases hOwn with ⟨rfl, rfl⟩ | ⟨_, p, rfl, _⟩
    · exact ⟨_, _, rfl⟩
    · exact ⟨_, _, rfl⟩
  have lnu : ∀ W', aLen T0 W' 29 u = some (.int .i64 l.length) := fun W' => by rw [hu]; exact len_slice und29 _ _ _
  obtain ⟨pc, hpc, hix, hVc, htri⟩ : ∃ pc, Wa.next ≤ pc ∧ (∀ i, i < l.length → aIndexAddr T0 29 u (.int .i64 (i : Int)) = some (.pointer (some ⟨pc, 3 * i, none⟩))) ∧ (0 < l.length → Var W3 pc 106 (flat3 (capTo l 0))) ∧ (∀ W', (0 < l.length → Var W' pc 106 (flat3 (onesL l))) → TriIn W' u (onesL l)) := by
    rcases hOwn with ⟨rfl, rfl⟩ | ⟨h0, p, rfl, h1, h2⟩
    · exact ⟨Wa.next, Nat.le_refl _, fun i hi => by simp at hi, fun h => by simp at h, fun W' _ => ⟨none, 0, rfl, fun i x hx => by simp [onesL] at hx⟩⟩
    · refine ⟨p, h1, fun i hi => ?_, fun _ => by rw [capTo_zero]; exact h2, fun W' hV => ?_⟩
      · have := indexAddr_tri (T := T0) und29 sz106 (b := p) (o := 0) (c := 7) (k := .i64) hi
        rwa [Nat.zero_add] at this
      · have := tri_of_var (c := 7) (hV h0)
        rwa [onesL_len] at this
  have huv : valEq u u = true := by
    rcases hOwn with ⟨rfl, rfl⟩ | ⟨_, p, rfl, _⟩ <;> simp
  clear hOwn
  obtain ⟨pe, hpe⟩ : ∃ pe, pe = W1.next := ⟨_, rfl⟩
  rw [← hpe] at hVe hO3
  rw [← hpe]
  have le : ∀ W', Only (fun b => b = pc) W3 W' → aLoadVar T0 W' 29 pe 1 = some u := fun W' ho => (hVe.only ho (by omega)).load1 (T := T0) und29 rfl (j := 1) (v := u) rfl
  have le3 := le W3 (.refl _ _)
  try simp only [wpK_assoc]
  refine wpK_reg (fun R hR => by simp [le3, lnu]; exact hR) ?_
  try simp only [wpK_assoc]
  refine wpK_while (I := fun k A' W' => A'.n = 95 ∧ A'.defers = [] ∧ A'.tmps.get 1 = some (.int .i64 s) ∧ A'.tmps.get 2 = some (.int .i64 t) ∧ A'.tmps.get 6 = some (.slice none 0 0) ∧ A'.tmps.get 7 = some (.slice none 0 0) ∧ A'.tmps.get 10 = some (.pointer (some ⟨pe, 0, none⟩)) ∧ A'.tmps.get 33 = some (.int .i64 l.length) ∧ Only (fun b => b = pc) W3 W' ∧ ∃ (i : Nat), k = l.length - i ∧ i ≤ l.length ∧ A'.tmps.get 34 = some (.int .i64 (i : Int)) ∧ (0 < l.length → Var W' pc 106 (flat3 (capTo l i))))
    (J := fun A' W' => A'.n = 95 ∧ A'.defers = [] ∧ A'.tmps.get 1 = some (.int .i64 s) ∧ A'.tmps.get 2 = some (.int .i64 t) ∧ A'.tmps.get 6 = some (.slice none 0 0) ∧ A'.tmps.get 7 = some (.slice none 0 0) ∧ A'.tmps.get 10 = some (.pointer (some ⟨pe, 0, none⟩)) ∧ A'.tmps.get 33 = some (.int .i64 l.length) ∧ Only (fun b => b = pc) W3 W' ∧ (0 < l.length → Var W' pc 106 (flat3 (onesL l)))) (Rt := fun _ _ => False) (k := l.length) ?_ ?_ ?_ ?_
  · exact ⟨rfl, rfl, by simp, by simp, by simp, by simp, by simp, by simp, .refl _ _, 0, by omega, by omega, by simp, hVc⟩
  · rintro k ⟨tm, n, ds⟩ Wb ⟨hn, hd, h1, h2, h6, h7, h10, h33, hOb, i, hk, hi, h34, hVb⟩ Q' hJ hRt hI
    simp only at hn hd h1 h2 h6 h7 h10 h33
    subst hn; subst hd
    simp only at h34
    try simp only [wpK_assoc]
    refine wpK_reg (fun R hR => by simp [h33, h34]; exact hR) ?_
    by_cases hlt : i < l.length
    case neg =>
      have e : i = l.length := by omega
      rw [e, capTo_all] at hVb
      try simp only [wpK_assoc]
      first | refine wpK_onF (by simp [hlt]) ?_ | refine wpK_out (by simp [hlt]) ?_ | refine wpK_condF (by simp [hlt]) ?_ | refine wpK_endF (by simp [hlt]) (wpK_skip ?_) | refine wpK_endF (by simp [hlt]) ?_
      exact hJ _ _ ⟨rfl, rfl, by simp [h1, h2, h6, h7, h10, h33], by simp [h1, h2, h6, h7, h10, h33], by simp [h1, h2, h6, h7, h10, h33], by simp [h1, h2, h6, h7, h10, h33], by simp [h1, h2, h6, h7, h10, h33], by simp [h1, h2, h6, h7, h10, h33], hOb, hVb⟩
    try simp only [wpK_assoc]
    first | refine wpK_onT (by simp [hlt]) ?_ | refine wpK_outT (by simp [hlt]) ?_ | refine wpK_condT (by simp [hlt]) ?_ | refine wpK_endT (by simp [hlt]) ?_
    have leb := le Wb hOb
    have ixb := hix i hlt
    obtain ⟨Wc, s1, s2, s3, s4⟩ := cap_store (hVb (by omega)) hlt
    refine wpK_block ?_
    try simp only [wpK_assoc]
    refine wpK_reg (fun R hR => by simp [h34]; exact hR) ?_
    try simp only [wpK_assoc]
    refine wpK_reg1 (fun R hR => by simp [h10, leb, ixb, s1]; exact hR) ?_
    simp only [leaves_normal, behind_normal]
    try simp only [wpK_assoc]
    refine wpK_reg1 (fun R hR => by simp [h34]; exact hR) ?_
    exact hI (l.length - (i + 1)) _ _ (by omega) ⟨rfl, rfl, by simp [h1, h2, h6, h7, h10, h33], by simp [h1, h2, h6, h7, h10, h33], by simp [h1, h2, h6, h7, h10, h33], by simp [h1, h2, h6, h7, h10, h33], by simp [h1, h2, h6, h7, h10, h33], by simp [h1, h2, h6, h7, h10, h33], only_trans hOb s3, i + 1, rfl, by omega, by simp [i64_succ i (by omega)], fun _ => s4⟩
  · rintro A' W' hf; exact hf.elim
  rintro ⟨tm, n, ds⟩ W4 ⟨hn, hd, h1, h2, h6, h7, h10, h33, hO4, hVc4⟩
  simp only at hn hd h1 h2 h6 h7 h10 h33
  subst hn; subst hd
  have hT4 := htri W4 hVc4
  have hVe4 := hVe.only hO4 (by omega)
  have hN4 : NetAt W4 pe P (onesL l) := ⟨u, hVe4.has rfl, hVe4.has rfl, hT4⟩
  have hPl := netPlan hN4
  have hin1 := arcsQ_in ok1
  have hE14 : Ext W1 W4 := ⟨by have := hE13.1; have := hO4.1; omega, fun b hb hk => by rw [hO4.2 b (by have := hE13.1; omega) (by omega)]; exact hE13.2 b hb (fun x => x)⟩
  have hTb4 := tabs_ext hT1 hz10 hE14
  have h40 : 0 < W4.next := Nat.lt_of_lt_of_le hz10 hE14.1
  try simp only [wpK_assoc]
  refine wpK_x2 (P := fun (p B : Nat) W5 => Ext W4 W5 ∧ W4.next ≤ p ∧ Wk W5 p B (layL (1 <<< s) s (arcsQ (onesL l))) s t (hCap (layL (1 <<< s) s (arcsQ (onesL l)))) (fun _ => 0)) (fun R hR => by
    simp [h1, h2, h10, aEnter, fun54, short_other, aCallV]; rw [callS_none]
    refine (one_wp s (by omega) W4).mono ?_
    rintro _ W9 ⟨hW9, rfl⟩
    subst W9
    simp [h1, h2, h10, aEnter, fun53, short_other, aCallV]; rw [callS_none]
    refine (lay_wp hPl hin1 (by exact one_lt (by omega)) one_low.1 one_low.2 (by omega) (by omega) hTb4 h40).mono ?_
    rintro _ W5 ⟨hE5, p, B, rfl, hp, hWk⟩
    simp; exact hR p B W5 (And.intro hE5 (And.intro hp hWk))) ?_
  rintro p B W5 ⟨hE5, hp, hWk⟩
  have hL := layL_ok hin1 (from_ := 1 <<< s) (show s < 24 by omega)
  have hLl : (layL (1 <<< s) s (arcsQ (onesL l))).length = l.length := by rw [layL_len]; simp [arcsQ, onesL]
  try simp only [wpK_assoc]
  refine wpK_x3 (fun R hR => by
      simp [aEnter, fun55, short_other, aCallV]; rw [callS_none]
      refine (fill_wp hWk hL (by omega) (by omega) (by omega) (cap_rooms hL)).mono ?_
      rintro _ W6 ⟨x, rm, lv, rfl, hO6, hWk6, hF⟩
      simp []; exact hR x rm lv W6 (And.intro hO6 (And.intro hWk6 hF))) ?_
  rintro x rm lv W6 ⟨hO6, hWk6, hF⟩
  have hE46 : Ext W4 W6 := ⟨Nat.le_trans hE5.1 hO6.1, fun b hb hk => by rw [hO6.2 b (Nat.lt_of_lt_of_le hb hE5.1) (fun e => by omega)]; exact hE5.2 b hb hk⟩
  have htk := taken_wp hWk6 (by omega)
  rw [hLl] at htk
  have hVe6 := hVe4.ext hE46
  have le6 := hVe6.load1 (T := T0) und29 rfl (j := 1) (v := u) rfl
  try simp only [wpK_assoc]
  refine wpK_x0 (fun R hR => by
      simp [h10, le6, lnu, aEnter, fun56, short_other, aCallV]; rw [callS_none]
      refine (htk).mono ?_
      rintro _ W7 ⟨hE7, rfl, hV7⟩
      simp [h10, le6, lnu]; exact hR W7 (And.intro hE7 hV7)) ?_
  rintro W7 ⟨hE7, hV7⟩
  have hT6 := hT4.ext hE46
  obtain ⟨pf, hpf⟩ : ∃ pf, pf = W6.next := ⟨_, rfl⟩
  rw [← hpf] at hV7
  rw [← hpf]
  obtain ⟨fv, hfv⟩ : ∃ fv, fv = Value.slice (some ⟨pf, 0, none⟩) l.length (2 * l.length) := ⟨_, rfl⟩
  rw [← hfv]
  rw [← onesL_len l] at hfv
  obtain ⟨hcaps, hnet⟩ := flow_is hin1 hF
  rw [onesL_len] at hcaps hnet
  have hFl : (flowOf rm l.length).length = l.length := by simp [flowOf]
  have hone0 := ones_of (L := onesL l) (by rw [hFl, onesL_len]) (fun e he => by simp only [onesL, List.mem_map] at he; obtain ⟨a, _, rfl⟩ := he; rfl) hcaps
  have hx0 := hF.nn
  obtain ⟨_, hcut, hSs, hSt⟩ := filled_capQ hin1 (by omega) (by omega) hF
  have hxa : x = ((arcsTo (nearS lv 24) l l.length).length : Int) := by
    rw [hcut, ← arcsTo_cap (nearS lv 24) l l.length (Nat.le_refl _), List.take_length]
  have hal : ∀ n, (arcsTo (nearS lv 24) l n).length ≤ n := fun n => by
    simp only [arcsTo, List.length_map]
    exact Nat.le_trans (List.length_filter_le _ _) (by simp)
  have hx200 : x ≤ 200 := by have := hal l.length; omega
  have hpf7 : pf < W7.next := hV7.1
  have hpe6 : pe < W6.next := hVe6.1
  try simp only [wpK_assoc]
  refine wpK_reg (fun R hR => by simp []; exact hR) ?_
  try simp only [wpK_assoc]
  refine wpK_while (I := fun k A' W' => A'.n = 95 ∧ A'.defers = [] ∧ A'.tmps.get 1 = some (.int .i64 s) ∧ A'.tmps.get 2 = some (.int .i64 t) ∧ A'.tmps.get 7 = some (.slice none 0 0) ∧ A'.tmps.get 10 = some (.pointer (some ⟨pe, 0, none⟩)) ∧ A'.tmps.get 12 = some (.pointer (some ⟨p, 0, none⟩)) ∧ A'.tmps.get 14 = some (fv) ∧ A'.tmps.get 55 = some (.int .i64 x) ∧ Only (fun b => b = pf) W7 W' ∧ ∃ (i : Nat) (ways : List (List Int)) (mv : Value) (Gf : List Int), k = x.toNat - i ∧ (i : Int) ≤ x ∧ A'.tmps.get 56 = some (.int .i64 (i : Int)) ∧ A'.tmps.get 6 = some mv ∧ ways.length = i ∧ WaysG W7 W' mv ways ∧ Var W' pf 2 (intsV Gf) ∧ Gf.length = l.length ∧ onesF Gf ∧ (∀ q : Nat, (q : Int) < P → q ≠ t → netZ ((onesL l).zip Gf) q = if q = s then x - i else 0) ∧ (∀ w ∈ ways, isW l s t w) ∧ ways.flatten.Nodup ∧ ∀ a ∈ ways.flatten, Gf[a.toNat]? = some 0)
    (J := fun A' W' => A'.n = 95 ∧ A'.defers = [] ∧ A'.tmps.get 1 = some (.int .i64 s) ∧ A'.tmps.get 2 = some (.int .i64 t) ∧ A'.tmps.get 7 = some (.slice none 0 0) ∧ A'.tmps.get 10 = some (.pointer (some ⟨pe, 0, none⟩)) ∧ A'.tmps.get 12 = some (.pointer (some ⟨p, 0, none⟩)) ∧ A'.tmps.get 14 = some (fv) ∧ A'.tmps.get 55 = some (.int .i64 x) ∧ Only (fun b => b = pf) W7 W' ∧ ∃ (ways : List (List Int)) (mv : Value), A'.tmps.get 6 = some mv ∧ (ways.length : Int) = x ∧ WaysG W7 W' mv ways ∧ apartW l s t ways) (Rt := fun _ _ => False) (k := x.toNat) ?_ ?_ ?_ ?_
  · exact ⟨rfl, rfl, by simp [h1, h2, h7, h10], by simp [h1, h2, h7, h10], by simp [h1, h2, h7, h10], by simp [h1, h2, h7, h10], by simp [h1, h2, h7, h10], by simp [h1, h2, h7, h10], by simp [h1, h2, h7, h10], .refl _ _, 0, [], .slice none 0 0, flowOf rm l.length, by omega, by omega, by simp, by simp [h6], rfl, .nil _ _, hV7, hFl, hone0, fun q hq ht => by
      rw [hnet q]
      have e1 : (s = q) = (q = s) := propext ⟨fun h => h.symm, fun h => h.symm⟩
      rw [if_neg (show ¬ t = q from fun e => ht e.symm)]
      simp only [e1]; split <;> omega, by simp, by simp, by simp⟩
  · rintro k ⟨tm, n, ds⟩ Wi ⟨hn, hd, h1, h2, h7, h10, h12, h14, h55, hOi, i, ways, mv, Gf, hk, hi, h56, h6, hwl, hWG, hVf, hGl, hG1, hnetG, hall, hnd, hz⟩ Q' hJ hRt hI
    simp only at hn hd h1 h2 h7 h10 h12 h14 h55
    subst hn; subst hd
    simp only at h56 h6
    try simp only [wpK_assoc]
    refine wpK_reg (fun R hR => by simp [h55, h56]; exact hR) ?_
    by_cases hlt : (i : Int) < x
    case neg =>
      try simp only [wpK_assoc]
      first | refine wpK_onF (by simp [hlt]) ?_ | refine wpK_out (by simp [hlt]) ?_ | refine wpK_condF (by simp [hlt]) ?_ | refine wpK_endF (by simp [hlt]) (wpK_skip ?_) | refine wpK_endF (by simp [hlt]) ?_
      exact hJ _ _ ⟨rfl, rfl, by simp [h1, h2, h7, h10, h12, h14, h55], by simp [h1, h2, h7, h10, h12, h14, h55], by simp [h1, h2, h7, h10, h12, h14, h55], by simp [h1, h2, h7, h10, h12, h14, h55], by simp [h1, h2, h7, h10, h12, h14, h55], by simp [h1, h2, h7, h10, h12, h14, h55], by simp [h1, h2, h7, h10, h12, h14, h55], hOi, ways, mv, by simp [h6], by omega, hWG, hall, hnd⟩
    try simp only [wpK_assoc]
    first | refine wpK_onT (by simp [hlt]) ?_ | refine wpK_outT (by simp [hlt]) ?_ | refine wpK_condT (by simp [hlt]) ?_ | refine wpK_endT (by simp [hlt]) ?_
    have hOW : ∀ W', Only (fun b => b = pf) Wi W' → Only (fun b => b = pf) W6 W' := fun W' ho => only_trans (only_trans (only_ext hE7) hOi) ho
    have hTri : ∀ W', Only (fun b => b = pf) Wi W' → TriIn W' u (onesL l) := fun W' ho => hT6.only (hOW W' ho) (fun b hb e => by omega)
    have hVei : Var Wi pe 31 [.int .i64 P, u] := hVe6.only (hOW Wi (.refl _ _)) (by omega)
    have lei := load31 hVei
    have hBal : Bal P (onesL l) Gf s t s (x - i - 1) := fun q hq ht => by
      rw [hnetG q hq ht]; split <;> omega
    have hun := unwind_wp hTri hVf hfv ok1 hst (by rw [hGl, onesL_len]) hG1 (by omega) hBal
    refine wpK_block ?_
    try simp only [wpK_assoc]
    refine wpK_y3 (P := fun (mv' uu : Value) (bw : Nat) W' => Only (fun b => b = pf) W7 W' ∧ ∃ (way F' : List Int), WaysG W7 W' mv' (ways ++ [way]) ∧ Var W' pf 2 (intsV F') ∧ F'.length = l.length ∧ onesF F' ∧ isW l s t way ∧ way.Nodup ∧ Bal P (onesL l) F' s t t (x - i - 1) ∧ (∀ j : Nat, F'[j]? = some 1 → Gf[j]? = some 1) ∧ ∀ a ∈ way, Gf[a.toNat]? = some 1 ∧ F'[a.toNat]? = some 0) (fun R hR => by
      simp [h1, h2, h6, h10, h14, lei, aEnter, fun60, short_other, aCallV]; rw [callS_none]
      refine hun.mono ?_
      rintro uu Wu ⟨hOu, way, F', K, q1, q2, q3, q4, q5, q6, q7, q8, q9, q10⟩
      obtain ⟨mv', W', a1, a2, a3, a4⟩ := hWG.push2 (by have := hOi.1; omega) hOu (fun b hb _ e => by omega) q1 q2 (by omega)
      obtain ⟨Aq, cq, hue⟩ := q1.len
      have hb := bs49' Wu Aq way.length cq
      rw [← hue] at hb
      have hOf : Only (fun b => b = pf) W7 W' := ⟨by have := hOi.1; have := hOu.1; omega, fun b hb hk => by rw [a4.2 b (by have := hOi.1; have := hOu.1; omega) (by omega), hOu.2 b (by have := hOi.1; omega) hk]; exact hOi.2 b hb hk⟩
      have hP : Only (fun b => b = pf) W7 W' ∧ ∃ (way F' : List Int), WaysG W7 W' mv' (ways ++ [way]) ∧ Var W' pf 2 (intsV F') ∧ F'.length = l.length ∧ onesF F' ∧ isW l s t way ∧ way.Nodup ∧ Bal P (onesL l) F' s t t (x - i - 1) ∧ (∀ j : Nat, F'[j]? = some 1 → Gf[j]? = some 1) ∧ ∀ a ∈ way, Gf[a.toNat]? = some 1 ∧ F'[a.toNat]? = some 0 := ⟨hOf, way, F', a2, q3.only a4 (by omega), by rw [q4, onesL_len], q5, isW_ones.1 q6, q7, q8, q9, q10⟩
      obtain ⟨bw, hbw⟩ : ∃ bw, bw = Wu.next := ⟨_, rfl⟩
      rw [← hbw] at hb a1
      simp [h6, hb, a1]; exact hR mv' uu bw W' hP) ?_
    rintro mv' uu bw W' ⟨hOf, way, F', a2, q3, q4, q5, q6, q7, q8, q9, q10⟩
    simp only [leaves_normal, behind_normal]
    try simp only [wpK_assoc]
    refine wpK_reg1 (fun R hR => by simp [h56]; exact hR) ?_
    exact hI (x.toNat - (i + 1)) _ _ (by omega) ⟨rfl, rfl, by simp [h1, h2, h7, h10, h12, h14, h55], by simp [h1, h2, h7, h10, h12, h14, h55], by simp [h1, h2, h7, h10, h12, h14, h55], by simp [h1, h2, h7, h10, h12, h14, h55], by simp [h1, h2, h7, h10, h12, h14, h55], by simp [h1, h2, h7, h10, h12, h14, h55], by simp [h1, h2, h7, h10, h12, h14, h55], hOf, i + 1, ways ++ [way], mv', F', rfl, by omega, by simp [i64_succ i (by omega)], by simp, by simp [hwl], a2, q3, q4, q5, fun q hq ht => by
      rw [q8 q hq ht, if_neg ht]; split <;> omega, fun w hw => by
      rcases List.mem_append.1 hw with hw | hw
      · exact hall w hw
      · simp at hw; subst hw; exact q6, flat_push hnd q7 (fun a ha hu => by
        have h1 := (q10 a ha).1
        rw [hz a hu] at h1; cases h1), fun a ha => by
      rw [List.flatten_append] at ha
      rcases List.mem_append.1 ha with ha | ha
      · have h0 := hz a ha
        have hlt2 := (List.getElem?_eq_some_iff.1 h0).1
        have hf : F'[a.toNat]? = some (F'[a.toNat]'(by omega)) := List.getElem?_eq_getElem (by omega)
        rcases q5 _ (List.mem_of_getElem? hf) with h | h
        · rw [hf, h]
        · rw [h] at hf
          rw [q9 _ hf] at h0; cases h0
      · simp at ha; exact (q10 a ha).2⟩
  · rintro A' W' hf; exact hf.elim
  rintro ⟨tm, n, ds⟩ Wz ⟨hn, hd, h1, h2, h7, h10, h12, h14, h55, hOz, ways, mv, h6, hwx, hWG, hap⟩
  simp only at hn hd h1 h2 h7 h10 h12 h14 h55
  subst hn; subst hd
  simp only at h6
  have hWkz : Wk Wz p B (layL (1 <<< s) s (arcsQ (onesL l))) s t rm lv := (hWk6.ext hE7).only hOz (fun b hb e => by have := hWk6.Ble; omega)
  try simp only [wpK_assoc]
  refine wpK_reg (fun R hR => by
      simp [h12, aEnter, fun61, short_other, aCallV]; rw [callS_none]
      refine (near_wp hWkz).mono ?_
      rintro _ W9 ⟨e9, rfl⟩; subst W9
      simp [h12]; exact hR) ?_
  have hOz6 : Only (fun b => b = pf) W6 Wz := only_trans (only_ext hE7) hOz
  have hVez : Var Wz pe 31 [.int .i64 P, u] := hVe6.only hOz6 (by omega)
  have lez := hVez.load1 (T := T0) und29 rfl (j := 1) (v := u) rfl
  have hTz : TriIn Wz u (onesL l) := hT6.only hOz6 (fun b hb e => by omega)
  have hE4z : Ext W4 Wz := ⟨by have := hE46.1; have := hOz6.1; omega, fun b hb hk => by rw [hOz6.2 b (by have := hE46.1; omega) (by have := hE46.1; omega)]; exact hE46.2 b hb (fun x => x)⟩
  obtain ⟨S, hS⟩ : ∃ S, S = nearS lv 24 := ⟨_, rfl⟩
  have hS24 : S < 2 ^ 24 := by rw [hS]; exact nearS_lt lv 24
  rw [← hS]
  try simp only [wpK_assoc]
  refine wpK_reg (fun R hR => by simp [h10, lez, lnu]; exact hR) ?_
  try simp only [wpK_assoc]
  refine wpK_while (I := fun k A' W' => A'.n = 95 ∧ A'.defers = [] ∧ A'.tmps.get 6 = some (mv) ∧ A'.tmps.get 15 = some (.int .u64 (S : Int)) ∧ A'.tmps.get 70 = some (u) ∧ A'.tmps.get 71 = some (.int .i64 l.length) ∧ Ext Wz W' ∧ ∃ (i : Nat) (av : Value), k = l.length - i ∧ i ≤ l.length ∧ A'.tmps.get 72 = some (.int .i64 (i : Int)) ∧ A'.tmps.get 7 = some av ∧ HeldI Wz W' av (arcsTo S l i))
    (J := fun A' W' => A'.n = 95 ∧ A'.defers = [] ∧ A'.tmps.get 6 = some (mv) ∧ A'.tmps.get 15 = some (.int .u64 (S : Int)) ∧ A'.tmps.get 70 = some (u) ∧ A'.tmps.get 71 = some (.int .i64 l.length) ∧ Ext Wz W' ∧ ∃ (av : Value), A'.tmps.get 7 = some av ∧ HeldI Wz W' av (arcsTo S l l.length)) (Rt := fun _ _ => False) (k := l.length) ?_ ?_ ?_ ?_
  · exact ⟨rfl, rfl, by simp [h6], by simp [h6], by simp [h6], by simp [h6], .refl _ _, 0, .slice none 0 0, by omega, by omega, by simp, by simp [h7], .inr (.nil _ _ _ _)⟩
  · rintro k ⟨tm, n, ds⟩ Wi ⟨hn, hd, h6, h15, h70, h71, hEi, i, av, hk, hi, h72, h7, hH⟩ Q' hJ hRt hI
    simp only at hn hd h6 h15 h70 h71
    subst hn; subst hd
    simp only at h72 h7
    try simp only [wpK_assoc]
    refine wpK_reg (fun R hR => by simp [h71, h72]; exact hR) ?_
    by_cases hlt : i < l.length
    case neg =>
      have e : i = l.length := by omega
      rw [e] at hH
      try simp only [wpK_assoc]
      first | refine wpK_onF (by simp [hlt]) ?_ | refine wpK_out (by simp [hlt]) ?_ | refine wpK_condF (by simp [hlt]) ?_ | refine wpK_endF (by simp [hlt]) (wpK_skip ?_) | refine wpK_endF (by simp [hlt]) ?_
      exact hJ _ _ ⟨rfl, rfl, by simp [h6, h15, h70, h71], by simp [h6, h15, h70, h71], by simp [h6, h15, h70, h71], by simp [h6, h15, h70, h71], hEi, av, by simp [h7], hH⟩
    try simp only [wpK_assoc]
    first | refine wpK_onT (by simp [hlt]) ?_ | refine wpK_outT (by simp [hlt]) ?_ | refine wpK_condT (by simp [hlt]) ?_ | refine wpK_endT (by simp [hlt]) ?_
    have he : l[i]? = some l[i] := List.getElem?_eq_getElem hlt
    generalize l[i] = e at he
    have he1 : (onesL l)[i]? = some (e.1, e.2.1, 1) := by rw [ones_get, he]; rfl
    obtain ⟨A, c, hua, hA⟩ := hTz.ext hEi
    obtain ⟨b, o, hAe, q1, q2, q3⟩ := hA i _ he1
    have eV := indexAddr_tri (T := T0) und29 sz106 (b := b) (o := o) (c := c) (k := .i64) (show i < (onesL l).length by rw [onesL_len]; exact hlt)
    rw [← hAe, ← hua] at eV
    have la := load3 (T := T0) und106 agg106 inf106 is106 q1 q2 q3
    obtain ⟨i1, i2, i3, i4⟩ := hin e (List.mem_of_getElem? he)
    obtain ⟨x1, hx1⟩ : ∃ x1 : Nat, e.1 = x1 := ⟨e.1.toNat, by omega⟩
    obtain ⟨y1, hy1⟩ : ∃ y1 : Nat, e.2.1 = y1 := ⟨e.2.1.toNat, by omega⟩
    simp only [hx1, hy1] at la
    obtain ⟨Wp, f1, f2, f3, f4⟩ := storeVar_new (T := T0) (W := Wi) (t := 106) (v := .agg ⟨[.int .i64 (x1 : Int), .int .i64 (y1 : Int), .int .i64 1]⟩) (z := [.int .i64 0, .int .i64 0, .int .i64 0]) inf106 (by rw [is106]; rfl) (by rw [is106]; rfl) rfl
    have f4 : Var Wp Wi.next 106 [.int .i64 (x1 : Int), .int .i64 (y1 : Int), .int .i64 1] := f4
    have lp0 := f4.load1 (T := T0) und3 rfl (j := 0) (v := .int .i64 (x1 : Int)) rfl
    have lp1 := f4.load1 (T := T0) und3 rfl (j := 1) (v := .int .i64 (y1 : Int)) rfl
    have hEp : Ext Wz Wp := hEi.trans f3
    have hHp : HeldI Wz Wp av (arcsTo S l i) := HeldN.only (K' := fun _ => False) hH f3 (fun _ _ _ y => y)
    have hha := has_wp S x1 (by omega) (by omega) Wp
    have hhb := has_wp S y1 (by omega) (by omega) Wp
    have hout : outA S l i = (S.testBit x1 && !S.testBit y1) := by simp only [outA, he, hx1, hy1, Int.toNat_natCast]
    have hsuc := arcsTo_succ S l i
    have hli := hal i
    rw [← hS] at hli
    refine wpK_block ?_
    try simp only [wpK_assoc]
    refine wpK_reg (fun R hR => by simp [h70, h72, eV, la, zero106', f1]; exact hR) ?_
    have fin : ∀ (tm' : Tr Value) (W' : AW) (av' : Value), tm'.get 6 = some mv → tm'.get 15 = some (.int .u64 (S : Int)) → tm'.get 70 = some u → tm'.get 71 = some (.int .i64 l.length) → tm'.get 72 = some (.int .i64 ((i + 1 : Nat) : Int)) → tm'.get 7 = some av' → Ext Wz W' → HeldI Wz W' av' (arcsTo S l (i + 1)) → Q' .normal ⟨tm', 95, []⟩ W' := fun tm' W' av' a1 a2 a3 a4 a5 a6 a7 a8 => hI (l.length - (i + 1)) _ _ (by omega) ⟨rfl, rfl, a1, a2, a3, a4, a7, i + 1, av', rfl, by omega, a5, a6, a8⟩
    cases hb1 : S.testBit x1 with
    | false =>
      rw [hb1] at hha hout
      rw [hout] at hsuc
      simp only [Bool.false_and, Bool.false_eq_true, if_false, List.append_nil] at hsuc
      try simp only [wpK_assoc]
      refine wpK_reg (fun R hR => by
          simp [h15, lp0, undef, aEnter, fun62, short_other, aCallV]; rw [callS_none]
          refine (hha).mono ?_
          rintro _ W9 ⟨e9, rfl⟩; subst W9
          simp [h15, lp0, undef]; exact hR) ?_
      first | refine wpK_endF (by simp) (wpK_skip ?_) | refine wpK_onF (by simp) ?_
      simp only [leaves_normal, behind_normal]
      try simp only [wpK_assoc]
      refine wpK_reg1 (fun R hR => by simp [h72]; exact hR) ?_
      exact fin _ _ av (by simp [h6]) (by simp [h15]) (by simp [h70]) (by simp [h71]) (by simp [i64_succ i (by omega)]) (by simp [h7]) hEp (by rw [hsuc]; exact hHp)
    | true =>
      rw [hb1] at hha hout
      cases hb2 : S.testBit y1 with
      | true =>
        rw [hb2] at hhb hout
        rw [hout] at hsuc
        simp only [Bool.not_true, Bool.and_false, Bool.false_eq_true, if_false, List.append_nil] at hsuc
        try simp only [wpK_assoc]
        refine wpK_reg (fun R hR => by
          simp [h15, lp0, aEnter, fun62, short_other, aCallV]; rw [callS_none]
          refine hha.mono ?_
          rintro _ W9 ⟨e9, rfl⟩; subst W9
          simp [h15, lp0, lp1, aEnter, fun62, short_other, aCallV]; rw [callS_none]
          refine hhb.mono ?_
          rintro _ W9 ⟨e9, rfl⟩; subst W9
          simp [h15, lp0, lp1, opUnOp, aUn]; exact hR) ?_
        first | refine wpK_endF (by simp) (wpK_skip ?_) | refine wpK_onF (by simp) ?_
        simp only [leaves_normal, behind_normal]
        try simp only [wpK_assoc]
        refine wpK_reg1 (fun R hR => by simp [h72]; exact hR) ?_
        exact fin _ _ av (by simp [h6]) (by simp [h15]) (by simp [h70]) (by simp [h71]) (by simp [i64_succ i (by omega)]) (by simp [h7]) hEp (by rw [hsuc]; exact hHp)
      | false =>
        rw [hb2] at hhb hout
        rw [hout] at hsuc
        simp only [Bool.not_false, Bool.and_true, if_true] at hsuc
        try simp only [wpK_assoc]
        refine wpK_reg (fun R hR => by
          simp [h15, lp0, aEnter, fun62, short_other, aCallV]; rw [callS_none]
          refine hha.mono ?_
          rintro _ W9 ⟨e9, rfl⟩; subst W9
          simp [h15, lp0, lp1, aEnter, fun62, short_other, aCallV]; rw [callS_none]
          refine hhb.mono ?_
          rintro _ W9 ⟨e9, rfl⟩; subst W9
          simp [h15, lp0, lp1, opUnOp, aUn]; exact hR) ?_
        try simp only [wpK_assoc]
        first | refine wpK_onT (by simp []) ?_ | refine wpK_outT (by simp []) ?_ | refine wpK_condT (by simp []) ?_ | refine wpK_endT (by simp []) ?_
        obtain ⟨av', Wq, a1, a2, a3⟩ := hHp.push2 hEp.1 (by omega) (i : Int)
        have hb46 := bs46' Wp (i : Int)
        try simp only [wpK_assoc]
        refine wpK_reg1 (fun R hR => by simp [h7, h72, hb46, a1]; exact hR) ?_
        simp only [leaves_normal, behind_normal]
        try simp only [wpK_assoc]
        refine wpK_reg1 (fun R hR => by simp [h72]; exact hR) ?_
        have hEq : Ext Wz Wq := ⟨by have := hEp.1; have := a3.1; omega, fun b hb hk => by rw [a3.2 b (by have := hEp.1; omega) (by omega)]; exact hEp.2 b hb (fun x => x)⟩
        exact fin _ _ av' (by simp [h6]) (by simp [h15]) (by simp [h70]) (by simp [h71]) (by simp [i64_succ i (by omega)]) (by simp) hEq (by rw [hsuc]; exact a2)
  · rintro A' W' hf; exact hf.elim
  · rintro ⟨tm, n, ds⟩ Wy ⟨hn, hd, h6, h15, h70, h71, hEy, av, h7, hH⟩
    simp only at hn hd h6 h15 h70 h71
    subst hn; subst hd
    simp only at h7
    try simp only [wpK_assoc]
    refine wpK_reg (fun R hR => by simp [h6, h7]; exact hR) ?_
    have hav : IntL Wy av (arcsTo S l l.length) := by
      rcases hH with hh | hh
      · exact HeldI.ints (W0 := Wz) (.inl hh) (by obtain ⟨_, _, _, _, _, hp, _⟩ := hh; exact hp)
      · exact GrowsN.ints hh
    have hEall : Ext W Wy := (((hE0.trans hE1).trans hE14).trans hE4z).trans hEy
    refine wpK_ret ⟨.inr rfl, rfl, [mv, av, .int .i64 0], by simp, hEall, ways, x, rm, lv, mv, av, rfl, ?_, by rw [← hS]; exact hav, hap, hwx, hF⟩
    exact (hWG.only hEy (fun b _ _ x => x)).base (by have := hE0.1; have := hE1.1; have := hE14.1; have := hE46.1; have := hE7.1; omega)
end Go.Proofs.YtkgfjfkgmpeobaaDoor

open Go Go.Eng
namespace Go.Proofs.YtkgfjfkgmpeobaaDoor
attribute [local congr] undef_congr WpK.congr WpS.congr WpL.congr WpC.congr WpF.congr gotS.congr callS.congr nextS.congr wantS.congr condS.congr
attribute [local irreducible] WpK
attribute [local simp] WpDr_nil WpDr_cons atS_some dwantS_true dwantS_false kindS_light kindS_float kindS_heavy lightS_value floatS_some heavyS_value heavyS_skip heavyS_enter dcallS_some doneS_eq
  isLight isFloat isPlain dLook testBit_dec dChain dLights_nil dLights_skip dLights_one dLight_nil dLight_cons dFreshes_nil dFreshes_one oneF_none oneF_some dFresh_nil dFresh_cons oneL_some oneW_true oneW_false sameV_value dPut dMay valEq arrEq listEq List.getElem?_cons Tr.get_nil dEnd
attribute [local simp] WpS_nil WpS_cons isDefer undef_false wantS_true wantS_false nextS_value nextS_skip nextS_enter callS_some gotS_some aWanted aOp aEvalF aEval opMove opAssign opPick aVal flat flat1 AAct.put opBinOp opConvert opIndex Tr.get_set Tr.get_lay aBin aResults tupled
  aCall aVals aCallB blt_dec ble_dec beq_dec aBinI_add aBinI_sub aBinI_lss aBinI_leq aBinI_gtr aBinI_geq aBinI_eql aBinI_neq index_str len_str len_slice Nat.beq_refl und2 und3 und4 und5 und39 und76 und82 und115 und22 und29 und25 und33 und46 und43 und49 und111 und113 field151 field155_0 field155_1 field155_2 field155_3 field155_4
  field78 field106 field24 field31 field27 field35 field108 field109 opBox opLoad opFieldAddr opIndexAddr acells aAddr opExtract aExtract opUnOp opAlloc opStore opMakeInterface opNilCheck opBuild aParts opBuildSlice aValW
set_option maxHeartbeats 4000000
set_option linter.unusedSimpArgs false
set_option linter.unusedVariables false
theorem WaysG.dup {W0 W : AW} {mv : Value} {ways : List (List Int)} {w : List Int} (h : WaysG W0 W mv ways) (h0 : ways[0]? = some w) (hlen : ways.length ≤ 1000) :
    ∃ u0 b p, aIndexAddr T0 49 mv (.int .i64 0) = some (.pointer (some ⟨b, p, none⟩)) ∧ aLoadVar T0 W 46 b p = some u0 ∧ (∃ A c, u0 = .slice A w.length c) ∧ ∃ mv' W', aAppend T0 (W.newCells 46 [u0]) [49, 49] [mv, .slice (some ⟨W.next, 0, none⟩) 1 2] = some (mv', W') ∧ WaysIn W' mv' (ways ++ [w]) ∧ Only (fun b => W0.next ≤ b) W W' := by
  have hin := h.in_
  obtain ⟨KL, KR, us, h1, h2, h3, h4, h5⟩ := h.all
  have hlt := (List.getElem?_eq_some_iff.1 h0).1
  obtain ⟨u0, b, p, x1, x2, x3, x4⟩ := ways_at hin h0
  have hu0 : us[0]? = some (us[0]'(by omega)) := List.getElem?_eq_getElem (by omega)
  have hue : us[0]'(by omega) = u0 := by
    obtain ⟨hl, ⟨e0, _⟩ | ⟨b', c, kin, rfl, g2, g3, g4, g5, g6, g7⟩⟩ := h1
    · omega
    · have hx := indexAddr_slice (T := T0) und49 sz46 (b := b') (o := 0) (c := 2 * 1 + 1) (k := .i64) hlt
      have x1 : aIndexAddr T0 49 (.slice (some ⟨b', 0, none⟩) ways.length (2 * 1 + 1)) (.int .i64 ((0 : Nat) : Int)) = some (.pointer (some ⟨b, p, none⟩)) := x1
      rw [hx] at x1
      have e := Option.some.inj x1
      injection e with e; have e := Option.some.inj e; injection e with e1 e2 e3
      rw [← e1, ← e2] at x4
      have := x4.2
      simp only [AW.cell, g5, blt_dec, Nat.zero_add, Nat.zero_mul, show 0 < us.length from by omega, decide_true] at this
      rw [g6 0 (by omega), hu0] at this
      exact Option.some.inj this
  rw [hue] at hu0
  have hrow := h3 0 u0 w hu0 h0
  obtain ⟨A, c, hus⟩ := hrow.len
  have hE : Ext W (W.newCells 46 [u0]) := .newCells _ _ _
  obtain ⟨mv', W', a1, a2, a3, a4⟩ := append_growsN (T := T0) (t := 49) (el := 46) (c := 2) (by omega) und49 inf46 is46 z46' rfl (h1.only (K' := fun _ => False) hE (fun _ _ _ x => x)) (u := [u0]) rfl (newCells_cellsAt W 46 [u0] 1 rfl) (by rw [hus]; rfl) (by rw [by46']; omega) (by omega)
  rw [newCells_next] at a2
  have hO : Only KL W W' := ⟨by omega, fun b hb hk => by rw [a4.2 b (by rw [newCells_next]; omega) hk]; exact hE.2 b hb (fun x => x)⟩
  refine ⟨u0, b, p, x1, x2, ⟨A, c, hus⟩, mv', W', a1, ?_, ⟨by omega, fun b hb hk => hO.2 b hb (fun hh => hk (h4 b hh).1)⟩⟩
  have hG : WaysG W0 W' mv' (ways ++ [w]) := ⟨fun b => KL b ∨ b = W.next + 1, KR, us ++ [u0], by
    rw [show (ways ++ [w]).length = ways.length + 1 from by simp]
    exact a3.mono (fun b hb => hb.elim .inl (fun e => .inr (by rw [newCells_next] at e; exact e))), by simp [h2], fun i u' w' hu' hw' => by
    by_cases hi : i < ways.length
    · rw [List.getElem?_append_left (by omega)] at hu' hw'
      exact (h3 i u' w' hu' hw').only hO (fun b hb hx hk => (h5 b hx).2.2 hk)
    · rw [List.getElem?_append_right (by omega)] at hu' hw'
      have h0 : i - ways.length = 0 := by have := (List.getElem?_eq_some_iff.1 hw').1; simp at this; omega
      rw [h2, h0] at hu'
      rw [h0] at hw'
      cases hu'; cases hw'
      exact hrow.only hO (fun b hb hx hk => (h5 b hx).2.2 hk), fun b hb => by
    rcases hb with hb | hb
    · have := h4 b hb; omega
    · have := h1; obtain ⟨_, ⟨e0, _⟩ | ⟨b', _, _, _, _, g3, g4, _⟩⟩ := this
      · omega
      · have := h4 b' g3; omega, fun b hb => by
    have := h5 b hb
    exact ⟨this.1, by omega, fun hh => hh.elim this.2.2 (fun e => by omega)⟩⟩
  exact hG.in_
theorem WaysG.cutFirst {W0 W : AW} {mv : Value} {rest : List (List Int)} {w : List Int} (h : WaysG W0 W mv (w :: rest)) (hw : 0 < w.length) (hwl : w.length ≤ 1000) :
    ∃ u0 b p u', aIndexAddr T0 49 mv (.int .i64 0) = some (.pointer (some ⟨b, p, none⟩)) ∧ aLoadVar T0 W 46 b p = some u0 ∧ (∃ A c, u0 = .slice A w.length c) ∧ aSliceOp T0 W 46 u0 none (some (.int .i64 ((w.length - 1 : Nat) : Int))) (some (.int .i64 ((w.length - 1 : Nat) : Int))) = some u' ∧ ∃ W', aStoreVar T0 W 46 b p u' = some W' ∧ WaysIn W' mv (w.take (w.length - 1) :: rest) ∧ Only (fun b => W0.next ≤ b) W W' := by
  have hin := h.in_
  obtain ⟨KL, KR, us, h1, h2, h3, h4, h5⟩ := h.all
  obtain ⟨hl, ⟨e0, _⟩ | ⟨b, c, kin, rfl, g2, g3, g4, g5, g6, g7⟩⟩ := h1
  · simp at e0
  simp only [List.length_cons] at h2
  have hu0 : us[0]? = some (us[0]'(by omega)) := List.getElem?_eq_getElem (by omega)
  generalize us[0]'_ = u0 at hu0
  have hrow := h3 0 u0 w hu0 rfl
  have hx := indexAddr_slice (T := T0) und49 sz46 (b := b) (o := 0) (c := 2 * 1 + 1) (k := .i64) (i := 0) (len := (w :: rest).length) (by simp)
  have hHas : W.Has b 0 u0 := ⟨g4, by
    simp only [AW.cell, g5, blt_dec, show 0 < us.length from by omega, decide_true]
    rw [g6 0 (by omega)]; exact hu0⟩
  rcases hrow with ⟨rfl, _⟩ | ⟨rb, rc, nb, rkin, rfl, r2, r3, r4, r5, r6, r7, r8⟩
  · simp at hw
  have hrne : rb ≠ b := fun e => (h5 rb r4).2.2 (e ▸ g3)
  have hsl : aSliceOp T0 W 46 (.slice (some ⟨rb, 0, none⟩) w.length 3) none (some (.int .i64 ((w.length - 1 : Nat) : Int))) (some (.int .i64 ((w.length - 1 : Nat) : Int))) = some (.slice (some ⟨rb, 0, none⟩) (w.length - 1) (2 * (w.length - 1))) := by
    have hb1 : aBound (.int .i64 ((w.length - 1 : Nat) : Int)) (max w.length (W.ext rb 0 1)) = some (w.length - 1) := by
      show aBound (.int .i64 (Int.ofNat (w.length - 1))) _ = _
      simp only [aBound, ble_dec, show w.length - 1 ≤ max w.length (W.ext rb 0 1) from by omega, decide_true]
    have hb2 : aBound (.int .i64 ((w.length - 1 : Nat) : Int)) (w.length - 1) = some (w.length - 1) := by
      show aBound (.int .i64 (Int.ofNat (w.length - 1))) _ = _
      simp only [aBound, ble_dec, Nat.le_refl, decide_true]
    have e2 : Nat.beq (3 / 2) 1 = true := rfl
    have e3 : Nat.beq (3 % 2) 0 = false := rfl
    have hsh : ∀ m, shiftTo 0 m 0 1 = 0 := fun m => by unfold shiftTo; split <;> simp
    simp only [aSliceOp, und46, sz3, e3, e2, hb1, hb2, aLo, hsh, Nat.sub_zero]
  have hst : aStoreVar T0 W 46 b 0 (.slice (some ⟨rb, 0, none⟩) (w.length - 1) (2 * (w.length - 1))) = some ⟨(AW.kill W.blocks kin).set b ⟨.cells (c.set 0 (.slice (some ⟨rb, 0, none⟩) (w.length - 1) (2 * (w.length - 1)))) us.length 46, []⟩, W.next⟩ := by
    have e0 : 0 < us.length := by omega
    simp only [aStoreVar, inf46, acells, is46, List.length_cons, List.length_nil, Nat.beq_refl, AW.storeList]
    simp only [Value.oneCell', AW.store, g5, blt_dec, e0, decide_true]
  have hO : Only KL W ⟨(AW.kill W.blocks kin).set b ⟨.cells (c.set 0 (.slice (some ⟨rb, 0, none⟩) (w.length - 1) (2 * (w.length - 1)))) us.length 46, []⟩, W.next⟩ := ⟨Nat.le_refl _, fun d hd hk => by
    show ((AW.kill W.blocks kin).set b _).get d = _
    rw [Tr.get_set, if_neg (by rintro rfl; exact hk g3)]
    exact kill_other (fun p hp (e : p.1 = d) => hk (by rw [← e]; exact g7 p hp))⟩
  refine ⟨_, b, 0, _, hx, load_of und46 rfl hHas, ⟨_, _, rfl⟩, hsl, _, hst, ?_, ⟨Nat.le_refl _, fun d hd hk => hO.2 d hd (fun hh => hk (h4 d hh).1)⟩⟩
  have cell : ∀ (i : Nat) v, (c.set 0 (.slice (some ⟨rb, 0, none⟩) (w.length - 1) (2 * (w.length - 1)))).get i = some v → i < us.length → AW.Has ⟨(AW.kill W.blocks kin).set b ⟨.cells (c.set 0 (.slice (some ⟨rb, 0, none⟩) (w.length - 1) (2 * (w.length - 1)))) us.length 46, []⟩, W.next⟩ b i v := fun i v hv hi => ⟨g4, by
    have hb : ((AW.kill W.blocks kin).set b ⟨.cells (c.set 0 (.slice (some ⟨rb, 0, none⟩) (w.length - 1) (2 * (w.length - 1)))) us.length 46, []⟩).get b = some ⟨.cells (c.set 0 (.slice (some ⟨rb, 0, none⟩) (w.length - 1) (2 * (w.length - 1)))) us.length 46, []⟩ := by rw [Tr.get_set, if_pos rfl]
    simp only [AW.cell, hb, blt_dec, hi, decide_true]; exact hv⟩
  have hlen : (w.take (w.length - 1)).length = w.length - 1 := by rw [List.length_take]; omega
  refine ⟨some ⟨b, 0, none⟩, 2 * 1 + 1, by simp, fun i w' hw' => ?_⟩
  cases i with
  | zero =>
    simp at hw'
    refine ⟨b, 0, _, rfl, cell 0 _ (by rw [Tr.get_set, if_pos rfl]) (by omega), ?_⟩
    rw [← hw']
    refine ⟨some ⟨rb, 0, none⟩, 2 * (w.length - 1), by rw [hlen], fun j x hx => ⟨rb, 0, rfl, ?_⟩⟩
    have hj : j < w.length - 1 := by have := (List.getElem?_eq_some_iff.1 hx).1; omega
    rw [List.getElem?_take_of_lt hj] at hx
    have hrHas : W.Has rb (0 + j) (.int .i64 x) := ⟨r5, by
      simp only [AW.cell, r6, blt_dec, Nat.zero_add, show j < nb from by omega, decide_true]
      exact r7 j x hx⟩
    exact hrHas.only hO (h5 rb r4).2.2
  | succ i =>
    simp only [List.getElem?_cons_succ] at hw'
    have hi := (List.getElem?_eq_some_iff.1 hw').1
    have hu : us[i + 1]? = some (us[i + 1]'(by omega)) := List.getElem?_eq_getElem (by omega)
    refine ⟨b, 0, us[i + 1]'(by omega), rfl, cell (0 + (i + 1)) _ (by rw [Nat.zero_add, Tr.get_set, if_neg (by omega), g6 (i + 1) (by omega)]; exact hu) (by omega), ?_⟩
    exact ((h3 (i + 1) _ w' hu (by simpa using hw')).only hO (fun d hd hx hk => (h5 d hx).2.2 hk)).ints
def WaysS (W : AW) (v : Value) (ll : List (List Int)) : Prop := ∃ A c, v = .slice A ll.length c ∧ ∀ (i : Nat) l, ll[i]? = some l → ∃ b o u, A = some ⟨b, o, none⟩ ∧ W.Has b (o + i) u ∧ IntL W u l ∧ SlOk u l.length
theorem waysS_at {W : AW} {v : Value} {ll : List (List Int)} (h : WaysS W v ll) {i : Nat} {l : List Int} (hi : ll[i]? = some l) :
    ∃ u b p, aIndexAddr T0 49 v (.int .i64 (i : Int)) = some (.pointer (some ⟨b, p, none⟩)) ∧ IntL W u l ∧ SlOk u l.length ∧ W.Has b p u := by
  obtain ⟨A, c, rfl, h2⟩ := h
  obtain ⟨b, o, u, rfl, e2, e3, e4⟩ := h2 i l hi
  have hlt := (List.getElem?_eq_some_iff.1 hi).1
  have hx := indexAddr_slice (T := T0) und49 sz46 (b := b) (o := o) (c := c) (k := .i64) hlt
  rw [Nat.mul_one] at hx
  exact ⟨u, b, o + i, hx, e3, e4, e2⟩
theorem ways_rows {l : List Tri} {s t : Int} {ways : List (List Int)} (h : apartW l s t ways) : ∀ w ∈ ways, w.length ≤ l.length := fun w hw => by
  have h1 := isW_mem (h.1 w hw)
  obtain ⟨i, hi⟩ := List.mem_iff_getElem?.1 hw
  have hn : w.Nodup := by
    have := h.2
    rw [show ways = ways.take i ++ (w :: ways.drop (i + 1)) from by
      have hlt := (List.getElem?_eq_some_iff.1 hi).1
      have e := (List.getElem?_eq_some_iff.1 hi).2
      rw [← e, ← List.drop_eq_getElem_cons hlt, List.take_append_drop]] at this
    rw [List.flatten_append, List.flatten_cons] at this
    exact (List.nodup_append.1 (List.nodup_append.1 this).2.1).1
  exact way_len hn h1
theorem isW_pos {l : List Tri} {s t : Int} {w : List Int} (h : isW l s t w) (hne : s ≠ t) : 0 < w.length := by
  cases w with
  | nil => obtain ⟨seen, h⟩ := h; simp [walkW] at h; exact absurd h.1 hne
  | cons a w => simp
end Go.Proofs.YtkgfjfkgmpeobaaDoor

open Go Go.Eng
namespace Go.Proofs.YtkgfjfkgmpeobaaDoor
attribute [local congr] undef_congr WpK.congr WpS.congr WpL.congr WpC.congr WpF.congr gotS.congr callS.congr nextS.congr wantS.congr condS.congr
attribute [local irreducible] WpK
attribute [local simp] WpDr_nil WpDr_cons atS_some dwantS_true dwantS_false kindS_light kindS_float kindS_heavy lightS_value floatS_some heavyS_value heavyS_skip heavyS_enter dcallS_some doneS_eq
  isLight isFloat isPlain dLook testBit_dec dChain dLights_nil dLights_skip dLights_one dLight_nil dLight_cons dFreshes_nil dFreshes_one oneF_none oneF_some dFresh_nil dFresh_cons oneL_some oneW_true oneW_false sameV_value dPut dMay valEq arrEq listEq List.getElem?_cons Tr.get_nil dEnd
attribute [local simp] WpS_nil WpS_cons isDefer undef_false wantS_true wantS_false nextS_value nextS_skip nextS_enter callS_some gotS_some aWanted aOp aEvalF aEval opMove opAssign opPick aVal flat flat1 AAct.put opBinOp opConvert opIndex Tr.get_set Tr.get_lay aBin aResults tupled
  aCall aVals aCallB blt_dec ble_dec beq_dec aBinI_add aBinI_sub aBinI_lss aBinI_leq aBinI_gtr aBinI_geq aBinI_eql aBinI_neq index_str len_str len_slice Nat.beq_refl und2 und3 und4 und5 und39 und76 und82 und115 und22 und29 und25 und33 und46 und43 und49 und111 und113 field151 field155_0 field155_1 field155_2 field155_3 field155_4
  field78 field106 field24 field31 field27 field35 field108 field109 opBox opLoad opFieldAddr opIndexAddr acells aAddr opExtract aExtract opUnOp opAlloc opStore opMakeInterface opNilCheck opBuild aParts opBuildSlice aValW
set_option maxHeartbeats 4000000
set_option linter.unusedSimpArgs false
set_option linter.unusedVariables false
theorem own_net {W : AW} {v : Value} {l : List Tri} {K : Nat → Prop} (h : GrowsN W v l.length (flat3 l) 106 3 K) : (l = [] ∧ v = .slice none 0 0) ∨ (0 < l.length ∧ ∃ b c, v = .slice (some ⟨b, 0, none⟩) l.length c) := by
  obtain ⟨_, ⟨h1, h2⟩ | ⟨b, c, kin, h1, h2, _⟩⟩ := h
  · exact .inl ⟨List.length_eq_zero_iff.1 h1, h2⟩
  · exact .inr ⟨h2, b, _, h1⟩
open Classical in
theorem flowApart_wp {W : AW} {v0 wv : Value} (P0 oa ob : Int) {l0 : List Tri} {ll : List (List Int)} (h0 : TriIn W v0 l0) (hlen0 : l0.length < 9223372036854775808) (hw : WaysS W wv ll) (hwl : ll.length < 9223372036854775808) (hrl : ∀ w ∈ ll, w.length < 9223372036854775808) (htb : tabsIn T0 T0.tabs W = true) (hW0 : 0 < W.next) :
    WpF T0 6 [.agg ⟨[.int .i64 P0, v0]⟩, .agg ⟨[.int .i64 oa, .int .i64 ob]⟩, wv] W (fun u _ => u = .bool true) := by
  refine wpF fun6 rfl ?_
  obtain ⟨W1, hW1, hE1, hn1, hV3, hV4⟩ : ∃ W1, W1 = (W.newCells 24 [.int .i64 P0, v0]).newCells 28 [.int .i64 oa, .int .i64 ob] ∧ Ext W W1 ∧ W1.next = W.next + 2 ∧ Var W1 W.next 24 [.int .i64 P0, v0] ∧ Var W1 (W.next + 1) 28 [.int .i64 oa, .int .i64 ob] :=
    ⟨_, rfl, (Only.newCells _ _ _).trans (Only.newCells _ _ _), rfl, (Var.new _ _ _).ext (.newCells _ _ _), Var.new _ _ _⟩
  have hl3 := load24 hV3
  try simp only [wpK_assoc]
  refine wpK_reg (fun R hR => by simp [newCells_next, ← hW1]; exact hR) ?_
  try simp only [wpK_assoc]
  refine wpK_x4 (fun R hR => by
    simp [hl3, aEnter, fun30, short_other, aCallV]; rw [callS_none]
    refine (tame_wp 8 18 (by omega) (by omega) (by omega) P0 (h0.ext hE1) hlen0).mono ?_
    rintro _ W2 ⟨hE2, P, l, v, hT, rfl, hG⟩
    obtain ⟨av, cv, hvs⟩ := hG.len
    obtain ⟨W3, s1, s2, hE3, hVx⟩ := storeVar_new (T := T0) (W := W2) (t := 24) (v := .agg ⟨[.int .i64 P, v]⟩) (z := [.int .i64 0, .slice none 0 0]) inf24 (by rw [is24]; rfl) (by rw [is24]; rfl) (by rw [hvs]; rfl)
    simp [zero24, s1]
    exact hR P l v W2 W3 (And.intro (hE2.trans hE3) (And.intro hT (And.intro hVx ((hG.tri).ext hE3))))) ?_
  rintro P l v W2 W3 ⟨hE3, hT, hVx, hTri⟩
  generalize hpx : W2.next = px at hVx
  have hP2 := hT.P2
  have hPle := hT.Ple
  have hok := hT.plan (by omega) (by omega)
  have ok1 := ok_ones hok
  have hll := hT.len
  have hin := arcsQ_in hok
  have hin1 := arcsQ_in ok1
  obtain ⟨hArc, _⟩ := arc_ok hok
  have hTb3 := tabs_ext htb hW0 (hE1.trans hE3)
  have h03 : 0 < W3.next := Nat.lt_of_lt_of_le hW0 (hE1.trans hE3).1
  have hE03 := hE1.trans hE3
  have hl43 : ∀ W', Ext W3 W' → aLoadVar T0 W' 28 (W.next + 1) 0 = some (.agg ⟨[.int .i64 oa, .int .i64 ob]⟩) := fun W' h => ((hV4.ext hE3).ext h).load (T := T0) (t := 28) und28 rfl (show T0.info.get 28 = some Tryd.t28 by kernel_rfl) (show Tryd.t28.size = _ by kernel_rfl)
  have LP : ∀ W', Ext W3 W' → aLoadVar T0 W' 3 px 0 = some (.int .i64 P) := fun W' h => (hVx.ext h).load1 (T := T0) und3 rfl (j := 0) (v := .int .i64 P) rfl
  have Lv : ∀ W', Ext W3 W' → aLoadVar T0 W' 22 px 1 = some v := fun W' h => (hVx.ext h).load1 (T := T0) und22 rfl (j := 1) (v := v) rfl
  have Lx : ∀ W', Ext W3 W' → aLoadVar T0 W' 24 px 0 = some (.agg ⟨[.int .i64 P, v]⟩) := fun W' h => load24 (hVx.ext h)
  obtain ⟨Av, cv, hvs⟩ := tri_len hTri
  have Ln : ∀ W', aLen T0 W' 22 v = some (.int .i64 l.length) := fun W' => by rw [hvs]; exact len_slice und22 _ _ _
  have hvv := tri_eq hTri
  have e33 : Ext W3 W3 := .refl _ _
  have Tb : ∀ {W'}, Ext W3 W' → tabsIn T0 T0.tabs W' = true := fun h => tabs_ext hTb3 h03 h
  have N0 : ∀ {W'}, Ext W3 W' → 0 < W'.next := fun h => Nat.lt_of_lt_of_le h03 h.1
  try simp only [wpK_assoc]
  refine wpK_x2 (fun R hR => by
      simp [LP, hl43, e33, aEnter, fun31, short_other, aCallV]; rw [callS_none]
      refine (ends_wp P oa ob hP2 (by omega)).mono ?_
      rintro _ W4 ⟨f1, s, t, rfl, hst, hsP, htP, hne⟩
      simp [LP, hl43, e33]; exact hR s t W4 (And.intro f1 (And.intro hst (And.intro hsP (And.intro htP hne))))) ?_
  rintro s t W4 ⟨f1, hst, hsP, htP, hne⟩
  try simp only [wpK_assoc]
  refine wpK_x3 (P := fun (vn mv av : Value) W6 => Ext W3 W6 ∧ ∃ (ways : List (List Int)) (rm : Nat → Int) (lv : Nat → Nat), WaysG W3 W6 mv ways ∧ IntL W6 av (arcsTo (nearS lv 24) l l.length) ∧ apartW l s t ways ∧ Filled (layL (1 <<< s) s (arcsQ (onesL l))) s t (hCap (layL (1 <<< s) s (arcsQ (onesL l)))) (ways.length : Int) rm lv) (fun R hR => by
    simp [Lx, f1, aEnter, fun12, short_other, aCallV]; rw [callS_none]
    refine (net_wp (P := (P : Int)) (hTri.ext f1) (by omega)).mono ?_
    rintro _ W5 ⟨g1, vn, rfl, hGn⟩
    have e5 := f1.trans g1
    simp [aEnter, fun21, short_other, aCallV]; rw [callS_none]
    refine (apart_wp (P := (P : Int)) hGn.tri (own_net hGn) hok hst (Tb e5) (N0 e5)).mono ?_
    rintro _ W6 ⟨g2, ways, x, rm, lv, mv, av, rfl, q1, q2, q3, q4, q5⟩
    rw [← q4] at q5
    simp; exact hR vn mv av W6 (And.intro (e5.trans g2) ⟨ways, rm, lv, q1.base e5.1, q2, q3, q5⟩)) ?_
  rintro vn mv av W6 ⟨e6, ways, rm, lv, hWG, hav, hap, hF⟩
  obtain ⟨nb, nlt⟩ := near_in hin1 hsP hF
  obtain ⟨c1, c2, c3, c4⟩ := filled_capQ hin1 (by omega) (by omega) hF
  have hcm : ∀ T, isCut s t T → (ways.length : Int) ≤ capQ T (arcsQ (onesL l)) ∧ ((ways.length : Int) = capQ T (arcsQ (onesL l)) → ∀ q, (nearS lv 24).testBit q = true → T.testBit q = true) := fun T hc => ⟨(c1 T hc.1 hc.2).1, fun he q hq => by
    rw [nearS_bit] at hq
    simp only [Bool.and_eq_true, decide_eq_true_eq] at hq
    exact (c1 T hc.1 hc.2).2 he q hq.1 hq.2⟩
  have hal : (arcsTo (nearS lv 24) l l.length).length = ways.length := by
    have := arcsTo_cap (nearS lv 24) l l.length (Nat.le_refl _)
    rw [List.take_length, ← c2] at this; omega
  have hcuts := arcsTo_cuts (nearS lv 24) l
  have hrise := arcsTo_rise (nearS lv 24) l l.length
  have hamem : ∀ a ∈ arcsTo (nearS lv 24) l l.length, 0 ≤ a ∧ a < (l.length : Int) := fun a ha => ⟨(arcsTo_mem ha).1, (arcsTo_mem ha).2.1⟩
  generalize arcsTo (nearS lv 24) l l.length = arcs at hav hal hcuts hrise hamem
  have harl : arcs.length ≤ l.length := by
    refine way_len ?_ hamem
    have mono : ∀ (d i : Nat) x y, arcs[i]? = some x → arcs[i + d + 1]? = some y → x < y := by
      intro d
      induction d with
      | zero => intro i x y h1 h2; exact hrise i x y h1 h2
      | succ d ih =>
        intro i x y h1 h2
        have hlt := (List.getElem?_eq_some_iff.1 h2).1
        have hm : arcs[i + d + 1]? = some (arcs[i + d + 1]'(by omega)) := List.getElem?_eq_getElem (by omega)
        have a1 := ih i x _ h1 hm
        have a2 := hrise (i + d + 1) _ y hm h2
        omega
    refine List.pairwise_iff_getElem.2 (fun i j hi hj hij e => ?_)
    have hi' : arcs[i]? = some arcs[i] := List.getElem?_eq_getElem hi
    have hj' : arcs[j]? = some arcs[j] := List.getElem?_eq_getElem hj
    have := mono (j - i - 1) i _ _ hi' (by rw [show i + (j - i - 1) + 1 = j from by omega]; exact hj')
    omega
  have hrows := ways_rows hap
  have hw200 : ways.length ≤ 200 := by omega
  have lmv : ∀ W', aLen T0 W' 49 mv = some (.int .i64 ways.length) := fun W' => by obtain ⟨A, c, hh⟩ := ways_len hWG.in_; rw [hh]; exact len_slice und49 _ _ _
  have lav : ∀ W', aLen T0 W' 46 av = some (.int .i64 ways.length) := fun W' => by obtain ⟨A, c, hh⟩ := int_len hav; rw [hh, hal]; exact len_slice und46 _ _ _
  -- the reference
  try simp only [wpK_assoc]
  refine wpK_x2 (P := fun (v1 sl2 : Value) W8 => Ext W6 W8) (fun R hR => by
    simp [Lx, e6, aEnter, fun38, short_other, aCallV]; rw [callS_none]
    refine (refOnes_wp (P := (P : Int)) (hTri.ext e6) (by omega)).mono ?_
    rintro _ W7 ⟨g1, v1, rfl, hG1⟩
    have hT1 : TriIn W7 v1 (onesL l) := GrowsN.tri (l := onesL l) (by rw [onesL_len]; exact hG1)
    simp [aEnter, fun32, short_other, aCallV]; rw [callS_none]
    refine (least32_wp (P := P) (s := s) (t := t) (S := nearS lv 24) (x := (ways.length : Int)) hT1 ok1 (by omega) hsP htP nlt ⟨c3, c4⟩ c2 hcm).mono ?_
    rintro _ W8 ⟨g2, sl2, rfl, _⟩
    simp; exact hR v1 sl2 W8 (g1.trans g2)) ?_
  rintro v1 sl2 W8 g8
  have e8 := e6.trans g8
  have hM : ∀ {W'}, Ext W8 W' → WaysIn W' mv ways := fun h => ways_ext hWG.in_ (g8.trans h)
  have hra := fun (W' : AW) (he : Ext W8 W') => refApart_wp (P := (P : Int)) (s := s) (t := t) (hTri.ext (e8.trans he)) (hM he) hok hst (by omega) (fun w hw => by have := hrows w hw; omega)
  simp only [decide_eq_true hap] at hra
  try simp only [wpK_assoc]
  refine wpK_x1 (P := fun (vn2 : Value) W12 => Ext W8 W12) (fun R hR => by
    simp [lmv, lav, Lx, e8, aEnter, fun39, short_other, aCallV]; rw [callS_none]
    refine (hra W8 (.refl _ _)).mono ?_
    rintro _ W9 ⟨g9, rfl⟩
    have e9 := e8.trans g9
    simp [Lx, e9, aEnter, fun12, short_other, aCallV]; rw [callS_none]
    refine (net_wp (P := (P : Int)) (hTri.ext e9) (by omega)).mono ?_
    rintro _ W10 ⟨g10, vn2, rfl, hGn2⟩
    have e10 := e9.trans g10
    have hpa := areApart_wp (P := (P : Int)) (s := s) (t := t) hGn2.tri (hM (g9.trans g10)) hok hst (by omega) (fun w hw => by have := hrows w hw; omega)
    rw [decide_eq_true hap] at hpa
    simp [aEnter, fun23, short_other, aCallV]; rw [callS_none]
    refine hpa.mono ?_
    rintro _ W11 ⟨g11, rfl⟩
    have e11 := e10.trans g11
    simp [Lx, e11, aEnter, fun40, short_other, aCallV]; rw [callS_none]
    refine (refReaches_wp (P := (P : Int)) (s := s) (t := t) (T := nearS lv 24) (hTri.ext e11) (hav.ext (((g8.trans g9).trans g10).trans g11)) hArc (by omega) (by omega) (by omega) c3 c4 hcuts).mono ?_
    rintro _ W12 ⟨g12, rfl⟩
    simp; exact hR vn2 W12 (((g9.trans g10).trans g11).trans g12)) ?_
  rintro vn2 W12 g12
  have e12 := e8.trans g12
  try simp only [wpK_assoc]
  first | refine wpK_onF (by simp []) ?_ | refine wpK_out (by simp []) ?_ | refine wpK_condF (by simp []) ?_ | refine wpK_endF (by simp []) (wpK_skip ?_) | refine wpK_endF (by simp []) ?_
  try simp only [wpK_assoc]
  refine wpK_reg (fun R hR => by simp []; exact hR) ?_
  have Lv12 := Lv W12 e12
  have hav12 := hav.ext (g8.trans g12)
  try simp only [wpK_assoc]
  refine wpK_while (I := fun k A' W' => A'.n = 197 ∧ A'.defers = [] ∧ A'.tmps.get 2 = some (wv) ∧ A'.tmps.get 7 = some (.pointer (some ⟨px, 0, none⟩)) ∧ A'.tmps.get 8 = some (.int .i64 s) ∧ A'.tmps.get 9 = some (.int .i64 t) ∧ A'.tmps.get 10 = some (mv) ∧ A'.tmps.get 11 = some (av) ∧ W' = W12 ∧ ∃ (i : Nat), k = ways.length - i ∧ i ≤ ways.length ∧ A'.tmps.get 15 = some (.int .i64 (i : Int)))
    (J := fun A' W' => A'.n = 197 ∧ A'.defers = [] ∧ A'.tmps.get 2 = some (wv) ∧ A'.tmps.get 7 = some (.pointer (some ⟨px, 0, none⟩)) ∧ A'.tmps.get 8 = some (.int .i64 s) ∧ A'.tmps.get 9 = some (.int .i64 t) ∧ A'.tmps.get 10 = some (mv) ∧ A'.tmps.get 11 = some (av) ∧ W' = W12) (Rt := fun _ _ => False) (k := ways.length) ?_ ?_ ?_ ?_
  · exact ⟨rfl, rfl, by simp, by simp, by simp, by simp, by simp, by simp, rfl, 0, by omega, by omega, by simp⟩
  · rintro k ⟨tm, n, ds⟩ Wi ⟨hn, hd, h2, h7, h8, h9, h10, h11, ei, i, hk, hi, h15⟩ Q' hJ hRt hI
    simp only at hn hd h2 h7 h8 h9 h10 h11
    subst hn; subst hd
    simp only at h15
    rw [ei]
    try simp only [wpK_assoc]
    refine wpK_reg (fun R hR => by simp [h11, h15, lav]; exact hR) ?_
    by_cases hlt : i < ways.length
    case neg =>
      try simp only [wpK_assoc]
      first | refine wpK_onF (by simp [hlt]) ?_ | refine wpK_out (by simp [hlt]) ?_ | refine wpK_condF (by simp [hlt]) ?_ | refine wpK_endF (by simp [hlt]) (wpK_skip ?_) | refine wpK_endF (by simp [hlt]) ?_
      exact hJ _ _ ⟨rfl, rfl, by simp [h2, h7, h8, h9, h10, h11], by simp [h2, h7, h8, h9, h10, h11], by simp [h2, h7, h8, h9, h10, h11], by simp [h2, h7, h8, h9, h10, h11], by simp [h2, h7, h8, h9, h10, h11], by simp [h2, h7, h8, h9, h10, h11], rfl⟩
    try simp only [wpK_assoc]
    first | refine wpK_onT (by simp [hlt]) ?_ | refine wpK_outT (by simp [hlt]) ?_ | refine wpK_condT (by simp [hlt]) ?_ | refine wpK_endT (by simp [hlt]) ?_
    have hx : arcs[i]? = some (arcs[i]'(by omega)) := List.getElem?_eq_getElem (by omega)
    generalize arcs[i]'_ = a at hx
    obtain ⟨a0, a1⟩ := hamem a (List.mem_of_getElem? hx)
    obtain ⟨qb, qo, x1, x2⟩ := int_at hav12 hx
    have n1 : ¬ a < 0 := by omega
    have n2 : ¬ (l.length : Int) ≤ a := by omega
    refine wpK_block ?_
    by_cases hz : i = 0
    · subst hz
      have x1 : aIndexAddr T0 46 av (.int .i64 0) = some (.pointer (some ⟨qb, qo, none⟩)) := x1
      have h15 : tm.get 15 = some (.int .i64 0) := h15
      try simp only [wpK_assoc]
      refine wpK_dn (wr := Tr.nil |>.set 90 0 |>.set 91 1 |>.set 92 2 |>.set 93 3 |>.set 94 4 |>.set 95 5 |>.set 96 6 |>.set 97 7 |>.set 98 8 |>.set 99 9 |>.set 100 10 |>.set 101 11 |>.set 102 12 |>.set 103 13 |>.set 104 14 |>.set 105 15 |>.set 106 16 |>.set 107 17 |>.set 108 18 |>.set 109 19 |>.set 110 20 |>.set 111 21 |>.set 112 22 |>.set 113 23 |>.set 114 24 |>.set 115 25 |>.set 116 26 |>.set 117 27 |>.set 118 28 |>.set 119 29 |>.set 120 30) (bits := Tr.nil.lay 0 [0, 0, 3, 7, 15, 31, 63, 63, 255, 511, 63, 1087, 3135, 8191, 16383, 32767, 65535, 131071, 262143, 524287, 524287, 1572863, 4194303, 8388607, 524287, 524287, 50855935, 117964799, 268435455, 536870911, 1073741823]) (ord := [0, 1, 2, 3, 4, 5, 6, 7, 8, 9, 10, 11, 12, 13, 14, 15, 16, 17, 18, 19, 20, 21, 22, 23, 24, 25, 26, 27, 28, 29, 30]) (by kernel_rfl) (by kernel_rfl) (by kernel_rfl) (fun G hG => by
        simp [h7, h11, h15, x1, x2, n1, n2, Lv12, hvv, Ln, undef]
        exact hG) ?_
      try simp only [wpK_assoc]
      first | refine wpK_onF (by simp []) ?_ | refine wpK_out (by simp []) ?_ | refine wpK_condF (by simp []) ?_ | refine wpK_endF (by simp []) (wpK_skip ?_) | refine wpK_endF (by simp []) ?_
      simp only [leaves_normal, behind_normal]
      try simp only [wpK_assoc]
      refine wpK_reg1 (fun R hR => by simp [h15]; exact hR) ?_
      exact hI (ways.length - 1) _ _ (by omega) ⟨rfl, rfl, by simp [h2, h7, h8, h9, h10, h11], by simp [h2, h7, h8, h9, h10, h11], by simp [h2, h7, h8, h9, h10, h11], by simp [h2, h7, h8, h9, h10, h11], by simp [h2, h7, h8, h9, h10, h11], by simp [h2, h7, h8, h9, h10, h11], rfl, 1, rfl, by omega, by simp; rfl⟩
    · obtain ⟨j, rfl⟩ : ∃ j, i = j + 1 := ⟨i - 1, by omega⟩
      have hy : arcs[j]? = some (arcs[j]'(by omega)) := List.getElem?_eq_getElem (by omega)
      generalize arcs[j]'_ = y at hy
      have hyx := hrise j y a hy hx
      obtain ⟨rb, ro, y1, y2⟩ := int_at hav12 hy
      have n3 : ¬ a ≤ y := by omega
      have n4 : (0 : Int) < ((j + 1 : Nat) : Int) := by omega
      have w1 : IntKind.i64.wrap (((j + 1 : Nat) : Int) - 1) = (j : Int) := by rw [IntWalk.i64_in _ (by omega)]; omega
      have hsi := i64_succ (j + 1) (by omega)
      generalize hjj : ((j + 1 : Nat) : Int) = jj at h15 x1 n4 w1 hsi
      try simp only [wpK_assoc]
      refine wpK_dn (wr := Tr.nil |>.set 90 0 |>.set 91 1 |>.set 92 2 |>.set 93 3 |>.set 94 4 |>.set 95 5 |>.set 96 6 |>.set 97 7 |>.set 98 8 |>.set 99 9 |>.set 100 10 |>.set 101 11 |>.set 102 12 |>.set 103 13 |>.set 104 14 |>.set 105 15 |>.set 106 16 |>.set 107 17 |>.set 108 18 |>.set 109 19 |>.set 110 20 |>.set 111 21 |>.set 112 22 |>.set 113 23 |>.set 114 24 |>.set 115 25 |>.set 116 26 |>.set 117 27 |>.set 118 28 |>.set 119 29 |>.set 120 30) (bits := Tr.nil.lay 0 [0, 0, 3, 7, 15, 31, 63, 63, 255, 511, 63, 1087, 3135, 8191, 16383, 32767, 65535, 131071, 262143, 524287, 524287, 1572863, 4194303, 8388607, 524287, 524287, 50855935, 117964799, 268435455, 536870911, 1073741823]) (ord := [0, 1, 2, 3, 4, 5, 6, 7, 8, 9, 10, 11, 12, 13, 14, 15, 16, 17, 18, 19, 20, 21, 22, 23, 24, 25, 26, 27, 28, 29, 30]) (by kernel_rfl) (by kernel_rfl) (by kernel_rfl) (fun G hG => by
        simp [h7, h11, h15, x1, x2, y1, y2, n1, n2, n3, n4, w1, Lv12, hvv, Ln]
        exact hG) ?_
      try simp only [wpK_assoc]
      first | refine wpK_onF (by simp []) ?_ | refine wpK_out (by simp []) ?_ | refine wpK_condF (by simp []) ?_ | refine wpK_endF (by simp []) (wpK_skip ?_) | refine wpK_endF (by simp []) ?_
      simp only [leaves_normal, behind_normal]
      try simp only [wpK_assoc]
      refine wpK_reg1 (fun R hR => by simp [h15]; exact hR) ?_
      exact hI (ways.length - (j + 1 + 1)) _ _ (by omega) ⟨rfl, rfl, by simp [h2, h7, h8, h9, h10, h11], by simp [h2, h7, h8, h9, h10, h11], by simp [h2, h7, h8, h9, h10, h11], by simp [h2, h7, h8, h9, h10, h11], by simp [h2, h7, h8, h9, h10, h11], by simp [h2, h7, h8, h9, h10, h11], rfl, j + 1 + 1, rfl, by omega, by simp [hsi]⟩
  · rintro A' W' hf; exact hf.elim
  rintro ⟨tm, n, ds⟩ Wi ⟨hn, hd, h2, h7, h8, h9, h10, h11, ei⟩
  simp only at hn hd h2 h7 h8 h9 h10 h11
  subst hn; subst hd
  rw [ei]
  clear ei Wi
  try simp only [wpK_assoc]
  refine wpK_reg (fun R hR => by simp []; exact hR) ?_
  try simp only [wpK_assoc]
  refine wpK_reg (fun R hR => by simp []; exact hR) ?_
  have hE012 : Ext W W12 := hE03.trans e12
  have lwv : ∀ W', aLen T0 W' 49 wv = some (.int .i64 ll.length) := fun W' => by obtain ⟨A, c, hh, _⟩ := hw; rw [hh]; exact len_slice und49 _ _ _
  try simp only [wpK_assoc]
  refine wpK_while (I := fun k A' W' => A'.n = 197 ∧ A'.defers = [] ∧ A'.tmps.get 2 = some (wv) ∧ A'.tmps.get 7 = some (.pointer (some ⟨px, 0, none⟩)) ∧ A'.tmps.get 8 = some (.int .i64 s) ∧ A'.tmps.get 9 = some (.int .i64 t) ∧ A'.tmps.get 10 = some (mv) ∧ Ext W12 W' ∧ ∃ (i : Nat) (own : List (List Int)) (mo : Value), k = 4 - i ∧ i ≤ 4 ∧ A'.tmps.get 17 = some (.int .i64 (i : Int)) ∧ A'.tmps.get 16 = some mo ∧ own.length = i ∧ WaysG W12 W' mo own ∧ ∀ w ∈ own, w.length ≤ 8)
    (J := fun A' W' => A'.n = 197 ∧ A'.defers = [] ∧ A'.tmps.get 2 = some (wv) ∧ A'.tmps.get 7 = some (.pointer (some ⟨px, 0, none⟩)) ∧ A'.tmps.get 8 = some (.int .i64 s) ∧ A'.tmps.get 9 = some (.int .i64 t) ∧ A'.tmps.get 10 = some (mv) ∧ Ext W12 W' ∧ ∃ (own : List (List Int)) (mo : Value), A'.tmps.get 16 = some mo ∧ own.length ≤ 4 ∧ WaysG W12 W' mo own ∧ ∀ w ∈ own, w.length ≤ 8) (Rt := fun _ _ => False) (k := 4) ?_ ?_ ?_ ?_
  · exact ⟨rfl, rfl, by simp [h2, h7, h8, h9, h10], by simp [h2, h7, h8, h9, h10], by simp [h2, h7, h8, h9, h10], by simp [h2, h7, h8, h9, h10], by simp [h2, h7, h8, h9, h10], .refl _ _, 0, [], .slice none 0 0, by omega, by omega, by simp, by simp, rfl, .nil _ _, fun w hw => by simp at hw⟩
  · rintro k ⟨tm, n, ds⟩ Wi ⟨hn, hd, h2, h7, h8, h9, h10, hEi, i, own, mo, hk, hi, h17, h16, hol, hOG, hor⟩ Q' hJ hRt hI
    simp only at hn hd h2 h7 h8 h9 h10
    subst hn; subst hd
    simp only at h17 h16
    by_cases hlt : i < ll.length
    case neg =>
      have hlt' : ¬ (i : Int) < (ll.length : Int) := by omega
      try simp only [wpK_assoc]
      refine wpK_reg (fun R hR => by simp [h2, h17, lwv, hlt', undef]; exact hR) ?_
      try simp only [wpK_assoc]
      first | refine wpK_onF (by simp [hlt]) ?_ | refine wpK_out (by simp [hlt]) ?_ | refine wpK_condF (by simp [hlt]) ?_ | refine wpK_endF (by simp [hlt]) (wpK_skip ?_) | refine wpK_endF (by simp [hlt]) ?_
      exact hJ _ _ ⟨rfl, rfl, by simp [h2, h7, h8, h9, h10], by simp [h2, h7, h8, h9, h10], by simp [h2, h7, h8, h9, h10], by simp [h2, h7, h8, h9, h10], by simp [h2, h7, h8, h9, h10], hEi, own, mo, by simp [h16], by omega, hOG, hor⟩
    have hlt' : (i : Int) < (ll.length : Int) := by omega
    by_cases hl4 : i < 4
    case neg =>
      have hl4' : ¬ (i : Int) < 4 := by omega
      try simp only [wpK_assoc]
      refine wpK_reg (fun R hR => by simp [h2, h17, lwv, hlt', hl4']; exact hR) ?_
      try simp only [wpK_assoc]
      first | refine wpK_onF (by simp [hl4]) ?_ | refine wpK_out (by simp [hl4]) ?_ | refine wpK_condF (by simp [hl4]) ?_ | refine wpK_endF (by simp [hl4]) (wpK_skip ?_) | refine wpK_endF (by simp [hl4]) ?_
      exact hJ _ _ ⟨rfl, rfl, by simp [h2, h7, h8, h9, h10], by simp [h2, h7, h8, h9, h10], by simp [h2, h7, h8, h9, h10], by simp [h2, h7, h8, h9, h10], by simp [h2, h7, h8, h9, h10], hEi, own, mo, by simp [h16], by omega, hOG, hor⟩
    have hl4' : (i : Int) < 4 := by omega
    try simp only [wpK_assoc]
    refine wpK_reg (fun R hR => by simp [h2, h17, lwv, hlt', hl4']; exact hR) ?_
    try simp only [wpK_assoc]
    first | refine wpK_onT (by simp []) ?_ | refine wpK_outT (by simp []) ?_ | refine wpK_condT (by simp []) ?_ | refine wpK_endT (by simp []) ?_
    have hx : ll[i]? = some ll[i] := List.getElem?_eq_getElem hlt
    have hxm := List.mem_of_getElem? hx
    generalize ll[i] = w at hx hxm
    obtain ⟨ru, rb, rp, r1, r2, r3, r4⟩ := waysS_at hw hx
    have hEW := hE012.trans hEi
    have lru := load_of und46 rfl (r4.ext hEW)
    refine wpK_block ?_
    try simp only [wpK_assoc]
    refine wpK_y3 (P := fun (mo' gv : Value) (bw : Nat) W' => Ext W12 W' ∧ WaysG W12 W' mo' (own ++ [w.take (min w.length 8)])) (fun R hR => by
      simp [h2, h16, h17, r1, lru, aEnter, fun41, short_other, aCallV]; rw [callS_none]
      refine (raw_wp (r2.ext hEW) r3 8 (by omega) (hrl w hxm)).mono ?_
      rintro gv Wu ⟨n1, g1, g2⟩
      have hH : HeldT Wu gv (w.take (min w.length 8)) (fun b => b = Wi.next ∧ Wi.next < Wu.next) := HeldT.of_grows g2
      obtain ⟨mo', W', a1, a2, a3, a4⟩ := hOG.push2 (K' := fun _ => False) (by have := hEi.1; omega) g1 (fun _ _ _ x => x) hH (fun b hb => by omega) (by omega)
      obtain ⟨Aq, cq, hue⟩ := hH.len
      have hb := bs49' Wu Aq (w.take (min w.length 8)).length cq
      rw [← hue] at hb
      obtain ⟨bw, hbw⟩ : ∃ bw, bw = Wu.next := ⟨_, rfl⟩
      rw [← hbw] at hb a1
      have hP : Ext W12 W' ∧ WaysG W12 W' mo' (own ++ [w.take (min w.length 8)]) := ⟨⟨by have := hEi.1; omega, fun b hb hk => by rw [a4.2 b (by have := hEi.1; omega) (by omega), g1.2 b (by have := hEi.1; omega) (fun x => x)]; exact hEi.2 b hb (fun x => x)⟩, a2⟩
      simp [h16, hb, a1]; exact hR mo' gv bw W' hP) ?_
    rintro mo' gv bw W' ⟨hE', hG'⟩
    simp only [leaves_normal, behind_normal]
    try simp only [wpK_assoc]
    refine wpK_reg1 (fun R hR => by simp [h17]; exact hR) ?_
    exact hI (4 - (i + 1)) _ _ (by omega) ⟨rfl, rfl, by simp [h2, h7, h8, h9, h10], by simp [h2, h7, h8, h9, h10], by simp [h2, h7, h8, h9, h10], by simp [h2, h7, h8, h9, h10], by simp [h2, h7, h8, h9, h10], hE', i + 1, own ++ [w.take (min w.length 8)], mo', rfl, by omega, by simp [i64_succ i (by omega)], by simp, by simp [hol], hG', fun w' hw' => by
      rcases List.mem_append.1 hw' with hw' | hw'
      · exact hor w' hw'
      · simp at hw'; subst hw'; rw [List.length_take]; omega⟩
  · rintro A' W' hf; exact hf.elim
  rintro ⟨tm, n, ds⟩ W13 ⟨hn, hd, h2, h7, h8, h9, h10, g13, own, mo, h16, hol, hOG, hor⟩
  simp only at hn hd h2 h7 h8 h9 h10
  subst hn; subst hd
  simp only at h16
  have e13 := e12.trans g13
  have lenP := fun (n : Nat) (A : Option Addr) (c : Nat) (W' : AW) => (len_slice (T := T0) und49 A n c : aLen T0 W' 49 _ = _)
  have hOin := hOG.in_
  have hmo := ways_len hOin
  have vmo : valEq mo mo = true := by
    obtain ⟨A, c, hh⟩ := hmo
    rw [hh]
    rcases A with _ | ⟨b, o, _ | x⟩ <;> simp
  have hown1 := fun (W' : AW) (vx : Value) (hx : TriIn W' vx l) (he : Ext W13 W') => areApart_wp (P := (P : Int)) (s := s) (t := t) hx (ways_ext hOin he) hok hst (by omega) (fun w hw => by have := hor w hw; omega)
  have hown2 := fun (W' : AW) (he : Ext W13 W') => refApart_wp (P := (P : Int)) (s := s) (t := t) (hTri.ext (e13.trans he)) (ways_ext hOin he) hok hst (by omega) (fun w hw => by have := hor w hw; omega)
  generalize decide (apartW l s t own) = bo at hown1 hown2
  have e1313 : Ext W13 W13 := .refl _ _
  have heqb : ∀ b : Bool, aEq T0 4 (.bool b) (.bool b) = some true := fun b => by simp [aEq, und4]
  have Lx13 : ∀ W', Ext W13 W' → aLoadVar T0 W' 24 px 0 = some (.agg ⟨[.int .i64 P, v]⟩) := fun W' he => Lx W' (e13.trans he)
  try simp only [wpK_assoc]
  refine wpK_d1 (wr := Tr.nil |>.set 139 0 |>.set 140 1 |>.set 141 2 |>.set 142 3 |>.set 143 4 |>.set 144 5 |>.set 145 6 |>.set 146 7 |>.set 147 8 |>.set 148 9 |>.set 149 10 |>.set 150 11) (bits := Tr.nil.lay 0 [0, 1, 0, 0, 0, 31, 0, 0, 0, 0, 1023, 2047]) (ord := [0, 1, 2, 3, 4, 5, 6, 7, 8, 9, 10, 11]) (by kernel_rfl) (by kernel_rfl) (by kernel_rfl) (fun G hG => by
    simp [Lx13, e1313, hvv, vmo, h7, h8, h9, h16, aEnter, fun12, short_other, aCallV]
    rw [dcallS_none]
    refine (net_wp (P := (P : Int)) (hTri.ext e13) (by omega)).mono ?_
    rintro _ Wa ⟨g1, vn3, rfl, hGn⟩
    have vvn := tri_eq hGn.tri
    have n1 := g1.1
    simp [Lx13, e1313, g1, n1, hvv, vvn, vmo, h7, h8, h9, h16, aEnter, fun23, short_other, aCallV]
    rw [dcallS_none]
    refine (hown1 Wa vn3 hGn.tri g1).mono ?_
    rintro _ Wb ⟨g2, rfl⟩
    have g12' := g1.trans g2
    have n2 := g2.1
    simp [Lx13, e1313, g1, g12', n1, n2, hvv, vvn, vmo, h7, h8, h9, h16, aEnter, fun39, short_other, aCallV]
    rw [dcallS_none]
    refine (hown2 Wb g12').mono ?_
    rintro _ Wc ⟨g3, rfl⟩
    have g13' := g12'.trans g3
    have n3 := g3.1
    simp [Lx13, e1313, g1, g12', g13', n1, n2, n3, hvv, vvn, vmo, h7, h8, h9, h16, aGuard, aBinO, heqb]
    exact hG vn3 Wc g13') ?_
  rintro vn3 W14 g14
  have e14 := e13.trans g14
  try simp only [wpK_assoc]
  first | refine wpK_onF (by simp []) ?_ | refine wpK_out (by simp []) ?_ | refine wpK_condF (by simp []) ?_ | refine wpK_endF (by simp []) (wpK_skip ?_) | refine wpK_endF (by simp []) ?_
  have hWG14 : WaysG W3 W14 mv ways := hWG.only ((g8.trans g12).trans (g13.trans g14)) (fun b _ _ x => x)
  have hTri14 := hTri.ext e14
  try simp only [wpK_assoc]
  refine wpK_cut2 (J := fun A' W' => A'.n = 197 ∧ A'.defers = [] ∧ A'.tmps.get 7 = some (.pointer (some ⟨px, 0, none⟩)) ∧ A'.tmps.get 8 = some (.int .i64 s) ∧ A'.tmps.get 9 = some (.int .i64 t) ∧ Ext W3 W' ∧ ∃ (mv2 : Value) (l2 : List (List Int)), A'.tmps.get 10 = some mv2 ∧ WaysIn W' mv2 l2 ∧ l2.length ≤ 1000 ∧ ∀ w ∈ l2, w.length ≤ 900) (fun Q2 hQ2 => ?_) ?_
  · by_cases hc0 : 0 < ways.length
    case neg =>
      have hc0' : ¬ (0 : Int) < (ways.length : Int) := by omega
      try simp only [wpK_assoc]
      refine wpK_reg (fun R hR => by simp [h10, lmv, hc0, hc0', undef]; exact hR) ?_
      first | refine wpK_endF (by simp [hc0]) (wpK_skip ?_) | refine wpK_onF (by simp [hc0]) ?_
      exact hQ2 _ _ ⟨rfl, rfl, by simp [h7, h8, h9], by simp [h7, h8, h9], by simp [h7, h8, h9], e14, mv, ways, by simp [h10], hWG14.in_, by omega, fun w hw => by have := hrows w hw; omega⟩
    have hc0' : (0 : Int) < (ways.length : Int) := by omega
    by_cases hc1 : 0 < ll.length
    case neg =>
      have hc1' : ¬ (0 : Int) < (ll.length : Int) := by omega
      try simp only [wpK_assoc]
      refine wpK_reg (fun R hR => by simp [h2, h10, lmv, lwv, hc0, hc1, hc0', hc1']; exact hR) ?_
      first | refine wpK_endF (by simp [hc1]) (wpK_skip ?_) | refine wpK_onF (by simp [hc1]) ?_
      exact hQ2 _ _ ⟨rfl, rfl, by simp [h7, h8, h9], by simp [h7, h8, h9], by simp [h7, h8, h9], e14, mv, ways, by simp [h10], hWG14.in_, by omega, fun w hw => by have := hrows w hw; omega⟩
    have hc1' : (0 : Int) < (ll.length : Int) := by omega
    try simp only [wpK_assoc]
    refine wpK_reg (fun R hR => by simp [h2, h10, lmv, lwv, hc0, hc1, hc0', hc1']; exact hR) ?_
    try simp only [wpK_assoc]
    first | refine wpK_onT (by simp []) ?_ | refine wpK_outT (by simp []) ?_ | refine wpK_condT (by simp []) ?_ | refine wpK_endT (by simp []) ?_
    obtain ⟨w0, rest, rfl⟩ : ∃ w0 rest, ways = w0 :: rest := by
      cases ways with
      | nil => simp at hc0
      | cons a b => exact ⟨a, b, rfl⟩
    have hr := aBinI_rem .i64 (ll.length : Int) 2 (by omega)
    have hr2 : (ll.length : Int).tmod 2 = ((ll.length % 2 : Nat) : Int) := rfl
    rw [hr2] at hr
    have hm2 : ll.length % 2 < 2 := Nat.mod_lt _ (by omega)
    generalize ll.length % 2 = m2 at hr hm2
    by_cases hev : m2 = 0
    · subst hev
      try simp only [wpK_assoc]
      refine wpK_reg (fun R hR => by simp [h2, lwv, hr]; exact hR) ?_
      try simp only [wpK_assoc]
      first | refine wpK_onT (by simp []) ?_ | refine wpK_outT (by simp []) ?_ | refine wpK_condT (by simp []) ?_ | refine wpK_endT (by simp []) ?_
      obtain ⟨u0, b, p, x1, x2, ⟨A, c, hu0⟩, mv', W', a1, a2, a3⟩ := hWG14.dup rfl (by omega)
      have hb := bs49' W14 A w0.length c
      rw [← hu0] at hb
      try simp only [wpK_assoc]
      refine wpK_reg1 (fun R hR => by simp [h10, x1, x2, hb, a1]; exact hR) ?_
      exact hQ2 _ _ ⟨rfl, rfl, by simp [h7, h8, h9], by simp [h7, h8, h9], by simp [h7, h8, h9], ⟨by have := e14.1; have := a3.1; omega, fun b hb hk => by rw [a3.2 b (by have := e14.1; omega) (by omega)]; exact e14.2 b hb (fun x => x)⟩, mv', w0 :: rest ++ [w0], by simp, a2, by simp at hw200 ⊢; omega, fun w hw => by
        have hw : w ∈ w0 :: rest := by
          rcases List.mem_append.1 hw with hw | hw
          · exact hw
          · simp at hw; subst hw; exact List.mem_cons_self
        have := hrows w hw; omega⟩
    · have e1 : m2 = 1 := by omega
      subst e1
      try simp only [wpK_assoc]
      refine wpK_reg (fun R hR => by simp [h2, lwv, hr]; exact hR) ?_
      try simp only [wpK_assoc]
      first | refine wpK_onF (by simp []) ?_ | refine wpK_out (by simp []) ?_ | refine wpK_condF (by simp []) ?_ | refine wpK_endF (by simp []) (wpK_skip ?_) | refine wpK_endF (by simp []) ?_
      have hw0 := isW_pos (hap.1 w0 List.mem_cons_self) (by omega)
      have hw0l := hrows w0 List.mem_cons_self
      obtain ⟨u0, b, p, u', x1, x2, ⟨A, c, hu0⟩, x3, W', a1, a2, a3⟩ := hWG14.cutFirst hw0 (by omega)
      have lu0 : ∀ W', aLen T0 W' 46 u0 = some (.int .i64 w0.length) := fun W' => by rw [hu0]; exact len_slice und46 _ _ _
      have w1 : IntKind.i64.wrap ((w0.length : Int) - 1) = ((w0.length - 1 : Nat) : Int) := by rw [IntWalk.i64_in _ (by omega)]; omega
      try simp only [wpK_assoc]
      refine wpK_reg (fun R hR => by simp [h10, x1, x2]; exact hR) ?_
      try simp only [wpK_assoc]
      refine wpK_reg1 (fun R hR => by simp [h10, lu0, w1, opSlice, aOpt, x3, x1, a1]; exact hR) ?_
      exact hQ2 _ _ ⟨rfl, rfl, by simp [h7, h8, h9], by simp [h7, h8, h9], by simp [h7, h8, h9], ⟨by have := e14.1; have := a3.1; omega, fun b hb hk => by rw [a3.2 b (by have := e14.1; omega) (by omega)]; exact e14.2 b hb (fun x => x)⟩, mv, w0.take (w0.length - 1) :: rest, by simp [h10], a2, by simp at hw200 ⊢; omega, fun w hw => by
        rcases List.mem_cons.1 hw with hw | hw
        · rw [hw, List.length_take]; omega
        · have := hrows w (List.mem_cons_of_mem _ hw); omega⟩
  rintro ⟨tm, n, ds⟩ W15 ⟨hn, hd, h7, h8, h9, e15, mv2, l2, h10, hM2, hl2, hr2⟩
  simp only at hn hd h7 h8 h9
  subst hn; subst hd
  simp only at h10
  have hmv2 := ways_len hM2
  have vm2 : valEq mv2 mv2 = true := by
    obtain ⟨A, c, hh⟩ := hmv2
    rw [hh]
    rcases A with _ | ⟨b, o, _ | x⟩ <;> simp
  have hfin1 := fun (W' : AW) (vx : Value) (hx : TriIn W' vx l) (he : Ext W15 W') => areApart_wp (P := (P : Int)) (s := s) (t := t) hx (ways_ext hM2 he) hok hst (by omega) (fun w hw => by have := hr2 w hw; omega)
  have hfin2 := fun (W' : AW) (he : Ext W15 W') => refApart_wp (P := (P : Int)) (s := s) (t := t) (hTri.ext (e15.trans he)) (ways_ext hM2 he) hok hst (by omega) hr2
  generalize decide (apartW l s t l2) = bf at hfin1 hfin2
  have e1515 : Ext W15 W15 := .refl _ _
  have Lx15 : ∀ W', Ext W15 W' → aLoadVar T0 W' 24 px 0 = some (.agg ⟨[.int .i64 P, v]⟩) := fun W' he => Lx W' (e15.trans he)
  have tb15 : ∀ W', Ext W15 W' → tabsIn T0 T0.tabs W' = true := fun W' he => Tb (e15.trans he)
  try simp only [wpK_assoc]
  try simp only [wpK_assoc]
  refine wpK_d1 (wr := Tr.nil |>.set 182 0 |>.set 183 1 |>.set 184 2 |>.set 185 3 |>.set 186 4 |>.set 187 5 |>.set 188 6 |>.set 189 7 |>.set 190 8 |>.set 191 9 |>.set 192 10 |>.set 193 11 |>.set 194 12 |>.set 195 13 |>.set 196 14 |>.set 6 15) (bits := Tr.nil.lay 0 [0, 1, 0, 0, 0, 31, 0, 0, 0, 0, 1023, 2047, 4095, 8191, 16383, 32767]) (ord := [0, 1, 2, 3, 4, 5, 6, 7, 8, 9, 10, 11, 12, 13, 14, 15]) (by kernel_rfl) (by kernel_rfl) (by kernel_rfl) (fun G hG => by
    simp [Lx15, e1515, hvv, vm2, h7, h8, h9, h10, aEnter, fun12, short_other, aCallV]
    rw [dcallS_none]
    refine (net_wp (P := (P : Int)) (hTri.ext e15) (by omega)).mono ?_
    rintro _ Wa ⟨g1, vn4, rfl, hGn⟩
    have vvn := tri_eq hGn.tri
    have n1 := g1.1
    simp [Lx15, e1515, g1, n1, hvv, vvn, vm2, h7, h8, h9, h10, aEnter, fun23, short_other, aCallV]
    rw [dcallS_none]
    refine (hfin1 Wa vn4 hGn.tri g1).mono ?_
    rintro _ Wb ⟨g2, rfl⟩
    have g12' := g1.trans g2
    have n2 := g2.1
    simp [Lx15, e1515, g1, g12', n1, n2, hvv, vvn, vm2, h7, h8, h9, h10, aEnter, fun39, short_other, aCallV]
    rw [dcallS_none]
    refine (hfin2 Wb g12').mono ?_
    rintro _ Wc ⟨g3, rfl⟩
    have g13' := g12'.trans g3
    have n3 := g3.1
    simp [Lx15, e1515, g1, g12', g13', n1, n2, n3, hvv, vvn, vm2, h7, h8, h9, h10, aGuard, aBinO, heqb, aEnter, fun26, short_awake, aCallV, tb15]
    exact hG vn4 Wc g13') ?_
  rintro vn4 W16 g16
  exact wpK_ret ⟨.inr rfl, rfl, [.bool true], by simp, rfl⟩
end Go.Proofs.YtkgfjfkgmpeobaaDoor

open Go Go.Eng
namespace Go.Proofs.YtkgfjfkgmpeobaaDoor
open Go.ChangeShapes Go.WideShapes Go.ChangeAt Go.RowKit
section
variable {H : Type} {enc : TypeId × Value → H} {P : Program} {w : World}
theorem ways_in2 {t e e2 : TypeId} {fuel : Nat} {held : Bool} {v : Value} {x : DataW H × List MemPlace} (ht : P.underlying t = some (.slice e)) (he : P.underlying e = some (.slice e2)) (hc : P.cellsOf e = 1) (he2 : P.underlying e2 = some (.int .i64)) (hc2 : P.cellsOf e2 = 1)
    (h : DataW.trod enc P w 0 (fun _ => true) held fuel t [v] = some x) : ∃ u l, absV w v = some u ∧ WaysS (embW w) u l ∧ l.length < 9223372036854775808 ∧ SlOk u l.length ∧ ∀ r ∈ l, r.length < 9223372036854775808 := by
  rcases Deep.open_slice ht h with ⟨h1, _⟩ | ⟨a, len, cap, m, n, D, Pl, h1, _, h2, h3, hm, _, h4⟩
  · cases h1
    exact ⟨.slice none 0 0, [], rfl, ⟨none, 0, rfl, fun i l hl => by simp at hl⟩, by simp, .inl ⟨rfl, rfl⟩, by simp⟩
  · cases h1
    simp only [if_true] at hm
    subst hm
    have each : ∀ i, i < m → ∃ z : Value × Value × List Int, w.cell? (a.add i) = some z.1 ∧ absV w z.1 = some z.2.1 ∧ (IntL (embW w) z.2.1 z.2.2 ∧ SlOk z.2.1 z.2.2.length) ∧ z.2.2.length < 9223372036854775808 := by
      intro i hi
      obtain ⟨cs', g1, g2⟩ := h4 i hi
      rw [hc, Nat.mul_one] at g1
      obtain ⟨_, hlen, hcell⟩ := World.cells?_some g1
      match cs', hlen with
      | [x0], _ =>
        obtain ⟨u, l, q1, q2, q3, q4⟩ := ints_in2 he he2 hc2 g2
        have k0 := hcell 0 (by omega)
        rw [Go.Deep.add_add] at k0
        exact ⟨(x0, u, l), by simpa using k0, q1, ⟨q2, q4⟩, q3⟩
    obtain ⟨Z, hZ⟩ := Deep.choose_lt each
    obtain ⟨a', c', g4, g5, g6⟩ := absV_row2 (w := w) (a := a) (n := len) (c := m) (fun hc => ⟨_, by simpa [Addr.add] using (hZ 0 hc).1⟩) h2
    refine ⟨_, (List.range len).map (fun i => (Z i).2.2), g4, ⟨a', c', by simp, fun i l hl => ?_⟩, by simp; unfold maxLen at h3; omega, by simpa using g6, fun r hr => ?_⟩
    · have hi' : i < len := by
        have := (List.getElem?_eq_some_iff.1 hl).1
        simpa using this
      simp only [List.getElem?_map, List.getElem?_range hi', Option.map_some, Option.some.injEq] at hl
      subst hl
      have e0 := emb_has (hZ i (by omega)).1 (hZ i (by omega)).2.1
      rw [add_block, add_off] at e0
      exact ⟨a.block, a.off, _, g5 (by omega), e0, (hZ i (by omega)).2.2.1⟩
    · simp only [List.mem_map, List.mem_range] at hr
      obtain ⟨i, hi, rfl⟩ := hr
      exact (hZ i (by omega)).2.2.2
end
end Go.Proofs.YtkgfjfkgmpeobaaDoor
