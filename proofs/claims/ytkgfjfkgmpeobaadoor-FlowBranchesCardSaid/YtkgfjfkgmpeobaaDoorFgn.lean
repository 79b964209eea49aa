import Derived.Test.YtkgfjfkgmpeobaaDoorP39
set_option linter.unusedSimpArgs false
set_option linter.unusedVariables false
set_option linter.unusedSectionVars false
open Go Go.Eng
namespace Go.Proofs.YtkgfjfkgmpeobaaDoor
attribute [local congr] undef_congr WpK.congr WpS.congr WpL.congr WpC.congr WpF.congr gotS.congr callS.congr nextS.congr wantS.congr condS.congr
attribute [local irreducible] WpK
attribute [local simp] WpDr_nil WpDr_cons atS_some dwantS_true dwantS_false kindS_light kindS_float kindS_heavy lightS_value floatS_some heavyS_value heavyS_skip heavyS_enter dcallS_some doneS_eq
  isLight isFloat isPlain dLook testBit_dec dChain dLights_nil dLights_skip dLights_one dLight_nil dLight_cons dFreshes_nil dFreshes_one oneF_none oneF_some dFresh_nil dFresh_cons oneL_some oneW_true oneW_false sameV_value dPut dMay valEq arrEq listEq List.getElem?_cons Tr.get_nil dEnd
attribute [local simp] WpS_nil WpS_cons isDefer undef_false wantS_true wantS_false nextS_value nextS_skip nextS_enter callS_some gotS_some aWanted aOp aEvalF aEval opMove opAssign opPick aVal flat flat1 AAct.put opBinOp opConvert opIndex Tr.get_set Tr.get_lay aBin aResults tupled
  aCall aVals aCallB blt_dec ble_dec beq_dec aBinI_add aBinI_sub aBinI_lss aBinI_leq aBinI_gtr aBinI_geq aBinI_eql aBinI_neq index_str len_str len_slice Nat.beq_refl und2 und3 und4 und5 und39 und76 und82 und115 und22 und29 und25 und33 und46 und43 und49 und111 und113 field151 field155_0 field155_1 field155_2 field155_3 field155_4
  field78 field106 field24 field31 field27 field35 field108 field109 opBox opLoad opFieldAddr opIndexAddr acells aAddr opExtract aExtract opUnOp opAlloc opStore opMakeInterface opNilCheck opBuild aParts opBuildSlice aValW
set_option maxHeartbeats 4000000
set_option linter.unusedSimpArgs false
set_option linter.unusedVariables false
theorem zero92 : aZero T0 92 = some (.slice none 0 0) := by kernel_rfl
theorem zero59 : aZero T0 59 = some (.slice none 0 0) := by kernel_rfl
theorem build97 (x y z : Int) : aBuild T0 97 [(0, .int .i64 x), (1, .int .i64 y), (2, .int .i64 z)] = some (.agg ⟨[.int .i64 x, .int .i64 y, .int .i64 z]⟩) := by kernel_rfl
theorem i64_max (x : Int) : IntKind.i64.wrap x ≤ maxI := by
  rw [IntKind.wrap_i64]; unfold maxI; omega
theorem flowBranches_wp {W : AW} {v0 v1 : Value} (P0 oa ob : Int) {l0 : List Tri} {l1 : List Bra} (h0 : TriIn W v0 l0) (hlen0 : l0.length < 9223372036854775808) (h1 : TriIn W v1 l1) (hS1 : SlOk v1 l1.length) (hw1 : ∀ a ∈ l1, a.2.2 ≤ maxI) (htb : tabsIn T0 T0.tabs W = true) (hW0 : 0 < W.next) :
    WpF T0 8 [.agg ⟨[.int .i64 P0, v0]⟩, v1, .agg ⟨[.int .i64 oa, .int .i64 ob]⟩] W (fun u _ => u = .bool true) := by
  refine wpF fun8 rfl ?_
  have h1' := h1
  obtain ⟨Al, cl, rfl, hA1⟩ := h1
  obtain ⟨W1, hW1, hE1, hn1, hV3, hV4⟩ : ∃ W1, W1 = (W.newCells 27 [.int .i64 P0, v0]).newCells 28 [.int .i64 oa, .int .i64 ob] ∧ Ext W W1 ∧ W1.next = W.next + 2 ∧ Var W1 W.next 27 [.int .i64 P0, v0] ∧ Var W1 (W.next + 1) 28 [.int .i64 oa, .int .i64 ob] :=
    ⟨_, rfl, (Only.newCells _ _ _).trans (Only.newCells _ _ _), rfl, (Var.new _ _ _).ext (.newCells _ _ _), Var.new _ _ _⟩
  have hl3 := load27 hV3
  try simp only [wpK_assoc]
  refine wpK_reg (fun R hR => by simp [newCells_next, ← hW1]; exact hR) ?_
  try simp only [wpK_assoc]
  refine wpK_x4 (fun R hR => by
    simp [hl3, aEnter, fun42, short_other, aCallV]; rw [callS_none]
    refine (tamed_wp 6 10 (by omega) (by omega) (by omega) P0 (h0.ext hE1) hlen0).mono ?_
    rintro _ W2 ⟨hE2, P, l, v, hT, rfl, hG⟩
    obtain ⟨av, cv, hvs⟩ := hG.len
    obtain ⟨W3, s1, s2, hE3, hVx⟩ := storeVar_new (T := T0) (W := W2) (t := 27) (v := .agg ⟨[.int .i64 P, v]⟩) (z := [.int .i64 0, .slice none 0 0]) inf27 (by rw [is27]; rfl) (by rw [is27]; rfl) (by rw [hvs]; rfl)
    simp [zero27, s1]
    exact hR P l v W2 W3 (And.intro (hE2.trans hE3) (And.intro hT (And.intro hVx ((hG.tri).ext hE3))))) ?_
  rintro P l v W2 W3 ⟨hE3, hT, hVx, hTri⟩
  generalize hpx : W2.next = px at hVx
  have hP2 := hT.P2
  have hPle := hT.Ple
  have hok := hT.plan (by omega) (by omega)
  have hll := hT.len
  have hin := links_in hok
  have hE13 := hE1.trans hE3
  have hTb3 := tabs_ext htb hW0 hE13
  have h03 : 0 < W3.next := Nat.lt_of_lt_of_le hW0 hE13.1
  have L0 : ∀ W', Ext W3 W' → aLoadVar T0 W' 3 (W.next + 1) 0 = some (.int .i64 oa) := fun W' h => ((hV4.ext hE3).ext h).load1 (T := T0) und3 rfl (j := 0) (v := .int .i64 oa) rfl
  have L1 : ∀ W', Ext W3 W' → aLoadVar T0 W' 3 (W.next + 1) 1 = some (.int .i64 ob) := fun W' h => ((hV4.ext hE3).ext h).load1 (T := T0) und3 rfl (j := 1) (v := .int .i64 ob) rfl
  have i0 := ix28_0 (W.next + 1) 0
  have i1 := ix28_1 (W.next + 1) 0
  have LP : ∀ W', Ext W3 W' → aLoadVar T0 W' 3 px 0 = some (.int .i64 P) := fun W' h => (hVx.ext h).load1 (T := T0) und3 rfl (j := 0) (v := .int .i64 P) rfl
  have Lx : ∀ W', Ext W3 W' → aLoadVar T0 W' 27 px 0 = some (.agg ⟨[.int .i64 P, v]⟩) := fun W' h => load27 (hVx.ext h)
  have e33 : Ext W3 W3 := .refl _ _
  have Tb : ∀ {W'}, Ext W3 W' → tabsIn T0 T0.tabs W' = true := fun h => tabs_ext hTb3 h03 h
  have N0 : ∀ {W'}, Ext W3 W' → 0 < W'.next := fun h => Nat.lt_of_lt_of_le h03 h.1
  have vvv := tri_eq hTri
  have hmin : min (l1.length : Int) 25 = ((min l1.length 25 : Nat) : Int) := by omega
  obtain ⟨u0, u4, W4, hcS, hcA, e34, hB4⟩ := copy_tri hS1 (h1'.ext hE13) (k := min l1.length 25) (by omega) (by omega)
  have hB0 : (l1.take (min l1.length 25)).length ≤ 25 := by rw [List.length_take]; omega
  have hBw : ∀ a ∈ l1.take (min l1.length 25), a.2.2 ≤ maxI := fun a ha => hw1 a (List.mem_of_mem_take ha)
  generalize l1.take (min l1.length 25) = B0 at hB4 hB0 hBw
  generalize min l1.length 25 = k0 at hcS hcA hmin
  try simp only [wpK_assoc]
  refine wpK_reg (fun R hR => by simp [zero92]; exact hR) ?_
  try simp only [wpK_assoc]
  refine wpK_reg (fun R hR => by simp [zero59]; exact hR) ?_
  try simp only [wpK_assoc]
  refine wpK_reg (fun R hR => by simp [opSlice, aOpt, len_slice und92, min_int, hmin, hcS, hcA]; exact hR) ?_
  try simp only [wpK_assoc]
  refine wpK_reg (fun R hR => by simp []; exact hR) ?_
  try simp only [wpK_assoc]
  refine wpK_while (I := fun k A W' => A.n = 160 ∧ A.defers = [] ∧ A.tmps.get 1 = some (.slice Al l1.length cl) ∧ A.tmps.get 5 = some (.pointer (some ⟨W.next + 1, 0, none⟩)) ∧ A.tmps.get 7 = some (.pointer (some ⟨px, 0, none⟩)) ∧ Ext W3 W' ∧ ∃ (i : Nat) (u : Value) (B : List Bra), k = 3 - i ∧ i ≤ 3 ∧ A.tmps.get 10 = some (.int .i64 i) ∧ A.tmps.get 8 = some u ∧ TriIn W' u B ∧ B.length ≤ 25 ∧ ∀ a ∈ B, a.2.2 ≤ maxI)
    (J := fun A W' => A.n = 160 ∧ A.defers = [] ∧ Ext W3 W') (Rt := fun _ _ => False) (k := 3) ?_ ?_ ?_ ?_
  · exact ⟨rfl, rfl, by simp [hpx], by simp [hpx], by simp [hpx], e34, 0, u4, B0, by simp, by omega, by simp, by simp, hB4, hB0, hBw⟩
  · clear hcS hcA hB4 hB0 hBw e34
    rintro k ⟨tm, n, ds⟩ W5 ⟨hn, hd, h1, h5, h7, e5, i, u, B, hk, hi, h10, h8, hB, hBl, hBw⟩ Q' hJ hRt hI
    simp only at hn hd h1 h5 h7
    subst hn; subst hd
    simp only at h10 h8
    try simp only [wpK_assoc]
    refine wpK_reg (fun R hR => by simp [h10]; exact hR) ?_
    by_cases hlt : i < 3
    case neg =>
      have hlt' : ¬ (i : Int) < 3 := by omega
      simp only [hlt', decide_false]
      try simp only [wpK_assoc]
      first | refine wpK_onF (by simp []) ?_ | refine wpK_out (by simp []) ?_ | refine wpK_condF (by simp []) ?_ | refine wpK_endF (by simp []) (wpK_skip ?_) | refine wpK_endF (by simp []) ?_
      exact hJ _ _ ⟨rfl, rfl, e5⟩
    have hlt' : (i : Int) < 3 := by omega
    simp only [hlt', decide_true]
    try simp only [wpK_assoc]
    first | refine wpK_onT (by simp []) ?_ | refine wpK_outT (by simp []) ?_ | refine wpK_condT (by simp []) ?_ | refine wpK_endT (by simp []) ?_
    have hsi : IntKind.i64.wrap ((i : Int) + 1) = ((i + 1 : Nat) : Int) := i64_succ i (by omega)
    refine wpK_block ?_
    try simp only [wpK_assoc]
    refine wpK_reg (fun R hR => by simp [zero59]; exact hR) ?_
    try simp only [wpK_assoc]
    refine wpK_reg (fun R hR => by simp []; exact hR) ?_
    obtain ⟨Au, cu, rfl, hAu⟩ := id hB
    try simp only [wpK_assoc]
    refine wpK_while (I := fun k A W' => A.n = 160 ∧ A.defers = [] ∧ A.tmps.get 1 = some (.slice Al l1.length cl) ∧ A.tmps.get 5 = some (.pointer (some ⟨W.next + 1, 0, none⟩)) ∧ A.tmps.get 7 = some (.pointer (some ⟨px, 0, none⟩)) ∧ A.tmps.get 8 = some (.slice Au B.length cu) ∧ A.tmps.get 10 = some (.int .i64 i) ∧ Ext W5 W' ∧ ∃ (j : Nat) (w : Value), k = B.length - j ∧ j ≤ B.length ∧ A.tmps.get 11 = some (.int .i64 j) ∧ A.tmps.get 9 = some w ∧ GrowsN W' w j (flat3 (B.take j)) 66 3 (fun b => W5.next ≤ b))
      (J := fun A W' => A.n = 160 ∧ A.defers = [] ∧ A.tmps.get 1 = some (.slice Al l1.length cl) ∧ A.tmps.get 5 = some (.pointer (some ⟨W.next + 1, 0, none⟩)) ∧ A.tmps.get 7 = some (.pointer (some ⟨px, 0, none⟩)) ∧ A.tmps.get 8 = some (.slice Au B.length cu) ∧ A.tmps.get 10 = some (.int .i64 i) ∧ Ext W5 W' ∧ ∃ w : Value, A.tmps.get 9 = some w ∧ TriIn W' w B) (Rt := fun _ _ => False) (k := B.length) ?_ ?_ ?_ ?_
    · exact ⟨rfl, rfl, by simp [h1, h5, h7, h8, h10], by simp [h1, h5, h7, h8, h10], by simp [h1, h5, h7, h8, h10], by simp [h1, h5, h7, h8, h10], by simp [h1, h5, h7, h8, h10], .refl _ _, 0, .slice none 0 0, by simp, by omega, by simp, by simp, .nil _ _ _ _⟩
    · rintro kk ⟨tm, n, ds⟩ W6 ⟨hn, hd, h1, h5, h7, h8, h10, e6, j, w, hkk, hj, h11, h9, hG⟩ Q3 hJ3 hRt3 hI3
      simp only at hn hd h1 h5 h7 h8 h10
      subst hn; subst hd
      simp only at h11 h9
      try simp only [wpK_assoc]
      refine wpK_reg (fun R hR => by simp [h8, h11, len_slice und92]; exact hR) ?_
      by_cases hltj : j < B.length
      case neg =>
        have e : j = B.length := by omega
        subst e
        rw [List.take_length] at hG
        try simp only [wpK_assoc]
        first | refine wpK_onF (by simp [hltj]) ?_ | refine wpK_out (by simp [hltj]) ?_ | refine wpK_condF (by simp [hltj]) ?_ | refine wpK_endF (by simp [hltj]) (wpK_skip ?_) | refine wpK_endF (by simp [hltj]) ?_
        exact hJ3 _ _ ⟨rfl, rfl, by simp [h1, h5, h7, h8, h10], by simp [h1, h5, h7, h8, h10], by simp [h1, h5, h7, h8, h10], by simp [h1, h5, h7, h8, h10], by simp [h1, h5, h7, h8, h10], e6, w, by simp [h9], hG.tri⟩
      try simp only [wpK_assoc]
      first | refine wpK_onT (by simp [hltj]) ?_ | refine wpK_outT (by simp [hltj]) ?_ | refine wpK_condT (by simp [hltj]) ?_ | refine wpK_endT (by simp [hltj]) ?_
      have hsj : IntKind.i64.wrap ((j : Int) + 1) = ((j + 1 : Nat) : Int) := i64_succ j (by omega)
      have ha : B[j]? = some B[j] := List.getElem?_eq_getElem hltj
      generalize B[j] = a at ha
      obtain ⟨b, o, hAv, q1, q2, q3⟩ := hAu j _ ha
      have eV := indexAddr_tri (T := T0) und92 sz97 (b := b) (o := o) (c := cu) (k := .i64) hltj
      rw [← hAv] at eV
      have ld := load3 (T := T0) und97 agg97 inf97 is97 (q1.ext e6) (q2.ext e6) (q3.ext e6)
      obtain ⟨w', W7, p1, p2, p3, p4⟩ := push3_tmp und59 inf66 is66 z66 rfl by66 hG (by omega) (u := cells3 a) rfl (oneCells_tri a)
      have p1 : aAppend T0 (W6.newCells 66 [.int .i64 a.1, .int .i64 a.2.1, .int .i64 a.2.2]) [59, 59] [w, .slice (some ⟨W6.next, 0, none⟩) 1 2] = some (w', W7) := p1
      refine wpK_block ?_
      try simp only [wpK_assoc]
      refine wpK_reg1 (fun R hR => by simp [h8, h9, h11, eV, ld, bs59, p1]; exact hR) ?_
      try simp only [behind_normal]
      try simp only [wpK_assoc]
      refine wpK_reg1 (fun R hR => by simp [h11, hsj]; exact hR) ?_
      have n6 := e6.1
      refine hI3 (kk - 1) _ _ (by omega) ⟨rfl, rfl, by simp [h1, h5, h7, h8, h10], by simp [h1, h5, h7, h8, h10], by simp [h1, h5, h7, h8, h10], by simp [h1, h5, h7, h8, h10], by simp [h1, h5, h7, h8, h10], ⟨by omega, fun b hb hk => by rw [p4.2 b (by omega) (by omega)]; exact e6.2 b hb hk⟩, j + 1, w', by omega, by omega, by simp, by simp, ?_⟩
      have e : flat3 (B.take (j + 1)) = flat3 (B.take j) ++ cells3 a := by
        rw [List.take_add_one, ha, Option.toList_some, flat3_append]
        simp [flat3]
      rw [e]
      exact p3.mono (fun b hb => by omega)
    · rintro A' W' hf; exact hf.elim
    rintro ⟨tm, n, ds⟩ W6 ⟨hn, hd, h1, h5, h7, h8, h10, e56, w, h9, hw⟩
    simp only at hn hd h1 h5 h7 h8 h10
    subst hn; subst hd
    simp only at h9
    have e6 := e5.trans e56
    have hB6 := hB.ext e56
    try simp only [wpK_assoc]
    refine wpK_cut (J := fun A W' => A.n = 160 ∧ A.defers = [] ∧ A.tmps.get 1 = some (.slice Al l1.length cl) ∧ A.tmps.get 5 = some (.pointer (some ⟨W.next + 1, 0, none⟩)) ∧ A.tmps.get 7 = some (.pointer (some ⟨px, 0, none⟩)) ∧ A.tmps.get 8 = some (.slice Au B.length cu) ∧ A.tmps.get 10 = some (.int .i64 i) ∧ Ext W6 W' ∧ A.tmps.get 9 = some w ∧ A.tmps.get 50 = some (.bool false)) (fun Q2 hQ2 => ?_) ?_
    · by_cases ht : TreeB P (linksQ l) B
      · try simp only [wpK_assoc]
        refine wpK_q1 (wr := Tr.nil |>.set 43 0 |>.set 44 1 |>.set 45 2 |>.set 46 3 |>.set 47 4 |>.set 48 5 |>.set 49 6 |>.set 50 7) (bits := Tr.nil.lay 0 [0, 1, 0, 7, 0, 0, 63, 127]) (ord := [0, 1, 2, 3, 4, 5, 6, 7]) (by kernel_rfl) (by kernel_rfl) (by kernel_rfl) (fun G hG => by
          simp [h7, h8, h9, Lx, e6, aEnter, fun13, short_other, aCallV]
          rw [dcallS_none]
          refine (board_wp (P := (P : Int)) (hTri.ext e6) (by omega)).mono ?_
          rintro _ W7 ⟨e7, v', rfl, hGb⟩
          simp [h7, h8, h9, Lx, e6, e6.trans e7, e7.1, vvv, aEnter, fun29, short_other, aCallV]
          rw [dcallS_none]
          refine (isTree_wp (P := P) hGb.tri hok (hw.ext e7) (by omega) (Tb (e6.trans e7)) (N0 (e6.trans e7))).mono ?_
          rintro _ W8 ⟨e8, ⟨g, rfl⟩ | ⟨g, rfl⟩⟩
          · simp [h7, h8, h9, Lx, e6, e6.trans e7, (e6.trans e7).trans e8, e7.1, e8.1, (e7.trans e8).1, vvv, aEnter, fun44, short_other, aCallV]
            rw [dcallS_none]
            refine (refIsTree_wp (P := P) (hTri.ext ((e6.trans e7).trans e8)) hok (by omega) (by omega) (hB6.ext (e7.trans e8)) (by omega) (Tb ((e6.trans e7).trans e8)) (N0 ((e6.trans e7).trans e8))).mono ?_
            rintro _ W9 ⟨e9, ⟨g, rfl⟩ | ⟨g, rfl⟩⟩
            · simp [h7, h8, h9, Lx, e6, e6.trans e7, (e6.trans e7).trans e8, e7.1, e8.1, e9.1, (e7.trans e8).1, vvv, aGuard, aBinO, aEq, und4]
              exact hG v' W9 ((e7.trans e8).trans e9)
            · exact absurd ht g
          · exact absurd ht g) ?_
        rintro v' W9 e9
        exact hQ2 _ _ ⟨rfl, rfl, by simp [h1, h5, h7, h8, h10], by simp [h1, h5, h7, h8, h10], by simp [h1, h5, h7, h8, h10], by simp [h1, h5, h7, h8, h10], by simp [h1, h5, h7, h8, h10], e9, by simp [h9], by simp⟩
      · try simp only [wpK_assoc]
        refine wpK_q1 (wr := Tr.nil |>.set 43 0 |>.set 44 1 |>.set 45 2 |>.set 46 3 |>.set 47 4 |>.set 48 5 |>.set 49 6 |>.set 50 7) (bits := Tr.nil.lay 0 [0, 1, 0, 7, 0, 0, 63, 127]) (ord := [0, 1, 2, 3, 4, 5, 6, 7]) (by kernel_rfl) (by kernel_rfl) (by kernel_rfl) (fun G hG => by
          simp [h7, h8, h9, Lx, e6, aEnter, fun13, short_other, aCallV]
          rw [dcallS_none]
          refine (board_wp (P := (P : Int)) (hTri.ext e6) (by omega)).mono ?_
          rintro _ W7 ⟨e7, v', rfl, hGb⟩
          simp [h7, h8, h9, Lx, e6, e6.trans e7, e7.1, vvv, aEnter, fun29, short_other, aCallV]
          rw [dcallS_none]
          refine (isTree_wp (P := P) hGb.tri hok (hw.ext e7) (by omega) (Tb (e6.trans e7)) (N0 (e6.trans e7))).mono ?_
          rintro _ W8 ⟨e8, ⟨g, rfl⟩ | ⟨g, rfl⟩⟩
          · exact absurd g ht
          · simp [h7, h8, h9, Lx, e6, e6.trans e7, (e6.trans e7).trans e8, e7.1, e8.1, (e7.trans e8).1, vvv, aEnter, fun44, short_other, aCallV]
            rw [dcallS_none]
            refine (refIsTree_wp (P := P) (hTri.ext ((e6.trans e7).trans e8)) hok (by omega) (by omega) (hB6.ext (e7.trans e8)) (by omega) (Tb ((e6.trans e7).trans e8)) (N0 ((e6.trans e7).trans e8))).mono ?_
            rintro _ W9 ⟨e9, ⟨g, rfl⟩ | ⟨g, rfl⟩⟩
            · exact absurd g ht
            · simp [h7, h8, h9, Lx, e6, e6.trans e7, (e6.trans e7).trans e8, e7.1, e8.1, e9.1, (e7.trans e8).1, vvv, aGuard, aBinO, aEq, und4]
              exact hG v' W9 ((e7.trans e8).trans e9)) ?_
        rintro v' W9 e9
        exact hQ2 _ _ ⟨rfl, rfl, by simp [h1, h5, h7, h8, h10], by simp [h1, h5, h7, h8, h10], by simp [h1, h5, h7, h8, h10], by simp [h1, h5, h7, h8, h10], by simp [h1, h5, h7, h8, h10], e9, by simp [h9], by simp⟩
    clear h1 h5 h7 h8 h10 h9
    rintro ⟨tm, n, ds⟩ W7 ⟨hn, hd, h1, h5, h7, h8, h10, e67, h9, h50⟩
    simp only at hn hd h1 h5 h7 h8 h10
    subst hn; subst hd
    simp only at h9 h50
    have e7 := e6.trans e67
    have hB7 := hB6.ext e67
    have hw7 := hw.ext e67
    refine wpK_condF (by exact h50) (wpK_skip ?_)
    try simp only [behind_normal]
    have wB : IntKind.i64.wrap ((B.length : Int) + 1) = (B.length : Int) + 1 := IntWalk.i64_in _ (by omega)
    have eB : ((B.length + 1 : Nat) : Int) = (B.length : Int) + 1 := by omega
    try simp only [wpK_assoc]
    refine wpK_cut2 (J := fun A W' => A.n = 160 ∧ A.defers = [] ∧ A.tmps.get 1 = some (.slice Al l1.length cl) ∧ A.tmps.get 5 = some (.pointer (some ⟨W.next + 1, 0, none⟩)) ∧ A.tmps.get 7 = some (.pointer (some ⟨px, 0, none⟩)) ∧ A.tmps.get 10 = some (.int .i64 i) ∧ Ext W7 W') (fun Q4 hQ4 => ?_) ?_
    · have hbw := between_wp hw7 (by omega) hBw oa ob
      by_cases hjo : joinsB B
      case neg =>
        have hb2 : WpF T0 47 [w, .int .i64 oa, .int .i64 ob] W7 (fun u W' => Ext W7 W' ∧ u = .tuple ⟨[.int .i64 0, .int .i64 30]⟩) := by
          refine hbw.mono ?_
          rintro u W' ⟨e, ⟨_, rfl⟩ | ⟨g, _⟩ | ⟨g, _⟩⟩
          · exact ⟨e, rfl⟩
          · exact absurd g hjo
          · exact absurd g hjo
        try simp only [wpK_assoc]
        refine wpK_x0 (fun R hR => by
            simp [h5, h9, i0, i1, L0, L1, e7, aEnter, fun47, short_other, aCallV]; rw [callS_none]
            refine (hb2).mono ?_
            rintro _ W8 ⟨e8, rfl⟩
            simp [h5, h9, i0, i1, L0, L1, e7]; exact hR W8 e8) ?_
        rintro W8 e8
        have hj8 : WpF T0 48 [.slice Au B.length cu] W8 (fun u W' => Ext W8 W' ∧ u = .bool false) := by
          refine (refJoins_wp (hB7.ext e8) (by omega)).mono ?_
          rintro u W' ⟨e, ⟨g, _⟩ | ⟨_, rfl⟩⟩
          · exact absurd g hjo
          · exact ⟨e, rfl⟩
        refine wpK_block1 ?_
        try simp only [wpK_assoc]
        refine wpK_x0 (fun R hR => by
            simp [h8, aEnter, fun48, short_other, aCallV]; rw [callS_none]
            refine (hj8).mono ?_
            rintro _ W9 ⟨e9, rfl⟩
            simp [h8]; exact hR W9 e9) ?_
        rintro W9 e9
        try simp only [wpK_assoc]
        first | refine wpK_onT (by simp []) ?_ | refine wpK_outT (by simp []) ?_ | refine wpK_condT (by simp []) ?_ | refine wpK_endT (by simp []) ?_
        try simp only [wpK_assoc]
        refine wpK_reg (fun R hR => by simp []; exact hR) ?_
        refine wpK_endF (by simp) (wpK_skip ?_)
        exact hQ4 _ _ ⟨rfl, rfl, by simp [h1, h5, h7, h10], by simp [h1, h5, h7, h10], by simp [h1, h5, h7, h10], by simp [h1, h5, h7, h10], e8.trans e9⟩
      have hj8 : ∀ W', Ext W7 W' → WpF T0 48 [.slice Au B.length cu] W' (fun u W'' => Ext W' W'' ∧ u = .bool true) := fun W' e' => by
        refine (refJoins_wp (hB7.ext e') (by omega)).mono ?_
        rintro u W'' ⟨e, ⟨_, rfl⟩ | ⟨g, _⟩⟩
        · exact ⟨e, rfl⟩
        · exact absurd hjo g
      have hen := fun W' => refEnds_wp ((B.length : Int) + 1) oa ob W'
      cases h2 : two? oa ob ((B.length : Int) + 1) with
      | false =>
        have hE : endE ((B.length : Int) + 1) oa ob = 1 := by unfold endE; rw [h2]; rfl
        rw [hE] at hen
        have hb2 : WpF T0 47 [w, .int .i64 oa, .int .i64 ob] W7 (fun u W' => Ext W7 W' ∧ u = .tuple ⟨[.int .i64 0, .int .i64 1]⟩) := by
          refine hbw.mono ?_
          rintro u W' ⟨e, ⟨g, _⟩ | ⟨_, _, rfl⟩ | ⟨_, g, _⟩⟩
          · exact absurd hjo g
          · exact ⟨e, rfl⟩
          · rw [eB, h2] at g; cases g
        try simp only [wpK_assoc]
        refine wpK_x0 (fun R hR => by
            simp [h5, h9, i0, i1, L0, L1, e7, aEnter, fun47, short_other, aCallV]; rw [callS_none]
            refine (hb2).mono ?_
            rintro _ W8 ⟨e8, rfl⟩
            simp [h5, h9, i0, i1, L0, L1, e7]; exact hR W8 e8) ?_
        rintro W8 e8
        refine wpK_block1 ?_
        try simp only [wpK_assoc]
        refine wpK_x0 (fun R hR => by
            simp [h8, aEnter, fun48, short_other, aCallV]; rw [callS_none]
            refine (hj8 W8 e8).mono ?_
            rintro _ W9 ⟨e9, rfl⟩
            simp [h8]; exact hR W9 e9) ?_
        rintro W9 e9
        have e79 := e7.trans (e8.trans e9)
        try simp only [wpK_assoc]
        first | refine wpK_onF (by simp []) ?_ | refine wpK_out (by simp []) ?_ | refine wpK_condF (by simp []) ?_ | refine wpK_endF (by simp []) (wpK_skip ?_) | refine wpK_endF (by simp []) ?_
        try simp only [wpK_assoc]
        refine wpK_reg (fun R hR => by
            simp [h5, h8, len_slice und92, wB, i0, i1, L0, L1, e79, aEnter, fun18, short_other, aCallV]; rw [callS_none]
            refine (hen W9).mono ?_
            rintro _ W9 ⟨e9, rfl⟩; subst W9
            simp [h5, h8, len_slice und92, wB, i0, i1, L0, L1, e79]; exact hR) ?_
        try simp only [wpK_assoc]
        first | refine wpK_onT (by simp []) ?_ | refine wpK_outT (by simp []) ?_ | refine wpK_condT (by simp []) ?_ | refine wpK_endT (by simp []) ?_
        try simp only [wpK_assoc]
        refine wpK_reg (fun R hR => by simp []; exact hR) ?_
        refine wpK_endF (by simp) (wpK_skip ?_)
        exact hQ4 _ _ ⟨rfl, rfl, by simp [h1, h5, h7, h10], by simp [h1, h5, h7, h10], by simp [h1, h5, h7, h10], by simp [h1, h5, h7, h10], e8.trans e9⟩
      | true =>
        have hE : endE ((B.length : Int) + 1) oa ob = 0 := by unfold endE; rw [h2]; rfl
        rw [hE] at hen
        have h2' := h2
        simp only [two?, Bool.and_eq_true, decide_eq_true_eq] at h2'
        obtain ⟨fn, hfn⟩ : ∃ n : Nat, oa = n := ⟨oa.toNat, by omega⟩
        obtain ⟨qn, hqn⟩ : ∃ n : Nat, ob = n := ⟨ob.toNat, by omega⟩
        try simp only [wpK_assoc]
        refine wpK_x1 (fun R hR => by
          simp [h5, h9, i0, i1, L0, L1, e7, aEnter, fun47, short_other, aCallV]; rw [callS_none]
          refine hbw.mono ?_
          rintro u W8 ⟨e8, ⟨g, _⟩ | ⟨_, g, _⟩ | ⟨_, _, x, hx, rfl⟩⟩
          · exact absurd hjo g
          · rw [eB, h2] at g; cases g
          · simp; exact hR x W8 (And.intro e8 hx)) ?_
        rintro x W8 ⟨e8, hx⟩
        have hrb : ∀ W', Ext W7 W' → WpF T0 49 [.slice Au B.length cu, .int .i64 oa, .int .i64 ob] W' (fun u W'' => Ext W' W'' ∧ u = .int .i64 x) := fun W' e' => by
          have := refBetween_wp (f := fn) (q := qn) (hB7.ext e') hjo (by omega) (by omega) (by omega)
          rw [← hfn, ← hqn] at this
          refine this.mono ?_
          rintro u W'' ⟨e, y, rfl, hy⟩
          rw [hfn, hqn] at hx
          exact ⟨e, by rw [hy.one (show MinW B fn qn x from hx)]⟩
        refine wpK_block1 ?_
        try simp only [wpK_assoc]
        refine wpK_x0 (fun R hR => by
            simp [h8, aEnter, fun48, short_other, aCallV]; rw [callS_none]
            refine (hj8 W8 e8).mono ?_
            rintro _ W9 ⟨e9, rfl⟩
            simp [h8]; exact hR W9 e9) ?_
        rintro W9 e9
        have e79 := e7.trans (e8.trans e9)
        try simp only [wpK_assoc]
        first | refine wpK_onF (by simp []) ?_ | refine wpK_out (by simp []) ?_ | refine wpK_condF (by simp []) ?_ | refine wpK_endF (by simp []) (wpK_skip ?_) | refine wpK_endF (by simp []) ?_
        try simp only [wpK_assoc]
        refine wpK_reg (fun R hR => by
            simp [h5, h8, len_slice und92, wB, i0, i1, L0, L1, e79, aEnter, fun18, short_other, aCallV]; rw [callS_none]
            refine (hen W9).mono ?_
            rintro _ W9 ⟨e9, rfl⟩; subst W9
            simp [h5, h8, len_slice und92, wB, i0, i1, L0, L1, e79]; exact hR) ?_
        try simp only [wpK_assoc]
        first | refine wpK_onF (by simp []) ?_ | refine wpK_out (by simp []) ?_ | refine wpK_condF (by simp []) ?_ | refine wpK_endF (by simp []) (wpK_skip ?_) | refine wpK_endF (by simp []) ?_
        try simp only [wpK_assoc]
        refine wpK_x0 (fun R hR => by
            simp [h5, h8, i0, i1, L0, L1, e79, aEnter, fun49, short_other, aCallV]; rw [callS_none]
            refine (hrb W9 (e8.trans e9)).mono ?_
            rintro _ W10 ⟨e10, rfl⟩
            simp [h5, h8, i0, i1, L0, L1, e79]; exact hR W10 e10) ?_
        rintro W10 e10
        refine wpK_endF (by simp) (wpK_skip ?_)
        exact hQ4 _ _ ⟨rfl, rfl, by simp [h1, h5, h7, h10], by simp [h1, h5, h7, h10], by simp [h1, h5, h7, h10], by simp [h1, h5, h7, h10], (e8.trans e9).trans e10⟩
    clear h1 h5 h7 h8 h10 h9 h50
    rintro ⟨tm, n, ds⟩ W8 ⟨hn, hd, h1, h5, h7, h10, e78⟩
    simp only at hn hd h1 h5 h7 h10
    subst hn; subst hd
    have e8 := e7.trans e78
    clear hw hB6 hw7 hB7 hB hBw hBl hAu
    have hokB := both_ok hok (by omega)
    try simp only [wpK_assoc]
    refine wpK_reg (fun R hR => by simp [zero92]; exact hR) ?_
    try simp only [wpK_assoc]
    refine wpK_reg (fun R hR => by simp []; exact hR) ?_
    try simp only [wpK_assoc]
    refine wpK_while (I := fun k A W' => A.n = 160 ∧ A.defers = [] ∧ A.tmps.get 1 = some (.slice Al l1.length cl) ∧ A.tmps.get 5 = some (.pointer (some ⟨W.next + 1, 0, none⟩)) ∧ A.tmps.get 7 = some (.pointer (some ⟨px, 0, none⟩)) ∧ A.tmps.get 10 = some (.int .i64 i) ∧ Ext W8 W' ∧ ∃ (c : Nat) (u : Value) (T : List Bra), k = P - c ∧ 1 ≤ c ∧ c ≤ P ∧ A.tmps.get 14 = some (.int .i64 c) ∧ A.tmps.get 8 = some u ∧ GrowsN W' u T.length (flat3 T) 97 3 (fun b => W8.next ≤ b) ∧ T.length + 1 = c ∧ ∀ a ∈ T, a.2.2 ≤ maxI)
      (J := fun A W' => A.n = 160 ∧ A.defers = [] ∧ A.tmps.get 1 = some (.slice Al l1.length cl) ∧ A.tmps.get 5 = some (.pointer (some ⟨W.next + 1, 0, none⟩)) ∧ A.tmps.get 7 = some (.pointer (some ⟨px, 0, none⟩)) ∧ A.tmps.get 10 = some (.int .i64 i) ∧ Ext W8 W' ∧ ∃ (u : Value) (T : List Bra), A.tmps.get 8 = some u ∧ GrowsN W' u T.length (flat3 T) 97 3 (fun b => W8.next ≤ b) ∧ T.length + 1 = P ∧ ∀ a ∈ T, a.2.2 ≤ maxI) (Rt := fun _ _ => False) (k := P - 1) ?_ ?_ ?_ ?_
    · exact ⟨rfl, rfl, by simp [h1, h5, h7, h10], by simp [h1, h5, h7, h10], by simp [h1, h5, h7, h10], by simp [h1, h5, h7, h10], .refl _ _, 1, .slice none 0 0, [], by simp, by omega, by omega, by simp, by simp, .nil _ _ _ _, rfl, fun a ha => by simp at ha⟩
    · rintro kk ⟨tm, n, ds⟩ W9 ⟨hn, hd, h1, h5, h7, h10, e9, c, u, T, hkk, hc1, hcP, h14, h8, hG, hTl, hTw⟩ Q3 hJ3 hRt3 hI3
      simp only at hn hd h1 h5 h7 h10
      subst hn; subst hd
      simp only at h14 h8
      have e39 := e8.trans e9
      try simp only [wpK_assoc]
      refine wpK_reg (fun R hR => by simp [h7, h14, LP, e39]; exact hR) ?_
      by_cases hltc : c < P
      case neg =>
        have e : c = P := by omega
        try simp only [wpK_assoc]
        first | refine wpK_onF (by simp [hltc]) ?_ | refine wpK_out (by simp [hltc]) ?_ | refine wpK_condF (by simp [hltc]) ?_ | refine wpK_endF (by simp [hltc]) (wpK_skip ?_) | refine wpK_endF (by simp [hltc]) ?_
        exact hJ3 _ _ ⟨rfl, rfl, by simp [h1, h5, h7, h10], by simp [h1, h5, h7, h10], by simp [h1, h5, h7, h10], by simp [h1, h5, h7, h10], e9, u, T, by simp [h8], hG, by omega, hTw⟩
      try simp only [wpK_assoc]
      first | refine wpK_onT (by simp [hltc]) ?_ | refine wpK_outT (by simp [hltc]) ?_ | refine wpK_condT (by simp [hltc]) ?_ | refine wpK_endT (by simp [hltc]) ?_
      have hsc : IntKind.i64.wrap ((c : Int) + 1) = ((c + 1 : Nat) : Int) := i64_succ c (by omega)
      obtain ⟨d, hdc⟩ : ∃ d, d + 1 = c := ⟨c - 1, by omega⟩
      have wc : IntKind.i64.wrap ((c : Int) - 1) = (d : Int) := by
        rw [show (c : Int) - 1 = d from by omega]; exact IntWalk.i64_in _ (by omega)
      have hkc : kk - 1 < kk ∧ kk - 1 = P - (c + 1) ∧ 1 ≤ c + 1 ∧ c + 1 ≤ P := by omega
      refine wpK_block ?_
      try simp only [wpK_assoc]
      refine wpK_reg (fun R hR => by simp [h14]; exact hR) ?_
      try simp only [wpK_assoc]
      refine wpK_reg (fun R hR => by simp [h1, h14, wc, len_slice und92]; exact hR) ?_
      try simp only [wpK_assoc]
      refine wpK_cut (J := fun A W' => A.n = 160 ∧ A.defers = [] ∧ A.tmps.get 1 = some (.slice Al l1.length cl) ∧ A.tmps.get 5 = some (.pointer (some ⟨W.next + 1, 0, none⟩)) ∧ A.tmps.get 7 = some (.pointer (some ⟨px, 0, none⟩)) ∧ A.tmps.get 10 = some (.int .i64 i) ∧ Ext W9 W' ∧ A.tmps.get 14 = some (.int .i64 c) ∧ A.tmps.get 8 = some u ∧ ∃ (p : Nat) (x : Int), A.tmps.get 15 = some (.int .i64 p) ∧ A.tmps.get 16 = some (.int .i64 x) ∧ p < c ∧ x ≤ maxI) (fun Q4 hQ4 => ?_) ?_
      · by_cases hm : d < l1.length
        · have ha : l1[d]? = some l1[d] := List.getElem?_eq_getElem hm
          have hmem : l1[d] ∈ l1 := List.getElem_mem hm
          generalize l1[d] = a at ha hmem
          obtain ⟨b, o, hAv, q1, q2, q3⟩ := hA1 d _ ha
          have eV := indexAddr_tri (T := T0) und92 sz97 (b := b) (o := o) (c := cl) (k := .i64) hm
          rw [← hAv] at eV
          have la := load_of und3 rfl (q1.ext (hE13.trans e39))
          have lw := load_of und2 rfl (q3.ext (hE13.trans e39))
          obtain ⟨p, hp1, hp2⟩ := u64_mod a.1 c (by omega)
          have r1 := aBinI_rem .u64 (IntKind.u64.wrap a.1) (c : Int) (by omega)
          rw [hp1] at r1
          have wcc : IntKind.u64.wrap (c : Int) = c := IntWalk.u64_in _ (by omega)
          have wp : IntKind.i64.wrap (p : Int) = p := IntWalk.i64_in _ (by omega)
          refine wpK_endT (by simp [hm]) ?_
          try simp only [wpK_assoc]
          refine wpK_reg (fun R hR => by simp [h1, h14, wc, eV, la, field97, conv_3_82, conv_82_3, wcc, r1, wp]; exact hR) ?_
          try simp only [wpK_assoc]
          refine wpK_reg1 (fun R hR => by simp [h1, h14, wc, eV, lw, field97]; exact hR) ?_
          exact hQ4 _ _ ⟨rfl, rfl, by simp [h1, h5, h7, h10], by simp [h1, h5, h7, h10], by simp [h1, h5, h7, h10], by simp [h1, h5, h7, h10], .refl _ _, by simp [h14], by simp [h8], p, a.2.2, by simp, by simp, hp2, hw1 a hmem⟩
        · refine wpK_endF (by simp [hm]) (wpK_skip ?_)
          exact hQ4 _ _ ⟨rfl, rfl, by simp [h1, h5, h7, h10], by simp [h1, h5, h7, h10], by simp [h1, h5, h7, h10], by simp [h1, h5, h7, h10], .refl _ _, by simp [h14], by simp [h8], 0, c, by simp, by simp, by omega, by unfold maxI; omega⟩
      clear h1 h5 h7 h10 h14 h8
      rintro ⟨tm, n, ds⟩ W10 ⟨hn, hd, h1, h5, h7, h10, e10, h14, h8, p, x, h15, h16, hp, hx⟩
      simp only at hn hd h1 h5 h7 h10
      subst hn; subst hd
      simp only at h14 h8 h15 h16
      try simp only [wpK_assoc]
      refine wpK_reg (fun R hR => by simp [h10]; exact hR) ?_
      try simp only [wpK_assoc]
      refine wpK_cut (J := fun A W' => A.n = 160 ∧ A.defers = [] ∧ A.tmps.get 1 = some (.slice Al l1.length cl) ∧ A.tmps.get 5 = some (.pointer (some ⟨W.next + 1, 0, none⟩)) ∧ A.tmps.get 7 = some (.pointer (some ⟨px, 0, none⟩)) ∧ A.tmps.get 10 = some (.int .i64 i) ∧ Ext W10 W' ∧ A.tmps.get 14 = some (.int .i64 c) ∧ A.tmps.get 8 = some u ∧ A.tmps.get 15 = some (.int .i64 p) ∧ ∃ x : Int, A.tmps.get 16 = some (.int .i64 x) ∧ x ≤ maxI) (fun Q4 hQ4 => ?_) ?_
      · by_cases hi1 : i = 1
        · have hst : two? (p : Int) (c : Int) (P : Int) = true := by simp [two?]; omega
          obtain ⟨S, xv, g1, g2, g3, _, g4⟩ := cut_least hTri hok hst hTb3 h03
          have hxv : xv ≤ maxI := by
            have := (capQ_le hin S (linksQ l).length (Nat.le_refl _)).2
            rw [List.take_length, ← g3] at this
            have hq : (linksQ l).length = l.length := by simp [linksQ]
            unfold maxI; omega
          have e30 := e39.trans e10
          refine wpK_endT (by simp [hi1]) ?_
          try simp only [wpK_assoc]
          refine wpK_y2 (fun R hR => by
            simp [h7, Lx, e30, aEnter, fun43, short_other, aCallV]; rw [callS_none]
            refine (both_wp (P := (P : Int)) (hTri.ext e30) (by omega)).mono ?_
            rintro _ W11 ⟨e11, v', rfl, hGb⟩
            simp [h14, h15, aEnter, fun32, short_other, aCallV]; rw [callS_none]
            refine (least32_wp (x := xv) hGb.tri hokB (by omega) (show p < P by omega) (show c < P by omega) g1 g2 (by rw [capQ_both]; exact g3) (fun T hc => by rw [capQ_both]; exact g4 T hc)).mono ?_
            rintro _ W12 ⟨e12, sl, rfl, _⟩
            simp; exact hR v' sl W12 (e11.trans e12)) ?_
          rintro v' sl W12 e12
          exact hQ4 _ _ ⟨rfl, rfl, by simp [h1, h5, h7, h10], by simp [h1, h5, h7, h10], by simp [h1, h5, h7, h10], by simp [h1, h5, h7, h10], e12, by simp [h14], by simp [h8], by simp [h15], xv, by simp, hxv⟩
        · have hi1' : ¬ (i : Int) = 1 := by omega
          refine wpK_endF (by simp [hi1']) (wpK_skip ?_)
          exact hQ4 _ _ ⟨rfl, rfl, by simp [h1, h5, h7, h10], by simp [h1, h5, h7, h10], by simp [h1, h5, h7, h10], by simp [h1, h5, h7, h10], .refl _ _, by simp [h14], by simp [h8], by simp [h15], x, by simp [h16], hx⟩
      clear h1 h5 h7 h10 h14 h8 h15 h16 hx x
      rintro ⟨tm, n, ds⟩ W11 ⟨hn, hd, h1, h5, h7, h10, e11, h14, h8, h15, x, h16, hx⟩
      simp only at hn hd h1 h5 h7 h10
      subst hn; subst hd
      simp only at h14 h8 h15 h16
      have e911 := e10.trans e11
      have hG11 := hG.only (K' := fun _ => False) e911 (fun _ _ _ y => y)
      obtain ⟨w', W12, p1, p2, p3, p4⟩ := push3_tmp und92 inf97 is97 z97 rfl by97 hG11 (by omega) (u := cells3 ((p : Int), (c : Int), x)) rfl (oneCells_tri _)
      have p1 : aAppend T0 (W11.newCells 97 [.int .i64 p, .int .i64 c, .int .i64 x]) [92, 92] [u, .slice (some ⟨W11.next, 0, none⟩) 1 2] = some (w', W12) := p1
      try simp only [wpK_assoc]
      refine wpK_reg1 (fun R hR => by simp [h8, h14, h15, h16, build97, bs92, p1]; exact hR) ?_
      try simp only [behind_normal]
      try simp only [wpK_assoc]
      refine wpK_reg1 (fun R hR => by simp [h14, hsc]; exact hR) ?_
      have e811 := e9.trans e911
      have n11 := e811.1
      refine hI3 (kk - 1) _ _ hkc.1 ⟨rfl, rfl, by simp [h1, h5, h7, h10], by simp [h1, h5, h7, h10], by simp [h1, h5, h7, h10], by simp [h1, h5, h7, h10], ⟨by omega, fun b hb hk => by rw [p4.2 b (by omega) (by omega)]; exact e811.2 b hb hk⟩, c + 1, w', T ++ [((p : Int), (c : Int), x)], hkc.2.1, hkc.2.2.1, hkc.2.2.2, by simp, by simp, ?_, by simp; omega, fun a ha => ?_⟩
      · have e1 : flat3 (T ++ [((p : Int), (c : Int), x)]) = flat3 T ++ cells3 ((p : Int), (c : Int), x) := by
          rw [flat3_append]; simp [flat3]
        rw [e1, List.length_append]
        exact p3.mono (fun b hb => by omega)
      · rcases List.mem_append.1 ha with ha | ha
        · exact hTw a ha
        · rw [List.mem_singleton] at ha; subst ha; exact hx
    · rintro A' W' hf; exact hf.elim
    clear h1 h5 h7 h10
    rintro ⟨tm, n, ds⟩ W9 ⟨hn, hd, h1, h5, h7, h10, e9, u, T, h8, hG, hTl, hTw⟩
    simp only at hn hd h1 h5 h7 h10
    subst hn; subst hd
    simp only at h8
    have e39 := e8.trans e9
    have r3 := aBinI_rem .i64 (l1.length : Int) 3 (by omega)
    have stay : ∀ (A' : AAct), A'.n = 160 ∧ A'.defers = [] ∧ A'.tmps.get 1 = some (.slice Al l1.length cl) ∧ A'.tmps.get 5 = some (.pointer (some ⟨W.next + 1, 0, none⟩)) ∧ A'.tmps.get 7 = some (.pointer (some ⟨px, 0, none⟩)) → A'.tmps.get 10 = some (.int .i64 ((i + 1 : Nat) : Int)) → A'.tmps.get 8 = some u → Q' .normal A' W9 := fun A' hF h10 h8 => hI (k - 1) _ _ (by omega) ⟨hF.1, hF.2.1, hF.2.2.1, hF.2.2.2.1, hF.2.2.2.2, e39, i + 1, u, T, by omega, by omega, h10, h8, hG.tri, by omega, hTw⟩
    by_cases hi1 : i = 1
    case neg =>
      have hi1' : ¬ (i : Int) = 1 := by omega
      try simp only [wpK_assoc]
      refine wpK_reg (fun R hR => by simp [h1, h10, hi1', undef]; exact hR) ?_
      refine wpK_endF (by simp) (wpK_skip ?_)
      try simp only [behind_normal, leaves_normal]
      try simp only [wpK_assoc]
      refine wpK_reg1 (fun R hR => by simp [h10, hsi]; exact hR) ?_
      exact stay _ (by exact ⟨rfl, rfl, by simp [h1, h5, h7], by simp [h1, h5, h7], by simp [h1, h5, h7]⟩) (by simp) (by simp [h8])
    have hi1' : (i : Int) = 1 := by omega
    by_cases hz : (l1.length : Int).tmod 3 = 0
    case neg =>
      try simp only [wpK_assoc]
      refine wpK_reg (fun R hR => by simp [h1, h10, hi1', len_slice und92, r3, hz]; exact hR) ?_
      refine wpK_endF (by simp) (wpK_skip ?_)
      try simp only [behind_normal, leaves_normal]
      try simp only [wpK_assoc]
      refine wpK_reg1 (fun R hR => by simp [h10, hsi]; exact hR) ?_
      exact stay _ (by exact ⟨rfl, rfl, by simp [h1, h5, h7], by simp [h1, h5, h7], by simp [h1, h5, h7]⟩) (by simp) (by simp [h8])
    try simp only [wpK_assoc]
    refine wpK_reg (fun R hR => by simp [h1, h10, hi1', len_slice und92, r3, hz]; exact hR) ?_
    cases T with
    | nil => simp at hTl; omega
    | cons a T =>
      obtain ⟨b, rfl, hKb, hbn, W10, st, hn10, hoth, hT10⟩ := grown_store hG (by simp) (IntKind.i64.wrap (a.2.2 + 1))
      have lx : aLoadVar T0 W9 2 b 2 = some (.int .i64 a.2.2) := by
        obtain ⟨A', c', e, hh⟩ := hG.tri
        cases e
        obtain ⟨b', o', e', _, _, q3⟩ := hh 0 a rfl
        cases e'
        exact load_of und2 rfl q3
      have eV0 := indexAddr_tri (T := T0) und92 sz97 (b := b) (o := 0) (c := 7) (k := .i64) (i := 0) (show 0 < (a :: T).length by simp)
      simp only [Int.natCast_zero, Nat.mul_zero, Nat.add_zero] at eV0
      refine wpK_endT (by simp) ?_
      clear stay
      generalize hTn : (a :: T).length = tn at *
      try simp only [wpK_assoc]
      refine wpK_reg1 (fun R hR => by simp [h8, eV0, lx, st, field97]; exact hR) ?_
      try simp only [behind_normal, leaves_normal]
      try simp only [wpK_assoc]
      refine wpK_reg1 (fun R hR => by simp [h10, hsi]; exact hR) ?_
      have hlm : (List.modifyHead (fun q : Tri => (q.1, q.2.1, IntKind.i64.wrap (a.2.2 + 1))) (a :: T)).length = tn := by rw [← hTn]; simp
      have e310 : Ext W3 W10 := ⟨by have := e39.1; omega, fun c hc hk => by
        have n8 := e8.1
        rw [hoth c (by omega)]; exact e39.2 c hc hk⟩
      refine hI (k - 1) _ _ (by omega) ⟨rfl, rfl, by simp [h1, h5, h7], by simp [h1, h5, h7], by simp [h1, h5, h7], e310, i + 1, _, _, by omega, by omega, by simp, by simp [h8], hT10, by rw [hlm]; omega, fun q hq => ?_⟩
      rw [List.modifyHead_cons] at hq
      rcases List.mem_cons.1 hq with rfl | hq
      · exact i64_max _
      · exact hTw q (List.mem_cons_of_mem _ hq)
  · rintro A' W' hf; exact hf.elim
  · rintro ⟨tm, n, ds⟩ W9 ⟨hn, hd, e9⟩
    simp only at hn hd
    subst hn; subst hd
    have ht9 := Tb e9
    try simp only [wpK_assoc]
    refine wpK_reg (fun R hR => by simp [aEnter, fun26, short_awake, aCallV, ht9]; exact hR) ?_
    exact wpK_ret ⟨.inr rfl, rfl, [.bool true], by simp, rfl⟩
end Go.Proofs.YtkgfjfkgmpeobaaDoor
