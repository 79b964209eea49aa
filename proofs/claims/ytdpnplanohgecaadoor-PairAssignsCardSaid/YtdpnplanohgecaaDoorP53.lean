import Derived.Test.YtdpnplanohgecaaDoorP52
set_option linter.unusedSimpArgs false
set_option linter.unusedVariables false
set_option linter.unusedSectionVars false
open Go Go.Eng
namespace Go.Proofs.YtdpnplanohgecaaDoor
attribute [local congr] undef_congr WpK.congr WpS.congr WpL.congr WpC.congr WpF.congr gotS.congr callS.congr nextS.congr wantS.congr condS.congr
attribute [local irreducible] WpK
attribute [local simp] WpDr_nil WpDr_cons atS_some dwantS_true dwantS_false kindS_light kindS_float kindS_heavy lightS_value floatS_some heavyS_value heavyS_skip heavyS_enter dcallS_some doneS_eq
  isLight isFloat isPlain dLook testBit_dec dChain dLights_nil dLights_skip dLights_one dLight_nil dLight_cons dFreshes_nil dFreshes_one oneF_none oneF_some dFresh_nil dFresh_cons oneL_some oneW_true oneW_false sameV_value dPut dMay valEq arrEq listEq List.getElem?_cons Tr.get_nil dEnd
attribute [local simp] WpS_nil WpS_cons isDefer undef_false wantS_true wantS_false nextS_value nextS_skip nextS_enter callS_some gotS_some aWanted aOp aEvalF aEval opMove opAssign opPick aVal flat flat1 AAct.put opBinOp opConvert opIndex Tr.get_set Tr.get_lay aBin aResults tupled
  aCall aVals aCallB blt_dec ble_dec beq_dec aBinI_add aBinI_sub aBinI_lss aBinI_leq aBinI_gtr aBinI_geq aBinI_eql aBinI_neq index_str len_str len_slice Nat.beq_refl Nat.beq_refl
  opBox opLoad opFieldAddr opIndexAddr acells aAddr opExtract aExtract opUnOp opAlloc opStore opMakeInterface opNilCheck opBuild aParts opBuildSlice aValW
attribute [local simp] und2 und3 und4 und5 und9 und12 field13_0 field13_1 und21 und22 field23_0 field23_1 field24_0 field24_1 field25_0 field25_1 und28 und31 field34_0 field34_1 field34_2 field35_0 field35_1 field35_2 und46 field50_0 field50_1 field50_2 und55 und56 und58 und61 und62 und73 und75 und90 und94 und95 und96 field97_0 field97_1 field97_2 field97_3 field97_4 field97_5 field97_6 field98_0 field98_1 field98_2 field98_3 field98_4 field98_5 field98_6 und99 und106 field107_0 field107_1 field108_0 field108_1 und119 und122 field124_0 field124_1 field124_2 field125_0 field125_1 field125_2 field131_0 field131_1 field132_0 field132_1 und133 field134_0 field134_1 field135_0 field135_1 und148 und156 und160
set_option maxHeartbeats 4000000
set_option linter.unusedSimpArgs false
set_option linter.unusedVariables false
/-! ### the reference's assignment: the recursion -/
theorem isnil31 : aEq T0 31 (.slice none 0 0) (.slice none 0 0) = some true := by kernel_rfl
theorem notnil31 (a : Addr) (n c : Nat) : aEq T0 31 (.slice (some a) n c) (.slice none 0 0) = some false := by kernel_rfl
theorem app_one {W : AW} {u : Value} {rs : List Nat} (h : IntR W u (rs.map Int.ofNat)) (j : Nat) (h1 : rs.length ≤ 1000) :
    ∃ v' W', aAppend T0 (W.newCells 3 [.int .i64 (j : Int)]) [31, 31] [.slice (some ⟨W.next, 0, none⟩) 1 2, u] = some (v', W') ∧ Ext W W' ∧ IntR W' v' ((j :: rs).map Int.ofNat) ∧ ∃ a n c, v' = .slice (some a) n c := by
  have hE : Ext W (W.newCells 3 [.int .i64 (j : Int)]) := .newCells _ _ _
  have hV := Var.new W 3 [.int .i64 (j : Int)]
  generalize W.newCells 3 [.int .i64 (j : Int)] = W1 at hE hV
  have hsrc := RowIn.src (sz := 1) (encI_len (k := .i64)) (by omega) (h.ext hE)
  rw [← natsV_flat, List.length_map] at hsrc
  have hone : oneCells (natsV rs) = true := by
    rw [natsV_flat]; exact oneCells_flatE (encI_one (k := .i64)) _
  have hhead : aAppend T0 W1 [31, 31] [.slice (some ⟨W.next, 0, none⟩) 1 2, u] = match Nat.beq rs.length 0 with
      | true => aApp0 W1 (.slice (some ⟨W.next, 0, none⟩) 1 2)
      | false => aApp1 W1 3 1 Tryd.t3.bytes rs.length (natsV rs) (.slice (some ⟨W.next, 0, none⟩) 1 2) := by
    simp only [aAppend, und31, inf3, is3, z3, notInt, hsrc, acells, List.length_cons, List.length_nil, beq_dec, natsV_len, hone, Nat.mul_one, decide_true]
    rfl
  rw [hhead]
  by_cases h0 : rs.length = 0
  · have : rs = [] := List.length_eq_zero_iff.1 h0
    subst this
    refine ⟨.slice (some ⟨W.next, 0, none⟩) 1 2, W1, rfl, hE, ?_, _, _, _, rfl⟩
    exact Var.row (enc := encI .i64) (l := [(j : Int)]) (c := 2) encI_len hV
  · have hold : W1.cellsAt W.next 0 1 = some [.int .i64 (j : Int)] := by
      rw [hV.cellsAt 0 1 (by simp)]; rfl
    have hby : (2 * (1 + rs.length)) * Tryd.t3.bytes ≤ 281474976710656 := by rw [by3]; omega
    have hsm : 1 + rs.length ≤ 4611686018427387904 := by omega
    have hgt : ¬ (1 + rs.length ≤ 1) := by omega
    have e : [.int .i64 (j : Int)] ++ natsV rs = natsV (j :: rs) := rfl
    refine ⟨.slice (some ⟨W1.next, 0, none⟩) (1 + rs.length) (2 * 1 + 1), W1.newCells 3 (natsV (j :: rs)), ?_, hE.trans (.newCells _ _ _), ?_, _, _, _, rfl⟩
    · simp only [beq_dec, h0, decide_false, aApp1, ble_dec, hby, hsm, decide_true, show (2 % 2 = 0) = True from by simp, show 2 / 2 = 1 from rfl, hgt, Nat.mul_one, hold, e]
    · have := Var.row (enc := encI .i64) (l := (j :: rs).map Int.ofNat) (c := 2 * 1 + 1) encI_len (by rw [← natsV_flat]; exact Var.new W1 3 (natsV (j :: rs)))
      rw [List.length_map, List.length_cons, Nat.add_comm] at this
      exact this
theorem refAssign_wp {v : Value} {own : List (List Int)} (hok : OffOk own) (hro : ∀ r ∈ own, r.length < 9223372036854775808) {n : Nat} (hn : n = own.length) {B : Nat → Int} (hB : BestN n (mAt own) B) :
    ∀ (m : Nat) (W : AW) (ps : List Nat) (pv : Value), ps.length + m = n → MatIn W v own → IntR W pv (ps.map Int.ofNat) → Pre n ps →
    WpF T0 70 [v, pv] W (fun u W' => Ext W W' ∧ ∃ rv rs, u = .tuple ⟨[rv, .int .i64 (B (TS ps))]⟩ ∧ IntR W' rv (rs.map Int.ofNat) ∧ (ps ++ rs).length = n ∧ ∀ k, ps.length ≤ k → k < n → ChoAt n (mAt own) B (ps ++ rs) k) := by
  have hn12 : n ≤ 12 := by have := hok.2.1; omega
  intro m
  induction m with
  | zero =>
    intro W ps pv hm hM hR hP
    obtain ⟨A, c, hv⟩ := mat_len hM
    have lv : ∀ W', aLen T0 W' 61 v = some (.int .i64 (n : Int)) := fun W' => by rw [hv, hn]; exact len_slice und61 _ _ _
    obtain ⟨Ap, cp, hpv⟩ := hR.len
    have lp : ∀ W', aLen T0 W' 31 pv = some (.int .i64 (n : Int)) := fun W' => by rw [hpv, List.length_map, show ps.length = n from by omega]; exact len_slice und31 _ _ _
    refine wpF fun70 rfl ?_
    try simp only [wpK_assoc]
    refine wpK_reg (fun R hR => by simp []; exact hR) ?_
    try simp only [wpK_assoc]
    refine wpK_reg (fun R hR => by simp [lv, lp]; exact hR) ?_
    try simp only [wpK_assoc]
    first | refine wpK_onT (by simp []) ?_ | refine wpK_outT (by simp []) ?_ | refine wpK_condT (by simp []) ?_ | refine wpK_endT (by simp []) ?_
    try simp only [wpK_assoc]
    refine wpK_reg (fun R hR => by simp []; exact hR) ?_
    have hf := hP.full (by omega) (by omega)
    refine wpK_ret ⟨.inr rfl, rfl, [.slice none 0 0, .int .i64 0], by simp, .refl _ _, .slice none 0 0, [], ?_, .nil _, by simp; omega, fun k h1 h2 => by omega⟩
    rw [hf, hB.full]
    rfl
  | succ m ih =>
    intro W ps pv hm hM hR hP
    obtain ⟨A, c, hv⟩ := mat_len hM
    have lv : ∀ W', aLen T0 W' 61 v = some (.int .i64 (n : Int)) := fun W' => by rw [hv, hn]; exact len_slice und61 _ _ _
    obtain ⟨Ap, cp, hpv⟩ := hR.len
    have lp : ∀ W', aLen T0 W' 31 pv = some (.int .i64 (ps.length : Int)) := fun W' => by rw [hpv, List.length_map]; exact len_slice und31 _ _ _
    have hne : ¬ (ps.length : Int) = (n : Int) := by omega
    have hpc := hP.pc (by omega)
    refine wpF fun70 rfl ?_
    try simp only [wpK_assoc]
    refine wpK_reg (fun R hR => by simp []; exact hR) ?_
    try simp only [wpK_assoc]
    refine wpK_reg (fun R hR => by simp [lv, lp, hne]; exact hR) ?_
    try simp only [wpK_assoc]
    first | refine wpK_onF (by simp []) ?_ | refine wpK_out (by simp []) ?_ | refine wpK_condF (by simp []) ?_ | refine wpK_endF (by simp []) (wpK_skip ?_) | refine wpK_endF (by simp []) ?_
    try simp only [wpK_assoc]
    refine wpK_reg (fun R hR => by simp []; exact hR) ?_
    try simp only [wpK_assoc]
    refine wpK_reg (fun R hR => by simp []; exact hR) ?_
    try simp only [wpK_assoc]
    refine wpK_reg (fun R hR => by simp []; exact hR) ?_
    try simp only [wpK_assoc]
    refine wpK_while (I := fun k A' W' => A'.n = 63 ∧ A'.defers = [] ∧ A'.tmps.get 0 = some (v) ∧ A'.tmps.get 1 = some (pv) ∧ Ext W W' ∧ ∃ (j : Nat) (bv : Value) (w : Int), A'.tmps.get 8 = some (.int .i64 (j : Int)) ∧ A'.tmps.get 6 = some bv ∧ A'.tmps.get 7 = some (.int .i64 w) ∧ k = n - j ∧ j ≤ n ∧ FarR n (mAt own) B ps j W' bv w)
      (J := fun A' W' => A'.n = 63 ∧ A'.defers = [] ∧ A'.tmps.get 0 = some (v) ∧ A'.tmps.get 1 = some (pv) ∧ Ext W W' ∧ ∃ (bv : Value) (w : Int), A'.tmps.get 6 = some bv ∧ A'.tmps.get 7 = some (.int .i64 w) ∧ FarR n (mAt own) B ps n W' bv w) (Rt := fun _ _ => False) (k := n) ?_ ?_ ?_ ?_
    · exact ⟨rfl, rfl, by simp, by simp, .refl _ _, 0, .slice none 0 0, 0, by simp, by simp, by simp, rfl, by omega, .start⟩
    · rintro k ⟨tm, n, ds⟩ Wa ⟨hn, hd, h0, h1, hEa, j, bv, w, h8, h6, h7, hk, hjn, hF⟩ Q' hJ hRt hI
      simp only at hn hd h0 h1
      subst hn; subst hd
      simp only at h8 h6 h7
      by_cases hlt : j < n
      case neg =>
        have e : j = n := by omega
        subst e
        try simp only [wpK_assoc]
        refine wpK_reg (fun R hR => by simp [h0, h8, lv]; exact hR) ?_
        try simp only [wpK_assoc]
        first | refine wpK_onF (by simp []) ?_ | refine wpK_out (by simp []) ?_ | refine wpK_condF (by simp []) ?_ | refine wpK_endF (by simp []) (wpK_skip ?_) | refine wpK_endF (by simp []) ?_
        exact hJ _ _ ⟨rfl, rfl, by simp [h0, h1], by simp [h0, h1], hEa, bv, w, by simp [h6], by simp [h7], hF⟩
      have hlt' : (j : Int) < n := by omega
      try simp only [wpK_assoc]
      refine wpK_reg (fun R hR => by simp [h0, h8, lv, hlt']; exact hR) ?_
      try simp only [wpK_assoc]
      first | refine wpK_onT (by simp [hlt]) ?_ | refine wpK_outT (by simp [hlt]) ?_ | refine wpK_condT (by simp [hlt]) ?_ | refine wpK_endT (by simp [hlt]) ?_
      have hRa := hR.ext hEa
      have hh := refHas_wp hRa j (by omega)
      refine wpK_block ?_
      cases hb : (TS ps).testBit j with
      | true =>
        rw [hb] at hh
        try simp only [wpK_assoc]
        refine wpK_reg (fun R hR => by
            simp [h1, h8, aEnter, fun33, short_other, aCallV]; rw [callS_none]
            refine (hh).mono ?_
            rintro _ W9 ⟨e9, rfl⟩; subst W9
            simp [h1, h8]; exact hR) ?_
        try simp only [wpK_assoc]
        first | refine wpK_onT (by simp []) ?_ | refine wpK_outT (by simp []) ?_ | refine wpK_condT (by simp []) ?_ | refine wpK_endT (by simp []) ?_
        simp only [leaves_exit, behind_normal, if_true]
        refine wpK_keep (fun tm' => tm'.get 0 = some (v) ∧ tm'.get 1 = some (pv) ∧ tm'.get 6 = some (bv) ∧ tm'.get 7 = some (.int .i64 w) ∧ tm'.get 8 = some (.int .i64 (j : Int))) ⟨by simp [h0, h1, h6, h7, h8], by simp [h0, h1, h6, h7, h8], by simp [h0, h1, h6, h7, h8], by simp [h0, h1, h6, h7, h8], by simp [h0, h1, h6, h7, h8]⟩ ?_
        rintro tm ⟨h0, h1, h6, h7, h8⟩
        try simp only [wpK_assoc]
        refine wpK_reg1 (fun R hR => by simp [h8]; exact hR) ?_
        exact hI (n - (j + 1)) _ _ (by omega) ⟨rfl, rfl, by simp [h0, h1], by simp [h0, h1], hEa, j + 1, bv, w, by simp [i64_succ j (by omega)], by simp [h6], by simp [h7], rfl, by omega, hF.skip hb⟩
      | false =>
        rw [hb] at hh
        try simp only [wpK_assoc]
        refine wpK_reg (fun R hR => by
            simp [h1, h8, aEnter, fun33, short_other, aCallV]; rw [callS_none]
            refine (hh).mono ?_
            rintro _ W9 ⟨e9, rfl⟩; subst W9
            simp [h1, h8]; exact hR) ?_
        try simp only [wpK_assoc]
        first | refine wpK_onF (by simp []) ?_ | refine wpK_out (by simp []) ?_ | refine wpK_condF (by simp []) ?_ | refine wpK_endF (by simp []) (wpK_skip ?_) | refine wpK_endF (by simp []) ?_
        try simp only [wpK_assoc]
        refine wpK_reg (fun R hR => by simp []; exact hR) ?_
        have hTl := hP.ts
        have hPj := hP.snoc (by omega) hlt hb
        obtain ⟨gv, W1, k1, k2, k3, k4, k5⟩ := GrowsN.appRow (T := T0) (t := 31) encI_len encI_one (by omega) und31 inf3 is3 z3 rfl (GrowsN.nil Wa 3 1 (fun _ => False)) hRa (by rw [List.length_map, by3]; omega) (by rw [List.length_map]; omega)
        rw [List.nil_append, ← natsV_flat, List.length_map] at k4
        have hE1 : Ext Wa W1 := k5
        try simp only [wpK_assoc]
        refine wpK_reg (fun R hR => by simp [h1, k1]; exact hR) ?_
        obtain ⟨g2v, W2, p1, p2, p3, p4⟩ := grow_push (t := 31) (el := 3) und31 inf3 is3 z3 rfl (by rw [by3]; omega) k4 (fun b _ => by omega) (by omega) (.int .i64 (j : Int)) rfl
        have hE2 : Ext Wa W2 := ⟨by have := hE1.1; omega, fun b hb hk => by rw [p4.2 b (by have := hE1.1; omega) (by rintro (h | h); exact h; omega), hE1.2 b hb hk]⟩
        have e0 : natsV ps ++ [.int .i64 (j : Int)] = natsV (ps ++ [j]) := by simp [natsV]
        rw [e0, show 0 + ps.length + 1 = (ps ++ [j]).length from by simp] at p3
        have hE02 := hEa.trans hE2
        have hrec := ih W2 (ps ++ [j]) g2v (by simp; omega) (mat_ext hM hE02) (natsV_row p3) hPj
        rw [TS_snoc] at hrec
        have hbnd := BestN.bound hB hn12 (fun i j hi hj => hok.bound (i := i) (j := j) (by omega) (by omega)) m (TS ps ||| 1 <<< j) (or_ltp hTl hlt) (by have := (pc_or hn12 hTl hlt hb).1; omega)
        have hcb := hok.bound (i := ps.length) (j := j) (by omega) (by omega)
        have hFn := fun (bv' : Value) (W' : AW) (rs : List Nat) => hF.new (bv' := bv') (W' := W') (rs := rs) hb
        have hFs := hF.stay
        try simp only [wpK_assoc]
        refine wpK_x2 (fun R hR => by
            simp [h0, h8, bs31, p1, aEnter, fun70, short_other, aCallV]; rw [callS_none]
            refine (hrec).mono ?_
            rintro _ W3 ⟨hE3, rv, rs, rfl, hRr, hlen, hcho⟩
            simp [opExtract, aExtract]; exact hR rv rs W3 (And.intro hE3 (And.intro hRr (And.intro hlen hcho)))) ?_
        rintro rv rs W3 ⟨hE3, hRr, hlen, hcho⟩
        have hE23 := hE2.trans hE3
        have hE03 := hE02.trans hE3
        have hM3 := mat_ext hM hE03
        have hxr := row_some (ll := own) (i := ps.length) (by omega)
        obtain ⟨rw', b, p, g1, g2, g3, g4⟩ := mat_at hM3 hxr
        have hrl := hok.2.2.1 _ (List.mem_of_getElem? hxr)
        obtain ⟨bx, px, x1, x2, _⟩ := int_at g3 (gI_some (l := own.getD ps.length []) (i := j) (by omega))
        have hrow2 : mAt own ps.length j = gI (own.getD ps.length []) j := rfl
        rw [hrow2] at hcb hFn hFs
        generalize gI (own.getD ps.length []) j = e1 at x2 hcb hFn hFs
        generalize B (TS ps ||| 1 <<< j) = e2 at hbnd hFn hFs
        have a1 : IntKind.i64.wrap (e2 + e1) = e1 + e2 := by rw [Int.add_comm]; exact i64_in (by omega)
        have hrl2 : rs.length ≤ 12 := by simp at hlen; omega
        try simp only [wpK_assoc]
        refine wpK_reg (fun R hR => by simp [h0, h1, h8, lp, g1, g2, x1, x2, a1]; exact hR) ?_
        refine wpK_keep (fun tm' => tm'.get 0 = some (v) ∧ tm'.get 1 = some (pv) ∧ tm'.get 6 = some (bv) ∧ tm'.get 7 = some (.int .i64 w) ∧ tm'.get 8 = some (.int .i64 (j : Int)) ∧ tm'.get 10 = some (rv) ∧ tm'.get 11 = some (.int .i64 (e1 + e2))) ⟨by simp [h0, h1, h6, h7, h8], by simp [h0, h1, h6, h7, h8], by simp [h0, h1, h6, h7, h8], by simp [h0, h1, h6, h7, h8], by simp [h0, h1, h6, h7, h8], by simp [h0, h1, h6, h7, h8], by simp [h0, h1, h6, h7, h8]⟩ ?_
        rintro tm ⟨h0, h1, h6, h7, h8, h10, h11⟩
        try simp only [wpK_assoc]
        refine wpK_regc (J := fun A' W' => A'.n = 63 ∧ A'.defers = [] ∧ A'.tmps.get 0 = some (v) ∧ A'.tmps.get 1 = some (pv) ∧ A'.tmps.get 6 = some (bv) ∧ A'.tmps.get 7 = some (.int .i64 w) ∧ A'.tmps.get 8 = some (.int .i64 (j : Int)) ∧ A'.tmps.get 10 = some (rv) ∧ A'.tmps.get 11 = some (.int .i64 (e1 + e2)) ∧ W' = W3 ∧ ∃ cb : Bool, A'.tmps.get 54 = some (.bool cb) ∧ ((cb = true ∧ (bv = .slice none 0 0 ∨ w < e1 + e2)) ∨ (cb = false ∧ bv ≠ .slice none 0 0 ∧ e1 + e2 ≤ w))) (fun R hR => ?_) ?_
        · rcases hF with ⟨f1, f2, f3⟩ | ⟨⟨fa, fm, fc, f0⟩, _⟩
          · subst f1
            simp [h6, h7, h11, aGuard, aBinO, isnil31]
            exact hR _ _ ⟨rfl, rfl, by simp [h0, h1, h6, h7, h8, h10, h11], by simp [h0, h1, h6, h7, h8, h10, h11], by simp [h0, h1, h6, h7, h8, h10, h11], by simp [h0, h1, h6, h7, h8, h10, h11], by simp [h0, h1, h6, h7, h8, h10, h11], by simp [h0, h1, h6, h7, h8, h10, h11], by simp [h0, h1, h6, h7, h8, h10, h11], rfl, true, by simp, .inl ⟨rfl, .inl rfl⟩⟩
          · subst f0
            by_cases hg : w < e1 + e2
            · simp [h6, h7, h11, aGuard, aBinO, notnil31, hg]
              exact hR _ _ ⟨rfl, rfl, by simp [h0, h1, h6, h7, h8, h10, h11], by simp [h0, h1, h6, h7, h8, h10, h11], by simp [h0, h1, h6, h7, h8, h10, h11], by simp [h0, h1, h6, h7, h8, h10, h11], by simp [h0, h1, h6, h7, h8, h10, h11], by simp [h0, h1, h6, h7, h8, h10, h11], by simp [h0, h1, h6, h7, h8, h10, h11], rfl, true, by simp, .inl ⟨rfl, .inr hg⟩⟩
            · simp [h6, h7, h11, aGuard, aBinO, notnil31, hg]
              exact hR _ _ ⟨rfl, rfl, by simp [h0, h1, h6, h7, h8, h10, h11], by simp [h0, h1, h6, h7, h8, h10, h11], by simp [h0, h1, h6, h7, h8, h10, h11], by simp [h0, h1, h6, h7, h8, h10, h11], by simp [h0, h1, h6, h7, h8, h10, h11], by simp [h0, h1, h6, h7, h8, h10, h11], by simp [h0, h1, h6, h7, h8, h10, h11], rfl, false, by simp, .inr ⟨rfl, by simp, by omega⟩⟩
        rintro ⟨tm, n, ds⟩ W9 ⟨hn, hd, h0, h1, h6, h7, h8, h10, h11, e9, cb, h54, hcb2⟩
        simp only at hn hd h0 h1 h6 h7 h8 h10 h11
        subst hn; subst hd
        subst W9
        simp only at h54
        rcases hcb2 with ⟨rfl, hc⟩ | ⟨rfl, hc1, hc2⟩
        · obtain ⟨nv, W4, q1, q2, q3, q4⟩ := app_one hRr j (by omega)
          try simp only [wpK_assoc]
          first | refine wpK_onT (by simp [h54]) ?_ | refine wpK_outT (by simp [h54]) ?_ | refine wpK_condT (by simp [h54]) ?_ | refine wpK_endT (by simp [h54]) ?_
          try simp only [wpK_assoc]
          refine wpK_reg (fun R hR => by simp [h11]; exact hR) ?_
          try simp only [wpK_assoc]
          refine wpK_reg (fun R hR => by simp [h8, bs31]; exact hR) ?_
          try simp only [wpK_assoc]
          refine wpK_reg1 (fun R hR => by simp [h10, q1]; exact hR) ?_
          simp only [leaves_normal, behind_normal]
          refine wpK_keep (fun tm' => tm'.get 0 = some (v) ∧ tm'.get 1 = some (pv) ∧ tm'.get 6 = some (nv) ∧ tm'.get 7 = some (.int .i64 (e1 + e2)) ∧ tm'.get 8 = some (.int .i64 (j : Int))) ⟨by simp [h0, h1, h8], by simp [h0, h1, h8], by simp [h0, h1, h8], by simp [h0, h1, h8], by simp [h0, h1, h8]⟩ ?_
          rintro tm ⟨h0, h1, h6, h7, h8⟩
          try simp only [wpK_assoc]
          refine wpK_reg1 (fun R hR => by simp [h8]; exact hR) ?_
          have hN := hFn nv W4 rs hc q4 q3 (by rw [List.append_cons]; exact hlen) (fun k h1 h2 => by rw [List.append_cons]; exact hcho k (by simp; omega) h2)
          exact hI (n - (j + 1)) _ _ (by omega) ⟨rfl, rfl, by simp [h0, h1], by simp [h0, h1], hE03.trans q2, j + 1, nv, e1 + e2, by simp [i64_succ j (by omega)], by simp [h6], by simp [h7], rfl, by omega, hN⟩
        · try simp only [wpK_assoc]
          first | refine wpK_onF (by simp [h54]) ?_ | refine wpK_out (by simp [h54]) ?_ | refine wpK_condF (by simp [h54]) ?_ | refine wpK_endF (by simp [h54]) (wpK_skip ?_) | refine wpK_endF (by simp [h54]) ?_
          simp only [leaves_normal, behind_normal]
          try simp only [wpK_assoc]
          refine wpK_reg1 (fun R hR => by simp [h8]; exact hR) ?_
          exact hI (n - (j + 1)) _ _ (by omega) ⟨rfl, rfl, by simp [h0, h1], by simp [h0, h1], hE03, j + 1, bv, w, by simp [i64_succ j (by omega)], by simp [h6], by simp [h7], rfl, by omega, (hFs hc1 hc2).ext hE23⟩
    · rintro A' W' hf; exact hf.elim
    · rintro ⟨tm, n, ds⟩ Wz ⟨hn, hd, h0, h1, hEz, bv, w, h6, h7, hF⟩
      simp only at hn hd h0 h1
      subst hn; subst hd
      simp only at h6 h7
      obtain ⟨hw, rs, r1, r2, r3⟩ := hF.end' hB hn12 hP (by omega)
      subst hw
      try simp only [wpK_assoc]
      refine wpK_reg (fun R hR => by simp [h6, h7]; exact hR) ?_
      exact wpK_ret ⟨.inr rfl, rfl, [bv, .int .i64 (B (TS ps))], by simp, hEz, bv, rs, rfl, r1, r2, r3⟩
/-- the first of the best assignments -/
theorem refAssign0_wp {v : Value} {own : List (List Int)} {W : AW} (hM : MatIn W v own) (hok : OffOk own) (hro : ∀ r ∈ own, r.length < 9223372036854775808) {B : Nat → Int} (hB : BestN own.length (mAt own) B) :
    WpF T0 39 [v] W (fun u W' => Ext W W' ∧ ∃ rv rs, u = .tuple ⟨[rv, .int .i64 (B 0)]⟩ ∧ IntR W' rv (rs.map Int.ofNat) ∧ rs.length = own.length ∧ Chosen own.length (mAt own) B rs) := by
  refine wpF fun39 rfl ?_
  try simp only [wpK_assoc]
  refine wpK_reg (fun R hR => by simp []; exact hR) ?_
  try simp only [wpK_assoc]
  refine wpK_x2 (fun R hR => by
      simp [opExtract, aExtract, aEnter, fun70, short_other, aCallV]; rw [callS_none]
      refine (refAssign_wp hok hro rfl hB own.length W [] (.slice none 0 0) (by simp) hM (.nil _) (.nil _)).mono ?_
      rintro _ W1 ⟨hE, rv, rs, rfl, hRo, hl, hc⟩
      simp [opExtract, aExtract]; exact hR rv rs W1 (And.intro hE (And.intro hRo (And.intro hl hc)))) ?_
  rintro rv rs W1 ⟨hE, hRo, hl, hc⟩
  rw [List.nil_append] at hl
  exact wpK_ret ⟨.inr rfl, rfl, [rv, .int .i64 (B 0)], by simp; rfl, hE, rv, rs, rfl, hRo, hl, fun k hk => hc k (by simp) (by omega)⟩

end Go.Proofs.YtdpnplanohgecaaDoor

open Go Go.Eng
namespace Go.Proofs.YtdpnplanohgecaaDoor
attribute [local congr] undef_congr WpK.congr WpS.congr WpL.congr WpC.congr WpF.congr gotS.congr callS.congr nextS.congr wantS.congr condS.congr
attribute [local irreducible] WpK
attribute [local simp] WpDr_nil WpDr_cons atS_some dwantS_true dwantS_false kindS_light kindS_float kindS_heavy lightS_value floatS_some heavyS_value heavyS_skip heavyS_enter dcallS_some doneS_eq
  isLight isFloat isPlain dLook testBit_dec dChain dLights_nil dLights_skip dLights_one dLight_nil dLight_cons dFreshes_nil dFreshes_one oneF_none oneF_some dFresh_nil dFresh_cons oneL_some oneW_true oneW_false sameV_value dPut dMay valEq arrEq listEq List.getElem?_cons Tr.get_nil dEnd
attribute [local simp] WpS_nil WpS_cons isDefer undef_false wantS_true wantS_false nextS_value nextS_skip nextS_enter callS_some gotS_some aWanted aOp aEvalF aEval opMove opAssign opPick aVal flat flat1 AAct.put opBinOp opConvert opIndex Tr.get_set Tr.get_lay aBin aResults tupled
  aCall aVals aCallB blt_dec ble_dec beq_dec aBinI_add aBinI_sub aBinI_lss aBinI_leq aBinI_gtr aBinI_geq aBinI_eql aBinI_neq index_str len_str len_slice Nat.beq_refl Nat.beq_refl
  opBox opLoad opFieldAddr opIndexAddr acells aAddr opExtract aExtract opUnOp opAlloc opStore opMakeInterface opNilCheck opBuild aParts opBuildSlice aValW
attribute [local simp] und2 und3 und4 und5 und9 und12 field13_0 field13_1 und21 und22 field23_0 field23_1 field24_0 field24_1 field25_0 field25_1 und28 und31 field34_0 field34_1 field34_2 field35_0 field35_1 field35_2 und46 field50_0 field50_1 field50_2 und55 und56 und58 und61 und62 und73 und75 und90 und94 und95 und96 field97_0 field97_1 field97_2 field97_3 field97_4 field97_5 field97_6 field98_0 field98_1 field98_2 field98_3 field98_4 field98_5 field98_6 und99 und106 field107_0 field107_1 field108_0 field108_1 und119 und122 field124_0 field124_1 field124_2 field125_0 field125_1 field125_2 field131_0 field131_1 field132_0 field132_1 und133 field134_0 field134_1 field135_0 field135_1 und148 und156 und160
set_option maxHeartbeats 4000000
set_option linter.unusedSimpArgs false
set_option linter.unusedVariables false
/-! ### the law PairAssigns -/
theorem grow_tight {W : AW} {v : Value} {n : Nat} {l : List Value} {el : TypeId} {sz p : Nat} (h : GrowsN W v n l el sz (fun b => False ∨ b = p)) : GrowsN W v n l el sz (fun b => b = p ∧ p < W.next) := by
  obtain ⟨h0, h | ⟨b, c, kin, h1, h2, h3, h4, h5, h6, h7⟩⟩ := h
  · exact ⟨h0, .inl h⟩
  · have e : b = p := h3.elim (fun x => x.elim) id
    subst e
    exact ⟨h0, .inr ⟨b, c, kin, h1, h2, ⟨rfl, h4⟩, h4, h5, h6, fun q hq => ⟨(h7 q hq).elim (fun x => x.elim) id, h4⟩⟩⟩
structure Rows2 (W W0 : AW) (t : Value) (own : List (List Int)) (K S : Nat → Prop) : Prop where
  kl : ∀ b, K b → b < W.next ∧ W0.next ≤ b
  sl : ∀ b, S b → b < W.next ∧ W0.next ≤ b ∧ ¬ K b
  small : ∀ r ∈ own, r.length ≤ 14
  rows : ∃ us : List Value, us.length = own.length ∧ GrowsN W t own.length us 62 1 K ∧ ∀ (i : Nat) u l, us[i]? = some u → own[i]? = some l → GrowsN W u l.length (vI l) 2 1 S
theorem Rows2.start (W W0 : AW) : Rows2 W W0 (.slice none 0 0) [] (fun _ => False) (fun _ => False) :=
  ⟨fun b h => h.elim, fun b h => h.elim, fun r hr => by simp at hr, [], rfl, .nil _ _ _ _, fun i u l hu => by simp at hu⟩
theorem Rows2.push {W0 Wa W1 : AW} {t gv : Value} {own : List (List Int)} {K S : Nat → Prop} {r : List Int} (hM : Rows2 Wa W0 t own K S) (hE1 : Ext Wa W1) (hgr : GrowsN W1 gv r.length (vI r) 2 1 (fun b => b = Wa.next ∧ Wa.next < W1.next)) (h0 : W0.next ≤ Wa.next) (hr : r.length ≤ 14) (hlen : own.length ≤ 100000) :
    ∃ t' W2, aAppend T0 (W1.newCells 62 [gv]) [61, 61] [t, .slice (some ⟨W1.next, 0, none⟩) 1 2] = some (t', W2) ∧ W2.next = W1.next + 2 ∧ (Ext W0 Wa → Ext W0 W2) ∧ ∃ K' S', Rows2 W2 W0 t' (own ++ [r]) K' S' := by
  obtain ⟨A5, c5, hs5⟩ := hgr.len
  obtain ⟨us, hu1, hu2, hu3⟩ := hM.rows
  have hn1 := hE1.1
  have hu2b := hu2.only hE1 (fun b hb hk x => x)
  obtain ⟨t', W2, k1, k2, k3, k4⟩ := grow_push2 (W := W1) (t := 61) (el := 62) und61 inf62 is62 z62 rfl (by rw [by62]; omega) hu2b hlen gv (by rw [hs5]; rfl)
  have hl1 : (own ++ [r]).length = own.length + 1 := by simp
  have hOac : Only (fun b => K b) Wa W2 := ⟨by omega, fun b hb hk => by rw [k4.2 b (by omega) hk, hE1.2 b hb (fun x => x)]⟩
  refine ⟨t', W2, k1, k2, fun hE => ⟨by omega, fun b hb hk => by rw [hOac.2 b (by omega) (fun hK => by have := (hM.kl b hK).2; omega)]; exact hE.2 b hb hk⟩, fun b => K b ∨ b = W1.next + 1, fun b => S b ∨ (b = Wa.next ∧ Wa.next < W1.next), ?_⟩
  refine ⟨fun b hb => ?_, fun b hb => ?_, fun q hq => ?_, us ++ [gv], by simp [hu1], by rw [hl1]; exact k3, fun q u l hu hl2 => ?_⟩
  · rcases hb with hb | hb
    · have := hM.kl b hb; omega
    · omega
  · rcases hb with hb | ⟨hb, hb2⟩
    · have := hM.sl b hb
      refine ⟨by omega, this.2.1, fun hh => ?_⟩
      rcases hh with hh | hh
      · exact this.2.2 hh
      · omega
    · refine ⟨by omega, by omega, fun hh => ?_⟩
      rcases hh with hh | hh
      · have := (hM.kl b hh).1; omega
      · omega
  · rcases List.mem_append.1 hq with hq | hq
    · exact hM.small q hq
    · simp at hq; subst hq; exact hr
  · by_cases hq : q < own.length
    · rw [List.getElem?_append_left (by omega)] at hu hl2
      exact ((hu3 q u l hu hl2).only hOac (fun b hb hS hk => (hM.sl b hS).2.2 hk)).mono (fun b hb => .inl hb)
    · rw [List.getElem?_append_right (by omega)] at hu hl2
      have hq0 : q - own.length = 0 := by have := (List.getElem?_eq_some_iff.1 hl2).1; simp at this; omega
      rw [hu1, hq0] at hu
      rw [hq0] at hl2
      cases hu; cases hl2
      exact (hgr.only k4 (fun b hb hS hk => by have := (hM.kl b hk).1; omega)).mono (fun b hb => .inr hb)
theorem Rows2.mat {W W0 : AW} {t : Value} {own : List (List Int)} {K S : Nat → Prop} (hM : Rows2 W W0 t own K S) : MatIn W t own := by
  obtain ⟨us, hu1, hu2, hu3⟩ := hM.rows
  rw [← hu1] at hu2
  exact ⟨us, hu1, vals_row hu2, fun i u l hu hl2 => vI_row (hu3 i u l hu hl2)⟩
theorem fltb61 {ρ : Operand → Option Value} {x : Operand} {A : Option Addr} {n c : Nat} (hx : ρ x = some (.slice A n c)) : aFlt T0 ρ (.buildSlice 61 1 #[(0, x)]) = some ⟨62, [.slice A n c], false, 1, 1⟩ := by
  have hp : aParts ρ [(0, x)] = some [(0, .slice A n c)] := by simp only [aParts, hx]
  simp only [aFlt, hp, und61, inf62, z62, is62]
  first | done | rfl | trace_state

end Go.Proofs.YtdpnplanohgecaaDoor

open Go Go.Eng
namespace Go.Proofs.YtdpnplanohgecaaDoor
attribute [local congr] undef_congr WpK.congr WpS.congr WpL.congr WpC.congr WpF.congr gotS.congr callS.congr nextS.congr wantS.congr condS.congr
attribute [local irreducible] WpK
attribute [local simp] WpDr_nil WpDr_cons atS_some dwantS_true dwantS_false kindS_light kindS_float kindS_heavy lightS_value floatS_some heavyS_value heavyS_skip heavyS_enter dcallS_some doneS_eq
  isLight isFloat isPlain dLook testBit_dec dChain dLights_nil dLights_skip dLights_one dLight_nil dLight_cons dFreshes_nil dFreshes_one oneF_none oneF_some dFresh_nil dFresh_cons oneL_some oneW_true oneW_false sameV_value dPut dMay valEq arrEq listEq List.getElem?_cons Tr.get_nil dEnd
attribute [local simp] WpS_nil WpS_cons isDefer undef_false wantS_true wantS_false nextS_value nextS_skip nextS_enter callS_some gotS_some aWanted aOp aEvalF aEval opMove opAssign opPick aVal flat flat1 AAct.put opBinOp opConvert opIndex Tr.get_set Tr.get_lay aBin aResults tupled
  aCall aVals aCallB blt_dec ble_dec beq_dec aBinI_add aBinI_sub aBinI_lss aBinI_leq aBinI_gtr aBinI_geq aBinI_eql aBinI_neq index_str len_str len_slice Nat.beq_refl Nat.beq_refl
  opBox opLoad opFieldAddr opIndexAddr acells aAddr opExtract aExtract opUnOp opAlloc opStore opMakeInterface opNilCheck opBuild aParts opBuildSlice aValW
attribute [local simp] und2 und3 und4 und5 und9 und12 field13_0 field13_1 und21 und22 field23_0 field23_1 field24_0 field24_1 field25_0 field25_1 und28 und31 field34_0 field34_1 field34_2 field35_0 field35_1 field35_2 und46 field50_0 field50_1 field50_2 und55 und56 und58 und61 und62 und73 und75 und90 und94 und95 und96 field97_0 field97_1 field97_2 field97_3 field97_4 field97_5 field97_6 field98_0 field98_1 field98_2 field98_3 field98_4 field98_5 field98_6 und99 und106 field107_0 field107_1 field108_0 field108_1 und119 und122 field124_0 field124_1 field124_2 field125_0 field125_1 field125_2 field131_0 field131_1 field132_0 field132_1 und133 field134_0 field134_1 field135_0 field135_1 und148 und156 und160
set_option maxHeartbeats 4000000
set_option linter.unusedSimpArgs false
set_option linter.unusedVariables false
/-! ### the law PairAssigns: the walk -/
theorem mats_at {W : AW} {v : Value} {ll : List (List Int)} (h : MatS W v ll) {i : Nat} {l : List Int} (hi : ll[i]? = some l) : ∃ u b p, aIndexAddr T0 61 v (.int .i64 (i : Int)) = some (.pointer (some ⟨b, p, none⟩)) ∧ IntR W u l ∧ SlOk u l.length ∧ W.Has b p u := by
  obtain ⟨us, h1, h2, h3⟩ := h
  have hlt := (List.getElem?_eq_some_iff.1 hi).1
  have hu : us[i]? = some us[i] := List.getElem?_eq_getElem (by omega)
  obtain ⟨A, c, rfl, _, h5⟩ := h2
  obtain ⟨b, o, rfl, h6⟩ := h5 i _ hu
  have h7 := h3 i _ l hu hi
  exact ⟨us[i], b, o + i, by
    have := indexAddr_slice (T := T0) und61 sz62 (b := b) (o := o) (c := c) (k := .i64) (i := i) (len := us.length) (by omega)
    rw [Nat.mul_one] at this; exact this, h7.1, h7.2, by
    have := h6 0 us[i] rfl
    rw [Nat.mul_one] at this; exact this⟩
open Classical in
theorem pairAssigns_wp {W : AW} {v : Value} {ll : List (List Int)} (hS : MatS W v ll)
    (hl : ll.length < 9223372036854775808) (hr : ∀ r ∈ ll, r.length < 9223372036854775808) (htb : tabsIn T0 T0.tabs W = true) (hW0 : 0 < W.next) :
    WpF T0 6 [v] W (fun u _ => u = .bool true) := by
  have h := mats_in hS
  obtain ⟨A, c, hv⟩ := mat_len h
  have lv : ∀ W', aLen T0 W' 61 v = some (.int .i64 ll.length) := fun W' => by rw [hv]; exact len_slice und61 _ _ _
  refine wpF fun6 rfl ?_
  try simp only [wpK_assoc]
  refine wpK_reg (fun R hR => by simp []; exact hR) ?_
  try simp only [wpK_assoc]
  refine wpK_reg (fun R hR => by simp []; exact hR) ?_
  try simp only [wpK_assoc]
  refine wpK_reg (fun R hR => by simp []; exact hR) ?_
  try simp only [wpK_assoc]
  refine wpK_while (I := fun k A' W' => A'.n = 151 ∧ A'.defers = [] ∧ A'.tmps.get 0 = some (v) ∧ Ext W W' ∧ ∃ (i : Nat) (t : Value) (own : List (List Int)) (K S : Nat → Prop), A'.tmps.get 4 = some (.int .i64 (i : Int)) ∧ A'.tmps.get 3 = some t ∧ k = 14 - i ∧ i ≤ 14 ∧ own.length = i ∧ Rows2 W' W t own K S)
    (J := fun A' W' => A'.n = 151 ∧ A'.defers = [] ∧ A'.tmps.get 0 = some (v) ∧ Ext W W' ∧ ∃ (t : Value) (own : List (List Int)), A'.tmps.get 3 = some t ∧ own.length ≤ 14 ∧ (∀ r ∈ own, r.length ≤ 14) ∧ MatIn W' t own)
    (Rt := fun _ _ => False) (k := 14) ?_ ?_ ?_ ?_
  · exact ⟨rfl, rfl, by simp, .refl _ _, 0, .slice none 0 0, [], _, _, by simp, by simp, rfl, by omega, rfl, .start _ _⟩
  · rintro k ⟨tm, n, ds⟩ Wa ⟨hn, hd, h0, hEa, i, t, own, K, S, h4, h3, hk, hi14, hol, hM⟩ Q' hJ hRt hI
    simp only at hn hd h0
    subst hn; subst hd
    simp only at h4 h3
    by_cases hlt : i < ll.length
    case neg =>
      have hlt' : ¬ (i : Int) < ll.length := by omega
      try simp only [wpK_assoc]
      refine wpK_reg (fun R hR => by simp [h0, h4, lv, hlt']; exact hR) ?_
      try simp only [wpK_assoc]
      first | refine wpK_onF (by simp [hlt]) ?_ | refine wpK_out (by simp [hlt]) ?_ | refine wpK_condF (by simp [hlt]) ?_ | refine wpK_endF (by simp [hlt]) (wpK_skip ?_) | refine wpK_endF (by simp [hlt]) ?_
      exact hJ _ _ ⟨rfl, rfl, by simp [h0], hEa, t, own, by simp [h3], by omega, hM.small, hM.mat⟩
    have hlt' : (i : Int) < ll.length := by omega
    by_cases h14 : i < 14
    case neg =>
      have h14' : ¬ (i : Int) < 14 := by omega
      try simp only [wpK_assoc]
      refine wpK_reg (fun R hR => by simp [h0, h4, lv, hlt', h14']; exact hR) ?_
      try simp only [wpK_assoc]
      first | refine wpK_onF (by simp [hlt, h14]) ?_ | refine wpK_out (by simp [hlt, h14]) ?_ | refine wpK_condF (by simp [hlt, h14]) ?_ | refine wpK_endF (by simp [hlt, h14]) (wpK_skip ?_) | refine wpK_endF (by simp [hlt, h14]) ?_
      exact hJ _ _ ⟨rfl, rfl, by simp [h0], hEa, t, own, by simp [h3], by omega, hM.small, hM.mat⟩
    have h14' : (i : Int) < 14 := by omega
    try simp only [wpK_assoc]
    refine wpK_reg (fun R hR => by simp [h0, h4, lv, hlt', h14']; exact hR) ?_
    try simp only [wpK_assoc]
    first | refine wpK_onT (by simp [hlt, h14]) ?_ | refine wpK_outT (by simp [hlt, h14]) ?_ | refine wpK_condT (by simp [hlt, h14]) ?_ | refine wpK_endT (by simp [hlt, h14]) ?_
    have hxr := row_some (ll := ll) (i := i) hlt
    obtain ⟨rv, b, p, g1, g3, gs, g4⟩ := mats_at hS hxr
    have g2 : ∀ W', Ext Wa W' → aLoadVar T0 W' 62 b p = some rv := fun W' hE => load_of und62 rfl (g4.ext (hEa.trans hE))
    have g20 := g2 Wa (.refl _ _)
    obtain ⟨A3, c3, hrv⟩ := g3.len
    have lr : ∀ W', aLen T0 W' 62 rv = some (.int .i64 ((ll.getD i []).length : Int)) := fun W' => by rw [hrv]; exact len_slice und62 _ _ _
    have vrv := row_eq g3
    generalize ll.getD i [] = row at hxr g3 gs lr
    obtain ⟨ka, hka⟩ : ∃ k : Nat, k = min row.length 14 := ⟨_, rfl⟩
    have mka : min (row.length : Int) 14 = (ka : Int) := by omega
    obtain ⟨u', s1, s2, s3⟩ := RowIn.slice (T := T0) und62 sz2 gs (g3.ext hEa) (k := ka) (by omega)
    have hlen : (row.take ka).length = ka := by rw [List.length_take]; omega
    obtain ⟨gv, W1, k1, k2, k3, k4, k5⟩ := (GrowsN.nil Wa 2 1 (fun _ => False)).appRow (T := T0) (t := 62) encI_len encI_one (by omega) und62 inf2 is2 z2 rfl s3 (by rw [hlen, by2]; omega) (by omega)
    rw [List.nil_append, ← vI_flat, Nat.zero_add] at k4
    have hE1 : Ext Wa W1 := k5
    have k6 := grow_tight k4
    obtain ⟨A6, c6, hgv⟩ := k6.len
    obtain ⟨t', W2, p1, p2, p3, K', S', hM2⟩ := hM.push hE1 k6 (by have := hEa.1; omega) (by omega) (by omega)
    have hE2 := p3 hEa
    obtain ⟨W1', hW1', hE1'⟩ : ∃ W1', W1' = W1.newCells 62 [gv] ∧ Ext W1 W1' := ⟨_, rfl, .newCells _ _ _⟩
    rw [← hW1'] at p1
    have hn1 : W1'.next = W1.next + 1 := by rw [hW1']; rfl
    have hfl := fun (ρ : Operand → Option Value) (x : Operand) (hx : ρ x = some (.slice A6 (row.take ka).length c6)) => fltb61 (ρ := ρ) hx
    rw [← hgv] at hfl
    have hf1 : freshB W1' W1.next 62 [gv] = true := by
      rw [hW1']; exact freshB_new _ _ _ (by simp [listEq, row_eq (vI_row k6)])
    refine wpK_block ?_
    try simp only [wpK_assoc]
    refine wpK_reg (fun R hR => by simp []; exact hR) ?_
    try simp only [wpK_assoc]
    refine wpK_qn (wr := Tr.nil |>.set 26 0 |>.set 27 1 |>.set 28 2 |>.set 29 3 |>.set 30 4 |>.set 31 5 |>.set 32 6 |>.set 33 7 |>.set 34 8 |>.set 35 9 |>.set 36 10 |>.set 37 11 |>.set 38 12 |>.set 39 13 |>.set 40 14 |>.set 41 15 |>.set 3 16) (bits := Tr.nil.lay 0 [0, 0, 0, 0, 12, 28, 0, 0, 192, 448, 960, 1984, 4092, 8190, 16382, 32767, 65535]) (ord := [0, 1, 2, 3, 4, 5, 6, 7, 8, 9, 10, 11, 12, 13, 14, 15, 16]) (by kernel_rfl) (by kernel_rfl) (by kernel_rfl) (fun G hG => by
      simp [h0, h3, h4, g1, g20, g2, hE1, hE1', hE1.trans hE1', lr, min_int, mka, opSlice, aOpt, s1, k1, hfl, AFlt.val, ← hW1', hf1, hn1, p1, p2, vrv, k2, row_eq s3]
      exact hG) ?_
    simp only [leaves_normal, behind_normal]
    refine wpK_keep (fun tm' => tm'.get 0 = some (v) ∧ tm'.get 3 = some (t') ∧ tm'.get 4 = some (.int .i64 (i : Int))) ⟨by simp [h0, h4], by simp [h0, h4], by simp [h0, h4]⟩ ?_
    rintro tm ⟨h0, h3, h4⟩
    try simp only [wpK_assoc]
    refine wpK_reg1 (fun R hR => by simp [h4]; exact hR) ?_
    exact hI (14 - (i + 1)) _ _ (by omega) ⟨rfl, rfl, by simp [h0], hE2, i + 1, t', own ++ [row.take ka], K', S', by simp [i64_succ i (by omega)], by simp [h3], rfl, by omega, by simp [hol], hM2⟩
  · rintro A' W' hf; exact hf.elim
  rintro ⟨tm, n, ds⟩ Wb ⟨hn, hd, h0, hEb, t, own, h3, hol, hrs, hM⟩
  simp only at hn hd h0
  subst hn; subst hd
  simp only at h3
  try simp only [wpK_assoc]
  refine wpK_reg (fun R hR => by simp []; exact hR) ?_
  try simp only [wpK_assoc]
  refine wpK_while (I := fun k A' W' => A'.n = 151 ∧ A'.defers = [] ∧ A'.tmps.get 0 = some (v) ∧ Ext W W' ∧ ∃ (c : Nat) (t : Value) (own : List (List Int)), A'.tmps.get 6 = some (.int .i64 (c : Int)) ∧ A'.tmps.get 3 = some t ∧ k = 2 - c ∧ c ≤ 2 ∧ own.length ≤ 14 ∧ (∀ r ∈ own, r.length ≤ 14) ∧ MatIn W' t own)
    (J := fun A' W' => A'.n = 151 ∧ A'.defers = [] ∧ A'.tmps.get 0 = some (v) ∧ Ext W W') (Rt := fun _ _ => False) (k := 2) ?_ ?_ ?_ ?_
  · exact ⟨rfl, rfl, by simp [h0], hEb, 0, t, own, by simp, by simp [h3], rfl, by omega, hol, hrs, hM⟩
  · rintro k ⟨tm, n, ds⟩ Wa ⟨hn, hd, h0, hEa, c, t, own, h6, h3, hk, hc2, hol, hrs, hM⟩ Q' hJ hRt hI
    simp only at hn hd h0
    subst hn; subst hd
    simp only at h6 h3
    by_cases hlt : c < 2
    case neg =>
      have e : c = 2 := by omega
      subst e
      try simp only [wpK_assoc]
      refine wpK_reg (fun R hR => by simp [h6]; exact hR) ?_
      try simp only [wpK_assoc]
      first | refine wpK_onF (by simp []) ?_ | refine wpK_out (by simp []) ?_ | refine wpK_condF (by simp []) ?_ | refine wpK_endF (by simp []) (wpK_skip ?_) | refine wpK_endF (by simp []) ?_
      exact hJ _ _ ⟨rfl, rfl, by simp [h0], hEa⟩
    have hlt' : (c : Int) < 2 := by omega
    try simp only [wpK_assoc]
    refine wpK_reg (fun R hR => by simp [h6, hlt']; exact hR) ?_
    try simp only [wpK_assoc]
    first | refine wpK_onT (by simp [hlt]) ?_ | refine wpK_outT (by simp [hlt]) ?_ | refine wpK_condT (by simp [hlt]) ?_ | refine wpK_endT (by simp [hlt]) ?_
    have hro : ∀ r ∈ own, r.length < 9223372036854775808 := fun r hr => by have := hrs r hr; omega
    obtain ⟨n, hn⟩ : ∃ n, n = own.length := ⟨_, rfl⟩
    obtain ⟨At, ct, htv⟩ := mat_len hM
    have lt : ∀ W', aLen T0 W' 61 t = some (.int .i64 (n : Int)) := fun W' => by rw [htv, hn]; exact len_slice und61 _ _ _
    have p37 := fun (W' : AW) (hE : Ext Wa W') => refOffer_wp (mat_ext hM hE) (by omega)
    have z0 : IntKind.i64.wrap 0 = 0 := by decide
    have hE41 := fun (W' : AW) (hE : Ext Wa W') => offer_wp (mat_ext h (hEa.trans hE)) hl hr 6 (by omega)
    refine wpK_block ?_
    by_cases hok : OffOk own
    case neg =>
      have he : offE own ≠ 0 := fun e => hok (offE_0 e)
      try simp only [wpK_assoc]
      refine wpK_reg (fun R hR => by
          simp [h3, opExtract, aExtract, aEnter, fun35, short_other, aCallV]; rw [callS_none]
          refine (assign_err hM (by omega) hro he).mono ?_
          rintro _ W9 ⟨e9, rfl⟩; subst W9
          simp [h3, opExtract, aExtract]; exact hR) ?_
      try simp only [wpK_assoc]
      refine wpK_reg (fun R hR => by
          simp [h3, opExtract, aExtract, aEnter, fun36, short_other, aCallV]; rw [callS_none]
          refine (prices_err hM (by omega) hro he).mono ?_
          rintro _ W9 ⟨e9, rfl⟩; subst W9
          simp [h3, opExtract, aExtract]; exact hR) ?_
      try simp only [wpK_assoc]
      refine wpK_reg (fun R hR => by
          simp [h3, aEnter, fun37, short_other, aCallV]; rw [callS_none]
          refine (p37 Wa (.refl _ _)).mono ?_
          rintro _ W9 ⟨e9, rfl⟩; subst W9
          simp [h3]; exact hR) ?_
      try simp only [wpK_assoc]
      refine wpK_reg (fun R hR => by simp [he]; exact hR) ?_
      try simp only [wpK_assoc]
      first | refine wpK_onT (by simp []) ?_ | refine wpK_outT (by simp []) ?_ | refine wpK_condT (by simp []) ?_ | refine wpK_endT (by simp []) ?_
      have p38 := arePrices_wp (uv := .slice none 0 0) (vv := .slice none 0 0) (ul := []) (vl := []) hM (.nil _) (.nil _) 0 (by omega) hro (by simp) (by simp)
      rw [decide_eq_false (fun hh => hok hh.1)] at p38
      try simp only [wpK_assoc]
      refine wpK_reg (fun R hR => by
          simp [h3, z0, aEnter, fun38, short_other, aCallV]; rw [callS_none]
          refine (p38).mono ?_
          rintro _ W9 ⟨e9, rfl⟩; subst W9
          simp [h3, z0]; exact hR) ?_
      try simp only [wpK_assoc]
      first | refine wpK_onF (by simp []) ?_ | refine wpK_out (by simp []) ?_ | refine wpK_condF (by simp []) ?_ | refine wpK_endF (by simp []) (wpK_skip ?_) | refine wpK_endF (by simp []) ?_
      refine wpK_keep (fun tm' => tm'.get 0 = some (v) ∧ tm'.get 6 = some (.int .i64 (c : Int))) ⟨by simp [h0, h6], by simp [h0, h6]⟩ ?_
      rintro tm ⟨h0, h6⟩
      try simp only [wpK_assoc]
      refine wpK_y2 (fun R hR => by
          simp [h0, aEnter, fun41, short_other, aCallV]; rw [callS_none]
          refine (hE41 Wa (.refl _ _)).mono ?_
          rintro u2 W2 ⟨hE2, own2, hM2, hok2, hle2⟩
          simp [h0]; exact hR u2 own2 W2 (And.intro hE2 (And.intro hM2 (And.intro hok2 hle2)))) ?_
      rintro u2 own2 W2 ⟨hE2, hM2, hok2, hle2⟩
      simp only [leaves_normal, behind_normal]
      refine wpK_keep (fun tm' => tm'.get 0 = some (v) ∧ tm'.get 3 = some (u2) ∧ tm'.get 6 = some (.int .i64 (c : Int))) ⟨by simp [h0, h6], by simp [h0, h6], by simp [h0, h6]⟩ ?_
      rintro tm ⟨h0, h3, h6⟩
      try simp only [wpK_assoc]
      refine wpK_reg1 (fun R hR => by simp [h6]; exact hR) ?_
      exact hI (2 - (c + 1)) _ _ (by omega) ⟨rfl, rfl, by simp [h0], hEa.trans hE2, c + 1, u2, own2, by simp [i64_succ c (by omega)], by simp [h3], rfl, by omega, by omega, fun r hr => by rw [hok2.2.2.1 r hr]; omega, hM2⟩
    have hn12 : n ≤ 12 := by have := hok.2.1; omega
    try simp only [wpK_assoc]
    refine wpK_x3 (fun R hR => by
        simp [h3, opExtract, aExtract, aEnter, fun35, short_other, aCallV]; rw [callS_none]
        refine (assign_ok hM hro hok).mono ?_
        rintro _ W3 ⟨hE3, pv, ps, B, rfl, hA, hG⟩
        simp [h3, opExtract, aExtract]; exact hR pv ps B W3 (And.intro hE3 (And.intro hA hG))) ?_
    rintro pv ps B W3 ⟨hE3, hA, hG⟩
    have hM3 := mat_ext hM hE3
    try simp only [wpK_assoc]
    refine wpK_x6 (fun R hR => by
        simp [h3, opExtract, aExtract, aEnter, fun36, short_other, aCallV]; rw [callS_none]
        refine (prices_ok hM3 hro hok).mono ?_
        rintro _ W4 ⟨hE4, pu, pw, us, vs, ps', B', hpu, hpv, hne, rfl, hIP, hVu, hVv⟩
        simp [h3, opExtract, aExtract]; exact hR pu pw us vs ps' B' W4 (And.intro hE4 (And.intro hpu (And.intro hpv (And.intro hne (And.intro hIP (And.intro hVu hVv))))))) ?_
    rintro pu pw us vs ps' B' W4 ⟨hE4, hpu, hpv, hne, hIP, hVu, hVv⟩
    rw [← hn]
    have hE34 := hE3.trans hE4
    have hM4 := mat_ext hM hE34
    have hpl : ps.length = n := by rw [hn]; exact hA.1
    have hrow := (natsV_row hG).ext hE4
    have hul' : us.length = n := by rw [hIP.ul, hn]
    have hvl' : vs.length = n := by rw [hIP.vl, hn]
    obtain ⟨su, hsu⟩ : ∃ s : Value, s = .slice (some ⟨pu, 0, none⟩) n (2 * n) := ⟨_, rfl⟩
    obtain ⟨sv, hsv⟩ : ∃ s : Value, s = .slice (some ⟨pw, 0, none⟩) n (2 * n) := ⟨_, rfl⟩
    rw [← hsu, ← hsv]
    have hR1 := var_row62 hVu hul'
    have hR2 := var_row62 hVv hvl'
    rw [← hsu] at hR1
    rw [← hsv] at hR2
    have q37 := p37 W4 hE34
    rw [offE_ok hok] at q37
    try simp only [wpK_assoc]
    refine wpK_reg (fun R hR => by
        simp [h3, aEnter, fun37, short_other, aCallV]; rw [callS_none]
        refine (q37).mono ?_
        rintro _ W9 ⟨e9, rfl⟩; subst W9
        simp [h3]; exact hR) ?_
    try simp only [wpK_assoc]
    refine wpK_reg (fun R hR => by simp []; exact hR) ?_
    try simp only [wpK_assoc]
    first | refine wpK_onF (by simp []) ?_ | refine wpK_out (by simp []) ?_ | refine wpK_condF (by simp []) ?_ | refine wpK_endF (by simp []) (wpK_skip ?_) | refine wpK_endF (by simp []) ?_
    refine wpK_keep (fun tm' => tm'.get 0 = some (v) ∧ tm'.get 3 = some (t) ∧ tm'.get 6 = some (.int .i64 (c : Int)) ∧ tm'.get 7 = some (pv) ∧ tm'.get 8 = some (.int .i64 (B 0)) ∧ tm'.get 9 = some (.int .i64 0) ∧ tm'.get 10 = some (su) ∧ tm'.get 11 = some (sv) ∧ tm'.get 12 = some (.int .i64 0)) ⟨by simp [h0, h3, h6], by simp [h0, h3, h6], by simp [h0, h3, h6], by simp [h0, h3, h6], by simp [h0, h3, h6], by simp [h0, h3, h6], by simp [h0, h3, h6], by simp [h0, h3, h6], by simp [h0, h3, h6]⟩ ?_
    rintro tm ⟨h0, h3, h6, h7, h8, h9, h10, h11, h12⟩
    by_cases hn6 : n ≤ 6
    · have hn6' : (n : Int) ≤ 6 := by omega
      try simp only [wpK_assoc]
      refine wpK_reg (fun R hR => by simp [h3, lt, hn6']; exact hR) ?_
      try simp only [wpK_assoc]
      first | refine wpK_onT (by simp [hn6]) ?_ | refine wpK_outT (by simp [hn6]) ?_ | refine wpK_condT (by simp [hn6]) ?_ | refine wpK_endT (by simp [hn6]) ?_
      try simp only [wpK_assoc]
      refine wpK_x2 (fun R hR => by
          simp [h3, opExtract, aExtract, aEnter, fun39, short_other, aCallV]; rw [callS_none]
          refine (refAssign0_wp hM4 hok hro hA.2.1).mono ?_
          rintro _ W5 ⟨hE5, rv, rs, rfl, hRr, hrl, hch⟩
          simp [h3, opExtract, aExtract]; exact hR rv rs W5 (And.intro hE5 (And.intro hRr (And.intro hrl hch)))) ?_
      rintro rv rs W5 ⟨hE5, hRr, hrl, hch⟩
      have hrs2 : rs = ps := chosen_unique hch hA.2.2.1 (by omega)
      subst hrs2
      have hM5 := mat_ext hM4 hE5
      have q29 := same_wp (hrow.ext hE5) hRr (by rw [List.length_map]; omega) (by rw [List.length_map]; omega) rfl
      have q40 := refPrices_wp hM5 (hR1.ext hE5) (hR2.ext hE5) (B 0) (by omega)
      have q38 := arePrices_wp hM5 (hR1.ext hE5) (hR2.ext hE5) (B 0) (by omega) hro (by omega) (by omega)
      have hT := (hIP.are hok hA (B 0)).2 rfl
      rw [decide_eq_true hT] at q40 q38
      try simp only [wpK_assoc]
      refine wpK_reg (fun R hR => by
        simp [h3, h7, h8, h9, h10, h11, h12, aEnter, fun29, short_other, aCallV]; rw [callS_none]
        refine q29.mono ?_
        rintro _ W9 ⟨e9, rfl⟩; subst W9
        simp [h3, h7, h8, h9, h10, h11, h12, aEnter, fun40, short_other, aCallV]; rw [callS_none]
        refine q40.mono ?_
        rintro _ W9 ⟨e9, rfl⟩; subst W9
        simp [h3, h7, h8, h9, h10, h11, h12, aEnter, fun38, short_other, aCallV]; rw [callS_none]
        refine q38.mono ?_
        rintro _ W9 ⟨e9, rfl⟩; subst W9
        simp; exact hR) ?_
      try simp only [wpK_assoc]
      first | refine wpK_onF (by simp []) ?_ | refine wpK_out (by simp []) ?_ | refine wpK_condF (by simp []) ?_ | refine wpK_endF (by simp []) (wpK_skip ?_) | refine wpK_endF (by simp []) ?_
      refine wpK_keep (fun tm' => tm'.get 0 = some (v) ∧ tm'.get 6 = some (.int .i64 (c : Int))) ⟨by simp [h0, h6], by simp [h0, h6]⟩ ?_
      rintro tm ⟨h0, h6⟩
      try simp only [wpK_assoc]
      refine wpK_y2 (fun R hR => by
          simp [h0, aEnter, fun41, short_other, aCallV]; rw [callS_none]
          refine (hE41 W5 (hE34.trans hE5)).mono ?_
          rintro u2 W2 ⟨hE2, own2, hM2, hok2, hle2⟩
          simp [h0]; exact hR u2 own2 W2 (And.intro hE2 (And.intro hM2 (And.intro hok2 hle2)))) ?_
      rintro u2 own2 W2 ⟨hE2, hM2, hok2, hle2⟩
      simp only [leaves_normal, behind_normal]
      refine wpK_keep (fun tm' => tm'.get 0 = some (v) ∧ tm'.get 3 = some (u2) ∧ tm'.get 6 = some (.int .i64 (c : Int))) ⟨by simp [h0, h6], by simp [h0, h6], by simp [h0, h6]⟩ ?_
      rintro tm ⟨h0, h3, h6⟩
      try simp only [wpK_assoc]
      refine wpK_reg1 (fun R hR => by simp [h6]; exact hR) ?_
      exact hI (2 - (c + 1)) _ _ (by omega) ⟨rfl, rfl, by simp [h0], (hEa.trans (hE34.trans hE5)).trans hE2, c + 1, u2, own2, by simp [i64_succ c (by omega)], by simp [h3], rfl, by omega, by omega, fun r hr => by rw [hok2.2.2.1 r hr]; omega, hM2⟩
    · have hn6' : ¬ (n : Int) ≤ 6 := by omega
      try simp only [wpK_assoc]
      refine wpK_reg (fun R hR => by simp [h3, lt, hn6']; exact hR) ?_
      try simp only [wpK_assoc]
      first | refine wpK_onF (by simp [hn6]) ?_ | refine wpK_out (by simp [hn6]) ?_ | refine wpK_condF (by simp [hn6]) ?_ | refine wpK_endF (by simp [hn6]) (wpK_skip ?_) | refine wpK_endF (by simp [hn6]) ?_
      have q40 := refPrices_wp hM4 hR1 hR2 (B 0) (by omega)
      rw [decide_eq_true ((hIP.are hok hA (B 0)).2 rfl)] at q40
      try simp only [wpK_assoc]
      refine wpK_reg (fun R hR => by
          simp [h3, h8, h9, h10, h11, h12, aEnter, fun40, short_other, aCallV]; rw [callS_none]
          refine (q40).mono ?_
          rintro _ W9 ⟨e9, rfl⟩; subst W9
          simp [h3, h8, h9, h10, h11, h12]; exact hR) ?_
      try simp only [wpK_assoc]
      first | refine wpK_onF (by simp []) ?_ | refine wpK_out (by simp []) ?_ | refine wpK_condF (by simp []) ?_ | refine wpK_endF (by simp []) (wpK_skip ?_) | refine wpK_endF (by simp []) ?_
      refine wpK_keep (fun tm' => tm'.get 0 = some (v) ∧ tm'.get 6 = some (.int .i64 (c : Int))) ⟨by simp [h0, h6], by simp [h0, h6]⟩ ?_
      rintro tm ⟨h0, h6⟩
      try simp only [wpK_assoc]
      refine wpK_y2 (fun R hR => by
          simp [h0, aEnter, fun41, short_other, aCallV]; rw [callS_none]
          refine (hE41 W4 hE34).mono ?_
          rintro u2 W2 ⟨hE2, own2, hM2, hok2, hle2⟩
          simp [h0]; exact hR u2 own2 W2 (And.intro hE2 (And.intro hM2 (And.intro hok2 hle2)))) ?_
      rintro u2 own2 W2 ⟨hE2, hM2, hok2, hle2⟩
      simp only [leaves_normal, behind_normal]
      refine wpK_keep (fun tm' => tm'.get 0 = some (v) ∧ tm'.get 3 = some (u2) ∧ tm'.get 6 = some (.int .i64 (c : Int))) ⟨by simp [h0, h6], by simp [h0, h6], by simp [h0, h6]⟩ ?_
      rintro tm ⟨h0, h3, h6⟩
      try simp only [wpK_assoc]
      refine wpK_reg1 (fun R hR => by simp [h6]; exact hR) ?_
      exact hI (2 - (c + 1)) _ _ (by omega) ⟨rfl, rfl, by simp [h0], (hEa.trans hE34).trans hE2, c + 1, u2, own2, by simp [i64_succ c (by omega)], by simp [h3], rfl, by omega, by omega, fun r hr => by rw [hok2.2.2.1 r hr]; omega, hM2⟩
  · rintro A' W' hf; exact hf.elim
  · rintro ⟨tm, n, ds⟩ Wz ⟨hn, hd, h0, hEz⟩
    simp only at hn hd h0
    subst hn; subst hd
    have htbz := tabs_ext htb hW0 hEz
    try simp only [wpK_assoc]
    refine wpK_reg (fun R hR => by simp [short_awake, htbz, aEnter, aCallV, fun16]; exact hR) ?_
    exact wpK_ret ⟨.inr rfl, rfl, [.bool true], by simp, rfl⟩

end Go.Proofs.YtdpnplanohgecaaDoor
