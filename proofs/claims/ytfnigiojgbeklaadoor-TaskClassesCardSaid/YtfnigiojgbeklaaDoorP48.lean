import Derived.Test.YtfnigiojgbeklaaDoorP47
set_option linter.unusedSimpArgs false
set_option linter.unusedVariables false
set_option linter.unusedSectionVars false
open Go Go.Eng
namespace Go.Proofs.YtfnigiojgbeklaaDoor
attribute [local congr] undef_congr WpK.congr WpS.congr WpL.congr WpC.congr WpF.congr gotS.congr callS.congr nextS.congr wantS.congr condS.congr
attribute [local irreducible] WpK
attribute [local simp] WpDr_nil WpDr_cons atS_some dwantS_true dwantS_false kindS_light kindS_float kindS_heavy lightS_value floatS_some heavyS_value heavyS_skip heavyS_enter dcallS_some doneS_eq
  isLight isFloat isPlain dLook testBit_dec dChain dLights_nil dLights_skip dLights_one dLight_nil dLight_cons dFreshes_nil dFreshes_one oneF_none oneF_some dFresh_nil dFresh_cons oneL_some oneW_true oneW_false sameV_value dPut dMay valEq arrEq listEq List.getElem?_cons Tr.get_nil dEnd
attribute [local simp] WpS_nil WpS_cons isDefer undef_false wantS_true wantS_false nextS_value nextS_skip nextS_enter callS_some gotS_some aWanted aOp aEvalF aEval opMove opAssign opPick aVal flat flat1 AAct.put opBinOp opConvert opIndex Tr.get_set Tr.get_lay aBin aResults tupled
  aCall aVals aCallB blt_dec ble_dec beq_dec aBinI_add aBinI_sub aBinI_lss aBinI_leq aBinI_gtr aBinI_geq aBinI_eql aBinI_neq index_str len_str len_slice Nat.beq_refl Nat.beq_refl
  opBox opLoad opFieldAddr opIndexAddr acells aAddr opExtract aExtract opUnOp opAlloc opStore opMakeInterface opNilCheck opBuild aParts opBuildSlice aValW
attribute [local simp] und2 und3 und4 und5 und9 und12 und13 und21 und22 und23 und24 und26 und27 und28 und30 und31 und34 und40 und43 und48 und49 und50 und54 und70 und71 und72 und79 und81 und86 und88 und89 und94 und99 und108 und109 und110 und118 und119 und120 und121 und123 und134 und143 und144 und145 und146 und148 und149 und150 und153 und154 und155 und157 und165 und167 und168 und178 und179 und187 und188 und189 und190 und191 und192 und193 und199 und214 und218 field13_0 field13_1 field23_0 field23_1 field24_0 field24_1 field27_0 field27_1 field28_0 field28_1 field49_0 field49_1 field49_2 field50_0 field50_1 field50_2 field70_0 field70_1 field70_2 field71_0 field71_1 field71_2 field72_0 field72_1 field72_2 field108_0 field108_1 field108_2 field109_0 field109_1 field109_2 field120_0 field120_1 field121_0 field121_1 field145_0 field145_1 field145_2 field146_0 field146_1 field146_2 field154_0 field154_1 field155_0 field155_1 field178_0 field178_1 field178_2 field178_3 field179_0 field179_1 field179_2 field179_3 field188_0 field188_1 field189_0 field189_1
set_option maxHeartbeats 4000000
set_option linter.unusedSimpArgs false
set_option linter.unusedVariables false
theorem chartAll_wp {W : AW} {c n : Nat} {to : Nat → Nat → Nat} (h : ChartAt W c n to) (hn : n < 64) : WpF T0 69 [.pointer (some ⟨c, 0, none⟩)] W (fun u W' => W' = W ∧ u = .int .u64 ((2 ^ n - 1 : Nat) : Int)) := by
  refine wpF fun69 rfl ?_
  have l0 := chart_n h
  have hb := below_wp n hn W
  generalize 2 ^ n - 1 = x at hb
  try simp only [wpK_assoc]
  refine wpK_reg (fun R hR => by simp []; exact hR) ?_
  try simp only [wpK_assoc]
  refine wpK_reg (fun R hR => by
      simp [l0, aEnter, fun85, short_other, aCallV]; rw [callS_none]
      refine (hb).mono ?_
      rintro _ W9 ⟨e9, rfl⟩; subst W9
      simp [l0]; exact hR) ?_
  exact wpK_ret ⟨.inr rfl, rfl, [.int .u64 (x : Int)], by simp, rfl, rfl⟩
def befS (f : Nat → Nat) (s : Nat) : Nat → Nat
  | 0 => 0
  | p + 1 => if f p &&& s ≠ 0 then befS f s p ||| 1 <<< p else befS f s p
theorem befS_bit (f : Nat → Nat) (s q : Nat) : ∀ p, (befS f s p).testBit q = decide (q < p ∧ f q &&& s ≠ 0)
  | 0 => by simp [befS]
  | p + 1 => by
    have ih := befS_bit f s q p
    rw [Bool.eq_iff_iff] at ih ⊢
    simp only [decide_eq_true_eq] at ih ⊢
    unfold befS
    by_cases h : f p &&& s ≠ 0
    · rw [if_pos h, Nat.testBit_or, bit_one, Bool.or_eq_true, ih, decide_eq_true_eq]
      constructor
      · rintro (⟨h1, h2⟩ | h1)
        · exact ⟨by omega, h2⟩
        · exact ⟨by omega, by have : q = p := by omega
                              rw [this]; exact h⟩
      · rintro ⟨h1, h2⟩
        by_cases e : q = p
        · exact .inr (by omega)
        · exact .inl ⟨by omega, h2⟩
    · rw [if_neg h, ih]
      constructor
      · rintro ⟨h1, h2⟩; exact ⟨by omega, h2⟩
      · rintro ⟨h1, h2⟩
        by_cases e : q = p
        · rw [e] at h2; exact absurd h2 h
        · exact ⟨by omega, h2⟩
theorem befS_lt (f : Nat → Nat) (s : Nat) : ∀ p, befS f s p < 2 ^ p
  | 0 => by simp [befS]
  | p + 1 => by
    have ih := befS_lt f s p
    have h2 : 2 ^ p < 2 ^ (p + 1) := Nat.pow_lt_pow_right (by omega) (by omega)
    unfold befS
    split
    · exact Nat.or_lt_two_pow (by omega) (by rw [Nat.one_shiftLeft]; exact h2)
    · omega
theorem before_wp {W : AW} {c n a s : Nat} {to : Nat → Nat → Nat} (h : ChartAt W c n to) (hn : n < 64) (ha : a < 10) (hto : ∀ p, to a p < 18446744073709551616) (hs : s < 18446744073709551616) :
    WpF T0 71 [.pointer (some ⟨c, 0, none⟩), .int .i64 (a : Int), .int .u64 (s : Nat)] W (fun v W' => W' = W ∧ v = .int .u64 (befS (to a) s n : Nat)) := by
  refine wpF fun71 rfl ?_
  have l0 := chart_n h
  try simp only [wpK_assoc]
  refine wpK_reg (fun R hR => by simp []; exact hR) ?_
  try simp only [wpK_assoc]
  refine wpK_reg (fun R hR => by simp []; exact hR) ?_
  try simp only [wpK_assoc]
  refine wpK_reg (fun R hR => by simp [l0]; exact hR) ?_
  refine wpK_keep (fun tm' => tm'.get 0 = some (.pointer (some ⟨c, 0, none⟩)) ∧ tm'.get 1 = some (.int .i64 (a : Int)) ∧ tm'.get 2 = some (.int .u64 (s : Nat)) ∧ tm'.get 12 = some (.int .i64 (n : Int)) ∧ tm'.get 7 = some (.int .u64 ((0 : Nat) : Int)) ∧ tm'.get 13 = some (.int .i64 0)) ⟨by simp, by simp, by simp, by simp, by simp, by simp⟩ ?_
  rintro tm ⟨h0, h1, h2, h12, h7, h13⟩
  try simp only [wpK_assoc]
  refine wpK_while (I := fun q A' W' => A'.n = 33 ∧ A'.defers = [] ∧ A'.tmps.get 0 = some (.pointer (some ⟨c, 0, none⟩)) ∧ A'.tmps.get 1 = some (.int .i64 (a : Int)) ∧ A'.tmps.get 2 = some (.int .u64 (s : Nat)) ∧ A'.tmps.get 12 = some (.int .i64 (n : Int)) ∧ W' = W ∧ ∃ (i : Nat), A'.tmps.get 13 = some (.int .i64 (i : Int)) ∧ A'.tmps.get 7 = some (.int .u64 (befS (to a) s i : Nat)) ∧ q = n - i ∧ i ≤ n)
    (J := fun A' W' => A'.n = 33 ∧ A'.defers = [] ∧ A'.tmps.get 0 = some (.pointer (some ⟨c, 0, none⟩)) ∧ A'.tmps.get 1 = some (.int .i64 (a : Int)) ∧ A'.tmps.get 2 = some (.int .u64 (s : Nat)) ∧ A'.tmps.get 12 = some (.int .i64 (n : Int)) ∧ W' = W ∧ A'.tmps.get 7 = some (.int .u64 (befS (to a) s n : Nat))) (Rt := fun _ _ => False) (k := n) ?_ ?_ ?_ ?_
  · exact ⟨rfl, rfl, by simp [h0, h1, h2, h12], by simp [h0, h1, h2, h12], by simp [h0, h1, h2, h12], by simp [h0, h1, h2, h12], rfl, 0, by simp [h13], by simp [h7, befS], rfl, by omega⟩
  · rintro q ⟨tm, n, ds⟩ Wa ⟨hn, hd, h0, h1, h2, h12, hw, i, h13, h7, hq, hil⟩ Q' hJ' hRt hI
    simp only at hn hd h0 h1 h2 h12
    subst hn; subst hd
    simp only at h13 h7
    rw [hw]
    by_cases hlt : i < n
    case neg =>
      have hlt' : ¬ (i : Int) < n := by omega
      have e : i = n := by omega
      rw [e] at h7
      try simp only [wpK_assoc]
      refine wpK_reg (fun R hR => by simp [h12, h13, hlt']; exact hR) ?_
      try simp only [wpK_assoc]
      first | refine wpK_onF (by simp [hlt]) ?_ | refine wpK_out (by simp [hlt]) ?_ | refine wpK_condF (by simp [hlt]) ?_ | refine wpK_endF (by simp [hlt]) (wpK_skip ?_) | refine wpK_endF (by simp [hlt]) ?_
      exact hJ' _ _ ⟨rfl, rfl, by simp [h0, h1, h2, h12], by simp [h0, h1, h2, h12], by simp [h0, h1, h2, h12], by simp [h0, h1, h2, h12], rfl, by simp [h7]⟩
    have hlt' : (i : Int) < n := by omega
    try simp only [wpK_assoc]
    refine wpK_reg (fun R hR => by simp [h12, h13, hlt']; exact hR) ?_
    try simp only [wpK_assoc]
    first | refine wpK_onT (by simp [hlt]) ?_ | refine wpK_outT (by simp [hlt]) ?_ | refine wpK_condT (by simp [hlt]) ?_ | refine wpK_endT (by simp [hlt]) ?_
    have i1 := fun o => ix119 c o a ha
    have i2 := fun o => ix118 c o i (by omega)
    have lt := chart_to h (a := a) (p := i) ha (by omega)
    rw [show 1 + (a * 64 + i) = 1 + a * 64 + i from by omega] at lt
    have hand := aBinI_and .u64 (to a i) s (hto i) hs
    have hbl := befS_lt (to a) s i
    have hp64 : ∀ j, j < 64 → 2 ^ j < 18446744073709551616 := fun j hj => by show 2 ^ j < 2 ^ 64; exact Nat.pow_lt_pow_right (by omega) hj
    have hb64 : befS (to a) s i < 18446744073709551616 := Nat.lt_trans hbl (hp64 i (by omega))
    have hor := aBinI_or .u64 (befS (to a) s i) (1 <<< i) hb64 (by rw [Nat.one_shiftLeft]; exact hp64 i (by omega))
    have hst : befS (to a) s (i + 1) = if to a i &&& s ≠ 0 then befS (to a) s i ||| 1 <<< i else befS (to a) s i := rfl
    have hone := one_wp i (by omega) W
    have w1 := i64_succ i (by omega)
    refine wpK_block ?_
    try simp only [wpK_assoc]
    refine wpK_reg (fun R hR => by simp [h13]; exact hR) ?_
    generalize hx : to a i &&& s = x at hand hst
    by_cases hx0 : x = 0
    · have hx1 : (x : Int) = 0 := by omega
      rw [if_neg (by simpa using hx0)] at hst
      rw [← hst] at h7
      try simp only [wpK_assoc]
      refine wpK_reg (fun R hR => by simp [h0, h1, h2, i1, i2, lt, hand, hx1]; exact hR) ?_
      try simp only [wpK_assoc]
      first | refine wpK_onF (by simp []) ?_ | refine wpK_out (by simp []) ?_ | refine wpK_condF (by simp []) ?_ | refine wpK_endF (by simp []) (wpK_skip ?_) | refine wpK_endF (by simp []) ?_
      simp only [leaves_normal, behind_normal]
      try simp only [wpK_assoc]
      refine wpK_reg1 (fun R hR => by simp [h13, w1]; exact hR) ?_
      exact hI (n - (i + 1)) _ _ (by omega) ⟨rfl, rfl, by simp [h0, h1, h2, h12], by simp [h0, h1, h2, h12], by simp [h0, h1, h2, h12], by simp [h0, h1, h2, h12], rfl, i + 1, by simp, by simp [h7], rfl, by omega⟩
    · have hx1 : ¬ (x : Int) = 0 := by omega
      rw [if_pos hx0] at hst
      try simp only [wpK_assoc]
      refine wpK_reg (fun R hR => by simp [h0, h1, h2, i1, i2, lt, hand, hx1]; exact hR) ?_
      try simp only [wpK_assoc]
      first | refine wpK_onT (by simp [hx1, hx0]) ?_ | refine wpK_outT (by simp [hx1, hx0]) ?_ | refine wpK_condT (by simp [hx1, hx0]) ?_ | refine wpK_endT (by simp [hx1, hx0]) ?_
      rw [← hst] at hor
      obtain ⟨y, hy⟩ : ∃ y, y = befS (to a) s (i + 1) := ⟨_, rfl⟩
      rw [← hy] at hor
      generalize 1 <<< i = o at hone hor
      try simp only [wpK_assoc]
      refine wpK_reg1 (fun R hR => by
        simp [h7, aEnter, fun49, short_other, aCallV]; rw [callS_none]
        refine (hone).mono ?_
        rintro _ W9 ⟨e9, rfl⟩; subst W9
        simp [h7, hor]; exact hR) ?_
      simp only [leaves_normal, behind_normal]
      try simp only [wpK_assoc]
      refine wpK_reg1 (fun R hR => by simp [h13, w1]; exact hR) ?_
      exact hI (n - (i + 1)) _ _ (by omega) ⟨rfl, rfl, by simp [h0, h1, h2, h12], by simp [h0, h1, h2, h12], by simp [h0, h1, h2, h12], by simp [h0, h1, h2, h12], rfl, i + 1, by simp, by simp [← hy], rfl, by omega⟩
  · rintro A' W' hf; exact hf.elim
  · rintro ⟨tm, n, ds⟩ Wz ⟨hn, hd, h0, h1, h2, h12, hw, h7⟩
    simp only at hn hd h0 h1 h2 h12
    subst hn; subst hd
    simp only at h7
    try simp only [wpK_assoc]
    refine wpK_reg (fun R hR => by simp [h7]; exact hR) ?_
    exact wpK_ret ⟨.inr rfl, rfl, [.int .u64 (befS (to a) s n : Nat)], by simp, hw, rfl⟩
open Classical in
theorem same_wp {W : AW} {b1 b2 n : Nat} {g1 g2 : Nat → Int} (h1 : NumsAt W b1 n g1) (h2 : NumsAt W b2 n g2) (hn : n ≤ 64) :
    WpF T0 16 [rowV b1 n, rowV b2 n] W (fun v W' => W' = W ∧ v = .bool (decide (∀ j, j < n → g1 j = g2 j))) := by
  refine wpF fun16 rfl ?_
  have ll : ∀ b, aLen T0 W 30 (rowV b n) = some (.int .i64 n) := fun b => len_slice und30 _ _ _
  have l1 := ll b1
  have l2 := ll b2
  have x1 : ∀ {j}, j < n → aIndexAddr T0 30 (rowV b1 n) (.int .i64 (j : Int)) = some (.pointer (some ⟨b1, j, none⟩)) := fun h => ix30 h
  have x2 : ∀ {j}, j < n → aIndexAddr T0 30 (rowV b2 n) (.int .i64 (j : Int)) = some (.pointer (some ⟨b2, j, none⟩)) := fun h => ix30 h
  have e1 := rowV_eq b1 n
  have e2 := rowV_eq b2 n
  generalize rowV b1 n = v1 at *
  generalize rowV b2 n = v2 at *
  try simp only [wpK_assoc]
  refine wpK_reg (fun R hR => by simp []; exact hR) ?_
  try simp only [wpK_assoc]
  refine wpK_reg (fun R hR => by simp [l1, l2]; exact hR) ?_
  try simp only [wpK_assoc]
  first | refine wpK_onF (by simp []) ?_ | refine wpK_out (by simp []) ?_ | refine wpK_condF (by simp []) ?_ | refine wpK_endF (by simp []) (wpK_skip ?_) | refine wpK_endF (by simp []) ?_
  try simp only [wpK_assoc]
  refine wpK_reg (fun R hR => by simp []; exact hR) ?_
  refine wpK_keep (fun tm' => tm'.get 0 = some (v1) ∧ tm'.get 1 = some (v2) ∧ tm'.get 5 = some (.int .i64 0)) ⟨by simp, by simp, by simp⟩ ?_
  rintro tm ⟨h0, h1, h5⟩
  try simp only [wpK_assoc]
  refine wpK_while (I := fun q A' W' => A'.n = 26 ∧ A'.defers = [] ∧ A'.tmps.get 0 = some (v1) ∧ A'.tmps.get 1 = some (v2) ∧ W' = W ∧ ∃ (i : Nat), A'.tmps.get 5 = some (.int .i64 (i : Int)) ∧ q = n - i ∧ i ≤ n ∧ ∀ j, j < i → g1 j = g2 j)
    (J := fun A' W' => A'.n = 26 ∧ A'.defers = [] ∧ A'.tmps.get 0 = some (v1) ∧ A'.tmps.get 1 = some (v2) ∧ W' = W ∧ ∀ j, j < n → g1 j = g2 j) (Rt := fun A' W' => A'.defers = [] ∧ W' = W ∧ A'.tmps.get 4 = some (.bool false) ∧ ¬ ∀ j, j < n → g1 j = g2 j) (k := n) ?_ ?_ ?_ ?_
  · exact ⟨rfl, rfl, by simp [h0, h1], by simp [h0, h1], rfl, 0, by simp [h5], rfl, by omega, fun j hj => by omega⟩
  · rintro q ⟨tm, n, ds⟩ Wa ⟨hn, hd, h0, h1, hw, i, h5, hq, hil, hall⟩ Q' hJ' hRt hI
    simp only at hn hd h0 h1
    subst hn; subst hd
    simp only at h5
    rw [hw]
    by_cases hlt : i < n
    case neg =>
      have hlt' : ¬ (i : Int) < n := by omega
      have e : i = n := by omega
      rw [e] at hall
      try simp only [wpK_assoc]
      refine wpK_reg (fun R hR => by simp [h0, h5, l1, hlt']; exact hR) ?_
      try simp only [wpK_assoc]
      first | refine wpK_onF (by simp [hlt]) ?_ | refine wpK_out (by simp [hlt]) ?_ | refine wpK_condF (by simp [hlt]) ?_ | refine wpK_endF (by simp [hlt]) (wpK_skip ?_) | refine wpK_endF (by simp [hlt]) ?_
      exact hJ' _ _ ⟨rfl, rfl, by simp [h0, h1], by simp [h0, h1], rfl, hall⟩
    have hlt' : (i : Int) < n := by omega
    try simp only [wpK_assoc]
    refine wpK_reg (fun R hR => by simp [h0, h5, l1, hlt']; exact hR) ?_
    try simp only [wpK_assoc]
    first | refine wpK_onT (by simp [hlt]) ?_ | refine wpK_outT (by simp [hlt]) ?_ | refine wpK_condT (by simp [hlt]) ?_ | refine wpK_endT (by simp [hlt]) ?_
    have y1 := x1 hlt
    have y2 := x2 hlt
    have m1 := NumsAt.load ‹NumsAt W b1 n g1› hlt
    have m2 := NumsAt.load ‹NumsAt W b2 n g2› hlt
    refine wpK_block ?_
    by_cases he : g1 i = g2 i
    · try simp only [wpK_assoc]
      refine wpK_dn (wr := Tr.nil |>.set 17 0 |>.set 18 1 |>.set 19 2 |>.set 20 3 |>.set 21 4 |>.set 22 5 |>.set 23 6 |>.set 24 7 |>.set 25 8) (bits := Tr.nil.lay 0 [0, 0, 3, 7, 0, 0, 48, 112, 255]) (ord := [0, 1, 2, 3, 4, 5, 6, 7, 8]) (by kernel_rfl) (by kernel_rfl) (by kernel_rfl) (fun G hG => by
        simp [h0, h1, h5, y1, y2, m1, m2, he, e1, e2]
        exact hG) ?_
      try simp only [wpK_assoc]
      first | refine wpK_onF (by simp [he]) ?_ | refine wpK_out (by simp [he]) ?_ | refine wpK_condF (by simp [he]) ?_ | refine wpK_endF (by simp [he]) (wpK_skip ?_) | refine wpK_endF (by simp [he]) ?_
      simp only [leaves_normal, behind_normal]
      try simp only [wpK_assoc]
      refine wpK_reg1 (fun R hR => by simp [h5]; exact hR) ?_
      exact hI (n - (i + 1)) _ _ (by omega) ⟨rfl, rfl, by simp [h0, h1], by simp [h0, h1], rfl, i + 1, by simp [i64_succ i (by omega)], rfl, by omega, fun j hj => by
        by_cases e : j = i
        · rw [e]; exact he
        · exact hall j (by omega)⟩
    · try simp only [wpK_assoc]
      refine wpK_dn (wr := Tr.nil |>.set 17 0 |>.set 18 1 |>.set 19 2 |>.set 20 3 |>.set 21 4 |>.set 22 5 |>.set 23 6 |>.set 24 7 |>.set 25 8) (bits := Tr.nil.lay 0 [0, 0, 3, 7, 0, 0, 48, 112, 255]) (ord := [0, 1, 2, 3, 4, 5, 6, 7, 8]) (by kernel_rfl) (by kernel_rfl) (by kernel_rfl) (fun G hG => by
        simp [h0, h1, h5, y1, y2, m1, m2, he, e1, e2]
        exact hG) ?_
      try simp only [wpK_assoc]
      first | refine wpK_onT (by simp [he]) ?_ | refine wpK_outT (by simp [he]) ?_ | refine wpK_condT (by simp [he]) ?_ | refine wpK_endT (by simp [he]) ?_
      try simp only [wpK_assoc]
      refine wpK_reg (fun R hR => by simp []; exact hR) ?_
      refine wpK_ret ?_
      exact hRt _ _ ⟨rfl, rfl, by simp, fun hh => he (hh i hlt)⟩
  · rintro A' W' ⟨hd, hw, h4, hne⟩
    exact ⟨.inr rfl, hd, [.bool false], by simp [h4], hw, by rw [decide_eq_false hne]; rfl⟩
  · rintro ⟨tm, n, ds⟩ Wz ⟨hn, hd, h0, h1, hw, hall⟩
    simp only at hn hd h0 h1
    subst hn; subst hd
    try simp only [wpK_assoc]
    refine wpK_reg (fun R hR => by simp []; exact hR) ?_
    exact wpK_ret ⟨.inr rfl, rfl, [.bool true], by simp, hw, by rw [decide_eq_true hall]; rfl⟩
end Go.Proofs.YtfnigiojgbeklaaDoor

open Go Go.Eng
namespace Go.Proofs.YtfnigiojgbeklaaDoor
attribute [local congr] undef_congr WpK.congr WpS.congr WpL.congr WpC.congr WpF.congr gotS.congr callS.congr nextS.congr wantS.congr condS.congr
attribute [local irreducible] WpK
attribute [local simp] WpDr_nil WpDr_cons atS_some dwantS_true dwantS_false kindS_light kindS_float kindS_heavy lightS_value floatS_some heavyS_value heavyS_skip heavyS_enter dcallS_some doneS_eq
  isLight isFloat isPlain dLook testBit_dec dChain dLights_nil dLights_skip dLights_one dLight_nil dLight_cons dFreshes_nil dFreshes_one oneF_none oneF_some dFresh_nil dFresh_cons oneL_some oneW_true oneW_false sameV_value dPut dMay valEq arrEq listEq List.getElem?_cons Tr.get_nil dEnd
attribute [local simp] WpS_nil WpS_cons isDefer undef_false wantS_true wantS_false nextS_value nextS_skip nextS_enter callS_some gotS_some aWanted aOp aEvalF aEval opMove opAssign opPick aVal flat flat1 AAct.put opBinOp opConvert opIndex Tr.get_set Tr.get_lay aBin aResults tupled
  aCall aVals aCallB blt_dec ble_dec beq_dec aBinI_add aBinI_sub aBinI_lss aBinI_leq aBinI_gtr aBinI_geq aBinI_eql aBinI_neq index_str len_str len_slice Nat.beq_refl Nat.beq_refl
  opBox opLoad opFieldAddr opIndexAddr acells aAddr opExtract aExtract opUnOp opAlloc opStore opMakeInterface opNilCheck opBuild aParts opBuildSlice aValW
attribute [local simp] und2 und3 und4 und5 und9 und12 und13 und21 und22 und23 und24 und26 und27 und28 und30 und31 und34 und40 und43 und48 und49 und50 und54 und70 und71 und72 und79 und81 und86 und88 und89 und94 und99 und108 und109 und110 und118 und119 und120 und121 und123 und134 und143 und144 und145 und146 und148 und149 und150 und153 und154 und155 und157 und165 und167 und168 und178 und179 und187 und188 und189 und190 und191 und192 und193 und199 und214 und218 field13_0 field13_1 field23_0 field23_1 field24_0 field24_1 field27_0 field27_1 field28_0 field28_1 field49_0 field49_1 field49_2 field50_0 field50_1 field50_2 field70_0 field70_1 field70_2 field71_0 field71_1 field71_2 field72_0 field72_1 field72_2 field108_0 field108_1 field108_2 field109_0 field109_1 field109_2 field120_0 field120_1 field121_0 field121_1 field145_0 field145_1 field145_2 field146_0 field146_1 field146_2 field154_0 field154_1 field155_0 field155_1 field178_0 field178_1 field178_2 field178_3 field179_0 field179_1 field179_2 field179_3 field188_0 field188_1 field189_0 field189_1
set_option maxHeartbeats 4000000
set_option linter.unusedSimpArgs false
set_option linter.unusedVariables false
theorem after_wp {W : AW} {c n a s : Nat} {to : Nat → Nat → Nat} (h : ChartAt W c n to) (hT : tabsIn T0 T0.tabs W = true) (h0 : 0 < W.next) (ha : a < 10) (hn : n < 64) (hto : ∀ p, to a p < 2 ^ n) (hs : s < 18446744073709551616) :
    WpF T0 68 [.pointer (some ⟨c, 0, none⟩), .int .i64 (a : Int), .int .u64 (s : Nat)] W (fun v W' => Ext W W' ∧ ∃ x : Nat, v = .int .u64 (x : Nat) ∧ x < 2 ^ n ∧ ∀ t, x.testBit t = true ↔ ∃ p, s.testBit p = true ∧ (to a p).testBit t = true) := by
  refine wpFd fun68 rfl ?_
  obtain ⟨W1, hW1, hE1, hn1, v3, v4⟩ : ∃ W1, W1 = (W.newCells 81 [.pointer (some ⟨c, 0, none⟩)]).newCells 3 [.int .i64 (a : Int)] ∧ Ext W W1 ∧ W1.next = W.next + 2 ∧ Var W1 W.next 81 [.pointer (some ⟨c, 0, none⟩)] ∧ Var W1 (W.next + 1) 3 [.int .i64 (a : Int)] :=
    ⟨_, rfl, (Only.newCells _ _ _).trans (Only.newCells _ _ _), rfl, (Var.new _ _ _).ext (.newCells _ _ _), Var.new _ _ _⟩
  try simp only [wpK_assoc]
  refine wpK_reg (fun R hR => by simp [newCells_next, ← hW1]; exact hR) ?_
  obtain ⟨W1b, s1, s2, s3, s4⟩ := storeVar_new (T := T0) (W := W1) (t := 89) (z := [.int .u64 0]) (v := .int .u64 ((0 : Nat) : Int)) inf89 (by rw [is89]; rfl) (by rw [is89]; rfl) rfl
  have s4 : Var W1b W1.next 89 [.int .u64 ((0 : Nat) : Int)] := s4
  have s1 : aStoreVar T0 (W1.newCells 89 [.int .u64 0]) 89 W1.next 0 (.int .u64 0) = some W1b := s1
  try simp only [wpK_assoc]
  refine wpK_reg (fun R hR => by simp [zero89, s1]; exact hR) ?_
  try simp only [wpK_assoc]
  refine wpK_x0 (fun R hR => by
      simp [aEnter, fun40, short_other, aCallV]; rw [callS_none]
      refine (places_wp s).mono ?_
      rintro _ W2 ⟨hE2, rfl, hB2⟩
      simp []; exact hR W2 (And.intro hE2 hB2)) ?_
  rintro W2 ⟨hE2, hB2⟩
  obtain ⟨lo, hlo⟩ : ∃ lo, lo = W1.next := ⟨_, rfl⟩
  rw [← hlo] at s4 hn1
  refine wpK_keep (fun tm' => tm'.get 3 = some (.pointer (some ⟨W.next, 0, none⟩)) ∧ tm'.get 4 = some (.pointer (some ⟨W.next + 1, 0, none⟩)) ∧ tm'.get 7 = some (.pointer (some ⟨lo, 0, none⟩)) ∧ tm'.get 10 = some (.func (.func 72) ⟨[]⟩ ⟨[.pointer (some ⟨W1b.next, 0, none⟩)]⟩)) ⟨by simp [hlo], by simp [hlo], by simp [hlo], by simp [hlo]⟩ ?_
  rintro tm ⟨h3, h4, h7, h10⟩
  have n2 := hE2.1
  have nb := s3.1
  refine wpK_range2 (f := 72) (first := ⟨[]⟩) (cap := ⟨[.pointer (some ⟨W1b.next, 0, none⟩)]⟩) (by simp [h10]) fun72 (fun W5 hn5 hW5 hdf hlp => ?_)
  have hE25 : Ext W2 W5 := ⟨by omega, fun b hb _ => hW5 b hb⟩
  have hE15 : Ext W1 W5 := (s3.trans hE2).trans hE25
  have hV5 := (s4.ext hE2).ext hE25
  have hE5 : Ext W W5 := hE1.trans hE15
  have p64 : 2 ^ n < 18446744073709551616 := by show 2 ^ n < 2 ^ 64; exact Nat.pow_lt_pow_right (by omega) hn
  refine (places1_wp (l := W2.next + 1) (bx := W1b.next) (x := s) (fun left W' => Ext W W' ∧ W5.next ≤ W'.next ∧ W'.blocks.get (W2.next + 1) = W5.blocks.get (W2.next + 1) ∧ W'.blocks.get W2.next = W5.blocks.get W2.next ∧ Var W' W.next 81 [.pointer (some ⟨c, 0, none⟩)] ∧ Var W' (W.next + 1) 3 [.int .i64 (a : Int)] ∧
    ∃ x : Nat, Var W' lo 89 [.int .u64 (x : Nat)] ∧ x < 2 ^ n ∧ (∀ p, left.testBit p = true → s.testBit p = true) ∧ ∀ t, x.testBit t = true ↔ ∃ p, s.testBit p = true ∧ left.testBit p = false ∧ (to a p).testBit t = true) hs (fun left k W' hC hl hb1 hb2 => ?_)
    ⟨hE5, Nat.le_refl _, rfl, rfl, v3.ext hE15, v4.ext hE15, 0, hV5, Nat.two_pow_pos n, fun p hp => hp, fun t => by
      simp only [Nat.zero_testBit]
      constructor
      · intro hf; cases hf
      · rintro ⟨p, h1, h2, _⟩; rw [h1] at h2; cases h2⟩ (hB2.ext hE25)).mono ?_
  · obtain ⟨c1, c2, c3, c4, c5, c6, x, c7, c8, c9, c10⟩ := hC
    have hl := c3.trans hlp
    have hk64 : k < 64 := by
      apply Classical.byContradiction
      intro hk
      rw [Nat.testBit_lt_two_pow (Nat.lt_of_lt_of_le (show left < 2 ^ 64 by assumption) (Nat.pow_le_pow_right (by omega) (by omega)))] at hb1
      cases hb1
    refine ⟨tabs_ext hT h0 c1, _, _, _, _, _, _, _, _, _, _, tm.set 11 (.int .i64 (k : Nat)), hl, rfl, ?_⟩
    refine wpR ?_
    try simp only [wpK_assoc]
    refine wpK_reg1 (fun R hR => by simp []; exact hR) ?_
    refine ⟨rfl, _, _, _, _, _, _, _, _, hl, ?_⟩
    generalize hbz : (AObj.loop LoopState.busy _ _ _ _ _ _ _ _) = bz
    obtain ⟨Wb, hWb, hOb, hnb⟩ : ∃ Wb, Wb = W'.setObj (W2.next + 1) bz ∧ Only (fun b => b = W2.next + 1) W' Wb ∧ Wb.next = W'.next := ⟨_, rfl, setObj_only _ _ _, rfl⟩
    rw [← hWb]
    have hlb : Wb.blocks.get (W2.next + 1) = some ⟨bz, []⟩ := by rw [hWb, setObj_get, if_pos rfl]
    have c5b := c5.only hOb (by omega)
    have c6b := c6.only hOb (by omega)
    have c7b := c7.only hOb (by omega)
    have hcl := h.1
    have hcb := (h.ext c1).only hOb (by omega)
    have e3 := c5b.load1 (T := T0) und81 rfl (j := 0) (v := .pointer (some ⟨c, 0, none⟩)) rfl
    have e4 := c6b.load1 (T := T0) und3 rfl (j := 0) (v := .int .i64 (a : Int)) rfl
    have e7 := c7b.load1 (T := T0) und89 rfl (j := 0) (v := .int .u64 (x : Nat)) rfl
    have e8 := chart_to hcb (a := a) (p := k) ha hk64
    rw [show 1 + (a * 64 + k) = 1 + a * 64 + k from by omega] at e8
    have i1 := fun o => ix119 c o a ha
    have i2 := fun o => ix118 c o k hk64
    have hor := aBinI_or .u64 x (to a k) (Nat.lt_trans c8 p64) (Nat.lt_trans (hto k) p64)
    obtain ⟨y, hy⟩ : ∃ y, y = x ||| to a k := ⟨_, rfl⟩
    rw [← hy] at hor
    obtain ⟨Wd, a1, a2, a3, a4⟩ := c7b.store (T := T0) (t := 89) (v := .int .u64 (y : Nat)) (o := 0) inf89 (by rw [is89]; rfl) (by simp) rfl
    have a4 : Var Wd lo 89 [.int .u64 (y : Nat)] := by simpa using a4
    refine wpK_block1 ?_
    try simp only [wpK_assoc]
    refine wpK_qn (wr := Tr.nil |>.set 12 0 |>.set 13 1 |>.set 14 2 |>.set 15 3 |>.set 16 4 |>.set 17 5 |>.set 18 6 |>.set 19 7 |>.set 20 8 |>.set 21 9) (bits := Tr.nil.lay 0 [0, 0, 0, 0, 2, 18, 54, 126, 254, 511, 1023]) (ord := [0, 1, 2, 3, 4, 5, 6, 7, 8, 9, 10]) (by kernel_rfl) (by kernel_rfl) (by kernel_rfl) (fun G hG => by
      simp [h3, h4, h7, e3, e4, e7, e8, i1, i2, hor, a1, a3.1]
      exact hG) ?_
    simp only [leaves_normal]
    have hdl : Wd.blocks.get (W2.next + 1) = some ⟨bz, []⟩ := by rw [a3.2 _ (by omega) (by omega)]; exact hlb
    subst hbz
    refine ⟨_, _, _, _, _, _, _, _, _, hdl, rfl, ?_⟩
    have hOz := fun o => setObj_only Wd (W2.next + 1) o
    refine ⟨⟨by rw [setObj_next]; have := c1.1; have := a3.1; omega, fun b hb hk => ?_⟩, by rw [setObj_next]; have := a3.1; omega, by rw [setObj_get, if_pos rfl]; exact hlp.symm, ?_, (c5b.only a3 (by omega)).only (hOz _) (by omega), (c6b.only a3 (by omega)).only (hOz _) (by omega), y, a4.only (hOz _) (by omega), ?_, ?_, ?_⟩
    · rw [setObj_get, if_neg (by omega), a3.2 b (by have := c1.1; omega) (by omega), hOb.2 b (by have := c1.1; omega) (by omega)]
      exact c1.2 b hb hk
    · rw [setObj_get, if_neg (by omega), a3.2 _ (by omega) (by omega), hOb.2 _ (by omega) (by omega)]; exact c4
    · rw [hy]; exact Nat.or_lt_two_pow c8 (hto k)
    · intro p hp
      rw [dropLow_bit hb1 hb2] at hp
      simp only [Bool.and_eq_true] at hp
      exact c9 p hp.1
    · intro t
      rw [hy, Nat.testBit_or, Bool.or_eq_true, c10]
      constructor
      · rintro (⟨p, h1, h2, h3⟩ | h1)
        · exact ⟨p, h1, by rw [dropLow_bit hb1 hb2, h2]; rfl, h3⟩
        · exact ⟨k, c9 k hb1, by rw [dropLow_bit hb1 hb2]; simp, h1⟩
      · rintro ⟨p, h1, h2, h3⟩
        by_cases e : p = k
        · rw [e] at h3; exact .inr h3
        · rw [dropLow_bit hb1 hb2, decide_eq_true e, Bool.and_true] at h2
          exact .inl ⟨p, h1, h2, h3⟩
  · rintro _ W6 ⟨c1, c2, c3, c4, c5, c6, x, c7, c8, c9, c10⟩
    have hl6 := c3.trans hlp
    refine ⟨_, _, _, _, _, _, _, _, _, hl6, (fun h => by cases h), ?_⟩
    show WpK T0 ⟨68, none⟩ _ _ _ _
    generalize hex : (AObj.loop LoopState.exhausted _ _ _ _ _ _ _ _) = ex
    obtain ⟨W7, hW7, hO7, hn7⟩ : ∃ W7, W7 = W6.setObj (W2.next + 1) ex ∧ Only (fun b => b = W2.next + 1) W6 W7 ∧ W7.next = W6.next := ⟨_, rfl, setObj_only _ _ _, rfl⟩
    rw [← hW7]
    clear hW7 hex
    have c77 := c7.only hO7 (by omega)
    have hld := c77.load1 (T := T0) und89 rfl (j := 0) (v := .int .u64 (x : Nat)) rfl
    try simp only [wpK_assoc]
    refine wpK_reg (fun R hR => by simp [h7, hld]; exact hR) ?_
    have hdf7 : W7.blocks.get W2.next = some ⟨.deferred (some []), []⟩ := by rw [hO7.2 _ (by omega) (by omega), c4]; exact hdf
    refine wpK_ret ⟨.inr rfl, W7.setObj W2.next (.deferred none), ⟨W2.next, rfl, hdf7, rfl⟩, [.int .u64 (x : Nat)], by simp, ⟨by rw [setObj_next]; have := c1.1; omega, fun b hb hk => ?_⟩, x, rfl, c8, fun t => ?_⟩
    · rw [setObj_get, if_neg (by omega), hO7.2 b (by have := c1.1; omega) (by omega)]; exact c1.2 b hb hk
    · rw [c10 t]
      constructor
      · rintro ⟨p, h1, _, h3⟩; exact ⟨p, h1, h3⟩
      · rintro ⟨p, h1, h3⟩; exact ⟨p, h1, by simp, h3⟩
end Go.Proofs.YtfnigiojgbeklaaDoor

open Go Go.Eng
namespace Go.Proofs.YtfnigiojgbeklaaDoor
attribute [local congr] undef_congr WpK.congr WpS.congr WpL.congr WpC.congr WpF.congr gotS.congr callS.congr nextS.congr wantS.congr condS.congr
attribute [local irreducible] WpK
attribute [local simp] WpDr_nil WpDr_cons atS_some dwantS_true dwantS_false kindS_light kindS_float kindS_heavy lightS_value floatS_some heavyS_value heavyS_skip heavyS_enter dcallS_some doneS_eq
  isLight isFloat isPlain dLook testBit_dec dChain dLights_nil dLights_skip dLights_one dLight_nil dLight_cons dFreshes_nil dFreshes_one oneF_none oneF_some dFresh_nil dFresh_cons oneL_some oneW_true oneW_false sameV_value dPut dMay valEq arrEq listEq List.getElem?_cons Tr.get_nil dEnd
attribute [local simp] WpS_nil WpS_cons isDefer undef_false wantS_true wantS_false nextS_value nextS_skip nextS_enter callS_some gotS_some aWanted aOp aEvalF aEval opMove opAssign opPick aVal flat flat1 AAct.put opBinOp opConvert opIndex Tr.get_set Tr.get_lay aBin aResults tupled
  aCall aVals aCallB blt_dec ble_dec beq_dec aBinI_add aBinI_sub aBinI_lss aBinI_leq aBinI_gtr aBinI_geq aBinI_eql aBinI_neq index_str len_str len_slice Nat.beq_refl Nat.beq_refl
  opBox opLoad opFieldAddr opIndexAddr acells aAddr opExtract aExtract opUnOp opAlloc opStore opMakeInterface opNilCheck opBuild aParts opBuildSlice aValW
attribute [local simp] und2 und3 und4 und5 und9 und12 und13 und21 und22 und23 und24 und26 und27 und28 und30 und31 und34 und40 und43 und48 und49 und50 und54 und70 und71 und72 und79 und81 und86 und88 und89 und94 und99 und108 und109 und110 und118 und119 und120 und121 und123 und134 und143 und144 und145 und146 und148 und149 und150 und153 und154 und155 und157 und165 und167 und168 und178 und179 und187 und188 und189 und190 und191 und192 und193 und199 und214 und218 field13_0 field13_1 field23_0 field23_1 field24_0 field24_1 field27_0 field27_1 field28_0 field28_1 field49_0 field49_1 field49_2 field50_0 field50_1 field50_2 field70_0 field70_1 field70_2 field71_0 field71_1 field71_2 field72_0 field72_1 field72_2 field108_0 field108_1 field108_2 field109_0 field109_1 field109_2 field120_0 field120_1 field121_0 field121_1 field145_0 field145_1 field145_2 field146_0 field146_1 field146_2 field154_0 field154_1 field155_0 field155_1 field178_0 field178_1 field178_2 field178_3 field179_0 field179_1 field179_2 field179_3 field188_0 field188_1 field189_0 field189_1
set_option maxHeartbeats 4000000
set_option linter.unusedSimpArgs false
set_option linter.unusedVariables false
inductive Reach (f : Nat → Nat) : Nat → Nat → Prop
  | refl (p : Nat) : Reach f p p
  | snoc {p q t : Nat} : Reach f p q → (f q).testBit t = true → Reach f p t
theorem u64_two {n : Nat} (hn : n < 64) : 2 ^ n < 18446744073709551616 := by show 2 ^ n < 2 ^ 64; exact Nat.pow_lt_pow_right (by omega) hn
theorem quiet_wp {W : AW} {c n s : Nat} {to : Nat → Nat → Nat} (h : ChartAt W c n to) (hT : tabsIn T0 T0.tabs W = true) (h0 : 0 < W.next) (hn : n < 64) (hto : ∀ p, to 0 p < 2 ^ n) (hs : s < 2 ^ n) :
    WpF T0 67 [.pointer (some ⟨c, 0, none⟩), .int .u64 (s : Nat)] W (fun v W' => Ext W W' ∧ ∃ x : Nat, v = .int .u64 (x : Nat) ∧ x < 2 ^ n ∧ ∀ t, x.testBit t = true ↔ ∃ p, s.testBit p = true ∧ Reach (to 0) p t) := by
  refine wpF fun67 rfl ?_
  have p64 := u64_two hn
  try simp only [wpK_assoc]
  refine wpK_reg (fun R hR => by simp []; exact hR) ?_
  try simp only [wpK_assoc]
  refine wpK_reg (fun R hR => by simp []; exact hR) ?_
  refine wpK_keep (fun tm' => tm'.get 0 = some (.pointer (some ⟨c, 0, none⟩)) ∧ tm'.get 1 = some (.int .u64 (s : Nat)) ∧ tm'.get 5 = some (.int .u64 (s : Nat))) ⟨by simp, by simp, by simp⟩ ?_
  rintro tm ⟨h0, h1, h5⟩
  try simp only [wpK_assoc]
  refine wpK_while (I := fun q A' W' => A'.n = 18 ∧ A'.defers = [] ∧ A'.tmps.get 0 = some (.pointer (some ⟨c, 0, none⟩)) ∧ Ext W W' ∧ ∃ (x m : Nat), A'.tmps.get 1 = some (.int .u64 (x : Nat)) ∧ A'.tmps.get 5 = some (.int .u64 (m : Nat)) ∧ q = 2 * (2 ^ n - x) + (if m = 0 then 0 else 1) ∧ x < 2 ^ n ∧ (∀ t, m.testBit t = true → x.testBit t = true) ∧ (∀ t, s.testBit t = true → x.testBit t = true) ∧
      (∀ t, x.testBit t = true → ∃ p, s.testBit p = true ∧ Reach (to 0) p t) ∧ (∀ p t, x.testBit p = true → m.testBit p = false → (to 0 p).testBit t = true → x.testBit t = true))
    (J := fun A' W' => A'.n = 18 ∧ A'.defers = [] ∧ A'.tmps.get 0 = some (.pointer (some ⟨c, 0, none⟩)) ∧ Ext W W' ∧ ∃ x : Nat, A'.tmps.get 1 = some (.int .u64 (x : Nat)) ∧ x < 2 ^ n ∧ (∀ t, s.testBit t = true → x.testBit t = true) ∧
      (∀ t, x.testBit t = true → ∃ p, s.testBit p = true ∧ Reach (to 0) p t) ∧ (∀ p t, x.testBit p = true → (to 0 p).testBit t = true → x.testBit t = true)) (Rt := fun _ _ => False) (k := 2 * (2 ^ n - s) + (if s = 0 then 0 else 1)) ?_ ?_ ?_ ?_
  · exact ⟨rfl, rfl, by simp [h0], .refl _ _, s, s, by simp [h1], by simp [h5], rfl, hs, fun t ht => ht, fun t ht => ht, fun t ht => ⟨t, ht, .refl t⟩, fun p t h1 h2 _ => by rw [h1] at h2; cases h2⟩
  · rintro q ⟨tm, n, ds⟩ Wa ⟨hn, hd, h0, hEa, x, m, h1, h5, hq, hx, hmx, hsx, hre, hcl⟩ Q' hJ' hRt hI
    simp only at hn hd h0
    subst hn; subst hd
    simp only at h1 h5
    by_cases hz : m = 0
    · subst hz
      try simp only [wpK_assoc]
      refine wpK_reg (fun R hR => by simp [h5]; exact hR) ?_
      try simp only [wpK_assoc]
      first | refine wpK_onF (by simp []) ?_ | refine wpK_out (by simp []) ?_ | refine wpK_condF (by simp []) ?_ | refine wpK_endF (by simp []) (wpK_skip ?_) | refine wpK_endF (by simp []) ?_
      exact hJ' _ _ ⟨rfl, rfl, by simp [h0], hEa, x, by simp [h1], hx, hsx, hre, fun p t hp ht => hcl p t hp (by simp) ht⟩
    have hz' : ¬ (m : Int) = 0 := by omega
    try simp only [wpK_assoc]
    refine wpK_reg (fun R hR => by simp [h5, hz', hz]; exact hR) ?_
    try simp only [wpK_assoc]
    first | refine wpK_onT (by simp [hz', hz]) ?_ | refine wpK_outT (by simp [hz', hz]) ?_ | refine wpK_condT (by simp [hz', hz]) ?_ | refine wpK_endT (by simp [hz', hz]) ?_
    have hm2 : m < 2 ^ n := by
      refine Nat.lt_of_le_of_lt ?_ hx
      have e : m ||| x = x := by
        refine Nat.eq_of_testBit_eq fun i => ?_
        rw [Nat.testBit_or]
        cases hb : m.testBit i
        · rfl
        · rw [hmx i hb]; rfl
      rw [← e]; exact Nat.left_le_or
    have hca := h.ext hEa
    have nA := hEa.1
    have hTa := tabs_ext hT ‹0 < W.next› hEa
    refine wpK_block ?_
    try simp only [wpK_assoc]
    refine wpK_y2 (P := fun (z y : Nat) W2 => Ext Wa W2 ∧ y < 2 ^ n ∧ ∀ t, y.testBit t = true ↔ (∃ p, m.testBit p = true ∧ (to 0 p).testBit t = true) ∧ x.testBit t = false) (fun R hR => by
      simp [h0, h1, h5, aEnter, fun68, short_other, aCallV]; rw [callS_none]
      refine (after_wp (a := 0) hca hTa (by omega) (by omega) hn hto (Nat.lt_trans hm2 p64)).mono ?_
      rintro _ W2 ⟨hE2, z, rfl, hz2, hzb⟩
      obtain ⟨y, y1, y2, y3⟩ := aBinI_andNot .u64 z x (Nat.lt_trans hz2 p64) (Nat.lt_trans hx p64)
      simp [h1, y2]
      have hyb : ∀ t, y.testBit t = true ↔ (∃ p, m.testBit p = true ∧ (to 0 p).testBit t = true) ∧ x.testBit t = false := fun t => by rw [y3, Bool.and_eq_true, hzb, Bool.not_eq_true']
      have hy2 : y < 2 ^ n := Nat.lt_of_le_of_lt y1 hz2
      exact hR z y W2 (And.intro hE2 (And.intro hy2 hyb))) ?_
    rintro z y W2 ⟨hE2, hy2, hyb⟩
    simp only [leaves_normal, behind_normal]
    have hor := aBinI_or .u64 x y (Nat.lt_trans hx p64) (Nat.lt_trans hy2 p64)
    obtain ⟨w, hw⟩ : ∃ w, w = x ||| y := ⟨_, rfl⟩
    rw [← hw] at hor
    have hwb : ∀ t, w.testBit t = true ↔ x.testBit t = true ∨ y.testBit t = true := fun t => by rw [hw, Nat.testBit_or, Bool.or_eq_true]
    try simp only [wpK_assoc]
    refine wpK_reg1 (fun R hR => by simp [h1, hor]; exact hR) ?_
    have hwn : w < 2 ^ n := by rw [hw]; exact Nat.or_lt_two_pow hx hy2
    have hle : x ≤ w := by rw [hw]; exact Nat.left_le_or
    have hne : y ≠ 0 → x ≠ w := fun hy e => by
      obtain ⟨t, ht, _⟩ := low_ex hy
      have h1 := (hwb t).2 (.inr ht)
      rw [← e, ((hyb t).1 ht).2] at h1; cases h1
    refine hI (2 * (2 ^ n - w) + (if y = 0 then 0 else 1)) _ _ ?_ ⟨rfl, rfl, by simp [h0], hEa.trans hE2, w, y, by simp, by simp, rfl, hwn, fun t ht => (hwb t).2 (.inr ht), fun t ht => (hwb t).2 (.inl (hsx t ht)), fun t ht => ?_, fun p t hp hpy hpt => ?_⟩
    · rw [hq, if_neg hz]
      by_cases hy0 : y = 0
      · rw [if_pos hy0]; omega
      · rw [if_neg hy0]; have := hne hy0; omega
    · rcases (hwb t).1 ht with h1 | h1
      · exact hre t h1
      · obtain ⟨⟨p, h2, h3⟩, _⟩ := (hyb t).1 h1
        obtain ⟨p0, h4, h5⟩ := hre p (hmx p h2)
        exact ⟨p0, h4, .snoc h5 h3⟩
    · have hpx : x.testBit p = true := by
        rcases (hwb p).1 hp with h1 | h1
        · exact h1
        · rw [h1] at hpy; cases hpy
      refine (hwb t).2 ?_
      cases hxt : x.testBit t with
      | true => exact .inl rfl
      | false =>
        cases hpm : m.testBit p with
        | false => exact absurd (hcl p t hpx hpm hpt) (by rw [hxt]; simp)
        | true => exact .inr ((hyb t).2 ⟨⟨p, hpm, hpt⟩, hxt⟩)
  · rintro A' W' hf; exact hf.elim
  · rintro ⟨tm, n, ds⟩ Wz ⟨hn, hd, h0, hEz, x, h1, hx, hsx, hre, hcl⟩
    simp only at hn hd h0
    subst hn; subst hd
    simp only at h1
    try simp only [wpK_assoc]
    refine wpK_reg (fun R hR => by simp [h1]; exact hR) ?_
    refine wpK_ret ⟨.inr rfl, rfl, [.int .u64 (x : Nat)], by simp, hEz, x, rfl, hx, fun t => ⟨hre t, ?_⟩⟩
    rintro ⟨p, hp, hr⟩
    induction hr with
    | refl => exact hsx p hp
    | snoc _ h3 ih => exact hcl _ _ ih h3
end Go.Proofs.YtfnigiojgbeklaaDoor

open Go Go.Eng
namespace Go.Proofs.YtfnigiojgbeklaaDoor
attribute [local congr] undef_congr WpK.congr WpS.congr WpL.congr WpC.congr WpF.congr gotS.congr callS.congr nextS.congr wantS.congr condS.congr
attribute [local irreducible] WpK
attribute [local simp] WpDr_nil WpDr_cons atS_some dwantS_true dwantS_false kindS_light kindS_float kindS_heavy lightS_value floatS_some heavyS_value heavyS_skip heavyS_enter dcallS_some doneS_eq
  isLight isFloat isPlain dLook testBit_dec dChain dLights_nil dLights_skip dLights_one dLight_nil dLight_cons dFreshes_nil dFreshes_one oneF_none oneF_some dFresh_nil dFresh_cons oneL_some oneW_true oneW_false sameV_value dPut dMay valEq arrEq listEq List.getElem?_cons Tr.get_nil dEnd
attribute [local simp] WpS_nil WpS_cons isDefer undef_false wantS_true wantS_false nextS_value nextS_skip nextS_enter callS_some gotS_some aWanted aOp aEvalF aEval opMove opAssign opPick aVal flat flat1 AAct.put opBinOp opConvert opIndex Tr.get_set Tr.get_lay aBin aResults tupled
  aCall aVals aCallB blt_dec ble_dec beq_dec aBinI_add aBinI_sub aBinI_lss aBinI_leq aBinI_gtr aBinI_geq aBinI_eql aBinI_neq index_str len_str len_slice Nat.beq_refl Nat.beq_refl
  opBox opLoad opFieldAddr opIndexAddr acells aAddr opExtract aExtract opUnOp opAlloc opStore opMakeInterface opNilCheck opBuild aParts opBuildSlice aValW
attribute [local simp] und2 und3 und4 und5 und9 und12 und13 und21 und22 und23 und24 und26 und27 und28 und30 und31 und34 und40 und43 und48 und49 und50 und54 und70 und71 und72 und79 und81 und86 und88 und89 und94 und99 und108 und109 und110 und118 und119 und120 und121 und123 und134 und143 und144 und145 und146 und148 und149 und150 und153 und154 und155 und157 und165 und167 und168 und178 und179 und187 und188 und189 und190 und191 und192 und193 und199 und214 und218 field13_0 field13_1 field23_0 field23_1 field24_0 field24_1 field27_0 field27_1 field28_0 field28_1 field49_0 field49_1 field49_2 field50_0 field50_1 field50_2 field70_0 field70_1 field70_2 field71_0 field71_1 field71_2 field72_0 field72_1 field72_2 field108_0 field108_1 field108_2 field109_0 field109_1 field109_2 field120_0 field120_1 field121_0 field121_1 field145_0 field145_1 field145_2 field146_0 field146_1 field146_2 field154_0 field154_1 field155_0 field155_1 field178_0 field178_1 field178_2 field178_3 field179_0 field179_1 field179_2 field179_3 field188_0 field188_1 field189_0 field189_1
set_option maxHeartbeats 4000000
set_option linter.unusedSimpArgs false
set_option linter.unusedVariables false
open Classical in
theorem equal_wp {W : AW} {b1 b2 n : Nat} {g1 g2 : Nat → Int} (h1 : NumsAt W b1 n g1) (h2 : NumsAt W b2 n g2) (hn : n ≤ 64) :
    WpF T0 84 [rowV b1 n, rowV b2 n] W (fun v W' => W' = W ∧ v = .bool (decide (∀ j, j < n → g1 j = g2 j))) := by
  refine wpF fun84 rfl ?_
  have ll : ∀ b, aLen T0 W 30 (rowV b n) = some (.int .i64 n) := fun b => len_slice und30 _ _ _
  have l1 := ll b1
  have l2 := ll b2
  have x1 : ∀ {j}, j < n → aIndexAddr T0 30 (rowV b1 n) (.int .i64 (j : Int)) = some (.pointer (some ⟨b1, j, none⟩)) := fun h => ix30 h
  have x2 : ∀ {j}, j < n → aIndexAddr T0 30 (rowV b2 n) (.int .i64 (j : Int)) = some (.pointer (some ⟨b2, j, none⟩)) := fun h => ix30 h
  have e1 := rowV_eq b1 n
  have e2 := rowV_eq b2 n
  generalize rowV b1 n = v1 at *
  generalize rowV b2 n = v2 at *
  try simp only [wpK_assoc]
  refine wpK_reg (fun R hR => by simp []; exact hR) ?_
  try simp only [wpK_assoc]
  refine wpK_reg (fun R hR => by simp [l1, l2]; exact hR) ?_
  try simp only [wpK_assoc]
  first | refine wpK_onF (by simp []) ?_ | refine wpK_out (by simp []) ?_ | refine wpK_condF (by simp []) ?_ | refine wpK_endF (by simp []) (wpK_skip ?_) | refine wpK_endF (by simp []) ?_
  try simp only [wpK_assoc]
  refine wpK_reg (fun R hR => by simp [l1]; exact hR) ?_
  refine wpK_keep (fun tm' => tm'.get 0 = some (v1) ∧ tm'.get 1 = some (v2) ∧ tm'.get 12 = some (.int .i64 (n : Int)) ∧ tm'.get 13 = some (.int .i64 0)) ⟨by simp, by simp, by simp, by simp⟩ ?_
  rintro tm ⟨h0, h1, h12, h13⟩
  try simp only [wpK_assoc]
  refine wpK_while (I := fun q A' W' => A'.n = 26 ∧ A'.defers = [] ∧ A'.tmps.get 0 = some (v1) ∧ A'.tmps.get 1 = some (v2) ∧ A'.tmps.get 12 = some (.int .i64 (n : Int)) ∧ W' = W ∧ ∃ (i : Nat), A'.tmps.get 13 = some (.int .i64 (i : Int)) ∧ q = n - i ∧ i ≤ n ∧ ∀ j, j < i → g1 j = g2 j)
    (J := fun A' W' => A'.n = 26 ∧ A'.defers = [] ∧ A'.tmps.get 0 = some (v1) ∧ A'.tmps.get 1 = some (v2) ∧ A'.tmps.get 12 = some (.int .i64 (n : Int)) ∧ W' = W ∧ ∀ j, j < n → g1 j = g2 j) (Rt := fun A' W' => A'.defers = [] ∧ W' = W ∧ A'.tmps.get 4 = some (.bool false) ∧ ¬ ∀ j, j < n → g1 j = g2 j) (k := n) ?_ ?_ ?_ ?_
  · exact ⟨rfl, rfl, by simp [h0, h1, h12], by simp [h0, h1, h12], by simp [h0, h1, h12], rfl, 0, by simp [h13], rfl, by omega, fun j hj => by omega⟩
  · rintro q ⟨tm, n, ds⟩ Wa ⟨hn, hd, h0, h1, h12, hw, i, h13, hq, hil, hall⟩ Q' hJ' hRt hI
    simp only at hn hd h0 h1 h12
    subst hn; subst hd
    simp only at h13
    rw [hw]
    by_cases hlt : i < n
    case neg =>
      have hlt' : ¬ (i : Int) < n := by omega
      have e : i = n := by omega
      rw [e] at hall
      try simp only [wpK_assoc]
      refine wpK_reg (fun R hR => by simp [h12, h13, hlt']; exact hR) ?_
      try simp only [wpK_assoc]
      first | refine wpK_onF (by simp [hlt]) ?_ | refine wpK_out (by simp [hlt]) ?_ | refine wpK_condF (by simp [hlt]) ?_ | refine wpK_endF (by simp [hlt]) (wpK_skip ?_) | refine wpK_endF (by simp [hlt]) ?_
      exact hJ' _ _ ⟨rfl, rfl, by simp [h0, h1, h12], by simp [h0, h1, h12], by simp [h0, h1, h12], rfl, hall⟩
    have hlt' : (i : Int) < n := by omega
    try simp only [wpK_assoc]
    refine wpK_reg (fun R hR => by simp [h12, h13, hlt']; exact hR) ?_
    try simp only [wpK_assoc]
    first | refine wpK_onT (by simp [hlt]) ?_ | refine wpK_outT (by simp [hlt]) ?_ | refine wpK_condT (by simp [hlt]) ?_ | refine wpK_endT (by simp [hlt]) ?_
    have y1 := x1 hlt
    have y2 := x2 hlt
    have m1 := NumsAt.load ‹NumsAt W b1 n g1› hlt
    have m2 := NumsAt.load ‹NumsAt W b2 n g2› hlt
    refine wpK_block ?_
    try simp only [wpK_assoc]
    refine wpK_reg (fun R hR => by simp [h13]; exact hR) ?_
    by_cases he : g1 i = g2 i
    · try simp only [wpK_assoc]
      refine wpK_dn (wr := Tr.nil |>.set 16 0 |>.set 17 1 |>.set 18 2 |>.set 19 3 |>.set 20 4 |>.set 21 5 |>.set 22 6 |>.set 23 7 |>.set 24 8) (bits := Tr.nil.lay 0 [0, 0, 3, 7, 0, 0, 48, 112, 255]) (ord := [0, 1, 2, 3, 4, 5, 6, 7, 8]) (by kernel_rfl) (by kernel_rfl) (by kernel_rfl) (fun G hG => by
        simp [h0, h1, h13, y1, y2, m1, m2, he, e1, e2]
        exact hG) ?_
      try simp only [wpK_assoc]
      first | refine wpK_onF (by simp [he]) ?_ | refine wpK_out (by simp [he]) ?_ | refine wpK_condF (by simp [he]) ?_ | refine wpK_endF (by simp [he]) (wpK_skip ?_) | refine wpK_endF (by simp [he]) ?_
      simp only [leaves_normal, behind_normal]
      try simp only [wpK_assoc]
      refine wpK_reg1 (fun R hR => by simp [h13]; exact hR) ?_
      exact hI (n - (i + 1)) _ _ (by omega) ⟨rfl, rfl, by simp [h0, h1, h12], by simp [h0, h1, h12], by simp [h0, h1, h12], rfl, i + 1, by simp [i64_succ i (by omega)], rfl, by omega, fun j hj => by
        by_cases e : j = i
        · rw [e]; exact he
        · exact hall j (by omega)⟩
    · try simp only [wpK_assoc]
      refine wpK_dn (wr := Tr.nil |>.set 16 0 |>.set 17 1 |>.set 18 2 |>.set 19 3 |>.set 20 4 |>.set 21 5 |>.set 22 6 |>.set 23 7 |>.set 24 8) (bits := Tr.nil.lay 0 [0, 0, 3, 7, 0, 0, 48, 112, 255]) (ord := [0, 1, 2, 3, 4, 5, 6, 7, 8]) (by kernel_rfl) (by kernel_rfl) (by kernel_rfl) (fun G hG => by
        simp [h0, h1, h13, y1, y2, m1, m2, he, e1, e2]
        exact hG) ?_
      try simp only [wpK_assoc]
      first | refine wpK_onT (by simp [he]) ?_ | refine wpK_outT (by simp [he]) ?_ | refine wpK_condT (by simp [he]) ?_ | refine wpK_endT (by simp [he]) ?_
      try simp only [wpK_assoc]
      refine wpK_reg (fun R hR => by simp []; exact hR) ?_
      refine wpK_ret ?_
      exact hRt _ _ ⟨rfl, rfl, by simp, fun hh => he (hh i hlt)⟩
  · rintro A' W' ⟨hd, hw, h4, hne⟩
    exact ⟨.inr rfl, hd, [.bool false], by simp [h4], hw, by rw [decide_eq_false hne]; rfl⟩
  · rintro ⟨tm, n, ds⟩ Wz ⟨hn, hd, h0, h1, h12, hw, hall⟩
    simp only at hn hd h0 h1 h12
    subst hn; subst hd
    try simp only [wpK_assoc]
    refine wpK_reg (fun R hR => by simp []; exact hR) ?_
    exact wpK_ret ⟨.inr rfl, rfl, [.bool true], by simp, hw, by rw [decide_eq_true hall]; rfl⟩
end Go.Proofs.YtfnigiojgbeklaaDoor

open Go Go.Eng
namespace Go.Proofs.YtfnigiojgbeklaaDoor
attribute [local congr] undef_congr WpK.congr WpS.congr WpL.congr WpC.congr WpF.congr gotS.congr callS.congr nextS.congr wantS.congr condS.congr
attribute [local irreducible] WpK
attribute [local simp] WpDr_nil WpDr_cons atS_some dwantS_true dwantS_false kindS_light kindS_float kindS_heavy lightS_value floatS_some heavyS_value heavyS_skip heavyS_enter dcallS_some doneS_eq
  isLight isFloat isPlain dLook testBit_dec dChain dLights_nil dLights_skip dLights_one dLight_nil dLight_cons dFreshes_nil dFreshes_one oneF_none oneF_some dFresh_nil dFresh_cons oneL_some oneW_true oneW_false sameV_value dPut dMay valEq arrEq listEq List.getElem?_cons Tr.get_nil dEnd
attribute [local simp] WpS_nil WpS_cons isDefer undef_false wantS_true wantS_false nextS_value nextS_skip nextS_enter callS_some gotS_some aWanted aOp aEvalF aEval opMove opAssign opPick aVal flat flat1 AAct.put opBinOp opConvert opIndex Tr.get_set Tr.get_lay aBin aResults tupled
  aCall aVals aCallB blt_dec ble_dec beq_dec aBinI_add aBinI_sub aBinI_lss aBinI_leq aBinI_gtr aBinI_geq aBinI_eql aBinI_neq index_str len_str len_slice Nat.beq_refl Nat.beq_refl
  opBox opLoad opFieldAddr opIndexAddr acells aAddr opExtract aExtract opUnOp opAlloc opStore opMakeInterface opNilCheck opBuild aParts opBuildSlice aValW
attribute [local simp] und2 und3 und4 und5 und9 und12 und13 und21 und22 und23 und24 und26 und27 und28 und30 und31 und34 und40 und43 und48 und49 und50 und54 und70 und71 und72 und79 und81 und86 und88 und89 und94 und99 und108 und109 und110 und118 und119 und120 und121 und123 und134 und143 und144 und145 und146 und148 und149 und150 und153 und154 und155 und157 und165 und167 und168 und178 und179 und187 und188 und189 und190 und191 und192 und193 und199 und214 und218 field13_0 field13_1 field23_0 field23_1 field24_0 field24_1 field27_0 field27_1 field28_0 field28_1 field49_0 field49_1 field49_2 field50_0 field50_1 field50_2 field70_0 field70_1 field70_2 field71_0 field71_1 field71_2 field72_0 field72_1 field72_2 field108_0 field108_1 field108_2 field109_0 field109_1 field109_2 field120_0 field120_1 field121_0 field121_1 field145_0 field145_1 field145_2 field146_0 field146_1 field146_2 field154_0 field154_1 field155_0 field155_1 field178_0 field178_1 field178_2 field178_3 field179_0 field179_1 field179_2 field179_3 field188_0 field188_1 field189_0 field189_1
set_option maxHeartbeats 4000000
set_option linter.unusedSimpArgs false
set_option linter.unusedVariables false
def numStep (s : List Value × List Nat) (k : Value) : List Value × List Nat :=
  match s.1.findIdx? (fun x => keyEq k x) with
  | some j => (s.1, s.2 ++ [j])
  | none => (s.1 ++ [k], s.2 ++ [s.1.length])
def numF (ks : List Value) : List Value × List Nat := ks.foldl numStep ([], [])
theorem numF_snoc (ks : List Value) (k : Value) : numF (ks ++ [k]) = numStep (numF ks) k := by
  simp only [numF, List.foldl_append, List.foldl_cons, List.foldl_nil]
theorem numStep_len (s : List Value × List Nat) (k : Value) : (numStep s k).2.length = s.2.length + 1 := by
  unfold numStep
  split <;> simp
theorem numF_len (ks : List Value) : (numF ks).2.length = ks.length := by
  have : ∀ (ks : List Value) (s : List Value × List Nat), (ks.foldl numStep s).2.length = s.2.length + ks.length := by
    intro ks
    induction ks with
    | nil => intro s; simp
    | cons k ks ih => intro s; simp only [List.foldl_cons, ih, numStep_len, List.length_cons]; omega
  rw [numF, this]; simp
theorem numF_take {ks : List Value} {i : Nat} {k : Value} (h : ks[i]? = some k) : numF (ks.take (i + 1)) = numStep (numF (ks.take i)) k := by
  rw [List.take_add_one, h]; exact numF_snoc _ _
theorem aFind_idx {T : Tabs} {t : TypeId} {k : Value} : ∀ {es : List (Value × Value × Nat)} {i : Nat}, (∀ e ∈ es, keyOk T t e.1 = true) →
    aFind T t k es i = some (match (es.map (·.1)).findIdx? (fun x => keyEq k x) with | none => none | some j => match es[j]? with | some e => some (i + j, e.2.1) | none => none)
  | [], _, _ => rfl
  | (k', v, c) :: es, i, h => by
    have a1 : keyOk T t k' = true := h _ (List.mem_cons_self ..)
    have ih := aFind_idx (T := T) (t := t) (k := k) (es := es) (i := i + 1) (fun e he => h e (List.mem_cons_of_mem _ he))
    simp only [aFind, a1, List.map_cons, List.findIdx?_cons]
    cases hk : keyEq k k' with
    | true => simp
    | false =>
      simp only [ih]
      cases hf : (es.map (·.1)).findIdx? (fun x => keyEq k x) with
      | none => simp
      | some j => simp [Nat.add_assoc, Nat.add_comm 1 j]
structure NumI (KT : TypeId) (mb bo n : Nat) (s : List Value × List Nat) (W : AW) : Prop where
  ne : mb ≠ bo
  lt : mb < W.next ∧ bo < W.next
  map : ∃ es ck, W.blocks.get mb = some ⟨.map es ck, []⟩ ∧ es.map (·.1) = s.1 ∧ ∀ (j : Nat) e, es[j]? = some e → e.2.1 = .int .i64 (j : Nat)
  out : ∃ c, W.blocks.get bo = some ⟨.cells c n 3, []⟩ ∧ ∀ q, q < s.2.length → c.get q = some (.int .i64 (s.2.getD q 0 : Nat))
  key : ∀ k ∈ s.1, keyOk T0 KT k = true
theorem NumI.ext {KT : TypeId} {mb bo n : Nat} {s : List Value × List Nat} {W W' : AW} (h : NumI KT mb bo n s W) (hE : Ext W W') : NumI KT mb bo n s W' where
  ne := h.ne
  lt := ⟨Nat.lt_of_lt_of_le h.lt.1 hE.1, Nat.lt_of_lt_of_le h.lt.2 hE.1⟩
  map := let ⟨es, ck, h1, h2⟩ := h.map; ⟨es, ck, by rw [hE.2 mb h.lt.1 (fun x => x)]; exact h1, h2⟩
  out := let ⟨c, h1, h2⟩ := h.out; ⟨c, by rw [hE.2 bo h.lt.2 (fun x => x)]; exact h1, h2⟩
  key := h.key
theorem getD_snoc_lt {l : List Nat} {x q : Nat} (h : q < l.length) : (l ++ [x]).getD q 0 = l.getD q 0 := by
  rw [List.getD_eq_getElem?_getD, List.getElem?_append_left h, List.getD_eq_getElem?_getD]
theorem getD_snoc_eq (l : List Nat) (x : Nat) : (l ++ [x]).getD l.length 0 = x := by
  rw [List.getD_eq_getElem?_getD]; simp
theorem NumI.step {KT MT : TypeId} (hMT : T0.und.get MT = some (.map KT 3)) {mb bo n : Nat} {s : List Value × List Nat} {W : AW} (h : NumI KT mb bo n s W) {k : Value} (hk : keyOk T0 KT k = true) (hn : s.2.length < n) :
    (∃ j W', aLookup T0 W MT (.map (some mb)) k true = some (.tuple ⟨[.int .i64 (j : Nat), .bool true]⟩) ∧ aStoreVar T0 W 3 bo s.2.length (.int .i64 (j : Nat)) = some W' ∧ W'.next = W.next ∧ Only (fun b => b = mb ∨ b = bo) W W' ∧ NumI KT mb bo n (numStep s k) W') ∨
    (aLookup T0 W MT (.map (some mb)) k true = some (.tuple ⟨[.int .i64 0, .bool false]⟩) ∧ aLen T0 W MT (.map (some mb)) = some (.int .i64 (s.1.length : Nat)) ∧ ∃ W1 W', aMapUpdate T0 W MT (.map (some mb)) k (.int .i64 (s.1.length : Nat)) = some W1 ∧ W1.next = W.next ∧ Only (fun b => b = mb) W W1 ∧
      aStoreVar T0 W1 3 bo s.2.length (.int .i64 (s.1.length : Nat)) = some W' ∧ W'.next = W.next ∧ Only (fun b => b = mb ∨ b = bo) W W' ∧ NumI KT mb bo n (numStep s k) W') := by
  obtain ⟨es, ck, hm1, hm2, hm3⟩ := h.map
  obtain ⟨c, hc1, hc2⟩ := h.out
  have hes : ∀ e ∈ es, keyOk T0 KT e.1 = true := fun e he => h.key e.1 (by rw [← hm2]; exact List.mem_map_of_mem he)
  have hfind := aFind_idx (k := k) (i := 0) hes
  rw [hm2] at hfind
  have hel : es.length = s.1.length := by rw [← hm2, List.length_map]
  cases hf : s.1.findIdx? (fun x => keyEq k x) with
  | some j =>
    left
    have hj : j < s.1.length := by
      have := List.findIdx?_eq_some_iff_getElem.1 hf
      exact this.1
    have hej : es[j]? = some es[j] := List.getElem?_eq_getElem (by omega)
    rw [hf] at hfind
    simp only [hej, hm3 j _ hej] at hfind
    obtain ⟨W', s1, s2, s3, s4⟩ := storeVar_own (T := T0) (t := 3) (W := W) (v := .int .i64 (j : Nat)) (b := bo) (o := s.2.length) inf3 rfl hc1 (by show s.2.length + 1 ≤ n; omega) rfl
    have hst : numStep s k = (s.1, s.2 ++ [j]) := by unfold numStep; rw [hf]
    refine ⟨j, W', by simp only [aLookup, hMT, hk, aEntries, hm1, hfind, aOkd], s1, s2, ⟨by omega, fun b _ hb => s3 b (fun e => hb (.inr e))⟩, ?_⟩
    rw [hst]
    refine ⟨h.ne, ⟨by have := h.lt.1; omega, by have := h.lt.2; omega⟩, ⟨es, ck, by rw [s3 mb h.ne]; exact hm1, hm2, hm3⟩, ⟨c.set s.2.length (.int .i64 (j : Nat)), s4, fun q hq => ?_⟩, h.key⟩
    rw [Tr.get_set]
    by_cases e : q = s.2.length
    · rw [if_pos e, e, getD_snoc_eq]
    · have hq' : q < s.2.length := by simp at hq; omega
      rw [if_neg e, getD_snoc_lt hq']; exact hc2 q hq'
  | none =>
    right
    rw [hf] at hfind
    simp only at hfind
    have hup : aMapUpdate T0 W MT (.map (some mb)) k (.int .i64 (s.1.length : Nat)) = some ⟨W.blocks.set mb ⟨.map (es ++ [(k, .int .i64 (s.1.length : Nat), ck)]) (ck + 1), []⟩, W.next⟩ := by
      simp only [aMapUpdate, hMT, hk, hm1, hfind]
    generalize hW1 : (⟨W.blocks.set mb ⟨.map (es ++ [(k, .int .i64 (s.1.length : Nat), ck)]) (ck + 1), []⟩, W.next⟩ : AW) = W1 at hup
    have hn1 : W1.next = W.next := by rw [← hW1]
    have hO1 : Only (fun b => b = mb) W W1 := ⟨by omega, fun b _ hb => by rw [← hW1]; simp only [Tr.get_set]; rw [if_neg hb]⟩
    have hg1 : W1.blocks.get mb = some ⟨.map (es ++ [(k, .int .i64 (s.1.length : Nat), ck)]) (ck + 1), []⟩ := by rw [← hW1]; simp only [Tr.get_set, if_true]
    obtain ⟨W', s1, s2, s3, s4⟩ := storeVar_own (T := T0) (t := 3) (W := W1) (v := .int .i64 (s.1.length : Nat)) (b := bo) (o := s.2.length) inf3 rfl (by rw [hO1.2 bo h.lt.2 (Ne.symm h.ne)]; exact hc1) (by show s.2.length + 1 ≤ n; omega) rfl
    have hst : numStep s k = (s.1 ++ [k], s.2 ++ [s.1.length]) := by unfold numStep; rw [hf]
    refine ⟨by simp only [aLookup, hMT, hk, aEntries, hm1, hfind, zero3, aOkd], by simp only [aLen, hMT, hm1, hel], W1, W', hup, hn1, hO1, s1, by omega, ⟨by omega, fun b hb hx => by rw [s3 b (fun e => hx (.inr e))]; exact hO1.2 b hb (fun e => hx (.inl e))⟩, ?_⟩
    rw [hst]
    refine ⟨h.ne, ⟨by have := h.lt.1; omega, by have := h.lt.2; omega⟩, ⟨_, _, by rw [s3 mb h.ne]; exact hg1, by rw [List.map_append, hm2]; rfl, fun j e he => ?_⟩, ⟨c.set s.2.length (.int .i64 (s.1.length : Nat)), s4, fun q hq => ?_⟩, fun x hx => ?_⟩
    · by_cases hj : j < es.length
      · rw [List.getElem?_append_left hj] at he; exact hm3 j e he
      · rw [List.getElem?_append_right (by omega)] at he
        have hi' : j - es.length < 1 := by have := (List.getElem?_eq_some_iff.1 he).1; simpa using this
        rw [show j - es.length = 0 from by omega] at he
        simp at he; subst he
        simp only
        rw [show s.1.length = j from by omega]
    · rw [Tr.get_set]
      by_cases e : q = s.2.length
      · rw [if_pos e, e, getD_snoc_eq]
      · have hq' : q < s.2.length := by simp at hq; omega
        rw [if_neg e, getD_snoc_lt hq']; exact hc2 q hq'
    · rcases List.mem_append.1 hx with hx | hx
      · exact h.key x hx
      · rw [List.mem_singleton] at hx; subst hx; exact hk
theorem NumI.only {KT : TypeId} {mb bo n : Nat} {s : List Value × List Nat} {W W' : AW} {K : Nat → Prop} (h : NumI KT mb bo n s W) (hE : Only K W W') (h1 : ¬ K mb) (h2 : ¬ K bo) : NumI KT mb bo n s W' where
  ne := h.ne
  lt := ⟨Nat.lt_of_lt_of_le h.lt.1 hE.1, Nat.lt_of_lt_of_le h.lt.2 hE.1⟩
  map := let ⟨es, ck, h3, h4⟩ := h.map; ⟨es, ck, by rw [hE.2 mb h.lt.1 h1]; exact h3, h4⟩
  out := let ⟨c, h3, h4⟩ := h.out; ⟨c, by rw [hE.2 bo h.lt.2 h2]; exact h3, h4⟩
  key := h.key
def lookL (y : Nat → Nat) : List Value := (List.range 10).map fun j => Value.int .u64 (y j : Nat)
theorem lookL_len (g : Nat → Nat) : (lookL g).length = 10 := by simp [lookL]
theorem lookL_at (g : Nat → Nat) {j : Nat} (h : j < 10) : (lookL g)[j]? = some (.int .u64 (g j : Nat)) := by
  simp only [lookL, List.getElem?_map, List.getElem?_range h]; rfl
theorem lookL_set (g : Nat → Nat) {j : Nat} (x : Nat) : (lookL g).set j (.int .u64 (x : Nat)) = lookL (fun i => if i = j then x else g i) := by
  apply List.ext_getElem?
  intro i
  rw [List.getElem?_set]
  by_cases hi : i < 10
  · rw [lookL_at _ hi, lookL_at _ hi, lookL_len]
    by_cases e : j = i
    · subst e; rw [if_pos rfl, if_pos hi]; simp
    · rw [if_neg e, if_neg (Ne.symm e)]
  · rw [List.getElem?_eq_none (by rw [lookL_len]; omega), List.getElem?_eq_none (by rw [lookL_len]; omega)]
    split
    · rw [lookL_len, if_neg (by omega)]
    · rfl
abbrev LookAt (W : AW) (b : Nat) (y : Nat → Nat) : Prop := Var W b 192 (lookL y)
theorem look_load {W : AW} {b : Nat} {g : Nat → Nat} (h : LookAt W b g) {j : Nat} (hj : j < 10) : aLoadVar T0 W 89 b j = some (.int .u64 (g j : Nat)) := h.load1 (T := T0) und89 rfl (lookL_at g hj)
theorem look_put {W : AW} {b : Nat} {g : Nat → Nat} (h : LookAt W b g) {j : Nat} (hj : j < 10) (x : Nat) : ∃ W', aStoreVar T0 W 89 b j (.int .u64 (x : Nat)) = some W' ∧ W'.next = W.next ∧ Only (fun c => c = b) W W' ∧ LookAt W' b (fun i => if i = j then x else g i) := by
  obtain ⟨W', s1, s2, s3, s4⟩ := h.store (T := T0) (t := 89) (v := .int .u64 (x : Nat)) (o := j) inf89 (by rw [is89]; rfl) (by rw [lookL_len]; show j + 1 ≤ 10; omega) rfl
  refine ⟨W', s1, s2, s3, ?_⟩
  have e : (lookL g).take j ++ acells (.int .u64 (x : Nat)) ++ (lookL g).drop (j + (acells (.int .u64 (x : Nat))).length) = (lookL g).set j (.int .u64 (x : Nat)) := by
    rw [List.set_eq_take_append_cons_drop, if_pos (by rw [lookL_len]; exact hj)]; simp [acells]
  rw [e, lookL_set] at s4
  exact s4
theorem ix192 (b o j : Nat) (h : j < 10) : aIndexAddr T0 192 (.pointer (some ⟨b, o, none⟩)) (.int .i64 (j : Int)) = some (.pointer (some ⟨b, o + j, none⟩)) := by
  show aIndexAddr T0 192 (.pointer (some ⟨b, o, none⟩)) (.int .i64 (Int.ofNat j)) = _
  simp only [aIndexAddr, und192, sz89, blt_dec, h, decide_true, Nat.mul_one]
def lookV (y : Nat → Nat) : Value := .agg ⟨lookL y⟩
theorem look_whole {W : AW} {b : Nat} {g : Nat → Nat} (h : LookAt W b g) : aLoadVar T0 W 192 b 0 = some (lookV g) := h.load (T := T0) und192 rfl inf192 is192
theorem look_key (y : Nat → Nat) : keyOk T0 192 (lookV y) = true := by
  show keyOk T0 192 (.agg ⟨[.int .u64 (y 0 : Nat), .int .u64 (y 1 : Nat), .int .u64 (y 2 : Nat), .int .u64 (y 3 : Nat), .int .u64 (y 4 : Nat), .int .u64 (y 5 : Nat), .int .u64 (y 6 : Nat), .int .u64 (y 7 : Nat), .int .u64 (y 8 : Nat), .int .u64 (y 9 : Nat)]⟩) = true
  kernel_rfl
end Go.Proofs.YtfnigiojgbeklaaDoor

open Go Go.Eng
namespace Go.Proofs.YtfnigiojgbeklaaDoor
attribute [local congr] undef_congr WpK.congr WpS.congr WpL.congr WpC.congr WpF.congr gotS.congr callS.congr nextS.congr wantS.congr condS.congr
attribute [local irreducible] WpK
attribute [local simp] WpDr_nil WpDr_cons atS_some dwantS_true dwantS_false kindS_light kindS_float kindS_heavy lightS_value floatS_some heavyS_value heavyS_skip heavyS_enter dcallS_some doneS_eq
  isLight isFloat isPlain dLook testBit_dec dChain dLights_nil dLights_skip dLights_one dLight_nil dLight_cons dFreshes_nil dFreshes_one oneF_none oneF_some dFresh_nil dFresh_cons oneL_some oneW_true oneW_false sameV_value dPut dMay valEq arrEq listEq List.getElem?_cons Tr.get_nil dEnd
attribute [local simp] WpS_nil WpS_cons isDefer undef_false wantS_true wantS_false nextS_value nextS_skip nextS_enter callS_some gotS_some aWanted aOp aEvalF aEval opMove opAssign opPick aVal flat flat1 AAct.put opBinOp opConvert opIndex Tr.get_set Tr.get_lay aBin aResults tupled
  aCall aVals aCallB blt_dec ble_dec beq_dec aBinI_add aBinI_sub aBinI_lss aBinI_leq aBinI_gtr aBinI_geq aBinI_eql aBinI_neq index_str len_str len_slice Nat.beq_refl Nat.beq_refl
  opBox opLoad opFieldAddr opIndexAddr acells aAddr opExtract aExtract opUnOp opAlloc opStore opMakeInterface opNilCheck opBuild aParts opBuildSlice aValW
attribute [local simp] und2 und3 und4 und5 und9 und12 und13 und21 und22 und23 und24 und26 und27 und28 und30 und31 und34 und40 und43 und48 und49 und50 und54 und70 und71 und72 und79 und81 und86 und88 und89 und94 und99 und108 und109 und110 und118 und119 und120 und121 und123 und134 und143 und144 und145 und146 und148 und149 und150 und153 und154 und155 und157 und165 und167 und168 und178 und179 und187 und188 und189 und190 und191 und192 und193 und199 und214 und218 field13_0 field13_1 field23_0 field23_1 field24_0 field24_1 field27_0 field27_1 field28_0 field28_1 field49_0 field49_1 field49_2 field50_0 field50_1 field50_2 field70_0 field70_1 field70_2 field71_0 field71_1 field71_2 field72_0 field72_1 field72_2 field108_0 field108_1 field108_2 field109_0 field109_1 field109_2 field120_0 field120_1 field121_0 field121_1 field145_0 field145_1 field145_2 field146_0 field146_1 field146_2 field154_0 field154_1 field155_0 field155_1 field178_0 field178_1 field178_2 field178_3 field179_0 field179_1 field179_2 field179_3 field188_0 field188_1 field189_0 field189_1
set_option maxHeartbeats 4000000
set_option linter.unusedSimpArgs false
set_option linter.unusedVariables false
def lookN (s : Nat) (g : Nat → Int) : Nat → Nat
  | 0 => 0
  | t + 1 => if s.testBit t = true then lookN s g t ||| 1 <<< (g t).toNat else lookN s g t
theorem lookN_bit (s : Nat) (g : Nat → Int) (k : Nat) : ∀ m, (lookN s g m).testBit k = true ↔ ∃ t, t < m ∧ s.testBit t = true ∧ (g t).toNat = k
  | 0 => by simp [lookN]
  | m + 1 => by
    have ih := lookN_bit s g k m
    unfold lookN
    split
    · rename_i h
      rw [Nat.testBit_or, Bool.or_eq_true, ih, bit_one, decide_eq_true_eq]
      constructor
      · rintro (⟨t, h1, h2, h3⟩ | h1)
        · exact ⟨t, by omega, h2, h3⟩
        · exact ⟨m, by omega, h, h1⟩
      · rintro ⟨t, h1, h2, h3⟩
        by_cases e : t = m
        · exact .inr (by rw [← h3, e])
        · exact .inl ⟨t, by omega, h2, h3⟩
    · rename_i h
      rw [ih]
      constructor
      · rintro ⟨t, h1, h2, h3⟩; exact ⟨t, by omega, h2, h3⟩
      · rintro ⟨t, h1, h2, h3⟩
        by_cases e : t = m
        · rw [e] at h2; exact absurd h2 h
        · exact ⟨t, by omega, h2, h3⟩
def lookP (to : Nat → Nat → Nat) (g : Nat → Int) (n p a : Nat) : Nat := lookN (to a p) g n
def keysP (to : Nat → Nat → Nat) (g : Nat → Int) (n : Nat) : List Value := (List.range n).map fun p => lookV (lookP to g n p)
theorem keysP_len (to : Nat → Nat → Nat) (g : Nat → Int) (n : Nat) : (keysP to g n).length = n := by simp [keysP]
theorem keysP_at (to : Nat → Nat → Nat) (g : Nat → Int) {n p : Nat} (hp : p < n) : (keysP to g n)[p]? = some (lookV (lookP to g n p)) := by
  rw [keysP, List.getElem?_map, List.getElem?_range hp]; rfl
theorem lookL_congr {y y' : Nat → Nat} (h : ∀ b, b < 10 → y b = y' b) : lookL y = lookL y' :=
  List.map_congr_left fun b hb => by rw [h b (List.mem_range.1 hb)]
theorem makemap_next (W : AW) : (W.new (.map [] 0)).next = W.next + 1 := rfl
theorem num_new {KT : TypeId} (W : AW) (n : Nat) : ∃ W2, W2 = (W.new (.map [] 0)).newCells 3 (numsL n (fun _ => 0)) ∧ Ext W W2 ∧ W2.next = W.next + 2 ∧ NumI KT W.next (W.next + 1) n ([], []) W2 := by
  have hE : Ext W (W.new (.map [] 0)) := ⟨by rw [makemap_next]; omega, fun b hb _ => by simp only [AW.new, Tr.get_set]; rw [if_neg (by omega)]⟩
  refine ⟨_, rfl, hE.trans (.newCells _ _ _), rfl, ⟨by omega, ⟨by rw [newCells_next, makemap_next]; omega, by rw [newCells_next, makemap_next]; omega⟩, ⟨[], 0, ?_, rfl, fun j e h => by simp at h⟩, ⟨Tr.nil.lay 0 (numsL n (fun _ => 0)), by rw [newCells_get, if_pos (by rw [makemap_next]), numsL_len], fun q hq => by simp at hq⟩, fun k hk => by cases hk⟩⟩
  rw [newCells_get, if_neg (by rw [makemap_next]; omega)]
  simp only [AW.new, Tr.get_set, if_true]
theorem look_bits {to : Nat → Nat → Nat} {g : Nat → Int} {n p : Nat} {y : Nat → Nat} (hto : ∀ a, to a p < 2 ^ n)
    (hy : ∀ b, b < 10 → ∀ k, (y b).testBit k = true ↔ ∃ t, (to b p).testBit t = true ∧ (b < 10 ∨ (b = 10 ∧ (to 10 p).testBit t = false)) ∧ (g t).toNat = k) : lookL y = lookL (lookP to g n p) :=
  lookL_congr fun b hb => Nat.eq_of_testBit_eq fun k => by
    rw [Bool.eq_iff_iff, hy b hb, lookP, lookN_bit]
    constructor
    · rintro ⟨t, h1, _, h3⟩; exact ⟨t, bit_lt (hto b) h1, h1, h3⟩
    · rintro ⟨t, _, h1, h3⟩; exact ⟨t, h1, .inl hb, h3⟩
end Go.Proofs.YtfnigiojgbeklaaDoor

open Go Go.Eng
namespace Go.Proofs.YtfnigiojgbeklaaDoor
attribute [local congr] undef_congr WpK.congr WpS.congr WpL.congr WpC.congr WpF.congr gotS.congr callS.congr nextS.congr wantS.congr condS.congr
attribute [local irreducible] WpK
attribute [local simp] WpDr_nil WpDr_cons atS_some dwantS_true dwantS_false kindS_light kindS_float kindS_heavy lightS_value floatS_some heavyS_value heavyS_skip heavyS_enter dcallS_some doneS_eq
  isLight isFloat isPlain dLook testBit_dec dChain dLights_nil dLights_skip dLights_one dLight_nil dLight_cons dFreshes_nil dFreshes_one oneF_none oneF_some dFresh_nil dFresh_cons oneL_some oneW_true oneW_false sameV_value dPut dMay valEq arrEq listEq List.getElem?_cons Tr.get_nil dEnd
attribute [local simp] WpS_nil WpS_cons isDefer undef_false wantS_true wantS_false nextS_value nextS_skip nextS_enter callS_some gotS_some aWanted aOp aEvalF aEval opMove opAssign opPick aVal flat flat1 AAct.put opBinOp opConvert opIndex Tr.get_set Tr.get_lay aBin aResults tupled
  aCall aVals aCallB blt_dec ble_dec beq_dec aBinI_add aBinI_sub aBinI_lss aBinI_leq aBinI_gtr aBinI_geq aBinI_eql aBinI_neq index_str len_str len_slice Nat.beq_refl Nat.beq_refl
  opBox opLoad opFieldAddr opIndexAddr acells aAddr opExtract aExtract opUnOp opAlloc opStore opMakeInterface opNilCheck opBuild aParts opBuildSlice aValW
attribute [local simp] und2 und3 und4 und5 und9 und12 und13 und21 und22 und23 und24 und26 und27 und28 und30 und31 und34 und40 und43 und48 und49 und50 und54 und70 und71 und72 und79 und81 und86 und88 und89 und94 und99 und108 und109 und110 und118 und119 und120 und121 und123 und134 und143 und144 und145 und146 und148 und149 und150 und153 und154 und155 und157 und165 und167 und168 und178 und179 und187 und188 und189 und190 und191 und192 und193 und199 und214 und218 field13_0 field13_1 field23_0 field23_1 field24_0 field24_1 field27_0 field27_1 field28_0 field28_1 field49_0 field49_1 field49_2 field50_0 field50_1 field50_2 field70_0 field70_1 field70_2 field71_0 field71_1 field71_2 field72_0 field72_1 field72_2 field108_0 field108_1 field108_2 field109_0 field109_1 field109_2 field120_0 field120_1 field121_0 field121_1 field145_0 field145_1 field145_2 field146_0 field146_1 field146_2 field154_0 field154_1 field155_0 field155_1 field178_0 field178_1 field178_2 field178_3 field179_0 field179_1 field179_2 field179_3 field188_0 field188_1 field189_0 field189_1
set_option maxHeartbeats 4000000
set_option linter.unusedSimpArgs false
set_option linter.unusedVariables false
theorem finer_wp {W : AW} {c n cb : Nat} {to : Nat → Nat → Nat} {g : Nat → Int} (h : ChartAt W c n to) (hT : tabsIn T0 T0.tabs W = true) (h0 : 0 < W.next) (hn : n < 64) (hto : ∀ a p, to a p < 2 ^ n) (hN : NumsAt W cb n g) (hg : ∀ j, j < n → 0 ≤ g j ∧ g j < 64) :
    WpF T0 83 [.pointer (some ⟨c, 0, none⟩), rowV cb n] W (fun v W' => Ext W W' ∧ ∃ b cc, v = rowV b n ∧ W.next ≤ b ∧ b < W'.next ∧ W'.blocks.get b = some ⟨.cells cc n 3, []⟩ ∧ ∀ q, q < n → cc.get q = some (.int .i64 ((numF (keysP to g n)).2.getD q 0 : Nat))) := by
  refine wpFd fun83 rfl ?_
  have p64 := u64_two hn
  have hto64 : ∀ a p, to a p < 18446744073709551616 := fun a p => Nat.lt_trans (hto a p) p64
  obtain ⟨W1, hW1, hE1, hV1, hn1⟩ : ∃ W1, W1 = W.newCells 30 [rowV cb n] ∧ Ext W W1 ∧ Var W1 W.next 30 [rowV cb n] ∧ W1.next = W.next + 1 := ⟨_, rfl, .newCells _ _ _, Var.new _ _ _, rfl⟩
  have vcb := rowV_eq cb n
  have hcl : acells (rowV cb n) = [rowV cb n] := rfl
  have xc : ∀ {j}, j < n → aIndexAddr T0 30 (rowV cb n) (.int .i64 (j : Int)) = some (.pointer (some ⟨cb, j, none⟩)) := fun h => ix30 h
  generalize hcv : rowV cb n = cv at *
  obtain ⟨W2, hW2, hE2, hn2, hI2⟩ := num_new (KT := 192) W1 n
  have mk := mk30 (W1.new (.map [] 0)) n (by omega)
  rw [← hW2, makemap_next] at mk
  have l0 : aLoadVar T0 (W1.new (.map [] 0)) 3 c 0 = some (.int .i64 (n : Int)) := chart_n ((h.ext hE1).ext ⟨by rw [makemap_next]; omega, fun b hb _ => by simp only [AW.new, Tr.get_set]; rw [if_neg (by omega)]⟩)
  have l2 := chart_n ((h.ext hE1).ext hE2)
  try simp only [wpK_assoc]
  refine wpK_reg (fun R hR => by simp [-acells, hcl, ← hW1]; exact hR) ?_
  try simp only [wpK_assoc]
  refine wpK_reg (fun R hR => by simp [opMakeMap, aMakeMap, aOpt, aValW]; exact hR) ?_
  try simp only [wpK_assoc]
  refine wpK_reg (fun R hR => by simp [l0, opMakeSlice, aValW, mk]; exact hR) ?_
  try simp only [wpK_assoc]
  refine wpK_reg (fun R hR => by simp [l2]; exact hR) ?_
  obtain ⟨pb, hpb⟩ : ∃ pb, pb = W.next := ⟨_, rfl⟩
  have e1 : W1.next = pb + 1 := by omega
  rw [e1] at hI2
  rw [← hpb] at hV1
  refine wpK_keep (fun tm' => tm'.get 0 = some (.pointer (some ⟨c, 0, none⟩)) ∧ tm'.get 3 = some (.pointer (some ⟨pb, 0, none⟩)) ∧ tm'.get 5 = some (.map (some (pb + 1))) ∧ tm'.get 6 = some (rowV (pb + 1 + 1) n) ∧ tm'.get 21 = some (.int .i64 (n : Int)) ∧ tm'.get 22 = some (.int .i64 0)) ⟨by simp [← hpb, e1], by simp [← hpb, e1], by simp [← hpb, e1], by simp [← hpb, e1], by simp [← hpb, e1], by simp [← hpb, e1]⟩ ?_
  rintro tm ⟨h0, h3, h5, h6, h21, h22⟩
  try simp only [wpK_assoc]
  refine wpK_while (I := fun q A' W' => A'.n = 60 ∧ A'.tmps.get 0 = some (.pointer (some ⟨c, 0, none⟩)) ∧ A'.tmps.get 3 = some (.pointer (some ⟨pb, 0, none⟩)) ∧ A'.tmps.get 5 = some (.map (some (pb + 1))) ∧ A'.tmps.get 6 = some (rowV (pb + 1 + 1) n) ∧ A'.tmps.get 21 = some (.int .i64 (n : Int)) ∧
      ∃ i : Nat, A'.tmps.get 22 = some (.int .i64 (i : Int)) ∧ q = n - i ∧ i ≤ n ∧ Marks (pb + 3) A'.defers W' ∧ Only (fun b => pb ≤ b) W W' ∧ pb + 3 ≤ W'.next ∧ Var W' pb 30 [cv] ∧ NumI 192 (pb + 1) (pb + 1 + 1) n (numF ((keysP to g n).take i)) W')
    (J := fun A' W' => A'.n = 60 ∧ A'.tmps.get 6 = some (rowV (pb + 1 + 1) n) ∧ Marks (pb + 3) A'.defers W' ∧ Only (fun b => pb ≤ b) W W' ∧ pb + 3 ≤ W'.next ∧ NumI 192 (pb + 1) (pb + 1 + 1) n (numF (keysP to g n)) W') (Rt := fun _ _ => False) (k := n) ?_ ?_ ?_ ?_
  · exact ⟨rfl, by simp [h0], by simp [h3], by simp [h5], by simp [h6], by simp [h21], 0, by simp [h22], rfl, by omega, trivial, (hE1.trans hE2).mono (fun _ _ x => x.elim), by omega, hV1.ext hE2, by rw [List.take_zero]; exact hI2⟩
  · rintro q ⟨tm, n', ds⟩ We ⟨hn', h0', h3, h5, h6, h21, i, h22, hq, hil, hMk, hOe, hne, hVe, hIe⟩ Q' hJ hRt hIt
    simp only at hn' h0' h3 h5 h6 h21 h22 hMk
    subst hn'
    by_cases hlt : i < n
    case neg =>
      have hie : i = n := by omega
      rw [hie, List.take_of_length_le (by rw [keysP_len]; omega)] at hIe
      have hlt' : ¬ (i : Int) < n := by omega
      try simp only [wpK_assoc]
      refine wpK_reg (fun R hR => by simp [h21, h22, hlt']; exact hR) ?_
      try simp only [wpK_assoc]
      first | refine wpK_onF (by simp [hlt]) ?_ | refine wpK_out (by simp [hlt]) ?_ | refine wpK_condF (by simp [hlt]) ?_ | refine wpK_endF (by simp [hlt]) (wpK_skip ?_) | refine wpK_endF (by simp [hlt]) ?_
      exact hJ _ _ ⟨rfl, by simp [h6], hMk, hOe, hne, hIe⟩
    have hlt' : (i : Int) < n := by omega
    try simp only [wpK_assoc]
    refine wpK_reg (fun R hR => by simp [h21, h22, hlt']; exact hR) ?_
    try simp only [wpK_assoc]
    first | refine wpK_onT (by simp [hlt]) ?_ | refine wpK_outT (by simp [hlt]) ?_ | refine wpK_condT (by simp [hlt]) ?_ | refine wpK_endT (by simp [hlt]) ?_
    refine wpK_block ?_
    try simp only [wpK_assoc]
    refine wpK_reg (fun R hR => by simp [h22]; exact hR) ?_
    -- the look's variable
    obtain ⟨p8, hp8⟩ : ∃ p8, p8 = We.next := ⟨_, rfl⟩
    obtain ⟨Wf, hWf, hEf, hLf, hnf⟩ : ∃ Wf, Wf = We.newCells 192 [.int .u64 0, .int .u64 0, .int .u64 0, .int .u64 0, .int .u64 0, .int .u64 0, .int .u64 0, .int .u64 0, .int .u64 0, .int .u64 0] ∧ Ext We Wf ∧ LookAt Wf p8 (fun _ => 0) ∧ Wf.next = p8 + 1 := ⟨_, rfl, .newCells _ _ _, by rw [hp8]; exact Var.new _ _ _, by rw [hp8]; rfl⟩
    try simp only [wpK_assoc]
    refine wpK_reg (fun R hR => by simp [zero192, ← hWf]; exact hR) ?_
    try simp only [wpK_assoc]
    refine wpK_x0 (P := fun Wg => Ext Wf Wg ∧ Wg.next = Wf.next + 2 ∧ Wg.Has Wf.next 0 (.pointer (some ⟨c, 0, none⟩)) ∧ Wg.Has (Wf.next + 1) 0 (.int .i64 (i : Int))) (fun R hR => by
      simp [h0', h22, aEnter, fun70, short_other, aCallV]; rw [callS_none]
      refine (stepsF_wp c i).mono ?_
      rintro _ Wg ⟨hE, rfl, hn3, hB1, hB2⟩
      simp; exact hR Wg (And.intro hE (And.intro hn3 (And.intro hB1 hB2)))) ?_
    rintro Wg ⟨hEg, hng, hB1, hB2⟩
    refine wpK_keep (fun tm' => tm'.get 0 = some (.pointer (some ⟨c, 0, none⟩)) ∧ tm'.get 3 = some (.pointer (some ⟨pb, 0, none⟩)) ∧ tm'.get 5 = some (.map (some (pb + 1))) ∧ tm'.get 6 = some (rowV (pb + 1 + 1) n) ∧ tm'.get 21 = some (.int .i64 (n : Int)) ∧ tm'.get 22 = some (.int .i64 (i : Int)) ∧ tm'.get 7 = some (.int .i64 (i : Int)) ∧ tm'.get 8 = some (.pointer (some ⟨p8, 0, none⟩)) ∧ tm'.get 27 = some (.func (.func 86) ⟨[]⟩ ⟨[.pointer (some ⟨Wf.next, 0, none⟩), .pointer (some ⟨Wf.next + 1, 0, none⟩)]⟩)) ⟨by simp [h0'], by simp [h3], by simp [h5], by simp [h6], by simp [h21], by simp [h22], by simp, by simp [hp8], by simp⟩ ?_
    clear h0' h3 h5 h6 h21 h22
    rintro tm ⟨h0', h3, h5, h6, h21, h22, h7, h8, h27⟩
    refine wpK_range2 (f := 86) (first := ⟨[]⟩) (cap := ⟨[.pointer (some ⟨Wf.next, 0, none⟩), .pointer (some ⟨Wf.next + 1, 0, none⟩)]⟩) (by simp [h27]) fun86 (fun W5 hn5 hW5 hdf hlp => ?_)
    obtain ⟨z, hz⟩ : ∃ z, z = Wg.next := ⟨_, rfl⟩
    rw [← hz] at hn5 hdf hlp
    have hEg5 : Ext Wg W5 := ⟨by omega, fun b hb _ => hW5 b hb⟩
    have hEe5 := (hEf.trans hEg).trans hEg5
    have hO5 : Only (fun b => pb ≤ b) W W5 := hOe.trans (hEe5.mono (fun _ _ x => x.elim))
    have hV5 := hVe.ext hEe5
    have hI5 := hIe.ext hEe5
    have hM5 := hMk.ext hEe5
    have hN5 : NumsAt W5 cb n g := Var.only hN hO5 (by have := hN.1; omega)
    have hc5 := h.only hO5 (by have := h.1; omega)
    have hT5 := tabs_only hT ‹0 < W.next› hO5 (by omega)
    have hL5 := hLf.ext (hEg.trans hEg5)
    have hb15 := hB1.ext hEg5
    have hb25 := hB2.ext hEg5
    have hclt := h.1
    have hcblt := hN.1
    refine (steps1_wp (l := Wg.next + 1) (b1 := Wf.next) (b2 := Wf.next + 1) (c := c) (n := n) (p := i) (to := to) (W0 := W5)
      (C := fun a left V => Only (fun b => b = p8 ∨ b = z + 1 ∨ W5.next ≤ b) W5 V ∧ V.blocks.get (z + 1) = W5.blocks.get (z + 1) ∧ (a < 10 → ∀ t, left.testBit t = true → (to a i).testBit t = true) ∧ ∃ y : Nat → Nat, LookAt V p8 y ∧ (∀ b, y b < 18446744073709551616) ∧ ∀ b, b < 10 → ∀ k, (y b).testBit k = true ↔ ∃ t, (to b i).testBit t = true ∧ (b < a ∨ (b = a ∧ left.testBit t = false)) ∧ (g t).toNat = k)
      (D := fun _ => False) (Kx := fun b => b = p8 ∨ b = z + 1) ⟨?_, ?_, ?_, ?_, ?_, ?_⟩ (by omega) (fun a => hto64 a i) ⟨.refl _ _, rfl, fun _ t ht => ht, fun _ => 0, hL5, fun _ => by show 0 < 18446744073709551616; omega, fun b hb k => ?_⟩).mono ?_
    · rintro a x V V' ⟨c1, c2, c3, y, c4, c5, c6⟩ he
      exact ⟨c1.trans (he.mono (fun b _ hb => .inr (.inr hb))), by rw [he.2 (z + 1) (by have := c1.1; omega) (by omega)]; exact c2, c3, y, c4.only he (by omega), c5, c6⟩
    · rintro V V' hf he; exact hf
    · rintro a x V ⟨c1, c2⟩
      exact ⟨c1.1, by omega, tabs_only hT5 (by omega) c1 (by omega), hb15.only c1 (by omega), hb25.only c1 (by omega), hc5.only c1 (by omega), by omega, by omega, by omega⟩
    · rintro a V ha ⟨c1, c2, c3, y, c4, c5, c6⟩
      refine ⟨c1, c2, fun _ t ht => ht, y, c4, c5, fun b hb k => ?_⟩
      rw [c6 b hb]
      constructor
      · rintro ⟨t, t1, t2, t3⟩; exact ⟨t, t1, .inl (by omega), t3⟩
      · rintro ⟨t, t1, t2 | ⟨t2, t4⟩, t3⟩
        · refine ⟨t, t1, ?_, t3⟩
          rcases Nat.lt_or_ge b a with e | e
          · exact .inl e
          · exact .inr ⟨by omega, by simp⟩
        · rw [t2, t4] at t1; cases t1
    · intro b hb; omega
    · rintro a left k V ha ⟨c1, c2, c3, y, c4, c5, c6⟩ hl hk1 hk2
      have hl' := c2.trans hlp
      rw [hz] at hl'
      refine ⟨_, _, _, _, _, _, _, _, _, _, tm.set 28 (.agg ⟨[.int .i64 (i : Int), .int .i64 (a : Int), .int .i64 (k : Int)]⟩), hl', rfl, ?_⟩
      obtain ⟨Va, s1, s2, s3, s4⟩ := storeVar_new (T := T0) (W := V) (t := 72) (z := [.int .i64 0, .int .i64 0, .int .i64 0]) (v := .agg ⟨[.int .i64 (i : Int), .int .i64 (a : Int), .int .i64 (k : Int)]⟩) inf72 (by rw [is72]; rfl) (by rw [is72]; rfl) rfl
      have s4 : Var Va V.next 72 [.int .i64 (i : Int), .int .i64 (a : Int), .int .i64 (k : Int)] := s4
      have nv := c1.1
      refine wpR ?_
      try simp only [wpK_assoc]
      refine wpK_reg1 (fun R hR => by simp [zero72, s1]; exact hR) ?_
      have hla : Va.blocks.get (z + 1) = V.blocks.get (z + 1) := s3.2 _ (by omega) (fun x => x)
      have hla' := hla.trans (c2.trans hlp)
      rw [hz] at hla'
      refine ⟨rfl, _, _, _, _, _, _, _, _, hla', ?_⟩
      rw [← hz] at hla' ⊢
      generalize hbz : (AObj.loop LoopState.busy _ _ _ _ _ _ _ _) = bz
      obtain ⟨Vy, hVy, hOy, hny⟩ : ∃ Vy, Vy = Va.setObj (z + 1) bz ∧ Only (fun b => b = z + 1) Va Vy ∧ Vy.next = Va.next := ⟨_, rfl, setObj_only _ _ _, rfl⟩
      rw [← hVy]
      have hly : Vy.blocks.get (z + 1) = some ⟨bz, []⟩ := by rw [hVy, setObj_get, if_pos rfl]
      have n3 := s3.1
      have cOy : Only (fun b => b = p8 ∨ b = z + 1 ∨ W5.next ≤ b) W5 Vy := (c1.trans (s3.mono (fun _ _ x => x.elim))).trans (hOy.mono (fun b _ hb => .inr (.inl hb)))
      have c4y := (c4.ext s3).only hOy (by omega)
      have s4y := s4.only hOy (by omega)
      have hkn : k < n := bit_lt (hto a i) (c3 ha k hk1)
      obtain ⟨g1, g2⟩ := hg k hkn
      obtain ⟨u, hu⟩ : ∃ u : Nat, g k = (u : Int) := ⟨(g k).toNat, by omega⟩
      have hu64 : u < 64 := by omega
      have e91 := s4y.load1 (T := T0) und3 rfl (j := 1) (v := .int .i64 (a : Int)) rfl
      have e92 := s4y.load1 (T := T0) und3 rfl (j := 2) (v := .int .i64 (k : Int)) rfl
      have e8 := look_load c4y ha
      have e3 := (hV5.only cOy (by omega)).load1 (T := T0) und30 rfl (j := 0) (v := cv) rfl
      have xk := xc hkn
      have eN := NumsAt.load (Var.only hN5 cOy (by omega)) hkn
      rw [hu] at eN
      have i8 := ix192 p8 0 a ha
      rw [Nat.zero_add] at i8
      have hone := one_wp u hu64 Vy
      have hor := aBinI_or .u64 (y a) (1 <<< u) (c5 a) (by rw [Nat.one_shiftLeft]; show 2 ^ u < 2 ^ 64; exact Nat.pow_lt_pow_right (by omega) hu64)
      have hor64 : y a ||| 1 <<< u < 18446744073709551616 := Nat.or_lt_two_pow (n := 64) (c5 a) (by rw [Nat.one_shiftLeft]; exact Nat.pow_lt_pow_right (by omega) hu64)
      have hob : ∀ k', (y a ||| 1 <<< u).testBit k' = true ↔ (y a).testBit k' = true ∨ u = k' := fun k' => by rw [Nat.testBit_or, Bool.or_eq_true, bit_one, decide_eq_true_eq]
      obtain ⟨o, ho⟩ : ∃ o, o = 1 <<< u := ⟨_, rfl⟩
      rw [← ho] at hone hor hob hor64
      obtain ⟨x, hx⟩ : ∃ x, x = y a ||| o := ⟨_, rfl⟩
      rw [← hx] at hor hob hor64
      obtain ⟨Vz, w1, w2, w3, w4⟩ := look_put c4y ha x
      have nw := w3.1
      refine wpK_block1 ?_
      try simp only [wpK_assoc]
      refine wpK_qn (wr := Tr.nil |>.set 29 0 |>.set 30 1 |>.set 31 2 |>.set 32 3 |>.set 33 4 |>.set 34 5 |>.set 35 6 |>.set 36 7 |>.set 37 8 |>.set 38 9 |>.set 39 10 |>.set 40 11) (bits := Tr.nil.lay 0 [0, 1, 3, 7, 0, 0, 32, 112, 240, 496, 1023, 2047, 4095]) (ord := [0, 1, 2, 3, 4, 5, 6, 7, 8, 9, 10, 11, 12]) (by kernel_rfl) (by kernel_rfl) (by kernel_rfl) (fun G hG => by
        simp [h3, h8, e91, e92, e8, e3, xk, eN, i8, vcb, aEnter, fun49, short_other, aCallV]
        rw [dcallS_none]
        refine hone.mono ?_
        rintro _ W9 ⟨e9, rfl⟩; subst W9
        simp [h3, h8, e91, e92, e8, e3, xk, eN, i8, vcb, hor, w1, nw]
        exact hG) ?_
      simp only [leaves_normal]
      have hlz : Vz.blocks.get (z + 1) = some ⟨bz, []⟩ := by rw [w3.2 (z + 1) (by omega) (by omega)]; exact hly
      subst hbz
      refine ⟨_, _, _, _, _, _, _, _, _, hlz, ⟨by rw [setObj_next]; omega, fun b hb hk => by rw [setObj_get, if_neg (by omega), w3.2 b (by omega) (by omega), hOy.2 b (by omega) (by omega), s3.2 b hb (fun x => x)]⟩, true, rfl, fun _ => ⟨(cOy.trans (w3.mono (fun b _ hb => .inl hb))).trans ((setObj_only Vz (z + 1) _).mono (fun b _ hb => .inr (.inl hb))), by rw [setObj_get, if_pos rfl]; exact hlp.symm, fun _ t ht => ?_, fun j => if j = a then x else y j, w4.only (setObj_only Vz (z + 1) _) (by omega), fun b => ?_, fun b hb k' => ?_⟩, (fun h => by cases h)⟩
      · rw [dropLow_bit hk1 hk2] at ht
        simp only [Bool.and_eq_true] at ht
        exact c3 ha t ht.1
      · simp only
        split
        · exact hor64
        · exact c5 b
      · simp only
        by_cases e : b = a
        · rw [if_pos e, hob, e, c6 a ha]
          constructor
          · rintro (⟨t, t1, t2 | ⟨_, t2⟩, t3⟩ | t1)
            · omega
            · exact ⟨t, t1, .inr ⟨rfl, by rw [dropLow_bit hk1 hk2, t2]; rfl⟩, t3⟩
            · exact ⟨k, c3 ha k hk1, .inr ⟨rfl, by rw [dropLow_bit hk1 hk2]; simp⟩, by rw [hu]; omega⟩
          · rintro ⟨t, t1, t2 | ⟨_, t2⟩, t3⟩
            · omega
            · by_cases ek : t = k
              · rw [ek, hu] at t3; exact .inr (by omega)
              · rw [dropLow_bit hk1 hk2, decide_eq_true ek, Bool.and_true] at t2
                exact .inl ⟨t, t1, .inr ⟨rfl, t2⟩, t3⟩
        · rw [if_neg e, c6 b hb]
          constructor
          · rintro ⟨t, t1, t2 | ⟨t2, _⟩, t3⟩
            · exact ⟨t, t1, .inl t2, t3⟩
            · exact absurd t2 e
          · rintro ⟨t, t1, t2 | ⟨t2, _⟩, t3⟩
            · exact ⟨t, t1, .inl t2, t3⟩
            · exact absurd t2 e
    · simp only [Nat.zero_testBit]
      constructor
      · intro hf; cases hf
      · rintro ⟨t, t1, t2 | ⟨t2, t4⟩, t3⟩
        · omega
        · rw [t2, t4] at t1; cases t1
    · rintro _ W6 hh
      obtain ⟨c1, c2, c3, y, c4, c5, c6⟩ := hh.resolve_right (fun x => x)
      have hl6 := c2.trans hlp
      rw [hz] at hl6
      refine ⟨_, _, _, _, _, _, _, _, _, hl6, (fun h => by cases h), ?_⟩
      rw [← hz]
      generalize hex : (AObj.loop LoopState.exhausted _ _ _ _ _ _ _ _) = ex
      obtain ⟨W7, hW7, hO7⟩ : ∃ W7, W7 = W6.setObj (z + 1) ex ∧ Only (fun b => b = z + 1) W6 W7 := ⟨_, rfl, setObj_only _ _ _⟩
      rw [← hW7]
      clear hW7 hex
      have cO7 : Only (fun b => b = p8 ∨ b = z + 1 ∨ W5.next ≤ b) W5 W7 := c1.trans (hO7.mono (fun b _ hb => .inr (.inl hb)))
      have n7 := cO7.1
      have hL7 := c4.only hO7 (by omega)
      have hkey : lookV y = lookV (lookP to g n i) := by unfold lookV; rw [look_bits (fun a => hto a i) (fun b hb k => by
        rw [c6 b hb])]
      have hkv := look_whole hL7
      rw [hkey] at hkv
      have hI7 := hI5.only cO7 (by omega) (by omega)
      have hsl : (numF ((keysP to g n).take i)).2.length = i := by rw [numF_len, List.length_take, keysP_len]; omega
      have hstep := hI7.step und190 (look_key (lookP to g n i)) (by rw [hsl]; exact hlt)
      rw [hsl, ← numF_take (keysP_at to g hlt)] at hstep
      generalize lookV (lookP to g n i) = ky at hkv hstep
      have hao := ix30 (b := pb + 1 + 1) hlt
      have hwi := i64_succ i (by omega)
      simp only [goOn, leaves_normal, behind_normal]
      have fin : ∀ {W8 : AW} {tm' : Tr Value}, Only (fun b => b = pb + 1 ∨ b = pb + 1 + 1) W7 W8 → NumI 192 (pb + 1) (pb + 1 + 1) n (numF ((keysP to g n).take (i + 1))) W8 →
          Marks (pb + 3) ({ target := .collected z, args := #[] } :: ds) W8 ∧ Only (fun b => pb ≤ b) W W8 ∧ pb + 3 ≤ W8.next ∧ Var W8 pb 30 [cv] := by
        intro W8 tm' hO8 hI8
        have cO8 : Only (fun b => b = pb + 1 ∨ b = pb + 1 + 1 ∨ b = p8 ∨ b = z + 1 ∨ W5.next ≤ b) W5 W8 := (cO7.mono (fun b _ hb => .inr (.inr hb))).trans (hO8.mono (fun b _ hb => hb.elim .inl (fun x => .inr (.inl x))))
        have n8 := cO8.1
        have hlow := hMk.low
        refine ⟨⟨z, rfl, by omega, by omega, by rw [cO8.2 z (by omega) (by omega)]; exact hdf, fun d hd e => ?_, hM5.only cO8 (fun d hd r hr r1 _ hk => ?_)⟩, hO5.trans (cO8.mono (fun b _ hb => by omega)), by omega, hV5.only cO8 (by omega)⟩
        · have := hlow d hd z e; omega
        · have := hlow d hd r hr; omega
      rcases hstep with ⟨j, W8, s1, s2, s3, s4, s5⟩ | ⟨s1, s2, W8, W9, s3, s4, s5, s6, s7, s8, s9⟩
      · obtain ⟨f1, f2, f3, f4⟩ := fin (tm' := tm) s4 s5
        try simp only [wpK_assoc]
        refine wpK_reg (fun R hR => by simp [h5, h8, hkv, opLookup, s1, opExtract, aExtract]; exact hR) ?_
        try simp only [wpK_assoc]
        refine wpK_reg (fun R hR => by simp [opUnOp, aUn]; exact hR) ?_
        try simp only [wpK_assoc]
        first | refine wpK_onF (by simp []) ?_ | refine wpK_out (by simp []) ?_ | refine wpK_condF (by simp []) ?_ | refine wpK_endF (by simp []) (wpK_skip ?_) | refine wpK_endF (by simp []) ?_
        try simp only [wpK_assoc]
        refine wpK_reg1 (fun R hR => by simp [h6, h7, hao, opStore, s2]; exact hR) ?_
        simp only [leaves_normal, behind_normal]
        try simp only [wpK_assoc]
        refine wpK_reg1 (fun R hR => by simp [h22, hwi]; exact hR) ?_
        exact hIt (n - (i + 1)) _ _ (by omega) ⟨rfl, by simp [h0'], by simp [h3], by simp [h5], by simp [h6], by simp [h21], i + 1, by simp, rfl, by omega, f1, f2, f3, f4, s5⟩
      · obtain ⟨f1, f2, f3, f4⟩ := fin (tm' := tm) s8 s9
        try simp only [wpK_assoc]
        refine wpK_reg (fun R hR => by simp [h5, h8, hkv, opLookup, s1, opExtract, aExtract]; exact hR) ?_
        try simp only [wpK_assoc]
        refine wpK_reg (fun R hR => by simp [opUnOp, aUn]; exact hR) ?_
        try simp only [wpK_assoc]
        first | refine wpK_onT (by simp []) ?_ | refine wpK_outT (by simp []) ?_ | refine wpK_condT (by simp []) ?_ | refine wpK_endT (by simp []) ?_
        try simp only [wpK_assoc]
        refine wpK_reg (fun R hR => by simp [h5, s2]; exact hR) ?_
        have hkv8 : aLoadVar T0 W7 192 p8 0 = some ky := hkv
        try simp only [wpK_assoc]
        refine wpK_reg1 (fun R hR => by simp [h5, h8, hkv, opMapUpdate, s3]; exact hR) ?_
        simp only [leaves_normal, behind_normal]
        try simp only [wpK_assoc]
        refine wpK_reg1 (fun R hR => by simp [h6, h7, hao, opStore, s6]; exact hR) ?_
        simp only [leaves_normal, behind_normal]
        try simp only [wpK_assoc]
        refine wpK_reg1 (fun R hR => by simp [h22, hwi]; exact hR) ?_
        exact hIt (n - (i + 1)) _ _ (by omega) ⟨rfl, by simp [h0'], by simp [h3], by simp [h5], by simp [h6], by simp [h21], i + 1, by simp, rfl, by omega, f1, f2, f3, f4, s9⟩
  · rintro A' W' hf; exact hf.elim
  · rintro ⟨tm, n', ds⟩ Wz ⟨hn', h6, hMk, hOz, hnz, hIz⟩
    simp only at hn' h6 hMk
    subst hn'
    try simp only [wpK_assoc]
    refine wpK_reg (fun R hR => by simp [h6]; exact hR) ?_
    obtain ⟨Wy, g1, g2⟩ := hMk.collects
    obtain ⟨cc, hc1, hc2⟩ := hIz.out
    have ho := hIz.lt.2
    refine wpK_ret ⟨.inr rfl, Wy, g1, [rowV (pb + 1 + 1) n], by simp, ⟨by have := hOz.1; have := g2.1; omega, fun b hb _ => by rw [g2.2 b (by have := hOz.1; omega) (by omega)]; exact hOz.2 b hb (by omega)⟩, pb + 1 + 1, cc, rfl, by omega, by have := g2.1; omega, by rw [g2.2 _ ho (by omega)]; exact hc1, fun q hq => hc2 q (by rw [numF_len, keysP_len]; exact hq)⟩
end Go.Proofs.YtfnigiojgbeklaaDoor

open Go Go.Eng
namespace Go.Proofs.YtfnigiojgbeklaaDoor
attribute [local congr] undef_congr WpK.congr WpS.congr WpL.congr WpC.congr WpF.congr gotS.congr callS.congr nextS.congr wantS.congr condS.congr
attribute [local irreducible] WpK
attribute [local simp] WpDr_nil WpDr_cons atS_some dwantS_true dwantS_false kindS_light kindS_float kindS_heavy lightS_value floatS_some heavyS_value heavyS_skip heavyS_enter dcallS_some doneS_eq
  isLight isFloat isPlain dLook testBit_dec dChain dLights_nil dLights_skip dLights_one dLight_nil dLight_cons dFreshes_nil dFreshes_one oneF_none oneF_some dFresh_nil dFresh_cons oneL_some oneW_true oneW_false sameV_value dPut dMay valEq arrEq listEq List.getElem?_cons Tr.get_nil dEnd
attribute [local simp] WpS_nil WpS_cons isDefer undef_false wantS_true wantS_false nextS_value nextS_skip nextS_enter callS_some gotS_some aWanted aOp aEvalF aEval opMove opAssign opPick aVal flat flat1 AAct.put opBinOp opConvert opIndex Tr.get_set Tr.get_lay aBin aResults tupled
  aCall aVals aCallB blt_dec ble_dec beq_dec aBinI_add aBinI_sub aBinI_lss aBinI_leq aBinI_gtr aBinI_geq aBinI_eql aBinI_neq index_str len_str len_slice Nat.beq_refl Nat.beq_refl
  opBox opLoad opFieldAddr opIndexAddr acells aAddr opExtract aExtract opUnOp opAlloc opStore opMakeInterface opNilCheck opBuild aParts opBuildSlice aValW
attribute [local simp] und2 und3 und4 und5 und9 und12 und13 und21 und22 und23 und24 und26 und27 und28 und30 und31 und34 und40 und43 und48 und49 und50 und54 und70 und71 und72 und79 und81 und86 und88 und89 und94 und99 und108 und109 und110 und118 und119 und120 und121 und123 und134 und143 und144 und145 und146 und148 und149 und150 und153 und154 und155 und157 und165 und167 und168 und178 und179 und187 und188 und189 und190 und191 und192 und193 und199 und214 und218 field13_0 field13_1 field23_0 field23_1 field24_0 field24_1 field27_0 field27_1 field28_0 field28_1 field49_0 field49_1 field49_2 field50_0 field50_1 field50_2 field70_0 field70_1 field70_2 field71_0 field71_1 field71_2 field72_0 field72_1 field72_2 field108_0 field108_1 field108_2 field109_0 field109_1 field109_2 field120_0 field120_1 field121_0 field121_1 field145_0 field145_1 field145_2 field146_0 field146_1 field146_2 field154_0 field154_1 field155_0 field155_1 field178_0 field178_1 field178_2 field178_3 field179_0 field179_1 field179_2 field179_3 field188_0 field188_1 field189_0 field189_1
set_option maxHeartbeats 4000000
set_option linter.unusedSimpArgs false
set_option linter.unusedVariables false
structure NumOk (key : Nat → Value) (i : Nat) (s : List Value × List Nat) : Prop where
  len : s.2.length = i
  val : ∀ q, q < i → ∃ c, s.2[q]? = some c ∧ s.1[c]? = some (key q)
  dis : ∀ (a b : Nat) k k', s.1[a]? = some k → s.1[b]? = some k' → keyEq k k' = true → a = b
  sur : ∀ c, c < s.1.length → ∃ q : Nat, q < i ∧ s.2[q]? = some c ∧ ∀ (q' : Nat) c', q' < q → s.2[q']? = some c' → c' < c
theorem NumOk.step {key : Nat → Value} {n i : Nat} {s : List Value × List Nat} (hself : ∀ i j, i < n → j < n → (keyEq (key i) (key j) = true ↔ key i = key j)) (h : NumOk key i s) (hi : i < n) : NumOk key (i + 1) (numStep s (key i)) := by
  have hof : ∀ (a : Nat) k, s.1[a]? = some k → ∃ q, q < i ∧ k = key q := fun a k ha => by
    obtain ⟨q, h1, h2, _⟩ := h.sur a (List.getElem?_eq_some_iff.1 ha).1
    obtain ⟨c, h3, h4⟩ := h.val q h1
    rw [h2] at h3; cases h3
    rw [ha] at h4; cases h4
    exact ⟨q, h1, rfl⟩
  have hlen := h.len
  cases hf : s.1.findIdx? (fun x => keyEq (key i) x) with
  | some j =>
    have hst : numStep s (key i) = (s.1, s.2 ++ [j]) := by unfold numStep; rw [hf]
    rw [hst]
    obtain ⟨hj, hk, _⟩ := List.findIdx?_eq_some_iff_getElem.1 hf
    have hje : s.1[j]? = some s.1[j] := List.getElem?_eq_getElem hj
    obtain ⟨q0, hq0, hq0e⟩ := hof j _ hje
    have hki : s.1[j] = key i := by
      rw [hq0e] at hk ⊢
      exact ((hself i q0 hi (by omega)).1 hk).symm
    refine ⟨by simp [h.len], fun q hq => ?_, h.dis, fun c hc => ?_⟩
    · by_cases e : q = i
      · exact ⟨j, by rw [e, ← h.len]; simp, by rw [e, ← hki]; exact hje⟩
      · obtain ⟨c, h1, h2⟩ := h.val q (by omega)
        exact ⟨c, by rw [List.getElem?_append_left (by omega)]; exact h1, h2⟩
    · obtain ⟨q, h1, h2, h3⟩ := h.sur c hc
      refine ⟨q, by omega, by rw [List.getElem?_append_left (by omega)]; exact h2, fun q' c' hq' hc' => ?_⟩
      rw [List.getElem?_append_left (by omega)] at hc'
      exact h3 q' c' hq' hc'
  | none =>
    have hst : numStep s (key i) = (s.1 ++ [key i], s.2 ++ [s.1.length]) := by unfold numStep; rw [hf]
    rw [hst]
    have hno : ∀ (a : Nat) k, s.1[a]? = some k → keyEq (key i) k = false := fun a k ha => by
      have := List.findIdx?_eq_none_iff.1 hf k (List.mem_of_getElem? ha)
      simpa using this
    have hno2 : ∀ (a : Nat) k, s.1[a]? = some k → keyEq k (key i) = false := fun a k ha => by
      obtain ⟨q, hq, rfl⟩ := hof a k ha
      cases hh : keyEq (key q) (key i) with
      | false => rfl
      | true =>
        have e := (hself q i (by omega) hi).1 hh
        have := hno a _ ha
        rw [e, (hself i i hi hi).2 rfl] at this; cases this
    refine ⟨by simp [h.len], fun q hq => ?_, fun a b k k' ha hb hk => ?_, fun c hc => ?_⟩
    · by_cases e : q = i
      · exact ⟨s.1.length, by rw [e, ← h.len]; simp, by rw [e]; simp⟩
      · obtain ⟨c, h1, h2⟩ := h.val q (by omega)
        exact ⟨c, by rw [List.getElem?_append_left (by omega)]; exact h1, by rw [List.getElem?_append_left (List.getElem?_eq_some_iff.1 h2).1]; exact h2⟩
    · have hla := (List.getElem?_eq_some_iff.1 ha).1
      have hlb := (List.getElem?_eq_some_iff.1 hb).1
      simp at hla hlb
      by_cases e1 : a < s.1.length
      · rw [List.getElem?_append_left e1] at ha
        by_cases e2 : b < s.1.length
        · rw [List.getElem?_append_left e2] at hb
          exact h.dis a b k k' ha hb hk
        · have : b = s.1.length := by omega
          subst this
          simp at hb; subst hb
          rw [hno2 a k ha] at hk; cases hk
      · have : a = s.1.length := by omega
        subst this
        simp at ha; subst ha
        by_cases e2 : b < s.1.length
        · rw [List.getElem?_append_left e2] at hb
          rw [hno b k' hb] at hk; cases hk
        · omega
    · simp at hc
      by_cases e : c < s.1.length
      · obtain ⟨q, h1, h2, h3⟩ := h.sur c e
        refine ⟨q, by omega, by rw [List.getElem?_append_left (by omega)]; exact h2, fun q' c' hq' hc' => ?_⟩
        rw [List.getElem?_append_left (by omega)] at hc'
        exact h3 q' c' hq' hc'
      · have : c = s.1.length := by omega
        subst this
        refine ⟨i, by omega, by rw [← h.len]; simp, fun q' c' hq' hc' => ?_⟩
        rw [List.getElem?_append_left (by omega)] at hc'
        obtain ⟨c'', g1, g2⟩ := h.val q' hq'
        rw [hc'] at g1; cases g1
        exact (List.getElem?_eq_some_iff.1 g2).1
theorem numF_ok {key : Nat → Value} {n : Nat} (hself : ∀ i j, i < n → j < n → (keyEq (key i) (key j) = true ↔ key i = key j)) : ∀ i, i ≤ n → NumOk key i (numF ((List.range i).map key))
  | 0, _ => ⟨rfl, fun q hq => by omega, fun a b k k' ha => by simp [numF] at ha, fun c hc => by simp [numF] at hc⟩
  | i + 1, hi => by
    rw [List.range_succ, List.map_append]
    show NumOk key (i + 1) (numF ((List.range i).map key ++ [key i]))
    rw [numF_snoc]
    exact (numF_ok hself i (by omega)).step hself (by omega)
def nCl (n : Nat) (key : Nat → Value) (q : Nat) : Nat := (numF ((List.range n).map key)).2.getD q 0
def nCnt (n : Nat) (key : Nat → Value) : Nat := (numF ((List.range n).map key)).1.length
theorem nCl_spec {key : Nat → Value} {n : Nat} (hself : ∀ i j, i < n → j < n → (keyEq (key i) (key j) = true ↔ key i = key j)) :
    (∀ i, i < n → nCl n key i < nCnt n key) ∧ (∀ i j, i < n → j < n → (nCl n key i = nCl n key j ↔ key i = key j)) ∧ (∀ c, c < nCnt n key → ∃ q, q < n ∧ nCl n key q = c ∧ ∀ q', q' < q → nCl n key q' < c) := by
  have h := numF_ok hself n (Nat.le_refl n)
  have hget : ∀ q c, (numF ((List.range n).map key)).2[q]? = some c → nCl n key q = c := fun q c hq => by unfold nCl; rw [List.getD_eq_getElem?_getD, hq]; rfl
  refine ⟨fun i hi => ?_, fun i j hi hj => ?_, fun c hc => ?_⟩
  · obtain ⟨c, h1, h2⟩ := h.val i hi
    rw [hget i c h1]; exact (List.getElem?_eq_some_iff.1 h2).1
  · obtain ⟨c, h1, h2⟩ := h.val i hi
    obtain ⟨d, g1, g2⟩ := h.val j hj
    rw [hget i c h1, hget j d g1]
    constructor
    · intro e
      subst e
      rw [h2] at g2; exact Option.some.inj g2
    · intro e
      exact h.dis c d _ _ h2 g2 ((hself i j hi hj).2 e)
  · obtain ⟨q, h1, h2, h3⟩ := h.sur c hc
    refine ⟨q, h1, hget q c h2, fun q' hq' => ?_⟩
    obtain ⟨c', g1, _⟩ := h.val q' (by omega)
    rw [hget q' c' g1]
    exact h3 q' c' hq' g1
theorem look_keys (y : Nat → Nat) : allB (isKey1 (.int .u64)) (lookL y) = true := by
  show allB (isKey1 (.int .u64)) [.int .u64 (y 0 : Nat), .int .u64 (y 1 : Nat), .int .u64 (y 2 : Nat), .int .u64 (y 3 : Nat), .int .u64 (y 4 : Nat), .int .u64 (y 5 : Nat), .int .u64 (y 6 : Nat), .int .u64 (y 7 : Nat), .int .u64 (y 8 : Nat), .int .u64 (y 9 : Nat)] = true
  kernel_rfl
theorem look_eq (y y' : Nat → Nat) : keyEq (lookV y) (lookV y') = true ↔ lookV y = lookV y' := by
  have h1 : keyEq (lookV y) (lookV y') = keysEq (lookL y) (lookL y') := rfl
  rw [h1, keysEq_spec (look_keys y) (look_keys y')]
  simp only [lookV, Value.agg.injEq, Array.mk.injEq]
theorem look_same {y y' : Nat → Nat} : lookV y = lookV y' ↔ ∀ b, b < 10 → y b = y' b := by
  constructor
  · intro h b hb
    have h : lookL y = lookL y' := by
      simp only [lookV, Value.agg.injEq, Array.mk.injEq] at h; exact h
    have h1 := lookL_at y hb
    rw [h, lookL_at y' hb] at h1
    have := Option.some.inj h1
    injection this with _ h2; omega
  · intro h; unfold lookV; rw [lookL_congr h]
def gF (to : Nat → Nat → Nat) (n : Nat) (g : Nat → Int) : Nat → Int := fun p => (nCl n (fun p => lookV (lookP to g n p)) p : Nat)
def gIt (to : Nat → Nat → Nat) (n : Nat) : Nat → Nat → Int
  | 0 => fun _ => 0
  | d + 1 => gF to n (gIt to n d)
theorem gF_iff (to : Nat → Nat → Nat) (g : Nat → Int) {n p q : Nat} (hp : p < n) (hq : q < n) : gF to n g p = gF to n g q ↔ ∀ a, a < 10 → lookN (to a p) g n = lookN (to a q) g n := by
  obtain ⟨_, h2, _⟩ := nCl_spec (n := n) (key := fun p => lookV (lookP to g n p)) (fun i j _ _ => look_eq _ _)
  have := (h2 p q hp hq).trans look_same
  unfold gF
  rw [show ((nCl n (fun p => lookV (lookP to g n p)) p : Nat) : Int) = ((nCl n (fun p => lookV (lookP to g n p)) q : Nat) : Int) ↔ nCl n (fun p => lookV (lookP to g n p)) p = nCl n (fun p => lookV (lookP to g n p)) q from by omega]
  exact this
def Comes (n : Nat) (g : Nat → Int) : Prop := ∀ j, j < n → 0 ≤ g j ∧ ∀ c : Nat, (c : Int) < g j → ∃ q, q < j ∧ g q = c
theorem gF_comes (to : Nat → Nat → Nat) (n : Nat) (g : Nat → Int) : Comes n (gF to n g) := by
  obtain ⟨h1, _, h3⟩ := nCl_spec (n := n) (key := fun p => lookV (lookP to g n p)) (fun i j _ _ => look_eq _ _)
  intro j hj
  unfold gF
  generalize (fun p => lookV (lookP to g n p)) = key at *
  refine ⟨by omega, fun c hc => ?_⟩
  obtain ⟨q, q1, q2, q3⟩ := h3 c (by have := h1 j hj; omega)
  refine ⟨q, ?_, by omega⟩
  rcases Nat.lt_trichotomy q j with e | e | e
  · exact e
  · subst e; omega
  · have := q3 j e; omega
theorem gIt_comes (to : Nat → Nat → Nat) (n : Nat) : ∀ d, Comes n (gIt to n d)
  | 0 => fun j _ => ⟨Int.le_refl _, fun c hc => by have : (c : Int) < 0 := hc; omega⟩
  | d + 1 => gF_comes to n _
theorem comes_small {n : Nat} {g : Nat → Int} (h : Comes n g) : ∀ j, j < n → 0 ≤ g j ∧ g j ≤ j := by
  intro j
  induction j using Nat.strongRecOn with
  | _ j ih =>
    intro hj
    obtain ⟨h0, h1⟩ := h j hj
    refine ⟨h0, Int.not_lt.1 fun hlt => ?_⟩
    obtain ⟨q, hq, e⟩ := h1 j hlt
    have := (ih q hq (by omega)).2
    omega
theorem numTo_one {r : Nat → Nat → Bool} {g G : Nat → Int} {n : Nat} (hr : ∀ p q, p < n → q < n → (r p q = true ↔ G p = G q)) (hG : Comes n G) (h : NumTo r g n) : ∀ j, j < n → g j = G j := by
  have key : ∀ j, j ≤ n → (∀ q, q < j → G q < newN r j) ∧ (∀ c, c < newN r j → ∃ q, q < j ∧ G q = c) ∧ ∀ q, q < j → g q = G q := by
    intro j
    induction j with
    | zero => exact fun _ => ⟨fun q hq => by omega, fun c hc => by simp [newN] at hc, fun q hq => by omega⟩
    | succ j ih =>
      intro hj
      obtain ⟨i1, i2, i3⟩ := ih (by omega)
      obtain ⟨g0, g1⟩ := hG j (by omega)
      by_cases hn : isNew r j
      · have hne : ∀ k, k < j → G k ≠ G j := fun k hk e => by
          have := (hr j k (by omega) (by omega)).2 e.symm
          rw [hn k hk] at this; cases this
        have hN : newN r (j + 1) = newN r j + 1 := by simp [newN, hn]
        have e : G j = newN r j := by
          rcases Int.lt_trichotomy (G j) (newN r j) with e | e | e
          · obtain ⟨q, q1, q2⟩ := i2 (G j).toNat (by omega)
            exact absurd (by omega) (hne q q1)
          · exact e
          · obtain ⟨q, q1, q2⟩ := g1 _ e
            have := i1 q q1; omega
        refine ⟨fun q hq => ?_, fun c hc => ?_, fun q hq => ?_⟩
        · rw [hN]
          by_cases eq : q = j
          · rw [eq]; omega
          · have := i1 q (by omega); omega
        · by_cases ec : c = newN r j
          · exact ⟨j, by omega, by rw [ec]; exact e⟩
          · obtain ⟨q, q1, q2⟩ := i2 c (by omega)
            exact ⟨q, by omega, q2⟩
        · by_cases eq : q = j
          · subst eq
            rcases (h q (by omega)).2 with ⟨_, h2⟩ | ⟨k, k1, k2, _⟩
            · rw [h2, e]
            · rw [hn k k1] at k2; cases k2
          · exact i3 q (by omega)
      · have hN : newN r (j + 1) = newN r j := by simp [newN, hn]
        have hex : ∃ k, k < j ∧ G k = G j := by
          refine Classical.byContradiction fun hc => hn fun k hk => ?_
          cases hb : r j k with
          | false => rfl
          | true => exact absurd ⟨k, hk, ((hr j k (by omega) (by omega)).1 hb).symm⟩ hc
        obtain ⟨k0, k01, k02⟩ := hex
        refine ⟨fun q hq => ?_, fun c hc => ?_, fun q hq => ?_⟩
        · rw [hN]
          by_cases eq : q = j
          · rw [eq, ← k02]; exact i1 k0 k01
          · exact i1 q (by omega)
        · rw [hN] at hc
          obtain ⟨q, q1, q2⟩ := i2 c hc
          exact ⟨q, by omega, q2⟩
        · by_cases eq : q = j
          · subst eq
            rcases (h q (by omega)).2 with ⟨h1, _⟩ | ⟨k, k1, k2, _, k4⟩
            · exact absurd h1 hn
            · rw [k4, i3 k k1]; exact ((hr q k (by omega) (by omega)).1 k2).symm
          · exact i3 q (by omega)
  exact fun j hj => (key n (Nat.le_refl n)).2.2 j hj
end Go.Proofs.YtfnigiojgbeklaaDoor

open Go Go.Eng
namespace Go.Proofs.YtfnigiojgbeklaaDoor
attribute [local congr] undef_congr WpK.congr WpS.congr WpL.congr WpC.congr WpF.congr gotS.congr callS.congr nextS.congr wantS.congr condS.congr
attribute [local irreducible] WpK
attribute [local simp] WpDr_nil WpDr_cons atS_some dwantS_true dwantS_false kindS_light kindS_float kindS_heavy lightS_value floatS_some heavyS_value heavyS_skip heavyS_enter dcallS_some doneS_eq
  isLight isFloat isPlain dLook testBit_dec dChain dLights_nil dLights_skip dLights_one dLight_nil dLight_cons dFreshes_nil dFreshes_one oneF_none oneF_some dFresh_nil dFresh_cons oneL_some oneW_true oneW_false sameV_value dPut dMay valEq arrEq listEq List.getElem?_cons Tr.get_nil dEnd
attribute [local simp] WpS_nil WpS_cons isDefer undef_false wantS_true wantS_false nextS_value nextS_skip nextS_enter callS_some gotS_some aWanted aOp aEvalF aEval opMove opAssign opPick aVal flat flat1 AAct.put opBinOp opConvert opIndex Tr.get_set Tr.get_lay aBin aResults tupled
  aCall aVals aCallB blt_dec ble_dec beq_dec aBinI_add aBinI_sub aBinI_lss aBinI_leq aBinI_gtr aBinI_geq aBinI_eql aBinI_neq index_str len_str len_slice Nat.beq_refl Nat.beq_refl
  opBox opLoad opFieldAddr opIndexAddr acells aAddr opExtract aExtract opUnOp opAlloc opStore opMakeInterface opNilCheck opBuild aParts opBuildSlice aValW
attribute [local simp] und2 und3 und4 und5 und9 und12 und13 und21 und22 und23 und24 und26 und27 und28 und30 und31 und34 und40 und43 und48 und49 und50 und54 und70 und71 und72 und79 und81 und86 und88 und89 und94 und99 und108 und109 und110 und118 und119 und120 und121 und123 und134 und143 und144 und145 und146 und148 und149 und150 und153 und154 und155 und157 und165 und167 und168 und178 und179 und187 und188 und189 und190 und191 und192 und193 und199 und214 und218 field13_0 field13_1 field23_0 field23_1 field24_0 field24_1 field27_0 field27_1 field28_0 field28_1 field49_0 field49_1 field49_2 field50_0 field50_1 field50_2 field70_0 field70_1 field70_2 field71_0 field71_1 field71_2 field72_0 field72_1 field72_2 field108_0 field108_1 field108_2 field109_0 field109_1 field109_2 field120_0 field120_1 field121_0 field121_1 field145_0 field145_1 field145_2 field146_0 field146_1 field146_2 field154_0 field154_1 field155_0 field155_1 field178_0 field178_1 field178_2 field178_3 field179_0 field179_1 field179_2 field179_3 field188_0 field188_1 field189_0 field189_1
set_option maxHeartbeats 4000000
set_option linter.unusedSimpArgs false
set_option linter.unusedVariables false
def subT (to : Nat → Nat → Nat) (g : Nat → Int) (p q : Nat) : Prop := ∀ a t, a < 10 → (to a p).testBit t = true → ∃ t', (to a q).testBit t' = true ∧ g t = g t'
theorem gF_sub {to : Nat → Nat → Nat} {g : Nat → Int} {n p q : Nat} (hto : ∀ a p, to a p < 2 ^ n) (hg : ∀ j, j < n → 0 ≤ g j) (hp : p < n) (hq : q < n) : gF to n g p = gF to n g q ↔ subT to g p q ∧ subT to g q p := by
  rw [gF_iff to g hp hq]
  constructor
  · intro h
    have one : ∀ p q, (∀ a, a < 10 → lookN (to a p) g n = lookN (to a q) g n) → subT to g p q := fun p q h a t ha ht => by
      have htn := bit_lt (hto a p) ht
      have h1 := (lookN_bit (to a p) g (g t).toNat n).2 ⟨t, htn, ht, rfl⟩
      rw [h a ha] at h1
      obtain ⟨t', t1, t2, t3⟩ := (lookN_bit _ g _ n).1 h1
      have := hg t htn
      have := hg t' t1
      exact ⟨t', t2, by omega⟩
    exact ⟨one p q h, one q p (fun a ha => (h a ha).symm)⟩
  · rintro ⟨h1, h2⟩ a ha
    refine Nat.eq_of_testBit_eq fun k => ?_
    rw [Bool.eq_iff_iff, lookN_bit, lookN_bit]
    constructor
    · rintro ⟨t, _, t2, t3⟩
      obtain ⟨t', u1, u2⟩ := h1 a t ha t2
      exact ⟨t', bit_lt (hto a q) u1, u1, by rw [← u2]; exact t3⟩
    · rintro ⟨t, _, t2, t3⟩
      obtain ⟨t', u1, u2⟩ := h2 a t ha t2
      exact ⟨t', bit_lt (hto a p) u1, u1, by rw [← u2]; exact t3⟩
theorem gIt_fine {to : Nat → Nat → Nat} {n : Nat} (hto : ∀ a p, to a p < 2 ^ n) : ∀ (d p q : Nat), p < n → q < n → gIt to n (d + 1) p = gIt to n (d + 1) q → gIt to n d p = gIt to n d q
  | 0, p, q, _, _, _ => rfl
  | d + 1, p, q, hp, hq, h => by
    have c1 := gIt_comes to n (d + 1)
    have c0 := gIt_comes to n d
    have h : gF to n (gIt to n (d + 1)) p = gF to n (gIt to n (d + 1)) q := h
    show gF to n (gIt to n d) p = gF to n (gIt to n d) q
    obtain ⟨h1, h2⟩ := (gF_sub hto (fun j hj => (c1 j hj).1) hp hq).1 h
    have down : ∀ p q, subT to (gIt to n (d + 1)) p q → subT to (gIt to n d) p q := fun p q h a t ha ht => by
      obtain ⟨t', u1, u2⟩ := h a t ha ht
      exact ⟨t', u1, gIt_fine hto d t t' (bit_lt (hto a p) ht) (bit_lt (hto a q) u1) u2⟩
    exact (gF_sub hto (fun j hj => (c0 j hj).1) hp hq).2 ⟨down p q h1, down q p h2⟩
theorem comes_one {n : Nat} {g G : Nat → Int} (hg : Comes n g) (hG : Comes n G) (h : ∀ p q, p < n → q < n → (g p = g q ↔ G p = G q)) : ∀ j, j < n → g j = G j := by
  intro j
  induction j using Nat.strongRecOn with
  | _ j ih =>
    intro hj
    obtain ⟨a0, a1⟩ := hg j hj
    obtain ⟨b0, b1⟩ := hG j hj
    rcases Int.lt_trichotomy (g j) (G j) with e | e | e
    · obtain ⟨q, q1, q2⟩ := b1 (g j).toNat (by omega)
      have h1 := ih q q1 (by omega)
      have h2 := (h q j (by omega) hj).1 (by omega)
      omega
    · exact e
    · obtain ⟨q, q1, q2⟩ := a1 (G j).toNat (by omega)
      have h1 := ih q q1 (by omega)
      have h2 := (h q j (by omega) hj).2 (by omega)
      omega
def eqs (n : Nat) (g : Nat → Int) : Nat := cntR n fun p q => decide (g p = g q)
theorem eqs_less {to : Nat → Nat → Nat} {n : Nat} (hto : ∀ a p, to a p < 2 ^ n) {d : Nat} (h : ¬ ∀ j, j < n → gIt to n (d + 1) j = gIt to n d j) : eqs n (gIt to n (d + 1)) < eqs n (gIt to n d) := by
  refine countP_less (fun x hx hd => ?_) ?_
  · obtain ⟨x1, x2⟩ := prs_mem.1 (show (x.1, x.2) ∈ prs n from hx)
    simp only [decide_eq_true_eq] at hd ⊢
    exact gIt_fine hto d _ _ x1 x2 hd
  · refine Classical.byContradiction fun hc => h (comes_one (gIt_comes to n _) (gIt_comes to n _) fun p q hp hq => ⟨gIt_fine hto d p q hp hq, fun e => ?_⟩)
    refine Classical.byContradiction fun hne => hc ⟨(p, q), prs_mem.2 ⟨hp, hq⟩, by simp only [decide_eq_false_iff_not]; exact hne, by simp only [decide_eq_true_eq]; exact e⟩
theorem finer2_wp {W : AW} {c n cb : Nat} {to : Nat → Nat → Nat} {g : Nat → Int} (h : ChartAt W c n to) (hT : tabsIn T0 T0.tabs W = true) (h0 : 0 < W.next) (hn : n < 64) (hto : ∀ a p, to a p < 2 ^ n) (hN : NumsAt W cb n g) (hg : ∀ j, j < n → 0 ≤ g j ∧ g j < 64) :
    WpF T0 83 [.pointer (some ⟨c, 0, none⟩), rowV cb n] W (fun v W' => Ext W W' ∧ ∃ b, v = rowV b n ∧ W.next ≤ b ∧ NumsAt W' b n (gF to n g)) := by
  refine (finer_wp h hT h0 hn hto hN hg).mono ?_
  rintro v W' ⟨hE, b, cc, hv, hb, hb2, h1, h2⟩
  refine ⟨hE, b, hv, hb, hb2, cc, by rw [numsL_len]; exact h1, fun i hi => ?_⟩
  rw [numsL_len] at hi
  rw [h2 i hi, numsL_at _ hi]; rfl
end Go.Proofs.YtfnigiojgbeklaaDoor

open Go Go.Eng
namespace Go.Proofs.YtfnigiojgbeklaaDoor
attribute [local congr] undef_congr WpK.congr WpS.congr WpL.congr WpC.congr WpF.congr gotS.congr callS.congr nextS.congr wantS.congr condS.congr
attribute [local irreducible] WpK
attribute [local simp] WpDr_nil WpDr_cons atS_some dwantS_true dwantS_false kindS_light kindS_float kindS_heavy lightS_value floatS_some heavyS_value heavyS_skip heavyS_enter dcallS_some doneS_eq
  isLight isFloat isPlain dLook testBit_dec dChain dLights_nil dLights_skip dLights_one dLight_nil dLight_cons dFreshes_nil dFreshes_one oneF_none oneF_some dFresh_nil dFresh_cons oneL_some oneW_true oneW_false sameV_value dPut dMay valEq arrEq listEq List.getElem?_cons Tr.get_nil dEnd
attribute [local simp] WpS_nil WpS_cons isDefer undef_false wantS_true wantS_false nextS_value nextS_skip nextS_enter callS_some gotS_some aWanted aOp aEvalF aEval opMove opAssign opPick aVal flat flat1 AAct.put opBinOp opConvert opIndex Tr.get_set Tr.get_lay aBin aResults tupled
  aCall aVals aCallB blt_dec ble_dec beq_dec aBinI_add aBinI_sub aBinI_lss aBinI_leq aBinI_gtr aBinI_geq aBinI_eql aBinI_neq index_str len_str len_slice Nat.beq_refl Nat.beq_refl
  opBox opLoad opFieldAddr opIndexAddr acells aAddr opExtract aExtract opUnOp opAlloc opStore opMakeInterface opNilCheck opBuild aParts opBuildSlice aValW
attribute [local simp] und2 und3 und4 und5 und9 und12 und13 und21 und22 und23 und24 und26 und27 und28 und30 und31 und34 und40 und43 und48 und49 und50 und54 und70 und71 und72 und79 und81 und86 und88 und89 und94 und99 und108 und109 und110 und118 und119 und120 und121 und123 und134 und143 und144 und145 und146 und148 und149 und150 und153 und154 und155 und157 und165 und167 und168 und178 und179 und187 und188 und189 und190 und191 und192 und193 und199 und214 und218 field13_0 field13_1 field23_0 field23_1 field24_0 field24_1 field27_0 field27_1 field28_0 field28_1 field49_0 field49_1 field49_2 field50_0 field50_1 field50_2 field70_0 field70_1 field70_2 field71_0 field71_1 field71_2 field72_0 field72_1 field72_2 field108_0 field108_1 field108_2 field109_0 field109_1 field109_2 field120_0 field120_1 field121_0 field121_1 field145_0 field145_1 field145_2 field146_0 field146_1 field146_2 field154_0 field154_1 field155_0 field155_1 field178_0 field178_1 field178_2 field178_3 field179_0 field179_1 field179_2 field179_3 field188_0 field188_1 field189_0 field189_1
set_option maxHeartbeats 4000000
set_option linter.unusedSimpArgs false
set_option linter.unusedVariables false
theorem bs134 (W : AW) (b n : Nat) : aBuildSlice T0 W 134 1 [(0, rowV b n)] = some (.slice (some ⟨W.next, 0, none⟩) 1 2, W.newCells 30 [rowV b n]) := by
  have h : aBuildSlice T0 W 134 1 [(0, .slice (some ⟨b, 0, none⟩) n (2 * n))] = some (.slice (some ⟨W.next, 0, none⟩) 1 2, W.newCells 30 [.slice (some ⟨b, 0, none⟩) n (2 * n)]) := by
    generalize 2 * n = c
    kernel_rfl
  exact h
structure LastR (W W0 : AW) (v : Value) (n k b : Nat) (g : Nat → Int) (K : Nat → Prop) : Prop where
  row : ∃ us, us.length = k + 1 ∧ HeldN W v (k + 1) us 30 1 K ∧ us[k]? = some (rowV b n)
  low : ∀ b', K b' → W0.next ≤ b'
  up : ∀ b', K b' → b' < W.next
  num : NumsAt W b n g
  own : ¬ K b ∧ W0.next ≤ b
theorem LastR.ext {W W' W0 : AW} {v : Value} {n k b : Nat} {g : Nat → Int} {K : Nat → Prop} (h : LastR W W0 v n k b g K) (he : Ext W W') : LastR W' W0 v n k b g K := by
  obtain ⟨⟨us, h1, h2, h3⟩, h4, h5, h6, h7⟩ := h
  exact ⟨⟨us, h1, h2.only he (fun _ _ _ x => x), h3⟩, h4, fun b hb => Nat.lt_of_lt_of_le (h5 b hb) he.1, Var.ext h6 he, h7⟩
theorem LastR.at {W W0 : AW} {v : Value} {n k b : Nat} {g : Nat → Int} {K : Nat → Prop} (h : LastR W W0 v n k b g K) : (∃ A c, v = .slice A (k + 1) c) ∧ ∃ b0 o, aIndexAddr T0 134 v (.int .i64 (k : Int)) = some (.pointer (some ⟨b0, o, none⟩)) ∧ aLoadVar T0 W 30 b0 o = some (rowV b n) := by
  obtain ⟨⟨us, h1, h2, h3⟩, h4, h5, h6, h7⟩ := h
  obtain ⟨b0, c, rfl, _, _, g5⟩ := h2.has (by omega)
  refine ⟨⟨_, _, rfl⟩, b0, k, ?_, load_of und30 rfl (g5 k _ h3)⟩
  have := indexAddr_slice (T := T0) (t := 134) (e := 30) (sz := 1) und134 sz30 (b := b0) (o := 0) (len := k + 1) (c := c) (i := k) (k := .i64) (by omega)
  rw [Nat.zero_add, Nat.mul_one] at this; exact this
theorem LastR.push {W W0 : AW} {v : Value} {n k b b' : Nat} {g g' : Nat → Int} {K : Nat → Prop} (h : LastR W W0 v n k b g K) (hk : k < 100000) (h0 : W0.next ≤ W.next) (hn : NumsAt W b' n g') (hb : ¬ K b') (hb2 : W0.next ≤ b') :
    ∃ v' W', aAppend T0 (W.newCells 30 [rowV b' n]) [134, 134] [v, .slice (some ⟨W.next, 0, none⟩) 1 2] = some (v', W') ∧ Only K W W' ∧ LastR W' W0 v' n (k + 1) b' g' (fun b => K b ∨ b = W.next + 1) := by
  obtain ⟨⟨us, h1, h2, h3⟩, h4, hup, h6, h7⟩ := h
  have hE : Ext W (W.newCells 30 [rowV b' n]) := .newCells _ _ _
  obtain ⟨v', W', a1, a2, a3, a4⟩ := append_heldN (T := T0) (W := W.newCells 30 [rowV b' n]) (t := 134) (el := 30) (i := Tryd.t30) (sz := 1) (by omega) und134 inf30 is30 z30 rfl (h2.only hE (fun _ _ _ y => y)) (bx := W.next) (c := 2) (u := [rowV b' n]) rfl ((Var.new W 30 [rowV b' n]).cellsAt 0 1 (by simp)) rfl (by rw [by30]; omega) (by omega)
  have hnl := hn.1
  have a41 := a4.1
  rw [newCells_next] at a41 a2
  have hO : Only K W W' := ⟨by omega, fun b hb hk => by rw [a4.2 b (by rw [newCells_next]; omega) hk, hE.2 b hb (fun y => y)]⟩
  refine ⟨v', W', a1, hO, ⟨us ++ [rowV b' n], by simp [h1], a3.mono (fun b hb => hb.elim .inl (fun e => .inr (by rw [newCells_next] at e; exact e))), by rw [← h1]; simp⟩, fun x hx => ?_, fun x hx => ?_, Var.only hn hO hb, fun hx => hx.elim hb (fun e => by omega), hb2⟩
  · rcases hx with hx | hx
    · exact h4 x hx
    · omega
  · rcases hx with hx | hx
    · have := hup x hx; omega
    · omega
theorem rounds_wp {W : AW} {c n : Nat} {to : Nat → Nat → Nat} (h : ChartAt W c n to) (hT : tabsIn T0 T0.tabs W = true) (h0 : 0 < W.next) (hn : n < 64) (hto : ∀ a p, to a p < 2 ^ n) :
    WpF T0 66 [.pointer (some ⟨c, 0, none⟩)] W (fun v W' => Ext W W' ∧ ∃ k b K, LastR W' W v n k b (gIt to n k) K ∧ k < 100000 ∧ ∀ j, j < n → gIt to n (k + 1) j = gIt to n k j) := by
  refine wpF fun66 rfl ?_
  have l0 := chart_n h
  have mk := mk30 W n (by omega)
  obtain ⟨W1, hW1, hE1, hN1, hn1⟩ : ∃ W1, W1 = W.newCells 3 (numsL n (fun _ => 0)) ∧ Ext W W1 ∧ NumsAt W1 W.next n (fun _ => 0) ∧ W1.next = W.next + 1 := ⟨_, rfl, .newCells _ _ _, Var.new _ _ _, rfl⟩
  rw [← hW1] at mk
  have hb := bs134 W1 W.next n
  obtain ⟨W2, hW2, hE2, hL2⟩ : ∃ W2, W2 = W1.newCells 30 [rowV W.next n] ∧ Ext W1 W2 ∧ LastR W2 W (.slice (some ⟨W1.next, 0, none⟩) 1 2) n 0 W.next (gIt to n 0) (fun b => b = W1.next) := by
    refine ⟨_, rfl, .newCells _ _ _, ⟨[rowV W.next n], rfl, .inl ⟨rfl, W1.next, Tr.nil.lay 0 [rowV W.next n], [], rfl, by omega, rfl, by rw [newCells_next]; omega, by rw [newCells_get, if_pos rfl], fun i hi => by rw [Tr.get_lay, if_pos (by omega)]; simp, by simp⟩, rfl⟩, fun b hb => by omega, fun b hb => by rw [newCells_next]; omega, Var.ext hN1 (.newCells _ _ _), by omega, Nat.le_refl _⟩
  rw [← hW2] at hb
  try simp only [wpK_assoc]
  refine wpK_reg (fun R hR => by simp []; exact hR) ?_
  try simp only [wpK_assoc]
  refine wpK_reg (fun R hR => by simp [l0, opMakeSlice, aValW, mk, hb]; exact hR) ?_
  try simp only [wpK_assoc]
  refine wpK_while1 (I := fun q A' W' => A'.n = 29 ∧ A'.defers = [] ∧ A'.tmps.get 0 = some (.pointer (some ⟨c, 0, none⟩)) ∧ Ext W W' ∧ ∃ (k b : Nat) (v : Value) (K : Nat → Prop), A'.tmps.get 3 = some v ∧ LastR W' W v n k b (gIt to n k) K ∧ q = eqs n (gIt to n k) ∧ k + q ≤ eqs n (gIt to n 0))
    (J := fun _ _ => False) (Rt := fun A' W' => A'.defers = [] ∧ Ext W W' ∧ ∃ (k b : Nat) (v : Value) (K : Nat → Prop), A'.tmps.get 2 = some v ∧ LastR W' W v n k b (gIt to n k) K ∧ k < 100000 ∧ ∀ j, j < n → gIt to n (k + 1) j = gIt to n k j) (k := eqs n (gIt to n 0)) ?_ ?_ ?_ ?_
  · exact ⟨rfl, rfl, by simp, hE1.trans hE2, 0, W.next, _, _, by simp, hL2, rfl, by omega⟩
  · rintro q ⟨tm, n, ds⟩ Wa ⟨hn, hd, h0, hEa, k, b, v, K, h3, hL, hq, hkq⟩ Q' hJ hRt hI
    simp only at hn hd h0
    subst hn; subst hd
    simp only at h3
    have hk5 : k < 100000 := by
      have h1 : eqs n (gIt to n 0) ≤ (prs n).length := List.countP_le_length
      have h2 : (prs n).length = n * n := prs_len n
      have h3 : n * n ≤ 64 * 64 := Nat.mul_le_mul (by omega) (by omega)
      omega
    obtain ⟨⟨Ar, cr, hv⟩, b0, o, a1, a2⟩ := hL.at
    have ll : aLen T0 Wa 134 v = some (.int .i64 ((k + 1 : Nat) : Int)) := by rw [hv]; exact len_slice und134 _ _ _
    have w1 : IntKind.i64.wrap (k : Int) = (k : Int) := i64_in (by omega)
    have ha := h.ext hEa
    have na := hEa.1
    have hTa := tabs_ext hT ‹0 < W.next› hEa
    have hcm := comes_small (gIt_comes to n k)
    refine wpK_block1 ?_
    try simp only [wpK_assoc]
    refine wpK_reg (fun R hR => by simp [h3, ll, w1, a1, a2]; exact hR) ?_
    try simp only [wpK_assoc]
    refine wpK_x1 (P := fun (b' : Nat) Wb => Ext Wa Wb ∧ Wa.next ≤ b' ∧ NumsAt Wb b' n (gIt to n (k + 1))) (fun R hR => by
      simp [h0, aEnter, fun83, short_other, aCallV]; rw [callS_none]
      refine (finer2_wp ha hTa (by omega) hn hto hL.num (fun j hj => by have := hcm j hj; omega)).mono ?_
      rintro _ Wb ⟨hEb, b', rfl, hb', hNb⟩
      simp; exact hR b' Wb (And.intro hEb (And.intro hb' hNb))) ?_
    rintro b' Wb ⟨hEb, hb', hNb⟩
    have hLb := hL.ext hEb
    have heq := equal_wp hNb hLb.num (by omega)
    have nb := hEb.1
    by_cases hst : ∀ j, j < n → gIt to n (k + 1) j = gIt to n k j
    · rw [decide_eq_true hst] at heq
      try simp only [wpK_assoc]
      refine wpK_reg (fun R hR => by
          simp [aEnter, fun84, short_other, aCallV]; rw [callS_none]
          refine (heq).mono ?_
          rintro _ W9 ⟨e9, rfl⟩; subst W9
          simp []; exact hR) ?_
      try simp only [wpK_assoc]
      first | refine wpK_onT (by simp []) ?_ | refine wpK_outT (by simp []) ?_ | refine wpK_condT (by simp []) ?_ | refine wpK_endT (by simp []) ?_
      try simp only [wpK_assoc]
      refine wpK_reg (fun R hR => by simp [h3]; exact hR) ?_
      refine wpK_ret ?_
      exact hRt _ _ ⟨rfl, hEa.trans hEb, k, b, v, K, by simp, hLb, hk5, hst⟩
    · rw [decide_eq_false hst] at heq
      have hlt := eqs_less hto hst
      obtain ⟨v', Wc, p1, p2, p3⟩ := hLb.push hk5 (by omega) hNb (fun hk => by have := hL.up b' hk; omega) (by omega)
      have hb34 := bs134 Wb b' n
      try simp only [wpK_assoc]
      refine wpK_reg (fun R hR => by
          simp [aEnter, fun84, short_other, aCallV]; rw [callS_none]
          refine (heq).mono ?_
          rintro _ W9 ⟨e9, rfl⟩; subst W9
          simp []; exact hR) ?_
      try simp only [wpK_assoc]
      first | refine wpK_onF (by simp []) ?_ | refine wpK_out (by simp []) ?_ | refine wpK_condF (by simp []) ?_ | refine wpK_endF (by simp []) (wpK_skip ?_) | refine wpK_endF (by simp []) ?_
      try simp only [wpK_assoc]
      refine wpK_reg1 (fun R hR => by simp [h3, hb34, p1]; exact hR) ?_
      simp only [leaves_normal, behind_normal]
      have nc := p2.1
      exact hI (eqs n (gIt to n (k + 1))) _ _ (by omega) ⟨rfl, rfl, by simp [h0], ⟨by omega, fun x hx _ => by rw [p2.2 x (by omega) (fun hk => by have := hL.low x hk; omega), hEb.2 x (by omega) (fun y => y)]; exact hEa.2 x hx (fun y => y)⟩, k + 1, b', v', _, by simp, p3, rfl, by omega⟩
  · rintro A' W' ⟨hd, hE, k, b, v, K, h2, hL, hk, hst⟩
    exact ⟨.inr rfl, hd, [v], by simp [h2], hE, k, b, K, hL, hk, hst⟩
  · rintro A' W' hf; exact hf.elim
theorem classes_wp {W : AW} {c n : Nat} {to : Nat → Nat → Nat} (h : ChartAt W c n to) (hT : tabsIn T0 T0.tabs W = true) (h0 : 0 < W.next) (hn : n < 64) (hto : ∀ a p, to a p < 2 ^ n) :
    WpF T0 37 [.pointer (some ⟨c, 0, none⟩)] W (fun v W' => Ext W W' ∧ ∃ k b, v = rowV b n ∧ NumsAt W' b n (gIt to n k) ∧ ∀ j, j < n → gIt to n (k + 1) j = gIt to n k j) := by
  refine wpF fun37 rfl ?_
  try simp only [wpK_assoc]
  refine wpK_reg (fun R hR => by simp []; exact hR) ?_
  try simp only [wpK_assoc]
  refine wpK_x1 (P := fun v Wb => Ext W Wb ∧ ∃ k b K, LastR Wb W v n k b (gIt to n k) K ∧ k < 100000 ∧ ∀ j, j < n → gIt to n (k + 1) j = gIt to n k j) (fun R hR => by
    simp [aEnter, fun66, short_other, aCallV]; rw [callS_none]
    refine (rounds_wp h hT h0 hn hto).mono ?_
    rintro v Wb hP
    simp; exact hR v Wb hP) ?_
  rintro v Wb ⟨hE, k, b, K, hL, hk, hst⟩
  obtain ⟨⟨Ar, cr, hv⟩, b0, o, a1, a2⟩ := hL.at
  have ll : aLen T0 Wb 134 v = some (.int .i64 ((k + 1 : Nat) : Int)) := by rw [hv]; exact len_slice und134 _ _ _
  have w1 : IntKind.i64.wrap (k : Int) = (k : Int) := i64_in (by omega)
  try simp only [wpK_assoc]
  refine wpK_reg (fun R hR => by simp [ll, w1, a1, a2]; exact hR) ?_
  exact wpK_ret ⟨.inr rfl, rfl, [rowV b n], by simp, hE, k, b, rfl, hL.num, hst⟩
end Go.Proofs.YtfnigiojgbeklaaDoor

open Go Go.Eng
namespace Go.Proofs.YtfnigiojgbeklaaDoor
attribute [local congr] undef_congr WpK.congr WpS.congr WpL.congr WpC.congr WpF.congr gotS.congr callS.congr nextS.congr wantS.congr condS.congr
attribute [local irreducible] WpK
attribute [local simp] WpDr_nil WpDr_cons atS_some dwantS_true dwantS_false kindS_light kindS_float kindS_heavy lightS_value floatS_some heavyS_value heavyS_skip heavyS_enter dcallS_some doneS_eq
  isLight isFloat isPlain dLook testBit_dec dChain dLights_nil dLights_skip dLights_one dLight_nil dLight_cons dFreshes_nil dFreshes_one oneF_none oneF_some dFresh_nil dFresh_cons oneL_some oneW_true oneW_false sameV_value dPut dMay valEq arrEq listEq List.getElem?_cons Tr.get_nil dEnd
attribute [local simp] WpS_nil WpS_cons isDefer undef_false wantS_true wantS_false nextS_value nextS_skip nextS_enter callS_some gotS_some aWanted aOp aEvalF aEval opMove opAssign opPick aVal flat flat1 AAct.put opBinOp opConvert opIndex Tr.get_set Tr.get_lay aBin aResults tupled
  aCall aVals aCallB blt_dec ble_dec beq_dec aBinI_add aBinI_sub aBinI_lss aBinI_leq aBinI_gtr aBinI_geq aBinI_eql aBinI_neq index_str len_str len_slice Nat.beq_refl Nat.beq_refl
  opBox opLoad opFieldAddr opIndexAddr acells aAddr opExtract aExtract opUnOp opAlloc opStore opMakeInterface opNilCheck opBuild aParts opBuildSlice aValW
attribute [local simp] und2 und3 und4 und5 und9 und12 und13 und21 und22 und23 und24 und26 und27 und28 und30 und31 und34 und40 und43 und48 und49 und50 und54 und70 und71 und72 und79 und81 und86 und88 und89 und94 und99 und108 und109 und110 und118 und119 und120 und121 und123 und134 und143 und144 und145 und146 und148 und149 und150 und153 und154 und155 und157 und165 und167 und168 und178 und179 und187 und188 und189 und190 und191 und192 und193 und199 und214 und218 field13_0 field13_1 field23_0 field23_1 field24_0 field24_1 field27_0 field27_1 field28_0 field28_1 field49_0 field49_1 field49_2 field50_0 field50_1 field50_2 field70_0 field70_1 field70_2 field71_0 field71_1 field71_2 field72_0 field72_1 field72_2 field108_0 field108_1 field108_2 field109_0 field109_1 field109_2 field120_0 field120_1 field121_0 field121_1 field145_0 field145_1 field145_2 field146_0 field146_1 field146_2 field154_0 field154_1 field155_0 field155_1 field178_0 field178_1 field178_2 field178_3 field179_0 field179_1 field179_2 field179_3 field188_0 field188_1 field189_0 field189_1
set_option maxHeartbeats 4000000
set_option linter.unusedSimpArgs false
set_option linter.unusedVariables false
theorem sub_mem {n L : Nat} {ss : List Tri} (hg : GoodS n L ss) (hL : L ≤ 10) (g : Nat → Int) (p q : Nat) : subT (toS ss) g p q ↔ ∀ a t : Nat, ((p : Int), (a : Int), (t : Int)) ∈ ss → ∃ t' : Nat, ((q : Int), (a : Int), (t' : Int)) ∈ ss ∧ g t = g t' := by
  constructor
  · intro h a t hm
    have ha : a < 10 := by have := (hg _ hm).2.2.2.1; simp only at this; omega
    obtain ⟨t', h1, h2⟩ := h a t ha (by rw [toS_bit _ rfl hg]; exact decide_eq_true hm)
    rw [toS_bit _ rfl hg] at h1
    exact ⟨t', of_decide_eq_true h1, h2⟩
  · intro h a t ha hb
    rw [toS_bit _ rfl hg] at hb
    obtain ⟨t', h1, h2⟩ := h a t (of_decide_eq_true hb)
    exact ⟨t', by rw [toS_bit _ rfl hg]; exact decide_eq_true h1, h2⟩
theorem rel_it {n L : Nat} {ss : List Tri} (hg : GoodS n L ss) (hL : L ≤ 10) : ∀ (d p q : Nat), p < n → q < n → (itG ss ss true d p q = true ↔ gIt (toS ss) n d p = gIt (toS ss) n d q)
  | 0, p, q, _, _ => by simp [itG, gIt]
  | d + 1, p, q, hp, hq => by
    have ih := rel_it hg hL d
    have hc := gIt_comes (toS ss) n d
    have hto := fun a p => toS_lt hg a p
    have hlt : ∀ {p a t : Nat}, ((p : Int), (a : Int), (t : Int)) ∈ ss → t < n := fun hm => by
      have := (hg _ hm).2.2.2.2.2; simp only at this; omega
    have e1 : itG ss ss true (d + 1) p q = true ↔ itG ss ss true d p q = true ∧ ansB (itG ss ss true d) p q ss ss = true ∧ ansB (fun i j => itG ss ss true d j i) q p ss ss = true := by
      show stepG ss ss true (itG ss ss true d) p q = true ↔ _
      simp only [stepG, Bool.and_eq_true, Bool.not_true, Bool.false_or]
    rw [e1, ansB_iff hg hg, ansB_iff hg hg]
    show _ ↔ gF (toS ss) n (gIt (toS ss) n d) p = gF (toS ss) n (gIt (toS ss) n d) q
    rw [gF_sub hto (fun j hj => (hc j hj).1) hp hq, sub_mem hg hL, sub_mem hg hL]
    constructor
    · rintro ⟨_, h1, h2⟩
      refine ⟨fun a t hm => ?_, fun a t hm => ?_⟩
      · obtain ⟨t', u1, u2⟩ := h1 a t hm
        exact ⟨t', u1, (ih t t' (hlt hm) (hlt u1)).1 u2⟩
      · obtain ⟨t', u1, u2⟩ := h2 a t hm
        exact ⟨t', u1, ((ih t' t (hlt u1) (hlt hm)).1 u2).symm⟩
    · rintro ⟨h1, h2⟩
      refine ⟨(ih p q hp hq).2 (gIt_fine hto d p q hp hq ?_), fun a t hm => ?_, fun a t hm => ?_⟩
      · exact (gF_sub hto (fun j hj => (hc j hj).1) hp hq).2 ⟨(sub_mem hg hL _ _ _).2 h1, (sub_mem hg hL _ _ _).2 h2⟩
      · obtain ⟨t', u1, u2⟩ := h1 a t hm
        exact ⟨t', u1, (ih t t' (hlt hm) (hlt u1)).2 u2⟩
      · obtain ⟨t', u1, u2⟩ := h2 a t hm
        exact ⟨t', u1, (ih t' t (hlt u1) (hlt hm)).2 u2.symm⟩
theorem lookN_congr {s : Nat} {g g' : Nat → Int} : ∀ {m : Nat}, (∀ t, t < m → g t = g' t) → lookN s g m = lookN s g' m
  | 0, _ => rfl
  | m + 1, h => by
    have ih := lookN_congr (s := s) (m := m) fun t ht => h t (by omega)
    simp only [lookN, ih, h m (by omega)]
theorem gF_congr {to : Nat → Nat → Nat} {n : Nat} {g g' : Nat → Int} (h : ∀ t, t < n → g t = g' t) : gF to n g = gF to n g' := by
  have e : lookP to g n = lookP to g' n := by
    funext p a
    exact lookN_congr h
  unfold gF; rw [e]
theorem gIt_stays {to : Nat → Nat → Nat} {n k : Nat} (h : ∀ j, j < n → gIt to n (k + 1) j = gIt to n k j) : ∀ m j, j < n → gIt to n (k + m) j = gIt to n k j
  | 0, j, _ => rfl
  | m + 1, j, hj => by
    show gF to n (gIt to n (k + m)) j = _
    rw [gF_congr (gIt_stays h m)]
    exact h j hj
theorem gIt_one {to : Nat → Nat → Nat} {n k k' : Nat} (h : ∀ j, j < n → gIt to n (k + 1) j = gIt to n k j) (h' : ∀ j, j < n → gIt to n (k' + 1) j = gIt to n k' j) : ∀ j, j < n → gIt to n k j = gIt to n k' j := fun j hj => by
  rcases Nat.le_total k k' with e | e
  · obtain ⟨m, rfl⟩ := Nat.exists_eq_add_of_le e
    exact (gIt_stays h m j hj).symm
  · obtain ⟨m, rfl⟩ := Nat.exists_eq_add_of_le e
    exact gIt_stays h' m j hj
theorem classes_same {n L : Nat} {ss : List Tri} (hg : GoodS n L ss) (hL : L ≤ 10) {k k' : Nat} {g : Nat → Int} (h : ∀ j, j < n → gIt (toS ss) n (k + 1) j = gIt (toS ss) n k j)
    (hN : NumTo (itG ss ss true k') g n) (h' : ∀ p q, p < n → q < n → itG ss ss true (k' + 1) p q = itG ss ss true k' p q) : ∀ j, j < n → gIt (toS ss) n k j = g j := by
  have e1 := numTo_one (fun p q hp hq => rel_it hg hL k' p q hp hq) (gIt_comes (toS ss) n k') hN
  have e2 := comes_one (gIt_comes (toS ss) n (k' + 1)) (gIt_comes (toS ss) n k') fun p q hp hq => by
    rw [← rel_it hg hL (k' + 1) p q hp hq, ← rel_it hg hL k' p q hp hq, h' p q hp hq]
  intro j hj
  rw [e1 j hj]
  exact gIt_one h e2 j hj
theorem progClasses_wp {W : AW} {v : Value} {n L : Nat} {ss : List Tri} (h : StepR W v ss) (hg : GoodS n L ss) (hn1 : 1 ≤ n) (hn : n ≤ 63) (hL : L ≤ 10) (hl : ss.length ≤ 500) (hT : tabsIn T0 T0.tabs W = true) (h0 : 0 < W.next) :
    WpF T0 12 [.agg ⟨[.int .i64 (n : Int), v]⟩] W (fun u W' => Ext W W' ∧ ∃ k b, u = .tuple ⟨[rowV b n, .int .i64 0]⟩ ∧ NumsAt W' b n (gIt (toS ss) n k) ∧ ∀ j, j < n → gIt (toS ss) n (k + 1) j = gIt (toS ss) n k j) := by
  refine wpF fun12 rfl ?_
  obtain ⟨W1, hW1, hE1, hV⟩ : ∃ W1, W1 = W.newCells 28 [.int .i64 (n : Int), v] ∧ Ext W W1 ∧ Var W1 W.next 28 [.int .i64 (n : Int), v] := ⟨_, rfl, .newCells _ _ _, Var.new _ _ _⟩
  have l2 := load28 hV
  try simp only [wpK_assoc]
  refine wpK_reg (fun R hR => by simp [← hW1]; exact hR) ?_
  have hlay := lay_wp (h.ext hE1) hg hn1 (by omega) hL hl
  try simp only [wpK_assoc]
  refine wpK_x1 (P := fun c W2 => Ext W1 W2 ∧ ChartAt W2 c n (toS ss)) (fun R hR => by
    simp [l2, aEnter, fun36, short_other, aCallV]; rw [callS_none]
    refine hlay.mono ?_
    rintro _ W2 ⟨hE2, c, rfl, hc, hC⟩
    simp
    exact hR c W2 (And.intro hE2 hC)) ?_
  rintro c W2 ⟨hE2, hC⟩
  try simp only [wpK_assoc]
  refine wpK_reg (fun R hR => by simp []; exact hR) ?_
  try simp only [wpK_assoc]
  first | refine wpK_onF (by simp []) ?_ | refine wpK_out (by simp []) ?_ | refine wpK_condF (by simp []) ?_ | refine wpK_endF (by simp []) (wpK_skip ?_) | refine wpK_endF (by simp []) ?_
  have hT2 := tabs_ext hT h0 (hE1.trans hE2)
  have n1 := hE1.1
  have n2 := hE2.1
  try simp only [wpK_assoc]
  refine wpK_x1 (P := fun v3 W3 => Ext W2 W3 ∧ ∃ k b, v3 = rowV b n ∧ NumsAt W3 b n (gIt (toS ss) n k) ∧ ∀ j, j < n → gIt (toS ss) n (k + 1) j = gIt (toS ss) n k j) (fun R hR => by
    simp [aEnter, fun37, short_other, aCallV]; rw [callS_none]
    refine (classes_wp hC hT2 (by omega) (by omega) (fun a p => toS_lt hg a p)).mono ?_
    rintro v3 W3 hP
    simp; exact hR v3 W3 hP) ?_
  rintro v3 W3 ⟨hE3, k, b, rfl, hN, hst⟩
  exact wpK_ret ⟨.inr rfl, rfl, [rowV b n, .int .i64 0], by simp, (hE1.trans hE2).trans hE3, k, b, rfl, hN, hst⟩
end Go.Proofs.YtfnigiojgbeklaaDoor

open Go Go.Eng
namespace Go.Proofs.YtfnigiojgbeklaaDoor
attribute [local congr] undef_congr WpK.congr WpS.congr WpL.congr WpC.congr WpF.congr gotS.congr callS.congr nextS.congr wantS.congr condS.congr
attribute [local irreducible] WpK
attribute [local simp] WpDr_nil WpDr_cons atS_some dwantS_true dwantS_false kindS_light kindS_float kindS_heavy lightS_value floatS_some heavyS_value heavyS_skip heavyS_enter dcallS_some doneS_eq
  isLight isFloat isPlain dLook testBit_dec dChain dLights_nil dLights_skip dLights_one dLight_nil dLight_cons dFreshes_nil dFreshes_one oneF_none oneF_some dFresh_nil dFresh_cons oneL_some oneW_true oneW_false sameV_value dPut dMay valEq arrEq listEq List.getElem?_cons Tr.get_nil dEnd
attribute [local simp] WpS_nil WpS_cons isDefer undef_false wantS_true wantS_false nextS_value nextS_skip nextS_enter callS_some gotS_some aWanted aOp aEvalF aEval opMove opAssign opPick aVal flat flat1 AAct.put opBinOp opConvert opIndex Tr.get_set Tr.get_lay aBin aResults tupled
  aCall aVals aCallB blt_dec ble_dec beq_dec aBinI_add aBinI_sub aBinI_lss aBinI_leq aBinI_gtr aBinI_geq aBinI_eql aBinI_neq index_str len_str len_slice Nat.beq_refl Nat.beq_refl
  opBox opLoad opFieldAddr opIndexAddr acells aAddr opExtract aExtract opUnOp opAlloc opStore opMakeInterface opNilCheck opBuild aParts opBuildSlice aValW
attribute [local simp] und2 und3 und4 und5 und9 und12 und13 und21 und22 und23 und24 und26 und27 und28 und30 und31 und34 und40 und43 und48 und49 und50 und54 und70 und71 und72 und79 und81 und86 und88 und89 und94 und99 und108 und109 und110 und118 und119 und120 und121 und123 und134 und143 und144 und145 und146 und148 und149 und150 und153 und154 und155 und157 und165 und167 und168 und178 und179 und187 und188 und189 und190 und191 und192 und193 und199 und214 und218 field13_0 field13_1 field23_0 field23_1 field24_0 field24_1 field27_0 field27_1 field28_0 field28_1 field49_0 field49_1 field49_2 field50_0 field50_1 field50_2 field70_0 field70_1 field70_2 field71_0 field71_1 field71_2 field72_0 field72_1 field72_2 field108_0 field108_1 field108_2 field109_0 field109_1 field109_2 field120_0 field120_1 field121_0 field121_1 field145_0 field145_1 field145_2 field146_0 field146_1 field146_2 field154_0 field154_1 field155_0 field155_1 field178_0 field178_1 field178_2 field178_3 field179_0 field179_1 field179_2 field179_3 field188_0 field188_1 field189_0 field189_1
set_option maxHeartbeats 4000000
set_option linter.unusedSimpArgs false
set_option linter.unusedVariables false
def setsN (n : Nat) (g : Nat → Nat) : List Value := (List.range n).map fun j => .int .u64 (g j : Nat)
theorem setsN_len (n : Nat) (g : Nat → Nat) : (setsN n g).length = n := by simp [setsN]
theorem setsN_at {n j : Nat} (g : Nat → Nat) (h : j < n) : (setsN n g)[j]? = some (.int .u64 (g j : Nat)) := by
  simp only [setsN, List.getElem?_map, List.getElem?_range h]; rfl
def updN (g : Nat → Nat) (j x : Nat) : Nat → Nat := fun i => if i = j then x else g i
theorem updN_self (g : Nat → Nat) (j : Nat) : updN g j (g j) = g := by
  funext i; unfold updN; split
  · rename_i e; rw [e]
  · rfl
theorem setsN_set {n j : Nat} (g : Nat → Nat) (x : Nat) : (setsN n g).set j (.int .u64 (x : Nat)) = setsN n (updN g j x) := by
  apply List.ext_getElem?
  intro i
  rw [List.getElem?_set]
  by_cases hi : i < n
  · rw [setsN_at _ hi, setsN_at _ hi, setsN_len]
    by_cases e : j = i
    · subst e; rw [if_pos rfl, if_pos hi]; simp [updN]
    · rw [if_neg e]; simp only [updN, if_neg (Ne.symm e)]
  · rw [List.getElem?_eq_none (by rw [setsN_len]; omega), List.getElem?_eq_none (by rw [setsN_len]; omega)]
    split
    · rw [setsN_len, if_neg (by omega)]
    · rfl
abbrev SetN (W : AW) (b n : Nat) (g : Nat → Nat) : Prop := Var W b 89 (setsN n g)
theorem SetN.put {W : AW} {b n : Nat} {g : Nat → Nat} (h : SetN W b n g) {j : Nat} (hj : j < n) (x : Nat) : ∃ W', aStoreVar T0 W 89 b j (.int .u64 (x : Nat)) = some W' ∧ W'.next = W.next ∧ Only (fun c => c = b) W W' ∧ SetN W' b n (updN g j x) := by
  obtain ⟨W', g1, g2, g3, g4⟩ := Var.store h (T := T0) (t := 89) (v := .int .u64 (x : Nat)) (o := j) inf89 (by rw [is89]; rfl) (by rw [setsN_len]; show j + 1 ≤ n; omega) rfl
  refine ⟨W', g1, g2, g3, ?_⟩
  have e : (setsN n g).take j ++ acells (.int .u64 (x : Nat)) ++ (setsN n g).drop (j + (acells (.int .u64 (x : Nat))).length) = (setsN n g).set j (.int .u64 (x : Nat)) := by
    rw [List.set_eq_take_append_cons_drop, if_pos (by rw [setsN_len]; omega)]
    simp [acells]
  rw [e, setsN_set] at g4; exact g4
theorem SetN.load {W : AW} {b n : Nat} {g : Nat → Nat} (h : SetN W b n g) {j : Nat} (hj : j < n) : aLoadVar T0 W 89 b j = some (.int .u64 (g j : Nat)) := Var.load1 h (T := T0) und89 rfl (setsN_at g hj)
theorem ix86 {b n j : Nat} (hj : j < n) : aIndexAddr T0 86 (rowV b n) (.int .i64 (j : Int)) = some (.pointer (some ⟨b, j, none⟩)) := by
  have := indexAddr_slice (T := T0) (t := 86) (e := 89) (sz := 1) und86 sz89 (b := b) (o := 0) (len := n) (c := 2 * n) (i := j) (k := .i64) hj
  rw [Nat.zero_add, Nat.mul_one] at this; exact this
theorem mk86 (W : AW) (n : Nat) (hn : n ≤ 64) : aMakeSlice T0 W 86 (.int .i64 (n : Int)) (.int .i64 (n : Int)) = some (rowV W.next n, W.newCells 89 (setsN n (fun _ => 0))) := by
  show aMakeSlice T0 W 86 (.int .i64 (Int.ofNat n)) (.int .i64 (Int.ofNat n)) = _
  have h1 : n ≤ 4611686018427387904 := by omega
  have h2 : Tryd.t89.bytes * n ≤ 281474976710656 := by rw [by89]; omega
  have e : setsN n (fun _ => 0) = List.replicate n (.int .u64 0) := by
    apply List.ext_getElem?
    intro i
    by_cases hi : i < n
    · rw [setsN_at _ hi, List.getElem?_replicate, if_pos hi]; rfl
    · rw [List.getElem?_eq_none (by rw [setsN_len]; omega), List.getElem?_eq_none (by simp; omega)]
  rw [e, ← rep_one _ rfl n]
  simp only [aMakeSlice, und86, inf89, z89, h1, h2, is89, ble_dec, acells, List.length_cons, List.length_nil, Nat.beq_refl, Nat.le_refl, decide_true]
  rfl
def sumN (n : Nat) (g : Nat → Nat) : Nat := ((List.range n).map g).sum
theorem sumN_le {n : Nat} {g g' : Nat → Nat} (h : ∀ j, j < n → g j ≤ g' j) : sumN n g ≤ sumN n g' := by
  induction n with
  | zero => exact Nat.le_refl _
  | succ n ih =>
    have := ih fun j hj => h j (by omega)
    have := h n (by omega)
    simp only [sumN, List.range_succ, List.map_append, List.sum_append, List.map_cons, List.map_nil, List.sum_cons, List.sum_nil] at *
    omega
theorem sumN_lt {n : Nat} {g g' : Nat → Nat} (h : ∀ j, j < n → g j ≤ g' j) {p : Nat} (hp : p < n) (hlt : g p < g' p) : sumN n g < sumN n g' := by
  induction n with
  | zero => omega
  | succ n ih =>
    have h1 := h n (by omega)
    have h2 : sumN n g ≤ sumN n g' := sumN_le fun j hj => h j (by omega)
    by_cases e : p = n
    · subst e
      simp only [sumN, List.range_succ, List.map_append, List.sum_append, List.map_cons, List.map_nil, List.sum_cons, List.sum_nil] at *
      omega
    · have h3 := ih (fun j hj => h j (by omega)) (by omega)
      simp only [sumN, List.range_succ, List.map_append, List.sum_append, List.map_cons, List.map_nil, List.sum_cons, List.sum_nil] at *
      omega
end Go.Proofs.YtfnigiojgbeklaaDoor

open Go Go.Eng
namespace Go.Proofs.YtfnigiojgbeklaaDoor
attribute [local congr] undef_congr WpK.congr WpS.congr WpL.congr WpC.congr WpF.congr gotS.congr callS.congr nextS.congr wantS.congr condS.congr
attribute [local irreducible] WpK
attribute [local simp] WpDr_nil WpDr_cons atS_some dwantS_true dwantS_false kindS_light kindS_float kindS_heavy lightS_value floatS_some heavyS_value heavyS_skip heavyS_enter dcallS_some doneS_eq
  isLight isFloat isPlain dLook testBit_dec dChain dLights_nil dLights_skip dLights_one dLight_nil dLight_cons dFreshes_nil dFreshes_one oneF_none oneF_some dFresh_nil dFresh_cons oneL_some oneW_true oneW_false sameV_value dPut dMay valEq arrEq listEq List.getElem?_cons Tr.get_nil dEnd
attribute [local simp] WpS_nil WpS_cons isDefer undef_false wantS_true wantS_false nextS_value nextS_skip nextS_enter callS_some gotS_some aWanted aOp aEvalF aEval opMove opAssign opPick aVal flat flat1 AAct.put opBinOp opConvert opIndex Tr.get_set Tr.get_lay aBin aResults tupled
  aCall aVals aCallB blt_dec ble_dec beq_dec aBinI_add aBinI_sub aBinI_lss aBinI_leq aBinI_gtr aBinI_geq aBinI_eql aBinI_neq index_str len_str len_slice Nat.beq_refl Nat.beq_refl
  opBox opLoad opFieldAddr opIndexAddr acells aAddr opExtract aExtract opUnOp opAlloc opStore opMakeInterface opNilCheck opBuild aParts opBuildSlice aValW
attribute [local simp] und2 und3 und4 und5 und9 und12 und13 und21 und22 und23 und24 und26 und27 und28 und30 und31 und34 und40 und43 und48 und49 und50 und54 und70 und71 und72 und79 und81 und86 und88 und89 und94 und99 und108 und109 und110 und118 und119 und120 und121 und123 und134 und143 und144 und145 und146 und148 und149 und150 und153 und154 und155 und157 und165 und167 und168 und178 und179 und187 und188 und189 und190 und191 und192 und193 und199 und214 und218 field13_0 field13_1 field23_0 field23_1 field24_0 field24_1 field27_0 field27_1 field28_0 field28_1 field49_0 field49_1 field49_2 field50_0 field50_1 field50_2 field70_0 field70_1 field70_2 field71_0 field71_1 field71_2 field72_0 field72_1 field72_2 field108_0 field108_1 field108_2 field109_0 field109_1 field109_2 field120_0 field120_1 field121_0 field121_1 field145_0 field145_1 field145_2 field146_0 field146_1 field146_2 field154_0 field154_1 field155_0 field155_1 field178_0 field178_1 field178_2 field178_3 field179_0 field179_1 field179_2 field179_3 field188_0 field188_1 field189_0 field189_1
set_option maxHeartbeats 4000000
set_option linter.unusedSimpArgs false
set_option linter.unusedVariables false
theorem updN_upd (g : Nat → Nat) (j x y : Nat) : updN (updN g j x) j y = updN g j y := by
  funext i; unfold updN; split <;> rfl
def ClosedTo (to : Nat → Nat → Nat) (n m : Nat) (g : Nat → Nat) : Prop := ∀ p a t, p < m → a < 10 → (to a p).testBit t = true → g p &&& befS (to a) (g t) n = g p
theorem followers_wp {W : AW} {c n : Nat} {to : Nat → Nat → Nat} (h : ChartAt W c n to) (hT : tabsIn T0 T0.tabs W = true) (h0 : 0 < W.next) (hn : n < 64) (hto : ∀ a p, to a p < 2 ^ n) {R : Nat → Nat → Prop} (hR : ∀ p q a t, R p q → a < 10 → (to a p).testBit t = true → ∃ t', (to a q).testBit t' = true ∧ R t t') (hRn : ∀ p q, R p q → q < n) :
    WpF T0 39 [.pointer (some ⟨c, 0, none⟩)] W (fun v W' => Ext W W' ∧ ∃ b g, v = rowV b n ∧ SetN W' b n g ∧ W.next ≤ b ∧ (∀ p, p < n → g p < 2 ^ n) ∧ (∀ p q, p < n → R p q → (g p).testBit q = true) ∧ ClosedTo to n n g) := by
  refine wpFd fun39 rfl ?_
  have p64 := u64_two hn
  have hto64 : ∀ a p, to a p < 18446744073709551616 := fun a p => Nat.lt_trans (hto a p) p64
  obtain ⟨W1, hW1, hE1, hV1, hn1⟩ : ∃ W1, W1 = W.newCells 81 [.pointer (some ⟨c, 0, none⟩)] ∧ Ext W W1 ∧ Var W1 W.next 81 [.pointer (some ⟨c, 0, none⟩)] ∧ W1.next = W.next + 1 := ⟨_, rfl, .newCells _ _ _, Var.new _ _ _, rfl⟩
  have l1 := hV1.load1 (T := T0) und81 rfl (j := 0) (v := .pointer (some ⟨c, 0, none⟩)) rfl
  have ln := chart_n (h.ext hE1)
  have mk := mk86 W1 n (by omega)
  obtain ⟨W2, hW2, hE2, hS2, hn2⟩ : ∃ W2, W2 = W1.newCells 89 (setsN n (fun _ => 0)) ∧ Ext W1 W2 ∧ SetN W2 W1.next n (fun _ => 0) ∧ W2.next = W1.next + 1 := ⟨_, rfl, .newCells _ _ _, Var.new _ _ _, rfl⟩
  rw [← hW2] at mk
  obtain ⟨W3, s1, s2, s3, s4⟩ := storeVar_new (T := T0) (W := W2) (t := 86) (z := [.slice none 0 0]) (v := rowV W1.next n) inf86 (by rw [is86]; rfl) (by rw [is86]; rfl) rfl
  have s4 : Var W3 W2.next 86 [rowV W1.next n] := s4
  have ll : ∀ W', aLen T0 W' 86 (rowV W1.next n) = some (.int .i64 n) := fun W' => len_slice und86 _ _ _
  have vrow := rowV_eq W1.next n
  have l3 := s4.load1 (T := T0) und86 rfl (j := 0) (v := rowV W1.next n) rfl
  have ix : ∀ {j}, j < n → aIndexAddr T0 86 (rowV W1.next n) (.int .i64 (j : Int)) = some (.pointer (some ⟨W1.next, j, none⟩)) := fun h => ix86 h
  obtain ⟨rw', hrw⟩ : ∃ r, r = rowV W1.next n := ⟨_, rfl⟩
  rw [← hrw] at mk s1 s4 vrow l3 ix ll
  try simp only [wpK_assoc]
  refine wpK_reg (fun R hR => by simp [← hW1]; exact hR) ?_
  try simp only [wpK_assoc]
  refine wpK_reg (fun R hR => by simp [l1, ln, opMakeSlice, aValW, mk, zero86, s1]; exact hR) ?_
  try simp only [wpK_assoc]
  refine wpK_reg (fun R hR => by simp [l3, ll]; exact hR) ?_
  obtain ⟨p1, hp1⟩ : ∃ p, p = W.next := ⟨_, rfl⟩
  have e1 : W1.next = p1 + 1 := by omega
  have e2 : W2.next = p1 + 2 := by omega
  have e3 : p1 + 3 ≤ W3.next := by have := s3.1; omega
  rw [← hp1] at hV1
  rw [e1] at hS2 ix
  rw [e2] at s4
  have hV3 := (hV1.ext hE2).ext s3
  have hS3 := Var.ext hS2 s3
  have hE3 : Ext W W3 := (hE1.trans hE2).trans s3
  have hc3 := h.ext hE3
  have hclt := h.1
  refine wpK_keep (fun tm' => tm'.get 1 = some (.pointer (some ⟨p1, 0, none⟩)) ∧ tm'.get 3 = some (.pointer (some ⟨p1 + 2, 0, none⟩)) ∧ tm'.get 15 = some (.int .i64 (n : Int)) ∧ tm'.get 16 = some (.int .i64 0)) ⟨by simp [hp1, e2], by simp [hp1, e2], by simp [hp1, e2], by simp [hp1, e2]⟩ ?_
  rintro tm ⟨h1, h3, h15, h16⟩
  try simp only [wpK_assoc]
  refine wpK_while (I := fun q A' W' => A'.n = 63 ∧ A'.defers = [] ∧ A'.tmps.get 1 = some (.pointer (some ⟨p1, 0, none⟩)) ∧ A'.tmps.get 3 = some (.pointer (some ⟨p1 + 2, 0, none⟩)) ∧ A'.tmps.get 15 = some (.int .i64 (n : Int)) ∧ Only (fun b => b = p1 + 1) W3 W' ∧ ∃ (i : Nat) (g : Nat → Nat), A'.tmps.get 16 = some (.int .i64 (i : Int)) ∧ q = n - i ∧ i ≤ n ∧ SetN W' (p1 + 1) n g ∧ ∀ j, j < i → g j = 2 ^ n - 1)
    (J := fun A' W' => A'.n = 63 ∧ A'.defers = [] ∧ A'.tmps.get 1 = some (.pointer (some ⟨p1, 0, none⟩)) ∧ A'.tmps.get 3 = some (.pointer (some ⟨p1 + 2, 0, none⟩)) ∧ A'.tmps.get 15 = some (.int .i64 (n : Int)) ∧ Only (fun b => b = p1 + 1) W3 W' ∧ ∃ (g : Nat → Nat), SetN W' (p1 + 1) n g ∧ ∀ j, j < n → g j = 2 ^ n - 1) (Rt := fun _ _ => False) (k := n) ?_ ?_ ?_ ?_
  · exact ⟨rfl, rfl, by simp [h1, h3, h15], by simp [h1, h3, h15], by simp [h1, h3, h15], .refl _ _, 0, _, by simp [h16], rfl, by omega, hS3, fun j hj => by omega⟩
  · rintro q ⟨tm, n, ds⟩ Wa ⟨hn, hd, h1, h3, h15, hOa, i, g, h16, hq, hil, hSa, hga⟩ Q' hJ hRt hI
    simp only at hn hd h1 h3 h15
    subst hn; subst hd
    simp only at h16
    by_cases hlt : i < n
    case neg =>
      have hlt' : ¬ (i : Int) < n := by omega
      try simp only [wpK_assoc]
      refine wpK_reg (fun R hR => by simp [h15, h16, hlt']; exact hR) ?_
      try simp only [wpK_assoc]
      first | refine wpK_onF (by simp [hlt]) ?_ | refine wpK_out (by simp [hlt]) ?_ | refine wpK_condF (by simp [hlt]) ?_ | refine wpK_endF (by simp [hlt]) (wpK_skip ?_) | refine wpK_endF (by simp [hlt]) ?_
      exact hJ _ _ ⟨rfl, rfl, by simp [h1, h3, h15], by simp [h1, h3, h15], by simp [h1, h3, h15], hOa, g, hSa, fun j hj => hga j (by omega)⟩
    have hlt' : (i : Int) < n := by omega
    try simp only [wpK_assoc]
    refine wpK_reg (fun R hR => by simp [h15, h16, hlt']; exact hR) ?_
    try simp only [wpK_assoc]
    first | refine wpK_onT (by simp [hlt]) ?_ | refine wpK_outT (by simp [hlt]) ?_ | refine wpK_condT (by simp [hlt]) ?_ | refine wpK_endT (by simp [hlt]) ?_
    refine wpK_block ?_
    try simp only [wpK_assoc]
    refine wpK_reg (fun R hR => by simp [h16]; exact hR) ?_
    have e1 := (hV3.only hOa (by omega)).load1 (T := T0) und81 rfl (j := 0) (v := .pointer (some ⟨c, 0, none⟩)) rfl
    have e3 := (s4.only hOa (by omega)).load1 (T := T0) und86 rfl (j := 0) (v := rw') rfl
    have hall := chartAll_wp (hc3.only hOa (by omega)) hn
    obtain ⟨full, hfull⟩ : ∃ x, x = 2 ^ n - 1 := ⟨_, rfl⟩
    rw [← hfull] at hall
    obtain ⟨Wb, w1, w2, w3, w4⟩ := hSa.put hlt full
    have ixi := ix hlt
    have nw := w3.1
    try simp only [wpK_assoc]
    refine wpK_qn (wr := Tr.nil |>.set 19 0 |>.set 20 1 |>.set 21 2 |>.set 22 3 |>.set 23 4) (bits := Tr.nil.lay 0 [0, 0, 0, 4, 15, 31]) (ord := [0, 1, 2, 3, 4, 5]) (by kernel_rfl) (by kernel_rfl) (by kernel_rfl) (fun G hG => by
      simp [h1, h3, e1, e3, vrow, aEnter, fun69, short_other, aCallV]
      rw [dcallS_none]
      refine hall.mono ?_
      rintro _ W9 ⟨e9, rfl⟩; subst W9
      simp [h1, h3, e1, e3, vrow, ixi, w1, nw]
      exact hG) ?_
    simp only [leaves_normal, behind_normal]
    try simp only [wpK_assoc]
    refine wpK_reg1 (fun R hR => by simp [h16]; exact hR) ?_
    refine hI (n - (i + 1)) _ _ (by omega) ⟨rfl, rfl, by simp [h1, h3, h15], by simp [h1, h3, h15], by simp [h1, h3, h15], hOa.trans w3, i + 1, _, by simp [i64_succ i (by omega)], rfl, by omega, w4, fun j hj => ?_⟩
    unfold updN
    split
    · exact hfull
    · exact hga j (by omega)
  · rintro A' W' hf; exact hf.elim
  rintro ⟨tm, n, ds⟩ Wz ⟨hn, hd, h1, h3, h15, hOz, g0, hSz, hgz⟩
  simp only at hn hd h1 h3 h15
  subst hn; subst hd
  try simp only [wpK_assoc]
  refine wpK_reg (fun R hR => by simp []; exact hR) ?_
  have hP0 : (∀ p, p < n → g0 p < 2 ^ n) ∧ ∀ p q, p < n → R p q → (g0 p).testBit q = true := by
    refine ⟨fun p hp => by rw [hgz p hp]; have := Nat.two_pow_pos n; omega, fun p q hp hr => ?_⟩
    rw [hgz p hp, Nat.testBit_two_pow_sub_one, decide_eq_true (hRn p q hr)]
  have hOz1 : Only (fun b => p1 ≤ b) W Wz := (hE3.mono (fun _ _ x => x.elim)).trans (hOz.mono (fun b _ hb => by omega))
  have nz := hOz.1
  try simp only [wpK_assoc]
  refine wpK_while (I := fun q A' W' => A'.n = 63 ∧ A'.tmps.get 1 = some (.pointer (some ⟨p1, 0, none⟩)) ∧ A'.tmps.get 3 = some (.pointer (some ⟨p1 + 2, 0, none⟩)) ∧ Marks (p1 + 3) A'.defers W' ∧ Only (fun b => p1 ≤ b) W W' ∧ p1 + 3 ≤ W'.next ∧ Var W' p1 81 [.pointer (some ⟨c, 0, none⟩)] ∧ Var W' (p1 + 2) 86 [rw'] ∧
      ∃ (ch : Bool) (g : Nat → Nat), A'.tmps.get 5 = some (.bool ch) ∧ SetN W' (p1 + 1) n g ∧ q = sumN n g + (if ch = true then 1 else 0) ∧ ((∀ p, p < n → g p < 2 ^ n) ∧ ∀ p q, p < n → R p q → (g p).testBit q = true) ∧ (ch = false → ClosedTo to n n g))
    (J := fun A' W' => A'.n = 63 ∧ A'.tmps.get 3 = some (.pointer (some ⟨p1 + 2, 0, none⟩)) ∧ Marks (p1 + 3) A'.defers W' ∧ Only (fun b => p1 ≤ b) W W' ∧ p1 + 3 ≤ W'.next ∧ Var W' (p1 + 2) 86 [rw'] ∧
      ∃ (g : Nat → Nat), SetN W' (p1 + 1) n g ∧ ((∀ p, p < n → g p < 2 ^ n) ∧ ∀ p q, p < n → R p q → (g p).testBit q = true) ∧ ClosedTo to n n g) (Rt := fun _ _ => False) (k := sumN n g0 + 1) ?_ ?_ ?_ ?_
  · exact ⟨rfl, by simp [h1], by simp [h3], trivial, hOz1, by omega, hV3.only hOz (by omega), s4.only hOz (by omega), true, g0, by simp, hSz, rfl, hP0, fun h => by cases h⟩
  · rintro q ⟨tm, n', ds⟩ Wc ⟨hn', h1, h3, hMk, hOc, hnc, hVc, h8c, ch, g, h5, hSc, hq, hPc, hCl⟩ Q' hJ hRt hI
    simp only at hn' h1 h3 hMk h5
    subst hn'
    cases ch with
    | false =>
      try simp only [wpK_assoc]
      refine wpK_reg (fun R hR => by simp [h5]; exact hR) ?_
      try simp only [wpK_assoc]
      first | refine wpK_onF (by simp []) ?_ | refine wpK_out (by simp []) ?_ | refine wpK_condF (by simp []) ?_ | refine wpK_endF (by simp []) (wpK_skip ?_) | refine wpK_endF (by simp []) ?_
      exact hJ _ _ ⟨rfl, by simp [h3], hMk, hOc, hnc, h8c, g, hSc, hPc, hCl rfl⟩
    | true =>
    have hqs : q = sumN n g + 1 := hq
    try simp only [wpK_assoc]
    refine wpK_reg (fun R hR => by simp [h5]; exact hR) ?_
    try simp only [wpK_assoc]
    first | refine wpK_onT (by simp []) ?_ | refine wpK_outT (by simp []) ?_ | refine wpK_condT (by simp []) ?_ | refine wpK_endT (by simp []) ?_
    have lc3 := h8c.load1 (T := T0) und86 rfl (j := 0) (v := rw') rfl
    refine wpK_block1 ?_
    try simp only [wpK_assoc]
    refine wpK_reg (fun R hR => by simp []; exact hR) ?_
    try simp only [wpK_assoc]
    refine wpK_reg (fun R hR => by simp [h3, lc3, ll]; exact hR) ?_
    try simp only [wpK_assoc]
    refine wpK_while1 (I := fun q2 A' W' => A'.n = 63 ∧ A'.tmps.get 1 = some (.pointer (some ⟨p1, 0, none⟩)) ∧ A'.tmps.get 3 = some (.pointer (some ⟨p1 + 2, 0, none⟩)) ∧ A'.tmps.get 26 = some rw' ∧ A'.tmps.get 27 = some (.int .i64 (n : Int)) ∧ Marks (p1 + 3) A'.defers W' ∧ Only (fun b => p1 ≤ b) W W' ∧ p1 + 3 ≤ W'.next ∧ Var W' p1 81 [.pointer (some ⟨c, 0, none⟩)] ∧ Var W' (p1 + 2) 86 [rw'] ∧
        ∃ (i : Nat) (ch : Bool) (f : Nat → Nat), A'.tmps.get 28 = some (.int .i64 (i : Int)) ∧ A'.tmps.get 5 = some (.bool ch) ∧ q2 = n - i ∧ i ≤ n ∧ SetN W' (p1 + 1) n f ∧ ((∀ p, p < n → f p < 2 ^ n) ∧ ∀ p q, p < n → R p q → (f p).testBit q = true) ∧ (ch = false → ClosedTo to n i f) ∧ sumN n f ≤ sumN n g ∧ (ch = true → sumN n f < sumN n g))
      (J := fun A' W' => A'.n = 63 ∧ A'.tmps.get 1 = some (.pointer (some ⟨p1, 0, none⟩)) ∧ A'.tmps.get 3 = some (.pointer (some ⟨p1 + 2, 0, none⟩)) ∧ Marks (p1 + 3) A'.defers W' ∧ Only (fun b => p1 ≤ b) W W' ∧ p1 + 3 ≤ W'.next ∧ Var W' p1 81 [.pointer (some ⟨c, 0, none⟩)] ∧ Var W' (p1 + 2) 86 [rw'] ∧
        ∃ (ch : Bool) (f : Nat → Nat), A'.tmps.get 5 = some (.bool ch) ∧ SetN W' (p1 + 1) n f ∧ ((∀ p, p < n → f p < 2 ^ n) ∧ ∀ p q, p < n → R p q → (f p).testBit q = true) ∧ (ch = false → ClosedTo to n n f) ∧ sumN n f ≤ sumN n g ∧ (ch = true → sumN n f < sumN n g)) (Rt := fun _ _ => False) (k := n) ?_ ?_ ?_ ?_
    · exact ⟨rfl, by simp [h1], by simp [h3], by simp, by simp, hMk, hOc, hnc, hVc, h8c, 0, false, g, by simp, by simp, rfl, by omega, hSc, hPc, fun _ p a t hp => by omega, Nat.le_refl _, fun h => by cases h⟩
    · rintro q2 ⟨tm, n', ds⟩ We ⟨hn', h1, h3, h26, h27, hMk, hOe, hne, hVe, h8e, i, ch, f, h28, h5, hq2, hil, hSe, hPe, hCe, hsu, hsl⟩ Q2 hJ2 hRt2 hI2
      simp only at hn' h1 h3 h26 h27 hMk h28 h5
      subst hn'
      by_cases hlt : i < n
      case neg =>
        have hie : i = n := by omega
        rw [hie] at hCe
        have hlt' : ¬ (i : Int) < n := by omega
        try simp only [wpK_assoc]
        refine wpK_reg (fun R hR => by simp [h27, h28, hlt']; exact hR) ?_
        try simp only [wpK_assoc]
        first | refine wpK_onF (by simp [hlt]) ?_ | refine wpK_out (by simp [hlt]) ?_ | refine wpK_condF (by simp [hlt]) ?_ | refine wpK_endF (by simp [hlt]) (wpK_skip ?_) | refine wpK_endF (by simp [hlt]) ?_
        exact hJ2 _ _ ⟨rfl, by simp [h1], by simp [h3], hMk, hOe, hne, hVe, h8e, ch, f, by simp [h5], hSe, hPe, hCe, hsu, hsl⟩
      have hlt' : (i : Int) < n := by omega
      try simp only [wpK_assoc]
      refine wpK_reg (fun R hR => by simp [h27, h28, hlt']; exact hR) ?_
      try simp only [wpK_assoc]
      first | refine wpK_onT (by simp [hlt]) ?_ | refine wpK_outT (by simp [hlt]) ?_ | refine wpK_condT (by simp [hlt]) ?_ | refine wpK_endT (by simp [hlt]) ?_
      refine wpK_block ?_
      have ixi := ix hlt
      have lfi := hSe.load hlt
      obtain ⟨Wf, s1, s2, hEf, hLf⟩ := storeVar_new (T := T0) (W := We) (t := 3) (z := [.int .i64 0]) (v := .int .i64 (i : Int)) inf3 (by rw [is3]; rfl) (by rw [is3]; rfl) rfl
      have hLf : Var Wf We.next 3 [.int .i64 (i : Int)] := hLf
      obtain ⟨p6, hp6⟩ : ∃ p6, p6 = We.next := ⟨_, rfl⟩
      try simp only [wpK_assoc]
      refine wpK_reg (fun R hR => by simp [h26, h28, ixi, lfi, zero3, s1]; exact hR) ?_
      rw [← hp6] at hLf
      have nf := hEf.1
      have lv1 := (hVe.ext hEf).load1 (T := T0) und81 rfl (j := 0) (v := .pointer (some ⟨c, 0, none⟩)) rfl
      have lv6 := hLf.load1 (T := T0) und3 rfl (j := 0) (v := .int .i64 (i : Int)) rfl
      rw [hp6] at lv6
      try simp only [wpK_assoc]
      refine wpK_x0 (P := fun Wg => Ext Wf Wg ∧ Wg.next = Wf.next + 2 ∧ Wg.Has Wf.next 0 (.pointer (some ⟨c, 0, none⟩)) ∧ Wg.Has (Wf.next + 1) 0 (.int .i64 (i : Int))) (fun R hR => by
        simp [h1, lv1, lv6, aEnter, fun70, short_other, aCallV]; rw [callS_none]
        refine (stepsF_wp c i).mono ?_
        rintro _ Wg ⟨hE, rfl, hn3, hB1, hB2⟩
        simp; exact hR Wg (And.intro hE (And.intro hn3 (And.intro hB1 hB2)))) ?_
      rintro Wg ⟨hEg, hng, hB1, hB2⟩
      refine wpK_keep (fun tm' => tm'.get 1 = some (.pointer (some ⟨p1, 0, none⟩)) ∧ tm'.get 3 = some (.pointer (some ⟨p1 + 2, 0, none⟩)) ∧ tm'.get 26 = some rw' ∧ tm'.get 27 = some (.int .i64 (n : Int)) ∧ tm'.get 28 = some (.int .i64 (i : Int)) ∧ tm'.get 5 = some (.bool ch) ∧ tm'.get 6 = some (.pointer (some ⟨p6, 0, none⟩)) ∧ tm'.get 7 = some (.int .u64 (f i : Nat)) ∧ tm'.get 35 = some (.func (.func 86) ⟨[]⟩ ⟨[.pointer (some ⟨Wf.next, 0, none⟩), .pointer (some ⟨Wf.next + 1, 0, none⟩)]⟩)) ⟨by simp [h1], by simp [h3], by simp [h26], by simp [h27], by simp [h28], by simp [h5], by simp [hp6], by simp, by simp⟩ ?_
      clear h1 h3 h26 h27 h28 h5
      rintro tm ⟨h1, h3, h26, h27, h28, h5, h6, h7, h35⟩
      refine wpK_range2 (f := 86) (first := ⟨[]⟩) (cap := ⟨[.pointer (some ⟨Wf.next, 0, none⟩), .pointer (some ⟨Wf.next + 1, 0, none⟩)]⟩) (by simp [h35]) fun86 (fun W5 hn5 hW5 hdf hlp => ?_)
      obtain ⟨z, hz⟩ : ∃ z, z = Wg.next := ⟨_, rfl⟩
      rw [← hz] at hn5 hdf hlp
      have hEg5 : Ext Wg W5 := ⟨by omega, fun b hb _ => hW5 b hb⟩
      have hEe5 := (hEf.trans hEg).trans hEg5
      have hO5 : Only (fun b => p1 ≤ b) W W5 := hOe.trans (hEe5.mono (fun _ _ x => x.elim))
      have hV5 := hVe.ext hEe5
      have h85 := h8e.ext hEe5
      have hL5 := hLf.ext (hEg.trans hEg5)
      have hM5 := hMk.ext hEe5
      have hc5 := h.only hO5 (by omega)
      have hT5 := tabs_only hT ‹0 < W.next› hO5 (by omega)
      have hS5 : SetN W5 (p1 + 1) n f := Var.ext hSe hEe5
      have hb15 := hB1.ext hEg5
      have hb25 := hB2.ext hEg5
      refine (steps1_wp (l := Wg.next + 1) (b1 := Wf.next) (b2 := Wf.next + 1) (c := c) (n := n) (p := i) (to := to) (W0 := W5)
        (C := fun a left V => Only (fun b => b = p1 + 1 ∨ b = z + 1 ∨ W5.next ≤ b) W5 V ∧ V.blocks.get (z + 1) = W5.blocks.get (z + 1) ∧ (a < 10 → ∀ t, left.testBit t = true → (to a i).testBit t = true) ∧ ∃ x : Nat, SetN V (p1 + 1) n (updN f i x) ∧ x ≤ f i ∧ (∀ q, R i q → x.testBit q = true) ∧ (x = f i → ∀ b t, b < 10 → (to b i).testBit t = true → (b < a ∨ (b = a ∧ left.testBit t = false)) → f i &&& befS (to b) (f t) n = f i))
        (D := fun _ => False) (Kx := fun b => b = p1 + 1 ∨ b = z + 1) ⟨?_, ?_, ?_, ?_, ?_, ?_⟩ (by omega) (fun a => hto64 a i) ⟨.refl _ _, rfl, fun _ t ht => ht, f i, by rw [updN_self]; exact hS5, Nat.le_refl _, fun q hr => hPe.2 i q hlt hr, fun _ b t hb ht hbt => ?_⟩).mono ?_
      · rintro a x V V' ⟨c1, c2, c3, y, c4, c5⟩ he
        exact ⟨c1.trans (he.mono (fun b _ hb => .inr (.inr hb))), by rw [he.2 (z + 1) (by have := c1.1; omega) (by omega)]; exact c2, c3, y, Var.only c4 he (by omega), c5⟩
      · rintro V V' hf he; exact hf
      · rintro a x V ⟨c1, c2⟩
        exact ⟨c1.1, by omega, tabs_only hT5 (by omega) c1 (by omega), hb15.only c1 (by omega), hb25.only c1 (by omega), hc5.only c1 (by omega), by omega, by omega, by omega⟩
      · rintro a V ha ⟨c1, c2, c3, x, c4, c5, c6, c7⟩
        refine ⟨c1, c2, fun _ t ht => ht, x, c4, c5, c6, fun e b t hb ht hbt => ?_⟩
        rcases hbt with hbt | ⟨hbt, hbf⟩
        · rcases Nat.lt_or_ge b a with hba | hba
          · exact c7 e b t hb ht (.inl hba)
          · exact c7 e b t hb ht (.inr ⟨by omega, by simp⟩)
        · rw [hbt, hbf] at ht; cases ht
      · intro b hb; omega
      · rintro a left k V ha ⟨c1, c2, c3, x, c4, c5, c6, c7⟩ hl hk1 hk2
        have hl' := c2.trans hlp
        rw [hz] at hl'
        refine ⟨_, _, _, _, _, _, _, _, _, _, tm.set 36 (.agg ⟨[.int .i64 (i : Int), .int .i64 (a : Int), .int .i64 (k : Int)]⟩), hl', rfl, ?_⟩
        obtain ⟨Va, s1, s2, s3, s4'⟩ := storeVar_new (T := T0) (W := V) (t := 72) (z := [.int .i64 0, .int .i64 0, .int .i64 0]) (v := .agg ⟨[.int .i64 (i : Int), .int .i64 (a : Int), .int .i64 (k : Int)]⟩) inf72 (by rw [is72]; rfl) (by rw [is72]; rfl) rfl
        have s4' : Var Va V.next 72 [.int .i64 (i : Int), .int .i64 (a : Int), .int .i64 (k : Int)] := s4'
        have nv := c1.1
        refine wpR ?_
        try simp only [wpK_assoc]
        refine wpK_reg1 (fun R hR => by simp [zero72, s1]; exact hR) ?_
        have hla : Va.blocks.get (z + 1) = V.blocks.get (z + 1) := s3.2 _ (by omega) (fun x => x)
        have hla' := hla.trans (c2.trans hlp)
        rw [hz] at hla'
        refine ⟨rfl, _, _, _, _, _, _, _, _, hla', ?_⟩
        rw [← hz] at hla' ⊢
        generalize hbz : (AObj.loop LoopState.busy _ _ _ _ _ _ _ _) = bz
        obtain ⟨Vy, hVy, hOy, hny⟩ : ∃ Vy, Vy = Va.setObj (z + 1) bz ∧ Only (fun b => b = z + 1) Va Vy ∧ Vy.next = Va.next := ⟨_, rfl, setObj_only _ _ _, rfl⟩
        rw [← hVy]
        have hly : Vy.blocks.get (z + 1) = some ⟨bz, []⟩ := by rw [hVy, setObj_get, if_pos rfl]
        have n3 := s3.1
        have cOy : Only (fun b => b = p1 + 1 ∨ b = z + 1 ∨ W5.next ≤ b) W5 Vy := (c1.trans (s3.mono (fun _ _ x => x.elim))).trans (hOy.mono (fun b _ hb => .inr (.inl hb)))
        have c4y : SetN Vy (p1 + 1) n (updN f i x) := Var.only (Var.ext c4 s3) hOy (by omega)
        have s4y := s4'.only hOy (by omega)
        have hkn : k < n := bit_lt (hto a i) (c3 ha k hk1)
        have e91 := s4y.load1 (T := T0) und3 rfl (j := 1) (v := .int .i64 (a : Int)) rfl
        have e92 := s4y.load1 (T := T0) und3 rfl (j := 2) (v := .int .i64 (k : Int)) rfl
        have m1 := (hV5.only cOy (by omega)).load1 (T := T0) und81 rfl (j := 0) (v := .pointer (some ⟨c, 0, none⟩)) rfl
        have m3 := (h85.only cOy (by omega)).load1 (T := T0) und86 rfl (j := 0) (v := rw') rfl
        have m6 := (hL5.only cOy (by omega)).load1 (T := T0) und3 rfl (j := 0) (v := .int .i64 (i : Int)) rfl
        have mi := c4y.load hlt
        have mk := c4y.load hkn
        rw [show updN f i x i = x from by unfold updN; rw [if_pos rfl]] at mi
        obtain ⟨u, hu⟩ : ∃ u, u = updN f i x k := ⟨_, rfl⟩
        rw [← hu] at mk
        have hfi := hPe.1 i hlt
        have hu2 : u < 2 ^ n := by
          rw [hu]; unfold updN; split
          · omega
          · exact hPe.1 k hkn
        have hxi := ix hlt
        have hxk := ix hkn
        have hbef := before_wp (a := a) (s := u) (hc5.only cOy (by omega)) hn ha (fun p => hto64 a p) (Nat.lt_trans hu2 p64)
        have hbl := befS_lt (to a) u n
        have hbb := fun q => befS_bit (to a) u q n
        obtain ⟨B, hB⟩ : ∃ B, B = befS (to a) u n := ⟨_, rfl⟩
        rw [← hB] at hbef hbl hbb
        have hand := aBinI_and .u64 x B (Nat.lt_of_le_of_lt c5 (Nat.lt_trans hfi p64)) (Nat.lt_trans hbl p64)
        obtain ⟨x', hx'⟩ : ∃ x', x' = x &&& B := ⟨_, rfl⟩
        rw [← hx'] at hand
        obtain ⟨Vz, w1, w2, w3, w4⟩ := c4y.put hlt x'
        rw [updN_upd] at w4
        have nw := w3.1
        refine wpK_block1 ?_
        try simp only [wpK_assoc]
        refine wpK_qn (wr := Tr.nil |>.set 37 0 |>.set 38 1 |>.set 39 2 |>.set 40 3 |>.set 41 4 |>.set 42 5 |>.set 43 6 |>.set 44 7 |>.set 45 8 |>.set 46 9 |>.set 47 10 |>.set 48 11 |>.set 49 12 |>.set 50 13 |>.set 51 14) (bits := Tr.nil.lay 0 [0, 0, 3, 7, 0, 0, 32, 0, 0, 256, 896, 1920, 4080, 8191, 16383, 32767]) (ord := [0, 1, 2, 3, 4, 5, 6, 7, 8, 9, 10, 11, 12, 13, 14, 15]) (by kernel_rfl) (by kernel_rfl) (by kernel_rfl) (fun G hG => by
          simp [h1, h3, h6, e91, e92, m1, m3, m6, mi, mk, hxi, hxk, vrow, aEnter, fun71, short_other, aCallV]
          rw [dcallS_none]
          refine hbef.mono ?_
          rintro _ W9 ⟨e9, rfl⟩; subst W9
          simp [h1, h3, h6, e91, e92, m1, m3, m6, mi, mk, hxi, hxk, vrow, hand, w1, nw]
          exact hG) ?_
        simp only [leaves_normal]
        have hlz : Vz.blocks.get (z + 1) = some ⟨bz, []⟩ := by rw [w3.2 (z + 1) (by omega) (by omega)]; exact hly
        subst hbz
        refine ⟨_, _, _, _, _, _, _, _, _, hlz, ⟨by rw [setObj_next]; omega, fun b hb hk => by rw [setObj_get, if_neg (by omega), w3.2 b (by omega) (by omega), hOy.2 b (by omega) (by omega), s3.2 b hb (fun x => x)]⟩, true, rfl, fun _ => ⟨(cOy.trans (w3.mono (fun b _ hb => .inl hb))).trans ((setObj_only Vz (z + 1) _).mono (fun b _ hb => .inr (.inl hb))), by rw [setObj_get, if_pos rfl]; exact hlp.symm, fun _ t ht => ?_, x', Var.only w4 (setObj_only Vz (z + 1) _) (by omega), ?_, fun q hr => ?_, fun e b t hb ht hbt => ?_⟩, (fun h => by cases h)⟩
        · rw [dropLow_bit hk1 hk2] at ht
          simp only [Bool.and_eq_true] at ht
          exact c3 ha t ht.1
        · exact Nat.le_trans (by rw [hx']; exact Nat.and_le_left) c5
        · rw [hx', Nat.testBit_and, c6 q hr, Bool.true_and, hbb, decide_eq_true_eq]
          obtain ⟨t', t1, t2⟩ := hR i q a k hr ha (c3 ha k hk1)
          refine ⟨hRn i q hr, and_ne.2 ⟨t', t1, ?_⟩⟩
          rw [hu]; unfold updN; split
          · rename_i ek; rw [ek] at t2; exact c6 t' t2
          · exact hPe.2 k t' hkn t2
        · have hx1 : x' ≤ x := by rw [hx']; exact Nat.and_le_left
          have hxe : x = f i := by omega
          have hue : u = f k := by rw [hu, hxe, updN_self]
          rcases hbt with hbt | ⟨hbt, hbf⟩
          · exact c7 hxe b t hb ht (.inl hbt)
          · by_cases ek : t = k
            · rw [hbt, ek, ← hue, ← hB, ← hxe, ← hx', e, hxe]
            · rw [dropLow_bit hk1 hk2, decide_eq_true ek, Bool.and_true] at hbf
              exact c7 hxe b t hb ht (.inr ⟨hbt, hbf⟩)
      · rcases hbt with hbt | ⟨hbt, hbf⟩
        · omega
        · rw [hbt, hbf] at ht; cases ht
      · rintro _ W6 hh
        replace hh := hh.resolve_right (fun x => x)
        obtain ⟨c1, c2, c3, x, c4, c5, c6, c7⟩ := hh
        have hl6 := c2.trans hlp
        rw [hz] at hl6
        refine ⟨_, _, _, _, _, _, _, _, _, hl6, (fun h => by cases h), ?_⟩
        rw [← hz]
        generalize hex : (AObj.loop LoopState.exhausted _ _ _ _ _ _ _ _) = ex
        obtain ⟨W7, hW7, hO7⟩ : ∃ W7, W7 = W6.setObj (z + 1) ex ∧ Only (fun b => b = z + 1) W6 W7 := ⟨_, rfl, setObj_only _ _ _⟩
        rw [← hW7]
        clear hW7 hex
        have cO7 : Only (fun b => b = p1 + 1 ∨ b = z + 1 ∨ W5.next ≤ b) W5 W7 := c1.trans (hO7.mono (fun b _ hb => .inr (.inl hb)))
        have n7 := cO7.1
        have hS7 : SetN W7 (p1 + 1) n (updN f i x) := Var.only c4 hO7 (by omega)
        have hm1 : n - (i + 1) < q2 := by omega
        have hm2 : p1 + 3 ≤ W7.next := by omega
        have hm3 : i + 1 ≤ n := by omega
        have h37 := h85.only cO7 (by omega)
        have hlow := hMk.low
        have f1 : Marks (p1 + 3) ({ target := .collected z, args := #[] } :: ds) W7 := ⟨z, rfl, by omega, by omega, by rw [cO7.2 z (by omega) (by omega)]; exact hdf, fun d hd e => by have := hlow d hd z e; omega, hM5.only cO7 (fun d hd r hr r1 _ hk => by have := hlow d hd r hr; omega)⟩
        have f2 : Only (fun b => p1 ≤ b) W W7 := hO5.trans (cO7.mono (fun b _ hb => by omega))
        have f3 := hV5.only cO7 (by omega)
        have hfi := hPe.1 i hlt
        have f4 : (∀ p, p < n → updN f i x p < 2 ^ n) ∧ ∀ p q, p < n → R p q → (updN f i x p).testBit q = true := by
          refine ⟨fun p hp => ?_, fun p q hp hr => ?_⟩
          · unfold updN; split
            · omega
            · exact hPe.1 p hp
          · unfold updN; split
            · rename_i ep; rw [ep] at hr; exact c6 q hr
            · exact hPe.2 p q hp hr
        have hle : ∀ j, j < n → updN f i x j ≤ f j := fun j hj => by
          unfold updN; split
          · rename_i ej; rw [ej]; exact c5
          · exact Nat.le_refl _
        have f5 := Nat.le_trans (sumN_le hle) hsu
        have hwi := i64_succ i (by omega)
        have l3 := h37.load1 (T := T0) und86 rfl (j := 0) (v := rw') rfl
        have l6 := (hL5.only cO7 (by omega)).load1 (T := T0) und3 rfl (j := 0) (v := .int .i64 (i : Int)) rfl
        have li := hS7.load hlt
        rw [show updN f i x i = x from by unfold updN; rw [if_pos rfl]] at li
        have hxi := ix hlt
        simp only [goOn, leaves_normal, behind_normal]
        cases ch with
        | true =>
          try simp only [wpK_assoc]
          refine wpK_reg1 (fun R hR => by simp [h5, undef]; exact hR) ?_
          simp only [leaves_normal, behind_normal]
          try simp only [wpK_assoc]
          refine wpK_reg1 (fun R hR => by simp [h28, hwi]; exact hR) ?_
          exact hI2 (n - (i + 1)) _ _ hm1 ⟨rfl, by simp [h1], by simp [h3], by simp [h26], by simp [h27], f1, f2, hm2, f3, h37, i + 1, true, updN f i x, by simp, by simp, rfl, hm3, hS7, f4, (fun h => by cases h), f5, fun _ => Nat.lt_of_le_of_lt (sumN_le hle) (hsl rfl)⟩
        | false =>
          by_cases hxe : x = f i
          · have hxe' : (x : Int) = (f i : Int) := by omega
            try simp only [wpK_assoc]
            refine wpK_reg1 (fun R hR => by simp [h3, h5, h6, h7, l3, l6, hxi, li, hxe']; exact hR) ?_
            simp only [leaves_normal, behind_normal]
            try simp only [wpK_assoc]
            refine wpK_reg1 (fun R hR => by simp [h28, hwi]; exact hR) ?_
            have hfx : updN f i x = f := by rw [hxe, updN_self]
            exact hI2 (n - (i + 1)) _ _ hm1 ⟨rfl, by simp [h1], by simp [h3], by simp [h26], by simp [h27], f1, f2, hm2, f3, h37, i + 1, false, updN f i x, by simp, by simp [hxe, hxe'], rfl, hm3, hS7, f4, fun _ p a t hp ha ht => by
              rw [hfx]
              by_cases ep : p = i
              · rw [ep] at ht ⊢
                exact c7 hxe a t ha ht (.inl ha)
              · exact hCe rfl p a t (by omega) ha ht, f5, fun h => by cases h⟩
          · have hxe' : ¬ (x : Int) = (f i : Int) := by omega
            try simp only [wpK_assoc]
            refine wpK_reg1 (fun R hR => by simp [h3, h5, h6, h7, l3, l6, hxi, li, hxe']; exact hR) ?_
            simp only [leaves_normal, behind_normal]
            try simp only [wpK_assoc]
            refine wpK_reg1 (fun R hR => by simp [h28, hwi]; exact hR) ?_
            exact hI2 (n - (i + 1)) _ _ hm1 ⟨rfl, by simp [h1], by simp [h3], by simp [h26], by simp [h27], f1, f2, hm2, f3, h37, i + 1, true, updN f i x, by simp, by simp [hxe, hxe'], rfl, hm3, hS7, f4, (fun h => by cases h), f5, fun _ => Nat.lt_of_lt_of_le (sumN_lt hle hlt (by unfold updN; rw [if_pos rfl]; omega)) hsu⟩
    · rintro A' W' hf; exact hf.elim
    · rintro ⟨tm, n', ds⟩ Wd ⟨hn', h1, h3, hMk, hOd, hnd, hVd, h8d, ch, f, h5, hSd, hPd, hCd, hsu, hsl⟩
      simp only at hn' h1 h3 hMk h5
      subst hn'
      simp only [leaves_normal, behind_normal]
      refine hI (sumN n f + (if ch = true then 1 else 0)) _ _ ?_ ⟨rfl, h1, h3, hMk, hOd, hnd, hVd, h8d, ch, f, h5, hSd, rfl, hPd, hCd⟩
      cases ch with
      | true => have := hsl rfl; simp; omega
      | false => simp; omega
  · rintro A' W' hf; exact hf.elim
  · rintro ⟨tm, n', ds⟩ Wd ⟨hn', h3, hMk, hOd, hnd, h8d, g, hSd, hPd, hCd⟩
    simp only at hn' h3 hMk
    subst hn'
    have l3 := h8d.load1 (T := T0) und86 rfl (j := 0) (v := rw') rfl
    try simp only [wpK_assoc]
    refine wpK_reg (fun R hR => by simp [h3, l3]; exact hR) ?_
    obtain ⟨Wy, g1, g2⟩ := hMk.collects
    have ng := g2.1
    have nd := hOd.1
    refine wpK_ret ⟨.inr rfl, Wy, g1, [rw'], by simp, ⟨by omega, fun b hb _ => by rw [g2.2 b (by omega) (by omega)]; exact hOd.2 b hb (by omega)⟩, p1 + 1, g, by rw [hrw, e1]; rfl, Var.only hSd g2 (by omega), by omega, hPd.1, hPd.2, hCd⟩
end Go.Proofs.YtfnigiojgbeklaaDoor

open Go Go.Eng
namespace Go.Proofs.YtfnigiojgbeklaaDoor
attribute [local congr] undef_congr WpK.congr WpS.congr WpL.congr WpC.congr WpF.congr gotS.congr callS.congr nextS.congr wantS.congr condS.congr
attribute [local irreducible] WpK
attribute [local simp] WpDr_nil WpDr_cons atS_some dwantS_true dwantS_false kindS_light kindS_float kindS_heavy lightS_value floatS_some heavyS_value heavyS_skip heavyS_enter dcallS_some doneS_eq
  isLight isFloat isPlain dLook testBit_dec dChain dLights_nil dLights_skip dLights_one dLight_nil dLight_cons dFreshes_nil dFreshes_one oneF_none oneF_some dFresh_nil dFresh_cons oneL_some oneW_true oneW_false sameV_value dPut dMay valEq arrEq listEq List.getElem?_cons Tr.get_nil dEnd
attribute [local simp] WpS_nil WpS_cons isDefer undef_false wantS_true wantS_false nextS_value nextS_skip nextS_enter callS_some gotS_some aWanted aOp aEvalF aEval opMove opAssign opPick aVal flat flat1 AAct.put opBinOp opConvert opIndex Tr.get_set Tr.get_lay aBin aResults tupled
  aCall aVals aCallB blt_dec ble_dec beq_dec aBinI_add aBinI_sub aBinI_lss aBinI_leq aBinI_gtr aBinI_geq aBinI_eql aBinI_neq index_str len_str len_slice Nat.beq_refl Nat.beq_refl
  opBox opLoad opFieldAddr opIndexAddr acells aAddr opExtract aExtract opUnOp opAlloc opStore opMakeInterface opNilCheck opBuild aParts opBuildSlice aValW
attribute [local simp] und2 und3 und4 und5 und9 und12 und13 und21 und22 und23 und24 und26 und27 und28 und30 und31 und34 und40 und43 und48 und49 und50 und54 und70 und71 und72 und79 und81 und86 und88 und89 und94 und99 und108 und109 und110 und118 und119 und120 und121 und123 und134 und143 und144 und145 und146 und148 und149 und150 und153 und154 und155 und157 und165 und167 und168 und178 und179 und187 und188 und189 und190 und191 und192 und193 und199 und214 und218 field13_0 field13_1 field23_0 field23_1 field24_0 field24_1 field27_0 field27_1 field28_0 field28_1 field49_0 field49_1 field49_2 field50_0 field50_1 field50_2 field70_0 field70_1 field70_2 field71_0 field71_1 field71_2 field72_0 field72_1 field72_2 field108_0 field108_1 field108_2 field109_0 field109_1 field109_2 field120_0 field120_1 field121_0 field121_1 field145_0 field145_1 field145_2 field146_0 field146_1 field146_2 field154_0 field154_1 field155_0 field155_1 field178_0 field178_1 field178_2 field178_3 field179_0 field179_1 field179_2 field179_3 field188_0 field188_1 field189_0 field189_1
set_option maxHeartbeats 4000000
set_option linter.unusedSimpArgs false
set_option linter.unusedVariables false
theorem bs34 (W : AW) (a b : Int) : aBuildSlice T0 W 34 1 [(0, .agg ⟨[.int .i64 a, .int .i64 b]⟩)] = some (.slice (some ⟨W.next, 0, none⟩) 1 2, W.newCells 40 [.int .i64 a, .int .i64 b]) := by kernel_rfl
theorem build40 (a b : Int) : aBuild T0 40 [(0, .int .i64 a), (1, .int .i64 b)] = some (.agg ⟨[.int .i64 a, .int .i64 b]⟩) := by kernel_rfl
theorem grow_pair {W : AW} {v : Value} {l : List (Int × Int)} {K : Nat → Prop} (h : GrowsN W v l.length (flatE encP l) 40 2 K) (hm : l.length ≤ 100000) (a b : Int) :
    ∃ v' W', aAppend T0 (W.newCells 40 [.int .i64 a, .int .i64 b]) [34, 34] [v, .slice (some ⟨W.next, 0, none⟩) 1 2] = some (v', W') ∧ W'.next = W.next + 2 ∧ GrowsN W' v' (l ++ [(a, b)]).length (flatE encP (l ++ [(a, b)])) 40 2 (fun b => K b ∨ b = W.next + 1) ∧ Only K W W' := by
  have hE : Ext W (W.newCells 40 [.int .i64 a, .int .i64 b]) := .newCells _ _ _
  have hV := Var.new W 40 [.int .i64 a, .int .i64 b]
  have hx' : (W.newCells 40 [.int .i64 a, .int .i64 b]).cellsAt W.next 0 2 = some [.int .i64 a, .int .i64 b] := by
    rw [hV.cellsAt 0 2 (by simp)]; rfl
  obtain ⟨v', W', g1, g2, g3, g4⟩ := append_growsN (T := T0) (t := 34) (by omega) und34 inf40 is40 z40 rfl (h.only (K' := fun _ => False) hE (fun _ _ _ x => x)) (u := [.int .i64 a, .int .i64 b]) (bx := W.next) (c := 2) rfl hx' rfl (by rw [by40]; omega) (by omega)
  refine ⟨v', W', g1, by rw [g2, newCells_next], ?_, ⟨by rw [g2, newCells_next]; omega, fun b hb hk => ?_⟩⟩
  · rw [flatE_append, flatE_one, List.length_append]
    exact g3.mono (fun b hb => hb.elim .inl (fun e => .inr (by rw [newCells_next] at e; omega)))
  · rw [g4.2 b (by rw [newCells_next]; omega) hk, newCells_get, if_neg (by omega)]
end Go.Proofs.YtfnigiojgbeklaaDoor

open Go Go.Eng
namespace Go.Proofs.YtfnigiojgbeklaaDoor
attribute [local congr] undef_congr WpK.congr WpS.congr WpL.congr WpC.congr WpF.congr gotS.congr callS.congr nextS.congr wantS.congr condS.congr
attribute [local irreducible] WpK
attribute [local simp] WpDr_nil WpDr_cons atS_some dwantS_true dwantS_false kindS_light kindS_float kindS_heavy lightS_value floatS_some heavyS_value heavyS_skip heavyS_enter dcallS_some doneS_eq
  isLight isFloat isPlain dLook testBit_dec dChain dLights_nil dLights_skip dLights_one dLight_nil dLight_cons dFreshes_nil dFreshes_one oneF_none oneF_some dFresh_nil dFresh_cons oneL_some oneW_true oneW_false sameV_value dPut dMay valEq arrEq listEq List.getElem?_cons Tr.get_nil dEnd
attribute [local simp] WpS_nil WpS_cons isDefer undef_false wantS_true wantS_false nextS_value nextS_skip nextS_enter callS_some gotS_some aWanted aOp aEvalF aEval opMove opAssign opPick aVal flat flat1 AAct.put opBinOp opConvert opIndex Tr.get_set Tr.get_lay aBin aResults tupled
  aCall aVals aCallB blt_dec ble_dec beq_dec aBinI_add aBinI_sub aBinI_lss aBinI_leq aBinI_gtr aBinI_geq aBinI_eql aBinI_neq index_str len_str len_slice Nat.beq_refl Nat.beq_refl
  opBox opLoad opFieldAddr opIndexAddr acells aAddr opExtract aExtract opUnOp opAlloc opStore opMakeInterface opNilCheck opBuild aParts opBuildSlice aValW
attribute [local simp] und2 und3 und4 und5 und9 und12 und13 und21 und22 und23 und24 und26 und27 und28 und30 und31 und34 und40 und43 und48 und49 und50 und54 und70 und71 und72 und79 und81 und86 und88 und89 und94 und99 und108 und109 und110 und118 und119 und120 und121 und123 und134 und143 und144 und145 und146 und148 und149 und150 und153 und154 und155 und157 und165 und167 und168 und178 und179 und187 und188 und189 und190 und191 und192 und193 und199 und214 und218 field13_0 field13_1 field23_0 field23_1 field24_0 field24_1 field27_0 field27_1 field28_0 field28_1 field49_0 field49_1 field49_2 field50_0 field50_1 field50_2 field70_0 field70_1 field70_2 field71_0 field71_1 field71_2 field72_0 field72_1 field72_2 field108_0 field108_1 field108_2 field109_0 field109_1 field109_2 field120_0 field120_1 field121_0 field121_1 field145_0 field145_1 field145_2 field146_0 field146_1 field146_2 field154_0 field154_1 field155_0 field155_1 field178_0 field178_1 field178_2 field178_3 field179_0 field179_1 field179_2 field179_3 field188_0 field188_1 field189_0 field189_1
set_option maxHeartbeats 4000000
set_option linter.unusedSimpArgs false
set_option linter.unusedVariables false
def rowL (r : Nat → Nat → Bool) (p : Nat) : Nat → List (Int × Int)
  | 0 => []
  | q + 1 => if r p q = true then rowL r p q ++ [((p : Int), (q : Int))] else rowL r p q
def flwL (n : Nat) (r : Nat → Nat → Bool) : Nat → List (Int × Int)
  | 0 => []
  | p + 1 => flwL n r p ++ rowL r p n
theorem rowL_len (r : Nat → Nat → Bool) (p : Nat) : ∀ q, (rowL r p q).length ≤ q
  | 0 => Nat.le_refl _
  | q + 1 => by
    have := rowL_len r p q
    unfold rowL; split
    · rw [List.length_append]; simp; exact this
    · omega
theorem flwL_len (n : Nat) (r : Nat → Nat → Bool) : ∀ p, (flwL n r p).length ≤ p * n
  | 0 => Nat.zero_le _
  | p + 1 => by
    have h1 := flwL_len n r p
    have h2 := rowL_len r p n
    unfold flwL; rw [List.length_append, Nat.succ_mul]; omega
theorem refFollows_wp {W : AW} {v : Value} {n L : Nat} {ss : List Tri} (h : StepR W v ss) (hg : GoodS n L ss) (hl : ss.length < 1000000) (hn : n ≤ 64) :
    WpF T0 15 [.agg ⟨[.int .i64 (n : Int), v]⟩] W (fun u W' => Ext W W' ∧ ∃ k, PairR W' u (flwL n (itG ss ss false k) n) ∧ (∀ p q, p < n → q < n → itG ss ss false (k + 1) p q = itG ss ss false k p q)) := by
  refine wpF fun15 rfl ?_
  obtain ⟨W1, hW1, hE1, hV⟩ : ∃ W1, W1 = W.newCells 24 [.int .i64 (n : Int), v] ∧ Ext W W1 ∧ Var W1 W.next 24 [.int .i64 (n : Int), v] := ⟨_, rfl, .newCells _ _ _, Var.new _ _ _⟩
  have l0 := hV.load1 (T := T0) und3 rfl (j := 0) (v := .int .i64 (n : Int)) rfl
  have l1 := hV.load1 (T := T0) und22 rfl (j := 1) (v := v) rfl
  have hS := h.ext hE1
  try simp only [wpK_assoc]
  refine wpK_reg (fun R hR => by simp [← hW1]; exact hR) ?_
  try simp only [wpK_assoc]
  refine wpK_x2 (P := fun v1 v2 W' => Ext W1 W' ∧ ∃ k, BMat W' v2 n (itG ss ss false k) (fun _ => True) ∧ (∀ p q, p < n → q < n → itG ss ss false (k + 1) p q = itG ss ss false k p q)) (fun R hR => by
    simp [l0, l1, aEnter, fun42, short_other, aCallV]; rw [callS_none]
    refine (greatest_wp hS hS hg hg hl hl hn false).mono ?_
    rintro v1 W2 ⟨hE2, k, K, hRn, hk, hfix, _⟩
    simp [aEnter, fun41, short_other, aCallV]; rw [callS_none]
    refine (last_wp hRn hk).mono ?_
    rintro v2 W3 ⟨rfl, hB⟩
    simp
    exact hR v1 v2 W3 (And.intro hE2 ⟨k, hB.mono (fun _ _ => trivial), hfix⟩)) ?_
  rintro v1 v2 Wd ⟨hEd, k, hB, hfix⟩
  obtain ⟨r, hr⟩ : ∃ r, r = itG ss ss false k := ⟨_, rfl⟩
  rw [← hr] at hB
  obtain ⟨m, f, rfl, hM, _, _⟩ := hB
  obtain ⟨q1, hq1⟩ : ∃ q, q = W.next := ⟨_, rfl⟩
  have hV' := hV.ext hEd
  rw [← hq1] at hV'
  have l50 : ∀ W', Ext Wd W' → aLoadVar T0 W' 3 q1 0 = some (.int .i64 (n : Int)) := fun W' hE => (hV'.ext hE).load1 (T := T0) und3 rfl (j := 0) (v := .int .i64 (n : Int)) rfl
  obtain ⟨mv, hmv⟩ : ∃ mv, mv = rowV m n := ⟨_, rfl⟩
  have hAt : ∀ W', Ext Wd W' → ∀ {i j : Nat}, i < n → j < n → aIndexAddr T0 79 mv (.int .i64 (i : Int)) = some (.pointer (some ⟨m, i, none⟩)) ∧ aLoadVar T0 W' 54 m i = some (rowV (f i) n) ∧ aIndexAddr T0 54 (rowV (f i) n) (.int .i64 (j : Int)) = some (.pointer (some ⟨f i, j, none⟩)) ∧ aLoadVar T0 W' 4 (f i) j = some (.bool (r i j)) := fun W' hE i j hi hj => by
    have hM' := hM.ext hE
    obtain ⟨a1, a2⟩ := hM'.at hi (Nat.le_refl _)
    exact ⟨by rw [hmv]; exact a1, a2, row_ix hj, hM'.cell hi hj⟩
  rw [← hmv]
  try simp only [wpK_assoc]
  refine wpK_reg (fun R hR => by simp []; exact hR) ?_
  try simp only [wpK_assoc]
  refine wpK_reg (fun R hR => by simp []; exact hR) ?_
  refine wpK_keep (fun tm' => tm'.get 1 = some (.pointer (some ⟨q1, 0, none⟩)) ∧ tm'.get 3 = some (mv) ∧ tm'.get 4 = some (.slice none 0 0) ∧ tm'.get 5 = some (.int .i64 0)) ⟨by simp [hq1], by simp [hq1], by simp [hq1], by simp [hq1]⟩ ?_
  rintro tm ⟨h1, h3, h4, h5⟩
  try simp only [wpK_assoc]
  refine wpK_while (I := fun q A' W' => A'.n = 41 ∧ A'.defers = [] ∧ A'.tmps.get 1 = some (.pointer (some ⟨q1, 0, none⟩)) ∧ A'.tmps.get 3 = some (mv) ∧ Ext Wd W' ∧ ∃ (i : Nat) (tx : Value) (K : Nat → Prop), A'.tmps.get 5 = some (.int .i64 (i : Int)) ∧ A'.tmps.get 4 = some tx ∧ q = n - i ∧ i ≤ n ∧ GrowsN W' tx (flwL n r i).length (flatE encP (flwL n r i)) 40 2 K ∧ (∀ b, K b → Wd.next ≤ b))
    (J := fun A' W' => A'.n = 41 ∧ A'.defers = [] ∧ A'.tmps.get 1 = some (.pointer (some ⟨q1, 0, none⟩)) ∧ A'.tmps.get 3 = some (mv) ∧ Ext Wd W' ∧ ∃ (tx : Value) (K : Nat → Prop), A'.tmps.get 4 = some tx ∧ GrowsN W' tx (flwL n r n).length (flatE encP (flwL n r n)) 40 2 K) (Rt := fun _ _ => False) (k := n) ?_ ?_ ?_ ?_
  · exact ⟨rfl, rfl, by simp [h1, h3], by simp [h1, h3], .refl _ _, 0, _, fun _ => False, by simp [h5], by simp [h4], rfl, by omega, .nil _ _ _ _, fun b hb => hb.elim⟩
  · rintro q ⟨tm, n, ds⟩ We ⟨hn, hd, h1, h3, hEe, i, tx, K, h5, h4, hq, hil, hgr, hK⟩ Q2 hJ2 hRt2 hI2
    simp only at hn hd h1 h3
    subst hn; subst hd
    simp only at h5 h4
    have l5e := l50 We hEe
    by_cases hit : i < n
    case neg =>
      have e : i = n := by omega
      subst e
      try simp only [wpK_assoc]
      refine wpK_reg (fun R hR => by simp [h1, h5, l5e]; exact hR) ?_
      try simp only [wpK_assoc]
      first | refine wpK_onF (by simp []) ?_ | refine wpK_out (by simp []) ?_ | refine wpK_condF (by simp []) ?_ | refine wpK_endF (by simp []) (wpK_skip ?_) | refine wpK_endF (by simp []) ?_
      exact hJ2 _ _ ⟨rfl, rfl, by simp [h1, h3], by simp [h1, h3], hEe, tx, K, by simp [h4], hgr⟩
    have hit' : (i : Int) < n := by omega
    have hfl := flwL_len n r i
    have hin : i * n ≤ 64 * 64 := Nat.mul_le_mul (by omega) hn
    try simp only [wpK_assoc]
    refine wpK_reg (fun R hR => by simp [h1, h5, l5e, hit']; exact hR) ?_
    try simp only [wpK_assoc]
    first | refine wpK_onT (by simp [hit]) ?_ | refine wpK_outT (by simp [hit]) ?_ | refine wpK_condT (by simp [hit]) ?_ | refine wpK_endT (by simp [hit]) ?_
    refine wpK_block ?_
    try simp only [wpK_assoc]
    refine wpK_reg (fun R hR => by simp []; exact hR) ?_
    refine wpK_keep (fun tm' => tm'.get 1 = some (.pointer (some ⟨q1, 0, none⟩)) ∧ tm'.get 3 = some (mv) ∧ tm'.get 5 = some (.int .i64 (i : Int)) ∧ tm'.get 4 = some (tx) ∧ tm'.get 6 = some (.int .i64 0)) ⟨by simp [h1, h3, h4, h5], by simp [h1, h3, h4, h5], by simp [h1, h3, h4, h5], by simp [h1, h3, h4, h5], by simp [h1, h3, h4, h5]⟩ ?_
    rintro tm ⟨h1, h3, h5, h4, h6⟩
    try simp only [wpK_assoc]
    refine wpK_while1 (I := fun q A' W' => A'.n = 41 ∧ A'.defers = [] ∧ A'.tmps.get 1 = some (.pointer (some ⟨q1, 0, none⟩)) ∧ A'.tmps.get 3 = some (mv) ∧ A'.tmps.get 5 = some (.int .i64 (i : Int)) ∧ Ext Wd W' ∧ ∃ (j : Nat) (tx : Value) (pl : List (Int × Int)) (K : Nat → Prop), A'.tmps.get 6 = some (.int .i64 (j : Int)) ∧ A'.tmps.get 4 = some tx ∧ q = n - j ∧ j ≤ n ∧ pl = flwL n r i ++ rowL r i j ∧ GrowsN W' tx pl.length (flatE encP pl) 40 2 K ∧ (∀ b, K b → Wd.next ≤ b))
      (J := fun A' W' => A'.n = 41 ∧ A'.defers = [] ∧ A'.tmps.get 1 = some (.pointer (some ⟨q1, 0, none⟩)) ∧ A'.tmps.get 3 = some (mv) ∧ A'.tmps.get 5 = some (.int .i64 (i : Int)) ∧ Ext Wd W' ∧ ∃ (tx : Value) (K : Nat → Prop), A'.tmps.get 4 = some tx ∧ GrowsN W' tx (flwL n r (i + 1)).length (flatE encP (flwL n r (i + 1))) 40 2 K ∧ (∀ b, K b → Wd.next ≤ b)) (Rt := fun _ _ => False) (k := n) ?_ ?_ ?_ ?_
    · exact ⟨rfl, rfl, by simp [h1, h3, h5], by simp [h1, h3, h5], by simp [h1, h3, h5], hEe, 0, tx, flwL n r i, K, by simp [h6], by simp [h4], rfl, by omega, by simp [rowL], hgr, hK⟩
    · rintro q ⟨tm, n, ds⟩ Wf ⟨hn, hd, h1, h3, h5, hEf, j, tx, pl, K, h6, h4, hq, hjl, hpl, hgr, hK⟩ Q3 hJ3 hRt3 hI3
      simp only at hn hd h1 h3 h5
      subst hn; subst hd
      simp only at h6 h4
      have l5f := l50 Wf hEf
      by_cases hjt : j < n
      case neg =>
        have e : j = n := by omega
        subst e
        have e2 : pl = flwL j r (i + 1) := hpl
        subst e2
        try simp only [wpK_assoc]
        refine wpK_reg (fun R hR => by simp [h1, h6, l5f]; exact hR) ?_
        try simp only [wpK_assoc]
        first | refine wpK_onF (by simp []) ?_ | refine wpK_out (by simp []) ?_ | refine wpK_condF (by simp []) ?_ | refine wpK_endF (by simp []) (wpK_skip ?_) | refine wpK_endF (by simp []) ?_
        exact hJ3 _ _ ⟨rfl, rfl, by simp [h1, h3, h5], by simp [h1, h3, h5], by simp [h1, h3, h5], hEf, tx, K, by simp [h4], hgr, hK⟩
      have hjt' : (j : Int) < n := by omega
      try simp only [wpK_assoc]
      refine wpK_reg (fun R hR => by simp [h1, h6, l5f, hjt']; exact hR) ?_
      try simp only [wpK_assoc]
      first | refine wpK_onT (by simp [hjt]) ?_ | refine wpK_outT (by simp [hjt]) ?_ | refine wpK_condT (by simp [hjt]) ?_ | refine wpK_endT (by simp [hjt]) ?_
      obtain ⟨a1, a2, a3, a4⟩ := hAt Wf hEf hit hjt
      have hst : rowL r i (j + 1) = if r i j = true then rowL r i j ++ [((i : Int), (j : Int))] else rowL r i j := rfl
      have hrl := rowL_len r i j
      have hll : pl.length ≤ 100000 := by rw [hpl, List.length_append]; omega
      refine wpK_block ?_
      try simp only [wpK_assoc]
      refine wpK_reg (fun R hR => by simp [h3, h5, h6, a1, a2, a3, a4]; exact hR) ?_
      cases hb : r i j with
      | false =>
        rw [hb, if_neg (by simp)] at hst
        try simp only [wpK_assoc]
        first | refine wpK_onF (by simp [hb]) ?_ | refine wpK_out (by simp [hb]) ?_ | refine wpK_condF (by simp [hb]) ?_ | refine wpK_endF (by simp [hb]) (wpK_skip ?_) | refine wpK_endF (by simp [hb]) ?_
        simp only [leaves_normal, behind_normal]
        try simp only [wpK_assoc]
        refine wpK_reg1 (fun R hR => by simp [h6]; exact hR) ?_
        exact hI3 (n - (j + 1)) _ _ (by omega) ⟨rfl, rfl, by simp [h1, h3, h5], by simp [h1, h3, h5], by simp [h1, h3, h5], hEf, j + 1, tx, pl, K, by simp [i64_succ j (by omega)], by simp [h4], rfl, by omega, by rw [hst]; exact hpl, hgr, hK⟩
      | true =>
        rw [hb, if_pos rfl] at hst
        obtain ⟨v', Wg, p1, p2, p3, p4⟩ := grow_pair hgr hll (i : Int) (j : Int)
        have hb40 := build40 (i : Int) (j : Int)
        have hb34 := bs34 Wf (i : Int) (j : Int)
        try simp only [wpK_assoc]
        first | refine wpK_onT (by simp [hb]) ?_ | refine wpK_outT (by simp [hb]) ?_ | refine wpK_condT (by simp [hb]) ?_ | refine wpK_endT (by simp [hb]) ?_
        try simp only [wpK_assoc]
        refine wpK_reg1 (fun R hR => by simp [h4, h5, h6, hb40, hb34, p1]; exact hR) ?_
        simp only [leaves_normal, behind_normal]
        refine wpK_keep (fun tm' => tm'.get 1 = some (.pointer (some ⟨q1, 0, none⟩)) ∧ tm'.get 3 = some (mv) ∧ tm'.get 5 = some (.int .i64 (i : Int)) ∧ tm'.get 4 = some (v') ∧ tm'.get 6 = some (.int .i64 (j : Int))) ⟨by simp [h1, h3, h5, h6], by simp [h1, h3, h5, h6], by simp [h1, h3, h5, h6], by simp [h1, h3, h5, h6], by simp [h1, h3, h5, h6]⟩ ?_
        rintro tm ⟨h1, h3, h5, h4, h6⟩
        try simp only [wpK_assoc]
        refine wpK_reg1 (fun R hR => by simp [h6]; exact hR) ?_
        have nf := hEf.1
        exact hI3 (n - (j + 1)) _ _ (by omega) ⟨rfl, rfl, by simp [h1, h3, h5], by simp [h1, h3, h5], by simp [h1, h3, h5], ⟨by omega, fun b hb _ => by rw [p4.2 b (by omega) (fun hk => by have := hK b hk; omega)]; exact hEf.2 b hb (fun x => x)⟩, j + 1, v', pl ++ [((i : Int), (j : Int))], _, by simp [i64_succ j (by omega)], by simp [h4], rfl, by omega, by rw [hst, hpl, List.append_assoc], p3, fun b hb => by rcases hb with hb | hb; exact hK b hb; omega⟩
    · rintro A' W' hf; exact hf.elim
    · rintro ⟨tm, n, ds⟩ Wf ⟨hn, hd, h1, h3, h5, hEf, tx, K, h4, hgr, hK⟩
      simp only at hn hd h1 h3 h5
      subst hn; subst hd
      simp only at h4
      simp only [leaves_normal, behind_normal]
      try simp only [wpK_assoc]
      refine wpK_reg1 (fun R hR => by simp [h5]; exact hR) ?_
      exact hI2 (n - (i + 1)) _ _ (by omega) ⟨rfl, rfl, by simp [h1, h3], by simp [h1, h3], hEf, i + 1, tx, K, by simp [i64_succ i (by omega)], by simp [h4], rfl, by omega, hgr, hK⟩
  · rintro A' W' hf; exact hf.elim
  · rintro ⟨tm, n, ds⟩ We ⟨hn, hd, h1, h3, hEe, tx, K, h4, hgr⟩
    simp only at hn hd h1 h3
    subst hn; subst hd
    simp only at h4
    try simp only [wpK_assoc]
    refine wpK_reg (fun R hR => by simp [h4]; exact hR) ?_
    exact wpK_ret ⟨.inr rfl, rfl, [tx], by simp, (hE1.trans hEd).trans hEe, k, by rw [← hr]; exact hgr.row encP_len, hfix⟩
end Go.Proofs.YtfnigiojgbeklaaDoor

open Go Go.Eng
namespace Go.Proofs.YtfnigiojgbeklaaDoor
attribute [local congr] undef_congr WpK.congr WpS.congr WpL.congr WpC.congr WpF.congr gotS.congr callS.congr nextS.congr wantS.congr condS.congr
attribute [local irreducible] WpK
attribute [local simp] WpDr_nil WpDr_cons atS_some dwantS_true dwantS_false kindS_light kindS_float kindS_heavy lightS_value floatS_some heavyS_value heavyS_skip heavyS_enter dcallS_some doneS_eq
  isLight isFloat isPlain dLook testBit_dec dChain dLights_nil dLights_skip dLights_one dLight_nil dLight_cons dFreshes_nil dFreshes_one oneF_none oneF_some dFresh_nil dFresh_cons oneL_some oneW_true oneW_false sameV_value dPut dMay valEq arrEq listEq List.getElem?_cons Tr.get_nil dEnd
attribute [local simp] WpS_nil WpS_cons isDefer undef_false wantS_true wantS_false nextS_value nextS_skip nextS_enter callS_some gotS_some aWanted aOp aEvalF aEval opMove opAssign opPick aVal flat flat1 AAct.put opBinOp opConvert opIndex Tr.get_set Tr.get_lay aBin aResults tupled
  aCall aVals aCallB blt_dec ble_dec beq_dec aBinI_add aBinI_sub aBinI_lss aBinI_leq aBinI_gtr aBinI_geq aBinI_eql aBinI_neq index_str len_str len_slice Nat.beq_refl Nat.beq_refl
  opBox opLoad opFieldAddr opIndexAddr acells aAddr opExtract aExtract opUnOp opAlloc opStore opMakeInterface opNilCheck opBuild aParts opBuildSlice aValW
attribute [local simp] und2 und3 und4 und5 und9 und12 und13 und21 und22 und23 und24 und26 und27 und28 und30 und31 und34 und40 und43 und48 und49 und50 und54 und70 und71 und72 und79 und81 und86 und88 und89 und94 und99 und108 und109 und110 und118 und119 und120 und121 und123 und134 und143 und144 und145 und146 und148 und149 und150 und153 und154 und155 und157 und165 und167 und168 und178 und179 und187 und188 und189 und190 und191 und192 und193 und199 und214 und218 field13_0 field13_1 field23_0 field23_1 field24_0 field24_1 field27_0 field27_1 field28_0 field28_1 field49_0 field49_1 field49_2 field50_0 field50_1 field50_2 field70_0 field70_1 field70_2 field71_0 field71_1 field71_2 field72_0 field72_1 field72_2 field108_0 field108_1 field108_2 field109_0 field109_1 field109_2 field120_0 field120_1 field121_0 field121_1 field145_0 field145_1 field145_2 field146_0 field146_1 field146_2 field154_0 field154_1 field155_0 field155_1 field178_0 field178_1 field178_2 field178_3 field179_0 field179_1 field179_2 field179_3 field188_0 field188_1 field189_0 field189_1
set_option maxHeartbeats 4000000
set_option linter.unusedSimpArgs false
set_option linter.unusedVariables false
theorem rowL_memb (g : Nat → Nat) (p : Nat) : ∀ m, rowL (fun p q => (g p).testBit q) p m = (memb m (g p)).map fun q => ((p : Int), q)
  | 0 => rfl
  | m + 1 => by
    have ih := rowL_memb g p m
    rw [memb_succ, List.map_append, ← ih]
    show (if (g p).testBit m = true then rowL (fun p q => (g p).testBit q) p m ++ [((p : Int), (m : Int))] else rowL (fun p q => (g p).testBit q) p m) = _
    cases h : (g p).testBit m <;> simp [-testBit_dec]
theorem Marks.above {lo : Nat} {W : AW} : ∀ {ds : List Deferred}, Marks lo ds W → ∀ d ∈ ds, ∀ r, d.target = .collected r → lo ≤ r
  | d :: ds, h, d', hd, r, hr => by
    obtain ⟨r', h1, h2, h3, h4, h5, h6⟩ := h
    cases hd with
    | head => rw [h1] at hr; cases hr; exact h2
    | tail _ hd => exact h6.above d' hd r hr
theorem Marks.collects2 {lo : Nat} : ∀ {ds : List Deferred} {W : AW}, Marks lo ds W → ∃ W', Collects ds W W' ∧ Only (fun b => ∃ d ∈ ds, d.target = .collected b) W W'
  | [], W, _ => ⟨W, rfl, .refl _ _⟩
  | d :: ds, W, h => by
    obtain ⟨r, h1, h2, h3, h4, h5, h6⟩ := h
    have h6' : Marks lo ds (W.setObj r (.deferred none)) := h6.only (setObj_only W r _) (fun d' hd r' hr _ _ e => h5 d' hd (by rw [hr, e]))
    obtain ⟨W', g1, g2⟩ := h6'.collects2
    exact ⟨W', ⟨r, h1, h4, g1⟩, Only.trans (Only.mono (setObj_only W r _) (fun b _ e => ⟨d, List.mem_cons_self .., by rw [e]; exact h1⟩)) (g2.mono (fun b _ ⟨d', hd, e⟩ => ⟨d', List.mem_cons_of_mem _ hd, e⟩))⟩
theorem follows_wp {W : AW} {v : Value} {n L : Nat} {ss : List Tri} (h : StepR W v ss) (hg : GoodS n L ss) (hn1 : 1 ≤ n) (hn : n ≤ 63) (hL : L ≤ 10) (hl : ss.length ≤ 500) (hT : tabsIn T0 T0.tabs W = true) (h0 : 0 < W.next)
    {S : Nat → Nat → Prop} (hS1 : ∀ p q a t, S p q → a < 10 → (toS ss a p).testBit t = true → ∃ t', (toS ss a q).testBit t' = true ∧ S t t') (hS2 : ∀ p q, S p q → q < n) :
    WpF T0 14 [.agg ⟨[.int .i64 (n : Int), v]⟩] W (fun u W' => Ext W W' ∧ ∃ lv g, u = .tuple ⟨[lv, .int .i64 0]⟩ ∧ PairR W' lv (flwL n (fun p q => (g p).testBit q) n) ∧ (∀ p, p < n → g p < 2 ^ n) ∧ (∀ p q, p < n → S p q → (g p).testBit q = true) ∧ ClosedTo (toS ss) n n g) := by
  refine wpFd fun14 rfl ?_
  obtain ⟨W1, hW1, hE1, hV⟩ : ∃ W1, W1 = W.newCells 28 [.int .i64 (n : Int), v] ∧ Ext W W1 ∧ Var W1 W.next 28 [.int .i64 (n : Int), v] := ⟨_, rfl, .newCells _ _ _, Var.new _ _ _⟩
  have l2 := load28 hV
  have p64 := u64_two (show n < 64 by omega)
  try simp only [wpK_assoc]
  refine wpK_reg (fun R hR => by simp [← hW1]; exact hR) ?_
  have hlay := lay_wp (h.ext hE1) hg hn1 (by omega) hL hl
  try simp only [wpK_assoc]
  refine wpK_x1 (P := fun c W2 => Ext W1 W2 ∧ ChartAt W2 c n (toS ss)) (fun R hR => by
    simp [l2, aEnter, fun36, short_other, aCallV]; rw [callS_none]
    refine hlay.mono ?_
    rintro _ W2 ⟨hE2, c, rfl, hc, hC⟩
    simp
    exact hR c W2 (And.intro hE2 hC)) ?_
  rintro c W2 ⟨hE2, hC⟩
  try simp only [wpK_assoc]
  refine wpK_reg (fun R hR => by simp []; exact hR) ?_
  try simp only [wpK_assoc]
  first | refine wpK_onF (by simp []) ?_ | refine wpK_out (by simp []) ?_ | refine wpK_condF (by simp []) ?_ | refine wpK_endF (by simp []) (wpK_skip ?_) | refine wpK_endF (by simp []) ?_
  obtain ⟨W3, hW3, hE3, hV3, hn3⟩ : ∃ W3, W3 = W2.newCells 34 [.slice none 0 0] ∧ Ext W2 W3 ∧ Var W3 W2.next 34 [.slice none 0 0] ∧ W3.next = W2.next + 1 := ⟨_, rfl, .newCells _ _ _, Var.new _ _ _, rfl⟩
  try simp only [wpK_assoc]
  refine wpK_reg (fun R hR => by simp [zero34, ← hW3]; exact hR) ?_
  have hE03 := (hE1.trans hE2).trans hE3
  have hT3 := tabs_ext hT h0 hE03
  have n03 := hE03.1
  have n02 := (hE1.trans hE2).1
  obtain ⟨p6, hp6⟩ : ∃ p6, p6 = W2.next := ⟨_, rfl⟩
  rw [← hp6] at hV3 hn3
  have ll : ∀ W' b, aLen T0 W' 86 (rowV b n) = some (.int .i64 n) := fun W' b => len_slice und86 _ _ _
  try simp only [wpK_assoc]
  refine wpK_x2 (P := fun (rb : Nat) (g : Nat → Nat) W4 => Ext W3 W4 ∧ SetN W4 rb n g ∧ W3.next ≤ rb ∧ (∀ p, p < n → g p < 2 ^ n) ∧ (∀ p q, p < n → S p q → (g p).testBit q = true) ∧ ClosedTo (toS ss) n n g) (fun R hR => by
    simp [aEnter, fun39, short_other, aCallV]; rw [callS_none]
    refine (followers_wp (hC.ext hE3) hT3 (by omega) (by omega) (fun a p => toS_lt hg a p) hS1 hS2).mono ?_
    rintro _ W4 ⟨hE4, b, g, rfl, hP1, hP2, hP3⟩
    simp [ll]
    exact hR b g W4 (And.intro hE4 (And.intro hP1 (And.intro hP2 hP3)))) ?_
  rintro rb g W4 ⟨hE4, hS4, hrb, hg2, hgS, hgC⟩
  obtain ⟨lo, hlo⟩ : ∃ lo, lo = W4.next := ⟨_, rfl⟩
  have hrl := hS4.1
  have hV4 := hV3.ext hE4
  have hE04 := hE03.trans hE4
  have n04 := hE04.1
  have n34 := hE4.1
  have vrow := rowV_eq rb n
  have ix : ∀ {j}, j < n → aIndexAddr T0 86 (rowV rb n) (.int .i64 (j : Int)) = some (.pointer (some ⟨rb, j, none⟩)) := fun h => ix86 h
  obtain ⟨rw', hrw⟩ : ∃ r, r = rowV rb n := ⟨_, rfl⟩
  rw [← hrw] at vrow ix
  try simp only [wpK_assoc]
  refine wpK_while (I := fun q A' W' => A'.n = 37 ∧ A'.tmps.get 6 = some (.pointer (some ⟨p6, 0, none⟩)) ∧ A'.tmps.get 19 = some rw' ∧ A'.tmps.get 20 = some (.int .i64 (n : Int)) ∧ Marks lo A'.defers W' ∧ Only (fun b => b = p6 ∨ lo ≤ b) W4 W' ∧
      ∃ (i : Nat) (lv : Value) (K : Nat → Prop), A'.tmps.get 21 = some (.int .i64 (i : Int)) ∧ q = n - i ∧ i ≤ n ∧ Var W' p6 34 [lv] ∧ GrowsN W' lv (flwL n (fun p q => (g p).testBit q) i).length (flatE encP (flwL n (fun p q => (g p).testBit q) i)) 40 2 K ∧ (∀ b, K b → lo ≤ b ∧ b < W'.next) ∧ (∀ d ∈ A'.defers, ∀ r, d.target = .collected r → ¬ K r))
    (J := fun A' W' => A'.n = 37 ∧ A'.tmps.get 6 = some (.pointer (some ⟨p6, 0, none⟩)) ∧ Marks lo A'.defers W' ∧ Only (fun b => b = p6 ∨ lo ≤ b) W4 W' ∧
      ∃ (lv : Value) (K : Nat → Prop), Var W' p6 34 [lv] ∧ GrowsN W' lv (flwL n (fun p q => (g p).testBit q) n).length (flatE encP (flwL n (fun p q => (g p).testBit q) n)) 40 2 K ∧ (∀ b, K b → lo ≤ b) ∧ (∀ d ∈ A'.defers, ∀ r, d.target = .collected r → ¬ K r)) (Rt := fun _ _ => False) (k := n) ?_ ?_ ?_ ?_
  · exact ⟨rfl, by simp [hp6], by simp [hrw], by simp, trivial, .refl _ _, 0, _, fun _ => False, by simp, rfl, by omega, hV4, .nil _ _ _ _, fun b hb => hb.elim, fun d hd => by cases hd⟩
  · rintro q ⟨tm, n', ds⟩ We ⟨hn', h6, h19, h20, hMk, hOe, i, lv, Ke, h21, hq, hil, hVe, hGe, hKe, hKd⟩ Q' hJ hRt hI
    simp only at hn' h6 h19 h20 hMk h21 hKd
    subst hn'
    have ne := hOe.1
    by_cases hlt : i < n
    case neg =>
      have hie : i = n := by omega
      rw [hie] at hGe
      have hlt' : ¬ (i : Int) < n := by omega
      try simp only [wpK_assoc]
      refine wpK_reg (fun R hR => by simp [h20, h21, hlt']; exact hR) ?_
      try simp only [wpK_assoc]
      first | refine wpK_onF (by simp [hlt]) ?_ | refine wpK_out (by simp [hlt]) ?_ | refine wpK_condF (by simp [hlt]) ?_ | refine wpK_endF (by simp [hlt]) (wpK_skip ?_) | refine wpK_endF (by simp [hlt]) ?_
      exact hJ _ _ ⟨rfl, by simp [h6], hMk, hOe, lv, Ke, hVe, hGe, fun b hb => (hKe b hb).1, hKd⟩
    have hlt' : (i : Int) < n := by omega
    try simp only [wpK_assoc]
    refine wpK_reg (fun R hR => by simp [h20, h21, hlt']; exact hR) ?_
    try simp only [wpK_assoc]
    first | refine wpK_onT (by simp [hlt]) ?_ | refine wpK_outT (by simp [hlt]) ?_ | refine wpK_condT (by simp [hlt]) ?_ | refine wpK_endT (by simp [hlt]) ?_
    refine wpK_block ?_
    have ixi := ix hlt
    have hSe : SetN We rb n g := Var.only hS4 hOe (by omega)
    have lfi := hSe.load hlt
    obtain ⟨Wf, s1, s2, hEf, hLf⟩ := storeVar_new (T := T0) (W := We) (t := 3) (z := [.int .i64 0]) (v := .int .i64 (i : Int)) inf3 (by rw [is3]; rfl) (by rw [is3]; rfl) rfl
    have hLf : Var Wf We.next 3 [.int .i64 (i : Int)] := hLf
    obtain ⟨p7, hp7⟩ : ∃ p7, p7 = We.next := ⟨_, rfl⟩
    try simp only [wpK_assoc]
    refine wpK_reg (fun R hR => by simp [h19, h21, ixi, lfi, zero3, s1]; exact hR) ?_
    rw [← hp7] at hLf
    have nf := hEf.1
    try simp only [wpK_assoc]
    refine wpK_x0 (fun R hR => by
        simp [aEnter, fun40, short_other, aCallV]; rw [callS_none]
        refine (places_wp (g i)).mono ?_
        rintro _ Wg ⟨hEg, rfl, hBg⟩
        simp []; exact hR Wg (And.intro hEg hBg)) ?_
    rintro Wg ⟨hEg, hBg⟩
    have ng := hEg.1
    refine wpK_keep (fun tm' => tm'.get 6 = some (.pointer (some ⟨p6, 0, none⟩)) ∧ tm'.get 7 = some (.pointer (some ⟨p7, 0, none⟩)) ∧ tm'.get 19 = some rw' ∧ tm'.get 20 = some (.int .i64 (n : Int)) ∧ tm'.get 21 = some (.int .i64 (i : Int)) ∧ tm'.get 27 = some (.func (.func 72) ⟨[]⟩ ⟨[.pointer (some ⟨Wf.next, 0, none⟩)]⟩)) ⟨by simp [h6], by simp [hp7], by simp [h19], by simp [h20], by simp [h21], by simp⟩ ?_
    clear h6 h19 h20 h21
    rintro tm ⟨h6, h7, h19, h20, h21, h27⟩
    have hlf := hLf.1
    refine wpK_range3 (f := 72) (first := ⟨[]⟩) (cap := ⟨[.pointer (some ⟨Wf.next, 0, none⟩)]⟩) (by simp [h27]) fun72 (fun W5 hn5 hW5 hdf hlp => ?_)
    obtain ⟨z, hz⟩ : ∃ z, z = Wg.next := ⟨_, rfl⟩
    rw [← hz] at hn5 hdf hlp
    have hEg5 : Ext Wg W5 := ⟨by omega, fun b hb _ => hW5 b hb⟩
    have hEe5 := (hEf.trans hEg).trans hEg5
    have hV5 := hVe.ext hEe5
    have hL5 := hLf.ext (hEg.trans hEg5)
    have hM5 := hMk.ext hEe5
    have hG5 := hGe.only hEe5 (fun _ _ _ x => x)
    have hO5 : Only (fun b => b = p6 ∨ lo ≤ b) W4 W5 := hOe.trans (hEe5.mono (fun _ _ x => x.elim))
    have hT5 := tabs_only (tabs_ext hT h0 hE04) (by omega) hO5 (by omega)
    have hgi := hg2 i hlt
    obtain ⟨pl, hpl⟩ : ∃ pl, pl = flwL n (fun p q => (g p).testBit q) i := ⟨_, rfl⟩
    have hpll : pl.length ≤ i * n := by rw [hpl]; exact flwL_len _ _ _
    have hin : i * n ≤ 64 * 64 := Nat.mul_le_mul (by omega) (by omega)
    have hmn := memb_len n (g i)
    rw [← hpl] at hG5
    refine (places1_wp (l := Wg.next + 1) (bx := Wf.next) (x := g i) (fun left V => Only (fun b => b = p6 ∨ Ke b ∨ b = z + 1 ∨ W5.next ≤ b) W5 V ∧ V.blocks.get (z + 1) = W5.blocks.get (z + 1) ∧ left < 2 ^ n ∧
      ∃ (lv : Value) (m0 : List Int) (K : Nat → Prop), memb n (g i) = m0 ++ memb n left ∧ Var V p6 34 [lv] ∧ GrowsN V lv (pl ++ m0.map fun q => ((i : Int), q)).length (flatE encP (pl ++ m0.map fun q => ((i : Int), q))) 40 2 K ∧ ∀ b, K b → (Ke b ∨ W5.next ≤ b) ∧ b < V.next) (Nat.lt_trans hgi p64) (fun left k V hC' hl' hk1 hk2 => ?_)
      ⟨.refl _ _, rfl, hgi, lv, [], Ke, rfl, hV5, by rw [List.map_nil, List.append_nil]; exact hG5, fun b hb => ⟨.inl hb, by have := hKe b hb; have := hEe5.1; omega⟩⟩ (hBg.ext hEg5)).mono ?_
    · obtain ⟨c1, c2, c3, lw, m0, K, c4, c5, c6, c7⟩ := hC'
      have hl := c2.trans hlp
      rw [hz] at hl
      have nv := c1.1
      have hKe0 : ∀ b, Ke b → lo ≤ b ∧ b < We.next := fun b hb => hKe b hb
      refine ⟨tabs_only hT5 (by omega) c1 (fun h => by rcases h with h | h | h | h; omega; have := hKe0 _ h; omega; omega; omega), _, _, _, _, _, _, _, _, _, _, tm.set 28 (.int .i64 (k : Nat)), hl, rfl, ?_⟩
      refine wpR ?_
      try simp only [wpK_assoc]
      refine wpK_reg1 (fun R hR => by simp []; exact hR) ?_
      refine ⟨rfl, _, _, _, _, _, _, _, _, hl, ?_⟩
      rw [← hz] at hl ⊢
      generalize hbz : (AObj.loop LoopState.busy _ _ _ _ _ _ _ _) = bz
      obtain ⟨Vb, hVb, hOb, hnb⟩ : ∃ Vb, Vb = V.setObj (z + 1) bz ∧ Only (fun b => b = z + 1) V Vb ∧ Vb.next = V.next := ⟨_, rfl, setObj_only _ _ _, rfl⟩
      rw [← hVb]
      have hlb : Vb.blocks.get (z + 1) = some ⟨bz, []⟩ := by rw [hVb, setObj_get, if_pos rfl]
      have hkn : k < n := bit_lt c3 hk1
      have hKz : ∀ b, K b → b ≠ z + 1 ∧ b ≠ p6 := fun b hb => by
        rcases (c7 b hb).1 with e | e
        · have := hKe0 b e; exact ⟨by omega, by omega⟩
        · exact ⟨by omega, by omega⟩
      have c5b := c5.only hOb (by omega)
      have c6b := c6.only hOb (fun b _ hb e => (hKz b hb).1 e)
      have hL7 : Var Vb p7 3 [.int .i64 (i : Int)] := (hL5.only c1 (fun h => by rcases h with h | h | h | h; omega; have := hKe0 _ h; omega; omega; omega)).only hOb (by omega)
      have e6 := c5b.load1 (T := T0) und34 rfl (j := 0) (v := lw) rfl
      have e7 := hL7.load1 (T := T0) und3 rfl (j := 0) (v := .int .i64 (i : Int)) rfl
      have hml : m0.length ≤ 64 := by
        have := congrArg List.length c4
        rw [List.length_append] at this; omega
      have hll : (pl ++ m0.map fun q => ((i : Int), q)).length ≤ 100000 := by rw [List.length_append, List.length_map]; omega
      obtain ⟨pq, hpq⟩ : ∃ pq, pq = pl ++ m0.map fun q => ((i : Int), q) := ⟨_, rfl⟩
      rw [← hpq] at c6b hll
      obtain ⟨v', Vc, Vd, a1, a2, a3, a4, a5, a6, a7⟩ := Var.push (T := T0) (t := 34) (el := 40) (i := Tryd.t40) (it := Tryd.t34) (sz := 2) (by omega) und34 inf40 is40 z40 rfl inf34 is34 c6b c5b (fun hk => (hKz _ hk).2 rfl) (o := 0) (by simp) (u := [.int .i64 (i : Int), .int .i64 (k : Int)]) rfl rfl (by rw [by40]; omega) (by omega)
      have a1 : aAppend T0 (Vb.newCells 40 [.int .i64 (i : Int), .int .i64 (k : Int)]) [34, 34] [lw, .slice (some ⟨Vb.next, 0, none⟩) 1 2] = some (v', Vc) := a1
      have hb40 := build40 (i : Int) (k : Int)
      have hb34 := bs34 Vb (i : Int) (k : Int)
      have a5 : Var Vd p6 34 [v'] := by simpa using a5
      refine wpK_block1 ?_
      try simp only [wpK_assoc]
      refine wpK_reg1 (fun R hR => by simp [h6, h7, e6, e7, hb40, hb34, a1, a2]; exact hR) ?_
      simp only [leaves_normal]
      have hdl : Vd.blocks.get (z + 1) = some ⟨bz, []⟩ := by rw [a7.2 _ (by omega) (fun hk => by rcases hk with hk | hk; exact (hKz _ hk).1 rfl; omega)]; exact hlb
      subst hbz
      refine ⟨_, _, _, _, _, _, _, _, _, hdl, rfl, ?_⟩
      have hOz := fun o => setObj_only Vd (z + 1) o
      have hmlo := memb_low hk1 hk2 n
      rw [if_pos hkn] at hmlo
      have hd := dropLow_lt (x := left) (fun e => by subst e; simp at hk1)
      have cz : Only (fun b => b = p6 ∨ Ke b ∨ b = z + 1 ∨ W5.next ≤ b) W5 Vd := (c1.trans (hOb.mono (fun b _ hb => .inr (.inr (.inl hb))))).trans (a7.mono (fun b _ hb => by
        rcases hb with hb | hb
        · rcases (c7 b hb).1 with e | e
          · exact .inr (.inl e)
          · exact .inr (.inr (.inr e))
        · exact .inl hb))
      refine ⟨cz.trans ((setObj_only Vd (z + 1) _).mono (fun b _ hb => .inr (.inr (.inl hb)))), by rw [setObj_get, if_pos rfl]; exact hlp.symm, by omega, v', m0 ++ [(k : Int)], (fun b => K b ∨ b = Vb.next + 1), by rw [c4, hmlo]; simp, a5.only (hOz _) (by omega), ?_, fun b hb => ?_⟩
      · have e1 : (pl ++ (m0 ++ [(k : Int)]).map fun q => ((i : Int), q)) = pq ++ [((i : Int), (k : Int))] := by rw [hpq]; simp
        rw [e1, flatE_append, flatE_one, List.length_append]
        exact a6.only (hOz _) (fun b _ hb e => by rcases hb with hb | hb; exact (hKz b hb).1 e; omega)
      · rw [setObj_next]
        rcases hb with hb | hb
        · have := c7 b hb; exact ⟨this.1, by omega⟩
        · exact ⟨.inr (by omega), by omega⟩
    · rintro _ W6 ⟨c1, c2, c3, lw, m0, K, c4, c5, c6, c7⟩
      have hl6 := c2.trans hlp
      rw [hz] at hl6
      rw [memb_empty n 0 (fun j _ => by simp), List.append_nil] at c4
      rw [← c4] at c6
      have hfl : pl ++ (memb n (g i)).map (fun q => ((i : Int), q)) = flwL n (fun p q => (g p).testBit q) (i + 1) := by
        rw [hpl, ← rowL_memb]; rfl
      rw [hfl] at c6
      refine ⟨_, _, _, _, _, _, _, _, _, hl6, (fun h => by cases h), ?_⟩
      rw [← hz]
      generalize hex : (AObj.loop LoopState.exhausted _ _ _ _ _ _ _ _) = ex
      obtain ⟨W7, hW7, hO7, hn7⟩ : ∃ W7, W7 = W6.setObj (z + 1) ex ∧ Only (fun b => b = z + 1) W6 W7 ∧ W7.next = W6.next := ⟨_, rfl, setObj_only _ _ _, rfl⟩
      rw [← hW7]
      clear hW7 hex
      have nc := c1.1
      have hKe0 : ∀ b, Ke b → lo ≤ b ∧ b < We.next := fun b hb => hKe b hb
      have hlow := hMk.low
      have cO7 : Only (fun b => b = p6 ∨ Ke b ∨ b = z + 1 ∨ W5.next ≤ b) W5 W7 := c1.trans (hO7.mono (fun b _ hb => .inr (.inr (.inl hb))))
      have hzk : ¬ (z = p6 ∨ Ke z ∨ z = z + 1 ∨ W5.next ≤ z) := fun h => by
        rcases h with h | h | h | h
        · omega
        · have := hKe0 _ h; omega
        · omega
        · omega
      have hmm : n - (i + 1) < q := by omega
      have hm3 : i + 1 ≤ n := by omega
      have f1 : Marks lo ({ target := .collected z, args := #[] } :: ds) W7 := ⟨z, rfl, by omega, by omega, by rw [cO7.2 z (by omega) hzk]; exact hdf, fun d hd e => by have := hlow d hd z e; omega, hM5.only cO7 (fun d hd r hr r1 _ hk => by
        have := hlow d hd r hr
        rcases hk with hk | hk | hk | hk
        · omega
        · exact hKd d hd r hr hk
        · omega
        · omega)⟩
      have f2 : Only (fun b => b = p6 ∨ lo ≤ b) W4 W7 := hO5.trans (cO7.mono (fun b _ hb => by
        rcases hb with hb | hb | hb | hb
        · exact .inl hb
        · exact .inr (hKe0 b hb).1
        · exact .inr (by omega)
        · exact .inr (by omega)))
      have hKz : ∀ b, K b → b ≠ z + 1 ∧ b ≠ z ∧ lo ≤ b := fun b hb => by
        rcases (c7 b hb).1 with e | e
        · have := hKe0 b e; exact ⟨by omega, by omega, by omega⟩
        · exact ⟨by omega, by omega, by omega⟩
      have f3 := c5.only hO7 (by omega)
      have f4 := c6.only hO7 (fun b _ hb e => (hKz b hb).1 e)
      have hwi := i64_succ i (by omega)
      simp only [goOn, leaves_normal, behind_normal]
      try simp only [wpK_assoc]
      refine wpK_reg1 (fun R hR => by simp [h21, hwi]; exact hR) ?_
      exact hI (n - (i + 1)) _ _ hmm ⟨rfl, by simp [h6], by simp [h19], by simp [h20], f1, f2, i + 1, lw, K, by simp, rfl, hm3, f3, f4, fun b hb => ⟨(hKz b hb).2.2, by have := (c7 b hb).2; omega⟩, fun d hd r hr hk => by
        rcases List.mem_cons.1 hd with e | e
        · subst e
          have e2 : r = z := by
            injection hr with e3; exact e3.symm
          exact (hKz r hk).2.1 e2
        · rcases (c7 r hk).1 with e2 | e2
          · exact hKd d e r hr e2
          · have := hlow d e r hr; omega⟩
  · rintro A' W' hf; exact hf.elim
  · rintro ⟨tm, n', ds⟩ Wd ⟨hn', h6, hMk, hOd, lv, K, hVd, hGd, hKd, hKm⟩
    simp only at hn' h6 hMk hKm
    subst hn'
    have l6 := hVd.load1 (T := T0) und34 rfl (j := 0) (v := lv) rfl
    try simp only [wpK_assoc]
    refine wpK_reg (fun R hR => by simp [h6, l6]; exact hR) ?_
    obtain ⟨Wy, g1, g2⟩ := hMk.collects2
    have ng := g2.1
    have nd := hOd.1
    have hge : ∀ b, (∃ d ∈ ds, d.target = .collected b) → lo ≤ b := fun b ⟨d, hd, e⟩ => hMk.above d hd b e
    have hGy := hGd.only g2 (fun b _ hb ⟨d, hd, e⟩ => hKm d hd b e hb)
    refine wpK_ret ⟨.inr rfl, Wy, g1, [lv, .int .i64 0], by simp, ⟨by omega, fun b hb _ => ?_⟩, lv, g, rfl, hGy.row encP_len, hg2, hgS, hgC⟩
    rw [g2.2 b (by omega) (fun hh => by have := hge b hh; omega), hOd.2 b (by omega) (by omega)]
    exact hE04.2 b hb (fun x => x)
end Go.Proofs.YtfnigiojgbeklaaDoor

open Go Go.Eng
namespace Go.Proofs.YtfnigiojgbeklaaDoor
attribute [local congr] undef_congr WpK.congr WpS.congr WpL.congr WpC.congr WpF.congr gotS.congr callS.congr nextS.congr wantS.congr condS.congr
attribute [local irreducible] WpK
attribute [local simp] WpDr_nil WpDr_cons atS_some dwantS_true dwantS_false kindS_light kindS_float kindS_heavy lightS_value floatS_some heavyS_value heavyS_skip heavyS_enter dcallS_some doneS_eq
  isLight isFloat isPlain dLook testBit_dec dChain dLights_nil dLights_skip dLights_one dLight_nil dLight_cons dFreshes_nil dFreshes_one oneF_none oneF_some dFresh_nil dFresh_cons oneL_some oneW_true oneW_false sameV_value dPut dMay valEq arrEq listEq List.getElem?_cons Tr.get_nil dEnd
attribute [local simp] WpS_nil WpS_cons isDefer undef_false wantS_true wantS_false nextS_value nextS_skip nextS_enter callS_some gotS_some aWanted aOp aEvalF aEval opMove opAssign opPick aVal flat flat1 AAct.put opBinOp opConvert opIndex Tr.get_set Tr.get_lay aBin aResults tupled
  aCall aVals aCallB blt_dec ble_dec beq_dec aBinI_add aBinI_sub aBinI_lss aBinI_leq aBinI_gtr aBinI_geq aBinI_eql aBinI_neq index_str len_str len_slice Nat.beq_refl Nat.beq_refl
  opBox opLoad opFieldAddr opIndexAddr acells aAddr opExtract aExtract opUnOp opAlloc opStore opMakeInterface opNilCheck opBuild aParts opBuildSlice aValW
attribute [local simp] und2 und3 und4 und5 und9 und12 und13 und21 und22 und23 und24 und26 und27 und28 und30 und31 und34 und40 und43 und48 und49 und50 und54 und70 und71 und72 und79 und81 und86 und88 und89 und94 und99 und108 und109 und110 und118 und119 und120 und121 und123 und134 und143 und144 und145 und146 und148 und149 und150 und153 und154 und155 und157 und165 und167 und168 und178 und179 und187 und188 und189 und190 und191 und192 und193 und199 und214 und218 field13_0 field13_1 field23_0 field23_1 field24_0 field24_1 field27_0 field27_1 field28_0 field28_1 field49_0 field49_1 field49_2 field50_0 field50_1 field50_2 field70_0 field70_1 field70_2 field71_0 field71_1 field71_2 field72_0 field72_1 field72_2 field108_0 field108_1 field108_2 field109_0 field109_1 field109_2 field120_0 field120_1 field121_0 field121_1 field145_0 field145_1 field145_2 field146_0 field146_1 field146_2 field154_0 field154_1 field155_0 field155_1 field178_0 field178_1 field178_2 field178_3 field179_0 field179_1 field179_2 field179_3 field188_0 field188_1 field189_0 field189_1
set_option maxHeartbeats 4000000
set_option linter.unusedSimpArgs false
set_option linter.unusedVariables false
theorem rowL_congr {r r' : Nat → Nat → Bool} {p : Nat} : ∀ {m : Nat}, (∀ q, q < m → r p q = r' p q) → rowL r p m = rowL r' p m
  | 0, _ => rfl
  | m + 1, h => by
    have ih := rowL_congr (p := p) (m := m) fun q hq => h q (by omega)
    simp only [rowL, ih, h m (by omega)]
theorem flwL_congr {n : Nat} {r r' : Nat → Nat → Bool} : ∀ {m : Nat}, (∀ p q, p < m → q < n → r p q = r' p q) → flwL n r m = flwL n r' m
  | 0, _ => rfl
  | m + 1, h => by
    have ih := flwL_congr (m := m) fun p q hp hq => h p q (by omega) hq
    simp only [flwL, ih, rowL_congr (fun q hq => h m q (by omega) hq)]
def StayR (ss : List Tri) (n k : Nat) (p q : Nat) : Prop := p < n ∧ q < n ∧ itG ss ss false k p q = true
theorem stay_step {n L k : Nat} {ss : List Tri} (hg : GoodS n L ss) (hst : ∀ p q, p < n → q < n → itG ss ss false (k + 1) p q = itG ss ss false k p q) :
    ∀ p q a t, StayR ss n k p q → a < 10 → (toS ss a p).testBit t = true → ∃ t', (toS ss a q).testBit t' = true ∧ StayR ss n k t t' := by
  rintro p q a t ⟨hp, hq, hr⟩ ha ht
  rw [toS_bit _ rfl hg] at ht
  have ht := of_decide_eq_true ht
  have h1 := hst p q hp hq
  rw [hr] at h1
  have h2 : stepG ss ss false (itG ss ss false k) p q = true := h1
  simp only [stepG, Bool.and_eq_true] at h2
  obtain ⟨t', u1, u2⟩ := (ansB_iff hg hg _ _ _).1 h2.2.1 a t ht
  have b1 := (hg _ ht).2.2.2.2.2
  have b2 := (hg _ u1).2.2.2.2.2
  simp only at b1 b2
  exact ⟨t', by rw [toS_bit _ rfl hg]; exact decide_eq_true u1, by omega, by omega, u2⟩
theorem closed_sub {n L : Nat} {ss : List Tri} (hg : GoodS n L ss) (hL : L ≤ 10) {g : Nat → Nat} (hC : ClosedTo (toS ss) n n g) : ∀ (d p q : Nat), p < n → (g p).testBit q = true → itG ss ss false d p q = true
  | 0, _, _, _, _ => rfl
  | d + 1, p, q, hp, hq => by
    show stepG ss ss false (itG ss ss false d) p q = true
    simp only [stepG, Bool.and_eq_true, Bool.not_false, Bool.true_or, and_true]
    refine ⟨closed_sub hg hL hC d p q hp hq, (ansB_iff hg hg _ _ _).2 fun a t hm => ?_⟩
    have ha : a < 10 := by have := (hg _ hm).2.2.2.1; simp only at this; omega
    have htn : t < n := by have := (hg _ hm).2.2.2.2.2; simp only at this; omega
    have h1 := hC p a t hp ha (by rw [toS_bit _ rfl hg]; exact decide_eq_true hm)
    rw [← h1, Nat.testBit_and, Bool.and_eq_true, befS_bit, decide_eq_true_eq] at hq
    obtain ⟨t', u1, u2⟩ := and_ne.1 hq.2.2
    rw [toS_bit _ rfl hg] at u1
    exact ⟨t', of_decide_eq_true u1, closed_sub hg hL hC d t t' htn u2⟩
theorem follows_same {n L k : Nat} {ss : List Tri} (hg : GoodS n L ss) (hL : L ≤ 10) {g : Nat → Nat} (hgS : ∀ p q, p < n → StayR ss n k p q → (g p).testBit q = true) (hC : ClosedTo (toS ss) n n g) :
    flwL n (fun p q => (g p).testBit q) n = flwL n (itG ss ss false k) n :=
  flwL_congr fun p q hp hq => by
    rw [Bool.eq_iff_iff]
    exact ⟨closed_sub hg hL hC k p q hp, fun h => hgS p q hp ⟨hp, hq, h⟩⟩
theorem progFollows_wp {W : AW} {v : Value} {n L k : Nat} {ss : List Tri} (h : StepR W v ss) (hg : GoodS n L ss) (hn1 : 1 ≤ n) (hn : n ≤ 63) (hL : L ≤ 10) (hl : ss.length ≤ 500) (hT : tabsIn T0 T0.tabs W = true) (h0 : 0 < W.next)
    (hst : ∀ p q, p < n → q < n → itG ss ss false (k + 1) p q = itG ss ss false k p q) :
    WpF T0 14 [.agg ⟨[.int .i64 (n : Int), v]⟩] W (fun u W' => Ext W W' ∧ ∃ lv, u = .tuple ⟨[lv, .int .i64 0]⟩ ∧ PairR W' lv (flwL n (itG ss ss false k) n)) := by
  refine (follows_wp h hg hn1 hn hL hl hT h0 (S := StayR ss n k) (stay_step hg hst) (fun p q hr => hr.2.1)).mono ?_
  rintro u W' ⟨hE, lv, g, hu, hP, _, hgS, hC⟩
  exact ⟨hE, lv, hu, by rw [← follows_same hg hL hgS hC]; exact hP⟩
theorem stays_ex (n : Nat) (ss : List Tri) : ∃ k, ∀ p q, p < n → q < n → itG ss ss false (k + 1) p q = itG ss ss false k p q := by
  have main : ∀ (m k : Nat), cntR n (itG ss ss false k) = m → ∃ k, ∀ p q, p < n → q < n → itG ss ss false (k + 1) p q = itG ss ss false k p q := by
    intro m
    induction m using Nat.strongRecOn with
    | _ m ih =>
      intro k hk
      by_cases hs : ∀ p q, p < n → q < n → itG ss ss false (k + 1) p q = itG ss ss false k p q
      · exact ⟨k, hs⟩
      · have hx : ∃ p q, p < n ∧ q < n ∧ stepG ss ss false (itG ss ss false k) p q ≠ itG ss ss false k p q := by
          refine Classical.byContradiction fun hc => hs fun p q hp hq => ?_
          refine Classical.byContradiction fun hne => hc ⟨p, q, hp, hq, hne⟩
        have := cntR_less hx
        exact ih _ (by rw [← hk]; exact this) (k + 1) rfl
  exact main _ 0 rfl
theorem itG_stays {n L k : Nat} {ss : List Tri} (hg : GoodS n L ss) (hst : ∀ p q, p < n → q < n → itG ss ss false (k + 1) p q = itG ss ss false k p q) : ∀ m p q, p < n → q < n → itG ss ss false (k + m) p q = itG ss ss false k p q
  | 0, _, _, _, _ => rfl
  | m + 1, p, q, hp, hq => by
    have ih := itG_stays hg hst m
    rw [← hst p q hp hq]
    show stepG ss ss false (itG ss ss false (k + m)) p q = stepG ss ss false (itG ss ss false k) p q
    have e : ansB (itG ss ss false (k + m)) p q ss ss = ansB (itG ss ss false k) p q ss ss := by
      rw [Bool.eq_iff_iff, ansB_iff hg hg, ansB_iff hg hg]
      have hb : ∀ {x a t : Nat}, ((x : Int), (a : Int), (t : Int)) ∈ ss → t < n := fun hm => by
        have := (hg _ hm).2.2.2.2.2; simp only at this; omega
      constructor
      · intro h a t hm
        obtain ⟨t', u1, u2⟩ := h a t hm
        exact ⟨t', u1, by rw [← ih t t' (hb hm) (hb u1)]; exact u2⟩
      · intro h a t hm
        obtain ⟨t', u1, u2⟩ := h a t hm
        exact ⟨t', u1, by rw [ih t t' (hb hm) (hb u1)]; exact u2⟩
    simp only [stepG, Bool.not_false, Bool.true_or, Bool.and_true, e, ih p q hp hq]
theorem follows_one {n L k k' : Nat} {ss : List Tri} (hg : GoodS n L ss) (h : ∀ p q, p < n → q < n → itG ss ss false (k + 1) p q = itG ss ss false k p q) (h' : ∀ p q, p < n → q < n → itG ss ss false (k' + 1) p q = itG ss ss false k' p q) :
    flwL n (itG ss ss false k) n = flwL n (itG ss ss false k') n := flwL_congr fun p q hp hq => by
  rcases Nat.le_total k k' with e | e
  · obtain ⟨m, rfl⟩ := Nat.exists_eq_add_of_le e
    exact (itG_stays hg h m p q hp hq).symm
  · obtain ⟨m, rfl⟩ := Nat.exists_eq_add_of_le e
    exact itG_stays hg h' m p q hp hq
end Go.Proofs.YtfnigiojgbeklaaDoor

open Go Go.Eng
namespace Go.Proofs.YtfnigiojgbeklaaDoor
attribute [local congr] undef_congr WpK.congr WpS.congr WpL.congr WpC.congr WpF.congr gotS.congr callS.congr nextS.congr wantS.congr condS.congr
attribute [local irreducible] WpK
attribute [local simp] WpDr_nil WpDr_cons atS_some dwantS_true dwantS_false kindS_light kindS_float kindS_heavy lightS_value floatS_some heavyS_value heavyS_skip heavyS_enter dcallS_some doneS_eq
  isLight isFloat isPlain dLook testBit_dec dChain dLights_nil dLights_skip dLights_one dLight_nil dLight_cons dFreshes_nil dFreshes_one oneF_none oneF_some dFresh_nil dFresh_cons oneL_some oneW_true oneW_false sameV_value dPut dMay valEq arrEq listEq List.getElem?_cons Tr.get_nil dEnd
attribute [local simp] WpS_nil WpS_cons isDefer undef_false wantS_true wantS_false nextS_value nextS_skip nextS_enter callS_some gotS_some aWanted aOp aEvalF aEval opMove opAssign opPick aVal flat flat1 AAct.put opBinOp opConvert opIndex Tr.get_set Tr.get_lay aBin aResults tupled
  aCall aVals aCallB blt_dec ble_dec beq_dec aBinI_add aBinI_sub aBinI_lss aBinI_leq aBinI_gtr aBinI_geq aBinI_eql aBinI_neq index_str len_str len_slice Nat.beq_refl Nat.beq_refl
  opBox opLoad opFieldAddr opIndexAddr acells aAddr opExtract aExtract opUnOp opAlloc opStore opMakeInterface opNilCheck opBuild aParts opBuildSlice aValW
attribute [local simp] und2 und3 und4 und5 und9 und12 und13 und21 und22 und23 und24 und26 und27 und28 und30 und31 und34 und40 und43 und48 und49 und50 und54 und70 und71 und72 und79 und81 und86 und88 und89 und94 und99 und108 und109 und110 und118 und119 und120 und121 und123 und134 und143 und144 und145 und146 und148 und149 und150 und153 und154 und155 und157 und165 und167 und168 und178 und179 und187 und188 und189 und190 und191 und192 und193 und199 und214 und218 field13_0 field13_1 field23_0 field23_1 field24_0 field24_1 field27_0 field27_1 field28_0 field28_1 field49_0 field49_1 field49_2 field50_0 field50_1 field50_2 field70_0 field70_1 field70_2 field71_0 field71_1 field71_2 field72_0 field72_1 field72_2 field108_0 field108_1 field108_2 field109_0 field109_1 field109_2 field120_0 field120_1 field121_0 field121_1 field145_0 field145_1 field145_2 field146_0 field146_1 field146_2 field154_0 field154_1 field155_0 field155_1 field178_0 field178_1 field178_2 field178_3 field179_0 field179_1 field179_2 field179_3 field188_0 field188_1 field189_0 field189_1
set_option maxHeartbeats 4000000
set_option linter.unusedSimpArgs false
set_option linter.unusedVariables false
theorem chart_put {W : AW} {c n : Nat} {to : Nat → Nat → Nat} (h : ChartAt W c n to) {a p : Nat} (ha : a < 10) (hp : p < 64) (x : Nat) :
    ∃ W', aStoreVar T0 W 89 c (1 + a * 64 + p) (.int .u64 (x : Nat)) = some W' ∧ W'.next = W.next ∧ Only (fun b => b = c) W W' ∧ ChartAt W' c n (updT to a p x) := by
  obtain ⟨W', s1, s2, s3, s4⟩ := h.store (T := T0) (t := 89) (v := .int .u64 (x : Nat)) (o := 1 + (a * 64 + p)) inf89 (by rw [is89]; rfl) (by rw [chartL_len]; show 1 + (a * 64 + p) + 1 ≤ 641; omega) rfl
  have e : (chartL n to).take (1 + (a * 64 + p)) ++ acells (.int .u64 (x : Nat)) ++ (chartL n to).drop (1 + (a * 64 + p) + (acells (.int .u64 (x : Nat))).length) = (chartL n to).set (1 + (a * 64 + p)) (.int .u64 (x : Nat)) := by
    rw [List.set_eq_take_append_cons_drop, if_pos (by rw [chartL_len]; omega)]
    simp [acells]
  rw [e, chartL_set n to ha hp] at s4
  exact ⟨W', by rw [show 1 + a * 64 + p = 1 + (a * 64 + p) by omega]; exact s1, s2, s3, s4⟩
def Goes (to : Nat → Nat → Nat) (a p t : Nat) : Prop := if a = 0 then Reach (to 0) p t else ∃ q r, Reach (to 0) p q ∧ (to a q).testBit r = true ∧ Reach (to 0) r t
theorem going_wp {W : AW} {c n : Nat} {to : Nat → Nat → Nat} (h : ChartAt W c n to) (hT : tabsIn T0 T0.tabs W = true) (h0 : 0 < W.next) (hn : n < 64) (hto : ∀ a p, to a p < 2 ^ n) :
    WpF T0 38 [.pointer (some ⟨c, 0, none⟩)] W (fun v W' => Ext W W' ∧ ∃ c' to', v = .pointer (some ⟨c', 0, none⟩) ∧ ChartAt W' c' n to' ∧ (∀ a p, to' a p < 2 ^ n) ∧ ∀ a p, a < 10 → p < n → ∀ t, (to' a p).testBit t = true ↔ Goes to a p t) := by
  refine wpF fun38 rfl ?_
  have p64 := u64_two hn
  have p0 := Nat.two_pow_pos n
  have l0 := chart_n h
  obtain ⟨W1, hW1, hE1, hC1, hn1⟩ : ∃ W1, W1 = W.newCells 121 (.int .i64 (n : Int) :: (List.range 640).map fun j => Value.int .u64 ((0 : Nat) : Int)) ∧ Ext W W1 ∧ ChartAt W1 W.next n (fun _ _ => 0) ∧ W1.next = W.next + 1 := ⟨_, rfl, .newCells _ _ _, Var.new _ _ _, rfl⟩
  have hb := build121 (n : Int)
  generalize (Value.int .i64 (n : Int) :: (List.range 640).map fun j => Value.int .u64 ((0 : Nat) : Int)) = zl at hb hW1
  obtain ⟨W2, hW2, hE2, hS2, hn2⟩ : ∃ W2, W2 = W1.newCells 118 (setsL (fun _ => 0)) ∧ Ext W1 W2 ∧ SetsAt W2 W1.next (fun _ => 0) ∧ W2.next = W1.next + 1 := ⟨_, rfl, .newCells _ _ _, Var.new _ _ _, rfl⟩
  have hz0 := zero118'
  generalize setsL (fun _ => 0) = zs at hz0 hW2
  have l2 := chart_n ((h.ext hE1).ext hE2)
  try simp only [wpK_assoc]
  refine wpK_reg (fun R hR => by simp []; exact hR) ?_
  try simp only [wpK_assoc]
  refine wpK_reg (fun R hR => by simp [l0, hb, ← hW1]; exact hR) ?_
  try simp only [wpK_assoc]
  refine wpK_reg (fun R hR => by simp [hz0, ← hW2]; exact hR) ?_
  try simp only [wpK_assoc]
  refine wpK_reg (fun R hR => by simp [l2]; exact hR) ?_
  obtain ⟨pc, hpc⟩ : ∃ p, p = W.next := ⟨_, rfl⟩
  have e1 : W1.next = pc + 1 := by omega
  rw [e1] at hS2
  rw [← hpc] at hC1
  have hC2 := hC1.ext hE2
  have hE02 := hE1.trans hE2
  have hclt := h.1
  refine wpK_keep (fun tm' => tm'.get 0 = some (.pointer (some ⟨c, 0, none⟩)) ∧ tm'.get 3 = some (.pointer (some ⟨pc, 0, none⟩)) ∧ tm'.get 4 = some (.pointer (some ⟨pc + 1, 0, none⟩)) ∧ tm'.get 17 = some (.int .i64 (n : Int)) ∧ tm'.get 18 = some (.int .i64 0)) ⟨by simp [hpc, e1], by simp [hpc, e1], by simp [hpc, e1], by simp [hpc, e1], by simp [hpc, e1]⟩ ?_
  rintro tm ⟨h0, h3, h4, h17, h18⟩
  try simp only [wpK_assoc]
  refine wpK_while (I := fun q A' W' => A'.n = 68 ∧ A'.defers = [] ∧ A'.tmps.get 0 = some (.pointer (some ⟨c, 0, none⟩)) ∧ A'.tmps.get 3 = some (.pointer (some ⟨pc, 0, none⟩)) ∧ A'.tmps.get 4 = some (.pointer (some ⟨pc + 1, 0, none⟩)) ∧ A'.tmps.get 17 = some (.int .i64 (n : Int)) ∧ Only (fun b => b = pc + 1) W2 W' ∧ ∃ (i : Nat) (g : Nat → Nat), A'.tmps.get 18 = some (.int .i64 (i : Int)) ∧ q = n - i ∧ i ≤ n ∧ SetsAt W' (pc + 1) g ∧ ∀ j, j < i → g j < 2 ^ n ∧ ∀ t, (g j).testBit t = true ↔ Reach (to 0) j t)
    (J := fun A' W' => A'.n = 68 ∧ A'.defers = [] ∧ A'.tmps.get 0 = some (.pointer (some ⟨c, 0, none⟩)) ∧ A'.tmps.get 3 = some (.pointer (some ⟨pc, 0, none⟩)) ∧ A'.tmps.get 4 = some (.pointer (some ⟨pc + 1, 0, none⟩)) ∧ Only (fun b => b = pc + 1) W2 W' ∧ ∃ (g : Nat → Nat), SetsAt W' (pc + 1) g ∧ ∀ j, j < n → g j < 2 ^ n ∧ ∀ t, (g j).testBit t = true ↔ Reach (to 0) j t) (Rt := fun _ _ => False) (k := n) ?_ ?_ ?_ ?_
  · exact ⟨rfl, rfl, by simp [h0, h3, h4, h17], by simp [h0, h3, h4, h17], by simp [h0, h3, h4, h17], by simp [h0, h3, h4, h17], .refl _ _, 0, _, by simp [h18], rfl, by omega, hS2, fun j hj => by omega⟩
  · rintro q ⟨tm, n, ds⟩ Wa ⟨hn, hd, h0, h3, h4, h17, hOa, i, g, h18, hq, hil, hSa, hga⟩ Q' hJ hRt hI
    simp only at hn hd h0 h3 h4 h17
    subst hn; subst hd
    simp only at h18
    by_cases hlt : i < n
    case neg =>
      have hlt' : ¬ (i : Int) < n := by omega
      try simp only [wpK_assoc]
      refine wpK_reg (fun R hR => by simp [h17, h18, hlt']; exact hR) ?_
      try simp only [wpK_assoc]
      first | refine wpK_onF (by simp [hlt]) ?_ | refine wpK_out (by simp [hlt]) ?_ | refine wpK_condF (by simp [hlt]) ?_ | refine wpK_endF (by simp [hlt]) (wpK_skip ?_) | refine wpK_endF (by simp [hlt]) ?_
      exact hJ _ _ ⟨rfl, rfl, by simp [h0, h3, h4], by simp [h0, h3, h4], by simp [h0, h3, h4], hOa, g, hSa, fun j hj => hga j (by omega)⟩
    have hlt' : (i : Int) < n := by omega
    try simp only [wpK_assoc]
    refine wpK_reg (fun R hR => by simp [h17, h18, hlt']; exact hR) ?_
    try simp only [wpK_assoc]
    first | refine wpK_onT (by simp [hlt]) ?_ | refine wpK_outT (by simp [hlt]) ?_ | refine wpK_condT (by simp [hlt]) ?_ | refine wpK_endT (by simp [hlt]) ?_
    refine wpK_block ?_
    try simp only [wpK_assoc]
    refine wpK_reg (fun R hR => by simp [h18]; exact hR) ?_
    have na := hOa.1
    have hca := (h.ext hE02).only hOa (by omega)
    have hTa := tabs_only (tabs_ext hT ‹0 < W.next› hE02) (by omega) hOa (by omega)
    have hone := one_wp i (by omega) Wa
    have hobit := fun q => bit_one i q
    have ho2 : 1 <<< i < 2 ^ n := by rw [Nat.one_shiftLeft]; exact Nat.pow_lt_pow_right (by omega) hlt
    obtain ⟨o, ho⟩ : ∃ o, o = 1 <<< i := ⟨_, rfl⟩
    rw [← ho] at hone ho2
    have hob : ∀ q, o.testBit q = decide (i = q) := fun q => by rw [ho]; exact hobit q
    have ix := ix118_0 (pc + 1) i (by omega)
    try simp only [wpK_assoc]
    refine wpK_y1 (P := fun (x : Nat) Wc => Only (fun b => b = pc + 1) Wa Wc ∧ SetsAt Wc (pc + 1) (fun j => if j = i then x else g j) ∧ x < 2 ^ n ∧ ∀ t, x.testBit t = true ↔ Reach (to 0) i t) (fun R hR => by
      simp [h0, aEnter, fun49, short_other, aCallV]; rw [callS_none]
      refine hone.mono ?_
      rintro _ W9 ⟨e9, rfl⟩; subst W9
      simp [h0, aEnter, fun67, short_other, aCallV]; rw [callS_none]
      refine (quiet_wp hca hTa (by omega) hn (fun p => hto 0 p) ho2).mono ?_
      rintro _ Wb ⟨hEb, x, rfl, hx2, hxb⟩
      obtain ⟨Wc, w1, w2, w3, w4⟩ := sets_put (Var.ext hSa hEb) (j := i) (by omega) x
      have hxR : ∀ t, x.testBit t = true ↔ Reach (to 0) i t := fun t => by
        rw [hxb]
        constructor
        · rintro ⟨p, hp, hr⟩
          rw [hob, decide_eq_true_eq] at hp
          rw [hp]; exact hr
        · intro hr
          exact ⟨i, by rw [hob]; simp, hr⟩
      simp [h4, ix, w1]
      exact hR x Wc (And.intro ((hEb.mono (fun _ _ y => y.elim)).trans w3) (And.intro w4 (And.intro hx2 hxR)))) ?_
    rintro x Wc ⟨hOc, hSc, hx2, hxR⟩
    simp only [leaves_normal, behind_normal]
    try simp only [wpK_assoc]
    refine wpK_reg1 (fun R hR => by simp [h18]; exact hR) ?_
    refine hI (n - (i + 1)) _ _ (by omega) ⟨rfl, rfl, by simp [h0, h3, h4, h17], by simp [h0, h3, h4, h17], by simp [h0, h3, h4, h17], by simp [h0, h3, h4, h17], hOa.trans hOc, i + 1, _, by simp [i64_succ i (by omega)], rfl, by omega, hSc, fun j hj => ?_⟩
    by_cases e : j = i
    · simp only [if_pos e]; rw [e]; exact ⟨hx2, hxR⟩
    · simp only [if_neg e]; exact hga j (by omega)
  · rintro A' W' hf; exact hf.elim
  rintro ⟨tm, n, ds⟩ Wz ⟨hn, hd, h0, h3, h4, hOz, g, hSz, hgz⟩
  simp only at hn hd h0 h3 h4
  subst hn; subst hd
  have nz := hOz.1
  have hCz := hC2.only hOz (by omega)
  have hcz := (h.ext hE02).only hOz (by omega)
  have hTz := tabs_only (tabs_ext hT ‹0 < W.next› hE02) (by omega) hOz (by omega)
  try simp only [wpK_assoc]
  refine wpK_reg (fun R hR => by simp []; exact hR) ?_
  try simp only [wpK_assoc]
  refine wpK_while (I := fun q A' W' => A'.n = 68 ∧ A'.defers = [] ∧ A'.tmps.get 0 = some (.pointer (some ⟨c, 0, none⟩)) ∧ A'.tmps.get 3 = some (.pointer (some ⟨pc, 0, none⟩)) ∧ A'.tmps.get 4 = some (.pointer (some ⟨pc + 1, 0, none⟩)) ∧ Only (fun b => b = pc) Wz W' ∧ ∃ (a : Nat) (to' : Nat → Nat → Nat), A'.tmps.get 28 = some (.int .i64 (a : Int)) ∧ q = 10 - a ∧ a ≤ 10 ∧ ChartAt W' pc n to' ∧ (∀ b p, to' b p < 2 ^ n) ∧ ∀ b p, b < a → p < n → ∀ t, (to' b p).testBit t = true ↔ Goes to b p t)
    (J := fun A' W' => A'.n = 68 ∧ A'.defers = [] ∧ A'.tmps.get 0 = some (.pointer (some ⟨c, 0, none⟩)) ∧ A'.tmps.get 3 = some (.pointer (some ⟨pc, 0, none⟩)) ∧ A'.tmps.get 4 = some (.pointer (some ⟨pc + 1, 0, none⟩)) ∧ Only (fun b => b = pc) Wz W' ∧ ∃ (to' : Nat → Nat → Nat), ChartAt W' pc n to' ∧ (∀ b p, to' b p < 2 ^ n) ∧ ∀ b p, b < 10 → p < n → ∀ t, (to' b p).testBit t = true ↔ Goes to b p t) (Rt := fun _ _ => False) (k := 10) ?_ ?_ ?_ ?_
  · exact ⟨rfl, rfl, by simp [h0, h3, h4], by simp [h0, h3, h4], by simp [h0, h3, h4], .refl _ _, 0, _, by simp, rfl, by omega, hCz, fun _ _ => p0, fun b p hb => by omega⟩
  · rintro q ⟨tm, n, ds⟩ Wa ⟨hn, hd, h0, h3, h4, hOa, a, to', h28, hq, hal, hCa, ht2, htS⟩ Q' hJ hRt hI
    simp only at hn hd h0 h3 h4
    subst hn; subst hd
    simp only at h28
    by_cases hlt : a < 10
    case neg =>
      have e : a = 10 := by omega
      subst e
      try simp only [wpK_assoc]
      refine wpK_reg (fun R hR => by simp [h28]; exact hR) ?_
      try simp only [wpK_assoc]
      first | refine wpK_onF (by simp []) ?_ | refine wpK_out (by simp []) ?_ | refine wpK_condF (by simp []) ?_ | refine wpK_endF (by simp []) (wpK_skip ?_) | refine wpK_endF (by simp []) ?_
      exact hJ _ _ ⟨rfl, rfl, by simp [h0, h3, h4], by simp [h0, h3, h4], by simp [h0, h3, h4], hOa, to', hCa, ht2, htS⟩
    have hlt' : (a : Int) < 10 := by omega
    try simp only [wpK_assoc]
    refine wpK_reg (fun R hR => by simp [h28, hlt']; exact hR) ?_
    try simp only [wpK_assoc]
    first | refine wpK_onT (by simp [hlt]) ?_ | refine wpK_outT (by simp [hlt]) ?_ | refine wpK_condT (by simp [hlt]) ?_ | refine wpK_endT (by simp [hlt]) ?_
    have na := hOa.1
    have lna := chart_n (hcz.only hOa (by omega))
    refine wpK_block ?_
    try simp only [wpK_assoc]
    refine wpK_reg (fun R hR => by simp [h28]; exact hR) ?_
    try simp only [wpK_assoc]
    refine wpK_reg (fun R hR => by simp [h0, lna]; exact hR) ?_
    refine wpK_keep (fun tm' => tm'.get 0 = some (.pointer (some ⟨c, 0, none⟩)) ∧ tm'.get 3 = some (.pointer (some ⟨pc, 0, none⟩)) ∧ tm'.get 4 = some (.pointer (some ⟨pc + 1, 0, none⟩)) ∧ tm'.get 6 = some (.int .i64 (a : Int)) ∧ tm'.get 28 = some (.int .i64 (a : Int)) ∧ tm'.get 34 = some (.int .i64 (n : Int)) ∧ tm'.get 35 = some (.int .i64 0)) ⟨by simp [h0, h3, h4, h28], by simp [h0, h3, h4, h28], by simp [h0, h3, h4, h28], by simp [h0, h3, h4, h28], by simp [h0, h3, h4, h28], by simp [h0, h3, h4, h28], by simp [h0, h3, h4, h28]⟩ ?_
    rintro tm ⟨h0, h3, h4, h6, h28, h34, h35⟩
    try simp only [wpK_assoc]
    refine wpK_while1 (I := fun q A' W' => A'.n = 68 ∧ A'.defers = [] ∧ A'.tmps.get 0 = some (.pointer (some ⟨c, 0, none⟩)) ∧ A'.tmps.get 3 = some (.pointer (some ⟨pc, 0, none⟩)) ∧ A'.tmps.get 4 = some (.pointer (some ⟨pc + 1, 0, none⟩)) ∧ A'.tmps.get 6 = some (.int .i64 (a : Int)) ∧ A'.tmps.get 28 = some (.int .i64 (a : Int)) ∧ A'.tmps.get 34 = some (.int .i64 (n : Int)) ∧ Only (fun b => b = pc) Wz W' ∧ ∃ (i : Nat) (to' : Nat → Nat → Nat), A'.tmps.get 35 = some (.int .i64 (i : Int)) ∧ q = n - i ∧ i ≤ n ∧ ChartAt W' pc n to' ∧ (∀ b p, to' b p < 2 ^ n) ∧ ∀ b p, (b < a ∨ (b = a ∧ p < i)) → p < n → ∀ t, (to' b p).testBit t = true ↔ Goes to b p t)
      (J := fun A' W' => A'.n = 68 ∧ A'.defers = [] ∧ A'.tmps.get 0 = some (.pointer (some ⟨c, 0, none⟩)) ∧ A'.tmps.get 3 = some (.pointer (some ⟨pc, 0, none⟩)) ∧ A'.tmps.get 4 = some (.pointer (some ⟨pc + 1, 0, none⟩)) ∧ A'.tmps.get 6 = some (.int .i64 (a : Int)) ∧ A'.tmps.get 28 = some (.int .i64 (a : Int)) ∧ A'.tmps.get 34 = some (.int .i64 (n : Int)) ∧ Only (fun b => b = pc) Wz W' ∧ ∃ (to' : Nat → Nat → Nat), ChartAt W' pc n to' ∧ (∀ b p, to' b p < 2 ^ n) ∧ ∀ b p, b < a + 1 → p < n → ∀ t, (to' b p).testBit t = true ↔ Goes to b p t) (Rt := fun _ _ => False) (k := n) ?_ ?_ ?_ ?_
    · exact ⟨rfl, rfl, by simp [h0, h3, h4, h6, h28, h34], by simp [h0, h3, h4, h6, h28, h34], by simp [h0, h3, h4, h6, h28, h34], by simp [h0, h3, h4, h6, h28, h34], by simp [h0, h3, h4, h6, h28, h34], by simp [h0, h3, h4, h6, h28, h34], hOa, 0, to', by simp [h35], rfl, by omega, hCa, ht2, fun b p hb hp => htS b p (by omega) hp⟩
    · rintro q2 ⟨tm, n, ds⟩ Wb ⟨hn, hd, h0, h3, h4, h6, h28, h34, hOb, i, tb, h35, hq2, hil, hCb, hb2, hbS⟩ Q2 hJ2 hRt2 hI2
      simp only at hn hd h0 h3 h4 h6 h28 h34
      subst hn; subst hd
      simp only at h35
      by_cases hit : i < n
      case neg =>
        have hit' : ¬ (i : Int) < n := by omega
        try simp only [wpK_assoc]
        refine wpK_reg (fun R hR => by simp [h34, h35, hit']; exact hR) ?_
        try simp only [wpK_assoc]
        first | refine wpK_onF (by simp [hit]) ?_ | refine wpK_out (by simp [hit]) ?_ | refine wpK_condF (by simp [hit]) ?_ | refine wpK_endF (by simp [hit]) (wpK_skip ?_) | refine wpK_endF (by simp [hit]) ?_
        exact hJ2 _ _ ⟨rfl, rfl, by simp [h0, h3, h4, h6, h28, h34], by simp [h0, h3, h4, h6, h28, h34], by simp [h0, h3, h4, h6, h28, h34], by simp [h0, h3, h4, h6, h28, h34], by simp [h0, h3, h4, h6, h28, h34], by simp [h0, h3, h4, h6, h28, h34], hOb, tb, hCb, hb2, fun b p hb hp => hbS b p (by omega) hp⟩
      have hit' : (i : Int) < n := by omega
      try simp only [wpK_assoc]
      refine wpK_reg (fun R hR => by simp [h34, h35, hit']; exact hR) ?_
      try simp only [wpK_assoc]
      first | refine wpK_onT (by simp [hit]) ?_ | refine wpK_outT (by simp [hit]) ?_ | refine wpK_condT (by simp [hit]) ?_ | refine wpK_endT (by simp [hit]) ?_
      have nb := hOb.1
      obtain ⟨hgi2, hgiR⟩ := hgz i hit
      have hSb := Var.only hSz hOb (by omega)
      have hcb := hcz.only hOb (by omega)
      have hTb := tabs_only hTz (by omega) hOb (by omega)
      have lgi := sets_load hSb (j := i) (by omega)
      have ixq := ix118_0 (pc + 1) i (by omega)
      have ix1 := fun o => ix119 pc o a hlt
      have ix2 := fun o => ix118 pc o i (by omega)
      obtain ⟨Wc, w1, w2, w3, w4⟩ := chart_put hCb hlt (p := i) (by omega) (g i)
      have nw := w3.1
      obtain ⟨gi, hgi⟩ : ∃ x, x = g i := ⟨_, rfl⟩
      rw [← hgi] at lgi w1 w4 hgi2 hgiR
      have hwi := i64_succ i (by omega)
      refine wpK_block ?_
      try simp only [wpK_assoc]
      refine wpK_reg (fun R hR => by simp [h35]; exact hR) ?_
      try simp only [wpK_assoc]
      refine wpK_dn (wr := Tr.nil |>.set 38 0 |>.set 39 1 |>.set 40 2 |>.set 41 3 |>.set 42 4 |>.set 43 5 |>.set 44 6 |>.set 45 7 |>.set 46 8 |>.set 47 9) (bits := Tr.nil.lay 0 [0, 0, 0, 0, 8, 24, 1, 65, 195, 511, 1023]) (ord := [0, 1, 2, 3, 4, 5, 6, 7, 8, 9, 10]) (by kernel_rfl) (by kernel_rfl) (by kernel_rfl) (fun G hG => by
        simp [h3, h4, h6, lgi, ixq, ix1, ix2, w1, nw]
        exact hG) ?_
      by_cases ha0 : a = 0
      · have ha0' : (a : Int) = 0 := by omega
        try simp only [wpK_assoc]
        refine wpK_reg (fun R hR => by simp [h6, ha0', ha0]; exact hR) ?_
        try simp only [wpK_assoc]
        first | refine wpK_onF (by simp [ha0', ha0]) ?_ | refine wpK_out (by simp [ha0', ha0]) ?_ | refine wpK_condF (by simp [ha0', ha0]) ?_ | refine wpK_endF (by simp [ha0', ha0]) (wpK_skip ?_) | refine wpK_endF (by simp [ha0', ha0]) ?_
        simp only [leaves_normal, behind_normal]
        try simp only [wpK_assoc]
        refine wpK_reg1 (fun R hR => by simp [h35, hwi]; exact hR) ?_
        refine hI2 (n - (i + 1)) _ _ (by omega) ⟨rfl, rfl, by simp [h0, h3, h4, h6, h28, h34], by simp [h0, h3, h4, h6, h28, h34], by simp [h0, h3, h4, h6, h28, h34], by simp [h0, h3, h4, h6, h28, h34], by simp [h0, h3, h4, h6, h28, h34], by simp [h0, h3, h4, h6, h28, h34], hOb.trans w3, i + 1, _, by simp, rfl, by omega, w4, fun b p => ?_, fun b p hbp hp t => ?_⟩
        · unfold updT; split
          · exact hgi2
          · exact hb2 b p
        · unfold updT; split
          · rename_i e
            rw [e.1, e.2, hgiR]; unfold Goes; rw [if_pos ha0]
          · exact hbS b p (by omega) hp t
      · have ha0' : ¬ (a : Int) = 0 := by omega
        try simp only [wpK_assoc]
        refine wpK_reg (fun R hR => by simp [h6, ha0', ha0]; exact hR) ?_
        try simp only [wpK_assoc]
        first | refine wpK_onT (by simp [ha0', ha0]) ?_ | refine wpK_outT (by simp [ha0', ha0]) ?_ | refine wpK_condT (by simp [ha0', ha0]) ?_ | refine wpK_endT (by simp [ha0', ha0]) ?_
        have hcc := hcb.only w3 (by omega)
        have hTc := tabs_only hTb (by omega) w3 (by omega)
        have lgc := sets_load (Var.only hSb w3 (by omega)) (j := i) (by omega)
        rw [← hgi] at lgc
        have haft := after_wp (a := a) (s := gi) hcc hTc (by omega) hlt hn (fun p => hto a p) (Nat.lt_trans hgi2 p64)
        try simp only [wpK_assoc]
        refine wpK_q2 (wr := Tr.nil |>.set 50 0 |>.set 51 1 |>.set 52 2 |>.set 53 3 |>.set 54 4 |>.set 55 5 |>.set 56 6 |>.set 57 7 |>.set 58 8 |>.set 59 9 |>.set 60 10 |>.set 61 11 |>.set 62 12 |>.set 63 13 |>.set 64 14) (bits := Tr.nil.lay 0 [0, 0, 0, 0, 0, 0, 0, 64, 192, 496, 1016, 1, 2049, 6147, 16383, 32767]) (ord := [0, 1, 2, 3, 4, 5, 6, 7, 8, 9, 10, 11, 12, 13, 14, 15]) (by kernel_rfl) (by kernel_rfl) (by kernel_rfl) (fun G hG => by
          simp [h0, h3, h4, h6, lgc, ixq, ix1, ix2, aEnter, fun68, short_other, aCallV]
          rw [dcallS_none]
          refine haft.mono ?_
          rintro _ Wd ⟨hEd, y, rfl, hy2, hyb⟩
          have nd := hEd.1
          simp [h0, h3, h4, h6, lgc, ixq, ix1, ix2, nd, aEnter, fun67, short_other, aCallV]
          rw [dcallS_none]
          refine (quiet_wp (hcc.ext hEd) (tabs_ext hTc (by omega) hEd) (by omega) hn (fun p => hto 0 p) hy2).mono ?_
          rintro _ We ⟨hEe, x, rfl, hx2, hxb⟩
          obtain ⟨Wf, v1, v2, v3, v4⟩ := chart_put ((w4.ext hEd).ext hEe) hlt (p := i) (by omega) x
          have ne := hEe.1
          have nf := v3.1
          have hGo : ∀ t, x.testBit t = true ↔ Goes to a i t := fun t => by
            rw [hxb]; unfold Goes; rw [if_neg ha0]
            constructor
            · rintro ⟨r, hr, hrt⟩
              obtain ⟨q, q1, q2⟩ := (hyb r).1 hr
              exact ⟨q, r, (hgiR q).1 q1, q2, hrt⟩
            · rintro ⟨q, r, q1, q2, q3⟩
              exact ⟨r, (hyb r).2 ⟨q, (hgiR q).2 q1, q2⟩, q3⟩
          have hOn : Only (fun b => b = pc) Wc Wf := ((hEd.trans hEe).mono (fun _ _ z => z.elim)).trans v3
          simp [h0, h3, h4, h6, lgc, ixq, ix1, ix2, nd, ne, nf, v1]
          exact hG y x Wf (And.intro hOn (And.intro v4 (And.intro hx2 hGo)))) ?_
        rintro y x Wf ⟨hOn, hCf, hx2, hGo⟩
        simp only [leaves_normal, behind_normal]
        try simp only [wpK_assoc]
        refine wpK_reg1 (fun R hR => by simp [h35, hwi]; exact hR) ?_
        refine hI2 (n - (i + 1)) _ _ (by omega) ⟨rfl, rfl, by simp [h0, h3, h4, h6, h28, h34], by simp [h0, h3, h4, h6, h28, h34], by simp [h0, h3, h4, h6, h28, h34], by simp [h0, h3, h4, h6, h28, h34], by simp [h0, h3, h4, h6, h28, h34], by simp [h0, h3, h4, h6, h28, h34], (hOb.trans w3).trans hOn, i + 1, _, by simp, rfl, by omega, hCf, fun b p => ?_, fun b p hbp hp t => ?_⟩
        · unfold updT; split
          · exact hx2
          · exact hb2 b p
        · unfold updT; split
          · rename_i e
            rw [e.1, e.2]; exact hGo t
          · rename_i e
            exact hbS b p (by omega) hp t
    · rintro A' W' hf; exact hf.elim
    · rintro ⟨tm, n, ds⟩ Wd ⟨hn, hd, h0, h3, h4, h6, h28, h34, hOd, td, hCd, hd2, hdS⟩
      simp only at hn hd h0 h3 h4 h6 h28 h34
      subst hn; subst hd
      simp only [leaves_normal, behind_normal]
      try simp only [wpK_assoc]
      refine wpK_reg1 (fun R hR => by simp [h28]; exact hR) ?_
      exact hI (10 - (a + 1)) _ _ (by omega) ⟨rfl, rfl, by simp [h0, h3, h4], by simp [h0, h3, h4], by simp [h0, h3, h4], hOd, a + 1, td, by simp [i64_succ a (by omega)], rfl, by omega, hCd, hd2, hdS⟩
  · rintro A' W' hf; exact hf.elim
  · rintro ⟨tm, n, ds⟩ Wd ⟨hn, hd, h0, h3, h4, hOd, td, hCd, hd2, hdS⟩
    simp only at hn hd h0 h3 h4
    subst hn; subst hd
    try simp only [wpK_assoc]
    refine wpK_reg (fun R hR => by simp [h3]; exact hR) ?_
    exact wpK_ret ⟨.inr rfl, rfl, [.pointer (some ⟨pc, 0, none⟩)], by simp, ⟨by have := hOd.1; have := hE02.1; omega, fun b hb _ => by rw [hOd.2 b (by have := hE02.1; omega) (by omega), hOz.2 b (by have := hE02.1; omega) (by omega)]; exact hE02.2 b hb (fun x => x)⟩, pc, td, rfl, hCd, hd2, hdS⟩
theorem progHidden_wp {W : AW} {v : Value} {n L : Nat} {ss : List Tri} (h : StepR W v ss) (hg : GoodS n L ss) (hn1 : 1 ≤ n) (hn : n ≤ 63) (hL : L ≤ 10) (hl : ss.length ≤ 500) (hT : tabsIn T0 T0.tabs W = true) (h0 : 0 < W.next) :
    WpF T0 13 [.agg ⟨[.int .i64 (n : Int), v]⟩] W (fun u W' => Ext W W' ∧ ∃ k b to', u = .tuple ⟨[rowV b n, .int .i64 0]⟩ ∧ (∀ a p, to' a p < 2 ^ n) ∧ (∀ a p, a < 10 → p < n → ∀ t, (to' a p).testBit t = true ↔ Goes (toS ss) a p t) ∧ NumsAt W' b n (gIt to' n k) ∧ ∀ j, j < n → gIt to' n (k + 1) j = gIt to' n k j) := by
  refine wpF fun13 rfl ?_
  obtain ⟨W1, hW1, hE1, hV⟩ : ∃ W1, W1 = W.newCells 28 [.int .i64 (n : Int), v] ∧ Ext W W1 ∧ Var W1 W.next 28 [.int .i64 (n : Int), v] := ⟨_, rfl, .newCells _ _ _, Var.new _ _ _⟩
  have l2 := load28 hV
  try simp only [wpK_assoc]
  refine wpK_reg (fun R hR => by simp [← hW1]; exact hR) ?_
  have hlay := lay_wp (h.ext hE1) hg hn1 (by omega) hL hl
  try simp only [wpK_assoc]
  refine wpK_x1 (P := fun c W2 => Ext W1 W2 ∧ ChartAt W2 c n (toS ss)) (fun R hR => by
    simp [l2, aEnter, fun36, short_other, aCallV]; rw [callS_none]
    refine hlay.mono ?_
    rintro _ W2 ⟨hE2, c, rfl, hc, hC⟩
    simp
    exact hR c W2 (And.intro hE2 hC)) ?_
  rintro c W2 ⟨hE2, hC⟩
  try simp only [wpK_assoc]
  refine wpK_reg (fun R hR => by simp []; exact hR) ?_
  try simp only [wpK_assoc]
  first | refine wpK_onF (by simp []) ?_ | refine wpK_out (by simp []) ?_ | refine wpK_condF (by simp []) ?_ | refine wpK_endF (by simp []) (wpK_skip ?_) | refine wpK_endF (by simp []) ?_
  have hT2 := tabs_ext hT h0 (hE1.trans hE2)
  have n1 := hE1.1
  have n2 := hE2.1
  try simp only [wpK_assoc]
  refine wpK_x2 (P := fun (c' : Nat) v3 W3 => Ext W2 W3 ∧ ∃ k b to', v3 = rowV b n ∧ (∀ a p, to' a p < 2 ^ n) ∧ (∀ a p, a < 10 → p < n → ∀ t, (to' a p).testBit t = true ↔ Goes (toS ss) a p t) ∧ NumsAt W3 b n (gIt to' n k) ∧ ∀ j, j < n → gIt to' n (k + 1) j = gIt to' n k j) (fun R hR => by
    simp [aEnter, fun38, short_other, aCallV]; rw [callS_none]
    refine (going_wp hC hT2 (by omega) (by omega) (fun a p => toS_lt hg a p)).mono ?_
    rintro _ Wg ⟨hEg, c', to', rfl, hC', ht2, htS⟩
    have ng := hEg.1
    simp [aEnter, fun37, short_other, aCallV]; rw [callS_none]
    refine (classes_wp hC' (tabs_ext hT2 (by omega) hEg) (by omega) (by omega) ht2).mono ?_
    rintro v3 W3 ⟨hE3, k, b, hv3, hN, hst⟩
    simp; exact hR c' v3 W3 (And.intro (hEg.trans hE3) ⟨k, b, to', hv3, ht2, htS, hN, hst⟩)) ?_
  rintro c' v3 W3 ⟨hE3, k, b, to', rfl, ht2, htS, hN, hst⟩
  exact wpK_ret ⟨.inr rfl, rfl, [rowV b n, .int .i64 0], by simp, (hE1.trans hE2).trans hE3, k, b, to', rfl, ht2, htS, hN, hst⟩
end Go.Proofs.YtfnigiojgbeklaaDoor

open Go Go.Eng
namespace Go.Proofs.YtfnigiojgbeklaaDoor
attribute [local congr] undef_congr WpK.congr WpS.congr WpL.congr WpC.congr WpF.congr gotS.congr callS.congr nextS.congr wantS.congr condS.congr
attribute [local irreducible] WpK
attribute [local simp] WpDr_nil WpDr_cons atS_some dwantS_true dwantS_false kindS_light kindS_float kindS_heavy lightS_value floatS_some heavyS_value heavyS_skip heavyS_enter dcallS_some doneS_eq
  isLight isFloat isPlain dLook testBit_dec dChain dLights_nil dLights_skip dLights_one dLight_nil dLight_cons dFreshes_nil dFreshes_one oneF_none oneF_some dFresh_nil dFresh_cons oneL_some oneW_true oneW_false sameV_value dPut dMay valEq arrEq listEq List.getElem?_cons Tr.get_nil dEnd
attribute [local simp] WpS_nil WpS_cons isDefer undef_false wantS_true wantS_false nextS_value nextS_skip nextS_enter callS_some gotS_some aWanted aOp aEvalF aEval opMove opAssign opPick aVal flat flat1 AAct.put opBinOp opConvert opIndex Tr.get_set Tr.get_lay aBin aResults tupled
  aCall aVals aCallB blt_dec ble_dec beq_dec aBinI_add aBinI_sub aBinI_lss aBinI_leq aBinI_gtr aBinI_geq aBinI_eql aBinI_neq index_str len_str len_slice Nat.beq_refl Nat.beq_refl
  opBox opLoad opFieldAddr opIndexAddr acells aAddr opExtract aExtract opUnOp opAlloc opStore opMakeInterface opNilCheck opBuild aParts opBuildSlice aValW
attribute [local simp] und2 und3 und4 und5 und9 und12 und13 und21 und22 und23 und24 und26 und27 und28 und30 und31 und34 und40 und43 und48 und49 und50 und54 und70 und71 und72 und79 und81 und86 und88 und89 und94 und99 und108 und109 und110 und118 und119 und120 und121 und123 und134 und143 und144 und145 und146 und148 und149 und150 und153 und154 und155 und157 und165 und167 und168 und178 und179 und187 und188 und189 und190 und191 und192 und193 und199 und214 und218 field13_0 field13_1 field23_0 field23_1 field24_0 field24_1 field27_0 field27_1 field28_0 field28_1 field49_0 field49_1 field49_2 field50_0 field50_1 field50_2 field70_0 field70_1 field70_2 field71_0 field71_1 field71_2 field72_0 field72_1 field72_2 field108_0 field108_1 field108_2 field109_0 field109_1 field109_2 field120_0 field120_1 field121_0 field121_1 field145_0 field145_1 field145_2 field146_0 field146_1 field146_2 field154_0 field154_1 field155_0 field155_1 field178_0 field178_1 field178_2 field178_3 field179_0 field179_1 field179_2 field179_3 field188_0 field188_1 field189_0 field189_1
set_option maxHeartbeats 4000000
set_option linter.unusedSimpArgs false
set_option linter.unusedVariables false
def fwI (to0 : Nat → Nat) : Nat → Nat → Bool := fun x y => decide (x = y) || (to0 x).testBit y
def fwS (r : Nat → Nat → Bool) (k : Nat) : Nat → Nat → Bool := fun x y => r x y || (r x k && r k y)
def fw (to0 : Nat → Nat) : Nat → Nat → Nat → Bool
  | 0 => fwI to0
  | k + 1 => fwS (fw to0 k) k
theorem fw_refl (to0 : Nat → Nat) : ∀ k x, fw to0 k x x = true
  | 0, x => by simp [fw, fwI]
  | k + 1, x => by simp [fw, fwS, fw_refl to0 k x]
theorem fw_edge {to0 : Nat → Nat} {x y : Nat} (h : (to0 x).testBit y = true) : ∀ k, fw to0 k x y = true
  | 0 => by show (decide (x = y) || (to0 x).testBit y) = true; rw [h, Bool.or_true]
  | k + 1 => by simp [fw, fwS, fw_edge h k]
theorem Reach.trans {f : Nat → Nat} {p q t : Nat} (h : Reach f p q) (h2 : Reach f q t) : Reach f p t := by
  induction h2 with
  | refl => exact h
  | snoc _ e ih => exact .snoc ih e
theorem fw_sound (to0 : Nat → Nat) : ∀ k x y, fw to0 k x y = true → Reach to0 x y
  | 0, x, y, h => by
    simp only [fw, fwI, Bool.or_eq_true, decide_eq_true_eq] at h
    rcases h with h | h
    · rw [h]; exact .refl y
    · exact .snoc (.refl x) h
  | k + 1, x, y, h => by
    simp only [fw, fwS, Bool.or_eq_true, Bool.and_eq_true] at h
    rcases h with h | ⟨h1, h2⟩
    · exact fw_sound to0 k x y h
    · exact (fw_sound to0 k x k h1).trans (fw_sound to0 k k y h2)
theorem fw_col (to0 : Nat → Nat) (k x : Nat) : fwS (fw to0 k) k x k = fw to0 k x k := by simp [fwS, fw_refl]
theorem fw_row (to0 : Nat → Nat) (k y : Nat) : fwS (fw to0 k) k k y = fw to0 k k y := by simp [fwS, fw_refl]
theorem fw_through (to0 : Nat → Nat) : ∀ k j x y, j < k → fw to0 k x j = true → fw to0 k j y = true → fw to0 k x y = true
  | 0, j, _, _, hj, _, _ => by omega
  | k + 1, j, x, y, hj, h1, h2 => by
    have ih := fw_through to0 k j
    by_cases e : j = k
    · subst e
      have h1 : fwS (fw to0 j) j x j = true := h1
      have h2 : fwS (fw to0 j) j j y = true := h2
      rw [fw_col] at h1; rw [fw_row] at h2
      simp [fw, fwS, h1, h2]
    · simp only [fw, fwS, Bool.or_eq_true, Bool.and_eq_true] at h1 h2 ⊢
      rcases h1 with h1 | ⟨h1, h1'⟩ <;> rcases h2 with h2 | ⟨h2, h2'⟩
      · exact .inl (ih x y (by omega) h1 h2)
      · exact .inr ⟨ih x k (by omega) h1 h2, h2'⟩
      · exact .inr ⟨h1, ih k y (by omega) h1' h2⟩
      · exact .inr ⟨h1, h2'⟩
theorem fw_reach {to0 : Nat → Nat} {n : Nat} (hto : ∀ p, to0 p < 2 ^ n) {x y : Nat} (hx : x < n) : fw to0 n x y = true ↔ Reach to0 x y := by
  refine ⟨fw_sound to0 n x y, fun h => ?_⟩
  have key : fw to0 n x y = true ∧ y < n := by
    induction h with
    | refl => exact ⟨fw_refl to0 n x, hx⟩
    | snoc _ e ih => exact ⟨fw_through to0 n _ _ _ ih.2 ih.1 (fw_edge e n), bit_lt (hto _) e⟩
  exact key.1
theorem grow_step {W : AW} {v : Value} {l : List Tri} {K : Nat → Prop} (h : GrowsN W v l.length (flatE cells3 l) 71 3 K) (hm : l.length ≤ 100000) (a b c : Int) :
    ∃ v' W', aAppend T0 (W.newCells 71 [.int .i64 a, .int .i64 b, .int .i64 c]) [22, 22] [v, .slice (some ⟨W.next, 0, none⟩) 1 2] = some (v', W') ∧ W'.next = W.next + 2 ∧ GrowsN W' v' (l ++ [(a, b, c)]).length (flatE cells3 (l ++ [(a, b, c)])) 71 3 (fun b => K b ∨ b = W.next + 1) ∧ Only K W W' := by
  have hE : Ext W (W.newCells 71 [.int .i64 a, .int .i64 b, .int .i64 c]) := .newCells _ _ _
  have hV := Var.new W 71 [.int .i64 a, .int .i64 b, .int .i64 c]
  have hx' : (W.newCells 71 [.int .i64 a, .int .i64 b, .int .i64 c]).cellsAt W.next 0 3 = some [.int .i64 a, .int .i64 b, .int .i64 c] := by
    rw [hV.cellsAt 0 3 (by simp)]; rfl
  obtain ⟨v', W', g1, g2, g3, g4⟩ := append_growsN (T := T0) (t := 22) (by omega) und22 inf71 is71 z71 rfl (h.only (K' := fun _ => False) hE (fun _ _ _ x => x)) (u := [.int .i64 a, .int .i64 b, .int .i64 c]) (bx := W.next) (c := 2) rfl hx' rfl (by rw [by71]; omega) (by omega)
  refine ⟨v', W', g1, by rw [g2, newCells_next], ?_, ⟨by rw [g2, newCells_next]; omega, fun b hb hk => ?_⟩⟩
  · rw [flatE_append, flatE_one, List.length_append]
    exact g3.mono (fun b hb => hb.elim .inl (fun e => .inr (by rw [newCells_next] at e; omega)))
  · rw [g4.2 b (by rw [newCells_next]; omega) hk, newCells_get, if_neg (by omega)]
end Go.Proofs.YtfnigiojgbeklaaDoor
