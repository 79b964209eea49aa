import Derived.Test.YtdpnplanohgecaaDoorP39
set_option linter.unusedSimpArgs false
set_option linter.unusedVariables false
set_option linter.unusedSectionVars false
open Go Go.Eng
namespace Go.Proofs.YtdpnplanohgecaaDoor
attribute [local congr] undef_congr WpK.congr WpS.congr WpL.congr WpC.congr WpF.congr gotS.congr callS.congr nextS.congr wantS.congr condS.congr
attribute [local irreducible] WpK
attribute [local simp] WpDr_nil WpDr_cons atS_some dwantS_true dwantS_false kindS_light kindS_float kindS_heavy lightS_value floatS_some heavyS_value heavyS_skip heavyS_enter dcallS_some doneS_eq
  isLight isFloat isPlain dLook testBit_dec dChain dLights_nil dLights_skip dLights_one dLight_nil dLight_cons dFreshes_nil dFreshes_one oneF_none oneF_some dFresh_nil dFresh_cons oneL_some oneW_true oneW_false sameV_value dPut dMay valEq arrEq listEq List.getElem?_cons Tr.get_nil dEnd
attribute [local simp] WpS_nil WpS_cons isDefer undef_false wantS_true wantS_false nextS_value nextS_skip nextS_enter callS_some gotS_some aWanted aOp aEvalF aEval opMove opAssign opPick aVal flat flat1 AAct.put opBinOp opConvert opIndex Tr.get_set Tr.get_lay aBin aResults tupled
  aCall aVals aCallB blt_dec ble_dec beq_dec aBinI_add aBinI_sub aBinI_lss aBinI_leq aBinI_gtr aBinI_geq aBinI_eql aBinI_neq index_str len_str len_slice Nat.beq_refl Nat.beq_refl
  opBox opLoad opFieldAddr opIndexAddr acells aAddr opExtract aExtract opUnOp opAlloc opStore opMakeInterface opNilCheck opBuild aParts opBuildSlice aValW
attribute [local simp] und2 und3 und4 und5 und9 und12 field13_0 field13_1 und21 und22 field23_0 field23_1 field24_0 field24_1 field25_0 field25_1 und28 und31 field34_0 field34_1 field34_2 field35_0 field35_1 field35_2 und46 field50_0 field50_1 field50_2 und55 und56 und58 und61 und62 und73 und75 und90 und94 und95 und96 field97_0 field97_1 field97_2 field97_3 field97_4 field97_5 field97_6 field98_0 field98_1 field98_2 field98_3 field98_4 field98_5 field98_6 und99 und106 field107_0 field107_1 field108_0 field108_1 und119 und122 field124_0 field124_1 field124_2 field125_0 field125_1 field125_2 field131_0 field131_1 field132_0 field132_1 und133 field134_0 field134_1 field135_0 field135_1 und148 und156 und160
set_option maxHeartbeats 4000000
set_option linter.unusedSimpArgs false
set_option linter.unusedVariables false
theorem vals_flat (us : List Value) : us = flatE encV us := by
  induction us with
  | nil => rfl
  | cons a l ih => simp only [flatE, List.flatMap_cons] at ih ⊢; rw [← ih]; rfl
theorem vals_row {W : AW} {v : Value} {us : List Value} {el : TypeId} {K : Nat → Prop} (h : GrowsN W v us.length us el 1 K) : RowIn 1 encV W v us := by
  have h' : GrowsN W v us.length (flatE encV us) el 1 K := by rw [← vals_flat]; exact h
  exact GrowsN.row (enc := encV) (l := us) (fun _ => rfl) h'
theorem grow_push2 {W : AW} {t el : TypeId} {i : TypeInfo} {z : Value} (ht : T0.und.get t = some (.slice el)) (hi : T0.info.get el = some i) (hs : i.size = 1) (hz : i.zero = some z) (hz1 : (acells z).length = 1) (hb : i.bytes ≤ 24)
    {v : Value} {m : Nat} {l : List Value} {K : Nat → Prop} (h : GrowsN W v m l el 1 K) (hm : m ≤ 100000) (x : Value) (hx : oneCells [x] = true) :
    ∃ v' W', aAppend T0 (W.newCells el [x]) [t, t] [v, .slice (some ⟨W.next, 0, none⟩) 1 2] = some (v', W') ∧ W'.next = W.next + 2 ∧ GrowsN W' v' (m + 1) (l ++ [x]) el 1 (fun b => K b ∨ b = W.next + 1) ∧ Only K W W' := by
  have hE : Ext W (W.newCells el [x]) := .newCells _ _ _
  have hV := Var.new W el [x]
  have hx' : (W.newCells el [x]).cellsAt W.next 0 1 = some [x] := by
    rw [hV.cellsAt 0 1 (by simp)]; rfl
  obtain ⟨v', W', g1, g2, g3, g4⟩ := append_growsN (T := T0) (t := t) (by omega) ht hi hs hz hz1 (h.only (K' := fun _ => False) hE (fun _ _ _ x => x)) (u := [x]) (bx := W.next) (c := 2) rfl hx' hx (by
    have : 2 * (m + 1) * i.bytes ≤ 2 * (m + 1) * 24 := Nat.mul_le_mul_left _ hb
    omega) (by omega)
  refine ⟨v', W', g1, by rw [g2, newCells_next], g3.mono (fun b hb => hb.elim .inl (fun e => .inr (by rw [newCells_next] at e; omega))), ⟨by rw [g2, newCells_next]; omega, fun b hb hk => ?_⟩⟩
  rw [g4.2 b (by rw [newCells_next]; omega) hk, newCells_get, if_neg (by omega)]
structure Made (W W0 : AW) (t : Value) (own : List (List Int)) (n : Nat) (K S : Nat → Prop) : Prop where
  kl : ∀ b, K b → b < W.next ∧ W0.next ≤ b
  sl : ∀ b, S b → b < W.next ∧ W0.next ≤ b ∧ ¬ K b
  ok : ∀ r ∈ own, r.length = n ∧ within 1000000 r
  rows : ∃ us : List Value, us.length = own.length ∧ GrowsN W t own.length us 62 1 K ∧ ∀ (i : Nat) u l, us[i]? = some u → own[i]? = some l → GrowsN W u l.length (vI l) 2 1 S
theorem gd_app (c : List Nat) (x : Nat) {j : Nat} (h : j < c.length) : (c ++ [x]).getD j 0 = c.getD j 0 := by
  rw [List.getD_eq_getElem?_getD, List.getElem?_append_left h, ← List.getD_eq_getElem?_getD]
theorem gd_last (c : List Nat) (x : Nat) : (c ++ [x]).getD c.length 0 = x := by
  rw [List.getD_eq_getElem?_getD, List.getElem?_append_right (Nat.le_refl _)]; simp
theorem IsLong.snoc {n : Nat} {R : Nat → Nat → Bool} {H : Nat → Nat} {m x : Nat} {c : List Nat} (h : IsLong n R H m c) (hx : x < n) (hH : H x + c.length = m) (hR : 0 < c.length → R (c.getD (c.length - 1) 0) x = true)
    (hm : ∀ i, i < x → ¬ (H i + c.length = m ∧ (0 < c.length → R (c.getD (c.length - 1) 0) i = true))) : IsLong n R H m (c ++ [x]) := by
  intro j hj
  rw [List.length_append, List.length_singleton] at hj
  by_cases e : j < c.length
  · obtain ⟨h1, h2, h3, h4, h5⟩ := h j e
    rw [gd_app c x e]
    by_cases e0 : 0 < j
    · rw [gd_app c x (show j - 1 < c.length by omega)]
      exact ⟨h1, h2, h3, h4, h5⟩
    · exact ⟨h1, h2, h3, fun h => absurd h e0, fun i hi hh => h5 i hi ⟨hh.1, fun h => absurd h e0⟩⟩
  · have e2 : j = c.length := by omega
    subst e2
    rw [gd_last]
    by_cases e0 : 0 < c.length
    · rw [gd_app c x (show c.length - 1 < c.length by omega)]
      exact ⟨by omega, hx, hH, hR, hm⟩
    · exact ⟨by omega, hx, hH, fun h => absurd h e0, fun i hi hh => hm i hi ⟨hh.1, fun h => absurd h e0⟩⟩
theorem IsLong.next {n : Nat} {R : Nat → Nat → Bool} {H : Nat → Nat} {m : Nat} {c : List Nat} (h : IsLong n R H m c) (hR : Ord n R) (hH : IsH n R H) (hmax : ∃ a, a < n ∧ H a = m) (hc : c.length ≤ m) : ∃ x, x < n ∧ H x + c.length = m ∧ (0 < c.length → R (c.getD (c.length - 1) 0) x = true) := by
  by_cases e : 0 < c.length
  · obtain ⟨h1, h2, h3, h4, h5⟩ := h (c.length - 1) (by omega)
    rcases (hH _ h2).2 with e0 | ⟨b, hb, eb⟩
    · omega
    · exact ⟨b, (hR.lt hb).2, by omega, fun _ => hb⟩
  · obtain ⟨a, ha, ea⟩ := hmax
    exact ⟨a, ha, by omega, fun h => absurd h e⟩
theorem IsLong.nil (n : Nat) (R : Nat → Nat → Bool) (H : Nat → Nat) (m : Nat) : IsLong n R H m [] := fun j hj => by simp at hj
theorem nat_at {W : AW} {v : Value} {c : List Nat} {K : Nat → Prop} (h : GrowsN W v c.length (natsV c) 3 1 K) {i : Nat} (hi : i < c.length) : ∃ b p, aIndexAddr T0 31 v (.int .i64 (i : Int)) = some (.pointer (some ⟨b, p, none⟩)) ∧ aLoadVar T0 W 3 b p = some (.int .i64 ((c.getD i 0 : Nat) : Int)) := by
  obtain ⟨b, p, h1, h2, h3⟩ := (natsV_row h).int1 (T := T0) (i := i) (x := ((c.getD i 0 : Nat) : Int)) (by rw [List.getElem?_map, List.getD_eq_getElem?_getD, List.getElem?_eq_getElem hi]; rfl) und31 sz3 und3 rfl
  exact ⟨b, p, h1, h3⟩
theorem grow_nat {W : AW} {v : Value} {c : List Nat} {K : Nat → Prop} (h : GrowsN W v c.length (natsV c) 3 1 K) (hm : c.length ≤ 100000) (x : Nat) :
    ∃ v' W', aAppend T0 (W.newCells 3 [.int .i64 (x : Int)]) [31, 31] [v, .slice (some ⟨W.next, 0, none⟩) 1 2] = some (v', W') ∧ W'.next = W.next + 2 ∧ GrowsN W' v' (c ++ [x]).length (natsV (c ++ [x])) 3 1 (fun b => K b ∨ b = W.next + 1) ∧ Only K W W' := by
  obtain ⟨v', W', k1, k2, k3, k4⟩ := grow_push2 (t := 31) (el := 3) und31 inf3 is3 z3 rfl (by rw [by3]; omega) h hm (.int .i64 (x : Int)) rfl
  refine ⟨v', W', k1, k2, ?_, k4⟩
  have e : natsV (c ++ [x]) = natsV c ++ [.int .i64 (x : Int)] := by simp [natsV]
  rw [e, List.length_append, List.length_singleton]; exact k3
theorem grows_len {W : AW} {v : Value} {n : Nat} {l : List Value} {el sz : Nat} {K : Nat → Prop} (h : GrowsN W v n l el sz K) (W' : AW) : aLen T0 W' 31 v = some (.int .i64 n) := by
  obtain ⟨A, c, hv⟩ := h.len
  rw [hv]; exact len_slice und31 _ _ _
theorem slicesMax_wp {W : AW} {b n m : Nat} {g : Nat → Nat} (h : NumsAt W b n g) (hn : n ≤ 64) (hmax : (∃ a, a < n ∧ g a = m) ∧ ∀ a, a < n → g a ≤ m) :
    WpF T0 76 [rowV b n] W (fun v W' => W' = W ∧ v = .int .i64 (m : Int)) := by
  refine wpF fun76 rfl ?_
  have h1n : 1 ≤ n := by obtain ⟨a, ha, _⟩ := hmax.1; omega
  have ll : aLen T0 W 31 (rowV b n) = some (.int .i64 n) := len_slice und31 _ _ _
  have ix : ∀ j, j < n → aIndexAddr T0 31 (rowV b n) (.int .i64 (j : Int)) = some (.pointer (some ⟨b, j, none⟩)) := fun j hj => num_ix hj
  obtain ⟨mv, hmv⟩ : ∃ mv, mv = rowV b n := ⟨_, rfl⟩
  rw [← hmv] at ll ix ⊢
  have hl1 : ¬ (n : Int) < 1 := by omega
  have i0 : aIndexAddr T0 31 mv (.int .i64 0) = some (.pointer (some ⟨b, 0, none⟩)) := ix 0 (by omega)
  have e0 := nums_load h (j := 0) (by omega)
  try simp only [wpK_assoc]
  refine wpK_reg (fun R hR => by simp []; exact hR) ?_
  try simp only [wpK_assoc]
  refine wpK_reg (fun R hR => by simp [ll, hl1]; exact hR) ?_
  try simp only [wpK_assoc]
  first | refine wpK_onF (by simp [hl1]) ?_ | refine wpK_out (by simp [hl1]) ?_ | refine wpK_condF (by simp [hl1]) ?_ | refine wpK_endF (by simp [hl1]) (wpK_skip ?_) | refine wpK_endF (by simp [hl1]) ?_
  try simp only [wpK_assoc]
  refine wpK_reg (fun R hR => by simp [i0, e0]; exact hR) ?_
  try simp only [wpK_assoc]
  refine wpK_reg (fun R hR => by simp []; exact hR) ?_
  refine wpK_keep (fun tm' => tm'.get 0 = some (mv) ∧ tm'.get 3 = some (.int .i64 ((g 0 : Nat) : Int)) ∧ tm'.get 4 = some (.int .i64 1)) ⟨by simp, by simp, by simp⟩ ?_
  rintro tm ⟨h0, h3, h4⟩
  try simp only [wpK_assoc]
  refine wpK_while (I := fun q A' W' => A'.n = 25 ∧ A'.defers = [] ∧ A'.tmps.get 0 = some (mv) ∧ W' = W ∧ ∃ (i M : Nat), A'.tmps.get 3 = some (.int .i64 (M : Int)) ∧ A'.tmps.get 4 = some (.int .i64 (i : Int)) ∧ q = n - i ∧ i ≤ n ∧ (∀ j, j < i → g j ≤ M) ∧ (∃ j, j < i ∧ g j = M))
    (J := fun A' W' => A'.n = 25 ∧ A'.defers = [] ∧ A'.tmps.get 0 = some (mv) ∧ W' = W ∧ A'.tmps.get 3 = some (.int .i64 (m : Int))) (Rt := fun _ _ => False) (k := n - 1) ?_ ?_ ?_ ?_
  · exact ⟨rfl, rfl, by simp [h0], rfl, 1, g 0, by simp [h3], by simp [h4], rfl, by clear hmax; omega, fun j hj => (by rw [show j = 0 from by omega]; exact Nat.le_refl _), 0, by omega, rfl⟩
  · rintro q ⟨tm, n, ds⟩ Wa ⟨hn, hd, h0, hWa, i, M, h3, h4, hq, hil, hm1, hm2⟩ Q' hJ hRt hI
    simp only at hn hd h0
    subst hn; subst hd
    subst hWa
    simp only at h3 h4
    by_cases hlt : i < n
    case neg =>
      have hlt' : ¬ (i : Int) < n := by clear hm2 hmax; omega
      try simp only [wpK_assoc]
      refine wpK_reg (fun R hR => by simp [h0, h4, ll, hlt']; exact hR) ?_
      try simp only [wpK_assoc]
      first | refine wpK_onF (by simp [hlt]) ?_ | refine wpK_out (by simp [hlt]) ?_ | refine wpK_condF (by simp [hlt]) ?_ | refine wpK_endF (by simp [hlt]) (wpK_skip ?_) | refine wpK_endF (by simp [hlt]) ?_
      refine hJ _ _ ⟨rfl, rfl, by simp [h0], rfl, ?_⟩
      have : M = m := by
        obtain ⟨⟨a, ha, ea⟩, h2⟩ := hmax
        obtain ⟨j, hj, e⟩ := hm2
        have := hm1 a (by omega)
        have := h2 j (by omega)
        omega
      rw [← this]; simp [h3]
    have hlt' : (i : Int) < n := by clear hm2 hmax; omega
    have hdec : n - (i + 1) < q ∧ i + 1 ≤ n := by clear hm2 hmax; omega
    have hwi := i64_succ i (by clear hm2 hmax; omega)
    try simp only [wpK_assoc]
    refine wpK_reg (fun R hR => by simp [h0, h4, ll, hlt']; exact hR) ?_
    try simp only [wpK_assoc]
    first | refine wpK_onT (by simp [hlt]) ?_ | refine wpK_outT (by simp [hlt]) ?_ | refine wpK_condT (by simp [hlt]) ?_ | refine wpK_endT (by simp [hlt]) ?_
    have e1 := nums_load h hlt
    have j1 := ix i hlt
    have hmx : max (M : Int) ((g i : Nat) : Int) = ((max M (g i) : Nat) : Int) := by clear hm2 hmax; omega
    refine wpK_block ?_
    generalize ((g i : Nat) : Int) = y at e1 hmx
    try simp only [wpK_assoc]
    refine wpK_reg1 (fun R hR => by simp [h0, h3, h4, j1, e1, max_int, hmx]; exact hR) ?_
    simp only [leaves_normal, behind_normal]
    try simp only [wpK_assoc]
    refine wpK_reg1 (fun R hR => by simp [h4]; exact hR) ?_
    refine hI (n - (i + 1)) _ _ hdec.1 ⟨rfl, rfl, by simp [h0], rfl, i + 1, max M (g i), by simp [hmx], by simp [hwi], rfl, hdec.2, fun j hj => ?_, ?_⟩
    · by_cases e : j = i
      · subst e; exact Nat.le_max_right _ _
      · exact Nat.le_trans (hm1 j (by clear hm2 hmax; omega)) (Nat.le_max_left _ _)
    · by_cases e : M ≤ g i
      · exact ⟨i, Nat.lt_succ_self i, (Nat.max_eq_right e).symm⟩
      · obtain ⟨j, hj, e2⟩ := hm2
        exact ⟨j, Nat.lt_succ_of_lt hj, by rw [e2]; exact (Nat.max_eq_left (by omega)).symm⟩
  · rintro A' W' hf; exact hf.elim
  rintro ⟨tm, n, ds⟩ W4 ⟨hn, hd, h0, hW4, h3⟩
  simp only at hn hd h0
  subst hn; subst hd
  subst hW4
  simp only at h3
  try simp only [wpK_assoc]
  refine wpK_reg (fun R hR => by simp [h3]; exact hR) ?_
  exact wpK_ret ⟨.inr rfl, rfl, [.int .i64 (m : Int)], by simp, rfl, rfl⟩
theorem Marks.collects2 {lo : Nat} : ∀ {ds : List Deferred} {W : AW}, Marks lo ds W → ∃ W', Collects ds W W' ∧ Only (fun b => ∃ d ∈ ds, d.target = .collected b) W W'
  | [], W, _ => ⟨W, rfl, .refl _ _⟩
  | d :: ds, W, h => by
    obtain ⟨r, h1, h2, h3, h4, h5, h6⟩ := h
    have h6' : Marks lo ds (W.setObj r (.deferred none)) := h6.only (setObj_only W r _) (fun d' hd r' hr _ _ e => h5 d' hd (by rw [hr, e]))
    obtain ⟨W', g1, g2⟩ := h6'.collects2
    exact ⟨W', ⟨r, h1, h4, g1⟩, Only.trans (Only.mono (setObj_only W r _) (fun b _ e => ⟨d, List.mem_cons_self .., by rw [e]; exact h1⟩)) (g2.mono (fun b _ ⟨d', hd, e⟩ => ⟨d', List.mem_cons_of_mem _ hd, e⟩))⟩
theorem Marks.above {lo : Nat} {W : AW} : ∀ {ds : List Deferred}, Marks lo ds W → ∀ d ∈ ds, ∀ r, d.target = .collected r → lo ≤ r
  | d :: ds, h, d', hd, r, hr => by
    obtain ⟨r', h1, h2, h3, h4, h5, h6⟩ := h
    cases hd with
    | head => rw [h1] at hr; cases hr; exact h2
    | tail _ hd => exact h6.above d' hd r hr
theorem longest_ok {W : AW} {v : Value} {n m : Nat} {es : List Edge} {H : Nat → Nat} (h : PairR W v es) (hl : es.length < 4611686018427387904) (hT : tabsIn T0 T0.tabs W = true) (h0 : 0 < W.next) (hok : OrdOk (n : Int) es) (hH : IsH n (relO n es) H) (hmax : (∃ a, a < n ∧ H a = m) ∧ ∀ a, a < n → H a ≤ m) :
    WpF T0 47 [.int .i64 (n : Int), v] W (fun u W' => Ext W W' ∧ ∃ c cv K, u = .tuple ⟨[cv, .int .i64 0]⟩ ∧ c.length = m + 1 ∧ IsLong n (relO n es) H m c ∧ GrowsN W' cv c.length (natsV c) 3 1 K) := by
  refine wpFd fun47 rfl ?_
  have hn := hok.1.2.1
  have h1n := hok.1.1
  have hR := hok.ord
  obtain ⟨R, hRe⟩ : ∃ R, R = relO n es := ⟨_, rfl⟩
  have hHn : ∀ a, a < n → H a < n := fun a ha => hH.lt hR ha
  have hmn : m < n := by
    obtain ⟨⟨a, ha, ea⟩, _⟩ := hmax
    have := hHn a ha; omega
  have hm1 := hmax.1
  try simp only [wpK_assoc]
  refine wpK_reg (fun R hR => by simp []; exact hR) ?_
  try simp only [wpK_assoc]
  refine wpK_x3 (P := fun (o p6 : Nat) (g : Nat → Nat) W3 => Ext W W3 ∧ W.next ≤ o ∧ o < p6 ∧ p6 < W3.next ∧ Var W3 p6 119 [.pointer (some ⟨o, 0, none⟩)] ∧ OrdAt W3 o n g ∧ ∀ a b, (g a).testBit b = relO n es a b) (fun Q hQ => by
    simp [aEnter, fun71, short_other, aCallV]; rw [callS_none]
    refine (arrange_ok h hl hT h0 hok).mono ?_
    rintro _ W2 ⟨hE2, o, g, ho, rfl, hOr, hgb⟩
    obtain ⟨W3, s1, s2, s3, s4⟩ := storeVar_new (T := T0) (W := W2) (t := 119) (z := [.pointer none]) (v := .pointer (some ⟨o, 0, none⟩)) inf119 (by rw [is119]; rfl) (by rw [is119]; rfl) rfl
    have s4 : Var W3 W2.next 119 [.pointer (some ⟨o, 0, none⟩)] := s4
    have ho2 : o < W2.next := hOr.1
    obtain ⟨p, hp⟩ : ∃ p, p = W2.next := ⟨_, rfl⟩
    rw [← hp] at s1 s4
    simp [opExtract, aExtract, zero119, ← hp, s1]
    exact hQ o p g W3 (And.intro (hE2.trans s3) (And.intro ho (And.intro (by omega) (And.intro s4.1 (And.intro s4 (And.intro (hOr.ext s3) hgb))))))) ?_
  rintro o p6 g W3 ⟨hE3, ho, hop, hp6, hV6, hOr, hgb⟩
  rw [← hRe] at hgb hR hH ⊢
  have n3 := hE3.1
  try simp only [wpK_assoc]
  refine wpK_reg (fun R hR => by simp []; exact hR) ?_
  try simp only [wpK_assoc]
  first | refine wpK_onF (by simp []) ?_ | refine wpK_out (by simp []) ?_ | refine wpK_condF (by simp []) ?_ | refine wpK_endF (by simp []) (wpK_skip ?_) | refine wpK_endF (by simp []) ?_
  -- the chain, the heights, what may come next, the height
  obtain ⟨p8, hp8⟩ : ∃ p, p = W3.next := ⟨_, rfl⟩
  obtain ⟨W4, hW4, hE4, hn4, hV8⟩ : ∃ W4, W4 = W3.newCells 31 [.slice none 0 0] ∧ Ext W3 W4 ∧ W4.next = W3.next + 1 ∧ Var W4 p8 31 [.slice none 0 0] := ⟨_, rfl, .newCells _ _ _, rfl, by rw [hp8]; exact Var.new _ _ _⟩
  try simp only [wpK_assoc]
  refine wpK_reg (fun R hR => by simp [zero31, ← hW4]; exact hR) ?_
  have e6 := (hV6.ext hE4).load1 (T := T0) und119 rfl (j := 0) (v := .pointer (some ⟨o, 0, none⟩)) rfl
  try simp only [wpK_assoc]
  refine wpK_x2 (P := fun (b p9 : Nat) W5 => Ext W4 W5 ∧ W4.next ≤ b ∧ b < p9 ∧ p9 < W5.next ∧ Var W5 p9 31 [rowV b n] ∧ NumsAt W5 b n H) (fun Q hQ => by
    simp [e6, aEnter, fun74, short_other, aCallV]; rw [callS_none]
    refine (heights_wp (hOr.ext hE4) (by omega) hgb hR hH (tabs_ext hT h0 (hE3.trans hE4)) (by omega)).mono ?_
    rintro _ Wx ⟨hEx, b, hb, rfl, hN⟩
    obtain ⟨W5, s1, s2, s3, s4⟩ := storeVar_new (T := T0) (W := Wx) (t := 31) (z := [.slice none 0 0]) (v := rowV b n) inf31 (by rw [is31]; rfl) (by rw [is31]; rfl) rfl
    have s4 : Var W5 Wx.next 31 [rowV b n] := s4
    have hb2 : b < Wx.next := hN.1
    obtain ⟨p, hp⟩ : ∃ p, p = Wx.next := ⟨_, rfl⟩
    rw [← hp] at s1 s4
    simp [zero31, ← hp, s1]
    exact hQ b p W5 (And.intro (hEx.trans s3) (And.intro hb (And.intro (by omega) (And.intro s4.1 (And.intro s4 (hN.ext s3))))))) ?_
  rintro bx p9 W5 ⟨hE5, hbx, hbp, hp9, hV9, hN⟩
  have n5 := hE5.1
  obtain ⟨M, hM⟩ : ∃ M, M = 2 ^ n - 1 := ⟨_, rfl⟩
  have hMb : ∀ r, M.testBit r = decide (r < n) := fun r => by rw [hM, Nat.testBit_two_pow_sub_one]
  have hbw := below_wp n (by omega) W5
  rw [← hM] at hbw
  clear hM
  obtain ⟨p10, hp10⟩ : ∃ p, p = W5.next := ⟨_, rfl⟩
  obtain ⟨W6, x1, x2, x3, x4⟩ := storeVar_new (T := T0) (W := W5) (t := 96) (z := [.int .u64 0]) (v := .int .u64 (M : Int)) inf96 (by rw [is96]; rfl) (by rw [is96]; rfl) rfl
  have x4 : Var W6 W5.next 96 [.int .u64 (M : Int)] := x4
  rw [← hp10] at x4
  have n6 := x3.1
  try simp only [wpK_assoc]
  refine wpK_reg (fun Q hQ => by
    simp [aEnter, fun75, short_other, aCallV]; rw [callS_none]
    refine hbw.mono ?_
    rintro _ W9 ⟨e9, rfl⟩; subst W9
    simp [zero96, x1]; exact hQ) ?_
  have e9 := (hV9.ext x3).load1 (T := T0) und31 rfl (j := 0) (v := rowV bx n) rfl
  obtain ⟨W7, y1, y2, y3, y4⟩ := storeVar_new (T := T0) (W := W6) (t := 3) (z := [.int .i64 0]) (v := .int .i64 (m : Int)) inf3 (by rw [is3]; rfl) (by rw [is3]; rfl) rfl
  have y4 : Var W7 W6.next 3 [.int .i64 (m : Int)] := y4
  have n7 := y3.1
  obtain ⟨p11, hp11⟩ : ∃ p, p = W6.next := ⟨_, rfl⟩
  rw [← hp11] at y4
  have hlt11 : p10 < p11 ∧ p8 < p10 ∧ p11 < W7.next := by omega
  have hsm := slicesMax_wp (hN.ext x3) (by omega) hmax
  try simp only [wpK_assoc]
  refine wpK_reg (fun Q hQ => by
    simp [e9, aEnter, fun76, short_other, aCallV]; rw [callS_none]
    refine hsm.mono ?_
    rintro _ W9 ⟨e9, rfl⟩; subst W9
    simp [zero3, y1]; exact hQ) ?_
  refine wpK_keep (fun tm' => tm'.get 6 = some (.pointer (some ⟨p6, 0, none⟩)) ∧ tm'.get 8 = some (.pointer (some ⟨p8, 0, none⟩)) ∧ tm'.get 9 = some (.pointer (some ⟨p9, 0, none⟩)) ∧ tm'.get 10 = some (.pointer (some ⟨p10, 0, none⟩)) ∧ tm'.get 11 = some (.pointer (some ⟨p11, 0, none⟩))) ⟨by simp, by simp [hp8], by simp, by simp [hp10], by simp [hp11]⟩ ?_
  rintro tm ⟨h6, h8, h9, h10, h11⟩
  have hE37 := ((hE4.trans hE5).trans x3).trans y3
  have hE07 := hE3.trans hE37
  have hord : ∀ {V}, Only (fun b => p8 ≤ b) W3 V → OrdAt V o n g := fun {V} ho => hOr.only ho (by omega)
  -- what stands, whatever is written
  obtain ⟨T1, hT1⟩ : ∃ T1 : AW → Prop, T1 = fun V => Only (fun b => p8 ≤ b) W3 V ∧ p11 < V.next ∧ Var V p9 31 [rowV bx n] ∧ NumsAt V bx n H := ⟨_, rfl⟩
  have hT1n : ∀ {V V' : AW} {K : Nat → Prop}, T1 V → Only K V V' → (∀ b, K b → p8 ≤ b ∧ b ≠ p9 ∧ b ≠ bx) → T1 V' := by
    intro V V' K hV he hK
    rw [hT1] at hV ⊢
    obtain ⟨o1, o2, o3, o4⟩ := hV
    exact ⟨o1.trans (he.mono (fun b _ hb => (hK b hb).1)), Nat.lt_of_lt_of_le o2 he.1, o3.only he (fun hk => (hK _ hk).2.1 rfl), o4.only he (fun hk => (hK _ hk).2.2 rfl)⟩
  have hT17 : T1 W7 := by
    rw [hT1]
    exact ⟨Only.wide hE37, by omega, hV9.ext (x3.trans y3), hN.ext (x3.trans y3)⟩
  -- the things that may come next
  obtain ⟨NX, hNX⟩ : ∃ NX : List Nat → Nat → Prop, NX = fun c L => ∀ r, L.testBit r = true ↔ r < n ∧ (0 < c.length → R (c.getD (c.length - 1) 0) r = true) := ⟨_, rfl⟩
  obtain ⟨Ch, hCh⟩ : ∃ Ch : List Nat → Nat → Value → (Nat → Prop) → AW → Prop, Ch = fun c L cv K V => Var V p10 96 [.int .u64 ((L : Nat) : Int)] ∧ Var V p8 31 [cv] ∧ GrowsN V cv c.length (natsV c) 3 1 K := ⟨_, rfl⟩
  have hChn : ∀ {c L cv K} {V V' : AW} {K' : Nat → Prop}, Ch c L cv K V → Only K' V V' → (∀ b, K' b → b ≠ p10 ∧ b ≠ p8 ∧ ¬ (K b ∧ b < V.next)) → Ch c L cv K V' := by
    intro c L cv K V V' K' hV he hK
    rw [hCh] at hV ⊢
    exact ⟨hV.1.only he (fun hk => (hK _ hk).1 rfl), hV.2.1.only he (fun hk => (hK _ hk).2.1 rfl), hV.2.2.only he (fun b hb hk hk' => (hK _ hk').2.2 ⟨hk, hb⟩)⟩
  try simp only [wpK_assoc]
  refine wpK_while (I := fun q A' W' => A'.n = 53 ∧ A'.tmps.get 6 = some (.pointer (some ⟨p6, 0, none⟩)) ∧ A'.tmps.get 8 = some (.pointer (some ⟨p8, 0, none⟩)) ∧ A'.tmps.get 9 = some (.pointer (some ⟨p9, 0, none⟩)) ∧ A'.tmps.get 10 = some (.pointer (some ⟨p10, 0, none⟩)) ∧
      ∃ (pe : Nat) (c : List Nat) (L : Nat) (cv : Value) (K : Nat → Prop), A'.tmps.get 11 = some (.pointer (some ⟨pe, 0, none⟩)) ∧ q + c.length = m + 1 ∧ T1 W' ∧ Marks p11 A'.defers W' ∧ p11 ≤ pe ∧ Var W' pe 3 [.int .i64 ((m : Int) - c.length)] ∧ Ch c L cv K W' ∧ NX c L ∧ IsLong n R H m c ∧ (∀ b, K b → p11 < b ∧ b < W'.next ∧ b ≠ pe) ∧ (∀ d ∈ A'.defers, ∀ r, d.target = .collected r → ¬ K r))
    (J := fun A' W' => A'.n = 53 ∧ A'.tmps.get 8 = some (.pointer (some ⟨p8, 0, none⟩)) ∧
      ∃ (c : List Nat) (L : Nat) (cv : Value) (K : Nat → Prop), c.length = m + 1 ∧ T1 W' ∧ Marks p11 A'.defers W' ∧ Ch c L cv K W' ∧ IsLong n R H m c ∧ (∀ d ∈ A'.defers, ∀ r, d.target = .collected r → ¬ K r)) (Rt := fun _ _ => False) (k := m + 1) ?_ ?_ ?_ ?_
  · refine ⟨rfl, by simp [h6], by simp [h8], by simp [h9], by simp [h10], p11, [], M, .slice none 0 0, fun _ => False, by simp [h11], rfl, hT17, trivial, Nat.le_refl _, by simpa using y4, ?_, ?_, IsLong.nil _ _ _ _, fun b hb => hb.elim, fun d hd r hr hk => hk⟩
    · rw [hCh]
      exact ⟨x4.ext y3, hV8.ext ((hE5.trans x3).trans y3), .nil _ _ _ _⟩
    · rw [hNX]; intro r; rw [hMb]; simp
  · rintro q ⟨tm, n', ds⟩ Wa ⟨hn', h6, h8, h9, h10, pe, c, L, cv, K, h11, hq, hTa, hMk, hpe, hva, hCa, hNa, hc, hKa, hKm⟩ Q' hJ hRt hI
    simp only at hn' h6 h8 h9 h10 h11 hMk hKm
    subst hn'
    have ee := hva.load1 (T := T0) und3 rfl (j := 0) (v := .int .i64 ((m : Int) - c.length)) rfl
    by_cases hz : c.length ≤ m
    case neg =>
      have hz' : ¬ (0 : Int) ≤ (m : Int) - c.length := by clear hm1 hmax; omega
      generalize (m : Int) - c.length = y at ee hz'
      try simp only [wpK_assoc]
      refine wpK_reg (fun R hR => by simp [h11, ee, hz']; exact hR) ?_
      try simp only [wpK_assoc]
      first | refine wpK_onF (by simp [hz']) ?_ | refine wpK_out (by simp [hz']) ?_ | refine wpK_condF (by simp [hz']) ?_ | refine wpK_endF (by simp [hz']) (wpK_skip ?_) | refine wpK_endF (by simp [hz']) ?_
      exact hJ _ _ ⟨rfl, by simp [h8], c, L, cv, K, by clear hm1 hmax; omega, hTa, hMk, hCa, hc, hKm⟩
    have hz' : (0 : Int) ≤ (m : Int) - c.length := by clear hm1 hmax; omega
    have hlow := hMk.low
    have hTa' := hTa; rw [hT1] at hTa'
    obtain ⟨ta1, ta2, ta3, ta4⟩ := hTa'
    have na := ta1.1
    have hpe2 : pe < Wa.next := hva.1
    have hCa' := hCa; rw [hCh] at hCa'
    obtain ⟨ca1, ca2, ca3⟩ := hCa'
    obtain ⟨hgt, hhgt⟩ : ∃ y : Int, y = (m : Int) - c.length := ⟨_, rfl⟩
    rw [← hhgt] at ee hz' hva
    try simp only [wpK_assoc]
    refine wpK_reg (fun R hR => by simp [h11, ee, hz']; exact hR) ?_
    try simp only [wpK_assoc]
    first | refine wpK_onT (by simp [hz']) ?_ | refine wpK_outT (by simp [hz']) ?_ | refine wpK_condT (by simp [hz']) ?_ | refine wpK_endT (by simp [hz']) ?_
    refine wpK_block ?_
    have e10 := ca1.load1 (T := T0) und96 rfl (j := 0) (v := .int .u64 (L : Int)) rfl
    try simp only [wpK_assoc]
    refine wpK_x0 (P := fun Wc => Ext Wa Wc ∧ Wc.Has Wa.next 0 (.int .u64 (L : Int))) (fun R hR => by
      simp [h10, e10, aEnter, fun77, short_other, aCallV]; rw [callS_none]
      refine (places_wp L).mono ?_
      rintro _ Wc ⟨hEc, rfl, hBc⟩
      simp; exact hR Wc (And.intro hEc hBc)) ?_
    rintro Wc ⟨hEc, hBc⟩
    refine wpK_keep (fun tm' => tm'.get 6 = some (.pointer (some ⟨p6, 0, none⟩)) ∧ tm'.get 8 = some (.pointer (some ⟨p8, 0, none⟩)) ∧ tm'.get 9 = some (.pointer (some ⟨p9, 0, none⟩)) ∧ tm'.get 10 = some (.pointer (some ⟨p10, 0, none⟩)) ∧ tm'.get 11 = some (.pointer (some ⟨pe, 0, none⟩)) ∧ tm'.get 33 = some (.func (.func 86) ⟨[]⟩ ⟨[.pointer (some ⟨Wa.next, 0, none⟩)]⟩)) ⟨by simp [h6], by simp [h8], by simp [h9], by simp [h10], by simp [h11], by simp⟩ ?_
    rintro tm ⟨h6, h8, h9, h10, h11, h33⟩
    have nc := hEc.1
    refine wpK_range3 (f := 86) (first := ⟨[]⟩) (cap := ⟨[.pointer (some ⟨Wa.next, 0, none⟩)]⟩) (by simp [h33]) fun86 (fun W9 hn9 hW9 hdf hlp => ?_)
    obtain ⟨z, hz9⟩ : ∃ z, z = Wc.next := ⟨_, rfl⟩
    rw [← hz9] at hn9 hdf hlp
    have hE9 : Ext Wa W9 := hEc.trans ⟨by omega, fun b hb _ => hW9 b hb⟩
    have hLn : ∀ r, L.testBit r = true → r < n := fun r hr => by rw [hNX] at hNa; exact ((hNa r).1 hr).1
    have hL40 : L < 1099511627776 := lt40 fun b hb => by have := hLn b hb; omega
    obtain ⟨S, hS⟩ : ∃ S : AW → Prop, S = fun V => W9.next ≤ V.next ∧ T1 V ∧ Var V pe 3 [.int .i64 hgt] ∧ V.blocks.get z = some ⟨.deferred (some []), []⟩ ∧ Marks p11 ds V := ⟨_, rfl⟩
    have own : ∀ {V V' : AW} {K' : Nat → Prop}, S V → Only K' V V' → (∀ b, K' b → b = z + 1 ∨ W9.next ≤ b ∨ b = p10 ∨ b = p8 ∨ (K b ∧ b < Wa.next)) → S V' := by
      intro V V' K' hV he hK'
      rw [hS] at hV ⊢
      obtain ⟨o1, o2, o3, o4, o5⟩ := hV
      have hk1 : ∀ b, K' b → p8 ≤ b ∧ b ≠ p9 ∧ b ≠ bx := fun b hb => by
        rcases hK' b hb with e | e | e | e | e
        · omega
        · omega
        · omega
        · omega
        · have := hKa b e.1; omega
      have hk2 : ∀ b, b < W9.next → b ≠ z + 1 → b ≠ p10 → b ≠ p8 → ¬ K b → ¬ K' b := fun b f1 f2 f3 f4 f5 hb => by
        rcases hK' b hb with e | e | e | e | e
        · omega
        · omega
        · omega
        · omega
        · exact f5 e.1
      refine ⟨Nat.le_trans o1 he.1, hT1n o2 he hk1, o3.only he (hk2 _ (by omega) (by omega) (by omega) (by omega) (fun hk => (hKa _ hk).2.2 rfl)), by rw [he.2 z (by omega) (hk2 _ (by omega) (by omega) (by omega) (by omega) (fun hk => by have := hKa _ hk; omega))]; exact o4, o5.only he (fun d hd r hr x1 x2 => ?_)⟩
      have hrl := hlow d hd r hr
      exact hk2 r (by omega) (by omega) (by omega) (by omega) (hKm d hd r hr)
    have own9 : S W9 := by
      rw [hS]
      exact ⟨Nat.le_refl _, hT1n hTa hE9 (fun b hb => hb.elim), hva.ext hE9, hdf, hMk.ext hE9⟩
    have hCh1 : ∀ {V V' : AW} {K' : Nat → Prop}, Ch c L cv K V → Only K' V V' → (∀ b, K' b → b = z + 1 ∨ W9.next ≤ b) → Ch c L cv K V' := fun {V V' K'} hV he hK' => hChn hV he (fun b hb => by
      have := hK' b hb
      refine ⟨by omega, by omega, fun hk => ?_⟩
      have := hKa b hk.1
      omega)
    refine (placesX_wp (l := Wc.next + 1) (bx := Wa.next) (x := L)
      (fun x V => S V ∧ V.blocks.get (z + 1) = W9.blocks.get (z + 1) ∧ Ch c L cv K V ∧ (∀ r, x.testBit r = true → L.testBit r = true) ∧ ∀ r, L.testBit r = true → x.testBit r = false → H r + c.length ≠ m)
      (fun V => S V ∧ (∃ fn t n ps asn bd df, V.blocks.get (z + 1) = some ⟨.loop .done (some (.exit 2)) fn t n ps asn bd df, []⟩) ∧ ∃ (x : Nat) (L' : Nat) (cv' : Value) (K' : Nat → Prop), Ch (c ++ [x]) L' cv' K' V ∧ NX (c ++ [x]) L' ∧ IsLong n R H m (c ++ [x]) ∧ (∀ b, K' b → p11 < b ∧ b < V.next ∧ b ≠ pe ∧ b ≠ z ∧ b ≠ z + 1) ∧ (∀ d ∈ ds, ∀ r, d.target = .collected r → ¬ K' r))
      (by omega) (fun left k V hC hl hb1 hb2 => ?_) ⟨own9, rfl, ?_, fun r hr => hr, fun r h1 h2 => by rw [h1] at h2; cases h2⟩ (hBc.ext ⟨by omega, fun b hb _ => hW9 b hb⟩)).mono ?_
    · obtain ⟨d1, d2, d3, d4, d5⟩ := hC
      have d1' := d1; rw [hS] at d1'
      obtain ⟨y1, y2, y3, y4, y5⟩ := d1'
      rw [hT1] at y2
      obtain ⟨tb1, tb2, tb3, tb4⟩ := y2
      have hl' := d2.trans hlp
      rw [hz9] at hl'
      have nv := tb1.1
      have hkn := hLn k (d4 k hb1)
      have hTV : tabsIn T0 T0.tabs V = true := tabs_only (tabs_ext hT h0 hE3) (by omega) tb1 (by omega)
      refine ⟨hTV, _, _, _, _, _, _, _, _, _, _, tm.set 34 (.int .i64 (k : Nat)), hl', rfl, ?_⟩
      refine wpR ?_
      try simp only [wpK_assoc]
      refine wpK_reg1 (fun R hR => by simp []; exact hR) ?_
      refine ⟨rfl, _, _, _, _, _, _, _, _, hl', ?_⟩
      rw [← hz9] at hl' ⊢
      generalize hbz : (AObj.loop LoopState.busy _ _ _ _ _ _ _ _) = bz
      obtain ⟨Vy, hVy, hOy, hny⟩ : ∃ Vy, Vy = V.setObj (z + 1) bz ∧ Only (fun b => b = z + 1) V Vy ∧ Vy.next = V.next := ⟨_, rfl, setObj_only _ _ _, rfl⟩
      rw [← hVy]
      have hly : Vy.blocks.get (z + 1) = some ⟨bz, []⟩ := by rw [hVy, setObj_get, if_pos rfl]
      have own1 := own d1 hOy (fun b hb => .inl hb)
      have d3y := hCh1 d3 hOy (fun b hb => .inl hb)
      have d1y := own1; rw [hS] at d1y
      obtain ⟨u1, u2, u3, u4, u5⟩ := d1y
      rw [hT1] at u2
      obtain ⟨tc1, tc2, tc3, tc4⟩ := u2
      have d3y' := d3y; rw [hCh] at d3y'
      obtain ⟨cb1, cb2, cb3⟩ := d3y'
      have q9 := tc3.load1 (T := T0) und31 rfl (j := 0) (v := rowV bx n) rfl
      have q11 := u3.load1 (T := T0) und3 rfl (j := 0) (v := .int .i64 hgt) rfl
      have j1 := num_ix (b := bx) (n := n) hkn
      have eH := nums_load tc4 hkn
      have vnv : valEq (rowV bx n) (rowV bx n) = true := rowV_eq _ _
      generalize rowV bx n = bv at q9 j1 vnv
      refine wpK_block1 ?_
      by_cases hk : H k + c.length = m
      · have hk' : ((H k : Nat) : Int) = hgt := by clear hm1 hmax; omega
        try simp only [wpK_assoc]
        refine wpK_dn (wr := Tr.nil |>.set 35 0 |>.set 36 1 |>.set 37 2 |>.set 38 3 |>.set 39 4 |>.set 40 5) (bits := Tr.nil.lay 0 [0, 0, 3, 7, 0, 31]) (ord := [0, 1, 2, 3, 4, 5]) (by kernel_rfl) (by kernel_rfl) (by kernel_rfl) (fun G hG => by
          simp [h9, h11, q9, q11, j1, eH, vnv, hk']
          exact hG) ?_
        try simp only [wpK_assoc]
        first | refine wpK_onT (by simp [hk']) ?_ | refine wpK_outT (by simp [hk']) ?_ | refine wpK_condT (by simp [hk']) ?_ | refine wpK_endT (by simp [hk']) ?_
        obtain ⟨cv', V1, k1, k2, k3, k4⟩ := grow_nat cb3 (by clear hm1 hmax; omega) k
        have q8 := cb2.load1 (T := T0) und31 rfl (j := 0) (v := cv) rfl
        have hKp8 : ¬ K p8 := fun hk => by have := hKa _ hk; omega
        have hKp10 : ¬ K p10 := fun hk => by have := hKa _ hk; omega
        have cb2' := cb2.only k4 hKp8
        obtain ⟨V2, w1, w2, w3, w4⟩ := var_store1 (t := 31) (v := cv') (o := 0) cb2' inf31 is31 (by obtain ⟨A, cc, hcv⟩ := k3.len; rw [hcv]; rfl) (by obtain ⟨A, cc, hcv⟩ := k3.len; rw [hcv]; rfl) (by simp)
        have w4 : Var V2 p8 31 [cv'] := by simpa using w4
        try simp only [wpK_assoc]
        refine wpK_reg (fun R hR => by simp [h8, q8, bs31, k1, w1]; exact hR) ?_
        have hO12 : Only (fun b => (K b ∧ b < Wa.next) ∨ b = p8) Vy V2 := (k4.mono (fun b _ hb => .inl ⟨hb, (hKa b hb).2.1⟩)).trans (w3.mono (fun b _ hb => .inr hb))
        have own2 := own own1 hO12 (fun b hb => by rcases hb with hb | hb; exact .inr (.inr (.inr (.inr hb))); exact .inr (.inr (.inr (.inl hb))))
        have d1z := own2; rw [hS] at d1z
        obtain ⟨v1, v2, v3, v4, v5⟩ := d1z
        rw [hT1] at v2
        obtain ⟨td1, td2, td3, td4⟩ := v2
        have hoV := hord td1
        have q6 := (hV6.only td1 (by omega)).load1 (T := T0) und119 rfl (j := 0) (v := .pointer (some ⟨o, 0, none⟩)) rfl
        have m1 := ord_set hoV (j := k) (by omega)
        have i1 := ix106 o 1 k (by omega)
        have cb1' := (cb1.only k4 hKp10).only w3 (by omega)
        obtain ⟨V3, r1, r2, r3, r4⟩ := var_store1 (t := 96) (v := .int .u64 ((g k : Nat) : Int)) (o := 0) cb1' inf96 is96 rfl rfl (by simp)
        have r4 : Var V3 p10 96 [.int .u64 ((g k : Nat) : Int)] := by simpa using r4
        try simp only [wpK_assoc]
        refine wpK_reg (fun R hR => by simp [h6, h10, q6, m1, i1, r1]; exact hR) ?_
        refine wpK_exit ?_
        simp only [leaves_exit]
        rw [if_neg (by omega)]
        have own3 := own own2 r3 (fun b hb => .inr (.inr (.inl hb)))
        have n1 := k4.1
        have n2 := w3.1
        have n3' := r3.1
        have hl3 : V3.blocks.get (z + 1) = some ⟨bz, []⟩ := by
          rw [r3.2 (z + 1) (by omega) (by omega), w3.2 (z + 1) (by omega) (by omega), k4.2 (z + 1) (by omega) (fun hk => by have := hKa _ hk; omega)]; exact hly
        subst hbz
        have hset := setObj_only V3 (z + 1)
        have hNAs := hNa
        rw [hNX] at hNa ⊢
        have hK2 : ∀ b, (K b ∨ b = Vy.next + 1) → p11 < b ∧ b < V3.next ∧ b ≠ pe ∧ b ≠ z ∧ b ≠ z + 1 ∧ b ≠ p10 ∧ b ≠ p8 := fun b hb => by
          rcases hb with hb | hb
          · have := hKa b hb; omega
          · omega
        refine ⟨_, _, _, _, _, _, _, _, _, hl3, false, rfl, (fun h => by cases h), fun _ => ⟨own own3 (hset _) (fun b hb => .inl hb), ⟨_, _, _, _, _, _, _, (by rw [setObj_get, if_pos rfl]; rfl)⟩, k, g k, cv', fun b => K b ∨ b = Vy.next + 1, ?_, fun r => ?_, ?_, fun b hb => ?_, fun d hd r hr hk2 => ?_⟩⟩
        · rw [hCh]
          exact ⟨r4.only (hset _) (by omega), (w4.only r3 (by omega)).only (hset _) (by omega), ((k3.only w3 (fun b _ hb hk2 => (hK2 b hb).2.2.2.2.2.2 hk2)).only r3 (fun b _ hb hk2 => (hK2 b hb).2.2.2.2.2.1 hk2)).only (hset _) (fun b _ hb hk2 => (hK2 b hb).2.2.2.2.1 hk2)⟩
        · rw [List.length_append, List.length_singleton, Nat.add_sub_cancel, gd_last, hgb]
          exact ⟨fun e => ⟨(hR.lt e).2, fun _ => e⟩, fun e => e.2 (by omega)⟩
        · refine hc.snoc hkn hk ((hNa k).1 (d4 k hb1)).2 (fun i hi hh => ?_)
          have hin : i < n := by clear hm1 hmax; omega
          exact d5 i ((hNa i).2 ⟨hin, hh.2⟩) (hb2 i hi) hh.1
        · have := hK2 b hb
          rw [setObj_next]
          exact ⟨this.1, this.2.1, this.2.2.1, this.2.2.2.1, this.2.2.2.2.1⟩
        · rcases hk2 with hk2 | hk2
          · exact hKm d hd r hr hk2
          · have := hlow d hd r hr; omega
      · have hk' : ¬ ((H k : Nat) : Int) = hgt := by clear hm1 hmax; omega
        try simp only [wpK_assoc]
        refine wpK_dn (wr := Tr.nil |>.set 35 0 |>.set 36 1 |>.set 37 2 |>.set 38 3 |>.set 39 4 |>.set 40 5) (bits := Tr.nil.lay 0 [0, 0, 3, 7, 0, 31]) (ord := [0, 1, 2, 3, 4, 5]) (by kernel_rfl) (by kernel_rfl) (by kernel_rfl) (fun G hG => by
          simp [h9, h11, q9, q11, j1, eH, vnv, hk']
          exact hG) ?_
        try simp only [wpK_assoc]
        first | refine wpK_onF (by simp [hk']) ?_ | refine wpK_out (by simp [hk']) ?_ | refine wpK_condF (by simp [hk']) ?_ | refine wpK_endF (by simp [hk']) (wpK_skip ?_) | refine wpK_endF (by simp [hk']) ?_
        simp only [leaves_normal]
        subst hbz
        have hset := setObj_only Vy (z + 1)
        refine ⟨_, _, _, _, _, _, _, _, _, hly, true, rfl, fun _ => ⟨own own1 (hset _) (fun b hb => .inl hb), by rw [setObj_get, if_pos rfl]; exact hlp.symm, hCh1 d3y (hset _) (fun b hb => .inl hb), fun r hr => ?_, fun r h1 h2 => ?_⟩, (fun h => by cases h)⟩
        · rw [dropLow_bit hb1 hb2] at hr
          simp only [Bool.and_eq_true] at hr
          exact d4 r hr.1
        · rw [dropLow_bit hb1 hb2] at h2
          by_cases e : r = k
          · subst e; exact hk
          · exact d5 r h1 (by simpa [-testBit_dec, e] using h2)
    · exact hChn hCa hE9 (fun b hb => hb.elim)
    · rintro _ W10 (⟨d1, d2, d3, d4, d5⟩ | ⟨d1, ⟨_, _, _, _, _, _, _, d2⟩, x, L', cv', K', d3, d4, d5, d6, d7⟩)
      · exfalso
        obtain ⟨x, hx, hx1, hx2⟩ := hc.next hR hH hm1 hz
        rw [hNX] at hNa
        exact d5 x ((hNa x).2 ⟨hx, hx2⟩) (by simp) hx1
      · rw [hz9] at d2
        refine ⟨_, _, _, _, _, _, _, _, _, d2, (fun h => by cases h), ?_⟩
        rw [← hz9]
        generalize hex : (AObj.loop LoopState.exhausted _ _ _ _ _ _ _ _) = ex
        obtain ⟨W8, hW8, hO8⟩ : ∃ W8, W8 = W10.setObj (z + 1) ex ∧ Only (fun b => b = z + 1) W10 W8 := ⟨_, rfl, setObj_only _ _ _⟩
        rw [← hW8]
        have n8 := hO8.1
        have own8 := own d1 hO8 (fun b hb => .inl hb)
        rw [hS] at own8
        obtain ⟨u1, u2, u3, u4, u5⟩ := own8
        have ee := u3.load1 (T := T0) und3 rfl (j := 0) (v := .int .i64 hgt) rfl
        simp only [goOn, leaves_exit, behind_exit, if_true]
        obtain ⟨Wp, g1, g2, g3, g4⟩ := storeVar_new (T := T0) (W := W8) (t := 3) (z := [.int .i64 0]) (v := .int .i64 hgt) inf3 (by rw [is3]; rfl) (by rw [is3]; rfl) rfl
        have g4 : Var Wp W8.next 3 [.int .i64 hgt] := g4
        have e59 := g4.load1 (T := T0) und3 rfl (j := 0) (v := .int .i64 hgt) rfl
        obtain ⟨Wq, k1, k2, k3, k4⟩ := var_store1 (t := 3) (v := .int .i64 (hgt - 1)) (o := 0) g4 inf3 is3 rfl rfl (by simp)
        have k4 : Var Wq W8.next 3 [.int .i64 (hgt - 1)] := by simpa using k4
        have hw1 : IntKind.i64.wrap (hgt - 1) = hgt - 1 := i64_in (by clear hm1 hmax; omega)
        have hE8q : Only (fun b => W8.next ≤ b) W8 Wq := (Only.wide g3).trans (k3.mono (fun b _ e => by omega))
        try simp only [wpK_assoc]
        refine wpK_reg (fun R hR => by simp [h11, ee]; exact hR) ?_
        try simp only [wpK_assoc]
        refine wpK_reg (fun R hR => by simp [zero3, g1]; exact hR) ?_
        try simp only [wpK_assoc]
        refine wpK_reg1 (fun R hR => by simp [e59, hw1, k1]; exact hR) ?_
        have u2' := hT1n u2 hE8q (fun b hb => by omega)
        have d3' : Ch (c ++ [x]) L' cv' K' W8 := hChn d3 hO8 (fun b hb => ⟨by omega, by omega, fun hk => by have := d6 b hk.1; omega⟩)
        have d3q : Ch (c ++ [x]) L' cv' K' Wq := hChn d3' hE8q (fun b hb => ⟨by omega, by omega, fun hk => by omega⟩)
        have hqn : Wq.next = W8.next + 1 := by rw [k2, g2]
        have hW8n : W8.next = W10.next := by rw [hW8, setObj_next]
        refine hI (q - 1) _ _ (by clear hm1 hmax; omega) ⟨rfl, by simp [h6], by simp [h8], by simp [h9], by simp [h10], W8.next, c ++ [x], L', cv', K', by simp, by simp; clear hm1 hmax; omega, u2', ⟨z, rfl, by omega, by omega, by rw [hE8q.2 z (by omega) (by omega)]; exact u4, fun d hd e => ?_, u5.only hE8q (fun d hd r hr x1 x2 hk => by omega)⟩, by omega, ?_, d3q, d4, d5, fun b hb => ?_, fun d hd r hr hk => ?_⟩
        · have := hlow d hd z e; omega
        · rw [List.length_append, List.length_singleton, show (m : Int) - ((c.length + 1 : Nat) : Int) = hgt - 1 from by clear hm1 hmax; omega]
          exact k4
        · have := d6 b hb; omega
        · rcases List.mem_cons.1 hd with e | e
          · subst e
            have hrz : z = r := by injection hr
            have := d6 r hk
            omega
          · exact d7 d e r hr hk
  · rintro A' W' hf; exact hf.elim
  · rintro ⟨tm, n', ds⟩ W' ⟨j1, j2, c, L, cv, K, j3, j4, j5, j6, j7, j8⟩
    simp only at j1 j2 j5 j8
    subst j1
    rw [hT1] at j4
    rw [hCh] at j6
    obtain ⟨c1, c2, c3⟩ := j6
    have e8 := c2.load1 (T := T0) und31 rfl (j := 0) (v := cv) rfl
    try simp only [wpK_assoc]
    refine wpK_reg (fun R hR => by simp [j2, e8]; exact hR) ?_
    obtain ⟨W'', g1, g2⟩ := j5.collects2
    have ng := g2.1
    have hge : ∀ b, (∃ d ∈ ds, d.target = .collected b) → p11 ≤ b := fun b ⟨d, hd, e⟩ => j5.above d hd b e
    have n9 := j4.1.1
    refine wpK_ret ⟨.inr rfl, W'', g1, [cv, .int .i64 0], by simp, ⟨by omega, fun b hb _ => ?_⟩, c, cv, K, rfl, j3, j7, c3.only g2 (fun b _ hb ⟨d, hd, e⟩ => j8 d hd b e hb)⟩
    rw [g2.2 b (by omega) (fun hh => by have := hge b hh; omega), j4.1.2 b (by omega) (by omega), hE3.2 b hb (fun x => x)]
theorem und109' : T0.und.get 109 = some Tryd.t109.desc := by kernel_rfl
theorem agg109 : isAggD Tryd.t109.desc = false := by kernel_rfl
theorem inf109 : T0.info.get 109 = some Tryd.t109 := by kernel_rfl
theorem is109 : Tryd.t109.size = 1 := by kernel_rfl
theorem zero109 : aZero T0 109 = some .nilFunc := by kernel_rfl
theorem ix94 (p o q : Nat) (hq : q < 40) : aIndexAddr T0 94 (.pointer (some ⟨p, o, none⟩)) (.int .i64 (q : Nat)) = some (.pointer (some ⟨p, o + q, none⟩)) := by
  show aIndexAddr T0 94 (.pointer (some ⟨p, o, none⟩)) (.int .i64 (Int.ofNat q)) = _
  simp only [aIndexAddr, und94, sz3, blt_dec, hq, decide_true, Nat.mul_one]
def lnkV (nx pr : Nat → Int) (met j : Nat) : Value := if j < 40 then .int .i64 (nx j) else if j < 80 then .int .i64 (pr (j - 40)) else .int .u64 (met : Int)
def lnkL (nx pr : Nat → Int) (met : Nat) : List Value := (List.range 81).map (lnkV nx pr met)
theorem lnkL_len (nx pr : Nat → Int) (met : Nat) : (lnkL nx pr met).length = 81 := by simp [lnkL]
theorem lnkL_at (nx pr : Nat → Int) (met : Nat) {j : Nat} (h : j < 81) : (lnkL nx pr met)[j]? = some (lnkV nx pr met j) := by
  simp only [lnkL, List.getElem?_map, List.getElem?_range h]; rfl
theorem lnkL_set {nx pr nx' pr' : Nat → Int} {met met' j : Nat} {v : Value} (hv : lnkV nx' pr' met' j = v) (ho : ∀ i, i < 81 → i ≠ j → lnkV nx' pr' met' i = lnkV nx pr met i) (hj : j < 81) : (lnkL nx pr met).set j v = lnkL nx' pr' met' := by
  apply List.ext_getElem?
  intro i
  rw [List.getElem?_set]
  by_cases hi : i < 81
  · rw [lnkL_at _ _ _ hi, lnkL_at _ _ _ hi, lnkL_len]
    by_cases e : j = i
    · subst e; rw [if_pos rfl, if_pos hi, hv]
    · rw [if_neg e, ho i hi (Ne.symm e)]
  · rw [List.getElem?_eq_none (by rw [lnkL_len]; omega), List.getElem?_eq_none (by rw [lnkL_len]; omega)]
    split
    · rw [lnkL_len, if_neg (by omega)]
    · rfl
abbrev LinkAt (W : AW) (l : Nat) (nx pr : Nat → Int) (met : Nat) : Prop := Var W l 125 (lnkL nx pr met)
theorem lnk_next {W : AW} {l met : Nat} {nx pr : Nat → Int} (h : LinkAt W l nx pr met) {j : Nat} (hj : j < 40) : aLoadVar T0 W 3 l j = some (.int .i64 (nx j)) :=
  h.load1 (T := T0) und3 rfl (j := j) (by rw [lnkL_at _ _ _ (by omega)]; simp only [lnkV]; rw [if_pos hj])
theorem lnk_prior {W : AW} {l met : Nat} {nx pr : Nat → Int} (h : LinkAt W l nx pr met) {j : Nat} (hj : j < 40) : aLoadVar T0 W 3 l (40 + j) = some (.int .i64 (pr j)) :=
  h.load1 (T := T0) und3 rfl (j := 40 + j) (by rw [lnkL_at _ _ _ (by omega)]; simp only [lnkV]; rw [if_neg (by omega), if_pos (by omega), Nat.add_sub_cancel_left])
theorem lnk_met {W : AW} {l met : Nat} {nx pr : Nat → Int} (h : LinkAt W l nx pr met) : aLoadVar T0 W 96 l 80 = some (.int .u64 (met : Int)) :=
  h.load1 (T := T0) und96 rfl (j := 80) (by rw [lnkL_at _ _ _ (by omega)]; rfl)
theorem lnk_setNext {W : AW} {l met : Nat} {nx pr : Nat → Int} (h : LinkAt W l nx pr met) {j : Nat} (hj : j < 40) (v : Int) :
    ∃ W', aStoreVar T0 W 3 l j (.int .i64 v) = some W' ∧ W'.next = W.next ∧ Only (fun c => c = l) W W' ∧ LinkAt W' l (updI nx j v) pr met := by
  obtain ⟨W', g1, g2, g3, g4⟩ := var_store1 (t := 3) (v := .int .i64 v) (o := j) h inf3 is3 rfl rfl (by rw [lnkL_len]; omega)
  rw [lnkL_set (nx' := updI nx j v) (pr' := pr) (met' := met) (by simp only [lnkV]; rw [if_pos hj, updI_eq]) (fun i hi e => by
    simp only [lnkV]
    by_cases h4 : i < 40
    · rw [if_pos h4, if_pos h4, updI_ne _ _ e]
    · rw [if_neg h4, if_neg h4]) (by omega)] at g4
  exact ⟨W', g1, g2, g3, g4⟩
theorem lnk_setPrior {W : AW} {l met : Nat} {nx pr : Nat → Int} (h : LinkAt W l nx pr met) {j : Nat} (hj : j < 40) (v : Int) :
    ∃ W', aStoreVar T0 W 3 l (40 + j) (.int .i64 v) = some W' ∧ W'.next = W.next ∧ Only (fun c => c = l) W W' ∧ LinkAt W' l nx (updI pr j v) met := by
  obtain ⟨W', g1, g2, g3, g4⟩ := var_store1 (t := 3) (v := .int .i64 v) (o := 40 + j) h inf3 is3 rfl rfl (by rw [lnkL_len]; omega)
  rw [lnkL_set (nx' := nx) (pr' := updI pr j v) (met' := met) (by simp only [lnkV]; rw [if_neg (by omega), if_pos (by omega), Nat.add_sub_cancel_left, updI_eq]) (fun i hi e => by
    simp only [lnkV]
    by_cases h4 : i < 40
    · rw [if_pos h4, if_pos h4]
    · rw [if_neg h4, if_neg h4]
      by_cases h8 : i < 80
      · rw [if_pos h8, if_pos h8, updI_ne _ _ (by omega)]
      · rw [if_neg h8, if_neg h8]) (by omega)] at g4
  exact ⟨W', g1, g2, g3, g4⟩
theorem lnk_setMet {W : AW} {l met : Nat} {nx pr : Nat → Int} (h : LinkAt W l nx pr met) (x : Nat) :
    ∃ W', aStoreVar T0 W 96 l 80 (.int .u64 (x : Int)) = some W' ∧ W'.next = W.next ∧ Only (fun c => c = l) W W' ∧ LinkAt W' l nx pr x := by
  obtain ⟨W', g1, g2, g3, g4⟩ := var_store1 (t := 96) (v := .int .u64 (x : Int)) (o := 80) h inf96 is96 rfl rfl (by rw [lnkL_len]; omega)
  rw [lnkL_set (nx' := nx) (pr' := pr) (met' := x) (by rfl) (fun i hi e => by
    simp only [lnkV]
    by_cases h4 : i < 40
    · rw [if_pos h4, if_pos h4]
    · rw [if_neg h4, if_neg h4, if_pos (show i < 80 by omega), if_pos (show i < 80 by omega)]) (by omega)] at g4
  exact ⟨W', g1, g2, g3, g4⟩
theorem LinkAt.congr {W : AW} {l met : Nat} {nx pr nx' pr' : Nat → Int} (h : LinkAt W l nx pr met) (h1 : ∀ j, j < 40 → nx j = nx' j) (h2 : ∀ j, j < 40 → pr j = pr' j) : LinkAt W l nx' pr' met := by
  have e : lnkL nx pr met = lnkL nx' pr' met := by
    apply List.map_congr_left
    intro j hj
    rw [List.mem_range] at hj
    simp only [lnkV]
    by_cases h4 : j < 40
    · rw [if_pos h4, if_pos h4, h1 j h4]
    · rw [if_neg h4, if_neg h4]
      by_cases h8 : j < 80
      · rw [if_pos h8, if_pos h8, h2 (j - 40) (by omega)]
      · rw [if_neg h8, if_neg h8]
  unfold LinkAt at *; rw [← e]; exact h
theorem vain_bits {n : Nat} {R : Nat → Nat → Bool} {pr : Nat → Int} {met met1 : Nat} (hV : Vain n R pr met met1) (hm : ∀ b, met.testBit b = true → b < n) : ∀ b, met1.testBit b = true → b < n := fun b hb => by
  rcases hV.new hb with h | h
  · exact hm b h
  · exact h.1
theorem met_lt {met k : Nat} (h : met.testBit k = false) : met < met ||| 1 <<< k := by
  have h1 : met ≤ met ||| 1 <<< k := Nat.left_le_or
  rcases Nat.lt_or_ge met (met ||| 1 <<< k) with h2 | h2
  · exact h2
  · exfalso
    have e : met ||| 1 <<< k = met := Nat.le_antisymm h2 h1
    have := bit_add met k k
    rw [e, h] at this; simp at this
theorem vain_le {n : Nat} {R : Nat → Nat → Bool} {pr : Nat → Int} {met met1 : Nat} (hV : Vain n R pr met met1) : met ≤ met1 := by
  have : met ||| met1 = met1 := Nat.eq_of_testBit_eq fun i => by
    rw [Nat.testBit_or]
    cases e : met.testBit i with
    | false => rfl
    | true => rw [hV.sub e]; rfl
  rw [← this]; exact Nat.left_le_or
structure Cap (W : AW) (o l c1 c2 c3 n : Nat) (g : Nat → Nat) : Prop where
  h1 : W.Has c1 0 (.pointer (some ⟨o, 0, none⟩))
  h2 : W.Has c2 0 (.pointer (some ⟨l, 0, none⟩))
  h3 : W.Has c3 0 (.func (.func 84) ⟨[]⟩ ⟨[.pointer (some ⟨c1, 0, none⟩), .pointer (some ⟨c2, 0, none⟩), .pointer (some ⟨c3, 0, none⟩)]⟩)
  ord : OrdAt W o n g
theorem Cap.only {W W' : AW} {o l c1 c2 c3 n : Nat} {g : Nat → Nat} {K : Nat → Prop} (h : Cap W o l c1 c2 c3 n g) (he : Only K W W') (hk : ∀ b, b = o ∨ b = c1 ∨ b = c2 ∨ b = c3 → ¬ K b) : Cap W' o l c1 c2 c3 n g :=
  ⟨h.h1.only he (hk _ (by simp)), h.h2.only he (hk _ (by simp)), h.h3.only he (hk _ (by simp)), h.ord.only he (hk _ (by simp))⟩
theorem follow_wp {o l c1 c2 c3 n : Nat} {g : Nat → Nat} {R : Nat → Nat → Bool} (hn : n ≤ 40) (hR : Ord n R) (hg : ∀ a b, (g a).testBit b = R a b) (hl1 : l ≠ o) (hl2 : l ≠ c1) (hl3 : l ≠ c2) (hl4 : l ≠ c3) (hl0 : 0 < l) : ∀ (μ : Nat) {W : AW} {nx pr : Nat → Int} {met a : Nat}, 1099511627776 ≤ met + μ → FolI n R nx pr met a → a < n → (∀ b, met.testBit b = true → b < n) → LinkAt W l nx pr met → Cap W o l c1 c2 c3 n g → tabsIn T0 T0.tabs W = true →
    WpF T0 84 [.int .i64 (a : Int), .pointer (some ⟨c1, 0, none⟩), .pointer (some ⟨c2, 0, none⟩), .pointer (some ⟨c3, 0, none⟩)] W (fun v W' => ∃ (b : Bool) (nx' pr' : Nat → Int) (met' : Nat), v = .bool b ∧ Only (fun x => x = l) W W' ∧ LinkAt W' l nx' pr' met' ∧
      (b = false → nx' = nx ∧ pr' = pr ∧ Vain n R pr met met' ∧ ∀ c, R a c = true → met'.testBit c = true) ∧ (b = true → Found n R nx pr nx' pr' met a)) := by
  intro μ
  induction μ with
  | zero =>
    intro W nx pr met a hμ _ _ hm
    have := lt40 (x := met) fun b hb => by have := hm b hb; omega
    omega
  | succ μ ih =>
  intro W nx pr met a hμ hF ha hm hL hC hT
  refine wpFd fun84 rfl ?_
  have hl : l < W.next := hL.1
  have hlo : o < W.next := hC.ord.1
  have hc1 : c1 < W.next := hC.h1.1
  have hc2 : c2 < W.next := hC.h2.1
  have hc3 : c3 < W.next := hC.h3.1
  -- the parameter and the result
  obtain ⟨pa, hpa⟩ : ∃ p, p = W.next := ⟨_, rfl⟩
  obtain ⟨W1, hW1, hE1, hn1, hVa, hV5⟩ : ∃ W1, W1 = (W.newCells 3 [.int .i64 (a : Int)]).newCells 4 [.bool false] ∧ Ext W W1 ∧ W1.next = W.next + 2 ∧ Var W1 pa 3 [.int .i64 (a : Int)] ∧ Var W1 (pa + 1) 4 [.bool false] :=
    ⟨_, rfl, (Only.newCells _ _ _).trans (Only.newCells _ _ _), rfl, by rw [hpa]; exact (Var.new _ _ _).ext (.newCells _ _ _), by rw [hpa]; exact Var.new _ _ _⟩
  try simp only [wpK_assoc]
  refine wpK_reg (fun R hR => by simp [zero4, newCells_next, ← hW1]; exact hR) ?_
  have hC1 := hC.only hE1 (fun _ _ x => x)
  have q1 := load_of und119 rfl hC1.h1
  have qa := hVa.load1 (T := T0) und3 rfl (j := 0) (v := .int .i64 (a : Int)) rfl
  have m1 := ord_set hC1.ord (j := a) (by omega)
  have i1 := ix106 o 1 a (by omega)
  have hga : ∀ c, (g a).testBit c = R a c := hg a
  have hga40 : g a < 1099511627776 := lt40 fun b hb => by rw [hga] at hb; have := (hR.lt hb).2; omega
  generalize hx : g a = xa at m1 hga hga40
  rw [hpa] at qa
  try simp only [wpK_assoc]
  refine wpK_d0 (wr := Tr.nil |>.set 7 0 |>.set 8 1 |>.set 9 2 |>.set 10 3 |>.set 11 4 |>.set 12 5 |>.set 13 6) (bits := Tr.nil.lay 0 [0, 0, 1, 5, 15, 31, 63]) (ord := [0, 1, 2, 3, 4, 5, 6]) (by kernel_rfl) (by kernel_rfl) (by kernel_rfl) (fun G hG => by
    simp [q1, qa, m1, i1, aEnter, fun77, short_other, aCallV]
    rw [dcallS_none]
    refine (places_wp xa).mono ?_
    rintro _ Wc ⟨hEc, rfl, hBc⟩
    simp [q1, qa, m1, i1, hEc.1]
    exact hG Wc (And.intro hEc hBc)) ?_
  rintro Wc ⟨hEc, hBc⟩
  rw [← hpa] at qa
  refine wpK_keep (fun tm' => tm'.get 1 = some (.pointer (some ⟨c1, 0, none⟩)) ∧ tm'.get 2 = some (.pointer (some ⟨c2, 0, none⟩)) ∧ tm'.get 3 = some (.pointer (some ⟨c3, 0, none⟩)) ∧ tm'.get 4 = some (.pointer (some ⟨pa, 0, none⟩)) ∧ tm'.get 5 = some (.pointer (some ⟨pa + 1, 0, none⟩)) ∧ tm'.get 13 = some (.func (.func 86) ⟨[]⟩ ⟨[.pointer (some ⟨W1.next, 0, none⟩)]⟩)) ⟨by simp, by simp, by simp, by simp [hpa], by simp [hpa], by simp⟩ ?_
  rintro tm ⟨h1, h2, h3, h4, h5, h13⟩
  have nc := hEc.1
  refine wpK_range2 (f := 86) (first := ⟨[]⟩) (cap := ⟨[.pointer (some ⟨W1.next, 0, none⟩)]⟩) (by simp [h13]) fun86 (fun W5 hn5 hW5 hdf hlp => ?_)
  obtain ⟨z, hz⟩ : ∃ z, z = Wc.next := ⟨_, rfl⟩
  rw [← hz] at hn5 hdf hlp
  have hE15 : Ext W1 W5 := hEc.trans ⟨by omega, fun b hb _ => hW5 b hb⟩
  have hE05 := hE1.trans hE15
  obtain ⟨S, hS⟩ : ∃ S : AW → Prop, S = fun V => W5.next ≤ V.next ∧ Only (fun b => b = l ∨ W.next ≤ b) W V ∧ Var V pa 3 [.int .i64 (a : Int)] ∧ V.blocks.get z = some ⟨.deferred (some []), []⟩ ∧ Cap V o l c1 c2 c3 n g := ⟨_, rfl⟩
  have own : ∀ {V V' : AW} {K : Nat → Prop}, S V → Only K V V' → (∀ b, K b → b = l ∨ b = z + 1 ∨ b = pa + 1 ∨ W5.next ≤ b) → S V' := by
    intro V V' K hV he hK
    rw [hS] at hV ⊢
    obtain ⟨o1, o2, o3, o4, o5⟩ := hV
    have hk : ∀ b, b ≠ l → b ≠ z + 1 → b ≠ pa + 1 → b < W5.next → ¬ K b := fun b x1 x2 x3 x4 x5 => by have := hK b x5; omega
    exact ⟨Nat.le_trans o1 he.1, o2.trans (he.mono (fun b _ hb => by have := hK b hb; omega)), o3.only he (hk _ (by omega) (by omega) (by omega) (by omega)), by rw [he.2 z (by omega) (hk _ (by omega) (by omega) (by omega) (by omega))]; exact o4, o5.only he (fun b hb => hk _ (by omega) (by omega) (by omega) (by omega))⟩
  have own5 : S W5 := by
    rw [hS]
    exact ⟨Nat.le_refl _, Only.wide hE05, hVa.ext hE15, hdf, hC1.only hE15 (fun _ _ x => x)⟩
  refine (placesX_wp (l := Wc.next + 1) (bx := W1.next) (x := xa)
    (fun x V => S V ∧ V.blocks.get (z + 1) = W5.blocks.get (z + 1) ∧ Var V (pa + 1) 4 [.bool false] ∧ (∀ r, x.testBit r = true → R a r = true) ∧ ∃ met1, LinkAt V l nx pr met1 ∧ Vain n R pr met met1 ∧ ∀ r, R a r = true → x.testBit r = false → met1.testBit r = true)
    (fun V => S V ∧ (∃ fn t n ps asn bd df, V.blocks.get (z + 1) = some ⟨.loop .done (some .ret) fn t n ps asn bd df, []⟩) ∧ Var V (pa + 1) 4 [.bool true] ∧ ∃ nx' pr' met', LinkAt V l nx' pr' met' ∧ Found n R nx pr nx' pr' met a)
    (by omega) (fun left k V hCC hlt hb1 hb2 => ?_) ⟨own5, rfl, hV5.ext hE15, fun r hr => by rw [← hga]; exact hr, met, hL.ext hE05, Vain.refl _ _ _ _, fun r h1 h2 => by rw [hga, h1] at h2; cases h2⟩ (hBc.ext ⟨by omega, fun b hb _ => hW5 b hb⟩)).mono ?_
  · obtain ⟨d1, d2, d3, d4, met1, d5, d6, d7⟩ := hCC
    have d1' := d1; rw [hS] at d1'
    obtain ⟨y1, y2, y3, y4, y5⟩ := d1'
    have hl' := d2.trans hlp
    rw [hz] at hl'
    have nv := y2.1
    have hRk := d4 k hb1
    have hkn := (hR.lt hRk).2
    have hTV : tabsIn T0 T0.tabs V = true := tabs_only hT (by omega) y2 (by omega)
    refine ⟨hTV, _, _, _, _, _, _, _, _, _, _, tm.set 14 (.int .i64 (k : Nat)), hl', rfl, ?_⟩
    refine wpR ?_
    try simp only [wpK_assoc]
    refine wpK_reg1 (fun R hR => by simp []; exact hR) ?_
    refine ⟨rfl, _, _, _, _, _, _, _, _, hl', ?_⟩
    rw [← hz] at hl' ⊢
    generalize hbz : (AObj.loop LoopState.busy _ _ _ _ _ _ _ _) = bz
    obtain ⟨Vy, hVy, hOy, hny⟩ : ∃ Vy, Vy = V.setObj (z + 1) bz ∧ Only (fun b => b = z + 1) V Vy ∧ Vy.next = V.next := ⟨_, rfl, setObj_only _ _ _, rfl⟩
    rw [← hVy]
    have hly : Vy.blocks.get (z + 1) = some ⟨bz, []⟩ := by rw [hVy, setObj_get, if_pos rfl]
    have own1 := own d1 hOy (fun b hb => .inr (.inl hb))
    have d3y := d3.only hOy (by omega)
    have d5y := d5.only hOy (by omega)
    have d1y := own1; rw [hS] at d1y
    obtain ⟨u1, u2, u3, u4, u5⟩ := d1y
    have q2 := load_of und122 rfl u5.h2
    have lm := lnk_met d5y
    have hm1n := vain_bits d6 hm
    have hm140 : met1 < 1099511627776 := lt40 fun b hb => by have := hm1n b hb; omega
    have hd := dropLow_bit hb1 hb2
    refine wpK_block1 ?_
    cases hmk : met1.testBit k with
    | true =>
      try simp only [wpK_assoc]
      refine wpK_reg (fun R hR => by
          simp [h2, q2, lm, aEnter, fun60, short_other, aCallV]; rw [callS_none]
          refine (has_is hmk (by omega) (by omega) _).mono ?_
          rintro _ W9 ⟨e9, rfl⟩; subst W9
          simp [h2, q2, lm]; exact hR) ?_
      try simp only [wpK_assoc]
      first | refine wpK_onT (by simp []) ?_ | refine wpK_outT (by simp []) ?_ | refine wpK_condT (by simp []) ?_ | refine wpK_endT (by simp []) ?_
      simp only [leaves_exit, if_true]
      subst hbz
      have hset := setObj_only Vy (z + 1)
      refine ⟨_, _, _, _, _, _, _, _, _, hly, true, rfl, fun _ => ⟨own own1 (hset _) (fun b hb => .inr (.inl hb)), by rw [setObj_get, if_pos rfl]; exact hlp.symm, d3y.only (hset _) (by omega), fun r hr => ?_, met1, d5y.only (hset _) (by omega), d6, fun r e1 e2 => ?_⟩, (fun h => by cases h)⟩
      · rw [hd] at hr
        simp only [Bool.and_eq_true] at hr
        exact d4 r hr.1
      · rw [hd] at e2
        by_cases e : r = k
        · subst e; exact hmk
        · exact d7 r e1 (by simpa [-testBit_dec, e] using e2)
    | false =>
      try simp only [wpK_assoc]
      refine wpK_reg (fun R hR => by
          simp [h2, q2, lm, aEnter, fun60, short_other, aCallV]; rw [callS_none]
          refine (has_is hmk (by omega) (by omega) _).mono ?_
          rintro _ W9 ⟨e9, rfl⟩; subst W9
          simp [h2, q2, lm]; exact hR) ?_
      try simp only [wpK_assoc]
      first | refine wpK_onF (by simp []) ?_ | refine wpK_out (by simp []) ?_ | refine wpK_condF (by simp []) ?_ | refine wpK_endF (by simp []) (wpK_skip ?_) | refine wpK_endF (by simp []) ?_
      -- it is met now
      have h64 : (1 <<< k : Nat) < 18446744073709551616 := by rw [Nat.one_shiftLeft]; exact Nat.lt_trans (Nat.pow_lt_pow_right (by omega) (show k < 40 by omega)) (by decide)
      have hor := aBinI_or .u64 met1 (1 <<< k) (by show met1 < 18446744073709551616; omega) h64
      obtain ⟨V2, w1, w2, w3, w4⟩ := lnk_setMet d5y (met1 ||| 1 <<< k)
      have nw := w3.1
      have hmt := met_lt hmk
      obtain ⟨met2, hmet2⟩ : ∃ x, x = met1 ||| 1 <<< k := ⟨_, rfl⟩
      rw [← hmet2] at hor w1 w4 hmt
      have ho1 := one_wp k (by omega) Vy
      generalize hg1 : (1 <<< k : Nat) = k1 at hor ho1
      try simp only [wpK_assoc]
      refine wpK_dn (wr := Tr.nil |>.set 21 0 |>.set 22 1 |>.set 23 2 |>.set 24 3 |>.set 25 4 |>.set 26 5 |>.set 27 6 |>.set 28 7 |>.set 29 8) (bits := Tr.nil.lay 0 [0, 1, 3, 7, 0, 16, 63, 127, 255, 511]) (ord := [0, 1, 2, 3, 4, 5, 6, 7, 8, 9]) (by kernel_rfl) (by kernel_rfl) (by kernel_rfl) (fun G hG => by
        simp [h2, q2, lm, aEnter, fun68, short_other, aCallV]
        rw [dcallS_none]
        refine ho1.mono ?_
        rintro _ W9 ⟨e9, rfl⟩; subst W9
        simp [h2, q2, lm, hor, w1, nw]
        exact hG) ?_
      have own2 := own own1 w3 (fun b hb => .inl hb)
      have d3z := d3y.only w3 (by omega)
      have hl2 : V2.blocks.get (z + 1) = some ⟨bz, []⟩ := by rw [w3.2 (z + 1) (by omega) (by omega)]; exact hly
      have d2z := own2; rw [hS] at d2z
      obtain ⟨v1, v2, v3, v4, v5⟩ := d2z
      have r2 := load_of und122 rfl v5.h2
      have r3 := load_of und109' agg109 v5.h3
      have lp := lnk_prior w4 (j := k) (by omega)
      have ip := ix94 l 40 k (by omega)
      have hlW : l < V2.next := w4.1
      have hle := vain_le d6
      have hFn : ∀ a1, a1 < n → pr k = (a1 : Int) → FolI n R nx pr met2 a1 := fun a1 h1' h2' => by rw [hmet2]; exact hF.next d6 hkn hmk h1' h2'
      have hm2n : ∀ b, met2.testBit b = true → b < n := fun b hb => by
        rw [hmet2, bit_add, Bool.or_eq_true, decide_eq_true_eq] at hb
        rcases hb with hb | hb
        · exact hm1n b hb
        · omega
      have hT2 : tabsIn T0 T0.tabs V2 = true := tabs_only hT (by omega) v2 (by omega)
      try simp only [wpK_assoc]
      refine wpK_cut (fun A' W' => A'.n = 59 ∧ A'.defers = [] ∧ A'.tmps.get 2 = some (.pointer (some ⟨c2, 0, none⟩)) ∧ A'.tmps.get 4 = some (.pointer (some ⟨pa, 0, none⟩)) ∧ A'.tmps.get 5 = some (.pointer (some ⟨pa + 1, 0, none⟩)) ∧ A'.tmps.get 6 = some (.int .i64 (k : Int)) ∧ Only (fun b => b = l) V2 W' ∧ ∃ (b : Bool) (nx1 pr1 : Nat → Int) (met3 : Nat), A'.tmps.get 46 = some (.bool b) ∧ LinkAt W' l nx1 pr1 met3 ∧
        (b = false → nx1 = nx ∧ pr1 = pr ∧ Vain n R pr met met3 ∧ met3.testBit k = true ∧ ∀ r, met1.testBit r = true → met3.testBit r = true) ∧ (b = true → Found n R nx pr (updI nx1 a k) (updI pr1 k a) met a)) (fun Q9 hJ9 => ?_) ?_
      · rcases hF.prr k hkn with hpk | ⟨a1, ha1, hpk⟩
        · rw [hpk] at lp
          try simp only [wpK_assoc]
          refine wpK_qn (wr := Tr.nil |>.set 30 0 |>.set 31 1 |>.set 32 2 |>.set 33 3 |>.set 34 4 |>.set 35 5 |>.set 36 6 |>.set 37 7 |>.set 38 8 |>.set 39 9 |>.set 40 10 |>.set 41 11 |>.set 42 12 |>.set 43 13 |>.set 44 14 |>.set 45 15 |>.set 46 16) (bits := Tr.nil.lay 0 [0, 0, 1, 5, 15, 31, 63, 127, 255, 255, 255, 767, 2815, 7935, 16127, 32767, 65535]) (ord := [0, 1, 2, 3, 4, 5, 6, 7, 8, 9, 10, 11, 12, 13, 14, 15, 16]) (by kernel_rfl) (by kernel_rfl) (by kernel_rfl) (fun G hG => by
            simp [h2, h3, r2, r3, lp, ip, undef]
            exact hG) ?_
          exact hJ9 _ _ ⟨rfl, rfl, by simp [h2, h4, h5], by simp [h2, h4, h5], by simp [h2, h4, h5], by simp [h2, h4, h5], .refl _ _, true, nx, pr, met2, by simp, w4, (fun h => by cases h), fun _ => Found.free hF d6 ha hkn hRk hmk hpk⟩
        · have hpk1 : ¬ (a1 : Int) = -1 := by omega
          rw [hpk] at lp
          try simp only [wpK_assoc]
          refine wpK_q4 (wr := Tr.nil |>.set 30 0 |>.set 31 1 |>.set 32 2 |>.set 33 3 |>.set 34 4 |>.set 35 5 |>.set 36 6 |>.set 37 7 |>.set 38 8 |>.set 39 9 |>.set 40 10 |>.set 41 11 |>.set 42 12 |>.set 43 13 |>.set 44 14 |>.set 45 15 |>.set 46 16) (bits := Tr.nil.lay 0 [0, 0, 1, 5, 15, 31, 63, 127, 255, 255, 255, 767, 2815, 7935, 16127, 32767, 65535]) (ord := [0, 1, 2, 3, 4, 5, 6, 7, 8, 9, 10, 11, 12, 13, 14, 15, 16]) (by kernel_rfl) (by kernel_rfl) (by kernel_rfl) (fun G hG => by
            simp [h2, h3, r2, r3, lp, ip, hpk1, aEnter, fun84, short_other, aCallV]
            rw [dcallS_none]
            refine (ih (by omega) (hFn a1 ha1 hpk) ha1 hm2n w4 v5 hT2).mono ?_
            rintro _ W4 ⟨b, nx1, pr1, met3, rfl, hO4, hL4, hf4, ht4⟩
            simp [h2, h3, r2, r3, lp, ip, hpk1, hO4.1]
            exact hG b nx1 pr1 met3 W4 (And.intro hO4 (And.intro hL4 (And.intro hf4 ht4)))) ?_
          rintro b nx1 pr1 met3 W4 ⟨hO4, hL4, hf4, ht4⟩
          refine hJ9 _ _ ⟨rfl, rfl, by simp [h2, h4, h5], by simp [h2, h4, h5], by simp [h2, h4, h5], by simp [h2, h4, h5], hO4, b, nx1, pr1, met3, by simp, hL4, fun e => ?_, fun e => ?_⟩
          · obtain ⟨e1, e2, e3, e4⟩ := hf4 e
            rw [hmet2] at e3
            exact ⟨e1, e2, d6.next hkn ha1 hpk e3 e4, e3.sub (by rw [bit_add]; simp), fun r hr => e3.sub (by rw [bit_add, hr]; rfl)⟩
          · have := ht4 e
            rw [hmet2] at this
            exact Found.next hF d6 ha hkn hRk hmk ha1 hpk this
      · rintro ⟨tm, n, ds⟩ V4 ⟨hn, hd, h2, h4, h5, h6, hO4, b, nx1, pr1, met3, h46, hL4, hf4, ht4⟩
        simp only at hn hd h2 h4 h5 h6
        subst hn; subst hd
        simp only at h46
        have own4 := own own2 hO4 (fun b hb => .inl hb)
        have d3w := d3z.only hO4 (by omega)
        have hl4 : V4.blocks.get (z + 1) = some ⟨bz, []⟩ := by rw [hO4.2 (z + 1) (by omega) (by omega)]; exact hl2
        have d2w := own4; rw [hS] at d2w
        obtain ⟨s1, s2, s3, s4, s5⟩ := d2w
        cases b with
        | false =>
          obtain ⟨e1, e2, e3, e4, e5⟩ := hf4 rfl
          subst e1; subst e2
          try simp only [wpK_assoc]
          first | refine wpK_onF (by simp [h46]) ?_ | refine wpK_out (by simp [h46]) ?_ | refine wpK_condF (by simp [h46]) ?_ | refine wpK_endF (by simp [h46]) (wpK_skip ?_) | refine wpK_endF (by simp [h46]) ?_
          simp only [leaves_normal]
          subst hbz
          have hset := setObj_only V4 (z + 1)
          refine ⟨_, _, _, _, _, _, _, _, _, hl4, true, rfl, fun _ => ⟨own own4 (hset _) (fun b hb => .inr (.inl hb)), by rw [setObj_get, if_pos rfl]; exact hlp.symm, d3w.only (hset _) (by omega), fun r hr => ?_, met3, hL4.only (hset _) (by omega), e3, fun r f1 f2 => ?_⟩, (fun h => by cases h)⟩
          · rw [hd] at hr
            simp only [Bool.and_eq_true] at hr
            exact d4 r hr.1
          · rw [hd] at f2
            by_cases e : r = k
            · subst e; exact e4
            · exact e5 r (d7 r f1 (by simpa [-testBit_dec, e] using f2))
        | true =>
          have hFd := ht4 rfl
          try simp only [wpK_assoc]
          first | refine wpK_onT (by simp [h46]) ?_ | refine wpK_outT (by simp [h46]) ?_ | refine wpK_condT (by simp [h46]) ?_ | refine wpK_endT (by simp [h46]) ?_
          have t2 := load_of und122 rfl s5.h2
          have ta := s3.load1 (T := T0) und3 rfl (j := 0) (v := .int .i64 (a : Int)) rfl
          have ia := ix94 l 0 a (by omega)
          have ik := ix94 l 40 k (by omega)
          rw [Nat.zero_add] at ia
          obtain ⟨V5, x1, x2, x3, x4⟩ := lnk_setNext hL4 (j := a) (by omega) (k : Int)
          have n5' := x3.1
          have t2b := load_of und122 rfl (s5.h2.only x3 (by omega))
          have tab := (s3.only x3 (by omega)).load1 (T := T0) und3 rfl (j := 0) (v := .int .i64 (a : Int)) rfl
          obtain ⟨V6, z1, z2, z3, z4⟩ := lnk_setPrior x4 (j := k) (by omega) (a : Int)
          have n6' := z3.1
          have n56 := Nat.le_trans n5' n6'
          try simp only [wpK_assoc]
          refine wpK_dn (wr := Tr.nil |>.set 47 0 |>.set 48 1 |>.set 49 2 |>.set 50 3 |>.set 51 4 |>.set 52 5 |>.set 53 6 |>.set 54 7 |>.set 55 8 |>.set 56 10 |>.set 57 11 |>.set 58 12) (bits := Tr.nil.lay 0 [0, 0, 0, 0, 0, 0, 1, 65, 211, 467, 4, 1028, 4095, 8191]) (ord := [0, 1, 2, 3, 4, 5, 6, 7, 8, 9, 10, 11, 12, 13]) (by kernel_rfl) (by kernel_rfl) (by kernel_rfl) (fun G hG => by
            simp [h2, h4, h6, t2, ta, ia, ik, t2b, tab, x1, z1, n5', n6', n56]
            exact hG) ?_
          have hO56 : Only (fun b => b = l) V4 V6 := x3.trans z3
          have own6 := own own4 hO56 (fun b hb => .inl hb)
          have d3v := d3w.only hO56 (by omega)
          have hl6 : V6.blocks.get (z + 1) = some ⟨bz, []⟩ := by rw [hO56.2 (z + 1) (by omega) (by omega)]; exact hl4
          obtain ⟨V7, f1, f2, f3, f4⟩ := var_store1 (t := 4) (v := .bool true) (o := 0) d3v inf4 is4 rfl rfl (by simp)
          have f4 : Var V7 (pa + 1) 4 [.bool true] := by simpa using f4
          try simp only [wpK_assoc]
          refine wpK_reg (fun R hR => by simp [h5, f1]; exact hR) ?_
          refine wpK_ret ?_
          simp only [leaves_ret]
          have own7 := own own6 f3 (fun b hb => .inr (.inr (.inl hb)))
          have hl7 : V7.blocks.get (z + 1) = some ⟨bz, []⟩ := by rw [f3.2 (z + 1) (by omega) (by omega)]; exact hl6
          subst hbz
          have hset := setObj_only V7 (z + 1)
          exact ⟨_, _, _, _, _, _, _, _, _, hl7, false, rfl, (fun h => by cases h), fun _ => ⟨own own7 (hset _) (fun b hb => .inr (.inl hb)), ⟨_, _, _, _, _, _, _, (by rw [setObj_get, if_pos rfl]; rfl)⟩, f4.only (hset _) (by omega), _, _, met3, (z4.only f3 (by omega)).only (hset _) (by omega), hFd⟩⟩
  · rintro _ W6 (⟨d1, d2, d3, d4, met1, d5, d6, d7⟩ | ⟨d1, ⟨_, _, _, _, _, _, _, d2⟩, d3, nx', pr', met', d4, d5⟩)
    · have hl6 := d2.trans hlp
      rw [hz] at hl6
      refine ⟨_, _, _, _, _, _, _, _, _, hl6, (fun h => by cases h), ?_⟩
      rw [← hz]
      show WpK T0 ⟨84, none⟩ _ _ _ _
      generalize hex : (AObj.loop LoopState.exhausted _ _ _ _ _ _ _ _) = ex
      obtain ⟨W7, hW7, hO7⟩ : ∃ W7, W7 = W6.setObj (z + 1) ex ∧ Only (fun b => b = z + 1) W6 W7 := ⟨_, rfl, setObj_only _ _ _⟩
      rw [← hW7]
      have own7 := own d1 hO7 (fun b hb => .inr (.inl hb))
      have d3w := d3.only hO7 (by omega)
      obtain ⟨W8, f1, f2, f3, f4⟩ := var_store1 (t := 4) (v := .bool false) (o := 0) d3w inf4 is4 rfl rfl (by simp)
      have f4 : Var W8 (pa + 1) 4 [.bool false] := by simpa using f4
      try simp only [wpK_assoc]
      refine wpK_reg (fun R hR => by simp [h5, f1]; exact hR) ?_
      have own8 := own own7 f3 (fun b hb => .inr (.inr (.inl hb)))
      rw [hS] at own8
      obtain ⟨u1, u2, u3, u4, u5⟩ := own8
      have hSz := setObj_only W8 z (.deferred none)
      have l8 := (f4.only hSz (by omega)).load1 (T := T0) und4 rfl (j := 0) (v := .bool false) rfl
      refine wpK_ret ⟨.inr rfl, W8.setObj z (.deferred none), ⟨z, by simp [hz], u4, rfl⟩, [.bool false], by simp [h5, l8], false, nx, pr, met1, rfl, ⟨by rw [setObj_next]; have := u2.1; omega, fun b hb hk => by rw [setObj_get, if_neg (by omega)]; exact u2.2 b hb (by omega)⟩, ((d5.only hO7 (by omega)).only f3 (by omega)).only hSz (by omega), fun _ => ⟨rfl, rfl, d6, fun c hc => d7 c hc (by simp)⟩, (fun h => by cases h)⟩
    · rw [hz] at d2
      refine ⟨_, _, _, _, _, _, _, _, _, d2, (fun h => by cases h), ?_⟩
      rw [← hz]
      generalize hex : (AObj.loop LoopState.exhausted _ _ _ _ _ _ _ _) = ex
      obtain ⟨W7, hW7, hO7⟩ : ∃ W7, W7 = W6.setObj (z + 1) ex ∧ Only (fun b => b = z + 1) W6 W7 := ⟨_, rfl, setObj_only _ _ _⟩
      rw [← hW7]
      have own7 := own d1 hO7 (fun b hb => .inr (.inl hb))
      have d3w := d3.only hO7 (by omega)
      have n7 := hO7.1
      rw [hS] at own7
      obtain ⟨u1, u2, u3, u4, u5⟩ := own7
      simp only [goOn, leaves_ret, behind_ret]
      have hSz := setObj_only W7 z (.deferred none)
      have l8 := (d3w.only hSz (by omega)).load1 (T := T0) und4 rfl (j := 0) (v := .bool true) rfl
      exact ⟨by simp, W7.setObj z (.deferred none), ⟨z, by simp [hz], u4, rfl⟩, [.bool true], by simp [h5, l8], true, nx', pr', met', rfl, ⟨by rw [setObj_next]; have := u2.1; omega, fun b hb hk => by rw [setObj_get, if_neg (by omega)]; exact u2.2 b hb (by omega)⟩, (d4.only hO7 (by omega)).only hSz (by omega), (fun h => by cases h), fun _ => d5⟩
theorem build125 : aBuild T0 125 [] = some (.agg ⟨lnkL (fun _ => 0) (fun _ => 0) 0⟩) := by kernel_rfl
theorem link_wp {W : AW} {o n : Nat} {g : Nat → Nat} {R : Nat → Nat → Bool} (h : OrdAt W o n g) (hn : n ≤ 40) (hR : Ord n R) (hg : ∀ a b, (g a).testBit b = R a b) (hT : tabsIn T0 T0.tabs W = true) (h0 : 0 < o) :
    WpF T0 72 [.pointer (some ⟨o, 0, none⟩)] W (fun v W' => Ext W W' ∧ ∃ l nx pr met, v = .pointer (some ⟨l, 0, none⟩) ∧ W.next ≤ l ∧ LinkAt W' l nx pr met ∧ LinkI n R nx pr met n) := by
  refine wpF fun72 rfl ?_
  have ho : o < W.next := h.1
  obtain ⟨c1, hc1⟩ : ∃ c, c = W.next := ⟨_, rfl⟩
  obtain ⟨W1, hW1, hE1, hV1, hn1⟩ : ∃ W1, W1 = W.newCells 119 [.pointer (some ⟨o, 0, none⟩)] ∧ Ext W W1 ∧ Var W1 c1 119 [.pointer (some ⟨o, 0, none⟩)] ∧ W1.next = W.next + 1 := ⟨_, rfl, .newCells _ _ _, by rw [hc1]; exact Var.new _ _ _, rfl⟩
  obtain ⟨l, hl⟩ : ∃ l, l = W1.next := ⟨_, rfl⟩
  obtain ⟨W2, hW2, hE2, hL2, hn2⟩ : ∃ W2, W2 = W1.newCells 125 (lnkL (fun _ => 0) (fun _ => 0) 0) ∧ Ext W1 W2 ∧ LinkAt W2 l (fun _ => 0) (fun _ => 0) 0 ∧ W2.next = W1.next + 1 := ⟨_, rfl, .newCells _ _ _, by rw [hl]; exact Var.new _ _ _, rfl⟩
  obtain ⟨W3, s1, s2, s3, s4⟩ := storeVar_new (T := T0) (W := W2) (t := 122) (z := [.pointer none]) (v := .pointer (some ⟨l, 0, none⟩)) inf122 (by rw [is122]; rfl) (by rw [is122]; rfl) rfl
  have s4 : Var W3 W2.next 122 [.pointer (some ⟨l, 0, none⟩)] := s4
  have n3 := s3.1
  rw [hl] at s1
  try simp only [wpK_assoc]
  refine wpK_reg (fun R hR => by simp [← hW1]; exact hR) ?_
  try simp only [wpK_assoc]
  refine wpK_reg (fun R hR => by simp [build125, ← hW2, zero122, s1]; exact hR) ?_
  obtain ⟨c2, hc2⟩ : ∃ c, c = W2.next := ⟨_, rfl⟩
  rw [← hc2] at s4
  have q1 := ((hV1.ext hE2).ext s3).load1 (T := T0) und119 rfl (j := 0) (v := .pointer (some ⟨o, 0, none⟩)) rfl
  have q2 := ord_n (((h.ext hE1).ext hE2).ext s3)
  rw [hc1] at q1
  try simp only [wpK_assoc]
  refine wpK_reg (fun R hR => by simp [q1, q2]; exact hR) ?_
  have hE03 : Ext W W3 := (hE1.trans hE2).trans s3
  have hL3 := hL2.ext s3
  refine wpK_keep (fun tm' => tm'.get 1 = some (.pointer (some ⟨c1, 0, none⟩)) ∧ tm'.get 3 = some (.pointer (some ⟨c2, 0, none⟩)) ∧ tm'.get 13 = some (.int .i64 (n : Int)) ∧ tm'.get 14 = some (.int .i64 0)) ⟨by simp [hc1, hc2], by simp [hc1, hc2], by simp [hc1, hc2], by simp [hc1, hc2]⟩ ?_
  rintro tm ⟨h1, h3, h13, h14⟩
  try simp only [wpK_assoc]
  refine wpK_while (I := fun q A' W' => A'.n = 49 ∧ A'.defers = [] ∧ A'.tmps.get 1 = some (.pointer (some ⟨c1, 0, none⟩)) ∧ A'.tmps.get 3 = some (.pointer (some ⟨c2, 0, none⟩)) ∧ A'.tmps.get 13 = some (.int .i64 (n : Int)) ∧ Only (fun b => b = l) W3 W' ∧ ∃ (i : Nat) (nx pr : Nat → Int), A'.tmps.get 14 = some (.int .i64 (i : Int)) ∧ q = n - i ∧ i ≤ n ∧ LinkAt W' l nx pr 0 ∧ (∀ x, x < i → nx x = -1) ∧ (∀ x, x < i → pr x = -1))
    (J := fun A' W' => A'.n = 49 ∧ A'.defers = [] ∧ A'.tmps.get 1 = some (.pointer (some ⟨c1, 0, none⟩)) ∧ A'.tmps.get 3 = some (.pointer (some ⟨c2, 0, none⟩)) ∧ A'.tmps.get 13 = some (.int .i64 (n : Int)) ∧ Only (fun b => b = l) W3 W' ∧ ∃ (nx pr : Nat → Int), LinkAt W' l nx pr 0 ∧ (∀ x, x < n → nx x = -1) ∧ (∀ x, x < n → pr x = -1)) (Rt := fun _ _ => False) (k := n) ?_ ?_ ?_ ?_
  · exact ⟨rfl, rfl, by simp [h1, h3, h13], by simp [h1, h3, h13], by simp [h1, h3, h13], .refl _ _, 0, _, _, by simp [h14], rfl, by omega, hL3, fun x hx => by omega, fun x hx => by omega⟩
  · rintro q ⟨tm, n, ds⟩ Wa ⟨hn, hd, h1, h3, h13, hOa, i, nx, pr, h14, hq, hil, hLa, hx1, hx2⟩ Q' hJ hRt hI
    simp only at hn hd h1 h3 h13
    subst hn; subst hd
    simp only at h14
    by_cases hlt : i < n
    case neg =>
      have hlt' : ¬ (i : Int) < n := by omega
      try simp only [wpK_assoc]
      refine wpK_reg (fun R hR => by simp [h13, h14, hlt']; exact hR) ?_
      try simp only [wpK_assoc]
      first | refine wpK_onF (by simp [hlt]) ?_ | refine wpK_out (by simp [hlt]) ?_ | refine wpK_condF (by simp [hlt]) ?_ | refine wpK_endF (by simp [hlt]) (wpK_skip ?_) | refine wpK_endF (by simp [hlt]) ?_
      exact hJ _ _ ⟨rfl, rfl, by simp [h1, h3, h13], by simp [h1, h3, h13], by simp [h1, h3, h13], hOa, nx, pr, hLa, fun x hx => hx1 x (by omega), fun x hx => hx2 x (by omega)⟩
    have hlt' : (i : Int) < n := by omega
    try simp only [wpK_assoc]
    refine wpK_reg (fun R hR => by simp [h13, h14, hlt']; exact hR) ?_
    try simp only [wpK_assoc]
    first | refine wpK_onT (by simp [hlt]) ?_ | refine wpK_outT (by simp [hlt]) ?_ | refine wpK_condT (by simp [hlt]) ?_ | refine wpK_endT (by simp [hlt]) ?_
    have q2 := (s4.only hOa (by omega)).load1 (T := T0) und122 rfl (j := 0) (v := .pointer (some ⟨l, 0, none⟩)) rfl
    obtain ⟨Wb, w1, w2, w3, w4⟩ := lnk_setNext hLa (j := i) (by omega) (-1)
    have q2b := ((s4.only hOa (by omega)).only w3 (by omega)).load1 (T := T0) und122 rfl (j := 0) (v := .pointer (some ⟨l, 0, none⟩)) rfl
    obtain ⟨Wc, x1, x2, x3, x4⟩ := lnk_setPrior w4 (j := i) (by omega) (-1)
    have nb := w3.1
    have ncc := x3.1
    have nbc := Nat.le_trans nb ncc
    have ia := ix94 l 0 i (by omega)
    have ik := ix94 l 40 i (by omega)
    rw [Nat.zero_add] at ia
    refine wpK_block ?_
    try simp only [wpK_assoc]
    refine wpK_reg (fun R hR => by simp [h14]; exact hR) ?_
    try simp only [wpK_assoc]
    refine wpK_qn (wr := Tr.nil |>.set 17 0 |>.set 18 1 |>.set 19 2 |>.set 20 3 |>.set 21 4 |>.set 22 5 |>.set 23 6 |>.set 24 8 |>.set 25 9 |>.set 26 10) (bits := Tr.nil.lay 0 [0, 0, 0, 0, 1, 17, 51, 115, 4, 260, 1023, 2047]) (ord := [0, 1, 2, 3, 4, 5, 6, 7, 8, 9, 10, 11]) (by kernel_rfl) (by kernel_rfl) (by kernel_rfl) (fun G hG => by
      simp [h3, h14, q2, q2b, ia, ik, w1, x1, nb, ncc, nbc]
      exact hG) ?_
    simp only [leaves_normal, behind_normal]
    try simp only [wpK_assoc]
    refine wpK_reg1 (fun R hR => by simp [h14]; exact hR) ?_
    refine hI (n - (i + 1)) _ _ (by omega) ⟨rfl, rfl, by simp [h1, h3, h13], by simp [h1, h3, h13], by simp [h1, h3, h13], (hOa.trans w3).trans x3, i + 1, _, _, by simp [i64_succ i (by omega)], rfl, by omega, x4, fun x hx => ?_, fun x hx => ?_⟩
    · by_cases e : x = i
      · subst e; exact updI_eq _ _ _
      · rw [updI_ne _ _ e]; exact hx1 x (by omega)
    · by_cases e : x = i
      · subst e; exact updI_eq _ _ _
      · rw [updI_ne _ _ e]; exact hx2 x (by omega)
  · rintro A' W' hf; exact hf.elim
  rintro ⟨tm, n, ds⟩ W4 ⟨hn, hd, h1, h3, h13, hO4, nx0, pr0, hL4, hx1, hx2⟩
  simp only at hn hd h1 h3 h13
  subst hn; subst hd
  have n4 := hO4.1
  -- the search stands
  obtain ⟨c3, hc3⟩ : ∃ c, c = W4.next := ⟨_, rfl⟩
  obtain ⟨W5, hW5, hE5, hV5, hn5⟩ : ∃ W5, W5 = W4.newCells 109 [.nilFunc] ∧ Ext W4 W5 ∧ Var W5 c3 109 [.nilFunc] ∧ W5.next = W4.next + 1 := ⟨_, rfl, .newCells _ _ _, by rw [hc3]; exact Var.new _ _ _, rfl⟩
  try simp only [wpK_assoc]
  refine wpK_reg (fun R hR => by simp [zero109, ← hW5]; exact hR) ?_
  obtain ⟨fv, hfv⟩ : ∃ fv, fv = Value.func (.func 84) ⟨[]⟩ ⟨[.pointer (some ⟨c1, 0, none⟩), .pointer (some ⟨c2, 0, none⟩), .pointer (some ⟨c3, 0, none⟩)]⟩ := ⟨_, rfl⟩
  obtain ⟨W6, x1, x2, x3, x4⟩ := var_store1 (t := 109) (v := fv) (o := 0) hV5 inf109 is109 (by rw [hfv]; rfl) (by rw [hfv]; rfl) (by simp)
  have x4 : Var W6 c3 109 [fv] := by simpa using x4
  have n6 := x3.1
  have hfv' := hfv
  rw [hc3] at hfv' x1
  try simp only [wpK_assoc]
  refine wpK_reg (fun R hR => by simp [h1, h3, opMakeFunc, ← hfv', x1]; exact hR) ?_
  have hV16 := (((hV1.ext hE2).ext s3).only hO4 (by omega)).ext hE5 |>.only x3 (by omega)
  have q1 := hV16.load1 (T := T0) und119 rfl (j := 0) (v := .pointer (some ⟨o, 0, none⟩)) rfl
  have hO6 := ((((h.ext hE1).ext hE2).ext s3).only hO4 (by omega)).ext hE5 |>.only x3 (by omega)
  have q2 := ord_n hO6
  have hL6 := (hL4.ext hE5).only x3 (by omega)
  have hV26 := ((s4.only hO4 (by omega)).ext hE5).only x3 (by omega)
  try simp only [wpK_assoc]
  refine wpK_reg (fun R hR => by simp [h1, q1, q2]; exact hR) ?_
  have hE06 : Ext W W6 := ⟨by have := hE03.1; omega, fun b hb hk => by rw [x3.2 b (by have := hE03.1; omega) (by have := hE03.1; omega), hE5.2 b (by have := hE03.1; omega) hk, hO4.2 b (by have := hE03.1; omega) (by omega), hE03.2 b hb hk]⟩
  have hCap : Cap W6 o l c1 c2 c3 n g := ⟨hV16.has rfl, hV26.has rfl, by rw [← hfv]; exact x4.has rfl, hO6⟩
  refine wpK_keep (fun tm' => tm'.get 3 = some (.pointer (some ⟨c2, 0, none⟩)) ∧ tm'.get 5 = some (.pointer (some ⟨c3, 0, none⟩)) ∧ tm'.get 32 = some (.int .i64 (n : Int)) ∧ tm'.get 33 = some (.int .i64 0)) ⟨by simp [h3, hc3], by simp [h3, hc3], by simp [h3, hc3], by simp [h3, hc3]⟩ ?_
  rintro tm ⟨h3, h5, h32, h33⟩
  have hcapn : ∀ {V}, Only (fun b => b = l) W6 V → Cap V o l c1 c2 c3 n g := fun {V} hV => hCap.only hV (fun b hb => by omega)
  try simp only [wpK_assoc]
  refine wpK_while (I := fun q A' W' => A'.n = 49 ∧ A'.defers = [] ∧ A'.tmps.get 3 = some (.pointer (some ⟨c2, 0, none⟩)) ∧ A'.tmps.get 5 = some (.pointer (some ⟨c3, 0, none⟩)) ∧ A'.tmps.get 32 = some (.int .i64 (n : Int)) ∧ Only (fun b => b = l) W6 W' ∧ ∃ (i met : Nat) (nx pr : Nat → Int), A'.tmps.get 33 = some (.int .i64 (i : Int)) ∧ q = n - i ∧ i ≤ n ∧ LinkAt W' l nx pr met ∧ LinkI n R nx pr met i)
    (J := fun A' W' => A'.n = 49 ∧ A'.defers = [] ∧ A'.tmps.get 3 = some (.pointer (some ⟨c2, 0, none⟩)) ∧ A'.tmps.get 5 = some (.pointer (some ⟨c3, 0, none⟩)) ∧ A'.tmps.get 32 = some (.int .i64 (n : Int)) ∧ Only (fun b => b = l) W6 W' ∧ ∃ (met : Nat) (nx pr : Nat → Int), LinkAt W' l nx pr met ∧ LinkI n R nx pr met n) (Rt := fun _ _ => False) (k := n) ?_ ?_ ?_ ?_
  · exact ⟨rfl, rfl, by simp [h3, h5, h32], by simp [h3, h5, h32], by simp [h3, h5, h32], .refl _ _, 0, 0, nx0, pr0, by simp [h33], rfl, by omega, hL6, .start n R hx1 hx2⟩
  · rintro q ⟨tm, n, ds⟩ Wa ⟨hn, hd, h3, h5, h32, hOa, i, met, nx, pr, h33, hq, hil, hLa, hLi⟩ Q' hJ hRt hI
    simp only at hn hd h3 h5 h32
    subst hn; subst hd
    simp only at h33
    by_cases hlt : i < n
    case neg =>
      have hlt' : ¬ (i : Int) < n := by omega
      have e : i = n := by omega
      rw [e] at hLi
      try simp only [wpK_assoc]
      refine wpK_reg (fun R hR => by simp [h32, h33, hlt']; exact hR) ?_
      try simp only [wpK_assoc]
      first | refine wpK_onF (by simp [hlt]) ?_ | refine wpK_out (by simp [hlt]) ?_ | refine wpK_condF (by simp [hlt]) ?_ | refine wpK_endF (by simp [hlt]) (wpK_skip ?_) | refine wpK_endF (by simp [hlt]) ?_
      exact hJ _ _ ⟨rfl, rfl, by simp [h3, h5, h32], by simp [h3, h5, h32], by simp [h3, h5, h32], hOa, met, nx, pr, hLa, hLi⟩
    have hlt' : (i : Int) < n := by omega
    try simp only [wpK_assoc]
    refine wpK_reg (fun R hR => by simp [h32, h33, hlt']; exact hR) ?_
    try simp only [wpK_assoc]
    first | refine wpK_onT (by simp [hlt]) ?_ | refine wpK_outT (by simp [hlt]) ?_ | refine wpK_condT (by simp [hlt]) ?_ | refine wpK_endT (by simp [hlt]) ?_
    have hCa := hcapn hOa
    have q2 := load_of und122 rfl hCa.h2
    have q3 := load_of und109' agg109 hCa.h3
    have lm := lnk_met hLa
    have nwa := hOa.1
    have hTa : tabsIn T0 T0.tabs Wa = true := tabs_only (tabs_ext hT (by omega) hE06) (by have := hE06.1; omega) hOa (by omega)
    refine wpK_block ?_
    try simp only [wpK_assoc]
    refine wpK_reg (fun R hR => by simp [h33]; exact hR) ?_
    try simp only [wpK_assoc]
    refine wpK_reg (fun R hR => by simp [h3, q2, lm]; exact hR) ?_
    have hfo := follow_wp hn hR hg (show l ≠ o by omega) (show l ≠ c1 by omega) (show l ≠ c2 by omega) (show l ≠ c3 by omega) (by omega) 1099511627776 (by omega) (hLi.fol hlt) hlt (fun b hb => (hLi.vain hb).1) hLa hCa hTa
    try simp only [wpK_assoc]
    refine wpK_x4 (P := fun (b : Bool) nx' pr' met' W' => Only (fun x => x = l) Wa W' ∧ LinkAt W' l nx' pr' met' ∧
      (b = false → nx' = nx ∧ pr' = pr ∧ Vain n R pr met met' ∧ ∀ c, R i c = true → met'.testBit c = true) ∧ (b = true → Found n R nx pr nx' pr' met i)) (fun R9 hR9 => by
      simp [h5, q3, aEnter, fun84, short_other, aCallV]; rw [callS_none]
      refine hfo.mono ?_
      rintro _ W9 ⟨b, nx', pr', met', rfl, f1, f2, f3, f4⟩
      simp; exact hR9 b nx' pr' met' W9 (And.intro f1 (And.intro f2 (And.intro f3 f4)))) ?_
    rintro b nx' pr' met' W9 ⟨f1, f2, f3, f4⟩
    cases b with
    | false =>
      obtain ⟨e1, e2, e3, e4⟩ := f3 rfl
      subst e1; subst e2
      try simp only [wpK_assoc]
      first | refine wpK_onF (by simp []) ?_ | refine wpK_out (by simp []) ?_ | refine wpK_condF (by simp []) ?_ | refine wpK_endF (by simp []) (wpK_skip ?_) | refine wpK_endF (by simp []) ?_
      simp only [leaves_normal, behind_normal]
      try simp only [wpK_assoc]
      refine wpK_reg1 (fun R hR => by simp [h33]; exact hR) ?_
      exact hI (n - (i + 1)) _ _ (by omega) ⟨rfl, rfl, by simp [h3, h5, h32], by simp [h3, h5, h32], by simp [h3, h5, h32], hOa.trans f1, i + 1, met', _, _, by simp [i64_succ i (by omega)], rfl, by omega, f2, hLi.no e3 e4⟩
    | true =>
      have hF := f4 rfl
      try simp only [wpK_assoc]
      first | refine wpK_onT (by simp []) ?_ | refine wpK_outT (by simp []) ?_ | refine wpK_condT (by simp []) ?_ | refine wpK_endT (by simp []) ?_
      obtain ⟨W10, g1, g2, g3, g4⟩ := lnk_setMet f2 met
      have q29 := load_of und122 rfl (hcapn (hOa.trans f1)).h2
      try simp only [wpK_assoc]
      refine wpK_reg1 (fun R hR => by simp [h3, q29, g1]; exact hR) ?_
      simp only [leaves_normal, behind_normal]
      try simp only [wpK_assoc]
      refine wpK_reg1 (fun R hR => by simp [h33]; exact hR) ?_
      exact hI (n - (i + 1)) _ _ (by omega) ⟨rfl, rfl, by simp [h3, h5, h32], by simp [h3, h5, h32], by simp [h3, h5, h32], (hOa.trans f1).trans g3, i + 1, met, _, _, by simp [i64_succ i (by omega)], rfl, by omega, g4, hLi.yes hlt hF⟩
  · rintro A' W' hf; exact hf.elim
  rintro ⟨tm, n, ds⟩ W7 ⟨hn, hd, h3, h5, h32, hO7, met, nx, pr, hL7, hLi⟩
  simp only at hn hd h3 h5 h32
  subst hn; subst hd
  have q2 := load_of und122 rfl (hcapn hO7).h2
  try simp only [wpK_assoc]
  refine wpK_reg (fun R hR => by simp [h3, q2]; exact hR) ?_
  exact wpK_ret ⟨.inr rfl, rfl, [.pointer (some ⟨l, 0, none⟩)], by simp, ⟨by have := hE06.1; have := hO7.1; omega, fun b hb hk => by rw [hO7.2 b (by have := hE06.1; omega) (by omega), hE06.2 b hb hk]⟩, l, nx, pr, met, rfl, by omega, hL7, hLi⟩
theorem ints_at {W : AW} {v : Value} {ls : List Nat} (h : IntR W v (ls.map Int.ofNat)) {i : Nat} (hi : i < ls.length) : ∃ b p, aIndexAddr T0 31 v (.int .i64 (i : Int)) = some (.pointer (some ⟨b, p, none⟩)) ∧ aLoadVar T0 W 3 b p = some (.int .i64 ((ls.getD i 0 : Nat) : Int)) := by
  obtain ⟨b, p, h1, h2, h3⟩ := h.int1 (T := T0) (i := i) (x := ((ls.getD i 0 : Nat) : Int)) (by rw [List.getElem?_map, List.getD_eq_getElem?_getD, List.getElem?_eq_getElem hi]; rfl) und31 sz3 und3 rfl
  exact ⟨b, p, h1, h3⟩
def AntiL (n : Nat) (R : Nat → Nat → Bool) (ls : List Nat) : Prop := ∀ i, i < ls.length → ls.getD i 0 < n ∧ (0 < i → ls.getD (i - 1) 0 < ls.getD i 0) ∧ ∀ k, k < i → R (ls.getD i 0) (ls.getD k 0) = false ∧ R (ls.getD k 0) (ls.getD i 0) = false
theorem gd_mem {ls : List Nat} {i : Nat} (h : i < ls.length) : ls.getD i 0 ∈ ls := by
  rw [List.getD_eq_getElem?_getD, List.getElem?_eq_getElem h]; exact List.getElem_mem h
theorem gd_get {ls : List Nat} {i : Nat} (h : i < ls.length) : ls.getD i 0 = ls[i] := by
  rw [List.getD_eq_getElem?_getD, List.getElem?_eq_getElem h]; rfl
theorem antiL_of {n : Nat} {R : Nat → Nat → Bool} {ls : List Nat} (h1 : ls.Pairwise (· < ·)) (h2 : ∀ x ∈ ls, x < n) (h3 : ∀ x ∈ ls, ∀ y ∈ ls, R x y = false) : AntiL n R ls := fun i hi =>
  ⟨h2 _ (gd_mem hi), fun h0 => by
    have := List.pairwise_iff_getElem.1 h1 (i - 1) i (by omega) hi (by omega)
    rw [gd_get hi, gd_get (show i - 1 < ls.length by omega)]; exact this,
   fun k hk => ⟨h3 _ (gd_mem hi) _ (gd_mem (by omega)), h3 _ (gd_mem (by omega)) _ (gd_mem hi)⟩⟩
theorem refIsAnti_wp {W : AW} {v u : Value} {n : Nat} {r : Nat → Nat → Bool} {K : Nat → Prop} {ls : List Nat} (h : BMat W v n r K) (hn : n ≤ 40) (hu : IntR W u (ls.map Int.ofNat)) (hA : AntiL n r ls) (hll : ls.length ≤ 100000) :
    WpF T0 49 [v, u] W (fun x W' => W' = W ∧ x = .bool true) := by
  refine wpF fun49 rfl ?_
  obtain ⟨m, f, hv, hM, -, -⟩ := h
  subst hv
  obtain ⟨Au, cu, huE⟩ := hu.len
  rw [List.length_map] at huE
  have ll : ∀ W', aLen T0 W' 75 (rowV m n) = some (.int .i64 n) := fun W' => len_slice und75 _ _ _
  have lu : ∀ W', aLen T0 W' 31 u = some (.int .i64 ls.length) := fun W' => by rw [huE]; exact len_slice und31 _ _ _
  have vu : valEq u u = true := row_eq hu
  clear huE
  have hmv : ∀ {i j : Nat}, i < n → j < n → aIndexAddr T0 75 (rowV m n) (.int .i64 (i : Int)) = some (.pointer (some ⟨m, i, none⟩)) ∧ aLoadVar T0 W 46 m i = some (rowV (f i) n) ∧ aIndexAddr T0 46 (rowV (f i) n) (.int .i64 (j : Int)) = some (.pointer (some ⟨f i, j, none⟩)) ∧ aLoadVar T0 W 4 (f i) j = some (.bool (r i j)) := fun {i j} hi hj => by
    obtain ⟨a1, a2⟩ := hM.at hi (Nat.le_refl _)
    exact ⟨a1, a2, row_ix hj, hM.cell hi hj⟩
  have vmv : valEq (rowV m n) (rowV m n) = true := rowV_eq _ _
  obtain ⟨mv, hmvE⟩ : ∃ mv, mv = rowV m n := ⟨_, rfl⟩
  rw [← hmvE] at ll hmv vmv ⊢
  clear hmvE
  try simp only [wpK_assoc]
  refine wpK_reg (fun R hR => by simp []; exact hR) ?_
  try simp only [wpK_assoc]
  refine wpK_reg (fun R hR => by simp []; exact hR) ?_
  refine wpK_keep (fun tm' => tm'.get 0 = some (mv) ∧ tm'.get 1 = some (u) ∧ tm'.get 5 = some (.int .i64 0)) ⟨by simp, by simp, by simp⟩ ?_
  rintro tm ⟨h0, h1, h5⟩
  try simp only [wpK_assoc]
  refine wpK_while (I := fun q A' W' => A'.n = 76 ∧ A'.defers = [] ∧ A'.tmps.get 0 = some (mv) ∧ A'.tmps.get 1 = some (u) ∧ W' = W ∧ ∃ (i : Nat), A'.tmps.get 5 = some (.int .i64 (i : Int)) ∧ q = ls.length - i ∧ i ≤ ls.length)
    (J := fun A' W' => A'.n = 76 ∧ A'.defers = [] ∧ A'.tmps.get 0 = some (mv) ∧ A'.tmps.get 1 = some (u) ∧ W' = W) (Rt := fun _ _ => False) (k := ls.length) ?_ ?_ ?_ ?_
  · exact ⟨rfl, rfl, by simp [h0, h1], by simp [h0, h1], rfl, 0, by simp [h5], rfl, by omega⟩
  · rintro q ⟨tm, n, ds⟩ Wa ⟨hn, hd, h0, h1, hWa, i, h5, hq, hil⟩ Q' hJ hRt hI
    simp only at hn hd h0 h1
    subst hn; subst hd
    subst hWa
    simp only at h5
    by_cases hlt : i < ls.length
    case neg =>
      have hlt' : ¬ (i : Int) < ls.length := by omega
      try simp only [wpK_assoc]
      refine wpK_reg (fun R hR => by simp [h1, h5, lu, hlt']; exact hR) ?_
      try simp only [wpK_assoc]
      first | refine wpK_onF (by simp [hlt]) ?_ | refine wpK_out (by simp [hlt]) ?_ | refine wpK_condF (by simp [hlt]) ?_ | refine wpK_endF (by simp [hlt]) (wpK_skip ?_) | refine wpK_endF (by simp [hlt]) ?_
      exact hJ _ _ ⟨rfl, rfl, by simp [h0, h1], by simp [h0, h1], rfl⟩
    have hlt' : (i : Int) < ls.length := by omega
    try simp only [wpK_assoc]
    refine wpK_reg (fun R hR => by simp [h1, h5, lu, hlt']; exact hR) ?_
    try simp only [wpK_assoc]
    first | refine wpK_onT (by simp [hlt]) ?_ | refine wpK_outT (by simp [hlt]) ?_ | refine wpK_condT (by simp [hlt]) ?_ | refine wpK_endT (by simp [hlt]) ?_
    obtain ⟨a1, a2, a3⟩ := hA i hlt
    obtain ⟨b, p, x1, x2⟩ := ints_at hu hlt
    have hy1 : ¬ ((ls.getD i 0 : Nat) : Int) < 0 := by omega
    have hy2 : ¬ ((n : Nat) : Int) ≤ ((ls.getD i 0 : Nat) : Int) := by omega
    have hy3 : ¬ n ≤ ls.getD i 0 := by omega
    refine wpK_block ?_
    obtain ⟨yi, hyi⟩ : ∃ y, y = ls.getD i 0 := ⟨_, rfl⟩
    rw [← hyi] at x2 hy1 hy2 hy3
    by_cases hi0 : i = 0
    · have hi0' : ¬ (0 : Int) < (i : Int) := by omega
      have hi0'' : ¬ 0 < i := by omega
      try simp only [wpK_assoc]
      refine wpK_dn (wr := Tr.nil |>.set 13 0 |>.set 14 1 |>.set 15 2 |>.set 16 3 |>.set 17 4 |>.set 18 5 |>.set 19 6 |>.set 20 7 |>.set 21 8 |>.set 22 9 |>.set 23 10 |>.set 24 11 |>.set 25 12 |>.set 26 13 |>.set 27 14 |>.set 28 15 |>.set 29 16 |>.set 30 17 |>.set 31 18 |>.set 32 19 |>.set 33 20 |>.set 34 21 |>.set 35 22 |>.set 36 23 |>.set 37 24 |>.set 38 25 |>.set 39 26 |>.set 40 27 |>.set 41 28 |>.set 42 29) (bits := Tr.nil.lay 0 [0, 0, 3, 7, 15, 31, 63, 63, 255, 511, 63, 1087, 4095, 8191, 16383, 32767, 65535, 131071, 262143, 262143, 786431, 2097151, 4194303, 262143, 262143, 25427967, 58982399, 134217727, 268435455, 536870911]) (ord := [0, 1, 2, 3, 4, 5, 6, 7, 8, 9, 10, 11, 12, 13, 14, 15, 16, 17, 18, 19, 20, 21, 22, 23, 24, 25, 26, 27, 28, 29]) (by kernel_rfl) (by kernel_rfl) (by kernel_rfl) (fun G hG => by
        simp [h0, h1, h5, x1, x2, hy1, hy2, hy3, ll, hi0', hi0'', undef, vu, vmv]
        exact hG) ?_
      try simp only [wpK_assoc]
      first | refine wpK_onF (by simp []) ?_ | refine wpK_out (by simp []) ?_ | refine wpK_condF (by simp []) ?_ | refine wpK_endF (by simp []) (wpK_skip ?_) | refine wpK_endF (by simp []) ?_
      try simp only [wpK_assoc]
      refine wpK_reg (fun R hR => by simp []; exact hR) ?_
      refine wpK_keep (fun tm' => tm'.get 0 = some (mv) ∧ tm'.get 1 = some (u) ∧ tm'.get 5 = some (.int .i64 (i : Int)) ∧ tm'.get 6 = some (.int .i64 0)) ⟨by simp [h0, h1, h5], by simp [h0, h1, h5], by simp [h0, h1, h5], by simp [h0, h1, h5]⟩ ?_
      rintro tm ⟨h0, h1, h5, h6⟩
      try simp only [wpK_assoc]
      refine wpK_while1 (I := fun q A' W' => A'.n = 76 ∧ A'.defers = [] ∧ A'.tmps.get 0 = some (mv) ∧ A'.tmps.get 1 = some (u) ∧ A'.tmps.get 5 = some (.int .i64 (i : Int)) ∧ W' = Wa ∧ A'.tmps.get 6 = some (.int .i64 0)) (J := fun A' W' => A'.n = 76 ∧ A'.defers = [] ∧ A'.tmps.get 0 = some (mv) ∧ A'.tmps.get 1 = some (u) ∧ A'.tmps.get 5 = some (.int .i64 (i : Int)) ∧ W' = Wa) (Rt := fun _ _ => False) (k := 0) ?_ ?_ ?_ ?_
      · exact ⟨rfl, rfl, by simp [h0, h1, h5], by simp [h0, h1, h5], by simp [h0, h1, h5], rfl, by simp [h6]⟩
      · rintro q2 ⟨tm, n, ds⟩ Wb ⟨hn, hd, h0, h1, h5, hWb, h6⟩ Q3 hJ3 hRt3 hI3
        simp only at hn hd h0 h1 h5
        subst hn; subst hd
        subst hWb
        simp only at h6
        try simp only [wpK_assoc]
        refine wpK_reg (fun R hR => by simp [h5, h6, hi0', hi0'']; exact hR) ?_
        try simp only [wpK_assoc]
        first | refine wpK_onF (by simp [hi0', hi0'']) ?_ | refine wpK_out (by simp [hi0', hi0'']) ?_ | refine wpK_condF (by simp [hi0', hi0'']) ?_ | refine wpK_endF (by simp [hi0', hi0'']) (wpK_skip ?_) | refine wpK_endF (by simp [hi0', hi0'']) ?_
        exact hJ3 _ _ ⟨rfl, rfl, by simp [h0, h1, h5], by simp [h0, h1, h5], by simp [h0, h1, h5], rfl⟩
      · rintro A' W' hf; exact hf.elim
      · rintro ⟨tm, n, ds⟩ Wb ⟨hn, hd, h0, h1, h5, hWb⟩
        simp only at hn hd h0 h1 h5
        subst hn; subst hd
        subst hWb
        simp only [leaves_normal, behind_normal]
        try simp only [wpK_assoc]
        refine wpK_reg1 (fun R hR => by simp [h5]; exact hR) ?_
        exact hI (ls.length - (i + 1)) _ _ (by omega) ⟨rfl, rfl, by simp [h0, h1], by simp [h0, h1], rfl, i + 1, by simp [i64_succ i (by omega)], rfl, by omega⟩
    · have hi0' : (0 : Int) < (i : Int) := by omega
      have hi0'' : 0 < i := by omega
      obtain ⟨b', p', x3, x4⟩ := ints_at hu (i := i - 1) (by omega)
      have hw1 : IntKind.i64.wrap ((i : Int) - 1) = ((i - 1 : Nat) : Int) := by rw [i64_in (by omega)]; omega
      have hlt2 := a2 hi0''
      have hy4 : ¬ ((ls.getD i 0 : Nat) : Int) ≤ ((ls.getD (i - 1) 0 : Nat) : Int) := by omega
      have hy5 : ¬ ls.getD i 0 ≤ ls.getD (i - 1) 0 := by omega
      obtain ⟨yj, hyj⟩ : ∃ y, y = ls.getD (i - 1) 0 := ⟨_, rfl⟩
      rw [← hyi] at hy4 hy5
      rw [← hyj] at x4 hy4 hy5
      try simp only [wpK_assoc]
      refine wpK_dn (wr := Tr.nil |>.set 13 0 |>.set 14 1 |>.set 15 2 |>.set 16 3 |>.set 17 4 |>.set 18 5 |>.set 19 6 |>.set 20 7 |>.set 21 8 |>.set 22 9 |>.set 23 10 |>.set 24 11 |>.set 25 12 |>.set 26 13 |>.set 27 14 |>.set 28 15 |>.set 29 16 |>.set 30 17 |>.set 31 18 |>.set 32 19 |>.set 33 20 |>.set 34 21 |>.set 35 22 |>.set 36 23 |>.set 37 24 |>.set 38 25 |>.set 39 26 |>.set 40 27 |>.set 41 28 |>.set 42 29) (bits := Tr.nil.lay 0 [0, 0, 3, 7, 15, 31, 63, 63, 255, 511, 63, 1087, 4095, 8191, 16383, 32767, 65535, 131071, 262143, 262143, 786431, 2097151, 4194303, 262143, 262143, 25427967, 58982399, 134217727, 268435455, 536870911]) (ord := [0, 1, 2, 3, 4, 5, 6, 7, 8, 9, 10, 11, 12, 13, 14, 15, 16, 17, 18, 19, 20, 21, 22, 23, 24, 25, 26, 27, 28, 29]) (by kernel_rfl) (by kernel_rfl) (by kernel_rfl) (fun G hG => by
        simp [h0, h1, h5, x1, x2, x3, x4, hw1, hy1, hy2, hy3, hy4, hy5, ll, hi0', hi0'', undef, vu, vmv]
        exact hG) ?_
      try simp only [wpK_assoc]
      first | refine wpK_onF (by simp []) ?_ | refine wpK_out (by simp []) ?_ | refine wpK_condF (by simp []) ?_ | refine wpK_endF (by simp []) (wpK_skip ?_) | refine wpK_endF (by simp []) ?_
      try simp only [wpK_assoc]
      refine wpK_reg (fun R hR => by simp []; exact hR) ?_
      refine wpK_keep (fun tm' => tm'.get 0 = some (mv) ∧ tm'.get 1 = some (u) ∧ tm'.get 5 = some (.int .i64 (i : Int)) ∧ tm'.get 6 = some (.int .i64 0)) ⟨by simp [h0, h1, h5], by simp [h0, h1, h5], by simp [h0, h1, h5], by simp [h0, h1, h5]⟩ ?_
      rintro tm ⟨h0, h1, h5, h6⟩
      try simp only [wpK_assoc]
      refine wpK_while1 (I := fun q A' W' => A'.n = 76 ∧ A'.defers = [] ∧ A'.tmps.get 0 = some (mv) ∧ A'.tmps.get 1 = some (u) ∧ A'.tmps.get 5 = some (.int .i64 (i : Int)) ∧ W' = Wa ∧ ∃ (k : Nat), A'.tmps.get 6 = some (.int .i64 (k : Int)) ∧ q = i - k ∧ k ≤ i) (J := fun A' W' => A'.n = 76 ∧ A'.defers = [] ∧ A'.tmps.get 0 = some (mv) ∧ A'.tmps.get 1 = some (u) ∧ A'.tmps.get 5 = some (.int .i64 (i : Int)) ∧ W' = Wa) (Rt := fun _ _ => False) (k := i) ?_ ?_ ?_ ?_
      · exact ⟨rfl, rfl, by simp [h0, h1, h5], by simp [h0, h1, h5], by simp [h0, h1, h5], rfl, 0, by simp [h6], rfl, by omega⟩
      · rintro q2 ⟨tm, n, ds⟩ Wb ⟨hn, hd, h0, h1, h5, hWb, k, h6, hq2, hkl⟩ Q3 hJ3 hRt3 hI3
        simp only at hn hd h0 h1 h5
        subst hn; subst hd
        subst hWb
        simp only at h6
        by_cases hkt : k < i
        case neg =>
          have hkt' : ¬ (k : Int) < (i : Int) := by omega
          try simp only [wpK_assoc]
          refine wpK_reg (fun R hR => by simp [h5, h6, hkt']; exact hR) ?_
          try simp only [wpK_assoc]
          first | refine wpK_onF (by simp [hkt]) ?_ | refine wpK_out (by simp [hkt]) ?_ | refine wpK_condF (by simp [hkt]) ?_ | refine wpK_endF (by simp [hkt]) (wpK_skip ?_) | refine wpK_endF (by simp [hkt]) ?_
          exact hJ3 _ _ ⟨rfl, rfl, by simp [h0, h1, h5], by simp [h0, h1, h5], by simp [h0, h1, h5], rfl⟩
        have hkt' : (k : Int) < (i : Int) := by omega
        try simp only [wpK_assoc]
        refine wpK_reg (fun R hR => by simp [h5, h6, hkt']; exact hR) ?_
        try simp only [wpK_assoc]
        first | refine wpK_onT (by simp [hkt]) ?_ | refine wpK_outT (by simp [hkt]) ?_ | refine wpK_condT (by simp [hkt]) ?_ | refine wpK_endT (by simp [hkt]) ?_
        obtain ⟨b'', p'', x5, x6⟩ := ints_at hu (i := k) (by omega)
        obtain ⟨n1, n2⟩ := a3 k hkt
        obtain ⟨y1, y2, y3, y4⟩ := hmv a1 (hA k (by omega)).1
        obtain ⟨z1, z2, z3, z4⟩ := hmv (hA k (by omega)).1 a1
        rw [n1] at y4; rw [n2] at z4
        rw [← hyi] at y1 y2 y3 y4 z3 z4
        obtain ⟨yk, hyk⟩ : ∃ y, y = ls.getD k 0 := ⟨_, rfl⟩
        rw [← hyk] at x6 y3 y4 z1 z2 z3 z4
        refine wpK_block ?_
        try simp only [wpK_assoc]
        refine wpK_dn (wr := Tr.nil |>.set 48 0 |>.set 49 1 |>.set 50 2 |>.set 51 3 |>.set 52 4 |>.set 53 5 |>.set 54 6 |>.set 55 7 |>.set 56 8 |>.set 57 9 |>.set 58 10 |>.set 59 11 |>.set 60 12 |>.set 61 13 |>.set 62 14 |>.set 63 15 |>.set 64 16 |>.set 65 17 |>.set 66 18 |>.set 67 19 |>.set 68 20 |>.set 69 21 |>.set 70 22 |>.set 71 23 |>.set 72 24 |>.set 73 25 |>.set 74 26 |>.set 75 27) (bits := Tr.nil.lay 0 [0, 0, 0, 6, 14, 31, 63, 0, 0, 384, 896, 2047, 4095, 8191, 16383, 16383, 16383, 114687, 245759, 524287, 1048575, 16383, 16383, 6307839, 14696447, 33554431, 67108863, 134217727]) (ord := [0, 1, 2, 3, 4, 5, 6, 7, 8, 9, 10, 11, 12, 13, 14, 15, 16, 17, 18, 19, 20, 21, 22, 23, 24, 25, 26, 27]) (by kernel_rfl) (by kernel_rfl) (by kernel_rfl) (fun G hG => by
          simp [h0, h1, h5, h6, x1, x2, x5, x6, y1, y2, y3, y4, z1, z2, z3, z4, undef, vu, vmv, rowV_eq]
          exact hG) ?_
        try simp only [wpK_assoc]
        first | refine wpK_onF (by simp []) ?_ | refine wpK_out (by simp []) ?_ | refine wpK_condF (by simp []) ?_ | refine wpK_endF (by simp []) (wpK_skip ?_) | refine wpK_endF (by simp []) ?_
        simp only [leaves_normal, behind_normal]
        try simp only [wpK_assoc]
        refine wpK_reg1 (fun R hR => by simp [h6]; exact hR) ?_
        exact hI3 (i - (k + 1)) _ _ (by omega) ⟨rfl, rfl, by simp [h0, h1, h5], by simp [h0, h1, h5], by simp [h0, h1, h5], rfl, k + 1, by simp [i64_succ k (by omega)], rfl, by omega⟩
      · rintro A' W' hf; exact hf.elim
      · rintro ⟨tm, n, ds⟩ Wb ⟨hn, hd, h0, h1, h5, hWb⟩
        simp only at hn hd h0 h1 h5
        subst hn; subst hd
        subst hWb
        simp only [leaves_normal, behind_normal]
        try simp only [wpK_assoc]
        refine wpK_reg1 (fun R hR => by simp [h5]; exact hR) ?_
        exact hI (ls.length - (i + 1)) _ _ (by omega) ⟨rfl, rfl, by simp [h0, h1], by simp [h0, h1], rfl, i + 1, by simp [i64_succ i (by omega)], rfl, by omega⟩
  · rintro A' W' hf; exact hf.elim
  rintro ⟨tm, n, ds⟩ W5 ⟨hn, hd, h0, h1, hW5⟩
  simp only at hn hd h0 h1
  subst hn; subst hd
  subst hW5
  try simp only [wpK_assoc]
  refine wpK_reg (fun R hR => by simp []; exact hR) ?_
  exact wpK_ret ⟨.inr rfl, rfl, [.bool true], by simp, rfl, rfl⟩
def inA (nx : Nat → Int) (met x : Nat) : Bool := !met.testBit x && (decide (nx x = -1) || met.testBit (nx x).toNat)
def antiS (n : Nat) (nx : Nat → Int) (met : Nat) : List Nat := (List.range n).filter (inA nx met)
def headS (n : Nat) (pr : Nat → Int) : List Nat := (List.range n).filter fun x => decide (pr x = -1)
theorem LinkI.next_met {n : Nat} {R : Nat → Nat → Bool} {nx pr : Nat → Int} {met x : Nat} (h : LinkI n R nx pr met n) (hA : inA nx met x = true) (hx : x < n) : ∀ c, R x c = true → met.testBit c = true := by
  simp only [inA, Bool.and_eq_true, Bool.not_eq_true', Bool.or_eq_true, decide_eq_true_eq] at hA
  rcases h.nxr x hx with e | ⟨y, hy, e⟩
  · exact h.done hx hx e
  · have hm : met.testBit y = true := by
      rcases hA.2 with e2 | e2
      · omega
      · rw [e] at e2; exact e2
    obtain ⟨_, w, hw, e3, h4⟩ := h.vain hm
    have := (h.inv hx hy).1 e
    have : w = x := by omega
    subst this; exact h4
theorem LinkI.anti {n : Nat} {R : Nat → Nat → Bool} {nx pr : Nat → Int} {met : Nat} (h : LinkI n R nx pr met n) : AntiL n R (antiS n nx met) := by
  refine antiL_of (List.Pairwise.filter _ List.pairwise_lt_range) (fun x hx => List.mem_range.1 (List.mem_filter.1 hx).1) (fun x hx y hy => ?_)
  have hx' := List.mem_filter.1 hx
  have hy' := List.mem_filter.1 hy
  cases e : R x y with
  | false => rfl
  | true =>
    have := h.next_met hx'.2 (List.mem_range.1 hx'.1) y e
    have h2 := hy'.2
    simp only [inA, this, Bool.not_true, Bool.false_and] at h2
    cases h2
theorem filter_split (p q : Nat → Bool) : ∀ l : List Nat, (l.filter p).length = (l.filter fun x => p x && q x).length + (l.filter fun x => p x && !q x).length
  | [] => rfl
  | a :: l => by
    have ih := filter_split p q l
    simp only [List.filter_cons]
    cases p a <;> cases q a <;> simp [ih] <;> omega
theorem nodup_map {l : List Nat} {f : Nat → Nat} (hl : l.Nodup) (hf : ∀ x ∈ l, ∀ y ∈ l, f x = f y → x = y) : (l.map f).Nodup := by
  rw [List.nodup_iff_pairwise_ne, List.pairwise_map]
  refine List.Pairwise.imp_of_mem ?_ hl
  intro x y hx hy hne e
  exact hne (hf x hx y hy e)
theorem LinkI.count {n : Nat} {R : Nat → Nat → Bool} {nx pr : Nat → Int} {met : Nat} (h : LinkI n R nx pr met n) (hR : Ord n R) : (antiS n nx met).length = (headS n pr).length := by
  have a1 := filter_split (fun x => !met.testBit x) (fun x => decide (nx x = -1) || met.testBit (nx x).toNat) (List.range n)
  have a2 := filter_split (fun x => !met.testBit x) (fun x => decide (pr x = -1)) (List.range n)
  have e1 : ((List.range n).filter fun x => !met.testBit x && (decide (nx x = -1) || met.testBit (nx x).toNat)) = antiS n nx met := rfl
  have e2 : ((List.range n).filter fun x => !met.testBit x && decide (pr x = -1)) = headS n pr := by
    apply List.filter_congr
    intro x hx
    cases e : met.testBit x with
    | false => rfl
    | true =>
      obtain ⟨_, w, _, e3, _⟩ := h.vain e
      rw [decide_eq_false (by omega)]; rfl
  rw [e1] at a1; rw [e2] at a2
  -- those whose next one isn't met, and those that follow one
  obtain ⟨L3, hL3⟩ : ∃ L, L = (List.range n).filter fun x => !met.testBit x && !(decide (nx x = -1) || met.testBit (nx x).toNat) := ⟨_, rfl⟩
  obtain ⟨L4, hL4⟩ : ∃ L, L = (List.range n).filter fun x => !met.testBit x && !decide (pr x = -1) := ⟨_, rfl⟩
  have m3 : ∀ x, x ∈ L3 ↔ x < n ∧ met.testBit x = false ∧ ∃ y : Nat, y < n ∧ nx x = (y : Int) ∧ met.testBit y = false := fun x => by
    rw [hL3, List.mem_filter, List.mem_range]
    simp only [Bool.and_eq_true, Bool.not_eq_true', Bool.or_eq_false_iff, decide_eq_false_iff_not]
    constructor
    · rintro ⟨b1, b2, b3, b4⟩
      rcases h.nxr x b1 with e | ⟨y, hy, e⟩
      · exact absurd e b3
      · rw [e] at b4; exact ⟨b1, b2, y, hy, e, b4⟩
    · rintro ⟨b1, b2, y, hy, e, b4⟩
      exact ⟨b1, b2, by omega, by rw [e]; exact b4⟩
  have m4 : ∀ y, y ∈ L4 ↔ y < n ∧ met.testBit y = false ∧ ∃ x : Nat, x < n ∧ pr y = (x : Int) := fun y => by
    rw [hL4, List.mem_filter, List.mem_range]
    simp only [Bool.and_eq_true, Bool.not_eq_true', decide_eq_false_iff_not]
    constructor
    · rintro ⟨b1, b2, b3⟩
      rcases h.prr y b1 with e | ⟨x, hx, e⟩
      · exact absurd e b3
      · exact ⟨b1, b2, x, hx, e⟩
    · rintro ⟨b1, b2, x, hx, e⟩
      exact ⟨b1, b2, by omega⟩
  have d3 : L3.Nodup := by rw [hL3]; exact List.Pairwise.filter _ List.nodup_range
  have d4 : L4.Nodup := by rw [hL4]; exact List.Pairwise.filter _ List.nodup_range
  have le1 : L3.length ≤ L4.length := by
    have := nodup_le (l := L3.map fun x => (nx x).toNat) (s := L4) (nodup_map d3 fun x hx y hy e => by
      obtain ⟨x1, _, x2, x3, x4, _⟩ := (m3 x).1 hx
      obtain ⟨y1, _, y2, y3, y4, _⟩ := (m3 y).1 hy
      rw [x4, y4] at e
      have : x2 = y2 := by simpa using e
      subst this
      have e1 := (h.inv x1 x3).1 x4
      have e2 := (h.inv y1 x3).1 y4
      omega) (fun z hz => by
      obtain ⟨x, hx, rfl⟩ := List.mem_map.1 hz
      obtain ⟨x1, _, x2, x3, x4, x5⟩ := (m3 x).1 hx
      rw [x4]
      exact (m4 x2).2 ⟨x3, x5, x, x1, (h.inv x1 x3).1 x4⟩)
    simpa using this
  have le2 : L4.length ≤ L3.length := by
    have := nodup_le (l := L4.map fun y => (pr y).toNat) (s := L3) (nodup_map d4 fun x hx y hy e => by
      obtain ⟨x1, _, x2, x3, x4⟩ := (m4 x).1 hx
      obtain ⟨y1, _, y2, y3, y4⟩ := (m4 y).1 hy
      rw [x4, y4] at e
      have : x2 = y2 := by simpa using e
      subst this
      have e1 := (h.inv x3 x1).2 x4
      have e2 := (h.inv x3 y1).2 y4
      omega) (fun z hz => by
      obtain ⟨y, hy, rfl⟩ := List.mem_map.1 hz
      obtain ⟨y1, y2, x, x3, x4⟩ := (m4 y).1 hy
      rw [x4]
      have e1 := (h.inv x3 y1).2 x4
      refine (m3 x).2 ⟨x3, ?_, y, y1, e1, y2⟩
      -- what follows a met one was met
      cases e : met.testBit x with
      | false => rfl
      | true =>
        obtain ⟨_, w, hw, e3, h4⟩ := h.vain e
        have e4 := (h.inv hw x3).2 e3
        have := h4 y (hR.tr (h.rel hw e4) (h.rel x3 e1))
        rw [y2] at this; cases this)
    simpa using this
  rw [← hL3] at a1; rw [← hL4] at a2
  omega
theorem list_nat {W : AW} {x n : Nat} {ls : List Nat} (hx : ∀ b, x.testBit b = true ↔ b ∈ ls) (hls : ∃ p : Nat → Bool, ls = (List.range n).filter p) (hn : n ≤ 40) (hT : tabsIn T0 T0.tabs W = true) (h0 : 0 < W.next) :
    WpF T0 58 [.int .u64 (x : Nat)] W (fun v W' => Ext W W' ∧ GrowsN W' v ls.length (natsV ls) 3 1 (fun b => W.next ≤ b)) := by
  obtain ⟨p, hp⟩ := hls
  have hxn : ∀ b, x.testBit b = true → b < n := fun b hb => by
    have := (hx b).1 hb
    rw [hp] at this
    exact List.mem_range.1 (List.mem_filter.1 this).1
  have e : (List.range 40).filter (x.testBit ·) = ls := by
    have h1 : (List.range 40).filter (x.testBit ·) = (List.range n).filter (x.testBit ·) := by
      rw [show List.range 40 = List.range n ++ (List.range (40 - n)).map (n + ·) from by rw [← List.range_add]; congr 1; omega, List.filter_append]
      have : ((List.range (40 - n)).map (n + ·)).filter (x.testBit ·) = [] := by
        rw [List.filter_eq_nil_iff]
        intro b hb hb2
        obtain ⟨c, _, rfl⟩ := List.mem_map.1 hb
        have := hxn _ hb2; omega
      rw [this, List.append_nil]
    rw [h1, hp]
    apply List.filter_congr
    intro b hb
    rw [Bool.eq_iff_iff, hx b, hp, List.mem_filter]
    exact ⟨fun h => h.2, fun h => ⟨hb, h⟩⟩
  have e2 : intsV (memb 40 x) = natsV ls := by
    unfold memb intsV natsV
    rw [e, List.map_map]; rfl
  have e3 : (memb 40 x).length = ls.length := by unfold memb; rw [e, List.length_map]
  have := list_wp (W := W) (x := x) (lt40 fun b hb => by have := hxn b hb; omega) hT h0
  rw [e2, e3] at this; exact this
theorem antichain_ok {W : AW} {v : Value} {n : Nat} {es : List Edge} (h : PairR W v es) (hl : es.length < 4611686018427387904) (hT : tabsIn T0 T0.tabs W = true) (h0 : 0 < W.next) (hok : OrdOk (n : Int) es) :
    WpF T0 45 [.int .i64 (n : Int), v] W (fun u W' => Ext W W' ∧ ∃ nx pr met a, u = .tuple ⟨[a, .int .i64 0]⟩ ∧ LinkI n (relO n es) nx pr met n ∧ GrowsN W' a (antiS n nx met).length (natsV (antiS n nx met)) 3 1 (fun b => W.next ≤ b)) := by
  refine wpF fun45 rfl ?_
  have hn := hok.1.2.1
  have hord := hok.ord
  try simp only [wpK_assoc]
  refine wpK_reg (fun R hR => by simp []; exact hR) ?_
  try simp only [wpK_assoc]
  refine wpK_x2 (fun R hR => by
      simp [opExtract, aExtract, aEnter, fun71, short_other, aCallV]; rw [callS_none]
      refine (arrange_ok h hl hT h0 hok).mono ?_
      rintro _ W2 ⟨hE2, o, g, ho, rfl, hOr, hgb⟩
      simp [opExtract, aExtract]; exact hR o g W2 (And.intro hE2 (And.intro ho (And.intro hOr hgb)))) ?_
  rintro o g W2 ⟨hE2, ho, hOr, hgb⟩
  have n2 := hE2.1
  try simp only [wpK_assoc]
  refine wpK_reg (fun R hR => by simp []; exact hR) ?_
  try simp only [wpK_assoc]
  first | refine wpK_onF (by simp []) ?_ | refine wpK_out (by simp []) ?_ | refine wpK_condF (by simp []) ?_ | refine wpK_endF (by simp []) (wpK_skip ?_) | refine wpK_endF (by simp []) ?_
  try simp only [wpK_assoc]
  refine wpK_x4 (fun R hR => by
      simp [aEnter, fun72, short_other, aCallV]; rw [callS_none]
      refine (link_wp hOr (by omega) hord hgb (tabs_ext hT h0 hE2) (by omega)).mono ?_
      rintro _ W3 ⟨hE3, l, nx, pr, met, rfl, hl2, hL, hLi⟩
      simp []; exact hR l nx pr met W3 (And.intro hE3 (And.intro hl2 (And.intro hL hLi)))) ?_
  rintro l nx pr met W3 ⟨hE3, hl2, hL, hLi⟩
  have n3 := hE3.1
  have hE03 := hE2.trans hE3
  try simp only [wpK_assoc]
  refine wpK_reg (fun R hR => by simp []; exact hR) ?_
  try simp only [wpK_assoc]
  refine wpK_reg (fun R hR => by simp []; exact hR) ?_
  refine wpK_keep (fun tm' => tm'.get 8 = some (.pointer (some ⟨l, 0, none⟩)) ∧ tm'.get 9 = some (.int .u64 0) ∧ tm'.get 22 = some (.int .i64 (n : Int)) ∧ tm'.get 23 = some (.int .i64 0)) ⟨by simp, by simp, by simp, by simp⟩ ?_
  rintro tm ⟨h8, h9, h22, h23⟩
  have lm := lnk_met hL
  have hm40 : met < 1099511627776 := lt40 fun b hb => by have := (hLi.vain hb).1; omega
  try simp only [wpK_assoc]
  refine wpK_while (I := fun q A' W' => A'.n = 62 ∧ A'.defers = [] ∧ A'.tmps.get 8 = some (.pointer (some ⟨l, 0, none⟩)) ∧ A'.tmps.get 22 = some (.int .i64 (n : Int)) ∧ W' = W3 ∧ ∃ (i S : Nat), A'.tmps.get 9 = some (.int .u64 (S : Int)) ∧ A'.tmps.get 23 = some (.int .i64 (i : Int)) ∧ q = n - i ∧ i ≤ n ∧ ∀ x, S.testBit x = true ↔ x < i ∧ inA nx met x = true)
    (J := fun A' W' => A'.n = 62 ∧ A'.defers = [] ∧ A'.tmps.get 8 = some (.pointer (some ⟨l, 0, none⟩)) ∧ A'.tmps.get 22 = some (.int .i64 (n : Int)) ∧ W' = W3 ∧ ∃ S : Nat, A'.tmps.get 9 = some (.int .u64 (S : Int)) ∧ ∀ x, S.testBit x = true ↔ x < n ∧ inA nx met x = true) (Rt := fun _ _ => False) (k := n) ?_ ?_ ?_ ?_
  · exact ⟨rfl, rfl, by simp [h8, h22], by simp [h8, h22], rfl, 0, 0, by simp [h9], by simp [h23], rfl, by omega, fun x => by simp⟩
  · rintro q ⟨tm, n, ds⟩ Wa ⟨hn, hd, h8, h22, hWa, i, S, h9, h23, hq, hil, hS⟩ Q' hJ hRt hI
    simp only at hn hd h8 h22
    subst hn; subst hd
    subst hWa
    simp only at h9 h23
    by_cases hlt : i < n
    case neg =>
      have hlt' : ¬ (i : Int) < n := by omega
      have e : i = n := by omega
      rw [e] at hS
      try simp only [wpK_assoc]
      refine wpK_reg (fun R hR => by simp [h22, h23, hlt']; exact hR) ?_
      try simp only [wpK_assoc]
      first | refine wpK_onF (by simp [hlt]) ?_ | refine wpK_out (by simp [hlt]) ?_ | refine wpK_condF (by simp [hlt]) ?_ | refine wpK_endF (by simp [hlt]) (wpK_skip ?_) | refine wpK_endF (by simp [hlt]) ?_
      exact hJ _ _ ⟨rfl, rfl, by simp [h8, h22], by simp [h8, h22], rfl, S, by simp [h9], hS⟩
    have hlt' : (i : Int) < n := by omega
    try simp only [wpK_assoc]
    refine wpK_reg (fun R hR => by simp [h22, h23, hlt']; exact hR) ?_
    try simp only [wpK_assoc]
    first | refine wpK_onT (by simp [hlt]) ?_ | refine wpK_outT (by simp [hlt]) ?_ | refine wpK_condT (by simp [hlt]) ?_ | refine wpK_endT (by simp [hlt]) ?_
    have ln := lnk_next hL (j := i) (by omega)
    have ia := ix94 l 0 i (by omega)
    rw [Nat.zero_add] at ia
    have hno : inA nx met i = false → ∀ x, S.testBit x = true ↔ x < i + 1 ∧ inA nx met x = true := fun e x => by
      rw [hS]
      constructor
      · rintro ⟨a, b⟩; exact ⟨by omega, b⟩
      · rintro ⟨a, b⟩
        by_cases ex : x = i
        · subst ex; rw [e] at b; cases b
        · exact ⟨by omega, b⟩
    have hS40 : S < 1099511627776 := lt40 fun b hb => by have := ((hS b).1 hb).1; omega
    have h64 : (1 <<< i : Nat) < 18446744073709551616 := by rw [Nat.one_shiftLeft]; exact Nat.lt_trans (Nat.pow_lt_pow_right (by omega) (show i < 40 by omega)) (by decide)
    have hor := aBinI_or .u64 S (1 <<< i) (by show S < 18446744073709551616; omega) h64
    have hyes : inA nx met i = true → ∀ x, (S ||| 1 <<< i).testBit x = true ↔ x < i + 1 ∧ inA nx met x = true := fun e x => by
      rw [bit_add, Bool.or_eq_true, hS, decide_eq_true_eq]
      constructor
      · rintro (⟨a, b⟩ | a)
        · exact ⟨by omega, b⟩
        · subst a; exact ⟨by omega, e⟩
      · rintro ⟨a, b⟩
        by_cases ex : x = i
        · exact .inr ex
        · exact .inl ⟨by omega, b⟩
    have ho1 := one_wp i (by omega) Wa
    generalize S ||| 1 <<< i = S2 at hor hyes
    generalize (1 <<< i : Nat) = i1 at hor ho1
    refine wpK_block ?_
    try simp only [wpK_assoc]
    refine wpK_reg (fun R hR => by simp [h23]; exact hR) ?_
    cases hmi : met.testBit i with
    | true =>
      have hin : inA nx met i = false := by unfold inA; rw [hmi]; rfl
      try simp only [wpK_assoc]
      refine wpK_dn (wr := Tr.nil |>.set 26 0 |>.set 27 1 |>.set 28 2 |>.set 29 3 |>.set 30 4 |>.set 31 5 |>.set 32 6 |>.set 33 7 |>.set 34 8 |>.set 35 9 |>.set 36 10 |>.set 37 11 |>.set 38 12 |>.set 39 13 |>.set 40 14 |>.set 41 15 |>.set 42 16 |>.set 43 17 |>.set 44 18 |>.set 45 19 |>.set 46 20 |>.set 47 21 |>.set 48 22 |>.set 49 23 |>.set 50 24 |>.set 51 25 |>.set 52 26 |>.set 53 27 |>.set 54 28) (bits := Tr.nil.lay 0 [0, 1, 3, 7, 0, 31, 63, 127, 255, 255, 511, 1535, 4095, 8191, 16383, 32767, 65535, 131071, 262143, 524287, 65535, 65535, 1114111, 5308415, 15794175, 32571391, 67108863, 134217727, 268435455]) (ord := [0, 1, 2, 3, 4, 5, 6, 7, 8, 9, 10, 11, 12, 13, 14, 15, 16, 17, 18, 19, 20, 21, 22, 23, 24, 25, 26, 27, 28]) (by kernel_rfl) (by kernel_rfl) (by kernel_rfl) (fun G hG => by
        simp [h8, lm, aEnter, fun60, short_other, aCallV]
        rw [dcallS_none]
        refine (has_is hmi (by omega) (by omega) Wa).mono ?_
        rintro _ W9 ⟨e9, rfl⟩; subst W9
        simp [h8, lm, undef]
        exact hG) ?_
      try simp only [wpK_assoc]
      first | refine wpK_onF (by simp []) ?_ | refine wpK_out (by simp []) ?_ | refine wpK_condF (by simp []) ?_ | refine wpK_endF (by simp []) (wpK_skip ?_) | refine wpK_endF (by simp []) ?_
      simp only [leaves_normal, behind_normal]
      try simp only [wpK_assoc]
      refine wpK_reg1 (fun R hR => by simp [h23]; exact hR) ?_
      exact hI (n - (i + 1)) _ _ (by omega) ⟨rfl, rfl, by simp [h8, h22], by simp [h8, h22], rfl, i + 1, S, by simp [h9], by simp [i64_succ i (by omega)], rfl, by omega, hno hin⟩
    | false =>
      rcases hLi.nxr i hlt with e1 | ⟨y, hy, e1⟩
      · have hin : inA nx met i = true := by unfold inA; rw [hmi, e1]; rfl
        rw [e1] at ln
        try simp only [wpK_assoc]
        refine wpK_dn (wr := Tr.nil |>.set 26 0 |>.set 27 1 |>.set 28 2 |>.set 29 3 |>.set 30 4 |>.set 31 5 |>.set 32 6 |>.set 33 7 |>.set 34 8 |>.set 35 9 |>.set 36 10 |>.set 37 11 |>.set 38 12 |>.set 39 13 |>.set 40 14 |>.set 41 15 |>.set 42 16 |>.set 43 17 |>.set 44 18 |>.set 45 19 |>.set 46 20 |>.set 47 21 |>.set 48 22 |>.set 49 23 |>.set 50 24 |>.set 51 25 |>.set 52 26 |>.set 53 27 |>.set 54 28) (bits := Tr.nil.lay 0 [0, 1, 3, 7, 0, 31, 63, 127, 255, 255, 511, 1535, 4095, 8191, 16383, 32767, 65535, 131071, 262143, 524287, 65535, 65535, 1114111, 5308415, 15794175, 32571391, 67108863, 134217727, 268435455]) (ord := [0, 1, 2, 3, 4, 5, 6, 7, 8, 9, 10, 11, 12, 13, 14, 15, 16, 17, 18, 19, 20, 21, 22, 23, 24, 25, 26, 27, 28]) (by kernel_rfl) (by kernel_rfl) (by kernel_rfl) (fun G hG => by
          simp [h8, lm, aEnter, fun60, short_other, aCallV]
          rw [dcallS_none]
          refine (has_is hmi (by omega) (by omega) Wa).mono ?_
          rintro _ W9 ⟨e9, rfl⟩; subst W9
          simp [h8, lm, ln, ia, undef]
          exact hG) ?_
        try simp only [wpK_assoc]
        first | refine wpK_onT (by simp []) ?_ | refine wpK_outT (by simp []) ?_ | refine wpK_condT (by simp []) ?_ | refine wpK_endT (by simp []) ?_
        try simp only [wpK_assoc]
        refine wpK_reg1 (fun R hR => by
            simp [h9, hor, aEnter, fun68, short_other, aCallV]; rw [callS_none]
            refine (ho1).mono ?_
            rintro _ W9 ⟨e9, rfl⟩; subst W9
            simp [h9, hor]; exact hR) ?_
        simp only [leaves_normal, behind_normal]
        try simp only [wpK_assoc]
        refine wpK_reg1 (fun R hR => by simp [h23]; exact hR) ?_
        exact hI (n - (i + 1)) _ _ (by omega) ⟨rfl, rfl, by simp [h8, h22], by simp [h8, h22], rfl, i + 1, S2, by simp, by simp [i64_succ i (by omega)], rfl, by omega, hyes hin⟩
      · rw [e1] at ln
        have hy1 : ¬ (y : Int) = -1 := by omega
        cases hmy : met.testBit y with
        | true =>
          have hin : inA nx met i = true := by unfold inA; rw [hmi, e1, Int.toNat_natCast, hmy, Bool.or_true]; rfl
          try simp only [wpK_assoc]
          refine wpK_dn (wr := Tr.nil |>.set 26 0 |>.set 27 1 |>.set 28 2 |>.set 29 3 |>.set 30 4 |>.set 31 5 |>.set 32 6 |>.set 33 7 |>.set 34 8 |>.set 35 9 |>.set 36 10 |>.set 37 11 |>.set 38 12 |>.set 39 13 |>.set 40 14 |>.set 41 15 |>.set 42 16 |>.set 43 17 |>.set 44 18 |>.set 45 19 |>.set 46 20 |>.set 47 21 |>.set 48 22 |>.set 49 23 |>.set 50 24 |>.set 51 25 |>.set 52 26 |>.set 53 27 |>.set 54 28) (bits := Tr.nil.lay 0 [0, 1, 3, 7, 0, 31, 63, 127, 255, 255, 511, 1535, 4095, 8191, 16383, 32767, 65535, 131071, 262143, 524287, 65535, 65535, 1114111, 5308415, 15794175, 32571391, 67108863, 134217727, 268435455]) (ord := [0, 1, 2, 3, 4, 5, 6, 7, 8, 9, 10, 11, 12, 13, 14, 15, 16, 17, 18, 19, 20, 21, 22, 23, 24, 25, 26, 27, 28]) (by kernel_rfl) (by kernel_rfl) (by kernel_rfl) (fun G hG => by
            simp [h8, lm, aEnter, fun60, short_other, aCallV]
            rw [dcallS_none]
            refine (has_is hmi (by omega) (by omega) Wa).mono ?_
            rintro _ W9 ⟨e9, rfl⟩; subst W9
            simp [h8, lm, ln, ia, hy1, aEnter, fun60, short_other, aCallV]
            rw [dcallS_none]
            refine (has_is hmy (by omega) (by omega) Wa).mono ?_
            rintro _ W9 ⟨e9, rfl⟩; subst W9
            simp [h8, lm, ln, ia, hy1]
            exact hG) ?_
          try simp only [wpK_assoc]
          first | refine wpK_onT (by simp []) ?_ | refine wpK_outT (by simp []) ?_ | refine wpK_condT (by simp []) ?_ | refine wpK_endT (by simp []) ?_
          try simp only [wpK_assoc]
          refine wpK_reg1 (fun R hR => by
              simp [h9, hor, aEnter, fun68, short_other, aCallV]; rw [callS_none]
              refine (ho1).mono ?_
              rintro _ W9 ⟨e9, rfl⟩; subst W9
              simp [h9, hor]; exact hR) ?_
          simp only [leaves_normal, behind_normal]
          try simp only [wpK_assoc]
          refine wpK_reg1 (fun R hR => by simp [h23]; exact hR) ?_
          exact hI (n - (i + 1)) _ _ (by omega) ⟨rfl, rfl, by simp [h8, h22], by simp [h8, h22], rfl, i + 1, S2, by simp, by simp [i64_succ i (by omega)], rfl, by omega, hyes hin⟩
        | false =>
          have hin : inA nx met i = false := by unfold inA; rw [hmi, e1, decide_eq_false hy1, Int.toNat_natCast, hmy]; rfl
          try simp only [wpK_assoc]
          refine wpK_dn (wr := Tr.nil |>.set 26 0 |>.set 27 1 |>.set 28 2 |>.set 29 3 |>.set 30 4 |>.set 31 5 |>.set 32 6 |>.set 33 7 |>.set 34 8 |>.set 35 9 |>.set 36 10 |>.set 37 11 |>.set 38 12 |>.set 39 13 |>.set 40 14 |>.set 41 15 |>.set 42 16 |>.set 43 17 |>.set 44 18 |>.set 45 19 |>.set 46 20 |>.set 47 21 |>.set 48 22 |>.set 49 23 |>.set 50 24 |>.set 51 25 |>.set 52 26 |>.set 53 27 |>.set 54 28) (bits := Tr.nil.lay 0 [0, 1, 3, 7, 0, 31, 63, 127, 255, 255, 511, 1535, 4095, 8191, 16383, 32767, 65535, 131071, 262143, 524287, 65535, 65535, 1114111, 5308415, 15794175, 32571391, 67108863, 134217727, 268435455]) (ord := [0, 1, 2, 3, 4, 5, 6, 7, 8, 9, 10, 11, 12, 13, 14, 15, 16, 17, 18, 19, 20, 21, 22, 23, 24, 25, 26, 27, 28]) (by kernel_rfl) (by kernel_rfl) (by kernel_rfl) (fun G hG => by
            simp [h8, lm, aEnter, fun60, short_other, aCallV]
            rw [dcallS_none]
            refine (has_is hmi (by omega) (by omega) Wa).mono ?_
            rintro _ W9 ⟨e9, rfl⟩; subst W9
            simp [h8, lm, ln, ia, hy1, aEnter, fun60, short_other, aCallV]
            rw [dcallS_none]
            refine (has_is hmy (by omega) (by omega) Wa).mono ?_
            rintro _ W9 ⟨e9, rfl⟩; subst W9
            simp [h8, lm, ln, ia, hy1]
            exact hG) ?_
          try simp only [wpK_assoc]
          first | refine wpK_onF (by simp []) ?_ | refine wpK_out (by simp []) ?_ | refine wpK_condF (by simp []) ?_ | refine wpK_endF (by simp []) (wpK_skip ?_) | refine wpK_endF (by simp []) ?_
          simp only [leaves_normal, behind_normal]
          try simp only [wpK_assoc]
          refine wpK_reg1 (fun R hR => by simp [h23]; exact hR) ?_
          exact hI (n - (i + 1)) _ _ (by omega) ⟨rfl, rfl, by simp [h8, h22], by simp [h8, h22], rfl, i + 1, S, by simp [h9], by simp [i64_succ i (by omega)], rfl, by omega, hno hin⟩
  · rintro A' W' hf; exact hf.elim
  rintro ⟨tm, n, ds⟩ W4 ⟨hn, hd, h8, h22, hW4, S, h9, hS⟩
  simp only at hn hd h8 h22
  subst hn; subst hd
  subst hW4
  simp only at h9
  have hln := list_nat (W := W4) (x := S) (n := n) (ls := antiS n nx met) (fun b => by rw [hS, antiS, List.mem_filter, List.mem_range]) ⟨_, rfl⟩ (by omega) (tabs_ext hT h0 hE03) (by omega)
  try simp only [wpK_assoc]
  refine wpK_x1 (P := fun a W5 => Ext W4 W5 ∧ GrowsN W5 a (antiS n nx met).length (natsV (antiS n nx met)) 3 1 (fun b => W4.next ≤ b)) (fun Q hQ => by
    simp [h9, aEnter, fun58, short_other, aCallV]; rw [callS_none]
    refine hln.mono ?_
    rintro a W5 ⟨hE5, hG5⟩
    simp; exact hQ a W5 (And.intro hE5 hG5)) ?_
  rintro a W5 ⟨hE5, hG5⟩
  exact wpK_ret ⟨.inr rfl, rfl, [a, .int .i64 0], by simp, hE03.trans hE5, nx, pr, met, a, rfl, hLi, hG5.mono (fun b hb => by omega)⟩
structure GoodC (n : Nat) (R : Nat → Nat → Bool) (cs : List (List Nat)) : Prop where
  ne : ∀ c ∈ cs, 0 < c.length
  nodup : cs.flatten.Nodup
  lt : ∀ x ∈ cs.flatten, x < n
  adj : ∀ c ∈ cs, ∀ k, k + 1 < c.length → R (c.getD k 0) (c.getD (k + 1) 0) = true
  len : cs.flatten.length = n
structure CH (n : Nat) (nx pr : Nat → Int) (cs : List (List Nat)) : Prop where
  heads : cs.map (fun c => c.getD 0 0) = headS n pr
  ne : ∀ c ∈ cs, 0 < c.length
  lt : ∀ c ∈ cs, ∀ k, k < c.length → c.getD k 0 < n
  adj : ∀ c ∈ cs, ∀ k, k + 1 < c.length → nx (c.getD k 0) = ((c.getD (k + 1) 0 : Nat) : Int)
  last : ∀ c ∈ cs, nx (c.getD (c.length - 1) 0) = -1
theorem mem_gd {c : List Nat} {x : Nat} (h : x ∈ c) : ∃ k, k < c.length ∧ c.getD k 0 = x := by
  obtain ⟨k, hk, e⟩ := List.mem_iff_getElem.1 h
  exact ⟨k, hk, by rw [gd_get hk, e]⟩
theorem CH.good {n : Nat} {R : Nat → Nat → Bool} {nx pr : Nat → Int} {met : Nat} {cs : List (List Nat)} (h : CH n nx pr cs) (hL : LinkI n R nx pr met n) (hR : Ord n R) : GoodC n R cs := by
  obtain ⟨H, hH⟩ := isH_ex hR
  have hadj : ∀ c ∈ cs, ∀ k, k + 1 < c.length → R (c.getD k 0) (c.getD (k + 1) 0) = true := fun c hc k hk => hL.rel (h.lt c hc k (by omega)) (h.adj c hc k hk)
  have hdec : ∀ c ∈ cs, ∀ d k, k + d + 1 < c.length → H (c.getD (k + d + 1) 0) < H (c.getD k 0) := by
    intro c hc d
    induction d with
    | zero => intro k hk; exact (hH _ (h.lt c hc k (by omega))).1 _ (hadj c hc k hk)
    | succ d ih =>
      intro k hk
      have h1 := ih k (by omega)
      have h2 := (hH _ (h.lt c hc (k + d + 1) (by omega))).1 _ (hadj c hc (k + d + 1) (by omega))
      have e : k + (d + 1) + 1 = k + d + 1 + 1 := by omega
      rw [e]; omega
  have hhead : ∀ c ∈ cs, pr (c.getD 0 0) = -1 := fun c hc => by
    have : c.getD 0 0 ∈ headS n pr := by rw [← h.heads]; exact List.mem_map.2 ⟨c, hc, rfl⟩
    exact of_decide_eq_true (List.mem_filter.1 this).2
  have hprev : ∀ c ∈ cs, ∀ k, k + 1 < c.length → pr (c.getD (k + 1) 0) = ((c.getD k 0 : Nat) : Int) := fun c hc k hk => (hL.inv (h.lt c hc k (by omega)) (h.lt c hc (k + 1) hk)).1 (h.adj c hc k hk)
  have hsame : ∀ c ∈ cs, ∀ d ∈ cs, ∀ i j, i < c.length → j < d.length → c.getD i 0 = d.getD j 0 → c.getD 0 0 = d.getD 0 0 := by
    intro c hc d hd i
    induction i with
    | zero =>
      intro j hi hj e
      cases j with
      | zero => exact e
      | succ j =>
        have h1 := hhead c hc
        have h2 := hprev d hd j hj
        rw [e] at h1; omega
    | succ i ih =>
      intro j hi hj e
      cases j with
      | zero =>
        have h1 := hhead d hd
        have h2 := hprev c hc i hi
        rw [e] at h2; omega
      | succ j =>
        have h1 := hprev c hc i hi
        have h2 := hprev d hd j hj
        rw [e] at h1
        exact ih j (by omega) (by omega) (by omega)
  have hnd : cs.flatten.Nodup := by
    rw [List.nodup_iff_pairwise_ne, List.pairwise_flatten]
    refine ⟨fun c hc => ?_, ?_⟩
    · rw [List.pairwise_iff_getElem]
      intro i j hi hj hij e
      have := hdec c hc (j - i - 1) i (by omega)
      rw [show i + (j - i - 1) + 1 = j from by omega, gd_get hi, gd_get hj, e] at this
      omega
    · have hh : (cs.map (fun c => c.getD 0 0)).Nodup := by
        rw [h.heads]; exact List.Pairwise.filter _ List.nodup_range
      rw [List.nodup_iff_pairwise_ne, List.pairwise_map] at hh
      refine List.Pairwise.imp_of_mem ?_ hh
      intro c d hc hd hne x hx y hy e
      subst e
      obtain ⟨i, hi, ei⟩ := mem_gd hx
      obtain ⟨j, hj, ej⟩ := mem_gd hy
      exact hne (hsame c hc d hd i j hi hj (by rw [ei, ej]))
  have hlt : ∀ x ∈ cs.flatten, x < n := fun x hx => by
    obtain ⟨c, hc, hxc⟩ := List.mem_flatten.1 hx
    obtain ⟨k, hk, e⟩ := mem_gd hxc
    rw [← e]; exact h.lt c hc k hk
  have hcov : ∀ m x, x < n → n ≤ H x + m → ∃ c ∈ cs, ∃ k, k < c.length ∧ c.getD k 0 = x := by
    intro m
    induction m with
    | zero => intro x hx hm; have := hH.lt hR hx; omega
    | succ m ih =>
      intro x hx hm
      rcases hL.prr x hx with e | ⟨w, hw, e⟩
      · have : x ∈ cs.map (fun c => c.getD 0 0) := by
          rw [h.heads]; exact List.mem_filter.2 ⟨List.mem_range.2 hx, decide_eq_true e⟩
        obtain ⟨c, hc, e2⟩ := List.mem_map.1 this
        exact ⟨c, hc, 0, h.ne c hc, e2⟩
      · have e2 := (hL.inv hw hx).2 e
        have e3 := (hH w hw).1 x (hL.rel hw e2)
        obtain ⟨c, hc, k, hk, e4⟩ := ih w hw (by omega)
        by_cases hk2 : k + 1 < c.length
        · have := h.adj c hc k hk2
          rw [e4, e2] at this
          exact ⟨c, hc, k + 1, hk2, by omega⟩
        · have := h.last c hc
          rw [show c.length - 1 = k from by omega, e4, e2] at this
          omega
  have hall : ∀ x, x < n → x ∈ cs.flatten := fun x hx => by
    obtain ⟨c, hc, k, hk, e⟩ := hcov n x hx (by omega)
    exact List.mem_flatten.2 ⟨c, hc, by rw [← e]; exact gd_mem hk⟩
  refine ⟨h.ne, hnd, hlt, hadj, ?_⟩
  have l1 := nodup_le (s := List.range n) hnd (fun x hx => List.mem_range.2 (hlt x hx))
  have l2 := nodup_le (l := List.range n) (s := cs.flatten) List.nodup_range (fun x hx => hall x (List.mem_range.1 hx))
  rw [List.length_range] at l1 l2
  omega
def ChsAt (W : AW) (v : Value) (cs : List (List Nat)) (K B : Nat → Prop) : Prop := ∃ us : List Value, us.length = cs.length ∧ GrowsN W v us.length us 31 1 K ∧ ∀ (i : Nat) u c, us[i]? = some u → cs[i]? = some c → GrowsN W u c.length (natsV c) 3 1 B
theorem ChsAt.nil (W : AW) (K B : Nat → Prop) : ChsAt W (.slice none 0 0) [] K B := ⟨[], rfl, .nil _ _ _ _, fun i u c h => by simp at h⟩
theorem ChsAt.only {W W' : AW} {v : Value} {cs : List (List Nat)} {K B K' : Nat → Prop} (h : ChsAt W v cs K B) (he : Only K' W W') (h1 : ∀ b, b < W.next → K b → ¬ K' b) (h2 : ∀ b, b < W.next → B b → ¬ K' b) : ChsAt W' v cs K B :=
  let ⟨us, a1, a2, a3⟩ := h
  ⟨us, a1, a2.only he h1, fun i u c hu hc => (a3 i u c hu hc).only he h2⟩
theorem ChsAt.len {W : AW} {v : Value} {cs : List (List Nat)} {K B : Nat → Prop} (h : ChsAt W v cs K B) : ∃ a c, v = .slice a cs.length c := by
  obtain ⟨us, a1, a2, a3⟩ := h
  obtain ⟨a, c, e⟩ := a2.len
  exact ⟨a, c, by rw [e, a1]⟩
theorem bs58o (W : AW) (A : Option Addr) (n c : Nat) : aBuildSlice T0 W 58 1 [(0, .slice A n c)] = some (.slice (some ⟨W.next, 0, none⟩) 1 2, W.newCells 31 [.slice A n c]) := by kernel_rfl
theorem ChsAt.push {W : AW} {v u : Value} {cs : List (List Nat)} {c : List Nat} {K B C : Nat → Prop} (h : ChsAt W v cs K B) (hu : GrowsN W u c.length (natsV c) 3 1 C) (hm : cs.length ≤ 100000) (hKB : ∀ b, K b → ¬ B b) (hKC : ∀ b, K b → ¬ C b) (hB : ∀ b, B b → b < W.next) (hC : ∀ b, C b → b < W.next) :
    ∃ s v' W', aBuildSlice T0 W 58 1 [(0, u)] = some (s, W.newCells 31 [u]) ∧ aAppend T0 (W.newCells 31 [u]) [58, 58] [v, s] = some (v', W') ∧ W'.next = W.next + 2 ∧ ChsAt W' v' (cs ++ [c]) (fun b => K b ∨ b = W.next + 1) (fun b => B b ∨ C b) ∧ Only K W W' := by
  obtain ⟨us, a1, a2, a3⟩ := h
  obtain ⟨A, k, hue⟩ := hu.len
  have hbs := bs58o W A c.length k
  rw [← hue] at hbs
  have hone : oneCells [u] = true := by rw [hue]; rfl
  obtain ⟨v', W', k1, k2, k3, k4⟩ := grow_push2 (t := 58) (el := 31) und58 inf31 is31 z31 rfl (by rw [by31]; omega) a2 (by omega) u hone
  refine ⟨_, v', W', hbs, k1, k2, ⟨us ++ [u], by simp [a1], by simpa using k3, fun i x d hx hd => ?_⟩, k4⟩
  by_cases hi : i < us.length
  · rw [List.getElem?_append_left hi] at hx
    rw [List.getElem?_append_left (by omega)] at hd
    exact ((a3 i x d hx hd).only k4 (fun b _ hb hk => hKB b hk hb)).mono (fun b hb => .inl hb)
  · have hi2 : i = us.length := by
      have := (List.getElem?_eq_some_iff.1 hx).1
      simp at this; omega
    subst hi2
    rw [List.getElem?_append_right (Nat.le_refl _)] at hx
    rw [a1, List.getElem?_append_right (Nat.le_refl _)] at hd
    simp at hx hd
    subst hx; subst hd
    exact (hu.only k4 (fun b _ hb hk => hKC b hk hb)).mono (fun b hb => .inr hb)
theorem ChsAt.at {W : AW} {v : Value} {cs : List (List Nat)} {K B : Nat → Prop} (h : ChsAt W v cs K B) {i : Nat} {c : List Nat} (hi : cs[i]? = some c) :
    ∃ u b p, aIndexAddr T0 58 v (.int .i64 (i : Int)) = some (.pointer (some ⟨b, p, none⟩)) ∧ aLoadVar T0 W 31 b p = some u ∧ GrowsN W u c.length (natsV c) 3 1 B := by
  obtain ⟨us, a1, a2, a3⟩ := h
  have hil : i < us.length := by rw [a1]; exact (List.getElem?_eq_some_iff.1 hi).1
  have hu : us[i]? = some us[i] := List.getElem?_eq_getElem hil
  obtain ⟨b, p, g1, g2⟩ := (vals_row a2).at (T := T0) hu und58 sz31 .i64
  exact ⟨us[i], b, p, g1, load_of und31 rfl (g2 0 _ rfl), a3 i _ _ hu hi⟩
structure Half (n : Nat) (nx : Nat → Int) (a : Nat) (c : List Nat) (b : Int) : Prop where
  hd : c.length = 0 → b = (a : Int)
  hd1 : 0 < c.length → c.getD 0 0 = a
  lt : ∀ k, k < c.length → c.getD k 0 < n
  adj : ∀ k, k + 1 < c.length → nx (c.getD k 0) = ((c.getD (k + 1) 0 : Nat) : Int)
  nxt : 0 < c.length → nx (c.getD (c.length - 1) 0) = b
theorem Half.nil (n : Nat) (nx : Nat → Int) (a : Nat) : Half n nx a [] (a : Int) := ⟨fun _ => rfl, fun h => by simp at h, fun k h => by simp at h, fun k h => by simp at h, fun h => by simp at h⟩
theorem Half.snoc {n : Nat} {nx : Nat → Int} {a b : Nat} {c : List Nat} (h : Half n nx a c (b : Int)) (hb : b < n) : Half n nx a (c ++ [b]) (nx b) := by
  refine ⟨fun e => by simp at e, fun _ => ?_, fun k hk => ?_, fun k hk => ?_, fun _ => ?_⟩
  · by_cases e : c.length = 0
    · have := h.hd e
      have hc : c = [] := List.length_eq_zero_iff.1 e
      subst hc
      show b = a; omega
    · rw [gd_app c b (by omega)]; exact h.hd1 (by omega)
  · rw [List.length_append, List.length_singleton] at hk
    by_cases e : k < c.length
    · rw [gd_app c b e]; exact h.lt k e
    · rw [show k = c.length from by omega, gd_last]; exact hb
  · rw [List.length_append, List.length_singleton] at hk
    rw [gd_app c b (show k < c.length by omega)]
    by_cases e : k + 1 < c.length
    · rw [gd_app c b e]; exact h.adj k e
    · rw [show k + 1 = c.length from by omega, gd_last, show k = c.length - 1 from by omega]
      exact h.nxt (by omega)
  · rw [List.length_append, List.length_singleton, Nat.add_sub_cancel, gd_last]
structure CHto (n : Nat) (nx pr : Nat → Int) (a : Nat) (cs : List (List Nat)) : Prop where
  heads : cs.map (fun c => c.getD 0 0) = (List.range a).filter fun x => decide (pr x = -1)
  ne : ∀ c ∈ cs, 0 < c.length
  lt : ∀ c ∈ cs, ∀ k, k < c.length → c.getD k 0 < n
  adj : ∀ c ∈ cs, ∀ k, k + 1 < c.length → nx (c.getD k 0) = ((c.getD (k + 1) 0 : Nat) : Int)
  last : ∀ c ∈ cs, nx (c.getD (c.length - 1) 0) = -1
theorem CHto.nil (n : Nat) (nx pr : Nat → Int) : CHto n nx pr 0 [] := ⟨rfl, fun c h => by simp at h, fun c h => by simp at h, fun c h => by simp at h, fun c h => by simp at h⟩
theorem CHto.skip {n : Nat} {nx pr : Nat → Int} {a : Nat} {cs : List (List Nat)} (h : CHto n nx pr a cs) (hp : pr a ≠ -1) : CHto n nx pr (a + 1) cs :=
  ⟨by rw [h.heads, List.range_succ, List.filter_append]; simp [hp], h.ne, h.lt, h.adj, h.last⟩
theorem CHto.snoc {n : Nat} {nx pr : Nat → Int} {a : Nat} {cs : List (List Nat)} {c : List Nat} (h : CHto n nx pr a cs) (hp : pr a = -1) (hc : Half n nx a c (-1)) (hl : 0 < c.length) : CHto n nx pr (a + 1) (cs ++ [c]) := by
  refine ⟨?_, fun d hd => ?_, fun d hd => ?_, fun d hd => ?_, fun d hd => ?_⟩
  · rw [List.map_append, h.heads, List.range_succ, List.filter_append]
    have e := hc.hd1 hl
    rw [List.getD_eq_getElem?_getD] at e
    simp [hp, e]
  all_goals
    rw [List.mem_append, List.mem_singleton] at hd
    rcases hd with hd | hd
  · exact h.ne d hd
  · rw [hd]; exact hl
  · exact h.lt d hd
  · rw [hd]; exact hc.lt
  · exact h.adj d hd
  · rw [hd]; exact hc.adj
  · exact h.last d hd
  · rw [hd]; exact hc.nxt hl
theorem CHto.len {n : Nat} {nx pr : Nat → Int} {a : Nat} {cs : List (List Nat)} (h : CHto n nx pr a cs) : cs.length ≤ a := by
  have := congrArg List.length h.heads
  rw [List.length_map] at this
  rw [this]
  exact Nat.le_trans (List.length_filter_le _ _) (by simp)
theorem chains_ok {W : AW} {v : Value} {n : Nat} {es : List Edge} (h : PairR W v es) (hl : es.length < 4611686018427387904) (hT : tabsIn T0 T0.tabs W = true) (h0 : 0 < W.next) (hok : OrdOk (n : Int) es) :
    WpF T0 44 [.int .i64 (n : Int), v] W (fun u W' => Ext W W' ∧ ∃ nx pr met cs cv K B, u = .tuple ⟨[cv, .int .i64 0]⟩ ∧ LinkI n (relO n es) nx pr met n ∧ CHto n nx pr n cs ∧ ChsAt W' cv cs K B ∧ (∀ b, K b → b < W'.next) ∧ ∀ b, B b → b < W'.next) := by
  refine wpF fun44 rfl ?_
  have hn := hok.1.2.1
  have hord := hok.ord
  obtain ⟨H, hH⟩ := isH_ex hord
  try simp only [wpK_assoc]
  refine wpK_reg (fun R hR => by simp []; exact hR) ?_
  try simp only [wpK_assoc]
  refine wpK_x2 (fun R hR => by
      simp [opExtract, aExtract, aEnter, fun71, short_other, aCallV]; rw [callS_none]
      refine (arrange_ok h hl hT h0 hok).mono ?_
      rintro _ W2 ⟨hE2, o, g, ho, rfl, hOr, hgb⟩
      simp [opExtract, aExtract]; exact hR o g W2 (And.intro hE2 (And.intro ho (And.intro hOr hgb)))) ?_
  rintro o g W2 ⟨hE2, ho, hOr, hgb⟩
  have n2 := hE2.1
  try simp only [wpK_assoc]
  refine wpK_reg (fun R hR => by simp []; exact hR) ?_
  try simp only [wpK_assoc]
  first | refine wpK_onF (by simp []) ?_ | refine wpK_out (by simp []) ?_ | refine wpK_condF (by simp []) ?_ | refine wpK_endF (by simp []) (wpK_skip ?_) | refine wpK_endF (by simp []) ?_
  try simp only [wpK_assoc]
  refine wpK_x4 (fun R hR => by
      simp [aEnter, fun72, short_other, aCallV]; rw [callS_none]
      refine (link_wp hOr (by omega) hord hgb (tabs_ext hT h0 hE2) (by omega)).mono ?_
      rintro _ W3 ⟨hE3, l, nx, pr, met, rfl, hl2, hL, hLi⟩
      simp []; exact hR l nx pr met W3 (And.intro hE3 (And.intro hl2 (And.intro hL hLi)))) ?_
  rintro l nx pr met W3 ⟨hE3, hl2, hL, hLi⟩
  have n3 := hE3.1
  have hE03 := hE2.trans hE3
  try simp only [wpK_assoc]
  refine wpK_reg (fun R hR => by simp []; exact hR) ?_
  try simp only [wpK_assoc]
  refine wpK_reg (fun R hR => by simp []; exact hR) ?_
  refine wpK_keep (fun tm' => tm'.get 8 = some (.pointer (some ⟨l, 0, none⟩)) ∧ tm'.get 9 = some (.slice none 0 0) ∧ tm'.get 24 = some (.int .i64 (n : Int)) ∧ tm'.get 25 = some (.int .i64 0)) ⟨by simp, by simp, by simp, by simp⟩ ?_
  rintro tm ⟨h8, h9, h24, h25⟩
  obtain ⟨Ky, hKy⟩ : ∃ Ky : AW → (Nat → Prop) → (Nat → Prop) → Prop, Ky = fun W' K B => (∀ b, K b → W3.next ≤ b ∧ b < W'.next ∧ ¬ B b) ∧ ∀ b, B b → W3.next ≤ b ∧ b < W'.next := ⟨_, rfl⟩
  try simp only [wpK_assoc]
  refine wpK_while (I := fun q A' W' => A'.n = 54 ∧ A'.defers = [] ∧ A'.tmps.get 8 = some (.pointer (some ⟨l, 0, none⟩)) ∧ A'.tmps.get 24 = some (.int .i64 (n : Int)) ∧ Only (fun b => W3.next ≤ b) W3 W' ∧ ∃ (a : Nat) (cs : List (List Nat)) (cv : Value) (K B : Nat → Prop), A'.tmps.get 9 = some cv ∧ A'.tmps.get 25 = some (.int .i64 (a : Int)) ∧ q = n - a ∧ a ≤ n ∧ CHto n nx pr a cs ∧ ChsAt W' cv cs K B ∧ Ky W' K B)
    (J := fun A' W' => A'.n = 54 ∧ A'.defers = [] ∧ A'.tmps.get 8 = some (.pointer (some ⟨l, 0, none⟩)) ∧ A'.tmps.get 24 = some (.int .i64 (n : Int)) ∧ Only (fun b => W3.next ≤ b) W3 W' ∧ ∃ (cs : List (List Nat)) (cv : Value) (K B : Nat → Prop), A'.tmps.get 9 = some cv ∧ CHto n nx pr n cs ∧ ChsAt W' cv cs K B ∧ Ky W' K B) (Rt := fun _ _ => False) (k := n) ?_ ?_ ?_ ?_
  · exact ⟨rfl, rfl, by simp [h8, h24], by simp [h8, h24], .refl _ _, 0, [], _, fun _ => False, fun _ => False, by simp [h9], by simp [h25], rfl, by omega, .nil _ _ _, .nil _ _ _, by rw [hKy]; exact ⟨fun b hb => hb.elim, fun b hb => hb.elim⟩⟩
  · rintro q ⟨tm, n, ds⟩ Wa ⟨hn, hd, h8, h24, hOa, a, cs, cv, K, B, h9, h25, hq, hal, hcs, hat, hky⟩ Q' hJ hRt hI
    simp only at hn hd h8 h24
    subst hn; subst hd
    simp only at h9 h25
    by_cases hlt : a < n
    case neg =>
      have hlt' : ¬ (a : Int) < n := by omega
      have e : a = n := by omega
      rw [e] at hcs
      try simp only [wpK_assoc]
      refine wpK_reg (fun R hR => by simp [h24, h25, hlt']; exact hR) ?_
      try simp only [wpK_assoc]
      first | refine wpK_onF (by simp [hlt]) ?_ | refine wpK_out (by simp [hlt]) ?_ | refine wpK_condF (by simp [hlt]) ?_ | refine wpK_endF (by simp [hlt]) (wpK_skip ?_) | refine wpK_endF (by simp [hlt]) ?_
      exact hJ _ _ ⟨rfl, rfl, by simp [h8, h24], by simp [h8, h24], hOa, cs, cv, K, B, by simp [h9], hcs, hat, hky⟩
    have hlt' : (a : Int) < n := by omega
    try simp only [wpK_assoc]
    refine wpK_reg (fun R hR => by simp [h24, h25, hlt']; exact hR) ?_
    try simp only [wpK_assoc]
    first | refine wpK_onT (by simp [hlt]) ?_ | refine wpK_outT (by simp [hlt]) ?_ | refine wpK_condT (by simp [hlt]) ?_ | refine wpK_endT (by simp [hlt]) ?_
    have na := hOa.1
    have hLa := hL.only hOa (fun hk => by have : l < W3.next := hL.1; omega)
    have lp := lnk_prior hLa (j := a) (by omega)
    have ia := ix94 l 40 a (by omega)
    refine wpK_block ?_
    try simp only [wpK_assoc]
    refine wpK_reg (fun R hR => by simp [h25]; exact hR) ?_
    by_cases hpa : pr a = -1
    case neg =>
      try simp only [wpK_assoc]
      refine wpK_reg (fun R hR => by simp [h8, lp, ia, hpa]; exact hR) ?_
      try simp only [wpK_assoc]
      first | refine wpK_onT (by simp []) ?_ | refine wpK_outT (by simp []) ?_ | refine wpK_condT (by simp []) ?_ | refine wpK_endT (by simp []) ?_
      simp only [leaves_exit, behind_normal, if_true]
      try simp only [wpK_assoc]
      refine wpK_reg1 (fun R hR => by simp [h25]; exact hR) ?_
      exact hI (n - (a + 1)) _ _ (by omega) ⟨rfl, rfl, by simp [h8, h24], by simp [h8, h24], hOa, a + 1, cs, cv, K, B, by simp [h9], by simp [i64_succ a (by omega)], rfl, by omega, hcs.skip hpa, hat, hky⟩
    rw [hpa] at lp
    try simp only [wpK_assoc]
    refine wpK_reg (fun R hR => by simp [h8, lp, ia]; exact hR) ?_
    try simp only [wpK_assoc]
    first | refine wpK_onF (by simp []) ?_ | refine wpK_out (by simp []) ?_ | refine wpK_condF (by simp []) ?_ | refine wpK_endF (by simp []) (wpK_skip ?_) | refine wpK_endF (by simp []) ?_
    try simp only [wpK_assoc]
    refine wpK_reg (fun R hR => by simp []; exact hR) ?_
    try simp only [wpK_assoc]
    refine wpK_reg (fun R hR => by simp []; exact hR) ?_
    rw [hKy] at hky
    obtain ⟨hk1, hk2⟩ := hky
    refine wpK_keep (fun tm' => tm'.get 8 = some (.pointer (some ⟨l, 0, none⟩)) ∧ tm'.get 9 = some (cv) ∧ tm'.get 11 = some (.slice none 0 0) ∧ tm'.get 12 = some (.int .i64 (a : Int)) ∧ tm'.get 24 = some (.int .i64 (n : Int)) ∧ tm'.get 25 = some (.int .i64 (a : Int))) ⟨by simp [h8, h9, h24, h25], by simp [h8, h9, h24, h25], by simp [h8, h9, h24, h25], by simp [h8, h9, h24, h25], by simp [h8, h9, h24, h25], by simp [h8, h9, h24, h25]⟩ ?_
    rintro tm ⟨h8, h9, h11, h12, h24, h25⟩
    have hHa := hH.lt hord hlt
    try simp only [wpK_assoc]
    refine wpK_while (I := fun q A' W' => A'.n = 54 ∧ A'.defers = [] ∧ A'.tmps.get 8 = some (.pointer (some ⟨l, 0, none⟩)) ∧ A'.tmps.get 9 = some (cv) ∧ A'.tmps.get 24 = some (.int .i64 (n : Int)) ∧ A'.tmps.get 25 = some (.int .i64 (a : Int)) ∧ Only (fun b => Wa.next ≤ b) Wa W' ∧ ∃ (c : List Nat) (b : Int) (xv : Value) (C : Nat → Prop), A'.tmps.get 11 = some xv ∧ A'.tmps.get 12 = some (.int .i64 b) ∧ Half n nx a c b ∧ (b = -1 ∨ ∃ y : Nat, y < n ∧ b = (y : Int) ∧ c.length + H y ≤ H a) ∧ (b = -1 → 0 < c.length) ∧ c.length ≤ n ∧ q = n + 1 - c.length ∧ GrowsN W' xv c.length (natsV c) 3 1 C ∧ ∀ b, C b → Wa.next ≤ b ∧ b < W'.next)
      (J := fun A' W' => A'.n = 54 ∧ A'.defers = [] ∧ A'.tmps.get 8 = some (.pointer (some ⟨l, 0, none⟩)) ∧ A'.tmps.get 9 = some (cv) ∧ A'.tmps.get 24 = some (.int .i64 (n : Int)) ∧ A'.tmps.get 25 = some (.int .i64 (a : Int)) ∧ Only (fun b => Wa.next ≤ b) Wa W' ∧ ∃ (c : List Nat) (xv : Value) (C : Nat → Prop), A'.tmps.get 11 = some xv ∧ Half n nx a c (-1) ∧ 0 < c.length ∧ GrowsN W' xv c.length (natsV c) 3 1 C ∧ ∀ b, C b → Wa.next ≤ b ∧ b < W'.next) (Rt := fun _ _ => False) (k := n + 1) ?_ ?_ ?_ ?_
    · exact ⟨rfl, rfl, by simp [h8, h9, h24, h25], by simp [h8, h9, h24, h25], by simp [h8, h9, h24, h25], by simp [h8, h9, h24, h25], .refl _ _, [], (a : Int), _, fun _ => False, by simp [h11], by simp [h12], .nil _ _ _, .inr ⟨a, hlt, rfl, by simp⟩, fun e => by omega, by simp, rfl, .nil _ _ _ _, fun b hb => hb.elim⟩
    · rintro q2 ⟨tm, n, ds⟩ Wb ⟨hn, hd, h8, h9, h24, h25, hOb, c, b, xv, C, h11, h12, hc, hb, hb1, hcl, hq2, hG0, hC⟩ Q2 hJ2 hRt2 hI2
      simp only at hn hd h8 h9 h24 h25
      subst hn; subst hd
      simp only at h11 h12
      by_cases hbm : b = -1
      · subst hbm
        try simp only [wpK_assoc]
        refine wpK_reg (fun R hR => by simp [h12]; exact hR) ?_
        try simp only [wpK_assoc]
        first | refine wpK_onF (by simp []) ?_ | refine wpK_out (by simp []) ?_ | refine wpK_condF (by simp []) ?_ | refine wpK_endF (by simp []) (wpK_skip ?_) | refine wpK_endF (by simp []) ?_
        exact hJ2 _ _ ⟨rfl, rfl, by simp [h8, h9, h24, h25], by simp [h8, h9, h24, h25], by simp [h8, h9, h24, h25], by simp [h8, h9, h24, h25], hOb, c, xv, C, by simp [h11], hc, hb1 rfl, hG0, hC⟩
      rcases hb with hb | ⟨y, hy, hby, hcy⟩
      · exact absurd hb hbm
      subst hby
      have hy1 : ¬ (y : Int) = -1 := by omega
      try simp only [wpK_assoc]
      refine wpK_reg (fun R hR => by simp [h12, hy1]; exact hR) ?_
      try simp only [wpK_assoc]
      first | refine wpK_onT (by simp []) ?_ | refine wpK_outT (by simp []) ?_ | refine wpK_condT (by simp []) ?_ | refine wpK_endT (by simp []) ?_
      obtain ⟨xv', Wc, k1, k2, k3, k4⟩ := grow_nat hG0 (by omega) y
      refine wpK_block ?_
      try simp only [wpK_assoc]
      refine wpK_reg1 (fun R hR => by simp [h11, h12, bs31, k1]; exact hR) ?_
      simp only [leaves_normal, behind_normal]
      have hOc := hOb.trans (k4.mono (fun b _ hb => (hC b hb).1))
      have hLc := hLa.only hOc (fun hk => by have : l < W3.next := hL.1; omega)
      have ln := lnk_next hLc (j := y) (by omega)
      have iy := ix94 l 0 y (by omega)
      rw [Nat.zero_add] at iy
      try simp only [wpK_assoc]
      refine wpK_reg1 (fun R hR => by simp [h8, h12, ln, iy]; exact hR) ?_
      have hcn : (c ++ [y]).length = c.length + 1 := by simp
      refine hI2 (n + 1 - (c ++ [y]).length) _ _ (by omega) ⟨rfl, rfl, by simp [h8, h9, h24, h25], by simp [h8, h9, h24, h25], by simp [h8, h9, h24, h25], by simp [h8, h9, h24, h25], hOc, c ++ [y], nx y, xv', _, by simp, by simp, hc.snoc hy, ?_, fun _ => by omega, by have := hH.lt hord hy; omega, rfl, k3, fun b hb => ?_⟩
      · rcases hLi.nxr y hy with e | ⟨z, hz, e⟩
        · exact .inl e
        · have := (hH y hy).1 z (hLi.rel hy e)
          exact .inr ⟨z, hz, e, by omega⟩
      · rcases hb with hb | hb
        · have := hC b hb; omega
        · have := hOb.1; omega
    · rintro A' W' hf; exact hf.elim
    rintro ⟨tm, n, ds⟩ Wb ⟨hn, hd, h8, h9, h24, h25, hOb, c, xv, C, h11, hc, hcl, hG0, hC⟩
    simp only at hn hd h8 h9 h24 h25
    subst hn; subst hd
    simp only at h11
    have nb := hOb.1
    have hatb := hat.only hOb (fun b _ hb hk => by have := hk1 b hb; omega) (fun b _ hb hk => by have := hk2 b hb; omega)
    obtain ⟨s, cv', Wc, k1, k2, k3, k4, k5⟩ := hatb.push hG0 (by have := hcs.len; omega) (fun b hb => (hk1 b hb).2.2) (fun b hb hk => by have := hk1 b hb; have := hC b hk; omega) (fun b hb => by have := hk2 b hb; omega) (fun b hb => (hC b hb).2)
    try simp only [wpK_assoc]
    refine wpK_reg1 (fun R hR => by simp [h9, h11, k1, k2]; exact hR) ?_
    simp only [leaves_normal, behind_normal]
    try simp only [wpK_assoc]
    refine wpK_reg1 (fun R hR => by simp [h25]; exact hR) ?_
    refine hI (n - (a + 1)) _ _ (by omega) ⟨rfl, rfl, by simp [h8, h24], by simp [h8, h24], (hOa.trans (hOb.mono (fun b _ hb => by omega))).trans (k5.mono (fun b _ hb => (hk1 b hb).1)), a + 1, cs ++ [c], cv', _, _, by simp, by simp [i64_succ a (by omega)], rfl, by omega, hcs.snoc hpa hc hcl, k4, ?_⟩
    rw [hKy]
    refine ⟨fun b hb => ?_, fun b hb => ?_⟩
    · rcases hb with hb | hb
      · have := hk1 b hb
        exact ⟨this.1, by omega, fun hh => hh.elim this.2.2 (fun hc => by have := hC b hc; omega)⟩
      · exact ⟨by omega, by omega, fun hh => hh.elim (fun hh => by have := hk2 b hh; omega) (fun hc => by have := hC b hc; omega)⟩
    · rcases hb with hb | hb
      · have := hk2 b hb; omega
      · have := hC b hb; omega
  · rintro A' W' hf; exact hf.elim
  rintro ⟨tm, n, ds⟩ W4 ⟨hn, hd, h8, h24, hO4, cs, cv, K, B, h9, hcs, hat, hky⟩
  simp only at hn hd h8 h24
  subst hn; subst hd
  simp only at h9
  rw [hKy] at hky
  try simp only [wpK_assoc]
  refine wpK_reg (fun R hR => by simp [h9]; exact hR) ?_
  exact wpK_ret ⟨.inr rfl, rfl, [cv, .int .i64 0], by simp, ⟨by have := hO4.1; omega, fun b hb hk => by rw [hO4.2 b (by omega) (by omega), hE03.2 b hb hk]⟩, nx, pr, met, cs, cv, K, B, rfl, hLi, hcs, hat, fun b hb => (hky.1 b hb).2.1, fun b hb => (hky.2 b hb).2⟩
def preC (cs : List (List Nat)) (i k : Nat) : List Nat := (cs.take i).flatten ++ (cs.getD i []).take k
theorem gdC {cs : List (List Nat)} {i : Nat} (h : i < cs.length) : cs[i]? = some (cs.getD i []) := by
  rw [List.getD_eq_getElem?_getD, List.getElem?_eq_getElem h]; rfl
theorem preC_split {cs : List (List Nat)} {i : Nat} (h : i < cs.length) (k : Nat) : ∃ t, cs.flatten = preC cs i k ++ t := by
  have e1 : cs.flatten = (cs.take i).flatten ++ (cs.drop i).flatten := by rw [← List.flatten_append, List.take_append_drop]
  have e2 : cs.drop i = cs.getD i [] :: cs.drop (i + 1) := by
    rw [List.drop_eq_getElem_cons h, List.getD_eq_getElem?_getD, List.getElem?_eq_getElem h]; rfl
  refine ⟨(cs.getD i []).drop k ++ (cs.drop (i + 1)).flatten, ?_⟩
  rw [e1, e2, List.flatten_cons, preC, List.append_assoc, ← List.append_assoc ((cs.getD i []).take k), List.take_append_drop]
theorem preC_next {cs : List (List Nat)} {i k : Nat} (hk : k < (cs.getD i []).length) : preC cs i (k + 1) = preC cs i k ++ [(cs.getD i []).getD k 0] := by
  unfold preC
  rw [List.append_assoc, List.take_add_one, List.getElem?_eq_getElem hk, gd_get hk]; rfl
theorem preC_end {cs : List (List Nat)} {i : Nat} (h : i < cs.length) : preC cs (i + 1) 0 = preC cs i (cs.getD i []).length := by
  unfold preC
  rw [List.take_zero, List.append_nil, List.take_length, List.take_add_one, gdC h, List.flatten_append]
  simp
theorem preC_new {cs : List (List Nat)} (hn : cs.flatten.Nodup) {i k : Nat} (hi : i < cs.length) (hk : k < (cs.getD i []).length) : (cs.getD i []).getD k 0 ∉ preC cs i k := by
  intro hx
  obtain ⟨t, e⟩ := preC_split hi (k + 1)
  rw [e, preC_next hk] at hn
  have h1 := (List.nodup_append.1 hn).1
  have h2 := (List.nodup_append.1 h1).2.2
  exact h2 _ hx _ (List.mem_singleton.2 rfl) rfl
theorem preC_all (cs : List (List Nat)) : preC cs cs.length 0 = cs.flatten := by
  unfold preC; rw [List.take_length, List.take_zero, List.append_nil]
theorem brow_put {W : AW} {b n : Nat} {s : Nat → Bool} (h : Var W b 4 (boolsL n s)) {j : Nat} (hj : j < n) (x : Bool) :
    ∃ W', aStoreVar T0 W 4 b j (.bool x) = some W' ∧ W'.next = W.next ∧ Only (fun c => c = b) W W' ∧ Var W' b 4 (boolsL n (updB s j x)) := by
  obtain ⟨W', g1, g2, g3, g4⟩ := var_store1 (t := 4) (v := .bool x) (o := j) h inf4 is4 rfl rfl (by rw [boolsL_len]; exact hj)
  rw [boolsL_set] at g4
  exact ⟨W', g1, g2, g3, g4⟩
theorem refAreChains_wp {W : AW} {v u : Value} {n : Nat} {r : Nat → Nat → Bool} {K K' B : Nat → Prop} {cs : List (List Nat)} (h : BMat W v n r K) (hn : n ≤ 40) (hu : ChsAt W u cs K' B) (hg : GoodC n r cs) (hll : cs.length ≤ 100000) (hK : ∀ b, K' b → b < W.next) (hB : ∀ b, B b → b < W.next) :
    WpF T0 48 [v, u] W (fun x W' => Ext W W' ∧ x = .bool true) := by
  refine wpF fun48 rfl ?_
  obtain ⟨m, f, hv, hM, -, -⟩ := h
  subst hv
  have hml : m < W.next := hM.outer.1
  have hfl : ∀ i, i < n → f i < W.next := fun i hi => (hM.row i hi).1
  obtain ⟨Au, cu, huE⟩ := hu.len
  have ll : ∀ W', aLen T0 W' 75 (rowV m n) = some (.int .i64 n) := fun W' => len_slice und75 _ _ _
  have lu : ∀ W', aLen T0 W' 58 u = some (.int .i64 cs.length) := fun W' => by rw [huE]; exact len_slice und58 _ _ _
  clear huE
  have mk := mk46 W n (by omega)
  obtain ⟨sb, hsb⟩ : ∃ b, b = W.next := ⟨_, rfl⟩
  obtain ⟨W2, hW2, hE2, hN2, hn2⟩ : ∃ W2, W2 = W.newCells 4 (boolsL n (fun _ => false)) ∧ Ext W W2 ∧ Var W2 sb 4 (boolsL n (fun _ => false)) ∧ W2.next = W.next + 1 := ⟨_, rfl, .newCells _ _ _, by rw [hsb]; exact Var.new _ _ _, rfl⟩
  rw [← hW2, ← hsb] at mk
  obtain ⟨mv, hmv⟩ : ∃ mv, mv = rowV m n := ⟨_, rfl⟩
  obtain ⟨sv, hsv⟩ : ∃ sv, sv = rowV sb n := ⟨_, rfl⟩
  have ixs : ∀ j, j < n → aIndexAddr T0 46 sv (.int .i64 (j : Int)) = some (.pointer (some ⟨sb, j, none⟩)) := fun j hj => by rw [hsv]; exact row_ix hj
  have hmat : ∀ W', Only (fun b => b = sb) W2 W' → ∀ {i j : Nat}, i < n → j < n → aIndexAddr T0 75 mv (.int .i64 (i : Int)) = some (.pointer (some ⟨m, i, none⟩)) ∧ aLoadVar T0 W' 46 m i = some (rowV (f i) n) ∧ aIndexAddr T0 46 (rowV (f i) n) (.int .i64 (j : Int)) = some (.pointer (some ⟨f i, j, none⟩)) ∧ aLoadVar T0 W' 4 (f i) j = some (.bool (r i j)) := fun W' ho i j hi hj => by
    have hM' := (hM.ext hE2).only ho (by omega) (fun i hi => by have := hfl i hi; omega)
    obtain ⟨a1, a2⟩ := hM'.at hi (Nat.le_refl _)
    rw [hmv]
    exact ⟨a1, a2, row_ix hj, hM'.cell hi hj⟩
  have hch : ∀ W', Only (fun b => b = sb) W2 W' → ChsAt W' u cs K' B := fun W' ho =>
    (hu.only hE2 (fun _ _ _ x => x) (fun _ _ _ x => x)).only ho (fun b _ hb hk => by have := hK b hb; omega) (fun b _ hb hk => by have := hB b hb; omega)
  rw [← hmv] at ll
  rw [← hsv] at mk
  rw [← hmv]
  try simp only [wpK_assoc]
  refine wpK_reg (fun R hR => by simp []; exact hR) ?_
  try simp only [wpK_assoc]
  refine wpK_reg (fun R hR => by simp [ll, opMakeSlice, mk]; exact hR) ?_
  try simp only [wpK_assoc]
  refine wpK_reg (fun R hR => by simp []; exact hR) ?_
  try simp only [wpK_assoc]
  refine wpK_reg (fun R hR => by simp []; exact hR) ?_
  refine wpK_keep (fun tm' => tm'.get 0 = some (mv) ∧ tm'.get 1 = some (u) ∧ tm'.get 5 = some (sv) ∧ tm'.get 6 = some (.int .i64 0) ∧ tm'.get 7 = some (.int .i64 0)) ⟨by simp [hmv], by simp [hmv], by simp [hmv], by simp [hmv], by simp [hmv]⟩ ?_
  rintro tm ⟨h0, h1, h5, h6, h7⟩
  try simp only [wpK_assoc]
  refine wpK_while (I := fun q A' W' => A'.n = 85 ∧ A'.defers = [] ∧ A'.tmps.get 0 = some (mv) ∧ A'.tmps.get 1 = some (u) ∧ A'.tmps.get 5 = some (sv) ∧ Only (fun b => b = sb) W2 W' ∧ ∃ (i : Nat), A'.tmps.get 6 = some (.int .i64 ((preC cs i 0).length : Int)) ∧ A'.tmps.get 7 = some (.int .i64 (i : Int)) ∧ q = cs.length - i ∧ i ≤ cs.length ∧ Var W' sb 4 (boolsL n (fun x => decide (x ∈ preC cs i 0))))
    (J := fun A' W' => A'.n = 85 ∧ A'.defers = [] ∧ A'.tmps.get 0 = some (mv) ∧ A'.tmps.get 1 = some (u) ∧ A'.tmps.get 5 = some (sv) ∧ Only (fun b => b = sb) W2 W' ∧ A'.tmps.get 6 = some (.int .i64 (n : Int))) (Rt := fun _ _ => False) (k := cs.length) ?_ ?_ ?_ ?_
  · exact ⟨rfl, rfl, by simp [h0, h1, h5], by simp [h0, h1, h5], by simp [h0, h1, h5], .refl _ _, 0, by simp [h6, preC], by simp [h7], rfl, by omega, by
      have e : boolsL n (fun x => decide (x ∈ preC cs 0 0)) = boolsL n (fun _ => false) := boolsL_congr fun j _ => by simp [preC]
      rw [e]; exact hN2⟩
  · rintro q ⟨tm, n, ds⟩ Wa ⟨hn, hd, h0, h1, h5, hOa, i, h6, h7, hq, hil, hSa⟩ Q' hJ hRt hI
    simp only at hn hd h0 h1 h5
    subst hn; subst hd
    simp only at h6 h7
    by_cases hlt : i < cs.length
    case neg =>
      have hlt' : ¬ (i : Int) < cs.length := by omega
      try simp only [wpK_assoc]
      refine wpK_reg (fun R hR => by simp [h1, h7, lu, hlt']; exact hR) ?_
      try simp only [wpK_assoc]
      first | refine wpK_onF (by simp [hlt]) ?_ | refine wpK_out (by simp [hlt]) ?_ | refine wpK_condF (by simp [hlt]) ?_ | refine wpK_endF (by simp [hlt]) (wpK_skip ?_) | refine wpK_endF (by simp [hlt]) ?_
      refine hJ _ _ ⟨rfl, rfl, by simp [h0, h1, h5], by simp [h0, h1, h5], by simp [h0, h1, h5], hOa, ?_⟩
      have : (preC cs i 0).length = n := by rw [show i = cs.length from by omega, preC_all, hg.len]
      rw [← this]; simp [h6]
    have hlt' : (i : Int) < cs.length := by omega
    try simp only [wpK_assoc]
    refine wpK_reg (fun R hR => by simp [h1, h7, lu, hlt']; exact hR) ?_
    try simp only [wpK_assoc]
    first | refine wpK_onT (by simp [hlt]) ?_ | refine wpK_outT (by simp [hlt]) ?_ | refine wpK_condT (by simp [hlt]) ?_ | refine wpK_endT (by simp [hlt]) ?_
    have hci := gdC hlt
    have hcm : cs.getD i [] ∈ cs := List.mem_of_getElem? hci
    have hprel : ∀ k, (preC cs i k).length ≤ n := fun k => by
      obtain ⟨t, e⟩ := preC_split hlt k
      have := congrArg List.length e
      rw [List.length_append, hg.len] at this; omega
    have hend := preC_end hlt
    have hcl : (cs.getD i []).length ≤ n := by
      have := hprel (cs.getD i []).length
      unfold preC at this
      rw [List.take_length, List.length_append] at this; omega
    have hnx : ∀ k, k < (cs.getD i []).length → preC cs i (k + 1) = preC cs i k ++ [(cs.getD i []).getD k 0] ∧ (cs.getD i []).getD k 0 ∉ preC cs i k ∧ (cs.getD i []).getD k 0 < n := fun k hk => ⟨preC_next hk, preC_new hg.nodup hlt hk, hg.lt _ (List.mem_flatten.2 ⟨_, hcm, gd_mem hk⟩)⟩
    have hadj := hg.adj _ hcm
    have hne := hg.ne _ hcm
    generalize cs.getD i [] = c at hci hcm hend hnx hadj hne hcl
    refine wpK_block ?_
    try simp only [wpK_assoc]
    refine wpK_reg (fun R hR => by simp []; exact hR) ?_
    refine wpK_keep (fun tm' => tm'.get 0 = some (mv) ∧ tm'.get 1 = some (u) ∧ tm'.get 5 = some (sv) ∧ tm'.get 6 = some (.int .i64 ((preC cs i 0).length : Int)) ∧ tm'.get 7 = some (.int .i64 (i : Int)) ∧ tm'.get 8 = some (.int .i64 0)) ⟨by simp [h0, h1, h5, h6, h7], by simp [h0, h1, h5, h6, h7], by simp [h0, h1, h5, h6, h7], by simp [h0, h1, h5, h6, h7], by simp [h0, h1, h5, h6, h7], by simp [h0, h1, h5, h6, h7]⟩ ?_
    rintro tm ⟨h0, h1, h5, h6, h7, h8⟩
    try simp only [wpK_assoc]
    refine wpK_while (I := fun q A' W' => A'.n = 85 ∧ A'.defers = [] ∧ A'.tmps.get 0 = some (mv) ∧ A'.tmps.get 1 = some (u) ∧ A'.tmps.get 5 = some (sv) ∧ A'.tmps.get 7 = some (.int .i64 (i : Int)) ∧ Only (fun b => b = sb) W2 W' ∧ ∃ (k : Nat), A'.tmps.get 6 = some (.int .i64 ((preC cs i k).length : Int)) ∧ A'.tmps.get 8 = some (.int .i64 (k : Int)) ∧ q = c.length - k ∧ k ≤ c.length ∧ Var W' sb 4 (boolsL n (fun x => decide (x ∈ preC cs i k))))
      (J := fun A' W' => A'.n = 85 ∧ A'.defers = [] ∧ A'.tmps.get 0 = some (mv) ∧ A'.tmps.get 1 = some (u) ∧ A'.tmps.get 5 = some (sv) ∧ A'.tmps.get 7 = some (.int .i64 (i : Int)) ∧ Only (fun b => b = sb) W2 W' ∧ A'.tmps.get 6 = some (.int .i64 ((preC cs i c.length).length : Int)) ∧ Var W' sb 4 (boolsL n (fun x => decide (x ∈ preC cs i c.length)))) (Rt := fun _ _ => False) (k := c.length) ?_ ?_ ?_ ?_
    · exact ⟨rfl, rfl, by simp [h0, h1, h5, h7], by simp [h0, h1, h5, h7], by simp [h0, h1, h5, h7], by simp [h0, h1, h5, h7], hOa, 0, by simp [h6], by simp [h8], rfl, by omega, hSa⟩
    · rintro q2 ⟨tm, n, ds⟩ Wb ⟨hn, hd, h0, h1, h5, h7, hOb, k, h6, h8, hq2, hkl, hSb⟩ Q2 hJ2 hRt2 hI2
      simp only at hn hd h0 h1 h5 h7
      subst hn; subst hd
      simp only at h6 h8
      obtain ⟨xu, ub, up, x1, x2, hG⟩ := (hch Wb hOb).at hci
      have lx := grows_len hG Wb
      by_cases hkt : k < c.length
      case neg =>
        have hkt' : ¬ (k : Int) < c.length := by omega
        have e : k = c.length := by omega
        rw [e] at h6 hSb
        try simp only [wpK_assoc]
        refine wpK_reg (fun R hR => by simp [h1, h7, h8, x1, x2, lx, hkt']; exact hR) ?_
        try simp only [wpK_assoc]
        first | refine wpK_onF (by simp [hkt]) ?_ | refine wpK_out (by simp [hkt]) ?_ | refine wpK_condF (by simp [hkt]) ?_ | refine wpK_endF (by simp [hkt]) (wpK_skip ?_) | refine wpK_endF (by simp [hkt]) ?_
        exact hJ2 _ _ ⟨rfl, rfl, by simp [h0, h1, h5, h7], by simp [h0, h1, h5, h7], by simp [h0, h1, h5, h7], by simp [h0, h1, h5, h7], hOb, by simp [h6], hSb⟩
      have hkt' : (k : Int) < c.length := by omega
      try simp only [wpK_assoc]
      refine wpK_reg (fun R hR => by simp [h1, h7, h8, x1, x2, lx, hkt']; exact hR) ?_
      try simp only [wpK_assoc]
      first | refine wpK_onT (by simp [hkt]) ?_ | refine wpK_outT (by simp [hkt]) ?_ | refine wpK_condT (by simp [hkt]) ?_ | refine wpK_endT (by simp [hkt]) ?_
      obtain ⟨eb, ep, y1, y2⟩ := nat_at hG hkt
      obtain ⟨hp1, hp2, hp3⟩ := hnx k hkt
      have hadk : 0 < k → r (c.getD (k - 1) 0) (c.getD k 0) = true := fun h => by
        have := hadj (k - 1) (by omega)
        rwa [show k - 1 + 1 = k from by omega] at this
      have hprk := hprel k
      obtain ⟨x, hx⟩ : ∃ x, x = c.getD k 0 := ⟨_, rfl⟩
      rw [← hx] at y2 hp1 hp2 hp3 hadk
      have hx1 : ¬ (x : Int) < 0 := by omega
      have hx2 : ¬ (n : Int) ≤ (x : Int) := by omega
      have hx3 : ¬ n ≤ x := by omega
      have is := ixs x hp3
      have ls := hSb.load1 (T := T0) und4 rfl (boolsL_at (fun x => decide (x ∈ preC cs i k)) hp3)
      simp only [decide_eq_false hp2] at ls
      obtain ⟨Wc, w1, w2, w3, w4⟩ := brow_put hSb hp3 true
      have hwl := i64_succ (preC cs i k).length (by omega)
      have fin : Var Wc sb 4 (boolsL n (fun x => decide (x ∈ preC cs i (k + 1)))) := by
        have e : boolsL n (fun x => decide (x ∈ preC cs i (k + 1))) = boolsL n (updB (fun x => decide (x ∈ preC cs i k)) x true) := boolsL_congr fun j _ => by
          rw [hp1]; unfold updB
          by_cases e : j = x
          · subst e; rw [if_pos rfl]; simp
          · rw [if_neg e]; simp [e]
        rw [e]; exact w4
      have hlen : (preC cs i (k + 1)).length = (preC cs i k).length + 1 := by rw [hp1]; simp
      refine wpK_block ?_
      try simp only [wpK_assoc]
      refine wpK_reg (fun R hR => by simp [h1, h7, h8, x1, x2, y1, y2]; exact hR) ?_
      by_cases hk0 : k = 0
      · have hk0' : ¬ (0 : Int) < (k : Int) := by omega
        have hk0'' : ¬ 0 < k := by omega
        try simp only [wpK_assoc]
        refine wpK_reg (fun R hR => by simp [h0, h1, h5, h7, h8, hx1, hx2, hx3, ll, is, ls, hk0', hk0'', undef]; exact hR) ?_
        try simp only [wpK_assoc]
        first | refine wpK_onF (by simp []) ?_ | refine wpK_out (by simp []) ?_ | refine wpK_condF (by simp []) ?_ | refine wpK_endF (by simp []) (wpK_skip ?_) | refine wpK_endF (by simp []) ?_
        try simp only [wpK_assoc]
        refine wpK_reg (fun R hR => by simp [h5, is, w1]; exact hR) ?_
        try simp only [wpK_assoc]
        refine wpK_reg1 (fun R hR => by simp [h6, hwl]; exact hR) ?_
        simp only [leaves_normal, behind_normal]
        try simp only [wpK_assoc]
        refine wpK_reg1 (fun R hR => by simp [h8]; exact hR) ?_
        exact hI2 (c.length - (k + 1)) _ _ (by omega) ⟨rfl, rfl, by simp [h0, h1, h5, h7], by simp [h0, h1, h5, h7], by simp [h0, h1, h5, h7], by simp [h0, h1, h5, h7], hOb.trans w3, k + 1, by simp [hlen], by simp [i64_succ k (by omega)], rfl, by omega, fin⟩
      · have hk0' : (0 : Int) < (k : Int) := by omega
        have hk0'' : 0 < k := by omega
        obtain ⟨eb', ep', y3, y4⟩ := nat_at hG (i := k - 1) (by omega)
        have hyl := (hnx (k - 1) (by omega)).2.2
        have hw1 : IntKind.i64.wrap ((k : Int) - 1) = ((k - 1 : Nat) : Int) := by rw [i64_in (by omega)]; omega
        have hr := hadk hk0''
        obtain ⟨y, hy⟩ : ∃ y, y = c.getD (k - 1) 0 := ⟨_, rfl⟩
        rw [← hy] at y4 hyl hr
        obtain ⟨a1, a2, a3, a4⟩ := hmat Wb hOb hyl hp3
        rw [hr] at a4
        try simp only [wpK_assoc]
        refine wpK_reg (fun R hR => by simp [h0, h1, h5, h7, h8, hx1, hx2, hx3, ll, is, ls, hk0', hk0'', hw1, x1, x2, y3, y4, a1, a2, a3, a4, undef]; exact hR) ?_
        try simp only [wpK_assoc]
        first | refine wpK_onF (by simp []) ?_ | refine wpK_out (by simp []) ?_ | refine wpK_condF (by simp []) ?_ | refine wpK_endF (by simp []) (wpK_skip ?_) | refine wpK_endF (by simp []) ?_
        try simp only [wpK_assoc]
        refine wpK_reg (fun R hR => by simp [h5, is, w1]; exact hR) ?_
        try simp only [wpK_assoc]
        refine wpK_reg1 (fun R hR => by simp [h6, hwl]; exact hR) ?_
        simp only [leaves_normal, behind_normal]
        try simp only [wpK_assoc]
        refine wpK_reg1 (fun R hR => by simp [h8]; exact hR) ?_
        exact hI2 (c.length - (k + 1)) _ _ (by omega) ⟨rfl, rfl, by simp [h0, h1, h5, h7], by simp [h0, h1, h5, h7], by simp [h0, h1, h5, h7], by simp [h0, h1, h5, h7], hOb.trans w3, k + 1, by simp [hlen], by simp [i64_succ k (by omega)], rfl, by omega, fin⟩
    · rintro A' W' hf; exact hf.elim
    rintro ⟨tm, n, ds⟩ Wb ⟨hn, hd, h0, h1, h5, h7, hOb, h6, hSb⟩
    simp only at hn hd h0 h1 h5 h7
    subst hn; subst hd
    simp only at h6
    obtain ⟨xu, ub, up, x1, x2, hG⟩ := (hch Wb hOb).at hci
    have lx := grows_len hG Wb
    have hne' : ¬ (c.length : Int) = 0 := by omega
    have hne'' : ¬ c.length = 0 := by omega
    have hne3 : ¬ c = [] := fun e => by rw [e] at hne; simp at hne
    try simp only [wpK_assoc]
    refine wpK_reg (fun R hR => by simp [h1, h7, x1, x2, lx, hne', hne'', hne3]; exact hR) ?_
    try simp only [wpK_assoc]
    first | refine wpK_onF (by simp [hne', hne'', hne3]) ?_ | refine wpK_out (by simp [hne', hne'', hne3]) ?_ | refine wpK_condF (by simp [hne', hne'', hne3]) ?_ | refine wpK_endF (by simp [hne', hne'', hne3]) (wpK_skip ?_) | refine wpK_endF (by simp [hne', hne'', hne3]) ?_
    simp only [leaves_normal, behind_normal]
    try simp only [wpK_assoc]
    refine wpK_reg1 (fun R hR => by simp [h7]; exact hR) ?_
    rw [← hend] at h6 hSb
    exact hI (cs.length - (i + 1)) _ _ (by omega) ⟨rfl, rfl, by simp [h0, h1, h5], by simp [h0, h1, h5], by simp [h0, h1, h5], hOb, i + 1, by simp [h6], by simp [i64_succ i (by omega)], rfl, by omega, hSb⟩
  · rintro A' W' hf; exact hf.elim
  rintro ⟨tm, n, ds⟩ W5 ⟨hn, hd, h0, h1, h5, hO5, h6⟩
  simp only at hn hd h0 h1 h5
  subst hn; subst hd
  simp only at h6
  try simp only [wpK_assoc]
  refine wpK_reg (fun R hR => by simp [h0, h6, ll]; exact hR) ?_
  exact wpK_ret ⟨.inr rfl, rfl, [.bool true], by simp, ⟨by have := hO5.1; omega, fun b hb hk => by rw [hO5.2 b (by omega) (by omega), hE2.2 b hb hk]⟩, rfl⟩
theorem bs22o (W : AW) (a b : Int) : aBuildSlice T0 W 22 1 [(0, pr a b)] = some (.slice (some ⟨W.next, 0, none⟩) 1 2, W.newCells 55 [.int .i64 a, .int .i64 b]) := by kernel_rfl
theorem grow_pair {W : AW} {v : Value} {l : List Edge} {K : Nat → Prop} (h : GrowsN W v l.length (flatE encP l) 55 2 K) (hm : l.length ≤ 100000) (a b : Int) :
    ∃ v' W', aAppend T0 (W.newCells 55 [.int .i64 a, .int .i64 b]) [22, 22] [v, .slice (some ⟨W.next, 0, none⟩) 1 2] = some (v', W') ∧ W'.next = W.next + 2 ∧ GrowsN W' v' (l ++ [(a, b)]).length (flatE encP (l ++ [(a, b)])) 55 2 (fun b => K b ∨ b = W.next + 1) ∧ Only K W W' := by
  have hE : Ext W (W.newCells 55 [.int .i64 a, .int .i64 b]) := .newCells _ _ _
  have hV := Var.new W 55 [.int .i64 a, .int .i64 b]
  have hx' : (W.newCells 55 [.int .i64 a, .int .i64 b]).cellsAt W.next 0 2 = some [.int .i64 a, .int .i64 b] := by
    rw [hV.cellsAt 0 2 (by simp)]; rfl
  obtain ⟨v', W', g1, g2, g3, g4⟩ := append_growsN (T := T0) (t := 22) (by omega) und22 inf55 is55 z55 rfl (h.only (K' := fun _ => False) hE (fun _ _ _ x => x)) (u := [.int .i64 a, .int .i64 b]) (bx := W.next) (c := 2) rfl hx' rfl (by rw [by55]; omega) (by omega)
  refine ⟨v', W', g1, by rw [g2, newCells_next], ?_, ⟨by rw [g2, newCells_next]; omega, fun b hb hk => ?_⟩⟩
  · rw [flatE_append, flatE_one, List.length_append]
    exact g3.mono (fun b hb => hb.elim .inl (fun e => .inr (by rw [newCells_next] at e; omega)))
  · rw [g4.2 b (by rw [newCells_next]; omega) hk, newCells_get, if_neg (by omega)]
theorem tmodo (a b : Nat) : (a : Int).tmod (b : Int) = ((a % b : Nat) : Int) := rfl
theorem ordOk_nil {n : Nat} (h1 : 1 ≤ n) (h2 : n ≤ 40) : OrdOk (n : Int) [] := by
  refine ⟨⟨by omega, by omega, by simp, fun e he => by simp at he⟩, fun a _ => ?_⟩
  have : ∀ k x y, wR (adjB []) k x y = false := by
    intro k
    induction k with
    | zero => intro x y; simp [wR, adjB]
    | succ k ih => intro x y; simp [wR, wS, ih]
  exact this _ _ _
theorem seven {a k : Nat} (ha : a < 40) (hk : k ≤ 40) : ∃ a7 a8 za : Nat, aBinI .mul .i64 (a : Int) .i64 7 = some (.int .i64 (a7 : Int)) ∧ IntKind.i64.wrap ((a7 : Int) + 3) = (a8 : Int) ∧ aBinI .rem .i64 (a8 : Int) .i64 ((k + 1 : Nat) : Int) = some (.int .i64 (za : Int)) := by
  refine ⟨a * 7, a * 7 + 3, (a * 7 + 3) % (k + 1), by rw [aBinI_mul, i64_in (by omega)]; rfl, by rw [i64_in (by omega)]; omega, ?_⟩
  have r1 := aBinI_rem .i64 ((a * 7 + 3 : Nat) : Int) ((k + 1 : Nat) : Int) (by omega)
  rw [tmodo] at r1
  exact r1
theorem order_wp {W : AW} {v : Value} (P : Int) {es : List Edge} (most : Nat) (hm1 : 1 ≤ most) (hm2 : most ≤ 40) (h : PairR W v es) (hl : es.length < 9223372036854775808) :
    WpF T0 52 [.int .i64 P, v, .int .i64 (most : Int)] W (fun u W' => Ext W W' ∧ ∃ (n : Nat) (ov : Value) (xs : List Edge), u = .tuple ⟨[.int .i64 (n : Int), ov]⟩ ∧ 1 ≤ n ∧ n ≤ most ∧ OrdOk (n : Int) xs ∧ PairR W' ov xs ∧ xs.length ≤ 40) := by
  refine wpF fun52 rfl ?_
  obtain ⟨Av, cv, hvv⟩ := h.len
  have ll : ∀ W', aLen T0 W' 22 v = some (.int .i64 es.length) := fun W' => by rw [hvv]; exact len_slice und22 _ _ _
  have vv := row_eq h
  obtain ⟨y0, hy0⟩ : ∃ y0 : Nat, IntKind.u64.wrap (IntKind.i64.wrap (P - 1)) = (y0 : Int) := ⟨(IntKind.u64.wrap (IntKind.i64.wrap (P - 1))).toNat, by rw [IntKind.wrap_u64]; omega⟩
  have hmw : IntKind.u64.wrap (most : Int) = (most : Int) := u64_nat (by omega)
  have r7 := aBinI_rem .u64 (y0 : Int) (most : Int) (by omega)
  rw [tmodo] at r7
  have hy7 : y0 % most < most := Nat.mod_lt _ (by omega)
  generalize y0 % most = y at r7 hy7
  obtain ⟨n, hn⟩ : ∃ n, n = y + 1 := ⟨_, rfl⟩
  have a1 : IntKind.i64.wrap (y : Int) = (y : Int) := i64_in (by omega)
  have a2 : IntKind.i64.wrap (1 + (y : Int)) = (n : Int) := by rw [i64_in (by omega)]; omega
  try simp only [wpK_assoc]
  refine wpK_reg (fun R hR => by simp []; exact hR) ?_
  try simp only [wpK_assoc]
  refine wpK_reg (fun R hR => by simp [conv_3_56, conv_56_3, hy0, hmw, r7, a1, a2]; exact hR) ?_
  try simp only [wpK_assoc]
  refine wpK_reg (fun R hR => by simp []; exact hR) ?_
  try simp only [wpK_assoc]
  refine wpK_reg (fun R hR => by simp []; exact hR) ?_
  refine wpK_keep (fun tm' => tm'.get 1 = some (v) ∧ tm'.get 8 = some (.int .i64 (n : Int)) ∧ tm'.get 9 = some (.slice none 0 0) ∧ tm'.get 10 = some (.int .i64 0)) ⟨by simp, by simp, by simp, by simp⟩ ?_
  rintro tm ⟨h1, h8, h9, h10⟩
  have hwn : IntKind.u64.wrap (n : Int) = (n : Int) := u64_nat (by omega)
  have hk1 : IntKind.i64.wrap ((n : Int) + 1) = ((n + 1 : Nat) : Int) := i64_succ n (by omega)
  try simp only [wpK_assoc]
  refine wpK_while (I := fun k A' W' => A'.n = 88 ∧ A'.defers = [] ∧ A'.tmps.get 1 = some (v) ∧ A'.tmps.get 8 = some (.int .i64 (n : Int)) ∧ Only (fun b => W.next ≤ b) W W' ∧ ∃ (i : Nat) (ov : Value) (xs : List Edge) (K : Nat → Prop), A'.tmps.get 9 = some ov ∧ A'.tmps.get 10 = some (.int .i64 (i : Int)) ∧ k = 40 - i ∧ i ≤ 40 ∧ i ≤ es.length ∧ GrowsN W' ov xs.length (flatE encP xs) 55 2 K ∧ (∀ b, K b → W.next ≤ b) ∧ xs.length ≤ i ∧ ∀ e ∈ xs, 0 ≤ e.1 ∧ e.1 < (n : Int) ∧ 0 ≤ e.2 ∧ e.2 < (n : Int))
    (J := fun A' W' => A'.n = 88 ∧ A'.defers = [] ∧ A'.tmps.get 1 = some (v) ∧ A'.tmps.get 8 = some (.int .i64 (n : Int)) ∧ Only (fun b => W.next ≤ b) W W' ∧ ∃ (ov : Value) (xs : List Edge) (K : Nat → Prop), A'.tmps.get 9 = some ov ∧ GrowsN W' ov xs.length (flatE encP xs) 55 2 K ∧ xs.length ≤ 40) (Rt := fun _ _ => False) (k := 40) ?_ ?_ ?_ ?_
  · exact ⟨rfl, rfl, by simp [h1, h8], by simp [h1, h8], .refl _ _, 0, _, [], fun _ => False, by simp [h9], by simp [h10], rfl, by omega, by omega, .nil _ _ _ _, fun b hb => hb.elim, by simp, fun e he => by simp at he⟩
  · rintro k ⟨tm, n, ds⟩ Wa ⟨hn, hd, h1, h8, hOa, i, ov, xs, K, h9, h10, hk, hi40, hies, hgr, hK, hx40, hgood⟩ Q' hJ' hRt hI
    simp only at hn hd h1 h8
    subst hn; subst hd
    simp only at h9 h10
    by_cases hlt : i < es.length
    case neg =>
      have hlt' : ¬ (i : Int) < es.length := by omega
      try simp only [wpK_assoc]
      refine wpK_reg (fun R hR => by simp [h1, h10, ll, hlt', undef]; exact hR) ?_
      try simp only [wpK_assoc]
      first | refine wpK_onF (by simp [hlt]) ?_ | refine wpK_out (by simp [hlt]) ?_ | refine wpK_condF (by simp [hlt]) ?_ | refine wpK_endF (by simp [hlt]) (wpK_skip ?_) | refine wpK_endF (by simp [hlt]) ?_
      exact hJ' _ _ ⟨rfl, rfl, by simp [h1, h8], by simp [h1, h8], hOa, ov, xs, K, by simp [h9], hgr, by omega⟩
    have hlt' : (i : Int) < es.length := by omega
    by_cases h40 : i < 40
    case neg =>
      have h40' : ¬ (i : Int) < 40 := by omega
      try simp only [wpK_assoc]
      refine wpK_reg (fun R hR => by simp [h1, h10, ll, hlt', h40']; exact hR) ?_
      try simp only [wpK_assoc]
      first | refine wpK_onF (by simp [hlt, h40]) ?_ | refine wpK_out (by simp [hlt, h40]) ?_ | refine wpK_condF (by simp [hlt, h40]) ?_ | refine wpK_endF (by simp [hlt, h40]) (wpK_skip ?_) | refine wpK_endF (by simp [hlt, h40]) ?_
      exact hJ' _ _ ⟨rfl, rfl, by simp [h1, h8], by simp [h1, h8], hOa, ov, xs, K, by simp [h9], hgr, by omega⟩
    have h40' : (i : Int) < 40 := by omega
    try simp only [wpK_assoc]
    refine wpK_reg (fun R hR => by simp [h1, h10, ll, hlt', h40']; exact hR) ?_
    try simp only [wpK_assoc]
    first | refine wpK_onT (by simp [hlt, h40]) ?_ | refine wpK_outT (by simp [hlt, h40]) ?_ | refine wpK_condT (by simp [hlt, h40]) ?_ | refine wpK_endT (by simp [hlt, h40]) ?_
    obtain ⟨⟨ea, eb⟩, hab⟩ : ∃ e : Edge, es[i] = e := ⟨_, rfl⟩
    have ha : es[i]? = some (ea, eb) := by rw [List.getElem?_eq_getElem hlt, hab]
    have hR := h.only hOa (fun b hb => by omega)
    obtain ⟨q, o, hx, hh⟩ := hR.at (T := T0) ha und22 sz55 .i64
    have la := load_of und3 rfl (hh 0 (.int .i64 ea) rfl)
    have lb := load_of und3 rfl (hh 1 (.int .i64 eb) rfl)
    rw [Nat.add_zero] at la
    obtain ⟨xa, hxa⟩ : ∃ z : Nat, IntKind.u64.wrap ea = (z : Int) := ⟨(IntKind.u64.wrap ea).toNat, by rw [IntKind.wrap_u64]; omega⟩
    obtain ⟨xb, hxb⟩ : ∃ z : Nat, IntKind.u64.wrap eb = (z : Int) := ⟨(IntKind.u64.wrap eb).toNat, by rw [IntKind.wrap_u64]; omega⟩
    have r1 := aBinI_rem .u64 (xa : Int) (n : Int) (by omega)
    have r2 := aBinI_rem .u64 (xb : Int) (n : Int) (by omega)
    rw [tmodo] at r1 r2
    have ha' : xa % n < n := Nat.mod_lt _ (by omega)
    have hb' : xb % n < n := Nat.mod_lt _ (by omega)
    generalize xa % n = a at r1 ha'
    generalize xb % n = b at r2 hb'
    have wa : IntKind.i64.wrap (a : Int) = (a : Int) := i64_in (by omega)
    have wb : IntKind.i64.wrap (b : Int) = (b : Int) := i64_in (by omega)
    refine wpK_block ?_
    try simp only [wpK_assoc]
    refine wpK_dn (wr := Tr.nil |>.set 33 0 |>.set 34 1 |>.set 35 2 |>.set 36 3 |>.set 37 4 |>.set 38 5 |>.set 39 6 |>.set 40 7 |>.set 41 8 |>.set 42 9 |>.set 43 10 |>.set 44 11 |>.set 45 12 |>.set 46 13 |>.set 47 14 |>.set 48 15 |>.set 49 16 |>.set 50 17 |>.set 51 18 |>.set 52 19 |>.set 11 20 |>.set 12 21) (bits := Tr.nil.lay 0 [0, 0, 3, 7, 15, 31, 0, 64, 255, 511, 0, 0, 3072, 7168, 15360, 31744, 0, 65536, 261120, 523264, 1023, 2097151]) (ord := [0, 1, 2, 3, 4, 5, 6, 7, 8, 9, 10, 11, 12, 13, 14, 15, 16, 17, 18, 19, 20, 21]) (by kernel_rfl) (by kernel_rfl) (by kernel_rfl) (fun G hG => by
      simp [h1, h8, h10, hx, ix55_0, ix55_1, la, lb, vv, conv_3_56, conv_56_3, hxa, hxb, hwn, r1, r2, wa, wb]
      exact hG) ?_
    refine wpK_keep (fun tm' => tm'.get 1 = some (v) ∧ tm'.get 8 = some (.int .i64 (n : Int)) ∧ tm'.get 9 = some (ov) ∧ tm'.get 10 = some (.int .i64 (i : Int)) ∧ tm'.get 11 = some (.int .i64 (a : Int)) ∧ tm'.get 12 = some (.int .i64 (b : Int))) ⟨by simp [h1, h8, h9, h10], by simp [h1, h8, h9, h10], by simp [h1, h8, h9, h10], by simp [h1, h8, h9, h10], by simp [h1, h8, h9, h10], by simp [h1, h8, h9, h10]⟩ ?_
    rintro tm ⟨h1, h8, h9, h10, h11, h12⟩
    have hwi := i64_succ i (by omega)
    by_cases hab2 : a = b
    · have hab4 : (a : Int) = (b : Int) := by omega
      try simp only [wpK_assoc]
      refine wpK_reg (fun R hR => by simp [h11, h12, hab4]; exact hR) ?_
      try simp only [wpK_assoc]
      first | refine wpK_onF (by simp []) ?_ | refine wpK_out (by simp []) ?_ | refine wpK_condF (by simp []) ?_ | refine wpK_endF (by simp []) (wpK_skip ?_) | refine wpK_endF (by simp []) ?_
      simp only [leaves_normal, behind_normal]
      refine wpK_keep (fun tm' => tm'.get 1 = some (v) ∧ tm'.get 8 = some (.int .i64 (n : Int)) ∧ tm'.get 9 = some (ov) ∧ tm'.get 10 = some (.int .i64 (i : Int))) ⟨by simp [h1, h8, h9, h10], by simp [h1, h8, h9, h10], by simp [h1, h8, h9, h10], by simp [h1, h8, h9, h10]⟩ ?_
      rintro tm ⟨h1, h8, h9, h10⟩
      try simp only [wpK_assoc]
      refine wpK_reg1 (fun R hR => by simp [h10, hwi]; exact hR) ?_
      exact hI (40 - (i + 1)) _ _ (by omega) ⟨rfl, rfl, by simp [h1, h8], by simp [h1, h8], hOa, i + 1, ov, xs, K, by simp [h9], by simp, rfl, by omega, by omega, hgr, hK, by omega, hgood⟩
    have hab3 : ¬ (a : Int) = (b : Int) := by omega
    try simp only [wpK_assoc]
    refine wpK_reg (fun R hR => by simp [h11, h12, hab3, hab2]; exact hR) ?_
    try simp only [wpK_assoc]
    first | refine wpK_onT (by simp [hab3, hab2]) ?_ | refine wpK_outT (by simp [hab3, hab2]) ?_ | refine wpK_condT (by simp [hab3, hab2]) ?_ | refine wpK_endT (by simp [hab3, hab2]) ?_
    refine wpK_keep (fun tm' => tm'.get 1 = some (v) ∧ tm'.get 8 = some (.int .i64 (n : Int)) ∧ tm'.get 9 = some (ov) ∧ tm'.get 10 = some (.int .i64 (i : Int)) ∧ tm'.get 11 = some (.int .i64 (a : Int)) ∧ tm'.get 12 = some (.int .i64 (b : Int))) ⟨by simp [h1, h8, h9, h10, h11, h12], by simp [h1, h8, h9, h10, h11, h12], by simp [h1, h8, h9, h10, h11, h12], by simp [h1, h8, h9, h10, h11, h12], by simp [h1, h8, h9, h10, h11, h12], by simp [h1, h8, h9, h10, h11, h12]⟩ ?_
    rintro tm ⟨h1, h8, h9, h10, h11, h12⟩
    obtain ⟨a7, a8, za, p1, p2, p3⟩ := seven (a := a) (k := n) (by omega) (by omega)
    obtain ⟨b7, b8, zb, p4, p5, p6⟩ := seven (a := b) (k := n) (by omega) (by omega)
    generalize ((n + 1 : Nat) : Int) = n1 at hk1 p3 p6
    try simp only [wpK_assoc]
    refine wpK_dn (wr := Tr.nil |>.set 56 0 |>.set 57 1 |>.set 58 2 |>.set 59 3 |>.set 60 4 |>.set 61 5 |>.set 62 6 |>.set 63 7 |>.set 64 8 |>.set 65 9 |>.set 66 10 |>.set 67 11 |>.set 68 12) (bits := Tr.nil.lay 0 [0, 1, 3, 0, 8, 31, 0, 64, 192, 0, 512, 1984, 4095]) (ord := [0, 1, 2, 3, 4, 5, 6, 7, 8, 9, 10, 11, 12]) (by kernel_rfl) (by kernel_rfl) (by kernel_rfl) (fun G hG => by
      simp [h8, h11, h12, hk1, p1, p2, p3, p4, p5, p6]
      exact hG) ?_
    refine wpK_keep (fun tm' => tm'.get 1 = some (v) ∧ tm'.get 8 = some (.int .i64 (n : Int)) ∧ tm'.get 9 = some (ov) ∧ tm'.get 10 = some (.int .i64 (i : Int)) ∧ tm'.get 11 = some (.int .i64 (a : Int)) ∧ tm'.get 12 = some (.int .i64 (b : Int)) ∧ tm'.get 68 = some (.bool (decide ((zb : Int) < (za : Int))))) ⟨by simp [h1, h8, h9, h10, h11, h12], by simp [h1, h8, h9, h10, h11, h12], by simp [h1, h8, h9, h10, h11, h12], by simp [h1, h8, h9, h10, h11, h12], by simp [h1, h8, h9, h10, h11, h12], by simp [h1, h8, h9, h10, h11, h12], by simp [h1, h8, h9, h10, h11, h12]⟩ ?_
    rintro tm ⟨h1, h8, h9, h10, h11, h12, h68⟩
    try simp only [wpK_assoc]
    refine wpK_cut (fun A' W' => A'.n = 88 ∧ A'.defers = [] ∧ A'.tmps.get 1 = some (v) ∧ A'.tmps.get 8 = some (.int .i64 (n : Int)) ∧ A'.tmps.get 9 = some (ov) ∧ A'.tmps.get 10 = some (.int .i64 (i : Int)) ∧ W' = Wa ∧ ∃ x y : Nat, x < n ∧ y < n ∧ A'.tmps.get 11 = some (.int .i64 (x : Int)) ∧ A'.tmps.get 12 = some (.int .i64 (y : Int))) (fun Q9 hJ9 => ?_) ?_
    · by_cases hgt : (zb : Int) < (za : Int)
      · rw [decide_eq_true hgt] at h68
        try simp only [wpK_assoc]
        first | refine wpK_onT (by simp [h68]) ?_ | refine wpK_outT (by simp [h68]) ?_ | refine wpK_condT (by simp [h68]) ?_ | refine wpK_endT (by simp [h68]) ?_
        try simp only [wpK_assoc]
        refine wpK_reg1 (fun R hR => by simp [h11, h12]; exact hR) ?_
        exact hJ9 _ _ ⟨rfl, rfl, by simp [h1, h8, h9, h10], by simp [h1, h8, h9, h10], by simp [h1, h8, h9, h10], by simp [h1, h8, h9, h10], rfl, b, a, hb', ha', by simp, by simp⟩
      · rw [decide_eq_false hgt] at h68
        try simp only [wpK_assoc]
        first | refine wpK_onF (by simp [h68]) ?_ | refine wpK_out (by simp [h68]) ?_ | refine wpK_condF (by simp [h68]) ?_ | refine wpK_endF (by simp [h68]) (wpK_skip ?_) | refine wpK_endF (by simp [h68]) ?_
        exact hJ9 _ _ ⟨rfl, rfl, by simp [h1, h8, h9, h10], by simp [h1, h8, h9, h10], by simp [h1, h8, h9, h10], by simp [h1, h8, h9, h10], rfl, a, b, ha', hb', by simp [h11], by simp [h12]⟩
    · rintro ⟨tm, n, ds⟩ Wz ⟨hn, hd, h1, h8, h9, h10, hWz, x, y, hxn, hyn, h11, h12⟩
      simp only at hn hd h1 h8 h9 h10
      subst hn; subst hd
      subst hWz
      simp only at h11 h12
      obtain ⟨v', Wc, q1, q2, q3, q4⟩ := grow_pair hgr (by omega) (x : Int) (y : Int)
      try simp only [wpK_assoc]
      refine wpK_reg1 (fun R hR => by simp [h9, h11, h12, build55, bs22o, q1]; exact hR) ?_
      simp only [leaves_normal, behind_normal]
      try simp only [wpK_assoc]
      refine wpK_reg1 (fun R hR => by simp [h10, hwi]; exact hR) ?_
      have hl1 : (xs ++ [((x : Int), (y : Int))]).length = xs.length + 1 := by simp
      refine hI (40 - (i + 1)) _ _ (by omega) ⟨rfl, rfl, by simp [h1, h8], by simp [h1, h8], hOa.trans (q4.mono (fun b _ hb => hK b hb)), i + 1, v', xs ++ [((x : Int), (y : Int))], _, by simp, by simp, rfl, by omega, by omega, q3, fun c hc => ?_, by omega, fun e he => ?_⟩
      · rcases hc with hc | hc
        · exact hK c hc
        · have := hOa.1; omega
      · rw [List.mem_append, List.mem_singleton] at he
        rcases he with he | he
        · exact hgood e he
        · subst he; simp only; omega
  · rintro A' W' hf; exact hf.elim
  rintro ⟨tm, n, ds⟩ W3 ⟨hn, hd, h1, h8, hO3, ov, xs, K, h9, hgr, hx40⟩
  simp only at hn hd h1 h8
  subst hn; subst hd
  simp only at h9
  have hRo : PairR W3 ov xs := hgr.row encP_len
  have hE3 : Ext W W3 := ⟨hO3.1, fun b hb hk => hO3.2 b hb (by omega)⟩
  by_cases hok : OrdOk (n : Int) xs
  · try simp only [wpK_assoc]
    refine wpK_x1 (fun R hR => by
        simp [h8, h9, opExtract, aExtract, aEnter, fun42, short_other, aCallV]; rw [callS_none]
        refine (order_ok hRo (by omega) hok).mono ?_
        rintro _ W4 ⟨hE4, x, rfl, hB⟩
        simp [h8, h9, opExtract, aExtract]; exact hR x W4 (And.intro hE4 hB)) ?_
    rintro x W4 ⟨hE4, hB⟩
    try simp only [wpK_assoc]
    refine wpK_reg (fun R hR => by simp []; exact hR) ?_
    try simp only [wpK_assoc]
    first | refine wpK_onF (by simp []) ?_ | refine wpK_out (by simp []) ?_ | refine wpK_condF (by simp []) ?_ | refine wpK_endF (by simp []) (wpK_skip ?_) | refine wpK_endF (by simp []) ?_
    try simp only [wpK_assoc]
    refine wpK_reg (fun R hR => by simp [h8, h9]; exact hR) ?_
    exact wpK_ret ⟨.inr rfl, rfl, [.int .i64 (n : Int), ov], by simp, hE3.trans hE4, n, ov, xs, rfl, by omega, by omega, hok, hRo.ext hE4, hx40⟩
  · try simp only [wpK_assoc]
    refine wpK_x0 (fun R hR => by
        simp [h8, h9, opExtract, aExtract, aEnter, fun42, short_other, aCallV]; rw [callS_none]
        refine (order_no hRo (by omega) hok).mono ?_
        rintro _ W4 ⟨hE4, rfl⟩
        simp [h8, h9, opExtract, aExtract]; exact hR W4 hE4) ?_
    rintro W4 hE4
    try simp only [wpK_assoc]
    refine wpK_reg (fun R hR => by simp []; exact hR) ?_
    try simp only [wpK_assoc]
    first | refine wpK_onT (by simp []) ?_ | refine wpK_outT (by simp []) ?_ | refine wpK_condT (by simp []) ?_ | refine wpK_endT (by simp []) ?_
    try simp only [wpK_assoc]
    refine wpK_reg (fun R hR => by simp [h8]; exact hR) ?_
    exact wpK_ret ⟨.inr rfl, rfl, [.int .i64 (n : Int), .slice none 0 0], by simp, hE3.trans hE4, n, .slice none 0 0, [], rfl, by omega, by omega, ordOk_nil (by omega) (by omega), .nil _, by simp⟩
theorem CHto.ch {n : Nat} {nx pr : Nat → Int} {cs : List (List Nat)} (h : CHto n nx pr n cs) : CH n nx pr cs := ⟨h.heads, h.ne, h.lt, h.adj, h.last⟩
theorem CHto.heads_len {n : Nat} {nx pr : Nat → Int} {cs : List (List Nat)} (h : CHto n nx pr n cs) : cs.length = (headS n pr).length := by
  have := congrArg List.length h.heads
  rw [List.length_map] at this; exact this
theorem half_ex {n : Nat} {R : Nat → Nat → Bool} {nx pr : Nat → Int} {met : Nat} {H : Nat → Nat} (hL : LinkI n R nx pr met n) (hH : IsH n R H) {a : Nat} : ∀ m b c, b < n → H b ≤ m → Half n nx a c (b : Int) → ∃ c', Half n nx a c' (-1) ∧ 0 < c'.length := by
  intro m
  induction m with
  | zero =>
    intro b c hb hm hc
    have h1 := hc.snoc hb
    rcases hL.nxr b hb with e | ⟨y, hy, e⟩
    · rw [e] at h1; exact ⟨_, h1, by simp⟩
    · have := (hH b hb).1 y (hL.rel hb e); omega
  | succ m ih =>
    intro b c hb hm hc
    have h1 := hc.snoc hb
    rcases hL.nxr b hb with e | ⟨y, hy, e⟩
    · rw [e] at h1; exact ⟨_, h1, by simp⟩
    · have := (hH b hb).1 y (hL.rel hb e)
      rw [e] at h1
      exact ih y _ hy (by omega) h1
theorem chto_ex {n : Nat} {R : Nat → Nat → Bool} {nx pr : Nat → Int} {met : Nat} (hL : LinkI n R nx pr met n) (hR : Ord n R) : ∀ a, a ≤ n → ∃ cs, CHto n nx pr a cs
  | 0, _ => ⟨[], .nil _ _ _⟩
  | a + 1, ha => by
    obtain ⟨cs, hcs⟩ := chto_ex hL hR a (by omega)
    by_cases hp : pr a = -1
    · obtain ⟨H, hH⟩ := isH_ex hR
      obtain ⟨c, hc, hl⟩ := half_ex hL hH (H a) a [] (by omega) (Nat.le_refl _) (.nil n nx a)
      exact ⟨_, hcs.snoc hp hc hl⟩
    · exact ⟨cs, hcs.skip hp⟩
theorem GoodC.all {n : Nat} {R : Nat → Nat → Bool} {cs : List (List Nat)} (h : GoodC n R cs) {x : Nat} (hx : x < n) : x ∈ cs.flatten := by
  apply Classical.byContradiction
  intro hn
  have := nodup_le (l := x :: cs.flatten) (s := List.range n) (List.nodup_cons.2 ⟨hn, h.nodup⟩) (fun y hy => by
    rw [List.mem_range]
    rcases List.mem_cons.1 hy with e | e
    · rw [e]; exact hx
    · exact h.lt y e)
  rw [List.length_cons, List.length_range, h.len] at this
  omega
theorem GoodC.far {n : Nat} {R : Nat → Nat → Bool} {cs : List (List Nat)} (h : GoodC n R cs) (hR : Ord n R) {c : List Nat} (hc : c ∈ cs) : ∀ d k, k + d + 1 < c.length → R (c.getD k 0) (c.getD (k + d + 1) 0) = true := by
  intro d
  induction d with
  | zero => intro k hk; exact h.adj c hc k hk
  | succ d ih =>
    intro k hk
    have h1 := ih k (by omega)
    have h2 := h.adj c hc (k + d + 1) (by omega)
    exact hR.tr h1 h2
theorem GoodC.weak {n : Nat} {R : Nat → Nat → Bool} {cs : List (List Nat)} (h : GoodC n R cs) (hR : Ord n R) {ls : List Nat} (h1 : ls.Nodup) (h2 : ∀ x ∈ ls, x < n) (h3 : ∀ x ∈ ls, ∀ y ∈ ls, R x y = false) : ls.length ≤ cs.length := by
  have hex : ∀ x, x < n → ∃ i, ∃ hi : i < cs.length, x ∈ cs[i] := fun x hx => by
    obtain ⟨c, hc, hxc⟩ := List.mem_flatten.1 (h.all hx)
    obtain ⟨i, hi, e⟩ := List.mem_iff_getElem.1 hc
    exact ⟨i, hi, by rw [e]; exact hxc⟩
  obtain ⟨ix, hix⟩ : ∃ ix : Nat → Nat, ∀ x, x < n → ∃ hi : ix x < cs.length, x ∈ cs[ix x] :=
    ⟨fun x => if hx : x < n then (hex x hx).choose else 0, fun x hx => by simp only [dif_pos hx]; exact (hex x hx).choose_spec⟩
  have := nodup_le (l := ls.map ix) (s := List.range cs.length) (nodup_map h1 fun x hx y hy e => by
    obtain ⟨i1, x1⟩ := hix x (h2 x hx)
    obtain ⟨i2, y1⟩ := hix y (h2 y hy)
    have hc : cs[ix x] ∈ cs := List.getElem_mem i1
    have y1' : y ∈ cs[ix x] := by simpa only [e] using y1
    obtain ⟨j, hj, ej⟩ := mem_gd x1
    obtain ⟨k, hk, ek⟩ := mem_gd y1'
    rcases Nat.lt_trichotomy j k with hjk | hjk | hjk
    · have := h.far hR hc (k - j - 1) j (by omega)
      rw [show j + (k - j - 1) + 1 = k from by omega, ej, ek, h3 x hx y hy] at this; cases this
    · rw [← ej, ← ek, hjk]
    · have := h.far hR hc (j - k - 1) k (by omega)
      rw [show k + (j - k - 1) + 1 = j from by omega, ej, ek, h3 y hy x hx] at this; cases this) (fun z hz => by
    obtain ⟨x, hx, rfl⟩ := List.mem_map.1 hz
    exact List.mem_range.2 (hix x (h2 x hx)).1)
  simpa using this
theorem LinkI.weak {n : Nat} {R : Nat → Nat → Bool} {nx pr nx' pr' : Nat → Int} {met met' : Nat} (h : LinkI n R nx pr met n) (h' : LinkI n R nx' pr' met' n) (hR : Ord n R) : (antiS n nx met).length ≤ (headS n pr').length := by
  obtain ⟨cs, hcs⟩ := chto_ex h' hR n (Nat.le_refl _)
  rw [← hcs.heads_len]
  have hg := hcs.ch.good h' hR
  refine hg.weak hR (List.Pairwise.filter _ List.nodup_range) (fun x hx => List.mem_range.1 (List.mem_filter.1 hx).1) (fun x hx y hy => ?_)
  have hx' := List.mem_filter.1 hx
  have hy' := List.mem_filter.1 hy
  cases e : R x y with
  | false => rfl
  | true =>
    have := h.next_met hx'.2 (List.mem_range.1 hx'.1) y e
    have h2 := hy'.2
    simp only [inA, this, Bool.not_true, Bool.false_and] at h2
    cases h2
theorem LinkI.same {n : Nat} {R : Nat → Nat → Bool} {nx pr nx' pr' : Nat → Int} {met met' : Nat} (h : LinkI n R nx pr met n) (h' : LinkI n R nx' pr' met' n) (hR : Ord n R) : (antiS n nx met).length = (headS n pr').length := by
  have h1 := h.count hR
  have h2 := h'.count hR
  have h3 := h.weak h' hR
  have h4 := h'.weak h hR
  omega
theorem max_ex (H : Nat → Nat) : ∀ n, 1 ≤ n → ∃ m, (∃ a, a < n ∧ H a = m) ∧ ∀ a, a < n → H a ≤ m
  | 0, h => by omega
  | 1, _ => ⟨H 0, ⟨0, by omega, rfl⟩, fun a ha => by rw [show a = 0 from by omega]; exact Nat.le_refl _⟩
  | n + 2, _ => by
    obtain ⟨m, ⟨a, ha, e⟩, h2⟩ := max_ex H (n + 1) (by omega)
    by_cases hm : H (n + 1) ≤ m
    · exact ⟨m, ⟨a, by omega, e⟩, fun b hb => by
        by_cases hb2 : b = n + 1
        · rw [hb2]; exact hm
        · exact h2 b (by omega)⟩
    · exact ⟨H (n + 1), ⟨n + 1, by omega, rfl⟩, fun b hb => by
        by_cases hb2 : b = n + 1
        · rw [hb2]; exact Nat.le_refl _
        · have := h2 b (by omega); omega⟩
theorem up_le {n : Nat} {R : Nat → Nat → Bool} {H H' : Nat → Nat} {m' : Nat} (hR : Ord n R) (hH : IsH n R H) (hH' : IsH n (fun a b => R b a) H') (hm' : ∀ a, a < n → H' a ≤ m') : ∀ m a, a < n → H a = m → H' a + m ≤ m' := by
  intro m
  induction m with
  | zero => intro a ha _; have := hm' a ha; omega
  | succ m ih =>
    intro a ha e
    rcases (hH a ha).2 with e0 | ⟨b, hb, eb⟩
    · omega
    · have h1 := ih b (hR.lt hb).2 (by omega)
      have h2 := (hH' b (hR.lt hb).2).1 a hb
      omega
theorem max_same {n : Nat} {R : Nat → Nat → Bool} {H H' : Nat → Nat} {m m' : Nat} (hR : Ord n R) (hH : IsH n R H) (hH' : IsH n (fun a b => R b a) H') (h1 : (∃ a, a < n ∧ H a = m) ∧ ∀ a, a < n → H a ≤ m) (h2 : (∃ a, a < n ∧ H' a = m') ∧ ∀ a, a < n → H' a ≤ m') : m = m' := by
  obtain ⟨⟨a, ha, ea⟩, h1⟩ := h1
  obtain ⟨⟨b, hb, eb⟩, h2⟩ := h2
  have x1 := up_le hR hH hH' h2 m a ha ea
  have x2 := up_le hR.rev hH' hH h1 m' b hb eb
  omega
def pOf (ps : List Nat) (i : Nat) : Nat := ps.getD i 0
noncomputable def topV (ll : List (List Int)) (ps : List Nat) (j : Nat) : Int := gainD ll.length (mAt ll) (pOf ps) (ll.length - 1) j
structure Rounds (ll : List (List Int)) (ps : List Nat) (vs : List Int) (r i j : Nat) : Prop where
  len : vs.length = ll.length
  low : ∀ q, q < ll.length → 0 ≤ gI vs q ∧ gI vs q ≤ topV ll ps q
  part : ∀ q, q < ll.length → gainM (mAt ll) (pOf ps) (gainD ll.length (mAt ll) (pOf ps) r) (if q < j then i + 1 else i) q ≤ gI vs q
theorem gain_le {ll : List (List Int)} (hok : OffOk ll) {ps : List Nat} (hp : PermN ll.length (pOf ps)) {i j : Nat} (hi : i < ll.length) (hj : j < ll.length) : gain (mAt ll) (pOf ps) i j ≤ 2000000 ∧ -2000000 ≤ gain (mAt ll) (pOf ps) i j := by
  have h1 := hok.bound hi hj
  have h2 := hok.bound hi (hp.1 i hi)
  simp only [gain]; omega
theorem topV_le {ll : List (List Int)} (hok : OffOk ll) {ps : List Nat} (hp : PermN ll.length (pOf ps)) {j : Nat} (hj : j < ll.length) : topV ll ps j ≤ 22000000 := by
  have := gainD_bound (n := ll.length) (c := mAt ll) (p := pOf ps) (B := 2000000) (fun i j hi hj => (gain_le hok hp hi hj).1) (by omega) hj (fun i hi => hp.1 i hi) (ll.length - 1)
  have h12 := hok.2.1
  have e : ((ll.length - 1 : Nat) : Int) ≤ 11 := by omega
  simp only [topV]; omega
theorem topV_closed {ll : List (List Int)} (hok : OffOk ll) {ps : List Nat} {B : Nat → Int} (ha : IsAssign ll ps B) {i j : Nat} (hi : i < ll.length) (hj : j < ll.length) : topV ll ps (pOf ps i) + gain (mAt ll) (pOf ps) i j ≤ topV ll ps j := by
  have h12 := hok.2.1
  have hp : PermN ll.length (pOf ps) := ha.2.2.1.perm ha.1
  exact gainD_closed (by omega) hp (fun q hq => by
    have h1 := ha.2.1.most (by omega) hq
    have h2 := ha.2.2.1.worth ha.2.1 ha.1 (by omega)
    show worthN ll.length (mAt ll) q ≤ worthN ll.length (mAt ll) (fun i => ps.getD i 0)
    omega) hi hj
theorem Rounds.start {ll : List (List Int)} {ps : List Nat} {vs : List Int} (h1 : vs.length = ll.length) (h2 : ∀ q, gI vs q = 0) : Rounds ll ps vs 0 0 0 where
  len := h1
  low := fun q hq => by rw [h2]; exact ⟨Int.le_refl _, gainD_mono (r := 0) (by omega) q⟩
  part := fun q hq => by rw [h2]; simp [gainM, gainD]
theorem Rounds.upd {ll : List (List Int)} (hok : OffOk ll) {ps : List Nat} {B : Nat → Int} (ha : IsAssign ll ps B) {vs : List Int} {r i j : Nat} (h : Rounds ll ps vs r i j) (hi : i < ll.length) (hj : j < ll.length) :
    Rounds ll ps (vs.set j (max (gI vs j) (gI vs (pOf ps i) + mAt ll i j - mAt ll i (pOf ps i)))) r i (j + 1) := by
  have hp : PermN ll.length (pOf ps) := ha.2.2.1.perm ha.1
  have hpi := hp.1 i hi
  have hcl := topV_closed hok ha hi hj
  have hg : gain (mAt ll) (pOf ps) i j = mAt ll i j - mAt ll i (pOf ps i) := rfl
  have hl := h.len
  refine ⟨by simp [h.len], fun q hq => ?_, fun q hq => ?_⟩
  · rw [gI_set (by omega)]
    by_cases e : q = j
    · rw [if_pos e, e]
      have a := h.low j hj
      have b := h.low (pOf ps i) hpi
      omega
    · rw [if_neg e]; exact h.low q hq
  · rw [gI_set (by omega)]
    by_cases e : q = j
    · subst e
      rw [if_pos rfl, if_pos (Nat.lt_succ_self _)]
      have a := h.part q hq
      rw [if_neg (Nat.lt_irrefl _)] at a
      have b := h.part (pOf ps i) hpi
      have b2 := gainM_ge (c := mAt ll) (p := pOf ps) (r := gainD ll.length (mAt ll) (pOf ps) r) (j := pOf ps i) (m := if pOf ps i < q then i + 1 else i)
      simp only [gainM]; omega
    · rw [if_neg e]
      have a := h.part q hq
      by_cases hlt : q < j
      · rw [if_pos hlt] at a; rw [if_pos (by omega)]; exact a
      · rw [if_neg hlt] at a; rw [if_neg (by omega)]; exact a
theorem Rounds.row {ll : List (List Int)} {ps : List Nat} {vs : List Int} {r i : Nat} (h : Rounds ll ps vs r i ll.length) : Rounds ll ps vs r (i + 1) 0 :=
  ⟨h.len, h.low, fun q hq => by have := h.part q hq; rw [if_pos hq] at this; rw [if_neg (by omega)]; exact this⟩
theorem Rounds.round {ll : List (List Int)} {ps : List Nat} {vs : List Int} {r : Nat} (h : Rounds ll ps vs r ll.length 0) : Rounds ll ps vs (r + 1) 0 0 :=
  ⟨h.len, h.low, fun q hq => by have := h.part q hq; rw [if_neg (by omega)] at this; rw [if_neg (by omega)]; exact this⟩
theorem Rounds.rest {ll : List (List Int)} {ps : List Nat} {vs : List Int} (h : Rounds ll ps vs ll.length 0 0) : ∀ q, q < ll.length → gI vs q = topV ll ps q := fun q hq => by
  have h1 := h.part q hq
  rw [if_neg (by omega)] at h1
  have h2 := (h.low q hq).2
  have h3 := gainD_mono (n := ll.length) (c := mAt ll) (p := pOf ps) (show ll.length - 1 ≤ ll.length by omega) q
  simp only [gainM] at h1
  simp only [topV] at h2 ⊢; omega
structure IsPrices (ll : List (List Int)) (ps : List Nat) (B : Nat → Int) (us vs : List Int) : Prop where
  asg : IsAssign ll ps B
  ul : us.length = ll.length
  vl : vs.length = ll.length
  top : ∀ q, q < ll.length → gI vs q = topV ll ps q
  us : ∀ i, i < ll.length → gI us i = mAt ll i (pOf ps i) - gI vs (pOf ps i)
theorem topV_ge {ll : List (List Int)} {ps : List Nat} (q : Nat) : 0 ≤ topV ll ps q := gainD_mono (r := 0) (by omega) q

theorem sumN_tight {f g : Nat → Int} : ∀ {n : Nat}, (∀ i, i < n → f i ≤ g i) → sumN n g ≤ sumN n f → ∀ i, i < n → f i = g i
  | 0, _, _, i, hi => by omega
  | n + 1, h, e, i, hi => by
    have h1 := sumN_le (n := n) (f := f) (g := g) (fun i hi => h i (by omega))
    have h2 := h n (by omega)
    simp only [sumN] at e
    by_cases hin : i = n
    · subst hin; omega
    · exact sumN_tight (n := n) (fun i hi => h i (by omega)) (by omega) i (by omega)
theorem IsAssign.permN {ll : List (List Int)} {ps : List Nat} {B : Nat → Int} (h : IsAssign ll ps B) : PermN ll.length (pOf ps) := h.2.2.1.perm h.1
theorem IsAssign.worth {ll : List (List Int)} (hok : OffOk ll) {ps : List Nat} {B : Nat → Int} (h : IsAssign ll ps B) : worthN ll.length (mAt ll) (pOf ps) = B 0 := by
  have h12 := hok.2.1
  exact h.2.2.1.worth h.2.1 h.1 (by omega)
theorem IsAssign.most {ll : List (List Int)} (hok : OffOk ll) {ps : List Nat} {B : Nat → Int} (h : IsAssign ll ps B) {q : Nat → Nat} (hq : PermN ll.length q) : worthN ll.length (mAt ll) q ≤ B 0 := by
  have h12 := hok.2.1
  exact h.2.1.most (by omega) hq
theorem IsPrices.cover {ll : List (List Int)} (hok : OffOk ll) {ps : List Nat} {B : Nat → Int} {us vs : List Int} (h : IsPrices ll ps B us vs) {i j : Nat} (hi : i < ll.length) (hj : j < ll.length) : mAt ll i j ≤ gI us i + gI vs j := by
  have h1 := topV_closed hok h.asg hi hj
  have h2 := h.us i hi
  have hp := h.asg.permN
  have h3 := h.top j hj
  have h4 := h.top (pOf ps i) (hp.1 i hi)
  have hg : gain (mAt ll) (pOf ps) i j = mAt ll i j - mAt ll i (pOf ps i) := rfl
  omega
theorem IsPrices.sum {ll : List (List Int)} (hok : OffOk ll) {ps : List Nat} {B : Nat → Int} {us vs : List Int} (h : IsPrices ll ps B us vs) {q : Nat → Nat} (hq : PermN ll.length q) : sumN ll.length (fun i => gI us i + gI vs (q i)) = B 0 := by
  have hp := h.asg.permN
  have e1 : sumN ll.length (fun i => gI us i + gI vs (q i)) = sumN ll.length (gI us) + sumN ll.length (gI vs) := by
    rw [sumN_add (f := gI us) (g := fun i => gI vs (q i)), sumN_perm hq.1 hq.2 (gI vs)]
  have e2 : sumN ll.length (gI us) = sumN ll.length (fun i => mAt ll i (pOf ps i)) - sumN ll.length (fun i => gI vs (pOf ps i)) := by
    rw [← sumN_sub (f := fun i => mAt ll i (pOf ps i)) (g := fun i => gI vs (pOf ps i))]
    exact sumN_congr (fun i hi => h.us i hi)
  have e3 := sumN_perm hp.1 hp.2 (gI vs)
  have e4 : sumN ll.length (fun i => mAt ll i (pOf ps i)) = B 0 := h.asg.worth hok
  omega
theorem IsPrices.tight {ll : List (List Int)} (hok : OffOk ll) {ps ps' : List Nat} {B B' : Nat → Int} {us vs : List Int} (h : IsPrices ll ps' B' us vs) (ha : IsAssign ll ps B) {i : Nat} (hi : i < ll.length) : mAt ll i (pOf ps i) = gI us i + gI vs (pOf ps i) := by
  have hp := ha.permN
  have h1 := h.sum hok hp
  have h2 := ha.worth hok
  have h3 := ha.most hok h.asg.permN
  have h4 := h.asg.worth hok
  exact sumN_tight (f := fun i => mAt ll i (pOf ps i)) (g := fun i => gI us i + gI vs (pOf ps i)) (fun i hi => h.cover hok hi (hp.1 i hi)) (by
    have : sumN ll.length (fun i => mAt ll i (pOf ps i)) = B 0 := h2
    omega) i hi
theorem IsPrices.same {ll : List (List Int)} (hok : OffOk ll) {ps ps' : List Nat} {B B' : Nat → Int} {us vs : List Int} (h : IsPrices ll ps' B' us vs) (ha : IsAssign ll ps B) : B' 0 = B 0 := by
  have h3 := ha.most hok h.asg.permN
  have h4 := h.asg.worth hok
  have h5 := h.asg.most hok ha.permN
  have h6 := ha.worth hok
  omega
theorem permN_id (n : Nat) : PermN n (fun i => i) := ⟨fun i hi => hi, fun i j _ _ e => e⟩
theorem IsPrices.sumI {ll : List (List Int)} (hok : OffOk ll) {ps : List Nat} {B : Nat → Int} {us vs : List Int} (h : IsPrices ll ps B us vs) : sumN ll.length (fun i => gI us i + gI vs i) = B 0 := h.sum hok (permN_id _)
theorem IsPrices.bound {ll : List (List Int)} (hok : OffOk ll) {ps : List Nat} {B : Nat → Int} {us vs : List Int} (h : IsPrices ll ps B us vs) {i : Nat} (hi : i < ll.length) : (0 ≤ gI vs i ∧ gI vs i ≤ 22000000) ∧ -23000000 ≤ gI us i ∧ gI us i ≤ 1000000 := by
  have hp := h.asg.permN
  have v1 := fun j (hj : j < ll.length) => (h.top j hj ▸ ⟨topV_ge j, topV_le hok hp hj⟩ : 0 ≤ gI vs j ∧ gI vs j ≤ 22000000)
  have h2 := h.us i hi
  have h3 := v1 _ (hp.1 i hi)
  have h4 := hok.bound (i := i) (j := pOf ps i) hi (hp.1 i hi)
  exact ⟨v1 i hi, by omega, by omega⟩
theorem IsPrices.are {ll : List (List Int)} (hok : OffOk ll) {ps ps' : List Nat} {B B' : Nat → Int} {us vs : List Int} (h : IsPrices ll ps' B' us vs) (ha : IsAssign ll ps B) (w : Int) : ArePr ll us vs w ↔ w = B 0 := by
  have e := h.sumI hok
  have e2 := h.same hok ha
  constructor
  · intro hh
    have := hh.2.2.2.2.2.2
    omega
  · intro hw
    refine ⟨hok, h.ul, h.vl, within_of fun i hi => ?_, within_of fun i hi => ?_, fun i j hi hj => h.cover hok hi hj, by omega⟩
    · have := (h.bound hok (i := i) (by rw [← h.ul]; exact hi)).2; omega
    · have := (h.bound hok (i := i) (by rw [← h.vl]; exact hi)).1; omega
def ChoAt (n : Nat) (c : Nat → Nat → Int) (B : Nat → Int) (ps : List Nat) (k : Nat) : Prop := ps.getD k 0 < n ∧ (tk (fun i => ps.getD i 0) k).testBit (ps.getD k 0) = false ∧
  c k (ps.getD k 0) + B (tk (fun i => ps.getD i 0) (k + 1)) = B (tk (fun i => ps.getD i 0) k) ∧
  ∀ q, q < ps.getD k 0 → ¬ ((tk (fun i => ps.getD i 0) k).testBit q = false ∧ c k q + B (tk (fun i => ps.getD i 0) k ||| 1 <<< q) = B (tk (fun i => ps.getD i 0) k))
def TS (ps : List Nat) : Nat := tk (fun i => ps.getD i 0) ps.length
theorem TS_bit {ps : List Nat} {x : Nat} : (TS ps).testBit x = true ↔ ∃ i, i < ps.length ∧ pOf ps i = x := tk_bit
structure Pre (n : Nat) (ps : List Nat) : Prop where
  len : ps.length ≤ n
  lt : ∀ i, i < ps.length → pOf ps i < n
  dis : ∀ i j, i < j → j < ps.length → pOf ps i ≠ pOf ps j
theorem Pre.nil (n : Nat) : Pre n [] := ⟨by simp, fun i h => by simp at h, fun i j _ h => by simp at h⟩
theorem Pre.ts {n : Nat} {ps : List Nat} (h : Pre n ps) : TS ps < 2 ^ n := tk_lt h.lt
theorem Pre.pc {n : Nat} {ps : List Nat} (h : Pre n ps) (hn : n ≤ 40) : pc (TS ps) = ps.length := tk_cnt (n := n) hn h.lt h.dis
theorem Pre.full {n : Nat} {ps : List Nat} (h : Pre n ps) (hn : n ≤ 40) (e : ps.length = n) : TS ps = 2 ^ n - 1 := by
  subst e; exact tk_full hn h.lt h.dis
theorem Pre.snoc {n : Nat} {ps : List Nat} (h : Pre n ps) (hl : ps.length < n) {x : Nat} (hx : x < n) (hb : (TS ps).testBit x = false) : Pre n (ps ++ [x]) := by
  have g : ∀ i, i < ps.length → pOf (ps ++ [x]) i = pOf ps i := fun i hi => getD_app hi
  have g2 : pOf (ps ++ [x]) ps.length = x := getD_last
  refine ⟨by simp; omega, fun i hi => ?_, fun i j hij hj => ?_⟩
  · simp at hi
    by_cases e : i = ps.length
    · subst e; rw [g2]; exact hx
    · rw [g i (by omega)]; exact h.lt i (by omega)
  · simp at hj
    by_cases e : j = ps.length
    · subst e
      rw [g2, g i hij]
      intro he
      rw [TS_bit.2 ⟨i, hij, he⟩] at hb; cases hb
    · rw [g i (by omega), g j (by omega)]; exact h.dis i j hij (by omega)
theorem BestN.bound {n : Nat} {c : Nat → Nat → Int} {B : Nat → Int} (hB : BestN n c B) (hn : n ≤ 12) (hc : ∀ i j, i < n → j < n → -1000000 ≤ c i j ∧ c i j ≤ 1000000) : ∀ m t, t < 2 ^ n → pc t + m = n → -(1000000 * (m : Int)) ≤ B t ∧ B t ≤ 1000000 * (m : Int) := by
  intro m
  induction m with
  | zero =>
    intro t ht e
    by_cases hf : t = 2 ^ n - 1
    · subst hf; rw [hB.full]; omega
    · obtain ⟨q, h1, h2, h3⟩ := hB.is t ht hf
      have := (pc_or hn ht h1 h2).2; omega
  | succ m ih =>
    intro t ht e
    by_cases hf : t = 2 ^ n - 1
    · subst hf; rw [hB.full]; omega
    · obtain ⟨q, h1, h2, h3⟩ := hB.is t ht hf
      have hp := pc_or hn ht h1 h2
      have h4 := ih (t ||| 1 <<< q) (or_ltp ht h1) (by omega)
      have h5 := hc (pc t) q (by omega) h1
      omega
def FarR (n : Nat) (c : Nat → Nat → Int) (B : Nat → Int) (ps : List Nat) (j : Nat) (W : AW) (bv : Value) (w : Int) : Prop :=
  (bv = .slice none 0 0 ∧ w = 0 ∧ ∀ q, q < j → (TS ps).testBit q = true) ∨
  ((∃ a n c, bv = .slice (some a) n c) ∧ ∃ x rs, x < j ∧ (TS ps).testBit x = false ∧ w = c ps.length x + B (TS ps ||| 1 <<< x) ∧ (∀ q, q < j → (TS ps).testBit q = false → c ps.length q + B (TS ps ||| 1 <<< q) ≤ w) ∧
    (∀ q, q < x → (TS ps).testBit q = false → c ps.length q + B (TS ps ||| 1 <<< q) < w) ∧ IntR W bv ((x :: rs).map Int.ofNat) ∧ (ps ++ x :: rs).length = n ∧ ∀ k, ps.length < k → k < n → ChoAt n c B (ps ++ x :: rs) k)
variable {n : Nat} {c : Nat → Nat → Int} {B : Nat → Int} {ps : List Nat} {j : Nat} {W W' : AW} {bv bv' : Value} {w w' : Int}
theorem FarR.start : FarR n c B ps 0 W (.slice none 0 0) 0 := .inl ⟨rfl, rfl, fun q hq => by omega⟩
theorem FarR.ext (h : FarR n c B ps j W bv w) (he : Ext W W') : FarR n c B ps j W' bv w := by
  rcases h with h | ⟨h0, x, rs, h1, h2, h3, h4, h5, h6, h7⟩
  · exact .inl h
  · exact .inr ⟨h0, x, rs, h1, h2, h3, h4, h5, h6.ext he, h7⟩
theorem FarR.skip (h : FarR n c B ps j W bv w) (hb : (TS ps).testBit j = true) : FarR n c B ps (j + 1) W bv w := by
  rcases h with ⟨h1, h2, h3⟩ | ⟨h0, x, rs, h1, h2, h3, h4, h5, h6, h7⟩
  · refine .inl ⟨h1, h2, fun q hq => ?_⟩
    by_cases e : q = j
    · subst e; exact hb
    · exact h3 q (by omega)
  · refine .inr ⟨h0, x, rs, by omega, h2, h3, fun q hq hf => ?_, h5, h6, h7⟩
    by_cases e : q = j
    · subst e; rw [hb] at hf; cases hf
    · exact h4 q (by omega) hf
theorem FarR.stay (h : FarR n c B ps j W bv w) (h0 : bv ≠ .slice none 0 0) (hw : c ps.length j + B (TS ps ||| 1 <<< j) ≤ w) : FarR n c B ps (j + 1) W bv w := by
  rcases h with ⟨h1, h2, h3⟩ | ⟨h0, x, rs, h1, h2, h3, h4, h5, h6, h7⟩
  · exact absurd h1 h0
  · refine .inr ⟨h0, x, rs, by omega, h2, h3, fun q hq hf => ?_, h5, h6, h7⟩
    by_cases e : q = j
    · subst e; exact hw
    · exact h4 q (by omega) hf
theorem FarR.new (h : FarR n c B ps j W bv w) (hb : (TS ps).testBit j = false) (hw : bv = .slice none 0 0 ∨ w < c ps.length j + B (TS ps ||| 1 <<< j)) {rs : List Nat} (h0 : ∃ a n c, bv' = .slice (some a) n c) (hr : IntR W' bv' ((j :: rs).map Int.ofNat))
    (hl : (ps ++ j :: rs).length = n) (hc : ∀ k, ps.length < k → k < n → ChoAt n c B (ps ++ j :: rs) k) : FarR n c B ps (j + 1) W' bv' (c ps.length j + B (TS ps ||| 1 <<< j)) := by
  have key : ∀ q, q < j → (TS ps).testBit q = false → c ps.length q + B (TS ps ||| 1 <<< q) < c ps.length j + B (TS ps ||| 1 <<< j) := fun q hq hf => by
    rcases h with ⟨h1, h2, h3⟩ | ⟨⟨a, m, e, g0⟩, x, rs, h1, h2, h3, h4, h5, h6, h7⟩
    · rw [h3 q hq] at hf; cases hf
    · rcases hw with hw | hw
      · rw [g0] at hw; cases hw
      · have := h4 q hq hf; omega
  refine .inr ⟨h0, j, rs, by omega, hb, rfl, fun q hq hf => ?_, key, hr, hl, hc⟩
  by_cases e : q = j
  · subst e; exact Int.le_refl _
  · exact Int.le_of_lt (key q (by omega) hf)

theorem len58 (W : AW) (A : Option Addr) (n c : Nat) : aLen T0 W 58 (.slice A n c) = some (.int .i64 n) := len_slice und58 _ _ _
def ChIn (W : AW) (n : Nat) (R : Nat → Nat → Bool) (cv : Value) (cs : List (List Nat)) : Prop := GoodC n R cs ∧ cs.length ≤ n ∧ (∃ nx pr met, LinkI n R nx pr met n ∧ cs.length = (headS n pr).length) ∧ ∃ K B, ChsAt W cv cs K B ∧ (∀ b, K b → b < W.next) ∧ ∀ b, B b → b < W.next
theorem ChIn.ext {W W' : AW} {n : Nat} {R : Nat → Nat → Bool} {cv : Value} {cs : List (List Nat)} (h : ChIn W n R cv cs) (he : Ext W W') : ChIn W' n R cv cs :=
  let ⟨h1, h2, h3, K, B, h4, h5, h6⟩ := h
  ⟨h1, h2, h3, K, B, h4.only he (fun _ _ _ x => x) (fun _ _ _ x => x), fun b hb => Nat.lt_of_lt_of_le (h5 b hb) he.1, fun b hb => Nat.lt_of_lt_of_le (h6 b hb) he.1⟩
def AnIn (W : AW) (n : Nat) (R : Nat → Nat → Bool) (av : Value) (ls : List Nat) : Prop := AntiL n R ls ∧ ls.length ≤ n ∧ (∃ nx pr met, LinkI n R nx pr met n ∧ ls.length = (antiS n nx met).length) ∧ ∃ K, GrowsN W av ls.length (natsV ls) 3 1 K
theorem AnIn.ext {W W' : AW} {n : Nat} {R : Nat → Nat → Bool} {av : Value} {ls : List Nat} (h : AnIn W n R av ls) (he : Ext W W') : AnIn W' n R av ls :=
  let ⟨h1, h2, h3, K, h4⟩ := h
  ⟨h1, h2, h3, K, h4.only he (fun _ _ _ x => x)⟩
theorem ChIn.same {W W' : AW} {n : Nat} {R : Nat → Nat → Bool} {cv av : Value} {cs : List (List Nat)} {ls : List Nat} (h : ChIn W n R cv cs) (h' : AnIn W' n R av ls) (hR : Ord n R) : cs.length = ls.length := by
  obtain ⟨_, _, ⟨nx, pr, met, h1, h2⟩, _⟩ := h
  obtain ⟨_, _, ⟨nx', pr', met', h3, h4⟩, _⟩ := h'
  rw [h2, h4, h3.same h1 hR]
def LoIn (W : AW) (n : Nat) (R : Nat → Nat → Bool) (H : Nat → Nat) (m : Nat) (wv : Value) (c : List Nat) : Prop := c.length = m + 1 ∧ IsLong n R H m c ∧ ∃ K, GrowsN W wv c.length (natsV c) 3 1 K
theorem LoIn.ext {W W' : AW} {n : Nat} {R : Nat → Nat → Bool} {H : Nat → Nat} {m : Nat} {wv : Value} {c : List Nat} (h : LoIn W n R H m wv c) (he : Ext W W') : LoIn W' n R H m wv c :=
  let ⟨h1, h2, K, h3⟩ := h
  ⟨h1, h2, K, h3.only he (fun _ _ _ x => x)⟩
theorem head_le (n : Nat) (pr : Nat → Int) : (headS n pr).length ≤ n := Nat.le_trans (List.length_filter_le _ _) (by simp)
theorem anti_le (n : Nat) (nx : Nat → Int) (met : Nat) : (antiS n nx met).length ≤ n := Nat.le_trans (List.length_filter_le _ _) (by simp)
theorem chains_in {W : AW} {v : Value} {n : Nat} {es : List Edge} (h : PairR W v es) (hl : es.length < 4611686018427387904) (hT : tabsIn T0 T0.tabs W = true) (h0 : 0 < W.next) (hok : OrdOk (n : Int) es) :
    WpF T0 44 [.int .i64 (n : Int), v] W (fun u W' => Ext W W' ∧ ∃ cv cs, u = .tuple ⟨[cv, .int .i64 0]⟩ ∧ ChIn W' n (relO n es) cv cs) :=
  (chains_ok h hl hT h0 hok).mono (fun u W' ⟨h1, nx, pr, met, cs, cv, K, B, h2, h3, h4, h5, h6, h7⟩ => ⟨h1, cv, cs, h2, h4.ch.good h3 hok.ord, by rw [h4.heads_len]; exact head_le _ _, ⟨nx, pr, met, h3, h4.heads_len⟩, K, B, h5, h6, h7⟩)
theorem antichain_in {W : AW} {v : Value} {n : Nat} {es : List Edge} (h : PairR W v es) (hl : es.length < 4611686018427387904) (hT : tabsIn T0 T0.tabs W = true) (h0 : 0 < W.next) (hok : OrdOk (n : Int) es) :
    WpF T0 45 [.int .i64 (n : Int), v] W (fun u W' => Ext W W' ∧ ∃ av ls, u = .tuple ⟨[av, .int .i64 0]⟩ ∧ AnIn W' n (relO n es) av ls) :=
  (antichain_ok h hl hT h0 hok).mono (fun u W' ⟨h1, nx, pr, met, a, h2, h3, h4⟩ => ⟨h1, a, antiS n nx met, h2, h3.anti, anti_le _ _ _, ⟨nx, pr, met, h3, rfl⟩, _, h4⟩)
theorem longest_in {W : AW} {v : Value} {n m : Nat} {es : List Edge} {H : Nat → Nat} (h : PairR W v es) (hl : es.length < 4611686018427387904) (hT : tabsIn T0 T0.tabs W = true) (h0 : 0 < W.next) (hok : OrdOk (n : Int) es) (hH : IsH n (relO n es) H) (hmax : (∃ a, a < n ∧ H a = m) ∧ ∀ a, a < n → H a ≤ m) :
    WpF T0 47 [.int .i64 (n : Int), v] W (fun u W' => Ext W W' ∧ ∃ wv c, u = .tuple ⟨[wv, .int .i64 0]⟩ ∧ LoIn W' n (relO n es) H m wv c) :=
  (longest_ok h hl hT h0 hok hH hmax).mono (fun u W' ⟨h1, c, cv, K, h2, h3, h4, h5⟩ => ⟨h1, cv, c, h2, h3, h4, K, h5⟩)
theorem level_anti {n : Nat} {R : Nat → Nat → Bool} {H : Nat → Nat} (hR : Ord n R) (hH : IsH n (fun a b => R b a) H) (q : Nat) : AntiL n R ((List.range n).filter fun x => decide (H x = q)) := by
  refine antiL_of (List.Pairwise.filter _ List.pairwise_lt_range) (fun x hx => List.mem_range.1 (List.mem_filter.1 hx).1) (fun x hx y hy => ?_)
  have hx' := List.mem_filter.1 hx
  have hy' := List.mem_filter.1 hy
  cases e : R x y with
  | false => rfl
  | true =>
    have h1 := (hH y (List.mem_range.1 hy'.1)).1 x e
    have h2 := of_decide_eq_true hx'.2
    have h3 := of_decide_eq_true hy'.2
    omega
theorem range_snoc (p : Nat → Bool) (k : Nat) : (List.range (k + 1)).filter p = if p k = true then (List.range k).filter p ++ [k] else (List.range k).filter p := by
  rw [List.range_succ, List.filter_append]
  by_cases h : p k = true
  · rw [if_pos h]; simp [h]
  · rw [if_neg h]; simp [h]
theorem pairDilworth_wp {W : AW} {v : Value} (P : Int) {es : List Edge} (h : PairR W v es) (hl : es.length < 9223372036854775808) (htb : tabsIn T0 T0.tabs W = true) (hW0 : 0 < W.next) :
    WpF T0 12 [.int .i64 P, v] W (fun u _ => u = .bool true) := by
  refine wpF fun12 rfl ?_
  try simp only [wpK_assoc]
  refine wpK_reg (fun R hR => by simp []; exact hR) ?_
  have hor := order_wp P 24 (by omega) (by omega) h hl
  try simp only [wpK_assoc]
  refine wpK_x3 (P := fun (n : Nat) (ov : Value) (xs : List Edge) W' => Ext W W' ∧ 1 ≤ n ∧ n ≤ 24 ∧ OrdOk (n : Int) xs ∧ PairR W' ov xs ∧ xs.length ≤ 40) (fun Rq hRq => by
    simp [aEnter, fun52, short_other, aCallV]; rw [callS_none]
    refine hor.mono ?_
    rintro _ W8 ⟨hE8, n', ov', xs', rfl, p1, p2, p3, o1, o2⟩
    simp [opExtract, aExtract]
    exact hRq n' ov' xs' W8 (And.intro hE8 (And.intro p1 (And.intro p2 (And.intro p3 (And.intro o1 o2)))))) ?_
  rintro N x xs W0 ⟨hE0, hN1, hN24, hok, hP, hx⟩
  obtain ⟨ov, hov⟩ : ∃ ov, ov = x := ⟨_, rfl⟩
  rw [← hov] at hP
  have n0 := hE0.1
  have hxl : xs.length < 4611686018427387904 := by omega
  have hord := hok.ord
  have hN63 : N < 9223372036854775808 := by omega
  obtain ⟨H, hH⟩ := isH_ex hord
  obtain ⟨H2, hH2⟩ := isH_ex hord.rev
  obtain ⟨m, hm⟩ := max_ex H N hN1
  obtain ⟨m2, hm2⟩ := max_ex H2 N hN1
  have hmm := max_same hord hH hH2 hm hm2
  have hmN : m < N := by obtain ⟨⟨a, ha, ea⟩, _⟩ := hm; have := hH.lt hord ha; omega
  rw [← hmm] at hm2
  clear hmm
  refine wpK_keep (fun tm' => tm'.get 5 = some (.int .i64 (N : Int)) ∧ tm'.get 6 = some (ov)) ⟨by simp [hov], by simp [hov]⟩ ?_
  rintro tm ⟨h5, h6⟩
  clear hov
  try simp only [wpK_assoc]
  refine wpK_x1 (fun R hR => by
      simp [h5, h6, opExtract, aExtract, aEnter, fun42, short_other, aCallV]; rw [callS_none]
      refine (order_ok hP hxl hok).mono ?_
      rintro _ W1 ⟨hE1, x, rfl, hB⟩
      simp [h5, h6, opExtract, aExtract]; exact hR x W1 (And.intro hE1 hB)) ?_
  rintro x W1 ⟨hE1, hB⟩
  have hE1' := hE0.trans hE1
  have n1 := hE1'.1
  refine wpK_keep (fun tm' => tm'.get 5 = some (.int .i64 (N : Int)) ∧ tm'.get 6 = some (ov) ∧ tm'.get 7 = some (x) ∧ tm'.get 8 = some (.bool true)) ⟨by simp [h5, h6], by simp [h5, h6], by simp [h5, h6], by simp [h5, h6]⟩ ?_
  rintro tm ⟨h5, h6, h7, h8⟩
  have hP1 := hP.ext hE1
  try simp only [wpK_assoc]
  refine wpK_x2 (fun R hR => by
      simp [h5, h6, opExtract, aExtract, aEnter, fun44, short_other, aCallV]; rw [callS_none]
      refine (chains_in hP1 hxl (tabs_ext htb hW0 hE1') (by omega) hok).mono ?_
      rintro _ W3 ⟨hE3, cv, cs, rfl, hC⟩
      simp [h5, h6, opExtract, aExtract]; exact hR cv cs W3 (And.intro hE3 hC)) ?_
  rintro cv cs W3 ⟨hE3, hC⟩
  have hE3' := hE1'.trans hE3
  have n3 := hE3'.1
  have hP3 := hP1.ext hE3
  refine wpK_keep (fun tm' => tm'.get 5 = some (.int .i64 (N : Int)) ∧ tm'.get 6 = some (ov) ∧ tm'.get 7 = some (x) ∧ tm'.get 8 = some (.bool true) ∧ tm'.get 9 = some (cv) ∧ tm'.get 10 = some (.int .i64 0)) ⟨by simp [h5, h6, h7, h8], by simp [h5, h6, h7, h8], by simp [h5, h6, h7, h8], by simp [h5, h6, h7, h8], by simp [h5, h6, h7, h8], by simp [h5, h6, h7, h8]⟩ ?_
  rintro tm ⟨h5, h6, h7, h8, h9, h10⟩
  try simp only [wpK_assoc]
  refine wpK_x2 (fun R hR => by
      simp [h5, h6, opExtract, aExtract, aEnter, fun45, short_other, aCallV]; rw [callS_none]
      refine (antichain_in hP3 hxl (tabs_ext htb hW0 hE3') (by omega) hok).mono ?_
      rintro _ W4 ⟨hE4, av, ls, rfl, hA⟩
      simp [h5, h6, opExtract, aExtract]; exact hR av ls W4 (And.intro hE4 hA)) ?_
  rintro av ls W4 ⟨hE4, hA⟩
  have hE4' := hE3'.trans hE4
  have n4 := hE4'.1
  have hP4 := hP3.ext hE4
  refine wpK_keep (fun tm' => tm'.get 5 = some (.int .i64 (N : Int)) ∧ tm'.get 6 = some (ov) ∧ tm'.get 7 = some (x) ∧ tm'.get 8 = some (.bool true) ∧ tm'.get 9 = some (cv) ∧ tm'.get 10 = some (.int .i64 0) ∧ tm'.get 11 = some (av) ∧ tm'.get 12 = some (.int .i64 0)) ⟨by simp [h5, h6, h7, h8, h9, h10], by simp [h5, h6, h7, h8, h9, h10], by simp [h5, h6, h7, h8, h9, h10], by simp [h5, h6, h7, h8, h9, h10], by simp [h5, h6, h7, h8, h9, h10], by simp [h5, h6, h7, h8, h9, h10], by simp [h5, h6, h7, h8, h9, h10], by simp [h5, h6, h7, h8, h9, h10]⟩ ?_
  rintro tm ⟨h5, h6, h7, h8, h9, h10, h11, h12⟩
  try simp only [wpK_assoc]
  refine wpK_x1 (fun R hR => by
      simp [h5, h6, opExtract, aExtract, aEnter, fun46, short_other, aCallV]; rw [callS_none]
      refine (levels_ok hP4 hxl (tabs_ext htb hW0 hE4') (by omega) hok hH2).mono ?_
      rintro _ W5 ⟨hE5, lb, hlb, rfl, hLv⟩
      simp [h5, h6, opExtract, aExtract]; exact hR lb W5 (And.intro hE5 hLv)) ?_
  rintro lb W5 ⟨hE5, hLv⟩
  have hE5' := hE4'.trans hE5
  have n5 := hE5'.1
  have hP5 := hP4.ext hE5
  refine wpK_keep (fun tm' => tm'.get 5 = some (.int .i64 (N : Int)) ∧ tm'.get 6 = some (ov) ∧ tm'.get 7 = some (x) ∧ tm'.get 8 = some (.bool true) ∧ tm'.get 9 = some (cv) ∧ tm'.get 10 = some (.int .i64 0) ∧ tm'.get 11 = some (av) ∧ tm'.get 12 = some (.int .i64 0) ∧ tm'.get 13 = some (rowV lb N) ∧ tm'.get 14 = some (.int .i64 0)) ⟨by simp [h5, h6, h7, h8, h9, h10, h11, h12], by simp [h5, h6, h7, h8, h9, h10, h11, h12], by simp [h5, h6, h7, h8, h9, h10, h11, h12], by simp [h5, h6, h7, h8, h9, h10, h11, h12], by simp [h5, h6, h7, h8, h9, h10, h11, h12], by simp [h5, h6, h7, h8, h9, h10, h11, h12], by simp [h5, h6, h7, h8, h9, h10, h11, h12], by simp [h5, h6, h7, h8, h9, h10, h11, h12], by simp [h5, h6, h7, h8, h9, h10, h11, h12], by simp [h5, h6, h7, h8, h9, h10, h11, h12]⟩ ?_
  rintro tm ⟨h5, h6, h7, h8, h9, h10, h11, h12, h13, h14⟩
  try simp only [wpK_assoc]
  refine wpK_x2 (fun R hR => by
      simp [h5, h6, opExtract, aExtract, aEnter, fun47, short_other, aCallV]; rw [callS_none]
      refine (longest_in hP5 hxl (tabs_ext htb hW0 hE5') (by omega) hok hH hm).mono ?_
      rintro _ W6 ⟨hE6, wv, c, rfl, hLo⟩
      simp [h5, h6, opExtract, aExtract]; exact hR wv c W6 (And.intro hE6 hLo)) ?_
  rintro wv c W6 ⟨hE6, hLo⟩
  have hE6' := hE5'.trans hE6
  have n6 := hE6'.1
  refine wpK_keep (fun tm' => tm'.get 5 = some (.int .i64 (N : Int)) ∧ tm'.get 7 = some (x) ∧ tm'.get 8 = some (.bool true) ∧ tm'.get 9 = some (cv) ∧ tm'.get 10 = some (.int .i64 0) ∧ tm'.get 11 = some (av) ∧ tm'.get 12 = some (.int .i64 0) ∧ tm'.get 13 = some (rowV lb N) ∧ tm'.get 14 = some (.int .i64 0) ∧ tm'.get 15 = some (wv) ∧ tm'.get 16 = some (.int .i64 0)) ⟨by simp [h5, h7, h8, h9, h10, h11, h12, h13, h14], by simp [h5, h7, h8, h9, h10, h11, h12, h13, h14], by simp [h5, h7, h8, h9, h10, h11, h12, h13, h14], by simp [h5, h7, h8, h9, h10, h11, h12, h13, h14], by simp [h5, h7, h8, h9, h10, h11, h12, h13, h14], by simp [h5, h7, h8, h9, h10, h11, h12, h13, h14], by simp [h5, h7, h8, h9, h10, h11, h12, h13, h14], by simp [h5, h7, h8, h9, h10, h11, h12, h13, h14], by simp [h5, h7, h8, h9, h10, h11, h12, h13, h14], by simp [h5, h7, h8, h9, h10, h11, h12, h13, h14], by simp [h5, h7, h8, h9, h10, h11, h12, h13, h14]⟩ ?_
  rintro tm ⟨h5, h7, h8, h9, h10, h11, h12, h13, h14, h15, h16⟩
  have hC6 := ((hC.ext hE4).ext hE5).ext hE6
  have hA6 := (hA.ext hE5).ext hE6
  have hB6 := (((hB.ext hE3).ext hE4).ext hE5).ext hE6
  have hcl := hC.same hA hord
  obtain ⟨g1, g2, -, Kc, Bc, g3, g4, g5⟩ := hC6
  obtain ⟨f1, f2, -, Ka, f3⟩ := hA6
  obtain ⟨lA, lC, hcv⟩ := g3.len
  have hAc := refAreChains_wp hB6 (by omega) g3 g1 (by omega) g4 g5
  have lc : ∀ W', aLen T0 W' 58 cv = some (.int .i64 cs.length) := fun W' => by rw [hcv]; exact len58 _ _ _ _
  have la := grows_len f3
  have hcl' : (cs.length : Int) = (ls.length : Int) := by omega
  rw [hcl'] at lc
  have lr : ∀ W', aLen T0 W' 31 (rowV lb N) = some (.int .i64 N) := fun W' => len_slice und31 _ _ _
  try simp only [wpK_assoc]
  refine wpK_x0 (P := fun W' => Ext W6 W') (fun Rq hRq => by
    simp [h7, h8, h9, h10, h11, h12, h14, h16, lc, la, aEnter, fun48, short_other, aCallV]; rw [callS_none]
    refine hAc.mono ?_
    rintro _ W7 ⟨hE7, rfl⟩
    have hB7 := hB6.ext hE7
    simp [h7, h11, aEnter, fun49, short_other, aCallV]; rw [callS_none]
    refine (refIsAnti_wp hB7 (by omega) (natsV_row (f3.only hE7 (fun _ _ _ x => x))) f1 (by omega)).mono ?_
    rintro _ W9 ⟨e9, rfl⟩; subst W9
    simp [h5, h13, lr]
    exact hRq W7 hE7) ?_
  rintro W7 hE7
  try simp only [wpK_assoc]
  first | refine wpK_onF (by simp []) ?_ | refine wpK_out (by simp []) ?_ | refine wpK_condF (by simp []) ?_ | refine wpK_endF (by simp []) (wpK_skip ?_) | refine wpK_endF (by simp []) ?_
  have hE7' := hE6'.trans hE7
  have n7 := hE7'.1
  have hB7 := hB6.ext hE7
  have hLv7 := (hLv.ext hE6).ext hE7
  have hLo7 := hLo.ext hE7
  try simp only [wpK_assoc]
  refine wpK_reg (fun R hR => by simp []; exact hR) ?_
  try simp only [wpK_assoc]
  refine wpK_reg (fun R hR => by simp []; exact hR) ?_
  obtain ⟨lv, hlv⟩ : ∃ lv, lv = rowV lb N := ⟨_, rfl⟩
  have ix : ∀ j, j < N → aIndexAddr T0 31 lv (.int .i64 (j : Int)) = some (.pointer (some ⟨lb, j, none⟩)) := fun j hj => by rw [hlv]; exact num_ix hj
  rw [← hlv] at h13
  clear hlv lr
  refine wpK_keep (fun tm' => tm'.get 5 = some (.int .i64 (N : Int)) ∧ tm'.get 7 = some (x) ∧ tm'.get 13 = some (lv) ∧ tm'.get 15 = some (wv) ∧ tm'.get 17 = some (.int .i64 0) ∧ tm'.get 18 = some (.int .i64 0)) ⟨by simp [h5, h7, h13, h15], by simp [h5, h7, h13, h15], by simp [h5, h7, h13, h15], by simp [h5, h7, h13, h15], by simp [h5, h7, h13, h15], by simp [h5, h7, h13, h15]⟩ ?_
  rintro tm ⟨h5, h7, h13, h15, h17, h18⟩
  try simp only [wpK_assoc]
  refine wpK_while (I := fun q A' W' => A'.n = 171 ∧ A'.defers = [] ∧ A'.tmps.get 5 = some (.int .i64 (N : Int)) ∧ A'.tmps.get 7 = some (x) ∧ A'.tmps.get 13 = some (lv) ∧ A'.tmps.get 15 = some (wv) ∧ W' = W7 ∧ ∃ (i M : Nat), A'.tmps.get 17 = some (.int .i64 (M : Int)) ∧ A'.tmps.get 18 = some (.int .i64 (i : Int)) ∧ q = N - i ∧ i ≤ N ∧ (∀ j, j < i → H2 j + 1 ≤ M) ∧ (M = 0 ∨ ∃ j, j < i ∧ H2 j + 1 = M))
    (J := fun A' W' => A'.n = 171 ∧ A'.defers = [] ∧ A'.tmps.get 5 = some (.int .i64 (N : Int)) ∧ A'.tmps.get 7 = some (x) ∧ A'.tmps.get 13 = some (lv) ∧ A'.tmps.get 15 = some (wv) ∧ W' = W7 ∧ A'.tmps.get 17 = some (.int .i64 ((m + 1 : Nat) : Int))) (Rt := fun _ _ => False) (k := N) ?_ ?_ ?_ ?_
  · exact ⟨rfl, rfl, by simp [h5, h7, h13, h15], by simp [h5, h7, h13, h15], by simp [h5, h7, h13, h15], by simp [h5, h7, h13, h15], rfl, 0, 0, by simp [h17], by simp [h18], rfl, Nat.zero_le _, fun j hj => absurd hj (Nat.not_lt_zero _), .inl rfl⟩
  · rintro q ⟨tm, n, ds⟩ Wa ⟨hn, hd, h5, h7, h13, h15, hWa, i, M, h17, h18, hq, hil, hM1, hM2⟩ Q' hJ hRt hI
    simp only at hn hd h5 h7 h13 h15
    subst hn; subst hd
    subst hWa
    simp only at h17 h18
    by_cases hlt : i < N
    case neg =>
      have hlt' : ¬ (i : Int) < N := by clear hM2 hm hm2; omega
      try simp only [wpK_assoc]
      refine wpK_reg (fun R hR => by simp [h5, h18, hlt']; exact hR) ?_
      try simp only [wpK_assoc]
      first | refine wpK_onF (by simp [hlt]) ?_ | refine wpK_out (by simp [hlt]) ?_ | refine wpK_condF (by simp [hlt]) ?_ | refine wpK_endF (by simp [hlt]) (wpK_skip ?_) | refine wpK_endF (by simp [hlt]) ?_
      refine hJ _ _ ⟨rfl, rfl, by simp [h5, h7, h13, h15], by simp [h5, h7, h13, h15], by simp [h5, h7, h13, h15], by simp [h5, h7, h13, h15], rfl, ?_⟩
      have : M = m + 1 := by
        obtain ⟨a, ha, ea⟩ := hm2.1
        have := hM1 a (by omega)
        rcases hM2 with e | ⟨j, hj, e⟩
        · omega
        · have := hm2.2 j (by omega); omega
      rw [← this]; simp [h17]
    have hlt' : (i : Int) < N := by clear hM2 hm hm2; omega
    have hdec : N - (i + 1) < q ∧ i + 1 ≤ N := by clear hM2 hm hm2; omega
    have hwi := i64_succ i (by clear hM2 hm hm2; omega)
    have hHi : H2 i < N := hH2.lt hord.rev hlt
    have hwh := i64_succ (H2 i) (by clear hM2 hm hm2; omega)
    try simp only [wpK_assoc]
    refine wpK_reg (fun R hR => by simp [h5, h18, hlt']; exact hR) ?_
    try simp only [wpK_assoc]
    first | refine wpK_onT (by simp [hlt]) ?_ | refine wpK_outT (by simp [hlt]) ?_ | refine wpK_condT (by simp [hlt]) ?_ | refine wpK_endT (by simp [hlt]) ?_
    have e1 := nums_load hLv7 hlt
    have j1 := ix i hlt
    have hmx : max (M : Int) ((H2 i + 1 : Nat) : Int) = ((max M (H2 i + 1) : Nat) : Int) := by clear hM2 hm hm2; omega
    refine wpK_block ?_
    generalize ((H2 i + 1 : Nat) : Int) = y at hwh hmx
    try simp only [wpK_assoc]
    refine wpK_reg1 (fun R hR => by simp [h13, h17, h18, j1, e1, hwh, max_int, hmx]; exact hR) ?_
    simp only [leaves_normal, behind_normal]
    try simp only [wpK_assoc]
    refine wpK_reg1 (fun R hR => by simp [h18]; exact hR) ?_
    refine hI (N - (i + 1)) _ _ hdec.1 ⟨rfl, rfl, by simp [h5, h7, h13, h15], by simp [h5, h7, h13, h15], by simp [h5, h7, h13, h15], by simp [h5, h7, h13, h15], rfl, i + 1, max M (H2 i + 1), by simp [hmx], by simp [hwi], rfl, hdec.2, fun j hj => ?_, ?_⟩
    · by_cases e : j = i
      · subst e; exact Nat.le_max_right _ _
      · exact Nat.le_trans (hM1 j (by clear hM2 hm hm2; omega)) (Nat.le_max_left _ _)
    · right
      by_cases e : M ≤ H2 i + 1
      · exact ⟨i, Nat.lt_succ_self i, (Nat.max_eq_right e).symm⟩
      · rcases hM2 with e2 | ⟨j, hj, e2⟩
        · exact absurd (by omega) e
        · exact ⟨j, Nat.lt_succ_of_lt hj, by rw [e2]; exact (Nat.max_eq_left (by omega)).symm⟩
  · rintro A' W' hf; exact hf.elim
  rintro ⟨tm, n, ds⟩ W8 ⟨hn, hd, h5, h7, h13, h15, hW8, h17⟩
  simp only at hn hd h5 h7 h13 h15
  subst hn; subst hd
  subst hW8
  simp only at h17
  try simp only [wpK_assoc]
  refine wpK_reg (fun R hR => by simp []; exact hR) ?_
  -- each level is an antichain
  obtain ⟨mi, hmi⟩ : ∃ z : Int, z = ((m + 1 : Nat) : Int) := ⟨_, rfl⟩
  rw [← hmi] at h17
  refine wpK_keep (fun tm' => tm'.get 5 = some (.int .i64 (N : Int)) ∧ tm'.get 7 = some (x) ∧ tm'.get 13 = some (lv) ∧ tm'.get 15 = some (wv) ∧ tm'.get 17 = some (.int .i64 mi) ∧ tm'.get 19 = some (.int .i64 0)) ⟨by simp [h5, h7, h13, h15, h17], by simp [h5, h7, h13, h15, h17], by simp [h5, h7, h13, h15, h17], by simp [h5, h7, h13, h15, h17], by simp [h5, h7, h13, h15, h17], by simp [h5, h7, h13, h15, h17]⟩ ?_
  rintro tm ⟨h5, h7, h13, h15, h17, h19⟩
  have hlb : lb < W8.next := hLv7.1
  have hsome : ∀ q, q ≤ m → ∃ b, b < N ∧ H2 b = q := fun q hq => by
    obtain ⟨⟨a, ha, ea⟩, _⟩ := hm2
    exact hH2.down hord.rev m a ha ea q hq
  have hHl : ∀ i, i < N → H2 i < N := fun i hi => hH2.lt hord.rev hi
  clear hm hm2
  try simp only [wpK_assoc]
  refine wpK_while (I := fun q A' W' => A'.n = 171 ∧ A'.defers = [] ∧ A'.tmps.get 5 = some (.int .i64 (N : Int)) ∧ A'.tmps.get 7 = some (x) ∧ A'.tmps.get 13 = some (lv) ∧ A'.tmps.get 15 = some (wv) ∧ A'.tmps.get 17 = some (.int .i64 mi) ∧ Ext W8 W' ∧ ∃ (le : Nat), A'.tmps.get 19 = some (.int .i64 (le : Int)) ∧ q = m + 1 - le ∧ le ≤ m + 1)
    (J := fun A' W' => A'.n = 171 ∧ A'.defers = [] ∧ A'.tmps.get 5 = some (.int .i64 (N : Int)) ∧ A'.tmps.get 7 = some (x) ∧ A'.tmps.get 13 = some (lv) ∧ A'.tmps.get 15 = some (wv) ∧ A'.tmps.get 17 = some (.int .i64 mi) ∧ Ext W8 W') (Rt := fun _ _ => False) (k := m + 1) ?_ ?_ ?_ ?_
  · exact ⟨rfl, rfl, by simp [h5, h7, h13, h15, h17], by simp [h5, h7, h13, h15, h17], by simp [h5, h7, h13, h15, h17], by simp [h5, h7, h13, h15, h17], by simp [h5, h7, h13, h15, h17], .refl _ _, 0, by simp [h19], rfl, by omega⟩
  · rintro q ⟨tm, n, ds⟩ Wa ⟨hn, hd, h5, h7, h13, h15, h17, hEa, le, h19, hq, hle⟩ Q' hJ hRt hI
    simp only at hn hd h5 h7 h13 h15 h17
    subst hn; subst hd
    simp only at h19
    by_cases hlt : le < m + 1
    case neg =>
      have hlt' : ¬ (le : Int) < mi := by omega
      try simp only [wpK_assoc]
      refine wpK_reg (fun R hR => by simp [h17, h19, hlt']; exact hR) ?_
      try simp only [wpK_assoc]
      first | refine wpK_onF (by simp [hlt']) ?_ | refine wpK_out (by simp [hlt']) ?_ | refine wpK_condF (by simp [hlt']) ?_ | refine wpK_endF (by simp [hlt']) (wpK_skip ?_) | refine wpK_endF (by simp [hlt']) ?_
      exact hJ _ _ ⟨rfl, rfl, by simp [h5, h7, h13, h15, h17], by simp [h5, h7, h13, h15, h17], by simp [h5, h7, h13, h15, h17], by simp [h5, h7, h13, h15, h17], by simp [h5, h7, h13, h15, h17], hEa⟩
    have hlt' : (le : Int) < mi := by omega
    try simp only [wpK_assoc]
    refine wpK_reg (fun R hR => by simp [h17, h19, hlt']; exact hR) ?_
    try simp only [wpK_assoc]
    first | refine wpK_onT (by simp [hlt']) ?_ | refine wpK_outT (by simp [hlt']) ?_ | refine wpK_condT (by simp [hlt']) ?_ | refine wpK_endT (by simp [hlt']) ?_
    refine wpK_block ?_
    try simp only [wpK_assoc]
    refine wpK_reg (fun R hR => by simp []; exact hR) ?_
    try simp only [wpK_assoc]
    refine wpK_reg (fun R hR => by simp []; exact hR) ?_
    have na := hEa.1
    have hLa := hLv7.ext hEa
    refine wpK_keep (fun tm' => tm'.get 5 = some (.int .i64 (N : Int)) ∧ tm'.get 7 = some (x) ∧ tm'.get 13 = some (lv) ∧ tm'.get 15 = some (wv) ∧ tm'.get 17 = some (.int .i64 mi) ∧ tm'.get 19 = some (.int .i64 (le : Int)) ∧ tm'.get 20 = some (.slice none 0 0) ∧ tm'.get 21 = some (.int .i64 0)) ⟨by simp [h5, h7, h13, h15, h17, h19], by simp [h5, h7, h13, h15, h17, h19], by simp [h5, h7, h13, h15, h17, h19], by simp [h5, h7, h13, h15, h17, h19], by simp [h5, h7, h13, h15, h17, h19], by simp [h5, h7, h13, h15, h17, h19], by simp [h5, h7, h13, h15, h17, h19], by simp [h5, h7, h13, h15, h17, h19]⟩ ?_
    rintro tm ⟨h5, h7, h13, h15, h17, h19, h20, h21⟩
    try simp only [wpK_assoc]
    refine wpK_while (I := fun q A' W' => A'.n = 171 ∧ A'.defers = [] ∧ A'.tmps.get 5 = some (.int .i64 (N : Int)) ∧ A'.tmps.get 7 = some (x) ∧ A'.tmps.get 13 = some (lv) ∧ A'.tmps.get 15 = some (wv) ∧ A'.tmps.get 17 = some (.int .i64 mi) ∧ A'.tmps.get 19 = some (.int .i64 (le : Int)) ∧ Only (fun b => Wa.next ≤ b) Wa W' ∧ ∃ (i : Nat) (tv : Value) (ls : List Nat) (K : Nat → Prop), A'.tmps.get 20 = some tv ∧ A'.tmps.get 21 = some (.int .i64 (i : Int)) ∧ q = N - i ∧ i ≤ N ∧ ls = ((List.range i).filter fun x => decide (H2 x = le)) ∧ ls.length ≤ i ∧ GrowsN W' tv ls.length (natsV ls) 3 1 K ∧ ∀ b, K b → Wa.next ≤ b)
      (J := fun A' W' => A'.n = 171 ∧ A'.defers = [] ∧ A'.tmps.get 5 = some (.int .i64 (N : Int)) ∧ A'.tmps.get 7 = some (x) ∧ A'.tmps.get 13 = some (lv) ∧ A'.tmps.get 15 = some (wv) ∧ A'.tmps.get 17 = some (.int .i64 mi) ∧ A'.tmps.get 19 = some (.int .i64 (le : Int)) ∧ Only (fun b => Wa.next ≤ b) Wa W' ∧ ∃ (tv : Value) (ls : List Nat) (K : Nat → Prop), A'.tmps.get 20 = some tv ∧ ls = ((List.range N).filter fun x => decide (H2 x = le)) ∧ ls.length ≤ N ∧ GrowsN W' tv ls.length (natsV ls) 3 1 K) (Rt := fun _ _ => False) (k := N) ?_ ?_ ?_ ?_
    · exact ⟨rfl, rfl, by simp [h5, h7, h13, h15, h17, h19], by simp [h5, h7, h13, h15, h17, h19], by simp [h5, h7, h13, h15, h17, h19], by simp [h5, h7, h13, h15, h17, h19], by simp [h5, h7, h13, h15, h17, h19], by simp [h5, h7, h13, h15, h17, h19], .refl _ _, 0, _, [], fun _ => False, by simp [h20], by simp [h21], rfl, by omega, rfl, by simp, .nil _ _ _ _, fun b hb => hb.elim⟩
    · rintro q2 ⟨tm, n, ds⟩ Wb ⟨hn, hd, h5, h7, h13, h15, h17, h19, hOb, i, tv, ls, K, h20, h21, hq2, hil, hls, hll, hG, hK⟩ Q2 hJ2 hRt2 hI2
      simp only at hn hd h5 h7 h13 h15 h17 h19
      subst hn; subst hd
      simp only at h20 h21
      by_cases hit : i < N
      case neg =>
        have hit' : ¬ (i : Int) < N := by omega
        have e : i = N := by omega
        rw [e] at hls
        try simp only [wpK_assoc]
        refine wpK_reg (fun R hR => by simp [h5, h21, hit']; exact hR) ?_
        try simp only [wpK_assoc]
        first | refine wpK_onF (by simp [hit]) ?_ | refine wpK_out (by simp [hit]) ?_ | refine wpK_condF (by simp [hit]) ?_ | refine wpK_endF (by simp [hit]) (wpK_skip ?_) | refine wpK_endF (by simp [hit]) ?_
        exact hJ2 _ _ ⟨rfl, rfl, by simp [h5, h7, h13, h15, h17, h19], by simp [h5, h7, h13, h15, h17, h19], by simp [h5, h7, h13, h15, h17, h19], by simp [h5, h7, h13, h15, h17, h19], by simp [h5, h7, h13, h15, h17, h19], by simp [h5, h7, h13, h15, h17, h19], hOb, tv, ls, K, by simp [h20], hls, by omega, hG⟩
      have hit' : (i : Int) < N := by omega
      try simp only [wpK_assoc]
      refine wpK_reg (fun R hR => by simp [h5, h21, hit']; exact hR) ?_
      try simp only [wpK_assoc]
      first | refine wpK_onT (by simp [hit]) ?_ | refine wpK_outT (by simp [hit]) ?_ | refine wpK_condT (by simp [hit]) ?_ | refine wpK_endT (by simp [hit]) ?_
      have hLb := hLa.only hOb (by omega)
      have e1 := nums_load hLb hit
      have j1 := ix i hit
      have hwi := i64_succ i (by omega)
      have hsn := range_snoc (fun x => decide (H2 x = le)) i
      refine wpK_block ?_
      by_cases hk : H2 i = le
      · have hk' : ((H2 i : Nat) : Int) = (le : Int) := by omega
        rw [hk] at e1
        try simp only [wpK_assoc]
        refine wpK_reg (fun R hR => by simp [h13, h19, h21, j1, e1]; exact hR) ?_
        try simp only [wpK_assoc]
        first | refine wpK_onT (by simp []) ?_ | refine wpK_outT (by simp []) ?_ | refine wpK_condT (by simp []) ?_ | refine wpK_endT (by simp []) ?_
        obtain ⟨tv', Wc, k1, k2, k3, k4⟩ := grow_nat hG (by omega) i
        try simp only [wpK_assoc]
        refine wpK_reg1 (fun R hR => by simp [h20, h21, bs31, k1]; exact hR) ?_
        simp only [leaves_normal, behind_normal]
        try simp only [wpK_assoc]
        refine wpK_reg1 (fun R hR => by simp [h21, hwi]; exact hR) ?_
        refine hI2 (N - (i + 1)) _ _ (by omega) ⟨rfl, rfl, by simp [h5, h7, h13, h15, h17, h19], by simp [h5, h7, h13, h15, h17, h19], by simp [h5, h7, h13, h15, h17, h19], by simp [h5, h7, h13, h15, h17, h19], by simp [h5, h7, h13, h15, h17, h19], by simp [h5, h7, h13, h15, h17, h19], hOb.trans (k4.mono (fun b _ hb => hK b hb)), i + 1, tv', ls ++ [i], _, by simp, by simp, rfl, by omega, ?_, by simp; omega, k3, fun b hb => ?_⟩
        · rw [hsn, if_pos (decide_eq_true hk), hls]
        · rcases hb with hb | hb
          · exact hK b hb
          · have := hOb.1; omega
      · have hk' : ¬ ((H2 i : Nat) : Int) = (le : Int) := by omega
        try simp only [wpK_assoc]
        refine wpK_reg (fun R hR => by simp [h13, h19, h21, j1, e1, hk', hk]; exact hR) ?_
        try simp only [wpK_assoc]
        first | refine wpK_onF (by simp [hk', hk]) ?_ | refine wpK_out (by simp [hk', hk]) ?_ | refine wpK_condF (by simp [hk', hk]) ?_ | refine wpK_endF (by simp [hk', hk]) (wpK_skip ?_) | refine wpK_endF (by simp [hk', hk]) ?_
        simp only [leaves_normal, behind_normal]
        try simp only [wpK_assoc]
        refine wpK_reg1 (fun R hR => by simp [h21, hwi]; exact hR) ?_
        exact hI2 (N - (i + 1)) _ _ (by omega) ⟨rfl, rfl, by simp [h5, h7, h13, h15, h17, h19], by simp [h5, h7, h13, h15, h17, h19], by simp [h5, h7, h13, h15, h17, h19], by simp [h5, h7, h13, h15, h17, h19], by simp [h5, h7, h13, h15, h17, h19], by simp [h5, h7, h13, h15, h17, h19], hOb, i + 1, tv, ls, K, by simp [h20], by simp, rfl, by omega, by rw [hsn, if_neg (by rw [decide_eq_false hk]; simp)]; exact hls, by omega, hG, hK⟩
    · rintro A' W' hf; exact hf.elim
    rintro ⟨tm, n, ds⟩ Wb ⟨hn, hd, h5, h7, h13, h15, h17, h19, hOb, tv, ls, K, h20, hls, hll, hG⟩
    simp only at hn hd h5 h7 h13 h15 h17 h19
    subst hn; subst hd
    simp only at h20
    have hEb : Ext W8 Wb := ⟨by have := hOb.1; omega, fun b hb hk => by rw [hOb.2 b (by omega) (by omega), hEa.2 b hb hk]⟩
    have lt := grows_len hG
    have hpos : 0 < ls.length := by
      obtain ⟨b, hb, eb⟩ := hsome le (by omega)
      have : b ∈ ls := by rw [hls]; exact List.mem_filter.2 ⟨List.mem_range.2 hb, decide_eq_true eb⟩
      exact List.length_pos_of_mem this
    have hne' : ¬ (ls.length : Int) = 0 := by omega
    have hne'' : ¬ ls.length = 0 := by omega
    have hne3 : ¬ ls = [] := fun e => by rw [e] at hpos; simp at hpos
    have hAL := level_anti hord hH2 le
    rw [← hls] at hAL
    try simp only [wpK_assoc]
    refine wpK_reg (fun Rq hRq => by
      simp [h7, h20, lt, hne', hne'', hne3, aEnter, fun49, short_other, aCallV]; rw [callS_none]
      refine (refIsAnti_wp (hB7.ext hEb) (by omega) (natsV_row hG) hAL (by omega)).mono ?_
      rintro _ W9 ⟨e9, rfl⟩; subst W9
      simp; exact hRq) ?_
    try simp only [wpK_assoc]
    first | refine wpK_onF (by simp []) ?_ | refine wpK_out (by simp []) ?_ | refine wpK_condF (by simp []) ?_ | refine wpK_endF (by simp []) (wpK_skip ?_) | refine wpK_endF (by simp []) ?_
    simp only [leaves_normal, behind_normal]
    try simp only [wpK_assoc]
    refine wpK_reg1 (fun R hR => by simp [h19]; exact hR) ?_
    exact hI (m + 1 - (le + 1)) _ _ (by omega) ⟨rfl, rfl, by simp [h5, h7, h13, h15, h17], by simp [h5, h7, h13, h15, h17], by simp [h5, h7, h13, h15, h17], by simp [h5, h7, h13, h15, h17], by simp [h5, h7, h13, h15, h17], hEb, le + 1, by simp [i64_succ le (by omega)], rfl, by omega⟩
  · rintro A' W' hf; exact hf.elim
  rintro ⟨tm, n, ds⟩ W9 ⟨hn, hd, h5, h7, h13, h15, h17, hE9⟩
  simp only at hn hd h5 h7 h13 h15 h17
  subst hn; subst hd
  -- the longest chain is one
  obtain ⟨q1, q2, K9, q3⟩ := hLo7.ext hE9
  have hB9 := hB7.ext hE9
  have lw := grows_len q3
  obtain ⟨mm, f, hxv, hM, -, -⟩ := hB9
  have hmat : ∀ {i j : Nat}, i < N → j < N → aIndexAddr T0 75 x (.int .i64 (i : Int)) = some (.pointer (some ⟨mm, i, none⟩)) ∧ aLoadVar T0 W9 46 mm i = some (rowV (f i) N) ∧ aIndexAddr T0 46 (rowV (f i) N) (.int .i64 (j : Int)) = some (.pointer (some ⟨f i, j, none⟩)) ∧ aLoadVar T0 W9 4 (f i) j = some (.bool (relO N xs i j)) := fun {i j} hi hj => by
    obtain ⟨a1, a2⟩ := hM.at hi (Nat.le_refl _)
    rw [hxv]
    exact ⟨a1, a2, row_ix hj, hM.cell hi hj⟩
  have vx : valEq x x = true := by rw [hxv]; exact rowV_eq _ _
  have vw : valEq wv wv = true := row_eq (natsV_row q3)
  try simp only [wpK_assoc]
  refine wpK_reg (fun R hR => by simp []; exact hR) ?_
  refine wpK_keep (fun tm' => tm'.get 7 = some (x) ∧ tm'.get 15 = some (wv) ∧ tm'.get 17 = some (.int .i64 mi) ∧ tm'.get 22 = some (.int .i64 1)) ⟨by simp [h7, h15, h17], by simp [h7, h15, h17], by simp [h7, h15, h17], by simp [h7, h15, h17]⟩ ?_
  rintro tm ⟨h7, h15, h17, h22⟩
  try simp only [wpK_assoc]
  refine wpK_while (I := fun q A' W' => A'.n = 171 ∧ A'.defers = [] ∧ A'.tmps.get 7 = some (x) ∧ A'.tmps.get 15 = some (wv) ∧ A'.tmps.get 17 = some (.int .i64 mi) ∧ W' = W9 ∧ ∃ (i : Nat), A'.tmps.get 22 = some (.int .i64 (i : Int)) ∧ q = c.length - i ∧ 1 ≤ i ∧ i ≤ c.length)
    (J := fun A' W' => A'.n = 171 ∧ A'.defers = [] ∧ A'.tmps.get 7 = some (x) ∧ A'.tmps.get 15 = some (wv) ∧ A'.tmps.get 17 = some (.int .i64 mi) ∧ W' = W9) (Rt := fun _ _ => False) (k := c.length - 1) ?_ ?_ ?_ ?_
  · exact ⟨rfl, rfl, by simp [h7, h15, h17], by simp [h7, h15, h17], by simp [h7, h15, h17], rfl, 1, by simp [h22], rfl, by omega, by omega⟩
  · rintro q ⟨tm, n, ds⟩ Wa ⟨hn, hd, h7, h15, h17, hWa, i, h22, hq, hi1, hil⟩ Q' hJ hRt hI
    simp only at hn hd h7 h15 h17
    subst hn; subst hd
    subst hWa
    simp only at h22
    by_cases hlt : i < c.length
    case neg =>
      have hlt' : ¬ (i : Int) < c.length := by omega
      try simp only [wpK_assoc]
      refine wpK_reg (fun R hR => by simp [h15, h22, lw, hlt']; exact hR) ?_
      try simp only [wpK_assoc]
      first | refine wpK_onF (by simp [hlt]) ?_ | refine wpK_out (by simp [hlt]) ?_ | refine wpK_condF (by simp [hlt]) ?_ | refine wpK_endF (by simp [hlt]) (wpK_skip ?_) | refine wpK_endF (by simp [hlt]) ?_
      exact hJ _ _ ⟨rfl, rfl, by simp [h7, h15, h17], by simp [h7, h15, h17], by simp [h7, h15, h17], rfl⟩
    have hlt' : (i : Int) < c.length := by omega
    try simp only [wpK_assoc]
    refine wpK_reg (fun R hR => by simp [h15, h22, lw, hlt']; exact hR) ?_
    try simp only [wpK_assoc]
    first | refine wpK_onT (by simp [hlt]) ?_ | refine wpK_outT (by simp [hlt]) ?_ | refine wpK_condT (by simp [hlt]) ?_ | refine wpK_endT (by simp [hlt]) ?_
    obtain ⟨b1, p1, x1, x2⟩ := nat_at q3 hlt
    obtain ⟨b2, p2, x3, x4⟩ := nat_at q3 (i := i - 1) (by omega)
    have hw1 : IntKind.i64.wrap ((i : Int) - 1) = ((i - 1 : Nat) : Int) := by rw [i64_in (by omega)]; omega
    have hrr := (q2 i hlt).2.2.2.1 (by omega)
    obtain ⟨a1, a2, a3, a4⟩ := hmat (q2 (i - 1) (by omega)).2.1 (q2 i hlt).2.1
    rw [hrr] at a4
    generalize c.getD i 0 = ya at x2 a3 a4
    generalize c.getD (i - 1) 0 = yb at x4 a1 a2 a3 a4
    refine wpK_block ?_
    try simp only [wpK_assoc]
    refine wpK_dn (wr := Tr.nil |>.set 149 0 |>.set 150 1 |>.set 151 2 |>.set 152 3 |>.set 153 4 |>.set 154 5 |>.set 155 6 |>.set 156 7 |>.set 157 8 |>.set 158 9 |>.set 159 10 |>.set 160 11 |>.set 161 12 |>.set 162 13 |>.set 163 14) (bits := Tr.nil.lay 0 [0, 0, 0, 4, 14, 30, 63, 127, 0, 0, 768, 1792, 4095, 8191, 16383]) (ord := [0, 1, 2, 3, 4, 5, 6, 7, 8, 9, 10, 11, 12, 13, 14]) (by kernel_rfl) (by kernel_rfl) (by kernel_rfl) (fun G hG => by
      simp [h7, h15, h22, hw1, x1, x2, x3, x4, a1, a2, a3, a4, vx, vw, rowV_eq]
      exact hG) ?_
    try simp only [wpK_assoc]
    first | refine wpK_onF (by simp []) ?_ | refine wpK_out (by simp []) ?_ | refine wpK_condF (by simp []) ?_ | refine wpK_endF (by simp []) (wpK_skip ?_) | refine wpK_endF (by simp []) ?_
    simp only [leaves_normal, behind_normal]
    try simp only [wpK_assoc]
    refine wpK_reg1 (fun R hR => by simp [h22]; exact hR) ?_
    exact hI (c.length - (i + 1)) _ _ (by omega) ⟨rfl, rfl, by simp [h7, h15, h17], by simp [h7, h15, h17], by simp [h7, h15, h17], rfl, i + 1, by simp [i64_succ i (by omega)], rfl, by omega, by omega⟩
  · rintro A' W' hf; exact hf.elim
  rintro ⟨tm, n, ds⟩ W10 ⟨hn, hd, h7, h15, h17, hW10⟩
  simp only at hn hd h7 h15 h17
  subst hn; subst hd
  subst hW10
  have htbz := tabs_ext htb hW0 (hE7'.trans hE9)
  have hcm : (c.length : Int) = mi := by omega
  rw [hcm] at lw
  try simp only [wpK_assoc]
  refine wpK_reg (fun R hR => by simp [h15, h17, lw, short_awake, htbz, aEnter, aCallV, fun16]; exact hR) ?_
  exact wpK_ret ⟨.inr rfl, rfl, [.bool true], by simp, rfl⟩
end Go.Proofs.YtdpnplanohgecaaDoor