import Derived.Test.YtkipaffjmcmclaaDoorP48
import Derived.Test.YtkipaffjmcmclaaDoorEngSt
set_option linter.unusedSimpArgs false
set_option linter.unusedVariables false
set_option linter.unusedSectionVars false
open Go Go.Eng
namespace Go.Proofs.YtkipaffjmcmclaaDoor
attribute [local congr] undef_congr WpK.congr WpS.congr WpL.congr WpC.congr WpF.congr gotS.congr callS.congr nextS.congr wantS.congr condS.congr
attribute [local irreducible] WpK
attribute [local simp] WpDr_nil WpDr_cons atS_some dwantS_true dwantS_false kindS_light kindS_float kindS_heavy lightS_value floatS_some heavyS_value heavyS_skip heavyS_enter dcallS_some doneS_eq
  isLight isFloat isPlain dLook testBit_dec dChain dLights_nil dLights_skip dLights_one dLight_nil dLight_cons dFreshes_nil dFreshes_one oneF_none oneF_some dFresh_nil dFresh_cons oneL_some oneW_true oneW_false sameV_value dPut dMay valEq arrEq listEq List.getElem?_cons Tr.get_nil dEnd
attribute [local simp] WpS_nil WpS_cons isDefer undef_false wantS_true wantS_false nextS_value nextS_skip nextS_enter callS_some gotS_some aWanted aOp aEvalF aEval opMove opAssign opPick aVal flat flat1 AAct.put opBinOp opConvert opIndex Tr.get_set Tr.get_lay aBin aResults tupled
  aCall aVals aCallB blt_dec ble_dec beq_dec aBinI_add aBinI_sub aBinI_lss aBinI_leq aBinI_gtr aBinI_geq aBinI_eql aBinI_neq index_str len_str len_slice Nat.beq_refl und2 und3 und4 und5 und39 und76 und82 und116 und22 und29 und25 und33 und46 und43 und49 und111 und113 field152 field156_0 field156_1 field156_2 field156_3 field156_4
  field78 field106 field24 field31 field27 field35 field108 field109 opBox opLoad opFieldAddr opIndexAddr acells aAddr opExtract aExtract opUnOp opAlloc opStore opMakeInterface opNilCheck opBuild aParts opBuildSlice aValW
set_option maxHeartbeats 4000000
/-! ### the least place of a set -/
def tabN : List Nat := [0, 1, 28, 2, 29, 14, 24, 3, 30, 22, 20, 15, 25, 17, 4, 8, 31, 27, 13, 23, 21, 19, 16, 7, 26, 12, 18, 6, 11, 5, 10, 9]
theorem und161 : T0.und.get 161 = some (.array 32 5) := by kernel_rfl
theorem ix161 (i : Nat) (hi : i < 32) (k : IntKind) : aIndexAddr T0 161 (.pointer (some ⟨0, 0, none⟩)) (.int k (i : Nat)) = some (.pointer (some ⟨0, i, none⟩)) := by
  show aIndexAddr T0 161 (.pointer (some ⟨0, 0, none⟩)) (.int k (Int.ofNat i)) = _
  simp only [aIndexAddr, und161, sz5, blt_dec, hi, decide_true, Nat.mul_one, Nat.zero_add]
theorem glob0 : T0.globs.get 0 = some () := by kernel_rfl
theorem tbl_load {W : AW} (h : tabsIn T0 T0.tabs W = true) (i : Nat) (hi : i < 32) : aLoadVar T0 W 5 0 i = some (.int .u8 ((tabN.getD i 0 : Nat) : Int)) := by
  have h : tabsIn T0 [⟨0, tabN.map fun n : Nat => Value.int .u8 (n : Int)⟩] W = true := h
  simp only [tabsIn, glob0] at h
  split at h
  case h_2 => cases h
  rename_i hu ht
  have hlen : (tabN.map fun n : Nat => Value.int .u8 (n : Int)).length = 32 := by decide
  have := tabIn_cell ht i (by show i < (tabN.map _).length; omega)
  rw [loadVar_cell und5 rfl]
  rw [this]
  simp only [List.getElem_map]
  rw [List.getD_eq_getElem?_getD, List.getElem?_eq_getElem (show i < tabN.length by simpa using (show i < (tabN.map fun n : Nat => Value.int .u8 (n : Int)).length by omega))]
  rfl
theorem low_ex {x : Nat} (h : x ≠ 0) : ∃ k, x.testBit k = true ∧ ∀ j, j < k → x.testBit j = false := by
  have hx : ∃ k, x.testBit k = true := by
    apply Classical.byContradiction
    intro hn
    apply h
    apply Nat.eq_of_testBit_eq
    intro i
    rw [Nat.zero_testBit]
    cases hb : x.testBit i with
    | false => rfl
    | true => exact absurd ⟨i, hb⟩ hn
  obtain ⟨k, hk⟩ := hx
  induction k using Nat.strongRecOn with
  | _ k ih =>
    by_cases hj : ∃ j, j < k ∧ x.testBit j = true
    · obtain ⟨j, h1, h2⟩ := hj
      exact ih j h1 h2
    · refine ⟨k, hk, fun j hjk => ?_⟩
      cases hb : x.testBit j with
      | false => rfl
      | true => exact absurd ⟨j, hjk, hb⟩ hj
theorem low_bits {x k : Nat} (h1 : x.testBit k = true) (h2 : ∀ j, j < k → x.testBit j = false) : x = 2 ^ (k + 1) * (x / 2 ^ (k + 1)) + 2 ^ k := by
  have : x % 2 ^ (k + 1) = 2 ^ k := by
    apply Nat.eq_of_testBit_eq
    intro i
    rw [Nat.testBit_mod_two_pow, Nat.testBit_two_pow]
    by_cases e : i = k
    · subst e; simp [-testBit_dec, h1]
    · by_cases hlt : i < k
      · rw [h2 i hlt, decide_eq_false (show ¬ k = i by omega), Bool.and_false]
      · rw [decide_eq_false (show ¬ i < k + 1 by omega), decide_eq_false (show ¬ k = i by omega), Bool.false_and]
  have := Nat.div_add_mod x (2 ^ (k + 1))
  omega
theorem pred_bits {x k : Nat} (h1 : x.testBit k = true) (h2 : ∀ j, j < k → x.testBit j = false) (i : Nat) : (x - 1).testBit i = if i < k then true else if i = k then false else x.testBit i := by
  have hx := low_bits h1 h2
  have hp : 0 < 2 ^ k := Nat.two_pow_pos k
  have hp1 : 2 ^ (k + 1) = 2 * 2 ^ k := by rw [Nat.pow_succ]; omega
  have e1 : x - 1 = 2 ^ (k + 1) * (x / 2 ^ (k + 1)) + (2 ^ k - 1) := by omega
  rw [e1, Nat.testBit_two_pow_mul_add _ (by omega), Nat.testBit_two_pow_sub_one]
  by_cases hlt : i < k
  · rw [if_pos (by omega), if_pos hlt, decide_eq_true hlt]
  · rw [if_neg hlt]
    by_cases e : i = k
    · rw [if_pos (by omega), if_pos e, decide_eq_false (by omega)]
    · rw [if_neg (by omega), if_neg e]
      have : x.testBit i = (2 ^ (k + 1) * (x / 2 ^ (k + 1)) + 2 ^ k).testBit i := by rw [← hx]
      rw [this, Nat.testBit_two_pow_mul_add _ (by omega), if_neg (by omega)]
theorem low_and {x k : Nat} (hx : x < 4294967296) (h1 : x.testBit k = true) (h2 : ∀ j, j < k → x.testBit j = false) : x &&& (4294967296 - x) = 2 ^ k := by
  have hx0 : 0 < x := Nat.pos_of_ne_zero (fun e => by subst e; simp [-testBit_dec] at h1)
  have hk : k < 32 := by
    by_cases hk : k < 32
    · exact hk
    · have : x.testBit k = false := Nat.testBit_lt_two_pow (Nat.lt_of_lt_of_le hx (show 2 ^ 32 ≤ 2 ^ k from Nat.pow_le_pow_right (by omega) (by omega)))
      rw [this] at h1; cases h1
  apply Nat.eq_of_testBit_eq
  intro i
  rw [Nat.testBit_and, show 4294967296 - x = 2 ^ 32 - ((x - 1) + 1) from by omega, Nat.testBit_two_pow_sub_succ (by show x - 1 < 4294967296; omega), pred_bits h1 h2, Nat.testBit_two_pow]
  by_cases hlt : i < k
  · rw [if_pos hlt, h2 i hlt, decide_eq_false (show ¬ k = i by omega), Bool.false_and]
  · rw [if_neg hlt]
    by_cases e : i = k
    · rw [if_pos e, e, h1, decide_eq_true hk, decide_eq_true rfl]; rfl
    · rw [if_neg e, decide_eq_false (show ¬ k = i by omega)]
      cases x.testBit i <;> simp
theorem brujin : ∀ k, k < 32 → tabN.getD ((2 ^ k * 125613361 % 4294967296) >>> 27) 0 = k ∧ (2 ^ k * 125613361 % 4294967296) >>> 27 < 32 := by decide
theorem neg_u32 {x : Nat} (h0 : 0 < x) (hx : x < 4294967296) : aUn .neg (.int .u32 (x : Nat)) = some (.int .u32 ((4294967296 - x : Nat) : Int)) := by
  obtain ⟨n, hn⟩ : ∃ n, n = 4294967296 - x := ⟨_, rfl⟩
  rw [← hn]
  have hw : IntKind.u32.wrap (0 - (x : Int)) = (n : Int) := by rw [IntKind.wrap_u32]; omega
  clear hn
  generalize hz : (0 - (x : Int)) = z at hw
  have hu : Op.unary .neg (.int .u32 (x : Nat)) = Op.intArith .sub .u32 0 (x : Nat) := rfl
  simp only [aUn, hu, Op.intArith, aPure, pure, hz, hw, flat1]
section
attribute [local irreducible] aBinI
theorem tz_wp {W : AW} (hT : tabsIn T0 T0.tabs W = true) {x k : Nat} (hx : x < 4294967296) (h1 : x.testBit k = true) (h2 : ∀ j, j < k → x.testBit j = false) : WpF T0 83 [.int .u32 (x : Nat)] W (fun v W' => W' = W ∧ v = .int .i64 (k : Nat)) := by
  have hx0 : 0 < x := Nat.pos_of_ne_zero (fun e => by subst e; simp [-testBit_dec] at h1)
  have hk : k < 32 := by
    by_cases hk : k < 32
    · exact hk
    · have : x.testBit k = false := Nat.testBit_lt_two_pow (Nat.lt_of_lt_of_le hx (show 2 ^ 32 ≤ 2 ^ k from Nat.pow_le_pow_right (by omega) (by omega)))
      rw [this] at h1; cases h1
  have hneg := neg_u32 hx0 hx
  have hand := aBinI_and .u32 x (4294967296 - x) hx (by show 4294967296 - x < 4294967296; omega)
  rw [low_and hx h1 h2] at hand
  have hpk : 2 ^ k < 4294967296 := by show 2 ^ k < 2 ^ 32; exact Nat.pow_lt_pow_right (by omega) hk
  obtain ⟨hb1, hb2⟩ := brujin k hk
  have hmul : aBinI .mul .u32 ((2 ^ k : Nat) : Int) .u32 125613361 = some (.int .u32 ((2 ^ k * 125613361 % 4294967296 : Nat) : Int)) := by
    have hw : ∀ q : Nat, IntKind.u32.wrap ((q : Int) * 125613361) = ((q * 125613361 % 4294967296 : Nat) : Int) := fun q => by rw [IntKind.wrap_u32]; omega
    rw [aBinI_mul, hw]
  have hsh : aBinI .shr .u32 ((2 ^ k * 125613361 % 4294967296 : Nat) : Int) .u64 27 = some (.int .u32 (((2 ^ k * 125613361 % 4294967296) >>> 27 : Nat) : Int)) := aBinI_shr .u32 .u64 _ 27 (by decide)
  generalize 2 ^ k = pk at hand hmul hsh hb1 hb2
  generalize pk * 125613361 % 4294967296 = mm at hmul hsh hb1 hb2
  generalize mm >>> 27 = ii at hsh hb1 hb2
  have hld := tbl_load hT ii hb2
  rw [hb1] at hld
  have hixx := ix161 ii hb2 .u32
  generalize hxn : 4294967296 - x = xn at hneg hand
  have hwk : IntKind.i64.wrap (k : Int) = k := IntWalk.i64_in _ (by omega)
  refine wpF fun83 rfl ?_
  try simp only [wpK_assoc]
  refine wpK_reg (fun R hR => by simp; exact hR) ?_
  try simp only [wpK_assoc]
  refine wpK_reg (fun R hR => by simp; exact hR) ?_
  refine wpK_onF (by simp; omega) ?_
  have haA : aBin T0 .and 115 (.tmp 5) (.tmp 7) (.int .u32 (x : Nat)) (.int .u32 (xn : Nat)) = some (.int .u32 (pk : Nat)) := hand
  have haM : aBin T0 .mul 115 (.tmp 8) (.const (.int .u32 125613361)) (.int .u32 (pk : Nat)) (.int .u32 125613361) = some (.int .u32 (mm : Nat)) := hmul
  have haS : aBin T0 .shr 115 (.tmp 9) (.const (.int .u64 27)) (.int .u32 (mm : Nat)) (.int .u64 27) = some (.int .u32 (ii : Nat)) := hsh
  clear hand hmul hsh
  try simp only [wpK_assoc]
  refine wpK_regc (J := fun A' W' => W' = W ∧ A'.defers = [] ∧ A'.tmps.get 2 = some (.int .i64 (k : Nat))) (fun R hR => ?_) ?_
  · refine wpS_step (v := .int .u32 (x : Nat)) rfl rfl (by simp) rfl ?_
    refine wpS_step (v := .int .u32 (x : Nat)) rfl rfl (by simp) rfl ?_
    refine wpS_step (v := .int .u32 (xn : Nat)) rfl rfl (by simp [hneg]) rfl ?_
    refine wpS_step (v := .int .u32 (pk : Nat)) rfl rfl (aOp_bin rfl (by simp) (by simp) haA) rfl ?_
    refine wpS_step (v := .int .u32 (mm : Nat)) rfl rfl (aOp_bin rfl (by simp) rfl haM) rfl ?_
    refine wpS_step (v := .int .u32 (ii : Nat)) rfl rfl (aOp_bin rfl (by simp) rfl haS) rfl ?_
    refine wpS_step (v := .pointer (some ⟨0, ii, none⟩)) rfl rfl (aOp_ix rfl (aEvalF_glob glob0) (by simp) hixx) rfl ?_
    clear haA haM haS hixx
    simp [hld, conv_5_3, hwk]
    apply hR
    exact ⟨rfl, rfl, by simp⟩
  rintro ⟨tm, n, ds⟩ W' ⟨rfl, hd, h2⟩
  simp only at hd h2
  subst hd
  exact wpK_ret ⟨.inr rfl, rfl, [.int .i64 (k : Nat)], by simp [h2], rfl, rfl⟩
end
theorem first_wp {W : AW} (hT : tabsIn T0 T0.tabs W = true) {x k : Nat} (hx : x < 4294967296) (h1 : x.testBit k = true) (h2 : ∀ j, j < k → x.testBit j = false) : WpF T0 75 [.int .u32 (x : Nat)] W (fun v W' => W' = W ∧ v = .int .i64 (k : Nat)) := by
  refine wpF fun75 rfl ?_
  try simp only [wpK_assoc]
  refine wpK_reg (fun R hR => by simp; exact hR) ?_
  try simp only [wpK_assoc]
  refine wpK_regc (J := fun A' W' => W' = W ∧ A'.n = 5 ∧ A'.defers = [] ∧ A'.tmps.get 2 = some (.int .i64 (k : Nat))) (fun R hR => ?_) ?_
  · simp [aEnter, fun83, short_other, aCallV]
    rw [callS_none]
    refine (tz_wp hT hx h1 h2).mono ?_
    rintro _ W' ⟨rfl, rfl⟩
    simp
    apply hR
    exact ⟨rfl, rfl, rfl, by simp⟩
  rintro ⟨tm, n, ds⟩ W' ⟨rfl, hn, hd, h2⟩
  simp only at hn hd h2
  subst hn; subst hd
  exact wpK_ret ⟨.inr rfl, rfl, [.int .i64 (k : Nat)], by simp [h2], rfl, rfl⟩
/-- where a place lies if those of a set are one -/
def atP (from_ src q : Nat) : Nat := if from_.testBit q then src else q
theorem at_wp {W : AW} {bF bW p from_ src q : Nat} (hf : from_ < 4294967296) (hq : q < 24) (hF : W.Has bF 0 (.int .u32 (from_ : Nat))) (hW : W.Has bW 0 (.pointer (some ⟨p, 0, none⟩))) (hS : W.Has p 824 (.int .i64 (src : Nat))) :
    WpF T0 76 [.int .i64 (q : Nat), .pointer (some ⟨bF, 0, none⟩), .pointer (some ⟨bW, 0, none⟩)] W (fun v W' => W' = W ∧ v = .int .i64 (atP from_ src q : Nat)) := by
  have lF := load_of und116 rfl hF
  have lW := load_of und113 rfl hW
  have lS := load_of und3 rfl hS
  refine wpF fun76 rfl ?_
  try simp only [wpK_assoc]
  refine wpK_reg (fun R hR => by simp; exact hR) ?_
  try simp only [wpK_assoc]
  refine wpK_regc (J := fun A' W' => W' = W ∧ A'.n = 13 ∧ A'.defers = [] ∧ A'.tmps.get 0 = some (.int .i64 (q : Nat)) ∧ A'.tmps.get 2 = some (.pointer (some ⟨bW, 0, none⟩)) ∧ A'.tmps.get 7 = some (.bool (from_.testBit q))) (fun R hR => ?_) ?_
  · simp [lF, aEnter, fun62, short_other, aCallV]
    rw [callS_none]
    refine (has_wp from_ q hf (by omega) W).mono ?_
    rintro _ W' ⟨rfl, rfl⟩
    simp [-testBit_dec]
    apply hR
    exact ⟨rfl, rfl, rfl, by simp, by simp, by simp [-testBit_dec]⟩
  rintro ⟨tm, n, ds⟩ W' ⟨rfl, hn, hd, h0, h2, h7⟩
  simp only at hn hd h0 h2 h7
  subst hn; subst hd
  cases hb : from_.testBit q with
  | true =>
    rw [hb] at h7
    refine wpK_condT (by simp [h7]) ?_
    try simp only [wpK_assoc]
    refine wpK_reg (fun R hR => by simp [h2, lW, nilck, lS]; exact hR) ?_
    exact wpK_ret ⟨.inr rfl, rfl, [.int .i64 (src : Nat)], by simp, rfl, by rw [atP, hb]; rfl⟩
  | false =>
    rw [hb] at h7
    refine wpK_onF (by simp [h7]) ?_
    try simp only [wpK_assoc]
    refine wpK_reg (fun R hR => by simp [h0]; exact hR) ?_
    exact wpK_ret ⟨.inr rfl, rfl, [.int .i64 (q : Nat)], by simp, rfl, by rw [atP, hb]; rfl⟩

end Go.Proofs.YtkipaffjmcmclaaDoor

open Go Go.Eng
namespace Go.Proofs.YtkipaffjmcmclaaDoor
attribute [local congr] undef_congr WpK.congr WpS.congr WpL.congr WpC.congr WpF.congr gotS.congr callS.congr nextS.congr wantS.congr condS.congr
attribute [local irreducible] WpK
attribute [local simp] WpDr_nil WpDr_cons atS_some dwantS_true dwantS_false kindS_light kindS_float kindS_heavy lightS_value floatS_some heavyS_value heavyS_skip heavyS_enter dcallS_some doneS_eq
  isLight isFloat isPlain dLook testBit_dec dChain dLights_nil dLights_skip dLights_one dLight_nil dLight_cons dFreshes_nil dFreshes_one oneF_none oneF_some dFresh_nil dFresh_cons oneL_some oneW_true oneW_false sameV_value dPut dMay valEq arrEq listEq List.getElem?_cons Tr.get_nil dEnd
attribute [local simp] WpS_nil WpS_cons isDefer undef_false wantS_true wantS_false nextS_value nextS_skip nextS_enter callS_some gotS_some aWanted aOp aEvalF aEval opMove opAssign opPick aVal flat flat1 AAct.put opBinOp opConvert opIndex Tr.get_set Tr.get_lay aBin aResults tupled
  aCall aVals aCallB blt_dec ble_dec beq_dec aBinI_add aBinI_sub aBinI_lss aBinI_leq aBinI_gtr aBinI_geq aBinI_eql aBinI_neq index_str len_str len_slice Nat.beq_refl und2 und3 und4 und5 und39 und76 und82 und116 und22 und29 und25 und33 und46 und43 und49 und111 und113 field152 field156_0 field156_1 field156_2 field156_3 field156_4
  field78 field106 field24 field31 field27 field35 field108 field109 opBox opLoad opFieldAddr opIndexAddr acells aAddr opExtract aExtract opUnOp opAlloc opStore opMakeInterface opNilCheck opBuild aParts opBuildSlice aValW
set_option maxHeartbeats 4000000
/-! ### works are laid -/
def initW (s t : Nat) : List Value := rep [.int .i64 0] 800 ++ (rep [.slice none 0 0] 24 ++ ([.int .i64 (s : Nat), .int .i64 (t : Nat)] ++ rep [.int .i64 0] 24))
theorem rep_len (v : Value) : ∀ n, (rep [v] n).length = n
  | 0 => rfl
  | n + 1 => by show ([v] ++ rep [v] n).length = _; rw [List.length_append, rep_len v n]; simp; omega
theorem initW_get (s t : Nat) : (initW s t).length = 850 ∧ (∀ q, q < 24 → (initW s t)[800 + q]? = some (.slice none 0 0)) ∧ (initW s t)[824]? = some (.int .i64 (s : Nat)) ∧ (initW s t)[825]? = some (.int .i64 (t : Nat)) ∧ ∀ q, q < 24 → (initW s t)[826 + q]? = some (.int .i64 ((0 : Nat) : Int)) := by
  have h1 := rep_len (.int .i64 0) 800
  have h2 := rep_len (.slice none 0 0) 24
  have h3 := rep_len (.int .i64 0) 24
  unfold initW
  refine ⟨by simp only [List.length_append, h1, h2, h3]; rfl, fun q hq => ?_, ?_, ?_, fun q hq => ?_⟩
  · rw [List.getElem?_append_right (by omega), h1, List.getElem?_append_left (by omega), show 800 + q - 800 = q from by omega]
    exact rep_get _ 24 q hq
  · rw [List.getElem?_append_right (by omega), h1, List.getElem?_append_right (by omega), h2]; rfl
  · rw [List.getElem?_append_right (by omega), h1, List.getElem?_append_right (by omega), h2]; rfl
  · rw [List.getElem?_append_right (by omega), h1, List.getElem?_append_right (by omega), h2, List.getElem?_append_right (by simp; omega)]
    simp only [List.length_cons, List.length_nil]
    rw [show 826 + q - 800 - 24 - (0 + 1 + 1) = q from by omega]
    exact rep_get _ 24 q hq
theorem build156 (s t : Nat) : aBuild T0 156 [(2, .int .i64 (s : Nat)), (3, .int .i64 (t : Nat))] = some (.agg ⟨initW s t⟩) := by kernel_rfl
/-- the lists that grow in works -/
def Fg (G : Nat → List Nat) : Nat → Option Fld := fun o => if 800 ≤ o ∧ o < 824 then some ⟨(G (o - 800)).length, natsV (G (o - 800)), 3, 1⟩ else none
structure LayW (W : AW) (p : Nat) (col : Nat → Nat) (G : Nat → List Nat) (L : List Stp) (m s t : Nat) : Prop where
  ex : ∃ c, GObj W p 850 156 col (Fg G) c ∧ (∀ h, h < m → c.get (2 * h) = some (.int .i64 (hTo L h : Nat)) ∧ c.get (2 * h + 1) = some (.int .i64 (hCap L h))) ∧
    c.get 824 = some (.int .i64 (s : Nat)) ∧ c.get 825 = some (.int .i64 (t : Nat)) ∧ ∀ q, q < 24 → c.get (826 + q) = some (.int .i64 ((0 : Nat) : Int))
theorem gobj_congr {W : AW} {p N : Nat} {ST : TypeId} {col : Nat → Nat} {F F' : Nat → Option Fld} {c : Tr Value} (h : GObj W p N ST col F c) (he : ∀ o, F' o = F o) : GObj W p N ST col F' c :=
  ⟨h.blk, fun o fl hf => h.fld o fl (by rw [← he]; exact hf), h.cp, h.lt⟩
theorem LayW.only {W W' : AW} {p : Nat} {col : Nat → Nat} {G : Nat → List Nat} {L : List Stp} {m s t : Nat} {K : Nat → Prop} (h : LayW W p col G L m s t) (ho : Only K W W') (hk : ∀ b, b < W.next → col b ≠ 0 → ¬ K b) : LayW W' p col G L m s t := by
  obtain ⟨c, h1, h2⟩ := h.ex
  exact ⟨c, h1.only ho hk, h2⟩
theorem LayW.src {W : AW} {p : Nat} {col : Nat → Nat} {G : Nat → List Nat} {L : List Stp} {m s t : Nat} (h : LayW W p col G L m s t) : W.Has p 824 (.int .i64 (s : Nat)) := by
  obtain ⟨c, h1, _, h3, _⟩ := h.ex
  exact ⟨h1.lt p (by rw [h1.cp]; omega), by simp only [AW.cell, h1.blk, blt_dec]; exact h3⟩
/-- a half is written -/
theorem LayW.half {W : AW} {p : Nat} {col : Nat → Nat} {G : Nat → List Nat} {L : List Stp} {m s t : Nat} (h : LayW W p col G L m s t) (hm : m < 400) :
    ∃ W', aStoreVar T0 W 152 p (2 * m) (.agg ⟨[.int .i64 (hTo L m : Nat), .int .i64 (hCap L m)]⟩) = some W' ∧ W'.next = W.next ∧ Only (fun b => b = p) W W' ∧ LayW W' p col G L (m + 1) s t := by
  obtain ⟨c, h1, h2, h3, h4, h5⟩ := h.ex
  have hpl := h1.lt p (by rw [h1.cp]; omega)
  obtain ⟨W', a1, a2, a3, a4⟩ := storeVar_own (T := T0) (t := 152) (v := .agg ⟨[.int .i64 (hTo L m : Nat), .int .i64 (hCap L m)]⟩) (o := 2 * m) inf152 (by rw [is152]; rfl) h1.blk (by show 2 * m + 2 ≤ 850; omega) rfl
  have hO : Only (fun b => b = p) W W' := ⟨by omega, fun b _ hb => a3 b hb⟩
  have hg : ∀ j, (c.lay (2 * m) (acells (.agg ⟨[.int .i64 (hTo L m : Nat), .int .i64 (hCap L m)]⟩))).get j = if 2 * m ≤ j ∧ j < 2 * m + 2 then [Value.int .i64 (hTo L m : Nat), .int .i64 (hCap L m)][j - 2 * m]? else c.get j := fun j => by
    rw [Tr.get_lay]; rfl
  refine ⟨W', a1, a2, hO, ⟨_, ⟨a4, fun o fl hf => ?_, h1.cp, fun b hb => by rw [a2]; exact h1.lt b hb⟩, fun y hy => ?_, ?_, ?_, fun q hq => ?_⟩⟩
  · obtain ⟨g1, v, g2, g3⟩ := h1.fld o fl hf
    have ho : 800 ≤ o := by unfold Fg at hf; split at hf; omega; cases hf
    refine ⟨g1, v, by rw [hg, if_neg (by omega)]; exact g2, g3.only hO (fun b _ hc e => by subst e; rw [h1.cp] at hc; omega)⟩
  · by_cases e : y = m
    · subst e
      rw [hg, hg, if_pos (by omega), if_pos (by omega), Nat.sub_self, show 2 * y + 1 - 2 * y = 1 from by omega]
      exact ⟨rfl, rfl⟩
    · rw [hg, hg, if_neg (by omega), if_neg (by omega)]
      exact h2 y (by omega)
  · rw [hg, if_neg (by omega)]; exact h3
  · rw [hg, if_neg (by omega)]; exact h4
  · rw [hg, if_neg (by omega)]; exact h5 q hq
/-- out[q] = append(out[q], h) -/
theorem LayW.push {W : AW} {p : Nat} {col : Nat → Nat} {G : Nat → List Nat} {L : List Stp} {m s t : Nat} (h : LayW W p col G L m s t) {q x : Nat} (hq : q < 24) (hn : (G q).length ≤ 1000) (hm : m ≤ 400) :
    ∃ v v' W4 W5, W.Has p (800 + q) v ∧ aAppend T0 (W.newCells 3 [.int .i64 (x : Nat)]) [46, 46] [v, .slice (some ⟨W.next, 0, none⟩) 1 2] = some (v', W4) ∧ aStoreVar T0 W4 46 p (800 + q) v' = some W5 ∧ W4.next = W.next + 2 ∧ W5.next = W.next + 2 ∧ Only (fun b => col b ≠ 0 ∧ b ≠ p) W W4 ∧ Only (fun b => col b ≠ 0) W W5 ∧
      (∃ A c, v = .slice A (G q).length c) ∧ LayW W5 p (fun b => if b = W.next + 1 then (800 + q) + 1 else col b) (upd G q (G q ++ [x])) L m s t := by
  obtain ⟨c, h1, h2, h3, h4, h5⟩ := h.ex
  have hF : Fg G (800 + q) = some ⟨(G q).length, natsV (G q), 3, 1⟩ := by unfold Fg; rw [if_pos (by omega), show 800 + q - 800 = q from by omega]
  obtain ⟨g1, v, g2, g3⟩ := h1.fld _ _ hF
  obtain ⟨v', W4, W5, a1, a2, a3, a4, a5, a6, a7⟩ := h1.push (T := T0) (t := 46) (i := Tryd.t3) (it := Tryd.t46) (z := .int .i64 0) (o := 800 + q) hF Nat.zero_lt_one und46 inf3 is3 z3 rfl inf46 is46 (u := [.int .i64 (x : Nat)]) rfl rfl (by rw [by3]; show 2 * ((G q).length + 1) * 8 ≤ _; omega) (by show (G q).length + 1 ≤ _; omega) g2
  have a1 : aAppend T0 (W.newCells 3 [.int .i64 (x : Nat)]) [46, 46] [v, .slice (some ⟨W.next, 0, none⟩) 1 2] = some (v', W4) := a1
  have hpl := h1.lt p (by rw [h1.cp]; omega)
  refine ⟨v, v', W4, W5, ⟨hpl, by simp only [AW.cell, h1.blk, blt_dec, show 800 + q < 850 from by omega, decide_true]; exact g2⟩, a1, a2, a3, a4, a5, a7.mono (fun b _ hb => ?_), g3.len, ⟨c.set (800 + q) v', gobj_congr a6 (fun o => ?_), fun y hy => ?_, ?_, ?_, fun z hz => ?_⟩⟩
  · rcases hb with hb | hb
    · omega
    · subst hb; rw [h1.cp]; omega
  · unfold Fg
    by_cases e : o = 800 + q
    · subst e
      rw [if_pos (by omega), if_pos rfl, show 800 + q - 800 = q from by omega]
      have : upd G q (G q ++ [x]) q = G q ++ [x] := by unfold upd; rw [if_pos rfl]
      rw [this, List.length_append]
      simp [natsV]
    · rw [if_neg e]
      by_cases e2 : 800 ≤ o ∧ o < 824
      · rw [if_pos e2, if_pos e2]
        have : upd G q (G q ++ [x]) (o - 800) = G (o - 800) := by unfold upd; rw [if_neg (by omega)]
        rw [this]
      · rw [if_neg e2, if_neg e2]
  · rw [Tr.get_set, Tr.get_set, if_neg (by omega), if_neg (by omega)]; exact h2 y hy
  · rw [Tr.get_set, if_neg (by omega)]; exact h3
  · rw [Tr.get_set, if_neg (by omega)]; exact h4
  · rw [Tr.get_set, if_neg (by omega)]; exact h5 z hz

end Go.Proofs.YtkipaffjmcmclaaDoor

open Go Go.Eng
namespace Go.Proofs.YtkipaffjmcmclaaDoor
attribute [local congr] undef_congr WpK.congr WpS.congr WpL.congr WpC.congr WpF.congr gotS.congr callS.congr nextS.congr wantS.congr condS.congr
attribute [local irreducible] WpK
attribute [local simp] WpDr_nil WpDr_cons atS_some dwantS_true dwantS_false kindS_light kindS_float kindS_heavy lightS_value floatS_some heavyS_value heavyS_skip heavyS_enter dcallS_some doneS_eq
  isLight isFloat isPlain dLook testBit_dec dChain dLights_nil dLights_skip dLights_one dLight_nil dLight_cons dFreshes_nil dFreshes_one oneF_none oneF_some dFresh_nil dFresh_cons oneL_some oneW_true oneW_false sameV_value dPut dMay valEq arrEq listEq List.getElem?_cons Tr.get_nil dEnd
attribute [local simp] WpS_nil WpS_cons isDefer undef_false wantS_true wantS_false nextS_value nextS_skip nextS_enter callS_some gotS_some aWanted aOp aEvalF aEval opMove opAssign opPick aVal flat flat1 AAct.put opBinOp opConvert opIndex Tr.get_set Tr.get_lay aBin aResults tupled
  aCall aVals aCallB blt_dec ble_dec beq_dec aBinI_add aBinI_sub aBinI_lss aBinI_leq aBinI_gtr aBinI_geq aBinI_eql aBinI_neq index_str len_str len_slice Nat.beq_refl und2 und3 und4 und5 und39 und76 und82 und116 und22 und29 und25 und33 und46 und43 und49 und111 und113 field152 field156_0 field156_1 field156_2 field156_3 field156_4
  field78 field106 field24 field31 field27 field35 field108 field109 opBox opLoad opFieldAddr opIndexAddr acells aAddr opExtract aExtract opUnOp opAlloc opStore opMakeInterface opNilCheck opBuild aParts opBuildSlice aValW
set_option maxHeartbeats 4000000
def layL (from_ src : Nat) (l : List Quad) : List Stp := l.map fun a => ⟨atP from_ src a.1.toNat, atP from_ src a.2.1.toNat, a.2.2.1, a.2.2.2⟩
theorem stp_lay {from_ src : Nat} {l : List Quad} {i : Nat} {a : Quad} (h : l[i]? = some a) : stp (layL from_ src l) i = ⟨atP from_ src a.1.toNat, atP from_ src a.2.1.toNat, a.2.2.1, a.2.2.2⟩ := by
  unfold stp layL; rw [List.getElem?_map, h]; rfl
theorem atP_lt {from_ src q : Nat} (hs : src < 24) (hq : q < 24) : atP from_ src q < 24 := by unfold atP; split <;> assumption
theorem layL_ok {P : Int} {l : List Quad} (h : PlanIn P l) {from_ src : Nat} (hs : src < 24) : StpsOk (layL from_ src l) := by
  obtain ⟨h2, h24, h200⟩ := h.size
  refine ⟨by simp [layL]; omega, fun i hi => ?_⟩
  have hi' : i < l.length := by simpa [layL] using hi
  rw [stp_lay (List.getElem?_eq_getElem hi')]
  have := h.step (List.getElem_mem hi')
  generalize l[i] = a at this
  obtain ⟨a1, a2, c, d⟩ := a
  simp only at this ⊢
  exact ⟨atP_lt hs (by omega), atP_lt hs (by omega), by omega, by omega, by omega, by omega⟩
theorem cap_rooms {L : List Stp} (h : StpsOk L) : Rooms L (hCap L) := ⟨fun y hy => (h.to hy).2.2.1, fun _ _ => rfl⟩
theorem tabs_ext {W W' : AW} (h : tabsIn T0 T0.tabs W = true) (h0 : 0 < W.next) (he : Ext W W') : tabsIn T0 T0.tabs W' = true := tabsIn_only h (fun t ht => he.2 t.name (by rw [tabs_name t ht]; exact h0) (fun x => x))
theorem build152 (x y : Int) : aBuild T0 152 [(0, .int .i64 x), (1, .int .i64 y)] = some (.agg ⟨[.int .i64 x, .int .i64 y]⟩) := by kernel_rfl
theorem fill46 (x : Int) : aFill (fun j => some (j, 1)) [.int .i64 0] [(0, .int .i64 x)] = some [.int .i64 x] := by kernel_rfl
theorem rep3 : rep [Value.int .i64 0] 1 = [.int .i64 0] := rfl

theorem lay_wp {W : AW} {t : TypeId} {r : Value} {fz fs : FuncId} {P : Int} {l : List Quad} (h : PlanOf W t r fz fs P l) (hP : PlanIn P l) {from_ src to : Nat} (hf : from_ < 4294967296) (hs1 : from_.testBit src = true) (hs2 : ∀ j, j < src → from_.testBit j = false) (hs : src < 24) (hto : to < 24)
    (hT : tabsIn T0 T0.tabs W = true) (h0 : 0 < W.next) :
    WpF T0 53 [.iface t r, .int .u32 (from_ : Nat), .int .i64 (to : Nat)] W (fun v W' => Ext W W' ∧ ∃ p B, v = .pointer (some ⟨p, 0, none⟩) ∧ W.next ≤ p ∧ Wk W' p B (layL from_ src l) src to (hCap (layL from_ src l)) (fun _ => 0)) := by
  obtain ⟨fnz, hfz⟩ := h.hfz
  obtain ⟨fns, hfs⟩ := h.hfs
  have hnz := h.nz
  have hns := h.ns
  obtain ⟨hP2, hP24, hl200⟩ := hP.size
  have hL := layL_ok hP (from_ := from_) hs
  have hLlen : (layL from_ src l).length = l.length := by simp [layL]
  refine wpF fun53 rfl ?_
  obtain ⟨W1, hW1, hE1, hn1, hVF⟩ : ∃ W1, W1 = W.newCells 116 [.int .u32 (from_ : Nat)] ∧ Ext W W1 ∧ W1.next = W.next + 1 ∧ Var W1 W.next 116 [.int .u32 (from_ : Nat)] := ⟨_, rfl, .newCells _ _ _, rfl, Var.new _ _ _⟩
  have lF := hVF.load1 (T := T0) und116 rfl (j := 0) (v := .int .u32 (from_ : Nat)) rfl
  obtain ⟨i1, i2, i3, i4, i5⟩ := initW_get src to
  obtain ⟨W2, hW2, hE2, hn2, hV2⟩ : ∃ W2, W2 = W1.newCells 156 (initW src to) ∧ Ext W1 W2 ∧ W2.next = W.next + 2 ∧ Var W2 (W.next + 1) 156 (initW src to) := ⟨_, rfl, .newCells _ _ _, by rw [newCells_next, hn1], by rw [← hn1]; exact Var.new _ _ _⟩
  obtain ⟨W3, s1, s2, hE3, hVW⟩ := storeVar_new (T := T0) (W := W2) (t := 113) (v := .pointer (some ⟨W.next + 1, 0, none⟩)) (z := [.pointer none]) inf113 (by rw [is113]; rfl) (by rw [is113]; rfl) rfl
  have hVW : Var W3 (W.next + 2) 113 [.pointer (some ⟨W.next + 1, 0, none⟩)] := by rw [← hn2]; exact hVW
  try simp only [wpK_assoc]
  refine wpK_reg (fun R hR => by simp; rw [← hW1]; exact hR) ?_
  try simp only [wpK_assoc]
  refine wpK_regc (J := fun A' W' => W' = W3 ∧ A'.n = 97 ∧ A'.defers = [] ∧ A'.tmps.get 0 = some (.iface t r) ∧ A'.tmps.get 4 = some (.pointer (some ⟨W.next, 0, none⟩)) ∧ A'.tmps.get 7 = some (.pointer (some ⟨W.next + 2, 0, none⟩))) (fun R hR => ?_) ?_
  · simp [lF, aEnter, fun75, short_other, aCallV]
    rw [callS_none]
    refine (first_wp (tabs_ext hT h0 hE1) hf hs1 hs2).mono ?_
    rintro _ W' ⟨rfl, rfl⟩
    simp [build156, zero113]
    rw [← hW2]
    simp [hn1, hn2] at s1 ⊢
    simp [s1]
    apply hR
    exact ⟨rfl, rfl, rfl, by simp, by simp, by simp⟩
  rintro ⟨tm, n, ds⟩ W3' ⟨rfl, hn, hd, t0, t4, t7⟩
  simp only at hn hd t0 t4 t7
  subst hn; subst hd
  try simp only [wpK_assoc]
  refine wpK_reg (fun R hR => by simp [t4, t7, opMakeFunc]; exact hR) ?_
  have hE03 : Ext W W3' := (hE1.trans hE2).trans hE3
  try simp only [wpK_assoc]
  refine wpK_regc (J := fun A' W' => Ext W3' W' ∧ A'.n = 97 ∧ A'.defers = [] ∧ A'.tmps.get 0 = some (.iface t r) ∧ A'.tmps.get 4 = some (.pointer (some ⟨W.next, 0, none⟩)) ∧ A'.tmps.get 7 = some (.pointer (some ⟨W.next + 2, 0, none⟩)) ∧ A'.tmps.get 8 = some (.func (.func 76) ⟨[]⟩ ⟨[.pointer (some ⟨W.next, 0, none⟩), .pointer (some ⟨W.next + 2, 0, none⟩)]⟩) ∧ A'.tmps.get 10 = some (.int .i64 l.length)) (fun R hR => ?_) ?_
  · simp [t0, aCallI, h.meth, aMeth, hfz, short_other hnz]
    rw [callS_none]
    refine (h.size W3' hE03).mono ?_
    rintro _ W' ⟨hE, rfl⟩
    simp
    apply hR
    exact ⟨hE, rfl, rfl, by simp [t0], by simp [t4], by simp [t7], by simp, by simp⟩
  rintro ⟨tm, n, ds⟩ W4 ⟨hE4, hn, hd, t0, t4, t7, t8, t10⟩
  simp only at hn hd t0 t4 t7 t8 t10
  subst hn; subst hd
  try simp only [wpK_assoc]
  refine wpK_reg (fun R hR => by simp [t10]; exact hR) ?_
  have hn3 : W3'.next = W.next + 3 := by omega
  have hLay0 : LayW W4 (W.next + 1) (fun b => if b = W.next + 1 then 851 else 0) (fun q => outsL (layL from_ src l) q 0) (layL from_ src l) 0 src to := by
    have hV4 := (hV2.ext hE3).ext hE4
    obtain ⟨v1, c, v2, v3⟩ := hV4
    rw [i1] at v2 v3
    refine ⟨c, ⟨v2, fun o fl hf => ?_, by simp, fun b hb => ?_⟩, fun y hy => by omega, by rw [v3 _ (by omega)]; exact i3, by rw [v3 _ (by omega)]; exact i4, fun q hq => by rw [v3 _ (by omega)]; exact i5 q hq⟩
    · unfold Fg at hf
      split at hf
      · rename_i ho
        cases hf
        refine ⟨by omega, .slice none 0 0, ?_, ?_⟩
        · rw [v3 _ (by omega)]
          have := i2 (o - 800) (by omega)
          rwa [show 800 + (o - 800) = o from by omega] at this
        · exact .nil _ _ _ _
      · cases hf
    · have hb : (if b = W.next + 1 then 851 else 0) ≠ 0 := hb
      split at hb
      · have := hE4.1; omega
      · exact absurd rfl hb
  try simp only [wpK_assoc]
  refine wpK_while (I := fun k A' W' => A'.n = 97 ∧ A'.defers = [] ∧ A'.tmps.get 0 = some (.iface t r) ∧ A'.tmps.get 7 = some (.pointer (some ⟨W.next + 2, 0, none⟩)) ∧ A'.tmps.get 8 = some (.func (.func 76) ⟨[]⟩ ⟨[.pointer (some ⟨W.next, 0, none⟩), .pointer (some ⟨W.next + 2, 0, none⟩)]⟩) ∧ A'.tmps.get 27 = some (.int .i64 l.length) ∧
      Ext W W' ∧ Var W' W.next 116 [.int .u32 (from_ : Nat)] ∧ Var W' (W.next + 2) 113 [.pointer (some ⟨W.next + 1, 0, none⟩)] ∧ ∃ (i : Nat) (col : Nat → Nat), k = l.length - i ∧ i ≤ l.length ∧ A'.tmps.get 28 = some (.int .i64 i) ∧ (∀ b, col b ≠ 0 → W.next ≤ b) ∧ col W.next = 0 ∧ col (W.next + 2) = 0 ∧ LayW W' (W.next + 1) col (fun q => outsL (layL from_ src l) q i) (layL from_ src l) (2 * i) src to)
    (J := fun A' W' => A'.n = 97 ∧ A'.defers = [] ∧ A'.tmps.get 7 = some (.pointer (some ⟨W.next + 2, 0, none⟩)) ∧ Ext W W' ∧ Var W' (W.next + 2) 113 [.pointer (some ⟨W.next + 1, 0, none⟩)] ∧ ∃ col, LayW W' (W.next + 1) col (fun q => outsL (layL from_ src l) q l.length) (layL from_ src l) (2 * l.length) src to)
    (Rt := fun _ _ => False) (k := l.length) ?_ ?_ ?_ ?_
  · exact ⟨rfl, rfl, by simp [t0], by simp [t7], by simp [t8], by simp, hE03.trans hE4, ((hVF.ext hE2).ext hE3).ext hE4, hVW.ext hE4, 0, _, by simp, by simp, by simp, fun b hb => by
      have hb : (if b = W.next + 1 then 851 else 0) ≠ 0 := hb
      split at hb
      · omega
      · exact absurd rfl hb, by simp, by simp, hLay0⟩
  · clear hLay0 hE4 t0 t4 t7 t8 t10 hE03 hVW hE3 s1 s2 hV2 hE2 hVF hE1 lF hW1 hW2
    rintro k ⟨tm, n, ds⟩ W5 ⟨hn, hd, t0, t7, t8, t27, hE5, hVF, hVW, i, col, hk, hi, t28, hcol, hc1, hc2, hLay⟩ Q' hJ hRt hI
    simp only at hn hd t0 t7 t8 t27 t28
    subst hn; subst hd
    try simp only [wpK_assoc]
    refine wpK_reg (fun R hR => by simp [t27, t28]; exact hR) ?_
    by_cases hlt : i < l.length
    · refine wpK_onT (by simp [hlt]) ?_
      have ha : l[i]? = some l[i] := List.getElem?_eq_getElem hlt
      have hm : l[i] ∈ l := List.getElem_mem hlt
      generalize l[i] = a at ha hm
      have hst := hP.step hm
      have hstp := stp_lay (from_ := from_) (src := src) ha
      obtain ⟨a1, a2, c, d⟩ := a
      simp only at hst hstp
      obtain ⟨a1, rfl⟩ : ∃ a' : Nat, a1 = a' := ⟨a1.toNat, by omega⟩
      obtain ⟨a2, rfl⟩ : ∃ a' : Nat, a2 = a' := ⟨a2.toNat, by omega⟩
      simp only [Int.toNat_natCast] at hstp
      have hx24 := atP_lt (from_ := from_) hs (show a1 < 24 by omega)
      have hy24 := atP_lt (from_ := from_) hs (show a2 < 24 by omega)
      have hat1 : ∀ W', W'.Has W.next 0 (.int .u32 (from_ : Nat)) → W'.Has (W.next + 2) 0 (.pointer (some ⟨W.next + 1, 0, none⟩)) → W'.Has (W.next + 1) 824 (.int .i64 (src : Nat)) → WpF T0 76 [.int .i64 (a1 : Nat), .pointer (some ⟨W.next, 0, none⟩), .pointer (some ⟨W.next + 2, 0, none⟩)] W' (fun v W'' => W'' = W' ∧ v = .int .i64 (atP from_ src a1 : Nat)) := fun W' g1 g2 g3 => at_wp hf (by omega) g1 g2 g3
      have hat2 : ∀ W', W'.Has W.next 0 (.int .u32 (from_ : Nat)) → W'.Has (W.next + 2) 0 (.pointer (some ⟨W.next + 1, 0, none⟩)) → W'.Has (W.next + 1) 824 (.int .i64 (src : Nat)) → WpF T0 76 [.int .i64 (a2 : Nat), .pointer (some ⟨W.next, 0, none⟩), .pointer (some ⟨W.next + 2, 0, none⟩)] W' (fun v W'' => W'' = W' ∧ v = .int .i64 (atP from_ src a2 : Nat)) := fun W' g1 g2 g3 => at_wp hf (by omega) g1 g2 g3
      generalize atP from_ src a1 = x at hstp hx24 hat1
      generalize atP from_ src a2 = y at hstp hy24 hat2
      generalize hLL : layL from_ src l = L at hstp hLay hJ hI hL hLlen
      have hto0 : hTo L (2 * i) = y ∧ hCap L (2 * i) = c := by unfold hTo hCap; rw [if_pos (by omega), if_pos (by omega), show 2 * i / 2 = i from by omega, hstp]; exact ⟨rfl, rfl⟩
      have hto1 : hTo L (2 * i + 1) = x ∧ hCap L (2 * i + 1) = d := by unfold hTo hCap; rw [if_neg (by omega), if_neg (by omega), show (2 * i + 1) / 2 = i from by omega, hstp]; exact ⟨rfl, rfl⟩
      have hGG : ∀ q, outsL L q (i + 1) = upd (upd (fun q => outsL L q i) x (outsL L x i ++ [2 * i])) y (upd (fun q => outsL L q i) x (outsL L x i ++ [2 * i]) y ++ [2 * i + 1]) q := by
        intro q
        rw [outsL, hstp]
        unfold outs1 upd
        by_cases e1 : q = y
        · by_cases e2 : y = x
          · subst e1; subst e2; simp
          · subst e1
            simp only [if_true, if_neg e2, if_neg (fun e : x = q => e2 e.symm), List.nil_append]
        · by_cases e2 : q = x
          · subst e2; simp only [if_true, if_neg e1, if_neg (fun e : y = q => e1 e.symm), List.append_nil]
          · simp only [if_neg e1, if_neg e2, if_neg (fun e : x = q => e2 e.symm), if_neg (fun e : y = q => e1 e.symm), List.append_nil]
      obtain ⟨y0, hy0⟩ : ∃ y0, y0 = 2 * i := ⟨_, rfl⟩
      rw [← hy0] at hto0 hto1 hGG hLay
      have hwm : IntKind.i64.wrap (2 * (i : Int)) = (y0 : Int) := by rw [IntWalk.i64_in _ (by omega)]; omega
      have hwa : IntKind.i64.wrap ((y0 : Int) + 1) = ((y0 + 1 : Nat) : Int) := i64_succ _ (by omega)
      refine wpK_block ?_
      try simp only [wpK_assoc]
      refine wpK_reg (fun R hR => by simp [t28]; exact hR) ?_
      try simp only [wpK_assoc]
      refine wpK_regc (J := fun A' W' => Ext W5 W' ∧ A'.n = 97 ∧ A'.defers = [] ∧ A'.tmps.get 0 = some (.iface t r) ∧ A'.tmps.get 7 = some (.pointer (some ⟨W.next + 2, 0, none⟩)) ∧ A'.tmps.get 8 = some (.func (.func 76) ⟨[]⟩ ⟨[.pointer (some ⟨W.next, 0, none⟩), .pointer (some ⟨W.next + 2, 0, none⟩)]⟩) ∧ A'.tmps.get 27 = some (.int .i64 l.length) ∧ A'.tmps.get 28 = some (.int .i64 i) ∧ A'.tmps.get 11 = some (.int .i64 i) ∧
        A'.tmps.get 12 = some (.int .i64 (a1 : Nat)) ∧ A'.tmps.get 13 = some (.int .i64 (a2 : Nat)) ∧ A'.tmps.get 14 = some (.int .i64 c) ∧ A'.tmps.get 15 = some (.int .i64 d)) (fun R hR => ?_) ?_
      · simp [t0, aCallI, h.meth, aMeth, hfs, short_other hns]
        rw [callS_none]
        refine (h.step W5 hE5 i _ ha).mono ?_
        rintro _ W' ⟨hE, rfl⟩
        simp [tupQ]
        apply hR
        exact ⟨hE, rfl, rfl, by simp [t0], by simp [t7], by simp [t8], by simp [t27], by simp [t28], by simp, by simp, by simp, by simp, by simp⟩
      rintro ⟨tm, n, ds⟩ W6 ⟨hE6, hn, hd, t0, t7, t8, t27, t28, t11, t12, t13, t14, t15⟩
      simp only at hn hd t0 t7 t8 t27 t28 t11 t12 t13 t14 t15
      subst hn; subst hd
      have hVF6 := hVF.ext hE6
      have hVW6 := hVW.ext hE6
      have hLay6 := hLay.only hE6 (fun _ _ _ x => x)
      try simp only [wpK_assoc]
      refine wpK_regc (J := fun A' W' => W' = W6 ∧ A'.n = 97 ∧ A'.defers = [] ∧ A'.tmps.get 0 = some (.iface t r) ∧ A'.tmps.get 7 = some (.pointer (some ⟨W.next + 2, 0, none⟩)) ∧ A'.tmps.get 8 = some (.func (.func 76) ⟨[]⟩ ⟨[.pointer (some ⟨W.next, 0, none⟩), .pointer (some ⟨W.next + 2, 0, none⟩)]⟩) ∧ A'.tmps.get 27 = some (.int .i64 l.length) ∧ A'.tmps.get 28 = some (.int .i64 i) ∧ A'.tmps.get 11 = some (.int .i64 i) ∧
        A'.tmps.get 12 = some (.int .i64 (x : Nat)) ∧ A'.tmps.get 13 = some (.int .i64 (y : Nat)) ∧ A'.tmps.get 14 = some (.int .i64 c) ∧ A'.tmps.get 15 = some (.int .i64 d)) (fun R hR => ?_) ?_
      · simp [t8, t12, aEnter, fun76, short_other, aCallV]
        rw [callS_none]
        refine (hat1 W6 (hVF6.has rfl) (hVW6.has rfl) hLay6.src).mono ?_
        rintro _ W' ⟨rfl, rfl⟩
        simp [t8, t13, aEnter, fun76, short_other, aCallV]
        rw [callS_none]
        refine (hat2 W' (hVF6.has rfl) (hVW6.has rfl) hLay6.src).mono ?_
        rintro _ W'' ⟨rfl, rfl⟩
        simp
        apply hR
        exact ⟨rfl, rfl, rfl, by simp [t0], by simp [t7], by simp [t8], by simp [t27], by simp [t28], by simp [t11], by simp, by simp, by simp [t14], by simp [t15]⟩
      rintro ⟨tm, n, ds⟩ W6' ⟨rfl, hn, hd, t0, t7, t8, t27, t28, t11, t12, t13, t14, t15⟩
      simp only at hn hd t0 t7 t8 t27 t28 t11 t12 t13 t14 t15
      subst hn; subst hd
      -- the halves
      have lW6 := hVW6.load1 (T := T0) und113 rfl (j := 0) (v := .pointer (some ⟨W.next + 1, 0, none⟩)) rfl
      obtain ⟨W7, b1, b2, b3, hLay7⟩ := hLay6.half (by omega)
      rw [hto0.1, hto0.2] at b1
      have hVF7 := hVF6.only b3 (show ¬ W.next = W.next + 1 by omega)
      have hVW7 := hVW6.only b3 (show ¬ W.next + 2 = W.next + 1 by omega)
      have lW7 := hVW7.load1 (T := T0) und113 rfl (j := 0) (v := .pointer (some ⟨W.next + 1, 0, none⟩)) rfl
      obtain ⟨W8, d1, d2, d3, hLay8⟩ := hLay7.half (by omega)
      rw [hto1.1, hto1.2] at d1
      have hVF8 := hVF7.only d3 (show ¬ W.next = W.next + 1 by omega)
      have hVW8 := hVW7.only d3 (show ¬ W.next + 2 = W.next + 1 by omega)
      have ixa := ix153 (W.next + 1) 0 y0 (by omega)
      have ixb := ix153 (W.next + 1) 0 (y0 + 1) (by omega)
      simp only [Nat.zero_add, Nat.mul_comm _ 2] at ixa ixb
      generalize hy1 : y0 + 1 = y1 at hwa ixb d1 hLay7 hLay8 hGG
      try simp only [wpK_assoc]
      refine wpK_reg (fun R hR => by simp [t7, t11, t13, t14, lW6, nilck, aBinI_mul, hwm, build152, ixa, b1]; exact hR) ?_
      try simp only [wpK_assoc]
      refine wpK_reg (fun R hR => by simp [t7, t11, t12, t15, lW7, nilck, aBinI_mul, hwm, hwa, build152, ixb, d1]; exact hR) ?_
      -- out[x]
      have hol1 := outsL_len L x i
      obtain ⟨v, v', W9, W10, p1, p2, p3, p4, p5, p6, p7, ⟨Av, cv, rfl⟩, hLay10⟩ := hLay8.push (x := y0) hx24 (by show (outsL L x i).length ≤ 1000; omega) (by omega)
      have lW8 := hVW8.load1 (T := T0) und113 rfl (j := 0) (v := .pointer (some ⟨W.next + 1, 0, none⟩)) rfl
      have lW8n := (hVW8.ext (.newCells W8 3 [.int .i64 (y0 : Nat)])).load1 (T := T0) und113 rfl (j := 0) (v := .pointer (some ⟨W.next + 1, 0, none⟩)) rfl
      have lW9 := (hVW8.only p6 (fun e => e.1 hc2)).load1 (T := T0) und113 rfl (j := 0) (v := .pointer (some ⟨W.next + 1, 0, none⟩)) rfl
      have lv8 := load_of und46 rfl p1
      have lv8n := load_of und46 rfl (p1.ext (.newCells W8 3 [.int .i64 (y0 : Nat)]))
      have ixx := ix154 (W.next + 1) 800 x hx24
      have hfr := freshB_new W8 3 [.int .i64 (y0 : Nat)] (by simp [listEq, valEq])
      have hVF10 := hVF8.only p7 (fun e => e hc1)
      have hVW10 := hVW8.only p7 (fun e => e hc2)
      try simp only [wpK_assoc]
      refine wpK_dr (wr := Tr.nil |>.set 64 0 |>.set 65 1 |>.set 66 2 |>.set 67 3 |>.set 68 4 |>.set 69 5 |>.set 70 6 |>.set 71 7 |>.set 72 8 |>.set 73 9 |>.set 74 10 |>.set 75 11 |>.set 76 12 |>.set 77 13 |>.set 78 14) (bits := Tr.nil.lay 0 [0, 0, 0, 0, 4, 20, 60, 124, 0, 256, 768, 2044, 1, 4097, 16383, 32767]) (ord := [0, 1, 2, 3, 4, 5, 6, 7, 8, 9, 10, 12, 13, 11, 14, 15])
        (J := fun A' W' => W' = W10 ∧ A'.n = 97 ∧ A'.defers = [] ∧ A'.tmps.get 0 = some (.iface t r) ∧ A'.tmps.get 7 = some (.pointer (some ⟨W.next + 2, 0, none⟩)) ∧ A'.tmps.get 8 = some (.func (.func 76) ⟨[]⟩ ⟨[.pointer (some ⟨W.next, 0, none⟩), .pointer (some ⟨W.next + 2, 0, none⟩)]⟩) ∧ A'.tmps.get 27 = some (.int .i64 l.length) ∧ A'.tmps.get 28 = some (.int .i64 i) ∧ A'.tmps.get 11 = some (.int .i64 i) ∧ A'.tmps.get 13 = some (.int .i64 (y : Nat)))
        (by kernel_rfl) (by kernel_rfl) (by kernel_rfl) (fun G hGG => ?_) ?_
      · simp [t7, t11, t12, lW8, lW8n, lW9, nilck, aBinI_mul, hwm, ixx, lv8, lv8n, aFlt, inf3, z3, is3, rep3, fill46, AFlt.val, p2, p3, p4, p5, hfr, newCells_next]
        apply hGG
        exact ⟨rfl, rfl, rfl, by simp [t0], by simp [t7], by simp [t8], by simp [t27], by simp [t28], by simp [t11], by simp [t13]⟩
      rintro ⟨tm, n, ds⟩ W10' ⟨rfl, hn, hd, t0, t7, t8, t27, t28, t11, t13⟩
      simp only at hn hd t0 t7 t8 t27 t28 t11 t13
      subst hn; subst hd
      -- out[y]
      have hc10 : (fun b => if b = W8.next + 1 then (800 + x) + 1 else col b) (W.next + 2) = 0 ∧ (fun b => if b = W8.next + 1 then (800 + x) + 1 else col b) W.next = 0 := by
        have := hVW8.1
        exact ⟨by simp only [if_neg (show ¬ W.next + 2 = W8.next + 1 by omega)]; exact hc2, by simp only [if_neg (show ¬ W.next = W8.next + 1 by omega)]; exact hc1⟩
      have hcol10 : ∀ b, (fun b => if b = W8.next + 1 then (800 + x) + 1 else col b) b ≠ 0 → W.next ≤ b := fun b hb => by
        have := hVW8.1
        simp only at hb
        split at hb
        · omega
        · exact hcol b hb
      have hO610 : ∀ b, b < W.next → W10'.blocks.get b = W6'.blocks.get b := fun b hb => by
        have := hVW8.1
        have := hVW7.1
        have := hVW6.1
        rw [p7.2 b (by omega) (fun e => by have := hcol b e; omega), d3.2 b (by omega) (by omega), b3.2 b (by omega) (by omega)]
      clear lW8 lW8n lW9 lv8 lv8n hfr lW6 lW7 hLay8 hLay7 hLay6
      generalize (fun b => if b = W8.next + 1 then (800 + x) + 1 else col b) = col2 at hLay10 hc10 hcol10
      have hol2 : (upd (fun q => outsL L q i) x (outsL L x i ++ [y0]) y).length ≤ 1000 := by
        have := outsL_len L y i
        unfold upd; split
        · simp; omega
        · show (outsL L y i).length ≤ 1000; omega
      obtain ⟨v2, v2', W11, W12, q1, q2, q3, q4, q5, q6, q7, ⟨Aw, cw, rfl⟩, hLay12⟩ := hLay10.push (x := y1) hy24 hol2 (by omega)
      have lX8 := hVW10.load1 (T := T0) und113 rfl (j := 0) (v := .pointer (some ⟨W.next + 1, 0, none⟩)) rfl
      have lX8n := (hVW10.ext (.newCells W10' 3 [.int .i64 (y1 : Nat)])).load1 (T := T0) und113 rfl (j := 0) (v := .pointer (some ⟨W.next + 1, 0, none⟩)) rfl
      have lX9 := (hVW10.only q6 (fun e => e.1 hc10.1)).load1 (T := T0) und113 rfl (j := 0) (v := .pointer (some ⟨W.next + 1, 0, none⟩)) rfl
      have lw8 := load_of und46 rfl q1
      have lw8n := load_of und46 rfl (q1.ext (.newCells W10' 3 [.int .i64 (y1 : Nat)]))
      have ixy := ix154 (W.next + 1) 800 y hy24
      have hfr2 := freshB_new W10' 3 [.int .i64 (y1 : Nat)] (by simp [listEq, valEq])
      have hVF12 := hVF10.only q7 (fun e => e hc10.2)
      have hVW12 := hVW10.only q7 (fun e => e hc10.1)
      try simp only [wpK_assoc]
      refine wpK_dr1 (wr := Tr.nil |>.set 79 0 |>.set 80 1 |>.set 81 2 |>.set 82 3 |>.set 83 4 |>.set 84 5 |>.set 85 6 |>.set 86 7 |>.set 87 8 |>.set 88 9 |>.set 89 10 |>.set 90 11 |>.set 91 12 |>.set 92 13 |>.set 93 14 |>.set 94 15) (bits := Tr.nil.lay 0 [0, 0, 0, 0, 4, 20, 60, 124, 0, 256, 768, 1792, 4092, 1, 8193, 32767, 65535]) (ord := [0, 1, 2, 3, 4, 5, 6, 7, 8, 9, 10, 11, 13, 14, 12, 15, 16])
        (J := fun A' W' => W' = W12 ∧ A'.n = 97 ∧ A'.defers = [] ∧ A'.tmps.get 0 = some (.iface t r) ∧ A'.tmps.get 7 = some (.pointer (some ⟨W.next + 2, 0, none⟩)) ∧ A'.tmps.get 8 = some (.func (.func 76) ⟨[]⟩ ⟨[.pointer (some ⟨W.next, 0, none⟩), .pointer (some ⟨W.next + 2, 0, none⟩)]⟩) ∧ A'.tmps.get 27 = some (.int .i64 l.length) ∧ A'.tmps.get 28 = some (.int .i64 i))
        (by kernel_rfl) (by kernel_rfl) (by kernel_rfl) (fun G hGG => ?_) ?_
      · simp [t7, t11, t13, lX8, lX8n, lX9, nilck, aBinI_mul, hwm, hwa, ixy, lw8, lw8n, aFlt, inf3, z3, is3, rep3, fill46, AFlt.val, q2, q3, q4, q5, hfr2, newCells_next]
        apply hGG
        exact ⟨rfl, rfl, rfl, by simp [t0], by simp [t7], by simp [t8], by simp [t27], by simp [t28]⟩
      rintro ⟨tm, n, ds⟩ W12' ⟨rfl, hn, hd, t0, t7, t8, t27, t28⟩
      simp only at hn hd t0 t7 t8 t27 t28
      subst hn; subst hd
      try simp only [wpK_assoc]
      refine wpK_reg1 (fun R hR => by simp [t28]; exact hR) ?_
      have hE12 : Ext W W12' := ⟨by have := hE5.1; have := hE6.1; omega, fun b hb _ => by
        have := hE5.1
        have := hE6.1
        rw [q7.2 b (by omega) (fun e => by have := hcol10 b e; omega), hO610 b hb, hE6.2 b (by omega) (fun x => x), hE5.2 b hb (fun x => x)]⟩
      refine hI (k - 1) _ _ (by omega) ⟨rfl, rfl, by simp [t0], by simp [t7], by simp [t8], by simp [t27], hE12, hVF12, hVW12, i + 1, (fun b => if b = W10'.next + 1 then (800 + y) + 1 else col2 b), by omega, by omega, by simp; exact i64_succ i (by omega), fun b hb => ?_, ?_, ?_, ?_⟩
      · have := hVW10.1
        simp only at hb
        split at hb
        · omega
        · exact hcol10 b hb
      · have := hVW10.1
        simp only [if_neg (show ¬ W.next = W10'.next + 1 by omega)]; exact hc10.2
      · have := hVW10.1
        simp only [if_neg (show ¬ W.next + 2 = W10'.next + 1 by omega)]; exact hc10.1
      · have e : (fun q => outsL L q (i + 1)) = upd (upd (fun q => outsL L q i) x (outsL L x i ++ [y0])) y (upd (fun q => outsL L q i) x (outsL L x i ++ [y0]) y ++ [y1]) := funext hGG
        rw [e, show 2 * (i + 1) = y1 + 1 from by omega]
        exact hLay12
    · have e : i = l.length := by omega
      subst e
      exact wpK_out (by simp) (hJ _ _ ⟨rfl, rfl, by simp [t7], hE5, hVW, col, hLay⟩)
  · rintro A' W' hf; exact hf.elim
  · rintro ⟨tm, n, ds⟩ W5 ⟨hn, hd, t7, hE5, hVW, col, hLay⟩
    simp only at hn hd t7
    subst hn; subst hd
    have lW := hVW.load1 (T := T0) und113 rfl (j := 0) (v := .pointer (some ⟨W.next + 1, 0, none⟩)) rfl
    try simp only [wpK_assoc]
    refine wpK_reg (fun R hR => by simp [t7, lW]; exact hR) ?_
    refine wpK_ret ⟨.inr rfl, rfl, [.pointer (some ⟨W.next + 1, 0, none⟩)], by simp, hE5, W.next + 1, W5.next, rfl, by omega, ?_⟩
    obtain ⟨c, g1, g2, g3, g4, g5⟩ := hLay.ex
    have hpl := g1.lt (W.next + 1) (by rw [g1.cp]; omega)
    refine ⟨hpl, Nat.le_refl _, c, g1.blk, fun y hy => g2 y (by rw [hLlen] at hy; exact hy), fun q hq => ?_, g3, g4, g5⟩
    have hF : Fg (fun q => outsL (layL from_ src l) q l.length) (800 + q) = some ⟨(outsL (layL from_ src l) q l.length).length, natsV (outsL (layL from_ src l) q l.length), 3, 1⟩ := by unfold Fg; rw [if_pos (by omega), show 800 + q - 800 = q from by omega]
    obtain ⟨_, v, f1, f2⟩ := g1.fld _ _ hF
    refine ⟨v, f1, ?_⟩
    rw [hLlen]
    by_cases hl : (outsL (layL from_ src l) q l.length).length = 0
    · obtain ⟨A, cc, hv⟩ := f2.len
      exact ⟨A, cc, hv, fun i x hx => by
        have := (List.getElem?_eq_some_iff.1 hx).1; omega⟩
    · obtain ⟨b, hv, hKb, hb, _, hh⟩ := f2.has (Nat.pos_of_ne_zero hl)
      refine ⟨_, _, hv, fun i x hx => ⟨b, 0, rfl, hb, fun e => ?_, ?_⟩⟩
      · have hKb : col b = 800 + q + 1 := hKb
        rw [e, g1.cp] at hKb; omega
      · rw [Nat.zero_add]; exact hh i _ (natsV_get hx)

end Go.Proofs.YtkipaffjmcmclaaDoor

open Go Go.Eng
namespace Go.Proofs.YtkipaffjmcmclaaDoor
attribute [local congr] undef_congr WpK.congr WpS.congr WpL.congr WpC.congr WpF.congr gotS.congr callS.congr nextS.congr wantS.congr condS.congr
attribute [local irreducible] WpK
attribute [local simp] WpDr_nil WpDr_cons atS_some dwantS_true dwantS_false kindS_light kindS_float kindS_heavy lightS_value floatS_some heavyS_value heavyS_skip heavyS_enter dcallS_some doneS_eq
  isLight isFloat isPlain dLook testBit_dec dChain dLights_nil dLights_skip dLights_one dLight_nil dLight_cons dFreshes_nil dFreshes_one oneF_none oneF_some dFresh_nil dFresh_cons oneL_some oneW_true oneW_false sameV_value dPut dMay valEq arrEq listEq List.getElem?_cons Tr.get_nil dEnd
attribute [local simp] WpS_nil WpS_cons isDefer undef_false wantS_true wantS_false nextS_value nextS_skip nextS_enter callS_some gotS_some aWanted aOp aEvalF aEval opMove opAssign opPick aVal flat flat1 AAct.put opBinOp opConvert opIndex Tr.get_set Tr.get_lay aBin aResults tupled
  aCall aVals aCallB blt_dec ble_dec beq_dec aBinI_add aBinI_sub aBinI_lss aBinI_leq aBinI_gtr aBinI_geq aBinI_eql aBinI_neq index_str len_str len_slice Nat.beq_refl und2 und3 und4 und5 und39 und76 und82 und116 und22 und29 und25 und33 und46 und43 und49 und111 und113 field152 field156_0 field156_1 field156_2 field156_3 field156_4
  field78 field106 field24 field31 field27 field35 field108 field109 opBox opLoad opFieldAddr opIndexAddr acells aAddr opExtract aExtract opUnOp opAlloc opStore opMakeInterface opNilCheck opBuild aParts opBuildSlice aValW
set_option maxHeartbeats 4000000
set_option linter.unusedSimpArgs false
set_option linter.unusedVariables false
/-! ### boards, and what is asked of them -/
theorem board_wp {W : AW} {v : Value} {P : Int} {l : List Tri} (h : TriIn W v l) (hlen : l.length ≤ 1000) :
    WpF T0 13 [.agg ⟨[.int .i64 P, v]⟩] W (fun u W' => Ext W W' ∧ ∃ v', u = .agg ⟨[.int .i64 P, v']⟩ ∧ GrowsN W' v' l.length (flat3 l) 108 3 (fun b => W.next ≤ b)) := by
  obtain ⟨A, c, rfl, hA⟩ := h
  refine wpF fun13 rfl ?_
  obtain ⟨W1, hW1, hE1, hn1, hV0, hV1⟩ : ∃ W1, W1 = (W.newCells 27 [.int .i64 P, .slice A l.length c]).newCells 35 [.int .i64 0, .slice none 0 0] ∧ Ext W W1 ∧ W1.next = W.next + 2 ∧ Var W1 W.next 27 [.int .i64 P, .slice A l.length c] ∧ Var W1 (W.next + 1) 35 [.int .i64 0, .slice none 0 0] :=
    ⟨_, rfl, (Only.newCells _ _ _).trans (Only.newCells _ _ _), rfl, (Var.new _ _ _).ext (.newCells _ _ _), Var.new _ _ _⟩
  obtain ⟨W2, s1, s2, hE2, hV2⟩ := storeVar_new (T := T0) (W := W1) (t := 35) (v := .agg ⟨[.int .i64 P, .slice none 0 0]⟩) (z := [.int .i64 0, .slice none 0 0]) inf35 (by rw [is35]; rfl) (by rw [is35]; rfl) rfl
  have hl0 := hV0.load1 (T := T0) und3 rfl (j := 0) (v := .int .i64 P) rfl
  try simp only [wpK_assoc]
  refine wpK_reg (fun R hR => by simp [zero35, newCells_next]; rw [← hW1]; exact hR) ?_
  try simp only [wpK_assoc]
  refine wpK_reg (fun R hR => by simp [hl0, build35, zero35, s1]; exact hR) ?_
  try simp only [wpK_assoc]
  refine wpK_reg (fun R hR => by simp; exact hR) ?_
  have hV02 := hV0.ext hE2
  have hV12 := hV1.ext hE2
  rw [hn1] at hV2
  try simp only [wpK_assoc]
  refine wpK_while (I := fun k A' W' => A'.n = 28 ∧ A'.defers = [] ∧ A'.tmps.get 1 = some (.pointer (some ⟨W.next, 0, none⟩)) ∧ A'.tmps.get 2 = some (.pointer (some ⟨W.next + 1, 0, none⟩)) ∧ A'.tmps.get 3 = some (.pointer (some ⟨W.next + 2, 0, none⟩)) ∧
      Ext W W' ∧ Var W' W.next 27 [.int .i64 P, .slice A l.length c] ∧ Var W' (W.next + 1) 35 [.int .i64 0, .slice none 0 0] ∧
      ∃ (i : Nat) (v : Value), k = l.length - i ∧ i ≤ l.length ∧ A'.tmps.get 4 = some (.int .i64 i) ∧ Var W' (W.next + 2) 35 [.int .i64 P, v] ∧ GrowsN W' v i (flat3 (l.take i)) 108 3 (fun b => W.next + 3 ≤ b))
    (J := fun A' W' => A'.n = 28 ∧ A'.defers = [] ∧ A'.tmps.get 2 = some (.pointer (some ⟨W.next + 1, 0, none⟩)) ∧ A'.tmps.get 3 = some (.pointer (some ⟨W.next + 2, 0, none⟩)) ∧ Ext W W' ∧ Var W' (W.next + 1) 35 [.int .i64 0, .slice none 0 0] ∧
      ∃ v, Var W' (W.next + 2) 35 [.int .i64 P, v] ∧ GrowsN W' v l.length (flat3 l) 108 3 (fun b => W.next + 3 ≤ b))
    (Rt := fun _ _ => False) (k := l.length) ?_ ?_ ?_ ?_
  · exact ⟨rfl, rfl, by simp, by simp, by simp [hn1], hE1.trans hE2, hV02, hV12, 0, .slice none 0 0, by simp, by simp, by simp, hV2, .nil _ _ _ _⟩
  · rintro k ⟨tm, n, ds⟩ W3 ⟨hn, hd, h1, h2, h3, hE3, hV0, hV1, i, v, hk, hi, h4, hV2, hG⟩ Q' hJ hRt hI
    simp only at hn hd h1 h2 h3 h4
    subst hn; subst hd
    have hl1 := hV0.load1 (T := T0) und25 rfl (j := 1) (v := .slice A l.length c) rfl
    have hl2 := hV2.load1 (T := T0) und33 rfl (j := 1) (v := v) rfl
    try simp only [wpK_assoc]
    refine wpK_reg (fun R hR => by simp [h1, h4, hl1, len_slice und25]; exact hR) ?_
    by_cases hlt : i < l.length
    · refine wpK_onT (by simp [hlt]) ?_
      have ha : l[i]? = some l[i] := List.getElem?_eq_getElem hlt
      generalize l[i] = a at ha
      obtain ⟨b', o, rfl, q1, q2, q3⟩ := hA i a ha
      have hx := indexAddr_tri (T := T0) und25 sz109 (b := b') (o := o) (c := c) (k := .i64) hlt
      have hl3 := load3 (T := T0) und109 agg109 inf109 is109 (q1.ext hE3) (q2.ext hE3) (q3.ext hE3)
      have hp3 := hV2.1
      obtain ⟨v', W4, W5, a1, a2, a3, a4, a5, a6, a7⟩ := Var.push (T := T0) (t := 33) (el := 108) (i := Tryd.t108) (it := Tryd.t33) (sz := 3) (by omega) und33 inf108 is108 z108 rfl inf33 is33 hG hV2 (o := 1) (by omega) (by simp) (u := cells3 a) rfl (oneCells_tri a) (by rw [by108]; omega) (by omega)
      have a1 : aAppend T0 (W3.newCells 108 [.int .i64 a.1, .int .i64 a.2.1, .int .i64 a.2.2]) [33, 33] [v, .slice (some ⟨W3.next, 0, none⟩) 1 2] = some (v', W4) := a1
      refine wpK_block ?_
      try simp only [wpK_assoc]
      refine wpK_reg (fun R hR => by simp [h3, hl2]; exact hR) ?_
      try simp only [wpK_assoc]
      refine wpK_reg1 (fun R hR => by simp [h1, h3, h4, hl1, hx, hl3, bs33, a1, a2]; exact hR) ?_
      try simp only [wpK_assoc]
      refine wpK_reg1 (fun R hR => by simp [h4]; exact hR) ?_
      have hO : Ext W W5 := ⟨by have := hE3.1; omega, fun b hb hk => by rw [a7.2 b (by have := hE3.1; omega) (by omega)]; exact hE3.2 b hb hk⟩
      refine hI (k - 1) _ _ (by omega) ⟨rfl, rfl, by simp [h1], by simp [h2], by simp [h3], hO, hV0.only a7 (by omega), hV1.only a7 (by omega), i + 1, v', by omega, by omega, by simp; exact i64_succ i (by omega), by simpa using a5, ?_⟩
      rw [List.take_add_one, ha, Option.toList_some, flat3_append]
      have : flat3 [a] = cells3 a := by simp [flat3]
      rw [this]
      exact a6.mono (fun b hb => by
        rcases hb with hb | hb
        · exact hb
        · omega)
    · have e : i = l.length := by omega
      subst e
      rw [List.take_length] at hG
      exact wpK_out (by simp) (hJ _ _ ⟨rfl, rfl, by simp [h2], by simp [h3], hE3, hV1, v, hV2, hG⟩)
  · rintro A' W' hf; exact hf.elim
  · rintro ⟨tm, n, ds⟩ W3 ⟨hn, hd, h2, h3, hE3, hV1, v, hV2, hG⟩
    simp only at hn hd h2 h3
    subst hn; subst hd
    obtain ⟨av, cv, hvs⟩ := hG.len
    have hl := hV2.load (T := T0) und35 agg35 inf35 is35
    obtain ⟨W4, t1, t2, t3, t4⟩ := hV1.store (T := T0) (t := 35) (v := .agg ⟨[.int .i64 P, v]⟩) (o := 0) inf35 (by rw [is35]; rfl) (by simp) (by rw [hvs]; rfl)
    have hl4 := t4.load (T := T0) und35 agg35 inf35 (by rw [is35]; rfl)
    try simp only [wpK_assoc]
    refine wpK_reg (fun R hR => by simp [h2, h3, hl, t1]; exact hR) ?_
    refine wpK_ret ⟨.inr rfl, rfl, [.agg ⟨[.int .i64 P, v]⟩], by simp at hl4; simp [h2, hl4], ?_, v, rfl, ?_⟩
    · exact ⟨by have := hE3.1; omega, fun b hb hk => by rw [t3.2 b (by have := hE3.1; omega) (by omega)]; exact hE3.2 b hb hk⟩
    · exact (hG.only t3 (fun b _ hb e => by omega)).mono (fun b hb => by omega)
theorem refCheck_wp {W : AW} {v : Value} (P : Int) {l : List Tri} (h : TriIn W v l) : WpF T0 14 [.agg ⟨[.int .i64 P, v]⟩] W (fun u W' => Ext W W' ∧ u = .int .i64 (chk P (arcsQ l))) := by
  obtain ⟨A, c, rfl, hA⟩ := h
  refine wpF fun14 rfl ?_
  have hV := Var.new W 24 [.int .i64 P, .slice A l.length c]
  have hE : Ext W (W.newCells 24 [.int .i64 P, .slice A l.length c]) := .newCells _ _ _
  generalize hW1 : W.newCells 24 [.int .i64 P, .slice A l.length c] = W1 at hV hE
  have hl0 := hV.load1 (T := T0) und3 rfl (j := 0) (v := .int .i64 P) rfl
  have hl1 := hV.load1 (T := T0) und22 rfl (j := 1) (v := .slice A l.length c) rfl
  try simp only [wpK_assoc]
  refine wpK_reg (fun R hR => by simp [hW1]; exact hR) ?_
  have fin30 : ∀ (B : AAct) (W' : AW), Ext W W' → planOk P (arcsQ l) = false → B.defers = [] → B.tmps.get 2 = some (.int .i64 30) → (AExit.ret = .normal ∨ AExit.ret = .ret) ∧ B.defers = [] ∧ ∃ l1, aResults T0 W' B.tmps Tryd.f14.results.toList = some l1 ∧ Ext W W' ∧ tupled l1 = .int .i64 (chk P (arcsQ l)) := by
    intro B W' hE hbad hd h2
    exact ⟨.inr rfl, hd, [.int .i64 30], by simp [h2], hE, by simp [chk, hbad]⟩
  have hql : (arcsQ l).length = l.length := by simp [arcsQ]
  by_cases hP2 : P < 2
  · try simp only [wpK_assoc]
    refine wpK_reg (fun R hR => by simp [hl0, hl1, hP2]; exact hR) ?_
    refine wpK_condT (by simp) ?_
    try simp only [wpK_assoc]
    refine wpK_reg (fun R hR => by simp; exact hR) ?_
    exact wpK_ret (fin30 _ _ hE (by simp [planOk]; omega) rfl (by simp))
  by_cases hP24 : 0x18 < P
  · try simp only [wpK_assoc]
    refine wpK_reg (fun R hR => by simp [hl0, hl1, hP2, hP24]; exact hR) ?_
    refine wpK_condT (by simp) ?_
    try simp only [wpK_assoc]
    refine wpK_reg (fun R hR => by simp; exact hR) ?_
    exact wpK_ret (fin30 _ _ hE (by simp [planOk]; omega) rfl (by simp))
  by_cases hl200 : (200 : Int) < (l.length : Int)
  · try simp only [wpK_assoc]
    refine wpK_reg (fun R hR => by simp [hl0, hl1, hP2, hP24, hl200, len_slice und22]; exact hR) ?_
    refine wpK_condT (by simp) ?_
    try simp only [wpK_assoc]
    refine wpK_reg (fun R hR => by simp; exact hR) ?_
    exact wpK_ret (fin30 _ _ hE (by simp [planOk, hql]; omega) rfl (by simp))
  try simp only [wpK_assoc]
  refine wpK_reg (fun R hR => by simp [hl0, hl1, hP2, hP24, hl200, len_slice und22]; exact hR) ?_
  refine wpK_onF (by simp) ?_
  try simp only [wpK_assoc]
  refine wpK_reg (fun R hR => by simp; exact hR) ?_
  try simp only [wpK_assoc]
  refine wpK_while (I := fun k B W' => Ext W W' ∧ B.n = 70 ∧ B.defers = [] ∧ B.tmps.get 1 = some (.pointer (some ⟨W.next, 0, none⟩)) ∧ Var W' W.next 24 [.int .i64 P, .slice A l.length c] ∧
      ∃ i : Nat, k = l.length - i ∧ i ≤ l.length ∧ B.tmps.get 3 = some (.int .i64 i) ∧ ∀ j a, j < i → (arcsQ l)[j]? = some a → okStep P a = true)
    (J := fun B W' => Ext W W' ∧ B.n = 70 ∧ B.defers = [] ∧ (arcsQ l).all (okStep P) = true)
    (Rt := fun B W' => Ext W W' ∧ B.defers = [] ∧ B.tmps.get 2 = some (.int .i64 30) ∧ planOk P (arcsQ l) = false) (k := l.length) ?_ ?_ ?_ ?_
  · exact ⟨hE, rfl, rfl, by simp, hV, 0, by simp, by simp, by simp, fun j a hj => by omega⟩
  · rintro k ⟨tm, n, ds⟩ W2 ⟨hE2, hn, hd, h1, hV2, i, hk, hi, h3, hgood⟩ Q' hJ hRt hI
    simp only at hn hd h1 h3
    subst hn; subst hd
    have hl0 := hV2.load1 (T := T0) und3 rfl (j := 0) (v := .int .i64 P) rfl
    have hl1 := hV2.load1 (T := T0) und22 rfl (j := 1) (v := .slice A l.length c) rfl
    try simp only [wpK_assoc]
    refine wpK_reg (fun R hR => by simp [h1, h3, hl1, len_slice und22]; exact hR) ?_
    by_cases hlt : i < l.length
    · refine wpK_onT (by simp [hlt]) ?_
      have ha : l[i]? = some l[i] := List.getElem?_eq_getElem hlt
      have hm : l[i] ∈ l := List.getElem_mem hlt
      generalize l[i] = a at ha hm
      have haq : (arcsQ l)[i]? = some (a.1, a.2.1, a.2.2, 0) := by simp [arcsQ, ha]
      have hmq := List.mem_of_getElem? haq
      obtain ⟨b', o, rfl, q1, q2, q3⟩ := hA i a ha
      have hx := indexAddr_tri (T := T0) und22 sz78 (b := b') (o := o) (c := c) (k := .i64) hlt
      have hl3 := load3 (T := T0) und78 agg78 inf78 is78 (q1.ext hE2) (q2.ext hE2) (q3.ext hE2)
      obtain ⟨Wa, s1, s2, hEa, hVa⟩ := storeVar_new (T := T0) (W := W2) (t := 78) (v := .agg ⟨[.int .i64 a.1, .int .i64 a.2.1, .int .i64 a.2.2]⟩) (z := [.int .i64 0, .int .i64 0, .int .i64 0]) inf78 (by rw [is78]; rfl) (by rw [is78]; rfl) rfl
      have la0 := hVa.load1 (T := T0) und3 rfl (j := 0) (v := .int .i64 a.1) rfl
      have la1 := hVa.load1 (T := T0) und3 rfl (j := 1) (v := .int .i64 a.2.1) rfl
      have la2 := hVa.load1 (T := T0) und2 rfl (j := 2) (v := .int .i64 a.2.2) rfl
      have hV3 := hV2.ext hEa
      have lP := hV3.load1 (T := T0) und3 rfl (j := 0) (v := .int .i64 P) rfl
      refine wpK_block ?_
      try simp only [wpK_assoc]
      refine wpK_reg (fun R hR => by simp [h1, h3, hl1, hx, hl3, zero78, s1]; exact hR) ?_
      have bad : ∀ tm' : Tr Value, okStep P (a.1, a.2.1, a.2.2, 0) = false → tm'.get 2 = some (.int .i64 30) → Q' .ret ⟨tm', 70, []⟩ Wa := fun tm' hb h2 => hRt _ _ ⟨hE2.trans hEa, rfl, h2, by
        have : (arcsQ l).all (okStep P) = false := by rw [List.all_eq_false]; exact ⟨_, hmq, by simp [hb]⟩
        simp [planOk, this]⟩
      have good : ∀ tm' : Tr Value, okStep P (a.1, a.2.1, a.2.2, 0) = true → tm'.get 1 = some (.pointer (some ⟨W.next, 0, none⟩)) → tm'.get 3 = some (.int .i64 ((i + 1 : Nat) : Int)) → Q' .normal ⟨tm', 70, []⟩ Wa := fun tm' hb g1 g3 => hI (k - 1) _ _ (by omega) ⟨hE2.trans hEa, rfl, rfl, g1, hV3, i + 1, by omega, by omega, g3, fun j d hj hd => by
        by_cases hji : j = i
        · subst hji; rw [haq] at hd; cases hd; exact hb
        · exact hgood j d (by omega) hd⟩
      have hws : IntKind.i64.wrap ((i : Int) + 1) = ((i + 1 : Nat) : Int) := i64_succ i (by omega)
      by_cases g1 : a.1 < 0
      · try simp only [wpK_assoc]
        refine wpK_reg (fun R hR => by simp [h1, la0, la1, la2, lP, g1]; exact hR) ?_
        refine wpK_endT (by simp) ?_
        try simp only [wpK_assoc]
        refine wpK_reg (fun R hR => by simp; exact hR) ?_
        exact wpK_ret (bad _ (by simp [okStep, two?]; omega) (by simp))
      by_cases g2 : P ≤ a.1
      · try simp only [wpK_assoc]
        refine wpK_reg (fun R hR => by simp [h1, la0, la1, la2, lP, g1, g2]; exact hR) ?_
        refine wpK_endT (by simp) ?_
        try simp only [wpK_assoc]
        refine wpK_reg (fun R hR => by simp; exact hR) ?_
        exact wpK_ret (bad _ (by simp [okStep, two?]; omega) (by simp))
      by_cases g3 : a.2.1 < 0
      · try simp only [wpK_assoc]
        refine wpK_reg (fun R hR => by simp [h1, la0, la1, la2, lP, g1, g2, g3]; exact hR) ?_
        refine wpK_endT (by simp) ?_
        try simp only [wpK_assoc]
        refine wpK_reg (fun R hR => by simp; exact hR) ?_
        exact wpK_ret (bad _ (by simp [okStep, two?]; omega) (by simp))
      by_cases g4 : P ≤ a.2.1
      · try simp only [wpK_assoc]
        refine wpK_reg (fun R hR => by simp [h1, la0, la1, la2, lP, g1, g2, g3, g4]; exact hR) ?_
        refine wpK_endT (by simp) ?_
        try simp only [wpK_assoc]
        refine wpK_reg (fun R hR => by simp; exact hR) ?_
        exact wpK_ret (bad _ (by simp [okStep, two?]; omega) (by simp))
      by_cases g5 : a.1 = a.2.1
      · try simp only [wpK_assoc]
        refine wpK_reg (fun R hR => by simp [h1, la0, la1, la2, lP, g1, g2, g3, g4, g5]; exact hR) ?_
        refine wpK_endT (by simp) ?_
        try simp only [wpK_assoc]
        refine wpK_reg (fun R hR => by simp; exact hR) ?_
        exact wpK_ret (bad _ (by simp [okStep, two?, g5]) (by simp))
      by_cases g6 : a.2.2 < 0
      · try simp only [wpK_assoc]
        refine wpK_reg (fun R hR => by simp [h1, la0, la1, la2, lP, g1, g2, g3, g4, g5, g6]; exact hR) ?_
        refine wpK_endT (by simp) ?_
        try simp only [wpK_assoc]
        refine wpK_reg (fun R hR => by simp; exact hR) ?_
        exact wpK_ret (bad _ (by simp [okStep, two?]; omega) (by simp))
      by_cases g7 : 1000000000 < a.2.2
      · try simp only [wpK_assoc]
        refine wpK_reg (fun R hR => by simp [h1, la0, la1, la2, lP, g1, g2, g3, g4, g5, g6, g7]; exact hR) ?_
        refine wpK_endT (by simp) ?_
        try simp only [wpK_assoc]
        refine wpK_reg (fun R hR => by simp; exact hR) ?_
        exact wpK_ret (bad _ (by simp [okStep, two?]; omega) (by simp))
      try simp only [wpK_assoc]
      refine wpK_reg (fun R hR => by simp [h1, la0, la1, la2, lP, g1, g2, g3, g4, g5, g6, g7]; exact hR) ?_
      refine wpK_endF (by simp) (wpK_skip ?_)
      try simp only [wpK_assoc]
      refine wpK_reg1 (fun R hR => by simp [h3, hws]; exact hR) ?_
      exact good _ (by simp [okStep, two?]; omega) (by simp [h1]) (by simp)
    · refine wpK_out (by simp [hlt]) (hJ _ _ ⟨hE2, rfl, rfl, ?_⟩)
      rw [List.all_eq_true]
      intro x hx
      obtain ⟨j, hj, rfl⟩ := List.getElem_of_mem hx
      exact hgood j (arcsQ l)[j] (by omega) (List.getElem?_eq_getElem hj)
  · rintro A' W' ⟨hE, h1, h2, h3⟩
    exact ⟨.inr rfl, h1, [.int .i64 30], by simp [h2], hE, by simp [chk, h3]⟩
  · rintro ⟨tm, n, ds⟩ W' ⟨hE, hn, hd, hall⟩
    simp only at hn hd
    subst hn; subst hd
    try simp only [wpK_assoc]
    refine wpK_reg (fun R hR => by simp; exact hR) ?_
    refine wpK_ret ⟨.inr rfl, rfl, [.int .i64 0], by simp, hE, ?_⟩
    have : planOk P (arcsQ l) = true := by simp only [planOk, hall, Bool.and_true, hql]; simp; omega
    simp [chk, this]
theorem refCheckB_wp {W : AW} {v : Value} (P : Int) {l : List Tri} (h : TriIn W v l) : WpF T0 15 [.agg ⟨[.int .i64 P, v]⟩] W (fun u W' => Ext W W' ∧ u = .int .i64 (chk P (arcsQ l))) := by
  obtain ⟨A, c, rfl, hA⟩ := h
  refine wpF fun15 rfl ?_
  have hV := Var.new W 27 [.int .i64 P, .slice A l.length c]
  have hE : Ext W (W.newCells 27 [.int .i64 P, .slice A l.length c]) := .newCells _ _ _
  generalize hW1 : W.newCells 27 [.int .i64 P, .slice A l.length c] = W1 at hV hE
  have hl0 := hV.load1 (T := T0) und3 rfl (j := 0) (v := .int .i64 P) rfl
  have hl1 := hV.load1 (T := T0) und25 rfl (j := 1) (v := .slice A l.length c) rfl
  try simp only [wpK_assoc]
  refine wpK_reg (fun R hR => by simp [hW1]; exact hR) ?_
  have fin30 : ∀ (B : AAct) (W' : AW), Ext W W' → planOk P (arcsQ l) = false → B.defers = [] → B.tmps.get 2 = some (.int .i64 30) → (AExit.ret = .normal ∨ AExit.ret = .ret) ∧ B.defers = [] ∧ ∃ l1, aResults T0 W' B.tmps Tryd.f15.results.toList = some l1 ∧ Ext W W' ∧ tupled l1 = .int .i64 (chk P (arcsQ l)) := by
    intro B W' hE hbad hd h2
    exact ⟨.inr rfl, hd, [.int .i64 30], by simp [h2], hE, by simp [chk, hbad]⟩
  have hql : (arcsQ l).length = l.length := by simp [arcsQ]
  by_cases hP2 : P < 2
  · try simp only [wpK_assoc]
    refine wpK_reg (fun R hR => by simp [hl0, hl1, hP2]; exact hR) ?_
    refine wpK_condT (by simp) ?_
    try simp only [wpK_assoc]
    refine wpK_reg (fun R hR => by simp; exact hR) ?_
    exact wpK_ret (fin30 _ _ hE (by simp [planOk]; omega) rfl (by simp))
  by_cases hP24 : 0x18 < P
  · try simp only [wpK_assoc]
    refine wpK_reg (fun R hR => by simp [hl0, hl1, hP2, hP24]; exact hR) ?_
    refine wpK_condT (by simp) ?_
    try simp only [wpK_assoc]
    refine wpK_reg (fun R hR => by simp; exact hR) ?_
    exact wpK_ret (fin30 _ _ hE (by simp [planOk]; omega) rfl (by simp))
  by_cases hl200 : (200 : Int) < (l.length : Int)
  · try simp only [wpK_assoc]
    refine wpK_reg (fun R hR => by simp [hl0, hl1, hP2, hP24, hl200, len_slice und25]; exact hR) ?_
    refine wpK_condT (by simp) ?_
    try simp only [wpK_assoc]
    refine wpK_reg (fun R hR => by simp; exact hR) ?_
    exact wpK_ret (fin30 _ _ hE (by simp [planOk, hql]; omega) rfl (by simp))
  try simp only [wpK_assoc]
  refine wpK_reg (fun R hR => by simp [hl0, hl1, hP2, hP24, hl200, len_slice und25]; exact hR) ?_
  refine wpK_onF (by simp) ?_
  try simp only [wpK_assoc]
  refine wpK_reg (fun R hR => by simp; exact hR) ?_
  try simp only [wpK_assoc]
  refine wpK_while (I := fun k B W' => Ext W W' ∧ B.n = 70 ∧ B.defers = [] ∧ B.tmps.get 1 = some (.pointer (some ⟨W.next, 0, none⟩)) ∧ Var W' W.next 27 [.int .i64 P, .slice A l.length c] ∧
      ∃ i : Nat, k = l.length - i ∧ i ≤ l.length ∧ B.tmps.get 3 = some (.int .i64 i) ∧ ∀ j a, j < i → (arcsQ l)[j]? = some a → okStep P a = true)
    (J := fun B W' => Ext W W' ∧ B.n = 70 ∧ B.defers = [] ∧ (arcsQ l).all (okStep P) = true)
    (Rt := fun B W' => Ext W W' ∧ B.defers = [] ∧ B.tmps.get 2 = some (.int .i64 30) ∧ planOk P (arcsQ l) = false) (k := l.length) ?_ ?_ ?_ ?_
  · exact ⟨hE, rfl, rfl, by simp, hV, 0, by simp, by simp, by simp, fun j a hj => by omega⟩
  · rintro k ⟨tm, n, ds⟩ W2 ⟨hE2, hn, hd, h1, hV2, i, hk, hi, h3, hgood⟩ Q' hJ hRt hI
    simp only at hn hd h1 h3
    subst hn; subst hd
    have hl0 := hV2.load1 (T := T0) und3 rfl (j := 0) (v := .int .i64 P) rfl
    have hl1 := hV2.load1 (T := T0) und25 rfl (j := 1) (v := .slice A l.length c) rfl
    try simp only [wpK_assoc]
    refine wpK_reg (fun R hR => by simp [h1, h3, hl1, len_slice und25]; exact hR) ?_
    by_cases hlt : i < l.length
    · refine wpK_onT (by simp [hlt]) ?_
      have ha : l[i]? = some l[i] := List.getElem?_eq_getElem hlt
      have hm : l[i] ∈ l := List.getElem_mem hlt
      generalize l[i] = a at ha hm
      have haq : (arcsQ l)[i]? = some (a.1, a.2.1, a.2.2, 0) := by simp [arcsQ, ha]
      have hmq := List.mem_of_getElem? haq
      obtain ⟨b', o, rfl, q1, q2, q3⟩ := hA i a ha
      have hx := indexAddr_tri (T := T0) und25 sz109 (b := b') (o := o) (c := c) (k := .i64) hlt
      have hl3 := load3 (T := T0) und109 agg109 inf109 is109 (q1.ext hE2) (q2.ext hE2) (q3.ext hE2)
      obtain ⟨Wa, s1, s2, hEa, hVa⟩ := storeVar_new (T := T0) (W := W2) (t := 109) (v := .agg ⟨[.int .i64 a.1, .int .i64 a.2.1, .int .i64 a.2.2]⟩) (z := [.int .i64 0, .int .i64 0, .int .i64 0]) inf109 (by rw [is109]; rfl) (by rw [is109]; rfl) rfl
      have la0 := hVa.load1 (T := T0) und3 rfl (j := 0) (v := .int .i64 a.1) rfl
      have la1 := hVa.load1 (T := T0) und3 rfl (j := 1) (v := .int .i64 a.2.1) rfl
      have la2 := hVa.load1 (T := T0) und2 rfl (j := 2) (v := .int .i64 a.2.2) rfl
      have hV3 := hV2.ext hEa
      have lP := hV3.load1 (T := T0) und3 rfl (j := 0) (v := .int .i64 P) rfl
      refine wpK_block ?_
      try simp only [wpK_assoc]
      refine wpK_reg (fun R hR => by simp [h1, h3, hl1, hx, hl3, zero109, s1]; exact hR) ?_
      have bad : ∀ tm' : Tr Value, okStep P (a.1, a.2.1, a.2.2, 0) = false → tm'.get 2 = some (.int .i64 30) → Q' .ret ⟨tm', 70, []⟩ Wa := fun tm' hb h2 => hRt _ _ ⟨hE2.trans hEa, rfl, h2, by
        have : (arcsQ l).all (okStep P) = false := by rw [List.all_eq_false]; exact ⟨_, hmq, by simp [hb]⟩
        simp [planOk, this]⟩
      have good : ∀ tm' : Tr Value, okStep P (a.1, a.2.1, a.2.2, 0) = true → tm'.get 1 = some (.pointer (some ⟨W.next, 0, none⟩)) → tm'.get 3 = some (.int .i64 ((i + 1 : Nat) : Int)) → Q' .normal ⟨tm', 70, []⟩ Wa := fun tm' hb g1 g3 => hI (k - 1) _ _ (by omega) ⟨hE2.trans hEa, rfl, rfl, g1, hV3, i + 1, by omega, by omega, g3, fun j d hj hd => by
        by_cases hji : j = i
        · subst hji; rw [haq] at hd; cases hd; exact hb
        · exact hgood j d (by omega) hd⟩
      have hws : IntKind.i64.wrap ((i : Int) + 1) = ((i + 1 : Nat) : Int) := i64_succ i (by omega)
      by_cases g1 : a.1 < 0
      · try simp only [wpK_assoc]
        refine wpK_reg (fun R hR => by simp [h1, la0, la1, la2, lP, g1]; exact hR) ?_
        refine wpK_endT (by simp) ?_
        try simp only [wpK_assoc]
        refine wpK_reg (fun R hR => by simp; exact hR) ?_
        exact wpK_ret (bad _ (by simp [okStep, two?]; omega) (by simp))
      by_cases g2 : P ≤ a.1
      · try simp only [wpK_assoc]
        refine wpK_reg (fun R hR => by simp [h1, la0, la1, la2, lP, g1, g2]; exact hR) ?_
        refine wpK_endT (by simp) ?_
        try simp only [wpK_assoc]
        refine wpK_reg (fun R hR => by simp; exact hR) ?_
        exact wpK_ret (bad _ (by simp [okStep, two?]; omega) (by simp))
      by_cases g3 : a.2.1 < 0
      · try simp only [wpK_assoc]
        refine wpK_reg (fun R hR => by simp [h1, la0, la1, la2, lP, g1, g2, g3]; exact hR) ?_
        refine wpK_endT (by simp) ?_
        try simp only [wpK_assoc]
        refine wpK_reg (fun R hR => by simp; exact hR) ?_
        exact wpK_ret (bad _ (by simp [okStep, two?]; omega) (by simp))
      by_cases g4 : P ≤ a.2.1
      · try simp only [wpK_assoc]
        refine wpK_reg (fun R hR => by simp [h1, la0, la1, la2, lP, g1, g2, g3, g4]; exact hR) ?_
        refine wpK_endT (by simp) ?_
        try simp only [wpK_assoc]
        refine wpK_reg (fun R hR => by simp; exact hR) ?_
        exact wpK_ret (bad _ (by simp [okStep, two?]; omega) (by simp))
      by_cases g5 : a.1 = a.2.1
      · try simp only [wpK_assoc]
        refine wpK_reg (fun R hR => by simp [h1, la0, la1, la2, lP, g1, g2, g3, g4, g5]; exact hR) ?_
        refine wpK_endT (by simp) ?_
        try simp only [wpK_assoc]
        refine wpK_reg (fun R hR => by simp; exact hR) ?_
        exact wpK_ret (bad _ (by simp [okStep, two?, g5]) (by simp))
      by_cases g6 : a.2.2 < 0
      · try simp only [wpK_assoc]
        refine wpK_reg (fun R hR => by simp [h1, la0, la1, la2, lP, g1, g2, g3, g4, g5, g6]; exact hR) ?_
        refine wpK_endT (by simp) ?_
        try simp only [wpK_assoc]
        refine wpK_reg (fun R hR => by simp; exact hR) ?_
        exact wpK_ret (bad _ (by simp [okStep, two?]; omega) (by simp))
      by_cases g7 : 1000000000 < a.2.2
      · try simp only [wpK_assoc]
        refine wpK_reg (fun R hR => by simp [h1, la0, la1, la2, lP, g1, g2, g3, g4, g5, g6, g7]; exact hR) ?_
        refine wpK_endT (by simp) ?_
        try simp only [wpK_assoc]
        refine wpK_reg (fun R hR => by simp; exact hR) ?_
        exact wpK_ret (bad _ (by simp [okStep, two?]; omega) (by simp))
      try simp only [wpK_assoc]
      refine wpK_reg (fun R hR => by simp [h1, la0, la1, la2, lP, g1, g2, g3, g4, g5, g6, g7]; exact hR) ?_
      refine wpK_endF (by simp) (wpK_skip ?_)
      try simp only [wpK_assoc]
      refine wpK_reg1 (fun R hR => by simp [h3, hws]; exact hR) ?_
      exact good _ (by simp [okStep, two?]; omega) (by simp [h1]) (by simp)
    · refine wpK_out (by simp [hlt]) (hJ _ _ ⟨hE2, rfl, rfl, ?_⟩)
      rw [List.all_eq_true]
      intro x hx
      obtain ⟨j, hj, rfl⟩ := List.getElem_of_mem hx
      exact hgood j (arcsQ l)[j] (by omega) (List.getElem?_eq_getElem hj)
  · rintro A' W' ⟨hE, h1, h2, h3⟩
    exact ⟨.inr rfl, h1, [.int .i64 30], by simp [h2], hE, by simp [chk, h3]⟩
  · rintro ⟨tm, n, ds⟩ W' ⟨hE, hn, hd, hall⟩
    simp only at hn hd
    subst hn; subst hd
    try simp only [wpK_assoc]
    refine wpK_reg (fun R hR => by simp; exact hR) ?_
    refine wpK_ret ⟨.inr rfl, rfl, [.int .i64 0], by simp, hE, ?_⟩
    have : planOk P (arcsQ l) = true := by simp only [planOk, hall, Bool.and_true, hql]; simp; omega
    simp [chk, this]

theorem okStep_4 (P : Int) (a b : Quad) (h : (a.1, a.2.1, a.2.2.1) = (b.1, b.2.1, b.2.2.1)) : okStep P a = okStep P b := by
  simp only [Prod.mk.injEq] at h
  obtain ⟨h1, h2, h3⟩ := h
  simp only [okStep, h1, h2, h3]
theorem planOk_links (P : Int) (l : List Tri) : planOk P (linksQ l) = planOk P (arcsQ l) := by
  have e : (linksQ l).all (okStep P) = (arcsQ l).all (okStep P) := by
    simp only [linksQ, arcsQ, List.all_map]
    congr 1
  have e2 : (linksQ l).length = (arcsQ l).length := by simp [linksQ, arcsQ]
  simp only [planOk, e, e2]
theorem chk_links (P : Int) (l : List Tri) : chk P (linksQ l) = chk P (arcsQ l) := by simp only [chk, planOk_links]
theorem links_in {P : Int} {l : List Tri} (h : planOk P (arcsQ l) = true) : PlanIn P (linksQ l) := by
  refine ⟨by rw [planOk_links]; exact h, fun a ha => ?_⟩
  have hin := arcsQ_in h
  simp only [linksQ, List.mem_map] at ha
  obtain ⟨x, hx, rfl⟩ := ha
  have := hin.step (a := (x.1, x.2.1, x.2.2, 0)) (by simp only [arcsQ, List.mem_map]; exact ⟨x, hx, rfl⟩)
  simp only at this ⊢
  omega
/-- two places of a plan? -/
def endE (P a b : Int) : Int := if two? a b P = true then 0 else 1
theorem refEnds_wp (P s t : Int) (W : AW) : WpF T0 18 [.int .i64 P, .int .i64 s, .int .i64 t] W (fun v W' => W' = W ∧ v = .int .i64 (endE P s t)) := by
  refine wpF fun18 rfl ?_
  try simp only [wpK_assoc]
  refine wpK_reg (fun R hR => by simp; exact hR) ?_
  have one : ∀ tm' : Tr Value, two? s t P = false → tm'.get 6 = some (.int .i64 1) → (AExit.ret = .normal ∨ AExit.ret = .ret) ∧ (⟨tm', 28, []⟩ : AAct).defers = [] ∧ ∃ l1, aResults T0 W tm' Tryd.f18.results.toList = some l1 ∧ W = W ∧ tupled l1 = .int .i64 (endE P s t) := fun tm' hb h6 =>
    ⟨.inr rfl, rfl, [.int .i64 1], by simp [h6], rfl, by simp [endE, hb]⟩
  by_cases g1 : s < 0
  · try simp only [wpK_assoc]
    refine wpK_reg (fun R hR => by simp [g1]; exact hR) ?_
    refine wpK_condT (by simp) ?_
    try simp only [wpK_assoc]
    refine wpK_reg (fun R hR => by simp; exact hR) ?_
    exact wpK_ret (one _ (by simp [two?]; omega) (by simp))
  by_cases g2 : P ≤ s
  · try simp only [wpK_assoc]
    refine wpK_reg (fun R hR => by simp [g1, g2]; exact hR) ?_
    refine wpK_condT (by simp) ?_
    try simp only [wpK_assoc]
    refine wpK_reg (fun R hR => by simp; exact hR) ?_
    exact wpK_ret (one _ (by simp [two?]; omega) (by simp))
  by_cases g3 : t < 0
  · try simp only [wpK_assoc]
    refine wpK_reg (fun R hR => by simp [g1, g2, g3]; exact hR) ?_
    refine wpK_condT (by simp) ?_
    try simp only [wpK_assoc]
    refine wpK_reg (fun R hR => by simp; exact hR) ?_
    exact wpK_ret (one _ (by simp [two?]; omega) (by simp))
  by_cases g4 : P ≤ t
  · try simp only [wpK_assoc]
    refine wpK_reg (fun R hR => by simp [g1, g2, g3, g4]; exact hR) ?_
    refine wpK_condT (by simp) ?_
    try simp only [wpK_assoc]
    refine wpK_reg (fun R hR => by simp; exact hR) ?_
    exact wpK_ret (one _ (by simp [two?]; omega) (by simp))
  by_cases g5 : s = t
  · try simp only [wpK_assoc]
    refine wpK_reg (fun R hR => by simp [g1, g2, g3, g4, g5]; exact hR) ?_
    refine wpK_condT (by simp) ?_
    try simp only [wpK_assoc]
    refine wpK_reg (fun R hR => by simp; exact hR) ?_
    exact wpK_ret (one _ (by simp [two?, g5]) (by simp))
  try simp only [wpK_assoc]
  refine wpK_reg (fun R hR => by simp [g1, g2, g3, g4, g5]; exact hR) ?_
  refine wpK_onF (by simp) ?_
  try simp only [wpK_assoc]
  refine wpK_reg (fun R hR => by simp; exact hR) ?_
  have : two? s t P = true := by simp [two?]; omega
  exact wpK_ret ⟨.inr rfl, rfl, [.int .i64 0], by simp, rfl, by simp [endE, this]⟩
def chkE (P : Int) (l : List Quad) (a b : Int) : Int := if planOk P l = true then endE P a b else 30
theorem checkEnds_wp {W : AW} {t : TypeId} {r : Value} {fz fs : FuncId} {P : Int} {l : List Quad} (h : PlanOf W t r fz fs P l) (a b : Int) :
    WpF T0 52 [.iface t r, .int .i64 a, .int .i64 b] W (fun v W' => Ext W W' ∧ v = .int .i64 (chkE P l a b)) := by
  obtain ⟨fnz, hfz⟩ := h.hfz
  have hnz := h.nz
  refine wpF fun52 rfl ?_
  try simp only [wpK_assoc]
  refine wpK_reg (fun R hR => by simp; exact hR) ?_
  try simp only [wpK_assoc]
  refine wpK_regc (J := fun A W' => Ext W W' ∧ A.n = 25 ∧ A.defers = [] ∧ A.tmps.get 0 = some (.iface t r) ∧ A.tmps.get 1 = some (.int .i64 a) ∧ A.tmps.get 2 = some (.int .i64 b) ∧ A.tmps.get 7 = some (.int .i64 (chk P l))) (fun R hR => ?_) ?_
  · simp [aEnter, fun51, short_other, aCallV]
    rw [callS_none]
    refine (check_wp h).mono ?_
    rintro _ W' ⟨hE, rfl⟩
    simp
    apply hR
    exact ⟨hE, rfl, rfl, by simp, by simp, by simp, by simp⟩
  rintro ⟨tm, n, ds⟩ W1 ⟨hE1, hn, hd, h0, h1, h2, h7⟩
  simp only at hn hd h0 h1 h2 h7
  subst hn; subst hd
  cases hok : planOk P l with
  | false =>
    rw [chk, hok] at h7
    try simp only [wpK_assoc]
    refine wpK_reg (fun R hR => by simp [h7]; exact hR) ?_
    refine wpK_condT (by simp) ?_
    try simp only [wpK_assoc]
    refine wpK_reg (fun R hR => by simp [h7]; exact hR) ?_
    exact wpK_ret ⟨.inr rfl, rfl, [.int .i64 30], by simp, hE1, by simp [chkE, hok]⟩
  | true =>
    rw [chk, hok] at h7
    try simp only [wpK_assoc]
    refine wpK_reg (fun R hR => by simp [h7]; exact hR) ?_
    refine wpK_onF (by simp) ?_
    try simp only [wpK_assoc]
    refine wpK_regc (J := fun A W' => Ext W W' ∧ A.n = 25 ∧ A.defers = [] ∧ A.tmps.get 1 = some (.int .i64 a) ∧ A.tmps.get 2 = some (.int .i64 b) ∧ A.tmps.get 8 = some (.int .i64 P)) (fun R hR => ?_) ?_
    · simp [h0, aCallI, h.meth, aMeth, hfz, short_other hnz]
      rw [callS_none]
      refine (h.size W1 hE1).mono ?_
      rintro _ W' ⟨hE, rfl⟩
      simp
      apply hR
      exact ⟨hE1.trans hE, rfl, rfl, by simp [h1], by simp [h2], by simp⟩
    rintro ⟨tm, n, ds⟩ W2 ⟨hE2, hn, hd, h1, h2, h8⟩
    simp only at hn hd h1 h2 h8
    subst hn; subst hd
    try simp only [wpK_assoc]
    refine wpK_regc (J := fun A W' => W' = W2 ∧ A.n = 25 ∧ A.defers = [] ∧ A.tmps.get 24 = some (.bool (!two? a b P))) (fun R hR => ?_) ?_
    · simp [h1, h2, h8, aEnter, fun74, short_other, aCallV]
      rw [callS_none]
      refine (areTwo_wp a b P W2).mono ?_
      rintro _ W' ⟨rfl, rfl⟩
      simp
      apply hR
      exact ⟨rfl, rfl, rfl, by simp⟩
    rintro ⟨tm, n, ds⟩ W3 ⟨rfl, hn, hd, h24⟩
    simp only at hn hd h24
    subst hn; subst hd
    cases h2 : two? a b P with
    | false =>
      rw [h2] at h24
      refine wpK_condT (by simp [h24]) ?_
      try simp only [wpK_assoc]
      refine wpK_reg (fun R hR => by simp; exact hR) ?_
      exact wpK_ret ⟨.inr rfl, rfl, [.int .i64 1], by simp, hE2, by simp [chkE, hok, endE, h2]⟩
    | true =>
      rw [h2] at h24
      refine wpK_onF (by simp [h24]) ?_
      try simp only [wpK_assoc]
      refine wpK_reg (fun R hR => by simp; exact hR) ?_
      exact wpK_ret ⟨.inr rfl, rfl, [.int .i64 0], by simp, hE2, by simp [chkE, hok, endE, h2]⟩
/-- a slice that may be sliced -/
def SlOk (u : Value) (n : Nat) : Prop := (u = .slice none 0 0 ∧ n = 0) ∨ (∃ b o c, u = .slice (some ⟨b, o, none⟩) n (2 * c) ∧ n ≤ c) ∨ (u = .slice (some ⟨0, 0, some 1⟩) 0 0 ∧ n = 0)
theorem slice_tri {W : AW} {u : Value} {l : List Tri} {t e : TypeId} {sz : Nat} (hu : T0.und.get t = some (.slice e)) (hs : aSize T0 e = some sz) (hS : SlOk u l.length) (h : TriIn W u l) {k : Nat} (hk : k ≤ l.length) :
    ∃ u' A' c', (∀ W', aSliceOp T0 W' t u none (some (.int .i64 (k : Nat))) none = some u') ∧ u' = .slice A' k c' ∧ TriIn W u' (l.take k) := by
  have hlen : (l.take k).length = k := by rw [List.length_take]; omega
  have emp : l.length = 0 → ∀ A c, TriIn W (.slice A 0 c) (l.take k) := fun h0 A c => by
    have : l.take k = [] := List.length_eq_zero_iff.1 (by omega)
    rw [this]; exact ⟨A, c, rfl, fun i a hi => by simp at hi⟩
  rcases hS with ⟨rfl, h0⟩ | ⟨b, o, c, rfl, hc⟩ | ⟨rfl, h0⟩
  · obtain rfl : k = 0 := by omega
    exact ⟨_, none, 0, fun W' => by simp only [aSliceOp, hu, hs]; rfl, rfl, emp h0 _ _⟩
  · have hb : aHi (some (.int .i64 (k : Nat))) l.length c = some k := by
      show aBound (.int .i64 (Int.ofNat k)) c = some k
      simp only [aBound, ble_dec, show k ≤ c from by omega, decide_true]
    have e1 : (2 * c) % 2 = 0 := by omega
    have e2 : 2 * c / 2 = c := by omega
    have hsh : shiftTo o c 0 sz = o := by unfold shiftTo; split <;> simp
    refine ⟨.slice (some ⟨b, o, none⟩) k (2 * c), _, _, ?_, rfl, ?_⟩
    · intro W'; simp only [aSliceOp, hu, hs, e1, e2, Nat.beq_refl, hb, aLo, hsh, Nat.sub_zero]
    · obtain ⟨A, c', hv, hh⟩ := h
      cases hv
      refine ⟨some ⟨b, o, none⟩, 2 * c, by rw [hlen], fun i a hi => ?_⟩
      have hik : i < k := by
        have := (List.getElem?_eq_some_iff.1 hi).1
        omega
      rw [List.getElem?_take_of_lt hik] at hi
      exact hh i a hi
  · obtain rfl : k = 0 := by omega
    exact ⟨_, some ⟨0, 0, some 1⟩, 0, fun W' => by simp only [aSliceOp, hu, hs]; rfl, rfl, emp h0 _ _⟩

end Go.Proofs.YtkipaffjmcmclaaDoor
