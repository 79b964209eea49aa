import Derived.Test.YtfnigiojgbeklaaDoorP48
import Derived.Test.YtfnigiojgbeklaaDoorP47
import Derived.Test.YtfnigiojgbeklaaDoorEngSm
import Derived.Test.YtfnigiojgbeklaaDoorEngBt
import Derived.Test.YtfnigiojgbeklaaDoorTie
import Derived.Test.YtfnigiojgbeklaaDoorCards
import Derived.SevenTiedAt
import Derived.Lib.SmallJoins
set_option linter.unusedSimpArgs false
set_option linter.unusedVariables false
set_option linter.unusedSectionVars false
open Go Go.Eng
namespace Go.Proofs.YtfnigiojgbeklaaDoor
attribute [local congr] undef_congr WpK.congr WpS.congr WpL.congr WpC.congr WpF.congr gotS.congr callS.congr nextS.congr wantS.congr condS.congr
attribute [local irreducible] WpK
attribute [local simp] WpDr_nil WpDr_cons atS_some dwantS_true dwantS_false kindS_light kindS_float kindS_heavy lightS_value floatS_some heavyS_value heavyS_skip heavyS_enter dcallS_some doneS_eq
  isLight isFloat isPlain dLook testBit_dec dChain dLights_nil dLights_skip dLights_one dLight_nil dLight_cons dFreshes_nil dFreshes_one oneF_none oneF_some dFresh_nil dFresh_cons oneL_some oneW_true oneW_false sameV_value dPut dMay valEq arrEq listEq List.getElem?_cons Tr.get_nil dEnd
attribute [local simp] WpS_nil WpS_cons isDefer undef_false wantS_true wantS_false nextS_value nextS_skip nextS_enter callS_some gotS_some aWanted aOp aEvalF aEval opMove opAssign opPick aVal flat flat1 AAct.put opBinOp opConvert opIndex Tr.get_set Tr.get_lay aBin aResults tupled
  aCall aVals aCallB blt_dec ble_dec beq_dec aBinI_add aBinI_sub aBinI_lss aBinI_leq aBinI_gtr aBinI_geq aBinI_eql aBinI_neq index_str len_str len_slice Nat.beq_refl Nat.beq_refl
  opBox opLoad opFieldAddr opIndexAddr acells aAddr opExtract aExtract opUnOp opAlloc opStore opMakeInterface opNilCheck opBuild aParts opBuildSlice aValW
attribute [local simp] und2 und3 und4 und5 und9 und12 und13 und21 und22 und23 und24 und26 und27 und28 und30 und31 und34 und40 und43 und48 und49 und50 und54 und70 und71 und72 und79 und81 und86 und88 und89 und94 und99 und108 und109 und110 und118 und119 und120 und121 und123 und134 und143 und144 und145 und146 und148 und149 und150 und153 und154 und155 und157 und165 und167 und168 und178 und179 und187 und188 und189 und190 und191 und192 und193 und199 und214 und218 field13_0 field13_1 field23_0 field23_1 field24_0 field24_1 field27_0 field27_1 field28_0 field28_1 field49_0 field49_1 field49_2 field50_0 field50_1 field50_2 field70_0 field70_1 field70_2 field71_0 field71_1 field71_2 field72_0 field72_1 field72_2 field108_0 field108_1 field108_2 field109_0 field109_1 field109_2 field120_0 field120_1 field121_0 field121_1 field145_0 field145_1 field145_2 field146_0 field146_1 field146_2 field154_0 field154_1 field155_0 field155_1 field178_0 field178_1 field178_2 field178_3 field179_0 field179_1 field179_2 field179_3 field188_0 field188_1 field189_0 field189_1
set_option maxHeartbeats 4000000
set_option linter.unusedSimpArgs false
set_option linter.unusedVariables false
open Classical in
theorem refHidden_wp {W : AW} {v : Value} {n L : Nat} {ss : List Tri} (h : StepR W v ss) (hg : GoodS n L ss) (hL : 1 ≤ L) (hl : ss.length ≤ 64) (hn : n ≤ 16) :
    WpF T0 18 [.agg ⟨[.int .i64 (n : Int), v]⟩] W (fun u W' => Ext W W' ∧ ∃ b g k os, u = rowV b n ∧ NumsAt W' b n g ∧ GoodS n L os ∧ (∀ a p t : Nat, ((p : Int), (a : Int), (t : Int)) ∈ os ↔ p < n ∧ t < n ∧ Goes (toS ss) a p t) ∧ NumTo (itG ss os true k) g n ∧ (∀ p q, p < n → q < n → itG ss os true (k + 1) p q = itG ss os true k p q)) := by
  refine wpF fun18 rfl ?_
  obtain ⟨Av, cv, hvv⟩ := h.len
  have ll : ∀ W', aLen T0 W' 22 v = some (.int .i64 ss.length) := fun W' => by rw [hvv]; exact len_slice und22 _ _ _
  have vv := row_eq h
  obtain ⟨W1, hW1, hE1, hV1, hn1⟩ : ∃ W1, W1 = W.newCells 24 [.int .i64 (n : Int), v] ∧ Ext W W1 ∧ Var W1 W.next 24 [.int .i64 (n : Int), v] ∧ W1.next = W.next + 1 := ⟨_, rfl, .newCells _ _ _, Var.new _ _ _, rfl⟩
  have l0 := hV1.load1 (T := T0) und3 rfl (j := 0) (v := .int .i64 (n : Int)) rfl
  try simp only [wpK_assoc]
  refine wpK_reg (fun R hR => by simp [← hW1]; exact hR) ?_
  try simp only [wpK_assoc]
  refine wpK_reg (fun R hR => by simp [l0]; exact hR) ?_
  try simp only [wpK_assoc]
  refine wpK_x1 (P := fun (m : Nat) W2 => Ext W1 W2 ∧ W1.next ≤ m ∧ ∃ f, PMat W2 m n n f (fun _ _ => true) ∧ ∀ i, i < n → W1.next ≤ f i) (fun R hR => by
    simp [aEnter, fun44, short_other, aCallV]; rw [callS_none]
    refine (full_wp (by omega)).mono ?_
    rintro _ W2 ⟨hE2, m, f, rfl, hM, hm, hf⟩
    simp; exact hR m W2 (And.intro hE2 (And.intro hm ⟨f, hM, hf⟩))) ?_
  rintro m W2 ⟨hE2, hm1, f, hM2, hf1⟩
  obtain ⟨p1, hp1⟩ : ∃ p, p = W.next := ⟨_, rfl⟩
  rw [← hp1] at hV1
  have hV2 := hV1.ext hE2
  have hm2 := hM2.outer.1
  have hE02 := hE1.trans hE2
  have n02 := hE02.1
  have hmv : ∀ (r : Nat → Nat → Bool) W', PMat W' m n n f r → ∀ {i j : Nat}, i < n → j < n → aIndexAddr T0 79 (rowV m n) (.int .i64 (i : Int)) = some (.pointer (some ⟨m, i, none⟩)) ∧ aLoadVar T0 W' 54 m i = some (rowV (f i) n) ∧ aIndexAddr T0 54 (rowV (f i) n) (.int .i64 (j : Int)) = some (.pointer (some ⟨f i, j, none⟩)) ∧ aLoadVar T0 W' 4 (f i) j = some (.bool (r i j)) := fun r W' hM i j hi hj => by
    obtain ⟨a1, a2⟩ := hM.at hi (Nat.le_refl _)
    exact ⟨a1, a2, row_ix hj, hM.cell hi hj⟩
  obtain ⟨mv, hmvE⟩ : ∃ mv, mv = rowV m n := ⟨_, rfl⟩
  have vmv : valEq mv mv = true := by rw [hmvE]; exact rowV_eq _ _
  rw [← hmvE] at hmv
  -- the rows' places are all those that the matrix writes
  obtain ⟨Km, hKm⟩ : ∃ K : Nat → Prop, K = fun b => ∃ i, i < n ∧ b = f i := ⟨_, rfl⟩
  have hKw : ∀ i, i < n → Km (f i) := fun i hi => by rw [hKm]; exact ⟨i, hi, rfl⟩
  have hK1 : ∀ b, Km b → W1.next ≤ b := fun b hb => by rw [hKm] at hb; obtain ⟨i, hi, e⟩ := hb; rw [e]; exact hf1 i hi
  rw [← hmvE]
  try simp only [wpK_assoc]
  refine wpK_reg (fun R hR => by simp []; exact hR) ?_
  refine wpK_keep (fun tm' => tm'.get 1 = some (.pointer (some ⟨p1, 0, none⟩)) ∧ tm'.get 3 = some (.int .i64 (n : Int)) ∧ tm'.get 4 = some (mv) ∧ tm'.get 5 = some (.int .i64 0)) ⟨by simp [hp1], by simp [hp1], by simp [hp1], by simp [hp1]⟩ ?_
  rintro tm ⟨h1, h3, h4, h5⟩
  -- each to itself
  try simp only [wpK_assoc]
  refine wpK_while (I := fun q A' W' => A'.n = 198 ∧ A'.defers = [] ∧ A'.tmps.get 1 = some (.pointer (some ⟨p1, 0, none⟩)) ∧ A'.tmps.get 3 = some (.int .i64 (n : Int)) ∧ A'.tmps.get 4 = some (mv) ∧ Only Km W2 W' ∧ ∃ (i : Nat), A'.tmps.get 5 = some (.int .i64 (i : Int)) ∧ q = n - i ∧ i ≤ n ∧ PMat W' m n n f (fun x y => if x < i then decide (x = y) else true))
    (J := fun A' W' => A'.n = 198 ∧ A'.defers = [] ∧ A'.tmps.get 1 = some (.pointer (some ⟨p1, 0, none⟩)) ∧ A'.tmps.get 3 = some (.int .i64 (n : Int)) ∧ A'.tmps.get 4 = some (mv) ∧ Only Km W2 W' ∧ PMat W' m n n f (fun x y => decide (x = y))) (Rt := fun _ _ => False) (k := n) ?_ ?_ ?_ ?_
  · exact ⟨rfl, rfl, by simp [h1, h3, h4], by simp [h1, h3, h4], by simp [h1, h3, h4], .refl _ _, 0, by simp [h5], rfl, by omega, hM2.congr (fun x y _ _ => by rw [if_neg (by omega)])⟩
  · rintro q ⟨tm, n, ds⟩ Wa ⟨hn, hd, h1, h3, h4, hOa, i, h5, hq, hil, hMa⟩ Q' hJ hRt hI
    simp only at hn hd h1 h3 h4
    subst hn; subst hd
    simp only at h5
    by_cases hlt : i < n
    case neg =>
      have hlt' : ¬ (i : Int) < n := by omega
      try simp only [wpK_assoc]
      refine wpK_reg (fun R hR => by simp [h3, h5, hlt']; exact hR) ?_
      try simp only [wpK_assoc]
      first | refine wpK_onF (by simp [hlt]) ?_ | refine wpK_out (by simp [hlt]) ?_ | refine wpK_condF (by simp [hlt]) ?_ | refine wpK_endF (by simp [hlt]) (wpK_skip ?_) | refine wpK_endF (by simp [hlt]) ?_
      exact hJ _ _ ⟨rfl, rfl, by simp [h1, h3, h4], by simp [h1, h3, h4], by simp [h1, h3, h4], hOa, hMa.congr (fun x y hx _ => by rw [if_pos (by omega)])⟩
    have hlt' : (i : Int) < n := by omega
    try simp only [wpK_assoc]
    refine wpK_reg (fun R hR => by simp [h3, h5, hlt']; exact hR) ?_
    try simp only [wpK_assoc]
    first | refine wpK_onT (by simp [hlt]) ?_ | refine wpK_outT (by simp [hlt]) ?_ | refine wpK_condT (by simp [hlt]) ?_ | refine wpK_endT (by simp [hlt]) ?_
    refine wpK_block ?_
    try simp only [wpK_assoc]
    refine wpK_reg (fun R hR => by simp []; exact hR) ?_
    refine wpK_keep (fun tm' => tm'.get 1 = some (.pointer (some ⟨p1, 0, none⟩)) ∧ tm'.get 3 = some (.int .i64 (n : Int)) ∧ tm'.get 4 = some (mv) ∧ tm'.get 5 = some (.int .i64 (i : Int)) ∧ tm'.get 6 = some (.int .i64 0)) ⟨by simp [h1, h3, h4, h5], by simp [h1, h3, h4, h5], by simp [h1, h3, h4, h5], by simp [h1, h3, h4, h5], by simp [h1, h3, h4, h5]⟩ ?_
    rintro tm ⟨h1, h3, h4, h5, h6⟩
    try simp only [wpK_assoc]
    refine wpK_while1 (I := fun q A' W' => A'.n = 198 ∧ A'.defers = [] ∧ A'.tmps.get 1 = some (.pointer (some ⟨p1, 0, none⟩)) ∧ A'.tmps.get 3 = some (.int .i64 (n : Int)) ∧ A'.tmps.get 4 = some (mv) ∧ A'.tmps.get 5 = some (.int .i64 (i : Int)) ∧ Only Km W2 W' ∧ ∃ (j : Nat), A'.tmps.get 6 = some (.int .i64 (j : Int)) ∧ q = n - j ∧ j ≤ n ∧ PMat W' m n n f (fun x y => if x < i ∨ (x = i ∧ y < j) then decide (x = y) else true))
      (J := fun A' W' => A'.n = 198 ∧ A'.defers = [] ∧ A'.tmps.get 1 = some (.pointer (some ⟨p1, 0, none⟩)) ∧ A'.tmps.get 3 = some (.int .i64 (n : Int)) ∧ A'.tmps.get 4 = some (mv) ∧ A'.tmps.get 5 = some (.int .i64 (i : Int)) ∧ Only Km W2 W' ∧ PMat W' m n n f (fun x y => if x < i + 1 then decide (x = y) else true)) (Rt := fun _ _ => False) (k := n) ?_ ?_ ?_ ?_
    · exact ⟨rfl, rfl, by simp [h1, h3, h4, h5], by simp [h1, h3, h4, h5], by simp [h1, h3, h4, h5], by simp [h1, h3, h4, h5], hOa, 0, by simp [h6], rfl, by omega, hMa.congr (fun x y _ _ => by
        by_cases e : x < i
        · rw [if_pos e, if_pos (.inl e)]
        · rw [if_neg e, if_neg (by omega)])⟩
    · rintro q2 ⟨tm, n, ds⟩ Wb ⟨hn, hd, h1, h3, h4, h5, hOb, j, h6, hq2, hjl, hMb⟩ Q2 hJ2 hRt2 hI2
      simp only at hn hd h1 h3 h4 h5
      subst hn; subst hd
      simp only at h6
      by_cases hjt : j < n
      case neg =>
        have hjt' : ¬ (j : Int) < n := by omega
        try simp only [wpK_assoc]
        refine wpK_reg (fun R hR => by simp [h3, h6, hjt']; exact hR) ?_
        try simp only [wpK_assoc]
        first | refine wpK_onF (by simp [hjt]) ?_ | refine wpK_out (by simp [hjt]) ?_ | refine wpK_condF (by simp [hjt]) ?_ | refine wpK_endF (by simp [hjt]) (wpK_skip ?_) | refine wpK_endF (by simp [hjt]) ?_
        exact hJ2 _ _ ⟨rfl, rfl, by simp [h1, h3, h4, h5], by simp [h1, h3, h4, h5], by simp [h1, h3, h4, h5], by simp [h1, h3, h4, h5], hOb, hMb.congr (fun x y _ hy => by
          by_cases e : x < i + 1
          · rw [if_pos e, if_pos (by omega)]
          · rw [if_neg e, if_neg (by omega)])⟩
      have hjt' : (j : Int) < n := by omega
      try simp only [wpK_assoc]
      refine wpK_reg (fun R hR => by simp [h3, h6, hjt']; exact hR) ?_
      try simp only [wpK_assoc]
      first | refine wpK_onT (by simp [hjt]) ?_ | refine wpK_outT (by simp [hjt]) ?_ | refine wpK_condT (by simp [hjt]) ?_ | refine wpK_endT (by simp [hjt]) ?_
      obtain ⟨a1, a2, a3, _⟩ := hmv _ Wb hMb hlt hjt
      obtain ⟨Wc, w1, w2, w3, w4⟩ := hMb.put hlt hjt (decide (i = j))
      refine wpK_block ?_
      have hbe : decide ((i : Int) = (j : Int)) = decide (i = j) := by
        rw [Bool.eq_iff_iff]; simp only [decide_eq_true_eq]; omega
      try simp only [wpK_assoc]
      refine wpK_reg1 (fun R hR => by simp [h4, h5, h6, a1, a2, a3, hbe, w1]; exact hR) ?_
      simp only [leaves_normal, behind_normal]
      try simp only [wpK_assoc]
      refine wpK_reg1 (fun R hR => by simp [h6]; exact hR) ?_
      exact hI2 (n - (j + 1)) _ _ (by omega) ⟨rfl, rfl, by simp [h1, h3, h4, h5], by simp [h1, h3, h4, h5], by simp [h1, h3, h4, h5], by simp [h1, h3, h4, h5], hOb.trans (w3.mono (fun b _ e => by rw [e]; exact hKw i hlt)), j + 1, by simp [i64_succ j (by omega)], rfl, by omega, w4.congr (fun x y hx hy => by
        by_cases e : x = i
        · subst e
          simp only [if_true, updB]
          by_cases e2 : y = j
          · subst e2; rw [if_pos rfl, if_pos (.inr ⟨trivial, by omega⟩)]
          · rw [if_neg e2]
            by_cases e3 : y < j
            · rw [if_pos (.inr ⟨trivial, e3⟩), if_pos (.inr ⟨trivial, by omega⟩)]
            · rw [if_neg (by omega), if_neg (by omega)]
        · simp only [if_neg e]
          by_cases e3 : x < i
          · rw [if_pos (.inl e3), if_pos (.inl e3)]
          · rw [if_neg (by omega), if_neg (by omega)])⟩
    · rintro A' W' hf; exact hf.elim
    · rintro ⟨tm, n, ds⟩ Wb ⟨hn, hd, h1, h3, h4, h5, hOb, hMb⟩
      simp only at hn hd h1 h3 h4 h5
      subst hn; subst hd
      simp only [leaves_normal, behind_normal]
      try simp only [wpK_assoc]
      refine wpK_reg1 (fun R hR => by simp [h5]; exact hR) ?_
      exact hI (n - (i + 1)) _ _ (by omega) ⟨rfl, rfl, by simp [h1, h3, h4], by simp [h1, h3, h4], by simp [h1, h3, h4], hOb, i + 1, by simp [i64_succ i (by omega)], rfl, by omega, hMb⟩
  · rintro A' W' hf; exact hf.elim
  rintro ⟨tm, n, ds⟩ W3 ⟨hn, hd, h1, h3, h4, hO3, hM3⟩
  simp only at hn hd h1 h3 h4
  subst hn; subst hd
  -- the hidden steps
  have n3 := hO3.1
  have hK2 : ∀ b, Km b → p1 < b := fun b hb => by have := hK1 b hb; omega
  have hV3 := hV2.only hO3 (fun hk => by have := hK2 _ hk; omega)
  have hSr := (h.ext hE02)
  have hstep : ∀ W', Only (fun b => p1 ≤ b) W W' → StepR W' v ss := fun W' ho => h.only ho (fun b hb => by omega)
  have hOW3 : Only (fun b => p1 ≤ b) W W3 := (hE02.mono (fun _ _ x => x.elim)).trans (hO3.mono (fun b _ hb => by have := hK2 b hb; omega))
  have hKp : ∀ b, Km b → p1 ≤ b := fun b hb => by have := hK2 b hb; omega
  have hKn : ¬ Km p1 := fun hk => by have := hK2 _ hk; omega
  try simp only [wpK_assoc]
  refine wpK_reg (fun R hR => by simp []; exact hR) ?_
  refine wpK_keep (fun tm' => tm'.get 1 = some (.pointer (some ⟨p1, 0, none⟩)) ∧ tm'.get 3 = some (.int .i64 (n : Int)) ∧ tm'.get 4 = some (mv) ∧ tm'.get 7 = some (.int .i64 0)) ⟨by simp [h1, h3, h4], by simp [h1, h3, h4], by simp [h1, h3, h4], by simp [h1, h3, h4]⟩ ?_
  rintro tm ⟨h1, h3, h4, h7⟩
  try simp only [wpK_assoc]
  refine wpK_while (I := fun q A' W' => A'.n = 198 ∧ A'.defers = [] ∧ A'.tmps.get 1 = some (.pointer (some ⟨p1, 0, none⟩)) ∧ A'.tmps.get 3 = some (.int .i64 (n : Int)) ∧ A'.tmps.get 4 = some (mv) ∧ Only Km W3 W' ∧ ∃ (i : Nat), A'.tmps.get 7 = some (.int .i64 (i : Int)) ∧ q = ss.length - i ∧ i ≤ ss.length ∧ PMat W' m n n f (fun x y => decide (x = y) || decide (((x : Int), (0 : Int), (y : Int)) ∈ ss.take i)))
    (J := fun A' W' => A'.n = 198 ∧ A'.defers = [] ∧ A'.tmps.get 1 = some (.pointer (some ⟨p1, 0, none⟩)) ∧ A'.tmps.get 3 = some (.int .i64 (n : Int)) ∧ A'.tmps.get 4 = some (mv) ∧ Only Km W3 W' ∧ PMat W' m n n f (fun x y => decide (x = y) || decide (((x : Int), (0 : Int), (y : Int)) ∈ ss))) (Rt := fun _ _ => False) (k := ss.length) ?_ ?_ ?_ ?_
  · exact ⟨rfl, rfl, by simp [h1, h3, h4], by simp [h1, h3, h4], by simp [h1, h3, h4], .refl _ _, 0, by simp [h7], rfl, by omega, hM3.congr (fun x y _ _ => by simp)⟩
  · rintro q ⟨tm, n, ds⟩ Wa ⟨hn, hd, h1, h3, h4, hOa, i, h7, hq, hil, hMa⟩ Q' hJ hRt hI
    simp only at hn hd h1 h3 h4
    subst hn; subst hd
    simp only at h7
    have hVa := hV3.only hOa hKn
    have la1 := hVa.load1 (T := T0) und22 rfl (j := 1) (v := v) rfl
    by_cases hlt : i < ss.length
    case neg =>
      have hlt' : ¬ (i : Int) < ss.length := by omega
      rw [List.take_of_length_le (by omega)] at hMa
      try simp only [wpK_assoc]
      refine wpK_reg (fun R hR => by simp [h1, h7, la1, ll, hlt']; exact hR) ?_
      try simp only [wpK_assoc]
      first | refine wpK_onF (by simp [hlt]) ?_ | refine wpK_out (by simp [hlt]) ?_ | refine wpK_condF (by simp [hlt]) ?_ | refine wpK_endF (by simp [hlt]) (wpK_skip ?_) | refine wpK_endF (by simp [hlt]) ?_
      exact hJ _ _ ⟨rfl, rfl, by simp [h1, h3, h4], by simp [h1, h3, h4], by simp [h1, h3, h4], hOa, hMa⟩
    have hlt' : (i : Int) < ss.length := by omega
    try simp only [wpK_assoc]
    refine wpK_reg (fun R hR => by simp [h1, h7, la1, ll, hlt']; exact hR) ?_
    try simp only [wpK_assoc]
    first | refine wpK_onT (by simp [hlt]) ?_ | refine wpK_outT (by simp [hlt]) ?_ | refine wpK_condT (by simp [hlt]) ?_ | refine wpK_endT (by simp [hlt]) ?_
    obtain ⟨xf, xa, xt, hx, x1, x2, x3⟩ := hg.nat hlt
    have hSa := hstep Wa (hOW3.trans (hOa.mono (fun b _ hb => hKp b hb)))
    obtain ⟨bx, ox, ax, lx0, lx1, lx2⟩ := step_at hSa hx
    have htk := take_mem3 hx
    have hwi := i64_succ i (by omega)
    refine wpK_block ?_
    by_cases ha0 : xa = 0
    · have ha0' : (xa : Int) = 0 := by omega
      obtain ⟨a1, a2, a3, _⟩ := hmv _ Wa hMa x1 x3
      obtain ⟨Wc, w1, w2, w3, w4⟩ := hMa.put x1 x3 true
      have nw := w3.1
      try simp only [wpK_assoc]
      refine wpK_reg (fun R hR => by simp [h1, h7, la1, ax, lx1, ha0', ha0]; exact hR) ?_
      try simp only [wpK_assoc]
      first | refine wpK_onT (by simp [ha0', ha0]) ?_ | refine wpK_outT (by simp [ha0', ha0]) ?_ | refine wpK_condT (by simp [ha0', ha0]) ?_ | refine wpK_endT (by simp [ha0', ha0]) ?_
      try simp only [wpK_assoc]
      refine wpK_qn (wr := Tr.nil |>.set 55 0 |>.set 56 1 |>.set 57 2 |>.set 58 3 |>.set 59 4 |>.set 60 5 |>.set 61 6 |>.set 62 7 |>.set 63 8 |>.set 64 9 |>.set 65 10 |>.set 66 11 |>.set 67 12 |>.set 68 13 |>.set 69 14 |>.set 70 15) (bits := Tr.nil.lay 0 [0, 0, 2, 0, 14, 30, 62, 127, 255, 0, 512, 0, 3584, 7680, 15872, 32767, 65535]) (ord := [0, 1, 2, 3, 4, 5, 6, 7, 8, 9, 10, 11, 12, 13, 14, 15, 16]) (by kernel_rfl) (by kernel_rfl) (by kernel_rfl) (fun G hG => by
        simp [h1, h4, h7, la1, ax, lx0, lx2, a1, a2, a3, vmv, vv, w1, nw, rowV_eq]
        exact hG) ?_
      simp only [leaves_normal, behind_normal]
      try simp only [wpK_assoc]
      refine wpK_reg1 (fun R hR => by simp [h7, hwi]; exact hR) ?_
      exact hI (ss.length - (i + 1)) _ _ (by omega) ⟨rfl, rfl, by simp [h1, h3, h4], by simp [h1, h3, h4], by simp [h1, h3, h4], hOa.trans (w3.mono (fun b _ e => by rw [e]; exact hKw xf x1)), i + 1, by simp, rfl, by omega, w4.congr (fun x y hx hy => by
        rw [htk, Bool.eq_iff_iff]
        simp only [List.mem_append, List.mem_singleton, Prod.mk.injEq, Bool.or_eq_true, decide_eq_true_eq]
        by_cases e : x = xf
        · rw [if_pos e]; simp only [updB]
          by_cases e2 : y = xt
          · rw [if_pos e2]; simp only [true_iff]; exact .inr (.inr (by omega))
          · rw [if_neg e2]; simp only [Bool.or_eq_true, decide_eq_true_eq]
            constructor
            · rintro (e3 | e3)
              · exact .inl (by omega)
              · exact .inr (.inl (by rw [e]; exact e3))
            · rintro (e3 | e3 | e3)
              · exact .inl (by omega)
              · exact .inr (by rw [← e]; exact e3)
              · omega
        · rw [if_neg e]; simp only [Bool.or_eq_true, decide_eq_true_eq]
          constructor
          · rintro (e3 | e3)
            · exact .inl e3
            · exact .inr (.inl e3)
          · rintro (e3 | e3 | e3)
            · exact .inl e3
            · exact .inr e3
            · omega)⟩
    · have ha0' : ¬ (xa : Int) = 0 := by omega
      try simp only [wpK_assoc]
      refine wpK_reg (fun R hR => by simp [h1, h7, la1, ax, lx1, ha0', ha0]; exact hR) ?_
      try simp only [wpK_assoc]
      first | refine wpK_onF (by simp [ha0', ha0]) ?_ | refine wpK_out (by simp [ha0', ha0]) ?_ | refine wpK_condF (by simp [ha0', ha0]) ?_ | refine wpK_endF (by simp [ha0', ha0]) (wpK_skip ?_) | refine wpK_endF (by simp [ha0', ha0]) ?_
      simp only [leaves_normal, behind_normal]
      try simp only [wpK_assoc]
      refine wpK_reg1 (fun R hR => by simp [h7, hwi]; exact hR) ?_
      exact hI (ss.length - (i + 1)) _ _ (by omega) ⟨rfl, rfl, by simp [h1, h3, h4], by simp [h1, h3, h4], by simp [h1, h3, h4], hOa, i + 1, by simp, rfl, by omega, hMa.congr (fun x y hx hy => by
        rw [htk, Bool.eq_iff_iff]
        simp only [List.mem_append, List.mem_singleton, Prod.mk.injEq, Bool.or_eq_true, decide_eq_true_eq]
        constructor
        · rintro (e3 | e3)
          · exact .inl e3
          · exact .inr (.inl e3)
        · rintro (e3 | e3 | e3)
          · exact .inl e3
          · exact .inr e3
          · omega)⟩
  · rintro A' W' hf; exact hf.elim
  rintro ⟨tm, n, ds⟩ W4 ⟨hn, hd, h1, h3, h4, hO4, hM4⟩
  simp only at hn hd h1 h3 h4
  subst hn; subst hd
  have hO34 := hO3.trans hO4
  obtain ⟨to0, hto0⟩ : ∃ t, t = toS ss 0 := ⟨_, rfl⟩
  have hM4' : PMat W4 m n n f (fw to0 0) := hM4.congr (fun x y _ _ => by
    show _ = (decide (x = y) || (to0 x).testBit y)
    rw [hto0, toS_bit _ rfl hg]; rfl)
  try simp only [wpK_assoc]
  refine wpK_reg (fun R hR => by simp []; exact hR) ?_
  refine wpK_keep (fun tm' => tm'.get 1 = some (.pointer (some ⟨p1, 0, none⟩)) ∧ tm'.get 3 = some (.int .i64 (n : Int)) ∧ tm'.get 4 = some (mv) ∧ tm'.get 8 = some (.int .i64 0)) ⟨by simp [h1, h3, h4], by simp [h1, h3, h4], by simp [h1, h3, h4], by simp [h1, h3, h4]⟩ ?_
  rintro tm ⟨h1, h3, h4, h8⟩
  -- from place to place by way of those below k
  try simp only [wpK_assoc]
  refine wpK_while (I := fun q A' W' => A'.n = 198 ∧ A'.defers = [] ∧ A'.tmps.get 1 = some (.pointer (some ⟨p1, 0, none⟩)) ∧ A'.tmps.get 3 = some (.int .i64 (n : Int)) ∧ A'.tmps.get 4 = some (mv) ∧ Only Km W4 W' ∧ ∃ (k : Nat), A'.tmps.get 8 = some (.int .i64 (k : Int)) ∧ q = n - k ∧ k ≤ n ∧ PMat W' m n n f (fw to0 k))
    (J := fun A' W' => A'.n = 198 ∧ A'.defers = [] ∧ A'.tmps.get 1 = some (.pointer (some ⟨p1, 0, none⟩)) ∧ A'.tmps.get 3 = some (.int .i64 (n : Int)) ∧ A'.tmps.get 4 = some (mv) ∧ Only Km W4 W' ∧ PMat W' m n n f (fw to0 n)) (Rt := fun _ _ => False) (k := n) ?_ ?_ ?_ ?_
  · exact ⟨rfl, rfl, by simp [h1, h3, h4], by simp [h1, h3, h4], by simp [h1, h3, h4], .refl _ _, 0, by simp [h8], rfl, by omega, hM4'⟩
  · rintro q ⟨tm, n, ds⟩ Wa ⟨hn, hd, h1, h3, h4, hOa, k, h8, hq, hkl, hMa⟩ Q' hJ hRt hI
    simp only at hn hd h1 h3 h4
    subst hn; subst hd
    simp only at h8
    by_cases hkt : k < n
    case neg =>
      have hkt' : ¬ (k : Int) < n := by omega
      have e : k = n := by omega
      rw [e] at hMa
      try simp only [wpK_assoc]
      refine wpK_reg (fun R hR => by simp [h3, h8, hkt']; exact hR) ?_
      try simp only [wpK_assoc]
      first | refine wpK_onF (by simp [hkt]) ?_ | refine wpK_out (by simp [hkt]) ?_ | refine wpK_condF (by simp [hkt]) ?_ | refine wpK_endF (by simp [hkt]) (wpK_skip ?_) | refine wpK_endF (by simp [hkt]) ?_
      exact hJ _ _ ⟨rfl, rfl, by simp [h1, h3, h4], by simp [h1, h3, h4], by simp [h1, h3, h4], hOa, hMa⟩
    have hkt' : (k : Int) < n := by omega
    try simp only [wpK_assoc]
    refine wpK_reg (fun R hR => by simp [h3, h8, hkt']; exact hR) ?_
    try simp only [wpK_assoc]
    first | refine wpK_onT (by simp [hkt]) ?_ | refine wpK_outT (by simp [hkt]) ?_ | refine wpK_condT (by simp [hkt]) ?_ | refine wpK_endT (by simp [hkt]) ?_
    refine wpK_block ?_
    try simp only [wpK_assoc]
    refine wpK_reg (fun R hR => by simp []; exact hR) ?_
    refine wpK_keep (fun tm' => tm'.get 1 = some (.pointer (some ⟨p1, 0, none⟩)) ∧ tm'.get 3 = some (.int .i64 (n : Int)) ∧ tm'.get 4 = some (mv) ∧ tm'.get 8 = some (.int .i64 (k : Int)) ∧ tm'.get 9 = some (.int .i64 0)) ⟨by simp [h1, h3, h4, h8], by simp [h1, h3, h4, h8], by simp [h1, h3, h4, h8], by simp [h1, h3, h4, h8], by simp [h1, h3, h4, h8]⟩ ?_
    rintro tm ⟨h1, h3, h4, h8, h9⟩
    try simp only [wpK_assoc]
    refine wpK_while1 (I := fun q A' W' => A'.n = 198 ∧ A'.defers = [] ∧ A'.tmps.get 1 = some (.pointer (some ⟨p1, 0, none⟩)) ∧ A'.tmps.get 3 = some (.int .i64 (n : Int)) ∧ A'.tmps.get 4 = some (mv) ∧ A'.tmps.get 8 = some (.int .i64 (k : Int)) ∧ Only Km W4 W' ∧ ∃ (i : Nat), A'.tmps.get 9 = some (.int .i64 (i : Int)) ∧ q = n - i ∧ i ≤ n ∧ PMat W' m n n f (fun x y => if x < i then fwS (fw to0 k) k x y else fw to0 k x y))
      (J := fun A' W' => A'.n = 198 ∧ A'.defers = [] ∧ A'.tmps.get 1 = some (.pointer (some ⟨p1, 0, none⟩)) ∧ A'.tmps.get 3 = some (.int .i64 (n : Int)) ∧ A'.tmps.get 4 = some (mv) ∧ A'.tmps.get 8 = some (.int .i64 (k : Int)) ∧ Only Km W4 W' ∧ PMat W' m n n f (fw to0 (k + 1))) (Rt := fun _ _ => False) (k := n) ?_ ?_ ?_ ?_
    · exact ⟨rfl, rfl, by simp [h1, h3, h4, h8], by simp [h1, h3, h4, h8], by simp [h1, h3, h4, h8], by simp [h1, h3, h4, h8], hOa, 0, by simp [h9], rfl, by omega, hMa.congr (fun x y _ _ => by rw [if_neg (by omega)])⟩
    · rintro q2 ⟨tm, n, ds⟩ Wb ⟨hn, hd, h1, h3, h4, h8, hOb, i, h9, hq2, hil, hMb⟩ Q2 hJ2 hRt2 hI2
      simp only at hn hd h1 h3 h4 h8
      subst hn; subst hd
      simp only at h9
      by_cases hit : i < n
      case neg =>
        have hit' : ¬ (i : Int) < n := by omega
        try simp only [wpK_assoc]
        refine wpK_reg (fun R hR => by simp [h3, h9, hit']; exact hR) ?_
        try simp only [wpK_assoc]
        first | refine wpK_onF (by simp [hit]) ?_ | refine wpK_out (by simp [hit]) ?_ | refine wpK_condF (by simp [hit]) ?_ | refine wpK_endF (by simp [hit]) (wpK_skip ?_) | refine wpK_endF (by simp [hit]) ?_
        exact hJ2 _ _ ⟨rfl, rfl, by simp [h1, h3, h4, h8], by simp [h1, h3, h4, h8], by simp [h1, h3, h4, h8], by simp [h1, h3, h4, h8], hOb, hMb.congr (fun x y hx _ => by rw [if_pos (by omega)]; rfl)⟩
      have hit' : (i : Int) < n := by omega
      try simp only [wpK_assoc]
      refine wpK_reg (fun R hR => by simp [h3, h9, hit']; exact hR) ?_
      try simp only [wpK_assoc]
      first | refine wpK_onT (by simp [hit]) ?_ | refine wpK_outT (by simp [hit]) ?_ | refine wpK_condT (by simp [hit]) ?_ | refine wpK_endT (by simp [hit]) ?_
      refine wpK_block ?_
      try simp only [wpK_assoc]
      refine wpK_reg (fun R hR => by simp []; exact hR) ?_
      refine wpK_keep (fun tm' => tm'.get 1 = some (.pointer (some ⟨p1, 0, none⟩)) ∧ tm'.get 3 = some (.int .i64 (n : Int)) ∧ tm'.get 4 = some (mv) ∧ tm'.get 8 = some (.int .i64 (k : Int)) ∧ tm'.get 9 = some (.int .i64 (i : Int)) ∧ tm'.get 10 = some (.int .i64 0)) ⟨by simp [h1, h3, h4, h8, h9], by simp [h1, h3, h4, h8, h9], by simp [h1, h3, h4, h8, h9], by simp [h1, h3, h4, h8, h9], by simp [h1, h3, h4, h8, h9], by simp [h1, h3, h4, h8, h9]⟩ ?_
      rintro tm ⟨h1, h3, h4, h8, h9, h10⟩
      try simp only [wpK_assoc]
      refine wpK_while1 (I := fun q A' W' => A'.n = 198 ∧ A'.defers = [] ∧ A'.tmps.get 1 = some (.pointer (some ⟨p1, 0, none⟩)) ∧ A'.tmps.get 3 = some (.int .i64 (n : Int)) ∧ A'.tmps.get 4 = some (mv) ∧ A'.tmps.get 8 = some (.int .i64 (k : Int)) ∧ A'.tmps.get 9 = some (.int .i64 (i : Int)) ∧ Only Km W4 W' ∧ ∃ (j : Nat), A'.tmps.get 10 = some (.int .i64 (j : Int)) ∧ q = n - j ∧ j ≤ n ∧ PMat W' m n n f (fun x y => if x < i ∨ (x = i ∧ y < j) then fwS (fw to0 k) k x y else fw to0 k x y))
        (J := fun A' W' => A'.n = 198 ∧ A'.defers = [] ∧ A'.tmps.get 1 = some (.pointer (some ⟨p1, 0, none⟩)) ∧ A'.tmps.get 3 = some (.int .i64 (n : Int)) ∧ A'.tmps.get 4 = some (mv) ∧ A'.tmps.get 8 = some (.int .i64 (k : Int)) ∧ A'.tmps.get 9 = some (.int .i64 (i : Int)) ∧ Only Km W4 W' ∧ PMat W' m n n f (fun x y => if x < i + 1 then fwS (fw to0 k) k x y else fw to0 k x y)) (Rt := fun _ _ => False) (k := n) ?_ ?_ ?_ ?_
      · exact ⟨rfl, rfl, by simp [h1, h3, h4, h8, h9], by simp [h1, h3, h4, h8, h9], by simp [h1, h3, h4, h8, h9], by simp [h1, h3, h4, h8, h9], by simp [h1, h3, h4, h8, h9], hOb, 0, by simp [h10], rfl, by omega, hMb.congr (fun x y _ _ => by
          by_cases e : x < i
          · rw [if_pos e, if_pos (.inl e)]
          · rw [if_neg e, if_neg (by omega)])⟩
      · rintro q3 ⟨tm, n, ds⟩ Wc ⟨hn, hd, h1, h3, h4, h8, h9, hOc, j, h10, hq3, hjl, hMc⟩ Q3 hJ3 hRt3 hI3
        simp only at hn hd h1 h3 h4 h8 h9
        subst hn; subst hd
        simp only at h10
        by_cases hjt : j < n
        case neg =>
          have hjt' : ¬ (j : Int) < n := by omega
          try simp only [wpK_assoc]
          refine wpK_reg (fun R hR => by simp [h3, h10, hjt']; exact hR) ?_
          try simp only [wpK_assoc]
          first | refine wpK_onF (by simp [hjt]) ?_ | refine wpK_out (by simp [hjt]) ?_ | refine wpK_condF (by simp [hjt]) ?_ | refine wpK_endF (by simp [hjt]) (wpK_skip ?_) | refine wpK_endF (by simp [hjt]) ?_
          exact hJ3 _ _ ⟨rfl, rfl, by simp [h1, h3, h4, h8, h9], by simp [h1, h3, h4, h8, h9], by simp [h1, h3, h4, h8, h9], by simp [h1, h3, h4, h8, h9], by simp [h1, h3, h4, h8, h9], hOc, hMc.congr (fun x y _ hy => by
            by_cases e : x < i + 1
            · rw [if_pos e, if_pos (by omega)]
            · rw [if_neg e, if_neg (by omega)])⟩
        have hjt' : (j : Int) < n := by omega
        try simp only [wpK_assoc]
        refine wpK_reg (fun R hR => by simp [h3, h10, hjt']; exact hR) ?_
        try simp only [wpK_assoc]
        first | refine wpK_onT (by simp [hjt]) ?_ | refine wpK_outT (by simp [hjt]) ?_ | refine wpK_condT (by simp [hjt]) ?_ | refine wpK_endT (by simp [hjt]) ?_
        obtain ⟨a1, a2, a3, a4⟩ := hmv _ Wc hMc hit hjt
        obtain ⟨_, _, c3, c4⟩ := hmv _ Wc hMc hit hkt
        obtain ⟨d1, d2, d3, d4⟩ := hmv _ Wc hMc hkt hjt
        rw [if_neg (by omega)] at a4
        have ec : (if i < i ∨ (i = i ∧ k < j) then fwS (fw to0 k) k i k else fw to0 k i k) = fw to0 k i k := by
          split
          · exact fw_col to0 k i
          · rfl
        have ed : (if k < i ∨ (k = i ∧ j < j) then fwS (fw to0 k) k k j else fw to0 k k j) = fw to0 k k j := by
          split
          · exact fw_row to0 k j
          · rfl
        rw [ec] at c4
        rw [ed] at d4
        have hval : fwS (fw to0 k) k i j = (fw to0 k i j || (fw to0 k i k && fw to0 k k j)) := rfl
        obtain ⟨Wd, w1, w2, w3, w4⟩ := hMc.put hit hjt (fwS (fw to0 k) k i j)
        rw [hval] at w1
        have nw := w3.1
        have hwj := i64_succ j (by omega)
        have fin := hI3 (n - (j + 1))
        have hmt : PMat Wd m n n f (fun x y => if x < i ∨ (x = i ∧ y < j + 1) then fwS (fw to0 k) k x y else fw to0 k x y) := w4.congr (fun x y hx hy => by
          by_cases e : x = i
          · rw [if_pos e]; simp only [updB]
            by_cases e2 : y = j
            · rw [if_pos e2, if_pos (.inr ⟨e, by omega⟩), e, e2]
            · rw [if_neg e2]
              by_cases e3 : y < j
              · rw [if_pos (.inr ⟨trivial, e3⟩), if_pos (.inr ⟨e, by omega⟩), e]
              · rw [if_neg (by omega), if_neg (by omega), e]
          · rw [if_neg e]
            by_cases e3 : x < i
            · rw [if_pos (.inl e3), if_pos (.inl e3)]
            · rw [if_neg (by omega), if_neg (by omega)])
        have hod : Only Km W4 Wd := hOc.trans (w3.mono (fun b _ e => by rw [e]; exact hKw i hit))
        generalize fw to0 k i j = b1 at a4 w1
        generalize fw to0 k i k = b2 at c4 w1
        generalize fw to0 k k j = b3 at d4 w1
        refine wpK_block ?_
        cases b1 with
        | true =>
          simp only [Bool.true_or] at w1
          try simp only [wpK_assoc]
          refine wpK_qn (wr := Tr.nil |>.set 86 0 |>.set 87 1 |>.set 88 2 |>.set 89 3 |>.set 90 4 |>.set 91 5 |>.set 92 6 |>.set 93 7 |>.set 94 8 |>.set 95 9 |>.set 96 10 |>.set 97 11 |>.set 98 12 |>.set 99 13 |>.set 100 14 |>.set 101 15 |>.set 102 16 |>.set 103 17 |>.set 104 18 |>.set 105 19 |>.set 106 20 |>.set 107 21 |>.set 108 22 |>.set 109 23 |>.set 110 24 |>.set 111 25 |>.set 112 26 |>.set 113 27 |>.set 114 28 |>.set 115 29 |>.set 116 30) (bits := Tr.nil.lay 0 [0, 0, 3, 7, 0, 0, 0, 96, 224, 0, 992, 2016, 4064, 8160, 8160, 32736, 65504, 8160, 262112, 524256, 1048544, 2097120, 2097120, 8388576, 16777184, 2097120, 67108832, 134217696, 268435424, 536870880, 1073741823, 2147483647]) (ord := [0, 1, 2, 3, 4, 5, 6, 7, 8, 9, 10, 11, 12, 13, 14, 15, 16, 17, 18, 19, 20, 21, 22, 23, 24, 25, 26, 27, 28, 29, 30, 31]) (by kernel_rfl) (by kernel_rfl) (by kernel_rfl) (fun G hG => by
            simp [h4, h8, h9, h10, a1, a2, a3, a4, c3, c4, d1, d2, d3, d4, vmv, undef, w1, nw, rowV_eq]
            exact hG) ?_
          simp only [leaves_normal, behind_normal]
          try simp only [wpK_assoc]
          refine wpK_reg1 (fun R hR => by simp [h10, hwj]; exact hR) ?_
          exact fin _ _ (by omega) ⟨rfl, rfl, by simp [h1, h3, h4, h8, h9], by simp [h1, h3, h4, h8, h9], by simp [h1, h3, h4, h8, h9], by simp [h1, h3, h4, h8, h9], by simp [h1, h3, h4, h8, h9], hod, j + 1, by simp, rfl, by omega, hmt⟩
        | false =>
          cases b2 with
          | true =>
            simp only [Bool.false_or, Bool.true_and] at w1
            try simp only [wpK_assoc]
            refine wpK_qn (wr := Tr.nil |>.set 86 0 |>.set 87 1 |>.set 88 2 |>.set 89 3 |>.set 90 4 |>.set 91 5 |>.set 92 6 |>.set 93 7 |>.set 94 8 |>.set 95 9 |>.set 96 10 |>.set 97 11 |>.set 98 12 |>.set 99 13 |>.set 100 14 |>.set 101 15 |>.set 102 16 |>.set 103 17 |>.set 104 18 |>.set 105 19 |>.set 106 20 |>.set 107 21 |>.set 108 22 |>.set 109 23 |>.set 110 24 |>.set 111 25 |>.set 112 26 |>.set 113 27 |>.set 114 28 |>.set 115 29 |>.set 116 30) (bits := Tr.nil.lay 0 [0, 0, 3, 7, 0, 0, 0, 96, 224, 0, 992, 2016, 4064, 8160, 8160, 32736, 65504, 8160, 262112, 524256, 1048544, 2097120, 2097120, 8388576, 16777184, 2097120, 67108832, 134217696, 268435424, 536870880, 1073741823, 2147483647]) (ord := [0, 1, 2, 3, 4, 5, 6, 7, 8, 9, 10, 11, 12, 13, 14, 15, 16, 17, 18, 19, 20, 21, 22, 23, 24, 25, 26, 27, 28, 29, 30, 31]) (by kernel_rfl) (by kernel_rfl) (by kernel_rfl) (fun G hG => by
              simp [h4, h8, h9, h10, a1, a2, a3, a4, c3, c4, d1, d2, d3, d4, vmv, undef, w1, nw, rowV_eq]
              exact hG) ?_
            simp only [leaves_normal, behind_normal]
            try simp only [wpK_assoc]
            refine wpK_reg1 (fun R hR => by simp [h10, hwj]; exact hR) ?_
            exact fin _ _ (by omega) ⟨rfl, rfl, by simp [h1, h3, h4, h8, h9], by simp [h1, h3, h4, h8, h9], by simp [h1, h3, h4, h8, h9], by simp [h1, h3, h4, h8, h9], by simp [h1, h3, h4, h8, h9], hod, j + 1, by simp, rfl, by omega, hmt⟩
          | false =>
            simp only [Bool.false_or, Bool.false_and] at w1
            try simp only [wpK_assoc]
            refine wpK_qn (wr := Tr.nil |>.set 86 0 |>.set 87 1 |>.set 88 2 |>.set 89 3 |>.set 90 4 |>.set 91 5 |>.set 92 6 |>.set 93 7 |>.set 94 8 |>.set 95 9 |>.set 96 10 |>.set 97 11 |>.set 98 12 |>.set 99 13 |>.set 100 14 |>.set 101 15 |>.set 102 16 |>.set 103 17 |>.set 104 18 |>.set 105 19 |>.set 106 20 |>.set 107 21 |>.set 108 22 |>.set 109 23 |>.set 110 24 |>.set 111 25 |>.set 112 26 |>.set 113 27 |>.set 114 28 |>.set 115 29 |>.set 116 30) (bits := Tr.nil.lay 0 [0, 0, 3, 7, 0, 0, 0, 96, 224, 0, 992, 2016, 4064, 8160, 8160, 32736, 65504, 8160, 262112, 524256, 1048544, 2097120, 2097120, 8388576, 16777184, 2097120, 67108832, 134217696, 268435424, 536870880, 1073741823, 2147483647]) (ord := [0, 1, 2, 3, 4, 5, 6, 7, 8, 9, 10, 11, 12, 13, 14, 15, 16, 17, 18, 19, 20, 21, 22, 23, 24, 25, 26, 27, 28, 29, 30, 31]) (by kernel_rfl) (by kernel_rfl) (by kernel_rfl) (fun G hG => by
              simp [h4, h8, h9, h10, a1, a2, a3, a4, c3, c4, d1, d2, d3, d4, vmv, undef, w1, nw, rowV_eq]
              exact hG) ?_
            simp only [leaves_normal, behind_normal]
            try simp only [wpK_assoc]
            refine wpK_reg1 (fun R hR => by simp [h10, hwj]; exact hR) ?_
            exact fin _ _ (by omega) ⟨rfl, rfl, by simp [h1, h3, h4, h8, h9], by simp [h1, h3, h4, h8, h9], by simp [h1, h3, h4, h8, h9], by simp [h1, h3, h4, h8, h9], by simp [h1, h3, h4, h8, h9], hod, j + 1, by simp, rfl, by omega, hmt⟩
      · rintro A' W' hf; exact hf.elim
      · rintro ⟨tm, n, ds⟩ Wc ⟨hn, hd, h1, h3, h4, h8, h9, hOc, hMc⟩
        simp only at hn hd h1 h3 h4 h8 h9
        subst hn; subst hd
        simp only [leaves_normal, behind_normal]
        try simp only [wpK_assoc]
        refine wpK_reg1 (fun R hR => by simp [h9]; exact hR) ?_
        exact hI2 (n - (i + 1)) _ _ (by omega) ⟨rfl, rfl, by simp [h1, h3, h4, h8], by simp [h1, h3, h4, h8], by simp [h1, h3, h4, h8], by simp [h1, h3, h4, h8], hOc, i + 1, by simp [i64_succ i (by omega)], rfl, by omega, hMc⟩
    · rintro A' W' hf; exact hf.elim
    · rintro ⟨tm, n, ds⟩ Wb ⟨hn, hd, h1, h3, h4, h8, hOb, hMb⟩
      simp only at hn hd h1 h3 h4 h8
      subst hn; subst hd
      simp only [leaves_normal, behind_normal]
      try simp only [wpK_assoc]
      refine wpK_reg1 (fun R hR => by simp [h8]; exact hR) ?_
      exact hI (n - (k + 1)) _ _ (by omega) ⟨rfl, rfl, by simp [h1, h3, h4], by simp [h1, h3, h4], by simp [h1, h3, h4], hOb, k + 1, by simp [i64_succ k (by omega)], rfl, by omega, hMb⟩
  · rintro A' W' hf; exact hf.elim
  rintro ⟨tm, n, ds⟩ W5 ⟨hn, hd, h1, h3, h4, hO5, hM5⟩
  simp only at hn hd h1 h3 h4
  subst hn; subst hd
  have hOW5 : Only (fun b => p1 ≤ b) W W5 := hOW3.trans ((hO4.trans hO5).mono (fun b _ hb => hKp b hb))
  have hV5 := hV3.only (hO4.trans hO5) hKn
  have hRR : ∀ x y, x < n → (fw to0 n x y = true ↔ Reach (toS ss 0) x y) := fun x y hx => by
    rw [← hto0]; exact fw_reach (fun p => by rw [hto0]; exact toS_lt hg 0 p) hx
  have n5 := hOW5.1
  have hlo5 : p1 < W5.next := hV5.1
  have hMlt : m < W5.next ∧ ∀ b, Km b → b < W5.next := ⟨hM5.outer.1, fun b hb => by rw [hKm] at hb; obtain ⟨i, hi, e⟩ := hb; rw [e]; exact (hM5.row i hi).1⟩
  have hnn : n * n ≤ 16 * 16 := Nat.mul_le_mul hn hn
  have hRl : ∀ x y, Reach (toS ss 0) x y → x < n → y < n := fun x y hr hx => by
    cases hr with
    | refl => exact hx
    | snoc _ e => exact bit_lt (toS_lt hg 0 _) e
  try simp only [wpK_assoc]
  refine wpK_reg (fun R hR => by simp []; exact hR) ?_
  try simp only [wpK_assoc]
  refine wpK_reg (fun R hR => by simp []; exact hR) ?_
  refine wpK_keep (fun tm' => tm'.get 1 = some (.pointer (some ⟨p1, 0, none⟩)) ∧ tm'.get 3 = some (.int .i64 (n : Int)) ∧ tm'.get 4 = some (mv) ∧ tm'.get 11 = some (.slice none 0 0) ∧ tm'.get 12 = some (.int .i64 0)) ⟨by simp [h1, h3, h4], by simp [h1, h3, h4], by simp [h1, h3, h4], by simp [h1, h3, h4], by simp [h1, h3, h4]⟩ ?_
  rintro tm ⟨h1, h3, h4, h11, h12⟩
  -- the steps that none sees
  try simp only [wpK_assoc]
  refine wpK_while (I := fun q A' W' => A'.n = 198 ∧ A'.defers = [] ∧ A'.tmps.get 1 = some (.pointer (some ⟨p1, 0, none⟩)) ∧ A'.tmps.get 3 = some (.int .i64 (n : Int)) ∧ A'.tmps.get 4 = some (mv) ∧ Only (fun b => W5.next ≤ b) W5 W' ∧ ∃ (i : Nat) (tx : Value) (os : List Tri) (K : Nat → Prop), A'.tmps.get 12 = some (.int .i64 (i : Int)) ∧ A'.tmps.get 11 = some tx ∧ q = n - i ∧ i ≤ n ∧ GrowsN W' tx os.length (flatE cells3 os) 71 3 K ∧ (∀ b, K b → W5.next ≤ b ∧ b < W'.next) ∧ os.length ≤ i * n ∧ GoodS n L os ∧ ∀ a p t : Nat, ((p : Int), (a : Int), (t : Int)) ∈ os ↔ a = 0 ∧ p < i ∧ t < n ∧ Reach (toS ss 0) p t)
    (J := fun A' W' => A'.n = 198 ∧ A'.defers = [] ∧ A'.tmps.get 1 = some (.pointer (some ⟨p1, 0, none⟩)) ∧ A'.tmps.get 3 = some (.int .i64 (n : Int)) ∧ A'.tmps.get 4 = some (mv) ∧ Only (fun b => W5.next ≤ b) W5 W' ∧ ∃ (tx : Value) (os : List Tri) (K : Nat → Prop), A'.tmps.get 11 = some tx ∧ GrowsN W' tx os.length (flatE cells3 os) 71 3 K ∧ (∀ b, K b → W5.next ≤ b ∧ b < W'.next) ∧ os.length ≤ n * n ∧ GoodS n L os ∧ ∀ a p t : Nat, ((p : Int), (a : Int), (t : Int)) ∈ os ↔ a = 0 ∧ p < n ∧ t < n ∧ Reach (toS ss 0) p t) (Rt := fun _ _ => False) (k := n) ?_ ?_ ?_ ?_
  · exact ⟨rfl, rfl, by simp [h1, h3, h4], by simp [h1, h3, h4], by simp [h1, h3, h4], .refl _ _, 0, _, [], fun _ => False, by simp [h12], by simp [h11], rfl, by omega, .nil _ _ _ _, fun b hb => hb.elim, by simp, (fun x hx => by cases hx), fun a p t => by simp⟩
  · rintro q ⟨tm, n, ds⟩ Wa ⟨hn, hd, h1, h3, h4, hOa, i, tx, os, K, h12, h11, hq, hil, hGa, hKa, hla, hga, hma⟩ Q' hJ hRt hI
    simp only at hn hd h1 h3 h4
    subst hn; subst hd
    simp only at h12 h11
    by_cases hlt : i < n
    case neg =>
      have e : i = n := by omega
      subst e
      have hlt' : ¬ (i : Int) < i := by omega
      try simp only [wpK_assoc]
      refine wpK_reg (fun R hR => by simp [h3, h12, hlt']; exact hR) ?_
      try simp only [wpK_assoc]
      first | refine wpK_onF (by simp []) ?_ | refine wpK_out (by simp []) ?_ | refine wpK_condF (by simp []) ?_ | refine wpK_endF (by simp []) (wpK_skip ?_) | refine wpK_endF (by simp []) ?_
      exact hJ _ _ ⟨rfl, rfl, by simp [h1, h3, h4], by simp [h1, h3, h4], by simp [h1, h3, h4], hOa, tx, os, K, by simp [h11], hGa, hKa, hla, hga, hma⟩
    have hlt' : (i : Int) < n := by omega
    have hin : i * n ≤ 16 * 16 := Nat.mul_le_mul (by omega) hn
    have hin1 : (i + 1) * n = i * n + n := Nat.succ_mul i n
    try simp only [wpK_assoc]
    refine wpK_reg (fun R hR => by simp [h3, h12, hlt']; exact hR) ?_
    try simp only [wpK_assoc]
    first | refine wpK_onT (by simp [hlt]) ?_ | refine wpK_outT (by simp [hlt]) ?_ | refine wpK_condT (by simp [hlt]) ?_ | refine wpK_endT (by simp [hlt]) ?_
    refine wpK_block ?_
    try simp only [wpK_assoc]
    refine wpK_reg (fun R hR => by simp []; exact hR) ?_
    refine wpK_keep (fun tm' => tm'.get 1 = some (.pointer (some ⟨p1, 0, none⟩)) ∧ tm'.get 3 = some (.int .i64 (n : Int)) ∧ tm'.get 4 = some (mv) ∧ tm'.get 11 = some (tx) ∧ tm'.get 12 = some (.int .i64 (i : Int)) ∧ tm'.get 13 = some (.int .i64 0)) ⟨by simp [h1, h3, h4, h11, h12], by simp [h1, h3, h4, h11, h12], by simp [h1, h3, h4, h11, h12], by simp [h1, h3, h4, h11, h12], by simp [h1, h3, h4, h11, h12], by simp [h1, h3, h4, h11, h12]⟩ ?_
    rintro tm ⟨h1, h3, h4, h11, h12, h13⟩
    try simp only [wpK_assoc]
    refine wpK_while1 (I := fun q A' W' => A'.n = 198 ∧ A'.defers = [] ∧ A'.tmps.get 1 = some (.pointer (some ⟨p1, 0, none⟩)) ∧ A'.tmps.get 3 = some (.int .i64 (n : Int)) ∧ A'.tmps.get 4 = some (mv) ∧ A'.tmps.get 12 = some (.int .i64 (i : Int)) ∧ Only (fun b => W5.next ≤ b) W5 W' ∧ ∃ (j : Nat) (tx : Value) (os : List Tri) (K : Nat → Prop), A'.tmps.get 13 = some (.int .i64 (j : Int)) ∧ A'.tmps.get 11 = some tx ∧ q = n - j ∧ j ≤ n ∧ GrowsN W' tx os.length (flatE cells3 os) 71 3 K ∧ (∀ b, K b → W5.next ≤ b ∧ b < W'.next) ∧ os.length ≤ i * n + j ∧ GoodS n L os ∧ ∀ a p t : Nat, ((p : Int), (a : Int), (t : Int)) ∈ os ↔ a = 0 ∧ (p < i ∨ (p = i ∧ t < j)) ∧ t < n ∧ Reach (toS ss 0) p t)
      (J := fun A' W' => A'.n = 198 ∧ A'.defers = [] ∧ A'.tmps.get 1 = some (.pointer (some ⟨p1, 0, none⟩)) ∧ A'.tmps.get 3 = some (.int .i64 (n : Int)) ∧ A'.tmps.get 4 = some (mv) ∧ A'.tmps.get 12 = some (.int .i64 (i : Int)) ∧ Only (fun b => W5.next ≤ b) W5 W' ∧ ∃ (tx : Value) (os : List Tri) (K : Nat → Prop), A'.tmps.get 11 = some tx ∧ GrowsN W' tx os.length (flatE cells3 os) 71 3 K ∧ (∀ b, K b → W5.next ≤ b ∧ b < W'.next) ∧ os.length ≤ (i + 1) * n ∧ GoodS n L os ∧ ∀ a p t : Nat, ((p : Int), (a : Int), (t : Int)) ∈ os ↔ a = 0 ∧ p < i + 1 ∧ t < n ∧ Reach (toS ss 0) p t) (Rt := fun _ _ => False) (k := n) ?_ ?_ ?_ ?_
    · exact ⟨rfl, rfl, by simp [h1, h3, h4, h12], by simp [h1, h3, h4, h12], by simp [h1, h3, h4, h12], by simp [h1, h3, h4, h12], hOa, 0, tx, os, K, by simp [h13], by simp [h11], rfl, by omega, hGa, hKa, by omega, hga, fun a p t => by
        rw [hma]
        constructor
        · rintro ⟨u1, u2, u3, u4⟩; exact ⟨u1, .inl u2, u3, u4⟩
        · rintro ⟨u1, u2 | u2, u3, u4⟩
          · exact ⟨u1, u2, u3, u4⟩
          · omega⟩
    · rintro q2 ⟨tm, n, ds⟩ Wb ⟨hn, hd, h1, h3, h4, h12, hOb, j, ty, ob, Kb, h13, h11, hq2, hjl, hGb, hKb, hlb, hgb, hmb⟩ Q2 hJ2 hRt2 hI2
      simp only at hn hd h1 h3 h4 h12
      subst hn; subst hd
      simp only at h13 h11
      by_cases hjt : j < n
      case neg =>
        have hjt' : ¬ (j : Int) < n := by omega
        try simp only [wpK_assoc]
        refine wpK_reg (fun R hR => by simp [h3, h13, hjt']; exact hR) ?_
        try simp only [wpK_assoc]
        first | refine wpK_onF (by simp [hjt]) ?_ | refine wpK_out (by simp [hjt]) ?_ | refine wpK_condF (by simp [hjt]) ?_ | refine wpK_endF (by simp [hjt]) (wpK_skip ?_) | refine wpK_endF (by simp [hjt]) ?_
        exact hJ2 _ _ ⟨rfl, rfl, by simp [h1, h3, h4, h12], by simp [h1, h3, h4, h12], by simp [h1, h3, h4, h12], by simp [h1, h3, h4, h12], hOb, ty, ob, Kb, by simp [h11], hGb, hKb, by omega, hgb, fun a p t => by
          rw [hmb]
          constructor
          · rintro ⟨u1, u2, u3, u4⟩; exact ⟨u1, by omega, u3, u4⟩
          · rintro ⟨u1, u2, u3, u4⟩; exact ⟨u1, by omega, u3, u4⟩⟩
      have hjt' : (j : Int) < n := by omega
      try simp only [wpK_assoc]
      refine wpK_reg (fun R hR => by simp [h3, h13, hjt']; exact hR) ?_
      try simp only [wpK_assoc]
      first | refine wpK_onT (by simp [hjt]) ?_ | refine wpK_outT (by simp [hjt]) ?_ | refine wpK_condT (by simp [hjt]) ?_ | refine wpK_endT (by simp [hjt]) ?_
      have hMb := hM5.only hOb (by omega) (fun i hi => by have := hMlt.2 (f i) (hKw i hi); omega)
      obtain ⟨a1, a2, a3, a4⟩ := hmv _ Wb hMb hlt hjt
      have hrr := hRR i j hlt
      have hwj := i64_succ j (by omega)
      have nb := hOb.1
      refine wpK_block ?_
      try simp only [wpK_assoc]
      refine wpK_reg (fun R hR => by simp [h4, h12, h13, a1, a2, a3, a4]; exact hR) ?_
      cases hb : fw to0 n i j with
      | false =>
        rw [hb] at hrr
        try simp only [wpK_assoc]
        first | refine wpK_onF (by simp [hb]) ?_ | refine wpK_out (by simp [hb]) ?_ | refine wpK_condF (by simp [hb]) ?_ | refine wpK_endF (by simp [hb]) (wpK_skip ?_) | refine wpK_endF (by simp [hb]) ?_
        simp only [leaves_normal, behind_normal]
        try simp only [wpK_assoc]
        refine wpK_reg1 (fun R hR => by simp [h13, hwj]; exact hR) ?_
        exact hI2 (n - (j + 1)) _ _ (by omega) ⟨rfl, rfl, by simp [h1, h3, h4, h12], by simp [h1, h3, h4, h12], by simp [h1, h3, h4, h12], by simp [h1, h3, h4, h12], hOb, j + 1, ty, ob, Kb, by simp, by simp [h11], rfl, by omega, hGb, hKb, by omega, hgb, fun a p t => by
          rw [hmb]
          constructor
          · rintro ⟨u1, u2, u3, u4⟩; exact ⟨u1, by omega, u3, u4⟩
          · rintro ⟨u1, u2, u3, u4⟩
            refine ⟨u1, ?_, u3, u4⟩
            rcases u2 with u2 | ⟨u2, u5⟩
            · exact .inl u2
            · by_cases e : t = j
              · rw [u2, e] at u4; exact absurd (hrr.2 u4) (by simp)
              · exact .inr ⟨u2, by omega⟩⟩
      | true =>
        rw [hb] at hrr
        obtain ⟨v', Wg, p1', p2, p3, p4⟩ := grow_step hGb (by omega) (i : Int) 0 (j : Int)
        have hb71 := build71 (i : Int) 0 (j : Int)
        have hb22 := bs22 Wb (i : Int) 0 (j : Int)
        try simp only [wpK_assoc]
        first | refine wpK_onT (by simp [hb]) ?_ | refine wpK_outT (by simp [hb]) ?_ | refine wpK_condT (by simp [hb]) ?_ | refine wpK_endT (by simp [hb]) ?_
        try simp only [wpK_assoc]
        refine wpK_reg1 (fun R hR => by simp [h11, h12, h13, hb71, hb22, p1']; exact hR) ?_
        simp only [leaves_normal, behind_normal]
        try simp only [wpK_assoc]
        refine wpK_reg1 (fun R hR => by simp [h13, hwj]; exact hR) ?_
        exact hI2 (n - (j + 1)) _ _ (by omega) ⟨rfl, rfl, by simp [h1, h3, h4, h12], by simp [h1, h3, h4, h12], by simp [h1, h3, h4, h12], by simp [h1, h3, h4, h12], hOb.trans (p4.mono (fun b _ hk => (hKb b hk).1)), j + 1, v', ob ++ [((i : Int), (0 : Int), (j : Int))], _, by simp, by simp, rfl, by omega, p3, (fun b hb => by rcases hb with hb | hb; have := hKb b hb; omega; omega), by simp; omega, hgb.snoc hlt hL hjt, fun a p t => by
          simp only [List.mem_append, List.mem_singleton, Prod.mk.injEq]
          rw [hmb]
          constructor
          · rintro (⟨u1, u2, u3, u4⟩ | ⟨u1, u2, u3⟩)
            · exact ⟨u1, by omega, u3, u4⟩
            · have e1 : p = i := by omega
              have e2 : t = j := by omega
              rw [e1, e2]
              exact ⟨by omega, .inr ⟨rfl, by omega⟩, hjt, hrr.1 rfl⟩
          · rintro ⟨u1, u2, u3, u4⟩
            by_cases e : p = i ∧ t = j
            · exact .inr ⟨by omega, by omega, by omega⟩
            · exact .inl ⟨u1, by omega, u3, u4⟩⟩
    · rintro A' W' hf; exact hf.elim
    · rintro ⟨tm, n, ds⟩ Wb ⟨hn, hd, h1, h3, h4, h12, hOb, ty, ob, Kb, h11, hGb, hKb, hlb, hgb, hmb⟩
      simp only at hn hd h1 h3 h4 h12
      subst hn; subst hd
      simp only at h11
      simp only [leaves_normal, behind_normal]
      try simp only [wpK_assoc]
      refine wpK_reg1 (fun R hR => by simp [h12]; exact hR) ?_
      exact hI (n - (i + 1)) _ _ (by omega) ⟨rfl, rfl, by simp [h1, h3, h4], by simp [h1, h3, h4], by simp [h1, h3, h4], hOb, i + 1, ty, ob, Kb, by simp [i64_succ i (by omega)], by simp [h11], rfl, by omega, hGb, hKb, hlb, hgb, hmb⟩
  · rintro A' W' hf; exact hf.elim
  rintro ⟨tm, n, ds⟩ W6 ⟨hn, hd, h1, h3, h4, hO6, tz, oz, Kz, h11, hGz, hKz, hlz, hgz, hmz⟩
  simp only at hn hd h1 h3 h4
  subst hn; subst hd
  simp only at h11
  have n6 := hO6.1
  have hM6 := hM5.only hO6 (by omega) (fun i hi => by have := hMlt.2 (f i) (hKw i hi); omega)
  have hV6 := hV5.only hO6 (by omega)
  try simp only [wpK_assoc]
  refine wpK_reg (fun R hR => by simp []; exact hR) ?_
  refine wpK_keep (fun tm' => tm'.get 1 = some (.pointer (some ⟨p1, 0, none⟩)) ∧ tm'.get 3 = some (.int .i64 (n : Int)) ∧ tm'.get 4 = some (mv) ∧ tm'.get 11 = some (tz) ∧ tm'.get 14 = some (.int .i64 0)) ⟨by simp [h1, h3, h4, h11], by simp [h1, h3, h4, h11], by simp [h1, h3, h4, h11], by simp [h1, h3, h4, h11], by simp [h1, h3, h4, h11]⟩ ?_
  rintro tm ⟨h1, h3, h4, h11, h14⟩
  -- the others
  try simp only [wpK_assoc]
  refine wpK_while (I := fun q A' W' => A'.n = 198 ∧ A'.defers = [] ∧ A'.tmps.get 1 = some (.pointer (some ⟨p1, 0, none⟩)) ∧ A'.tmps.get 3 = some (.int .i64 (n : Int)) ∧ A'.tmps.get 4 = some (mv) ∧ Only (fun b => W5.next ≤ b) W5 W' ∧ ∃ (i : Nat) (tx : Value) (os : List Tri) (K : Nat → Prop), A'.tmps.get 14 = some (.int .i64 (i : Int)) ∧ A'.tmps.get 11 = some tx ∧ q = ss.length - i ∧ i ≤ ss.length ∧ GrowsN W' tx os.length (flatE cells3 os) 71 3 K ∧ (∀ b, K b → W5.next ≤ b ∧ b < W'.next) ∧ os.length ≤ n * n + i * (n * n) ∧ GoodS n L os ∧ ∀ a p t : Nat, ((p : Int), (a : Int), (t : Int)) ∈ os ↔ p < n ∧ t < n ∧ ((a = 0 ∧ Reach (toS ss 0) p t) ∨ (a ≠ 0 ∧ ∃ f u : Nat, ((f : Int), (a : Int), (u : Int)) ∈ ss.take i ∧ Reach (toS ss 0) p f ∧ Reach (toS ss 0) u t)))
    (J := fun A' W' => A'.n = 198 ∧ A'.defers = [] ∧ A'.tmps.get 1 = some (.pointer (some ⟨p1, 0, none⟩)) ∧ A'.tmps.get 3 = some (.int .i64 (n : Int)) ∧ A'.tmps.get 4 = some (mv) ∧ Only (fun b => W5.next ≤ b) W5 W' ∧ ∃ (tx : Value) (os : List Tri) (K : Nat → Prop), A'.tmps.get 11 = some tx ∧ GrowsN W' tx os.length (flatE cells3 os) 71 3 K ∧ os.length ≤ n * n + ss.length * (n * n) ∧ GoodS n L os ∧ ∀ a p t : Nat, ((p : Int), (a : Int), (t : Int)) ∈ os ↔ p < n ∧ t < n ∧ ((a = 0 ∧ Reach (toS ss 0) p t) ∨ (a ≠ 0 ∧ ∃ f u : Nat, ((f : Int), (a : Int), (u : Int)) ∈ ss ∧ Reach (toS ss 0) p f ∧ Reach (toS ss 0) u t))) (Rt := fun _ _ => False) (k := ss.length) ?_ ?_ ?_ ?_
  · exact ⟨rfl, rfl, by simp [h1, h3, h4], by simp [h1, h3, h4], by simp [h1, h3, h4], hO6, 0, tz, oz, Kz, by simp [h14], by simp [h11], rfl, by omega, hGz, hKz, by omega, hgz, fun a p t => by
      rw [hmz]
      constructor
      · rintro ⟨u1, u2, u3, u4⟩; exact ⟨u2, u3, .inl ⟨u1, u4⟩⟩
      · rintro ⟨u2, u3, ⟨u1, u4⟩ | ⟨_, f, u, hm, _⟩⟩
        · exact ⟨u1, u2, u3, u4⟩
        · simp at hm⟩
  · rintro q ⟨tm, n, ds⟩ Wa ⟨hn, hd, h1, h3, h4, hOa, i, tx, os, K, h14, h11, hq, hil, hGa, hKa, hla, hga, hma⟩ Q' hJ hRt hI
    simp only at hn hd h1 h3 h4
    subst hn; subst hd
    simp only at h14 h11
    have na := hOa.1
    have hVa := hV5.only hOa (by omega)
    have la1 := hVa.load1 (T := T0) und22 rfl (j := 1) (v := v) rfl
    by_cases hlt : i < ss.length
    case neg =>
      have e : i = ss.length := by omega
      have hlt' : ¬ (i : Int) < ss.length := by omega
      rw [e, List.take_length] at hma
      rw [e] at hla
      try simp only [wpK_assoc]
      refine wpK_reg (fun R hR => by simp [h1, h14, la1, ll, hlt']; exact hR) ?_
      try simp only [wpK_assoc]
      first | refine wpK_onF (by simp [hlt]) ?_ | refine wpK_out (by simp [hlt]) ?_ | refine wpK_condF (by simp [hlt]) ?_ | refine wpK_endF (by simp [hlt]) (wpK_skip ?_) | refine wpK_endF (by simp [hlt]) ?_
      exact hJ _ _ ⟨rfl, rfl, by simp [h1, h3, h4], by simp [h1, h3, h4], by simp [h1, h3, h4], hOa, tx, os, K, by simp [h11], hGa, hla, hga, hma⟩
    have hlt' : (i : Int) < ss.length := by omega
    try simp only [wpK_assoc]
    refine wpK_reg (fun R hR => by simp [h1, h14, la1, ll, hlt']; exact hR) ?_
    try simp only [wpK_assoc]
    first | refine wpK_onT (by simp [hlt]) ?_ | refine wpK_outT (by simp [hlt]) ?_ | refine wpK_condT (by simp [hlt]) ?_ | refine wpK_endT (by simp [hlt]) ?_
    obtain ⟨xf, xa, xt, hx, x1, x2, x3⟩ := hg.nat hlt
    have hSa := hstep Wa (hOW5.trans (hOa.mono (fun b _ hb => by omega)))
    obtain ⟨qb, qo, ax, hh⟩ := step_load hSa hx
    have hh : aLoadVar T0 Wa 71 qb qo = some (.agg ⟨[.int .i64 (xf : Int), .int .i64 (xa : Int), .int .i64 (xt : Int)]⟩) := hh
    obtain ⟨Wb, s1, s2, s3, s4⟩ := storeVar_new (T := T0) (W := Wa) (t := 71) (z := [.int .i64 0, .int .i64 0, .int .i64 0]) (v := .agg ⟨[.int .i64 (xf : Int), .int .i64 (xa : Int), .int .i64 (xt : Int)]⟩) inf71 (by rw [is71]; rfl) (by rw [is71]; rfl) rfl
    have s4 : Var Wb Wa.next 71 [.int .i64 (xf : Int), .int .i64 (xa : Int), .int .i64 (xt : Int)] := s4
    obtain ⟨p15, hp15⟩ : ∃ p, p = Wa.next := ⟨_, rfl⟩
    have htk := take_mem3 hx
    have hwi := i64_succ i (by omega)
    have hmul : (i + 1) * (n * n) = i * (n * n) + n * n := Nat.succ_mul i (n * n)
    have hile : i * (n * n) ≤ 64 * (16 * 16) := Nat.mul_le_mul (by omega) hnn
    have hOb : Only (fun b => W5.next ≤ b) W5 Wb := hOa.trans (s3.mono (fun _ _ z => z.elim))
    have nb := s3.1
    have hGb := hGa.only s3 (fun _ _ _ z => z)
    have sb1 := s4.load1 (T := T0) und3 rfl (j := 1) (v := .int .i64 (xa : Int)) rfl
    refine wpK_block ?_
    try simp only [wpK_assoc]
    refine wpK_reg (fun R hR => by simp [h1, h14, la1, ax, hh, zero71, s1]; exact hR) ?_
    rw [← hp15] at s4
    by_cases ha0 : xa = 0
    · have ha0' : (xa : Int) = 0 := by omega
      try simp only [wpK_assoc]
      refine wpK_reg (fun R hR => by simp [sb1, ha0', ha0]; exact hR) ?_
      try simp only [wpK_assoc]
      first | refine wpK_onT (by simp [ha0', ha0]) ?_ | refine wpK_outT (by simp [ha0', ha0]) ?_ | refine wpK_condT (by simp [ha0', ha0]) ?_ | refine wpK_endT (by simp [ha0', ha0]) ?_
      simp only [leaves_exit, if_true, behind_normal]
      refine wpK_keep (fun tm' => tm'.get 1 = some (.pointer (some ⟨p1, 0, none⟩)) ∧ tm'.get 3 = some (.int .i64 (n : Int)) ∧ tm'.get 4 = some (mv) ∧ tm'.get 11 = some (tx) ∧ tm'.get 14 = some (.int .i64 (i : Int))) ⟨by simp [h1, h3, h4, h11, h14], by simp [h1, h3, h4, h11, h14], by simp [h1, h3, h4, h11, h14], by simp [h1, h3, h4, h11, h14], by simp [h1, h3, h4, h11, h14]⟩ ?_
      rintro tm ⟨h1, h3, h4, h11, h14⟩
      try simp only [wpK_assoc]
      refine wpK_reg1 (fun R hR => by simp [h14, hwi]; exact hR) ?_
      exact hI (ss.length - (i + 1)) _ _ (by omega) ⟨rfl, rfl, by simp [h1, h3, h4], by simp [h1, h3, h4], by simp [h1, h3, h4], hOb, i + 1, tx, os, K, by simp, by simp [h11], rfl, by omega, hGb, fun b hb => by have := hKa b hb; omega, by omega, hga, fun a p t => by
        rw [hma, htk]
        simp only [List.mem_append, List.mem_singleton, Prod.mk.injEq]
        constructor
        · rintro ⟨u1, u2, u3 | ⟨u3, f, u, u4, u5⟩⟩
          · exact ⟨u1, u2, .inl u3⟩
          · exact ⟨u1, u2, .inr ⟨u3, f, u, .inl u4, u5⟩⟩
        · rintro ⟨u1, u2, u3 | ⟨u3, f, u, u4 | u4, u5⟩⟩
          · exact ⟨u1, u2, .inl u3⟩
          · exact ⟨u1, u2, .inr ⟨u3, f, u, u4, u5⟩⟩
          · omega⟩
    have ha0' : ¬ (xa : Int) = 0 := by omega
    try simp only [wpK_assoc]
    refine wpK_reg (fun R hR => by simp [sb1, ha0', ha0]; exact hR) ?_
    try simp only [wpK_assoc]
    first | refine wpK_onF (by simp [ha0', ha0]) ?_ | refine wpK_out (by simp [ha0', ha0]) ?_ | refine wpK_condF (by simp [ha0', ha0]) ?_ | refine wpK_endF (by simp [ha0', ha0]) (wpK_skip ?_) | refine wpK_endF (by simp [ha0', ha0]) ?_
    try simp only [wpK_assoc]
    refine wpK_reg (fun R hR => by simp []; exact hR) ?_
    refine wpK_keep (fun tm' => tm'.get 1 = some (.pointer (some ⟨p1, 0, none⟩)) ∧ tm'.get 3 = some (.int .i64 (n : Int)) ∧ tm'.get 4 = some (mv) ∧ tm'.get 11 = some (tx) ∧ tm'.get 14 = some (.int .i64 (i : Int)) ∧ tm'.get 15 = some (.pointer (some ⟨p15, 0, none⟩)) ∧ tm'.get 16 = some (.int .i64 0)) ⟨by simp [h1, h3, h4, h11, h14, hp15], by simp [h1, h3, h4, h11, h14, hp15], by simp [h1, h3, h4, h11, h14, hp15], by simp [h1, h3, h4, h11, h14, hp15], by simp [h1, h3, h4, h11, h14, hp15], by simp [h1, h3, h4, h11, h14, hp15], by simp [h1, h3, h4, h11, h14, hp15]⟩ ?_
    rintro tm ⟨h1, h3, h4, h11, h14, h15, h16⟩
    obtain ⟨B, hB⟩ : ∃ B : Nat → Nat → Nat → Prop, B = fun (a p t : Nat) => (a = 0 ∧ Reach (toS ss 0) p t) ∨ (a ≠ 0 ∧ ∃ f u : Nat, ((f : Int), (a : Int), (u : Int)) ∈ ss.take i ∧ Reach (toS ss 0) p f ∧ Reach (toS ss 0) u t) := ⟨_, rfl⟩
    have hmB : ∀ a p t : Nat, ((p : Int), (a : Int), (t : Int)) ∈ os ↔ p < n ∧ t < n ∧ B a p t := fun a p t => by rw [hma, hB]
    clear hma
    try simp only [wpK_assoc]
    refine wpK_while1 (I := fun q A' W' => A'.n = 198 ∧ A'.defers = [] ∧ A'.tmps.get 1 = some (.pointer (some ⟨p1, 0, none⟩)) ∧ A'.tmps.get 3 = some (.int .i64 (n : Int)) ∧ A'.tmps.get 4 = some (mv) ∧ A'.tmps.get 14 = some (.int .i64 (i : Int)) ∧ A'.tmps.get 15 = some (.pointer (some ⟨p15, 0, none⟩)) ∧ Only (fun b => W5.next ≤ b) W5 W' ∧ p15 < W'.next ∧ Var W' p15 71 [.int .i64 (xf : Int), .int .i64 (xa : Int), .int .i64 (xt : Int)] ∧ ∃ (pi : Nat) (tx : Value) (os : List Tri) (K : Nat → Prop), A'.tmps.get 16 = some (.int .i64 (pi : Int)) ∧ A'.tmps.get 11 = some tx ∧ q = n - pi ∧ pi ≤ n ∧ GrowsN W' tx os.length (flatE cells3 os) 71 3 K ∧ (∀ b, K b → W5.next ≤ b ∧ b ≠ p15 ∧ b < W'.next) ∧ os.length ≤ n * n + i * (n * n) + pi * n ∧ GoodS n L os ∧ ∀ a p t : Nat, ((p : Int), (a : Int), (t : Int)) ∈ os ↔ p < n ∧ t < n ∧ (B a p t ∨ (a = xa ∧ p < pi ∧ Reach (toS ss 0) p xf ∧ Reach (toS ss 0) xt t)))
      (J := fun A' W' => A'.n = 198 ∧ A'.defers = [] ∧ A'.tmps.get 1 = some (.pointer (some ⟨p1, 0, none⟩)) ∧ A'.tmps.get 3 = some (.int .i64 (n : Int)) ∧ A'.tmps.get 4 = some (mv) ∧ A'.tmps.get 14 = some (.int .i64 (i : Int)) ∧ A'.tmps.get 15 = some (.pointer (some ⟨p15, 0, none⟩)) ∧ Only (fun b => W5.next ≤ b) W5 W' ∧ ∃ (tx : Value) (os : List Tri) (K : Nat → Prop), A'.tmps.get 11 = some tx ∧ GrowsN W' tx os.length (flatE cells3 os) 71 3 K ∧ (∀ b, K b → W5.next ≤ b ∧ b < W'.next) ∧ os.length ≤ n * n + (i + 1) * (n * n) ∧ GoodS n L os ∧ ∀ a p t : Nat, ((p : Int), (a : Int), (t : Int)) ∈ os ↔ p < n ∧ t < n ∧ (B a p t ∨ (a = xa ∧ Reach (toS ss 0) p xf ∧ Reach (toS ss 0) xt t))) (Rt := fun _ _ => False) (k := n) ?_ ?_ ?_ ?_
    · exact ⟨rfl, rfl, by simp [h1, h3, h4, h14, h15], by simp [h1, h3, h4, h14, h15], by simp [h1, h3, h4, h14, h15], by simp [h1, h3, h4, h14, h15], by simp [h1, h3, h4, h14, h15], hOb, s4.1, s4, 0, tx, os, K, by simp [h16], by simp [h11], rfl, by omega, hGb, (fun b hb => by have := hKa b hb; omega), by omega, hga, fun a p t => by
        rw [hmB]
        constructor
        · rintro ⟨u1, u2, u3⟩; exact ⟨u1, u2, .inl u3⟩
        · rintro ⟨u1, u2, u3 | ⟨_, u4, _⟩⟩
          · exact ⟨u1, u2, u3⟩
          · omega⟩
    · rintro q2 ⟨tm, n, ds⟩ Wc ⟨hn, hd, h1, h3, h4, h14, h15, hOc, hpc, hVc, pi, ty, oc, Kc, h16, h11, hq2, hpl, hGc, hKc, hlc, hgc, hmc⟩ Q2 hJ2 hRt2 hI2
      simp only at hn hd h1 h3 h4 h14 h15
      subst hn; subst hd
      simp only at h16 h11
      by_cases hpt : pi < n
      case neg =>
        have e : pi = n := by omega
        have hpt' : ¬ (pi : Int) < n := by omega
        rw [e] at hlc
        try simp only [wpK_assoc]
        refine wpK_reg (fun R hR => by simp [h3, h16, hpt']; exact hR) ?_
        try simp only [wpK_assoc]
        first | refine wpK_onF (by simp [hpt]) ?_ | refine wpK_out (by simp [hpt]) ?_ | refine wpK_condF (by simp [hpt]) ?_ | refine wpK_endF (by simp [hpt]) (wpK_skip ?_) | refine wpK_endF (by simp [hpt]) ?_
        exact hJ2 _ _ ⟨rfl, rfl, by simp [h1, h3, h4, h14, h15], by simp [h1, h3, h4, h14, h15], by simp [h1, h3, h4, h14, h15], by simp [h1, h3, h4, h14, h15], by simp [h1, h3, h4, h14, h15], hOc, ty, oc, Kc, by simp [h11], hGc, (fun b hb => by have := hKc b hb; omega), by omega, hgc, fun a p t => by
          rw [hmc]
          constructor
          · rintro ⟨u1, u2, u3 | ⟨u4, _, u5⟩⟩
            · exact ⟨u1, u2, .inl u3⟩
            · exact ⟨u1, u2, .inr ⟨u4, u5⟩⟩
          · rintro ⟨u1, u2, u3 | ⟨u4, u5⟩⟩
            · exact ⟨u1, u2, .inl u3⟩
            · exact ⟨u1, u2, .inr ⟨u4, by omega, u5⟩⟩⟩
      have hpt' : (pi : Int) < n := by omega
      have hpn : pi * n ≤ 16 * 16 := Nat.mul_le_mul (by omega) hn
      have hpn1 : (pi + 1) * n = pi * n + n := Nat.succ_mul pi n
      try simp only [wpK_assoc]
      refine wpK_reg (fun R hR => by simp [h3, h16, hpt']; exact hR) ?_
      try simp only [wpK_assoc]
      first | refine wpK_onT (by simp [hpt]) ?_ | refine wpK_outT (by simp [hpt]) ?_ | refine wpK_condT (by simp [hpt]) ?_ | refine wpK_endT (by simp [hpt]) ?_
      refine wpK_block ?_
      try simp only [wpK_assoc]
      refine wpK_reg (fun R hR => by simp []; exact hR) ?_
      refine wpK_keep (fun tm' => tm'.get 1 = some (.pointer (some ⟨p1, 0, none⟩)) ∧ tm'.get 3 = some (.int .i64 (n : Int)) ∧ tm'.get 4 = some (mv) ∧ tm'.get 11 = some (ty) ∧ tm'.get 14 = some (.int .i64 (i : Int)) ∧ tm'.get 15 = some (.pointer (some ⟨p15, 0, none⟩)) ∧ tm'.get 16 = some (.int .i64 (pi : Int)) ∧ tm'.get 17 = some (.int .i64 0)) ⟨by simp [h1, h3, h4, h11, h14, h15, h16], by simp [h1, h3, h4, h11, h14, h15, h16], by simp [h1, h3, h4, h11, h14, h15, h16], by simp [h1, h3, h4, h11, h14, h15, h16], by simp [h1, h3, h4, h11, h14, h15, h16], by simp [h1, h3, h4, h11, h14, h15, h16], by simp [h1, h3, h4, h11, h14, h15, h16], by simp [h1, h3, h4, h11, h14, h15, h16]⟩ ?_
      rintro tm ⟨h1, h3, h4, h11, h14, h15, h16, h17⟩
      try simp only [wpK_assoc]
      refine wpK_while1 (I := fun q A' W' => A'.n = 198 ∧ A'.defers = [] ∧ A'.tmps.get 1 = some (.pointer (some ⟨p1, 0, none⟩)) ∧ A'.tmps.get 3 = some (.int .i64 (n : Int)) ∧ A'.tmps.get 4 = some (mv) ∧ A'.tmps.get 14 = some (.int .i64 (i : Int)) ∧ A'.tmps.get 15 = some (.pointer (some ⟨p15, 0, none⟩)) ∧ A'.tmps.get 16 = some (.int .i64 (pi : Int)) ∧ Only (fun b => W5.next ≤ b) W5 W' ∧ p15 < W'.next ∧ Var W' p15 71 [.int .i64 (xf : Int), .int .i64 (xa : Int), .int .i64 (xt : Int)] ∧ ∃ (j : Nat) (tx : Value) (os : List Tri) (K : Nat → Prop), A'.tmps.get 17 = some (.int .i64 (j : Int)) ∧ A'.tmps.get 11 = some tx ∧ q = n - j ∧ j ≤ n ∧ GrowsN W' tx os.length (flatE cells3 os) 71 3 K ∧ (∀ b, K b → W5.next ≤ b ∧ b ≠ p15 ∧ b < W'.next) ∧ os.length ≤ n * n + i * (n * n) + pi * n + j ∧ GoodS n L os ∧ ∀ a p t : Nat, ((p : Int), (a : Int), (t : Int)) ∈ os ↔ p < n ∧ t < n ∧ (B a p t ∨ (a = xa ∧ (p < pi ∨ (p = pi ∧ t < j)) ∧ Reach (toS ss 0) p xf ∧ Reach (toS ss 0) xt t)))
        (J := fun A' W' => A'.n = 198 ∧ A'.defers = [] ∧ A'.tmps.get 1 = some (.pointer (some ⟨p1, 0, none⟩)) ∧ A'.tmps.get 3 = some (.int .i64 (n : Int)) ∧ A'.tmps.get 4 = some (mv) ∧ A'.tmps.get 14 = some (.int .i64 (i : Int)) ∧ A'.tmps.get 15 = some (.pointer (some ⟨p15, 0, none⟩)) ∧ A'.tmps.get 16 = some (.int .i64 (pi : Int)) ∧ Only (fun b => W5.next ≤ b) W5 W' ∧ p15 < W'.next ∧ Var W' p15 71 [.int .i64 (xf : Int), .int .i64 (xa : Int), .int .i64 (xt : Int)] ∧ ∃ (tx : Value) (os : List Tri) (K : Nat → Prop), A'.tmps.get 11 = some tx ∧ GrowsN W' tx os.length (flatE cells3 os) 71 3 K ∧ (∀ b, K b → W5.next ≤ b ∧ b ≠ p15 ∧ b < W'.next) ∧ os.length ≤ n * n + i * (n * n) + (pi + 1) * n ∧ GoodS n L os ∧ ∀ a p t : Nat, ((p : Int), (a : Int), (t : Int)) ∈ os ↔ p < n ∧ t < n ∧ (B a p t ∨ (a = xa ∧ p < pi + 1 ∧ Reach (toS ss 0) p xf ∧ Reach (toS ss 0) xt t))) (Rt := fun _ _ => False) (k := n) ?_ ?_ ?_ ?_
      · exact ⟨rfl, rfl, by simp [h1, h3, h4, h14, h15, h16], by simp [h1, h3, h4, h14, h15, h16], by simp [h1, h3, h4, h14, h15, h16], by simp [h1, h3, h4, h14, h15, h16], by simp [h1, h3, h4, h14, h15, h16], by simp [h1, h3, h4, h14, h15, h16], hOc, hpc, hVc, 0, ty, oc, Kc, by simp [h17], by simp [h11], rfl, by omega, hGc, hKc, by omega, hgc, fun a p t => by
          rw [hmc]
          constructor
          · rintro ⟨u1, u2, u3 | ⟨u4, u5, u6⟩⟩
            · exact ⟨u1, u2, .inl u3⟩
            · exact ⟨u1, u2, .inr ⟨u4, .inl u5, u6⟩⟩
          · rintro ⟨u1, u2, u3 | ⟨u4, u5, u6⟩⟩
            · exact ⟨u1, u2, .inl u3⟩
            · exact ⟨u1, u2, .inr ⟨u4, by omega, u6⟩⟩⟩
      · rintro q3 ⟨tm, n, ds⟩ Wd ⟨hn, hd, h1, h3, h4, h14, h15, h16, hOd, hpd, hVd, j, tw, od, Kd, h17, h11, hq3, hjl, hGd, hKd, hld, hgd, hmd⟩ Q3 hJ3 hRt3 hI3
        simp only at hn hd h1 h3 h4 h14 h15 h16
        subst hn; subst hd
        simp only at h17 h11
        by_cases hjt : j < n
        case neg =>
          have hjt' : ¬ (j : Int) < n := by omega
          try simp only [wpK_assoc]
          refine wpK_reg (fun R hR => by simp [h3, h17, hjt']; exact hR) ?_
          try simp only [wpK_assoc]
          first | refine wpK_onF (by simp [hjt]) ?_ | refine wpK_out (by simp [hjt]) ?_ | refine wpK_condF (by simp [hjt]) ?_ | refine wpK_endF (by simp [hjt]) (wpK_skip ?_) | refine wpK_endF (by simp [hjt]) ?_
          exact hJ3 _ _ ⟨rfl, rfl, by simp [h1, h3, h4, h14, h15, h16], by simp [h1, h3, h4, h14, h15, h16], by simp [h1, h3, h4, h14, h15, h16], by simp [h1, h3, h4, h14, h15, h16], by simp [h1, h3, h4, h14, h15, h16], by simp [h1, h3, h4, h14, h15, h16], hOd, hpd, hVd, tw, od, Kd, by simp [h11], hGd, hKd, by omega, hgd, fun a p t => by
            rw [hmd]
            constructor
            · rintro ⟨u1, u2, u3 | ⟨u4, u5, u6⟩⟩
              · exact ⟨u1, u2, .inl u3⟩
              · exact ⟨u1, u2, .inr ⟨u4, by omega, u6⟩⟩
            · rintro ⟨u1, u2, u3 | ⟨u4, u5, u6⟩⟩
              · exact ⟨u1, u2, .inl u3⟩
              · exact ⟨u1, u2, .inr ⟨u4, by omega, u6⟩⟩⟩
        have hjt' : (j : Int) < n := by omega
        try simp only [wpK_assoc]
        refine wpK_reg (fun R hR => by simp [h3, h17, hjt']; exact hR) ?_
        try simp only [wpK_assoc]
        first | refine wpK_onT (by simp [hjt]) ?_ | refine wpK_outT (by simp [hjt]) ?_ | refine wpK_condT (by simp [hjt]) ?_ | refine wpK_endT (by simp [hjt]) ?_
        have nd := hOd.1
        have hMd := hM5.only hOd (by omega) (fun i hi => by have := hMlt.2 (f i) (hKw i hi); omega)
        obtain ⟨a1, a2, a3, a4⟩ := hmv _ Wd hMd hpt x1
        obtain ⟨c1, c2, c3, c4⟩ := hmv _ Wd hMd x3 hjt
        have r1 := hRR pi xf hpt
        have r2 := hRR xt j x3
        have e0 := hVd.load1 (T := T0) und3 rfl (j := 0) (v := .int .i64 (xf : Int)) rfl
        have e1 := hVd.load1 (T := T0) und3 rfl (j := 1) (v := .int .i64 (xa : Int)) rfl
        have e2 := hVd.load1 (T := T0) und3 rfl (j := 2) (v := .int .i64 (xt : Int)) rfl
        have hwj := i64_succ j (by omega)
        have no : ¬ (Reach (toS ss 0) pi xf ∧ Reach (toS ss 0) xt j) → ∀ a p t : Nat, ((p : Int), (a : Int), (t : Int)) ∈ od ↔ p < n ∧ t < n ∧ (B a p t ∨ (a = xa ∧ (p < pi ∨ (p = pi ∧ t < j + 1)) ∧ Reach (toS ss 0) p xf ∧ Reach (toS ss 0) xt t)) := fun hno a p t => by
          rw [hmd]
          constructor
          · rintro ⟨u1, u2, u3 | ⟨u4, u5, u6⟩⟩
            · exact ⟨u1, u2, .inl u3⟩
            · exact ⟨u1, u2, .inr ⟨u4, by omega, u6⟩⟩
          · rintro ⟨u1, u2, u3 | ⟨u4, u5, u6⟩⟩
            · exact ⟨u1, u2, .inl u3⟩
            · refine ⟨u1, u2, .inr ⟨u4, ?_, u6⟩⟩
              rcases u5 with u5 | ⟨u5, u7⟩
              · exact .inl u5
              · by_cases e : t = j
                · rw [u5, e] at u6; exact absurd u6 hno
                · exact .inr ⟨u5, by omega⟩
        refine wpK_block ?_
        generalize fw to0 n pi xf = b1 at a4 r1
        generalize fw to0 n xt j = b2 at c4 r2
        cases b1 with
        | false =>
          try simp only [wpK_assoc]
          refine wpK_dn (wr := Tr.nil |>.set 165 0 |>.set 166 1 |>.set 167 2 |>.set 168 3 |>.set 169 4 |>.set 170 5 |>.set 171 6 |>.set 172 7 |>.set 173 8 |>.set 174 9 |>.set 175 10 |>.set 176 11 |>.set 177 12 |>.set 178 13 |>.set 179 14 |>.set 180 15 |>.set 181 16 |>.set 182 17) (bits := Tr.nil.lay 0 [0, 0, 3, 7, 0, 16, 63, 127, 255, 511, 511, 1535, 4095, 8191, 511, 32767, 65535, 131071]) (ord := [0, 1, 2, 3, 4, 5, 6, 7, 8, 9, 10, 11, 12, 13, 14, 15, 16, 17]) (by kernel_rfl) (by kernel_rfl) (by kernel_rfl) (fun G hG => by
            simp [h4, h15, h16, h17, e0, e1, e2, a1, a2, a3, a4, c1, c2, c3, c4, vmv, undef, rowV_eq]
            exact hG) ?_
          try simp only [wpK_assoc]
          first | refine wpK_onF (by simp []) ?_ | refine wpK_out (by simp []) ?_ | refine wpK_condF (by simp []) ?_ | refine wpK_endF (by simp []) (wpK_skip ?_) | refine wpK_endF (by simp []) ?_
          simp only [leaves_normal, behind_normal]
          try simp only [wpK_assoc]
          refine wpK_reg1 (fun R hR => by simp [h17, hwj]; exact hR) ?_
          exact hI3 (n - (j + 1)) _ _ (by omega) ⟨rfl, rfl, by simp [h1, h3, h4, h14, h15, h16], by simp [h1, h3, h4, h14, h15, h16], by simp [h1, h3, h4, h14, h15, h16], by simp [h1, h3, h4, h14, h15, h16], by simp [h1, h3, h4, h14, h15, h16], by simp [h1, h3, h4, h14, h15, h16], hOd, hpd, hVd, j + 1, tw, od, Kd, by simp, by simp [h11], rfl, by omega, hGd, hKd, by omega, hgd, no (fun hh => by have := r1.2 hh.1; cases this)⟩
        | true =>
          cases b2 with
          | false =>
            try simp only [wpK_assoc]
            refine wpK_dn (wr := Tr.nil |>.set 165 0 |>.set 166 1 |>.set 167 2 |>.set 168 3 |>.set 169 4 |>.set 170 5 |>.set 171 6 |>.set 172 7 |>.set 173 8 |>.set 174 9 |>.set 175 10 |>.set 176 11 |>.set 177 12 |>.set 178 13 |>.set 179 14 |>.set 180 15 |>.set 181 16 |>.set 182 17) (bits := Tr.nil.lay 0 [0, 0, 3, 7, 0, 16, 63, 127, 255, 511, 511, 1535, 4095, 8191, 511, 32767, 65535, 131071]) (ord := [0, 1, 2, 3, 4, 5, 6, 7, 8, 9, 10, 11, 12, 13, 14, 15, 16, 17]) (by kernel_rfl) (by kernel_rfl) (by kernel_rfl) (fun G hG => by
              simp [h4, h15, h16, h17, e0, e1, e2, a1, a2, a3, a4, c1, c2, c3, c4, vmv, undef, rowV_eq]
              exact hG) ?_
            try simp only [wpK_assoc]
            first | refine wpK_onF (by simp []) ?_ | refine wpK_out (by simp []) ?_ | refine wpK_condF (by simp []) ?_ | refine wpK_endF (by simp []) (wpK_skip ?_) | refine wpK_endF (by simp []) ?_
            simp only [leaves_normal, behind_normal]
            try simp only [wpK_assoc]
            refine wpK_reg1 (fun R hR => by simp [h17, hwj]; exact hR) ?_
            exact hI3 (n - (j + 1)) _ _ (by omega) ⟨rfl, rfl, by simp [h1, h3, h4, h14, h15, h16], by simp [h1, h3, h4, h14, h15, h16], by simp [h1, h3, h4, h14, h15, h16], by simp [h1, h3, h4, h14, h15, h16], by simp [h1, h3, h4, h14, h15, h16], by simp [h1, h3, h4, h14, h15, h16], hOd, hpd, hVd, j + 1, tw, od, Kd, by simp, by simp [h11], rfl, by omega, hGd, hKd, by omega, hgd, no (fun hh => by have := r2.2 hh.2; cases this)⟩
          | true =>
            try simp only [wpK_assoc]
            refine wpK_dn (wr := Tr.nil |>.set 165 0 |>.set 166 1 |>.set 167 2 |>.set 168 3 |>.set 169 4 |>.set 170 5 |>.set 171 6 |>.set 172 7 |>.set 173 8 |>.set 174 9 |>.set 175 10 |>.set 176 11 |>.set 177 12 |>.set 178 13 |>.set 179 14 |>.set 180 15 |>.set 181 16 |>.set 182 17) (bits := Tr.nil.lay 0 [0, 0, 3, 7, 0, 16, 63, 127, 255, 511, 511, 1535, 4095, 8191, 511, 32767, 65535, 131071]) (ord := [0, 1, 2, 3, 4, 5, 6, 7, 8, 9, 10, 11, 12, 13, 14, 15, 16, 17]) (by kernel_rfl) (by kernel_rfl) (by kernel_rfl) (fun G hG => by
              simp [h4, h15, h16, h17, e0, e1, e2, a1, a2, a3, a4, c1, c2, c3, c4, vmv, undef, rowV_eq]
              exact hG) ?_
            try simp only [wpK_assoc]
            first | refine wpK_onT (by simp []) ?_ | refine wpK_outT (by simp []) ?_ | refine wpK_condT (by simp []) ?_ | refine wpK_endT (by simp []) ?_
            obtain ⟨v', Wg, q1, q2, q3, q4⟩ := grow_step hGd (by omega) (pi : Int) (xa : Int) (j : Int)
            have hb71 := build71 (pi : Int) (xa : Int) (j : Int)
            have hb22 := bs22 Wd (pi : Int) (xa : Int) (j : Int)
            try simp only [wpK_assoc]
            refine wpK_reg1 (fun R hR => by simp [h11, h15, h16, h17, e1, hb71, hb22, q1]; exact hR) ?_
            simp only [leaves_normal, behind_normal]
            try simp only [wpK_assoc]
            refine wpK_reg1 (fun R hR => by simp [h17, hwj]; exact hR) ?_
            exact hI3 (n - (j + 1)) _ _ (by omega) ⟨rfl, rfl, by simp [h1, h3, h4, h14, h15, h16], by simp [h1, h3, h4, h14, h15, h16], by simp [h1, h3, h4, h14, h15, h16], by simp [h1, h3, h4, h14, h15, h16], by simp [h1, h3, h4, h14, h15, h16], by simp [h1, h3, h4, h14, h15, h16], hOd.trans (q4.mono (fun b _ hk => (hKd b hk).1)), by omega, hVd.only q4 (fun hk => (hKd _ hk).2.1 rfl), j + 1, v', od ++ [((pi : Int), (xa : Int), (j : Int))], _, by simp, by simp, rfl, by omega, q3, (fun b hb => by rcases hb with hb | hb; have := hKd b hb; omega; omega), by simp; omega, hgd.snoc hpt x2 hjt, fun a p t => by
              simp only [List.mem_append, List.mem_singleton, Prod.mk.injEq]
              rw [hmd]
              constructor
              · rintro (⟨u1, u2, u3 | ⟨u4, u5, u6⟩⟩ | ⟨u1, u2, u3⟩)
                · exact ⟨u1, u2, .inl u3⟩
                · exact ⟨u1, u2, .inr ⟨u4, by omega, u6⟩⟩
                · have e1 : p = pi := by omega
                  have e2 : t = j := by omega
                  rw [e1, e2]
                  exact ⟨hpt, hjt, .inr ⟨by omega, .inr ⟨rfl, by omega⟩, r1.1 rfl, r2.1 rfl⟩⟩
              · rintro ⟨u1, u2, u3 | ⟨u4, u5, u6⟩⟩
                · exact .inl ⟨u1, u2, .inl u3⟩
                · by_cases e : p = pi ∧ t = j
                  · exact .inr ⟨by omega, by omega, by omega⟩
                  · exact .inl ⟨u1, u2, .inr ⟨u4, by omega, u6⟩⟩⟩
      · rintro A' W' hf; exact hf.elim
      · rintro ⟨tm, n, ds⟩ Wd ⟨hn, hd, h1, h3, h4, h14, h15, h16, hOd, hpd, hVd, tw, od, Kd, h11, hGd, hKd, hld, hgd, hmd⟩
        simp only at hn hd h1 h3 h4 h14 h15 h16
        subst hn; subst hd
        simp only at h11
        simp only [leaves_normal, behind_normal]
        try simp only [wpK_assoc]
        refine wpK_reg1 (fun R hR => by simp [h16]; exact hR) ?_
        exact hI2 (n - (pi + 1)) _ _ (by omega) ⟨rfl, rfl, by simp [h1, h3, h4, h14, h15], by simp [h1, h3, h4, h14, h15], by simp [h1, h3, h4, h14, h15], by simp [h1, h3, h4, h14, h15], by simp [h1, h3, h4, h14, h15], hOd, hpd, hVd, pi + 1, tw, od, Kd, by simp [i64_succ pi (by omega)], by simp [h11], rfl, by omega, hGd, hKd, hld, hgd, hmd⟩
    · rintro A' W' hf; exact hf.elim
    · rintro ⟨tm, n, ds⟩ Wc ⟨hn, hd, h1, h3, h4, h14, h15, hOc, ty, oc, Kc, h11, hGc, hKc, hlc, hgc, hmc⟩
      simp only at hn hd h1 h3 h4 h14 h15
      subst hn; subst hd
      simp only at h11
      simp only [leaves_normal, behind_normal]
      try simp only [wpK_assoc]
      refine wpK_reg1 (fun R hR => by simp [h14, hwi]; exact hR) ?_
      exact hI (ss.length - (i + 1)) _ _ (by omega) ⟨rfl, rfl, by simp [h1, h3, h4], by simp [h1, h3, h4], by simp [h1, h3, h4], hOc, i + 1, ty, oc, Kc, by simp, by simp [h11], rfl, by omega, hGc, hKc, hlc, hgc, fun a p t => by
        rw [hmc, hB, htk]
        simp only [List.mem_append, List.mem_singleton, Prod.mk.injEq]
        constructor
        · rintro ⟨u1, u2, (u3 | ⟨u3, f, u, u4, u5⟩) | ⟨u4, u5⟩⟩
          · exact ⟨u1, u2, .inl u3⟩
          · exact ⟨u1, u2, .inr ⟨u3, f, u, .inl u4, u5⟩⟩
          · exact ⟨u1, u2, .inr ⟨by omega, xf, xt, .inr ⟨rfl, by omega, rfl⟩, u5⟩⟩
        · rintro ⟨u1, u2, u3 | ⟨u3, f, u, u4 | ⟨u4, u6, u7⟩, u5⟩⟩
          · exact ⟨u1, u2, .inl (.inl u3)⟩
          · exact ⟨u1, u2, .inl (.inr ⟨u3, f, u, u4, u5⟩)⟩
          · have e1 : f = xf := by omega
            have e2 : u = xt := by omega
            rw [e1, e2] at u5
            exact ⟨u1, u2, .inr ⟨by omega, u5⟩⟩⟩
  · rintro A' W' hf; exact hf.elim
  rintro ⟨tm, n, ds⟩ W7 ⟨hn, hd, h1, h3, h4, hO7, ty, oy, Ky, h11, hGy, hly, hgy, hmy⟩
  simp only at hn hd h1 h3 h4
  subst hn; subst hd
  simp only at h11
  have n7 := hO7.1
  have hle : ss.length * (n * n) ≤ 64 * (16 * 16) := Nat.mul_le_mul hl hnn
  have hOW7 : Only (fun b => p1 ≤ b) W W7 := hOW5.trans (hO7.mono (fun b _ hb => by omega))
  have hS7 := hstep W7 hOW7
  have hR7 : StepR W7 ty oy := hGy.row cells3_len
  have hV7 := hV5.only hO7 (by omega)
  have l71 := hV7.load1 (T := T0) und22 rfl (j := 1) (v := v) rfl
  have vty := row_eq hR7
  have hExt : Ext W W7 := ⟨by have := hOW7.1; omega, fun b hb _ => hOW7.2 b hb (by omega)⟩
  try simp only [wpK_assoc]
  refine wpK_x3 (P := fun v1 v2 v3 W' => Ext W W' ∧ ∃ b g k, v3 = rowV b n ∧ NumsAt W' b n g ∧ NumTo (itG ss oy true k) g n ∧ (∀ p q, p < n → q < n → itG ss oy true (k + 1) p q = itG ss oy true k p q)) (fun R hR => by
    simp [h1, h3, h11, l71, aEnter, fun42, short_other, aCallV]; rw [callS_none]
    refine (greatest_wp hS7 hR7 hg hgy (by omega) (by omega) (by omega) true).mono ?_
    rintro v1 W8 ⟨hE8, k, K, hRn, hk, hfix, _⟩
    simp [aEnter, fun41, short_other, aCallV]; rw [callS_none]
    refine (last_wp hRn hk).mono ?_
    rintro v2 W9 ⟨rfl, hB⟩
    simp [aEnter, fun43, short_other, aCallV]; rw [callS_none]
    refine (numbered_wp hB (by omega)).mono ?_
    rintro v3 W10 ⟨hE10, b, g, hv3, hN, _, hto⟩
    simp
    exact hR v1 v2 v3 W10 (And.intro ((hExt.trans hE8).trans hE10) ⟨b, g, k, hv3, hN, hto, hfix⟩)) ?_
  rintro v1 v2 v3 W' ⟨hE, b, g, k, rfl, hN, hto, hfix⟩
  refine wpK_ret ⟨.inr rfl, rfl, [rowV b n], by simp, hE, b, g, k, oy, rfl, hN, hgy, fun a p t => ?_, hto, hfix⟩
  rw [hmy]
  constructor
  · rintro ⟨u1, u2, ⟨u3, u4⟩ | ⟨u3, f, u, u4, u5, u6⟩⟩
    · exact ⟨u1, u2, by unfold Goes; rw [if_pos u3]; exact u4⟩
    · exact ⟨u1, u2, by unfold Goes; rw [if_neg u3]; exact ⟨f, u, u5, by rw [toS_bit _ rfl hg]; exact decide_eq_true u4, u6⟩⟩
  · rintro ⟨u1, u2, u3⟩
    unfold Goes at u3
    by_cases ha : a = 0
    · rw [if_pos ha] at u3; exact ⟨u1, u2, .inl ⟨ha, u3⟩⟩
    · rw [if_neg ha] at u3
      obtain ⟨f, u, u5, u4, u6⟩ := u3
      rw [toS_bit _ rfl hg] at u4
      exact ⟨u1, u2, .inr ⟨ha, f, u, of_decide_eq_true u4, u5, u6⟩⟩
end Go.Proofs.YtfnigiojgbeklaaDoor

open Go Go.Eng
namespace Go.Proofs.YtfnigiojgbeklaaDoor
attribute [local congr] undef_congr WpK.congr WpS.congr WpL.congr WpC.congr WpF.congr gotS.congr callS.congr nextS.congr wantS.congr condS.congr
attribute [local irreducible] WpK
attribute [local simp] WpDr_nil WpDr_cons atS_some dwantS_true dwantS_false kindS_light kindS_float kindS_heavy lightS_value floatS_some heavyS_value heavyS_skip heavyS_enter dcallS_some doneS_eq
  isLight isFloat isPlain dLook testBit_dec dChain dLights_nil dLights_skip dLights_one dLight_nil dLight_cons dFreshes_nil dFreshes_one oneF_none oneF_some dFresh_nil dFresh_cons oneL_some oneW_true oneW_false sameV_value dPut dMay valEq arrEq listEq List.getElem?_cons Tr.get_nil dEnd
attribute [local simp] WpS_nil WpS_cons isDefer undef_false wantS_true wantS_false nextS_value nextS_skip nextS_enter callS_some gotS_some aWanted aOp aEvalF aEval opMove opAssign opPick aVal flat flat1 AAct.put opBinOp opConvert opIndex Tr.get_set Tr.get_lay aBin aResults tupled
  aCall aVals aCallB blt_dec ble_dec beq_dec aBinI_add aBinI_sub aBinI_lss aBinI_leq aBinI_gtr aBinI_geq aBinI_eql aBinI_neq index_str len_str len_slice Nat.beq_refl Nat.beq_refl
  opBox opLoad opFieldAddr opIndexAddr acells aAddr opExtract aExtract opUnOp opAlloc opStore opMakeInterface opNilCheck opBuild aParts opBuildSlice aValW
attribute [local simp] und2 und3 und4 und5 und9 und12 und13 und21 und22 und23 und24 und26 und27 und28 und30 und31 und34 und40 und43 und48 und49 und50 und54 und70 und71 und72 und79 und81 und86 und88 und89 und94 und99 und108 und109 und110 und118 und119 und120 und121 und123 und134 und143 und144 und145 und146 und148 und149 und150 und153 und154 und155 und157 und165 und167 und168 und178 und179 und187 und188 und189 und190 und191 und192 und193 und199 und214 und218 field13_0 field13_1 field23_0 field23_1 field24_0 field24_1 field27_0 field27_1 field28_0 field28_1 field49_0 field49_1 field49_2 field50_0 field50_1 field50_2 field70_0 field70_1 field70_2 field71_0 field71_1 field71_2 field72_0 field72_1 field72_2 field108_0 field108_1 field108_2 field109_0 field109_1 field109_2 field120_0 field120_1 field121_0 field121_1 field145_0 field145_1 field145_2 field146_0 field146_1 field146_2 field154_0 field154_1 field155_0 field155_1 field178_0 field178_1 field178_2 field178_3 field179_0 field179_1 field179_2 field179_3 field188_0 field188_1 field189_0 field189_1
set_option maxHeartbeats 4000000
set_option linter.unusedSimpArgs false
set_option linter.unusedVariables false
theorem goes_step {to : Nat → Nat → Nat} {a p t : Nat} (h : (to a p).testBit t = true) : Goes to a p t := by
  unfold Goes
  split
  · rename_i e; rw [e] at h; exact .snoc (.refl p) h
  · exact ⟨p, t, .refl p, h, .refl t⟩
theorem goes_lift {to : Nat → Nat → Nat} {T : Nat → Nat → Prop} (hT : ∀ p q a t, T p q → (to a p).testBit t = true → ∃ t', Goes to a q t' ∧ T t t') {a p q t : Nat} (h : T p q) (hgo : Goes to a p t) : ∃ t', Goes to a q t' ∧ T t t' := by
  have quiet : ∀ {p t : Nat}, Reach (to 0) p t → ∀ q, T p q → ∃ t', Reach (to 0) q t' ∧ T t t' := fun hr => by
    induction hr with
    | refl => exact fun q h => ⟨q, .refl q, h⟩
    | snoc _ e ih =>
      intro q h
      obtain ⟨x, x1, x2⟩ := ih q h
      obtain ⟨t', u1, u2⟩ := hT _ _ 0 _ x2 e
      unfold Goes at u1
      rw [if_pos rfl] at u1
      exact ⟨t', x1.trans u1, u2⟩
  by_cases ha : a = 0
  · simp only [Goes, if_pos ha] at hgo ⊢
    exact quiet hgo q h
  · simp only [Goes, if_neg ha] at hgo ⊢
    obtain ⟨f, u, h1, h2, h3⟩ := hgo
    obtain ⟨f', x1, x2⟩ := quiet h1 q h
    obtain ⟨u', y1, y2⟩ := hT _ _ a _ x2 h2
    unfold Goes at y1
    rw [if_neg ha] at y1
    obtain ⟨f2, u2, z1, z2, z3⟩ := y1
    obtain ⟨t', w1, w2⟩ := quiet h3 u' y2
    exact ⟨t', ⟨f2, u2, x1.trans z1, z2, z3.trans w1⟩, w2⟩
theorem hidden_same {n L k k' : Nat} {ss os : List Tri} {to' : Nat → Nat → Nat} {g : Nat → Int} (hg : GoodS n L ss) (hgo : GoodS n L os) (hL : L ≤ 10) (hos : ∀ a p t : Nat, ((p : Int), (a : Int), (t : Int)) ∈ os ↔ p < n ∧ t < n ∧ Goes (toS ss) a p t)
    (ht2 : ∀ a p, to' a p < 2 ^ n) (htS : ∀ a p, a < 10 → p < n → ∀ t, (to' a p).testBit t = true ↔ Goes (toS ss) a p t) (h : ∀ j, j < n → gIt to' n (k + 1) j = gIt to' n k j)
    (hN : NumTo (itG ss os true k') g n) (h' : ∀ p q, p < n → q < n → itG ss os true (k' + 1) p q = itG ss os true k' p q) : ∀ j, j < n → gIt to' n k j = g j := by
  have hb : ∀ {p a t : Nat}, ((p : Int), (a : Int), (t : Int)) ∈ ss → p < n ∧ a < 10 ∧ t < n := fun hm => by
    obtain ⟨_, u1, _, u2, _, u3⟩ := hg _ hm
    simp only at u1 u2 u3; omega
  have hbit : ∀ {p a t : Nat}, (toS ss a p).testBit t = true ↔ ((p : Int), (a : Int), (t : Int)) ∈ ss := fun {p a t} => by
    rw [toS_bit _ rfl hg]; simp only [decide_eq_true_eq]
  have e1 : ∀ d p q, itG ss os true (d + 1) p q = true ↔ itG ss os true d p q = true ∧ ansB (itG ss os true d) p q ss os = true ∧ ansB (fun i j => itG ss os true d j i) q p ss os = true := fun d p q => by
    show stepG ss os true (itG ss os true d) p q = true ↔ _
    simp only [stepG, Bool.and_eq_true, Bool.not_true, Bool.false_or]
  have hcs := fun d => gIt_comes to' n d
  -- what has one number on the program's side is related on the other
  have sub1 : ∀ d p q, p < n → q < n → gIt to' n k p = gIt to' n k q → itG ss os true d p q = true := by
    intro d
    induction d with
    | zero => exact fun _ _ _ _ _ => rfl
    | succ d ih =>
      intro p q hp hq e
      have e2 : gF to' n (gIt to' n k) p = gF to' n (gIt to' n k) q := by
        have a1 := h p hp; have a2 := h q hq
        show gIt to' n (k + 1) p = gIt to' n (k + 1) q
        rw [a1, a2, e]
      obtain ⟨s1, s2⟩ := (gF_sub ht2 (fun j hj => (hcs k j hj).1) hp hq).1 e2
      refine (e1 d p q).2 ⟨ih p q hp hq e, (ansB_iff hg hgo _ _ _).2 fun a t hm => ?_, (ansB_iff hg hgo _ _ _).2 fun a t hm => ?_⟩
      · obtain ⟨_, ha, ht⟩ := hb hm
        obtain ⟨t', u1, u2⟩ := s1 a t ha ((htS a p ha hp t).2 (goes_step (hbit.2 hm)))
        have ht' := bit_lt (ht2 a q) u1
        exact ⟨t', (hos a q t').2 ⟨hq, ht', (htS a q ha hq t').1 u1⟩, ih t t' ht ht' u2⟩
      · obtain ⟨_, ha, ht⟩ := hb hm
        obtain ⟨t', u1, u2⟩ := s2 a t ha ((htS a q ha hq t).2 (goes_step (hbit.2 hm)))
        have ht' := bit_lt (ht2 a p) u1
        exact ⟨t', (hos a p t').2 ⟨hp, ht', (htS a p ha hp t').1 u1⟩, ih t' t ht' ht u2.symm⟩
  -- and the other way round
  have hstay : ∀ p q, p < n → q < n → itG ss os true k' p q = true → ansB (itG ss os true k') p q ss os = true ∧ ansB (fun i j => itG ss os true k' j i) q p ss os = true := fun p q hp hq hr => by
    have := h' p q hp hq
    rw [hr] at this
    exact ((e1 k' p q).1 this).2
  have l1 : ∀ p q a t, (p < n ∧ q < n ∧ itG ss os true k' p q = true) → (toS ss a p).testBit t = true → ∃ t', Goes (toS ss) a q t' ∧ (t < n ∧ t' < n ∧ itG ss os true k' t t' = true) := by
    rintro p q a t ⟨hp, hq, hr⟩ ht
    have hm := hbit.1 ht
    obtain ⟨t', u1, u2⟩ := (ansB_iff hg hgo _ _ _).1 (hstay p q hp hq hr).1 a t hm
    obtain ⟨_, v1, v2⟩ := (hos a q t').1 u1
    exact ⟨t', v2, (hb hm).2.2, v1, u2⟩
  have l2 : ∀ q p a t, (p < n ∧ q < n ∧ itG ss os true k' p q = true) → (toS ss a q).testBit t = true → ∃ t', Goes (toS ss) a p t' ∧ (t' < n ∧ t < n ∧ itG ss os true k' t' t = true) := by
    rintro q p a t ⟨hp, hq, hr⟩ ht
    have hm := hbit.1 ht
    obtain ⟨t', u1, u2⟩ := (ansB_iff hg hgo _ _ _).1 (hstay p q hp hq hr).2 a t hm
    obtain ⟨_, v1, v2⟩ := (hos a p t').1 u1
    exact ⟨t', v2, v1, (hb hm).2.2, u2⟩
  have sub2 : ∀ d p q, p < n → q < n → itG ss os true k' p q = true → gIt to' n d p = gIt to' n d q := by
    intro d
    induction d with
    | zero => exact fun _ _ _ _ _ => rfl
    | succ d ih =>
      intro p q hp hq hr
      refine (gF_sub ht2 (fun j hj => (hcs d j hj).1) hp hq).2 ⟨fun a t ha ht => ?_, fun a t ha ht => ?_⟩
      · obtain ⟨t', u1, u2, u3, u4⟩ := goes_lift (T := fun p q => p < n ∧ q < n ∧ itG ss os true k' p q = true) l1 ⟨hp, hq, hr⟩ ((htS a p ha hp t).1 ht)
        exact ⟨t', (htS a q ha hq t').2 u1, ih t t' u2 u3 u4⟩
      · obtain ⟨t', u1, u2, u3, u4⟩ := goes_lift (T := fun q p => p < n ∧ q < n ∧ itG ss os true k' p q = true) l2 ⟨hp, hq, hr⟩ ((htS a q ha hq t).1 ht)
        exact ⟨t', (htS a p ha hp t').2 u1, (ih t' t u2 u3 u4).symm⟩
  have := numTo_one (fun p q hp hq => ⟨sub2 k p q hp hq, sub1 k' p q hp hq⟩) (gIt_comes to' n k) hN
  exact fun j hj => (this j hj).symm
end Go.Proofs.YtfnigiojgbeklaaDoor

open Go Go.Eng
namespace Go.Proofs.YtfnigiojgbeklaaDoor
attribute [local congr] undef_congr WpK.congr WpS.congr WpL.congr WpC.congr WpF.congr gotS.congr callS.congr nextS.congr wantS.congr condS.congr
attribute [local irreducible] WpK
attribute [local simp] WpDr_nil WpDr_cons atS_some dwantS_true dwantS_false kindS_light kindS_float kindS_heavy lightS_value floatS_some heavyS_value heavyS_skip heavyS_enter dcallS_some doneS_eq
  isLight isFloat isPlain dLook testBit_dec dChain dLights_nil dLights_skip dLights_one dLight_nil dLight_cons dFreshes_nil dFreshes_one oneF_none oneF_some dFresh_nil dFresh_cons oneL_some oneW_true oneW_false sameV_value dPut dMay valEq arrEq listEq List.getElem?_cons Tr.get_nil dEnd
attribute [local simp] WpS_nil WpS_cons isDefer undef_false wantS_true wantS_false nextS_value nextS_skip nextS_enter callS_some gotS_some aWanted aOp aEvalF aEval opMove opAssign opPick aVal flat flat1 AAct.put opBinOp opConvert opIndex Tr.get_set Tr.get_lay aBin aResults tupled
  aCall aVals aCallB blt_dec ble_dec beq_dec aBinI_add aBinI_sub aBinI_lss aBinI_leq aBinI_gtr aBinI_geq aBinI_eql aBinI_neq index_str len_str len_slice Nat.beq_refl Nat.beq_refl
  opBox opLoad opFieldAddr opIndexAddr acells aAddr opExtract aExtract opUnOp opAlloc opStore opMakeInterface opNilCheck opBuild aParts opBuildSlice aValW
attribute [local simp] und2 und3 und4 und5 und9 und12 und13 und21 und22 und23 und24 und26 und27 und28 und30 und31 und34 und40 und43 und48 und49 und50 und54 und70 und71 und72 und79 und81 und86 und88 und89 und94 und99 und108 und109 und110 und118 und119 und120 und121 und123 und134 und143 und144 und145 und146 und148 und149 und150 und153 und154 und155 und157 und165 und167 und168 und178 und179 und187 und188 und189 und190 und191 und192 und193 und199 und214 und218 field13_0 field13_1 field23_0 field23_1 field24_0 field24_1 field27_0 field27_1 field28_0 field28_1 field49_0 field49_1 field49_2 field50_0 field50_1 field50_2 field70_0 field70_1 field70_2 field71_0 field71_1 field71_2 field72_0 field72_1 field72_2 field108_0 field108_1 field108_2 field109_0 field109_1 field109_2 field120_0 field120_1 field121_0 field121_1 field145_0 field145_1 field145_2 field146_0 field146_1 field146_2 field154_0 field154_1 field155_0 field155_1 field178_0 field178_1 field178_2 field178_3 field179_0 field179_1 field179_2 field179_3 field188_0 field188_1 field189_0 field189_1
set_option maxHeartbeats 4000000
set_option linter.unusedSimpArgs false
set_option linter.unusedVariables false
theorem key1Eq_self (x : Int) : key1Eq (.int .i64 x) (.int .i64 x) = true := by
  cases x <;> simp [key1Eq]
theorem agg40_same (x y : Int) : aAgg T0 .neq 40 (.agg ⟨[.int .i64 x, .int .i64 y]⟩) (.agg ⟨[.int .i64 x, .int .i64 y]⟩) = some (.bool false) := by
  have hk : keyOk T0 40 (.agg ⟨[.int .i64 x, .int .i64 y]⟩) = true := by
    simp [keyOk, und40, und3, inf3, is3, allB, isKey1, ikEq, ikIdx]
  simp only [aAgg, und40, und3, hk, keyEq, keysEq, key1Eq_self]
  rfl
theorem taskClasses_wp {W : AW} {v : Value} (P : Int) {es : List Tri} (h : StepR W v es) (hes : es.length < 9223372036854775808) (hT : tabsIn T0 T0.tabs W = true) (hW0 : 0 < W.next) :
    WpF T0 3 [.agg ⟨[.int .i64 P, v]⟩] W (fun u W' => Ext W W' ∧ u = .bool true) := by
  refine wpF fun3 rfl ?_
  obtain ⟨W1, hW1, hE1, v2⟩ : ∃ W1, W1 = W.newCells 24 [.int .i64 P, v] ∧ Ext W W1 ∧ Var W1 W.next 24 [.int .i64 P, v] := ⟨_, rfl, .newCells _ _ _, Var.new _ _ _⟩
  have l2 := load24 v2
  try simp only [wpK_assoc]
  refine wpK_reg (fun R hR => by simp [← hW1]; exact hR) ?_
  try simp only [wpK_assoc]
  refine wpK_x3 (P := fun (n : Nat) ov p5 W3 => Ext W W3 ∧ ∃ xs, 1 ≤ n ∧ n ≤ 8 ∧ GoodS n 4 xs ∧ xs.length ≤ 18 ∧ StepR W3 ov xs ∧ W.next ≤ p5 ∧ Var W3 p5 24 [.int .i64 (n : Int), ov]) (fun R hR => by
    simp [l2, aEnter, fun10, short_other, aCallV]; rw [callS_none]
    refine (tame_wp P (h.ext hE1) hes 8 18 4 (by omega) (by omega) (by omega) (by omega) (by omega)).mono ?_
    rintro _ W2 ⟨hE2, n, ov, xs, rfl, q1, q2, q3, q4, q5⟩
    obtain ⟨Ao, co, hov⟩ := q5.len
    obtain ⟨W3, g1, g2, g3, g4⟩ := storeVar_new (T := T0) (W := W2) (t := 24) (z := [.int .i64 0, .slice none 0 0]) (v := .agg ⟨[.int .i64 (n : Int), ov]⟩) inf24 (by rw [is24]; rfl) (by rw [is24]; rfl) (by rw [hov]; rfl)
    have g4 : Var W3 W2.next 24 [.int .i64 (n : Int), ov] := g4
    have hP : Ext W W3 ∧ ∃ xs, 1 ≤ n ∧ n ≤ 8 ∧ GoodS n 4 xs ∧ xs.length ≤ 18 ∧ StepR W3 ov xs ∧ W.next ≤ W2.next ∧ Var W3 W2.next 24 [.int .i64 (n : Int), ov] := ⟨(hE1.trans hE2).trans g3, xs, q1, q2, q3, q4, q5.ext g3, (hE1.trans hE2).1, g4⟩
    generalize hp5 : W2.next = p5 at g1 g2 g4 hP
    simp [zero24, hp5, g1]
    exact hR n ov p5 W3 hP) ?_
  rintro n ov p5 W3 ⟨hE3, xs, n1, n8, hg, hx18, hS3, hp5, v5⟩
  have l5 := load24 v5
  try simp only [wpK_assoc]
  refine wpK_x2 (P := fun gv p6 W5 => Ext W3 W5 ∧ StepR W5 gv xs ∧ W3.next ≤ p6 ∧ Var W5 p6 28 [.int .i64 (n : Int), gv]) (fun R hR => by
    simp [l5, aEnter, fun11, short_other, aCallV]; rw [callS_none]
    refine (give_wp n hS3 (by omega) (by omega)).mono ?_
    rintro _ W4 ⟨hE4, gv, rfl, hS4⟩
    obtain ⟨Ao, co, hov⟩ := hS4.len
    obtain ⟨W5, g1, g2, g3, g4⟩ := storeVar_new (T := T0) (W := W4) (t := 28) (z := [.int .i64 0, .slice none 0 0]) (v := .agg ⟨[.int .i64 (n : Int), gv]⟩) inf28 (by rw [is28]; rfl) (by rw [is28]; rfl) (by rw [hov]; rfl)
    have g4 : Var W5 W4.next 28 [.int .i64 (n : Int), gv] := g4
    have hP : Ext W3 W5 ∧ StepR W5 gv xs ∧ W3.next ≤ W4.next ∧ Var W5 W4.next 28 [.int .i64 (n : Int), gv] := ⟨hE4.trans g3, hS4.ext g3, hE4.1, g4⟩
    generalize hp6 : W4.next = p6 at g1 g2 g4 hP
    simp [zero28, hp6, g1]
    exact hR gv p6 W5 hP) ?_
  rintro gv p6 W5 ⟨hE5, hS5, hp6, v6⟩
  have hE05 := hE3.trans hE5
  have n05 := hE05.1
  have l5x : ∀ W', Ext W5 W' → aLoadVar T0 W' 24 p5 0 = some (.agg ⟨[.int .i64 (n : Int), ov]⟩) := fun W' hE => load24 ((v5.ext hE5).ext hE)
  have l6x : ∀ W', Ext W5 W' → aLoadVar T0 W' 28 p6 0 = some (.agg ⟨[.int .i64 (n : Int), gv]⟩) := fun W' hE => load28 (v6.ext hE)
  have hT5 := tabs_ext hT hW0 hE05
  have hS35 := hS3.ext hE5
  have l65 := l6x W5 (.refl _ _)
  try simp only [wpK_assoc]
  refine wpK_x1 (P := fun (b : Nat) W6 => Ext W5 W6 ∧ ∃ k, NumsAt W6 b n (gIt (toS xs) n k) ∧ ∀ j, j < n → gIt (toS xs) n (k + 1) j = gIt (toS xs) n k j) (fun R hR => by
    simp [l65, aEnter, fun12, short_other, aCallV]; rw [callS_none]
    refine (progClasses_wp hS5 hg n1 (by omega) (by omega) (by omega) hT5 (by omega)).mono ?_
    rintro _ W6 ⟨hE6, k, b, rfl, hN, hst⟩
    simp; exact hR b W6 (And.intro hE6 ⟨k, hN, hst⟩)) ?_
  rintro b1 W6 ⟨hE6, k1, hN1, hst1⟩
  have hT6 := tabs_ext hT5 (by omega) hE6
  have n6 := hE6.1
  have l66 := l6x W6 hE6
  try simp only [wpK_assoc]
  refine wpK_x1 (P := fun (b : Nat) W7 => Ext W6 W7 ∧ ∃ k to', (∀ a p, to' a p < 2 ^ n) ∧ (∀ a p, a < 10 → p < n → ∀ t, (to' a p).testBit t = true ↔ Goes (toS xs) a p t) ∧ NumsAt W7 b n (gIt to' n k) ∧ ∀ j, j < n → gIt to' n (k + 1) j = gIt to' n k j) (fun R hR => by
    simp [l66, aEnter, fun13, short_other, aCallV]; rw [callS_none]
    refine (progHidden_wp (hS5.ext hE6) hg n1 (by omega) (by omega) (by omega) hT6 (by omega)).mono ?_
    rintro _ W7 ⟨hE7, k, b, to', rfl, q1, q2, q3, q4⟩
    simp; exact hR b W7 (And.intro hE7 ⟨k, to', q1, q2, q3, q4⟩)) ?_
  rintro b2 W7 ⟨hE7, k2, to', ht2, htS, hN2, hst2⟩
  have hE57 := hE6.trans hE7
  have hT7 := tabs_ext hT5 (by omega) hE57
  have n7 := hE57.1
  have l67 := l6x W7 hE57
  obtain ⟨k0, hk0⟩ := stays_ex n xs
  try simp only [wpK_assoc]
  refine wpK_x1 (P := fun lv W8 => Ext W7 W8 ∧ PairR W8 lv (flwL n (itG xs xs false k0) n)) (fun R hR => by
    simp [l67, aEnter, fun14, short_other, aCallV]; rw [callS_none]
    refine (progFollows_wp (hS5.ext hE57) hg n1 (by omega) (by omega) (by omega) hT7 (by omega) hk0).mono ?_
    rintro _ W8 ⟨hE8, lv, rfl, hP⟩
    simp; exact hR lv W8 (And.intro hE8 hP)) ?_
  rintro lv W8 ⟨hE8, hP8⟩
  have hE58 := hE57.trans hE8
  have l58 := l5x W8 hE58
  try simp only [wpK_assoc]
  refine wpK_x1 (P := fun lw W9 => Ext W8 W9 ∧ PairR W9 lw (flwL n (itG xs xs false k0) n)) (fun R hR => by
    simp [l58, aEnter, fun15, short_other, aCallV]; rw [callS_none]
    refine (refFollows_wp (hS35.ext hE58) hg (by omega) (by omega)).mono ?_
    rintro lw W9 ⟨hE9, k, hP, hfix⟩
    rw [follows_one hg hfix hk0] at hP
    simp; exact hR lw W9 (And.intro hE9 hP)) ?_
  rintro lw W9 ⟨hE9, hP9⟩
  have hE59 := hE58.trans hE9
  have hPl := hP8.ext hE9
  obtain ⟨pl, hpl⟩ : ∃ pl, pl = flwL n (itG xs xs false k0) n := ⟨_, rfl⟩
  rw [← hpl] at hP9 hPl
  obtain ⟨Al, cl, hlv⟩ := hPl.len
  obtain ⟨Aw, cw, hlw⟩ := hP9.len
  have hln : pl.length ≤ 64 := by
    have h1 := flwL_len n (itG xs xs false k0) n
    have h2 : n * n ≤ 8 * 8 := Nat.mul_le_mul n8 n8
    rw [hpl]; omega
  have vl := row_eq hPl
  have vw := row_eq hP9
  have ll1 : ∀ W', aLen T0 W' 34 lv = some (.int .i64 pl.length) := fun W' => by rw [hlv]; exact len_slice und34 _ _ _
  have ll2 : ∀ W', aLen T0 W' 34 lw = some (.int .i64 pl.length) := fun W' => by rw [hlw]; exact len_slice und34 _ _ _
  clear hlv hlw
  have l59 := l5x W9 hE59
  try simp only [wpK_assoc]
  refine wpK_x2 (P := fun (b3 b4 : Nat) W10 => Ext W9 W10) (fun R hR => by
    simp [l59, aEnter, fun17, short_other, aCallV]; rw [callS_none]
    refine (refClasses_wp (hS35.ext hE59) hg (by omega) (by omega)).mono ?_
    rintro _ Wa ⟨hEa, b3, g3, k3, rfl, hN3, hto3, hfix3⟩
    have hs1 := same_wp (Var.ext hN1 (((hE7.trans hE8).trans hE9).trans hEa)) hN3 (by omega)
    rw [decide_eq_true (classes_same hg (by omega) hst1 hto3 hfix3)] at hs1
    have l5a := l5x Wa (hE59.trans hEa)
    simp [aEnter, fun16, short_other, aCallV]; rw [callS_none]
    refine hs1.mono ?_
    rintro _ Wq ⟨eq, rfl⟩; subst Wq
    simp [opUnOp, aUn, l5a, aEnter, fun18, short_other, aCallV]; rw [callS_none]
    refine (refHidden_wp ((hS35.ext hE59).ext hEa) hg (by omega) (by omega) (by omega)).mono ?_
    rintro _ Wb ⟨hEb, b4, g4, k4, os, rfl, hN4, hgo, hos, hto4, hfix4⟩
    have hs2 := same_wp (Var.ext hN2 (((hE8.trans hE9).trans hEa).trans hEb)) hN4 (by omega)
    rw [decide_eq_true (hidden_same hg hgo (by omega) hos ht2 htS hst2 hto4 hfix4)] at hs2
    simp [aEnter, fun16, short_other, aCallV]; rw [callS_none]
    refine hs2.mono ?_
    rintro _ Wq ⟨eq, rfl⟩; subst Wq
    simp [opUnOp, aUn, ll1, ll2]
    exact hR b3 b4 Wb (hEa.trans hEb)) ?_
  rintro b3 b4 W10 hE10
  have hE510 := hE59.trans hE10
  have hE010 := hE05.trans hE510
  have hPw := hP9.ext hE10
  have hPv := hPl.ext hE10
  clear hS35 hS5 hS3
  try simp only [wpK_assoc]
  first | refine wpK_onF (by simp []) ?_ | refine wpK_out (by simp []) ?_ | refine wpK_condF (by simp []) ?_ | refine wpK_endF (by simp []) (wpK_skip ?_) | refine wpK_endF (by simp []) ?_
  try simp only [wpK_assoc]
  refine wpK_reg (fun R hR => by simp []; exact hR) ?_
  refine wpK_keep (fun tm' => tm'.get 9 = some (lv) ∧ tm'.get 11 = some (lw) ∧ tm'.get 12 = some (.int .i64 0)) ⟨by simp, by simp, by simp⟩ ?_
  rintro tm ⟨h9, h11, h12⟩
  try simp only [wpK_assoc]
  refine wpK_while (I := fun q A' W' => A'.n = 81 ∧ A'.defers = [] ∧ A'.tmps.get 9 = some (lv) ∧ A'.tmps.get 11 = some (lw) ∧ W' = W10 ∧ ∃ (i : Nat), A'.tmps.get 12 = some (.int .i64 (i : Int)) ∧ q = pl.length - i ∧ i ≤ pl.length)
    (J := fun A' W' => A'.n = 81 ∧ A'.defers = [] ∧ A'.tmps.get 9 = some (lv) ∧ A'.tmps.get 11 = some (lw) ∧ W' = W10) (Rt := fun A' W' => False) (k := pl.length) ?_ ?_ ?_ ?_
  · exact ⟨rfl, rfl, by simp [h9, h11], by simp [h9, h11], rfl, 0, by simp [h12], rfl, by omega⟩
  · rintro q ⟨tm, n, ds⟩ Wa ⟨hn, hd, h9, h11, hw, i, h12, hq, hil⟩ Q' hJ' hRt hI
    simp only at hn hd h9 h11
    subst hn; subst hd
    simp only at h12
    rw [hw]
    by_cases hlt : i < pl.length
    case neg =>
      have hlt' : ¬ (i : Int) < pl.length := by omega
      try simp only [wpK_assoc]
      refine wpK_reg (fun R hR => by simp [h9, h12, hlt', ll1]; exact hR) ?_
      try simp only [wpK_assoc]
      first | refine wpK_onF (by simp [hlt]) ?_ | refine wpK_out (by simp [hlt]) ?_ | refine wpK_condF (by simp [hlt]) ?_ | refine wpK_endF (by simp [hlt]) (wpK_skip ?_) | refine wpK_endF (by simp [hlt]) ?_
      exact hJ' _ _ ⟨rfl, rfl, by simp [h9, h11], by simp [h9, h11], rfl⟩
    have hlt' : (i : Int) < pl.length := by omega
    try simp only [wpK_assoc]
    refine wpK_reg (fun R hR => by simp [h9, h12, hlt', ll1]; exact hR) ?_
    try simp only [wpK_assoc]
    first | refine wpK_onT (by simp [hlt]) ?_ | refine wpK_outT (by simp [hlt]) ?_ | refine wpK_condT (by simp [hlt]) ?_ | refine wpK_endT (by simp [hlt]) ?_
    obtain ⟨⟨x, y⟩, hxy⟩ : ∃ e : Int × Int, pl[i] = e := ⟨_, rfl⟩
    have hi0 : pl[i]? = some (x, y) := by rw [List.getElem?_eq_getElem hlt, hxy]
    obtain ⟨qb, qo, hx, e0, _, _⟩ := pair_load hPv hi0
    obtain ⟨rb, ro, hy, e1, _, _⟩ := pair_load hPw hi0
    have ha := agg40_same x y
    refine wpK_block ?_
    try simp only [wpK_assoc]
    refine wpK_dn (wr := Tr.nil |>.set 71 0 |>.set 72 1 |>.set 73 2 |>.set 74 3 |>.set 75 4 |>.set 76 5 |>.set 77 6 |>.set 78 7 |>.set 79 8) (bits := Tr.nil.lay 0 [0, 0, 3, 7, 0, 0, 48, 112, 255]) (ord := [0, 1, 2, 3, 4, 5, 6, 7, 8]) (by kernel_rfl) (by kernel_rfl) (by kernel_rfl) (fun G hG => by
      simp [h9, h11, h12, hx, hy, e0, e1, ha, vl, vw]
      exact hG) ?_
    try simp only [wpK_assoc]
    first | refine wpK_onF (by simp []) ?_ | refine wpK_out (by simp []) ?_ | refine wpK_condF (by simp []) ?_ | refine wpK_endF (by simp []) (wpK_skip ?_) | refine wpK_endF (by simp []) ?_
    simp only [leaves_normal, behind_normal]
    try simp only [wpK_assoc]
    refine wpK_reg1 (fun R hR => by simp [h12]; exact hR) ?_
    exact hI (pl.length - (i + 1)) _ _ (by omega) ⟨rfl, rfl, by simp [h9, h11], by simp [h9, h11], rfl, i + 1, by simp [i64_succ i (by omega)], rfl, by omega⟩
  · rintro A' W' hf; exact hf.elim
  · rintro ⟨tm, n, ds⟩ Wz ⟨hn, hd, h9, h11, hw⟩
    simp only at hn hd h9 h11
    subst hn; subst hd
    rw [hw]
    have hTz := tabs_ext hT hW0 hE010
    try simp only [wpK_assoc]
    refine wpK_reg (fun R hR => by
      simp [aEnter, fun19, short_awake, aCallV, hTz]; exact hR) ?_
    exact wpK_ret ⟨.inr rfl, rfl, [.bool true], by simp, hE010, rfl⟩
end Go.Proofs.YtfnigiojgbeklaaDoor

open Go Go.Eng
namespace Go.Proofs.YtfnigiojgbeklaaDoor
open Go.ChangeShapes Go.WideShapes Go.ChangeAt Go.RowKit
section
variable {H : Type} {enc : TypeId × Value → H} {P : Program} {w : World}
theorem add_block (a : Addr) (n : Nat) : (a.add n).block = a.block := by unfold Addr.add; split <;> rfl
theorem add_off (a : Addr) (n : Nat) : (a.add n).off = a.off + n := by unfold Addr.add; split <;> simp_all
end
theorem own : ownKnob Tryd.prog.godebug = none := by kernel_rfl
theorem laidOut : laidOutB Tryd.prog = true := by kernel_rfl
theorem T0_globs : ∀ g u, T0.globs.get g = some u → g = 0 := fun g u h => by
  have h : (Tr.set Tr.nil 0 ()).get g = some u := h
  rw [Tr.get_set] at h
  split at h
  · assumption
  · rw [Tr.get_nil] at h; cases h
def tabL : List Int := [0, 1, 56, 2, 57, 49, 28, 3, 61, 58, 42, 50, 38, 29, 17, 4, 62, 47, 59, 36, 45, 43, 51, 22, 53, 39, 33, 30, 24, 18, 12, 5, 63, 55, 48, 27, 60, 41, 37, 16, 46, 35, 44, 21, 52, 32, 23, 11, 54, 26, 40, 15, 34, 20, 31, 10, 25, 14, 19, 9, 13, 8, 7, 6]
theorem tab_of_laid {W : World} (h : laidMet Tryd.prog [("math/bits.deBruijn64tab", Rows.laid_math_bits_deBruijn64tab)] W) : ∀ i (h : i < tabL.length), W.cell? ⟨0, i, none⟩ = some (.int .u8 tabL[i]) := by
  have hg : Tryd.prog.globalNamed "math/bits.deBruijn64tab" = some 0 := by kernel_rfl
  have ht := Lib.tabIs_of_head (P := Tryd.prog) (W := W) (k := .u8) (zs := tabL) (rest := []) (t := 193) (e := 5) (n := 64) hg (by kernel_rfl) Tryd.underlying193 Tryd.underlying5 (by kernel_rfl) (by kernel_rfl) h
  intro i hi
  have := ht.cell hg i hi
  rw [this, List.getD_eq_getElem?_getD, List.getElem?_eq_getElem hi]; rfl
theorem tab_cells {W : World} (h : ∀ i (h : i < tabL.length), W.cell? ⟨0, i, none⟩ = some (.int .u8 tabL[i])) : isCells W 0 = true ∧ 0 < (embW W).next ∧ tabsIn T0 T0.tabs (embW W) = true := by
  have h0 := h 0 (by decide)
  have hc := isCells_cell h0
  refine ⟨hc, isCells_lt hc, ?_⟩
  have key : tabIn ⟨0, tabL.map (Value.int .u8)⟩ (embW W) = true := by
    unfold isCells at hc
    split at hc
    case h_2 => cases hc
    rename_i c el fz ho
    unfold tabIn
    simp only [embW_get, ho, Option.map_some, embO]
    have hcell : ∀ i (hi : i < tabL.length), c[i]? = some (.int .u8 tabL[i]) := fun i hi => by
      have := h i hi
      simpa [World.cell?, ho] using this
    have hsz : tabL.length ≤ c.size := by
      have := (Array.getElem?_eq_some_iff.1 (hcell 63 (by decide))).1
      show 64 ≤ c.size; omega
    have htake : (Tr.nil.layO 0 (c.toList.map (absV W))).take 0 (tabL.map (Value.int .u8)).length = some (tabL.map (Value.int .u8)) := by
      refine take_get _ _ 0 _ rfl (fun j hj => ?_)
      have hj' : j < tabL.length := by simpa using hj
      rw [Nat.zero_add, Tr.get_layO _ _ _ _ (.inl (Tr.get_nil _)), if_pos (by simp; omega)]
      simp only [Nat.sub_zero, List.getElem?_map, Array.getElem?_toList, hcell j hj', Option.map_some, Option.getD_some, List.getElem?_eq_getElem hj']
      rfl
    rw [htake]
    simp only [ble_dec, List.length_map, hsz, decide_true]
    have hf : allB flat (tabL.map (Value.int .u8)) = true := by decide
    rw [hf]
    simp only
    have : ∀ l : List Int, listEq (l.map (Value.int .u8)) (l.map (Value.int .u8)) = true := fun l => by
      induction l with
      | nil => rfl
      | cons a l ih => simp only [List.map_cons]; exact listEq_cons (valEq_int _ _) ih
    exact this tabL
  show tabsIn T0 [⟨0, tabL.map (Value.int .u8)⟩] (embW W) = true
  simp only [tabsIn, key]
  rfl
noncomputable def laidWorld (os : Os) : World :=
  let w0 := World.holding Tryd.prog os ⟨#[], #[], []⟩
  { w0 with heap := w0.heap.modify 0 fun
      | .cells _ t frozen => .cells (tabL.map (Value.int .u8)).toArray t frozen
      | o => o }
theorem laid_met (os : Os) (args : Array Value) : laidMet Tryd.prog [("math/bits.deBruijn64tab", Rows.laid_math_bits_deBruijn64tab)] ((laidWorld os).forCall (fun _ _ => 0) ⟨#[], args, []⟩).memory :=
  laidMet_of_run' 8 (by kernel_rfl) (by kernel_rfl)
theorem globs_cells {W : World} (h : isCells W 0 = true) : ∀ g u, T0.globs.get g = some u → isCells W g = true := fun g u hu => by
  rw [T0_globs g u hu]; exact h
end Go.Proofs.YtfnigiojgbeklaaDoor

open Go Go.Eng
namespace Go.Proofs.YtfnigiojgbeklaaDoor
open Go.ChangeShapes Go.WideShapes Go.ChangeAt Go.RowKit
theorem absV_row2 {w : World} {a : Addr} {n c : Nat} (h : 0 < c → ∃ v, w.cell? a = some v) (hn : n ≤ c) :
    ∃ a' c', absV w (.slice (some a) n c) = some (.slice a' n c') ∧ (0 < c → a' = some ⟨a.block, a.off, none⟩) ∧ SlOk (.slice a' n c') n := by
  by_cases hc : 0 < c
  · obtain ⟨v, hv⟩ := h hc
    have hs := cell_spot hv
    have hb := isCells_cell hv
    obtain ⟨b, o, s⟩ := a
    simp only at hs hb; subst hs
    exact ⟨some ⟨b, o, none⟩, 2 * c, by simp [absV, hb], fun _ => rfl, .inr (.inl ⟨b, o, c, rfl, hn⟩)⟩
  · obtain rfl : c = 0 := by omega
    obtain rfl : n = 0 := by omega
    obtain ⟨b, o, s⟩ := a
    cases s with
    | none =>
      by_cases hb : isCells w b = true
      · exact ⟨some ⟨b, o, none⟩, 0, by simp [absV, hb], fun x => absurd x hc, .inr (.inl ⟨b, o, 0, rfl, by omega⟩)⟩
      · exact ⟨some ⟨0, 0, some 1⟩, 0, by simp [absV, hb], fun x => absurd x hc, .inr (.inr ⟨rfl, rfl⟩)⟩
    | some s => exact ⟨some ⟨0, 0, some 1⟩, 0, rfl, fun x => absurd x hc, .inr (.inr ⟨rfl, rfl⟩)⟩
section
variable {H : Type} {enc : TypeId × Value → H} {P : Program} {w : World}
theorem steps_in2 {t e : TypeId} {f0 f1 f2 : Field} {fuel : Nat} {held : Bool} {v : Value} {x : DataW H × List MemPlace} (ht : P.underlying t = some (.slice e)) (he : P.underlying e = some (.struct #[f0, f1, f2])) (hc : P.cellsOf e = 3)
    (o0 : f0.offset = 0) (o1 : f1.offset = 1) (o2 : f2.offset = 2) (c0 : P.cellsOf f0.type = 1) (c1 : P.cellsOf f1.type = 1) (c2 : P.cellsOf f2.type = 1) (u0 : P.underlying f0.type = some (.int .i64)) (u1 : P.underlying f1.type = some (.int .i64)) (u2 : P.underlying f2.type = some (.int .i64))
    (h : DataW.trod enc P w 0 (fun _ => true) held fuel t [v] = some x) : ∃ u l, absV w v = some u ∧ StepR (embW w) u l ∧ l.length < 9223372036854775808 ∧ SlOk u l.length := by
  rcases Deep.open_slice ht h with ⟨h1, _⟩ | ⟨a, len, cap, m, n, D, Pl, h1, _, h2, h3, hm, _, h4⟩
  · cases h1
    exact ⟨.slice none 0 0, [], rfl, .nil _, by simp, .inl ⟨rfl, rfl⟩⟩
  · cases h1
    simp only [if_true] at hm
    subst hm
    have each : ∀ i, i < m → ∃ z : Tri, w.cell? (a.add (i * 3)) = some (.int .i64 z.1) ∧ w.cell? (a.add (i * 3 + 1)) = some (.int .i64 z.2.1) ∧ w.cell? (a.add (i * 3 + 2)) = some (.int .i64 z.2.2) := by
      intro i hi
      obtain ⟨cs', g1, g2⟩ := h4 i hi
      rw [hc] at g1
      obtain ⟨_, hlen, hcell⟩ := World.cells?_some g1
      obtain ⟨y0, y1, y2, k, _, _, q0, q1, q2⟩ := Deep.trod_struct3 he g2
      match cs', hlen with
      | [x0, x1, x2], _ =>
        simp [o0, o1, o2, c0, c1, c2] at q0 q1 q2
        obtain ⟨z0, e0, _⟩ := DataW.trod_int u0 q0
        obtain ⟨z1, e1, _⟩ := DataW.trod_int u1 q1
        obtain ⟨z2, e2, _⟩ := DataW.trod_int u2 q2
        cases e0; cases e1; cases e2
        have k0 := hcell 0 (by omega)
        have k1 := hcell 1 (by omega)
        have k2 := hcell 2 (by omega)
        rw [Go.Deep.add_add] at k0 k1 k2
        exact ⟨(z0, z1, z2), by simpa using k0, by simpa using k1, by simpa using k2⟩
    obtain ⟨Z, hZ⟩ := Deep.choose_lt each
    obtain ⟨a', c', g4, g5, g6⟩ := absV_row2 (w := w) (a := a) (n := len) (c := m) (fun hc => ⟨_, by simpa [Addr.add] using (hZ 0 hc).1⟩) h2
    refine ⟨_, (List.range len).map Z, g4, ⟨a', c', by simp, fun h0 => SlOk.emp (n := len) g6, fun i z hi => ?_⟩, by simp; unfold maxLen at h3; omega, by simpa using g6⟩
    have hi' : i < len := by
      have := (List.getElem?_eq_some_iff.1 hi).1
      simpa using this
    simp only [List.getElem?_map, List.getElem?_range hi', Option.map_some, Option.some.injEq] at hi
    subst hi
    obtain ⟨k0, k1, k2⟩ := hZ i (by omega)
    have e0 := emb_has k0 (u := .int .i64 (Z i).1) rfl
    have e1 := emb_has k1 (u := .int .i64 (Z i).2.1) rfl
    have e2 := emb_has k2 (u := .int .i64 (Z i).2.2) rfl
    rw [add_block, add_off] at e0 e1 e2
    refine ⟨a.block, a.off, g5 (by omega), fun j u hu => ?_⟩
    have hj : j < 3 := by have := (List.getElem?_eq_some_iff.1 hu).1; simpa [cells3] using this
    match j, hj with
    | 0, _ => cases hu; exact e0
    | 1, _ => cases hu; rw [Nat.add_assoc]; exact e1
    | 2, _ => cases hu; rw [Nat.add_assoc]; exact e2
end
end Go.Proofs.YtfnigiojgbeklaaDoor
