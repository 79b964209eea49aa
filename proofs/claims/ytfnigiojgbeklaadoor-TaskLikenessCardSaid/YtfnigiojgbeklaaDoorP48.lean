import Derived.Test.YtfnigiojgbeklaaDoorP47
import Derived.Test.YtfnigiojgbeklaaDoorEngSm
import Derived.Test.YtfnigiojgbeklaaDoorEngBt
import Derived.Test.YtfnigiojgbeklaaDoorTie
import Derived.Test.YtfnigiojgbeklaaDoorCards
import Derived.SevenTiedAt
import Derived.Lib.SmallJoins
set_option linter.unusedSimpArgs false
set_option linter.unusedVariables false
set_option linter.unusedSectionVars false
open Go Go.Eng
namespace Go.Proofs.YtfnigiojgbeklaaDoor
attribute [local congr] undef_congr WpK.congr WpS.congr WpL.congr WpC.congr WpF.congr gotS.congr callS.congr nextS.congr wantS.congr condS.congr
attribute [local irreducible] WpK
attribute [local simp] WpDr_nil WpDr_cons atS_some dwantS_true dwantS_false kindS_light kindS_float kindS_heavy lightS_value floatS_some heavyS_value heavyS_skip heavyS_enter dcallS_some doneS_eq
  isLight isFloat isPlain dLook testBit_dec dChain dLights_nil dLights_skip dLights_one dLight_nil dLight_cons dFreshes_nil dFreshes_one oneF_none oneF_some dFresh_nil dFresh_cons oneL_some oneW_true oneW_false sameV_value dPut dMay valEq arrEq listEq List.getElem?_cons Tr.get_nil dEnd
attribute [local simp] WpS_nil WpS_cons isDefer undef_false wantS_true wantS_false nextS_value nextS_skip nextS_enter callS_some gotS_some aWanted aOp aEvalF aEval opMove opAssign opPick aVal flat flat1 AAct.put opBinOp opConvert opIndex Tr.get_set Tr.get_lay aBin aResults tupled
  aCall aVals aCallB blt_dec ble_dec beq_dec aBinI_add aBinI_sub aBinI_lss aBinI_leq aBinI_gtr aBinI_geq aBinI_eql aBinI_neq index_str len_str len_slice Nat.beq_refl Nat.beq_refl
  opBox opLoad opFieldAddr opIndexAddr acells aAddr opExtract aExtract opUnOp opAlloc opStore opMakeInterface opNilCheck opBuild aParts opBuildSlice aValW
attribute [local simp] und2 und3 und4 und5 und9 und12 und13 und21 und22 und23 und24 und26 und27 und28 und30 und31 und34 und40 und43 und48 und49 und50 und54 und70 und71 und72 und79 und81 und86 und88 und89 und94 und99 und108 und109 und110 und118 und119 und120 und121 und123 und134 und143 und144 und145 und146 und148 und149 und150 und153 und154 und155 und157 und165 und167 und168 und178 und179 und187 und188 und189 und190 und191 und192 und193 und199 und214 und218 field13_0 field13_1 field23_0 field23_1 field24_0 field24_1 field27_0 field27_1 field28_0 field28_1 field49_0 field49_1 field49_2 field50_0 field50_1 field50_2 field70_0 field70_1 field70_2 field71_0 field71_1 field71_2 field72_0 field72_1 field72_2 field108_0 field108_1 field108_2 field109_0 field109_1 field109_2 field120_0 field120_1 field121_0 field121_1 field145_0 field145_1 field145_2 field146_0 field146_1 field146_2 field154_0 field154_1 field155_0 field155_1 field178_0 field178_1 field178_2 field178_3 field179_0 field179_1 field179_2 field179_3 field188_0 field188_1 field189_0 field189_1
set_option maxHeartbeats 4000000
set_option linter.unusedSimpArgs false
set_option linter.unusedVariables false
theorem sum_const (n : Nat) : ∀ l : List Nat, (l.map fun _ => n).sum = l.length * n
  | [] => by simp
  | a :: l => by simp [sum_const n l, Nat.succ_mul, Nat.add_comm]
theorem prs_len (n : Nat) : (prs n).length = n * n := by
  simp only [prs, List.length_flatMap, List.length_map, List.length_range]
  rw [sum_const]; simp
open Classical in
theorem greatest_wp {W : AW} {sv ov : Value} {n L : Nat} {ss os : List Tri} (hs : StepR W sv ss) (ho : StepR W ov os) (hgs : GoodS n L ss) (hgo : GoodS n L os) (hls : ss.length < 1000000) (hlo : os.length < 1000000) (hn : n ≤ 64) (both : Bool) :
    WpF T0 42 [.int .i64 (n : Int), sv, ov, .bool both] W (fun u W' => Ext W W' ∧ ∃ k K, Rnds W' W u n k (itG ss os both) K ∧ k < 100000 ∧ (∀ p q, p < n → q < n → itG ss os both (k + 1) p q = itG ss os both k p q) ∧ ∀ d, d < k → ∃ p q, p < n ∧ q < n ∧ itG ss os both (d + 1) p q ≠ itG ss os both d p q) := by
  refine wpF fun42 rfl ?_
  have vs := row_eq hs
  have vo := row_eq ho
  try simp only [wpK_assoc]
  refine wpK_reg (fun R hR => by simp []; exact hR) ?_
  try simp only [wpK_assoc]
  refine wpK_x2 (P := fun (m bx : Nat) W1 => Ext W W1 ∧ ∃ K, Rnds W1 W (.slice (some ⟨bx, 0, none⟩) 1 2) n 0 (itG ss os both) K) (fun R hR => by
    simp [aEnter, fun44, short_other, aCallV]; rw [callS_none]
    refine (full_wp hn).mono ?_
    rintro _ Wf ⟨hEf, m, f, rfl, hM, hm, hf⟩
    have hP : Ext W (Wf.newCells 79 [rowV m n]) ∧ ∃ K, Rnds (Wf.newCells 79 [rowV m n]) W (.slice (some ⟨Wf.next, 0, none⟩) 1 2) n 0 (itG ss os both) K := by
      refine ⟨hEf.trans (.newCells _ _ _), fun b => b = Wf.next, ⟨[rowV m n], rfl, .inl ⟨rfl, Wf.next, Tr.nil.lay 0 [rowV m n], [], rfl, by omega, rfl, by rw [newCells_next]; omega, by rw [newCells_get, if_pos rfl], fun i hi => by rw [Tr.get_lay, if_pos (by omega)]; simp, by simp⟩, fun d hd => ?_⟩, fun b hb => by have := hEf.1; omega, fun b hb => by rw [newCells_next]; omega⟩
      obtain rfl : d = 0 := by omega
      have lt1 := hM.outer.1
      have lt2 := fun i hi => (hM.row i hi).1
      exact ⟨rowV m n, rfl, m, f, rfl, hM.ext (.newCells _ _ _), ⟨hm, by omega⟩, fun i hi => ⟨hf i hi, by have := lt2 i hi; omega⟩⟩
    have hb := bs94 Wf m n
    generalize Wf.next = bx at hP hb
    generalize Wf.newCells 79 [rowV m n] = W1 at hP hb
    simp [hb]
    exact hR m bx W1 hP) ?_
  rintro m0 bx W1 ⟨hE1, K0, hR0⟩
  try simp only [wpK_assoc]
  refine wpK_while1 (I := fun q A' W' => A'.n = 95 ∧ A'.defers = [] ∧ A'.tmps.get 0 = some (.int .i64 (n : Int)) ∧ A'.tmps.get 1 = some (sv) ∧ A'.tmps.get 2 = some (ov) ∧ A'.tmps.get 3 = some (.bool both) ∧ Ext W W' ∧ ∃ (k : Nat) (v : Value) (K : Nat → Prop), A'.tmps.get 9 = some v ∧ Rnds W' W v n k (itG ss os both) K ∧ q = cntR n (itG ss os both k) ∧ k + q ≤ cntR n (itG ss os both 0) ∧ ∀ d, d < k → ∃ p q, p < n ∧ q < n ∧ itG ss os both (d + 1) p q ≠ itG ss os both d p q)
    (J := fun _ _ => False) (Rt := fun A' W' => A'.defers = [] ∧ Ext W W' ∧ ∃ (k : Nat) (v : Value) (K : Nat → Prop), A'.tmps.get 8 = some v ∧ Rnds W' W v n k (itG ss os both) K ∧ k < 100000 ∧ (∀ p q, p < n → q < n → itG ss os both (k + 1) p q = itG ss os both k p q) ∧ ∀ d, d < k → ∃ p q, p < n ∧ q < n ∧ itG ss os both (d + 1) p q ≠ itG ss os both d p q)
    (k := cntR n (itG ss os both 0)) ?_ ?_ ?_ ?_
  · exact ⟨rfl, rfl, by simp, by simp, by simp, by simp, hE1, 0, _, K0, by simp, hR0, rfl, by omega, fun d hd => by omega⟩
  · rintro q ⟨tm, n, ds⟩ Wa ⟨hn, hd, h0, h1, h2, h3, hEa, k, v, K, h9, hRn, hq, hkq, hdiff⟩ Q' hJ hRt hI
    simp only at hn hd h0 h1 h2 h3
    subst hn; subst hd
    simp only at h9
    have hk5 : k < 100000 := by
      have h1 : cntR n (itG ss os both 0) ≤ (prs n).length := List.countP_le_length
      have h2 : (prs n).length = n * n := prs_len n
      have h3 : n * n ≤ 64 * 64 := Nat.mul_le_mul hn hn
      omega
    obtain ⟨Ar, cr, hv⟩ := hRn.len
    have ll : aLen T0 Wa 94 v = some (.int .i64 ((k + 1 : Nat) : Int)) := by rw [hv]; exact len_slice und94 _ _ _
    have w1 : IntKind.i64.wrap (k : Int) = (k : Int) := i64_in (by omega)
    obtain ⟨b, o, x, a1, a2, hB⟩ := hRn.at (d := k) (Nat.le_refl _)
    refine wpK_block1 ?_
    try simp only [wpK_assoc]
    refine wpK_reg (fun R hR => by simp [h9, ll, w1, a1, a2]; exact hR) ?_
    try simp only [wpK_assoc]
    refine wpK_x1 (P := fun y Wb => Ext Wa Wb ∧ BMat Wb y n (fun _ _ => true) (fun b => Wa.next ≤ b)) (fun R hR => by
      simp [h0, aEnter, fun44, short_other, aCallV]; rw [callS_none]
      refine (full_wp hn).mono ?_
      rintro y Wb hP
      simp; exact hR y Wb hP) ?_
    rintro y Wb ⟨hEb, hY⟩
    try simp only [wpK_assoc]
    refine wpK_reg (fun R hR => by simp []; exact hR) ?_
    try simp only [wpK_assoc]
    refine wpK_reg (fun R hR => by simp []; exact hR) ?_
    have hEWb := hEa.trans hEb
    have nab := hEb.1
    have nwa := hEa.1
    obtain ⟨ry, hry⟩ : ∃ r, r = itG ss os both k := ⟨_, rfl⟩
    rw [← hry] at hB
    have hBb := hB.ext hEb
    have hSb : StepR Wb sv ss := hs.ext hEWb
    have hOb : StepR Wb ov os := ho.ext hEWb
    obtain ⟨m, f, rfl, hMy, hmy, hfy⟩ := hY
    obtain ⟨mx, fx, hxe, hMx, hmx, hfx⟩ := hBb
    refine wpK_keep (fun tm' => tm'.get 0 = some (.int .i64 (n : Int)) ∧ tm'.get 1 = some (sv) ∧ tm'.get 2 = some (ov) ∧ tm'.get 3 = some (.bool both) ∧ tm'.get 9 = some (v) ∧ tm'.get 10 = some (x) ∧ tm'.get 11 = some (rowV m n) ∧ tm'.get 12 = some (.bool false) ∧ tm'.get 13 = some (.int .i64 0)) ⟨by simp [h0, h1, h2, h3, h9], by simp [h0, h1, h2, h3, h9], by simp [h0, h1, h2, h3, h9], by simp [h0, h1, h2, h3, h9], by simp [h0, h1, h2, h3, h9], by simp [h0, h1, h2, h3, h9], by simp [h0, h1, h2, h3, h9], by simp [h0, h1, h2, h3, h9], by simp [h0, h1, h2, h3, h9]⟩ ?_
    rintro tm ⟨h0, h1, h2, h3, h9, h10, h11, h12, h13⟩
    try simp only [wpK_assoc]
    refine wpK_while (I := fun c A' W' => A'.n = 95 ∧ A'.defers = [] ∧ A'.tmps.get 0 = some (.int .i64 (n : Int)) ∧ A'.tmps.get 1 = some (sv) ∧ A'.tmps.get 2 = some (ov) ∧ A'.tmps.get 3 = some (.bool both) ∧ A'.tmps.get 9 = some (v) ∧ A'.tmps.get 10 = some (x) ∧ A'.tmps.get 11 = some (rowV m n) ∧ Only (fun b => Wa.next ≤ b) Wb W' ∧ ∃ (i : Nat) (ch : Bool), A'.tmps.get 13 = some (.int .i64 (i : Int)) ∧ A'.tmps.get 12 = some (.bool ch) ∧ c = n - i ∧ i ≤ n ∧ PMat W' m n n f (fun p q => if p < i then stepG ss os both ry p q else true) ∧ (ch = true ↔ ∃ p q, p < i ∧ q < n ∧ stepG ss os both ry p q ≠ ry p q))
      (J := fun A' W' => A'.n = 95 ∧ A'.defers = [] ∧ A'.tmps.get 0 = some (.int .i64 (n : Int)) ∧ A'.tmps.get 1 = some (sv) ∧ A'.tmps.get 2 = some (ov) ∧ A'.tmps.get 3 = some (.bool both) ∧ A'.tmps.get 9 = some (v) ∧ A'.tmps.get 10 = some (x) ∧ A'.tmps.get 11 = some (rowV m n) ∧ Only (fun b => Wa.next ≤ b) Wb W' ∧ ∃ (ch : Bool), A'.tmps.get 12 = some (.bool ch) ∧ PMat W' m n n f (stepG ss os both ry) ∧ (ch = true ↔ ∃ p q, p < n ∧ q < n ∧ stepG ss os both ry p q ≠ ry p q))
      (Rt := fun _ _ => False) (k := n) ?_ ?_ ?_ ?_
    · exact ⟨rfl, rfl, by simp [h0, h1, h2, h3, h9, h10, h11], by simp [h0, h1, h2, h3, h9, h10, h11], by simp [h0, h1, h2, h3, h9, h10, h11], by simp [h0, h1, h2, h3, h9, h10, h11], by simp [h0, h1, h2, h3, h9, h10, h11], by simp [h0, h1, h2, h3, h9, h10, h11], by simp [h0, h1, h2, h3, h9, h10, h11], .refl _ _, 0, false, by simp [h13], by simp [h12], rfl, by omega, hMy.congr (fun i j _ _ => by simp), by simp⟩
    · rintro c ⟨tm, n, ds⟩ Wc ⟨hn, hd, h0, h1, h2, h3, h9, h10, h11, hOc, i, ch, h13, h12, hc, hil, hMc, hch⟩ Q2 hJ2 hRt2 hI2
      simp only at hn hd h0 h1 h2 h3 h9 h10 h11
      subst hn; subst hd
      simp only at h13 h12
      by_cases hlt : i < n
      case neg =>
        have e : i = n := by omega
        subst e
        try simp only [wpK_assoc]
        refine wpK_reg (fun R hR => by simp [h0, h13]; exact hR) ?_
        try simp only [wpK_assoc]
        first | refine wpK_onF (by simp []) ?_ | refine wpK_out (by simp []) ?_ | refine wpK_condF (by simp []) ?_ | refine wpK_endF (by simp []) (wpK_skip ?_) | refine wpK_endF (by simp []) ?_
        exact hJ2 _ _ ⟨rfl, rfl, by simp [h0, h1, h2, h3, h9, h10, h11], by simp [h0, h1, h2, h3, h9, h10, h11], by simp [h0, h1, h2, h3, h9, h10, h11], by simp [h0, h1, h2, h3, h9, h10, h11], by simp [h0, h1, h2, h3, h9, h10, h11], by simp [h0, h1, h2, h3, h9, h10, h11], by simp [h0, h1, h2, h3, h9, h10, h11], hOc, ch, by simp [h12], hMc.congr (fun p q hp hq => by simp only [if_pos hp]), hch⟩
      have hlt' : (i : Int) < n := by omega
      try simp only [wpK_assoc]
      refine wpK_reg (fun R hR => by simp [h0, h13, hlt']; exact hR) ?_
      try simp only [wpK_assoc]
      first | refine wpK_onT (by simp [hlt]) ?_ | refine wpK_outT (by simp [hlt]) ?_ | refine wpK_condT (by simp [hlt]) ?_ | refine wpK_endT (by simp [hlt]) ?_
      refine wpK_block ?_
      try simp only [wpK_assoc]
      refine wpK_reg (fun R hR => by simp []; exact hR) ?_
      refine wpK_keep (fun tm' => tm'.get 0 = some (.int .i64 (n : Int)) ∧ tm'.get 1 = some (sv) ∧ tm'.get 2 = some (ov) ∧ tm'.get 3 = some (.bool both) ∧ tm'.get 9 = some (v) ∧ tm'.get 10 = some (x) ∧ tm'.get 11 = some (rowV m n) ∧ tm'.get 12 = some (.bool ch) ∧ tm'.get 13 = some (.int .i64 (i : Int)) ∧ tm'.get 14 = some (.int .i64 0)) ⟨by simp [h0, h1, h2, h3, h9, h10, h11, h12, h13], by simp [h0, h1, h2, h3, h9, h10, h11, h12, h13], by simp [h0, h1, h2, h3, h9, h10, h11, h12, h13], by simp [h0, h1, h2, h3, h9, h10, h11, h12, h13], by simp [h0, h1, h2, h3, h9, h10, h11, h12, h13], by simp [h0, h1, h2, h3, h9, h10, h11, h12, h13], by simp [h0, h1, h2, h3, h9, h10, h11, h12, h13], by simp [h0, h1, h2, h3, h9, h10, h11, h12, h13], by simp [h0, h1, h2, h3, h9, h10, h11, h12, h13], by simp [h0, h1, h2, h3, h9, h10, h11, h12, h13]⟩ ?_
      rintro tm ⟨h0, h1, h2, h3, h9, h10, h11, h12, h13, h14⟩
      try simp only [wpK_assoc]
      refine wpK_while1 (I := fun c A' W' => A'.n = 95 ∧ A'.defers = [] ∧ A'.tmps.get 0 = some (.int .i64 (n : Int)) ∧ A'.tmps.get 1 = some (sv) ∧ A'.tmps.get 2 = some (ov) ∧ A'.tmps.get 3 = some (.bool both) ∧ A'.tmps.get 9 = some (v) ∧ A'.tmps.get 10 = some (x) ∧ A'.tmps.get 11 = some (rowV m n) ∧ A'.tmps.get 13 = some (.int .i64 (i : Int)) ∧ Only (fun b => Wa.next ≤ b) Wb W' ∧ ∃ (j : Nat) (ch : Bool), A'.tmps.get 14 = some (.int .i64 (j : Int)) ∧ A'.tmps.get 12 = some (.bool ch) ∧ c = n - j ∧ j ≤ n ∧ PMat W' m n n f (fun p q => if p < i ∨ (p = i ∧ q < j) then stepG ss os both ry p q else true) ∧ (ch = true ↔ ∃ p q, (p < i ∨ (p = i ∧ q < j)) ∧ q < n ∧ stepG ss os both ry p q ≠ ry p q))
        (J := fun A' W' => A'.n = 95 ∧ A'.defers = [] ∧ A'.tmps.get 0 = some (.int .i64 (n : Int)) ∧ A'.tmps.get 1 = some (sv) ∧ A'.tmps.get 2 = some (ov) ∧ A'.tmps.get 3 = some (.bool both) ∧ A'.tmps.get 9 = some (v) ∧ A'.tmps.get 10 = some (x) ∧ A'.tmps.get 11 = some (rowV m n) ∧ A'.tmps.get 13 = some (.int .i64 (i : Int)) ∧ Only (fun b => Wa.next ≤ b) Wb W' ∧ ∃ (ch : Bool), A'.tmps.get 12 = some (.bool ch) ∧ PMat W' m n n f (fun p q => if p < i + 1 then stepG ss os both ry p q else true) ∧ (ch = true ↔ ∃ p q, p < i + 1 ∧ q < n ∧ stepG ss os both ry p q ≠ ry p q))
        (Rt := fun _ _ => False) (k := n) ?_ ?_ ?_ ?_
      · refine ⟨rfl, rfl, by simp [h0, h1, h2, h3, h9, h10, h11, h13], by simp [h0, h1, h2, h3, h9, h10, h11, h13], by simp [h0, h1, h2, h3, h9, h10, h11, h13], by simp [h0, h1, h2, h3, h9, h10, h11, h13], by simp [h0, h1, h2, h3, h9, h10, h11, h13], by simp [h0, h1, h2, h3, h9, h10, h11, h13], by simp [h0, h1, h2, h3, h9, h10, h11, h13], by simp [h0, h1, h2, h3, h9, h10, h11, h13], hOc, 0, ch, by simp [h14], by simp [h12], rfl, by omega, hMc.congr (fun p q _ _ => ?_), ?_⟩
        · by_cases e : p < i
          · rw [if_pos e, if_pos (.inl e)]
          · rw [if_neg e, if_neg (by omega)]
        · rw [hch]
          constructor
          · rintro ⟨p, q, h1, h2⟩; exact ⟨p, q, .inl h1, h2⟩
          · rintro ⟨p, q, h1, h2⟩; exact ⟨p, q, by omega, h2⟩
      · rintro c ⟨tm, n, ds⟩ Wd ⟨hn, hd, h0, h1, h2, h3, h9, h10, h11, h13, hOd, j, ch, h14, h12, hc, hjl, hMd, hch⟩ Q3 hJ3 hRt3 hI3
        simp only at hn hd h0 h1 h2 h3 h9 h10 h11 h13
        subst hn; subst hd
        simp only at h14 h12
        by_cases hjt : j < n
        case neg =>
          have e : j = n := by omega
          subst e
          try simp only [wpK_assoc]
          refine wpK_reg (fun R hR => by simp [h0, h14]; exact hR) ?_
          try simp only [wpK_assoc]
          first | refine wpK_onF (by simp []) ?_ | refine wpK_out (by simp []) ?_ | refine wpK_condF (by simp []) ?_ | refine wpK_endF (by simp []) (wpK_skip ?_) | refine wpK_endF (by simp []) ?_
          refine hJ3 _ _ ⟨rfl, rfl, by simp [h0, h1, h2, h3, h9, h10, h11, h13], by simp [h0, h1, h2, h3, h9, h10, h11, h13], by simp [h0, h1, h2, h3, h9, h10, h11, h13], by simp [h0, h1, h2, h3, h9, h10, h11, h13], by simp [h0, h1, h2, h3, h9, h10, h11, h13], by simp [h0, h1, h2, h3, h9, h10, h11, h13], by simp [h0, h1, h2, h3, h9, h10, h11, h13], by simp [h0, h1, h2, h3, h9, h10, h11, h13], hOd, ch, by simp [h12], hMd.congr (fun p q hp hq => ?_), ?_⟩
          · by_cases e : p < i
            · rw [if_pos (.inl e), if_pos (by omega)]
            · by_cases e2 : p = i
              · rw [if_pos (.inr ⟨e2, hq⟩), if_pos (by omega)]
              · rw [if_neg (by omega), if_neg (by omega)]
          · rw [hch]
            constructor
            · rintro ⟨p, q, h1, h2⟩; exact ⟨p, q, by omega, h2⟩
            · rintro ⟨p, q, h1, h2, h3⟩; exact ⟨p, q, by omega, h2, h3⟩
        have hjt' : (j : Int) < n := by omega
        try simp only [wpK_assoc]
        refine wpK_reg (fun R hR => by simp [h0, h14, hjt']; exact hR) ?_
        try simp only [wpK_assoc]
        first | refine wpK_onT (by simp [hjt]) ?_ | refine wpK_outT (by simp [hjt]) ?_ | refine wpK_condT (by simp [hjt]) ?_ | refine wpK_endT (by simp [hjt]) ?_
        refine wpK_block ?_
        have nd := hOd.1
        -- what the region asks for
        have hSd : StepR Wd sv ss := hs.only ((Only.wide hEWb).trans hOd) (fun b hb hk => by omega)
        have hOd2 : StepR Wd ov os := ho.only ((Only.wide hEWb).trans hOd) (fun b hb hk => by omega)
        have hk3 : n - (j + 1) < c := by omega
        have hj1 : j + 1 ≤ n := by omega
        have hsj := i64_succ j (by omega)
        have hOad : Only (fun b => Wa.next ≤ b) Wa Wd := (Only.wide hEb).trans hOd
        have hBd := hB.only hOad (fun b hb _ hk => by omega)
        obtain ⟨mx, fx, hxe2, hMxd, _, _⟩ := id hBd
        obtain ⟨a1, a2⟩ := hMd.at hlt (Nat.le_refl _)
        obtain ⟨c1, c2⟩ := hMxd.at hlt (Nat.le_refl _)
        have c3 := row_ix (b := fx i) hjt
        have c4 := hMxd.cell hlt hjt
        rw [← hxe2] at c1
        have vx : valEq x x = true := by rw [hxe2]; exact rowV_eq _ _
        have vr1 := rowV_eq (fx i) n
        have vr2 := rowV_eq (f i) n
        have vr3 := rowV_eq m n
        have a3 := row_ix (b := f i) hjt
        have a2x : ∀ W', Ext Wd W' → aLoadVar T0 W' 54 m i = some (rowV (f i) n) := fun W' hE => ((hMd.ext hE).at hlt (Nat.le_refl _)).2
        have k1 := answers_wp hBd hSd hOd2 hgs hgo hls hlo hn i j
        have hnxt : stepG ss os both ry i j = (ry i j && (ansB ry i j ss os && (!both || ansB (fun i j => ry j i) j i ss os))) := rfl
        have put := fun {We : AW} (hE : Ext Wd We) (bv : Bool) (hbv : bv = stepG ss os both ry i j) => show ∃ Wf, aStoreVar T0 We 4 (f i) j (.bool bv) = some Wf ∧ Wf.next = We.next ∧ (Only (fun b => Wa.next ≤ b) Wd Wf ∧ PMat Wf m n n f (fun p q => if p < i ∨ (p = i ∧ q < j + 1) then stepG ss os both ry p q else true)) from by
          obtain ⟨Wf, d1, d2, d3, d4⟩ := (hMd.ext hE).put hlt hjt bv
          have hfi := hfy i hlt
          refine ⟨Wf, d1, d2, (Only.wide hE).trans (d3.mono (fun b _ h => by omega)), d4.congr (fun p q hp hq => ?_)⟩
          by_cases e : p = i
          · subst e
            simp only [if_true, updB]
            by_cases e2 : q = j
            · subst e2; rw [if_pos rfl, if_pos (.inr ⟨trivial, by omega⟩), hbv]
            · rw [if_neg e2]
              by_cases e3 : q < j
              · rw [if_pos (.inr ⟨trivial, e3⟩), if_pos (.inr ⟨trivial, by omega⟩)]
              · rw [if_neg (by omega), if_neg (by omega)]
          · simp only [if_neg e]
            by_cases e3 : p < i
            · rw [if_pos (.inl e3), if_pos (.inl e3)]
            · rw [if_neg (by omega), if_neg (by omega)]
        try simp only [wpK_assoc]
        refine wpK_cut (J := fun A' W' => A'.n = 95 ∧ A'.defers = [] ∧ A'.tmps.get 0 = some (.int .i64 (n : Int)) ∧ A'.tmps.get 1 = some (sv) ∧ A'.tmps.get 2 = some (ov) ∧ A'.tmps.get 3 = some (.bool both) ∧ A'.tmps.get 9 = some (v) ∧ A'.tmps.get 10 = some (x) ∧ A'.tmps.get 11 = some (rowV m n) ∧ A'.tmps.get 12 = some (.bool ch) ∧ A'.tmps.get 13 = some (.int .i64 (i : Int)) ∧ A'.tmps.get 14 = some (.int .i64 (j : Int)) ∧ Only (fun b => Wa.next ≤ b) Wd W' ∧ PMat W' m n n f (fun p q => if p < i ∨ (p = i ∧ q < j + 1) then stepG ss os both ry p q else true)) (fun Q4 hQ4 => ?_) ?_
        · cases hr : ry i j with
          | false =>
            rw [hr] at c4
            obtain ⟨Wf, d1, d2, d3⟩ := put (.refl _ _) false (by rw [hnxt, hr]; rfl)
            try simp only [wpK_assoc]
            refine wpK_qn (wr := Tr.nil |>.set 36 0 |>.set 37 1 |>.set 38 2 |>.set 39 3 |>.set 40 4 |>.set 41 5 |>.set 42 6 |>.set 43 7 |>.set 44 8 |>.set 45 9 |>.set 46 10 |>.set 47 11 |>.set 48 12 |>.set 49 13 |>.set 50 14 |>.set 51 15 |>.set 52 16 |>.set 53 17 |>.set 54 18 |>.set 55 19 |>.set 56 20 |>.set 57 21 |>.set 58 22 |>.set 59 23 |>.set 60 24 |>.set 61 25 |>.set 62 26 |>.set 63 27 |>.set 64 28 |>.set 65 29 |>.set 66 30 |>.set 67 31 |>.set 68 32 |>.set 69 33) (bits := Tr.nil.lay 0 [0, 0, 3, 7, 0, 0, 0, 96, 224, 0, 992, 2016, 4064, 8160, 8160, 8160, 8160, 8160, 262112, 524256, 1048544, 2097120, 4194272, 8388576, 16777184, 33554400, 16777184, 16777184, 16777184, 16777184, 1073741792, 2147483616, 4294967264, 8589934591, 17179869183]) (ord := [0, 1, 2, 3, 4, 5, 6, 7, 8, 9, 10, 11, 12, 13, 14, 15, 16, 17, 18, 19, 20, 21, 22, 23, 24, 25, 26, 27, 28, 29, 30, 31, 32, 33, 34]) (by kernel_rfl) (by kernel_rfl) (by kernel_rfl) (fun G hG => by
              simp [h0, h1, h2, h3, h10, h11, h13, h14, a1, a2, a3, c1, c2, c3, c4, d1, d2, undef, vx, vr1, vr2, vr3]
              exact hG) ?_
            exact hQ4 _ _ ⟨rfl, rfl, by simp [h0, h1, h2, h3, h9, h10, h11, h12, h13, h14], by simp [h0, h1, h2, h3, h9, h10, h11, h12, h13, h14], by simp [h0, h1, h2, h3, h9, h10, h11, h12, h13, h14], by simp [h0, h1, h2, h3, h9, h10, h11, h12, h13, h14], by simp [h0, h1, h2, h3, h9, h10, h11, h12, h13, h14], by simp [h0, h1, h2, h3, h9, h10, h11, h12, h13, h14], by simp [h0, h1, h2, h3, h9, h10, h11, h12, h13, h14], by simp [h0, h1, h2, h3, h9, h10, h11, h12, h13, h14], by simp [h0, h1, h2, h3, h9, h10, h11, h12, h13, h14], by simp [h0, h1, h2, h3, h9, h10, h11, h12, h13, h14], d3⟩
          | true =>
          rw [hr] at c4
          cases hA : ansB ry i j ss os with
          | false =>
            rw [hA] at k1
            obtain ⟨Wf, d1, d2, d3⟩ := put (.refl _ _) false (by rw [hnxt, hr, hA]; rfl)
            try simp only [wpK_assoc]
            refine wpK_qn (wr := Tr.nil |>.set 36 0 |>.set 37 1 |>.set 38 2 |>.set 39 3 |>.set 40 4 |>.set 41 5 |>.set 42 6 |>.set 43 7 |>.set 44 8 |>.set 45 9 |>.set 46 10 |>.set 47 11 |>.set 48 12 |>.set 49 13 |>.set 50 14 |>.set 51 15 |>.set 52 16 |>.set 53 17 |>.set 54 18 |>.set 55 19 |>.set 56 20 |>.set 57 21 |>.set 58 22 |>.set 59 23 |>.set 60 24 |>.set 61 25 |>.set 62 26 |>.set 63 27 |>.set 64 28 |>.set 65 29 |>.set 66 30 |>.set 67 31 |>.set 68 32 |>.set 69 33) (bits := Tr.nil.lay 0 [0, 0, 3, 7, 0, 0, 0, 96, 224, 0, 992, 2016, 4064, 8160, 8160, 8160, 8160, 8160, 262112, 524256, 1048544, 2097120, 4194272, 8388576, 16777184, 33554400, 16777184, 16777184, 16777184, 16777184, 1073741792, 2147483616, 4294967264, 8589934591, 17179869183]) (ord := [0, 1, 2, 3, 4, 5, 6, 7, 8, 9, 10, 11, 12, 13, 14, 15, 16, 17, 18, 19, 20, 21, 22, 23, 24, 25, 26, 27, 28, 29, 30, 31, 32, 33, 34]) (by kernel_rfl) (by kernel_rfl) (by kernel_rfl) (fun G hG => by
              simp [h0, h1, h2, h3, h10, h11, h13, h14, a1, a2, a3, c1, c2, c3, c4, undef, vx, vr1, vr2, vr3, aEnter, fun60, short_other, aCallV]
              rw [dcallS_none]
              refine k1.mono ?_
              rintro _ W9 ⟨e9, rfl⟩; subst W9
              simp [h0, h1, h2, h3, h10, h11, h13, h14, a1, a2, a3, c1, c2, c3, c4, d1, d2, undef, vx, vr1, vr2, vr3, vs, vo]
              exact hG) ?_
            exact hQ4 _ _ ⟨rfl, rfl, by simp [h0, h1, h2, h3, h9, h10, h11, h12, h13, h14], by simp [h0, h1, h2, h3, h9, h10, h11, h12, h13, h14], by simp [h0, h1, h2, h3, h9, h10, h11, h12, h13, h14], by simp [h0, h1, h2, h3, h9, h10, h11, h12, h13, h14], by simp [h0, h1, h2, h3, h9, h10, h11, h12, h13, h14], by simp [h0, h1, h2, h3, h9, h10, h11, h12, h13, h14], by simp [h0, h1, h2, h3, h9, h10, h11, h12, h13, h14], by simp [h0, h1, h2, h3, h9, h10, h11, h12, h13, h14], by simp [h0, h1, h2, h3, h9, h10, h11, h12, h13, h14], by simp [h0, h1, h2, h3, h9, h10, h11, h12, h13, h14], d3⟩
          | true =>
          rw [hA] at k1
          cases hb : both with
          | false =>
            subst hb
            obtain ⟨Wf, d1, d2, d3⟩ := put (.refl _ _) true (by rw [hnxt, hr, hA]; rfl)
            try simp only [wpK_assoc]
            refine wpK_qn (wr := Tr.nil |>.set 36 0 |>.set 37 1 |>.set 38 2 |>.set 39 3 |>.set 40 4 |>.set 41 5 |>.set 42 6 |>.set 43 7 |>.set 44 8 |>.set 45 9 |>.set 46 10 |>.set 47 11 |>.set 48 12 |>.set 49 13 |>.set 50 14 |>.set 51 15 |>.set 52 16 |>.set 53 17 |>.set 54 18 |>.set 55 19 |>.set 56 20 |>.set 57 21 |>.set 58 22 |>.set 59 23 |>.set 60 24 |>.set 61 25 |>.set 62 26 |>.set 63 27 |>.set 64 28 |>.set 65 29 |>.set 66 30 |>.set 67 31 |>.set 68 32 |>.set 69 33) (bits := Tr.nil.lay 0 [0, 0, 3, 7, 0, 0, 0, 96, 224, 0, 992, 2016, 4064, 8160, 8160, 8160, 8160, 8160, 262112, 524256, 1048544, 2097120, 4194272, 8388576, 16777184, 33554400, 16777184, 16777184, 16777184, 16777184, 1073741792, 2147483616, 4294967264, 8589934591, 17179869183]) (ord := [0, 1, 2, 3, 4, 5, 6, 7, 8, 9, 10, 11, 12, 13, 14, 15, 16, 17, 18, 19, 20, 21, 22, 23, 24, 25, 26, 27, 28, 29, 30, 31, 32, 33, 34]) (by kernel_rfl) (by kernel_rfl) (by kernel_rfl) (fun G hG => by
              simp [h0, h1, h2, h3, h10, h11, h13, h14, a1, a2, a3, c1, c2, c3, c4, undef, vx, vr1, vr2, vr3, aEnter, fun60, short_other, aCallV]
              rw [dcallS_none]
              refine k1.mono ?_
              rintro _ W9 ⟨e9, rfl⟩; subst W9
              simp [h0, h1, h2, h3, h10, h11, h13, h14, a1, a2, a3, c1, c2, c3, c4, d1, d2, undef, vx, vr1, vr2, vr3, vs, vo]
              exact hG) ?_
            exact hQ4 _ _ ⟨rfl, rfl, by simp [h0, h1, h2, h3, h9, h10, h11, h12, h13, h14], by simp [h0, h1, h2, h3, h9, h10, h11, h12, h13, h14], by simp [h0, h1, h2, h3, h9, h10, h11, h12, h13, h14], by simp [h0, h1, h2, h3, h9, h10, h11, h12, h13, h14], by simp [h0, h1, h2, h3, h9, h10, h11, h12, h13, h14], by simp [h0, h1, h2, h3, h9, h10, h11, h12, h13, h14], by simp [h0, h1, h2, h3, h9, h10, h11, h12, h13, h14], by simp [h0, h1, h2, h3, h9, h10, h11, h12, h13, h14], by simp [h0, h1, h2, h3, h9, h10, h11, h12, h13, h14], by simp [h0, h1, h2, h3, h9, h10, h11, h12, h13, h14], d3⟩
          | true =>
          subst hb
          have k2 := turned_wp hBd hn
          obtain ⟨b3, hb3⟩ : ∃ b, b = ansB (fun i j => ry j i) j i ss os := ⟨_, rfl⟩
          have hst : b3 = stepG ss os true ry i j := by rw [hnxt, hr, hA, hb3]; rfl
          have k3 := fun {Wt : AW} {tv : Value} (hEt : Ext Wd Wt) (hTt : BMat Wt tv n (fun i j => ry j i) (fun b => Wd.next ≤ b)) => answers_wp hTt (hSd.ext hEt) (hOd2.ext hEt) hgs hgo hls hlo hn j i
          rw [← hb3] at k3
          cases b3 with
          | false =>
            try simp only [wpK_assoc]
            refine wpK_q1 (wr := Tr.nil |>.set 36 0 |>.set 37 1 |>.set 38 2 |>.set 39 3 |>.set 40 4 |>.set 41 5 |>.set 42 6 |>.set 43 7 |>.set 44 8 |>.set 45 9 |>.set 46 10 |>.set 47 11 |>.set 48 12 |>.set 49 13 |>.set 50 14 |>.set 51 15 |>.set 52 16 |>.set 53 17 |>.set 54 18 |>.set 55 19 |>.set 56 20 |>.set 57 21 |>.set 58 22 |>.set 59 23 |>.set 60 24 |>.set 61 25 |>.set 62 26 |>.set 63 27 |>.set 64 28 |>.set 65 29 |>.set 66 30 |>.set 67 31 |>.set 68 32 |>.set 69 33) (bits := Tr.nil.lay 0 [0, 0, 3, 7, 0, 0, 0, 96, 224, 0, 992, 2016, 4064, 8160, 8160, 8160, 8160, 8160, 262112, 524256, 1048544, 2097120, 4194272, 8388576, 16777184, 33554400, 16777184, 16777184, 16777184, 16777184, 1073741792, 2147483616, 4294967264, 8589934591, 17179869183]) (ord := [0, 1, 2, 3, 4, 5, 6, 7, 8, 9, 10, 11, 12, 13, 14, 15, 16, 17, 18, 19, 20, 21, 22, 23, 24, 25, 26, 27, 28, 29, 30, 31, 32, 33, 34]) (by kernel_rfl) (by kernel_rfl) (by kernel_rfl) (fun G hG => by
              simp [h0, h1, h2, h3, h10, h11, h13, h14, a1, a2, a3, c1, c2, c3, c4, undef, vx, vr1, vr2, vr3, aEnter, fun60, fun59, short_other, aCallV]
              rw [dcallS_none]
              refine k1.mono ?_
              rintro _ W9 ⟨e9, rfl⟩; subst W9
              simp [h0, h1, h2, h3, h10, h11, h13, h14, a1, a2, a3, c1, c2, c3, c4, undef, vx, vr1, vr2, vr3, vs, vo, aEnter, fun60, fun59, short_other, aCallV]
              rw [dcallS_none]
              refine k2.mono ?_
              rintro tv Wt ⟨hEt, hTt⟩
              have a2t := a2x Wt hEt
              simp [hEt.1, h0, h1, h2, h3, h10, h11, h13, h14, a1, a2, a2t, a3, c1, c2, c3, c4, undef, vx, vr1, vr2, vr3, vs, vo, aEnter, fun60, fun59, short_other, aCallV]
              rw [dcallS_none]
              refine (k3 hEt hTt).mono ?_
              rintro _ W9 ⟨e9, rfl⟩; subst W9
              obtain ⟨Wf, d1, d2, d3⟩ := put hEt false hst
              simp [hEt.1, h0, h1, h2, h3, h10, h11, h13, h14, a1, a2, a2t, a3, c1, c2, c3, c4, d1, d2, undef, vx, vr1, vr2, vr3, vs, vo]
              exact hG tv Wf d3) ?_
            rintro tv Wf d3
            exact hQ4 _ _ ⟨rfl, rfl, by simp [h0, h1, h2, h3, h9, h10, h11, h12, h13, h14], by simp [h0, h1, h2, h3, h9, h10, h11, h12, h13, h14], by simp [h0, h1, h2, h3, h9, h10, h11, h12, h13, h14], by simp [h0, h1, h2, h3, h9, h10, h11, h12, h13, h14], by simp [h0, h1, h2, h3, h9, h10, h11, h12, h13, h14], by simp [h0, h1, h2, h3, h9, h10, h11, h12, h13, h14], by simp [h0, h1, h2, h3, h9, h10, h11, h12, h13, h14], by simp [h0, h1, h2, h3, h9, h10, h11, h12, h13, h14], by simp [h0, h1, h2, h3, h9, h10, h11, h12, h13, h14], by simp [h0, h1, h2, h3, h9, h10, h11, h12, h13, h14], d3⟩
          | true =>
            try simp only [wpK_assoc]
            refine wpK_q1 (wr := Tr.nil |>.set 36 0 |>.set 37 1 |>.set 38 2 |>.set 39 3 |>.set 40 4 |>.set 41 5 |>.set 42 6 |>.set 43 7 |>.set 44 8 |>.set 45 9 |>.set 46 10 |>.set 47 11 |>.set 48 12 |>.set 49 13 |>.set 50 14 |>.set 51 15 |>.set 52 16 |>.set 53 17 |>.set 54 18 |>.set 55 19 |>.set 56 20 |>.set 57 21 |>.set 58 22 |>.set 59 23 |>.set 60 24 |>.set 61 25 |>.set 62 26 |>.set 63 27 |>.set 64 28 |>.set 65 29 |>.set 66 30 |>.set 67 31 |>.set 68 32 |>.set 69 33) (bits := Tr.nil.lay 0 [0, 0, 3, 7, 0, 0, 0, 96, 224, 0, 992, 2016, 4064, 8160, 8160, 8160, 8160, 8160, 262112, 524256, 1048544, 2097120, 4194272, 8388576, 16777184, 33554400, 16777184, 16777184, 16777184, 16777184, 1073741792, 2147483616, 4294967264, 8589934591, 17179869183]) (ord := [0, 1, 2, 3, 4, 5, 6, 7, 8, 9, 10, 11, 12, 13, 14, 15, 16, 17, 18, 19, 20, 21, 22, 23, 24, 25, 26, 27, 28, 29, 30, 31, 32, 33, 34]) (by kernel_rfl) (by kernel_rfl) (by kernel_rfl) (fun G hG => by
              simp [h0, h1, h2, h3, h10, h11, h13, h14, a1, a2, a3, c1, c2, c3, c4, undef, vx, vr1, vr2, vr3, aEnter, fun60, fun59, short_other, aCallV]
              rw [dcallS_none]
              refine k1.mono ?_
              rintro _ W9 ⟨e9, rfl⟩; subst W9
              simp [h0, h1, h2, h3, h10, h11, h13, h14, a1, a2, a3, c1, c2, c3, c4, undef, vx, vr1, vr2, vr3, vs, vo, aEnter, fun60, fun59, short_other, aCallV]
              rw [dcallS_none]
              refine k2.mono ?_
              rintro tv Wt ⟨hEt, hTt⟩
              have a2t := a2x Wt hEt
              simp [hEt.1, h0, h1, h2, h3, h10, h11, h13, h14, a1, a2, a2t, a3, c1, c2, c3, c4, undef, vx, vr1, vr2, vr3, vs, vo, aEnter, fun60, fun59, short_other, aCallV]
              rw [dcallS_none]
              refine (k3 hEt hTt).mono ?_
              rintro _ W9 ⟨e9, rfl⟩; subst W9
              obtain ⟨Wf, d1, d2, d3⟩ := put hEt true hst
              simp [hEt.1, h0, h1, h2, h3, h10, h11, h13, h14, a1, a2, a2t, a3, c1, c2, c3, c4, d1, d2, undef, vx, vr1, vr2, vr3, vs, vo]
              exact hG tv Wf d3) ?_
            rintro tv Wf d3
            exact hQ4 _ _ ⟨rfl, rfl, by simp [h0, h1, h2, h3, h9, h10, h11, h12, h13, h14], by simp [h0, h1, h2, h3, h9, h10, h11, h12, h13, h14], by simp [h0, h1, h2, h3, h9, h10, h11, h12, h13, h14], by simp [h0, h1, h2, h3, h9, h10, h11, h12, h13, h14], by simp [h0, h1, h2, h3, h9, h10, h11, h12, h13, h14], by simp [h0, h1, h2, h3, h9, h10, h11, h12, h13, h14], by simp [h0, h1, h2, h3, h9, h10, h11, h12, h13, h14], by simp [h0, h1, h2, h3, h9, h10, h11, h12, h13, h14], by simp [h0, h1, h2, h3, h9, h10, h11, h12, h13, h14], by simp [h0, h1, h2, h3, h9, h10, h11, h12, h13, h14], d3⟩
        rintro ⟨tm, n, ds⟩ We ⟨hn, hd, h0, h1, h2, h3, h9, h10, h11, h12, h13, h14, hOe, hMe⟩
        simp only at hn hd h0 h1 h2 h3 h9 h10 h11 h12 h13 h14
        subst hn; subst hd
        obtain ⟨e1, e2⟩ := hMe.at hlt (Nat.le_refl _)
        have e3 := row_ix (b := f i) hjt
        have e4 := hMe.cell hlt hjt
        rw [if_pos (.inr ⟨rfl, Nat.lt_succ_self j⟩)] at e4
        have hBe := hB.only (hOad.trans hOe) (fun b hb _ hk => by omega)
        obtain ⟨mz, fz, hxe3, hMz, _, _⟩ := hBe
        obtain ⟨g1, g2⟩ := hMz.at hlt (Nat.le_refl _)
        have g3 := row_ix (b := fz i) hjt
        have g4 := hMz.cell hlt hjt
        rw [← hxe3] at g1
        have vg := rowV_eq (fz i) n
        have hdec : ∀ a b : Bool, (ch || (a != b)) = true ↔ ch = true ∨ a ≠ b := fun a b => by cases ch <;> cases a <;> cases b <;> simp
        have hfin : ((ch || (stepG ss os both ry i j != ry i j)) = true ↔ ∃ p q, (p < i ∨ (p = i ∧ q < j + 1)) ∧ q < n ∧ stepG ss os both ry p q ≠ ry p q) := by
          rw [hdec, hch]
          constructor
          · rintro (⟨p, q, h1, h2, h3⟩ | h)
            · exact ⟨p, q, by omega, h2, h3⟩
            · exact ⟨i, j, .inr ⟨rfl, by omega⟩, hjt, h⟩
          · rintro ⟨p, q, h1, h2, h3⟩
            by_cases e : p < i ∨ (p = i ∧ q < j)
            · exact .inl ⟨p, q, e, h2, h3⟩
            · right
              have ep : p = i := by omega
              have eq' : q = j := by omega
              rw [← ep, ← eq']; exact h3
        have nxt : ∀ (tm : Tr Value), (tm.get 0 = some (.int .i64 (n : Int)) ∧ tm.get 1 = some sv ∧ tm.get 2 = some ov ∧ tm.get 3 = some (.bool both) ∧ tm.get 9 = some v ∧ tm.get 10 = some x ∧ tm.get 11 = some (rowV m n) ∧ tm.get 12 = some (.bool (ch || (stepG ss os both ry i j != ry i j))) ∧ tm.get 13 = some (.int .i64 (i : Int)) ∧ tm.get 14 = some (.int .i64 (j : Int))) → True := fun _ _ => trivial
        generalize hsn : stepG ss os both ry i j = sn at e4 hfin hMe
        generalize hrn : ry i j = rn at g4 hfin
        cases ch with
        | true =>
          try simp only [wpK_assoc]
          refine wpK_qn (wr := Tr.nil |>.set 70 0 |>.set 71 1 |>.set 72 2 |>.set 73 3 |>.set 74 4 |>.set 75 5 |>.set 76 6 |>.set 77 7 |>.set 78 8 |>.set 79 9 |>.set 80 10 |>.set 81 11 |>.set 82 12 |>.set 83 13 |>.set 84 14 |>.set 85 15 |>.set 86 16 |>.set 87 17 |>.set 12 18) (bits := Tr.nil.lay 0 [0, 1, 3, 3, 15, 31, 3, 127, 255, 3, 3, 1539, 3587, 3, 15875, 32259, 65535, 131071, 262143]) (ord := [0, 1, 2, 3, 4, 5, 6, 7, 8, 9, 10, 11, 12, 13, 14, 15, 16, 17, 18]) (by kernel_rfl) (by kernel_rfl) (by kernel_rfl) (fun G hG => by
            simp [h10, h11, h12, h13, h14, undef, vg, vr1, vr2, vr3, vx]
            exact hG) ?_
          simp only [leaves_normal, behind_normal]
          refine wpK_keep (fun tm' => tm'.get 0 = some (.int .i64 (n : Int)) ∧ tm'.get 1 = some (sv) ∧ tm'.get 2 = some (ov) ∧ tm'.get 3 = some (.bool both) ∧ tm'.get 9 = some (v) ∧ tm'.get 10 = some (x) ∧ tm'.get 11 = some (rowV m n) ∧ tm'.get 12 = some (.bool true) ∧ tm'.get 13 = some (.int .i64 (i : Int)) ∧ tm'.get 14 = some (.int .i64 (j : Int))) ⟨by simp [h0, h1, h2, h3, h9, h10, h11, h12, h13, h14], by simp [h0, h1, h2, h3, h9, h10, h11, h12, h13, h14], by simp [h0, h1, h2, h3, h9, h10, h11, h12, h13, h14], by simp [h0, h1, h2, h3, h9, h10, h11, h12, h13, h14], by simp [h0, h1, h2, h3, h9, h10, h11, h12, h13, h14], by simp [h0, h1, h2, h3, h9, h10, h11, h12, h13, h14], by simp [h0, h1, h2, h3, h9, h10, h11, h12, h13, h14], by simp [h0, h1, h2, h3, h9, h10, h11, h12, h13, h14], by simp [h0, h1, h2, h3, h9, h10, h11, h12, h13, h14], by simp [h0, h1, h2, h3, h9, h10, h11, h12, h13, h14]⟩ ?_
          rintro tm ⟨h0, h1, h2, h3, h9, h10, h11, h12, h13, h14⟩
          try simp only [wpK_assoc]
          refine wpK_reg1 (fun R hR => by simp [h14]; exact hR) ?_
          exact hI3 (n - (j + 1)) _ _ hk3 ⟨rfl, rfl, by simp [h0, h1, h2, h3, h9, h10, h11, h13], by simp [h0, h1, h2, h3, h9, h10, h11, h13], by simp [h0, h1, h2, h3, h9, h10, h11, h13], by simp [h0, h1, h2, h3, h9, h10, h11, h13], by simp [h0, h1, h2, h3, h9, h10, h11, h13], by simp [h0, h1, h2, h3, h9, h10, h11, h13], by simp [h0, h1, h2, h3, h9, h10, h11, h13], by simp [h0, h1, h2, h3, h9, h10, h11, h13], hOd.trans hOe, j + 1, _, by simp [hsj], by simp [h12], rfl, hj1, hMe, hfin⟩
        | false =>
          cases sn <;> cases rn
          all_goals
            try simp only [wpK_assoc]
            refine wpK_qn (wr := Tr.nil |>.set 70 0 |>.set 71 1 |>.set 72 2 |>.set 73 3 |>.set 74 4 |>.set 75 5 |>.set 76 6 |>.set 77 7 |>.set 78 8 |>.set 79 9 |>.set 80 10 |>.set 81 11 |>.set 82 12 |>.set 83 13 |>.set 84 14 |>.set 85 15 |>.set 86 16 |>.set 87 17 |>.set 12 18) (bits := Tr.nil.lay 0 [0, 1, 3, 3, 15, 31, 3, 127, 255, 3, 3, 1539, 3587, 3, 15875, 32259, 65535, 131071, 262143]) (ord := [0, 1, 2, 3, 4, 5, 6, 7, 8, 9, 10, 11, 12, 13, 14, 15, 16, 17, 18]) (by kernel_rfl) (by kernel_rfl) (by kernel_rfl) (fun G hG => by
              simp [h10, h11, h12, h13, h14, e1, e2, e3, e4, g1, g2, g3, g4, aGuard, aBinO, aEq, vg, vr1, vr2, vr3, vx]
              exact hG) ?_
            simp only [leaves_normal, behind_normal]
            try simp only [wpK_assoc]
            refine wpK_reg1 (fun R hR => by simp [h14]; exact hR) ?_
            exact hI3 (n - (j + 1)) _ _ hk3 ⟨rfl, rfl, by simp [h0, h1, h2, h3, h9, h10, h11, h13], by simp [h0, h1, h2, h3, h9, h10, h11, h13], by simp [h0, h1, h2, h3, h9, h10, h11, h13], by simp [h0, h1, h2, h3, h9, h10, h11, h13], by simp [h0, h1, h2, h3, h9, h10, h11, h13], by simp [h0, h1, h2, h3, h9, h10, h11, h13], by simp [h0, h1, h2, h3, h9, h10, h11, h13], by simp [h0, h1, h2, h3, h9, h10, h11, h13], hOd.trans hOe, j + 1, _, by simp [hsj], by simp; rfl, rfl, hj1, hMe, by simpa using hfin⟩
      · rintro A' W' hf; exact hf.elim
      · rintro ⟨tm, n, ds⟩ We ⟨hn, hd, h0, h1, h2, h3, h9, h10, h11, h13, hOe, ch, h12, hMe, hch⟩
        simp only at hn hd h0 h1 h2 h3 h9 h10 h11 h13
        subst hn; subst hd
        simp only at h12
        simp only [leaves_normal, behind_normal]
        try simp only [wpK_assoc]
        refine wpK_reg1 (fun R hR => by simp [h13]; exact hR) ?_
        refine hI2 (n - (i + 1)) _ _ ?_ ⟨rfl, rfl, by simp [h0, h1, h2, h3, h9, h10, h11], by simp [h0, h1, h2, h3, h9, h10, h11], by simp [h0, h1, h2, h3, h9, h10, h11], by simp [h0, h1, h2, h3, h9, h10, h11], by simp [h0, h1, h2, h3, h9, h10, h11], by simp [h0, h1, h2, h3, h9, h10, h11], by simp [h0, h1, h2, h3, h9, h10, h11], hOe, i + 1, ch, by simp [i64_succ i (by clear hch; omega)], by simp [h12], rfl, ?_, hMe, hch⟩
        · clear hch; omega
        · clear hch; omega
    · rintro A' W' hf; exact hf.elim
    · rintro ⟨tm, n, ds⟩ We ⟨hn, hd, h0, h1, h2, h3, h9, h10, h11, hOe, ch, h12, hMe, hch⟩
      simp only at hn hd h0 h1 h2 h3 h9 h10 h11
      subst hn; subst hd
      simp only at h12
      have hEWe : Ext W We := ⟨by have := hOe.1; omega, fun b hb _ => by rw [hOe.2 b (by omega) (by omega)]; exact hEWb.2 b hb (fun x => x)⟩
      have hRe : Rnds We W v n k (itG ss os both) K := hRn.only ((Only.wide hEb).trans hOe) (fun b hb _ hk => by omega)
      cases ch with
      | false =>
        try simp only [wpK_assoc]
        refine wpK_reg (fun R hR => by simp [h12]; exact hR) ?_
        try simp only [wpK_assoc]
        first | refine wpK_onT (by simp []) ?_ | refine wpK_outT (by simp []) ?_ | refine wpK_condT (by simp []) ?_ | refine wpK_endT (by simp []) ?_
        try simp only [wpK_assoc]
        refine wpK_reg (fun R hR => by simp [h9]; exact hR) ?_
        refine wpK_ret ?_
        refine hRt _ _ ⟨rfl, hEWe, k, v, K, by simp, hRe, hk5, fun p q hp hq => ?_, hdiff⟩
        apply Classical.byContradiction
        intro hne
        rw [hry] at hch
        have := hch.2 ⟨p, q, hp, hq, hne⟩
        cases this
      | true =>
        try simp only [wpK_assoc]
        refine wpK_reg (fun R hR => by simp [h12]; exact hR) ?_
        try simp only [wpK_assoc]
        first | refine wpK_onF (by simp []) ?_ | refine wpK_out (by simp []) ?_ | refine wpK_condF (by simp []) ?_ | refine wpK_endF (by simp []) (wpK_skip ?_) | refine wpK_endF (by simp []) ?_
        rw [hry] at hch hMe
        obtain ⟨p0, q0, hp0, hq0, hne⟩ := hch.1 rfl
        have hmK : ¬ K m := fun h => by have := hRn.up _ h; omega
        have hfK : ∀ i, i < n → ¬ K (f i) := fun i hi h => by have := hRn.up _ h; have := hfy i hi; omega
        have hX : BMat We (rowV m n) n (itG ss os both (k + 1)) (fun b => W.next ≤ b ∧ ¬ K b) := ⟨m, f, rfl, hMe, ⟨by omega, hmK⟩, fun i hi => ⟨by have := hfy i hi; omega, hfK i hi⟩⟩
        obtain ⟨v', Wg, p1, p2, p3⟩ := hRe.push hk5 (by have := hOe.1; omega) hX
        have hbs := bs94 We m n
        try simp only [wpK_assoc]
        refine wpK_reg1 (fun R hR => by simp [h9, h11, hbs, p1]; exact hR) ?_
        have hless := cntR_less (ss := ss) (os := os) (both := both) (r := itG ss os both k) ⟨p0, q0, hp0, hq0, hne⟩
        have hdf2 : ∀ d, d < k + 1 → ∃ p q, p < n ∧ q < n ∧ itG ss os both (d + 1) p q ≠ itG ss os both d p q := fun d hd => by
          by_cases e : d = k
          · subst e; exact ⟨p0, q0, hp0, hq0, hne⟩
          · exact hdiff d (by clear hdiff hch; omega)
        refine hI (cntR n (itG ss os both (k + 1))) _ _ (by rw [hq]; exact hless) ⟨rfl, rfl, by simp [h0, h1, h2, h3], by simp [h0, h1, h2, h3], by simp [h0, h1, h2, h3], by simp [h0, h1, h2, h3], ⟨?_, fun b hb _ => ?_⟩, k + 1, v', _, by simp, p3, rfl, ?_, hdf2⟩
        · have := p2.1; have := hEWe.1; clear hdiff hch hdf2; omega
        · rw [p2.2 b (Nat.lt_of_lt_of_le hb hEWe.1) (fun h => by have := hRn.low b h; clear hdiff hch hdf2; omega)]; exact hEWe.2 b hb (fun x => x)
        · clear hdiff hch hdf2
          have hless' : cntR n (itG ss os both (k + 1)) < cntR n (itG ss os both k) := hless
          omega
  · rintro A' W' ⟨h1, h2, h3⟩
    obtain ⟨k, v, K, h4, h5⟩ := h3
    exact ⟨.inr rfl, h1, [v], by simp [h4], h2, k, K, h5⟩
  · rintro A' W' hf; exact hf.elim

end Go.Proofs.YtfnigiojgbeklaaDoor

open Go Go.Eng
namespace Go.Proofs.YtfnigiojgbeklaaDoor
attribute [local congr] undef_congr WpK.congr WpS.congr WpL.congr WpC.congr WpF.congr gotS.congr callS.congr nextS.congr wantS.congr condS.congr
attribute [local irreducible] WpK
attribute [local simp] WpDr_nil WpDr_cons atS_some dwantS_true dwantS_false kindS_light kindS_float kindS_heavy lightS_value floatS_some heavyS_value heavyS_skip heavyS_enter dcallS_some doneS_eq
  isLight isFloat isPlain dLook testBit_dec dChain dLights_nil dLights_skip dLights_one dLight_nil dLight_cons dFreshes_nil dFreshes_one oneF_none oneF_some dFresh_nil dFresh_cons oneL_some oneW_true oneW_false sameV_value dPut dMay valEq arrEq listEq List.getElem?_cons Tr.get_nil dEnd
attribute [local simp] WpS_nil WpS_cons isDefer undef_false wantS_true wantS_false nextS_value nextS_skip nextS_enter callS_some gotS_some aWanted aOp aEvalF aEval opMove opAssign opPick aVal flat flat1 AAct.put opBinOp opConvert opIndex Tr.get_set Tr.get_lay aBin aResults tupled
  aCall aVals aCallB blt_dec ble_dec beq_dec aBinI_add aBinI_sub aBinI_lss aBinI_leq aBinI_gtr aBinI_geq aBinI_eql aBinI_neq index_str len_str len_slice Nat.beq_refl Nat.beq_refl
  opBox opLoad opFieldAddr opIndexAddr acells aAddr opExtract aExtract opUnOp opAlloc opStore opMakeInterface opNilCheck opBuild aParts opBuildSlice aValW
attribute [local simp] und2 und3 und4 und5 und9 und12 und13 und21 und22 und23 und24 und26 und27 und28 und30 und31 und34 und40 und43 und48 und49 und50 und54 und70 und71 und72 und79 und81 und86 und88 und89 und94 und99 und108 und109 und110 und118 und119 und120 und121 und123 und134 und143 und144 und145 und146 und148 und149 und150 und153 und154 und155 und157 und165 und167 und168 und178 und179 und187 und188 und189 und190 und191 und192 und193 und199 und214 und218 field13_0 field13_1 field23_0 field23_1 field24_0 field24_1 field27_0 field27_1 field28_0 field28_1 field49_0 field49_1 field49_2 field50_0 field50_1 field50_2 field70_0 field70_1 field70_2 field71_0 field71_1 field71_2 field72_0 field72_1 field72_2 field108_0 field108_1 field108_2 field109_0 field109_1 field109_2 field120_0 field120_1 field121_0 field121_1 field145_0 field145_1 field145_2 field146_0 field146_1 field146_2 field154_0 field154_1 field155_0 field155_1 field178_0 field178_1 field178_2 field178_3 field179_0 field179_1 field179_2 field179_3 field188_0 field188_1 field189_0 field189_1
set_option maxHeartbeats 4000000
set_option linter.unusedSimpArgs false
set_option linter.unusedVariables false
theorem last_wp {W W0 : AW} {v : Value} {n k : Nat} {R : Nat → Nat → Nat → Bool} {K : Nat → Prop} (h : Rnds W W0 v n k R K) (hk : k < 100000) : WpF T0 41 [v] W (fun u W' => W' = W ∧ BMat W u n (R k) (fun b => W0.next ≤ b ∧ ¬ K b)) := by
  refine wpF fun41 rfl ?_
  obtain ⟨Ar, cr, hv⟩ := h.len
  have ll : aLen T0 W 94 v = some (.int .i64 ((k + 1 : Nat) : Int)) := by rw [hv]; exact len_slice und94 _ _ _
  have w1 : IntKind.i64.wrap (k : Int) = (k : Int) := i64_in (by omega)
  obtain ⟨b, o, x, a1, a2, hB⟩ := h.at (d := k) (Nat.le_refl _)
  try simp only [wpK_assoc]
  refine wpK_reg (fun R hR => by simp []; exact hR) ?_
  try simp only [wpK_assoc]
  refine wpK_reg (fun R hR => by simp [ll, w1, a1, a2]; exact hR) ?_
  exact wpK_ret ⟨.inr rfl, rfl, [x], by simp, rfl, hB⟩
/-! ### rows of numbers, written in place -/
def numsL (n : Nat) (g : Nat → Int) : List Value := (List.range n).map fun j => .int .i64 (g j)
theorem numsL_len (n : Nat) (g : Nat → Int) : (numsL n g).length = n := by simp [numsL]
theorem numsL_at {n j : Nat} (g : Nat → Int) (h : j < n) : (numsL n g)[j]? = some (.int .i64 (g j)) := by
  simp only [numsL, List.getElem?_map, List.getElem?_range h]; rfl
def updI (g : Nat → Int) (j : Nat) (x : Int) : Nat → Int := fun i => if i = j then x else g i
theorem numsL_set {n j : Nat} (g : Nat → Int) (x : Int) : (numsL n g).set j (.int .i64 x) = numsL n (updI g j x) := by
  apply List.ext_getElem?
  intro i
  rw [List.getElem?_set]
  by_cases hi : i < n
  · rw [numsL_at _ hi, numsL_at _ hi, numsL_len]
    by_cases e : j = i
    · subst e; rw [if_pos rfl, if_pos hi]; simp [updI]
    · rw [if_neg e]; simp only [updI, if_neg (Ne.symm e)]
  · rw [List.getElem?_eq_none (by rw [numsL_len]; omega), List.getElem?_eq_none (by rw [numsL_len]; omega)]
    split
    · rw [numsL_len, if_neg (by omega)]
    · rfl
abbrev NumsAt (W : AW) (b n : Nat) (g : Nat → Int) : Prop := Var W b 3 (numsL n g)
theorem NumsAt.put {W : AW} {b n : Nat} {g : Nat → Int} (h : NumsAt W b n g) {j : Nat} (hj : j < n) (x : Int) : ∃ W', aStoreVar T0 W 3 b j (.int .i64 x) = some W' ∧ W'.next = W.next ∧ Only (fun c => c = b) W W' ∧ NumsAt W' b n (updI g j x) := by
  obtain ⟨W', g1, g2, g3, g4⟩ := Var.store h (T := T0) (t := 3) (v := .int .i64 x) (o := j) inf3 (by rw [is3]; rfl) (by rw [numsL_len]; show j + 1 ≤ n; omega) rfl
  refine ⟨W', g1, g2, g3, ?_⟩
  have e : (numsL n g).take j ++ acells (.int .i64 x) ++ (numsL n g).drop (j + (acells (.int .i64 x)).length) = (numsL n g).set j (.int .i64 x) := by
    rw [List.set_eq_take_append_cons_drop, if_pos (by rw [numsL_len]; omega)]
    simp [acells]
  rw [e, numsL_set] at g4; exact g4
theorem NumsAt.load {W : AW} {b n : Nat} {g : Nat → Int} (h : NumsAt W b n g) {j : Nat} (hj : j < n) : aLoadVar T0 W 3 b j = some (.int .i64 (g j)) := Var.load1 h (T := T0) und3 rfl (numsL_at g hj)
theorem ix30 {b n j : Nat} (hj : j < n) : aIndexAddr T0 30 (rowV b n) (.int .i64 (j : Int)) = some (.pointer (some ⟨b, j, none⟩)) := by
  have := indexAddr_slice (T := T0) (t := 30) (e := 3) (sz := 1) und30 sz3 (b := b) (o := 0) (len := n) (c := 2 * n) (i := j) (k := .i64) hj
  rw [Nat.zero_add, Nat.mul_one] at this; exact this
theorem mk30 (W : AW) (n : Nat) (hn : n ≤ 64) : aMakeSlice T0 W 30 (.int .i64 (n : Int)) (.int .i64 (n : Int)) = some (rowV W.next n, W.newCells 3 (numsL n (fun _ => 0))) := by
  show aMakeSlice T0 W 30 (.int .i64 (Int.ofNat n)) (.int .i64 (Int.ofNat n)) = _
  have h1 : n ≤ 4611686018427387904 := by omega
  have h2 : Tryd.t3.bytes * n ≤ 281474976710656 := by rw [by3]; omega
  have e : numsL n (fun _ => 0) = List.replicate n (.int .i64 0) := by
    apply List.ext_getElem?
    intro i
    by_cases hi : i < n
    · rw [numsL_at _ hi, List.getElem?_replicate, if_pos hi]
    · rw [List.getElem?_eq_none (by rw [numsL_len]; omega), List.getElem?_eq_none (by simp; omega)]
  rw [e, ← rep_one _ rfl n]
  simp only [aMakeSlice, und30, inf3, z3, h1, h2, is3, ble_dec, acells, List.length_cons, List.length_nil, Nat.beq_refl, Nat.le_refl, decide_true]
  rfl
/-- i is related to none before it -/
def isNew (r : Nat → Nat → Bool) (i : Nat) : Prop := ∀ k, k < i → r i k = false
open Classical in
noncomputable def newN (r : Nat → Nat → Bool) : Nat → Nat
  | 0 => 0
  | i + 1 => newN r i + (if isNew r i then 1 else 0)
/-- the numbers of the first i -/
def NumTo (r : Nat → Nat → Bool) (g : Nat → Int) (i : Nat) : Prop := ∀ j, j < i → 0 ≤ g j ∧ ((isNew r j ∧ g j = (newN r j : Int)) ∨ ∃ k, k < j ∧ r j k = true ∧ (∀ k', k' < k → r j k' = false) ∧ g j = g k)
theorem NumTo.upd {r : Nat → Nat → Bool} {g : Nat → Int} {i : Nat} (h : NumTo r g i) (x : Int) : NumTo r (updI g i x) i := fun j hj => by
  obtain ⟨h1, h2⟩ := h j hj
  have e : updI g i x j = g j := by simp only [updI, if_neg (show ¬ j = i by omega)]
  rw [e]
  refine ⟨h1, ?_⟩
  rcases h2 with h2 | ⟨k, h3, h4, h5, h6⟩
  · exact .inl h2
  · exact .inr ⟨k, h3, h4, h5, by simp only [updI, if_neg (show ¬ k = i by omega)]; exact h6⟩
theorem newN_le (r : Nat → Nat → Bool) : ∀ i, newN r i ≤ i
  | 0 => Nat.le_refl _
  | i + 1 => by
    have := newN_le r i
    simp only [newN]
    split <;> omega
open Classical in
theorem numbered_wp {W : AW} {v : Value} {n : Nat} {r : Nat → Nat → Bool} {K : Nat → Prop} (h : BMat W v n r K) (hn : n ≤ 64) :
    WpF T0 43 [v] W (fun u W' => Ext W W' ∧ ∃ b g, u = rowV b n ∧ NumsAt W' b n g ∧ W.next ≤ b ∧ NumTo r g n) := by
  refine wpF fun43 rfl ?_
  obtain ⟨m, f, hve, hM, _, _⟩ := h
  have ll : ∀ W', aLen T0 W' 79 v = some (.int .i64 n) := fun W' => by rw [hve]; exact len_slice und79 _ _ _
  have mk := mk30 W n hn
  obtain ⟨W1, hW1, hE1, hN1, hn1⟩ : ∃ W1, W1 = W.newCells 3 (numsL n (fun _ => 0)) ∧ Ext W W1 ∧ NumsAt W1 W.next n (fun _ => 0) ∧ W1.next = W.next + 1 := ⟨_, rfl, .newCells _ _ _, Var.new _ _ _, rfl⟩
  rw [← hW1] at mk
  try simp only [wpK_assoc]
  refine wpK_reg (fun R hR => by simp []; exact hR) ?_
  try simp only [wpK_assoc]
  refine wpK_reg (fun R hR => by simp [ll, opMakeSlice, mk]; exact hR) ?_
  try simp only [wpK_assoc]
  refine wpK_reg (fun R hR => by simp []; exact hR) ?_
  try simp only [wpK_assoc]
  refine wpK_reg (fun R hR => by simp []; exact hR) ?_
  obtain ⟨pb, hpb⟩ : ∃ p, p = W.next := ⟨_, rfl⟩
  rw [← hpb] at hN1
  refine wpK_keep (fun tm' => tm'.get 0 = some (v) ∧ tm'.get 3 = some (rowV pb n) ∧ tm'.get 4 = some (.int .i64 0) ∧ tm'.get 5 = some (.int .i64 0)) ⟨by simp [hpb], by simp [hpb], by simp [hpb], by simp [hpb]⟩ ?_
  rintro tm ⟨h0, h3, h4, h5⟩
  try simp only [wpK_assoc]
  refine wpK_while (I := fun q A' W' => A'.n = 57 ∧ A'.defers = [] ∧ A'.tmps.get 0 = some (v) ∧ A'.tmps.get 3 = some (rowV pb n) ∧ Only (fun b => b = pb) W1 W' ∧ ∃ (i : Nat) (g : Nat → Int), A'.tmps.get 5 = some (.int .i64 (i : Int)) ∧ A'.tmps.get 4 = some (.int .i64 (newN r i : Nat)) ∧ q = n - i ∧ i ≤ n ∧ NumsAt W' pb n g ∧ NumTo r g i)
    (J := fun A' W' => A'.n = 57 ∧ A'.defers = [] ∧ A'.tmps.get 0 = some (v) ∧ A'.tmps.get 3 = some (rowV pb n) ∧ Only (fun b => b = pb) W1 W' ∧ ∃ g, NumsAt W' pb n g ∧ NumTo r g n) (Rt := fun _ _ => False) (k := n) ?_ ?_ ?_ ?_
  · exact ⟨rfl, rfl, by simp [h0, h3], by simp [h0, h3], .refl _ _, 0, _, by simp [h5], by simp [h4, newN], rfl, by omega, hN1, fun j hj => by omega⟩
  · rintro q ⟨tm, n, ds⟩ Wa ⟨hn, hd, h0, h3, hOa, i, g, h5, h4, hq, hil, hNa, hto⟩ Q' hJ hRt hI
    simp only at hn hd h0 h3
    subst hn; subst hd
    simp only at h5 h4
    have na := hOa.1
    by_cases hlt : i < n
    case neg =>
      have e : i = n := by omega
      subst e
      try simp only [wpK_assoc]
      refine wpK_reg (fun R hR => by simp [h0, h5, ll]; exact hR) ?_
      try simp only [wpK_assoc]
      first | refine wpK_onF (by simp []) ?_ | refine wpK_out (by simp []) ?_ | refine wpK_condF (by simp []) ?_ | refine wpK_endF (by simp []) (wpK_skip ?_) | refine wpK_endF (by simp []) ?_
      exact hJ _ _ ⟨rfl, rfl, by simp [h0, h3], by simp [h0, h3], hOa, g, hNa, hto⟩
    have hlt' : (i : Int) < n := by omega
    try simp only [wpK_assoc]
    refine wpK_reg (fun R hR => by simp [h0, h5, ll, hlt']; exact hR) ?_
    try simp only [wpK_assoc]
    first | refine wpK_onT (by simp [hlt]) ?_ | refine wpK_outT (by simp [hlt]) ?_ | refine wpK_condT (by simp [hlt]) ?_ | refine wpK_endT (by simp [hlt]) ?_
    have ixi := ix30 (b := pb) hlt
    obtain ⟨Wb, s1, s2, s3, s4⟩ := hNa.put hlt (-1)
    have hlen := newN_le r i
    refine wpK_block ?_
    try simp only [wpK_assoc]
    refine wpK_reg (fun R hR => by simp [h3, h5, ixi, s1]; exact hR) ?_
    try simp only [wpK_assoc]
    refine wpK_reg (fun R hR => by simp []; exact hR) ?_
    refine wpK_keep (fun tm' => tm'.get 0 = some (v) ∧ tm'.get 3 = some (rowV pb n) ∧ tm'.get 4 = some (.int .i64 (newN r i : Nat)) ∧ tm'.get 5 = some (.int .i64 (i : Int)) ∧ tm'.get 6 = some (.int .i64 0)) ⟨by simp [h0, h3, h4, h5], by simp [h0, h3, h4, h5], by simp [h0, h3, h4, h5], by simp [h0, h3, h4, h5], by simp [h0, h3, h4, h5]⟩ ?_
    rintro tm ⟨h0, h3, h4, h5, h6⟩
    have hMx : ∀ {W' : AW}, Only (fun b => b = pb) W1 W' → PMat W' m n n f r := fun hO => (hM.ext hE1).only hO (by have := hM.outer.1; omega) (fun i hi => by have := (hM.row i hi).1; omega)
    try simp only [wpK_assoc]
    refine wpK_while (I := fun q A' W' => A'.n = 57 ∧ A'.defers = [] ∧ A'.tmps.get 0 = some (v) ∧ A'.tmps.get 3 = some (rowV pb n) ∧ A'.tmps.get 4 = some (.int .i64 (newN r i : Nat)) ∧ A'.tmps.get 5 = some (.int .i64 (i : Int)) ∧ Only (fun b => b = pb) W1 W' ∧ ∃ (k : Nat) (g : Nat → Int), A'.tmps.get 6 = some (.int .i64 (k : Int)) ∧ q = n - k ∧ k ≤ i ∧ NumsAt W' pb n g ∧ NumTo r g i ∧ ((g i = -1 ∧ ∀ k', k' < k → r i k' = false) ∨ (0 ≤ g i ∧ ∃ k1, k1 < i ∧ r i k1 = true ∧ (∀ k', k' < k1 → r i k' = false) ∧ g i = g k1)))
      (J := fun A' W' => A'.n = 57 ∧ A'.defers = [] ∧ A'.tmps.get 0 = some (v) ∧ A'.tmps.get 3 = some (rowV pb n) ∧ A'.tmps.get 4 = some (.int .i64 (newN r i : Nat)) ∧ A'.tmps.get 5 = some (.int .i64 (i : Int)) ∧ Only (fun b => b = pb) W1 W' ∧ ∃ (g : Nat → Int), NumsAt W' pb n g ∧ NumTo r g i ∧ ((g i = -1 ∧ isNew r i) ∨ (0 ≤ g i ∧ ∃ k1, k1 < i ∧ r i k1 = true ∧ (∀ k', k' < k1 → r i k' = false) ∧ g i = g k1))) (Rt := fun _ _ => False) (k := n) ?_ ?_ ?_ ?_
    · exact ⟨rfl, rfl, by simp [h0, h3, h4, h5], by simp [h0, h3, h4, h5], by simp [h0, h3, h4, h5], by simp [h0, h3, h4, h5], hOa.trans s3, 0, _, by simp [h6], rfl, by omega, s4, hto.upd _, .inl ⟨by simp [updI], fun k hk => by omega⟩⟩
    · rintro q ⟨tm, n, ds⟩ Wc ⟨hn, hd, h0, h3, h4, h5, hOc, k, g, h6, hq, hki, hNc, hto, hst⟩ Q2 hJ2 hRt2 hI2
      simp only at hn hd h0 h3 h4 h5
      subst hn; subst hd
      simp only at h6
      by_cases hkt : k < i
      case neg =>
        have e : k = i := by omega
        subst e
        try simp only [wpK_assoc]
        refine wpK_reg (fun R hR => by simp [h5, h6, undef]; exact hR) ?_
        try simp only [wpK_assoc]
        first | refine wpK_onF (by simp []) ?_ | refine wpK_out (by simp []) ?_ | refine wpK_condF (by simp []) ?_ | refine wpK_endF (by simp []) (wpK_skip ?_) | refine wpK_endF (by simp []) ?_
        exact hJ2 _ _ ⟨rfl, rfl, by simp [h0, h3, h4, h5], by simp [h0, h3, h4, h5], by simp [h0, h3, h4, h5], by simp [h0, h3, h4, h5], hOc, g, hNc, hto, hst⟩
      have hkt' : (k : Int) < i := by omega
      have lg := hNc.load hlt
      rcases hst with ⟨hg1, hno⟩ | ⟨hg0, hst⟩
      case inr =>
        have hg0' : ¬ g i < 0 := by omega
        try simp only [wpK_assoc]
        refine wpK_reg (fun R hR => by simp [h3, h5, h6, hkt', ixi, lg, hg0']; exact hR) ?_
        try simp only [wpK_assoc]
        first | refine wpK_onF (by simp [hkt, hg0']) ?_ | refine wpK_out (by simp [hkt, hg0']) ?_ | refine wpK_condF (by simp [hkt, hg0']) ?_ | refine wpK_endF (by simp [hkt, hg0']) (wpK_skip ?_) | refine wpK_endF (by simp [hkt, hg0']) ?_
        exact hJ2 _ _ ⟨rfl, rfl, by simp [h0, h3, h4, h5], by simp [h0, h3, h4, h5], by simp [h0, h3, h4, h5], by simp [h0, h3, h4, h5], hOc, g, hNc, hto, .inr ⟨hg0, hst⟩⟩
      have hg1' : g i < 0 := by omega
      rw [hg1] at lg
      try simp only [wpK_assoc]
      refine wpK_reg (fun R hR => by simp [h3, h5, h6, hkt', ixi, lg]; exact hR) ?_
      try simp only [wpK_assoc]
      first | refine wpK_onT (by simp [hkt]) ?_ | refine wpK_outT (by simp [hkt]) ?_ | refine wpK_condT (by simp [hkt]) ?_ | refine wpK_endT (by simp [hkt]) ?_
      have hMc := hMx hOc
      obtain ⟨a1, a2⟩ := hMc.at hlt (Nat.le_refl _)
      have a3 := row_ix (b := f i) (show k < n by omega)
      have a4 := hMc.cell hlt (show k < n by omega)
      rw [← hve] at a1
      refine wpK_block ?_
      cases hr : r i k with
      | false =>
        rw [hr] at a4
        try simp only [wpK_assoc]
        refine wpK_reg (fun R hR => by simp [h0, h5, h6, a1, a2, a3, a4]; exact hR) ?_
        try simp only [wpK_assoc]
        first | refine wpK_onF (by simp []) ?_ | refine wpK_out (by simp []) ?_ | refine wpK_condF (by simp []) ?_ | refine wpK_endF (by simp []) (wpK_skip ?_) | refine wpK_endF (by simp []) ?_
        simp only [leaves_normal, behind_normal]
        refine wpK_keep (fun tm' => tm'.get 0 = some (v) ∧ tm'.get 3 = some (rowV pb n) ∧ tm'.get 4 = some (.int .i64 (newN r i : Nat)) ∧ tm'.get 5 = some (.int .i64 (i : Int)) ∧ tm'.get 6 = some (.int .i64 (k : Int))) ⟨by simp [h0, h3, h4, h5, h6], by simp [h0, h3, h4, h5, h6], by simp [h0, h3, h4, h5, h6], by simp [h0, h3, h4, h5, h6], by simp [h0, h3, h4, h5, h6]⟩ ?_
        rintro tm ⟨h0, h3, h4, h5, h6⟩
        try simp only [wpK_assoc]
        refine wpK_reg1 (fun R hR => by simp [h6]; exact hR) ?_
        exact hI2 (n - (k + 1)) _ _ (by omega) ⟨rfl, rfl, by simp [h0, h3, h4, h5], by simp [h0, h3, h4, h5], by simp [h0, h3, h4, h5], by simp [h0, h3, h4, h5], hOc, k + 1, g, by simp [i64_succ k (by omega)], rfl, by omega, hNc, hto, .inl ⟨hg1, fun k' hk' => by
          by_cases e : k' = k
          · rw [e]; exact hr
          · exact hno k' (by omega)⟩⟩
      | true =>
        rw [hr] at a4
        have ixk := ix30 (b := pb) (show k < n by omega)
        have lk := hNc.load (show k < n by omega)
        obtain ⟨Wd, d1, d2, d3, d4⟩ := hNc.put hlt (g k)
        try simp only [wpK_assoc]
        refine wpK_reg (fun R hR => by simp [h0, h5, h6, a1, a2, a3, a4]; exact hR) ?_
        try simp only [wpK_assoc]
        first | refine wpK_onT (by simp []) ?_ | refine wpK_outT (by simp []) ?_ | refine wpK_condT (by simp []) ?_ | refine wpK_endT (by simp []) ?_
        try simp only [wpK_assoc]
        refine wpK_reg1 (fun R hR => by simp [h3, h5, h6, ixi, ixk, lk, d1]; exact hR) ?_
        simp only [leaves_normal, behind_normal]
        refine wpK_keep (fun tm' => tm'.get 0 = some (v) ∧ tm'.get 3 = some (rowV pb n) ∧ tm'.get 4 = some (.int .i64 (newN r i : Nat)) ∧ tm'.get 5 = some (.int .i64 (i : Int)) ∧ tm'.get 6 = some (.int .i64 (k : Int))) ⟨by simp [h0, h3, h4, h5, h6], by simp [h0, h3, h4, h5, h6], by simp [h0, h3, h4, h5, h6], by simp [h0, h3, h4, h5, h6], by simp [h0, h3, h4, h5, h6]⟩ ?_
        rintro tm ⟨h0, h3, h4, h5, h6⟩
        try simp only [wpK_assoc]
        refine wpK_reg1 (fun R hR => by simp [h6]; exact hR) ?_
        have hgk := (hto k hkt).1
        have e1 : updI g i (g k) i = g k := by simp [updI]
        have e2 : updI g i (g k) k = g k := by simp only [updI, if_neg (show ¬ k = i by omega)]
        exact hI2 (n - (k + 1)) _ _ (by omega) ⟨rfl, rfl, by simp [h0, h3, h4, h5], by simp [h0, h3, h4, h5], by simp [h0, h3, h4, h5], by simp [h0, h3, h4, h5], hOc.trans d3, k + 1, _, by simp [i64_succ k (by omega)], rfl, by omega, d4, hto.upd _, .inr ⟨by rw [e1]; exact hgk, k, hkt, hr, hno, by rw [e1, e2]⟩⟩
    · rintro A' W' hf; exact hf.elim
    · rintro ⟨tm, n, ds⟩ Wc ⟨hn, hd, h0, h3, h4, h5, hOc, g, hNc, hto, hst⟩
      simp only at hn hd h0 h3 h4 h5
      subst hn; subst hd
      have lg := hNc.load hlt
      rcases hst with ⟨hg1, hno⟩ | ⟨hg0, k1, hk1, hk2, hk3, hk4⟩
      · rw [hg1] at lg
        obtain ⟨Wd, d1, d2, d3, d4⟩ := hNc.put hlt ((newN r i : Nat) : Int)
        have hnn : newN r (i + 1) = newN r i + 1 := by simp only [newN]; rw [if_pos hno]
        have hs4 := i64_succ (newN r i) (by omega)
        try simp only [wpK_assoc]
        refine wpK_reg (fun R hR => by simp [h3, h5, ixi, lg]; exact hR) ?_
        try simp only [wpK_assoc]
        first | refine wpK_onT (by simp []) ?_ | refine wpK_outT (by simp []) ?_ | refine wpK_condT (by simp []) ?_ | refine wpK_endT (by simp []) ?_
        try simp only [wpK_assoc]
        refine wpK_reg (fun R hR => by simp [h3, h4, h5, ixi, d1]; exact hR) ?_
        try simp only [wpK_assoc]
        refine wpK_reg1 (fun R hR => by simp [h4]; exact hR) ?_
        simp only [leaves_normal, behind_normal]
        refine wpK_keep (fun tm' => tm'.get 0 = some (v) ∧ tm'.get 3 = some (rowV pb n) ∧ tm'.get 4 = some (.int .i64 (newN r (i + 1) : Nat)) ∧ tm'.get 5 = some (.int .i64 (i : Int))) ⟨by simp [h0, h3, h4, h5, hs4, hnn], by simp [h0, h3, h4, h5, hs4, hnn], by simp [h0, h3, h4, h5, hs4, hnn], by simp [h0, h3, h4, h5, hs4, hnn]⟩ ?_
        rintro tm ⟨h0, h3, h4, h5⟩
        try simp only [wpK_assoc]
        refine wpK_reg1 (fun R hR => by simp [h5]; exact hR) ?_
        refine hI (n - (i + 1)) _ _ (by omega) ⟨rfl, rfl, by simp [h0, h3], by simp [h0, h3], hOc.trans d3, i + 1, _, by simp [i64_succ i (by omega)], by simp [h4], rfl, by omega, d4, fun j hj => ?_⟩
        by_cases e : j = i
        · subst e
          exact ⟨by simp [updI], .inl ⟨hno, by simp [updI]⟩⟩
        · exact hto.upd _ j (by omega)
      · have hg0' : ¬ g i < 0 := by omega
        have hnn : newN r (i + 1) = newN r i := by
          simp only [newN]; rw [if_neg (fun hno => by have := hno k1 hk1; rw [hk2] at this; cases this)]; rfl
        try simp only [wpK_assoc]
        refine wpK_reg (fun R hR => by simp [h3, h5, ixi, lg, hg0']; exact hR) ?_
        try simp only [wpK_assoc]
        first | refine wpK_onF (by simp [hg0']) ?_ | refine wpK_out (by simp [hg0']) ?_ | refine wpK_condF (by simp [hg0']) ?_ | refine wpK_endF (by simp [hg0']) (wpK_skip ?_) | refine wpK_endF (by simp [hg0']) ?_
        simp only [leaves_normal, behind_normal]
        refine wpK_keep (fun tm' => tm'.get 0 = some (v) ∧ tm'.get 3 = some (rowV pb n) ∧ tm'.get 4 = some (.int .i64 (newN r (i + 1) : Nat)) ∧ tm'.get 5 = some (.int .i64 (i : Int))) ⟨by simp [h0, h3, h4, h5, hnn], by simp [h0, h3, h4, h5, hnn], by simp [h0, h3, h4, h5, hnn], by simp [h0, h3, h4, h5, hnn]⟩ ?_
        rintro tm ⟨h0, h3, h4, h5⟩
        try simp only [wpK_assoc]
        refine wpK_reg1 (fun R hR => by simp [h5]; exact hR) ?_
        refine hI (n - (i + 1)) _ _ (by omega) ⟨rfl, rfl, by simp [h0, h3], by simp [h0, h3], hOc, i + 1, g, by simp [i64_succ i (by omega)], by simp [h4], rfl, by omega, hNc, fun j hj => ?_⟩
        by_cases e : j = i
        · subst e
          exact ⟨hg0, .inr ⟨k1, hk1, hk2, hk3, hk4⟩⟩
        · exact hto j (by omega)
  · rintro A' W' hf; exact hf.elim
  · rintro ⟨tm, n, ds⟩ Wz ⟨hn, hd, h0, h3, hOz, g, hNz, hto⟩
    simp only at hn hd h0 h3
    subst hn; subst hd
    try simp only [wpK_assoc]
    refine wpK_reg (fun R hR => by simp [h3]; exact hR) ?_
    exact wpK_ret ⟨.inr rfl, rfl, [rowV pb n], by simp, ⟨by have := hOz.1; omega, fun b hb _ => by rw [hOz.2 b (by omega) (by omega)]; exact hE1.2 b hb (fun x => x)⟩, pb, g, rfl, hNz, by omega, hto⟩
open Classical in
theorem refClasses_wp {W : AW} {v : Value} {n L : Nat} {ss : List Tri} (h : StepR W v ss) (hg : GoodS n L ss) (hl : ss.length < 1000000) (hn : n ≤ 64) :
    WpF T0 17 [.agg ⟨[.int .i64 (n : Int), v]⟩] W (fun u W' => Ext W W' ∧ ∃ b g k, u = rowV b n ∧ NumsAt W' b n g ∧ NumTo (itG ss ss true k) g n ∧ (∀ p q, p < n → q < n → itG ss ss true (k + 1) p q = itG ss ss true k p q)) := by
  refine wpF fun17 rfl ?_
  obtain ⟨W1, hW1, hE1, hV⟩ : ∃ W1, W1 = W.newCells 24 [.int .i64 (n : Int), v] ∧ Ext W W1 ∧ Var W1 W.next 24 [.int .i64 (n : Int), v] := ⟨_, rfl, .newCells _ _ _, Var.new _ _ _⟩
  have l0 := hV.load1 (T := T0) und3 rfl (j := 0) (v := .int .i64 (n : Int)) rfl
  have l1 := hV.load1 (T := T0) und22 rfl (j := 1) (v := v) rfl
  have hS := h.ext hE1
  try simp only [wpK_assoc]
  refine wpK_reg (fun R hR => by simp [← hW1]; exact hR) ?_
  try simp only [wpK_assoc]
  refine wpK_x3 (P := fun v1 v2 v3 W' => Ext W W' ∧ ∃ b g k, v3 = rowV b n ∧ NumsAt W' b n g ∧ NumTo (itG ss ss true k) g n ∧ (∀ p q, p < n → q < n → itG ss ss true (k + 1) p q = itG ss ss true k p q)) (fun R hR => by
    simp [l0, l1, aEnter, fun42, short_other, aCallV]; rw [callS_none]
    refine (greatest_wp hS hS hg hg hl hl hn true).mono ?_
    rintro v1 W2 ⟨hE2, k, K, hRn, hk, hfix, _⟩
    simp [aEnter, fun41, short_other, aCallV]; rw [callS_none]
    refine (last_wp hRn hk).mono ?_
    rintro v2 W3 ⟨rfl, hB⟩
    simp [aEnter, fun43, short_other, aCallV]; rw [callS_none]
    refine (numbered_wp hB hn).mono ?_
    rintro v3 W4 ⟨hE4, b, g, hv3, hN, _, hto⟩
    simp
    exact hR v1 v2 v3 W4 (And.intro ((hE1.trans hE2).trans hE4) ⟨b, g, k, hv3, hN, hto, hfix⟩)) ?_
  rintro v1 v2 v3 W' ⟨hE, b, g, k, rfl, h1, h2, h3⟩
  exact wpK_ret ⟨.inr rfl, rfl, [rowV b n], by simp, hE, b, g, k, rfl, h1, h2, h3⟩

end Go.Proofs.YtfnigiojgbeklaaDoor

open Go Go.Eng
namespace Go.Proofs.YtfnigiojgbeklaaDoor
attribute [local congr] undef_congr WpK.congr WpS.congr WpL.congr WpC.congr WpF.congr gotS.congr callS.congr nextS.congr wantS.congr condS.congr
attribute [local irreducible] WpK
attribute [local simp] WpDr_nil WpDr_cons atS_some dwantS_true dwantS_false kindS_light kindS_float kindS_heavy lightS_value floatS_some heavyS_value heavyS_skip heavyS_enter dcallS_some doneS_eq
  isLight isFloat isPlain dLook testBit_dec dChain dLights_nil dLights_skip dLights_one dLight_nil dLight_cons dFreshes_nil dFreshes_one oneF_none oneF_some dFresh_nil dFresh_cons oneL_some oneW_true oneW_false sameV_value dPut dMay valEq arrEq listEq List.getElem?_cons Tr.get_nil dEnd
attribute [local simp] WpS_nil WpS_cons isDefer undef_false wantS_true wantS_false nextS_value nextS_skip nextS_enter callS_some gotS_some aWanted aOp aEvalF aEval opMove opAssign opPick aVal flat flat1 AAct.put opBinOp opConvert opIndex Tr.get_set Tr.get_lay aBin aResults tupled
  aCall aVals aCallB blt_dec ble_dec beq_dec aBinI_add aBinI_sub aBinI_lss aBinI_leq aBinI_gtr aBinI_geq aBinI_eql aBinI_neq index_str len_str len_slice Nat.beq_refl Nat.beq_refl
  opBox opLoad opFieldAddr opIndexAddr acells aAddr opExtract aExtract opUnOp opAlloc opStore opMakeInterface opNilCheck opBuild aParts opBuildSlice aValW
attribute [local simp] und2 und3 und4 und5 und9 und12 und13 und21 und22 und23 und24 und26 und27 und28 und30 und31 und34 und40 und43 und48 und49 und50 und54 und70 und71 und72 und79 und81 und86 und88 und89 und94 und99 und108 und109 und110 und118 und119 und120 und121 und123 und134 und143 und144 und145 und146 und148 und149 und150 und153 und154 und155 und157 und165 und167 und168 und178 und179 und187 und188 und189 und190 und191 und192 und193 und199 und214 und218 field13_0 field13_1 field23_0 field23_1 field24_0 field24_1 field27_0 field27_1 field28_0 field28_1 field49_0 field49_1 field49_2 field50_0 field50_1 field50_2 field70_0 field70_1 field70_2 field71_0 field71_1 field71_2 field72_0 field72_1 field72_2 field108_0 field108_1 field108_2 field109_0 field109_1 field109_2 field120_0 field120_1 field121_0 field121_1 field145_0 field145_1 field145_2 field146_0 field146_1 field146_2 field154_0 field154_1 field155_0 field155_1 field178_0 field178_1 field178_2 field178_3 field179_0 field179_1 field179_2 field179_3 field188_0 field188_1 field189_0 field189_1
set_option maxHeartbeats 4000000
set_option linter.unusedSimpArgs false
set_option linter.unusedVariables false
theorem one_sets {n p : Nat} {R : Nat → Nat → Prop} {g : Nat → Nat} (h : SetsOf n R g) (hp : p < n) (hz : g p = 0) : SetsOf n (fun a b => R a b ∨ (a = p ∧ b = p)) (fun i => if i = p then 1 <<< p else g i) := by
  have := h.add (x := p) hp
  rw [hz, Nat.zero_or] at this
  exact this
open Classical in
theorem isLikeness_wp {W : AW} {v lv : Value} {n L : Nat} {ss : List Tri} {l : List (Int × Int)} (h : StepR W v ss) (hg : GoodS n L ss) (hn1 : 1 ≤ n) (hn : n ≤ 63) (hL : L ≤ 10) (hl : ss.length ≤ 500) (hr : PairR W lv l) (hll : l.length < 1000000) (hT : tabsIn T0 T0.tabs W = true) (h0 : 0 < W.next) :
    WpF T0 29 [.agg ⟨[.int .i64 (n : Int), v]⟩, lv] W (fun u W' => Ext W W' ∧ u = .bool (decide (LikeP n ss l))) := by
  refine wpFd fun29 rfl ?_
  obtain ⟨Al, cl, hlv⟩ := hr.len
  have hlen : ∀ W', aLen T0 W' 34 lv = some (.int .i64 l.length) := fun W' => by rw [hlv]; exact len_slice und34 _ _ _
  obtain ⟨W1, hW1, hE1, hn1', v2, v4⟩ : ∃ W1, W1 = (W.newCells 28 [.int .i64 (n : Int), v]).newCells 4 [.bool false] ∧ Ext W W1 ∧ W1.next = W.next + 2 ∧ Var W1 W.next 28 [.int .i64 (n : Int), v] ∧ Var W1 (W.next + 1) 4 [.bool false] :=
    ⟨_, rfl, (Only.newCells _ _ _).trans (Only.newCells _ _ _), rfl, (Var.new _ _ _).ext (.newCells _ _ _), Var.new _ _ _⟩
  have l2 := load28 v2
  try simp only [wpK_assoc]
  refine wpK_reg (fun R hR => by simp [newCells_next, zero4, ← hW1]; exact hR) ?_
  try simp only [wpK_assoc]
  have hlay := lay_wp (h.ext hE1) hg hn1 (by omega) hL hl
  try simp only [wpK_assoc]
  refine wpK_x2 (P := fun c p5 W3 => Ext W1 W3 ∧ W1.next ≤ c ∧ c < p5 ∧ p5 < W3.next ∧ ChartAt W3 c n (toS ss) ∧ Var W3 p5 81 [.pointer (some ⟨c, 0, none⟩)]) (fun R hR => by
    simp [l2, aEnter, fun36, short_other, aCallV]; rw [callS_none]
    refine hlay.mono ?_
    rintro _ W2 ⟨hE2, c, rfl, hc, hC⟩
    obtain ⟨W3, g1, g2, g3, g4⟩ := storeVar_new (T := T0) (W := W2) (t := 81) (z := [.pointer none]) (v := .pointer (some ⟨c, 0, none⟩)) inf81 (by rw [is81]; rfl) (by rw [is81]; rfl) rfl
    have g4 : Var W3 W2.next 81 [.pointer (some ⟨c, 0, none⟩)] := g4
    have hcl := hC.1
    have hP : Ext W1 W3 ∧ W1.next ≤ c ∧ c < W2.next ∧ W2.next < W3.next ∧ ChartAt W3 c n (toS ss) ∧ Var W3 W2.next 81 [.pointer (some ⟨c, 0, none⟩)] := ⟨hE2.trans g3, hc, hcl, by omega, hC.ext g3, g4⟩
    generalize hp5 : W2.next = p5 at g1 g2 g4 hP
    simp [zero81, hp5, g1]
    exact hR c p5 W3 hP) ?_
  rintro c p5 W3 ⟨hE3, hc1, hc5, hp5, hC3, v5⟩
  try simp only [wpK_assoc]
  refine wpK_reg (fun R hR => by simp []; exact hR) ?_
  try simp only [wpK_assoc]
  first | refine wpK_onF (by simp []) ?_ | refine wpK_out (by simp []) ?_ | refine wpK_condF (by simp []) ?_ | refine wpK_endF (by simp []) (wpK_skip ?_) | refine wpK_endF (by simp []) ?_
  obtain ⟨W4, hW4, hE4, hn4, v7, v8⟩ : ∃ W4, W4 = (W3.newCells 118 (setsL (fun _ => 0))).newCells 118 (setsL (fun _ => 0)) ∧ Ext W3 W4 ∧ W4.next = W3.next + 2 ∧ SetsAt W4 W3.next (fun _ => 0) ∧ SetsAt W4 (W3.next + 1) (fun _ => 0) :=
    ⟨_, rfl, (Only.newCells _ _ _).trans (Only.newCells _ _ _), rfl, (Var.new _ _ _).ext (.newCells _ _ _), Var.new _ _ _⟩
  have hz0 := zero118'
  generalize setsL (fun _ => 0) = zs at hz0 hW4
  try simp only [wpK_assoc]
  refine wpK_reg (fun R hR => by simp [hz0, newCells_next, ← hW4]; exact hR) ?_
  have l5 := (v5.ext hE4).load1 (T := T0) und81 rfl (j := 0) (v := .pointer (some ⟨c, 0, none⟩)) rfl
  have ln := chart_n (hC3.ext hE4)
  try simp only [wpK_assoc]
  refine wpK_reg (fun R hR => by simp [l5, ln]; exact hR) ?_
  obtain ⟨p7, hp7⟩ : ∃ p, p = W3.next := ⟨_, rfl⟩
  rw [← hp7] at v7 v8 hn4
  have hEx : Ext W1 W4 := hE3.trans hE4
  have n1 := hEx.1
  refine wpK_keep (fun tm' => tm'.get 1 = some (lv) ∧ tm'.get 4 = some (.pointer (some ⟨W.next + 1, 0, none⟩)) ∧ tm'.get 5 = some (.pointer (some ⟨p5, 0, none⟩)) ∧ tm'.get 7 = some (.pointer (some ⟨p7, 0, none⟩)) ∧ tm'.get 8 = some (.pointer (some ⟨p7 + 1, 0, none⟩)) ∧ tm'.get 24 = some (.int .i64 (n : Int)) ∧ tm'.get 25 = some (.int .i64 0)) ⟨by simp [hp7], by simp [hp7], by simp [hp7], by simp [hp7], by simp [hp7], by simp [hp7], by simp [hp7]⟩ ?_
  rintro tm ⟨h1, h4, h5, h7, h8, h24, h25⟩
  have hz1 : ∀ (g : Nat → Nat) (R : Nat → Nat → Prop), SetsOf n R g → ∀ p, (∀ q, ¬ R p q) → g p = 0 := fun g R hs p hp => by
    apply Nat.eq_of_testBit_eq
    intro q
    rw [Nat.zero_testBit]
    cases hb : (g p).testBit q with
    | false => rfl
    | true => exact absurd ((hs.bit p q).1 hb) (hp q)
  try simp only [wpK_assoc]
  refine wpK_while (I := fun k A' W' => A'.n = 99 ∧ A'.defers = [] ∧ A'.tmps.get 1 = some (lv) ∧ A'.tmps.get 4 = some (.pointer (some ⟨W.next + 1, 0, none⟩)) ∧ A'.tmps.get 5 = some (.pointer (some ⟨p5, 0, none⟩)) ∧ A'.tmps.get 7 = some (.pointer (some ⟨p7, 0, none⟩)) ∧ A'.tmps.get 8 = some (.pointer (some ⟨p7 + 1, 0, none⟩)) ∧ A'.tmps.get 24 = some (.int .i64 (n : Int)) ∧ Only (fun b => b = p7 ∨ b = p7 + 1) W4 W' ∧ ∃ (i : Nat) (g1 g2 : Nat → Nat), A'.tmps.get 25 = some (.int .i64 (i : Int)) ∧ k = n - i ∧ i ≤ n ∧ SetsAt W' p7 g1 ∧ SetsAt W' (p7 + 1) g2 ∧ SetsOf n (fun p q => p = q ∧ p < i) g1 ∧ SetsOf n (fun p q => p = q ∧ p < i) g2)
    (J := fun A' W' => A'.n = 99 ∧ A'.defers = [] ∧ A'.tmps.get 1 = some (lv) ∧ A'.tmps.get 4 = some (.pointer (some ⟨W.next + 1, 0, none⟩)) ∧ A'.tmps.get 5 = some (.pointer (some ⟨p5, 0, none⟩)) ∧ A'.tmps.get 7 = some (.pointer (some ⟨p7, 0, none⟩)) ∧ A'.tmps.get 8 = some (.pointer (some ⟨p7 + 1, 0, none⟩)) ∧ Only (fun b => b = p7 ∨ b = p7 + 1) W4 W' ∧ ∃ (g1 g2 : Nat → Nat), SetsAt W' p7 g1 ∧ SetsAt W' (p7 + 1) g2 ∧ SetsOf n (fun p q => p = q ∧ p < n) g1 ∧ SetsOf n (fun p q => p = q ∧ p < n) g2) (Rt := fun _ _ => False) (k := n) ?_ ?_ ?_ ?_
  · have hs0 : SetsOf n (fun p q => p = q ∧ p < 0) (fun _ => 0) := ⟨fun p q => by simp [-testBit_dec], fun p => Nat.two_pow_pos n⟩
    exact ⟨rfl, rfl, by simp [h1, h4, h5, h7, h8, h24], by simp [h1, h4, h5, h7, h8, h24], by simp [h1, h4, h5, h7, h8, h24], by simp [h1, h4, h5, h7, h8, h24], by simp [h1, h4, h5, h7, h8, h24], by simp [h1, h4, h5, h7, h8, h24], .refl _ _, 0, _, _, by simp [h25], rfl, by omega, v7, v8, hs0, hs0⟩
  · rintro k ⟨tm, n, ds⟩ Wa ⟨hn, hd, h1, h4, h5, h7, h8, h24, hOa, i, g1, g2, h25, hk, hil, a7, a8, s7, s8⟩ Q' hJ hRt hI
    simp only at hn hd h1 h4 h5 h7 h8 h24
    subst hn; subst hd
    simp only at h25
    have na := hOa.1
    by_cases hlt : i < n
    case neg =>
      have hlt' : ¬ (i : Int) < n := by omega
      have e : i = n := by omega
      subst e
      try simp only [wpK_assoc]
      refine wpK_reg (fun R hR => by simp [h24, h25]; exact hR) ?_
      try simp only [wpK_assoc]
      first | refine wpK_onF (by simp []) ?_ | refine wpK_out (by simp []) ?_ | refine wpK_condF (by simp []) ?_ | refine wpK_endF (by simp []) (wpK_skip ?_) | refine wpK_endF (by simp []) ?_
      exact hJ _ _ ⟨rfl, rfl, by simp [h1, h4, h5, h7, h8], by simp [h1, h4, h5, h7, h8], by simp [h1, h4, h5, h7, h8], by simp [h1, h4, h5, h7, h8], by simp [h1, h4, h5, h7, h8], hOa, g1, g2, a7, a8, s7, s8⟩
    have hlt' : (i : Int) < n := by omega
    try simp only [wpK_assoc]
    refine wpK_reg (fun R hR => by simp [h24, h25, hlt']; exact hR) ?_
    try simp only [wpK_assoc]
    first | refine wpK_onT (by simp [hlt]) ?_ | refine wpK_outT (by simp [hlt]) ?_ | refine wpK_condT (by simp [hlt]) ?_ | refine wpK_endT (by simp [hlt]) ?_
    have ox := one_wp i (by omega)
    have t7 := one_sets s7 hlt (hz1 _ _ s7 i (fun q => by omega))
    have t8 := one_sets s8 hlt (hz1 _ _ s8 i (fun q => by omega))
    generalize hone : 1 <<< i = one at ox t7 t8
    obtain ⟨Wb, w1, w2, w3, w4⟩ := sets_put a7 (j := i) (by omega) one
    have a8b : SetsAt Wb (p7 + 1) g2 := a8.only w3 (by omega)
    obtain ⟨Wc, w5, w6, w7, w8⟩ := sets_put a8b (j := i) (by omega) one
    have i7 := ix118_0 p7 i (by omega)
    have i8 := ix118_0 (p7 + 1) i (by omega)
    refine wpK_block ?_
    try simp only [wpK_assoc]
    refine wpK_reg (fun R hR => by simp [h25]; exact hR) ?_
    try simp only [wpK_assoc]
    refine wpK_reg1 (fun R hR => by
      simp [aEnter, fun49, short_other, aCallV]; rw [callS_none]
      refine (ox Wa).mono ?_
      rintro _ W9 ⟨e9, rfl⟩; subst W9
      simp [aEnter, fun49, short_other, aCallV]; rw [callS_none]
      refine (ox Wa).mono ?_
      rintro _ W9 ⟨e9, rfl⟩; subst W9
      simp [h7, h8, i7, i8, w1, w5]; exact hR) ?_
    simp only [leaves_normal, behind_normal]
    refine wpK_keep (fun tm' => tm'.get 1 = some (lv) ∧ tm'.get 4 = some (.pointer (some ⟨W.next + 1, 0, none⟩)) ∧ tm'.get 5 = some (.pointer (some ⟨p5, 0, none⟩)) ∧ tm'.get 7 = some (.pointer (some ⟨p7, 0, none⟩)) ∧ tm'.get 8 = some (.pointer (some ⟨p7 + 1, 0, none⟩)) ∧ tm'.get 24 = some (.int .i64 (n : Int)) ∧ tm'.get 25 = some (.int .i64 (i : Int))) ⟨by simp [h1, h4, h5, h7, h8, h24, h25], by simp [h1, h4, h5, h7, h8, h24, h25], by simp [h1, h4, h5, h7, h8, h24, h25], by simp [h1, h4, h5, h7, h8, h24, h25], by simp [h1, h4, h5, h7, h8, h24, h25], by simp [h1, h4, h5, h7, h8, h24, h25], by simp [h1, h4, h5, h7, h8, h24, h25]⟩ ?_
    rintro tm ⟨h1, h4, h5, h7, h8, h24, h25⟩
    try simp only [wpK_assoc]
    refine wpK_reg1 (fun R hR => by simp [h25]; exact hR) ?_
    refine hI (n - (i + 1)) _ _ (by omega) ⟨rfl, rfl, by simp [h1, h4, h5, h7, h8, h24], by simp [h1, h4, h5, h7, h8, h24], by simp [h1, h4, h5, h7, h8, h24], by simp [h1, h4, h5, h7, h8, h24], by simp [h1, h4, h5, h7, h8, h24], by simp [h1, h4, h5, h7, h8, h24], (hOa.trans (w3.mono (fun b _ h => .inl h))).trans (w7.mono (fun b _ h => .inr h)), i + 1, _, _, by simp [i64_succ i (by omega)], rfl, by omega, w4.only w7 (by omega), w8, t7.congr (fun p q => ?_), t8.congr (fun p q => ?_)⟩
    · omega
    · omega
  · rintro A' W' hf; exact hf.elim
  rintro ⟨tm, n, ds⟩ Wd ⟨hn, hd, h1, h4, h5, h7, h8, hOd, g1, g2, d7, d8, s7, s8⟩
  simp only at hn hd h1 h4 h5 h7 h8
  subst hn; subst hd
  have hv4 : Var Wd (W.next + 1) 4 [.bool false] := (v4.ext hEx).only hOd (by omega)
  try simp only [wpK_assoc]
  refine wpK_reg (fun R hR => by simp [h1, hlen]; exact hR) ?_
  refine wpK_keep (fun tm' => tm'.get 4 = some (.pointer (some ⟨W.next + 1, 0, none⟩)) ∧ tm'.get 5 = some (.pointer (some ⟨p5, 0, none⟩)) ∧ tm'.get 7 = some (.pointer (some ⟨p7, 0, none⟩)) ∧ tm'.get 8 = some (.pointer (some ⟨p7 + 1, 0, none⟩)) ∧ tm'.get 37 = some (lv) ∧ tm'.get 38 = some (.int .i64 (l.length : Int)) ∧ tm'.get 39 = some (.int .i64 0)) ⟨by simp [h1, h4, h5, h7, h8], by simp [h1, h4, h5, h7, h8], by simp [h1, h4, h5, h7, h8], by simp [h1, h4, h5, h7, h8], by simp [h1, h4, h5, h7, h8], by simp [h1, h4, h5, h7, h8], by simp [h1, h4, h5, h7, h8]⟩ ?_
  rintro tm ⟨h4, h5, h7, h8, h37, h38, h39⟩
  try simp only [wpK_assoc]
  refine wpK_while (I := fun k A' W' => A'.n = 99 ∧ A'.defers = [] ∧ A'.tmps.get 4 = some (.pointer (some ⟨W.next + 1, 0, none⟩)) ∧ A'.tmps.get 5 = some (.pointer (some ⟨p5, 0, none⟩)) ∧ A'.tmps.get 7 = some (.pointer (some ⟨p7, 0, none⟩)) ∧ A'.tmps.get 8 = some (.pointer (some ⟨p7 + 1, 0, none⟩)) ∧ A'.tmps.get 37 = some (lv) ∧ A'.tmps.get 38 = some (.int .i64 (l.length : Int)) ∧ Only (fun b => b = p7 ∨ b = p7 + 1) W4 W' ∧ ∃ (i : Nat) (g1 g2 : Nat → Nat), A'.tmps.get 39 = some (.int .i64 (i : Int)) ∧ k = l.length - i ∧ i ≤ l.length ∧ SetsAt W' p7 g1 ∧ SetsAt W' (p7 + 1) g2 ∧ SetsOf n (relOf n (l.take i)) g1 ∧ SetsOf n (fun q p => relOf n (l.take i) p q) g2 ∧ InR n (l.take i))
    (J := fun A' W' => A'.n = 99 ∧ A'.defers = [] ∧ A'.tmps.get 4 = some (.pointer (some ⟨W.next + 1, 0, none⟩)) ∧ A'.tmps.get 5 = some (.pointer (some ⟨p5, 0, none⟩)) ∧ A'.tmps.get 7 = some (.pointer (some ⟨p7, 0, none⟩)) ∧ A'.tmps.get 8 = some (.pointer (some ⟨p7 + 1, 0, none⟩)) ∧ Only (fun b => b = p7 ∨ b = p7 + 1) W4 W' ∧ ∃ (g1 g2 : Nat → Nat), SetsAt W' p7 g1 ∧ SetsAt W' (p7 + 1) g2 ∧ SetsOf n (relOf n l) g1 ∧ SetsOf n (fun q p => relOf n l p q) g2 ∧ InR n l)
    (Rt := fun A' W' => A'.defers = [] ∧ A'.tmps.get 4 = some (.pointer (some ⟨W.next + 1, 0, none⟩)) ∧ Only (fun b => b = p7 ∨ b = p7 + 1 ∨ b = W.next + 1) W4 W' ∧ Var W' (W.next + 1) 4 [.bool false] ∧ ¬ InR n l) (k := l.length) ?_ ?_ ?_ ?_
  · exact ⟨rfl, rfl, by simp [h4, h5, h7, h8, h37, h38], by simp [h4, h5, h7, h8, h37, h38], by simp [h4, h5, h7, h8, h37, h38], by simp [h4, h5, h7, h8, h37, h38], by simp [h4, h5, h7, h8, h37, h38], by simp [h4, h5, h7, h8, h37, h38], hOd, 0, g1, g2, by simp [h39], rfl, by omega, d7, d8, s7.congr (fun p q => by simp [relOf]), s8.congr (fun p q => by simp [relOf]; omega), fun x hx => by simp at hx⟩
  · rintro k ⟨tm, n, ds⟩ Wa ⟨hn, hd, h4, h5, h7, h8, h37, h38, hOa, i, g1, g2, h39, hk, hil, a7, a8, s7, s8, hin⟩ Q' hJ hRt hI
    simp only at hn hd h4 h5 h7 h8 h37 h38
    subst hn; subst hd
    simp only at h39
    have na := hOa.1
    by_cases hlt : i < l.length
    case neg =>
      have hlt' : ¬ (i : Int) < l.length := by omega
      have e : l.take i = l := List.take_of_length_le (by omega)
      rw [e] at s7 s8 hin
      try simp only [wpK_assoc]
      refine wpK_reg (fun R hR => by simp [h38, h39, hlt']; exact hR) ?_
      try simp only [wpK_assoc]
      first | refine wpK_onF (by simp [hlt]) ?_ | refine wpK_out (by simp [hlt]) ?_ | refine wpK_condF (by simp [hlt]) ?_ | refine wpK_endF (by simp [hlt]) (wpK_skip ?_) | refine wpK_endF (by simp [hlt]) ?_
      exact hJ _ _ ⟨rfl, rfl, by simp [h4, h5, h7, h8], by simp [h4, h5, h7, h8], by simp [h4, h5, h7, h8], by simp [h4, h5, h7, h8], hOa, g1, g2, a7, a8, s7, s8, hin⟩
    have hlt' : (i : Int) < l.length := by omega
    try simp only [wpK_assoc]
    refine wpK_reg (fun R hR => by simp [h38, h39, hlt']; exact hR) ?_
    try simp only [wpK_assoc]
    first | refine wpK_onT (by simp [hlt]) ?_ | refine wpK_outT (by simp [hlt]) ?_ | refine wpK_condT (by simp [hlt]) ?_ | refine wpK_endT (by simp [hlt]) ?_
    obtain ⟨⟨x, y⟩, hxy⟩ : ∃ e : Int × Int, l[i] = e := ⟨_, rfl⟩
    have hi : l[i]? = some (x, y) := by rw [List.getElem?_eq_getElem hlt, hxy]
    have hRa : PairR Wa lv l := hr.only ((Only.wide (hE1.trans hEx)).trans hOa) (fun b hb hk => by omega)
    obtain ⟨qb, qo, hx, hh, _, _⟩ := pair_load hRa hi
    obtain ⟨Wb, t1, t2, t3, t4⟩ := storeVar_new (T := T0) (W := Wa) (t := 40) (z := [.int .i64 0, .int .i64 0]) (v := .agg ⟨[.int .i64 x, .int .i64 y]⟩) inf40 (by rw [is40]; rfl) (by rw [is40]; rfl) rfl
    have t4 : Var Wb Wa.next 40 [.int .i64 x, .int .i64 y] := t4
    refine wpK_block ?_
    try simp only [wpK_assoc]
    refine wpK_reg (fun R hR => by simp [h37, h39, hx, hh, zero40, t1]; exact hR) ?_
    have hCb := ((hC3.ext hE4).only hOa (by omega)).ext t3
    have b5 := ((v5.ext hE4).only hOa (by omega)).ext t3
    have l5 := b5.load1 (T := T0) und81 rfl (j := 0) (v := .pointer (some ⟨c, 0, none⟩)) rfl
    have e0 := t4.load1 (T := T0) und3 rfl (j := 0) (v := .int .i64 x) rfl
    have e1 := t4.load1 (T := T0) und3 rfl (j := 1) (v := .int .i64 y) rfl
    have k1 := chartHas_wp hCb x
    have k2 := chartHas_wp hCb y
    have htk := List.take_add_one (l := l) (i := i)
    rw [hi] at htk
    have htk : l.take (i + 1) = l.take i ++ [(x, y)] := htk
    have hmem : (x, y) ∈ l := List.mem_of_getElem? hi
    have bad : (¬ (0 ≤ x ∧ x < n) ∨ ¬ (0 ≤ y ∧ y < n)) → ¬ InR n l := fun hb hI => by have := hI _ hmem; simp only at this; rcases hb with hb | hb; exact hb this.1; exact hb this.2
    have v4b : Var Wb (W.next + 1) 4 [.bool false] := ((v4.ext hEx).only hOa (by omega)).ext t3
    obtain ⟨Wr, r1, r2, r3, r4⟩ := v4b.store (T := T0) (t := 4) (v := .bool false) (o := 0) inf4 (by rw [is4]; rfl) (by simp) rfl
    have r4 : Var Wr (W.next + 1) 4 [.bool false] := by simpa using r4
    by_cases hx0 : 0 ≤ x ∧ x < n
    case neg =>
      rw [decide_eq_false hx0] at k1
      try simp only [wpK_assoc]
      refine wpK_reg (fun R hR => by
        simp [l5, h5, e0, ix40_0, ix40_1, aEnter, fun45, short_other, aCallV]; rw [callS_none]
        refine k1.mono ?_
        rintro _ W9 ⟨e9, rfl⟩; subst W9
        simp [undef]; exact hR) ?_
      try simp only [wpK_assoc]
      first | refine wpK_onT (by simp []) ?_ | refine wpK_outT (by simp []) ?_ | refine wpK_condT (by simp []) ?_ | refine wpK_endT (by simp []) ?_
      try simp only [wpK_assoc]
      refine wpK_reg (fun R hR => by simp [h4, r1]; exact hR) ?_
      refine wpK_ret ?_
      exact hRt _ _ ⟨rfl, by simp [h4], (hOa.mono (fun b _ h => by omega)).trans ((Only.wide t3).trans (r3.mono (fun b _ h => .inr (.inr h)))), r4, bad (.inl hx0)⟩
    rw [decide_eq_true hx0] at k1
    by_cases hy0 : 0 ≤ y ∧ y < n
    case neg =>
      rw [decide_eq_false hy0] at k2
      try simp only [wpK_assoc]
      refine wpK_reg (fun R hR => by
        simp [l5, h5, e0, ix40_0, ix40_1, aEnter, fun45, short_other, aCallV]; rw [callS_none]
        refine k1.mono ?_
        rintro _ W9 ⟨e9, rfl⟩; subst W9
        simp [l5, h5, e1, ix40_0, ix40_1, aEnter, fun45, short_other, aCallV]; rw [callS_none]
        refine k2.mono ?_
        rintro _ W9 ⟨e9, rfl⟩; subst W9
        simp; exact hR) ?_
      try simp only [wpK_assoc]
      first | refine wpK_onT (by simp []) ?_ | refine wpK_outT (by simp []) ?_ | refine wpK_condT (by simp []) ?_ | refine wpK_endT (by simp []) ?_
      try simp only [wpK_assoc]
      refine wpK_reg (fun R hR => by simp [h4, r1]; exact hR) ?_
      refine wpK_ret ?_
      exact hRt _ _ ⟨rfl, by simp [h4], (hOa.mono (fun b _ h => by omega)).trans ((Only.wide t3).trans (r3.mono (fun b _ h => .inr (.inr h)))), r4, bad (.inr hy0)⟩
    rw [decide_eq_true hy0] at k2
    try simp only [wpK_assoc]
    refine wpK_reg (fun R hR => by
      simp [l5, h5, e0, ix40_0, ix40_1, aEnter, fun45, short_other, aCallV]; rw [callS_none]
      refine k1.mono ?_
      rintro _ W9 ⟨e9, rfl⟩; subst W9
      simp [l5, h5, e1, ix40_0, ix40_1, aEnter, fun45, short_other, aCallV]; rw [callS_none]
      refine k2.mono ?_
      rintro _ W9 ⟨e9, rfl⟩; subst W9
      simp; exact hR) ?_
    try simp only [wpK_assoc]
    first | refine wpK_onF (by simp []) ?_ | refine wpK_out (by simp []) ?_ | refine wpK_condF (by simp []) ?_ | refine wpK_endF (by simp []) (wpK_skip ?_) | refine wpK_endF (by simp []) ?_
    obtain ⟨x, rfl⟩ : ∃ z : Nat, x = (z : Int) := ⟨x.toNat, by omega⟩
    obtain ⟨y, rfl⟩ : ∃ z : Nat, y = (z : Int) := ⟨y.toNat, by omega⟩
    have hxn : x < n := by omega
    have hyn : y < n := by omega
    have a7b : SetsAt Wb p7 g1 := Var.ext a7 t3
    have a8b : SetsAt Wb (p7 + 1) g2 := Var.ext a8 t3
    have f1 := sets_load a7b (j := x) (by omega)
    have o1 := one_wp y (by omega) Wb
    have b64 : ∀ {R : Nat → Nat → Prop} {g : Nat → Nat}, SetsOf n R g → ∀ p, g p < 18446744073709551616 := fun hs p => Nat.lt_of_lt_of_le (hs.lt p) (Nat.pow_le_pow_right (by omega) (by omega : n ≤ 64))
    have hlt1 : ∀ z, z < n → 1 <<< z < 18446744073709551616 := fun z hz => by rw [Nat.one_shiftLeft]; show 2 ^ z < 2 ^ 64; exact Nat.pow_lt_pow_right (by omega) (by omega)
    have or1 := aBinI_or .u64 (g1 x) (1 <<< y) (b64 s7 x) (hlt1 y hyn)
    have or2 := aBinI_or .u64 (g2 y) (1 <<< x) (b64 s8 y) (hlt1 x hxn)
    have n7 := s7.add (x := x) hyn
    have n8 := s8.add (x := y) hxn
    generalize g1 x ||| 1 <<< y = m1 at or1 n7
    generalize g2 y ||| 1 <<< x = m2 at or2 n8
    obtain ⟨Wc, w1, w2, w3, w4⟩ := sets_put a7b (j := x) (by omega) m1
    have a8c : SetsAt Wc (p7 + 1) g2 := a8b.only w3 (by omega)
    have t4c := t4.only w3 (by omega)
    have c0 := t4c.load1 (T := T0) und3 rfl (j := 0) (v := .int .i64 (x : Int)) rfl
    have c1 := t4c.load1 (T := T0) und3 rfl (j := 1) (v := .int .i64 (y : Int)) rfl
    have f2 := sets_load a8c (j := y) (by omega)
    have o2 := one_wp x (by omega) Wc
    obtain ⟨Wf, w5, w6, w7, w8⟩ := sets_put a8c (j := y) (by omega) m2
    have i7 := ix118_0 p7 x (by omega)
    have i8 := ix118_0 (p7 + 1) y (by omega)
    generalize 1 <<< y = oy at o1 or1
    generalize 1 <<< x = ox at o2 or2
    generalize g1 x = gx at f1 or1
    generalize g2 y = gy at f2 or2
    try simp only [wpK_assoc]
    refine wpK_dn (wr := Tr.nil |>.set 55 0 |>.set 56 1 |>.set 57 2 |>.set 58 3 |>.set 59 4 |>.set 60 5 |>.set 61 6 |>.set 62 7 |>.set 63 8) (bits := Tr.nil.lay 0 [0, 1, 3, 7, 0, 16, 48, 127, 255, 511]) (ord := [0, 1, 2, 3, 4, 5, 6, 7, 8, 9]) (by kernel_rfl) (by kernel_rfl) (by kernel_rfl) (fun G hG => by
      simp [h7, e0, e1, ix40_0, ix40_1, i7, f1, aEnter, fun49, short_other, aCallV]
      rw [dcallS_none]
      refine o1.mono ?_
      rintro _ W9 ⟨e9, rfl⟩; subst W9
      simp [h7, e0, e1, ix40_0, ix40_1, i7, f1, or1, w1, w2]
      exact hG) ?_
    refine wpK_keep (fun tm' => tm'.get 4 = some (.pointer (some ⟨W.next + 1, 0, none⟩)) ∧ tm'.get 5 = some (.pointer (some ⟨p5, 0, none⟩)) ∧ tm'.get 7 = some (.pointer (some ⟨p7, 0, none⟩)) ∧ tm'.get 8 = some (.pointer (some ⟨p7 + 1, 0, none⟩)) ∧ tm'.get 11 = some (.pointer (some ⟨Wa.next, 0, none⟩)) ∧ tm'.get 37 = some (lv) ∧ tm'.get 38 = some (.int .i64 (l.length : Int)) ∧ tm'.get 39 = some (.int .i64 (i : Int))) ⟨by simp [h4, h5, h7, h8, h37, h38, h39], by simp [h4, h5, h7, h8, h37, h38, h39], by simp [h4, h5, h7, h8, h37, h38, h39], by simp [h4, h5, h7, h8, h37, h38, h39], by simp [h4, h5, h7, h8, h37, h38, h39], by simp [h4, h5, h7, h8, h37, h38, h39], by simp [h4, h5, h7, h8, h37, h38, h39], by simp [h4, h5, h7, h8, h37, h38, h39]⟩ ?_
    rintro tm ⟨h4, h5, h7, h8, h11, h37, h38, h39⟩
    try simp only [wpK_assoc]
    refine wpK_qn (wr := Tr.nil |>.set 64 0 |>.set 65 1 |>.set 66 2 |>.set 67 3 |>.set 68 4 |>.set 69 5 |>.set 70 6 |>.set 71 7 |>.set 72 8) (bits := Tr.nil.lay 0 [0, 1, 3, 7, 0, 16, 48, 127, 255, 511]) (ord := [0, 1, 2, 3, 4, 5, 6, 7, 8, 9]) (by kernel_rfl) (by kernel_rfl) (by kernel_rfl) (fun G hG => by
      simp [h8, h11, c0, c1, ix40_0, ix40_1, i8, f2, aEnter, fun49, short_other, aCallV]
      rw [dcallS_none]
      refine o2.mono ?_
      rintro _ W9 ⟨e9, rfl⟩; subst W9
      simp [h8, h11, c0, c1, ix40_0, ix40_1, i8, f2, or2, w5, w6]
      exact hG) ?_
    simp only [leaves_normal, behind_normal]
    refine wpK_keep (fun tm' => tm'.get 4 = some (.pointer (some ⟨W.next + 1, 0, none⟩)) ∧ tm'.get 5 = some (.pointer (some ⟨p5, 0, none⟩)) ∧ tm'.get 7 = some (.pointer (some ⟨p7, 0, none⟩)) ∧ tm'.get 8 = some (.pointer (some ⟨p7 + 1, 0, none⟩)) ∧ tm'.get 11 = some (.pointer (some ⟨Wa.next, 0, none⟩)) ∧ tm'.get 37 = some (lv) ∧ tm'.get 38 = some (.int .i64 (l.length : Int)) ∧ tm'.get 39 = some (.int .i64 (i : Int))) ⟨by simp [h4, h5, h7, h8, h11, h37, h38, h39], by simp [h4, h5, h7, h8, h11, h37, h38, h39], by simp [h4, h5, h7, h8, h11, h37, h38, h39], by simp [h4, h5, h7, h8, h11, h37, h38, h39], by simp [h4, h5, h7, h8, h11, h37, h38, h39], by simp [h4, h5, h7, h8, h11, h37, h38, h39], by simp [h4, h5, h7, h8, h11, h37, h38, h39], by simp [h4, h5, h7, h8, h11, h37, h38, h39]⟩ ?_
    rintro tm ⟨h4, h5, h7, h8, h11, h37, h38, h39⟩
    try simp only [wpK_assoc]
    refine wpK_reg1 (fun R hR => by simp [h39]; exact hR) ?_
    refine hI (l.length - (i + 1)) _ _ (by omega) ⟨rfl, rfl, by simp [h4, h5, h7, h8, h37, h38], by simp [h4, h5, h7, h8, h37, h38], by simp [h4, h5, h7, h8, h37, h38], by simp [h4, h5, h7, h8, h37, h38], by simp [h4, h5, h7, h8, h37, h38], by simp [h4, h5, h7, h8, h37, h38], hOa.trans ((Only.wide t3).trans ((w3.mono (fun b _ h => .inl h)).trans (w7.mono (fun b _ h => .inr h)))), i + 1, _, _, by simp [i64_succ i (by omega)], rfl, by omega, w4.only w7 (by omega), w8, n7.congr (fun p q => ?_), n8.congr (fun p q => ?_), ?_⟩
    · rw [htk]; simp only [relOf, List.mem_append, List.mem_singleton, Prod.mk.injEq]
      rw [or_assoc, show (p = x ∧ q = y) ↔ ((p : Int) = x ∧ (q : Int) = y) by omega]
    · rw [htk]; simp only [relOf, List.mem_append, List.mem_singleton, Prod.mk.injEq]
      rw [or_assoc, show (p = y ∧ q = x) ↔ ((q : Int) = x ∧ (p : Int) = y) by omega]
    · rw [htk]
      intro z hz
      rcases List.mem_append.1 hz with hz | hz
      · exact hin z hz
      · rw [List.mem_singleton] at hz; subst hz; exact ⟨hx0, hy0⟩
  · rintro A' W' ⟨h1, h2, h3, h4, h5⟩
    have l4 := h4.load1 (T := T0) und4 rfl (j := 0) (v := .bool false) rfl
    refine ⟨.inr rfl, W', by rw [h1]; rfl, [.bool false], by simp [h2, l4], ⟨by have := h3.1; have := hE1.1; omega, fun b hb _ => by rw [h3.2 b (by omega) (by omega), hEx.2 b (by omega) (fun x => x), hE1.2 b hb (fun x => x)]⟩, ?_⟩
    rw [decide_eq_false (fun hL => h5 hL.1)]; rfl
  rintro ⟨tm, n, ds⟩ We ⟨hn, hd, h4, h5, h7, h8, hOe, g1, g2, e7, e8, s7, s8, hin⟩
  simp only at hn hd h4 h5 h7 h8
  subst hn; subst hd
  have n4 := hOe.1
  have hCe := (hC3.ext hE4).only hOe (by omega)
  have b5e := (v5.ext hE4).only hOe (by omega)
  have v4e := (v4.ext hEx).only hOe (by omega)
  have l5e := b5e.load1 (T := T0) und81 rfl (j := 0) (v := .pointer (some ⟨c, 0, none⟩)) rfl
  have lne := chart_n hCe
  try simp only [wpK_assoc]
  refine wpK_reg (fun R hR => by simp [h5, l5e, lne]; exact hR) ?_
  have hO0 : Only (fun b => b = p7 ∨ b = p7 + 1) W We := (Only.wide (hE1.trans hEx)).trans hOe
  have hTe : tabsIn T0 T0.tabs We = true := tabs_only hT h0 hO0 (by omega)
  have hto : ∀ a s, toS ss a s < 18446744073709551616 := fun a s => Nat.lt_of_lt_of_le (toS_lt hg a s) (Nat.pow_le_pow_right (by omega) (by omega : n ≤ 64))
  have b64 : ∀ {R : Nat → Nat → Prop} {g : Nat → Nat}, SetsOf n R g → ∀ p, g p < 18446744073709551616 := fun hs p => Nat.lt_of_lt_of_le (hs.lt p) (Nat.pow_le_pow_right (by omega) (by omega : n ≤ 64))
  have hLike := likeP_sets hg hL hin s7 s8
  try simp only [wpK_assoc]
  refine wpK_while (I := fun k A' W' => A'.n = 99 ∧ A'.tmps.get 4 = some (.pointer (some ⟨W.next + 1, 0, none⟩)) ∧ A'.tmps.get 5 = some (.pointer (some ⟨p5, 0, none⟩)) ∧ A'.tmps.get 7 = some (.pointer (some ⟨p7, 0, none⟩)) ∧ A'.tmps.get 8 = some (.pointer (some ⟨p7 + 1, 0, none⟩)) ∧ A'.tmps.get 77 = some (.int .i64 (n : Int)) ∧
      ∃ i : Nat, A'.tmps.get 78 = some (.int .i64 (i : Int)) ∧ k = n - i ∧ i ≤ n ∧ Marks We.next A'.defers W' ∧ Ext We W' ∧ ∀ p q, p < i → (g1 p).testBit q = true → ansP (toS ss) g1 p q ∧ ansP (toS ss) g2 q p)
    (J := fun A' W' => A'.n = 99 ∧ A'.tmps.get 4 = some (.pointer (some ⟨W.next + 1, 0, none⟩)) ∧ Marks We.next A'.defers W' ∧ Ext We W' ∧ LikeP n ss l)
    (Rt := fun A' W' => A'.tmps.get 4 = some (.pointer (some ⟨W.next + 1, 0, none⟩)) ∧ Marks We.next A'.defers W' ∧ Only (fun b => b = W.next + 1) We W' ∧ Var W' (W.next + 1) 4 [.bool false] ∧ ¬ LikeP n ss l) (k := n) ?_ ?_ ?_ ?_
  · exact ⟨rfl, by simp [h4], by simp [h5], by simp [h7], by simp [h8], by simp, 0, by simp, rfl, by omega, trivial, .refl _ _, fun p q hp => by omega⟩
  · rintro k ⟨tm, n', ds⟩ Wa ⟨hn', h4, h5, h7, h8, h77, i, h78, hk, hil, hMk, hEa, hdone⟩ Q' hJ hRt hI
    simp only at hn' h4 h5 h7 h8 h77 h78 hMk
    subst hn'
    have na := hEa.1
    by_cases hlt : i < n
    case neg =>
      have e : i = n := by omega
      subst e
      try simp only [wpK_assoc]
      refine wpK_reg (fun R hR => by simp [h77, h78]; exact hR) ?_
      try simp only [wpK_assoc]
      first | refine wpK_onF (by simp []) ?_ | refine wpK_out (by simp []) ?_ | refine wpK_condF (by simp []) ?_ | refine wpK_endF (by simp []) (wpK_skip ?_) | refine wpK_endF (by simp []) ?_
      exact hJ _ _ ⟨rfl, by simp [h4], hMk, hEa, hLike.2 hdone⟩
    have hlt' : (i : Int) < n := by omega
    try simp only [wpK_assoc]
    refine wpK_reg (fun R hR => by simp [h77, h78, hlt']; exact hR) ?_
    try simp only [wpK_assoc]
    first | refine wpK_onT (by simp [hlt]) ?_ | refine wpK_outT (by simp [hlt]) ?_ | refine wpK_condT (by simp [hlt]) ?_ | refine wpK_endT (by simp [hlt]) ?_
    obtain ⟨Wb, s1, s2, s3, s4⟩ := storeVar_new (T := T0) (W := Wa) (t := 3) (z := [.int .i64 0]) (v := .int .i64 (i : Int)) inf3 (by rw [is3]; rfl) (by rw [is3]; rfl) rfl
    have s4 : Var Wb Wa.next 3 [.int .i64 (i : Int)] := s4
    refine wpK_block ?_
    try simp only [wpK_assoc]
    refine wpK_reg (fun R hR => by simp [h78, zero3, s1]; exact hR) ?_
    have hEb := hEa.trans s3
    have l12 := s4.load1 (T := T0) und3 rfl (j := 0) (v := .int .i64 (i : Int)) rfl
    have e7b : SetsAt Wb p7 g1 := Var.ext e7 hEb
    have f1 := sets_load e7b (j := i) (by omega)
    have i7 := ix118_0 p7 i (by omega)
    try simp only [wpK_assoc]
    refine wpK_x0 (P := fun Wc => Ext Wb Wc ∧ Wc.Has Wb.next 0 (.int .u64 (g1 i : Nat))) (fun R hR => by
      simp [h7, l12, i7, f1, aEnter, fun40, short_other, aCallV]; rw [callS_none]
      refine (places_wp (g1 i)).mono ?_
      rintro _ Wc ⟨hEc, rfl, hBc⟩
      simp; exact hR Wc (And.intro hEc hBc)) ?_
    rintro Wc ⟨hEc, hBc⟩
    refine wpK_keep (fun tm' => tm'.get 4 = some (.pointer (some ⟨W.next + 1, 0, none⟩)) ∧ tm'.get 5 = some (.pointer (some ⟨p5, 0, none⟩)) ∧ tm'.get 7 = some (.pointer (some ⟨p7, 0, none⟩)) ∧ tm'.get 8 = some (.pointer (some ⟨p7 + 1, 0, none⟩)) ∧ tm'.get 12 = some (.pointer (some ⟨Wa.next, 0, none⟩)) ∧ tm'.get 77 = some (.int .i64 (n : Int)) ∧ tm'.get 78 = some (.int .i64 (i : Int)) ∧ tm'.get 84 = some (.func (.func 72) ⟨[]⟩ ⟨[.pointer (some ⟨Wb.next, 0, none⟩)]⟩)) ⟨by simp [h4], by simp [h5], by simp [h7], by simp [h8], by simp, by simp [h77], by simp [h78], by simp⟩ ?_
    rintro tm ⟨h4, h5, h7, h8, h12, h77, h78, h84⟩
    have nb := s3.1
    have nc := hEc.1
    refine wpK_range3 (f := 72) (first := ⟨[]⟩) (cap := ⟨[.pointer (some ⟨Wb.next, 0, none⟩)]⟩) (by simp [h84]) fun72 (fun W5 hn5 hW5 hdf hlp => ?_)
    obtain ⟨z, hz⟩ : ∃ z, z = Wc.next := ⟨_, rfl⟩
    rw [← hz] at hn5 hdf hlp
    have hEc5 : Ext Wc W5 := ⟨by omega, fun b hb _ => hW5 b hb⟩
    have hEb5 := hEc.trans hEc5
    have hEe5 := hEb.trans hEb5
    have n5 := hEe5.1
    have v45 := v4e.ext hEe5
    have s45 := s4.ext hEb5
    have hMk5 := hMk.ext ((s3.trans hEb5) : Ext Wa W5)
    have hlow := hMk.low
    -- what stands of what is not written
    have own : ∀ {V V' : AW} {K : Nat → Prop}, (W5.next ≤ V.next ∧ Only (fun b => b = W.next + 1) We V ∧ Var V Wa.next 3 [.int .i64 (i : Int)] ∧ V.blocks.get z = some ⟨.deferred (some []), []⟩ ∧ Marks We.next ds V) → Only K V V' → (∀ b, K b → b = W.next + 1 ∨ b = z + 1 ∨ W5.next ≤ b) →
        (W5.next ≤ V'.next ∧ Only (fun b => b = W.next + 1) We V' ∧ Var V' Wa.next 3 [.int .i64 (i : Int)] ∧ V'.blocks.get z = some ⟨.deferred (some []), []⟩ ∧ Marks We.next ds V') := by
      intro V V' K ⟨o1, o2, o3, o4, o5⟩ he hK
      refine ⟨Nat.le_trans o1 he.1, ⟨Nat.le_trans o2.1 he.1, fun b hb hk => by rw [he.2 b (by omega) (fun h => by have := hK b h; omega)]; exact o2.2 b hb hk⟩, o3.only he (fun h => by have := hK _ h; omega), by rw [he.2 z (by omega) (fun h => by have := hK _ h; omega)]; exact o4, o5.only he (fun d hd r hr h1 _ hk => ?_)⟩
      have := hlow d hd r hr
      have := hK _ hk; omega
    have own5 : W5.next ≤ W5.next ∧ Only (fun b => b = W.next + 1) We W5 ∧ Var W5 Wa.next 3 [.int .i64 (i : Int)] ∧ W5.blocks.get z = some ⟨.deferred (some []), []⟩ ∧ Marks We.next ds W5 :=
      ⟨Nat.le_refl _, Only.wide hEe5, s45, hdf, hMk5⟩
    refine (placesX_wp (l := Wc.next + 1) (bx := Wb.next) (x := g1 i)
      (fun left V => (W5.next ≤ V.next ∧ Only (fun b => b = W.next + 1) We V ∧ Var V Wa.next 3 [.int .i64 (i : Int)] ∧ V.blocks.get z = some ⟨.deferred (some []), []⟩ ∧ Marks We.next ds V) ∧ V.blocks.get (z + 1) = W5.blocks.get (z + 1) ∧ V.blocks.get (W.next + 1) = We.blocks.get (W.next + 1) ∧
        (∀ q, left.testBit q = true → (g1 i).testBit q = true) ∧ ∀ q, (g1 i).testBit q = true → left.testBit q = false → ansP (toS ss) g1 i q ∧ ansP (toS ss) g2 q i)
      (fun V => (W5.next ≤ V.next ∧ Only (fun b => b = W.next + 1) We V ∧ Var V Wa.next 3 [.int .i64 (i : Int)] ∧ V.blocks.get z = some ⟨.deferred (some []), []⟩ ∧ Marks We.next ds V) ∧ (∃ fn t n ps asn bd df, V.blocks.get (z + 1) = some ⟨.loop .done (some .ret) fn t n ps asn bd df, []⟩) ∧ Var V (W.next + 1) 4 [.bool false] ∧ ¬ LikeP n ss l)
      (b64 s7 i) (fun left k V hC hl hb1 hb2 => ?_) ⟨own5, rfl, hEe5.2 _ (by omega) (fun x => x), fun q h => h, fun q h h' => by rw [h] at h'; cases h'⟩ (hBc.ext hEc5)).mono ?_
    · obtain ⟨c1, c2, c3, c4, c5⟩ := hC
      have hl' := c2.trans hlp
      rw [hz] at hl'
      have hkq : (g1 i).testBit k = true := c4 k hb1
      have hkn : k < n := bit_lt (s7.lt i) hkq
      refine ⟨tabs_only hTe (by omega) c1.2.1 (by omega), _, _, _, _, _, _, _, _, _, _, tm.set 85 (.int .i64 (k : Nat)), hl', rfl, ?_⟩
      refine wpR ?_
      try simp only [wpK_assoc]
      refine wpK_reg1 (fun R hR => by simp []; exact hR) ?_
      refine ⟨rfl, _, _, _, _, _, _, _, _, hl', ?_⟩
      rw [← hz] at hl' ⊢
      generalize hbz : (AObj.loop LoopState.busy _ _ _ _ _ _ _ _) = bz
      obtain ⟨Vy, hVy, hOy, hny⟩ : ∃ Vy, Vy = V.setObj (z + 1) bz ∧ Only (fun b => b = z + 1) V Vy ∧ Vy.next = V.next := ⟨_, rfl, setObj_only _ _ _, rfl⟩
      rw [← hVy]
      have hly : Vy.blocks.get (z + 1) = some ⟨bz, []⟩ := by rw [hVy, setObj_get, if_pos rfl]
      have owny := own c1 hOy (fun b hb => .inr (.inl hb))
      obtain ⟨y1, y2, y3, y4, y5⟩ := owny
      have hTy := tabs_only hTe (by omega) y2 (by omega)
      have hCy : ChartAt Vy c n (toS ss) := hCe.only y2 (by omega)
      have e7y : SetsAt Vy p7 g1 := Var.only e7 y2 (by omega)
      have e8y : SetsAt Vy (p7 + 1) g2 := Var.only e8 y2 (by omega)
      have b5y := (b5e.only y2 (by omega)).load1 (T := T0) und81 rfl (j := 0) (v := .pointer (some ⟨c, 0, none⟩)) rfl
      have l12y := y3.load1 (T := T0) und3 rfl (j := 0) (v := .int .i64 (i : Int)) rfl
      have cVy : Vy.blocks.get (W.next + 1) = We.blocks.get (W.next + 1) := by rw [hOy.2 _ (by omega) (by omega)]; exact c3
      have ask1 := answered_wp hCy e7y hTy (by omega) hto (b64 s7) (p := i) (q := k) (by omega) (by omega)
      refine wpK_block1 ?_
      have v4V : ∀ {V' : AW}, Ext Vy V' → Var V' (W.next + 1) 4 [.bool false] := fun hE => by
        refine Var.ext ?_ hE
        obtain ⟨q1, cc, q2, q3⟩ := v4e
        exact ⟨by omega, cc, by rw [cVy]; exact q2, q3⟩
      by_cases hA : ansP (toS ss) g1 i k
      case neg =>
        rw [decide_eq_false hA] at ask1
        try simp only [wpK_assoc]
        refine wpK_x0 (P := fun Vz => Ext Vy Vz) (fun R hR => by
          simp [h5, h7, h12, b5y, l12y, aEnter, fun56, short_other, aCallV]; rw [callS_none]
          refine ask1.mono ?_
          rintro _ Vz ⟨hEz, rfl⟩
          simp [undef]; exact hR Vz hEz) ?_
        rintro Vz hEz
        try simp only [wpK_assoc]
        first | refine wpK_onT (by simp []) ?_ | refine wpK_outT (by simp []) ?_ | refine wpK_condT (by simp []) ?_ | refine wpK_endT (by simp []) ?_
        have v4z := v4V hEz
        obtain ⟨Vr, w1, w2, w3, w4⟩ := v4z.store (T := T0) (t := 4) (v := .bool false) (o := 0) inf4 (by rw [is4]; rfl) (by simp) rfl
        have w4 : Var Vr (W.next + 1) 4 [.bool false] := by simpa using w4
        try simp only [wpK_assoc]
        refine wpK_reg (fun R hR => by simp [h4, w1]; exact hR) ?_
        refine wpK_ret ?_
        simp only [leaves_ret]
        have ownz := own (own ⟨y1, y2, y3, y4, y5⟩ hEz (fun b hb => hb.elim)) w3 (fun b hb => .inl hb)
        have hlz : Vr.blocks.get (z + 1) = some ⟨bz, []⟩ := by rw [w3.2 (z + 1) (by have := hEz.1; omega) (by omega), hEz.2 (z + 1) (by omega) (fun x => x)]; exact hly
        subst hbz
        refine ⟨_, _, _, _, _, _, _, _, _, hlz, false, rfl, (fun h => by cases h), fun _ => ⟨own ownz (setObj_only Vr (z + 1) _) (fun b hb => .inr (.inl hb)), ⟨_, _, _, _, _, _, _, (by rw [setObj_get, if_pos rfl]; rfl)⟩, w4.only (setObj_only Vr (z + 1) _) (by omega), fun hL => hA ((hLike.1 hL) i k hlt hkq).1⟩⟩
      rw [decide_eq_true hA] at ask1
      by_cases hB : ansP (toS ss) g2 k i
      case neg =>
        try simp only [wpK_assoc]
        refine wpK_x0 (P := fun Vz => Ext Vy Vz) (fun R hR => by
          simp [h5, h7, h12, b5y, l12y, aEnter, fun56, short_other, aCallV]; rw [callS_none]
          refine ask1.mono ?_
          rintro _ Vx ⟨hEx2, rfl⟩
          have ask2 := answered_wp (hCy.ext hEx2) (Var.ext e8y hEx2) (tabs_ext hTy (by omega) hEx2) (by have := hEx2.1; omega) hto (b64 s8) (p := k) (q := i) (by omega) (by omega)
          rw [decide_eq_false hB] at ask2
          have b5x := ((b5e.only y2 (by omega)).ext hEx2).load1 (T := T0) und81 rfl (j := 0) (v := .pointer (some ⟨c, 0, none⟩)) rfl
          have l12x := (y3.ext hEx2).load1 (T := T0) und3 rfl (j := 0) (v := .int .i64 (i : Int)) rfl
          simp [h5, h8, h12, b5x, l12x, aEnter, fun56, short_other, aCallV]; rw [callS_none]
          refine ask2.mono ?_
          rintro _ Vz ⟨hEz, rfl⟩
          have hEz' := hEx2.trans hEz
          simp; exact hR Vz hEz') ?_
        rintro Vz hEz
        try simp only [wpK_assoc]
        first | refine wpK_onT (by simp []) ?_ | refine wpK_outT (by simp []) ?_ | refine wpK_condT (by simp []) ?_ | refine wpK_endT (by simp []) ?_
        have v4z := v4V hEz
        obtain ⟨Vr, w1, w2, w3, w4⟩ := v4z.store (T := T0) (t := 4) (v := .bool false) (o := 0) inf4 (by rw [is4]; rfl) (by simp) rfl
        have w4 : Var Vr (W.next + 1) 4 [.bool false] := by simpa using w4
        try simp only [wpK_assoc]
        refine wpK_reg (fun R hR => by simp [h4, w1]; exact hR) ?_
        refine wpK_ret ?_
        simp only [leaves_ret]
        have ownz := own (own ⟨y1, y2, y3, y4, y5⟩ hEz (fun b hb => hb.elim)) w3 (fun b hb => .inl hb)
        have hlz : Vr.blocks.get (z + 1) = some ⟨bz, []⟩ := by rw [w3.2 (z + 1) (by have := hEz.1; omega) (by omega), hEz.2 (z + 1) (by omega) (fun x => x)]; exact hly
        subst hbz
        refine ⟨_, _, _, _, _, _, _, _, _, hlz, false, rfl, (fun h => by cases h), fun _ => ⟨own ownz (setObj_only Vr (z + 1) _) (fun b hb => .inr (.inl hb)), ⟨_, _, _, _, _, _, _, (by rw [setObj_get, if_pos rfl]; rfl)⟩, w4.only (setObj_only Vr (z + 1) _) (by omega), fun hL => hB ((hLike.1 hL) i k hlt hkq).2⟩⟩
      try simp only [wpK_assoc]
      refine wpK_x0 (P := fun Vz => Ext Vy Vz) (fun R hR => by
        simp [h5, h7, h12, b5y, l12y, aEnter, fun56, short_other, aCallV]; rw [callS_none]
        refine ask1.mono ?_
        rintro _ Vx ⟨hEx2, rfl⟩
        have ask2 := answered_wp (hCy.ext hEx2) (Var.ext e8y hEx2) (tabs_ext hTy (by omega) hEx2) (by have := hEx2.1; omega) hto (b64 s8) (p := k) (q := i) (by omega) (by omega)
        rw [decide_eq_true hB] at ask2
        have b5x := ((b5e.only y2 (by omega)).ext hEx2).load1 (T := T0) und81 rfl (j := 0) (v := .pointer (some ⟨c, 0, none⟩)) rfl
        have l12x := (y3.ext hEx2).load1 (T := T0) und3 rfl (j := 0) (v := .int .i64 (i : Int)) rfl
        simp [h5, h8, h12, b5x, l12x, aEnter, fun56, short_other, aCallV]; rw [callS_none]
        refine ask2.mono ?_
        rintro _ Vz ⟨hEz, rfl⟩
        have hEz' := hEx2.trans hEz
        simp; exact hR Vz hEz') ?_
      rintro Vz hEz
      try simp only [wpK_assoc]
      first | refine wpK_onF (by simp []) ?_ | refine wpK_out (by simp []) ?_ | refine wpK_condF (by simp []) ?_ | refine wpK_endF (by simp []) (wpK_skip ?_) | refine wpK_endF (by simp []) ?_
      simp only [leaves_normal]
      have ownz := own ⟨y1, y2, y3, y4, y5⟩ hEz (fun b hb => hb.elim)
      have hlz : Vz.blocks.get (z + 1) = some ⟨bz, []⟩ := by rw [hEz.2 (z + 1) (by omega) (fun x => x)]; exact hly
      have cVz : Vz.blocks.get (W.next + 1) = We.blocks.get (W.next + 1) := by rw [hEz.2 _ (by omega) (fun x => x)]; exact cVy
      subst hbz
      refine ⟨_, _, _, _, _, _, _, _, _, hlz, true, rfl, fun _ => ⟨own ownz (setObj_only Vz (z + 1) _) (fun b hb => .inr (.inl hb)), by rw [setObj_get, if_pos rfl]; exact hlp.symm, by rw [setObj_get, if_neg (by omega)]; exact cVz, fun q hq => ?_, fun q hq hq2 => ?_⟩, (fun h => by cases h)⟩
      · rw [dropLow_bit hb1 hb2, Bool.and_eq_true] at hq
        exact c4 q hq.1
      · rw [dropLow_bit hb1 hb2] at hq2
        by_cases e : q = k
        · subst e; exact ⟨hA, hB⟩
        · exact c5 q hq (by simpa [-testBit_dec, e] using hq2)
    · rintro _ W6 (⟨c1, c2, c3, c4, c5⟩ | ⟨c1, ⟨_, _, _, _, _, _, _, c2⟩, c3, c4⟩)
      · have hl6 := c2.trans hlp
        rw [hz] at hl6
        refine ⟨_, _, _, _, _, _, _, _, _, hl6, (fun h => by cases h), ?_⟩
        rw [← hz]
        generalize hex : (AObj.loop LoopState.exhausted _ _ _ _ _ _ _ _) = ex
        obtain ⟨W7, hW7, hO7⟩ : ∃ W7, W7 = W6.setObj (z + 1) ex ∧ Only (fun b => b = z + 1) W6 W7 := ⟨_, rfl, setObj_only _ _ _⟩
        rw [← hW7]
        have own7 := own c1 hO7 (fun b hb => .inr (.inl hb))
        have n7 := hO7.1
        have cW7 : W7.blocks.get (W.next + 1) = We.blocks.get (W.next + 1) := by rw [hO7.2 _ (by omega) (by omega)]; exact c3
        have hE7 : Ext We W7 := ⟨own7.2.1.1, fun b hb _ => by
          by_cases e : b = W.next + 1
          · subst e; exact cW7
          · exact own7.2.1.2 b hb e⟩
        simp only [goOn, leaves_normal, behind_normal]
        try simp only [wpK_assoc]
        refine wpK_reg1 (fun R hR => by simp [h78]; exact hR) ?_
        refine hI (n - (i + 1)) _ _ (by omega) ⟨rfl, by simp [h4], by simp [h5], by simp [h7], by simp [h8], by simp [h77], i + 1, by simp [i64_succ i (by omega)], rfl, by omega, ⟨z, by simp [hz], by omega, by omega, own7.2.2.2.1, fun d hd e => ?_, own7.2.2.2.2⟩, hE7, fun p q hp hb => ?_⟩
        · have := hlow d hd z e
          omega
        · by_cases e : p = i
          · subst e; exact c5 q hb (by simp [-testBit_dec])
          · exact hdone p q (by omega) hb
      · rw [hz] at c2
        refine ⟨_, _, _, _, _, _, _, _, _, c2, (fun h => by cases h), ?_⟩
        rw [← hz]
        generalize hex : (AObj.loop LoopState.exhausted _ _ _ _ _ _ _ _) = ex
        obtain ⟨W7, hW7, hO7⟩ : ∃ W7, W7 = W6.setObj (z + 1) ex ∧ Only (fun b => b = z + 1) W6 W7 := ⟨_, rfl, setObj_only _ _ _⟩
        rw [← hW7]
        have own7 := own c1 hO7 (fun b hb => .inr (.inl hb))
        have n7 := hO7.1
        simp only [goOn, leaves_ret, behind_ret]
        refine hRt _ _ ⟨by simp [h4], ⟨z, by simp [hz], by omega, by omega, own7.2.2.2.1, fun d hd e => ?_, own7.2.2.2.2⟩, own7.2.1, c3.only hO7 (by omega), c4⟩
        have := hlow d hd z e
        omega
  · rintro A' W' ⟨h4, hMk, hO, hV, hN⟩
    obtain ⟨W'', g1, g2⟩ := hMk.collects
    have l4 := (hV.only g2 (by omega)).load1 (T := T0) und4 rfl (j := 0) (v := .bool false) rfl
    refine ⟨.inr rfl, W'', g1, [.bool false], by simp [h4, l4], ⟨by have := hO.1; have := g2.1; omega, fun b hb _ => by rw [g2.2 b (by have := hO.1; omega) (by omega), hO.2 b (by omega) (by omega), hO0.2 b hb (by omega)]⟩, ?_⟩
    rw [decide_eq_false hN]; rfl
  · rintro A' W' ⟨hn', h4, hMk, hE, hL⟩
    have v4z := v4e.ext hE
    obtain ⟨Wz, w1, w2, w3, w4⟩ := v4z.store (T := T0) (t := 4) (v := .bool true) (o := 0) inf4 (by rw [is4]; rfl) (by simp) rfl
    have w4 : Var Wz (W.next + 1) 4 [.bool true] := by simpa using w4
    have hMz := hMk.only w3 (fun d hd r hr h1 _ hk => by omega)
    obtain ⟨W'', g1, g2⟩ := hMz.collects
    have l4 := (w4.only g2 (by omega)).load1 (T := T0) und4 rfl (j := 0) (v := .bool true) rfl
    obtain ⟨tm, n', ds⟩ := A'
    simp only at hn' h4 g1
    subst hn'
    try simp only [wpK_assoc]
    refine wpK_reg (fun R hR => by simp [h4, w1]; exact hR) ?_
    refine wpK_ret ⟨.inr rfl, W'', g1, [.bool true], by simp [h4, l4], ⟨by have := hE.1; have := g2.1; have := w3.1; omega, fun b hb _ => by rw [g2.2 b (by have := hE.1; omega) (by omega), w3.2 b (by have := hE.1; omega) (by omega), hE.2 b (by omega) (fun x => x), hO0.2 b hb (by omega)]⟩, ?_⟩
    rw [decide_eq_true hL]; rfl

end Go.Proofs.YtfnigiojgbeklaaDoor

open Go Go.Eng
namespace Go.Proofs.YtfnigiojgbeklaaDoor
attribute [local congr] undef_congr WpK.congr WpS.congr WpL.congr WpC.congr WpF.congr gotS.congr callS.congr nextS.congr wantS.congr condS.congr
attribute [local irreducible] WpK
attribute [local simp] WpDr_nil WpDr_cons atS_some dwantS_true dwantS_false kindS_light kindS_float kindS_heavy lightS_value floatS_some heavyS_value heavyS_skip heavyS_enter dcallS_some doneS_eq
  isLight isFloat isPlain dLook testBit_dec dChain dLights_nil dLights_skip dLights_one dLight_nil dLight_cons dFreshes_nil dFreshes_one oneF_none oneF_some dFresh_nil dFresh_cons oneL_some oneW_true oneW_false sameV_value dPut dMay valEq arrEq listEq List.getElem?_cons Tr.get_nil dEnd
attribute [local simp] WpS_nil WpS_cons isDefer undef_false wantS_true wantS_false nextS_value nextS_skip nextS_enter callS_some gotS_some aWanted aOp aEvalF aEval opMove opAssign opPick aVal flat flat1 AAct.put opBinOp opConvert opIndex Tr.get_set Tr.get_lay aBin aResults tupled
  aCall aVals aCallB blt_dec ble_dec beq_dec aBinI_add aBinI_sub aBinI_lss aBinI_leq aBinI_gtr aBinI_geq aBinI_eql aBinI_neq index_str len_str len_slice Nat.beq_refl Nat.beq_refl
  opBox opLoad opFieldAddr opIndexAddr acells aAddr opExtract aExtract opUnOp opAlloc opStore opMakeInterface opNilCheck opBuild aParts opBuildSlice aValW
attribute [local simp] und2 und3 und4 und5 und9 und12 und13 und21 und22 und23 und24 und26 und27 und28 und30 und31 und34 und40 und43 und48 und49 und50 und54 und70 und71 und72 und79 und81 und86 und88 und89 und94 und99 und108 und109 und110 und118 und119 und120 und121 und123 und134 und143 und144 und145 und146 und148 und149 und150 und153 und154 und155 und157 und165 und167 und168 und178 und179 und187 und188 und189 und190 und191 und192 und193 und199 und214 und218 field13_0 field13_1 field23_0 field23_1 field24_0 field24_1 field27_0 field27_1 field28_0 field28_1 field49_0 field49_1 field49_2 field50_0 field50_1 field50_2 field70_0 field70_1 field70_2 field71_0 field71_1 field71_2 field72_0 field72_1 field72_2 field108_0 field108_1 field108_2 field109_0 field109_1 field109_2 field120_0 field120_1 field121_0 field121_1 field145_0 field145_1 field145_2 field146_0 field146_1 field146_2 field154_0 field154_1 field155_0 field155_1 field178_0 field178_1 field178_2 field178_3 field179_0 field179_1 field179_2 field179_3 field188_0 field188_1 field189_0 field189_1
set_option maxHeartbeats 4000000
set_option linter.unusedSimpArgs false
set_option linter.unusedVariables false
theorem bs34 (W : AW) (a b : Int) : aBuildSlice T0 W 34 1 [(0, .agg ⟨[.int .i64 a, .int .i64 b]⟩)] = some (.slice (some ⟨W.next, 0, none⟩) 1 2, W.newCells 40 [.int .i64 a, .int .i64 b]) := by kernel_rfl
theorem build40 (a b : Int) : aBuild T0 40 [(0, .int .i64 a), (1, .int .i64 b)] = some (.agg ⟨[.int .i64 a, .int .i64 b]⟩) := by kernel_rfl
theorem fltb34 {ρ : Operand → Option Value} {x : Operand} {a b : Int} (hx : ρ x = some (.agg ⟨[.int .i64 a, .int .i64 b]⟩)) : aFlt T0 ρ (.buildSlice 34 1 #[(0, x)]) = some ⟨40, [.int .i64 a, .int .i64 b], false, 1, 1⟩ := by
  have hp : aParts ρ [(0, x)] = some [(0, .agg ⟨[.int .i64 a, .int .i64 b]⟩)] := by simp only [aParts, hx]
  simp only [aFlt, hp, und34, inf40, z40, is40]
  rfl
theorem grow_pair {W : AW} {v : Value} {l : List (Int × Int)} {K : Nat → Prop} (h : GrowsN W v l.length (flatE encP l) 40 2 K) (hm : l.length ≤ 100000) (a b : Int) :
    ∃ v' W', aAppend T0 (W.newCells 40 [.int .i64 a, .int .i64 b]) [34, 34] [v, .slice (some ⟨W.next, 0, none⟩) 1 2] = some (v', W') ∧ W'.next = W.next + 2 ∧ GrowsN W' v' (l ++ [(a, b)]).length (flatE encP (l ++ [(a, b)])) 40 2 (fun b => K b ∨ b = W.next + 1) ∧ Only K W W' := by
  have hE : Ext W (W.newCells 40 [.int .i64 a, .int .i64 b]) := .newCells _ _ _
  have hV := Var.new W 40 [.int .i64 a, .int .i64 b]
  have hx' : (W.newCells 40 [.int .i64 a, .int .i64 b]).cellsAt W.next 0 2 = some [.int .i64 a, .int .i64 b] := by
    rw [hV.cellsAt 0 2 (by simp)]; rfl
  obtain ⟨v', W', g1, g2, g3, g4⟩ := append_growsN (T := T0) (t := 34) (by omega) und34 inf40 is40 z40 rfl (h.only (K' := fun _ => False) hE (fun _ _ _ x => x)) (u := [.int .i64 a, .int .i64 b]) (bx := W.next) (c := 2) rfl hx' rfl (by rw [by40]; omega) (by omega)
  refine ⟨v', W', g1, by rw [g2, newCells_next], ?_, ⟨by rw [g2, newCells_next]; omega, fun b hb hk => ?_⟩⟩
  · rw [flatE_append, flatE_one, List.length_append]
    exact g3.mono (fun b hb => hb.elim .inl (fun e => .inr (by rw [newCells_next] at e; omega)))
  · rw [g4.2 b (by rw [newCells_next]; omega) hk, newCells_get, if_neg (by omega)]
open Classical in
theorem taskLikeness_wp {W : AW} {v lv : Value} (P : Int) {es : List Tri} {l : List (Int × Int)} (h : StepR W v es) (hes : es.length < 9223372036854775808) (hr : PairR W lv l) (hso : SlOk lv l.length) (hll : l.length < 9223372036854775808) (hT : tabsIn T0 T0.tabs W = true) (hW0 : 0 < W.next) :
    WpF T0 6 [.agg ⟨[.int .i64 P, v]⟩, lv] W (fun u W' => Ext W W' ∧ u = .bool true) := by
  refine wpF fun6 rfl ?_
  obtain ⟨Al, cl, hlv⟩ := hr.len
  have vlv := row_eq hr
  have hlen : ∀ W', aLen T0 W' 34 lv = some (.int .i64 l.length) := fun W' => by rw [hlv]; exact len_slice und34 _ _ _
  obtain ⟨W1, hW1, hE1, v2⟩ : ∃ W1, W1 = W.newCells 24 [.int .i64 P, v] ∧ Ext W W1 ∧ Var W1 W.next 24 [.int .i64 P, v] := ⟨_, rfl, .newCells _ _ _, Var.new _ _ _⟩
  have l2 := load24 v2
  try simp only [wpK_assoc]
  refine wpK_reg (fun R hR => by simp [← hW1]; exact hR) ?_
  try simp only [wpK_assoc]
  refine wpK_x3 (P := fun (n : Nat) ov p5 W3 => Ext W W3 ∧ ∃ xs, 1 ≤ n ∧ n ≤ 6 ∧ GoodS n 3 xs ∧ xs.length ≤ 12 ∧ StepR W3 ov xs ∧ W.next ≤ p5 ∧ Var W3 p5 24 [.int .i64 (n : Int), ov]) (fun R hR => by
    simp [l2, aEnter, fun10, short_other, aCallV]; rw [callS_none]
    refine (tame_wp P (h.ext hE1) hes 6 12 3 (by omega) (by omega) (by omega) (by omega) (by omega)).mono ?_
    rintro _ W2 ⟨hE2, n, ov, xs, rfl, q1, q2, q3, q4, q5⟩
    obtain ⟨Ao, co, hov⟩ := q5.len
    obtain ⟨W3, g1, g2, g3, g4⟩ := storeVar_new (T := T0) (W := W2) (t := 24) (z := [.int .i64 0, .slice none 0 0]) (v := .agg ⟨[.int .i64 (n : Int), ov]⟩) inf24 (by rw [is24]; rfl) (by rw [is24]; rfl) (by rw [hov]; rfl)
    have g4 : Var W3 W2.next 24 [.int .i64 (n : Int), ov] := g4
    have hP : Ext W W3 ∧ ∃ xs, 1 ≤ n ∧ n ≤ 6 ∧ GoodS n 3 xs ∧ xs.length ≤ 12 ∧ StepR W3 ov xs ∧ W.next ≤ W2.next ∧ Var W3 W2.next 24 [.int .i64 (n : Int), ov] := ⟨(hE1.trans hE2).trans g3, xs, q1, q2, q3, q4, q5.ext g3, (hE1.trans hE2).1, g4⟩
    generalize hp5 : W2.next = p5 at g1 g2 g4 hP
    simp [zero24, hp5, g1]
    exact hR n ov p5 W3 hP) ?_
  rintro n ov p5 W3 ⟨hE3, xs, n1, n6, hg, hx12, hS3, hp5, v5⟩
  have l5 := load24 v5
  try simp only [wpK_assoc]
  refine wpK_x2 (P := fun gv p6 W5 => Ext W3 W5 ∧ StepR W5 gv xs ∧ W3.next ≤ p6 ∧ Var W5 p6 28 [.int .i64 (n : Int), gv]) (fun R hR => by
    simp [l5, aEnter, fun11, short_other, aCallV]; rw [callS_none]
    refine (give_wp n hS3 (by omega) (by omega)).mono ?_
    rintro _ W4 ⟨hE4, gv, rfl, hS4⟩
    obtain ⟨Ao, co, hov⟩ := hS4.len
    obtain ⟨W5, g1, g2, g3, g4⟩ := storeVar_new (T := T0) (W := W4) (t := 28) (z := [.int .i64 0, .slice none 0 0]) (v := .agg ⟨[.int .i64 (n : Int), gv]⟩) inf28 (by rw [is28]; rfl) (by rw [is28]; rfl) (by rw [hov]; rfl)
    have g4 : Var W5 W4.next 28 [.int .i64 (n : Int), gv] := g4
    have hP : Ext W3 W5 ∧ StepR W5 gv xs ∧ W3.next ≤ W4.next ∧ Var W5 W4.next 28 [.int .i64 (n : Int), gv] := ⟨hE4.trans g3, hS4.ext g3, hE4.1, g4⟩
    generalize hp6 : W4.next = p6 at g1 g2 g4 hP
    simp [zero28, hp6, g1]
    exact hR gv p6 W5 hP) ?_
  rintro gv p6 W5 ⟨hE5, hS5, hp6, v6⟩
  try simp only [wpK_assoc]
  refine wpK_reg (fun R hR => by simp []; exact hR) ?_
  have hE05 := hE3.trans hE5
  have hr5 := hr.ext hE05
  obtain ⟨ka, hka⟩ : ∃ k : Nat, k = min l.length 20 := ⟨_, rfl⟩
  have mka : min (l.length : Int) 20 = (ka : Int) := by omega
  obtain ⟨u', s1, s2, s3⟩ := RowIn.slice (T := T0) und34 sz40 hso hr5 (k := ka) (by omega)
  have hlk : (l.take ka).length = ka := by rw [List.length_take]; omega
  obtain ⟨tv, W6, k1, k2, k3, k4, k5⟩ := (GrowsN.nil W5 40 2 (fun _ => False)).appRow (T := T0) (t := 34) encP_len encP_one (by omega) und34 inf40 is40 z40 rfl s3 (by rw [hlk, by40]; omega) (by omega)
  have hE6 : Ext W5 W6 := k5
  rw [List.nil_append, Nat.zero_add] at k4
  have hR6 : PairR W6 tv (l.take ka) := k4.row encP_len
  try simp only [wpK_assoc]
  refine wpK_reg (fun R hR => by simp [opSlice, aOpt, hlen, min_int, mka, s1, k1]; exact hR) ?_
  try simp only [wpK_assoc]
  refine wpK_reg (fun R hR => by simp []; exact hR) ?_
  have hE06 := hE05.trans hE6
  have nE6 := hE6.1
  have nE5 := hE5.1
  have nE3 := hE3.1
  have v5' := v5.ext (hE5.trans hE6)
  have v6' := v6.ext hE6
  have hS36 := hS3.ext (hE5.trans hE6)
  have hS56 := hS5.ext hE6
  have hlv2 : (l.take ka).length ≤ 20 := by omega
  try simp only [wpK_assoc]
  refine wpK_while (I := fun q A' W' => A'.n = 106 ∧ A'.defers = [] ∧ A'.tmps.get 1 = some (lv) ∧ A'.tmps.get 5 = some (.pointer (some ⟨p5, 0, none⟩)) ∧ A'.tmps.get 6 = some (.pointer (some ⟨p6, 0, none⟩)) ∧ Ext W6 W' ∧ ∃ (k : Nat) (tv : Value) (pl : List (Int × Int)), A'.tmps.get 8 = some (.int .i64 (k : Int)) ∧ A'.tmps.get 7 = some tv ∧ q = 3 - k ∧ k ≤ 3 ∧ PairR W' tv pl ∧ pl.length ≤ 100)
    (J := fun A' W' => A'.n = 106 ∧ A'.defers = [] ∧ A'.tmps.get 1 = some (lv) ∧ A'.tmps.get 5 = some (.pointer (some ⟨p5, 0, none⟩)) ∧ A'.tmps.get 6 = some (.pointer (some ⟨p6, 0, none⟩)) ∧ Ext W6 W') (Rt := fun _ _ => False) (k := 3) ?_ ?_ ?_ ?_
  · exact ⟨rfl, rfl, by simp, by simp, by simp, .refl _ _, 0, tv, l.take ka, by simp, by simp, rfl, by omega, hR6, by omega⟩
  · rintro q ⟨tm, n, ds⟩ Wa ⟨hn, hd, h1, h5, h6, hEa, k, tw, pl, h8, h7, hq, hk3, hRp, hpl⟩ Q' hJ hRt hI
    simp only at hn hd h1 h5 h6
    subst hn; subst hd
    simp only at h8 h7
    by_cases hlt : k < 3
    case neg =>
      have e : k = 3 := by omega
      subst e
      try simp only [wpK_assoc]
      refine wpK_reg (fun R hR => by simp [h8]; exact hR) ?_
      try simp only [wpK_assoc]
      first | refine wpK_onF (by simp []) ?_ | refine wpK_out (by simp []) ?_ | refine wpK_condF (by simp []) ?_ | refine wpK_endF (by simp []) (wpK_skip ?_) | refine wpK_endF (by simp []) ?_
      exact hJ _ _ ⟨rfl, rfl, by simp [h1, h5, h6], by simp [h1, h5, h6], by simp [h1, h5, h6], hEa⟩
    have hlt' : (k : Int) < 3 := by omega
    try simp only [wpK_assoc]
    refine wpK_reg (fun R hR => by simp [h8, hlt']; exact hR) ?_
    try simp only [wpK_assoc]
    first | refine wpK_onT (by simp [hlt]) ?_ | refine wpK_outT (by simp [hlt]) ?_ | refine wpK_condT (by simp [hlt]) ?_ | refine wpK_endT (by simp [hlt]) ?_
    have na := hEa.1
    have l5x : ∀ W', Ext W6 W' → aLoadVar T0 W' 24 p5 0 = some (.agg ⟨[.int .i64 (n : Int), ov]⟩) := fun W' hE => load24 (v5'.ext hE)
    have l6x : ∀ W', Ext W6 W' → aLoadVar T0 W' 28 p6 0 = some (.agg ⟨[.int .i64 (n : Int), gv]⟩) := fun W' hE => load28 (v6'.ext hE)
    have hTa := tabs_ext hT hW0 (hE06.trans hEa)
    have q1 := isLikeness_wp (hS56.ext hEa) hg n1 (by omega) (by omega) (by omega) hRp (by omega) hTa (by omega)
    obtain ⟨d, hd⟩ : ∃ d, d = decide (LikeP n xs pl) := ⟨_, rfl⟩
    rw [← hd] at q1
    have vtw := row_eq hRp
    obtain ⟨Ao, co, hov⟩ := hS3.len
    obtain ⟨Ag, cg, hgv⟩ := hS5.len
    have vov := row_eq hS3
    have vgv := row_eq hS5
    refine wpK_block ?_
    have q2 := fun {Wb : AW} (hEb : Ext Wa Wb) => refLike_wp ((hS36.ext hEa).ext hEb) hg n1 (by omega) (by omega) (by omega) (hRp.ext hEb) (by omega)
    rw [← hd] at q2
    have hcmp : ∀ b : Bool, (b != b) = false := fun b => by cases b <;> rfl
    try simp only [wpK_assoc]
    refine wpK_d0 (wr := Tr.nil |>.set 27 0 |>.set 28 1 |>.set 29 2 |>.set 30 3 |>.set 31 4 |>.set 32 5 |>.set 33 6) (bits := Tr.nil.lay 0 [0, 0, 3, 0, 0, 31, 63]) (ord := [0, 1, 2, 3, 4, 5, 6]) (by kernel_rfl) (by kernel_rfl) (by kernel_rfl) (fun G hG => by
      simp [h5, h6, h7, l5x Wa hEa, l6x Wa hEa, aEnter, fun29, fun30, short_other, aCallV]
      rw [dcallS_none]
      refine q1.mono ?_
      rintro _ Wb ⟨hEb, rfl⟩
      have hEb' := hEa.trans hEb
      simp [hEb.1, h5, h6, h7, l5x Wa hEa, l5x Wb hEb', l6x Wa hEa, l6x Wb hEb', vtw, vov, vgv, aEnter, fun29, fun30, short_other, aCallV]
      rw [dcallS_none]
      refine (q2 hEb).mono ?_
      rintro _ Wc ⟨hEc, rfl⟩
      have hEc' := hEb'.trans hEc
      simp [hEb.1, hEc.1, h5, h6, h7, l5x Wa hEa, l5x Wb hEb', l5x Wc hEc', l6x Wa hEa, l6x Wb hEb', l6x Wc hEc', vtw, vov, vgv, aGuard, aBinO, aEq]
      exact hG Wc (hEb.trans hEc)) ?_
    rintro Wc hEc
    try simp only [wpK_assoc]
    first | refine wpK_onF (by simp []) ?_ | refine wpK_out (by simp []) ?_ | refine wpK_condF (by simp []) ?_ | refine wpK_endF (by simp []) (wpK_skip ?_) | refine wpK_endF (by simp []) ?_
    have hEac := hEa.trans hEc
    refine wpK_keep (fun tm' => tm'.get 1 = some (lv) ∧ tm'.get 5 = some (.pointer (some ⟨p5, 0, none⟩)) ∧ tm'.get 6 = some (.pointer (some ⟨p6, 0, none⟩)) ∧ tm'.get 8 = some (.int .i64 (k : Int))) ⟨by simp [h1, h5, h6, h8], by simp [h1, h5, h6, h8], by simp [h1, h5, h6, h8], by simp [h1, h5, h6, h8]⟩ ?_
    rintro tm ⟨h1, h5, h6, h8⟩
    have l5c := l5x Wc hEac
    try simp only [wpK_assoc]
    refine wpK_x2 (P := fun (cb : Nat) (g : Nat → Int) Wd => Ext Wc Wd ∧ NumsAt Wd cb n g) (fun R hR => by
      simp [h5, l5c, aEnter, fun17, short_other, aCallV]; rw [callS_none]
      refine (refClasses_wp (hS36.ext hEac) hg (by omega) (by omega)).mono ?_
      rintro _ Wd ⟨hEd, cb, g, kk, rfl, hN, _⟩
      simp; exact hR cb g Wd (And.intro hEd hN)) ?_
    rintro cb g Wd ⟨hEd, hNd⟩
    try simp only [wpK_assoc]
    refine wpK_reg (fun R hR => by simp []; exact hR) ?_
    try simp only [wpK_assoc]
    refine wpK_reg (fun R hR => by simp []; exact hR) ?_
    have hEad := hEac.trans hEd
    have nd := hEad.1
    refine wpK_keep (fun tm' => tm'.get 1 = some (lv) ∧ tm'.get 5 = some (.pointer (some ⟨p5, 0, none⟩)) ∧ tm'.get 6 = some (.pointer (some ⟨p6, 0, none⟩)) ∧ tm'.get 8 = some (.int .i64 (k : Int)) ∧ tm'.get 9 = some (rowV cb n) ∧ tm'.get 7 = some (.slice none 0 0) ∧ tm'.get 10 = some (.int .i64 0)) ⟨by simp [h1, h5, h6, h8], by simp [h1, h5, h6, h8], by simp [h1, h5, h6, h8], by simp [h1, h5, h6, h8], by simp [h1, h5, h6, h8], by simp [h1, h5, h6, h8], by simp [h1, h5, h6, h8]⟩ ?_
    rintro tm ⟨h1, h5, h6, h8, h9, h7, h10⟩
    have l50 : ∀ W', Ext Wd W' → aLoadVar T0 W' 3 p5 0 = some (.int .i64 (n : Int)) := fun W' hE => (v5'.ext (hEad.trans hE)).load1 (T := T0) und3 rfl (j := 0) (v := .int .i64 (n : Int)) rfl
    have vcb := rowV_eq cb n
    try simp only [wpK_assoc]
    refine wpK_while (I := fun q A' W' => A'.n = 106 ∧ A'.defers = [] ∧ A'.tmps.get 1 = some (lv) ∧ A'.tmps.get 5 = some (.pointer (some ⟨p5, 0, none⟩)) ∧ A'.tmps.get 6 = some (.pointer (some ⟨p6, 0, none⟩)) ∧ A'.tmps.get 8 = some (.int .i64 (k : Int)) ∧ A'.tmps.get 9 = some (rowV cb n) ∧ Ext Wd W' ∧ ∃ (i : Nat) (tx : Value) (pl : List (Int × Int)) (K : Nat → Prop), A'.tmps.get 10 = some (.int .i64 (i : Int)) ∧ A'.tmps.get 7 = some tx ∧ q = n - i ∧ i ≤ n ∧ GrowsN W' tx pl.length (flatE encP pl) 40 2 K ∧ (∀ b, K b → Wd.next ≤ b) ∧ pl.length ≤ 6 * i)
      (J := fun A' W' => A'.n = 106 ∧ A'.defers = [] ∧ A'.tmps.get 1 = some (lv) ∧ A'.tmps.get 5 = some (.pointer (some ⟨p5, 0, none⟩)) ∧ A'.tmps.get 6 = some (.pointer (some ⟨p6, 0, none⟩)) ∧ A'.tmps.get 8 = some (.int .i64 (k : Int)) ∧ A'.tmps.get 9 = some (rowV cb n) ∧ Ext Wd W' ∧ ∃ (tx : Value) (pl : List (Int × Int)) (K : Nat → Prop), A'.tmps.get 7 = some tx ∧ GrowsN W' tx pl.length (flatE encP pl) 40 2 K ∧ (∀ b, K b → Wd.next ≤ b) ∧ pl.length ≤ 36) (Rt := fun _ _ => False) (k := n) ?_ ?_ ?_ ?_
    · exact ⟨rfl, rfl, by simp [h1, h5, h6, h8, h9], by simp [h1, h5, h6, h8, h9], by simp [h1, h5, h6, h8, h9], by simp [h1, h5, h6, h8, h9], by simp [h1, h5, h6, h8, h9], .refl _ _, 0, _, [], fun _ => False, by simp [h10], by simp [h7], rfl, by omega, .nil _ _ _ _, fun b hb => hb.elim, by simp⟩
    · rintro q ⟨tm, n, ds⟩ We ⟨hn, hd, h1, h5, h6, h8, h9, hEe, i, tx, pl, K, h10, h7, hq, hil, hgr, hK, hpl⟩ Q2 hJ2 hRt2 hI2
      simp only at hn hd h1 h5 h6 h8 h9
      subst hn; subst hd
      simp only at h10 h7
      have l5e := l50 We hEe
      by_cases hit : i < n
      case neg =>
        have e : i = n := by omega
        subst e
        try simp only [wpK_assoc]
        refine wpK_reg (fun R hR => by simp [h5, h10, l5e]; exact hR) ?_
        try simp only [wpK_assoc]
        first | refine wpK_onF (by simp []) ?_ | refine wpK_out (by simp []) ?_ | refine wpK_condF (by simp []) ?_ | refine wpK_endF (by simp []) (wpK_skip ?_) | refine wpK_endF (by simp []) ?_
        exact hJ2 _ _ ⟨rfl, rfl, by simp [h1, h5, h6, h8, h9], by simp [h1, h5, h6, h8, h9], by simp [h1, h5, h6, h8, h9], by simp [h1, h5, h6, h8, h9], by simp [h1, h5, h6, h8, h9], hEe, tx, pl, K, by simp [h7], hgr, hK, by omega⟩
      have hit' : (i : Int) < n := by omega
      try simp only [wpK_assoc]
      refine wpK_reg (fun R hR => by simp [h5, h10, l5e, hit']; exact hR) ?_
      try simp only [wpK_assoc]
      first | refine wpK_onT (by simp [hit]) ?_ | refine wpK_outT (by simp [hit]) ?_ | refine wpK_condT (by simp [hit]) ?_ | refine wpK_endT (by simp [hit]) ?_
      refine wpK_block ?_
      try simp only [wpK_assoc]
      refine wpK_reg (fun R hR => by simp []; exact hR) ?_
      refine wpK_keep (fun tm' => tm'.get 1 = some (lv) ∧ tm'.get 5 = some (.pointer (some ⟨p5, 0, none⟩)) ∧ tm'.get 6 = some (.pointer (some ⟨p6, 0, none⟩)) ∧ tm'.get 8 = some (.int .i64 (k : Int)) ∧ tm'.get 9 = some (rowV cb n) ∧ tm'.get 10 = some (.int .i64 (i : Int)) ∧ tm'.get 7 = some (tx) ∧ tm'.get 11 = some (.int .i64 0)) ⟨by simp [h1, h5, h6, h7, h8, h9, h10], by simp [h1, h5, h6, h7, h8, h9, h10], by simp [h1, h5, h6, h7, h8, h9, h10], by simp [h1, h5, h6, h7, h8, h9, h10], by simp [h1, h5, h6, h7, h8, h9, h10], by simp [h1, h5, h6, h7, h8, h9, h10], by simp [h1, h5, h6, h7, h8, h9, h10], by simp [h1, h5, h6, h7, h8, h9, h10]⟩ ?_
      rintro tm ⟨h1, h5, h6, h8, h9, h10, h7, h11⟩
      try simp only [wpK_assoc]
      refine wpK_while1 (I := fun q A' W' => A'.n = 106 ∧ A'.defers = [] ∧ A'.tmps.get 1 = some (lv) ∧ A'.tmps.get 5 = some (.pointer (some ⟨p5, 0, none⟩)) ∧ A'.tmps.get 6 = some (.pointer (some ⟨p6, 0, none⟩)) ∧ A'.tmps.get 8 = some (.int .i64 (k : Int)) ∧ A'.tmps.get 9 = some (rowV cb n) ∧ A'.tmps.get 10 = some (.int .i64 (i : Int)) ∧ Ext Wd W' ∧ ∃ (j : Nat) (tx : Value) (pl : List (Int × Int)) (K : Nat → Prop), A'.tmps.get 11 = some (.int .i64 (j : Int)) ∧ A'.tmps.get 7 = some tx ∧ q = n - j ∧ j ≤ n ∧ GrowsN W' tx pl.length (flatE encP pl) 40 2 K ∧ (∀ b, K b → Wd.next ≤ b) ∧ pl.length ≤ 6 * i + j)
        (J := fun A' W' => A'.n = 106 ∧ A'.defers = [] ∧ A'.tmps.get 1 = some (lv) ∧ A'.tmps.get 5 = some (.pointer (some ⟨p5, 0, none⟩)) ∧ A'.tmps.get 6 = some (.pointer (some ⟨p6, 0, none⟩)) ∧ A'.tmps.get 8 = some (.int .i64 (k : Int)) ∧ A'.tmps.get 9 = some (rowV cb n) ∧ A'.tmps.get 10 = some (.int .i64 (i : Int)) ∧ Ext Wd W' ∧ ∃ (tx : Value) (pl : List (Int × Int)) (K : Nat → Prop), A'.tmps.get 7 = some tx ∧ GrowsN W' tx pl.length (flatE encP pl) 40 2 K ∧ (∀ b, K b → Wd.next ≤ b) ∧ pl.length ≤ 6 * (i + 1)) (Rt := fun _ _ => False) (k := n) ?_ ?_ ?_ ?_
      · exact ⟨rfl, rfl, by simp [h1, h5, h6, h8, h9, h10], by simp [h1, h5, h6, h8, h9, h10], by simp [h1, h5, h6, h8, h9, h10], by simp [h1, h5, h6, h8, h9, h10], by simp [h1, h5, h6, h8, h9, h10], by simp [h1, h5, h6, h8, h9, h10], hEe, 0, tx, pl, K, by simp [h11], by simp [h7], rfl, by omega, hgr, hK, by omega⟩
      · rintro q ⟨tm, n, ds⟩ Wf ⟨hn, hd, h1, h5, h6, h8, h9, h10, hEf, j, tx, pl, K, h11, h7, hq, hjl, hgr, hK, hpl⟩ Q3 hJ3 hRt3 hI3
        simp only at hn hd h1 h5 h6 h8 h9 h10
        subst hn; subst hd
        simp only at h11 h7
        have l5f := l50 Wf hEf
        by_cases hjt : j < n
        case neg =>
          have e : j = n := by omega
          subst e
          try simp only [wpK_assoc]
          refine wpK_reg (fun R hR => by simp [h5, h11, l5f]; exact hR) ?_
          try simp only [wpK_assoc]
          first | refine wpK_onF (by simp []) ?_ | refine wpK_out (by simp []) ?_ | refine wpK_condF (by simp []) ?_ | refine wpK_endF (by simp []) (wpK_skip ?_) | refine wpK_endF (by simp []) ?_
          exact hJ3 _ _ ⟨rfl, rfl, by simp [h1, h5, h6, h8, h9, h10], by simp [h1, h5, h6, h8, h9, h10], by simp [h1, h5, h6, h8, h9, h10], by simp [h1, h5, h6, h8, h9, h10], by simp [h1, h5, h6, h8, h9, h10], by simp [h1, h5, h6, h8, h9, h10], hEf, tx, pl, K, by simp [h7], hgr, hK, by omega⟩
        have hjt' : (j : Int) < n := by omega
        try simp only [wpK_assoc]
        refine wpK_reg (fun R hR => by simp [h5, h11, l5f, hjt']; exact hR) ?_
        try simp only [wpK_assoc]
        first | refine wpK_onT (by simp [hjt]) ?_ | refine wpK_outT (by simp [hjt]) ?_ | refine wpK_condT (by simp [hjt]) ?_ | refine wpK_endT (by simp [hjt]) ?_
        have hNf : NumsAt Wf cb n g := Var.ext hNd hEf
        have gi := hNf.load hit
        have gj := hNf.load hjt
        have xi := ix30 (b := cb) hit
        have xj := ix30 (b := cb) hjt
        have hrem := aBinI_rem .i64 (l.length : Int) ((2 : Nat) : Int) (by omega)
        rw [ofNat_tmod] at hrem
        have hrem : aBinI .rem .i64 (l.length : Int) .i64 2 = some (.int .i64 ((l.length % 2 : Nat) : Int)) := hrem
        have hz2 : ((l.length % 2 : Nat) : Int) = 0 ↔ l.length % 2 = 0 := by omega
        generalize l.length % 2 = rm at hrem hz2
        refine wpK_block ?_
        try simp only [wpK_assoc]
        refine wpK_cut (J := fun A' W' => W' = Wf ∧ A'.n = 106 ∧ A'.defers = [] ∧ A'.tmps.get 1 = some (lv) ∧ A'.tmps.get 5 = some (.pointer (some ⟨p5, 0, none⟩)) ∧ A'.tmps.get 6 = some (.pointer (some ⟨p6, 0, none⟩)) ∧ A'.tmps.get 8 = some (.int .i64 (k : Int)) ∧ A'.tmps.get 9 = some (rowV cb n) ∧ A'.tmps.get 10 = some (.int .i64 (i : Int)) ∧ A'.tmps.get 7 = some tx ∧ A'.tmps.get 11 = some (.int .i64 (j : Int)) ∧ ∃ b : Bool, A'.tmps.get 67 = some (.bool b)) (fun Q4 hQ4 => ?_) ?_
        · by_cases b1 : g i = g j
          · by_cases b2 : (i : Int) ≤ j
            · try simp only [wpK_assoc]
              refine wpK_qn (wr := Tr.nil |>.set 48 0 |>.set 49 1 |>.set 50 2 |>.set 51 3 |>.set 52 4 |>.set 53 5 |>.set 54 6 |>.set 55 7 |>.set 56 8 |>.set 57 9 |>.set 58 10 |>.set 59 11 |>.set 60 12 |>.set 61 13 |>.set 62 14 |>.set 63 15 |>.set 64 16 |>.set 65 17 |>.set 66 18 |>.set 67 19) (bits := Tr.nil.lay 0 [0, 0, 3, 7, 0, 0, 48, 112, 255, 511, 1023, 1023, 4095, 8191, 16383, 32767, 65535, 131071, 262143, 524287]) (ord := [0, 1, 2, 3, 4, 5, 6, 7, 8, 9, 10, 11, 12, 13, 14, 15, 16, 17, 18, 19]) (by kernel_rfl) (by kernel_rfl) (by kernel_rfl) (fun G hG => by
                simp [h1, h9, h10, h11, xi, xj, gi, gj, b1, b2, undef, vcb]
                exact hG) ?_
              exact hQ4 _ _ ⟨rfl, rfl, rfl, by simp [h1], by simp [h5], by simp [h6], by simp [h8], by simp [h9], by simp [h10], by simp [h7], by simp [h11], true, by simp⟩
            · by_cases b3 : (rm : Int) = 0
              · try simp only [wpK_assoc]
                refine wpK_qn (wr := Tr.nil |>.set 48 0 |>.set 49 1 |>.set 50 2 |>.set 51 3 |>.set 52 4 |>.set 53 5 |>.set 54 6 |>.set 55 7 |>.set 56 8 |>.set 57 9 |>.set 58 10 |>.set 59 11 |>.set 60 12 |>.set 61 13 |>.set 62 14 |>.set 63 15 |>.set 64 16 |>.set 65 17 |>.set 66 18 |>.set 67 19) (bits := Tr.nil.lay 0 [0, 0, 3, 7, 0, 0, 48, 112, 255, 511, 1023, 1023, 4095, 8191, 16383, 32767, 65535, 131071, 262143, 524287]) (ord := [0, 1, 2, 3, 4, 5, 6, 7, 8, 9, 10, 11, 12, 13, 14, 15, 16, 17, 18, 19]) (by kernel_rfl) (by kernel_rfl) (by kernel_rfl) (fun G hG => by
                  simp [h1, h9, h10, h11, xi, xj, gi, gj, b1, b2, b3, hlen, hrem, undef, vcb, vlv]
                  exact hG) ?_
                exact hQ4 _ _ ⟨rfl, rfl, rfl, by simp [h1], by simp [h5], by simp [h6], by simp [h8], by simp [h9], by simp [h10], by simp [h7], by simp [h11], true, by simp⟩
              · try simp only [wpK_assoc]
                refine wpK_qn (wr := Tr.nil |>.set 48 0 |>.set 49 1 |>.set 50 2 |>.set 51 3 |>.set 52 4 |>.set 53 5 |>.set 54 6 |>.set 55 7 |>.set 56 8 |>.set 57 9 |>.set 58 10 |>.set 59 11 |>.set 60 12 |>.set 61 13 |>.set 62 14 |>.set 63 15 |>.set 64 16 |>.set 65 17 |>.set 66 18 |>.set 67 19) (bits := Tr.nil.lay 0 [0, 0, 3, 7, 0, 0, 48, 112, 255, 511, 1023, 1023, 4095, 8191, 16383, 32767, 65535, 131071, 262143, 524287]) (ord := [0, 1, 2, 3, 4, 5, 6, 7, 8, 9, 10, 11, 12, 13, 14, 15, 16, 17, 18, 19]) (by kernel_rfl) (by kernel_rfl) (by kernel_rfl) (fun G hG => by
                  simp [h1, h9, h10, h11, xi, xj, gi, gj, b1, b2, b3, hlen, hrem, undef, vcb, vlv]
                  exact hG) ?_
                exact hQ4 _ _ ⟨rfl, rfl, rfl, by simp [h1], by simp [h5], by simp [h6], by simp [h8], by simp [h9], by simp [h10], by simp [h7], by simp [h11], false, by simp [show ¬ rm = 0 from fun e => b3 (hz2.2 e)]⟩
          · try simp only [wpK_assoc]
            refine wpK_qn (wr := Tr.nil |>.set 48 0 |>.set 49 1 |>.set 50 2 |>.set 51 3 |>.set 52 4 |>.set 53 5 |>.set 54 6 |>.set 55 7 |>.set 56 8 |>.set 57 9 |>.set 58 10 |>.set 59 11 |>.set 60 12 |>.set 61 13 |>.set 62 14 |>.set 63 15 |>.set 64 16 |>.set 65 17 |>.set 66 18 |>.set 67 19) (bits := Tr.nil.lay 0 [0, 0, 3, 7, 0, 0, 48, 112, 255, 511, 1023, 1023, 4095, 8191, 16383, 32767, 65535, 131071, 262143, 524287]) (ord := [0, 1, 2, 3, 4, 5, 6, 7, 8, 9, 10, 11, 12, 13, 14, 15, 16, 17, 18, 19]) (by kernel_rfl) (by kernel_rfl) (by kernel_rfl) (fun G hG => by
              simp [h1, h9, h10, h11, xi, xj, gi, gj, b1, undef, vcb]
              exact hG) ?_
            exact hQ4 _ _ ⟨rfl, rfl, rfl, by simp [h1], by simp [h5], by simp [h6], by simp [h8], by simp [h9], by simp [h10], by simp [h7], by simp [h11], false, by simp⟩
        rintro ⟨tm, n', ds⟩ Wh ⟨hw, hn', hd', h1, h5, h6, h8, h9, h10, h7, h11, b, h67⟩
        simp only at hn' hd' h1 h5 h6 h8 h9 h10 h7 h11 h67
        subst hn'; subst hd'
        rw [hw]
        cases b with
        | false =>
          try simp only [wpK_assoc]
          first | refine wpK_onF (by simp [h67]) ?_ | refine wpK_out (by simp [h67]) ?_ | refine wpK_condF (by simp [h67]) ?_ | refine wpK_endF (by simp [h67]) (wpK_skip ?_) | refine wpK_endF (by simp [h67]) ?_
          simp only [leaves_normal, behind_normal]
          try simp only [wpK_assoc]
          refine wpK_reg1 (fun R hR => by simp [h11]; exact hR) ?_
          exact hI3 (n - (j + 1)) _ _ (by omega) ⟨rfl, rfl, by simp [h1, h5, h6, h8, h9, h10], by simp [h1, h5, h6, h8, h9, h10], by simp [h1, h5, h6, h8, h9, h10], by simp [h1, h5, h6, h8, h9, h10], by simp [h1, h5, h6, h8, h9, h10], by simp [h1, h5, h6, h8, h9, h10], hEf, j + 1, tx, pl, K, by simp [i64_succ j (by omega)], by simp [h7], rfl, by omega, hgr, hK, by omega⟩
        | true =>
          obtain ⟨v', Wg, p1, p2, p3, p4⟩ := grow_pair hgr (by omega) (i : Int) (j : Int)
          have hb40 := build40 (i : Int) (j : Int)
          have hb34 := bs34 Wf (i : Int) (j : Int)
          try simp only [wpK_assoc]
          first | refine wpK_onT (by simp [h67]) ?_ | refine wpK_outT (by simp [h67]) ?_ | refine wpK_condT (by simp [h67]) ?_ | refine wpK_endT (by simp [h67]) ?_
          try simp only [wpK_assoc]
          refine wpK_reg1 (fun R hR => by simp [h7, h10, h11, hb40, hb34, p1]; exact hR) ?_
          simp only [leaves_normal, behind_normal]
          refine wpK_keep (fun tm' => tm'.get 1 = some (lv) ∧ tm'.get 5 = some (.pointer (some ⟨p5, 0, none⟩)) ∧ tm'.get 6 = some (.pointer (some ⟨p6, 0, none⟩)) ∧ tm'.get 8 = some (.int .i64 (k : Int)) ∧ tm'.get 9 = some (rowV cb n) ∧ tm'.get 10 = some (.int .i64 (i : Int)) ∧ tm'.get 7 = some (v') ∧ tm'.get 11 = some (.int .i64 (j : Int))) ⟨by simp [h1, h5, h6, h8, h9, h10, h11], by simp [h1, h5, h6, h8, h9, h10, h11], by simp [h1, h5, h6, h8, h9, h10, h11], by simp [h1, h5, h6, h8, h9, h10, h11], by simp [h1, h5, h6, h8, h9, h10, h11], by simp [h1, h5, h6, h8, h9, h10, h11], by simp [h1, h5, h6, h8, h9, h10, h11], by simp [h1, h5, h6, h8, h9, h10, h11]⟩ ?_
          rintro tm ⟨h1, h5, h6, h8, h9, h10, h7, h11⟩
          try simp only [wpK_assoc]
          refine wpK_reg1 (fun R hR => by simp [h11]; exact hR) ?_
          have nf := hEf.1
          exact hI3 (n - (j + 1)) _ _ (by omega) ⟨rfl, rfl, by simp [h1, h5, h6, h8, h9, h10], by simp [h1, h5, h6, h8, h9, h10], by simp [h1, h5, h6, h8, h9, h10], by simp [h1, h5, h6, h8, h9, h10], by simp [h1, h5, h6, h8, h9, h10], by simp [h1, h5, h6, h8, h9, h10], ⟨by omega, fun b hb _ => by rw [p4.2 b (by omega) (fun hk => by have := hK b hk; omega)]; exact hEf.2 b hb (fun x => x)⟩, j + 1, v', pl ++ [((i : Int), (j : Int))], _, by simp [i64_succ j (by omega)], by simp [h7], rfl, by omega, p3, fun b hb => by rcases hb with hb | hb; exact hK b hb; omega, by simp; omega⟩
      · rintro A' W' hf; exact hf.elim
      · rintro ⟨tm, n, ds⟩ Wf ⟨hn, hd, h1, h5, h6, h8, h9, h10, hEf, tx, pl, K, h7, hgr, hK, hpl⟩
        simp only at hn hd h1 h5 h6 h8 h9 h10
        subst hn; subst hd
        simp only at h7
        simp only [leaves_normal, behind_normal]
        try simp only [wpK_assoc]
        refine wpK_reg1 (fun R hR => by simp [h10]; exact hR) ?_
        exact hI2 (n - (i + 1)) _ _ (by omega) ⟨rfl, rfl, by simp [h1, h5, h6, h8, h9], by simp [h1, h5, h6, h8, h9], by simp [h1, h5, h6, h8, h9], by simp [h1, h5, h6, h8, h9], by simp [h1, h5, h6, h8, h9], hEf, i + 1, tx, pl, K, by simp [i64_succ i (by omega)], by simp [h7], rfl, by omega, hgr, hK, hpl⟩
    · rintro A' W' hf; exact hf.elim
    · rintro ⟨tm, n, ds⟩ We ⟨hn, hd, h1, h5, h6, h8, h9, hEe, tx, pl, K, h7, hgr, hK, hpl⟩
      simp only at hn hd h1 h5 h6 h8 h9
      subst hn; subst hd
      simp only at h7
      have l5e := l50 We hEe
      have hRx : PairR We tx pl := hgr.row encP_len
      have hEde := hEad.trans hEe
      have l5f := l5x We hEde
      have hk1 : (k : Int) = 1 ↔ k = 1 := by omega
      have hcut : ∀ Q5 : AExit → AAct → AW → Prop, True := fun _ => trivial
      by_cases hk : k = 1
      case neg =>
        have hk' : ¬ (k : Int) = 1 := by omega
        try simp only [wpK_assoc]
        refine wpK_reg (fun R hR => by simp [h8, hk', hk, undef]; exact hR) ?_
        try simp only [wpK_assoc]
        first | refine wpK_onF (by simp [hk', hk]) ?_ | refine wpK_out (by simp [hk', hk]) ?_ | refine wpK_condF (by simp [hk', hk]) ?_ | refine wpK_endF (by simp [hk', hk]) (wpK_skip ?_) | refine wpK_endF (by simp [hk', hk]) ?_
        simp only [leaves_normal, behind_normal]
        try simp only [wpK_assoc]
        refine wpK_reg1 (fun R hR => by simp [h8]; exact hR) ?_
        exact hI (3 - (k + 1)) _ _ (by omega) ⟨rfl, rfl, by simp [h1, h5, h6], by simp [h1, h5, h6], by simp [h1, h5, h6], hEde, k + 1, tx, pl, by simp [i64_succ k (by omega)], by simp [h7], rfl, by omega, hRx, by omega⟩
      subst hk
      by_cases hl0 : 0 < l.length
      case neg =>
        have hl0' : ¬ (0 : Int) < l.length := by omega
        try simp only [wpK_assoc]
        refine wpK_reg (fun R hR => by simp [h1, h8, hlen, hl0']; exact hR) ?_
        try simp only [wpK_assoc]
        first | refine wpK_onF (by simp [hl0', hl0]) ?_ | refine wpK_out (by simp [hl0', hl0]) ?_ | refine wpK_condF (by simp [hl0', hl0]) ?_ | refine wpK_endF (by simp [hl0', hl0]) (wpK_skip ?_) | refine wpK_endF (by simp [hl0', hl0]) ?_
        simp only [leaves_normal, behind_normal]
        try simp only [wpK_assoc]
        refine wpK_reg1 (fun R hR => by simp [h8]; exact hR) ?_
        exact hI (3 - 2) _ _ (by omega) ⟨rfl, rfl, by simp [h1, h5, h6], by simp [h1, h5, h6], by simp [h1, h5, h6], hEde, 2, tx, pl, by simp; rfl, by simp [h7], rfl, by omega, hRx, by omega⟩
      have hl0' : (0 : Int) < l.length := by omega
      try simp only [wpK_assoc]
      refine wpK_reg (fun R hR => by simp [h1, h8, hlen, hl0']; exact hR) ?_
      try simp only [wpK_assoc]
      first | refine wpK_onT (by simp [hl0', hl0]) ?_ | refine wpK_outT (by simp [hl0', hl0]) ?_ | refine wpK_condT (by simp [hl0', hl0]) ?_ | refine wpK_endT (by simp [hl0', hl0]) ?_
      obtain ⟨⟨x, y⟩, hxy⟩ : ∃ e : Int × Int, l[0] = e := ⟨_, rfl⟩
      have hi0 : l[0]? = some (x, y) := by rw [List.getElem?_eq_getElem hl0, hxy]
      have hRl : PairR We lv l := hr.ext (hE06.trans hEde)
      obtain ⟨qb, qo, hx, _, e0, e1⟩ := pair_load hRl hi0
      have hx : aIndexAddr T0 34 lv (.int .i64 0) = some (.pointer (some ⟨qb, qo, none⟩)) := hx
      obtain ⟨xa, hxa⟩ : ∃ z : Nat, IntKind.u64.wrap x = (z : Int) := ⟨(IntKind.u64.wrap x).toNat, by rw [IntKind.wrap_u64]; omega⟩
      obtain ⟨xb, hxb⟩ : ∃ z : Nat, IntKind.u64.wrap y = (z : Int) := ⟨(IntKind.u64.wrap y).toNat, by rw [IntKind.wrap_u64]; omega⟩
      have hwn : IntKind.u64.wrap (n : Int) = (n : Int) := u64_nat (by omega)
      have r1 := aBinI_rem .u64 (xa : Int) (n : Int) (by omega)
      have r2 := aBinI_rem .u64 (xb : Int) (n : Int) (by omega)
      rw [ofNat_tmod] at r1 r2
      have ha' : xa % n < n := Nat.mod_lt _ (by omega)
      have hb' : xb % n < n := Nat.mod_lt _ (by omega)
      generalize xa % n = a at r1 ha'
      generalize xb % n = b at r2 hb'
      have wa : IntKind.i64.wrap (a : Int) = (a : Int) := i64_in (by omega)
      have wb : IntKind.i64.wrap (b : Int) = (b : Int) := i64_in (by omega)
      obtain ⟨v', Wg, p1, p2, p3, p4⟩ := grow_pair hgr (by omega) (a : Int) (b : Int)
      have hb40 := build40 (a : Int) (b : Int)
      obtain ⟨W1', hW1', hE1'⟩ : ∃ W1', W1' = We.newCells 40 [.int .i64 (a : Int), .int .i64 (b : Int)] ∧ Ext We W1' := ⟨_, rfl, .newCells _ _ _⟩
      rw [← hW1'] at p1
      have hn1' : W1'.next = We.next + 1 := by rw [hW1']; rfl
      have hf1 : freshB W1' We.next 40 [.int .i64 (a : Int), .int .i64 (b : Int)] = true := by
        rw [hW1']; exact freshB_new _ _ _ (by simp [listEq])
      have hfl := fun (ρ : Operand → Option Value) (x : Operand) (hx : ρ x = some (.agg ⟨[.int .i64 (a : Int), .int .i64 (b : Int)]⟩)) => fltb34 (ρ := ρ) hx
      have hRl' := hRl.ext hE1'
      obtain ⟨qb', qo', hx', _, e0', e1'⟩ := pair_load hRl' hi0
      have hx' : aIndexAddr T0 34 lv (.int .i64 0) = some (.pointer (some ⟨qb', qo', none⟩)) := hx'
      rw [hx] at hx'
      obtain ⟨rfl, rfl⟩ : qb = qb' ∧ qo = qo' := by
        have := Option.some.inj hx'
        injection this with h; have := Option.some.inj h; injection this with h1 h2 h3; exact ⟨h1, h2⟩
      have vtx := row_eq hRx
      have l50e := l50 We hEe
      have l50f := l50 W1' (hEe.trans hE1')
      try simp only [wpK_assoc]
      refine wpK_qn (wr := Tr.nil |>.set 81 0 |>.set 82 1 |>.set 83 2 |>.set 84 3 |>.set 85 4 |>.set 86 5 |>.set 87 6 |>.set 88 7 |>.set 89 8 |>.set 90 9 |>.set 91 10 |>.set 92 11 |>.set 93 12 |>.set 94 13 |>.set 95 14 |>.set 96 15 |>.set 97 16 |>.set 98 17 |>.set 99 18 |>.set 100 19 |>.set 101 20 |>.set 102 21 |>.set 103 22 |>.set 104 23 |>.set 7 24) (bits := Tr.nil.lay 0 [0, 0, 2, 6, 14, 30, 0, 64, 192, 510, 1022, 0, 2048, 6144, 14336, 30720, 0, 65536, 196608, 522240, 1046528, 2097150, 4194302, 8388607, 16777215]) (ord := [0, 1, 2, 3, 4, 5, 6, 7, 8, 9, 10, 11, 12, 13, 14, 15, 16, 17, 18, 19, 20, 21, 22, 23, 24]) (by kernel_rfl) (by kernel_rfl) (by kernel_rfl) (fun G hG => by
        simp [h1, h5, h7, hx, e0, e1, e0', e1', ix40_0, ix40_1, l50e, l50f, conv_3_43, conv_43_3, hxa, hxb, hwn, r1, r2, wa, wb, hb40, hfl, AFlt.val, ← hW1', hf1, hn1', p1, p2, vtx, vlv]
        exact hG) ?_
      simp only [leaves_normal, behind_normal]
      refine wpK_keep (fun tm' => tm'.get 1 = some (lv) ∧ tm'.get 5 = some (.pointer (some ⟨p5, 0, none⟩)) ∧ tm'.get 6 = some (.pointer (some ⟨p6, 0, none⟩)) ∧ tm'.get 8 = some (.int .i64 1) ∧ tm'.get 7 = some (v')) ⟨by simp [h1, h5, h6, h8], by simp [h1, h5, h6, h8], by simp [h1, h5, h6, h8], by simp [h1, h5, h6, h8], by simp [h1, h5, h6, h8]⟩ ?_
      rintro tm ⟨h1, h5, h6, h8, h7⟩
      try simp only [wpK_assoc]
      refine wpK_reg1 (fun R hR => by simp [h8]; exact hR) ?_
      have ne := hEe.1
      exact hI (3 - 2) _ _ (by omega) ⟨rfl, rfl, by simp [h1, h5, h6], by simp [h1, h5, h6], by simp [h1, h5, h6], ⟨by have := hEde.1; omega, fun c hc _ => by rw [p4.2 c (by have := hEde.1; omega) (fun hk => by have := hK c hk; omega)]; exact hEde.2 c hc (fun x => x)⟩, 2, v', pl ++ [((a : Int), (b : Int))], by simp; rfl, by simp [h7], rfl, by omega, p3.row encP_len, by simp; omega⟩
  · rintro A' W' hf; exact hf.elim
  · rintro ⟨tm, n, ds⟩ Wz ⟨hn, hd, h1, h5, h6, hEz⟩
    simp only at hn hd h1 h5 h6
    subst hn; subst hd
    have hTz := tabs_ext hT hW0 (hE06.trans hEz)
    try simp only [wpK_assoc]
    refine wpK_reg (fun R hR => by
      simp [aEnter, fun19, short_awake, aCallV, hTz]; exact hR) ?_
    exact wpK_ret ⟨.inr rfl, rfl, [.bool true], by simp, hE06.trans hEz, rfl⟩

end Go.Proofs.YtfnigiojgbeklaaDoor

open Go Go.Eng
namespace Go.Proofs.YtfnigiojgbeklaaDoor
open Go.ChangeShapes Go.WideShapes Go.ChangeAt Go.RowKit

section
variable {H : Type} {enc : TypeId × Value → H} {P : Program} {w : World}

theorem add_block (a : Addr) (n : Nat) : (a.add n).block = a.block := by unfold Addr.add; split <;> rfl
theorem add_off (a : Addr) (n : Nat) : (a.add n).off = a.off + n := by unfold Addr.add; split <;> simp_all
end
theorem own : ownKnob Tryd.prog.godebug = none := by kernel_rfl
theorem laidOut : laidOutB Tryd.prog = true := by kernel_rfl
theorem T0_globs : ∀ g u, T0.globs.get g = some u → g = 0 := fun g u h => by
  have h : (Tr.set Tr.nil 0 ()).get g = some u := h
  rw [Tr.get_set] at h
  split at h
  · assumption
  · rw [Tr.get_nil] at h; cases h

def tabL : List Int := [0, 1, 56, 2, 57, 49, 28, 3, 61, 58, 42, 50, 38, 29, 17, 4, 62, 47, 59, 36, 45, 43, 51, 22, 53, 39, 33, 30, 24, 18, 12, 5, 63, 55, 48, 27, 60, 41, 37, 16, 46, 35, 44, 21, 52, 32, 23, 11, 54, 26, 40, 15, 34, 20, 31, 10, 25, 14, 19, 9, 13, 8, 7, 6]
/-- the variable of the library lies in the world -/
theorem tab_of_laid {W : World} (h : laidMet Tryd.prog [("math/bits.deBruijn64tab", Rows.laid_math_bits_deBruijn64tab)] W) : ∀ i (h : i < tabL.length), W.cell? ⟨0, i, none⟩ = some (.int .u8 tabL[i]) := by
  have hg : Tryd.prog.globalNamed "math/bits.deBruijn64tab" = some 0 := by kernel_rfl
  have ht := Lib.tabIs_of_head (P := Tryd.prog) (W := W) (k := .u8) (zs := tabL) (rest := []) (t := 193) (e := 5) (n := 64) hg (by kernel_rfl) Tryd.underlying193 Tryd.underlying5 (by kernel_rfl) (by kernel_rfl) h
  intro i hi
  have := ht.cell hg i hi
  rw [this, List.getD_eq_getElem?_getD, List.getElem?_eq_getElem hi]; rfl
theorem tab_cells {W : World} (h : ∀ i (h : i < tabL.length), W.cell? ⟨0, i, none⟩ = some (.int .u8 tabL[i])) : isCells W 0 = true ∧ 0 < (embW W).next ∧ tabsIn T0 T0.tabs (embW W) = true := by
  have h0 := h 0 (by decide)
  have hc := isCells_cell h0
  refine ⟨hc, isCells_lt hc, ?_⟩
  have key : tabIn ⟨0, tabL.map (Value.int .u8)⟩ (embW W) = true := by
    unfold isCells at hc
    split at hc
    case h_2 => cases hc
    rename_i c el fz ho
    unfold tabIn
    simp only [embW_get, ho, Option.map_some, embO]
    have hcell : ∀ i (hi : i < tabL.length), c[i]? = some (.int .u8 tabL[i]) := fun i hi => by
      have := h i hi
      simpa [World.cell?, ho] using this
    have hsz : tabL.length ≤ c.size := by
      have := (Array.getElem?_eq_some_iff.1 (hcell 63 (by decide))).1
      show 64 ≤ c.size; omega
    have htake : (Tr.nil.layO 0 (c.toList.map (absV W))).take 0 (tabL.map (Value.int .u8)).length = some (tabL.map (Value.int .u8)) := by
      refine take_get _ _ 0 _ rfl (fun j hj => ?_)
      have hj' : j < tabL.length := by simpa using hj
      rw [Nat.zero_add, Tr.get_layO _ _ _ _ (.inl (Tr.get_nil _)), if_pos (by simp; omega)]
      simp only [Nat.sub_zero, List.getElem?_map, Array.getElem?_toList, hcell j hj', Option.map_some, Option.getD_some, List.getElem?_eq_getElem hj']
      rfl
    rw [htake]
    simp only [ble_dec, List.length_map, hsz, decide_true]
    have hf : allB flat (tabL.map (Value.int .u8)) = true := by decide
    rw [hf]
    simp only
    have : ∀ l : List Int, listEq (l.map (Value.int .u8)) (l.map (Value.int .u8)) = true := fun l => by
      induction l with
      | nil => rfl
      | cons a l ih => simp only [List.map_cons]; exact listEq_cons (valEq_int _ _) ih
    exact this tabL
  show tabsIn T0 [⟨0, tabL.map (Value.int .u8)⟩] (embW W) = true
  simp only [tabsIn, key]
  rfl
/-- a world in which the variable lies -/
noncomputable def laidWorld (os : Os) : World :=
  let w0 := World.holding Tryd.prog os ⟨#[], #[], []⟩
  { w0 with heap := w0.heap.modify 0 fun
      | .cells _ t frozen => .cells (tabL.map (Value.int .u8)).toArray t frozen
      | o => o }
theorem laid_met (os : Os) (args : Array Value) : laidMet Tryd.prog [("math/bits.deBruijn64tab", Rows.laid_math_bits_deBruijn64tab)] ((laidWorld os).forCall (fun _ _ => 0) ⟨#[], args, []⟩).memory :=
  laidMet_of_run' 8 (by kernel_rfl) (by kernel_rfl)
theorem globs_cells {W : World} (h : isCells W 0 = true) : ∀ g u, T0.globs.get g = some u → isCells W g = true := fun g u hu => by
  rw [T0_globs g u hu]; exact h
end Go.Proofs.YtfnigiojgbeklaaDoor

open Go Go.Eng
namespace Go.Proofs.YtfnigiojgbeklaaDoor
open Go.ChangeShapes Go.WideShapes Go.ChangeAt Go.RowKit
/-! ### arguments that are sliced, arrays of two -/
theorem absV_row2 {w : World} {a : Addr} {n c : Nat} (h : 0 < c → ∃ v, w.cell? a = some v) (hn : n ≤ c) :
    ∃ a' c', absV w (.slice (some a) n c) = some (.slice a' n c') ∧ (0 < c → a' = some ⟨a.block, a.off, none⟩) ∧ SlOk (.slice a' n c') n := by
  by_cases hc : 0 < c
  · obtain ⟨v, hv⟩ := h hc
    have hs := cell_spot hv
    have hb := isCells_cell hv
    obtain ⟨b, o, s⟩ := a
    simp only at hs hb; subst hs
    exact ⟨some ⟨b, o, none⟩, 2 * c, by simp [absV, hb], fun _ => rfl, .inr (.inl ⟨b, o, c, rfl, hn⟩)⟩
  · obtain rfl : c = 0 := by omega
    obtain rfl : n = 0 := by omega
    obtain ⟨b, o, s⟩ := a
    cases s with
    | none =>
      by_cases hb : isCells w b = true
      · exact ⟨some ⟨b, o, none⟩, 0, by simp [absV, hb], fun x => absurd x hc, .inr (.inl ⟨b, o, 0, rfl, by omega⟩)⟩
      · exact ⟨some ⟨0, 0, some 1⟩, 0, by simp [absV, hb], fun x => absurd x hc, .inr (.inr ⟨rfl, rfl⟩)⟩
    | some s => exact ⟨some ⟨0, 0, some 1⟩, 0, rfl, fun x => absurd x hc, .inr (.inr ⟨rfl, rfl⟩)⟩
section
variable {H : Type} {enc : TypeId × Value → H} {P : Program} {w : World}
/-- a slice of pairs of numbers -/
theorem pairs_in2 {t e e2 : TypeId} {fuel : Nat} {held : Bool} {v : Value} {x : DataW H × List MemPlace} (ht : P.underlying t = some (.slice e)) (he : P.underlying e = some (.array 2 e2)) (hc : P.cellsOf e = 2) (he2 : P.underlying e2 = some (.int .i64)) (hc2 : P.cellsOf e2 = 1)
    (h : DataW.trod enc P w 0 (fun _ => true) held fuel t [v] = some x) : ∃ u l, absV w v = some u ∧ PairR (embW w) u l ∧ l.length < 9223372036854775808 ∧ SlOk u l.length := by
  rcases Deep.open_slice ht h with ⟨h1, _⟩ | ⟨a, len, cap, m, n, D, Pl, h1, _, h2, h3, hm, _, h4⟩
  · cases h1
    exact ⟨.slice none 0 0, [], rfl, .nil _, by simp, .inl ⟨rfl, rfl⟩⟩
  · cases h1
    simp only [if_true] at hm
    subst hm
    have each : ∀ i, i < m → ∃ z : Int × Int, w.cell? (a.add (i * 2)) = some (.int .i64 z.1) ∧ w.cell? (a.add (i * 2 + 1)) = some (.int .i64 z.2) := by
      intro i hi
      obtain ⟨cs', g1, g2⟩ := h4 i hi
      rw [hc] at g1
      obtain ⟨_, hlen, hcell⟩ := World.cells?_some g1
      obtain ⟨xs, mm, _, _, _, hl, hel⟩ := DataW.trod_array he g2
      have h0 := hel 0 (by omega)
      have h1 := hel 1 (by omega)
      rw [List.getElem?_eq_getElem (by omega)] at h0 h1
      match cs', hlen with
      | [x0, x1], _ =>
        simp [hc2] at h0 h1
        obtain ⟨z0, e0, _⟩ := DataW.trod_int he2 h0
        obtain ⟨z1, e1, _⟩ := DataW.trod_int he2 h1
        cases e0; cases e1
        have k0 := hcell 0 (by omega)
        have k1 := hcell 1 (by omega)
        rw [Go.Deep.add_add] at k0 k1
        exact ⟨(z0, z1), by simpa using k0, by simpa using k1⟩
    obtain ⟨Z, hZ⟩ := Deep.choose_lt each
    obtain ⟨a', c', g4, g5, g6⟩ := absV_row2 (w := w) (a := a) (n := len) (c := m) (fun hc => ⟨_, by simpa [Addr.add] using (hZ 0 hc).1⟩) h2
    refine ⟨_, (List.range len).map Z, g4, ⟨a', c', by simp, fun h0 => SlOk.emp (n := len) g6, fun i z hi => ?_⟩, by simp; unfold maxLen at h3; omega, by simpa using g6⟩
    have hi' : i < len := by
      have := (List.getElem?_eq_some_iff.1 hi).1
      simpa using this
    simp only [List.getElem?_map, List.getElem?_range hi', Option.map_some, Option.some.injEq] at hi
    subst hi
    obtain ⟨k0, k1⟩ := hZ i (by omega)
    have e0 := emb_has k0 (u := .int .i64 (Z i).1) rfl
    have e1 := emb_has k1 (u := .int .i64 (Z i).2) rfl
    rw [add_block, add_off] at e0 e1
    refine ⟨a.block, a.off, g5 (by omega), fun j u hu => ?_⟩
    have hj : j < 2 := by have := (List.getElem?_eq_some_iff.1 hu).1; simpa [encP] using this
    match j, hj with
    | 0, _ => cases hu; exact e0
    | 1, _ => cases hu; rw [Nat.add_assoc]; exact e1
/-- a slice of steps -/
theorem steps_in2 {t e : TypeId} {f0 f1 f2 : Field} {fuel : Nat} {held : Bool} {v : Value} {x : DataW H × List MemPlace} (ht : P.underlying t = some (.slice e)) (he : P.underlying e = some (.struct #[f0, f1, f2])) (hc : P.cellsOf e = 3)
    (o0 : f0.offset = 0) (o1 : f1.offset = 1) (o2 : f2.offset = 2) (c0 : P.cellsOf f0.type = 1) (c1 : P.cellsOf f1.type = 1) (c2 : P.cellsOf f2.type = 1) (u0 : P.underlying f0.type = some (.int .i64)) (u1 : P.underlying f1.type = some (.int .i64)) (u2 : P.underlying f2.type = some (.int .i64))
    (h : DataW.trod enc P w 0 (fun _ => true) held fuel t [v] = some x) : ∃ u l, absV w v = some u ∧ StepR (embW w) u l ∧ l.length < 9223372036854775808 ∧ SlOk u l.length := by
  rcases Deep.open_slice ht h with ⟨h1, _⟩ | ⟨a, len, cap, m, n, D, Pl, h1, _, h2, h3, hm, _, h4⟩
  · cases h1
    exact ⟨.slice none 0 0, [], rfl, .nil _, by simp, .inl ⟨rfl, rfl⟩⟩
  · cases h1
    simp only [if_true] at hm
    subst hm
    have each : ∀ i, i < m → ∃ z : Tri, w.cell? (a.add (i * 3)) = some (.int .i64 z.1) ∧ w.cell? (a.add (i * 3 + 1)) = some (.int .i64 z.2.1) ∧ w.cell? (a.add (i * 3 + 2)) = some (.int .i64 z.2.2) := by
      intro i hi
      obtain ⟨cs', g1, g2⟩ := h4 i hi
      rw [hc] at g1
      obtain ⟨_, hlen, hcell⟩ := World.cells?_some g1
      obtain ⟨y0, y1, y2, k, _, _, q0, q1, q2⟩ := Deep.trod_struct3 he g2
      match cs', hlen with
      | [x0, x1, x2], _ =>
        simp [o0, o1, o2, c0, c1, c2] at q0 q1 q2
        obtain ⟨z0, e0, _⟩ := DataW.trod_int u0 q0
        obtain ⟨z1, e1, _⟩ := DataW.trod_int u1 q1
        obtain ⟨z2, e2, _⟩ := DataW.trod_int u2 q2
        cases e0; cases e1; cases e2
        have k0 := hcell 0 (by omega)
        have k1 := hcell 1 (by omega)
        have k2 := hcell 2 (by omega)
        rw [Go.Deep.add_add] at k0 k1 k2
        exact ⟨(z0, z1, z2), by simpa using k0, by simpa using k1, by simpa using k2⟩
    obtain ⟨Z, hZ⟩ := Deep.choose_lt each
    obtain ⟨a', c', g4, g5, g6⟩ := absV_row2 (w := w) (a := a) (n := len) (c := m) (fun hc => ⟨_, by simpa [Addr.add] using (hZ 0 hc).1⟩) h2
    refine ⟨_, (List.range len).map Z, g4, ⟨a', c', by simp, fun h0 => SlOk.emp (n := len) g6, fun i z hi => ?_⟩, by simp; unfold maxLen at h3; omega, by simpa using g6⟩
    have hi' : i < len := by
      have := (List.getElem?_eq_some_iff.1 hi).1
      simpa using this
    simp only [List.getElem?_map, List.getElem?_range hi', Option.map_some, Option.some.injEq] at hi
    subst hi
    obtain ⟨k0, k1, k2⟩ := hZ i (by omega)
    have e0 := emb_has k0 (u := .int .i64 (Z i).1) rfl
    have e1 := emb_has k1 (u := .int .i64 (Z i).2.1) rfl
    have e2 := emb_has k2 (u := .int .i64 (Z i).2.2) rfl
    rw [add_block, add_off] at e0 e1 e2
    refine ⟨a.block, a.off, g5 (by omega), fun j u hu => ?_⟩
    have hj : j < 3 := by have := (List.getElem?_eq_some_iff.1 hu).1; simpa [cells3] using this
    match j, hj with
    | 0, _ => cases hu; exact e0
    | 1, _ => cases hu; rw [Nat.add_assoc]; exact e1
    | 2, _ => cases hu; rw [Nat.add_assoc]; exact e2
end
end Go.Proofs.YtfnigiojgbeklaaDoor
