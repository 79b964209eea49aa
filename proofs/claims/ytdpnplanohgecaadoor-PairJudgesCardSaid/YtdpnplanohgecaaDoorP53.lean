import Derived.Test.YtdpnplanohgecaaDoorP52
import Derived.Test.YtdpnplanohgecaaDoorEngAs
set_option linter.unusedSimpArgs false
set_option linter.unusedVariables false
set_option linter.unusedSectionVars false
open Go Go.Eng
namespace Go.Proofs.YtdpnplanohgecaaDoor
attribute [local congr] undef_congr WpK.congr WpS.congr WpL.congr WpC.congr WpF.congr gotS.congr callS.congr nextS.congr wantS.congr condS.congr
attribute [local irreducible] WpK
attribute [local simp] WpDr_nil WpDr_cons atS_some dwantS_true dwantS_false kindS_light kindS_float kindS_heavy lightS_value floatS_some heavyS_value heavyS_skip heavyS_enter dcallS_some doneS_eq
  isLight isFloat isPlain dLook testBit_dec dChain dLights_nil dLights_skip dLights_one dLight_nil dLight_cons dFreshes_nil dFreshes_one oneF_none oneF_some dFresh_nil dFresh_cons oneL_some oneW_true oneW_false sameV_value dPut dMay valEq arrEq listEq List.getElem?_cons Tr.get_nil dEnd
attribute [local simp] WpS_nil WpS_cons isDefer undef_false wantS_true wantS_false nextS_value nextS_skip nextS_enter callS_some gotS_some aWanted aOp aEvalF aEval opMove opAssign opPick aVal flat flat1 AAct.put opBinOp opConvert opIndex Tr.get_set Tr.get_lay aBin aResults tupled
  aCall aVals aCallB blt_dec ble_dec beq_dec aBinI_add aBinI_sub aBinI_lss aBinI_leq aBinI_gtr aBinI_geq aBinI_eql aBinI_neq index_str len_str len_slice Nat.beq_refl Nat.beq_refl
  opBox opLoad opFieldAddr opIndexAddr acells aAddr opExtract aExtract opUnOp opAlloc opStore opMakeInterface opNilCheck opBuild aParts opBuildSlice aValW
attribute [local simp] und2 und3 und4 und5 und9 und12 field13_0 field13_1 und21 und22 field23_0 field23_1 field24_0 field24_1 field25_0 field25_1 und28 und31 field34_0 field34_1 field34_2 field35_0 field35_1 field35_2 und46 field50_0 field50_1 field50_2 und55 und56 und58 und61 und62 und73 und75 und90 und94 und95 und96 field97_0 field97_1 field97_2 field97_3 field97_4 field97_5 field97_6 field98_0 field98_1 field98_2 field98_3 field98_4 field98_5 field98_6 und99 und106 field107_0 field107_1 field108_0 field108_1 und119 und122 field124_0 field124_1 field124_2 field125_0 field125_1 field125_2 field131_0 field131_1 field132_0 field132_1 und133 field134_0 field134_1 field135_0 field135_1 und148 und156 und160
set_option maxHeartbeats 4000000
set_option linter.unusedSimpArgs false
set_option linter.unusedVariables false
/-! ### parts of a graph that hang together -/
inductive Rch (Aj : Nat → Nat → Prop) (S : Nat → Prop) (k : Nat) : Nat → Prop
  | start : S k → Rch Aj S k k
  | step {q r : Nat} : Rch Aj S k q → Aj q r → S r → Rch Aj S k r
section
variable {Aj : Nat → Nat → Prop} {S : Nat → Prop}
theorem Rch.mem {k r : Nat} (h : Rch Aj S k r) : S r := by cases h <;> assumption
theorem Rch.mem0 {k r : Nat} (h : Rch Aj S k r) : S k := by
  induction h with
  | start h => exact h
  | step _ _ _ ih => exact ih
theorem Rch.trans {k q r : Nat} (h : Rch Aj S k q) (h2 : Rch Aj S q r) : Rch Aj S k r := by
  induction h2 with
  | start _ => exact h
  | step _ ha hs ih => exact ih.step ha hs
theorem Rch.symm (hs : ∀ q r, Aj q r → Aj r q) {k r : Nat} (h : Rch Aj S k r) : Rch Aj S r k := by
  induction h with
  | start h => exact .start h
  | step h1 ha h2 ih => exact (Rch.step (.start h2) (hs _ _ ha) h1.mem).trans ih
/-- what a set holds that is closed -/
theorem Rch.closed {k r : Nat} (h : Rch Aj S k r) {C : Nat → Prop} (hk : C k) (hc : ∀ q r, C q → Aj q r → S r → C r) : C r := by
  induction h with
  | start _ => exact hk
  | step _ ha hs ih => exact hc _ _ ih ha hs
end
open Classical in
/-- the places below n that have a property, as a set -/
noncomputable def bitsOf (p : Nat → Prop) : Nat → Nat
  | 0 => 0
  | n + 1 => if p n then bitsOf p n ||| 1 <<< n else bitsOf p n
theorem bitsOf_bit {p : Nat → Prop} {r : Nat} : ∀ {n : Nat}, (bitsOf p n).testBit r = true ↔ r < n ∧ p r
  | 0 => by simp [bitsOf]
  | n + 1 => by
    have ih := bitsOf_bit (p := p) (r := r) (n := n)
    unfold bitsOf
    split
    · rename_i hp
      rw [or_bit, Bool.or_eq_true, ih]
      constructor
      · rintro (h | h)
        · exact ⟨by omega, h.2⟩
        · have := of_decide_eq_true h
          subst this; exact ⟨by omega, hp⟩
      · rintro ⟨h1, h2⟩
        by_cases e : r = n
        · exact .inr (decide_eq_true e.symm)
        · exact .inl ⟨by omega, h2⟩
    · rename_i hp
      rw [ih]
      constructor
      · rintro ⟨h1, h2⟩; exact ⟨by omega, h2⟩
      · rintro ⟨h1, h2⟩
        by_cases e : r = n
        · subst e; exact absurd h2 hp
        · exact ⟨by omega, h2⟩
theorem bits_eq {x y : Nat} (h : ∀ r, x.testBit r = true ↔ y.testBit r = true) : x = y := Nat.eq_of_testBit_eq fun r => by
  have := h r
  cases hx : x.testBit r <;> cases hy : y.testBit r <;> simp_all
open Classical in
/-- what a place counts for, if it is the least of its part: whether the part is odd -/
noncomputable def rootF (Aj : Nat → Nat → Prop) (S : Nat → Prop) (v : Nat) : Int := if S v ∧ ∀ u, u < v → ¬ Rch Aj S v u then ((pc (bitsOf (Rch Aj S v) 40) % 2 : Nat) : Int) else 0
theorem rootF_is {Aj : Nat → Nat → Prop} {S : Nat → Prop} {v C : Nat} (h1 : S v) (h2 : ∀ u, u < v → ¬ Rch Aj S v u) (h40 : ∀ r, S r → r < 40) (hC : ∀ r, C.testBit r = true ↔ Rch Aj S v r) : rootF Aj S v = ((pc C % 2 : Nat) : Int) := by
  rw [rootF, if_pos ⟨h1, h2⟩]
  have : bitsOf (Rch Aj S v) 40 = C := bits_eq fun r => by
    rw [bitsOf_bit, hC r]
    exact ⟨fun h => h.2, fun h => ⟨h40 r h.mem, h⟩⟩
  rw [this]
theorem rootF_not {Aj : Nat → Nat → Prop} {S : Nat → Prop} {v : Nat} (h : ¬ (S v ∧ ∀ u, u < v → ¬ Rch Aj S v u)) : rootF Aj S v = 0 := by rw [rootF, if_neg h]
theorem rootF_in {Aj : Nat → Nat → Prop} {S : Nat → Prop} (v : Nat) : 0 ≤ rootF Aj S v ∧ rootF Aj S v ≤ 1 := by
  unfold rootF
  split <;> omega
theorem sumN_skip {f : Nat → Int} {m : Nat} : ∀ {k : Nat}, m ≤ k → (∀ v, m ≤ v → v < k → f v = 0) → sumN k f = sumN m f
  | 0, hm, _ => by rw [Nat.le_zero.1 hm]
  | k + 1, hm, h => by
    by_cases e : m = k + 1
    · rw [e]
    · simp only [sumN]
      rw [sumN_skip (by omega) (fun v h1 h2 => h v h1 (by omega)), h k (by omega) (by omega)]; omega
/-- the parts of the places below m are gone from s -/
def LeftOf (Aj : Nat → Nat → Prop) (S : Nat → Prop) (m s : Nat) : Prop := ∀ r, s.testBit r = true ↔ S r ∧ ∀ u, u < m → ¬ Rch Aj S u r
theorem LeftOf.start {Aj : Nat → Nat → Prop} {S : Nat → Prop} {s : Nat} (h : ∀ r, s.testBit r = true ↔ S r) : LeftOf Aj S 0 s := fun r => by
  rw [h r]; exact ⟨fun h => ⟨h, fun u hu => by omega⟩, fun h => h.1⟩
section
variable {Aj : Nat → Nat → Prop} {S : Nat → Prop} {m s k : Nat}
theorem LeftOf.skip (hsy : ∀ q r, Aj q r → Aj r q) (h : LeftOf Aj S m s) (hlow : ∀ j, j < k → s.testBit j = false) : ∀ v, m ≤ v → v < k → rootF Aj S v = 0 := fun v h1 h2 => rootF_not fun ⟨hs, hu⟩ => by
  have : ¬ (S v ∧ ∀ u, u < m → ¬ Rch Aj S u v) := fun hh => by
    have := (h v).2 hh
    rw [hlow v h2] at this; cases this
  exact this ⟨hs, fun u hum hr => hu u (by omega) (hr.symm hsy)⟩
theorem LeftOf.low (h : LeftOf Aj S m s) (hk : s.testBit k = true) : m ≤ k := by
  apply Classical.byContradiction
  intro hlt
  have := (h k).1 hk
  exact this.2 k (by omega) (.start this.1)
theorem LeftOf.root (hsy : ∀ q r, Aj q r → Aj r q) (h : LeftOf Aj S m s) (hk : s.testBit k = true) (hlow : ∀ j, j < k → s.testBit j = false) : S k ∧ ∀ u, u < k → ¬ Rch Aj S k u := by
  have hh := (h k).1 hk
  refine ⟨hh.1, fun u hu hr => ?_⟩
  by_cases e : u < m
  · exact hh.2 u e (hr.symm hsy)
  · have : ¬ (S u ∧ ∀ w, w < m → ¬ Rch Aj S w u) := fun h2 => by
      have := (h u).2 h2
      rw [hlow u hu] at this; cases this
    exact this ⟨hr.mem, fun w hw hr2 => hh.2 w hw (hr2.trans (hr.symm hsy))⟩
/-- within what is left, from k, one comes as far as within all -/
theorem LeftOf.reach (h : LeftOf Aj S m s) (hk : s.testBit k = true) {r : Nat} (hr : Rch Aj S k r) (hsy : ∀ q r, Aj q r → Aj r q) : s.testBit r = true := by
  have hh := (h k).1 hk
  exact (h r).2 ⟨hr.mem, fun u hu hr2 => hh.2 u hu (hr2.trans (hr.symm hsy))⟩
theorem LeftOf.next (hsy : ∀ q r, Aj q r → Aj r q) (h : LeftOf Aj S m s) (hk : s.testBit k = true) (hlow : ∀ j, j < k → s.testBit j = false) {C s' : Nat} (hC : ∀ r, C.testBit r = true ↔ Rch Aj S k r) (hs' : ∀ r, s'.testBit r = (s.testBit r && !C.testBit r)) : LeftOf Aj S (k + 1) s' := fun r => by
  rw [hs' r]
  constructor
  · intro hh
    simp only [Bool.and_eq_true, Bool.not_eq_true'] at hh
    have h1 := (h r).1 hh.1
    refine ⟨h1.1, fun u hu hr => ?_⟩
    by_cases e : u = k
    · subst e; have := (hC r).2 hr; rw [hh.2] at this; cases this
    · by_cases e2 : u < m
      · exact h1.2 u e2 hr
      · have : ¬ (S u ∧ ∀ w, w < m → ¬ Rch Aj S w u) := fun h2 => by
          have := (h u).2 h2
          rw [hlow u (by omega)] at this; cases this
        exact this ⟨hr.mem0, fun w hw hr2 => h1.2 w hw (hr2.trans hr)⟩
  · rintro ⟨h1, h2⟩
    have a := (h r).2 ⟨h1, fun u hu => h2 u (by have := h.low hk; omega)⟩
    have b : C.testBit r = false := by
      cases hb : C.testBit r with
      | false => rfl
      | true => exact absurd ((hC r).1 hb) (h2 k (by omega))
    rw [a, b]; rfl
theorem LeftOf.done (hsy : ∀ q r, Aj q r → Aj r q) (h : LeftOf Aj S m 0) (hm : m ≤ 40) : sumN 40 (rootF Aj S) = sumN m (rootF Aj S) :=
  sumN_skip hm (fun v h1 h2 => h.skip hsy (k := 40) (fun j _ => by simp) v h1 h2)
end

end Go.Proofs.YtdpnplanohgecaaDoor

open Go Go.Eng
namespace Go.Proofs.YtdpnplanohgecaaDoor
attribute [local congr] undef_congr WpK.congr WpS.congr WpL.congr WpC.congr WpF.congr gotS.congr callS.congr nextS.congr wantS.congr condS.congr
attribute [local irreducible] WpK
attribute [local simp] WpDr_nil WpDr_cons atS_some dwantS_true dwantS_false kindS_light kindS_float kindS_heavy lightS_value floatS_some heavyS_value heavyS_skip heavyS_enter dcallS_some doneS_eq
  isLight isFloat isPlain dLook testBit_dec dChain dLights_nil dLights_skip dLights_one dLight_nil dLight_cons dFreshes_nil dFreshes_one oneF_none oneF_some dFresh_nil dFresh_cons oneL_some oneW_true oneW_false sameV_value dPut dMay valEq arrEq listEq List.getElem?_cons Tr.get_nil dEnd
attribute [local simp] WpS_nil WpS_cons isDefer undef_false wantS_true wantS_false nextS_value nextS_skip nextS_enter callS_some gotS_some aWanted aOp aEvalF aEval opMove opAssign opPick aVal flat flat1 AAct.put opBinOp opConvert opIndex Tr.get_set Tr.get_lay aBin aResults tupled
  aCall aVals aCallB blt_dec ble_dec beq_dec aBinI_add aBinI_sub aBinI_lss aBinI_leq aBinI_gtr aBinI_geq aBinI_eql aBinI_neq index_str len_str len_slice Nat.beq_refl Nat.beq_refl
  opBox opLoad opFieldAddr opIndexAddr acells aAddr opExtract aExtract opUnOp opAlloc opStore opMakeInterface opNilCheck opBuild aParts opBuildSlice aValW
attribute [local simp] und2 und3 und4 und5 und9 und12 field13_0 field13_1 und21 und22 field23_0 field23_1 field24_0 field24_1 field25_0 field25_1 und28 und31 field34_0 field34_1 field34_2 field35_0 field35_1 field35_2 und46 field50_0 field50_1 field50_2 und55 und56 und58 und61 und62 und73 und75 und90 und94 und95 und96 field97_0 field97_1 field97_2 field97_3 field97_4 field97_5 field97_6 field98_0 field98_1 field98_2 field98_3 field98_4 field98_5 field98_6 und99 und106 field107_0 field107_1 field108_0 field108_1 und119 und122 field124_0 field124_1 field124_2 field125_0 field125_1 field125_2 field131_0 field131_1 field132_0 field132_1 und133 field134_0 field134_1 field135_0 field135_1 und148 und156 und160
set_option maxHeartbeats 4000000
set_option linter.unusedSimpArgs false
set_option linter.unusedVariables false
/-! ### the law PairWorth -/
theorem ofNat_tmod (a b : Nat) : (a : Int).tmod (b : Int) = ((a % b : Nat) : Int) := rfl
end Go.Proofs.YtdpnplanohgecaaDoor

open Go Go.Eng
namespace Go.Proofs.YtdpnplanohgecaaDoor
attribute [local congr] undef_congr WpK.congr WpS.congr WpL.congr WpC.congr WpF.congr gotS.congr callS.congr nextS.congr wantS.congr condS.congr
attribute [local irreducible] WpK
attribute [local simp] WpDr_nil WpDr_cons atS_some dwantS_true dwantS_false kindS_light kindS_float kindS_heavy lightS_value floatS_some heavyS_value heavyS_skip heavyS_enter dcallS_some doneS_eq
  isLight isFloat isPlain dLook testBit_dec dChain dLights_nil dLights_skip dLights_one dLight_nil dLight_cons dFreshes_nil dFreshes_one oneF_none oneF_some dFresh_nil dFresh_cons oneL_some oneW_true oneW_false sameV_value dPut dMay valEq arrEq listEq List.getElem?_cons Tr.get_nil dEnd
attribute [local simp] WpS_nil WpS_cons isDefer undef_false wantS_true wantS_false nextS_value nextS_skip nextS_enter callS_some gotS_some aWanted aOp aEvalF aEval opMove opAssign opPick aVal flat flat1 AAct.put opBinOp opConvert opIndex Tr.get_set Tr.get_lay aBin aResults tupled
  aCall aVals aCallB blt_dec ble_dec beq_dec aBinI_add aBinI_sub aBinI_lss aBinI_leq aBinI_gtr aBinI_geq aBinI_eql aBinI_neq index_str len_str len_slice Nat.beq_refl Nat.beq_refl
  opBox opLoad opFieldAddr opIndexAddr acells aAddr opExtract aExtract opUnOp opAlloc opStore opMakeInterface opNilCheck opBuild aParts opBuildSlice aValW
attribute [local simp] und2 und3 und4 und5 und9 und12 field13_0 field13_1 und21 und22 field23_0 field23_1 field24_0 field24_1 field25_0 field25_1 und28 und31 field34_0 field34_1 field34_2 field35_0 field35_1 field35_2 und46 field50_0 field50_1 field50_2 und55 und56 und58 und61 und62 und73 und75 und90 und94 und95 und96 field97_0 field97_1 field97_2 field97_3 field97_4 field97_5 field97_6 field98_0 field98_1 field98_2 field98_3 field98_4 field98_5 field98_6 und99 und106 field107_0 field107_1 field108_0 field108_1 und119 und122 field124_0 field124_1 field124_2 field125_0 field125_1 field125_2 field131_0 field131_1 field132_0 field132_1 und133 field134_0 field134_1 field135_0 field135_1 und148 und156 und160
set_option maxHeartbeats 4000000
set_option linter.unusedSimpArgs false
set_option linter.unusedVariables false
/-! ### how many parts are odd -/
def AjE (es : List Edge) (q r : Nat) : Prop := Jn es (q : Int) (r : Int)
theorem AjE.symm {es : List Edge} (q r : Nat) (h : AjE es q r) : AjE es r q := Jn.symm h
theorem sumF_in {Aj : Nat → Nat → Prop} {S : Nat → Prop} (k : Nat) : 0 ≤ sumN k (rootF Aj S) ∧ sumN k (rootF Aj S) ≤ k := cnt_in rootF_in k
theorem odd_wp {W : AW} {pw s : Nat} {P : Int} {J : List Nat} {es : List Edge} (hJ : JoinL es J) (hVw : Var W pw 108 (.int .i64 P :: J.map setV)) (hs : s < 4096) (hT : tabsIn T0 T0.tabs W = true) (hN0 : 0 < W.next) :
    WpF T0 62 [.pointer (some ⟨pw, 0, none⟩), .int .u64 (s : Nat)] W (fun u W' => Ext W W' ∧ u = .int .i64 (sumN 40 (rootF (AjE es) (fun r => s.testBit r = true)))) := by
  refine wpF fun62 rfl ?_
  try simp only [wpK_assoc]
  refine wpK_reg (fun R hR => by simp []; exact hR) ?_
  try simp only [wpK_assoc]
  refine wpK_reg (fun R hR => by simp []; exact hR) ?_
  obtain ⟨S, hS⟩ : ∃ S : Nat → Prop, S = fun r => s.testBit r = true := ⟨_, rfl⟩
  rw [← hS]
  have hS40 : ∀ r, S r → r < 12 := fun r hr => by rw [hS] at hr; exact bit_lt (n := 12) hs hr
  have hsy := AjE.symm (es := es)
  try simp only [wpK_assoc]
  refine wpK_while (I := fun k A' W' => A'.n = 35 ∧ A'.defers = [] ∧ A'.tmps.get 0 = some (.pointer (some ⟨pw, 0, none⟩)) ∧ Ext W W' ∧ ∃ m : Nat, A'.tmps.get 1 = some (.int .u64 (k : Nat)) ∧ A'.tmps.get 5 = some (.int .i64 (sumN m (rootF (AjE es) S))) ∧ k < 4096 ∧ LeftOf (AjE es) S m k ∧ m ≤ 40)
    (J := fun A' W' => A'.n = 35 ∧ A'.defers = [] ∧ Ext W W' ∧ A'.tmps.get 5 = some (.int .i64 (sumN 40 (rootF (AjE es) S)))) (Rt := fun _ _ => False) (k := s) ?_ ?_ ?_ ?_
  · exact ⟨rfl, rfl, by simp, .refl _ _, 0, by simp, by simp [sumN], hs, .start (fun r => by rw [hS]), by omega⟩
  · rintro k ⟨tm, n, ds⟩ Wa ⟨hn, hd, h0, hEa, m, h1, h5, hk, hLf, hm⟩ Q' hJ' hRt hI
    simp only at hn hd h0
    subst hn; subst hd
    simp only at h1 h5
    by_cases hz : k = 0
    · subst hz
      try simp only [wpK_assoc]
      refine wpK_reg (fun R hR => by simp [h1]; exact hR) ?_
      try simp only [wpK_assoc]
      first | refine wpK_onF (by simp []) ?_ | refine wpK_out (by simp []) ?_ | refine wpK_condF (by simp []) ?_ | refine wpK_endF (by simp []) (wpK_skip ?_) | refine wpK_endF (by simp []) ?_
      exact hJ' _ _ ⟨rfl, rfl, hEa, by rw [hLf.done hsy hm]; simp [h5]⟩
    have hz' : ¬ (k : Int) = 0 := by omega
    try simp only [wpK_assoc]
    refine wpK_reg (fun R hR => by simp [h1, hz', hz]; exact hR) ?_
    try simp only [wpK_assoc]
    first | refine wpK_onT (by simp [hz]) ?_ | refine wpK_outT (by simp [hz]) ?_ | refine wpK_condT (by simp [hz]) ?_ | refine wpK_endT (by simp [hz]) ?_
    obtain ⟨q, hq1, hq2⟩ := low_ex hz
    have hq12 : q < 12 := bit_lt (n := 12) hk hq1
    have hmq := hLf.low hq1
    have hroot := hLf.root hsy hq1 hq2
    have hTa := tabs_ext hT hN0 hEa
    have f1 := first_wp hTa (x := k) (by omega) hq1 hq2
    have o1 := one_wp q (by omega) Wa
    have hone : ∀ r, (1 <<< q).testBit r = true ↔ r = q := fun r => by rw [one_bit, decide_eq_true_iff]; exact ⟨fun e => e.symm, fun e => e.symm⟩
    have hone2 : 1 <<< q < 4096 := by rw [Nat.one_shiftLeft]; exact Nat.pow_lt_pow_right (n := 12) (by omega) hq12
    have hone3 : 1 <<< q ≠ 0 := fun e => by have := (hone q).2 rfl; rw [e] at this; simp at this
    generalize 1 <<< q = oq at hone hone2 hone3 o1
    refine wpK_block1 ?_
    try simp only [wpK_assoc]
    refine wpK_reg (fun R hR => by
      simp [h1, aEnter, fun81, short_other, aCallV]; rw [callS_none]
      refine f1.mono ?_
      rintro _ W9 ⟨e9, rfl⟩; subst W9
      simp [aEnter, fun68, short_other, aCallV]; rw [callS_none]
      refine o1.mono ?_
      rintro _ W9 ⟨e9, rfl⟩; subst W9
      simp; exact hR) ?_
    try simp only [wpK_assoc]
    refine wpK_reg (fun R hR => by simp []; exact hR) ?_
    generalize hc0 : sumN m (rootF (AjE es) S) = c0 at h5
    have hc0in := sumF_in (Aj := AjE es) (S := S) m
    rw [hc0] at hc0in
    try simp only [wpK_assoc]
    refine wpK_while (I := fun k2 A' W' => A'.n = 35 ∧ A'.defers = [] ∧ A'.tmps.get 0 = some (.pointer (some ⟨pw, 0, none⟩)) ∧ A'.tmps.get 1 = some (.int .u64 (k : Nat)) ∧ A'.tmps.get 5 = some (.int .i64 c0) ∧ Ext W W' ∧ ∃ part more : Nat, A'.tmps.get 6 = some (.int .u64 (part : Nat)) ∧ A'.tmps.get 7 = some (.int .u64 (more : Nat)) ∧ k2 = 2 * (4096 - part) + (if more = 0 then 0 else 1) ∧ part < 4096 ∧ (∀ r, part.testBit r = true → Rch (AjE es) S q r) ∧ part.testBit q = true ∧ (more = 0 → ∀ a r, part.testBit a = true → AjE es a r → k.testBit r = true → part.testBit r = true))
      (J := fun A' W' => A'.n = 35 ∧ A'.defers = [] ∧ A'.tmps.get 0 = some (.pointer (some ⟨pw, 0, none⟩)) ∧ A'.tmps.get 1 = some (.int .u64 (k : Nat)) ∧ A'.tmps.get 5 = some (.int .i64 c0) ∧ Ext W W' ∧ ∃ part : Nat, A'.tmps.get 6 = some (.int .u64 (part : Nat)) ∧ part < 4096 ∧ ∀ r, part.testBit r = true ↔ Rch (AjE es) S q r) (Rt := fun _ _ => False) (k := 2 * (4096 - oq) + 1) ?_ ?_ ?_ ?_
    · exact ⟨rfl, rfl, by simp [h0, h1, h5], by simp [h0, h1, h5], by simp [h0, h1, h5], hEa, oq, oq, by simp, by simp, by rw [if_neg hone3], hone2, fun r hr => by rw [(hone r).1 hr]; exact .start hroot.1, (hone q).2 rfl, fun e => absurd e hone3⟩
    · rintro k2 ⟨tm, n, ds⟩ Wb ⟨hn, hd, h0, h1, h5, hEb, part, more, h6, h7, hk2, hp, hpr, hpq, hcl⟩ Q3 hJ3 hRt3 hI3
      simp only at hn hd h0 h1 h5
      subst hn; subst hd
      simp only at h6 h7
      by_cases hmz : more = 0
      · subst hmz
        try simp only [wpK_assoc]
        refine wpK_reg (fun R hR => by simp [h7]; exact hR) ?_
        try simp only [wpK_assoc]
        first | refine wpK_onF (by simp []) ?_ | refine wpK_out (by simp []) ?_ | refine wpK_condF (by simp []) ?_ | refine wpK_endF (by simp []) (wpK_skip ?_) | refine wpK_endF (by simp []) ?_
        refine hJ3 _ _ ⟨rfl, rfl, by simp [h0, h1, h5], by simp [h0, h1, h5], by simp [h0, h1, h5], hEb, part, by simp [h6], hp, fun r => ⟨hpr r, fun hr => ?_⟩⟩
        refine hr.closed (C := fun r => part.testBit r = true) hpq (fun a b ha hab hb => ?_)
        exact hcl rfl a b ha hab (hLf.reach hq1 ((hpr a ha).step hab hb) hsy)
      have hmz' : ¬ (more : Int) = 0 := by omega
      try simp only [wpK_assoc]
      refine wpK_reg (fun R hR => by simp [h7, hmz', hmz]; exact hR) ?_
      try simp only [wpK_assoc]
      first | refine wpK_onT (by simp [hmz]) ?_ | refine wpK_outT (by simp [hmz]) ?_ | refine wpK_condT (by simp [hmz]) ?_ | refine wpK_endT (by simp [hmz]) ?_
      have har := around_wp (x := part) hJ (hVw.ext hEb) (by omega) (tabs_ext hT hN0 hEb) (by have := hEb.1; omega)
      refine wpK_block ?_
      try simp only [wpK_assoc]
      refine wpK_y3 (P := fun (R u m' : Nat) W' => Ext Wb W' ∧ (∀ r, m'.testBit r = true ↔ (∃ a, part.testBit a = true ∧ AjE es a r) ∧ k.testBit r = true ∧ part.testBit r = false)) (fun Rr hRr => by
        simp [h0, h6, aEnter, fun80, short_other, aCallV]; rw [callS_none]
        refine har.mono ?_
        rintro _ Wc ⟨hEc, R, rfl, hR40, hRb⟩
        have hand := aBinI_and .u64 R k (by show R < 18446744073709551616; omega) (by show k < 18446744073709551616; omega)
        have hu : R &&& k < 18446744073709551616 := Nat.lt_of_le_of_lt Nat.and_le_right (by omega)
        obtain ⟨m', n1, n2, n3⟩ := aBinI_andNot .u64 (R &&& k) part hu (by show part < 18446744073709551616; omega)
        have hbits : ∀ r, m'.testBit r = true ↔ (∃ a, part.testBit a = true ∧ AjE es a r) ∧ k.testBit r = true ∧ part.testBit r = false := fun r => by
          rw [n3 r, Nat.testBit_and, Bool.and_eq_true, Bool.and_eq_true, hRb r, Bool.not_eq_true']
          constructor
          · rintro ⟨⟨⟨a, ha, hb⟩, hc⟩, hd⟩
            exact ⟨⟨a, ha, (join_bit hJ (q := a) (r := r) (by have := bit_lt (n := 12) hp ha; omega)).2.1 hb⟩, hc, hd⟩
          · rintro ⟨⟨a, ha, hb⟩, hc, hd⟩
            exact ⟨⟨⟨a, ha, (join_bit hJ (q := a) (r := r) (by have := bit_lt (n := 12) hp ha; omega)).2.2 hb⟩, hc⟩, hd⟩
        generalize R &&& k = u at hand n2
        simp [h1, h6, hand, n2]
        exact hRr R u m' Wc (And.intro hEc hbits)) ?_
      rintro R u m' Wc ⟨hEc, hbits⟩
      simp only [leaves_normal, behind_normal]
      have hm12 : m' < 4096 := by
        apply Classical.byContradiction
        intro hge
        obtain ⟨r, hr1, hr2⟩ := Nat.exists_ge_and_testBit_of_ge_two_pow (n := 12) (x := m') (by omega)
        have := bit_lt (n := 12) hk ((hbits r).1 hr2).2.1
        omega
      have hor := aBinI_or .u64 part m' (by show part < 18446744073709551616; omega) (by show m' < 18446744073709551616; omega)
      have hle : part ≤ part ||| m' := Nat.left_le_or
      have hp' : part ||| m' < 4096 := Nat.or_lt_two_pow (n := 12) hp hm12
      have hb' : ∀ r, (part ||| m').testBit r = true ↔ part.testBit r = true ∨ m'.testBit r = true := fun r => by rw [Nat.testBit_or, Bool.or_eq_true]
      have hgt : m' ≠ 0 → part ≠ part ||| m' := fun hne e => by
        obtain ⟨r, hr, _⟩ := low_ex hne
        have h1 := ((hbits r).1 hr).2.2
        rw [e, (hb' r).2 (.inr hr)] at h1; cases h1
      have hz2 : m' = 0 → part ||| m' = part := fun e => by rw [e]; simp
      generalize part ||| m' = part' at hor hle hp' hb' hgt hz2
      refine wpK_keep (fun tm' => tm'.get 0 = some (.pointer (some ⟨pw, 0, none⟩)) ∧ tm'.get 1 = some (.int .u64 (k : Nat)) ∧ tm'.get 5 = some (.int .i64 c0) ∧ tm'.get 6 = some (.int .u64 (part : Nat)) ∧ tm'.get 7 = some (.int .u64 (m' : Nat))) ⟨by simp [h0, h1, h5, h6], by simp [h0, h1, h5, h6], by simp [h0, h1, h5, h6], by simp [h0, h1, h5, h6], by simp [h0, h1, h5, h6]⟩ ?_
      rintro tm ⟨h0, h1, h5, h6, h7⟩
      try simp only [wpK_assoc]
      refine wpK_reg1 (fun R hR => by simp [h6, h7, hor]; exact hR) ?_
      refine hI3 (2 * (4096 - part') + (if m' = 0 then 0 else 1)) _ _ ?_ ⟨rfl, rfl, by simp [h0, h1, h5], by simp [h0, h1, h5], by simp [h0, h1, h5], hEb.trans hEc, part', m', by simp, by simp [h7], rfl, hp', fun r hr => ?_, (hb' q).2 (.inl hpq), fun e a r ha har2 hkr => ?_⟩
      · rw [hk2, if_neg hmz]
        split
        · omega
        · rename_i hne
          have := hgt hne
          omega
      · rcases (hb' r).1 hr with hr | hr
        · exact hpr r hr
        · obtain ⟨⟨a, ha, hab⟩, hkr, _⟩ := (hbits r).1 hr
          exact (hpr a ha).step hab ((hLf r).1 hkr).1
      · rw [hz2 e] at ha ⊢
        cases hc : part.testBit r with
        | true => rfl
        | false =>
          have := (hbits r).2 ⟨⟨a, ha, har2⟩, hkr, hc⟩
          rw [e] at this; simp at this
    · rintro A' W' hf; exact hf.elim
    · rintro ⟨tm, n, ds⟩ Wb ⟨hn, hd, h0, h1, h5, hEb, part, h6, hp, hpr⟩
      simp only at hn hd h0 h1 h5
      subst hn; subst hd
      simp only at h6
      have hsz := size_wp (W := Wb) (x := part) hp
      have hrem := aBinI_rem .i64 ((pc part : Nat) : Int) (2 : Nat) (by omega)
      rw [ofNat_tmod] at hrem
      have hrt := rootF_is hroot.1 hroot.2 (fun r hr => by have := hS40 r hr; omega) hpr
      have hsum : sumN (q + 1) (rootF (AjE es) S) = c0 + ((pc part % 2 : Nat) : Int) := by
        simp only [sumN]
        rw [hrt, sumN_skip hmq (hLf.skip hsy hq2), hc0]
      have hc1 := sumF_in (Aj := AjE es) (S := S) (q + 1)
      obtain ⟨s', n1, n2, n3⟩ := aBinI_andNot .u64 k part (by show k < 18446744073709551616; omega) (by show part < 18446744073709551616; omega)
      have hnx := hLf.next hsy hq1 hq2 hpr n3
      generalize pc part = pcp at hsz hrem hsum
      have a1 : IntKind.i64.wrap (c0 + ((pcp % 2 : Nat) : Int)) = sumN (q + 1) (rootF (AjE es) S) := by rw [← hsum]; exact i64_in (by omega)
      generalize pcp % 2 = pm at hrem a1 hsum
      have hrem : aBinI .rem .i64 (pcp : Int) .i64 2 = some (.int .i64 (pm : Int)) := hrem
      try simp only [wpK_assoc]
      refine wpK_reg (fun R hR => by
          simp [h5, h6, hrem, a1, aEnter, fun82, short_other, aCallV]; rw [callS_none]
          refine (hsz).mono ?_
          rintro _ W9 ⟨e9, rfl⟩; subst W9
          simp [h5, h6, hrem, a1]; exact hR) ?_
      try simp only [wpK_assoc]
      refine wpK_reg1 (fun R hR => by simp [h1, h6, n2]; exact hR) ?_
      simp only [leaves_normal]
      have hlt : s' < k := by
        rcases Nat.lt_or_ge s' k with g | g
        · exact g
        · have e : s' = k := by omega
          have := n3 q
          rw [e, hq1, (hpr q).2 (.start hroot.1)] at this; cases this
      exact hI s' _ _ hlt ⟨rfl, rfl, by simp [h0], hEb, q + 1, by simp, by simp, by omega, hnx, by omega⟩
  · rintro A' W' hf; exact hf.elim
  · rintro ⟨tm, m, ds⟩ Wz ⟨e1, e2, hEz, h5⟩
    simp only at e1 e2 h5
    subst e1; subst e2
    try simp only [wpK_assoc]
    refine wpK_reg (fun R hR => by simp [h5]; exact hR) ?_
    exact wpK_ret ⟨.inr rfl, rfl, [.int .i64 (sumN 40 (rootF (AjE es) S))], by simp, hEz, rfl⟩

end Go.Proofs.YtdpnplanohgecaaDoor

open Go Go.Eng
namespace Go.Proofs.YtdpnplanohgecaaDoor
attribute [local congr] undef_congr WpK.congr WpS.congr WpL.congr WpC.congr WpF.congr gotS.congr callS.congr nextS.congr wantS.congr condS.congr
attribute [local irreducible] WpK
attribute [local simp] WpDr_nil WpDr_cons atS_some dwantS_true dwantS_false kindS_light kindS_float kindS_heavy lightS_value floatS_some heavyS_value heavyS_skip heavyS_enter dcallS_some doneS_eq
  isLight isFloat isPlain dLook testBit_dec dChain dLights_nil dLights_skip dLights_one dLight_nil dLight_cons dFreshes_nil dFreshes_one oneF_none oneF_some dFresh_nil dFresh_cons oneL_some oneW_true oneW_false sameV_value dPut dMay valEq arrEq listEq List.getElem?_cons Tr.get_nil dEnd
attribute [local simp] WpS_nil WpS_cons isDefer undef_false wantS_true wantS_false nextS_value nextS_skip nextS_enter callS_some gotS_some aWanted aOp aEvalF aEval opMove opAssign opPick aVal flat flat1 AAct.put opBinOp opConvert opIndex Tr.get_set Tr.get_lay aBin aResults tupled
  aCall aVals aCallB blt_dec ble_dec beq_dec aBinI_add aBinI_sub aBinI_lss aBinI_leq aBinI_gtr aBinI_geq aBinI_eql aBinI_neq index_str len_str len_slice Nat.beq_refl Nat.beq_refl
  opBox opLoad opFieldAddr opIndexAddr acells aAddr opExtract aExtract opUnOp opAlloc opStore opMakeInterface opNilCheck opBuild aParts opBuildSlice aValW
attribute [local simp] und2 und3 und4 und5 und9 und12 field13_0 field13_1 und21 und22 field23_0 field23_1 field24_0 field24_1 field25_0 field25_1 und28 und31 field34_0 field34_1 field34_2 field35_0 field35_1 field35_2 und46 field50_0 field50_1 field50_2 und55 und56 und58 und61 und62 und73 und75 und90 und94 und95 und96 field97_0 field97_1 field97_2 field97_3 field97_4 field97_5 field97_6 field98_0 field98_1 field98_2 field98_3 field98_4 field98_5 field98_6 und99 und106 field107_0 field107_1 field108_0 field108_1 und119 und122 field124_0 field124_1 field124_2 field125_0 field125_1 field125_2 field131_0 field131_1 field132_0 field132_1 und133 field134_0 field134_1 field135_0 field135_1 und148 und156 und160
set_option maxHeartbeats 4000000
set_option linter.unusedSimpArgs false
set_option linter.unusedVariables false
/-! ### the reference's parts -/
theorem TS_mem {ps : List Nat} {r : Nat} : (TS ps).testBit r = true ↔ r ∈ ps := by
  rw [TS_bit]
  constructor
  · rintro ⟨i, hi, e⟩
    rw [pOf, List.getD_eq_getElem?_getD, List.getElem?_eq_getElem hi] at e
    have e : ps[i] = r := e
    rw [← e]; exact List.getElem_mem hi
  · intro h
    obtain ⟨i, hi, e⟩ := List.getElem_of_mem h
    exact ⟨i, hi, by rw [pOf, List.getD_eq_getElem?_getD, List.getElem?_eq_getElem hi]; exact e⟩
structure Bfs (es : List Edge) (S : Nat → Prop) (v : Nat) (qs : List Nat) (i : Nat) : Prop where
  start : v ∈ qs
  rch : ∀ r, r ∈ qs → Rch (AjE es) S v r
  dis : ∀ i j, i < j → j < qs.length → pOf qs i ≠ pOf qs j
  cls : ∀ a, a < i → ∀ r, AjE es (pOf qs a) r → S r → r ∈ qs
theorem pOf_mem {qs : List Nat} {i : Nat} (h : i < qs.length) : pOf qs i ∈ qs := by
  rw [pOf, List.getD_eq_getElem?_getD, List.getElem?_eq_getElem h]; exact List.getElem_mem h
theorem pOf_app {qs : List Nat} {x i : Nat} (h : i < qs.length) : pOf (qs ++ [x]) i = pOf qs i := getD_app h
theorem Bfs.one {es : List Edge} {S : Nat → Prop} {v : Nat} (hv : S v) : Bfs es S v [v] 0 where
  start := by simp
  rch := fun r hr => by simp at hr; subst hr; exact .start hv
  dis := fun i j h1 h2 => by simp at h2; omega
  cls := fun a h => by omega
theorem Bfs.push {es : List Edge} {S : Nat → Prop} {v i : Nat} {qs : List Nat} (h : Bfs es S v qs i) (hi : i ≤ qs.length) {x : Nat} (hx : x ∉ qs) (hr : Rch (AjE es) S v x) : Bfs es S v (qs ++ [x]) i where
  start := List.mem_append_left _ h.start
  rch := fun r hr2 => by
    rcases List.mem_append.1 hr2 with h2 | h2
    · exact h.rch r h2
    · simp at h2; subst h2; exact hr
  dis := fun a b h1 h2 e => by
    simp at h2
    by_cases eb : b = qs.length
    · subst eb
      rw [pOf_app h1] at e
      have : pOf (qs ++ [x]) qs.length = x := getD_last
      rw [this] at e
      exact hx (e ▸ pOf_mem h1)
    · rw [pOf_app (by omega), pOf_app (by omega)] at e
      exact h.dis a b h1 (by omega) e
  cls := fun a ha r h1 h2 => by
    rw [pOf_app (by omega)] at h1
    exact List.mem_append_left _ (h.cls a ha r h1 h2)
theorem Bfs.lt {es : List Edge} {S : Nat → Prop} {v i n : Nat} {qs : List Nat} (h : Bfs es S v qs i) (hS : ∀ r, S r → r < n) : ∀ a, a < qs.length → pOf qs a < n := fun a ha => hS _ (h.rch _ (pOf_mem ha)).mem
theorem Bfs.pc {es : List Edge} {S : Nat → Prop} {v i n : Nat} {qs : List Nat} (h : Bfs es S v qs i) (hS : ∀ r, S r → r < n) (hn : n ≤ 40) : pc (TS qs) = qs.length ∧ qs.length ≤ n := by
  have h1 : Go.Eng.pc (TS qs) = qs.length := tk_cnt (n := n) hn (h.lt hS) h.dis
  have h2 := (cntB_le (n := n) (x := TS qs) (tk_lt (h.lt hS)) 40).1
  exact ⟨h1, by rw [← h1]; exact h2⟩
theorem Bfs.all {es : List Edge} {S : Nat → Prop} {v : Nat} {qs : List Nat} (h : Bfs es S v qs qs.length) (r : Nat) : (TS qs).testBit r = true ↔ Rch (AjE es) S v r := by
  rw [TS_mem]
  refine ⟨h.rch r, fun hr => hr.closed (C := fun r => r ∈ qs) h.start (fun a b ha hab hb => ?_)⟩
  obtain ⟨i, hi, e⟩ := List.getElem_of_mem ha
  have e : pOf qs i = a := by rw [pOf, List.getD_eq_getElem?_getD, List.getElem?_eq_getElem hi]; exact e
  exact h.cls i hi b (by rw [e]; exact hab) hb
/-- who has been met -/
def SeenTo (es : List Edge) (S : Nat → Prop) (v : Nat) (sn : List Nat) : Prop := ∀ r, r ∈ sn ↔ ∃ u, u < v ∧ Rch (AjE es) S u r
def sumL (ls : List Nat) : Int := sumN ls.length (fun i => ((ls.getD i 0 % 2 : Nat) : Int))
theorem sumL_app (ls : List Nat) (x : Nat) : sumL (ls ++ [x]) = sumL ls + ((x % 2 : Nat) : Int) := by
  unfold sumL
  rw [List.length_append]
  show sumN ls.length _ + (((ls ++ [x]).getD ls.length 0 % 2 : Nat) : Int) = _
  rw [getD_last]
  have : sumN ls.length (fun i => (((ls ++ [x]).getD i 0 % 2 : Nat) : Int)) = sumN ls.length (fun i => ((ls.getD i 0 % 2 : Nat) : Int)) := sumN_congr (fun i hi => by rw [getD_app hi])
  rw [this]
section
variable {es : List Edge} {S : Nat → Prop} {v : Nat} {sn qs : List Nat}
theorem SeenTo.out (h : SeenTo es S v sn) (hv : ¬ S v) : SeenTo es S (v + 1) sn ∧ rootF (AjE es) S v = 0 := by
  refine ⟨fun r => ?_, rootF_not (fun hh => hv hh.1)⟩
  rw [h r]
  constructor
  · rintro ⟨u, hu, hr⟩; exact ⟨u, by omega, hr⟩
  · rintro ⟨u, hu, hr⟩
    by_cases e : u = v
    · subst e; exact absurd hr.mem0 hv
    · exact ⟨u, by omega, hr⟩
theorem SeenTo.met (h : SeenTo es S v sn) (hv : v ∈ sn) : SeenTo es S (v + 1) sn ∧ rootF (AjE es) S v = 0 := by
  obtain ⟨u0, hu0, hr0⟩ := (h v).1 hv
  refine ⟨fun r => ?_, rootF_not (fun hh => hh.2 u0 hu0 (hr0.symm AjE.symm))⟩
  rw [h r]
  constructor
  · rintro ⟨u, hu, hr⟩; exact ⟨u, by omega, hr⟩
  · rintro ⟨u, hu, hr⟩
    by_cases e : u = v
    · subst e; exact ⟨u0, hu0, hr0.trans hr⟩
    · exact ⟨u, by omega, hr⟩
theorem SeenTo.next (h : SeenTo es S v sn) (hs : S v) (hv : v ∉ sn) (h40 : ∀ r, S r → r < 40) (hB : Bfs es S v qs qs.length) : SeenTo es S (v + 1) (sn ++ qs) ∧ rootF (AjE es) S v = ((qs.length % 2 : Nat) : Int) := by
  refine ⟨fun r => ?_, ?_⟩
  · rw [List.mem_append, h r, ← TS_mem (ps := qs), hB.all r]
    constructor
    · rintro (⟨u, hu, hr⟩ | hr)
      · exact ⟨u, by omega, hr⟩
      · exact ⟨v, by omega, hr⟩
    · rintro ⟨u, hu, hr⟩
      by_cases e : u = v
      · subst e; exact .inr hr
      · exact .inl ⟨u, by omega, hr⟩
  · rw [rootF_is hs (fun u hu hr => hv ((h v).2 ⟨u, hu, hr.symm AjE.symm⟩)) h40 hB.all, (hB.pc h40 (Nat.le_refl _)).1]
end
/-! ### a slice that a literal made and that then grows -/
def HeldQ (W0 W : AW) (v : Value) (qs : List Nat) : Prop := HeldN W v qs.length (natsV qs) 3 1 (fun b => W0.next ≤ b)
theorem heldQ_new (W : AW) (x : Nat) : HeldQ W (W.newCells 3 [.int .i64 (x : Int)]) (.slice (some ⟨W.next, 0, none⟩) 1 2) [x] :=
  .inl ⟨rfl, W.next, Tr.nil.lay 0 [.int .i64 (x : Int)], [], rfl, by show 0 < 1; omega, Nat.le_refl _, Nat.lt_succ_self _, by rw [newCells_get, if_pos rfl]; rfl, fun j hj => by
    rw [Tr.get_lay, if_pos (by have : j < 1 := hj; show 0 ≤ j ∧ j < 0 + 1; omega)]; simp [natsV], by simp⟩
theorem HeldQ.row {W0 W : AW} {v : Value} {qs : List Nat} (h : HeldQ W0 W v qs) (hn : 0 < qs.length) : IntR W v (qs.map Int.ofNat) := by
  obtain ⟨b, c, rfl, _, h3, h4⟩ := HeldN.has h hn
  refine ⟨some ⟨b, 0, none⟩, c, by simp, fun e => by simp at e; subst e; simp at hn, fun i a hi => ⟨b, 0, rfl, fun j u hu => ?_⟩⟩
  have hj : j = 0 := by have := (List.getElem?_eq_some_iff.1 hu).1; simp only [encI, List.length_cons, List.length_nil] at this; omega
  subst hj
  rw [Nat.zero_add, Nat.mul_one, Nat.add_zero]
  refine h4 i u ?_
  rw [List.getElem?_map] at hi
  rw [natsV, List.getElem?_map]
  cases hq : qs[i]? with
  | none => rw [hq] at hi; cases hi
  | some q =>
    rw [hq] at hi
    cases hi
    cases hu
    rfl
theorem HeldQ.push {W0 W : AW} {v : Value} {qs : List Nat} (h : HeldQ W0 W v qs) (he : W0.next ≤ W.next) (hl : qs.length ≤ 1000) (x : Nat) :
    ∃ v' W', aAppend T0 (W.newCells 3 [.int .i64 (x : Int)]) [31, 31] [v, .slice (some ⟨W.next, 0, none⟩) 1 2] = some (v', W') ∧ HeldQ W0 W' v' (qs ++ [x]) ∧ Only (fun b => W0.next ≤ b) W W' := by
  have hE : Ext W (W.newCells 3 [.int .i64 (x : Int)]) := .newCells _ _ _
  have hV := Var.new W 3 [.int .i64 (x : Int)]
  have hx' : (W.newCells 3 [.int .i64 (x : Int)]).cellsAt W.next 0 1 = some [.int .i64 (x : Int)] := by
    rw [hV.cellsAt 0 1 (by simp)]; rfl
  have h1 := HeldN.only (K' := fun _ => False) h hE (fun _ _ _ y => y)
  obtain ⟨v', W', a1, a2, a3, a4⟩ := append_heldN (T := T0) (t := 31) (el := 3) (c := 2) (by omega) und31 inf3 is3 z3 rfl h1 (u := [.int .i64 (x : Int)]) rfl hx' rfl (by rw [by3]; omega) (by omega)
  refine ⟨v', W', a1, ?_, ⟨by rw [a2, newCells_next]; omega, fun b hb hk => ?_⟩⟩
  · have e1 : (qs ++ [x]).length = qs.length + 1 := by simp
    have e2 : natsV (qs ++ [x]) = natsV qs ++ [.int .i64 (x : Int)] := by simp [natsV]
    show HeldN W' v' (qs ++ [x]).length (natsV (qs ++ [x])) 3 1 _
    rw [e1, e2]
    refine a3.mono (fun b hb => ?_)
    rcases hb with hb | hb
    · exact hb
    · rw [newCells_next] at hb; omega
  · rw [a4.2 b (by rw [newCells_next]; omega) hk]
    exact hE.2 b (by omega) (fun y => y)

end Go.Proofs.YtdpnplanohgecaaDoor

open Go Go.Eng
namespace Go.Proofs.YtdpnplanohgecaaDoor
attribute [local congr] undef_congr WpK.congr WpS.congr WpL.congr WpC.congr WpF.congr gotS.congr callS.congr nextS.congr wantS.congr condS.congr
attribute [local irreducible] WpK
attribute [local simp] WpDr_nil WpDr_cons atS_some dwantS_true dwantS_false kindS_light kindS_float kindS_heavy lightS_value floatS_some heavyS_value heavyS_skip heavyS_enter dcallS_some doneS_eq
  isLight isFloat isPlain dLook testBit_dec dChain dLights_nil dLights_skip dLights_one dLight_nil dLight_cons dFreshes_nil dFreshes_one oneF_none oneF_some dFresh_nil dFresh_cons oneL_some oneW_true oneW_false sameV_value dPut dMay valEq arrEq listEq List.getElem?_cons Tr.get_nil dEnd
attribute [local simp] WpS_nil WpS_cons isDefer undef_false wantS_true wantS_false nextS_value nextS_skip nextS_enter callS_some gotS_some aWanted aOp aEvalF aEval opMove opAssign opPick aVal flat flat1 AAct.put opBinOp opConvert opIndex Tr.get_set Tr.get_lay aBin aResults tupled
  aCall aVals aCallB blt_dec ble_dec beq_dec aBinI_add aBinI_sub aBinI_lss aBinI_leq aBinI_gtr aBinI_geq aBinI_eql aBinI_neq index_str len_str len_slice Nat.beq_refl Nat.beq_refl
  opBox opLoad opFieldAddr opIndexAddr acells aAddr opExtract aExtract opUnOp opAlloc opStore opMakeInterface opNilCheck opBuild aParts opBuildSlice aValW
attribute [local simp] und2 und3 und4 und5 und9 und12 field13_0 field13_1 und21 und22 field23_0 field23_1 field24_0 field24_1 field25_0 field25_1 und28 und31 field34_0 field34_1 field34_2 field35_0 field35_1 field35_2 und46 field50_0 field50_1 field50_2 und55 und56 und58 und61 und62 und73 und75 und90 und94 und95 und96 field97_0 field97_1 field97_2 field97_3 field97_4 field97_5 field97_6 field98_0 field98_1 field98_2 field98_3 field98_4 field98_5 field98_6 und99 und106 field107_0 field107_1 field108_0 field108_1 und119 und122 field124_0 field124_1 field124_2 field125_0 field125_1 field125_2 field131_0 field131_1 field132_0 field132_1 und133 field134_0 field134_1 field135_0 field135_1 und148 und156 und160
set_option maxHeartbeats 4000000
set_option linter.unusedSimpArgs false
set_option linter.unusedVariables false
/-! ### the reference's parts: the walk -/
theorem bs58 (W : AW) (A : Option Addr) (n c : Nat) : aBuildSlice T0 W 58 1 [(0, .slice A n c)] = some (.slice (some ⟨W.next, 0, none⟩) 1 2, W.newCells 31 [.slice A n c]) := by kernel_rfl
/-- what the list of the parts holds -/
def FallsR (W : AW) (u : Value) (ls : List Nat) : Prop := ∃ us : List Value, us.length = ls.length ∧ RowIn 1 encV W u us ∧ ∀ (i : Nat) x l, us[i]? = some x → ls[i]? = some l → ∃ A c, x = .slice A l c
open Classical in
theorem falls_wp {W : AW} {v pv : Value} {P : Int} {es : List Edge} {ps : List Nat} {n : Nat} {S : Nat → Prop} (h : PairR W v es) (hl : es.length < 4611686018427387904) (hP : P = (n : Int)) (hn12 : n ≤ 12) (hp : IntR W pv (ps.map Int.ofNat)) (hpl : ps.length < 100000)
    (hS : ∀ r, S r ↔ r < n ∧ (TS ps).testBit r = false) :
    WpF T0 34 [.agg ⟨[.int .i64 P, v]⟩, pv] W (fun u W' => Ext W W' ∧ ∃ ls, FallsR W' u ls ∧ ls.length ≤ n ∧ (∀ l ∈ ls, l ≤ n) ∧ sumL ls = sumN n (rootF (AjE es) S)) := by
  refine wpF fun34 rfl ?_
  subst hP
  have hSn : ∀ r, S r → r < n := fun r hr => ((hS r).1 hr).1
  have hS40 : ∀ r, S r → r < 40 := fun r hr => by have := hSn r hr; omega
  obtain ⟨W1, hW1, hE1, hn1, hV⟩ : ∃ W1, W1 = W.newCells 24 [.int .i64 (n : Int), v] ∧ Ext W W1 ∧ W1.next = W.next + 1 ∧ Var W1 W.next 24 [.int .i64 (n : Int), v] := ⟨_, rfl, .newCells _ _ _, rfl, Var.new _ _ _⟩
  have l0 : ∀ W', Ext W1 W' → aLoadVar T0 W' 3 W.next 0 = some (.int .i64 (n : Int)) := fun W' hE => (hV.ext hE).load1 (T := T0) und3 rfl (j := 0) (v := .int .i64 (n : Int)) rfl
  have l24 : ∀ W', Ext W1 W' → aLoadVar T0 W' 24 W.next 0 = some (.agg ⟨[.int .i64 (n : Int), v]⟩) := fun W' hE => load24 (hV.ext hE)
  have hR1 := h.ext hE1
  have hp1 := hp.ext hE1
  have vv := row_eq h
  have vp := row_eq hp
  try simp only [wpK_assoc]
  refine wpK_reg (fun R hR => by simp [← hW1]; exact hR) ?_
  try simp only [wpK_assoc]
  refine wpK_reg (fun R hR => by simp []; exact hR) ?_
  try simp only [wpK_assoc]
  refine wpK_reg (fun R hR => by simp []; exact hR) ?_
  try simp only [wpK_assoc]
  refine wpK_reg (fun R hR => by simp []; exact hR) ?_
  try simp only [wpK_assoc]
  refine wpK_while (I := fun k A' W' => A'.n = 70 ∧ A'.defers = [] ∧ A'.tmps.get 1 = some (pv) ∧ A'.tmps.get 2 = some (.pointer (some ⟨W.next, 0, none⟩)) ∧ Ext W1 W' ∧ ∃ (a : Nat) (sv fv : Value) (sn : List Nat) (us : List Value) (ls : List Nat) (Ks Kf : Nat → Prop), A'.tmps.get 7 = some (.int .i64 (a : Int)) ∧ A'.tmps.get 6 = some sv ∧ A'.tmps.get 5 = some fv ∧ k = n - a ∧ a ≤ n ∧ SeenTo es S a sn ∧ sn.length ≤ 12 * a ∧
        GrowsN W' sv sn.length (natsV sn) 3 1 Ks ∧ GrowsN W' fv us.length us 31 1 Kf ∧ us.length = ls.length ∧ ls.length ≤ a ∧ (∀ (i : Nat) x l, us[i]? = some x → ls[i]? = some l → ∃ A c, x = .slice A l c) ∧ (∀ l ∈ ls, l ≤ n) ∧ sumL ls = sumN a (rootF (AjE es) S) ∧ (∀ b, Ks b → W1.next ≤ b ∧ b < W'.next) ∧ (∀ b, Kf b → W1.next ≤ b ∧ b < W'.next ∧ ¬ Ks b))
    (J := fun A' W' => A'.n = 70 ∧ A'.defers = [] ∧ Ext W1 W' ∧ ∃ (fv : Value) (us : List Value) (ls : List Nat) (Kf : Nat → Prop), A'.tmps.get 5 = some fv ∧ GrowsN W' fv us.length us 31 1 Kf ∧ us.length = ls.length ∧ ls.length ≤ n ∧ (∀ (i : Nat) x l, us[i]? = some x → ls[i]? = some l → ∃ A c, x = .slice A l c) ∧ (∀ l ∈ ls, l ≤ n) ∧ sumL ls = sumN n (rootF (AjE es) S)) (Rt := fun _ _ => False) (k := n) ?_ ?_ ?_ ?_
  · exact ⟨rfl, rfl, by simp, by simp, .refl _ _, 0, .slice none 0 0, .slice none 0 0, [], [], [], fun _ => False, fun _ => False, by simp, by simp, by simp, rfl, by omega, fun r => ⟨fun h => by simp at h, fun ⟨u, hu, _⟩ => by omega⟩, by simp, .nil _ _ _ _, .nil _ _ _ _, rfl, by simp, fun i x l hx => by simp at hx, fun l hl => by simp at hl, rfl, fun b hb => hb.elim, fun b hb => hb.elim⟩
  · rintro k ⟨tm, n, ds⟩ Wa ⟨hn, hd, h1, h2, hEa, a, sv, fv, sn, us, ls, Ks, Kf, h7, h6, h5, hk, han, hsn, hsl, hgs, hgf, hul, hls, hus, hlen, hsum, hKs, hKf⟩ Q' hJ' hRt hI
    simp only at hn hd h1 h2
    subst hn; subst hd
    simp only at h7 h6 h5
    by_cases hlt : a < n
    case neg =>
      have e : a = n := by omega
      subst e
      try simp only [wpK_assoc]
      refine wpK_reg (fun R hR => by simp [h2, h7, l0, hEa]; exact hR) ?_
      try simp only [wpK_assoc]
      first | refine wpK_onF (by simp []) ?_ | refine wpK_out (by simp []) ?_ | refine wpK_condF (by simp []) ?_ | refine wpK_endF (by simp []) (wpK_skip ?_) | refine wpK_endF (by simp []) ?_
      exact hJ' _ _ ⟨rfl, rfl, hEa, fv, us, ls, Kf, by simp [h5], hgf, hul, hls, hus, hlen, hsum⟩
    have hlt' : (a : Int) < n := by omega
    try simp only [wpK_assoc]
    refine wpK_reg (fun R hR => by simp [h2, h7, l0, hEa, hlt']; exact hR) ?_
    try simp only [wpK_assoc]
    first | refine wpK_onT (by simp [hlt]) ?_ | refine wpK_outT (by simp [hlt]) ?_ | refine wpK_condT (by simp [hlt]) ?_ | refine wpK_endT (by simp [hlt]) ?_
    have hpa := hp1.ext hEa
    have hsa := natsV_row hgs
    have c1 := refHas_wp hpa a hpl
    have c2 := refHas_wp hsa a (by omega)
    refine wpK_block ?_
    cases hb1 : (TS ps).testBit a with
    | true =>
      rw [hb1] at c1
      obtain ⟨t1, t2⟩ := hsn.out (fun hs => by have := ((hS a).1 hs).2; rw [hb1] at this; cases this)
      try simp only [wpK_assoc]
      refine wpK_reg (fun R hR => by
          simp [h1, h7, aEnter, fun33, short_other, aCallV]; rw [callS_none]
          refine (c1).mono ?_
          rintro _ W9 ⟨e9, rfl⟩; subst W9
          simp [undef]; exact hR) ?_
      try simp only [wpK_assoc]
      first | refine wpK_onT (by simp []) ?_ | refine wpK_outT (by simp []) ?_ | refine wpK_condT (by simp []) ?_ | refine wpK_endT (by simp []) ?_
      simp only [leaves_exit, behind_normal, if_true]
      refine wpK_keep (fun tm' => tm'.get 1 = some (pv) ∧ tm'.get 2 = some (.pointer (some ⟨W.next, 0, none⟩)) ∧ tm'.get 5 = some (fv) ∧ tm'.get 6 = some (sv) ∧ tm'.get 7 = some (.int .i64 (a : Int))) ⟨by simp [h1, h2, h5, h6, h7], by simp [h1, h2, h5, h6, h7], by simp [h1, h2, h5, h6, h7], by simp [h1, h2, h5, h6, h7], by simp [h1, h2, h5, h6, h7]⟩ ?_
      rintro tm ⟨h1, h2, h5, h6, h7⟩
      try simp only [wpK_assoc]
      refine wpK_reg1 (fun R hR => by simp [h7]; exact hR) ?_
      exact hI (n - (a + 1)) _ _ (by omega) ⟨rfl, rfl, by simp [h1, h2], by simp [h1, h2], hEa, a + 1, sv, fv, sn, us, ls, Ks, Kf, by simp [i64_succ a (by omega)], by simp [h6], by simp [h5], rfl, by omega, t1, by omega, hgs, hgf, hul, by omega, hus, hlen, by simp only [sumN]; rw [t2, hsum]; omega, hKs, hKf⟩
    | false =>
      rw [hb1] at c1
      have hsa' : S a := (hS a).2 ⟨hlt, hb1⟩
      cases hb2 : (TS sn).testBit a with
      | true =>
        rw [hb2] at c2
        obtain ⟨t1, t2⟩ := hsn.met (TS_mem.1 hb2)
        try simp only [wpK_assoc]
        refine wpK_reg (fun R hR => by
          simp [h1, h7, aEnter, fun33, short_other, aCallV]; rw [callS_none]
          refine c1.mono ?_
          rintro _ W9 ⟨e9, rfl⟩; subst W9
          simp [h6, h7, aEnter, fun33, short_other, aCallV]; rw [callS_none]
          refine c2.mono ?_
          rintro _ W9 ⟨e9, rfl⟩; subst W9
          simp; exact hR) ?_
        try simp only [wpK_assoc]
        first | refine wpK_onT (by simp []) ?_ | refine wpK_outT (by simp []) ?_ | refine wpK_condT (by simp []) ?_ | refine wpK_endT (by simp []) ?_
        simp only [leaves_exit, behind_normal, if_true]
        refine wpK_keep (fun tm' => tm'.get 1 = some (pv) ∧ tm'.get 2 = some (.pointer (some ⟨W.next, 0, none⟩)) ∧ tm'.get 5 = some (fv) ∧ tm'.get 6 = some (sv) ∧ tm'.get 7 = some (.int .i64 (a : Int))) ⟨by simp [h1, h2, h5, h6, h7], by simp [h1, h2, h5, h6, h7], by simp [h1, h2, h5, h6, h7], by simp [h1, h2, h5, h6, h7], by simp [h1, h2, h5, h6, h7]⟩ ?_
        rintro tm ⟨h1, h2, h5, h6, h7⟩
        try simp only [wpK_assoc]
        refine wpK_reg1 (fun R hR => by simp [h7]; exact hR) ?_
        exact hI (n - (a + 1)) _ _ (by omega) ⟨rfl, rfl, by simp [h1, h2], by simp [h1, h2], hEa, a + 1, sv, fv, sn, us, ls, Ks, Kf, by simp [i64_succ a (by omega)], by simp [h6], by simp [h5], rfl, by omega, t1, by omega, hgs, hgf, hul, by omega, hus, hlen, by simp only [sumN]; rw [t2, hsum]; omega, hKs, hKf⟩
      | false =>
        rw [hb2] at c2
        have hnm : a ∉ sn := fun hm => by have := TS_mem.2 hm; rw [hb2] at this; cases this
        try simp only [wpK_assoc]
        refine wpK_reg (fun R hR => by
          simp [h1, h7, aEnter, fun33, short_other, aCallV]; rw [callS_none]
          refine c1.mono ?_
          rintro _ W9 ⟨e9, rfl⟩; subst W9
          simp [h6, h7, aEnter, fun33, short_other, aCallV]; rw [callS_none]
          refine c2.mono ?_
          rintro _ W9 ⟨e9, rfl⟩; subst W9
          simp; exact hR) ?_
        try simp only [wpK_assoc]
        first | refine wpK_onF (by simp []) ?_ | refine wpK_out (by simp []) ?_ | refine wpK_condF (by simp []) ?_ | refine wpK_endF (by simp []) (wpK_skip ?_) | refine wpK_endF (by simp []) ?_
        have hH0 := heldQ_new Wa a
        obtain ⟨W2, hW2, hE2⟩ : ∃ W2, W2 = Wa.newCells 3 [.int .i64 (a : Int)] ∧ Ext Wa W2 := ⟨_, rfl, .newCells _ _ _⟩
        have hO2 : Only (fun b => Wa.next ≤ b) Wa W2 := ⟨hE2.1, fun b hb _ => hE2.2 b hb (fun x => x)⟩
        rw [← hW2] at hH0
        try simp only [wpK_assoc]
        refine wpK_reg (fun R hR => by simp [h7, bs31, ← hW2]; exact hR) ?_
        try simp only [wpK_assoc]
        refine wpK_reg (fun R hR => by simp []; exact hR) ?_
        obtain ⟨p0, hp0⟩ : ∃ p : Value, p = .slice (some ⟨Wa.next, 0, none⟩) 1 2 := ⟨_, rfl⟩
        rw [← hp0] at hH0
        try simp only [wpK_assoc]
        refine wpK_while (I := fun k2 A' W' => A'.n = 70 ∧ A'.defers = [] ∧ A'.tmps.get 1 = some (pv) ∧ A'.tmps.get 2 = some (.pointer (some ⟨W.next, 0, none⟩)) ∧ A'.tmps.get 5 = some (fv) ∧ A'.tmps.get 6 = some (sv) ∧ A'.tmps.get 7 = some (.int .i64 (a : Int)) ∧ Only (fun b => Wa.next ≤ b) Wa W' ∧ ∃ (i : Nat) (qv : Value) (qs : List Nat), A'.tmps.get 9 = some (.int .i64 (i : Int)) ∧ A'.tmps.get 8 = some qv ∧ k2 = n - i ∧ i ≤ qs.length ∧ HeldQ Wa W' qv qs ∧ Bfs es S a qs i)
          (J := fun A' W' => A'.n = 70 ∧ A'.defers = [] ∧ A'.tmps.get 1 = some (pv) ∧ A'.tmps.get 2 = some (.pointer (some ⟨W.next, 0, none⟩)) ∧ A'.tmps.get 5 = some (fv) ∧ A'.tmps.get 6 = some (sv) ∧ A'.tmps.get 7 = some (.int .i64 (a : Int)) ∧ Only (fun b => Wa.next ≤ b) Wa W' ∧ ∃ (qv : Value) (qs : List Nat), A'.tmps.get 8 = some qv ∧ HeldQ Wa W' qv qs ∧ Bfs es S a qs qs.length) (Rt := fun _ _ => False) (k := n) ?_ ?_ ?_ ?_
        · exact ⟨rfl, rfl, by simp [h1, h2, h5, h6, h7], by simp [h1, h2, h5, h6, h7], by simp [h1, h2, h5, h6, h7], by simp [h1, h2, h5, h6, h7], by simp [h1, h2, h5, h6, h7], hO2, 0, p0, [a], by simp, by simp [hp0], rfl, by simp, hH0, .one hsa'⟩
        · rintro k2 ⟨tm, n, ds⟩ Wb ⟨hn, hd, h1, h2, h5, h6, h7, hOb, i, qv, qs, h9, h8, hk2, hiq, hHq, hBf⟩ Q2 hJ2 hRt2 hI2
          simp only at hn hd h1 h2 h5 h6 h7
          subst hn; subst hd
          simp only at h9 h8
          have hql := (hBf.pc hSn (by omega)).2
          have hq0 : 0 < qs.length := List.length_pos_of_mem hBf.start
          have hrow := hHq.row hq0
          obtain ⟨Aq, cq, hqv⟩ := hrow.len
          rw [List.length_map] at hqv
          have lq : ∀ W', aLen T0 W' 31 qv = some (.int .i64 (qs.length : Int)) := fun W' => by rw [hqv]; exact len_slice und31 _ _ _
          by_cases hli : i < qs.length
          case neg =>
            have e : i = qs.length := by omega
            subst e
            try simp only [wpK_assoc]
            refine wpK_reg (fun R hR => by simp [h8, h9, lq]; exact hR) ?_
            try simp only [wpK_assoc]
            first | refine wpK_onF (by simp []) ?_ | refine wpK_out (by simp []) ?_ | refine wpK_condF (by simp []) ?_ | refine wpK_endF (by simp []) (wpK_skip ?_) | refine wpK_endF (by simp []) ?_
            exact hJ2 _ _ ⟨rfl, rfl, by simp [h1, h2, h5, h6, h7], by simp [h1, h2, h5, h6, h7], by simp [h1, h2, h5, h6, h7], by simp [h1, h2, h5, h6, h7], by simp [h1, h2, h5, h6, h7], hOb, qv, qs, by simp [h8], hHq, hBf⟩
          have hli' : (i : Int) < qs.length := by omega
          try simp only [wpK_assoc]
          refine wpK_reg (fun R hR => by simp [h8, h9, lq, hli']; exact hR) ?_
          try simp only [wpK_assoc]
          first | refine wpK_onT (by simp [hli]) ?_ | refine wpK_outT (by simp [hli]) ?_ | refine wpK_condT (by simp [hli]) ?_ | refine wpK_endT (by simp [hli]) ?_
          refine wpK_block ?_
          try simp only [wpK_assoc]
          refine wpK_reg (fun R hR => by simp []; exact hR) ?_
          obtain ⟨y, hy⟩ : ∃ y, y = pOf qs i := ⟨_, rfl⟩
          have hym := pOf_mem hli
          rw [← hy] at hym
          try simp only [wpK_assoc]
          refine wpK_while1 (I := fun k3 A' W' => A'.n = 70 ∧ A'.defers = [] ∧ A'.tmps.get 1 = some (pv) ∧ A'.tmps.get 2 = some (.pointer (some ⟨W.next, 0, none⟩)) ∧ A'.tmps.get 5 = some (fv) ∧ A'.tmps.get 6 = some (sv) ∧ A'.tmps.get 7 = some (.int .i64 (a : Int)) ∧ A'.tmps.get 9 = some (.int .i64 (i : Int)) ∧ Only (fun b => Wa.next ≤ b) Wa W' ∧ ∃ (u : Nat) (qv : Value) (qs : List Nat), A'.tmps.get 10 = some (.int .i64 (u : Int)) ∧ A'.tmps.get 8 = some qv ∧ k3 = n - u ∧ u ≤ n ∧ HeldQ Wa W' qv qs ∧ Bfs es S a qs i ∧ i < qs.length ∧ pOf qs i = y ∧ ∀ r, r < u → AjE es y r → S r → r ∈ qs)
            (J := fun A' W' => A'.n = 70 ∧ A'.defers = [] ∧ A'.tmps.get 1 = some (pv) ∧ A'.tmps.get 2 = some (.pointer (some ⟨W.next, 0, none⟩)) ∧ A'.tmps.get 5 = some (fv) ∧ A'.tmps.get 6 = some (sv) ∧ A'.tmps.get 7 = some (.int .i64 (a : Int)) ∧ A'.tmps.get 9 = some (.int .i64 (i : Int)) ∧ Only (fun b => Wa.next ≤ b) Wa W' ∧ ∃ (qv : Value) (qs : List Nat), A'.tmps.get 8 = some qv ∧ HeldQ Wa W' qv qs ∧ Bfs es S a qs (i + 1) ∧ i < qs.length) (Rt := fun _ _ => False) (k := n) ?_ ?_ ?_ ?_
          · exact ⟨rfl, rfl, by simp [h1, h2, h5, h6, h7, h9], by simp [h1, h2, h5, h6, h7, h9], by simp [h1, h2, h5, h6, h7, h9], by simp [h1, h2, h5, h6, h7, h9], by simp [h1, h2, h5, h6, h7, h9], by simp [h1, h2, h5, h6, h7, h9], hOb, 0, qv, qs, by simp, by simp [h8], rfl, by omega, hHq, hBf, hli, hy.symm, fun r hr => by omega⟩
          · clear hBf hHq hrow lq hqv hql hq0 hli hli' hym hy hiq
            rintro k3 ⟨tm, n, ds⟩ Wc ⟨hn, hd, h1, h2, h5, h6, h7, h9, hOc, u, qv2, qs, h10, h8, hk3, hun, hHq, hBf, hli, hy, hpart⟩ Q3 hJ3 hRt3 hI3
            simp only at hn hd h1 h2 h5 h6 h7 h9
            subst hn; subst hd
            simp only at h10 h8
            have hEc : Ext W1 Wc := ⟨by have := hEa.1; have := hOc.1; omega, fun b hb hk => by rw [hOc.2 b (by have := hEa.1; omega) (by have := hEa.1; omega)]; exact hEa.2 b hb hk⟩
            by_cases hlu : u < n
            case neg =>
              have e : u = n := by omega
              subst e
              try simp only [wpK_assoc]
              refine wpK_reg (fun R hR => by simp [h2, h10, l0, hEc]; exact hR) ?_
              try simp only [wpK_assoc]
              first | refine wpK_onF (by simp []) ?_ | refine wpK_out (by simp []) ?_ | refine wpK_condF (by simp []) ?_ | refine wpK_endF (by simp []) (wpK_skip ?_) | refine wpK_endF (by simp []) ?_
              refine hJ3 _ _ ⟨rfl, rfl, by simp [h1, h2, h5, h6, h7, h9], by simp [h1, h2, h5, h6, h7, h9], by simp [h1, h2, h5, h6, h7, h9], by simp [h1, h2, h5, h6, h7, h9], by simp [h1, h2, h5, h6, h7, h9], by simp [h1, h2, h5, h6, h7, h9], hOc, qv2, qs, by simp [h8], hHq, ⟨hBf.start, hBf.rch, hBf.dis, fun b hb r h1 h2 => ?_⟩, hli⟩
              by_cases e : b = i
              · subst e; rw [hy] at h1; exact hpart r (hSn r h2) h1 h2
              · exact hBf.cls b (by omega) r h1 h2
            have hlu' : (u : Int) < n := by omega
            try simp only [wpK_assoc]
            refine wpK_reg (fun R hR => by simp [h2, h10, l0, hEc, hlu']; exact hR) ?_
            try simp only [wpK_assoc]
            first | refine wpK_onT (by simp [hlu]) ?_ | refine wpK_outT (by simp [hlu]) ?_ | refine wpK_condT (by simp [hlu]) ?_ | refine wpK_endT (by simp [hlu]) ?_
            have hq0 : 0 < qs.length := List.length_pos_of_mem hBf.start
            have hql := (hBf.pc hSn (by omega)).2
            have hrow := hHq.row hq0
            obtain ⟨bx, px, x1, _, x3⟩ := int_at31 hrow (nat_some (ps := qs) (i := i) hli)
            rw [hy] at x3
            have x2 : ∀ W', Ext Wc W' → aLoadVar T0 W' 3 bx px = some (.int .i64 (y : Int)) := fun W' hE => load_of und3 rfl (x3.ext hE)
            have ecc : Ext Wc Wc := .refl _ _
            have l24c : ∀ W', Ext Wc W' → aLoadVar T0 W' 24 W.next 0 = some (.agg ⟨[.int .i64 (n : Int), v]⟩) := fun W' hE => l24 W' (hEc.trans hE)
            have hjw := refJoined_wp (n : Int) (hR1.ext hEc) hl (y : Int) (u : Int)
            have vq := row_eq hrow
            have hyq : y ∈ qs := hy ▸ pOf_mem hli
            have hstay : ∀ (A' : AAct) (W' : AW), A'.n = 70 ∧ A'.defers = [] ∧ A'.tmps.get 1 = some (pv) ∧ A'.tmps.get 2 = some (.pointer (some ⟨W.next, 0, none⟩)) ∧ A'.tmps.get 5 = some (fv) ∧ A'.tmps.get 6 = some (sv) ∧ A'.tmps.get 7 = some (.int .i64 (a : Int)) ∧ A'.tmps.get 9 = some (.int .i64 (i : Int)) → Ext Wc W' → A'.tmps.get 10 = some (.int .i64 ((u + 1 : Nat) : Int)) → A'.tmps.get 8 = some qv2 → (AjE es y u → S u → u ∈ qs) → Q3 .normal A' W' := fun A' W' hN hE h1 h2 h3 => by
              refine hI3 (n - (u + 1)) _ _ (by omega) ⟨hN.1, hN.2.1, hN.2.2.1, hN.2.2.2.1, hN.2.2.2.2.1, hN.2.2.2.2.2.1, hN.2.2.2.2.2.2.1, hN.2.2.2.2.2.2.2, hOc.trans (hE.mono (fun b _ (hf : False) => hf.elim)), u + 1, qv2, qs, h1, h2, rfl, by omega, HeldN.only hHq hE (fun _ _ _ x => x), hBf, hli, hy, fun r hr h4 h5 => ?_⟩
              by_cases e : r = u
              · subst e; exact h3 h4 h5
              · exact hpart r (by omega) h4 h5
            refine wpK_block ?_
            by_cases hj : Jn es (y : Int) (u : Int)
            case neg =>
              rw [decide_eq_false hj] at hjw
              try simp only [wpK_assoc]
              refine wpK_d0 (wr := Tr.nil |>.set 39 0 |>.set 40 1 |>.set 41 2 |>.set 42 3 |>.set 43 4 |>.set 44 5 |>.set 45 6 |>.set 46 7 |>.set 47 8 |>.set 48 9 |>.set 49 10 |>.set 50 11 |>.set 51 12 |>.set 52 13 |>.set 53 14 |>.set 54 15 |>.set 55 16 |>.set 56 17 |>.set 57 18) (bits := Tr.nil.lay 0 [0, 0, 0, 6, 14, 0, 63, 127, 255, 255, 1023, 2047, 4095, 8191, 16383, 16383, 65535, 131071, 262143]) (ord := [0, 1, 2, 3, 4, 5, 6, 7, 8, 9, 10, 11, 12, 13, 14, 15, 16, 17, 18]) (by kernel_rfl) (by kernel_rfl) (by kernel_rfl) (fun G hG => by
                simp [h1, h2, h8, h9, h10, x1, x2, ecc, l24c, vv, vp, vq, undef, aEnter, fun64, short_other, aCallV]
                rw [dcallS_none]
                refine hjw.mono ?_
                rintro _ Wd ⟨hEd, rfl⟩
                simp [hEd.1, hEd, h1, h2, h8, h9, h10, x1, x2, ecc, l24c, vv, vp, vq, undef]
                exact hG Wd hEd) ?_
              rintro Wd hEd
              try simp only [wpK_assoc]
              first | refine wpK_onF (by simp []) ?_ | refine wpK_out (by simp []) ?_ | refine wpK_condF (by simp []) ?_ | refine wpK_endF (by simp []) (wpK_skip ?_) | refine wpK_endF (by simp []) ?_
              simp only [leaves_normal, behind_normal]
              refine wpK_keep (fun tm' => tm'.get 1 = some (pv) ∧ tm'.get 2 = some (.pointer (some ⟨W.next, 0, none⟩)) ∧ tm'.get 5 = some (fv) ∧ tm'.get 6 = some (sv) ∧ tm'.get 7 = some (.int .i64 (a : Int)) ∧ tm'.get 8 = some (qv2) ∧ tm'.get 9 = some (.int .i64 (i : Int)) ∧ tm'.get 10 = some (.int .i64 (u : Int))) ⟨by simp [h1, h2, h5, h6, h7, h8, h9, h10], by simp [h1, h2, h5, h6, h7, h8, h9, h10], by simp [h1, h2, h5, h6, h7, h8, h9, h10], by simp [h1, h2, h5, h6, h7, h8, h9, h10], by simp [h1, h2, h5, h6, h7, h8, h9, h10], by simp [h1, h2, h5, h6, h7, h8, h9, h10], by simp [h1, h2, h5, h6, h7, h8, h9, h10], by simp [h1, h2, h5, h6, h7, h8, h9, h10]⟩ ?_
              rintro tm ⟨h1, h2, h5, h6, h7, h8, h9, h10⟩
              try simp only [wpK_assoc]
              refine wpK_reg1 (fun R hR => by simp [h10]; exact hR) ?_
              exact hstay _ _ ⟨rfl, rfl, by simp [h1, h2, h5, h6, h7, h9], by simp [h1, h2, h5, h6, h7, h9], by simp [h1, h2, h5, h6, h7, h9], by simp [h1, h2, h5, h6, h7, h9], by simp [h1, h2, h5, h6, h7, h9], by simp [h1, h2, h5, h6, h7, h9]⟩ hEd (by simp [i64_succ u (by omega)]) (by simp [h8]) (fun hh => absurd hh hj)
            rw [decide_eq_true hj] at hjw
            have d1 := fun (Wd : AW) (hEd : Ext Wc Wd) => refHas_wp ((hp1.ext hEc).ext hEd) u hpl
            have d2 := fun (Wd : AW) (hEd : Ext Wc Wd) => refHas_wp (hrow.ext hEd) u (by omega)
            cases hb3 : (TS ps).testBit u with
            | true =>
              rw [hb3] at d1
              have hns : ¬ S u := fun hs => by have := ((hS u).1 hs).2; rw [hb3] at this; cases this
              try simp only [wpK_assoc]
              refine wpK_d0 (wr := Tr.nil |>.set 39 0 |>.set 40 1 |>.set 41 2 |>.set 42 3 |>.set 43 4 |>.set 44 5 |>.set 45 6 |>.set 46 7 |>.set 47 8 |>.set 48 9 |>.set 49 10 |>.set 50 11 |>.set 51 12 |>.set 52 13 |>.set 53 14 |>.set 54 15 |>.set 55 16 |>.set 56 17 |>.set 57 18) (bits := Tr.nil.lay 0 [0, 0, 0, 6, 14, 0, 63, 127, 255, 255, 1023, 2047, 4095, 8191, 16383, 16383, 65535, 131071, 262143]) (ord := [0, 1, 2, 3, 4, 5, 6, 7, 8, 9, 10, 11, 12, 13, 14, 15, 16, 17, 18]) (by kernel_rfl) (by kernel_rfl) (by kernel_rfl) (fun G hG => by
                simp [h1, h2, h8, h9, h10, x1, x2, ecc, l24c, vv, vp, vq, undef, aEnter, fun64, short_other, aCallV]
                rw [dcallS_none]
                refine hjw.mono ?_
                rintro _ Wd ⟨hEd, rfl⟩
                simp [hEd.1, hEd, h1, h2, h8, h9, h10, x1, x2, ecc, l24c, vv, vp, vq, undef, aEnter, fun33, short_other, aCallV]
                rw [dcallS_none]
                refine (d1 Wd hEd).mono ?_
                rintro _ W9 ⟨e9, rfl⟩; subst W9
                simp [hEd.1, hEd, h1, h2, h8, h9, h10, x1, x2, ecc, l24c, vv, vp, vq, undef]
                exact hG Wd hEd) ?_
              rintro Wd hEd
              try simp only [wpK_assoc]
              first | refine wpK_onF (by simp []) ?_ | refine wpK_out (by simp []) ?_ | refine wpK_condF (by simp []) ?_ | refine wpK_endF (by simp []) (wpK_skip ?_) | refine wpK_endF (by simp []) ?_
              simp only [leaves_normal, behind_normal]
              refine wpK_keep (fun tm' => tm'.get 1 = some (pv) ∧ tm'.get 2 = some (.pointer (some ⟨W.next, 0, none⟩)) ∧ tm'.get 5 = some (fv) ∧ tm'.get 6 = some (sv) ∧ tm'.get 7 = some (.int .i64 (a : Int)) ∧ tm'.get 8 = some (qv2) ∧ tm'.get 9 = some (.int .i64 (i : Int)) ∧ tm'.get 10 = some (.int .i64 (u : Int))) ⟨by simp [h1, h2, h5, h6, h7, h8, h9, h10], by simp [h1, h2, h5, h6, h7, h8, h9, h10], by simp [h1, h2, h5, h6, h7, h8, h9, h10], by simp [h1, h2, h5, h6, h7, h8, h9, h10], by simp [h1, h2, h5, h6, h7, h8, h9, h10], by simp [h1, h2, h5, h6, h7, h8, h9, h10], by simp [h1, h2, h5, h6, h7, h8, h9, h10], by simp [h1, h2, h5, h6, h7, h8, h9, h10]⟩ ?_
              rintro tm ⟨h1, h2, h5, h6, h7, h8, h9, h10⟩
              try simp only [wpK_assoc]
              refine wpK_reg1 (fun R hR => by simp [h10]; exact hR) ?_
              exact hstay _ _ ⟨rfl, rfl, by simp [h1, h2, h5, h6, h7, h9], by simp [h1, h2, h5, h6, h7, h9], by simp [h1, h2, h5, h6, h7, h9], by simp [h1, h2, h5, h6, h7, h9], by simp [h1, h2, h5, h6, h7, h9], by simp [h1, h2, h5, h6, h7, h9]⟩ hEd (by simp [i64_succ u (by omega)]) (by simp [h8]) (fun _ hh => absurd hh hns)
            | false =>
              rw [hb3] at d1
              have hsu : S u := (hS u).2 ⟨hlu, hb3⟩
              cases hb4 : (TS qs).testBit u with
              | true =>
                rw [hb4] at d2
                have hin := TS_mem.1 hb4
                try simp only [wpK_assoc]
                refine wpK_d0 (wr := Tr.nil |>.set 39 0 |>.set 40 1 |>.set 41 2 |>.set 42 3 |>.set 43 4 |>.set 44 5 |>.set 45 6 |>.set 46 7 |>.set 47 8 |>.set 48 9 |>.set 49 10 |>.set 50 11 |>.set 51 12 |>.set 52 13 |>.set 53 14 |>.set 54 15 |>.set 55 16 |>.set 56 17 |>.set 57 18) (bits := Tr.nil.lay 0 [0, 0, 0, 6, 14, 0, 63, 127, 255, 255, 1023, 2047, 4095, 8191, 16383, 16383, 65535, 131071, 262143]) (ord := [0, 1, 2, 3, 4, 5, 6, 7, 8, 9, 10, 11, 12, 13, 14, 15, 16, 17, 18]) (by kernel_rfl) (by kernel_rfl) (by kernel_rfl) (fun G hG => by
                  simp [h1, h2, h8, h9, h10, x1, x2, ecc, l24c, vv, vp, vq, undef, aEnter, fun64, short_other, aCallV]
                  rw [dcallS_none]
                  refine hjw.mono ?_
                  rintro _ Wd ⟨hEd, rfl⟩
                  simp [hEd.1, hEd, h1, h2, h8, h9, h10, x1, x2, ecc, l24c, vv, vp, vq, undef, aEnter, fun33, short_other, aCallV]
                  rw [dcallS_none]
                  refine (d1 Wd hEd).mono ?_
                  rintro _ W9 ⟨e9, rfl⟩; subst W9
                  simp [hEd.1, hEd, h1, h2, h8, h9, h10, x1, x2, ecc, l24c, vv, vp, vq, undef, aEnter, fun33, short_other, aCallV]
                  rw [dcallS_none]
                  refine (d2 Wd hEd).mono ?_
                  rintro _ W9 ⟨e9, rfl⟩; subst W9
                  simp [hEd.1, hEd, h1, h2, h8, h9, h10, x1, x2, ecc, l24c, vv, vp, vq, undef]
                  exact hG Wd hEd) ?_
                rintro Wd hEd
                try simp only [wpK_assoc]
                first | refine wpK_onF (by simp []) ?_ | refine wpK_out (by simp []) ?_ | refine wpK_condF (by simp []) ?_ | refine wpK_endF (by simp []) (wpK_skip ?_) | refine wpK_endF (by simp []) ?_
                simp only [leaves_normal, behind_normal]
                refine wpK_keep (fun tm' => tm'.get 1 = some (pv) ∧ tm'.get 2 = some (.pointer (some ⟨W.next, 0, none⟩)) ∧ tm'.get 5 = some (fv) ∧ tm'.get 6 = some (sv) ∧ tm'.get 7 = some (.int .i64 (a : Int)) ∧ tm'.get 8 = some (qv2) ∧ tm'.get 9 = some (.int .i64 (i : Int)) ∧ tm'.get 10 = some (.int .i64 (u : Int))) ⟨by simp [h1, h2, h5, h6, h7, h8, h9, h10], by simp [h1, h2, h5, h6, h7, h8, h9, h10], by simp [h1, h2, h5, h6, h7, h8, h9, h10], by simp [h1, h2, h5, h6, h7, h8, h9, h10], by simp [h1, h2, h5, h6, h7, h8, h9, h10], by simp [h1, h2, h5, h6, h7, h8, h9, h10], by simp [h1, h2, h5, h6, h7, h8, h9, h10], by simp [h1, h2, h5, h6, h7, h8, h9, h10]⟩ ?_
                rintro tm ⟨h1, h2, h5, h6, h7, h8, h9, h10⟩
                try simp only [wpK_assoc]
                refine wpK_reg1 (fun R hR => by simp [h10]; exact hR) ?_
                exact hstay _ _ ⟨rfl, rfl, by simp [h1, h2, h5, h6, h7, h9], by simp [h1, h2, h5, h6, h7, h9], by simp [h1, h2, h5, h6, h7, h9], by simp [h1, h2, h5, h6, h7, h9], by simp [h1, h2, h5, h6, h7, h9], by simp [h1, h2, h5, h6, h7, h9]⟩ hEd (by simp [i64_succ u (by omega)]) (by simp [h8]) (fun _ _ => hin)
              | false =>
                rw [hb4] at d2
                have hnin : u ∉ qs := fun hm => by have := TS_mem.2 hm; rw [hb4] at this; cases this
                try simp only [wpK_assoc]
                refine wpK_d0 (wr := Tr.nil |>.set 39 0 |>.set 40 1 |>.set 41 2 |>.set 42 3 |>.set 43 4 |>.set 44 5 |>.set 45 6 |>.set 46 7 |>.set 47 8 |>.set 48 9 |>.set 49 10 |>.set 50 11 |>.set 51 12 |>.set 52 13 |>.set 53 14 |>.set 54 15 |>.set 55 16 |>.set 56 17 |>.set 57 18) (bits := Tr.nil.lay 0 [0, 0, 0, 6, 14, 0, 63, 127, 255, 255, 1023, 2047, 4095, 8191, 16383, 16383, 65535, 131071, 262143]) (ord := [0, 1, 2, 3, 4, 5, 6, 7, 8, 9, 10, 11, 12, 13, 14, 15, 16, 17, 18]) (by kernel_rfl) (by kernel_rfl) (by kernel_rfl) (fun G hG => by
                  simp [h1, h2, h8, h9, h10, x1, x2, ecc, l24c, vv, vp, vq, undef, aEnter, fun64, short_other, aCallV]
                  rw [dcallS_none]
                  refine hjw.mono ?_
                  rintro _ Wd ⟨hEd, rfl⟩
                  simp [hEd.1, hEd, h1, h2, h8, h9, h10, x1, x2, ecc, l24c, vv, vp, vq, undef, aEnter, fun33, short_other, aCallV]
                  rw [dcallS_none]
                  refine (d1 Wd hEd).mono ?_
                  rintro _ W9 ⟨e9, rfl⟩; subst W9
                  simp [hEd.1, hEd, h1, h2, h8, h9, h10, x1, x2, ecc, l24c, vv, vp, vq, undef, aEnter, fun33, short_other, aCallV]
                  rw [dcallS_none]
                  refine (d2 Wd hEd).mono ?_
                  rintro _ W9 ⟨e9, rfl⟩; subst W9
                  simp [hEd.1, hEd, h1, h2, h8, h9, h10, x1, x2, ecc, l24c, vv, vp, vq, undef]
                  exact hG Wd hEd) ?_
                rintro Wd hEd
                try simp only [wpK_assoc]
                first | refine wpK_onT (by simp []) ?_ | refine wpK_outT (by simp []) ?_ | refine wpK_condT (by simp []) ?_ | refine wpK_endT (by simp []) ?_
                have hHd : HeldQ Wa Wd qv2 qs := HeldN.only hHq hEd (fun _ _ _ x => x)
                obtain ⟨qv', We, m1, m2, m3⟩ := hHd.push (by have := hOc.1; have := hEd.1; omega) (by omega) u
                refine wpK_keep (fun tm' => tm'.get 1 = some (pv) ∧ tm'.get 2 = some (.pointer (some ⟨W.next, 0, none⟩)) ∧ tm'.get 5 = some (fv) ∧ tm'.get 6 = some (sv) ∧ tm'.get 7 = some (.int .i64 (a : Int)) ∧ tm'.get 8 = some (qv2) ∧ tm'.get 9 = some (.int .i64 (i : Int)) ∧ tm'.get 10 = some (.int .i64 (u : Int))) ⟨by simp [h1, h2, h5, h6, h7, h8, h9, h10], by simp [h1, h2, h5, h6, h7, h8, h9, h10], by simp [h1, h2, h5, h6, h7, h8, h9, h10], by simp [h1, h2, h5, h6, h7, h8, h9, h10], by simp [h1, h2, h5, h6, h7, h8, h9, h10], by simp [h1, h2, h5, h6, h7, h8, h9, h10], by simp [h1, h2, h5, h6, h7, h8, h9, h10], by simp [h1, h2, h5, h6, h7, h8, h9, h10]⟩ ?_
                rintro tm ⟨h1, h2, h5, h6, h7, h8, h9, h10⟩
                try simp only [wpK_assoc]
                refine wpK_reg1 (fun R hR => by simp [h8, h10, bs31, m1]; exact hR) ?_
                simp only [leaves_normal, behind_normal]
                refine wpK_keep (fun tm' => tm'.get 1 = some (pv) ∧ tm'.get 2 = some (.pointer (some ⟨W.next, 0, none⟩)) ∧ tm'.get 5 = some (fv) ∧ tm'.get 6 = some (sv) ∧ tm'.get 7 = some (.int .i64 (a : Int)) ∧ tm'.get 8 = some (qv') ∧ tm'.get 9 = some (.int .i64 (i : Int)) ∧ tm'.get 10 = some (.int .i64 (u : Int))) ⟨by simp [h1, h2, h5, h6, h7, h9, h10], by simp [h1, h2, h5, h6, h7, h9, h10], by simp [h1, h2, h5, h6, h7, h9, h10], by simp [h1, h2, h5, h6, h7, h9, h10], by simp [h1, h2, h5, h6, h7, h9, h10], by simp [h1, h2, h5, h6, h7, h9, h10], by simp [h1, h2, h5, h6, h7, h9, h10], by simp [h1, h2, h5, h6, h7, h9, h10]⟩ ?_
                rintro tm ⟨h1, h2, h5, h6, h7, h8, h9, h10⟩
                try simp only [wpK_assoc]
                refine wpK_reg1 (fun R hR => by simp [h10]; exact hR) ?_
                refine hI3 (n - (u + 1)) _ _ (by omega) ⟨rfl, rfl, by simp [h1, h2, h5, h6, h7, h9], by simp [h1, h2, h5, h6, h7, h9], by simp [h1, h2, h5, h6, h7, h9], by simp [h1, h2, h5, h6, h7, h9], by simp [h1, h2, h5, h6, h7, h9], by simp [h1, h2, h5, h6, h7, h9], (hOc.trans (hEd.mono (fun b _ (hf : False) => hf.elim))).trans m3, u + 1, qv', qs ++ [u], by simp [i64_succ u (by omega)], by simp [h8], rfl, by omega, m2, hBf.push (by omega) hnin ((hBf.rch y hyq).step hj hsu), by simp; omega, by rw [pOf_app hli]; exact hy, fun r hr h4 h5 => ?_⟩
                by_cases e : r = u
                · subst e; simp
                · exact List.mem_append_left _ (hpart r (by omega) h4 h5)
          · rintro A' W' hf; exact hf.elim
          · clear hBf hHq hrow lq hqv hql hq0 hli hli' hym hy hiq
            rintro ⟨tm, n, ds⟩ Wc ⟨hn, hd, h1, h2, h5, h6, h7, h9, hOc, qv2, qs, h8, hHq, hBf, hli⟩
            simp only at hn hd h1 h2 h5 h6 h7 h9
            subst hn; subst hd
            simp only at h8
            have hql := (hBf.pc hSn (by omega)).2
            simp only [leaves_normal, behind_normal]
            try simp only [wpK_assoc]
            refine wpK_reg1 (fun R hR => by simp [h9]; exact hR) ?_
            exact hI2 (n - (i + 1)) _ _ (by omega) ⟨rfl, rfl, by simp [h1, h2, h5, h6, h7], by simp [h1, h2, h5, h6, h7], by simp [h1, h2, h5, h6, h7], by simp [h1, h2, h5, h6, h7], by simp [h1, h2, h5, h6, h7], hOc, i + 1, qv2, qs, by simp [i64_succ i (by omega)], by simp [h8], rfl, by omega, hHq, hBf⟩
        · rintro A' W' hf; exact hf.elim
        · rintro ⟨tm, n, ds⟩ Wb ⟨hn, hd, h1, h2, h5, h6, h7, hOb, qv, qs, h8, hHq, hBf⟩
          simp only at hn hd h1 h2 h5 h6 h7
          subst hn; subst hd
          simp only at h8
          obtain ⟨t1, t2⟩ := hsn.next hsa' hnm hS40 hBf
          have hql := (hBf.pc hSn (by omega)).2
          have hq0 : 0 < qs.length := List.length_pos_of_mem hBf.start
          have hnb := hOb.1
          have hrow := hHq.row hq0
          obtain ⟨Aq, cq, hqv⟩ := hrow.len
          rw [List.length_map] at hqv
          have hgs2 := hgs.only hOb (fun b hb hk hg => by have := (hKs b hk).2; omega)
          have hgf2 := hgf.only hOb (fun b hb hk hg => by have := (hKf b hk).2.1; omega)
          obtain ⟨sv', Wc, k1, k2, k3, k4, k5⟩ := hgs2.appRow (T := T0) (t := 31) encI_len encI_one (by omega) und31 inf3 is3 z3 rfl hrow (by rw [List.length_map, by3]; omega) (by rw [List.length_map]; omega)
          rw [List.length_map, ← natsV_flat] at k4
          have e1 : natsV sn ++ natsV qs = natsV (sn ++ qs) := by simp [natsV]
          have e2 : sn.length + qs.length = (sn ++ qs).length := by simp
          rw [e1, e2] at k4
          have hgf3 := hgf2.only k5 (fun b hb hk hg => (hKf b hk).2.2 hg)
          try simp only [wpK_assoc]
          refine wpK_reg (fun R hR => by simp [h6, h8, k1]; exact hR) ?_
          obtain ⟨fv', Wd, m1, m2, m3, m4⟩ := grow_push2 (W := Wc) (t := 58) (el := 31) und58 inf31 is31 z31 rfl (by rw [by31]; omega) hgf3 (by omega) qv (by rw [hqv]; rfl)
          have bs := bs58 Wc Aq qs.length cq
          rw [← hqv] at bs
          try simp only [wpK_assoc]
          refine wpK_reg1 (fun R hR => by simp [h5, h8, bs, m1]; exact hR) ?_
          simp only [leaves_normal, behind_normal]
          have k6 := k4.only (K' := Kf) m4 (fun b hb hk hg => by
            rcases hk with hk | hk
            · exact (hKf b hg).2.2 hk
            · have := (hKf b hg).2.1; omega)
          refine wpK_keep (fun tm' => tm'.get 1 = some (pv) ∧ tm'.get 2 = some (.pointer (some ⟨W.next, 0, none⟩)) ∧ tm'.get 5 = some (fv') ∧ tm'.get 6 = some (sv') ∧ tm'.get 7 = some (.int .i64 (a : Int))) ⟨by simp [h1, h2, h5, h6, h7], by simp [h1, h2, h5, h6, h7], by simp [h1, h2, h5, h6, h7], by simp [h1, h2, h5, h6, h7], by simp [h1, h2, h5, h6, h7]⟩ ?_
          rintro tm ⟨h1, h2, h5, h6, h7⟩
          try simp only [wpK_assoc]
          refine wpK_reg1 (fun R hR => by simp [h7]; exact hR) ?_
          have hnd : (us ++ [qv]).length = us.length + 1 := by simp
          refine hI (n - (a + 1)) _ _ (by omega) ⟨rfl, rfl, by simp [h1, h2], by simp [h1, h2], ?_, a + 1, sv', fv', sn ++ qs, us ++ [qv], ls ++ [qs.length], fun b => Ks b ∨ b = Wb.next, fun b => Kf b ∨ b = Wc.next + 1, by simp [i64_succ a (by omega)], by simp [h6], by simp [h5], rfl, by omega, t1, by simp; omega, k6, by rw [hnd]; exact m3, by simp [hul], by simp; omega, fun q x l hx hl2 => ?_, fun l hl2 => ?_, by rw [sumL_app, hsum]; simp only [sumN]; rw [t2], fun b hb => ?_, fun b hb => ?_⟩
          · have hn := hEa.1
            exact ⟨by omega, fun b hb hk => by
              rw [m4.2 b (by omega) (fun hg => by have := (hKf b hg).1; omega), k5.2 b (by omega) (fun hg => by have := (hKs b hg).1; omega), hOb.2 b (by omega) (by omega)]
              exact hEa.2 b hb hk⟩
          · by_cases e : q < us.length
            · rw [List.getElem?_append_left e] at hx
              rw [List.getElem?_append_left (by omega)] at hl2
              exact hus q x l hx hl2
            · rw [List.getElem?_append_right (by omega)] at hx
              rw [List.getElem?_append_right (by omega)] at hl2
              have hq1 := (List.getElem?_eq_some_iff.1 hx).1
              simp at hq1
              rw [show q - us.length = 0 from by omega] at hx
              rw [show q - ls.length = 0 from by omega] at hl2
              cases hx; cases hl2
              exact ⟨_, _, hqv⟩
          · rcases List.mem_append.1 hl2 with h2' | h2'
            · exact hlen l h2'
            · simp at h2'; omega
          · have hn := hEa.1
            rcases hb with hb | hb
            · have := hKs b hb; omega
            · omega
          · have hn := hEa.1
            rcases hb with hb | hb
            · have := hKf b hb
              refine ⟨this.1, by omega, ?_⟩
              rintro (hh | hh)
              · exact this.2.2 hh
              · omega
            · refine ⟨by omega, by omega, ?_⟩
              rintro (hh | hh)
              · have := hKs b hh; omega
              · omega
  · rintro A' W' hf; exact hf.elim
  · rintro ⟨tm, m, ds⟩ Wz ⟨e1, e2, hEz, fv, us, ls, Kf, h5, hgf, hul, hls, hus, hlen, hsum⟩
    simp only at e1 e2 h5
    subst e1; subst e2
    try simp only [wpK_assoc]
    refine wpK_reg (fun R hR => by simp [h5]; exact hR) ?_
    exact wpK_ret ⟨.inr rfl, rfl, [fv], by simp, hE1.trans hEz, ls, ⟨us, hul, vals_row hgf, hus⟩, hls, hlen, hsum⟩

end Go.Proofs.YtdpnplanohgecaaDoor

open Go Go.Eng
namespace Go.Proofs.YtdpnplanohgecaaDoor
attribute [local congr] undef_congr WpK.congr WpS.congr WpL.congr WpC.congr WpF.congr gotS.congr callS.congr nextS.congr wantS.congr condS.congr
attribute [local irreducible] WpK
attribute [local simp] WpDr_nil WpDr_cons atS_some dwantS_true dwantS_false kindS_light kindS_float kindS_heavy lightS_value floatS_some heavyS_value heavyS_skip heavyS_enter dcallS_some doneS_eq
  isLight isFloat isPlain dLook testBit_dec dChain dLights_nil dLights_skip dLights_one dLight_nil dLight_cons dFreshes_nil dFreshes_one oneF_none oneF_some dFresh_nil dFresh_cons oneL_some oneW_true oneW_false sameV_value dPut dMay valEq arrEq listEq List.getElem?_cons Tr.get_nil dEnd
attribute [local simp] WpS_nil WpS_cons isDefer undef_false wantS_true wantS_false nextS_value nextS_skip nextS_enter callS_some gotS_some aWanted aOp aEvalF aEval opMove opAssign opPick aVal flat flat1 AAct.put opBinOp opConvert opIndex Tr.get_set Tr.get_lay aBin aResults tupled
  aCall aVals aCallB blt_dec ble_dec beq_dec aBinI_add aBinI_sub aBinI_lss aBinI_leq aBinI_gtr aBinI_geq aBinI_eql aBinI_neq index_str len_str len_slice Nat.beq_refl Nat.beq_refl
  opBox opLoad opFieldAddr opIndexAddr acells aAddr opExtract aExtract opUnOp opAlloc opStore opMakeInterface opNilCheck opBuild aParts opBuildSlice aValW
attribute [local simp] und2 und3 und4 und5 und9 und12 field13_0 field13_1 und21 und22 field23_0 field23_1 field24_0 field24_1 field25_0 field25_1 und28 und31 field34_0 field34_1 field34_2 field35_0 field35_1 field35_2 und46 field50_0 field50_1 field50_2 und55 und56 und58 und61 und62 und73 und75 und90 und94 und95 und96 field97_0 field97_1 field97_2 field97_3 field97_4 field97_5 field97_6 field98_0 field98_1 field98_2 field98_3 field98_4 field98_5 field98_6 und99 und106 field107_0 field107_1 field108_0 field108_1 und119 und122 field124_0 field124_1 field124_2 field125_0 field125_1 field125_2 field131_0 field131_1 field132_0 field132_1 und133 field134_0 field134_1 field135_0 field135_1 und148 und156 und160
set_option maxHeartbeats 4000000
set_option linter.unusedSimpArgs false
set_option linter.unusedVariables false
/-! ### how many there are in all parts -/
theorem cntB_disj {x y : Nat} (h : ∀ r, x.testBit r = true → y.testBit r = false) : ∀ m : Nat, cntB m (x ||| y) = cntB m x + cntB m y
  | 0 => rfl
  | m + 1 => by
    have ih := cntB_disj h m
    simp only [cntB, Nat.testBit_or]
    have := h m
    cases hx : x.testBit m <;> cases hy : y.testBit m <;> simp_all <;> omega
open Classical in
noncomputable def totF (Aj : Nat → Nat → Prop) (S : Nat → Prop) (v : Nat) : Int := if S v ∧ ∀ u, u < v → ¬ Rch Aj S v u then ((pc (bitsOf (Rch Aj S v) 40) : Nat) : Int) else 0
theorem tot_root (Aj : Nat → Nat → Prop) (S : Nat → Prop) : ∀ n : Nat, ∃ c : Nat, sumN n (totF Aj S) = sumN n (rootF Aj S) + 2 * (c : Int)
  | 0 => ⟨0, rfl⟩
  | n + 1 => by
    obtain ⟨c, hc⟩ := tot_root Aj S n
    simp only [sumN]
    by_cases h : S n ∧ ∀ u, u < n → ¬ Rch Aj S n u
    · rw [totF, if_pos h, rootF, if_pos h]
      generalize pc (bitsOf (Rch Aj S n) 40) = p
      exact ⟨c + p / 2, by omega⟩
    · rw [totF, if_neg h, rootF, if_neg h]
      exact ⟨c, by omega⟩
theorem tot_part {Aj : Nat → Nat → Prop} {S : Nat → Prop} (hsy : ∀ q r, Aj q r → Aj r q) (h40 : ∀ r, S r → r < 40) : ∀ a : Nat, ((pc (bitsOf (fun r => ∃ u, u < a ∧ Rch Aj S u r) 40) : Nat) : Int) = sumN a (totF Aj S)
  | 0 => by
    have : bitsOf (fun r => ∃ u, u < 0 ∧ Rch Aj S u r) 40 = 0 := bits_eq fun r => by
      rw [bitsOf_bit]; constructor
      · rintro ⟨_, u, hu, _⟩; omega
      · intro h; simp at h
    rw [this]; exact congrArg Int.ofNat (cntB_zero 40)
  | a + 1 => by
    have ih := tot_part hsy h40 a
    simp only [sumN]
    rw [← ih]
    by_cases h : S a ∧ ∀ u, u < a → ¬ Rch Aj S a u
    · rw [totF, if_pos h]
      have e : bitsOf (fun r => ∃ u, u < a + 1 ∧ Rch Aj S u r) 40 = bitsOf (fun r => ∃ u, u < a ∧ Rch Aj S u r) 40 ||| bitsOf (Rch Aj S a) 40 := bits_eq fun r => by
        rw [Nat.testBit_or, Bool.or_eq_true, bitsOf_bit, bitsOf_bit, bitsOf_bit]
        constructor
        · rintro ⟨h1, u, hu, hr⟩
          by_cases e : u = a
          · subst e; exact .inr ⟨h1, hr⟩
          · exact .inl ⟨h1, u, by omega, hr⟩
        · rintro (⟨h1, u, hu, hr⟩ | ⟨h1, hr⟩)
          · exact ⟨h1, u, by omega, hr⟩
          · exact ⟨h1, a, by omega, hr⟩
      have hd := cntB_disj (x := bitsOf (fun r => ∃ u, u < a ∧ Rch Aj S u r) 40) (y := bitsOf (Rch Aj S a) 40) (fun r hr => by
        cases hb : (bitsOf (Rch Aj S a) 40).testBit r with
        | false => rfl
        | true =>
          obtain ⟨_, u, hu, h1⟩ := bitsOf_bit.1 hr
          exact absurd ((bitsOf_bit.1 hb).2.trans (h1.symm hsy)) (h.2 u hu)) 40
      rw [e]
      show ((cntB 40 _ : Nat) : Int) = ((cntB 40 _ : Nat) : Int) + ((cntB 40 _ : Nat) : Int)
      rw [hd]; omega
    · rw [totF, if_neg h]
      have e : bitsOf (fun r => ∃ u, u < a + 1 ∧ Rch Aj S u r) 40 = bitsOf (fun r => ∃ u, u < a ∧ Rch Aj S u r) 40 := bits_eq fun r => by
        rw [bitsOf_bit, bitsOf_bit]
        constructor
        · rintro ⟨h1, u, hu, hr⟩
          by_cases e : u = a
          · subst e
            have : ∃ w, w < u ∧ Rch Aj S u w := by
              apply Classical.byContradiction
              intro hn
              exact h ⟨hr.mem0, fun w hw hr2 => hn ⟨w, hw, hr2⟩⟩
            obtain ⟨w, hw, hr2⟩ := this
            exact ⟨h1, w, hw, (hr2.symm hsy).trans hr⟩
          · exact ⟨h1, u, by omega, hr⟩
        · rintro ⟨h1, u, hu, hr⟩
          exact ⟨h1, u, by omega, hr⟩
      rw [e]; omega
/-- as many places as there are, less twice something, are in odd parts -/
theorem parts_total {Aj : Nat → Nat → Prop} {S : Nat → Prop} (hsy : ∀ q r, Aj q r → Aj r q) {n : Nat} (hn : n ≤ 40) (hS : ∀ r, S r → r < n) : ∃ c : Nat, ((pc (bitsOf S 40) : Nat) : Int) = sumN n (rootF Aj S) + 2 * (c : Int) := by
  obtain ⟨c, hc⟩ := tot_root Aj S n
  refine ⟨c, ?_⟩
  rw [← hc, ← tot_part hsy (fun r hr => by have := hS r hr; omega) n]
  have : bitsOf S 40 = bitsOf (fun r => ∃ u, u < n ∧ Rch Aj S u r) 40 := bits_eq fun r => by
    rw [bitsOf_bit, bitsOf_bit]
    constructor
    · rintro ⟨h1, h2⟩; exact ⟨h1, r, hS r h2, .start h2⟩
    · rintro ⟨h1, u, _, hr⟩; exact ⟨h1, hr.mem⟩
  rw [this]
/-- the places that are not in a list -/
def Sof (n : Nat) (s : List Int) (r : Nat) : Prop := r < n ∧ ∀ i, i < s.length → gI s i ≠ (r : Int)
theorem rises_lt {P : Int} {s : List Int} (h : RisTo P s s.length) : ∀ (j i : Nat), i < j → j < s.length → gI s i < gI s j
  | 0, i, hi, _ => by omega
  | j + 1, i, hi, hj => by
    have h1 := (h (j + 1) hj).2.2 (by omega)
    rw [Nat.add_sub_cancel] at h1
    by_cases e : i = j
    · subst e; exact h1
    · have := rises_lt h j i (by omega) (by omega); omega
theorem rises_list {P : Int} {s : List Int} (h : RisTo P s s.length) : ∃ ps : List Nat, s = ps.map Int.ofNat ∧ (∀ i, i < ps.length → (pOf ps i : Int) = gI s i) ∧ (∀ i j, i < j → j < ps.length → pOf ps i ≠ pOf ps j) := by
  have e : s = (s.map Int.toNat).map Int.ofNat := by
    rw [List.map_map]
    refine (List.map_id' s).symm.trans (List.map_congr_left fun x hx => ?_)
    obtain ⟨i, hi, e⟩ := List.getElem_of_mem hx
    have := gI_some hi
    rw [List.getElem?_eq_getElem hi] at this
    have e2 : gI s i = x := by rw [← e]; exact (Option.some.inj this).symm
    have h0 := (h i hi).1
    show x = Int.ofNat x.toNat
    rw [e2] at h0
    exact (Int.toNat_of_nonneg h0).symm
  have g : ∀ i, i < (s.map Int.toNat).length → (pOf (s.map Int.toNat) i : Int) = gI s i := fun i hi => by
    simp at hi
    have h0 := (h i hi).1
    have h1 := gI_some hi
    rw [pOf, List.getD_eq_getElem?_getD, List.getElem?_map, h1]
    exact Int.toNat_of_nonneg h0
  refine ⟨s.map Int.toNat, e, g, fun i j hij hj he => ?_⟩
  have g1 := g i (by omega)
  have g2 := g j hj
  have := rises_lt h j i hij (by simpa using hj)
  rw [he] at g1
  omega
/-- what a judge of barriers answers -/
def BarIs (n : Nat) (es : List Edge) (s : List Int) (k : Int) : Prop := RisTo (n : Int) s s.length ∧ 2 * k = (n : Int) + s.length - sumN 40 (rootF (AjE es) (Sof n s))
theorem bar_facts {n : Nat} (hn : n ≤ 40) {es : List Edge} {s : List Int} (h : RisTo (n : Int) s s.length) : s.length ≤ n ∧ ∃ c : Nat, (n : Int) - s.length = sumN 40 (rootF (AjE es) (Sof n s)) + 2 * (c : Int) := by
  obtain ⟨ps, e, g, d⟩ := rises_list h
  have hl : ps.length = s.length := by rw [e]; simp
  have hlt : ∀ i, i < ps.length → pOf ps i < n := fun i hi => by
    have h1 := (h i (by omega)).2.1
    have h2 := g i hi
    omega
  have hpc : pc (TS ps) = ps.length := tk_cnt (n := n) hn hlt d
  have hle : ps.length ≤ n := by rw [← hpc]; exact (cntB_le (n := n) (x := TS ps) (tk_lt hlt) 40).1
  have hSb : ∀ r, Sof n s r → r < n := fun r hr => hr.1
  obtain ⟨c, hc⟩ := parts_total (Aj := AjE es) (S := Sof n s) AjE.symm hn hSb
  have hbit : ∀ r, (TS ps).testBit r = true ↔ ∃ i, i < s.length ∧ gI s i = (r : Int) := fun r => by
    rw [TS_bit]
    constructor
    · rintro ⟨i, hi, e2⟩; exact ⟨i, by omega, by rw [← g i hi, e2]⟩
    · rintro ⟨i, hi, e2⟩; exact ⟨i, by omega, by have := g i (by omega); omega⟩
  have hfull : bitsOf (Sof n s) 40 ||| TS ps = 2 ^ n - 1 := bits_eq fun r => by
    rw [Nat.testBit_or, Bool.or_eq_true, bitsOf_bit, hbit r, full_bit, decide_eq_true_iff]
    constructor
    · rintro (⟨_, h2⟩ | ⟨i, hi, e2⟩)
      · exact h2.1
      · have := (h i hi).2.1; omega
    · intro hr
      by_cases hh : ∃ i, i < s.length ∧ gI s i = (r : Int)
      · exact .inr hh
      · exact .inl ⟨by omega, hr, fun i hi e2 => hh ⟨i, hi, e2⟩⟩
  have hdis := cntB_disj (x := bitsOf (Sof n s) 40) (y := TS ps) (fun r hr => by
    cases hb : (TS ps).testBit r with
    | false => rfl
    | true =>
      obtain ⟨i, hi, e2⟩ := (hbit r).1 hb
      exact absurd e2 ((bitsOf_bit.1 hr).2.2 i hi)) 40
  rw [hfull, cntB_full] at hdis
  have h1 : cntB 40 (TS ps) = ps.length := hpc
  have h2 : sumN 40 (rootF (AjE es) (Sof n s)) = sumN n (rootF (AjE es) (Sof n s)) := sumN_skip hn (fun v h1 _ => rootF_not (fun hh => by have := hh.1.1; omega))
  have hc : ((cntB 40 (bitsOf (Sof n s) 40) : Nat) : Int) = _ := hc
  refine ⟨by omega, c, ?_⟩
  rw [h2]
  omega

end Go.Proofs.YtdpnplanohgecaaDoor

open Go Go.Eng
namespace Go.Proofs.YtdpnplanohgecaaDoor
attribute [local congr] undef_congr WpK.congr WpS.congr WpL.congr WpC.congr WpF.congr gotS.congr callS.congr nextS.congr wantS.congr condS.congr
attribute [local irreducible] WpK
attribute [local simp] WpDr_nil WpDr_cons atS_some dwantS_true dwantS_false kindS_light kindS_float kindS_heavy lightS_value floatS_some heavyS_value heavyS_skip heavyS_enter dcallS_some doneS_eq
  isLight isFloat isPlain dLook testBit_dec dChain dLights_nil dLights_skip dLights_one dLight_nil dLight_cons dFreshes_nil dFreshes_one oneF_none oneF_some dFresh_nil dFresh_cons oneL_some oneW_true oneW_false sameV_value dPut dMay valEq arrEq listEq List.getElem?_cons Tr.get_nil dEnd
attribute [local simp] WpS_nil WpS_cons isDefer undef_false wantS_true wantS_false nextS_value nextS_skip nextS_enter callS_some gotS_some aWanted aOp aEvalF aEval opMove opAssign opPick aVal flat flat1 AAct.put opBinOp opConvert opIndex Tr.get_set Tr.get_lay aBin aResults tupled
  aCall aVals aCallB blt_dec ble_dec beq_dec aBinI_add aBinI_sub aBinI_lss aBinI_leq aBinI_gtr aBinI_geq aBinI_eql aBinI_neq index_str len_str len_slice Nat.beq_refl Nat.beq_refl
  opBox opLoad opFieldAddr opIndexAddr acells aAddr opExtract aExtract opUnOp opAlloc opStore opMakeInterface opNilCheck opBuild aParts opBuildSlice aValW
attribute [local simp] und2 und3 und4 und5 und9 und12 field13_0 field13_1 und21 und22 field23_0 field23_1 field24_0 field24_1 field25_0 field25_1 und28 und31 field34_0 field34_1 field34_2 field35_0 field35_1 field35_2 und46 field50_0 field50_1 field50_2 und55 und56 und58 und61 und62 und73 und75 und90 und94 und95 und96 field97_0 field97_1 field97_2 field97_3 field97_4 field97_5 field97_6 field98_0 field98_1 field98_2 field98_3 field98_4 field98_5 field98_6 und99 und106 field107_0 field107_1 field108_0 field108_1 und119 und122 field124_0 field124_1 field124_2 field125_0 field125_1 field125_2 field131_0 field131_1 field132_0 field132_1 und133 field134_0 field134_1 field135_0 field135_1 und148 und156 und160
set_option maxHeartbeats 4000000
set_option linter.unusedSimpArgs false
set_option linter.unusedVariables false
/-! ### judging a barrier: walks -/
theorem all_wp {W : AW} {pw n : Nat} {J : List Nat} (hVw : Var W pw 108 (.int .i64 (n : Int) :: J.map setV)) (hn : n ≤ 40) :
    WpF T0 63 [.pointer (some ⟨pw, 0, none⟩)] W (fun u W' => W' = W ∧ u = .int .u64 ((2 ^ n - 1 : Nat) : Int)) := by
  have l0 := hVw.load1 (T := T0) und3 rfl (j := 0) (v := .int .i64 (n : Int)) rfl
  refine wpF fun63 rfl ?_
  try simp only [wpK_assoc]
  refine wpK_reg (fun R hR => by simp []; exact hR) ?_
  have hb := below_wp n (by omega) W
  generalize 2 ^ n - 1 = m at hb ⊢
  try simp only [wpK_assoc]
  refine wpK_reg (fun R hR => by
    simp [l0, aEnter, fun75, short_other, aCallV]; rw [callS_none]
    refine hb.mono ?_
    rintro _ W9 ⟨e9, rfl⟩; subst W9
    simp; exact hR) ?_
  exact wpK_ret ⟨.inr rfl, rfl, [.int .u64 (m : Int)], by simp, rfl, rfl⟩
open Classical in
theorem isBarrier_ok {W : AW} {v sv : Value} {n : Nat} {es : List Edge} {s : List Int} (h : PairR W v es) (hl : es.length < 4611686018427387904) (hg : GraphOk (n : Int) es) (hn12 : n ≤ 11) (hs : IntN W sv s) (hsl : s.length < 4611686018427387904) (hT : tabsIn T0 T0.tabs W = true) (hN0 : 0 < W.next) (k : Int) :
    WpF T0 22 [.agg ⟨[.int .i64 (n : Int), v]⟩, sv, .int .i64 k] W (fun u W' => Ext W W' ∧ ∃ b, u = .bool b ∧ (b = true ↔ BarIs n es s k)) := by
  refine wpF fun22 rfl ?_
  obtain ⟨W1, hW1, hE1, hV⟩ : ∃ W1, W1 = W.newCells 25 [.int .i64 (n : Int), v] ∧ Ext W W1 ∧ Var W1 W.next 25 [.int .i64 (n : Int), v] := ⟨_, rfl, .newCells _ _ _, Var.new _ _ _⟩
  have hl1 := load25 hV
  obtain ⟨A, c, hv⟩ := hs.len
  have ls : ∀ W', aLen T0 W' 31 sv = some (.int .i64 (s.length : Int)) := fun W' => by rw [hv]; exact len_slice und31 _ _ _
  try simp only [wpK_assoc]
  refine wpK_reg (fun R hR => by simp [← hW1]; exact hR) ?_
  try simp only [wpK_assoc]
  refine wpK_x1 (fun R hR => by
      simp [hl1, opExtract, aExtract, aEnter, fun54, short_other, aCallV]; rw [callS_none]
      refine (lay_ok (h.ext hE1) hl hg).mono ?_
      rintro _ W2 ⟨hE2, pw, hpw, rfl, hWeb⟩
      simp [hl1, opExtract, aExtract]; exact hR pw W2 (And.intro hE2 hWeb)) ?_
  rintro pw W2 ⟨hE2, hWeb⟩
  obtain ⟨J, hJ, hVw⟩ := hWeb
  have hE12 := hE1.trans hE2
  have l0 : ∀ W', Ext W2 W' → aLoadVar T0 W' 3 W.next 0 = some (.int .i64 (n : Int)) := fun W' hE => ((hV.ext hE2).ext hE).load1 (T := T0) und3 rfl (j := 0) (v := .int .i64 (n : Int)) rfl
  have e22 : Ext W2 W2 := .refl _ _
  try simp only [wpK_assoc]
  refine wpK_reg (fun R hR => by simp []; exact hR) ?_
  try simp only [wpK_assoc]
  first | refine wpK_onF (by simp []) ?_ | refine wpK_out (by simp []) ?_ | refine wpK_condF (by simp []) ?_ | refine wpK_endF (by simp []) (wpK_skip ?_) | refine wpK_endF (by simp []) ?_
  have hri := smallRising_wp (n : Int) (hs.ext hE12) (by omega) hsl
  by_cases hr : RisTo (n : Int) s s.length
  case neg =>
    try simp only [wpK_assoc]
    refine wpK_reg (fun R hR => by
      simp [l0, e22, aEnter, fun61, short_other, aCallV]; rw [callS_none]
      refine hri.mono ?_
      rintro _ W9 ⟨e9, hh⟩; subst W9
      rcases hh with ⟨hh, _⟩ | ⟨_, rfl⟩
      · exact absurd hh hr
      simp [opExtract, aExtract]; exact hR) ?_
    try simp only [wpK_assoc]
    refine wpK_reg (fun R hR => by simp []; exact hR) ?_
    try simp only [wpK_assoc]
    first | refine wpK_onT (by simp []) ?_ | refine wpK_outT (by simp []) ?_ | refine wpK_condT (by simp []) ?_ | refine wpK_endT (by simp []) ?_
    try simp only [wpK_assoc]
    refine wpK_reg (fun R hR => by simp []; exact hR) ?_
    exact wpK_ret ⟨.inr rfl, rfl, [.bool false], by simp, hE12, false, rfl, ⟨fun hh => (by cases hh), fun hh => absurd hh.1 hr⟩⟩
  try simp only [wpK_assoc]
  refine wpK_x1 (P := fun (Sb : Nat) W' => W' = W2 ∧ Sb < 1099511627776 ∧ SetIs Sb s s.length) (fun R hR => by
    simp [l0, e22, aEnter, fun61, short_other, aCallV]; rw [callS_none]
    refine hri.mono ?_
    rintro _ W9 ⟨e9, hh⟩
    rcases hh with ⟨_, Sb, h1, h2, rfl⟩ | ⟨hh, _⟩
    · simp [opExtract, aExtract]; exact hR Sb W9 (And.intro e9 (And.intro h1 h2))
    · exact absurd hr hh) ?_
  rintro Sb W9 ⟨e9, hSb, hSet⟩
  subst W9
  try simp only [wpK_assoc]
  refine wpK_reg (fun R hR => by simp []; exact hR) ?_
  try simp only [wpK_assoc]
  first | refine wpK_onF (by simp []) ?_ | refine wpK_out (by simp []) ?_ | refine wpK_condF (by simp []) ?_ | refine wpK_endF (by simp []) (wpK_skip ?_) | refine wpK_endF (by simp []) ?_
  obtain ⟨hsn, cc, hcc⟩ := bar_facts (es := es) (by omega) hr
  have hal := all_wp hVw (by omega)
  have hfull : 2 ^ n - 1 < 4096 := by
    have : 2 ^ n ≤ 2 ^ 12 := Nat.pow_le_pow_right (by omega) (by omega)
    omega
  obtain ⟨s', n1, n2, n3⟩ := aBinI_andNot .u64 (2 ^ n - 1) Sb (by show 2 ^ n - 1 < 18446744073709551616; omega) (by show Sb < 18446744073709551616; omega)
  have hbits : (fun r => s'.testBit r = true) = Sof n s := funext fun r => propext (by
    rw [n3 r, full_bit, Bool.and_eq_true, decide_eq_true_iff, Bool.not_eq_true']
    constructor
    · rintro ⟨h1, h2⟩
      refine ⟨h1, fun i hi e => ?_⟩
      have := (hSet r).2 ⟨i, hi, e⟩
      rw [h2] at this; cases this
    · rintro ⟨h1, h2⟩
      refine ⟨h1, ?_⟩
      cases hb : Sb.testBit r with
      | false => rfl
      | true => obtain ⟨i, hi, e⟩ := (hSet r).1 hb; exact absurd e (h2 i hi))
  have hod := odd_wp (s := s') hJ hVw (by omega) (tabs_ext hT hN0 hE12) (by have := hE12.1; omega)
  rw [hbits] at hod
  have hoi := sumF_in (Aj := AjE es) (S := Sof n s) 40
  have hBar : BarIs n es s k ↔ k = (s.length : Int) + cc := ⟨fun hh => by have := hh.2; omega, fun hh => ⟨hr, by omega⟩⟩
  generalize sumN 40 (rootF (AjE es) (Sof n s)) = od at hod hcc hoi
  generalize 2 ^ n - 1 = fl at hal n2 hfull
  try simp only [wpK_assoc]
  refine wpK_x0 (P := fun W' => Ext W2 W') (fun R hR => by
    simp [aEnter, fun63, short_other, aCallV]; rw [callS_none]
    refine hal.mono ?_
    rintro _ W9 ⟨e9, rfl⟩; subst W9
    simp [n2, aEnter, fun62, short_other, aCallV]; rw [callS_none]
    refine hod.mono ?_
    rintro _ W3 ⟨hE3, rfl⟩
    simp; exact hR W3 hE3) ?_
  rintro W3 hE3
  have a1 : IntKind.i64.wrap ((n : Int) + (s.length : Int)) = (n : Int) + s.length := i64_in (by omega)
  have a2 : IntKind.i64.wrap ((n : Int) + (s.length : Int) - od) = 2 * ((s.length : Int) + cc) := by rw [show (n : Int) + (s.length : Int) - od = 2 * ((s.length : Int) + cc) from by omega]; exact i64_in (by omega)
  have hdiv : aBinI .quo .i64 (2 * ((s.length : Int) + cc)) .i64 2 = some (.int .i64 ((s.length : Int) + cc)) := by
    rw [aBinI_quo .i64 _ _ (by omega), Int.mul_comm, Int.mul_tdiv_cancel _ (by omega), i64_in (by omega)]
  generalize 2 * ((s.length : Int) + cc) = dd at a2 hdiv
  generalize (s.length : Int) + cc = qq at hdiv hBar
  try simp only [wpK_assoc]
  refine wpK_reg (fun R hR => by simp [l0, hE3, ls, a1, a2, hdiv]; exact hR) ?_
  exact wpK_ret ⟨.inr rfl, rfl, [.bool (decide (k = qq))], by simp, hE12.trans hE3, decide (k = qq), rfl, by rw [decide_eq_true_iff]; exact hBar.symm⟩

end Go.Proofs.YtdpnplanohgecaaDoor

open Go Go.Eng
namespace Go.Proofs.YtdpnplanohgecaaDoor
attribute [local congr] undef_congr WpK.congr WpS.congr WpL.congr WpC.congr WpF.congr gotS.congr callS.congr nextS.congr wantS.congr condS.congr
attribute [local irreducible] WpK
attribute [local simp] WpDr_nil WpDr_cons atS_some dwantS_true dwantS_false kindS_light kindS_float kindS_heavy lightS_value floatS_some heavyS_value heavyS_skip heavyS_enter dcallS_some doneS_eq
  isLight isFloat isPlain dLook testBit_dec dChain dLights_nil dLights_skip dLights_one dLight_nil dLight_cons dFreshes_nil dFreshes_one oneF_none oneF_some dFresh_nil dFresh_cons oneL_some oneW_true oneW_false sameV_value dPut dMay valEq arrEq listEq List.getElem?_cons Tr.get_nil dEnd
attribute [local simp] WpS_nil WpS_cons isDefer undef_false wantS_true wantS_false nextS_value nextS_skip nextS_enter callS_some gotS_some aWanted aOp aEvalF aEval opMove opAssign opPick aVal flat flat1 AAct.put opBinOp opConvert opIndex Tr.get_set Tr.get_lay aBin aResults tupled
  aCall aVals aCallB blt_dec ble_dec beq_dec aBinI_add aBinI_sub aBinI_lss aBinI_leq aBinI_gtr aBinI_geq aBinI_eql aBinI_neq index_str len_str len_slice Nat.beq_refl Nat.beq_refl
  opBox opLoad opFieldAddr opIndexAddr acells aAddr opExtract aExtract opUnOp opAlloc opStore opMakeInterface opNilCheck opBuild aParts opBuildSlice aValW
attribute [local simp] und2 und3 und4 und5 und9 und12 field13_0 field13_1 und21 und22 field23_0 field23_1 field24_0 field24_1 field25_0 field25_1 und28 und31 field34_0 field34_1 field34_2 field35_0 field35_1 field35_2 und46 field50_0 field50_1 field50_2 und55 und56 und58 und61 und62 und73 und75 und90 und94 und95 und96 field97_0 field97_1 field97_2 field97_3 field97_4 field97_5 field97_6 field98_0 field98_1 field98_2 field98_3 field98_4 field98_5 field98_6 und99 und106 field107_0 field107_1 field108_0 field108_1 und119 und122 field124_0 field124_1 field124_2 field125_0 field125_1 field125_2 field131_0 field131_1 field132_0 field132_1 und133 field134_0 field134_1 field135_0 field135_1 und148 und156 und160
set_option maxHeartbeats 4000000
set_option linter.unusedSimpArgs false
set_option linter.unusedVariables false
/-! ### judging a barrier: the reference -/
theorem falls_at {W : AW} {u : Value} {ls : List Nat} (h : FallsR W u ls) {i : Nat} (hi : i < ls.length) : ∃ x b p, aIndexAddr T0 58 u (.int .i64 (i : Int)) = some (.pointer (some ⟨b, p, none⟩)) ∧ aLoadVar T0 W 31 b p = some x ∧ ∀ W', aLen T0 W' 31 x = some (.int .i64 ((ls.getD i 0 : Nat) : Int)) := by
  obtain ⟨us, h1, h2, h3⟩ := h
  have hu : us[i]? = some us[i] := List.getElem?_eq_getElem (by omega)
  obtain ⟨b, p, g1, g2⟩ := h2.at (T := T0) hu und58 sz31 .i64
  have hl : ls[i]? = some (ls.getD i 0) := by rw [List.getD_eq_getElem?_getD, List.getElem?_eq_getElem hi]; rfl
  obtain ⟨A, c, e⟩ := h3 i _ _ hu hl
  exact ⟨us[i], b, p, g1, load_of und31 rfl (g2 0 _ rfl), fun W' => by rw [e]; exact len_slice und31 _ _ _⟩
theorem falls_len {W : AW} {u : Value} {ls : List Nat} (h : FallsR W u ls) : ∀ W', aLen T0 W' 58 u = some (.int .i64 (ls.length : Int)) := by
  obtain ⟨us, h1, h2, h3⟩ := h
  obtain ⟨A, c, rfl⟩ := h2.len
  intro W'
  rw [← h1]; exact len_slice und58 _ _ _
def sumT (ls : List Nat) (k : Nat) : Int := sumN k (fun i => ((ls.getD i 0 % 2 : Nat) : Int))
theorem sumT_in (ls : List Nat) (k : Nat) : 0 ≤ sumT ls k ∧ sumT ls k ≤ k := cnt_in (fun i => by omega) k
open Classical in
theorem refBarrier_ok {W : AW} {v sv : Value} {n : Nat} {es : List Edge} {s : List Int} (h : PairR W v es) (hl : es.length < 4611686018427387904) (hg : GraphOk (n : Int) es) (hn12 : n ≤ 11) (hs : IntN W sv s) (hsl : s.length < 4611686018427387904) (k : Int) :
    WpF T0 27 [.agg ⟨[.int .i64 (n : Int), v]⟩, sv, .int .i64 k] W (fun u W' => Ext W W' ∧ ∃ b, u = .bool b ∧ (b = true ↔ BarIs n es s k)) := by
  refine wpF fun27 rfl ?_
  obtain ⟨W1, hW1, hE1, hV⟩ : ∃ W1, W1 = W.newCells 24 [.int .i64 (n : Int), v] ∧ Ext W W1 ∧ Var W1 W.next 24 [.int .i64 (n : Int), v] := ⟨_, rfl, .newCells _ _ _, Var.new _ _ _⟩
  obtain ⟨A, c, hv⟩ := hs.len
  obtain ⟨Av, cv, hvv⟩ := h.len
  have ls : ∀ W', aLen T0 W' 31 sv = some (.int .i64 (s.length : Int)) := fun W' => by rw [hv]; exact len_slice und31 _ _ _
  have l0 : ∀ W', Ext W1 W' → aLoadVar T0 W' 3 W.next 0 = some (.int .i64 (n : Int)) := fun W' hE => (hV.ext hE).load1 (T := T0) und3 rfl (j := 0) (v := .int .i64 (n : Int)) rfl
  have l24 : ∀ W', Ext W1 W' → aLoadVar T0 W' 24 W.next 0 = some (.agg ⟨[.int .i64 (n : Int), v]⟩) := fun W' hE => load24 (hV.ext hE)
  have e11 : Ext W1 W1 := .refl _ _
  try simp only [wpK_assoc]
  refine wpK_reg (fun R hR => by simp [← hW1]; exact hR) ?_
  have hck := refCheck_wp (n : Int) (h.ext hE1) hl
  rw [chkG_ok hg] at hck
  have hri := fun (W2 : AW) (hE2 : Ext W1 W2) => refRising_wp (n : Int) v ((hs.ext hE1).ext hE2) hsl (by rw [hvv]; rfl)
  by_cases hr : RisTo (n : Int) s s.length
  case neg =>
    simp only [decide_eq_false hr] at hri
    try simp only [wpK_assoc]
    refine wpK_x0 (P := fun W' => Ext W1 W') (fun R hR => by
      simp [l24, e11, aEnter, fun14, short_other, aCallV]; rw [callS_none]
      refine hck.mono ?_
      rintro _ W2 ⟨hE2, rfl⟩
      simp [l24, hE2, aEnter, fun65, short_other, aCallV]; rw [callS_none]
      refine (hri W2 hE2).mono ?_
      rintro _ W3 ⟨hE3, rfl⟩
      simp [l24, hE2, undef]; exact hR W3 (hE2.trans hE3)) ?_
    rintro W3 hE3
    try simp only [wpK_assoc]
    first | refine wpK_onT (by simp []) ?_ | refine wpK_outT (by simp []) ?_ | refine wpK_condT (by simp []) ?_ | refine wpK_endT (by simp []) ?_
    try simp only [wpK_assoc]
    refine wpK_reg (fun R hR => by simp []; exact hR) ?_
    exact wpK_ret ⟨.inr rfl, rfl, [.bool false], by simp, hE1.trans hE3, false, rfl, ⟨fun hh => (by cases hh), fun hh => absurd hh.1 hr⟩⟩
  simp only [decide_eq_true hr] at hri
  obtain ⟨hsn, cc, hcc⟩ := bar_facts (es := es) (by omega) hr
  have hoi := sumF_in (Aj := AjE es) (S := Sof n s) 40
  by_cases hk0 : k < 0
  · try simp only [wpK_assoc]
    refine wpK_x0 (P := fun W' => Ext W1 W') (fun R hR => by
      simp [l24, e11, aEnter, fun14, short_other, aCallV]; rw [callS_none]
      refine hck.mono ?_
      rintro _ W2 ⟨hE2, rfl⟩
      simp [l24, hE2, aEnter, fun65, short_other, aCallV]; rw [callS_none]
      refine (hri W2 hE2).mono ?_
      rintro _ W3 ⟨hE3, rfl⟩
      simp [l24, hE2, hk0, undef]; exact hR W3 (hE2.trans hE3)) ?_
    rintro W3 hE3
    try simp only [wpK_assoc]
    first | refine wpK_onT (by simp []) ?_ | refine wpK_outT (by simp []) ?_ | refine wpK_condT (by simp []) ?_ | refine wpK_endT (by simp []) ?_
    try simp only [wpK_assoc]
    refine wpK_reg (fun R hR => by simp []; exact hR) ?_
    exact wpK_ret ⟨.inr rfl, rfl, [.bool false], by simp, hE1.trans hE3, false, rfl, ⟨fun hh => (by cases hh), fun hh => by have := hh.2; omega⟩⟩
  by_cases hkn : (n : Int) < k
  · try simp only [wpK_assoc]
    refine wpK_x0 (P := fun W' => Ext W1 W') (fun R hR => by
      simp [l24, e11, aEnter, fun14, short_other, aCallV]; rw [callS_none]
      refine hck.mono ?_
      rintro _ W2 ⟨hE2, rfl⟩
      simp [l24, hE2, aEnter, fun65, short_other, aCallV]; rw [callS_none]
      refine (hri W2 hE2).mono ?_
      rintro _ W3 ⟨hE3, rfl⟩
      simp [l24, l0, hE2, hE2.trans hE3, hk0, hkn, undef]; exact hR W3 (hE2.trans hE3)) ?_
    rintro W3 hE3
    try simp only [wpK_assoc]
    first | refine wpK_onT (by simp []) ?_ | refine wpK_outT (by simp []) ?_ | refine wpK_condT (by simp []) ?_ | refine wpK_endT (by simp []) ?_
    try simp only [wpK_assoc]
    refine wpK_reg (fun R hR => by simp []; exact hR) ?_
    exact wpK_ret ⟨.inr rfl, rfl, [.bool false], by simp, hE1.trans hE3, false, rfl, ⟨fun hh => (by cases hh), fun hh => by have := hh.2; omega⟩⟩
  try simp only [wpK_assoc]
  refine wpK_x0 (P := fun W' => Ext W1 W') (fun R hR => by
    simp [l24, e11, aEnter, fun14, short_other, aCallV]; rw [callS_none]
    refine hck.mono ?_
    rintro _ W2 ⟨hE2, rfl⟩
    simp [l24, hE2, aEnter, fun65, short_other, aCallV]; rw [callS_none]
    refine (hri W2 hE2).mono ?_
    rintro _ W3 ⟨hE3, rfl⟩
    simp [l24, l0, hE2, hE2.trans hE3, hk0, hkn, undef]; exact hR W3 (hE2.trans hE3)) ?_
  rintro W3 hE3
  try simp only [wpK_assoc]
  first | refine wpK_onF (by simp []) ?_ | refine wpK_out (by simp []) ?_ | refine wpK_condF (by simp []) ?_ | refine wpK_endF (by simp []) (wpK_skip ?_) | refine wpK_endF (by simp []) ?_
  try simp only [wpK_assoc]
  refine wpK_reg (fun R hR => by simp []; exact hR) ?_
  have hE03 := hE1.trans hE3
  obtain ⟨ps, ep, gp, dp⟩ := rises_list hr
  have hpsl : ps.length = s.length := by rw [ep]; simp
  have hs3 := hs.ext hE03
  rw [ep] at hs3
  have hSof : ∀ r, Sof n s r ↔ r < n ∧ (TS ps).testBit r = false := fun r => by
    have hb : (TS ps).testBit r = true ↔ ∃ i, i < s.length ∧ gI s i = (r : Int) := by
      rw [TS_bit]
      constructor
      · rintro ⟨i, hi, e2⟩; exact ⟨i, by omega, by rw [← gp i hi, e2]⟩
      · rintro ⟨i, hi, e2⟩; exact ⟨i, by omega, by have := gp i (by omega); omega⟩
    constructor
    · rintro ⟨h1, h2⟩
      refine ⟨h1, ?_⟩
      cases hbb : (TS ps).testBit r with
      | false => rfl
      | true => obtain ⟨i, hi, e⟩ := hb.1 hbb; exact absurd e (h2 i hi)
    · rintro ⟨h1, h2⟩
      exact ⟨h1, fun i hi e => by have := hb.2 ⟨i, hi, e⟩; rw [h2] at this; cases this⟩
  have hfw := falls_wp (P := (n : Int)) (h.ext hE03) hl rfl (by omega) hs3 (by omega) hSof
  have h40 : sumN 40 (rootF (AjE es) (Sof n s)) = sumN n (rootF (AjE es) (Sof n s)) := sumN_skip (by omega) (fun v h1 _ => rootF_not (fun hh => by have := hh.1.1; omega))
  have hBar : BarIs n es s k ↔ 2 * k = (n : Int) + s.length - sumN n (rootF (AjE es) (Sof n s)) := by
    rw [BarIs, h40]; exact ⟨fun hh => hh.2, fun hh => ⟨hr, hh⟩⟩
  clear hcc hoi h40
  generalize sumN n (rootF (AjE es) (Sof n s)) = od at hfw hBar
  try simp only [wpK_assoc]
  refine wpK_x2 (fun R hR => by
      simp [l24, hE3, aEnter, fun34, short_other, aCallV]; rw [callS_none]
      refine (hfw).mono ?_
      rintro u W4 ⟨hE4, fs, hFs, hfl, hfm, hfsum⟩
      simp [l24, hE3]; exact hR u fs W4 (And.intro hE4 (And.intro hFs (And.intro hfl (And.intro hfm hfsum))))) ?_
  rintro u fs W4 ⟨hE4, hFs, hfl, hfm, hfsum⟩
  have lf := falls_len hFs
  obtain ⟨m, hm⟩ : ∃ m, m = fs.length := ⟨_, rfl⟩
  rw [← hm] at lf hfl
  try simp only [wpK_assoc]
  refine wpK_reg (fun R hR => by simp []; exact hR) ?_
  try simp only [wpK_assoc]
  refine wpK_while (I := fun kk A' W' => A'.n = 56 ∧ A'.defers = [] ∧ A'.tmps.get 1 = some (sv) ∧ A'.tmps.get 2 = some (.int .i64 k) ∧ A'.tmps.get 3 = some (.pointer (some ⟨W.next, 0, none⟩)) ∧ A'.tmps.get 8 = some (u) ∧ W' = W4 ∧ ∃ i : Nat, A'.tmps.get 9 = some (.int .i64 (i : Int)) ∧ A'.tmps.get 7 = some (.int .i64 (sumT fs i)) ∧ kk = m - i ∧ i ≤ m)
    (J := fun A' W' => A'.n = 56 ∧ A'.defers = [] ∧ A'.tmps.get 1 = some (sv) ∧ A'.tmps.get 2 = some (.int .i64 k) ∧ A'.tmps.get 3 = some (.pointer (some ⟨W.next, 0, none⟩)) ∧ A'.tmps.get 8 = some (u) ∧ W' = W4 ∧ A'.tmps.get 7 = some (.int .i64 od)) (Rt := fun _ _ => False) (k := m) ?_ ?_ ?_ ?_
  · exact ⟨rfl, rfl, by simp, by simp, by simp, by simp, rfl, 0, by simp, by simp [sumT, sumN], rfl, by omega⟩
  · rintro kk ⟨tm, n, ds⟩ Wb ⟨hn, hd, h1, h2, h3, h8, e2, i, h9, h7, hkk, him⟩ Q' hJ' hRt hI
    simp only at hn hd h1 h2 h3 h8
    subst hn; subst hd
    subst Wb
    simp only at h9 h7
    by_cases hlt : i < m
    case neg =>
      have e : i = m := by omega
      subst e
      try simp only [wpK_assoc]
      refine wpK_reg (fun R hR => by simp [h8, h9, lf]; exact hR) ?_
      try simp only [wpK_assoc]
      first | refine wpK_onF (by simp []) ?_ | refine wpK_out (by simp []) ?_ | refine wpK_condF (by simp []) ?_ | refine wpK_endF (by simp []) (wpK_skip ?_) | refine wpK_endF (by simp []) ?_
      exact hJ' _ _ ⟨rfl, rfl, by simp [h1, h2, h3, h8], by simp [h1, h2, h3, h8], by simp [h1, h2, h3, h8], by simp [h1, h2, h3, h8], rfl, by rw [← hfsum]; simp [h7, sumL, sumT, hm]⟩
    have hlt' : (i : Int) < m := by omega
    try simp only [wpK_assoc]
    refine wpK_reg (fun R hR => by simp [h8, h9, lf, hlt']; exact hR) ?_
    try simp only [wpK_assoc]
    first | refine wpK_onT (by simp [hlt]) ?_ | refine wpK_outT (by simp [hlt]) ?_ | refine wpK_condT (by simp [hlt]) ?_ | refine wpK_endT (by simp [hlt]) ?_
    obtain ⟨x, b, p, g1, g2, g3⟩ := falls_at hFs (i := i) (by omega)
    have hrem := aBinI_rem .i64 ((fs.getD i 0 : Nat) : Int) (2 : Nat) (by omega)
    rw [ofNat_tmod] at hrem
    have hti := sumT_in fs i
    have hts : sumT fs (i + 1) = sumT fs i + ((fs.getD i 0 % 2 : Nat) : Int) := rfl
    generalize fs.getD i 0 = q at g3 hrem hts
    generalize sumT fs i = c0 at h7 hti hts
    have a1 : IntKind.i64.wrap (c0 + ((q % 2 : Nat) : Int)) = sumT fs (i + 1) := by rw [hts]; exact i64_in (by omega)
    generalize q % 2 = qm at hrem a1
    have hrem : aBinI .rem .i64 (q : Int) .i64 2 = some (.int .i64 (qm : Int)) := hrem
    refine wpK_block ?_
    try simp only [wpK_assoc]
    refine wpK_reg1 (fun R hR => by simp [h7, h8, h9, g1, g2, g3, hrem, a1]; exact hR) ?_
    simp only [leaves_normal, behind_normal]
    refine wpK_keep (fun tm' => tm'.get 1 = some (sv) ∧ tm'.get 2 = some (.int .i64 k) ∧ tm'.get 3 = some (.pointer (some ⟨W.next, 0, none⟩)) ∧ tm'.get 7 = some (.int .i64 (sumT fs (i + 1))) ∧ tm'.get 8 = some (u) ∧ tm'.get 9 = some (.int .i64 (i : Int))) ⟨by simp [h1, h2, h3, h8, h9], by simp [h1, h2, h3, h8, h9], by simp [h1, h2, h3, h8, h9], by simp [h1, h2, h3, h8, h9], by simp [h1, h2, h3, h8, h9], by simp [h1, h2, h3, h8, h9]⟩ ?_
    rintro tm ⟨h1, h2, h3, h7, h8, h9⟩
    try simp only [wpK_assoc]
    refine wpK_reg1 (fun R hR => by simp [h9]; exact hR) ?_
    exact hI (m - (i + 1)) _ _ (by omega) ⟨rfl, rfl, by simp [h1, h2, h3, h8], by simp [h1, h2, h3, h8], by simp [h1, h2, h3, h8], by simp [h1, h2, h3, h8], rfl, i + 1, by simp [i64_succ i (by omega)], by simp [h7], rfl, by omega⟩
  · rintro A' W' hf; exact hf.elim
  · rintro ⟨tm, n, ds⟩ Wz ⟨hn, hd, h1, h2, h3, h8, eW, h7⟩
    simp only at hn hd h1 h2 h3 h8
    subst hn; subst hd
    subst Wz
    simp only at h7
    have hod : 0 ≤ od ∧ od ≤ m := by
      have := sumT_in fs m
      have e : sumL fs = sumT fs m := by rw [hm]; rfl
      omega
    have a1 : IntKind.i64.wrap ((n : Int) + (s.length : Int)) = (n : Int) + s.length := i64_in (by omega)
    have a2 : IntKind.i64.wrap ((n : Int) + (s.length : Int) - od) = (n : Int) + s.length - od := i64_in (by omega)
    have a3 : IntKind.i64.wrap (2 * k) = 2 * k := i64_in (by omega)
    have hmul := aBinI_mul .i64 2 k
    rw [a3] at hmul
    generalize 2 * k = k2 at hmul hBar
    have hE34 := hE3.trans hE4
    try simp only [wpK_assoc]
    refine wpK_reg (fun R hR => by simp [h1, h2, h3, h7, ls, l0, hE34, a1, a2, hmul]; exact hR) ?_
    exact wpK_ret ⟨.inr rfl, rfl, [.bool (decide (k2 = (n : Int) + s.length - od))], by simp, hE1.trans hE34, decide (k2 = (n : Int) + s.length - od), rfl, by rw [decide_eq_true_iff]; exact hBar.symm⟩

end Go.Proofs.YtdpnplanohgecaaDoor

open Go Go.Eng
namespace Go.Proofs.YtdpnplanohgecaaDoor
attribute [local congr] undef_congr WpK.congr WpS.congr WpL.congr WpC.congr WpF.congr gotS.congr callS.congr nextS.congr wantS.congr condS.congr
attribute [local irreducible] WpK
attribute [local simp] WpDr_nil WpDr_cons atS_some dwantS_true dwantS_false kindS_light kindS_float kindS_heavy lightS_value floatS_some heavyS_value heavyS_skip heavyS_enter dcallS_some doneS_eq
  isLight isFloat isPlain dLook testBit_dec dChain dLights_nil dLights_skip dLights_one dLight_nil dLight_cons dFreshes_nil dFreshes_one oneF_none oneF_some dFresh_nil dFresh_cons oneL_some oneW_true oneW_false sameV_value dPut dMay valEq arrEq listEq List.getElem?_cons Tr.get_nil dEnd
attribute [local simp] WpS_nil WpS_cons isDefer undef_false wantS_true wantS_false nextS_value nextS_skip nextS_enter callS_some gotS_some aWanted aOp aEvalF aEval opMove opAssign opPick aVal flat flat1 AAct.put opBinOp opConvert opIndex Tr.get_set Tr.get_lay aBin aResults tupled
  aCall aVals aCallB blt_dec ble_dec beq_dec aBinI_add aBinI_sub aBinI_lss aBinI_leq aBinI_gtr aBinI_geq aBinI_eql aBinI_neq index_str len_str len_slice Nat.beq_refl Nat.beq_refl
  opBox opLoad opFieldAddr opIndexAddr acells aAddr opExtract aExtract opUnOp opAlloc opStore opMakeInterface opNilCheck opBuild aParts opBuildSlice aValW
attribute [local simp] und2 und3 und4 und5 und9 und12 field13_0 field13_1 und21 und22 field23_0 field23_1 field24_0 field24_1 field25_0 field25_1 und28 und31 field34_0 field34_1 field34_2 field35_0 field35_1 field35_2 und46 field50_0 field50_1 field50_2 und55 und56 und58 und61 und62 und73 und75 und90 und94 und95 und96 field97_0 field97_1 field97_2 field97_3 field97_4 field97_5 field97_6 field98_0 field98_1 field98_2 field98_3 field98_4 field98_5 field98_6 und99 und106 field107_0 field107_1 field108_0 field108_1 und119 und122 field124_0 field124_1 field124_2 field125_0 field125_1 field125_2 field131_0 field131_1 field132_0 field132_1 und133 field134_0 field134_1 field135_0 field135_1 und148 und156 und160
set_option maxHeartbeats 4000000
set_option linter.unusedSimpArgs false
set_option linter.unusedVariables false
/-! ### a small graph of any -/
theorem build24_0 (P : Int) : aBuild T0 24 [(0, .int .i64 P)] = some (.agg ⟨[.int .i64 P, .slice none 0 0]⟩) := by kernel_rfl
theorem bs22 (W : AW) (a b : Int) : aBuildSlice T0 W 22 1 [(0, pr a b)] = some (.slice (some ⟨W.next, 0, none⟩) 1 2, W.newCells 55 [.int .i64 a, .int .i64 b]) := by kernel_rfl
theorem good_app {P : Int} {xs : List Edge} (h : GoodTo P xs xs.length) {a b : Int} (h1 : 0 ≤ a ∧ a < P ∧ 0 ≤ b ∧ b < P ∧ a ≠ b) (h2 : ¬ Jn xs a b) : GoodTo P (xs ++ [(a, b)]) (xs ++ [(a, b)]).length := fun i hi x y hx => by
  simp at hi
  have hold : ∀ j, j < xs.length → (xs ++ [(a, b)])[j]? = xs[j]? := fun j hj => List.getElem?_append_left hj
  by_cases e : i = xs.length
  · subst e
    rw [List.getElem?_append_right (Nat.le_refl _), Nat.sub_self] at hx
    cases hx
    exact ⟨h1.1, h1.2.1, h1.2.2.1, h1.2.2.2.1, h1.2.2.2.2, fun j hj => by
      rw [hold j hj]
      exact ⟨fun e => h2 ⟨j, .inl e⟩, fun e => h2 ⟨j, .inr e⟩⟩⟩
  · rw [hold i (by omega)] at hx
    obtain ⟨g1, g2, g3, g4, g5, g6⟩ := h i (by omega) x y hx
    exact ⟨g1, g2, g3, g4, g5, fun j hj => by rw [hold j (by omega)]; exact g6 j hj⟩
open Classical in
theorem tame_wp {W : AW} {v : Value} (P : Int) {es : List Edge} (h : PairR W v es) (hl : es.length < 9223372036854775808) :
    WpF T0 23 [.agg ⟨[.int .i64 P, v]⟩, .int .i64 7, .int .i64 12] W (fun u W' => Ext W W' ∧ ∃ (n : Nat) (ov : Value) (xs : List Edge), u = .agg ⟨[.int .i64 (n : Int), ov]⟩ ∧ 1 ≤ n ∧ n ≤ 7 ∧ GraphOk (n : Int) xs ∧ xs.length ≤ 12 ∧ PairR W' ov xs) := by
  refine wpF fun23 rfl ?_
  obtain ⟨Av, cv, hvv⟩ := h.len
  obtain ⟨W1, hW1, hE1, hV, hV6, hn1⟩ : ∃ W1, W1 = (W.newCells 24 [.int .i64 P, v]).newCells 24 [.int .i64 0, .slice none 0 0] ∧ Ext W W1 ∧ Var W1 W.next 24 [.int .i64 P, v] ∧ Var W1 (W.next + 1) 24 [.int .i64 0, .slice none 0 0] ∧ W1.next = W.next + 2 :=
    ⟨_, rfl, (Only.newCells _ _ _).trans (Only.newCells _ _ _), (Var.new _ _ _).ext (.newCells _ _ _), Var.new _ _ _, rfl⟩
  have l0 := hV.load1 (T := T0) und3 rfl (j := 0) (v := .int .i64 P) rfl
  obtain ⟨y0, hy0⟩ : ∃ y0 : Nat, IntKind.u64.wrap (IntKind.i64.wrap (P - 1)) = (y0 : Int) := ⟨(IntKind.u64.wrap (IntKind.i64.wrap (P - 1))).toNat, by rw [IntKind.wrap_u64]; omega⟩
  have h7w : IntKind.u64.wrap 7 = 7 := by decide
  have r7 := aBinI_rem .u64 (y0 : Int) (7 : Nat) (by omega)
  rw [ofNat_tmod] at r7
  have hy7 : y0 % 7 < 7 := Nat.mod_lt _ (by omega)
  generalize y0 % 7 = y at r7 hy7
  have r7 : aBinI .rem .u64 (y0 : Int) .u64 7 = some (.int .u64 (y : Int)) := r7
  obtain ⟨n, hn⟩ : ∃ n, n = y + 1 := ⟨_, rfl⟩
  have a1 : IntKind.i64.wrap (y : Int) = (y : Int) := i64_in (by omega)
  have a2 : IntKind.i64.wrap (1 + (y : Int)) = (n : Int) := by rw [i64_in (by omega)]; omega
  obtain ⟨W2, hW2, hE2, hn2, hV7⟩ : ∃ W2, W2 = W1.newCells 24 [.int .i64 0, .slice none 0 0] ∧ Ext W1 W2 ∧ W2.next = W1.next + 1 ∧ Var W2 W1.next 24 [.int .i64 0, .slice none 0 0] := ⟨_, rfl, .newCells _ _ _, rfl, Var.new _ _ _⟩
  obtain ⟨W3, g1, g2, g3, g4⟩ := hV7.store (T := T0) (t := 24) (v := .agg ⟨[.int .i64 (n : Int), .slice none 0 0]⟩) (o := 0) inf24 (by rw [is24]; rfl) (by simp) rfl
  have hV7' : Var W3 W1.next 24 [.int .i64 (n : Int), .slice none 0 0] := by simpa using g4
  have hE13 : Ext W1 W3 := ⟨by omega, fun b hb hk => by rw [g3.2 b (by omega) (by omega), hE2.2 b hb hk]⟩
  try simp only [wpK_assoc]
  refine wpK_reg (fun R hR => by simp [zero24, newCells_next, ← hW1]; exact hR) ?_
  try simp only [wpK_assoc]
  refine wpK_reg (fun R hR => by simp [l0, conv_3_56, conv_56_3, hy0, h7w, r7, a1, a2, build24_0, zero24, ← hW2, g1]; exact hR) ?_
  try simp only [wpK_assoc]
  refine wpK_reg (fun R hR => by simp []; exact hR) ?_
  obtain ⟨p7, hp7⟩ : ∃ p, p = W1.next := ⟨_, rfl⟩
  rw [← hp7] at hV7'
  have hV3 := hV.ext hE13
  have hV63 := hV6.ext hE13
  have hE03 := hE1.trans hE13
  refine wpK_keep (fun tm' => tm'.get 2 = some (.int .i64 12) ∧ tm'.get 3 = some (.pointer (some ⟨W.next, 0, none⟩)) ∧ tm'.get 6 = some (.pointer (some ⟨W.next + 1, 0, none⟩)) ∧ tm'.get 7 = some (.pointer (some ⟨p7, 0, none⟩)) ∧ tm'.get 8 = some (.int .i64 0)) ⟨by simp [hp7], by simp [hp7], by simp [hp7], by simp [hp7], by simp [hp7]⟩ ?_
  rintro tm ⟨h2, h3, h6, h7, h8⟩
  try simp only [wpK_assoc]
  refine wpK_while (I := fun k A' W' => A'.n = 80 ∧ A'.defers = [] ∧ A'.tmps.get 2 = some (.int .i64 12) ∧ A'.tmps.get 3 = some (.pointer (some ⟨W.next, 0, none⟩)) ∧ A'.tmps.get 6 = some (.pointer (some ⟨W.next + 1, 0, none⟩)) ∧ A'.tmps.get 7 = some (.pointer (some ⟨p7, 0, none⟩)) ∧ Ext W1 W' ∧ ∃ (i : Nat) (ov : Value) (xs : List Edge) (K : Nat → Prop), A'.tmps.get 8 = some (.int .i64 (i : Int)) ∧ k = es.length - i ∧ Var W' p7 24 [.int .i64 (n : Int), ov] ∧ GrowsN W' ov xs.length (flatE encP xs) 55 2 K ∧ (∀ b, K b → W1.next < b) ∧ xs.length ≤ 12 ∧ GoodTo (n : Int) xs xs.length)
    (J := fun A' W' => A'.n = 80 ∧ A'.defers = [] ∧ A'.tmps.get 2 = some (.int .i64 12) ∧ A'.tmps.get 3 = some (.pointer (some ⟨W.next, 0, none⟩)) ∧ A'.tmps.get 6 = some (.pointer (some ⟨W.next + 1, 0, none⟩)) ∧ A'.tmps.get 7 = some (.pointer (some ⟨p7, 0, none⟩)) ∧ Ext W1 W' ∧ ∃ (ov : Value) (xs : List Edge) (K : Nat → Prop), Var W' p7 24 [.int .i64 (n : Int), ov] ∧ GrowsN W' ov xs.length (flatE encP xs) 55 2 K ∧ (∀ b, K b → W1.next < b) ∧ xs.length ≤ 12 ∧ GoodTo (n : Int) xs xs.length) (Rt := fun _ _ => False) (k := es.length) ?_ ?_ ?_ ?_
  · exact ⟨rfl, rfl, by simp [h2, h3, h6, h7], by simp [h2, h3, h6, h7], by simp [h2, h3, h6, h7], by simp [h2, h3, h6, h7], hE13, 0, .slice none 0 0, [], fun _ => False, by simp [h8], rfl, hV7', .nil _ _ _ _, fun b hb => hb.elim, by simp, fun i hi => by simp at hi⟩
  · rintro k ⟨tm, n, ds⟩ Wa ⟨hn, hd, h2, h3, h6, h7, hEa, i, ov, xs, K, h8, hk, hVo, hgr, hK, hx12, hgood⟩ Q' hJ' hRt hI
    simp only at hn hd h2 h3 h6 h7
    subst hn; subst hd
    simp only at h8
    have hVa := hV.ext hEa
    have m1 := hVa.load1 (T := T0) und22 rfl (j := 1) (v := v) rfl
    have o0 := hVo.load1 (T := T0) und3 rfl (j := 0) (v := .int .i64 (n : Int)) rfl
    have o1 := hVo.load1 (T := T0) und22 rfl (j := 1) (v := ov) rfl
    have hRo : PairR Wa ov xs := hgr.row encP_len
    obtain ⟨Ao, co, hov⟩ := hRo.len
    have ll : ∀ W', aLen T0 W' 22 v = some (.int .i64 es.length) := fun W' => by rw [hvv]; exact len_slice und22 _ _ _
    have lo : ∀ W', aLen T0 W' 22 ov = some (.int .i64 xs.length) := fun W' => by rw [hov]; exact len_slice und22 _ _ _
    by_cases hlt : i < es.length
    case neg =>
      have hlt' : ¬ (i : Int) < es.length := by omega
      try simp only [wpK_assoc]
      refine wpK_reg (fun R hR => by simp [h2, h3, h7, h8, m1, ll, hlt', undef]; exact hR) ?_
      try simp only [wpK_assoc]
      first | refine wpK_onF (by simp [hlt]) ?_ | refine wpK_out (by simp [hlt]) ?_ | refine wpK_condF (by simp [hlt]) ?_ | refine wpK_endF (by simp [hlt]) (wpK_skip ?_) | refine wpK_endF (by simp [hlt]) ?_
      exact hJ' _ _ ⟨rfl, rfl, by simp [h2, h3, h6, h7], by simp [h2, h3, h6, h7], by simp [h2, h3, h6, h7], by simp [h2, h3, h6, h7], hEa, ov, xs, K, hVo, hgr, hK, hx12, hgood⟩
    have hlt' : (i : Int) < es.length := by omega
    by_cases h12 : xs.length < 12
    case neg =>
      have h12' : ¬ (xs.length : Int) < 12 := by omega
      try simp only [wpK_assoc]
      refine wpK_reg (fun R hR => by simp [h2, h3, h7, h8, m1, o1, ll, lo, hlt', h12']; exact hR) ?_
      try simp only [wpK_assoc]
      first | refine wpK_onF (by simp [hlt, h12]) ?_ | refine wpK_out (by simp [hlt, h12]) ?_ | refine wpK_condF (by simp [hlt, h12]) ?_ | refine wpK_endF (by simp [hlt, h12]) (wpK_skip ?_) | refine wpK_endF (by simp [hlt, h12]) ?_
      exact hJ' _ _ ⟨rfl, rfl, by simp [h2, h3, h6, h7], by simp [h2, h3, h6, h7], by simp [h2, h3, h6, h7], by simp [h2, h3, h6, h7], hEa, ov, xs, K, hVo, hgr, hK, hx12, hgood⟩
    have h12' : (xs.length : Int) < 12 := by omega
    try simp only [wpK_assoc]
    refine wpK_reg (fun R hR => by simp [h2, h3, h7, h8, m1, o1, ll, lo, hlt', h12']; exact hR) ?_
    try simp only [wpK_assoc]
    first | refine wpK_onT (by simp [hlt, h12]) ?_ | refine wpK_outT (by simp [hlt, h12]) ?_ | refine wpK_condT (by simp [hlt, h12]) ?_ | refine wpK_endT (by simp [hlt, h12]) ?_
    obtain ⟨⟨ea, eb⟩, hab⟩ : ∃ e : Edge, es[i] = e := ⟨_, rfl⟩
    have ha : es[i]? = some (ea, eb) := by rw [List.getElem?_eq_getElem hlt, hab]
    have hR := h.ext (hE1.trans hEa)
    obtain ⟨q, o, hx, hh⟩ := hR.at (T := T0) ha und22 sz55 .i64
    have la := load_of und3 rfl (hh 0 (.int .i64 ea) rfl)
    have lb := load_of und3 rfl (hh 1 (.int .i64 eb) rfl)
    rw [Nat.add_zero] at la
    have vv := row_eq hR
    obtain ⟨xa, hxa⟩ : ∃ z : Nat, IntKind.u64.wrap ea = (z : Int) := ⟨(IntKind.u64.wrap ea).toNat, by rw [IntKind.wrap_u64]; omega⟩
    obtain ⟨xb, hxb⟩ : ∃ z : Nat, IntKind.u64.wrap eb = (z : Int) := ⟨(IntKind.u64.wrap eb).toNat, by rw [IntKind.wrap_u64]; omega⟩
    have hwn : IntKind.u64.wrap (n : Int) = (n : Int) := u64_nat (by omega)
    have r1 := aBinI_rem .u64 (xa : Int) (n : Int) (by omega)
    have r2 := aBinI_rem .u64 (xb : Int) (n : Int) (by omega)
    rw [ofNat_tmod] at r1 r2
    have ha' : xa % n < n := Nat.mod_lt _ (by omega)
    have hb' : xb % n < n := Nat.mod_lt _ (by omega)
    generalize xa % n = a at r1 ha'
    generalize xb % n = b at r2 hb'
    have wa : IntKind.i64.wrap (a : Int) = (a : Int) := i64_in (by omega)
    have wb : IntKind.i64.wrap (b : Int) = (b : Int) := i64_in (by omega)
    refine wpK_block ?_
    try simp only [wpK_assoc]
    refine wpK_dn (wr := Tr.nil |>.set 36 0 |>.set 37 1 |>.set 38 2 |>.set 39 3 |>.set 40 4 |>.set 41 5 |>.set 42 6 |>.set 43 7 |>.set 44 8 |>.set 45 9 |>.set 46 10 |>.set 47 11 |>.set 48 12 |>.set 49 13 |>.set 50 14 |>.set 51 15 |>.set 52 16 |>.set 53 17 |>.set 54 18 |>.set 55 19 |>.set 56 20 |>.set 57 21 |>.set 58 22 |>.set 59 23 |>.set 9 24 |>.set 10 25) (bits := Tr.nil.lay 0 [0, 1, 0, 7, 15, 31, 63, 0, 128, 384, 1023, 2047, 0, 4096, 0, 28672, 61440, 126976, 258048, 0, 524288, 1572864, 4190208, 8384512, 4095, 33554431]) (ord := [0, 1, 2, 3, 4, 5, 6, 7, 8, 9, 10, 11, 12, 13, 14, 15, 16, 17, 18, 19, 20, 21, 22, 23, 24, 25]) (by kernel_rfl) (by kernel_rfl) (by kernel_rfl) (fun G hG => by
      simp [h3, h7, h8, m1, hx, ix55_0, ix55_1, la, lb, vv, o0, conv_3_56, conv_56_3, hxa, hxb, hwn, r1, r2, wa, wb]
      exact hG) ?_
    refine wpK_keep (fun tm' => tm'.get 2 = some (.int .i64 12) ∧ tm'.get 3 = some (.pointer (some ⟨W.next, 0, none⟩)) ∧ tm'.get 6 = some (.pointer (some ⟨W.next + 1, 0, none⟩)) ∧ tm'.get 7 = some (.pointer (some ⟨p7, 0, none⟩)) ∧ tm'.get 8 = some (.int .i64 (i : Int)) ∧ tm'.get 9 = some (.int .i64 (a : Int)) ∧ tm'.get 10 = some (.int .i64 (b : Int))) ⟨by simp [h2, h3, h6, h7, h8], by simp [h2, h3, h6, h7, h8], by simp [h2, h3, h6, h7, h8], by simp [h2, h3, h6, h7, h8], by simp [h2, h3, h6, h7, h8], by simp [h2, h3, h6, h7, h8], by simp [h2, h3, h6, h7, h8]⟩ ?_
    rintro tm ⟨h2, h3, h6, h7, h8, h9, h10⟩
    have lw := load24 hVo
    have hjw := refJoined_wp (n : Int) hRo (by omega) (a : Int) (b : Int)
    by_cases hab2 : a = b
    · have hab4 : (a : Int) = (b : Int) := by omega
      try simp only [wpK_assoc]
      refine wpK_reg (fun R hR => by simp [h7, h9, h10, hab4, undef]; exact hR) ?_
      try simp only [wpK_assoc]
      first | refine wpK_onF (by simp []) ?_ | refine wpK_out (by simp []) ?_ | refine wpK_condF (by simp []) ?_ | refine wpK_endF (by simp []) (wpK_skip ?_) | refine wpK_endF (by simp []) ?_
      simp only [leaves_normal, behind_normal]
      refine wpK_keep (fun tm' => tm'.get 2 = some (.int .i64 12) ∧ tm'.get 3 = some (.pointer (some ⟨W.next, 0, none⟩)) ∧ tm'.get 6 = some (.pointer (some ⟨W.next + 1, 0, none⟩)) ∧ tm'.get 7 = some (.pointer (some ⟨p7, 0, none⟩)) ∧ tm'.get 8 = some (.int .i64 (i : Int)) ∧ tm'.get 9 = some (.int .i64 (a : Int)) ∧ tm'.get 10 = some (.int .i64 (b : Int))) ⟨by simp [h2, h3, h6, h7, h8, h9, h10], by simp [h2, h3, h6, h7, h8, h9, h10], by simp [h2, h3, h6, h7, h8, h9, h10], by simp [h2, h3, h6, h7, h8, h9, h10], by simp [h2, h3, h6, h7, h8, h9, h10], by simp [h2, h3, h6, h7, h8, h9, h10], by simp [h2, h3, h6, h7, h8, h9, h10]⟩ ?_
      rintro tm ⟨h2, h3, h6, h7, h8, h9, h10⟩
      try simp only [wpK_assoc]
      refine wpK_reg1 (fun R hR => by simp [h8]; exact hR) ?_
      exact hI (es.length - (i + 1)) _ _ (by omega) ⟨rfl, rfl, by simp [h2, h3, h6, h7], by simp [h2, h3, h6, h7], by simp [h2, h3, h6, h7], by simp [h2, h3, h6, h7], hEa, i + 1, ov, xs, K, by simp [i64_succ i (by omega)], rfl, hVo, hgr, hK, hx12, hgood⟩
    have hab3 : ¬ (a : Int) = (b : Int) := by omega
    have hpn : p7 < Wa.next := hVo.1
    by_cases hj : Jn xs (a : Int) (b : Int)
    · rw [decide_eq_true hj] at hjw
      try simp only [wpK_assoc]
      refine wpK_x0 (P := fun W' => Ext Wa W') (fun R hR => by
        simp [h7, h9, h10, hab3, hab2, lw, aEnter, fun64, short_other, aCallV]; rw [callS_none]
        refine hjw.mono ?_
        rintro _ Wb ⟨hEb, rfl⟩
        simp; exact hR Wb hEb) ?_
      rintro Wb hEb
      try simp only [wpK_assoc]
      first | refine wpK_onF (by simp []) ?_ | refine wpK_out (by simp []) ?_ | refine wpK_condF (by simp []) ?_ | refine wpK_endF (by simp []) (wpK_skip ?_) | refine wpK_endF (by simp []) ?_
      simp only [leaves_normal, behind_normal]
      refine wpK_keep (fun tm' => tm'.get 2 = some (.int .i64 12) ∧ tm'.get 3 = some (.pointer (some ⟨W.next, 0, none⟩)) ∧ tm'.get 6 = some (.pointer (some ⟨W.next + 1, 0, none⟩)) ∧ tm'.get 7 = some (.pointer (some ⟨p7, 0, none⟩)) ∧ tm'.get 8 = some (.int .i64 (i : Int)) ∧ tm'.get 9 = some (.int .i64 (a : Int)) ∧ tm'.get 10 = some (.int .i64 (b : Int))) ⟨by simp [h2, h3, h6, h7, h8, h9, h10], by simp [h2, h3, h6, h7, h8, h9, h10], by simp [h2, h3, h6, h7, h8, h9, h10], by simp [h2, h3, h6, h7, h8, h9, h10], by simp [h2, h3, h6, h7, h8, h9, h10], by simp [h2, h3, h6, h7, h8, h9, h10], by simp [h2, h3, h6, h7, h8, h9, h10]⟩ ?_
      rintro tm ⟨h2, h3, h6, h7, h8, h9, h10⟩
      try simp only [wpK_assoc]
      refine wpK_reg1 (fun R hR => by simp [h8]; exact hR) ?_
      exact hI (es.length - (i + 1)) _ _ (by omega) ⟨rfl, rfl, by simp [h2, h3, h6, h7], by simp [h2, h3, h6, h7], by simp [h2, h3, h6, h7], by simp [h2, h3, h6, h7], hEa.trans hEb, i + 1, ov, xs, K, by simp [i64_succ i (by omega)], rfl, hVo.ext hEb, hgr.only hEb (fun _ _ _ x => x), hK, hx12, hgood⟩
    · rw [decide_eq_false hj] at hjw
      try simp only [wpK_assoc]
      refine wpK_x0 (P := fun W' => Ext Wa W') (fun R hR => by
        simp [h7, h9, h10, hab3, hab2, lw, aEnter, fun64, short_other, aCallV]; rw [callS_none]
        refine hjw.mono ?_
        rintro _ Wb ⟨hEb, rfl⟩
        simp; exact hR Wb hEb) ?_
      rintro Wb hEb
      try simp only [wpK_assoc]
      first | refine wpK_onT (by simp []) ?_ | refine wpK_outT (by simp []) ?_ | refine wpK_condT (by simp []) ?_ | refine wpK_endT (by simp []) ?_
      have hVb := hVo.ext hEb
      have hgb := hgr.only hEb (fun _ _ _ x => x)
      have ob := hVb.load1 (T := T0) und22 rfl (j := 1) (v := ov) rfl
      obtain ⟨v', Wc, Wd, q1, q2, q3, q4, q5, q6, q7⟩ := Var.push (T := T0) (t := 22) (el := 55) (i := Tryd.t55) (it := Tryd.t22) (sz := 2) (by omega) und22 inf55 is55 z55 rfl inf22 is22 hgb hVb (o := 1) (fun hk => by have := hK _ hk; omega) (by simp) (u := [.int .i64 (a : Int), .int .i64 (b : Int)]) rfl rfl (by rw [by55]; omega) (by omega)
      have q1 : aAppend T0 (Wb.newCells 55 [.int .i64 (a : Int), .int .i64 (b : Int)]) [22, 22] [ov, .slice (some ⟨Wb.next, 0, none⟩) 1 2] = some (v', Wc) := q1
      try simp only [wpK_assoc]
      refine wpK_reg (fun R hR => by simp [h7, ob]; exact hR) ?_
      try simp only [wpK_assoc]
      refine wpK_reg1 (fun R hR => by simp [h7, h9, h10, build55, bs22, q1, q2]; exact hR) ?_
      simp only [leaves_normal, behind_normal]
      refine wpK_keep (fun tm' => tm'.get 2 = some (.int .i64 12) ∧ tm'.get 3 = some (.pointer (some ⟨W.next, 0, none⟩)) ∧ tm'.get 6 = some (.pointer (some ⟨W.next + 1, 0, none⟩)) ∧ tm'.get 7 = some (.pointer (some ⟨p7, 0, none⟩)) ∧ tm'.get 8 = some (.int .i64 (i : Int)) ∧ tm'.get 9 = some (.int .i64 (a : Int)) ∧ tm'.get 10 = some (.int .i64 (b : Int))) ⟨by simp [h2, h3, h6, h7, h8, h9, h10], by simp [h2, h3, h6, h7, h8, h9, h10], by simp [h2, h3, h6, h7, h8, h9, h10], by simp [h2, h3, h6, h7, h8, h9, h10], by simp [h2, h3, h6, h7, h8, h9, h10], by simp [h2, h3, h6, h7, h8, h9, h10], by simp [h2, h3, h6, h7, h8, h9, h10]⟩ ?_
      rintro tm ⟨h2, h3, h6, h7, h8, h9, h10⟩
      try simp only [wpK_assoc]
      refine wpK_reg1 (fun R hR => by simp [h8]; exact hR) ?_
      have hl1 : (xs ++ [((a : Int), (b : Int))]).length = xs.length + 1 := by simp
      have hEab := hEa.trans hEb
      have hnb := hEab.1
      refine hI (es.length - (i + 1)) _ _ (by omega) ⟨rfl, rfl, by simp [h2, h3, h6, h7], by simp [h2, h3, h6, h7], by simp [h2, h3, h6, h7], by simp [h2, h3, h6, h7], ⟨by omega, fun c hc hk => ?_⟩, i + 1, v', xs ++ [((a : Int), (b : Int))], fun c => K c ∨ c = Wb.next + 1, by simp [i64_succ i (by omega)], rfl, by simpa using q5, ?_, fun c hc => ?_, by rw [hl1]; omega, good_app hgood ⟨by omega, by omega, by omega, by omega, by omega⟩ hj⟩
      · rw [q7.2 c (by omega) (by rintro (hh | hh); have := hK _ hh; omega; omega)]
        exact hEab.2 c hc hk
      · rw [hl1, flatE_append, flatE_one]; exact q6
      · rcases hc with hc | hc
        · exact hK _ hc
        · omega
  · rintro A' W' hf; exact hf.elim
  · rintro ⟨tm, n, ds⟩ Wz ⟨hn, hd, h2, h3, h6, h7, hEz, ov, xs, K, hVo, hgr, hK, hx12, hgood⟩
    simp only at hn hd h2 h3 h6 h7
    subst hn; subst hd
    have lw := load24 hVo
    have hV6z := hV6.ext hEz
    have hRo : PairR Wz ov xs := hgr.row encP_len
    obtain ⟨Ao, co, hov⟩ := hRo.len
    obtain ⟨Wf, s1, s2, s3, s4⟩ := hV6z.store (T := T0) (t := 24) (v := .agg ⟨[.int .i64 (n : Int), ov]⟩) (o := 0) inf24 (by rw [is24]; rfl) (by simp) (by rw [hov]; rfl)
    have hl3 := load24 (x := .int .i64 (n : Int)) (y := ov) (by simpa using s4)
    try simp only [wpK_assoc]
    refine wpK_reg (fun R hR => by simp [h6, h7, lw, s1]; exact hR) ?_
    have hnz := hEz.1
    exact wpK_ret ⟨.inr rfl, rfl, [.agg ⟨[.int .i64 (n : Int), ov]⟩], by simp [h6, hl3], ⟨by omega, fun c hc hk => by rw [s3.2 c (by omega) (by omega), hEz.2 c (by omega) (fun x => x), hE1.2 c hc hk]⟩, n, ov, xs, rfl, by omega, by omega, ⟨by omega, by omega, by omega, hgood⟩, hx12, (hgr.only s3 (fun c hc hk e => by have := hK _ hk; omega)).row encP_len⟩

end Go.Proofs.YtdpnplanohgecaaDoor

open Go Go.Eng
namespace Go.Proofs.YtdpnplanohgecaaDoor
attribute [local congr] undef_congr WpK.congr WpS.congr WpL.congr WpC.congr WpF.congr gotS.congr callS.congr nextS.congr wantS.congr condS.congr
attribute [local irreducible] WpK
attribute [local simp] WpDr_nil WpDr_cons atS_some dwantS_true dwantS_false kindS_light kindS_float kindS_heavy lightS_value floatS_some heavyS_value heavyS_skip heavyS_enter dcallS_some doneS_eq
  isLight isFloat isPlain dLook testBit_dec dChain dLights_nil dLights_skip dLights_one dLight_nil dLight_cons dFreshes_nil dFreshes_one oneF_none oneF_some dFresh_nil dFresh_cons oneL_some oneW_true oneW_false sameV_value dPut dMay valEq arrEq listEq List.getElem?_cons Tr.get_nil dEnd
attribute [local simp] WpS_nil WpS_cons isDefer undef_false wantS_true wantS_false nextS_value nextS_skip nextS_enter callS_some gotS_some aWanted aOp aEvalF aEval opMove opAssign opPick aVal flat flat1 AAct.put opBinOp opConvert opIndex Tr.get_set Tr.get_lay aBin aResults tupled
  aCall aVals aCallB blt_dec ble_dec beq_dec aBinI_add aBinI_sub aBinI_lss aBinI_leq aBinI_gtr aBinI_geq aBinI_eql aBinI_neq index_str len_str len_slice Nat.beq_refl Nat.beq_refl
  opBox opLoad opFieldAddr opIndexAddr acells aAddr opExtract aExtract opUnOp opAlloc opStore opMakeInterface opNilCheck opBuild aParts opBuildSlice aValW
attribute [local simp] und2 und3 und4 und5 und9 und12 field13_0 field13_1 und21 und22 field23_0 field23_1 field24_0 field24_1 field25_0 field25_1 und28 und31 field34_0 field34_1 field34_2 field35_0 field35_1 field35_2 und46 field50_0 field50_1 field50_2 und55 und56 und58 und61 und62 und73 und75 und90 und94 und95 und96 field97_0 field97_1 field97_2 field97_3 field97_4 field97_5 field97_6 field98_0 field98_1 field98_2 field98_3 field98_4 field98_5 field98_6 und99 und106 field107_0 field107_1 field108_0 field108_1 und119 und122 field124_0 field124_1 field124_2 field125_0 field125_1 field125_2 field131_0 field131_1 field132_0 field132_1 und133 field134_0 field134_1 field135_0 field135_1 und148 und156 und160
set_option maxHeartbeats 4000000
set_option linter.unusedSimpArgs false
set_option linter.unusedVariables false
/-! ### the law PairJudges -/
theorem refHasI_wp {W : AW} {u : Value} {ps : List Int} (hU : IntN W u ps) (x : Int) (ha : ps.length < 9223372036854775808) :
    WpF T0 33 [u, .int .i64 x] W (fun r W' => W' = W ∧ ∃ b, r = .bool b) := by
  obtain ⟨A1, c1, hu1⟩ := hU.len
  obtain ⟨n, hn⟩ : ∃ n, n = ps.length := ⟨_, rfl⟩
  rw [← hn] at hu1
  have lu : ∀ W', aLen T0 W' 31 u = some (.int .i64 (n : Int)) := fun W' => by rw [hu1]; exact len_slice und31 _ _ _
  refine wpF fun33 rfl ?_
  try simp only [wpK_assoc]
  refine wpK_reg (fun R hR => by simp []; exact hR) ?_
  try simp only [wpK_assoc]
  refine wpK_reg (fun R hR => by simp []; exact hR) ?_
  try simp only [wpK_assoc]
  refine wpK_while (I := fun k A' W' => A'.n = 18 ∧ A'.defers = [] ∧ A'.tmps.get 0 = some (u) ∧ A'.tmps.get 1 = some (.int .i64 x) ∧ W' = W ∧ ∃ i : Nat, A'.tmps.get 5 = some (.int .i64 (i : Int)) ∧ k = n - i ∧ i ≤ n)
    (J := fun A' W' => A'.n = 18 ∧ A'.defers = [] ∧ A'.tmps.get 0 = some (u) ∧ A'.tmps.get 1 = some (.int .i64 x) ∧ W' = W) (Rt := fun A' W' => W' = W ∧ A'.tmps.get 4 = some (.bool true) ∧ A'.n = 18 ∧ A'.defers = []) (k := n) ?_ ?_ ?_ ?_
  · exact ⟨rfl, rfl, by simp, by simp, rfl, 0, by simp, rfl, by omega⟩
  · rintro k ⟨tm, n, ds⟩ Wa ⟨hn, hd, h0, h1, eW, i, h5, hk, hin⟩ Q' hJ hRt hI
    simp only at hn hd h0 h1
    subst hn; subst hd
    subst Wa
    simp only at h5
    by_cases hlt : i < n
    case neg =>
      have e : i = n := by omega
      subst e
      try simp only [wpK_assoc]
      refine wpK_reg (fun R hR => by simp [h0, h5, lu]; exact hR) ?_
      try simp only [wpK_assoc]
      first | refine wpK_onF (by simp []) ?_ | refine wpK_out (by simp []) ?_ | refine wpK_condF (by simp []) ?_ | refine wpK_endF (by simp []) (wpK_skip ?_) | refine wpK_endF (by simp []) ?_
      exact hJ _ _ ⟨rfl, rfl, by simp [h0, h1], by simp [h0, h1], rfl⟩
    have hlt' : (i : Int) < n := by omega
    try simp only [wpK_assoc]
    refine wpK_reg (fun R hR => by simp [h0, h5, lu, hlt']; exact hR) ?_
    try simp only [wpK_assoc]
    first | refine wpK_onT (by simp [hlt]) ?_ | refine wpK_outT (by simp [hlt]) ?_ | refine wpK_condT (by simp [hlt]) ?_ | refine wpK_endT (by simp [hlt]) ?_
    obtain ⟨bx, px, x1, x2, _⟩ := int_at31 hU (gI_some (l := ps) (i := i) (by omega))
    refine wpK_block ?_
    generalize gI ps i = z at x2
    by_cases he : z = x
    · try simp only [wpK_assoc]
      refine wpK_reg (fun R hR => by simp [h0, h1, h5, x1, x2, he]; exact hR) ?_
      try simp only [wpK_assoc]
      first | refine wpK_onT (by simp []) ?_ | refine wpK_outT (by simp []) ?_ | refine wpK_condT (by simp []) ?_ | refine wpK_endT (by simp []) ?_
      try simp only [wpK_assoc]
      refine wpK_reg (fun R hR => by simp []; exact hR) ?_
      refine wpK_ret ?_
      simp only [leaves_ret, behind_ret]
      exact hRt _ _ ⟨rfl, by simp, rfl, rfl⟩
    · try simp only [wpK_assoc]
      refine wpK_reg (fun R hR => by simp [h0, h1, h5, x1, x2, he]; exact hR) ?_
      try simp only [wpK_assoc]
      first | refine wpK_onF (by simp [he]) ?_ | refine wpK_out (by simp [he]) ?_ | refine wpK_condF (by simp [he]) ?_ | refine wpK_endF (by simp [he]) (wpK_skip ?_) | refine wpK_endF (by simp [he]) ?_
      simp only [leaves_normal, behind_normal]
      try simp only [wpK_assoc]
      refine wpK_reg1 (fun R hR => by simp [h5]; exact hR) ?_
      exact hI (n - (i + 1)) _ _ (by omega) ⟨rfl, rfl, by simp [h0, h1], by simp [h0, h1], rfl, i + 1, by simp [i64_succ i (by omega)], rfl, by omega⟩
  · rintro ⟨tm, m, ds⟩ W' ⟨e1, e2, e3, e4⟩
    simp only at e2 e3 e4
    subst e1; subst e3; subst e4
    exact ⟨.inr rfl, rfl, [.bool true], by simp [e2], rfl, true, rfl⟩
  · rintro ⟨tm, n, ds⟩ Wz ⟨hn, hd, h0, h1, eW⟩
    simp only at hn hd h0 h1
    subst hn; subst hd
    subst Wz
    try simp only [wpK_assoc]
    refine wpK_reg (fun R hR => by simp []; exact hR) ?_
    exact wpK_ret ⟨.inr rfl, rfl, [.bool false], by simp, rfl, false, rfl⟩

end Go.Proofs.YtdpnplanohgecaaDoor

open Go Go.Eng
namespace Go.Proofs.YtdpnplanohgecaaDoor
attribute [local congr] undef_congr WpK.congr WpS.congr WpL.congr WpC.congr WpF.congr gotS.congr callS.congr nextS.congr wantS.congr condS.congr
attribute [local irreducible] WpK
attribute [local simp] WpDr_nil WpDr_cons atS_some dwantS_true dwantS_false kindS_light kindS_float kindS_heavy lightS_value floatS_some heavyS_value heavyS_skip heavyS_enter dcallS_some doneS_eq
  isLight isFloat isPlain dLook testBit_dec dChain dLights_nil dLights_skip dLights_one dLight_nil dLight_cons dFreshes_nil dFreshes_one oneF_none oneF_some dFresh_nil dFresh_cons oneL_some oneW_true oneW_false sameV_value dPut dMay valEq arrEq listEq List.getElem?_cons Tr.get_nil dEnd
attribute [local simp] WpS_nil WpS_cons isDefer undef_false wantS_true wantS_false nextS_value nextS_skip nextS_enter callS_some gotS_some aWanted aOp aEvalF aEval opMove opAssign opPick aVal flat flat1 AAct.put opBinOp opConvert opIndex Tr.get_set Tr.get_lay aBin aResults tupled
  aCall aVals aCallB blt_dec ble_dec beq_dec aBinI_add aBinI_sub aBinI_lss aBinI_leq aBinI_gtr aBinI_geq aBinI_eql aBinI_neq index_str len_str len_slice Nat.beq_refl Nat.beq_refl
  opBox opLoad opFieldAddr opIndexAddr acells aAddr opExtract aExtract opUnOp opAlloc opStore opMakeInterface opNilCheck opBuild aParts opBuildSlice aValW
attribute [local simp] und2 und3 und4 und5 und9 und12 field13_0 field13_1 und21 und22 field23_0 field23_1 field24_0 field24_1 field25_0 field25_1 und28 und31 field34_0 field34_1 field34_2 field35_0 field35_1 field35_2 und46 field50_0 field50_1 field50_2 und55 und56 und58 und61 und62 und73 und75 und90 und94 und95 und96 field97_0 field97_1 field97_2 field97_3 field97_4 field97_5 field97_6 field98_0 field98_1 field98_2 field98_3 field98_4 field98_5 field98_6 und99 und106 field107_0 field107_1 field108_0 field108_1 und119 und122 field124_0 field124_1 field124_2 field125_0 field125_1 field125_2 field131_0 field131_1 field132_0 field132_1 und133 field134_0 field134_1 field135_0 field135_1 und148 und156 und160
set_option maxHeartbeats 4000000
set_option linter.unusedSimpArgs false
set_option linter.unusedVariables false
/-! ### the law PairJudges: the walk -/
theorem mk31 (W : AW) (n : Nat) (hn : n ≤ 100000) : aMakeSlice T0 W 31 (.int .i64 n) (.int .i64 n) = some (.slice (some ⟨W.next, 0, none⟩) n (2 * n), W.newCells 3 (vI (List.replicate n 0))) := by
  show aMakeSlice T0 W 31 (.int .i64 (Int.ofNat n)) (.int .i64 (Int.ofNat n)) = _
  have h1 : n ≤ 4611686018427387904 := by omega
  have h2 : Tryd.t3.bytes * n ≤ 281474976710656 := by rw [by3]; omega
  simp only [aMakeSlice, und31, inf3, z3, h1, h2, is3, ble_dec, acells, List.length_cons, List.length_nil, Nat.beq_refl, Nat.le_refl, decide_true, rep_vI]
theorem varP_load {W : AW} {pb : Nat} {l : List Int} (h : Var W pb 3 (vI l)) {i : Nat} (hi : i < l.length) : aLoadVar T0 W 3 pb i = some (.int .i64 (gI l i)) :=
  h.load1 (T := T0) und3 rfl (j := i) (v := .int .i64 (gI l i)) (by rw [vI, List.getElem?_map, gI_some hi]; rfl)
theorem varP_store {W : AW} {pb : Nat} {l : List Int} (h : Var W pb 3 (vI l)) {i : Nat} (hi : i < l.length) (x : Int) : ∃ W', aStoreVar T0 W 3 pb i (.int .i64 x) = some W' ∧ W'.next = W.next ∧ Only (fun b => b = pb) W W' ∧ Var W' pb 3 (vI (l.set i x)) := by
  obtain ⟨W', g1, g2, g3, g4⟩ := var_store1 (t := 3) (v := .int .i64 x) (o := i) h inf3 is3 rfl rfl (by rw [vI_len]; exact hi)
  refine ⟨W', g1, g2, g3, ?_⟩
  rw [vI, ← List.map_set] at g4
  exact g4
theorem varP_row {W : AW} {p n : Nat} {l : List Int} (h : Var W p 3 (vI l)) (hn : l.length = n) : IntN W (.slice (some ⟨p, 0, none⟩) n (2 * n)) l := by
  rw [vI_flat] at h
  have := Var.row (enc := encI .i64) (l := l) (c := 2 * n) encI_len h
  rw [hn] at this; exact this
open Classical in
theorem pairJudges_wp {W : AW} {v pv bv : Value} (P : Int) {es : List Edge} {lp lb : List Int} (h : PairR W v es) (hp : IntN W pv lp) (hb : IntN W bv lb) (hSp : SlOk pv lp.length) (hSb : SlOk bv lb.length)
    (hl : es.length < 9223372036854775808) (hlp : lp.length < 9223372036854775808) (hlb : lb.length < 9223372036854775808) (htb : tabsIn T0 T0.tabs W = true) (hW0 : 0 < W.next) :
    WpF T0 5 [.agg ⟨[.int .i64 P, v]⟩, pv, bv] W (fun u _ => u = .bool true) := by
  refine wpF fun5 rfl ?_
  obtain ⟨W1, hW1, hE1, hV⟩ : ∃ W1, W1 = W.newCells 24 [.int .i64 P, v] ∧ Ext W W1 ∧ Var W1 W.next 24 [.int .i64 P, v] := ⟨_, rfl, .newCells _ _ _, Var.new _ _ _⟩
  have hl1 := load24 hV
  obtain ⟨Ap, cp, hpv⟩ := hp.len
  obtain ⟨Ab, cb, hbv⟩ := hb.len
  have lpv : ∀ W', aLen T0 W' 31 pv = some (.int .i64 (lp.length : Int)) := fun W' => by rw [hpv]; exact len_slice und31 _ _ _
  have lbv : ∀ W', aLen T0 W' 31 bv = some (.int .i64 (lb.length : Int)) := fun W' => by rw [hbv]; exact len_slice und31 _ _ _
  try simp only [wpK_assoc]
  refine wpK_reg (fun R hR => by simp [← hW1]; exact hR) ?_
  try simp only [wpK_assoc]
  refine wpK_x4 (P := fun (n : Nat) (ov : Value) (xs : List Edge) (p7 : Nat) W' => Ext W1 W' ∧ 1 ≤ n ∧ n ≤ 7 ∧ GraphOk (n : Int) xs ∧ xs.length ≤ 12 ∧ PairR W' ov xs ∧ Var W' p7 24 [.int .i64 (n : Int), ov]) (fun R hR => by
    simp [hl1, aEnter, fun23, short_other, aCallV]; rw [callS_none]
    refine (tame_wp P (h.ext hE1) hl).mono ?_
    rintro _ Wt ⟨hEt, n, ov, xs, rfl, q1, q2, q3, q4, q5⟩
    obtain ⟨Ao, co, hov⟩ := q5.len
    obtain ⟨Wu, g1, g2, g3, g4⟩ := storeVar_new (T := T0) (W := Wt) (t := 24) (v := .agg ⟨[.int .i64 (n : Int), ov]⟩) (z := [.int .i64 0, .slice none 0 0]) inf24 (by rw [is24]; rfl) (by rw [is24]; rfl) (by rw [hov]; rfl)
    obtain ⟨pn, hpn⟩ : ∃ p, Wt.next = p := ⟨_, rfl⟩
    rw [hpn] at g1 g4
    simp [zero24, hpn, g1]
    exact hR n ov xs pn Wu (And.intro (hEt.trans g3) (And.intro q1 (And.intro q2 (And.intro q3 (And.intro q4 (And.intro (q5.ext g3) (by simpa using g4)))))))) ?_
  rintro n ov xs p7 W2 ⟨hE2, hn1, hn7, hgr, hx12, hR2, hV7⟩
  have hl7 := load24 hV7
  obtain ⟨Ao, co, hov⟩ := hR2.len
  try simp only [wpK_assoc]
  refine wpK_x1 (P := fun (p8 : Nat) W' => Ext W2 W' ∧ Var W' p8 25 [.int .i64 (n : Int), ov]) (fun R hR => by
    simp [hl7, aEnter, fun13, short_other, aCallV]; rw [callS_none]
    refine (give_wp (n : Int) hR2).mono ?_
    rintro _ Wt ⟨hEt, rfl⟩
    obtain ⟨Wu, g1, g2, g3, g4⟩ := storeVar_new (T := T0) (W := Wt) (t := 25) (v := .agg ⟨[.int .i64 (n : Int), ov]⟩) (z := [.int .i64 0, .slice none 0 0]) inf25 (by rw [is25]; rfl) (by rw [is25]; rfl) (by rw [hov]; rfl)
    obtain ⟨pn, hpn⟩ : ∃ p, Wt.next = p := ⟨_, rfl⟩
    rw [hpn] at g1 g4
    simp [zero25, hpn, g1]
    exact hR pn Wu (And.intro (hEt.trans g3) (by simpa using g4))) ?_
  rintro p8 W3 ⟨hE3, hV8⟩
  have hE03 := (hE1.trans hE2).trans hE3
  try simp only [wpK_assoc]
  refine wpK_x4 (P := fun (u1 u2 : Value) (l1 l2 : List Int) W' => Ext W3 W' ∧ IntN W' u1 l1 ∧ l1.length ≤ 9 ∧ IntN W' u2 l2 ∧ l2.length ≤ 9) (fun R hR => by
    simp [aEnter, fun32, short_other, aCallV]; rw [callS_none]
    refine (raw_wp hSp (hp.ext hE03) hlp 9 (by omega)).mono ?_
    rintro u1 Wa ⟨hEa, l1, r1, r2⟩
    simp [aEnter, fun32, short_other, aCallV]; rw [callS_none]
    refine (raw_wp hSb ((hb.ext hE03).ext hEa) hlb 9 (by omega)).mono ?_
    rintro u2 Wb ⟨hEb, l2, r3, r4⟩
    simp
    exact hR u1 u2 l1 l2 Wb (And.intro (hEa.trans hEb) (And.intro (r1.ext hEb) (And.intro r2 (And.intro r3 r4))))) ?_
  rintro u1 u2 l1 l2 W4 ⟨hE4, hI1, hl19, hI2, hl29⟩
  try simp only [wpK_assoc]
  refine wpK_reg (fun R hR => by simp [lbv]; exact hR) ?_
  try simp only [wpK_assoc]
  refine wpK_reg (fun R hR => by simp []; exact hR) ?_
  have hE04 := hE03.trans hE4
  have hV74 := (hV7.ext hE3).ext hE4
  have hV84 := hV8.ext hE4
  have hR4 := (hR2.ext hE3).ext hE4
  have g0 : ∀ W', Ext W4 W' → aLoadVar T0 W' 3 p7 0 = some (.int .i64 (n : Int)) := fun W' hE => (hV74.ext hE).load1 (T := T0) und3 rfl (j := 0) (v := .int .i64 (n : Int)) rfl
  have g1 : ∀ W', Ext W4 W' → aLoadVar T0 W' 22 p7 1 = some ov := fun W' hE => (hV74.ext hE).load1 (T := T0) und22 rfl (j := 1) (v := ov) rfl
  have g24 : ∀ W', Ext W4 W' → aLoadVar T0 W' 24 p7 0 = some (.agg ⟨[.int .i64 (n : Int), ov]⟩) := fun W' hE => load24 (hV74.ext hE)
  have g25 : ∀ W', Ext W4 W' → aLoadVar T0 W' 25 p8 0 = some (.agg ⟨[.int .i64 (n : Int), ov]⟩) := fun W' hE => load25 (hV84.ext hE)
  have lov : ∀ W', aLen T0 W' 22 ov = some (.int .i64 xs.length) := fun W' => by rw [hov]; exact len_slice und22 _ _ _
  try simp only [wpK_assoc]
  refine wpK_while (I := fun k A' W' => A'.n = 198 ∧ A'.defers = [] ∧ A'.tmps.get 1 = some (pv) ∧ A'.tmps.get 2 = some (bv) ∧ A'.tmps.get 7 = some (.pointer (some ⟨p7, 0, none⟩)) ∧ A'.tmps.get 8 = some (.pointer (some ⟨p8, 0, none⟩)) ∧ Ext W4 W' ∧ ∃ (c : Nat) (u9 u10 : Value) (l9 l10 : List Int) (k11 : Int), A'.tmps.get 12 = some (.int .i64 (c : Int)) ∧ A'.tmps.get 9 = some u9 ∧ A'.tmps.get 10 = some u10 ∧ A'.tmps.get 11 = some (.int .i64 k11) ∧ k = 3 - c ∧ c ≤ 3 ∧ IntN W' u9 l9 ∧ l9.length ≤ 9 ∧ IntN W' u10 l10 ∧ l10.length ≤ 9)
    (J := fun A' W' => A'.n = 198 ∧ A'.defers = [] ∧ A'.tmps.get 1 = some (pv) ∧ A'.tmps.get 2 = some (bv) ∧ A'.tmps.get 7 = some (.pointer (some ⟨p7, 0, none⟩)) ∧ A'.tmps.get 8 = some (.pointer (some ⟨p8, 0, none⟩)) ∧ Ext W4 W') (Rt := fun _ _ => False) (k := 3) ?_ ?_ ?_ ?_
  · exact ⟨rfl, rfl, by simp, by simp, by simp, by simp, .refl _ _, 0, u1, u2, l1, l2, _, by simp, by simp, by simp, by simp; rfl, rfl, by omega, hI1, hl19, hI2, hl29⟩
  · rintro k ⟨tm, n, ds⟩ Wa ⟨hn, hd, h1, h2, h7, h8, hEa, c, u9, u10, l9, l10, k11, h12, h9, h10, h11, hk, hc3, hI9, hl9, hI10, hl10⟩ Q' hJ hRt hI
    simp only at hn hd h1 h2 h7 h8
    subst hn; subst hd
    simp only at h12 h9 h10 h11
    by_cases hlt : c < 3
    case neg =>
      have e : c = 3 := by omega
      subst e
      try simp only [wpK_assoc]
      refine wpK_reg (fun R hR => by simp [h12]; exact hR) ?_
      try simp only [wpK_assoc]
      first | refine wpK_onF (by simp []) ?_ | refine wpK_out (by simp []) ?_ | refine wpK_condF (by simp []) ?_ | refine wpK_endF (by simp []) (wpK_skip ?_) | refine wpK_endF (by simp []) ?_
      exact hJ _ _ ⟨rfl, rfl, by simp [h1, h2, h7, h8], by simp [h1, h2, h7, h8], by simp [h1, h2, h7, h8], by simp [h1, h2, h7, h8], hEa⟩
    have hlt' : (c : Int) < 3 := by omega
    try simp only [wpK_assoc]
    refine wpK_reg (fun R hR => by simp [h12, hlt']; exact hR) ?_
    try simp only [wpK_assoc]
    first | refine wpK_onT (by simp [hlt]) ?_ | refine wpK_outT (by simp [hlt]) ?_ | refine wpK_condT (by simp [hlt]) ?_ | refine wpK_endT (by simp [hlt]) ?_
    have hRa := hR4.ext hEa
    refine wpK_block ?_
    try simp only [wpK_assoc]
    refine wpK_x2 (fun R hR => by
        simp [h8, h9, g25, hEa, opExtract, aExtract, aEnter, fun21, short_other, aCallV]; rw [callS_none]
        refine (isPairing_ok hRa (by omega) hgr hI9 (by omega)).mono ?_
        rintro _ Wb ⟨hEb, kk, bb, rfl, hP1⟩
        simp [h8, h9, g25, hEa, opExtract, aExtract]; exact hR kk bb Wb (And.intro hEb hP1)) ?_
    rintro kk bb Wb ⟨hEb, hP1⟩
    have hEab := hEa.trans hEb
    try simp only [wpK_assoc]
    refine wpK_x2 (fun R hR => by
        simp [h7, h9, g24, hEab, opExtract, aExtract, aEnter, fun26, short_other, aCallV]; rw [callS_none]
        refine (refPairing_ok (hRa.ext hEb) (by omega) hgr (hI9.ext hEb) (by omega)).mono ?_
        rintro _ Wc ⟨hEc, kk2, bb2, rfl, hP2⟩
        simp [h7, h9, g24, hEab, opExtract, aExtract]; exact hR kk2 bb2 Wc (And.intro hEc hP2)) ?_
    rintro kk2 bb2 Wc ⟨hEc, hP2⟩
    obtain ⟨ek, eb⟩ := hP1.one hP2
    subst ek; subst eb
    have hEac := hEab.trans hEc
    have hRc := (hRa.ext hEb).ext hEc
    have hI10c := (hI10.ext hEb).ext hEc
    have htbc := tabs_ext htb hW0 (hE04.trans hEac)
    have hncp : 0 < Wc.next := by have := (hE04.trans hEac).1; omega
    have ecc : Ext W4 Wc := hEac
    have vo := row_eq hRc
    have v10 := row_eq hI10c
    try simp only [wpK_assoc]
    refine wpK_d1 (wr := Tr.nil |>.set 50 0 |>.set 51 1 |>.set 52 2 |>.set 53 3 |>.set 54 4 |>.set 55 5 |>.set 56 6 |>.set 57 7 |>.set 58 8 |>.set 59 9 |>.set 60 10 |>.set 61 11 |>.set 62 12 |>.set 63 13 |>.set 64 14 |>.set 65 15 |>.set 66 16 |>.set 67 17 |>.set 68 18) (bits := Tr.nil.lay 0 [0, 0, 3, 7, 15, 15, 63, 127, 255, 511, 511, 511, 4095, 511, 511, 511, 65535, 131071, 262143]) (ord := [0, 1, 2, 3, 4, 5, 6, 7, 8, 9, 10, 11, 12, 13, 14, 15, 16, 17, 18]) (by kernel_rfl) (by kernel_rfl) (by kernel_rfl) (fun G hG => by
      simp [h7, h8, h10, h11, g24, g25, ecc, vo, v10, aGuard, aBinO, aEq, und4, undef, aEnter, fun22, short_other, aCallV]
      rw [dcallS_none]
      refine (isBarrier_ok hRc (by omega) hgr (by omega) hI10c (by omega) htbc hncp k11).mono ?_
      rintro _ Wd ⟨hEd, b3, rfl, hb3⟩
      simp [hEd.1, hEac.trans hEd, h7, h8, h10, h11, g24, g25, ecc, vo, v10, aGuard, aBinO, aEq, und4, undef, aEnter, fun27, short_other, aCallV]
      rw [dcallS_none]
      refine (refBarrier_ok (hRc.ext hEd) (by omega) hgr (by omega) (hI10c.ext hEd) (by omega) k11).mono ?_
      rintro _ We ⟨hEe, b4, rfl, hb4⟩
      have e34 : b3 = b4 := by
        have := hb3.trans hb4.symm
        cases b3 <;> cases b4 <;> simp_all
      subst e34
      simp [hEe.1, hEac.trans hEd, (hEac.trans hEd).trans hEe, h7, h8, h10, h11, g24, g25, ecc, vo, v10, aGuard, aBinO, aEq, und4, undef]
      exact hG b3 We (hEd.trans hEe)) ?_
    rintro b3 Wd hEd
    try simp only [wpK_assoc]
    first | refine wpK_onF (by simp []) ?_ | refine wpK_out (by simp []) ?_ | refine wpK_condF (by simp []) ?_ | refine wpK_endF (by simp []) (wpK_skip ?_) | refine wpK_endF (by simp []) ?_
    have hEad := hEac.trans hEd
    have hnd0 := hEad.1
    refine wpK_keep (fun tm' => tm'.get 1 = some (pv) ∧ tm'.get 2 = some (bv) ∧ tm'.get 7 = some (.pointer (some ⟨p7, 0, none⟩)) ∧ tm'.get 8 = some (.pointer (some ⟨p8, 0, none⟩)) ∧ tm'.get 12 = some (.int .i64 (c : Int))) ⟨by simp [h1, h2, h7, h8, h12], by simp [h1, h2, h7, h8, h12], by simp [h1, h2, h7, h8, h12], by simp [h1, h2, h7, h8, h12], by simp [h1, h2, h7, h8, h12]⟩ ?_
    rintro tm ⟨h1, h2, h7, h8, h12⟩
    have hmk := mk31 Wd n (by omega)
    obtain ⟨We, hWe, hEe, hVe⟩ : ∃ We, We = Wd.newCells 3 (vI (List.replicate n 0)) ∧ Ext Wd We ∧ Var We Wd.next 3 (vI (List.replicate n 0)) := ⟨_, rfl, .newCells _ _ _, Var.new _ _ _⟩
    rw [← hWe] at hmk
    obtain ⟨pm, hpm⟩ : ∃ p, p = Wd.next := ⟨_, rfl⟩
    rw [← hpm] at hmk hVe
    obtain ⟨sm, hsm⟩ : ∃ s : Value, s = .slice (some ⟨pm, 0, none⟩) n (2 * n) := ⟨_, rfl⟩
    rw [← hsm] at hmk
    have lsm : ∀ W', aLen T0 W' 31 sm = some (.int .i64 (n : Int)) := fun W' => by rw [hsm]; exact len_slice und31 _ _ _
    have ixm : ∀ q : Nat, q < n → aIndexAddr T0 31 sm (.int .i64 (q : Int)) = some (.pointer (some ⟨pm, q, none⟩)) := fun q hq => by rw [hsm]; exact ixC pm n (2 * n) q .i64 hq
    try simp only [wpK_assoc]
    refine wpK_reg (fun R hR => by simp [h7, g0, hEad, opMakeSlice, hmk]; exact hR) ?_
    try simp only [wpK_assoc]
    refine wpK_reg (fun R hR => by simp []; exact hR) ?_
    have hEae := hEad.trans hEe
    try simp only [wpK_assoc]
    refine wpK_while (I := fun k A' W' => A'.n = 198 ∧ A'.defers = [] ∧ A'.tmps.get 1 = some (pv) ∧ A'.tmps.get 2 = some (bv) ∧ A'.tmps.get 7 = some (.pointer (some ⟨p7, 0, none⟩)) ∧ A'.tmps.get 8 = some (.pointer (some ⟨p8, 0, none⟩)) ∧ A'.tmps.get 9 = some (sm) ∧ A'.tmps.get 12 = some (.int .i64 (c : Int)) ∧ Ext W4 W' ∧ ∃ (i : Nat) (l : List Int), A'.tmps.get 17 = some (.int .i64 (i : Int)) ∧ k = n - i ∧ i ≤ n ∧ l.length = n ∧ Var W' pm 3 (vI l))
      (J := fun A' W' => A'.n = 198 ∧ A'.defers = [] ∧ A'.tmps.get 1 = some (pv) ∧ A'.tmps.get 2 = some (bv) ∧ A'.tmps.get 7 = some (.pointer (some ⟨p7, 0, none⟩)) ∧ A'.tmps.get 8 = some (.pointer (some ⟨p8, 0, none⟩)) ∧ A'.tmps.get 9 = some (sm) ∧ A'.tmps.get 12 = some (.int .i64 (c : Int)) ∧ Ext W4 W' ∧ ∃ (l : List Int), l.length = n ∧ Var W' pm 3 (vI l)) (Rt := fun _ _ => False) (k := n) ?_ ?_ ?_ ?_
    · exact ⟨rfl, rfl, by simp [h1, h2, h7, h8, h12], by simp [h1, h2, h7, h8, h12], by simp [h1, h2, h7, h8, h12], by simp [h1, h2, h7, h8, h12], by simp [h1, h2, h7, h8, h12], by simp [h1, h2, h7, h8, h12], hEae, 0, _, by simp, rfl, by omega, by simp, hVe⟩
    · rintro k ⟨tm, n, ds⟩ Wf ⟨hn, hd, h1, h2, h7, h8, h9, h12, hEf, i, l, h17, hk, hin, hll, hVf⟩ Q2 hJ2 hRt2 hI2
      simp only at hn hd h1 h2 h7 h8 h9 h12
      subst hn; subst hd
      simp only at h17
      by_cases hli : i < n
      case neg =>
        have e : i = n := by omega
        subst e
        try simp only [wpK_assoc]
        refine wpK_reg (fun R hR => by simp [h9, h17, lsm]; exact hR) ?_
        try simp only [wpK_assoc]
        first | refine wpK_onF (by simp []) ?_ | refine wpK_out (by simp []) ?_ | refine wpK_condF (by simp []) ?_ | refine wpK_endF (by simp []) (wpK_skip ?_) | refine wpK_endF (by simp []) ?_
        exact hJ2 _ _ ⟨rfl, rfl, by simp [h1, h2, h7, h8, h9, h12], by simp [h1, h2, h7, h8, h9, h12], by simp [h1, h2, h7, h8, h9, h12], by simp [h1, h2, h7, h8, h9, h12], by simp [h1, h2, h7, h8, h9, h12], by simp [h1, h2, h7, h8, h9, h12], hEf, l, hll, hVf⟩
      have hli' : (i : Int) < n := by omega
      try simp only [wpK_assoc]
      refine wpK_reg (fun R hR => by simp [h9, h17, lsm, hli']; exact hR) ?_
      try simp only [wpK_assoc]
      first | refine wpK_onT (by simp [hli]) ?_ | refine wpK_outT (by simp [hli]) ?_ | refine wpK_condT (by simp [hli]) ?_ | refine wpK_endT (by simp [hli]) ?_
      have i1 := ixm i hli
      obtain ⟨Wg, s1, s2, s3, s4⟩ := varP_store hVf (i := i) (by omega) (-1)
      have hnf := hEf.1
      refine wpK_block ?_
      try simp only [wpK_assoc]
      refine wpK_reg1 (fun R hR => by simp [h9, h17, i1, s1]; exact hR) ?_
      simp only [leaves_normal, behind_normal]
      refine wpK_keep (fun tm' => tm'.get 1 = some (pv) ∧ tm'.get 2 = some (bv) ∧ tm'.get 7 = some (.pointer (some ⟨p7, 0, none⟩)) ∧ tm'.get 8 = some (.pointer (some ⟨p8, 0, none⟩)) ∧ tm'.get 9 = some (sm) ∧ tm'.get 12 = some (.int .i64 (c : Int)) ∧ tm'.get 17 = some (.int .i64 (i : Int))) ⟨by simp [h1, h2, h7, h8, h9, h12, h17], by simp [h1, h2, h7, h8, h9, h12, h17], by simp [h1, h2, h7, h8, h9, h12, h17], by simp [h1, h2, h7, h8, h9, h12, h17], by simp [h1, h2, h7, h8, h9, h12, h17], by simp [h1, h2, h7, h8, h9, h12, h17], by simp [h1, h2, h7, h8, h9, h12, h17]⟩ ?_
      rintro tm ⟨h1, h2, h7, h8, h9, h12, h17⟩
      try simp only [wpK_assoc]
      refine wpK_reg1 (fun R hR => by simp [h17]; exact hR) ?_
      exact hI2 (n - (i + 1)) _ _ (by omega) ⟨rfl, rfl, by simp [h1, h2, h7, h8, h9, h12], by simp [h1, h2, h7, h8, h9, h12], by simp [h1, h2, h7, h8, h9, h12], by simp [h1, h2, h7, h8, h9, h12], by simp [h1, h2, h7, h8, h9, h12], by simp [h1, h2, h7, h8, h9, h12], ⟨by omega, fun b hb hk => by rw [s3.2 b (by omega) (by omega)]; exact hEf.2 b hb hk⟩, i + 1, _, by simp [i64_succ i (by omega)], rfl, by omega, by simp [hll], s4⟩
    · rintro A' W' hf; exact hf.elim
    rintro ⟨tm, n, ds⟩ Wf ⟨hn, hd, h1, h2, h7, h8, h9, h12, hEf, l, hll, hVf⟩
    simp only at hn hd h1 h2 h7 h8 h9 h12
    subst hn; subst hd
    try simp only [wpK_assoc]
    refine wpK_reg (fun R hR => by simp []; exact hR) ?_
    try simp only [wpK_assoc]
    refine wpK_while (I := fun k A' W' => A'.n = 198 ∧ A'.defers = [] ∧ A'.tmps.get 1 = some (pv) ∧ A'.tmps.get 2 = some (bv) ∧ A'.tmps.get 7 = some (.pointer (some ⟨p7, 0, none⟩)) ∧ A'.tmps.get 8 = some (.pointer (some ⟨p8, 0, none⟩)) ∧ A'.tmps.get 9 = some (sm) ∧ A'.tmps.get 12 = some (.int .i64 (c : Int)) ∧ Ext W4 W' ∧ ∃ (i : Nat) (l : List Int), A'.tmps.get 18 = some (.int .i64 (i : Int)) ∧ k = lp.length - i ∧ i ≤ lp.length ∧ l.length = n ∧ Var W' pm 3 (vI l))
      (J := fun A' W' => A'.n = 198 ∧ A'.defers = [] ∧ A'.tmps.get 1 = some (pv) ∧ A'.tmps.get 2 = some (bv) ∧ A'.tmps.get 7 = some (.pointer (some ⟨p7, 0, none⟩)) ∧ A'.tmps.get 8 = some (.pointer (some ⟨p8, 0, none⟩)) ∧ A'.tmps.get 9 = some (sm) ∧ A'.tmps.get 12 = some (.int .i64 (c : Int)) ∧ Ext W4 W' ∧ ∃ (l : List Int), l.length = n ∧ Var W' pm 3 (vI l)) (Rt := fun _ _ => False) (k := lp.length) ?_ ?_ ?_ ?_
    · exact ⟨rfl, rfl, by simp [h1, h2, h7, h8, h9, h12], by simp [h1, h2, h7, h8, h9, h12], by simp [h1, h2, h7, h8, h9, h12], by simp [h1, h2, h7, h8, h9, h12], by simp [h1, h2, h7, h8, h9, h12], by simp [h1, h2, h7, h8, h9, h12], hEf, 0, l, by simp, rfl, by omega, hll, hVf⟩
    · clear hll hVf hEf
      rintro k ⟨tm, n, ds⟩ Wg ⟨hn, hd, h1, h2, h7, h8, h9, h12, hEg, i, l, h18, hk, hin, hll, hVg⟩ Q2 hJ2 hRt2 hI2
      simp only at hn hd h1 h2 h7 h8 h9 h12
      subst hn; subst hd
      simp only at h18
      have hng := hEg.1
      by_cases hli : i < lp.length
      case neg =>
        have e : i = lp.length := by omega
        subst e
        try simp only [wpK_assoc]
        refine wpK_reg (fun R hR => by simp [h1, h18, lpv]; exact hR) ?_
        try simp only [wpK_assoc]
        first | refine wpK_onF (by simp []) ?_ | refine wpK_out (by simp []) ?_ | refine wpK_condF (by simp []) ?_ | refine wpK_endF (by simp []) (wpK_skip ?_) | refine wpK_endF (by simp []) ?_
        exact hJ2 _ _ ⟨rfl, rfl, by simp [h1, h2, h7, h8, h9, h12], by simp [h1, h2, h7, h8, h9, h12], by simp [h1, h2, h7, h8, h9, h12], by simp [h1, h2, h7, h8, h9, h12], by simp [h1, h2, h7, h8, h9, h12], by simp [h1, h2, h7, h8, h9, h12], hEg, l, hll, hVg⟩
      have hli' : (i : Int) < lp.length := by omega
      try simp only [wpK_assoc]
      refine wpK_reg (fun R hR => by simp [h1, h18, lpv, hli']; exact hR) ?_
      try simp only [wpK_assoc]
      first | refine wpK_onT (by simp [hli]) ?_ | refine wpK_outT (by simp [hli]) ?_ | refine wpK_condT (by simp [hli]) ?_ | refine wpK_endT (by simp [hli]) ?_
      refine wpK_block ?_
      by_cases hx0 : xs.length = 0
      · have hx0' : (xs.length : Int) = 0 := by omega
        try simp only [wpK_assoc]
        refine wpK_reg (fun R hR => by simp [h7, g1, hEg, lov, hx0']; exact hR) ?_
        try simp only [wpK_assoc]
        first | refine wpK_onT (by simp [hx0]) ?_ | refine wpK_outT (by simp [hx0]) ?_ | refine wpK_condT (by simp [hx0]) ?_ | refine wpK_endT (by simp [hx0]) ?_
        simp only [leaves_exit, behind_exit]
        rw [if_neg (by omega)]
        exact hJ2 _ _ ⟨rfl, rfl, by simp [h1, h2, h7, h8, h9, h12], by simp [h1, h2, h7, h8, h9, h12], by simp [h1, h2, h7, h8, h9, h12], by simp [h1, h2, h7, h8, h9, h12], by simp [h1, h2, h7, h8, h9, h12], by simp [h1, h2, h7, h8, h9, h12], hEg, l, hll, hVg⟩
      have hx0' : ¬ (xs.length : Int) = 0 := by omega
      have hx0n : xs ≠ [] := fun e => hx0 (by rw [e]; rfl)
      try simp only [wpK_assoc]
      refine wpK_reg (fun R hR => by simp [h7, g1, hEg, lov, hx0']; exact hR) ?_
      try simp only [wpK_assoc]
      first | refine wpK_onF (by simp [hx0, hx0n]) ?_ | refine wpK_out (by simp [hx0, hx0n]) ?_ | refine wpK_condF (by simp [hx0, hx0n]) ?_ | refine wpK_endF (by simp [hx0, hx0n]) (wpK_skip ?_) | refine wpK_endF (by simp [hx0, hx0n]) ?_
      have hRg := hR4.ext hEg
      obtain ⟨bx, px, x1, _, x3⟩ := int_at31 (hp.ext (hE04.trans hEg)) (gI_some (l := lp) (i := i) hli)
      have x2 : ∀ W', Ext Wg W' → aLoadVar T0 W' 3 bx px = some (.int .i64 (gI lp i)) := fun W' hE => load_of und3 rfl (x3.ext hE)
      have x20 := x2 Wg (.refl _ _)
      generalize gI lp i = z at x2 x20
      obtain ⟨y0, hy0⟩ : ∃ y0 : Nat, IntKind.u64.wrap z = (y0 : Int) := ⟨(IntKind.u64.wrap z).toNat, by rw [IntKind.wrap_u64]; omega⟩
      have hwm : IntKind.u64.wrap (xs.length : Int) = (xs.length : Int) := u64_nat (by omega)
      have r2 := aBinI_rem .u64 (y0 : Int) (xs.length : Int) (by omega)
      rw [ofNat_tmod] at r2
      have hqn : y0 % xs.length < xs.length := Nat.mod_lt _ (by omega)
      generalize y0 % xs.length = q at r2 hqn
      have hwq : IntKind.i64.wrap (q : Int) = (q : Int) := i64_in (by omega)
      obtain ⟨⟨ea, eb⟩, hab⟩ : ∃ e : Edge, xs[q] = e := ⟨_, rfl⟩
      have hxq : xs[q]? = some (ea, eb) := by rw [List.getElem?_eq_getElem hqn, hab]
      obtain ⟨q2, o2, hx2, hh2⟩ := hRg.at (T := T0) hxq und22 sz55 .i64
      have lxy : ∀ W', Ext Wg W' → aLoadVar T0 W' 55 q2 o2 = some (.agg ⟨[.int .i64 ea, .int .i64 eb]⟩) := fun W' hE => load55 (fun j u hu => (hh2 j u hu).ext hE)
      have lxy0 := lxy Wg (.refl _ _)
      obtain ⟨gea, gea2, geb, geb2, _, _⟩ := hgr.2.2.2 q hqn ea eb hxq
      obtain ⟨a, rfl⟩ : ∃ a : Nat, ea = (a : Int) := ⟨ea.toNat, by omega⟩
      obtain ⟨b, rfl⟩ : ∃ b : Nat, eb = (b : Int) := ⟨eb.toNat, by omega⟩
      have ov' := row_eq hRg
      have vpv := row_eq hp
      obtain ⟨Wz, hWz, hEz, hVz⟩ : ∃ Wz, Wz = Wg.newCells 55 [.int .i64 0, .int .i64 0] ∧ Ext Wg Wz ∧ Var Wz Wg.next 55 [.int .i64 0, .int .i64 0] := ⟨_, rfl, .newCells _ _ _, Var.new _ _ _⟩
      have hnz : Wz.next = Wg.next + 1 := by rw [hWz]; rfl
      have fr := freshB_var hVz rfl
      obtain ⟨Wy, s1, s2, s3, s4⟩ := hVz.store (T := T0) (t := 55) (v := .agg ⟨[.int .i64 (a : Int), .int .i64 (b : Int)]⟩) (o := 0) inf55 (by rw [is55]; rfl) (by simp) rfl
      have s4 : Var Wy Wg.next 55 [.int .i64 (a : Int), .int .i64 (b : Int)] := by simpa using s4
      have hEgz := hEg.trans hEz
      have hEy : Ext Wg Wy := ⟨by omega, fun b hb hk => by rw [s3.2 b (by omega) (by omega)]; exact hEz.2 b hb hk⟩
      obtain ⟨pe, hpe⟩ : ∃ p, p = Wg.next := ⟨_, rfl⟩
      try simp only [wpK_assoc]
      refine wpK_dn (wr := Tr.nil |>.set 91 0 |>.set 92 1 |>.set 93 2 |>.set 94 3 |>.set 95 4 |>.set 96 5 |>.set 97 6 |>.set 98 7 |>.set 99 8 |>.set 100 9 |>.set 101 10 |>.set 102 11 |>.set 103 12 |>.set 104 13 |>.set 105 14 |>.set 19 15) (bits := Tr.nil.lay 0 [0, 1, 0, 0, 12, 28, 60, 0, 128, 384, 896, 2044, 4092, 8191, 16383, 0, 65535]) (ord := [0, 1, 2, 3, 4, 5, 6, 7, 8, 9, 10, 11, 12, 13, 14, 15, 16]) (by kernel_rfl) (by kernel_rfl) (by kernel_rfl) (fun G hG => by
        simp [h1, h7, h18, g1, hEg, hEgz, hEz, x1, x2, x20, lov, conv_3_56, conv_56_3, hy0, hwm, r2, hwq, hx2, lxy, lxy0, ov', vpv, zero55, aFlt, AFlt.val, ← hWz, fr, s1, s2, hnz]
        exact hG) ?_
      rw [← hpe] at s4
      refine wpK_keep (fun tm' => tm'.get 1 = some (pv) ∧ tm'.get 2 = some (bv) ∧ tm'.get 7 = some (.pointer (some ⟨p7, 0, none⟩)) ∧ tm'.get 8 = some (.pointer (some ⟨p8, 0, none⟩)) ∧ tm'.get 9 = some (sm) ∧ tm'.get 12 = some (.int .i64 (c : Int)) ∧ tm'.get 18 = some (.int .i64 (i : Int)) ∧ tm'.get 19 = some (.pointer (some ⟨pe, 0, none⟩))) ⟨by simp [h1, h2, h7, h8, h9, h12, h18, hpe], by simp [h1, h2, h7, h8, h9, h12, h18, hpe], by simp [h1, h2, h7, h8, h9, h12, h18, hpe], by simp [h1, h2, h7, h8, h9, h12, h18, hpe], by simp [h1, h2, h7, h8, h9, h12, h18, hpe], by simp [h1, h2, h7, h8, h9, h12, h18, hpe], by simp [h1, h2, h7, h8, h9, h12, h18, hpe], by simp [h1, h2, h7, h8, h9, h12, h18, hpe]⟩ ?_
      rintro tm ⟨h1, h2, h7, h8, h9, h12, h18, h19⟩
      have hEgy := hEg.trans hEy
      have hVy := hVg.ext hEy
      have hpmg := hVg.1
      have e0 := s4.load1 (T := T0) und3 rfl (j := 0) (v := .int .i64 (a : Int)) rfl
      have e1 := s4.load1 (T := T0) und3 rfl (j := 1) (v := .int .i64 (b : Int)) rfl
      have ia := ixm a (by omega)
      have ib := ixm b (by omega)
      have da := varP_load hVy (i := a) (by omega)
      have db := varP_load hVy (i := b) (by omega)
      by_cases c1 : gI l a < 0
      case neg =>
        try simp only [wpK_assoc]
        refine wpK_reg (fun R hR => by simp [h9, h19, ix55_0, ix55_1, e0, e1, ia, da, c1, undef]; exact hR) ?_
        try simp only [wpK_assoc]
        first | refine wpK_onF (by simp []) ?_ | refine wpK_out (by simp []) ?_ | refine wpK_condF (by simp []) ?_ | refine wpK_endF (by simp []) (wpK_skip ?_) | refine wpK_endF (by simp []) ?_
        simp only [leaves_normal, behind_normal]
        refine wpK_keep (fun tm' => tm'.get 1 = some (pv) ∧ tm'.get 2 = some (bv) ∧ tm'.get 7 = some (.pointer (some ⟨p7, 0, none⟩)) ∧ tm'.get 8 = some (.pointer (some ⟨p8, 0, none⟩)) ∧ tm'.get 9 = some (sm) ∧ tm'.get 12 = some (.int .i64 (c : Int)) ∧ tm'.get 18 = some (.int .i64 (i : Int)) ∧ tm'.get 19 = some (.pointer (some ⟨pe, 0, none⟩))) ⟨by simp [h1, h2, h7, h8, h9, h12, h18, h19], by simp [h1, h2, h7, h8, h9, h12, h18, h19], by simp [h1, h2, h7, h8, h9, h12, h18, h19], by simp [h1, h2, h7, h8, h9, h12, h18, h19], by simp [h1, h2, h7, h8, h9, h12, h18, h19], by simp [h1, h2, h7, h8, h9, h12, h18, h19], by simp [h1, h2, h7, h8, h9, h12, h18, h19], by simp [h1, h2, h7, h8, h9, h12, h18, h19]⟩ ?_
        rintro tm ⟨h1, h2, h7, h8, h9, h12, h18, h19⟩
        try simp only [wpK_assoc]
        refine wpK_reg1 (fun R hR => by simp [h18]; exact hR) ?_
        exact hI2 (lp.length - (i + 1)) _ _ (by omega) ⟨rfl, rfl, by simp [h1, h2, h7, h8, h9, h12], by simp [h1, h2, h7, h8, h9, h12], by simp [h1, h2, h7, h8, h9, h12], by simp [h1, h2, h7, h8, h9, h12], by simp [h1, h2, h7, h8, h9, h12], by simp [h1, h2, h7, h8, h9, h12], hEgy, i + 1, l, by simp [i64_succ i (by omega)], rfl, by omega, hll, hVy⟩
      by_cases c2 : gI l b < 0
      case neg =>
        try simp only [wpK_assoc]
        refine wpK_reg (fun R hR => by simp [h9, h19, ix55_0, ix55_1, e0, e1, ia, ib, da, db, c1, c2, undef]; exact hR) ?_
        try simp only [wpK_assoc]
        first | refine wpK_onF (by simp []) ?_ | refine wpK_out (by simp []) ?_ | refine wpK_condF (by simp []) ?_ | refine wpK_endF (by simp []) (wpK_skip ?_) | refine wpK_endF (by simp []) ?_
        simp only [leaves_normal, behind_normal]
        refine wpK_keep (fun tm' => tm'.get 1 = some (pv) ∧ tm'.get 2 = some (bv) ∧ tm'.get 7 = some (.pointer (some ⟨p7, 0, none⟩)) ∧ tm'.get 8 = some (.pointer (some ⟨p8, 0, none⟩)) ∧ tm'.get 9 = some (sm) ∧ tm'.get 12 = some (.int .i64 (c : Int)) ∧ tm'.get 18 = some (.int .i64 (i : Int)) ∧ tm'.get 19 = some (.pointer (some ⟨pe, 0, none⟩))) ⟨by simp [h1, h2, h7, h8, h9, h12, h18, h19], by simp [h1, h2, h7, h8, h9, h12, h18, h19], by simp [h1, h2, h7, h8, h9, h12, h18, h19], by simp [h1, h2, h7, h8, h9, h12, h18, h19], by simp [h1, h2, h7, h8, h9, h12, h18, h19], by simp [h1, h2, h7, h8, h9, h12, h18, h19], by simp [h1, h2, h7, h8, h9, h12, h18, h19], by simp [h1, h2, h7, h8, h9, h12, h18, h19]⟩ ?_
        rintro tm ⟨h1, h2, h7, h8, h9, h12, h18, h19⟩
        try simp only [wpK_assoc]
        refine wpK_reg1 (fun R hR => by simp [h18]; exact hR) ?_
        exact hI2 (lp.length - (i + 1)) _ _ (by omega) ⟨rfl, rfl, by simp [h1, h2, h7, h8, h9, h12], by simp [h1, h2, h7, h8, h9, h12], by simp [h1, h2, h7, h8, h9, h12], by simp [h1, h2, h7, h8, h9, h12], by simp [h1, h2, h7, h8, h9, h12], by simp [h1, h2, h7, h8, h9, h12], hEgy, i + 1, l, by simp [i64_succ i (by omega)], rfl, by omega, hll, hVy⟩
      try simp only [wpK_assoc]
      refine wpK_reg (fun R hR => by simp [h9, h19, ix55_0, ix55_1, e0, e1, ia, ib, da, db, c1, c2, undef]; exact hR) ?_
      try simp only [wpK_assoc]
      first | refine wpK_onT (by simp []) ?_ | refine wpK_outT (by simp []) ?_ | refine wpK_condT (by simp []) ?_ | refine wpK_endT (by simp []) ?_
      obtain ⟨Wu, t1, t2, t3, t4⟩ := varP_store hVy (i := a) (by omega) (b : Int)
      have s5 := s4.only t3 (by omega)
      have e0' := s5.load1 (T := T0) und3 rfl (j := 0) (v := .int .i64 (a : Int)) rfl
      have e1' := s5.load1 (T := T0) und3 rfl (j := 1) (v := .int .i64 (b : Int)) rfl
      obtain ⟨Wv, w1, w2, w3, w4⟩ := varP_store t4 (i := b) (by simp; omega) (a : Int)
      try simp only [wpK_assoc]
      refine wpK_reg (fun R hR => by simp [h9, h19, ix55_0, ix55_1, e0, e1, ia, t1]; exact hR) ?_
      try simp only [wpK_assoc]
      refine wpK_reg1 (fun R hR => by simp [h9, h19, ix55_0, ix55_1, e0', e1', ib, w1]; exact hR) ?_
      simp only [leaves_normal, behind_normal]
      refine wpK_keep (fun tm' => tm'.get 1 = some (pv) ∧ tm'.get 2 = some (bv) ∧ tm'.get 7 = some (.pointer (some ⟨p7, 0, none⟩)) ∧ tm'.get 8 = some (.pointer (some ⟨p8, 0, none⟩)) ∧ tm'.get 9 = some (sm) ∧ tm'.get 12 = some (.int .i64 (c : Int)) ∧ tm'.get 18 = some (.int .i64 (i : Int)) ∧ tm'.get 19 = some (.pointer (some ⟨pe, 0, none⟩))) ⟨by simp [h1, h2, h7, h8, h9, h12, h18, h19], by simp [h1, h2, h7, h8, h9, h12, h18, h19], by simp [h1, h2, h7, h8, h9, h12, h18, h19], by simp [h1, h2, h7, h8, h9, h12, h18, h19], by simp [h1, h2, h7, h8, h9, h12, h18, h19], by simp [h1, h2, h7, h8, h9, h12, h18, h19], by simp [h1, h2, h7, h8, h9, h12, h18, h19], by simp [h1, h2, h7, h8, h9, h12, h18, h19]⟩ ?_
      rintro tm ⟨h1, h2, h7, h8, h9, h12, h18, h19⟩
      try simp only [wpK_assoc]
      refine wpK_reg1 (fun R hR => by simp [h18]; exact hR) ?_
      have hny := hEgy.1
      exact hI2 (lp.length - (i + 1)) _ _ (by omega) ⟨rfl, rfl, by simp [h1, h2, h7, h8, h9, h12], by simp [h1, h2, h7, h8, h9, h12], by simp [h1, h2, h7, h8, h9, h12], by simp [h1, h2, h7, h8, h9, h12], by simp [h1, h2, h7, h8, h9, h12], by simp [h1, h2, h7, h8, h9, h12], ⟨by omega, fun b hb hk => by rw [w3.2 b (by omega) (by omega), t3.2 b (by omega) (by omega)]; exact hEgy.2 b hb hk⟩, i + 1, _, by simp [i64_succ i (by omega)], rfl, by omega, by simp [hll], w4⟩
    · rintro A' W' hf; exact hf.elim
    clear hll hVf hEf
    rintro ⟨tm, n, ds⟩ Wf ⟨hn, hd, h1, h2, h7, h8, h9, h12, hEf, l, hll, hVf⟩
    simp only at hn hd h1 h2 h7 h8 h9 h12
    subst hn; subst hd
    try simp only [wpK_assoc]
    refine wpK_regc (J := fun A' W' => A'.n = 198 ∧ A'.defers = [] ∧ A'.tmps.get 1 = some (pv) ∧ A'.tmps.get 2 = some (bv) ∧ A'.tmps.get 7 = some (.pointer (some ⟨p7, 0, none⟩)) ∧ A'.tmps.get 8 = some (.pointer (some ⟨p8, 0, none⟩)) ∧ A'.tmps.get 9 = some (sm) ∧ A'.tmps.get 12 = some (.int .i64 (c : Int)) ∧ W' = Wf ∧ ∃ cb : Bool, A'.tmps.get 138 = some (.bool cb) ∧ (cb = true → 0 < lp.length)) (fun R hR => ?_) ?_
    · by_cases d1 : c = 1
      · subst d1
        by_cases d2 : 0 < lp.length
        · have d2' : (0 : Int) < lp.length := by omega
          simp [h1, h12, lpv, d2', d2]
          exact hR _ _ ⟨rfl, rfl, by simp [h1, h2, h7, h8, h9, h12], by simp [h1, h2, h7, h8, h9, h12], by simp [h1, h2, h7, h8, h9, h12], by simp [h1, h2, h7, h8, h9, h12], by simp [h1, h2, h7, h8, h9, h12], by simp [h1, h2, h7, h8, h9, h12], rfl, true, by simp, fun _ => d2⟩
        · have d2' : ¬ (0 : Int) < lp.length := by omega
          simp [h1, h12, lpv, d2', d2]
          exact hR _ _ ⟨rfl, rfl, by simp [h1, h2, h7, h8, h9, h12], by simp [h1, h2, h7, h8, h9, h12], by simp [h1, h2, h7, h8, h9, h12], by simp [h1, h2, h7, h8, h9, h12], by simp [h1, h2, h7, h8, h9, h12], by simp [h1, h2, h7, h8, h9, h12], rfl, false, by simp, fun h => (by cases h)⟩
      · have d1' : ¬ (c : Int) = 1 := by omega
        simp [h1, h12, lpv, d1', d1, undef]
        exact hR _ _ ⟨rfl, rfl, by simp [h1, h2, h7, h8, h9, h12], by simp [h1, h2, h7, h8, h9, h12], by simp [h1, h2, h7, h8, h9, h12], by simp [h1, h2, h7, h8, h9, h12], by simp [h1, h2, h7, h8, h9, h12], by simp [h1, h2, h7, h8, h9, h12], rfl, false, by simp, fun h => (by cases h)⟩
    rintro ⟨tm, n, ds⟩ W9 ⟨hn, hd, h1, h2, h7, h8, h9, h12, e9, cb, h138, hcb⟩
    simp only at hn hd h1 h2 h7 h8 h9 h12
    subst hn; subst hd
    subst W9
    simp only at h138
    try simp only [wpK_assoc]
    refine wpK_cut (J := fun A' W' => A'.n = 198 ∧ A'.defers = [] ∧ A'.tmps.get 1 = some (pv) ∧ A'.tmps.get 2 = some (bv) ∧ A'.tmps.get 7 = some (.pointer (some ⟨p7, 0, none⟩)) ∧ A'.tmps.get 8 = some (.pointer (some ⟨p8, 0, none⟩)) ∧ A'.tmps.get 9 = some (sm) ∧ A'.tmps.get 12 = some (.int .i64 (c : Int)) ∧ Ext W4 W' ∧ ∃ l : List Int, l.length = n ∧ Var W' pm 3 (vI l)) (fun Q4 hQ4 => ?_) ?_
    · cases cb with
      | false =>
        try simp only [wpK_assoc]
        first | refine wpK_onF (by simp [h138]) ?_ | refine wpK_out (by simp [h138]) ?_ | refine wpK_condF (by simp [h138]) ?_ | refine wpK_endF (by simp [h138]) (wpK_skip ?_) | refine wpK_endF (by simp [h138]) ?_
        exact hQ4 _ _ ⟨rfl, rfl, by simp [h1, h2, h7, h8, h9, h12], by simp [h1, h2, h7, h8, h9, h12], by simp [h1, h2, h7, h8, h9, h12], by simp [h1, h2, h7, h8, h9, h12], by simp [h1, h2, h7, h8, h9, h12], by simp [h1, h2, h7, h8, h9, h12], hEf, l, hll, hVf⟩
      | true =>
        have d2 := hcb rfl
        try simp only [wpK_assoc]
        first | refine wpK_onT (by simp [h138]) ?_ | refine wpK_outT (by simp [h138]) ?_ | refine wpK_condT (by simp [h138]) ?_ | refine wpK_endT (by simp [h138]) ?_
        obtain ⟨bx, px, x1, x2, _⟩ := int_at31 (hp.ext (hE04.trans hEf)) (gI_some (l := lp) (i := 0) d2)
        have x1 : aIndexAddr T0 31 pv (.int .i64 0) = some (.pointer (some ⟨bx, px, none⟩)) := x1
        generalize gI lp 0 = z at x2
        obtain ⟨y0, hy0⟩ : ∃ y0 : Nat, IntKind.u64.wrap z = (y0 : Int) := ⟨(IntKind.u64.wrap z).toNat, by rw [IntKind.wrap_u64]; omega⟩
        have hwn : IntKind.u64.wrap (n : Int) = (n : Int) := u64_nat (by omega)
        have hwb : IntKind.u64.wrap (lb.length : Int) = (lb.length : Int) := u64_nat (by omega)
        have an1 : IntKind.i64.wrap ((n : Int) + 1) = ((n + 1 : Nat) : Int) := i64_succ n (by omega)
        have hwn1 : IntKind.u64.wrap ((n + 1 : Nat) : Int) = ((n + 1 : Nat) : Int) := u64_nat (by omega)
        have r1 := aBinI_rem .u64 (y0 : Int) (n : Int) (by omega)
        have r2 := aBinI_rem .u64 (lb.length : Int) ((n + 1 : Nat) : Int) (by omega)
        rw [ofNat_tmod] at r1 r2
        have hyn : y0 % n < n := Nat.mod_lt _ (by omega)
        have hbn : lb.length % (n + 1) < n + 1 := Nat.mod_lt _ (by omega)
        generalize y0 % n = y at r1 hyn
        generalize lb.length % (n + 1) = m at r2 hbn
        have hwm : IntKind.i64.wrap (m : Int) = (m : Int) := i64_in (by omega)
        generalize n + 1 = n1 at an1 hwn1 r2 hbn
        have hwy : IntKind.i64.wrap (y : Int) = (y : Int) := i64_in (by omega)
        have iy := ixm y hyn
        obtain ⟨Wg, s1, s2, s3, s4⟩ := varP_store hVf (i := y) (by omega) (m : Int)
        have hnf := hEf.1
        try simp only [wpK_assoc]
        refine wpK_qn (wr := Tr.nil |>.set 139 0 |>.set 140 1 |>.set 141 2 |>.set 142 3 |>.set 143 4 |>.set 144 5 |>.set 145 6 |>.set 146 7 |>.set 147 8 |>.set 148 9 |>.set 149 10 |>.set 150 11 |>.set 151 12 |>.set 152 13 |>.set 153 14 |>.set 154 15 |>.set 155 16 |>.set 156 17 |>.set 157 18 |>.set 158 19) (bits := Tr.nil.lay 0 [0, 0, 2, 6, 14, 0, 32, 96, 254, 510, 0, 1024, 3072, 0, 8192, 24576, 57344, 130048, 261120, 524287, 1048575]) (ord := [0, 1, 2, 3, 4, 5, 6, 7, 8, 9, 10, 11, 12, 13, 14, 15, 16, 17, 18, 19, 20]) (by kernel_rfl) (by kernel_rfl) (by kernel_rfl) (fun G hG => by
          simp [h1, h2, h9, x1, x2, lpv, lbv, lsm, conv_3_56, conv_56_3, hy0, hwn, hwb, an1, hwn1, r1, r2, hwy, hwm, iy, s1, s2]
          exact hG) ?_
        exact hQ4 _ _ ⟨rfl, rfl, by simp [h1, h2, h7, h8, h9, h12], by simp [h1, h2, h7, h8, h9, h12], by simp [h1, h2, h7, h8, h9, h12], by simp [h1, h2, h7, h8, h9, h12], by simp [h1, h2, h7, h8, h9, h12], by simp [h1, h2, h7, h8, h9, h12], ⟨by omega, fun b hb hk => by rw [s3.2 b (by omega) (by omega)]; exact hEf.2 b hb hk⟩, _, by simp [hll], s4⟩
    clear hll hVf hEf
    rintro ⟨tm, n, ds⟩ Wf ⟨hn, hd, h1, h2, h7, h8, h9, h12, hEf, l, hll, hVf⟩
    simp only at hn hd h1 h2 h7 h8 h9 h12
    subst hn; subst hd
    try simp only [wpK_assoc]
    refine wpK_reg (fun R hR => by simp []; exact hR) ?_
    try simp only [wpK_assoc]
    refine wpK_reg (fun R hR => by simp []; exact hR) ?_
    try simp only [wpK_assoc]
    refine wpK_while (I := fun k A' W' => A'.n = 198 ∧ A'.defers = [] ∧ A'.tmps.get 1 = some (pv) ∧ A'.tmps.get 2 = some (bv) ∧ A'.tmps.get 7 = some (.pointer (some ⟨p7, 0, none⟩)) ∧ A'.tmps.get 8 = some (.pointer (some ⟨p8, 0, none⟩)) ∧ A'.tmps.get 9 = some (sm) ∧ A'.tmps.get 12 = some (.int .i64 (c : Int)) ∧ Ext Wf W' ∧ ∃ (i : Nat) (qv : Value) (qs : List Nat), A'.tmps.get 20 = some (.int .i64 (i : Int)) ∧ A'.tmps.get 10 = some qv ∧ k = n - i ∧ i ≤ n ∧ qs.length ≤ i ∧ GrowsN W' qv qs.length (natsV qs) 3 1 (fun b => Wf.next ≤ b))
      (J := fun A' W' => A'.n = 198 ∧ A'.defers = [] ∧ A'.tmps.get 1 = some (pv) ∧ A'.tmps.get 2 = some (bv) ∧ A'.tmps.get 7 = some (.pointer (some ⟨p7, 0, none⟩)) ∧ A'.tmps.get 8 = some (.pointer (some ⟨p8, 0, none⟩)) ∧ A'.tmps.get 9 = some (sm) ∧ A'.tmps.get 12 = some (.int .i64 (c : Int)) ∧ Ext Wf W' ∧ ∃ (qv : Value) (qs : List Nat), A'.tmps.get 10 = some qv ∧ qs.length ≤ n ∧ GrowsN W' qv qs.length (natsV qs) 3 1 (fun b => Wf.next ≤ b)) (Rt := fun _ _ => False) (k := n) ?_ ?_ ?_ ?_
    · exact ⟨rfl, rfl, by simp [h1, h2, h7, h8, h9, h12], by simp [h1, h2, h7, h8, h9, h12], by simp [h1, h2, h7, h8, h9, h12], by simp [h1, h2, h7, h8, h9, h12], by simp [h1, h2, h7, h8, h9, h12], by simp [h1, h2, h7, h8, h9, h12], .refl _ _, 0, .slice none 0 0, [], by simp, by simp, rfl, by omega, by simp, .nil _ _ _ _⟩
    · rintro k ⟨tm, n, ds⟩ Wg ⟨hn, hd, h1, h2, h7, h8, h9, h12, hEg, i, qv, qs, h20, h10, hk, hin, hql, hgq⟩ Q2 hJ2 hRt2 hI2
      simp only at hn hd h1 h2 h7 h8 h9 h12
      subst hn; subst hd
      simp only at h20 h10
      have hEfg := hEf.trans hEg
      by_cases hli : i < n
      case neg =>
        have e : i = n := by omega
        subst e
        try simp only [wpK_assoc]
        refine wpK_reg (fun R hR => by simp [h7, h20, g0, hEfg]; exact hR) ?_
        try simp only [wpK_assoc]
        first | refine wpK_onF (by simp []) ?_ | refine wpK_out (by simp []) ?_ | refine wpK_condF (by simp []) ?_ | refine wpK_endF (by simp []) (wpK_skip ?_) | refine wpK_endF (by simp []) ?_
        exact hJ2 _ _ ⟨rfl, rfl, by simp [h1, h2, h7, h8, h9, h12], by simp [h1, h2, h7, h8, h9, h12], by simp [h1, h2, h7, h8, h9, h12], by simp [h1, h2, h7, h8, h9, h12], by simp [h1, h2, h7, h8, h9, h12], by simp [h1, h2, h7, h8, h9, h12], hEg, qv, qs, by simp [h10], hql, hgq⟩
      have hli' : (i : Int) < n := by omega
      try simp only [wpK_assoc]
      refine wpK_reg (fun R hR => by simp [h7, h20, g0, hEfg, hli']; exact hR) ?_
      try simp only [wpK_assoc]
      first | refine wpK_onT (by simp [hli]) ?_ | refine wpK_outT (by simp [hli]) ?_ | refine wpK_condT (by simp [hli]) ?_ | refine wpK_endT (by simp [hli]) ?_
      refine wpK_block ?_
      try simp only [wpK_assoc]
      refine wpK_x1 (P := fun (b : Bool) W' => W' = Wg) (fun R hR => by
        simp [h2, h20, aEnter, fun33, short_other, aCallV]; rw [callS_none]
        refine (refHasI_wp (hb.ext (hE04.trans hEfg)) (i : Int) hlb).mono ?_
        rintro _ W9 ⟨e9, b, rfl⟩
        simp; exact hR b W9 e9) ?_
      rintro b W9 e9
      subst W9
      cases b with
      | false =>
        try simp only [wpK_assoc]
        first | refine wpK_onF (by simp []) ?_ | refine wpK_out (by simp []) ?_ | refine wpK_condF (by simp []) ?_ | refine wpK_endF (by simp []) (wpK_skip ?_) | refine wpK_endF (by simp []) ?_
        simp only [leaves_normal, behind_normal]
        refine wpK_keep (fun tm' => tm'.get 1 = some (pv) ∧ tm'.get 2 = some (bv) ∧ tm'.get 7 = some (.pointer (some ⟨p7, 0, none⟩)) ∧ tm'.get 8 = some (.pointer (some ⟨p8, 0, none⟩)) ∧ tm'.get 9 = some (sm) ∧ tm'.get 10 = some (qv) ∧ tm'.get 12 = some (.int .i64 (c : Int)) ∧ tm'.get 20 = some (.int .i64 (i : Int))) ⟨by simp [h1, h2, h7, h8, h9, h10, h12, h20], by simp [h1, h2, h7, h8, h9, h10, h12, h20], by simp [h1, h2, h7, h8, h9, h10, h12, h20], by simp [h1, h2, h7, h8, h9, h10, h12, h20], by simp [h1, h2, h7, h8, h9, h10, h12, h20], by simp [h1, h2, h7, h8, h9, h10, h12, h20], by simp [h1, h2, h7, h8, h9, h10, h12, h20], by simp [h1, h2, h7, h8, h9, h10, h12, h20]⟩ ?_
        rintro tm ⟨h1, h2, h7, h8, h9, h10, h12, h20⟩
        try simp only [wpK_assoc]
        refine wpK_reg1 (fun R hR => by simp [h20]; exact hR) ?_
        exact hI2 (n - (i + 1)) _ _ (by omega) ⟨rfl, rfl, by simp [h1, h2, h7, h8, h9, h12], by simp [h1, h2, h7, h8, h9, h12], by simp [h1, h2, h7, h8, h9, h12], by simp [h1, h2, h7, h8, h9, h12], by simp [h1, h2, h7, h8, h9, h12], by simp [h1, h2, h7, h8, h9, h12], hEg, i + 1, qv, qs, by simp [i64_succ i (by omega)], by simp [h10], rfl, by omega, by omega, hgq⟩
      | true =>
        try simp only [wpK_assoc]
        first | refine wpK_onT (by simp []) ?_ | refine wpK_outT (by simp []) ?_ | refine wpK_condT (by simp []) ?_ | refine wpK_endT (by simp []) ?_
        refine wpK_keep (fun tm' => tm'.get 1 = some (pv) ∧ tm'.get 2 = some (bv) ∧ tm'.get 7 = some (.pointer (some ⟨p7, 0, none⟩)) ∧ tm'.get 8 = some (.pointer (some ⟨p8, 0, none⟩)) ∧ tm'.get 9 = some (sm) ∧ tm'.get 10 = some (qv) ∧ tm'.get 12 = some (.int .i64 (c : Int)) ∧ tm'.get 20 = some (.int .i64 (i : Int))) ⟨by simp [h1, h2, h7, h8, h9, h10, h12, h20], by simp [h1, h2, h7, h8, h9, h10, h12, h20], by simp [h1, h2, h7, h8, h9, h10, h12, h20], by simp [h1, h2, h7, h8, h9, h10, h12, h20], by simp [h1, h2, h7, h8, h9, h10, h12, h20], by simp [h1, h2, h7, h8, h9, h10, h12, h20], by simp [h1, h2, h7, h8, h9, h10, h12, h20], by simp [h1, h2, h7, h8, h9, h10, h12, h20]⟩ ?_
        rintro tm ⟨h1, h2, h7, h8, h9, h10, h12, h20⟩
        obtain ⟨qv', Wh, k1, k2, k3, k4⟩ := grow_push (t := 31) (el := 3) und31 inf3 is3 z3 rfl (by rw [by3]; omega) hgq (fun b _ => by omega) (by omega) (.int .i64 (i : Int)) rfl
        have hng := hEg.1
        have hEh : Ext Wf Wh := ⟨by omega, fun b hb hk => by rw [k4.2 b (by omega) (by omega)]; exact hEg.2 b hb hk⟩
        try simp only [wpK_assoc]
        refine wpK_reg1 (fun R hR => by simp [h10, h20, bs31, k1]; exact hR) ?_
        simp only [leaves_normal, behind_normal]
        refine wpK_keep (fun tm' => tm'.get 1 = some (pv) ∧ tm'.get 2 = some (bv) ∧ tm'.get 7 = some (.pointer (some ⟨p7, 0, none⟩)) ∧ tm'.get 8 = some (.pointer (some ⟨p8, 0, none⟩)) ∧ tm'.get 9 = some (sm) ∧ tm'.get 10 = some (qv') ∧ tm'.get 12 = some (.int .i64 (c : Int)) ∧ tm'.get 20 = some (.int .i64 (i : Int))) ⟨by simp [h1, h2, h7, h8, h9, h12, h20], by simp [h1, h2, h7, h8, h9, h12, h20], by simp [h1, h2, h7, h8, h9, h12, h20], by simp [h1, h2, h7, h8, h9, h12, h20], by simp [h1, h2, h7, h8, h9, h12, h20], by simp [h1, h2, h7, h8, h9, h12, h20], by simp [h1, h2, h7, h8, h9, h12, h20], by simp [h1, h2, h7, h8, h9, h12, h20]⟩ ?_
        rintro tm ⟨h1, h2, h7, h8, h9, h10, h12, h20⟩
        try simp only [wpK_assoc]
        refine wpK_reg1 (fun R hR => by simp [h20]; exact hR) ?_
        have e0 : natsV qs ++ [.int .i64 (i : Int)] = natsV (qs ++ [i]) := by simp [natsV]
        have e1 : (qs ++ [i]).length = qs.length + 1 := by simp
        exact hI2 (n - (i + 1)) _ _ (by omega) ⟨rfl, rfl, by simp [h1, h2, h7, h8, h9, h12], by simp [h1, h2, h7, h8, h9, h12], by simp [h1, h2, h7, h8, h9, h12], by simp [h1, h2, h7, h8, h9, h12], by simp [h1, h2, h7, h8, h9, h12], by simp [h1, h2, h7, h8, h9, h12], hEh, i + 1, qv', qs ++ [i], by simp [i64_succ i (by omega)], by simp [h10], rfl, by omega, by rw [e1]; omega, by rw [e1, ← e0]; exact k3.mono (fun b hb => by omega)⟩
    · rintro A' W' hf; exact hf.elim
    rintro ⟨tm, n, ds⟩ Wg ⟨hn, hd, h1, h2, h7, h8, h9, h12, hEg, qv, qs, h10, hql, hgq⟩
    simp only at hn hd h1 h2 h7 h8 h9 h12
    subst hn; subst hd
    simp only at h10
    have hEfg := hEf.trans hEg
    have hrow := natsV_row hgq
    obtain ⟨Aq, cq, hqv⟩ := hrow.len
    have lq : ∀ W', aLen T0 W' 31 qv = some (.int .i64 (qs.length : Int)) := fun W' => by rw [hqv, List.length_map]; exact len_slice und31 _ _ _
    try simp only [wpK_assoc]
    refine wpK_reg (fun R hR => by simp []; exact hR) ?_
    have hfw := falls_wp (P := (n : Int)) (S := fun r => r < n ∧ (TS qs).testBit r = false) (hR4.ext hEfg) (by omega) rfl (by omega) hrow (by omega) (fun r => Iff.rfl)
    try simp only [wpK_assoc]
    refine wpK_x2 (fun R hR => by
        simp [h7, h10, g24, hEfg, aEnter, fun34, short_other, aCallV]; rw [callS_none]
        refine (hfw).mono ?_
        rintro u Wh ⟨hEh, fs, hFs, hfl, hfm, _⟩
        simp [h7, h10, g24, hEfg]; exact hR u fs Wh (And.intro hEh (And.intro hFs hfl))) ?_
    rintro u fs Wh ⟨hEh, hFs, hfl⟩
    have lf := falls_len hFs
    obtain ⟨m, hm⟩ : ∃ m, m = fs.length := ⟨_, rfl⟩
    rw [← hm] at lf hfl
    have hE4h := hEfg.trans hEh
    try simp only [wpK_assoc]
    refine wpK_reg (fun R hR => by simp []; exact hR) ?_
    try simp only [wpK_assoc]
    refine wpK_while (I := fun kk A' W' => A'.n = 198 ∧ A'.defers = [] ∧ A'.tmps.get 1 = some (pv) ∧ A'.tmps.get 2 = some (bv) ∧ A'.tmps.get 7 = some (.pointer (some ⟨p7, 0, none⟩)) ∧ A'.tmps.get 8 = some (.pointer (some ⟨p8, 0, none⟩)) ∧ A'.tmps.get 9 = some (sm) ∧ A'.tmps.get 10 = some (qv) ∧ A'.tmps.get 12 = some (.int .i64 (c : Int)) ∧ A'.tmps.get 22 = some (u) ∧ W' = Wh ∧ ∃ i : Nat, A'.tmps.get 23 = some (.int .i64 (i : Int)) ∧ A'.tmps.get 21 = some (.int .i64 (sumT fs i)) ∧ kk = m - i ∧ i ≤ m)
      (J := fun A' W' => A'.n = 198 ∧ A'.defers = [] ∧ A'.tmps.get 1 = some (pv) ∧ A'.tmps.get 2 = some (bv) ∧ A'.tmps.get 7 = some (.pointer (some ⟨p7, 0, none⟩)) ∧ A'.tmps.get 8 = some (.pointer (some ⟨p8, 0, none⟩)) ∧ A'.tmps.get 9 = some (sm) ∧ A'.tmps.get 10 = some (qv) ∧ A'.tmps.get 12 = some (.int .i64 (c : Int)) ∧ A'.tmps.get 22 = some (u) ∧ W' = Wh ∧ A'.tmps.get 21 = some (.int .i64 (sumT fs m))) (Rt := fun _ _ => False) (k := m) ?_ ?_ ?_ ?_
    · exact ⟨rfl, rfl, by simp [h1, h2, h7, h8, h9, h10, h12], by simp [h1, h2, h7, h8, h9, h10, h12], by simp [h1, h2, h7, h8, h9, h10, h12], by simp [h1, h2, h7, h8, h9, h10, h12], by simp [h1, h2, h7, h8, h9, h10, h12], by simp [h1, h2, h7, h8, h9, h10, h12], by simp [h1, h2, h7, h8, h9, h10, h12], by simp [h1, h2, h7, h8, h9, h10, h12], rfl, 0, by simp, by simp [sumT, sumN], rfl, by omega⟩
    · rintro kk ⟨tm, n, ds⟩ Wb2 ⟨hn, hd, h1, h2, h7, h8, h9, h10, h12, h22, e2, i, h23, h21, hkk, him⟩ Q2 hJ2 hRt2 hI2
      simp only at hn hd h1 h2 h7 h8 h9 h10 h12 h22
      subst hn; subst hd
      subst Wb2
      simp only at h23 h21
      by_cases hli : i < m
      case neg =>
        have e : i = m := by omega
        subst e
        try simp only [wpK_assoc]
        refine wpK_reg (fun R hR => by simp [h22, h23, lf]; exact hR) ?_
        try simp only [wpK_assoc]
        first | refine wpK_onF (by simp []) ?_ | refine wpK_out (by simp []) ?_ | refine wpK_condF (by simp []) ?_ | refine wpK_endF (by simp []) (wpK_skip ?_) | refine wpK_endF (by simp []) ?_
        exact hJ2 _ _ ⟨rfl, rfl, by simp [h1, h2, h7, h8, h9, h10, h12, h22], by simp [h1, h2, h7, h8, h9, h10, h12, h22], by simp [h1, h2, h7, h8, h9, h10, h12, h22], by simp [h1, h2, h7, h8, h9, h10, h12, h22], by simp [h1, h2, h7, h8, h9, h10, h12, h22], by simp [h1, h2, h7, h8, h9, h10, h12, h22], by simp [h1, h2, h7, h8, h9, h10, h12, h22], by simp [h1, h2, h7, h8, h9, h10, h12, h22], rfl, by simp [h21]⟩
      have hli' : (i : Int) < m := by omega
      try simp only [wpK_assoc]
      refine wpK_reg (fun R hR => by simp [h22, h23, lf, hli']; exact hR) ?_
      try simp only [wpK_assoc]
      first | refine wpK_onT (by simp [hli]) ?_ | refine wpK_outT (by simp [hli]) ?_ | refine wpK_condT (by simp [hli]) ?_ | refine wpK_endT (by simp [hli]) ?_
      obtain ⟨x, b, p, y1, y2, y3⟩ := falls_at hFs (i := i) (by omega)
      have hrem := aBinI_rem .i64 ((fs.getD i 0 : Nat) : Int) (2 : Nat) (by omega)
      rw [ofNat_tmod] at hrem
      have hti := sumT_in fs i
      have hts : sumT fs (i + 1) = sumT fs i + ((fs.getD i 0 % 2 : Nat) : Int) := rfl
      generalize fs.getD i 0 = q at y3 hrem hts
      generalize sumT fs i = c0 at h21 hti hts
      have a1 : IntKind.i64.wrap (c0 + ((q % 2 : Nat) : Int)) = sumT fs (i + 1) := by rw [hts]; exact i64_in (by omega)
      generalize q % 2 = qm at hrem a1
      have hrem : aBinI .rem .i64 (q : Int) .i64 2 = some (.int .i64 (qm : Int)) := hrem
      refine wpK_block ?_
      try simp only [wpK_assoc]
      refine wpK_reg1 (fun R hR => by simp [h21, h22, h23, y1, y2, y3, hrem, a1]; exact hR) ?_
      simp only [leaves_normal, behind_normal]
      refine wpK_keep (fun tm' => tm'.get 1 = some (pv) ∧ tm'.get 2 = some (bv) ∧ tm'.get 7 = some (.pointer (some ⟨p7, 0, none⟩)) ∧ tm'.get 8 = some (.pointer (some ⟨p8, 0, none⟩)) ∧ tm'.get 9 = some (sm) ∧ tm'.get 10 = some (qv) ∧ tm'.get 12 = some (.int .i64 (c : Int)) ∧ tm'.get 21 = some (.int .i64 (sumT fs (i + 1))) ∧ tm'.get 22 = some (u) ∧ tm'.get 23 = some (.int .i64 (i : Int))) ⟨by simp [h1, h2, h7, h8, h9, h10, h12, h22, h23], by simp [h1, h2, h7, h8, h9, h10, h12, h22, h23], by simp [h1, h2, h7, h8, h9, h10, h12, h22, h23], by simp [h1, h2, h7, h8, h9, h10, h12, h22, h23], by simp [h1, h2, h7, h8, h9, h10, h12, h22, h23], by simp [h1, h2, h7, h8, h9, h10, h12, h22, h23], by simp [h1, h2, h7, h8, h9, h10, h12, h22, h23], by simp [h1, h2, h7, h8, h9, h10, h12, h22, h23], by simp [h1, h2, h7, h8, h9, h10, h12, h22, h23], by simp [h1, h2, h7, h8, h9, h10, h12, h22, h23]⟩ ?_
      rintro tm ⟨h1, h2, h7, h8, h9, h10, h12, h21, h22, h23⟩
      try simp only [wpK_assoc]
      refine wpK_reg1 (fun R hR => by simp [h23]; exact hR) ?_
      exact hI2 (m - (i + 1)) _ _ (by omega) ⟨rfl, rfl, by simp [h1, h2, h7, h8, h9, h10, h12, h22], by simp [h1, h2, h7, h8, h9, h10, h12, h22], by simp [h1, h2, h7, h8, h9, h10, h12, h22], by simp [h1, h2, h7, h8, h9, h10, h12, h22], by simp [h1, h2, h7, h8, h9, h10, h12, h22], by simp [h1, h2, h7, h8, h9, h10, h12, h22], by simp [h1, h2, h7, h8, h9, h10, h12, h22], by simp [h1, h2, h7, h8, h9, h10, h12, h22], rfl, i + 1, by simp [i64_succ i (by omega)], by simp [h21], rfl, by omega⟩
    · rintro A' W' hf; exact hf.elim
    rintro ⟨tm, n, ds⟩ Wz ⟨hn, hd, h1, h2, h7, h8, h9, h10, h12, h22, eW, h21⟩
    simp only at hn hd h1 h2 h7 h8 h9 h10 h12 h22
    subst hn; subst hd
    subst Wz
    simp only at h21
    have hst := sumT_in fs m
    generalize sumT fs m = st at h21 hst
    have a1 : IntKind.i64.wrap ((n : Int) + (qs.length : Int)) = (n : Int) + qs.length := i64_in (by omega)
    have hq2 := aBinI_quo .i64 (IntKind.i64.wrap ((n : Int) + qs.length - st)) 2 (by omega)
    try simp only [wpK_assoc]
    refine wpK_reg1 (fun R hR => by simp [h7, h10, h21, g0, hE4h, lq, a1, hq2]; exact hR) ?_
    simp only [leaves_normal, behind_normal]
    generalize IntKind.i64.wrap ((IntKind.i64.wrap ((n : Int) + qs.length - st)).tdiv 2) = kf
    refine wpK_keep (fun tm' => tm'.get 1 = some (pv) ∧ tm'.get 2 = some (bv) ∧ tm'.get 7 = some (.pointer (some ⟨p7, 0, none⟩)) ∧ tm'.get 8 = some (.pointer (some ⟨p8, 0, none⟩)) ∧ tm'.get 9 = some (sm) ∧ tm'.get 10 = some (qv) ∧ tm'.get 11 = some (.int .i64 kf) ∧ tm'.get 12 = some (.int .i64 (c : Int))) ⟨by simp [h1, h2, h7, h8, h9, h10, h12], by simp [h1, h2, h7, h8, h9, h10, h12], by simp [h1, h2, h7, h8, h9, h10, h12], by simp [h1, h2, h7, h8, h9, h10, h12], by simp [h1, h2, h7, h8, h9, h10, h12], by simp [h1, h2, h7, h8, h9, h10, h12], by simp [h1, h2, h7, h8, h9, h10, h12], by simp [h1, h2, h7, h8, h9, h10, h12]⟩ ?_
    rintro tm ⟨h1, h2, h7, h8, h9, h10, h11, h12⟩
    try simp only [wpK_assoc]
    refine wpK_reg1 (fun R hR => by simp [h12]; exact hR) ?_
    have hI9' := varP_row ((hVf.ext hEg).ext hEh) hll
    rw [← hsm] at hI9'
    exact hI (3 - (c + 1)) _ _ (by omega) ⟨rfl, rfl, by simp [h1, h2, h7, h8], by simp [h1, h2, h7, h8], by simp [h1, h2, h7, h8], by simp [h1, h2, h7, h8], hE4h, c + 1, sm, qv, l, qs.map Int.ofNat, kf, by simp [i64_succ c (by omega)], by simp [h9], by simp [h10], by simp [h11], rfl, by omega, hI9', by omega, hrow.ext hEh, by rw [List.length_map]; omega⟩
  · rintro A' W' hf; exact hf.elim
  · rintro ⟨tm, n, ds⟩ Wz ⟨hn, hd, h1, h2, h7, h8, hEz⟩
    simp only at hn hd h1 h2 h7 h8
    subst hn; subst hd
    have htbz := tabs_ext htb hW0 (hE04.trans hEz)
    try simp only [wpK_assoc]
    refine wpK_reg (fun R hR => by simp [short_awake, htbz, aEnter, aCallV, fun16]; exact hR) ?_
    exact wpK_ret ⟨.inr rfl, rfl, [.bool true], by simp, rfl⟩

end Go.Proofs.YtdpnplanohgecaaDoor
