import Derived.Test.YtdpnplanohgecaaDoorP40
import Derived.Test.YtdpnplanohgecaaDoorP39
import Derived.Test.YtdpnplanohgecaaDoorEngRe
set_option linter.unusedSimpArgs false
set_option linter.unusedVariables false
set_option linter.unusedSectionVars false
open Go Go.Eng
namespace Go.Proofs.YtdpnplanohgecaaDoor
attribute [local congr] undef_congr WpK.congr WpS.congr WpL.congr WpC.congr WpF.congr gotS.congr callS.congr nextS.congr wantS.congr condS.congr
attribute [local irreducible] WpK
attribute [local simp] WpDr_nil WpDr_cons atS_some dwantS_true dwantS_false kindS_light kindS_float kindS_heavy lightS_value floatS_some heavyS_value heavyS_skip heavyS_enter dcallS_some doneS_eq
 isLight isFloat isPlain dLook testBit_dec dChain dLights_nil dLights_skip dLights_one dLight_nil dLight_cons dFreshes_nil dFreshes_one oneF_none oneF_some dFresh_nil dFresh_cons oneL_some oneW_true oneW_false sameV_value dPut dMay valEq arrEq listEq List.getElem?_cons Tr.get_nil dEnd
attribute [local simp] WpS_nil WpS_cons isDefer undef_false wantS_true wantS_false nextS_value nextS_skip nextS_enter callS_some gotS_some aWanted aOp aEvalF aEval opMove opAssign opPick aVal flat flat1 AAct.put opBinOp opConvert opIndex Tr.get_set Tr.get_lay aBin aResults tupled
 aCall aVals aCallB blt_dec ble_dec beq_dec aBinI_add aBinI_sub aBinI_lss aBinI_leq aBinI_gtr aBinI_geq aBinI_eql aBinI_neq index_str len_str len_slice Nat.beq_refl Nat.beq_refl
 opBox opLoad opFieldAddr opIndexAddr acells aAddr opExtract aExtract opUnOp opAlloc opStore opMakeInterface opNilCheck opBuild aParts opBuildSlice aValW
attribute [local simp] und2 und3 und4 und5 und9 und12 field13_0 field13_1 und21 und22 field23_0 field23_1 field24_0 field24_1 field25_0 field25_1 und28 und31 field34_0 field34_1 field34_2 field35_0 field35_1 field35_2 und46 field50_0 field50_1 field50_2 und55 und56 und58 und61 und62 und73 und75 und90 und94 und95 und96 field97_0 field97_1 field97_2 field97_3 field97_4 field97_5 field97_6 field98_0 field98_1 field98_2 field98_3 field98_4 field98_5 field98_6 und99 und106 field107_0 field107_1 field108_0 field108_1 und119 und122 field124_0 field124_1 field124_2 field125_0 field125_1 field125_2 field131_0 field131_1 field132_0 field132_1 und133 field134_0 field134_1 field135_0 field135_1 und148 und156 und160
set_option maxHeartbeats 4000000
set_option linter.unusedSimpArgs false
set_option linter.unusedVariables false
def AjE (es : List Edge) (q r : Nat) : Prop := Jn es (q : Int) (r : Int)
theorem AjE.symm {es : List Edge} (q r : Nat) (h : AjE es q r) : AjE es r q := Jn.symm h
theorem sumF_in {Aj : Nat -> Nat -> Prop} {S : Nat -> Prop} (k : Nat) : 0 <= sumN k (rootF Aj S) /\ sumN k (rootF Aj S) <= k := cnt_in rootF_in k
theorem odd_wp {W : AW} {pw s : Nat} {P : Int} {J : List Nat} {es : List Edge} (hJ : JoinL es J) (hVw : Var W pw 108 (.int .i64 P :: J.map setV)) (hs : s < 4096) (hT : tabsIn T0 T0.tabs W = true) (hN0 : 0 < W.next) :
  WpF T0 62 [.pointer (some ⟨pw, 0, none⟩), .int .u64 (s : Nat)] W (fun u W' => Ext W W' /\ u = .int .i64 (sumN 40 (rootF (AjE es) (fun r => s.testBit r = true)))) := by
 refine wpF fun62 rfl ?_
 try simp only [wA]
 refine wpK_reg (fun R hR => by simp []; exact hR) ?_
 try simp only [wA]
 refine wpK_reg (fun R hR => by simp []; exact hR) ?_
 obtain ⟨S, hS⟩ : ∃ S : Nat -> Prop, S = fun r => s.testBit r = true := ⟨_, rfl⟩
 rw [<- hS]
 have hS40 : ∀ r, S r -> r < 12 := fun r hr => by rw [hS] at hr; exact bit_lt (n := 12) hs hr
 have hsy := AjE.symm (es := es)
 try simp only [wA]
 refine wpK_while (I := fun k A' W' => A'.n = 35 /\ A'.defers = [] /\ A'.tmps.get 0 = some (.pointer (some ⟨pw, 0, none⟩)) /\ Ext W W' /\ ∃ m : Nat, A'.tmps.get 1 = some (.int .u64 (k : Nat)) /\ A'.tmps.get 5 = some (.int .i64 (sumN m (rootF (AjE es) S))) /\ k < 4096 /\ LeftOf (AjE es) S m k /\ m <= 40)
  (J := fun A' W' => A'.n = 35 /\ A'.defers = [] /\ Ext W W' /\ A'.tmps.get 5 = some (.int .i64 (sumN 40 (rootF (AjE es) S)))) (Rt := fun _ _ => False) (k := s) ?_ ?_ ?_ ?_
 ·exact ⟨rfl, rfl, by simp, .refl _ _, 0, by simp, by simp [sumN], hs, .start (fun r => by rw [hS]), by omega⟩
 ·rintro k ⟨tm, n, ds⟩ Wa ⟨hn, hd, h0, hEa, m, h1, h5, hk, hLf, hm⟩ Q' hJ' hRt hI
  simp only at hn hd h0
  subst hn; subst hd
  simp only at h1 h5
  by_cases hz : k = 0
  ·subst hz
   try simp only [wA]
   refine wpK_reg (fun R hR => by simp [h1]; exact hR) ?_
   try simp only [wA]
   first | refine wpK_onF (by simp []) ?_ | refine wpK_out (by simp []) ?_ | refine wCF (by simp []) ?_ | refine wEF (by simp []) (wpK_skip ?_) | refine wEF (by simp []) ?_
   exact hJ' _ _ ⟨rfl, rfl, hEa, by rw [hLf.done hsy hm]; simp [h5]⟩
  have hz' : ¬ (k : Int) = 0 := by omega
  try simp only [wA]
  refine wpK_reg (fun R hR => by simp [h1, hz', hz]; exact hR) ?_
  try simp only [wA]
  first | refine wpK_onT (by simp [hz]) ?_ | refine wpK_outT (by simp [hz]) ?_ | refine wCT (by simp [hz]) ?_ | refine wpK_endT (by simp [hz]) ?_
  obtain ⟨q, hq1, hq2⟩ := low_ex hz
  have hq12 : q < 12 := bit_lt (n := 12) hk hq1
  have hmq := hLf.low hq1
  have hroot := hLf.root hsy hq1 hq2
  have hTa := tabs_ext hT hN0 hEa
  have f1 := first_wp hTa (x := k) (by omega) hq1 hq2
  have o1 := one_wp q (by omega) Wa
  have hone : ∀ r, (1 <<< q).testBit r = true ↔ r = q := fun r => by rw [one_bit, decide_eq_true_iff]; exact ⟨fun e => e.symm, fun e => e.symm⟩
  have hone2 : 1 <<< q < 4096 := by rw [Nat.one_shiftLeft]; exact Nat.pow_lt_pow_right (n := 12) (by omega) hq12
  have hone3 : 1 <<< q ≠ 0 := fun e => by have := (hone q).2 rfl; rw [e] at this; simp at this
  generalize 1 <<< q = oq at hone hone2 hone3 o1
  refine wpK_block1 ?_
  try simp only [wA]
  refine wpK_reg (fun R hR => by
   simp [h1, aEnter, fun81, sO, aCallV]; rw [cN]
   refine f1.mono ?_
   rintro _ W9 ⟨e9, rfl⟩; subst W9
   simp [aEnter, fun68, sO, aCallV]; rw [cN]
   refine o1.mono ?_
   rintro _ W9 ⟨e9, rfl⟩; subst W9
   simp; exact hR) ?_
  try simp only [wA]
  refine wpK_reg (fun R hR => by simp []; exact hR) ?_
  generalize hc0 : sumN m (rootF (AjE es) S) = c0 at h5
  have hc0in := sumF_in (Aj := AjE es) (S := S) m
  rw [hc0] at hc0in
  try simp only [wA]
  refine wpK_while (I := fun k2 A' W' => A'.n = 35 /\ A'.defers = [] /\ A'.tmps.get 0 = some (.pointer (some ⟨pw, 0, none⟩)) /\ A'.tmps.get 1 = some (.int .u64 (k : Nat)) /\ A'.tmps.get 5 = some (.int .i64 c0) /\ Ext W W' /\ ∃ part more : Nat, A'.tmps.get 6 = some (.int .u64 (part : Nat)) /\ A'.tmps.get 7 = some (.int .u64 (more : Nat)) /\ k2 = 2 * (4096 - part) + (if more = 0 then 0 else 1) /\ part < 4096 /\ (∀ r, part.testBit r = true -> Rch (AjE es) S q r) /\ part.testBit q = true /\ (more = 0 -> ∀ a r, part.testBit a = true -> AjE es a r -> k.testBit r = true -> part.testBit r = true))
   (J := fun A' W' => A'.n = 35 /\ A'.defers = [] /\ A'.tmps.get 0 = some (.pointer (some ⟨pw, 0, none⟩)) /\ A'.tmps.get 1 = some (.int .u64 (k : Nat)) /\ A'.tmps.get 5 = some (.int .i64 c0) /\ Ext W W' /\ ∃ part : Nat, A'.tmps.get 6 = some (.int .u64 (part : Nat)) /\ part < 4096 /\ ∀ r, part.testBit r = true ↔ Rch (AjE es) S q r) (Rt := fun _ _ => False) (k := 2 * (4096 - oq) + 1) ?_ ?_ ?_ ?_
  ·exact ⟨rfl, rfl, by simp [h0, h1, h5], by simp [h0, h1, h5], by simp [h0, h1, h5], hEa, oq, oq, by simp, by simp, by rw [if_neg hone3], hone2, fun r hr => by rw [(hone r).1 hr]; exact .start hroot.1, (hone q).2 rfl, fun e => absurd e hone3⟩
  ·rintro k2 ⟨tm, n, ds⟩ Wb ⟨hn, hd, h0, h1, h5, hEb, part, more, h6, h7, hk2, hp, hpr, hpq, hcl⟩ Q3 hJ3 hRt3 hI3
   simp only at hn hd h0 h1 h5
   subst hn; subst hd
   simp only at h6 h7
   by_cases hmz : more = 0
   ·subst hmz
    try simp only [wA]
    refine wpK_reg (fun R hR => by simp [h7]; exact hR) ?_
    try simp only [wA]
    first | refine wpK_onF (by simp []) ?_ | refine wpK_out (by simp []) ?_ | refine wCF (by simp []) ?_ | refine wEF (by simp []) (wpK_skip ?_) | refine wEF (by simp []) ?_
    refine hJ3 _ _ ⟨rfl, rfl, by simp [h0, h1, h5], by simp [h0, h1, h5], by simp [h0, h1, h5], hEb, part, by simp [h6], hp, fun r => ⟨hpr r, fun hr => ?_⟩⟩
    refine hr.closed (C := fun r => part.testBit r = true) hpq (fun a b ha hab hb => ?_)
    exact hcl rfl a b ha hab (hLf.reach hq1 ((hpr a ha).step hab hb) hsy)
   have hmz' : ¬ (more : Int) = 0 := by omega
   try simp only [wA]
   refine wpK_reg (fun R hR => by simp [h7, hmz', hmz]; exact hR) ?_
   try simp only [wA]
   first | refine wpK_onT (by simp [hmz]) ?_ | refine wpK_outT (by simp [hmz]) ?_ | refine wCT (by simp [hmz]) ?_ | refine wpK_endT (by simp [hmz]) ?_
   have har := around_wp (x := part) hJ (hVw.ext hEb) (by omega) (tabs_ext hT hN0 hEb) (by have := hEb.1; omega)
   refine wpK_block ?_
   try simp only [wA]
   refine wpK_y3 (P := fun (R u m' : Nat) W' => Ext Wb W' /\ (∀ r, m'.testBit r = true ↔ (∃ a, part.testBit a = true /\ AjE es a r) /\ k.testBit r = true /\ part.testBit r = false)) (fun Rr hRr => by
    simp [h0, h6, aEnter, fun80, sO, aCallV]; rw [cN]
    refine har.mono ?_
    rintro _ Wc ⟨hEc, R, rfl, hR40, hRb⟩
    have hand := aBinI_and .u64 R k (by show R < 18446744073709551616; omega) (by show k < 18446744073709551616; omega)
    have hu : R &&& k < 18446744073709551616 := Nat.lt_of_le_of_lt Nat.and_le_right (by omega)
    obtain ⟨m', n1, n2, n3⟩ := aBinI_andNot .u64 (R &&& k) part hu (by show part < 18446744073709551616; omega)
    have hbits : ∀ r, m'.testBit r = true ↔ (∃ a, part.testBit a = true /\ AjE es a r) /\ k.testBit r = true /\ part.testBit r = false := fun r => by
     rw [n3 r, Nat.testBit_and, Bool.and_eq_true, Bool.and_eq_true, hRb r, Bool.not_eq_true']
     constructor
     ·rintro ⟨⟨⟨a, ha, hb⟩, hc⟩, hd⟩
      exact ⟨⟨a, ha, (join_bit hJ (q := a) (r := r) (by have := bit_lt (n := 12) hp ha; omega)).2.1 hb⟩, hc, hd⟩
     ·rintro ⟨⟨a, ha, hb⟩, hc, hd⟩
      exact ⟨⟨⟨a, ha, (join_bit hJ (q := a) (r := r) (by have := bit_lt (n := 12) hp ha; omega)).2.2 hb⟩, hc⟩, hd⟩
    generalize R &&& k = u at hand n2
    simp [h1, h6, hand, n2]
    exact hRr R u m' Wc (And.intro hEc hbits)) ?_
   rintro R u m' Wc ⟨hEc, hbits⟩
   simp only [lN, bN]
   have hm12 : m' < 4096 := by
    apply Classical.byContradiction
    intro hge
    obtain ⟨r, hr1, hr2⟩ := Nat.exists_ge_and_testBit_of_ge_two_pow (n := 12) (x := m') (by omega)
    have := bit_lt (n := 12) hk ((hbits r).1 hr2).2.1
    omega
   have hor := aBinI_or .u64 part m' (by show part < 18446744073709551616; omega) (by show m' < 18446744073709551616; omega)
   have hle : part <= part ||| m' := Nat.left_le_or
   have hp' : part ||| m' < 4096 := Nat.or_lt_two_pow (n := 12) hp hm12
   have hb' : ∀ r, (part ||| m').testBit r = true ↔ part.testBit r = true \/ m'.testBit r = true := fun r => by rw [Nat.testBit_or, Bool.or_eq_true]
   have hgt : m' ≠ 0 -> part ≠ part ||| m' := fun hne e => by
    obtain ⟨r, hr, _⟩ := low_ex hne
    have h1 := ((hbits r).1 hr).2.2
    rw [e, (hb' r).2 (.inr hr)] at h1; cases h1
   have hz2 : m' = 0 -> part ||| m' = part := fun e => by rw [e]; simp
   generalize part ||| m' = part' at hor hle hp' hb' hgt hz2
   refine wpK_keep (fun tm' => tm'.get 0 = some (.pointer (some ⟨pw, 0, none⟩)) /\ tm'.get 1 = some (.int .u64 (k : Nat)) /\ tm'.get 5 = some (.int .i64 c0) /\ tm'.get 6 = some (.int .u64 (part : Nat)) /\ tm'.get 7 = some (.int .u64 (m' : Nat))) (by simp [h0, h1, h5, h6]) ?_
   rintro tm ⟨h0, h1, h5, h6, h7⟩
   try simp only [wA]
   refine wpK_reg1 (fun R hR => by simp [h6, h7, hor]; exact hR) ?_
   refine hI3 (2 * (4096 - part') + (if m' = 0 then 0 else 1)) _ _ ?_ ⟨rfl, rfl, by simp [h0, h1, h5], by simp [h0, h1, h5], by simp [h0, h1, h5], hEb.trans hEc, part', m', by simp, by simp [h7], rfl, hp', fun r hr => ?_, (hb' q).2 (.inl hpq), fun e a r ha har2 hkr => ?_⟩
   ·rw [hk2, if_neg hmz]
    split
    ·omega
    ·rename_i hne
     have := hgt hne
     omega
   ·rcases (hb' r).1 hr with hr | hr
    ·exact hpr r hr
    ·obtain ⟨⟨a, ha, hab⟩, hkr, _⟩ := (hbits r).1 hr
     exact (hpr a ha).step hab ((hLf r).1 hkr).1
   ·rw [hz2 e] at ha ⊢
    cases hc : part.testBit r with
    | true => rfl
    | false =>
     have := (hbits r).2 ⟨⟨a, ha, har2⟩, hkr, hc⟩
     rw [e] at this; simp at this
  ·rintro A' W' hf; exact hf.elim
  ·rintro ⟨tm, n, ds⟩ Wb ⟨hn, hd, h0, h1, h5, hEb, part, h6, hp, hpr⟩
   simp only at hn hd h0 h1 h5
   subst hn; subst hd
   simp only at h6
   have hsz := size_wp (W := Wb) (x := part) hp
   have hrem := aBinI_rem .i64 ((pc part : Nat) : Int) (2 : Nat) (by omega)
   rw [ofNat_tmod] at hrem
   have hrt := rootF_is hroot.1 hroot.2 (fun r hr => by have := hS40 r hr; omega) hpr
   have hsum : sumN (q + 1) (rootF (AjE es) S) = c0 + ((pc part % 2 : Nat) : Int) := by
    simp only [sumN]
    rw [hrt, sumN_skip hmq (hLf.skip hsy hq2), hc0]
   have hc1 := sumF_in (Aj := AjE es) (S := S) (q + 1)
   obtain ⟨s', n1, n2, n3⟩ := aBinI_andNot .u64 k part (by show k < 18446744073709551616; omega) (by show part < 18446744073709551616; omega)
   have hnx := hLf.next hsy hq1 hq2 hpr n3
   generalize pc part = pcp at hsz hrem hsum
   have a1 : IntKind.i64.wrap (c0 + ((pcp % 2 : Nat) : Int)) = sumN (q + 1) (rootF (AjE es) S) := by rw [<- hsum]; exact i64_in (by omega)
   generalize pcp % 2 = pm at hrem a1 hsum
   have hrem : aBinI .rem .i64 (pcp : Int) .i64 2 = some (.int .i64 (pm : Int)) := hrem
   try simp only [wA]
   refine wpK_reg (fun R hR => by
     simp [h5, h6, hrem, a1, aEnter, fun82, sO, aCallV]; rw [cN]
     refine (hsz).mono ?_
     rintro _ W9 ⟨e9, rfl⟩; subst W9
     simp [h5, h6, hrem, a1]; exact hR) ?_
   try simp only [wA]
   refine wpK_reg1 (fun R hR => by simp [h1, h6, n2]; exact hR) ?_
   simp only [lN]
   have hlt : s' < k := by
    rcases Nat.lt_or_ge s' k with g | g
    ·exact g
    ·have e : s' = k := by omega
     have := n3 q
     rw [e, hq1, (hpr q).2 (.start hroot.1)] at this; cases this
   exact hI s' _ _ hlt ⟨rfl, rfl, by simp [h0], hEb, q + 1, by simp, by simp, by omega, hnx, by omega⟩
 ·rintro A' W' hf; exact hf.elim
 ·rintro ⟨tm, m, ds⟩ Wz ⟨e1, e2, hEz, h5⟩
  simp only at e1 e2 h5
  subst e1; subst e2
  try simp only [wA]
  refine wpK_reg (fun R hR => by simp [h5]; exact hR) ?_
  exact wpK_ret ⟨.inr rfl, rfl, [.int .i64 (sumN 40 (rootF (AjE es) S))], by simp, hEz, rfl⟩
theorem TS_mem {ps : List Nat} {r : Nat} : (TS ps).testBit r = true ↔ r ∈ ps := by
 rw [TS_bit]
 constructor
 ·rintro ⟨i, hi, e⟩
  rw [pOf, List.getD_eq_getElem?_getD, List.getElem?_eq_getElem hi] at e
  have e : ps[i] = r := e
  rw [<- e]; exact List.getElem_mem hi
 ·intro h
  obtain ⟨i, hi, e⟩ := List.getElem_of_mem h
  exact ⟨i, hi, by rw [pOf, List.getD_eq_getElem?_getD, List.getElem?_eq_getElem hi]; exact e⟩
structure Bfs (es : List Edge) (S : Nat -> Prop) (v : Nat) (qs : List Nat) (i : Nat) : Prop where
 start : v ∈ qs
 rch : ∀ r, r ∈ qs -> Rch (AjE es) S v r
 dis : ∀ i j, i < j -> j < qs.length -> pOf qs i ≠ pOf qs j
 cls : ∀ a, a < i -> ∀ r, AjE es (pOf qs a) r -> S r -> r ∈ qs
theorem pOf_mem {qs : List Nat} {i : Nat} (h : i < qs.length) : pOf qs i ∈ qs := by
 rw [pOf, List.getD_eq_getElem?_getD, List.getElem?_eq_getElem h]; exact List.getElem_mem h
theorem pOf_app {qs : List Nat} {x i : Nat} (h : i < qs.length) : pOf (qs ++ [x]) i = pOf qs i := getD_app h
theorem Bfs.one {es : List Edge} {S : Nat -> Prop} {v : Nat} (hv : S v) : Bfs es S v [v] 0 where
 start := by simp
 rch := fun r hr => by simp at hr; subst hr; exact .start hv
 dis := fun i j h1 h2 => by simp at h2; omega
 cls := fun a h => by omega
theorem Bfs.push {es : List Edge} {S : Nat -> Prop} {v i : Nat} {qs : List Nat} (h : Bfs es S v qs i) (hi : i <= qs.length) {x : Nat} (hx : x ∉ qs) (hr : Rch (AjE es) S v x) : Bfs es S v (qs ++ [x]) i where
 start := List.mem_append_left _ h.start
 rch := fun r hr2 => by
  rcases List.mem_append.1 hr2 with h2 | h2
  ·exact h.rch r h2
  ·simp at h2; subst h2; exact hr
 dis := fun a b h1 h2 e => by
  simp at h2
  by_cases eb : b = qs.length
  ·subst eb
   rw [pOf_app h1] at e
   have : pOf (qs ++ [x]) qs.length = x := getD_last
   rw [this] at e
   exact hx (e ▸ pOf_mem h1)
  ·rw [pOf_app (by omega), pOf_app (by omega)] at e
   exact h.dis a b h1 (by omega) e
 cls := fun a ha r h1 h2 => by
  rw [pOf_app (by omega)] at h1
  exact List.mem_append_left _ (h.cls a ha r h1 h2)
theorem Bfs.lt {es : List Edge} {S : Nat -> Prop} {v i n : Nat} {qs : List Nat} (h : Bfs es S v qs i) (hS : ∀ r, S r -> r < n) : ∀ a, a < qs.length -> pOf qs a < n := fun a ha => hS _ (h.rch _ (pOf_mem ha)).mem
theorem Bfs.pc {es : List Edge} {S : Nat -> Prop} {v i n : Nat} {qs : List Nat} (h : Bfs es S v qs i) (hS : ∀ r, S r -> r < n) (hn : n <= 40) : pc (TS qs) = qs.length /\ qs.length <= n := by
 have h1 : Go.Eng.pc (TS qs) = qs.length := tk_cnt (n := n) hn (h.lt hS) h.dis
 have h2 := (cntB_le (n := n) (x := TS qs) (tk_lt (h.lt hS)) 40).1
 exact ⟨h1, by rw [<- h1]; exact h2⟩
theorem Bfs.all {es : List Edge} {S : Nat -> Prop} {v : Nat} {qs : List Nat} (h : Bfs es S v qs qs.length) (r : Nat) : (TS qs).testBit r = true ↔ Rch (AjE es) S v r := by
 rw [TS_mem]
 refine ⟨h.rch r, fun hr => hr.closed (C := fun r => r ∈ qs) h.start (fun a b ha hab hb => ?_)⟩
 obtain ⟨i, hi, e⟩ := List.getElem_of_mem ha
 have e : pOf qs i = a := by rw [pOf, List.getD_eq_getElem?_getD, List.getElem?_eq_getElem hi]; exact e
 exact h.cls i hi b (by rw [e]; exact hab) hb
def SeenTo (es : List Edge) (S : Nat -> Prop) (v : Nat) (sn : List Nat) : Prop := ∀ r, r ∈ sn ↔ ∃ u, u < v /\ Rch (AjE es) S u r
def sumL (ls : List Nat) : Int := sumN ls.length (fun i => ((ls.getD i 0 % 2 : Nat) : Int))
theorem sumL_app (ls : List Nat) (x : Nat) : sumL (ls ++ [x]) = sumL ls + ((x % 2 : Nat) : Int) := by
 unfold sumL
 rw [List.length_append]
 show sumN ls.length _ + (((ls ++ [x]).getD ls.length 0 % 2 : Nat) : Int) = _
 rw [getD_last]
 have : sumN ls.length (fun i => (((ls ++ [x]).getD i 0 % 2 : Nat) : Int)) = sumN ls.length (fun i => ((ls.getD i 0 % 2 : Nat) : Int)) := sumN_congr (fun i hi => by rw [getD_app hi])
 rw [this]
section
variable {es : List Edge} {S : Nat -> Prop} {v : Nat} {sn qs : List Nat}
theorem SeenTo.out (h : SeenTo es S v sn) (hv : ¬ S v) : SeenTo es S (v + 1) sn /\ rootF (AjE es) S v = 0 := by
 refine ⟨fun r => ?_, rootF_not (fun hh => hv hh.1)⟩
 rw [h r]
 constructor
 ·rintro ⟨u, hu, hr⟩; exact ⟨u, by omega, hr⟩
 ·rintro ⟨u, hu, hr⟩
  by_cases e : u = v
  ·subst e; exact absurd hr.mem0 hv
  ·exact ⟨u, by omega, hr⟩
theorem SeenTo.met (h : SeenTo es S v sn) (hv : v ∈ sn) : SeenTo es S (v + 1) sn /\ rootF (AjE es) S v = 0 := by
 obtain ⟨u0, hu0, hr0⟩ := (h v).1 hv
 refine ⟨fun r => ?_, rootF_not (fun hh => hh.2 u0 hu0 (hr0.symm AjE.symm))⟩
 rw [h r]
 constructor
 ·rintro ⟨u, hu, hr⟩; exact ⟨u, by omega, hr⟩
 ·rintro ⟨u, hu, hr⟩
  by_cases e : u = v
  ·subst e; exact ⟨u0, hu0, hr0.trans hr⟩
  ·exact ⟨u, by omega, hr⟩
theorem SeenTo.next (h : SeenTo es S v sn) (hs : S v) (hv : v ∉ sn) (h40 : ∀ r, S r -> r < 40) (hB : Bfs es S v qs qs.length) : SeenTo es S (v + 1) (sn ++ qs) /\ rootF (AjE es) S v = ((qs.length % 2 : Nat) : Int) := by
 refine ⟨fun r => ?_, ?_⟩
 ·rw [List.mem_append, h r, <- TS_mem (ps := qs), hB.all r]
  constructor
  ·rintro (⟨u, hu, hr⟩ | hr)
   ·exact ⟨u, by omega, hr⟩
   ·exact ⟨v, by omega, hr⟩
  ·rintro ⟨u, hu, hr⟩
   by_cases e : u = v
   ·subst e; exact .inr hr
   ·exact .inl ⟨u, by omega, hr⟩
 ·rw [rootF_is hs (fun u hu hr => hv ((h v).2 ⟨u, hu, hr.symm AjE.symm⟩)) h40 hB.all, (hB.pc h40 (Nat.le_refl _)).1]
end
def HeldQ (W0 W : AW) (v : Value) (qs : List Nat) : Prop := HeldN W v qs.length (natsV qs) 3 1 (fun b => W0.next <= b)
theorem heldQ_new (W : AW) (x : Nat) : HeldQ W (W.newCells 3 [.int .i64 (x : Int)]) (.slice (some ⟨W.next, 0, none⟩) 1 2) [x] :=
 .inl ⟨rfl, W.next, Tr.nil.lay 0 [.int .i64 (x : Int)], [], rfl, by show 0 < 1; omega, Nat.le_refl _, Nat.lt_succ_self _, by rw [newCells_get, if_pos rfl]; rfl, fun j hj => by
  rw [Tr.get_lay, if_pos (by have : j < 1 := hj; show 0 <= j /\ j < 0 + 1; omega)]; simp [natsV], by simp⟩
theorem HeldQ.row {W0 W : AW} {v : Value} {qs : List Nat} (h : HeldQ W0 W v qs) (hn : 0 < qs.length) : IntR W v (qs.map Int.ofNat) := by
 obtain ⟨b, c, rfl, _, h3, h4⟩ := HeldN.has h hn
 refine ⟨some ⟨b, 0, none⟩, c, by simp, fun e => by simp at e; subst e; simp at hn, fun i a hi => ⟨b, 0, rfl, fun j u hu => ?_⟩⟩
 have hj : j = 0 := by have := (List.getElem?_eq_some_iff.1 hu).1; simp only [encI, List.length_cons, List.length_nil] at this; omega
 subst hj
 rw [Nat.zero_add, Nat.mul_one, Nat.add_zero]
 refine h4 i u ?_
 rw [List.getElem?_map] at hi
 rw [natsV, List.getElem?_map]
 cases hq : qs[i]? with
 | none => rw [hq] at hi; cases hi
 | some q =>
  rw [hq] at hi
  cases hi
  cases hu
  rfl
theorem HeldQ.push {W0 W : AW} {v : Value} {qs : List Nat} (h : HeldQ W0 W v qs) (he : W0.next <= W.next) (hl : qs.length <= 1000) (x : Nat) :
  ∃ v' W', aAppend T0 (W.newCells 3 [.int .i64 (x : Int)]) [31, 31] [v, .slice (some ⟨W.next, 0, none⟩) 1 2] = some (v', W') /\ HeldQ W0 W' v' (qs ++ [x]) /\ Only (fun b => W0.next <= b) W W' := by
 have hE : Ext W (W.newCells 3 [.int .i64 (x : Int)]) := .newCells _ _ _
 have hV := Var.new W 3 [.int .i64 (x : Int)]
 have hx' : (W.newCells 3 [.int .i64 (x : Int)]).cellsAt W.next 0 1 = some [.int .i64 (x : Int)] := by
  rw [hV.cellsAt 0 1 (by simp)]; rfl
 have h1 := HeldN.only (K' := fun _ => False) h hE (fun _ _ _ y => y)
 obtain ⟨v', W', a1, a2, a3, a4⟩ := append_heldN (T := T0) (t := 31) (el := 3) (c := 2) (by omega) und31 inf3 is3 z3 rfl h1 (u := [.int .i64 (x : Int)]) rfl hx' rfl (by rw [by3]; omega) (by omega)
 refine ⟨v', W', a1, ?_, ⟨by rw [a2, newCells_next]; omega, fun b hb hk => ?_⟩⟩
 ·have e1 : (qs ++ [x]).length = qs.length + 1 := by simp
  have e2 : natsV (qs ++ [x]) = natsV qs ++ [.int .i64 (x : Int)] := by simp [natsV]
  show HeldN W' v' (qs ++ [x]).length (natsV (qs ++ [x])) 3 1 _
  rw [e1, e2]
  refine a3.mono (fun b hb => ?_)
  rcases hb with hb | hb
  ·exact hb
  ·rw [newCells_next] at hb; omega
 ·rw [a4.2 b (by rw [newCells_next]; omega) hk]
  exact hE.2 b (by omega) (fun y => y)
theorem bs58 (W : AW) (A : Option Addr) (n c : Nat) : aBuildSlice T0 W 58 1 [(0, .slice A n c)] = some (.slice (some ⟨W.next, 0, none⟩) 1 2, W.newCells 31 [.slice A n c]) := by kernel_rfl
def FallsR (W : AW) (u : Value) (ls : List Nat) : Prop := ∃ us : List Value, us.length = ls.length /\ RowIn 1 encV W u us /\ ∀ (i : Nat) x l, us[i]? = some x -> ls[i]? = some l -> ∃ A c, x = .slice A l c
open Classical in
theorem falls_wp {W : AW} {v pv : Value} {P : Int} {es : List Edge} {ps : List Nat} {n : Nat} {S : Nat -> Prop} (h : PairR W v es) (hl : es.length < 4611686018427387904) (hP : P = (n : Int)) (hn12 : n <= 12) (hp : IntR W pv (ps.map Int.ofNat)) (hpl : ps.length < 100000)
    (hS : ∀ r, S r ↔ r < n /\ (TS ps).testBit r = false) :
    WpF T0 34 [.agg ⟨[.int .i64 P, v]⟩, pv] W (fun u W' => Ext W W' /\ ∃ ls, FallsR W' u ls /\ ls.length <= n /\ (∀ l ∈ ls, l <= n) /\ sumL ls = sumN n (rootF (AjE es) S)) := by
  refine wpF fun34 rfl ?_
  subst hP
  have hSn : ∀ r, S r -> r < n := fun r hr => ((hS r).1 hr).1
  have hS40 : ∀ r, S r -> r < 40 := fun r hr => by have := hSn r hr; omega
  obtain ⟨W1, hW1, hE1, hn1, hV⟩ : ∃ W1, W1 = W.newCells 24 [.int .i64 (n : Int), v] /\ Ext W W1 /\ W1.next = W.next + 1 /\ Var W1 W.next 24 [.int .i64 (n : Int), v] := ⟨_, rfl, .newCells _ _ _, rfl, Var.new _ _ _⟩
  have l0 : ∀ W', Ext W1 W' -> aLoadVar T0 W' 3 W.next 0 = some (.int .i64 (n : Int)) := fun W' hE => (hV.ext hE).load1 (T := T0) und3 rfl (j := 0) (v := .int .i64 (n : Int)) rfl
  have l24 : ∀ W', Ext W1 W' -> aLoadVar T0 W' 24 W.next 0 = some (.agg ⟨[.int .i64 (n : Int), v]⟩) := fun W' hE => load24 (hV.ext hE)
  have hR1 := h.ext hE1
  have hp1 := hp.ext hE1
  have vv := row_eq h
  have vp := row_eq hp
  try simp only [wA]
  refine wpK_reg (fun R hR => by simp [<- hW1]; exact hR) ?_
  try simp only [wA]
  refine wpK_reg (fun R hR => by simp []; exact hR) ?_
  try simp only [wA]
  refine wpK_reg (fun R hR => by simp []; exact hR) ?_
  try simp only [wA]
  refine wpK_reg (fun R hR => by simp []; exact hR) ?_
  try simp only [wA]
  refine wpK_while (I := fun k A' W' => A'.n = 70 /\ A'.defers = [] /\ A'.tmps.get 1 = some (pv) /\ A'.tmps.get 2 = some (.pointer (some ⟨W.next, 0, none⟩)) /\ Ext W1 W' /\ ∃ (a : Nat) (sv fv : Value) (sn : List Nat) (us : List Value) (ls : List Nat) (Ks Kf : Nat -> Prop), A'.tmps.get 7 = some (.int .i64 (a : Int)) /\ A'.tmps.get 6 = some sv /\ A'.tmps.get 5 = some fv /\ k = n - a /\ a <= n /\ SeenTo es S a sn /\ sn.length <= 12 * a /\
        GrowsN W' sv sn.length (natsV sn) 3 1 Ks /\ GrowsN W' fv us.length us 31 1 Kf /\ us.length = ls.length /\ ls.length <= a /\ (∀ (i : Nat) x l, us[i]? = some x -> ls[i]? = some l -> ∃ A c, x = .slice A l c) /\ (∀ l ∈ ls, l <= n) /\ sumL ls = sumN a (rootF (AjE es) S) /\ (∀ b, Ks b -> W1.next <= b /\ b < W'.next) /\ (∀ b, Kf b -> W1.next <= b /\ b < W'.next /\ ¬ Ks b))
    (J := fun A' W' => A'.n = 70 /\ A'.defers = [] /\ Ext W1 W' /\ ∃ (fv : Value) (us : List Value) (ls : List Nat) (Kf : Nat -> Prop), A'.tmps.get 5 = some fv /\ GrowsN W' fv us.length us 31 1 Kf /\ us.length = ls.length /\ ls.length <= n /\ (∀ (i : Nat) x l, us[i]? = some x -> ls[i]? = some l -> ∃ A c, x = .slice A l c) /\ (∀ l ∈ ls, l <= n) /\ sumL ls = sumN n (rootF (AjE es) S)) (Rt := fun _ _ => False) (k := n) ?_ ?_ ?_ ?_
  · exact ⟨rfl, rfl, by simp, by simp, .refl _ _, 0, .slice none 0 0, .slice none 0 0, [], [], [], fun _ => False, fun _ => False, by simp, by simp, by simp, rfl, by omega, fun r => ⟨fun h => by simp at h, fun ⟨u, hu, _⟩ => by omega⟩, by simp, .nil _ _ _ _, .nil _ _ _ _, rfl, by simp, fun i x l hx => by simp at hx, fun l hl => by simp at hl, rfl, fun b hb => hb.elim, fun b hb => hb.elim⟩
  · rintro k ⟨tm, n, ds⟩ Wa ⟨hn, hd, h1, h2, hEa, a, sv, fv, sn, us, ls, Ks, Kf, h7, h6, h5, hk, han, hsn, hsl, hgs, hgf, hul, hls, hus, hlen, hsum, hKs, hKf⟩ Q' hJ' hRt hI
    simp only at hn hd h1 h2
    subst hn; subst hd
    simp only at h7 h6 h5
    by_cases hlt : a < n
    case neg =>
      have e : a = n := by omega
      subst e
      try simp only [wA]
      refine wpK_reg (fun R hR => by simp [h2, h7, l0, hEa]; exact hR) ?_
      try simp only [wA]
      first | refine wpK_onF (by simp []) ?_ | refine wpK_out (by simp []) ?_ | refine wCF (by simp []) ?_ | refine wEF (by simp []) (wpK_skip ?_) | refine wEF (by simp []) ?_
      exact hJ' _ _ ⟨rfl, rfl, hEa, fv, us, ls, Kf, by simp [h5], hgf, hul, hls, hus, hlen, hsum⟩
    have hlt' : (a : Int) < n := by omega
    try simp only [wA]
    refine wpK_reg (fun R hR => by simp [h2, h7, l0, hEa, hlt']; exact hR) ?_
    try simp only [wA]
    first | refine wpK_onT (by simp [hlt]) ?_ | refine wpK_outT (by simp [hlt]) ?_ | refine wCT (by simp [hlt]) ?_ | refine wpK_endT (by simp [hlt]) ?_
    have hpa := hp1.ext hEa
    have hsa := natsV_row hgs
    have c1 := refHas_wp hpa a hpl
    have c2 := refHas_wp hsa a (by omega)
    refine wpK_block ?_
    cases hb1 : (TS ps).testBit a with
    | true =>
      rw [hb1] at c1
      obtain ⟨t1, t2⟩ := hsn.out (fun hs => by have := ((hS a).1 hs).2; rw [hb1] at this; cases this)
      try simp only [wA]
      refine wpK_reg (fun R hR => by
          simp [h1, h7, aEnter, fun33, sO, aCallV]; rw [cN]
          refine (c1).mono ?_
          rintro _ W9 ⟨e9, rfl⟩; subst W9
          simp [undef]; exact hR) ?_
      try simp only [wA]
      first | refine wpK_onT (by simp []) ?_ | refine wpK_outT (by simp []) ?_ | refine wCT (by simp []) ?_ | refine wpK_endT (by simp []) ?_
      simp only [leaves_exit, bN, if_true]
      refine wpK_keep (fun tm' => tm'.get 1 = some (pv) /\ tm'.get 2 = some (.pointer (some ⟨W.next, 0, none⟩)) /\ tm'.get 5 = some (fv) /\ tm'.get 6 = some (sv) /\ tm'.get 7 = some (.int .i64 (a : Int))) (by simp [h1, h2, h5, h6, h7]) ?_
      rintro tm ⟨h1, h2, h5, h6, h7⟩
      try simp only [wA]
      refine wpK_reg1 (fun R hR => by simp [h7]; exact hR) ?_
      exact hI (n - (a + 1)) _ _ (by omega) ⟨rfl, rfl, by simp [h1, h2], by simp [h1, h2], hEa, a + 1, sv, fv, sn, us, ls, Ks, Kf, by simp [i64_succ a (by omega)], by simp [h6], by simp [h5], rfl, by omega, t1, by omega, hgs, hgf, hul, by omega, hus, hlen, by simp only [sumN]; rw [t2, hsum]; omega, hKs, hKf⟩
    | false =>
      rw [hb1] at c1
      have hsa' : S a := (hS a).2 ⟨hlt, hb1⟩
      cases hb2 : (TS sn).testBit a with
      | true =>
        rw [hb2] at c2
        obtain ⟨t1, t2⟩ := hsn.met (TS_mem.1 hb2)
        try simp only [wA]
        refine wpK_reg (fun R hR => by
          simp [h1, h7, aEnter, fun33, sO, aCallV]; rw [cN]
          refine c1.mono ?_
          rintro _ W9 ⟨e9, rfl⟩; subst W9
          simp [h6, h7, aEnter, fun33, sO, aCallV]; rw [cN]
          refine c2.mono ?_
          rintro _ W9 ⟨e9, rfl⟩; subst W9
          simp; exact hR) ?_
        try simp only [wA]
        first | refine wpK_onT (by simp []) ?_ | refine wpK_outT (by simp []) ?_ | refine wCT (by simp []) ?_ | refine wpK_endT (by simp []) ?_
        simp only [leaves_exit, bN, if_true]
        refine wpK_keep (fun tm' => tm'.get 1 = some (pv) /\ tm'.get 2 = some (.pointer (some ⟨W.next, 0, none⟩)) /\ tm'.get 5 = some (fv) /\ tm'.get 6 = some (sv) /\ tm'.get 7 = some (.int .i64 (a : Int))) (by simp [h1, h2, h5, h6, h7]) ?_
        rintro tm ⟨h1, h2, h5, h6, h7⟩
        try simp only [wA]
        refine wpK_reg1 (fun R hR => by simp [h7]; exact hR) ?_
        exact hI (n - (a + 1)) _ _ (by omega) ⟨rfl, rfl, by simp [h1, h2], by simp [h1, h2], hEa, a + 1, sv, fv, sn, us, ls, Ks, Kf, by simp [i64_succ a (by omega)], by simp [h6], by simp [h5], rfl, by omega, t1, by omega, hgs, hgf, hul, by omega, hus, hlen, by simp only [sumN]; rw [t2, hsum]; omega, hKs, hKf⟩
      | false =>
        rw [hb2] at c2
        have hnm : a ∉ sn := fun hm => by have := TS_mem.2 hm; rw [hb2] at this; cases this
        try simp only [wA]
        refine wpK_reg (fun R hR => by
          simp [h1, h7, aEnter, fun33, sO, aCallV]; rw [cN]
          refine c1.mono ?_
          rintro _ W9 ⟨e9, rfl⟩; subst W9
          simp [h6, h7, aEnter, fun33, sO, aCallV]; rw [cN]
          refine c2.mono ?_
          rintro _ W9 ⟨e9, rfl⟩; subst W9
          simp; exact hR) ?_
        try simp only [wA]
        first | refine wpK_onF (by simp []) ?_ | refine wpK_out (by simp []) ?_ | refine wCF (by simp []) ?_ | refine wEF (by simp []) (wpK_skip ?_) | refine wEF (by simp []) ?_
        have hH0 := heldQ_new Wa a
        obtain ⟨W2, hW2, hE2⟩ : ∃ W2, W2 = Wa.newCells 3 [.int .i64 (a : Int)] /\ Ext Wa W2 := ⟨_, rfl, .newCells _ _ _⟩
        have hO2 : Only (fun b => Wa.next <= b) Wa W2 := ⟨hE2.1, fun b hb _ => hE2.2 b hb (fun x => x)⟩
        rw [<- hW2] at hH0
        try simp only [wA]
        refine wpK_reg (fun R hR => by simp [h7, bs31, <- hW2]; exact hR) ?_
        try simp only [wA]
        refine wpK_reg (fun R hR => by simp []; exact hR) ?_
        obtain ⟨p0, hp0⟩ : ∃ p : Value, p = .slice (some ⟨Wa.next, 0, none⟩) 1 2 := ⟨_, rfl⟩
        rw [<- hp0] at hH0
        try simp only [wA]
        refine wpK_while (I := fun k2 A' W' => A'.n = 70 /\ A'.defers = [] /\ A'.tmps.get 1 = some (pv) /\ A'.tmps.get 2 = some (.pointer (some ⟨W.next, 0, none⟩)) /\ A'.tmps.get 5 = some (fv) /\ A'.tmps.get 6 = some (sv) /\ A'.tmps.get 7 = some (.int .i64 (a : Int)) /\ Only (fun b => Wa.next <= b) Wa W' /\ ∃ (i : Nat) (qv : Value) (qs : List Nat), A'.tmps.get 9 = some (.int .i64 (i : Int)) /\ A'.tmps.get 8 = some qv /\ k2 = n - i /\ i <= qs.length /\ HeldQ Wa W' qv qs /\ Bfs es S a qs i)
          (J := fun A' W' => A'.n = 70 /\ A'.defers = [] /\ A'.tmps.get 1 = some (pv) /\ A'.tmps.get 2 = some (.pointer (some ⟨W.next, 0, none⟩)) /\ A'.tmps.get 5 = some (fv) /\ A'.tmps.get 6 = some (sv) /\ A'.tmps.get 7 = some (.int .i64 (a : Int)) /\ Only (fun b => Wa.next <= b) Wa W' /\ ∃ (qv : Value) (qs : List Nat), A'.tmps.get 8 = some qv /\ HeldQ Wa W' qv qs /\ Bfs es S a qs qs.length) (Rt := fun _ _ => False) (k := n) ?_ ?_ ?_ ?_
        · exact ⟨rfl, rfl, by simp [h1, h2, h5, h6, h7], by simp [h1, h2, h5, h6, h7], by simp [h1, h2, h5, h6, h7], by simp [h1, h2, h5, h6, h7], by simp [h1, h2, h5, h6, h7], hO2, 0, p0, [a], by simp, by simp [hp0], rfl, by simp, hH0, .one hsa'⟩
        · rintro k2 ⟨tm, n, ds⟩ Wb ⟨hn, hd, h1, h2, h5, h6, h7, hOb, i, qv, qs, h9, h8, hk2, hiq, hHq, hBf⟩ Q2 hJ2 hRt2 hI2
          simp only at hn hd h1 h2 h5 h6 h7
          subst hn; subst hd
          simp only at h9 h8
          have hql := (hBf.pc hSn (by omega)).2
          have hq0 : 0 < qs.length := List.length_pos_of_mem hBf.start
          have hrow := hHq.row hq0
          obtain ⟨Aq, cq, hqv⟩ := hrow.len
          rw [List.length_map] at hqv
          have lq : ∀ W', aLen T0 W' 31 qv = some (.int .i64 (qs.length : Int)) := fun W' => by rw [hqv]; exact len_slice und31 _ _ _
          by_cases hli : i < qs.length
          case neg =>
            have e : i = qs.length := by omega
            subst e
            try simp only [wA]
            refine wpK_reg (fun R hR => by simp [h8, h9, lq]; exact hR) ?_
            try simp only [wA]
            first | refine wpK_onF (by simp []) ?_ | refine wpK_out (by simp []) ?_ | refine wCF (by simp []) ?_ | refine wEF (by simp []) (wpK_skip ?_) | refine wEF (by simp []) ?_
            exact hJ2 _ _ ⟨rfl, rfl, by simp [h1, h2, h5, h6, h7], by simp [h1, h2, h5, h6, h7], by simp [h1, h2, h5, h6, h7], by simp [h1, h2, h5, h6, h7], by simp [h1, h2, h5, h6, h7], hOb, qv, qs, by simp [h8], hHq, hBf⟩
          have hli' : (i : Int) < qs.length := by omega
          try simp only [wA]
          refine wpK_reg (fun R hR => by simp [h8, h9, lq, hli']; exact hR) ?_
          try simp only [wA]
          first | refine wpK_onT (by simp [hli]) ?_ | refine wpK_outT (by simp [hli]) ?_ | refine wCT (by simp [hli]) ?_ | refine wpK_endT (by simp [hli]) ?_
          refine wpK_block ?_
          try simp only [wA]
          refine wpK_reg (fun R hR => by simp []; exact hR) ?_
          obtain ⟨y, hy⟩ : ∃ y, y = pOf qs i := ⟨_, rfl⟩
          have hym := pOf_mem hli
          rw [<- hy] at hym
          try simp only [wA]
          refine wpK_while1 (I := fun k3 A' W' => A'.n = 70 /\ A'.defers = [] /\ A'.tmps.get 1 = some (pv) /\ A'.tmps.get 2 = some (.pointer (some ⟨W.next, 0, none⟩)) /\ A'.tmps.get 5 = some (fv) /\ A'.tmps.get 6 = some (sv) /\ A'.tmps.get 7 = some (.int .i64 (a : Int)) /\ A'.tmps.get 9 = some (.int .i64 (i : Int)) /\ Only (fun b => Wa.next <= b) Wa W' /\ ∃ (u : Nat) (qv : Value) (qs : List Nat), A'.tmps.get 10 = some (.int .i64 (u : Int)) /\ A'.tmps.get 8 = some qv /\ k3 = n - u /\ u <= n /\ HeldQ Wa W' qv qs /\ Bfs es S a qs i /\ i < qs.length /\ pOf qs i = y /\ ∀ r, r < u -> AjE es y r -> S r -> r ∈ qs)
            (J := fun A' W' => A'.n = 70 /\ A'.defers = [] /\ A'.tmps.get 1 = some (pv) /\ A'.tmps.get 2 = some (.pointer (some ⟨W.next, 0, none⟩)) /\ A'.tmps.get 5 = some (fv) /\ A'.tmps.get 6 = some (sv) /\ A'.tmps.get 7 = some (.int .i64 (a : Int)) /\ A'.tmps.get 9 = some (.int .i64 (i : Int)) /\ Only (fun b => Wa.next <= b) Wa W' /\ ∃ (qv : Value) (qs : List Nat), A'.tmps.get 8 = some qv /\ HeldQ Wa W' qv qs /\ Bfs es S a qs (i + 1) /\ i < qs.length) (Rt := fun _ _ => False) (k := n) ?_ ?_ ?_ ?_
          · exact ⟨rfl, rfl, by simp [h1, h2, h5, h6, h7, h9], by simp [h1, h2, h5, h6, h7, h9], by simp [h1, h2, h5, h6, h7, h9], by simp [h1, h2, h5, h6, h7, h9], by simp [h1, h2, h5, h6, h7, h9], by simp [h1, h2, h5, h6, h7, h9], hOb, 0, qv, qs, by simp, by simp [h8], rfl, by omega, hHq, hBf, hli, hy.symm, fun r hr => by omega⟩
          · clear hBf hHq hrow lq hqv hql hq0 hli hli' hym hy hiq
            rintro k3 ⟨tm, n, ds⟩ Wc ⟨hn, hd, h1, h2, h5, h6, h7, h9, hOc, u, qv2, qs, h10, h8, hk3, hun, hHq, hBf, hli, hy, hpart⟩ Q3 hJ3 hRt3 hI3
            simp only at hn hd h1 h2 h5 h6 h7 h9
            subst hn; subst hd
            simp only at h10 h8
            have hEc : Ext W1 Wc := ⟨by have := hEa.1; have := hOc.1; omega, fun b hb hk => by rw [hOc.2 b (by have := hEa.1; omega) (by have := hEa.1; omega)]; exact hEa.2 b hb hk⟩
            by_cases hlu : u < n
            case neg =>
              have e : u = n := by omega
              subst e
              try simp only [wA]
              refine wpK_reg (fun R hR => by simp [h2, h10, l0, hEc]; exact hR) ?_
              try simp only [wA]
              first | refine wpK_onF (by simp []) ?_ | refine wpK_out (by simp []) ?_ | refine wCF (by simp []) ?_ | refine wEF (by simp []) (wpK_skip ?_) | refine wEF (by simp []) ?_
              refine hJ3 _ _ ⟨rfl, rfl, by simp [h1, h2, h5, h6, h7, h9], by simp [h1, h2, h5, h6, h7, h9], by simp [h1, h2, h5, h6, h7, h9], by simp [h1, h2, h5, h6, h7, h9], by simp [h1, h2, h5, h6, h7, h9], by simp [h1, h2, h5, h6, h7, h9], hOc, qv2, qs, by simp [h8], hHq, ⟨hBf.start, hBf.rch, hBf.dis, fun b hb r h1 h2 => ?_⟩, hli⟩
              by_cases e : b = i
              · subst e; rw [hy] at h1; exact hpart r (hSn r h2) h1 h2
              · exact hBf.cls b (by omega) r h1 h2
            have hlu' : (u : Int) < n := by omega
            try simp only [wA]
            refine wpK_reg (fun R hR => by simp [h2, h10, l0, hEc, hlu']; exact hR) ?_
            try simp only [wA]
            first | refine wpK_onT (by simp [hlu]) ?_ | refine wpK_outT (by simp [hlu]) ?_ | refine wCT (by simp [hlu]) ?_ | refine wpK_endT (by simp [hlu]) ?_
            have hq0 : 0 < qs.length := List.length_pos_of_mem hBf.start
            have hql := (hBf.pc hSn (by omega)).2
            have hrow := hHq.row hq0
            obtain ⟨bx, px, x1, _, x3⟩ := int_at31 hrow (nat_some (ps := qs) (i := i) hli)
            rw [hy] at x3
            have x2 : ∀ W', Ext Wc W' -> aLoadVar T0 W' 3 bx px = some (.int .i64 (y : Int)) := fun W' hE => load_of und3 rfl (x3.ext hE)
            have ecc : Ext Wc Wc := .refl _ _
            have l24c : ∀ W', Ext Wc W' -> aLoadVar T0 W' 24 W.next 0 = some (.agg ⟨[.int .i64 (n : Int), v]⟩) := fun W' hE => l24 W' (hEc.trans hE)
            have hjw := refJoined_wp (n : Int) (hR1.ext hEc) hl (y : Int) (u : Int)
            have vq := row_eq hrow
            have hyq : y ∈ qs := hy ▸ pOf_mem hli
            have hstay : ∀ (A' : AAct) (W' : AW), A'.n = 70 /\ A'.defers = [] /\ A'.tmps.get 1 = some (pv) /\ A'.tmps.get 2 = some (.pointer (some ⟨W.next, 0, none⟩)) /\ A'.tmps.get 5 = some (fv) /\ A'.tmps.get 6 = some (sv) /\ A'.tmps.get 7 = some (.int .i64 (a : Int)) /\ A'.tmps.get 9 = some (.int .i64 (i : Int)) -> Ext Wc W' -> A'.tmps.get 10 = some (.int .i64 ((u + 1 : Nat) : Int)) -> A'.tmps.get 8 = some qv2 -> (AjE es y u -> S u -> u ∈ qs) -> Q3 .normal A' W' := fun A' W' hN hE h1 h2 h3 => by
              refine hI3 (n - (u + 1)) _ _ (by omega) ⟨hN.1, hN.2.1, hN.2.2.1, hN.2.2.2.1, hN.2.2.2.2.1, hN.2.2.2.2.2.1, hN.2.2.2.2.2.2.1, hN.2.2.2.2.2.2.2, hOc.trans (hE.mono (fun b _ (hf : False) => hf.elim)), u + 1, qv2, qs, h1, h2, rfl, by omega, HeldN.only hHq hE (fun _ _ _ x => x), hBf, hli, hy, fun r hr h4 h5 => ?_⟩
              by_cases e : r = u
              · subst e; exact h3 h4 h5
              · exact hpart r (by omega) h4 h5
            refine wpK_block ?_
            by_cases hj : Jn es (y : Int) (u : Int)
            case neg =>
              rw [decide_eq_false hj] at hjw
              try simp only [wA]
              refine wpK_d0 (wr := Tr.nil |>.set 39 0 |>.set 40 1 |>.set 41 2 |>.set 42 3 |>.set 43 4 |>.set 44 5 |>.set 45 6 |>.set 46 7 |>.set 47 8 |>.set 48 9 |>.set 49 10 |>.set 50 11 |>.set 51 12 |>.set 52 13 |>.set 53 14 |>.set 54 15 |>.set 55 16 |>.set 56 17 |>.set 57 18) (bits := Tr.nil.lay 0 [0, 0, 0, 6, 14, 0, 63, 127, 255, 255, 1023, 2047, 4095, 8191, 16383, 16383, 65535, 131071, 262143]) (ord := [0, 1, 2, 3, 4, 5, 6, 7, 8, 9, 10, 11, 12, 13, 14, 15, 16, 17, 18]) (by kernel_rfl) (by kernel_rfl) (by kernel_rfl) (fun G hG => by
                simp [h1, h2, h8, h9, h10, x1, x2, ecc, l24c, vv, vp, vq, undef, aEnter, fun64, sO, aCallV]
                rw [dcallS_none]
                refine hjw.mono ?_
                rintro _ Wd ⟨hEd, rfl⟩
                simp [hEd.1, hEd, h1, h2, h8, h9, h10, x1, x2, ecc, l24c, vv, vp, vq, undef]
                exact hG Wd hEd) ?_
              rintro Wd hEd
              try simp only [wA]
              first | refine wpK_onF (by simp []) ?_ | refine wpK_out (by simp []) ?_ | refine wCF (by simp []) ?_ | refine wEF (by simp []) (wpK_skip ?_) | refine wEF (by simp []) ?_
              simp only [lN, bN]
              refine wpK_keep (fun tm' => tm'.get 1 = some (pv) /\ tm'.get 2 = some (.pointer (some ⟨W.next, 0, none⟩)) /\ tm'.get 5 = some (fv) /\ tm'.get 6 = some (sv) /\ tm'.get 7 = some (.int .i64 (a : Int)) /\ tm'.get 8 = some (qv2) /\ tm'.get 9 = some (.int .i64 (i : Int)) /\ tm'.get 10 = some (.int .i64 (u : Int))) (by simp [h1, h2, h5, h6, h7, h8, h9, h10]) ?_
              rintro tm ⟨h1, h2, h5, h6, h7, h8, h9, h10⟩
              try simp only [wA]
              refine wpK_reg1 (fun R hR => by simp [h10]; exact hR) ?_
              exact hstay _ _ ⟨rfl, rfl, by simp [h1, h2, h5, h6, h7, h9], by simp [h1, h2, h5, h6, h7, h9], by simp [h1, h2, h5, h6, h7, h9], by simp [h1, h2, h5, h6, h7, h9], by simp [h1, h2, h5, h6, h7, h9], by simp [h1, h2, h5, h6, h7, h9]⟩ hEd (by simp [i64_succ u (by omega)]) (by simp [h8]) (fun hh => absurd hh hj)
            rw [decide_eq_true hj] at hjw
            have d1 := fun (Wd : AW) (hEd : Ext Wc Wd) => refHas_wp ((hp1.ext hEc).ext hEd) u hpl
            have d2 := fun (Wd : AW) (hEd : Ext Wc Wd) => refHas_wp (hrow.ext hEd) u (by omega)
            cases hb3 : (TS ps).testBit u with
            | true =>
              rw [hb3] at d1
              have hns : ¬ S u := fun hs => by have := ((hS u).1 hs).2; rw [hb3] at this; cases this
              try simp only [wA]
              refine wpK_d0 (wr := Tr.nil |>.set 39 0 |>.set 40 1 |>.set 41 2 |>.set 42 3 |>.set 43 4 |>.set 44 5 |>.set 45 6 |>.set 46 7 |>.set 47 8 |>.set 48 9 |>.set 49 10 |>.set 50 11 |>.set 51 12 |>.set 52 13 |>.set 53 14 |>.set 54 15 |>.set 55 16 |>.set 56 17 |>.set 57 18) (bits := Tr.nil.lay 0 [0, 0, 0, 6, 14, 0, 63, 127, 255, 255, 1023, 2047, 4095, 8191, 16383, 16383, 65535, 131071, 262143]) (ord := [0, 1, 2, 3, 4, 5, 6, 7, 8, 9, 10, 11, 12, 13, 14, 15, 16, 17, 18]) (by kernel_rfl) (by kernel_rfl) (by kernel_rfl) (fun G hG => by
                simp [h1, h2, h8, h9, h10, x1, x2, ecc, l24c, vv, vp, vq, undef, aEnter, fun64, sO, aCallV]
                rw [dcallS_none]
                refine hjw.mono ?_
                rintro _ Wd ⟨hEd, rfl⟩
                simp [hEd.1, hEd, h1, h2, h8, h9, h10, x1, x2, ecc, l24c, vv, vp, vq, undef, aEnter, fun33, sO, aCallV]
                rw [dcallS_none]
                refine (d1 Wd hEd).mono ?_
                rintro _ W9 ⟨e9, rfl⟩; subst W9
                simp [hEd.1, hEd, h1, h2, h8, h9, h10, x1, x2, ecc, l24c, vv, vp, vq, undef]
                exact hG Wd hEd) ?_
              rintro Wd hEd
              try simp only [wA]
              first | refine wpK_onF (by simp []) ?_ | refine wpK_out (by simp []) ?_ | refine wCF (by simp []) ?_ | refine wEF (by simp []) (wpK_skip ?_) | refine wEF (by simp []) ?_
              simp only [lN, bN]
              refine wpK_keep (fun tm' => tm'.get 1 = some (pv) /\ tm'.get 2 = some (.pointer (some ⟨W.next, 0, none⟩)) /\ tm'.get 5 = some (fv) /\ tm'.get 6 = some (sv) /\ tm'.get 7 = some (.int .i64 (a : Int)) /\ tm'.get 8 = some (qv2) /\ tm'.get 9 = some (.int .i64 (i : Int)) /\ tm'.get 10 = some (.int .i64 (u : Int))) (by simp [h1, h2, h5, h6, h7, h8, h9, h10]) ?_
              rintro tm ⟨h1, h2, h5, h6, h7, h8, h9, h10⟩
              try simp only [wA]
              refine wpK_reg1 (fun R hR => by simp [h10]; exact hR) ?_
              exact hstay _ _ ⟨rfl, rfl, by simp [h1, h2, h5, h6, h7, h9], by simp [h1, h2, h5, h6, h7, h9], by simp [h1, h2, h5, h6, h7, h9], by simp [h1, h2, h5, h6, h7, h9], by simp [h1, h2, h5, h6, h7, h9], by simp [h1, h2, h5, h6, h7, h9]⟩ hEd (by simp [i64_succ u (by omega)]) (by simp [h8]) (fun _ hh => absurd hh hns)
            | false =>
              rw [hb3] at d1
              have hsu : S u := (hS u).2 ⟨hlu, hb3⟩
              cases hb4 : (TS qs).testBit u with
              | true =>
                rw [hb4] at d2
                have hin := TS_mem.1 hb4
                try simp only [wA]
                refine wpK_d0 (wr := Tr.nil |>.set 39 0 |>.set 40 1 |>.set 41 2 |>.set 42 3 |>.set 43 4 |>.set 44 5 |>.set 45 6 |>.set 46 7 |>.set 47 8 |>.set 48 9 |>.set 49 10 |>.set 50 11 |>.set 51 12 |>.set 52 13 |>.set 53 14 |>.set 54 15 |>.set 55 16 |>.set 56 17 |>.set 57 18) (bits := Tr.nil.lay 0 [0, 0, 0, 6, 14, 0, 63, 127, 255, 255, 1023, 2047, 4095, 8191, 16383, 16383, 65535, 131071, 262143]) (ord := [0, 1, 2, 3, 4, 5, 6, 7, 8, 9, 10, 11, 12, 13, 14, 15, 16, 17, 18]) (by kernel_rfl) (by kernel_rfl) (by kernel_rfl) (fun G hG => by
                  simp [h1, h2, h8, h9, h10, x1, x2, ecc, l24c, vv, vp, vq, undef, aEnter, fun64, sO, aCallV]
                  rw [dcallS_none]
                  refine hjw.mono ?_
                  rintro _ Wd ⟨hEd, rfl⟩
                  simp [hEd.1, hEd, h1, h2, h8, h9, h10, x1, x2, ecc, l24c, vv, vp, vq, undef, aEnter, fun33, sO, aCallV]
                  rw [dcallS_none]
                  refine (d1 Wd hEd).mono ?_
                  rintro _ W9 ⟨e9, rfl⟩; subst W9
                  simp [hEd.1, hEd, h1, h2, h8, h9, h10, x1, x2, ecc, l24c, vv, vp, vq, undef, aEnter, fun33, sO, aCallV]
                  rw [dcallS_none]
                  refine (d2 Wd hEd).mono ?_
                  rintro _ W9 ⟨e9, rfl⟩; subst W9
                  simp [hEd.1, hEd, h1, h2, h8, h9, h10, x1, x2, ecc, l24c, vv, vp, vq, undef]
                  exact hG Wd hEd) ?_
                rintro Wd hEd
                try simp only [wA]
                first | refine wpK_onF (by simp []) ?_ | refine wpK_out (by simp []) ?_ | refine wCF (by simp []) ?_ | refine wEF (by simp []) (wpK_skip ?_) | refine wEF (by simp []) ?_
                simp only [lN, bN]
                refine wpK_keep (fun tm' => tm'.get 1 = some (pv) /\ tm'.get 2 = some (.pointer (some ⟨W.next, 0, none⟩)) /\ tm'.get 5 = some (fv) /\ tm'.get 6 = some (sv) /\ tm'.get 7 = some (.int .i64 (a : Int)) /\ tm'.get 8 = some (qv2) /\ tm'.get 9 = some (.int .i64 (i : Int)) /\ tm'.get 10 = some (.int .i64 (u : Int))) (by simp [h1, h2, h5, h6, h7, h8, h9, h10]) ?_
                rintro tm ⟨h1, h2, h5, h6, h7, h8, h9, h10⟩
                try simp only [wA]
                refine wpK_reg1 (fun R hR => by simp [h10]; exact hR) ?_
                exact hstay _ _ ⟨rfl, rfl, by simp [h1, h2, h5, h6, h7, h9], by simp [h1, h2, h5, h6, h7, h9], by simp [h1, h2, h5, h6, h7, h9], by simp [h1, h2, h5, h6, h7, h9], by simp [h1, h2, h5, h6, h7, h9], by simp [h1, h2, h5, h6, h7, h9]⟩ hEd (by simp [i64_succ u (by omega)]) (by simp [h8]) (fun _ _ => hin)
              | false =>
                rw [hb4] at d2
                have hnin : u ∉ qs := fun hm => by have := TS_mem.2 hm; rw [hb4] at this; cases this
                try simp only [wA]
                refine wpK_d0 (wr := Tr.nil |>.set 39 0 |>.set 40 1 |>.set 41 2 |>.set 42 3 |>.set 43 4 |>.set 44 5 |>.set 45 6 |>.set 46 7 |>.set 47 8 |>.set 48 9 |>.set 49 10 |>.set 50 11 |>.set 51 12 |>.set 52 13 |>.set 53 14 |>.set 54 15 |>.set 55 16 |>.set 56 17 |>.set 57 18) (bits := Tr.nil.lay 0 [0, 0, 0, 6, 14, 0, 63, 127, 255, 255, 1023, 2047, 4095, 8191, 16383, 16383, 65535, 131071, 262143]) (ord := [0, 1, 2, 3, 4, 5, 6, 7, 8, 9, 10, 11, 12, 13, 14, 15, 16, 17, 18]) (by kernel_rfl) (by kernel_rfl) (by kernel_rfl) (fun G hG => by
                  simp [h1, h2, h8, h9, h10, x1, x2, ecc, l24c, vv, vp, vq, undef, aEnter, fun64, sO, aCallV]
                  rw [dcallS_none]
                  refine hjw.mono ?_
                  rintro _ Wd ⟨hEd, rfl⟩
                  simp [hEd.1, hEd, h1, h2, h8, h9, h10, x1, x2, ecc, l24c, vv, vp, vq, undef, aEnter, fun33, sO, aCallV]
                  rw [dcallS_none]
                  refine (d1 Wd hEd).mono ?_
                  rintro _ W9 ⟨e9, rfl⟩; subst W9
                  simp [hEd.1, hEd, h1, h2, h8, h9, h10, x1, x2, ecc, l24c, vv, vp, vq, undef, aEnter, fun33, sO, aCallV]
                  rw [dcallS_none]
                  refine (d2 Wd hEd).mono ?_
                  rintro _ W9 ⟨e9, rfl⟩; subst W9
                  simp [hEd.1, hEd, h1, h2, h8, h9, h10, x1, x2, ecc, l24c, vv, vp, vq, undef]
                  exact hG Wd hEd) ?_
                rintro Wd hEd
                try simp only [wA]
                first | refine wpK_onT (by simp []) ?_ | refine wpK_outT (by simp []) ?_ | refine wCT (by simp []) ?_ | refine wpK_endT (by simp []) ?_
                have hHd : HeldQ Wa Wd qv2 qs := HeldN.only hHq hEd (fun _ _ _ x => x)
                obtain ⟨qv', We, m1, m2, m3⟩ := hHd.push (by have := hOc.1; have := hEd.1; omega) (by omega) u
                refine wpK_keep (fun tm' => tm'.get 1 = some (pv) /\ tm'.get 2 = some (.pointer (some ⟨W.next, 0, none⟩)) /\ tm'.get 5 = some (fv) /\ tm'.get 6 = some (sv) /\ tm'.get 7 = some (.int .i64 (a : Int)) /\ tm'.get 8 = some (qv2) /\ tm'.get 9 = some (.int .i64 (i : Int)) /\ tm'.get 10 = some (.int .i64 (u : Int))) (by simp [h1, h2, h5, h6, h7, h8, h9, h10]) ?_
                rintro tm ⟨h1, h2, h5, h6, h7, h8, h9, h10⟩
                try simp only [wA]
                refine wpK_reg1 (fun R hR => by simp [h8, h10, bs31, m1]; exact hR) ?_
                simp only [lN, bN]
                refine wpK_keep (fun tm' => tm'.get 1 = some (pv) /\ tm'.get 2 = some (.pointer (some ⟨W.next, 0, none⟩)) /\ tm'.get 5 = some (fv) /\ tm'.get 6 = some (sv) /\ tm'.get 7 = some (.int .i64 (a : Int)) /\ tm'.get 8 = some (qv') /\ tm'.get 9 = some (.int .i64 (i : Int)) /\ tm'.get 10 = some (.int .i64 (u : Int))) (by simp [h1, h2, h5, h6, h7, h9, h10]) ?_
                rintro tm ⟨h1, h2, h5, h6, h7, h8, h9, h10⟩
                try simp only [wA]
                refine wpK_reg1 (fun R hR => by simp [h10]; exact hR) ?_
                refine hI3 (n - (u + 1)) _ _ (by omega) ⟨rfl, rfl, by simp [h1, h2, h5, h6, h7, h9], by simp [h1, h2, h5, h6, h7, h9], by simp [h1, h2, h5, h6, h7, h9], by simp [h1, h2, h5, h6, h7, h9], by simp [h1, h2, h5, h6, h7, h9], by simp [h1, h2, h5, h6, h7, h9], (hOc.trans (hEd.mono (fun b _ (hf : False) => hf.elim))).trans m3, u + 1, qv', qs ++ [u], by simp [i64_succ u (by omega)], by simp [h8], rfl, by omega, m2, hBf.push (by omega) hnin ((hBf.rch y hyq).step hj hsu), by simp; omega, by rw [pOf_app hli]; exact hy, fun r hr h4 h5 => ?_⟩
                by_cases e : r = u
                · subst e; simp
                · exact List.mem_append_left _ (hpart r (by omega) h4 h5)
          · rintro A' W' hf; exact hf.elim
          · clear hBf hHq hrow lq hqv hql hq0 hli hli' hym hy hiq
            rintro ⟨tm, n, ds⟩ Wc ⟨hn, hd, h1, h2, h5, h6, h7, h9, hOc, qv2, qs, h8, hHq, hBf, hli⟩
            simp only at hn hd h1 h2 h5 h6 h7 h9
            subst hn; subst hd
            simp only at h8
            have hql := (hBf.pc hSn (by omega)).2
            simp only [lN, bN]
            try simp only [wA]
            refine wpK_reg1 (fun R hR => by simp [h9]; exact hR) ?_
            exact hI2 (n - (i + 1)) _ _ (by omega) ⟨rfl, rfl, by simp [h1, h2, h5, h6, h7], by simp [h1, h2, h5, h6, h7], by simp [h1, h2, h5, h6, h7], by simp [h1, h2, h5, h6, h7], by simp [h1, h2, h5, h6, h7], hOc, i + 1, qv2, qs, by simp [i64_succ i (by omega)], by simp [h8], rfl, by omega, hHq, hBf⟩
        · rintro A' W' hf; exact hf.elim
        · rintro ⟨tm, n, ds⟩ Wb ⟨hn, hd, h1, h2, h5, h6, h7, hOb, qv, qs, h8, hHq, hBf⟩
          simp only at hn hd h1 h2 h5 h6 h7
          subst hn; subst hd
          simp only at h8
          obtain ⟨t1, t2⟩ := hsn.next hsa' hnm hS40 hBf
          have hql := (hBf.pc hSn (by omega)).2
          have hq0 : 0 < qs.length := List.length_pos_of_mem hBf.start
          have hnb := hOb.1
          have hrow := hHq.row hq0
          obtain ⟨Aq, cq, hqv⟩ := hrow.len
          rw [List.length_map] at hqv
          have hgs2 := hgs.only hOb (fun b hb hk hg => by have := (hKs b hk).2; omega)
          have hgf2 := hgf.only hOb (fun b hb hk hg => by have := (hKf b hk).2.1; omega)
          obtain ⟨sv', Wc, k1, k2, k3, k4, k5⟩ := hgs2.appRow (T := T0) (t := 31) encI_len encI_one (by omega) und31 inf3 is3 z3 rfl hrow (by rw [List.length_map, by3]; omega) (by rw [List.length_map]; omega)
          rw [List.length_map, <- natsV_flat] at k4
          have e1 : natsV sn ++ natsV qs = natsV (sn ++ qs) := by simp [natsV]
          have e2 : sn.length + qs.length = (sn ++ qs).length := by simp
          rw [e1, e2] at k4
          have hgf3 := hgf2.only k5 (fun b hb hk hg => (hKf b hk).2.2 hg)
          try simp only [wA]
          refine wpK_reg (fun R hR => by simp [h6, h8, k1]; exact hR) ?_
          obtain ⟨fv', Wd, m1, m2, m3, m4⟩ := grow_push2 (W := Wc) (t := 58) (el := 31) und58 inf31 is31 z31 rfl (by rw [by31]; omega) hgf3 (by omega) qv (by rw [hqv]; rfl)
          have bs := bs58 Wc Aq qs.length cq
          rw [<- hqv] at bs
          try simp only [wA]
          refine wpK_reg1 (fun R hR => by simp [h5, h8, bs, m1]; exact hR) ?_
          simp only [lN, bN]
          have k6 := k4.only (K' := Kf) m4 (fun b hb hk hg => by
            rcases hk with hk | hk
            · exact (hKf b hg).2.2 hk
            · have := (hKf b hg).2.1; omega)
          refine wpK_keep (fun tm' => tm'.get 1 = some (pv) /\ tm'.get 2 = some (.pointer (some ⟨W.next, 0, none⟩)) /\ tm'.get 5 = some (fv') /\ tm'.get 6 = some (sv') /\ tm'.get 7 = some (.int .i64 (a : Int))) (by simp [h1, h2, h5, h6, h7]) ?_
          rintro tm ⟨h1, h2, h5, h6, h7⟩
          try simp only [wA]
          refine wpK_reg1 (fun R hR => by simp [h7]; exact hR) ?_
          have hnd : (us ++ [qv]).length = us.length + 1 := by simp
          refine hI (n - (a + 1)) _ _ (by omega) ⟨rfl, rfl, by simp [h1, h2], by simp [h1, h2], ?_, a + 1, sv', fv', sn ++ qs, us ++ [qv], ls ++ [qs.length], fun b => Ks b \/ b = Wb.next, fun b => Kf b \/ b = Wc.next + 1, by simp [i64_succ a (by omega)], by simp [h6], by simp [h5], rfl, by omega, t1, by simp; omega, k6, by rw [hnd]; exact m3, by simp [hul], by simp; omega, fun q x l hx hl2 => ?_, fun l hl2 => ?_, by rw [sumL_app, hsum]; simp only [sumN]; rw [t2], fun b hb => ?_, fun b hb => ?_⟩
          · have hn := hEa.1
            exact ⟨by omega, fun b hb hk => by
              rw [m4.2 b (by omega) (fun hg => by have := (hKf b hg).1; omega), k5.2 b (by omega) (fun hg => by have := (hKs b hg).1; omega), hOb.2 b (by omega) (by omega)]
              exact hEa.2 b hb hk⟩
          · by_cases e : q < us.length
            · rw [List.getElem?_append_left e] at hx
              rw [List.getElem?_append_left (by omega)] at hl2
              exact hus q x l hx hl2
            · rw [List.getElem?_append_right (by omega)] at hx
              rw [List.getElem?_append_right (by omega)] at hl2
              have hq1 := (List.getElem?_eq_some_iff.1 hx).1
              simp at hq1
              rw [show q - us.length = 0 from by omega] at hx
              rw [show q - ls.length = 0 from by omega] at hl2
              cases hx; cases hl2
              exact ⟨_, _, hqv⟩
          · rcases List.mem_append.1 hl2 with h2' | h2'
            · exact hlen l h2'
            · simp at h2'; omega
          · have hn := hEa.1
            rcases hb with hb | hb
            · have := hKs b hb; omega
            · omega
          · have hn := hEa.1
            rcases hb with hb | hb
            · have := hKf b hb
              refine ⟨this.1, by omega, ?_⟩
              rintro (hh | hh)
              · exact this.2.2 hh
              · omega
            · refine ⟨by omega, by omega, ?_⟩
              rintro (hh | hh)
              · have := hKs b hh; omega
              · omega
  · rintro A' W' hf; exact hf.elim
  · rintro ⟨tm, m, ds⟩ Wz ⟨e1, e2, hEz, fv, us, ls, Kf, h5, hgf, hul, hls, hus, hlen, hsum⟩
    simp only at e1 e2 h5
    subst e1; subst e2
    try simp only [wA]
    refine wpK_reg (fun R hR => by simp [h5]; exact hR) ?_
    exact wpK_ret ⟨.inr rfl, rfl, [fv], by simp, hE1.trans hEz, ls, ⟨us, hul, vals_row hgf, hus⟩, hls, hlen, hsum⟩
theorem cntB_disj {x y : Nat} (h : ∀ r, x.testBit r = true -> y.testBit r = false) : ∀ m : Nat, cntB m (x ||| y) = cntB m x + cntB m y
 | 0 => rfl
 | m + 1 => by
  have ih := cntB_disj h m
  simp only [cntB, Nat.testBit_or]
  have := h m
  cases hx : x.testBit m <;> cases hy : y.testBit m <;> simp_all <;> omega
open Classical in
noncomputable def totF (Aj : Nat -> Nat -> Prop) (S : Nat -> Prop) (v : Nat) : Int := if S v /\ ∀ u, u < v -> ¬ Rch Aj S v u then ((pc (bitsOf (Rch Aj S v) 40) : Nat) : Int) else 0
theorem tot_root (Aj : Nat -> Nat -> Prop) (S : Nat -> Prop) : ∀ n : Nat, ∃ c : Nat, sumN n (totF Aj S) = sumN n (rootF Aj S) + 2 * (c : Int)
 | 0 => ⟨0, rfl⟩
 | n + 1 => by
  obtain ⟨c, hc⟩ := tot_root Aj S n
  simp only [sumN]
  by_cases h : S n /\ ∀ u, u < n -> ¬ Rch Aj S n u
  ·rw [totF, if_pos h, rootF, if_pos h]
   generalize pc (bitsOf (Rch Aj S n) 40) = p
   exact ⟨c + p / 2, by omega⟩
  ·rw [totF, if_neg h, rootF, if_neg h]
   exact ⟨c, by omega⟩
theorem tot_part {Aj : Nat -> Nat -> Prop} {S : Nat -> Prop} (hsy : ∀ q r, Aj q r -> Aj r q) (h40 : ∀ r, S r -> r < 40) : ∀ a : Nat, ((pc (bitsOf (fun r => ∃ u, u < a /\ Rch Aj S u r) 40) : Nat) : Int) = sumN a (totF Aj S)
 | 0 => by
  have : bitsOf (fun r => ∃ u, u < 0 /\ Rch Aj S u r) 40 = 0 := bits_eq fun r => by
   rw [bitsOf_bit]; constructor
   ·rintro ⟨_, u, hu, _⟩; omega
   ·intro h; simp at h
  rw [this]; exact congrArg Int.ofNat (cntB_zero 40)
 | a + 1 => by
  have ih := tot_part hsy h40 a
  simp only [sumN]
  rw [<- ih]
  by_cases h : S a /\ ∀ u, u < a -> ¬ Rch Aj S a u
  ·rw [totF, if_pos h]
   have e : bitsOf (fun r => ∃ u, u < a + 1 /\ Rch Aj S u r) 40 = bitsOf (fun r => ∃ u, u < a /\ Rch Aj S u r) 40 ||| bitsOf (Rch Aj S a) 40 := bits_eq fun r => by
    rw [Nat.testBit_or, Bool.or_eq_true, bitsOf_bit, bitsOf_bit, bitsOf_bit]
    constructor
    ·rintro ⟨h1, u, hu, hr⟩
     by_cases e : u = a
     ·subst e; exact .inr ⟨h1, hr⟩
     ·exact .inl ⟨h1, u, by omega, hr⟩
    ·rintro (⟨h1, u, hu, hr⟩ | ⟨h1, hr⟩)
     ·exact ⟨h1, u, by omega, hr⟩
     ·exact ⟨h1, a, by omega, hr⟩
   have hd := cntB_disj (x := bitsOf (fun r => ∃ u, u < a /\ Rch Aj S u r) 40) (y := bitsOf (Rch Aj S a) 40) (fun r hr => by
    cases hb : (bitsOf (Rch Aj S a) 40).testBit r with
    | false => rfl
    | true =>
     obtain ⟨_, u, hu, h1⟩ := bitsOf_bit.1 hr
     exact absurd ((bitsOf_bit.1 hb).2.trans (h1.symm hsy)) (h.2 u hu)) 40
   rw [e]
   show ((cntB 40 _ : Nat) : Int) = ((cntB 40 _ : Nat) : Int) + ((cntB 40 _ : Nat) : Int)
   rw [hd]; omega
  ·rw [totF, if_neg h]
   have e : bitsOf (fun r => ∃ u, u < a + 1 /\ Rch Aj S u r) 40 = bitsOf (fun r => ∃ u, u < a /\ Rch Aj S u r) 40 := bits_eq fun r => by
    rw [bitsOf_bit, bitsOf_bit]
    constructor
    ·rintro ⟨h1, u, hu, hr⟩
     by_cases e : u = a
     ·subst e
      have : ∃ w, w < u /\ Rch Aj S u w := by
       apply Classical.byContradiction
       intro hn
       exact h ⟨hr.mem0, fun w hw hr2 => hn ⟨w, hw, hr2⟩⟩
      obtain ⟨w, hw, hr2⟩ := this
      exact ⟨h1, w, hw, (hr2.symm hsy).trans hr⟩
     ·exact ⟨h1, u, by omega, hr⟩
    ·rintro ⟨h1, u, hu, hr⟩
     exact ⟨h1, u, by omega, hr⟩
   rw [e]; omega
theorem parts_total {Aj : Nat -> Nat -> Prop} {S : Nat -> Prop} (hsy : ∀ q r, Aj q r -> Aj r q) {n : Nat} (hn : n <= 40) (hS : ∀ r, S r -> r < n) : ∃ c : Nat, ((pc (bitsOf S 40) : Nat) : Int) = sumN n (rootF Aj S) + 2 * (c : Int) := by
 obtain ⟨c, hc⟩ := tot_root Aj S n
 refine ⟨c, ?_⟩
 rw [<- hc, <- tot_part hsy (fun r hr => by have := hS r hr; omega) n]
 have : bitsOf S 40 = bitsOf (fun r => ∃ u, u < n /\ Rch Aj S u r) 40 := bits_eq fun r => by
  rw [bitsOf_bit, bitsOf_bit]
  constructor
  ·rintro ⟨h1, h2⟩; exact ⟨h1, r, hS r h2, .start h2⟩
  ·rintro ⟨h1, u, _, hr⟩; exact ⟨h1, hr.mem⟩
 rw [this]
def Sof (n : Nat) (s : List Int) (r : Nat) : Prop := r < n /\ ∀ i, i < s.length -> gI s i ≠ (r : Int)
theorem rises_lt {P : Int} {s : List Int} (h : RisTo P s s.length) : ∀ (j i : Nat), i < j -> j < s.length -> gI s i < gI s j
 | 0, i, hi, _ => by omega
 | j + 1, i, hi, hj => by
  have h1 := (h (j + 1) hj).2.2 (by omega)
  rw [Nat.add_sub_cancel] at h1
  by_cases e : i = j
  ·subst e; exact h1
  ·have := rises_lt h j i (by omega) (by omega); omega
theorem rises_list {P : Int} {s : List Int} (h : RisTo P s s.length) : ∃ ps : List Nat, s = ps.map Int.ofNat /\ (∀ i, i < ps.length -> (pOf ps i : Int) = gI s i) /\ (∀ i j, i < j -> j < ps.length -> pOf ps i ≠ pOf ps j) := by
 have e : s = (s.map Int.toNat).map Int.ofNat := by
  rw [List.map_map]
  refine (List.map_id' s).symm.trans (List.map_congr_left fun x hx => ?_)
  obtain ⟨i, hi, e⟩ := List.getElem_of_mem hx
  have := gI_some hi
  rw [List.getElem?_eq_getElem hi] at this
  have e2 : gI s i = x := by rw [<- e]; exact (Option.some.inj this).symm
  have h0 := (h i hi).1
  show x = Int.ofNat x.toNat
  rw [e2] at h0
  exact (Int.toNat_of_nonneg h0).symm
 have g : ∀ i, i < (s.map Int.toNat).length -> (pOf (s.map Int.toNat) i : Int) = gI s i := fun i hi => by
  simp at hi
  have h0 := (h i hi).1
  have h1 := gI_some hi
  rw [pOf, List.getD_eq_getElem?_getD, List.getElem?_map, h1]
  exact Int.toNat_of_nonneg h0
 refine ⟨s.map Int.toNat, e, g, fun i j hij hj he => ?_⟩
 have g1 := g i (by omega)
 have g2 := g j hj
 have := rises_lt h j i hij (by simpa using hj)
 rw [he] at g1
 omega
def BarIs (n : Nat) (es : List Edge) (s : List Int) (k : Int) : Prop := RisTo (n : Int) s s.length /\ 2 * k = (n : Int) + s.length - sumN 40 (rootF (AjE es) (Sof n s))
theorem bar_facts {n : Nat} (hn : n <= 40) {es : List Edge} {s : List Int} (h : RisTo (n : Int) s s.length) : s.length <= n /\ ∃ c : Nat, (n : Int) - s.length = sumN 40 (rootF (AjE es) (Sof n s)) + 2 * (c : Int) := by
 obtain ⟨ps, e, g, d⟩ := rises_list h
 have hl : ps.length = s.length := by rw [e]; simp
 have hlt : ∀ i, i < ps.length -> pOf ps i < n := fun i hi => by
  have h1 := (h i (by omega)).2.1
  have h2 := g i hi
  omega
 have hpc : pc (TS ps) = ps.length := tk_cnt (n := n) hn hlt d
 have hle : ps.length <= n := by rw [<- hpc]; exact (cntB_le (n := n) (x := TS ps) (tk_lt hlt) 40).1
 have hSb : ∀ r, Sof n s r -> r < n := fun r hr => hr.1
 obtain ⟨c, hc⟩ := parts_total (Aj := AjE es) (S := Sof n s) AjE.symm hn hSb
 have hbit : ∀ r, (TS ps).testBit r = true ↔ ∃ i, i < s.length /\ gI s i = (r : Int) := fun r => by
  rw [TS_bit]
  constructor
  ·rintro ⟨i, hi, e2⟩; exact ⟨i, by omega, by rw [<- g i hi, e2]⟩
  ·rintro ⟨i, hi, e2⟩; exact ⟨i, by omega, by have := g i (by omega); omega⟩
 have hfull : bitsOf (Sof n s) 40 ||| TS ps = 2 ^ n - 1 := bits_eq fun r => by
  rw [Nat.testBit_or, Bool.or_eq_true, bitsOf_bit, hbit r, full_bit, decide_eq_true_iff]
  constructor
  ·rintro (⟨_, h2⟩ | ⟨i, hi, e2⟩)
   ·exact h2.1
   ·have := (h i hi).2.1; omega
  ·intro hr
   by_cases hh : ∃ i, i < s.length /\ gI s i = (r : Int)
   ·exact .inr hh
   ·exact .inl ⟨by omega, hr, fun i hi e2 => hh ⟨i, hi, e2⟩⟩
 have hdis := cntB_disj (x := bitsOf (Sof n s) 40) (y := TS ps) (fun r hr => by
  cases hb : (TS ps).testBit r with
  | false => rfl
  | true =>
   obtain ⟨i, hi, e2⟩ := (hbit r).1 hb
   exact absurd e2 ((bitsOf_bit.1 hr).2.2 i hi)) 40
 rw [hfull, cntB_full] at hdis
 have h1 : cntB 40 (TS ps) = ps.length := hpc
 have h2 : sumN 40 (rootF (AjE es) (Sof n s)) = sumN n (rootF (AjE es) (Sof n s)) := sumN_skip hn (fun v h1 _ => rootF_not (fun hh => by have := hh.1.1; omega))
 have hc : ((cntB 40 (bitsOf (Sof n s) 40) : Nat) : Int) = _ := hc
 refine ⟨by omega, c, ?_⟩
 rw [h2]
 omega
section
open Classical
noncomputable def listOf (C : Nat -> Prop) : List Nat := (List.range 40).filter fun x => decide (C x)
theorem listOf_mem {C : Nat -> Prop} {x : Nat} : x ∈ listOf C ↔ x < 40 /\ C x := by simp [listOf]
theorem listOf_nodup (C : Nat -> Prop) : (listOf C).Nodup := List.nodup_range.filter _
theorem range_cnt {C : Nat -> Prop} : ∀ m, m <= 40 -> cntB m (bitsOf C 40) = ((List.range m).filter fun x => decide (C x)).length
 | 0, _ => rfl
 | m + 1, h => by
  have ih := range_cnt (C := C) m (by omega)
  rw [List.range_succ, List.filter_append, List.length_append, <- ih]
  simp only [cntB]
  by_cases hc : C m
  ·rw [if_pos (bitsOf_bit.2 ⟨by omega, hc⟩)]; simp [hc]
  ·rw [if_neg (fun hh => hc (bitsOf_bit.1 hh).2)]; simp [hc]
theorem pc_list (C : Nat -> Prop) : pc (bitsOf C 40) = (listOf C).length := range_cnt 40 (Nat.le_refl _)
theorem sum_list {f : Nat -> Int} (h : ∀ v, f v = 0 \/ f v = 1) : ∀ m, sumN m f = (((List.range m).filter fun x => decide (f x = 1)).length : Int)
 | 0 => rfl
 | m + 1 => by
  rw [List.range_succ, List.filter_append, List.length_append]
  simp only [sumN]
  rw [sum_list h m]
  rcases h m with e | e
  ·simp [e]
  ·simp [e]
theorem inj_le {g : Nat -> Nat} : ∀ {l s : List Nat}, l.Nodup -> (∀ x ∈ l, g x ∈ s) -> (∀ x ∈ l, ∀ y ∈ l, g x = g y -> x = y) -> l.length <= s.length
 | [], _, _, _, _ => Nat.zero_le _
 | x :: l, s, hn, hs, hi => by
  rw [List.nodup_cons] at hn
  have hx := hs x List.mem_cons_self
  have := inj_le (l := l) (s := s.filter fun y => decide (y ≠ g x)) hn.2 (fun y hy => List.mem_filter.2 ⟨hs y (List.mem_cons_of_mem _ hy), decide_eq_true fun e => by
   have := hi y (List.mem_cons_of_mem _ hy) x List.mem_cons_self e
   subst this; exact hn.1 hy⟩) (fun a ha b hb => hi a (List.mem_cons_of_mem _ ha) b (List.mem_cons_of_mem _ hb))
  have h2 := filter_lt (l := s) (p := fun y => decide (y ≠ g x)) hx (by simp)
  simp only [List.length_cons]; omega
theorem even_inv {f : Nat -> Nat} : ∀ (k : Nat) (L : List Nat), L.length <= k -> L.Nodup -> (∀ x ∈ L, f x ∈ L /\ f x ≠ x /\ f (f x) = x) -> L.length % 2 = 0
 | _, [], _, _, _ => rfl
 | 0, _ :: _, h, _, _ => by simp at h
 | k + 1, x :: L, h, hn, hf => by
  rw [List.nodup_cons] at hn
  obtain ⟨h1, h2, h3⟩ := hf x List.mem_cons_self
  have hL : f x ∈ L := (List.mem_cons.1 h1).resolve_left h2
  have hlen := List.length_erase_of_mem hL
  have hpos := List.length_pos_of_mem hL
  have ih := even_inv k (L.erase (f x)) (by simp only [List.length_cons] at h; omega) (hn.2.erase _) (fun y hy => by
   rw [hn.2.mem_erase_iff] at hy
   obtain ⟨g1, g2, g3⟩ := hf y (List.mem_cons_of_mem _ hy.2)
   refine ⟨?_, g2, g3⟩
   rw [hn.2.mem_erase_iff]
   refine ⟨fun e => ?_, (List.mem_cons.1 g1).resolve_left fun e => ?_⟩
   ·have : y = x := by rw [<- g3, e, h3]
    subst this; exact hn.1 hy.2
   ·exact hy.1 (by rw [<- e, g3]))
  simp only [List.length_cons]; omega
variable {n : Nat} {J : Nat -> Nat -> Prop} {mt : Nat -> Int}
theorem even_paired (hm : Mt n J mt) (hJi : ∀ x, ¬ J x x) {L : List Nat} (hL : L.Nodup) (hlt : ∀ x ∈ L, x < n) (hp : ∀ x ∈ L, ∃ y : Nat, mt x = (y : Int) /\ y ∈ L) : L.length % 2 = 0 := by
 refine even_inv (f := fun x => (mt x).toNat) L.length L (Nat.le_refl _) hL (fun x hx => ?_)
 obtain ⟨y, e, hy⟩ := hp x hx
 have e2 := hm.sym (hlt x hx) e
 simp only [e, Int.toNat_natCast, e2]
 exact ⟨hy, fun h => by subst h; exact hJi _ (hm.adj (hlt _ hx) e), trivial⟩
theorem berge_weak (hm : Mt n J mt) (hJi : ∀ x, ¬ J x x) (hsy : ∀ x y, J x y -> J y x) (hn : n <= 40) {S : Nat -> Prop} (hS : ∀ r, S r -> r < n) :
  sumN 40 (rootF J S) <= (((listOf fun x => x < n /\ mt x = -1).length + (listOf fun x => x < n /\ ¬ S x).length : Nat) : Int) := by
 have h01 : ∀ v, rootF J S v = 0 \/ rootF J S v = 1 := fun v => by have := rootF_in (Aj := J) (S := S) v; omega
 rw [sum_list h01 40]
 have hodd : ∀ v, rootF J S v = 1 -> S v /\ (∀ u, u < v -> ¬ Rch J S v u) /\ pc (bitsOf (Rch J S v) 40) % 2 = 1 := fun v hv => by
  unfold rootF at hv
  split at hv
  ·rename_i h; exact ⟨h.1, h.2, by omega⟩
  ·cases hv
 have hex : ∀ v, rootF J S v = 1 -> ∃ z x : Nat, Rch J S v x /\ ((mt x = -1 /\ z = x) \/ (mt x = (z : Int) /\ ¬ S z)) := fun v hv => by
  apply byContradiction
  intro hno
  obtain ⟨_, _, h3⟩ := hodd v hv
  rw [pc_list] at h3
  have := even_paired hm hJi (listOf_nodup (Rch J S v)) (fun x hx => hS x (listOf_mem.1 hx).2.mem) (fun x hx => by
   have hr := (listOf_mem.1 hx).2
   rcases hm.rng (hS x hr.mem) with e | ⟨y, hy, e⟩
   ·exact absurd ⟨x, x, hr, .inl ⟨e, rfl⟩⟩ hno
   ·refine ⟨y, e, listOf_mem.2 ⟨by omega, ?_⟩⟩
    by_cases hSy : S y
    ·exact hr.step (hm.adj (hS x hr.mem) e) hSy
    ·exact absurd ⟨y, x, hr, .inr ⟨e, hSy⟩⟩ hno)
  omega
 let g : Nat -> Nat := fun v => if h : rootF J S v = 1 then Classical.choose (hex v h) else 0
 have hg : ∀ v, rootF J S v = 1 -> ∃ x : Nat, Rch J S v x /\ ((mt x = -1 /\ g v = x) \/ (mt x = (g v : Int) /\ ¬ S (g v))) := fun v hv => by
  have := Classical.choose_spec (hex v hv)
  simp only [g, dif_pos hv]; exact this
 have hle := inj_le (g := g) (l := (List.range 40).filter fun x => decide (rootF J S x = 1)) (s := (listOf fun x => x < n /\ mt x = -1) ++ listOf fun x => x < n /\ ¬ S x) (List.nodup_range.filter _) (fun v hv => by
  simp only [List.mem_filter, List.mem_range, decide_eq_true_eq] at hv
  obtain ⟨x, hr, h | h⟩ := hg v hv.2
  ·have := hS x hr.mem
   exact List.mem_append.2 (.inl (listOf_mem.2 ⟨by omega, by omega, by rw [h.2]; exact h.1⟩))
  ·have := hm.lt (hS x hr.mem) h.1
   exact List.mem_append.2 (.inr (listOf_mem.2 ⟨by omega, by omega, h.2⟩))) (fun v hv u hu e => by
  simp only [List.mem_filter, List.mem_range, decide_eq_true_eq] at hv hu
  obtain ⟨x, hr, h⟩ := hg v hv.2
  obtain ⟨y, hr2, h2⟩ := hg u hu.2
  have same : x = y -> v = u := fun e => by
   subst e
   obtain ⟨_, b1, _⟩ := hodd v hv.2
   obtain ⟨_, b2, _⟩ := hodd u hu.2
   have r1 := hr.trans (hr2.symm hsy)
   rcases Nat.lt_trichotomy v u with c | c | c
   ·exact absurd (r1.symm hsy) (b2 v c)
   ·exact c
   ·exact absurd r1 (b1 u c)
  rcases h with h | h
  ·rcases h2 with h2 | h2
   ·exact same (by rw [<- h.2, <- h2.2, e])
   ·exact absurd hr.mem (by rw [<- h.2, e]; exact h2.2)
  ·rcases h2 with h2 | h2
   ·exact absurd hr2.mem (by rw [<- h2.2, <- e]; exact h.2)
   ·have hx := hS x hr.mem
    have hy := hS y hr2.mem
    rw [<- e] at h2
    exact same (hm.inj hx hy h.1 h2.1))
 rw [List.length_append] at hle
 exact_mod_cast hle
theorem berge_strong {D A : Nat -> Prop} {cl : Nat -> Nat} (hm : Mt n J mt) (hJi : ∀ x, ¬ J x x) (hsy : ∀ x y, J x y -> J y x) (hn : n <= 40) (h : Dn n J mt D A cl) (hall : ∀ x, x < n -> mt x = -1 -> D x) :
  (((listOf fun x => x < n /\ mt x = -1).length + (listOf A).length : Nat) : Int) <= sumN 40 (rootF J fun r => r < n /\ ¬ A r) := by
 have h01 : ∀ v, rootF J (fun r => r < n /\ ¬ A r) v = 0 \/ rootF J (fun r => r < n /\ ¬ A r) v = 1 := fun v => by have := rootF_in (Aj := J) (S := fun r => r < n /\ ¬ A r) v; omega
 rw [sum_list h01 40]
 obtain ⟨S, hS⟩ : ∃ S : Nat -> Prop, S = fun r => r < n /\ ¬ A r := ⟨_, rfl⟩
 rw [<- hS]
 have hSD : ∀ x, D x -> S x := fun x hx => by rw [hS]; exact ⟨h.dlt hx, h.dis hx⟩
 have hSn : ∀ x, S x -> x < n /\ ¬ A x := fun x hx => by rw [hS] at hx; exact hx
 -- the part of a base
 have part : ∀ {b x : Nat}, D b -> cl b = b -> (Rch J S b x ↔ D x /\ cl x = b) := fun {b x} hb hc => by
  constructor
  ·intro hr
   induction hr with
   | start _ => exact ⟨hb, hc⟩
   | step _ hJ hSr ih =>
    obtain ⟨i1, i2⟩ := ih
    rcases h.clo i1 hJ (hSn _ hSr).1 with g | g
    ·exact ⟨g.1, by rw [g.2, i2]⟩
    ·exact absurd g (hSn _ hSr).2
  ·rintro ⟨hx, e⟩
   refine h.con hx (Rch J S b) (by rw [e]; exact .start (hSD _ hb)) (fun y z hy hz e1 e2 hJ hr => hr.step hJ (hSD _ hz))
 -- which is odd
 have oddP : ∀ {b : Nat}, D b -> cl b = b -> ∀ u, Rch J S b u -> pc (bitsOf (Rch J S u) 40) % 2 = 1 := fun {b} hb hc u hu => by
  rw [pc_list]
  have hmem : ∀ x, x ∈ listOf (Rch J S u) ↔ D x /\ cl x = b := fun x => by
   rw [listOf_mem]
   constructor
   ·intro hx; exact (part hb hc).1 (hu.trans hx.2)
   ·intro hx; exact ⟨by have := h.dlt hx.1; omega, (hu.symm hsy).trans ((part hb hc).2 hx)⟩
  have hbm := (hmem b).2 ⟨hb, hc⟩
  have hnd := listOf_nodup (Rch J S u)
  have hlen := List.length_erase_of_mem hbm
  have hpos := List.length_pos_of_mem hbm
  have := even_paired hm hJi (hnd.erase b) (fun x hx => by
   rw [hnd.mem_erase_iff] at hx
   exact h.dlt ((hmem x).1 hx.2).1) (fun x hx => by
   rw [hnd.mem_erase_iff] at hx
   obtain ⟨x1, x2⟩ := (hmem x).1 hx.2
   obtain ⟨y, y1, y2, y3⟩ := h.inn x1 (by rw [x2]; exact hx.1)
   refine ⟨y, y1, ?_⟩
   rw [hnd.mem_erase_iff, hmem]
   refine ⟨fun e => ?_, y2, by rw [y3, x2]⟩
   -- the mate of the base is no point of D
   subst e
   have e2 := hm.sym (h.dlt x1) y1
   rcases h.bas hb hc.symm with g | ⟨z, g1, g2⟩
   ·omega
   ·have : z = x := by omega
    subst this; exact h.dis x1 g2)
  omega
 -- free points and mates of A are bases
 have hfree : ∀ x, x < n -> mt x = -1 -> D x /\ cl x = x := fun x hx e => by
  refine ⟨hall x hx e, ?_⟩
  apply byContradiction
  intro hne
  obtain ⟨y, y1, _⟩ := h.inn (hall x hx e) (fun e => hne e.symm)
  omega
 have hmate : ∀ y, A y -> ∃ x : Nat, mt y = (x : Int) /\ D x /\ cl x = x := fun y hy => by
  obtain ⟨x, x1, x2⟩ := h.mA hy
  refine ⟨x, x1, x2, ?_⟩
  apply byContradiction
  intro hne
  obtain ⟨z, z1, z2, _⟩ := h.inn x2 (fun e => hne e.symm)
  have e2 := hm.sym (h.alt hy) x1
  have : z = y := by omega
  subst this; exact h.dis z2 hy
 have le1 := inj_le (g := fun x => if A x then (mt x).toNat else x) (l := (listOf fun x => x < n /\ mt x = -1) ++ listOf A) (s := listOf fun b => D b /\ cl b = b) (List.nodup_append.2 ⟨listOf_nodup _, listOf_nodup _, fun x hx y hy e => by
   subst e
   have hy := (listOf_mem.1 hy).2
   have hx := (listOf_mem.1 hx).2
   exact h.dis (hall x hx.1 hx.2) hy⟩) (fun x hx => by
   rcases List.mem_append.1 hx with hx | hx
   ·obtain ⟨_, x1, x2⟩ := listOf_mem.1 hx
    have := hfree x x1 x2
    rw [if_neg (h.dis this.1)]
    exact listOf_mem.2 ⟨by omega, this⟩
   ·obtain ⟨_, x1⟩ := listOf_mem.1 hx
    obtain ⟨y, y1, y2⟩ := hmate x x1
    rw [if_pos x1, y1]
    exact listOf_mem.2 ⟨by have := h.dlt y2.1; simp only [Int.toNat_natCast]; omega, by simpa using y2⟩) (fun x hx y hy e => by
   have cs : ∀ x, x ∈ (listOf fun x => x < n /\ mt x = -1) ++ listOf A -> (¬ A x /\ x < n /\ mt x = -1) \/ (A x /\ ∃ z : Nat, mt x = (z : Int)) := fun x hx => by
    rcases List.mem_append.1 hx with hx | hx
    ·obtain ⟨_, x1, x2⟩ := listOf_mem.1 hx
     exact .inl ⟨h.dis (hfree x x1 x2).1, x1, x2⟩
    ·obtain ⟨_, x1⟩ := listOf_mem.1 hx
     obtain ⟨y, y1, y2⟩ := hmate x x1
     exact .inr ⟨x1, y, y1⟩
   rcases cs x hx with ⟨a1, a2, a3⟩ | ⟨a1, z, a2⟩
   ·rw [if_neg a1] at e
    rcases cs y hy with ⟨b1, b2, b3⟩ | ⟨b1, z, b2⟩
    ·rw [if_neg b1] at e; exact e
    ·rw [if_pos b1, b2, Int.toNat_natCast] at e
     have := hm.sym (h.alt b1) b2
     rw [<- e] at this; omega
   ·rw [if_pos a1, a2, Int.toNat_natCast] at e
    rcases cs y hy with ⟨b1, b2, b3⟩ | ⟨b1, z2, b2⟩
    ·rw [if_neg b1] at e
     have := hm.sym (h.alt a1) a2
     rw [e] at this; omega
    ·rw [if_pos b1, b2, Int.toNat_natCast] at e
     rw [<- e] at b2
     exact hm.inj (h.alt a1) (h.alt b1) a2 b2)
 have hroot : ∀ b, D b /\ cl b = b -> ∃ u, Rch J S b u /\ ∀ v, v < u -> ¬ Rch J S u v := fun b hb => by
  have ex : ∃ u, Rch J S b u := ⟨b, .start (hSD _ hb.1)⟩
  have least : ∀ k, (∃ u, u <= k /\ Rch J S b u) -> ∃ u, Rch J S b u /\ ∀ v, v < u -> ¬ Rch J S b v := fun k => by
   induction k with
   | zero => rintro ⟨u, hu, hr⟩; exact ⟨u, hr, fun v hv => by omega⟩
   | succ k ih =>
    rintro ⟨u, hu, hr⟩
    by_cases hk : ∃ u, u <= k /\ Rch J S b u
    ·exact ih hk
    ·exact ⟨u, hr, fun v hv h2 => hk ⟨v, by omega, h2⟩⟩
  obtain ⟨u, hr, hl⟩ := least b ⟨b, Nat.le_refl _, .start (hSD _ hb.1)⟩
  exact ⟨u, hr, fun v hv h2 => hl v hv (hr.trans h2)⟩
 let g : Nat -> Nat := fun b => if h : D b /\ cl b = b then Classical.choose (hroot b h) else 0
 have hg : ∀ b, D b /\ cl b = b -> Rch J S b (g b) /\ ∀ v, v < g b -> ¬ Rch J S (g b) v := fun b hb => by
  have := Classical.choose_spec (hroot b hb)
  simp only [g, dif_pos hb]; exact this
 have le2 := inj_le (g := g) (l := listOf fun b => D b /\ cl b = b) (s := (List.range 40).filter fun x => decide (rootF J S x = 1)) (listOf_nodup _) (fun b hb => by
   obtain ⟨_, hb⟩ := listOf_mem.1 hb
   obtain ⟨g1, g2⟩ := hg b hb
   have hn1 := (hSn _ g1.mem).1
   simp only [List.mem_filter, List.mem_range, decide_eq_true_eq]
   refine ⟨by omega, ?_⟩
   unfold rootF
   rw [if_pos ⟨g1.mem, g2⟩, oddP hb.1 hb.2 _ g1]; rfl) (fun a ha b hb e => by
   obtain ⟨_, ha⟩ := listOf_mem.1 ha
   obtain ⟨_, hb⟩ := listOf_mem.1 hb
   obtain ⟨g1, _⟩ := hg a ha
   obtain ⟨g2, _⟩ := hg b hb
   rw [<- e] at g2
   have k1 := ((part ha.1 ha.2).1 g1).2
   have k2 := ((part hb.1 hb.2).1 g2).2
   rw [<- k1, <- k2])
 rw [List.length_append] at le1
 exact_mod_cast Nat.le_trans le1 le2
end
theorem all_wp {W : AW} {pw n : Nat} {J : List Nat} (hVw : Var W pw 108 (.int .i64 (n : Int) :: J.map setV)) (hn : n <= 40) :
  WpF T0 63 [.pointer (some ⟨pw, 0, none⟩)] W (fun u W' => W' = W /\ u = .int .u64 ((2 ^ n - 1 : Nat) : Int)) := by
 have l0 := hVw.load1 (T := T0) und3 rfl (j := 0) (v := .int .i64 (n : Int)) rfl
 refine wpF fun63 rfl ?_
 try simp only [wA]
 refine wpK_reg (fun R hR => by simp []; exact hR) ?_
 have hb := below_wp n (by omega) W
 generalize 2 ^ n - 1 = m at hb ⊢
 try simp only [wA]
 refine wpK_reg (fun R hR => by
  simp [l0, aEnter, fun75, sO, aCallV]; rw [cN]
  refine hb.mono ?_
  rintro _ W9 ⟨e9, rfl⟩; subst W9
  simp; exact hR) ?_
 exact wpK_ret ⟨.inr rfl, rfl, [.int .u64 (m : Int)], by simp, rfl, rfl⟩
open Classical in
theorem isBarrier_ok {W : AW} {v sv : Value} {n : Nat} {es : List Edge} {s : List Int} (h : PairR W v es) (hl : es.length < 4611686018427387904) (hg : GraphOk (n : Int) es) (hn12 : n <= 11) (hs : IntN W sv s) (hsl : s.length < 4611686018427387904) (hT : tabsIn T0 T0.tabs W = true) (hN0 : 0 < W.next) (k : Int) :
  WpF T0 22 [.agg ⟨[.int .i64 (n : Int), v]⟩, sv, .int .i64 k] W (fun u W' => Ext W W' /\ ∃ b, u = .bool b /\ (b = true ↔ BarIs n es s k)) := by
 refine wpF fun22 rfl ?_
 obtain ⟨W1, hW1, hE1, hV⟩ : ∃ W1, W1 = W.newCells 25 [.int .i64 (n : Int), v] /\ Ext W W1 /\ Var W1 W.next 25 [.int .i64 (n : Int), v] := ⟨_, rfl, .newCells _ _ _, Var.new _ _ _⟩
 have hl1 := load25 hV
 obtain ⟨A, c, hv⟩ := hs.len
 have ls : ∀ W', aLen T0 W' 31 sv = some (.int .i64 (s.length : Int)) := fun W' => by rw [hv]; exact len_slice und31 _ _ _
 try simp only [wA]
 refine wpK_reg (fun R hR => by simp [<- hW1]; exact hR) ?_
 try simp only [wA]
 refine wpK_x1 (fun R hR => by
   simp [hl1, opExtract, aExtract, aEnter, fun54, sO, aCallV]; rw [cN]
   refine (lay_ok (h.ext hE1) hl hg).mono ?_
   rintro _ W2 ⟨hE2, pw, hpw, rfl, hWeb⟩
   simp [hl1, opExtract, aExtract]; exact hR pw W2 (And.intro hE2 hWeb)) ?_
 rintro pw W2 ⟨hE2, hWeb⟩
 obtain ⟨J, hJ, hVw⟩ := hWeb
 have hE12 := hE1.trans hE2
 have l0 : ∀ W', Ext W2 W' -> aLoadVar T0 W' 3 W.next 0 = some (.int .i64 (n : Int)) := fun W' hE => ((hV.ext hE2).ext hE).load1 (T := T0) und3 rfl (j := 0) (v := .int .i64 (n : Int)) rfl
 have e22 : Ext W2 W2 := .refl _ _
 try simp only [wA]
 refine wpK_reg (fun R hR => by simp []; exact hR) ?_
 try simp only [wA]
 first | refine wpK_onF (by simp []) ?_ | refine wpK_out (by simp []) ?_ | refine wCF (by simp []) ?_ | refine wEF (by simp []) (wpK_skip ?_) | refine wEF (by simp []) ?_
 have hri := smallRising_wp (n : Int) (hs.ext hE12) (by omega) hsl
 by_cases hr : RisTo (n : Int) s s.length
 case neg =>
  try simp only [wA]
  refine wpK_reg (fun R hR => by
   simp [l0, e22, aEnter, fun61, sO, aCallV]; rw [cN]
   refine hri.mono ?_
   rintro _ W9 ⟨e9, hh⟩; subst W9
   rcases hh with ⟨hh, _⟩ | ⟨_, rfl⟩
   ·exact absurd hh hr
   simp [opExtract, aExtract]; exact hR) ?_
  try simp only [wA]
  refine wpK_reg (fun R hR => by simp []; exact hR) ?_
  try simp only [wA]
  first | refine wpK_onT (by simp []) ?_ | refine wpK_outT (by simp []) ?_ | refine wCT (by simp []) ?_ | refine wpK_endT (by simp []) ?_
  try simp only [wA]
  refine wpK_reg (fun R hR => by simp []; exact hR) ?_
  exact wpK_ret ⟨.inr rfl, rfl, [.bool false], by simp, hE12, false, rfl, ⟨fun hh => (by cases hh), fun hh => absurd hh.1 hr⟩⟩
 try simp only [wA]
 refine wpK_x1 (P := fun (Sb : Nat) W' => W' = W2 /\ Sb < 1099511627776 /\ SetIs Sb s s.length) (fun R hR => by
  simp [l0, e22, aEnter, fun61, sO, aCallV]; rw [cN]
  refine hri.mono ?_
  rintro _ W9 ⟨e9, hh⟩
  rcases hh with ⟨_, Sb, h1, h2, rfl⟩ | ⟨hh, _⟩
  ·simp [opExtract, aExtract]; exact hR Sb W9 (And.intro e9 (And.intro h1 h2))
  ·exact absurd hr hh) ?_
 rintro Sb W9 ⟨e9, hSb, hSet⟩
 subst W9
 try simp only [wA]
 refine wpK_reg (fun R hR => by simp []; exact hR) ?_
 try simp only [wA]
 first | refine wpK_onF (by simp []) ?_ | refine wpK_out (by simp []) ?_ | refine wCF (by simp []) ?_ | refine wEF (by simp []) (wpK_skip ?_) | refine wEF (by simp []) ?_
 obtain ⟨hsn, cc, hcc⟩ := bar_facts (es := es) (by omega) hr
 have hal := all_wp hVw (by omega)
 have hfull : 2 ^ n - 1 < 4096 := by
  have : 2 ^ n <= 2 ^ 12 := Nat.pow_le_pow_right (by omega) (by omega)
  omega
 obtain ⟨s', n1, n2, n3⟩ := aBinI_andNot .u64 (2 ^ n - 1) Sb (by show 2 ^ n - 1 < 18446744073709551616; omega) (by show Sb < 18446744073709551616; omega)
 have hbits : (fun r => s'.testBit r = true) = Sof n s := funext fun r => propext (by
  rw [n3 r, full_bit, Bool.and_eq_true, decide_eq_true_iff, Bool.not_eq_true']
  constructor
  ·rintro ⟨h1, h2⟩
   refine ⟨h1, fun i hi e => ?_⟩
   have := (hSet r).2 ⟨i, hi, e⟩
   rw [h2] at this; cases this
  ·rintro ⟨h1, h2⟩
   refine ⟨h1, ?_⟩
   cases hb : Sb.testBit r with
   | false => rfl
   | true => obtain ⟨i, hi, e⟩ := (hSet r).1 hb; exact absurd e (h2 i hi))
 have hod := odd_wp (s := s') hJ hVw (by omega) (tabs_ext hT hN0 hE12) (by have := hE12.1; omega)
 rw [hbits] at hod
 have hoi := sumF_in (Aj := AjE es) (S := Sof n s) 40
 have hBar : BarIs n es s k ↔ k = (s.length : Int) + cc := ⟨fun hh => by have := hh.2; omega, fun hh => ⟨hr, by omega⟩⟩
 generalize sumN 40 (rootF (AjE es) (Sof n s)) = od at hod hcc hoi
 generalize 2 ^ n - 1 = fl at hal n2 hfull
 try simp only [wA]
 refine wpK_x0 (P := fun W' => Ext W2 W') (fun R hR => by
  simp [aEnter, fun63, sO, aCallV]; rw [cN]
  refine hal.mono ?_
  rintro _ W9 ⟨e9, rfl⟩; subst W9
  simp [n2, aEnter, fun62, sO, aCallV]; rw [cN]
  refine hod.mono ?_
  rintro _ W3 ⟨hE3, rfl⟩
  simp; exact hR W3 hE3) ?_
 rintro W3 hE3
 have a1 : IntKind.i64.wrap ((n : Int) + (s.length : Int)) = (n : Int) + s.length := i64_in (by omega)
 have a2 : IntKind.i64.wrap ((n : Int) + (s.length : Int) - od) = 2 * ((s.length : Int) + cc) := by rw [show (n : Int) + (s.length : Int) - od = 2 * ((s.length : Int) + cc) from by omega]; exact i64_in (by omega)
 have hdiv : aBinI .quo .i64 (2 * ((s.length : Int) + cc)) .i64 2 = some (.int .i64 ((s.length : Int) + cc)) := by
  rw [aBinI_quo .i64 _ _ (by omega), Int.mul_comm, Int.mul_tdiv_cancel _ (by omega), i64_in (by omega)]
 generalize 2 * ((s.length : Int) + cc) = dd at a2 hdiv
 generalize (s.length : Int) + cc = qq at hdiv hBar
 try simp only [wA]
 refine wpK_reg (fun R hR => by simp [l0, hE3, ls, a1, a2, hdiv]; exact hR) ?_
 exact wpK_ret ⟨.inr rfl, rfl, [.bool (decide (k = qq))], by simp, hE12.trans hE3, decide (k = qq), rfl, by rw [decide_eq_true_iff]; exact hBar.symm⟩
theorem falls_at {W : AW} {u : Value} {ls : List Nat} (h : FallsR W u ls) {i : Nat} (hi : i < ls.length) : ∃ x b p, aIndexAddr T0 58 u (.int .i64 (i : Int)) = some (.pointer (some ⟨b, p, none⟩)) /\ aLoadVar T0 W 31 b p = some x /\ ∀ W', aLen T0 W' 31 x = some (.int .i64 ((ls.getD i 0 : Nat) : Int)) := by
 obtain ⟨us, h1, h2, h3⟩ := h
 have hu : us[i]? = some us[i] := List.getElem?_eq_getElem (by omega)
 obtain ⟨b, p, g1, g2⟩ := h2.at (T := T0) hu und58 sz31 .i64
 have hl : ls[i]? = some (ls.getD i 0) := by rw [List.getD_eq_getElem?_getD, List.getElem?_eq_getElem hi]; rfl
 obtain ⟨A, c, e⟩ := h3 i _ _ hu hl
 exact ⟨us[i], b, p, g1, load_of und31 rfl (g2 0 _ rfl), fun W' => by rw [e]; exact len_slice und31 _ _ _⟩
theorem falls_len {W : AW} {u : Value} {ls : List Nat} (h : FallsR W u ls) : ∀ W', aLen T0 W' 58 u = some (.int .i64 (ls.length : Int)) := by
 obtain ⟨us, h1, h2, h3⟩ := h
 obtain ⟨A, c, rfl⟩ := h2.len
 intro W'
 rw [<- h1]; exact len_slice und58 _ _ _
def sumT (ls : List Nat) (k : Nat) : Int := sumN k (fun i => ((ls.getD i 0 % 2 : Nat) : Int))
theorem sumT_in (ls : List Nat) (k : Nat) : 0 <= sumT ls k /\ sumT ls k <= k := cnt_in (fun i => by omega) k
open Classical in
theorem refBarrier_ok {W : AW} {v sv : Value} {n : Nat} {es : List Edge} {s : List Int} (h : PairR W v es) (hl : es.length < 4611686018427387904) (hg : GraphOk (n : Int) es) (hn12 : n <= 11) (hs : IntN W sv s) (hsl : s.length < 4611686018427387904) (k : Int) :
  WpF T0 27 [.agg ⟨[.int .i64 (n : Int), v]⟩, sv, .int .i64 k] W (fun u W' => Ext W W' /\ ∃ b, u = .bool b /\ (b = true ↔ BarIs n es s k)) := by
 refine wpF fun27 rfl ?_
 obtain ⟨W1, hW1, hE1, hV⟩ : ∃ W1, W1 = W.newCells 24 [.int .i64 (n : Int), v] /\ Ext W W1 /\ Var W1 W.next 24 [.int .i64 (n : Int), v] := ⟨_, rfl, .newCells _ _ _, Var.new _ _ _⟩
 obtain ⟨A, c, hv⟩ := hs.len
 obtain ⟨Av, cv, hvv⟩ := h.len
 have ls : ∀ W', aLen T0 W' 31 sv = some (.int .i64 (s.length : Int)) := fun W' => by rw [hv]; exact len_slice und31 _ _ _
 have l0 : ∀ W', Ext W1 W' -> aLoadVar T0 W' 3 W.next 0 = some (.int .i64 (n : Int)) := fun W' hE => (hV.ext hE).load1 (T := T0) und3 rfl (j := 0) (v := .int .i64 (n : Int)) rfl
 have l24 : ∀ W', Ext W1 W' -> aLoadVar T0 W' 24 W.next 0 = some (.agg ⟨[.int .i64 (n : Int), v]⟩) := fun W' hE => load24 (hV.ext hE)
 have e11 : Ext W1 W1 := .refl _ _
 try simp only [wA]
 refine wpK_reg (fun R hR => by simp [<- hW1]; exact hR) ?_
 have hck := refCheck_wp (n : Int) (h.ext hE1) hl
 rw [chkG_ok hg] at hck
 have hri := fun (W2 : AW) (hE2 : Ext W1 W2) => refRising_wp (n : Int) v ((hs.ext hE1).ext hE2) hsl (by rw [hvv]; rfl)
 by_cases hr : RisTo (n : Int) s s.length
 case neg =>
  simp only [decide_eq_false hr] at hri
  try simp only [wA]
  refine wpK_x0 (P := fun W' => Ext W1 W') (fun R hR => by
   simp [l24, e11, aEnter, fun14, sO, aCallV]; rw [cN]
   refine hck.mono ?_
   rintro _ W2 ⟨hE2, rfl⟩
   simp [l24, hE2, aEnter, fun65, sO, aCallV]; rw [cN]
   refine (hri W2 hE2).mono ?_
   rintro _ W3 ⟨hE3, rfl⟩
   simp [l24, hE2, undef]; exact hR W3 (hE2.trans hE3)) ?_
  rintro W3 hE3
  try simp only [wA]
  first | refine wpK_onT (by simp []) ?_ | refine wpK_outT (by simp []) ?_ | refine wCT (by simp []) ?_ | refine wpK_endT (by simp []) ?_
  try simp only [wA]
  refine wpK_reg (fun R hR => by simp []; exact hR) ?_
  exact wpK_ret ⟨.inr rfl, rfl, [.bool false], by simp, hE1.trans hE3, false, rfl, ⟨fun hh => (by cases hh), fun hh => absurd hh.1 hr⟩⟩
 simp only [decide_eq_true hr] at hri
 obtain ⟨hsn, cc, hcc⟩ := bar_facts (es := es) (by omega) hr
 have hoi := sumF_in (Aj := AjE es) (S := Sof n s) 40
 by_cases hk0 : k < 0
 ·try simp only [wA]
  refine wpK_x0 (P := fun W' => Ext W1 W') (fun R hR => by
   simp [l24, e11, aEnter, fun14, sO, aCallV]; rw [cN]
   refine hck.mono ?_
   rintro _ W2 ⟨hE2, rfl⟩
   simp [l24, hE2, aEnter, fun65, sO, aCallV]; rw [cN]
   refine (hri W2 hE2).mono ?_
   rintro _ W3 ⟨hE3, rfl⟩
   simp [l24, hE2, hk0, undef]; exact hR W3 (hE2.trans hE3)) ?_
  rintro W3 hE3
  try simp only [wA]
  first | refine wpK_onT (by simp []) ?_ | refine wpK_outT (by simp []) ?_ | refine wCT (by simp []) ?_ | refine wpK_endT (by simp []) ?_
  try simp only [wA]
  refine wpK_reg (fun R hR => by simp []; exact hR) ?_
  exact wpK_ret ⟨.inr rfl, rfl, [.bool false], by simp, hE1.trans hE3, false, rfl, ⟨fun hh => (by cases hh), fun hh => by have := hh.2; omega⟩⟩
 by_cases hkn : (n : Int) < k
 ·try simp only [wA]
  refine wpK_x0 (P := fun W' => Ext W1 W') (fun R hR => by
   simp [l24, e11, aEnter, fun14, sO, aCallV]; rw [cN]
   refine hck.mono ?_
   rintro _ W2 ⟨hE2, rfl⟩
   simp [l24, hE2, aEnter, fun65, sO, aCallV]; rw [cN]
   refine (hri W2 hE2).mono ?_
   rintro _ W3 ⟨hE3, rfl⟩
   simp [l24, l0, hE2, hE2.trans hE3, hk0, hkn, undef]; exact hR W3 (hE2.trans hE3)) ?_
  rintro W3 hE3
  try simp only [wA]
  first | refine wpK_onT (by simp []) ?_ | refine wpK_outT (by simp []) ?_ | refine wCT (by simp []) ?_ | refine wpK_endT (by simp []) ?_
  try simp only [wA]
  refine wpK_reg (fun R hR => by simp []; exact hR) ?_
  exact wpK_ret ⟨.inr rfl, rfl, [.bool false], by simp, hE1.trans hE3, false, rfl, ⟨fun hh => (by cases hh), fun hh => by have := hh.2; omega⟩⟩
 try simp only [wA]
 refine wpK_x0 (P := fun W' => Ext W1 W') (fun R hR => by
  simp [l24, e11, aEnter, fun14, sO, aCallV]; rw [cN]
  refine hck.mono ?_
  rintro _ W2 ⟨hE2, rfl⟩
  simp [l24, hE2, aEnter, fun65, sO, aCallV]; rw [cN]
  refine (hri W2 hE2).mono ?_
  rintro _ W3 ⟨hE3, rfl⟩
  simp [l24, l0, hE2, hE2.trans hE3, hk0, hkn, undef]; exact hR W3 (hE2.trans hE3)) ?_
 rintro W3 hE3
 try simp only [wA]
 first | refine wpK_onF (by simp []) ?_ | refine wpK_out (by simp []) ?_ | refine wCF (by simp []) ?_ | refine wEF (by simp []) (wpK_skip ?_) | refine wEF (by simp []) ?_
 try simp only [wA]
 refine wpK_reg (fun R hR => by simp []; exact hR) ?_
 have hE03 := hE1.trans hE3
 obtain ⟨ps, ep, gp, dp⟩ := rises_list hr
 have hpsl : ps.length = s.length := by rw [ep]; simp
 have hs3 := hs.ext hE03
 rw [ep] at hs3
 have hSof : ∀ r, Sof n s r ↔ r < n /\ (TS ps).testBit r = false := fun r => by
  have hb : (TS ps).testBit r = true ↔ ∃ i, i < s.length /\ gI s i = (r : Int) := by
   rw [TS_bit]
   constructor
   ·rintro ⟨i, hi, e2⟩; exact ⟨i, by omega, by rw [<- gp i hi, e2]⟩
   ·rintro ⟨i, hi, e2⟩; exact ⟨i, by omega, by have := gp i (by omega); omega⟩
  constructor
  ·rintro ⟨h1, h2⟩
   refine ⟨h1, ?_⟩
   cases hbb : (TS ps).testBit r with
   | false => rfl
   | true => obtain ⟨i, hi, e⟩ := hb.1 hbb; exact absurd e (h2 i hi)
  ·rintro ⟨h1, h2⟩
   exact ⟨h1, fun i hi e => by have := hb.2 ⟨i, hi, e⟩; rw [h2] at this; cases this⟩
 have hfw := falls_wp (P := (n : Int)) (h.ext hE03) hl rfl (by omega) hs3 (by omega) hSof
 have h40 : sumN 40 (rootF (AjE es) (Sof n s)) = sumN n (rootF (AjE es) (Sof n s)) := sumN_skip (by omega) (fun v h1 _ => rootF_not (fun hh => by have := hh.1.1; omega))
 have hBar : BarIs n es s k ↔ 2 * k = (n : Int) + s.length - sumN n (rootF (AjE es) (Sof n s)) := by
  rw [BarIs, h40]; exact ⟨fun hh => hh.2, fun hh => ⟨hr, hh⟩⟩
 clear hcc hoi h40
 generalize sumN n (rootF (AjE es) (Sof n s)) = od at hfw hBar
 try simp only [wA]
 refine wpK_x2 (fun R hR => by
   simp [l24, hE3, aEnter, fun34, sO, aCallV]; rw [cN]
   refine (hfw).mono ?_
   rintro u W4 ⟨hE4, fs, hFs, hfl, hfm, hfsum⟩
   simp [l24, hE3]; exact hR u fs W4 (And.intro hE4 (And.intro hFs (And.intro hfl (And.intro hfm hfsum))))) ?_
 rintro u fs W4 ⟨hE4, hFs, hfl, hfm, hfsum⟩
 have lf := falls_len hFs
 obtain ⟨m, hm⟩ : ∃ m, m = fs.length := ⟨_, rfl⟩
 rw [<- hm] at lf hfl
 try simp only [wA]
 refine wpK_reg (fun R hR => by simp []; exact hR) ?_
 try simp only [wA]
 refine wpK_while (I := fun kk A' W' => A'.n = 56 /\ A'.defers = [] /\ A'.tmps.get 1 = some (sv) /\ A'.tmps.get 2 = some (.int .i64 k) /\ A'.tmps.get 3 = some (.pointer (some ⟨W.next, 0, none⟩)) /\ A'.tmps.get 8 = some (u) /\ W' = W4 /\ ∃ i : Nat, A'.tmps.get 9 = some (.int .i64 (i : Int)) /\ A'.tmps.get 7 = some (.int .i64 (sumT fs i)) /\ kk = m - i /\ i <= m)
  (J := fun A' W' => A'.n = 56 /\ A'.defers = [] /\ A'.tmps.get 1 = some (sv) /\ A'.tmps.get 2 = some (.int .i64 k) /\ A'.tmps.get 3 = some (.pointer (some ⟨W.next, 0, none⟩)) /\ A'.tmps.get 8 = some (u) /\ W' = W4 /\ A'.tmps.get 7 = some (.int .i64 od)) (Rt := fun _ _ => False) (k := m) ?_ ?_ ?_ ?_
 ·exact ⟨rfl, rfl, by simp, by simp, by simp, by simp, rfl, 0, by simp, by simp [sumT, sumN], rfl, by omega⟩
 ·rintro kk ⟨tm, n, ds⟩ Wb ⟨hn, hd, h1, h2, h3, h8, e2, i, h9, h7, hkk, him⟩ Q' hJ' hRt hI
  simp only at hn hd h1 h2 h3 h8
  subst hn; subst hd
  subst Wb
  simp only at h9 h7
  by_cases hlt : i < m
  case neg =>
   have e : i = m := by omega
   subst e
   try simp only [wA]
   refine wpK_reg (fun R hR => by simp [h8, h9, lf]; exact hR) ?_
   try simp only [wA]
   first | refine wpK_onF (by simp []) ?_ | refine wpK_out (by simp []) ?_ | refine wCF (by simp []) ?_ | refine wEF (by simp []) (wpK_skip ?_) | refine wEF (by simp []) ?_
   exact hJ' _ _ ⟨rfl, rfl, by simp [h1, h2, h3, h8], by simp [h1, h2, h3, h8], by simp [h1, h2, h3, h8], by simp [h1, h2, h3, h8], rfl, by rw [<- hfsum]; simp [h7, sumL, sumT, hm]⟩
  have hlt' : (i : Int) < m := by omega
  try simp only [wA]
  refine wpK_reg (fun R hR => by simp [h8, h9, lf, hlt']; exact hR) ?_
  try simp only [wA]
  first | refine wpK_onT (by simp [hlt]) ?_ | refine wpK_outT (by simp [hlt]) ?_ | refine wCT (by simp [hlt]) ?_ | refine wpK_endT (by simp [hlt]) ?_
  obtain ⟨x, b, p, g1, g2, g3⟩ := falls_at hFs (i := i) (by omega)
  have hrem := aBinI_rem .i64 ((fs.getD i 0 : Nat) : Int) (2 : Nat) (by omega)
  rw [ofNat_tmod] at hrem
  have hti := sumT_in fs i
  have hts : sumT fs (i + 1) = sumT fs i + ((fs.getD i 0 % 2 : Nat) : Int) := rfl
  generalize fs.getD i 0 = q at g3 hrem hts
  generalize sumT fs i = c0 at h7 hti hts
  have a1 : IntKind.i64.wrap (c0 + ((q % 2 : Nat) : Int)) = sumT fs (i + 1) := by rw [hts]; exact i64_in (by omega)
  generalize q % 2 = qm at hrem a1
  have hrem : aBinI .rem .i64 (q : Int) .i64 2 = some (.int .i64 (qm : Int)) := hrem
  refine wpK_block ?_
  try simp only [wA]
  refine wpK_reg1 (fun R hR => by simp [h7, h8, h9, g1, g2, g3, hrem, a1]; exact hR) ?_
  simp only [lN, bN]
  refine wpK_keep (fun tm' => tm'.get 1 = some (sv) /\ tm'.get 2 = some (.int .i64 k) /\ tm'.get 3 = some (.pointer (some ⟨W.next, 0, none⟩)) /\ tm'.get 7 = some (.int .i64 (sumT fs (i + 1))) /\ tm'.get 8 = some (u) /\ tm'.get 9 = some (.int .i64 (i : Int))) (by simp [h1, h2, h3, h8, h9]) ?_
  rintro tm ⟨h1, h2, h3, h7, h8, h9⟩
  try simp only [wA]
  refine wpK_reg1 (fun R hR => by simp [h9]; exact hR) ?_
  exact hI (m - (i + 1)) _ _ (by omega) ⟨rfl, rfl, by simp [h1, h2, h3, h8], by simp [h1, h2, h3, h8], by simp [h1, h2, h3, h8], by simp [h1, h2, h3, h8], rfl, i + 1, by simp [i64_succ i (by omega)], by simp [h7], rfl, by omega⟩
 ·rintro A' W' hf; exact hf.elim
 ·rintro ⟨tm, n, ds⟩ Wz ⟨hn, hd, h1, h2, h3, h8, eW, h7⟩
  simp only at hn hd h1 h2 h3 h8
  subst hn; subst hd
  subst Wz
  simp only at h7
  have hod : 0 <= od /\ od <= m := by
   have := sumT_in fs m
   have e : sumL fs = sumT fs m := by rw [hm]; rfl
   omega
  have a1 : IntKind.i64.wrap ((n : Int) + (s.length : Int)) = (n : Int) + s.length := i64_in (by omega)
  have a2 : IntKind.i64.wrap ((n : Int) + (s.length : Int) - od) = (n : Int) + s.length - od := i64_in (by omega)
  have a3 : IntKind.i64.wrap (2 * k) = 2 * k := i64_in (by omega)
  have hmul := aBinI_mul .i64 2 k
  rw [a3] at hmul
  generalize 2 * k = k2 at hmul hBar
  have hE34 := hE3.trans hE4
  try simp only [wA]
  refine wpK_reg (fun R hR => by simp [h1, h2, h3, h7, ls, l0, hE34, a1, a2, hmul]; exact hR) ?_
  exact wpK_ret ⟨.inr rfl, rfl, [.bool (decide (k2 = (n : Int) + s.length - od))], by simp, hE1.trans hE34, decide (k2 = (n : Int) + s.length - od), rfl, by rw [decide_eq_true_iff]; exact hBar.symm⟩
theorem build24_0 (P : Int) : aBuild T0 24 [(0, .int .i64 P)] = some (.agg ⟨[.int .i64 P, .slice none 0 0]⟩) := by kernel_rfl
theorem bs22 (W : AW) (a b : Int) : aBuildSlice T0 W 22 1 [(0, pr a b)] = some (.slice (some ⟨W.next, 0, none⟩) 1 2, W.newCells 55 [.int .i64 a, .int .i64 b]) := by kernel_rfl
theorem good_app {P : Int} {xs : List Edge} (h : GoodTo P xs xs.length) {a b : Int} (h1 : 0 <= a /\ a < P /\ 0 <= b /\ b < P /\ a ≠ b) (h2 : ¬ Jn xs a b) : GoodTo P (xs ++ [(a, b)]) (xs ++ [(a, b)]).length := fun i hi x y hx => by
 simp at hi
 have hold : ∀ j, j < xs.length -> (xs ++ [(a, b)])[j]? = xs[j]? := fun j hj => List.getElem?_append_left hj
 by_cases e : i = xs.length
 ·subst e
  rw [List.getElem?_append_right (Nat.le_refl _), Nat.sub_self] at hx
  cases hx
  exact ⟨h1.1, h1.2.1, h1.2.2.1, h1.2.2.2.1, h1.2.2.2.2, fun j hj => by
   rw [hold j hj]
   exact ⟨fun e => h2 ⟨j, .inl e⟩, fun e => h2 ⟨j, .inr e⟩⟩⟩
 ·rw [hold i (by omega)] at hx
  obtain ⟨g1, g2, g3, g4, g5, g6⟩ := h i (by omega) x y hx
  exact ⟨g1, g2, g3, g4, g5, fun j hj => by rw [hold j (by omega)]; exact g6 j hj⟩

theorem natsN_row {W : AW} {v : Value} {ps : List Nat} {K : Nat -> Prop} (h : GrowsN W v ps.length (natsV ps) 3 1 K) : IntN W v (ps.map Int.ofNat) := natsV_row h
theorem bs31e (W : AW) : aBuildSlice T0 W 31 0 [] = some (.slice (some ⟨W.next, 0, none⟩) 0 0, W.newCells 3 []) := by kernel_rfl
theorem newCells_at (W : AW) (el : TypeId) (l : List Value) (n : Nat) (hn : l.length = n) : (W.newCells el l).cellsAt W.next 0 n = some l := by
 subst hn
 rw [(Var.new W el l).cellsAt 0 l.length (by omega)]; simp
theorem clone_app31 {W : AW} {v : Value} {l : List Int} (h : IntN W v l) (h0 : 0 < l.length) (hl : l.length <= 1000) :
  aAppend T0 (W.newCells 3 []) [31, 31] [.slice (some ⟨W.next, 0, none⟩) 0 0, v] = some (.slice (some ⟨W.next + 1, 0, none⟩) l.length 3, (W.newCells 3 []).newCells 3 (flatE (encI .i64) l)) := by
 have h' := h.ext (Only.newCells W 3 [])
 have hsrc := h'.src encI_len (by omega)
 have hone := oneCells_flatE (enc := encI .i64) encI_one l
 have hfl := flatE_len (enc := encI .i64) (sz := 1) encI_len l
 have hz : Nat.beq l.length 0 = false := by
  cases hb : Nat.beq l.length 0 with
  | false => rfl
  | true => have := Nat.eq_of_beq_eq_true hb; omega
 have hold : (W.newCells 3 []).cellsAt W.next 0 (0 * 1) = some [] := newCells_at W 3 [] 0 rfl
 have hhead : aAppend T0 (W.newCells 3 []) [31, 31] [.slice (some ⟨W.next, 0, none⟩) 0 0, v] = aApp1 (W.newCells 3 []) 3 1 Tryd.t3.bytes l.length (flatE (encI .i64) l) (.slice (some ⟨W.next, 0, none⟩) 0 0) := by
  simp only [aAppend, und31, inf3, is3, z3, notInt, hsrc, acells, List.length_cons, List.length_nil, Nat.beq_refl, hfl, hone, hz]
 rw [hhead]
 have e1 : (2 * l.length) * Tryd.t3.bytes <= 281474976710656 := by rw [by3]; omega
 have e2 : l.length <= 4611686018427387904 := by omega
 have e3 : Nat.beq (0 % 2) 0 = true := rfl
 have e4 : ¬ (l.length <= 0 / 2) := by omega
 simp only [aApp1, ble_dec, e1, e2, decide_true, e3, e4, decide_false, hold, List.nil_append, Nat.zero_add]
 rfl
theorem flatE_int (l : List Int) : flatE (encI .i64) l = vI l := by
 simp only [flatE, vI]
 induction l with
 | nil => rfl
 | cons x l ih => simp only [List.flatMap_cons, List.map_cons, ih]; rfl
theorem row_var {W : AW} {p n c : Nat} {l : List Int} (h : Var W p 3 (vI l)) (hn : l.length = n) (h0 : 0 < n) : IntN W (.slice (some ⟨p, 0, none⟩) n c) l := by
 refine ⟨some ⟨p, 0, none⟩, c, by rw [hn], fun e => by omega, fun i a hi => ⟨p, 0, rfl, fun j u hu => ?_⟩⟩
 have hj : j = 0 := by
  cases j with
  | zero => rfl
  | succ j => simp [encI] at hu
 subst hj
 have : u = .int .i64 a := by simpa [encI] using hu.symm
 subst this
 rw [Nat.zero_add, Nat.mul_one, Nat.add_zero]
 exact h.has (by simp [vI, hi])
theorem clone_wp {W : AW} {b o c n : Nat} {l : List Int} (h : IntN W (.slice (some ⟨b, o, none⟩) n c) l) (hn : l.length = n) (h0 : 0 < n) (hl : n <= 1000) :
  WpF T0 55 [.slice (some ⟨b, o, none⟩) n c] W (fun u W' => Ext W W' /\ IntN W' u l) := by
 subst hn
 refine wpF fun55 rfl ?_
 try simp only [wA]
 refine wpK_reg (fun R hR => by simp []; exact hR) ?_
 try simp only [wA]
 refine wpK_reg (fun R hR => by simp [aGuard, aBinO, notnil31]; exact hR) ?_
 try simp only [wA]
 first | refine wpK_onF (by simp []) ?_ | refine wpK_out (by simp []) ?_ | refine wCF (by simp []) ?_ | refine wEF (by simp []) (wpK_skip ?_) | refine wEF (by simp []) ?_
 have ha := clone_app31 h h0 hl
 have hb := bs31e W
 try simp only [wA]
 refine wpK_reg (fun R hR => by simp [hb, ha]; exact hR) ?_
 exact wpK_ret ⟨.inr rfl, rfl, [.slice (some ⟨W.next + 1, 0, none⟩) l.length 3], by simp, (Only.newCells _ _ _).trans (Only.newCells _ _ _), row_var (by rw [flatE_int]; exact Var.new _ _ _) rfl h0⟩
def mateL (n : Nat) (mt : Nat -> Int) : List Int := (List.range n).map mt
theorem mateL_len (n : Nat) (mt : Nat -> Int) : (mateL n mt).length = n := by simp [mateL]
theorem mateL_at {n i : Nat} (mt : Nat -> Int) (h : i < n) : gI (mateL n mt) i = mt i := by
 simp [gI, mateL, List.getD_eq_getElem?_getD, List.getElem?_range h]
theorem mate_row {W : AW} {p w n c : Nat} {s : PS} (h : PairAt W p w s) (hn : n <= 40) (h0 : 0 < n) : IntN W (.slice (some ⟨p, 1, none⟩) n c) (mateL n s.mt) := by
 refine ⟨some ⟨p, 1, none⟩, c, by rw [mateL_len], fun e => by rw [mateL_len] at e; omega, fun i a hi => ⟨p, 1, rfl, fun j u hu => ?_⟩⟩
 have hj : j = 0 := by
  cases j with
  | zero => rfl
  | succ j => simp [encI] at hu
 subst hj
 have hin : i < n := by have := (List.getElem?_eq_some_iff.1 hi).1; rwa [mateL_len] at this
 have ha : a = s.mt i := by
  simp [mateL, List.getElem?_range hin] at hi; exact hi.symm
 have : u = .int .i64 (s.mt i) := by rw [<- ha]; simpa [encI] using hu.symm
 subst this
 rw [Nat.mul_one, Nat.add_zero]
 exact h.has (by rw [psL_at _ _ (by omega), psV_mt _ _ (by omega)])
theorem slice94 (W : AW) (p n : Nat) (hn : n <= 40) : aSliceOp T0 W 94 (.pointer (some ⟨p, 1, none⟩)) none (some (.int .i64 (n : Int))) none = some (.slice (some ⟨p, 1, none⟩) n 80) := by
 have hb : aHi (some (.int .i64 (n : Int))) 40 40 = some n := by
  show aBound (.int .i64 (Int.ofNat n)) 40 = some n
  simp only [aBound, ble_dec, hn, decide_true]
 have hsh : shiftTo 1 40 0 1 = 1 := by decide
 simp only [aSliceOp, und94, sz3, hb, aLo, hsh, Nat.sub_zero]
theorem match_ok {W : AW} {v : Value} {n : Nat} {es : List Edge} (h : PairR W v es) (hl : es.length < 4611686018427387904) (hg : GraphOk (n : Int) es) (hT : tabsIn T0 T0.tabs W = true) (hN0 : 0 < W.next) :
  WpF T0 17 [.agg ⟨[.int .i64 (n : Int), v]⟩] W (fun u W' => Ext W W' /\ ∃ mv s D A cl, u = .tuple ⟨[mv, .int .i64 0]⟩ /\ IntN W' mv (mateL n s.mt) /\ Great n (AjE es) s D A cl n) := by
 have hn40 : n <= 40 := by have := hg.2.1; omega
 have h1n : 1 <= n := by have := hg.1; omega
 have hends : ∀ x z : Nat, AjE es x z -> z < n /\ x ≠ z := fun x z hx => by
  obtain ⟨i, hi | hi⟩ := hx
  ·have := hg.2.2.2 i (List.getElem?_eq_some_iff.1 hi).1 _ _ hi
   exact ⟨by omega, by omega⟩
  ·have := hg.2.2.2 i (List.getElem?_eq_some_iff.1 hi).1 _ _ hi
   exact ⟨by omega, by omega⟩
 refine wpF fun17 rfl ?_
 obtain ⟨W1, hW1, hE1, hV⟩ : ∃ W1, W1 = W.newCells 25 [.int .i64 (n : Int), v] /\ Ext W W1 /\ Var W1 W.next 25 [.int .i64 (n : Int), v] := ⟨_, rfl, .newCells _ _ _, Var.new _ _ _⟩
 have hl1 := load25 hV
 try simp only [wA]
 refine wpK_reg (fun R hR => by simp [<- hW1]; exact hR) ?_
 try simp only [wA]
 refine wpK_x1 (fun R hR => by
   simp [hl1, opExtract, aExtract, aEnter, fun54, sO, aCallV]; rw [cN]
   refine (lay_ok (h.ext hE1) hl hg).mono ?_
   rintro _ W2 ⟨hE2, w, hw, rfl, hWeb⟩
   simp [hl1, opExtract, aExtract]; exact hR w W2 (And.intro hE2 (And.intro hw hWeb))) ?_
 rintro w W2 ⟨hE2, hw, hWeb⟩
 try simp only [wA]
 refine wpK_reg (fun R hR => by simp []; exact hR) ?_
 try simp only [wA]
 first | refine wpK_onF (by simp []) ?_ | refine wpK_out (by simp []) ?_ | refine wCF (by simp []) ?_ | refine wEF (by simp []) (wpK_skip ?_) | refine wEF (by simp []) ?_
 obtain ⟨Jl, hJ, hVw⟩ := hWeb
 have hE02 := hE1.trans hE2
 have hgw := greatest_wp (J := AjE es) (Jl := Jl) hn40 (fun x hx => (hends x x hx).2 rfl) AjE.symm (fun x z hx => (hends x z hx).1) hJ.1 (fun x z hx => (join_bit hJ (by omega)).2) hVw (tabs_ext hT hN0 hE02) (by have := hE02.1; omega)
 have q2 := (hV.ext hE2).load1 (T := T0) und3 rfl (j := 0) (v := .int .i64 (n : Int)) rfl
 have hV2 := hV.ext hE2
 try simp only [wA]
 refine wpK_d2 (wr := Tr.nil |>.set 14 0 |>.set 15 1 |>.set 16 2 |>.set 17 3 |>.set 18 4 |>.set 19 5 |>.set 20 6 |>.set 21 7 |>.set 2 8 |>.set 3 9) (bits := Tr.nil.lay 0 [0, 1, 3, 7, 0, 16, 63, 127, 255, 511]) (ord := [0, 1, 2, 3, 4, 5, 6, 7, 8, 9]) (by kernel_rfl) (by kernel_rfl) (by kernel_rfl) (fun G hG => by
  simp [aEnter, fun56, sO, aCallV]
  rw [dcallS_none]
  refine hgw.mono ?_
  rintro _ W3 ⟨hE3, p, s, D, A, cl, rfl, hp, hP, hGr⟩
  have q3 := (hV2.ext hE3).load1 (T := T0) und3 rfl (j := 0) (v := .int .i64 (n : Int)) rfl
  simp [hE3.1, q2, q3, opSlice, aOpt, slice94 _ p n hn40, aEnter, fun55, sO, aCallV]
  rw [dcallS_none]
  refine (clone_wp (mate_row hP hn40 h1n) (mateL_len n s.mt) h1n (by omega)).mono ?_
  rintro mv W4 ⟨hE4, hM⟩
  simp [hE3.1, hE4.1, q2, q3, opSlice, aOpt, slice94 _ p n hn40]
  have hh : Ext W2 W4 /\ ∃ s D A cl, IntN W4 mv (mateL n s.mt) /\ Great n (AjE es) s D A cl n := ⟨hE3.trans hE4, s, D, A, cl, hM, hGr⟩
  exact hG p mv W4 hh) ?_
 rintro p mv W4 ⟨hE4, s, D, A, cl, hM, hGr⟩
 exact wpK_ret ⟨.inr rfl, rfl, [mv, .int .i64 0], by simp, hE02.trans hE4, mv, s, D, A, cl, rfl, hM, hGr⟩

end Go.Proofs.YtdpnplanohgecaaDoor
open Go Go.Eng
namespace Go.Proofs.YtdpnplanohgecaaDoor
def membs (n t : Nat) : List Nat := (List.range n).filter t.testBit
def membL (n t : Nat) : List Int := (membs n t).map Int.ofNat
theorem membs_succ (n t : Nat) : membs (n + 1) t = if t.testBit n then membs n t ++ [n] else membs n t := by
 rw [membs, List.range_succ, List.filter_append]
 cases h : t.testBit n <;> simp [membs, h]
theorem membs_mem {n t x : Nat} : x ∈ membs n t ↔ x < n /\ t.testBit x = true := by simp [membs]
theorem membs_len (n t : Nat) : (membs n t).length <= n := Nat.le_trans (List.length_filter_le _ _) (by simp)
theorem membL_len (n t : Nat) : (membL n t).length = (membs n t).length := by simp [membL]
theorem membL_at {n t i : Nat} (h : i < (membs n t).length) : gI (membL n t) i = (((membs n t)[i] : Nat) : Int) := by
 simp [gI, membL, List.getD_eq_getElem?_getD, h]
theorem membL_rises (n t : Nat) : RisTo (n : Int) (membL n t) (membL n t).length := fun q hq => by
 rw [membL_len] at hq
 have h1 := (membs_mem.1 (List.getElem_mem hq)).1
 refine ⟨by rw [membL_at hq]; omega, by rw [membL_at hq]; omega, fun h0 => ?_⟩
 rw [membL_at hq, membL_at (show q - 1 < (membs n t).length by omega)]
 have hp : (membs n t).Pairwise (· < ·) := List.Pairwise.filter _ List.pairwise_lt_range
 have := List.pairwise_iff_getElem.1 hp (q - 1) q (by omega) hq (by omega)
 omega
theorem membL_sof (n t r : Nat) : Sof n (membL n t) r ↔ r < n /\ ¬ t.testBit r = true := by
 constructor
 ·rintro ⟨h1, h2⟩
  refine ⟨h1, fun hb => ?_⟩
  obtain ⟨i, hi, e⟩ := List.getElem_of_mem (membs_mem.2 ⟨h1, hb⟩)
  exact h2 i (by rw [membL_len]; exact hi) (by rw [membL_at hi, e])
 ·rintro ⟨h1, h2⟩
  refine ⟨h1, fun i hi e => ?_⟩
  rw [membL_len] at hi
  rw [membL_at hi] at e
  have : (membs n t)[i] = r := by omega
  exact h2 (this ▸ (membs_mem.1 (List.getElem_mem hi)).2)
open Classical
noncomputable def freeN (n : Nat) (mt : Nat -> Int) : Nat := (listOf fun x => x < n /\ mt x = -1).length
variable {n : Nat} {xs : List Edge} {s : PS} {D A : Nat -> Prop} {cl : Nat -> Nat}
theorem great_pairs (hn : n <= 40) (hm : Mt n (AjE xs) s.mt) : PairOk (n : Int) xs (mateL n s.mt) n := fun i hi => by
 rw [mateL_at _ hi]
 rcases hm.rng hi with e | ⟨y, hy, e⟩
 ·exact .inl e
 ·right
  rw [e]
  refine ⟨by omega, by omega, ?_, ?_⟩
  ·rw [Int.toNat_natCast, mateL_at _ hy]; exact hm.sym hi e
  ·exact hm.adj hi e
theorem cnt1_free (mt : Nat -> Int) {C : Nat -> Prop} (hC : ∀ x, C x ↔ x < n /\ mt x = -1) : ∀ m, cnt1 (mateL n mt) (min m n) + (((List.range m).filter fun x => decide (C x)).length : Int) = (min m n : Nat)
 | 0 => by simp [cnt1, sumN]
 | m + 1 => by
  have ih := cnt1_free mt hC m
  rw [List.range_succ, List.filter_append, List.length_append]
  generalize ((List.range m).filter fun x => decide (C x)).length = L at ih ⊢
  by_cases h : m < n
  ·rw [show min m n = m from by omega] at ih
   rw [show min (m + 1) n = m + 1 from by omega]
   simp only [cnt1, sumN] at ih ⊢
   rw [mateL_at _ h]
   by_cases e : mt m = -1
   ·have hc : C m := (hC m).2 ⟨h, e⟩
    rw [if_pos e]; simp [hc]; omega
   ·have hc : ¬ C m := fun g => e ((hC m).1 g).2
    rw [if_neg e]; simp [hc]; omega
  ·rw [show min m n = n from by omega] at ih
   rw [show min (m + 1) n = n from by omega]
   have hc : ¬ C m := fun g => h ((hC m).1 g).1
   simp [hc]; exact ih
theorem free_cnt (hn : n <= 40) (hg : GraphOk (n : Int) xs) (hm : Mt n (AjE xs) s.mt) : 2 * cnt2 (mateL n s.mt) n + (freeN n s.mt : Int) = n := by
 have h1 := cnt_twice hg (p := mateL n s.mt) (by rw [mateL_len]) (by rw [mateL_len]; exact great_pairs hn hm)
 have h2 := cnt1_free (n := n) s.mt (C := fun x => x < n /\ s.mt x = -1) (fun x => Iff.rfl) 40
 rw [show min 40 n = n from by omega] at h2
 rw [mateL_len] at h1
 rw [h1] at h2
 exact h2
theorem aj_irr (hg : GraphOk (n : Int) xs) (x : Nat) : ¬ AjE xs x x := fun hx => by
 obtain ⟨i, hi | hi⟩ := hx
 ·have := hg.2.2.2 i (List.getElem?_eq_some_iff.1 hi).1 _ _ hi; omega
 ·have := hg.2.2.2 i (List.getElem?_eq_some_iff.1 hi).1 _ _ hi; omega
theorem weak_len (hn : n <= 40) (hg : GraphOk (n : Int) xs) (hm : Mt n (AjE xs) s.mt) (l : List Int) : sumN 40 (rootF (AjE xs) (Sof n l)) <= (freeN n s.mt : Int) + (l.length : Int) := by
 have hw := berge_weak hm (aj_irr hg) AjE.symm hn (S := Sof n l) (fun r hr => hr.1)
 have hl : (listOf fun x => x < n /\ ¬ Sof n l x).length <= (l.map Int.toNat).length := nodup_le (listOf_nodup _) fun x hx => by
  obtain ⟨_, x1, x2⟩ := listOf_mem.1 hx
  apply byContradiction
  intro hno
  refine x2 ⟨x1, fun i hi e => hno ?_⟩
  have hm := List.mem_of_getElem? (gI_some hi)
  rw [e] at hm
  exact List.mem_map.2 ⟨_, hm, by simp⟩
 rw [List.length_map] at hl
 refine Int.le_trans hw ?_
 unfold freeN
 omega
end Go.Proofs.YtdpnplanohgecaaDoor

open Go Go.Eng
namespace Go.Proofs.YtdpnplanohgecaaDoor
attribute [local congr] undef_congr WpK.congr WpS.congr WpL.congr WpC.congr WpF.congr gotS.congr callS.congr nextS.congr wantS.congr condS.congr
attribute [local irreducible] WpK
attribute [local simp] WpDr_nil WpDr_cons atS_some dwantS_true dwantS_false kindS_light kindS_float kindS_heavy lightS_value floatS_some heavyS_value heavyS_skip heavyS_enter dcallS_some doneS_eq
 isLight isFloat isPlain dLook testBit_dec dChain dLights_nil dLights_skip dLights_one dLight_nil dLight_cons dFreshes_nil dFreshes_one oneF_none oneF_some dFresh_nil dFresh_cons oneL_some oneW_true oneW_false sameV_value dPut dMay valEq arrEq listEq List.getElem?_cons Tr.get_nil dEnd
attribute [local simp] WpS_nil WpS_cons isDefer undef_false wantS_true wantS_false nextS_value nextS_skip nextS_enter callS_some gotS_some aWanted aOp aEvalF aEval opMove opAssign opPick aVal flat flat1 AAct.put opBinOp opConvert opIndex Tr.get_set Tr.get_lay aBin aResults tupled
 aCall aVals aCallB blt_dec ble_dec beq_dec aBinI_add aBinI_sub aBinI_lss aBinI_leq aBinI_gtr aBinI_geq aBinI_eql aBinI_neq index_str len_str len_slice Nat.beq_refl Nat.beq_refl
 opBox opLoad opFieldAddr opIndexAddr acells aAddr opExtract aExtract opUnOp opAlloc opStore opMakeInterface opNilCheck opBuild aParts opBuildSlice aValW
attribute [local simp] und2 und3 und4 und5 und9 und12 field13_0 field13_1 und21 und22 field23_0 field23_1 field24_0 field24_1 field25_0 field25_1 und28 und31 field34_0 field34_1 field34_2 field35_0 field35_1 field35_2 und46 field50_0 field50_1 field50_2 und55 und56 und58 und61 und62 und73 und75 und90 und94 und95 und96 field97_0 field97_1 field97_2 field97_3 field97_4 field97_5 field97_6 field98_0 field98_1 field98_2 field98_3 field98_4 field98_5 field98_6 und99 und106 field107_0 field107_1 field108_0 field108_1 und119 und122 field124_0 field124_1 field124_2 field125_0 field125_1 field125_2 field131_0 field131_1 field132_0 field132_1 und133 field134_0 field134_1 field135_0 field135_1 und148 und156 und160
set_option maxHeartbeats 4000000
set_option linter.unusedSimpArgs false
set_option linter.unusedVariables false
def Matched (W : AW) (n : Nat) (xs : List Edge) (mv : Value) : Prop := ∃ l : List Int, IntN W mv l /\ l.length = n /\ PairOk (n : Int) xs l n /\ (∀ l' k, BarIs n xs l' k -> cnt2 l n <= k) /\ ∃ t, t < 2 ^ n /\ BarIs n xs (membL n t) (cnt2 l n)
theorem divide_wp {n w : Nat} {es : List Edge} {Jl : List Nat} {W : AW} (hg : GraphOk (n : Int) es) (hJ : JoinL es Jl) (hVw : Var W w 108 (.int .i64 (n : Int) :: Jl.map setV)) (hT : tabsIn T0 T0.tabs W = true) (hN0 : 0 < W.next) :
  WpF T0 57 [.pointer (some ⟨w, 0, none⟩)] W (fun u W' => Ext W W' /\ ∃ F N R : Nat, u = .tuple ⟨[.int .u64 (F : Int), .int .u64 (N : Int), .int .u64 (R : Int)]⟩ /\ ∃ s D A cl, Great n (AjE es) s D A cl n /\ (∀ x, F.testBit x = true ↔ D x) /\ (∀ x, N.testBit x = true ↔ A x) /\ ∀ x, R.testBit x = true ↔ x < n /\ ¬ D x /\ ¬ A x) := by
 have hn40 : n <= 40 := by have := hg.2.1; omega
 have hends : ∀ x z : Nat, AjE es x z -> z < n /\ x ≠ z := fun x z hx => by
  obtain ⟨i, hi | hi⟩ := hx
  ·have := hg.2.2.2 i (List.getElem?_eq_some_iff.1 hi).1 _ _ hi
   exact ⟨by omega, by omega⟩
  ·have := hg.2.2.2 i (List.getElem?_eq_some_iff.1 hi).1 _ _ hi
   exact ⟨by omega, by omega⟩
 have hgw := greatest_wp (J := AjE es) (Jl := Jl) hn40 (fun x hx => (hends x x hx).2 rfl) AjE.symm (fun x z hx => (hends x z hx).1) hJ.1 (fun x z hx => (join_bit hJ (by omega)).2) hVw hT hN0
 refine wpF fun57 rfl ?_
 try simp only [wA]
 refine wpK_reg (fun R hR => by simp []; exact hR) ?_
 try simp only [wA]
 refine wpK_x2 (P := fun (p F : Nat) W1 => Ext W W1 /\ F < 1099511627776 /\ ∃ s D A cl, Great n (AjE es) s D A cl n /\ (∀ x, F.testBit x = true ↔ D x)) (fun R hR => by
  simp [aEnter, fun56, sO, aCallV]; rw [cN]
  refine hgw.mono ?_
  rintro _ W3 ⟨hE3, p, s, D, A, cl, rfl, hp, hP, hG⟩
  have lf := ps_fe hP
  have hf := hG.fe40 hn40
  have hfe := hG.fe
  obtain ⟨F, hF⟩ : ∃ F, F = s.fe := ⟨_, rfl⟩
  rw [<- hF] at lf hf hfe
  simp [lf]
  exact hR p F W3 ⟨hE3, hf, s, D, A, cl, hG, hfe⟩) ?_
 rintro p F W1 ⟨hE1, hF40, s, D, A, cl, hG, hFD⟩
 have hT1 := tabs_ext hT hN0 hE1
 have haw := around_wp hJ (hVw.ext hE1) hF40 hT1 (by have := hE1.1; omega)
 try simp only [wA]
 refine wpK_x2 (P := fun (o N : Nat) W2 => Ext W1 W2 /\ N < 1099511627776 /\ ∀ x, N.testBit x = true ↔ A x) (fun R hR => by
  simp [aEnter, fun80, sO, aCallV]; rw [cN]
  refine haw.mono ?_
  rintro _ W3 ⟨hE3, o, rfl, ho40, hob⟩
  obtain ⟨N, m1, m2, m3⟩ := aBinI_andNot .u64 o F (by show o < 18446744073709551616; omega) (by show F < 18446744073709551616; omega)
  simp [m2]
  refine hR o N W3 ⟨hE3, by omega, fun x => ?_⟩
  rw [m3, Bool.and_eq_true, Bool.not_eq_true', <- Bool.not_eq_true, hFD, hob]
  constructor
  ·rintro ⟨⟨q, q1, q2⟩, q3⟩
   have hqD := (hFD q).1 q1
   have hj := (join_bit hJ (by have := hG.dn.dlt hqD; omega)).2.1 q2
   exact (hG.dn.clo hqD hj (hends _ _ hj).1).resolve_left fun h => q3 h.1
  ·intro hA
   obtain ⟨q, q1, q2⟩ := hG.dn.adjA hA
   exact ⟨⟨q, (hFD q).2 q1, (join_bit hJ (by have := hG.dn.dlt q1; omega)).2.2 q2⟩, fun h => hG.dn.dis h hA⟩) ?_
 rintro o N W2 ⟨hE2, hN40, hNA⟩
 have hall := all_wp ((hVw.ext hE1).ext hE2) hn40
 have hpw : 2 ^ n - 1 < 1099511627776 := by
  have := Nat.pow_le_pow_right (n := 2) (by omega) hn40
  omega
 have hfb : ∀ x, (2 ^ n - 1).testBit x = true ↔ x < n := fun x => by rw [full_bit, decide_eq_true_eq]
 generalize 2 ^ n - 1 = m at hall hpw hfb
 obtain ⟨a1, m1, m2, m3⟩ := aBinI_andNot .u64 m F (by show m < 18446744073709551616; omega) (by show F < 18446744073709551616; omega)
 obtain ⟨a2, k1, k2, k3⟩ := aBinI_andNot .u64 a1 N (by show a1 < 18446744073709551616; omega) (by show N < 18446744073709551616; omega)
 try simp only [wA]
 refine wpK_reg (fun R hR => by
  simp [aEnter, fun63, sO, aCallV]; rw [cN]
  refine hall.mono ?_
  rintro _ W9 ⟨e9, rfl⟩; subst W9
  simp [m2, k2]; exact hR) ?_
 refine wpK_ret ⟨.inr rfl, rfl, [.int .u64 (F : Int), .int .u64 (N : Int), .int .u64 (a2 : Int)], by simp, hE1.trans hE2, F, N, a2, rfl, s, D, A, cl, hG, hFD, hNA, fun x => ?_⟩
 rw [k3, Bool.and_eq_true, Bool.not_eq_true', <- Bool.not_eq_true, m3, Bool.and_eq_true, Bool.not_eq_true', <- Bool.not_eq_true, hFD, hNA, hfb, and_assoc]
def AntiL (n : Nat) (R : Nat -> Nat -> Bool) (ls : List Nat) : Prop := ∀ i, i < ls.length -> ls.getD i 0 < n /\ (0 < i -> ls.getD (i - 1) 0 < ls.getD i 0) /\ ∀ k, k < i -> R (ls.getD i 0) (ls.getD k 0) = false /\ R (ls.getD k 0) (ls.getD i 0) = false
def inA (nx : Nat -> Int) (met x : Nat) : Bool := !met.testBit x && (decide (nx x = -1) || met.testBit (nx x).toNat)
def antiS (n : Nat) (nx : Nat -> Int) (met : Nat) : List Nat := (List.range n).filter (inA nx met)
def headS (n : Nat) (pr : Nat -> Int) : List Nat := (List.range n).filter fun x => decide (pr x = -1)
theorem list_nat {W : AW} {x n : Nat} {ls : List Nat} (hx : ∀ b, x.testBit b = true ↔ b ∈ ls) (hls : ∃ p : Nat -> Bool, ls = (List.range n).filter p) (hn : n <= 40) (hT : tabsIn T0 T0.tabs W = true) (h0 : 0 < W.next) :
  WpF T0 58 [.int .u64 (x : Nat)] W (fun v W' => Ext W W' /\ GrowsN W' v ls.length (natsV ls) 3 1 (fun b => W.next <= b)) := by
 obtain ⟨p, hp⟩ := hls
 have hxn : ∀ b, x.testBit b = true -> b < n := fun b hb => by
  have := (hx b).1 hb
  rw [hp] at this
  exact List.mem_range.1 (List.mem_filter.1 this).1
 have e : (List.range 40).filter (x.testBit ·) = ls := by
  have h1 : (List.range 40).filter (x.testBit ·) = (List.range n).filter (x.testBit ·) := by
   rw [show List.range 40 = List.range n ++ (List.range (40 - n)).map (n + ·) from by rw [<- List.range_add]; congr 1; omega, List.filter_append]
   have : ((List.range (40 - n)).map (n + ·)).filter (x.testBit ·) = [] := by
    rw [List.filter_eq_nil_iff]
    intro b hb hb2
    obtain ⟨c, _, rfl⟩ := List.mem_map.1 hb
    have := hxn _ hb2; omega
   rw [this, List.append_nil]
  rw [h1, hp]
  apply List.filter_congr
  intro b hb
  rw [Bool.eq_iff_iff, hx b, hp, List.mem_filter]
  exact ⟨fun h => h.2, fun h => ⟨hb, h⟩⟩
 have e2 : intsV (memb 40 x) = natsV ls := by
  unfold memb intsV natsV
  rw [e, List.map_map]; rfl
 have e3 : (memb 40 x).length = ls.length := by unfold memb; rw [e, List.length_map]
 have := list_wp (W := W) (x := x) (lt40 fun b hb => by have := hxn b hb; omega) hT h0
 rw [e2, e3] at this; exact this
theorem build35 (a b c d e f : Nat) (u x : Option Addr) (y : Option Addr) : aBuild T0 35 [(0, .slice u a b), (1, .slice x c d), (2, .slice y e f)] = some (.agg ⟨[.slice u a b, .slice x c d, .slice y e f]⟩) := by kernel_rfl
theorem list_membs {W : AW} {x n : Nat} (hx : ∀ b, x.testBit b = true -> b < n) (hn : n <= 40) (hT : tabsIn T0 T0.tabs W = true) (h0 : 0 < W.next) :
  WpF T0 58 [.int .u64 (x : Nat)] W (fun v W' => Ext W W' /\ ∃ u c, v = .slice u (membs n x).length c /\ GrowsN W' v (membs n x).length (natsV (membs n x)) 3 1 (fun b => W.next <= b)) :=
 (list_nat (ls := membs n x) (fun b => by rw [membs_mem]; exact ⟨fun h => ⟨hx b h, h⟩, fun h => h.2⟩) ⟨_, rfl⟩ hn hT h0).mono fun v W' ⟨h1, h2⟩ => by
  obtain ⟨u, c, e⟩ := h2.len
  exact ⟨h1, u, c, e, h2⟩
theorem divide_ok {W : AW} {v : Value} {n : Nat} {es : List Edge} (h : PairR W v es) (hl : es.length < 4611686018427387904) (hg : GraphOk (n : Int) es) (hT : tabsIn T0 T0.tabs W = true) (hN0 : 0 < W.next) :
  WpF T0 19 [.agg ⟨[.int .i64 (n : Int), v]⟩] W (fun u W' => Ext W W' /\ ∃ fv nv rv, u = .tuple ⟨[.agg ⟨[fv, nv, rv]⟩, .int .i64 0]⟩ /\ ∃ (F N R : Nat), IntN W' fv (membL n F) /\ IntN W' nv (membL n N) /\ IntN W' rv (membL n R) /\
   ∃ s D A cl, Great n (AjE es) s D A cl n /\ (∀ x, F.testBit x = true ↔ D x) /\ (∀ x, N.testBit x = true ↔ A x) /\ ∀ x, R.testBit x = true ↔ x < n /\ ¬ D x /\ ¬ A x) := by
 have hn40 : n <= 40 := by have := hg.2.1; omega
 refine wpF fun19 rfl ?_
 obtain ⟨W1, hW1, hE1, hV, hV2, hn1⟩ : ∃ W1, W1 = (W.newCells 25 [.int .i64 (n : Int), v]).newCells 35 [.slice none 0 0, .slice none 0 0, .slice none 0 0] /\ Ext W W1 /\ Var W1 W.next 25 [.int .i64 (n : Int), v] /\ Var W1 (W.next + 1) 35 [.slice none 0 0, .slice none 0 0, .slice none 0 0] /\ W1.next = W.next + 2 :=
  ⟨_, rfl, (Only.newCells _ _ _).trans (Only.newCells _ _ _), (Var.new _ _ _).ext (.newCells _ _ _), Var.new _ _ _, rfl⟩
 have hl1 := load25 hV
 try simp only [wA]
 refine wpK_reg (fun R hR => by simp [zero35, newCells_next, <- hW1]; exact hR) ?_
 try simp only [wA]
 refine wpK_x1 (fun R hR => by
   simp [hl1, opExtract, aExtract, aEnter, fun54, sO, aCallV]; rw [cN]
   refine (lay_ok (h.ext hE1) hl hg).mono ?_
   rintro _ W2 ⟨hE2, w, hw, rfl, hWeb⟩
   simp [hl1, opExtract, aExtract]; exact hR w W2 (And.intro hE2 (And.intro hw hWeb))) ?_
 rintro w W2 ⟨hE2, hw, hWeb⟩
 try simp only [wA]
 refine wpK_reg (fun R hR => by simp []; exact hR) ?_
 try simp only [wA]
 first | refine wpK_onF (by simp []) ?_ | refine wpK_out (by simp []) ?_ | refine wCF (by simp []) ?_ | refine wEF (by simp []) (wpK_skip ?_) | refine wEF (by simp []) ?_
 obtain ⟨Jl, hJ, hVw⟩ := hWeb
 have hE02 := hE1.trans hE2
 have hT2 := tabs_ext hT hN0 hE02
 have n2 := hE02.1
 try simp only [wA]
 refine wpK_x3 (fun R hR => by
   simp [opExtract, aExtract, aEnter, fun57, sO, aCallV]; rw [cN]
   refine (divide_wp hg hJ hVw hT2 (by omega)).mono ?_
   rintro _ W3 ⟨hE3, F, N, R, rfl, hD⟩
   simp [opExtract, aExtract]; exact hR F N R W3 (And.intro hE3 hD)) ?_
 rintro F N R W3 ⟨hE3, hD⟩
 obtain ⟨s, D, A, cl, hG, hF, hNA, hR⟩ := hD
 have hE03 := hE02.trans hE3
 have hT3 := tabs_ext hT hN0 hE03
 have n3 := hE03.1
 have n12 := hE2.1
 have n23 := hE3.1
 have hFn : ∀ b, F.testBit b = true -> b < n := fun b hb => hG.dn.dlt ((hF b).1 hb)
 have hNn : ∀ b, N.testBit b = true -> b < n := fun b hb => hG.dn.alt ((hNA b).1 hb)
 have hRn : ∀ b, R.testBit b = true -> b < n := fun b hb => ((hR b).1 hb).1
 have hV23 := (hV2.ext hE2).ext hE3
 try simp only [wA]
 refine wpK_x3 (P := fun (fv nv rv : Value) W4 => Ext W W4 /\ IntN W4 fv (membL n F) /\ IntN W4 nv (membL n N) /\ IntN W4 rv (membL n R) /\ aLoadVar T0 W4 35 (W.next + 1) 0 = some (.agg ⟨[fv, nv, rv]⟩)) (fun R9 hR9 => by
  simp [aEnter, fun58, sO, aCallV]; rw [cN]
  refine (list_membs hFn hn40 hT3 (by omega)).mono ?_
  rintro fv Wa ⟨hEa, u1, k1, e1, r1⟩
  have hTa := tabs_ext hT3 (by omega) hEa
  have na := hEa.1
  simp [aEnter, fun58, sO, aCallV]; rw [cN]
  refine (list_membs hNn hn40 hTa (by omega)).mono ?_
  rintro nv Wb ⟨hEb, u2, k2, e2, r2⟩
  have hTb := tabs_ext hTa (by omega) hEb
  have nb := hEb.1
  simp [aEnter, fun58, sO, aCallV]; rw [cN]
  refine (list_membs hRn hn40 hTb (by omega)).mono ?_
  rintro rv Wc ⟨hEc, u3, k3, e3, r3⟩
  have ncc := hEc.1
  have hb : aBuild T0 35 [(0, fv), (1, nv), (2, rv)] = some (.agg ⟨[fv, nv, rv]⟩) := by rw [e1, e2, e3]; exact build35 _ _ _ _ _ _ _ _ _
  obtain ⟨Wd, g1, g2, g3, g4⟩ := (((hV23.ext hEa).ext hEb).ext hEc).store (T := T0) (t := 35) (v := .agg ⟨[fv, nv, rv]⟩) (o := 0) inf35 (by rw [is35]; rfl) (by simp) (by rw [e1, e2, e3]; rfl)
  have hl3 := load35 (x := fv) (y := nv) (z := rv) (by simpa using g4)
  simp [hb, g1]
  have hEd : Ext W Wd := ⟨by omega, fun b hb2 _ => by rw [g3.2 b (by omega) (by omega), hEc.2 b (by omega) (fun x => x), hEb.2 b (by omega) (fun x => x), hEa.2 b (by omega) (fun x => x), hE03.2 b hb2 (fun x => x)]⟩
  have m1 : IntN Wd fv (membL n F) := natsN_row (((r1.only hEb (fun _ _ _ x => x)).only hEc (fun _ _ _ x => x)).only g3 (fun b _ hb e => by omega))
  have m2 : IntN Wd nv (membL n N) := natsN_row ((r2.only hEc (fun _ _ _ x => x)).only g3 (fun b _ hb e => by omega))
  have m3 : IntN Wd rv (membL n R) := natsN_row (r3.only g3 (fun b _ hb e => by omega))
  exact hR9 fv nv rv Wd ⟨hEd, m1, m2, m3, hl3⟩) ?_
 rintro fv nv rv W4 ⟨hE4, r1, r2, r3, hl4⟩
 exact wpK_ret ⟨.inr rfl, rfl, [.agg ⟨[fv, nv, rv]⟩, .int .i64 0], by simp [hl4], hE4, fv, nv, rv, rfl, F, N, R, r1, r2, r3, s, D, A, cl, hG, hF, hNA, hR⟩
theorem barrier_ok {W : AW} {v : Value} {n : Nat} {es : List Edge} (h : PairR W v es) (hl : es.length < 4611686018427387904) (hg : GraphOk (n : Int) es) (hT : tabsIn T0 T0.tabs W = true) (hN0 : 0 < W.next) :
  WpF T0 18 [.agg ⟨[.int .i64 (n : Int), v]⟩] W (fun u W' => Ext W W' /\ ∃ nv, u = .tuple ⟨[nv, .int .i64 0]⟩ /\ ∃ (N : Nat), IntN W' nv (membL n N) /\ ∃ s D A cl, Great n (AjE es) s D A cl n /\ (∀ x, N.testBit x = true ↔ A x)) := by
 refine wpF fun18 rfl ?_
 obtain ⟨W1, hW1, hE1, hV⟩ : ∃ W1, W1 = W.newCells 25 [.int .i64 (n : Int), v] /\ Ext W W1 /\ Var W1 W.next 25 [.int .i64 (n : Int), v] := ⟨_, rfl, .newCells _ _ _, Var.new _ _ _⟩
 have hl1 := load25 hV
 try simp only [wA]
 refine wpK_reg (fun R hR => by simp [<- hW1]; exact hR) ?_
 try simp only [wA]
 refine wpK_x4 (P := fun (fv nv rv : Value) (p : Nat) W2 => Ext W1 W2 /\ Var W2 p 35 [fv, nv, rv] /\ (∃ A k c, nv = .slice A k c) /\ ∃ (N : Nat), IntN W2 nv (membL n N) /\ (∃ s D A cl, Great n (AjE es) s D A cl n /\ (∀ x, N.testBit x = true ↔ A x))) (fun R9 hR9 => by
  simp [hl1, aEnter, fun19, sO, aCallV]; rw [cN]
  refine (divide_ok (h.ext hE1) hl hg (tabs_ext hT hN0 hE1) (by have := hE1.1; omega)).mono ?_
  rintro _ W2 ⟨hE2, fv, nv, rv, rfl, F, N, R, r1, r2, r3, s, D, A, cl, hG, hF, hNA, hR⟩
  obtain ⟨A1, c1, e1⟩ := r1.len
  obtain ⟨A2, c2, e2⟩ := r2.len
  obtain ⟨A3, c3, e3⟩ := r3.len
  obtain ⟨W3, g1, g2, g3, g4⟩ := storeVar_new (T := T0) (W := W2) (t := 35) (v := .agg ⟨[fv, nv, rv]⟩) (z := [.slice none 0 0, .slice none 0 0, .slice none 0 0]) inf35 (by rw [is35]; rfl) (by rw [is35]; rfl) (by rw [e1, e2, e3]; rfl)
  obtain ⟨pn, hpn⟩ : ∃ p, W2.next = p := ⟨_, rfl⟩
  rw [hpn] at g1 g4
  simp [hl1, opExtract, aExtract, zero35, hpn, g1]
  exact hR9 fv nv rv pn W3 ⟨hE2.trans g3, by simpa using g4, ⟨A2, _, c2, e2⟩, N, r2.ext g3, s, D, A, cl, hG, hNA⟩) ?_
 rintro fv nv rv p W3 ⟨hE3, hV3, ⟨A2, k2, c2, e2⟩, N, r2, hD⟩
 have l3 := hV3.load1 (T := T0) und31 rfl (j := 1) (v := nv) rfl
 try simp only [wA]
 refine wpK_reg (fun R hR => by simp [l3]; exact hR) ?_
 exact wpK_ret ⟨.inr rfl, rfl, [nv, .int .i64 0], by simp, hE1.trans hE3, nv, rfl, N, r2, hD⟩
open Classical in
theorem tame9_wp {W : AW} {v : Value} (P : Int) {es : List Edge} (h : PairR W v es) (hl : es.length < 9223372036854775808) :
  WpF T0 23 [.agg ⟨[.int .i64 P, v]⟩, .int .i64 9, .int .i64 18] W (fun u W' => Ext W W' /\ ∃ (n : Nat) (ov : Value) (xs : List Edge), u = .agg ⟨[.int .i64 (n : Int), ov]⟩ /\ 1 <= n /\ n <= 9 /\ GraphOk (n : Int) xs /\ xs.length <= 18 /\ PairR W' ov xs) := by
 refine wpF fun23 rfl ?_
 obtain ⟨Av, cv, hvv⟩ := h.len
 obtain ⟨W1, hW1, hE1, hV, hV6, hn1⟩ : ∃ W1, W1 = (W.newCells 24 [.int .i64 P, v]).newCells 24 [.int .i64 0, .slice none 0 0] /\ Ext W W1 /\ Var W1 W.next 24 [.int .i64 P, v] /\ Var W1 (W.next + 1) 24 [.int .i64 0, .slice none 0 0] /\ W1.next = W.next + 2 :=
  ⟨_, rfl, (Only.newCells _ _ _).trans (Only.newCells _ _ _), (Var.new _ _ _).ext (.newCells _ _ _), Var.new _ _ _, rfl⟩
 have l0 := hV.load1 (T := T0) und3 rfl (j := 0) (v := .int .i64 P) rfl
 obtain ⟨y0, hy0⟩ : ∃ y0 : Nat, IntKind.u64.wrap (IntKind.i64.wrap (P - 1)) = (y0 : Int) := ⟨(IntKind.u64.wrap (IntKind.i64.wrap (P - 1))).toNat, by rw [IntKind.wrap_u64]; omega⟩
 have h7w : IntKind.u64.wrap 9 = 9 := by decide
 have r7 := aBinI_rem .u64 (y0 : Int) (9 : Nat) (by omega)
 rw [ofNat_tmod] at r7
 have hy7 : y0 % 9 < 9 := Nat.mod_lt _ (by omega)
 generalize y0 % 9 = y at r7 hy7
 have r7 : aBinI .rem .u64 (y0 : Int) .u64 9 = some (.int .u64 (y : Int)) := r7
 obtain ⟨n, hn⟩ : ∃ n, n = y + 1 := ⟨_, rfl⟩
 have a1 : IntKind.i64.wrap (y : Int) = (y : Int) := i64_in (by omega)
 have a2 : IntKind.i64.wrap (1 + (y : Int)) = (n : Int) := by rw [i64_in (by omega)]; omega
 obtain ⟨W2, hW2, hE2, hn2, hV7⟩ : ∃ W2, W2 = W1.newCells 24 [.int .i64 0, .slice none 0 0] /\ Ext W1 W2 /\ W2.next = W1.next + 1 /\ Var W2 W1.next 24 [.int .i64 0, .slice none 0 0] := ⟨_, rfl, .newCells _ _ _, rfl, Var.new _ _ _⟩
 obtain ⟨W3, g1, g2, g3, g4⟩ := hV7.store (T := T0) (t := 24) (v := .agg ⟨[.int .i64 (n : Int), .slice none 0 0]⟩) (o := 0) inf24 (by rw [is24]; rfl) (by simp) rfl
 have hV7' : Var W3 W1.next 24 [.int .i64 (n : Int), .slice none 0 0] := by simpa using g4
 have hE13 : Ext W1 W3 := ⟨by omega, fun b hb hk => by rw [g3.2 b (by omega) (by omega), hE2.2 b hb hk]⟩
 try simp only [wA]
 refine wpK_reg (fun R hR => by simp [zero24, newCells_next, <- hW1]; exact hR) ?_
 try simp only [wA]
 refine wpK_reg (fun R hR => by simp [l0, conv_3_56, conv_56_3, hy0, h7w, r7, a1, a2, build24_0, zero24, <- hW2, g1]; exact hR) ?_
 try simp only [wA]
 refine wpK_reg (fun R hR => by simp []; exact hR) ?_
 obtain ⟨p7, hp7⟩ : ∃ p, p = W1.next := ⟨_, rfl⟩
 rw [<- hp7] at hV7'
 have hV3 := hV.ext hE13
 have hV63 := hV6.ext hE13
 have hE03 := hE1.trans hE13
 refine wpK_keep (fun tm' => tm'.get 2 = some (.int .i64 18) /\ tm'.get 3 = some (.pointer (some ⟨W.next, 0, none⟩)) /\ tm'.get 6 = some (.pointer (some ⟨W.next + 1, 0, none⟩)) /\ tm'.get 7 = some (.pointer (some ⟨p7, 0, none⟩)) /\ tm'.get 8 = some (.int .i64 0)) (by simp [hp7]) ?_
 rintro tm ⟨h2, h3, h6, h7, h8⟩
 try simp only [wA]
 refine wpK_while (I := fun k A' W' => A'.n = 80 /\ A'.defers = [] /\ A'.tmps.get 2 = some (.int .i64 18) /\ A'.tmps.get 3 = some (.pointer (some ⟨W.next, 0, none⟩)) /\ A'.tmps.get 6 = some (.pointer (some ⟨W.next + 1, 0, none⟩)) /\ A'.tmps.get 7 = some (.pointer (some ⟨p7, 0, none⟩)) /\ Ext W1 W' /\ ∃ (i : Nat) (ov : Value) (xs : List Edge) (K : Nat -> Prop), A'.tmps.get 8 = some (.int .i64 (i : Int)) /\ k = es.length - i /\ Var W' p7 24 [.int .i64 (n : Int), ov] /\ GrowsN W' ov xs.length (flatE encP xs) 55 2 K /\ (∀ b, K b -> W1.next < b) /\ xs.length <= 18 /\ GoodTo (n : Int) xs xs.length)
  (J := fun A' W' => A'.n = 80 /\ A'.defers = [] /\ A'.tmps.get 2 = some (.int .i64 18) /\ A'.tmps.get 3 = some (.pointer (some ⟨W.next, 0, none⟩)) /\ A'.tmps.get 6 = some (.pointer (some ⟨W.next + 1, 0, none⟩)) /\ A'.tmps.get 7 = some (.pointer (some ⟨p7, 0, none⟩)) /\ Ext W1 W' /\ ∃ (ov : Value) (xs : List Edge) (K : Nat -> Prop), Var W' p7 24 [.int .i64 (n : Int), ov] /\ GrowsN W' ov xs.length (flatE encP xs) 55 2 K /\ (∀ b, K b -> W1.next < b) /\ xs.length <= 18 /\ GoodTo (n : Int) xs xs.length) (Rt := fun _ _ => False) (k := es.length) ?_ ?_ ?_ ?_
 ·exact ⟨rfl, rfl, by simp [h2, h3, h6, h7], by simp [h2, h3, h6, h7], by simp [h2, h3, h6, h7], by simp [h2, h3, h6, h7], hE13, 0, .slice none 0 0, [], fun _ => False, by simp [h8], rfl, hV7', .nil _ _ _ _, fun b hb => hb.elim, by simp, fun i hi => by simp at hi⟩
 ·rintro k ⟨tm, n, ds⟩ Wa ⟨hn, hd, h2, h3, h6, h7, hEa, i, ov, xs, K, h8, hk, hVo, hgr, hK, hx12, hgood⟩ Q' hJ' hRt hI
  simp only at hn hd h2 h3 h6 h7
  subst hn; subst hd
  simp only at h8
  have hVa := hV.ext hEa
  have m1 := hVa.load1 (T := T0) und22 rfl (j := 1) (v := v) rfl
  have o0 := hVo.load1 (T := T0) und3 rfl (j := 0) (v := .int .i64 (n : Int)) rfl
  have o1 := hVo.load1 (T := T0) und22 rfl (j := 1) (v := ov) rfl
  have hRo : PairR Wa ov xs := hgr.row encP_len
  obtain ⟨Ao, co, hov⟩ := hRo.len
  have ll : ∀ W', aLen T0 W' 22 v = some (.int .i64 es.length) := fun W' => by rw [hvv]; exact len_slice und22 _ _ _
  have lo : ∀ W', aLen T0 W' 22 ov = some (.int .i64 xs.length) := fun W' => by rw [hov]; exact len_slice und22 _ _ _
  by_cases hlt : i < es.length
  case neg =>
   have hlt' : ¬ (i : Int) < es.length := by omega
   try simp only [wA]
   refine wpK_reg (fun R hR => by simp [h2, h3, h7, h8, m1, ll, hlt', undef]; exact hR) ?_
   try simp only [wA]
   first | refine wpK_onF (by simp [hlt]) ?_ | refine wpK_out (by simp [hlt]) ?_ | refine wCF (by simp [hlt]) ?_ | refine wEF (by simp [hlt]) (wpK_skip ?_) | refine wEF (by simp [hlt]) ?_
   exact hJ' _ _ ⟨rfl, rfl, by simp [h2, h3, h6, h7], by simp [h2, h3, h6, h7], by simp [h2, h3, h6, h7], by simp [h2, h3, h6, h7], hEa, ov, xs, K, hVo, hgr, hK, hx12, hgood⟩
  have hlt' : (i : Int) < es.length := by omega
  by_cases h12 : xs.length < 18
  case neg =>
   have h12' : ¬ (xs.length : Int) < 18 := by omega
   try simp only [wA]
   refine wpK_reg (fun R hR => by simp [h2, h3, h7, h8, m1, o1, ll, lo, hlt', h12']; exact hR) ?_
   try simp only [wA]
   first | refine wpK_onF (by simp [hlt, h12]) ?_ | refine wpK_out (by simp [hlt, h12]) ?_ | refine wCF (by simp [hlt, h12]) ?_ | refine wEF (by simp [hlt, h12]) (wpK_skip ?_) | refine wEF (by simp [hlt, h12]) ?_
   exact hJ' _ _ ⟨rfl, rfl, by simp [h2, h3, h6, h7], by simp [h2, h3, h6, h7], by simp [h2, h3, h6, h7], by simp [h2, h3, h6, h7], hEa, ov, xs, K, hVo, hgr, hK, hx12, hgood⟩
  have h12' : (xs.length : Int) < 18 := by omega
  try simp only [wA]
  refine wpK_reg (fun R hR => by simp [h2, h3, h7, h8, m1, o1, ll, lo, hlt', h12']; exact hR) ?_
  try simp only [wA]
  first | refine wpK_onT (by simp [hlt, h12]) ?_ | refine wpK_outT (by simp [hlt, h12]) ?_ | refine wCT (by simp [hlt, h12]) ?_ | refine wpK_endT (by simp [hlt, h12]) ?_
  obtain ⟨⟨ea, eb⟩, hab⟩ : ∃ e : Edge, es[i] = e := ⟨_, rfl⟩
  have ha : es[i]? = some (ea, eb) := by rw [List.getElem?_eq_getElem hlt, hab]
  have hR := h.ext (hE1.trans hEa)
  obtain ⟨q, o, hx, hh⟩ := hR.at (T := T0) ha und22 sz55 .i64
  have la := load_of und3 rfl (hh 0 (.int .i64 ea) rfl)
  have lb := load_of und3 rfl (hh 1 (.int .i64 eb) rfl)
  rw [Nat.add_zero] at la
  have vv := row_eq hR
  obtain ⟨xa, hxa⟩ : ∃ z : Nat, IntKind.u64.wrap ea = (z : Int) := ⟨(IntKind.u64.wrap ea).toNat, by rw [IntKind.wrap_u64]; omega⟩
  obtain ⟨xb, hxb⟩ : ∃ z : Nat, IntKind.u64.wrap eb = (z : Int) := ⟨(IntKind.u64.wrap eb).toNat, by rw [IntKind.wrap_u64]; omega⟩
  have hwn : IntKind.u64.wrap (n : Int) = (n : Int) := u64_nat (by omega)
  have r1 := aBinI_rem .u64 (xa : Int) (n : Int) (by omega)
  have r2 := aBinI_rem .u64 (xb : Int) (n : Int) (by omega)
  rw [ofNat_tmod] at r1 r2
  have ha' : xa % n < n := Nat.mod_lt _ (by omega)
  have hb' : xb % n < n := Nat.mod_lt _ (by omega)
  generalize xa % n = a at r1 ha'
  generalize xb % n = b at r2 hb'
  have wa : IntKind.i64.wrap (a : Int) = (a : Int) := i64_in (by omega)
  have wb : IntKind.i64.wrap (b : Int) = (b : Int) := i64_in (by omega)
  refine wpK_block ?_
  try simp only [wA]
  refine wpK_dn (wr := Tr.nil |>.set 36 0 |>.set 37 1 |>.set 38 2 |>.set 39 3 |>.set 40 4 |>.set 41 5 |>.set 42 6 |>.set 43 7 |>.set 44 8 |>.set 45 9 |>.set 46 10 |>.set 47 11 |>.set 48 12 |>.set 49 13 |>.set 50 14 |>.set 51 15 |>.set 52 16 |>.set 53 17 |>.set 54 18 |>.set 55 19 |>.set 56 20 |>.set 57 21 |>.set 58 22 |>.set 59 23 |>.set 9 24 |>.set 10 25) (bits := Tr.nil.lay 0 [0, 1, 0, 7, 15, 31, 63, 0, 128, 384, 1023, 2047, 0, 4096, 0, 28672, 61440, 126976, 258048, 0, 524288, 1572864, 4190208, 8384512, 4095, 33554431]) (ord := [0, 1, 2, 3, 4, 5, 6, 7, 8, 9, 10, 11, 12, 13, 14, 15, 16, 17, 18, 19, 20, 21, 22, 23, 24, 25]) (by kernel_rfl) (by kernel_rfl) (by kernel_rfl) (fun G hG => by
   simp [h3, h7, h8, m1, hx, ix55_0, ix55_1, la, lb, vv, o0, conv_3_56, conv_56_3, hxa, hxb, hwn, r1, r2, wa, wb]
   exact hG) ?_
  refine wpK_keep (fun tm' => tm'.get 2 = some (.int .i64 18) /\ tm'.get 3 = some (.pointer (some ⟨W.next, 0, none⟩)) /\ tm'.get 6 = some (.pointer (some ⟨W.next + 1, 0, none⟩)) /\ tm'.get 7 = some (.pointer (some ⟨p7, 0, none⟩)) /\ tm'.get 8 = some (.int .i64 (i : Int)) /\ tm'.get 9 = some (.int .i64 (a : Int)) /\ tm'.get 10 = some (.int .i64 (b : Int))) (by simp [h2, h3, h6, h7, h8]) ?_
  rintro tm ⟨h2, h3, h6, h7, h8, h9, h10⟩
  have lw := load24 hVo
  have hjw := refJoined_wp (n : Int) hRo (by omega) (a : Int) (b : Int)
  by_cases hab2 : a = b
  ·have hab4 : (a : Int) = (b : Int) := by omega
   try simp only [wA]
   refine wpK_reg (fun R hR => by simp [h7, h9, h10, hab4, undef]; exact hR) ?_
   try simp only [wA]
   first | refine wpK_onF (by simp []) ?_ | refine wpK_out (by simp []) ?_ | refine wCF (by simp []) ?_ | refine wEF (by simp []) (wpK_skip ?_) | refine wEF (by simp []) ?_
   simp only [lN, bN]
   refine wpK_keep (fun tm' => tm'.get 2 = some (.int .i64 18) /\ tm'.get 3 = some (.pointer (some ⟨W.next, 0, none⟩)) /\ tm'.get 6 = some (.pointer (some ⟨W.next + 1, 0, none⟩)) /\ tm'.get 7 = some (.pointer (some ⟨p7, 0, none⟩)) /\ tm'.get 8 = some (.int .i64 (i : Int)) /\ tm'.get 9 = some (.int .i64 (a : Int)) /\ tm'.get 10 = some (.int .i64 (b : Int))) (by simp [h2, h3, h6, h7, h8, h9, h10]) ?_
   rintro tm ⟨h2, h3, h6, h7, h8, h9, h10⟩
   try simp only [wA]
   refine wpK_reg1 (fun R hR => by simp [h8]; exact hR) ?_
   exact hI (es.length - (i + 1)) _ _ (by omega) ⟨rfl, rfl, by simp [h2, h3, h6, h7], by simp [h2, h3, h6, h7], by simp [h2, h3, h6, h7], by simp [h2, h3, h6, h7], hEa, i + 1, ov, xs, K, by simp [i64_succ i (by omega)], rfl, hVo, hgr, hK, hx12, hgood⟩
  have hab3 : ¬ (a : Int) = (b : Int) := by omega
  have hpn : p7 < Wa.next := hVo.1
  by_cases hj : Jn xs (a : Int) (b : Int)
  ·rw [decide_eq_true hj] at hjw
   try simp only [wA]
   refine wpK_x0 (P := fun W' => Ext Wa W') (fun R hR => by
    simp [h7, h9, h10, hab3, hab2, lw, aEnter, fun64, sO, aCallV]; rw [cN]
    refine hjw.mono ?_
    rintro _ Wb ⟨hEb, rfl⟩
    simp; exact hR Wb hEb) ?_
   rintro Wb hEb
   try simp only [wA]
   first | refine wpK_onF (by simp []) ?_ | refine wpK_out (by simp []) ?_ | refine wCF (by simp []) ?_ | refine wEF (by simp []) (wpK_skip ?_) | refine wEF (by simp []) ?_
   simp only [lN, bN]
   refine wpK_keep (fun tm' => tm'.get 2 = some (.int .i64 18) /\ tm'.get 3 = some (.pointer (some ⟨W.next, 0, none⟩)) /\ tm'.get 6 = some (.pointer (some ⟨W.next + 1, 0, none⟩)) /\ tm'.get 7 = some (.pointer (some ⟨p7, 0, none⟩)) /\ tm'.get 8 = some (.int .i64 (i : Int)) /\ tm'.get 9 = some (.int .i64 (a : Int)) /\ tm'.get 10 = some (.int .i64 (b : Int))) (by simp [h2, h3, h6, h7, h8, h9, h10]) ?_
   rintro tm ⟨h2, h3, h6, h7, h8, h9, h10⟩
   try simp only [wA]
   refine wpK_reg1 (fun R hR => by simp [h8]; exact hR) ?_
   exact hI (es.length - (i + 1)) _ _ (by omega) ⟨rfl, rfl, by simp [h2, h3, h6, h7], by simp [h2, h3, h6, h7], by simp [h2, h3, h6, h7], by simp [h2, h3, h6, h7], hEa.trans hEb, i + 1, ov, xs, K, by simp [i64_succ i (by omega)], rfl, hVo.ext hEb, hgr.only hEb (fun _ _ _ x => x), hK, hx12, hgood⟩
  ·rw [decide_eq_false hj] at hjw
   try simp only [wA]
   refine wpK_x0 (P := fun W' => Ext Wa W') (fun R hR => by
    simp [h7, h9, h10, hab3, hab2, lw, aEnter, fun64, sO, aCallV]; rw [cN]
    refine hjw.mono ?_
    rintro _ Wb ⟨hEb, rfl⟩
    simp; exact hR Wb hEb) ?_
   rintro Wb hEb
   try simp only [wA]
   first | refine wpK_onT (by simp []) ?_ | refine wpK_outT (by simp []) ?_ | refine wCT (by simp []) ?_ | refine wpK_endT (by simp []) ?_
   have hVb := hVo.ext hEb
   have hgb := hgr.only hEb (fun _ _ _ x => x)
   have ob := hVb.load1 (T := T0) und22 rfl (j := 1) (v := ov) rfl
   obtain ⟨v', Wc, Wd, q1, q2, q3, q4, q5, q6, q7⟩ := Var.push (T := T0) (t := 22) (el := 55) (i := Tryd.t55) (it := Tryd.t22) (sz := 2) (by omega) und22 inf55 is55 z55 rfl inf22 is22 hgb hVb (o := 1) (fun hk => by have := hK _ hk; omega) (by simp) (u := [.int .i64 (a : Int), .int .i64 (b : Int)]) rfl rfl (by rw [by55]; omega) (by omega)
   have q1 : aAppend T0 (Wb.newCells 55 [.int .i64 (a : Int), .int .i64 (b : Int)]) [22, 22] [ov, .slice (some ⟨Wb.next, 0, none⟩) 1 2] = some (v', Wc) := q1
   try simp only [wA]
   refine wpK_reg (fun R hR => by simp [h7, ob]; exact hR) ?_
   try simp only [wA]
   refine wpK_reg1 (fun R hR => by simp [h7, h9, h10, build55, bs22, q1, q2]; exact hR) ?_
   simp only [lN, bN]
   refine wpK_keep (fun tm' => tm'.get 2 = some (.int .i64 18) /\ tm'.get 3 = some (.pointer (some ⟨W.next, 0, none⟩)) /\ tm'.get 6 = some (.pointer (some ⟨W.next + 1, 0, none⟩)) /\ tm'.get 7 = some (.pointer (some ⟨p7, 0, none⟩)) /\ tm'.get 8 = some (.int .i64 (i : Int)) /\ tm'.get 9 = some (.int .i64 (a : Int)) /\ tm'.get 10 = some (.int .i64 (b : Int))) (by simp [h2, h3, h6, h7, h8, h9, h10]) ?_
   rintro tm ⟨h2, h3, h6, h7, h8, h9, h10⟩
   try simp only [wA]
   refine wpK_reg1 (fun R hR => by simp [h8]; exact hR) ?_
   have hl1 : (xs ++ [((a : Int), (b : Int))]).length = xs.length + 1 := by simp
   have hEab := hEa.trans hEb
   have hnb := hEab.1
   refine hI (es.length - (i + 1)) _ _ (by omega) ⟨rfl, rfl, by simp [h2, h3, h6, h7], by simp [h2, h3, h6, h7], by simp [h2, h3, h6, h7], by simp [h2, h3, h6, h7], ⟨by omega, fun c hc hk => ?_⟩, i + 1, v', xs ++ [((a : Int), (b : Int))], fun c => K c \/ c = Wb.next + 1, by simp [i64_succ i (by omega)], rfl, by simpa using q5, ?_, fun c hc => ?_, by rw [hl1]; omega, good_app hgood ⟨by omega, by omega, by omega, by omega, by omega⟩ hj⟩
   ·rw [q7.2 c (by omega) (by rintro (hh | hh); have := hK _ hh; omega; omega)]
    exact hEab.2 c hc hk
   ·rw [hl1, flatE_append, flatE_one]; exact q6
   ·rcases hc with hc | hc
    ·exact hK _ hc
    ·omega
 ·rintro A' W' hf; exact hf.elim
 ·rintro ⟨tm, n, ds⟩ Wz ⟨hn, hd, h2, h3, h6, h7, hEz, ov, xs, K, hVo, hgr, hK, hx12, hgood⟩
  simp only at hn hd h2 h3 h6 h7
  subst hn; subst hd
  have lw := load24 hVo
  have hV6z := hV6.ext hEz
  have hRo : PairR Wz ov xs := hgr.row encP_len
  obtain ⟨Ao, co, hov⟩ := hRo.len
  obtain ⟨Wf, s1, s2, s3, s4⟩ := hV6z.store (T := T0) (t := 24) (v := .agg ⟨[.int .i64 (n : Int), ov]⟩) (o := 0) inf24 (by rw [is24]; rfl) (by simp) (by rw [hov]; rfl)
  have hl3 := load24 (x := .int .i64 (n : Int)) (y := ov) (by simpa using s4)
  try simp only [wA]
  refine wpK_reg (fun R hR => by simp [h6, h7, lw, s1]; exact hR) ?_
  have hnz := hEz.1
  exact wpK_ret ⟨.inr rfl, rfl, [.agg ⟨[.int .i64 (n : Int), ov]⟩], by simp [h6, hl3], ⟨by omega, fun c hc hk => by rw [s3.2 c (by omega) (by omega), hEz.2 c (by omega) (fun x => x), hE1.2 c hc hk]⟩, n, ov, xs, rfl, by omega, by omega, ⟨by omega, by omega, by omega, hgood⟩, hx12, (hgr.only s3 (fun c hc hk e => by have := hK _ hk; omega)).row encP_len⟩

section
open Classical
variable {n : Nat} {J : Nat -> Nat -> Prop} {mt : Nat -> Int}
theorem bases_le {D A : Nat -> Prop} {cl : Nat -> Nat} (hm : Mt n J mt) (hn : n <= 40) (h : Dn n J mt D A cl) (hall : ∀ x, x < n -> mt x = -1 -> D x) :
  (listOf fun x => x < n /\ mt x = -1).length + (listOf A).length <= (listOf fun b => D b /\ cl b = b).length := by
 -- free points and mates of A are bases
 have hfree : ∀ x, x < n -> mt x = -1 -> D x /\ cl x = x := fun x hx e => by
  refine ⟨hall x hx e, ?_⟩
  apply byContradiction
  intro hne
  obtain ⟨y, y1, _⟩ := h.inn (hall x hx e) (fun e => hne e.symm)
  omega
 have hmate : ∀ y, A y -> ∃ x : Nat, mt y = (x : Int) /\ D x /\ cl x = x := fun y hy => by
  obtain ⟨x, x1, x2⟩ := h.mA hy
  refine ⟨x, x1, x2, ?_⟩
  apply byContradiction
  intro hne
  obtain ⟨z, z1, z2, _⟩ := h.inn x2 (fun e => hne e.symm)
  have e2 := hm.sym (h.alt hy) x1
  have : z = y := by omega
  subst this; exact h.dis z2 hy
 have le1 := inj_le (g := fun x => if A x then (mt x).toNat else x) (l := (listOf fun x => x < n /\ mt x = -1) ++ listOf A) (s := listOf fun b => D b /\ cl b = b) (List.nodup_append.2 ⟨listOf_nodup _, listOf_nodup _, fun x hx y hy e => by
   subst e
   have hy := (listOf_mem.1 hy).2
   have hx := (listOf_mem.1 hx).2
   exact h.dis (hall x hx.1 hx.2) hy⟩) (fun x hx => by
   rcases List.mem_append.1 hx with hx | hx
   ·obtain ⟨_, x1, x2⟩ := listOf_mem.1 hx
    have := hfree x x1 x2
    rw [if_neg (h.dis this.1)]
    exact listOf_mem.2 ⟨by omega, this⟩
   ·obtain ⟨_, x1⟩ := listOf_mem.1 hx
    obtain ⟨y, y1, y2⟩ := hmate x x1
    rw [if_pos x1, y1]
    exact listOf_mem.2 ⟨by have := h.dlt y2.1; simp only [Int.toNat_natCast]; omega, by simpa using y2⟩) (fun x hx y hy e => by
   have cs : ∀ x, x ∈ (listOf fun x => x < n /\ mt x = -1) ++ listOf A -> (¬ A x /\ x < n /\ mt x = -1) \/ (A x /\ ∃ z : Nat, mt x = (z : Int)) := fun x hx => by
    rcases List.mem_append.1 hx with hx | hx
    ·obtain ⟨_, x1, x2⟩ := listOf_mem.1 hx
     exact .inl ⟨h.dis (hfree x x1 x2).1, x1, x2⟩
    ·obtain ⟨_, x1⟩ := listOf_mem.1 hx
     obtain ⟨y, y1, y2⟩ := hmate x x1
     exact .inr ⟨x1, y, y1⟩
   rcases cs x hx with ⟨a1, a2, a3⟩ | ⟨a1, z, a2⟩
   ·rw [if_neg a1] at e
    rcases cs y hy with ⟨b1, b2, b3⟩ | ⟨b1, z, b2⟩
    ·rw [if_neg b1] at e; exact e
    ·rw [if_pos b1, b2, Int.toNat_natCast] at e
     have := hm.sym (h.alt b1) b2
     rw [<- e] at this; omega
   ·rw [if_pos a1, a2, Int.toNat_natCast] at e
    rcases cs y hy with ⟨b1, b2, b3⟩ | ⟨b1, z2, b2⟩
    ·rw [if_neg b1] at e
     have := hm.sym (h.alt a1) a2
     rw [e] at this; omega
    ·rw [if_pos b1, b2, Int.toNat_natCast] at e
     rw [<- e] at b2
     exact hm.inj (h.alt a1) (h.alt b1) a2 b2)
 rwa [List.length_append] at le1
theorem class_out {D A : Nat -> Prop} {cl : Nat -> Nat} {m2 : Nat -> Int} (hm : Mt n J mt) (hJi : ∀ x, ¬ J x x) (hn : n <= 40) (h : Dn n J mt D A cl) (hm2 : Mt n J m2) {b : Nat} (hb : D b /\ cl b = b) :
  ∃ z x : Nat, D x /\ cl x = b /\ ((m2 x = -1 /\ z = x) \/ (m2 x = (z : Int) /\ A z)) := by
 apply byContradiction
 intro hno
 have hmem : ∀ x, x ∈ listOf (fun x => D x /\ cl x = b) ↔ D x /\ cl x = b := fun x => by
  rw [listOf_mem]
  exact ⟨fun g => g.2, fun g => ⟨by have := h.dlt g.1; omega, g⟩⟩
 have hnd := listOf_nodup (fun x => D x /\ cl x = b)
 have hbm := (hmem b).2 hb
 have hlen := List.length_erase_of_mem hbm
 have hpos := List.length_pos_of_mem hbm
 have ev1 := even_paired hm hJi (hnd.erase b) (fun x hx => by
  rw [hnd.mem_erase_iff] at hx
  exact h.dlt ((hmem x).1 hx.2).1) (fun x hx => by
  rw [hnd.mem_erase_iff] at hx
  obtain ⟨x1, x2⟩ := (hmem x).1 hx.2
  obtain ⟨y, y1, y2, y3⟩ := h.inn x1 (by rw [x2]; exact hx.1)
  refine ⟨y, y1, ?_⟩
  rw [hnd.mem_erase_iff, hmem]
  refine ⟨fun e => ?_, y2, by rw [y3, x2]⟩
  subst e
  have e2 := hm.sym (h.dlt x1) y1
  rcases h.bas hb.1 hb.2.symm with g | ⟨z, g1, g2⟩
  ·omega
  ·have : z = x := by omega
   subst this; exact h.dis x1 g2)
 have ev2 := even_paired hm2 hJi hnd (fun x hx => h.dlt ((hmem x).1 hx).1) (fun x hx => by
  obtain ⟨x1, x2⟩ := (hmem x).1 hx
  have hxn := h.dlt x1
  rcases hm2.rng hxn with e | ⟨y, hy, e⟩
  ·exact absurd ⟨x, x, x1, x2, .inl ⟨e, rfl⟩⟩ hno
  ·refine ⟨y, e, ?_⟩
   rcases h.clo x1 (hm2.adj hxn e) hy with g | g
   ·exact (hmem y).2 ⟨g.1, by rw [g.2, x2]⟩
   ·exact absurd ⟨y, x, x1, x2, .inr ⟨e, g⟩⟩ hno)
 omega
theorem only_D {D A : Nat -> Prop} {cl : Nat -> Nat} {m2 : Nat -> Int} (hm : Mt n J mt) (hJi : ∀ x, ¬ J x x) (hn : n <= 40) (h : Dn n J mt D A cl) (hall : ∀ x, x < n -> mt x = -1 -> D x) (hm2 : Mt n J m2)
  (hle : (listOf fun x => x < n /\ m2 x = -1).length <= (listOf fun x => x < n /\ mt x = -1).length) : ∀ x, x < n -> m2 x = -1 -> D x := fun x hx hfx => by
 apply byContradiction
 intro hxD
 have h1 := bases_le hm hn h hall
 let g : Nat -> Nat := fun b => if hb : D b /\ cl b = b then Classical.choose (class_out hm hJi hn h hm2 hb) else 0
 have hg : ∀ b, D b /\ cl b = b -> ∃ y : Nat, D y /\ cl y = b /\ ((m2 y = -1 /\ g b = y) \/ (m2 y = (g b : Int) /\ A (g b))) := fun b hb => by
  have := Classical.choose_spec (class_out hm hJi hn h hm2 hb)
  simp only [g, dif_pos hb]; exact this
 have h2 := inj_le (g := g) (l := listOf fun b => D b /\ cl b = b) (s := ((listOf fun x => x < n /\ m2 x = -1).erase x) ++ listOf A) (listOf_nodup _) (fun b hb => by
  obtain ⟨_, hb⟩ := listOf_mem.1 hb
  obtain ⟨y, y1, y2, y3 | y3⟩ := hg b hb
  ·refine List.mem_append.2 (.inl ?_)
   rw [y3.2, (listOf_nodup _).mem_erase_iff]
   have := h.dlt y1
   exact ⟨fun e => hxD (e ▸ y1), listOf_mem.2 ⟨by omega, this, y3.1⟩⟩
  ·have := h.alt y3.2
   exact List.mem_append.2 (.inr (listOf_mem.2 ⟨by omega, y3.2⟩))) (fun a ha b hb e => by
  obtain ⟨_, ha⟩ := listOf_mem.1 ha
  obtain ⟨_, hb⟩ := listOf_mem.1 hb
  obtain ⟨y, y1, y2, y3⟩ := hg a ha
  obtain ⟨z, z1, z2, z3⟩ := hg b hb
  have same : y = z -> a = b := fun e => by rw [<- y2, <- z2, e]
  rcases y3 with y3 | y3
  ·rcases z3 with z3 | z3
   ·exact same (by rw [<- y3.2, <- z3.2, e])
   ·exact absurd z3.2 (by rw [<- e, y3.2]; exact h.dis y1)
  ·rcases z3 with z3 | z3
   ·exact absurd y3.2 (by rw [e, z3.2]; exact h.dis z1)
   ·rw [<- e] at z3
    exact same (hm2.inj (h.dlt y1) (h.dlt z1) y3.1 z3.1))
 have hxm : x ∈ listOf fun x => x < n /\ m2 x = -1 := listOf_mem.2 ⟨by omega, hx, hfx⟩
 have h3 := List.length_erase_of_mem hxm
 have h4 := List.length_pos_of_mem hxm
 rw [List.length_append] at h2
 omega
theorem one_out {D A : Nat -> Prop} {cl : Nat -> Nat} {m2 : Nat -> Int} (hm : Mt n J mt) (hJi : ∀ x, ¬ J x x) (hn : n <= 40) (h : Dn n J mt D A cl) (hall : ∀ x, x < n -> mt x = -1 -> D x) (hm2 : Mt n J m2)
  (hle : (listOf fun x => x < n /\ m2 x = -1).length <= (listOf fun x => x < n /\ mt x = -1).length) {x y : Nat} (hx : D x) (hy : D y) (hc : cl x = cl y) (ex : m2 x = -1 \/ ∃ a : Nat, m2 x = (a : Int) /\ A a) (ey : m2 y = -1 \/ ∃ a : Nat, m2 y = (a : Int) /\ A a) : x = y := by
 apply byContradiction
 intro hne
 have h1 := bases_le hm hn h hall
 let v : Nat -> Nat := fun u => if m2 u = -1 then u else (m2 u).toNat
 have v1 : ∀ u, m2 u = -1 -> v u = u := fun u e => if_pos e
 have v2 : ∀ u a : Nat, m2 u = (a : Int) -> v u = a := fun u a e => by
  show (if m2 u = -1 then u else (m2 u).toNat) = a
  rw [if_neg (by omega), e, Int.toNat_natCast]
 have vin : ∀ u, D u -> (m2 u = -1 \/ ∃ a : Nat, m2 u = (a : Int) /\ A a) -> v u ∈ (listOf fun x => x < n /\ m2 x = -1) ++ listOf A := fun u hu e => by
  have hun := h.dlt hu
  rcases e with e | ⟨a, e, ha⟩
  ·rw [v1 u e]; exact List.mem_append.2 (.inl (listOf_mem.2 ⟨by omega, hun, e⟩))
  ·have := h.alt ha
   rw [v2 u a e]; exact List.mem_append.2 (.inr (listOf_mem.2 ⟨by omega, ha⟩))
 have vinj : ∀ u w, D u -> D w -> (m2 u = -1 \/ ∃ a : Nat, m2 u = (a : Int) /\ A a) -> (m2 w = -1 \/ ∃ a : Nat, m2 w = (a : Int) /\ A a) -> v u = v w -> u = w := fun u w hu hw e1 e2 e => by
  rcases e1 with e1 | ⟨a, e1, ha⟩
  ·rw [v1 u e1] at e
   rcases e2 with e2 | ⟨a2, e2, ha2⟩
   ·rw [v1 w e2] at e; exact e
   ·rw [v2 w a2 e2] at e; subst e; exact absurd ha2 (h.dis hu)
  ·rw [v2 u a e1] at e
   rcases e2 with e2 | ⟨a2, e2, ha2⟩
   ·rw [v1 w e2] at e; subst e; exact absurd ha (h.dis hw)
   ·rw [v2 w a2 e2] at e; subst e; exact hm2.inj (h.dlt hu) (h.dlt hw) e1 e2
 have pts : ∀ b, D b /\ cl b = b -> ∃ u, D u /\ cl u = b /\ (m2 u = -1 \/ ∃ a : Nat, m2 u = (a : Int) /\ A a) /\ (b = cl x -> u = x) := fun b hb => by
  by_cases e : b = cl x
  ·exact ⟨x, hx, e.symm, ex, fun _ => rfl⟩
  ·obtain ⟨z, u, u1, u2, u3⟩ := class_out hm hJi hn h hm2 hb
   exact ⟨u, u1, u2, u3.imp (fun k => k.1) (fun k => ⟨z, k⟩), fun k => absurd k e⟩
 let pt : Nat -> Nat := fun b => if hb : D b /\ cl b = b then Classical.choose (pts b hb) else 0
 have hpt : ∀ b, D b /\ cl b = b -> D (pt b) /\ cl (pt b) = b /\ (m2 (pt b) = -1 \/ ∃ a : Nat, m2 (pt b) = (a : Int) /\ A a) /\ (b = cl x -> pt b = x) := fun b hb => by
  have := Classical.choose_spec (pts b hb)
  simp only [pt, dif_pos hb]; exact this
 have h2 := inj_le (g := fun b => v (pt b)) (l := listOf fun b => D b /\ cl b = b) (s := ((listOf fun x => x < n /\ m2 x = -1) ++ listOf A).erase (v y)) (listOf_nodup _) (fun b hb => by
  obtain ⟨_, hb⟩ := listOf_mem.1 hb
  obtain ⟨p1, p2, p3, p4⟩ := hpt b hb
  refine (List.mem_erase_of_ne fun e => ?_).2 (vin _ p1 p3)
  have e2 := vinj _ _ p1 hy p3 ey e
  have hbx : b = cl x := by rw [hc, <- e2, p2]
  exact hne ((p4 hbx).symm.trans e2)) (fun a ha b hb e => by
  obtain ⟨_, ha⟩ := listOf_mem.1 ha
  obtain ⟨_, hb⟩ := listOf_mem.1 hb
  obtain ⟨p1, p2, p3, _⟩ := hpt a ha
  obtain ⟨q1, q2, q3, _⟩ := hpt b hb
  rw [<- p2, <- q2, vinj _ _ p1 q1 p3 q3 e])
 have hym := vin y hy ey
 have h3 := List.length_erase_of_mem hym
 have h4 := List.length_pos_of_mem hym
 rw [List.length_append] at h3 h4
 omega
theorem class_whole {D A : Nat -> Prop} {cl : Nat -> Nat} (hm : Mt n J mt) (hJi : ∀ x, ¬ J x x) (hn : n <= 40) (h : Dn n J mt D A cl) (hl : Lone n J mt D A) (hall : ∀ x, x < n -> mt x = -1 -> D x) {x : Nat} (hx : D x) :
  ∃ m2, Mt n J m2 /\ m2 x = -1 /\ (listOf fun x => x < n /\ m2 x = -1).length <= (listOf fun x => x < n /\ mt x = -1).length /\ ∀ y, D y -> cl y = cl x -> y ≠ x -> ∃ z : Nat, m2 y = (z : Int) /\ D z /\ cl z = cl x /\ z ≠ x := by
 obtain ⟨m2, r, h1, h2, h3, h4, h5⟩ := hl x hx
 have hxn := h.dlt hx
 have hfx : m2 x = -1 := (h4 x hxn).2 (.inr rfl)
 have hle : (listOf fun x => x < n /\ m2 x = -1).length <= (listOf fun x => x < n /\ mt x = -1).length := by
  refine inj_le (g := fun y => if y = x then r else y) (listOf_nodup _) (fun y hy => ?_) (fun y hy z hz e => ?_)
  ·obtain ⟨y0, y1, y2⟩ := listOf_mem.1 hy
   have hr := h.dlt h2
   show (if y = x then r else y) ∈ _
   split
   ·exact listOf_mem.2 ⟨by omega, hr, h3⟩
   ·rename_i hne
    exact listOf_mem.2 ⟨y0, y1, (((h4 y y1).1 y2).resolve_right hne).1⟩
  ·obtain ⟨_, y1, y2⟩ := listOf_mem.1 hy
   obtain ⟨_, z1, z2⟩ := listOf_mem.1 hz
   have cy := (h4 y y1).1 y2
   have cz := (h4 z z1).1 z2
   have e : (if y = x then r else y) = (if z = x then r else z) := e
   by_cases ey : y = x
   ·rw [if_pos ey] at e
    by_cases ez : z = x
    ·rw [ey, ez]
    ·rw [if_neg ez] at e; exact absurd e.symm (cz.resolve_right ez).2
   ·rw [if_neg ey] at e
    by_cases ez : z = x
    ·rw [if_pos ez] at e; exact absurd e (cy.resolve_right ey).2
    ·rw [if_neg ez] at e; exact e
 refine ⟨m2, h1, hfx, hle, fun y hy hc hne => ?_⟩
 have hyn := h.dlt hy
 rcases h1.rng hyn with e | ⟨z, hz, e⟩
 ·exact absurd (one_out hm hJi hn h hall h1 hle hy hx hc (.inl e) (.inl hfx)) hne
 ·rcases h.clo hy (h1.adj hyn e) hz with g | g
  ·refine ⟨z, e, g.1, by rw [g.2, hc], fun k => ?_⟩
   subst k
   have := h1.sym hyn e
   omega
  ·exact absurd (one_out hm hJi hn h hall h1 hle hy hx hc (.inr ⟨z, e, g⟩) (.inl hfx)) hne
end
section
open Classical
variable {n : Nat} {J : Nat -> Nat -> Prop}
def InP (n : Nat) (th : Nat -> Bool) (mt : Nat -> Int) : Prop := ∀ x, x < n -> th x = false -> mt x = -1
def MostP (n : Nat) (J : Nat -> Nat -> Prop) (th : Nat -> Bool) (k : Nat) : Prop := (∃ mt, Mt n J mt /\ InP n th mt /\ 2 * k + freeN n mt = n) /\ ∀ mt, Mt n J mt -> InP n th mt -> n <= 2 * k + freeN n mt
theorem free_take {mt mt' : Nat -> Int} {x : Nat} (hn : n <= 40) (hx : x < n) (e : mt x = -1) (e' : mt' x ≠ -1) (h : ∀ y, y < n -> y ≠ x -> (mt' y = -1 ↔ mt y = -1)) : freeN n mt' + 1 = freeN n mt := by
 have h1 : (x :: listOf fun y => y < n /\ mt' y = -1).length <= (listOf fun y => y < n /\ mt y = -1).length := nodup_le (List.nodup_cons.2 ⟨fun g => e' (listOf_mem.1 g).2.2, listOf_nodup _⟩) fun y hy => by
  rcases List.mem_cons.1 hy with g | g
  ·rw [g]; exact listOf_mem.2 ⟨by omega, hx, e⟩
  ·obtain ⟨g1, g2, g3⟩ := listOf_mem.1 g
   exact listOf_mem.2 ⟨g1, g2, (h y g2 (fun k => e' (k ▸ g3))).1 g3⟩
 have h2 : (listOf fun y => y < n /\ mt y = -1).length <= (x :: listOf fun y => y < n /\ mt' y = -1).length := nodup_le (listOf_nodup _) fun y hy => by
  obtain ⟨g1, g2, g3⟩ := listOf_mem.1 hy
  by_cases k : y = x
  ·rw [k]; exact List.mem_cons_self
  ·exact List.mem_cons_of_mem _ (listOf_mem.2 ⟨g1, g2, (h y g2 k).2 g3⟩)
 simp only [List.length_cons] at h1 h2
 unfold freeN
 omega
theorem free_two {mt mt' : Nat -> Int} {f c : Nat} (hn : n <= 40) (hf : f < n) (hc : c < n) (hne : f ≠ c) (e1 : mt f = -1) (e2 : mt c = -1) (e1' : mt' f ≠ -1) (e2' : mt' c ≠ -1) (h : ∀ y, y ≠ f -> y ≠ c -> mt' y = mt y) : freeN n mt' + 2 = freeN n mt := by
 have s1 := free_take (mt := mt) (mt' := updI mt f 0) hn hf e1 (by rw [updI_eq]; omega) (fun y _ hy => by rw [updI_ne _ _ hy])
 have s2 := free_take (mt := updI mt f 0) (mt' := mt') hn hc (by rw [updI_ne _ _ (Ne.symm hne)]; exact e2) e2' (fun y _ hy => by
  by_cases k : y = f
  ·rw [k, updI_eq]; exact ⟨fun g => absurd g e1', fun g => by omega⟩
  ·rw [updI_ne _ _ k, h y k hy])
 omega
theorem free_none (hn : n <= 40) : freeN n (fun _ => -1) = n := by
 have h1 : (listOf fun y => y < n /\ ((-1 : Int) = -1)).length <= (List.range n).length := nodup_le (listOf_nodup _) fun y hy => List.mem_range.2 (listOf_mem.1 hy).2.1
 have h2 : (List.range n).length <= (listOf fun y => y < n /\ ((-1 : Int) = -1)).length := nodup_le List.nodup_range fun y hy => by
  have := List.mem_range.1 hy
  exact listOf_mem.2 ⟨by omega, this, rfl⟩
 rw [List.length_range] at h1 h2
 exact Nat.le_antisymm h1 h2
theorem Mt.cut {mt : Nat -> Int} (h : Mt n J mt) {f c : Nat} (hf : f < n) (e : mt f = (c : Int)) : Mt n J (updI (updI mt f (-1)) c (-1)) := by
 have sub : ∀ {y : Nat}, updI (updI mt f (-1)) c (-1) y = -1 \/ (y ≠ c /\ y ≠ f /\ updI (updI mt f (-1)) c (-1) y = mt y) := fun {y} => by
  by_cases g : y = c
  ·rw [g, updI_eq]; exact .inl rfl
  rw [updI_ne _ _ g]
  by_cases g2 : y = f
  ·rw [g2, updI_eq]; exact .inl rfl
  ·rw [updI_ne _ _ g2]; exact .inr ⟨g, g2, rfl⟩
 have hcf := h.sym hf e
 have hcn := h.lt hf e
 refine ⟨fun {y} hy => ?_, fun {y q} hy g => ?_, fun {y q} hy g => ?_⟩
 ·rcases @sub y with g | ⟨_, _, g⟩
  ·exact .inl g
  ·rw [g]; exact h.rng hy
 ·rcases @sub y with g' | ⟨g1, g2, g'⟩
  ·omega
  ·rw [g'] at g
   have g3 := h.sym hy g
   have q1 : q ≠ c := fun k => by subst k; rw [hcf] at g3; exact g2 (by omega)
   have q2 : q ≠ f := fun k => by subst k; rw [e] at g3; exact g1 (by omega)
   rw [updI_ne _ _ q1, updI_ne _ _ q2]; exact g3
 ·rcases @sub y with g' | ⟨g1, g2, g'⟩
  ·omega
  ·rw [g'] at g; exact h.adj hy g
theorem Mt.add {mt : Nat -> Int} (h : Mt n J mt) {f c : Nat} (hf : f < n) (hc : c < n) (hne : f ≠ c) (ef : mt f = -1) (ec : mt c = -1) (h1 : J f c) (h2 : J c f) : Mt n J (updI (updI mt f (c : Int)) c (f : Int)) := by
 have vc : updI (updI mt f (c : Int)) c (f : Int) c = (f : Int) := updI_eq _ _ _
 have vf : updI (updI mt f (c : Int)) c (f : Int) f = (c : Int) := by rw [updI_ne _ _ hne, updI_eq]
 have vo : ∀ y, y ≠ f -> y ≠ c -> updI (updI mt f (c : Int)) c (f : Int) y = mt y := fun y g1 g2 => by rw [updI_ne _ _ g2, updI_ne _ _ g1]
 refine ⟨fun {y} hy => ?_, fun {y q} hy g => ?_, fun {y q} hy g => ?_⟩
 ·by_cases k1 : y = f
  ·rw [k1, vf]; exact .inr ⟨c, hc, rfl⟩
  by_cases k2 : y = c
  ·rw [k2, vc]; exact .inr ⟨f, hf, rfl⟩
  rw [vo y k1 k2]; exact h.rng hy
 ·by_cases k1 : y = f
  ·rw [k1, vf] at g
   have : q = c := by omega
   rw [this, vc, k1]
  by_cases k2 : y = c
  ·rw [k2, vc] at g
   have : q = f := by omega
   rw [this, vf, k2]
  rw [vo y k1 k2] at g
  have g3 := h.sym hy g
  rw [vo q (fun k => by subst k; omega) (fun k => by subst k; omega)]; exact g3
 ·by_cases k1 : y = f
  ·rw [k1, vf] at g
   have : q = c := by omega
   rw [this, k1]; exact h1
  by_cases k2 : y = c
  ·rw [k2, vc] at g
   have : q = f := by omega
   rw [this, k2]; exact h2
  rw [vo y k1 k2] at g
  exact h.adj hy g
theorem MostP.one {th : Nat -> Bool} {k k' : Nat} (h : MostP n J th k) (h' : MostP n J th k') : k = k' := by
 obtain ⟨⟨m1, a1, a2, a3⟩, b⟩ := h
 obtain ⟨⟨m2, c1, c2, c3⟩, d⟩ := h'
 have := b m2 c1 c2
 have := d m1 a1 a2
 omega
theorem MostP.le {th : Nat -> Bool} {k : Nat} (h : MostP n J th k) : 2 * k <= n := by
 obtain ⟨⟨m1, a1, a2, a3⟩, b⟩ := h
 omega
theorem MostP.none {th : Nat -> Bool} (hn : n <= 40) (h : ∀ x, x < n -> th x = false) : MostP n J th 0 := by
 refine ⟨⟨fun _ => -1, ⟨fun {a} _ => .inl rfl, fun {a b} _ e => by omega, fun {a b} _ e => by omega⟩, fun _ _ _ => rfl, by rw [free_none hn]; omega⟩, fun mt _ h2 => ?_⟩
 have h3 : (List.range n).length <= (listOf fun y => y < n /\ mt y = -1).length := nodup_le List.nodup_range fun y hy => by
  have := List.mem_range.1 hy
  exact listOf_mem.2 ⟨by omega, this, h2 y this (h y this)⟩
 rw [List.length_range] at h3
 unfold freeN
 omega
def MostTo (n : Nat) (J : Nat -> Nat -> Prop) (th : Nat -> Bool) (f b k : Nat) : Prop :=
 (∃ mt, Mt n J mt /\ InP n th mt /\ 2 * k + freeN n mt = n) /\ ∀ mt, Mt n J mt -> InP n th mt -> (mt f = -1 \/ ∃ c : Nat, c < b /\ mt f = (c : Int)) -> n <= 2 * k + freeN n mt
theorem MostTo.le {th : Nat -> Bool} {f b k : Nat} (h : MostTo n J th f b k) : 2 * k <= n := by
 obtain ⟨⟨m1, a1, a2, a3⟩, b⟩ := h
 omega
theorem MostTo.start {th : Nat -> Bool} {f k : Nat} (hJi : ∀ x, ¬ J x x) (hf : f < n) (hlow : ∀ x, x < f -> th x = false) (h : MostP n J (updB th f false) k) : MostTo n J th f (f + 1) k := by
 obtain ⟨⟨m, a1, a2, a3⟩, hb⟩ := h
 refine ⟨⟨m, a1, fun x hx g => a2 x hx ?_, a3⟩, fun mt h1 h2 h3 => hb mt h1 fun x hx g => ?_⟩
 ·show (if x = f then false else th x) = false
  rw [g]; simp
 ·have g : (if x = f then false else th x) = false := g
  by_cases e : x = f
  ·subst e
   rcases h3 with h3 | ⟨c, hc, h3⟩
   ·exact h3
   ·exfalso
    have hJ := h1.adj hf h3
    by_cases e : c = x
    ·subst e; exact hJi _ hJ
    ·have h4 := h1.sym hf h3
     have h5 := h2 c (by omega) (hlow c (by omega))
     omega
  ·rw [if_neg e] at g; exact h2 x hx g
theorem MostTo.skip {th : Nat -> Bool} {f b k : Nat} (hf : f < n) (h : MostTo n J th f b k) (hno : ¬ (th b = true /\ J f b)) : MostTo n J th f (b + 1) k := by
 refine ⟨h.1, fun mt h1 h2 h3 => h.2 mt h1 h2 ?_⟩
 rcases h3 with h3 | ⟨c, hc, h3⟩
 ·exact .inl h3
 ·by_cases e : c = b
  ·subst e
   exfalso
   refine hno ⟨?_, h1.adj hf h3⟩
   cases hb : th c with
   | true => rfl
   | false =>
    have h4 := h1.sym hf h3
    have h5 := h2 c (h1.lt hf h3) hb
    omega
  ·exact .inr ⟨c, by omega, h3⟩
theorem MostTo.next {th : Nat -> Bool} {f b k k2 : Nat} (hn : n <= 40) (hf : f < n) (hb : b < n) (hne : f ≠ b) (htf : th f = true) (htb : th b = true) (h1 : J f b) (h2 : J b f) (h : MostTo n J th f b k) (h' : MostP n J (updB (updB th f false) b false) k2) : MostTo n J th f (b + 1) (max k (1 + k2)) := by
 obtain ⟨⟨m, a1, a2, a3⟩, hb2⟩ := h
 obtain ⟨⟨m2, c1, c2, c3⟩, hd⟩ := h'
 have off : ∀ x, updB (updB th f false) b false x = false ↔ x = b \/ x = f \/ th x = false := fun x => by
  show (if x = b then false else if x = f then false else th x) = false ↔ _
  by_cases e : x = b
  ·simp [e]
  ·by_cases e2 : x = f
   ·simp [e2]
   ·simp [e, e2]
 have ef : m2 f = -1 := c2 f hf ((off f).2 (.inr (.inl rfl)))
 have eb : m2 b = -1 := c2 b hb ((off b).2 (.inl rfl))
 have add := c1.add hf hb hne ef eb h1 h2
 have fr := free_two (mt := m2) (mt' := updI (updI m2 f (b : Int)) b (f : Int)) hn hf hb hne ef eb (by rw [updI_ne _ _ hne, updI_eq]; omega) (by rw [updI_eq]; omega) (fun y g1 g2 => by rw [updI_ne _ _ g2, updI_ne _ _ g1])
 refine ⟨?_, fun mt q1 q2 q3 => ?_⟩
 ·by_cases hk : 1 + k2 <= k
  ·exact ⟨m, a1, a2, by omega⟩
  ·refine ⟨_, add, fun x hx g => ?_, by omega⟩
   have x1 : x ≠ f := fun e => by rw [e, htf] at g; cases g
   have x2 : x ≠ b := fun e => by rw [e, htb] at g; cases g
   rw [updI_ne _ _ x2, updI_ne _ _ x1]
   exact c2 x hx ((off x).2 (.inr (.inr g)))
 ·rcases q3 with q3 | ⟨c, hc, q3⟩
  ·have := hb2 mt q1 q2 (.inl q3); omega
  ·by_cases e : c = b
   ·subst e
    have q4 := q1.sym hf q3
    have fr2 := free_two (mt := updI (updI mt f (-1)) c (-1)) (mt' := mt) hn hf hb hne (by rw [updI_ne _ _ hne, updI_eq]) (by rw [updI_eq]) (by omega) (by omega) (fun y g1 g2 => by rw [updI_ne _ _ g2, updI_ne _ _ g1])
    have := hd _ (q1.cut hf q3) (fun x hx g => by
     rcases (off x).1 g with g | g | g
     ·rw [g, updI_eq]
     ·rw [g, updI_ne _ _ hne, updI_eq]
     ·by_cases e1 : x = c
      ·rw [e1, updI_eq]
      by_cases e2 : x = f
      ·rw [e2, updI_ne _ _ hne, updI_eq]
      rw [updI_ne _ _ e1, updI_ne _ _ e2]
      exact q2 x hx g)
    omega
   ·have := hb2 mt q1 q2 (.inr ⟨c, by omega, q3⟩); omega
theorem MostTo.done {th : Nat -> Bool} {f b k : Nat} (hf : f < n) (hb : n <= b) (h : MostTo n J th f b k) : MostP n J th k :=
 ⟨h.1, fun mt h1 h2 => h.2 mt h1 h2 ((h1.rng hf).imp id fun ⟨c, hc, e⟩ => ⟨c, by omega, e⟩)⟩
end
structure GoodC (n : Nat) (R : Nat -> Nat -> Bool) (cs : List (List Nat)) : Prop where
 ne : ∀ c ∈ cs, 0 < c.length
 nodup : cs.flatten.Nodup
 lt : ∀ x ∈ cs.flatten, x < n
 adj : ∀ c ∈ cs, ∀ k, k + 1 < c.length -> R (c.getD k 0) (c.getD (k + 1) 0) = true
 len : cs.flatten.length = n
structure CH (n : Nat) (nx pr : Nat -> Int) (cs : List (List Nat)) : Prop where
 heads : cs.map (fun c => c.getD 0 0) = headS n pr
 ne : ∀ c ∈ cs, 0 < c.length
 lt : ∀ c ∈ cs, ∀ k, k < c.length -> c.getD k 0 < n
 adj : ∀ c ∈ cs, ∀ k, k + 1 < c.length -> nx (c.getD k 0) = ((c.getD (k + 1) 0 : Nat) : Int)
 last : ∀ c ∈ cs, nx (c.getD (c.length - 1) 0) = -1
def ChsAt (W : AW) (v : Value) (cs : List (List Nat)) (K B : Nat -> Prop) : Prop := ∃ us : List Value, us.length = cs.length /\ GrowsN W v us.length us 31 1 K /\ ∀ (i : Nat) u c, us[i]? = some u -> cs[i]? = some c -> GrowsN W u c.length (natsV c) 3 1 B
structure Half (n : Nat) (nx : Nat -> Int) (a : Nat) (c : List Nat) (b : Int) : Prop where
 hd : c.length = 0 -> b = (a : Int)
 hd1 : 0 < c.length -> c.getD 0 0 = a
 lt : ∀ k, k < c.length -> c.getD k 0 < n
 adj : ∀ k, k + 1 < c.length -> nx (c.getD k 0) = ((c.getD (k + 1) 0 : Nat) : Int)
 nxt : 0 < c.length -> nx (c.getD (c.length - 1) 0) = b
structure CHto (n : Nat) (nx pr : Nat -> Int) (a : Nat) (cs : List (List Nat)) : Prop where
 heads : cs.map (fun c => c.getD 0 0) = (List.range a).filter fun x => decide (pr x = -1)
 ne : ∀ c ∈ cs, 0 < c.length
 lt : ∀ c ∈ cs, ∀ k, k < c.length -> c.getD k 0 < n
 adj : ∀ c ∈ cs, ∀ k, k + 1 < c.length -> nx (c.getD k 0) = ((c.getD (k + 1) 0 : Nat) : Int)
 last : ∀ c ∈ cs, nx (c.getD (c.length - 1) 0) = -1
def preC (cs : List (List Nat)) (i k : Nat) : List Nat := (cs.take i).flatten ++ (cs.getD i []).take k
theorem brow_put {W : AW} {b n : Nat} {s : Nat -> Bool} (h : Var W b 4 (boolsL n s)) {j : Nat} (hj : j < n) (x : Bool) :
  ∃ W', aStoreVar T0 W 4 b j (.bool x) = some W' /\ W'.next = W.next /\ Only (fun c => c = b) W W' /\ Var W' b 4 (boolsL n (updB s j x)) := by
 obtain ⟨W', g1, g2, g3, g4⟩ := var_store1 (t := 4) (v := .bool x) (o := j) h inf4 is4 rfl rfl (by rw [boolsL_len]; exact hj)
 rw [boolsL_set] at g4
 exact ⟨W', g1, g2, g3, g4⟩
theorem sl46_ix {b n c j : Nat} (hj : j < n) : aIndexAddr T0 46 (.slice (some ⟨b, 0, none⟩) n c) (.int .i64 (j : Int)) = some (.pointer (some ⟨b, j, none⟩)) := by
 have := indexAddr_slice (T := T0) (t := 46) (e := 4) (sz := 1) und46 sz4 (b := b) (o := 0) (len := n) (c := c) (i := j) (k := .i64) hj
 rw [Nat.zero_add, Nat.mul_one] at this; exact this
theorem bools_one (n : Nat) (g : Nat -> Bool) : oneCells (boolsL n g) = true := by
 unfold oneCells boolsL
 generalize List.range n = l
 induction l with
 | nil => rfl
 | cons x l ih =>
  simp only [List.map_cons, allB]
  rw [ih]; rfl
theorem app46 {W : AW} {b n c : Nat} {th : Nat -> Bool} (h : Var W b 4 (boolsL n th)) (h0 : 0 < n) (hn : n <= 40) :
  aAppend T0 W [46, 46] [.slice none 0 0, .slice (some ⟨b, 0, none⟩) n c] = some (.slice (some ⟨W.next, 0, none⟩) n 3, W.newCells 4 (boolsL n th)) := by
 have hc := h.cellsAt 0 n (by rw [boolsL_len]; omega)
 rw [List.drop_zero, List.take_of_length_le (by rw [boolsL_len]; omega)] at hc
 have hsrc : aSrc W 1 (.slice (some ⟨b, 0, none⟩) n c) = some (n, boolsL n th) := by
  simp only [aSrc, Nat.mul_one, hc]
 have hne : ¬ n = 0 := by omega
 have hby : 2 * n * Tryd.t4.bytes <= 281474976710656 := by rw [by4]; omega
 have hsm : n <= 4611686018427387904 := by omega
 have hone := bools_one n th
 simp only [aAppend, und46, inf4, is4, z4, notInt, hsrc, acells, List.length_cons, List.length_nil, beq_dec, boolsL_len, hone, Nat.mul_one, decide_true, hne, decide_false, aApp1, ble_dec, hby, hsm, Nat.zero_add, List.nil_append]
open Classical in
theorem refPairs_body {n : Nat} {es : List Edge} {v : Value} (hg : GraphOk (n : Int) es) (hl : es.length < 4611686018427387904) (m : Nat)
  (ih : 0 < m -> ∀ (W : AW) (th : Nat -> Bool) (b c : Nat), PairR W v es -> Var W b 4 (boolsL n th) -> (∀ x, x + (m - 1) < n -> th x = false) ->
   WpF T0 24 [.agg ⟨[.int .i64 (n : Int), v]⟩, .slice (some ⟨b, 0, none⟩) n c] W (fun u W' => Ext W W' /\ ∃ k : Nat, u = .int .i64 (k : Int) /\ MostP n (AjE es) th k))
  {W : AW} {th : Nat -> Bool} {b c : Nat} (hP : PairR W v es) (hV : Var W b 4 (boolsL n th)) (hlow : ∀ x, x + m < n -> th x = false) :
  WpF T0 24 [.agg ⟨[.int .i64 (n : Int), v]⟩, .slice (some ⟨b, 0, none⟩) n c] W (fun u W' => Ext W W' /\ ∃ k : Nat, u = .int .i64 (k : Int) /\ MostP n (AjE es) th k) := by
 have hn : n <= 40 := by have := hg.2.1; omega
 have hJi := aj_irr hg
 refine wpF fun24 rfl ?_
 obtain ⟨W1, hW1, hE1, hn1, hV1⟩ : ∃ W1, W1 = W.newCells 24 [.int .i64 (n : Int), v] /\ Ext W W1 /\ W1.next = W.next + 1 /\ Var W1 W.next 24 [.int .i64 (n : Int), v] := ⟨_, rfl, .newCells _ _ _, rfl, Var.new _ _ _⟩
 have lt : ∀ W', aLen T0 W' 46 (.slice (some ⟨b, 0, none⟩) n c) = some (.int .i64 n) := fun W' => len_slice und46 _ _ _
 have ixt : ∀ j, j < n -> aIndexAddr T0 46 (.slice (some ⟨b, 0, none⟩) n c) (.int .i64 (j : Int)) = some (.pointer (some ⟨b, j, none⟩)) := fun j hj => sl46_ix hj
 have hbW : b < W.next := hV.1
 obtain ⟨tv, htv⟩ : ∃ tv, tv = Value.slice (some ⟨b, 0, none⟩) n c := ⟨_, rfl⟩
 have happ := fun (W' : AW) (h : Var W' b 4 (boolsL n th)) (h0 : 0 < n) => app46 (c := c) h h0 hn
 rw [<- htv] at lt ixt happ ⊢
 obtain ⟨g, hg0⟩ : ∃ g, g = W.next := ⟨_, rfl⟩
 rw [<- hg0] at hV1
 try simp only [wA]
 refine wpK_reg (fun R hR => by simp [<- hW1, <- hg0]; exact hR) ?_
 try simp only [wA]
 refine wpK_reg (fun R hR => by simp []; exact hR) ?_
 refine wpK_keep (fun tm' => tm'.get 1 = some (tv) /\ tm'.get 2 = some (.pointer (some ⟨g, 0, none⟩)) /\ tm'.get 5 = some (.int .i64 0)) (by simp [hg0]) ?_
 rintro tm ⟨h1, h2, h5⟩
 try simp only [wA]
 refine wpK_while (I := fun q A' W' => A'.n = 66 /\ A'.defers = [] /\ A'.tmps.get 1 = some (tv) /\ A'.tmps.get 2 = some (.pointer (some ⟨g, 0, none⟩)) /\ W' = W1 /\ ∃ i : Nat, A'.tmps.get 5 = some (.int .i64 (i : Int)) /\ q = n - i /\ i <= n /\ ∀ x, x < i -> th x = false)
  (J := fun A' W' => A'.n = 66 /\ A'.defers = [] /\ A'.tmps.get 1 = some (tv) /\ A'.tmps.get 2 = some (.pointer (some ⟨g, 0, none⟩)) /\ W' = W1 /\ ∃ f : Nat, A'.tmps.get 5 = some (.int .i64 (f : Int)) /\ f <= n /\ (∀ x, x < f -> th x = false) /\ (f < n -> th f = true)) (Rt := fun _ _ => False) (k := n) ?_ ?_ ?_ ?_
 ·exact ⟨rfl, rfl, by simp [h1, h2], by simp [h1, h2], rfl, 0, by simp [h5], rfl, by omega, fun x hx => by omega⟩
 ·rintro q ⟨tm, n, ds⟩ Wa ⟨hn, hd, h1, h2, eW, i, h5, hq, hil, hx1⟩ Q' hJ hRt hI
  simp only at hn hd h1 h2
  subst hn; subst hd
  subst Wa
  simp only at h5
  by_cases hlt : i < n
  case neg =>
   have hlt' : ¬ (i : Int) < n := by omega
   try simp only [wA]
   refine wpK_reg (fun R hR => by simp [h1, h5, lt, hlt', undef]; exact hR) ?_
   try simp only [wA]
   first | refine wpK_onF (by simp [hlt]) ?_ | refine wpK_out (by simp [hlt]) ?_ | refine wCF (by simp [hlt]) ?_ | refine wEF (by simp [hlt]) (wpK_skip ?_) | refine wEF (by simp [hlt]) ?_
   exact hJ _ _ ⟨rfl, rfl, by simp [h1, h2], by simp [h1, h2], rfl, i, by simp [h5], hil, hx1, fun h => by omega⟩
  have hlt' : (i : Int) < n := by omega
  have ix := ixt i hlt
  have ld := (hV.ext hE1).load1 (T := T0) und4 rfl (boolsL_at th hlt)
  cases hb : th i with
  | true =>
   rw [hb] at ld
   try simp only [wA]
   refine wpK_reg (fun R hR => by simp [h1, h5, lt, hlt', ix, ld]; exact hR) ?_
   try simp only [wA]
   first | refine wpK_onF (by simp []) ?_ | refine wpK_out (by simp []) ?_ | refine wCF (by simp []) ?_ | refine wEF (by simp []) (wpK_skip ?_) | refine wEF (by simp []) ?_
   exact hJ _ _ ⟨rfl, rfl, by simp [h1, h2], by simp [h1, h2], rfl, i, by simp [h5], hil, hx1, fun _ => hb⟩
  | false =>
   rw [hb] at ld
   try simp only [wA]
   refine wpK_reg (fun R hR => by simp [h1, h5, lt, hlt', ix, ld]; exact hR) ?_
   try simp only [wA]
   first | refine wpK_onT (by simp []) ?_ | refine wpK_outT (by simp []) ?_ | refine wCT (by simp []) ?_ | refine wpK_endT (by simp []) ?_
   refine wpK_block1 ?_
   try simp only [wA]
   refine wpK_reg1 (fun R hR => by simp [h5]; exact hR) ?_
   simp only [lN, bN]
   refine hI (n - (i + 1)) _ _ (by omega) ⟨rfl, rfl, by simp [h1, h2], by simp [h1, h2], rfl, i + 1, by simp [i64_succ i (by omega)], rfl, by omega, fun x hx => ?_⟩
   by_cases e : x = i
   ·subst e; exact hb
   ·exact hx1 x (by omega)
 ·rintro A' W' hf; exact hf.elim
 rintro ⟨tm, n, ds⟩ Wz ⟨hn, hd, h1, h2, eW, f, h5, hfn, hf1, hf2⟩
 simp only at hn hd h1 h2
 subst hn; subst hd
 subst Wz
 simp only at h5
 by_cases hfe : f = n
 ·subst f
  try simp only [wA]
  refine wpK_reg (fun R hR => by simp [h1, h5, lt]; exact hR) ?_
  try simp only [wA]
  first | refine wpK_onT (by simp []) ?_ | refine wpK_outT (by simp []) ?_ | refine wCT (by simp []) ?_ | refine wpK_endT (by simp []) ?_
  try simp only [wA]
  refine wpK_reg (fun R hR => by simp []; exact hR) ?_
  exact wpK_ret ⟨.inr rfl, rfl, [.int .i64 0], by simp, hE1, 0, rfl, .none hn hf1⟩
 have hlt : f < n := by omega
 have hfe' : ¬ (f : Int) = n := by omega
 have htf := hf2 hlt
 have hm0 : 0 < m := by
  apply Classical.byContradiction
  intro h
  have := hlow f (by omega)
  rw [htf] at this; cases this
 try simp only [wA]
 refine wpK_reg (fun R hR => by simp [h1, h5, lt, hfe']; exact hR) ?_
 try simp only [wA]
 first | refine wpK_onF (by simp [hfe']) ?_ | refine wpK_out (by simp [hfe']) ?_ | refine wCF (by simp [hfe']) ?_ | refine wEF (by simp [hfe']) (wpK_skip ?_) | refine wEF (by simp [hfe']) ?_
 try simp only [wA]
 refine wpK_reg (fun R hR => by simp []; exact hR) ?_
 have hap := happ W1 (hV.ext hE1) (by omega)
 obtain ⟨lb, hlb⟩ : ∃ lb, lb = W1.next := ⟨_, rfl⟩
 obtain ⟨W2, hW2, hE2, hn2, hV2⟩ : ∃ W2, W2 = W1.newCells 4 (boolsL n th) /\ Ext W1 W2 /\ W2.next = W1.next + 1 /\ Var W2 lb 4 (boolsL n th) := ⟨_, rfl, .newCells _ _ _, rfl, by rw [hlb]; exact Var.new _ _ _⟩
 rw [<- hW2, <- hlb] at hap
 have ixl : ∀ j, j < n -> aIndexAddr T0 46 (.slice (some ⟨lb, 0, none⟩) n 3) (.int .i64 (j : Int)) = some (.pointer (some ⟨lb, j, none⟩)) := fun j hj => sl46_ix hj
 have ihl := fun (W : AW) (th : Nat -> Bool) => ih hm0 W th lb 3
 obtain ⟨lv, hlv⟩ : ∃ lv, lv = Value.slice (some ⟨lb, 0, none⟩) n 3 := ⟨_, rfl⟩
 rw [<- hlv] at hap ixl ihl
 try simp only [wA]
 refine wpK_reg (fun R hR => by simp [h1, hap]; exact hR) ?_
 obtain ⟨W3, w1, w2, w3, w4⟩ := brow_put hV2 hlt false
 have ixf := ixl f hlt
 try simp only [wA]
 refine wpK_reg (fun R hR => by simp [h5, ixf, w1]; exact hR) ?_
 have hE02 := hE1.trans hE2
 have k0 : ∀ {W'}, Only (fun x => x = lb) W2 W' -> Ext W W' /\ PairR W' v es /\ Var W' b 4 (boolsL n th) /\ aLoadVar T0 W' 24 g 0 = some (.agg ⟨[.int .i64 (n : Int), v]⟩) := fun {W'} ho => by
  have he : Ext W W' := ⟨by have := ho.1; have := hE02.1; omega, fun x hx _ => by rw [ho.2 x (by omega) (by omega), hE02.2 x hx (fun x => x)]⟩
  exact ⟨he, hP.ext he, hV.ext he, load24 ((hV1.ext hE2).only ho (by omega))⟩
 obtain ⟨e3, p3, v3, l3⟩ := k0 w3
 have hlow' : ∀ x, x + (m - 1) < n -> updB th f false x = false := fun x hx => by
  show (if x = f then false else th x) = false
  by_cases e : x = f
  ·rw [if_pos e]
  ·rw [if_neg e]
   by_cases e2 : x < f
   ·exact hf1 x e2
   ·have : f + m < n := by omega
    have := hlow f this
    rw [htf] at this; cases this
 try simp only [wA]
 refine wpK_x1 (fun R hR => by
   simp [h2, l3, aEnter, fun24, sO, aCallV]; rw [cN]
   refine (ihl W3 (updB th f false) p3 w4 hlow').mono ?_
   rintro _ W4 ⟨hE4, k, rfl, hM0⟩
   simp [h2, l3]; exact hR k W4 (And.intro hE4 hM0)) ?_
 rintro k W4 ⟨hE4, hM0⟩
 have hM := MostTo.start hJi hlt hf1 hM0
 have a1 : IntKind.i64.wrap ((f : Int) + 1) = ((f + 1 : Nat) : Int) := i64_succ f (by omega)
 try simp only [wA]
 refine wpK_reg (fun R hR => by simp [h5, a1]; exact hR) ?_
 have hO4 : Only (fun x => x = lb) W2 W4 := w3.trans ⟨hE4.1, fun x hx _ => hE4.2 x hx (fun x => x)⟩
 have hV4 := w4.ext hE4
 refine wpK_keep (fun tm' => tm'.get 1 = some (tv) /\ tm'.get 2 = some (.pointer (some ⟨g, 0, none⟩)) /\ tm'.get 5 = some (.int .i64 (f : Int)) /\ tm'.get 6 = some (lv) /\ tm'.get 7 = some (.int .i64 (k : Int)) /\ tm'.get 8 = some (.int .i64 ((f + 1 : Nat) : Int))) (by simp [h1, h2, h5]) ?_
 rintro tm ⟨h1, h2, h5, h6, h7, h8⟩
 try simp only [wA]
 refine wpK_while (I := fun q A' W' => A'.n = 66 /\ A'.defers = [] /\ A'.tmps.get 1 = some (tv) /\ A'.tmps.get 2 = some (.pointer (some ⟨g, 0, none⟩)) /\ A'.tmps.get 5 = some (.int .i64 (f : Int)) /\ A'.tmps.get 6 = some (lv) /\ Only (fun x => x = lb) W2 W' /\ ∃ (j k : Nat), A'.tmps.get 7 = some (.int .i64 (k : Int)) /\ A'.tmps.get 8 = some (.int .i64 (j : Int)) /\ q = n - j /\ f < j /\ j <= n /\ Var W' lb 4 (boolsL n (updB th f false)) /\ MostTo n (AjE es) th f j k)
  (J := fun A' W' => A'.n = 66 /\ A'.defers = [] /\ A'.tmps.get 1 = some (tv) /\ A'.tmps.get 2 = some (.pointer (some ⟨g, 0, none⟩)) /\ A'.tmps.get 5 = some (.int .i64 (f : Int)) /\ A'.tmps.get 6 = some (lv) /\ Only (fun x => x = lb) W2 W' /\ ∃ (k : Nat), A'.tmps.get 7 = some (.int .i64 (k : Int)) /\ MostP n (AjE es) th k) (Rt := fun _ _ => False) (k := n - (f + 1)) ?_ ?_ ?_ ?_
 ·exact ⟨rfl, rfl, by simp [h1, h2, h5, h6], by simp [h1, h2, h5, h6], by simp [h1, h2, h5, h6], by simp [h1, h2, h5, h6], hO4, f + 1, k, by simp [h7], by simp [h8], rfl, by omega, by omega, hV4, hM⟩
 ·clear hM hM0 hV4 hO4 hE4 h7 h8
  rintro q ⟨tm, n, ds⟩ Wa ⟨hn, hd, h1, h2, h5, h6, hOa, j, k, h7, h8, hq, hfj, hjn, hVa, hM⟩ Q' hJ hRt hI
  simp only at hn hd h1 h2 h5 h6
  subst hn; subst hd
  simp only at h7 h8
  obtain ⟨ea, pa, va, la⟩ := k0 hOa
  have lP := la
  have hlP : aLoadVar T0 Wa 3 g 0 = some (.int .i64 (n : Int)) := ((hV1.ext hE2).only hOa (by omega)).load1 (T := T0) und3 rfl (j := 0) (v := .int .i64 (n : Int)) rfl
  by_cases hlt2 : j < n
  case neg =>
   have hlt' : ¬ (j : Int) < n := by omega
   try simp only [wA]
   refine wpK_reg (fun R hR => by simp [h2, h8, hlP, hlt']; exact hR) ?_
   try simp only [wA]
   first | refine wpK_onF (by simp [hlt2]) ?_ | refine wpK_out (by simp [hlt2]) ?_ | refine wCF (by simp [hlt2]) ?_ | refine wEF (by simp [hlt2]) (wpK_skip ?_) | refine wEF (by simp [hlt2]) ?_
   exact hJ _ _ ⟨rfl, rfl, by simp [h1, h2, h5, h6], by simp [h1, h2, h5, h6], by simp [h1, h2, h5, h6], by simp [h1, h2, h5, h6], hOa, k, by simp [h7], hM.done hlt (by omega)⟩
  have hlt' : (j : Int) < n := by omega
  try simp only [wA]
  refine wpK_reg (fun R hR => by simp [h2, h8, hlP, hlt']; exact hR) ?_
  try simp only [wA]
  first | refine wpK_onT (by simp [hlt2]) ?_ | refine wpK_outT (by simp [hlt2]) ?_ | refine wCT (by simp [hlt2]) ?_ | refine wpK_endT (by simp [hlt2]) ?_
  have ixj := ixt j hlt2
  have ixj2 := ixl j hlt2
  have ldj := va.load1 (T := T0) und4 rfl (boolsL_at th hlt2)
  refine wpK_block ?_
  cases hb : th j with
  | false =>
   rw [hb] at ldj
   try simp only [wA]
   refine wpK_reg (fun R hR => by simp [h1, h8, ixj, ldj, undef]; exact hR) ?_
   try simp only [wA]
   first | refine wpK_onF (by simp []) ?_ | refine wpK_out (by simp []) ?_ | refine wCF (by simp []) ?_ | refine wEF (by simp []) (wpK_skip ?_) | refine wEF (by simp []) ?_
   simp only [lN, bN]
   try simp only [wA]
   refine wpK_reg1 (fun R hR => by simp [h8]; exact hR) ?_
   exact hI (n - (j + 1)) _ _ (by omega) ⟨rfl, rfl, by simp [h1, h2, h5, h6], by simp [h1, h2, h5, h6], by simp [h1, h2, h5, h6], by simp [h1, h2, h5, h6], hOa, j + 1, k, by simp [h7], by simp [i64_succ j (by omega)], rfl, by omega, by omega, hVa, hM.skip hlt (fun h => by rw [hb] at h; cases h.1)⟩
  | true =>
   rw [hb] at ldj
   try simp only [wA]
   refine wpK_x0 (fun R hR => by
     simp [h1, h2, h5, h8, ixj, ldj, la, undef, aEnter, fun64, sO, aCallV]; rw [cN]
     refine (refJoined_wp (n : Int) pa hl (f : Int) (j : Int)).mono ?_
     rintro _ Wb ⟨hEb, rfl⟩
     simp [undef]; exact hR Wb hEb) ?_
   rintro Wb hEb
   have hOb : Only (fun x => x = lb) W2 Wb := hOa.trans ⟨hEb.1, fun x hx _ => hEb.2 x hx (fun x => x)⟩
   have hVb := hVa.ext hEb
   by_cases hj : Jn es (f : Int) (j : Int)
   case neg =>
    try simp only [wA]
    first | refine wpK_onF (by simp [hj]) ?_ | refine wpK_out (by simp [hj]) ?_ | refine wCF (by simp [hj]) ?_ | refine wEF (by simp [hj]) (wpK_skip ?_) | refine wEF (by simp [hj]) ?_
    simp only [lN, bN]
    try simp only [wA]
    refine wpK_reg1 (fun R hR => by simp [h8]; exact hR) ?_
    exact hI (n - (j + 1)) _ _ (by omega) ⟨rfl, rfl, by simp [h1, h2, h5, h6], by simp [h1, h2, h5, h6], by simp [h1, h2, h5, h6], by simp [h1, h2, h5, h6], hOb, j + 1, k, by simp [h7], by simp [i64_succ j (by omega)], rfl, by omega, by omega, hVb, hM.skip hlt (fun h => hj h.2)⟩
   try simp only [wA]
   first | refine wpK_onT (by simp [hj]) ?_ | refine wpK_outT (by simp [hj]) ?_ | refine wCT (by simp [hj]) ?_ | refine wpK_endT (by simp [hj]) ?_
   obtain ⟨Wc, c1, c2, c3, c4⟩ := brow_put hVb hlt2 false
   have hOc := hOb.trans c3
   obtain ⟨ec, pc, vc, lc⟩ := k0 hOc
   try simp only [wA]
   refine wpK_reg (fun R hR => by simp [h6, h8, ixj2, c1]; exact hR) ?_
   have hlow2 : ∀ x, x + (m - 1) < n -> updB (updB th f false) j false x = false := fun x hx => by
    show (if x = j then false else updB th f false x) = false
    by_cases e : x = j
    ·rw [if_pos e]
    ·rw [if_neg e]; exact hlow' x hx
   try simp only [wA]
   refine wpK_x3 (P := fun (k2 r M : Nat) W' => Ext Wc W' /\ MostP n (AjE es) (updB (updB th f false) j false) k2 /\ M = max k (1 + k2)) (fun R hR => by
    simp [h2, h6, h7, lc, aEnter, fun24, sO, aCallV]; rw [cN]
    refine (ihl Wc _ pc c4 hlow2).mono ?_
    rintro _ Wd ⟨hEd, k2, rfl, hM2⟩
    have := hM2.le
    have := hM.le
    obtain ⟨r, hr⟩ : ∃ r : Nat, r = 1 + k2 := ⟨_, rfl⟩
    obtain ⟨M, hMx⟩ : ∃ M : Nat, M = max k r := ⟨_, rfl⟩
    have b1 : IntKind.i64.wrap (1 + (k2 : Int)) = (r : Int) := by rw [hr]; exact i64_in (by omega)
    have b2 : max (k : Int) (r : Int) = (M : Int) := by rw [hMx]; omega
    simp [b1, max_int, b2]
    exact hR k2 r M Wd ⟨hEd, hM2, by rw [hMx, hr]⟩) ?_
   rintro k2 r M Wd ⟨hEd, hM2, rfl⟩
   have hOd : Only (fun x => x = lb) W2 Wd := hOc.trans ⟨hEd.1, fun x hx _ => hEd.2 x hx (fun x => x)⟩
   obtain ⟨We, d1, d2, d3, d4⟩ := brow_put (c4.ext hEd) hlt2 true
   try simp only [wA]
   refine wpK_reg1 (fun R hR => by simp [h6, h8, ixj2, d1]; exact hR) ?_
   simp only [lN, bN]
   try simp only [wA]
   refine wpK_reg1 (fun R hR => by simp [h8]; exact hR) ?_
   refine hI (n - (j + 1)) _ _ (by omega) ⟨rfl, rfl, by simp [h1, h2, h5, h6], by simp [h1, h2, h5, h6], by simp [h1, h2, h5, h6], by simp [h1, h2, h5, h6], hOd.trans d3, j + 1, _, by simp, by simp [i64_succ j (by omega)], rfl, by omega, by omega, ?_, hM.next hn hlt hlt2 (by omega) htf hb hj (AjE.symm _ _ hj) hM2⟩
   rw [<- boolsL_congr (g := updB (updB (updB th f false) j false) j true)]
   ·exact d4
   ·intro x _
    show (if x = j then true else if x = j then false else updB th f false x) = updB th f false x
    by_cases e : x = j
    ·rw [if_pos e, e]
     show true = (if j = f then false else th j)
     rw [if_neg (by omega), hb]
    ·rw [if_neg e, if_neg e]
 ·rintro A' W' hf; exact hf.elim
 rintro ⟨tm, n, ds⟩ Wz ⟨hn, hd, h1, h2, h5, h6, hOz, k', h7, hMz⟩
 simp only at hn hd h1 h2 h5 h6
 subst hn; subst hd
 simp only at h7
 try simp only [wA]
 refine wpK_reg (fun R hR => by simp [h7]; exact hR) ?_
 exact wpK_ret ⟨.inr rfl, rfl, [.int .i64 (k' : Int)], by simp, (k0 hOz).1, k', rfl, hMz⟩
open Classical in
theorem refPairs_wp {n : Nat} {es : List Edge} {v : Value} (hg : GraphOk (n : Int) es) (hl : es.length < 4611686018427387904) : ∀ (m : Nat) (W : AW) (th : Nat -> Bool) (b c : Nat), PairR W v es -> Var W b 4 (boolsL n th) -> (∀ x, x + m < n -> th x = false) ->
  WpF T0 24 [.agg ⟨[.int .i64 (n : Int), v]⟩, .slice (some ⟨b, 0, none⟩) n c] W (fun u W' => Ext W W' /\ ∃ k : Nat, u = .int .i64 (k : Int) /\ MostP n (AjE es) th k) := by
 have hn : n <= 40 := by have := hg.2.1; omega
 intro m
 induction m with
 | zero =>
  intro W th b c hP hV hlow
  exact refPairs_body hg hl 0 (fun h => by omega) hP hV hlow
 | succ m ih =>
  intro W th b c hP hV hlow
  exact refPairs_body hg hl (m + 1) (fun h => ih) hP hV hlow
theorem refAll_wp {W : AW} {v : Value} {n : Nat} {es : List Edge} (h : PairR W v es) (hn : n <= 40) :
  WpF T0 25 [.agg ⟨[.int .i64 (n : Int), v]⟩] W (fun u W' => Ext W W' /\ ∃ b, u = rowV b n /\ W.next <= b /\ Var W' b 4 (boolsL n (fun _ => true))) := by
 refine wpF fun25 rfl ?_
 obtain ⟨W1, hW1, hE1, hn1, hV1⟩ : ∃ W1, W1 = W.newCells 24 [.int .i64 (n : Int), v] /\ Ext W W1 /\ W1.next = W.next + 1 /\ Var W1 W.next 24 [.int .i64 (n : Int), v] := ⟨_, rfl, .newCells _ _ _, rfl, Var.new _ _ _⟩
 have l1 := hV1.load1 (T := T0) und3 rfl (j := 0) (v := .int .i64 (n : Int)) rfl
 have mk := mk46 W1 n (by omega)
 obtain ⟨lb, hlb⟩ : ∃ lb, lb = W1.next := ⟨_, rfl⟩
 obtain ⟨W2, hW2, hE2, hn2, hV2⟩ : ∃ W2, W2 = W1.newCells 4 (boolsL n (fun _ => false)) /\ Ext W1 W2 /\ W2.next = W1.next + 1 /\ Var W2 lb 4 (boolsL n (fun _ => false)) := ⟨_, rfl, .newCells _ _ _, rfl, by rw [hlb]; exact Var.new _ _ _⟩
 rw [<- hW2, <- hlb] at mk
 have ixl : ∀ j, j < n -> aIndexAddr T0 46 (rowV lb n) (.int .i64 (j : Int)) = some (.pointer (some ⟨lb, j, none⟩)) := fun j hj => row_ix hj
 have hcl : rowV lb n = rowV lb n := rfl
 obtain ⟨lv, hlv⟩ : ∃ lv, lv = rowV lb n := ⟨_, rfl⟩
 rw [<- hlv] at mk ixl
 obtain ⟨g, hg0⟩ : ∃ g, g = W.next := ⟨_, rfl⟩
 rw [<- hg0] at hV1 l1
 try simp only [wA]
 refine wpK_reg (fun R hR => by simp [<- hW1, <- hg0]; exact hR) ?_
 try simp only [wA]
 refine wpK_reg (fun R hR => by simp [l1, opMakeSlice, mk]; exact hR) ?_
 try simp only [wA]
 refine wpK_reg (fun R hR => by simp []; exact hR) ?_
 refine wpK_keep (fun tm' => tm'.get 1 = some (.pointer (some ⟨g, 0, none⟩)) /\ tm'.get 3 = some (lv) /\ tm'.get 4 = some (.int .i64 0)) (by simp [hg0]) ?_
 rintro tm ⟨h1, h3, h4⟩
 try simp only [wA]
 refine wpK_while (I := fun q A' W' => A'.n = 18 /\ A'.defers = [] /\ A'.tmps.get 1 = some (.pointer (some ⟨g, 0, none⟩)) /\ A'.tmps.get 3 = some (lv) /\ Only (fun x => x = lb) W2 W' /\ ∃ (i : Nat), A'.tmps.get 4 = some (.int .i64 (i : Int)) /\ q = n - i /\ i <= n /\ Var W' lb 4 (boolsL n (fun x => decide (x < i))))
  (J := fun A' W' => A'.n = 18 /\ A'.defers = [] /\ A'.tmps.get 1 = some (.pointer (some ⟨g, 0, none⟩)) /\ A'.tmps.get 3 = some (lv) /\ Only (fun x => x = lb) W2 W' /\ Var W' lb 4 (boolsL n (fun _ => true))) (Rt := fun _ _ => False) (k := n) ?_ ?_ ?_ ?_
 ·refine ⟨rfl, rfl, by simp [h1, h3], by simp [h1, h3], .refl _ _, 0, by simp [h4], rfl, by omega, ?_⟩
  rw [boolsL_congr (g' := fun _ => false) (fun j _ => by simp)]; exact hV2
 ·rintro q ⟨tm, n, ds⟩ Wa ⟨hn, hd, h1, h3, hOa, i, h4, hq, hil, hVa⟩ Q' hJ hRt hI
  simp only at hn hd h1 h3
  subst hn; subst hd
  simp only at h4
  have la := ((hV1.ext hE2).only hOa (by omega)).load1 (T := T0) und3 rfl (j := 0) (v := .int .i64 (n : Int)) rfl
  by_cases hlt : i < n
  case neg =>
   have hlt' : ¬ (i : Int) < n := by omega
   try simp only [wA]
   refine wpK_reg (fun R hR => by simp [h1, h4, la, hlt']; exact hR) ?_
   try simp only [wA]
   first | refine wpK_onF (by simp [hlt]) ?_ | refine wpK_out (by simp [hlt]) ?_ | refine wCF (by simp [hlt]) ?_ | refine wEF (by simp [hlt]) (wpK_skip ?_) | refine wEF (by simp [hlt]) ?_
   refine hJ _ _ ⟨rfl, rfl, by simp [h1, h3], by simp [h1, h3], hOa, ?_⟩
   rw [boolsL_congr (g' := fun x => decide (x < i)) (fun j hj => (decide_eq_true (show j < i by omega)).symm)]; exact hVa
  have hlt' : (i : Int) < n := by omega
  try simp only [wA]
  refine wpK_reg (fun R hR => by simp [h1, h4, la, hlt']; exact hR) ?_
  try simp only [wA]
  first | refine wpK_onT (by simp [hlt]) ?_ | refine wpK_outT (by simp [hlt]) ?_ | refine wCT (by simp [hlt]) ?_ | refine wpK_endT (by simp [hlt]) ?_
  have ix := ixl i hlt
  obtain ⟨Wb, w1, w2, w3, w4⟩ := brow_put hVa hlt true
  refine wpK_block ?_
  try simp only [wA]
  refine wpK_reg1 (fun R hR => by simp [h3, h4, ix, w1]; exact hR) ?_
  simp only [lN, bN]
  try simp only [wA]
  refine wpK_reg1 (fun R hR => by simp [h4]; exact hR) ?_
  refine hI (n - (i + 1)) _ _ (by omega) ⟨rfl, rfl, by simp [h1, h3], by simp [h1, h3], hOa.trans w3, i + 1, by simp [i64_succ i (by omega)], rfl, by omega, ?_⟩
  rw [boolsL_congr (g' := updB (fun x => decide (x < i)) i true) (fun j hj => by
   show decide (j < i + 1) = if j = i then true else decide (j < i)
   by_cases e : j = i
   ·rw [if_pos e]; exact decide_eq_true (by omega)
   ·rw [if_neg e]; exact decide_eq_decide.2 (by omega))]
  exact w4
 ·rintro A' W' hf; exact hf.elim
 rintro ⟨tm, n, ds⟩ Wz ⟨hn, hd, h1, h3, hOz, hVz⟩
 simp only at hn hd h1 h3
 subst hn; subst hd
 try simp only [wA]
 refine wpK_reg (fun R hR => by simp [h3]; exact hR) ?_
 exact wpK_ret ⟨.inr rfl, rfl, [lv], by simp, ⟨by have := hOz.1; omega, fun x hx _ => by rw [hOz.2 x (by omega) (by omega), hE2.2 x (by omega) (fun x => x), hE1.2 x hx (fun x => x)]⟩, lb, hlv, by omega, hVz⟩
theorem load50 {W : AW} {p : Nat} {x y z : Value} (h : Var W p 50 [x, y, z]) : aLoadVar T0 W 50 p 0 = some (.agg ⟨[x, y, z]⟩) := h.load (T := T0) und50 agg50 inf50 is50
theorem TS_membs {n F x : Nat} : (TS (membs n F)).testBit x = true ↔ x < n /\ F.testBit x = true := by rw [TS_mem, membs_mem]
theorem gl_len {W : AW} {v : Value} {n : Nat} {l : List Value} {el sz : Nat} {K : Nat -> Prop} (h : GrowsN W v n l el sz K) : ∃ A k c, v = .slice A k c := by
 rcases h.2 with ⟨_, h⟩ | ⟨b, c, _, h, _⟩
 ·exact ⟨_, _, _, h⟩
 ·exact ⟨_, _, _, h⟩
theorem push50 {W : AW} {p o a F : Nat} {K : Nat -> Prop} {fv : Value} {cs : List Value} (hg : GrowsN W fv (membs a F).length (natsV (membs a F)) 3 1 K) (hV : Var W p 50 cs) (hpK : ¬ K p) (ho : o < cs.length) (ha : a <= 40) (hF : F.testBit a = true) :
  ∃ v' W4 W5, aAppend T0 (W.newCells 3 [.int .i64 (a : Int)]) [31, 31] [fv, .slice (some ⟨W.next, 0, none⟩) 1 2] = some (v', W4) /\ aStoreVar T0 W4 31 p o v' = some W5 /\ W5.next = W.next + 2 /\ Var W5 p 50 (cs.set o v') /\
   GrowsN W5 v' (membs (a + 1) F).length (natsV (membs (a + 1) F)) 3 1 (fun b => K b \/ b = W.next + 1) /\ Only (fun b => K b \/ b = p) W W5 := by
 have hl := membs_len a F
 obtain ⟨v', W4, W5, a1, a2, _, a4, a5, a6, a7⟩ := Var.push (T := T0) (t := 31) (el := 3) (i := Tryd.t3) (it := Tryd.t31) (sz := 1) (by omega) und31 inf3 is3 z3 rfl inf31 is31 hg hV (o := o) hpK ho (u := [.int .i64 (a : Int)]) rfl rfl (by rw [by3]; omega) (by omega)
 refine ⟨v', W4, W5, a1, a2, a4, a5, ?_, a7⟩
 have e := membs_succ a F
 rw [if_pos hF] at e
 rw [e, List.length_append]
 have e2 : natsV (membs a F ++ [a]) = natsV (membs a F) ++ [.int .i64 (a : Int)] := by simp [natsV]
 rw [e2]; exact a6
open Classical in
theorem refDivide_wp {W : AW} {v : Value} {n : Nat} {es : List Edge} (h : PairR W v es) (hl : es.length < 4611686018427387904) (hg : GraphOk (n : Int) es) {mo : Nat} (hmo : MostP n (AjE es) (fun _ => true) mo) {F N R : Nat}
  (hF : ∀ a k, a < n -> MostP n (AjE es) (updB (fun _ => true) a false) k -> (k = mo ↔ F.testBit a = true))
  (hN : ∀ a, a < n -> F.testBit a = false -> (N.testBit a = true ↔ ∃ y, y < n /\ F.testBit y = true /\ Jn es (a : Int) (y : Int)))
  (hR : ∀ a, a < n -> (R.testBit a = true ↔ F.testBit a = false /\ N.testBit a = false)) (hNF : ∀ a, F.testBit a = true -> N.testBit a = false) :
  WpF T0 28 [.agg ⟨[.int .i64 (n : Int), v]⟩] W (fun u W' => Ext W W' /\ ∃ fv nv rv, u = .agg ⟨[fv, nv, rv]⟩ /\ IntN W' fv (membL n F) /\ IntN W' nv (membL n N) /\ IntN W' rv (membL n R)) := by
 have hn : n <= 40 := by have := hg.2.1; omega
 refine wpF fun28 rfl ?_
 obtain ⟨z50, hz50⟩ : ∃ z, z = [Value.slice none 0 0, .slice none 0 0, .slice none 0 0] := ⟨_, rfl⟩
 obtain ⟨Wi, hWi⟩ : ∃ Wi, Wi = (W.newCells 24 [.int .i64 (n : Int), v]).newCells 50 z50 := ⟨_, rfl⟩
 obtain ⟨g, hg0⟩ : ∃ g, g = W.next := ⟨_, rfl⟩
 obtain ⟨r0, hr0⟩ : ∃ g, g = W.next + 1 := ⟨_, rfl⟩
 obtain ⟨p3, hp3⟩ : ∃ g, g = W.next + 2 := ⟨_, rfl⟩
 have hni : Wi.next = p3 := by rw [hWi, newCells_next, newCells_next]; omega
 obtain ⟨W1, hW1, hE1, hV1, hV2, hV3, hn1⟩ : ∃ W1, W1 = Wi.newCells 50 z50 /\ Ext W W1 /\ Var W1 g 24 [.int .i64 (n : Int), v] /\ Var W1 r0 50 z50 /\ Var W1 p3 50 z50 /\ W1.next = W.next + 3 :=
  ⟨_, rfl, by rw [hWi]; exact ((Only.newCells _ _ _).trans (Only.newCells _ _ _)).trans (Only.newCells _ _ _), by rw [hWi, hg0]; exact ((Var.new _ _ _).ext (.newCells _ _ _)).ext (.newCells _ _ _), by rw [hWi, hr0]; exact (Var.new _ _ _).ext (.newCells _ _ _), by rw [<- hni]; exact Var.new _ _ _, by rw [newCells_next, hni, hp3]⟩
 rw [hz50] at hWi hW1
 try simp only [wA]
 refine wpK_reg (fun R hR => by simp [zero50, newCells_next, <- hWi, <- hg0, <- hr0]; exact hR) ?_
 try simp only [wA]
 refine wpK_reg (fun R hR => by simp [zero50, <- hW1, hni]; exact hR) ?_
 have l1 : ∀ {W'}, Ext W1 W' -> aLoadVar T0 W' 24 g 0 = some (.agg ⟨[.int .i64 (n : Int), v]⟩) /\ PairR W' v es /\ aLoadVar T0 W' 3 g 0 = some (.int .i64 (n : Int)) := fun {W'} he => ⟨load24 (hV1.ext he), h.ext (hE1.trans he), (hV1.ext he).load1 (T := T0) und3 rfl (j := 0) (v := .int .i64 (n : Int)) rfl⟩
 obtain ⟨l1a, l1b, l1c⟩ := l1 (.refl _ _)
 try simp only [wA]
 refine wpK_x1 (fun R hR => by
   simp [l1a, aEnter, fun25, sO, aCallV]; rw [cN]
   refine (refAll_wp l1b hn).mono ?_
   rintro _ W2 ⟨hE2, lb, rfl, hlb, hVl⟩
   simp [l1a]; exact hR lb W2 (And.intro hE2 (And.intro hlb hVl))) ?_
 rintro lb W2 ⟨hE2, hlb, hVl⟩
 obtain ⟨l2a, l2b, l2c⟩ := l1 hE2
 have hrp := fun (W' : AW) (th : Nat -> Bool) (hp : PairR W' v es) (hv : Var W' lb 4 (boolsL n th)) => refPairs_wp hg hl n W' th lb (2 * n) hp hv (fun x hx => by omega)
 have ixl : ∀ j, j < n -> aIndexAddr T0 46 (rowV lb n) (.int .i64 (j : Int)) = some (.pointer (some ⟨lb, j, none⟩)) := fun j hj => row_ix hj
 have e0 : Value.slice (some ⟨lb, 0, none⟩) n (2 * n) = rowV lb n := rfl
 rw [e0] at hrp
 obtain ⟨lv, hlv⟩ : ∃ lv, lv = rowV lb n := ⟨_, rfl⟩
 rw [<- hlv] at hrp ixl ⊢
 try simp only [wA]
 refine wpK_x1 (fun R hR => by
   simp [l2a, aEnter, fun24, sO, aCallV]; rw [cN]
   refine (hrp W2 _ l2b hVl).mono ?_
   rintro _ W3 ⟨hE3, mo', rfl, hmo'⟩
   simp [l2a]; exact hR mo' W3 (And.intro hE3 hmo')) ?_
 rintro mo' W3 ⟨hE3, hmo'⟩
 have := hmo'.one hmo
 subst mo'
 try simp only [wA]
 refine wpK_reg (fun R hR => by simp []; exact hR) ?_
 have hE23 := hE2.trans hE3
 have n3 := hE23.1
 have hlb3 : W1.next <= lb /\ lb < W3.next := ⟨hlb, by have := hVl.1; have := hE3.1; omega⟩
 have hg3 : g < r0 /\ r0 < p3 /\ p3 < W1.next := by omega
 -- what stands while the parts are found
 have k0 : ∀ {W'}, Only (fun x => x = p3 \/ x = lb) W3 W' -> Ext W W' /\ PairR W' v es /\ aLoadVar T0 W' 24 g 0 = some (.agg ⟨[.int .i64 (n : Int), v]⟩) /\ aLoadVar T0 W' 3 g 0 = some (.int .i64 (n : Int)) /\ Var W' r0 50 z50 := fun {W'} ho => by
  have he : Ext W W' := ⟨by have := ho.1; omega, fun x hx _ => by rw [ho.2 x (by omega) (by omega), hE23.2 x (by omega) (fun x => x), hE1.2 x hx (fun x => x)]⟩
  have v1 := (hV1.ext hE23).only ho (by omega)
  exact ⟨he, h.ext he, load24 v1, v1.load1 (T := T0) und3 rfl (j := 0) (v := .int .i64 (n : Int)) rfl, (hV2.ext hE23).only ho (by omega)⟩
 have hV33 := hV3.ext hE23
 rw [hz50] at hV33
 refine wpK_keep (fun tm' => tm'.get 1 = some (.pointer (some ⟨g, 0, none⟩)) /\ tm'.get 2 = some (.pointer (some ⟨r0, 0, none⟩)) /\ tm'.get 3 = some (.pointer (some ⟨p3, 0, none⟩)) /\ tm'.get 4 = some (lv) /\ tm'.get 5 = some (.int .i64 (mo : Int)) /\ tm'.get 6 = some (.int .i64 0)) (by simp) ?_
 rintro tm ⟨h1, h2, h3, h4, h5, h6⟩
 try simp only [wA]
 refine wpK_while (I := fun q A' W' => A'.n = 86 /\ A'.defers = [] /\ A'.tmps.get 1 = some (.pointer (some ⟨g, 0, none⟩)) /\ A'.tmps.get 2 = some (.pointer (some ⟨r0, 0, none⟩)) /\ A'.tmps.get 3 = some (.pointer (some ⟨p3, 0, none⟩)) /\ A'.tmps.get 4 = some (lv) /\ A'.tmps.get 5 = some (.int .i64 (mo : Int)) /\ Only (fun x => x = p3 \/ x = lb) W3 W' /\ ∃ (a : Nat) (fv : Value) (K : Nat -> Prop), A'.tmps.get 6 = some (.int .i64 (a : Int)) /\ q = n - a /\ a <= n /\ Var W' p3 50 [fv, .slice none 0 0, .slice none 0 0] /\ GrowsN W' fv (membs a F).length (natsV (membs a F)) 3 1 K /\ (∀ b, K b -> W3.next <= b /\ b < W'.next) /\ Var W' lb 4 (boolsL n (fun _ => true)))
  (J := fun A' W' => A'.n = 86 /\ A'.defers = [] /\ A'.tmps.get 1 = some (.pointer (some ⟨g, 0, none⟩)) /\ A'.tmps.get 2 = some (.pointer (some ⟨r0, 0, none⟩)) /\ A'.tmps.get 3 = some (.pointer (some ⟨p3, 0, none⟩)) /\ A'.tmps.get 4 = some (lv) /\ A'.tmps.get 5 = some (.int .i64 (mo : Int)) /\ Only (fun x => x = p3 \/ x = lb) W3 W' /\ ∃ (fv : Value) (K : Nat -> Prop), Var W' p3 50 [fv, .slice none 0 0, .slice none 0 0] /\ GrowsN W' fv (membs n F).length (natsV (membs n F)) 3 1 K /\ (∀ b, K b -> W3.next <= b /\ b < W'.next)) (Rt := fun _ _ => False) (k := n) ?_ ?_ ?_ ?_
 ·exact ⟨rfl, rfl, by simp [h1, h2, h3, h4, h5], by simp [h1, h2, h3, h4, h5], by simp [h1, h2, h3, h4, h5], by simp [h1, h2, h3, h4, h5], by simp [h1, h2, h3, h4, h5], .refl _ _, 0, .slice none 0 0, fun _ => False, by simp [h6], rfl, by omega, hV33, .nil _ _ _ _, fun b hb => hb.elim, hVl.ext hE3⟩
 ·rintro q ⟨tm, n, ds⟩ Wa ⟨hn, hd, h1, h2, h3, h4, h5, hOa, a, fv, K, h6, hq, han, hVa, hGa, hK, hLa⟩ Q' hJ hRt hI
  simp only at hn hd h1 h2 h3 h4 h5
  subst hn; subst hd
  simp only at h6
  obtain ⟨ea, pa, la, la3, _⟩ := k0 hOa
  by_cases hlt : a < n
  case neg =>
   have hlt' : ¬ (a : Int) < n := by omega
   have e : a = n := by omega
   subst a
   try simp only [wA]
   refine wpK_reg (fun R hR => by simp [h1, h6, la3, hlt']; exact hR) ?_
   try simp only [wA]
   first | refine wpK_onF (by simp [hlt]) ?_ | refine wpK_out (by simp [hlt]) ?_ | refine wCF (by simp [hlt]) ?_ | refine wEF (by simp [hlt]) (wpK_skip ?_) | refine wEF (by simp [hlt]) ?_
   exact hJ _ _ ⟨rfl, rfl, by simp [h1, h2, h3, h4, h5], by simp [h1, h2, h3, h4, h5], by simp [h1, h2, h3, h4, h5], by simp [h1, h2, h3, h4, h5], by simp [h1, h2, h3, h4, h5], hOa, fv, K, hVa, hGa, hK⟩
  have hlt' : (a : Int) < n := by omega
  try simp only [wA]
  refine wpK_reg (fun R hR => by simp [h1, h6, la3, hlt']; exact hR) ?_
  try simp only [wA]
  first | refine wpK_onT (by simp [hlt]) ?_ | refine wpK_outT (by simp [hlt]) ?_ | refine wCT (by simp [hlt]) ?_ | refine wpK_endT (by simp [hlt]) ?_
  have ix := ixl a hlt
  obtain ⟨Wb, b1, b2, b3, b4⟩ := brow_put hLa hlt false
  have hOb : Only (fun x => x = p3 \/ x = lb) W3 Wb := hOa.trans (b3.mono fun _ _ h => .inr h)
  obtain ⟨eb, pb, lb1, lb3, _⟩ := k0 hOb
  refine wpK_block ?_
  try simp only [wA]
  refine wpK_reg (fun R hR => by simp [h4, h6, ix, b1]; exact hR) ?_
  try simp only [wA]
  refine wpK_x1 (fun R hR => by
    simp [h1, h4, h5, lb1, aEnter, fun24, sO, aCallV]; rw [cN]
    refine (hrp Wb _ pb b4).mono ?_
    rintro _ Wc ⟨hEc, k, rfl, hk⟩
    simp [h5]; exact hR k Wc (And.intro hEc hk)) ?_
  rintro k Wc ⟨hEc, hk⟩
  have hOc : Only (fun x => x = p3 \/ x = lb) W3 Wc := hOb.trans (hEc.mono fun _ _ h => h.elim)
  have hkF := hF a k hlt hk
  have hVc := (hVa.only b3 (by omega)).ext hEc
  have hGc := (hGa.only b3 (fun b hb hkb e => by have := hK b hkb; omega)).only hEc (fun _ _ _ x => x)
  have hLc := b4.ext hEc
  have hbl : ∀ {W'}, Var W' lb 4 (boolsL n (updB (updB (fun _ => true) a false) a true)) -> Var W' lb 4 (boolsL n (fun _ => true)) := fun {W'} hh => by
   rw [boolsL_congr (g' := updB (updB (fun _ => true) a false) a true) (fun j _ => by
    show true = if j = a then true else if j = a then false else true
    by_cases e : j = a
    ·rw [if_pos e]
    ·rw [if_neg e, if_neg e])]
   exact hh
  have lf0 := hVc.load1 (T := T0) und31 rfl (j := 0) (v := fv) rfl
  have hac := hOc.1
  have hnab : Wa.next = Wb.next /\ Wb.next <= Wc.next := ⟨b2.symm, hEc.1⟩
  have hms := membs_succ a F
  cases hb : F.testBit a with
  | true =>
   have hkm : k = mo := hkF.2 hb
   have hkm' : (k : Int) = (mo : Int) := by omega
   obtain ⟨v', W4, Wd, q1, q2, q4, q5, q6, q7⟩ := push50 (o := 0) hGc hVc (fun hk => by have := hK _ hk; omega) (by simp) (by omega) hb
   have hLd := hLc.only q7 (by rintro (hk | hk); have := hK _ hk; omega; omega)
   obtain ⟨We, c1, c2, c3, c4⟩ := brow_put hLd hlt true
   try simp only [wA]
   first | refine wpK_onT (by simp [hkm, hkm']) ?_ | refine wpK_outT (by simp [hkm, hkm']) ?_ | refine wCT (by simp [hkm, hkm']) ?_ | refine wpK_endT (by simp [hkm, hkm']) ?_
   try simp only [wA]
   refine wpK_reg (fun R hR => by simp [h3, lf0]; exact hR) ?_
   try simp only [wA]
   refine wpK_reg1 (fun R hR => by simp [h3, h6, bs31, q1, q2]; exact hR) ?_
   try simp only [wA]
   refine wpK_reg1 (fun R hR => by simp [h4, h6, ix, c1]; exact hR) ?_
   simp only [lN, bN]
   try simp only [wA]
   refine wpK_reg1 (fun R hR => by simp [h6]; exact hR) ?_
   refine hI (n - (a + 1)) _ _ (by omega) ⟨rfl, rfl, by simp [h1, h2, h3, h4, h5], by simp [h1, h2, h3, h4, h5], by simp [h1, h2, h3, h4, h5], by simp [h1, h2, h3, h4, h5], by simp [h1, h2, h3, h4, h5], ⟨by have := c3.1; omega, fun x hx hxk => ?_⟩, a + 1, v', fun b => K b \/ b = Wc.next + 1, by simp [i64_succ a (by omega)], rfl, by omega, ?_, ?_, fun b hb => ?_, hbl c4⟩
   ·rw [c3.2 x (by omega) (fun e => hxk (.inr e)), q7.2 x (by omega) (by rintro (hk | hk); have := hK _ hk; omega; exact hxk (.inl hk)), hOc.2 x hx hxk]
   ·exact (by simpa using q5 : Var Wd p3 50 [v', .slice none 0 0, .slice none 0 0]).only c3 (by omega)
   ·exact q6.only c3 (fun b hb hk e => by
     rcases hk with hk | hk
     ·have := hK _ hk; omega
     ·omega)
   ·rcases hb with hb | hb
    ·have := hK _ hb; omega
    ·omega
  | false =>
   have hkm : ¬ k = mo := fun e => by have := hkF.1 e; rw [hb] at this; cases this
   have hkm' : ¬ (k : Int) = (mo : Int) := by omega
   obtain ⟨We, c1, c2, c3, c4⟩ := brow_put hLc hlt true
   rw [hb, if_neg (by simp)] at hms
   try simp only [wA]
   first | refine wpK_onF (by simp [hkm, hkm']) ?_ | refine wpK_out (by simp [hkm, hkm']) ?_ | refine wCF (by simp [hkm, hkm']) ?_ | refine wEF (by simp [hkm, hkm']) (wpK_skip ?_) | refine wEF (by simp [hkm, hkm']) ?_
   try simp only [wA]
   refine wpK_reg1 (fun R hR => by simp [h4, h6, ix, c1]; exact hR) ?_
   simp only [lN, bN]
   try simp only [wA]
   refine wpK_reg1 (fun R hR => by simp [h6]; exact hR) ?_
   refine hI (n - (a + 1)) _ _ (by omega) ⟨rfl, rfl, by simp [h1, h2, h3, h4, h5], by simp [h1, h2, h3, h4, h5], by simp [h1, h2, h3, h4, h5], by simp [h1, h2, h3, h4, h5], by simp [h1, h2, h3, h4, h5], hOc.trans (c3.mono fun _ _ h => .inr h), a + 1, fv, K, by simp [i64_succ a (by omega)], rfl, by omega, hVc.only c3 (by omega), ?_, fun b hb => ?_, hbl c4⟩
   ·rw [hms]
    exact hGc.only c3 (fun b hb hk e => by have := hK _ hk; omega)
   ·have := hK _ hb; omega
 ·rintro A' W' hf; exact hf.elim
 rintro ⟨tm, n, ds⟩ W4 ⟨hn, hd, h1, h2, h3, h4, h5, hO4, fv, K1, hV4, hG1, hK1⟩
 simp only at hn hd h1 h2 h3 h4 h5
 subst hn; subst hd
 have k4 : ∀ {W'}, Only (fun x => x = p3) W4 W' -> Ext W W' /\ PairR W' v es /\ aLoadVar T0 W' 24 g 0 = some (.agg ⟨[.int .i64 (n : Int), v]⟩) /\ aLoadVar T0 W' 3 g 0 = some (.int .i64 (n : Int)) /\ Var W' r0 50 z50 /\ GrowsN W' fv (membs n F).length (natsV (membs n F)) 3 1 K1 := fun {W'} ho => by
  obtain ⟨y1, y2, y3, y4, y5⟩ := k0 (hO4.trans (ho.mono fun _ _ h => .inl h))
  exact ⟨y1, y2, y3, y4, y5, hG1.only ho (fun b hb hk e => by have := hK1 b hk; omega)⟩
 have n4 := hO4.1
 obtain ⟨fs, hfs⟩ : ∃ fs, fs = membs n F := ⟨_, rfl⟩
 have hfl : fs.length <= 40 := by rw [hfs]; have := membs_len n F; omega
 have hTS : ∀ x, x < n -> ((TS fs).testBit x = F.testBit x) := fun x hx => by
  have := TS_membs (n := n) (F := F) (x := x)
  rw [<- hfs] at this
  cases hb : F.testBit x with
  | true => exact this.2 ⟨hx, hb⟩
  | false =>
   cases hb2 : (TS fs).testBit x with
   | true => have := (this.1 hb2).2; rw [hb] at this; cases this
   | false => rfl
 have hex : ∀ a : Nat, (∃ i, i < fs.length /\ Jn es (a : Int) (pOf fs i : Int)) ↔ ∃ y, y < n /\ F.testBit y = true /\ Jn es (a : Int) (y : Int) := fun a => by
  constructor
  ·rintro ⟨i, hi, hj⟩
   have hm := pOf_mem hi
   rw [hfs] at hm
   have := membs_mem.1 hm
   rw [<- hfs] at this
   exact ⟨_, this.1, this.2, hj⟩
  ·rintro ⟨y, y1, y2, y3⟩
   have hm : y ∈ fs := by rw [hfs]; exact membs_mem.2 ⟨y1, y2⟩
   obtain ⟨i, hi, e⟩ := List.getElem_of_mem hm
   refine ⟨i, hi, ?_⟩
   have : pOf fs i = y := by rw [<- e]; simp [pOf, List.getD_eq_getElem?_getD, hi]
   rw [this]; exact y3
 rw [<- hfs] at k4 hG1
 try simp only [wA]
 refine wpK_reg (fun R hR => by simp []; exact hR) ?_
 refine wpK_keep (fun tm' => tm'.get 1 = some (.pointer (some ⟨g, 0, none⟩)) /\ tm'.get 2 = some (.pointer (some ⟨r0, 0, none⟩)) /\ tm'.get 3 = some (.pointer (some ⟨p3, 0, none⟩)) /\ tm'.get 8 = some (.int .i64 0)) (by simp [h1, h2, h3]) ?_
 rintro tm ⟨h1, h2, h3, h8⟩
 try simp only [wA]
 refine wpK_while (I := fun q A' W' => A'.n = 86 /\ A'.defers = [] /\ A'.tmps.get 1 = some (.pointer (some ⟨g, 0, none⟩)) /\ A'.tmps.get 2 = some (.pointer (some ⟨r0, 0, none⟩)) /\ A'.tmps.get 3 = some (.pointer (some ⟨p3, 0, none⟩)) /\ Only (fun x => x = p3) W4 W' /\ ∃ (a : Nat) (nv rv : Value) (K2 K3 : Nat -> Prop), A'.tmps.get 8 = some (.int .i64 (a : Int)) /\ q = n - a /\ a <= n /\ Var W' p3 50 [fv, nv, rv] /\ GrowsN W' nv (membs a N).length (natsV (membs a N)) 3 1 K2 /\ GrowsN W' rv (membs a R).length (natsV (membs a R)) 3 1 K3 /\ (∀ b, K2 b -> W4.next <= b /\ b < W'.next /\ ¬ K3 b) /\ ∀ b, K3 b -> W4.next <= b /\ b < W'.next)
  (J := fun A' W' => A'.n = 86 /\ A'.defers = [] /\ A'.tmps.get 1 = some (.pointer (some ⟨g, 0, none⟩)) /\ A'.tmps.get 2 = some (.pointer (some ⟨r0, 0, none⟩)) /\ A'.tmps.get 3 = some (.pointer (some ⟨p3, 0, none⟩)) /\ Only (fun x => x = p3) W4 W' /\ ∃ (nv rv : Value) (K2 K3 : Nat -> Prop), Var W' p3 50 [fv, nv, rv] /\ GrowsN W' nv (membs n N).length (natsV (membs n N)) 3 1 K2 /\ GrowsN W' rv (membs n R).length (natsV (membs n R)) 3 1 K3 /\ (∀ b, K2 b -> W4.next <= b /\ b < W'.next /\ ¬ K3 b) /\ ∀ b, K3 b -> W4.next <= b /\ b < W'.next) (Rt := fun _ _ => False) (k := n) ?_ ?_ ?_ ?_
 ·exact ⟨rfl, rfl, by simp [h1, h2, h3], by simp [h1, h2, h3], by simp [h1, h2, h3], .refl _ _, 0, .slice none 0 0, .slice none 0 0, fun _ => False, fun _ => False, by simp [h8], rfl, by omega, hV4, .nil _ _ _ _, .nil _ _ _ _, fun b hb => hb.elim, fun b hb => hb.elim⟩
 ·rintro q ⟨tm, n, ds⟩ Wa ⟨hn, hd, h1, h2, h3, hOa, a, nv, rv, K2, K3, h8, hq, han, hVa, hGn, hGr, hK2, hK3⟩ Q' hJ hRt hI
  simp only at hn hd h1 h2 h3
  subst hn; subst hd
  simp only at h8
  obtain ⟨ea, pa, la, la3, _, hGf⟩ := k4 hOa
  by_cases hlt : a < n
  case neg =>
   have hlt' : ¬ (a : Int) < n := by omega
   have e : a = n := by omega
   rw [e] at hGn hGr
   try simp only [wA]
   refine wpK_reg (fun R hR => by simp [h1, h8, la3, hlt']; exact hR) ?_
   try simp only [wA]
   first | refine wpK_onF (by simp [hlt]) ?_ | refine wpK_out (by simp [hlt]) ?_ | refine wCF (by simp [hlt]) ?_ | refine wEF (by simp [hlt]) (wpK_skip ?_) | refine wEF (by simp [hlt]) ?_
   exact hJ _ _ ⟨rfl, rfl, by simp [h1, h2, h3], by simp [h1, h2, h3], by simp [h1, h2, h3], hOa, nv, rv, K2, K3, hVa, hGn, hGr, hK2, hK3⟩
  have hlt' : (a : Int) < n := by omega
  try simp only [wA]
  refine wpK_reg (fun R hR => by simp [h1, h8, la3, hlt']; exact hR) ?_
  try simp only [wA]
  first | refine wpK_onT (by simp [hlt]) ?_ | refine wpK_outT (by simp [hlt]) ?_ | refine wCT (by simp [hlt]) ?_ | refine wpK_endT (by simp [hlt]) ?_
  have lf0 := hVa.load1 (T := T0) und31 rfl (j := 0) (v := fv) rfl
  have hrow := natsV_row hGf
  have hh := refHas_wp hrow a (by omega)
  rw [hTS a hlt] at hh
  have hmN := membs_succ a N
  have hmR := membs_succ a R
  refine wpK_block ?_
  cases hb : F.testBit a with
  | true =>
   rw [hb] at hh
   have hNa := hNF a hb
   have hRa : R.testBit a = false := by
    cases hr : R.testBit a with
    | false => rfl
    | true => have := ((hR a hlt).1 hr).1; rw [hb] at this; cases this
   rw [hNa, if_neg (by simp)] at hmN
   rw [hRa, if_neg (by simp)] at hmR
   try simp only [wA]
   refine wpK_reg (fun R hR => by
     simp [h3, h8, lf0, aEnter, fun33, sO, aCallV]; rw [cN]
     refine (hh).mono ?_
     rintro _ W9 ⟨e9, rfl⟩; subst W9
     simp [h3, h8, lf0]; exact hR) ?_
   try simp only [wA]
   first | refine wpK_onT (by simp []) ?_ | refine wpK_outT (by simp []) ?_ | refine wCT (by simp []) ?_ | refine wpK_endT (by simp []) ?_
   simp only [leaves_exit, bN, if_true]
   try simp only [wA]
   refine wpK_reg1 (fun R hR => by simp [h8]; exact hR) ?_
   exact hI (n - (a + 1)) _ _ (by omega) ⟨rfl, rfl, by simp [h1, h2, h3], by simp [h1, h2, h3], by simp [h1, h2, h3], hOa, a + 1, nv, rv, K2, K3, by simp [i64_succ a (by omega)], rfl, by omega, hVa, by rw [hmN]; exact hGn, by rw [hmR]; exact hGr, hK2, hK3⟩
  | false =>
   rw [hb] at hh
   have hNa := hN a hlt hb
   have hRa := hR a hlt
   rw [hb] at hRa
   try simp only [wA]
   refine wpK_reg (fun R hR => by
     simp [h3, h8, lf0, aEnter, fun33, sO, aCallV]; rw [cN]
     refine (hh).mono ?_
     rintro _ W9 ⟨e9, rfl⟩; subst W9
     simp [h3, h8, lf0]; exact hR) ?_
   try simp only [wA]
   first | refine wpK_onF (by simp []) ?_ | refine wpK_out (by simp []) ?_ | refine wCF (by simp []) ?_ | refine wEF (by simp []) (wpK_skip ?_) | refine wEF (by simp []) ?_
   try simp only [wA]
   refine wpK_reg (fun R hR => by simp []; exact hR) ?_
   try simp only [wA]
   refine wpK_reg (fun R hR => by simp []; exact hR) ?_
   refine wpK_keep (fun tm' => tm'.get 1 = some (.pointer (some ⟨g, 0, none⟩)) /\ tm'.get 2 = some (.pointer (some ⟨r0, 0, none⟩)) /\ tm'.get 3 = some (.pointer (some ⟨p3, 0, none⟩)) /\ tm'.get 8 = some (.int .i64 (a : Int)) /\ tm'.get 9 = some (.bool false) /\ tm'.get 10 = some (.int .i64 0)) (by simp [h1, h2, h3, h8]) ?_
   rintro tm ⟨h1, h2, h3, h8, h9, h10⟩
   try simp only [wA]
   refine wpK_while (I := fun q A' W' => A'.n = 86 /\ A'.defers = [] /\ A'.tmps.get 1 = some (.pointer (some ⟨g, 0, none⟩)) /\ A'.tmps.get 2 = some (.pointer (some ⟨r0, 0, none⟩)) /\ A'.tmps.get 3 = some (.pointer (some ⟨p3, 0, none⟩)) /\ A'.tmps.get 8 = some (.int .i64 (a : Int)) /\ Ext Wa W' /\ ∃ (k : Nat) (nx : Bool), A'.tmps.get 9 = some (.bool nx) /\ A'.tmps.get 10 = some (.int .i64 (k : Int)) /\ q = fs.length - k /\ k <= fs.length /\ (nx = true ↔ ∃ i, i < k /\ Jn es (a : Int) (pOf fs i : Int)))
    (J := fun A' W' => A'.n = 86 /\ A'.defers = [] /\ A'.tmps.get 1 = some (.pointer (some ⟨g, 0, none⟩)) /\ A'.tmps.get 2 = some (.pointer (some ⟨r0, 0, none⟩)) /\ A'.tmps.get 3 = some (.pointer (some ⟨p3, 0, none⟩)) /\ A'.tmps.get 8 = some (.int .i64 (a : Int)) /\ Ext Wa W' /\ ∃ (nx : Bool), A'.tmps.get 9 = some (.bool nx) /\ (nx = true ↔ N.testBit a = true)) (Rt := fun _ _ => False) (k := fs.length) ?_ ?_ ?_ ?_
   ·exact ⟨rfl, rfl, by simp [h1, h2, h3, h8], by simp [h1, h2, h3, h8], by simp [h1, h2, h3, h8], by simp [h1, h2, h3, h8], .refl _ _, 0, false, by simp [h9], by simp [h10], rfl, by omega, ⟨fun h => (by cases h), fun ⟨i, hi, _⟩ => by omega⟩⟩
   ·rintro q2 ⟨tm, n, ds⟩ Wb ⟨hn, hd, h1, h2, h3, h8, hEb, k, nx, h9, h10, hq2, hkl, hnx⟩ Q2 hJ2 hRt2 hI2
    simp only at hn hd h1 h2 h3 h8
    subst hn; subst hd
    simp only at h9 h10
    have lfb : ∀ W', Ext Wb W' -> aLoadVar T0 W' 31 p3 0 = some fv := fun W' he => ((hVa.ext hEb).ext he).load1 (T := T0) und31 rfl (j := 0) (v := fv) rfl
    have lfb0 := lfb Wb (.refl _ _)
    have hrowb := hrow.ext hEb
    have lf := grows_len hGf
    by_cases hkt : k < fs.length
    case neg =>
     have hkt' : ¬ (k : Int) < fs.length := by omega
     have e : k = fs.length := by omega
     rw [e, hex a, <- hNa] at hnx
     try simp only [wA]
     refine wpK_reg (fun R hR => by simp [h3, h10, lfb0, lf, hkt']; exact hR) ?_
     try simp only [wA]
     first | refine wpK_onF (by simp [hkt]) ?_ | refine wpK_out (by simp [hkt]) ?_ | refine wCF (by simp [hkt]) ?_ | refine wEF (by simp [hkt]) (wpK_skip ?_) | refine wEF (by simp [hkt]) ?_
     exact hJ2 _ _ ⟨rfl, rfl, by simp [h1, h2, h3, h8], by simp [h1, h2, h3, h8], by simp [h1, h2, h3, h8], by simp [h1, h2, h3, h8], hEb, nx, by simp [h9], hnx⟩
    have hkt' : (k : Int) < fs.length := by omega
    try simp only [wA]
    refine wpK_reg (fun R hR => by simp [h3, h10, lfb0, lf, hkt']; exact hR) ?_
    try simp only [wA]
    first | refine wpK_onT (by simp [hkt]) ?_ | refine wpK_outT (by simp [hkt]) ?_ | refine wCT (by simp [hkt]) ?_ | refine wpK_endT (by simp [hkt]) ?_
    have hnk : ∀ z : Bool, (z = true ↔ nx = true \/ Jn es (a : Int) (pOf fs k : Int)) -> (z = true ↔ ∃ i, i < k + 1 /\ Jn es (a : Int) (pOf fs i : Int)) := fun z hz => by
     rw [hz, hnx]
     constructor
     ·rintro (⟨i, hi, hj⟩ | hj)
      ·exact ⟨i, by omega, hj⟩
      ·exact ⟨k, by omega, hj⟩
     ·rintro ⟨i, hi, hj⟩
      by_cases e : i = k
      ·subst e; exact .inr hj
      ·exact .inl ⟨i, by omega, hj⟩
    refine wpK_block ?_
    cases nx with
    | true =>
     try simp only [wA]
     refine wpK_qn (wr := Tr.nil |>.set 59 0 |>.set 60 1 |>.set 61 2 |>.set 62 3 |>.set 63 4 |>.set 64 5 |>.set 65 6 |>.set 66 7 |>.set 67 8 |>.set 68 9 |>.set 69 10 |>.set 9 11) (bits := Tr.nil.lay 0 [0, 1, 3, 3, 3, 19, 3, 115, 243, 511, 1023, 2047]) (ord := [0, 1, 2, 3, 4, 5, 6, 7, 8, 9, 10, 11]) (by kernel_rfl) (by kernel_rfl) (by kernel_rfl) (fun G hG => by
      simp [h9, undef]
      exact hG) ?_
     simp only [lN, bN]
     try simp only [wA]
     refine wpK_reg1 (fun R hR => by simp [h10]; exact hR) ?_
     exact hI2 (fs.length - (k + 1)) _ _ (by omega) ⟨rfl, rfl, by simp [h1, h2, h3, h8], by simp [h1, h2, h3, h8], by simp [h1, h2, h3, h8], by simp [h1, h2, h3, h8], hEb, k + 1, true, by simp, by simp [i64_succ k (by omega)], rfl, by omega, hnk true ⟨fun _ => .inl rfl, fun _ => rfl⟩⟩
    | false =>
     obtain ⟨bx, px, x1, _, x3⟩ := int_at31 hrowb (nat_some (ps := fs) (i := k) hkt)
     obtain ⟨y, hy⟩ : ∃ y, y = pOf fs k := ⟨_, rfl⟩
     rw [<- hy] at x3 hnk
     have x2 : ∀ W', Ext Wb W' -> aLoadVar T0 W' 3 bx px = some (.int .i64 (y : Int)) := fun W' hE => load_of und3 rfl (x3.ext hE)
     have ebb : Ext Wb Wb := .refl _ _
     obtain ⟨_, pb, _, _, _, _⟩ := k4 (hOa.trans (hEb.mono fun _ _ (h : False) => h.elim))
     have l24b : ∀ W', Ext Wb W' -> aLoadVar T0 W' 24 g 0 = some (.agg ⟨[.int .i64 (n : Int), v]⟩) := fun W' hE => (k4 ((hOa.trans (hEb.mono fun _ _ (h : False) => h.elim)).trans (hE.mono fun _ _ (h : False) => h.elim))).2.2.1
     have hjw := refJoined_wp (n : Int) pb hl (a : Int) (y : Int)
     have vv := row_eq pb
     have vf := row_eq hrowb
     obtain ⟨jb, hjb⟩ : ∃ jb, jb = decide (Jn es (a : Int) (y : Int)) := ⟨_, rfl⟩
     rw [<- hjb] at hjw
     try simp only [wA]
     refine wpK_q0 (wr := Tr.nil |>.set 59 0 |>.set 60 1 |>.set 61 2 |>.set 62 3 |>.set 63 4 |>.set 64 5 |>.set 65 6 |>.set 66 7 |>.set 67 8 |>.set 68 9 |>.set 69 10 |>.set 9 11) (bits := Tr.nil.lay 0 [0, 1, 3, 3, 3, 19, 3, 115, 243, 511, 1023, 2047]) (ord := [0, 1, 2, 3, 4, 5, 6, 7, 8, 9, 10, 11]) (by kernel_rfl) (by kernel_rfl) (by kernel_rfl) (fun G hG => by
      simp [h1, h3, h8, h9, h10, x1, x2, ebb, l24b, lfb, vv, vf, undef, aEnter, fun64, sO, aCallV]
      rw [dcallS_none]
      refine hjw.mono ?_
      rintro _ Wc ⟨hEc, rfl⟩
      simp [hEc.1, hEc, h1, h3, h8, h9, h10, x1, x2, ebb, l24b, lfb, vv, vf, undef]
      exact hG Wc hEc) ?_
     rintro Wc hEc
     simp only [lN, bN]
     try simp only [wA]
     refine wpK_reg1 (fun R hR => by simp [h10]; exact hR) ?_
     exact hI2 (fs.length - (k + 1)) _ _ (by omega) ⟨rfl, rfl, by simp [h1, h2, h3, h8], by simp [h1, h2, h3, h8], by simp [h1, h2, h3, h8], by simp [h1, h2, h3, h8], hEb.trans hEc, k + 1, jb, by simp, by simp [i64_succ k (by omega)], rfl, by omega, hnk jb (by rw [hjb, decide_eq_true_eq]; exact ⟨.inr, fun h => h.resolve_left (by simp)⟩)⟩
   ·rintro A' W' hf; exact hf.elim
   rintro ⟨tm, n, ds⟩ Wb ⟨hn, hd, h1, h2, h3, h8, hEb, nx, h9, hnx⟩
   simp only at hn hd h1 h2 h3 h8
   subst hn; subst hd
   simp only at h9
   have hVb := hVa.ext hEb
   have hGnb := hGn.only hEb (fun _ _ _ x => x)
   have hGrb := hGr.only hEb (fun _ _ _ x => x)
   have hOb : Only (fun x => x = p3) W4 Wb := hOa.trans (hEb.mono fun _ _ (h : False) => h.elim)
   have lf1 := hVb.load1 (T := T0) und31 rfl (j := 1) (v := nv) rfl
   have lf2 := hVb.load1 (T := T0) und31 rfl (j := 2) (v := rv) rfl
   have hnb := hEb.1
   have hoa := hOa.1
   cases nx with
   | true =>
    have hNt := hnx.1 rfl
    have hRf : R.testBit a = false := by
     cases hr : R.testBit a with
     | false => rfl
     | true => have := (hRa.1 hr).2; rw [hNt] at this; cases this
    rw [hRf, if_neg (by simp)] at hmR
    obtain ⟨v', Wc, Wd, q1, q2, q4, q5, q6, q7⟩ := push50 (o := 1) hGnb hVb (fun hk => by have := hK2 _ hk; omega) (by simp) (by omega) hNt
    try simp only [wA]
    refine wpK_reg (fun R hR => by simp [h9]; exact hR) ?_
    try simp only [wA]
    first | refine wpK_onT (by simp []) ?_ | refine wpK_outT (by simp []) ?_ | refine wCT (by simp []) ?_ | refine wpK_endT (by simp []) ?_
    try simp only [wA]
    refine wpK_reg (fun R hR => by simp [h3, lf1]; exact hR) ?_
    try simp only [wA]
    refine wpK_reg1 (fun R hR => by simp [h3, h8, bs31, q1, q2]; exact hR) ?_
    simp only [lN, bN]
    try simp only [wA]
    refine wpK_reg1 (fun R hR => by simp [h8]; exact hR) ?_
    refine hI (n - (a + 1)) _ _ (by omega) ⟨rfl, rfl, by simp [h1, h2, h3], by simp [h1, h2, h3], by simp [h1, h2, h3], ⟨by omega, fun x hx hxk => ?_⟩, a + 1, v', rv, fun b => K2 b \/ b = Wb.next + 1, K3, by simp [i64_succ a (by omega)], rfl, by omega, by simpa using q5, q6, ?_, fun b hb => ?_, fun b hb => ?_⟩
    ·rw [q7.2 x (by omega) (by rintro (hk | hk); have := hK2 _ hk; omega; exact hxk hk), hOb.2 x hx hxk]
    ·rw [hmR]
     exact hGrb.only q7 (fun b hb hk => by
      rintro (h | h)
      ·exact (hK2 b h).2.2 hk
      ·have := hK3 b hk; omega)
    ·rcases hb with hb | hb
     ·have := hK2 b hb; exact ⟨this.1, by omega, this.2.2⟩
     ·exact ⟨by omega, by omega, fun h => by have := hK3 b h; omega⟩
    ·have := hK3 b hb; omega
   | false =>
    have hNf : N.testBit a = false := by
     cases hr : N.testBit a with
     | false => rfl
     | true => have := hnx.2 hr; cases this
    have hRt2 := hRa.2 ⟨rfl, hNf⟩
    rw [hNf, if_neg (by simp)] at hmN
    obtain ⟨v', Wc, Wd, q1, q2, q4, q5, q6, q7⟩ := push50 (o := 2) hGrb hVb (fun hk => by have := hK3 _ hk; omega) (by simp) (by omega) hRt2
    try simp only [wA]
    refine wpK_reg (fun R hR => by simp [h9]; exact hR) ?_
    try simp only [wA]
    first | refine wpK_onF (by simp []) ?_ | refine wpK_out (by simp []) ?_ | refine wCF (by simp []) ?_ | refine wEF (by simp []) (wpK_skip ?_) | refine wEF (by simp []) ?_
    try simp only [wA]
    refine wpK_reg (fun R hR => by simp [h3, lf2]; exact hR) ?_
    try simp only [wA]
    refine wpK_reg1 (fun R hR => by simp [h3, h8, bs31, q1, q2]; exact hR) ?_
    simp only [lN, bN]
    try simp only [wA]
    refine wpK_reg1 (fun R hR => by simp [h8]; exact hR) ?_
    refine hI (n - (a + 1)) _ _ (by omega) ⟨rfl, rfl, by simp [h1, h2, h3], by simp [h1, h2, h3], by simp [h1, h2, h3], ⟨by omega, fun x hx hxk => ?_⟩, a + 1, nv, v', K2, fun b => K3 b \/ b = Wb.next + 1, by simp [i64_succ a (by omega)], rfl, by omega, by simpa using q5, ?_, q6, fun b hb => ?_, fun b hb => ?_⟩
    ·rw [q7.2 x (by omega) (by rintro (hk | hk); have := hK3 _ hk; omega; exact hxk hk), hOb.2 x hx hxk]
    ·rw [hmN]
     exact hGnb.only q7 (fun b hb hk => by
      rintro (h | h)
      ·exact (hK2 b hk).2.2 h
      ·have := hK2 b hk; omega)
    ·have := hK2 b hb
     exact ⟨this.1, by omega, fun h => h.elim this.2.2 fun h => by omega⟩
    ·rcases hb with hb | hb
     ·have := hK3 b hb; omega
     ·omega
 ·rintro A' W' hf; exact hf.elim
 rintro ⟨tm, n, ds⟩ Wz ⟨hn, hd, h1, h2, h3, hOz, nv, rv, K2, K3, hVz, hGn, hGr, hK2, hK3⟩
 simp only at hn hd h1 h2 h3
 subst hn; subst hd
 obtain ⟨ez, _, _, _, vz, hGf⟩ := k4 hOz
 obtain ⟨A1, k1, c1, e1⟩ := gl_len hGf
 obtain ⟨A2, k2, c2, e2⟩ := gl_len hGn
 obtain ⟨A3, k3, c3, e3⟩ := gl_len hGr
 have lw := load50 hVz
 obtain ⟨Wf, s1, s2, s3, s4⟩ := vz.store (T := T0) (t := 50) (v := .agg ⟨[fv, nv, rv]⟩) (o := 0) inf50 (by rw [is50]; rfl) (by rw [hz50]; simp) (by rw [e1, e2, e3]; rfl)
 have hl3 := load50 (x := fv) (y := nv) (z := rv) (by simpa [hz50] using s4)
 have hnz := hOz.1
 try simp only [wA]
 refine wpK_reg (fun R hR => by simp [h2, h3, lw, s1]; exact hR) ?_
 refine wpK_ret ⟨.inr rfl, rfl, [.agg ⟨[fv, nv, rv]⟩], by simp [h2, hl3], ⟨by have := ez.1; omega, fun x hx _ => by rw [s3.2 x (by have := ez.1; omega) (by omega), ez.2 x hx (fun x => x)]⟩, fv, nv, rv, rfl, ?_, ?_, ?_⟩
 ·have := natsV_row (hGf.only s3 (fun b hb hk e => by have := hK1 b hk; omega))
  rw [hfs] at this; exact this
 ·exact natsV_row (hGn.only s3 (fun b hb hk e => by have := hK2 b hk; omega))
 ·exact natsV_row (hGr.only s3 (fun b hb hk e => by have := hK3 b hk; omega))
section
open Classical
def Two (n : Nat) (J : Nat -> Nat -> Prop) (c : Nat -> Bool) : Prop := ∀ x y, x < n -> y < n -> J x y -> c x ≠ c y
variable {n : Nat} {J : Nat -> Nat -> Prop}
theorem Two.flip {c : Nat -> Bool} (h : Two n J c) (hsy : ∀ x y, J x y -> J y x) {f : Nat} (hf : f < n) (b : Bool) : ∃ c', Two n J c' /\ c' f = b /\ ∀ x, ¬ Rch J (fun r => r < n) f x -> c' x = c x := by
 refine ⟨fun x => if Rch J (fun r => r < n) f x then xor (c x) (xor (c f) b) else c x, fun x y hx hy hj => ?_, ?_, fun x hx => if_neg hx⟩
 ·have hxy := h x y hx hy hj
  by_cases r : Rch J (fun r => r < n) f x
  ·have r2 : Rch J (fun r => r < n) f y := r.step hj hy
   simp only [if_pos r, if_pos r2]
   revert hxy
   cases c x <;> cases c y <;> cases (xor (c f) b) <;> simp
  ·have r2 : ¬ Rch J (fun r => r < n) f y := fun r2 => r (r2.step (hsy _ _ hj) hx)
   simp only [if_neg r, if_neg r2]
   exact hxy
 ·have : Rch J (fun r => r < n) f f := .start hf
  simp only [if_pos this]
  cases c f <;> cases b <;> rfl
structure SideI (n : Nat) (J : Nat -> Nat -> Prop) (S L R : Nat) (ev : Bool) : Prop where
 ln : ∀ x, L.testBit x = true -> x < n
 sl : ∀ x, S.testBit x = true -> x < n /\ L.testBit x = false
 rl : ∀ x, R.testBit x = true -> L.testBit x = true
 clo : ∀ x y, x < n -> y < n -> L.testBit x = false -> J x y -> L.testBit y = false \/ R.testBit y = true
 fit : (∃ c, Two n J c) -> ∃ c, Two n J c /\ (∀ x, x < n -> L.testBit x = false -> (S.testBit x = true ↔ c x = true)) /\ ∀ x, R.testBit x = true -> c x = ev
theorem SideI.start {L : Nat} (hL : ∀ x, L.testBit x = true ↔ x < n) : SideI n J 0 L 0 true where
 ln := fun x h => (hL x).1 h
 sl := fun x h => by simp at h
 rl := fun x h => by simp at h
 clo := fun x y hx hy h _ => by rw [(hL x).2 hx] at h; cases h
 fit := fun ⟨c, hc⟩ => ⟨c, hc, fun x hx h => (by rw [(hL x).2 hx] at h; cases h), fun x h => by simp at h⟩
theorem SideI.first {S L R : Nat} {ev : Bool} (hsy : ∀ x y, J x y -> J y x) (h : SideI n J S L 0 ev) {k : Nat} (hk : L.testBit k = true) (hR : ∀ x, R.testBit x = true ↔ x = k) : SideI n J S L R true where
 ln := h.ln
 sl := h.sl
 rl := fun x hx => by rw [(hR x).1 hx]; exact hk
 clo := fun x y hx hy h1 h2 => .inl ((h.clo x y hx hy h1 h2).resolve_right (by simp))
 fit := fun hc => by
  obtain ⟨c, c1, c2, _⟩ := h.fit hc
  obtain ⟨c', d1, d2, d3⟩ := c1.flip hsy (h.ln k hk) true
  refine ⟨c', d1, fun x hx hl => ?_, fun x hx => by rw [(hR x).1 hx]; exact d2⟩
  rw [c2 x hx hl, d3 x]
  intro hr
  have : k < n /\ L.testBit k = false := (hr.symm hsy).closed (C := fun z => z < n /\ L.testBit z = false) ⟨hx, hl⟩ (fun q r h1 h2 h3 => ⟨h3, (h.clo q r h1.1 h3 h1.2 h2).resolve_right (by simp)⟩)
  have := this.2
  rw [hk] at this; cases this
theorem SideI.next {S L R S' L' R' : Nat} {ev : Bool} (h : SideI n J S L R ev) (hS : ∀ x, S'.testBit x = true ↔ S.testBit x = true \/ (ev = true /\ R.testBit x = true)) (hL : ∀ x, L'.testBit x = true ↔ L.testBit x = true /\ R.testBit x = false) (hR : ∀ x, R'.testBit x = true ↔ L'.testBit x = true /\ ∃ q, R.testBit q = true /\ J q x) : SideI n J S' L' R' (!ev) := by
 have off : ∀ x, L'.testBit x = false ↔ L.testBit x = false \/ R.testBit x = true := fun x => by
  have := hL x
  cases h1 : L'.testBit x <;> cases h2 : L.testBit x <;> cases h3 : R.testBit x <;> simp_all
 refine ⟨fun x hx => h.ln x ((hL x).1 hx).1, fun x hx => ?_, fun x hx => ((hR x).1 hx).1, fun x y hx hy h1 h2 => ?_, fun hc => ?_⟩
 ·rcases (hS x).1 hx with g | g
  ·exact ⟨(h.sl x g).1, (off x).2 (.inl (h.sl x g).2)⟩
  ·exact ⟨h.ln x (h.rl x g.2), (off x).2 (.inr g.2)⟩
 ·rcases (off x).1 h1 with g | g
  ·rcases h.clo x y hx hy g h2 with k | k
   ·exact .inl ((off y).2 (.inl k))
   ·exact .inl ((off y).2 (.inr k))
  ·cases hy' : L'.testBit y with
   | false => exact .inl rfl
   | true => exact .inr ((hR y).2 ⟨hy', x, g, h2⟩)
 ·obtain ⟨c, c1, c2, c3⟩ := h.fit hc
  refine ⟨c, c1, fun x hx hl => ?_, fun x hx => ?_⟩
  ·rw [hS x]
   rcases (off x).1 hl with g | g
   ·rw [c2 x hx g]
    exact ⟨fun k => k.elim id fun k => (by have := h.rl x k.2; rw [g] at this; cases this), .inl⟩
   ·have e := c3 x g
    constructor
    ·rintro (k | k)
     ·have := (h.sl x k).2; rw [h.rl x g] at this; cases this
     ·rw [e]; exact k.1
    ·intro k; exact .inr ⟨by rw [<- e]; exact k, g⟩
  ·obtain ⟨k1, q, q1, q2⟩ := (hR x).1 hx
   have hxn := h.ln x ((hL x).1 k1).1
   have hqn := h.ln q (h.rl q q1)
   have := c1 q x hqn hxn q2
   rw [c3 q q1] at this
   revert this
   cases c x <;> cases ev <;> simp
theorem SideI.done {S L R : Nat} {ev : Bool} (h : SideI n J S L R ev) (hL : L = 0) : (∃ c, Two n J c) -> Two n J S.testBit := fun hc => by
 obtain ⟨c, c1, c2, _⟩ := h.fit hc
 intro x y hx hy hj e
 subst hL
 have h1 := c2 x hx (by simp)
 have h2 := c2 y hy (by simp)
 refine c1 x y hx hy hj ?_
 rw [e] at h1
 have := h1.symm.trans h2
 cases hx : c x <;> cases hy : c y <;> simp_all
end
end Go.Proofs.YtdpnplanohgecaaDoor