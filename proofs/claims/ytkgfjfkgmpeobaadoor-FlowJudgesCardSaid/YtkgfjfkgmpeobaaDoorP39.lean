import Derived.Test.YtkgfjfkgmpeobaaDoorP38
import Derived.Test.YtkgfjfkgmpeobaaDoorEngRe
set_option linter.unusedSimpArgs false
set_option linter.unusedVariables false
set_option linter.unusedSectionVars false
open Go Go.Eng
namespace Go.Proofs.YtkgfjfkgmpeobaaDoor
attribute [local congr] undef_congr WpK.congr WpS.congr WpL.congr WpC.congr WpF.congr gotS.congr callS.congr nextS.congr wantS.congr condS.congr
attribute [local irreducible] WpK
attribute [local simp] WpDr_nil WpDr_cons atS_some dwantS_true dwantS_false kindS_light kindS_float kindS_heavy lightS_value floatS_some heavyS_value heavyS_skip heavyS_enter dcallS_some doneS_eq
  isLight isFloat isPlain dLook testBit_dec dChain dLights_nil dLights_skip dLights_one dLight_nil dLight_cons dFreshes_nil dFreshes_one oneF_none oneF_some dFresh_nil dFresh_cons oneL_some oneW_true oneW_false sameV_value dPut dMay valEq arrEq listEq List.getElem?_cons Tr.get_nil dEnd
attribute [local simp] WpS_nil WpS_cons isDefer undef_false wantS_true wantS_false nextS_value nextS_skip nextS_enter callS_some gotS_some aWanted aOp aEvalF aEval opMove opAssign opPick aVal flat flat1 AAct.put opBinOp opConvert opIndex Tr.get_set Tr.get_lay aBin aResults tupled
  aCall aVals aCallB blt_dec ble_dec beq_dec aBinI_add aBinI_sub aBinI_lss aBinI_leq aBinI_gtr aBinI_geq aBinI_eql aBinI_neq index_str len_str len_slice Nat.beq_refl und2 und3 und4 und5 und39 und76 und82 und115 und22 und29 und25 und33 und46 und43 und49 und111 und113 field151 field155_0 field155_1 field155_2 field155_3 field155_4
  field78 field106 field24 field31 field27 field35 field108 field109 opBox opLoad opFieldAddr opIndexAddr acells aAddr opExtract aExtract opUnOp opAlloc opStore opMakeInterface opNilCheck opBuild aParts opBuildSlice aValW
set_option maxHeartbeats 4000000
set_option linter.unusedSimpArgs false
set_option linter.unusedVariables false
theorem und126 : T0.und.get 126 = some (.array 24 2) := by kernel_rfl
theorem inf126 : T0.info.get 126 = some Tryd.t126 := by kernel_rfl
theorem is126 : Tryd.t126.size = 24 := by kernel_rfl
theorem agg126 : isAggD (.array 24 2) = true := rfl
def zeros24 : List Int := List.replicate 24 0
theorem zeros24_len : zeros24.length = 24 := rfl
theorem zero126 : aZero T0 126 = some (.agg ⟨intsV (zeros24)⟩) := by kernel_rfl
theorem build126 : aBuild T0 126 [] = some (.agg ⟨intsV (zeros24)⟩) := by kernel_rfl
theorem ix126 (p o q : Nat) (hq : q < 24) : aIndexAddr T0 126 (.pointer (some ⟨p, o, none⟩)) (.int .i64 (q : Nat)) = some (.pointer (some ⟨p, o + q, none⟩)) := by
  show aIndexAddr T0 126 (.pointer (some ⟨p, o, none⟩)) (.int .i64 (Int.ofNat q)) = _
  simp only [aIndexAddr, und126, sz2, blt_dec, hq, decide_true, Nat.mul_one]
theorem key1_int (k : IntKind) (a b : Int) : key1Eq (.int k a) (.int k b) = decide (a = b) := by
  cases a with
  | ofNat x =>
    cases b with
    | ofNat y =>
      show Nat.beq x y = decide (Int.ofNat x = Int.ofNat y)
      by_cases h : x = y
      · subst h; rw [Nat.beq_refl]; simp
      · have hb : Nat.beq x y = false := by
          cases hb : Nat.beq x y with
          | false => rfl
          | true => exact absurd (Nat.eq_of_beq_eq_true hb) h
        rw [hb, eq_comm, decide_eq_false_iff_not]
        exact fun e => h (Int.ofNat.inj e)
    | negSucc y => rfl
  | negSucc x => cases b <;> rfl
theorem keys_ints : ∀ (l m : List Int), keysEq (intsV l) (intsV m) = decide (l = m)
  | [], [] => rfl
  | [], _ :: _ => rfl
  | _ :: _, [] => rfl
  | a :: l, b :: m => by
    show (match key1Eq (.int .i64 a) (.int .i64 b) with | true => keysEq (intsV l) (intsV m) | false => false) = _
    rw [key1_int, keys_ints l m]
    by_cases h : a = b
    · subst h; simp
    · simp [h]
theorem intsV_len (l : List Int) : (intsV l).length = l.length := by simp [intsV]
theorem intsV_get {l : List Int} {i : Nat} {x : Int} (h : l[i]? = some x) : (intsV l)[i]? = some (.int .i64 x) := by simp [intsV, h]
theorem key126 {l : List Int} (h : l.length = 24) : keyOk T0 126 (.agg ⟨intsV l⟩) = true := by
  have ha : allB (isKey1 (.int .i64)) (intsV l) = true := by
    have : ∀ l : List Int, allB (isKey1 (.int .i64)) (intsV l) = true := fun l => by
      induction l with
      | nil => rfl
      | cons a l ih =>
        show (match isKey1 (.int .i64) (.int .i64 a) with | true => allB (isKey1 (.int .i64)) (intsV l) | false => false) = true
        rw [show isKey1 (.int .i64) (.int .i64 a) = true from rfl]; exact ih
    exact this l
  have hn : Nat.beq (intsV l).length 24 = true := by rw [intsV_len, h]; exact Nat.beq_refl 24
  simp only [keyOk, und126, und2, inf2, is2, Nat.beq_refl, hn, ha]
theorem neq126 {l m : List Int} (hl : l.length = 24) (hm : m.length = 24) : aAgg T0 .neq 126 (.agg ⟨intsV l⟩) (.agg ⟨intsV m⟩) = some (.bool (!decide (l = m))) := by
  simp only [aAgg, und126, und2, key126 hl, key126 hm]
  show some (Value.bool (!keysEq (intsV l) (intsV m))) = _
  rw [keys_ints]
def net1 (p : Nat) (q : Tri × Int) : Int := (if q.1.1 = p then q.2 else 0) - (if q.1.2.1 = p then q.2 else 0)
def netZ (z : List (Tri × Int)) (p : Nat) : Int := (z.map (net1 p)).sum
theorem netZ_snoc (z : List (Tri × Int)) (q : Tri × Int) (p : Nat) : netZ (z ++ [q]) p = netZ z p + net1 p q := by simp [netZ]
theorem netZ_le : ∀ (z : List (Tri × Int)) (p : Nat), (∀ q ∈ z, 0 ≤ q.2 ∧ q.2 ≤ 1000000000) → - (z.length * 1000000000 : Int) ≤ netZ z p ∧ netZ z p ≤ z.length * 1000000000
  | [], p, _ => by simp [netZ]
  | q :: z, p, h => by
    have h1 := netZ_le z p (fun x hx => h x (List.mem_cons_of_mem _ hx))
    have h2 := h q (List.mem_cons_self ..)
    have e : netZ (q :: z) p = net1 p q + netZ z p := by simp [netZ]
    have : -1000000000 ≤ net1 p q ∧ net1 p q ≤ 1000000000 := by unfold net1; split <;> split <;> omega
    rw [e, List.length_cons]
    omega
def capsOk (z : List (Tri × Int)) : Prop := ∀ q ∈ z, 0 ≤ q.2 ∧ q.2 ≤ q.1.2.2
def isFl (P s t : Nat) (l : List Tri) (fl : List Int) : Prop := fl.length = l.length ∧ capsOk (l.zip fl) ∧ ∀ p : Nat, p < P → p ≠ s → p ≠ t → netZ (l.zip fl) p = 0
def netL (z : List (Tri × Int)) : List Int := (List.range 24).map (netZ z)
theorem netL_get (z : List (Tri × Int)) {p : Nat} (hp : p < 24) : (netL z)[p]? = some (netZ z p) := by simp [netL, List.getElem?_range hp]
theorem netL_len (z : List (Tri × Int)) : (netL z).length = 24 := by simp [netL]
theorem zip_snoc {l : List Tri} {fl : List Int} {i : Nat} {a : Tri} {x : Int} (ha : l[i]? = some a) (hx : fl[i]? = some x) : (l.zip fl).take (i + 1) = (l.zip fl).take i ++ [(a, x)] := by
  have : (l.zip fl)[i]? = some (a, x) := by rw [List.getElem?_zip_eq_some]; exact ⟨ha, hx⟩
  rw [List.take_add_one, this]; rfl
theorem netL_snoc (z : List (Tri × Int)) (q : Tri × Int) {f g : Nat} (hf : q.1.1 = f) (hg : q.1.2.1 = g) (hfg : f ≠ g) (hf24 : f < 24) (hg24 : g < 24) :
    netL (z ++ [q]) = ((netL z).set f (netZ z f + q.2)).set g (netZ z g - q.2) := by
  apply List.ext_getElem?
  intro p
  by_cases hp : p < 24
  · rw [netL_get _ hp, netZ_snoc]
    by_cases e1 : p = g
    · subst e1
      rw [List.getElem?_set_self (by rw [List.length_set, netL_len]; exact hp)]
      congr 1
      unfold net1
      rw [if_neg (by omega), if_pos hg]; omega
    · rw [List.getElem?_set_ne (fun x => e1 x.symm)]
      by_cases e2 : p = f
      · subst e2
        rw [List.getElem?_set_self (by rw [netL_len]; exact hp)]
        congr 1
        unfold net1
        rw [if_pos hf, if_neg (by omega)]; omega
      · rw [List.getElem?_set_ne (fun x => e2 x.symm), netL_get _ hp]
        congr 1
        unfold net1
        rw [if_neg (by omega), if_neg (by omega)]; omega
  · rw [List.getElem?_eq_none (by rw [netL_len]; omega), List.getElem?_eq_none (by simp [netL_len]; omega)]
theorem set_ints (l : List Int) (i : Nat) (x : Int) (hi : i < l.length) : (intsV l).take i ++ [.int .i64 x] ++ (intsV l).drop (i + 1) = intsV (l.set i x) := by
  simp only [intsV, List.map_set]
  rw [List.set_eq_take_append_cons_drop, if_pos (by simpa using hi)]
  simp
theorem netZ_out : ∀ (z : List (Tri × Int)) (P p : Nat), (∀ q ∈ z, q.1.1 < P ∧ q.1.2.1 < P) → P ≤ p → netZ z p = 0
  | [], _, _, _, _ => rfl
  | q :: z, P, p, h, hp => by
    have h1 := netZ_out z P p (fun x hx => h x (List.mem_cons_of_mem _ hx)) hp
    have h2 := h q (List.mem_cons_self ..)
    have e : netZ (q :: z) p = net1 p q + netZ z p := by simp [netZ]
    rw [e, h1]; unfold net1; rw [if_neg (by omega), if_neg (by omega)]; rfl
theorem zero_iff {z : List (Tri × Int)} {P s t : Nat} (hz : ∀ q ∈ z, q.1.1 < P ∧ q.1.2.1 < P) (hP : P ≤ 24) (hs : s < P) (ht : t < P) : (((netL z).set s 0).set t 0 = zeros24) ↔ ∀ p : Nat, p < P → p ≠ s → p ≠ t → netZ z p = 0 := by
  constructor
  · intro h p hp hps hpt
    have e := congrArg (fun l : List Int => l[p]?) h
    rw [zeros24, List.getElem?_set_ne (fun x => hpt x.symm), List.getElem?_set_ne (fun x => hps x.symm), netL_get _ (by omega), List.getElem?_replicate, if_pos (by omega)] at e
    simpa using e
  · intro h
    apply List.ext_getElem?
    intro p
    rw [zeros24, List.getElem?_replicate]
    by_cases hp : p < 24
    · rw [if_pos hp]
      by_cases e1 : p = t
      · subst e1; rw [List.getElem?_set_self (by rw [List.length_set, netL_len]; exact hp)]
      · rw [List.getElem?_set_ne (fun x => e1 x.symm)]
        by_cases e2 : p = s
        · subst e2; rw [List.getElem?_set_self (by rw [netL_len]; exact hp)]
        · rw [List.getElem?_set_ne (fun x => e2 x.symm), netL_get _ hp]
          by_cases hpP : p < P
          · rw [h p hpP e2 e1]
          · rw [netZ_out z P p hz (by omega)]
    · rw [if_neg hp, List.getElem?_eq_none (by simp [netL_len]; omega)]
theorem isFlow_wp {W : AW} {v fv : Value} {P s t : Nat} {l : List Tri} {fl : List Int} (h : TriIn W v l) (hF : IntL W fv fl) (hok : planOk P (arcsQ l) = true) (hst : two? s t P = true) :
    WpF T0 22 [.agg ⟨[.int .i64 P, v]⟩, .int .i64 s, .int .i64 t, fv] W (fun u W' => Ext W W' ∧ ((isFl P s t l fl ∧ u = .tuple ⟨[.int .i64 (netZ (l.zip fl) s), .bool true]⟩) ∨ (¬ isFl P s t l fl ∧ u = .tuple ⟨[.int .i64 0, .bool false]⟩))) := by
  obtain ⟨Av, cv, rfl, hA⟩ := h
  obtain ⟨Af, cf, rfl, hB⟩ := hF
  have hpl := netPlan (netIn (P := (P : Int)) (W := W) (v := .slice Av l.length cv) ⟨Av, cv, rfl, hA⟩)
  obtain ⟨hP2, hP24, h200⟩ := (arcsQ_in hok).size
  have hql : (arcsQ l).length = l.length := by simp [arcsQ]
  rw [hql] at h200
  have hst' := hst
  simp only [two?, Bool.and_eq_true, decide_eq_true_eq] at hst'
  have hee : chkE P (arcsQ l) s t = 0 := by simp only [chkE, hok, endE, hst, if_true]
  have hc := checkEnds_wp hpl s t
  rw [hee] at hc
  refine wpF fun22 rfl ?_
  obtain ⟨W0, hW0, hE0, hn0, hV0⟩ : ∃ W0, W0 = W.newCells 31 [.int .i64 P, .slice Av l.length cv] ∧ Ext W W0 ∧ W0.next = W.next + 1 ∧ Var W0 W.next 31 [.int .i64 P, .slice Av l.length cv] := ⟨_, rfl, .newCells _ _ _, rfl, Var.new _ _ _⟩
  rw [← hW0] at hc
  have l1 : ∀ W', Ext W0 W' → aLoadVar T0 W' 29 W.next 1 = some (.slice Av l.length cv) := fun W' h => (hV0.ext h).load1 (T := T0) und29 rfl (j := 1) (v := .slice Av l.length cv) rfl
  try simp only [wpK_assoc]
  refine wpK_reg (fun R hR => by simp [← hW0]; exact hR) ?_
  by_cases hlen : fl.length = l.length
  case neg =>
    have hlen' : ¬ (fl.length : Int) = (l.length : Int) := by omega
    try simp only [wpK_assoc]
    refine wpK_x0 (fun R hR => by
        simp [aEnter, fun52, short_other, aCallV]; rw [callS_none]
        refine (hc).mono ?_
        rintro _ W1 ⟨hE1, rfl⟩
        simp [len_slice und43, len_slice und29, l1, hE1, hlen']; exact hR W1 hE1) ?_
    rintro W1 hE1
    try simp only [wpK_assoc]
    first | refine wpK_onT (by simp []) ?_ | refine wpK_outT (by simp []) ?_ | refine wpK_condT (by simp []) ?_ | refine wpK_endT (by simp []) ?_
    try simp only [wpK_assoc]
    refine wpK_reg (fun R hR => by simp []; exact hR) ?_
    exact wpK_ret ⟨.inr rfl, rfl, [.int .i64 0, .bool false], by simp, hE0.trans hE1, .inr ⟨fun hf => hlen hf.1, rfl⟩⟩
  try simp only [wpK_assoc]
  refine wpK_x0 (fun R hR => by
      simp [aEnter, fun52, short_other, aCallV]; rw [callS_none]
      refine (hc).mono ?_
      rintro _ W1 ⟨hE1, rfl⟩
      simp [len_slice und43, len_slice und29, l1, hE1, hlen]; exact hR W1 hE1) ?_
  rintro W1 hE1
  try simp only [wpK_assoc]
  first | refine wpK_onF (by simp []) ?_ | refine wpK_out (by simp []) ?_ | refine wpK_condF (by simp []) ?_ | refine wpK_endF (by simp []) (wpK_skip ?_) | refine wpK_endF (by simp []) ?_
  obtain ⟨W2, hW2, hE2, hVo⟩ : ∃ W2, W2 = W1.newCells 126 (intsV (zeros24)) ∧ Ext W1 W2 ∧ Var W2 W1.next 126 (intsV (zeros24)) := ⟨_, rfl, .newCells _ _ _, Var.new _ _ _⟩
  try simp only [wpK_assoc]
  refine wpK_reg (fun R hR => by simp [zero126, ← hW2]; exact hR) ?_
  try simp only [wpK_assoc]
  refine wpK_reg (fun R hR => by simp [len_slice und43]; exact hR) ?_
  have n1 := hE1.1
  have n2 := hVo.1
  obtain ⟨bo, hbo⟩ : ∃ b, b = W1.next := ⟨_, rfl⟩
  rw [← hbo] at hVo
  have hzl : (l.zip fl).length = l.length := by rw [List.length_zip]; omega
  try simp only [wpK_assoc]
  refine wpK_while (I := fun k A W' => A.n = 79 ∧ A.defers = [] ∧ A.tmps.get 1 = some (.int .i64 s) ∧ A.tmps.get 2 = some (.int .i64 t) ∧ A.tmps.get 4 = some (.pointer (some ⟨W.next, 0, none⟩)) ∧ A.tmps.get 10 = some (.pointer (some ⟨bo, 0, none⟩)) ∧ A.tmps.get 26 = some (.slice Af fl.length cf) ∧ A.tmps.get 27 = some (.int .i64 l.length) ∧ Ext W0 W' ∧ ∃ i : Nat, k = l.length - i ∧ i ≤ l.length ∧ A.tmps.get 28 = some (.int .i64 i) ∧ Var W' bo 126 (intsV (netL ((l.zip fl).take i))) ∧ capsOk ((l.zip fl).take i))
    (J := fun A W' => A.n = 79 ∧ A.defers = [] ∧ A.tmps.get 1 = some (.int .i64 s) ∧ A.tmps.get 2 = some (.int .i64 t) ∧ A.tmps.get 4 = some (.pointer (some ⟨W.next, 0, none⟩)) ∧ A.tmps.get 10 = some (.pointer (some ⟨bo, 0, none⟩)) ∧ A.tmps.get 26 = some (.slice Af fl.length cf) ∧ A.tmps.get 27 = some (.int .i64 l.length) ∧ Ext W0 W' ∧ Var W' bo 126 (intsV (netL (l.zip fl))) ∧ capsOk (l.zip fl))
    (Rt := fun A W' => A.defers = [] ∧ A.tmps.get 8 = some (.int .i64 0) ∧ A.tmps.get 9 = some (.bool false) ∧ Ext W0 W' ∧ ¬ capsOk (l.zip fl)) (k := l.length) ?_ ?_ ?_ ?_
  · exact ⟨rfl, rfl, by simp [hbo, hlen], by simp [hbo, hlen], by simp [hbo, hlen], by simp [hbo, hlen], by simp [hbo, hlen], by simp [hbo, hlen], hE1.trans hE2, 0, by simp, by simp, by simp, hVo, fun q hq => by simp at hq⟩
  · rintro k ⟨tm, n, ds⟩ W3 ⟨hn, hd, h1, h2, h4, h10, h26, h27, hE3, i, hk, hi, h28, hV3, hcaps⟩ Q' hJ hRt hI
    simp only at hn hd h1 h2 h4 h10 h26 h27
    subst hn; subst hd
    simp only at h28
    try simp only [wpK_assoc]
    refine wpK_reg (fun R hR => by simp [h27, h28]; exact hR) ?_
    by_cases hlt : i < l.length
    · try simp only [wpK_assoc]
      first | refine wpK_onT (by simp [hlt]) ?_ | refine wpK_outT (by simp [hlt]) ?_ | refine wpK_condT (by simp [hlt]) ?_ | refine wpK_endT (by simp [hlt]) ?_
      have ha : l[i]? = some l[i] := List.getElem?_eq_getElem hlt
      have hx : fl[i]? = some (fl[i]'(by omega)) := List.getElem?_eq_getElem (by omega)
      have hmem : l[i] ∈ l := List.getElem_mem hlt
      generalize l[i] = a at ha hmem
      generalize fl[i]'_ = x at hx
      have hst1 := (arcsQ_in hok).step (a := (a.1, a.2.1, a.2.2, 0)) (by simp only [arcsQ, List.mem_map]; exact ⟨a, hmem, rfl⟩)
      have hzs := zip_snoc ha hx
      obtain ⟨a1, a2, a3⟩ := a
      simp only at hst1
      obtain ⟨f, rfl⟩ : ∃ f : Nat, a1 = f := ⟨a1.toNat, by omega⟩
      obtain ⟨g, rfl⟩ : ∃ g : Nat, a2 = g := ⟨a2.toNat, by omega⟩
      obtain ⟨b, o, rfl, q1, q2, q3⟩ := hA i _ ha
      obtain ⟨b', o', rfl, q4⟩ := hB i _ hx
      have eF := indexAddr_slice (T := T0) und43 sz2 (b := b') (o := o') (c := cf) (k := .i64) (show i < fl.length by omega)
      rw [Nat.mul_one] at eF
      have eV := indexAddr_tri (T := T0) und29 sz106 (b := b) (o := o) (c := cv) (k := .i64) hlt
      have lF : ∀ W', Ext W0 W' → aLoadVar T0 W' 2 b' (o' + i) = some (.int .i64 x) := fun W' h => load_of und2 rfl (q4.ext (hE0.trans h))
      have la1 : ∀ W', Ext W0 W' → aLoadVar T0 W' 3 b (o + 3 * i) = some (.int .i64 f) := fun W' h => load_of und3 rfl (q1.ext (hE0.trans h))
      have la2 : ∀ W', Ext W0 W' → aLoadVar T0 W' 3 b (o + 3 * i + 1) = some (.int .i64 g) := fun W' h => load_of und3 rfl (q2.ext (hE0.trans h))
      have la3 : ∀ W', Ext W0 W' → aLoadVar T0 W' 2 b (o + 3 * i + 2) = some (.int .i64 a3) := fun W' h => load_of und2 rfl (q3.ext (hE0.trans h))
      refine wpK_block ?_
      try simp only [wpK_assoc]
      refine wpK_reg (fun R hR => by simp [h26, h28, eF, lF, hE3]; exact hR) ?_
      have bad : ¬ (0 ≤ x ∧ x ≤ a3) → ¬ capsOk (l.zip fl) := fun hb hc => hb (hc ((f, g, a3), x) (List.mem_of_getElem? (i := i) (by rw [List.getElem?_zip_eq_some]; exact ⟨ha, hx⟩)))
      by_cases g1 : x < 0
      · try simp only [wpK_assoc]
        refine wpK_reg (fun R hR => by simp [g1]; exact hR) ?_
        try simp only [wpK_assoc]
        first | refine wpK_onT (by simp []) ?_ | refine wpK_outT (by simp []) ?_ | refine wpK_condT (by simp []) ?_ | refine wpK_endT (by simp []) ?_
        try simp only [wpK_assoc]
        refine wpK_reg (fun R hR => by simp []; exact hR) ?_
        exact wpK_ret (hRt _ _ ⟨rfl, by simp, by simp, hE3, bad (by omega)⟩)
      by_cases g2 : a3 < x
      · try simp only [wpK_assoc]
        refine wpK_reg (fun R hR => by simp [h4, g1, g2, l1, hE3, eV, la3]; exact hR) ?_
        try simp only [wpK_assoc]
        first | refine wpK_onT (by simp []) ?_ | refine wpK_outT (by simp []) ?_ | refine wpK_condT (by simp []) ?_ | refine wpK_endT (by simp []) ?_
        try simp only [wpK_assoc]
        refine wpK_reg (fun R hR => by simp []; exact hR) ?_
        exact wpK_ret (hRt _ _ ⟨rfl, by simp, by simp, hE3, bad (by omega)⟩)
      try simp only [wpK_assoc]
      refine wpK_reg (fun R hR => by simp [h4, g1, g2, l1, hE3, eV, la3]; exact hR) ?_
      try simp only [wpK_assoc]
      first | refine wpK_onF (by simp []) ?_ | refine wpK_out (by simp []) ?_ | refine wpK_condF (by simp []) ?_ | refine wpK_endF (by simp []) (wpK_skip ?_) | refine wpK_endF (by simp []) ?_
      have hbz : ∀ q ∈ (l.zip fl).take i, 0 ≤ q.2 ∧ q.2 ≤ 1000000000 := fun q hq => by
        have h1 := hcaps q hq
        have hm := (List.of_mem_zip (List.mem_of_mem_take hq)).1
        have := (arcsQ_in hok).step (a := (q.1.1, q.1.2.1, q.1.2.2, 0)) (by simp only [arcsQ, List.mem_map]; exact ⟨q.1, hm, rfl⟩)
        simp only at this
        omega
      have hzb := fun p => netZ_le ((l.zip fl).take i) p hbz
      have hzt : ((l.zip fl).take i).length = i := by rw [List.length_take, hzl]; omega
      rw [hzt] at hzb
      have hbf := hzb f
      have hbg := hzb g
      have hL24 := netL_len ((l.zip fl).take i)
      have hsn := netL_snoc ((l.zip fl).take i) ((f, g, a3), x) (f := f) (g := g) rfl rfl (by omega) (by omega) (by omega)
      rw [← hzs] at hsn
      have w1 : IntKind.i64.wrap (netZ ((l.zip fl).take i) f + x) = netZ ((l.zip fl).take i) f + x := IntWalk.i64_in _ (by omega)
      have w2 : IntKind.i64.wrap (netZ ((l.zip fl).take i) g - x) = netZ ((l.zip fl).take i) g - x := IntWalk.i64_in _ (by omega)
      have lo := hV3.load1 (T := T0) und2 rfl (j := f) (v := .int .i64 (netZ ((l.zip fl).take i) f)) (intsV_get (netL_get _ (by omega)))
      obtain ⟨W4, s1, s2, s3, s4⟩ := hV3.store (T := T0) (t := 2) (v := .int .i64 (netZ ((l.zip fl).take i) f + x)) (o := f) inf2 (by rw [is2]; rfl) (by rw [intsV_len, hL24]; show f + 1 ≤ 24; omega) rfl
      have s4 : Var W4 bo 126 ((intsV (netL ((l.zip fl).take i))).take f ++ [.int .i64 (netZ ((l.zip fl).take i) f + x)] ++ (intsV (netL ((l.zip fl).take i))).drop (f + 1)) := s4
      rw [set_ints _ _ _ (by omega)] at s4
      have n3 := hE3.1
      have hE4 : Ext W0 W4 := ⟨by omega, fun b hb hk => by rw [s3.2 b (by omega) (by omega)]; exact hE3.2 b hb hk⟩
      have i1 := ix126 bo 0 f (by omega)
      have i2 := ix126 bo 0 g (by omega)
      have lo2 := s4.load1 (T := T0) und2 rfl (j := g) (v := .int .i64 (netZ ((l.zip fl).take i) g)) (intsV_get (by rw [List.getElem?_set_ne (by omega)]; exact netL_get _ (by omega)))
      obtain ⟨W5, t1, t2, t3, t4⟩ := s4.store (T := T0) (t := 2) (v := .int .i64 (netZ ((l.zip fl).take i) g - x)) (o := g) inf2 (by rw [is2]; rfl) (by rw [intsV_len, List.length_set, hL24]; show g + 1 ≤ 24; omega) rfl
      have t4 : Var W5 bo 126 ((intsV ((netL ((l.zip fl).take i)).set f (netZ ((l.zip fl).take i) f + x))).take g ++ [.int .i64 (netZ ((l.zip fl).take i) g - x)] ++ (intsV ((netL ((l.zip fl).take i)).set f (netZ ((l.zip fl).take i) f + x))).drop (g + 1)) := t4
      rw [set_ints _ _ _ (by rw [List.length_set]; omega), ← hsn] at t4
      have hE5 : Ext W0 W5 := ⟨by omega, fun b hb hk => by rw [t3.2 b (by omega) (by omega)]; exact hE4.2 b hb hk⟩
      try simp only [wpK_assoc]
      refine wpK_reg (fun R hR => by simp [h4, h10, l1, hE3, eV, la1, i1, lo, w1, s1]; exact hR) ?_
      try simp only [wpK_assoc]
      refine wpK_reg1 (fun R hR => by simp [h4, h10, l1, hE4, eV, la2, i2, lo2, w2, t1]; exact hR) ?_
      try simp only [wpK_assoc]
      refine wpK_reg1 (fun R hR => by simp [h28]; exact hR) ?_
      refine hI (k - 1) _ _ (by omega) ⟨rfl, rfl, by simp [h1, h2, h4, h10, h26, h27], by simp [h1, h2, h4, h10, h26, h27], by simp [h1, h2, h4, h10, h26, h27], by simp [h1, h2, h4, h10, h26, h27], by simp [h1, h2, h4, h10, h26, h27], by simp [h1, h2, h4, h10, h26, h27], hE5, i + 1, by omega, by omega, by simp; exact i64_succ i (by omega), t4, ?_⟩
      rw [hzs]
      intro q hq
      rcases List.mem_append.1 hq with hq | hq
      · exact hcaps q hq
      · simp at hq; subst hq; exact ⟨by omega, by simp only; omega⟩
    · have e : i = l.length := by omega
      subst e
      rw [← hzl, List.take_length] at hV3 hcaps
      try simp only [wpK_assoc]
      first | refine wpK_onF (by simp []) ?_ | refine wpK_out (by simp []) ?_ | refine wpK_condF (by simp []) ?_ | refine wpK_endF (by simp []) (wpK_skip ?_) | refine wpK_endF (by simp []) ?_
      exact hJ _ _ ⟨rfl, rfl, by simp [h1, h2, h4, h10, h26, h27], by simp [h1, h2, h4, h10, h26, h27], by simp [h1, h2, h4, h10, h26, h27], by simp [h1, h2, h4, h10, h26, h27], by simp [h1, h2, h4, h10, h26, h27], by simp [h1, h2, h4, h10, h26, h27], hE3, hV3, hcaps⟩
  · rintro A' W' ⟨g1, g2, g3, g4, g5⟩
    exact ⟨.inr rfl, g1, [.int .i64 0, .bool false], by simp [g2, g3], hE0.trans g4, .inr ⟨fun hf => g5 hf.2.1, rfl⟩⟩
  rintro ⟨tm, n, ds⟩ W3 ⟨hn, hd, h1, h2, h4, h10, h26, h27, hE3, hV3, hcaps⟩
  simp only at hn hd h1 h2 h4 h10 h26 h27
  subst hn; subst hd
  have hzP : ∀ q ∈ l.zip fl, q.1.1 < P ∧ q.1.2.1 < P := fun q hq => by
    have hm := (List.of_mem_zip hq).1
    have := (arcsQ_in hok).step (a := (q.1.1, q.1.2.1, q.1.2.2, 0)) (by simp only [arcsQ, List.mem_map]; exact ⟨q.1, hm, rfl⟩)
    simp only at this
    omega
  have hL24 := netL_len (l.zip fl)
  have i1 := ix126 bo 0 s (by omega)
  have i2 := ix126 bo 0 t (by omega)
  have lo := hV3.load1 (T := T0) und2 rfl (j := s) (v := .int .i64 (netZ (l.zip fl) s)) (intsV_get (netL_get _ (by omega)))
  obtain ⟨W4, s1, s2, s3, s4⟩ := hV3.store (T := T0) (t := 2) (v := .int .i64 0) (o := s) inf2 (by rw [is2]; rfl) (by rw [intsV_len, hL24]; show s + 1 ≤ 24; omega) rfl
  have s4 : Var W4 bo 126 ((intsV (netL (l.zip fl))).take s ++ [.int .i64 0] ++ (intsV (netL (l.zip fl))).drop (s + 1)) := s4
  rw [set_ints _ _ _ (by omega)] at s4
  obtain ⟨W5, t1, t2, t3, t4⟩ := s4.store (T := T0) (t := 2) (v := .int .i64 0) (o := t) inf2 (by rw [is2]; rfl) (by rw [intsV_len, List.length_set, hL24]; show t + 1 ≤ 24; omega) rfl
  have t4 : Var W5 bo 126 ((intsV ((netL (l.zip fl)).set s 0)).take t ++ [.int .i64 0] ++ (intsV ((netL (l.zip fl)).set s 0)).drop (t + 1)) := t4
  rw [set_ints _ _ _ (by rw [List.length_set]; omega)] at t4
  have n3 := hE3.1
  have hE5 : Ext W0 W5 := ⟨by omega, fun b hb hk => by rw [t3.2 b (by omega) (by omega), s3.2 b (by omega) (by omega)]; exact hE3.2 b hb hk⟩
  have lw := t4.load (T := T0) (t := 126) und126 agg126 inf126 (by rw [is126, intsV_len, List.length_set, List.length_set, hL24])
  have hq := neq126 (l := ((netL (l.zip fl)).set s 0).set t 0) (m := zeros24) (by rw [List.length_set, List.length_set, hL24]) zeros24_len
  have hzi := zero_iff hzP (by omega) (show s < P by omega) (show t < P by omega)
  generalize ((netL (l.zip fl)).set s 0).set t 0 = LL at lw hq hzi
  try simp only [wpK_assoc]
  refine wpK_reg (fun R hR => by simp [h1, h10, i1, lo]; exact hR) ?_
  try simp only [wpK_assoc]
  refine wpK_reg (fun R hR => by simp [h1, h2, h10, i1, i2, s1, t1]; exact hR) ?_
  by_cases hz : LL = zeros24
  · have hfl : isFl P s t l fl := ⟨hlen, hcaps, hzi.1 hz⟩
    subst hz
    try simp only [wpK_assoc]
    refine wpK_reg (fun R hR => by simp [h10, lw, build126, hq]; exact hR) ?_
    try simp only [wpK_assoc]
    first | refine wpK_onF (by simp []) ?_ | refine wpK_out (by simp []) ?_ | refine wpK_condF (by simp []) ?_ | refine wpK_endF (by simp []) (wpK_skip ?_) | refine wpK_endF (by simp []) ?_
    try simp only [wpK_assoc]
    refine wpK_reg (fun R hR => by simp []; exact hR) ?_
    exact wpK_ret ⟨.inr rfl, rfl, [.int .i64 (netZ (l.zip fl) s), .bool true], by simp, hE0.trans hE5, .inl ⟨hfl, rfl⟩⟩
  · try simp only [wpK_assoc]
    refine wpK_reg (fun R hR => by simp [h10, lw, build126, hq, hz]; exact hR) ?_
    try simp only [wpK_assoc]
    first | refine wpK_onT (by simp []) ?_ | refine wpK_outT (by simp []) ?_ | refine wpK_condT (by simp []) ?_ | refine wpK_endT (by simp []) ?_
    try simp only [wpK_assoc]
    refine wpK_reg (fun R hR => by simp []; exact hR) ?_
    exact wpK_ret ⟨.inr rfl, rfl, [.int .i64 0, .bool false], by simp, hE0.trans hE5, .inr ⟨fun hf => hz (hzi.2 hf.2.2), rfl⟩⟩
end Go.Proofs.YtkgfjfkgmpeobaaDoor

open Go Go.Eng
namespace Go.Proofs.YtkgfjfkgmpeobaaDoor
attribute [local congr] undef_congr WpK.congr WpS.congr WpL.congr WpC.congr WpF.congr gotS.congr callS.congr nextS.congr wantS.congr condS.congr
attribute [local irreducible] WpK
attribute [local simp] WpDr_nil WpDr_cons atS_some dwantS_true dwantS_false kindS_light kindS_float kindS_heavy lightS_value floatS_some heavyS_value heavyS_skip heavyS_enter dcallS_some doneS_eq
  isLight isFloat isPlain dLook testBit_dec dChain dLights_nil dLights_skip dLights_one dLight_nil dLight_cons dFreshes_nil dFreshes_one oneF_none oneF_some dFresh_nil dFresh_cons oneL_some oneW_true oneW_false sameV_value dPut dMay valEq arrEq listEq List.getElem?_cons Tr.get_nil dEnd
attribute [local simp] WpS_nil WpS_cons isDefer undef_false wantS_true wantS_false nextS_value nextS_skip nextS_enter callS_some gotS_some aWanted aOp aEvalF aEval opMove opAssign opPick aVal flat flat1 AAct.put opBinOp opConvert opIndex Tr.get_set Tr.get_lay aBin aResults tupled
  aCall aVals aCallB blt_dec ble_dec beq_dec aBinI_add aBinI_sub aBinI_lss aBinI_leq aBinI_gtr aBinI_geq aBinI_eql aBinI_neq index_str len_str len_slice Nat.beq_refl und2 und3 und4 und5 und39 und76 und82 und115 und22 und29 und25 und33 und46 und43 und49 und111 und113 field151 field155_0 field155_1 field155_2 field155_3 field155_4
  field78 field106 field24 field31 field27 field35 field108 field109 opBox opLoad opFieldAddr opIndexAddr acells aAddr opExtract aExtract opUnOp opAlloc opStore opMakeInterface opNilCheck opBuild aParts opBuildSlice aValW
set_option maxHeartbeats 4000000
set_option linter.unusedSimpArgs false
set_option linter.unusedVariables false
def nearS (lv : Nat → Nat) : Nat → Nat
  | 0 => 0
  | n + 1 => if 0 < lv n then nearS lv n ||| 1 <<< n else nearS lv n
theorem nearS_bit (lv : Nat → Nat) (q : Nat) : ∀ n, (nearS lv n).testBit q = (decide (q < n) && decide (0 < lv q))
  | 0 => by simp [nearS]
  | n + 1 => by
    rw [nearS]
    by_cases h : 0 < lv n
    · rw [if_pos h, Nat.testBit_or, nearS_bit lv q n, one_bit]
      by_cases e : n = q
      · subst e; simp [-testBit_dec, h]
      · have : (q < n + 1) = (q < n) := propext ⟨fun _ => by omega, fun _ => by omega⟩
        simp only [this, decide_eq_false e, Bool.or_false]
    · rw [if_neg h, nearS_bit lv q n]
      by_cases e : n = q
      · subst e; simp [h]
      · have : (q < n + 1) = (q < n) := propext ⟨fun _ => by omega, fun _ => by omega⟩
        simp only [this]
theorem wpK_cut1 {T : Tabs} {cx : Cx} {c : Code} {A : AAct} {W : AW} {Q : AExit → AAct → AW → Prop} (J : AAct → AW → Prop) (h : ∀ Q' : AExit → AAct → AW → Prop, (∀ A' W', J A' W' → Q' .normal A' W') → WpK T cx c A W Q') (h2 : ∀ A' W', J A' W' → Q .normal A' W') : WpK T cx c A W Q := h Q h2
end Go.Proofs.YtkgfjfkgmpeobaaDoor

open Go Go.Eng
namespace Go.Proofs.YtkgfjfkgmpeobaaDoor
attribute [local congr] undef_congr WpK.congr WpS.congr WpL.congr WpC.congr WpF.congr gotS.congr callS.congr nextS.congr wantS.congr condS.congr
attribute [local irreducible] WpK
attribute [local simp] WpDr_nil WpDr_cons atS_some dwantS_true dwantS_false kindS_light kindS_float kindS_heavy lightS_value floatS_some heavyS_value heavyS_skip heavyS_enter dcallS_some doneS_eq
  isLight isFloat isPlain dLook testBit_dec dChain dLights_nil dLights_skip dLights_one dLight_nil dLight_cons dFreshes_nil dFreshes_one oneF_none oneF_some dFresh_nil dFresh_cons oneL_some oneW_true oneW_false sameV_value dPut dMay valEq arrEq listEq List.getElem?_cons Tr.get_nil dEnd
attribute [local simp] WpS_nil WpS_cons isDefer undef_false wantS_true wantS_false nextS_value nextS_skip nextS_enter callS_some gotS_some aWanted aOp aEvalF aEval opMove opAssign opPick aVal flat flat1 AAct.put opBinOp opConvert opIndex Tr.get_set Tr.get_lay aBin aResults tupled
  aCall aVals aCallB blt_dec ble_dec beq_dec aBinI_add aBinI_sub aBinI_lss aBinI_leq aBinI_gtr aBinI_geq aBinI_eql aBinI_neq index_str len_str len_slice Nat.beq_refl und2 und3 und4 und5 und39 und76 und82 und115 und22 und29 und25 und33 und46 und43 und49 und111 und113 field151 field155_0 field155_1 field155_2 field155_3 field155_4
  field78 field106 field24 field31 field27 field35 field108 field109 opBox opLoad opFieldAddr opIndexAddr acells aAddr opExtract aExtract opUnOp opAlloc opStore opMakeInterface opNilCheck opBuild aParts opBuildSlice aValW
set_option maxHeartbeats 4000000
set_option linter.unusedSimpArgs false
set_option linter.unusedVariables false
def dropLow (x : Nat) : Nat := x &&& (x - 1)
end Go.Proofs.YtkgfjfkgmpeobaaDoor

open Go Go.Eng
namespace Go.Proofs.YtkgfjfkgmpeobaaDoor
attribute [local congr] undef_congr WpK.congr WpS.congr WpL.congr WpC.congr WpF.congr gotS.congr callS.congr nextS.congr wantS.congr condS.congr
attribute [local irreducible] WpK
attribute [local simp] WpDr_nil WpDr_cons atS_some dwantS_true dwantS_false kindS_light kindS_float kindS_heavy lightS_value floatS_some heavyS_value heavyS_skip heavyS_enter dcallS_some doneS_eq
  isLight isFloat isPlain dLook testBit_dec dChain dLights_nil dLights_skip dLights_one dLight_nil dLight_cons dFreshes_nil dFreshes_one oneF_none oneF_some dFresh_nil dFresh_cons oneL_some oneW_true oneW_false sameV_value dPut dMay valEq arrEq listEq List.getElem?_cons Tr.get_nil dEnd
attribute [local simp] WpS_nil WpS_cons isDefer undef_false wantS_true wantS_false nextS_value nextS_skip nextS_enter callS_some gotS_some aWanted aOp aEvalF aEval opMove opAssign opPick aVal flat flat1 AAct.put opBinOp opConvert opIndex Tr.get_set Tr.get_lay aBin aResults tupled
  aCall aVals aCallB blt_dec ble_dec beq_dec aBinI_add aBinI_sub aBinI_lss aBinI_leq aBinI_gtr aBinI_geq aBinI_eql aBinI_neq index_str len_str len_slice Nat.beq_refl und2 und3 und4 und5 und39 und76 und82 und115 und22 und29 und25 und33 und46 und43 und49 und111 und113 field151 field155_0 field155_1 field155_2 field155_3 field155_4
  field78 field106 field24 field31 field27 field35 field108 field109 opBox opLoad opFieldAddr opIndexAddr acells aAddr opExtract aExtract opUnOp opAlloc opStore opMakeInterface opNilCheck opBuild aParts opBuildSlice aValW
set_option maxHeartbeats 4000000
set_option linter.unusedSimpArgs false
set_option linter.unusedVariables false
end Go.Proofs.YtkgfjfkgmpeobaaDoor

open Go Go.Eng
namespace Go.Proofs.YtkgfjfkgmpeobaaDoor
attribute [local congr] undef_congr WpK.congr WpS.congr WpL.congr WpC.congr WpF.congr gotS.congr callS.congr nextS.congr wantS.congr condS.congr
attribute [local irreducible] WpK
attribute [local simp] WpDr_nil WpDr_cons atS_some dwantS_true dwantS_false kindS_light kindS_float kindS_heavy lightS_value floatS_some heavyS_value heavyS_skip heavyS_enter dcallS_some doneS_eq
  isLight isFloat isPlain dLook testBit_dec dChain dLights_nil dLights_skip dLights_one dLight_nil dLight_cons dFreshes_nil dFreshes_one oneF_none oneF_some dFresh_nil dFresh_cons oneL_some oneW_true oneW_false sameV_value dPut dMay valEq arrEq listEq List.getElem?_cons Tr.get_nil dEnd
attribute [local simp] WpS_nil WpS_cons isDefer undef_false wantS_true wantS_false nextS_value nextS_skip nextS_enter callS_some gotS_some aWanted aOp aEvalF aEval opMove opAssign opPick aVal flat flat1 AAct.put opBinOp opConvert opIndex Tr.get_set Tr.get_lay aBin aResults tupled
  aCall aVals aCallB blt_dec ble_dec beq_dec aBinI_add aBinI_sub aBinI_lss aBinI_leq aBinI_gtr aBinI_geq aBinI_eql aBinI_neq index_str len_str len_slice Nat.beq_refl und2 und3 und4 und5 und39 und76 und82 und115 und22 und29 und25 und33 und46 und43 und49 und111 und113 field151 field155_0 field155_1 field155_2 field155_3 field155_4
  field78 field106 field24 field31 field27 field35 field108 field109 opBox opLoad opFieldAddr opIndexAddr acells aAddr opExtract aExtract opUnOp opAlloc opStore opMakeInterface opNilCheck opBuild aParts opBuildSlice aValW
set_option maxHeartbeats 4000000
set_option linter.unusedSimpArgs false
set_option linter.unusedVariables false
def capL (T : Nat) (L : List Stp) (rm : Nat → Int) : Nat → Int
  | 0 => 0
  | i + 1 => capL T L rm i + (if T.testBit (stp L i).a && !T.testBit (stp L i).b then rm (2 * i) else 0) + (if T.testBit (stp L i).b && !T.testBit (stp L i).a then rm (2 * i + 1) else 0)
def sumT (T : Nat) (g : Nat → Int) : Nat → Int
  | 0 => 0
  | n + 1 => sumT T g n + (if T.testBit n then g n else 0)
theorem sumT_add (T : Nat) (g h : Nat → Int) : ∀ n, sumT T (fun q => g q + h q) n = sumT T g n + sumT T h n
  | 0 => rfl
  | n + 1 => by
    rw [sumT, sumT, sumT, sumT_add T g h n]
    split <;> omega
theorem sumT_congr {T : Nat} {g h : Nat → Int} : ∀ {n : Nat}, (∀ q, q < n → g q = h q) → sumT T g n = sumT T h n
  | 0, _ => rfl
  | n + 1, he => by
    rw [sumT, sumT, sumT_congr (fun q hq => he q (by omega)), he n (by omega)]
theorem sumT_zero (T : Nat) : ∀ n, sumT T (fun _ => 0) n = 0
  | 0 => rfl
  | n + 1 => by rw [sumT, sumT_zero T n]; split <;> rfl
theorem sumT_one (T a : Nat) (f : Int) : ∀ n, sumT T (fun q => if a = q then f else 0) n = if a < n && T.testBit a then f else 0
  | 0 => by simp [sumT]
  | n + 1 => by
    rw [sumT, sumT_one T a f n]
    by_cases e : a = n
    · subst e
      cases T.testBit a <;> simp
    · have e1 : (a < n + 1) = (a < n) := propext ⟨fun _ => by omega, fun _ => by omega⟩
      simp only [e1, if_neg e]
      split <;> split <;> simp
def inner (T : Nat) (L : List Stp) (rm : Nat → Int) : Nat → Int
  | 0 => 0
  | i + 1 => inner T L rm i + (if T.testBit (stp L i).a && T.testBit (stp L i).b then rm (2 * i) + rm (2 * i + 1) else 0)
theorem sum_out {T : Nat} {L : List Stp} {rm : Nat → Int} (hL : StpsOk L) : ∀ i, i ≤ L.length → sumT T (fun q => outN L rm q i) 24 = capL T L rm i + inner T L rm i
  | 0, _ => by
    have : (fun q => outN L rm q 0) = fun _ => 0 := rfl
    rw [this, sumT_zero]; rfl
  | i + 1, hi => by
    have h1 := hL.ok i (by omega)
    have e : sumT T (fun q => outN L rm q (i + 1)) 24 = sumT T (fun q => outN L rm q i) 24 + sumT T (fun q => if (stp L i).a = q then rm (2 * i) else 0) 24 + sumT T (fun q => if (stp L i).b = q then rm (2 * i + 1) else 0) 24 := by
      rw [← sumT_add, ← sumT_add]
      refine sumT_congr (fun q _ => ?_)
      rw [outN, Int.add_assoc]
    rw [e, sum_out hL i (by omega), sumT_one, sumT_one, capL, inner]
    have e1 : decide ((stp L i).a < 24) = true := decide_eq_true h1.1
    have e2 : decide ((stp L i).b < 24) = true := decide_eq_true h1.2.1
    rw [e1, e2]
    cases T.testBit (stp L i).a <;> cases T.testBit (stp L i).b <;> simp <;> omega
theorem inner_congr {T : Nat} {L : List Stp} {rm rm' : Nat → Int} : ∀ {i : Nat}, (∀ y, y < i → rm (2 * y) + rm (2 * y + 1) = rm' (2 * y) + rm' (2 * y + 1)) → inner T L rm i = inner T L rm' i
  | 0, _ => rfl
  | i + 1, h => by rw [inner, inner, inner_congr (fun y hy => h y (by omega)), h i (by omega)]
theorem capL_nn {T : Nat} {L : List Stp} {rm : Nat → Int} : ∀ {i : Nat}, (∀ y, y < 2 * i → 0 ≤ rm y) → 0 ≤ capL T L rm i
  | 0, _ => by simp [capL]
  | i + 1, h => by
    have h1 := capL_nn (T := T) (L := L) (rm := rm) (i := i) (fun y hy => h y (by omega))
    have h2 := h (2 * i) (by omega)
    have h3 := h (2 * i + 1) (by omega)
    rw [capL]; split <;> split <;> omega
theorem capL_zero {T : Nat} {L : List Stp} {rm : Nat → Int} : ∀ {i : Nat}, (∀ y, y < 2 * i → 0 ≤ rm y) → (capL T L rm i = 0 ↔ ∀ y, y < 2 * i → T.testBit (hFrom L y) = true → T.testBit (hTo L y) = false → rm y = 0)
  | 0, _ => by simp [capL]
  | i + 1, h => by
    have h0 := capL_nn (T := T) (L := L) (rm := rm) (i := i) (fun y hy => h y (by omega))
    have h1 := capL_zero (T := T) (L := L) (rm := rm) (i := i) (fun y hy => h y (by omega))
    have h2 := h (2 * i) (by omega)
    have h3 := h (2 * i + 1) (by omega)
    have g1 : hFrom L (2 * i) = (stp L i).a := by unfold hFrom; rw [if_pos (by omega), show 2 * i / 2 = i from by omega]
    have g2 : hFrom L (2 * i + 1) = (stp L i).b := by unfold hFrom; rw [if_neg (by omega), show (2 * i + 1) / 2 = i from by omega]
    have g3 : hTo L (2 * i) = (stp L i).b := by unfold hTo; rw [if_pos (by omega), show 2 * i / 2 = i from by omega]
    have g4 : hTo L (2 * i + 1) = (stp L i).a := by unfold hTo; rw [if_neg (by omega), show (2 * i + 1) / 2 = i from by omega]
    rw [capL]
    constructor
    · intro he y hy hf ht
      have hz : capL T L rm i = 0 := by split at he <;> split at he <;> omega
      by_cases e1 : y = 2 * i
      · subst e1; rw [g1] at hf; rw [g3] at ht; rw [hf, ht] at he; simp at he; omega
      · by_cases e2 : y = 2 * i + 1
        · subst e2; rw [g2] at hf; rw [g4] at ht; rw [hf, ht] at he; simp at he; omega
        · exact h1.1 hz y (by omega) hf ht
    · intro hall
      rw [h1.2 (fun y hy => hall y (by omega))]
      have q1 := hall (2 * i) (by omega)
      have q2 := hall (2 * i + 1) (by omega)
      rw [g1, g3] at q1
      rw [g2, g4] at q2
      cases ha : T.testBit (stp L i).a <;> cases hb : T.testBit (stp L i).b <;> simp [-testBit_dec, ha, hb] at q1 q2 ⊢ <;> omega
theorem flip_two (i : Nat) : flip (2 * i) = 2 * i + 1 := by unfold flip; rw [if_pos (by omega)]
theorem cut_gone {L : List Stp} {s t T : Nat} {rm rm' : Nat → Int} {x : Int} (hL : StpsOk L) (hs : s < 24) (ht : t < 24) (hR : Rooms L rm) (hR' : Rooms L rm') (hG : Gone L s t rm rm' x) (h1 : T.testBit s = true) (h2 : T.testBit t = false) :
    capL T L rm' L.length = capL T L rm L.length - x := by
  have e1 := sum_out (T := T) (rm := rm) hL L.length (Nat.le_refl _)
  have e2 := sum_out (T := T) (rm := rm') hL L.length (Nat.le_refl _)
  have e3 : inner T L rm' L.length = inner T L rm L.length := inner_congr (fun y hy => by
    have a := hR'.sum (2 * y) (by omega)
    have b := hR.sum (2 * y) (by omega)
    rw [flip_two] at a b
    omega)
  have e4 : sumT T (fun q => outN L rm' q L.length) 24 = sumT T (fun q => outN L rm q L.length) 24 + sumT T (fun q => if s = q then -x else 0) 24 + sumT T (fun q => if t = q then x else 0) 24 := by
    rw [← sumT_add, ← sumT_add]
    refine sumT_congr (fun q _ => ?_)
    rw [hG q]; split <;> split <;> omega
  rw [sumT_one, sumT_one, h1, h2] at e4
  simp [hs, ht] at e4
  omega
theorem Filled.cuts {L : List Stp} {s t : Nat} {rm rm' : Nat → Int} {x : Int} {lv : Nat → Nat} (h : Filled L s t rm x rm' lv) (hL : StpsOk L) (hs : s < 24) (ht : t < 24) (hR : Rooms L rm) :
    (∀ T, T.testBit s = true → T.testBit t = false → x ≤ capL T L rm L.length ∧ (x = capL T L rm L.length → ∀ q, q < 24 → 0 < lv q → T.testBit q = true)) ∧ x = capL (nearS lv 24) L rm L.length ∧ (nearS lv 24).testBit s = true ∧ (nearS lv 24).testBit t = false := by
  have hnn := fun (i : Nat) (hi : i = L.length) y (hy : y < 2 * i) => h.rooms.nn y (by omega)
  have hn := hnn L.length rfl
  have n1 : (nearS lv 24).testBit s = true := by rw [nearS_bit, h.lev.src]; simp [hs]
  have n2 : (nearS lv 24).testBit t = false := by rw [nearS_bit, h.snk]; simp
  refine ⟨fun T h1 h2 => ?_, ?_, n1, n2⟩
  · have hc := cut_gone hL hs ht hR h.rooms h.gone h1 h2
    have h0 := capL_nn (T := T) (L := L) hn
    refine ⟨by omega, fun he => ?_⟩
    have hz := (capL_zero (T := T) (L := L) hn).1 (by omega)
    have key : ∀ n q, q < 24 → 0 < lv q → lv q ≤ n → T.testBit q = true := by
      intro n
      induction n with
      | zero => intro q _ h3 h4; omega
      | succ n ih =>
        intro q hq h3 h4
        rcases h.lev.pre q hq h3 with rfl | ⟨y, hy, hto, hr, hf1, hf2⟩
        · exact h1
        · have hb := (hL.to hy).2.1
          have := ih _ hb hf1 (by omega)
          cases hT : T.testBit q with
          | true => rfl
          | false => exact absurd (hz y hy this (by rw [hto]; exact hT)) hr
    exact fun q hq h3 => key (lv q) q hq h3 (Nat.le_refl _)
  · have hc := cut_gone hL hs ht hR h.rooms h.gone n1 n2
    have hz := (capL_zero (T := nearS lv 24) (L := L) hn).2 (fun y hy h3 h4 => by
      apply Classical.byContradiction
      intro hr
      have hb := hL.to hy
      rw [nearS_bit] at h3 h4
      simp [hb.1, hb.2.1] at h3 h4
      have := h.closed y hy h3 hr
      omega)
    omega
theorem atP_one (s q : Nat) : atP (1 <<< s) s q = q := by
  unfold atP; rw [one_bit]; split
  · rename_i h; simpa using h
  · rfl
theorem layL_len (f s : Nat) (l : List Quad) : (layL f s l).length = l.length := by simp [layL]
end Go.Proofs.YtkgfjfkgmpeobaaDoor

open Go Go.Eng
namespace Go.Proofs.YtkgfjfkgmpeobaaDoor
attribute [local congr] undef_congr WpK.congr WpS.congr WpL.congr WpC.congr WpF.congr gotS.congr callS.congr nextS.congr wantS.congr condS.congr
attribute [local irreducible] WpK
attribute [local simp] WpDr_nil WpDr_cons atS_some dwantS_true dwantS_false kindS_light kindS_float kindS_heavy lightS_value floatS_some heavyS_value heavyS_skip heavyS_enter dcallS_some doneS_eq
  isLight isFloat isPlain dLook testBit_dec dChain dLights_nil dLights_skip dLights_one dLight_nil dLight_cons dFreshes_nil dFreshes_one oneF_none oneF_some dFresh_nil dFresh_cons oneL_some oneW_true oneW_false sameV_value dPut dMay valEq arrEq listEq List.getElem?_cons Tr.get_nil dEnd
attribute [local simp] WpS_nil WpS_cons isDefer undef_false wantS_true wantS_false nextS_value nextS_skip nextS_enter callS_some gotS_some aWanted aOp aEvalF aEval opMove opAssign opPick aVal flat flat1 AAct.put opBinOp opConvert opIndex Tr.get_set Tr.get_lay aBin aResults tupled
  aCall aVals aCallB blt_dec ble_dec beq_dec aBinI_add aBinI_sub aBinI_lss aBinI_leq aBinI_gtr aBinI_geq aBinI_eql aBinI_neq index_str len_str len_slice Nat.beq_refl und2 und3 und4 und5 und39 und76 und82 und115 und22 und29 und25 und33 und46 und43 und49 und111 und113 field151 field155_0 field155_1 field155_2 field155_3 field155_4
  field78 field106 field24 field31 field27 field35 field108 field109 opBox opLoad opFieldAddr opIndexAddr acells aAddr opExtract aExtract opUnOp opAlloc opStore opMakeInterface opNilCheck opBuild aParts opBuildSlice aValW
set_option maxHeartbeats 4000000
set_option linter.unusedSimpArgs false
set_option linter.unusedVariables false
def flowOf (rm : Nat → Int) (n : Nat) : List Int := (List.range n).map fun i => rm (2 * i + 1)
def flowTo (rm : Nat → Int) (n i : Nat) : List Int := (List.range n).map fun j => if j < i then rm (2 * j + 1) else 0
theorem flowTo_len (rm : Nat → Int) (n i : Nat) : (flowTo rm n i).length = n := by simp [flowTo]
theorem flowTo_set (rm : Nat → Int) (n i : Nat) (hi : i < n) : (flowTo rm n i).set i (rm (2 * i + 1)) = flowTo rm n (i + 1) := by
  apply List.ext_getElem?
  intro j
  by_cases hj : j < n
  · by_cases e : j = i
    · subst e
      rw [List.getElem?_set_self (by rw [flowTo_len]; exact hj)]
      simp [flowTo, List.getElem?_range hj]
    · rw [List.getElem?_set_ne (fun x => e x.symm)]
      have : (j < i + 1) = (j < i) := propext ⟨fun _ => by omega, fun _ => by omega⟩
      simp [flowTo, List.getElem?_range hj, this]
  · rw [List.getElem?_eq_none (by rw [List.length_set, flowTo_len]; omega), List.getElem?_eq_none (by rw [flowTo_len]; omega)]
theorem rep_ints : ∀ n, intsV (List.replicate n 0) = rep [.int .i64 0] n
  | 0 => rfl
  | n + 1 => by
    show intsV (List.replicate (n + 1) 0) = [.int .i64 0] ++ rep [.int .i64 0] n
    rw [← rep_ints n, List.replicate_succ]; rfl
theorem flowTo_zero (rm : Nat → Int) (n : Nat) : intsV (flowTo rm n 0) = rep [.int .i64 0] n := by
  have : flowTo rm n 0 = List.replicate n 0 := by
    rw [flowTo, List.eq_replicate_iff]
    simp
  rw [this, rep_ints]
theorem flowTo_all (rm : Nat → Int) (n : Nat) : flowTo rm n n = flowOf rm n := by
  apply List.map_congr_left
  intro j hj
  rw [if_pos (by simpa using hj)]
theorem taken_wp {W : AW} {p B : Nat} {L : List Stp} {s t : Nat} {rm : Nat → Int} {lv : Nat → Nat} (h : Wk W p B L s t rm lv) (h200 : L.length ≤ 200) :
    WpF T0 56 [.pointer (some ⟨p, 0, none⟩), .int .i64 (L.length : Nat)] W (fun v W' => Ext W W' ∧ v = .slice (some ⟨W.next, 0, none⟩) L.length (2 * L.length) ∧ Var W' W.next 2 (intsV (flowOf rm L.length))) := by
  refine wpF fun56 rfl ?_
  have hm := mk43 W L.length (by omega)
  rw [← flowTo_zero rm] at hm
  obtain ⟨W1, hW1, hE1, hn1, hV1⟩ : ∃ W1, W1 = W.newCells 2 (intsV (flowTo rm L.length 0)) ∧ Ext W W1 ∧ W1.next = W.next + 1 ∧ Var W1 W.next 2 (intsV (flowTo rm L.length 0)) := ⟨_, rfl, .newCells _ _ _, rfl, Var.new _ _ _⟩
  rw [← hW1] at hm
  try simp only [wpK_assoc]
  refine wpK_reg (fun R hR => by simp []; exact hR) ?_
  try simp only [wpK_assoc]
  refine wpK_reg (fun R hR => by simp [hm, opMakeSlice, aValW]; exact hR) ?_
  try simp only [wpK_assoc]
  refine wpK_reg (fun R hR => by simp [len_slice und43]; exact hR) ?_
  try simp only [wpK_assoc]
  refine wpK_while (I := fun k A W' => A.n = 28 ∧ A.defers = [] ∧ A.tmps.get 0 = some (.pointer (some ⟨p, 0, none⟩)) ∧ A.tmps.get 5 = some (.slice (some ⟨W.next, 0, none⟩) L.length (2 * L.length)) ∧ A.tmps.get 10 = some (.int .i64 L.length) ∧ Ext W W' ∧ ∃ i : Nat, k = L.length - i ∧ i ≤ L.length ∧ A.tmps.get 11 = some (.int .i64 i) ∧ Var W' W.next 2 (intsV (flowTo rm L.length i)))
    (J := fun A W' => A.n = 28 ∧ A.defers = [] ∧ A.tmps.get 0 = some (.pointer (some ⟨p, 0, none⟩)) ∧ A.tmps.get 5 = some (.slice (some ⟨W.next, 0, none⟩) L.length (2 * L.length)) ∧ A.tmps.get 10 = some (.int .i64 L.length) ∧ Ext W W' ∧ Var W' W.next 2 (intsV (flowOf rm L.length)))
    (Rt := fun _ _ => False) (k := L.length) ?_ ?_ ?_ ?_
  · exact ⟨rfl, rfl, by simp, by simp, by simp, hE1, 0, by simp, by omega, by simp, hV1⟩
  · rintro k ⟨tm, n, ds⟩ W3 ⟨hn, hd, h0, h5, h10, hE3, i, hk, hi, h11, hV3⟩ Q' hJ hRt hI
    simp only at hn hd h0 h5 h10
    subst hn; subst hd
    simp only at h11
    try simp only [wpK_assoc]
    refine wpK_reg (fun R hR => by simp [h10, h11]; exact hR) ?_
    by_cases hlt : i < L.length
    · try simp only [wpK_assoc]
      first | refine wpK_onT (by simp [hlt]) ?_ | refine wpK_outT (by simp [hlt]) ?_ | refine wpK_condT (by simp [hlt]) ?_ | refine wpK_endT (by simp [hlt]) ?_
      have hx := indexAddr_slice (T := T0) und43 sz2 (b := W.next) (o := 0) (c := 2 * L.length) (k := .i64) hlt
      rw [Nat.mul_one] at hx
      have hr := ((h.ext hE3).has.1 (2 * i + 1) (by omega) (by omega)).2
      have hl := load_of und2 rfl hr
      have hix := ix152 p 0 (2 * i + 1) (by omega)
      obtain ⟨W4, s1, s2, s3, s4⟩ := hV3.store (T := T0) (t := 2) (v := .int .i64 (rm (2 * i + 1))) (o := i) inf2 (by rw [is2]; rfl) (by rw [intsV_len, flowTo_len]; show i + 1 ≤ L.length; omega) rfl
      have s4 : Var W4 W.next 2 ((intsV (flowTo rm L.length i)).take i ++ [.int .i64 (rm (2 * i + 1))] ++ (intsV (flowTo rm L.length i)).drop (i + 1)) := s4
      rw [set_ints _ _ _ (by rw [flowTo_len]; exact hlt), flowTo_set rm _ _ hlt] at s4
      have w1 : IntKind.i64.wrap (2 * (i : Int)) = 2 * (i : Int) := IntWalk.i64_in _ (by omega)
      have w2 : IntKind.i64.wrap (2 * (i : Int) + 1) = ((2 * i + 1 : Nat) : Int) := by rw [IntWalk.i64_in _ (by omega)]; omega
      have e : (2 * i + 1) * 2 + 1 = 2 * (2 * i + 1) + 1 := by omega
      rw [← e] at hl
      generalize hy : 2 * i + 1 = y at hix hl w2 s1
      refine wpK_block ?_
      try simp only [wpK_assoc]
      refine wpK_reg (fun R hR => by simp [h11]; exact hR) ?_
      try simp only [wpK_assoc]
      refine wpK_reg1 (fun R hR => by simp [h0, h5, hx, nilck, aBinI_mul, w1, w2, hix, hl, s1]; exact hR) ?_
      try simp only [wpK_assoc]
      refine wpK_reg1 (fun R hR => by simp [h11]; exact hR) ?_
      have n3 := hE3.1
      exact hI (k - 1) _ _ (by omega) ⟨rfl, rfl, by simp [h0, h5, h10], by simp [h0, h5, h10], by simp [h0, h5, h10], ⟨by omega, fun b hb hk => by rw [s3.2 b (by omega) (by omega)]; exact hE3.2 b hb hk⟩, i + 1, by omega, by omega, by simp; exact i64_succ i (by omega), s4⟩
    · have e : i = L.length := by omega
      rw [e, flowTo_all] at hV3
      try simp only [wpK_assoc]
      first | refine wpK_onF (by simp [e]) ?_ | refine wpK_out (by simp [e]) ?_ | refine wpK_condF (by simp [e]) ?_ | refine wpK_endF (by simp [e]) (wpK_skip ?_) | refine wpK_endF (by simp [e]) ?_
      exact hJ _ _ ⟨rfl, rfl, by simp [h0, h5, h10], by simp [h0, h5, h10], by simp [h0, h5, h10], hE3, hV3⟩
  · rintro A' W' hf; exact hf.elim
  · rintro ⟨tm, n, ds⟩ W3 ⟨hn, hd, h0, h5, h10, hE3, hV3⟩
    simp only at hn hd h0 h5 h10
    subst hn; subst hd
    try simp only [wpK_assoc]
    refine wpK_reg (fun R hR => by simp [h5]; exact hR) ?_
    exact wpK_ret ⟨.inr rfl, rfl, [.slice (some ⟨W.next, 0, none⟩) L.length (2 * L.length)], by simp, hE3, rfl, hV3⟩
end Go.Proofs.YtkgfjfkgmpeobaaDoor

open Go Go.Eng
namespace Go.Proofs.YtkgfjfkgmpeobaaDoor
attribute [local congr] undef_congr WpK.congr WpS.congr WpL.congr WpC.congr WpF.congr gotS.congr callS.congr nextS.congr wantS.congr condS.congr
attribute [local irreducible] WpK
attribute [local simp] WpDr_nil WpDr_cons atS_some dwantS_true dwantS_false kindS_light kindS_float kindS_heavy lightS_value floatS_some heavyS_value heavyS_skip heavyS_enter dcallS_some doneS_eq
  isLight isFloat isPlain dLook testBit_dec dChain dLights_nil dLights_skip dLights_one dLight_nil dLight_cons dFreshes_nil dFreshes_one oneF_none oneF_some dFresh_nil dFresh_cons oneL_some oneW_true oneW_false sameV_value dPut dMay valEq arrEq listEq List.getElem?_cons Tr.get_nil dEnd
attribute [local simp] WpS_nil WpS_cons isDefer undef_false wantS_true wantS_false nextS_value nextS_skip nextS_enter callS_some gotS_some aWanted aOp aEvalF aEval opMove opAssign opPick aVal flat flat1 AAct.put opBinOp opConvert opIndex Tr.get_set Tr.get_lay aBin aResults tupled
  aCall aVals aCallB blt_dec ble_dec beq_dec aBinI_add aBinI_sub aBinI_lss aBinI_leq aBinI_gtr aBinI_geq aBinI_eql aBinI_neq index_str len_str len_slice Nat.beq_refl und2 und3 und4 und5 und39 und76 und82 und115 und22 und29 und25 und33 und46 und43 und49 und111 und113 field151 field155_0 field155_1 field155_2 field155_3 field155_4
  field78 field106 field24 field31 field27 field35 field108 field109 opBox opLoad opFieldAddr opIndexAddr acells aAddr opExtract aExtract opUnOp opAlloc opStore opMakeInterface opNilCheck opBuild aParts opBuildSlice aValW
set_option maxHeartbeats 4000000
set_option linter.unusedSimpArgs false
set_option linter.unusedVariables false
theorem var_ints {W : AW} {b : Nat} {el : TypeId} {l : List Int} {n c : Nat} (h : Var W b el (intsV l)) (hn : l.length = n) : IntL W (.slice (some ⟨b, 0, none⟩) n c) l :=
  ⟨_, c, by rw [hn], fun i x hx => ⟨b, 0, rfl, by rw [Nat.zero_add]; exact h.has (intsV_get hx)⟩⟩
theorem flowOf_len (rm : Nat → Int) (n : Nat) : (flowOf rm n).length = n := by simp [flowOf]
theorem flowOf_get {rm : Nat → Int} {n i : Nat} (h : i < n) : (flowOf rm n)[i]? = some (rm (2 * i + 1)) := by simp [flowOf, List.getElem?_range h]
theorem flow_is {P : Int} {l : List Tri} {s t : Nat} {x : Int} {rm : Nat → Int} {lv : Nat → Nat} (hin : PlanIn P (arcsQ l)) (F : Filled (layL (1 <<< s) s (arcsQ l)) s t (hCap (layL (1 <<< s) s (arcsQ l))) x rm lv) :
    capsOk (l.zip (flowOf rm l.length)) ∧ ∀ q : Nat, netZ (l.zip (flowOf rm l.length)) q = (if s = q then x else 0) - (if t = q then x else 0) := by
  have hLl : (layL (1 <<< s) s (arcsQ l)).length = l.length := by rw [layL_len]; simp [arcsQ]
  have hq : ∀ {i : Nat} {a : Tri}, l[i]? = some a → (arcsQ l)[i]? = some (a.1, a.2.1, a.2.2, 0) := fun h => by simp [arcsQ, h]
  have room : ∀ (i : Nat) (a : Tri), l[i]? = some a → rm (2 * i) + rm (2 * i + 1) = a.2.2 ∧ 0 ≤ rm (2 * i) ∧ 0 ≤ rm (2 * i + 1) ∧ hCap (layL (1 <<< s) s (arcsQ l)) (2 * i) = a.2.2 ∧ hCap (layL (1 <<< s) s (arcsQ l)) (2 * i + 1) = 0 := by
    intro i a ha
    have hlt := (List.getElem?_eq_some_iff.1 ha).1
    have h1 := F.rooms.sum (2 * i) (by omega)
    have h2 := F.rooms.nn (2 * i) (by omega)
    have h3 := F.rooms.nn (2 * i + 1) (by omega)
    rw [flip_two] at h1
    have g1 : hCap (layL (1 <<< s) s (arcsQ l)) (2 * i) = a.2.2 := by unfold hCap; rw [if_pos (by omega), show 2 * i / 2 = i from by omega, stp_lay (hq ha)]
    have g2 : hCap (layL (1 <<< s) s (arcsQ l)) (2 * i + 1) = 0 := by unfold hCap; rw [if_neg (by omega), show (2 * i + 1) / 2 = i from by omega, stp_lay (hq ha)]
    rw [g1, g2] at h1
    exact ⟨by omega, h2, h3, g1, g2⟩
  refine ⟨fun q hm => ?_, fun q => ?_⟩
  · obtain ⟨i, hi⟩ := List.mem_iff_getElem?.1 hm
    rw [List.getElem?_zip_eq_some] at hi
    obtain ⟨h1, h2⟩ := hi
    have hlt := (List.getElem?_eq_some_iff.1 h1).1
    rw [flowOf_get hlt] at h2
    obtain ⟨r1, r2, r3, _, _⟩ := room i q.1 h1
    simp only [Option.some.injEq] at h2
    omega
  · have key : ∀ i, i ≤ l.length → netZ ((l.zip (flowOf rm l.length)).take i) q = outN (layL (1 <<< s) s (arcsQ l)) (hCap (layL (1 <<< s) s (arcsQ l))) q i - outN (layL (1 <<< s) s (arcsQ l)) rm q i := by
      intro i
      induction i with
      | zero => intro _; simp [netZ, outN]
      | succ i ih =>
        intro hi
        have ha : l[i]? = some l[i] := List.getElem?_eq_getElem (by omega)
        have hmem : l[i] ∈ l := List.getElem_mem _
        generalize l[i] = a at ha hmem
        obtain ⟨r1, r2, r3, r4, r5⟩ := room i a ha
        have hst := hin.step (a := (a.1, a.2.1, a.2.2, 0)) (by simp only [arcsQ, List.mem_map]; exact ⟨a, hmem, rfl⟩)
        simp only at hst
        rw [zip_snoc ha (flowOf_get (by omega)), netZ_snoc, ih (by omega), outN, outN, stp_lay (hq ha), r4, r5]
        simp only [atP_one, net1]
        have e1 : (a.1.toNat = q) = (a.1 = q) := propext ⟨fun _ => by omega, fun _ => by omega⟩
        have e2 : (a.2.1.toNat = q) = (a.2.1 = q) := propext ⟨fun _ => by omega, fun _ => by omega⟩
        simp only [e1, e2]
        split <;> split <;> omega
    have hk := key l.length (Nat.le_refl _)
    have hg := F.gone q
    rw [hLl] at hg
    rw [List.take_of_length_le (by rw [List.length_zip]; omega)] at hk
    rw [hk, hg]; omega
theorem most_ok {W : AW} {v : Value} {P : Int} {l : List Tri} (h : TriIn W v l) {s t : Nat} (hok : planOk P (arcsQ l) = true) (hst : two? s t P = true) (hT : tabsIn T0 T0.tabs W = true) (h0 : 0 < W.next) :
    WpF T0 19 [.agg ⟨[.int .i64 P, v]⟩, .int .i64 s, .int .i64 t] W (fun u W' => Ext W W' ∧ ∃ x rm lv b, u = .tuple ⟨[.int .i64 x, .slice (some ⟨b, 0, none⟩) l.length (2 * l.length), .int .i64 0]⟩ ∧ W.next ≤ b ∧ Var W' b 2 (intsV (flowOf rm l.length)) ∧
      Filled (layL (1 <<< s) s (arcsQ l)) s t (hCap (layL (1 <<< s) s (arcsQ l))) x rm lv) := by
  refine wpF fun19 rfl ?_
  have hN := netPlan (netIn (P := P) h)
  have hE0 : Ext W (W.newCells 31 [.int .i64 P, v]) := .newCells _ _ _
  have hV := Var.new W 31 [.int .i64 P, v]
  have hT0 := tabs_ext hT h0 hE0
  have h00 : 0 < (W.newCells 31 [.int .i64 P, v]).next := by rw [newCells_next]; omega
  generalize hW0 : W.newCells 31 [.int .i64 P, v] = W0 at hN hE0 hV hT0 h00
  have hin := arcsQ_in hok
  obtain ⟨hP2, hP24, h200⟩ := hin.size
  have hee : chkE P (arcsQ l) s t = 0 := by simp only [chkE, hok, endE, hst, if_true]
  simp only [two?, Bool.and_eq_true, decide_eq_true_eq] at hst
  have hc := checkEnds_wp hN s t
  rw [hee] at hc
  have hLl : (layL (1 <<< s) s (arcsQ l)).length = l.length := by rw [layL_len]; simp [arcsQ]
  obtain ⟨av, cv, hvs⟩ := tri_len h
  have l1 : ∀ W', Ext W0 W' → aLoadVar T0 W' 29 W.next 1 = some v := fun W' h => (hV.ext h).load1 (T := T0) und29 rfl (j := 1) (v := v) rfl
  have hlen : ∀ W', aLen T0 W' 29 v = some (.int .i64 l.length) := fun W' => by rw [hvs]; exact len_slice und29 _ _ _
  try simp only [wpK_assoc]
  refine wpK_reg (fun R hR => by simp [hW0]; exact hR) ?_
  try simp only [wpK_assoc]
  refine wpK_x0 (fun R hR => by
      simp [aEnter, fun52, short_other, aCallV]; rw [callS_none]
      refine (hc).mono ?_
      rintro _ W1 ⟨hE1, rfl⟩
      simp []; exact hR W1 hE1) ?_
  rintro W1 hE1
  try simp only [wpK_assoc]
  refine wpK_reg (fun R hR => by simp []; exact hR) ?_
  try simp only [wpK_assoc]
  first | refine wpK_onF (by simp []) ?_ | refine wpK_out (by simp []) ?_ | refine wpK_condF (by simp []) ?_ | refine wpK_endF (by simp []) (wpK_skip ?_) | refine wpK_endF (by simp []) ?_
  have hN1 := hN.ext hE1
  have hT1 := tabs_ext hT0 h00 hE1
  have h10 : 0 < W1.next := Nat.lt_of_lt_of_le h00 hE1.1
  try simp only [wpK_assoc]
  refine wpK_x2 (fun R hR => by
    simp [aEnter, fun54, short_other, aCallV]; rw [callS_none]
    refine (one_wp s (by omega) W1).mono ?_
    rintro _ W2 ⟨hW2, rfl⟩
    subst W2
    simp [aEnter, fun53, short_other, aCallV]; rw [callS_none]
    refine (lay_wp hN1 hin (by exact one_lt (by omega)) one_low.1 one_low.2 (by omega) (by omega) hT1 h10).mono ?_
    rintro _ W3 ⟨hE3, p, B, rfl, hp, hWk⟩
    simp; exact hR p B W3 (And.intro hE3 (And.intro hp hWk))) ?_
  rintro p B W3 ⟨hE3, hp, hWk⟩
  have hL := layL_ok hin (from_ := 1 <<< s) (show s < 24 by omega)
  try simp only [wpK_assoc]
  refine wpK_x3 (fun R hR => by
      simp [aEnter, fun55, short_other, aCallV]; rw [callS_none]
      refine (fill_wp hWk hL (by omega) (by omega) (by omega) (cap_rooms hL)).mono ?_
      rintro _ W4 ⟨x, rm', lv, rfl, hO4, hWk4, hF⟩
      simp []; exact hR x rm' lv W4 (And.intro hO4 (And.intro hWk4 hF))) ?_
  rintro x rm' lv W4 ⟨hO4, hWk4, hF⟩
  have hE4 : Ext W1 W4 := ⟨Nat.le_trans hE3.1 hO4.1, fun b hb hk => by rw [hO4.2 b (Nat.lt_of_lt_of_le hb hE3.1) (fun e => by omega)]; exact hE3.2 b hb hk⟩
  have htk := taken_wp hWk4 (by rw [hLl]; have : (arcsQ l).length = l.length := by simp [arcsQ]
                                omega)
  rw [hLl] at htk
  have hE04 := hE1.trans hE4
  try simp only [wpK_assoc]
  refine wpK_x0 (fun R hR => by
      simp [l1, hE04, hlen, aEnter, fun56, short_other, aCallV]; rw [callS_none]
      refine (htk).mono ?_
      rintro _ W5 ⟨hE5, rfl, hV5⟩
      simp [l1, hE04, hlen]; exact hR W5 (And.intro hE5 hV5)) ?_
  rintro W5 ⟨hE5, hV5⟩
  have n1 := hE0.1
  have n2 := hE04.1
  exact wpK_ret ⟨.inr rfl, rfl, [.int .i64 x, .slice (some ⟨W4.next, 0, none⟩) l.length (2 * l.length), .int .i64 0], by simp, (hE0.trans hE04).trans hE5, x, rm', lv, W4.next, rfl, by omega, hV5, hF⟩
theorem ends_wp {W : AW} (P : Nat) (a b : Int) (hP : 2 ≤ P) (hP24 : P ≤ 24) : WpF T0 31 [.int .i64 P, .agg ⟨[.int .i64 a, .int .i64 b]⟩] W (fun u W' => Ext W W' ∧ ∃ s t : Nat, u = .tuple ⟨[.int .i64 s, .int .i64 t]⟩ ∧ two? s t P = true ∧ s < P ∧ t < P ∧ s ≠ t) := by
  refine wpF fun31 rfl ?_
  have hV := Var.new W 28 [.int .i64 a, .int .i64 b]
  have hE : Ext W (W.newCells 28 [.int .i64 a, .int .i64 b]) := .newCells _ _ _
  generalize hW1 : W.newCells 28 [.int .i64 a, .int .i64 b] = W1 at hV hE
  have l0 := hV.load1 (T := T0) und3 rfl (j := 0) (v := .int .i64 a) rfl
  have l1 := hV.load1 (T := T0) und3 rfl (j := 1) (v := .int .i64 b) rfl
  have hwP : IntKind.u64.wrap (P : Int) = P := IntWalk.u64_in _ (by omega)
  obtain ⟨s, hs1, hs2⟩ := u64_mod a P (by omega)
  obtain ⟨t, ht1, ht2⟩ := u64_mod b P (by omega)
  have r1 := aBinI_rem .u64 (IntKind.u64.wrap a) (P : Int) (by omega)
  rw [hs1] at r1
  have r2 := aBinI_rem .u64 (IntKind.u64.wrap b) (P : Int) (by omega)
  rw [ht1] at r2
  have ws : IntKind.i64.wrap (s : Int) = s := IntWalk.i64_in _ (by omega)
  have wt : IntKind.i64.wrap (t : Int) = t := IntWalk.i64_in _ (by omega)
  have i0 := ix28_0 W.next 0
  have i1 := ix28_1 W.next 0
  try simp only [wpK_assoc]
  refine wpK_reg (fun R hR => by simp [hW1]; exact hR) ?_
  try simp only [wpK_assoc]
  refine wpK_reg (fun R hR => by simp [i0, l0, conv_3_82, conv_82_3, hwP, r1, ws]; exact hR) ?_
  try simp only [wpK_assoc]
  refine wpK_reg (fun R hR => by simp [i1, l1, conv_3_82, conv_82_3, hwP, r2, wt]; exact hR) ?_
  by_cases he : s = t
  · subst he
    have r3 := aBinI_rem .i64 ((s : Int) + 1) (P : Int) (by omega)
    have w3 : IntKind.i64.wrap ((s : Int) + 1) = (s : Int) + 1 := IntWalk.i64_in _ (by omega)
    obtain ⟨y, hy, hyP, hys⟩ : ∃ y : Nat, ((s : Int) + 1).tmod P = y ∧ y < P ∧ s ≠ y := by
      refine ⟨(s + 1) % P, by rw [show ((s : Int) + 1) = ((s + 1 : Nat) : Int) from rfl, ← Int.ofNat_tmod], Nat.mod_lt _ (by omega), ?_⟩
      by_cases e : s + 1 = P
      · rw [e, Nat.mod_self]; omega
      · rw [Nat.mod_eq_of_lt (by omega)]; omega
    rw [hy] at r3
    try simp only [wpK_assoc]
    refine wpK_reg (fun R hR => by simp []; exact hR) ?_
    try simp only [wpK_assoc]
    first | refine wpK_onT (by simp []) ?_ | refine wpK_outT (by simp []) ?_ | refine wpK_condT (by simp []) ?_ | refine wpK_endT (by simp []) ?_
    try simp only [wpK_assoc]
    refine wpK_reg1 (fun R hR => by simp [w3, r3]; exact hR) ?_
    simp only [behind_normal]
    try simp only [wpK_assoc]
    refine wpK_reg (fun R hR => by simp []; exact hR) ?_
    exact wpK_ret ⟨.inr rfl, rfl, [.int .i64 s, .int .i64 y], by simp, hE, s, y, rfl, by simp [two?]; omega, hs2, hyP, hys⟩
  · have he' : ¬ (s : Int) = t := by omega
    try simp only [wpK_assoc]
    refine wpK_reg (fun R hR => by simp [he', he]; exact hR) ?_
    try simp only [wpK_assoc]
    first | refine wpK_onF (by simp []) ?_ | refine wpK_out (by simp []) ?_ | refine wpK_condF (by simp []) ?_ | refine wpK_endF (by simp []) (wpK_skip ?_) | refine wpK_endF (by simp []) ?_
    try simp only [wpK_assoc]
    refine wpK_reg (fun R hR => by simp []; exact hR) ?_
    exact wpK_ret ⟨.inr rfl, rfl, [.int .i64 s, .int .i64 t], by simp, hE, s, t, rfl, by simp [two?]; omega, hs2, ht2, he⟩
theorem has50_wp {W : AW} {v : Value} {l : List Int} (h : IntL W v l) (hl : l.length < 4611686018427387904) (x : Int) : WpF T0 50 [v, .int .i64 x] W (fun u W' => W' = W ∧ u = .bool (decide (x ∈ l))) := by
  obtain ⟨A, c, rfl, hA⟩ := h
  refine wpF fun50 rfl ?_
  try simp only [wpK_assoc]
  refine wpK_reg (fun R hR => by simp []; exact hR) ?_
  try simp only [wpK_assoc]
  refine wpK_reg (fun R hR => by simp []; exact hR) ?_
  try simp only [wpK_assoc]
  refine wpK_while (I := fun k B W' => B.n = 18 ∧ B.defers = [] ∧ B.tmps.get 0 = some (.slice A l.length c) ∧ B.tmps.get 1 = some (.int .i64 x) ∧ W' = W ∧ ∃ i : Nat, k = l.length - i ∧ i ≤ l.length ∧ B.tmps.get 5 = some (.int .i64 i) ∧ ∀ (j : Nat) y, j < i → l[j]? = some y → y ≠ x)
    (J := fun B W' => B.n = 18 ∧ B.defers = [] ∧ W' = W ∧ x ∉ l) (Rt := fun B W' => B.defers = [] ∧ B.tmps.get 4 = some (.bool true) ∧ W' = W ∧ x ∈ l) (k := l.length) ?_ ?_ ?_ ?_
  · exact ⟨rfl, rfl, by simp, by simp, rfl, 0, by simp, by omega, by simp, fun j y hj => by omega⟩
  · rintro k ⟨tm, n, ds⟩ W3 ⟨hn, hd, h0, h1, rfl, i, hk, hi, h5, hno⟩ Q' hJ hRt hI
    simp only at hn hd h0 h1
    subst hn; subst hd
    simp only at h5
    try simp only [wpK_assoc]
    refine wpK_reg (fun R hR => by simp [h0, h5, len_slice und46]; exact hR) ?_
    by_cases hlt : i < l.length
    · try simp only [wpK_assoc]
      first | refine wpK_onT (by simp [hlt]) ?_ | refine wpK_outT (by simp [hlt]) ?_ | refine wpK_condT (by simp [hlt]) ?_ | refine wpK_endT (by simp [hlt]) ?_
      have ha : l[i]? = some l[i] := List.getElem?_eq_getElem hlt
      have hm : l[i] ∈ l := List.getElem_mem hlt
      generalize l[i] = y at ha hm
      obtain ⟨b, o, rfl, hh⟩ := hA i y ha
      have hx := indexAddr_slice (T := T0) und46 sz3 (b := b) (o := o) (c := c) (k := .i64) hlt
      rw [Nat.mul_one] at hx
      have hl := load_of und3 rfl hh
      refine wpK_block ?_
      by_cases e : y = x
      · try simp only [wpK_assoc]
        refine wpK_reg (fun R hR => by simp [h0, h1, h5, hx, hl, e]; exact hR) ?_
        try simp only [wpK_assoc]
        first | refine wpK_onT (by simp []) ?_ | refine wpK_outT (by simp []) ?_ | refine wpK_condT (by simp []) ?_ | refine wpK_endT (by simp []) ?_
        try simp only [wpK_assoc]
        refine wpK_reg (fun R hR => by simp []; exact hR) ?_
        exact wpK_ret (hRt _ _ ⟨rfl, by simp, rfl, e ▸ hm⟩)
      · try simp only [wpK_assoc]
        refine wpK_reg (fun R hR => by simp [h0, h1, h5, hx, hl, e]; exact hR) ?_
        try simp only [wpK_assoc]
        first | refine wpK_onF (by simp []) ?_ | refine wpK_out (by simp []) ?_ | refine wpK_condF (by simp []) ?_ | refine wpK_endF (by simp []) (wpK_skip ?_) | refine wpK_endF (by simp []) ?_
        try simp only [wpK_assoc]
        refine wpK_reg1 (fun R hR => by simp [h5]; exact hR) ?_
        refine hI (k - 1) _ _ (by omega) ⟨rfl, rfl, by simp [h0, h1], by simp [h0, h1], rfl, i + 1, by omega, by omega, by simp; exact i64_succ i (by omega), fun j z hj hz => ?_⟩
        by_cases e2 : j = i
        · subst e2; rw [ha] at hz; cases hz; exact e
        · exact hno j z (by omega) hz
    · try simp only [wpK_assoc]
      first | refine wpK_onF (by simp [hlt]) ?_ | refine wpK_out (by simp [hlt]) ?_ | refine wpK_condF (by simp [hlt]) ?_ | refine wpK_endF (by simp [hlt]) (wpK_skip ?_) | refine wpK_endF (by simp [hlt]) ?_
      refine hJ _ _ ⟨rfl, rfl, rfl, fun hm => ?_⟩
      obtain ⟨j, hj, he⟩ := List.getElem_of_mem hm
      exact hno j _ (by omega) (List.getElem?_eq_getElem hj) he
  · rintro A' W' ⟨h1, h2, rfl, h3⟩
    exact ⟨.inr rfl, h1, [.bool true], by simp [h2], rfl, by simp [h3]⟩
  · rintro ⟨tm, n, ds⟩ W' ⟨hn, hd, rfl, h3⟩
    simp only at hn hd
    subst hn; subst hd
    try simp only [wpK_assoc]
    refine wpK_reg (fun R hR => by simp []; exact hR) ?_
    exact wpK_ret ⟨.inr rfl, rfl, [.bool false], by simp, rfl, by simp [h3]⟩
end Go.Proofs.YtkgfjfkgmpeobaaDoor

open Go Go.Eng
namespace Go.Proofs.YtkgfjfkgmpeobaaDoor
attribute [local congr] undef_congr WpK.congr WpS.congr WpL.congr WpC.congr WpF.congr gotS.congr callS.congr nextS.congr wantS.congr condS.congr
attribute [local irreducible] WpK
attribute [local simp] WpDr_nil WpDr_cons atS_some dwantS_true dwantS_false kindS_light kindS_float kindS_heavy lightS_value floatS_some heavyS_value heavyS_skip heavyS_enter dcallS_some doneS_eq
  isLight isFloat isPlain dLook testBit_dec dChain dLights_nil dLights_skip dLights_one dLight_nil dLight_cons dFreshes_nil dFreshes_one oneF_none oneF_some dFresh_nil dFresh_cons oneL_some oneW_true oneW_false sameV_value dPut dMay valEq arrEq listEq List.getElem?_cons Tr.get_nil dEnd
attribute [local simp] WpS_nil WpS_cons isDefer undef_false wantS_true wantS_false nextS_value nextS_skip nextS_enter callS_some gotS_some aWanted aOp aEvalF aEval opMove opAssign opPick aVal flat flat1 AAct.put opBinOp opConvert opIndex Tr.get_set Tr.get_lay aBin aResults tupled
  aCall aVals aCallB blt_dec ble_dec beq_dec aBinI_add aBinI_sub aBinI_lss aBinI_leq aBinI_gtr aBinI_geq aBinI_eql aBinI_neq index_str len_str len_slice Nat.beq_refl und2 und3 und4 und5 und39 und76 und82 und115 und22 und29 und25 und33 und46 und43 und49 und111 und113 field151 field155_0 field155_1 field155_2 field155_3 field155_4
  field78 field106 field24 field31 field27 field35 field108 field109 opBox opLoad opFieldAddr opIndexAddr acells aAddr opExtract aExtract opUnOp opAlloc opStore opMakeInterface opNilCheck opBuild aParts opBuildSlice aValW
set_option maxHeartbeats 4000000
set_option linter.unusedSimpArgs false
set_option linter.unusedVariables false
end Go.Proofs.YtkgfjfkgmpeobaaDoor

open Go Go.Eng
namespace Go.Proofs.YtkgfjfkgmpeobaaDoor
attribute [local congr] undef_congr WpK.congr WpS.congr WpL.congr WpC.congr WpF.congr gotS.congr callS.congr nextS.congr wantS.congr condS.congr
attribute [local irreducible] WpK
attribute [local simp] WpDr_nil WpDr_cons atS_some dwantS_true dwantS_false kindS_light kindS_float kindS_heavy lightS_value floatS_some heavyS_value heavyS_skip heavyS_enter dcallS_some doneS_eq
  isLight isFloat isPlain dLook testBit_dec dChain dLights_nil dLights_skip dLights_one dLight_nil dLight_cons dFreshes_nil dFreshes_one oneF_none oneF_some dFresh_nil dFresh_cons oneL_some oneW_true oneW_false sameV_value dPut dMay valEq arrEq listEq List.getElem?_cons Tr.get_nil dEnd
attribute [local simp] WpS_nil WpS_cons isDefer undef_false wantS_true wantS_false nextS_value nextS_skip nextS_enter callS_some gotS_some aWanted aOp aEvalF aEval opMove opAssign opPick aVal flat flat1 AAct.put opBinOp opConvert opIndex Tr.get_set Tr.get_lay aBin aResults tupled
  aCall aVals aCallB blt_dec ble_dec beq_dec aBinI_add aBinI_sub aBinI_lss aBinI_leq aBinI_gtr aBinI_geq aBinI_eql aBinI_neq index_str len_str len_slice Nat.beq_refl und2 und3 und4 und5 und39 und76 und82 und115 und22 und29 und25 und33 und46 und43 und49 und111 und113 field151 field155_0 field155_1 field155_2 field155_3 field155_4
  field78 field106 field24 field31 field27 field35 field108 field109 opBox opLoad opFieldAddr opIndexAddr acells aAddr opExtract aExtract opUnOp opAlloc opStore opMakeInterface opNilCheck opBuild aParts opBuildSlice aValW
set_option maxHeartbeats 4000000
set_option linter.unusedSimpArgs false
set_option linter.unusedVariables false
theorem caps_bound {P : Int} {l : List Tri} {fl : List Int} (hok : planOk P (arcsQ l) = true) (hc : capsOk (l.zip fl)) : ∀ q ∈ l.zip fl, 0 ≤ q.2 ∧ q.2 ≤ 1000000000 := fun q hq => by
  have h1 := hc q hq
  have hm := (List.of_mem_zip hq).1
  have := (arcsQ_in hok).step (a := (q.1.1, q.1.2.1, q.1.2.2, 0)) (by simp only [arcsQ, List.mem_map]; exact ⟨q.1, hm, rfl⟩)
  simp only at this
  omega
theorem value_wp {W : AW} {v fv : Value} {P : Int} {l : List Tri} {fl : List Int} (h : TriIn W v l) (hF : IntL W fv fl) (hlen : fl.length = l.length) (h200 : l.length ≤ 200) (hb : ∀ q ∈ l.zip fl, 0 ≤ q.2 ∧ q.2 ≤ 1000000000) (p : Nat) :
    WpF T0 71 [.agg ⟨[.int .i64 P, v]⟩, fv, .int .i64 p] W (fun u W' => Ext W W' ∧ u = .int .i64 (netZ (l.zip fl) p)) := by
  obtain ⟨Av, cv, rfl, hA⟩ := h
  obtain ⟨Af, cf, rfl, hB⟩ := hF
  refine wpF fun71 rfl ?_
  obtain ⟨W0, hW0, hE0, hV0⟩ : ∃ W0, W0 = W.newCells 24 [.int .i64 P, .slice Av l.length cv] ∧ Ext W W0 ∧ Var W0 W.next 24 [.int .i64 P, .slice Av l.length cv] := ⟨_, rfl, .newCells _ _ _, Var.new _ _ _⟩
  have l1 := hV0.load1 (T := T0) und22 rfl (j := 1) (v := .slice Av l.length cv) rfl
  have hzl : (l.zip fl).length = l.length := by rw [List.length_zip]; omega
  try simp only [wpK_assoc]
  refine wpK_reg (fun R hR => by simp [← hW0]; exact hR) ?_
  try simp only [wpK_assoc]
  refine wpK_reg (fun R hR => by simp []; exact hR) ?_
  try simp only [wpK_assoc]
  refine wpK_reg (fun R hR => by simp []; exact hR) ?_
  try simp only [wpK_assoc]
  refine wpK_while (I := fun k A W' => A.n = 45 ∧ A.defers = [] ∧ A.tmps.get 1 = some (.slice Af fl.length cf) ∧ A.tmps.get 2 = some (.int .i64 p) ∧ A.tmps.get 3 = some (.pointer (some ⟨W.next, 0, none⟩)) ∧ W' = W0 ∧ ∃ i : Nat, k = l.length - i ∧ i ≤ l.length ∧ A.tmps.get 8 = some (.int .i64 i) ∧ A.tmps.get 7 = some (.int .i64 (netZ ((l.zip fl).take i) p)))
    (J := fun A W' => A.n = 45 ∧ A.defers = [] ∧ W' = W0 ∧ A.tmps.get 7 = some (.int .i64 (netZ (l.zip fl) p)))
    (Rt := fun _ _ => False) (k := l.length) ?_ ?_ ?_ ?_
  · exact ⟨rfl, rfl, by simp, by simp, by simp, rfl, 0, by simp, by omega, by simp, by simp [netZ]⟩
  · rintro k ⟨tm, n, ds⟩ W3 ⟨hn, hd, h1, h2, h3, rfl, i, hk, hi, h8, h7⟩ Q' hJ hRt hI
    simp only at hn hd h1 h2 h3
    subst hn; subst hd
    simp only at h7 h8
    try simp only [wpK_assoc]
    refine wpK_reg (fun R hR => by simp [h3, h8, l1, len_slice und22]; exact hR) ?_
    by_cases hlt : i < l.length
    · try simp only [wpK_assoc]
      first | refine wpK_onT (by simp [hlt]) ?_ | refine wpK_outT (by simp [hlt]) ?_ | refine wpK_condT (by simp [hlt]) ?_ | refine wpK_endT (by simp [hlt]) ?_
      have ha : l[i]? = some l[i] := List.getElem?_eq_getElem hlt
      have hx : fl[i]? = some (fl[i]'(by omega)) := List.getElem?_eq_getElem (by omega)
      generalize l[i] = a at ha
      generalize fl[i]'_ = x at hx
      have hzs := zip_snoc ha hx
      obtain ⟨b, o, rfl, q1, q2, q3⟩ := hA i _ ha
      obtain ⟨b', o', rfl, q4⟩ := hB i _ hx
      have eF := indexAddr_slice (T := T0) und43 sz2 (b := b') (o := o') (c := cf) (k := .i64) (show i < fl.length by omega)
      rw [Nat.mul_one] at eF
      have eV := indexAddr_tri (T := T0) und22 sz78 (b := b) (o := o) (c := cv) (k := .i64) hlt
      have lF := load_of und2 rfl (q4.ext hE0)
      have la1 := load_of und3 rfl (q1.ext hE0)
      have la2 := load_of und3 rfl (q2.ext hE0)
      have hbt : ∀ q ∈ (l.zip fl).take i, 0 ≤ q.2 ∧ q.2 ≤ 1000000000 := fun q hq => hb q (List.mem_of_mem_take hq)
      have hzb := netZ_le ((l.zip fl).take i) p hbt
      have hzt : ((l.zip fl).take i).length = i := by rw [List.length_take, hzl]; omega
      rw [hzt] at hzb
      have hxb := hb (a, x) (List.mem_of_getElem? (i := i) (by rw [List.getElem?_zip_eq_some]; exact ⟨ha, hx⟩))
      simp only at hxb
      have hsum : netZ ((l.zip fl).take (i + 1)) p = netZ ((l.zip fl).take i) p + net1 p (a, x) := by rw [hzs, netZ_snoc]
      generalize netZ ((l.zip fl).take i) p = z at h7 hzb hsum
      refine wpK_block ?_
      have w1 : IntKind.i64.wrap (z + x) = z + x := IntWalk.i64_in _ (by omega)
      have w2 : IntKind.i64.wrap (z - x) = z - x := IntWalk.i64_in _ (by omega)
      have w3 : IntKind.i64.wrap z = z := IntWalk.i64_in _ (by omega)
      have fin : ∀ tm' : Tr Value, tm'.get 1 = some (.slice (some ⟨b', o', none⟩) fl.length cf) → tm'.get 2 = some (.int .i64 p) → tm'.get 3 = some (.pointer (some ⟨W.next, 0, none⟩)) → tm'.get 8 = some (.int .i64 ((i + 1 : Nat) : Int)) → tm'.get 7 = some (.int .i64 (z + net1 p (a, x))) → Q' .normal ⟨tm', 45, []⟩ W3 := fun tm' g1 g2 g3 g8 g7 =>
        hI (k - 1) _ _ (by omega) ⟨rfl, rfl, g1, g2, g3, rfl, i + 1, by omega, by omega, g8, by rw [g7, hsum]⟩
      have hsi : IntKind.i64.wrap ((i : Int) + 1) = ((i + 1 : Nat) : Int) := i64_succ i (by omega)
      by_cases c1 : a.1 = p
      · by_cases c2 : a.2.1 = p
        · try simp only [wpK_assoc]
          refine wpK_reg (fun R hR => by simp [h2, h3, h8, l1, eV, la1, c1]; exact hR) ?_
          try simp only [wpK_assoc]
          first | refine wpK_onT (by simp []) ?_ | refine wpK_outT (by simp []) ?_ | refine wpK_condT (by simp []) ?_ | refine wpK_endT (by simp []) ?_
          try simp only [wpK_assoc]
          refine wpK_reg1 (fun R hR => by simp [h1, h7, h8, eF, lF, w1]; exact hR) ?_
          simp only [behind_normal]
          try simp only [wpK_assoc]
          refine wpK_reg (fun R hR => by simp [h2, h3, h8, l1, eV, la2, c2]; exact hR) ?_
          try simp only [wpK_assoc]
          first | refine wpK_onT (by simp []) ?_ | refine wpK_outT (by simp []) ?_ | refine wpK_condT (by simp []) ?_ | refine wpK_endT (by simp []) ?_
          try simp only [wpK_assoc]
          refine wpK_reg1 (fun R hR => by simp [h1, h8, eF, lF, w3]; exact hR) ?_
          try simp only [wpK_assoc]
          refine wpK_reg1 (fun R hR => by simp [h8, hsi]; exact hR) ?_
          exact fin _ (by simp [h1]) (by simp [h2]) (by simp [h3]) (by simp) (by simp [net1, c1, c2])
        · try simp only [wpK_assoc]
          refine wpK_reg (fun R hR => by simp [h2, h3, h8, l1, eV, la1, c1]; exact hR) ?_
          try simp only [wpK_assoc]
          first | refine wpK_onT (by simp []) ?_ | refine wpK_outT (by simp []) ?_ | refine wpK_condT (by simp []) ?_ | refine wpK_endT (by simp []) ?_
          try simp only [wpK_assoc]
          refine wpK_reg1 (fun R hR => by simp [h1, h7, h8, eF, lF, w1]; exact hR) ?_
          simp only [behind_normal]
          try simp only [wpK_assoc]
          refine wpK_reg (fun R hR => by simp [h2, h3, h8, l1, eV, la2, c2]; exact hR) ?_
          try simp only [wpK_assoc]
          first | refine wpK_onF (by simp []) ?_ | refine wpK_out (by simp []) ?_ | refine wpK_condF (by simp []) ?_ | refine wpK_endF (by simp []) (wpK_skip ?_) | refine wpK_endF (by simp []) ?_
          try simp only [wpK_assoc]
          refine wpK_reg1 (fun R hR => by simp [h8, hsi]; exact hR) ?_
          exact fin _ (by simp [h1]) (by simp [h2]) (by simp [h3]) (by simp) (by simp [net1, c1, c2])
      · by_cases c2 : a.2.1 = p
        · try simp only [wpK_assoc]
          refine wpK_reg (fun R hR => by simp [h2, h3, h8, l1, eV, la1, c1]; exact hR) ?_
          try simp only [wpK_assoc]
          first | refine wpK_onF (by simp []) ?_ | refine wpK_out (by simp []) ?_ | refine wpK_condF (by simp []) ?_ | refine wpK_endF (by simp []) (wpK_skip ?_) | refine wpK_endF (by simp []) ?_
          try simp only [wpK_assoc]
          refine wpK_reg (fun R hR => by simp [h2, h3, h8, l1, eV, la2, c2]; exact hR) ?_
          try simp only [wpK_assoc]
          first | refine wpK_onT (by simp []) ?_ | refine wpK_outT (by simp []) ?_ | refine wpK_condT (by simp []) ?_ | refine wpK_endT (by simp []) ?_
          try simp only [wpK_assoc]
          refine wpK_reg1 (fun R hR => by simp [h1, h7, h8, eF, lF, w2]; exact hR) ?_
          try simp only [wpK_assoc]
          refine wpK_reg1 (fun R hR => by simp [h8, hsi]; exact hR) ?_
          exact fin _ (by simp [h1]) (by simp [h2]) (by simp [h3]) (by simp) (by simp [net1, c1, c2]; rfl)
        · try simp only [wpK_assoc]
          refine wpK_reg (fun R hR => by simp [h2, h3, h8, l1, eV, la1, c1]; exact hR) ?_
          try simp only [wpK_assoc]
          first | refine wpK_onF (by simp []) ?_ | refine wpK_out (by simp []) ?_ | refine wpK_condF (by simp []) ?_ | refine wpK_endF (by simp []) (wpK_skip ?_) | refine wpK_endF (by simp []) ?_
          try simp only [wpK_assoc]
          refine wpK_reg (fun R hR => by simp [h2, h3, h8, l1, eV, la2, c2]; exact hR) ?_
          try simp only [wpK_assoc]
          first | refine wpK_onF (by simp []) ?_ | refine wpK_out (by simp []) ?_ | refine wpK_condF (by simp []) ?_ | refine wpK_endF (by simp []) (wpK_skip ?_) | refine wpK_endF (by simp []) ?_
          try simp only [wpK_assoc]
          refine wpK_reg1 (fun R hR => by simp [h8, hsi]; exact hR) ?_
          exact fin _ (by simp [h1]) (by simp [h2]) (by simp [h3]) (by simp) (by simp [net1, c1, c2, h7])
    · have e : i = l.length := by omega
      rw [e, ← hzl, List.take_length] at h7
      try simp only [wpK_assoc]
      first | refine wpK_onF (by simp [hlt]) ?_ | refine wpK_out (by simp [hlt]) ?_ | refine wpK_condF (by simp [hlt]) ?_ | refine wpK_endF (by simp [hlt]) (wpK_skip ?_) | refine wpK_endF (by simp [hlt]) ?_
      exact hJ _ _ ⟨rfl, rfl, rfl, by simp [h7]⟩
  · rintro A' W' hf; exact hf.elim
  · rintro ⟨tm, n, ds⟩ W' ⟨hn, hd, rfl, h7⟩
    simp only at hn hd h7
    subst hn; subst hd
    try simp only [wpK_assoc]
    refine wpK_reg (fun R hR => by simp [h7]; exact hR) ?_
    exact wpK_ret ⟨.inr rfl, rfl, [.int .i64 (netZ (l.zip fl) p)], by simp, hE0, rfl⟩
theorem refIsFlow_wp {W : AW} {v fv : Value} {P s t : Nat} {l : List Tri} {fl : List Int} (h : TriIn W v l) (hF : IntL W fv fl) (hok : planOk P (arcsQ l) = true) (hst : two? s t P = true) (hfl : fl.length < 4611686018427387904) :
    WpF T0 33 [.agg ⟨[.int .i64 P, v]⟩, .int .i64 s, .int .i64 t, fv] W (fun u W' => Ext W W' ∧ ((isFl P s t l fl ∧ u = .tuple ⟨[.int .i64 (netZ (l.zip fl) s), .bool true]⟩) ∨ (¬ isFl P s t l fl ∧ u = .tuple ⟨[.int .i64 0, .bool false]⟩))) := by
  obtain ⟨hP2, hP24, h200⟩ := (arcsQ_in hok).size
  have hql : (arcsQ l).length = l.length := by simp [arcsQ]
  rw [hql] at h200
  have h' := h
  have hF' := hF
  obtain ⟨Av, cv, rfl, hA⟩ := h
  obtain ⟨Af, cf, rfl, hB⟩ := hF
  have hst' := hst
  simp only [two?, Bool.and_eq_true, decide_eq_true_eq] at hst'
  refine wpF fun33 rfl ?_
  obtain ⟨W0, hW0, hE0, hV0⟩ : ∃ W0, W0 = W.newCells 24 [.int .i64 P, .slice Av l.length cv] ∧ Ext W W0 ∧ Var W0 W.next 24 [.int .i64 P, .slice Av l.length cv] := ⟨_, rfl, .newCells _ _ _, Var.new _ _ _⟩
  have l0 : ∀ W', Ext W0 W' → aLoadVar T0 W' 3 W.next 0 = some (.int .i64 P) := fun W' h => (hV0.ext h).load1 (T := T0) und3 rfl (j := 0) (v := .int .i64 P) rfl
  have l1 : ∀ W', Ext W0 W' → aLoadVar T0 W' 22 W.next 1 = some (.slice Av l.length cv) := fun W' h => (hV0.ext h).load1 (T := T0) und22 rfl (j := 1) (v := .slice Av l.length cv) rfl
  have l24 : ∀ W', Ext W0 W' → aLoadVar T0 W' 24 W.next 0 = some (.agg ⟨[.int .i64 P, .slice Av l.length cv]⟩) := fun W' h => load24 (hV0.ext h)
  have e00 : Ext W0 W0 := .refl _ _
  have hck := refCheck_wp (P : Int) (h'.ext hE0)
  rw [chk, hok] at hck
  have hen : endE P s t = 0 := by simp only [endE, hst, if_true]
  try simp only [wpK_assoc]
  refine wpK_reg (fun R hR => by simp [← hW0]; exact hR) ?_
  have first : ∀ (b : Bool), (b = true ↔ fl.length = l.length) → True := fun _ _ => trivial
  clear first
  have hstep : ∀ W1 : AW, Ext W0 W1 → WpF T0 18 [.int .i64 P, .int .i64 s, .int .i64 t] W1 (fun v W' => W' = W1 ∧ v = .int .i64 0) := fun W1 _ => by
    have := refEnds_wp (P : Int) (s : Int) (t : Int) W1
    rw [hen] at this; exact this
  by_cases hlen : fl.length = l.length
  case neg =>
    have hlen' : ¬ (fl.length : Int) = (l.length : Int) := by omega
    try simp only [wpK_assoc]
    refine wpK_x0 (fun R hR => by
      simp [l24, e00, aEnter, fun14, short_other, aCallV]; rw [callS_none]
      refine hck.mono ?_
      rintro _ W1 ⟨e1, rfl⟩
      simp [l0, e1, aEnter, fun18, short_other, aCallV]; rw [callS_none]
      refine (hstep W1 e1).mono ?_
      rintro _ W9 ⟨e9, rfl⟩; subst W9
      simp [l1, e1, len_slice und43, len_slice und22, hlen']; exact hR W1 e1) ?_
    rintro W1 e1
    try simp only [wpK_assoc]
    first | refine wpK_onT (by simp []) ?_ | refine wpK_outT (by simp []) ?_ | refine wpK_condT (by simp []) ?_ | refine wpK_endT (by simp []) ?_
    try simp only [wpK_assoc]
    refine wpK_reg (fun R hR => by simp []; exact hR) ?_
    exact wpK_ret ⟨.inr rfl, rfl, [.int .i64 0, .bool false], by simp, hE0.trans e1, .inr ⟨fun hf => hlen hf.1, rfl⟩⟩
  rw [hlen]
  rw [hlen] at hF'
  try simp only [wpK_assoc]
  refine wpK_x0 (fun R hR => by
    simp [l24, e00, aEnter, fun14, short_other, aCallV]; rw [callS_none]
    refine hck.mono ?_
    rintro _ W1 ⟨e1, rfl⟩
    simp [l0, e1, aEnter, fun18, short_other, aCallV]; rw [callS_none]
    refine (hstep W1 e1).mono ?_
    rintro _ W9 ⟨e9, rfl⟩; subst W9
    simp [l1, e1, len_slice und43, len_slice und22]; exact hR W1 e1) ?_
  rintro W1 e1
  try simp only [wpK_assoc]
  first | refine wpK_onF (by simp []) ?_ | refine wpK_out (by simp []) ?_ | refine wpK_condF (by simp []) ?_ | refine wpK_endF (by simp []) (wpK_skip ?_) | refine wpK_endF (by simp []) ?_
  try simp only [wpK_assoc]
  refine wpK_reg (fun R hR => by simp []; exact hR) ?_
  have hzl : (l.zip fl).length = l.length := by rw [List.length_zip]; omega
  try simp only [wpK_assoc]
  refine wpK_while (I := fun k A W' => A.n = 80 ∧ A.defers = [] ∧ A.tmps.get 1 = some (.int .i64 s) ∧ A.tmps.get 2 = some (.int .i64 t) ∧ A.tmps.get 3 = some (.slice Af l.length cf) ∧ A.tmps.get 4 = some (.pointer (some ⟨W.next, 0, none⟩)) ∧ W' = W1 ∧ ∃ i : Nat, k = l.length - i ∧ i ≤ l.length ∧ A.tmps.get 10 = some (.int .i64 i) ∧ capsOk ((l.zip fl).take i))
    (J := fun A W' => A.n = 80 ∧ A.defers = [] ∧ A.tmps.get 1 = some (.int .i64 s) ∧ A.tmps.get 2 = some (.int .i64 t) ∧ A.tmps.get 3 = some (.slice Af l.length cf) ∧ A.tmps.get 4 = some (.pointer (some ⟨W.next, 0, none⟩)) ∧ W' = W1 ∧ capsOk (l.zip fl))
    (Rt := fun A W' => A.defers = [] ∧ A.tmps.get 8 = some (.int .i64 0) ∧ A.tmps.get 9 = some (.bool false) ∧ W' = W1 ∧ ¬ capsOk (l.zip fl)) (k := l.length) ?_ ?_ ?_ ?_
  · exact ⟨rfl, rfl, by simp, by simp, by simp, by simp, rfl, 0, by simp, by omega, by simp, fun q hq => by simp at hq⟩
  · rintro k ⟨tm, n, ds⟩ W3 ⟨hn, hd, h1, h2, h3, h4, rfl, i, hk, hi, h10, hcaps⟩ Q' hJ hRt hI
    simp only at hn hd h1 h2 h3 h4
    subst hn; subst hd
    simp only at h10
    try simp only [wpK_assoc]
    refine wpK_reg (fun R hR => by simp [h3, h10, len_slice und43]; exact hR) ?_
    by_cases hlt : i < l.length
    · try simp only [wpK_assoc]
      first | refine wpK_onT (by simp [hlt]) ?_ | refine wpK_outT (by simp [hlt]) ?_ | refine wpK_condT (by simp [hlt]) ?_ | refine wpK_endT (by simp [hlt]) ?_
      have ha : l[i]? = some l[i] := List.getElem?_eq_getElem hlt
      have hx : fl[i]? = some (fl[i]'(by omega)) := List.getElem?_eq_getElem (by omega)
      generalize l[i] = a at ha
      generalize fl[i]'_ = x at hx
      have hzs := zip_snoc ha hx
      obtain ⟨b, o, rfl, q1, q2, q3⟩ := hA i _ ha
      obtain ⟨b', o', rfl, q4⟩ := hB i _ hx
      have eF := indexAddr_slice (T := T0) und43 sz2 (b := b') (o := o') (c := cf) (k := .i64) hlt
      rw [Nat.mul_one] at eF
      have eV := indexAddr_tri (T := T0) und22 sz78 (b := b) (o := o) (c := cv) (k := .i64) hlt
      have lF := load_of und2 rfl (q4.ext (hE0.trans e1))
      have la3 := load_of und2 rfl (q3.ext (hE0.trans e1))
      have bad : ¬ (0 ≤ x ∧ x ≤ a.2.2) → ¬ capsOk (l.zip fl) := fun hb hc => hb (hc (a, x) (List.mem_of_getElem? (i := i) (by rw [List.getElem?_zip_eq_some]; exact ⟨ha, hx⟩)))
      have hsi : IntKind.i64.wrap ((i : Int) + 1) = ((i + 1 : Nat) : Int) := i64_succ i (by omega)
      refine wpK_block ?_
      by_cases g1 : x < 0
      · try simp only [wpK_assoc]
        refine wpK_dn (wr := Tr.nil |>.set 37 0 |>.set 38 1 |>.set 39 2 |>.set 40 3 |>.set 41 4 |>.set 42 5 |>.set 43 6 |>.set 44 7 |>.set 45 8 |>.set 46 9 |>.set 47 10 |>.set 48 11 |>.set 49 12 |>.set 50 13 |>.set 51 14 |>.set 52 15 |>.set 53 16 |>.set 54 17) (bits := Tr.nil.lay 0 [0, 0, 3, 7, 15, 31, 63, 63, 255, 511, 63, 1087, 63, 7231, 15423, 31807, 65535, 131071]) (ord := [0, 1, 2, 3, 4, 5, 6, 7, 8, 9, 10, 11, 12, 13, 14, 15, 16, 17]) (by kernel_rfl) (by kernel_rfl) (by kernel_rfl) (fun G hG => by
          simp [h3, h4, h10, eF, lF, eV, la3, l1, e1, g1, undef]
          exact hG) ?_
        try simp only [wpK_assoc]
        first | refine wpK_onT (by simp []) ?_ | refine wpK_outT (by simp []) ?_ | refine wpK_condT (by simp []) ?_ | refine wpK_endT (by simp []) ?_
        try simp only [wpK_assoc]
        refine wpK_reg (fun R hR => by simp []; exact hR) ?_
        exact wpK_ret (hRt _ _ ⟨rfl, by simp, by simp, rfl, bad (by omega)⟩)
      by_cases g2 : a.2.2 < x
      · try simp only [wpK_assoc]
        refine wpK_dn (wr := Tr.nil |>.set 37 0 |>.set 38 1 |>.set 39 2 |>.set 40 3 |>.set 41 4 |>.set 42 5 |>.set 43 6 |>.set 44 7 |>.set 45 8 |>.set 46 9 |>.set 47 10 |>.set 48 11 |>.set 49 12 |>.set 50 13 |>.set 51 14 |>.set 52 15 |>.set 53 16 |>.set 54 17) (bits := Tr.nil.lay 0 [0, 0, 3, 7, 15, 31, 63, 63, 255, 511, 63, 1087, 63, 7231, 15423, 31807, 65535, 131071]) (ord := [0, 1, 2, 3, 4, 5, 6, 7, 8, 9, 10, 11, 12, 13, 14, 15, 16, 17]) (by kernel_rfl) (by kernel_rfl) (by kernel_rfl) (fun G hG => by
          simp [h3, h4, h10, eF, lF, eV, la3, l1, e1, g1, g2, undef]
          exact hG) ?_
        try simp only [wpK_assoc]
        first | refine wpK_onT (by simp []) ?_ | refine wpK_outT (by simp []) ?_ | refine wpK_condT (by simp []) ?_ | refine wpK_endT (by simp []) ?_
        try simp only [wpK_assoc]
        refine wpK_reg (fun R hR => by simp []; exact hR) ?_
        exact wpK_ret (hRt _ _ ⟨rfl, by simp, by simp, rfl, bad (by omega)⟩)
      try simp only [wpK_assoc]
      refine wpK_dn (wr := Tr.nil |>.set 37 0 |>.set 38 1 |>.set 39 2 |>.set 40 3 |>.set 41 4 |>.set 42 5 |>.set 43 6 |>.set 44 7 |>.set 45 8 |>.set 46 9 |>.set 47 10 |>.set 48 11 |>.set 49 12 |>.set 50 13 |>.set 51 14 |>.set 52 15 |>.set 53 16 |>.set 54 17) (bits := Tr.nil.lay 0 [0, 0, 3, 7, 15, 31, 63, 63, 255, 511, 63, 1087, 63, 7231, 15423, 31807, 65535, 131071]) (ord := [0, 1, 2, 3, 4, 5, 6, 7, 8, 9, 10, 11, 12, 13, 14, 15, 16, 17]) (by kernel_rfl) (by kernel_rfl) (by kernel_rfl) (fun G hG => by
        simp [h3, h4, h10, eF, lF, eV, la3, l1, e1, g1, g2, undef]
        exact hG) ?_
      try simp only [wpK_assoc]
      first | refine wpK_onF (by simp []) ?_ | refine wpK_out (by simp []) ?_ | refine wpK_condF (by simp []) ?_ | refine wpK_endF (by simp []) (wpK_skip ?_) | refine wpK_endF (by simp []) ?_
      try simp only [wpK_assoc]
      refine wpK_reg1 (fun R hR => by simp [h10, hsi]; exact hR) ?_
      refine hI (k - 1) _ _ (by omega) ⟨rfl, rfl, by simp [h1, h2, h3, h4], by simp [h1, h2, h3, h4], by simp [h1, h2, h3, h4], by simp [h1, h2, h3, h4], rfl, i + 1, by omega, by omega, by simp, ?_⟩
      rw [hzs]
      intro q hq
      rcases List.mem_append.1 hq with hq | hq
      · exact hcaps q hq
      · simp at hq; subst hq; exact ⟨by omega, by simp only; omega⟩
    · have e : i = l.length := by omega
      rw [e, ← hzl, List.take_length] at hcaps
      try simp only [wpK_assoc]
      first | refine wpK_onF (by simp [hlt]) ?_ | refine wpK_out (by simp [hlt]) ?_ | refine wpK_condF (by simp [hlt]) ?_ | refine wpK_endF (by simp [hlt]) (wpK_skip ?_) | refine wpK_endF (by simp [hlt]) ?_
      exact hJ _ _ ⟨rfl, rfl, by simp [h1, h2, h3, h4], by simp [h1, h2, h3, h4], by simp [h1, h2, h3, h4], by simp [h1, h2, h3, h4], rfl, hcaps⟩
  · rintro A' W' ⟨g1, g2, g3, rfl, g5⟩
    exact ⟨.inr rfl, g1, [.int .i64 0, .bool false], by simp [g2, g3], hE0.trans e1, .inr ⟨fun hf => g5 hf.2.1, rfl⟩⟩
  rintro ⟨tm, n, ds⟩ W3 ⟨hn, hd, h1, h2, h3, h4, rfl, hcaps⟩
  simp only at hn hd h1 h2 h3 h4
  subst hn; subst hd
  have hbz := caps_bound hok hcaps
  try simp only [wpK_assoc]
  refine wpK_reg (fun R hR => by simp []; exact hR) ?_
  try simp only [wpK_assoc]
  refine wpK_while (I := fun k A W' => A.n = 80 ∧ A.defers = [] ∧ A.tmps.get 1 = some (.int .i64 s) ∧ A.tmps.get 2 = some (.int .i64 t) ∧ A.tmps.get 3 = some (.slice Af l.length cf) ∧ A.tmps.get 4 = some (.pointer (some ⟨W.next, 0, none⟩)) ∧ Ext W0 W' ∧ ∃ i : Nat, k = P - i ∧ i ≤ P ∧ A.tmps.get 11 = some (.int .i64 i) ∧ ∀ p : Nat, p < i → p ≠ s → p ≠ t → netZ (l.zip fl) p = 0)
    (J := fun A W' => A.n = 80 ∧ A.defers = [] ∧ A.tmps.get 1 = some (.int .i64 s) ∧ A.tmps.get 2 = some (.int .i64 t) ∧ A.tmps.get 3 = some (.slice Af l.length cf) ∧ A.tmps.get 4 = some (.pointer (some ⟨W.next, 0, none⟩)) ∧ Ext W0 W' ∧ isFl P s t l fl)
    (Rt := fun A W' => A.defers = [] ∧ A.tmps.get 8 = some (.int .i64 0) ∧ A.tmps.get 9 = some (.bool false) ∧ Ext W0 W' ∧ ¬ isFl P s t l fl) (k := P) ?_ ?_ ?_ ?_
  · exact ⟨rfl, rfl, by simp [h1, h2, h3, h4], by simp [h1, h2, h3, h4], by simp [h1, h2, h3, h4], by simp [h1, h2, h3, h4], e1, 0, by simp, by omega, by simp, fun p hp => by omega⟩
  · rintro k ⟨tm, n, ds⟩ W4 ⟨hn, hd, h1, h2, h3, h4, e4, i, hk, hi, h11, hz⟩ Q' hJ hRt hI
    simp only at hn hd h1 h2 h3 h4
    subst hn; subst hd
    simp only at h11
    try simp only [wpK_assoc]
    refine wpK_reg (fun R hR => by simp [h4, h11, l0, e4]; exact hR) ?_
    by_cases hlt : i < P
    · try simp only [wpK_assoc]
      first | refine wpK_onT (by simp [hlt]) ?_ | refine wpK_outT (by simp [hlt]) ?_ | refine wpK_condT (by simp [hlt]) ?_ | refine wpK_endT (by simp [hlt]) ?_
      have hsi : IntKind.i64.wrap ((i : Int) + 1) = ((i + 1 : Nat) : Int) := i64_succ i (by omega)
      refine wpK_block ?_
      have next : ∀ (tm' : Tr Value) (W5 : AW), Ext W0 W5 → tm'.get 1 = some (.int .i64 s) → tm'.get 2 = some (.int .i64 t) → tm'.get 3 = some (.slice Af l.length cf) → tm'.get 4 = some (.pointer (some ⟨W.next, 0, none⟩)) → tm'.get 11 = some (.int .i64 ((i + 1 : Nat) : Int)) → (i ≠ s → i ≠ t → netZ (l.zip fl) i = 0) → Q' .normal ⟨tm', 80, []⟩ W5 := fun tm' W5 e5 g1 g2 g3 g4 g11 g =>
        hI (k - 1) _ _ (by omega) ⟨rfl, rfl, g1, g2, g3, g4, e5, i + 1, by omega, by omega, g11, fun p hp h1 h2 => by
          by_cases e : p = i
          · subst e; exact g h1 h2
          · exact hz p (by omega) h1 h2⟩
      by_cases g1 : i = s
      · have g1' : (i : Int) = s := by omega
        try simp only [wpK_assoc]
        refine wpK_reg (fun R hR => by simp [h1, h2, h11, g1', undef]; exact hR) ?_
        try simp only [wpK_assoc]
        first | refine wpK_onF (by simp []) ?_ | refine wpK_out (by simp []) ?_ | refine wpK_condF (by simp []) ?_ | refine wpK_endF (by simp []) (wpK_skip ?_) | refine wpK_endF (by simp []) ?_
        try simp only [wpK_assoc]
        refine wpK_reg1 (fun R hR => by simp [h11, hsi]; exact hR) ?_
        exact next _ _ e4 (by simp [h1]) (by simp [h2]) (by simp [h3]) (by simp [h4]) (by simp) (fun h => absurd g1 h)
      have g1' : ¬ (i : Int) = s := by omega
      by_cases g2 : i = t
      · have g2' : (i : Int) = t := by omega
        have g3' : ¬ (t : Int) = s := by omega
        try simp only [wpK_assoc]
        refine wpK_reg (fun R hR => by simp [h1, h2, h11, g1', g2', g3', undef]; exact hR) ?_
        try simp only [wpK_assoc]
        first | refine wpK_onF (by simp []) ?_ | refine wpK_out (by simp []) ?_ | refine wpK_condF (by simp []) ?_ | refine wpK_endF (by simp []) (wpK_skip ?_) | refine wpK_endF (by simp []) ?_
        try simp only [wpK_assoc]
        refine wpK_reg1 (fun R hR => by simp [h11, hsi]; exact hR) ?_
        exact next _ _ e4 (by simp [h1]) (by simp [h2]) (by simp [h3]) (by simp [h4]) (by simp) (fun _ h => absurd g2 h)
      have g2' : ¬ (i : Int) = t := by omega
      have hv := value_wp (P := (P : Int)) (h'.ext (hE0.trans e4)) (hF'.ext (hE0.trans e4)) hlen h200 hbz i
      by_cases g3 : netZ (l.zip fl) i = 0
      · try simp only [wpK_assoc]
        refine wpK_x0 (fun R hR => by
            simp [h1, h2, h3, h4, h11, g1', g2', l24, e4, aEnter, fun71, short_other, aCallV]; rw [callS_none]
            refine (hv).mono ?_
            rintro _ W5 ⟨e45, rfl⟩
            simp [g3]; exact hR W5 e45) ?_
        rintro W5 e45
        try simp only [wpK_assoc]
        first | refine wpK_onF (by simp []) ?_ | refine wpK_out (by simp []) ?_ | refine wpK_condF (by simp []) ?_ | refine wpK_endF (by simp []) (wpK_skip ?_) | refine wpK_endF (by simp []) ?_
        try simp only [wpK_assoc]
        refine wpK_reg1 (fun R hR => by simp [h11, hsi]; exact hR) ?_
        exact next _ _ (e4.trans e45) (by simp [h1]) (by simp [h2]) (by simp [h3]) (by simp [h4]) (by simp) (fun _ _ => g3)
      · try simp only [wpK_assoc]
        refine wpK_x0 (fun R hR => by
            simp [h1, h2, h3, h4, h11, g1', g2', l24, e4, aEnter, fun71, short_other, aCallV]; rw [callS_none]
            refine (hv).mono ?_
            rintro _ W5 ⟨e45, rfl⟩
            simp [g3]; exact hR W5 e45) ?_
        rintro W5 e45
        try simp only [wpK_assoc]
        first | refine wpK_onT (by simp []) ?_ | refine wpK_outT (by simp []) ?_ | refine wpK_condT (by simp []) ?_ | refine wpK_endT (by simp []) ?_
        try simp only [wpK_assoc]
        refine wpK_reg (fun R hR => by simp []; exact hR) ?_
        exact wpK_ret (hRt _ _ ⟨rfl, by simp, by simp, e4.trans e45, fun hf => g3 (hf.2.2 i hlt g1 g2)⟩)
    · have e : i = P := by omega
      subst e
      try simp only [wpK_assoc]
      first | refine wpK_onF (by simp []) ?_ | refine wpK_out (by simp []) ?_ | refine wpK_condF (by simp []) ?_ | refine wpK_endF (by simp []) (wpK_skip ?_) | refine wpK_endF (by simp []) ?_
      exact hJ _ _ ⟨rfl, rfl, by simp [h1, h2, h3, h4], by simp [h1, h2, h3, h4], by simp [h1, h2, h3, h4], by simp [h1, h2, h3, h4], e4, hlen, hcaps, hz⟩
  · rintro A' W' ⟨g1, g2, g3, g4, g5⟩
    exact ⟨.inr rfl, g1, [.int .i64 0, .bool false], by simp [g2, g3], hE0.trans g4, .inr ⟨g5, rfl⟩⟩
  rintro ⟨tm, n, ds⟩ W4 ⟨hn, hd, h1, h2, h3, h4, e4, hfl'⟩
  simp only at hn hd h1 h2 h3 h4
  subst hn; subst hd
  have hv := value_wp (P := (P : Int)) (h'.ext (hE0.trans e4)) (hF'.ext (hE0.trans e4)) hlen h200 hbz s
  try simp only [wpK_assoc]
  refine wpK_x0 (fun R hR => by
      simp [h1, h3, h4, l24, e4, aEnter, fun71, short_other, aCallV]; rw [callS_none]
      refine (hv).mono ?_
      rintro _ W5 ⟨e45, rfl⟩
      simp [h1, h3, h4, l24, e4]; exact hR W5 e45) ?_
  rintro W5 e45
  exact wpK_ret ⟨.inr rfl, rfl, [.int .i64 (netZ (l.zip fl) s), .bool true], by simp, (hE0.trans e4).trans e45, .inl ⟨hfl', rfl⟩⟩
end Go.Proofs.YtkgfjfkgmpeobaaDoor

open Go Go.Eng
namespace Go.Proofs.YtkgfjfkgmpeobaaDoor
attribute [local congr] undef_congr WpK.congr WpS.congr WpL.congr WpC.congr WpF.congr gotS.congr callS.congr nextS.congr wantS.congr condS.congr
attribute [local irreducible] WpK
attribute [local simp] WpDr_nil WpDr_cons atS_some dwantS_true dwantS_false kindS_light kindS_float kindS_heavy lightS_value floatS_some heavyS_value heavyS_skip heavyS_enter dcallS_some doneS_eq
  isLight isFloat isPlain dLook testBit_dec dChain dLights_nil dLights_skip dLights_one dLight_nil dLight_cons dFreshes_nil dFreshes_one oneF_none oneF_some dFresh_nil dFresh_cons oneL_some oneW_true oneW_false sameV_value dPut dMay valEq arrEq listEq List.getElem?_cons Tr.get_nil dEnd
attribute [local simp] WpS_nil WpS_cons isDefer undef_false wantS_true wantS_false nextS_value nextS_skip nextS_enter callS_some gotS_some aWanted aOp aEvalF aEval opMove opAssign opPick aVal flat flat1 AAct.put opBinOp opConvert opIndex Tr.get_set Tr.get_lay aBin aResults tupled
  aCall aVals aCallB blt_dec ble_dec beq_dec aBinI_add aBinI_sub aBinI_lss aBinI_leq aBinI_gtr aBinI_geq aBinI_eql aBinI_neq index_str len_str len_slice Nat.beq_refl und2 und3 und4 und5 und39 und76 und82 und115 und22 und29 und25 und33 und46 und43 und49 und111 und113 field151 field155_0 field155_1 field155_2 field155_3 field155_4
  field78 field106 field24 field31 field27 field35 field108 field109 opBox opLoad opFieldAddr opIndexAddr acells aAddr opExtract aExtract opUnOp opAlloc opStore opMakeInterface opNilCheck opBuild aParts opBuildSlice aValW
set_option maxHeartbeats 4000000
set_option linter.unusedSimpArgs false
set_option linter.unusedVariables false
def bitI (S i : Nat) : Int := if S.testBit i then 1 else 0
end Go.Proofs.YtkgfjfkgmpeobaaDoor

open Go Go.Eng
namespace Go.Proofs.YtkgfjfkgmpeobaaDoor
attribute [local congr] undef_congr WpK.congr WpS.congr WpL.congr WpC.congr WpF.congr gotS.congr callS.congr nextS.congr wantS.congr condS.congr
attribute [local irreducible] WpK
attribute [local simp] WpDr_nil WpDr_cons atS_some dwantS_true dwantS_false kindS_light kindS_float kindS_heavy lightS_value floatS_some heavyS_value heavyS_skip heavyS_enter dcallS_some doneS_eq
  isLight isFloat isPlain dLook testBit_dec dChain dLights_nil dLights_skip dLights_one dLight_nil dLight_cons dFreshes_nil dFreshes_one oneF_none oneF_some dFresh_nil dFresh_cons oneL_some oneW_true oneW_false sameV_value dPut dMay valEq arrEq listEq List.getElem?_cons Tr.get_nil dEnd
attribute [local simp] WpS_nil WpS_cons isDefer undef_false wantS_true wantS_false nextS_value nextS_skip nextS_enter callS_some gotS_some aWanted aOp aEvalF aEval opMove opAssign opPick aVal flat flat1 AAct.put opBinOp opConvert opIndex Tr.get_set Tr.get_lay aBin aResults tupled
  aCall aVals aCallB blt_dec ble_dec beq_dec aBinI_add aBinI_sub aBinI_lss aBinI_leq aBinI_gtr aBinI_geq aBinI_eql aBinI_neq index_str len_str len_slice Nat.beq_refl und2 und3 und4 und5 und39 und76 und82 und115 und22 und29 und25 und33 und46 und43 und49 und111 und113 field151 field155_0 field155_1 field155_2 field155_3 field155_4
  field78 field106 field24 field31 field27 field35 field108 field109 opBox opLoad opFieldAddr opIndexAddr acells aAddr opExtract aExtract opUnOp opAlloc opStore opMakeInterface opNilCheck opBuild aParts opBuildSlice aValW
set_option maxHeartbeats 4000000
set_option linter.unusedSimpArgs false
set_option linter.unusedVariables false
def isCut (s t T : Nat) : Prop := T.testBit s = true ∧ T.testBit t = false
def Seen (s t : Nat) (l : List Quad) (k : Nat) (best : Int) (com : Nat) : Prop :=
  ((∀ T, T < k → ¬ isCut s t T) ∧ best = -1) ∨
  (0 ≤ best ∧ (∃ T, T < k ∧ isCut s t T ∧ capQ T l = best) ∧ (∀ T, T < k → isCut s t T → best ≤ capQ T l) ∧ (∀ q, com.testBit q = true ↔ ∀ T, T < k → isCut s t T → capQ T l = best → T.testBit q = true))
theorem Seen.skip {s t : Nat} {l : List Quad} {k : Nat} {best : Int} {com : Nat} (h : Seen s t l k best com) (hk : ¬ isCut s t k) : Seen s t l (k + 1) best com := by
  have sp : ∀ T, T < k + 1 → isCut s t T → T < k := fun T hT hc => by
    by_cases e : T = k
    · subst e; exact absurd hc hk
    · omega
  rcases h with ⟨h1, h2⟩ | ⟨h0, ⟨T0, a1, a2, a3⟩, h2, h3⟩
  · exact .inl ⟨fun T hT hc => h1 T (sp T hT hc) hc, h2⟩
  · exact .inr ⟨h0, ⟨T0, by omega, a2, a3⟩, fun T hT hc => h2 T (sp T hT hc) hc, fun q => (h3 q).trans ⟨fun h T hT hc he => h T (sp T hT hc) hc he, fun h T hT hc he => h T (by omega) hc he⟩⟩
theorem Seen.less {s t : Nat} {l : List Quad} {k : Nat} {best : Int} {com : Nat} (h : Seen s t l k best com) (hk : isCut s t k) (h0 : 0 ≤ capQ k l) (hc : best < 0 ∨ capQ k l < best) : Seen s t l (k + 1) (capQ k l) k := by
  have old : ∀ T, T < k → isCut s t T → capQ k l < capQ T l := fun T hT hT2 => by
    rcases h with ⟨h1, _⟩ | ⟨g0, _, h2, _⟩
    · exact absurd hT2 (h1 T hT)
    · have := h2 T hT hT2; omega
  refine .inr ⟨h0, ⟨k, by omega, hk, rfl⟩, fun T hT hT2 => ?_, fun q => ⟨fun hq T hT hT2 he => ?_, fun hall => hall k (by omega) hk rfl⟩⟩
  · by_cases e : T = k
    · subst e; exact Int.le_refl _
    · have := old T (by omega) hT2; omega
  · by_cases e : T = k
    · subst e; exact hq
    · have := old T (by omega) hT2; omega
theorem Seen.same {s t : Nat} {l : List Quad} {k : Nat} {best : Int} {com : Nat} (h : Seen s t l k best com) (hk : isCut s t k) (hb : 0 ≤ best) (hc : capQ k l = best) : Seen s t l (k + 1) best (com &&& k) := by
  rcases h with ⟨h1, h2⟩ | ⟨_, ⟨T0, a1, a2, a3⟩, h2, h3⟩
  · omega
  · refine .inr ⟨hb, ⟨T0, by omega, a2, a3⟩, fun T hT hT2 => ?_, fun q => ?_⟩
    · by_cases e : T = k
      · subst e; omega
      · exact h2 T (by omega) hT2
    · rw [Nat.testBit_and, Bool.and_eq_true, h3 q]
      constructor
      · rintro ⟨g1, g2⟩ T hT hT2 he
        by_cases e : T = k
        · subst e; exact g2
        · exact g1 T (by omega) hT2 he
      · intro hall
        exact ⟨fun T hT hT2 he => hall T (by omega) hT2 he, hall k (by omega) hk hc⟩
theorem Seen.more {s t : Nat} {l : List Quad} {k : Nat} {best : Int} {com : Nat} (h : Seen s t l k best com) (hk : isCut s t k) (hb : 0 ≤ best) (hc : best < capQ k l) : Seen s t l (k + 1) best com := by
  rcases h with ⟨h1, h2⟩ | ⟨_, ⟨T0, a1, a2, a3⟩, h2, h3⟩
  · omega
  · refine .inr ⟨hb, ⟨T0, by omega, a2, a3⟩, fun T hT hT2 => ?_, fun q => (h3 q).trans ⟨fun h T hT hT2 he => ?_, fun h T hT hT2 he => h T (by omega) hT2 he⟩⟩
    · by_cases e : T = k
      · subst e; omega
      · exact h2 T (by omega) hT2
    · by_cases e : T = k
      · subst e; omega
      · exact h T (by omega) hT2 he
end Go.Proofs.YtkgfjfkgmpeobaaDoor

open Go Go.Eng
namespace Go.Proofs.YtkgfjfkgmpeobaaDoor
attribute [local congr] undef_congr WpK.congr WpS.congr WpL.congr WpC.congr WpF.congr gotS.congr callS.congr nextS.congr wantS.congr condS.congr
attribute [local irreducible] WpK
attribute [local simp] WpDr_nil WpDr_cons atS_some dwantS_true dwantS_false kindS_light kindS_float kindS_heavy lightS_value floatS_some heavyS_value heavyS_skip heavyS_enter dcallS_some doneS_eq
  isLight isFloat isPlain dLook testBit_dec dChain dLights_nil dLights_skip dLights_one dLight_nil dLight_cons dFreshes_nil dFreshes_one oneF_none oneF_some dFresh_nil dFresh_cons oneL_some oneW_true oneW_false sameV_value dPut dMay valEq arrEq listEq List.getElem?_cons Tr.get_nil dEnd
attribute [local simp] WpS_nil WpS_cons isDefer undef_false wantS_true wantS_false nextS_value nextS_skip nextS_enter callS_some gotS_some aWanted aOp aEvalF aEval opMove opAssign opPick aVal flat flat1 AAct.put opBinOp opConvert opIndex Tr.get_set Tr.get_lay aBin aResults tupled
  aCall aVals aCallB blt_dec ble_dec beq_dec aBinI_add aBinI_sub aBinI_lss aBinI_leq aBinI_gtr aBinI_geq aBinI_eql aBinI_neq index_str len_str len_slice Nat.beq_refl und2 und3 und4 und5 und39 und76 und82 und115 und22 und29 und25 und33 und46 und43 und49 und111 und113 field151 field155_0 field155_1 field155_2 field155_3 field155_4
  field78 field106 field24 field31 field27 field35 field108 field109 opBox opLoad opFieldAddr opIndexAddr acells aAddr opExtract aExtract opUnOp opAlloc opStore opMakeInterface opNilCheck opBuild aParts opBuildSlice aValW
set_option maxHeartbeats 4000000
set_option linter.unusedSimpArgs false
set_option linter.unusedVariables false
end Go.Proofs.YtkgfjfkgmpeobaaDoor

open Go Go.Eng
namespace Go.Proofs.YtkgfjfkgmpeobaaDoor
attribute [local congr] undef_congr WpK.congr WpS.congr WpL.congr WpC.congr WpF.congr gotS.congr callS.congr nextS.congr wantS.congr condS.congr
attribute [local irreducible] WpK
attribute [local simp] WpDr_nil WpDr_cons atS_some dwantS_true dwantS_false kindS_light kindS_float kindS_heavy lightS_value floatS_some heavyS_value heavyS_skip heavyS_enter dcallS_some doneS_eq
  isLight isFloat isPlain dLook testBit_dec dChain dLights_nil dLights_skip dLights_one dLight_nil dLight_cons dFreshes_nil dFreshes_one oneF_none oneF_some dFresh_nil dFresh_cons oneL_some oneW_true oneW_false sameV_value dPut dMay valEq arrEq listEq List.getElem?_cons Tr.get_nil dEnd
attribute [local simp] WpS_nil WpS_cons isDefer undef_false wantS_true wantS_false nextS_value nextS_skip nextS_enter callS_some gotS_some aWanted aOp aEvalF aEval opMove opAssign opPick aVal flat flat1 AAct.put opBinOp opConvert opIndex Tr.get_set Tr.get_lay aBin aResults tupled
  aCall aVals aCallB blt_dec ble_dec beq_dec aBinI_add aBinI_sub aBinI_lss aBinI_leq aBinI_gtr aBinI_geq aBinI_eql aBinI_neq index_str len_str len_slice Nat.beq_refl und2 und3 und4 und5 und39 und76 und82 und115 und22 und29 und25 und33 und46 und43 und49 und111 und113 field151 field155_0 field155_1 field155_2 field155_3 field155_4
  field78 field106 field24 field31 field27 field35 field108 field109 opBox opLoad opFieldAddr opIndexAddr acells aAddr opExtract aExtract opUnOp opAlloc opStore opMakeInterface opNilCheck opBuild aParts opBuildSlice aValW
set_option maxHeartbeats 4000000
set_option linter.unusedSimpArgs false
set_option linter.unusedVariables false
theorem refRising_wp {W : AW} {v : Value} {l : List Int} (h : IntL W v l) (P : Nat) (hlen : l.length < 4611686018427387904) :
    WpF T0 35 [.int .i64 P, v] W (fun u W' => W' = W ∧ ((RiseOk P l ∧ u = .bool true) ∨ (¬ RiseOk P l ∧ u = .bool false))) := by
  obtain ⟨A, c, rfl, hA⟩ := h
  refine wpF fun35 rfl ?_
  try simp only [wpK_assoc]
  refine wpK_reg (fun R hR => by simp []; exact hR) ?_
  try simp only [wpK_assoc]
  refine wpK_reg (fun R hR => by simp []; exact hR) ?_
  try simp only [wpK_assoc]
  refine wpK_while (I := fun k B W' => B.n = 41 ∧ B.defers = [] ∧ B.tmps.get 0 = some (.int .i64 P) ∧ B.tmps.get 1 = some (.slice A l.length c) ∧ W' = W ∧ ∃ i : Nat, k = l.length - i ∧ i ≤ l.length ∧ B.tmps.get 5 = some (.int .i64 i) ∧ ∀ (j : Nat) y, j < i → l[j]? = some y → 0 ≤ y ∧ y < P ∧ prevAt l j < y)
    (J := fun B W' => B.n = 41 ∧ B.defers = [] ∧ W' = W ∧ RiseOk P l) (Rt := fun B W' => B.defers = [] ∧ B.tmps.get 4 = some (.bool false) ∧ W' = W ∧ ¬ RiseOk P l) (k := l.length) ?_ ?_ ?_ ?_
  · exact ⟨rfl, rfl, by simp, by simp, rfl, 0, by simp, by omega, by simp, fun j y hj => by omega⟩
  · rintro k ⟨tm, n, ds⟩ W3 ⟨hn, hd, h0, h1, rfl, i, hk, hi, h5, hgood⟩ Q' hJ hRt hI
    simp only at hn hd h0 h1
    subst hn; subst hd
    simp only at h5
    try simp only [wpK_assoc]
    refine wpK_reg (fun R hR => by simp [h1, h5, len_slice und46]; exact hR) ?_
    by_cases hlt : i < l.length
    · try simp only [wpK_assoc]
      first | refine wpK_onT (by simp [hlt]) ?_ | refine wpK_outT (by simp [hlt]) ?_ | refine wpK_condT (by simp [hlt]) ?_ | refine wpK_endT (by simp [hlt]) ?_
      have ha : l[i]? = some l[i] := List.getElem?_eq_getElem hlt
      generalize l[i] = x at ha
      obtain ⟨b, o, rfl, hh⟩ := hA i x ha
      have hx := indexAddr_slice (T := T0) und46 sz3 (b := b) (o := o) (c := c) (k := .i64) hlt
      rw [Nat.mul_one] at hx
      have hl := load_of und3 rfl hh
      have hsi : IntKind.i64.wrap ((i : Int) + 1) = ((i + 1 : Nat) : Int) := i64_succ i (by omega)
      have ret : ∀ (tm' : Tr Value), tm'.get 4 = some (.bool false) → ¬ (0 ≤ x ∧ x < P ∧ prevAt l i < x) → Q' .ret ⟨tm', 41, []⟩ W3 := fun tm' g4 hb => hRt _ _ ⟨rfl, g4, rfl, fun hr => hb ⟨hr.nonneg i x ha, (hr i x ha).1, (hr i x ha).2⟩⟩
      have fin : ∀ (tm' : Tr Value), tm'.get 0 = some (.int .i64 P) → tm'.get 1 = some (.slice (some ⟨b, o, none⟩) l.length c) → tm'.get 5 = some (.int .i64 ((i + 1 : Nat) : Int)) → (0 ≤ x ∧ x < P ∧ prevAt l i < x) → Q' .normal ⟨tm', 41, []⟩ W3 := fun tm' g0 g1 g5 hg => hI (k - 1) _ _ (by omega) ⟨rfl, rfl, g0, g1, rfl, i + 1, by omega, by omega, g5, fun j y hj hy => by
        by_cases e : j = i
        · subst e; rw [ha] at hy; cases hy; exact hg
        · exact hgood j y (by omega) hy⟩
      refine wpK_block ?_
      by_cases c1 : x < 0
      · try simp only [wpK_assoc]
        refine wpK_dn (wr := Tr.nil |>.set 12 0 |>.set 13 1 |>.set 14 2 |>.set 15 3 |>.set 16 4 |>.set 17 5 |>.set 18 6 |>.set 19 7 |>.set 20 8 |>.set 21 9 |>.set 22 10 |>.set 23 11 |>.set 24 12 |>.set 25 13 |>.set 26 14 |>.set 27 15 |>.set 28 16 |>.set 29 17 |>.set 30 18 |>.set 31 19 |>.set 32 20 |>.set 33 21 |>.set 34 22 |>.set 35 23 |>.set 36 24 |>.set 37 25 |>.set 38 26 |>.set 39 27 |>.set 40 28) (bits := Tr.nil.lay 0 [0, 0, 3, 7, 15, 31, 63, 63, 255, 511, 63, 2047, 4095, 8191, 16383, 32767, 65535, 131071, 131071, 393215, 1048575, 2097151, 131071, 131071, 12713983, 29491199, 67108863, 134217727, 268435455]) (ord := [0, 1, 2, 3, 4, 5, 6, 7, 8, 9, 10, 11, 12, 13, 14, 15, 16, 17, 18, 19, 20, 21, 22, 23, 24, 25, 26, 27, 28]) (by kernel_rfl) (by kernel_rfl) (by kernel_rfl) (fun G hG => by
          simp [h0, h1, h5, hx, hl, c1, undef]
          exact hG) ?_
        try simp only [wpK_assoc]
        first | refine wpK_onT (by simp []) ?_ | refine wpK_outT (by simp []) ?_ | refine wpK_condT (by simp []) ?_ | refine wpK_endT (by simp []) ?_
        try simp only [wpK_assoc]
        refine wpK_reg (fun R hR => by simp []; exact hR) ?_
        exact wpK_ret (ret _ (by simp) (by omega))
      by_cases c2 : (P : Int) ≤ x
      · try simp only [wpK_assoc]
        refine wpK_dn (wr := Tr.nil |>.set 12 0 |>.set 13 1 |>.set 14 2 |>.set 15 3 |>.set 16 4 |>.set 17 5 |>.set 18 6 |>.set 19 7 |>.set 20 8 |>.set 21 9 |>.set 22 10 |>.set 23 11 |>.set 24 12 |>.set 25 13 |>.set 26 14 |>.set 27 15 |>.set 28 16 |>.set 29 17 |>.set 30 18 |>.set 31 19 |>.set 32 20 |>.set 33 21 |>.set 34 22 |>.set 35 23 |>.set 36 24 |>.set 37 25 |>.set 38 26 |>.set 39 27 |>.set 40 28) (bits := Tr.nil.lay 0 [0, 0, 3, 7, 15, 31, 63, 63, 255, 511, 63, 2047, 4095, 8191, 16383, 32767, 65535, 131071, 131071, 393215, 1048575, 2097151, 131071, 131071, 12713983, 29491199, 67108863, 134217727, 268435455]) (ord := [0, 1, 2, 3, 4, 5, 6, 7, 8, 9, 10, 11, 12, 13, 14, 15, 16, 17, 18, 19, 20, 21, 22, 23, 24, 25, 26, 27, 28]) (by kernel_rfl) (by kernel_rfl) (by kernel_rfl) (fun G hG => by
          simp [h0, h1, h5, hx, hl, c1, c2, undef]
          exact hG) ?_
        try simp only [wpK_assoc]
        first | refine wpK_onT (by simp []) ?_ | refine wpK_outT (by simp []) ?_ | refine wpK_condT (by simp []) ?_ | refine wpK_endT (by simp []) ?_
        try simp only [wpK_assoc]
        refine wpK_reg (fun R hR => by simp []; exact hR) ?_
        exact wpK_ret (ret _ (by simp) (by omega))
      cases i with
      | zero =>
        simp only [Int.natCast_zero] at h5
        try simp only [wpK_assoc]
        refine wpK_dn (wr := Tr.nil |>.set 12 0 |>.set 13 1 |>.set 14 2 |>.set 15 3 |>.set 16 4 |>.set 17 5 |>.set 18 6 |>.set 19 7 |>.set 20 8 |>.set 21 9 |>.set 22 10 |>.set 23 11 |>.set 24 12 |>.set 25 13 |>.set 26 14 |>.set 27 15 |>.set 28 16 |>.set 29 17 |>.set 30 18 |>.set 31 19 |>.set 32 20 |>.set 33 21 |>.set 34 22 |>.set 35 23 |>.set 36 24 |>.set 37 25 |>.set 38 26 |>.set 39 27 |>.set 40 28) (bits := Tr.nil.lay 0 [0, 0, 3, 7, 15, 31, 63, 63, 255, 511, 63, 2047, 4095, 8191, 16383, 32767, 65535, 131071, 131071, 393215, 1048575, 2097151, 131071, 131071, 12713983, 29491199, 67108863, 134217727, 268435455]) (ord := [0, 1, 2, 3, 4, 5, 6, 7, 8, 9, 10, 11, 12, 13, 14, 15, 16, 17, 18, 19, 20, 21, 22, 23, 24, 25, 26, 27, 28]) (by kernel_rfl) (by kernel_rfl) (by kernel_rfl) (fun G hG => by
          simp at hx hl
          simp [h0, h1, h5, hx, hl, c1, c2, undef]
          exact hG) ?_
        try simp only [wpK_assoc]
        first | refine wpK_onF (by simp []) ?_ | refine wpK_out (by simp []) ?_ | refine wpK_condF (by simp []) ?_ | refine wpK_endF (by simp []) (wpK_skip ?_) | refine wpK_endF (by simp []) ?_
        have w1 : IntKind.i64.wrap 1 = 1 := IntWalk.i64_in _ (by omega)
        try simp only [wpK_assoc]
        refine wpK_reg1 (fun R hR => by simp [h5, w1]; exact hR) ?_
        exact fin _ (by simp [h0]) (by simp [h1]) (by simp) ⟨by omega, by omega, by simp [prevAt]; omega⟩
      | succ j =>
        have hj : l[j]? = some (l[j]'(by omega)) := List.getElem?_eq_getElem (by omega)
        have hpv : prevAt l (j + 1) = l[j]'(by omega) := by unfold prevAt; rw [if_neg (by omega), Nat.add_sub_cancel, hj]; rfl
        generalize l[j]'_ = y at hj hpv
        obtain ⟨b', o', e', hh'⟩ := hA j y hj
        cases e'
        have hx' := indexAddr_slice (T := T0) und46 sz3 (b := b) (o := o) (c := c) (k := .i64) (show j < l.length by omega)
        rw [Nat.mul_one] at hx'
        have hl' := load_of und3 rfl hh'
        have wj : IntKind.i64.wrap (((j + 1 : Nat) : Int) - 1) = (j : Int) := by rw [IntWalk.i64_in _ (by omega)]; omega
        have hpos : (0 : Int) < ((j + 1 : Nat) : Int) := by omega
        generalize hji : ((j + 1 : Nat) : Int) = ji at h5 hx hl hsi wj hpos
        by_cases c3 : x ≤ y
        · try simp only [wpK_assoc]
          refine wpK_dn (wr := Tr.nil |>.set 12 0 |>.set 13 1 |>.set 14 2 |>.set 15 3 |>.set 16 4 |>.set 17 5 |>.set 18 6 |>.set 19 7 |>.set 20 8 |>.set 21 9 |>.set 22 10 |>.set 23 11 |>.set 24 12 |>.set 25 13 |>.set 26 14 |>.set 27 15 |>.set 28 16 |>.set 29 17 |>.set 30 18 |>.set 31 19 |>.set 32 20 |>.set 33 21 |>.set 34 22 |>.set 35 23 |>.set 36 24 |>.set 37 25 |>.set 38 26 |>.set 39 27 |>.set 40 28) (bits := Tr.nil.lay 0 [0, 0, 3, 7, 15, 31, 63, 63, 255, 511, 63, 2047, 4095, 8191, 16383, 32767, 65535, 131071, 131071, 393215, 1048575, 2097151, 131071, 131071, 12713983, 29491199, 67108863, 134217727, 268435455]) (ord := [0, 1, 2, 3, 4, 5, 6, 7, 8, 9, 10, 11, 12, 13, 14, 15, 16, 17, 18, 19, 20, 21, 22, 23, 24, 25, 26, 27, 28]) (by kernel_rfl) (by kernel_rfl) (by kernel_rfl) (fun G hG => by
            simp [h0, h1, h5, hx, hl, hx', hl', c1, c2, c3, wj, hpos, undef]
            exact hG) ?_
          try simp only [wpK_assoc]
          first | refine wpK_onT (by simp []) ?_ | refine wpK_outT (by simp []) ?_ | refine wpK_condT (by simp []) ?_ | refine wpK_endT (by simp []) ?_
          try simp only [wpK_assoc]
          refine wpK_reg (fun R hR => by simp []; exact hR) ?_
          exact wpK_ret (ret _ (by simp) (by omega))
        · try simp only [wpK_assoc]
          refine wpK_dn (wr := Tr.nil |>.set 12 0 |>.set 13 1 |>.set 14 2 |>.set 15 3 |>.set 16 4 |>.set 17 5 |>.set 18 6 |>.set 19 7 |>.set 20 8 |>.set 21 9 |>.set 22 10 |>.set 23 11 |>.set 24 12 |>.set 25 13 |>.set 26 14 |>.set 27 15 |>.set 28 16 |>.set 29 17 |>.set 30 18 |>.set 31 19 |>.set 32 20 |>.set 33 21 |>.set 34 22 |>.set 35 23 |>.set 36 24 |>.set 37 25 |>.set 38 26 |>.set 39 27 |>.set 40 28) (bits := Tr.nil.lay 0 [0, 0, 3, 7, 15, 31, 63, 63, 255, 511, 63, 2047, 4095, 8191, 16383, 32767, 65535, 131071, 131071, 393215, 1048575, 2097151, 131071, 131071, 12713983, 29491199, 67108863, 134217727, 268435455]) (ord := [0, 1, 2, 3, 4, 5, 6, 7, 8, 9, 10, 11, 12, 13, 14, 15, 16, 17, 18, 19, 20, 21, 22, 23, 24, 25, 26, 27, 28]) (by kernel_rfl) (by kernel_rfl) (by kernel_rfl) (fun G hG => by
            simp [h0, h1, h5, hx, hl, hx', hl', c1, c2, c3, wj, hpos, undef]
            exact hG) ?_
          try simp only [wpK_assoc]
          first | refine wpK_onF (by simp []) ?_ | refine wpK_out (by simp []) ?_ | refine wpK_condF (by simp []) ?_ | refine wpK_endF (by simp []) (wpK_skip ?_) | refine wpK_endF (by simp []) ?_
          try simp only [wpK_assoc]
          refine wpK_reg1 (fun R hR => by simp [h5, hsi]; exact hR) ?_
          exact fin _ (by simp [h0]) (by simp [h1]) (by simp) ⟨by omega, by omega, by omega⟩
    · try simp only [wpK_assoc]
      first | refine wpK_onF (by simp [hlt]) ?_ | refine wpK_out (by simp [hlt]) ?_ | refine wpK_condF (by simp [hlt]) ?_ | refine wpK_endF (by simp [hlt]) (wpK_skip ?_) | refine wpK_endF (by simp [hlt]) ?_
      refine hJ _ _ ⟨rfl, rfl, rfl, fun j y hy => ?_⟩
      have := hgood j y (by have := (List.getElem?_eq_some_iff.1 hy).1; omega) hy
      exact ⟨this.2.1, this.2.2⟩
  · rintro A' W' ⟨g1, g2, rfl, g3⟩
    exact ⟨.inr rfl, g1, [.bool false], by simp [g2], rfl, .inr ⟨g3, rfl⟩⟩
  · rintro ⟨tm, n, ds⟩ W' ⟨hn, hd, rfl, he⟩
    simp only at hn hd
    subst hn; subst hd
    try simp only [wpK_assoc]
    refine wpK_reg (fun R hR => by simp []; exact hR) ?_
    exact wpK_ret ⟨.inr rfl, rfl, [.bool true], by simp, rfl, .inl ⟨he, rfl⟩⟩
theorem orFold_bit (i : Nat) : ∀ (l : List Int) (s : Nat), (l.foldl (fun s p => s ||| 1 <<< p.toNat) s).testBit i = (s.testBit i || l.any (fun p => decide (p.toNat = i)))
  | [], s => by simp
  | a :: l, s => by
    rw [List.foldl_cons, orFold_bit i l, Nat.testBit_or, one_bit, List.any_cons]
    cases s.testBit i <;> simp
theorem orAll_bit {l : List Int} (h : ∀ x ∈ l, 0 ≤ x) (i : Nat) : (orAll l).testBit i = decide ((i : Int) ∈ l) := by
  rw [orAll, orFold_bit, Nat.zero_testBit, Bool.false_or, Bool.eq_iff_iff]
  simp only [List.any_eq_true, decide_eq_true_eq]
  constructor
  · rintro ⟨x, hx, e⟩
    have := h x hx
    have : x = i := by omega
    exact this ▸ hx
  · intro hm; exact ⟨i, hm, by omega⟩
theorem refCap_wp {W : AW} {v sv : Value} {P : Int} {l : List Tri} {S : List Int} (h : TriIn W v l) (hS : IntL W sv S) (hlS : S.length < 4611686018427387904) (hok : planOk P (arcsQ l) = true) (B : Nat) (hB : ∀ f : Nat, f < 24 → decide ((f : Int) ∈ S) = B.testBit f) :
    WpF T0 36 [.agg ⟨[.int .i64 P, v]⟩, sv] W (fun u W' => Ext W W' ∧ u = .int .i64 (capQ B (arcsQ l))) := by
  have hin := arcsQ_in hok
  obtain ⟨hP2, hP24, h200⟩ := hin.size
  have hql : (arcsQ l).length = l.length := by simp [arcsQ]
  rw [hql] at h200
  obtain ⟨Av, cv, rfl, hA⟩ := h
  refine wpF fun36 rfl ?_
  obtain ⟨W0, hW0, hE0, hV0⟩ : ∃ W0, W0 = W.newCells 24 [.int .i64 P, .slice Av l.length cv] ∧ Ext W W0 ∧ Var W0 W.next 24 [.int .i64 P, .slice Av l.length cv] := ⟨_, rfl, .newCells _ _ _, Var.new _ _ _⟩
  have l1 := hV0.load1 (T := T0) und22 rfl (j := 1) (v := .slice Av l.length cv) rfl
  have hS0 := hS.ext hE0
  try simp only [wpK_assoc]
  refine wpK_reg (fun R hR => by simp [← hW0]; exact hR) ?_
  try simp only [wpK_assoc]
  refine wpK_reg (fun R hR => by simp []; exact hR) ?_
  try simp only [wpK_assoc]
  refine wpK_reg (fun R hR => by simp []; exact hR) ?_
  try simp only [wpK_assoc]
  refine wpK_while (I := fun k A W' => A.n = 42 ∧ A.defers = [] ∧ A.tmps.get 1 = some (sv) ∧ A.tmps.get 2 = some (.pointer (some ⟨W.next, 0, none⟩)) ∧ W' = W0 ∧ ∃ i : Nat, k = l.length - i ∧ i ≤ l.length ∧ A.tmps.get 6 = some (.int .i64 i) ∧ A.tmps.get 5 = some (.int .i64 (capQ B ((arcsQ l).take i))))
    (J := fun A W' => A.n = 42 ∧ A.defers = [] ∧ W' = W0 ∧ A.tmps.get 5 = some (.int .i64 (capQ B (arcsQ l))))
    (Rt := fun _ _ => False) (k := l.length) ?_ ?_ ?_ ?_
  · exact ⟨rfl, rfl, by simp, by simp, rfl, 0, by simp, by omega, by simp, by simp [capQ]⟩
  · rintro k ⟨tm, n, ds⟩ W3 ⟨hn, hd, h1, h2, rfl, i, hk, hi, h6, h5⟩ Q' hJ hRt hI
    simp only at hn hd h1 h2
    subst hn; subst hd
    simp only at h6 h5
    try simp only [wpK_assoc]
    refine wpK_reg (fun R hR => by simp [h2, h6, l1, len_slice und22]; exact hR) ?_
    by_cases hlt : i < l.length
    · try simp only [wpK_assoc]
      first | refine wpK_onT (by simp [hlt]) ?_ | refine wpK_outT (by simp [hlt]) ?_ | refine wpK_condT (by simp [hlt]) ?_ | refine wpK_endT (by simp [hlt]) ?_
      have ha : l[i]? = some l[i] := List.getElem?_eq_getElem hlt
      generalize l[i] = a at ha
      have haq : (arcsQ l)[i]? = some (a.1, a.2.1, a.2.2, 0) := by simp [arcsQ, ha]
      have hst1 := hin.step (a := (a.1, a.2.1, a.2.2, 0)) (List.mem_of_getElem? haq)
      have hsum := capQ_take (s := B) haq
      have hb := capQ_le hin B i (by omega)
      obtain ⟨a1, a2, a3⟩ := a
      simp only at hst1
      obtain ⟨f, rfl⟩ : ∃ f : Nat, a1 = f := ⟨a1.toNat, by omega⟩
      obtain ⟨g, rfl⟩ : ∃ g : Nat, a2 = g := ⟨a2.toNat, by omega⟩
      obtain ⟨b, o, rfl, q1, q2, q3⟩ := hA i _ ha
      have eV := indexAddr_tri (T := T0) und22 sz78 (b := b) (o := o) (c := cv) (k := .i64) hlt
      have la1 := load_of und3 rfl (q1.ext hE0)
      have la2 := load_of und3 rfl (q2.ext hE0)
      have la3 := load_of und2 rfl (q3.ext hE0)
      simp only at la1 la2 la3
      have hf1 := has50_wp hS0 hlS (f : Int)
      have hf2 := has50_wp hS0 hlS (g : Int)
      rw [hB f (by omega)] at hf1
      rw [hB g (by omega)] at hf2
      have ho : out1 B ((f : Int), (g : Int), a3, 0) = if B.testBit f && !B.testBit g then a3 else 0 := by
        simp only [out1, Int.toNat_natCast]; split <;> split <;> omega
      rw [ho] at hsum
      generalize capQ B ((arcsQ l).take i) = z at h5 hb hsum
      have w1 : IntKind.i64.wrap (z + a3) = z + a3 := IntWalk.i64_in _ (by omega)
      have hsi : IntKind.i64.wrap ((i : Int) + 1) = ((i + 1 : Nat) : Int) := i64_succ i (by omega)
      have fin : ∀ tm' : Tr Value, tm'.get 1 = some sv → tm'.get 2 = some (.pointer (some ⟨W.next, 0, none⟩)) → tm'.get 6 = some (.int .i64 ((i + 1 : Nat) : Int)) → tm'.get 5 = some (.int .i64 (z + if B.testBit f && !B.testBit g then a3 else 0)) → Q' .normal ⟨tm', 42, []⟩ W3 := fun tm' x1 x2 x6 x5 =>
        hI (k - 1) _ _ (by omega) ⟨rfl, rfl, x1, x2, rfl, i + 1, by omega, by omega, x6, by rw [x5, hsum]⟩
      refine wpK_block ?_
      cases hbf : B.testBit f with
      | false =>
        rw [hbf] at hf1
        try simp only [wpK_assoc]
        refine wpK_reg (fun R hR => by
            simp [h1, h2, h6, l1, eV, la1, aEnter, fun50, short_other, aCallV]; rw [callS_none]
            refine (hf1).mono ?_
            rintro _ W9 ⟨e9, rfl⟩; subst W9
            simp [undef]; exact hR) ?_
        try simp only [wpK_assoc]
        first | refine wpK_onF (by simp []) ?_ | refine wpK_out (by simp []) ?_ | refine wpK_condF (by simp []) ?_ | refine wpK_endF (by simp []) (wpK_skip ?_) | refine wpK_endF (by simp []) ?_
        try simp only [wpK_assoc]
        refine wpK_reg1 (fun R hR => by simp [h6, hsi]; exact hR) ?_
        exact fin _ (by simp [h1]) (by simp [h2]) (by simp) (by simp [-testBit_dec, hbf, h5])
      | true =>
        rw [hbf] at hf1
        cases hbg : B.testBit g with
        | true =>
          rw [hbg] at hf2
          try simp only [wpK_assoc]
          refine wpK_reg (fun R hR => by
            simp [h1, h2, h6, l1, eV, la1, aEnter, fun50, short_other, aCallV]; rw [callS_none]
            refine hf1.mono ?_
            rintro _ W9 ⟨e9, rfl⟩; subst W9
            simp [h1, h2, h6, l1, eV, la2, aEnter, fun50, short_other, aCallV]; rw [callS_none]
            refine hf2.mono ?_
            rintro _ W9 ⟨e9, rfl⟩; subst W9
            simp; exact hR) ?_
          try simp only [wpK_assoc]
          first | refine wpK_onF (by simp []) ?_ | refine wpK_out (by simp []) ?_ | refine wpK_condF (by simp []) ?_ | refine wpK_endF (by simp []) (wpK_skip ?_) | refine wpK_endF (by simp []) ?_
          try simp only [wpK_assoc]
          refine wpK_reg1 (fun R hR => by simp [h6, hsi]; exact hR) ?_
          exact fin _ (by simp [h1]) (by simp [h2]) (by simp) (by simp [-testBit_dec, hbf, hbg, h5])
        | false =>
          rw [hbg] at hf2
          try simp only [wpK_assoc]
          refine wpK_reg (fun R hR => by
            simp [h1, h2, h6, l1, eV, la1, aEnter, fun50, short_other, aCallV]; rw [callS_none]
            refine hf1.mono ?_
            rintro _ W9 ⟨e9, rfl⟩; subst W9
            simp [h1, h2, h6, l1, eV, la2, aEnter, fun50, short_other, aCallV]; rw [callS_none]
            refine hf2.mono ?_
            rintro _ W9 ⟨e9, rfl⟩; subst W9
            simp; exact hR) ?_
          try simp only [wpK_assoc]
          first | refine wpK_onT (by simp []) ?_ | refine wpK_outT (by simp []) ?_ | refine wpK_condT (by simp []) ?_ | refine wpK_endT (by simp []) ?_
          try simp only [wpK_assoc]
          refine wpK_reg1 (fun R hR => by simp [h2, h5, h6, l1, eV, la3, w1]; exact hR) ?_
          try simp only [wpK_assoc]
          refine wpK_reg1 (fun R hR => by simp [h6, hsi]; exact hR) ?_
          exact fin _ (by simp [h1]) (by simp [h2]) (by simp) (by simp [-testBit_dec, hbf, hbg])
    · have e : i = l.length := by omega
      rw [e, ← hql, List.take_length] at h5
      try simp only [wpK_assoc]
      first | refine wpK_onF (by simp [hlt]) ?_ | refine wpK_out (by simp [hlt]) ?_ | refine wpK_condF (by simp [hlt]) ?_ | refine wpK_endF (by simp [hlt]) (wpK_skip ?_) | refine wpK_endF (by simp [hlt]) ?_
      exact hJ _ _ ⟨rfl, rfl, rfl, by simp [h5]⟩
  · rintro A' W' hf; exact hf.elim
  · rintro ⟨tm, n, ds⟩ W' ⟨hn, hd, rfl, h5⟩
    simp only at hn hd h5
    subst hn; subst hd
    try simp only [wpK_assoc]
    refine wpK_reg (fun R hR => by simp [h5]; exact hR) ?_
    exact wpK_ret ⟨.inr rfl, rfl, [.int .i64 (capQ B (arcsQ l))], by simp, hE0, rfl⟩
theorem cellsAt_len {W : AW} {b o : Nat} {k : List Value} (h : W.cellsAt b o 0 = some k) : k.length = 0 := by
  unfold AW.cellsAt at h
  split at h
  · split at h
    · cases h; rfl
    · cases h
  · split at h
    · cases h; rfl
    · cases h
  · cases h
theorem app_ints {W : AW} {A : Option Addr} {c : Nat} {l : List Int} (h : IntL W (.slice A l.length c) l) (hl : l.length ≤ 1000) (hS : l.length = 0 → (A = none ∧ c = 0) ∨ (∃ b o, A = some ⟨b, o, none⟩) ∨ (A = some ⟨0, 0, some 1⟩ ∧ c = 0)) :
    ∃ v W', aAppend T0 W [43, 43] [.slice none 0 0, .slice A l.length c] = some (v, W') ∧ Ext W W' ∧ IntL W' v l := by
  obtain ⟨A', c', e, hh⟩ := h
  cases e
  by_cases h0 : l.length = 0
  · have hl0 : l = [] := List.length_eq_zero_iff.1 h0
    subst hl0
    have key : aSrc W 1 (.slice A 0 c) = some (0, []) ∨ ∃ k, aSrc W 1 (.slice A 0 c) = some (0, k) ∧ k.length = 0 := by
      rcases hS rfl with ⟨rfl, rfl⟩ | ⟨b, o, rfl⟩ | ⟨rfl, rfl⟩
      · exact .inl rfl
      · unfold aSrc
        simp only [Nat.zero_mul]
        cases hc : W.cellsAt b o 0 with
        | none => exact .inl rfl
        | some k =>
          refine .inr ⟨k, rfl, ?_⟩
          exact cellsAt_len hc
      · exact .inl rfl
    refine ⟨.slice none 0 0, W, ?_, .refl _ _, ⟨none, 0, rfl, fun i x hx => by simp at hx⟩⟩
    have fin : ∀ k : List Value, k.length = 0 → aSrc W 1 (.slice A 0 c) = some (0, k) → aAppend T0 W [43, 43] [.slice none 0 0, .slice A 0 c] = some (.slice none 0 0, W) := fun k hk hs => by
      have : k = [] := List.length_eq_zero_iff.1 hk
      subst this
      simp only [aAppend, und43, inf2, is2, z2', notInt, hs, acells, List.length_cons, List.length_nil, Nat.beq_refl, Nat.zero_mul]
      rfl
    rcases key with hs | ⟨k, hs, hk⟩
    · exact fin [] rfl hs
    · exact fin k hk hs
  · have ha : l[0]? = some l[0] := List.getElem?_eq_getElem (by omega)
    obtain ⟨b, o, rfl, hb⟩ := hh 0 _ ha
    have hc : W.cellsAt b o (l.length * 1) = some (intsV l) := by
      rw [Nat.mul_one]
      refine cellsAt_of_cells (intsV_len l) (has_blk hb) (fun j hj => ?_) (by omega)
      have hj' : l[j]? = some l[j] := List.getElem?_eq_getElem hj
      obtain ⟨b2, o2, e2, hb2⟩ := hh j _ hj'
      cases e2
      rw [hb2.2, intsV_get hj']
    have hone : oneCells (intsV l) = true := by
      have : ∀ l : List Int, oneCells (intsV l) = true := fun l => by
        induction l with
        | nil => rfl
        | cons a l ih => exact ih
      exact this l
    have hz : Nat.beq l.length 0 = false := by
      cases hb : Nat.beq l.length 0 with
      | false => rfl
      | true => exact absurd (Nat.eq_of_beq_eq_true hb) h0
    refine ⟨.slice (some ⟨W.next, 0, none⟩) (0 + l.length) (2 * 1 + 1), W.newCells 2 ([] ++ intsV l), ?_, .newCells _ _ _, ?_⟩
    · have hsrc : aSrc W 1 (.slice (some ⟨b, o, none⟩) l.length c) = some (l.length, intsV l) := by
        unfold aSrc; simp only [hc]
      simp only [aAppend, und43, inf2, is2, z2', notInt, hsrc, acells, List.length_cons, List.length_nil, Nat.beq_refl, intsV_len, Nat.mul_one, hone, hz, aApp1, by2]
      have e1 : Nat.ble (2 * (0 + l.length) * 8) 281474976710656 = true := by simp only [ble_dec]; rw [decide_eq_true (by omega)]
      have e2 : Nat.ble (0 + l.length) 4611686018427387904 = true := by simp only [ble_dec]; rw [decide_eq_true (by omega)]
      rw [e1, e2]
    · rw [Nat.zero_add, List.nil_append]
      exact var_ints (Var.new W 2 (intsV l)) rfl
end Go.Proofs.YtkgfjfkgmpeobaaDoor

open Go Go.Eng
namespace Go.Proofs.YtkgfjfkgmpeobaaDoor
attribute [local congr] undef_congr WpK.congr WpS.congr WpL.congr WpC.congr WpF.congr gotS.congr callS.congr nextS.congr wantS.congr condS.congr
attribute [local irreducible] WpK
attribute [local simp] WpDr_nil WpDr_cons atS_some dwantS_true dwantS_false kindS_light kindS_float kindS_heavy lightS_value floatS_some heavyS_value heavyS_skip heavyS_enter dcallS_some doneS_eq
  isLight isFloat isPlain dLook testBit_dec dChain dLights_nil dLights_skip dLights_one dLight_nil dLight_cons dFreshes_nil dFreshes_one oneF_none oneF_some dFresh_nil dFresh_cons oneL_some oneW_true oneW_false sameV_value dPut dMay valEq arrEq listEq List.getElem?_cons Tr.get_nil dEnd
attribute [local simp] WpS_nil WpS_cons isDefer undef_false wantS_true wantS_false nextS_value nextS_skip nextS_enter callS_some gotS_some aWanted aOp aEvalF aEval opMove opAssign opPick aVal flat flat1 AAct.put opBinOp opConvert opIndex Tr.get_set Tr.get_lay aBin aResults tupled
  aCall aVals aCallB blt_dec ble_dec beq_dec aBinI_add aBinI_sub aBinI_lss aBinI_leq aBinI_gtr aBinI_geq aBinI_eql aBinI_neq index_str len_str len_slice Nat.beq_refl und2 und3 und4 und5 und39 und76 und82 und115 und22 und29 und25 und33 und46 und43 und49 und111 und113 field151 field155_0 field155_1 field155_2 field155_3 field155_4
  field78 field106 field24 field31 field27 field35 field108 field109 opBox opLoad opFieldAddr opIndexAddr acells aAddr opExtract aExtract opUnOp opAlloc opStore opMakeInterface opNilCheck opBuild aParts opBuildSlice aValW
set_option maxHeartbeats 4000000
set_option linter.unusedSimpArgs false
set_option linter.unusedVariables false
theorem bs43 (W : AW) (n : Int) : aBuildSlice T0 W 43 1 [(0, .int .i64 n)] = some (.slice (some ⟨W.next, 0, none⟩) 1 2, W.newCells 2 [.int .i64 n]) := by kernel_rfl
theorem push_tmp {W : AW} {v : Value} {l : List Int} {K : Nat → Prop} {t el : TypeId} {i : TypeInfo} (ht : T0.und.get t = some (.slice el)) (hi : T0.info.get el = some i) (hs : i.size = 1) (hz : i.zero = some (.int .i64 0)) (hby : i.bytes = 8)
    (h : GrowsN W v l.length (intsV l) el 1 K) (hl : l.length ≤ 1000) (x : Int) (hK : ∀ b, K b → b < W.next → True) :
    ∃ v' W', aAppend T0 (W.newCells el [.int .i64 x]) [t, t] [v, .slice (some ⟨W.next, 0, none⟩) 1 2] = some (v', W') ∧ W'.next = W.next + 2 ∧ GrowsN W' v' (l ++ [x]).length (intsV (l ++ [x])) el 1 (fun b => K b ∨ b = W.next + 1) ∧ Only K W W' := by
  have hE : Ext W (W.newCells el [.int .i64 x]) := .newCells _ _ _
  have h1 := h.only (K' := fun _ => False) hE (fun _ _ _ y => y)
  obtain ⟨v', W', a1, a2, a3, a4⟩ := append_growsN (T := T0) (t := t) (el := el) (c := 2) (by omega) ht hi hs hz rfl h1 (u := [.int .i64 x]) rfl (newCells_cellsAt W el [.int .i64 x] 1 rfl) rfl (by rw [hby]; omega) (by omega)
  refine ⟨v', W', a1, by rw [a2, newCells_next], ?_, ?_⟩
  · have e1 : (l ++ [x]).length = l.length + 1 := by simp
    have e2 : intsV (l ++ [x]) = intsV l ++ [.int .i64 x] := by simp [intsV]
    rw [e1, e2]
    rw [newCells_next] at a3
    exact a3
  · refine ⟨by rw [a2, newCells_next]; omega, fun b hb hk => ?_⟩
    rw [a4.2 b (by rw [newCells_next]; omega) hk]
    exact hE.2 b hb (fun y => y)
theorem slice_ints {W : AW} {u : Value} {l : List Int} {t e : TypeId} (hu : T0.und.get t = some (.slice e)) (hs : aSize T0 e = some 1) (hS : SlOk u l.length) (h : IntL W u l) {k : Nat} (hk : k ≤ l.length) :
    ∃ A' c', (∀ W', aSliceOp T0 W' t u none (some (.int .i64 (k : Nat))) none = some (.slice A' k c')) ∧ IntL W (.slice A' (l.take k).length c') (l.take k) ∧ (k = 0 → (A' = none ∧ c' = 0) ∨ (∃ b o, A' = some ⟨b, o, none⟩) ∨ (A' = some ⟨0, 0, some 1⟩ ∧ c' = 0)) := by
  have hlen : (l.take k).length = k := by rw [List.length_take]; omega
  have emp : l.length = 0 → ∀ A c, IntL W (.slice A (l.take k).length c) (l.take k) := fun h0 A c => by
    have : l.take k = [] := List.length_eq_zero_iff.1 (by omega)
    rw [this]; exact ⟨A, c, rfl, fun i a hi => by simp at hi⟩
  rcases hS with ⟨rfl, h0⟩ | ⟨b, o, c, rfl, hc⟩ | ⟨rfl, h0⟩
  · obtain rfl : k = 0 := by omega
    exact ⟨none, 0, fun W' => by simp only [aSliceOp, hu, hs]; rfl, emp h0 _ _, fun _ => .inl ⟨rfl, rfl⟩⟩
  · have hb : aHi (some (.int .i64 (k : Nat))) l.length c = some k := by
      show aBound (.int .i64 (Int.ofNat k)) c = some k
      simp only [aBound, ble_dec, show k ≤ c from by omega, decide_true]
    have e1 : (2 * c) % 2 = 0 := by omega
    have e2 : 2 * c / 2 = c := by omega
    have hsh : shiftTo o c 0 1 = o := by unfold shiftTo; split <;> simp
    refine ⟨some ⟨b, o, none⟩, 2 * c, ?_, ?_, fun _ => .inr (.inl ⟨b, o, rfl⟩)⟩
    · intro W'; simp only [aSliceOp, hu, hs, e1, e2, Nat.beq_refl, hb, aLo, hsh, Nat.sub_zero]
    · obtain ⟨A, c', hv, hh⟩ := h
      cases hv
      refine ⟨some ⟨b, o, none⟩, 2 * c, rfl, fun i a hi => ?_⟩
      have hik : i < k := by
        have := (List.getElem?_eq_some_iff.1 hi).1
        omega
      rw [List.getElem?_take_of_lt hik] at hi
      exact hh i a hi
  · obtain rfl : k = 0 := by omega
    exact ⟨some ⟨0, 0, some 1⟩, 0, fun W' => by simp only [aSliceOp, hu, hs]; rfl, emp h0 _ _, fun _ => .inr (.inr ⟨rfl, rfl⟩)⟩
end Go.Proofs.YtkgfjfkgmpeobaaDoor

open Go Go.Eng
namespace Go.Proofs.YtkgfjfkgmpeobaaDoor
attribute [local congr] undef_congr WpK.congr WpS.congr WpL.congr WpC.congr WpF.congr gotS.congr callS.congr nextS.congr wantS.congr condS.congr
attribute [local irreducible] WpK
attribute [local simp] WpDr_nil WpDr_cons atS_some dwantS_true dwantS_false kindS_light kindS_float kindS_heavy lightS_value floatS_some heavyS_value heavyS_skip heavyS_enter dcallS_some doneS_eq
  isLight isFloat isPlain dLook testBit_dec dChain dLights_nil dLights_skip dLights_one dLight_nil dLight_cons dFreshes_nil dFreshes_one oneF_none oneF_some dFresh_nil dFresh_cons oneL_some oneW_true oneW_false sameV_value dPut dMay valEq arrEq listEq List.getElem?_cons Tr.get_nil dEnd
attribute [local simp] WpS_nil WpS_cons isDefer undef_false wantS_true wantS_false nextS_value nextS_skip nextS_enter callS_some gotS_some aWanted aOp aEvalF aEval opMove opAssign opPick aVal flat flat1 AAct.put opBinOp opConvert opIndex Tr.get_set Tr.get_lay aBin aResults tupled
  aCall aVals aCallB blt_dec ble_dec beq_dec aBinI_add aBinI_sub aBinI_lss aBinI_leq aBinI_gtr aBinI_geq aBinI_eql aBinI_neq index_str len_str len_slice Nat.beq_refl und2 und3 und4 und5 und39 und76 und82 und115 und22 und29 und25 und33 und46 und43 und49 und111 und113 field151 field155_0 field155_1 field155_2 field155_3 field155_4
  field78 field106 field24 field31 field27 field35 field108 field109 opBox opLoad opFieldAddr opIndexAddr acells aAddr opExtract aExtract opUnOp opAlloc opStore opMakeInterface opNilCheck opBuild aParts opBuildSlice aValW
set_option maxHeartbeats 4000000
set_option linter.unusedSimpArgs false
set_option linter.unusedVariables false
theorem z3' : Tryd.t3.zero = some (.int .i64 0) := z3
theorem by3' : Tryd.t3.bytes = 8 := by3
theorem conv_3_76 (W : AW) (k : IntKind) (n : Int) : aConv T0 W 3 76 (.int k n) = some (.int .u64 (IntKind.u64.wrap n)) := by kernel_rfl
theorem conv_76_3 (W : AW) (k : IntKind) (n : Int) : aConv T0 W 76 3 (.int k n) = some (.int .i64 (IntKind.i64.wrap n)) := by kernel_rfl
theorem isFl_dec (P s t : Nat) (l : List Tri) (fl : List Int) : isFl P s t l fl ∨ ¬ isFl P s t l fl := Classical.em _
theorem flowJudges_wp {W : AW} {v0 vL : Value} (P0 oa ob : Int) {l0 : List Tri} {lL : List Int} (h0 : TriIn W v0 l0) (hlen0 : l0.length < 9223372036854775808) (hL : IntL W vL lL) (hSL : SlOk vL lL.length) (hlenL : lL.length < 9223372036854775808) (htb : tabsIn T0 T0.tabs W = true) (hW0 : 0 < W.next) :
    WpF T0 5 [.agg ⟨[.int .i64 P0, v0]⟩, .agg ⟨[.int .i64 oa, .int .i64 ob]⟩, vL] W (fun u _ => u = .bool true) := by
  refine wpF fun5 rfl ?_
  obtain ⟨W1, hW1, hE1, hn1, hV3, hV4⟩ : ∃ W1, W1 = (W.newCells 24 [.int .i64 P0, v0]).newCells 28 [.int .i64 oa, .int .i64 ob] ∧ Ext W W1 ∧ W1.next = W.next + 2 ∧ Var W1 W.next 24 [.int .i64 P0, v0] ∧ Var W1 (W.next + 1) 28 [.int .i64 oa, .int .i64 ob] :=
    ⟨_, rfl, (Only.newCells _ _ _).trans (Only.newCells _ _ _), rfl, (Var.new _ _ _).ext (.newCells _ _ _), Var.new _ _ _⟩
  have hl3 := load24 hV3
  try simp only [wpK_assoc]
  refine wpK_reg (fun R hR => by simp [newCells_next, ← hW1]; exact hR) ?_
  try simp only [wpK_assoc]
  refine wpK_x4 (fun R hR => by
    simp [hl3, aEnter, fun30, short_other, aCallV]; rw [callS_none]
    refine (tame_wp 6 8 (by omega) (by omega) (by omega) P0 (h0.ext hE1) hlen0).mono ?_
    rintro _ W2 ⟨hE2, P, l, v, hT, rfl, hG⟩
    obtain ⟨av, cv, hvs⟩ := hG.len
    obtain ⟨W3, s1, s2, hE3, hVx⟩ := storeVar_new (T := T0) (W := W2) (t := 24) (v := .agg ⟨[.int .i64 P, v]⟩) (z := [.int .i64 0, .slice none 0 0]) inf24 (by rw [is24]; rfl) (by rw [is24]; rfl) (by rw [hvs]; rfl)
    simp [zero24, s1]
    exact hR P l v W2 W3 (And.intro (hE2.trans hE3) (And.intro hT (And.intro hVx ((hG.tri).ext hE3))))) ?_
  rintro P l v W2 W3 ⟨hE3, hT, hVx, hTri⟩
  generalize hpx : W2.next = px at hVx
  have hP2 := hT.P2
  have hPle := hT.Ple
  have hok := hT.plan (by omega) (by omega)
  have hll := hT.len
  have hin := arcsQ_in hok
  have hTb3 := tabs_ext htb hW0 (hE1.trans hE3)
  have h03 : 0 < W3.next := Nat.lt_of_lt_of_le hW0 (hE1.trans hE3).1
  have hl43 : ∀ W', Ext W3 W' → aLoadVar T0 W' 28 (W.next + 1) 0 = some (.agg ⟨[.int .i64 oa, .int .i64 ob]⟩) := fun W' h => ((hV4.ext hE3).ext h).load (T := T0) (t := 28) und28 rfl (show T0.info.get 28 = some Tryd.t28 by kernel_rfl) (show Tryd.t28.size = _ by kernel_rfl)
  have hl40 : ∀ W', Ext W3 W' → aLoadVar T0 W' 3 (W.next + 1) 0 = some (.int .i64 oa) := fun W' h => ((hV4.ext hE3).ext h).load1 (T := T0) und3 rfl (j := 0) (v := .int .i64 oa) rfl
  have LP : ∀ W', Ext W3 W' → aLoadVar T0 W' 3 px 0 = some (.int .i64 P) := fun W' h => (hVx.ext h).load1 (T := T0) und3 rfl (j := 0) (v := .int .i64 P) rfl
  have L1 : ∀ W', Ext W3 W' → aLoadVar T0 W' 22 px 1 = some v := fun W' h => (hVx.ext h).load1 (T := T0) und22 rfl (j := 1) (v := v) rfl
  have Lx : ∀ W', Ext W3 W' → aLoadVar T0 W' 24 px 0 = some (.agg ⟨[.int .i64 P, v]⟩) := fun W' h => load24 (hVx.ext h)
  have e33 : Ext W3 W3 := .refl _ _
  have Tb : ∀ {W'}, Ext W3 W' → tabsIn T0 T0.tabs W' = true := fun h => tabs_ext hTb3 h03 h
  have N0 : ∀ {W'}, Ext W3 W' → 0 < W'.next := fun h => Nat.lt_of_lt_of_le h03 h.1
  have E0 : Ext W W3 := hE1.trans hE3
  try simp only [wpK_assoc]
  refine wpK_x2 (fun R hR => by
      simp [LP, hl43, e33, aEnter, fun31, short_other, aCallV]; rw [callS_none]
      refine (ends_wp P oa ob hP2 (by omega)).mono ?_
      rintro _ W4 ⟨f1, s, t, rfl, hst, hsP, htP, hne⟩
      simp [LP, hl43, e33]; exact hR s t W4 (And.intro f1 (And.intro hst (And.intro hsP (And.intro htP hne))))) ?_
  rintro s t W4 ⟨f1, hst, hsP, htP, hne⟩
  -- the own numbers
  obtain ⟨kk, hkk⟩ : ∃ k : Nat, k = min lL.length 10 := ⟨_, rfl⟩
  have hmk : min (lL.length : Int) 10 = (kk : Int) := by omega
  obtain ⟨As, cs, hsl, hIs, hshape⟩ := slice_ints und43 sz2 hSL (hL.ext E0) (k := kk) (by omega)
  have hlk : (lL.take kk).length = kk := by rw [List.length_take]; omega
  obtain ⟨ov, W5, ha1, hE5, hI5⟩ := app_ints (hIs.ext f1) (by omega) (fun e => hshape (by omega))
  rw [hlk] at ha1
  obtain ⟨aL, cL, hvL⟩ : ∃ A c, vL = .slice A lL.length c := let ⟨A, c, h, _⟩ := hL; ⟨A, c, h⟩
  have hlenV : ∀ W', aLen T0 W' 43 vL = some (.int .i64 lL.length) := fun W' => by rw [hvL]; exact len_slice und43 _ _ _
  try simp only [wpK_assoc]
  refine wpK_reg (fun R hR => by simp []; exact hR) ?_
  try simp only [wpK_assoc]
  refine wpK_reg (fun R hR => by simp [opSlice, aOpt, hlenV, min_int, hmk, hsl, ha1]; exact hR) ?_
  try simp only [wpK_assoc]
  refine wpK_reg (fun R hR => by simp []; exact hR) ?_
  have e5 : Ext W3 W5 := f1.trans hE5
  have vvv := tri_eq hTri
  obtain ⟨av, cv, hvs⟩ := tri_len hTri
  have hlen22 : ∀ W', aLen T0 W' 22 v = some (.int .i64 l.length) := fun W' => by rw [hvs]; exact len_slice und22 _ _ _
  try simp only [wpK_assoc]
  refine wpK_while (I := fun k B W' => B.n = 207 ∧ B.defers = [] ∧ B.tmps.get 2 = some (vL) ∧ B.tmps.get 4 = some (.pointer (some ⟨W.next + 1, 0, none⟩)) ∧ B.tmps.get 7 = some (.pointer (some ⟨px, 0, none⟩)) ∧ B.tmps.get 8 = some (.int .i64 s) ∧ B.tmps.get 9 = some (.int .i64 t) ∧ Ext W3 W' ∧ ∃ (i : Nat) (own : Value) (L : List Int), k = 3 - i ∧ i ≤ 3 ∧ B.tmps.get 11 = some (.int .i64 i) ∧ B.tmps.get 10 = some own ∧ IntL W' own L ∧ L.length ≤ 1000)
    (J := fun B W' => B.n = 207 ∧ B.defers = [] ∧ B.tmps.get 2 = some (vL) ∧ B.tmps.get 4 = some (.pointer (some ⟨W.next + 1, 0, none⟩)) ∧ B.tmps.get 7 = some (.pointer (some ⟨px, 0, none⟩)) ∧ B.tmps.get 8 = some (.int .i64 s) ∧ B.tmps.get 9 = some (.int .i64 t) ∧ Ext W3 W') (Rt := fun _ _ => False) (k := 3) ?_ ?_ ?_ ?_
  · exact ⟨rfl, rfl, by simp [hpx], by simp [hpx], by simp [hpx], by simp [hpx], by simp [hpx], e5, 0, ov, lL.take kk, rfl, by omega, by simp, by simp, hI5, by omega⟩
  · rintro k ⟨tm, n, ds⟩ W6 ⟨hn, hd, h2, h4, h7, h8, h9, e6, i, own, L, hk, hi, h11, h10, hIo, hLo⟩ Q' hJ hRt hI
    simp only at hn hd h2 h4 h7 h8 h9
    subst hn; subst hd
    simp only at h11 h10
    by_cases hlt : i < 3
    case neg =>
      have hlt' : ¬ (i : Int) < 3 := by omega
      try simp only [wpK_assoc]
      refine wpK_reg (fun R hR => by simp [h11, hlt']; exact hR) ?_
      try simp only [wpK_assoc]
      first | refine wpK_onF (by simp []) ?_ | refine wpK_out (by simp []) ?_ | refine wpK_condF (by simp []) ?_ | refine wpK_endF (by simp []) (wpK_skip ?_) | refine wpK_endF (by simp []) ?_
      exact hJ _ _ ⟨rfl, rfl, by simp [h2, h4, h7, h8, h9], by simp [h2, h4, h7, h8, h9], by simp [h2, h4, h7, h8, h9], by simp [h2, h4, h7, h8, h9], by simp [h2, h4, h7, h8, h9], e6⟩
    have hlt' : (i : Int) < 3 := by omega
    try simp only [wpK_assoc]
    refine wpK_reg (fun R hR => by simp [h11, hlt']; exact hR) ?_
    try simp only [wpK_assoc]
    first | refine wpK_onT (by simp []) ?_ | refine wpK_outT (by simp []) ?_ | refine wpK_condT (by simp []) ?_ | refine wpK_endT (by simp []) ?_
    have hsi : IntKind.i64.wrap ((i : Int) + 1) = ((i + 1 : Nat) : Int) := i64_succ i (by omega)
    have fin : ∀ (tm' : Tr Value) (W' : AW) (own' : Value) (L' : List Int), Ext W3 W' → tm'.get 2 = some vL → tm'.get 4 = some (.pointer (some ⟨W.next + 1, 0, none⟩)) → tm'.get 7 = some (.pointer (some ⟨px, 0, none⟩)) → tm'.get 8 = some (.int .i64 s) → tm'.get 9 = some (.int .i64 t) → tm'.get 11 = some (.int .i64 ((i + 1 : Nat) : Int)) → tm'.get 10 = some own' → IntL W' own' L' → L'.length ≤ 1000 → Q' .normal ⟨tm', 207, []⟩ W' :=
      fun tm' W' own' L' e' x2 x4 x7 x8 x9 x11 x10 hI' hL' => hI (k - 1) _ _ (by omega) ⟨rfl, rfl, x2, x4, x7, x8, x9, e', i + 1, own', L', by omega, by omega, x11, x10, hI', hL'⟩
    refine wpK_block ?_
    -- both judges
    obtain ⟨r1, r2, hr⟩ : ∃ (r1 : Int) (r2 : Bool), (isFl P s t l L ∧ r1 = netZ (l.zip L) s ∧ r2 = true) ∨ (¬ isFl P s t l L ∧ r1 = 0 ∧ r2 = false) := by
      rcases isFl_dec P s t l L with h | h
      · exact ⟨_, _, .inl ⟨h, rfl, rfl⟩⟩
      · exact ⟨_, _, .inr ⟨h, rfl, rfl⟩⟩
    have judge1 : ∀ {W' : AW} {v' : Value}, Ext W6 W' → TriIn W' v' l → WpF T0 22 [.agg ⟨[.int .i64 P, v']⟩, .int .i64 s, .int .i64 t, own] W' (fun u W'' => Ext W' W'' ∧ u = .tuple ⟨[.int .i64 r1, .bool r2]⟩) := fun {W' v'} hx hv' => by
      refine (isFlow_wp (P := P) hv' (hIo.ext hx) hok hst).mono ?_
      rintro u W'' ⟨g, ⟨g1, rfl⟩ | ⟨g1, rfl⟩⟩
      · rcases hr with ⟨_, rfl, rfl⟩ | ⟨hn, _⟩
        · exact ⟨g, rfl⟩
        · exact absurd g1 hn
      · rcases hr with ⟨hy, _⟩ | ⟨_, rfl, rfl⟩
        · exact absurd hy g1
        · exact ⟨g, rfl⟩
    have judge2 : ∀ {W' : AW} {v' : Value}, Ext W6 W' → TriIn W' v' l → WpF T0 33 [.agg ⟨[.int .i64 P, v']⟩, .int .i64 s, .int .i64 t, own] W' (fun u W'' => Ext W' W'' ∧ u = .tuple ⟨[.int .i64 r1, .bool r2]⟩) := fun {W' v'} hx hv' => by
      refine (refIsFlow_wp (P := P) hv' (hIo.ext hx) hok hst (by omega)).mono ?_
      rintro u W'' ⟨g, ⟨g1, rfl⟩ | ⟨g1, rfl⟩⟩
      · rcases hr with ⟨_, rfl, rfl⟩ | ⟨hn, _⟩
        · exact ⟨g, rfl⟩
        · exact absurd g1 hn
      · rcases hr with ⟨hy, _⟩ | ⟨_, rfl, rfl⟩
        · exact absurd hy g1
        · exact ⟨g, rfl⟩
    clear hr
    try simp only [wpK_assoc]
    refine wpK_x1 (fun R hR => by
      simp [h7, Lx, e6, aEnter, fun12, short_other, aCallV]; rw [callS_none]
      refine (net_wp (P := (P : Int)) (hTri.ext e6) (by omega)).mono ?_
      rintro _ W7 ⟨g1, vn, rfl, hGn⟩
      simp [h8, h9, h10, aEnter, fun22, short_other, aCallV]; rw [callS_none]
      refine (judge1 g1 hGn.tri).mono ?_
      rintro _ W8 ⟨g2, rfl⟩
      simp; exact hR vn W8 (g1.trans g2)) ?_
    rintro vn W8 g8
    have e8 := e6.trans g8
    try simp only [wpK_assoc]
    refine wpK_x0 (fun R hR => by
        simp [h7, h8, h9, h10, Lx, e8, aEnter, fun33, short_other, aCallV]; rw [callS_none]
        refine (judge2 g8 (hTri.ext e8)).mono ?_
        rintro _ W9 ⟨g9, rfl⟩
        simp [h7, h8, h9, h10, Lx, e8]; exact hR W9 g9) ?_
    rintro W9 g9
    have e9 := e8.trans g9
    try simp only [wpK_assoc]
    refine wpK_reg (fun R hR => by simp [aGuard, aBinO, aEq, und4]; exact hR) ?_
    try simp only [wpK_assoc]
    first | refine wpK_onF (by simp []) ?_ | refine wpK_out (by simp []) ?_ | refine wpK_condF (by simp []) ?_ | refine wpK_endF (by simp []) (wpK_skip ?_) | refine wpK_endF (by simp []) ?_
    try simp only [wpK_assoc]
    refine wpK_reg (fun R hR => by simp [h11]; exact hR) ?_
    have finB : ∀ (tm' : Tr Value) (W' : AW) (own' : Value) (L' : List Int), Ext W3 W' → tm'.get 2 = some vL → tm'.get 4 = some (.pointer (some ⟨W.next + 1, 0, none⟩)) → tm'.get 7 = some (.pointer (some ⟨px, 0, none⟩)) → tm'.get 8 = some (.int .i64 s) → tm'.get 9 = some (.int .i64 t) → tm'.get 11 = some (.int .i64 i) → tm'.get 10 = some own' → IntL W' own' L' → L'.length ≤ 1000 → True := fun _ _ _ _ _ _ _ _ _ _ _ _ _ _ => trivial
    clear finB
    by_cases hi0 : i = 0
    · subst hi0
      -- numbers below the capacities
      simp only [Int.natCast_zero] at h11 hsi
      refine wpK_condT (by simp) ?_
      try simp only [wpK_assoc]
      refine wpK_reg (fun R hR => by simp []; exact hR) ?_
      try simp only [wpK_assoc]
      refine wpK_reg (fun R hR => by simp []; exact hR) ?_
      try simp only [wpK_assoc]
      refine wpK_while (I := fun k B W' => B.n = 207 ∧ B.defers = [] ∧ B.tmps.get 2 = some (vL) ∧ B.tmps.get 4 = some (.pointer (some ⟨W.next + 1, 0, none⟩)) ∧ B.tmps.get 7 = some (.pointer (some ⟨px, 0, none⟩)) ∧ B.tmps.get 8 = some (.int .i64 s) ∧ B.tmps.get 9 = some (.int .i64 t) ∧ B.tmps.get 11 = some (.int .i64 0) ∧ Ext W3 W' ∧ W9.next ≤ W'.next ∧ ∃ (j : Nat) (w : Value) (M : List Int), k = l.length - j ∧ j ≤ l.length ∧ M.length = j ∧ B.tmps.get 16 = some (.int .i64 j) ∧ B.tmps.get 10 = some w ∧ GrowsN W' w M.length (intsV M) 2 1 (fun b => W9.next ≤ b))
        (J := fun B W' => B.n = 207 ∧ B.defers = [] ∧ B.tmps.get 2 = some (vL) ∧ B.tmps.get 4 = some (.pointer (some ⟨W.next + 1, 0, none⟩)) ∧ B.tmps.get 7 = some (.pointer (some ⟨px, 0, none⟩)) ∧ B.tmps.get 8 = some (.int .i64 s) ∧ B.tmps.get 9 = some (.int .i64 t) ∧ B.tmps.get 11 = some (.int .i64 0) ∧ Ext W3 W' ∧ ∃ (w : Value) (M : List Int), B.tmps.get 10 = some w ∧ IntL W' w M ∧ M.length ≤ 1000) (Rt := fun _ _ => False) (k := l.length) ?_ ?_ ?_ ?_
      · exact ⟨rfl, rfl, by simp [h2, h4, h7, h8, h9, h11], by simp [h2, h4, h7, h8, h9, h11], by simp [h2, h4, h7, h8, h9, h11], by simp [h2, h4, h7, h8, h9, h11], by simp [h2, h4, h7, h8, h9, h11], by simp [h2, h4, h7, h8, h9, h11], e9, Nat.le_refl _, 0, .slice none 0 0, [], by simp, by omega, rfl, by simp, by simp, .nil _ _ _ _⟩
      · rintro kq ⟨tm, n, ds⟩ W10 ⟨hn, hd, h2, h4, h7, h8, h9, h11, e10, n10, j, w, M, hkq, hj, hM, h16, h10, hG⟩ Q3 hJ3 hRt3 hI3
        simp only at hn hd h2 h4 h7 h8 h9 h11
        subst hn; subst hd
        simp only at h16 h10
        try simp only [wpK_assoc]
        refine wpK_reg (fun R hR => by simp [h7, h16, L1, e10, hlen22]; exact hR) ?_
        by_cases hltj : j < l.length
        case neg =>
          try simp only [wpK_assoc]
          first | refine wpK_onF (by simp [hltj]) ?_ | refine wpK_out (by simp [hltj]) ?_ | refine wpK_condF (by simp [hltj]) ?_ | refine wpK_endF (by simp [hltj]) (wpK_skip ?_) | refine wpK_endF (by simp [hltj]) ?_
          exact hJ3 _ _ ⟨rfl, rfl, by simp [h2, h4, h7, h8, h9, h11], by simp [h2, h4, h7, h8, h9, h11], by simp [h2, h4, h7, h8, h9, h11], by simp [h2, h4, h7, h8, h9, h11], by simp [h2, h4, h7, h8, h9, h11], by simp [h2, h4, h7, h8, h9, h11], e10, w, M, by simp [h10], GrowsN.ints hG, by omega⟩
        try simp only [wpK_assoc]
        first | refine wpK_onT (by simp [hltj]) ?_ | refine wpK_outT (by simp [hltj]) ?_ | refine wpK_condT (by simp [hltj]) ?_ | refine wpK_endT (by simp [hltj]) ?_
        refine wpK_block ?_
        try simp only [wpK_assoc]
        refine wpK_reg (fun R hR => by simp []; exact hR) ?_
        try simp only [wpK_assoc]
        refine wpK_reg (fun R hR => by simp [h2, h16, hlenV]; exact hR) ?_
        try simp only [wpK_assoc]
        refine wpK_cut (J := fun B W' => B.n = 207 ∧ B.defers = [] ∧ B.tmps.get 2 = some (vL) ∧ B.tmps.get 4 = some (.pointer (some ⟨W.next + 1, 0, none⟩)) ∧ B.tmps.get 7 = some (.pointer (some ⟨px, 0, none⟩)) ∧ B.tmps.get 8 = some (.int .i64 s) ∧ B.tmps.get 9 = some (.int .i64 t) ∧ B.tmps.get 11 = some (.int .i64 0) ∧ W' = W10 ∧ B.tmps.get 16 = some (.int .i64 j) ∧ B.tmps.get 10 = some w ∧ ∃ f : Int, B.tmps.get 17 = some (.int .i64 f)) (fun Q2 hQ2 => ?_) ?_
        · by_cases hjL : j < lL.length
          · have ha : l[j]? = some l[j] := List.getElem?_eq_getElem hltj
            have hmem : l[j] ∈ l := List.getElem_mem hltj
            have hb : lL[j]? = some lL[j] := List.getElem?_eq_getElem hjL
            generalize l[j] = a at ha hmem
            generalize lL[j] = y at hb
            have harc := hT.arc a hmem
            obtain ⟨_, _, e', hB2⟩ := hL
            rw [hvL] at e'
            cases e'
            obtain ⟨b', o', rfl, hhy⟩ := hB2 j y hb
            obtain ⟨_, _, e'', hA2⟩ := hTri
            rw [hvs] at e''
            cases e''
            obtain ⟨b, o, rfl, q1, q2, q3⟩ := hA2 j a ha
            have eF := indexAddr_slice (T := T0) und43 sz2 (b := b') (o := o') (c := cL) (k := .i64) hjL
            rw [Nat.mul_one, ← hvL] at eF
            have eV := indexAddr_tri (T := T0) und22 sz78 (b := b) (o := o) (c := cv) (k := .i64) hltj
            rw [← hvs] at eV
            have lF := load_of und2 rfl (hhy.ext (E0.trans e10))
            have la3 := load_of und2 rfl (q3.ext e10)
            have w1 : IntKind.i64.wrap (a.2.2 + 1) = a.2.2 + 1 := IntWalk.i64_in _ (by omega)
            have w2 : IntKind.u64.wrap (a.2.2 + 1) = a.2.2 + 1 := IntWalk.u64_in _ (by omega)
            have rr := aBinI_rem .u64 (IntKind.u64.wrap y) (a.2.2 + 1) (by omega)
            refine wpK_endT (by simp [hjL]) ?_
            try simp only [wpK_assoc]
            refine wpK_qn (wr := Tr.nil |>.set 84 0 |>.set 85 1 |>.set 86 2 |>.set 87 3 |>.set 88 4 |>.set 89 5 |>.set 90 6 |>.set 91 7 |>.set 92 8 |>.set 93 9 |>.set 94 10 |>.set 95 11 |>.set 96 12 |>.set 97 13 |>.set 98 14 |>.set 17 15) (bits := Tr.nil.lay 0 [0, 0, 3, 7, 15, 0, 32, 0, 224, 480, 992, 2016, 4064, 8191, 16383, 32767]) (ord := [0, 1, 2, 3, 4, 5, 6, 7, 8, 9, 10, 11, 12, 13, 14, 15]) (by kernel_rfl) (by kernel_rfl) (by kernel_rfl) (fun G hG => by
              simp [h2, h7, h16, eF, lF, eV, la3, L1, e10, conv_2_76, conv_76_2, w1, w2, rr, vvv]
              exact hG) ?_
            exact hQ2 _ _ ⟨rfl, rfl, by simp [h2, h4, h7, h8, h9, h11], by simp [h2, h4, h7, h8, h9, h11], by simp [h2, h4, h7, h8, h9, h11], by simp [h2, h4, h7, h8, h9, h11], by simp [h2, h4, h7, h8, h9, h11], by simp [h2, h4, h7, h8, h9, h11], rfl, by simp [h16], by simp [h10], _, by simp; rfl⟩
          · refine wpK_endF (by simp [hjL]) (wpK_skip (hQ2 _ _ ⟨rfl, rfl, by simp [h2, h4, h7, h8, h9, h11], by simp [h2, h4, h7, h8, h9, h11], by simp [h2, h4, h7, h8, h9, h11], by simp [h2, h4, h7, h8, h9, h11], by simp [h2, h4, h7, h8, h9, h11], by simp [h2, h4, h7, h8, h9, h11], rfl, by simp [h16], by simp [h10], 0, by simp⟩))
        rintro ⟨tm, n, ds⟩ W11 ⟨hn, hd, h2, h4, h7, h8, h9, h11, rfl, h16, h10, f, h17⟩
        simp only at hn hd h2 h4 h7 h8 h9 h11
        subst hn; subst hd
        simp only at h16 h10 h17
        obtain ⟨w', W12, p1, p2, p3, p4⟩ := push_tmp und43 inf2 is2 z2' by2 hG (by omega) f (fun _ _ _ => trivial)
        have hsj : IntKind.i64.wrap ((j : Int) + 1) = ((j + 1 : Nat) : Int) := i64_succ j (by omega)
        try simp only [wpK_assoc]
        refine wpK_reg1 (fun R hR => by simp [h10, h17, bs43, p1]; exact hR) ?_
        try simp only [wpK_assoc]
        refine wpK_reg1 (fun R hR => by simp [h16, hsj]; exact hR) ?_
        refine hI3 (kq - 1) _ _ (by omega) ⟨rfl, rfl, by simp [h2, h4, h7, h8, h9, h11], by simp [h2, h4, h7, h8, h9, h11], by simp [h2, h4, h7, h8, h9, h11], by simp [h2, h4, h7, h8, h9, h11], by simp [h2, h4, h7, h8, h9, h11], by simp [h2, h4, h7, h8, h9, h11], ?_, by omega, j + 1, w', M ++ [f], by omega, by omega, by simp; omega, by simp, by simp, p3.mono (fun b hb => by omega)⟩
        have n39 := e9.1
        exact ⟨by omega, fun b hb hk => by rw [p4.2 b (by have := e10.1; omega) (by omega)]; exact e10.2 b hb hk⟩
      · rintro A' W' hf; exact hf.elim
      · rintro ⟨tm, n, ds⟩ W10 ⟨hn, hd, h2, h4, h7, h8, h9, h11, e10, w, M, h10, hIM, hLM⟩
        simp only at hn hd h2 h4 h7 h8 h9 h11
        subst hn; subst hd
        simp only at h10
        refine wpK_exit ?_
        simp only [behind_exit, leaves_exit, if_true, behind_normal]
        have w1 : IntKind.i64.wrap 1 = 1 := IntWalk.i64_in _ (by omega)
        try simp only [wpK_assoc]
        refine wpK_reg1 (fun R hR => by simp [h11, w1]; exact hR) ?_
        exact fin _ _ w M e10 (by simp [h2]) (by simp [h4]) (by simp [h7]) (by simp [h8]) (by simp [h9]) (by simp) (by simp [h10]) hIM hLM
    have hi0' : ¬ (i : Int) = 0 := by omega
    refine wpK_onF (by simp [hi0', hi0]) ?_
    -- the greatest flow, with an arc's number changed
    try simp only [wpK_assoc]
    refine wpK_x5 (fun R hR => by
      simp [h7, h8, h9, Lx, e9, aEnter, fun12, short_other, aCallV]; rw [callS_none]
      refine (net_wp (P := (P : Int)) (hTri.ext e9) (by omega)).mono ?_
      rintro _ W10 ⟨g1, vn2, rfl, hGn⟩
      have e10 := e9.trans g1
      simp [aEnter, h8, h9, fun19, short_other, aCallV]; rw [callS_none]
      refine (most_ok (P := (P : Int)) hGn.tri hok hst (Tb e10) (N0 e10)).mono ?_
      rintro _ W11 ⟨g2, x, rm, lv, b, rfl, hb, hVf, hF⟩
      simp; exact hR x rm lv b vn2 W11 (And.intro (e10.trans g2) (And.intro (Nat.le_trans e10.1 hb) (And.intro hVf hF)))) ?_
    rintro x rm lv bf vn2 W11 ⟨e11, hbf, hVf, hF⟩
    obtain ⟨fcap, _⟩ := flow_is hin hF
    try simp only [wpK_assoc]
    refine wpK_reg (fun R hR => by simp [len_slice und43, h7, L1, e11, hlen22]; exact hR) ?_
    try simp only [wpK_assoc]
    first | refine wpK_onF (by simp []) ?_ | refine wpK_out (by simp []) ?_ | refine wpK_condF (by simp []) ?_ | refine wpK_endF (by simp []) (wpK_skip ?_) | refine wpK_endF (by simp []) ?_
    try simp only [wpK_assoc]
    refine wpK_reg (fun R hR => by simp []; exact hR) ?_
    by_cases hll0 : 0 < l.length
    case neg =>
      have hll0' : ¬ (0 : Int) < l.length := by omega
      have hl00 : l.length = 0 := by omega
      try simp only [wpK_assoc]
      refine wpK_reg (fun R hR => by simp [h2, len_slice und43, hll0, hl00, undef]; exact hR) ?_
      refine wpK_cut1 (J := fun B W' => B.n = 207 ∧ B.defers = [] ∧ B.tmps.get 2 = some (vL) ∧ B.tmps.get 4 = some (.pointer (some ⟨W.next + 1, 0, none⟩)) ∧ B.tmps.get 7 = some (.pointer (some ⟨px, 0, none⟩)) ∧ B.tmps.get 8 = some (.int .i64 s) ∧ B.tmps.get 9 = some (.int .i64 t) ∧ W' = W11 ∧ B.tmps.get 11 = some (.int .i64 i) ∧ B.tmps.get 10 = some (.slice (some ⟨bf, 0, none⟩) l.length (2 * l.length))) (fun Q2 hQ2 => ?_) ?_
      · refine wpK_endF (by simp) (wpK_skip (hQ2 _ _ ⟨rfl, rfl, by simp [h2, h4, h7, h8, h9], by simp [h2, h4, h7, h8, h9], by simp [h2, h4, h7, h8, h9], by simp [h2, h4, h7, h8, h9], by simp [h2, h4, h7, h8, h9], rfl, by simp [h11], by simp [hl00]⟩))
      rintro ⟨tm, n, ds⟩ W12 ⟨hn, hd, h2, h4, h7, h8, h9, rfl, h11, h10⟩
      simp only at hn hd h2 h4 h7 h8 h9
      subst hn; subst hd
      simp only at h11 h10
      try simp only [wpK_assoc]
      refine wpK_reg1 (fun R hR => by simp [h11, hsi]; exact hR) ?_
      exact fin _ _ (.slice (some ⟨bf, 0, none⟩) l.length (2 * l.length)) _ e11 (by simp [h2]) (by simp [h4]) (by simp [h7]) (by simp [h8]) (by simp [h9]) (by simp) (by simp [h10]) (var_ints hVf (flowOf_len _ _)) (by rw [flowOf_len]; omega)
    by_cases hLL0 : 0 < lL.length
    case neg =>
      have hLL0' : lL.length = 0 := by omega
      try simp only [wpK_assoc]
      refine wpK_reg (fun R hR => by simp [h2, len_slice und43, hll0, hlenV, hLL0']; exact hR) ?_
      refine wpK_cut1 (J := fun B W' => B.n = 207 ∧ B.defers = [] ∧ B.tmps.get 2 = some (vL) ∧ B.tmps.get 4 = some (.pointer (some ⟨W.next + 1, 0, none⟩)) ∧ B.tmps.get 7 = some (.pointer (some ⟨px, 0, none⟩)) ∧ B.tmps.get 8 = some (.int .i64 s) ∧ B.tmps.get 9 = some (.int .i64 t) ∧ W' = W11 ∧ B.tmps.get 11 = some (.int .i64 i) ∧ B.tmps.get 10 = some (.slice (some ⟨bf, 0, none⟩) l.length (2 * l.length))) (fun Q2 hQ2 => ?_) ?_
      · refine wpK_endF (by simp) (wpK_skip (hQ2 _ _ ⟨rfl, rfl, by simp [h2, h4, h7, h8, h9], by simp [h2, h4, h7, h8, h9], by simp [h2, h4, h7, h8, h9], by simp [h2, h4, h7, h8, h9], by simp [h2, h4, h7, h8, h9], rfl, by simp [h11], by simp⟩))
      rintro ⟨tm, n, ds⟩ W12 ⟨hn, hd, h2, h4, h7, h8, h9, rfl, h11, h10⟩
      simp only at hn hd h2 h4 h7 h8 h9
      subst hn; subst hd
      simp only at h11 h10
      try simp only [wpK_assoc]
      refine wpK_reg1 (fun R hR => by simp [h11, hsi]; exact hR) ?_
      exact fin _ _ (.slice (some ⟨bf, 0, none⟩) l.length (2 * l.length)) _ e11 (by simp [h2]) (by simp [h4]) (by simp [h7]) (by simp [h8]) (by simp [h9]) (by simp) (by simp [h10]) (var_ints hVf (flowOf_len _ _)) (by rw [flowOf_len]; omega)
    try simp only [wpK_assoc]
    refine wpK_reg (fun R hR => by simp [h2, len_slice und43, hll0, hlenV, hLL0]; exact hR) ?_
    refine wpK_cut1 (J := fun B W' => B.n = 207 ∧ B.defers = [] ∧ B.tmps.get 2 = some (vL) ∧ B.tmps.get 4 = some (.pointer (some ⟨W.next + 1, 0, none⟩)) ∧ B.tmps.get 7 = some (.pointer (some ⟨px, 0, none⟩)) ∧ B.tmps.get 8 = some (.int .i64 s) ∧ B.tmps.get 9 = some (.int .i64 t) ∧ Ext W3 W' ∧ B.tmps.get 11 = some (.int .i64 i) ∧ B.tmps.get 10 = some (.slice (some ⟨bf, 0, none⟩) l.length (2 * l.length)) ∧ ∃ M : List Int, M.length = l.length ∧ Var W' bf 2 (intsV M)) (fun Q2 hQ2 => ?_) ?_
    · have hb : lL[0]? = some lL[0] := List.getElem?_eq_getElem hLL0
      generalize lL[0] = y at hb
      obtain ⟨_, _, e', hB2⟩ := hL
      rw [hvL] at e'
      cases e'
      obtain ⟨b', o', rfl, hhy⟩ := hB2 0 y hb
      have eF := indexAddr_slice (T := T0) und43 sz2 (b := b') (o := o') (c := cL) (k := .i64) hLL0
      rw [Nat.zero_mul, ← hvL] at eF
      simp only [Int.natCast_zero] at eF
      have lF := load_of und2 rfl (hhy.ext (E0.trans e11))
      rw [Nat.add_zero] at lF
      obtain ⟨q, hq1, hq2⟩ := u64_mod y l.length hll0
      have rr := aBinI_rem .u64 (IntKind.u64.wrap y) (l.length : Int) (by omega)
      rw [hq1] at rr
      have wl : IntKind.u64.wrap (l.length : Int) = l.length := IntWalk.u64_in _ (by omega)
      have wq : IntKind.i64.wrap (q : Int) = q := IntWalk.i64_in _ (by omega)
      have eO := indexAddr_slice (T := T0) und43 sz2 (b := bf) (o := 0) (c := 2 * l.length) (k := .i64) hq2
      rw [Nat.mul_one] at eO
      have hfl : (flowOf rm l.length)[q]? = some (rm (2 * q + 1)) := flowOf_get hq2
      have lO := hVf.load1 (T := T0) und2 rfl (j := q) (v := .int .i64 (rm (2 * q + 1))) (intsV_get hfl)
      have ha : l[q]? = some l[q] := List.getElem?_eq_getElem hq2
      have hmem : l[q] ∈ l := List.getElem_mem hq2
      have hcq := fcap (l[q], rm (2 * q + 1)) (List.mem_of_getElem? (i := q) (by rw [List.getElem?_zip_eq_some]; exact ⟨ha, hfl⟩))
      have harc := hT.arc _ hmem
      simp only at hcq
      have w1 : IntKind.i64.wrap (rm (2 * q + 1) - 1) = rm (2 * q + 1) - 1 := IntWalk.i64_in _ (by omega)
      obtain ⟨W12, s1, s2, s3, s4⟩ := hVf.store (T := T0) (t := 2) (v := .int .i64 (rm (2 * q + 1) - 1)) (o := q) inf2 (by rw [is2]; rfl) (by rw [intsV_len, flowOf_len]; show q + 1 ≤ l.length; omega) rfl
      have s4 : Var W12 bf 2 ((intsV (flowOf rm l.length)).take q ++ [.int .i64 (rm (2 * q + 1) - 1)] ++ (intsV (flowOf rm l.length)).drop (q + 1)) := s4
      rw [set_ints _ _ _ (by rw [flowOf_len]; exact hq2)] at s4
      generalize rm (2 * q + 1) = rq at lO w1 s1 s4
      have n11 := e11.1
      have e12 : Ext W3 W12 := ⟨by omega, fun b hb hk => by rw [s3.2 b (by omega) (by omega)]; exact e11.2 b hb hk⟩
      refine wpK_endT (by simp) ?_
      try simp only [wpK_assoc]
      refine wpK_reg1 (fun R hR => by simp [h2, eF, lF, conv_2_76, len_slice und43, conv_3_76, conv_76_3, wl, rr, wq, eO, lO, w1, s1]; exact hR) ?_
      exact hQ2 _ _ ⟨rfl, rfl, by simp [h2, h4, h7, h8, h9], by simp [h2, h4, h7, h8, h9], by simp [h2, h4, h7, h8, h9], by simp [h2, h4, h7, h8, h9], by simp [h2, h4, h7, h8, h9], e12, by simp [h11], by simp, _, by rw [List.length_set, flowOf_len], s4⟩
    rintro ⟨tm, n, ds⟩ W12 ⟨hn, hd, h2, h4, h7, h8, h9, e12, h11, h10, M, hM, hVM⟩
    simp only at hn hd h2 h4 h7 h8 h9
    subst hn; subst hd
    simp only at h11 h10
    try simp only [wpK_assoc]
    refine wpK_reg1 (fun R hR => by simp [h11, hsi]; exact hR) ?_
    exact fin _ _ (.slice (some ⟨bf, 0, none⟩) l.length (2 * l.length)) _ e12 (by simp [h2]) (by simp [h4]) (by simp [h7]) (by simp [h8]) (by simp [h9]) (by simp) (by simp [h10]) (var_ints hVM hM) (by omega)
  · rintro A' W' hf; exact hf.elim
  rintro ⟨tm, n, ds⟩ W6 ⟨hn, hd, h2, h4, h7, h8, h9, e6⟩
  simp only at hn hd h2 h4 h7 h8 h9
  subst hn; subst hd
  -- sets
  try simp only [wpK_assoc]
  refine wpK_reg (fun R hR => by simp []; exact hR) ?_
  try simp only [wpK_assoc]
  refine wpK_reg (fun R hR => by simp []; exact hR) ?_
  try simp only [wpK_assoc]
  refine wpK_while (I := fun k B W' => B.n = 207 ∧ B.defers = [] ∧ B.tmps.get 2 = some (vL) ∧ B.tmps.get 4 = some (.pointer (some ⟨W.next + 1, 0, none⟩)) ∧ B.tmps.get 7 = some (.pointer (some ⟨px, 0, none⟩)) ∧ Ext W3 W' ∧ W6.next ≤ W'.next ∧ ∃ (j : Nat) (w : Value) (M : List Int), k = lL.length - j ∧ j ≤ lL.length ∧ j ≤ 8 ∧ M.length = j ∧ B.tmps.get 22 = some (.int .i64 j) ∧ B.tmps.get 21 = some w ∧ GrowsN W' w M.length (intsV M) 3 1 (fun b => W6.next ≤ b))
    (J := fun B W' => B.n = 207 ∧ B.defers = [] ∧ B.tmps.get 2 = some (vL) ∧ B.tmps.get 4 = some (.pointer (some ⟨W.next + 1, 0, none⟩)) ∧ B.tmps.get 7 = some (.pointer (some ⟨px, 0, none⟩)) ∧ Ext W3 W' ∧ ∃ (w : Value) (M : List Int), B.tmps.get 21 = some w ∧ IntL W' w M ∧ M.length ≤ 1000) (Rt := fun _ _ => False) (k := lL.length) ?_ ?_ ?_ ?_
  · exact ⟨rfl, rfl, by simp [h2, h4, h7], by simp [h2, h4, h7], by simp [h2, h4, h7], e6, Nat.le_refl _, 0, .slice none 0 0, [], by simp, by omega, by omega, rfl, by simp, by simp, .nil _ _ _ _⟩
  · rintro k ⟨tm, n, ds⟩ W7 ⟨hn, hd, h2, h4, h7, e7, n7, j, w, M, hk, hj, hj8, hM, h22, h21, hG⟩ Q' hJ hRt hI
    simp only at hn hd h2 h4 h7
    subst hn; subst hd
    simp only at h22 h21
    by_cases hlt : j < lL.length
    case neg =>
      try simp only [wpK_assoc]
      refine wpK_reg (fun R hR => by simp [h2, h22, hlenV, hlt, undef]; exact hR) ?_
      try simp only [wpK_assoc]
      first | refine wpK_onF (by simp []) ?_ | refine wpK_out (by simp []) ?_ | refine wpK_condF (by simp []) ?_ | refine wpK_endF (by simp []) (wpK_skip ?_) | refine wpK_endF (by simp []) ?_
      exact hJ _ _ ⟨rfl, rfl, by simp [h2, h4, h7], by simp [h2, h4, h7], by simp [h2, h4, h7], e7, w, M, by simp [h21], GrowsN.ints hG, by omega⟩
    by_cases hlt8 : (j : Int) < 8
    case neg =>
      try simp only [wpK_assoc]
      refine wpK_reg (fun R hR => by simp [h2, h22, hlenV, hlt, hlt8]; exact hR) ?_
      try simp only [wpK_assoc]
      first | refine wpK_onF (by simp []) ?_ | refine wpK_out (by simp []) ?_ | refine wpK_condF (by simp []) ?_ | refine wpK_endF (by simp []) (wpK_skip ?_) | refine wpK_endF (by simp []) ?_
      exact hJ _ _ ⟨rfl, rfl, by simp [h2, h4, h7], by simp [h2, h4, h7], by simp [h2, h4, h7], e7, w, M, by simp [h21], GrowsN.ints hG, by omega⟩
    try simp only [wpK_assoc]
    refine wpK_reg (fun R hR => by simp [h2, h22, hlenV, hlt, hlt8]; exact hR) ?_
    try simp only [wpK_assoc]
    first | refine wpK_onT (by simp []) ?_ | refine wpK_outT (by simp []) ?_ | refine wpK_condT (by simp []) ?_ | refine wpK_endT (by simp []) ?_
    have hb : lL[j]? = some lL[j] := List.getElem?_eq_getElem hlt
    generalize lL[j] = y at hb
    obtain ⟨_, _, e', hB2⟩ := hL
    rw [hvL] at e'
    cases e'
    obtain ⟨b', o', rfl, hhy⟩ := hB2 j y hb
    have eF := indexAddr_slice (T := T0) und43 sz2 (b := b') (o := o') (c := cL) (k := .i64) hlt
    rw [Nat.mul_one, ← hvL] at eF
    have lF := load_of und2 rfl (hhy.ext (E0.trans e7))
    have rr := aBinI_rem .i64 y 10 (by omega)
    have hsj : IntKind.i64.wrap ((j : Int) + 1) = ((j + 1 : Nat) : Int) := i64_succ j (by omega)
    obtain ⟨w', W8, p1, p2, p3, p4⟩ := push_tmp und46 inf3 is3 z3' by3' hG (by omega) (y.tmod 10) (fun _ _ _ => trivial)
    refine wpK_block ?_
    try simp only [wpK_assoc]
    refine wpK_reg1 (fun R hR => by simp [h2, h21, h22, eF, lF, rr, bs46, p1]; exact hR) ?_
    try simp only [wpK_assoc]
    refine wpK_reg1 (fun R hR => by simp [h22, hsj]; exact hR) ?_
    refine hI (k - 1) _ _ (by omega) ⟨rfl, rfl, by simp [h2, h4, h7], by simp [h2, h4, h7], by simp [h2, h4, h7], ?_, by omega, j + 1, w', M ++ [y.tmod 10], by omega, by omega, by omega, by simp; omega, by simp, by simp, p3.mono (fun b hb => by omega)⟩
    have n36 := e6.1
    exact ⟨by omega, fun b hb hk => by rw [p4.2 b (by have := e7.1; omega) (by omega)]; exact e7.2 b hb hk⟩
  · rintro A' W' hf; exact hf.elim
  rintro ⟨tm, n, ds⟩ W7 ⟨hn, hd, h2, h4, h7, e7, w, M, h21, hIM, hLM⟩
  simp only at hn hd h2 h4 h7
  subst hn; subst hd
  simp only at h21
  have hwP : IntKind.u64.wrap (P : Int) = P := IntWalk.u64_in _ (by omega)
  have hpow : 2 ^ P ≤ 2 ^ 6 := Nat.pow_le_pow_right (by omega) hPle
  have hpos : 0 < 2 ^ P := Nat.two_pow_pos P
  have shP : aBinI .shl .u64 1 .u64 (P : Int) = some (.int .u64 ((2 ^ P : Nat) : Int)) := by
    have := aBinI_shl .u64 .u64 1 P (by show P ≤ 64; omega) (by rw [Nat.one_mul]; show 2 ^ P < 18446744073709551616; omega)
    rw [Nat.shiftLeft_eq, Nat.one_mul] at this; exact this
  obtain ⟨pw, hpw⟩ : ∃ pw : Int, pw = ((2 ^ P : Nat) : Int) := ⟨_, rfl⟩
  rw [← hpw] at shP
  try simp only [wpK_assoc]
  refine wpK_reg (fun R hR => by simp []; exact hR) ?_
  try simp only [wpK_assoc]
  refine wpK_while (I := fun k B W' => B.n = 207 ∧ B.defers = [] ∧ B.tmps.get 2 = some (vL) ∧ B.tmps.get 4 = some (.pointer (some ⟨W.next + 1, 0, none⟩)) ∧ B.tmps.get 7 = some (.pointer (some ⟨px, 0, none⟩)) ∧ Ext W3 W' ∧ ∃ (j : Nat) (w : Value) (M : List Int), k = 2 - j ∧ j ≤ 2 ∧ B.tmps.get 23 = some (.int .i64 j) ∧ B.tmps.get 21 = some w ∧ IntL W' w M ∧ M.length ≤ 1000)
    (J := fun B W' => B.n = 207 ∧ B.defers = [] ∧ Ext W3 W') (Rt := fun _ _ => False) (k := 2) ?_ ?_ ?_ ?_
  · exact ⟨rfl, rfl, by simp [h2, h4, h7], by simp [h2, h4, h7], by simp [h2, h4, h7], e7, 0, w, M, rfl, by omega, by simp, by simp [h21], hIM, hLM⟩
  · rintro k ⟨tm, n, ds⟩ W8 ⟨hn, hd, h2, h4, h7, e8, j, w, M, hk, hj, h23, h21, hIM, hLM⟩ Q' hJ hRt hI
    simp only at hn hd h2 h4 h7
    subst hn; subst hd
    simp only at h23 h21
    by_cases hlt : (j : Int) < 2
    case neg =>
      try simp only [wpK_assoc]
      refine wpK_reg (fun R hR => by simp [h23, hlt]; exact hR) ?_
      try simp only [wpK_assoc]
      first | refine wpK_onF (by simp []) ?_ | refine wpK_out (by simp []) ?_ | refine wpK_condF (by simp []) ?_ | refine wpK_endF (by simp []) (wpK_skip ?_) | refine wpK_endF (by simp []) ?_
      exact hJ _ _ ⟨rfl, rfl, e8⟩
    try simp only [wpK_assoc]
    refine wpK_reg (fun R hR => by simp [h23, hlt]; exact hR) ?_
    try simp only [wpK_assoc]
    first | refine wpK_onT (by simp []) ?_ | refine wpK_outT (by simp []) ?_ | refine wpK_condT (by simp []) ?_ | refine wpK_endT (by simp []) ?_
    have hsj : IntKind.i64.wrap ((j : Int) + 1) = ((j + 1 : Nat) : Int) := i64_succ j (by omega)
    obtain ⟨q, hq1, hq2⟩ := u64_mod oa (2 ^ P) hpos
    have rr := aBinI_rem .u64 (IntKind.u64.wrap oa) ((2 ^ P : Nat) : Int) (by omega)
    rw [hq1, ← hpw] at rr
    have wq : IntKind.i64.wrap (q : Int) = q := IntWalk.i64_in _ (by omega)
    have i0 := ix28_0 (W.next + 1) 0
    refine wpK_block ?_
    rcases Classical.em (RiseOk (P : Int) M) with hr | hr
    · have hcw : ∀ {W' : AW} {v' : Value}, Ext W8 W' → TriIn W' v' l → WpF T0 24 [.agg ⟨[.int .i64 P, v']⟩, w] W' (fun u W'' => Ext W' W'' ∧ u = .tuple ⟨[.int .i64 (capQ (orAll M) (arcsQ l)), .int .i64 0]⟩) := fun {W' v'} hx hv' => by
        refine (capacity_wp (P := (P : Int)) hv' (hIM.ext hx) (by omega)).mono ?_
        rintro u W'' ⟨g, ⟨_, _, rfl⟩ | ⟨_, hn, _⟩ | ⟨hn, _⟩⟩
        · exact ⟨g, rfl⟩
        · exact absurd hr hn
        · rw [hok] at hn; cases hn
      have hrw : ∀ {W' : AW}, Ext W8 W' → WpF T0 35 [.int .i64 P, w] W' (fun u W'' => W'' = W' ∧ u = .bool true) := fun {W'} hx => by
        refine (refRising_wp (hIM.ext hx) P (by omega)).mono ?_
        rintro u W'' ⟨rfl, ⟨_, rfl⟩ | ⟨hn, _⟩⟩
        · exact ⟨rfl, rfl⟩
        · exact absurd hr hn
      try simp only [wpK_assoc]
      refine wpK_x1 (fun R hR => by
        simp [h7, Lx, e8, aEnter, fun12, short_other, aCallV]; rw [callS_none]
        refine (net_wp (P := (P : Int)) (hTri.ext e8) (by omega)).mono ?_
        rintro _ W9 ⟨g1, vn, rfl, hGn⟩
        simp [h21, aEnter, fun24, short_other, aCallV]; rw [callS_none]
        refine (hcw g1 hGn.tri).mono ?_
        rintro _ W10 ⟨g2, rfl⟩
        simp; exact hR vn W10 (g1.trans g2)) ?_
      rintro vn W10 g10
      have e10 := e8.trans g10
      try simp only [wpK_assoc]
      refine wpK_reg (fun R hR => by
          simp [h7, h21, LP, e10, aEnter, fun35, short_other, aCallV]; rw [callS_none]
          refine (hrw g10).mono ?_
          rintro _ W9 ⟨e9, rfl⟩; subst W9
          simp [h7, h21, LP, e10]; exact hR) ?_
      refine wpK_condF (by simp) ?_
      have hrc := refCap_wp (P := (P : Int)) (hTri.ext e10) (hIM.ext g10) (by omega) hok (orAll M) (fun f hf => (orAll_bit (fun x hx => by
        obtain ⟨i, hi⟩ := List.mem_iff_getElem?.1 hx
        exact hr.nonneg i x hi) f).symm)
      try simp only [wpK_assoc]
      refine wpK_x0 (fun R hR => by
          simp [h7, h21, Lx, e10, aEnter, fun36, short_other, aCallV]; rw [callS_none]
          refine (hrc).mono ?_
          rintro _ W11 ⟨g11, rfl⟩
          simp [h7, h21, Lx, e10]; exact hR W11 g11) ?_
      rintro W11 g11
      have e11 := e10.trans g11
      try simp only [wpK_assoc]
      first | refine wpK_onF (by simp []) ?_ | refine wpK_out (by simp []) ?_ | refine wpK_condF (by simp []) ?_ | refine wpK_endF (by simp []) (wpK_skip ?_) | refine wpK_endF (by simp []) ?_
      simp only [behind_normal]
      try simp only [wpK_assoc]
      refine wpK_q1 (wr := Tr.nil |>.set 194 0 |>.set 195 1 |>.set 196 2 |>.set 197 3 |>.set 198 4 |>.set 199 5 |>.set 200 6 |>.set 201 7 |>.set 202 8 |>.set 203 9 |>.set 204 10 |>.set 205 11 |>.set 21 12) (bits := Tr.nil.lay 0 [0, 1, 0, 4, 12, 0, 32, 96, 224, 508, 1020, 2047, 4095]) (ord := [0, 1, 2, 3, 4, 5, 6, 7, 8, 9, 10, 11, 12]) (by kernel_rfl) (by kernel_rfl) (by kernel_rfl) (fun G hG => by
        simp [h4, h7, LP, hl40, e11, i0, conv_3_82, conv_82_3, hwP, shP, rr, wq, aEnter, fun37, short_other, aCallV]
        rw [dcallS_none]
        refine (members_wp P q (by omega) W11).mono ?_
        rintro sm W12 ⟨g12, hGm⟩
        simp [h4, h7, LP, hl40, e11, e11.trans g12, i0, conv_3_82, conv_82_3, hwP, shP, rr, wq, g12.1]
        exact hG sm W12 (And.intro (e11.trans g12) (GrowsN.ints hGm))) ?_
      rintro sm W12 ⟨e12, hIs'⟩
      have hml := memb_len P q
      try simp only [wpK_assoc]
      refine wpK_reg1 (fun R hR => by simp [h23, hsj]; exact hR) ?_
      exact hI (k - 1) _ _ (by omega) ⟨rfl, rfl, by simp [h2, h4, h7], by simp [h2, h4, h7], by simp [h2, h4, h7], e12, j + 1, sm, memb P q, by omega, by omega, by simp, by simp, hIs', by omega⟩
    · have hcw : ∀ {W' : AW} {v' : Value}, Ext W8 W' → TriIn W' v' l → WpF T0 24 [.agg ⟨[.int .i64 P, v']⟩, w] W' (fun u W'' => Ext W' W'' ∧ u = .tuple ⟨[.int .i64 0, .int .i64 1]⟩) := fun {W' v'} hx hv' => by
        refine (capacity_wp (P := (P : Int)) hv' (hIM.ext hx) (by omega)).mono ?_
        rintro u W'' ⟨g, ⟨_, hn, _⟩ | ⟨_, _, rfl⟩ | ⟨hn, _⟩⟩
        · exact absurd hn hr
        · exact ⟨g, rfl⟩
        · rw [hok] at hn; cases hn
      have hrw : ∀ {W' : AW}, Ext W8 W' → WpF T0 35 [.int .i64 P, w] W' (fun u W'' => W'' = W' ∧ u = .bool false) := fun {W'} hx => by
        refine (refRising_wp (hIM.ext hx) P (by omega)).mono ?_
        rintro u W'' ⟨rfl, ⟨hn, _⟩ | ⟨_, rfl⟩⟩
        · exact absurd hn hr
        · exact ⟨rfl, rfl⟩
      try simp only [wpK_assoc]
      refine wpK_x1 (fun R hR => by
        simp [h7, Lx, e8, aEnter, fun12, short_other, aCallV]; rw [callS_none]
        refine (net_wp (P := (P : Int)) (hTri.ext e8) (by omega)).mono ?_
        rintro _ W9 ⟨g1, vn, rfl, hGn⟩
        simp [h21, aEnter, fun24, short_other, aCallV]; rw [callS_none]
        refine (hcw g1 hGn.tri).mono ?_
        rintro _ W10 ⟨g2, rfl⟩
        simp; exact hR vn W10 (g1.trans g2)) ?_
      rintro vn W10 g10
      have e10 := e8.trans g10
      try simp only [wpK_assoc]
      refine wpK_reg (fun R hR => by
          simp [h7, h21, LP, e10, aEnter, fun35, short_other, aCallV]; rw [callS_none]
          refine (hrw g10).mono ?_
          rintro _ W9 ⟨e9, rfl⟩; subst W9
          simp [h7, h21, LP, e10]; exact hR) ?_
      refine wpK_condT (by simp) ?_
      try simp only [wpK_assoc]
      refine wpK_reg (fun R hR => by simp []; exact hR) ?_
      try simp only [wpK_assoc]
      first | refine wpK_onF (by simp []) ?_ | refine wpK_out (by simp []) ?_ | refine wpK_condF (by simp []) ?_ | refine wpK_endF (by simp []) (wpK_skip ?_) | refine wpK_endF (by simp []) ?_
      simp only [behind_normal]
      try simp only [wpK_assoc]
      refine wpK_q1 (wr := Tr.nil |>.set 194 0 |>.set 195 1 |>.set 196 2 |>.set 197 3 |>.set 198 4 |>.set 199 5 |>.set 200 6 |>.set 201 7 |>.set 202 8 |>.set 203 9 |>.set 204 10 |>.set 205 11 |>.set 21 12) (bits := Tr.nil.lay 0 [0, 1, 0, 4, 12, 0, 32, 96, 224, 508, 1020, 2047, 4095]) (ord := [0, 1, 2, 3, 4, 5, 6, 7, 8, 9, 10, 11, 12]) (by kernel_rfl) (by kernel_rfl) (by kernel_rfl) (fun G hG => by
        simp [h4, h7, LP, hl40, e10, i0, conv_3_82, conv_82_3, hwP, shP, rr, wq, aEnter, fun37, short_other, aCallV]
        rw [dcallS_none]
        refine (members_wp P q (by omega) W10).mono ?_
        rintro sm W12 ⟨g12, hGm⟩
        simp [h4, h7, LP, hl40, e10, e10.trans g12, i0, conv_3_82, conv_82_3, hwP, shP, rr, wq, g12.1]
        exact hG sm W12 (And.intro (e10.trans g12) (GrowsN.ints hGm))) ?_
      rintro sm W12 ⟨e12, hIs'⟩
      have hml := memb_len P q
      try simp only [wpK_assoc]
      refine wpK_reg1 (fun R hR => by simp [h23, hsj]; exact hR) ?_
      exact hI (k - 1) _ _ (by omega) ⟨rfl, rfl, by simp [h2, h4, h7], by simp [h2, h4, h7], by simp [h2, h4, h7], e12, j + 1, sm, memb P q, by omega, by omega, by simp, by simp, hIs', by omega⟩
  · rintro A' W' hf; exact hf.elim
  · rintro ⟨tm, n, ds⟩ W8 ⟨hn, hd, e8⟩
    simp only at hn hd
    subst hn; subst hd
    have ht8 := Tb e8
    try simp only [wpK_assoc]
    refine wpK_reg (fun R hR => by simp [aEnter, fun26, short_awake, aCallV, ht8]; exact hR) ?_
    exact wpK_ret ⟨.inr rfl, rfl, [.bool true], by simp, rfl⟩
end Go.Proofs.YtkgfjfkgmpeobaaDoor
