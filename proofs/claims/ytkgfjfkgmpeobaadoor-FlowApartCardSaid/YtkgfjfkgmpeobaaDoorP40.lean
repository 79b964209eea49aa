import Derived.Test.YtkgfjfkgmpeobaaDoorP39
import Derived.Test.YtkgfjfkgmpeobaaDoorEngPm
set_option linter.unusedSimpArgs false
set_option linter.unusedVariables false
set_option linter.unusedSectionVars false
open Go Go.Eng
namespace Go.Proofs.YtkgfjfkgmpeobaaDoor
attribute [local congr] undef_congr WpK.congr WpS.congr WpL.congr WpC.congr WpF.congr gotS.congr callS.congr nextS.congr wantS.congr condS.congr
attribute [local irreducible] WpK
attribute [local simp] WpDr_nil WpDr_cons atS_some dwantS_true dwantS_false kindS_light kindS_float kindS_heavy lightS_value floatS_some heavyS_value heavyS_skip heavyS_enter dcallS_some doneS_eq
  isLight isFloat isPlain dLook testBit_dec dChain dLights_nil dLights_skip dLights_one dLight_nil dLight_cons dFreshes_nil dFreshes_one oneF_none oneF_some dFresh_nil dFresh_cons oneL_some oneW_true oneW_false sameV_value dPut dMay valEq arrEq listEq List.getElem?_cons Tr.get_nil dEnd
attribute [local simp] WpS_nil WpS_cons isDefer undef_false wantS_true wantS_false nextS_value nextS_skip nextS_enter callS_some gotS_some aWanted aOp aEvalF aEval opMove opAssign opPick aVal flat flat1 AAct.put opBinOp opConvert opIndex Tr.get_set Tr.get_lay aBin aResults tupled
  aCall aVals aCallB blt_dec ble_dec beq_dec aBinI_add aBinI_sub aBinI_lss aBinI_leq aBinI_gtr aBinI_geq aBinI_eql aBinI_neq index_str len_str len_slice Nat.beq_refl und2 und3 und4 und5 und39 und76 und82 und115 und22 und29 und25 und33 und46 und43 und49 und111 und113 field151 field155_0 field155_1 field155_2 field155_3 field155_4
  field78 field106 field24 field31 field27 field35 field108 field109 opBox opLoad opFieldAddr opIndexAddr acells aAddr opExtract aExtract opUnOp opAlloc opStore opMakeInterface opNilCheck opBuild aParts opBuildSlice aValW
set_option maxHeartbeats 4000000
set_option linter.unusedSimpArgs false
set_option linter.unusedVariables false
def flowOf (rm : Nat → Int) (n : Nat) : List Int := (List.range n).map fun i => rm (2 * i + 1)
def flowTo (rm : Nat → Int) (n i : Nat) : List Int := (List.range n).map fun j => if j < i then rm (2 * j + 1) else 0
theorem flowTo_len (rm : Nat → Int) (n i : Nat) : (flowTo rm n i).length = n := by simp [flowTo]
theorem flowTo_set (rm : Nat → Int) (n i : Nat) (hi : i < n) : (flowTo rm n i).set i (rm (2 * i + 1)) = flowTo rm n (i + 1) := by
  apply List.ext_getElem?
  intro j
  by_cases hj : j < n
  · by_cases e : j = i
    · subst e
      rw [List.getElem?_set_self (by rw [flowTo_len]; exact hj)]
      simp [flowTo, List.getElem?_range hj]
    · rw [List.getElem?_set_ne (fun x => e x.symm)]
      have : (j < i + 1) = (j < i) := propext ⟨fun _ => by omega, fun _ => by omega⟩
      simp [flowTo, List.getElem?_range hj, this]
  · rw [List.getElem?_eq_none (by rw [List.length_set, flowTo_len]; omega), List.getElem?_eq_none (by rw [flowTo_len]; omega)]
theorem rep_ints : ∀ n, intsV (List.replicate n 0) = rep [.int .i64 0] n
  | 0 => rfl
  | n + 1 => by
    show intsV (List.replicate (n + 1) 0) = [.int .i64 0] ++ rep [.int .i64 0] n
    rw [← rep_ints n, List.replicate_succ]; rfl
theorem flowTo_zero (rm : Nat → Int) (n : Nat) : intsV (flowTo rm n 0) = rep [.int .i64 0] n := by
  have : flowTo rm n 0 = List.replicate n 0 := by
    rw [flowTo, List.eq_replicate_iff]
    simp
  rw [this, rep_ints]
theorem flowTo_all (rm : Nat → Int) (n : Nat) : flowTo rm n n = flowOf rm n := by
  apply List.map_congr_left
  intro j hj
  rw [if_pos (by simpa using hj)]
theorem taken_wp {W : AW} {p B : Nat} {L : List Stp} {s t : Nat} {rm : Nat → Int} {lv : Nat → Nat} (h : Wk W p B L s t rm lv) (h200 : L.length ≤ 200) :
    WpF T0 56 [.pointer (some ⟨p, 0, none⟩), .int .i64 (L.length : Nat)] W (fun v W' => Ext W W' ∧ v = .slice (some ⟨W.next, 0, none⟩) L.length (2 * L.length) ∧ Var W' W.next 2 (intsV (flowOf rm L.length))) := by
  refine wpF fun56 rfl ?_
  have hm := mk43 W L.length (by omega)
  rw [← flowTo_zero rm] at hm
  obtain ⟨W1, hW1, hE1, hn1, hV1⟩ : ∃ W1, W1 = W.newCells 2 (intsV (flowTo rm L.length 0)) ∧ Ext W W1 ∧ W1.next = W.next + 1 ∧ Var W1 W.next 2 (intsV (flowTo rm L.length 0)) := ⟨_, rfl, .newCells _ _ _, rfl, Var.new _ _ _⟩
  rw [← hW1] at hm
  try simp only [wpK_assoc]
  refine wpK_reg (fun R hR => by simp []; exact hR) ?_
  try simp only [wpK_assoc]
  refine wpK_reg (fun R hR => by simp [hm, opMakeSlice, aValW]; exact hR) ?_
  try simp only [wpK_assoc]
  refine wpK_reg (fun R hR => by simp [len_slice und43]; exact hR) ?_
  try simp only [wpK_assoc]
  refine wpK_while (I := fun k A W' => A.n = 28 ∧ A.defers = [] ∧ A.tmps.get 0 = some (.pointer (some ⟨p, 0, none⟩)) ∧ A.tmps.get 5 = some (.slice (some ⟨W.next, 0, none⟩) L.length (2 * L.length)) ∧ A.tmps.get 10 = some (.int .i64 L.length) ∧ Ext W W' ∧ ∃ i : Nat, k = L.length - i ∧ i ≤ L.length ∧ A.tmps.get 11 = some (.int .i64 i) ∧ Var W' W.next 2 (intsV (flowTo rm L.length i)))
    (J := fun A W' => A.n = 28 ∧ A.defers = [] ∧ A.tmps.get 0 = some (.pointer (some ⟨p, 0, none⟩)) ∧ A.tmps.get 5 = some (.slice (some ⟨W.next, 0, none⟩) L.length (2 * L.length)) ∧ A.tmps.get 10 = some (.int .i64 L.length) ∧ Ext W W' ∧ Var W' W.next 2 (intsV (flowOf rm L.length)))
    (Rt := fun _ _ => False) (k := L.length) ?_ ?_ ?_ ?_
  · exact ⟨rfl, rfl, by simp, by simp, by simp, hE1, 0, by simp, by omega, by simp, hV1⟩
  · rintro k ⟨tm, n, ds⟩ W3 ⟨hn, hd, h0, h5, h10, hE3, i, hk, hi, h11, hV3⟩ Q' hJ hRt hI
    simp only at hn hd h0 h5 h10
    subst hn; subst hd
    simp only at h11
    try simp only [wpK_assoc]
    refine wpK_reg (fun R hR => by simp [h10, h11]; exact hR) ?_
    by_cases hlt : i < L.length
    · try simp only [wpK_assoc]
      first | refine wpK_onT (by simp [hlt]) ?_ | refine wpK_outT (by simp [hlt]) ?_ | refine wpK_condT (by simp [hlt]) ?_ | refine wpK_endT (by simp [hlt]) ?_
      have hx := indexAddr_slice (T := T0) und43 sz2 (b := W.next) (o := 0) (c := 2 * L.length) (k := .i64) hlt
      rw [Nat.mul_one] at hx
      have hr := ((h.ext hE3).has.1 (2 * i + 1) (by omega) (by omega)).2
      have hl := load_of und2 rfl hr
      have hix := ix152 p 0 (2 * i + 1) (by omega)
      obtain ⟨W4, s1, s2, s3, s4⟩ := hV3.store (T := T0) (t := 2) (v := .int .i64 (rm (2 * i + 1))) (o := i) inf2 (by rw [is2]; rfl) (by rw [intsV_len, flowTo_len]; show i + 1 ≤ L.length; omega) rfl
      have s4 : Var W4 W.next 2 ((intsV (flowTo rm L.length i)).take i ++ [.int .i64 (rm (2 * i + 1))] ++ (intsV (flowTo rm L.length i)).drop (i + 1)) := s4
      rw [set_ints _ _ _ (by rw [flowTo_len]; exact hlt), flowTo_set rm _ _ hlt] at s4
      have w1 : IntKind.i64.wrap (2 * (i : Int)) = 2 * (i : Int) := IntWalk.i64_in _ (by omega)
      have w2 : IntKind.i64.wrap (2 * (i : Int) + 1) = ((2 * i + 1 : Nat) : Int) := by rw [IntWalk.i64_in _ (by omega)]; omega
      have e : (2 * i + 1) * 2 + 1 = 2 * (2 * i + 1) + 1 := by omega
      rw [← e] at hl
      generalize hy : 2 * i + 1 = y at hix hl w2 s1
      refine wpK_block ?_
      try simp only [wpK_assoc]
      refine wpK_reg (fun R hR => by simp [h11]; exact hR) ?_
      try simp only [wpK_assoc]
      refine wpK_reg1 (fun R hR => by simp [h0, h5, hx, nilck, aBinI_mul, w1, w2, hix, hl, s1]; exact hR) ?_
      try simp only [wpK_assoc]
      refine wpK_reg1 (fun R hR => by simp [h11]; exact hR) ?_
      have n3 := hE3.1
      exact hI (k - 1) _ _ (by omega) ⟨rfl, rfl, by simp [h0, h5, h10], by simp [h0, h5, h10], by simp [h0, h5, h10], ⟨by omega, fun b hb hk => by rw [s3.2 b (by omega) (by omega)]; exact hE3.2 b hb hk⟩, i + 1, by omega, by omega, by simp; exact i64_succ i (by omega), s4⟩
    · have e : i = L.length := by omega
      rw [e, flowTo_all] at hV3
      try simp only [wpK_assoc]
      first | refine wpK_onF (by simp [e]) ?_ | refine wpK_out (by simp [e]) ?_ | refine wpK_condF (by simp [e]) ?_ | refine wpK_endF (by simp [e]) (wpK_skip ?_) | refine wpK_endF (by simp [e]) ?_
      exact hJ _ _ ⟨rfl, rfl, by simp [h0, h5, h10], by simp [h0, h5, h10], by simp [h0, h5, h10], hE3, hV3⟩
  · rintro A' W' hf; exact hf.elim
  · rintro ⟨tm, n, ds⟩ W3 ⟨hn, hd, h0, h5, h10, hE3, hV3⟩
    simp only at hn hd h0 h5 h10
    subst hn; subst hd
    try simp only [wpK_assoc]
    refine wpK_reg (fun R hR => by simp [h5]; exact hR) ?_
    exact wpK_ret ⟨.inr rfl, rfl, [.slice (some ⟨W.next, 0, none⟩) L.length (2 * L.length)], by simp, hE3, rfl, hV3⟩
end Go.Proofs.YtkgfjfkgmpeobaaDoor

open Go Go.Eng
namespace Go.Proofs.YtkgfjfkgmpeobaaDoor
attribute [local congr] undef_congr WpK.congr WpS.congr WpL.congr WpC.congr WpF.congr gotS.congr callS.congr nextS.congr wantS.congr condS.congr
attribute [local irreducible] WpK
attribute [local simp] WpDr_nil WpDr_cons atS_some dwantS_true dwantS_false kindS_light kindS_float kindS_heavy lightS_value floatS_some heavyS_value heavyS_skip heavyS_enter dcallS_some doneS_eq
  isLight isFloat isPlain dLook testBit_dec dChain dLights_nil dLights_skip dLights_one dLight_nil dLight_cons dFreshes_nil dFreshes_one oneF_none oneF_some dFresh_nil dFresh_cons oneL_some oneW_true oneW_false sameV_value dPut dMay valEq arrEq listEq List.getElem?_cons Tr.get_nil dEnd
attribute [local simp] WpS_nil WpS_cons isDefer undef_false wantS_true wantS_false nextS_value nextS_skip nextS_enter callS_some gotS_some aWanted aOp aEvalF aEval opMove opAssign opPick aVal flat flat1 AAct.put opBinOp opConvert opIndex Tr.get_set Tr.get_lay aBin aResults tupled
  aCall aVals aCallB blt_dec ble_dec beq_dec aBinI_add aBinI_sub aBinI_lss aBinI_leq aBinI_gtr aBinI_geq aBinI_eql aBinI_neq index_str len_str len_slice Nat.beq_refl und2 und3 und4 und5 und39 und76 und82 und115 und22 und29 und25 und33 und46 und43 und49 und111 und113 field151 field155_0 field155_1 field155_2 field155_3 field155_4
  field78 field106 field24 field31 field27 field35 field108 field109 opBox opLoad opFieldAddr opIndexAddr acells aAddr opExtract aExtract opUnOp opAlloc opStore opMakeInterface opNilCheck opBuild aParts opBuildSlice aValW
set_option maxHeartbeats 4000000
set_option linter.unusedSimpArgs false
set_option linter.unusedVariables false
theorem flowOf_get {rm : Nat → Int} {n i : Nat} (h : i < n) : (flowOf rm n)[i]? = some (rm (2 * i + 1)) := by simp [flowOf, List.getElem?_range h]
theorem flow_is {P : Int} {l : List Tri} {s t : Nat} {x : Int} {rm : Nat → Int} {lv : Nat → Nat} (hin : PlanIn P (arcsQ l)) (F : Filled (layL (1 <<< s) s (arcsQ l)) s t (hCap (layL (1 <<< s) s (arcsQ l))) x rm lv) :
    capsOk (l.zip (flowOf rm l.length)) ∧ ∀ q : Nat, netZ (l.zip (flowOf rm l.length)) q = (if s = q then x else 0) - (if t = q then x else 0) := by
  have hLl : (layL (1 <<< s) s (arcsQ l)).length = l.length := by rw [layL_len]; simp [arcsQ]
  have hq : ∀ {i : Nat} {a : Tri}, l[i]? = some a → (arcsQ l)[i]? = some (a.1, a.2.1, a.2.2, 0) := fun h => by simp [arcsQ, h]
  have room : ∀ (i : Nat) (a : Tri), l[i]? = some a → rm (2 * i) + rm (2 * i + 1) = a.2.2 ∧ 0 ≤ rm (2 * i) ∧ 0 ≤ rm (2 * i + 1) ∧ hCap (layL (1 <<< s) s (arcsQ l)) (2 * i) = a.2.2 ∧ hCap (layL (1 <<< s) s (arcsQ l)) (2 * i + 1) = 0 := by
    intro i a ha
    have hlt := (List.getElem?_eq_some_iff.1 ha).1
    have h1 := F.rooms.sum (2 * i) (by omega)
    have h2 := F.rooms.nn (2 * i) (by omega)
    have h3 := F.rooms.nn (2 * i + 1) (by omega)
    rw [flip_two] at h1
    have g1 : hCap (layL (1 <<< s) s (arcsQ l)) (2 * i) = a.2.2 := by unfold hCap; rw [if_pos (by omega), show 2 * i / 2 = i from by omega, stp_lay (hq ha)]
    have g2 : hCap (layL (1 <<< s) s (arcsQ l)) (2 * i + 1) = 0 := by unfold hCap; rw [if_neg (by omega), show (2 * i + 1) / 2 = i from by omega, stp_lay (hq ha)]
    rw [g1, g2] at h1
    exact ⟨by omega, h2, h3, g1, g2⟩
  refine ⟨fun q hm => ?_, fun q => ?_⟩
  · obtain ⟨i, hi⟩ := List.mem_iff_getElem?.1 hm
    rw [List.getElem?_zip_eq_some] at hi
    obtain ⟨h1, h2⟩ := hi
    have hlt := (List.getElem?_eq_some_iff.1 h1).1
    rw [flowOf_get hlt] at h2
    obtain ⟨r1, r2, r3, _, _⟩ := room i q.1 h1
    simp only [Option.some.injEq] at h2
    omega
  · have key : ∀ i, i ≤ l.length → netZ ((l.zip (flowOf rm l.length)).take i) q = outN (layL (1 <<< s) s (arcsQ l)) (hCap (layL (1 <<< s) s (arcsQ l))) q i - outN (layL (1 <<< s) s (arcsQ l)) rm q i := by
      intro i
      induction i with
      | zero => intro _; simp [netZ, outN]
      | succ i ih =>
        intro hi
        have ha : l[i]? = some l[i] := List.getElem?_eq_getElem (by omega)
        have hmem : l[i] ∈ l := List.getElem_mem _
        generalize l[i] = a at ha hmem
        obtain ⟨r1, r2, r3, r4, r5⟩ := room i a ha
        have hst := hin.step (a := (a.1, a.2.1, a.2.2, 0)) (by simp only [arcsQ, List.mem_map]; exact ⟨a, hmem, rfl⟩)
        simp only at hst
        rw [zip_snoc ha (flowOf_get (by omega)), netZ_snoc, ih (by omega), outN, outN, stp_lay (hq ha), r4, r5]
        simp only [atP_one, net1]
        have e1 : (a.1.toNat = q) = (a.1 = q) := propext ⟨fun _ => by omega, fun _ => by omega⟩
        have e2 : (a.2.1.toNat = q) = (a.2.1 = q) := propext ⟨fun _ => by omega, fun _ => by omega⟩
        simp only [e1, e2]
        split <;> split <;> omega
    have hk := key l.length (Nat.le_refl _)
    have hg := F.gone q
    rw [hLl] at hg
    rw [List.take_of_length_le (by rw [List.length_zip]; omega)] at hk
    rw [hk, hg]; omega
theorem ends_wp {W : AW} (P : Nat) (a b : Int) (hP : 2 ≤ P) (hP24 : P ≤ 24) : WpF T0 31 [.int .i64 P, .agg ⟨[.int .i64 a, .int .i64 b]⟩] W (fun u W' => Ext W W' ∧ ∃ s t : Nat, u = .tuple ⟨[.int .i64 s, .int .i64 t]⟩ ∧ two? s t P = true ∧ s < P ∧ t < P ∧ s ≠ t) := by
  refine wpF fun31 rfl ?_
  have hV := Var.new W 28 [.int .i64 a, .int .i64 b]
  have hE : Ext W (W.newCells 28 [.int .i64 a, .int .i64 b]) := .newCells _ _ _
  generalize hW1 : W.newCells 28 [.int .i64 a, .int .i64 b] = W1 at hV hE
  have l0 := hV.load1 (T := T0) und3 rfl (j := 0) (v := .int .i64 a) rfl
  have l1 := hV.load1 (T := T0) und3 rfl (j := 1) (v := .int .i64 b) rfl
  have hwP : IntKind.u64.wrap (P : Int) = P := IntWalk.u64_in _ (by omega)
  obtain ⟨s, hs1, hs2⟩ := u64_mod a P (by omega)
  obtain ⟨t, ht1, ht2⟩ := u64_mod b P (by omega)
  have r1 := aBinI_rem .u64 (IntKind.u64.wrap a) (P : Int) (by omega)
  rw [hs1] at r1
  have r2 := aBinI_rem .u64 (IntKind.u64.wrap b) (P : Int) (by omega)
  rw [ht1] at r2
  have ws : IntKind.i64.wrap (s : Int) = s := IntWalk.i64_in _ (by omega)
  have wt : IntKind.i64.wrap (t : Int) = t := IntWalk.i64_in _ (by omega)
  have i0 := ix28_0 W.next 0
  have i1 := ix28_1 W.next 0
  try simp only [wpK_assoc]
  refine wpK_reg (fun R hR => by simp [hW1]; exact hR) ?_
  try simp only [wpK_assoc]
  refine wpK_reg (fun R hR => by simp [i0, l0, conv_3_82, conv_82_3, hwP, r1, ws]; exact hR) ?_
  try simp only [wpK_assoc]
  refine wpK_reg (fun R hR => by simp [i1, l1, conv_3_82, conv_82_3, hwP, r2, wt]; exact hR) ?_
  by_cases he : s = t
  · subst he
    have r3 := aBinI_rem .i64 ((s : Int) + 1) (P : Int) (by omega)
    have w3 : IntKind.i64.wrap ((s : Int) + 1) = (s : Int) + 1 := IntWalk.i64_in _ (by omega)
    obtain ⟨y, hy, hyP, hys⟩ : ∃ y : Nat, ((s : Int) + 1).tmod P = y ∧ y < P ∧ s ≠ y := by
      refine ⟨(s + 1) % P, by rw [show ((s : Int) + 1) = ((s + 1 : Nat) : Int) from rfl, ← Int.ofNat_tmod], Nat.mod_lt _ (by omega), ?_⟩
      by_cases e : s + 1 = P
      · rw [e, Nat.mod_self]; omega
      · rw [Nat.mod_eq_of_lt (by omega)]; omega
    rw [hy] at r3
    try simp only [wpK_assoc]
    refine wpK_reg (fun R hR => by simp []; exact hR) ?_
    try simp only [wpK_assoc]
    first | refine wpK_onT (by simp []) ?_ | refine wpK_outT (by simp []) ?_ | refine wpK_condT (by simp []) ?_ | refine wpK_endT (by simp []) ?_
    try simp only [wpK_assoc]
    refine wpK_reg1 (fun R hR => by simp [w3, r3]; exact hR) ?_
    simp only [behind_normal]
    try simp only [wpK_assoc]
    refine wpK_reg (fun R hR => by simp []; exact hR) ?_
    exact wpK_ret ⟨.inr rfl, rfl, [.int .i64 s, .int .i64 y], by simp, hE, s, y, rfl, by simp [two?]; omega, hs2, hyP, hys⟩
  · have he' : ¬ (s : Int) = t := by omega
    try simp only [wpK_assoc]
    refine wpK_reg (fun R hR => by simp [he', he]; exact hR) ?_
    try simp only [wpK_assoc]
    first | refine wpK_onF (by simp []) ?_ | refine wpK_out (by simp []) ?_ | refine wpK_condF (by simp []) ?_ | refine wpK_endF (by simp []) (wpK_skip ?_) | refine wpK_endF (by simp []) ?_
    try simp only [wpK_assoc]
    refine wpK_reg (fun R hR => by simp []; exact hR) ?_
    exact wpK_ret ⟨.inr rfl, rfl, [.int .i64 s, .int .i64 t], by simp, hE, s, t, rfl, by simp [two?]; omega, hs2, ht2, he⟩
theorem has50_wp {W : AW} {v : Value} {l : List Int} (h : IntL W v l) (hl : l.length < 4611686018427387904) (x : Int) : WpF T0 50 [v, .int .i64 x] W (fun u W' => W' = W ∧ u = .bool (decide (x ∈ l))) := by
  obtain ⟨A, c, rfl, hA⟩ := h
  refine wpF fun50 rfl ?_
  try simp only [wpK_assoc]
  refine wpK_reg (fun R hR => by simp []; exact hR) ?_
  try simp only [wpK_assoc]
  refine wpK_reg (fun R hR => by simp []; exact hR) ?_
  try simp only [wpK_assoc]
  refine wpK_while (I := fun k B W' => B.n = 18 ∧ B.defers = [] ∧ B.tmps.get 0 = some (.slice A l.length c) ∧ B.tmps.get 1 = some (.int .i64 x) ∧ W' = W ∧ ∃ i : Nat, k = l.length - i ∧ i ≤ l.length ∧ B.tmps.get 5 = some (.int .i64 i) ∧ ∀ (j : Nat) y, j < i → l[j]? = some y → y ≠ x)
    (J := fun B W' => B.n = 18 ∧ B.defers = [] ∧ W' = W ∧ x ∉ l) (Rt := fun B W' => B.defers = [] ∧ B.tmps.get 4 = some (.bool true) ∧ W' = W ∧ x ∈ l) (k := l.length) ?_ ?_ ?_ ?_
  · exact ⟨rfl, rfl, by simp, by simp, rfl, 0, by simp, by omega, by simp, fun j y hj => by omega⟩
  · rintro k ⟨tm, n, ds⟩ W3 ⟨hn, hd, h0, h1, rfl, i, hk, hi, h5, hno⟩ Q' hJ hRt hI
    simp only at hn hd h0 h1
    subst hn; subst hd
    simp only at h5
    try simp only [wpK_assoc]
    refine wpK_reg (fun R hR => by simp [h0, h5, len_slice und46]; exact hR) ?_
    by_cases hlt : i < l.length
    · try simp only [wpK_assoc]
      first | refine wpK_onT (by simp [hlt]) ?_ | refine wpK_outT (by simp [hlt]) ?_ | refine wpK_condT (by simp [hlt]) ?_ | refine wpK_endT (by simp [hlt]) ?_
      have ha : l[i]? = some l[i] := List.getElem?_eq_getElem hlt
      have hm : l[i] ∈ l := List.getElem_mem hlt
      generalize l[i] = y at ha hm
      obtain ⟨b, o, rfl, hh⟩ := hA i y ha
      have hx := indexAddr_slice (T := T0) und46 sz3 (b := b) (o := o) (c := c) (k := .i64) hlt
      rw [Nat.mul_one] at hx
      have hl := load_of und3 rfl hh
      refine wpK_block ?_
      by_cases e : y = x
      · try simp only [wpK_assoc]
        refine wpK_reg (fun R hR => by simp [h0, h1, h5, hx, hl, e]; exact hR) ?_
        try simp only [wpK_assoc]
        first | refine wpK_onT (by simp []) ?_ | refine wpK_outT (by simp []) ?_ | refine wpK_condT (by simp []) ?_ | refine wpK_endT (by simp []) ?_
        try simp only [wpK_assoc]
        refine wpK_reg (fun R hR => by simp []; exact hR) ?_
        exact wpK_ret (hRt _ _ ⟨rfl, by simp, rfl, e ▸ hm⟩)
      · try simp only [wpK_assoc]
        refine wpK_reg (fun R hR => by simp [h0, h1, h5, hx, hl, e]; exact hR) ?_
        try simp only [wpK_assoc]
        first | refine wpK_onF (by simp []) ?_ | refine wpK_out (by simp []) ?_ | refine wpK_condF (by simp []) ?_ | refine wpK_endF (by simp []) (wpK_skip ?_) | refine wpK_endF (by simp []) ?_
        try simp only [wpK_assoc]
        refine wpK_reg1 (fun R hR => by simp [h5]; exact hR) ?_
        refine hI (k - 1) _ _ (by omega) ⟨rfl, rfl, by simp [h0, h1], by simp [h0, h1], rfl, i + 1, by omega, by omega, by simp; exact i64_succ i (by omega), fun j z hj hz => ?_⟩
        by_cases e2 : j = i
        · subst e2; rw [ha] at hz; cases hz; exact e
        · exact hno j z (by omega) hz
    · try simp only [wpK_assoc]
      first | refine wpK_onF (by simp [hlt]) ?_ | refine wpK_out (by simp [hlt]) ?_ | refine wpK_condF (by simp [hlt]) ?_ | refine wpK_endF (by simp [hlt]) (wpK_skip ?_) | refine wpK_endF (by simp [hlt]) ?_
      refine hJ _ _ ⟨rfl, rfl, rfl, fun hm => ?_⟩
      obtain ⟨j, hj, he⟩ := List.getElem_of_mem hm
      exact hno j _ (by omega) (List.getElem?_eq_getElem hj) he
  · rintro A' W' ⟨h1, h2, rfl, h3⟩
    exact ⟨.inr rfl, h1, [.bool true], by simp [h2], rfl, by simp [h3]⟩
  · rintro ⟨tm, n, ds⟩ W' ⟨hn, hd, rfl, h3⟩
    simp only at hn hd
    subst hn; subst hd
    try simp only [wpK_assoc]
    refine wpK_reg (fun R hR => by simp []; exact hR) ?_
    exact wpK_ret ⟨.inr rfl, rfl, [.bool false], by simp, rfl, by simp [h3]⟩
end Go.Proofs.YtkgfjfkgmpeobaaDoor

open Go Go.Eng
namespace Go.Proofs.YtkgfjfkgmpeobaaDoor
attribute [local congr] undef_congr WpK.congr WpS.congr WpL.congr WpC.congr WpF.congr gotS.congr callS.congr nextS.congr wantS.congr condS.congr
attribute [local irreducible] WpK
attribute [local simp] WpDr_nil WpDr_cons atS_some dwantS_true dwantS_false kindS_light kindS_float kindS_heavy lightS_value floatS_some heavyS_value heavyS_skip heavyS_enter dcallS_some doneS_eq
  isLight isFloat isPlain dLook testBit_dec dChain dLights_nil dLights_skip dLights_one dLight_nil dLight_cons dFreshes_nil dFreshes_one oneF_none oneF_some dFresh_nil dFresh_cons oneL_some oneW_true oneW_false sameV_value dPut dMay valEq arrEq listEq List.getElem?_cons Tr.get_nil dEnd
attribute [local simp] WpS_nil WpS_cons isDefer undef_false wantS_true wantS_false nextS_value nextS_skip nextS_enter callS_some gotS_some aWanted aOp aEvalF aEval opMove opAssign opPick aVal flat flat1 AAct.put opBinOp opConvert opIndex Tr.get_set Tr.get_lay aBin aResults tupled
  aCall aVals aCallB blt_dec ble_dec beq_dec aBinI_add aBinI_sub aBinI_lss aBinI_leq aBinI_gtr aBinI_geq aBinI_eql aBinI_neq index_str len_str len_slice Nat.beq_refl und2 und3 und4 und5 und39 und76 und82 und115 und22 und29 und25 und33 und46 und43 und49 und111 und113 field151 field155_0 field155_1 field155_2 field155_3 field155_4
  field78 field106 field24 field31 field27 field35 field108 field109 opBox opLoad opFieldAddr opIndexAddr acells aAddr opExtract aExtract opUnOp opAlloc opStore opMakeInterface opNilCheck opBuild aParts opBuildSlice aValW
set_option maxHeartbeats 4000000
set_option linter.unusedSimpArgs false
set_option linter.unusedVariables false
theorem near_in {P : Nat} {l : List Quad} {s t : Nat} {x : Int} {rm : Nat → Int} {lv : Nat → Nat} (hin : PlanIn P l) (hs : s < P) (F : Filled (layL (1 <<< s) s l) s t (hCap (layL (1 <<< s) s l)) x rm lv) :
    (∀ j, P ≤ j → (nearS lv 24).testBit j = false) ∧ nearS lv 24 < 2 ^ P := by
  have key : ∀ j, P ≤ j → (nearS lv 24).testBit j = false := by
    intro j hj
    rw [nearS_bit]
    by_cases h24 : j < 24
    · by_cases h0 : 0 < lv j
      · exfalso
        rcases F.lev.pre j h24 h0 with rfl | ⟨y, hy, hto, _, _, _⟩
        · omega
        · rw [layL_len] at hy
          have ha : l[y / 2]? = some (l[y / 2]'(by omega)) := List.getElem?_eq_getElem (by omega)
          have hm : l[y / 2]'(by omega) ∈ l := List.getElem_mem _
          generalize l[y / 2]'_ = a at ha hm
          have := hin.step hm
          unfold hTo at hto
          rw [stp_lay ha] at hto
          simp only [atP_one] at hto
          split at hto <;> omega
      · simp [h0]
    · simp [h24]
  exact ⟨key, Nat.lt_pow_two_of_testBit _ (fun i hi => key i hi)⟩
theorem filled_capQ {P : Int} {l : List Quad} {s t : Nat} {x : Int} {rm : Nat → Int} {lv : Nat → Nat} (hin : PlanIn P l) (hs : s < 24) (ht : t < 24) (F : Filled (layL (1 <<< s) s l) s t (hCap (layL (1 <<< s) s l)) x rm lv) :
    (∀ T, T.testBit s = true → T.testBit t = false → x ≤ capQ T l ∧ (x = capQ T l → ∀ q, q < 24 → 0 < lv q → T.testBit q = true)) ∧ x = capQ (nearS lv 24) l ∧ (nearS lv 24).testBit s = true ∧ (nearS lv 24).testBit t = false := by
  have hL := layL_ok hin (from_ := 1 <<< s) (show s < 24 by omega)
  have hc := F.cuts hL hs ht (cap_rooms hL)
  have e : ∀ T, capL T (layL (1 <<< s) s l) (hCap (layL (1 <<< s) s l)) (layL (1 <<< s) s l).length = capQ T l := fun T => by
    rw [layL_len, capL_Q T s l l.length (Nat.le_refl _), List.take_length]
  simp only [e] at hc
  exact hc
end Go.Proofs.YtkgfjfkgmpeobaaDoor

open Go Go.Eng
namespace Go.Proofs.YtkgfjfkgmpeobaaDoor
attribute [local congr] undef_congr WpK.congr WpS.congr WpL.congr WpC.congr WpF.congr gotS.congr callS.congr nextS.congr wantS.congr condS.congr
attribute [local irreducible] WpK
attribute [local simp] WpDr_nil WpDr_cons atS_some dwantS_true dwantS_false kindS_light kindS_float kindS_heavy lightS_value floatS_some heavyS_value heavyS_skip heavyS_enter dcallS_some doneS_eq
  isLight isFloat isPlain dLook testBit_dec dChain dLights_nil dLights_skip dLights_one dLight_nil dLight_cons dFreshes_nil dFreshes_one oneF_none oneF_some dFresh_nil dFresh_cons oneL_some oneW_true oneW_false sameV_value dPut dMay valEq arrEq listEq List.getElem?_cons Tr.get_nil dEnd
attribute [local simp] WpS_nil WpS_cons isDefer undef_false wantS_true wantS_false nextS_value nextS_skip nextS_enter callS_some gotS_some aWanted aOp aEvalF aEval opMove opAssign opPick aVal flat flat1 AAct.put opBinOp opConvert opIndex Tr.get_set Tr.get_lay aBin aResults tupled
  aCall aVals aCallB blt_dec ble_dec beq_dec aBinI_add aBinI_sub aBinI_lss aBinI_leq aBinI_gtr aBinI_geq aBinI_eql aBinI_neq index_str len_str len_slice Nat.beq_refl und2 und3 und4 und5 und39 und76 und82 und115 und22 und29 und25 und33 und46 und43 und49 und111 und113 field151 field155_0 field155_1 field155_2 field155_3 field155_4
  field78 field106 field24 field31 field27 field35 field108 field109 opBox opLoad opFieldAddr opIndexAddr acells aAddr opExtract aExtract opUnOp opAlloc opStore opMakeInterface opNilCheck opBuild aParts opBuildSlice aValW
set_option maxHeartbeats 4000000
set_option linter.unusedSimpArgs false
set_option linter.unusedVariables false
end Go.Proofs.YtkgfjfkgmpeobaaDoor

open Go Go.Eng
namespace Go.Proofs.YtkgfjfkgmpeobaaDoor
attribute [local congr] undef_congr WpK.congr WpS.congr WpL.congr WpC.congr WpF.congr gotS.congr callS.congr nextS.congr wantS.congr condS.congr
attribute [local irreducible] WpK
attribute [local simp] WpDr_nil WpDr_cons atS_some dwantS_true dwantS_false kindS_light kindS_float kindS_heavy lightS_value floatS_some heavyS_value heavyS_skip heavyS_enter dcallS_some doneS_eq
  isLight isFloat isPlain dLook testBit_dec dChain dLights_nil dLights_skip dLights_one dLight_nil dLight_cons dFreshes_nil dFreshes_one oneF_none oneF_some dFresh_nil dFresh_cons oneL_some oneW_true oneW_false sameV_value dPut dMay valEq arrEq listEq List.getElem?_cons Tr.get_nil dEnd
attribute [local simp] WpS_nil WpS_cons isDefer undef_false wantS_true wantS_false nextS_value nextS_skip nextS_enter callS_some gotS_some aWanted aOp aEvalF aEval opMove opAssign opPick aVal flat flat1 AAct.put opBinOp opConvert opIndex Tr.get_set Tr.get_lay aBin aResults tupled
  aCall aVals aCallB blt_dec ble_dec beq_dec aBinI_add aBinI_sub aBinI_lss aBinI_leq aBinI_gtr aBinI_geq aBinI_eql aBinI_neq index_str len_str len_slice Nat.beq_refl und2 und3 und4 und5 und39 und76 und82 und115 und22 und29 und25 und33 und46 und43 und49 und111 und113 field151 field155_0 field155_1 field155_2 field155_3 field155_4
  field78 field106 field24 field31 field27 field35 field108 field109 opBox opLoad opFieldAddr opIndexAddr acells aAddr opExtract aExtract opUnOp opAlloc opStore opMakeInterface opNilCheck opBuild aParts opBuildSlice aValW
set_option maxHeartbeats 4000000
set_option linter.unusedSimpArgs false
set_option linter.unusedVariables false
def bitI (S i : Nat) : Int := if S.testBit i then 1 else 0
theorem bit_tmod (S i : Nat) : ((S >>> i : Nat) : Int).tmod 2 = bitI S i := by
  have h := bit_rem S i
  have h0 : 0 ≤ ((S >>> i : Nat) : Int).tmod 2 ∧ ((S >>> i : Nat) : Int).tmod 2 < 2 := ⟨Int.tmod_nonneg _ (Int.natCast_nonneg _), Int.tmod_lt_of_pos _ (by omega)⟩
  unfold bitI
  cases hb : S.testBit i with
  | true => rw [if_pos rfl]; exact h.2 hb
  | false =>
    have : ¬ ((S >>> i : Nat) : Int).tmod 2 = 1 := fun e => by rw [h.1 e] at hb; cases hb
    simp only [Bool.false_eq_true, if_false]; omega
theorem bit_ops (S i : Nat) (hi : i ≤ 63) : aBinI .shr .i64 (S : Int) .u64 (i : Int) = some (.int .i64 ((S >>> i : Nat) : Int)) ∧ aBinI .rem .i64 ((S >>> i : Nat) : Int) .i64 2 = some (.int .i64 (bitI S i)) := by
  refine ⟨aBinI_shr .i64 .u64 S i (by show i ≤ 64; omega), ?_⟩
  have := aBinI_rem .i64 ((S >>> i : Nat) : Int) 2 (by omega)
  rw [bit_tmod] at this; exact this
theorem bits_wp {W : AW} {v : Value} {P : Int} {l : List Tri} (h : TriIn W v l) (hok : planOk P (arcsQ l) = true) (S : Nat) :
    WpF T0 70 [.agg ⟨[.int .i64 P, v]⟩, .int .i64 S] W (fun u W' => Ext W W' ∧ u = .int .i64 (capQ S (arcsQ l))) := by
  have hin := arcsQ_in hok
  obtain ⟨hP2, hP24, h200⟩ := hin.size
  have hql : (arcsQ l).length = l.length := by simp [arcsQ]
  rw [hql] at h200
  obtain ⟨Av, cv, rfl, hA⟩ := h
  refine wpF fun70 rfl ?_
  obtain ⟨W0, hW0, hE0, hV0⟩ : ∃ W0, W0 = W.newCells 24 [.int .i64 P, .slice Av l.length cv] ∧ Ext W W0 ∧ Var W0 W.next 24 [.int .i64 P, .slice Av l.length cv] := ⟨_, rfl, .newCells _ _ _, Var.new _ _ _⟩
  have l1 := hV0.load1 (T := T0) und22 rfl (j := 1) (v := .slice Av l.length cv) rfl
  try simp only [wpK_assoc]
  refine wpK_reg (fun R hR => by simp [← hW0]; exact hR) ?_
  try simp only [wpK_assoc]
  refine wpK_reg (fun R hR => by simp []; exact hR) ?_
  try simp only [wpK_assoc]
  refine wpK_reg (fun R hR => by simp []; exact hR) ?_
  try simp only [wpK_assoc]
  refine wpK_while (I := fun k A W' => A.n = 47 ∧ A.defers = [] ∧ A.tmps.get 1 = some (.int .i64 S) ∧ A.tmps.get 2 = some (.pointer (some ⟨W.next, 0, none⟩)) ∧ W' = W0 ∧ ∃ i : Nat, k = l.length - i ∧ i ≤ l.length ∧ A.tmps.get 6 = some (.int .i64 i) ∧ A.tmps.get 5 = some (.int .i64 (capQ S ((arcsQ l).take i))))
    (J := fun A W' => A.n = 47 ∧ A.defers = [] ∧ W' = W0 ∧ A.tmps.get 5 = some (.int .i64 (capQ S (arcsQ l))))
    (Rt := fun _ _ => False) (k := l.length) ?_ ?_ ?_ ?_
  · exact ⟨rfl, rfl, by simp, by simp, rfl, 0, by simp, by omega, by simp, by simp [capQ]⟩
  · rintro k ⟨tm, n, ds⟩ W3 ⟨hn, hd, h1, h2, rfl, i, hk, hi, h6, h5⟩ Q' hJ hRt hI
    simp only at hn hd h1 h2
    subst hn; subst hd
    simp only at h6 h5
    try simp only [wpK_assoc]
    refine wpK_reg (fun R hR => by simp [h2, h6, l1, len_slice und22]; exact hR) ?_
    by_cases hlt : i < l.length
    · try simp only [wpK_assoc]
      first | refine wpK_onT (by simp [hlt]) ?_ | refine wpK_outT (by simp [hlt]) ?_ | refine wpK_condT (by simp [hlt]) ?_ | refine wpK_endT (by simp [hlt]) ?_
      have ha : l[i]? = some l[i] := List.getElem?_eq_getElem hlt
      have hmem : l[i] ∈ l := List.getElem_mem hlt
      generalize l[i] = a at ha hmem
      have haq : (arcsQ l)[i]? = some (a.1, a.2.1, a.2.2, 0) := by simp [arcsQ, ha]
      have hst1 := hin.step (a := (a.1, a.2.1, a.2.2, 0)) (List.mem_of_getElem? haq)
      have hsum := capQ_take (s := S) haq
      have hb := capQ_le hin S i (by omega)
      obtain ⟨a1, a2, a3⟩ := a
      simp only at hst1
      obtain ⟨f, rfl⟩ : ∃ f : Nat, a1 = f := ⟨a1.toNat, by omega⟩
      obtain ⟨g, rfl⟩ : ∃ g : Nat, a2 = g := ⟨a2.toNat, by omega⟩
      obtain ⟨b, o, rfl, q1, q2, q3⟩ := hA i _ ha
      have eV := indexAddr_tri (T := T0) und22 sz78 (b := b) (o := o) (c := cv) (k := .i64) hlt
      have la1 := load_of und3 rfl (q1.ext hE0)
      have la2 := load_of und3 rfl (q2.ext hE0)
      have la3 := load_of und2 rfl (q3.ext hE0)
      simp only at la1 la2 la3
      obtain ⟨f1, f2⟩ := bit_ops S f (by omega)
      obtain ⟨g1, g2⟩ := bit_ops S g (by omega)
      generalize hsf : ((S >>> f : Nat) : Int) = sf at f1 f2
      generalize hsg : ((S >>> g : Nat) : Int) = sg at g1 g2
      have wf : IntKind.u64.wrap (f : Int) = f := IntWalk.u64_in _ (by omega)
      have wg : IntKind.u64.wrap (g : Int) = g := IntWalk.u64_in _ (by omega)
      have ho : out1 S ((f : Int), (g : Int), a3, 0) = if S.testBit f && !S.testBit g then a3 else 0 := by
        simp only [out1, Int.toNat_natCast]; split <;> split <;> omega
      rw [ho] at hsum
      generalize capQ S ((arcsQ l).take i) = z at h5 hb hsum
      have w1 : IntKind.i64.wrap (z + a3) = z + a3 := IntWalk.i64_in _ (by omega)
      have hsi : IntKind.i64.wrap ((i : Int) + 1) = ((i + 1 : Nat) : Int) := i64_succ i (by omega)
      have fin : ∀ tm' : Tr Value, tm'.get 1 = some (.int .i64 S) → tm'.get 2 = some (.pointer (some ⟨W.next, 0, none⟩)) → tm'.get 6 = some (.int .i64 ((i + 1 : Nat) : Int)) → tm'.get 5 = some (.int .i64 (z + if S.testBit f && !S.testBit g then a3 else 0)) → Q' .normal ⟨tm', 47, []⟩ W3 := fun tm' x1 x2 x6 x5 =>
        hI (k - 1) _ _ (by omega) ⟨rfl, rfl, x1, x2, rfl, i + 1, by omega, by omega, x6, by rw [x5, hsum]⟩
      refine wpK_block ?_
      cases hbf : S.testBit f with
      | false =>
        have e1 : bitI S f = 0 := by simp [-testBit_dec, bitI, hbf]
        rw [e1] at f2
        try simp only [wpK_assoc]
        refine wpK_reg (fun R hR => by simp [h1, h2, h6, l1, eV, la1, conv_3_82, wf, f1, f2, undef]; exact hR) ?_
        try simp only [wpK_assoc]
        first | refine wpK_onF (by simp []) ?_ | refine wpK_out (by simp []) ?_ | refine wpK_condF (by simp []) ?_ | refine wpK_endF (by simp []) (wpK_skip ?_) | refine wpK_endF (by simp []) ?_
        try simp only [wpK_assoc]
        refine wpK_reg1 (fun R hR => by simp [h6, hsi]; exact hR) ?_
        exact fin _ (by simp [h1]) (by simp [h2]) (by simp) (by simp [-testBit_dec, hbf, h5])
      | true =>
        have e1 : bitI S f = 1 := by simp [-testBit_dec, bitI, hbf]
        rw [e1] at f2
        cases hbg : S.testBit g with
        | true =>
          have e2 : bitI S g = 1 := by simp [-testBit_dec, bitI, hbg]
          rw [e2] at g2
          try simp only [wpK_assoc]
          refine wpK_reg (fun R hR => by simp [h1, h2, h6, l1, eV, la1, la2, conv_3_82, wf, wg, f1, f2, g1, g2]; exact hR) ?_
          try simp only [wpK_assoc]
          first | refine wpK_onF (by simp []) ?_ | refine wpK_out (by simp []) ?_ | refine wpK_condF (by simp []) ?_ | refine wpK_endF (by simp []) (wpK_skip ?_) | refine wpK_endF (by simp []) ?_
          try simp only [wpK_assoc]
          refine wpK_reg1 (fun R hR => by simp [h6, hsi]; exact hR) ?_
          exact fin _ (by simp [h1]) (by simp [h2]) (by simp) (by simp [-testBit_dec, hbf, hbg, h5])
        | false =>
          have e2 : bitI S g = 0 := by simp [-testBit_dec, bitI, hbg]
          rw [e2] at g2
          try simp only [wpK_assoc]
          refine wpK_reg (fun R hR => by simp [h1, h2, h6, l1, eV, la1, la2, conv_3_82, wf, wg, f1, f2, g1, g2]; exact hR) ?_
          try simp only [wpK_assoc]
          first | refine wpK_onT (by simp []) ?_ | refine wpK_outT (by simp []) ?_ | refine wpK_condT (by simp []) ?_ | refine wpK_endT (by simp []) ?_
          try simp only [wpK_assoc]
          refine wpK_reg1 (fun R hR => by simp [h2, h5, h6, l1, eV, la3, w1]; exact hR) ?_
          try simp only [wpK_assoc]
          refine wpK_reg1 (fun R hR => by simp [h6, hsi]; exact hR) ?_
          exact fin _ (by simp [h1]) (by simp [h2]) (by simp) (by simp [-testBit_dec, hbf, hbg])
    · have e : i = l.length := by omega
      rw [e, ← hql, List.take_length] at h5
      try simp only [wpK_assoc]
      first | refine wpK_onF (by simp [hlt]) ?_ | refine wpK_out (by simp [hlt]) ?_ | refine wpK_condF (by simp [hlt]) ?_ | refine wpK_endF (by simp [hlt]) (wpK_skip ?_) | refine wpK_endF (by simp [hlt]) ?_
      exact hJ _ _ ⟨rfl, rfl, rfl, by simp [h5]⟩
  · rintro A' W' hf; exact hf.elim
  · rintro ⟨tm, n, ds⟩ W' ⟨hn, hd, rfl, h5⟩
    simp only at hn hd h5
    subst hn; subst hd
    try simp only [wpK_assoc]
    refine wpK_reg (fun R hR => by simp [h5]; exact hR) ?_
    exact wpK_ret ⟨.inr rfl, rfl, [.int .i64 (capQ S (arcsQ l))], by simp, hE0, rfl⟩
end Go.Proofs.YtkgfjfkgmpeobaaDoor

open Go Go.Eng
namespace Go.Proofs.YtkgfjfkgmpeobaaDoor
attribute [local congr] undef_congr WpK.congr WpS.congr WpL.congr WpC.congr WpF.congr gotS.congr callS.congr nextS.congr wantS.congr condS.congr
attribute [local irreducible] WpK
attribute [local simp] WpDr_nil WpDr_cons atS_some dwantS_true dwantS_false kindS_light kindS_float kindS_heavy lightS_value floatS_some heavyS_value heavyS_skip heavyS_enter dcallS_some doneS_eq
  isLight isFloat isPlain dLook testBit_dec dChain dLights_nil dLights_skip dLights_one dLight_nil dLight_cons dFreshes_nil dFreshes_one oneF_none oneF_some dFresh_nil dFresh_cons oneL_some oneW_true oneW_false sameV_value dPut dMay valEq arrEq listEq List.getElem?_cons Tr.get_nil dEnd
attribute [local simp] WpS_nil WpS_cons isDefer undef_false wantS_true wantS_false nextS_value nextS_skip nextS_enter callS_some gotS_some aWanted aOp aEvalF aEval opMove opAssign opPick aVal flat flat1 AAct.put opBinOp opConvert opIndex Tr.get_set Tr.get_lay aBin aResults tupled
  aCall aVals aCallB blt_dec ble_dec beq_dec aBinI_add aBinI_sub aBinI_lss aBinI_leq aBinI_gtr aBinI_geq aBinI_eql aBinI_neq index_str len_str len_slice Nat.beq_refl und2 und3 und4 und5 und39 und76 und82 und115 und22 und29 und25 und33 und46 und43 und49 und111 und113 field151 field155_0 field155_1 field155_2 field155_3 field155_4
  field78 field106 field24 field31 field27 field35 field108 field109 opBox opLoad opFieldAddr opIndexAddr acells aAddr opExtract aExtract opUnOp opAlloc opStore opMakeInterface opNilCheck opBuild aParts opBuildSlice aValW
set_option maxHeartbeats 4000000
set_option linter.unusedSimpArgs false
set_option linter.unusedVariables false
def isCut (s t T : Nat) : Prop := T.testBit s = true ∧ T.testBit t = false
def Seen (s t : Nat) (l : List Quad) (k : Nat) (best : Int) (com : Nat) : Prop :=
  ((∀ T, T < k → ¬ isCut s t T) ∧ best = -1) ∨
  (0 ≤ best ∧ (∃ T, T < k ∧ isCut s t T ∧ capQ T l = best) ∧ (∀ T, T < k → isCut s t T → best ≤ capQ T l) ∧ (∀ q, com.testBit q = true ↔ ∀ T, T < k → isCut s t T → capQ T l = best → T.testBit q = true))
theorem Seen.skip {s t : Nat} {l : List Quad} {k : Nat} {best : Int} {com : Nat} (h : Seen s t l k best com) (hk : ¬ isCut s t k) : Seen s t l (k + 1) best com := by
  have sp : ∀ T, T < k + 1 → isCut s t T → T < k := fun T hT hc => by
    by_cases e : T = k
    · subst e; exact absurd hc hk
    · omega
  rcases h with ⟨h1, h2⟩ | ⟨h0, ⟨T0, a1, a2, a3⟩, h2, h3⟩
  · exact .inl ⟨fun T hT hc => h1 T (sp T hT hc) hc, h2⟩
  · exact .inr ⟨h0, ⟨T0, by omega, a2, a3⟩, fun T hT hc => h2 T (sp T hT hc) hc, fun q => (h3 q).trans ⟨fun h T hT hc he => h T (sp T hT hc) hc he, fun h T hT hc he => h T (by omega) hc he⟩⟩
theorem Seen.less {s t : Nat} {l : List Quad} {k : Nat} {best : Int} {com : Nat} (h : Seen s t l k best com) (hk : isCut s t k) (h0 : 0 ≤ capQ k l) (hc : best < 0 ∨ capQ k l < best) : Seen s t l (k + 1) (capQ k l) k := by
  have old : ∀ T, T < k → isCut s t T → capQ k l < capQ T l := fun T hT hT2 => by
    rcases h with ⟨h1, _⟩ | ⟨g0, _, h2, _⟩
    · exact absurd hT2 (h1 T hT)
    · have := h2 T hT hT2; omega
  refine .inr ⟨h0, ⟨k, by omega, hk, rfl⟩, fun T hT hT2 => ?_, fun q => ⟨fun hq T hT hT2 he => ?_, fun hall => hall k (by omega) hk rfl⟩⟩
  · by_cases e : T = k
    · subst e; exact Int.le_refl _
    · have := old T (by omega) hT2; omega
  · by_cases e : T = k
    · subst e; exact hq
    · have := old T (by omega) hT2; omega
theorem Seen.same {s t : Nat} {l : List Quad} {k : Nat} {best : Int} {com : Nat} (h : Seen s t l k best com) (hk : isCut s t k) (hb : 0 ≤ best) (hc : capQ k l = best) : Seen s t l (k + 1) best (com &&& k) := by
  rcases h with ⟨h1, h2⟩ | ⟨_, ⟨T0, a1, a2, a3⟩, h2, h3⟩
  · omega
  · refine .inr ⟨hb, ⟨T0, by omega, a2, a3⟩, fun T hT hT2 => ?_, fun q => ?_⟩
    · by_cases e : T = k
      · subst e; omega
      · exact h2 T (by omega) hT2
    · rw [Nat.testBit_and, Bool.and_eq_true, h3 q]
      constructor
      · rintro ⟨g1, g2⟩ T hT hT2 he
        by_cases e : T = k
        · subst e; exact g2
        · exact g1 T (by omega) hT2 he
      · intro hall
        exact ⟨fun T hT hT2 he => hall T (by omega) hT2 he, hall k (by omega) hk hc⟩
theorem Seen.more {s t : Nat} {l : List Quad} {k : Nat} {best : Int} {com : Nat} (h : Seen s t l k best com) (hk : isCut s t k) (hb : 0 ≤ best) (hc : best < capQ k l) : Seen s t l (k + 1) best com := by
  rcases h with ⟨h1, h2⟩ | ⟨_, ⟨T0, a1, a2, a3⟩, h2, h3⟩
  · omega
  · refine .inr ⟨hb, ⟨T0, by omega, a2, a3⟩, fun T hT hT2 => ?_, fun q => (h3 q).trans ⟨fun h T hT hT2 he => ?_, fun h T hT hT2 he => h T (by omega) hT2 he⟩⟩
    · by_cases e : T = k
      · subst e; omega
      · exact h2 T (by omega) hT2
    · by_cases e : T = k
      · subst e; omega
      · exact h T (by omega) hT2 he
theorem least32_wp {W : AW} {v : Value} {P s t S : Nat} {x : Int} {l : List Tri} (h : TriIn W v l) (hok : planOk P (arcsQ l) = true) (hP : P ≤ 20) (hs : s < P) (ht : t < P) (hS : S < 2 ^ P) (hSc : isCut s t S) (hx : x = capQ S (arcsQ l))
    (hmin : ∀ T, isCut s t T → x ≤ capQ T (arcsQ l) ∧ (x = capQ T (arcsQ l) → ∀ q, S.testBit q = true → T.testBit q = true)) :
    WpF T0 32 [.agg ⟨[.int .i64 P, v]⟩, .int .i64 s, .int .i64 t] W (fun u W' => Ext W W' ∧ ∃ sl, u = .tuple ⟨[.int .i64 x, sl]⟩ ∧ IntL W' sl (memb P S)) := by
  refine wpF fun32 rfl ?_
  obtain ⟨W0, hW0, hE0, hV0⟩ : ∃ W0, W0 = W.newCells 24 [.int .i64 P, v] ∧ Ext W W0 ∧ Var W0 W.next 24 [.int .i64 P, v] := ⟨_, rfl, .newCells _ _ _, Var.new _ _ _⟩
  have l0 : ∀ W', Ext W0 W' → aLoadVar T0 W' 3 W.next 0 = some (.int .i64 P) := fun W' h => (hV0.ext h).load1 (T := T0) und3 rfl (j := 0) (v := .int .i64 P) rfl
  have l24 : ∀ W', Ext W0 W' → aLoadVar T0 W' 24 W.next 0 = some (.agg ⟨[.int .i64 P, v]⟩) := fun W' h => load24 (hV0.ext h)
  have hpow : 2 ^ P ≤ 2 ^ 20 := Nat.pow_le_pow_right (by omega) hP
  have hwP : IntKind.u64.wrap (P : Int) = P := IntWalk.u64_in _ (by omega)
  have hws : IntKind.u64.wrap (s : Int) = s := IntWalk.u64_in _ (by omega)
  have hwt : IntKind.u64.wrap (t : Int) = t := IntWalk.u64_in _ (by omega)
  have shP : aBinI .shl .i64 1 .u64 (P : Int) = some (.int .i64 ((2 ^ P : Nat) : Int)) := by
    have := aBinI_shl .i64 .u64 1 P (by show P ≤ 64; omega) (by rw [Nat.one_mul]; show 2 ^ P < 9223372036854775808; omega)
    rw [Nat.shiftLeft_eq, Nat.one_mul] at this; exact this
  have hin := arcsQ_in hok
  generalize hpw : 2 ^ P = pw at shP hS hpow
  try simp only [wpK_assoc]
  refine wpK_reg (fun R hR => by simp [← hW0]; exact hR) ?_
  try simp only [wpK_assoc]
  refine wpK_reg (fun R hR => by simp []; exact hR) ?_
  try simp only [wpK_assoc]
  refine wpK_reg (fun R hR => by simp []; exact hR) ?_
  try simp only [wpK_assoc]
  refine wpK_while (I := fun k A W' => A.n = 57 ∧ A.defers = [] ∧ A.tmps.get 1 = some (.int .i64 s) ∧ A.tmps.get 2 = some (.int .i64 t) ∧ A.tmps.get 3 = some (.pointer (some ⟨W.next, 0, none⟩)) ∧ Ext W0 W' ∧ ∃ (i : Nat) (best : Int) (com : Nat), k = pw - i ∧ i ≤ pw ∧ A.tmps.get 10 = some (.int .i64 i) ∧ A.tmps.get 8 = some (.int .i64 best) ∧ A.tmps.get 9 = some (.int .i64 com) ∧ com < pw ∧ Seen s t (arcsQ l) i best com)
    (J := fun A W' => A.n = 57 ∧ A.defers = [] ∧ A.tmps.get 1 = some (.int .i64 s) ∧ A.tmps.get 2 = some (.int .i64 t) ∧ A.tmps.get 3 = some (.pointer (some ⟨W.next, 0, none⟩)) ∧ Ext W0 W' ∧ A.tmps.get 8 = some (.int .i64 x) ∧ A.tmps.get 9 = some (.int .i64 S))
    (Rt := fun _ _ => False) (k := pw) ?_ ?_ ?_ ?_
  · exact ⟨rfl, rfl, by simp, by simp, by simp, .refl _ _, 0, -1, 0, by omega, by omega, by simp, by simp, by simp, by omega, .inl ⟨fun T hT => by omega, rfl⟩⟩
  · rintro k ⟨tm, n, ds⟩ W3 ⟨hn, hd, h1, h2, h3, e3, i, best, com, hk, hi, h10, h8, h9, hcom, hSeen⟩ Q' hJ hRt hI
    simp only at hn hd h1 h2 h3
    subst hn; subst hd
    simp only at h10 h8 h9
    try simp only [wpK_assoc]
    refine wpK_reg (fun R hR => by simp [h3, h10, l0, e3, conv_3_82, hwP, shP]; exact hR) ?_
    by_cases hlt : i < pw
    · try simp only [wpK_assoc]
      first | refine wpK_onT (by simp [hlt]) ?_ | refine wpK_outT (by simp [hlt]) ?_ | refine wpK_condT (by simp [hlt]) ?_ | refine wpK_endT (by simp [hlt]) ?_
      have hsi : IntKind.i64.wrap ((i : Int) + 1) = ((i + 1 : Nat) : Int) := i64_succ i (by omega)
      have fin : ∀ (tm' : Tr Value) (W4 : AW) (best' : Int) (com' : Nat), Ext W0 W4 → tm'.get 1 = some (.int .i64 s) → tm'.get 2 = some (.int .i64 t) → tm'.get 3 = some (.pointer (some ⟨W.next, 0, none⟩)) → tm'.get 10 = some (.int .i64 ((i + 1 : Nat) : Int)) → tm'.get 8 = some (.int .i64 best') → tm'.get 9 = some (.int .i64 com') → com' < pw → Seen s t (arcsQ l) (i + 1) best' com' → Q' .normal ⟨tm', 57, []⟩ W4 :=
        fun tm' W4 best' com' e4 x1 x2 x3 x10 x8 x9 hc' hS' => hI (k - 1) _ _ (by omega) ⟨rfl, rfl, x1, x2, x3, e4, i + 1, best', com', by omega, by omega, x10, x8, x9, hc', hS'⟩
      obtain ⟨f1, f2⟩ := bit_ops i s (by omega)
      obtain ⟨g1, g2⟩ := bit_ops i t (by omega)
      generalize hsf : ((i >>> s : Nat) : Int) = sf at f1 f2
      generalize hsg : ((i >>> t : Nat) : Int) = sg at g1 g2
      refine wpK_block ?_
      cases hbs : i.testBit s with
      | false =>
        have e1 : bitI i s = 0 := by simp [-testBit_dec, bitI, hbs]
        rw [e1] at f2
        try simp only [wpK_assoc]
        refine wpK_reg (fun R hR => by simp [h1, h2, h10, conv_3_82, hws, f1, f2, undef]; exact hR) ?_
        try simp only [wpK_assoc]
        first | refine wpK_onT (by simp []) ?_ | refine wpK_outT (by simp []) ?_ | refine wpK_condT (by simp []) ?_ | refine wpK_endT (by simp []) ?_
        rw [leaves_exit, if_pos rfl]
        simp only [behind_normal]
        try simp only [wpK_assoc]
        refine wpK_reg1 (fun R hR => by simp [h10, hsi]; exact hR) ?_
        exact fin _ _ best com e3 (by simp [h1]) (by simp [h2]) (by simp [h3]) (by simp) (by simp [h8]) (by simp [h9]) hcom (hSeen.skip (fun hc => by rw [hc.1] at hbs; cases hbs))
      | true =>
        have e1 : bitI i s = 1 := by simp [-testBit_dec, bitI, hbs]
        rw [e1] at f2
        cases hbt : i.testBit t with
        | true =>
          have e2 : bitI i t = 1 := by simp [-testBit_dec, bitI, hbt]
          rw [e2] at g2
          try simp only [wpK_assoc]
          refine wpK_reg (fun R hR => by simp [h1, h2, h10, conv_3_82, hws, hwt, f1, f2, g1, g2]; exact hR) ?_
          try simp only [wpK_assoc]
          first | refine wpK_onT (by simp []) ?_ | refine wpK_outT (by simp []) ?_ | refine wpK_condT (by simp []) ?_ | refine wpK_endT (by simp []) ?_
          rw [leaves_exit, if_pos rfl]
          simp only [behind_normal]
          try simp only [wpK_assoc]
          refine wpK_reg1 (fun R hR => by simp [h10, hsi]; exact hR) ?_
          exact fin _ _ best com e3 (by simp [h1]) (by simp [h2]) (by simp [h3]) (by simp) (by simp [h8]) (by simp [h9]) hcom (hSeen.skip (fun hc => by rw [hc.2] at hbt; cases hbt))
        | false =>
          have e2 : bitI i t = 0 := by simp [-testBit_dec, bitI, hbt]
          rw [e2] at g2
          have hcut : isCut s t i := ⟨hbs, hbt⟩
          try simp only [wpK_assoc]
          refine wpK_reg (fun R hR => by simp [h1, h2, h10, conv_3_82, hws, hwt, f1, f2, g1, g2]; exact hR) ?_
          try simp only [wpK_assoc]
          first | refine wpK_onF (by simp []) ?_ | refine wpK_out (by simp []) ?_ | refine wpK_condF (by simp []) ?_ | refine wpK_endF (by simp []) (wpK_skip ?_) | refine wpK_endF (by simp []) ?_
          try simp only [wpK_assoc]
          refine wpK_x0 (fun R hR => by
              simp [h3, h10, l24, e3, aEnter, fun70, short_other, aCallV]; rw [callS_none]
              refine (bits_wp (P := (P : Int)) (h.ext (hE0.trans e3)) hok i).mono ?_
              rintro _ W4 ⟨e34, rfl⟩
              simp [h3, h10, l24, e3]; exact hR W4 e34) ?_
          rintro W4 e34
          have e4 := e3.trans e34
          have hc0 := capQ_le hin i (arcsQ l).length (Nat.le_refl _)
          rw [List.take_length] at hc0
          obtain ⟨c, hcc⟩ : ∃ c, c = capQ i (arcsQ l) := ⟨_, rfl⟩
          have s1 := fun hh => hSeen.less hcut hc0.1 hh
          have s2 := fun hb hh => hSeen.same hcut hb hh
          have s3 := fun hb hh => hSeen.more hcut hb hh
          rw [← hcc] at s1 s2 s3 hc0
          rw [← hcc]
          clear hcc
          by_cases c1 : best < 0
          · try simp only [wpK_assoc]
            refine wpK_reg (fun R hR => by simp [h8, c1, undef]; exact hR) ?_
            try simp only [wpK_assoc]
            first | refine wpK_onT (by simp []) ?_ | refine wpK_outT (by simp []) ?_ | refine wpK_condT (by simp []) ?_ | refine wpK_endT (by simp []) ?_
            try simp only [wpK_assoc]
            refine wpK_reg1 (fun R hR => by simp [h10]; exact hR) ?_
            try simp only [wpK_assoc]
            refine wpK_reg1 (fun R hR => by simp [h10, hsi]; exact hR) ?_
            exact fin _ _ c i e4 (by simp [h1]) (by simp [h2]) (by simp [h3]) (by simp) (by simp) (by simp) hlt (s1 (.inl c1))
          by_cases c2 : c < best
          · try simp only [wpK_assoc]
            refine wpK_reg (fun R hR => by simp [h8, c1, c2]; exact hR) ?_
            try simp only [wpK_assoc]
            first | refine wpK_onT (by simp []) ?_ | refine wpK_outT (by simp []) ?_ | refine wpK_condT (by simp []) ?_ | refine wpK_endT (by simp []) ?_
            try simp only [wpK_assoc]
            refine wpK_reg1 (fun R hR => by simp [h10]; exact hR) ?_
            try simp only [wpK_assoc]
            refine wpK_reg1 (fun R hR => by simp [h10, hsi]; exact hR) ?_
            exact fin _ _ c i e4 (by simp [h1]) (by simp [h2]) (by simp [h3]) (by simp) (by simp) (by simp) hlt (s1 (.inr c2))
          try simp only [wpK_assoc]
          refine wpK_reg (fun R hR => by simp [h8, c1, c2]; exact hR) ?_
          try simp only [wpK_assoc]
          first | refine wpK_onF (by simp []) ?_ | refine wpK_out (by simp []) ?_ | refine wpK_condF (by simp []) ?_ | refine wpK_endF (by simp []) (wpK_skip ?_) | refine wpK_endF (by simp []) ?_
          try simp only [wpK_assoc]
          refine wpK_reg (fun R hR => by simp [h8]; exact hR) ?_
          by_cases c3 : c = best
          · have hand := aBinI_and .i64 com i (by show com < 9223372036854775808; omega) (by show i < 9223372036854775808; omega)
            have hle : com &&& i ≤ com := Nat.and_le_left
            try simp only [wpK_assoc]
            first | refine wpK_onT (by simp [c3]) ?_ | refine wpK_outT (by simp [c3]) ?_ | refine wpK_condT (by simp [c3]) ?_ | refine wpK_endT (by simp [c3]) ?_
            try simp only [wpK_assoc]
            refine wpK_reg1 (fun R hR => by simp [h9, h10, hand]; exact hR) ?_
            try simp only [wpK_assoc]
            refine wpK_reg1 (fun R hR => by simp [h10, hsi]; exact hR) ?_
            exact fin _ _ best (com &&& i) e4 (by simp [h1]) (by simp [h2]) (by simp [h3]) (by simp) (by simp [h8]) (by simp) (by omega) (s2 (by omega) c3)
          · try simp only [wpK_assoc]
            first | refine wpK_onF (by simp [c3]) ?_ | refine wpK_out (by simp [c3]) ?_ | refine wpK_condF (by simp [c3]) ?_ | refine wpK_endF (by simp [c3]) (wpK_skip ?_) | refine wpK_endF (by simp [c3]) ?_
            try simp only [wpK_assoc]
            refine wpK_reg1 (fun R hR => by simp [h10, hsi]; exact hR) ?_
            exact fin _ _ best com e4 (by simp [h1]) (by simp [h2]) (by simp [h3]) (by simp) (by simp [h8]) (by simp [h9]) hcom (s3 (by omega) (by omega))
    · have e : i = pw := by omega
      subst e
      try simp only [wpK_assoc]
      first | refine wpK_onF (by simp []) ?_ | refine wpK_out (by simp []) ?_ | refine wpK_condF (by simp []) ?_ | refine wpK_endF (by simp []) (wpK_skip ?_) | refine wpK_endF (by simp []) ?_
      have hbest : best = x ∧ com = S := by
        rcases hSeen with ⟨g1, _⟩ | ⟨_, ⟨T1, a1, a2, a3⟩, g2, g3⟩
        · exact absurd hSc (g1 S hS)
        · have b1 := g2 S hS hSc
          have b2 := (hmin T1 a2).1
          have hb : best = x := by omega
          refine ⟨hb, Nat.eq_of_testBit_eq fun q => ?_⟩
          rw [Bool.eq_iff_iff, g3 q]
          exact ⟨fun hall => hall S hS hSc (by omega), fun hq T hT hT2 he => (hmin T hT2).2 (by omega) q hq⟩
      obtain ⟨rfl, rfl⟩ := hbest
      exact hJ _ _ ⟨rfl, rfl, by simp [h1, h2, h3], by simp [h1, h2, h3], by simp [h1, h2, h3], e3, by simp [h8], by simp [h9]⟩
  · rintro A' W' hf; exact hf.elim
  · rintro ⟨tm, n, ds⟩ W3 ⟨hn, hd, h1, h2, h3, e3, h8, h9⟩
    simp only at hn hd h1 h2 h3
    subst hn; subst hd
    simp only at h8 h9
    try simp only [wpK_assoc]
    refine wpK_x1 (fun R hR => by
        simp [h3, h8, h9, l0, e3, aEnter, fun37, short_other, aCallV]; rw [callS_none]
        refine (members_wp P S (by omega) W3).mono ?_
        rintro sl W4 ⟨e34, hG⟩
        simp [h3, h8, h9, l0, e3]; exact hR sl W4 (And.intro e34 hG)) ?_
    rintro sl W4 ⟨e34, hG⟩
    exact wpK_ret ⟨.inr rfl, rfl, [.int .i64 x, sl], by simp, (hE0.trans e3).trans e34, sl, rfl, GrowsN.ints hG⟩
end Go.Proofs.YtkgfjfkgmpeobaaDoor

open Go Go.Eng
namespace Go.Proofs.YtkgfjfkgmpeobaaDoor
attribute [local congr] undef_congr WpK.congr WpS.congr WpL.congr WpC.congr WpF.congr gotS.congr callS.congr nextS.congr wantS.congr condS.congr
attribute [local irreducible] WpK
attribute [local simp] WpDr_nil WpDr_cons atS_some dwantS_true dwantS_false kindS_light kindS_float kindS_heavy lightS_value floatS_some heavyS_value heavyS_skip heavyS_enter dcallS_some doneS_eq
  isLight isFloat isPlain dLook testBit_dec dChain dLights_nil dLights_skip dLights_one dLight_nil dLight_cons dFreshes_nil dFreshes_one oneF_none oneF_some dFresh_nil dFresh_cons oneL_some oneW_true oneW_false sameV_value dPut dMay valEq arrEq listEq List.getElem?_cons Tr.get_nil dEnd
attribute [local simp] WpS_nil WpS_cons isDefer undef_false wantS_true wantS_false nextS_value nextS_skip nextS_enter callS_some gotS_some aWanted aOp aEvalF aEval opMove opAssign opPick aVal flat flat1 AAct.put opBinOp opConvert opIndex Tr.get_set Tr.get_lay aBin aResults tupled
  aCall aVals aCallB blt_dec ble_dec beq_dec aBinI_add aBinI_sub aBinI_lss aBinI_leq aBinI_gtr aBinI_geq aBinI_eql aBinI_neq index_str len_str len_slice Nat.beq_refl und2 und3 und4 und5 und39 und76 und82 und115 und22 und29 und25 und33 und46 und43 und49 und111 und113 field151 field155_0 field155_1 field155_2 field155_3 field155_4
  field78 field106 field24 field31 field27 field35 field108 field109 opBox opLoad opFieldAddr opIndexAddr acells aAddr opExtract aExtract opUnOp opAlloc opStore opMakeInterface opNilCheck opBuild aParts opBuildSlice aValW
set_option maxHeartbeats 4000000
set_option linter.unusedSimpArgs false
set_option linter.unusedVariables false
end Go.Proofs.YtkgfjfkgmpeobaaDoor

open Go Go.Eng
namespace Go.Proofs.YtkgfjfkgmpeobaaDoor
attribute [local congr] undef_congr WpK.congr WpS.congr WpL.congr WpC.congr WpF.congr gotS.congr callS.congr nextS.congr wantS.congr condS.congr
attribute [local irreducible] WpK
attribute [local simp] WpDr_nil WpDr_cons atS_some dwantS_true dwantS_false kindS_light kindS_float kindS_heavy lightS_value floatS_some heavyS_value heavyS_skip heavyS_enter dcallS_some doneS_eq
  isLight isFloat isPlain dLook testBit_dec dChain dLights_nil dLights_skip dLights_one dLight_nil dLight_cons dFreshes_nil dFreshes_one oneF_none oneF_some dFresh_nil dFresh_cons oneL_some oneW_true oneW_false sameV_value dPut dMay valEq arrEq listEq List.getElem?_cons Tr.get_nil dEnd
attribute [local simp] WpS_nil WpS_cons isDefer undef_false wantS_true wantS_false nextS_value nextS_skip nextS_enter callS_some gotS_some aWanted aOp aEvalF aEval opMove opAssign opPick aVal flat flat1 AAct.put opBinOp opConvert opIndex Tr.get_set Tr.get_lay aBin aResults tupled
  aCall aVals aCallB blt_dec ble_dec beq_dec aBinI_add aBinI_sub aBinI_lss aBinI_leq aBinI_gtr aBinI_geq aBinI_eql aBinI_neq index_str len_str len_slice Nat.beq_refl und2 und3 und4 und5 und39 und76 und82 und115 und22 und29 und25 und33 und46 und43 und49 und111 und113 field151 field155_0 field155_1 field155_2 field155_3 field155_4
  field78 field106 field24 field31 field27 field35 field108 field109 opBox opLoad opFieldAddr opIndexAddr acells aAddr opExtract aExtract opUnOp opAlloc opStore opMakeInterface opNilCheck opBuild aParts opBuildSlice aValW
set_option maxHeartbeats 4000000
set_option linter.unusedSimpArgs false
set_option linter.unusedVariables false
end Go.Proofs.YtkgfjfkgmpeobaaDoor

open Go Go.Eng
namespace Go.Proofs.YtkgfjfkgmpeobaaDoor
attribute [local congr] undef_congr WpK.congr WpS.congr WpL.congr WpC.congr WpF.congr gotS.congr callS.congr nextS.congr wantS.congr condS.congr
attribute [local irreducible] WpK
attribute [local simp] WpDr_nil WpDr_cons atS_some dwantS_true dwantS_false kindS_light kindS_float kindS_heavy lightS_value floatS_some heavyS_value heavyS_skip heavyS_enter dcallS_some doneS_eq
  isLight isFloat isPlain dLook testBit_dec dChain dLights_nil dLights_skip dLights_one dLight_nil dLight_cons dFreshes_nil dFreshes_one oneF_none oneF_some dFresh_nil dFresh_cons oneL_some oneW_true oneW_false sameV_value dPut dMay valEq arrEq listEq List.getElem?_cons Tr.get_nil dEnd
attribute [local simp] WpS_nil WpS_cons isDefer undef_false wantS_true wantS_false nextS_value nextS_skip nextS_enter callS_some gotS_some aWanted aOp aEvalF aEval opMove opAssign opPick aVal flat flat1 AAct.put opBinOp opConvert opIndex Tr.get_set Tr.get_lay aBin aResults tupled
  aCall aVals aCallB blt_dec ble_dec beq_dec aBinI_add aBinI_sub aBinI_lss aBinI_leq aBinI_gtr aBinI_geq aBinI_eql aBinI_neq index_str len_str len_slice Nat.beq_refl und2 und3 und4 und5 und39 und76 und82 und115 und22 und29 und25 und33 und46 und43 und49 und111 und113 field151 field155_0 field155_1 field155_2 field155_3 field155_4
  field78 field106 field24 field31 field27 field35 field108 field109 opBox opLoad opFieldAddr opIndexAddr acells aAddr opExtract aExtract opUnOp opAlloc opStore opMakeInterface opNilCheck opBuild aParts opBuildSlice aValW
set_option maxHeartbeats 4000000
set_option linter.unusedSimpArgs false
set_option linter.unusedVariables false
theorem slice_ints {W : AW} {u : Value} {l : List Int} {t e : TypeId} (hu : T0.und.get t = some (.slice e)) (hs : aSize T0 e = some 1) (hS : SlOk u l.length) (h : IntL W u l) {k : Nat} (hk : k ≤ l.length) :
    ∃ A' c', (∀ W', aSliceOp T0 W' t u none (some (.int .i64 (k : Nat))) none = some (.slice A' k c')) ∧ IntL W (.slice A' (l.take k).length c') (l.take k) ∧ (k = 0 → (A' = none ∧ c' = 0) ∨ (∃ b o, A' = some ⟨b, o, none⟩) ∨ (A' = some ⟨0, 0, some 1⟩ ∧ c' = 0)) := by
  have hlen : (l.take k).length = k := by rw [List.length_take]; omega
  have emp : l.length = 0 → ∀ A c, IntL W (.slice A (l.take k).length c) (l.take k) := fun h0 A c => by
    have : l.take k = [] := List.length_eq_zero_iff.1 (by omega)
    rw [this]; exact ⟨A, c, rfl, fun i a hi => by simp at hi⟩
  rcases hS with ⟨rfl, h0⟩ | ⟨b, o, c, rfl, hc⟩ | ⟨rfl, h0⟩
  · obtain rfl : k = 0 := by omega
    exact ⟨none, 0, fun W' => by simp only [aSliceOp, hu, hs]; rfl, emp h0 _ _, fun _ => .inl ⟨rfl, rfl⟩⟩
  · have hb : aHi (some (.int .i64 (k : Nat))) l.length c = some k := by
      show aBound (.int .i64 (Int.ofNat k)) c = some k
      simp only [aBound, ble_dec, show k ≤ c from by omega, decide_true]
    have e1 : (2 * c) % 2 = 0 := by omega
    have e2 : 2 * c / 2 = c := by omega
    have hsh : shiftTo o c 0 1 = o := by unfold shiftTo; split <;> simp
    refine ⟨some ⟨b, o, none⟩, 2 * c, ?_, ?_, fun _ => .inr (.inl ⟨b, o, rfl⟩)⟩
    · intro W'; simp only [aSliceOp, hu, hs, e1, e2, Nat.beq_refl, hb, aLo, hsh, Nat.sub_zero]
    · obtain ⟨A, c', hv, hh⟩ := h
      cases hv
      refine ⟨some ⟨b, o, none⟩, 2 * c, rfl, fun i a hi => ?_⟩
      have hik : i < k := by
        have := (List.getElem?_eq_some_iff.1 hi).1
        omega
      rw [List.getElem?_take_of_lt hik] at hi
      exact hh i a hi
  · obtain rfl : k = 0 := by omega
    exact ⟨some ⟨0, 0, some 1⟩, 0, fun W' => by simp only [aSliceOp, hu, hs]; rfl, emp h0 _ _, fun _ => .inr (.inr ⟨rfl, rfl⟩)⟩
end Go.Proofs.YtkgfjfkgmpeobaaDoor

open Go Go.Eng
namespace Go.Proofs.YtkgfjfkgmpeobaaDoor
attribute [local congr] undef_congr WpK.congr WpS.congr WpL.congr WpC.congr WpF.congr gotS.congr callS.congr nextS.congr wantS.congr condS.congr
attribute [local irreducible] WpK
attribute [local simp] WpDr_nil WpDr_cons atS_some dwantS_true dwantS_false kindS_light kindS_float kindS_heavy lightS_value floatS_some heavyS_value heavyS_skip heavyS_enter dcallS_some doneS_eq
  isLight isFloat isPlain dLook testBit_dec dChain dLights_nil dLights_skip dLights_one dLight_nil dLight_cons dFreshes_nil dFreshes_one oneF_none oneF_some dFresh_nil dFresh_cons oneL_some oneW_true oneW_false sameV_value dPut dMay valEq arrEq listEq List.getElem?_cons Tr.get_nil dEnd
attribute [local simp] WpS_nil WpS_cons isDefer undef_false wantS_true wantS_false nextS_value nextS_skip nextS_enter callS_some gotS_some aWanted aOp aEvalF aEval opMove opAssign opPick aVal flat flat1 AAct.put opBinOp opConvert opIndex Tr.get_set Tr.get_lay aBin aResults tupled
  aCall aVals aCallB blt_dec ble_dec beq_dec aBinI_add aBinI_sub aBinI_lss aBinI_leq aBinI_gtr aBinI_geq aBinI_eql aBinI_neq index_str len_str len_slice Nat.beq_refl und2 und3 und4 und5 und39 und76 und82 und115 und22 und29 und25 und33 und46 und43 und49 und111 und113 field151 field155_0 field155_1 field155_2 field155_3 field155_4
  field78 field106 field24 field31 field27 field35 field108 field109 opBox opLoad opFieldAddr opIndexAddr acells aAddr opExtract aExtract opUnOp opAlloc opStore opMakeInterface opNilCheck opBuild aParts opBuildSlice aValW
set_option maxHeartbeats 4000000
set_option linter.unusedSimpArgs false
set_option linter.unusedVariables false
theorem z3' : Tryd.t3.zero = some (.int .i64 0) := z3
theorem by3' : Tryd.t3.bytes = 8 := by3
end Go.Proofs.YtkgfjfkgmpeobaaDoor

open Go Go.Eng
namespace Go.Proofs.YtkgfjfkgmpeobaaDoor
attribute [local congr] undef_congr WpK.congr WpS.congr WpL.congr WpC.congr WpF.congr gotS.congr callS.congr nextS.congr wantS.congr condS.congr
attribute [local irreducible] WpK
attribute [local simp] WpDr_nil WpDr_cons atS_some dwantS_true dwantS_false kindS_light kindS_float kindS_heavy lightS_value floatS_some heavyS_value heavyS_skip heavyS_enter dcallS_some doneS_eq
  isLight isFloat isPlain dLook testBit_dec dChain dLights_nil dLights_skip dLights_one dLight_nil dLight_cons dFreshes_nil dFreshes_one oneF_none oneF_some dFresh_nil dFresh_cons oneL_some oneW_true oneW_false sameV_value dPut dMay valEq arrEq listEq List.getElem?_cons Tr.get_nil dEnd
attribute [local simp] WpS_nil WpS_cons isDefer undef_false wantS_true wantS_false nextS_value nextS_skip nextS_enter callS_some gotS_some aWanted aOp aEvalF aEval opMove opAssign opPick aVal flat flat1 AAct.put opBinOp opConvert opIndex Tr.get_set Tr.get_lay aBin aResults tupled
  aCall aVals aCallB blt_dec ble_dec beq_dec aBinI_add aBinI_sub aBinI_lss aBinI_leq aBinI_gtr aBinI_geq aBinI_eql aBinI_neq index_str len_str len_slice Nat.beq_refl und2 und3 und4 und5 und39 und76 und82 und115 und22 und29 und25 und33 und46 und43 und49 und111 und113 field151 field155_0 field155_1 field155_2 field155_3 field155_4
  field78 field106 field24 field31 field27 field35 field108 field109 opBox opLoad opFieldAddr opIndexAddr acells aAddr opExtract aExtract opUnOp opAlloc opStore opMakeInterface opNilCheck opBuild aParts opBuildSlice aValW
set_option maxHeartbeats 4000000
set_option linter.unusedSimpArgs false
set_option linter.unusedVariables false
abbrev Bra := Tri
def Joined (l : List Bra) (wo : Int) (x y : Int) : Prop := ∃ (i : Nat) (a : Bra), l[i]? = some a ∧ (i : Int) ≠ wo ∧ ((a.1 = x ∧ a.2.1 = y) ∨ (a.1 = y ∧ a.2.1 = x))
inductive Way (l : List Bra) (wo : Int) (x : Int) : Int → Prop
  | here : Way l wo x x
  | next {y z : Int} : Way l wo x y → Joined l wo y z → Way l wo x z
def ClosedB (l : List Bra) (wo : Int) (T : Int → Prop) : Prop := ∀ y z, T y → Joined l wo y z → T z
theorem Way.within {l : List Bra} {wo x : Int} {T : Int → Prop} (hT : ClosedB l wo T) (hx : T x) {y : Int} (h : Way l wo x y) : T y := by
  induction h with
  | here => exact hx
  | next _ hj ih => exact hT _ _ ih hj
theorem Joined.symm {l : List Bra} {wo x y : Int} (h : Joined l wo x y) : Joined l wo y x := by
  obtain ⟨i, a, h1, h2, h3⟩ := h
  exact ⟨i, a, h1, h2, h3.symm⟩
def inB (T : Nat) (x : Int) : Prop := 0 ≤ x ∧ T.testBit x.toNat = true
def stepB (wo : Int) (i : Nat) (a : Bra) (T : Nat) : Nat := if (i : Int) ≠ wo ∧ T.testBit a.1.toNat ≠ T.testBit a.2.1.toNat then T ||| (1 <<< a.1.toNat ||| 1 <<< a.2.1.toNat) else T
def roundB (wo : Int) : Nat → List Bra → Nat → Nat
  | _, [], T => T
  | i, a :: l, T => roundB wo (i + 1) l (stepB wo i a T)
def roundsB (l : List Bra) (wo : Int) : Nat → Nat → Nat
  | 0, T => T
  | n + 1, T => roundsB l wo n (roundB wo 0 l T)
def BrIn (n : Nat) (l : List Bra) : Prop := ∀ a ∈ l, 0 ≤ a.1 ∧ a.1 < n ∧ 0 ≤ a.2.1 ∧ a.2.1 < n
theorem stepB_bit {wo : Int} {i : Nat} {a : Bra} {T q : Nat} : (stepB wo i a T).testBit q = (T.testBit q || (decide ((i : Int) ≠ wo ∧ T.testBit a.1.toNat ≠ T.testBit a.2.1.toNat) && (decide (a.1.toNat = q) || decide (a.2.1.toNat = q)))) := by
  unfold stepB
  split
  · rename_i h
    rw [Nat.testBit_or, Nat.testBit_or, one_bit, one_bit, decide_eq_true h]; simp
  · rename_i h
    rw [decide_eq_false h]; simp
def cntB (T : Nat) : Nat → Nat
  | 0 => 0
  | n + 1 => cntB T n + (if T.testBit n then 1 else 0)
theorem cntB_max (T : Nat) : ∀ n, cntB T n ≤ n
  | 0 => Nat.le_refl _
  | n + 1 => by have := cntB_max T n; rw [cntB]; split <;> omega
end Go.Proofs.YtkgfjfkgmpeobaaDoor

open Go Go.Eng
namespace Go.Proofs.YtkgfjfkgmpeobaaDoor
attribute [local congr] undef_congr WpK.congr WpS.congr WpL.congr WpC.congr WpF.congr gotS.congr callS.congr nextS.congr wantS.congr condS.congr
attribute [local irreducible] WpK
attribute [local simp] WpDr_nil WpDr_cons atS_some dwantS_true dwantS_false kindS_light kindS_float kindS_heavy lightS_value floatS_some heavyS_value heavyS_skip heavyS_enter dcallS_some doneS_eq
  isLight isFloat isPlain dLook testBit_dec dChain dLights_nil dLights_skip dLights_one dLight_nil dLight_cons dFreshes_nil dFreshes_one oneF_none oneF_some dFresh_nil dFresh_cons oneL_some oneW_true oneW_false sameV_value dPut dMay valEq arrEq listEq List.getElem?_cons Tr.get_nil dEnd
attribute [local simp] WpS_nil WpS_cons isDefer undef_false wantS_true wantS_false nextS_value nextS_skip nextS_enter callS_some gotS_some aWanted aOp aEvalF aEval opMove opAssign opPick aVal flat flat1 AAct.put opBinOp opConvert opIndex Tr.get_set Tr.get_lay aBin aResults tupled
  aCall aVals aCallB blt_dec ble_dec beq_dec aBinI_add aBinI_sub aBinI_lss aBinI_leq aBinI_gtr aBinI_geq aBinI_eql aBinI_neq index_str len_str len_slice Nat.beq_refl und2 und3 und4 und5 und39 und76 und82 und115 und22 und29 und25 und33 und46 und43 und49 und111 und113 field151 field155_0 field155_1 field155_2 field155_3 field155_4
  field78 field106 field24 field31 field27 field35 field108 field109 opBox opLoad opFieldAddr opIndexAddr acells aAddr opExtract aExtract opUnOp opAlloc opStore opMakeInterface opNilCheck opBuild aParts opBuildSlice aValW
set_option maxHeartbeats 4000000
set_option linter.unusedSimpArgs false
set_option linter.unusedVariables false
end Go.Proofs.YtkgfjfkgmpeobaaDoor

open Go Go.Eng
namespace Go.Proofs.YtkgfjfkgmpeobaaDoor
attribute [local congr] undef_congr WpK.congr WpS.congr WpL.congr WpC.congr WpF.congr gotS.congr callS.congr nextS.congr wantS.congr condS.congr
attribute [local irreducible] WpK
attribute [local simp] WpDr_nil WpDr_cons atS_some dwantS_true dwantS_false kindS_light kindS_float kindS_heavy lightS_value floatS_some heavyS_value heavyS_skip heavyS_enter dcallS_some doneS_eq
  isLight isFloat isPlain dLook testBit_dec dChain dLights_nil dLights_skip dLights_one dLight_nil dLight_cons dFreshes_nil dFreshes_one oneF_none oneF_some dFresh_nil dFresh_cons oneL_some oneW_true oneW_false sameV_value dPut dMay valEq arrEq listEq List.getElem?_cons Tr.get_nil dEnd
attribute [local simp] WpS_nil WpS_cons isDefer undef_false wantS_true wantS_false nextS_value nextS_skip nextS_enter callS_some gotS_some aWanted aOp aEvalF aEval opMove opAssign opPick aVal flat flat1 AAct.put opBinOp opConvert opIndex Tr.get_set Tr.get_lay aBin aResults tupled
  aCall aVals aCallB blt_dec ble_dec beq_dec aBinI_add aBinI_sub aBinI_lss aBinI_leq aBinI_gtr aBinI_geq aBinI_eql aBinI_neq index_str len_str len_slice Nat.beq_refl und2 und3 und4 und5 und39 und76 und82 und115 und22 und29 und25 und33 und46 und43 und49 und111 und113 field151 field155_0 field155_1 field155_2 field155_3 field155_4
  field78 field106 field24 field31 field27 field35 field108 field109 opBox opLoad opFieldAddr opIndexAddr acells aAddr opExtract aExtract opUnOp opAlloc opStore opMakeInterface opNilCheck opBuild aParts opBuildSlice aValW
set_option maxHeartbeats 4000000
set_option linter.unusedSimpArgs false
set_option linter.unusedVariables false
theorem flt_bs22 {ρ : Operand → Option Value} {o : Operand} {x y z : Int} (h : ρ o = some (.agg ⟨[.int .i64 x, .int .i64 y, .int .i64 z]⟩)) : aFlt T0 ρ (.buildSlice 22 1 #[(0, o)]) = some ⟨78, [.int .i64 x, .int .i64 y, .int .i64 z], false, 1, 1⟩ := by
  have hp : aParts ρ [(0, o)] = some [(0, .agg ⟨[.int .i64 x, .int .i64 y, .int .i64 z]⟩)] := by simp [aParts, h]
  have hf : aFill (fun j => some (j * 3, 3)) (rep [.int .i64 0, .int .i64 0, .int .i64 0] 1) [(0, .agg ⟨[.int .i64 x, .int .i64 y, .int .i64 z]⟩)] = some [.int .i64 x, .int .i64 y, .int .i64 z] := by kernel_rfl
  simp only [aFlt, hp, und22, inf78, z78, is78, acells]
  rw [show Nat.ble (1 * 3) 16777216 = true from rfl]
  simp only [List.length_cons, List.length_nil, Nat.beq_refl]
  rw [hf]
end Go.Proofs.YtkgfjfkgmpeobaaDoor

open Go Go.Eng
namespace Go.Proofs.YtkgfjfkgmpeobaaDoor
attribute [local congr] undef_congr WpK.congr WpS.congr WpL.congr WpC.congr WpF.congr gotS.congr callS.congr nextS.congr wantS.congr condS.congr
attribute [local irreducible] WpK
attribute [local simp] WpDr_nil WpDr_cons atS_some dwantS_true dwantS_false kindS_light kindS_float kindS_heavy lightS_value floatS_some heavyS_value heavyS_skip heavyS_enter dcallS_some doneS_eq
  isLight isFloat isPlain dLook testBit_dec dChain dLights_nil dLights_skip dLights_one dLight_nil dLight_cons dFreshes_nil dFreshes_one oneF_none oneF_some dFresh_nil dFresh_cons oneL_some oneW_true oneW_false sameV_value dPut dMay valEq arrEq listEq List.getElem?_cons Tr.get_nil dEnd
attribute [local simp] WpS_nil WpS_cons isDefer undef_false wantS_true wantS_false nextS_value nextS_skip nextS_enter callS_some gotS_some aWanted aOp aEvalF aEval opMove opAssign opPick aVal flat flat1 AAct.put opBinOp opConvert opIndex Tr.get_set Tr.get_lay aBin aResults tupled
  aCall aVals aCallB blt_dec ble_dec beq_dec aBinI_add aBinI_sub aBinI_lss aBinI_leq aBinI_gtr aBinI_geq aBinI_eql aBinI_neq index_str len_str len_slice Nat.beq_refl und2 und3 und4 und5 und39 und76 und82 und115 und22 und29 und25 und33 und46 und43 und49 und111 und113 field151 field155_0 field155_1 field155_2 field155_3 field155_4
  field78 field106 field24 field31 field27 field35 field108 field109 opBox opLoad opFieldAddr opIndexAddr acells aAddr opExtract aExtract opUnOp opAlloc opStore opMakeInterface opNilCheck opBuild aParts opBuildSlice aValW
set_option maxHeartbeats 4000000
set_option linter.unusedSimpArgs false
set_option linter.unusedVariables false
def bothL (l : List Tri) : List Tri := l.flatMap fun a => [(a.1, a.2.1, a.2.2), (a.2.1, a.1, a.2.2)]
end Go.Proofs.YtkgfjfkgmpeobaaDoor

open Go Go.Eng
namespace Go.Proofs.YtkgfjfkgmpeobaaDoor
attribute [local congr] undef_congr WpK.congr WpS.congr WpL.congr WpC.congr WpF.congr gotS.congr callS.congr nextS.congr wantS.congr condS.congr
attribute [local irreducible] WpK
attribute [local simp] WpDr_nil WpDr_cons atS_some dwantS_true dwantS_false kindS_light kindS_float kindS_heavy lightS_value floatS_some heavyS_value heavyS_skip heavyS_enter dcallS_some doneS_eq
  isLight isFloat isPlain dLook testBit_dec dChain dLights_nil dLights_skip dLights_one dLight_nil dLight_cons dFreshes_nil dFreshes_one oneF_none oneF_some dFresh_nil dFresh_cons oneL_some oneW_true oneW_false sameV_value dPut dMay valEq arrEq listEq List.getElem?_cons Tr.get_nil dEnd
attribute [local simp] WpS_nil WpS_cons isDefer undef_false wantS_true wantS_false nextS_value nextS_skip nextS_enter callS_some gotS_some aWanted aOp aEvalF aEval opMove opAssign opPick aVal flat flat1 AAct.put opBinOp opConvert opIndex Tr.get_set Tr.get_lay aBin aResults tupled
  aCall aVals aCallB blt_dec ble_dec beq_dec aBinI_add aBinI_sub aBinI_lss aBinI_leq aBinI_gtr aBinI_geq aBinI_eql aBinI_neq index_str len_str len_slice Nat.beq_refl und2 und3 und4 und5 und39 und76 und82 und115 und22 und29 und25 und33 und46 und43 und49 und111 und113 field151 field155_0 field155_1 field155_2 field155_3 field155_4
  field78 field106 field24 field31 field27 field35 field108 field109 opBox opLoad opFieldAddr opIndexAddr acells aAddr opExtract aExtract opUnOp opAlloc opStore opMakeInterface opNilCheck opBuild aParts opBuildSlice aValW
set_option maxHeartbeats 4000000
set_option linter.unusedSimpArgs false
set_option linter.unusedVariables false
def usedB (wo : Int) (T : Nat) : Nat → List Bra → Nat
  | _, [] => 0
  | i, a :: l => usedB wo T (i + 1) l + (if (i : Int) ≠ wo ∧ a.1 ≠ a.2.1 ∧ T.testBit a.1.toNat = true ∧ T.testBit a.2.1.toNat = true then 1 else 0)
theorem usedB_le {wo : Int} {T U : Nat} (h : ∀ q, T.testBit q = true → U.testBit q = true) : ∀ (l : List Bra) (i : Nat), usedB wo T i l ≤ usedB wo U i l
  | [], _ => Nat.le_refl _
  | a :: l, i => by
    have := usedB_le (wo := wo) h l (i + 1)
    rw [usedB, usedB]
    split
    · rename_i g
      rw [if_pos ⟨g.1, g.2.1, h _ g.2.2.1, h _ g.2.2.2⟩]; omega
    · split <;> omega
theorem usedB_lt {wo : Int} {T U : Nat} (h : ∀ q, T.testBit q = true → U.testBit q = true) : ∀ (l : List Bra) (i j : Nat) (a : Bra), l[j]? = some a → ((i + j : Nat) : Int) ≠ wo → a.1 ≠ a.2.1 → U.testBit a.1.toNat = true → U.testBit a.2.1.toNat = true → ¬ (T.testBit a.1.toNat = true ∧ T.testBit a.2.1.toNat = true) → usedB wo T i l < usedB wo U i l
  | [], _, j, _, hj, _, _, _, _, _ => by simp at hj
  | b :: l, i, 0, a, hj, h1, h2, h3, h4, h5 => by
    simp at hj; subst hj
    have := usedB_le (wo := wo) h l (i + 1)
    rw [usedB, usedB, if_neg (fun g => h5 ⟨g.2.2.1, g.2.2.2⟩), if_pos ⟨by simpa using h1, h2, h3, h4⟩]; omega
  | b :: l, i, j + 1, a, hj, h1, h2, h3, h4, h5 => by
    have := usedB_lt (wo := wo) h l (i + 1) j a (by simpa using hj) (by rw [show i + 1 + j = i + (j + 1) from by omega]; exact h1) h2 h3 h4 h5
    rw [usedB, usedB]
    split
    · rename_i g
      rw [if_pos ⟨g.1, g.2.1, h _ g.2.2.1, h _ g.2.2.2⟩]; omega
    · split <;> omega
structure Grown (L : List Bra) (wo : Int) (n f T : Nat) : Prop where
  lt : ∀ q, T.testBit q = true → q < n
  src : T.testBit f = true
  cnt : cntB T n ≤ 1 + usedB wo T 0 L
  wo' : ∀ (j : Nat) a, L[j]? = some a → (j : Int) ≠ wo → ¬ (T.testBit a.1.toNat = true ∧ T.testBit a.2.1.toNat = true) → wo = -1 → ∀ q : Nat, T.testBit q = true → Way L j f q
  by' : wo = -1 → ∀ q : Nat, T.testBit q = true → q ≠ f → ∃ (j : Nat) (y : Nat) (a : Bra), L[j]? = some a ∧ ((a.1 = y ∧ a.2.1 = q) ∨ (a.1 = q ∧ a.2.1 = y)) ∧ Way L j f y
theorem cntB_or {T x : Nat} (h : T.testBit x = false) : ∀ n, x < n → cntB (T ||| 1 <<< x) n = cntB T n + 1
  | 0, hx => by omega
  | n + 1, hx => by
    rw [cntB, cntB, Nat.testBit_or, one_bit]
    by_cases e : x = n
    · subst e
      have key : ∀ m, m ≤ x → cntB (T ||| 1 <<< x) m = cntB T m := by
        intro m
        induction m with
        | zero => intro _; rfl
        | succ m ih =>
          intro hm
          rw [cntB, cntB, ih (by omega), Nat.testBit_or, one_bit, decide_eq_false (by omega), Bool.or_false]
      rw [key x (Nat.le_refl _), h]; simp
    · rw [cntB_or h n (by omega), decide_eq_false e, Bool.or_false]; omega
theorem Grown.start {L : List Bra} {wo : Int} {n f : Nat} (hf : f < n) : Grown L wo n f (1 <<< f) := by
  have hb : ∀ q, (1 <<< f).testBit q = true ↔ q = f := fun q => by rw [one_bit]; simp; exact ⟨fun h => h.symm, fun h => h.symm⟩
  refine ⟨fun q hq => by have := (hb q).1 hq; omega, (hb f).2 rfl, ?_, fun j a _ _ _ _ q hq => ?_, fun _ q hq hne => absurd ((hb q).1 hq) hne⟩
  · have h0 : cntB 0 n = 0 := by
      have : ∀ m, cntB 0 m = 0 := fun m => by
        induction m with
        | zero => rfl
        | succ m ih => rw [cntB, ih, Nat.zero_testBit]; rfl
      exact this n
    have h1 := cntB_or (T := 0) (x := f) (Nat.zero_testBit f) n hf
    rw [Nat.zero_or] at h1
    omega
  · rw [(hb q).1 hq]; exact .here
theorem Grown.step {L : List Bra} {wo : Int} {n f T : Nat} (hL : BrIn n L) (h : Grown L wo n f T) {i : Nat} {a : Bra} (ha : L[i]? = some a) : Grown L wo n f (stepB wo i a T) := by
  by_cases hc : (i : Int) ≠ wo ∧ T.testBit a.1.toNat ≠ T.testBit a.2.1.toNat
  case neg =>
    have : stepB wo i a T = T := by unfold stepB; rw [if_neg hc]
    rw [this]; exact h
  have hb := hL a (List.mem_of_getElem? ha)
  -- the new place and the old one
  obtain ⟨x, y, hxy, hx, hy⟩ : ∃ x y : Nat, ((a.1 = x ∧ a.2.1 = y) ∨ (a.1 = y ∧ a.2.1 = x)) ∧ T.testBit x = false ∧ T.testBit y = true := by
    cases h1 : T.testBit a.1.toNat with
    | false =>
      refine ⟨a.1.toNat, a.2.1.toNat, .inl ⟨by omega, by omega⟩, h1, ?_⟩
      cases h2 : T.testBit a.2.1.toNat with
      | true => rfl
      | false => exact absurd (h1.trans h2.symm) hc.2
    | true =>
      refine ⟨a.2.1.toNat, a.1.toNat, .inr ⟨by omega, by omega⟩, ?_, h1⟩
      cases h2 : T.testBit a.2.1.toNat with
      | true => exact absurd (h1.trans h2.symm) hc.2
      | false => rfl
  have hxn : x < n := by omega
  have hbit : ∀ q, (stepB wo i a T).testBit q = (T.testBit q || decide (x = q)) := fun q => by
    rw [stepB_bit, decide_eq_true hc, Bool.true_and]
    cases hT : T.testBit q with
    | true => rfl
    | false =>
      have hqy : q ≠ y := fun e => by rw [e, hy] at hT; cases hT
      rcases hxy with ⟨e1, e2⟩ | ⟨e1, e2⟩
      · rw [e1, e2, Int.toNat_natCast, Int.toNat_natCast, decide_eq_false (show ¬ y = q from fun e => hqy e.symm)]; simp
      · rw [e1, e2, Int.toNat_natCast, Int.toNat_natCast, decide_eq_false (show ¬ y = q from fun e => hqy e.symm)]; simp
  have hor : stepB wo i a T = T ||| 1 <<< x := Nat.eq_of_testBit_eq fun q => by rw [hbit, Nat.testBit_or, one_bit]
  have hsub : ∀ q, T.testBit q = true → (stepB wo i a T).testBit q = true := fun q hq => by rw [hbit, hq]; rfl
  have hxb : (stepB wo i a T).testBit x = true := by rw [hbit]; simp
  have hyb := hsub y hy
  have hboth : (stepB wo i a T).testBit a.1.toNat = true ∧ (stepB wo i a T).testBit a.2.1.toNat = true := by
    rcases hxy with ⟨e1, e2⟩ | ⟨e1, e2⟩
    · rw [e1, e2, Int.toNat_natCast, Int.toNat_natCast]; exact ⟨hxb, hyb⟩
    · rw [e1, e2, Int.toNat_natCast, Int.toNat_natCast]; exact ⟨hyb, hxb⟩
  have hnot : ¬ (T.testBit a.1.toNat = true ∧ T.testBit a.2.1.toNat = true) := fun g => hc.2 (g.1.trans g.2.symm)
  refine ⟨fun q hq => ?_, hsub f h.src, ?_, fun j b hj hjw hjn hw q hq => ?_, fun hw q hq hne => ?_⟩
  · rw [hbit, Bool.or_eq_true, decide_eq_true_eq] at hq
    rcases hq with hq | hq
    · exact h.lt q hq
    · omega
  · have h1 := usedB_lt (wo := wo) hsub L 0 i a ha (by rw [Nat.zero_add]; exact hc.1) (fun e => hc.2 (by rw [e])) hboth.1 hboth.2 hnot
    have h2 := h.cnt
    rw [hor, cntB_or hx n hxn, ← hor]
    omega
  · have hjn' : ¬ (T.testBit b.1.toNat = true ∧ T.testBit b.2.1.toNat = true) := fun g => hjn ⟨hsub _ g.1, hsub _ g.2⟩
    have hold := h.wo' j b hj hjw hjn' hw
    rw [hbit, Bool.or_eq_true, decide_eq_true_eq] at hq
    rcases hq with hq | rfl
    · exact hold q hq
    · have hij : (i : Int) ≠ j := fun e => by
        have : i = j := by omega
        subst this; rw [ha] at hj; cases hj; exact hjn hboth
      exact .next (hold y hy) ⟨i, a, ha, hij, by rcases hxy with ⟨e1, e2⟩ | ⟨e1, e2⟩ <;> omega⟩
  · rw [hbit, Bool.or_eq_true, decide_eq_true_eq] at hq
    rcases hq with hq | rfl
    · exact h.by' hw q hq hne
    · exact ⟨i, y, a, ha, by rcases hxy with ⟨e1, e2⟩ | ⟨e1, e2⟩ <;> omega, h.wo' i a ha hc.1 hnot hw y hy⟩
theorem Grown.round {L : List Bra} {wo : Int} {n f : Nat} (hL : BrIn n L) : ∀ (l : List Bra) (i T : Nat), (∀ (j : Nat) a, l[j]? = some a → L[i + j]? = some a) → Grown L wo n f T → Grown L wo n f (roundB wo i l T)
  | [], _, _, _, h => h
  | a :: l, i, T, hl, h => by
    rw [roundB]
    exact Grown.round hL l (i + 1) _ (fun j b hj => by rw [show i + 1 + j = i + (j + 1) from by omega]; exact hl (j + 1) b (by simpa using hj)) (h.step hL (by have := hl 0 a rfl; simpa using this))
def spansB (l : List Bra) : Prop := ∀ q : Nat, q < l.length + 1 → (roundsB l (-1) l.length (1 <<< 0)).testBit q = true
end Go.Proofs.YtkgfjfkgmpeobaaDoor

open Go Go.Eng
namespace Go.Proofs.YtkgfjfkgmpeobaaDoor
attribute [local congr] undef_congr WpK.congr WpS.congr WpL.congr WpC.congr WpF.congr gotS.congr callS.congr nextS.congr wantS.congr condS.congr
attribute [local irreducible] WpK
attribute [local simp] WpDr_nil WpDr_cons atS_some dwantS_true dwantS_false kindS_light kindS_float kindS_heavy lightS_value floatS_some heavyS_value heavyS_skip heavyS_enter dcallS_some doneS_eq
  isLight isFloat isPlain dLook testBit_dec dChain dLights_nil dLights_skip dLights_one dLight_nil dLight_cons dFreshes_nil dFreshes_one oneF_none oneF_some dFresh_nil dFresh_cons oneL_some oneW_true oneW_false sameV_value dPut dMay valEq arrEq listEq List.getElem?_cons Tr.get_nil dEnd
attribute [local simp] WpS_nil WpS_cons isDefer undef_false wantS_true wantS_false nextS_value nextS_skip nextS_enter callS_some gotS_some aWanted aOp aEvalF aEval opMove opAssign opPick aVal flat flat1 AAct.put opBinOp opConvert opIndex Tr.get_set Tr.get_lay aBin aResults tupled
  aCall aVals aCallB blt_dec ble_dec beq_dec aBinI_add aBinI_sub aBinI_lss aBinI_leq aBinI_gtr aBinI_geq aBinI_eql aBinI_neq index_str len_str len_slice Nat.beq_refl und2 und3 und4 und5 und39 und76 und82 und115 und22 und29 und25 und33 und46 und43 und49 und111 und113 field151 field155_0 field155_1 field155_2 field155_3 field155_4
  field78 field106 field24 field31 field27 field35 field108 field109 opBox opLoad opFieldAddr opIndexAddr acells aAddr opExtract aExtract opUnOp opAlloc opStore opMakeInterface opNilCheck opBuild aParts opBuildSlice aValW
set_option maxHeartbeats 4000000
set_option linter.unusedSimpArgs false
set_option linter.unusedVariables false
def joinsB (l : List Bra) : Prop := 1 ≤ l.length ∧ l.length ≤ 23 ∧ BrIn (l.length + 1) l ∧ spansB l
end Go.Proofs.YtkgfjfkgmpeobaaDoor

open Go Go.Eng
namespace Go.Proofs.YtkgfjfkgmpeobaaDoor
attribute [local congr] undef_congr WpK.congr WpS.congr WpL.congr WpC.congr WpF.congr gotS.congr callS.congr nextS.congr wantS.congr condS.congr
attribute [local irreducible] WpK
attribute [local simp] WpDr_nil WpDr_cons atS_some dwantS_true dwantS_false kindS_light kindS_float kindS_heavy lightS_value floatS_some heavyS_value heavyS_skip heavyS_enter dcallS_some doneS_eq
  isLight isFloat isPlain dLook testBit_dec dChain dLights_nil dLights_skip dLights_one dLight_nil dLight_cons dFreshes_nil dFreshes_one oneF_none oneF_some dFresh_nil dFresh_cons oneL_some oneW_true oneW_false sameV_value dPut dMay valEq arrEq listEq List.getElem?_cons Tr.get_nil dEnd
attribute [local simp] WpS_nil WpS_cons isDefer undef_false wantS_true wantS_false nextS_value nextS_skip nextS_enter callS_some gotS_some aWanted aOp aEvalF aEval opMove opAssign opPick aVal flat flat1 AAct.put opBinOp opConvert opIndex Tr.get_set Tr.get_lay aBin aResults tupled
  aCall aVals aCallB blt_dec ble_dec beq_dec aBinI_add aBinI_sub aBinI_lss aBinI_leq aBinI_gtr aBinI_geq aBinI_eql aBinI_neq index_str len_str len_slice Nat.beq_refl und2 und3 und4 und5 und39 und76 und82 und115 und22 und29 und25 und33 und46 und43 und49 und111 und113 field151 field155_0 field155_1 field155_2 field155_3 field155_4
  field78 field106 field24 field31 field27 field35 field108 field109 opBox opLoad opFieldAddr opIndexAddr acells aAddr opExtract aExtract opUnOp opAlloc opStore opMakeInterface opNilCheck opBuild aParts opBuildSlice aValW
set_option maxHeartbeats 4000000
set_option linter.unusedSimpArgs false
set_option linter.unusedVariables false
def maxI : Int := 9223372036854775807
def MinW (l : List Bra) (f q : Nat) (x : Int) : Prop := (∀ (j : Nat) a, l[j]? = some a → ¬ Way l j f q → x ≤ a.2.2) ∧ ∃ (j : Nat) (a : Bra), l[j]? = some a ∧ ¬ Way l j f q ∧ x = a.2.2
theorem MinW.one {l : List Bra} {f q : Nat} {x y : Int} (h : MinW l f q x) (h' : MinW l f q y) : x = y := by
  obtain ⟨j, a, h1, h2, h3⟩ := h.2
  obtain ⟨k, b, g1, g2, g3⟩ := h'.2
  have := h.1 k b g1 g2
  have := h'.1 j a h1 h2
  omega
def MinCut (q : List Quad) (s t : Nat) (x : Int) : Prop := (∃ S, isCut s t S ∧ capQ S q = x) ∧ ∀ T, isCut s t T → x ≤ capQ T q
theorem MinCut.one {q : List Quad} {s t : Nat} {x y : Int} (h : MinCut q s t x) (h' : MinCut q s t y) : x = y := by
  obtain ⟨⟨S, h1, h2⟩, h3⟩ := h
  obtain ⟨⟨S', g1, g2⟩, g3⟩ := h'
  have := h3 S' g1
  have := g3 S h1
  omega
def TreeB (P : Nat) (q : List Quad) (l : List Bra) : Prop := l.length + 1 = P ∧ joinsB l ∧ ∀ (i : Nat) a, l[i]? = some a → ∃ x, MinCut q a.1.toNat a.2.1.toNat x ∧ a.2.2 = x ∧ capQ (roundsB l i l.length (1 <<< a.1.toNat)) q = x
end Go.Proofs.YtkgfjfkgmpeobaaDoor

open Go Go.Eng
namespace Go.Proofs.YtkgfjfkgmpeobaaDoor
attribute [local congr] undef_congr WpK.congr WpS.congr WpL.congr WpC.congr WpF.congr gotS.congr callS.congr nextS.congr wantS.congr condS.congr
attribute [local irreducible] WpK
attribute [local simp] WpDr_nil WpDr_cons atS_some dwantS_true dwantS_false kindS_light kindS_float kindS_heavy lightS_value floatS_some heavyS_value heavyS_skip heavyS_enter dcallS_some doneS_eq
  isLight isFloat isPlain dLook testBit_dec dChain dLights_nil dLights_skip dLights_one dLight_nil dLight_cons dFreshes_nil dFreshes_one oneF_none oneF_some dFresh_nil dFresh_cons oneL_some oneW_true oneW_false sameV_value dPut dMay valEq arrEq listEq List.getElem?_cons Tr.get_nil dEnd
attribute [local simp] WpS_nil WpS_cons isDefer undef_false wantS_true wantS_false nextS_value nextS_skip nextS_enter callS_some gotS_some aWanted aOp aEvalF aEval opMove opAssign opPick aVal flat flat1 AAct.put opBinOp opConvert opIndex Tr.get_set Tr.get_lay aBin aResults tupled
  aCall aVals aCallB blt_dec ble_dec beq_dec aBinI_add aBinI_sub aBinI_lss aBinI_leq aBinI_gtr aBinI_geq aBinI_eql aBinI_neq index_str len_str len_slice Nat.beq_refl und2 und3 und4 und5 und39 und76 und82 und115 und22 und29 und25 und33 und46 und43 und49 und111 und113 field151 field155_0 field155_1 field155_2 field155_3 field155_4
  field78 field106 field24 field31 field27 field35 field108 field109 opBox opLoad opFieldAddr opIndexAddr acells aAddr opExtract aExtract opUnOp opAlloc opStore opMakeInterface opNilCheck opBuild aParts opBuildSlice aValW
set_option maxHeartbeats 4000000
set_option linter.unusedSimpArgs false
set_option linter.unusedVariables false
end Go.Proofs.YtkgfjfkgmpeobaaDoor

open Go Go.Eng
namespace Go.Proofs.YtkgfjfkgmpeobaaDoor
attribute [local congr] undef_congr WpK.congr WpS.congr WpL.congr WpC.congr WpF.congr gotS.congr callS.congr nextS.congr wantS.congr condS.congr
attribute [local irreducible] WpK
attribute [local simp] WpDr_nil WpDr_cons atS_some dwantS_true dwantS_false kindS_light kindS_float kindS_heavy lightS_value floatS_some heavyS_value heavyS_skip heavyS_enter dcallS_some doneS_eq
  isLight isFloat isPlain dLook testBit_dec dChain dLights_nil dLights_skip dLights_one dLight_nil dLight_cons dFreshes_nil dFreshes_one oneF_none oneF_some dFresh_nil dFresh_cons oneL_some oneW_true oneW_false sameV_value dPut dMay valEq arrEq listEq List.getElem?_cons Tr.get_nil dEnd
attribute [local simp] WpS_nil WpS_cons isDefer undef_false wantS_true wantS_false nextS_value nextS_skip nextS_enter callS_some gotS_some aWanted aOp aEvalF aEval opMove opAssign opPick aVal flat flat1 AAct.put opBinOp opConvert opIndex Tr.get_set Tr.get_lay aBin aResults tupled
  aCall aVals aCallB blt_dec ble_dec beq_dec aBinI_add aBinI_sub aBinI_lss aBinI_leq aBinI_gtr aBinI_geq aBinI_eql aBinI_neq index_str len_str len_slice Nat.beq_refl und2 und3 und4 und5 und39 und76 und82 und115 und22 und29 und25 und33 und46 und43 und49 und111 und113 field151 field155_0 field155_1 field155_2 field155_3 field155_4
  field78 field106 field24 field31 field27 field35 field108 field109 opBox opLoad opFieldAddr opIndexAddr acells aAddr opExtract aExtract opUnOp opAlloc opStore opMakeInterface opNilCheck opBuild aParts opBuildSlice aValW
set_option maxHeartbeats 4000000
set_option linter.unusedSimpArgs false
set_option linter.unusedVariables false
theorem wpK_cut2 {T : Tabs} {cx : Cx} {a b c : Code} {A : AAct} {W : AW} {Q : AExit → AAct → AW → Prop} (J : AAct → AW → Prop) (h : ∀ Q' : AExit → AAct → AW → Prop, (∀ A' W', J A' W' → Q' .normal A' W') → WpK T cx (.seq a b) A W Q') (h2 : ∀ A' W', J A' W' → WpK T cx c A' W' Q) : WpK T cx (.seq a (.seq b c)) A W Q := by
  rw [← wpK_assoc]; exact wpK_cut J h h2
theorem Way.bound {l : List Bra} {n : Nat} {wo x y : Int} (hL : BrIn n l) (hx : 0 ≤ x ∧ x < n) (h : Way l wo x y) : 0 ≤ y ∧ y < n :=
  h.within (T := fun y => 0 ≤ y ∧ y < n) (fun y z _ hj => by
    obtain ⟨i, a, h1, h2, h3⟩ := hj
    have := hL a (List.mem_of_getElem? h1)
    rcases h3 with ⟨rfl, rfl⟩ | ⟨rfl, rfl⟩ <;> omega) hx
theorem set_of (n : Nat) : ∀ S : List Int, S.Nodup → (∀ y ∈ S, 0 ≤ y ∧ y < n) → ∃ T : Nat, (∀ i : Nat, T.testBit i = decide ((i : Int) ∈ S)) ∧ cntB T n = S.length
  | [], _, _ => ⟨0, fun i => by simp, by
    have : ∀ m, cntB 0 m = 0 := fun m => by
      induction m with
      | zero => rfl
      | succ m ih => rw [cntB, ih, Nat.zero_testBit]; rfl
    exact this n⟩
  | y :: S, hn, hb => by
    have hn' := List.nodup_cons.1 hn
    obtain ⟨T, h1, h2⟩ := set_of n S hn'.2 (fun z hz => hb z (List.mem_cons_of_mem _ hz))
    have hy := hb y List.mem_cons_self
    have ey : ((y.toNat : Nat) : Int) = y := by omega
    have hT : T.testBit y.toNat = false := by rw [h1, ey]; exact decide_eq_false hn'.1
    refine ⟨T ||| 1 <<< y.toNat, fun i => ?_, by rw [cntB_or hT n (by omega), h2]; rfl⟩
    rw [Nat.testBit_or, one_bit, h1]
    by_cases e : y.toNat = i
    · have : (i : Int) = y := by omega
      rw [decide_eq_true e, Bool.or_true, this]
      exact (decide_eq_true List.mem_cons_self).symm
    · rw [decide_eq_false e, Bool.or_false]
      have : ¬ (i : Int) = y := by omega
      simp [List.mem_cons, this]
structure SideS (l : List Bra) (wo x : Int) (S : List Int) (i : Nat) : Prop where
  nd : S.Nodup
  here : x ∈ S
  way : ∀ y ∈ S, Way l wo x y
  done : ∀ (j : Nat) y, j < i → S[j]? = some y → ∀ z, Joined l wo y z → z ∈ S
theorem SideS.start (l : List Bra) (wo x : Int) : SideS l wo x [x] 0 := ⟨by simp, by simp, fun y hy => by
  rw [List.mem_singleton] at hy; subst hy; exact .here, fun j y hj => by omega⟩
theorem SideS.len {l : List Bra} {wo : Int} {x n : Nat} {S : List Int} {i : Nat} (h : SideS l wo x S i) (hL : BrIn n l) (hx : x < n) : S.length ≤ n := by
  obtain ⟨T, _, h2⟩ := set_of n S h.nd (fun y hy => (h.way y hy).bound hL (by omega))
  rw [← h2]; exact cntB_max T n
theorem SideS.pos {l : List Bra} {wo x : Int} {S : List Int} {i : Nat} (h : SideS l wo x S i) : 0 < S.length := List.length_pos_of_mem h.here
theorem SideS.add {l : List Bra} {wo x y z : Int} {S : List Int} {i : Nat} (h : SideS l wo x S i) (hy : y ∈ S) (hz : Joined l wo y z) (hn : z ∉ S) (hi : i ≤ S.length) : SideS l wo x (S ++ [z]) i where
  nd := by
    rw [List.nodup_append]
    exact ⟨h.nd, by simp, fun a ha b hb e => by rw [List.mem_singleton] at hb; subst hb; subst e; exact hn ha⟩
  here := List.mem_append_left _ h.here
  way w hw := by
    rcases List.mem_append.1 hw with hw | hw
    · exact h.way w hw
    · rw [List.mem_singleton] at hw; subst hw; exact .next (h.way y hy) hz
  done j w hj hw v hv := by
    rw [List.getElem?_append_left (by omega)] at hw
    exact List.mem_append_left _ (h.done j w hj hw v hv)
def PartS (l : List Bra) (wo y : Int) (j : Nat) (S : List Int) : Prop := ∀ (m : Nat) a, m < j → l[m]? = some a → (m : Int) ≠ wo → (a.1 = y → a.2.1 ∈ S) ∧ (a.2.1 = y → a.1 ∈ S)
theorem PartS.more {l : List Bra} {wo y : Int} {j : Nat} {S S' : List Int} (h : PartS l wo y j S) (hs : ∀ w ∈ S, w ∈ S') : PartS l wo y j S' := fun m a h1 h2 h3 => ⟨fun e => hs _ ((h m a h1 h2 h3).1 e), fun e => hs _ ((h m a h1 h2 h3).2 e)⟩
theorem SideS.next {l : List Bra} {wo x y : Int} {S : List Int} {i : Nat} (h : SideS l wo x S i) (hy : S[i]? = some y) (hP : PartS l wo y l.length S) : SideS l wo x S (i + 1) where
  nd := h.nd
  here := h.here
  way := h.way
  done j w hj hw z hz := by
    by_cases e : j = i
    · subst e; rw [hy] at hw; cases hw
      obtain ⟨m, a, h1, h2, h3⟩ := hz
      have hp := hP m a (List.getElem?_eq_some_iff.1 h1).1 h1 h2
      rcases h3 with ⟨e1, e2⟩ | ⟨e1, e2⟩
      · exact e2 ▸ hp.1 e1
      · exact e1 ▸ hp.2 e2
    · exact h.done j w (by omega) hw z hz
theorem SideS.all {l : List Bra} {wo x : Int} {S : List Int} (h : SideS l wo x S S.length) (y : Int) : y ∈ S ↔ Way l wo x y :=
  ⟨h.way y, fun hw => hw.within (T := fun y => y ∈ S) (fun a b ha hj => by
    obtain ⟨i, hi, e⟩ := List.getElem_of_mem ha
    exact h.done i a hi (by rw [← e]; exact List.getElem?_eq_getElem hi) b hj) h.here⟩
def HeldI (W0 W : AW) (v : Value) (S : List Int) : Prop := HeldN W v S.length (intsV S) 3 1 (fun b => W0.next ≤ b)
theorem held_new (W : AW) (x : Int) : HeldI W (W.newCells 3 [.int .i64 x]) (.slice (some ⟨W.next, 0, none⟩) 1 2) [x] :=
  .inl ⟨rfl, W.next, Tr.nil.lay 0 [.int .i64 x], [], rfl, by show 0 < 1; omega, Nat.le_refl _, Nat.lt_succ_self _, by rw [newCells_get, if_pos rfl]; rfl, fun j hj => by
    rw [Tr.get_lay, if_pos (by have : j < 1 := hj; show 0 ≤ j ∧ j < 0 + 1; omega)]; simp [intsV], by simp⟩
theorem HeldI.has {W0 W : AW} {v : Value} {S : List Int} (h : HeldI W0 W v S) (hn : 0 < S.length) : ∃ b c, v = .slice (some ⟨b, 0, none⟩) S.length c ∧ b < W.next ∧ ∀ (i : Nat) x, S[i]? = some x → W.Has b i (.int .i64 x) := by
  obtain ⟨b, c, h1, _, h3, h4⟩ := HeldN.has h hn
  exact ⟨b, c, h1, h3, fun i x hx => h4 i _ (by rw [intsV, List.getElem?_map, hx]; rfl)⟩
theorem HeldI.ints {W0 W : AW} {v : Value} {S : List Int} (h : HeldI W0 W v S) (hn : 0 < S.length) : IntL W v S := by
  obtain ⟨b, c, rfl, _, h4⟩ := h.has hn
  exact ⟨_, _, rfl, fun i x hx => ⟨b, 0, rfl, by rw [Nat.zero_add]; exact h4 i x hx⟩⟩
theorem HeldI.push {W0 W : AW} {v : Value} {S : List Int} (h : HeldI W0 W v S) (he : Ext W0 W) (hl : S.length ≤ 1000) (x : Int) :
    ∃ v' W', aAppend T0 (W.newCells 3 [.int .i64 x]) [46, 46] [v, .slice (some ⟨W.next, 0, none⟩) 1 2] = some (v', W') ∧ HeldI W0 W' v' (S ++ [x]) ∧ Ext W0 W' := by
  have hE : Ext W (W.newCells 3 [.int .i64 x]) := .newCells _ _ _
  have h1 := HeldN.only (K' := fun _ => False) h hE (fun _ _ _ y => y)
  have hn := he.1
  obtain ⟨v', W', a1, a2, a3, a4⟩ := append_heldN (T := T0) (t := 46) (el := 3) (c := 2) (by omega) und46 inf3 is3 z3' rfl h1 (u := [.int .i64 x]) rfl (newCells_cellsAt W 3 [.int .i64 x] 1 rfl) rfl (by rw [by3']; omega) (by omega)
  refine ⟨v', W', a1, ?_, ?_⟩
  · have e1 : (S ++ [x]).length = S.length + 1 := by simp
    have e2 : intsV (S ++ [x]) = intsV S ++ [.int .i64 x] := by simp [intsV]
    show HeldN W' v' (S ++ [x]).length (intsV (S ++ [x])) 3 1 _
    rw [e1, e2]
    refine a3.mono (fun b hb => ?_)
    rcases hb with hb | hb
    · exact hb
    · rw [newCells_next] at hb; omega
  · refine ⟨by rw [a2, newCells_next]; omega, fun b hb _ => ?_⟩
    rw [a4.2 b (by rw [newCells_next]; omega) (by omega)]
    rw [hE.2 b (by omega) (fun y => y)]
    exact he.2 b hb (fun y => y)
end Go.Proofs.YtkgfjfkgmpeobaaDoor

open Go Go.Eng
namespace Go.Proofs.YtkgfjfkgmpeobaaDoor
attribute [local congr] undef_congr WpK.congr WpS.congr WpL.congr WpC.congr WpF.congr gotS.congr callS.congr nextS.congr wantS.congr condS.congr
attribute [local irreducible] WpK
attribute [local simp] WpDr_nil WpDr_cons atS_some dwantS_true dwantS_false kindS_light kindS_float kindS_heavy lightS_value floatS_some heavyS_value heavyS_skip heavyS_enter dcallS_some doneS_eq
  isLight isFloat isPlain dLook testBit_dec dChain dLights_nil dLights_skip dLights_one dLight_nil dLight_cons dFreshes_nil dFreshes_one oneF_none oneF_some dFresh_nil dFresh_cons oneL_some oneW_true oneW_false sameV_value dPut dMay valEq arrEq listEq List.getElem?_cons Tr.get_nil dEnd
attribute [local simp] WpS_nil WpS_cons isDefer undef_false wantS_true wantS_false nextS_value nextS_skip nextS_enter callS_some gotS_some aWanted aOp aEvalF aEval opMove opAssign opPick aVal flat flat1 AAct.put opBinOp opConvert opIndex Tr.get_set Tr.get_lay aBin aResults tupled
  aCall aVals aCallB blt_dec ble_dec beq_dec aBinI_add aBinI_sub aBinI_lss aBinI_leq aBinI_gtr aBinI_geq aBinI_eql aBinI_neq index_str len_str len_slice Nat.beq_refl und2 und3 und4 und5 und39 und76 und82 und115 und22 und29 und25 und33 und46 und43 und49 und111 und113 field151 field155_0 field155_1 field155_2 field155_3 field155_4
  field78 field106 field24 field31 field27 field35 field108 field109 opBox opLoad opFieldAddr opIndexAddr acells aAddr opExtract aExtract opUnOp opAlloc opStore opMakeInterface opNilCheck opBuild aParts opBuildSlice aValW
set_option maxHeartbeats 4000000
set_option linter.unusedSimpArgs false
set_option linter.unusedVariables false
end Go.Proofs.YtkgfjfkgmpeobaaDoor

open Go Go.Eng
namespace Go.Proofs.YtkgfjfkgmpeobaaDoor
attribute [local congr] undef_congr WpK.congr WpS.congr WpL.congr WpC.congr WpF.congr gotS.congr callS.congr nextS.congr wantS.congr condS.congr
attribute [local irreducible] WpK
attribute [local simp] WpDr_nil WpDr_cons atS_some dwantS_true dwantS_false kindS_light kindS_float kindS_heavy lightS_value floatS_some heavyS_value heavyS_skip heavyS_enter dcallS_some doneS_eq
  isLight isFloat isPlain dLook testBit_dec dChain dLights_nil dLights_skip dLights_one dLight_nil dLight_cons dFreshes_nil dFreshes_one oneF_none oneF_some dFresh_nil dFresh_cons oneL_some oneW_true oneW_false sameV_value dPut dMay valEq arrEq listEq List.getElem?_cons Tr.get_nil dEnd
attribute [local simp] WpS_nil WpS_cons isDefer undef_false wantS_true wantS_false nextS_value nextS_skip nextS_enter callS_some gotS_some aWanted aOp aEvalF aEval opMove opAssign opPick aVal flat flat1 AAct.put opBinOp opConvert opIndex Tr.get_set Tr.get_lay aBin aResults tupled
  aCall aVals aCallB blt_dec ble_dec beq_dec aBinI_add aBinI_sub aBinI_lss aBinI_leq aBinI_gtr aBinI_geq aBinI_eql aBinI_neq index_str len_str len_slice Nat.beq_refl und2 und3 und4 und5 und39 und76 und82 und115 und22 und29 und25 und33 und46 und43 und49 und111 und113 field151 field155_0 field155_1 field155_2 field155_3 field155_4
  field78 field106 field24 field31 field27 field35 field108 field109 opBox opLoad opFieldAddr opIndexAddr acells aAddr opExtract aExtract opUnOp opAlloc opStore opMakeInterface opNilCheck opBuild aParts opBuildSlice aValW
set_option maxHeartbeats 4000000
set_option linter.unusedSimpArgs false
set_option linter.unusedVariables false
end Go.Proofs.YtkgfjfkgmpeobaaDoor

open Go Go.Eng
namespace Go.Proofs.YtkgfjfkgmpeobaaDoor
attribute [local congr] undef_congr WpK.congr WpS.congr WpL.congr WpC.congr WpF.congr gotS.congr callS.congr nextS.congr wantS.congr condS.congr
attribute [local irreducible] WpK
attribute [local simp] WpDr_nil WpDr_cons atS_some dwantS_true dwantS_false kindS_light kindS_float kindS_heavy lightS_value floatS_some heavyS_value heavyS_skip heavyS_enter dcallS_some doneS_eq
  isLight isFloat isPlain dLook testBit_dec dChain dLights_nil dLights_skip dLights_one dLight_nil dLight_cons dFreshes_nil dFreshes_one oneF_none oneF_some dFresh_nil dFresh_cons oneL_some oneW_true oneW_false sameV_value dPut dMay valEq arrEq listEq List.getElem?_cons Tr.get_nil dEnd
attribute [local simp] WpS_nil WpS_cons isDefer undef_false wantS_true wantS_false nextS_value nextS_skip nextS_enter callS_some gotS_some aWanted aOp aEvalF aEval opMove opAssign opPick aVal flat flat1 AAct.put opBinOp opConvert opIndex Tr.get_set Tr.get_lay aBin aResults tupled
  aCall aVals aCallB blt_dec ble_dec beq_dec aBinI_add aBinI_sub aBinI_lss aBinI_leq aBinI_gtr aBinI_geq aBinI_eql aBinI_neq index_str len_str len_slice Nat.beq_refl und2 und3 und4 und5 und39 und76 und82 und115 und22 und29 und25 und33 und46 und43 und49 und111 und113 field151 field155_0 field155_1 field155_2 field155_3 field155_4
  field78 field106 field24 field31 field27 field35 field108 field109 opBox opLoad opFieldAddr opIndexAddr acells aAddr opExtract aExtract opUnOp opAlloc opStore opMakeInterface opNilCheck opBuild aParts opBuildSlice aValW
set_option maxHeartbeats 4000000
set_option linter.unusedSimpArgs false
set_option linter.unusedVariables false
end Go.Proofs.YtkgfjfkgmpeobaaDoor

open Go Go.Eng
namespace Go.Proofs.YtkgfjfkgmpeobaaDoor
attribute [local congr] undef_congr WpK.congr WpS.congr WpL.congr WpC.congr WpF.congr gotS.congr callS.congr nextS.congr wantS.congr condS.congr
attribute [local irreducible] WpK
attribute [local simp] WpDr_nil WpDr_cons atS_some dwantS_true dwantS_false kindS_light kindS_float kindS_heavy lightS_value floatS_some heavyS_value heavyS_skip heavyS_enter dcallS_some doneS_eq
  isLight isFloat isPlain dLook testBit_dec dChain dLights_nil dLights_skip dLights_one dLight_nil dLight_cons dFreshes_nil dFreshes_one oneF_none oneF_some dFresh_nil dFresh_cons oneL_some oneW_true oneW_false sameV_value dPut dMay valEq arrEq listEq List.getElem?_cons Tr.get_nil dEnd
attribute [local simp] WpS_nil WpS_cons isDefer undef_false wantS_true wantS_false nextS_value nextS_skip nextS_enter callS_some gotS_some aWanted aOp aEvalF aEval opMove opAssign opPick aVal flat flat1 AAct.put opBinOp opConvert opIndex Tr.get_set Tr.get_lay aBin aResults tupled
  aCall aVals aCallB blt_dec ble_dec beq_dec aBinI_add aBinI_sub aBinI_lss aBinI_leq aBinI_gtr aBinI_geq aBinI_eql aBinI_neq index_str len_str len_slice Nat.beq_refl und2 und3 und4 und5 und39 und76 und82 und115 und22 und29 und25 und33 und46 und43 und49 und111 und113 field151 field155_0 field155_1 field155_2 field155_3 field155_4
  field78 field106 field24 field31 field27 field35 field108 field109 opBox opLoad opFieldAddr opIndexAddr acells aAddr opExtract aExtract opUnOp opAlloc opStore opMakeInterface opNilCheck opBuild aParts opBuildSlice aValW
set_option maxHeartbeats 4000000
set_option linter.unusedSimpArgs false
set_option linter.unusedVariables false
theorem kill_other {t : Tr ABlk} : ∀ {kin : List (Nat × Bool)} {x : Nat}, (∀ p ∈ kin, p.1 ≠ x) → (AW.kill t kin).get x = t.get x
  | [], _, _ => rfl
  | (c, g) :: l, x, h => by
    simp only [AW.kill, Tr.get_del]
    rw [if_neg (fun e => h (c, g) List.mem_cons_self e.symm)]
    exact kill_other (fun p hp => h p (List.mem_cons_of_mem _ hp))
theorem oneCells_flat3 : ∀ l : List Tri, oneCells (flat3 l) = true
  | [] => rfl
  | a :: l => by
    have := oneCells_flat3 l
    rw [show flat3 (a :: l) = cells3 a ++ flat3 l from rfl]
    exact this
end Go.Proofs.YtkgfjfkgmpeobaaDoor

open Go Go.Eng
namespace Go.Proofs.YtkgfjfkgmpeobaaDoor
attribute [local congr] undef_congr WpK.congr WpS.congr WpL.congr WpC.congr WpF.congr gotS.congr callS.congr nextS.congr wantS.congr condS.congr
attribute [local irreducible] WpK
attribute [local simp] WpDr_nil WpDr_cons atS_some dwantS_true dwantS_false kindS_light kindS_float kindS_heavy lightS_value floatS_some heavyS_value heavyS_skip heavyS_enter dcallS_some doneS_eq
  isLight isFloat isPlain dLook testBit_dec dChain dLights_nil dLights_skip dLights_one dLight_nil dLight_cons dFreshes_nil dFreshes_one oneF_none oneF_some dFresh_nil dFresh_cons oneL_some oneW_true oneW_false sameV_value dPut dMay valEq arrEq listEq List.getElem?_cons Tr.get_nil dEnd
attribute [local simp] WpS_nil WpS_cons isDefer undef_false wantS_true wantS_false nextS_value nextS_skip nextS_enter callS_some gotS_some aWanted aOp aEvalF aEval opMove opAssign opPick aVal flat flat1 AAct.put opBinOp opConvert opIndex Tr.get_set Tr.get_lay aBin aResults tupled
  aCall aVals aCallB blt_dec ble_dec beq_dec aBinI_add aBinI_sub aBinI_lss aBinI_leq aBinI_gtr aBinI_geq aBinI_eql aBinI_neq index_str len_str len_slice Nat.beq_refl und2 und3 und4 und5 und39 und76 und82 und115 und22 und29 und25 und33 und46 und43 und49 und111 und113 field151 field155_0 field155_1 field155_2 field155_3 field155_4
  field78 field106 field24 field31 field27 field35 field108 field109 opBox opLoad opFieldAddr opIndexAddr acells aAddr opExtract aExtract opUnOp opAlloc opStore opMakeInterface opNilCheck opBuild aParts opBuildSlice aValW
set_option maxHeartbeats 4000000
set_option linter.unusedSimpArgs false
set_option linter.unusedVariables false
end Go.Proofs.YtkgfjfkgmpeobaaDoor

open Go Go.Eng
namespace Go.Proofs.YtkgfjfkgmpeobaaDoor
attribute [local congr] undef_congr WpK.congr WpS.congr WpL.congr WpC.congr WpF.congr gotS.congr callS.congr nextS.congr wantS.congr condS.congr
attribute [local irreducible] WpK
attribute [local simp] WpDr_nil WpDr_cons atS_some dwantS_true dwantS_false kindS_light kindS_float kindS_heavy lightS_value floatS_some heavyS_value heavyS_skip heavyS_enter dcallS_some doneS_eq
  isLight isFloat isPlain dLook testBit_dec dChain dLights_nil dLights_skip dLights_one dLight_nil dLight_cons dFreshes_nil dFreshes_one oneF_none oneF_some dFresh_nil dFresh_cons oneL_some oneW_true oneW_false sameV_value dPut dMay valEq arrEq listEq List.getElem?_cons Tr.get_nil dEnd
attribute [local simp] WpS_nil WpS_cons isDefer undef_false wantS_true wantS_false nextS_value nextS_skip nextS_enter callS_some gotS_some aWanted aOp aEvalF aEval opMove opAssign opPick aVal flat flat1 AAct.put opBinOp opConvert opIndex Tr.get_set Tr.get_lay aBin aResults tupled
  aCall aVals aCallB blt_dec ble_dec beq_dec aBinI_add aBinI_sub aBinI_lss aBinI_leq aBinI_gtr aBinI_geq aBinI_eql aBinI_neq index_str len_str len_slice Nat.beq_refl und2 und3 und4 und5 und39 und76 und82 und115 und22 und29 und25 und33 und46 und43 und49 und111 und113 field151 field155_0 field155_1 field155_2 field155_3 field155_4
  field78 field106 field24 field31 field27 field35 field108 field109 opBox opLoad opFieldAddr opIndexAddr acells aAddr opExtract aExtract opUnOp opAlloc opStore opMakeInterface opNilCheck opBuild aParts opBuildSlice aValW
set_option maxHeartbeats 4000000
set_option linter.unusedSimpArgs false
set_option linter.unusedVariables false
end Go.Proofs.YtkgfjfkgmpeobaaDoor

open Go Go.Eng
namespace Go.Proofs.YtkgfjfkgmpeobaaDoor
attribute [local congr] undef_congr WpK.congr WpS.congr WpL.congr WpC.congr WpF.congr gotS.congr callS.congr nextS.congr wantS.congr condS.congr
attribute [local irreducible] WpK
attribute [local simp] WpDr_nil WpDr_cons atS_some dwantS_true dwantS_false kindS_light kindS_float kindS_heavy lightS_value floatS_some heavyS_value heavyS_skip heavyS_enter dcallS_some doneS_eq
  isLight isFloat isPlain dLook testBit_dec dChain dLights_nil dLights_skip dLights_one dLight_nil dLight_cons dFreshes_nil dFreshes_one oneF_none oneF_some dFresh_nil dFresh_cons oneL_some oneW_true oneW_false sameV_value dPut dMay valEq arrEq listEq List.getElem?_cons Tr.get_nil dEnd
attribute [local simp] WpS_nil WpS_cons isDefer undef_false wantS_true wantS_false nextS_value nextS_skip nextS_enter callS_some gotS_some aWanted aOp aEvalF aEval opMove opAssign opPick aVal flat flat1 AAct.put opBinOp opConvert opIndex Tr.get_set Tr.get_lay aBin aResults tupled
  aCall aVals aCallB blt_dec ble_dec beq_dec aBinI_add aBinI_sub aBinI_lss aBinI_leq aBinI_gtr aBinI_geq aBinI_eql aBinI_neq index_str len_str len_slice Nat.beq_refl und2 und3 und4 und5 und39 und76 und82 und115 und22 und29 und25 und33 und46 und43 und49 und111 und113 field151 field155_0 field155_1 field155_2 field155_3 field155_4
  field78 field106 field24 field31 field27 field35 field108 field109 opBox opLoad opFieldAddr opIndexAddr acells aAddr opExtract aExtract opUnOp opAlloc opStore opMakeInterface opNilCheck opBuild aParts opBuildSlice aValW
set_option maxHeartbeats 4000000
set_option linter.unusedSimpArgs false
set_option linter.unusedVariables false
def WaysIn (W : AW) (v : Value) (ll : List (List Int)) : Prop := ∃ A c, v = .slice A ll.length c ∧ ∀ (i : Nat) l, ll[i]? = some l → ∃ b o u, A = some ⟨b, o, none⟩ ∧ W.Has b (o + i) u ∧ IntL W u l
theorem ways_only {W W' : AW} {v : Value} {ll : List (List Int)} {K : Nat → Prop} (h : WaysIn W v ll) (he : Only K W W') (hk : ∀ b, b < W.next → ¬ K b) : WaysIn W' v ll := by
  obtain ⟨A, c, h1, h2⟩ := h
  refine ⟨A, c, h1, fun i l hl => ?_⟩
  obtain ⟨b, o, u, e1, e2, e3⟩ := h2 i l hl
  exact ⟨b, o, u, e1, e2.only he (hk b e2.1), e3.only he hk⟩
theorem ways_ext {W W' : AW} {v : Value} {ll : List (List Int)} (h : WaysIn W v ll) (he : Ext W W') : WaysIn W' v ll := ways_only h he (fun _ _ x => x)
theorem ways_len {W : AW} {v : Value} {ll : List (List Int)} (h : WaysIn W v ll) : ∃ A c, v = .slice A ll.length c := let ⟨A, c, h, _⟩ := h; ⟨A, c, h⟩
theorem ways_at {W : AW} {v : Value} {ll : List (List Int)} (h : WaysIn W v ll) {i : Nat} {l : List Int} (hi : ll[i]? = some l) :
    ∃ u b p, aIndexAddr T0 49 v (.int .i64 (i : Int)) = some (.pointer (some ⟨b, p, none⟩)) ∧ aLoadVar T0 W 46 b p = some u ∧ IntL W u l ∧ W.Has b p u := by
  obtain ⟨A, c, rfl, h2⟩ := h
  obtain ⟨b, o, u, rfl, e2, e3⟩ := h2 i l hi
  have hlt := (List.getElem?_eq_some_iff.1 hi).1
  have hx := indexAddr_slice (T := T0) und49 sz46 (b := b) (o := o) (c := c) (k := .i64) hlt
  rw [Nat.mul_one] at hx
  exact ⟨u, b, o + i, hx, load_of und46 rfl e2, e3, e2⟩
theorem int_at {W : AW} {v : Value} {l : List Int} (h : IntL W v l) {i : Nat} {x : Int} (hi : l[i]? = some x) :
    ∃ b p, aIndexAddr T0 46 v (.int .i64 (i : Int)) = some (.pointer (some ⟨b, p, none⟩)) ∧ aLoadVar T0 W 3 b p = some (.int .i64 x) := by
  obtain ⟨A, c, rfl, h2⟩ := h
  obtain ⟨b, o, rfl, e2⟩ := h2 i x hi
  have hlt := (List.getElem?_eq_some_iff.1 hi).1
  have hx := indexAddr_slice (T := T0) und46 sz3 (b := b) (o := o) (c := c) (k := .i64) hlt
  rw [Nat.mul_one] at hx
  exact ⟨b, o + i, hx, load_of und3 rfl e2⟩
theorem int_len {W : AW} {v : Value} {l : List Int} (h : IntL W v l) : ∃ A c, v = .slice A l.length c := let ⟨A, c, h, _⟩ := h; ⟨A, c, h⟩
def stepW (l : List Tri) (st : Option (Int × List Int)) (a : Int) : Option (Int × List Int) :=
  match st with
  | none => none
  | some (p, seen) => if 0 ≤ a then match l[a.toNat]? with
    | some e => if e.1 = p ∧ e.2.1 ∉ seen then some (e.2.1, seen ++ [e.2.1]) else none
    | none => none else none
def walkW (l : List Tri) (s : Int) (way : List Int) : Option (Int × List Int) := way.foldl (stepW l) (some (s, [s]))
def isW (l : List Tri) (s t : Int) (way : List Int) : Prop := ∃ seen, walkW l s way = some (t, seen)
def apartW (l : List Tri) (s t : Int) (ways : List (List Int)) : Prop := (∀ w ∈ ways, isW l s t w) ∧ ways.flatten.Nodup
theorem fold_none (l : List Tri) : ∀ way : List Int, way.foldl (stepW l) none = none
  | [] => rfl
  | _ :: w => fold_none l w
theorem walk_take {l : List Tri} {s : Int} {way : List Int} {i : Nat} {a : Int} (h : way[i]? = some a) : walkW l s (way.take (i + 1)) = stepW l (walkW l s (way.take i)) a := by
  rw [List.take_add_one, h]
  simp only [Option.toList_some, walkW, List.foldl_append, List.foldl_cons, List.foldl_nil]
theorem walk_none {l : List Tri} {s : Int} {way : List Int} {i : Nat} (h : walkW l s (way.take i) = none) : walkW l s way = none := by
  have : walkW l s way = (way.drop i).foldl (stepW l) (walkW l s (way.take i)) := by
    rw [walkW, walkW, ← List.foldl_append, List.take_append_drop]
  rw [this, h, fold_none]
theorem isW_no {l : List Tri} {s t : Int} {way : List Int} {i : Nat} (h : walkW l s (way.take i) = none) : ¬ isW l s t way := by
  rintro ⟨seen, hs⟩
  rw [walk_none h] at hs; cases hs
theorem stepW_ok {l : List Tri} {p : Int} {seen : List Int} {a : Nat} {e : Tri} (he : l[a]? = some e) (h1 : e.1 = p) (h2 : e.2.1 ∉ seen) : stepW l (some (p, seen)) (a : Int) = some (e.2.1, seen ++ [e.2.1]) := by
  simp [stepW, he, h1, h2]
theorem stepW_neg {l : List Tri} {st : Option (Int × List Int)} {a : Int} (h : a < 0) : stepW l st a = none := by
  unfold stepW
  split
  · rfl
  · rw [if_neg (by omega)]
theorem stepW_far {l : List Tri} {st : Option (Int × List Int)} {a : Nat} (h : l.length ≤ a) : stepW l st (a : Int) = none := by
  unfold stepW
  split
  · rfl
  · simp [List.getElem?_eq_none h]
theorem stepW_from {l : List Tri} {p : Int} {seen : List Int} {a : Nat} {e : Tri} (he : l[a]? = some e) (h1 : e.1 ≠ p) : stepW l (some (p, seen)) (a : Int) = none := by
  simp [stepW, he, h1]
theorem stepW_met {l : List Tri} {p : Int} {seen : List Int} {a : Nat} {e : Tri} (he : l[a]? = some e) (h2 : e.2.1 ∈ seen) : stepW l (some (p, seen)) (a : Int) = none := by
  simp [stepW, he, h2]
theorem walk_mem {l : List Tri} : ∀ {way : List Int} {st : Int × List Int} {r : Int × List Int}, way.foldl (stepW l) (some st) = some r → ∀ a ∈ way, 0 ≤ a ∧ a < l.length
  | [], _, _, _, _, ha => by cases ha
  | x :: w, st, r, h, a, ha => by
    rw [List.foldl_cons] at h
    cases hs : stepW l (some st) x with
    | none => rw [hs, fold_none] at h; cases h
    | some st' =>
      rw [hs] at h
      rcases List.mem_cons.1 ha with rfl | ha
      · by_cases h0 : a < 0
        · rw [stepW_neg h0] at hs; cases hs
        · obtain ⟨k, rfl⟩ : ∃ k : Nat, a = k := ⟨a.toNat, by omega⟩
          by_cases hk : l.length ≤ k
          · rw [stepW_far hk] at hs; cases hs
          · omega
      · exact walk_mem h a ha
theorem isW_mem {l : List Tri} {s t : Int} {way : List Int} (h : isW l s t way) : ∀ a ∈ way, 0 ≤ a ∧ a < l.length := let ⟨_, h⟩ := h; walk_mem h
def ArcIn (l : List Tri) : Prop := ∀ a ∈ l, 0 ≤ a.1 ∧ a.1 < 24 ∧ 0 ≤ a.2.1 ∧ a.2.1 < 24
end Go.Proofs.YtkgfjfkgmpeobaaDoor

open Go Go.Eng
namespace Go.Proofs.YtkgfjfkgmpeobaaDoor
attribute [local congr] undef_congr WpK.congr WpS.congr WpL.congr WpC.congr WpF.congr gotS.congr callS.congr nextS.congr wantS.congr condS.congr
attribute [local irreducible] WpK
attribute [local simp] WpDr_nil WpDr_cons atS_some dwantS_true dwantS_false kindS_light kindS_float kindS_heavy lightS_value floatS_some heavyS_value heavyS_skip heavyS_enter dcallS_some doneS_eq
  isLight isFloat isPlain dLook testBit_dec dChain dLights_nil dLights_skip dLights_one dLight_nil dLight_cons dFreshes_nil dFreshes_one oneF_none oneF_some dFresh_nil dFresh_cons oneL_some oneW_true oneW_false sameV_value dPut dMay valEq arrEq listEq List.getElem?_cons Tr.get_nil dEnd
attribute [local simp] WpS_nil WpS_cons isDefer undef_false wantS_true wantS_false nextS_value nextS_skip nextS_enter callS_some gotS_some aWanted aOp aEvalF aEval opMove opAssign opPick aVal flat flat1 AAct.put opBinOp opConvert opIndex Tr.get_set Tr.get_lay aBin aResults tupled
  aCall aVals aCallB blt_dec ble_dec beq_dec aBinI_add aBinI_sub aBinI_lss aBinI_leq aBinI_gtr aBinI_geq aBinI_eql aBinI_neq index_str len_str len_slice Nat.beq_refl und2 und3 und4 und5 und39 und76 und82 und115 und22 und29 und25 und33 und46 und43 und49 und111 und113 field151 field155_0 field155_1 field155_2 field155_3 field155_4
  field78 field106 field24 field31 field27 field35 field108 field109 opBox opLoad opFieldAddr opIndexAddr acells aAddr opExtract aExtract opUnOp opAlloc opStore opMakeInterface opNilCheck opBuild aParts opBuildSlice aValW
set_option maxHeartbeats 4000000
set_option linter.unusedSimpArgs false
set_option linter.unusedVariables false
open Classical in
theorem isWay_wp {W : AW} {v wv : Value} {P : Int} {s t : Nat} {l : List Tri} {way : List Int} (h : TriIn W v l) (hw : IntL W wv way) (hin : ArcIn l) (h200 : l.length ≤ 200) (hs : s < 24) (hwl : way.length < 4611686018427387904) :
    WpF T0 63 [.agg ⟨[.int .i64 P, v]⟩, .int .i64 s, .int .i64 t, wv] W (fun u W' => Ext W W' ∧ u = .bool (decide (isW l s t way))) := by
  obtain ⟨A, c, rfl, hA⟩ := h
  obtain ⟨B, d, hwv⟩ := int_len hw
  have lw : ∀ W', aLen T0 W' 46 wv = some (.int .i64 way.length) := fun W' => by rw [hwv]; exact len_slice und46 _ _ _
  clear hwv
  refine wpF fun63 rfl ?_
  obtain ⟨W1, hW1, hE1, hV1⟩ : ∃ W1, W1 = W.newCells 31 [.int .i64 P, .slice A l.length c] ∧ Ext W W1 ∧ Var W1 W.next 31 [.int .i64 P, .slice A l.length c] := ⟨_, rfl, .newCells _ _ _, Var.new _ _ _⟩
  have l29 : aLoadVar T0 W1 29 W.next 1 = some (.slice A l.length c) := hV1.load1 (T := T0) und29 rfl (j := 1) (v := .slice A l.length c) rfl
  have ln : ∀ W', aLen T0 W' 29 (.slice A l.length c) = some (.int .i64 l.length) := fun W' => len_slice und29 _ _ _
  try simp only [wpK_assoc]
  refine wpK_reg (fun R hR => by simp [← hW1]; exact hR) ?_
  have h1s : (1 <<< s : Nat) < 2 ^ 24 := by rw [Nat.shiftLeft_eq, Nat.one_mul]; exact Nat.pow_lt_pow_right (by omega) hs
  have h54 := one_wp s (by omega) W1
  have hb0 : ∀ q : Nat, (1 <<< s : Nat).testBit q = true ↔ (q : Int) ∈ [(s : Int)] := fun q => by
    rw [Nat.shiftLeft_eq, Nat.one_mul, Nat.testBit_two_pow]
    simp only [decide_eq_true_eq, List.mem_singleton]; omega
  generalize (1 <<< s : Nat) = m0 at h1s h54 hb0
  try simp only [wpK_assoc]
  refine wpK_reg (fun R hR => by
      simp [aEnter, fun54, short_other, aCallV]; rw [callS_none]
      refine (h54).mono ?_
      rintro _ W9 ⟨e9, rfl⟩; subst W9
      simp []; exact hR) ?_
  try simp only [wpK_assoc]
  refine wpK_reg (fun R hR => by simp [lw]; exact hR) ?_
  try simp only [wpK_assoc]
  refine wpK_while (I := fun k A' W' => A'.n = 65 ∧ A'.defers = [] ∧ A'.tmps.get 2 = some (.int .i64 t) ∧ A'.tmps.get 4 = some (.pointer (some ⟨W.next, 0, none⟩)) ∧ A'.tmps.get 16 = some (wv) ∧ A'.tmps.get 17 = some (.int .i64 way.length) ∧ W' = W1 ∧ ∃ (i p m : Nat) (seen : List Int), k = way.length - i ∧ i ≤ way.length ∧ A'.tmps.get 18 = some (.int .i64 (i : Int)) ∧ A'.tmps.get 9 = some (.int .i64 (p : Int)) ∧ A'.tmps.get 10 = some (.int .u64 (m : Int)) ∧ walkW l s (way.take i) = some ((p : Int), seen) ∧ m < 2 ^ 24 ∧ ∀ q : Nat, m.testBit q = true ↔ (q : Int) ∈ seen)
    (J := fun A' W' => A'.n = 65 ∧ A'.defers = [] ∧ A'.tmps.get 2 = some (.int .i64 t) ∧ A'.tmps.get 4 = some (.pointer (some ⟨W.next, 0, none⟩)) ∧ A'.tmps.get 16 = some (wv) ∧ A'.tmps.get 17 = some (.int .i64 way.length) ∧ W' = W1 ∧ ∃ (p : Nat) (seen : List Int), A'.tmps.get 9 = some (.int .i64 (p : Int)) ∧ walkW l s way = some ((p : Int), seen))
    (Rt := fun A' W' => A'.defers = [] ∧ W' = W1 ∧ A'.tmps.get 8 = some (.bool false) ∧ ¬ isW l s t way) (k := way.length) ?_ ?_ ?_ ?_
  · exact ⟨rfl, rfl, by simp, by simp, by simp, by simp, rfl, 0, s, m0, [(s : Int)], rfl, by omega, by simp, by simp, by simp, rfl, h1s, hb0⟩
  · rintro k ⟨tm, n, ds⟩ W2 ⟨hn, hd, h2, h4, h16, h17, e2, i, p, m, seen, hk, hi, h18, h9, h10, hwk, hm, hmb⟩ Q' hJ hRt hI
    simp only at hn hd h2 h4 h16 h17
    subst hn; subst hd
    simp only at h18 h9 h10
    rw [e2]
    try simp only [wpK_assoc]
    refine wpK_reg (fun R hR => by simp [h17, h18]; exact hR) ?_
    by_cases hlt : i < way.length
    case neg =>
      have e : i = way.length := by omega
      rw [e, List.take_length] at hwk
      try simp only [wpK_assoc]
      first | refine wpK_onF (by simp [hlt]) ?_ | refine wpK_out (by simp [hlt]) ?_ | refine wpK_condF (by simp [hlt]) ?_ | refine wpK_endF (by simp [hlt]) (wpK_skip ?_) | refine wpK_endF (by simp [hlt]) ?_
      exact hJ _ _ ⟨rfl, rfl, by simp [h2, h4, h16, h17], by simp [h2, h4, h16, h17], by simp [h2, h4, h16, h17], by simp [h2, h4, h16, h17], rfl, p, seen, by simp [h9], hwk⟩
    try simp only [wpK_assoc]
    first | refine wpK_onT (by simp [hlt]) ?_ | refine wpK_outT (by simp [hlt]) ?_ | refine wpK_condT (by simp [hlt]) ?_ | refine wpK_endT (by simp [hlt]) ?_
    have hx : way[i]? = some way[i] := List.getElem?_eq_getElem hlt
    generalize way[i] = a at hx
    have hwt := walk_take (l := l) (s := (s : Int)) hx
    rw [hwk] at hwt
    obtain ⟨qb, qo, x1, x2⟩ := int_at (hw.ext hE1) hx
    refine wpK_block ?_
    try simp only [wpK_assoc]
    refine wpK_reg (fun R hR => by simp [h16, h18, x1, x2]; exact hR) ?_
    by_cases g1 : a < 0
    · try simp only [wpK_assoc]
      refine wpK_reg (fun R hR => by simp [g1, undef]; exact hR) ?_
      try simp only [wpK_assoc]
      first | refine wpK_onT (by simp []) ?_ | refine wpK_outT (by simp []) ?_ | refine wpK_condT (by simp []) ?_ | refine wpK_endT (by simp []) ?_
      try simp only [wpK_assoc]
      refine wpK_reg (fun R hR => by simp []; exact hR) ?_
      rw [stepW_neg g1] at hwt
      exact wpK_ret (hRt _ _ ⟨rfl, rfl, by simp, isW_no hwt⟩)
    obtain ⟨j, rfl⟩ : ∃ j : Nat, a = j := ⟨a.toNat, by omega⟩
    by_cases g2 : l.length ≤ j
    · have g2' : (l.length : Int) ≤ (j : Int) := by omega
      try simp only [wpK_assoc]
      refine wpK_reg (fun R hR => by simp [h4, g1, g2', l29, ln, undef]; exact hR) ?_
      try simp only [wpK_assoc]
      first | refine wpK_onT (by simp []) ?_ | refine wpK_outT (by simp []) ?_ | refine wpK_condT (by simp []) ?_ | refine wpK_endT (by simp []) ?_
      try simp only [wpK_assoc]
      refine wpK_reg (fun R hR => by simp []; exact hR) ?_
      rw [stepW_far g2] at hwt
      exact wpK_ret (hRt _ _ ⟨rfl, rfl, by simp, isW_no hwt⟩)
    have g2' : ¬ (l.length : Int) ≤ (j : Int) := by omega
    have he : l[j]? = some (l[j]'(by omega)) := List.getElem?_eq_getElem (by omega)
    generalize l[j]'_ = e at he
    obtain ⟨b, o, hAe, q1, q2, q3⟩ := hA j _ he
    have eV := indexAddr_tri (T := T0) und29 sz106 (b := b) (o := o) (c := c) (k := .i64) (show j < l.length by omega)
    rw [← hAe] at eV
    have la1 := load_of und3 rfl (q1.ext hE1)
    have la2 := load_of und3 rfl (q2.ext hE1)
    obtain ⟨i1, i2, i3, i4⟩ := hin e (List.mem_of_getElem? he)
    by_cases g3 : e.1 = (p : Int)
    case neg =>
      try simp only [wpK_assoc]
      refine wpK_reg (fun R hR => by simp [h4, h9, g1, g2', l29, ln, eV, la1, g3, undef]; exact hR) ?_
      try simp only [wpK_assoc]
      first | refine wpK_onT (by simp []) ?_ | refine wpK_outT (by simp []) ?_ | refine wpK_condT (by simp []) ?_ | refine wpK_endT (by simp []) ?_
      try simp only [wpK_assoc]
      refine wpK_reg (fun R hR => by simp []; exact hR) ?_
      rw [stepW_from he g3] at hwt
      exact wpK_ret (hRt _ _ ⟨rfl, rfl, by simp, isW_no hwt⟩)
    obtain ⟨y, hy⟩ : ∃ y : Nat, e.2.1 = y := ⟨e.2.1.toNat, by omega⟩
    rw [hy] at la2 i3 i4
    have h62 := has_wp m y (by omega) (by omega) W1
    have hmy := hmb y
    by_cases g4 : (y : Int) ∈ seen
    · rw [hmy.2 g4] at h62
      try simp only [wpK_assoc]
      refine wpK_reg (fun R hR => by
          simp [h4, h9, h10, g1, g2', l29, ln, eV, la1, la2, g3, aEnter, fun62, short_other, aCallV]; rw [callS_none]
          refine (h62).mono ?_
          rintro _ W9 ⟨e9, rfl⟩; subst W9
          simp [h4, h9, h10, g1, g2', l29, ln, eV, la1, la2, g3]; exact hR) ?_
      try simp only [wpK_assoc]
      first | refine wpK_onT (by simp []) ?_ | refine wpK_outT (by simp []) ?_ | refine wpK_condT (by simp []) ?_ | refine wpK_endT (by simp []) ?_
      try simp only [wpK_assoc]
      refine wpK_reg (fun R hR => by simp []; exact hR) ?_
      rw [stepW_met he (by rw [hy]; exact g4)] at hwt
      exact wpK_ret (hRt _ _ ⟨rfl, rfl, by simp, isW_no hwt⟩)
    have hmy' : m.testBit y = false := by
      cases hb : m.testBit y with
      | false => rfl
      | true => exact absurd (hmy.1 hb) g4
    rw [hmy'] at h62
    try simp only [wpK_assoc]
    refine wpK_reg (fun R hR => by
        simp [h4, h9, h10, g1, g2', l29, ln, eV, la1, la2, g3, aEnter, fun62, short_other, aCallV]; rw [callS_none]
        refine (h62).mono ?_
        rintro _ W9 ⟨e9, rfl⟩; subst W9
        simp [h4, h9, h10, g1, g2', l29, ln, eV, la1, la2, g3]; exact hR) ?_
    try simp only [wpK_assoc]
    first | refine wpK_onF (by simp []) ?_ | refine wpK_out (by simp []) ?_ | refine wpK_condF (by simp []) ?_ | refine wpK_endF (by simp []) (wpK_skip ?_) | refine wpK_endF (by simp []) ?_
    try simp only [wpK_assoc]
    refine wpK_reg (fun R hR => by simp [h4, l29, eV, la2]; exact hR) ?_
    rw [stepW_ok he g3 (by rw [hy]; exact g4), hy] at hwt
    have h1y : (1 <<< y : Nat) < 2 ^ 24 := by rw [Nat.shiftLeft_eq, Nat.one_mul]; exact Nat.pow_lt_pow_right (by omega) (by omega)
    have h54 := one_wp y (by omega) W1
    have hb1 : ∀ q : Nat, (1 <<< y : Nat).testBit q = true ↔ (q : Int) = (y : Int) := fun q => by
      rw [Nat.shiftLeft_eq, Nat.one_mul, Nat.testBit_two_pow]
      simp only [decide_eq_true_eq]; omega
    generalize (1 <<< y : Nat) = my at h1y h54 hb1
    have hor := aBinI_or .u64 m my (by show m < 18446744073709551616; omega) (by show my < 18446744073709551616; omega)
    have hor2 : m ||| my < 2 ^ 24 := Nat.or_lt_two_pow hm h1y
    have hb2 : ∀ q : Nat, (m ||| my).testBit q = true ↔ (q : Int) ∈ seen ++ [(y : Int)] := fun q => by
      rw [Nat.testBit_or, Bool.or_eq_true, hmb q, hb1 q, List.mem_append, List.mem_singleton]
    generalize m ||| my = m2 at hor hor2 hb2
    try simp only [wpK_assoc]
    refine wpK_reg1 (fun R hR => by
        simp [h10, hor, aEnter, fun54, short_other, aCallV]; rw [callS_none]
        refine (h54).mono ?_
        rintro _ W9 ⟨e9, rfl⟩; subst W9
        simp [h10, hor]; exact hR) ?_
    simp only [leaves_normal, behind_normal]
    try simp only [wpK_assoc]
    refine wpK_reg1 (fun R hR => by simp [h18]; exact hR) ?_
    exact hI (way.length - (i + 1)) _ _ (by omega) ⟨rfl, rfl, by simp [h2, h4, h16, h17], by simp [h2, h4, h16, h17], by simp [h2, h4, h16, h17], by simp [h2, h4, h16, h17], rfl, i + 1, y, m2, seen ++ [(y : Int)], rfl, by omega, by simp [i64_succ i (by omega)], by simp, by simp, hwt, hor2, hb2⟩
  · rintro A' W' ⟨hd, e2, h8, hne⟩
    exact ⟨.inr rfl, hd, [.bool false], by simp [h8], by rw [e2]; exact hE1, by rw [decide_eq_false hne]; rfl⟩
  · rintro ⟨tm, n, ds⟩ W2 ⟨hn, hd, h2, h4, h16, h17, e2, p, seen, h9, hwk⟩
    simp only at hn hd h2 h4 h16 h17
    subst hn; subst hd
    simp only at h9
    rw [e2]
    try simp only [wpK_assoc]
    refine wpK_reg (fun R hR => by simp [h9, h2]; exact hR) ?_
    refine wpK_ret ⟨.inr rfl, rfl, [.bool (decide (isW l s t way))], ?_, hE1, rfl⟩
    have : isW l s t way ↔ (p : Int) = (t : Int) := ⟨fun ⟨sn, h⟩ => by rw [hwk] at h; cases h; rfl, fun h => ⟨seen, by rw [hwk, h]⟩⟩
    by_cases e : (p : Int) = (t : Int)
    · simp [e, this.2 e]
    · have hn : ¬ isW l s t way := fun x => e (this.1 x)
      have e' : ¬ p = t := by omega
      simp [hn, e', e]
end Go.Proofs.YtkgfjfkgmpeobaaDoor

open Go Go.Eng
namespace Go.Proofs.YtkgfjfkgmpeobaaDoor
attribute [local congr] undef_congr WpK.congr WpS.congr WpL.congr WpC.congr WpF.congr gotS.congr callS.congr nextS.congr wantS.congr condS.congr
attribute [local irreducible] WpK
attribute [local simp] WpDr_nil WpDr_cons atS_some dwantS_true dwantS_false kindS_light kindS_float kindS_heavy lightS_value floatS_some heavyS_value heavyS_skip heavyS_enter dcallS_some doneS_eq
  isLight isFloat isPlain dLook testBit_dec dChain dLights_nil dLights_skip dLights_one dLight_nil dLight_cons dFreshes_nil dFreshes_one oneF_none oneF_some dFresh_nil dFresh_cons oneL_some oneW_true oneW_false sameV_value dPut dMay valEq arrEq listEq List.getElem?_cons Tr.get_nil dEnd
attribute [local simp] WpS_nil WpS_cons isDefer undef_false wantS_true wantS_false nextS_value nextS_skip nextS_enter callS_some gotS_some aWanted aOp aEvalF aEval opMove opAssign opPick aVal flat flat1 AAct.put opBinOp opConvert opIndex Tr.get_set Tr.get_lay aBin aResults tupled
  aCall aVals aCallB blt_dec ble_dec beq_dec aBinI_add aBinI_sub aBinI_lss aBinI_leq aBinI_gtr aBinI_geq aBinI_eql aBinI_neq index_str len_str len_slice Nat.beq_refl und2 und3 und4 und5 und39 und76 und82 und115 und22 und29 und25 und33 und46 und43 und49 und111 und113 field151 field155_0 field155_1 field155_2 field155_3 field155_4
  field78 field106 field24 field31 field27 field35 field108 field109 opBox opLoad opFieldAddr opIndexAddr acells aAddr opExtract aExtract opUnOp opAlloc opStore opMakeInterface opNilCheck opBuild aParts opBuildSlice aValW
set_option maxHeartbeats 4000000
set_option linter.unusedSimpArgs false
set_option linter.unusedVariables false
theorem arc_ok {P : Int} {l : List Tri} (hok : planOk P (arcsQ l) = true) : ArcIn l ∧ l.length ≤ 200 ∧ 2 ≤ P ∧ P ≤ 24 ∧ ∀ a ∈ l, 0 ≤ a.1 ∧ a.1 < P ∧ 0 ≤ a.2.1 ∧ a.2.1 < P ∧ a.1 ≠ a.2.1 ∧ 0 ≤ a.2.2 := by
  simp only [planOk, Bool.and_eq_true, decide_eq_true_eq, List.all_eq_true] at hok
  obtain ⟨⟨⟨h1, h2⟩, h3⟩, h4⟩ := hok
  have key : ∀ a ∈ l, 0 ≤ a.1 ∧ a.1 < P ∧ 0 ≤ a.2.1 ∧ a.2.1 < P ∧ a.1 ≠ a.2.1 ∧ 0 ≤ a.2.2 := fun a ha => by
    have := h4 (a.1, a.2.1, a.2.2, 0) (List.mem_map.2 ⟨a, ha, rfl⟩)
    simp only [okStep, two?, Bool.and_eq_true, decide_eq_true_eq] at this
    obtain ⟨⟨⟨⟨⟨⟨a1, a2⟩, a3⟩, a4⟩, a5⟩, a6⟩, a7⟩ := this
    exact ⟨a1, a2, a3, a4, a5, a6⟩
  refine ⟨fun a ha => ?_, by simpa [arcsQ] using h3, h1, h2, key⟩
  have := key a ha
  omega
open Classical in
noncomputable def usedL (n : Nat) (U : List Int) : List Value := (List.range n).map fun q : Nat => Value.bool (decide ((q : Int) ∈ U))
theorem usedL_len (n : Nat) (U : List Int) : (usedL n U).length = n := by simp [usedL]
open Classical in
theorem usedL_get {n : Nat} (U : List Int) {q : Nat} (h : q < n) : (usedL n U)[q]? = some (.bool (decide ((q : Int) ∈ U))) := by
  simp [usedL, List.getElem?_range h]
theorem usedL_set {n : Nat} (U : List Int) {q : Nat} (h : q < n) : (usedL n U).take q ++ [.bool true] ++ (usedL n U).drop (q + 1) = usedL n (U ++ [(q : Int)]) := by
  apply List.ext_getElem?
  intro j
  by_cases hj : j < n
  · rw [usedL_get _ hj]
    by_cases e : j < q
    · rw [List.append_assoc, List.getElem?_append_left (by rw [List.length_take, usedL_len]; omega), List.getElem?_take_of_lt e, usedL_get _ hj]
      have : ((j : Int) ∈ U ++ [(q : Int)]) ↔ (j : Int) ∈ U := by simp; omega
      simp only [this]
    · by_cases e2 : j = q
      · subst e2
        rw [List.append_assoc, List.getElem?_append_right (by rw [List.length_take, usedL_len]; omega)]
        simp [usedL_len, Nat.min_eq_left (Nat.le_of_lt h)]
      · rw [List.getElem?_append_right (by simp [usedL_len]; omega), List.getElem?_drop]
        have : q + 1 + (j - ((usedL n U).take q ++ [Value.bool true]).length) = j := by simp [usedL_len]; omega
        rw [this, usedL_get _ hj]
        have : ((j : Int) ∈ U ++ [(q : Int)]) ↔ (j : Int) ∈ U := by simp; omega
        simp only [this]
  · rw [List.getElem?_eq_none (by simp [usedL_len]; omega), List.getElem?_eq_none (by simp [usedL_len]; omega)]
theorem rep_bools : ∀ n, usedL n [] = rep [.bool false] n := fun n => by
  have : usedL n [] = List.replicate n (.bool false) := by
    rw [usedL, List.eq_replicate_iff]; simp
  rw [this]
  clear this
  induction n with
  | zero => rfl
  | succ n ih =>
    show List.replicate (n + 1) (Value.bool false) = [.bool false] ++ rep [.bool false] n
    rw [← ih, List.replicate_succ]; rfl
theorem und127 : T0.und.get 127 = some (.array 200 4) := by kernel_rfl
theorem zero127 : aZero T0 127 = some (.agg ⟨rep [.bool false] 200⟩) := by kernel_rfl
theorem ix127 (p q : Nat) (hq : q < 200) : aIndexAddr T0 127 (.pointer (some ⟨p, 0, none⟩)) (.int .i64 (q : Nat)) = some (.pointer (some ⟨p, q, none⟩)) := by
  show aIndexAddr T0 127 (.pointer (some ⟨p, 0, none⟩)) (.int .i64 (Int.ofNat q)) = _
  simp only [aIndexAddr, und127, sz4, blt_dec, hq, decide_true, Nat.mul_one, Nat.zero_add]
theorem used_store {W : AW} {p el n : Nat} {U : List Int} (h : Var W p el (usedL n U)) {q : Nat} (hq : q < n) : ∃ W', aStoreVar T0 W 4 p q (.bool true) = some W' ∧ W'.next = W.next ∧ Only (fun b => b = p) W W' ∧ Var W' p el (usedL n (U ++ [(q : Int)])) := by
  obtain ⟨W', s1, s2, s3, s4⟩ := h.store (T := T0) (t := 4) (v := .bool true) (o := q) inf4 (by rw [is4]; rfl) (by rw [usedL_len]; exact hq) rfl
  have s4 : Var W' p el ((usedL n U).take q ++ [.bool true] ++ (usedL n U).drop (q + 1)) := s4
  rw [usedL_set U hq] at s4
  exact ⟨W', s1, s2, s3, s4⟩
open Classical in
theorem used_load {W : AW} {p el n : Nat} {U : List Int} (h : Var W p el (usedL n U)) {q : Nat} (hq : q < n) : aLoadVar T0 W 4 p q = some (.bool (decide ((q : Int) ∈ U))) := h.load1 (T := T0) und4 rfl (j := q) (usedL_get U hq)
theorem flat_snoc {α : Type} {ll : List (List α)} {i : Nat} {w : List α} (h : ll[i]? = some w) : (ll.take (i + 1)).flatten = (ll.take i).flatten ++ w := by
  rw [List.take_add_one, h]; simp
theorem not_nodup {ll : List (List Int)} {i j : Nat} {w : List Int} {a : Int} (h : ll[i]? = some w) (ha : w[j]? = some a) (hu : a ∈ (ll.take i).flatten ++ w.take j) : ¬ ll.flatten.Nodup := by
  intro hn
  have e1 : ll.flatten = (ll.take i).flatten ++ (w.take j ++ w.drop j) ++ (ll.drop (i + 1)).flatten := by
    rw [List.take_append_drop, ← flat_snoc h, ← List.flatten_append, List.take_append_drop]
  have hlt := (List.getElem?_eq_some_iff.1 ha).1
  have e2 : w.drop j = a :: w.drop (j + 1) := by
    rw [List.drop_eq_getElem_cons hlt]
    have := (List.getElem?_eq_some_iff.1 ha).2
    rw [this]
  rw [e1, e2] at hn
  have := (List.nodup_append.1 hn).1
  rw [← List.append_assoc] at this
  exact (List.nodup_append.1 this).2.2 a hu a List.mem_cons_self rfl
open Classical in
theorem areApart_wp {W : AW} {v mv : Value} {P : Int} {s t : Nat} {l : List Tri} {ways : List (List Int)} (h : TriIn W v l) (hm : WaysIn W mv ways) (hok : planOk P (arcsQ l) = true) (hst : two? s t P = true) (hml : ways.length < 4611686018427387904) (hwl : ∀ w ∈ ways, w.length < 4611686018427387904) :
    WpF T0 23 [.agg ⟨[.int .i64 P, v]⟩, .int .i64 s, .int .i64 t, mv] W (fun u W' => Ext W W' ∧ u = .bool (decide (apartW l s t ways))) := by
  obtain ⟨hin, h200, hP2, hP24, _⟩ := arc_ok hok
  have hs24 : s < 24 := by simp only [two?, Bool.and_eq_true, decide_eq_true_eq] at hst; omega
  refine wpF fun23 rfl ?_
  have hN := netPlan (netIn (P := P) h)
  obtain ⟨W0, hW0, hE0, hV0⟩ : ∃ W0, W0 = W.newCells 31 [.int .i64 P, v] ∧ Ext W W0 ∧ Var W0 W.next 31 [.int .i64 P, v] := ⟨_, rfl, .newCells _ _ _, Var.new _ _ _⟩
  rw [← hW0] at hN
  have hee : chkE P (arcsQ l) s t = 0 := by simp only [chkE, hok, endE, hst, if_true]
  have hc := checkEnds_wp hN s t
  rw [hee] at hc
  try simp only [wpK_assoc]
  refine wpK_reg (fun R hR => by simp [← hW0]; exact hR) ?_
  try simp only [wpK_assoc]
  refine wpK_x0 (fun R hR => by
      simp [aEnter, fun52, short_other, aCallV]; rw [callS_none]
      refine (hc).mono ?_
      rintro _ W1 ⟨hE1, rfl⟩
      simp [show ¬ ((0 : Int) ≠ 0) from fun x => x rfl]; exact hR W1 hE1) ?_
  rintro W1 hE1
  try simp only [wpK_assoc]
  first | refine wpK_onF (by simp []) ?_ | refine wpK_out (by simp []) ?_ | refine wpK_condF (by simp []) ?_ | refine wpK_endF (by simp []) (wpK_skip ?_) | refine wpK_endF (by simp []) ?_
  have hz := rep_bools 200
  obtain ⟨W2, hW2, hE2, hV2⟩ : ∃ W2, W2 = W1.newCells 127 (usedL 200 []) ∧ Ext W1 W2 ∧ Var W2 W1.next 127 (usedL 200 []) := ⟨_, rfl, .newCells _ _ _, Var.new _ _ _⟩
  try simp only [wpK_assoc]
  refine wpK_reg (fun R hR => by simp [zero127, ← hz, ← hW2]; exact hR) ?_
  obtain ⟨Am, cm, hmv⟩ := ways_len hm
  have lm : ∀ W', aLen T0 W' 49 mv = some (.int .i64 ways.length) := fun W' => by rw [hmv]; exact len_slice und49 _ _ _
  clear hmv
  try simp only [wpK_assoc]
  refine wpK_reg (fun R hR => by simp [lm]; exact hR) ?_
  have hE12 := hE1.trans hE2
  have hE02 := hE0.trans hE12
  try simp only [wpK_assoc]
  refine wpK_while (I := fun k A' W' => A'.n = 44 ∧ A'.defers = [] ∧ A'.tmps.get 1 = some (.int .i64 s) ∧ A'.tmps.get 2 = some (.int .i64 t) ∧ A'.tmps.get 4 = some (.pointer (some ⟨W.next, 0, none⟩)) ∧ A'.tmps.get 9 = some (.pointer (some ⟨W1.next, 0, none⟩)) ∧ A'.tmps.get 19 = some (mv) ∧ A'.tmps.get 20 = some (.int .i64 ways.length) ∧ Only (fun b => b = W1.next) W2 W' ∧ ∃ (i : Nat), k = ways.length - i ∧ i ≤ ways.length ∧ A'.tmps.get 21 = some (.int .i64 (i : Int)) ∧ Var W' W1.next 127 (usedL 200 (ways.take i).flatten) ∧ (∀ w ∈ ways.take i, isW l s t w) ∧ (ways.take i).flatten.Nodup)
    (J := fun A' W' => A'.n = 44 ∧ A'.defers = [] ∧ A'.tmps.get 1 = some (.int .i64 s) ∧ A'.tmps.get 2 = some (.int .i64 t) ∧ A'.tmps.get 4 = some (.pointer (some ⟨W.next, 0, none⟩)) ∧ A'.tmps.get 9 = some (.pointer (some ⟨W1.next, 0, none⟩)) ∧ A'.tmps.get 19 = some (mv) ∧ A'.tmps.get 20 = some (.int .i64 ways.length) ∧ Only (fun b => b = W1.next) W2 W' ∧ apartW l s t ways)
    (Rt := fun A' W' => A'.defers = [] ∧ Only (fun b => b = W1.next) W2 W' ∧ A'.tmps.get 8 = some (.bool false) ∧ ¬ apartW l s t ways) (k := ways.length) ?_ ?_ ?_ ?_
  · exact ⟨rfl, rfl, by simp, by simp, by simp, by simp, by simp, by simp, .refl _ _, 0, by omega, by omega, by simp, by simpa using hV2, by simp, by simp⟩
  · rintro k ⟨tm, n, ds⟩ W3 ⟨hn, hd, h1, h2, h4, h9, h19, h20, hO3, i, hk, hi, h21, hV3, hall, hnd⟩ Q' hJ hRt hI
    simp only at hn hd h1 h2 h4 h9 h19 h20
    subst hn; subst hd
    simp only at h21
    try simp only [wpK_assoc]
    refine wpK_reg (fun R hR => by simp [h20, h21]; exact hR) ?_
    by_cases hlt : i < ways.length
    case neg =>
      have e : i = ways.length := by omega
      rw [e, List.take_length] at hall hnd
      try simp only [wpK_assoc]
      first | refine wpK_onF (by simp [hlt]) ?_ | refine wpK_out (by simp [hlt]) ?_ | refine wpK_condF (by simp [hlt]) ?_ | refine wpK_endF (by simp [hlt]) (wpK_skip ?_) | refine wpK_endF (by simp [hlt]) ?_
      exact hJ _ _ ⟨rfl, rfl, by simp [h1, h2, h4, h9, h19, h20], by simp [h1, h2, h4, h9, h19, h20], by simp [h1, h2, h4, h9, h19, h20], by simp [h1, h2, h4, h9, h19, h20], by simp [h1, h2, h4, h9, h19, h20], by simp [h1, h2, h4, h9, h19, h20], hO3, hall, hnd⟩
    try simp only [wpK_assoc]
    first | refine wpK_onT (by simp [hlt]) ?_ | refine wpK_outT (by simp [hlt]) ?_ | refine wpK_condT (by simp [hlt]) ?_ | refine wpK_endT (by simp [hlt]) ?_
    have hx : ways[i]? = some ways[i] := List.getElem?_eq_getElem hlt
    generalize ways[i] = w at hx
    have hwm := List.mem_of_getElem? hx
    have hE3 : ∀ b, b < W1.next → ¬ (b = W1.next) := fun b hb => by omega
    have hn12 := hE2.1
    have hOn : Only (fun b => b = W1.next) W W3 := ⟨by have := hO3.1; have := hE02.1; omega, fun b hb hk => by rw [hO3.2 b (by have := hE02.1; omega) hk]; exact hE02.2 b hb (fun x => x)⟩
    have hnW : ∀ b, b < W.next → ¬ (b = W1.next) := fun b hb => by have := (hE0.trans hE1).1; omega
    have hT3 := h.only hOn hnW
    obtain ⟨wv, qb, qo, x1, _, hwI0, hHas⟩ := ways_at hm hx
    have x2 := load_of und46 rfl (hHas.only hOn (hnW _ hHas.1))
    have hwI := hwI0.only hOn hnW
    obtain ⟨Aw, cw, hwv⟩ := int_len hwI
    have lw : ∀ W', aLen T0 W' 46 wv = some (.int .i64 w.length) := fun W' => by rw [hwv]; exact len_slice und46 _ _ _
    clear hwv
    have l31 : aLoadVar T0 W3 31 W.next 0 = some (.agg ⟨[.int .i64 P, v]⟩) := by
      have hV1 := hV0.ext hE12
      have := hV1.only hO3 (by have := hE1.1; have := hV0.1; omega)
      exact this.load (T := T0) und31 agg31 inf31 is31
    refine wpK_block ?_
    try simp only [wpK_assoc]
    refine wpK_reg (fun R hR => by simp [h19, h21, x1, x2]; exact hR) ?_
    have hway := isWay_wp (P := P) hT3 hwI hin h200 hs24 (hwl w hwm) (t := t)
    by_cases hisw : isW l s t w
    case neg =>
      rw [decide_eq_false hisw] at hway
      try simp only [wpK_assoc]
      refine wpK_x0 (fun R hR => by
          simp [h1, h2, h4, l31, opUnOp, aUn, aEnter, fun63, short_other, aCallV]; rw [callS_none]
          refine (hway).mono ?_
          rintro _ W4 ⟨hE4, rfl⟩
          simp [h1, h2, h4, l31, opUnOp, aUn]; exact hR W4 hE4) ?_
      rintro W4 hE4
      try simp only [wpK_assoc]
      first | refine wpK_onT (by simp []) ?_ | refine wpK_outT (by simp []) ?_ | refine wpK_condT (by simp []) ?_ | refine wpK_endT (by simp []) ?_
      try simp only [wpK_assoc]
      refine wpK_reg (fun R hR => by simp []; exact hR) ?_
      exact wpK_ret (hRt _ _ ⟨rfl, ⟨by have := hO3.1; have := hE4.1; omega, fun b hb hk => by rw [hE4.2 b (by have := hO3.1; omega) (fun x => x)]; exact hO3.2 b hb hk⟩, by simp, fun hap => hisw (hap.1 w hwm)⟩)
    rw [decide_eq_true hisw] at hway
    try simp only [wpK_assoc]
    refine wpK_x0 (fun R hR => by
        simp [h1, h2, h4, l31, opUnOp, aUn, aEnter, fun63, short_other, aCallV]; rw [callS_none]
        refine (hway).mono ?_
        rintro _ W4 ⟨hE4, rfl⟩
        simp [h1, h2, h4, l31, opUnOp, aUn]; exact hR W4 hE4) ?_
    rintro W4 hE4
    try simp only [wpK_assoc]
    first | refine wpK_onF (by simp []) ?_ | refine wpK_out (by simp []) ?_ | refine wpK_condF (by simp []) ?_ | refine wpK_endF (by simp []) (wpK_skip ?_) | refine wpK_endF (by simp []) ?_
    try simp only [wpK_assoc]
    refine wpK_reg (fun R hR => by simp [lw]; exact hR) ?_
    have hO4 : Only (fun b => b = W1.next) W2 W4 := ⟨by have := hO3.1; have := hE4.1; omega, fun b hb hk => by rw [hE4.2 b (by have := hO3.1; omega) (fun x => x)]; exact hO3.2 b hb hk⟩
    have hV4 := hV3.ext hE4
    have hmem := isW_mem hisw
    have hw62 := hwl w hwm
    try simp only [wpK_assoc]
    refine wpK_while1 (I := fun k A' W' => A'.n = 44 ∧ A'.defers = [] ∧ A'.tmps.get 1 = some (.int .i64 s) ∧ A'.tmps.get 2 = some (.int .i64 t) ∧ A'.tmps.get 4 = some (.pointer (some ⟨W.next, 0, none⟩)) ∧ A'.tmps.get 9 = some (.pointer (some ⟨W1.next, 0, none⟩)) ∧ A'.tmps.get 19 = some (mv) ∧ A'.tmps.get 20 = some (.int .i64 ways.length) ∧ A'.tmps.get 21 = some (.int .i64 (i : Int)) ∧ A'.tmps.get 31 = some (wv) ∧ A'.tmps.get 32 = some (.int .i64 w.length) ∧ Only (fun b => b = W1.next) W4 W' ∧ ∃ (j : Nat), k = w.length - j ∧ j ≤ w.length ∧ A'.tmps.get 33 = some (.int .i64 (j : Int)) ∧ Var W' W1.next 127 (usedL 200 ((ways.take i).flatten ++ w.take j)) ∧ ((ways.take i).flatten ++ w.take j).Nodup)
      (J := fun A' W' => A'.n = 44 ∧ A'.defers = [] ∧ A'.tmps.get 1 = some (.int .i64 s) ∧ A'.tmps.get 2 = some (.int .i64 t) ∧ A'.tmps.get 4 = some (.pointer (some ⟨W.next, 0, none⟩)) ∧ A'.tmps.get 9 = some (.pointer (some ⟨W1.next, 0, none⟩)) ∧ A'.tmps.get 19 = some (mv) ∧ A'.tmps.get 20 = some (.int .i64 ways.length) ∧ A'.tmps.get 21 = some (.int .i64 (i : Int)) ∧ A'.tmps.get 31 = some (wv) ∧ A'.tmps.get 32 = some (.int .i64 w.length) ∧ Only (fun b => b = W1.next) W4 W' ∧ Var W' W1.next 127 (usedL 200 ((ways.take i).flatten ++ w)) ∧ ((ways.take i).flatten ++ w).Nodup)
      (Rt := fun A' W' => A'.defers = [] ∧ Only (fun b => b = W1.next) W4 W' ∧ A'.tmps.get 8 = some (.bool false) ∧ ¬ apartW l s t ways) (k := w.length) ?_ ?_ ?_ ?_
    · exact ⟨rfl, rfl, by simp [h1, h2, h4, h9, h19, h20, h21], by simp [h1, h2, h4, h9, h19, h20, h21], by simp [h1, h2, h4, h9, h19, h20, h21], by simp [h1, h2, h4, h9, h19, h20, h21], by simp [h1, h2, h4, h9, h19, h20, h21], by simp [h1, h2, h4, h9, h19, h20, h21], by simp [h1, h2, h4, h9, h19, h20, h21], by simp [h1, h2, h4, h9, h19, h20, h21], by simp [h1, h2, h4, h9, h19, h20, h21], .refl _ _, 0, by omega, by omega, by simp, by simpa using hV4, by simpa using hnd⟩
    · rintro k ⟨tm, n, ds⟩ W5 ⟨hn, hd, h1, h2, h4, h9, h19, h20, h21, h31, h32, hO5, j, hkj, hj, h33, hV5, hnd5⟩ Q' hJ hRt hI
      simp only at hn hd h1 h2 h4 h9 h19 h20 h21 h31 h32
      subst hn; subst hd
      simp only at h33
      try simp only [wpK_assoc]
      refine wpK_reg (fun R hR => by simp [h32, h33]; exact hR) ?_
      by_cases hjl : j < w.length
      case neg =>
        have e : j = w.length := by omega
        rw [e, List.take_length] at hV5 hnd5
        try simp only [wpK_assoc]
        first | refine wpK_onF (by simp [hjl]) ?_ | refine wpK_out (by simp [hjl]) ?_ | refine wpK_condF (by simp [hjl]) ?_ | refine wpK_endF (by simp [hjl]) (wpK_skip ?_) | refine wpK_endF (by simp [hjl]) ?_
        exact hJ _ _ ⟨rfl, rfl, by simp [h1, h2, h4, h9, h19, h20, h21, h31, h32], by simp [h1, h2, h4, h9, h19, h20, h21, h31, h32], by simp [h1, h2, h4, h9, h19, h20, h21, h31, h32], by simp [h1, h2, h4, h9, h19, h20, h21, h31, h32], by simp [h1, h2, h4, h9, h19, h20, h21, h31, h32], by simp [h1, h2, h4, h9, h19, h20, h21, h31, h32], by simp [h1, h2, h4, h9, h19, h20, h21, h31, h32], by simp [h1, h2, h4, h9, h19, h20, h21, h31, h32], by simp [h1, h2, h4, h9, h19, h20, h21, h31, h32], hO5, hV5, hnd5⟩
      try simp only [wpK_assoc]
      first | refine wpK_onT (by simp [hjl]) ?_ | refine wpK_outT (by simp [hjl]) ?_ | refine wpK_condT (by simp [hjl]) ?_ | refine wpK_endT (by simp [hjl]) ?_
      have hxa : w[j]? = some w[j] := List.getElem?_eq_getElem hjl
      generalize w[j] = a at hxa
      obtain ⟨a0, a1⟩ := hmem a (List.mem_of_getElem? hxa)
      obtain ⟨q, rfl⟩ : ∃ q : Nat, a = q := ⟨a.toNat, by omega⟩
      have hq200 : q < 200 := by omega
      have hO05 : Only (fun b => b = W1.next) W W5 := ⟨by have := hOn.1; have := hE4.1; have := hO5.1; omega, fun b hb hk => by rw [hO5.2 b (by have := hOn.1; have := hE4.1; omega) hk, hE4.2 b (by have := hOn.1; omega) (fun x => x)]; exact hOn.2 b hb hk⟩
      obtain ⟨qb', qo', y1, y2'⟩ := int_at (hwI0.only hO05 hnW) hxa
      refine wpK_block ?_
      try simp only [wpK_assoc]
      refine wpK_reg (fun R hR => by simp [h31, h33, y1, y2']; exact hR) ?_
      have hlo := used_load hV5 hq200
      have hixq := ix127 W1.next q hq200
      by_cases hu : (q : Int) ∈ (ways.take i).flatten ++ w.take j
      · rw [decide_eq_true hu] at hlo
        try simp only [wpK_assoc]
        refine wpK_reg (fun R hR => by simp [h9, hixq, hlo]; exact hR) ?_
        try simp only [wpK_assoc]
        first | refine wpK_onT (by simp []) ?_ | refine wpK_outT (by simp []) ?_ | refine wpK_condT (by simp []) ?_ | refine wpK_endT (by simp []) ?_
        try simp only [wpK_assoc]
        refine wpK_reg (fun R hR => by simp []; exact hR) ?_
        exact wpK_ret (hRt _ _ ⟨rfl, hO5, by simp, fun hap => not_nodup hx hxa hu hap.2⟩)
      rw [decide_eq_false hu] at hlo
      try simp only [wpK_assoc]
      refine wpK_reg (fun R hR => by simp [h9, hixq, hlo]; exact hR) ?_
      try simp only [wpK_assoc]
      first | refine wpK_onF (by simp []) ?_ | refine wpK_out (by simp []) ?_ | refine wpK_condF (by simp []) ?_ | refine wpK_endF (by simp []) (wpK_skip ?_) | refine wpK_endF (by simp []) ?_
      obtain ⟨W6, s1, s2, s3, s4⟩ := used_store hV5 hq200
      try simp only [wpK_assoc]
      refine wpK_reg1 (fun R hR => by simp [h9, hixq, s1]; exact hR) ?_
      have etk : (ways.take i).flatten ++ w.take j ++ [(q : Int)] = (ways.take i).flatten ++ w.take (j + 1) := by rw [List.take_add_one, hxa]; simp
      simp only [leaves_normal, behind_normal]
      try simp only [wpK_assoc]
      refine wpK_reg1 (fun R hR => by simp [h33]; exact hR) ?_
      rw [etk] at s4
      exact hI (w.length - (j + 1)) _ _ (by omega) ⟨rfl, rfl, by simp [h1, h2, h4, h9, h19, h20, h21, h31, h32], by simp [h1, h2, h4, h9, h19, h20, h21, h31, h32], by simp [h1, h2, h4, h9, h19, h20, h21, h31, h32], by simp [h1, h2, h4, h9, h19, h20, h21, h31, h32], by simp [h1, h2, h4, h9, h19, h20, h21, h31, h32], by simp [h1, h2, h4, h9, h19, h20, h21, h31, h32], by simp [h1, h2, h4, h9, h19, h20, h21, h31, h32], by simp [h1, h2, h4, h9, h19, h20, h21, h31, h32], by simp [h1, h2, h4, h9, h19, h20, h21, h31, h32], ⟨by have := hO5.1; have := s3.1; omega, fun b hb hk => by rw [s3.2 b (by have := hO5.1; omega) hk]; exact hO5.2 b hb hk⟩, j + 1, rfl, by omega, by simp [i64_succ j (by omega)], s4, by
        rw [← etk]
        exact List.nodup_append.2 ⟨hnd5, by simp, fun x hx y hy e => by simp at hy; subst hy; subst e; exact hu hx⟩⟩
    · rintro A' W' ⟨hd, hO, h8, hne⟩
      exact hRt _ _ ⟨hd, ⟨by have := hO4.1; have := hO.1; omega, fun b hb hk => by rw [hO.2 b (by have := hO4.1; omega) hk]; exact hO4.2 b hb hk⟩, h8, hne⟩
    · rintro ⟨tm, n, ds⟩ W5 ⟨hn, hd, h1, h2, h4, h9, h19, h20, h21, h31, h32, hO5, hV5, hnd5⟩
      simp only at hn hd h1 h2 h4 h9 h19 h20 h21 h31 h32
      subst hn; subst hd
      simp only [leaves_normal, behind_normal]
      try simp only [wpK_assoc]
      refine wpK_reg1 (fun R hR => by simp [h21]; exact hR) ?_
      rw [← flat_snoc hx] at hV5 hnd5
      exact hI (ways.length - (i + 1)) _ _ (by omega) ⟨rfl, rfl, by simp [h1, h2, h4, h9, h19, h20], by simp [h1, h2, h4, h9, h19, h20], by simp [h1, h2, h4, h9, h19, h20], by simp [h1, h2, h4, h9, h19, h20], by simp [h1, h2, h4, h9, h19, h20], by simp [h1, h2, h4, h9, h19, h20], ⟨by have := hO4.1; have := hO5.1; omega, fun b hb hk => by rw [hO5.2 b (by have := hO4.1; omega) hk]; exact hO4.2 b hb hk⟩, i + 1, rfl, by omega, by simp [i64_succ i (by omega)], hV5, fun w' hw' => by
        rw [List.take_add_one, hx] at hw'
        simp only [Option.toList_some, List.mem_append, List.mem_singleton] at hw'
        rcases hw' with hw' | rfl
        · exact hall w' hw'
        · exact hisw, hnd5⟩
  · rintro A' W' ⟨hd, hO, h8, hne⟩
    exact ⟨.inr rfl, hd, [.bool false], by simp [h8], ⟨by have := hE02.1; have := hO.1; omega, fun b hb hk => by rw [hO.2 b (by have := hE02.1; omega) (by have := (hE0.trans hE1).1; omega)]; exact hE02.2 b hb hk⟩, by rw [decide_eq_false hne]; rfl⟩
  · rintro ⟨tm, n, ds⟩ W3 ⟨hn, hd, h1, h2, h4, h9, h19, h20, hO, hap⟩
    simp only at hn hd h1 h2 h4 h9 h19 h20
    subst hn; subst hd
    try simp only [wpK_assoc]
    refine wpK_reg (fun R hR => by simp []; exact hR) ?_
    exact wpK_ret ⟨.inr rfl, rfl, [.bool true], by simp, ⟨by have := hE02.1; have := hO.1; omega, fun b hb hk => by rw [hO.2 b (by have := hE02.1; omega) (by have := (hE0.trans hE1).1; omega)]; exact hE02.2 b hb hk⟩, by rw [decide_eq_true hap]; rfl⟩
end Go.Proofs.YtkgfjfkgmpeobaaDoor

open Go Go.Eng
namespace Go.Proofs.YtkgfjfkgmpeobaaDoor
attribute [local congr] undef_congr WpK.congr WpS.congr WpL.congr WpC.congr WpF.congr gotS.congr callS.congr nextS.congr wantS.congr condS.congr
attribute [local irreducible] WpK
attribute [local simp] WpDr_nil WpDr_cons atS_some dwantS_true dwantS_false kindS_light kindS_float kindS_heavy lightS_value floatS_some heavyS_value heavyS_skip heavyS_enter dcallS_some doneS_eq
  isLight isFloat isPlain dLook testBit_dec dChain dLights_nil dLights_skip dLights_one dLight_nil dLight_cons dFreshes_nil dFreshes_one oneF_none oneF_some dFresh_nil dFresh_cons oneL_some oneW_true oneW_false sameV_value dPut dMay valEq arrEq listEq List.getElem?_cons Tr.get_nil dEnd
attribute [local simp] WpS_nil WpS_cons isDefer undef_false wantS_true wantS_false nextS_value nextS_skip nextS_enter callS_some gotS_some aWanted aOp aEvalF aEval opMove opAssign opPick aVal flat flat1 AAct.put opBinOp opConvert opIndex Tr.get_set Tr.get_lay aBin aResults tupled
  aCall aVals aCallB blt_dec ble_dec beq_dec aBinI_add aBinI_sub aBinI_lss aBinI_leq aBinI_gtr aBinI_geq aBinI_eql aBinI_neq index_str len_str len_slice Nat.beq_refl und2 und3 und4 und5 und39 und76 und82 und115 und22 und29 und25 und33 und46 und43 und49 und111 und113 field151 field155_0 field155_1 field155_2 field155_3 field155_4
  field78 field106 field24 field31 field27 field35 field108 field109 opBox opLoad opFieldAddr opIndexAddr acells aAddr opExtract aExtract opUnOp opAlloc opStore opMakeInterface opNilCheck opBuild aParts opBuildSlice aValW
set_option maxHeartbeats 4000000
set_option linter.unusedSimpArgs false
set_option linter.unusedVariables false
theorem HeldI.push2 {W0 W : AW} {v : Value} {S : List Int} (h : HeldI W0 W v S) (hn : W0.next ≤ W.next) (hl : S.length ≤ 1000) (x : Int) :
    ∃ v' W', aAppend T0 (W.newCells 3 [.int .i64 x]) [46, 46] [v, .slice (some ⟨W.next, 0, none⟩) 1 2] = some (v', W') ∧ HeldI W0 W' v' (S ++ [x]) ∧ Only (fun b => W0.next ≤ b) W W' := by
  have hE : Ext W (W.newCells 3 [.int .i64 x]) := .newCells _ _ _
  have h1 := HeldN.only (K' := fun _ => False) h hE (fun _ _ _ y => y)
  obtain ⟨v', W', a1, a2, a3, a4⟩ := append_heldN (T := T0) (t := 46) (el := 3) (c := 2) (by omega) und46 inf3 is3 z3' rfl h1 (u := [.int .i64 x]) rfl (newCells_cellsAt W 3 [.int .i64 x] 1 rfl) rfl (by rw [by3']; omega) (by omega)
  refine ⟨v', W', a1, ?_, ?_⟩
  · have e1 : (S ++ [x]).length = S.length + 1 := by simp
    have e2 : intsV (S ++ [x]) = intsV S ++ [.int .i64 x] := by simp [intsV]
    show HeldN W' v' (S ++ [x]).length (intsV (S ++ [x])) 3 1 _
    rw [e1, e2]
    refine a3.mono (fun b hb => ?_)
    rcases hb with hb | hb
    · exact hb
    · rw [newCells_next] at hb; omega
  · refine ⟨by rw [a2, newCells_next]; omega, fun b hb hk => ?_⟩
    rw [a4.2 b (by rw [newCells_next]; omega) hk]
    exact hE.2 b (by omega) (fun y => y)
theorem und141 : T0.und.get 141 = some (.slice 4) := by kernel_rfl
theorem z4' : Tryd.t4.zero = some (.bool false) := by kernel_rfl
theorem by4 : Tryd.t4.bytes = 1 := by kernel_rfl
theorem mk141 (W : AW) (n : Nat) (hn : n ≤ 100000) : aMakeSlice T0 W 141 (.int .i64 n) (.int .i64 n) = some (.slice (some ⟨W.next, 0, none⟩) n (2 * n), W.newCells 4 (rep [.bool false] n)) := by
  show aMakeSlice T0 W 141 (.int .i64 (Int.ofNat n)) (.int .i64 (Int.ofNat n)) = _
  have h1 : n ≤ 4611686018427387904 := by omega
  have h2 : Tryd.t4.bytes * n ≤ 281474976710656 := by rw [by4]; omega
  simp only [aMakeSlice, und141, inf4, z4', h1, h2, is4, ble_dec, acells, List.length_cons, List.length_nil, Nat.beq_refl, Nat.le_refl, decide_true]
theorem bs46' (W : AW) (n : Int) : aBuildSlice T0 W 46 1 [(0, .int .i64 n)] = some (.slice (some ⟨W.next, 0, none⟩) 1 2, W.newCells 3 [.int .i64 n]) := by kernel_rfl
theorem only_trans {K : Nat → Prop} {W1 W2 W3 : AW} (h1 : Only K W1 W2) (h2 : Only K W2 W3) : Only K W1 W3 := ⟨Nat.le_trans h1.1 h2.1, fun b hb hk => by rw [h2.2 b (Nat.lt_of_lt_of_le hb h1.1) hk]; exact h1.2 b hb hk⟩
theorem only_ext {K : Nat → Prop} {W1 W2 : AW} (h : Ext W1 W2) : Only K W1 W2 := ⟨h.1, fun b hb _ => h.2 b hb (fun x => x)⟩
open Classical in
theorem refApart_wp {W : AW} {v mv : Value} {P : Int} {s t : Nat} {l : List Tri} {ways : List (List Int)} (h : TriIn W v l) (hm : WaysIn W mv ways) (hok : planOk P (arcsQ l) = true) (hst : two? s t P = true) (hml : ways.length < 4611686018427387904) (hwl : ∀ w ∈ ways, w.length ≤ 900) :
    WpF T0 39 [.agg ⟨[.int .i64 P, v]⟩, .int .i64 s, .int .i64 t, mv] W (fun u W' => Ext W W' ∧ u = .bool (decide (apartW l s t ways))) := by
  obtain ⟨hin, h200, hP2, hP24, _⟩ := arc_ok hok
  refine wpF fun39 rfl ?_
  have h' := h
  obtain ⟨Av, cv, rfl, hA⟩ := h
  obtain ⟨W0, hW0, hE0, hV0⟩ : ∃ W0, W0 = W.newCells 24 [.int .i64 P, .slice Av l.length cv] ∧ Ext W W0 ∧ Var W0 W.next 24 [.int .i64 P, .slice Av l.length cv] := ⟨_, rfl, .newCells _ _ _, Var.new _ _ _⟩
  have l0 : ∀ W', Ext W0 W' → aLoadVar T0 W' 3 W.next 0 = some (.int .i64 P) := fun W' h => (hV0.ext h).load1 (T := T0) und3 rfl (j := 0) (v := .int .i64 P) rfl
  have l24 : ∀ W', Ext W0 W' → aLoadVar T0 W' 24 W.next 0 = some (.agg ⟨[.int .i64 P, .slice Av l.length cv]⟩) := fun W' h => load24 (hV0.ext h)
  have e00 : Ext W0 W0 := .refl _ _
  have hck := refCheck_wp (P : Int) (h'.ext hE0)
  rw [chk, hok] at hck
  have hen : endE P s t = 0 := by simp only [endE, hst, if_true]
  try simp only [wpK_assoc]
  refine wpK_reg (fun R hR => by simp [← hW0]; exact hR) ?_
  try simp only [wpK_assoc]
  refine wpK_x0 (P := fun W1 => Ext W0 W1) (fun R hR => by
    simp [l24, e00, aEnter, fun14, short_other, aCallV]; rw [callS_none]
    refine hck.mono ?_
    rintro _ W1 ⟨e1, rfl⟩
    simp [l0, e1, aEnter, fun18, short_other, aCallV]; rw [callS_none]
    have := refEnds_wp (P : Int) (s : Int) (t : Int) W1
    rw [hen] at this
    refine this.mono ?_
    rintro _ W9 ⟨e9, rfl⟩; subst W9
    simp; exact hR W1 e1) ?_
  rintro W1 hE1
  try simp only [wpK_assoc]
  first | refine wpK_onF (by simp []) ?_ | refine wpK_out (by simp []) ?_ | refine wpK_condF (by simp []) ?_ | refine wpK_endF (by simp []) (wpK_skip ?_) | refine wpK_endF (by simp []) ?_
  have hz := rep_bools l.length
  have hmk := mk141 W1 l.length (by omega)
  rw [← hz] at hmk
  obtain ⟨W2, hW2, hE2, hV2⟩ : ∃ W2, W2 = W1.newCells 4 (usedL l.length []) ∧ Ext W1 W2 ∧ Var W2 W1.next 4 (usedL l.length []) := ⟨_, rfl, .newCells _ _ _, Var.new _ _ _⟩
  rw [← hW2] at hmk
  have l1 : aLoadVar T0 W1 22 W.next 1 = some (.slice Av l.length cv) := (hV0.ext hE1).load1 (T := T0) und22 rfl (j := 1) (v := .slice Av l.length cv) rfl
  try simp only [wpK_assoc]
  refine wpK_reg (fun R hR => by simp [l1, len_slice und22, opMakeSlice, hmk]; exact hR) ?_
  obtain ⟨pu, hpu⟩ : ∃ pu, pu = W1.next := ⟨_, rfl⟩
  have hE12 := hE1.trans hE2
  have hE02 := hE0.trans hE12
  have hpW : ∀ b, b < W.next → ¬ (b = pu) := fun b hb => by have := (hE0.trans hE1).1; omega
  have hpn : W.next ≠ pu := by have := hE1.1; have := hV0.1; omega
  have hpu2 : pu < W2.next := by have := hV2.1; omega
  rw [← hpu] at hV2
  have l22 : ∀ W', Only (fun b => b = pu) W2 W' → aLoadVar T0 W' 22 W.next 1 = some (.slice Av l.length cv) := fun W' ho => ((hV0.ext hE12).only ho (fun x => hpn x)).load1 (T := T0) und22 rfl (j := 1) (v := .slice Av l.length cv) rfl
  have ln : ∀ W', aLen T0 W' 22 (.slice Av l.length cv) = some (.int .i64 l.length) := fun W' => len_slice und22 _ _ _
  have lm : ∀ W', aLen T0 W' 49 mv = some (.int .i64 ways.length) := fun W' => by obtain ⟨Am, cm, hmv⟩ := ways_len hm; rw [hmv]; exact len_slice und49 _ _ _
  have hixq : ∀ q, q < l.length → aIndexAddr T0 141 (.slice (some ⟨pu, 0, none⟩) l.length (2 * l.length)) (.int .i64 (q : Int)) = some (.pointer (some ⟨pu, q, none⟩)) := fun q hq => by
    have := indexAddr_slice (T := T0) und141 sz4 (b := pu) (o := 0) (c := 2 * l.length) (k := .i64) hq
    rwa [Nat.mul_one, Nat.zero_add] at this
  obtain ⟨uv, huv⟩ : ∃ uv, uv = Value.slice (some ⟨pu, 0, none⟩) l.length (2 * l.length) := ⟨_, rfl⟩
  rw [← hpu, ← huv]
  rw [← huv] at hixq
  try simp only [wpK_assoc]
  refine wpK_reg (fun R hR => by simp []; exact hR) ?_
  try simp only [wpK_assoc]
  refine wpK_while (I := fun k A' W' => A'.n = 106 ∧ A'.defers = [] ∧ A'.tmps.get 1 = some (.int .i64 s) ∧ A'.tmps.get 2 = some (.int .i64 t) ∧ A'.tmps.get 3 = some (mv) ∧ A'.tmps.get 4 = some (.pointer (some ⟨W.next, 0, none⟩)) ∧ A'.tmps.get 9 = some (uv) ∧ Only (fun b => b = pu) W2 W' ∧ ∃ (i : Nat), k = ways.length - i ∧ i ≤ ways.length ∧ A'.tmps.get 10 = some (.int .i64 (i : Int)) ∧ Var W' pu 4 (usedL l.length (ways.take i).flatten) ∧ (∀ w ∈ ways.take i, isW l s t w) ∧ (ways.take i).flatten.Nodup)
    (J := fun A' W' => A'.n = 106 ∧ A'.defers = [] ∧ A'.tmps.get 1 = some (.int .i64 s) ∧ A'.tmps.get 2 = some (.int .i64 t) ∧ A'.tmps.get 3 = some (mv) ∧ A'.tmps.get 4 = some (.pointer (some ⟨W.next, 0, none⟩)) ∧ A'.tmps.get 9 = some (uv) ∧ Only (fun b => b = pu) W2 W' ∧ apartW l s t ways)
    (Rt := fun A' W' => A'.defers = [] ∧ Only (fun b => b = pu) W2 W' ∧ A'.tmps.get 8 = some (.bool false) ∧ ¬ apartW l s t ways) (k := ways.length) ?_ ?_ ?_ ?_
  · exact ⟨rfl, rfl, by simp, by simp, by simp, by simp, by simp, .refl _ _, 0, by omega, by omega, by simp, by simpa using hV2, by simp, by simp⟩
  · rintro k ⟨tm, n, ds⟩ W3 ⟨hn, hd, h1, h2, h3, h4, h9, hO3, i, hk, hi, h10, hV3, hall, hnd⟩ Q' hJ hRt hI
    simp only at hn hd h1 h2 h3 h4 h9
    subst hn; subst hd
    simp only at h10
    try simp only [wpK_assoc]
    refine wpK_reg (fun R hR => by simp [h3, h10, lm]; exact hR) ?_
    by_cases hlt : i < ways.length
    case neg =>
      have e : i = ways.length := by omega
      rw [e, List.take_length] at hall hnd
      try simp only [wpK_assoc]
      first | refine wpK_onF (by simp [hlt]) ?_ | refine wpK_out (by simp [hlt]) ?_ | refine wpK_condF (by simp [hlt]) ?_ | refine wpK_endF (by simp [hlt]) (wpK_skip ?_) | refine wpK_endF (by simp [hlt]) ?_
      exact hJ _ _ ⟨rfl, rfl, by simp [h1, h2, h3, h4, h9], by simp [h1, h2, h3, h4, h9], by simp [h1, h2, h3, h4, h9], by simp [h1, h2, h3, h4, h9], by simp [h1, h2, h3, h4, h9], hO3, hall, hnd⟩
    try simp only [wpK_assoc]
    first | refine wpK_onT (by simp [hlt]) ?_ | refine wpK_outT (by simp [hlt]) ?_ | refine wpK_condT (by simp [hlt]) ?_ | refine wpK_endT (by simp [hlt]) ?_
    have hx : ways[i]? = some ways[i] := List.getElem?_eq_getElem hlt
    generalize ways[i] = w at hx
    have hwm := List.mem_of_getElem? hx
    have hw9 := hwl w hwm
    have hOW : ∀ W', Only (fun b => b = pu) W2 W' → Only (fun b => b = pu) W W' := fun W' ho => only_trans (only_ext hE02) ho
    obtain ⟨wv, qb, qo, x1, _, hwI0, hHas⟩ := ways_at hm hx
    have x2 : ∀ W', Only (fun b => b = pu) W2 W' → aLoadVar T0 W' 46 qb qo = some wv := fun W' ho => load_of und46 rfl (hHas.only (hOW W' ho) (hpW _ hHas.1))
    have hwI : ∀ W', Only (fun b => b = pu) W2 W' → IntL W' wv w := fun W' ho => hwI0.only (hOW W' ho) hpW
    have lw : ∀ W', aLen T0 W' 46 wv = some (.int .i64 w.length) := fun W' => by obtain ⟨Aw, cw, hwv⟩ := int_len hwI0; rw [hwv]; exact len_slice und46 _ _ _
    refine wpK_block ?_
    try simp only [wpK_assoc]
    refine wpK_reg (fun R hR => by simp [h1]; exact hR) ?_
    have hb46 := bs46' W3 (s : Int)
    obtain ⟨W4, hW4, hE4, hH4⟩ : ∃ W4, W4 = W3.newCells 3 [.int .i64 (s : Int)] ∧ Ext W3 W4 ∧ HeldI W3 W4 (.slice (some ⟨W3.next, 0, none⟩) 1 2) [(s : Int)] := ⟨_, rfl, .newCells _ _ _, held_new W3 _⟩
    rw [← hW4] at hb46
    try simp only [wpK_assoc]
    refine wpK_reg (fun R hR => by simp [h1, hb46]; exact hR) ?_
    try simp only [wpK_assoc]
    refine wpK_reg (fun R hR => by simp []; exact hR) ?_
    have hn3 := hO3.1
    try simp only [wpK_assoc]
    refine wpK_while (I := fun k A' W' => A'.n = 106 ∧ A'.defers = [] ∧ A'.tmps.get 1 = some (.int .i64 s) ∧ A'.tmps.get 2 = some (.int .i64 t) ∧ A'.tmps.get 3 = some (mv) ∧ A'.tmps.get 4 = some (.pointer (some ⟨W.next, 0, none⟩)) ∧ A'.tmps.get 9 = some (uv) ∧ A'.tmps.get 10 = some (.int .i64 (i : Int)) ∧ Only (fun b => b = pu) W3 W' ∧ ∃ (j : Nat) (p : Int) (seen : List Int) (sv : Value), k = w.length - j ∧ j ≤ w.length ∧ A'.tmps.get 13 = some (.int .i64 (j : Int)) ∧ A'.tmps.get 11 = some (.int .i64 p) ∧ A'.tmps.get 12 = some sv ∧ HeldI W3 W' sv seen ∧ seen.length = j + 1 ∧ walkW l s (w.take j) = some (p, seen) ∧ Var W' pu 4 (usedL l.length ((ways.take i).flatten ++ w.take j)) ∧ ((ways.take i).flatten ++ w.take j).Nodup)
      (J := fun A' W' => A'.n = 106 ∧ A'.defers = [] ∧ A'.tmps.get 1 = some (.int .i64 s) ∧ A'.tmps.get 2 = some (.int .i64 t) ∧ A'.tmps.get 3 = some (mv) ∧ A'.tmps.get 4 = some (.pointer (some ⟨W.next, 0, none⟩)) ∧ A'.tmps.get 9 = some (uv) ∧ A'.tmps.get 10 = some (.int .i64 (i : Int)) ∧ Only (fun b => b = pu) W3 W' ∧ ∃ (p : Int) (seen : List Int), A'.tmps.get 11 = some (.int .i64 p) ∧ walkW l s w = some (p, seen) ∧ Var W' pu 4 (usedL l.length ((ways.take i).flatten ++ w)) ∧ ((ways.take i).flatten ++ w).Nodup)
      (Rt := fun A' W' => A'.defers = [] ∧ Only (fun b => b = pu) W3 W' ∧ A'.tmps.get 8 = some (.bool false) ∧ ¬ apartW l s t ways) (k := w.length) ?_ ?_ ?_ ?_
    · exact ⟨rfl, rfl, by simp [h1, h2, h3, h4, h9, h10], by simp [h1, h2, h3, h4, h9, h10], by simp [h1, h2, h3, h4, h9, h10], by simp [h1, h2, h3, h4, h9, h10], by simp [h1, h2, h3, h4, h9, h10], by simp [h1, h2, h3, h4, h9, h10], only_ext hE4, 0, s, [(s : Int)], _, by omega, by omega, by simp, by simp, by simp, hH4, rfl, rfl, by simpa using hV3.ext hE4, by simpa using hnd⟩
    · rintro k ⟨tm, n, ds⟩ W5 ⟨hn, hd, h1, h2, h3, h4, h9, h10, hO5, j, p, seen, sv, hkj, hj, h13, h11, h12, hH5, hsl, hwk, hV5, hnd5⟩ Q' hJ hRt hI
      simp only at hn hd h1 h2 h3 h4 h9 h10
      subst hn; subst hd
      simp only at h13 h11 h12
      have hO25 := only_trans hO3 hO5
      have y0 := x2 W5 hO25
      try simp only [wpK_assoc]
      refine wpK_reg (fun R hR => by simp [h3, h10, h13, x1, y0, lw]; exact hR) ?_
      by_cases hjl : j < w.length
      case neg =>
        have e : j = w.length := by omega
        rw [e, List.take_length] at hV5 hnd5 hwk
        try simp only [wpK_assoc]
        first | refine wpK_onF (by simp [hjl]) ?_ | refine wpK_out (by simp [hjl]) ?_ | refine wpK_condF (by simp [hjl]) ?_ | refine wpK_endF (by simp [hjl]) (wpK_skip ?_) | refine wpK_endF (by simp [hjl]) ?_
        exact hJ _ _ ⟨rfl, rfl, by simp [h1, h2, h3, h4, h9, h10], by simp [h1, h2, h3, h4, h9, h10], by simp [h1, h2, h3, h4, h9, h10], by simp [h1, h2, h3, h4, h9, h10], by simp [h1, h2, h3, h4, h9, h10], by simp [h1, h2, h3, h4, h9, h10], hO5, p, seen, by simp [h11], hwk, hV5, hnd5⟩
      try simp only [wpK_assoc]
      first | refine wpK_onT (by simp [hjl]) ?_ | refine wpK_outT (by simp [hjl]) ?_ | refine wpK_condT (by simp [hjl]) ?_ | refine wpK_endT (by simp [hjl]) ?_
      have hxa : w[j]? = some w[j] := List.getElem?_eq_getElem hjl
      generalize w[j] = a at hxa
      have hwt := walk_take (l := l) (s := (s : Int)) hxa
      rw [hwk] at hwt
      obtain ⟨zb, zo, z1, z2⟩ := int_at (hwI W5 hO25) hxa
      refine wpK_block ?_
      try simp only [wpK_assoc]
      refine wpK_reg (fun R hR => by simp [h3, h10, h13, x1, y0, z1, z2]; exact hR) ?_
      have l5 := l22 W5 hO25
      by_cases g1 : a < 0
      · try simp only [wpK_assoc]
        refine wpK_reg (fun R hR => by simp [g1, undef]; exact hR) ?_
        try simp only [wpK_assoc]
        first | refine wpK_onT (by simp []) ?_ | refine wpK_outT (by simp []) ?_ | refine wpK_condT (by simp []) ?_ | refine wpK_endT (by simp []) ?_
        try simp only [wpK_assoc]
        refine wpK_reg (fun R hR => by simp []; exact hR) ?_
        rw [stepW_neg g1] at hwt
        exact wpK_ret (hRt _ _ ⟨rfl, hO5, by simp, fun hap => isW_no hwt (hap.1 w hwm)⟩)
      obtain ⟨q, rfl⟩ : ∃ q : Nat, a = q := ⟨a.toNat, by omega⟩
      by_cases g2 : l.length ≤ q
      · have g2' : (l.length : Int) ≤ (q : Int) := by omega
        try simp only [wpK_assoc]
        refine wpK_reg (fun R hR => by simp [h4, g1, g2', l5, ln, undef]; exact hR) ?_
        try simp only [wpK_assoc]
        first | refine wpK_onT (by simp []) ?_ | refine wpK_outT (by simp []) ?_ | refine wpK_condT (by simp []) ?_ | refine wpK_endT (by simp []) ?_
        try simp only [wpK_assoc]
        refine wpK_reg (fun R hR => by simp []; exact hR) ?_
        rw [stepW_far g2] at hwt
        exact wpK_ret (hRt _ _ ⟨rfl, hO5, by simp, fun hap => isW_no hwt (hap.1 w hwm)⟩)
      have g2' : ¬ (l.length : Int) ≤ (q : Int) := by omega
      have hql : q < l.length := by omega
      have hlo := used_load hV5 hql
      have hxq := hixq q hql
      by_cases hu : (q : Int) ∈ (ways.take i).flatten ++ w.take j
      · rw [decide_eq_true hu] at hlo
        try simp only [wpK_assoc]
        refine wpK_reg (fun R hR => by simp [h4, h9, g1, g2', l5, ln, hxq, hlo, undef]; exact hR) ?_
        try simp only [wpK_assoc]
        first | refine wpK_onT (by simp []) ?_ | refine wpK_outT (by simp []) ?_ | refine wpK_condT (by simp []) ?_ | refine wpK_endT (by simp []) ?_
        try simp only [wpK_assoc]
        refine wpK_reg (fun R hR => by simp []; exact hR) ?_
        exact wpK_ret (hRt _ _ ⟨rfl, hO5, by simp, fun hap => not_nodup hx hxa hu hap.2⟩)
      rw [decide_eq_false hu] at hlo
      have he : l[q]? = some (l[q]'(by omega)) := List.getElem?_eq_getElem (by omega)
      generalize l[q]'_ = e at he
      obtain ⟨b, o, hAe, q1, q2, q3⟩ := hA q _ he
      have eV := indexAddr_tri (T := T0) und22 sz78 (b := b) (o := o) (c := cv) (k := .i64) (show q < l.length by omega)
      rw [← hAe] at eV
      have hO5W := hOW W5 hO25
      have la1 := load_of und3 rfl (q1.only hO5W (hpW _ q1.1))
      have la2 := load_of und3 rfl (q2.only hO5W (hpW _ q2.1))
      by_cases g3 : e.1 = p
      case neg =>
        try simp only [wpK_assoc]
        refine wpK_reg (fun R hR => by simp [h4, h9, h11, g1, g2', l5, ln, eV, la1, g3, hxq, hlo, undef]; exact hR) ?_
        try simp only [wpK_assoc]
        first | refine wpK_onT (by simp []) ?_ | refine wpK_outT (by simp []) ?_ | refine wpK_condT (by simp []) ?_ | refine wpK_endT (by simp []) ?_
        try simp only [wpK_assoc]
        refine wpK_reg (fun R hR => by simp []; exact hR) ?_
        rw [stepW_from he g3] at hwt
        exact wpK_ret (hRt _ _ ⟨rfl, hO5, by simp, fun hap => isW_no hwt (hap.1 w hwm)⟩)
      have h50 := has50_wp (hH5.ints (by omega)) (by omega) e.2.1
      by_cases g4 : e.2.1 ∈ seen
      · rw [decide_eq_true g4] at h50
        try simp only [wpK_assoc]
        refine wpK_reg (fun R hR => by
            simp [h4, h9, h11, h12, g1, g2', l5, ln, eV, la1, la2, g3, hxq, hlo, aEnter, fun50, short_other, aCallV]; rw [callS_none]
            refine (h50).mono ?_
            rintro _ W9 ⟨e9, rfl⟩; subst W9
            simp [h4, h9, h11, h12, g1, g2', l5, ln, eV, la1, la2, g3, hxq, hlo]; exact hR) ?_
        try simp only [wpK_assoc]
        first | refine wpK_onT (by simp []) ?_ | refine wpK_outT (by simp []) ?_ | refine wpK_condT (by simp []) ?_ | refine wpK_endT (by simp []) ?_
        try simp only [wpK_assoc]
        refine wpK_reg (fun R hR => by simp []; exact hR) ?_
        rw [stepW_met he g4] at hwt
        exact wpK_ret (hRt _ _ ⟨rfl, hO5, by simp, fun hap => isW_no hwt (hap.1 w hwm)⟩)
      rw [decide_eq_false g4] at h50
      try simp only [wpK_assoc]
      refine wpK_reg (fun R hR => by
          simp [h4, h9, h11, h12, g1, g2', l5, ln, eV, la1, la2, g3, hxq, hlo, aEnter, fun50, short_other, aCallV]; rw [callS_none]
          refine (h50).mono ?_
          rintro _ W9 ⟨e9, rfl⟩; subst W9
          simp [h4, h9, h11, h12, g1, g2', l5, ln, eV, la1, la2, g3, hxq, hlo]; exact hR) ?_
      try simp only [wpK_assoc]
      first | refine wpK_onF (by simp []) ?_ | refine wpK_out (by simp []) ?_ | refine wpK_condF (by simp []) ?_ | refine wpK_endF (by simp []) (wpK_skip ?_) | refine wpK_endF (by simp []) ?_
      rw [stepW_ok he g3 g4] at hwt
      obtain ⟨W6, s1, s2, s3, s4⟩ := used_store hV5 hql
      try simp only [wpK_assoc]
      refine wpK_reg (fun R hR => by simp [h9, hxq, s1]; exact hR) ?_
      have hO26 := only_trans hO25 s3
      have l6 := l22 W6 hO26
      have hO6W := hOW W6 hO26
      have la2 := load_of und3 rfl (q2.only hO6W (hpW _ q2.1))
      try simp only [wpK_assoc]
      refine wpK_reg (fun R hR => by simp [h4, l6, eV, la2]; exact hR) ?_
      have hpu3 : pu < W3.next := by omega
      have hH6 : HeldI W3 W6 sv seen := HeldN.only hH5 s3 (fun b hb hk x => by omega)
      obtain ⟨sv', W7, a1, a2, a3⟩ := hH6.push2 (by have := hO5.1; have := s3.1; omega) (by omega) e.2.1
      have hb6 := bs46' W6 e.2.1
      try simp only [wpK_assoc]
      refine wpK_reg1 (fun R hR => by simp [h12, hb6, a1]; exact hR) ?_
      have etk : (ways.take i).flatten ++ w.take j ++ [(q : Int)] = (ways.take i).flatten ++ w.take (j + 1) := by rw [List.take_add_one, hxa]; simp
      rw [etk] at s4
      have s5 := s4.only a3 (by omega)
      simp only [leaves_normal, behind_normal]
      try simp only [wpK_assoc]
      refine wpK_reg1 (fun R hR => by simp [h13]; exact hR) ?_
      exact hI (w.length - (j + 1)) _ _ (by omega) ⟨rfl, rfl, by simp [h1, h2, h3, h4, h9, h10], by simp [h1, h2, h3, h4, h9, h10], by simp [h1, h2, h3, h4, h9, h10], by simp [h1, h2, h3, h4, h9, h10], by simp [h1, h2, h3, h4, h9, h10], by simp [h1, h2, h3, h4, h9, h10], ⟨by have := hO5.1; have := s3.1; have := a3.1; omega, fun b hb hk => by rw [a3.2 b (by have := hO5.1; have := s3.1; omega) (by omega), s3.2 b (by have := hO5.1; omega) hk]; exact hO5.2 b hb hk⟩, j + 1, e.2.1, seen ++ [e.2.1], sv', rfl, by omega, by simp [i64_succ j (by omega)], by simp, by simp, a2, by simp [hsl], hwt, s5, by
        rw [← etk]
        exact List.nodup_append.2 ⟨hnd5, by simp, fun x hx y hy e => by simp at hy; subst hy; subst e; exact hu hx⟩⟩
    · rintro A' W' ⟨hd, hO, h8, hne⟩
      exact hRt _ _ ⟨hd, only_trans hO3 hO, h8, hne⟩
    · rintro ⟨tm, n, ds⟩ W5 ⟨hn, hd, h1, h2, h3, h4, h9, h10, hO5, p, seen, h11, hwk, hV5, hnd5⟩
      simp only at hn hd h1 h2 h3 h4 h9 h10
      subst hn; subst hd
      simp only at h11
      by_cases hpt : p = (t : Int)
      case neg =>
        try simp only [wpK_assoc]
        refine wpK_reg (fun R hR => by simp [h2, h11, hpt]; exact hR) ?_
        try simp only [wpK_assoc]
        first | refine wpK_onT (by simp [hpt]) ?_ | refine wpK_outT (by simp [hpt]) ?_ | refine wpK_condT (by simp [hpt]) ?_ | refine wpK_endT (by simp [hpt]) ?_
        try simp only [wpK_assoc]
        refine wpK_reg (fun R hR => by simp []; exact hR) ?_
        exact wpK_ret (hRt _ _ ⟨rfl, only_trans hO3 hO5, by simp, fun hap => by
          obtain ⟨sn, hh⟩ := hap.1 w hwm
          rw [hwk] at hh; cases hh; exact hpt rfl⟩)
      subst hpt
      try simp only [wpK_assoc]
      refine wpK_reg (fun R hR => by simp [h2, h11]; exact hR) ?_
      try simp only [wpK_assoc]
      first | refine wpK_onF (by simp []) ?_ | refine wpK_out (by simp []) ?_ | refine wpK_condF (by simp []) ?_ | refine wpK_endF (by simp []) (wpK_skip ?_) | refine wpK_endF (by simp []) ?_
      simp only [leaves_normal, behind_normal]
      try simp only [wpK_assoc]
      refine wpK_reg1 (fun R hR => by simp [h10]; exact hR) ?_
      rw [← flat_snoc hx] at hV5 hnd5
      exact hI (ways.length - (i + 1)) _ _ (by omega) ⟨rfl, rfl, by simp [h1, h2, h3, h4, h9], by simp [h1, h2, h3, h4, h9], by simp [h1, h2, h3, h4, h9], by simp [h1, h2, h3, h4, h9], by simp [h1, h2, h3, h4, h9], only_trans hO3 hO5, i + 1, rfl, by omega, by simp [i64_succ i (by omega)], hV5, fun w' hw' => by
        rw [List.take_add_one, hx] at hw'
        simp only [Option.toList_some, List.mem_append, List.mem_singleton] at hw'
        rcases hw' with hw' | rfl
        · exact hall w' hw'
        · exact ⟨seen, hwk⟩, hnd5⟩
  · rintro A' W' ⟨hd, hO, h8, hne⟩
    exact ⟨.inr rfl, hd, [.bool false], by simp [h8], ⟨by have := hE02.1; have := hO.1; omega, fun b hb hk => by rw [hO.2 b (by have := hE02.1; omega) (hpW b hb)]; exact hE02.2 b hb (fun x => x)⟩, by rw [decide_eq_false hne]; rfl⟩
  · rintro ⟨tm, n, ds⟩ W3 ⟨hn, hd, h1, h2, h3, h4, h9, hO, hap⟩
    simp only at hn hd h1 h2 h3 h4 h9
    subst hn; subst hd
    try simp only [wpK_assoc]
    refine wpK_reg (fun R hR => by simp []; exact hR) ?_
    exact wpK_ret ⟨.inr rfl, rfl, [.bool true], by simp, ⟨by have := hE02.1; have := hO.1; omega, fun b hb hk => by rw [hO.2 b (by have := hE02.1; omega) (hpW b hb)]; exact hE02.2 b hb (fun x => x)⟩, by rw [decide_eq_true hap]; rfl⟩
end Go.Proofs.YtkgfjfkgmpeobaaDoor

open Go Go.Eng
namespace Go.Proofs.YtkgfjfkgmpeobaaDoor
attribute [local congr] undef_congr WpK.congr WpS.congr WpL.congr WpC.congr WpF.congr gotS.congr callS.congr nextS.congr wantS.congr condS.congr
attribute [local irreducible] WpK
attribute [local simp] WpDr_nil WpDr_cons atS_some dwantS_true dwantS_false kindS_light kindS_float kindS_heavy lightS_value floatS_some heavyS_value heavyS_skip heavyS_enter dcallS_some doneS_eq
  isLight isFloat isPlain dLook testBit_dec dChain dLights_nil dLights_skip dLights_one dLight_nil dLight_cons dFreshes_nil dFreshes_one oneF_none oneF_some dFresh_nil dFresh_cons oneL_some oneW_true oneW_false sameV_value dPut dMay valEq arrEq listEq List.getElem?_cons Tr.get_nil dEnd
attribute [local simp] WpS_nil WpS_cons isDefer undef_false wantS_true wantS_false nextS_value nextS_skip nextS_enter callS_some gotS_some aWanted aOp aEvalF aEval opMove opAssign opPick aVal flat flat1 AAct.put opBinOp opConvert opIndex Tr.get_set Tr.get_lay aBin aResults tupled
  aCall aVals aCallB blt_dec ble_dec beq_dec aBinI_add aBinI_sub aBinI_lss aBinI_leq aBinI_gtr aBinI_geq aBinI_eql aBinI_neq index_str len_str len_slice Nat.beq_refl und2 und3 und4 und5 und39 und76 und82 und115 und22 und29 und25 und33 und46 und43 und49 und111 und113 field151 field155_0 field155_1 field155_2 field155_3 field155_4
  field78 field106 field24 field31 field27 field35 field108 field109 opBox opLoad opFieldAddr opIndexAddr acells aAddr opExtract aExtract opUnOp opAlloc opStore opMakeInterface opNilCheck opBuild aParts opBuildSlice aValW
set_option maxHeartbeats 4000000
set_option linter.unusedSimpArgs false
set_option linter.unusedVariables false
structure InT (T : Nat) (S : List Int) : Prop where
  nd : S.Nodup
  in_ : ∀ y ∈ S, (0 ≤ y ∧ y < ((24 : Nat) : Int)) ∧ T.testBit y.toNat = true
theorem InT.len {T : Nat} {S : List Int} (h : InT T S) : S.length ≤ 24 := by
  obtain ⟨T', _, h2⟩ := set_of 24 S h.nd (fun y hy => (h.in_ y hy).1)
  rw [← h2]; exact cntB_max T' 24
theorem InT.add {T : Nat} {S : List Int} (h : InT T S) {y : Int} (hn : y ∉ S) (h1 : 0 ≤ y ∧ y < 24) (h2 : T.testBit y.toNat = true) : InT T (S ++ [y]) where
  nd := List.nodup_append.2 ⟨h.nd, by simp, fun a ha b hb e => by rw [List.mem_singleton] at hb; subst hb; subst e; exact hn ha⟩
  in_ z hz := by
    rcases List.mem_append.1 hz with hz | hz
    · exact h.in_ z hz
    · rw [List.mem_singleton] at hz; subst hz; exact ⟨by omega, h2⟩
def Cuts (T : Nat) (l : List Tri) (arcs : List Int) : Prop := ∀ (i : Nat) e, l[i]? = some e → T.testBit e.1.toNat = true → T.testBit e.2.1.toNat = false → (i : Int) ∈ arcs
theorem refReaches_wp {W : AW} {v av : Value} {P : Int} {s t T : Nat} {l : List Tri} {arcs : List Int} (h : TriIn W v l) (ha : IntL W av arcs) (hin : ArcIn l) (h200 : l.length ≤ 200) (hs : s < 24) (hal : arcs.length < 4611686018427387904) (hTs : T.testBit s = true) (hTt : T.testBit t = false) (hcut : Cuts T l arcs) :
    WpF T0 40 [.agg ⟨[.int .i64 P, v]⟩, .int .i64 s, .int .i64 t, av] W (fun u W' => Ext W W' ∧ u = .bool false) := by
  obtain ⟨Av, cv, rfl, hA⟩ := h
  refine wpF fun40 rfl ?_
  obtain ⟨W0, hW0, hE0, hV0⟩ : ∃ W0, W0 = W.newCells 24 [.int .i64 P, .slice Av l.length cv] ∧ Ext W W0 ∧ Var W0 W.next 24 [.int .i64 P, .slice Av l.length cv] := ⟨_, rfl, .newCells _ _ _, Var.new _ _ _⟩
  have l22 : ∀ W', Ext W0 W' → aLoadVar T0 W' 22 W.next 1 = some (.slice Av l.length cv) := fun W' h => (hV0.ext h).load1 (T := T0) und22 rfl (j := 1) (v := .slice Av l.length cv) rfl
  have ln : ∀ W', aLen T0 W' 22 (.slice Av l.length cv) = some (.int .i64 l.length) := fun W' => len_slice und22 _ _ _
  try simp only [wpK_assoc]
  refine wpK_reg (fun R hR => by simp [← hW0]; exact hR) ?_
  obtain ⟨W1, hW1, hE1, hH1⟩ : ∃ W1, W1 = W0.newCells 3 [.int .i64 (s : Int)] ∧ Ext W0 W1 ∧ HeldI W0 W1 (.slice (some ⟨W0.next, 0, none⟩) 1 2) [(s : Int)] := ⟨_, rfl, .newCells _ _ _, held_new W0 _⟩
  have hb0 := bs46' W0 (s : Int)
  rw [← hW1] at hb0
  try simp only [wpK_assoc]
  refine wpK_reg (fun R hR => by simp [hb0]; exact hR) ?_
  try simp only [wpK_assoc]
  refine wpK_reg (fun R hR => by simp []; exact hR) ?_
  try simp only [wpK_assoc]
  refine wpK_while (I := fun k B W' => B.n = 67 ∧ B.defers = [] ∧ B.tmps.get 2 = some (.int .i64 t) ∧ B.tmps.get 3 = some (av) ∧ B.tmps.get 4 = some (.pointer (some ⟨W.next, 0, none⟩)) ∧ Ext W0 W' ∧ ∃ (i : Nat) (u : Value) (S : List Int), k = 24 - i ∧ i ≤ S.length ∧ B.tmps.get 10 = some (.int .i64 (i : Int)) ∧ B.tmps.get 9 = some u ∧ HeldI W0 W' u S ∧ InT T S ∧ 0 < S.length)
    (J := fun B W' => B.n = 67 ∧ B.defers = [] ∧ B.tmps.get 2 = some (.int .i64 t) ∧ B.tmps.get 3 = some (av) ∧ B.tmps.get 4 = some (.pointer (some ⟨W.next, 0, none⟩)) ∧ Ext W0 W' ∧ ∃ (u : Value) (S : List Int), B.tmps.get 9 = some u ∧ HeldI W0 W' u S ∧ InT T S ∧ 0 < S.length) (Rt := fun _ _ => False) (k := 24) ?_ ?_ ?_ ?_
  · exact ⟨rfl, rfl, by simp, by simp, by simp, hE1, 0, _, [(s : Int)], by simp, by simp, by simp, by simp, hH1, ⟨by simp, fun y hy => by simp at hy; subst hy; exact ⟨by omega, by simpa using hTs⟩⟩, by simp⟩
  · rintro k ⟨tm, n, ds⟩ W3 ⟨hn, hd, h2, h3, h4, e3, i, u, S, hk, hi, h10, h9, hH, hS, hp⟩ Q' hJ hRt hI
    simp only at hn hd h2 h3 h4
    subst hn; subst hd
    simp only at h10 h9
    have hSn := hS.len
    obtain ⟨bb, cc, hu, hbn, hHas⟩ := hH.has hp
    have lu : ∀ W', aLen T0 W' 46 u = some (.int .i64 S.length) := fun W' => by rw [hu]; exact len_slice und46 _ _ _
    try simp only [wpK_assoc]
    refine wpK_reg (fun R hR => by simp [h9, h10, lu]; exact hR) ?_
    by_cases hlt : i < S.length
    case neg =>
      try simp only [wpK_assoc]
      first | refine wpK_onF (by simp [hlt]) ?_ | refine wpK_out (by simp [hlt]) ?_ | refine wpK_condF (by simp [hlt]) ?_ | refine wpK_endF (by simp [hlt]) (wpK_skip ?_) | refine wpK_endF (by simp [hlt]) ?_
      exact hJ _ _ ⟨rfl, rfl, by simp [h2, h3, h4], by simp [h2, h3, h4], by simp [h2, h3, h4], e3, u, S, by simp [h9], hH, hS, hp⟩
    try simp only [wpK_assoc]
    first | refine wpK_onT (by simp [hlt]) ?_ | refine wpK_outT (by simp [hlt]) ?_ | refine wpK_condT (by simp [hlt]) ?_ | refine wpK_endT (by simp [hlt]) ?_
    have hyi : S[i]? = some S[i] := List.getElem?_eq_getElem hlt
    generalize S[i] = y at hyi
    refine wpK_block ?_
    try simp only [wpK_assoc]
    refine wpK_reg (fun R hR => by simp []; exact hR) ?_
    try simp only [wpK_assoc]
    refine wpK_while1 (I := fun k B W' => B.n = 67 ∧ B.defers = [] ∧ B.tmps.get 2 = some (.int .i64 t) ∧ B.tmps.get 3 = some (av) ∧ B.tmps.get 4 = some (.pointer (some ⟨W.next, 0, none⟩)) ∧ B.tmps.get 10 = some (.int .i64 (i : Int)) ∧ Ext W0 W' ∧ ∃ (j : Nat) (u : Value) (S : List Int), k = l.length - j ∧ j ≤ l.length ∧ B.tmps.get 11 = some (.int .i64 (j : Int)) ∧ B.tmps.get 9 = some u ∧ HeldI W0 W' u S ∧ InT T S ∧ S[i]? = some y)
      (J := fun B W' => B.n = 67 ∧ B.defers = [] ∧ B.tmps.get 2 = some (.int .i64 t) ∧ B.tmps.get 3 = some (av) ∧ B.tmps.get 4 = some (.pointer (some ⟨W.next, 0, none⟩)) ∧ B.tmps.get 10 = some (.int .i64 (i : Int)) ∧ Ext W0 W' ∧ ∃ (u : Value) (S : List Int), B.tmps.get 9 = some u ∧ HeldI W0 W' u S ∧ InT T S ∧ S[i]? = some y) (Rt := fun _ _ => False) (k := l.length) ?_ ?_ ?_ ?_
    · exact ⟨rfl, rfl, by simp [h2, h3, h4, h10], by simp [h2, h3, h4, h10], by simp [h2, h3, h4, h10], by simp [h2, h3, h4, h10], e3, 0, u, S, by simp, by omega, by simp, by simp [h9], hH, hS, hyi⟩
    · clear hH hS hyi hHas hu lu hlt hbn h9 hSn hi hp
      rintro kk ⟨tm, n, ds⟩ W4 ⟨hn, hd, h2, h3, h4, h10, e4, j, u, S, hkk, hj, h11, h9, hH, hS, hyi⟩ Q3 hJ3 hRt3 hI3
      simp only at hn hd h2 h3 h4 h10
      subst hn; subst hd
      simp only at h11 h9
      have iS : i < S.length := (List.getElem?_eq_some_iff.1 hyi).1
      have hSn := hS.len
      try simp only [wpK_assoc]
      refine wpK_reg (fun R hR => by simp [h4, h11, l22, e4, ln]; exact hR) ?_
      by_cases hltj : j < l.length
      case neg =>
        try simp only [wpK_assoc]
        first | refine wpK_onF (by simp [hltj]) ?_ | refine wpK_out (by simp [hltj]) ?_ | refine wpK_condF (by simp [hltj]) ?_ | refine wpK_endF (by simp [hltj]) (wpK_skip ?_) | refine wpK_endF (by simp [hltj]) ?_
        exact hJ3 _ _ ⟨rfl, rfl, by simp [h2, h3, h4, h10], by simp [h2, h3, h4, h10], by simp [h2, h3, h4, h10], by simp [h2, h3, h4, h10], e4, u, S, by simp [h9], hH, hS, hyi⟩
      try simp only [wpK_assoc]
      first | refine wpK_onT (by simp [hltj]) ?_ | refine wpK_outT (by simp [hltj]) ?_ | refine wpK_condT (by simp [hltj]) ?_ | refine wpK_endT (by simp [hltj]) ?_
      have he : l[j]? = some l[j] := List.getElem?_eq_getElem hltj
      generalize l[j] = e at he
      obtain ⟨b, o, hAe, q1, q2, q3⟩ := hA j _ he
      have eV := indexAddr_tri (T := T0) und22 sz78 (b := b) (o := o) (c := cv) (k := .i64) hltj
      rw [← hAe] at eV
      have l1 : ∀ W', Ext W0 W' → aLoadVar T0 W' 3 b (o + 3 * j) = some (.int .i64 e.1) := fun W' hx => load_of und3 rfl (q1.ext (hE0.trans hx))
      have l2 : ∀ W', Ext W0 W' → aLoadVar T0 W' 3 b (o + 3 * j + 1) = some (.int .i64 e.2.1) := fun W' hx => load_of und3 rfl (q2.ext (hE0.trans hx))
      obtain ⟨bb, cc, hu, hbn, hHas⟩ := hH.has (by omega)
      have eU := indexAddr_slice (T := T0) und46 sz3 (b := bb) (o := 0) (c := cc) (k := .i64) iS
      rw [Nat.mul_one, Nat.zero_add, ← hu] at eU
      have lU := load_of und3 rfl (hHas i y hyi)
      have h50a := has50_wp (ha.ext (hE0.trans e4)) hal (j : Int)
      have h50b := has50_wp (hH.ints (by omega)) (by omega) e.2.1
      obtain ⟨i1, i2, i3, i4⟩ := hin e (List.mem_of_getElem? he)
      refine wpK_block ?_
      by_cases c1 : e.1 = y
      case neg =>
        try simp only [wpK_assoc]
        refine wpK_dn (wr := Tr.nil |>.set 27 0 |>.set 28 1 |>.set 29 2 |>.set 30 3 |>.set 31 4 |>.set 32 5 |>.set 33 6 |>.set 34 7 |>.set 35 8 |>.set 36 9 |>.set 37 10 |>.set 38 11 |>.set 39 12 |>.set 40 13 |>.set 41 14 |>.set 42 15 |>.set 43 16 |>.set 44 17 |>.set 45 18 |>.set 46 19 |>.set 47 20 |>.set 48 21 |>.set 49 22 |>.set 50 23 |>.set 51 24 |>.set 52 25 |>.set 53 26 |>.set 54 27) (bits := Tr.nil.lay 0 [0, 1, 0, 7, 15, 31, 0, 0, 192, 448, 1023, 2047, 4095, 4095, 16383, 32767, 65535, 131071, 262143, 262143, 786431, 262143, 3932159, 8126463, 16515071, 33554431, 67108863, 134217727]) (ord := [0, 1, 2, 3, 4, 5, 6, 7, 8, 9, 10, 11, 12, 13, 14, 15, 16, 17, 18, 19, 20, 21, 22, 23, 24, 25, 26, 27]) (by kernel_rfl) (by kernel_rfl) (by kernel_rfl) (fun G hG => by
          simp [h4, h9, h10, h11, eV, l22, l1, e4, eU, lU, c1, undef]
          exact hG) ?_
        refine wpK_endF (by simp) (wpK_skip ?_)
        simp only [leaves_normal, behind_normal]
        try simp only [wpK_assoc]
        refine wpK_reg1 (fun R hR => by simp [h11]; exact hR) ?_
        exact hI3 (l.length - (j + 1)) _ _ (by omega) ⟨rfl, rfl, by simp [h2, h3, h4, h10], by simp [h2, h3, h4, h10], by simp [h2, h3, h4, h10], by simp [h2, h3, h4, h10], e4, j + 1, u, S, rfl, by omega, by simp [i64_succ j (by omega)], by simp [h9], hH, hS, hyi⟩
      have hTy : T.testBit e.1.toNat = true := by rw [c1]; exact (hS.in_ y (List.mem_of_getElem? hyi)).2
      by_cases c2 : (j : Int) ∈ arcs
      · rw [decide_eq_true c2] at h50a
        try simp only [wpK_assoc]
        refine wpK_dn (wr := Tr.nil |>.set 27 0 |>.set 28 1 |>.set 29 2 |>.set 30 3 |>.set 31 4 |>.set 32 5 |>.set 33 6 |>.set 34 7 |>.set 35 8 |>.set 36 9 |>.set 37 10 |>.set 38 11 |>.set 39 12 |>.set 40 13 |>.set 41 14 |>.set 42 15 |>.set 43 16 |>.set 44 17 |>.set 45 18 |>.set 46 19 |>.set 47 20 |>.set 48 21 |>.set 49 22 |>.set 50 23 |>.set 51 24 |>.set 52 25 |>.set 53 26 |>.set 54 27) (bits := Tr.nil.lay 0 [0, 1, 0, 7, 15, 31, 0, 0, 192, 448, 1023, 2047, 4095, 4095, 16383, 32767, 65535, 131071, 262143, 262143, 786431, 262143, 3932159, 8126463, 16515071, 33554431, 67108863, 134217727]) (ord := [0, 1, 2, 3, 4, 5, 6, 7, 8, 9, 10, 11, 12, 13, 14, 15, 16, 17, 18, 19, 20, 21, 22, 23, 24, 25, 26, 27]) (by kernel_rfl) (by kernel_rfl) (by kernel_rfl) (fun G hG => by
          simp [h3, h4, h9, h10, h11, eV, l22, l1, e4, eU, lU, c1, aEnter, fun50, short_other, aCallV]
          rw [dcallS_none]
          refine h50a.mono ?_
          rintro _ W9 ⟨e9, rfl⟩; subst W9
          simp [h3, h4, h9, h10, h11, eV, l22, l1, e4, eU, lU, c1, undef]
          exact hG) ?_
        refine wpK_endF (by simp) (wpK_skip ?_)
        simp only [leaves_normal, behind_normal]
        try simp only [wpK_assoc]
        refine wpK_reg1 (fun R hR => by simp [h11]; exact hR) ?_
        exact hI3 (l.length - (j + 1)) _ _ (by omega) ⟨rfl, rfl, by simp [h2, h3, h4, h10], by simp [h2, h3, h4, h10], by simp [h2, h3, h4, h10], by simp [h2, h3, h4, h10], e4, j + 1, u, S, rfl, by omega, by simp [i64_succ j (by omega)], by simp [h9], hH, hS, hyi⟩
      rw [decide_eq_false c2] at h50a
      have hTz : T.testBit e.2.1.toNat = true := by
        cases hb : T.testBit e.2.1.toNat with
        | true => rfl
        | false => exact absurd (hcut j e he hTy hb) c2
      by_cases c3 : e.2.1 ∈ S
      · rw [decide_eq_true c3] at h50b
        try simp only [wpK_assoc]
        refine wpK_dn (wr := Tr.nil |>.set 27 0 |>.set 28 1 |>.set 29 2 |>.set 30 3 |>.set 31 4 |>.set 32 5 |>.set 33 6 |>.set 34 7 |>.set 35 8 |>.set 36 9 |>.set 37 10 |>.set 38 11 |>.set 39 12 |>.set 40 13 |>.set 41 14 |>.set 42 15 |>.set 43 16 |>.set 44 17 |>.set 45 18 |>.set 46 19 |>.set 47 20 |>.set 48 21 |>.set 49 22 |>.set 50 23 |>.set 51 24 |>.set 52 25 |>.set 53 26 |>.set 54 27) (bits := Tr.nil.lay 0 [0, 1, 0, 7, 15, 31, 0, 0, 192, 448, 1023, 2047, 4095, 4095, 16383, 32767, 65535, 131071, 262143, 262143, 786431, 262143, 3932159, 8126463, 16515071, 33554431, 67108863, 134217727]) (ord := [0, 1, 2, 3, 4, 5, 6, 7, 8, 9, 10, 11, 12, 13, 14, 15, 16, 17, 18, 19, 20, 21, 22, 23, 24, 25, 26, 27]) (by kernel_rfl) (by kernel_rfl) (by kernel_rfl) (fun G hG => by
          simp [h3, h4, h9, h10, h11, eV, l22, l1, l2, e4, eU, lU, c1, aEnter, fun50, short_other, aCallV]
          rw [dcallS_none]
          refine h50a.mono ?_
          rintro _ W9 ⟨e9, rfl⟩; subst W9
          simp [h3, h4, h9, h10, h11, eV, l22, l1, l2, e4, eU, lU, c1, aEnter, fun50, short_other, aCallV]
          rw [dcallS_none]
          refine h50b.mono ?_
          rintro _ W9 ⟨e9, rfl⟩; subst W9
          simp [h3, h4, h9, h10, h11, eV, l22, l1, l2, e4, eU, lU, c1]
          exact hG) ?_
        refine wpK_endF (by simp) (wpK_skip ?_)
        simp only [leaves_normal, behind_normal]
        try simp only [wpK_assoc]
        refine wpK_reg1 (fun R hR => by simp [h11]; exact hR) ?_
        exact hI3 (l.length - (j + 1)) _ _ (by omega) ⟨rfl, rfl, by simp [h2, h3, h4, h10], by simp [h2, h3, h4, h10], by simp [h2, h3, h4, h10], by simp [h2, h3, h4, h10], e4, j + 1, u, S, rfl, by omega, by simp [i64_succ j (by omega)], by simp [h9], hH, hS, hyi⟩
      rw [decide_eq_false c3] at h50b
      try simp only [wpK_assoc]
      refine wpK_dn (wr := Tr.nil |>.set 27 0 |>.set 28 1 |>.set 29 2 |>.set 30 3 |>.set 31 4 |>.set 32 5 |>.set 33 6 |>.set 34 7 |>.set 35 8 |>.set 36 9 |>.set 37 10 |>.set 38 11 |>.set 39 12 |>.set 40 13 |>.set 41 14 |>.set 42 15 |>.set 43 16 |>.set 44 17 |>.set 45 18 |>.set 46 19 |>.set 47 20 |>.set 48 21 |>.set 49 22 |>.set 50 23 |>.set 51 24 |>.set 52 25 |>.set 53 26 |>.set 54 27) (bits := Tr.nil.lay 0 [0, 1, 0, 7, 15, 31, 0, 0, 192, 448, 1023, 2047, 4095, 4095, 16383, 32767, 65535, 131071, 262143, 262143, 786431, 262143, 3932159, 8126463, 16515071, 33554431, 67108863, 134217727]) (ord := [0, 1, 2, 3, 4, 5, 6, 7, 8, 9, 10, 11, 12, 13, 14, 15, 16, 17, 18, 19, 20, 21, 22, 23, 24, 25, 26, 27]) (by kernel_rfl) (by kernel_rfl) (by kernel_rfl) (fun G hG => by
        simp [h3, h4, h9, h10, h11, eV, l22, l1, l2, e4, eU, lU, c1, aEnter, fun50, short_other, aCallV]
        rw [dcallS_none]
        refine h50a.mono ?_
        rintro _ W9 ⟨e9, rfl⟩; subst W9
        simp [h3, h4, h9, h10, h11, eV, l22, l1, l2, e4, eU, lU, c1, aEnter, fun50, short_other, aCallV]
        rw [dcallS_none]
        refine h50b.mono ?_
        rintro _ W9 ⟨e9, rfl⟩; subst W9
        simp [h3, h4, h9, h10, h11, eV, l22, l1, l2, e4, eU, lU, c1]
        exact hG) ?_
      try simp only [wpK_assoc]
      first | refine wpK_onT (by simp []) ?_ | refine wpK_outT (by simp []) ?_ | refine wpK_condT (by simp []) ?_ | refine wpK_endT (by simp []) ?_
      obtain ⟨w', W8, p1, p2, p3⟩ := hH.push e4 (by omega) e.2.1
      have hb8 := bs46' W4 e.2.1
      try simp only [wpK_assoc]
      refine wpK_reg1 (fun R hR => by simp [h4, h9, h11, eV, l22, l2, e4, hb8, p1]; exact hR) ?_
      simp only [leaves_normal, behind_normal]
      try simp only [wpK_assoc]
      refine wpK_reg1 (fun R hR => by simp [h11]; exact hR) ?_
      exact hI3 (l.length - (j + 1)) _ _ (by omega) ⟨rfl, rfl, by simp [h2, h3, h4, h10], by simp [h2, h3, h4, h10], by simp [h2, h3, h4, h10], by simp [h2, h3, h4, h10], p3, j + 1, w', S ++ [e.2.1], rfl, by omega, by simp [i64_succ j (by omega)], by simp, p2, hS.add c3 ⟨i3, i4⟩ hTz, by rw [List.getElem?_append_left iS]; exact hyi⟩
    · rintro A' W' hf; exact hf.elim
    · rintro ⟨tm, n, ds⟩ W6 ⟨hn, hd, h2, h3, h4, h10, e6, u', S', h9', hH', hS', hyi'⟩
      simp only at hn hd h2 h3 h4 h10
      subst hn; subst hd
      simp only at h9'
      have iS : i < S'.length := (List.getElem?_eq_some_iff.1 hyi').1
      have hSn' := hS'.len
      simp only [leaves_normal, behind_normal]
      try simp only [wpK_assoc]
      refine wpK_reg1 (fun R hR => by simp [h10]; exact hR) ?_
      exact hI (24 - (i + 1)) _ _ (by omega) ⟨rfl, rfl, by simp [h2, h3, h4], by simp [h2, h3, h4], by simp [h2, h3, h4], e6, i + 1, u', S', rfl, by omega, by simp [i64_succ i (by omega)], by simp [h9'], hH', hS', by omega⟩
  · rintro A' W' hf; exact hf.elim
  · rintro ⟨tm, n, ds⟩ W3 ⟨hn, hd, h2, h3, h4, e3, u, S, h9, hH, hS, hp⟩
    simp only at hn hd h2 h3 h4
    subst hn; subst hd
    simp only at h9
    have h50 := has50_wp (hH.ints hp) (by have := hS.len; omega) (t : Int)
    have hn : (t : Int) ∉ S := fun hm => by
      have := (hS.in_ _ hm).2
      rw [Int.toNat_natCast, hTt] at this; cases this
    rw [decide_eq_false hn] at h50
    try simp only [wpK_assoc]
    refine wpK_reg (fun R hR => by
        simp [h2, h9, aEnter, fun50, short_other, aCallV]; rw [callS_none]
        refine (h50).mono ?_
        rintro _ W9 ⟨e9, rfl⟩; subst W9
        simp [h2, h9]; exact hR) ?_
    exact wpK_ret ⟨.inr rfl, rfl, [.bool false], by simp, hE0.trans e3, rfl⟩
end Go.Proofs.YtkgfjfkgmpeobaaDoor

open Go Go.Eng
namespace Go.Proofs.YtkgfjfkgmpeobaaDoor
attribute [local congr] undef_congr WpK.congr WpS.congr WpL.congr WpC.congr WpF.congr gotS.congr callS.congr nextS.congr wantS.congr condS.congr
attribute [local irreducible] WpK
attribute [local simp] WpDr_nil WpDr_cons atS_some dwantS_true dwantS_false kindS_light kindS_float kindS_heavy lightS_value floatS_some heavyS_value heavyS_skip heavyS_enter dcallS_some doneS_eq
  isLight isFloat isPlain dLook testBit_dec dChain dLights_nil dLights_skip dLights_one dLight_nil dLight_cons dFreshes_nil dFreshes_one oneF_none oneF_some dFresh_nil dFresh_cons oneL_some oneW_true oneW_false sameV_value dPut dMay valEq arrEq listEq List.getElem?_cons Tr.get_nil dEnd
attribute [local simp] WpS_nil WpS_cons isDefer undef_false wantS_true wantS_false nextS_value nextS_skip nextS_enter callS_some gotS_some aWanted aOp aEvalF aEval opMove opAssign opPick aVal flat flat1 AAct.put opBinOp opConvert opIndex Tr.get_set Tr.get_lay aBin aResults tupled
  aCall aVals aCallB blt_dec ble_dec beq_dec aBinI_add aBinI_sub aBinI_lss aBinI_leq aBinI_gtr aBinI_geq aBinI_eql aBinI_neq index_str len_str len_slice Nat.beq_refl und2 und3 und4 und5 und39 und76 und82 und115 und22 und29 und25 und33 und46 und43 und49 und111 und113 field151 field155_0 field155_1 field155_2 field155_3 field155_4
  field78 field106 field24 field31 field27 field35 field108 field109 opBox opLoad opFieldAddr opIndexAddr acells aAddr opExtract aExtract opUnOp opAlloc opStore opMakeInterface opNilCheck opBuild aParts opBuildSlice aValW
set_option maxHeartbeats 4000000
set_option linter.unusedSimpArgs false
set_option linter.unusedVariables false
theorem flat_ints : ∀ l : List Int, flatE (encI .i64) l = intsV l
  | [] => rfl
  | a :: l => by
    show [Value.int .i64 a] ++ flatE (encI .i64) l = _
    rw [flat_ints l]; rfl
theorem int_row {W : AW} {A : Option Addr} {c : Nat} {l : List Int} (h : IntL W (.slice A l.length c) l) (h0 : l.length = 0 → SlEmp A c) : IntR W (.slice A l.length c) l := by
  obtain ⟨A', c', e, hh⟩ := h
  cases e
  refine ⟨A, c, rfl, h0, fun i a hi => ?_⟩
  obtain ⟨b, o, e1, e2⟩ := hh i a hi
  refine ⟨b, o, e1, fun j u hu => ?_⟩
  have hj : j = 0 := by have := (List.getElem?_eq_some_iff.1 hu).1; simp only [encI, List.length_cons, List.length_nil] at this; omega
  subst hj
  cases hu
  rw [Nat.mul_one, Nat.add_zero]; exact e2
theorem raw_wp {W : AW} {wv : Value} {w : List Int} (h : IntL W wv w) (hS : SlOk wv w.length) (k : Nat) (hk : k ≤ 100) (hw : w.length < 9223372036854775808) :
    WpF T0 41 [wv, .int .i64 (k : Int)] W (fun u W' => W.next ≤ W'.next ∧ Ext W W' ∧ GrowsN W' u (w.take (min w.length k)).length (intsV (w.take (min w.length k))) 3 1 (fun b => b = W.next ∧ W.next < W'.next)) := by
  refine wpF fun41 rfl ?_
  obtain ⟨Aw, cw, hwv⟩ := int_len h
  have lw : ∀ W', aLen T0 W' 46 wv = some (.int .i64 w.length) := fun W' => by rw [hwv]; exact len_slice und46 _ _ _
  clear hwv
  have hm : min (w.length : Int) (k : Int) = ((min w.length k : Nat) : Int) := by omega
  have hle : min w.length k ≤ w.length := Nat.min_le_left _ _
  have hle2 : min w.length k ≤ k := Nat.min_le_right _ _
  generalize min w.length k = m at hm hle hle2
  obtain ⟨A', c', g1, g2, g3⟩ := slice_ints und46 sz3 hS h hle
  have hlen : (w.take m).length = m := by rw [List.length_take]; omega
  have hR := int_row g2 (fun h0 => g3 (by omega))
  obtain ⟨v', W', a1, a2, a3, a4, a5⟩ := GrowsN.appRow (T := T0) (t := 46) (el := 3) (v := .slice none 0 0) (n := 0) (l := []) (K := fun _ => False) (encI_len (k := .i64)) (encI_one (k := .i64)) (by omega) und46 inf3 is3 z3' rfl (.nil _ _ _ _) hR (by rw [by3', hlen]; omega) (by omega)
  rw [hlen] at a1 a4
  rw [List.nil_append, flat_ints, Nat.zero_add] at a4
  try simp only [wpK_assoc]
  refine wpK_reg (fun R hR => by simp []; exact hR) ?_
  try simp only [wpK_assoc]
  refine wpK_reg (fun R hR => by simp []; exact hR) ?_
  try simp only [wpK_assoc]
  refine wpK_reg (fun R hR => by simp [opSlice, aOpt, lw, min_int, hm, g1, a1]; exact hR) ?_
  refine wpK_ret ⟨.inr rfl, rfl, [v'], by simp, a2, ⟨a2, fun b hb hk => a5.2 b hb (fun x => x)⟩, ?_⟩
  rw [hlen]
  obtain ⟨e0, e | ⟨b, c, kin, e1, e2, e3, e4, e5, e6, e7⟩⟩ := a4
  · exact ⟨e0, .inl e⟩
  · have hb : b = W.next := e3.elim (fun x => x.elim) id
    exact ⟨e0, .inr ⟨b, c, kin, e1, e2, ⟨hb, by omega⟩, e4, e5, e6, fun p hp => ⟨(e7 p hp).elim (fun x => x.elim) id, by omega⟩⟩⟩
def onesL (l : List Tri) : List Tri := l.map fun e => (e.1, e.2.1, 1)
theorem onesL_len (l : List Tri) : (onesL l).length = l.length := by simp [onesL]
theorem build24' (P : Int) : aBuild T0 24 [(0, .int .i64 P)] = some (.agg ⟨[.int .i64 P, .slice none 0 0]⟩) := by kernel_rfl
theorem refOnes_wp {W : AW} {v : Value} {P : Int} {l : List Tri} (h : TriIn W v l) (hl : l.length ≤ 1000) :
    WpF T0 38 [.agg ⟨[.int .i64 P, v]⟩] W (fun u W' => Ext W W' ∧ ∃ v', u = .agg ⟨[.int .i64 P, v']⟩ ∧ GrowsN W' v' l.length (flat3 (onesL l)) 78 3 (fun b => W.next ≤ b)) := by
  obtain ⟨A, c, rfl, hA⟩ := h
  refine wpF fun38 rfl ?_
  obtain ⟨W1, hW1, hE1, hn1, hV0, hV1⟩ : ∃ W1, W1 = (W.newCells 24 [.int .i64 P, .slice A l.length c]).newCells 24 [.int .i64 0, .slice none 0 0] ∧ Ext W W1 ∧ W1.next = W.next + 2 ∧ Var W1 W.next 24 [.int .i64 P, .slice A l.length c] ∧ Var W1 (W.next + 1) 24 [.int .i64 0, .slice none 0 0] :=
    ⟨_, rfl, (Only.newCells _ _ _).trans (Only.newCells _ _ _), rfl, (Var.new _ _ _).ext (.newCells _ _ _), Var.new _ _ _⟩
  obtain ⟨W2, s1, s2, hE2, hV2⟩ := storeVar_new (T := T0) (W := W1) (t := 24) (v := .agg ⟨[.int .i64 P, .slice none 0 0]⟩) (z := [.int .i64 0, .slice none 0 0]) inf24 (by rw [is24]; rfl) (by rw [is24]; rfl) rfl
  have hl0 := hV0.load1 (T := T0) und3 rfl (j := 0) (v := .int .i64 P) rfl
  try simp only [wpK_assoc]
  refine wpK_reg (fun R hR => by simp [zero24, newCells_next, ← hW1]; exact hR) ?_
  try simp only [wpK_assoc]
  refine wpK_reg (fun R hR => by simp [hl0, build24', zero24, s1]; exact hR) ?_
  try simp only [wpK_assoc]
  refine wpK_reg (fun R hR => by simp []; exact hR) ?_
  have hE12 := hE1.trans hE2
  have hV02 := hV0.ext hE2
  have hV12 := hV1.ext hE2
  rw [hn1] at hV2 s2
  try simp only [wpK_assoc]
  refine wpK_while (I := fun k B W' => B.n = 36 ∧ B.defers = [] ∧ B.tmps.get 1 = some (.pointer (some ⟨W.next, 0, none⟩)) ∧ B.tmps.get 2 = some (.pointer (some ⟨W.next + 1, 0, none⟩)) ∧ B.tmps.get 3 = some (.pointer (some ⟨W.next + 2, 0, none⟩)) ∧ Only (fun b => b = W.next + 2) W2 W' ∧ ∃ (i : Nat) (w : Value), k = l.length - i ∧ i ≤ l.length ∧ B.tmps.get 4 = some (.int .i64 (i : Int)) ∧ Var W' (W.next + 2) 24 [.int .i64 P, w] ∧ GrowsN W' w i (flat3 (onesL (l.take i))) 78 3 (fun b => W2.next ≤ b))
    (J := fun B W' => B.n = 36 ∧ B.defers = [] ∧ B.tmps.get 1 = some (.pointer (some ⟨W.next, 0, none⟩)) ∧ B.tmps.get 2 = some (.pointer (some ⟨W.next + 1, 0, none⟩)) ∧ B.tmps.get 3 = some (.pointer (some ⟨W.next + 2, 0, none⟩)) ∧ Only (fun b => b = W.next + 2) W2 W' ∧ ∃ (w : Value), Var W' (W.next + 2) 24 [.int .i64 P, w] ∧ GrowsN W' w l.length (flat3 (onesL l)) 78 3 (fun b => W2.next ≤ b)) (Rt := fun _ _ => False) (k := l.length) ?_ ?_ ?_ ?_
  · exact ⟨rfl, rfl, by simp [hn1], by simp [hn1], by simp [hn1], Only_refl _, 0, .slice none 0 0, by simp, by omega, by simp, hV2, .nil _ _ _ _⟩
  · rintro k ⟨tm, n, ds⟩ W3 ⟨hn, hd, h1, h2, h3, hO3, i, w, hk, hi, h4, hV3, hGr⟩ Q' hJ hRt hI
    simp only at hn hd h1 h2 h3
    subst hn; subst hd
    simp only at h4
    have n3 := hO3.1
    have hV03 := hV02.only hO3 (by omega)
    have l03 := hV03.load1 (T := T0) und22 rfl (j := 1) (v := .slice A l.length c) rfl
    try simp only [wpK_assoc]
    refine wpK_reg (fun R hR => by simp [h1, h4, l03, len_slice und22]; exact hR) ?_
    by_cases hlt : i < l.length
    case neg =>
      have e : i = l.length := by omega
      rw [e, List.take_length] at hGr
      try simp only [wpK_assoc]
      first | refine wpK_onF (by simp [hlt]) ?_ | refine wpK_out (by simp [hlt]) ?_ | refine wpK_condF (by simp [hlt]) ?_ | refine wpK_endF (by simp [hlt]) (wpK_skip ?_) | refine wpK_endF (by simp [hlt]) ?_
      exact hJ _ _ ⟨rfl, rfl, by simp [h1, h2, h3], by simp [h1, h2, h3], by simp [h1, h2, h3], hO3, w, hV3, hGr⟩
    try simp only [wpK_assoc]
    first | refine wpK_onT (by simp [hlt]) ?_ | refine wpK_outT (by simp [hlt]) ?_ | refine wpK_condT (by simp [hlt]) ?_ | refine wpK_endT (by simp [hlt]) ?_
    have ha : l[i]? = some l[i] := List.getElem?_eq_getElem hlt
    generalize l[i] = a at ha
    obtain ⟨b', o, rfl, q1, q2, q3⟩ := hA i a ha
    have eV := indexAddr_tri (T := T0) und22 sz78 (b := b') (o := o) (c := c) (k := .i64) hlt
    have n2 := hE12.1
    have hq : ∀ {W' : AW}, Only (fun b => b = W.next + 2 ∨ W2.next ≤ b) W2 W' → aLoadVar T0 W' 22 W.next 1 = some (.slice (some ⟨b', o, none⟩) l.length c) ∧ aLoadVar T0 W' 3 b' (o + 3 * i) = some (.int .i64 a.1) ∧ aLoadVar T0 W' 3 b' (o + 3 * i + 1) = some (.int .i64 a.2.1) := fun {W'} hO =>
      ⟨(hV02.only hO (by omega)).load1 (T := T0) und22 rfl (j := 1) (v := .slice (some ⟨b', o, none⟩) l.length c) rfl,
       load_of und3 rfl ((q1.ext hE12).only hO (by have := q1.1; omega)), load_of und3 rfl ((q2.ext hE12).only hO (by have := q2.1; omega))⟩
    have oW3 : Only (fun b => b = W.next + 2 ∨ W2.next ≤ b) W2 W3 := ⟨hO3.1, fun b hb hk => hO3.2 b hb (fun e => hk (.inl e))⟩
    have hl2 := hV3.load1 (T := T0) und22 rfl (j := 1) (v := w) rfl
    obtain ⟨w', W4, W5, a1, a2, a3, a4, a5, a6, a7⟩ := Var.push (T := T0) (t := 22) (el := 78) (i := Tryd.t78) (it := Tryd.t22) (sz := 3) (by omega) und22 inf78 is78 z78 rfl inf22 is22 hGr hV3 (o := 1) (by omega) (by simp) (u := cells3 (a.1, a.2.1, 1)) rfl (oneCells_tri _) (by rw [by78]; omega) (by omega)
    have a1 : aAppend T0 (W3.newCells 78 [.int .i64 a.1, .int .i64 a.2.1, .int .i64 1]) [22, 22] [w, .slice (some ⟨W3.next, 0, none⟩) 1 2] = some (w', W4) := a1
    obtain ⟨p1, p2, p3⟩ := hq oW3
    have oWf : Only (fun b => b = W.next + 2 ∨ W2.next ≤ b) W2 (W3.newCells 78 [.int .i64 a.1, .int .i64 a.2.1, .int .i64 1]) := ⟨by rw [newCells_next]; omega, fun b hb hk => by rw [newCells_get, if_neg (by omega)]; exact oW3.2 b hb hk⟩
    obtain ⟨r1, r2, r3⟩ := hq oWf
    have fb := fun (ρ : Operand → Option Value) (o : Operand) => flt_bs22 (ρ := ρ) (o := o) (x := a.1) (y := a.2.1) (z := 1)
    have fr1 := freshB_new W3 78 [.int .i64 a.1, .int .i64 a.2.1, .int .i64 1] (by simp [listEq, valEq])
    have hsi : IntKind.i64.wrap ((i : Int) + 1) = ((i + 1 : Nat) : Int) := i64_succ i (by omega)
    refine wpK_block ?_
    try simp only [wpK_assoc]
    refine wpK_reg (fun R hR => by simp [h3, hl2]; exact hR) ?_
    try simp only [wpK_assoc]
    refine wpK_qn (wr := Tr.nil |>.set 18 0 |>.set 19 1 |>.set 20 2 |>.set 21 3 |>.set 22 4 |>.set 23 5 |>.set 24 6 |>.set 25 7 |>.set 26 8 |>.set 27 9 |>.set 28 10 |>.set 29 11 |>.set 30 12 |>.set 31 13 |>.set 32 14 |>.set 33 15 |>.set 34 16) (bits := Tr.nil.lay 0 [0, 0, 2, 0, 14, 30, 62, 0, 128, 0, 896, 1920, 3968, 8190, 16382, 32767, 65535, 131071]) (ord := [0, 1, 2, 3, 4, 5, 6, 7, 8, 9, 10, 11, 12, 13, 14, 15, 16, 17]) (by kernel_rfl) (by kernel_rfl) (by kernel_rfl) (fun G hG => by
      simp [h1, h3, h4, p1, p2, p3, r1, r2, r3, eV, build78', fb, AFlt.val, fr1, a1, a2, a3, a4, newCells_next]
      exact hG) ?_
    simp only [leaves_normal, behind_normal]
    try simp only [wpK_assoc]
    refine wpK_reg1 (fun R hR => by simp [h4, hsi]; exact hR) ?_
    have hO5 : Only (fun b => b = W.next + 2) W2 W5 := ⟨by omega, fun b hb hk => by rw [a7.2 b (by omega) (by omega)]; exact hO3.2 b hb hk⟩
    refine hI (l.length - (i + 1)) _ _ (by omega) ⟨rfl, rfl, by simp [h1, h2, h3], by simp [h1, h2, h3], by simp [h1, h2, h3], hO5, i + 1, w', by omega, by omega, by simp, by simpa using a5, ?_⟩
    rw [List.take_add_one, ha, Option.toList_some]
    rw [show onesL (l.take i ++ [a]) = onesL (l.take i) ++ [(a.1, a.2.1, 1)] from by simp [onesL], flat3_append]
    have : flat3 [(a.1, a.2.1, 1)] = cells3 (a.1, a.2.1, 1) := by simp [flat3]
    rw [this]
    exact a6.mono (fun b hb => by
      rcases hb with hb | hb
      · exact hb
      · omega)
  · rintro A' W' hf; exact hf.elim
  · rintro ⟨tm, n, ds⟩ W3 ⟨hn, hd, h1, h2, h3, hO3, w, hV3, hG⟩
    simp only at hn hd h1 h2 h3
    subst hn; subst hd
    have n3 := hO3.1
    have n2 := hE12.1
    obtain ⟨av, cv, hvs⟩ := hG.len
    have hl := load24 hV3
    have hV13 := hV12.only hO3 (by omega)
    obtain ⟨W4, t1, t2, t3, t4⟩ := hV13.store (T := T0) (t := 24) (v := .agg ⟨[.int .i64 P, w]⟩) (o := 0) inf24 (by rw [is24]; rfl) (by simp) (by rw [hvs]; rfl)
    have hl4 := t4.load (T := T0) und24 agg24 inf24 (by rw [is24]; rfl)
    try simp only [wpK_assoc]
    refine wpK_reg (fun R hR => by simp [h2, h3, hl, t1]; exact hR) ?_
    refine wpK_ret ⟨.inr rfl, rfl, [.agg ⟨[.int .i64 P, w]⟩], by simp at hl4; simp [h2, hl4], ?_, w, rfl, ?_⟩
    · exact ⟨by omega, fun b hb hk => by rw [t3.2 b (by omega) (by omega), hO3.2 b (by omega) (by omega)]; exact hE12.2 b hb (fun x => x)⟩
    · exact (hG.only t3 (fun b _ hb e => by omega)).mono (fun b hb => by omega)
end Go.Proofs.YtkgfjfkgmpeobaaDoor

open Go Go.Eng
namespace Go.Proofs.YtkgfjfkgmpeobaaDoor
attribute [local congr] undef_congr WpK.congr WpS.congr WpL.congr WpC.congr WpF.congr gotS.congr callS.congr nextS.congr wantS.congr condS.congr
attribute [local irreducible] WpK
attribute [local simp] WpDr_nil WpDr_cons atS_some dwantS_true dwantS_false kindS_light kindS_float kindS_heavy lightS_value floatS_some heavyS_value heavyS_skip heavyS_enter dcallS_some doneS_eq
  isLight isFloat isPlain dLook testBit_dec dChain dLights_nil dLights_skip dLights_one dLight_nil dLight_cons dFreshes_nil dFreshes_one oneF_none oneF_some dFresh_nil dFresh_cons oneL_some oneW_true oneW_false sameV_value dPut dMay valEq arrEq listEq List.getElem?_cons Tr.get_nil dEnd
attribute [local simp] WpS_nil WpS_cons isDefer undef_false wantS_true wantS_false nextS_value nextS_skip nextS_enter callS_some gotS_some aWanted aOp aEvalF aEval opMove opAssign opPick aVal flat flat1 AAct.put opBinOp opConvert opIndex Tr.get_set Tr.get_lay aBin aResults tupled
  aCall aVals aCallB blt_dec ble_dec beq_dec aBinI_add aBinI_sub aBinI_lss aBinI_leq aBinI_gtr aBinI_geq aBinI_eql aBinI_neq index_str len_str len_slice Nat.beq_refl und2 und3 und4 und5 und39 und76 und82 und115 und22 und29 und25 und33 und46 und43 und49 und111 und113 field151 field155_0 field155_1 field155_2 field155_3 field155_4
  field78 field106 field24 field31 field27 field35 field108 field109 opBox opLoad opFieldAddr opIndexAddr acells aAddr opExtract aExtract opUnOp opAlloc opStore opMakeInterface opNilCheck opBuild aParts opBuildSlice aValW
set_option maxHeartbeats 4000000
set_option linter.unusedSimpArgs false
set_option linter.unusedVariables false
def HeldT (W : AW) (v : Value) (S : List Int) (K : Nat → Prop) : Prop :=
  (S = [] ∧ v = .slice none 0 0) ∨ ∃ b c nb kin, v = .slice (some ⟨b, 0, none⟩) S.length 3 ∧ S.length ≤ nb ∧ 0 < nb ∧ K b ∧ b < W.next ∧ W.blocks.get b = some ⟨.cells c nb 3, kin⟩ ∧ (∀ i x, S[i]? = some x → c.get i = some (.int .i64 x)) ∧ ∀ p ∈ kin, K p.1
theorem HeldT.nil (W : AW) (K : Nat → Prop) : HeldT W (.slice none 0 0) [] K := .inl ⟨rfl, rfl⟩
theorem HeldT.only {W W' : AW} {v : Value} {S : List Int} {K K' : Nat → Prop} (h : HeldT W v S K) (ho : Only K' W W') (hd : ∀ b, b < W.next → K b → ¬ K' b) : HeldT W' v S K := by
  rcases h with h | ⟨b, c, nb, kin, h1, h2, h3, h4, h5, h6, h7, h8⟩
  · exact .inl h
  · exact .inr ⟨b, c, nb, kin, h1, h2, h3, h4, Nat.lt_of_lt_of_le h5 ho.1, by rw [ho.2 b h5 (hd b h5 h4)]; exact h6, h7, h8⟩
theorem HeldT.ints {W : AW} {v : Value} {S : List Int} {K : Nat → Prop} (h : HeldT W v S K) : IntL W v S := by
  rcases h with ⟨rfl, rfl⟩ | ⟨b, c, nb, kin, h1, h2, h3, h4, h5, h6, h7, h8⟩
  · exact ⟨none, 0, rfl, fun i x hx => by simp at hx⟩
  · refine ⟨_, _, h1, fun i x hx => ⟨b, 0, rfl, h5, ?_⟩⟩
    have hi : i < nb := by have := (List.getElem?_eq_some_iff.1 hx).1; omega
    simp only [AW.cell, h6, blt_dec, Nat.zero_add, hi, decide_true]
    exact h7 i x hx
theorem HeldT.cut {W : AW} {v : Value} {S : List Int} {K : Nat → Prop} (h : HeldT W v S K) {k : Nat} (hk : k < S.length) :
    ∃ v', aSliceOp T0 W 46 v none (some (.int .i64 (k : Nat))) none = some v' ∧ HeldT W v' (S.take k) K := by
  rcases h with ⟨rfl, rfl⟩ | ⟨b, c, nb, kin, rfl, h2, h3, h4, h5, h6, h7, h8⟩
  · simp at hk
  · have hlen : (S.take k).length = k := by rw [List.length_take]; omega
    refine ⟨.slice (some ⟨b, 0, none⟩) k 3, ?_, .inr ⟨b, c, nb, kin, by rw [hlen], by omega, h3, h4, h5, h6, fun i x hx => ?_, h8⟩⟩
    · have hb : aHi (some (.int .i64 (k : Nat))) S.length (max S.length (W.ext b 0 1)) = some k := by
        show aBound (.int .i64 (Int.ofNat k)) _ = some k
        simp only [aBound, ble_dec, show k ≤ max S.length (W.ext b 0 1) from by omega, decide_true]
      have e1 : 3 % 2 = 1 := rfl
      have e2 : Nat.beq (3 / 2) 1 = true := rfl
      have e3 : Nat.beq (3 % 2) 0 = false := rfl
      have e4 : Nat.beq 0 0 = true := rfl
      simp only [aSliceOp, und46, sz3, e3, e2, hb, aLo, e4, Bool.or_true, Nat.zero_mul, Nat.add_zero, Nat.sub_zero]
    · have hik : i < k := by have := (List.getElem?_eq_some_iff.1 hx).1; omega
      rw [List.getElem?_take_of_lt hik] at hx
      exact h7 i x hx
theorem HeldT.of_grows {W : AW} {v : Value} {S : List Int} {K : Nat → Prop} (h : GrowsN W v S.length (intsV S) 3 1 K) : HeldT W v S K := by
  obtain ⟨h0, ⟨h1, h2⟩ | ⟨b, c, kin, h1, h2, h3, h4, h5, h6, h7⟩⟩ := h
  · exact .inl ⟨List.length_eq_zero_iff.1 h1, h2⟩
  · have hl : (intsV S).length = S.length := by simp [intsV]
    exact .inr ⟨b, c, (intsV S).length, kin, h1, by omega, by omega, h3, h4, h5, fun i x hx => by
      rw [h6 i (by have := (List.getElem?_eq_some_iff.1 hx).1; omega), intsV, List.getElem?_map, hx]; rfl, h7⟩
theorem HeldT.push {W : AW} {v : Value} {S : List Int} {K : Nat → Prop} (h : HeldT W v S K) (hl : S.length ≤ 1000) (x : Int) :
    ∃ v' W' K', aAppend T0 (W.newCells 3 [.int .i64 x]) [46, 46] [v, .slice (some ⟨W.next, 0, none⟩) 1 2] = some (v', W') ∧ HeldT W' v' (S ++ [x]) K' ∧ (∀ b, K' b → K b ∨ (b = W.next + 1 ∧ W.next + 1 < W'.next)) ∧ Only K W W' ∧ W.next + 1 ≤ W'.next := by
  have hE : Ext W (W.newCells 3 [.int .i64 x]) := .newCells _ _ _
  have hx := newCells_cellsAt W 3 [.int .i64 x] 1 rfl
  have fin : GrowsN W v S.length (intsV S) 3 1 K → ∃ v' W' K', aAppend T0 (W.newCells 3 [.int .i64 x]) [46, 46] [v, .slice (some ⟨W.next, 0, none⟩) 1 2] = some (v', W') ∧ HeldT W' v' (S ++ [x]) K' ∧ (∀ b, K' b → K b ∨ (b = W.next + 1 ∧ W.next + 1 < W'.next)) ∧ Only K W W' ∧ W.next + 1 ≤ W'.next := fun hg => by
    obtain ⟨v', W', a1, a2, a3, a4⟩ := append_growsN (T := T0) (t := 46) (el := 3) (c := 2) (by omega) und46 inf3 is3 z3' rfl (hg.only (K' := fun _ => False) hE (fun _ _ _ y => y)) (u := [.int .i64 x]) rfl hx rfl (by rw [by3']; omega) (by omega)
    rw [newCells_next] at a2
    refine ⟨v', W', fun b => K b ∨ b = W.next + 1, a1, HeldT.of_grows ?_, fun b hb => hb.elim .inl (fun e => .inr ⟨e, by omega⟩), ⟨by omega, fun b hb hk => ?_⟩, by omega⟩
    · have e1 : (S ++ [x]).length = S.length + 1 := by simp
      have e2 : intsV (S ++ [x]) = intsV S ++ [.int .i64 x] := by simp [intsV]
      rw [e1, e2]
      exact a3.mono (fun b hb => hb.elim .inl (fun e => .inr (by rw [newCells_next] at e; exact e)))
    · rw [a4.2 b (by rw [newCells_next]; omega) hk]
      exact hE.2 b (by omega) (fun y => y)
  rcases h with ⟨rfl, rfl⟩ | ⟨b, c, nb, kin, rfl, h2, h3, h4, h5, h6, h7, h8⟩
  · exact fin (.nil _ _ _ _)
  · by_cases hlt : S.length < nb
    case neg =>
      have e : nb = S.length := by omega
      subst e
      have hil : (intsV S).length = S.length := by simp [intsV]
      refine fin ⟨by simp [intsV], .inr ⟨b, c, kin, rfl, h3, h4, h5, by rw [hil]; exact h6, fun i hi => ?_, h8⟩⟩
      have hi' : i < S.length := by omega
      rw [h7 i S[i] (List.getElem?_eq_getElem hi'), intsV, List.getElem?_map, List.getElem?_eq_getElem hi']; rfl
    have h6' : (W.newCells 3 [.int .i64 x]).blocks.get b = some ⟨.cells c nb 3, kin⟩ := by rw [hE.2 b h5 (fun y => y)]; exact h6
    refine ⟨.slice (some ⟨b, 0, none⟩) (S.length + 1) 3, ⟨(AW.kill (W.newCells 3 [.int .i64 x]).blocks kin).set b ⟨.cells (c.set S.length (.int .i64 x)) nb 3, []⟩, (W.newCells 3 [.int .i64 x]).next⟩, K, ?_, .inr ⟨b, c.set S.length (.int .i64 x), nb, [], by simp, by simp; omega, h3, h4, by show b < (W.newCells 3 [.int .i64 x]).next; rw [newCells_next]; omega, by rw [Tr.get_set, if_pos rfl], fun i y hi => ?_, by simp⟩, fun d hd => .inl hd, ⟨by show W.next ≤ (W.newCells 3 [.int .i64 x]).next; rw [newCells_next]; omega, fun d hd hk => ?_⟩, by show W.next + 1 ≤ (W.newCells 3 [.int .i64 x]).next; rw [newCells_next]; omega⟩
    · have hhead : aAppend T0 (W.newCells 3 [.int .i64 x]) [46, 46] [.slice (some ⟨b, 0, none⟩) S.length 3, .slice (some ⟨W.next, 0, none⟩) 1 2] = aApp1 (W.newCells 3 [.int .i64 x]) 3 1 Tryd.t3.bytes 1 [.int .i64 x] (.slice (some ⟨b, 0, none⟩) S.length 3) := by
        simp only [aAppend, und46, inf3, is3, z3', notInt, aSrc, Nat.one_mul, hx, acells, List.length_cons, List.length_nil, Nat.beq_refl]
        rfl
      rw [hhead]
      have e1 : (2 * (S.length + 1)) * Tryd.t3.bytes ≤ 281474976710656 := by rw [by3']; omega
      have e2 : S.length + 1 ≤ 4611686018427387904 := by omega
      have e3 : Nat.beq (3 % 2) 0 = false := rfl
      have e4 : Nat.beq (3 / 2) 1 = true := rfl
      have e5 : Nat.blt 0 1 = true := rfl
      have e6 : S.length + 1 ≤ nb := by omega
      simp only [aApp1, ble_dec, e1, e2, decide_true, e3, e4, e5, h6', e6, AW.storeList, Value.oneCell', AW.store, blt_dec, Nat.zero_add, Nat.mul_one, hlt]
    · rw [Tr.get_set]
      by_cases e : i = S.length
      · subst e
        rw [if_pos rfl]
        simp at hi; rw [hi]
      · rw [if_neg e]
        have hi' : i < S.length := by have := (List.getElem?_eq_some_iff.1 hi).1; simp at this; omega
        rw [List.getElem?_append_left hi'] at hi
        exact h7 i y hi
    · show ((AW.kill (W.newCells 3 [.int .i64 x]).blocks kin).set b _).get d = _
      rw [Tr.get_set, if_neg (by rintro rfl; exact hk h4), kill_other (fun p hp (e : p.1 = d) => hk (by rw [← e]; exact h8 p hp))]
      exact hE.2 d hd (fun y => y)
theorem begins_wp {W : AW} {pn pa j : Nat} {A : Option Addr} {c : Nat} {l : List Tri} {e : Tri} {y : Int} (hA : TriIn W (.slice A l.length c) l) (he : l[j]? = some e) (hn : aLoadVar T0 W 29 pn 1 = some (.slice A l.length c)) (ha : aLoadVar T0 W 3 pa 0 = some (.int .i64 y)) :
    WpF T0 79 [.int .i64 (j : Int), .pointer (some ⟨pn, 0, none⟩), .pointer (some ⟨pa, 0, none⟩)] W (fun u W' => W' = W ∧ u = .bool (decide (e.1 = y))) := by
  have hlt := (List.getElem?_eq_some_iff.1 he).1
  obtain ⟨A', c', ev, hA⟩ := hA
  cases ev
  obtain ⟨b, o, hAe, q1, q2, q3⟩ := hA j _ he
  have eV := indexAddr_tri (T := T0) und29 sz106 (b := b) (o := o) (c := c) (k := .i64) hlt
  rw [← hAe] at eV
  have la1 := load_of und3 rfl q1
  refine wpF fun79 rfl ?_
  try simp only [wpK_assoc]
  refine wpK_reg (fun R hR => by simp []; exact hR) ?_
  by_cases h : e.1 = y
  · try simp only [wpK_assoc]
    refine wpK_dn (wr := Tr.nil |>.set 5 0 |>.set 6 1 |>.set 7 2 |>.set 8 3 |>.set 9 4 |>.set 10 5 |>.set 11 6 |>.set 12 7 |>.set 4 8) (bits := Tr.nil.lay 0 [0, 1, 0, 7, 15, 31, 0, 127, 255]) (ord := [0, 1, 2, 3, 4, 5, 6, 7, 8]) (by kernel_rfl) (by kernel_rfl) (by kernel_rfl) (fun G hG => by
      simp [hn, ha, eV, la1, h]
      exact hG) ?_
    exact wpK_ret ⟨.inr rfl, rfl, [.bool true], by simp, rfl, by rw [decide_eq_true h]; rfl⟩
  · try simp only [wpK_assoc]
    refine wpK_dn (wr := Tr.nil |>.set 5 0 |>.set 6 1 |>.set 7 2 |>.set 8 3 |>.set 9 4 |>.set 10 5 |>.set 11 6 |>.set 12 7 |>.set 4 8) (bits := Tr.nil.lay 0 [0, 1, 0, 7, 15, 31, 0, 127, 255]) (ord := [0, 1, 2, 3, 4, 5, 6, 7, 8]) (by kernel_rfl) (by kernel_rfl) (by kernel_rfl) (fun G hG => by
      simp [hn, ha, eV, la1, h]
      exact hG) ?_
    exact wpK_ret ⟨.inr rfl, rfl, [.bool false], by simp, rfl, by rw [decide_eq_false h]; rfl⟩
open Classical in
theorem indexFunc_wp {W : AW} {wv : Value} {S : List Int} {f : Int → Prop} {cap : List Value} (h : IntL W wv S) (hl : S.length ≤ 1000) (hf : ∀ x ∈ S, WpF T0 79 (.int .i64 x :: cap) W (fun u W' => W' = W ∧ u = .bool (decide (f x)))) :
    WpF T0 80 [wv, .func (.func 79) ⟨[]⟩ ⟨cap⟩] W (fun u W' => W' = W ∧ (((∀ x ∈ S, ¬ f x) ∧ u = .int .i64 (-1)) ∨ ∃ (j : Nat) (x : Int), S[j]? = some x ∧ f x ∧ u = .int .i64 (j : Int))) := by
  have lw : ∀ W', aLen T0 W' 46 wv = some (.int .i64 S.length) := fun W' => by obtain ⟨Aw, cw, hwv⟩ := int_len h; rw [hwv]; exact len_slice und46 _ _ _
  refine wpF fun80 rfl ?_
  try simp only [wpK_assoc]
  refine wpK_reg (fun R hR => by simp []; exact hR) ?_
  try simp only [wpK_assoc]
  refine wpK_reg (fun R hR => by simp [lw]; exact hR) ?_
  try simp only [wpK_assoc]
  refine wpK_while (I := fun k A' W' => A'.n = 19 ∧ A'.defers = [] ∧ A'.tmps.get 0 = some (wv) ∧ A'.tmps.get 1 = some (.func (.func 79) ⟨[]⟩ ⟨cap⟩) ∧ A'.tmps.get 7 = some (.int .i64 S.length) ∧ W' = W ∧ ∃ (i : Nat), k = S.length - i ∧ i ≤ S.length ∧ A'.tmps.get 8 = some (.int .i64 (i : Int)) ∧ ∀ x ∈ S.take i, ¬ f x)
    (J := fun A' W' => A'.n = 19 ∧ A'.defers = [] ∧ A'.tmps.get 0 = some (wv) ∧ A'.tmps.get 1 = some (.func (.func 79) ⟨[]⟩ ⟨cap⟩) ∧ A'.tmps.get 7 = some (.int .i64 S.length) ∧ W' = W ∧ ∀ x ∈ S, ¬ f x)
    (Rt := fun A' W' => A'.defers = [] ∧ W' = W ∧ ∃ (j : Nat) (x : Int), S[j]? = some x ∧ f x ∧ A'.tmps.get 4 = some (.int .i64 (j : Int))) (k := S.length) ?_ ?_ ?_ ?_
  · exact ⟨rfl, rfl, by simp, by simp, by simp, rfl, 0, by omega, by omega, by simp, by simp⟩
  · rintro k ⟨tm, n, ds⟩ W2 ⟨hn, hd, h0, h1, h7, e2, i, hk, hi, h8, hall⟩ Q' hJ hRt hI
    simp only at hn hd h0 h1 h7
    subst hn; subst hd
    simp only at h8
    rw [e2]
    try simp only [wpK_assoc]
    refine wpK_reg (fun R hR => by simp [h7, h8]; exact hR) ?_
    by_cases hlt : i < S.length
    case neg =>
      have e : i = S.length := by omega
      rw [e, List.take_length] at hall
      try simp only [wpK_assoc]
      first | refine wpK_onF (by simp [hlt]) ?_ | refine wpK_out (by simp [hlt]) ?_ | refine wpK_condF (by simp [hlt]) ?_ | refine wpK_endF (by simp [hlt]) (wpK_skip ?_) | refine wpK_endF (by simp [hlt]) ?_
      exact hJ _ _ ⟨rfl, rfl, by simp [h0, h1, h7], by simp [h0, h1, h7], by simp [h0, h1, h7], rfl, hall⟩
    try simp only [wpK_assoc]
    first | refine wpK_onT (by simp [hlt]) ?_ | refine wpK_outT (by simp [hlt]) ?_ | refine wpK_condT (by simp [hlt]) ?_ | refine wpK_endT (by simp [hlt]) ?_
    have hx : S[i]? = some S[i] := List.getElem?_eq_getElem hlt
    generalize S[i] = x at hx
    obtain ⟨qb, qo, x1, x2⟩ := int_at h hx
    refine wpK_block ?_
    try simp only [wpK_assoc]
    refine wpK_reg (fun R hR => by simp [h8]; exact hR) ?_
    have hc := hf x (List.mem_of_getElem? hx)
    by_cases hfx : f x
    · rw [decide_eq_true hfx] at hc
      try simp only [wpK_assoc]
      refine wpK_reg (fun R hR => by
        simp [h0, h1, x1, x2, aEnter, fun79, short_other, aCallV]; rw [callS_none]
        refine hc.mono ?_
        rintro _ W9 ⟨e9, rfl⟩; subst W9
        simp [h0, h1, x1, x2]; exact hR) ?_
      try simp only [wpK_assoc]
      first | refine wpK_onT (by simp []) ?_ | refine wpK_outT (by simp []) ?_ | refine wpK_condT (by simp []) ?_ | refine wpK_endT (by simp []) ?_
      try simp only [wpK_assoc]
      refine wpK_reg (fun R hR => by simp []; exact hR) ?_
      exact wpK_ret (hRt _ _ ⟨rfl, rfl, i, x, hx, hfx, by simp⟩)
    · rw [decide_eq_false hfx] at hc
      try simp only [wpK_assoc]
      refine wpK_reg (fun R hR => by
        simp [h0, h1, x1, x2, aEnter, fun79, short_other, aCallV]; rw [callS_none]
        refine hc.mono ?_
        rintro _ W9 ⟨e9, rfl⟩; subst W9
        simp [h0, h1, x1, x2]; exact hR) ?_
      first | refine wpK_endF (by simp) (wpK_skip ?_) | refine wpK_onF (by simp) ?_
      simp only [leaves_normal, behind_normal]
      try simp only [wpK_assoc]
      refine wpK_reg1 (fun R hR => by simp [h8]; exact hR) ?_
      exact hI (S.length - (i + 1)) _ _ (by omega) ⟨rfl, rfl, by simp [h0, h1, h7], by simp [h0, h1, h7], by simp [h0, h1, h7], rfl, i + 1, rfl, by omega, by simp [i64_succ i (by omega)], fun y hy => by
        rw [List.take_add_one, hx] at hy
        simp only [Option.toList_some, List.mem_append, List.mem_singleton] at hy
        rcases hy with hy | rfl
        · exact hall y hy
        · exact hfx⟩
  · rintro A' W' ⟨hd, e2, j, x, hx, hfx, h4⟩
    exact ⟨.inr rfl, hd, [.int .i64 (j : Int)], by simp [h4], e2, .inr ⟨j, x, hx, hfx, rfl⟩⟩
  · rintro ⟨tm, n, ds⟩ W2 ⟨hn, hd, h0, h1, h7, e2, hall⟩
    simp only at hn hd h0 h1 h7
    subst hn; subst hd
    rw [e2]
    try simp only [wpK_assoc]
    refine wpK_reg (fun R hR => by simp []; exact hR) ?_
    exact wpK_ret ⟨.inr rfl, rfl, [.int .i64 (-1)], by simp, rfl, .inl ⟨hall, rfl⟩⟩
end Go.Proofs.YtkgfjfkgmpeobaaDoor

open Go Go.Eng
namespace Go.Proofs.YtkgfjfkgmpeobaaDoor
attribute [local congr] undef_congr WpK.congr WpS.congr WpL.congr WpC.congr WpF.congr gotS.congr callS.congr nextS.congr wantS.congr condS.congr
attribute [local irreducible] WpK
attribute [local simp] WpDr_nil WpDr_cons atS_some dwantS_true dwantS_false kindS_light kindS_float kindS_heavy lightS_value floatS_some heavyS_value heavyS_skip heavyS_enter dcallS_some doneS_eq
  isLight isFloat isPlain dLook testBit_dec dChain dLights_nil dLights_skip dLights_one dLight_nil dLight_cons dFreshes_nil dFreshes_one oneF_none oneF_some dFresh_nil dFresh_cons oneL_some oneW_true oneW_false sameV_value dPut dMay valEq arrEq listEq List.getElem?_cons Tr.get_nil dEnd
attribute [local simp] WpS_nil WpS_cons isDefer undef_false wantS_true wantS_false nextS_value nextS_skip nextS_enter callS_some gotS_some aWanted aOp aEvalF aEval opMove opAssign opPick aVal flat flat1 AAct.put opBinOp opConvert opIndex Tr.get_set Tr.get_lay aBin aResults tupled
  aCall aVals aCallB blt_dec ble_dec beq_dec aBinI_add aBinI_sub aBinI_lss aBinI_leq aBinI_gtr aBinI_geq aBinI_eql aBinI_neq index_str len_str len_slice Nat.beq_refl und2 und3 und4 und5 und39 und76 und82 und115 und22 und29 und25 und33 und46 und43 und49 und111 und113 field151 field155_0 field155_1 field155_2 field155_3 field155_4
  field78 field106 field24 field31 field27 field35 field108 field109 opBox opLoad opFieldAddr opIndexAddr acells aAddr opExtract aExtract opUnOp opAlloc opStore opMakeInterface opNilCheck opBuild aParts opBuildSlice aValW
set_option maxHeartbeats 4000000
set_option linter.unusedSimpArgs false
set_option linter.unusedVariables false
def onesF (F : List Int) : Prop := ∀ f ∈ F, f = 0 ∨ f = 1
theorem net_set (p : Nat) : ∀ (l : List Tri) (F : List Int) (i : Nat) (e : Tri) (f : Int), l[i]? = some e → F[i]? = some f → netZ (l.zip (F.set i 0)) p = netZ (l.zip F) p - net1 p (e, f)
  | [], F, i, e, f, h, _ => by simp at h
  | a :: l, [], i, e, f, _, h => by simp at h
  | a :: l, g :: F, 0, e, f, h1, h2 => by
    simp at h1 h2; subst h1; subst h2
    simp only [List.set_cons_zero, List.zip_cons_cons, netZ, List.map_cons, List.sum_cons, net1]
    split <;> split <;> omega
  | a :: l, g :: F, i + 1, e, f, h1, h2 => by
    simp only [List.getElem?_cons_succ] at h1 h2
    have := net_set p l F i e f h1 h2
    simp only [List.set_cons_succ, List.zip_cons_cons, netZ, List.map_cons, List.sum_cons] at this ⊢
    omega
theorem net_out (p : Nat) : ∀ (l : List Tri) (F : List Int), (∀ f ∈ F, 0 ≤ f) → 0 < netZ (l.zip F) p → ∃ (i : Nat) (e : Tri) (f : Int), l[i]? = some e ∧ F[i]? = some f ∧ e.1 = (p : Int) ∧ f ≠ 0
  | [], F, _, h => by simp [netZ] at h
  | a :: l, [], _, h => by simp [netZ] at h
  | a :: l, g :: F, hn, h => by
    have hg := hn g List.mem_cons_self
    by_cases hc : a.1 = (p : Int) ∧ g ≠ 0
    · exact ⟨0, a, g, rfl, rfl, hc.1, hc.2⟩
    · have h1 : net1 p (a, g) ≤ 0 := by
        simp only [net1]
        by_cases e : a.1 = (p : Int)
        · have : g = 0 := Classical.byContradiction fun x => hc ⟨e, x⟩
          subst this; simp
        · rw [if_neg e]; split <;> omega
      have h2 : 0 < netZ (l.zip F) p := by
        simp only [List.zip_cons_cons, netZ, List.map_cons, List.sum_cons] at h ⊢
        omega
      obtain ⟨i, e, f, h3, h4, h5, h6⟩ := net_out p l F (fun f hf => hn f (List.mem_cons_of_mem _ hf)) h2
      exact ⟨i + 1, e, f, h3, h4, h5, h6⟩
theorem sum_set0 : ∀ (F : List Int) (i : Nat) (f : Int), F[i]? = some f → (F.set i 0).sum = F.sum - f
  | [], i, f, h => by simp at h
  | g :: F, 0, f, h => by simp at h; subst h; simp; omega
  | g :: F, i + 1, f, h => by
    simp only [List.getElem?_cons_succ] at h
    have := sum_set0 F i f h
    simp only [List.set_cons_succ, List.sum_cons, this]; omega
theorem ones_sum : ∀ (F : List Int), onesF F → 0 ≤ F.sum
  | [], _ => by simp
  | g :: F, h => by
    have h1 := ones_sum F (fun f hf => h f (List.mem_cons_of_mem _ hf))
    have h2 := h g List.mem_cons_self
    simp only [List.sum_cons]; omega
theorem ones_set {F : List Int} (h : onesF F) (i : Nat) : onesF (F.set i 0) := fun f hf => by
  rcases List.mem_or_eq_of_mem_set hf with hf | rfl
  · exact h f hf
  · exact .inl rfl
theorem stepW_inv {l : List Tri} {p0 p : Int} {seen0 seen : List Int} {a : Int} (h : stepW l (some (p0, seen0)) a = some (p, seen)) :
    ∃ e, 0 ≤ a ∧ l[a.toNat]? = some e ∧ e.1 = p0 ∧ e.2.1 ∉ seen0 ∧ p = e.2.1 ∧ seen = seen0 ++ [e.2.1] := by
  unfold stepW at h
  simp only at h
  split at h
  · rename_i ha
    split at h
    · rename_i e he
      split at h
      · rename_i hc
        cases h
        exact ⟨e, ha, he, hc.1, hc.2, rfl, rfl⟩
      · cases h
    · cases h
  · cases h
theorem walk_seen {l : List Tri} {s : Int} {way : List Int} : ∀ (i : Nat) {p : Int} {seen : List Int}, walkW l s (way.take i) = some (p, seen) → ∀ y ∈ seen, y = p ∨ ∃ a ∈ way.take i, ∃ e, l[a.toNat]? = some e ∧ e.1 = y
  | 0, p, seen, h, y, hy => by
    simp [walkW] at h
    obtain ⟨rfl, rfl⟩ := h
    simp at hy; exact .inl hy
  | i + 1, p, seen, h, y, hy => by
    by_cases hi : i < way.length
    · have hx : way[i]? = some way[i] := List.getElem?_eq_getElem hi
      rw [walk_take hx] at h
      cases hw : walkW l s (way.take i) with
      | none => rw [hw] at h; cases h
      | some r =>
        obtain ⟨p0, seen0⟩ := r
        rw [hw] at h
        obtain ⟨e, h1, h2, h3, h4, rfl, rfl⟩ := stepW_inv h
        have hin : ∀ a ∈ way.take i, a ∈ way.take (i + 1) := fun a ha => by rw [List.take_add_one]; exact List.mem_append_left _ ha
        rcases List.mem_append.1 hy with hy | hy
        · rcases walk_seen i hw y hy with rfl | ⟨a, ha, e', he1, he2⟩
          · exact .inr ⟨way[i], by rw [List.take_add_one, hx]; exact List.mem_append_right _ (by simp), e, h2, h3⟩
          · exact .inr ⟨a, hin a ha, e', he1, he2⟩
        · simp at hy; exact .inl hy
    · rw [List.take_of_length_le (by omega)] at h ⊢
      have := walk_seen i (way := way) (p := p) (seen := seen) (by rw [List.take_of_length_le (by omega)]; exact h) y hy
      rwa [List.take_of_length_le (by omega)] at this
theorem walk_pre {l : List Tri} {s : Int} {way : List Int} {r : Int × List Int} (h : walkW l s way = some r) {j : Nat} {a : Int} {e : Tri} (ha : way[j]? = some a) (he : l[a.toNat]? = some e) : ∃ seen, walkW l s (way.take j) = some (e.1, seen) := by
  have h1 := walk_take (l := l) (s := s) ha
  cases hw : walkW l s (way.take j) with
  | none =>
    rw [walk_none hw] at h; cases h
  | some r0 =>
    obtain ⟨p0, seen0⟩ := r0
    rw [hw] at h1
    cases hs : stepW l (some (p0, seen0)) a with
    | none => rw [hs] at h1; rw [walk_none h1] at h; cases h
    | some r1 =>
      obtain ⟨p1, seen1⟩ := r1
      obtain ⟨e', g1, g2, g3, g4, g5, g6⟩ := stepW_inv hs
      rw [he] at g2; cases g2
      exact ⟨seen0, by rw [g3]⟩
theorem walk_snoc {l : List Tri} {s p : Int} {way seen : List Int} {a : Nat} {e : Tri} (h : walkW l s way = some (p, seen)) (he : l[a]? = some e) (h1 : e.1 = p) (h2 : e.2.1 ∉ seen) : walkW l s (way ++ [(a : Int)]) = some (e.2.1, seen ++ [e.2.1]) := by
  have : walkW l s (way ++ [(a : Int)]) = stepW l (walkW l s way) (a : Int) := by simp [walkW, List.foldl_append]
  rw [this, h, stepW_ok he h1 h2]
def Bal (P : Int) (l : List Tri) (F : List Int) (s t p : Nat) (k : Int) : Prop := ∀ q : Nat, (q : Int) < P → q ≠ t → netZ (l.zip F) q = (if q = p then 1 else 0) + (if q = s then k else 0)
theorem Bal.step {P k : Int} {l : List Tri} {F : List Int} {s t p y i : Nat} {e : Tri} (h : Bal P l F s t p k) (he : l[i]? = some e) (hf : F[i]? = some 1) (h1 : e.1 = (p : Int)) (h2 : e.2.1 = (y : Int)) (hne : p ≠ y) : Bal P l (F.set i 0) s t y k := fun q hq ht => by
  rw [net_set q l F i e 1 he hf, h q hq ht]
  simp only [net1, h1, h2]
  have e1 : ((p : Int) = (q : Int)) = (q = p) := propext ⟨fun _ => by omega, fun _ => by omega⟩
  have e2 : ((y : Int) = (q : Int)) = (q = y) := propext ⟨fun _ => by omega, fun _ => by omega⟩
  simp only [e1, e2]
  by_cases a1 : q = p
  · by_cases a2 : q = y
    · omega
    · rw [if_pos a1, if_neg a2]; omega
  · by_cases a2 : q = y
    · rw [if_neg a1, if_pos a2]; omega
    · rw [if_neg a1, if_neg a2]; omega
end Go.Proofs.YtkgfjfkgmpeobaaDoor

open Go Go.Eng
namespace Go.Proofs.YtkgfjfkgmpeobaaDoor
attribute [local congr] undef_congr WpK.congr WpS.congr WpL.congr WpC.congr WpF.congr gotS.congr callS.congr nextS.congr wantS.congr condS.congr
attribute [local irreducible] WpK
attribute [local simp] WpDr_nil WpDr_cons atS_some dwantS_true dwantS_false kindS_light kindS_float kindS_heavy lightS_value floatS_some heavyS_value heavyS_skip heavyS_enter dcallS_some doneS_eq
  isLight isFloat isPlain dLook testBit_dec dChain dLights_nil dLights_skip dLights_one dLight_nil dLight_cons dFreshes_nil dFreshes_one oneF_none oneF_some dFresh_nil dFresh_cons oneL_some oneW_true oneW_false sameV_value dPut dMay valEq arrEq listEq List.getElem?_cons Tr.get_nil dEnd
attribute [local simp] WpS_nil WpS_cons isDefer undef_false wantS_true wantS_false nextS_value nextS_skip nextS_enter callS_some gotS_some aWanted aOp aEvalF aEval opMove opAssign opPick aVal flat flat1 AAct.put opBinOp opConvert opIndex Tr.get_set Tr.get_lay aBin aResults tupled
  aCall aVals aCallB blt_dec ble_dec beq_dec aBinI_add aBinI_sub aBinI_lss aBinI_leq aBinI_gtr aBinI_geq aBinI_eql aBinI_neq index_str len_str len_slice Nat.beq_refl und2 und3 und4 und5 und39 und76 und82 und115 und22 und29 und25 und33 und46 und43 und49 und111 und113 field151 field155_0 field155_1 field155_2 field155_3 field155_4
  field78 field106 field24 field31 field27 field35 field108 field109 opBox opLoad opFieldAddr opIndexAddr acells aAddr opExtract aExtract opUnOp opAlloc opStore opMakeInterface opNilCheck opBuild aParts opBuildSlice aValW
set_option maxHeartbeats 4000000
set_option linter.unusedSimpArgs false
set_option linter.unusedVariables false
theorem zero3' : aZero T0 3 = some (.int .i64 0) := by kernel_rfl
theorem way_len {way : List Int} {n : Nat} (h : way.Nodup) (hm : ∀ a ∈ way, 0 ≤ a ∧ a < (n : Int)) : way.length ≤ n := by
  obtain ⟨T, _, h2⟩ := set_of n way h hm
  rw [← h2]; exact cntB_max T n
theorem unwind_wp {W : AW} {v fv : Value} {P : Int} {s t pf : Nat} {l : List Tri} {F : List Int} {k : Int} (hTri : ∀ W', Only (fun b => b = pf) W W' → TriIn W' v l) (hV : Var W pf 2 (intsV F)) (hfv : fv = .slice (some ⟨pf, 0, none⟩) l.length (2 * l.length)) (hok : planOk P (arcsQ l) = true) (hst : two? s t P = true) (hF : F.length = l.length) (hone : onesF F) (hk : 0 ≤ k) (hbal : Bal P l F s t s k) :
    WpF T0 60 [.agg ⟨[.int .i64 P, v]⟩, .int .i64 s, .int .i64 t, fv] W (fun u W' => Only (fun b => b = pf) W W' ∧ ∃ (way F' : List Int) (K : Nat → Prop), HeldT W' u way K ∧ (∀ b, K b → W.next ≤ b ∧ b < W'.next) ∧ Var W' pf 2 (intsV F') ∧ F'.length = l.length ∧ onesF F' ∧ isW l s t way ∧ way.Nodup ∧ Bal P l F' s t t k ∧ (∀ i : Nat, F'[i]? = some 1 → F[i]? = some 1) ∧ ∀ a ∈ way, F[a.toNat]? = some 1 ∧ F'[a.toNat]? = some 0) := by
  obtain ⟨hin, h200, hP2, hP24, harc⟩ := arc_ok hok
  have hst' : s < P ∧ t < P ∧ s ≠ t := by simp only [two?, Bool.and_eq_true, decide_eq_true_eq] at hst; omega
  have hpfW := hV.1
  have h0 := hTri W (.refl _ _)
  have hve := tri_eq h0
  obtain ⟨Av, cv, hvv, hA⟩ := h0
  refine wpF fun60 rfl ?_
  obtain ⟨W0, hW0, hE0, hV0⟩ : ∃ W0, W0 = W.newCells 31 [.int .i64 P, v] ∧ Ext W W0 ∧ Var W0 W.next 31 [.int .i64 P, v] := ⟨_, rfl, .newCells _ _ _, Var.new _ _ _⟩
  obtain ⟨W1, s1, s2, hE1, hV1⟩ := storeVar_new (T := T0) (W := W0) (t := 3) (v := .int .i64 (s : Int)) (z := [.int .i64 0]) inf3 (by rw [is3]; rfl) (by rw [is3]; rfl) rfl
  have hn0 : W0.next = W.next + 1 := by rw [hW0]; rfl
  try simp only [wpK_assoc]
  refine wpK_reg (fun R hR => by simp [← hW0]; exact hR) ?_
  try simp only [wpK_assoc]
  refine wpK_reg (fun R hR => by simp []; exact hR) ?_
  try simp only [wpK_assoc]
  refine wpK_reg (fun R hR => by simp [zero3', s1]; exact hR) ?_
  have hE01 := hE0.trans hE1
  have n1 := hE1.1
  have ixf : ∀ i, i < l.length → aIndexAddr T0 43 fv (.int .i64 (i : Int)) = some (.pointer (some ⟨pf, i, none⟩)) := fun i hi => by
    have := indexAddr_slice (T := T0) und43 sz2 (b := pf) (o := 0) (c := 2 * l.length) (k := .i64) hi
    rw [Nat.mul_one, Nat.zero_add] at this
    rw [hfv]; exact this
  have tri : ∀ W', Only (fun b => b = pf) W0 W' → TriIn W' v l := fun W' ho => hTri W' (only_trans (only_ext hE0) ho)
  have l29 : ∀ W', Only (fun b => b = pf) W0 W' → aLoadVar T0 W' 29 W.next 1 = some v := fun W' ho => (hV0.only ho (by omega)).load1 (T := T0) und29 rfl (j := 1) (v := v) rfl
  have arcs : ∀ W', Only (fun b => b = pf) W0 W' → ∀ (i : Nat) e, l[i]? = some e → ∃ b o, aIndexAddr T0 29 v (.int .i64 (i : Int)) = some (.pointer (some ⟨b, o, none⟩)) ∧ aLoadVar T0 W' 3 b o = some (.int .i64 e.1) ∧ aLoadVar T0 W' 3 b (o + 1) = some (.int .i64 e.2.1) := fun W' ho i e he => by
    obtain ⟨A, c, hv, hA⟩ := tri W' ho
    obtain ⟨b, o, hAe, q1, q2, q3⟩ := hA i _ he
    have hlt := (List.getElem?_eq_some_iff.1 he).1
    have eV := indexAddr_tri (T := T0) und29 sz106 (b := b) (o := o) (c := c) (k := .i64) hlt
    rw [← hAe, ← hv] at eV
    exact ⟨b, o + 3 * i, eV, load_of und3 rfl q1, load_of und3 rfl q2⟩
  clear hfv
  try simp only [wpK_assoc]
  refine wpK_while (I := fun m A' W' => A'.n = 59 ∧ A'.defers = [] ∧ A'.tmps.get 2 = some (.int .i64 t) ∧ A'.tmps.get 3 = some (fv) ∧ A'.tmps.get 4 = some (.pointer (some ⟨W.next, 0, none⟩)) ∧ Only (fun b => b = pf) W0 W' ∧ ∃ (pa p : Nat) (way seen G : List Int) (wv : Value) (K : Nat → Prop), m = G.sum.toNat ∧ A'.tmps.get 10 = some (.pointer (some ⟨pa, 0, none⟩)) ∧ A'.tmps.get 9 = some wv ∧ W0.next ≤ pa ∧ pa < W'.next ∧ Var W' pa 3 [.int .i64 (p : Int)] ∧ HeldT W' wv way K ∧ (∀ b, K b → W0.next ≤ b ∧ b < W'.next ∧ b ≠ pa) ∧ Var W' pf 2 (intsV G) ∧ G.length = l.length ∧ onesF G ∧ (p : Int) < P ∧ walkW l s way = some ((p : Int), seen) ∧ way.Nodup ∧ Bal P l G s t p k ∧ (∀ i : Nat, G[i]? = some 1 → F[i]? = some 1) ∧ ∀ a ∈ way, F[a.toNat]? = some 1 ∧ G[a.toNat]? = some 0)
    (J := fun A' W' => A'.n = 59 ∧ A'.defers = [] ∧ A'.tmps.get 2 = some (.int .i64 t) ∧ A'.tmps.get 3 = some (fv) ∧ A'.tmps.get 4 = some (.pointer (some ⟨W.next, 0, none⟩)) ∧ Only (fun b => b = pf) W0 W' ∧ ∃ (way seen G : List Int) (wv : Value) (K : Nat → Prop), A'.tmps.get 9 = some wv ∧ HeldT W' wv way K ∧ (∀ b, K b → W0.next ≤ b ∧ b < W'.next) ∧ Var W' pf 2 (intsV G) ∧ G.length = l.length ∧ onesF G ∧ walkW l s way = some ((t : Int), seen) ∧ way.Nodup ∧ Bal P l G s t t k ∧ (∀ i : Nat, G[i]? = some 1 → F[i]? = some 1) ∧ ∀ a ∈ way, F[a.toNat]? = some 1 ∧ G[a.toNat]? = some 0)
    (Rt := fun _ _ => False) (k := F.sum.toNat) ?_ ?_ ?_ ?_
  · exact ⟨rfl, rfl, by simp, by simp, by simp, only_ext hE1, W0.next, s, [], [(s : Int)], F, .slice none 0 0, fun _ => False, rfl, by simp, by simp, Nat.le_refl _, hV1.1, hV1, .nil _ _, fun b hb => hb.elim, hV.ext hE01, hF, hone, hst'.1, rfl, by simp, hbal, fun i h => h, by simp⟩
  · rintro m ⟨tm, n, ds⟩ Wa ⟨hn, hd, h2, h3, h4, hOa, pa, p, way, seen, G, wv, K, hm, h10, h9, hpa0, hpan, hVa, hH, hK, hVf, hGl, hG1, hpP, hwk, hnd, hB, hGF, hwF⟩ Q' hJ hRt hI
    simp only at hn hd h2 h3 h4
    subst hn; subst hd
    simp only at h10 h9
    have lat := hVa.load1 (T := T0) und3 rfl (j := 0) (v := .int .i64 (p : Int)) rfl
    have hna := hOa.1
    by_cases hpt : p = t
    · subst hpt
      try simp only [wpK_assoc]
      refine wpK_reg (fun R hR => by simp [h2, h10, lat]; exact hR) ?_
      try simp only [wpK_assoc]
      first | refine wpK_onF (by simp []) ?_ | refine wpK_out (by simp []) ?_ | refine wpK_condF (by simp []) ?_ | refine wpK_endF (by simp []) (wpK_skip ?_) | refine wpK_endF (by simp []) ?_
      exact hJ _ _ ⟨rfl, rfl, by simp [h2, h3, h4], by simp [h2, h3, h4], by simp [h2, h3, h4], hOa, way, seen, G, wv, K, by simp [h9], hH, fun b hb => ⟨(hK b hb).1, (hK b hb).2.1⟩, hVf, hGl, hG1, hwk, hnd, hB, hGF, hwF⟩
    have hpt' : ¬ (p : Int) = (t : Int) := by omega
    try simp only [wpK_assoc]
    refine wpK_reg (fun R hR => by simp [h2, h10, lat, hpt']; exact hR) ?_
    try simp only [wpK_assoc]
    first | refine wpK_onT (by simp [hpt]) ?_ | refine wpK_outT (by simp [hpt]) ?_ | refine wpK_condT (by simp [hpt]) ?_ | refine wpK_endT (by simp [hpt]) ?_
    have hpos : 0 < netZ (l.zip G) p := by
      rw [hB p hpP hpt, if_pos rfl]
      split <;> omega
    obtain ⟨i0, e0, f0, x1, x2, x3, x4⟩ := net_out p l G (fun f hf => by have := hG1 f hf; omega) hpos
    refine wpK_block ?_
    try simp only [wpK_assoc]
    refine wpK_reg (fun R hR => by simp []; exact hR) ?_
    have l29a := l29 Wa hOa
    try simp only [wpK_assoc]
    refine wpK_while (I := fun m A' W' => A'.n = 59 ∧ A'.defers = [] ∧ A'.tmps.get 2 = some (.int .i64 t) ∧ A'.tmps.get 3 = some (fv) ∧ A'.tmps.get 4 = some (.pointer (some ⟨W.next, 0, none⟩)) ∧ A'.tmps.get 9 = some (wv) ∧ A'.tmps.get 10 = some (.pointer (some ⟨pa, 0, none⟩)) ∧ W' = Wa ∧ ∃ (i : Nat), m = i0 - i ∧ i ≤ i0 ∧ A'.tmps.get 11 = some (.int .i64 (i : Int)))
      (J := fun A' W' => A'.n = 59 ∧ A'.defers = [] ∧ A'.tmps.get 2 = some (.int .i64 t) ∧ A'.tmps.get 3 = some (fv) ∧ A'.tmps.get 4 = some (.pointer (some ⟨W.next, 0, none⟩)) ∧ A'.tmps.get 9 = some (wv) ∧ A'.tmps.get 10 = some (.pointer (some ⟨pa, 0, none⟩)) ∧ W' = Wa ∧ ∃ (i : Nat) (e : Tri), A'.tmps.get 11 = some (.int .i64 (i : Int)) ∧ l[i]? = some e ∧ G[i]? = some 1 ∧ e.1 = (p : Int))
      (Rt := fun _ _ => False) (k := i0) ?_ ?_ ?_ ?_
    · exact ⟨rfl, rfl, by simp [h2, h3, h4, h9, h10], by simp [h2, h3, h4, h9, h10], by simp [h2, h3, h4, h9, h10], by simp [h2, h3, h4, h9, h10], by simp [h2, h3, h4, h9, h10], rfl, 0, by omega, by omega, by simp⟩
    · rintro m ⟨tm, n, ds⟩ Wb ⟨hn, hd, h2, h3, h4, h9, h10, eb, i, hmi, hi, h11⟩ Q2 hJ2 hRt2 hI2
      simp only at hn hd h2 h3 h4 h9 h10
      subst hn; subst hd
      simp only at h11
      rw [eb]
      have hi0 := (List.getElem?_eq_some_iff.1 x1).1
      have hil : i < l.length := by omega
      have he : l[i]? = some l[i] := List.getElem?_eq_getElem hil
      have hf : G[i]? = some (G[i]'(by omega)) := List.getElem?_eq_getElem (by omega)
      generalize l[i] = e at he
      have hf01 := hG1 _ (List.mem_of_getElem? hf)
      generalize G[i]'_ = f at hf hf01
      obtain ⟨b, o, eV, la1, la2⟩ := arcs Wa hOa i e he
      have eF := ixf i hil
      have lF := hVf.load1 (T := T0) und2 rfl (j := i) (v := .int .i64 f) (by rw [intsV, List.getElem?_map, hf]; rfl)
      have next : ¬ (e.1 = (p : Int) ∧ f ≠ 0) → i < i0 := fun hx => by
        by_cases e : i = i0
        · subst e
          rw [x1] at he; rw [x2] at hf; cases he; cases hf
          exact absurd ⟨x3, x4⟩ hx
        · omega
      by_cases c1 : e.1 = (p : Int)
      case neg =>
        have hlt := next (fun x => c1 x.1)
        try simp only [wpK_assoc]
        refine wpK_dn (wr := Tr.nil |>.set 18 0 |>.set 19 1 |>.set 20 2 |>.set 21 3 |>.set 22 4 |>.set 23 5 |>.set 24 6 |>.set 25 7 |>.set 26 8 |>.set 27 9 |>.set 28 10 |>.set 29 11 |>.set 30 12 |>.set 31 13 |>.set 32 14) (bits := Tr.nil.lay 0 [0, 1, 0, 7, 15, 31, 0, 127, 255, 511, 511, 2047, 4095, 8191, 16383]) (ord := [0, 1, 2, 3, 4, 5, 6, 7, 8, 9, 10, 11, 12, 13, 14]) (by kernel_rfl) (by kernel_rfl) (by kernel_rfl) (fun G hG => by
          simp [h3, h4, h10, h11, l29a, eV, la1, lat, c1, hve, undef]
          exact hG) ?_
        try simp only [wpK_assoc]
        first | refine wpK_onT (by simp []) ?_ | refine wpK_outT (by simp []) ?_ | refine wpK_condT (by simp []) ?_ | refine wpK_endT (by simp []) ?_
        refine wpK_block1 ?_
        try simp only [wpK_assoc]
        refine wpK_reg1 (fun R hR => by simp [h11]; exact hR) ?_
        try simp only [leaves_normal, behind_normal]
        exact hI2 (i0 - (i + 1)) _ _ (by omega) ⟨rfl, rfl, by simp [h2, h3, h4, h9, h10], by simp [h2, h3, h4, h9, h10], by simp [h2, h3, h4, h9, h10], by simp [h2, h3, h4, h9, h10], by simp [h2, h3, h4, h9, h10], rfl, i + 1, rfl, by omega, by simp [i64_succ i (by omega)]⟩
      rcases hf01 with rfl | rfl
      · have hlt := next (fun x => x.2 rfl)
        try simp only [wpK_assoc]
        refine wpK_dn (wr := Tr.nil |>.set 18 0 |>.set 19 1 |>.set 20 2 |>.set 21 3 |>.set 22 4 |>.set 23 5 |>.set 24 6 |>.set 25 7 |>.set 26 8 |>.set 27 9 |>.set 28 10 |>.set 29 11 |>.set 30 12 |>.set 31 13 |>.set 32 14) (bits := Tr.nil.lay 0 [0, 1, 0, 7, 15, 31, 0, 127, 255, 511, 511, 2047, 4095, 8191, 16383]) (ord := [0, 1, 2, 3, 4, 5, 6, 7, 8, 9, 10, 11, 12, 13, 14]) (by kernel_rfl) (by kernel_rfl) (by kernel_rfl) (fun G hG => by
          simp [h3, h4, h10, h11, l29a, eV, la1, lat, c1, eF, lF, hve]
          exact hG) ?_
        try simp only [wpK_assoc]
        first | refine wpK_onT (by simp []) ?_ | refine wpK_outT (by simp []) ?_ | refine wpK_condT (by simp []) ?_ | refine wpK_endT (by simp []) ?_
        refine wpK_block1 ?_
        try simp only [wpK_assoc]
        refine wpK_reg1 (fun R hR => by simp [h11]; exact hR) ?_
        try simp only [leaves_normal, behind_normal]
        exact hI2 (i0 - (i + 1)) _ _ (by omega) ⟨rfl, rfl, by simp [h2, h3, h4, h9, h10], by simp [h2, h3, h4, h9, h10], by simp [h2, h3, h4, h9, h10], by simp [h2, h3, h4, h9, h10], by simp [h2, h3, h4, h9, h10], rfl, i + 1, rfl, by omega, by simp [i64_succ i (by omega)]⟩
      · try simp only [wpK_assoc]
        refine wpK_dn (wr := Tr.nil |>.set 18 0 |>.set 19 1 |>.set 20 2 |>.set 21 3 |>.set 22 4 |>.set 23 5 |>.set 24 6 |>.set 25 7 |>.set 26 8 |>.set 27 9 |>.set 28 10 |>.set 29 11 |>.set 30 12 |>.set 31 13 |>.set 32 14) (bits := Tr.nil.lay 0 [0, 1, 0, 7, 15, 31, 0, 127, 255, 511, 511, 2047, 4095, 8191, 16383]) (ord := [0, 1, 2, 3, 4, 5, 6, 7, 8, 9, 10, 11, 12, 13, 14]) (by kernel_rfl) (by kernel_rfl) (by kernel_rfl) (fun G hG => by
          simp [h3, h4, h10, h11, l29a, eV, la1, lat, c1, eF, lF, hve]
          exact hG) ?_
        try simp only [wpK_assoc]
        first | refine wpK_onF (by simp []) ?_ | refine wpK_out (by simp []) ?_ | refine wpK_condF (by simp []) ?_ | refine wpK_endF (by simp []) (wpK_skip ?_) | refine wpK_endF (by simp []) ?_
        exact hJ2 _ _ ⟨rfl, rfl, by simp [h2, h3, h4, h9, h10], by simp [h2, h3, h4, h9, h10], by simp [h2, h3, h4, h9, h10], by simp [h2, h3, h4, h9, h10], by simp [h2, h3, h4, h9, h10], rfl, i, e, by simp [h11], he, hf, c1⟩
    · rintro A' W' hf; exact hf.elim
    · rintro ⟨tm, n, ds⟩ Wb ⟨hn, hd, h2, h3, h4, h9, h10, eb, i, e, h11, he, hf, hep⟩
      simp only at hn hd h2 h3 h4 h9 h10
      subst hn; subst hd
      simp only at h11
      rw [eb]
      have hil := (List.getElem?_eq_some_iff.1 he).1
      obtain ⟨i1, i2, i3, i4, i5, i6⟩ := harc e (List.mem_of_getElem? he)
      obtain ⟨y, hy⟩ : ∃ y : Nat, e.2.1 = y := ⟨e.2.1.toNat, by omega⟩
      have hpy : p ≠ y := by omega
      have eF := ixf i hil
      obtain ⟨Wc, c1, c2, c3, c4⟩ := hVf.store (T := T0) (t := 2) (v := .int .i64 0) (o := i) inf2 (by rw [is2]; rfl) (by rw [intsV_len, hGl]; exact hil) rfl
      have c4 : Var Wc pf 2 ((intsV G).take i ++ [.int .i64 0] ++ (intsV G).drop (i + 1)) := c4
      rw [set_ints _ _ _ (by rw [hGl]; exact hil)] at c4
      try simp only [wpK_assoc]
      refine wpK_reg (fun R hR => by simp [h3, h11, eF, c1]; exact hR) ?_
      have hpfn : pf < W0.next := by omega
      have hHc := hH.only c3 (fun b hb hk e => by have := (hK b hk).1; omega)
      have hmem : ∀ a ∈ way, 0 ≤ a ∧ a < (l.length : Int) := walk_mem hwk
      have hwl := way_len hnd hmem
      obtain ⟨wv', Wd, K', d1, d2, d3, d4, d5⟩ := hHc.push (by omega) (i : Int)
      have hb46 := bs46' Wc (i : Int)
      try simp only [wpK_assoc]
      refine wpK_reg (fun R hR => by simp [h9, h11, hb46, d1]; exact hR) ?_
      have hOd : Only (fun b => b = pf) W0 Wd := ⟨by have := c3.1; omega, fun b hb hk => by rw [d4.2 b (by have := c3.1; omega) (fun hh => by have := (hK b hh).1; omega), c3.2 b (by omega) hk]; exact hOa.2 b hb hk⟩
      obtain ⟨b, o, eV, la1, la2⟩ := arcs Wd hOd i e he
      rw [hy] at la2
      have hVd := (hVa.only c3 (by omega)).only d4 (fun hh => (hK pa hh).2.2 rfl)
      obtain ⟨We, g1, g2, g3, g4⟩ := hVd.store (T := T0) (t := 3) (v := .int .i64 (y : Int)) (o := 0) inf3 (by rw [is3]; rfl) (by simp) rfl
      have g4 : Var We pa 3 [.int .i64 (y : Int)] := by simpa using g4
      have l29d := l29 Wd hOd
      try simp only [wpK_assoc]
      refine wpK_reg (fun R hR => by simp [h4, h10, h11, l29d, eV, la2, g1]; exact hR) ?_
      have hOe : Only (fun b => b = pf) W0 We := ⟨by have := hOd.1; have := g3.1; omega, fun b hb hk => by rw [g3.2 b (by have := hOd.1; omega) (by omega)]; exact hOd.2 b hb hk⟩
      have hK' : ∀ b, K' b → W0.next ≤ b ∧ b < We.next ∧ b ≠ pa := fun b hb => by
        have n3 := c3.1
        have n4 := g3.1
        rcases d3 b hb with hb | ⟨hb, hb2⟩
        · have := hK b hb; omega
        · omega
      have hHe : HeldT We wv' (way ++ [(i : Int)]) K' := d2.only g3 (fun b hb hk e => (hK' b hk).2.2 e)
      have hVfe : Var We pf 2 (intsV (G.set i 0)) := (c4.only d4 (fun hh => by have := (hK pf hh).1; omega)).only g3 (by omega)
      have late := g4.load1 (T := T0) und3 rfl (j := 0) (v := .int .i64 (y : Int)) rfl
      try simp only [wpK_assoc]
      refine wpK_reg (fun R hR => by simp [h4, h10, opMakeFunc]; exact hR) ?_
      have l29e := l29 We hOe
      have hTe := tri We hOe
      obtain ⟨Ae, ce, hve2, _⟩ := hTe
      have hTe := tri We hOe
      rw [hve2] at hTe l29e
      have hmem2 : ∀ x ∈ way ++ [(i : Int)], 0 ≤ x ∧ x < (l.length : Int) := fun x hx => by
        rcases List.mem_append.1 hx with hx | hx
        · exact hmem x hx
        · simp at hx; omega
      have hidx := indexFunc_wp (W := We) (f := fun x => ∃ e', l[x.toNat]? = some e' ∧ e'.1 = (y : Int)) (cap := [.pointer (some ⟨W.next, 0, none⟩), .pointer (some ⟨pa, 0, none⟩)]) hHe.ints (by simp; omega) (fun x hx => by
        obtain ⟨m1, m2⟩ := hmem2 x hx
        obtain ⟨j, rfl⟩ : ∃ j : Nat, x = j := ⟨x.toNat, by omega⟩
        have hj : l[j]? = some (l[j]'(by omega)) := List.getElem?_eq_getElem (by omega)
        refine (begins_wp hTe hj l29e late).mono ?_
        rintro _ W9 ⟨e9, rfl⟩
        refine ⟨e9, ?_⟩
        congr 1
        refine decide_eq_decide.2 ⟨fun h => ⟨_, by rw [Int.toNat_natCast]; exact hj, h⟩, fun ⟨e', h1, h2⟩ => ?_⟩
        rw [Int.toNat_natCast, hj] at h1; cases h1; exact h2)
      have newB : Bal P l (G.set i 0) s t y k := hB.step he hf hep hy hpy
      have newG : ∀ j : Nat, (G.set i 0)[j]? = some 1 → F[j]? = some 1 := fun j hj => by
        by_cases e : j = i
        · subst e
          rw [List.getElem?_set_self (by omega)] at hj; cases hj
        · rw [List.getElem?_set_ne (fun x => e x.symm)] at hj; exact hGF j hj
      have hni : (i : Int) ∉ way := fun hx => by
        have := (hwF _ hx).2
        rw [Int.toNat_natCast, hf] at this; cases this
      have newF : ∀ a ∈ way ++ [(i : Int)], F[a.toNat]? = some 1 ∧ (G.set i 0)[a.toNat]? = some 0 := fun a ha => by
        rcases List.mem_append.1 ha with ha | ha
        · refine ⟨(hwF a ha).1, ?_⟩
          have := (hmem a ha).1
          rw [List.getElem?_set_ne (fun x => hni (by rw [x, Int.toNat_of_nonneg this]; exact ha))]
          exact (hwF a ha).2
        · simp at ha; subst ha
          rw [Int.toNat_natCast]
          exact ⟨hGF i hf, List.getElem?_set_self (by omega)⟩
      have newnd : (way ++ [(i : Int)]).Nodup := List.nodup_append.2 ⟨hnd, by simp, fun a ha b hb e => by simp at hb; subst hb; subst e; exact hni ha⟩
      have hsum := sum_set0 G i 1 hf
      have hpos1 := ones_sum _ (ones_set hG1 i)
      have hGle : (G.set i 0).length = l.length := by rw [List.length_set]; exact hGl
      try simp only [wpK_assoc]
      refine wpK_x1 (P := fun (u : Value) W9 => W9 = We ∧ (((∀ x ∈ way ++ [(i : Int)], ¬ ∃ e', l[x.toNat]? = some e' ∧ e'.1 = (y : Int)) ∧ u = .int .i64 (-1)) ∨ ∃ (j : Nat) (x : Int), (way ++ [(i : Int)])[j]? = some x ∧ (∃ e', l[x.toNat]? = some e' ∧ e'.1 = (y : Int)) ∧ u = .int .i64 (j : Int))) (fun R hR => by
        simp [aEnter, fun80, short_other, aCallV]; rw [callS_none]
        refine hidx.mono ?_
        rintro u W9 ⟨e9, hh⟩
        simp; exact hR u W9 (And.intro e9 hh)) ?_
      rintro u W9 ⟨e9, hcase⟩
      rw [e9]
      refine wpK_cut1 (J := fun A' W' => A'.n = 59 ∧ A'.defers = [] ∧ A'.tmps.get 2 = some (.int .i64 t) ∧ A'.tmps.get 3 = some (fv) ∧ A'.tmps.get 4 = some (.pointer (some ⟨W.next, 0, none⟩)) ∧ A'.tmps.get 10 = some (.pointer (some ⟨pa, 0, none⟩)) ∧ W' = We ∧ ∃ (way2 seen2 : List Int) (wv2 : Value), A'.tmps.get 9 = some wv2 ∧ HeldT We wv2 way2 K' ∧ walkW l s way2 = some ((y : Int), seen2) ∧ way2.Nodup ∧ ∀ a ∈ way2, a ∈ way ++ [(i : Int)]) (fun Q3 hQ3 => ?_) ?_
      · rcases hcase with ⟨hnone, rfl⟩ | ⟨j, x, hjx, ⟨e', he1, he2⟩, rfl⟩
        · try simp only [wpK_assoc]
          refine wpK_reg (fun R hR => by simp []; exact hR) ?_
          first | refine wpK_endF (by simp) (wpK_skip ?_) | refine wpK_onF (by simp) ?_
          have hys : e.2.1 ∉ seen := fun hh => by
            rw [hy] at hh
            have hwk' : walkW l s (way.take way.length) = some ((p : Int), seen) := by rw [List.take_length]; exact hwk
            rcases walk_seen way.length hwk' _ hh with h1 | ⟨a, ha, e', h1, h2⟩
            · omega
            · rw [List.take_length] at ha
              exact hnone a (List.mem_append_left _ ha) ⟨e', h1, h2⟩
          have hsn := walk_snoc hwk he hep hys
          rw [hy] at hsn
          exact hQ3 _ _ ⟨rfl, rfl, by simp [h2, h3, h4, h10], by simp [h2, h3, h4, h10], by simp [h2, h3, h4, h10], by simp [h2, h3, h4, h10], rfl, way ++ [(i : Int)], _, wv', by simp, hHe, hsn, newnd, fun a ha => ha⟩
        · have hjl : j < way.length := by
            have h1 := (List.getElem?_eq_some_iff.1 hjx).1
            simp at h1
            by_cases e : j = way.length
            · subst e
              simp at hjx
              subst hjx
              rw [Int.toNat_natCast, he] at he1; cases he1
              omega
            · omega
          rw [List.getElem?_append_left hjl] at hjx
          obtain ⟨seen2, hpre⟩ := walk_pre hwk hjx he1
          rw [he2] at hpre
          obtain ⟨wv2, k1, k2⟩ := hHe.cut (k := j) (by simp; omega)
          rw [List.take_append_of_le_length (by omega)] at k2
          have hj0 : (0 : Int) ≤ (j : Int) := by omega
          try simp only [wpK_assoc]
          refine wpK_reg (fun R hR => by simp [hj0]; exact hR) ?_
          try simp only [wpK_assoc]
          first | refine wpK_onT (by simp []) ?_ | refine wpK_outT (by simp []) ?_ | refine wpK_condT (by simp []) ?_ | refine wpK_endT (by simp []) ?_
          try simp only [wpK_assoc]
          refine wpK_reg1 (fun R hR => by simp [opSlice, aOpt, k1]; exact hR) ?_
          exact hQ3 _ _ ⟨rfl, rfl, by simp [h2, h3, h4, h10], by simp [h2, h3, h4, h10], by simp [h2, h3, h4, h10], by simp [h2, h3, h4, h10], rfl, way.take j, seen2, wv2, by simp, k2, hpre, hnd.sublist (List.take_sublist _ _), fun a ha => List.mem_append_left _ (List.mem_of_mem_take ha)⟩
      · rintro ⟨tm, n, ds⟩ Wz ⟨hn, hd, h2, h3, h4, h10, ez, way2, seen2, wv2, h9, hH2, hwk2, hnd2, hsub⟩
        simp only at hn hd h2 h3 h4 h10
        subst hn; subst hd
        simp only at h9
        rw [ez]
        simp only [leaves_normal, behind_normal]
        try simp only [wpK_assoc]
        refine wpK_reg (fun R hR => by simp [h10, late]; exact hR) ?_
        obtain ⟨Wf, f1, f2, f3, f4⟩ := storeVar_new (T := T0) (W := We) (t := 3) (v := .int .i64 (y : Int)) (z := [.int .i64 0]) inf3 (by rw [is3]; rfl) (by rw [is3]; rfl) rfl
        have f4 : Var Wf We.next 3 [.int .i64 (y : Int)] := f4
        try simp only [wpK_assoc]
        refine wpK_reg1 (fun R hR => by simp [zero3', f1]; exact hR) ?_
        have nf := f3.1
        have ne0 := hOe.1
        exact hI (G.set i 0).sum.toNat _ _ (by omega) ⟨rfl, rfl, by simp [h2, h3, h4], by simp [h2, h3, h4], by simp [h2, h3, h4], only_trans hOe (only_ext f3), We.next, y, way2, seen2, G.set i 0, wv2, K', rfl, by simp, by simp [h9], by omega, f4.1, f4, hH2.only (K' := fun _ => False) f3 (fun _ _ _ x => x), fun b hb => by have := hK' b hb; omega, hVfe.ext f3, hGle, ones_set hG1 i, by omega, hwk2, hnd2, newB, newG, fun a ha => newF a (hsub a ha)⟩
  · rintro A' W' hf; exact hf.elim
  · rintro ⟨tm, n, ds⟩ Wa ⟨hn, hd, h2, h3, h4, hOa, way, seen, G, wv, K, h9, hH, hK, hVf, hGl, hG1, hwk, hnd, hB, hGF, hwF⟩
    simp only at hn hd h2 h3 h4
    subst hn; subst hd
    simp only at h9
    try simp only [wpK_assoc]
    refine wpK_reg (fun R hR => by simp [h9]; exact hR) ?_
    exact wpK_ret ⟨.inr rfl, rfl, [wv], by simp, only_trans (only_ext hE0) hOa, way, G, K, hH, fun b hb => ⟨by have := (hK b hb).1; omega, (hK b hb).2⟩, hVf, hGl, hG1, ⟨seen, hwk⟩, hnd, hB, hGF, hwF⟩
end Go.Proofs.YtkgfjfkgmpeobaaDoor

open Go Go.Eng
namespace Go.Proofs.YtkgfjfkgmpeobaaDoor
attribute [local congr] undef_congr WpK.congr WpS.congr WpL.congr WpC.congr WpF.congr gotS.congr callS.congr nextS.congr wantS.congr condS.congr
attribute [local irreducible] WpK
attribute [local simp] WpDr_nil WpDr_cons atS_some dwantS_true dwantS_false kindS_light kindS_float kindS_heavy lightS_value floatS_some heavyS_value heavyS_skip heavyS_enter dcallS_some doneS_eq
  isLight isFloat isPlain dLook testBit_dec dChain dLights_nil dLights_skip dLights_one dLight_nil dLight_cons dFreshes_nil dFreshes_one oneF_none oneF_some dFresh_nil dFresh_cons oneL_some oneW_true oneW_false sameV_value dPut dMay valEq arrEq listEq List.getElem?_cons Tr.get_nil dEnd
attribute [local simp] WpS_nil WpS_cons isDefer undef_false wantS_true wantS_false nextS_value nextS_skip nextS_enter callS_some gotS_some aWanted aOp aEvalF aEval opMove opAssign opPick aVal flat flat1 AAct.put opBinOp opConvert opIndex Tr.get_set Tr.get_lay aBin aResults tupled
  aCall aVals aCallB blt_dec ble_dec beq_dec aBinI_add aBinI_sub aBinI_lss aBinI_leq aBinI_gtr aBinI_geq aBinI_eql aBinI_neq index_str len_str len_slice Nat.beq_refl und2 und3 und4 und5 und39 und76 und82 und115 und22 und29 und25 und33 und46 und43 und49 und111 und113 field151 field155_0 field155_1 field155_2 field155_3 field155_4
  field78 field106 field24 field31 field27 field35 field108 field109 opBox opLoad opFieldAddr opIndexAddr acells aAddr opExtract aExtract opUnOp opAlloc opStore opMakeInterface opNilCheck opBuild aParts opBuildSlice aValW
set_option maxHeartbeats 4000000
set_option linter.unusedSimpArgs false
set_option linter.unusedVariables false
theorem bs29e (W : AW) : aBuildSlice T0 W 29 0 [] = some (.slice (some ⟨W.next, 0, none⟩) 0 0, W.newCells 106 []) := by kernel_rfl
theorem isnil29 : aEq T0 29 (.slice none 0 0) (.slice none 0 0) = some true := by simp [aEq, und29]
theorem notnil29 (a : Addr) (n c : Nat) : aEq T0 29 (.slice (some a) n c) (.slice none 0 0) = some false := by simp [aEq, und29]
theorem tri_of_var {W : AW} {p c : Nat} {L : List Tri} (hV : Var W p 106 (flat3 L)) : TriIn W (.slice (some ⟨p, 0, none⟩) L.length c) L := by
  refine ⟨some ⟨p, 0, none⟩, c, rfl, fun i a hi => ⟨p, 0, rfl, ?_, ?_, ?_⟩⟩
  · exact hV.has (by rw [show 0 + 3 * i = 3 * i + 0 from by omega, flat3_get L i a hi 0 (by omega)]; rfl)
  · exact hV.has (by rw [show 0 + 3 * i + 1 = 3 * i + 1 from by omega, flat3_get L i a hi 1 (by omega)]; rfl)
  · exact hV.has (by rw [show 0 + 3 * i + 2 = 3 * i + 2 from by omega, flat3_get L i a hi 2 (by omega)]; rfl)
theorem clone_app {W : AW} {b o c : Nat} {l : List Tri} (h : TriIn W (.slice (some ⟨b, o, none⟩) l.length c) l) (h0 : 0 < l.length) (hl : l.length ≤ 1000) :
    aAppend T0 (W.newCells 106 []) [29, 29] [.slice (some ⟨W.next, 0, none⟩) 0 0, .slice (some ⟨b, o, none⟩) l.length c] = some (.slice (some ⟨W.next + 1, 0, none⟩) l.length 7, (W.newCells 106 []).newCells 106 (flat3 l)) := by
  have hE : Ext W (W.newCells 106 []) := .newCells _ _ _
  obtain ⟨A, c', e, hh⟩ := h.ext hE
  cases e
  have ha : l[0]? = some l[0] := List.getElem?_eq_getElem (by omega)
  obtain ⟨b0, o0, e0, hb, _, _⟩ := hh 0 _ ha
  cases e0
  have hc : (W.newCells 106 []).cellsAt b o (l.length * 3) = some (flat3 l) := by
    refine cellsAt_of_cells (flat3_len l) (has_blk hb) (fun j hj => ?_) (by omega)
    have hi : j / 3 < l.length := by omega
    have hj' : l[j / 3]? = some l[j / 3] := List.getElem?_eq_getElem hi
    obtain ⟨b2, o2, e2, g1, g2, g3⟩ := hh (j / 3) _ hj'
    cases e2
    have hf := flat3_get l (j / 3) _ hj' (j % 3) (by omega)
    rw [show 3 * (j / 3) + j % 3 = j from by omega] at hf
    rw [hf]
    have h3 : j % 3 = 0 ∨ j % 3 = 1 ∨ j % 3 = 2 := by omega
    rcases h3 with h3 | h3 | h3
    · rw [show o + j = o + 3 * (j / 3) from by omega, g1.2, h3]; rfl
    · rw [show o + j = o + 3 * (j / 3) + 1 from by omega, g2.2, h3]; rfl
    · rw [show o + j = o + 3 * (j / 3) + 2 from by omega, g3.2, h3]; rfl
  have hone := oneCells_flat3 l
  have hz : Nat.beq l.length 0 = false := by
    cases hb : Nat.beq l.length 0 with
    | false => rfl
    | true => have := Nat.eq_of_beq_eq_true hb; omega
  have hold : (W.newCells 106 []).cellsAt W.next 0 (0 * 3) = some [] := newCells_cellsAt W 106 [] 0 rfl
  have hsrc : aSrc (W.newCells 106 []) 3 (.slice (some ⟨b, o, none⟩) l.length c) = some (l.length, flat3 l) := by
    unfold aSrc; simp only [hc]
  have hhead : aAppend T0 (W.newCells 106 []) [29, 29] [.slice (some ⟨W.next, 0, none⟩) 0 0, .slice (some ⟨b, o, none⟩) l.length c] = aApp1 (W.newCells 106 []) 106 3 Tryd.t106.bytes l.length (flat3 l) (.slice (some ⟨W.next, 0, none⟩) 0 0) := by
    simp only [aAppend, und29, inf106, is106, z106, notInt, hsrc, acells, List.length_cons, List.length_nil, Nat.beq_refl, flat3_len, hone, hz]
  rw [hhead]
  have e1 : (2 * l.length) * Tryd.t106.bytes ≤ 281474976710656 := by rw [by106]; omega
  have e2 : l.length ≤ 4611686018427387904 := by omega
  have e3 : Nat.beq (0 % 2) 0 = true := rfl
  have e4 : ¬ (l.length ≤ 0 / 2) := by omega
  simp only [aApp1, ble_dec, e1, e2, decide_true, e3, e4, decide_false, hold, List.nil_append, Nat.zero_add]
  rfl
def OwnA (W : AW) (u : Value) (n0 : Nat) (L : List Tri) : Prop := (L = [] ∧ u = .slice none 0 0) ∨ (0 < L.length ∧ ∃ p, u = .slice (some ⟨p, 0, none⟩) L.length 7 ∧ n0 ≤ p ∧ Var W p 106 (flat3 L))
theorem OwnA.tri {W : AW} {u : Value} {n0 : Nat} {L : List Tri} (h : OwnA W u n0 L) : TriIn W u L := by
  rcases h with ⟨rfl, rfl⟩ | ⟨_, p, rfl, _, hV⟩
  · exact ⟨none, 0, rfl, fun i x hx => by simp at hx⟩
  · exact tri_of_var hV
theorem OwnA.ext {W W' : AW} {u : Value} {n0 : Nat} {L : List Tri} (h : OwnA W u n0 L) (he : Ext W W') : OwnA W' u n0 L := by
  rcases h with h | ⟨h0, p, h1, h2, hV⟩
  · exact .inl h
  · exact .inr ⟨h0, p, h1, h2, hV.ext he⟩
theorem clone_wp {W : AW} {v : Value} {l : List Tri} (h : TriIn W v l) (hl : l.length ≤ 1000) (hv : (l = [] ∧ v = .slice none 0 0) ∨ (0 < l.length ∧ ∃ b c, v = .slice (some ⟨b, 0, none⟩) l.length c)) :
    WpF T0 59 [v] W (fun u W' => Ext W W' ∧ OwnA W' u W.next l) := by
  refine wpF fun59 rfl ?_
  try simp only [wpK_assoc]
  refine wpK_reg (fun R hR => by simp []; exact hR) ?_
  rcases hv with ⟨rfl, rfl⟩ | ⟨h0, b, c, rfl⟩
  · try simp only [wpK_assoc]
    refine wpK_reg (fun R hR => by simp [aGuard, aBinO, isnil29]; exact hR) ?_
    try simp only [wpK_assoc]
    first | refine wpK_onT (by simp []) ?_ | refine wpK_outT (by simp []) ?_ | refine wpK_condT (by simp []) ?_ | refine wpK_endT (by simp []) ?_
    try simp only [wpK_assoc]
    refine wpK_reg (fun R hR => by simp []; exact hR) ?_
    exact wpK_ret ⟨.inr rfl, rfl, [.slice none 0 0], by simp, .refl _ _, .inl ⟨rfl, rfl⟩⟩
  · try simp only [wpK_assoc]
    refine wpK_reg (fun R hR => by simp [aGuard, aBinO, notnil29]; exact hR) ?_
    try simp only [wpK_assoc]
    first | refine wpK_onF (by simp []) ?_ | refine wpK_out (by simp []) ?_ | refine wpK_condF (by simp []) ?_ | refine wpK_endF (by simp []) (wpK_skip ?_) | refine wpK_endF (by simp []) ?_
    have ha := clone_app h h0 hl
    have hb := bs29e W
    try simp only [wpK_assoc]
    refine wpK_reg (fun R hR => by simp [hb, ha]; exact hR) ?_
    exact wpK_ret ⟨.inr rfl, rfl, [.slice (some ⟨W.next + 1, 0, none⟩) l.length 7], by simp, (Only.newCells _ _ _).trans (Only.newCells _ _ _), .inr ⟨h0, W.next + 1, rfl, by omega, Var.new _ _ _⟩⟩
theorem flat3_cap {A B : List Tri} {a : Tri} {i : Nat} (h : A.length = i) : (flat3 (A ++ a :: B)).take (3 * i + 2) ++ [.int .i64 1] ++ (flat3 (A ++ a :: B)).drop (3 * i + 2 + 1) = flat3 (A ++ (a.1, a.2.1, 1) :: B) := by
  have hA := flat3_len A
  have e : ∀ z : Int, flat3 (A ++ (a.1, a.2.1, z) :: B) = flat3 A ++ ([.int .i64 a.1, .int .i64 a.2.1, .int .i64 z] ++ flat3 B) := fun z => by
    rw [flat3_append]; rfl
  have ea : flat3 (A ++ a :: B) = flat3 A ++ ([.int .i64 a.1, .int .i64 a.2.1, .int .i64 a.2.2] ++ flat3 B) := e a.2.2
  rw [ea, e 1]
  have hl : (flat3 A).length = 3 * i := by rw [hA, h]; omega
  rw [List.take_append, List.drop_append, hl, List.take_of_length_le (by omega), List.drop_eq_nil_of_le (by omega)]
  rw [show 3 * i + 2 - 3 * i = 2 from by omega, show 3 * i + 2 + 1 - 3 * i = 3 from by omega]
  simp
def capTo (l : List Tri) (i : Nat) : List Tri := onesL (l.take i) ++ l.drop i
theorem capTo_len (l : List Tri) (i : Nat) : (capTo l i).length = l.length := by simp [capTo, onesL]; omega
theorem capTo_zero (l : List Tri) : capTo l 0 = l := by simp [capTo, onesL]
theorem capTo_all (l : List Tri) : capTo l l.length = onesL l := by rw [capTo, List.take_length, List.drop_length, List.append_nil]
theorem cap_store {W : AW} {p i : Nat} {l : List Tri} (h : Var W p 106 (flat3 (capTo l i))) (hi : i < l.length) : ∃ W', aStoreVar T0 W 2 p (3 * i + 2) (.int .i64 1) = some W' ∧ W'.next = W.next ∧ Only (fun b => b = p) W W' ∧ Var W' p 106 (flat3 (capTo l (i + 1))) := by
  have hl : (flat3 (capTo l i)).length = 3 * l.length := by rw [flat3_len, capTo_len]; omega
  obtain ⟨W', s1, s2, s3, s4⟩ := h.store (T := T0) (t := 2) (v := .int .i64 1) (o := 3 * i + 2) inf2 (by rw [is2]; rfl) (by rw [hl]; show 3 * i + 2 + 1 ≤ 3 * l.length; omega) rfl
  have s4 : Var W' p 106 ((flat3 (capTo l i)).take (3 * i + 2) ++ [.int .i64 1] ++ (flat3 (capTo l i)).drop (3 * i + 2 + 1)) := s4
  have hA : (onesL (l.take i)).length = i := by simp [onesL]; omega
  have hx : l[i]? = some l[i] := List.getElem?_eq_getElem hi
  have e1 : capTo l i = onesL (l.take i) ++ l[i] :: l.drop (i + 1) := by rw [capTo, List.drop_eq_getElem_cons hi]
  have e2 : capTo l (i + 1) = onesL (l.take i) ++ (l[i].1, l[i].2.1, 1) :: l.drop (i + 1) := by
    rw [capTo, List.take_add_one, hx, Option.toList_some]
    rw [show onesL (l.take i ++ [l[i]]) = onesL (l.take i) ++ [(l[i].1, l[i].2.1, 1)] from by simp only [onesL, List.map_append, List.map_cons, List.map_nil], List.append_assoc]
    rfl
  rw [e1, flat3_cap hA, ← e2] at s4
  exact ⟨W', s1, s2, s3, s4⟩
end Go.Proofs.YtkgfjfkgmpeobaaDoor

open Go Go.Eng
namespace Go.Proofs.YtkgfjfkgmpeobaaDoor
attribute [local congr] undef_congr WpK.congr WpS.congr WpL.congr WpC.congr WpF.congr gotS.congr callS.congr nextS.congr wantS.congr condS.congr
attribute [local irreducible] WpK
attribute [local simp] WpDr_nil WpDr_cons atS_some dwantS_true dwantS_false kindS_light kindS_float kindS_heavy lightS_value floatS_some heavyS_value heavyS_skip heavyS_enter dcallS_some doneS_eq
  isLight isFloat isPlain dLook testBit_dec dChain dLights_nil dLights_skip dLights_one dLight_nil dLight_cons dFreshes_nil dFreshes_one oneF_none oneF_some dFresh_nil dFresh_cons oneL_some oneW_true oneW_false sameV_value dPut dMay valEq arrEq listEq List.getElem?_cons Tr.get_nil dEnd
attribute [local simp] WpS_nil WpS_cons isDefer undef_false wantS_true wantS_false nextS_value nextS_skip nextS_enter callS_some gotS_some aWanted aOp aEvalF aEval opMove opAssign opPick aVal flat flat1 AAct.put opBinOp opConvert opIndex Tr.get_set Tr.get_lay aBin aResults tupled
  aCall aVals aCallB blt_dec ble_dec beq_dec aBinI_add aBinI_sub aBinI_lss aBinI_leq aBinI_gtr aBinI_geq aBinI_eql aBinI_neq index_str len_str len_slice Nat.beq_refl und2 und3 und4 und5 und39 und76 und82 und115 und22 und29 und25 und33 und46 und43 und49 und111 und113 field151 field155_0 field155_1 field155_2 field155_3 field155_4
  field78 field106 field24 field31 field27 field35 field108 field109 opBox opLoad opFieldAddr opIndexAddr acells aAddr opExtract aExtract opUnOp opAlloc opStore opMakeInterface opNilCheck opBuild aParts opBuildSlice aValW
set_option maxHeartbeats 4000000
set_option linter.unusedSimpArgs false
set_option linter.unusedVariables false
theorem bs49' (W : AW) (A : Option Addr) (n c : Nat) : aBuildSlice T0 W 49 1 [(0, .slice A n c)] = some (.slice (some ⟨W.next, 0, none⟩) 1 2, W.newCells 46 [.slice A n c]) := by kernel_rfl
theorem z46' : Tryd.t46.zero = some (.slice none 0 0) := by kernel_rfl
theorem by46' : Tryd.t46.bytes = 24 := by kernel_rfl
theorem HeldT.mono {W : AW} {v : Value} {S : List Int} {K K' : Nat → Prop} (h : HeldT W v S K) (hk : ∀ b, K b → K' b) : HeldT W v S K' := by
  rcases h with h | ⟨b, c, nb, kin, h1, h2, h3, h4, h5, h6, h7, h8⟩
  · exact .inl h
  · exact .inr ⟨b, c, nb, kin, h1, h2, h3, hk b h4, h5, h6, h7, fun p hp => hk _ (h8 p hp)⟩
theorem HeldT.len {W : AW} {v : Value} {S : List Int} {K : Nat → Prop} (h : HeldT W v S K) : ∃ A c, v = .slice A S.length c := int_len h.ints
structure WaysG (W0 W : AW) (mv : Value) (ways : List (List Int)) : Prop where
  all : ∃ (KL KR : Nat → Prop) (us : List Value), GrowsN W mv ways.length us 46 1 KL ∧ us.length = ways.length ∧ (∀ (i : Nat) u w, us[i]? = some u → ways[i]? = some w → HeldT W u w KR) ∧ (∀ b, KL b → W0.next ≤ b ∧ b < W.next) ∧ ∀ b, KR b → W0.next ≤ b ∧ b < W.next ∧ ¬ KL b
theorem WaysG.nil (W0 W : AW) : WaysG W0 W (.slice none 0 0) [] := ⟨fun _ => False, fun _ => False, [], .nil _ _ _ _, rfl, fun i u w hu => by simp at hu, fun b h => h.elim, fun b h => h.elim⟩
theorem WaysG.only {W0 W W' : AW} {mv : Value} {ways : List (List Int)} {K' : Nat → Prop} (h : WaysG W0 W mv ways) (ho : Only K' W W') (hk : ∀ b, W0.next ≤ b → b < W.next → ¬ K' b) : WaysG W0 W' mv ways := by
  obtain ⟨KL, KR, us, h1, h2, h3, h4, h5⟩ := h.all
  have hn := ho.1
  exact ⟨KL, KR, us, h1.only ho (fun b hb hx => hk b (h4 b hx).1 hb), h2, fun i u w hu hw => (h3 i u w hu hw).only ho (fun b hb hx => hk b (h5 b hx).1 hb), fun b hb => by have := h4 b hb; omega, fun b hb => by have := h5 b hb; exact ⟨this.1, by omega, this.2.2⟩⟩
theorem WaysG.in_ {W0 W : AW} {mv : Value} {ways : List (List Int)} (h : WaysG W0 W mv ways) : WaysIn W mv ways := by
  obtain ⟨KL, KR, us, h1, h2, h3, h4, h5⟩ := h.all
  obtain ⟨h0, ⟨e0, rfl⟩ | ⟨b, c, kin, rfl, g2, g3, g4, g5, g6, g7⟩⟩ := h1
  · have : ways = [] := List.length_eq_zero_iff.1 e0
    subst this
    exact ⟨none, 0, rfl, fun i l hl => by simp at hl⟩
  · refine ⟨_, _, rfl, fun i w hw => ?_⟩
    have hi := (List.getElem?_eq_some_iff.1 hw).1
    have hu : us[i]? = some (us[i]'(by omega)) := List.getElem?_eq_getElem (by omega)
    refine ⟨b, 0, us[i]'(by omega), rfl, ⟨g4, ?_⟩, (h3 i _ w hu hw).ints⟩
    simp only [AW.cell, g5, blt_dec, Nat.zero_add, show i < us.length from by omega, decide_true]
    rw [g6 i (by omega)]; exact hu
theorem WaysG.push {W0 W Wu : AW} {mv u : Value} {ways : List (List Int)} {w : List Int} {K : Nat → Prop} (h : WaysG W0 Wu mv ways) (hW0 : W0.next ≤ Wu.next) (hu : HeldT Wu u w K) (hK : ∀ b, K b → W0.next ≤ b ∧ b < Wu.next) (hd : ∀ KL : Nat → Prop, (∀ b, KL b → b < W.next) → ∀ b, K b → ¬ KL b) (hold : ∃ (KL KR : Nat → Prop) (us : List Value), GrowsN Wu mv ways.length us 46 1 KL ∧ us.length = ways.length ∧ (∀ (i : Nat) u w, us[i]? = some u → ways[i]? = some w → HeldT Wu u w KR) ∧ (∀ b, KL b → W0.next ≤ b ∧ b < W.next) ∧ ∀ b, KR b → W0.next ≤ b ∧ b < Wu.next ∧ ¬ KL b) (hn : W.next ≤ Wu.next) (hlen : ways.length ≤ 1000) :
    ∃ mv' W', aAppend T0 (Wu.newCells 46 [u]) [49, 49] [mv, .slice (some ⟨Wu.next, 0, none⟩) 1 2] = some (mv', W') ∧ WaysG W0 W' mv' (ways ++ [w]) ∧ Wu.next ≤ W'.next ∧ Only (fun b => W0.next ≤ b) Wu W' := by
  obtain ⟨KL, KR, us, h1, h2, h3, h4, h5⟩ := hold
  obtain ⟨A, c, hue⟩ := hu.len
  have hE : Ext Wu (Wu.newCells 46 [u]) := .newCells _ _ _
  obtain ⟨mv', W', a1, a2, a3, a4⟩ := append_growsN (T := T0) (t := 49) (el := 46) (c := 2) (by omega) und49 inf46 is46 z46' rfl (h1.only (K' := fun _ => False) hE (fun _ _ _ x => x)) (u := [u]) rfl (newCells_cellsAt Wu 46 [u] 1 rfl) (by rw [hue]; rfl) (by rw [by46']; omega) (by omega)
  rw [newCells_next] at a2
  have hO : Only KL Wu W' := ⟨by omega, fun b hb hk => by rw [a4.2 b (by rw [newCells_next]; omega) hk]; exact hE.2 b hb (fun x => x)⟩
  refine ⟨mv', W', a1, ⟨fun b => KL b ∨ b = Wu.next + 1, fun b => KR b ∨ K b, us ++ [u], ?_, by simp [h2], fun i u' w' hu' hw' => ?_, fun b hb => ?_, fun b hb => ?_⟩, by omega, ⟨by omega, fun b hb hk => hO.2 b hb (fun hh => hk (h4 b hh).1)⟩⟩
  · rw [show (ways ++ [w]).length = ways.length + 1 from by simp]
    exact a3.mono (fun b hb => hb.elim .inl (fun e => .inr (by rw [newCells_next] at e; exact e)))
  · by_cases hi : i < ways.length
    · rw [List.getElem?_append_left (by omega)] at hu' hw'
      exact ((h3 i u' w' hu' hw').only hO (fun b hb hx hk => (h5 b hx).2.2 hk)).mono (fun b hb => .inl hb)
    · rw [List.getElem?_append_right (by omega)] at hu' hw'
      have h0 : i - ways.length = 0 := by have := (List.getElem?_eq_some_iff.1 hw').1; simp at this; omega
      rw [h2, h0] at hu'
      rw [h0] at hw'
      cases hu'; cases hw'
      exact (hu.only hO (fun b hb hx hk => hd KL (fun b hb => (h4 b hb).2) b hx hk)).mono (fun b hb => .inr hb)
  · rcases hb with hb | hb
    · have := h4 b hb; omega
    · omega
  · rcases hb with hb | hb
    · have := h5 b hb
      refine ⟨this.1, by omega, fun hh => hh.elim this.2.2 (fun e => by omega)⟩
    · have := hK b hb
      refine ⟨this.1, by omega, fun hh => hh.elim (hd KL (fun b hb => (h4 b hb).2) b hb) (fun e => by omega)⟩
theorem WaysG.push2 {W0 W Wu : AW} {mv u : Value} {ways : List (List Int)} {w : List Int} {K K' : Nat → Prop} (h : WaysG W0 W mv ways) (hW0 : W0.next ≤ W.next) (ho : Only K' W Wu) (hk : ∀ b, W0.next ≤ b → b < W.next → ¬ K' b) (hu : HeldT Wu u w K) (hK : ∀ b, K b → W.next ≤ b ∧ b < Wu.next) (hlen : ways.length ≤ 1000) :
    ∃ mv' W', aAppend T0 (Wu.newCells 46 [u]) [49, 49] [mv, .slice (some ⟨Wu.next, 0, none⟩) 1 2] = some (mv', W') ∧ WaysG W0 W' mv' (ways ++ [w]) ∧ Wu.next ≤ W'.next ∧ Only (fun b => W0.next ≤ b) Wu W' := by
  have h' := h.only ho hk
  obtain ⟨KL, KR, us, h1, h2, h3, h4, h5⟩ := h.all
  have hn := ho.1
  exact WaysG.push (W := W) h' (by omega) hu (fun b hb => by have := hK b hb; omega) (fun KL hKL b hb hh => by have := hK b hb; have := hKL b hh; omega)
    ⟨KL, KR, us, h1.only ho (fun b hb hx => hk b (h4 b hx).1 hb), h2, fun i u w hu hw => (h3 i u w hu hw).only ho (fun b hb hx => hk b (h5 b hx).1 hb), fun b hb => h4 b hb, fun b hb => by have := h5 b hb; exact ⟨this.1, by omega, this.2.2⟩⟩ hn hlen
def outA (S : Nat) (l : List Tri) (i : Nat) : Bool := match l[i]? with
  | some e => S.testBit e.1.toNat && !S.testBit e.2.1.toNat
  | none => false
def arcsTo (S : Nat) (l : List Tri) (n : Nat) : List Int := ((List.range n).filter (outA S l)).map Int.ofNat
theorem arcsTo_succ (S : Nat) (l : List Tri) (n : Nat) : arcsTo S l (n + 1) = arcsTo S l n ++ (if outA S l n then [(n : Int)] else []) := by
  simp only [arcsTo, List.range_succ, List.filter_append, List.map_append]
  cases h : outA S l n <;> simp only [List.filter_cons, h, List.filter_nil] <;> rfl
theorem arcsTo_mem {S : Nat} {l : List Tri} {n : Nat} {x : Int} (h : x ∈ arcsTo S l n) : 0 ≤ x ∧ x < (n : Int) ∧ outA S l x.toNat = true := by
  simp only [arcsTo, List.mem_map, List.mem_filter, List.mem_range] at h
  obtain ⟨i, ⟨h1, h2⟩, rfl⟩ := h
  exact ⟨Int.natCast_nonneg i, by show ((i : Nat) : Int) < n; omega, h2⟩
theorem arcsTo_has {S : Nat} {l : List Tri} {n i : Nat} (h : i < n) (ho : outA S l i = true) : (i : Int) ∈ arcsTo S l n := by
  simp only [arcsTo, List.mem_map, List.mem_filter, List.mem_range]
  exact ⟨i, ⟨h, ho⟩, rfl⟩
theorem arcsTo_cuts (S : Nat) (l : List Tri) : Cuts S l (arcsTo S l l.length) := fun i e he h1 h2 =>
  arcsTo_has (List.getElem?_eq_some_iff.1 he).1 (by simp only [outA, he, h1, h2]; rfl)
theorem arcsTo_rise (S : Nat) (l : List Tri) : ∀ n, ∀ (j : Nat) x y, (arcsTo S l n)[j]? = some x → (arcsTo S l n)[j + 1]? = some y → x < y
  | 0, j, x, y, h, _ => by simp [arcsTo] at h
  | n + 1, j, x, y, h1, h2 => by
    rw [arcsTo_succ] at h1 h2
    split at h1
    · rename_i ho
      rw [if_pos ho] at h2
      by_cases hj : j + 1 < (arcsTo S l n).length
      · rw [List.getElem?_append_left (by omega)] at h1 h2
        exact arcsTo_rise S l n j x y h1 h2
      · rw [List.getElem?_append_right (by omega)] at h2
        have h0 : j + 1 - (arcsTo S l n).length = 0 := by have := (List.getElem?_eq_some_iff.1 h2).1; simp at this; omega
        rw [h0] at h2
        rw [List.getElem?_append_left (by omega)] at h1
        have := arcsTo_mem (List.mem_of_getElem? h1)
        simp at h2; omega
    · rename_i ho
      rw [if_neg ho] at h2
      rw [List.append_nil] at h1 h2
      exact arcsTo_rise S l n j x y h1 h2
theorem arcsTo_cap (S : Nat) (l : List Tri) : ∀ n, n ≤ l.length → capQ S (arcsQ (onesL (l.take n))) = ((arcsTo S l n).length : Int)
  | 0, _ => by simp [arcsTo, capQ, arcsQ, onesL]
  | n + 1, h => by
    have hx : l[n]? = some l[n] := List.getElem?_eq_getElem (by omega)
    have ih := arcsTo_cap S l n (by omega)
    rw [arcsTo_succ, List.take_add_one, hx, Option.toList_some]
    rw [show onesL (l.take n ++ [l[n]]) = onesL (l.take n) ++ [(l[n].1, l[n].2.1, 1)] from by simp only [onesL, List.map_append, List.map_cons, List.map_nil]]
    simp only [capQ, arcsQ, List.map_append, List.sum_append, List.length_append] at ih ⊢
    rw [ih]
    simp only [List.map_cons, List.map_nil, List.sum_cons, List.sum_nil, out1, outA, hx]
    cases S.testBit l[n].1.toNat <;> cases S.testBit l[n].2.1.toNat <;> simp
theorem ones_get {l : List Tri} {a : Nat} : (onesL l)[a]? = (l[a]?).map fun e => (e.1, e.2.1, 1) := by simp [onesL]
theorem stepW_ones (l : List Tri) (st : Option (Int × List Int)) (a : Int) : stepW (onesL l) st a = stepW l st a := by
  unfold stepW
  cases st with
  | none => rfl
  | some r =>
    simp only
    split
    · rw [ones_get]
      cases l[a.toNat]? <;> rfl
    · rfl
theorem walkW_ones (l : List Tri) (s : Int) (way : List Int) : walkW (onesL l) s way = walkW l s way := by
  have : stepW (onesL l) = stepW l := by funext st a; exact stepW_ones l st a
  rw [walkW, walkW, this]
theorem isW_ones {l : List Tri} {s t : Int} {way : List Int} : isW (onesL l) s t way ↔ isW l s t way := by
  unfold isW; rw [walkW_ones]
end Go.Proofs.YtkgfjfkgmpeobaaDoor
