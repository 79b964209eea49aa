import Derived.Test.YtkipaffjmcmclaaDoorP50
import Derived.Test.YtkipaffjmcmclaaDoorEngWy
import Derived.Test.YtkipaffjmcmclaaDoorEngEm
import Derived.Test.YtkipaffjmcmclaaDoorEngBt
import Derived.Test.YtkipaffjmcmclaaDoorTie
import Derived.Test.YtkipaffjmcmclaaDoorCards
import Derived.SevenTiedAt
import Derived.Lib.SmallJoins
import Derived.Test.YtkipaffjmcmclaaDoorEngRf
set_option linter.unusedSimpArgs false
set_option linter.unusedVariables false
set_option linter.unusedSectionVars false
open Go Go.Eng
namespace Go.Proofs.YtkipaffjmcmclaaDoor
attribute [local congr] undef_congr WpK.congr WpS.congr WpL.congr WpC.congr WpF.congr gotS.congr callS.congr nextS.congr wantS.congr condS.congr
attribute [local irreducible] WpK
attribute [local simp] WpDr_nil WpDr_cons atS_some dwantS_true dwantS_false kindS_light kindS_float kindS_heavy lightS_value floatS_some heavyS_value heavyS_skip heavyS_enter dcallS_some doneS_eq
  isLight isFloat isPlain dLook testBit_dec dChain dLights_nil dLights_skip dLights_one dLight_nil dLight_cons dFreshes_nil dFreshes_one oneF_none oneF_some dFresh_nil dFresh_cons oneL_some oneW_true oneW_false sameV_value dPut dMay valEq arrEq listEq List.getElem?_cons Tr.get_nil dEnd
attribute [local simp] WpS_nil WpS_cons isDefer undef_false wantS_true wantS_false nextS_value nextS_skip nextS_enter callS_some gotS_some aWanted aOp aEvalF aEval opMove opAssign opPick aVal flat flat1 AAct.put opBinOp opConvert opIndex Tr.get_set Tr.get_lay aBin aResults tupled
  aCall aVals aCallB blt_dec ble_dec beq_dec aBinI_add aBinI_sub aBinI_lss aBinI_leq aBinI_gtr aBinI_geq aBinI_eql aBinI_neq index_str len_str len_slice Nat.beq_refl und2 und3 und4 und5 und39 und76 und82 und116 und22 und29 und25 und33 und46 und43 und49 und111 und113 field152 field156_0 field156_1 field156_2 field156_3 field156_4
  field78 field106 field24 field31 field27 field35 field108 field109 opBox opLoad opFieldAddr opIndexAddr acells aAddr opExtract aExtract opUnOp opAlloc opStore opMakeInterface opNilCheck opBuild aParts opBuildSlice aValW
set_option maxHeartbeats 4000000
set_option linter.unusedSimpArgs false
set_option linter.unusedVariables false
/-! ### the errors of the calls -/
theorem chkE_of {P : Int} {l : List Quad} {a b : Int} (h : planOk P l = false) : chkE P l a b = 30 := by simp [chkE, h]
theorem opMI35 (W : AW) (ρ : Operand → Option Value) (x : Operand) : opMakeInterface T0 W ρ 35 x = match ρ x with | some v => some (.value (.iface 35 v), W) | none => none := by
  simp only [opMakeInterface, und35]
  cases ρ x <;> rfl
theorem check16_wp {W : AW} {v : Value} (P : Int) {l : List Tri} (h : TriIn W v l) : WpF T0 16 [.agg ⟨[.int .i64 P, v]⟩] W (fun u W' => Ext W W' ∧ u = .int .i64 (chk P (arcsQ l))) := by
  refine wpF fun16 rfl ?_
  have hN := netPlan (netIn (P := P) h)
  have hE0 : Ext W (W.newCells 31 [.int .i64 P, v]) := .newCells _ _ _
  generalize hW0 : W.newCells 31 [.int .i64 P, v] = W0 at hN hE0
  try simp only [wpK_assoc]
  refine wpK_reg (fun R hR => by simp [hW0]; exact hR) ?_
  try simp only [wpK_assoc]
  refine wpK_x0 (fun R hR => by
      simp [aEnter, fun51, short_other, aCallV]; rw [callS_none]
      refine (check_wp hN).mono ?_
      rintro _ W1 ⟨hE1, rfl⟩
      simp []; exact hR W1 hE1) ?_
  rintro W1 hE1
  exact wpK_ret ⟨.inr rfl, rfl, [.int .i64 (chk P (arcsQ l))], by simp, hE0.trans hE1, rfl⟩
theorem load35 {W : AW} {p : Nat} {x y : Value} (h : Var W p 35 [x, y]) : aLoadVar T0 W 35 p 0 = some (.agg ⟨[x, y]⟩) := h.load (T := T0) und35 agg35 inf35 is35
theorem load31 {W : AW} {p : Nat} {x y : Value} (h : Var W p 31 [x, y]) : aLoadVar T0 W 31 p 0 = some (.agg ⟨[x, y]⟩) := h.load (T := T0) und31 agg31 inf31 is31
theorem check17_wp {W : AW} {v : Value} (P : Int) {l : List Tri} (h : TriIn W v l) : WpF T0 17 [.agg ⟨[.int .i64 P, v]⟩] W (fun u W' => Ext W W' ∧ u = .int .i64 (chk P (linksQ l))) := by
  refine wpF fun17 rfl ?_
  have hE0 : Ext W (W.newCells 35 [.int .i64 P, v]) := .newCells _ _ _
  have hN := boardPlan (P := P) (h.ext hE0)
  have hl := load35 (Var.new W 35 [.int .i64 P, v])
  generalize hW0 : W.newCells 35 [.int .i64 P, v] = W0 at hN hE0 hl
  try simp only [wpK_assoc]
  refine wpK_reg (fun R hR => by simp [hW0]; exact hR) ?_
  try simp only [wpK_assoc]
  refine wpK_x0 (fun R hR => by
      simp [hl, opMI35, -opMakeInterface, aEnter, fun51, short_other, aCallV]; rw [callS_none]
      refine (check_wp hN).mono ?_
      rintro _ W1 ⟨hE1, rfl⟩
      simp [hl, opMI35, -opMakeInterface]; exact hR W1 hE1) ?_
  rintro W1 hE1
  exact wpK_ret ⟨.inr rfl, rfl, [.int .i64 (chk P (linksQ l))], by simp, hE0.trans hE1, rfl⟩
theorem most_err {W : AW} {v : Value} {P : Int} {l : List Tri} (h : TriIn W v l) (s t : Int) (he : chkE P (arcsQ l) s t ≠ 0) : WpF T0 19 [.agg ⟨[.int .i64 P, v]⟩, .int .i64 s, .int .i64 t] W (fun u W' => Ext W W' ∧ u = .tuple ⟨[.int .i64 0, .slice none 0 0, .int .i64 (chkE P (arcsQ l) s t)]⟩) := by
  refine wpF fun19 rfl ?_
  have hN := netPlan (netIn (P := P) h)
  have hE0 : Ext W (W.newCells 31 [.int .i64 P, v]) := .newCells _ _ _
  generalize hW0 : W.newCells 31 [.int .i64 P, v] = W0 at hN hE0
  try simp only [wpK_assoc]
  refine wpK_reg (fun R hR => by simp [hW0]; exact hR) ?_
  try simp only [wpK_assoc]
  refine wpK_x0 (fun R hR => by
      simp [aEnter, fun52, short_other, aCallV]; rw [callS_none]
      refine (checkEnds_wp hN s t).mono ?_
      rintro _ W1 ⟨hE1, rfl⟩
      simp []; exact hR W1 hE1) ?_
  rintro W1 hE1
  try simp only [wpK_assoc]
  refine wpK_reg (fun R hR => by simp [he]; exact hR) ?_
  try simp only [wpK_assoc]
  first | refine wpK_onT (by simp []) ?_ | refine wpK_outT (by simp []) ?_ | refine wpK_condT (by simp []) ?_ | refine wpK_endT (by simp []) ?_
  try simp only [wpK_assoc]
  refine wpK_reg (fun R hR => by simp []; exact hR) ?_
  exact wpK_ret ⟨.inr rfl, rfl, [.int .i64 0, .slice none 0 0, .int .i64 (chkE P (arcsQ l) s t)], by simp, hE0.trans hE1, rfl⟩
theorem cut_err {W : AW} {v : Value} {P : Int} {l : List Tri} (h : TriIn W v l) (s t : Int) (he : chkE P (arcsQ l) s t ≠ 0) : WpF T0 20 [.agg ⟨[.int .i64 P, v]⟩, .int .i64 s, .int .i64 t] W (fun u W' => Ext W W' ∧ u = .tuple ⟨[.slice none 0 0, .int .i64 0, .int .i64 (chkE P (arcsQ l) s t)]⟩) := by
  refine wpF fun20 rfl ?_
  have hN := netPlan (netIn (P := P) h)
  have hE0 : Ext W (W.newCells 31 [.int .i64 P, v]) := .newCells _ _ _
  generalize hW0 : W.newCells 31 [.int .i64 P, v] = W0 at hN hE0
  try simp only [wpK_assoc]
  refine wpK_reg (fun R hR => by simp [hW0]; exact hR) ?_
  try simp only [wpK_assoc]
  refine wpK_x0 (fun R hR => by
      simp [aEnter, fun52, short_other, aCallV]; rw [callS_none]
      refine (checkEnds_wp hN s t).mono ?_
      rintro _ W1 ⟨hE1, rfl⟩
      simp []; exact hR W1 hE1) ?_
  rintro W1 hE1
  try simp only [wpK_assoc]
  refine wpK_reg (fun R hR => by simp [he]; exact hR) ?_
  try simp only [wpK_assoc]
  first | refine wpK_onT (by simp []) ?_ | refine wpK_outT (by simp []) ?_ | refine wpK_condT (by simp []) ?_ | refine wpK_endT (by simp []) ?_
  try simp only [wpK_assoc]
  refine wpK_reg (fun R hR => by simp []; exact hR) ?_
  exact wpK_ret ⟨.inr rfl, rfl, [.slice none 0 0, .int .i64 0, .int .i64 (chkE P (arcsQ l) s t)], by simp, hE0.trans hE1, rfl⟩
theorem apart_err {W : AW} {v : Value} {P : Int} {l : List Tri} (h : TriIn W v l) (s t : Int) (he : chkE P (arcsQ l) s t ≠ 0) : WpF T0 21 [.agg ⟨[.int .i64 P, v]⟩, .int .i64 s, .int .i64 t] W (fun u W' => Ext W W' ∧ u = .tuple ⟨[.slice none 0 0, .slice none 0 0, .int .i64 (chkE P (arcsQ l) s t)]⟩) := by
  refine wpF fun21 rfl ?_
  have hN := netPlan (netIn (P := P) h)
  have hE0 : Ext W (W.newCells 31 [.int .i64 P, v]) := .newCells _ _ _
  generalize hW0 : W.newCells 31 [.int .i64 P, v] = W0 at hN hE0
  try simp only [wpK_assoc]
  refine wpK_reg (fun R hR => by simp [hW0]; exact hR) ?_
  try simp only [wpK_assoc]
  refine wpK_x0 (fun R hR => by
      simp [aEnter, fun52, short_other, aCallV]; rw [callS_none]
      refine (checkEnds_wp hN s t).mono ?_
      rintro _ W1 ⟨hE1, rfl⟩
      simp []; exact hR W1 hE1) ?_
  rintro W1 hE1
  try simp only [wpK_assoc]
  refine wpK_reg (fun R hR => by simp [he]; exact hR) ?_
  try simp only [wpK_assoc]
  first | refine wpK_onT (by simp []) ?_ | refine wpK_outT (by simp []) ?_ | refine wpK_condT (by simp []) ?_ | refine wpK_endT (by simp []) ?_
  try simp only [wpK_assoc]
  refine wpK_reg (fun R hR => by simp []; exact hR) ?_
  exact wpK_ret ⟨.inr rfl, rfl, [.slice none 0 0, .slice none 0 0, .int .i64 (chkE P (arcsQ l) s t)], by simp, hE0.trans hE1, rfl⟩
theorem isFlow_err {W : AW} {v fl : Value} {P : Int} {l : List Tri} (h : TriIn W v l) (s t : Int) (he : chkE P (arcsQ l) s t ≠ 0) : WpF T0 22 [.agg ⟨[.int .i64 P, v]⟩, .int .i64 s, .int .i64 t, fl] W (fun u W' => Ext W W' ∧ u = .tuple ⟨[.int .i64 0, .bool false]⟩) := by
  refine wpF fun22 rfl ?_
  have hN := netPlan (netIn (P := P) h)
  have hE0 : Ext W (W.newCells 31 [.int .i64 P, v]) := .newCells _ _ _
  generalize hW0 : W.newCells 31 [.int .i64 P, v] = W0 at hN hE0
  try simp only [wpK_assoc]
  refine wpK_reg (fun R hR => by simp [hW0]; exact hR) ?_
  try simp only [wpK_assoc]
  refine wpK_x0 (fun R hR => by
      simp [aEnter, fun52, short_other, aCallV]; rw [callS_none]
      refine (checkEnds_wp hN s t).mono ?_
      rintro _ W1 ⟨hE1, rfl⟩
      simp [he]; exact hR W1 hE1) ?_
  rintro W1 hE1
  try simp only [wpK_assoc]
  first | refine wpK_onT (by simp []) ?_ | refine wpK_outT (by simp []) ?_ | refine wpK_condT (by simp []) ?_ | refine wpK_endT (by simp []) ?_
  try simp only [wpK_assoc]
  refine wpK_reg (fun R hR => by simp []; exact hR) ?_
  exact wpK_ret ⟨.inr rfl, rfl, [.int .i64 0, .bool false], by simp, hE0.trans hE1, rfl⟩
theorem areApart_err {W : AW} {v fl : Value} {P : Int} {l : List Tri} (h : TriIn W v l) (s t : Int) (he : chkE P (arcsQ l) s t ≠ 0) : WpF T0 23 [.agg ⟨[.int .i64 P, v]⟩, .int .i64 s, .int .i64 t, fl] W (fun u W' => Ext W W' ∧ u = .bool false) := by
  refine wpF fun23 rfl ?_
  have hN := netPlan (netIn (P := P) h)
  have hE0 : Ext W (W.newCells 31 [.int .i64 P, v]) := .newCells _ _ _
  generalize hW0 : W.newCells 31 [.int .i64 P, v] = W0 at hN hE0
  try simp only [wpK_assoc]
  refine wpK_reg (fun R hR => by simp [hW0]; exact hR) ?_
  try simp only [wpK_assoc]
  refine wpK_x0 (fun R hR => by
      simp [aEnter, fun52, short_other, aCallV]; rw [callS_none]
      refine (checkEnds_wp hN s t).mono ?_
      rintro _ W1 ⟨hE1, rfl⟩
      simp [he]; exact hR W1 hE1) ?_
  rintro W1 hE1
  try simp only [wpK_assoc]
  first | refine wpK_onT (by simp []) ?_ | refine wpK_outT (by simp []) ?_ | refine wpK_condT (by simp []) ?_ | refine wpK_endT (by simp []) ?_
  try simp only [wpK_assoc]
  refine wpK_reg (fun R hR => by simp []; exact hR) ?_
  exact wpK_ret ⟨.inr rfl, rfl, [.bool false], by simp, hE0.trans hE1, rfl⟩
theorem tree_err {W : AW} {v : Value} {P : Int} {l : List Tri} (h : TriIn W v l) (he : planOk P (linksQ l) = false) : WpF T0 27 [.agg ⟨[.int .i64 P, v]⟩] W (fun u W' => Ext W W' ∧ u = .tuple ⟨[.slice none 0 0, .int .i64 30]⟩) := by
  refine wpF fun27 rfl ?_
  have hE0 : Ext W (W.newCells 35 [.int .i64 P, v]) := .newCells _ _ _
  have hN := boardPlan (P := P) (h.ext hE0)
  have hl := load35 (Var.new W 35 [.int .i64 P, v])
  have hc := check_wp hN
  rw [chk, he] at hc
  generalize hW0 : W.newCells 35 [.int .i64 P, v] = W0 at hN hE0 hl hc
  try simp only [wpK_assoc]
  refine wpK_reg (fun R hR => by simp [hW0]; exact hR) ?_
  try simp only [wpK_assoc]
  refine wpK_x0 (fun R hR => by
      simp [hl, opMI35, -opMakeInterface, aEnter, fun51, short_other, aCallV]; rw [callS_none]
      refine (hc).mono ?_
      rintro _ W1 ⟨hE1, rfl⟩
      simp [hl, opMI35, -opMakeInterface]; exact hR W1 hE1) ?_
  rintro W1 hE1
  try simp only [wpK_assoc]
  refine wpK_reg (fun R hR => by simp []; exact hR) ?_
  try simp only [wpK_assoc]
  first | refine wpK_onT (by simp []) ?_ | refine wpK_outT (by simp []) ?_ | refine wpK_condT (by simp []) ?_ | refine wpK_endT (by simp []) ?_
  try simp only [wpK_assoc]
  refine wpK_reg (fun R hR => by simp []; exact hR) ?_
  exact wpK_ret ⟨.inr rfl, rfl, [.slice none 0 0, .int .i64 30], by simp, hE0.trans hE1, rfl⟩
theorem weakest_err {W : AW} {v : Value} {P : Int} {l : List Tri} (h : TriIn W v l) (he : planOk P (linksQ l) = false) : WpF T0 28 [.agg ⟨[.int .i64 P, v]⟩] W (fun u W' => Ext W W' ∧ u = .tuple ⟨[.int .i64 0, .slice none 0 0, .int .i64 30]⟩) := by
  refine wpF fun28 rfl ?_
  have hE0 : Ext W (W.newCells 35 [.int .i64 P, v]) := .newCells _ _ _
  have hN := boardPlan (P := P) (h.ext hE0)
  have hl := load35 (Var.new W 35 [.int .i64 P, v])
  have hc := check_wp hN
  rw [chk, he] at hc
  generalize hW0 : W.newCells 35 [.int .i64 P, v] = W0 at hN hE0 hl hc
  try simp only [wpK_assoc]
  refine wpK_reg (fun R hR => by simp [hW0]; exact hR) ?_
  try simp only [wpK_assoc]
  refine wpK_x0 (fun R hR => by
      simp [hl, opMI35, -opMakeInterface, aEnter, fun51, short_other, aCallV]; rw [callS_none]
      refine (hc).mono ?_
      rintro _ W1 ⟨hE1, rfl⟩
      simp [hl, opMI35, -opMakeInterface]; exact hR W1 hE1) ?_
  rintro W1 hE1
  try simp only [wpK_assoc]
  refine wpK_reg (fun R hR => by simp []; exact hR) ?_
  try simp only [wpK_assoc]
  first | refine wpK_onT (by simp []) ?_ | refine wpK_outT (by simp []) ?_ | refine wpK_condT (by simp []) ?_ | refine wpK_endT (by simp []) ?_
  try simp only [wpK_assoc]
  refine wpK_reg (fun R hR => by simp []; exact hR) ?_
  exact wpK_ret ⟨.inr rfl, rfl, [.int .i64 0, .slice none 0 0, .int .i64 30], by simp, hE0.trans hE1, rfl⟩
theorem isTree_err {W : AW} {v br : Value} {P : Int} {l : List Tri} (h : TriIn W v l) (he : planOk P (linksQ l) = false) : WpF T0 29 [.agg ⟨[.int .i64 P, v]⟩, br] W (fun u W' => Ext W W' ∧ u = .bool false) := by
  refine wpF fun29 rfl ?_
  have hE0 : Ext W (W.newCells 35 [.int .i64 P, v]) := .newCells _ _ _
  have hN := boardPlan (P := P) (h.ext hE0)
  have hl := load35 (Var.new W 35 [.int .i64 P, v])
  have hc := check_wp hN
  rw [chk, he] at hc
  generalize hW0 : W.newCells 35 [.int .i64 P, v] = W0 at hN hE0 hl hc
  try simp only [wpK_assoc]
  refine wpK_reg (fun R hR => by simp [hW0]; exact hR) ?_
  try simp only [wpK_assoc]
  refine wpK_x0 (fun R hR => by
      simp [hl, opMI35, -opMakeInterface, aEnter, fun51, short_other, aCallV]; rw [callS_none]
      refine (hc).mono ?_
      rintro _ W1 ⟨hE1, rfl⟩
      simp [hl, opMI35, -opMakeInterface]; exact hR W1 hE1) ?_
  rintro W1 hE1
  try simp only [wpK_assoc]
  first | refine wpK_onT (by simp []) ?_ | refine wpK_outT (by simp []) ?_ | refine wpK_condT (by simp []) ?_ | refine wpK_endT (by simp []) ?_
  try simp only [wpK_assoc]
  refine wpK_reg (fun R hR => by simp []; exact hR) ?_
  exact wpK_ret ⟨.inr rfl, rfl, [.bool false], by simp, hE0.trans hE1, rfl⟩
theorem least_err {W : AW} {v : Value} {P : Int} {l : List Tri} (h : TriIn W v l) (s t : Int) (he : chkE P (linksQ l) s t ≠ 0) : WpF T0 25 [.agg ⟨[.int .i64 P, v]⟩, .int .i64 s, .int .i64 t] W (fun u W' => Ext W W' ∧ u = .tuple ⟨[.int .i64 0, .int .i64 (chkE P (linksQ l) s t)]⟩) := by
  refine wpF fun25 rfl ?_
  have hE0 : Ext W (W.newCells 35 [.int .i64 P, v]) := .newCells _ _ _
  have hN := boardPlan (P := P) (h.ext hE0)
  have hl := load35 (Var.new W 35 [.int .i64 P, v])
  generalize hW0 : W.newCells 35 [.int .i64 P, v] = W0 at hN hE0 hl
  try simp only [wpK_assoc]
  refine wpK_reg (fun R hR => by simp [hW0]; exact hR) ?_
  try simp only [wpK_assoc]
  refine wpK_x0 (fun R hR => by
      simp [hl, opMI35, -opMakeInterface, aEnter, fun52, short_other, aCallV]; rw [callS_none]
      refine (checkEnds_wp hN s t).mono ?_
      rintro _ W1 ⟨hE1, rfl⟩
      simp [hl, opMI35, -opMakeInterface]; exact hR W1 hE1) ?_
  rintro W1 hE1
  try simp only [wpK_assoc]
  refine wpK_reg (fun R hR => by simp [he]; exact hR) ?_
  try simp only [wpK_assoc]
  first | refine wpK_onT (by simp []) ?_ | refine wpK_outT (by simp []) ?_ | refine wpK_condT (by simp []) ?_ | refine wpK_endT (by simp []) ?_
  try simp only [wpK_assoc]
  refine wpK_reg (fun R hR => by simp []; exact hR) ?_
  exact wpK_ret ⟨.inr rfl, rfl, [.int .i64 0, .int .i64 (chkE P (linksQ l) s t)], by simp, hE0.trans hE1, rfl⟩
theorem tri_eq {W : AW} {v : Value} {l : List Tri} (h : TriIn W v l) : valEq v v = true := by
  obtain ⟨A, c, rfl, _⟩ := h
  rcases A with _ | ⟨b, o, _ | x⟩ <;> simp
/-- one place: the bits of its set -/
theorem one_low {s : Nat} : (1 <<< s).testBit s = true ∧ ∀ j, j < s → (1 <<< s).testBit j = false := by
  refine ⟨by rw [one_bit]; simp, fun j hj => by rw [one_bit]; simp; omega⟩
theorem least_ok {W : AW} {v : Value} {P : Int} {l : List Tri} (h : TriIn W v l) {s t : Nat} (hP : PlanIn P (linksQ l)) (hst : two? s t P = true) (hT : tabsIn T0 T0.tabs W = true) (h0 : 0 < W.next) :
    WpF T0 25 [.agg ⟨[.int .i64 P, v]⟩, .int .i64 s, .int .i64 t] W (fun u W' => Ext W W' ∧ ∃ x rm lv, u = .tuple ⟨[.int .i64 x, .int .i64 0]⟩ ∧ Filled (layL (1 <<< s) s (linksQ l)) s t (hCap (layL (1 <<< s) s (linksQ l))) x rm lv) := by
  refine wpF fun25 rfl ?_
  have hE0 : Ext W (W.newCells 35 [.int .i64 P, v]) := .newCells _ _ _
  have hN := boardPlan (P := P) (h.ext hE0)
  have hV := Var.new W 35 [.int .i64 P, v]
  have hl := load35 hV
  have hT0 := tabs_ext hT h0 hE0
  have h00 : 0 < (W.newCells 35 [.int .i64 P, v]).next := by rw [newCells_next]; omega
  generalize hW0 : W.newCells 35 [.int .i64 P, v] = W0 at hN hE0 hl hT0 h00 hV
  obtain ⟨hP2, hP24, _⟩ := hP.size
  have hok : planOk P (linksQ l) = true := hP.ok
  have hee : chkE P (linksQ l) s t = 0 := by simp only [chkE, hok, endE, hst, if_true]
  simp only [two?, Bool.and_eq_true, decide_eq_true_eq] at hst
  have hc := checkEnds_wp hN s t
  rw [hee] at hc
  try simp only [wpK_assoc]
  refine wpK_reg (fun R hR => by simp [hW0]; exact hR) ?_
  try simp only [wpK_assoc]
  refine wpK_x0 (fun R hR => by
      simp [hl, opMI35, -opMakeInterface, aEnter, fun52, short_other, aCallV]; rw [callS_none]
      refine (hc).mono ?_
      rintro _ W1 ⟨hE1, rfl⟩
      simp [hl, opMI35, -opMakeInterface]; exact hR W1 hE1) ?_
  rintro W1 hE1
  try simp only [wpK_assoc]
  refine wpK_reg (fun R hR => by simp []; exact hR) ?_
  try simp only [wpK_assoc]
  first | refine wpK_onF (by simp []) ?_ | refine wpK_out (by simp []) ?_ | refine wpK_condF (by simp []) ?_ | refine wpK_endF (by simp []) (wpK_skip ?_) | refine wpK_endF (by simp []) ?_
  have hN1 := hN.ext hE1
  have hT1 := tabs_ext hT0 h00 hE1
  have hl1 := load35 (hV.ext hE1)
  have h10 : 0 < W1.next := Nat.lt_of_lt_of_le h00 hE1.1
  have hvv := tri_eq h
  try simp only [wpK_assoc]
  refine wpK_d4 (wr := Tr.nil |>.set 17 0 |>.set 18 1 |>.set 19 2 |>.set 20 3 |>.set 21 4 |>.set 22 5 |>.set 23 6 |>.set 6 7 |>.set 7 8) (bits := Tr.nil.lay 0 [0, 1, 0, 4, 0, 31, 63, 127, 255]) (ord := [0, 1, 2, 3, 4, 5, 6, 7, 8]) (by kernel_rfl) (by kernel_rfl) (by kernel_rfl) (fun G hG => by
    simp [hl1, opMI35, -opMakeInterface, aEnter, fun54, short_other, aCallV]
    rw [dcallS_none]
    refine (one_wp s (by omega) W1).mono ?_
    rintro _ W2 ⟨hW2, rfl⟩
    subst W2
    simp [hl1, opMI35, -opMakeInterface, aEnter, fun53, short_other, aCallV]
    rw [dcallS_none]
    refine (lay_wp hN1 hP (by exact one_lt (by omega)) one_low.1 one_low.2 (by omega) (by omega) hT1 h10).mono ?_
    rintro _ W3 ⟨hE3, p, B, rfl, hp, hWk⟩
    simp [hE3.1, hl1, opMI35, -opMakeInterface, aEnter, fun55, short_other, aCallV]
    rw [dcallS_none]
    refine (fill_wp hWk (layL_ok hP (by omega)) (by omega) (by omega) (by omega) (cap_rooms (layL_ok hP (by omega)))).mono ?_
    rintro _ W4 ⟨x, rm', lv, rfl, hO4, hWk4, hF⟩
    simp [hO4.1, hl1, hvv]
    have hE4 : Ext W1 W4 := ⟨Nat.le_trans hE3.1 hO4.1, fun b hb hk => by rw [hO4.2 b (Nat.lt_of_lt_of_le hb hE3.1) (fun e => by omega)]; exact hE3.2 b hb hk⟩
    exact hG p x rm' lv W4 (And.intro hE4 hF)) ?_
  rintro _ x rm lv W4 ⟨hE4, hF⟩
  exact wpK_ret ⟨.inr rfl, rfl, [.int .i64 x, .int .i64 0], by simp, (hE0.trans hE1).trans hE4, x, rm, lv, rfl, hF⟩

end Go.Proofs.YtkipaffjmcmclaaDoor

open Go Go.Eng
namespace Go.Proofs.YtkipaffjmcmclaaDoor
attribute [local congr] undef_congr WpK.congr WpS.congr WpL.congr WpC.congr WpF.congr gotS.congr callS.congr nextS.congr wantS.congr condS.congr
attribute [local irreducible] WpK
attribute [local simp] WpDr_nil WpDr_cons atS_some dwantS_true dwantS_false kindS_light kindS_float kindS_heavy lightS_value floatS_some heavyS_value heavyS_skip heavyS_enter dcallS_some doneS_eq
  isLight isFloat isPlain dLook testBit_dec dChain dLights_nil dLights_skip dLights_one dLight_nil dLight_cons dFreshes_nil dFreshes_one oneF_none oneF_some dFresh_nil dFresh_cons oneL_some oneW_true oneW_false sameV_value dPut dMay valEq arrEq listEq List.getElem?_cons Tr.get_nil dEnd
attribute [local simp] WpS_nil WpS_cons isDefer undef_false wantS_true wantS_false nextS_value nextS_skip nextS_enter callS_some gotS_some aWanted aOp aEvalF aEval opMove opAssign opPick aVal flat flat1 AAct.put opBinOp opConvert opIndex Tr.get_set Tr.get_lay aBin aResults tupled
  aCall aVals aCallB blt_dec ble_dec beq_dec aBinI_add aBinI_sub aBinI_lss aBinI_leq aBinI_gtr aBinI_geq aBinI_eql aBinI_neq index_str len_str len_slice Nat.beq_refl und2 und3 und4 und5 und39 und76 und82 und116 und22 und29 und25 und33 und46 und43 und49 und111 und113 field152 field156_0 field156_1 field156_2 field156_3 field156_4
  field78 field106 field24 field31 field27 field35 field108 field109 opBox opLoad opFieldAddr opIndexAddr acells aAddr opExtract aExtract opUnOp opAlloc opStore opMakeInterface opNilCheck opBuild aParts opBuildSlice aValW
set_option maxHeartbeats 4000000
set_option linter.unusedSimpArgs false
set_option linter.unusedVariables false
theorem z2' : Tryd.t2.zero = some (.int .i64 0) := by kernel_rfl
theorem by2 : Tryd.t2.bytes = 8 := by kernel_rfl
theorem mk43 (W : AW) (n : Nat) (hn : n ≤ 100000) : aMakeSlice T0 W 43 (.int .i64 n) (.int .i64 n) = some (.slice (some ⟨W.next, 0, none⟩) n (2 * n), W.newCells 2 (rep [.int .i64 0] n)) := by
  show aMakeSlice T0 W 43 (.int .i64 (Int.ofNat n)) (.int .i64 (Int.ofNat n)) = _
  have h1 : n ≤ 4611686018427387904 := by omega
  have h2 : Tryd.t2.bytes * n ≤ 281474976710656 := by rw [by2]; omega
  simp only [aMakeSlice, und43, inf2, z2', h1, h2, is2, ble_dec, acells, List.length_cons, List.length_nil, Nat.beq_refl, Nat.le_refl, decide_true]
theorem ix28 (p o q : Nat) (hq : q < 2) : aIndexAddr T0 28 (.pointer (some ⟨p, o, none⟩)) (.int .i64 (q : Nat)) = some (.pointer (some ⟨p, o + q, none⟩)) := by
  show aIndexAddr T0 28 (.pointer (some ⟨p, o, none⟩)) (.int .i64 (Int.ofNat q)) = _
  simp only [aIndexAddr, und28, sz3, blt_dec, hq, decide_true, Nat.mul_one]
theorem ix28_0 (p o : Nat) : aIndexAddr T0 28 (.pointer (some ⟨p, o, none⟩)) (.int .i64 0) = some (.pointer (some ⟨p, o + 0, none⟩)) := ix28 p o 0 (by omega)
theorem ix28_1 (p o : Nat) : aIndexAddr T0 28 (.pointer (some ⟨p, o, none⟩)) (.int .i64 1) = some (.pointer (some ⟨p, o + 1, none⟩)) := ix28 p o 1 (by omega)
theorem build24v (P : Int) (A : Option Addr) (n c : Nat) : aBuild T0 24 [(0, .int .i64 P), (1, .slice A n c)] = some (.agg ⟨[.int .i64 P, .slice A n c]⟩) := by kernel_rfl
theorem build27v (P : Int) (A : Option Addr) (n c : Nat) : aBuild T0 27 [(0, .int .i64 P), (1, .slice A n c)] = some (.agg ⟨[.int .i64 P, .slice A n c]⟩) := by kernel_rfl
theorem build66 (x y : Int) : aBuild T0 66 [(0, .int .i64 x), (1, .int .i64 y)] = some (.agg ⟨[.int .i64 x, .int .i64 y, .int .i64 0]⟩) := by kernel_rfl
theorem bs59 (W : AW) (x y z : Value) : aBuildSlice T0 W 59 1 [(0, .agg ⟨[x, y, z]⟩)] = some (.slice (some ⟨W.next, 0, none⟩) 1 2, W.newCells 66 [x, y, z]) := by kernel_rfl
theorem und59 : T0.und.get 59 = some (.slice 66) := by kernel_rfl
theorem load27 {W : AW} {p : Nat} {x y : Value} (h : Var W p 27 [x, y]) : aLoadVar T0 W 27 p 0 = some (.agg ⟨[x, y]⟩) := h.load (T := T0) und27 agg27 inf27 is27
theorem tri_len {W : AW} {v : Value} {l : List Tri} (h : TriIn W v l) : ∃ A c, v = .slice A l.length c := let ⟨A, c, h, _⟩ := h; ⟨A, c, h⟩

theorem rep_eq : ∀ n, listEq (rep [.int .i64 0] n) (rep [.int .i64 0] n) = true
  | 0 => rfl
  | n + 1 => by
    show listEq ([.int .i64 0] ++ rep [.int .i64 0] n) ([.int .i64 0] ++ rep [.int .i64 0] n) = true
    exact listEq_cons (valEq_int _ _) (rep_eq n)
theorem flt_mk43 {ρ : Operand → Option Value} {l c : Operand} (n : Nat) (hn : n ≤ 100000) (hl : ρ l = some (.int .i64 (n : Int))) (hc : ρ c = some (.int .i64 (n : Int))) : aFlt T0 ρ (.makeSlice 43 l c) = some ⟨2, rep [.int .i64 0] n, false, n, n⟩ := by
  have hl : ρ l = some (.int .i64 (Int.ofNat n)) := hl
  have hc : ρ c = some (.int .i64 (Int.ofNat n)) := hc
  have h1 : n ≤ 4611686018427387904 := by omega
  have h2 : Tryd.t2.bytes * n ≤ 281474976710656 := by rw [by2]; omega
  simp only [aFlt, hl, hc, und43, inf2, z2', h1, h2, is2, ble_dec, acells, List.length_cons, List.length_nil, Nat.beq_refl, Nat.le_refl, decide_true]
theorem freshB_var {W : AW} {p : Nat} {el : TypeId} {l : List Value} (h : Var W p el l) (hl : listEq l l = true) : freshB W p el l = true := by
  obtain ⟨h1, c, h2, h3⟩ := h
  have ht : c.take 0 l.length = some l := take_get c l.length 0 l rfl (fun j hj => by rw [Nat.zero_add]; exact h3 j hj)
  simp only [freshB, h2, Nat.beq_refl, blt_dec, h1, decide_true, ht, hl]

theorem flowChecks_wp {W : AW} {vN vB : Value} (P0 Q0 s t : Int) {lN lB : List Tri} (hN : TriIn W vN lN) (hSN : SlOk vN lN.length) (hB : TriIn W vB lB) (hSB : SlOk vB lB.length) (htb : tabsIn T0 T0.tabs W = true) (hW0 : 0 < W.next) :
    WpF T0 3 [.agg ⟨[.int .i64 P0, vN]⟩, .agg ⟨[.int .i64 Q0, vB]⟩, .agg ⟨[.int .i64 s, .int .i64 t]⟩] W (fun u _ => u = .bool true) := by
  refine wpF fun3 rfl ?_
  obtain ⟨W1, hW1, hE1, hn1, hV3, hV4, hV5⟩ : ∃ W1, W1 = ((W.newCells 24 [.int .i64 P0, vN]).newCells 27 [.int .i64 Q0, vB]).newCells 28 [.int .i64 s, .int .i64 t] ∧ Ext W W1 ∧ W1.next = W.next + 3 ∧ Var W1 W.next 24 [.int .i64 P0, vN] ∧ Var W1 (W.next + 1) 27 [.int .i64 Q0, vB] ∧ Var W1 (W.next + 2) 28 [.int .i64 s, .int .i64 t] :=
    ⟨_, rfl, ((Only.newCells _ _ _).trans (Only.newCells _ _ _)).trans (Only.newCells _ _ _), rfl, ((Var.new _ _ _).ext (.newCells _ _ _)).ext (.newCells _ _ _), (Var.new _ _ _).ext (.newCells _ _ _), Var.new _ _ _⟩
  have hN1 := hN.ext hE1
  have hB1 := hB.ext hE1
  -- the slices
  obtain ⟨k1, hk1⟩ : ∃ k : Nat, k = min lN.length 201 := ⟨_, rfl⟩
  obtain ⟨k2, hk2⟩ : ∃ k : Nat, k = min lB.length 201 := ⟨_, rfl⟩
  have mN : min (lN.length : Int) 201 = (k1 : Int) := by omega
  have mB : min (lB.length : Int) 201 = (k2 : Int) := by omega
  obtain ⟨uN, A1, c1, sN, huN, hTN⟩ := slice_tri und22 sz78 hSN hN1 (k := k1) (by omega)
  obtain ⟨uB, A2, c2, sB, huB, hTB⟩ := slice_tri und25 sz109 hSB hB1 (k := k2) (by omega)
  obtain ⟨aN, cN, hvN⟩ := tri_len hN
  obtain ⟨aB, cB, hvB⟩ := tri_len hB
  have hlenN : ∀ W', aLen T0 W' 22 vN = some (.int .i64 lN.length) := fun W' => by rw [hvN]; exact len_slice und22 _ _ _
  have hlenB : ∀ W', aLen T0 W' 25 vB = some (.int .i64 lB.length) := fun W' => by rw [hvB]; exact len_slice und25 _ _ _
  -- the variables x and y
  obtain ⟨Wc, W2, hc1, hc2, hEc, hE2, hnc, hn2, hVc, hVx, hVy⟩ : ∃ Wc W2, aStoreVar T0 ((W1.newCells 24 [.int .i64 0, .slice none 0 0]).newCells 27 [.int .i64 0, .slice none 0 0]) 24 W1.next 0 (.agg ⟨[.int .i64 P0, uN]⟩) = some Wc ∧ aStoreVar T0 Wc 27 (W1.next + 1) 0 (.agg ⟨[.int .i64 Q0, uB]⟩) = some W2 ∧ Ext W1 Wc ∧ Ext W1 W2 ∧ Wc.next = W1.next + 2 ∧ W2.next = W1.next + 2 ∧ Var Wc (W1.next + 1) 27 [.int .i64 0, .slice none 0 0] ∧ Var W2 W1.next 24 [.int .i64 P0, uN] ∧ Var W2 (W1.next + 1) 27 [.int .i64 Q0, uB] := by
    have hEb : Ext W1 ((W1.newCells 24 [.int .i64 0, .slice none 0 0]).newCells 27 [.int .i64 0, .slice none 0 0]) := (Only.newCells _ _ _).trans (Only.newCells _ _ _)
    have g1 : Var ((W1.newCells 24 [.int .i64 0, .slice none 0 0]).newCells 27 [.int .i64 0, .slice none 0 0]) W1.next 24 [.int .i64 0, .slice none 0 0] := (Var.new _ _ _).ext (.newCells _ _ _)
    have g2 : Var ((W1.newCells 24 [.int .i64 0, .slice none 0 0]).newCells 27 [.int .i64 0, .slice none 0 0]) (W1.next + 1) 27 [.int .i64 0, .slice none 0 0] := Var.new _ _ _
    have gn : ((W1.newCells 24 [.int .i64 0, .slice none 0 0]).newCells 27 [.int .i64 0, .slice none 0 0]).next = W1.next + 2 := rfl
    generalize (W1.newCells 24 [.int .i64 0, .slice none 0 0]).newCells 27 [.int .i64 0, .slice none 0 0] = Wb at hEb g1 g2 gn
    obtain ⟨Wc, e1, e2, e3, e4⟩ := g1.store (T := T0) (t := 24) (v := .agg ⟨[.int .i64 P0, uN]⟩) (o := 0) inf24 (by rw [is24]; rfl) (by simp) (by rw [huN]; rfl)
    obtain ⟨W2, f1, f2, f3, f4⟩ := (g2.only e3 (by omega)).store (T := T0) (t := 27) (v := .agg ⟨[.int .i64 Q0, uB]⟩) (o := 0) inf27 (by rw [is27]; rfl) (by simp) (by rw [huB]; rfl)
    refine ⟨Wc, W2, e1, f1, ⟨by omega, fun b hb hk => by rw [e3.2 b (by omega) (by omega)]; exact hEb.2 b hb hk⟩, ⟨by omega, fun b hb hk => ?_⟩, by omega, by omega, g2.only e3 (by omega), e4.only f3 (by omega), f4⟩
    rw [f3.2 b (by omega) (by omega), e3.2 b (by omega) (by omega)]
    exact hEb.2 b hb hk
  have l30 : ∀ W', Ext W1 W' → aLoadVar T0 W' 3 W.next 0 = some (.int .i64 P0) := fun W' h => (hV3.ext h).load1 (T := T0) und3 rfl (j := 0) (v := .int .i64 P0) rfl
  have l31 : ∀ W', Ext W1 W' → aLoadVar T0 W' 22 W.next 1 = some vN := fun W' h => (hV3.ext h).load1 (T := T0) und22 rfl (j := 1) (v := vN) rfl
  have l40 : ∀ W', Ext W1 W' → aLoadVar T0 W' 3 (W.next + 1) 0 = some (.int .i64 Q0) := fun W' h => (hV4.ext h).load1 (T := T0) und3 rfl (j := 0) (v := .int .i64 Q0) rfl
  have l41 : ∀ W', Ext W1 W' → aLoadVar T0 W' 25 (W.next + 1) 1 = some vB := fun W' h => (hV4.ext h).load1 (T := T0) und25 rfl (j := 1) (v := vB) rfl
  have e11 : Ext W1 W1 := .refl _ _
  have e12 : Ext W1 (W1.newCells 24 [.int .i64 0, .slice none 0 0]) := .newCells _ _ _
  have e13 : Ext W1 ((W1.newCells 24 [.int .i64 0, .slice none 0 0]).newCells 27 [.int .i64 0, .slice none 0 0]) := e12.trans (.newCells _ _ _)
  have vvN := tri_eq hN
  have vvB := tri_eq hB
  have vuN := tri_eq hTN
  have vuB := tri_eq hTB
  have fr1 := freshB_new W1 24 [.int .i64 0, .slice none 0 0] rfl
  have fr2 : freshB ((W1.newCells 24 [.int .i64 0, .slice none 0 0]).newCells 27 [.int .i64 0, .slice none 0 0]) (W1.next + 1) 27 [.int .i64 0, .slice none 0 0] = true := freshB_new (W1.newCells 24 [.int .i64 0, .slice none 0 0]) 27 [.int .i64 0, .slice none 0 0] rfl
  have fr3 : freshB ((W1.newCells 24 [.int .i64 0, .slice none 0 0]).newCells 27 [.int .i64 0, .slice none 0 0]) W1.next 24 [.int .i64 0, .slice none 0 0] = true := freshB_var ((Var.new _ _ _).ext (.newCells _ _ _)) rfl
  have fr4 : freshB Wc (W1.next + 1) 27 [.int .i64 0, .slice none 0 0] = true := freshB_var hVc rfl
  have bN : aBuild T0 24 [(0, .int .i64 P0), (1, uN)] = some (.agg ⟨[.int .i64 P0, uN]⟩) := by rw [huN]; exact build24v _ _ _ _
  have bB : aBuild T0 27 [(0, .int .i64 Q0), (1, uB)] = some (.agg ⟨[.int .i64 Q0, uB]⟩) := by rw [huB]; exact build27v _ _ _ _
  try simp only [wpK_assoc]
  refine wpK_reg (fun R hR => by simp [newCells_next, ← hW1]; exact hR) ?_
  try simp only [wpK_assoc]
  refine wpK_dn (wr := Tr.nil |>.set 35 0 |>.set 36 1 |>.set 37 2 |>.set 38 3 |>.set 39 4 |>.set 40 5 |>.set 41 6 |>.set 42 7 |>.set 43 8 |>.set 44 9 |>.set 45 10 |>.set 46 11 |>.set 47 12 |>.set 48 13 |>.set 49 14 |>.set 50 15 |>.set 51 16 |>.set 52 17 |>.set 53 18 |>.set 54 19 |>.set 7 20 |>.set 8 21) (bits := Tr.nil.lay 0 [0, 1, 0, 4, 0, 16, 48, 112, 252, 511, 0, 1024, 0, 4096, 0, 16384, 49152, 114688, 258048, 523264, 0, 0, 3146751, 8388607]) (ord := [0, 1, 2, 3, 4, 5, 6, 7, 8, 9, 10, 11, 12, 13, 14, 15, 16, 17, 18, 19, 20, 21, 22, 23]) (by kernel_rfl) (by kernel_rfl) (by kernel_rfl) (fun G hG => by
    simp [opSlice, aOpt, l30, l31, l40, l41, hlenN, hlenB, min_int, mN, mB, sN, sB, bN, bB, zero24, zero27, hc1, hc2, e11, e12, e13, hEc, hE2, aFlt, AFlt.val, fr1, fr2, fr3, fr4, newCells_next, hnc, hn2, vvN, vvB, vuN, vuB]
    exact hG) ?_
  have hTN2 := hTN.ext hE2
  have hTB2 := hTB.ext hE2
  have kN : (lN.take k1).length = k1 := by rw [List.length_take]; omega
  have kB : (lB.take k2).length = k2 := by rw [List.length_take]; omega
  generalize lN.take k1 = lx at hTN2 kN
  generalize lB.take k2 = ly at hTB2 kB
  have hV52 := hV5.ext hE2
  have htb2 := tabs_ext htb hW0 (hE1.trans hE2)
  have h02 : 0 < W2.next := by omega
  obtain ⟨bx, hbx⟩ : ∃ bx, bx = W1.next := ⟨_, rfl⟩
  obtain ⟨by', hby⟩ : ∃ b, b = W1.next + 1 := ⟨_, rfl⟩
  obtain ⟨bo, hbo⟩ : ∃ b, b = W.next + 2 := ⟨_, rfl⟩
  rw [← hbx] at hVx
  rw [← hby] at hVy
  rw [← hbo] at hV52
  refine wpK_keep (fun tm' => tm'.get 5 = some (.pointer (some ⟨bo, 0, none⟩)) ∧ tm'.get 7 = some (.pointer (some ⟨bx, 0, none⟩)) ∧ tm'.get 8 = some (.pointer (some ⟨by', 0, none⟩))) ⟨by simp [hbx, hby, hbo, hn1], by simp [hbx, hby, hbo, hn1], by simp [hbx, hby, hbo, hn1]⟩ ?_
  rintro tm ⟨h5, h7, h8⟩
  clear hvN hvB hlenN hlenB sN sB bN bB l30 l31 l40 l41 hV3 hV4 hV5 hc1 hc2 hTN hTB mN mB hSN hSB
  have lx2 : ∀ W', Ext W2 W' → aLoadVar T0 W' 24 bx 0 = some (.agg ⟨[.int .i64 P0, uN]⟩) := fun W' h => load24 (hVx.ext h)
  have ly2 : ∀ W', Ext W2 W' → aLoadVar T0 W' 27 by' 0 = some (.agg ⟨[.int .i64 Q0, uB]⟩) := fun W' h => load27 (hVy.ext h)
  obtain ⟨Wz, hWz, hEz, hnz, hVp0, hVq0⟩ : ∃ Wz, Wz = (W2.newCells 31 [.int .i64 0, .slice none 0 0]).newCells 35 [.int .i64 0, .slice none 0 0] ∧ Ext W2 Wz ∧ Wz.next = W2.next + 2 ∧ Var Wz W2.next 31 [.int .i64 0, .slice none 0 0] ∧ Var Wz (W2.next + 1) 35 [.int .i64 0, .slice none 0 0] :=
    ⟨_, rfl, (Only.newCells _ _ _).trans (Only.newCells _ _ _), rfl, (Var.new _ _ _).ext (.newCells _ _ _), Var.new _ _ _⟩
  have e22 : Ext W2 W2 := .refl _ _
  have e2z : Ext W2 (W2.newCells 31 [.int .i64 0, .slice none 0 0]) := .newCells _ _ _
  try simp only [wpK_assoc]
  refine wpK_d2 (wr := Tr.nil |>.set 55 0 |>.set 56 1 |>.set 57 2 |>.set 58 3 |>.set 9 4 |>.set 10 5) (bits := Tr.nil.lay 0 [0, 1, 0, 7, 0, 0, 63, 127]) (ord := [0, 2, 4, 5, 1, 3, 6, 7]) (by kernel_rfl) (by kernel_rfl) (by kernel_rfl) (fun G hG => by
    simp [h7, h8, lx2, ly2, e22, e2z, hEz, zero31, zero35, aFlt, AFlt.val, newCells_next, ← hWz, aEnter, fun12, short_other, aCallV]
    rw [dcallS_none]
    refine (net_wp (P := P0) (hTN2.ext hEz) (by omega)).mono ?_
    rintro _ W3 ⟨hE3, vp, rfl, hGp⟩
    have e23 := hEz.trans hE3
    simp [hE3.1, h7, h8, lx2, ly2, e22, e2z, hEz, e23, zero31, zero35, aFlt, AFlt.val, newCells_next, aEnter, fun13, short_other, aCallV]
    rw [dcallS_none]
    refine (board_wp (P := Q0) (hTB2.ext e23) (by omega)).mono ?_
    rintro _ W4 ⟨hE4, vq, rfl, hGq⟩
    have e24 := e23.trans hE4
    have ez4 := hE3.trans hE4
    obtain ⟨ap, cp, hvp⟩ := hGp.len
    obtain ⟨aq, cq, hvq⟩ := hGq.len
    have q1 := hVp0.ext hE3
    have q2 := hVq0.ext hE3
    have q3 := hVp0.ext ez4
    have q4 := hVq0.ext ez4
    obtain ⟨W5, s1, s2, s3, s4⟩ := q3.store (T := T0) (t := 31) (v := .agg ⟨[.int .i64 P0, vp]⟩) (o := 0) inf31 (by rw [is31]; rfl) (by simp) (by rw [hvp]; rfl)
    have q5 := q4.only s3 (by omega)
    obtain ⟨W6, t1, t2, t3, t4⟩ := q5.store (T := T0) (t := 35) (v := .agg ⟨[.int .i64 Q0, vq]⟩) (o := 0) inf35 (by rw [is35]; rfl) (by simp) (by rw [hvq]; rfl)
    have n34 := hE3.1
    have n45 := hE4.1
    have e25 : Ext W2 W5 := ⟨by omega, fun b hb hk => by rw [s3.2 b (by omega) (by omega)]; exact e24.2 b hb hk⟩
    have e26 : Ext W2 W6 := ⟨by omega, fun b hb hk => by rw [t3.2 b (by omega) (by omega)]; exact e25.2 b hb hk⟩
    have w1 := tri_eq (hGp.tri)
    have w2 := tri_eq (hGq.tri)
    simp [hE3.1, hE4.1, h7, h8, lx2, ly2, e22, e2z, hEz, e23, e24, e25, e26, zero31, zero35, aFlt, AFlt.val, newCells_next, s1, s2, t1, t2, w1, w2, vuN, vuB,
      freshB_var hVp0 rfl, freshB_var hVq0 rfl, freshB_var q1 rfl, freshB_var q2 rfl, freshB_var q3 rfl, freshB_var q4 rfl, freshB_var q5 rfl]
    have tp : TriIn W6 vp lx := (((hGp.only (K' := fun _ => False) hE4 (fun _ _ _ x => x)).only s3 (fun b _ hb e => by omega)).only t3 (fun b _ hb e => by omega)).tri
    have tq : TriIn W6 vq ly := ((hGq.only s3 (fun b _ hb e => by omega)).only t3 (fun b _ hb e => by omega)).tri
    exact hG vp vq W6 (And.intro e26 (And.intro (s4.only t3 (by omega)) (And.intro t4 (And.intro tp tq))))) ?_
  rintro vp vq W6 ⟨e26, hVp, hVq, tp, tq⟩
  have htb6 := tabs_ext htb2 h02 e26
  have h06 : 0 < W6.next := Nat.lt_of_lt_of_le h02 e26.1
  have tx := hTN2.ext e26
  have ty := hTB2.ext e26
  have hVx6 := hVx.ext e26
  have hVy6 := hVy.ext e26
  have hV56 := hV52.ext e26
  obtain ⟨b9, hb9⟩ : ∃ b, b = W2.next := ⟨_, rfl⟩
  obtain ⟨b10, hb10⟩ : ∃ b, b = W2.next + 1 := ⟨_, rfl⟩
  rw [← hb9] at hVp
  rw [← hb10] at hVq
  refine wpK_keep (fun tm' => tm'.get 5 = some (.pointer (some ⟨bo, 0, none⟩)) ∧ tm'.get 7 = some (.pointer (some ⟨bx, 0, none⟩)) ∧ tm'.get 8 = some (.pointer (some ⟨by', 0, none⟩)) ∧ tm'.get 9 = some (.pointer (some ⟨b9, 0, none⟩)) ∧ tm'.get 10 = some (.pointer (some ⟨b10, 0, none⟩))) ⟨by simp [h5, h7, h8, hb9, hb10], by simp [h5, h7, h8, hb9, hb10], by simp [h5, h7, h8, hb9, hb10], by simp [h5, h7, h8, hb9, hb10], by simp [h5, h7, h8, hb9, hb10]⟩ ?_
  rintro tm ⟨h5, h7, h8, h9, h10⟩
  clear lx2 ly2 hTN2 hTB2 hVx hVy hV52 htb2 hEz hWz hnz hVp0 hVq0 e22 e2z
  have Lx : ∀ W', Ext W6 W' → aLoadVar T0 W' 24 bx 0 = some (.agg ⟨[.int .i64 P0, uN]⟩) := fun W' h => load24 (hVx6.ext h)
  have Lx0 : ∀ W', Ext W6 W' → aLoadVar T0 W' 3 bx 0 = some (.int .i64 P0) := fun W' h => (hVx6.ext h).load1 (T := T0) und3 rfl (j := 0) (v := .int .i64 P0) rfl
  have Lx1 : ∀ W', Ext W6 W' → aLoadVar T0 W' 22 bx 1 = some uN := fun W' h => (hVx6.ext h).load1 (T := T0) und22 rfl (j := 1) (v := uN) rfl
  have Ly : ∀ W', Ext W6 W' → aLoadVar T0 W' 27 by' 0 = some (.agg ⟨[.int .i64 Q0, uB]⟩) := fun W' h => load27 (hVy6.ext h)
  have Ly0 : ∀ W', Ext W6 W' → aLoadVar T0 W' 3 by' 0 = some (.int .i64 Q0) := fun W' h => (hVy6.ext h).load1 (T := T0) und3 rfl (j := 0) (v := .int .i64 Q0) rfl
  have Lp : ∀ W', Ext W6 W' → aLoadVar T0 W' 31 b9 0 = some (.agg ⟨[.int .i64 P0, vp]⟩) := fun W' h => load31 (hVp.ext h)
  have Lq : ∀ W', Ext W6 W' → aLoadVar T0 W' 35 b10 0 = some (.agg ⟨[.int .i64 Q0, vq]⟩) := fun W' h => load35 (hVq.ext h)
  have Lo0 : ∀ W', Ext W6 W' → aLoadVar T0 W' 3 bo 0 = some (.int .i64 s) := fun W' h => (hV56.ext h).load1 (T := T0) und3 rfl (j := 0) (v := .int .i64 s) rfl
  have Lo1 : ∀ W', Ext W6 W' → aLoadVar T0 W' 3 bo 1 = some (.int .i64 t) := fun W' h => (hV56.ext h).load1 (T := T0) und3 rfl (j := 1) (v := .int .i64 t) rfl
  have lenN : ∀ W', aLen T0 W' 22 uN = some (.int .i64 k1) := fun W' => by rw [huN]; exact len_slice und22 _ _ _
  have e66 : Ext W6 W6 := .refl _ _
  clear hVx6 hVy6 hV56
  -- the errors that are wanted
  have hcB := chk_links Q0 ly
  try simp only [wpK_assoc]
  refine wpK_d0 (wr := Tr.nil |>.set 59 0 |>.set 60 1 |>.set 61 2 |>.set 62 3 |>.set 11 4 |>.set 12 5) (bits := Tr.nil.lay 0 [0, 1, 0, 7, 15, 31]) (ord := [0, 1, 2, 3, 4, 5]) (by kernel_rfl) (by kernel_rfl) (by kernel_rfl) (fun G hG => by
    simp [h7, h8, Lx, Ly, e66, aEnter, fun14, short_other, aCallV]
    rw [dcallS_none]
    refine (refCheck_wp P0 tx).mono ?_
    rintro _ W7 ⟨e67, rfl⟩
    simp [h7, h8, Lx, Ly, e66, e67, e67.1, aEnter, fun15, short_other, aCallV]
    rw [dcallS_none]
    refine (refCheckB_wp Q0 (ty.ext e67)).mono ?_
    rintro _ W8 ⟨e78, rfl⟩
    have e68 := e67.trans e78
    simp [h7, h8, Lx, Ly, e66, e67, e68, e78.1, vuN, vuB]
    exact hG W8 e68) ?_
  rintro W8 e68
  try simp only [wpK_assoc]
  refine wpK_x0 (fun R hR => by
    simp [h9, h10, Lp, Lq, e68, aEnter, fun16, short_other, aCallV]; rw [callS_none]
    refine (check16_wp P0 (tp.ext e68)).mono ?_
    rintro _ W9 ⟨e89, rfl⟩
    have e69 := e68.trans e89
    simp [h9, h10, Lp, Lq, e69, aEnter, fun17, short_other, aCallV]; rw [callS_none]
    refine (check17_wp Q0 (tq.ext e69)).mono ?_
    rintro _ W10 ⟨e90, rfl⟩
    simp [hcB]; exact hR W10 (e69.trans e90)) ?_
  rintro W10 e610
  try simp only [wpK_assoc]
  first | refine wpK_onF (by simp []) ?_ | refine wpK_out (by simp []) ?_ | refine wpK_condF (by simp []) ?_ | refine wpK_endF (by simp []) (wpK_skip ?_) | refine wpK_endF (by simp []) ?_
  try simp only [wpK_assoc]
  refine wpK_dn (wr := Tr.nil |>.set 73 0 |>.set 74 1 |>.set 75 2 |>.set 76 3 |>.set 13 4 |>.set 14 5) (bits := Tr.nil.lay 0 [0, 1, 0, 4, 3, 31]) (ord := [0, 1, 2, 3, 4, 5]) (by kernel_rfl) (by kernel_rfl) (by kernel_rfl) (fun G hG => by
    simp [h5, Lo0, Lo1, e610, ix28_0, ix28_1]
    exact hG) ?_
  refine wpK_keep (fun tm' => tm'.get 7 = some (.pointer (some ⟨bx, 0, none⟩)) ∧ tm'.get 8 = some (.pointer (some ⟨by', 0, none⟩)) ∧ tm'.get 9 = some (.pointer (some ⟨b9, 0, none⟩)) ∧ tm'.get 10 = some (.pointer (some ⟨b10, 0, none⟩)) ∧ tm'.get 11 = some (.int .i64 (chk P0 (arcsQ lx))) ∧ tm'.get 12 = some (.int .i64 (chk Q0 (arcsQ ly))) ∧ tm'.get 13 = some (.int .i64 s) ∧ tm'.get 14 = some (.int .i64 t)) ⟨by simp [h5, h7, h8, h9, h10], by simp [h5, h7, h8, h9, h10], by simp [h5, h7, h8, h9, h10], by simp [h5, h7, h8, h9, h10], by simp [h5, h7, h8, h9, h10], by simp [h5, h7, h8, h9, h10], by simp [h5, h7, h8, h9, h10], by simp [h5, h7, h8, h9, h10]⟩ ?_
  rintro tm ⟨h7, h8, h9, h10, h11, h12, h13, h14⟩
  -- the places of the network
  try simp only [wpK_assoc]
  refine wpK_reg (fun R hR => by simp [h11]; exact hR) ?_
  try simp only [wpK_assoc]
  refine wpK_cut (J := fun A W' => W' = W10 ∧ A.n = 249 ∧ A.defers = [] ∧ A.tmps.get 7 = some (.pointer (some ⟨bx, 0, none⟩)) ∧ A.tmps.get 8 = some (.pointer (some ⟨by', 0, none⟩)) ∧ A.tmps.get 9 = some (.pointer (some ⟨b9, 0, none⟩)) ∧ A.tmps.get 10 = some (.pointer (some ⟨b10, 0, none⟩)) ∧ A.tmps.get 11 = some (.int .i64 (chkE P0 (arcsQ lx) s t)) ∧ A.tmps.get 12 = some (.int .i64 (chk Q0 (arcsQ ly))) ∧ A.tmps.get 13 = some (.int .i64 s) ∧ A.tmps.get 14 = some (.int .i64 t)) (fun Q' hQ => ?_) ?_
  · cases hok : planOk P0 (arcsQ lx) with
    | false =>
      refine wpK_endF (by simp [chk, hok]) (wpK_skip (hQ _ _ ⟨rfl, rfl, rfl, by simp [h7, h8, h9, h10, h11, h12, h13, h14, chk, chkE, hok], by simp [h7, h8, h9, h10, h11, h12, h13, h14, chk, chkE, hok], by simp [h7, h8, h9, h10, h11, h12, h13, h14, chk, chkE, hok], by simp [h7, h8, h9, h10, h11, h12, h13, h14, chk, chkE, hok], by simp [h7, h8, h9, h10, h11, h12, h13, h14, chk, chkE, hok], by simp [h7, h8, h9, h10, h11, h12, h13, h14, chk, chkE, hok], by simp [h7, h8, h9, h10, h11, h12, h13, h14, chk, chkE, hok], by simp [h7, h8, h9, h10, h11, h12, h13, h14, chk, chkE, hok]⟩))
    | true =>
      refine wpK_endT (by simp [chk, hok]) ?_
      try simp only [wpK_assoc]
      refine wpK_reg1 (fun R hR => by
          simp [h7, h13, h14, Lx0, e610, aEnter, fun18, short_other, aCallV]; rw [callS_none]
          refine (refEnds_wp P0 s t W10).mono ?_
          rintro _ W9 ⟨e9, rfl⟩; subst W9
          simp [h7, h13, h14, Lx0, e610]; exact hR) ?_
      exact hQ _ _ ⟨rfl, rfl, rfl, by simp [h7, h8, h9, h10, h11, h12, h13, h14, chk, chkE, hok], by simp [h7, h8, h9, h10, h11, h12, h13, h14, chk, chkE, hok], by simp [h7, h8, h9, h10, h11, h12, h13, h14, chk, chkE, hok], by simp [h7, h8, h9, h10, h11, h12, h13, h14, chk, chkE, hok], by simp [h7, h8, h9, h10, h11, h12, h13, h14, chk, chkE, hok], by simp [h7, h8, h9, h10, h11, h12, h13, h14, chk, chkE, hok], by simp [h7, h8, h9, h10, h11, h12, h13, h14, chk, chkE, hok], by simp [h7, h8, h9, h10, h11, h12, h13, h14, chk, chkE, hok]⟩
  rintro ⟨tm, n, ds⟩ W' ⟨rfl, hn, hd, h7, h8, h9, h10, h11, h12, h13, h14⟩
  simp only at hn hd h7 h8 h9 h10 h11 h12 h13 h14
  subst hn; subst hd
  try simp only [wpK_assoc]
  refine wpK_reg (fun R hR => by simp [h11]; exact hR) ?_
  try simp only [wpK_assoc]
  refine wpK_cut (J := fun A W1 => Ext W6 W1 ∧ A.n = 249 ∧ A.defers = [] ∧ A.tmps.get 7 = some (.pointer (some ⟨bx, 0, none⟩)) ∧ A.tmps.get 8 = some (.pointer (some ⟨by', 0, none⟩)) ∧ A.tmps.get 9 = some (.pointer (some ⟨b9, 0, none⟩)) ∧ A.tmps.get 10 = some (.pointer (some ⟨b10, 0, none⟩)) ∧ A.tmps.get 11 = some (.int .i64 (chkE P0 (arcsQ lx) s t)) ∧ A.tmps.get 12 = some (.int .i64 (chk Q0 (arcsQ ly))) ∧ A.tmps.get 13 = some (.int .i64 s) ∧ A.tmps.get 14 = some (.int .i64 t)) (fun Q' hQ => ?_) ?_
  · by_cases he : chkE P0 (arcsQ lx) s t = 0
    · refine wpK_endF (by simp [he]) (wpK_skip (hQ _ _ ⟨e610, rfl, rfl, by simp [h7, h8, h9, h10, h11, h12, h13, h14], by simp [h7, h8, h9, h10, h11, h12, h13, h14], by simp [h7, h8, h9, h10, h11, h12, h13, h14], by simp [h7, h8, h9, h10, h11, h12, h13, h14], by simp [h7, h8, h9, h10, h11, h12, h13, h14], by simp [h7, h8, h9, h10, h11, h12, h13, h14], by simp [h7, h8, h9, h10, h11, h12, h13, h14], by simp [h7, h8, h9, h10, h11, h12, h13, h14]⟩))
    refine wpK_endT (by simp [he]) ?_
    try simp only [wpK_assoc]
    refine wpK_x0 (fun R hR => by
        simp [h9, h13, h14, Lp, e610, aEnter, fun19, short_other, aCallV]; rw [callS_none]
        refine (most_err (tp.ext e610) s t he).mono ?_
        rintro _ W11 ⟨f1, rfl⟩
        simp [h9, h13, h14, Lp, e610]; exact hR W11 f1) ?_
    rintro W11 f1
    have e611 := e610.trans f1
    try simp only [wpK_assoc]
    refine wpK_x0 (fun R hR => by
        simp [h9, h13, h14, Lp, e611, aEnter, fun20, short_other, aCallV]; rw [callS_none]
        refine (cut_err (tp.ext e611) s t he).mono ?_
        rintro _ W12 ⟨f2, rfl⟩
        simp [h9, h13, h14, Lp, e611]; exact hR W12 f2) ?_
    rintro W12 f2
    have e612 := e611.trans f2
    try simp only [wpK_assoc]
    refine wpK_x0 (fun R hR => by
        simp [h9, h13, h14, Lp, e612, aEnter, fun21, short_other, aCallV]; rw [callS_none]
        refine (apart_err (tp.ext e612) s t he).mono ?_
        rintro _ W13 ⟨f3, rfl⟩
        simp [h9, h13, h14, Lp, e612]; exact hR W13 f3) ?_
    rintro W13 f3
    have e613 := e612.trans f3
    have fk := fun (ρ : Operand → Option Value) (l c : Operand) => flt_mk43 (ρ := ρ) (l := l) (c := c) k1 (by omega)
    obtain ⟨Wm, hWm, hEm⟩ : ∃ Wm, Wm = W13.newCells 2 (rep [.int .i64 0] k1) ∧ Ext W13 Wm := ⟨_, rfl, .newCells _ _ _⟩
    have e6m := e613.trans hEm
    have frm : freshB Wm W13.next 2 (rep [.int .i64 0] k1) = true := by rw [hWm]; exact freshB_new _ _ _ (rep_eq k1)
    try simp only [wpK_assoc]
    refine wpK_d0 (wr := Tr.nil |>.set 111 0 |>.set 112 1 |>.set 113 2 |>.set 114 3 |>.set 115 4 |>.set 116 5 |>.set 117 6 |>.set 118 7 |>.set 110 8 |>.set 119 9 |>.set 120 10 |>.set 24 11 |>.set 25 12) (bits := Tr.nil.lay 0 [0, 0, 0, 0, 8, 24, 56, 127, 255, 511, 511, 1023, 4095]) (ord := [0, 1, 2, 3, 4, 5, 6, 7, 8, 9, 10, 11, 12]) (by kernel_rfl) (by kernel_rfl) (by kernel_rfl) (fun G hG => by
      simp [h7, h9, h13, h14, Lp, Lx1, lenN, e613, fk, AFlt.val, ← hWm, e6m, aEnter, fun22, short_other, aCallV]
      rw [dcallS_none]
      refine (isFlow_err (tp.ext e6m) s t he).mono ?_
      rintro _ W14 ⟨f4, rfl⟩
      simp [h7, h9, h13, h14, Lp, Lx1, lenN, e613, fk, AFlt.val, e6m, f4.1, frm, vuN, tri_eq tp]
      exact hG W14 (e6m.trans f4)) ?_
    rintro W14 e614
    try simp only [wpK_assoc]
    refine wpK_x0 (fun R hR => by
        simp [h9, h11, h13, h14, Lp, e614, aEnter, fun23, short_other, aCallV]; rw [callS_none]
        refine (areApart_err (tp.ext e614) s t he).mono ?_
        rintro _ W15 ⟨f5, rfl⟩
        simp [h9, h11, h13, h14, Lp, e614]; exact hR W15 f5) ?_
    rintro W15 f5
    try simp only [wpK_assoc]
    first | refine wpK_onF (by simp []) ?_ | refine wpK_out (by simp []) ?_ | refine wpK_condF (by simp []) ?_ | refine wpK_endF (by simp []) (wpK_skip ?_) | refine wpK_endF (by simp []) ?_
    exact hQ _ _ ⟨e614.trans f5, rfl, rfl, by simp [h7, h8, h9, h10, h11, h12, h13, h14], by simp [h7, h8, h9, h10, h11, h12, h13, h14], by simp [h7, h8, h9, h10, h11, h12, h13, h14], by simp [h7, h8, h9, h10, h11, h12, h13, h14], by simp [h7, h8, h9, h10, h11, h12, h13, h14], by simp [h7, h8, h9, h10, h11, h12, h13, h14], by simp [h7, h8, h9, h10, h11, h12, h13, h14], by simp [h7, h8, h9, h10, h11, h12, h13, h14]⟩
  rintro ⟨tm, n, ds⟩ W16 ⟨e616, hn, hd, h7, h8, h9, h10, h11, h12, h13, h14⟩
  simp only at hn hd h7 h8 h9 h10 h11 h12 h13 h14
  subst hn; subst hd
  -- Capacity of no network
  try simp only [wpK_assoc]
  refine wpK_x0 (fun R hR => by
      simp [h7, Lx, e616, aEnter, fun14, short_other, aCallV]; rw [callS_none]
      refine (refCheck_wp P0 (tx.ext e616)).mono ?_
      rintro _ W17 ⟨f1, rfl⟩
      simp [h7, Lx, e616]; exact hR W17 f1) ?_
  rintro W17 f1
  have e617 := e616.trans f1
  try simp only [wpK_assoc]
  refine wpK_cut (J := fun A W1 => Ext W6 W1 ∧ A.n = 249 ∧ A.defers = [] ∧ A.tmps.get 7 = some (.pointer (some ⟨bx, 0, none⟩)) ∧ A.tmps.get 8 = some (.pointer (some ⟨by', 0, none⟩)) ∧ A.tmps.get 9 = some (.pointer (some ⟨b9, 0, none⟩)) ∧ A.tmps.get 10 = some (.pointer (some ⟨b10, 0, none⟩)) ∧ A.tmps.get 12 = some (.int .i64 (chk Q0 (arcsQ ly))) ∧ A.tmps.get 13 = some (.int .i64 s) ∧ A.tmps.get 14 = some (.int .i64 t)) (fun Q' hQ => ?_) ?_
  · cases hok : planOk P0 (arcsQ lx) with
    | true =>
      refine wpK_endF (by simp [chk, hok]) (wpK_skip (hQ _ _ ⟨e617, rfl, rfl, by simp [h7, h8, h9, h10, h12, h13, h14], by simp [h7, h8, h9, h10, h12, h13, h14], by simp [h7, h8, h9, h10, h12, h13, h14], by simp [h7, h8, h9, h10, h12, h13, h14], by simp [h7, h8, h9, h10, h12, h13, h14], by simp [h7, h8, h9, h10, h12, h13, h14], by simp [h7, h8, h9, h10, h12, h13, h14]⟩))
    | false =>
      have hcap : WpF T0 24 [.agg ⟨[.int .i64 P0, vp]⟩, .slice none 0 0] W17 (fun u W' => Ext W17 W' ∧ u = .tuple ⟨[.int .i64 0, .int .i64 30]⟩) := by
        refine (capacity_wp (P := P0) (S := []) (sl := .slice none 0 0) (tp.ext e617) ⟨none, 0, rfl, fun i x hx => by simp at hx⟩ (by simp)).mono ?_
        rintro u W' ⟨f, ⟨hb, _⟩ | ⟨hb, _⟩ | ⟨_, hu⟩⟩
        · rw [hok] at hb; cases hb
        · rw [hok] at hb; cases hb
        · exact ⟨f, hu⟩
      refine wpK_endT (by simp [chk, hok]) ?_
      try simp only [wpK_assoc]
      refine wpK_x0 (fun R hR => by
          simp [h9, Lp, e617, aEnter, fun24, short_other, aCallV]; rw [callS_none]
          refine (hcap).mono ?_
          rintro _ W18 ⟨f2, rfl⟩
          simp [h9, Lp, e617]; exact hR W18 f2) ?_
      rintro W18 f2
      have e618 := e617.trans f2
      have hck := refCheck_wp P0 (tx.ext e618)
      rw [chk, hok] at hck
      try simp only [wpK_assoc]
      refine wpK_x0 (fun R hR => by
          simp [h7, Lx, e618, aEnter, fun14, short_other, aCallV]; rw [callS_none]
          refine (hck).mono ?_
          rintro _ W19 ⟨f3, rfl⟩
          simp [h7, Lx, e618]; exact hR W19 f3) ?_
      rintro W19 f3
      try simp only [wpK_assoc]
      first | refine wpK_onF (by simp []) ?_ | refine wpK_out (by simp []) ?_ | refine wpK_condF (by simp []) ?_ | refine wpK_endF (by simp []) (wpK_skip ?_) | refine wpK_endF (by simp []) ?_
      exact hQ _ _ ⟨e618.trans f3, rfl, rfl, by simp [h7, h8, h9, h10, h12, h13, h14], by simp [h7, h8, h9, h10, h12, h13, h14], by simp [h7, h8, h9, h10, h12, h13, h14], by simp [h7, h8, h9, h10, h12, h13, h14], by simp [h7, h8, h9, h10, h12, h13, h14], by simp [h7, h8, h9, h10, h12, h13, h14], by simp [h7, h8, h9, h10, h12, h13, h14]⟩
  rintro ⟨tm, n, ds⟩ W19 ⟨e619, hn, hd, h7, h8, h9, h10, h12, h13, h14⟩
  simp only at hn hd h7 h8 h9 h10 h12 h13 h14
  subst hn; subst hd
  -- the places of the board
  try simp only [wpK_assoc]
  refine wpK_reg (fun R hR => by simp [h12]; exact hR) ?_
  have hpl := planOk_links Q0 ly
  try simp only [wpK_assoc]
  refine wpK_cut (J := fun A W' => W' = W19 ∧ A.n = 249 ∧ A.defers = [] ∧ A.tmps.get 8 = some (.pointer (some ⟨by', 0, none⟩)) ∧ A.tmps.get 10 = some (.pointer (some ⟨b10, 0, none⟩)) ∧ A.tmps.get 12 = some (.int .i64 (chkE Q0 (linksQ ly) s t)) ∧ A.tmps.get 13 = some (.int .i64 s) ∧ A.tmps.get 14 = some (.int .i64 t)) (fun Q' hQ => ?_) ?_
  · cases hok : planOk Q0 (arcsQ ly) with
    | false =>
      refine wpK_endF (by simp [chk, hok]) (wpK_skip (hQ _ _ ⟨rfl, rfl, rfl, by simp [h8, h10, h12, h13, h14, chk, chkE, hpl, hok], by simp [h8, h10, h12, h13, h14, chk, chkE, hpl, hok], by simp [h8, h10, h12, h13, h14, chk, chkE, hpl, hok], by simp [h8, h10, h12, h13, h14, chk, chkE, hpl, hok], by simp [h8, h10, h12, h13, h14, chk, chkE, hpl, hok]⟩))
    | true =>
      refine wpK_endT (by simp [chk, hok]) ?_
      try simp only [wpK_assoc]
      refine wpK_reg1 (fun R hR => by
          simp [h8, h13, h14, Ly0, e619, aEnter, fun18, short_other, aCallV]; rw [callS_none]
          refine (refEnds_wp Q0 s t W19).mono ?_
          rintro _ W9 ⟨e9, rfl⟩; subst W9
          simp [h8, h13, h14, Ly0, e619]; exact hR) ?_
      exact hQ _ _ ⟨rfl, rfl, rfl, by simp [h8, h10, h12, h13, h14, chk, chkE, hpl, hok], by simp [h8, h10, h12, h13, h14, chk, chkE, hpl, hok], by simp [h8, h10, h12, h13, h14, chk, chkE, hpl, hok], by simp [h8, h10, h12, h13, h14, chk, chkE, hpl, hok], by simp [h8, h10, h12, h13, h14, chk, chkE, hpl, hok]⟩
  rintro ⟨tm, n, ds⟩ W' ⟨rfl, hn, hd, h8, h10, h12, h13, h14⟩
  simp only at hn hd h8 h10 h12 h13 h14
  subst hn; subst hd
  -- Least
  try simp only [wpK_assoc]
  refine wpK_cut (J := fun A W1 => Ext W6 W1 ∧ A.n = 249 ∧ A.defers = [] ∧ A.tmps.get 8 = some (.pointer (some ⟨by', 0, none⟩)) ∧ A.tmps.get 10 = some (.pointer (some ⟨b10, 0, none⟩)) ∧ A.tmps.get 12 = some (.int .i64 (chkE Q0 (linksQ ly) s t)) ∧ A.tmps.get 13 = some (.int .i64 s) ∧ A.tmps.get 14 = some (.int .i64 t) ∧ ∃ x : Int, A.tmps.get 28 = some (.int .i64 x) ∧ A.tmps.get 29 = some (.int .i64 (chkE Q0 (linksQ ly) s t)) ∧ (chkE Q0 (linksQ ly) s t ≠ 0 → x = 0)) (fun Q' hQ => ?_) ?_
  · by_cases he : chkE Q0 (linksQ ly) s t = 0
    · have hok : planOk Q0 (linksQ ly) = true := by
        cases h : planOk Q0 (linksQ ly) with
        | true => rfl
        | false => simp [chkE, h] at he
      have h2 : two? s t Q0 = true := by
        cases h : two? s t Q0 with
        | true => rfl
        | false => simp [chkE, hok, endE, h] at he
      have h2' := h2
      simp only [two?, Bool.and_eq_true, decide_eq_true_eq] at h2'
      obtain ⟨sn, hsn⟩ : ∃ n : Nat, s = n := ⟨s.toNat, by omega⟩
      obtain ⟨tn, htn⟩ : ∃ n : Nat, t = n := ⟨t.toNat, by omega⟩
      have hPin : PlanIn Q0 (linksQ ly) := links_in (by rw [← hpl]; exact hok)
      have hlo := least_ok (P := Q0) (s := sn) (t := tn) (tq.ext e619) hPin (by rw [← hsn, ← htn]; exact h2) (tabs_ext htb6 h06 e619) (Nat.lt_of_lt_of_le h06 e619.1)
      rw [← hsn, ← htn] at hlo
      try simp only [wpK_assoc]
      refine wpK_y1 (fun R hR => by
          simp [h10, h13, h14, Lq, e619, aEnter, fun25, short_other, aCallV]; rw [callS_none]
          refine (hlo).mono ?_
          rintro _ W20 ⟨f1, x, rm, lv, rfl, hF⟩
          simp [h10, h13, h14, Lq, e619]; exact hR x W20 f1) ?_
      rintro x W20 f1
      exact hQ _ _ ⟨e619.trans f1, rfl, rfl, by simp [h8, h10, h12, h13, h14], by simp [h8, h10, h12, h13, h14], by simp [h8, h10, h12, h13, h14], by simp [h8, h10, h12, h13, h14], by simp [h8, h10, h12, h13, h14], x, by simp, by simp [he], fun h => absurd he h⟩
    · try simp only [wpK_assoc]
      refine wpK_y0 (fun R hR => by
          simp [h10, h13, h14, Lq, e619, aEnter, fun25, short_other, aCallV]; rw [callS_none]
          refine (least_err (tq.ext e619) s t he).mono ?_
          rintro _ W20 ⟨f1, rfl⟩
          simp [h10, h13, h14, Lq, e619]; exact hR W20 f1) ?_
      rintro W20 f1
      exact hQ _ _ ⟨e619.trans f1, rfl, rfl, by simp [h8, h10, h12, h13, h14], by simp [h8, h10, h12, h13, h14], by simp [h8, h10, h12, h13, h14], by simp [h8, h10, h12, h13, h14], by simp [h8, h10, h12, h13, h14], 0, by simp, by simp, fun _ => rfl⟩
  rintro ⟨tm, n, ds⟩ W20 ⟨e620, hn, hd, h8, h10, h12, h13, h14, x, h28, h29, hx⟩
  simp only at hn hd h8 h10 h12 h13 h14 h28 h29
  subst hn; subst hd
  try simp only [wpK_assoc]
  refine wpK_cut (J := fun A W1 => W1 = W20 ∧ A.n = 249 ∧ A.defers = [] ∧ A.tmps.get 8 = some (.pointer (some ⟨by', 0, none⟩)) ∧ A.tmps.get 10 = some (.pointer (some ⟨b10, 0, none⟩)) ∧ A.tmps.get 12 = some (.int .i64 (chkE Q0 (linksQ ly) s t)) ∧ A.tmps.get 13 = some (.int .i64 s) ∧ A.tmps.get 14 = some (.int .i64 t) ∧ A.tmps.get 203 = some (.bool false)) (fun Q' hQ => ?_) ?_
  · by_cases he : chkE Q0 (linksQ ly) s t = 0
    · try simp only [wpK_assoc]
      refine wpK_reg1 (fun R hR => by simp [h12, h29, h28, he, undef]; exact hR) ?_
      exact hQ _ _ ⟨rfl, rfl, rfl, by simp [h8, h10, h12, h13, h14], by simp [h8, h10, h12, h13, h14], by simp [h8, h10, h12, h13, h14], by simp [h8, h10, h12, h13, h14], by simp [h8, h10, h12, h13, h14], by simp⟩
    · have := hx he
      subst this
      try simp only [wpK_assoc]
      refine wpK_reg1 (fun R hR => by simp [h12, h29, h28, he]; exact hR) ?_
      exact hQ _ _ ⟨rfl, rfl, rfl, by simp [h8, h10, h12, h13, h14], by simp [h8, h10, h12, h13, h14], by simp [h8, h10, h12, h13, h14], by simp [h8, h10, h12, h13, h14], by simp [h8, h10, h12, h13, h14], by simp⟩
  rintro ⟨tm, n, ds⟩ W' ⟨rfl, hn, hd, h8, h10, h12, h13, h14, h203⟩
  simp only at hn hd h8 h10 h12 h13 h14 h203
  subst hn; subst hd
  try simp only [wpK_assoc]
  first | refine wpK_onF (by simp [h203]) ?_ | refine wpK_out (by simp [h203]) ?_ | refine wpK_condF (by simp [h203]) ?_ | refine wpK_endF (by simp [h203]) (wpK_skip ?_) | refine wpK_endF (by simp [h203]) ?_
  have haw : ∀ W', Ext W6 W' → tabsIn T0 T0.tabs W' = true := fun W' h => tabs_ext htb6 h06 h
  try simp only [wpK_assoc]
  refine wpK_x0 (fun R hR => by
      simp [h8, Ly, e620, aEnter, fun15, short_other, aCallV]; rw [callS_none]
      refine (refCheckB_wp Q0 (ty.ext e620)).mono ?_
      rintro _ W21 ⟨f1, rfl⟩
      simp [h8, Ly, e620]; exact hR W21 f1) ?_
  rintro W21 f1
  have e621 := e620.trans f1
  cases hok : planOk Q0 (arcsQ ly) with
  | true =>
    refine wpK_condT (by simp [chk, hok]) ?_
    try simp only [wpK_assoc]
    refine wpK_reg (fun R hR => by simp [aEnter, fun26, short_awake, aCallV, haw, e621]; exact hR) ?_
    exact wpK_ret ⟨.inr rfl, rfl, [.bool true], by simp, rfl⟩
  | false =>
    refine wpK_onF (by simp [chk, hok]) ?_
    rw [hok] at hpl
    try simp only [wpK_assoc]
    refine wpK_x0 (fun R hR => by
        simp [h10, Lq, e621, aEnter, fun27, short_other, aCallV]; rw [callS_none]
        refine (tree_err (tq.ext e621) hpl).mono ?_
        rintro _ W22 ⟨f2, rfl⟩
        simp [h10, Lq, e621]; exact hR W22 f2) ?_
    rintro W22 f2
    have e622 := e621.trans f2
    try simp only [wpK_assoc]
    refine wpK_x0 (fun R hR => by
        simp [h10, Lq, e622, aEnter, fun28, short_other, aCallV]; rw [callS_none]
        refine (weakest_err (tq.ext e622) hpl).mono ?_
        rintro _ W23 ⟨f3, rfl⟩
        simp [h10, Lq, e622]; exact hR W23 f3) ?_
    rintro W23 f3
    have e623 := e622.trans f3
    have e6b : Ext W6 (W23.newCells 66 [.int .i64 0, .int .i64 1, .int .i64 0]) := e623.trans (.newCells _ _ _)
    try simp only [wpK_assoc]
    refine wpK_x0 (fun R hR => by
      simp [h10, Lq, e623, und59, build66, bs59, aEnter, fun29, short_other, aCallV]; rw [callS_none]
      refine (isTree_err (tq.ext e6b) hpl).mono ?_
      rintro _ W24 ⟨f4, rfl⟩
      have e624 := e6b.trans f4
      simp [aEnter, fun26, short_awake, aCallV, haw, e624]
      exact hR W24 e624) ?_
    rintro W24 e624
    exact wpK_ret ⟨.inr rfl, rfl, [.bool true], by simp, rfl⟩

end Go.Proofs.YtkipaffjmcmclaaDoor

open Go Go.Eng
namespace Go.Proofs.YtkipaffjmcmclaaDoor
open Go.ChangeShapes Go.WideShapes Go.ChangeAt Go.RowKit

section
variable {H : Type} {enc : TypeId × Value → H} {P : Program} {w : World}

theorem add_block (a : Addr) (n : Nat) : (a.add n).block = a.block := by unfold Addr.add; split <;> rfl
theorem add_off (a : Addr) (n : Nat) : (a.add n).off = a.off + n := by unfold Addr.add; split <;> simp_all
theorem add_spot (a : Addr) (n : Nat) (h : a.spot = none) : a.add n = ⟨a.block, a.off + n, none⟩ := by
  unfold Addr.add; split
  · rename_i h0; subst h0; obtain ⟨b, o, s⟩ := a; simp at h; subst h; rfl
  · obtain ⟨b, o, s⟩ := a; simp at h; subst h; rfl

/-- a slice of structs of three numbers that is read -/
theorem tris_in {t e : TypeId} {f0 f1 f2 : Field} {fuel : Nat} {held : Bool} {v : Value} {x : DataW H × List MemPlace} (ht : P.underlying t = some (.slice e)) (he : P.underlying e = some (.struct #[f0, f1, f2])) (hc : P.cellsOf e = 3)
    (o0 : f0.offset = 0) (o1 : f1.offset = 1) (o2 : f2.offset = 2) (c0 : P.cellsOf f0.type = 1) (c1 : P.cellsOf f1.type = 1) (c2 : P.cellsOf f2.type = 1) (u0 : P.underlying f0.type = some (.int .i64)) (u1 : P.underlying f1.type = some (.int .i64)) (u2 : P.underlying f2.type = some (.int .i64))
    (h : DataW.trod enc P w 0 (fun _ => true) held fuel t [v] = some x) : ∃ u l, absV w v = some u ∧ TriIn (embW w) u l ∧ l.length < 9223372036854775808 := by
  rcases Deep.open_slice ht h with ⟨h1, _⟩ | ⟨a, len, cap, m, n, D, Pl, h1, _, h2, h3, hm, _, h4⟩
  · cases h1
    exact ⟨.slice none 0 0, [], rfl, ⟨none, 0, rfl, fun i a hi => by simp at hi⟩, by simp⟩
  · cases h1
    simp only [if_true] at hm
    subst hm
    have each : ∀ i, i < m → ∃ z : Tri, w.cell? (a.add (i * 3)) = some (.int .i64 z.1) ∧ w.cell? (a.add (i * 3 + 1)) = some (.int .i64 z.2.1) ∧ w.cell? (a.add (i * 3 + 2)) = some (.int .i64 z.2.2) := by
      intro i hi
      obtain ⟨cs', g1, g2⟩ := h4 i hi
      rw [hc] at g1
      obtain ⟨_, hlen, hcell⟩ := World.cells?_some g1
      obtain ⟨y0, y1, y2, k, _, _, q0, q1, q2⟩ := Deep.trod_struct3 he g2
      match cs', hlen with
      | [x0, x1, x2], _ =>
        simp [o0, o1, o2, c0, c1, c2] at q0 q1 q2
        obtain ⟨z0, e0, _⟩ := DataW.trod_int u0 q0
        obtain ⟨z1, e1, _⟩ := DataW.trod_int u1 q1
        obtain ⟨z2, e2, _⟩ := DataW.trod_int u2 q2
        cases e0; cases e1; cases e2
        have k0 := hcell 0 (by omega)
        have k1 := hcell 1 (by omega)
        have k2 := hcell 2 (by omega)
        rw [Go.Deep.add_add] at k0 k1 k2
        exact ⟨(z0, z1, z2), by simpa using k0, by simpa using k1, by simpa using k2⟩
    obtain ⟨Z, hZ⟩ := Deep.choose_lt each
    obtain ⟨a', c', g4, g5⟩ := absV_row (w := w) (a := a) (n := len) (c := m) (fun hc => ⟨_, by simpa [Addr.add] using (hZ 0 hc).1⟩) h2
    refine ⟨_, (List.range len).map Z, g4, ⟨a', c', by simp, fun i z hi => ?_⟩, by simp; unfold maxLen at h3; omega⟩
    have hi' : i < len := by
      have := (List.getElem?_eq_some_iff.1 hi).1
      simpa using this
    simp only [List.getElem?_map, List.getElem?_range hi', Option.map_some, Option.some.injEq] at hi
    subst hi
    obtain ⟨k0, k1, k2⟩ := hZ i (by omega)
    have e0 := emb_has k0 (u := .int .i64 (Z i).1) rfl
    have e1 := emb_has k1 (u := .int .i64 (Z i).2.1) rfl
    have e2 := emb_has k2 (u := .int .i64 (Z i).2.2) rfl
    rw [add_block, add_off] at e0 e1 e2
    refine ⟨a.block, a.off, g5 (by omega), ?_, ?_, ?_⟩
    · rw [Nat.mul_comm]; exact e0
    · rw [Nat.mul_comm, Nat.add_assoc]; exact e1
    · rw [Nat.mul_comm, Nat.add_assoc]; exact e2
end

theorem own : ownKnob Tryd.prog.godebug = none := by kernel_rfl
theorem laidOut : laidOutB Tryd.prog = true := by kernel_rfl
theorem T0_globs : ∀ g u, T0.globs.get g = some u → g = 0 := fun g u h => by
  have h : (Tr.set Tr.nil 0 ()).get g = some u := h
  rw [Tr.get_set] at h
  split at h
  · assumption
  · rw [Tr.get_nil] at h; cases h

def tabL : List Int := [0, 1, 28, 2, 29, 14, 24, 3, 30, 22, 20, 15, 25, 17, 4, 8, 31, 27, 13, 23, 21, 19, 16, 7, 26, 12, 18, 6, 11, 5, 10, 9]
/-- the variable of the library lies in the world -/
theorem tab_of_laid {W : World} (h : laidMet Tryd.prog [("math/bits.deBruijn32tab", Rows.laid_math_bits_deBruijn32tab)] W) : ∀ i (h : i < tabL.length), W.cell? ⟨0, i, none⟩ = some (.int .u8 tabL[i]) := by
  have hg : Tryd.prog.globalNamed "math/bits.deBruijn32tab" = some 0 := by kernel_rfl
  have ht := Lib.tabIs_of_head (P := Tryd.prog) (W := W) (k := .u8) (zs := tabL) (rest := []) (t := 161) (e := 5) (n := 32) hg (by kernel_rfl) Tryd.underlying161 Tryd.underlying5 (by kernel_rfl) (by kernel_rfl) h
  intro i hi
  have := ht.cell hg i hi
  rw [this, List.getD_eq_getElem?_getD, List.getElem?_eq_getElem hi]; rfl
theorem tab_cells {W : World} (h : ∀ i (h : i < tabL.length), W.cell? ⟨0, i, none⟩ = some (.int .u8 tabL[i])) : isCells W 0 = true ∧ 0 < (embW W).next ∧ tabsIn T0 T0.tabs (embW W) = true := by
  have h0 := h 0 (by decide)
  have hc := isCells_cell h0
  refine ⟨hc, isCells_lt hc, ?_⟩
  have key : tabIn ⟨0, tabL.map (Value.int .u8)⟩ (embW W) = true := by
    unfold isCells at hc
    split at hc
    case h_2 => cases hc
    rename_i c el fz ho
    unfold tabIn
    simp only [embW_get, ho, Option.map_some, embO]
    have hcell : ∀ i (hi : i < tabL.length), c[i]? = some (.int .u8 tabL[i]) := fun i hi => by
      have := h i hi
      simpa [World.cell?, ho] using this
    have hsz : tabL.length ≤ c.size := by
      have := (Array.getElem?_eq_some_iff.1 (hcell 31 (by decide))).1
      show 32 ≤ c.size; omega
    have htake : (Tr.nil.layO 0 (c.toList.map (absV W))).take 0 (tabL.map (Value.int .u8)).length = some (tabL.map (Value.int .u8)) := by
      refine take_get _ _ 0 _ rfl (fun j hj => ?_)
      have hj' : j < tabL.length := by simpa using hj
      rw [Nat.zero_add, Tr.get_layO _ _ _ _ (.inl (Tr.get_nil _)), if_pos (by simp; omega)]
      simp only [Nat.sub_zero, List.getElem?_map, Array.getElem?_toList, hcell j hj', Option.map_some, Option.getD_some, List.getElem?_eq_getElem hj']
      rfl
    rw [htake]
    simp only [ble_dec, List.length_map, hsz, decide_true]
    have hf : allB flat (tabL.map (Value.int .u8)) = true := by decide
    rw [hf]
    simp only
    have : ∀ l : List Int, listEq (l.map (Value.int .u8)) (l.map (Value.int .u8)) = true := fun l => by
      induction l with
      | nil => rfl
      | cons a l ih => simp only [List.map_cons]; exact listEq_cons (valEq_int _ _) ih
    exact this tabL
  show tabsIn T0 [⟨0, tabL.map (Value.int .u8)⟩] (embW W) = true
  simp only [tabsIn, key]
  rfl
/-- a world in which the variable lies -/
noncomputable def laidWorld (os : Os) : World :=
  let w0 := World.holding Tryd.prog os ⟨#[], #[], []⟩
  { w0 with heap := w0.heap.modify 0 fun
      | .cells _ t frozen => .cells (tabL.map (Value.int .u8)).toArray t frozen
      | o => o }
theorem laid_met (os : Os) (args : Array Value) : laidMet Tryd.prog [("math/bits.deBruijn32tab", Rows.laid_math_bits_deBruijn32tab)] ((laidWorld os).forCall (fun _ _ => 0) ⟨#[], args, []⟩).memory :=
  laidMet_of_run' 8 (by kernel_rfl) (by kernel_rfl)
theorem globs_cells {W : World} (h : isCells W 0 = true) : ∀ g u, T0.globs.get g = some u → isCells W g = true := fun g u hu => by
  rw [T0_globs g u hu]; exact h
end Go.Proofs.YtkipaffjmcmclaaDoor

open Go Go.Eng
namespace Go.Proofs.YtkipaffjmcmclaaDoor
open Go.ChangeShapes Go.WideShapes Go.ChangeAt Go.RowKit
/-! ### arguments that are sliced, arrays of two -/
theorem absV_row2 {w : World} {a : Addr} {n c : Nat} (h : 0 < c → ∃ v, w.cell? a = some v) (hn : n ≤ c) :
    ∃ a' c', absV w (.slice (some a) n c) = some (.slice a' n c') ∧ (0 < c → a' = some ⟨a.block, a.off, none⟩) ∧ SlOk (.slice a' n c') n := by
  by_cases hc : 0 < c
  · obtain ⟨v, hv⟩ := h hc
    have hs := cell_spot hv
    have hb := isCells_cell hv
    obtain ⟨b, o, s⟩ := a
    simp only at hs hb; subst hs
    exact ⟨some ⟨b, o, none⟩, 2 * c, by simp [absV, hb], fun _ => rfl, .inr (.inl ⟨b, o, c, rfl, hn⟩)⟩
  · obtain rfl : c = 0 := by omega
    obtain rfl : n = 0 := by omega
    obtain ⟨b, o, s⟩ := a
    cases s with
    | none =>
      by_cases hb : isCells w b = true
      · exact ⟨some ⟨b, o, none⟩, 0, by simp [absV, hb], fun x => absurd x hc, .inr (.inl ⟨b, o, 0, rfl, by omega⟩)⟩
      · exact ⟨some ⟨0, 0, some 1⟩, 0, by simp [absV, hb], fun x => absurd x hc, .inr (.inr ⟨rfl, rfl⟩)⟩
    | some s => exact ⟨some ⟨0, 0, some 1⟩, 0, rfl, fun x => absurd x hc, .inr (.inr ⟨rfl, rfl⟩)⟩
section
variable {H : Type} {enc : TypeId × Value → H} {P : Program} {w : World}
theorem tris_in2 {t e : TypeId} {f0 f1 f2 : Field} {fuel : Nat} {held : Bool} {v : Value} {x : DataW H × List MemPlace} (ht : P.underlying t = some (.slice e)) (he : P.underlying e = some (.struct #[f0, f1, f2])) (hc : P.cellsOf e = 3)
    (o0 : f0.offset = 0) (o1 : f1.offset = 1) (o2 : f2.offset = 2) (c0 : P.cellsOf f0.type = 1) (c1 : P.cellsOf f1.type = 1) (c2 : P.cellsOf f2.type = 1) (u0 : P.underlying f0.type = some (.int .i64)) (u1 : P.underlying f1.type = some (.int .i64)) (u2 : P.underlying f2.type = some (.int .i64))
    (h : DataW.trod enc P w 0 (fun _ => true) held fuel t [v] = some x) : ∃ u l, absV w v = some u ∧ TriIn (embW w) u l ∧ l.length < 9223372036854775808 ∧ SlOk u l.length := by
  rcases Deep.open_slice ht h with ⟨h1, _⟩ | ⟨a, len, cap, m, n, D, Pl, h1, _, h2, h3, hm, _, h4⟩
  · cases h1
    exact ⟨.slice none 0 0, [], rfl, ⟨none, 0, rfl, fun i a hi => by simp at hi⟩, by simp, .inl ⟨rfl, rfl⟩⟩
  · cases h1
    simp only [if_true] at hm
    subst hm
    have each : ∀ i, i < m → ∃ z : Tri, w.cell? (a.add (i * 3)) = some (.int .i64 z.1) ∧ w.cell? (a.add (i * 3 + 1)) = some (.int .i64 z.2.1) ∧ w.cell? (a.add (i * 3 + 2)) = some (.int .i64 z.2.2) := by
      intro i hi
      obtain ⟨cs', g1, g2⟩ := h4 i hi
      rw [hc] at g1
      obtain ⟨_, hlen, hcell⟩ := World.cells?_some g1
      obtain ⟨y0, y1, y2, k, _, _, q0, q1, q2⟩ := Deep.trod_struct3 he g2
      match cs', hlen with
      | [x0, x1, x2], _ =>
        simp [o0, o1, o2, c0, c1, c2] at q0 q1 q2
        obtain ⟨z0, e0, _⟩ := DataW.trod_int u0 q0
        obtain ⟨z1, e1, _⟩ := DataW.trod_int u1 q1
        obtain ⟨z2, e2, _⟩ := DataW.trod_int u2 q2
        cases e0; cases e1; cases e2
        have k0 := hcell 0 (by omega)
        have k1 := hcell 1 (by omega)
        have k2 := hcell 2 (by omega)
        rw [Go.Deep.add_add] at k0 k1 k2
        exact ⟨(z0, z1, z2), by simpa using k0, by simpa using k1, by simpa using k2⟩
    obtain ⟨Z, hZ⟩ := Deep.choose_lt each
    obtain ⟨a', c', g4, g5, g6⟩ := absV_row2 (w := w) (a := a) (n := len) (c := m) (fun hc => ⟨_, by simpa [Addr.add] using (hZ 0 hc).1⟩) h2
    refine ⟨_, (List.range len).map Z, g4, ⟨a', c', by simp, fun i z hi => ?_⟩, by simp; unfold maxLen at h3; omega, by simpa using g6⟩
    have hi' : i < len := by
      have := (List.getElem?_eq_some_iff.1 hi).1
      simpa using this
    simp only [List.getElem?_map, List.getElem?_range hi', Option.map_some, Option.some.injEq] at hi
    subst hi
    obtain ⟨k0, k1, k2⟩ := hZ i (by omega)
    have e0 := emb_has k0 (u := .int .i64 (Z i).1) rfl
    have e1 := emb_has k1 (u := .int .i64 (Z i).2.1) rfl
    have e2 := emb_has k2 (u := .int .i64 (Z i).2.2) rfl
    rw [add_block, add_off] at e0 e1 e2
    refine ⟨a.block, a.off, g5 (by omega), ?_, ?_, ?_⟩
    · rw [Nat.mul_comm]; exact e0
    · rw [Nat.mul_comm, Nat.add_assoc]; exact e1
    · rw [Nat.mul_comm, Nat.add_assoc]; exact e2
/-- a slice of numbers -/
theorem ints_in2 {t e : TypeId} {fuel : Nat} {held : Bool} {v : Value} {x : DataW H × List MemPlace} (ht : P.underlying t = some (.slice e)) (he : P.underlying e = some (.int .i64)) (hc : P.cellsOf e = 1)
    (h : DataW.trod enc P w 0 (fun _ => true) held fuel t [v] = some x) : ∃ u l, absV w v = some u ∧ IntL (embW w) u l ∧ l.length < 9223372036854775808 ∧ SlOk u l.length := by
  rcases Deep.open_slice ht h with ⟨h1, _⟩ | ⟨a, len, cap, m, n, D, Pl, h1, _, h2, h3, hm, _, h4⟩
  · cases h1
    exact ⟨.slice none 0 0, [], rfl, ⟨none, 0, rfl, fun i a hi => by simp at hi⟩, by simp, .inl ⟨rfl, rfl⟩⟩
  · cases h1
    simp only [if_true] at hm
    subst hm
    have each : ∀ i, i < m → ∃ z : Int, w.cell? (a.add i) = some (.int .i64 z) := by
      intro i hi
      obtain ⟨cs', g1, g2⟩ := h4 i hi
      rw [hc, Nat.mul_one] at g1
      obtain ⟨_, hlen, hcell⟩ := World.cells?_some g1
      match cs', hlen with
      | [x0], _ =>
        obtain ⟨z0, e0, _⟩ := DataW.trod_int he g2
        cases e0
        have k0 := hcell 0 (by omega)
        rw [Go.Deep.add_add] at k0
        exact ⟨z0, by simpa using k0⟩
    obtain ⟨Z, hZ⟩ := Deep.choose_lt each
    obtain ⟨a', c', g4, g5, g6⟩ := absV_row2 (w := w) (a := a) (n := len) (c := m) (fun hc => ⟨_, by simpa [Addr.add] using (hZ 0 hc)⟩) h2
    refine ⟨_, (List.range len).map Z, g4, ⟨a', c', by simp, fun i z hi => ?_⟩, by simp; unfold maxLen at h3; omega, by simpa using g6⟩
    have hi' : i < len := by
      have := (List.getElem?_eq_some_iff.1 hi).1
      simpa using this
    simp only [List.getElem?_map, List.getElem?_range hi', Option.map_some, Option.some.injEq] at hi
    subst hi
    have e0 := emb_has (hZ i (by omega)) (u := .int .i64 (Z i)) rfl
    rw [add_block, add_off] at e0
    exact ⟨a.block, a.off, g5 (by omega), e0⟩
/-- an array of two numbers -/
theorem arr2_in {t e : TypeId} {base : Nat} {spare : Nat → Bool} {held : Bool} {r : Reach} {b0 : Nat} {v : Value} {d : DataW H} {p : List MemPlace} (ht : P.underlying t = some (.array 2 e)) (he : P.underlying e = some (.int .i64)) (hc : P.cellsOf e = 1) (hct : P.cellsOf t = 2)
    (hv : Value.okWide P w r b0 t v) (h : DataW.Trod enc P w base spare held t v d p) : ∃ a b : Int, v = .agg #[.int .i64 a, .int .i64 b] := by
  simp only [Value.okWide, ht] at hv
  obtain ⟨cs, rfl, hsz, _⟩ := hv
  obtain ⟨c0, c1, rfl⟩ := Joins.array2 (hsz.trans hct)
  obtain ⟨fuel, hf⟩ := h
  obtain ⟨xs, m, _, _, _, hl, hel⟩ := DataW.trod_array ht hf
  have h0 := hel 0 (by omega)
  have h1 := hel 1 (by omega)
  rw [List.getElem?_eq_getElem (by omega)] at h0 h1
  simp [hc, Value.cells] at h0 h1
  obtain ⟨z0, e0, _⟩ := DataW.trod_int he h0
  obtain ⟨z1, e1, _⟩ := DataW.trod_int he h1
  cases e0; cases e1
  exact ⟨z0, z1, rfl⟩
end
end Go.Proofs.YtkipaffjmcmclaaDoor

open Go Go.Eng
namespace Go.Proofs.YtkipaffjmcmclaaDoor
attribute [local congr] undef_congr WpK.congr WpS.congr WpL.congr WpC.congr WpF.congr gotS.congr callS.congr nextS.congr wantS.congr condS.congr
attribute [local irreducible] WpK
attribute [local simp] WpDr_nil WpDr_cons atS_some dwantS_true dwantS_false kindS_light kindS_float kindS_heavy lightS_value floatS_some heavyS_value heavyS_skip heavyS_enter dcallS_some doneS_eq
  isLight isFloat isPlain dLook testBit_dec dChain dLights_nil dLights_skip dLights_one dLight_nil dLight_cons dFreshes_nil dFreshes_one oneF_none oneF_some dFresh_nil dFresh_cons oneL_some oneW_true oneW_false sameV_value dPut dMay valEq arrEq listEq List.getElem?_cons Tr.get_nil dEnd
attribute [local simp] WpS_nil WpS_cons isDefer undef_false wantS_true wantS_false nextS_value nextS_skip nextS_enter callS_some gotS_some aWanted aOp aEvalF aEval opMove opAssign opPick aVal flat flat1 AAct.put opBinOp opConvert opIndex Tr.get_set Tr.get_lay aBin aResults tupled
  aCall aVals aCallB blt_dec ble_dec beq_dec aBinI_add aBinI_sub aBinI_lss aBinI_leq aBinI_gtr aBinI_geq aBinI_eql aBinI_neq index_str len_str len_slice Nat.beq_refl und2 und3 und4 und5 und39 und76 und82 und116 und22 und29 und25 und33 und46 und43 und49 und111 und113 field152 field156_0 field156_1 field156_2 field156_3 field156_4
  field78 field106 field24 field31 field27 field35 field108 field109 opBox opLoad opFieldAddr opIndexAddr acells aAddr opExtract aExtract opUnOp opAlloc opStore opMakeInterface opNilCheck opBuild aParts opBuildSlice aValW
set_option maxHeartbeats 4000000
set_option linter.unusedSimpArgs false
set_option linter.unusedVariables false
/-! ### flows -/
theorem und127 : T0.und.get 127 = some (.array 24 2) := by kernel_rfl
theorem inf127 : T0.info.get 127 = some Tryd.t127 := by kernel_rfl
theorem is127 : Tryd.t127.size = 24 := by kernel_rfl
theorem agg127 : isAggD (.array 24 2) = true := rfl
theorem sz2' : aSize T0 2 = some 1 := sz2
/-- no flow anywhere -/
def zeros24 : List Int := List.replicate 24 0
theorem zeros24_len : zeros24.length = 24 := rfl
theorem zero127 : aZero T0 127 = some (.agg ⟨intsV (zeros24)⟩) := by kernel_rfl
theorem build127 : aBuild T0 127 [] = some (.agg ⟨intsV (zeros24)⟩) := by kernel_rfl
theorem ix127 (p o q : Nat) (hq : q < 24) : aIndexAddr T0 127 (.pointer (some ⟨p, o, none⟩)) (.int .i64 (q : Nat)) = some (.pointer (some ⟨p, o + q, none⟩)) := by
  show aIndexAddr T0 127 (.pointer (some ⟨p, o, none⟩)) (.int .i64 (Int.ofNat q)) = _
  simp only [aIndexAddr, und127, sz2, blt_dec, hq, decide_true, Nat.mul_one]
theorem key1_int (k : IntKind) (a b : Int) : key1Eq (.int k a) (.int k b) = decide (a = b) := by
  cases a with
  | ofNat x =>
    cases b with
    | ofNat y =>
      show Nat.beq x y = decide (Int.ofNat x = Int.ofNat y)
      by_cases h : x = y
      · subst h; rw [Nat.beq_refl]; simp
      · have hb : Nat.beq x y = false := by
          cases hb : Nat.beq x y with
          | false => rfl
          | true => exact absurd (Nat.eq_of_beq_eq_true hb) h
        rw [hb, eq_comm, decide_eq_false_iff_not]
        exact fun e => h (Int.ofNat.inj e)
    | negSucc y => rfl
  | negSucc x => cases b <;> rfl
theorem keys_ints : ∀ (l m : List Int), keysEq (intsV l) (intsV m) = decide (l = m)
  | [], [] => rfl
  | [], _ :: _ => rfl
  | _ :: _, [] => rfl
  | a :: l, b :: m => by
    show (match key1Eq (.int .i64 a) (.int .i64 b) with | true => keysEq (intsV l) (intsV m) | false => false) = _
    rw [key1_int, keys_ints l m]
    by_cases h : a = b
    · subst h; simp
    · simp [h]
theorem intsV_len (l : List Int) : (intsV l).length = l.length := by simp [intsV]
theorem intsV_get {l : List Int} {i : Nat} {x : Int} (h : l[i]? = some x) : (intsV l)[i]? = some (.int .i64 x) := by simp [intsV, h]
theorem key127 {l : List Int} (h : l.length = 24) : keyOk T0 127 (.agg ⟨intsV l⟩) = true := by
  have ha : allB (isKey1 (.int .i64)) (intsV l) = true := by
    have : ∀ l : List Int, allB (isKey1 (.int .i64)) (intsV l) = true := fun l => by
      induction l with
      | nil => rfl
      | cons a l ih =>
        show (match isKey1 (.int .i64) (.int .i64 a) with | true => allB (isKey1 (.int .i64)) (intsV l) | false => false) = true
        rw [show isKey1 (.int .i64) (.int .i64 a) = true from rfl]; exact ih
    exact this l
  have hn : Nat.beq (intsV l).length 24 = true := by rw [intsV_len, h]; exact Nat.beq_refl 24
  simp only [keyOk, und127, und2, inf2, is2, Nat.beq_refl, hn, ha]
theorem neq127 {l m : List Int} (hl : l.length = 24) (hm : m.length = 24) : aAgg T0 .neq 127 (.agg ⟨intsV l⟩) (.agg ⟨intsV m⟩) = some (.bool (!decide (l = m))) := by
  simp only [aAgg, und127, und2, key127 hl, key127 hm]
  show some (Value.bool (!keysEq (intsV l) (intsV m))) = _
  rw [keys_ints]

/-- what an arc carries out of a place, less what it carries in -/
def net1 (p : Nat) (q : Tri × Int) : Int := (if q.1.1 = p then q.2 else 0) - (if q.1.2.1 = p then q.2 else 0)
def netZ (z : List (Tri × Int)) (p : Nat) : Int := (z.map (net1 p)).sum
theorem netZ_snoc (z : List (Tri × Int)) (q : Tri × Int) (p : Nat) : netZ (z ++ [q]) p = netZ z p + net1 p q := by simp [netZ]
theorem netZ_le : ∀ (z : List (Tri × Int)) (p : Nat), (∀ q ∈ z, 0 ≤ q.2 ∧ q.2 ≤ 1000000000) → - (z.length * 1000000000 : Int) ≤ netZ z p ∧ netZ z p ≤ z.length * 1000000000
  | [], p, _ => by simp [netZ]
  | q :: z, p, h => by
    have h1 := netZ_le z p (fun x hx => h x (List.mem_cons_of_mem _ hx))
    have h2 := h q (List.mem_cons_self ..)
    have e : netZ (q :: z) p = net1 p q + netZ z p := by simp [netZ]
    have : -1000000000 ≤ net1 p q ∧ net1 p q ≤ 1000000000 := by unfold net1; split <;> split <;> omega
    rw [e, List.length_cons]
    omega
/-- are the numbers within the capacities? -/
def capsOk (z : List (Tri × Int)) : Prop := ∀ q ∈ z, 0 ≤ q.2 ∧ q.2 ≤ q.1.2.2
def isFl (P s t : Nat) (l : List Tri) (fl : List Int) : Prop := fl.length = l.length ∧ capsOk (l.zip fl) ∧ ∀ p : Nat, p < P → p ≠ s → p ≠ t → netZ (l.zip fl) p = 0
def netL (z : List (Tri × Int)) : List Int := (List.range 24).map (netZ z)
theorem netL_get (z : List (Tri × Int)) {p : Nat} (hp : p < 24) : (netL z)[p]? = some (netZ z p) := by simp [netL, List.getElem?_range hp]
theorem netL_len (z : List (Tri × Int)) : (netL z).length = 24 := by simp [netL]
theorem zip_snoc {l : List Tri} {fl : List Int} {i : Nat} {a : Tri} {x : Int} (ha : l[i]? = some a) (hx : fl[i]? = some x) : (l.zip fl).take (i + 1) = (l.zip fl).take i ++ [(a, x)] := by
  have : (l.zip fl)[i]? = some (a, x) := by rw [List.getElem?_zip_eq_some]; exact ⟨ha, hx⟩
  rw [List.take_add_one, this]; rfl
/-- one arc more: two places of the list change -/
theorem netL_snoc (z : List (Tri × Int)) (q : Tri × Int) {f g : Nat} (hf : q.1.1 = f) (hg : q.1.2.1 = g) (hfg : f ≠ g) (hf24 : f < 24) (hg24 : g < 24) :
    netL (z ++ [q]) = ((netL z).set f (netZ z f + q.2)).set g (netZ z g - q.2) := by
  apply List.ext_getElem?
  intro p
  by_cases hp : p < 24
  · rw [netL_get _ hp, netZ_snoc]
    by_cases e1 : p = g
    · subst e1
      rw [List.getElem?_set_self (by rw [List.length_set, netL_len]; exact hp)]
      congr 1
      unfold net1
      rw [if_neg (by omega), if_pos hg]; omega
    · rw [List.getElem?_set_ne (fun x => e1 x.symm)]
      by_cases e2 : p = f
      · subst e2
        rw [List.getElem?_set_self (by rw [netL_len]; exact hp)]
        congr 1
        unfold net1
        rw [if_pos hf, if_neg (by omega)]; omega
      · rw [List.getElem?_set_ne (fun x => e2 x.symm), netL_get _ hp]
        congr 1
        unfold net1
        rw [if_neg (by omega), if_neg (by omega)]; omega
  · rw [List.getElem?_eq_none (by rw [netL_len]; omega), List.getElem?_eq_none (by simp [netL_len]; omega)]
theorem set_ints (l : List Int) (i : Nat) (x : Int) (hi : i < l.length) : (intsV l).take i ++ [.int .i64 x] ++ (intsV l).drop (i + 1) = intsV (l.set i x) := by
  simp only [intsV, List.map_set]
  rw [List.set_eq_take_append_cons_drop, if_pos (by simpa using hi)]
  simp
theorem Only_refl {K : Nat → Prop} (W : AW) : Only K W W := ⟨Nat.le_refl _, fun _ _ _ => rfl⟩
theorem netZ_out : ∀ (z : List (Tri × Int)) (P p : Nat), (∀ q ∈ z, q.1.1 < P ∧ q.1.2.1 < P) → P ≤ p → netZ z p = 0
  | [], _, _, _, _ => rfl
  | q :: z, P, p, h, hp => by
    have h1 := netZ_out z P p (fun x hx => h x (List.mem_cons_of_mem _ hx)) hp
    have h2 := h q (List.mem_cons_self ..)
    have e : netZ (q :: z) p = net1 p q + netZ z p := by simp [netZ]
    rw [e, h1]; unfold net1; rw [if_neg (by omega), if_neg (by omega)]; rfl
theorem zero_iff {z : List (Tri × Int)} {P s t : Nat} (hz : ∀ q ∈ z, q.1.1 < P ∧ q.1.2.1 < P) (hP : P ≤ 24) (hs : s < P) (ht : t < P) : (((netL z).set s 0).set t 0 = zeros24) ↔ ∀ p : Nat, p < P → p ≠ s → p ≠ t → netZ z p = 0 := by
  constructor
  · intro h p hp hps hpt
    have e := congrArg (fun l : List Int => l[p]?) h
    rw [zeros24, List.getElem?_set_ne (fun x => hpt x.symm), List.getElem?_set_ne (fun x => hps x.symm), netL_get _ (by omega), List.getElem?_replicate, if_pos (by omega)] at e
    simpa using e
  · intro h
    apply List.ext_getElem?
    intro p
    rw [zeros24, List.getElem?_replicate]
    by_cases hp : p < 24
    · rw [if_pos hp]
      by_cases e1 : p = t
      · subst e1; rw [List.getElem?_set_self (by rw [List.length_set, netL_len]; exact hp)]
      · rw [List.getElem?_set_ne (fun x => e1 x.symm)]
        by_cases e2 : p = s
        · subst e2; rw [List.getElem?_set_self (by rw [netL_len]; exact hp)]
        · rw [List.getElem?_set_ne (fun x => e2 x.symm), netL_get _ hp]
          by_cases hpP : p < P
          · rw [h p hpP e2 e1]
          · rw [netZ_out z P p hz (by omega)]
    · rw [if_neg hp, List.getElem?_eq_none (by simp [netL_len]; omega)]

theorem isFlow_wp {W : AW} {v fv : Value} {P s t : Nat} {l : List Tri} {fl : List Int} (h : TriIn W v l) (hF : IntL W fv fl) (hok : planOk P (arcsQ l) = true) (hst : two? s t P = true) :
    WpF T0 22 [.agg ⟨[.int .i64 P, v]⟩, .int .i64 s, .int .i64 t, fv] W (fun u W' => Ext W W' ∧ ((isFl P s t l fl ∧ u = .tuple ⟨[.int .i64 (netZ (l.zip fl) s), .bool true]⟩) ∨ (¬ isFl P s t l fl ∧ u = .tuple ⟨[.int .i64 0, .bool false]⟩))) := by
  obtain ⟨Av, cv, rfl, hA⟩ := h
  obtain ⟨Af, cf, rfl, hB⟩ := hF
  have hpl := netPlan (netIn (P := (P : Int)) (W := W) (v := .slice Av l.length cv) ⟨Av, cv, rfl, hA⟩)
  obtain ⟨hP2, hP24, h200⟩ := (arcsQ_in hok).size
  have hql : (arcsQ l).length = l.length := by simp [arcsQ]
  rw [hql] at h200
  have hst' := hst
  simp only [two?, Bool.and_eq_true, decide_eq_true_eq] at hst'
  have hee : chkE P (arcsQ l) s t = 0 := by simp only [chkE, hok, endE, hst, if_true]
  have hc := checkEnds_wp hpl s t
  rw [hee] at hc
  refine wpF fun22 rfl ?_
  obtain ⟨W0, hW0, hE0, hn0, hV0⟩ : ∃ W0, W0 = W.newCells 31 [.int .i64 P, .slice Av l.length cv] ∧ Ext W W0 ∧ W0.next = W.next + 1 ∧ Var W0 W.next 31 [.int .i64 P, .slice Av l.length cv] := ⟨_, rfl, .newCells _ _ _, rfl, Var.new _ _ _⟩
  rw [← hW0] at hc
  have l1 : ∀ W', Ext W0 W' → aLoadVar T0 W' 29 W.next 1 = some (.slice Av l.length cv) := fun W' h => (hV0.ext h).load1 (T := T0) und29 rfl (j := 1) (v := .slice Av l.length cv) rfl
  try simp only [wpK_assoc]
  refine wpK_reg (fun R hR => by simp [← hW0]; exact hR) ?_
  by_cases hlen : fl.length = l.length
  case neg =>
    have hlen' : ¬ (fl.length : Int) = (l.length : Int) := by omega
    try simp only [wpK_assoc]
    refine wpK_x0 (fun R hR => by
        simp [aEnter, fun52, short_other, aCallV]; rw [callS_none]
        refine (hc).mono ?_
        rintro _ W1 ⟨hE1, rfl⟩
        simp [len_slice und43, len_slice und29, l1, hE1, hlen']; exact hR W1 hE1) ?_
    rintro W1 hE1
    try simp only [wpK_assoc]
    first | refine wpK_onT (by simp []) ?_ | refine wpK_outT (by simp []) ?_ | refine wpK_condT (by simp []) ?_ | refine wpK_endT (by simp []) ?_
    try simp only [wpK_assoc]
    refine wpK_reg (fun R hR => by simp []; exact hR) ?_
    exact wpK_ret ⟨.inr rfl, rfl, [.int .i64 0, .bool false], by simp, hE0.trans hE1, .inr ⟨fun hf => hlen hf.1, rfl⟩⟩
  try simp only [wpK_assoc]
  refine wpK_x0 (fun R hR => by
      simp [aEnter, fun52, short_other, aCallV]; rw [callS_none]
      refine (hc).mono ?_
      rintro _ W1 ⟨hE1, rfl⟩
      simp [len_slice und43, len_slice und29, l1, hE1, hlen]; exact hR W1 hE1) ?_
  rintro W1 hE1
  try simp only [wpK_assoc]
  first | refine wpK_onF (by simp []) ?_ | refine wpK_out (by simp []) ?_ | refine wpK_condF (by simp []) ?_ | refine wpK_endF (by simp []) (wpK_skip ?_) | refine wpK_endF (by simp []) ?_
  obtain ⟨W2, hW2, hE2, hVo⟩ : ∃ W2, W2 = W1.newCells 127 (intsV (zeros24)) ∧ Ext W1 W2 ∧ Var W2 W1.next 127 (intsV (zeros24)) := ⟨_, rfl, .newCells _ _ _, Var.new _ _ _⟩
  try simp only [wpK_assoc]
  refine wpK_reg (fun R hR => by simp [zero127, ← hW2]; exact hR) ?_
  try simp only [wpK_assoc]
  refine wpK_reg (fun R hR => by simp [len_slice und43]; exact hR) ?_
  have n1 := hE1.1
  have n2 := hVo.1
  obtain ⟨bo, hbo⟩ : ∃ b, b = W1.next := ⟨_, rfl⟩
  rw [← hbo] at hVo
  have hzl : (l.zip fl).length = l.length := by rw [List.length_zip]; omega
  try simp only [wpK_assoc]
  refine wpK_while (I := fun k A W' => A.n = 79 ∧ A.defers = [] ∧ A.tmps.get 1 = some (.int .i64 s) ∧ A.tmps.get 2 = some (.int .i64 t) ∧ A.tmps.get 4 = some (.pointer (some ⟨W.next, 0, none⟩)) ∧ A.tmps.get 10 = some (.pointer (some ⟨bo, 0, none⟩)) ∧ A.tmps.get 26 = some (.slice Af fl.length cf) ∧ A.tmps.get 27 = some (.int .i64 l.length) ∧ Ext W0 W' ∧ ∃ i : Nat, k = l.length - i ∧ i ≤ l.length ∧ A.tmps.get 28 = some (.int .i64 i) ∧ Var W' bo 127 (intsV (netL ((l.zip fl).take i))) ∧ capsOk ((l.zip fl).take i))
    (J := fun A W' => A.n = 79 ∧ A.defers = [] ∧ A.tmps.get 1 = some (.int .i64 s) ∧ A.tmps.get 2 = some (.int .i64 t) ∧ A.tmps.get 4 = some (.pointer (some ⟨W.next, 0, none⟩)) ∧ A.tmps.get 10 = some (.pointer (some ⟨bo, 0, none⟩)) ∧ A.tmps.get 26 = some (.slice Af fl.length cf) ∧ A.tmps.get 27 = some (.int .i64 l.length) ∧ Ext W0 W' ∧ Var W' bo 127 (intsV (netL (l.zip fl))) ∧ capsOk (l.zip fl))
    (Rt := fun A W' => A.defers = [] ∧ A.tmps.get 8 = some (.int .i64 0) ∧ A.tmps.get 9 = some (.bool false) ∧ Ext W0 W' ∧ ¬ capsOk (l.zip fl)) (k := l.length) ?_ ?_ ?_ ?_
  · exact ⟨rfl, rfl, by simp [hbo, hlen], by simp [hbo, hlen], by simp [hbo, hlen], by simp [hbo, hlen], by simp [hbo, hlen], by simp [hbo, hlen], hE1.trans hE2, 0, by simp, by simp, by simp, hVo, fun q hq => by simp at hq⟩
  · rintro k ⟨tm, n, ds⟩ W3 ⟨hn, hd, h1, h2, h4, h10, h26, h27, hE3, i, hk, hi, h28, hV3, hcaps⟩ Q' hJ hRt hI
    simp only at hn hd h1 h2 h4 h10 h26 h27
    subst hn; subst hd
    simp only at h28
    try simp only [wpK_assoc]
    refine wpK_reg (fun R hR => by simp [h27, h28]; exact hR) ?_
    by_cases hlt : i < l.length
    · try simp only [wpK_assoc]
      first | refine wpK_onT (by simp [hlt]) ?_ | refine wpK_outT (by simp [hlt]) ?_ | refine wpK_condT (by simp [hlt]) ?_ | refine wpK_endT (by simp [hlt]) ?_
      have ha : l[i]? = some l[i] := List.getElem?_eq_getElem hlt
      have hx : fl[i]? = some (fl[i]'(by omega)) := List.getElem?_eq_getElem (by omega)
      have hmem : l[i] ∈ l := List.getElem_mem hlt
      generalize l[i] = a at ha hmem
      generalize fl[i]'_ = x at hx
      have hst1 := (arcsQ_in hok).step (a := (a.1, a.2.1, a.2.2, 0)) (by simp only [arcsQ, List.mem_map]; exact ⟨a, hmem, rfl⟩)
      have hzs := zip_snoc ha hx
      obtain ⟨a1, a2, a3⟩ := a
      simp only at hst1
      obtain ⟨f, rfl⟩ : ∃ f : Nat, a1 = f := ⟨a1.toNat, by omega⟩
      obtain ⟨g, rfl⟩ : ∃ g : Nat, a2 = g := ⟨a2.toNat, by omega⟩
      obtain ⟨b, o, rfl, q1, q2, q3⟩ := hA i _ ha
      obtain ⟨b', o', rfl, q4⟩ := hB i _ hx
      have eF := indexAddr_slice (T := T0) und43 sz2 (b := b') (o := o') (c := cf) (k := .i64) (show i < fl.length by omega)
      rw [Nat.mul_one] at eF
      have eV := indexAddr_tri (T := T0) und29 sz106 (b := b) (o := o) (c := cv) (k := .i64) hlt
      have lF : ∀ W', Ext W0 W' → aLoadVar T0 W' 2 b' (o' + i) = some (.int .i64 x) := fun W' h => load_of und2 rfl (q4.ext (hE0.trans h))
      have la1 : ∀ W', Ext W0 W' → aLoadVar T0 W' 3 b (o + 3 * i) = some (.int .i64 f) := fun W' h => load_of und3 rfl (q1.ext (hE0.trans h))
      have la2 : ∀ W', Ext W0 W' → aLoadVar T0 W' 3 b (o + 3 * i + 1) = some (.int .i64 g) := fun W' h => load_of und3 rfl (q2.ext (hE0.trans h))
      have la3 : ∀ W', Ext W0 W' → aLoadVar T0 W' 2 b (o + 3 * i + 2) = some (.int .i64 a3) := fun W' h => load_of und2 rfl (q3.ext (hE0.trans h))
      refine wpK_block ?_
      try simp only [wpK_assoc]
      refine wpK_reg (fun R hR => by simp [h26, h28, eF, lF, hE3]; exact hR) ?_
      have bad : ¬ (0 ≤ x ∧ x ≤ a3) → ¬ capsOk (l.zip fl) := fun hb hc => hb (hc ((f, g, a3), x) (List.mem_of_getElem? (i := i) (by rw [List.getElem?_zip_eq_some]; exact ⟨ha, hx⟩)))
      by_cases g1 : x < 0
      · try simp only [wpK_assoc]
        refine wpK_reg (fun R hR => by simp [g1]; exact hR) ?_
        try simp only [wpK_assoc]
        first | refine wpK_onT (by simp []) ?_ | refine wpK_outT (by simp []) ?_ | refine wpK_condT (by simp []) ?_ | refine wpK_endT (by simp []) ?_
        try simp only [wpK_assoc]
        refine wpK_reg (fun R hR => by simp []; exact hR) ?_
        exact wpK_ret (hRt _ _ ⟨rfl, by simp, by simp, hE3, bad (by omega)⟩)
      by_cases g2 : a3 < x
      · try simp only [wpK_assoc]
        refine wpK_reg (fun R hR => by simp [h4, g1, g2, l1, hE3, eV, la3]; exact hR) ?_
        try simp only [wpK_assoc]
        first | refine wpK_onT (by simp []) ?_ | refine wpK_outT (by simp []) ?_ | refine wpK_condT (by simp []) ?_ | refine wpK_endT (by simp []) ?_
        try simp only [wpK_assoc]
        refine wpK_reg (fun R hR => by simp []; exact hR) ?_
        exact wpK_ret (hRt _ _ ⟨rfl, by simp, by simp, hE3, bad (by omega)⟩)
      try simp only [wpK_assoc]
      refine wpK_reg (fun R hR => by simp [h4, g1, g2, l1, hE3, eV, la3]; exact hR) ?_
      try simp only [wpK_assoc]
      first | refine wpK_onF (by simp []) ?_ | refine wpK_out (by simp []) ?_ | refine wpK_condF (by simp []) ?_ | refine wpK_endF (by simp []) (wpK_skip ?_) | refine wpK_endF (by simp []) ?_
      have hbz : ∀ q ∈ (l.zip fl).take i, 0 ≤ q.2 ∧ q.2 ≤ 1000000000 := fun q hq => by
        have h1 := hcaps q hq
        have hm := (List.of_mem_zip (List.mem_of_mem_take hq)).1
        have := (arcsQ_in hok).step (a := (q.1.1, q.1.2.1, q.1.2.2, 0)) (by simp only [arcsQ, List.mem_map]; exact ⟨q.1, hm, rfl⟩)
        simp only at this
        omega
      have hzb := fun p => netZ_le ((l.zip fl).take i) p hbz
      have hzt : ((l.zip fl).take i).length = i := by rw [List.length_take, hzl]; omega
      rw [hzt] at hzb
      have hbf := hzb f
      have hbg := hzb g
      have hL24 := netL_len ((l.zip fl).take i)
      have hsn := netL_snoc ((l.zip fl).take i) ((f, g, a3), x) (f := f) (g := g) rfl rfl (by omega) (by omega) (by omega)
      rw [← hzs] at hsn
      have w1 : IntKind.i64.wrap (netZ ((l.zip fl).take i) f + x) = netZ ((l.zip fl).take i) f + x := IntWalk.i64_in _ (by omega)
      have w2 : IntKind.i64.wrap (netZ ((l.zip fl).take i) g - x) = netZ ((l.zip fl).take i) g - x := IntWalk.i64_in _ (by omega)
      have lo := hV3.load1 (T := T0) und2 rfl (j := f) (v := .int .i64 (netZ ((l.zip fl).take i) f)) (intsV_get (netL_get _ (by omega)))
      obtain ⟨W4, s1, s2, s3, s4⟩ := hV3.store (T := T0) (t := 2) (v := .int .i64 (netZ ((l.zip fl).take i) f + x)) (o := f) inf2 (by rw [is2]; rfl) (by rw [intsV_len, hL24]; show f + 1 ≤ 24; omega) rfl
      have s4 : Var W4 bo 127 ((intsV (netL ((l.zip fl).take i))).take f ++ [.int .i64 (netZ ((l.zip fl).take i) f + x)] ++ (intsV (netL ((l.zip fl).take i))).drop (f + 1)) := s4
      rw [set_ints _ _ _ (by omega)] at s4
      have n3 := hE3.1
      have hE4 : Ext W0 W4 := ⟨by omega, fun b hb hk => by rw [s3.2 b (by omega) (by omega)]; exact hE3.2 b hb hk⟩
      have i1 := ix127 bo 0 f (by omega)
      have i2 := ix127 bo 0 g (by omega)
      have lo2 := s4.load1 (T := T0) und2 rfl (j := g) (v := .int .i64 (netZ ((l.zip fl).take i) g)) (intsV_get (by rw [List.getElem?_set_ne (by omega)]; exact netL_get _ (by omega)))
      obtain ⟨W5, t1, t2, t3, t4⟩ := s4.store (T := T0) (t := 2) (v := .int .i64 (netZ ((l.zip fl).take i) g - x)) (o := g) inf2 (by rw [is2]; rfl) (by rw [intsV_len, List.length_set, hL24]; show g + 1 ≤ 24; omega) rfl
      have t4 : Var W5 bo 127 ((intsV ((netL ((l.zip fl).take i)).set f (netZ ((l.zip fl).take i) f + x))).take g ++ [.int .i64 (netZ ((l.zip fl).take i) g - x)] ++ (intsV ((netL ((l.zip fl).take i)).set f (netZ ((l.zip fl).take i) f + x))).drop (g + 1)) := t4
      rw [set_ints _ _ _ (by rw [List.length_set]; omega), ← hsn] at t4
      have hE5 : Ext W0 W5 := ⟨by omega, fun b hb hk => by rw [t3.2 b (by omega) (by omega)]; exact hE4.2 b hb hk⟩
      try simp only [wpK_assoc]
      refine wpK_reg (fun R hR => by simp [h4, h10, l1, hE3, eV, la1, i1, lo, w1, s1]; exact hR) ?_
      try simp only [wpK_assoc]
      refine wpK_reg1 (fun R hR => by simp [h4, h10, l1, hE4, eV, la2, i2, lo2, w2, t1]; exact hR) ?_
      try simp only [wpK_assoc]
      refine wpK_reg1 (fun R hR => by simp [h28]; exact hR) ?_
      refine hI (k - 1) _ _ (by omega) ⟨rfl, rfl, by simp [h1, h2, h4, h10, h26, h27], by simp [h1, h2, h4, h10, h26, h27], by simp [h1, h2, h4, h10, h26, h27], by simp [h1, h2, h4, h10, h26, h27], by simp [h1, h2, h4, h10, h26, h27], by simp [h1, h2, h4, h10, h26, h27], hE5, i + 1, by omega, by omega, by simp; exact i64_succ i (by omega), t4, ?_⟩
      rw [hzs]
      intro q hq
      rcases List.mem_append.1 hq with hq | hq
      · exact hcaps q hq
      · simp at hq; subst hq; exact ⟨by omega, by simp only; omega⟩
    · have e : i = l.length := by omega
      subst e
      rw [← hzl, List.take_length] at hV3 hcaps
      try simp only [wpK_assoc]
      first | refine wpK_onF (by simp []) ?_ | refine wpK_out (by simp []) ?_ | refine wpK_condF (by simp []) ?_ | refine wpK_endF (by simp []) (wpK_skip ?_) | refine wpK_endF (by simp []) ?_
      exact hJ _ _ ⟨rfl, rfl, by simp [h1, h2, h4, h10, h26, h27], by simp [h1, h2, h4, h10, h26, h27], by simp [h1, h2, h4, h10, h26, h27], by simp [h1, h2, h4, h10, h26, h27], by simp [h1, h2, h4, h10, h26, h27], by simp [h1, h2, h4, h10, h26, h27], hE3, hV3, hcaps⟩
  · rintro A' W' ⟨g1, g2, g3, g4, g5⟩
    exact ⟨.inr rfl, g1, [.int .i64 0, .bool false], by simp [g2, g3], hE0.trans g4, .inr ⟨fun hf => g5 hf.2.1, rfl⟩⟩
  rintro ⟨tm, n, ds⟩ W3 ⟨hn, hd, h1, h2, h4, h10, h26, h27, hE3, hV3, hcaps⟩
  simp only at hn hd h1 h2 h4 h10 h26 h27
  subst hn; subst hd
  have hzP : ∀ q ∈ l.zip fl, q.1.1 < P ∧ q.1.2.1 < P := fun q hq => by
    have hm := (List.of_mem_zip hq).1
    have := (arcsQ_in hok).step (a := (q.1.1, q.1.2.1, q.1.2.2, 0)) (by simp only [arcsQ, List.mem_map]; exact ⟨q.1, hm, rfl⟩)
    simp only at this
    omega
  have hL24 := netL_len (l.zip fl)
  have i1 := ix127 bo 0 s (by omega)
  have i2 := ix127 bo 0 t (by omega)
  have lo := hV3.load1 (T := T0) und2 rfl (j := s) (v := .int .i64 (netZ (l.zip fl) s)) (intsV_get (netL_get _ (by omega)))
  obtain ⟨W4, s1, s2, s3, s4⟩ := hV3.store (T := T0) (t := 2) (v := .int .i64 0) (o := s) inf2 (by rw [is2]; rfl) (by rw [intsV_len, hL24]; show s + 1 ≤ 24; omega) rfl
  have s4 : Var W4 bo 127 ((intsV (netL (l.zip fl))).take s ++ [.int .i64 0] ++ (intsV (netL (l.zip fl))).drop (s + 1)) := s4
  rw [set_ints _ _ _ (by omega)] at s4
  obtain ⟨W5, t1, t2, t3, t4⟩ := s4.store (T := T0) (t := 2) (v := .int .i64 0) (o := t) inf2 (by rw [is2]; rfl) (by rw [intsV_len, List.length_set, hL24]; show t + 1 ≤ 24; omega) rfl
  have t4 : Var W5 bo 127 ((intsV ((netL (l.zip fl)).set s 0)).take t ++ [.int .i64 0] ++ (intsV ((netL (l.zip fl)).set s 0)).drop (t + 1)) := t4
  rw [set_ints _ _ _ (by rw [List.length_set]; omega)] at t4
  have n3 := hE3.1
  have hE5 : Ext W0 W5 := ⟨by omega, fun b hb hk => by rw [t3.2 b (by omega) (by omega), s3.2 b (by omega) (by omega)]; exact hE3.2 b hb hk⟩
  have lw := t4.load (T := T0) (t := 127) und127 agg127 inf127 (by rw [is127, intsV_len, List.length_set, List.length_set, hL24])
  have hq := neq127 (l := ((netL (l.zip fl)).set s 0).set t 0) (m := zeros24) (by rw [List.length_set, List.length_set, hL24]) zeros24_len
  have hzi := zero_iff hzP (by omega) (show s < P by omega) (show t < P by omega)
  generalize ((netL (l.zip fl)).set s 0).set t 0 = LL at lw hq hzi
  try simp only [wpK_assoc]
  refine wpK_reg (fun R hR => by simp [h1, h10, i1, lo]; exact hR) ?_
  try simp only [wpK_assoc]
  refine wpK_reg (fun R hR => by simp [h1, h2, h10, i1, i2, s1, t1]; exact hR) ?_
  by_cases hz : LL = zeros24
  · have hfl : isFl P s t l fl := ⟨hlen, hcaps, hzi.1 hz⟩
    subst hz
    try simp only [wpK_assoc]
    refine wpK_reg (fun R hR => by simp [h10, lw, build127, hq]; exact hR) ?_
    try simp only [wpK_assoc]
    first | refine wpK_onF (by simp []) ?_ | refine wpK_out (by simp []) ?_ | refine wpK_condF (by simp []) ?_ | refine wpK_endF (by simp []) (wpK_skip ?_) | refine wpK_endF (by simp []) ?_
    try simp only [wpK_assoc]
    refine wpK_reg (fun R hR => by simp []; exact hR) ?_
    exact wpK_ret ⟨.inr rfl, rfl, [.int .i64 (netZ (l.zip fl) s), .bool true], by simp, hE0.trans hE5, .inl ⟨hfl, rfl⟩⟩
  · try simp only [wpK_assoc]
    refine wpK_reg (fun R hR => by simp [h10, lw, build127, hq, hz]; exact hR) ?_
    try simp only [wpK_assoc]
    first | refine wpK_onT (by simp []) ?_ | refine wpK_outT (by simp []) ?_ | refine wpK_condT (by simp []) ?_ | refine wpK_endT (by simp []) ?_
    try simp only [wpK_assoc]
    refine wpK_reg (fun R hR => by simp []; exact hR) ?_
    exact wpK_ret ⟨.inr rfl, rfl, [.int .i64 0, .bool false], by simp, hE0.trans hE5, .inr ⟨fun hf => hz (hzi.2 hf.2.2), rfl⟩⟩

end Go.Proofs.YtkipaffjmcmclaaDoor

open Go Go.Eng
namespace Go.Proofs.YtkipaffjmcmclaaDoor
attribute [local congr] undef_congr WpK.congr WpS.congr WpL.congr WpC.congr WpF.congr gotS.congr callS.congr nextS.congr wantS.congr condS.congr
attribute [local irreducible] WpK
attribute [local simp] WpDr_nil WpDr_cons atS_some dwantS_true dwantS_false kindS_light kindS_float kindS_heavy lightS_value floatS_some heavyS_value heavyS_skip heavyS_enter dcallS_some doneS_eq
  isLight isFloat isPlain dLook testBit_dec dChain dLights_nil dLights_skip dLights_one dLight_nil dLight_cons dFreshes_nil dFreshes_one oneF_none oneF_some dFresh_nil dFresh_cons oneL_some oneW_true oneW_false sameV_value dPut dMay valEq arrEq listEq List.getElem?_cons Tr.get_nil dEnd
attribute [local simp] WpS_nil WpS_cons isDefer undef_false wantS_true wantS_false nextS_value nextS_skip nextS_enter callS_some gotS_some aWanted aOp aEvalF aEval opMove opAssign opPick aVal flat flat1 AAct.put opBinOp opConvert opIndex Tr.get_set Tr.get_lay aBin aResults tupled
  aCall aVals aCallB blt_dec ble_dec beq_dec aBinI_add aBinI_sub aBinI_lss aBinI_leq aBinI_gtr aBinI_geq aBinI_eql aBinI_neq index_str len_str len_slice Nat.beq_refl und2 und3 und4 und5 und39 und76 und82 und116 und22 und29 und25 und33 und46 und43 und49 und111 und113 field152 field156_0 field156_1 field156_2 field156_3 field156_4
  field78 field106 field24 field31 field27 field35 field108 field109 opBox opLoad opFieldAddr opIndexAddr acells aAddr opExtract aExtract opUnOp opAlloc opStore opMakeInterface opNilCheck opBuild aParts opBuildSlice aValW
set_option maxHeartbeats 4000000
set_option linter.unusedSimpArgs false
set_option linter.unusedVariables false
/-! ### what is near: the first cut -/
def nearS (lv : Nat → Nat) : Nat → Nat
  | 0 => 0
  | n + 1 => if 0 < lv n then nearS lv n ||| 1 <<< n else nearS lv n
theorem nearS_bit (lv : Nat → Nat) (q : Nat) : ∀ n, (nearS lv n).testBit q = (decide (q < n) && decide (0 < lv q))
  | 0 => by simp [nearS]
  | n + 1 => by
    rw [nearS]
    by_cases h : 0 < lv n
    · rw [if_pos h, Nat.testBit_or, nearS_bit lv q n, one_bit]
      by_cases e : n = q
      · subst e; simp [-testBit_dec, h]
      · have : (q < n + 1) = (q < n) := propext ⟨fun _ => by omega, fun _ => by omega⟩
        simp only [this, decide_eq_false e, Bool.or_false]
    · rw [if_neg h, nearS_bit lv q n]
      by_cases e : n = q
      · subst e; simp [h]
      · have : (q < n + 1) = (q < n) := propext ⟨fun _ => by omega, fun _ => by omega⟩
        simp only [this]
theorem nearS_lt (lv : Nat → Nat) : ∀ n, nearS lv n < 2 ^ n
  | 0 => by simp [nearS]
  | n + 1 => by
    have := nearS_lt lv n
    have h2 : 2 ^ (n + 1) = 2 * 2 ^ n := by rw [Nat.pow_succ]; omega
    rw [nearS]
    split
    · refine Nat.or_lt_two_pow (by omega) ?_
      rw [Nat.shiftLeft_eq, Nat.one_mul]; exact Nat.pow_lt_pow_right (by omega) (by omega)
    · omega
theorem sz133e : aSize T0 3 = some 1 := sz3
theorem idx133 (l : List Int) (q : Nat) (hq : q < 24) (x : Int) (h : l[q]? = some x) : aIndex T0 133 (.agg ⟨intsV l⟩) (.int .i64 (q : Nat)) = some (.int .i64 x) := by
  show aIndex T0 133 (.agg ⟨intsV l⟩) (.int .i64 (Int.ofNat q)) = _
  simp only [aIndex, und133, sz3, blt_dec, hq, decide_true, Nat.mul_one]
  simp only [aPart, und3, sz3]
  simp only [intsV, List.getElem?_map, h]
  rfl
theorem wpK_cut1 {T : Tabs} {cx : Cx} {c : Code} {A : AAct} {W : AW} {Q : AExit → AAct → AW → Prop} (J : AAct → AW → Prop) (h : ∀ Q' : AExit → AAct → AW → Prop, (∀ A' W', J A' W' → Q' .normal A' W') → WpK T cx c A W Q') (h2 : ∀ A' W', J A' W' → Q .normal A' W') : WpK T cx c A W Q := h Q h2
theorem near_wp {W : AW} {p B : Nat} {L : List Stp} {s t : Nat} {rm : Nat → Int} {lv : Nat → Nat} (h : Wk W p B L s t rm lv) :
    WpF T0 61 [.pointer (some ⟨p, 0, none⟩)] W (fun v W' => W' = W ∧ v = .int .u32 (nearS lv 24 : Nat)) := by
  refine wpF fun61 rfl ?_
  obtain ⟨_, _, _, _, hlv⟩ := h.has
  have hld : aLoadVar T0 W 133 p 826 = some (.agg ⟨intsV ((List.range 24).map fun q => (lv q : Int))⟩) := by
    refine loadVar_agg und133 agg133 inf133 ?_
    rw [is133]
    refine cellsAt_of_cells (by simp [intsV]) (has_blk (hlv 0 (by omega))) (fun j hj => ?_) (by omega)
    rw [(hlv j hj).2]
    simp [intsV, List.getElem?_range hj]
  generalize hL : (List.range 24).map (fun q => (lv q : Int)) = LL at hld
  have hget : ∀ q, q < 24 → LL[q]? = some (lv q : Int) := fun q hq => by rw [← hL]; simp [List.getElem?_range hq]
  try simp only [wpK_assoc]
  refine wpK_reg (fun R hR => by simp []; exact hR) ?_
  try simp only [wpK_assoc]
  refine wpK_reg (fun R hR => by simp []; exact hR) ?_
  try simp only [wpK_assoc]
  refine wpK_reg (fun R hR => by simp [nilck, hld]; exact hR) ?_
  try simp only [wpK_assoc]
  refine wpK_while (I := fun k A W' => A.n = 22 ∧ A.defers = [] ∧ A.tmps.get 9 = some (.agg ⟨intsV LL⟩) ∧ W' = W ∧ ∃ i : Nat, k = 24 - i ∧ i ≤ 24 ∧ A.tmps.get 10 = some (.int .i64 i) ∧ A.tmps.get 3 = some (.int .u32 (nearS lv i : Nat)))
    (J := fun A W' => A.n = 22 ∧ A.defers = [] ∧ A.tmps.get 9 = some (.agg ⟨intsV LL⟩) ∧ W' = W ∧ A.tmps.get 3 = some (.int .u32 (nearS lv 24 : Nat)))
    (Rt := fun _ _ => False) (k := 24) ?_ ?_ ?_ ?_
  · exact ⟨rfl, rfl, by simp, rfl, 0, rfl, by omega, by simp, by simp [nearS]⟩
  · rintro k ⟨tm, n, ds⟩ W3 ⟨hn, hd, h9, rfl, i, hk, hi, h10, h3⟩ Q' hJ hRt hI
    simp only at hn hd h9
    subst hn; subst hd
    simp only at h10 h3
    try simp only [wpK_assoc]
    refine wpK_reg (fun R hR => by simp [h10]; exact hR) ?_
    by_cases hlt : i < 24
    · have hlt' : (i : Int) < 24 := by omega
      try simp only [wpK_assoc]
      first | refine wpK_onT (by simp [hlt']) ?_ | refine wpK_outT (by simp [hlt']) ?_ | refine wpK_condT (by simp [hlt']) ?_ | refine wpK_endT (by simp [hlt']) ?_
      have hx := idx133 LL i hlt _ (hget i hlt)
      have hlti := nearS_lt lv i
      have hpi : 2 ^ i ≤ 2 ^ 24 := Nat.pow_le_pow_right (by omega) hi
      refine wpK_block ?_
      try simp only [wpK_assoc]
      refine wpK_reg (fun R hR => by simp [h9, h10, hx, opIndex]; exact hR) ?_
      try simp only [wpK_assoc]
      refine wpK_reg (fun R hR => by simp []; exact hR) ?_
      refine wpK_cut1 (J := fun A W' => A.n = 22 ∧ A.defers = [] ∧ A.tmps.get 9 = some (.agg ⟨intsV LL⟩) ∧ W' = W3 ∧ A.tmps.get 10 = some (.int .i64 i) ∧ A.tmps.get 3 = some (.int .u32 (nearS lv (i + 1) : Nat))) (fun Q2 hQ2 => ?_) ?_
      · by_cases hp : 0 < lv i
        · have hor := aBinI_or .u32 (nearS lv i) (1 <<< i) (by show _ < 4294967296; omega) (one_lt (by omega))
          refine wpK_endT (by simp [hp]) ?_
          have e : nearS lv i ||| 1 <<< i = nearS lv (i + 1) := by rw [nearS, if_pos hp]
          rw [e] at hor
          have h1p := one_wp i (by omega) W3
          generalize 1 <<< i = q at hor h1p
          try simp only [wpK_assoc]
          refine wpK_reg1 (fun R hR => by
              simp [h3, aEnter, fun54, short_other, aCallV]; rw [callS_none]
              refine (h1p).mono ?_
              rintro _ W9 ⟨e9, rfl⟩; subst W9
              simp [h3, hor]; exact hR) ?_
          exact hQ2 _ _ ⟨rfl, rfl, by simp [h9], rfl, by simp [h10], by simp⟩
        · refine wpK_endF (by simp [hp]) (wpK_skip (hQ2 _ _ ⟨rfl, rfl, by simp [h9], rfl, by simp [h10], by simp [h3, nearS, hp]⟩))
      rintro ⟨tm, n, ds⟩ W4 ⟨hn, hd, h9, rfl, h10, h3⟩
      simp only at hn hd h9
      subst hn; subst hd
      simp only at h10 h3
      try simp only [wpK_assoc]
      refine wpK_reg1 (fun R hR => by simp [h10]; exact hR) ?_
      exact hI (k - 1) _ _ (by omega) ⟨rfl, rfl, by simp [h9], rfl, i + 1, by omega, by omega, by simp; exact i64_succ i (by omega), by simp [h3]⟩
    · obtain rfl : i = 24 := by omega
      try simp only [wpK_assoc]
      first | refine wpK_onF (by simp []) ?_ | refine wpK_out (by simp []) ?_ | refine wpK_condF (by simp []) ?_ | refine wpK_endF (by simp []) (wpK_skip ?_) | refine wpK_endF (by simp []) ?_
      exact hJ _ _ ⟨rfl, rfl, by simp [h9], rfl, by simp [h3]⟩
  · rintro A' W' hf; exact hf.elim
  · rintro ⟨tm, n, ds⟩ W3 ⟨hn, hd, h9, rfl, h3⟩
    simp only at hn hd h9
    subst hn; subst hd
    simp only at h3
    try simp only [wpK_assoc]
    refine wpK_reg (fun R hR => by simp [h3]; exact hR) ?_
    exact wpK_ret ⟨.inr rfl, rfl, [.int .u32 (nearS lv 24 : Nat)], by simp, rfl, rfl⟩
/-- the capacities on the way from s to t, and what is near s then -/
theorem firstCut_wp {W : AW} {ty : TypeId} {r : Value} {fz fs : FuncId} {P : Int} {l : List Quad} (h : PlanOf W ty r fz fs P l) (hP : PlanIn P l) {s t : Nat} (hst : two? s t P = true) (hT : tabsIn T0 T0.tabs W = true) (h0 : 0 < W.next) :
    WpF T0 57 [.iface ty r, .int .i64 s, .int .i64 t] W (fun u W' => Ext W W' ∧ ∃ x rm lv, u = .tuple ⟨[.int .u32 (nearS lv 24 : Nat), .int .i64 x]⟩ ∧ Filled (layL (1 <<< s) s l) s t (hCap (layL (1 <<< s) s l)) x rm lv) := by
  obtain ⟨hP2, hP24, _⟩ := hP.size
  simp only [two?, Bool.and_eq_true, decide_eq_true_eq] at hst
  refine wpF fun57 rfl ?_
  try simp only [wpK_assoc]
  refine wpK_reg (fun R hR => by simp []; exact hR) ?_
  try simp only [wpK_assoc]
  refine wpK_x2 (fun R hR => by
    simp [aEnter, fun54, short_other, aCallV]; rw [callS_none]
    refine (one_wp s (by omega) W).mono ?_
    rintro _ W2 ⟨hW2, rfl⟩
    subst W2
    simp [aEnter, fun53, short_other, aCallV]; rw [callS_none]
    refine (lay_wp h hP (by exact one_lt (by omega)) one_low.1 one_low.2 (by omega) (by omega) hT h0).mono ?_
    rintro _ W3 ⟨hE3, p, B, rfl, hp, hWk⟩
    simp; exact hR p B W3 (And.intro hE3 (And.intro hp hWk))) ?_
  rintro p B W3 ⟨hE3, hp, hWk⟩
  try simp only [wpK_assoc]
  refine wpK_x3 (fun R hR => by
      simp [aEnter, fun55, short_other, aCallV]; rw [callS_none]
      refine (fill_wp hWk (layL_ok hP (by omega)) (by omega) (by omega) (by omega) (cap_rooms (layL_ok hP (by omega)))).mono ?_
      rintro _ W4 ⟨x, rm', lv, rfl, hO4, hWk4, hF⟩
      simp []; exact hR x rm' lv W4 (And.intro hO4 (And.intro hWk4 hF))) ?_
  rintro x rm' lv W4 ⟨hO4, hWk4, hF⟩
  try simp only [wpK_assoc]
  refine wpK_reg (fun R hR => by
      simp [aEnter, fun61, short_other, aCallV]; rw [callS_none]
      refine (near_wp hWk4).mono ?_
      rintro _ W9 ⟨e9, rfl⟩; subst W9
      simp []; exact hR) ?_
  have hE4 : Ext W W4 := ⟨Nat.le_trans hE3.1 hO4.1, fun b hb hk => by rw [hO4.2 b (Nat.lt_of_lt_of_le hb hE3.1) (fun e => by omega)]; exact hE3.2 b hb hk⟩
  exact wpK_ret ⟨.inr rfl, rfl, [.int .u32 (nearS lv 24 : Nat), .int .i64 x], by simp, hE4, x, rm', lv, rfl, hF⟩

end Go.Proofs.YtkipaffjmcmclaaDoor

open Go Go.Eng
namespace Go.Proofs.YtkipaffjmcmclaaDoor
attribute [local congr] undef_congr WpK.congr WpS.congr WpL.congr WpC.congr WpF.congr gotS.congr callS.congr nextS.congr wantS.congr condS.congr
attribute [local irreducible] WpK
attribute [local simp] WpDr_nil WpDr_cons atS_some dwantS_true dwantS_false kindS_light kindS_float kindS_heavy lightS_value floatS_some heavyS_value heavyS_skip heavyS_enter dcallS_some doneS_eq
  isLight isFloat isPlain dLook testBit_dec dChain dLights_nil dLights_skip dLights_one dLight_nil dLight_cons dFreshes_nil dFreshes_one oneF_none oneF_some dFresh_nil dFresh_cons oneL_some oneW_true oneW_false sameV_value dPut dMay valEq arrEq listEq List.getElem?_cons Tr.get_nil dEnd
attribute [local simp] WpS_nil WpS_cons isDefer undef_false wantS_true wantS_false nextS_value nextS_skip nextS_enter callS_some gotS_some aWanted aOp aEvalF aEval opMove opAssign opPick aVal flat flat1 AAct.put opBinOp opConvert opIndex Tr.get_set Tr.get_lay aBin aResults tupled
  aCall aVals aCallB blt_dec ble_dec beq_dec aBinI_add aBinI_sub aBinI_lss aBinI_leq aBinI_gtr aBinI_geq aBinI_eql aBinI_neq index_str len_str len_slice Nat.beq_refl und2 und3 und4 und5 und39 und76 und82 und116 und22 und29 und25 und33 und46 und43 und49 und111 und113 field152 field156_0 field156_1 field156_2 field156_3 field156_4
  field78 field106 field24 field31 field27 field35 field108 field109 opBox opLoad opFieldAddr opIndexAddr acells aAddr opExtract aExtract opUnOp opAlloc opStore opMakeInterface opNilCheck opBuild aParts opBuildSlice aValW
set_option maxHeartbeats 4000000
set_option linter.unusedSimpArgs false
set_option linter.unusedVariables false
/-! ### loops over the places of a set -/
/-- a loop over a function, the world at its beginning by what is to be known of it -/
theorem wpK_range2 {T : Tabs} {f₀ : FuncId} {A : AAct} {W : AW} {Q : AExit → AAct → AW → Prop} {id : Nat} {b : Code} {g : Operand} {ps : Array Tmp} {asn bd : Code} {f : FuncId} {first cap : Array Value} {fn : Func}
    (hg : aEval T A.tmps g = some (.func (.func f) first cap)) (hf : T.funcs.get f = some fn)
    (h : ∀ W5 : AW, W5.next = W.next + 2 → (∀ b, b < W.next → W5.blocks.get b = W.blocks.get b) → W5.blocks.get W.next = some ⟨.deferred (some []), []⟩ → W5.blocks.get (W.next + 1) = some ⟨.loop .ready none f₀ A.tmps A.n ps asn bd W.next, []⟩ →
      WpF T f (first.toList ++ .func (.yield (W.next + 1)) #[] #[] :: cap.toList) W5 (fun _ W₂ =>
      ∃ st p fn' t' n' ps' as' bd' df', W₂.blocks.get (W.next + 1) = some ⟨.loop st p fn' t' n' ps' as' bd' df', []⟩ ∧ st ≠ .busy ∧
        goOn (leaves id (behind Q fun A' W' => WpK T ⟨f₀, none⟩ b A' W' Q)) { A with defers := { target := .collected W.next, args := #[] } :: A.defers } (W₂.setObj (W.next + 1) (.loop .exhausted p fn' t' n' ps' as' bd' df')) p)) :
    WpK T ⟨f₀, none⟩ (.seq (.block id (.rangeFunc g ps asn bd)) b) A W Q := by
  try simp only [wpK_assoc]
  refine wpK_range hg hf (h _ rfl (fun b hb => ?_) ?_ ?_)
  · simp only [AW.beforeLoop, AW.new, Tr.get_set]; rw [if_neg (by omega), if_neg (by omega)]
  · simp only [AW.beforeLoop, AW.new, Tr.get_set]; rw [if_neg (by omega), if_true]
  · simp only [AW.beforeLoop, AW.new, Tr.get_set]; rw [if_true]
theorem setObj_get (W : AW) (r : Nat) (o : AObj) (b : Nat) : (W.setObj r o).blocks.get b = if b = r then some ⟨o, []⟩ else W.blocks.get b := by
  simp only [AW.setObj, Tr.get_set]
theorem setObj_next (W : AW) (r : Nat) (o : AObj) : (W.setObj r o).next = W.next := rfl
theorem setObj_only (W : AW) (r : Nat) (o : AObj) : Only (fun b => b = r) W (W.setObj r o) := ⟨Nat.le_refl _, fun b _ hb => by rw [setObj_get, if_neg hb]⟩
/-- a set without its least place -/
def dropLow (x : Nat) : Nat := x &&& (x - 1)
theorem dropLow_bit {x k : Nat} (h1 : x.testBit k = true) (h2 : ∀ j, j < k → x.testBit j = false) (i : Nat) : (dropLow x).testBit i = (x.testBit i && decide (i ≠ k)) := by
  rw [dropLow, Nat.testBit_and, pred_bits h1 h2]
  by_cases hlt : i < k
  · rw [if_pos hlt, h2 i hlt]; rfl
  · rw [if_neg hlt]
    by_cases e : i = k
    · subst e; simp
    · rw [if_neg e]; simp [-testBit_dec, e]
theorem dropLow_lt {x : Nat} (h : x ≠ 0) : dropLow x < x := by
  have := Nat.and_le_right (n := x) (m := x - 1)
  unfold dropLow; omega
theorem memb_empty : ∀ (P s : Nat), (∀ j, j < P → s.testBit j = false) → memb P s = []
  | 0, _, _ => by simp [memb]
  | P + 1, s, h => by rw [memb_succ, memb_empty P s (fun j hj => h j (by omega)), h P (by omega)]; rfl
theorem memb_low {x k : Nat} (h1 : x.testBit k = true) (h2 : ∀ j, j < k → x.testBit j = false) : ∀ P, memb P x = (if k < P then [(k : Int)] else []) ++ memb P (dropLow x)
  | 0 => by simp [memb]
  | P + 1 => by
    rw [memb_succ, memb_succ, memb_low h1 h2 P, dropLow_bit h1 h2]
    by_cases e1 : P < k
    · rw [h2 P e1]
      simp only [Bool.false_and, Bool.false_eq_true, if_false, List.append_nil, if_neg (show ¬ k < P by omega), if_neg (show ¬ k < P + 1 by omega)]
    · by_cases e2 : P = k
      · subst e2
        rw [h1, memb_empty P (dropLow x) (fun j hj => by rw [dropLow_bit h1 h2, h2 j hj]; rfl)]
        simp
      · have : decide (P ≠ k) = true := by simp [e2]
        rw [this, Bool.and_true]
        simp only [if_pos (show k < P by omega), if_pos (show k < P + 1 by omega), List.append_assoc]
/-- a loop over the places of x, that is never left -/
theorem places1_wp {l bx x : Nat} (C : Nat → AW → Prop) (hx : x < 4294967296)
    (hC : ∀ left k W, C left W → left < 4294967296 → left.testBit k = true → (∀ j, j < k → left.testBit j = false) → tabsIn T0 T0.tabs W = true ∧ ∃ st pd fn t n ps asn bd df kin t', W.blocks.get l = some ⟨.loop st pd fn t n ps asn bd df, kin⟩ ∧ aSetAll t n ps.toList [.int .i64 (k : Nat)] = some t' ∧
      WpR T0 l fn t' n asn bd W (fun v W' => v = .bool true ∧ C (dropLow left) W'))
    {W : AW} (h0 : C x W) (hb : W.Has bx 0 (.int .u32 (x : Nat))) : WpF T0 81 [.func (.yield l) #[] #[], .pointer (some ⟨bx, 0, none⟩)] W (fun _ W' => C 0 W') := by
  have hl := load_of und116 rfl hb
  refine wpF fun81 rfl ?_
  try simp only [wpK_assoc]
  refine wpK_reg (fun R hR => by simp [hl]; exact hR) ?_
  try simp only [wpK_assoc]
  refine wpK_while1 (I := fun k A W' => A.n = 16 ∧ A.defers = [] ∧ A.tmps.get 0 = some (.func (.yield l) #[] #[]) ∧ A.tmps.get 3 = some (.int .u32 (k : Nat)) ∧ k < 4294967296 ∧ C k W')
    (J := fun A W' => A.defers = [] ∧ C 0 W') (Rt := fun _ _ => False) (k := x) ?_ ?_ ?_ ?_
  · exact ⟨rfl, rfl, by simp, by simp, hx, h0⟩
  · rintro k ⟨tm, n, ds⟩ W3 ⟨hn, hd, h0, h3, hk, hCk⟩ Q' hJ hRt hI
    simp only at hn hd h0
    subst hn; subst hd
    simp only at h3
    by_cases hz : k = 0
    · subst hz
      try simp only [wpK_assoc]
      refine wpK_reg (fun R hR => by simp [h3]; exact hR) ?_
      try simp only [wpK_assoc]
      first | refine wpK_onF (by simp []) ?_ | refine wpK_out (by simp []) ?_ | refine wpK_condF (by simp []) ?_ | refine wpK_endF (by simp []) (wpK_skip ?_) | refine wpK_endF (by simp []) ?_
      exact hJ _ _ ⟨rfl, hCk⟩
    have hz' : ¬ (k : Int) = 0 := by omega
    try simp only [wpK_assoc]
    refine wpK_reg (fun R hR => by simp [h3, hz', hz]; exact hR) ?_
    try simp only [wpK_assoc]
    first | refine wpK_onT (by simp []) ?_ | refine wpK_outT (by simp []) ?_ | refine wpK_condT (by simp []) ?_ | refine wpK_endT (by simp []) ?_
    obtain ⟨q, hq1, hq2⟩ := low_ex hz
    obtain ⟨hT, st, pd, fn, t', n', ps, asn, bd, df, kin, tt, hy1, hy2, hy3⟩ := hC k q W3 hCk hk hq1 hq2
    refine wpK_block ?_
    try simp only [wpK_assoc]
    refine wpK_x0 (fun R hR => by
      simp [h0, h3, aEnter, fun75, short_other, aCallV]; rw [callS_none]
      refine (first_wp hT hk hq1 hq2).mono ?_
      rintro _ W9 ⟨e9, rfl⟩; subst W9
      simp [aEnter, hy1, hy2, aCallV, nextS_round]
      refine hy3.mono ?_
      rintro _ W4 ⟨rfl, hC4⟩
      simp; exact hR W4 hC4) ?_
    rintro W4 hC4
    try simp only [wpK_assoc]
    first | refine wpK_onF (by simp []) ?_ | refine wpK_out (by simp []) ?_ | refine wpK_condF (by simp []) ?_ | refine wpK_endF (by simp []) (wpK_skip ?_) | refine wpK_endF (by simp []) ?_
    have w1 : IntKind.u32.wrap ((k : Int) - 1) = ((k - 1 : Nat) : Int) := by
      have : ((k : Int) - 1) = ((k - 1 : Nat) : Int) := by omega
      rw [this]; exact wrap_nat .u32 _ (by show k - 1 < 4294967296; omega)
    have hand := aBinI_and .u32 k (k - 1) (by show k < 4294967296; omega) (by show k - 1 < 4294967296; omega)
    have hlt := dropLow_lt hz
    try simp only [wpK_assoc]
    refine wpK_reg1 (fun R hR => by simp [h3, w1, hand]; exact hR) ?_
    exact hI (dropLow k) _ _ hlt ⟨rfl, rfl, by simp [h0], by simp; rfl, by omega, hC4⟩
  · rintro A' W' hf; exact hf.elim
  · rintro A' W' ⟨h1, h2⟩
    exact ⟨.inl rfl, h1, [], by rfl, h2⟩

end Go.Proofs.YtkipaffjmcmclaaDoor

open Go Go.Eng
namespace Go.Proofs.YtkipaffjmcmclaaDoor
attribute [local congr] undef_congr WpK.congr WpS.congr WpL.congr WpC.congr WpF.congr gotS.congr callS.congr nextS.congr wantS.congr condS.congr
attribute [local irreducible] WpK
attribute [local simp] WpDr_nil WpDr_cons atS_some dwantS_true dwantS_false kindS_light kindS_float kindS_heavy lightS_value floatS_some heavyS_value heavyS_skip heavyS_enter dcallS_some doneS_eq
  isLight isFloat isPlain dLook testBit_dec dChain dLights_nil dLights_skip dLights_one dLight_nil dLight_cons dFreshes_nil dFreshes_one oneF_none oneF_some dFresh_nil dFresh_cons oneL_some oneW_true oneW_false sameV_value dPut dMay valEq arrEq listEq List.getElem?_cons Tr.get_nil dEnd
attribute [local simp] WpS_nil WpS_cons isDefer undef_false wantS_true wantS_false nextS_value nextS_skip nextS_enter callS_some gotS_some aWanted aOp aEvalF aEval opMove opAssign opPick aVal flat flat1 AAct.put opBinOp opConvert opIndex Tr.get_set Tr.get_lay aBin aResults tupled
  aCall aVals aCallB blt_dec ble_dec beq_dec aBinI_add aBinI_sub aBinI_lss aBinI_leq aBinI_gtr aBinI_geq aBinI_eql aBinI_neq index_str len_str len_slice Nat.beq_refl und2 und3 und4 und5 und39 und76 und82 und116 und22 und29 und25 und33 und46 und43 und49 und111 und113 field152 field156_0 field156_1 field156_2 field156_3 field156_4
  field78 field106 field24 field31 field27 field35 field108 field109 opBox opLoad opFieldAddr opIndexAddr acells aAddr opExtract aExtract opUnOp opAlloc opStore opMakeInterface opNilCheck opBuild aParts opBuildSlice aValW
set_option maxHeartbeats 4000000
set_option linter.unusedSimpArgs false
set_option linter.unusedVariables false
/-! ### the list of a set -/
theorem zero46 : aZero T0 46 = some (.slice none 0 0) := by kernel_rfl
theorem places_wp {W : AW} (x : Nat) : WpF T0 66 [.int .u32 (x : Nat)] W (fun v W' => Ext W W' ∧ v = .func (.func 81) ⟨[]⟩ ⟨[.pointer (some ⟨W.next, 0, none⟩)]⟩ ∧ W'.Has W.next 0 (.int .u32 (x : Nat))) := by
  refine wpF fun66 rfl ?_
  try simp only [wpK_assoc]
  refine wpK_reg (fun R hR => by simp []; exact hR) ?_
  try simp only [wpK_assoc]
  refine wpK_reg (fun R hR => by simp [opMakeFunc]; exact hR) ?_
  exact wpK_ret ⟨.inr rfl, rfl, [.func (.func 81) ⟨[]⟩ ⟨[.pointer (some ⟨W.next, 0, none⟩)]⟩], by simp, .newCells _ _ _, rfl, (Var.new W 116 [.int .u32 (x : Nat)]).has rfl⟩
theorem list_wp {W : AW} {x : Nat} (hx : x < 16777216) (hT : tabsIn T0 T0.tabs W = true) (h0 : 0 < W.next) :
    WpF T0 58 [.int .u32 (x : Nat)] W (fun v W' => Ext W W' ∧ GrowsN W' v (memb 24 x).length (intsV (memb 24 x)) 3 1 (fun b => W.next ≤ b)) := by
  refine wpFd fun58 rfl ?_
  obtain ⟨W1, hW1, hE1, hn1, hV1⟩ : ∃ W1, W1 = W.newCells 46 [.slice none 0 0] ∧ Ext W W1 ∧ W1.next = W.next + 1 ∧ Var W1 W.next 46 [.slice none 0 0] := ⟨_, rfl, .newCells _ _ _, rfl, Var.new _ _ _⟩
  try simp only [wpK_assoc]
  refine wpK_reg (fun R hR => by simp []; exact hR) ?_
  try simp only [wpK_assoc]
  refine wpK_reg (fun R hR => by simp [zero46, ← hW1]; exact hR) ?_
  try simp only [wpK_assoc]
  refine wpK_x0 (fun R hR => by
      simp [aEnter, fun66, short_other, aCallV]; rw [callS_none]
      refine (places_wp x).mono ?_
      rintro _ W2 ⟨hE2, rfl, hB2⟩
      simp []; exact hR W2 (And.intro hE2 hB2)) ?_
  rintro W2 ⟨hE2, hB2⟩
  refine wpK_keep (fun tm' => tm'.get 3 = some (.pointer (some ⟨W.next, 0, none⟩)) ∧ tm'.get 6 = some (.func (.func 81) ⟨[]⟩ ⟨[.pointer (some ⟨W1.next, 0, none⟩)]⟩)) ⟨by simp, by simp⟩ ?_
  rintro tm ⟨h3, h6⟩
  have n2 := hE2.1
  refine wpK_range2 (f := 81) (first := ⟨[]⟩) (cap := ⟨[.pointer (some ⟨W1.next, 0, none⟩)]⟩) (by simp [h6]) fun81 (fun W5 hn5 hW5 hdf hlp => ?_)
  have hE25 : Ext W2 W5 := ⟨by omega, fun b hb _ => hW5 b hb⟩
  have hV5 := (hV1.ext hE2).ext hE25
  have hE5 : Ext W W5 := (hE1.trans hE2).trans hE25
  have hmw : (memb 24 x).length ≤ 24 := memb_len 24 x
  refine (places1_wp (l := W2.next + 1) (bx := W1.next) (x := x) (fun left W' => Ext W W' ∧ W5.next ≤ W'.next ∧ W'.blocks.get (W2.next + 1) = W5.blocks.get (W2.next + 1) ∧ W'.blocks.get W2.next = W5.blocks.get W2.next ∧ left < 16777216 ∧
    ∃ v l0, memb 24 x = l0 ++ memb 24 left ∧ Var W' W.next 46 [v] ∧ GrowsN W' v l0.length (intsV l0) 3 1 (fun b => W5.next ≤ b)) (by omega) (fun left k W' hC hl hb1 hb2 => ?_) ⟨hE5, Nat.le_refl _, rfl, rfl, hx, _, [], rfl, hV5, .nil _ _ _ _⟩ (hB2.ext hE25)).mono ?_
  · obtain ⟨c1, c2, c3, c4, c5, v, l0, c6, c7, c8⟩ := hC
    have hl := c3.trans hlp
    have hk24 : k < 24 := by
      apply Classical.byContradiction
      intro hk
      rw [Nat.testBit_lt_two_pow (Nat.lt_of_lt_of_le (show left < 2 ^ 24 from c5) (Nat.pow_le_pow_right (by omega) (by omega)))] at hb1
      cases hb1
    refine ⟨tabs_ext hT h0 c1, _, _, _, _, _, _, _, _, _, _, tm.set 7 (.int .i64 (k : Nat)), hl, rfl, ?_⟩
    refine wpR ?_
    try simp only [wpK_assoc]
    refine wpK_reg1 (fun R hR => by simp []; exact hR) ?_
    refine ⟨rfl, _, _, _, _, _, _, _, _, hl, ?_⟩
    generalize hbz : (AObj.loop LoopState.busy _ _ _ _ _ _ _ _) = bz
    obtain ⟨Wb, hWb, hOb, hnb⟩ : ∃ Wb, Wb = W'.setObj (W2.next + 1) bz ∧ Only (fun b => b = W2.next + 1) W' Wb ∧ Wb.next = W'.next := ⟨_, rfl, setObj_only _ _ _, rfl⟩
    rw [← hWb]
    have hlb : Wb.blocks.get (W2.next + 1) = some ⟨bz, []⟩ := by rw [hWb, setObj_get, if_pos rfl]
    have c7b := c7.only hOb (by omega)
    have c8b := c8.only hOb (fun b _ hb e => by omega)
    have hl0 : l0.length ≤ 24 := by
      have := congrArg List.length c6
      rw [List.length_append] at this; omega
    obtain ⟨v', Wc, Wd, a1, a2, a3, a4, a5, a6, a7⟩ := Var.push (T := T0) (t := 46) (el := 3) (i := Tryd.t3) (it := Tryd.t46) (sz := 1) (by omega) und46 inf3 is3 z3 rfl inf46 is46 c8b c7b (o := 0) (by omega) (by simp) (u := [.int .i64 (k : Nat)]) rfl rfl (by rw [by3]; omega) (by omega)
    have a1 : aAppend T0 (Wb.newCells 3 [.int .i64 (k : Nat)]) [46, 46] [v, .slice (some ⟨Wb.next, 0, none⟩) 1 2] = some (v', Wc) := a1
    have hld := c7b.load1 (T := T0) und46 rfl (j := 0) (v := v) rfl
    refine wpK_block1 ?_
    try simp only [wpK_assoc]
    refine wpK_reg1 (fun R hR => by simp [h3, hld, bs46, a1, a2]; exact hR) ?_
    simp only [leaves_normal]
    have hdl : Wd.blocks.get (W2.next + 1) = some ⟨bz, []⟩ := by rw [a7.2 _ (by omega) (by omega)]; exact hlb
    subst hbz
    refine ⟨_, _, _, _, _, _, _, _, _, hdl, rfl, ?_⟩
    have hOz := fun o => setObj_only Wd (W2.next + 1) o
    have hml := memb_low hb1 hb2 24
    rw [if_pos hk24] at hml
    refine ⟨⟨by rw [setObj_next]; have := c1.1; omega, fun b hb hk => ?_⟩, by rw [setObj_next]; omega, by rw [setObj_get, if_pos rfl]; exact hlp.symm, ?_, ?_, v', l0 ++ [(k : Int)], ?_, ?_, ?_⟩
    · rw [setObj_get, if_neg (by omega), a7.2 b (by have := c1.1; omega) (by omega), hOb.2 b (by have := c1.1; omega) (by omega)]
      exact c1.2 b hb hk
    · rw [setObj_get, if_neg (by omega), a7.2 _ (by omega) (by omega), hOb.2 _ (by omega) (by omega)]; exact c4
    · have := dropLow_lt (x := left) (fun e => by subst e; simp at hb1)
      omega
    · rw [c6, hml]; simp
    · exact (by simpa using a5 : Var Wd W.next 46 [v']).only (hOz _) (by omega)
    · have e1 : (l0 ++ [(k : Int)]).length = l0.length + 1 := by simp
      have e2 : intsV (l0 ++ [(k : Int)]) = intsV l0 ++ [.int .i64 (k : Nat)] := by simp [intsV]
      rw [e1, e2]
      exact (a6.only (K' := fun b => b = W2.next + 1) (hOz _) (fun b _ hb e => by omega)).mono (K' := fun b => W5.next ≤ b) (fun b hb => by omega)
  · rintro _ W6 ⟨c1, c2, c3, c4, c5, v, l0, c6, c7, c8⟩
    have hl6 := c3.trans hlp
    rw [memb_empty 24 0 (fun j _ => by simp), List.append_nil] at c6
    subst c6
    refine ⟨_, _, _, _, _, _, _, _, _, hl6, (fun h => by cases h), ?_⟩
    show WpK T0 ⟨58, none⟩ _ _ _ _
    generalize hex : (AObj.loop LoopState.exhausted _ _ _ _ _ _ _ _) = ex
    obtain ⟨W7, hW7, hO7, hn7⟩ : ∃ W7, W7 = W6.setObj (W2.next + 1) ex ∧ Only (fun b => b = W2.next + 1) W6 W7 ∧ W7.next = W6.next := ⟨_, rfl, setObj_only _ _ _, rfl⟩
    rw [← hW7]
    clear hW7 hex
    have c77 := c7.only hO7 (by omega)
    have hld := c77.load1 (T := T0) und46 rfl (j := 0) (v := v) rfl
    try simp only [wpK_assoc]
    refine wpK_reg (fun R hR => by simp [h3, hld]; exact hR) ?_
    have hdf7 : W7.blocks.get W2.next = some ⟨.deferred (some []), []⟩ := by rw [hO7.2 _ (by omega) (by omega), c4]; exact hdf
    refine wpK_ret ⟨.inr rfl, W7.setObj W2.next (.deferred none), ⟨W2.next, rfl, hdf7, rfl⟩, [v], by simp, ⟨by rw [setObj_next]; have := c1.1; omega, fun b hb hk => ?_⟩, ?_⟩
    · rw [setObj_get, if_neg (by omega), hO7.2 b (by have := c1.1; omega) (by omega)]; exact c1.2 b hb hk
    · exact ((c8.only hO7 (fun b _ hb e => by omega)).only (K' := fun b => b = W2.next) (setObj_only _ _ _) (fun b _ hb e => by omega)).mono (fun b hb => by omega)

end Go.Proofs.YtkipaffjmcmclaaDoor

open Go Go.Eng
namespace Go.Proofs.YtkipaffjmcmclaaDoor
attribute [local congr] undef_congr WpK.congr WpS.congr WpL.congr WpC.congr WpF.congr gotS.congr callS.congr nextS.congr wantS.congr condS.congr
attribute [local irreducible] WpK
attribute [local simp] WpDr_nil WpDr_cons atS_some dwantS_true dwantS_false kindS_light kindS_float kindS_heavy lightS_value floatS_some heavyS_value heavyS_skip heavyS_enter dcallS_some doneS_eq
  isLight isFloat isPlain dLook testBit_dec dChain dLights_nil dLights_skip dLights_one dLight_nil dLight_cons dFreshes_nil dFreshes_one oneF_none oneF_some dFresh_nil dFresh_cons oneL_some oneW_true oneW_false sameV_value dPut dMay valEq arrEq listEq List.getElem?_cons Tr.get_nil dEnd
attribute [local simp] WpS_nil WpS_cons isDefer undef_false wantS_true wantS_false nextS_value nextS_skip nextS_enter callS_some gotS_some aWanted aOp aEvalF aEval opMove opAssign opPick aVal flat flat1 AAct.put opBinOp opConvert opIndex Tr.get_set Tr.get_lay aBin aResults tupled
  aCall aVals aCallB blt_dec ble_dec beq_dec aBinI_add aBinI_sub aBinI_lss aBinI_leq aBinI_gtr aBinI_geq aBinI_eql aBinI_neq index_str len_str len_slice Nat.beq_refl und2 und3 und4 und5 und39 und76 und82 und116 und22 und29 und25 und33 und46 und43 und49 und111 und113 field152 field156_0 field156_1 field156_2 field156_3 field156_4
  field78 field106 field24 field31 field27 field35 field108 field109 opBox opLoad opFieldAddr opIndexAddr acells aAddr opExtract aExtract opUnOp opAlloc opStore opMakeInterface opNilCheck opBuild aParts opBuildSlice aValW
set_option maxHeartbeats 4000000
set_option linter.unusedSimpArgs false
set_option linter.unusedVariables false
/-! ### a greatest flow is a least cut -/
/-- what may go from a set to the other places -/
def capL (T : Nat) (L : List Stp) (rm : Nat → Int) : Nat → Int
  | 0 => 0
  | i + 1 => capL T L rm i + (if T.testBit (stp L i).a && !T.testBit (stp L i).b then rm (2 * i) else 0) + (if T.testBit (stp L i).b && !T.testBit (stp L i).a then rm (2 * i + 1) else 0)
/-- what goes out of each place of a set, all together -/
def sumT (T : Nat) (g : Nat → Int) : Nat → Int
  | 0 => 0
  | n + 1 => sumT T g n + (if T.testBit n then g n else 0)
theorem sumT_add (T : Nat) (g h : Nat → Int) : ∀ n, sumT T (fun q => g q + h q) n = sumT T g n + sumT T h n
  | 0 => rfl
  | n + 1 => by
    rw [sumT, sumT, sumT, sumT_add T g h n]
    split <;> omega
theorem sumT_congr {T : Nat} {g h : Nat → Int} : ∀ {n : Nat}, (∀ q, q < n → g q = h q) → sumT T g n = sumT T h n
  | 0, _ => rfl
  | n + 1, he => by
    rw [sumT, sumT, sumT_congr (fun q hq => he q (by omega)), he n (by omega)]
theorem sumT_zero (T : Nat) : ∀ n, sumT T (fun _ => 0) n = 0
  | 0 => rfl
  | n + 1 => by rw [sumT, sumT_zero T n]; split <;> rfl
theorem sumT_one (T a : Nat) (f : Int) : ∀ n, sumT T (fun q => if a = q then f else 0) n = if a < n && T.testBit a then f else 0
  | 0 => by simp [sumT]
  | n + 1 => by
    rw [sumT, sumT_one T a f n]
    by_cases e : a = n
    · subst e
      cases T.testBit a <;> simp
    · have e1 : (a < n + 1) = (a < n) := propext ⟨fun _ => by omega, fun _ => by omega⟩
      simp only [e1, if_neg e]
      split <;> split <;> simp
/-- within a set nothing is lost -/
def inner (T : Nat) (L : List Stp) (rm : Nat → Int) : Nat → Int
  | 0 => 0
  | i + 1 => inner T L rm i + (if T.testBit (stp L i).a && T.testBit (stp L i).b then rm (2 * i) + rm (2 * i + 1) else 0)
theorem sum_out {T : Nat} {L : List Stp} {rm : Nat → Int} (hL : StpsOk L) : ∀ i, i ≤ L.length → sumT T (fun q => outN L rm q i) 24 = capL T L rm i + inner T L rm i
  | 0, _ => by
    have : (fun q => outN L rm q 0) = fun _ => 0 := rfl
    rw [this, sumT_zero]; rfl
  | i + 1, hi => by
    have h1 := hL.ok i (by omega)
    have e : sumT T (fun q => outN L rm q (i + 1)) 24 = sumT T (fun q => outN L rm q i) 24 + sumT T (fun q => if (stp L i).a = q then rm (2 * i) else 0) 24 + sumT T (fun q => if (stp L i).b = q then rm (2 * i + 1) else 0) 24 := by
      rw [← sumT_add, ← sumT_add]
      refine sumT_congr (fun q _ => ?_)
      rw [outN, Int.add_assoc]
    rw [e, sum_out hL i (by omega), sumT_one, sumT_one, capL, inner]
    have e1 : decide ((stp L i).a < 24) = true := decide_eq_true h1.1
    have e2 : decide ((stp L i).b < 24) = true := decide_eq_true h1.2.1
    rw [e1, e2]
    cases T.testBit (stp L i).a <;> cases T.testBit (stp L i).b <;> simp <;> omega
theorem inner_congr {T : Nat} {L : List Stp} {rm rm' : Nat → Int} : ∀ {i : Nat}, (∀ y, y < i → rm (2 * y) + rm (2 * y + 1) = rm' (2 * y) + rm' (2 * y + 1)) → inner T L rm i = inner T L rm' i
  | 0, _ => rfl
  | i + 1, h => by rw [inner, inner, inner_congr (fun y hy => h y (by omega)), h i (by omega)]
theorem capL_nn {T : Nat} {L : List Stp} {rm : Nat → Int} : ∀ {i : Nat}, (∀ y, y < 2 * i → 0 ≤ rm y) → 0 ≤ capL T L rm i
  | 0, _ => by simp [capL]
  | i + 1, h => by
    have h1 := capL_nn (T := T) (L := L) (rm := rm) (i := i) (fun y hy => h y (by omega))
    have h2 := h (2 * i) (by omega)
    have h3 := h (2 * i + 1) (by omega)
    rw [capL]; split <;> split <;> omega
/-- nothing may go: each half that leads out is full -/
theorem capL_zero {T : Nat} {L : List Stp} {rm : Nat → Int} : ∀ {i : Nat}, (∀ y, y < 2 * i → 0 ≤ rm y) → (capL T L rm i = 0 ↔ ∀ y, y < 2 * i → T.testBit (hFrom L y) = true → T.testBit (hTo L y) = false → rm y = 0)
  | 0, _ => by simp [capL]
  | i + 1, h => by
    have h0 := capL_nn (T := T) (L := L) (rm := rm) (i := i) (fun y hy => h y (by omega))
    have h1 := capL_zero (T := T) (L := L) (rm := rm) (i := i) (fun y hy => h y (by omega))
    have h2 := h (2 * i) (by omega)
    have h3 := h (2 * i + 1) (by omega)
    have g1 : hFrom L (2 * i) = (stp L i).a := by unfold hFrom; rw [if_pos (by omega), show 2 * i / 2 = i from by omega]
    have g2 : hFrom L (2 * i + 1) = (stp L i).b := by unfold hFrom; rw [if_neg (by omega), show (2 * i + 1) / 2 = i from by omega]
    have g3 : hTo L (2 * i) = (stp L i).b := by unfold hTo; rw [if_pos (by omega), show 2 * i / 2 = i from by omega]
    have g4 : hTo L (2 * i + 1) = (stp L i).a := by unfold hTo; rw [if_neg (by omega), show (2 * i + 1) / 2 = i from by omega]
    rw [capL]
    constructor
    · intro he y hy hf ht
      have hz : capL T L rm i = 0 := by split at he <;> split at he <;> omega
      by_cases e1 : y = 2 * i
      · subst e1; rw [g1] at hf; rw [g3] at ht; rw [hf, ht] at he; simp at he; omega
      · by_cases e2 : y = 2 * i + 1
        · subst e2; rw [g2] at hf; rw [g4] at ht; rw [hf, ht] at he; simp at he; omega
        · exact h1.1 hz y (by omega) hf ht
    · intro hall
      rw [h1.2 (fun y hy => hall y (by omega))]
      have q1 := hall (2 * i) (by omega)
      have q2 := hall (2 * i + 1) (by omega)
      rw [g1, g3] at q1
      rw [g2, g4] at q2
      cases ha : T.testBit (stp L i).a <;> cases hb : T.testBit (stp L i).b <;> simp [-testBit_dec, ha, hb] at q1 q2 ⊢ <;> omega
theorem flip_two (i : Nat) : flip (2 * i) = 2 * i + 1 := by unfold flip; rw [if_pos (by omega)]
/-- what has gone has gone over the cut -/
theorem cut_gone {L : List Stp} {s t T : Nat} {rm rm' : Nat → Int} {x : Int} (hL : StpsOk L) (hs : s < 24) (ht : t < 24) (hR : Rooms L rm) (hR' : Rooms L rm') (hG : Gone L s t rm rm' x) (h1 : T.testBit s = true) (h2 : T.testBit t = false) :
    capL T L rm' L.length = capL T L rm L.length - x := by
  have e1 := sum_out (T := T) (rm := rm) hL L.length (Nat.le_refl _)
  have e2 := sum_out (T := T) (rm := rm') hL L.length (Nat.le_refl _)
  have e3 : inner T L rm' L.length = inner T L rm L.length := inner_congr (fun y hy => by
    have a := hR'.sum (2 * y) (by omega)
    have b := hR.sum (2 * y) (by omega)
    rw [flip_two] at a b
    omega)
  have e4 : sumT T (fun q => outN L rm' q L.length) 24 = sumT T (fun q => outN L rm q L.length) 24 + sumT T (fun q => if s = q then -x else 0) 24 + sumT T (fun q => if t = q then x else 0) 24 := by
    rw [← sumT_add, ← sumT_add]
    refine sumT_congr (fun q _ => ?_)
    rw [hG q]; split <;> split <;> omega
  rw [sumT_one, sumT_one, h1, h2] at e4
  simp [hs, ht] at e4
  omega
/-- the greatest flow: its value is at most each cut's capacity; it is that of the near places, which are in each cut of that capacity -/
theorem Filled.cuts {L : List Stp} {s t : Nat} {rm rm' : Nat → Int} {x : Int} {lv : Nat → Nat} (h : Filled L s t rm x rm' lv) (hL : StpsOk L) (hs : s < 24) (ht : t < 24) (hR : Rooms L rm) :
    (∀ T, T.testBit s = true → T.testBit t = false → x ≤ capL T L rm L.length ∧ (x = capL T L rm L.length → ∀ q, q < 24 → 0 < lv q → T.testBit q = true)) ∧ x = capL (nearS lv 24) L rm L.length ∧ (nearS lv 24).testBit s = true ∧ (nearS lv 24).testBit t = false := by
  have hnn := fun (i : Nat) (hi : i = L.length) y (hy : y < 2 * i) => h.rooms.nn y (by omega)
  have hn := hnn L.length rfl
  have n1 : (nearS lv 24).testBit s = true := by rw [nearS_bit, h.lev.src]; simp [hs]
  have n2 : (nearS lv 24).testBit t = false := by rw [nearS_bit, h.snk]; simp
  refine ⟨fun T h1 h2 => ?_, ?_, n1, n2⟩
  · have hc := cut_gone hL hs ht hR h.rooms h.gone h1 h2
    have h0 := capL_nn (T := T) (L := L) hn
    refine ⟨by omega, fun he => ?_⟩
    have hz := (capL_zero (T := T) (L := L) hn).1 (by omega)
    have key : ∀ n q, q < 24 → 0 < lv q → lv q ≤ n → T.testBit q = true := by
      intro n
      induction n with
      | zero => intro q _ h3 h4; omega
      | succ n ih =>
        intro q hq h3 h4
        rcases h.lev.pre q hq h3 with rfl | ⟨y, hy, hto, hr, hf1, hf2⟩
        · exact h1
        · have hb := (hL.to hy).2.1
          have := ih _ hb hf1 (by omega)
          cases hT : T.testBit q with
          | true => rfl
          | false => exact absurd (hz y hy this (by rw [hto]; exact hT)) hr
    exact fun q hq h3 => key (lv q) q hq h3 (Nat.le_refl _)
  · have hc := cut_gone hL hs ht hR h.rooms h.gone n1 n2
    have hz := (capL_zero (T := nearS lv 24) (L := L) hn).2 (fun y hy h3 h4 => by
      apply Classical.byContradiction
      intro hr
      have hb := hL.to hy
      rw [nearS_bit] at h3 h4
      simp [hb.1, hb.2.1] at h3 h4
      have := h.closed y hy h3 hr
      omega)
    omega
theorem atP_one (s q : Nat) : atP (1 <<< s) s q = q := by
  unfold atP; rw [one_bit]; split
  · rename_i h; simpa using h
  · rfl
theorem capL_Q (T : Nat) (s : Nat) (l : List Quad) : ∀ i, i ≤ l.length → capL T (layL (1 <<< s) s l) (hCap (layL (1 <<< s) s l)) i = capQ T (l.take i)
  | 0, _ => by simp [capL, capQ]
  | i + 1, hi => by
    have ha : l[i]? = some l[i] := List.getElem?_eq_getElem (by omega)
    generalize l[i] = a at ha
    rw [capL, capL_Q T s l i (by omega), capQ_take ha, stp_lay ha]
    have g1 : hCap (layL (1 <<< s) s l) (2 * i) = a.2.2.1 := by unfold hCap; rw [if_pos (by omega), show 2 * i / 2 = i from by omega, stp_lay ha]
    have g2 : hCap (layL (1 <<< s) s l) (2 * i + 1) = a.2.2.2 := by unfold hCap; rw [if_neg (by omega), show (2 * i + 1) / 2 = i from by omega, stp_lay ha]
    rw [g1, g2]
    simp only [atP_one, out1]
    omega
theorem layL_len (f s : Nat) (l : List Quad) : (layL f s l).length = l.length := by simp [layL]

end Go.Proofs.YtkipaffjmcmclaaDoor

open Go Go.Eng
namespace Go.Proofs.YtkipaffjmcmclaaDoor
attribute [local congr] undef_congr WpK.congr WpS.congr WpL.congr WpC.congr WpF.congr gotS.congr callS.congr nextS.congr wantS.congr condS.congr
attribute [local irreducible] WpK
attribute [local simp] WpDr_nil WpDr_cons atS_some dwantS_true dwantS_false kindS_light kindS_float kindS_heavy lightS_value floatS_some heavyS_value heavyS_skip heavyS_enter dcallS_some doneS_eq
  isLight isFloat isPlain dLook testBit_dec dChain dLights_nil dLights_skip dLights_one dLight_nil dLight_cons dFreshes_nil dFreshes_one oneF_none oneF_some dFresh_nil dFresh_cons oneL_some oneW_true oneW_false sameV_value dPut dMay valEq arrEq listEq List.getElem?_cons Tr.get_nil dEnd
attribute [local simp] WpS_nil WpS_cons isDefer undef_false wantS_true wantS_false nextS_value nextS_skip nextS_enter callS_some gotS_some aWanted aOp aEvalF aEval opMove opAssign opPick aVal flat flat1 AAct.put opBinOp opConvert opIndex Tr.get_set Tr.get_lay aBin aResults tupled
  aCall aVals aCallB blt_dec ble_dec beq_dec aBinI_add aBinI_sub aBinI_lss aBinI_leq aBinI_gtr aBinI_geq aBinI_eql aBinI_neq index_str len_str len_slice Nat.beq_refl und2 und3 und4 und5 und39 und76 und82 und116 und22 und29 und25 und33 und46 und43 und49 und111 und113 field152 field156_0 field156_1 field156_2 field156_3 field156_4
  field78 field106 field24 field31 field27 field35 field108 field109 opBox opLoad opFieldAddr opIndexAddr acells aAddr opExtract aExtract opUnOp opAlloc opStore opMakeInterface opNilCheck opBuild aParts opBuildSlice aValW
set_option maxHeartbeats 4000000
set_option linter.unusedSimpArgs false
set_option linter.unusedVariables false
/-! ### the flow that is taken -/
def flowOf (rm : Nat → Int) (n : Nat) : List Int := (List.range n).map fun i => rm (2 * i + 1)
def flowTo (rm : Nat → Int) (n i : Nat) : List Int := (List.range n).map fun j => if j < i then rm (2 * j + 1) else 0
theorem flowTo_len (rm : Nat → Int) (n i : Nat) : (flowTo rm n i).length = n := by simp [flowTo]
theorem flowTo_set (rm : Nat → Int) (n i : Nat) (hi : i < n) : (flowTo rm n i).set i (rm (2 * i + 1)) = flowTo rm n (i + 1) := by
  apply List.ext_getElem?
  intro j
  by_cases hj : j < n
  · by_cases e : j = i
    · subst e
      rw [List.getElem?_set_self (by rw [flowTo_len]; exact hj)]
      simp [flowTo, List.getElem?_range hj]
    · rw [List.getElem?_set_ne (fun x => e x.symm)]
      have : (j < i + 1) = (j < i) := propext ⟨fun _ => by omega, fun _ => by omega⟩
      simp [flowTo, List.getElem?_range hj, this]
  · rw [List.getElem?_eq_none (by rw [List.length_set, flowTo_len]; omega), List.getElem?_eq_none (by rw [flowTo_len]; omega)]
theorem rep_ints : ∀ n, intsV (List.replicate n 0) = rep [.int .i64 0] n
  | 0 => rfl
  | n + 1 => by
    show intsV (List.replicate (n + 1) 0) = [.int .i64 0] ++ rep [.int .i64 0] n
    rw [← rep_ints n, List.replicate_succ]; rfl
theorem flowTo_zero (rm : Nat → Int) (n : Nat) : intsV (flowTo rm n 0) = rep [.int .i64 0] n := by
  have : flowTo rm n 0 = List.replicate n 0 := by
    rw [flowTo, List.eq_replicate_iff]
    simp
  rw [this, rep_ints]
theorem flowTo_all (rm : Nat → Int) (n : Nat) : flowTo rm n n = flowOf rm n := by
  apply List.map_congr_left
  intro j hj
  rw [if_pos (by simpa using hj)]
theorem taken_wp {W : AW} {p B : Nat} {L : List Stp} {s t : Nat} {rm : Nat → Int} {lv : Nat → Nat} (h : Wk W p B L s t rm lv) (h200 : L.length ≤ 200) :
    WpF T0 56 [.pointer (some ⟨p, 0, none⟩), .int .i64 (L.length : Nat)] W (fun v W' => Ext W W' ∧ v = .slice (some ⟨W.next, 0, none⟩) L.length (2 * L.length) ∧ Var W' W.next 2 (intsV (flowOf rm L.length))) := by
  refine wpF fun56 rfl ?_
  have hm := mk43 W L.length (by omega)
  rw [← flowTo_zero rm] at hm
  obtain ⟨W1, hW1, hE1, hn1, hV1⟩ : ∃ W1, W1 = W.newCells 2 (intsV (flowTo rm L.length 0)) ∧ Ext W W1 ∧ W1.next = W.next + 1 ∧ Var W1 W.next 2 (intsV (flowTo rm L.length 0)) := ⟨_, rfl, .newCells _ _ _, rfl, Var.new _ _ _⟩
  rw [← hW1] at hm
  try simp only [wpK_assoc]
  refine wpK_reg (fun R hR => by simp []; exact hR) ?_
  try simp only [wpK_assoc]
  refine wpK_reg (fun R hR => by simp [hm, opMakeSlice, aValW]; exact hR) ?_
  try simp only [wpK_assoc]
  refine wpK_reg (fun R hR => by simp [len_slice und43]; exact hR) ?_
  try simp only [wpK_assoc]
  refine wpK_while (I := fun k A W' => A.n = 28 ∧ A.defers = [] ∧ A.tmps.get 0 = some (.pointer (some ⟨p, 0, none⟩)) ∧ A.tmps.get 5 = some (.slice (some ⟨W.next, 0, none⟩) L.length (2 * L.length)) ∧ A.tmps.get 10 = some (.int .i64 L.length) ∧ Ext W W' ∧ ∃ i : Nat, k = L.length - i ∧ i ≤ L.length ∧ A.tmps.get 11 = some (.int .i64 i) ∧ Var W' W.next 2 (intsV (flowTo rm L.length i)))
    (J := fun A W' => A.n = 28 ∧ A.defers = [] ∧ A.tmps.get 0 = some (.pointer (some ⟨p, 0, none⟩)) ∧ A.tmps.get 5 = some (.slice (some ⟨W.next, 0, none⟩) L.length (2 * L.length)) ∧ A.tmps.get 10 = some (.int .i64 L.length) ∧ Ext W W' ∧ Var W' W.next 2 (intsV (flowOf rm L.length)))
    (Rt := fun _ _ => False) (k := L.length) ?_ ?_ ?_ ?_
  · exact ⟨rfl, rfl, by simp, by simp, by simp, hE1, 0, by simp, by omega, by simp, hV1⟩
  · rintro k ⟨tm, n, ds⟩ W3 ⟨hn, hd, h0, h5, h10, hE3, i, hk, hi, h11, hV3⟩ Q' hJ hRt hI
    simp only at hn hd h0 h5 h10
    subst hn; subst hd
    simp only at h11
    try simp only [wpK_assoc]
    refine wpK_reg (fun R hR => by simp [h10, h11]; exact hR) ?_
    by_cases hlt : i < L.length
    · try simp only [wpK_assoc]
      first | refine wpK_onT (by simp [hlt]) ?_ | refine wpK_outT (by simp [hlt]) ?_ | refine wpK_condT (by simp [hlt]) ?_ | refine wpK_endT (by simp [hlt]) ?_
      have hx := indexAddr_slice (T := T0) und43 sz2 (b := W.next) (o := 0) (c := 2 * L.length) (k := .i64) hlt
      rw [Nat.mul_one] at hx
      have hr := ((h.ext hE3).has.1 (2 * i + 1) (by omega) (by omega)).2
      have hl := load_of und2 rfl hr
      have hix := ix153 p 0 (2 * i + 1) (by omega)
      obtain ⟨W4, s1, s2, s3, s4⟩ := hV3.store (T := T0) (t := 2) (v := .int .i64 (rm (2 * i + 1))) (o := i) inf2 (by rw [is2]; rfl) (by rw [intsV_len, flowTo_len]; show i + 1 ≤ L.length; omega) rfl
      have s4 : Var W4 W.next 2 ((intsV (flowTo rm L.length i)).take i ++ [.int .i64 (rm (2 * i + 1))] ++ (intsV (flowTo rm L.length i)).drop (i + 1)) := s4
      rw [set_ints _ _ _ (by rw [flowTo_len]; exact hlt), flowTo_set rm _ _ hlt] at s4
      have w1 : IntKind.i64.wrap (2 * (i : Int)) = 2 * (i : Int) := IntWalk.i64_in _ (by omega)
      have w2 : IntKind.i64.wrap (2 * (i : Int) + 1) = ((2 * i + 1 : Nat) : Int) := by rw [IntWalk.i64_in _ (by omega)]; omega
      have e : (2 * i + 1) * 2 + 1 = 2 * (2 * i + 1) + 1 := by omega
      rw [← e] at hl
      generalize hy : 2 * i + 1 = y at hix hl w2 s1
      refine wpK_block ?_
      try simp only [wpK_assoc]
      refine wpK_reg (fun R hR => by simp [h11]; exact hR) ?_
      try simp only [wpK_assoc]
      refine wpK_reg1 (fun R hR => by simp [h0, h5, hx, nilck, aBinI_mul, w1, w2, hix, hl, s1]; exact hR) ?_
      try simp only [wpK_assoc]
      refine wpK_reg1 (fun R hR => by simp [h11]; exact hR) ?_
      have n3 := hE3.1
      exact hI (k - 1) _ _ (by omega) ⟨rfl, rfl, by simp [h0, h5, h10], by simp [h0, h5, h10], by simp [h0, h5, h10], ⟨by omega, fun b hb hk => by rw [s3.2 b (by omega) (by omega)]; exact hE3.2 b hb hk⟩, i + 1, by omega, by omega, by simp; exact i64_succ i (by omega), s4⟩
    · have e : i = L.length := by omega
      rw [e, flowTo_all] at hV3
      try simp only [wpK_assoc]
      first | refine wpK_onF (by simp [e]) ?_ | refine wpK_out (by simp [e]) ?_ | refine wpK_condF (by simp [e]) ?_ | refine wpK_endF (by simp [e]) (wpK_skip ?_) | refine wpK_endF (by simp [e]) ?_
      exact hJ _ _ ⟨rfl, rfl, by simp [h0, h5, h10], by simp [h0, h5, h10], by simp [h0, h5, h10], hE3, hV3⟩
  · rintro A' W' hf; exact hf.elim
  · rintro ⟨tm, n, ds⟩ W3 ⟨hn, hd, h0, h5, h10, hE3, hV3⟩
    simp only at hn hd h0 h5 h10
    subst hn; subst hd
    try simp only [wpK_assoc]
    refine wpK_reg (fun R hR => by simp [h5]; exact hR) ?_
    exact wpK_ret ⟨.inr rfl, rfl, [.slice (some ⟨W.next, 0, none⟩) L.length (2 * L.length)], by simp, hE3, rfl, hV3⟩

end Go.Proofs.YtkipaffjmcmclaaDoor
