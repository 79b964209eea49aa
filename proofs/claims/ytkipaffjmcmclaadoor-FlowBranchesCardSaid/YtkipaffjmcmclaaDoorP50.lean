import Derived.Test.YtkipaffjmcmclaaDoorP49
import Derived.Test.YtkipaffjmcmclaaDoorEngSt
import Derived.Test.YtkipaffjmcmclaaDoorEngWy
import Derived.Test.YtkipaffjmcmclaaDoorEngEm
import Derived.Test.YtkipaffjmcmclaaDoorEngBt
import Derived.Test.YtkipaffjmcmclaaDoorTie
import Derived.Test.YtkipaffjmcmclaaDoorCards
import Derived.SevenTiedAt
import Derived.Lib.SmallJoins
import Derived.Test.YtkipaffjmcmclaaDoorEngRf
set_option linter.unusedSimpArgs false
set_option linter.unusedVariables false
set_option linter.unusedSectionVars false
open Go Go.Eng
namespace Go.Proofs.YtkipaffjmcmclaaDoor
attribute [local congr] undef_congr WpK.congr WpS.congr WpL.congr WpC.congr WpF.congr gotS.congr callS.congr nextS.congr wantS.congr condS.congr
attribute [local irreducible] WpK
attribute [local simp] WpDr_nil WpDr_cons atS_some dwantS_true dwantS_false kindS_light kindS_float kindS_heavy lightS_value floatS_some heavyS_value heavyS_skip heavyS_enter dcallS_some doneS_eq
  isLight isFloat isPlain dLook testBit_dec dChain dLights_nil dLights_skip dLights_one dLight_nil dLight_cons dFreshes_nil dFreshes_one oneF_none oneF_some dFresh_nil dFresh_cons oneL_some oneW_true oneW_false sameV_value dPut dMay valEq arrEq listEq List.getElem?_cons Tr.get_nil dEnd
attribute [local simp] WpS_nil WpS_cons isDefer undef_false wantS_true wantS_false nextS_value nextS_skip nextS_enter callS_some gotS_some aWanted aOp aEvalF aEval opMove opAssign opPick aVal flat flat1 AAct.put opBinOp opConvert opIndex Tr.get_set Tr.get_lay aBin aResults tupled
  aCall aVals aCallB blt_dec ble_dec beq_dec aBinI_add aBinI_sub aBinI_lss aBinI_leq aBinI_gtr aBinI_geq aBinI_eql aBinI_neq index_str len_str len_slice Nat.beq_refl und2 und3 und4 und5 und39 und76 und82 und116 und22 und29 und25 und33 und46 und43 und49 und111 und113 field152 field156_0 field156_1 field156_2 field156_3 field156_4
  field78 field106 field24 field31 field27 field35 field108 field109 opBox opLoad opFieldAddr opIndexAddr acells aAddr opExtract aExtract opUnOp opAlloc opStore opMakeInterface opNilCheck opBuild aParts opBuildSlice aValW
set_option maxHeartbeats 4000000
set_option linter.unusedSimpArgs false
set_option linter.unusedVariables false
def layL (from_ src : Nat) (l : List Quad) : List Stp := l.map fun a => ⟨atP from_ src a.1.toNat, atP from_ src a.2.1.toNat, a.2.2.1, a.2.2.2⟩
theorem stp_lay {from_ src : Nat} {l : List Quad} {i : Nat} {a : Quad} (h : l[i]? = some a) : stp (layL from_ src l) i = ⟨atP from_ src a.1.toNat, atP from_ src a.2.1.toNat, a.2.2.1, a.2.2.2⟩ := by
  unfold stp layL; rw [List.getElem?_map, h]; rfl
theorem atP_lt {from_ src q : Nat} (hs : src < 24) (hq : q < 24) : atP from_ src q < 24 := by unfold atP; split <;> assumption
theorem layL_ok {P : Int} {l : List Quad} (h : PlanIn P l) {from_ src : Nat} (hs : src < 24) : StpsOk (layL from_ src l) := by
  obtain ⟨h2, h24, h200⟩ := h.size
  refine ⟨by simp [layL]; omega, fun i hi => ?_⟩
  have hi' : i < l.length := by simpa [layL] using hi
  rw [stp_lay (List.getElem?_eq_getElem hi')]
  have := h.step (List.getElem_mem hi')
  generalize l[i] = a at this
  obtain ⟨a1, a2, c, d⟩ := a
  simp only at this ⊢
  exact ⟨atP_lt hs (by omega), atP_lt hs (by omega), by omega, by omega, by omega, by omega⟩
theorem cap_rooms {L : List Stp} (h : StpsOk L) : Rooms L (hCap L) := ⟨fun y hy => (h.to hy).2.2.1, fun _ _ => rfl⟩
theorem tabs_ext {W W' : AW} (h : tabsIn T0 T0.tabs W = true) (h0 : 0 < W.next) (he : Ext W W') : tabsIn T0 T0.tabs W' = true := tabsIn_only h (fun t ht => he.2 t.name (by rw [tabs_name t ht]; exact h0) (fun x => x))
theorem build152 (x y : Int) : aBuild T0 152 [(0, .int .i64 x), (1, .int .i64 y)] = some (.agg ⟨[.int .i64 x, .int .i64 y]⟩) := by kernel_rfl
theorem fill46 (x : Int) : aFill (fun j => some (j, 1)) [.int .i64 0] [(0, .int .i64 x)] = some [.int .i64 x] := by kernel_rfl
theorem rep3 : rep [Value.int .i64 0] 1 = [.int .i64 0] := rfl

theorem lay_wp {W : AW} {t : TypeId} {r : Value} {fz fs : FuncId} {P : Int} {l : List Quad} (h : PlanOf W t r fz fs P l) (hP : PlanIn P l) {from_ src to : Nat} (hf : from_ < 4294967296) (hs1 : from_.testBit src = true) (hs2 : ∀ j, j < src → from_.testBit j = false) (hs : src < 24) (hto : to < 24)
    (hT : tabsIn T0 T0.tabs W = true) (h0 : 0 < W.next) :
    WpF T0 53 [.iface t r, .int .u32 (from_ : Nat), .int .i64 (to : Nat)] W (fun v W' => Ext W W' ∧ ∃ p B, v = .pointer (some ⟨p, 0, none⟩) ∧ W.next ≤ p ∧ Wk W' p B (layL from_ src l) src to (hCap (layL from_ src l)) (fun _ => 0)) := by
  obtain ⟨fnz, hfz⟩ := h.hfz
  obtain ⟨fns, hfs⟩ := h.hfs
  have hnz := h.nz
  have hns := h.ns
  obtain ⟨hP2, hP24, hl200⟩ := hP.size
  have hL := layL_ok hP (from_ := from_) hs
  have hLlen : (layL from_ src l).length = l.length := by simp [layL]
  refine wpF fun53 rfl ?_
  obtain ⟨W1, hW1, hE1, hn1, hVF⟩ : ∃ W1, W1 = W.newCells 116 [.int .u32 (from_ : Nat)] ∧ Ext W W1 ∧ W1.next = W.next + 1 ∧ Var W1 W.next 116 [.int .u32 (from_ : Nat)] := ⟨_, rfl, .newCells _ _ _, rfl, Var.new _ _ _⟩
  have lF := hVF.load1 (T := T0) und116 rfl (j := 0) (v := .int .u32 (from_ : Nat)) rfl
  obtain ⟨i1, i2, i3, i4, i5⟩ := initW_get src to
  obtain ⟨W2, hW2, hE2, hn2, hV2⟩ : ∃ W2, W2 = W1.newCells 156 (initW src to) ∧ Ext W1 W2 ∧ W2.next = W.next + 2 ∧ Var W2 (W.next + 1) 156 (initW src to) := ⟨_, rfl, .newCells _ _ _, by rw [newCells_next, hn1], by rw [← hn1]; exact Var.new _ _ _⟩
  obtain ⟨W3, s1, s2, hE3, hVW⟩ := storeVar_new (T := T0) (W := W2) (t := 113) (v := .pointer (some ⟨W.next + 1, 0, none⟩)) (z := [.pointer none]) inf113 (by rw [is113]; rfl) (by rw [is113]; rfl) rfl
  have hVW : Var W3 (W.next + 2) 113 [.pointer (some ⟨W.next + 1, 0, none⟩)] := by rw [← hn2]; exact hVW
  try simp only [wpK_assoc]
  refine wpK_reg (fun R hR => by simp; rw [← hW1]; exact hR) ?_
  try simp only [wpK_assoc]
  refine wpK_regc (J := fun A' W' => W' = W3 ∧ A'.n = 97 ∧ A'.defers = [] ∧ A'.tmps.get 0 = some (.iface t r) ∧ A'.tmps.get 4 = some (.pointer (some ⟨W.next, 0, none⟩)) ∧ A'.tmps.get 7 = some (.pointer (some ⟨W.next + 2, 0, none⟩))) (fun R hR => ?_) ?_
  · simp [lF, aEnter, fun75, short_other, aCallV]
    rw [callS_none]
    refine (first_wp (tabs_ext hT h0 hE1) hf hs1 hs2).mono ?_
    rintro _ W' ⟨rfl, rfl⟩
    simp [build156, zero113]
    rw [← hW2]
    simp [hn1, hn2] at s1 ⊢
    simp [s1]
    apply hR
    exact ⟨rfl, rfl, rfl, by simp, by simp, by simp⟩
  rintro ⟨tm, n, ds⟩ W3' ⟨rfl, hn, hd, t0, t4, t7⟩
  simp only at hn hd t0 t4 t7
  subst hn; subst hd
  try simp only [wpK_assoc]
  refine wpK_reg (fun R hR => by simp [t4, t7, opMakeFunc]; exact hR) ?_
  have hE03 : Ext W W3' := (hE1.trans hE2).trans hE3
  try simp only [wpK_assoc]
  refine wpK_regc (J := fun A' W' => Ext W3' W' ∧ A'.n = 97 ∧ A'.defers = [] ∧ A'.tmps.get 0 = some (.iface t r) ∧ A'.tmps.get 4 = some (.pointer (some ⟨W.next, 0, none⟩)) ∧ A'.tmps.get 7 = some (.pointer (some ⟨W.next + 2, 0, none⟩)) ∧ A'.tmps.get 8 = some (.func (.func 76) ⟨[]⟩ ⟨[.pointer (some ⟨W.next, 0, none⟩), .pointer (some ⟨W.next + 2, 0, none⟩)]⟩) ∧ A'.tmps.get 10 = some (.int .i64 l.length)) (fun R hR => ?_) ?_
  · simp [t0, aCallI, h.meth, aMeth, hfz, short_other hnz]
    rw [callS_none]
    refine (h.size W3' hE03).mono ?_
    rintro _ W' ⟨hE, rfl⟩
    simp
    apply hR
    exact ⟨hE, rfl, rfl, by simp [t0], by simp [t4], by simp [t7], by simp, by simp⟩
  rintro ⟨tm, n, ds⟩ W4 ⟨hE4, hn, hd, t0, t4, t7, t8, t10⟩
  simp only at hn hd t0 t4 t7 t8 t10
  subst hn; subst hd
  try simp only [wpK_assoc]
  refine wpK_reg (fun R hR => by simp [t10]; exact hR) ?_
  have hn3 : W3'.next = W.next + 3 := by omega
  have hLay0 : LayW W4 (W.next + 1) (fun b => if b = W.next + 1 then 851 else 0) (fun q => outsL (layL from_ src l) q 0) (layL from_ src l) 0 src to := by
    have hV4 := (hV2.ext hE3).ext hE4
    obtain ⟨v1, c, v2, v3⟩ := hV4
    rw [i1] at v2 v3
    refine ⟨c, ⟨v2, fun o fl hf => ?_, by simp, fun b hb => ?_⟩, fun y hy => by omega, by rw [v3 _ (by omega)]; exact i3, by rw [v3 _ (by omega)]; exact i4, fun q hq => by rw [v3 _ (by omega)]; exact i5 q hq⟩
    · unfold Fg at hf
      split at hf
      · rename_i ho
        cases hf
        refine ⟨by omega, .slice none 0 0, ?_, ?_⟩
        · rw [v3 _ (by omega)]
          have := i2 (o - 800) (by omega)
          rwa [show 800 + (o - 800) = o from by omega] at this
        · exact .nil _ _ _ _
      · cases hf
    · have hb : (if b = W.next + 1 then 851 else 0) ≠ 0 := hb
      split at hb
      · have := hE4.1; omega
      · exact absurd rfl hb
  try simp only [wpK_assoc]
  refine wpK_while (I := fun k A' W' => A'.n = 97 ∧ A'.defers = [] ∧ A'.tmps.get 0 = some (.iface t r) ∧ A'.tmps.get 7 = some (.pointer (some ⟨W.next + 2, 0, none⟩)) ∧ A'.tmps.get 8 = some (.func (.func 76) ⟨[]⟩ ⟨[.pointer (some ⟨W.next, 0, none⟩), .pointer (some ⟨W.next + 2, 0, none⟩)]⟩) ∧ A'.tmps.get 27 = some (.int .i64 l.length) ∧
      Ext W W' ∧ Var W' W.next 116 [.int .u32 (from_ : Nat)] ∧ Var W' (W.next + 2) 113 [.pointer (some ⟨W.next + 1, 0, none⟩)] ∧ ∃ (i : Nat) (col : Nat → Nat), k = l.length - i ∧ i ≤ l.length ∧ A'.tmps.get 28 = some (.int .i64 i) ∧ (∀ b, col b ≠ 0 → W.next ≤ b) ∧ col W.next = 0 ∧ col (W.next + 2) = 0 ∧ LayW W' (W.next + 1) col (fun q => outsL (layL from_ src l) q i) (layL from_ src l) (2 * i) src to)
    (J := fun A' W' => A'.n = 97 ∧ A'.defers = [] ∧ A'.tmps.get 7 = some (.pointer (some ⟨W.next + 2, 0, none⟩)) ∧ Ext W W' ∧ Var W' (W.next + 2) 113 [.pointer (some ⟨W.next + 1, 0, none⟩)] ∧ ∃ col, LayW W' (W.next + 1) col (fun q => outsL (layL from_ src l) q l.length) (layL from_ src l) (2 * l.length) src to)
    (Rt := fun _ _ => False) (k := l.length) ?_ ?_ ?_ ?_
  · exact ⟨rfl, rfl, by simp [t0], by simp [t7], by simp [t8], by simp, hE03.trans hE4, ((hVF.ext hE2).ext hE3).ext hE4, hVW.ext hE4, 0, _, by simp, by simp, by simp, fun b hb => by
      have hb : (if b = W.next + 1 then 851 else 0) ≠ 0 := hb
      split at hb
      · omega
      · exact absurd rfl hb, by simp, by simp, hLay0⟩
  · clear hLay0 hE4 t0 t4 t7 t8 t10 hE03 hVW hE3 s1 s2 hV2 hE2 hVF hE1 lF hW1 hW2
    rintro k ⟨tm, n, ds⟩ W5 ⟨hn, hd, t0, t7, t8, t27, hE5, hVF, hVW, i, col, hk, hi, t28, hcol, hc1, hc2, hLay⟩ Q' hJ hRt hI
    simp only at hn hd t0 t7 t8 t27 t28
    subst hn; subst hd
    try simp only [wpK_assoc]
    refine wpK_reg (fun R hR => by simp [t27, t28]; exact hR) ?_
    by_cases hlt : i < l.length
    · refine wpK_onT (by simp [hlt]) ?_
      have ha : l[i]? = some l[i] := List.getElem?_eq_getElem hlt
      have hm : l[i] ∈ l := List.getElem_mem hlt
      generalize l[i] = a at ha hm
      have hst := hP.step hm
      have hstp := stp_lay (from_ := from_) (src := src) ha
      obtain ⟨a1, a2, c, d⟩ := a
      simp only at hst hstp
      obtain ⟨a1, rfl⟩ : ∃ a' : Nat, a1 = a' := ⟨a1.toNat, by omega⟩
      obtain ⟨a2, rfl⟩ : ∃ a' : Nat, a2 = a' := ⟨a2.toNat, by omega⟩
      simp only [Int.toNat_natCast] at hstp
      have hx24 := atP_lt (from_ := from_) hs (show a1 < 24 by omega)
      have hy24 := atP_lt (from_ := from_) hs (show a2 < 24 by omega)
      have hat1 : ∀ W', W'.Has W.next 0 (.int .u32 (from_ : Nat)) → W'.Has (W.next + 2) 0 (.pointer (some ⟨W.next + 1, 0, none⟩)) → W'.Has (W.next + 1) 824 (.int .i64 (src : Nat)) → WpF T0 76 [.int .i64 (a1 : Nat), .pointer (some ⟨W.next, 0, none⟩), .pointer (some ⟨W.next + 2, 0, none⟩)] W' (fun v W'' => W'' = W' ∧ v = .int .i64 (atP from_ src a1 : Nat)) := fun W' g1 g2 g3 => at_wp hf (by omega) g1 g2 g3
      have hat2 : ∀ W', W'.Has W.next 0 (.int .u32 (from_ : Nat)) → W'.Has (W.next + 2) 0 (.pointer (some ⟨W.next + 1, 0, none⟩)) → W'.Has (W.next + 1) 824 (.int .i64 (src : Nat)) → WpF T0 76 [.int .i64 (a2 : Nat), .pointer (some ⟨W.next, 0, none⟩), .pointer (some ⟨W.next + 2, 0, none⟩)] W' (fun v W'' => W'' = W' ∧ v = .int .i64 (atP from_ src a2 : Nat)) := fun W' g1 g2 g3 => at_wp hf (by omega) g1 g2 g3
      generalize atP from_ src a1 = x at hstp hx24 hat1
      generalize atP from_ src a2 = y at hstp hy24 hat2
      generalize hLL : layL from_ src l = L at hstp hLay hJ hI hL hLlen
      have hto0 : hTo L (2 * i) = y ∧ hCap L (2 * i) = c := by unfold hTo hCap; rw [if_pos (by omega), if_pos (by omega), show 2 * i / 2 = i from by omega, hstp]; exact ⟨rfl, rfl⟩
      have hto1 : hTo L (2 * i + 1) = x ∧ hCap L (2 * i + 1) = d := by unfold hTo hCap; rw [if_neg (by omega), if_neg (by omega), show (2 * i + 1) / 2 = i from by omega, hstp]; exact ⟨rfl, rfl⟩
      have hGG : ∀ q, outsL L q (i + 1) = upd (upd (fun q => outsL L q i) x (outsL L x i ++ [2 * i])) y (upd (fun q => outsL L q i) x (outsL L x i ++ [2 * i]) y ++ [2 * i + 1]) q := by
        intro q
        rw [outsL, hstp]
        unfold outs1 upd
        by_cases e1 : q = y
        · by_cases e2 : y = x
          · subst e1; subst e2; simp
          · subst e1
            simp only [if_true, if_neg e2, if_neg (fun e : x = q => e2 e.symm), List.nil_append]
        · by_cases e2 : q = x
          · subst e2; simp only [if_true, if_neg e1, if_neg (fun e : y = q => e1 e.symm), List.append_nil]
          · simp only [if_neg e1, if_neg e2, if_neg (fun e : x = q => e2 e.symm), if_neg (fun e : y = q => e1 e.symm), List.append_nil]
      obtain ⟨y0, hy0⟩ : ∃ y0, y0 = 2 * i := ⟨_, rfl⟩
      rw [← hy0] at hto0 hto1 hGG hLay
      have hwm : IntKind.i64.wrap (2 * (i : Int)) = (y0 : Int) := by rw [IntWalk.i64_in _ (by omega)]; omega
      have hwa : IntKind.i64.wrap ((y0 : Int) + 1) = ((y0 + 1 : Nat) : Int) := i64_succ _ (by omega)
      refine wpK_block ?_
      try simp only [wpK_assoc]
      refine wpK_reg (fun R hR => by simp [t28]; exact hR) ?_
      try simp only [wpK_assoc]
      refine wpK_regc (J := fun A' W' => Ext W5 W' ∧ A'.n = 97 ∧ A'.defers = [] ∧ A'.tmps.get 0 = some (.iface t r) ∧ A'.tmps.get 7 = some (.pointer (some ⟨W.next + 2, 0, none⟩)) ∧ A'.tmps.get 8 = some (.func (.func 76) ⟨[]⟩ ⟨[.pointer (some ⟨W.next, 0, none⟩), .pointer (some ⟨W.next + 2, 0, none⟩)]⟩) ∧ A'.tmps.get 27 = some (.int .i64 l.length) ∧ A'.tmps.get 28 = some (.int .i64 i) ∧ A'.tmps.get 11 = some (.int .i64 i) ∧
        A'.tmps.get 12 = some (.int .i64 (a1 : Nat)) ∧ A'.tmps.get 13 = some (.int .i64 (a2 : Nat)) ∧ A'.tmps.get 14 = some (.int .i64 c) ∧ A'.tmps.get 15 = some (.int .i64 d)) (fun R hR => ?_) ?_
      · simp [t0, aCallI, h.meth, aMeth, hfs, short_other hns]
        rw [callS_none]
        refine (h.step W5 hE5 i _ ha).mono ?_
        rintro _ W' ⟨hE, rfl⟩
        simp [tupQ]
        apply hR
        exact ⟨hE, rfl, rfl, by simp [t0], by simp [t7], by simp [t8], by simp [t27], by simp [t28], by simp, by simp, by simp, by simp, by simp⟩
      rintro ⟨tm, n, ds⟩ W6 ⟨hE6, hn, hd, t0, t7, t8, t27, t28, t11, t12, t13, t14, t15⟩
      simp only at hn hd t0 t7 t8 t27 t28 t11 t12 t13 t14 t15
      subst hn; subst hd
      have hVF6 := hVF.ext hE6
      have hVW6 := hVW.ext hE6
      have hLay6 := hLay.only hE6 (fun _ _ _ x => x)
      try simp only [wpK_assoc]
      refine wpK_regc (J := fun A' W' => W' = W6 ∧ A'.n = 97 ∧ A'.defers = [] ∧ A'.tmps.get 0 = some (.iface t r) ∧ A'.tmps.get 7 = some (.pointer (some ⟨W.next + 2, 0, none⟩)) ∧ A'.tmps.get 8 = some (.func (.func 76) ⟨[]⟩ ⟨[.pointer (some ⟨W.next, 0, none⟩), .pointer (some ⟨W.next + 2, 0, none⟩)]⟩) ∧ A'.tmps.get 27 = some (.int .i64 l.length) ∧ A'.tmps.get 28 = some (.int .i64 i) ∧ A'.tmps.get 11 = some (.int .i64 i) ∧
        A'.tmps.get 12 = some (.int .i64 (x : Nat)) ∧ A'.tmps.get 13 = some (.int .i64 (y : Nat)) ∧ A'.tmps.get 14 = some (.int .i64 c) ∧ A'.tmps.get 15 = some (.int .i64 d)) (fun R hR => ?_) ?_
      · simp [t8, t12, aEnter, fun76, short_other, aCallV]
        rw [callS_none]
        refine (hat1 W6 (hVF6.has rfl) (hVW6.has rfl) hLay6.src).mono ?_
        rintro _ W' ⟨rfl, rfl⟩
        simp [t8, t13, aEnter, fun76, short_other, aCallV]
        rw [callS_none]
        refine (hat2 W' (hVF6.has rfl) (hVW6.has rfl) hLay6.src).mono ?_
        rintro _ W'' ⟨rfl, rfl⟩
        simp
        apply hR
        exact ⟨rfl, rfl, rfl, by simp [t0], by simp [t7], by simp [t8], by simp [t27], by simp [t28], by simp [t11], by simp, by simp, by simp [t14], by simp [t15]⟩
      rintro ⟨tm, n, ds⟩ W6' ⟨rfl, hn, hd, t0, t7, t8, t27, t28, t11, t12, t13, t14, t15⟩
      simp only at hn hd t0 t7 t8 t27 t28 t11 t12 t13 t14 t15
      subst hn; subst hd
      -- the halves
      have lW6 := hVW6.load1 (T := T0) und113 rfl (j := 0) (v := .pointer (some ⟨W.next + 1, 0, none⟩)) rfl
      obtain ⟨W7, b1, b2, b3, hLay7⟩ := hLay6.half (by omega)
      rw [hto0.1, hto0.2] at b1
      have hVF7 := hVF6.only b3 (show ¬ W.next = W.next + 1 by omega)
      have hVW7 := hVW6.only b3 (show ¬ W.next + 2 = W.next + 1 by omega)
      have lW7 := hVW7.load1 (T := T0) und113 rfl (j := 0) (v := .pointer (some ⟨W.next + 1, 0, none⟩)) rfl
      obtain ⟨W8, d1, d2, d3, hLay8⟩ := hLay7.half (by omega)
      rw [hto1.1, hto1.2] at d1
      have hVF8 := hVF7.only d3 (show ¬ W.next = W.next + 1 by omega)
      have hVW8 := hVW7.only d3 (show ¬ W.next + 2 = W.next + 1 by omega)
      have ixa := ix153 (W.next + 1) 0 y0 (by omega)
      have ixb := ix153 (W.next + 1) 0 (y0 + 1) (by omega)
      simp only [Nat.zero_add, Nat.mul_comm _ 2] at ixa ixb
      generalize hy1 : y0 + 1 = y1 at hwa ixb d1 hLay7 hLay8 hGG
      try simp only [wpK_assoc]
      refine wpK_reg (fun R hR => by simp [t7, t11, t13, t14, lW6, nilck, aBinI_mul, hwm, build152, ixa, b1]; exact hR) ?_
      try simp only [wpK_assoc]
      refine wpK_reg (fun R hR => by simp [t7, t11, t12, t15, lW7, nilck, aBinI_mul, hwm, hwa, build152, ixb, d1]; exact hR) ?_
      -- out[x]
      have hol1 := outsL_len L x i
      obtain ⟨v, v', W9, W10, p1, p2, p3, p4, p5, p6, p7, ⟨Av, cv, rfl⟩, hLay10⟩ := hLay8.push (x := y0) hx24 (by show (outsL L x i).length ≤ 1000; omega) (by omega)
      have lW8 := hVW8.load1 (T := T0) und113 rfl (j := 0) (v := .pointer (some ⟨W.next + 1, 0, none⟩)) rfl
      have lW8n := (hVW8.ext (.newCells W8 3 [.int .i64 (y0 : Nat)])).load1 (T := T0) und113 rfl (j := 0) (v := .pointer (some ⟨W.next + 1, 0, none⟩)) rfl
      have lW9 := (hVW8.only p6 (fun e => e.1 hc2)).load1 (T := T0) und113 rfl (j := 0) (v := .pointer (some ⟨W.next + 1, 0, none⟩)) rfl
      have lv8 := load_of und46 rfl p1
      have lv8n := load_of und46 rfl (p1.ext (.newCells W8 3 [.int .i64 (y0 : Nat)]))
      have ixx := ix154 (W.next + 1) 800 x hx24
      have hfr := freshB_new W8 3 [.int .i64 (y0 : Nat)] (by simp [listEq, valEq])
      have hVF10 := hVF8.only p7 (fun e => e hc1)
      have hVW10 := hVW8.only p7 (fun e => e hc2)
      try simp only [wpK_assoc]
      refine wpK_dr (wr := Tr.nil |>.set 64 0 |>.set 65 1 |>.set 66 2 |>.set 67 3 |>.set 68 4 |>.set 69 5 |>.set 70 6 |>.set 71 7 |>.set 72 8 |>.set 73 9 |>.set 74 10 |>.set 75 11 |>.set 76 12 |>.set 77 13 |>.set 78 14) (bits := Tr.nil.lay 0 [0, 0, 0, 0, 4, 20, 60, 124, 0, 256, 768, 2044, 1, 4097, 16383, 32767]) (ord := [0, 1, 2, 3, 4, 5, 6, 7, 8, 9, 10, 12, 13, 11, 14, 15])
        (J := fun A' W' => W' = W10 ∧ A'.n = 97 ∧ A'.defers = [] ∧ A'.tmps.get 0 = some (.iface t r) ∧ A'.tmps.get 7 = some (.pointer (some ⟨W.next + 2, 0, none⟩)) ∧ A'.tmps.get 8 = some (.func (.func 76) ⟨[]⟩ ⟨[.pointer (some ⟨W.next, 0, none⟩), .pointer (some ⟨W.next + 2, 0, none⟩)]⟩) ∧ A'.tmps.get 27 = some (.int .i64 l.length) ∧ A'.tmps.get 28 = some (.int .i64 i) ∧ A'.tmps.get 11 = some (.int .i64 i) ∧ A'.tmps.get 13 = some (.int .i64 (y : Nat)))
        (by kernel_rfl) (by kernel_rfl) (by kernel_rfl) (fun G hGG => ?_) ?_
      · simp [t7, t11, t12, lW8, lW8n, lW9, nilck, aBinI_mul, hwm, ixx, lv8, lv8n, aFlt, inf3, z3, is3, rep3, fill46, AFlt.val, p2, p3, p4, p5, hfr, newCells_next]
        apply hGG
        exact ⟨rfl, rfl, rfl, by simp [t0], by simp [t7], by simp [t8], by simp [t27], by simp [t28], by simp [t11], by simp [t13]⟩
      rintro ⟨tm, n, ds⟩ W10' ⟨rfl, hn, hd, t0, t7, t8, t27, t28, t11, t13⟩
      simp only at hn hd t0 t7 t8 t27 t28 t11 t13
      subst hn; subst hd
      -- out[y]
      have hc10 : (fun b => if b = W8.next + 1 then (800 + x) + 1 else col b) (W.next + 2) = 0 ∧ (fun b => if b = W8.next + 1 then (800 + x) + 1 else col b) W.next = 0 := by
        have := hVW8.1
        exact ⟨by simp only [if_neg (show ¬ W.next + 2 = W8.next + 1 by omega)]; exact hc2, by simp only [if_neg (show ¬ W.next = W8.next + 1 by omega)]; exact hc1⟩
      have hcol10 : ∀ b, (fun b => if b = W8.next + 1 then (800 + x) + 1 else col b) b ≠ 0 → W.next ≤ b := fun b hb => by
        have := hVW8.1
        simp only at hb
        split at hb
        · omega
        · exact hcol b hb
      have hO610 : ∀ b, b < W.next → W10'.blocks.get b = W6'.blocks.get b := fun b hb => by
        have := hVW8.1
        have := hVW7.1
        have := hVW6.1
        rw [p7.2 b (by omega) (fun e => by have := hcol b e; omega), d3.2 b (by omega) (by omega), b3.2 b (by omega) (by omega)]
      clear lW8 lW8n lW9 lv8 lv8n hfr lW6 lW7 hLay8 hLay7 hLay6
      generalize (fun b => if b = W8.next + 1 then (800 + x) + 1 else col b) = col2 at hLay10 hc10 hcol10
      have hol2 : (upd (fun q => outsL L q i) x (outsL L x i ++ [y0]) y).length ≤ 1000 := by
        have := outsL_len L y i
        unfold upd; split
        · simp; omega
        · show (outsL L y i).length ≤ 1000; omega
      obtain ⟨v2, v2', W11, W12, q1, q2, q3, q4, q5, q6, q7, ⟨Aw, cw, rfl⟩, hLay12⟩ := hLay10.push (x := y1) hy24 hol2 (by omega)
      have lX8 := hVW10.load1 (T := T0) und113 rfl (j := 0) (v := .pointer (some ⟨W.next + 1, 0, none⟩)) rfl
      have lX8n := (hVW10.ext (.newCells W10' 3 [.int .i64 (y1 : Nat)])).load1 (T := T0) und113 rfl (j := 0) (v := .pointer (some ⟨W.next + 1, 0, none⟩)) rfl
      have lX9 := (hVW10.only q6 (fun e => e.1 hc10.1)).load1 (T := T0) und113 rfl (j := 0) (v := .pointer (some ⟨W.next + 1, 0, none⟩)) rfl
      have lw8 := load_of und46 rfl q1
      have lw8n := load_of und46 rfl (q1.ext (.newCells W10' 3 [.int .i64 (y1 : Nat)]))
      have ixy := ix154 (W.next + 1) 800 y hy24
      have hfr2 := freshB_new W10' 3 [.int .i64 (y1 : Nat)] (by simp [listEq, valEq])
      have hVF12 := hVF10.only q7 (fun e => e hc10.2)
      have hVW12 := hVW10.only q7 (fun e => e hc10.1)
      try simp only [wpK_assoc]
      refine wpK_dr1 (wr := Tr.nil |>.set 79 0 |>.set 80 1 |>.set 81 2 |>.set 82 3 |>.set 83 4 |>.set 84 5 |>.set 85 6 |>.set 86 7 |>.set 87 8 |>.set 88 9 |>.set 89 10 |>.set 90 11 |>.set 91 12 |>.set 92 13 |>.set 93 14 |>.set 94 15) (bits := Tr.nil.lay 0 [0, 0, 0, 0, 4, 20, 60, 124, 0, 256, 768, 1792, 4092, 1, 8193, 32767, 65535]) (ord := [0, 1, 2, 3, 4, 5, 6, 7, 8, 9, 10, 11, 13, 14, 12, 15, 16])
        (J := fun A' W' => W' = W12 ∧ A'.n = 97 ∧ A'.defers = [] ∧ A'.tmps.get 0 = some (.iface t r) ∧ A'.tmps.get 7 = some (.pointer (some ⟨W.next + 2, 0, none⟩)) ∧ A'.tmps.get 8 = some (.func (.func 76) ⟨[]⟩ ⟨[.pointer (some ⟨W.next, 0, none⟩), .pointer (some ⟨W.next + 2, 0, none⟩)]⟩) ∧ A'.tmps.get 27 = some (.int .i64 l.length) ∧ A'.tmps.get 28 = some (.int .i64 i))
        (by kernel_rfl) (by kernel_rfl) (by kernel_rfl) (fun G hGG => ?_) ?_
      · simp [t7, t11, t13, lX8, lX8n, lX9, nilck, aBinI_mul, hwm, hwa, ixy, lw8, lw8n, aFlt, inf3, z3, is3, rep3, fill46, AFlt.val, q2, q3, q4, q5, hfr2, newCells_next]
        apply hGG
        exact ⟨rfl, rfl, rfl, by simp [t0], by simp [t7], by simp [t8], by simp [t27], by simp [t28]⟩
      rintro ⟨tm, n, ds⟩ W12' ⟨rfl, hn, hd, t0, t7, t8, t27, t28⟩
      simp only at hn hd t0 t7 t8 t27 t28
      subst hn; subst hd
      try simp only [wpK_assoc]
      refine wpK_reg1 (fun R hR => by simp [t28]; exact hR) ?_
      have hE12 : Ext W W12' := ⟨by have := hE5.1; have := hE6.1; omega, fun b hb _ => by
        have := hE5.1
        have := hE6.1
        rw [q7.2 b (by omega) (fun e => by have := hcol10 b e; omega), hO610 b hb, hE6.2 b (by omega) (fun x => x), hE5.2 b hb (fun x => x)]⟩
      refine hI (k - 1) _ _ (by omega) ⟨rfl, rfl, by simp [t0], by simp [t7], by simp [t8], by simp [t27], hE12, hVF12, hVW12, i + 1, (fun b => if b = W10'.next + 1 then (800 + y) + 1 else col2 b), by omega, by omega, by simp; exact i64_succ i (by omega), fun b hb => ?_, ?_, ?_, ?_⟩
      · have := hVW10.1
        simp only at hb
        split at hb
        · omega
        · exact hcol10 b hb
      · have := hVW10.1
        simp only [if_neg (show ¬ W.next = W10'.next + 1 by omega)]; exact hc10.2
      · have := hVW10.1
        simp only [if_neg (show ¬ W.next + 2 = W10'.next + 1 by omega)]; exact hc10.1
      · have e : (fun q => outsL L q (i + 1)) = upd (upd (fun q => outsL L q i) x (outsL L x i ++ [y0])) y (upd (fun q => outsL L q i) x (outsL L x i ++ [y0]) y ++ [y1]) := funext hGG
        rw [e, show 2 * (i + 1) = y1 + 1 from by omega]
        exact hLay12
    · have e : i = l.length := by omega
      subst e
      exact wpK_out (by simp) (hJ _ _ ⟨rfl, rfl, by simp [t7], hE5, hVW, col, hLay⟩)
  · rintro A' W' hf; exact hf.elim
  · rintro ⟨tm, n, ds⟩ W5 ⟨hn, hd, t7, hE5, hVW, col, hLay⟩
    simp only at hn hd t7
    subst hn; subst hd
    have lW := hVW.load1 (T := T0) und113 rfl (j := 0) (v := .pointer (some ⟨W.next + 1, 0, none⟩)) rfl
    try simp only [wpK_assoc]
    refine wpK_reg (fun R hR => by simp [t7, lW]; exact hR) ?_
    refine wpK_ret ⟨.inr rfl, rfl, [.pointer (some ⟨W.next + 1, 0, none⟩)], by simp, hE5, W.next + 1, W5.next, rfl, by omega, ?_⟩
    obtain ⟨c, g1, g2, g3, g4, g5⟩ := hLay.ex
    have hpl := g1.lt (W.next + 1) (by rw [g1.cp]; omega)
    refine ⟨hpl, Nat.le_refl _, c, g1.blk, fun y hy => g2 y (by rw [hLlen] at hy; exact hy), fun q hq => ?_, g3, g4, g5⟩
    have hF : Fg (fun q => outsL (layL from_ src l) q l.length) (800 + q) = some ⟨(outsL (layL from_ src l) q l.length).length, natsV (outsL (layL from_ src l) q l.length), 3, 1⟩ := by unfold Fg; rw [if_pos (by omega), show 800 + q - 800 = q from by omega]
    obtain ⟨_, v, f1, f2⟩ := g1.fld _ _ hF
    refine ⟨v, f1, ?_⟩
    rw [hLlen]
    by_cases hl : (outsL (layL from_ src l) q l.length).length = 0
    · obtain ⟨A, cc, hv⟩ := f2.len
      exact ⟨A, cc, hv, fun i x hx => by
        have := (List.getElem?_eq_some_iff.1 hx).1; omega⟩
    · obtain ⟨b, hv, hKb, hb, _, hh⟩ := f2.has (Nat.pos_of_ne_zero hl)
      refine ⟨_, _, hv, fun i x hx => ⟨b, 0, rfl, hb, fun e => ?_, ?_⟩⟩
      · have hKb : col b = 800 + q + 1 := hKb
        rw [e, g1.cp] at hKb; omega
      · rw [Nat.zero_add]; exact hh i _ (natsV_get hx)

end Go.Proofs.YtkipaffjmcmclaaDoor

open Go Go.Eng
namespace Go.Proofs.YtkipaffjmcmclaaDoor
attribute [local congr] undef_congr WpK.congr WpS.congr WpL.congr WpC.congr WpF.congr gotS.congr callS.congr nextS.congr wantS.congr condS.congr
attribute [local irreducible] WpK
attribute [local simp] WpDr_nil WpDr_cons atS_some dwantS_true dwantS_false kindS_light kindS_float kindS_heavy lightS_value floatS_some heavyS_value heavyS_skip heavyS_enter dcallS_some doneS_eq
  isLight isFloat isPlain dLook testBit_dec dChain dLights_nil dLights_skip dLights_one dLight_nil dLight_cons dFreshes_nil dFreshes_one oneF_none oneF_some dFresh_nil dFresh_cons oneL_some oneW_true oneW_false sameV_value dPut dMay valEq arrEq listEq List.getElem?_cons Tr.get_nil dEnd
attribute [local simp] WpS_nil WpS_cons isDefer undef_false wantS_true wantS_false nextS_value nextS_skip nextS_enter callS_some gotS_some aWanted aOp aEvalF aEval opMove opAssign opPick aVal flat flat1 AAct.put opBinOp opConvert opIndex Tr.get_set Tr.get_lay aBin aResults tupled
  aCall aVals aCallB blt_dec ble_dec beq_dec aBinI_add aBinI_sub aBinI_lss aBinI_leq aBinI_gtr aBinI_geq aBinI_eql aBinI_neq index_str len_str len_slice Nat.beq_refl und2 und3 und4 und5 und39 und76 und82 und116 und22 und29 und25 und33 und46 und43 und49 und111 und113 field152 field156_0 field156_1 field156_2 field156_3 field156_4
  field78 field106 field24 field31 field27 field35 field108 field109 opBox opLoad opFieldAddr opIndexAddr acells aAddr opExtract aExtract opUnOp opAlloc opStore opMakeInterface opNilCheck opBuild aParts opBuildSlice aValW
set_option maxHeartbeats 4000000
set_option linter.unusedSimpArgs false
set_option linter.unusedVariables false
/-! ### boards, and what is asked of them -/
theorem board_wp {W : AW} {v : Value} {P : Int} {l : List Tri} (h : TriIn W v l) (hlen : l.length ≤ 1000) :
    WpF T0 13 [.agg ⟨[.int .i64 P, v]⟩] W (fun u W' => Ext W W' ∧ ∃ v', u = .agg ⟨[.int .i64 P, v']⟩ ∧ GrowsN W' v' l.length (flat3 l) 108 3 (fun b => W.next ≤ b)) := by
  obtain ⟨A, c, rfl, hA⟩ := h
  refine wpF fun13 rfl ?_
  obtain ⟨W1, hW1, hE1, hn1, hV0, hV1⟩ : ∃ W1, W1 = (W.newCells 27 [.int .i64 P, .slice A l.length c]).newCells 35 [.int .i64 0, .slice none 0 0] ∧ Ext W W1 ∧ W1.next = W.next + 2 ∧ Var W1 W.next 27 [.int .i64 P, .slice A l.length c] ∧ Var W1 (W.next + 1) 35 [.int .i64 0, .slice none 0 0] :=
    ⟨_, rfl, (Only.newCells _ _ _).trans (Only.newCells _ _ _), rfl, (Var.new _ _ _).ext (.newCells _ _ _), Var.new _ _ _⟩
  obtain ⟨W2, s1, s2, hE2, hV2⟩ := storeVar_new (T := T0) (W := W1) (t := 35) (v := .agg ⟨[.int .i64 P, .slice none 0 0]⟩) (z := [.int .i64 0, .slice none 0 0]) inf35 (by rw [is35]; rfl) (by rw [is35]; rfl) rfl
  have hl0 := hV0.load1 (T := T0) und3 rfl (j := 0) (v := .int .i64 P) rfl
  try simp only [wpK_assoc]
  refine wpK_reg (fun R hR => by simp [zero35, newCells_next]; rw [← hW1]; exact hR) ?_
  try simp only [wpK_assoc]
  refine wpK_reg (fun R hR => by simp [hl0, build35, zero35, s1]; exact hR) ?_
  try simp only [wpK_assoc]
  refine wpK_reg (fun R hR => by simp; exact hR) ?_
  have hV02 := hV0.ext hE2
  have hV12 := hV1.ext hE2
  rw [hn1] at hV2
  try simp only [wpK_assoc]
  refine wpK_while (I := fun k A' W' => A'.n = 28 ∧ A'.defers = [] ∧ A'.tmps.get 1 = some (.pointer (some ⟨W.next, 0, none⟩)) ∧ A'.tmps.get 2 = some (.pointer (some ⟨W.next + 1, 0, none⟩)) ∧ A'.tmps.get 3 = some (.pointer (some ⟨W.next + 2, 0, none⟩)) ∧
      Ext W W' ∧ Var W' W.next 27 [.int .i64 P, .slice A l.length c] ∧ Var W' (W.next + 1) 35 [.int .i64 0, .slice none 0 0] ∧
      ∃ (i : Nat) (v : Value), k = l.length - i ∧ i ≤ l.length ∧ A'.tmps.get 4 = some (.int .i64 i) ∧ Var W' (W.next + 2) 35 [.int .i64 P, v] ∧ GrowsN W' v i (flat3 (l.take i)) 108 3 (fun b => W.next + 3 ≤ b))
    (J := fun A' W' => A'.n = 28 ∧ A'.defers = [] ∧ A'.tmps.get 2 = some (.pointer (some ⟨W.next + 1, 0, none⟩)) ∧ A'.tmps.get 3 = some (.pointer (some ⟨W.next + 2, 0, none⟩)) ∧ Ext W W' ∧ Var W' (W.next + 1) 35 [.int .i64 0, .slice none 0 0] ∧
      ∃ v, Var W' (W.next + 2) 35 [.int .i64 P, v] ∧ GrowsN W' v l.length (flat3 l) 108 3 (fun b => W.next + 3 ≤ b))
    (Rt := fun _ _ => False) (k := l.length) ?_ ?_ ?_ ?_
  · exact ⟨rfl, rfl, by simp, by simp, by simp [hn1], hE1.trans hE2, hV02, hV12, 0, .slice none 0 0, by simp, by simp, by simp, hV2, .nil _ _ _ _⟩
  · rintro k ⟨tm, n, ds⟩ W3 ⟨hn, hd, h1, h2, h3, hE3, hV0, hV1, i, v, hk, hi, h4, hV2, hG⟩ Q' hJ hRt hI
    simp only at hn hd h1 h2 h3 h4
    subst hn; subst hd
    have hl1 := hV0.load1 (T := T0) und25 rfl (j := 1) (v := .slice A l.length c) rfl
    have hl2 := hV2.load1 (T := T0) und33 rfl (j := 1) (v := v) rfl
    try simp only [wpK_assoc]
    refine wpK_reg (fun R hR => by simp [h1, h4, hl1, len_slice und25]; exact hR) ?_
    by_cases hlt : i < l.length
    · refine wpK_onT (by simp [hlt]) ?_
      have ha : l[i]? = some l[i] := List.getElem?_eq_getElem hlt
      generalize l[i] = a at ha
      obtain ⟨b', o, rfl, q1, q2, q3⟩ := hA i a ha
      have hx := indexAddr_tri (T := T0) und25 sz109 (b := b') (o := o) (c := c) (k := .i64) hlt
      have hl3 := load3 (T := T0) und109 agg109 inf109 is109 (q1.ext hE3) (q2.ext hE3) (q3.ext hE3)
      have hp3 := hV2.1
      obtain ⟨v', W4, W5, a1, a2, a3, a4, a5, a6, a7⟩ := Var.push (T := T0) (t := 33) (el := 108) (i := Tryd.t108) (it := Tryd.t33) (sz := 3) (by omega) und33 inf108 is108 z108 rfl inf33 is33 hG hV2 (o := 1) (by omega) (by simp) (u := cells3 a) rfl (oneCells_tri a) (by rw [by108]; omega) (by omega)
      have a1 : aAppend T0 (W3.newCells 108 [.int .i64 a.1, .int .i64 a.2.1, .int .i64 a.2.2]) [33, 33] [v, .slice (some ⟨W3.next, 0, none⟩) 1 2] = some (v', W4) := a1
      refine wpK_block ?_
      try simp only [wpK_assoc]
      refine wpK_reg (fun R hR => by simp [h3, hl2]; exact hR) ?_
      try simp only [wpK_assoc]
      refine wpK_reg1 (fun R hR => by simp [h1, h3, h4, hl1, hx, hl3, bs33, a1, a2]; exact hR) ?_
      try simp only [wpK_assoc]
      refine wpK_reg1 (fun R hR => by simp [h4]; exact hR) ?_
      have hO : Ext W W5 := ⟨by have := hE3.1; omega, fun b hb hk => by rw [a7.2 b (by have := hE3.1; omega) (by omega)]; exact hE3.2 b hb hk⟩
      refine hI (k - 1) _ _ (by omega) ⟨rfl, rfl, by simp [h1], by simp [h2], by simp [h3], hO, hV0.only a7 (by omega), hV1.only a7 (by omega), i + 1, v', by omega, by omega, by simp; exact i64_succ i (by omega), by simpa using a5, ?_⟩
      rw [List.take_add_one, ha, Option.toList_some, flat3_append]
      have : flat3 [a] = cells3 a := by simp [flat3]
      rw [this]
      exact a6.mono (fun b hb => by
        rcases hb with hb | hb
        · exact hb
        · omega)
    · have e : i = l.length := by omega
      subst e
      rw [List.take_length] at hG
      exact wpK_out (by simp) (hJ _ _ ⟨rfl, rfl, by simp [h2], by simp [h3], hE3, hV1, v, hV2, hG⟩)
  · rintro A' W' hf; exact hf.elim
  · rintro ⟨tm, n, ds⟩ W3 ⟨hn, hd, h2, h3, hE3, hV1, v, hV2, hG⟩
    simp only at hn hd h2 h3
    subst hn; subst hd
    obtain ⟨av, cv, hvs⟩ := hG.len
    have hl := hV2.load (T := T0) und35 agg35 inf35 is35
    obtain ⟨W4, t1, t2, t3, t4⟩ := hV1.store (T := T0) (t := 35) (v := .agg ⟨[.int .i64 P, v]⟩) (o := 0) inf35 (by rw [is35]; rfl) (by simp) (by rw [hvs]; rfl)
    have hl4 := t4.load (T := T0) und35 agg35 inf35 (by rw [is35]; rfl)
    try simp only [wpK_assoc]
    refine wpK_reg (fun R hR => by simp [h2, h3, hl, t1]; exact hR) ?_
    refine wpK_ret ⟨.inr rfl, rfl, [.agg ⟨[.int .i64 P, v]⟩], by simp at hl4; simp [h2, hl4], ?_, v, rfl, ?_⟩
    · exact ⟨by have := hE3.1; omega, fun b hb hk => by rw [t3.2 b (by have := hE3.1; omega) (by omega)]; exact hE3.2 b hb hk⟩
    · exact (hG.only t3 (fun b _ hb e => by omega)).mono (fun b hb => by omega)
theorem refCheckB_wp {W : AW} {v : Value} (P : Int) {l : List Tri} (h : TriIn W v l) : WpF T0 15 [.agg ⟨[.int .i64 P, v]⟩] W (fun u W' => Ext W W' ∧ u = .int .i64 (chk P (arcsQ l))) := by
  obtain ⟨A, c, rfl, hA⟩ := h
  refine wpF fun15 rfl ?_
  have hV := Var.new W 27 [.int .i64 P, .slice A l.length c]
  have hE : Ext W (W.newCells 27 [.int .i64 P, .slice A l.length c]) := .newCells _ _ _
  generalize hW1 : W.newCells 27 [.int .i64 P, .slice A l.length c] = W1 at hV hE
  have hl0 := hV.load1 (T := T0) und3 rfl (j := 0) (v := .int .i64 P) rfl
  have hl1 := hV.load1 (T := T0) und25 rfl (j := 1) (v := .slice A l.length c) rfl
  try simp only [wpK_assoc]
  refine wpK_reg (fun R hR => by simp [hW1]; exact hR) ?_
  have fin30 : ∀ (B : AAct) (W' : AW), Ext W W' → planOk P (arcsQ l) = false → B.defers = [] → B.tmps.get 2 = some (.int .i64 30) → (AExit.ret = .normal ∨ AExit.ret = .ret) ∧ B.defers = [] ∧ ∃ l1, aResults T0 W' B.tmps Tryd.f15.results.toList = some l1 ∧ Ext W W' ∧ tupled l1 = .int .i64 (chk P (arcsQ l)) := by
    intro B W' hE hbad hd h2
    exact ⟨.inr rfl, hd, [.int .i64 30], by simp [h2], hE, by simp [chk, hbad]⟩
  have hql : (arcsQ l).length = l.length := by simp [arcsQ]
  by_cases hP2 : P < 2
  · try simp only [wpK_assoc]
    refine wpK_reg (fun R hR => by simp [hl0, hl1, hP2]; exact hR) ?_
    refine wpK_condT (by simp) ?_
    try simp only [wpK_assoc]
    refine wpK_reg (fun R hR => by simp; exact hR) ?_
    exact wpK_ret (fin30 _ _ hE (by simp [planOk]; omega) rfl (by simp))
  by_cases hP24 : 0x18 < P
  · try simp only [wpK_assoc]
    refine wpK_reg (fun R hR => by simp [hl0, hl1, hP2, hP24]; exact hR) ?_
    refine wpK_condT (by simp) ?_
    try simp only [wpK_assoc]
    refine wpK_reg (fun R hR => by simp; exact hR) ?_
    exact wpK_ret (fin30 _ _ hE (by simp [planOk]; omega) rfl (by simp))
  by_cases hl200 : (200 : Int) < (l.length : Int)
  · try simp only [wpK_assoc]
    refine wpK_reg (fun R hR => by simp [hl0, hl1, hP2, hP24, hl200, len_slice und25]; exact hR) ?_
    refine wpK_condT (by simp) ?_
    try simp only [wpK_assoc]
    refine wpK_reg (fun R hR => by simp; exact hR) ?_
    exact wpK_ret (fin30 _ _ hE (by simp [planOk, hql]; omega) rfl (by simp))
  try simp only [wpK_assoc]
  refine wpK_reg (fun R hR => by simp [hl0, hl1, hP2, hP24, hl200, len_slice und25]; exact hR) ?_
  refine wpK_onF (by simp) ?_
  try simp only [wpK_assoc]
  refine wpK_reg (fun R hR => by simp; exact hR) ?_
  try simp only [wpK_assoc]
  refine wpK_while (I := fun k B W' => Ext W W' ∧ B.n = 70 ∧ B.defers = [] ∧ B.tmps.get 1 = some (.pointer (some ⟨W.next, 0, none⟩)) ∧ Var W' W.next 27 [.int .i64 P, .slice A l.length c] ∧
      ∃ i : Nat, k = l.length - i ∧ i ≤ l.length ∧ B.tmps.get 3 = some (.int .i64 i) ∧ ∀ j a, j < i → (arcsQ l)[j]? = some a → okStep P a = true)
    (J := fun B W' => Ext W W' ∧ B.n = 70 ∧ B.defers = [] ∧ (arcsQ l).all (okStep P) = true)
    (Rt := fun B W' => Ext W W' ∧ B.defers = [] ∧ B.tmps.get 2 = some (.int .i64 30) ∧ planOk P (arcsQ l) = false) (k := l.length) ?_ ?_ ?_ ?_
  · exact ⟨hE, rfl, rfl, by simp, hV, 0, by simp, by simp, by simp, fun j a hj => by omega⟩
  · rintro k ⟨tm, n, ds⟩ W2 ⟨hE2, hn, hd, h1, hV2, i, hk, hi, h3, hgood⟩ Q' hJ hRt hI
    simp only at hn hd h1 h3
    subst hn; subst hd
    have hl0 := hV2.load1 (T := T0) und3 rfl (j := 0) (v := .int .i64 P) rfl
    have hl1 := hV2.load1 (T := T0) und25 rfl (j := 1) (v := .slice A l.length c) rfl
    try simp only [wpK_assoc]
    refine wpK_reg (fun R hR => by simp [h1, h3, hl1, len_slice und25]; exact hR) ?_
    by_cases hlt : i < l.length
    · refine wpK_onT (by simp [hlt]) ?_
      have ha : l[i]? = some l[i] := List.getElem?_eq_getElem hlt
      have hm : l[i] ∈ l := List.getElem_mem hlt
      generalize l[i] = a at ha hm
      have haq : (arcsQ l)[i]? = some (a.1, a.2.1, a.2.2, 0) := by simp [arcsQ, ha]
      have hmq := List.mem_of_getElem? haq
      obtain ⟨b', o, rfl, q1, q2, q3⟩ := hA i a ha
      have hx := indexAddr_tri (T := T0) und25 sz109 (b := b') (o := o) (c := c) (k := .i64) hlt
      have hl3 := load3 (T := T0) und109 agg109 inf109 is109 (q1.ext hE2) (q2.ext hE2) (q3.ext hE2)
      obtain ⟨Wa, s1, s2, hEa, hVa⟩ := storeVar_new (T := T0) (W := W2) (t := 109) (v := .agg ⟨[.int .i64 a.1, .int .i64 a.2.1, .int .i64 a.2.2]⟩) (z := [.int .i64 0, .int .i64 0, .int .i64 0]) inf109 (by rw [is109]; rfl) (by rw [is109]; rfl) rfl
      have la0 := hVa.load1 (T := T0) und3 rfl (j := 0) (v := .int .i64 a.1) rfl
      have la1 := hVa.load1 (T := T0) und3 rfl (j := 1) (v := .int .i64 a.2.1) rfl
      have la2 := hVa.load1 (T := T0) und2 rfl (j := 2) (v := .int .i64 a.2.2) rfl
      have hV3 := hV2.ext hEa
      have lP := hV3.load1 (T := T0) und3 rfl (j := 0) (v := .int .i64 P) rfl
      refine wpK_block ?_
      try simp only [wpK_assoc]
      refine wpK_reg (fun R hR => by simp [h1, h3, hl1, hx, hl3, zero109, s1]; exact hR) ?_
      have bad : ∀ tm' : Tr Value, okStep P (a.1, a.2.1, a.2.2, 0) = false → tm'.get 2 = some (.int .i64 30) → Q' .ret ⟨tm', 70, []⟩ Wa := fun tm' hb h2 => hRt _ _ ⟨hE2.trans hEa, rfl, h2, by
        have : (arcsQ l).all (okStep P) = false := by rw [List.all_eq_false]; exact ⟨_, hmq, by simp [hb]⟩
        simp [planOk, this]⟩
      have good : ∀ tm' : Tr Value, okStep P (a.1, a.2.1, a.2.2, 0) = true → tm'.get 1 = some (.pointer (some ⟨W.next, 0, none⟩)) → tm'.get 3 = some (.int .i64 ((i + 1 : Nat) : Int)) → Q' .normal ⟨tm', 70, []⟩ Wa := fun tm' hb g1 g3 => hI (k - 1) _ _ (by omega) ⟨hE2.trans hEa, rfl, rfl, g1, hV3, i + 1, by omega, by omega, g3, fun j d hj hd => by
        by_cases hji : j = i
        · subst hji; rw [haq] at hd; cases hd; exact hb
        · exact hgood j d (by omega) hd⟩
      have hws : IntKind.i64.wrap ((i : Int) + 1) = ((i + 1 : Nat) : Int) := i64_succ i (by omega)
      by_cases g1 : a.1 < 0
      · try simp only [wpK_assoc]
        refine wpK_reg (fun R hR => by simp [h1, la0, la1, la2, lP, g1]; exact hR) ?_
        refine wpK_endT (by simp) ?_
        try simp only [wpK_assoc]
        refine wpK_reg (fun R hR => by simp; exact hR) ?_
        exact wpK_ret (bad _ (by simp [okStep, two?]; omega) (by simp))
      by_cases g2 : P ≤ a.1
      · try simp only [wpK_assoc]
        refine wpK_reg (fun R hR => by simp [h1, la0, la1, la2, lP, g1, g2]; exact hR) ?_
        refine wpK_endT (by simp) ?_
        try simp only [wpK_assoc]
        refine wpK_reg (fun R hR => by simp; exact hR) ?_
        exact wpK_ret (bad _ (by simp [okStep, two?]; omega) (by simp))
      by_cases g3 : a.2.1 < 0
      · try simp only [wpK_assoc]
        refine wpK_reg (fun R hR => by simp [h1, la0, la1, la2, lP, g1, g2, g3]; exact hR) ?_
        refine wpK_endT (by simp) ?_
        try simp only [wpK_assoc]
        refine wpK_reg (fun R hR => by simp; exact hR) ?_
        exact wpK_ret (bad _ (by simp [okStep, two?]; omega) (by simp))
      by_cases g4 : P ≤ a.2.1
      · try simp only [wpK_assoc]
        refine wpK_reg (fun R hR => by simp [h1, la0, la1, la2, lP, g1, g2, g3, g4]; exact hR) ?_
        refine wpK_endT (by simp) ?_
        try simp only [wpK_assoc]
        refine wpK_reg (fun R hR => by simp; exact hR) ?_
        exact wpK_ret (bad _ (by simp [okStep, two?]; omega) (by simp))
      by_cases g5 : a.1 = a.2.1
      · try simp only [wpK_assoc]
        refine wpK_reg (fun R hR => by simp [h1, la0, la1, la2, lP, g1, g2, g3, g4, g5]; exact hR) ?_
        refine wpK_endT (by simp) ?_
        try simp only [wpK_assoc]
        refine wpK_reg (fun R hR => by simp; exact hR) ?_
        exact wpK_ret (bad _ (by simp [okStep, two?, g5]) (by simp))
      by_cases g6 : a.2.2 < 0
      · try simp only [wpK_assoc]
        refine wpK_reg (fun R hR => by simp [h1, la0, la1, la2, lP, g1, g2, g3, g4, g5, g6]; exact hR) ?_
        refine wpK_endT (by simp) ?_
        try simp only [wpK_assoc]
        refine wpK_reg (fun R hR => by simp; exact hR) ?_
        exact wpK_ret (bad _ (by simp [okStep, two?]; omega) (by simp))
      by_cases g7 : 1000000000 < a.2.2
      · try simp only [wpK_assoc]
        refine wpK_reg (fun R hR => by simp [h1, la0, la1, la2, lP, g1, g2, g3, g4, g5, g6, g7]; exact hR) ?_
        refine wpK_endT (by simp) ?_
        try simp only [wpK_assoc]
        refine wpK_reg (fun R hR => by simp; exact hR) ?_
        exact wpK_ret (bad _ (by simp [okStep, two?]; omega) (by simp))
      try simp only [wpK_assoc]
      refine wpK_reg (fun R hR => by simp [h1, la0, la1, la2, lP, g1, g2, g3, g4, g5, g6, g7]; exact hR) ?_
      refine wpK_endF (by simp) (wpK_skip ?_)
      try simp only [wpK_assoc]
      refine wpK_reg1 (fun R hR => by simp [h3, hws]; exact hR) ?_
      exact good _ (by simp [okStep, two?]; omega) (by simp [h1]) (by simp)
    · refine wpK_out (by simp [hlt]) (hJ _ _ ⟨hE2, rfl, rfl, ?_⟩)
      rw [List.all_eq_true]
      intro x hx
      obtain ⟨j, hj, rfl⟩ := List.getElem_of_mem hx
      exact hgood j (arcsQ l)[j] (by omega) (List.getElem?_eq_getElem hj)
  · rintro A' W' ⟨hE, h1, h2, h3⟩
    exact ⟨.inr rfl, h1, [.int .i64 30], by simp [h2], hE, by simp [chk, h3]⟩
  · rintro ⟨tm, n, ds⟩ W' ⟨hE, hn, hd, hall⟩
    simp only at hn hd
    subst hn; subst hd
    try simp only [wpK_assoc]
    refine wpK_reg (fun R hR => by simp; exact hR) ?_
    refine wpK_ret ⟨.inr rfl, rfl, [.int .i64 0], by simp, hE, ?_⟩
    have : planOk P (arcsQ l) = true := by simp only [planOk, hall, Bool.and_true, hql]; simp; omega
    simp [chk, this]

theorem planOk_links (P : Int) (l : List Tri) : planOk P (linksQ l) = planOk P (arcsQ l) := by
  have e : (linksQ l).all (okStep P) = (arcsQ l).all (okStep P) := by
    simp only [linksQ, arcsQ, List.all_map]
    congr 1
  have e2 : (linksQ l).length = (arcsQ l).length := by simp [linksQ, arcsQ]
  simp only [planOk, e, e2]
theorem links_in {P : Int} {l : List Tri} (h : planOk P (arcsQ l) = true) : PlanIn P (linksQ l) := by
  refine ⟨by rw [planOk_links]; exact h, fun a ha => ?_⟩
  have hin := arcsQ_in h
  simp only [linksQ, List.mem_map] at ha
  obtain ⟨x, hx, rfl⟩ := ha
  have := hin.step (a := (x.1, x.2.1, x.2.2, 0)) (by simp only [arcsQ, List.mem_map]; exact ⟨x, hx, rfl⟩)
  simp only at this ⊢
  omega
/-- two places of a plan? -/
def endE (P a b : Int) : Int := if two? a b P = true then 0 else 1
theorem refEnds_wp (P s t : Int) (W : AW) : WpF T0 18 [.int .i64 P, .int .i64 s, .int .i64 t] W (fun v W' => W' = W ∧ v = .int .i64 (endE P s t)) := by
  refine wpF fun18 rfl ?_
  try simp only [wpK_assoc]
  refine wpK_reg (fun R hR => by simp; exact hR) ?_
  have one : ∀ tm' : Tr Value, two? s t P = false → tm'.get 6 = some (.int .i64 1) → (AExit.ret = .normal ∨ AExit.ret = .ret) ∧ (⟨tm', 28, []⟩ : AAct).defers = [] ∧ ∃ l1, aResults T0 W tm' Tryd.f18.results.toList = some l1 ∧ W = W ∧ tupled l1 = .int .i64 (endE P s t) := fun tm' hb h6 =>
    ⟨.inr rfl, rfl, [.int .i64 1], by simp [h6], rfl, by simp [endE, hb]⟩
  by_cases g1 : s < 0
  · try simp only [wpK_assoc]
    refine wpK_reg (fun R hR => by simp [g1]; exact hR) ?_
    refine wpK_condT (by simp) ?_
    try simp only [wpK_assoc]
    refine wpK_reg (fun R hR => by simp; exact hR) ?_
    exact wpK_ret (one _ (by simp [two?]; omega) (by simp))
  by_cases g2 : P ≤ s
  · try simp only [wpK_assoc]
    refine wpK_reg (fun R hR => by simp [g1, g2]; exact hR) ?_
    refine wpK_condT (by simp) ?_
    try simp only [wpK_assoc]
    refine wpK_reg (fun R hR => by simp; exact hR) ?_
    exact wpK_ret (one _ (by simp [two?]; omega) (by simp))
  by_cases g3 : t < 0
  · try simp only [wpK_assoc]
    refine wpK_reg (fun R hR => by simp [g1, g2, g3]; exact hR) ?_
    refine wpK_condT (by simp) ?_
    try simp only [wpK_assoc]
    refine wpK_reg (fun R hR => by simp; exact hR) ?_
    exact wpK_ret (one _ (by simp [two?]; omega) (by simp))
  by_cases g4 : P ≤ t
  · try simp only [wpK_assoc]
    refine wpK_reg (fun R hR => by simp [g1, g2, g3, g4]; exact hR) ?_
    refine wpK_condT (by simp) ?_
    try simp only [wpK_assoc]
    refine wpK_reg (fun R hR => by simp; exact hR) ?_
    exact wpK_ret (one _ (by simp [two?]; omega) (by simp))
  by_cases g5 : s = t
  · try simp only [wpK_assoc]
    refine wpK_reg (fun R hR => by simp [g1, g2, g3, g4, g5]; exact hR) ?_
    refine wpK_condT (by simp) ?_
    try simp only [wpK_assoc]
    refine wpK_reg (fun R hR => by simp; exact hR) ?_
    exact wpK_ret (one _ (by simp [two?, g5]) (by simp))
  try simp only [wpK_assoc]
  refine wpK_reg (fun R hR => by simp [g1, g2, g3, g4, g5]; exact hR) ?_
  refine wpK_onF (by simp) ?_
  try simp only [wpK_assoc]
  refine wpK_reg (fun R hR => by simp; exact hR) ?_
  have : two? s t P = true := by simp [two?]; omega
  exact wpK_ret ⟨.inr rfl, rfl, [.int .i64 0], by simp, rfl, by simp [endE, this]⟩
def chkE (P : Int) (l : List Quad) (a b : Int) : Int := if planOk P l = true then endE P a b else 30
theorem checkEnds_wp {W : AW} {t : TypeId} {r : Value} {fz fs : FuncId} {P : Int} {l : List Quad} (h : PlanOf W t r fz fs P l) (a b : Int) :
    WpF T0 52 [.iface t r, .int .i64 a, .int .i64 b] W (fun v W' => Ext W W' ∧ v = .int .i64 (chkE P l a b)) := by
  obtain ⟨fnz, hfz⟩ := h.hfz
  have hnz := h.nz
  refine wpF fun52 rfl ?_
  try simp only [wpK_assoc]
  refine wpK_reg (fun R hR => by simp; exact hR) ?_
  try simp only [wpK_assoc]
  refine wpK_regc (J := fun A W' => Ext W W' ∧ A.n = 25 ∧ A.defers = [] ∧ A.tmps.get 0 = some (.iface t r) ∧ A.tmps.get 1 = some (.int .i64 a) ∧ A.tmps.get 2 = some (.int .i64 b) ∧ A.tmps.get 7 = some (.int .i64 (chk P l))) (fun R hR => ?_) ?_
  · simp [aEnter, fun51, short_other, aCallV]
    rw [callS_none]
    refine (check_wp h).mono ?_
    rintro _ W' ⟨hE, rfl⟩
    simp
    apply hR
    exact ⟨hE, rfl, rfl, by simp, by simp, by simp, by simp⟩
  rintro ⟨tm, n, ds⟩ W1 ⟨hE1, hn, hd, h0, h1, h2, h7⟩
  simp only at hn hd h0 h1 h2 h7
  subst hn; subst hd
  cases hok : planOk P l with
  | false =>
    rw [chk, hok] at h7
    try simp only [wpK_assoc]
    refine wpK_reg (fun R hR => by simp [h7]; exact hR) ?_
    refine wpK_condT (by simp) ?_
    try simp only [wpK_assoc]
    refine wpK_reg (fun R hR => by simp [h7]; exact hR) ?_
    exact wpK_ret ⟨.inr rfl, rfl, [.int .i64 30], by simp, hE1, by simp [chkE, hok]⟩
  | true =>
    rw [chk, hok] at h7
    try simp only [wpK_assoc]
    refine wpK_reg (fun R hR => by simp [h7]; exact hR) ?_
    refine wpK_onF (by simp) ?_
    try simp only [wpK_assoc]
    refine wpK_regc (J := fun A W' => Ext W W' ∧ A.n = 25 ∧ A.defers = [] ∧ A.tmps.get 1 = some (.int .i64 a) ∧ A.tmps.get 2 = some (.int .i64 b) ∧ A.tmps.get 8 = some (.int .i64 P)) (fun R hR => ?_) ?_
    · simp [h0, aCallI, h.meth, aMeth, hfz, short_other hnz]
      rw [callS_none]
      refine (h.size W1 hE1).mono ?_
      rintro _ W' ⟨hE, rfl⟩
      simp
      apply hR
      exact ⟨hE1.trans hE, rfl, rfl, by simp [h1], by simp [h2], by simp⟩
    rintro ⟨tm, n, ds⟩ W2 ⟨hE2, hn, hd, h1, h2, h8⟩
    simp only at hn hd h1 h2 h8
    subst hn; subst hd
    try simp only [wpK_assoc]
    refine wpK_regc (J := fun A W' => W' = W2 ∧ A.n = 25 ∧ A.defers = [] ∧ A.tmps.get 24 = some (.bool (!two? a b P))) (fun R hR => ?_) ?_
    · simp [h1, h2, h8, aEnter, fun74, short_other, aCallV]
      rw [callS_none]
      refine (areTwo_wp a b P W2).mono ?_
      rintro _ W' ⟨rfl, rfl⟩
      simp
      apply hR
      exact ⟨rfl, rfl, rfl, by simp⟩
    rintro ⟨tm, n, ds⟩ W3 ⟨rfl, hn, hd, h24⟩
    simp only at hn hd h24
    subst hn; subst hd
    cases h2 : two? a b P with
    | false =>
      rw [h2] at h24
      refine wpK_condT (by simp [h24]) ?_
      try simp only [wpK_assoc]
      refine wpK_reg (fun R hR => by simp; exact hR) ?_
      exact wpK_ret ⟨.inr rfl, rfl, [.int .i64 1], by simp, hE2, by simp [chkE, hok, endE, h2]⟩
    | true =>
      rw [h2] at h24
      refine wpK_onF (by simp [h24]) ?_
      try simp only [wpK_assoc]
      refine wpK_reg (fun R hR => by simp; exact hR) ?_
      exact wpK_ret ⟨.inr rfl, rfl, [.int .i64 0], by simp, hE2, by simp [chkE, hok, endE, h2]⟩
/-- a slice that may be sliced -/
def SlOk (u : Value) (n : Nat) : Prop := (u = .slice none 0 0 ∧ n = 0) ∨ (∃ b o c, u = .slice (some ⟨b, o, none⟩) n (2 * c) ∧ n ≤ c) ∨ (u = .slice (some ⟨0, 0, some 1⟩) 0 0 ∧ n = 0)
theorem slice_tri {W : AW} {u : Value} {l : List Tri} {t e : TypeId} {sz : Nat} (hu : T0.und.get t = some (.slice e)) (hs : aSize T0 e = some sz) (hS : SlOk u l.length) (h : TriIn W u l) {k : Nat} (hk : k ≤ l.length) :
    ∃ u' A' c', (∀ W', aSliceOp T0 W' t u none (some (.int .i64 (k : Nat))) none = some u') ∧ u' = .slice A' k c' ∧ TriIn W u' (l.take k) := by
  have hlen : (l.take k).length = k := by rw [List.length_take]; omega
  have emp : l.length = 0 → ∀ A c, TriIn W (.slice A 0 c) (l.take k) := fun h0 A c => by
    have : l.take k = [] := List.length_eq_zero_iff.1 (by omega)
    rw [this]; exact ⟨A, c, rfl, fun i a hi => by simp at hi⟩
  rcases hS with ⟨rfl, h0⟩ | ⟨b, o, c, rfl, hc⟩ | ⟨rfl, h0⟩
  · obtain rfl : k = 0 := by omega
    exact ⟨_, none, 0, fun W' => by simp only [aSliceOp, hu, hs]; rfl, rfl, emp h0 _ _⟩
  · have hb : aHi (some (.int .i64 (k : Nat))) l.length c = some k := by
      show aBound (.int .i64 (Int.ofNat k)) c = some k
      simp only [aBound, ble_dec, show k ≤ c from by omega, decide_true]
    have e1 : (2 * c) % 2 = 0 := by omega
    have e2 : 2 * c / 2 = c := by omega
    have hsh : shiftTo o c 0 sz = o := by unfold shiftTo; split <;> simp
    refine ⟨.slice (some ⟨b, o, none⟩) k (2 * c), _, _, ?_, rfl, ?_⟩
    · intro W'; simp only [aSliceOp, hu, hs, e1, e2, Nat.beq_refl, hb, aLo, hsh, Nat.sub_zero]
    · obtain ⟨A, c', hv, hh⟩ := h
      cases hv
      refine ⟨some ⟨b, o, none⟩, 2 * c, by rw [hlen], fun i a hi => ?_⟩
      have hik : i < k := by
        have := (List.getElem?_eq_some_iff.1 hi).1
        omega
      rw [List.getElem?_take_of_lt hik] at hi
      exact hh i a hi
  · obtain rfl : k = 0 := by omega
    exact ⟨_, some ⟨0, 0, some 1⟩, 0, fun W' => by simp only [aSliceOp, hu, hs]; rfl, rfl, emp h0 _ _⟩

end Go.Proofs.YtkipaffjmcmclaaDoor

open Go Go.Eng
namespace Go.Proofs.YtkipaffjmcmclaaDoor
attribute [local congr] undef_congr WpK.congr WpS.congr WpL.congr WpC.congr WpF.congr gotS.congr callS.congr nextS.congr wantS.congr condS.congr
attribute [local irreducible] WpK
attribute [local simp] WpDr_nil WpDr_cons atS_some dwantS_true dwantS_false kindS_light kindS_float kindS_heavy lightS_value floatS_some heavyS_value heavyS_skip heavyS_enter dcallS_some doneS_eq
  isLight isFloat isPlain dLook testBit_dec dChain dLights_nil dLights_skip dLights_one dLight_nil dLight_cons dFreshes_nil dFreshes_one oneF_none oneF_some dFresh_nil dFresh_cons oneL_some oneW_true oneW_false sameV_value dPut dMay valEq arrEq listEq List.getElem?_cons Tr.get_nil dEnd
attribute [local simp] WpS_nil WpS_cons isDefer undef_false wantS_true wantS_false nextS_value nextS_skip nextS_enter callS_some gotS_some aWanted aOp aEvalF aEval opMove opAssign opPick aVal flat flat1 AAct.put opBinOp opConvert opIndex Tr.get_set Tr.get_lay aBin aResults tupled
  aCall aVals aCallB blt_dec ble_dec beq_dec aBinI_add aBinI_sub aBinI_lss aBinI_leq aBinI_gtr aBinI_geq aBinI_eql aBinI_neq index_str len_str len_slice Nat.beq_refl und2 und3 und4 und5 und39 und76 und82 und116 und22 und29 und25 und33 und46 und43 und49 und111 und113 field152 field156_0 field156_1 field156_2 field156_3 field156_4
  field78 field106 field24 field31 field27 field35 field108 field109 opBox opLoad opFieldAddr opIndexAddr acells aAddr opExtract aExtract opUnOp opAlloc opStore opMakeInterface opNilCheck opBuild aParts opBuildSlice aValW
set_option maxHeartbeats 4000000
set_option linter.unusedSimpArgs false
set_option linter.unusedVariables false
/-! ### the errors of the calls -/
theorem opMI35 (W : AW) (ρ : Operand → Option Value) (x : Operand) : opMakeInterface T0 W ρ 35 x = match ρ x with | some v => some (.value (.iface 35 v), W) | none => none := by
  simp only [opMakeInterface, und35]
  cases ρ x <;> rfl
theorem load35 {W : AW} {p : Nat} {x y : Value} (h : Var W p 35 [x, y]) : aLoadVar T0 W 35 p 0 = some (.agg ⟨[x, y]⟩) := h.load (T := T0) und35 agg35 inf35 is35
theorem tri_eq {W : AW} {v : Value} {l : List Tri} (h : TriIn W v l) : valEq v v = true := by
  obtain ⟨A, c, rfl, _⟩ := h
  rcases A with _ | ⟨b, o, _ | x⟩ <;> simp
/-- one place: the bits of its set -/
theorem one_low {s : Nat} : (1 <<< s).testBit s = true ∧ ∀ j, j < s → (1 <<< s).testBit j = false := by
  refine ⟨by rw [one_bit]; simp, fun j hj => by rw [one_bit]; simp; omega⟩
theorem least_ok {W : AW} {v : Value} {P : Int} {l : List Tri} (h : TriIn W v l) {s t : Nat} (hP : PlanIn P (linksQ l)) (hst : two? s t P = true) (hT : tabsIn T0 T0.tabs W = true) (h0 : 0 < W.next) :
    WpF T0 25 [.agg ⟨[.int .i64 P, v]⟩, .int .i64 s, .int .i64 t] W (fun u W' => Ext W W' ∧ ∃ x rm lv, u = .tuple ⟨[.int .i64 x, .int .i64 0]⟩ ∧ Filled (layL (1 <<< s) s (linksQ l)) s t (hCap (layL (1 <<< s) s (linksQ l))) x rm lv) := by
  refine wpF fun25 rfl ?_
  have hE0 : Ext W (W.newCells 35 [.int .i64 P, v]) := .newCells _ _ _
  have hN := boardPlan (P := P) (h.ext hE0)
  have hV := Var.new W 35 [.int .i64 P, v]
  have hl := load35 hV
  have hT0 := tabs_ext hT h0 hE0
  have h00 : 0 < (W.newCells 35 [.int .i64 P, v]).next := by rw [newCells_next]; omega
  generalize hW0 : W.newCells 35 [.int .i64 P, v] = W0 at hN hE0 hl hT0 h00 hV
  obtain ⟨hP2, hP24, _⟩ := hP.size
  have hok : planOk P (linksQ l) = true := hP.ok
  have hee : chkE P (linksQ l) s t = 0 := by simp only [chkE, hok, endE, hst, if_true]
  simp only [two?, Bool.and_eq_true, decide_eq_true_eq] at hst
  have hc := checkEnds_wp hN s t
  rw [hee] at hc
  try simp only [wpK_assoc]
  refine wpK_reg (fun R hR => by simp [hW0]; exact hR) ?_
  try simp only [wpK_assoc]
  refine wpK_x0 (fun R hR => by
      simp [hl, opMI35, -opMakeInterface, aEnter, fun52, short_other, aCallV]; rw [callS_none]
      refine (hc).mono ?_
      rintro _ W1 ⟨hE1, rfl⟩
      simp [hl, opMI35, -opMakeInterface]; exact hR W1 hE1) ?_
  rintro W1 hE1
  try simp only [wpK_assoc]
  refine wpK_reg (fun R hR => by simp []; exact hR) ?_
  try simp only [wpK_assoc]
  first | refine wpK_onF (by simp []) ?_ | refine wpK_out (by simp []) ?_ | refine wpK_condF (by simp []) ?_ | refine wpK_endF (by simp []) (wpK_skip ?_) | refine wpK_endF (by simp []) ?_
  have hN1 := hN.ext hE1
  have hT1 := tabs_ext hT0 h00 hE1
  have hl1 := load35 (hV.ext hE1)
  have h10 : 0 < W1.next := Nat.lt_of_lt_of_le h00 hE1.1
  have hvv := tri_eq h
  try simp only [wpK_assoc]
  refine wpK_d4 (wr := Tr.nil |>.set 17 0 |>.set 18 1 |>.set 19 2 |>.set 20 3 |>.set 21 4 |>.set 22 5 |>.set 23 6 |>.set 6 7 |>.set 7 8) (bits := Tr.nil.lay 0 [0, 1, 0, 4, 0, 31, 63, 127, 255]) (ord := [0, 1, 2, 3, 4, 5, 6, 7, 8]) (by kernel_rfl) (by kernel_rfl) (by kernel_rfl) (fun G hG => by
    simp [hl1, opMI35, -opMakeInterface, aEnter, fun54, short_other, aCallV]
    rw [dcallS_none]
    refine (one_wp s (by omega) W1).mono ?_
    rintro _ W2 ⟨hW2, rfl⟩
    subst W2
    simp [hl1, opMI35, -opMakeInterface, aEnter, fun53, short_other, aCallV]
    rw [dcallS_none]
    refine (lay_wp hN1 hP (by exact one_lt (by omega)) one_low.1 one_low.2 (by omega) (by omega) hT1 h10).mono ?_
    rintro _ W3 ⟨hE3, p, B, rfl, hp, hWk⟩
    simp [hE3.1, hl1, opMI35, -opMakeInterface, aEnter, fun55, short_other, aCallV]
    rw [dcallS_none]
    refine (fill_wp hWk (layL_ok hP (by omega)) (by omega) (by omega) (by omega) (cap_rooms (layL_ok hP (by omega)))).mono ?_
    rintro _ W4 ⟨x, rm', lv, rfl, hO4, hWk4, hF⟩
    simp [hO4.1, hl1, hvv]
    have hE4 : Ext W1 W4 := ⟨Nat.le_trans hE3.1 hO4.1, fun b hb hk => by rw [hO4.2 b (Nat.lt_of_lt_of_le hb hE3.1) (fun e => by omega)]; exact hE3.2 b hb hk⟩
    exact hG p x rm' lv W4 (And.intro hE4 hF)) ?_
  rintro _ x rm lv W4 ⟨hE4, hF⟩
  exact wpK_ret ⟨.inr rfl, rfl, [.int .i64 x, .int .i64 0], by simp, (hE0.trans hE1).trans hE4, x, rm, lv, rfl, hF⟩

end Go.Proofs.YtkipaffjmcmclaaDoor

open Go Go.Eng
namespace Go.Proofs.YtkipaffjmcmclaaDoor
attribute [local congr] undef_congr WpK.congr WpS.congr WpL.congr WpC.congr WpF.congr gotS.congr callS.congr nextS.congr wantS.congr condS.congr
attribute [local irreducible] WpK
attribute [local simp] WpDr_nil WpDr_cons atS_some dwantS_true dwantS_false kindS_light kindS_float kindS_heavy lightS_value floatS_some heavyS_value heavyS_skip heavyS_enter dcallS_some doneS_eq
  isLight isFloat isPlain dLook testBit_dec dChain dLights_nil dLights_skip dLights_one dLight_nil dLight_cons dFreshes_nil dFreshes_one oneF_none oneF_some dFresh_nil dFresh_cons oneL_some oneW_true oneW_false sameV_value dPut dMay valEq arrEq listEq List.getElem?_cons Tr.get_nil dEnd
attribute [local simp] WpS_nil WpS_cons isDefer undef_false wantS_true wantS_false nextS_value nextS_skip nextS_enter callS_some gotS_some aWanted aOp aEvalF aEval opMove opAssign opPick aVal flat flat1 AAct.put opBinOp opConvert opIndex Tr.get_set Tr.get_lay aBin aResults tupled
  aCall aVals aCallB blt_dec ble_dec beq_dec aBinI_add aBinI_sub aBinI_lss aBinI_leq aBinI_gtr aBinI_geq aBinI_eql aBinI_neq index_str len_str len_slice Nat.beq_refl und2 und3 und4 und5 und39 und76 und82 und116 und22 und29 und25 und33 und46 und43 und49 und111 und113 field152 field156_0 field156_1 field156_2 field156_3 field156_4
  field78 field106 field24 field31 field27 field35 field108 field109 opBox opLoad opFieldAddr opIndexAddr acells aAddr opExtract aExtract opUnOp opAlloc opStore opMakeInterface opNilCheck opBuild aParts opBuildSlice aValW
set_option maxHeartbeats 4000000
set_option linter.unusedSimpArgs false
set_option linter.unusedVariables false
theorem z2' : Tryd.t2.zero = some (.int .i64 0) := by kernel_rfl
theorem ix28 (p o q : Nat) (hq : q < 2) : aIndexAddr T0 28 (.pointer (some ⟨p, o, none⟩)) (.int .i64 (q : Nat)) = some (.pointer (some ⟨p, o + q, none⟩)) := by
  show aIndexAddr T0 28 (.pointer (some ⟨p, o, none⟩)) (.int .i64 (Int.ofNat q)) = _
  simp only [aIndexAddr, und28, sz3, blt_dec, hq, decide_true, Nat.mul_one]
theorem ix28_0 (p o : Nat) : aIndexAddr T0 28 (.pointer (some ⟨p, o, none⟩)) (.int .i64 0) = some (.pointer (some ⟨p, o + 0, none⟩)) := ix28 p o 0 (by omega)
theorem ix28_1 (p o : Nat) : aIndexAddr T0 28 (.pointer (some ⟨p, o, none⟩)) (.int .i64 1) = some (.pointer (some ⟨p, o + 1, none⟩)) := ix28 p o 1 (by omega)
theorem bs59 (W : AW) (x y z : Value) : aBuildSlice T0 W 59 1 [(0, .agg ⟨[x, y, z]⟩)] = some (.slice (some ⟨W.next, 0, none⟩) 1 2, W.newCells 66 [x, y, z]) := by kernel_rfl
theorem und59 : T0.und.get 59 = some (.slice 66) := by kernel_rfl
theorem load27 {W : AW} {p : Nat} {x y : Value} (h : Var W p 27 [x, y]) : aLoadVar T0 W 27 p 0 = some (.agg ⟨[x, y]⟩) := h.load (T := T0) und27 agg27 inf27 is27
end Go.Proofs.YtkipaffjmcmclaaDoor

open Go Go.Eng
namespace Go.Proofs.YtkipaffjmcmclaaDoor
open Go.ChangeShapes Go.WideShapes Go.ChangeAt Go.RowKit

section
variable {H : Type} {enc : TypeId × Value → H} {P : Program} {w : World}

theorem add_block (a : Addr) (n : Nat) : (a.add n).block = a.block := by unfold Addr.add; split <;> rfl
theorem add_off (a : Addr) (n : Nat) : (a.add n).off = a.off + n := by unfold Addr.add; split <;> simp_all
end

theorem own : ownKnob Tryd.prog.godebug = none := by kernel_rfl
theorem laidOut : laidOutB Tryd.prog = true := by kernel_rfl
theorem T0_globs : ∀ g u, T0.globs.get g = some u → g = 0 := fun g u h => by
  have h : (Tr.set Tr.nil 0 ()).get g = some u := h
  rw [Tr.get_set] at h
  split at h
  · assumption
  · rw [Tr.get_nil] at h; cases h

def tabL : List Int := [0, 1, 28, 2, 29, 14, 24, 3, 30, 22, 20, 15, 25, 17, 4, 8, 31, 27, 13, 23, 21, 19, 16, 7, 26, 12, 18, 6, 11, 5, 10, 9]
/-- the variable of the library lies in the world -/
theorem tab_of_laid {W : World} (h : laidMet Tryd.prog [("math/bits.deBruijn32tab", Rows.laid_math_bits_deBruijn32tab)] W) : ∀ i (h : i < tabL.length), W.cell? ⟨0, i, none⟩ = some (.int .u8 tabL[i]) := by
  have hg : Tryd.prog.globalNamed "math/bits.deBruijn32tab" = some 0 := by kernel_rfl
  have ht := Lib.tabIs_of_head (P := Tryd.prog) (W := W) (k := .u8) (zs := tabL) (rest := []) (t := 161) (e := 5) (n := 32) hg (by kernel_rfl) Tryd.underlying161 Tryd.underlying5 (by kernel_rfl) (by kernel_rfl) h
  intro i hi
  have := ht.cell hg i hi
  rw [this, List.getD_eq_getElem?_getD, List.getElem?_eq_getElem hi]; rfl
theorem tab_cells {W : World} (h : ∀ i (h : i < tabL.length), W.cell? ⟨0, i, none⟩ = some (.int .u8 tabL[i])) : isCells W 0 = true ∧ 0 < (embW W).next ∧ tabsIn T0 T0.tabs (embW W) = true := by
  have h0 := h 0 (by decide)
  have hc := isCells_cell h0
  refine ⟨hc, isCells_lt hc, ?_⟩
  have key : tabIn ⟨0, tabL.map (Value.int .u8)⟩ (embW W) = true := by
    unfold isCells at hc
    split at hc
    case h_2 => cases hc
    rename_i c el fz ho
    unfold tabIn
    simp only [embW_get, ho, Option.map_some, embO]
    have hcell : ∀ i (hi : i < tabL.length), c[i]? = some (.int .u8 tabL[i]) := fun i hi => by
      have := h i hi
      simpa [World.cell?, ho] using this
    have hsz : tabL.length ≤ c.size := by
      have := (Array.getElem?_eq_some_iff.1 (hcell 31 (by decide))).1
      show 32 ≤ c.size; omega
    have htake : (Tr.nil.layO 0 (c.toList.map (absV W))).take 0 (tabL.map (Value.int .u8)).length = some (tabL.map (Value.int .u8)) := by
      refine take_get _ _ 0 _ rfl (fun j hj => ?_)
      have hj' : j < tabL.length := by simpa using hj
      rw [Nat.zero_add, Tr.get_layO _ _ _ _ (.inl (Tr.get_nil _)), if_pos (by simp; omega)]
      simp only [Nat.sub_zero, List.getElem?_map, Array.getElem?_toList, hcell j hj', Option.map_some, Option.getD_some, List.getElem?_eq_getElem hj']
      rfl
    rw [htake]
    simp only [ble_dec, List.length_map, hsz, decide_true]
    have hf : allB flat (tabL.map (Value.int .u8)) = true := by decide
    rw [hf]
    simp only
    have : ∀ l : List Int, listEq (l.map (Value.int .u8)) (l.map (Value.int .u8)) = true := fun l => by
      induction l with
      | nil => rfl
      | cons a l ih => simp only [List.map_cons]; exact listEq_cons (valEq_int _ _) ih
    exact this tabL
  show tabsIn T0 [⟨0, tabL.map (Value.int .u8)⟩] (embW W) = true
  simp only [tabsIn, key]
  rfl
/-- a world in which the variable lies -/
noncomputable def laidWorld (os : Os) : World :=
  let w0 := World.holding Tryd.prog os ⟨#[], #[], []⟩
  { w0 with heap := w0.heap.modify 0 fun
      | .cells _ t frozen => .cells (tabL.map (Value.int .u8)).toArray t frozen
      | o => o }
theorem laid_met (os : Os) (args : Array Value) : laidMet Tryd.prog [("math/bits.deBruijn32tab", Rows.laid_math_bits_deBruijn32tab)] ((laidWorld os).forCall (fun _ _ => 0) ⟨#[], args, []⟩).memory :=
  laidMet_of_run' 8 (by kernel_rfl) (by kernel_rfl)
theorem globs_cells {W : World} (h : isCells W 0 = true) : ∀ g u, T0.globs.get g = some u → isCells W g = true := fun g u hu => by
  rw [T0_globs g u hu]; exact h
end Go.Proofs.YtkipaffjmcmclaaDoor

open Go Go.Eng
namespace Go.Proofs.YtkipaffjmcmclaaDoor
open Go.ChangeShapes Go.WideShapes Go.ChangeAt Go.RowKit
/-! ### arguments that are sliced, arrays of two -/
theorem absV_row2 {w : World} {a : Addr} {n c : Nat} (h : 0 < c → ∃ v, w.cell? a = some v) (hn : n ≤ c) :
    ∃ a' c', absV w (.slice (some a) n c) = some (.slice a' n c') ∧ (0 < c → a' = some ⟨a.block, a.off, none⟩) ∧ SlOk (.slice a' n c') n := by
  by_cases hc : 0 < c
  · obtain ⟨v, hv⟩ := h hc
    have hs := cell_spot hv
    have hb := isCells_cell hv
    obtain ⟨b, o, s⟩ := a
    simp only at hs hb; subst hs
    exact ⟨some ⟨b, o, none⟩, 2 * c, by simp [absV, hb], fun _ => rfl, .inr (.inl ⟨b, o, c, rfl, hn⟩)⟩
  · obtain rfl : c = 0 := by omega
    obtain rfl : n = 0 := by omega
    obtain ⟨b, o, s⟩ := a
    cases s with
    | none =>
      by_cases hb : isCells w b = true
      · exact ⟨some ⟨b, o, none⟩, 0, by simp [absV, hb], fun x => absurd x hc, .inr (.inl ⟨b, o, 0, rfl, by omega⟩)⟩
      · exact ⟨some ⟨0, 0, some 1⟩, 0, by simp [absV, hb], fun x => absurd x hc, .inr (.inr ⟨rfl, rfl⟩)⟩
    | some s => exact ⟨some ⟨0, 0, some 1⟩, 0, rfl, fun x => absurd x hc, .inr (.inr ⟨rfl, rfl⟩)⟩
section
variable {H : Type} {enc : TypeId × Value → H} {P : Program} {w : World}
theorem tris_in2 {t e : TypeId} {f0 f1 f2 : Field} {fuel : Nat} {held : Bool} {v : Value} {x : DataW H × List MemPlace} (ht : P.underlying t = some (.slice e)) (he : P.underlying e = some (.struct #[f0, f1, f2])) (hc : P.cellsOf e = 3)
    (o0 : f0.offset = 0) (o1 : f1.offset = 1) (o2 : f2.offset = 2) (c0 : P.cellsOf f0.type = 1) (c1 : P.cellsOf f1.type = 1) (c2 : P.cellsOf f2.type = 1) (u0 : P.underlying f0.type = some (.int .i64)) (u1 : P.underlying f1.type = some (.int .i64)) (u2 : P.underlying f2.type = some (.int .i64))
    (h : DataW.trod enc P w 0 (fun _ => true) held fuel t [v] = some x) : ∃ u l, absV w v = some u ∧ TriIn (embW w) u l ∧ l.length < 9223372036854775808 ∧ SlOk u l.length := by
  rcases Deep.open_slice ht h with ⟨h1, _⟩ | ⟨a, len, cap, m, n, D, Pl, h1, _, h2, h3, hm, _, h4⟩
  · cases h1
    exact ⟨.slice none 0 0, [], rfl, ⟨none, 0, rfl, fun i a hi => by simp at hi⟩, by simp, .inl ⟨rfl, rfl⟩⟩
  · cases h1
    simp only [if_true] at hm
    subst hm
    have each : ∀ i, i < m → ∃ z : Tri, w.cell? (a.add (i * 3)) = some (.int .i64 z.1) ∧ w.cell? (a.add (i * 3 + 1)) = some (.int .i64 z.2.1) ∧ w.cell? (a.add (i * 3 + 2)) = some (.int .i64 z.2.2) := by
      intro i hi
      obtain ⟨cs', g1, g2⟩ := h4 i hi
      rw [hc] at g1
      obtain ⟨_, hlen, hcell⟩ := World.cells?_some g1
      obtain ⟨y0, y1, y2, k, _, _, q0, q1, q2⟩ := Deep.trod_struct3 he g2
      match cs', hlen with
      | [x0, x1, x2], _ =>
        simp [o0, o1, o2, c0, c1, c2] at q0 q1 q2
        obtain ⟨z0, e0, _⟩ := DataW.trod_int u0 q0
        obtain ⟨z1, e1, _⟩ := DataW.trod_int u1 q1
        obtain ⟨z2, e2, _⟩ := DataW.trod_int u2 q2
        cases e0; cases e1; cases e2
        have k0 := hcell 0 (by omega)
        have k1 := hcell 1 (by omega)
        have k2 := hcell 2 (by omega)
        rw [Go.Deep.add_add] at k0 k1 k2
        exact ⟨(z0, z1, z2), by simpa using k0, by simpa using k1, by simpa using k2⟩
    obtain ⟨Z, hZ⟩ := Deep.choose_lt each
    obtain ⟨a', c', g4, g5, g6⟩ := absV_row2 (w := w) (a := a) (n := len) (c := m) (fun hc => ⟨_, by simpa [Addr.add] using (hZ 0 hc).1⟩) h2
    refine ⟨_, (List.range len).map Z, g4, ⟨a', c', by simp, fun i z hi => ?_⟩, by simp; unfold maxLen at h3; omega, by simpa using g6⟩
    have hi' : i < len := by
      have := (List.getElem?_eq_some_iff.1 hi).1
      simpa using this
    simp only [List.getElem?_map, List.getElem?_range hi', Option.map_some, Option.some.injEq] at hi
    subst hi
    obtain ⟨k0, k1, k2⟩ := hZ i (by omega)
    have e0 := emb_has k0 (u := .int .i64 (Z i).1) rfl
    have e1 := emb_has k1 (u := .int .i64 (Z i).2.1) rfl
    have e2 := emb_has k2 (u := .int .i64 (Z i).2.2) rfl
    rw [add_block, add_off] at e0 e1 e2
    refine ⟨a.block, a.off, g5 (by omega), ?_, ?_, ?_⟩
    · rw [Nat.mul_comm]; exact e0
    · rw [Nat.mul_comm, Nat.add_assoc]; exact e1
    · rw [Nat.mul_comm, Nat.add_assoc]; exact e2
/-- an array of two numbers -/
theorem arr2_in {t e : TypeId} {base : Nat} {spare : Nat → Bool} {held : Bool} {r : Reach} {b0 : Nat} {v : Value} {d : DataW H} {p : List MemPlace} (ht : P.underlying t = some (.array 2 e)) (he : P.underlying e = some (.int .i64)) (hc : P.cellsOf e = 1) (hct : P.cellsOf t = 2)
    (hv : Value.okWide P w r b0 t v) (h : DataW.Trod enc P w base spare held t v d p) : ∃ a b : Int, v = .agg #[.int .i64 a, .int .i64 b] := by
  simp only [Value.okWide, ht] at hv
  obtain ⟨cs, rfl, hsz, _⟩ := hv
  obtain ⟨c0, c1, rfl⟩ := Joins.array2 (hsz.trans hct)
  obtain ⟨fuel, hf⟩ := h
  obtain ⟨xs, m, _, _, _, hl, hel⟩ := DataW.trod_array ht hf
  have h0 := hel 0 (by omega)
  have h1 := hel 1 (by omega)
  rw [List.getElem?_eq_getElem (by omega)] at h0 h1
  simp [hc, Value.cells] at h0 h1
  obtain ⟨z0, e0, _⟩ := DataW.trod_int he h0
  obtain ⟨z1, e1, _⟩ := DataW.trod_int he h1
  cases e0; cases e1
  exact ⟨z0, z1, rfl⟩
end
end Go.Proofs.YtkipaffjmcmclaaDoor

open Go Go.Eng
namespace Go.Proofs.YtkipaffjmcmclaaDoor
attribute [local congr] undef_congr WpK.congr WpS.congr WpL.congr WpC.congr WpF.congr gotS.congr callS.congr nextS.congr wantS.congr condS.congr
attribute [local irreducible] WpK
attribute [local simp] WpDr_nil WpDr_cons atS_some dwantS_true dwantS_false kindS_light kindS_float kindS_heavy lightS_value floatS_some heavyS_value heavyS_skip heavyS_enter dcallS_some doneS_eq
  isLight isFloat isPlain dLook testBit_dec dChain dLights_nil dLights_skip dLights_one dLight_nil dLight_cons dFreshes_nil dFreshes_one oneF_none oneF_some dFresh_nil dFresh_cons oneL_some oneW_true oneW_false sameV_value dPut dMay valEq arrEq listEq List.getElem?_cons Tr.get_nil dEnd
attribute [local simp] WpS_nil WpS_cons isDefer undef_false wantS_true wantS_false nextS_value nextS_skip nextS_enter callS_some gotS_some aWanted aOp aEvalF aEval opMove opAssign opPick aVal flat flat1 AAct.put opBinOp opConvert opIndex Tr.get_set Tr.get_lay aBin aResults tupled
  aCall aVals aCallB blt_dec ble_dec beq_dec aBinI_add aBinI_sub aBinI_lss aBinI_leq aBinI_gtr aBinI_geq aBinI_eql aBinI_neq index_str len_str len_slice Nat.beq_refl und2 und3 und4 und5 und39 und76 und82 und116 und22 und29 und25 und33 und46 und43 und49 und111 und113 field152 field156_0 field156_1 field156_2 field156_3 field156_4
  field78 field106 field24 field31 field27 field35 field108 field109 opBox opLoad opFieldAddr opIndexAddr acells aAddr opExtract aExtract opUnOp opAlloc opStore opMakeInterface opNilCheck opBuild aParts opBuildSlice aValW
set_option maxHeartbeats 4000000
set_option linter.unusedSimpArgs false
set_option linter.unusedVariables false
/-! ### flows -/
/-- no flow anywhere -/
def zeros24 : List Int := List.replicate 24 0
/-- what an arc carries out of a place, less what it carries in -/
def net1 (p : Nat) (q : Tri × Int) : Int := (if q.1.1 = p then q.2 else 0) - (if q.1.2.1 = p then q.2 else 0)
def netZ (z : List (Tri × Int)) (p : Nat) : Int := (z.map (net1 p)).sum
/-- are the numbers within the capacities? -/
def capsOk (z : List (Tri × Int)) : Prop := ∀ q ∈ z, 0 ≤ q.2 ∧ q.2 ≤ q.1.2.2
def isFl (P s t : Nat) (l : List Tri) (fl : List Int) : Prop := fl.length = l.length ∧ capsOk (l.zip fl) ∧ ∀ p : Nat, p < P → p ≠ s → p ≠ t → netZ (l.zip fl) p = 0
def netL (z : List (Tri × Int)) : List Int := (List.range 24).map (netZ z)
theorem Only_refl {K : Nat → Prop} (W : AW) : Only K W W := ⟨Nat.le_refl _, fun _ _ _ => rfl⟩
end Go.Proofs.YtkipaffjmcmclaaDoor

open Go Go.Eng
namespace Go.Proofs.YtkipaffjmcmclaaDoor
attribute [local congr] undef_congr WpK.congr WpS.congr WpL.congr WpC.congr WpF.congr gotS.congr callS.congr nextS.congr wantS.congr condS.congr
attribute [local irreducible] WpK
attribute [local simp] WpDr_nil WpDr_cons atS_some dwantS_true dwantS_false kindS_light kindS_float kindS_heavy lightS_value floatS_some heavyS_value heavyS_skip heavyS_enter dcallS_some doneS_eq
  isLight isFloat isPlain dLook testBit_dec dChain dLights_nil dLights_skip dLights_one dLight_nil dLight_cons dFreshes_nil dFreshes_one oneF_none oneF_some dFresh_nil dFresh_cons oneL_some oneW_true oneW_false sameV_value dPut dMay valEq arrEq listEq List.getElem?_cons Tr.get_nil dEnd
attribute [local simp] WpS_nil WpS_cons isDefer undef_false wantS_true wantS_false nextS_value nextS_skip nextS_enter callS_some gotS_some aWanted aOp aEvalF aEval opMove opAssign opPick aVal flat flat1 AAct.put opBinOp opConvert opIndex Tr.get_set Tr.get_lay aBin aResults tupled
  aCall aVals aCallB blt_dec ble_dec beq_dec aBinI_add aBinI_sub aBinI_lss aBinI_leq aBinI_gtr aBinI_geq aBinI_eql aBinI_neq index_str len_str len_slice Nat.beq_refl und2 und3 und4 und5 und39 und76 und82 und116 und22 und29 und25 und33 und46 und43 und49 und111 und113 field152 field156_0 field156_1 field156_2 field156_3 field156_4
  field78 field106 field24 field31 field27 field35 field108 field109 opBox opLoad opFieldAddr opIndexAddr acells aAddr opExtract aExtract opUnOp opAlloc opStore opMakeInterface opNilCheck opBuild aParts opBuildSlice aValW
set_option maxHeartbeats 4000000
set_option linter.unusedSimpArgs false
set_option linter.unusedVariables false
/-! ### what is near: the first cut -/
def nearS (lv : Nat → Nat) : Nat → Nat
  | 0 => 0
  | n + 1 => if 0 < lv n then nearS lv n ||| 1 <<< n else nearS lv n
theorem nearS_bit (lv : Nat → Nat) (q : Nat) : ∀ n, (nearS lv n).testBit q = (decide (q < n) && decide (0 < lv q))
  | 0 => by simp [nearS]
  | n + 1 => by
    rw [nearS]
    by_cases h : 0 < lv n
    · rw [if_pos h, Nat.testBit_or, nearS_bit lv q n, one_bit]
      by_cases e : n = q
      · subst e; simp [-testBit_dec, h]
      · have : (q < n + 1) = (q < n) := propext ⟨fun _ => by omega, fun _ => by omega⟩
        simp only [this, decide_eq_false e, Bool.or_false]
    · rw [if_neg h, nearS_bit lv q n]
      by_cases e : n = q
      · subst e; simp [h]
      · have : (q < n + 1) = (q < n) := propext ⟨fun _ => by omega, fun _ => by omega⟩
        simp only [this]
theorem wpK_cut1 {T : Tabs} {cx : Cx} {c : Code} {A : AAct} {W : AW} {Q : AExit → AAct → AW → Prop} (J : AAct → AW → Prop) (h : ∀ Q' : AExit → AAct → AW → Prop, (∀ A' W', J A' W' → Q' .normal A' W') → WpK T cx c A W Q') (h2 : ∀ A' W', J A' W' → Q .normal A' W') : WpK T cx c A W Q := h Q h2
end Go.Proofs.YtkipaffjmcmclaaDoor

open Go Go.Eng
namespace Go.Proofs.YtkipaffjmcmclaaDoor
attribute [local congr] undef_congr WpK.congr WpS.congr WpL.congr WpC.congr WpF.congr gotS.congr callS.congr nextS.congr wantS.congr condS.congr
attribute [local irreducible] WpK
attribute [local simp] WpDr_nil WpDr_cons atS_some dwantS_true dwantS_false kindS_light kindS_float kindS_heavy lightS_value floatS_some heavyS_value heavyS_skip heavyS_enter dcallS_some doneS_eq
  isLight isFloat isPlain dLook testBit_dec dChain dLights_nil dLights_skip dLights_one dLight_nil dLight_cons dFreshes_nil dFreshes_one oneF_none oneF_some dFresh_nil dFresh_cons oneL_some oneW_true oneW_false sameV_value dPut dMay valEq arrEq listEq List.getElem?_cons Tr.get_nil dEnd
attribute [local simp] WpS_nil WpS_cons isDefer undef_false wantS_true wantS_false nextS_value nextS_skip nextS_enter callS_some gotS_some aWanted aOp aEvalF aEval opMove opAssign opPick aVal flat flat1 AAct.put opBinOp opConvert opIndex Tr.get_set Tr.get_lay aBin aResults tupled
  aCall aVals aCallB blt_dec ble_dec beq_dec aBinI_add aBinI_sub aBinI_lss aBinI_leq aBinI_gtr aBinI_geq aBinI_eql aBinI_neq index_str len_str len_slice Nat.beq_refl und2 und3 und4 und5 und39 und76 und82 und116 und22 und29 und25 und33 und46 und43 und49 und111 und113 field152 field156_0 field156_1 field156_2 field156_3 field156_4
  field78 field106 field24 field31 field27 field35 field108 field109 opBox opLoad opFieldAddr opIndexAddr acells aAddr opExtract aExtract opUnOp opAlloc opStore opMakeInterface opNilCheck opBuild aParts opBuildSlice aValW
set_option maxHeartbeats 4000000
set_option linter.unusedSimpArgs false
set_option linter.unusedVariables false
/-! ### loops over the places of a set -/
/-- a set without its least place -/
def dropLow (x : Nat) : Nat := x &&& (x - 1)
end Go.Proofs.YtkipaffjmcmclaaDoor

open Go Go.Eng
namespace Go.Proofs.YtkipaffjmcmclaaDoor
attribute [local congr] undef_congr WpK.congr WpS.congr WpL.congr WpC.congr WpF.congr gotS.congr callS.congr nextS.congr wantS.congr condS.congr
attribute [local irreducible] WpK
attribute [local simp] WpDr_nil WpDr_cons atS_some dwantS_true dwantS_false kindS_light kindS_float kindS_heavy lightS_value floatS_some heavyS_value heavyS_skip heavyS_enter dcallS_some doneS_eq
  isLight isFloat isPlain dLook testBit_dec dChain dLights_nil dLights_skip dLights_one dLight_nil dLight_cons dFreshes_nil dFreshes_one oneF_none oneF_some dFresh_nil dFresh_cons oneL_some oneW_true oneW_false sameV_value dPut dMay valEq arrEq listEq List.getElem?_cons Tr.get_nil dEnd
attribute [local simp] WpS_nil WpS_cons isDefer undef_false wantS_true wantS_false nextS_value nextS_skip nextS_enter callS_some gotS_some aWanted aOp aEvalF aEval opMove opAssign opPick aVal flat flat1 AAct.put opBinOp opConvert opIndex Tr.get_set Tr.get_lay aBin aResults tupled
  aCall aVals aCallB blt_dec ble_dec beq_dec aBinI_add aBinI_sub aBinI_lss aBinI_leq aBinI_gtr aBinI_geq aBinI_eql aBinI_neq index_str len_str len_slice Nat.beq_refl und2 und3 und4 und5 und39 und76 und82 und116 und22 und29 und25 und33 und46 und43 und49 und111 und113 field152 field156_0 field156_1 field156_2 field156_3 field156_4
  field78 field106 field24 field31 field27 field35 field108 field109 opBox opLoad opFieldAddr opIndexAddr acells aAddr opExtract aExtract opUnOp opAlloc opStore opMakeInterface opNilCheck opBuild aParts opBuildSlice aValW
set_option maxHeartbeats 4000000
set_option linter.unusedSimpArgs false
set_option linter.unusedVariables false
/-! ### the list of a set -/
theorem zero46 : aZero T0 46 = some (.slice none 0 0) := by kernel_rfl
end Go.Proofs.YtkipaffjmcmclaaDoor

open Go Go.Eng
namespace Go.Proofs.YtkipaffjmcmclaaDoor
attribute [local congr] undef_congr WpK.congr WpS.congr WpL.congr WpC.congr WpF.congr gotS.congr callS.congr nextS.congr wantS.congr condS.congr
attribute [local irreducible] WpK
attribute [local simp] WpDr_nil WpDr_cons atS_some dwantS_true dwantS_false kindS_light kindS_float kindS_heavy lightS_value floatS_some heavyS_value heavyS_skip heavyS_enter dcallS_some doneS_eq
  isLight isFloat isPlain dLook testBit_dec dChain dLights_nil dLights_skip dLights_one dLight_nil dLight_cons dFreshes_nil dFreshes_one oneF_none oneF_some dFresh_nil dFresh_cons oneL_some oneW_true oneW_false sameV_value dPut dMay valEq arrEq listEq List.getElem?_cons Tr.get_nil dEnd
attribute [local simp] WpS_nil WpS_cons isDefer undef_false wantS_true wantS_false nextS_value nextS_skip nextS_enter callS_some gotS_some aWanted aOp aEvalF aEval opMove opAssign opPick aVal flat flat1 AAct.put opBinOp opConvert opIndex Tr.get_set Tr.get_lay aBin aResults tupled
  aCall aVals aCallB blt_dec ble_dec beq_dec aBinI_add aBinI_sub aBinI_lss aBinI_leq aBinI_gtr aBinI_geq aBinI_eql aBinI_neq index_str len_str len_slice Nat.beq_refl und2 und3 und4 und5 und39 und76 und82 und116 und22 und29 und25 und33 und46 und43 und49 und111 und113 field152 field156_0 field156_1 field156_2 field156_3 field156_4
  field78 field106 field24 field31 field27 field35 field108 field109 opBox opLoad opFieldAddr opIndexAddr acells aAddr opExtract aExtract opUnOp opAlloc opStore opMakeInterface opNilCheck opBuild aParts opBuildSlice aValW
set_option maxHeartbeats 4000000
set_option linter.unusedSimpArgs false
set_option linter.unusedVariables false
/-! ### a greatest flow is a least cut -/
/-- what may go from a set to the other places -/
def capL (T : Nat) (L : List Stp) (rm : Nat → Int) : Nat → Int
  | 0 => 0
  | i + 1 => capL T L rm i + (if T.testBit (stp L i).a && !T.testBit (stp L i).b then rm (2 * i) else 0) + (if T.testBit (stp L i).b && !T.testBit (stp L i).a then rm (2 * i + 1) else 0)
/-- what goes out of each place of a set, all together -/
def sumT (T : Nat) (g : Nat → Int) : Nat → Int
  | 0 => 0
  | n + 1 => sumT T g n + (if T.testBit n then g n else 0)
theorem sumT_add (T : Nat) (g h : Nat → Int) : ∀ n, sumT T (fun q => g q + h q) n = sumT T g n + sumT T h n
  | 0 => rfl
  | n + 1 => by
    rw [sumT, sumT, sumT, sumT_add T g h n]
    split <;> omega
theorem sumT_congr {T : Nat} {g h : Nat → Int} : ∀ {n : Nat}, (∀ q, q < n → g q = h q) → sumT T g n = sumT T h n
  | 0, _ => rfl
  | n + 1, he => by
    rw [sumT, sumT, sumT_congr (fun q hq => he q (by omega)), he n (by omega)]
theorem sumT_zero (T : Nat) : ∀ n, sumT T (fun _ => 0) n = 0
  | 0 => rfl
  | n + 1 => by rw [sumT, sumT_zero T n]; split <;> rfl
theorem sumT_one (T a : Nat) (f : Int) : ∀ n, sumT T (fun q => if a = q then f else 0) n = if a < n && T.testBit a then f else 0
  | 0 => by simp [sumT]
  | n + 1 => by
    rw [sumT, sumT_one T a f n]
    by_cases e : a = n
    · subst e
      cases T.testBit a <;> simp
    · have e1 : (a < n + 1) = (a < n) := propext ⟨fun _ => by omega, fun _ => by omega⟩
      simp only [e1, if_neg e]
      split <;> split <;> simp
/-- within a set nothing is lost -/
def inner (T : Nat) (L : List Stp) (rm : Nat → Int) : Nat → Int
  | 0 => 0
  | i + 1 => inner T L rm i + (if T.testBit (stp L i).a && T.testBit (stp L i).b then rm (2 * i) + rm (2 * i + 1) else 0)
theorem sum_out {T : Nat} {L : List Stp} {rm : Nat → Int} (hL : StpsOk L) : ∀ i, i ≤ L.length → sumT T (fun q => outN L rm q i) 24 = capL T L rm i + inner T L rm i
  | 0, _ => by
    have : (fun q => outN L rm q 0) = fun _ => 0 := rfl
    rw [this, sumT_zero]; rfl
  | i + 1, hi => by
    have h1 := hL.ok i (by omega)
    have e : sumT T (fun q => outN L rm q (i + 1)) 24 = sumT T (fun q => outN L rm q i) 24 + sumT T (fun q => if (stp L i).a = q then rm (2 * i) else 0) 24 + sumT T (fun q => if (stp L i).b = q then rm (2 * i + 1) else 0) 24 := by
      rw [← sumT_add, ← sumT_add]
      refine sumT_congr (fun q _ => ?_)
      rw [outN, Int.add_assoc]
    rw [e, sum_out hL i (by omega), sumT_one, sumT_one, capL, inner]
    have e1 : decide ((stp L i).a < 24) = true := decide_eq_true h1.1
    have e2 : decide ((stp L i).b < 24) = true := decide_eq_true h1.2.1
    rw [e1, e2]
    cases T.testBit (stp L i).a <;> cases T.testBit (stp L i).b <;> simp <;> omega
theorem inner_congr {T : Nat} {L : List Stp} {rm rm' : Nat → Int} : ∀ {i : Nat}, (∀ y, y < i → rm (2 * y) + rm (2 * y + 1) = rm' (2 * y) + rm' (2 * y + 1)) → inner T L rm i = inner T L rm' i
  | 0, _ => rfl
  | i + 1, h => by rw [inner, inner, inner_congr (fun y hy => h y (by omega)), h i (by omega)]
theorem capL_nn {T : Nat} {L : List Stp} {rm : Nat → Int} : ∀ {i : Nat}, (∀ y, y < 2 * i → 0 ≤ rm y) → 0 ≤ capL T L rm i
  | 0, _ => by simp [capL]
  | i + 1, h => by
    have h1 := capL_nn (T := T) (L := L) (rm := rm) (i := i) (fun y hy => h y (by omega))
    have h2 := h (2 * i) (by omega)
    have h3 := h (2 * i + 1) (by omega)
    rw [capL]; split <;> split <;> omega
/-- nothing may go: each half that leads out is full -/
theorem capL_zero {T : Nat} {L : List Stp} {rm : Nat → Int} : ∀ {i : Nat}, (∀ y, y < 2 * i → 0 ≤ rm y) → (capL T L rm i = 0 ↔ ∀ y, y < 2 * i → T.testBit (hFrom L y) = true → T.testBit (hTo L y) = false → rm y = 0)
  | 0, _ => by simp [capL]
  | i + 1, h => by
    have h0 := capL_nn (T := T) (L := L) (rm := rm) (i := i) (fun y hy => h y (by omega))
    have h1 := capL_zero (T := T) (L := L) (rm := rm) (i := i) (fun y hy => h y (by omega))
    have h2 := h (2 * i) (by omega)
    have h3 := h (2 * i + 1) (by omega)
    have g1 : hFrom L (2 * i) = (stp L i).a := by unfold hFrom; rw [if_pos (by omega), show 2 * i / 2 = i from by omega]
    have g2 : hFrom L (2 * i + 1) = (stp L i).b := by unfold hFrom; rw [if_neg (by omega), show (2 * i + 1) / 2 = i from by omega]
    have g3 : hTo L (2 * i) = (stp L i).b := by unfold hTo; rw [if_pos (by omega), show 2 * i / 2 = i from by omega]
    have g4 : hTo L (2 * i + 1) = (stp L i).a := by unfold hTo; rw [if_neg (by omega), show (2 * i + 1) / 2 = i from by omega]
    rw [capL]
    constructor
    · intro he y hy hf ht
      have hz : capL T L rm i = 0 := by split at he <;> split at he <;> omega
      by_cases e1 : y = 2 * i
      · subst e1; rw [g1] at hf; rw [g3] at ht; rw [hf, ht] at he; simp at he; omega
      · by_cases e2 : y = 2 * i + 1
        · subst e2; rw [g2] at hf; rw [g4] at ht; rw [hf, ht] at he; simp at he; omega
        · exact h1.1 hz y (by omega) hf ht
    · intro hall
      rw [h1.2 (fun y hy => hall y (by omega))]
      have q1 := hall (2 * i) (by omega)
      have q2 := hall (2 * i + 1) (by omega)
      rw [g1, g3] at q1
      rw [g2, g4] at q2
      cases ha : T.testBit (stp L i).a <;> cases hb : T.testBit (stp L i).b <;> simp [-testBit_dec, ha, hb] at q1 q2 ⊢ <;> omega
theorem flip_two (i : Nat) : flip (2 * i) = 2 * i + 1 := by unfold flip; rw [if_pos (by omega)]
/-- what has gone has gone over the cut -/
theorem cut_gone {L : List Stp} {s t T : Nat} {rm rm' : Nat → Int} {x : Int} (hL : StpsOk L) (hs : s < 24) (ht : t < 24) (hR : Rooms L rm) (hR' : Rooms L rm') (hG : Gone L s t rm rm' x) (h1 : T.testBit s = true) (h2 : T.testBit t = false) :
    capL T L rm' L.length = capL T L rm L.length - x := by
  have e1 := sum_out (T := T) (rm := rm) hL L.length (Nat.le_refl _)
  have e2 := sum_out (T := T) (rm := rm') hL L.length (Nat.le_refl _)
  have e3 : inner T L rm' L.length = inner T L rm L.length := inner_congr (fun y hy => by
    have a := hR'.sum (2 * y) (by omega)
    have b := hR.sum (2 * y) (by omega)
    rw [flip_two] at a b
    omega)
  have e4 : sumT T (fun q => outN L rm' q L.length) 24 = sumT T (fun q => outN L rm q L.length) 24 + sumT T (fun q => if s = q then -x else 0) 24 + sumT T (fun q => if t = q then x else 0) 24 := by
    rw [← sumT_add, ← sumT_add]
    refine sumT_congr (fun q _ => ?_)
    rw [hG q]; split <;> split <;> omega
  rw [sumT_one, sumT_one, h1, h2] at e4
  simp [hs, ht] at e4
  omega
/-- the greatest flow: its value is at most each cut's capacity; it is that of the near places, which are in each cut of that capacity -/
theorem Filled.cuts {L : List Stp} {s t : Nat} {rm rm' : Nat → Int} {x : Int} {lv : Nat → Nat} (h : Filled L s t rm x rm' lv) (hL : StpsOk L) (hs : s < 24) (ht : t < 24) (hR : Rooms L rm) :
    (∀ T, T.testBit s = true → T.testBit t = false → x ≤ capL T L rm L.length ∧ (x = capL T L rm L.length → ∀ q, q < 24 → 0 < lv q → T.testBit q = true)) ∧ x = capL (nearS lv 24) L rm L.length ∧ (nearS lv 24).testBit s = true ∧ (nearS lv 24).testBit t = false := by
  have hnn := fun (i : Nat) (hi : i = L.length) y (hy : y < 2 * i) => h.rooms.nn y (by omega)
  have hn := hnn L.length rfl
  have n1 : (nearS lv 24).testBit s = true := by rw [nearS_bit, h.lev.src]; simp [hs]
  have n2 : (nearS lv 24).testBit t = false := by rw [nearS_bit, h.snk]; simp
  refine ⟨fun T h1 h2 => ?_, ?_, n1, n2⟩
  · have hc := cut_gone hL hs ht hR h.rooms h.gone h1 h2
    have h0 := capL_nn (T := T) (L := L) hn
    refine ⟨by omega, fun he => ?_⟩
    have hz := (capL_zero (T := T) (L := L) hn).1 (by omega)
    have key : ∀ n q, q < 24 → 0 < lv q → lv q ≤ n → T.testBit q = true := by
      intro n
      induction n with
      | zero => intro q _ h3 h4; omega
      | succ n ih =>
        intro q hq h3 h4
        rcases h.lev.pre q hq h3 with rfl | ⟨y, hy, hto, hr, hf1, hf2⟩
        · exact h1
        · have hb := (hL.to hy).2.1
          have := ih _ hb hf1 (by omega)
          cases hT : T.testBit q with
          | true => rfl
          | false => exact absurd (hz y hy this (by rw [hto]; exact hT)) hr
    exact fun q hq h3 => key (lv q) q hq h3 (Nat.le_refl _)
  · have hc := cut_gone hL hs ht hR h.rooms h.gone n1 n2
    have hz := (capL_zero (T := nearS lv 24) (L := L) hn).2 (fun y hy h3 h4 => by
      apply Classical.byContradiction
      intro hr
      have hb := hL.to hy
      rw [nearS_bit] at h3 h4
      simp [hb.1, hb.2.1] at h3 h4
      have := h.closed y hy h3 hr
      omega)
    omega
theorem atP_one (s q : Nat) : atP (1 <<< s) s q = q := by
  unfold atP; rw [one_bit]; split
  · rename_i h; simpa using h
  · rfl
theorem capL_Q (T : Nat) (s : Nat) (l : List Quad) : ∀ i, i ≤ l.length → capL T (layL (1 <<< s) s l) (hCap (layL (1 <<< s) s l)) i = capQ T (l.take i)
  | 0, _ => by simp [capL, capQ]
  | i + 1, hi => by
    have ha : l[i]? = some l[i] := List.getElem?_eq_getElem (by omega)
    generalize l[i] = a at ha
    rw [capL, capL_Q T s l i (by omega), capQ_take ha, stp_lay ha]
    have g1 : hCap (layL (1 <<< s) s l) (2 * i) = a.2.2.1 := by unfold hCap; rw [if_pos (by omega), show 2 * i / 2 = i from by omega, stp_lay ha]
    have g2 : hCap (layL (1 <<< s) s l) (2 * i + 1) = a.2.2.2 := by unfold hCap; rw [if_neg (by omega), show (2 * i + 1) / 2 = i from by omega, stp_lay ha]
    rw [g1, g2]
    simp only [atP_one, out1]
    omega
theorem layL_len (f s : Nat) (l : List Quad) : (layL f s l).length = l.length := by simp [layL]

end Go.Proofs.YtkipaffjmcmclaaDoor

open Go Go.Eng
namespace Go.Proofs.YtkipaffjmcmclaaDoor
attribute [local congr] undef_congr WpK.congr WpS.congr WpL.congr WpC.congr WpF.congr gotS.congr callS.congr nextS.congr wantS.congr condS.congr
attribute [local irreducible] WpK
attribute [local simp] WpDr_nil WpDr_cons atS_some dwantS_true dwantS_false kindS_light kindS_float kindS_heavy lightS_value floatS_some heavyS_value heavyS_skip heavyS_enter dcallS_some doneS_eq
  isLight isFloat isPlain dLook testBit_dec dChain dLights_nil dLights_skip dLights_one dLight_nil dLight_cons dFreshes_nil dFreshes_one oneF_none oneF_some dFresh_nil dFresh_cons oneL_some oneW_true oneW_false sameV_value dPut dMay valEq arrEq listEq List.getElem?_cons Tr.get_nil dEnd
attribute [local simp] WpS_nil WpS_cons isDefer undef_false wantS_true wantS_false nextS_value nextS_skip nextS_enter callS_some gotS_some aWanted aOp aEvalF aEval opMove opAssign opPick aVal flat flat1 AAct.put opBinOp opConvert opIndex Tr.get_set Tr.get_lay aBin aResults tupled
  aCall aVals aCallB blt_dec ble_dec beq_dec aBinI_add aBinI_sub aBinI_lss aBinI_leq aBinI_gtr aBinI_geq aBinI_eql aBinI_neq index_str len_str len_slice Nat.beq_refl und2 und3 und4 und5 und39 und76 und82 und116 und22 und29 und25 und33 und46 und43 und49 und111 und113 field152 field156_0 field156_1 field156_2 field156_3 field156_4
  field78 field106 field24 field31 field27 field35 field108 field109 opBox opLoad opFieldAddr opIndexAddr acells aAddr opExtract aExtract opUnOp opAlloc opStore opMakeInterface opNilCheck opBuild aParts opBuildSlice aValW
set_option maxHeartbeats 4000000
set_option linter.unusedSimpArgs false
set_option linter.unusedVariables false
/-! ### the flow that is taken -/
def flowOf (rm : Nat → Int) (n : Nat) : List Int := (List.range n).map fun i => rm (2 * i + 1)
def flowTo (rm : Nat → Int) (n i : Nat) : List Int := (List.range n).map fun j => if j < i then rm (2 * j + 1) else 0
end Go.Proofs.YtkipaffjmcmclaaDoor

open Go Go.Eng
namespace Go.Proofs.YtkipaffjmcmclaaDoor
attribute [local congr] undef_congr WpK.congr WpS.congr WpL.congr WpC.congr WpF.congr gotS.congr callS.congr nextS.congr wantS.congr condS.congr
attribute [local irreducible] WpK
attribute [local simp] WpDr_nil WpDr_cons atS_some dwantS_true dwantS_false kindS_light kindS_float kindS_heavy lightS_value floatS_some heavyS_value heavyS_skip heavyS_enter dcallS_some doneS_eq
  isLight isFloat isPlain dLook testBit_dec dChain dLights_nil dLights_skip dLights_one dLight_nil dLight_cons dFreshes_nil dFreshes_one oneF_none oneF_some dFresh_nil dFresh_cons oneL_some oneW_true oneW_false sameV_value dPut dMay valEq arrEq listEq List.getElem?_cons Tr.get_nil dEnd
attribute [local simp] WpS_nil WpS_cons isDefer undef_false wantS_true wantS_false nextS_value nextS_skip nextS_enter callS_some gotS_some aWanted aOp aEvalF aEval opMove opAssign opPick aVal flat flat1 AAct.put opBinOp opConvert opIndex Tr.get_set Tr.get_lay aBin aResults tupled
  aCall aVals aCallB blt_dec ble_dec beq_dec aBinI_add aBinI_sub aBinI_lss aBinI_leq aBinI_gtr aBinI_geq aBinI_eql aBinI_neq index_str len_str len_slice Nat.beq_refl und2 und3 und4 und5 und39 und76 und82 und116 und22 und29 und25 und33 und46 und43 und49 und111 und113 field152 field156_0 field156_1 field156_2 field156_3 field156_4
  field78 field106 field24 field31 field27 field35 field108 field109 opBox opLoad opFieldAddr opIndexAddr acells aAddr opExtract aExtract opUnOp opAlloc opStore opMakeInterface opNilCheck opBuild aParts opBuildSlice aValW
set_option maxHeartbeats 4000000
set_option linter.unusedSimpArgs false
set_option linter.unusedVariables false
/-! ### Most and Cut, ends and Has -/
theorem has50_wp {W : AW} {v : Value} {l : List Int} (h : IntL W v l) (hl : l.length < 4611686018427387904) (x : Int) : WpF T0 50 [v, .int .i64 x] W (fun u W' => W' = W ∧ u = .bool (decide (x ∈ l))) := by
  obtain ⟨A, c, rfl, hA⟩ := h
  refine wpF fun50 rfl ?_
  try simp only [wpK_assoc]
  refine wpK_reg (fun R hR => by simp []; exact hR) ?_
  try simp only [wpK_assoc]
  refine wpK_reg (fun R hR => by simp []; exact hR) ?_
  try simp only [wpK_assoc]
  refine wpK_while (I := fun k B W' => B.n = 18 ∧ B.defers = [] ∧ B.tmps.get 0 = some (.slice A l.length c) ∧ B.tmps.get 1 = some (.int .i64 x) ∧ W' = W ∧ ∃ i : Nat, k = l.length - i ∧ i ≤ l.length ∧ B.tmps.get 5 = some (.int .i64 i) ∧ ∀ (j : Nat) y, j < i → l[j]? = some y → y ≠ x)
    (J := fun B W' => B.n = 18 ∧ B.defers = [] ∧ W' = W ∧ x ∉ l) (Rt := fun B W' => B.defers = [] ∧ B.tmps.get 4 = some (.bool true) ∧ W' = W ∧ x ∈ l) (k := l.length) ?_ ?_ ?_ ?_
  · exact ⟨rfl, rfl, by simp, by simp, rfl, 0, by simp, by omega, by simp, fun j y hj => by omega⟩
  · rintro k ⟨tm, n, ds⟩ W3 ⟨hn, hd, h0, h1, rfl, i, hk, hi, h5, hno⟩ Q' hJ hRt hI
    simp only at hn hd h0 h1
    subst hn; subst hd
    simp only at h5
    try simp only [wpK_assoc]
    refine wpK_reg (fun R hR => by simp [h0, h5, len_slice und46]; exact hR) ?_
    by_cases hlt : i < l.length
    · try simp only [wpK_assoc]
      first | refine wpK_onT (by simp [hlt]) ?_ | refine wpK_outT (by simp [hlt]) ?_ | refine wpK_condT (by simp [hlt]) ?_ | refine wpK_endT (by simp [hlt]) ?_
      have ha : l[i]? = some l[i] := List.getElem?_eq_getElem hlt
      have hm : l[i] ∈ l := List.getElem_mem hlt
      generalize l[i] = y at ha hm
      obtain ⟨b, o, rfl, hh⟩ := hA i y ha
      have hx := indexAddr_slice (T := T0) und46 sz3 (b := b) (o := o) (c := c) (k := .i64) hlt
      rw [Nat.mul_one] at hx
      have hl := load_of und3 rfl hh
      refine wpK_block ?_
      by_cases e : y = x
      · try simp only [wpK_assoc]
        refine wpK_reg (fun R hR => by simp [h0, h1, h5, hx, hl, e]; exact hR) ?_
        try simp only [wpK_assoc]
        first | refine wpK_onT (by simp []) ?_ | refine wpK_outT (by simp []) ?_ | refine wpK_condT (by simp []) ?_ | refine wpK_endT (by simp []) ?_
        try simp only [wpK_assoc]
        refine wpK_reg (fun R hR => by simp []; exact hR) ?_
        exact wpK_ret (hRt _ _ ⟨rfl, by simp, rfl, e ▸ hm⟩)
      · try simp only [wpK_assoc]
        refine wpK_reg (fun R hR => by simp [h0, h1, h5, hx, hl, e]; exact hR) ?_
        try simp only [wpK_assoc]
        first | refine wpK_onF (by simp []) ?_ | refine wpK_out (by simp []) ?_ | refine wpK_condF (by simp []) ?_ | refine wpK_endF (by simp []) (wpK_skip ?_) | refine wpK_endF (by simp []) ?_
        try simp only [wpK_assoc]
        refine wpK_reg1 (fun R hR => by simp [h5]; exact hR) ?_
        refine hI (k - 1) _ _ (by omega) ⟨rfl, rfl, by simp [h0, h1], by simp [h0, h1], rfl, i + 1, by omega, by omega, by simp; exact i64_succ i (by omega), fun j z hj hz => ?_⟩
        by_cases e2 : j = i
        · subst e2; rw [ha] at hz; cases hz; exact e
        · exact hno j z (by omega) hz
    · try simp only [wpK_assoc]
      first | refine wpK_onF (by simp [hlt]) ?_ | refine wpK_out (by simp [hlt]) ?_ | refine wpK_condF (by simp [hlt]) ?_ | refine wpK_endF (by simp [hlt]) (wpK_skip ?_) | refine wpK_endF (by simp [hlt]) ?_
      refine hJ _ _ ⟨rfl, rfl, rfl, fun hm => ?_⟩
      obtain ⟨j, hj, he⟩ := List.getElem_of_mem hm
      exact hno j _ (by omega) (List.getElem?_eq_getElem hj) he
  · rintro A' W' ⟨h1, h2, rfl, h3⟩
    exact ⟨.inr rfl, h1, [.bool true], by simp [h2], rfl, by simp [h3]⟩
  · rintro ⟨tm, n, ds⟩ W' ⟨hn, hd, rfl, h3⟩
    simp only at hn hd
    subst hn; subst hd
    try simp only [wpK_assoc]
    refine wpK_reg (fun R hR => by simp []; exact hR) ?_
    exact wpK_ret ⟨.inr rfl, rfl, [.bool false], by simp, rfl, by simp [h3]⟩

end Go.Proofs.YtkipaffjmcmclaaDoor

open Go Go.Eng
namespace Go.Proofs.YtkipaffjmcmclaaDoor
attribute [local congr] undef_congr WpK.congr WpS.congr WpL.congr WpC.congr WpF.congr gotS.congr callS.congr nextS.congr wantS.congr condS.congr
attribute [local irreducible] WpK
attribute [local simp] WpDr_nil WpDr_cons atS_some dwantS_true dwantS_false kindS_light kindS_float kindS_heavy lightS_value floatS_some heavyS_value heavyS_skip heavyS_enter dcallS_some doneS_eq
  isLight isFloat isPlain dLook testBit_dec dChain dLights_nil dLights_skip dLights_one dLight_nil dLight_cons dFreshes_nil dFreshes_one oneF_none oneF_some dFresh_nil dFresh_cons oneL_some oneW_true oneW_false sameV_value dPut dMay valEq arrEq listEq List.getElem?_cons Tr.get_nil dEnd
attribute [local simp] WpS_nil WpS_cons isDefer undef_false wantS_true wantS_false nextS_value nextS_skip nextS_enter callS_some gotS_some aWanted aOp aEvalF aEval opMove opAssign opPick aVal flat flat1 AAct.put opBinOp opConvert opIndex Tr.get_set Tr.get_lay aBin aResults tupled
  aCall aVals aCallB blt_dec ble_dec beq_dec aBinI_add aBinI_sub aBinI_lss aBinI_leq aBinI_gtr aBinI_geq aBinI_eql aBinI_neq index_str len_str len_slice Nat.beq_refl und2 und3 und4 und5 und39 und76 und82 und116 und22 und29 und25 und33 und46 und43 und49 und111 und113 field152 field156_0 field156_1 field156_2 field156_3 field156_4
  field78 field106 field24 field31 field27 field35 field108 field109 opBox opLoad opFieldAddr opIndexAddr acells aAddr opExtract aExtract opUnOp opAlloc opStore opMakeInterface opNilCheck opBuild aParts opBuildSlice aValW
set_option maxHeartbeats 4000000
set_option linter.unusedSimpArgs false
set_option linter.unusedVariables false
/-! ### the first cut, as a list -/
/-- what is near is a place of the network -/
theorem near_in {P : Nat} {l : List Quad} {s t : Nat} {x : Int} {rm : Nat → Int} {lv : Nat → Nat} (hin : PlanIn P l) (hs : s < P) (F : Filled (layL (1 <<< s) s l) s t (hCap (layL (1 <<< s) s l)) x rm lv) :
    (∀ j, P ≤ j → (nearS lv 24).testBit j = false) ∧ nearS lv 24 < 2 ^ P := by
  have key : ∀ j, P ≤ j → (nearS lv 24).testBit j = false := by
    intro j hj
    rw [nearS_bit]
    by_cases h24 : j < 24
    · by_cases h0 : 0 < lv j
      · exfalso
        rcases F.lev.pre j h24 h0 with rfl | ⟨y, hy, hto, _, _, _⟩
        · omega
        · rw [layL_len] at hy
          have ha : l[y / 2]? = some (l[y / 2]'(by omega)) := List.getElem?_eq_getElem (by omega)
          have hm : l[y / 2]'(by omega) ∈ l := List.getElem_mem _
          generalize l[y / 2]'_ = a at ha hm
          have := hin.step hm
          unfold hTo at hto
          rw [stp_lay ha] at hto
          simp only [atP_one] at hto
          split at hto <;> omega
      · simp [h0]
    · simp [h24]
  exact ⟨key, Nat.lt_pow_two_of_testBit _ (fun i hi => key i hi)⟩
theorem filled_capQ {P : Int} {l : List Quad} {s t : Nat} {x : Int} {rm : Nat → Int} {lv : Nat → Nat} (hin : PlanIn P l) (hs : s < 24) (ht : t < 24) (F : Filled (layL (1 <<< s) s l) s t (hCap (layL (1 <<< s) s l)) x rm lv) :
    (∀ T, T.testBit s = true → T.testBit t = false → x ≤ capQ T l ∧ (x = capQ T l → ∀ q, q < 24 → 0 < lv q → T.testBit q = true)) ∧ x = capQ (nearS lv 24) l ∧ (nearS lv 24).testBit s = true ∧ (nearS lv 24).testBit t = false := by
  have hL := layL_ok hin (from_ := 1 <<< s) (show s < 24 by omega)
  have hc := F.cuts hL hs ht (cap_rooms hL)
  have e : ∀ T, capL T (layL (1 <<< s) s l) (hCap (layL (1 <<< s) s l)) (layL (1 <<< s) s l).length = capQ T l := fun T => by
    rw [layL_len, capL_Q T s l l.length (Nat.le_refl _), List.take_length]
  simp only [e] at hc
  exact hc
end Go.Proofs.YtkipaffjmcmclaaDoor

open Go Go.Eng
namespace Go.Proofs.YtkipaffjmcmclaaDoor
attribute [local congr] undef_congr WpK.congr WpS.congr WpL.congr WpC.congr WpF.congr gotS.congr callS.congr nextS.congr wantS.congr condS.congr
attribute [local irreducible] WpK
attribute [local simp] WpDr_nil WpDr_cons atS_some dwantS_true dwantS_false kindS_light kindS_float kindS_heavy lightS_value floatS_some heavyS_value heavyS_skip heavyS_enter dcallS_some doneS_eq
  isLight isFloat isPlain dLook testBit_dec dChain dLights_nil dLights_skip dLights_one dLight_nil dLight_cons dFreshes_nil dFreshes_one oneF_none oneF_some dFresh_nil dFresh_cons oneL_some oneW_true oneW_false sameV_value dPut dMay valEq arrEq listEq List.getElem?_cons Tr.get_nil dEnd
attribute [local simp] WpS_nil WpS_cons isDefer undef_false wantS_true wantS_false nextS_value nextS_skip nextS_enter callS_some gotS_some aWanted aOp aEvalF aEval opMove opAssign opPick aVal flat flat1 AAct.put opBinOp opConvert opIndex Tr.get_set Tr.get_lay aBin aResults tupled
  aCall aVals aCallB blt_dec ble_dec beq_dec aBinI_add aBinI_sub aBinI_lss aBinI_leq aBinI_gtr aBinI_geq aBinI_eql aBinI_neq index_str len_str len_slice Nat.beq_refl und2 und3 und4 und5 und39 und76 und82 und116 und22 und29 und25 und33 und46 und43 und49 und111 und113 field152 field156_0 field156_1 field156_2 field156_3 field156_4
  field78 field106 field24 field31 field27 field35 field108 field109 opBox opLoad opFieldAddr opIndexAddr acells aAddr opExtract aExtract opUnOp opAlloc opStore opMakeInterface opNilCheck opBuild aParts opBuildSlice aValW
set_option maxHeartbeats 4000000
set_option linter.unusedSimpArgs false
set_option linter.unusedVariables false
/-! ### the reference's flows -/
end Go.Proofs.YtkipaffjmcmclaaDoor

open Go Go.Eng
namespace Go.Proofs.YtkipaffjmcmclaaDoor
attribute [local congr] undef_congr WpK.congr WpS.congr WpL.congr WpC.congr WpF.congr gotS.congr callS.congr nextS.congr wantS.congr condS.congr
attribute [local irreducible] WpK
attribute [local simp] WpDr_nil WpDr_cons atS_some dwantS_true dwantS_false kindS_light kindS_float kindS_heavy lightS_value floatS_some heavyS_value heavyS_skip heavyS_enter dcallS_some doneS_eq
  isLight isFloat isPlain dLook testBit_dec dChain dLights_nil dLights_skip dLights_one dLight_nil dLight_cons dFreshes_nil dFreshes_one oneF_none oneF_some dFresh_nil dFresh_cons oneL_some oneW_true oneW_false sameV_value dPut dMay valEq arrEq listEq List.getElem?_cons Tr.get_nil dEnd
attribute [local simp] WpS_nil WpS_cons isDefer undef_false wantS_true wantS_false nextS_value nextS_skip nextS_enter callS_some gotS_some aWanted aOp aEvalF aEval opMove opAssign opPick aVal flat flat1 AAct.put opBinOp opConvert opIndex Tr.get_set Tr.get_lay aBin aResults tupled
  aCall aVals aCallB blt_dec ble_dec beq_dec aBinI_add aBinI_sub aBinI_lss aBinI_leq aBinI_gtr aBinI_geq aBinI_eql aBinI_neq index_str len_str len_slice Nat.beq_refl und2 und3 und4 und5 und39 und76 und82 und116 und22 und29 und25 und33 und46 und43 und49 und111 und113 field152 field156_0 field156_1 field156_2 field156_3 field156_4
  field78 field106 field24 field31 field27 field35 field108 field109 opBox opLoad opFieldAddr opIndexAddr acells aAddr opExtract aExtract opUnOp opAlloc opStore opMakeInterface opNilCheck opBuild aParts opBuildSlice aValW
set_option maxHeartbeats 4000000
set_option linter.unusedSimpArgs false
set_option linter.unusedVariables false
/-! ### the reference's least cut -/
def bitI (S i : Nat) : Int := if S.testBit i then 1 else 0
theorem bit_tmod (S i : Nat) : ((S >>> i : Nat) : Int).tmod 2 = bitI S i := by
  have h := bit_rem S i
  have h0 : 0 ≤ ((S >>> i : Nat) : Int).tmod 2 ∧ ((S >>> i : Nat) : Int).tmod 2 < 2 := ⟨Int.tmod_nonneg _ (Int.natCast_nonneg _), Int.tmod_lt_of_pos _ (by omega)⟩
  unfold bitI
  cases hb : S.testBit i with
  | true => rw [if_pos rfl]; exact h.2 hb
  | false =>
    have : ¬ ((S >>> i : Nat) : Int).tmod 2 = 1 := fun e => by rw [h.1 e] at hb; cases hb
    simp only [Bool.false_eq_true, if_false]; omega
theorem bit_ops (S i : Nat) (hi : i ≤ 63) : aBinI .shr .i64 (S : Int) .u64 (i : Int) = some (.int .i64 ((S >>> i : Nat) : Int)) ∧ aBinI .rem .i64 ((S >>> i : Nat) : Int) .i64 2 = some (.int .i64 (bitI S i)) := by
  refine ⟨aBinI_shr .i64 .u64 S i (by show i ≤ 64; omega), ?_⟩
  have := aBinI_rem .i64 ((S >>> i : Nat) : Int) 2 (by omega)
  rw [bit_tmod] at this; exact this
theorem bits_wp {W : AW} {v : Value} {P : Int} {l : List Tri} (h : TriIn W v l) (hok : planOk P (arcsQ l) = true) (S : Nat) :
    WpF T0 70 [.agg ⟨[.int .i64 P, v]⟩, .int .i64 S] W (fun u W' => Ext W W' ∧ u = .int .i64 (capQ S (arcsQ l))) := by
  have hin := arcsQ_in hok
  obtain ⟨hP2, hP24, h200⟩ := hin.size
  have hql : (arcsQ l).length = l.length := by simp [arcsQ]
  rw [hql] at h200
  obtain ⟨Av, cv, rfl, hA⟩ := h
  refine wpF fun70 rfl ?_
  obtain ⟨W0, hW0, hE0, hV0⟩ : ∃ W0, W0 = W.newCells 24 [.int .i64 P, .slice Av l.length cv] ∧ Ext W W0 ∧ Var W0 W.next 24 [.int .i64 P, .slice Av l.length cv] := ⟨_, rfl, .newCells _ _ _, Var.new _ _ _⟩
  have l1 := hV0.load1 (T := T0) und22 rfl (j := 1) (v := .slice Av l.length cv) rfl
  try simp only [wpK_assoc]
  refine wpK_reg (fun R hR => by simp [← hW0]; exact hR) ?_
  try simp only [wpK_assoc]
  refine wpK_reg (fun R hR => by simp []; exact hR) ?_
  try simp only [wpK_assoc]
  refine wpK_reg (fun R hR => by simp []; exact hR) ?_
  try simp only [wpK_assoc]
  refine wpK_while (I := fun k A W' => A.n = 47 ∧ A.defers = [] ∧ A.tmps.get 1 = some (.int .i64 S) ∧ A.tmps.get 2 = some (.pointer (some ⟨W.next, 0, none⟩)) ∧ W' = W0 ∧ ∃ i : Nat, k = l.length - i ∧ i ≤ l.length ∧ A.tmps.get 6 = some (.int .i64 i) ∧ A.tmps.get 5 = some (.int .i64 (capQ S ((arcsQ l).take i))))
    (J := fun A W' => A.n = 47 ∧ A.defers = [] ∧ W' = W0 ∧ A.tmps.get 5 = some (.int .i64 (capQ S (arcsQ l))))
    (Rt := fun _ _ => False) (k := l.length) ?_ ?_ ?_ ?_
  · exact ⟨rfl, rfl, by simp, by simp, rfl, 0, by simp, by omega, by simp, by simp [capQ]⟩
  · rintro k ⟨tm, n, ds⟩ W3 ⟨hn, hd, h1, h2, rfl, i, hk, hi, h6, h5⟩ Q' hJ hRt hI
    simp only at hn hd h1 h2
    subst hn; subst hd
    simp only at h6 h5
    try simp only [wpK_assoc]
    refine wpK_reg (fun R hR => by simp [h2, h6, l1, len_slice und22]; exact hR) ?_
    by_cases hlt : i < l.length
    · try simp only [wpK_assoc]
      first | refine wpK_onT (by simp [hlt]) ?_ | refine wpK_outT (by simp [hlt]) ?_ | refine wpK_condT (by simp [hlt]) ?_ | refine wpK_endT (by simp [hlt]) ?_
      have ha : l[i]? = some l[i] := List.getElem?_eq_getElem hlt
      have hmem : l[i] ∈ l := List.getElem_mem hlt
      generalize l[i] = a at ha hmem
      have haq : (arcsQ l)[i]? = some (a.1, a.2.1, a.2.2, 0) := by simp [arcsQ, ha]
      have hst1 := hin.step (a := (a.1, a.2.1, a.2.2, 0)) (List.mem_of_getElem? haq)
      have hsum := capQ_take (s := S) haq
      have hb := capQ_le hin S i (by omega)
      obtain ⟨a1, a2, a3⟩ := a
      simp only at hst1
      obtain ⟨f, rfl⟩ : ∃ f : Nat, a1 = f := ⟨a1.toNat, by omega⟩
      obtain ⟨g, rfl⟩ : ∃ g : Nat, a2 = g := ⟨a2.toNat, by omega⟩
      obtain ⟨b, o, rfl, q1, q2, q3⟩ := hA i _ ha
      have eV := indexAddr_tri (T := T0) und22 sz78 (b := b) (o := o) (c := cv) (k := .i64) hlt
      have la1 := load_of und3 rfl (q1.ext hE0)
      have la2 := load_of und3 rfl (q2.ext hE0)
      have la3 := load_of und2 rfl (q3.ext hE0)
      simp only at la1 la2 la3
      obtain ⟨f1, f2⟩ := bit_ops S f (by omega)
      obtain ⟨g1, g2⟩ := bit_ops S g (by omega)
      generalize hsf : ((S >>> f : Nat) : Int) = sf at f1 f2
      generalize hsg : ((S >>> g : Nat) : Int) = sg at g1 g2
      have wf : IntKind.u64.wrap (f : Int) = f := IntWalk.u64_in _ (by omega)
      have wg : IntKind.u64.wrap (g : Int) = g := IntWalk.u64_in _ (by omega)
      have ho : out1 S ((f : Int), (g : Int), a3, 0) = if S.testBit f && !S.testBit g then a3 else 0 := by
        simp only [out1, Int.toNat_natCast]; split <;> split <;> omega
      rw [ho] at hsum
      generalize capQ S ((arcsQ l).take i) = z at h5 hb hsum
      have w1 : IntKind.i64.wrap (z + a3) = z + a3 := IntWalk.i64_in _ (by omega)
      have hsi : IntKind.i64.wrap ((i : Int) + 1) = ((i + 1 : Nat) : Int) := i64_succ i (by omega)
      have fin : ∀ tm' : Tr Value, tm'.get 1 = some (.int .i64 S) → tm'.get 2 = some (.pointer (some ⟨W.next, 0, none⟩)) → tm'.get 6 = some (.int .i64 ((i + 1 : Nat) : Int)) → tm'.get 5 = some (.int .i64 (z + if S.testBit f && !S.testBit g then a3 else 0)) → Q' .normal ⟨tm', 47, []⟩ W3 := fun tm' x1 x2 x6 x5 =>
        hI (k - 1) _ _ (by omega) ⟨rfl, rfl, x1, x2, rfl, i + 1, by omega, by omega, x6, by rw [x5, hsum]⟩
      refine wpK_block ?_
      cases hbf : S.testBit f with
      | false =>
        have e1 : bitI S f = 0 := by simp [-testBit_dec, bitI, hbf]
        rw [e1] at f2
        try simp only [wpK_assoc]
        refine wpK_reg (fun R hR => by simp [h1, h2, h6, l1, eV, la1, conv_3_82, wf, f1, f2, undef]; exact hR) ?_
        try simp only [wpK_assoc]
        first | refine wpK_onF (by simp []) ?_ | refine wpK_out (by simp []) ?_ | refine wpK_condF (by simp []) ?_ | refine wpK_endF (by simp []) (wpK_skip ?_) | refine wpK_endF (by simp []) ?_
        try simp only [wpK_assoc]
        refine wpK_reg1 (fun R hR => by simp [h6, hsi]; exact hR) ?_
        exact fin _ (by simp [h1]) (by simp [h2]) (by simp) (by simp [-testBit_dec, hbf, h5])
      | true =>
        have e1 : bitI S f = 1 := by simp [-testBit_dec, bitI, hbf]
        rw [e1] at f2
        cases hbg : S.testBit g with
        | true =>
          have e2 : bitI S g = 1 := by simp [-testBit_dec, bitI, hbg]
          rw [e2] at g2
          try simp only [wpK_assoc]
          refine wpK_reg (fun R hR => by simp [h1, h2, h6, l1, eV, la1, la2, conv_3_82, wf, wg, f1, f2, g1, g2]; exact hR) ?_
          try simp only [wpK_assoc]
          first | refine wpK_onF (by simp []) ?_ | refine wpK_out (by simp []) ?_ | refine wpK_condF (by simp []) ?_ | refine wpK_endF (by simp []) (wpK_skip ?_) | refine wpK_endF (by simp []) ?_
          try simp only [wpK_assoc]
          refine wpK_reg1 (fun R hR => by simp [h6, hsi]; exact hR) ?_
          exact fin _ (by simp [h1]) (by simp [h2]) (by simp) (by simp [-testBit_dec, hbf, hbg, h5])
        | false =>
          have e2 : bitI S g = 0 := by simp [-testBit_dec, bitI, hbg]
          rw [e2] at g2
          try simp only [wpK_assoc]
          refine wpK_reg (fun R hR => by simp [h1, h2, h6, l1, eV, la1, la2, conv_3_82, wf, wg, f1, f2, g1, g2]; exact hR) ?_
          try simp only [wpK_assoc]
          first | refine wpK_onT (by simp []) ?_ | refine wpK_outT (by simp []) ?_ | refine wpK_condT (by simp []) ?_ | refine wpK_endT (by simp []) ?_
          try simp only [wpK_assoc]
          refine wpK_reg1 (fun R hR => by simp [h2, h5, h6, l1, eV, la3, w1]; exact hR) ?_
          try simp only [wpK_assoc]
          refine wpK_reg1 (fun R hR => by simp [h6, hsi]; exact hR) ?_
          exact fin _ (by simp [h1]) (by simp [h2]) (by simp) (by simp [-testBit_dec, hbf, hbg])
    · have e : i = l.length := by omega
      rw [e, ← hql, List.take_length] at h5
      try simp only [wpK_assoc]
      first | refine wpK_onF (by simp [hlt]) ?_ | refine wpK_out (by simp [hlt]) ?_ | refine wpK_condF (by simp [hlt]) ?_ | refine wpK_endF (by simp [hlt]) (wpK_skip ?_) | refine wpK_endF (by simp [hlt]) ?_
      exact hJ _ _ ⟨rfl, rfl, rfl, by simp [h5]⟩
  · rintro A' W' hf; exact hf.elim
  · rintro ⟨tm, n, ds⟩ W' ⟨hn, hd, rfl, h5⟩
    simp only at hn hd h5
    subst hn; subst hd
    try simp only [wpK_assoc]
    refine wpK_reg (fun R hR => by simp [h5]; exact hR) ?_
    exact wpK_ret ⟨.inr rfl, rfl, [.int .i64 (capQ S (arcsQ l))], by simp, hE0, rfl⟩
end Go.Proofs.YtkipaffjmcmclaaDoor

open Go Go.Eng
namespace Go.Proofs.YtkipaffjmcmclaaDoor
attribute [local congr] undef_congr WpK.congr WpS.congr WpL.congr WpC.congr WpF.congr gotS.congr callS.congr nextS.congr wantS.congr condS.congr
attribute [local irreducible] WpK
attribute [local simp] WpDr_nil WpDr_cons atS_some dwantS_true dwantS_false kindS_light kindS_float kindS_heavy lightS_value floatS_some heavyS_value heavyS_skip heavyS_enter dcallS_some doneS_eq
  isLight isFloat isPlain dLook testBit_dec dChain dLights_nil dLights_skip dLights_one dLight_nil dLight_cons dFreshes_nil dFreshes_one oneF_none oneF_some dFresh_nil dFresh_cons oneL_some oneW_true oneW_false sameV_value dPut dMay valEq arrEq listEq List.getElem?_cons Tr.get_nil dEnd
attribute [local simp] WpS_nil WpS_cons isDefer undef_false wantS_true wantS_false nextS_value nextS_skip nextS_enter callS_some gotS_some aWanted aOp aEvalF aEval opMove opAssign opPick aVal flat flat1 AAct.put opBinOp opConvert opIndex Tr.get_set Tr.get_lay aBin aResults tupled
  aCall aVals aCallB blt_dec ble_dec beq_dec aBinI_add aBinI_sub aBinI_lss aBinI_leq aBinI_gtr aBinI_geq aBinI_eql aBinI_neq index_str len_str len_slice Nat.beq_refl und2 und3 und4 und5 und39 und76 und82 und116 und22 und29 und25 und33 und46 und43 und49 und111 und113 field152 field156_0 field156_1 field156_2 field156_3 field156_4
  field78 field106 field24 field31 field27 field35 field108 field109 opBox opLoad opFieldAddr opIndexAddr acells aAddr opExtract aExtract opUnOp opAlloc opStore opMakeInterface opNilCheck opBuild aParts opBuildSlice aValW
set_option maxHeartbeats 4000000
set_option linter.unusedSimpArgs false
set_option linter.unusedVariables false
/-! ### all cuts -/
def isCut (s t T : Nat) : Prop := T.testBit s = true ∧ T.testBit t = false
/-- what is known after the sets before k -/
def Seen (s t : Nat) (l : List Quad) (k : Nat) (best : Int) (com : Nat) : Prop :=
  ((∀ T, T < k → ¬ isCut s t T) ∧ best = -1) ∨
  (0 ≤ best ∧ (∃ T, T < k ∧ isCut s t T ∧ capQ T l = best) ∧ (∀ T, T < k → isCut s t T → best ≤ capQ T l) ∧ (∀ q, com.testBit q = true ↔ ∀ T, T < k → isCut s t T → capQ T l = best → T.testBit q = true))
theorem Seen.skip {s t : Nat} {l : List Quad} {k : Nat} {best : Int} {com : Nat} (h : Seen s t l k best com) (hk : ¬ isCut s t k) : Seen s t l (k + 1) best com := by
  have sp : ∀ T, T < k + 1 → isCut s t T → T < k := fun T hT hc => by
    by_cases e : T = k
    · subst e; exact absurd hc hk
    · omega
  rcases h with ⟨h1, h2⟩ | ⟨h0, ⟨T0, a1, a2, a3⟩, h2, h3⟩
  · exact .inl ⟨fun T hT hc => h1 T (sp T hT hc) hc, h2⟩
  · exact .inr ⟨h0, ⟨T0, by omega, a2, a3⟩, fun T hT hc => h2 T (sp T hT hc) hc, fun q => (h3 q).trans ⟨fun h T hT hc he => h T (sp T hT hc) hc he, fun h T hT hc he => h T (by omega) hc he⟩⟩
theorem Seen.less {s t : Nat} {l : List Quad} {k : Nat} {best : Int} {com : Nat} (h : Seen s t l k best com) (hk : isCut s t k) (h0 : 0 ≤ capQ k l) (hc : best < 0 ∨ capQ k l < best) : Seen s t l (k + 1) (capQ k l) k := by
  have old : ∀ T, T < k → isCut s t T → capQ k l < capQ T l := fun T hT hT2 => by
    rcases h with ⟨h1, _⟩ | ⟨g0, _, h2, _⟩
    · exact absurd hT2 (h1 T hT)
    · have := h2 T hT hT2; omega
  refine .inr ⟨h0, ⟨k, by omega, hk, rfl⟩, fun T hT hT2 => ?_, fun q => ⟨fun hq T hT hT2 he => ?_, fun hall => hall k (by omega) hk rfl⟩⟩
  · by_cases e : T = k
    · subst e; exact Int.le_refl _
    · have := old T (by omega) hT2; omega
  · by_cases e : T = k
    · subst e; exact hq
    · have := old T (by omega) hT2; omega
theorem Seen.same {s t : Nat} {l : List Quad} {k : Nat} {best : Int} {com : Nat} (h : Seen s t l k best com) (hk : isCut s t k) (hb : 0 ≤ best) (hc : capQ k l = best) : Seen s t l (k + 1) best (com &&& k) := by
  rcases h with ⟨h1, h2⟩ | ⟨_, ⟨T0, a1, a2, a3⟩, h2, h3⟩
  · omega
  · refine .inr ⟨hb, ⟨T0, by omega, a2, a3⟩, fun T hT hT2 => ?_, fun q => ?_⟩
    · by_cases e : T = k
      · subst e; omega
      · exact h2 T (by omega) hT2
    · rw [Nat.testBit_and, Bool.and_eq_true, h3 q]
      constructor
      · rintro ⟨g1, g2⟩ T hT hT2 he
        by_cases e : T = k
        · subst e; exact g2
        · exact g1 T (by omega) hT2 he
      · intro hall
        exact ⟨fun T hT hT2 he => hall T (by omega) hT2 he, hall k (by omega) hk hc⟩
theorem Seen.more {s t : Nat} {l : List Quad} {k : Nat} {best : Int} {com : Nat} (h : Seen s t l k best com) (hk : isCut s t k) (hb : 0 ≤ best) (hc : best < capQ k l) : Seen s t l (k + 1) best com := by
  rcases h with ⟨h1, h2⟩ | ⟨_, ⟨T0, a1, a2, a3⟩, h2, h3⟩
  · omega
  · refine .inr ⟨hb, ⟨T0, by omega, a2, a3⟩, fun T hT hT2 => ?_, fun q => (h3 q).trans ⟨fun h T hT hT2 he => ?_, fun h T hT hT2 he => h T (by omega) hT2 he⟩⟩
    · by_cases e : T = k
      · subst e; omega
      · exact h2 T (by omega) hT2
    · by_cases e : T = k
      · subst e; omega
      · exact h T (by omega) hT2 he
theorem least32_wp {W : AW} {v : Value} {P s t S : Nat} {x : Int} {l : List Tri} (h : TriIn W v l) (hok : planOk P (arcsQ l) = true) (hP : P ≤ 20) (hs : s < P) (ht : t < P) (hS : S < 2 ^ P) (hSc : isCut s t S) (hx : x = capQ S (arcsQ l))
    (hmin : ∀ T, isCut s t T → x ≤ capQ T (arcsQ l) ∧ (x = capQ T (arcsQ l) → ∀ q, S.testBit q = true → T.testBit q = true)) :
    WpF T0 32 [.agg ⟨[.int .i64 P, v]⟩, .int .i64 s, .int .i64 t] W (fun u W' => Ext W W' ∧ ∃ sl, u = .tuple ⟨[.int .i64 x, sl]⟩ ∧ IntL W' sl (memb P S)) := by
  refine wpF fun32 rfl ?_
  obtain ⟨W0, hW0, hE0, hV0⟩ : ∃ W0, W0 = W.newCells 24 [.int .i64 P, v] ∧ Ext W W0 ∧ Var W0 W.next 24 [.int .i64 P, v] := ⟨_, rfl, .newCells _ _ _, Var.new _ _ _⟩
  have l0 : ∀ W', Ext W0 W' → aLoadVar T0 W' 3 W.next 0 = some (.int .i64 P) := fun W' h => (hV0.ext h).load1 (T := T0) und3 rfl (j := 0) (v := .int .i64 P) rfl
  have l24 : ∀ W', Ext W0 W' → aLoadVar T0 W' 24 W.next 0 = some (.agg ⟨[.int .i64 P, v]⟩) := fun W' h => load24 (hV0.ext h)
  have hpow : 2 ^ P ≤ 2 ^ 20 := Nat.pow_le_pow_right (by omega) hP
  have hwP : IntKind.u64.wrap (P : Int) = P := IntWalk.u64_in _ (by omega)
  have hws : IntKind.u64.wrap (s : Int) = s := IntWalk.u64_in _ (by omega)
  have hwt : IntKind.u64.wrap (t : Int) = t := IntWalk.u64_in _ (by omega)
  have shP : aBinI .shl .i64 1 .u64 (P : Int) = some (.int .i64 ((2 ^ P : Nat) : Int)) := by
    have := aBinI_shl .i64 .u64 1 P (by show P ≤ 64; omega) (by rw [Nat.one_mul]; show 2 ^ P < 9223372036854775808; omega)
    rw [Nat.shiftLeft_eq, Nat.one_mul] at this; exact this
  have hin := arcsQ_in hok
  generalize hpw : 2 ^ P = pw at shP hS hpow
  try simp only [wpK_assoc]
  refine wpK_reg (fun R hR => by simp [← hW0]; exact hR) ?_
  try simp only [wpK_assoc]
  refine wpK_reg (fun R hR => by simp []; exact hR) ?_
  try simp only [wpK_assoc]
  refine wpK_reg (fun R hR => by simp []; exact hR) ?_
  try simp only [wpK_assoc]
  refine wpK_while (I := fun k A W' => A.n = 57 ∧ A.defers = [] ∧ A.tmps.get 1 = some (.int .i64 s) ∧ A.tmps.get 2 = some (.int .i64 t) ∧ A.tmps.get 3 = some (.pointer (some ⟨W.next, 0, none⟩)) ∧ Ext W0 W' ∧ ∃ (i : Nat) (best : Int) (com : Nat), k = pw - i ∧ i ≤ pw ∧ A.tmps.get 10 = some (.int .i64 i) ∧ A.tmps.get 8 = some (.int .i64 best) ∧ A.tmps.get 9 = some (.int .i64 com) ∧ com < pw ∧ Seen s t (arcsQ l) i best com)
    (J := fun A W' => A.n = 57 ∧ A.defers = [] ∧ A.tmps.get 1 = some (.int .i64 s) ∧ A.tmps.get 2 = some (.int .i64 t) ∧ A.tmps.get 3 = some (.pointer (some ⟨W.next, 0, none⟩)) ∧ Ext W0 W' ∧ A.tmps.get 8 = some (.int .i64 x) ∧ A.tmps.get 9 = some (.int .i64 S))
    (Rt := fun _ _ => False) (k := pw) ?_ ?_ ?_ ?_
  · exact ⟨rfl, rfl, by simp, by simp, by simp, .refl _ _, 0, -1, 0, by omega, by omega, by simp, by simp, by simp, by omega, .inl ⟨fun T hT => by omega, rfl⟩⟩
  · rintro k ⟨tm, n, ds⟩ W3 ⟨hn, hd, h1, h2, h3, e3, i, best, com, hk, hi, h10, h8, h9, hcom, hSeen⟩ Q' hJ hRt hI
    simp only at hn hd h1 h2 h3
    subst hn; subst hd
    simp only at h10 h8 h9
    try simp only [wpK_assoc]
    refine wpK_reg (fun R hR => by simp [h3, h10, l0, e3, conv_3_82, hwP, shP]; exact hR) ?_
    by_cases hlt : i < pw
    · try simp only [wpK_assoc]
      first | refine wpK_onT (by simp [hlt]) ?_ | refine wpK_outT (by simp [hlt]) ?_ | refine wpK_condT (by simp [hlt]) ?_ | refine wpK_endT (by simp [hlt]) ?_
      have hsi : IntKind.i64.wrap ((i : Int) + 1) = ((i + 1 : Nat) : Int) := i64_succ i (by omega)
      have fin : ∀ (tm' : Tr Value) (W4 : AW) (best' : Int) (com' : Nat), Ext W0 W4 → tm'.get 1 = some (.int .i64 s) → tm'.get 2 = some (.int .i64 t) → tm'.get 3 = some (.pointer (some ⟨W.next, 0, none⟩)) → tm'.get 10 = some (.int .i64 ((i + 1 : Nat) : Int)) → tm'.get 8 = some (.int .i64 best') → tm'.get 9 = some (.int .i64 com') → com' < pw → Seen s t (arcsQ l) (i + 1) best' com' → Q' .normal ⟨tm', 57, []⟩ W4 :=
        fun tm' W4 best' com' e4 x1 x2 x3 x10 x8 x9 hc' hS' => hI (k - 1) _ _ (by omega) ⟨rfl, rfl, x1, x2, x3, e4, i + 1, best', com', by omega, by omega, x10, x8, x9, hc', hS'⟩
      obtain ⟨f1, f2⟩ := bit_ops i s (by omega)
      obtain ⟨g1, g2⟩ := bit_ops i t (by omega)
      generalize hsf : ((i >>> s : Nat) : Int) = sf at f1 f2
      generalize hsg : ((i >>> t : Nat) : Int) = sg at g1 g2
      refine wpK_block ?_
      cases hbs : i.testBit s with
      | false =>
        have e1 : bitI i s = 0 := by simp [-testBit_dec, bitI, hbs]
        rw [e1] at f2
        try simp only [wpK_assoc]
        refine wpK_reg (fun R hR => by simp [h1, h2, h10, conv_3_82, hws, f1, f2, undef]; exact hR) ?_
        try simp only [wpK_assoc]
        first | refine wpK_onT (by simp []) ?_ | refine wpK_outT (by simp []) ?_ | refine wpK_condT (by simp []) ?_ | refine wpK_endT (by simp []) ?_
        rw [leaves_exit, if_pos rfl]
        simp only [behind_normal]
        try simp only [wpK_assoc]
        refine wpK_reg1 (fun R hR => by simp [h10, hsi]; exact hR) ?_
        exact fin _ _ best com e3 (by simp [h1]) (by simp [h2]) (by simp [h3]) (by simp) (by simp [h8]) (by simp [h9]) hcom (hSeen.skip (fun hc => by rw [hc.1] at hbs; cases hbs))
      | true =>
        have e1 : bitI i s = 1 := by simp [-testBit_dec, bitI, hbs]
        rw [e1] at f2
        cases hbt : i.testBit t with
        | true =>
          have e2 : bitI i t = 1 := by simp [-testBit_dec, bitI, hbt]
          rw [e2] at g2
          try simp only [wpK_assoc]
          refine wpK_reg (fun R hR => by simp [h1, h2, h10, conv_3_82, hws, hwt, f1, f2, g1, g2]; exact hR) ?_
          try simp only [wpK_assoc]
          first | refine wpK_onT (by simp []) ?_ | refine wpK_outT (by simp []) ?_ | refine wpK_condT (by simp []) ?_ | refine wpK_endT (by simp []) ?_
          rw [leaves_exit, if_pos rfl]
          simp only [behind_normal]
          try simp only [wpK_assoc]
          refine wpK_reg1 (fun R hR => by simp [h10, hsi]; exact hR) ?_
          exact fin _ _ best com e3 (by simp [h1]) (by simp [h2]) (by simp [h3]) (by simp) (by simp [h8]) (by simp [h9]) hcom (hSeen.skip (fun hc => by rw [hc.2] at hbt; cases hbt))
        | false =>
          have e2 : bitI i t = 0 := by simp [-testBit_dec, bitI, hbt]
          rw [e2] at g2
          have hcut : isCut s t i := ⟨hbs, hbt⟩
          try simp only [wpK_assoc]
          refine wpK_reg (fun R hR => by simp [h1, h2, h10, conv_3_82, hws, hwt, f1, f2, g1, g2]; exact hR) ?_
          try simp only [wpK_assoc]
          first | refine wpK_onF (by simp []) ?_ | refine wpK_out (by simp []) ?_ | refine wpK_condF (by simp []) ?_ | refine wpK_endF (by simp []) (wpK_skip ?_) | refine wpK_endF (by simp []) ?_
          try simp only [wpK_assoc]
          refine wpK_x0 (fun R hR => by
              simp [h3, h10, l24, e3, aEnter, fun70, short_other, aCallV]; rw [callS_none]
              refine (bits_wp (P := (P : Int)) (h.ext (hE0.trans e3)) hok i).mono ?_
              rintro _ W4 ⟨e34, rfl⟩
              simp [h3, h10, l24, e3]; exact hR W4 e34) ?_
          rintro W4 e34
          have e4 := e3.trans e34
          have hc0 := capQ_le hin i (arcsQ l).length (Nat.le_refl _)
          rw [List.take_length] at hc0
          obtain ⟨c, hcc⟩ : ∃ c, c = capQ i (arcsQ l) := ⟨_, rfl⟩
          have s1 := fun hh => hSeen.less hcut hc0.1 hh
          have s2 := fun hb hh => hSeen.same hcut hb hh
          have s3 := fun hb hh => hSeen.more hcut hb hh
          rw [← hcc] at s1 s2 s3 hc0
          rw [← hcc]
          clear hcc
          by_cases c1 : best < 0
          · try simp only [wpK_assoc]
            refine wpK_reg (fun R hR => by simp [h8, c1, undef]; exact hR) ?_
            try simp only [wpK_assoc]
            first | refine wpK_onT (by simp []) ?_ | refine wpK_outT (by simp []) ?_ | refine wpK_condT (by simp []) ?_ | refine wpK_endT (by simp []) ?_
            try simp only [wpK_assoc]
            refine wpK_reg1 (fun R hR => by simp [h10]; exact hR) ?_
            try simp only [wpK_assoc]
            refine wpK_reg1 (fun R hR => by simp [h10, hsi]; exact hR) ?_
            exact fin _ _ c i e4 (by simp [h1]) (by simp [h2]) (by simp [h3]) (by simp) (by simp) (by simp) hlt (s1 (.inl c1))
          by_cases c2 : c < best
          · try simp only [wpK_assoc]
            refine wpK_reg (fun R hR => by simp [h8, c1, c2]; exact hR) ?_
            try simp only [wpK_assoc]
            first | refine wpK_onT (by simp []) ?_ | refine wpK_outT (by simp []) ?_ | refine wpK_condT (by simp []) ?_ | refine wpK_endT (by simp []) ?_
            try simp only [wpK_assoc]
            refine wpK_reg1 (fun R hR => by simp [h10]; exact hR) ?_
            try simp only [wpK_assoc]
            refine wpK_reg1 (fun R hR => by simp [h10, hsi]; exact hR) ?_
            exact fin _ _ c i e4 (by simp [h1]) (by simp [h2]) (by simp [h3]) (by simp) (by simp) (by simp) hlt (s1 (.inr c2))
          try simp only [wpK_assoc]
          refine wpK_reg (fun R hR => by simp [h8, c1, c2]; exact hR) ?_
          try simp only [wpK_assoc]
          first | refine wpK_onF (by simp []) ?_ | refine wpK_out (by simp []) ?_ | refine wpK_condF (by simp []) ?_ | refine wpK_endF (by simp []) (wpK_skip ?_) | refine wpK_endF (by simp []) ?_
          try simp only [wpK_assoc]
          refine wpK_reg (fun R hR => by simp [h8]; exact hR) ?_
          by_cases c3 : c = best
          · have hand := aBinI_and .i64 com i (by show com < 9223372036854775808; omega) (by show i < 9223372036854775808; omega)
            have hle : com &&& i ≤ com := Nat.and_le_left
            try simp only [wpK_assoc]
            first | refine wpK_onT (by simp [c3]) ?_ | refine wpK_outT (by simp [c3]) ?_ | refine wpK_condT (by simp [c3]) ?_ | refine wpK_endT (by simp [c3]) ?_
            try simp only [wpK_assoc]
            refine wpK_reg1 (fun R hR => by simp [h9, h10, hand]; exact hR) ?_
            try simp only [wpK_assoc]
            refine wpK_reg1 (fun R hR => by simp [h10, hsi]; exact hR) ?_
            exact fin _ _ best (com &&& i) e4 (by simp [h1]) (by simp [h2]) (by simp [h3]) (by simp) (by simp [h8]) (by simp) (by omega) (s2 (by omega) c3)
          · try simp only [wpK_assoc]
            first | refine wpK_onF (by simp [c3]) ?_ | refine wpK_out (by simp [c3]) ?_ | refine wpK_condF (by simp [c3]) ?_ | refine wpK_endF (by simp [c3]) (wpK_skip ?_) | refine wpK_endF (by simp [c3]) ?_
            try simp only [wpK_assoc]
            refine wpK_reg1 (fun R hR => by simp [h10, hsi]; exact hR) ?_
            exact fin _ _ best com e4 (by simp [h1]) (by simp [h2]) (by simp [h3]) (by simp) (by simp [h8]) (by simp [h9]) hcom (s3 (by omega) (by omega))
    · have e : i = pw := by omega
      subst e
      try simp only [wpK_assoc]
      first | refine wpK_onF (by simp []) ?_ | refine wpK_out (by simp []) ?_ | refine wpK_condF (by simp []) ?_ | refine wpK_endF (by simp []) (wpK_skip ?_) | refine wpK_endF (by simp []) ?_
      have hbest : best = x ∧ com = S := by
        rcases hSeen with ⟨g1, _⟩ | ⟨_, ⟨T1, a1, a2, a3⟩, g2, g3⟩
        · exact absurd hSc (g1 S hS)
        · have b1 := g2 S hS hSc
          have b2 := (hmin T1 a2).1
          have hb : best = x := by omega
          refine ⟨hb, Nat.eq_of_testBit_eq fun q => ?_⟩
          rw [Bool.eq_iff_iff, g3 q]
          exact ⟨fun hall => hall S hS hSc (by omega), fun hq T hT hT2 he => (hmin T hT2).2 (by omega) q hq⟩
      obtain ⟨rfl, rfl⟩ := hbest
      exact hJ _ _ ⟨rfl, rfl, by simp [h1, h2, h3], by simp [h1, h2, h3], by simp [h1, h2, h3], e3, by simp [h8], by simp [h9]⟩
  · rintro A' W' hf; exact hf.elim
  · rintro ⟨tm, n, ds⟩ W3 ⟨hn, hd, h1, h2, h3, e3, h8, h9⟩
    simp only at hn hd h1 h2 h3
    subst hn; subst hd
    simp only at h8 h9
    try simp only [wpK_assoc]
    refine wpK_x1 (fun R hR => by
        simp [h3, h8, h9, l0, e3, aEnter, fun37, short_other, aCallV]; rw [callS_none]
        refine (members_wp P S (by omega) W3).mono ?_
        rintro sl W4 ⟨e34, hG⟩
        simp [h3, h8, h9, l0, e3]; exact hR sl W4 (And.intro e34 hG)) ?_
    rintro sl W4 ⟨e34, hG⟩
    exact wpK_ret ⟨.inr rfl, rfl, [.int .i64 x, sl], by simp, (hE0.trans e3).trans e34, sl, rfl, GrowsN.ints hG⟩

end Go.Proofs.YtkipaffjmcmclaaDoor

open Go Go.Eng
namespace Go.Proofs.YtkipaffjmcmclaaDoor
attribute [local congr] undef_congr WpK.congr WpS.congr WpL.congr WpC.congr WpF.congr gotS.congr callS.congr nextS.congr wantS.congr condS.congr
attribute [local irreducible] WpK
attribute [local simp] WpDr_nil WpDr_cons atS_some dwantS_true dwantS_false kindS_light kindS_float kindS_heavy lightS_value floatS_some heavyS_value heavyS_skip heavyS_enter dcallS_some doneS_eq
  isLight isFloat isPlain dLook testBit_dec dChain dLights_nil dLights_skip dLights_one dLight_nil dLight_cons dFreshes_nil dFreshes_one oneF_none oneF_some dFresh_nil dFresh_cons oneL_some oneW_true oneW_false sameV_value dPut dMay valEq arrEq listEq List.getElem?_cons Tr.get_nil dEnd
attribute [local simp] WpS_nil WpS_cons isDefer undef_false wantS_true wantS_false nextS_value nextS_skip nextS_enter callS_some gotS_some aWanted aOp aEvalF aEval opMove opAssign opPick aVal flat flat1 AAct.put opBinOp opConvert opIndex Tr.get_set Tr.get_lay aBin aResults tupled
  aCall aVals aCallB blt_dec ble_dec beq_dec aBinI_add aBinI_sub aBinI_lss aBinI_leq aBinI_gtr aBinI_geq aBinI_eql aBinI_neq index_str len_str len_slice Nat.beq_refl und2 und3 und4 und5 und39 und76 und82 und116 und22 und29 und25 und33 und46 und43 und49 und111 und113 field152 field156_0 field156_1 field156_2 field156_3 field156_4
  field78 field106 field24 field31 field27 field35 field108 field109 opBox opLoad opFieldAddr opIndexAddr acells aAddr opExtract aExtract opUnOp opAlloc opStore opMakeInterface opNilCheck opBuild aParts opBuildSlice aValW
set_option maxHeartbeats 4000000
set_option linter.unusedSimpArgs false
set_option linter.unusedVariables false
/-! ### the law FlowMost -/
end Go.Proofs.YtkipaffjmcmclaaDoor

open Go Go.Eng
namespace Go.Proofs.YtkipaffjmcmclaaDoor
attribute [local congr] undef_congr WpK.congr WpS.congr WpL.congr WpC.congr WpF.congr gotS.congr callS.congr nextS.congr wantS.congr condS.congr
attribute [local irreducible] WpK
attribute [local simp] WpDr_nil WpDr_cons atS_some dwantS_true dwantS_false kindS_light kindS_float kindS_heavy lightS_value floatS_some heavyS_value heavyS_skip heavyS_enter dcallS_some doneS_eq
  isLight isFloat isPlain dLook testBit_dec dChain dLights_nil dLights_skip dLights_one dLight_nil dLight_cons dFreshes_nil dFreshes_one oneF_none oneF_some dFresh_nil dFresh_cons oneL_some oneW_true oneW_false sameV_value dPut dMay valEq arrEq listEq List.getElem?_cons Tr.get_nil dEnd
attribute [local simp] WpS_nil WpS_cons isDefer undef_false wantS_true wantS_false nextS_value nextS_skip nextS_enter callS_some gotS_some aWanted aOp aEvalF aEval opMove opAssign opPick aVal flat flat1 AAct.put opBinOp opConvert opIndex Tr.get_set Tr.get_lay aBin aResults tupled
  aCall aVals aCallB blt_dec ble_dec beq_dec aBinI_add aBinI_sub aBinI_lss aBinI_leq aBinI_gtr aBinI_geq aBinI_eql aBinI_neq index_str len_str len_slice Nat.beq_refl und2 und3 und4 und5 und39 und76 und82 und116 und22 und29 und25 und33 und46 und43 und49 und111 und113 field152 field156_0 field156_1 field156_2 field156_3 field156_4
  field78 field106 field24 field31 field27 field35 field108 field109 opBox opLoad opFieldAddr opIndexAddr acells aAddr opExtract aExtract opUnOp opAlloc opStore opMakeInterface opNilCheck opBuild aParts opBuildSlice aValW
set_option maxHeartbeats 4000000
set_option linter.unusedSimpArgs false
set_option linter.unusedVariables false
/-! ### lists that rise, capacities of lists, for the reference -/
theorem refCap_wp {W : AW} {v sv : Value} {P : Int} {l : List Tri} {S : List Int} (h : TriIn W v l) (hS : IntL W sv S) (hlS : S.length < 4611686018427387904) (hok : planOk P (arcsQ l) = true) (B : Nat) (hB : ∀ f : Nat, f < 24 → decide ((f : Int) ∈ S) = B.testBit f) :
    WpF T0 36 [.agg ⟨[.int .i64 P, v]⟩, sv] W (fun u W' => Ext W W' ∧ u = .int .i64 (capQ B (arcsQ l))) := by
  have hin := arcsQ_in hok
  obtain ⟨hP2, hP24, h200⟩ := hin.size
  have hql : (arcsQ l).length = l.length := by simp [arcsQ]
  rw [hql] at h200
  obtain ⟨Av, cv, rfl, hA⟩ := h
  refine wpF fun36 rfl ?_
  obtain ⟨W0, hW0, hE0, hV0⟩ : ∃ W0, W0 = W.newCells 24 [.int .i64 P, .slice Av l.length cv] ∧ Ext W W0 ∧ Var W0 W.next 24 [.int .i64 P, .slice Av l.length cv] := ⟨_, rfl, .newCells _ _ _, Var.new _ _ _⟩
  have l1 := hV0.load1 (T := T0) und22 rfl (j := 1) (v := .slice Av l.length cv) rfl
  have hS0 := hS.ext hE0
  try simp only [wpK_assoc]
  refine wpK_reg (fun R hR => by simp [← hW0]; exact hR) ?_
  try simp only [wpK_assoc]
  refine wpK_reg (fun R hR => by simp []; exact hR) ?_
  try simp only [wpK_assoc]
  refine wpK_reg (fun R hR => by simp []; exact hR) ?_
  try simp only [wpK_assoc]
  refine wpK_while (I := fun k A W' => A.n = 42 ∧ A.defers = [] ∧ A.tmps.get 1 = some (sv) ∧ A.tmps.get 2 = some (.pointer (some ⟨W.next, 0, none⟩)) ∧ W' = W0 ∧ ∃ i : Nat, k = l.length - i ∧ i ≤ l.length ∧ A.tmps.get 6 = some (.int .i64 i) ∧ A.tmps.get 5 = some (.int .i64 (capQ B ((arcsQ l).take i))))
    (J := fun A W' => A.n = 42 ∧ A.defers = [] ∧ W' = W0 ∧ A.tmps.get 5 = some (.int .i64 (capQ B (arcsQ l))))
    (Rt := fun _ _ => False) (k := l.length) ?_ ?_ ?_ ?_
  · exact ⟨rfl, rfl, by simp, by simp, rfl, 0, by simp, by omega, by simp, by simp [capQ]⟩
  · rintro k ⟨tm, n, ds⟩ W3 ⟨hn, hd, h1, h2, rfl, i, hk, hi, h6, h5⟩ Q' hJ hRt hI
    simp only at hn hd h1 h2
    subst hn; subst hd
    simp only at h6 h5
    try simp only [wpK_assoc]
    refine wpK_reg (fun R hR => by simp [h2, h6, l1, len_slice und22]; exact hR) ?_
    by_cases hlt : i < l.length
    · try simp only [wpK_assoc]
      first | refine wpK_onT (by simp [hlt]) ?_ | refine wpK_outT (by simp [hlt]) ?_ | refine wpK_condT (by simp [hlt]) ?_ | refine wpK_endT (by simp [hlt]) ?_
      have ha : l[i]? = some l[i] := List.getElem?_eq_getElem hlt
      generalize l[i] = a at ha
      have haq : (arcsQ l)[i]? = some (a.1, a.2.1, a.2.2, 0) := by simp [arcsQ, ha]
      have hst1 := hin.step (a := (a.1, a.2.1, a.2.2, 0)) (List.mem_of_getElem? haq)
      have hsum := capQ_take (s := B) haq
      have hb := capQ_le hin B i (by omega)
      obtain ⟨a1, a2, a3⟩ := a
      simp only at hst1
      obtain ⟨f, rfl⟩ : ∃ f : Nat, a1 = f := ⟨a1.toNat, by omega⟩
      obtain ⟨g, rfl⟩ : ∃ g : Nat, a2 = g := ⟨a2.toNat, by omega⟩
      obtain ⟨b, o, rfl, q1, q2, q3⟩ := hA i _ ha
      have eV := indexAddr_tri (T := T0) und22 sz78 (b := b) (o := o) (c := cv) (k := .i64) hlt
      have la1 := load_of und3 rfl (q1.ext hE0)
      have la2 := load_of und3 rfl (q2.ext hE0)
      have la3 := load_of und2 rfl (q3.ext hE0)
      simp only at la1 la2 la3
      have hf1 := has50_wp hS0 hlS (f : Int)
      have hf2 := has50_wp hS0 hlS (g : Int)
      rw [hB f (by omega)] at hf1
      rw [hB g (by omega)] at hf2
      have ho : out1 B ((f : Int), (g : Int), a3, 0) = if B.testBit f && !B.testBit g then a3 else 0 := by
        simp only [out1, Int.toNat_natCast]; split <;> split <;> omega
      rw [ho] at hsum
      generalize capQ B ((arcsQ l).take i) = z at h5 hb hsum
      have w1 : IntKind.i64.wrap (z + a3) = z + a3 := IntWalk.i64_in _ (by omega)
      have hsi : IntKind.i64.wrap ((i : Int) + 1) = ((i + 1 : Nat) : Int) := i64_succ i (by omega)
      have fin : ∀ tm' : Tr Value, tm'.get 1 = some sv → tm'.get 2 = some (.pointer (some ⟨W.next, 0, none⟩)) → tm'.get 6 = some (.int .i64 ((i + 1 : Nat) : Int)) → tm'.get 5 = some (.int .i64 (z + if B.testBit f && !B.testBit g then a3 else 0)) → Q' .normal ⟨tm', 42, []⟩ W3 := fun tm' x1 x2 x6 x5 =>
        hI (k - 1) _ _ (by omega) ⟨rfl, rfl, x1, x2, rfl, i + 1, by omega, by omega, x6, by rw [x5, hsum]⟩
      refine wpK_block ?_
      cases hbf : B.testBit f with
      | false =>
        rw [hbf] at hf1
        try simp only [wpK_assoc]
        refine wpK_reg (fun R hR => by
            simp [h1, h2, h6, l1, eV, la1, aEnter, fun50, short_other, aCallV]; rw [callS_none]
            refine (hf1).mono ?_
            rintro _ W9 ⟨e9, rfl⟩; subst W9
            simp [undef]; exact hR) ?_
        try simp only [wpK_assoc]
        first | refine wpK_onF (by simp []) ?_ | refine wpK_out (by simp []) ?_ | refine wpK_condF (by simp []) ?_ | refine wpK_endF (by simp []) (wpK_skip ?_) | refine wpK_endF (by simp []) ?_
        try simp only [wpK_assoc]
        refine wpK_reg1 (fun R hR => by simp [h6, hsi]; exact hR) ?_
        exact fin _ (by simp [h1]) (by simp [h2]) (by simp) (by simp [-testBit_dec, hbf, h5])
      | true =>
        rw [hbf] at hf1
        cases hbg : B.testBit g with
        | true =>
          rw [hbg] at hf2
          try simp only [wpK_assoc]
          refine wpK_reg (fun R hR => by
            simp [h1, h2, h6, l1, eV, la1, aEnter, fun50, short_other, aCallV]; rw [callS_none]
            refine hf1.mono ?_
            rintro _ W9 ⟨e9, rfl⟩; subst W9
            simp [h1, h2, h6, l1, eV, la2, aEnter, fun50, short_other, aCallV]; rw [callS_none]
            refine hf2.mono ?_
            rintro _ W9 ⟨e9, rfl⟩; subst W9
            simp; exact hR) ?_
          try simp only [wpK_assoc]
          first | refine wpK_onF (by simp []) ?_ | refine wpK_out (by simp []) ?_ | refine wpK_condF (by simp []) ?_ | refine wpK_endF (by simp []) (wpK_skip ?_) | refine wpK_endF (by simp []) ?_
          try simp only [wpK_assoc]
          refine wpK_reg1 (fun R hR => by simp [h6, hsi]; exact hR) ?_
          exact fin _ (by simp [h1]) (by simp [h2]) (by simp) (by simp [-testBit_dec, hbf, hbg, h5])
        | false =>
          rw [hbg] at hf2
          try simp only [wpK_assoc]
          refine wpK_reg (fun R hR => by
            simp [h1, h2, h6, l1, eV, la1, aEnter, fun50, short_other, aCallV]; rw [callS_none]
            refine hf1.mono ?_
            rintro _ W9 ⟨e9, rfl⟩; subst W9
            simp [h1, h2, h6, l1, eV, la2, aEnter, fun50, short_other, aCallV]; rw [callS_none]
            refine hf2.mono ?_
            rintro _ W9 ⟨e9, rfl⟩; subst W9
            simp; exact hR) ?_
          try simp only [wpK_assoc]
          first | refine wpK_onT (by simp []) ?_ | refine wpK_outT (by simp []) ?_ | refine wpK_condT (by simp []) ?_ | refine wpK_endT (by simp []) ?_
          try simp only [wpK_assoc]
          refine wpK_reg1 (fun R hR => by simp [h2, h5, h6, l1, eV, la3, w1]; exact hR) ?_
          try simp only [wpK_assoc]
          refine wpK_reg1 (fun R hR => by simp [h6, hsi]; exact hR) ?_
          exact fin _ (by simp [h1]) (by simp [h2]) (by simp) (by simp [-testBit_dec, hbf, hbg])
    · have e : i = l.length := by omega
      rw [e, ← hql, List.take_length] at h5
      try simp only [wpK_assoc]
      first | refine wpK_onF (by simp [hlt]) ?_ | refine wpK_out (by simp [hlt]) ?_ | refine wpK_condF (by simp [hlt]) ?_ | refine wpK_endF (by simp [hlt]) (wpK_skip ?_) | refine wpK_endF (by simp [hlt]) ?_
      exact hJ _ _ ⟨rfl, rfl, rfl, by simp [h5]⟩
  · rintro A' W' hf; exact hf.elim
  · rintro ⟨tm, n, ds⟩ W' ⟨hn, hd, rfl, h5⟩
    simp only at hn hd h5
    subst hn; subst hd
    try simp only [wpK_assoc]
    refine wpK_reg (fun R hR => by simp [h5]; exact hR) ?_
    exact wpK_ret ⟨.inr rfl, rfl, [.int .i64 (capQ B (arcsQ l))], by simp, hE0, rfl⟩
theorem cellsAt_len {W : AW} {b o : Nat} {k : List Value} (h : W.cellsAt b o 0 = some k) : k.length = 0 := by
  unfold AW.cellsAt at h
  split at h
  · split at h
    · cases h; rfl
    · cases h
  · split at h
    · cases h; rfl
    · cases h
  · cases h
end Go.Proofs.YtkipaffjmcmclaaDoor

open Go Go.Eng
namespace Go.Proofs.YtkipaffjmcmclaaDoor
attribute [local congr] undef_congr WpK.congr WpS.congr WpL.congr WpC.congr WpF.congr gotS.congr callS.congr nextS.congr wantS.congr condS.congr
attribute [local irreducible] WpK
attribute [local simp] WpDr_nil WpDr_cons atS_some dwantS_true dwantS_false kindS_light kindS_float kindS_heavy lightS_value floatS_some heavyS_value heavyS_skip heavyS_enter dcallS_some doneS_eq
  isLight isFloat isPlain dLook testBit_dec dChain dLights_nil dLights_skip dLights_one dLight_nil dLight_cons dFreshes_nil dFreshes_one oneF_none oneF_some dFresh_nil dFresh_cons oneL_some oneW_true oneW_false sameV_value dPut dMay valEq arrEq listEq List.getElem?_cons Tr.get_nil dEnd
attribute [local simp] WpS_nil WpS_cons isDefer undef_false wantS_true wantS_false nextS_value nextS_skip nextS_enter callS_some gotS_some aWanted aOp aEvalF aEval opMove opAssign opPick aVal flat flat1 AAct.put opBinOp opConvert opIndex Tr.get_set Tr.get_lay aBin aResults tupled
  aCall aVals aCallB blt_dec ble_dec beq_dec aBinI_add aBinI_sub aBinI_lss aBinI_leq aBinI_gtr aBinI_geq aBinI_eql aBinI_neq index_str len_str len_slice Nat.beq_refl und2 und3 und4 und5 und39 und76 und82 und116 und22 und29 und25 und33 und46 und43 und49 und111 und113 field152 field156_0 field156_1 field156_2 field156_3 field156_4
  field78 field106 field24 field31 field27 field35 field108 field109 opBox opLoad opFieldAddr opIndexAddr acells aAddr opExtract aExtract opUnOp opAlloc opStore opMakeInterface opNilCheck opBuild aParts opBuildSlice aValW
set_option maxHeartbeats 4000000
set_option linter.unusedSimpArgs false
set_option linter.unusedVariables false
/-! ### the law FlowJudges -/
end Go.Proofs.YtkipaffjmcmclaaDoor

open Go Go.Eng
namespace Go.Proofs.YtkipaffjmcmclaaDoor
attribute [local congr] undef_congr WpK.congr WpS.congr WpL.congr WpC.congr WpF.congr gotS.congr callS.congr nextS.congr wantS.congr condS.congr
attribute [local irreducible] WpK
attribute [local simp] WpDr_nil WpDr_cons atS_some dwantS_true dwantS_false kindS_light kindS_float kindS_heavy lightS_value floatS_some heavyS_value heavyS_skip heavyS_enter dcallS_some doneS_eq
  isLight isFloat isPlain dLook testBit_dec dChain dLights_nil dLights_skip dLights_one dLight_nil dLight_cons dFreshes_nil dFreshes_one oneF_none oneF_some dFresh_nil dFresh_cons oneL_some oneW_true oneW_false sameV_value dPut dMay valEq arrEq listEq List.getElem?_cons Tr.get_nil dEnd
attribute [local simp] WpS_nil WpS_cons isDefer undef_false wantS_true wantS_false nextS_value nextS_skip nextS_enter callS_some gotS_some aWanted aOp aEvalF aEval opMove opAssign opPick aVal flat flat1 AAct.put opBinOp opConvert opIndex Tr.get_set Tr.get_lay aBin aResults tupled
  aCall aVals aCallB blt_dec ble_dec beq_dec aBinI_add aBinI_sub aBinI_lss aBinI_leq aBinI_gtr aBinI_geq aBinI_eql aBinI_neq index_str len_str len_slice Nat.beq_refl und2 und3 und4 und5 und39 und76 und82 und116 und22 und29 und25 und33 und46 und43 und49 und111 und113 field152 field156_0 field156_1 field156_2 field156_3 field156_4
  field78 field106 field24 field31 field27 field35 field108 field109 opBox opLoad opFieldAddr opIndexAddr acells aAddr opExtract aExtract opUnOp opAlloc opStore opMakeInterface opNilCheck opBuild aParts opBuildSlice aValW
set_option maxHeartbeats 4000000
set_option linter.unusedSimpArgs false
set_option linter.unusedVariables false
/-! ### the law FlowJudges -/
theorem z3' : Tryd.t3.zero = some (.int .i64 0) := z3
theorem by3' : Tryd.t3.bytes = 8 := by3
end Go.Proofs.YtkipaffjmcmclaaDoor

open Go Go.Eng
namespace Go.Proofs.YtkipaffjmcmclaaDoor
attribute [local congr] undef_congr WpK.congr WpS.congr WpL.congr WpC.congr WpF.congr gotS.congr callS.congr nextS.congr wantS.congr condS.congr
attribute [local irreducible] WpK
attribute [local simp] WpDr_nil WpDr_cons atS_some dwantS_true dwantS_false kindS_light kindS_float kindS_heavy lightS_value floatS_some heavyS_value heavyS_skip heavyS_enter dcallS_some doneS_eq
  isLight isFloat isPlain dLook testBit_dec dChain dLights_nil dLights_skip dLights_one dLight_nil dLight_cons dFreshes_nil dFreshes_one oneF_none oneF_some dFresh_nil dFresh_cons oneL_some oneW_true oneW_false sameV_value dPut dMay valEq arrEq listEq List.getElem?_cons Tr.get_nil dEnd
attribute [local simp] WpS_nil WpS_cons isDefer undef_false wantS_true wantS_false nextS_value nextS_skip nextS_enter callS_some gotS_some aWanted aOp aEvalF aEval opMove opAssign opPick aVal flat flat1 AAct.put opBinOp opConvert opIndex Tr.get_set Tr.get_lay aBin aResults tupled
  aCall aVals aCallB blt_dec ble_dec beq_dec aBinI_add aBinI_sub aBinI_lss aBinI_leq aBinI_gtr aBinI_geq aBinI_eql aBinI_neq index_str len_str len_slice Nat.beq_refl und2 und3 und4 und5 und39 und76 und82 und116 und22 und29 und25 und33 und46 und43 und49 und111 und113 field152 field156_0 field156_1 field156_2 field156_3 field156_4
  field78 field106 field24 field31 field27 field35 field108 field109 opBox opLoad opFieldAddr opIndexAddr acells aAddr opExtract aExtract opUnOp opAlloc opStore opMakeInterface opNilCheck opBuild aParts opBuildSlice aValW
set_option maxHeartbeats 4000000
set_option linter.unusedSimpArgs false
set_option linter.unusedVariables false
/-! ### trees: what is reached by branches -/
abbrev Bra := Tri
/-- the branches join x and y -/
def Joined (l : List Bra) (wo : Int) (x y : Int) : Prop := ∃ (i : Nat) (a : Bra), l[i]? = some a ∧ (i : Int) ≠ wo ∧ ((a.1 = x ∧ a.2.1 = y) ∨ (a.1 = y ∧ a.2.1 = x))
/-- .. by a way -/
inductive Way (l : List Bra) (wo : Int) (x : Int) : Int → Prop
  | here : Way l wo x x
  | next {y z : Int} : Way l wo x y → Joined l wo y z → Way l wo x z
def ClosedB (l : List Bra) (wo : Int) (T : Int → Prop) : Prop := ∀ y z, T y → Joined l wo y z → T z
theorem Way.within {l : List Bra} {wo x : Int} {T : Int → Prop} (hT : ClosedB l wo T) (hx : T x) {y : Int} (h : Way l wo x y) : T y := by
  induction h with
  | here => exact hx
  | next _ hj ih => exact hT _ _ ih hj
theorem Joined.symm {l : List Bra} {wo x y : Int} (h : Joined l wo x y) : Joined l wo y x := by
  obtain ⟨i, a, h1, h2, h3⟩ := h
  exact ⟨i, a, h1, h2, h3.symm⟩
/-- a set of places, by its bits -/
def inB (T : Nat) (x : Int) : Prop := 0 ≤ x ∧ T.testBit x.toNat = true
/-- one branch in a round -/
def stepB (wo : Int) (i : Nat) (a : Bra) (T : Nat) : Nat := if (i : Int) ≠ wo ∧ T.testBit a.1.toNat ≠ T.testBit a.2.1.toNat then T ||| (1 <<< a.1.toNat ||| 1 <<< a.2.1.toNat) else T
def roundB (wo : Int) : Nat → List Bra → Nat → Nat
  | _, [], T => T
  | i, a :: l, T => roundB wo (i + 1) l (stepB wo i a T)
def roundsB (l : List Bra) (wo : Int) : Nat → Nat → Nat
  | 0, T => T
  | n + 1, T => roundsB l wo n (roundB wo 0 l T)
/-- branches between places below n -/
def BrIn (n : Nat) (l : List Bra) : Prop := ∀ a ∈ l, 0 ≤ a.1 ∧ a.1 < n ∧ 0 ≤ a.2.1 ∧ a.2.1 < n
theorem stepB_bit {wo : Int} {i : Nat} {a : Bra} {T q : Nat} : (stepB wo i a T).testBit q = (T.testBit q || (decide ((i : Int) ≠ wo ∧ T.testBit a.1.toNat ≠ T.testBit a.2.1.toNat) && (decide (a.1.toNat = q) || decide (a.2.1.toNat = q)))) := by
  unfold stepB
  split
  · rename_i h
    rw [Nat.testBit_or, Nat.testBit_or, one_bit, one_bit, decide_eq_true h]; simp
  · rename_i h
    rw [decide_eq_false h]; simp
theorem stepB_le {wo : Int} {i : Nat} {a : Bra} {T q : Nat} (h : T.testBit q = true) : (stepB wo i a T).testBit q = true := by rw [stepB_bit, h]; rfl
theorem roundB_le {wo : Int} : ∀ {l : List Bra} {i T q : Nat}, T.testBit q = true → (roundB wo i l T).testBit q = true
  | [], _, _, _, h => h
  | a :: l, i, T, q, h => by rw [roundB]; exact roundB_le (l := l) (i := i + 1) (T := stepB wo i a T) (stepB_le h)
/-- a round stays within what is closed -/
theorem roundB_in {wo : Int} {L : List Bra} {n : Nat} {C : Int → Prop} (hC : ClosedB L wo C) (hL : BrIn n L) : ∀ (l : List Bra) (i T : Nat), (∀ (j : Nat) a, l[j]? = some a → L[i + j]? = some a) → (∀ q : Nat, T.testBit q = true → C q) → ∀ q : Nat, (roundB wo i l T).testBit q = true → C q
  | [], _, _, _, hT, q, h => hT q h
  | a :: l, i, T, hl, hT, q, h => by
    have ha := hl 0 a rfl
    rw [Nat.add_zero] at ha
    have hb := hL a (List.mem_of_getElem? ha)
    refine roundB_in hC hL l (i + 1) (stepB wo i a T) (fun j b hj => by rw [show i + 1 + j = i + (j + 1) from by omega]; exact hl (j + 1) b (by simpa using hj)) (fun r hr => ?_) q h
    rw [stepB_bit] at hr
    cases hTr : T.testBit r with
    | true => exact hT r hTr
    | false =>
      rw [hTr, Bool.false_or, Bool.and_eq_true, decide_eq_true_eq, Bool.or_eq_true, decide_eq_true_eq, decide_eq_true_eq] at hr
      obtain ⟨⟨h1, h2⟩, h3⟩ := hr
      have e1 : ((a.1.toNat : Nat) : Int) = a.1 := by omega
      have e2 : ((a.2.1.toNat : Nat) : Int) = a.2.1 := by omega
      rcases h3 with h3 | h3
      · have : T.testBit a.2.1.toNat = true := by
          rw [h3, hTr] at h2
          cases hh : T.testBit a.2.1.toNat with
          | true => rfl
          | false => exact absurd hh.symm h2
        have := hC _ _ (hT _ this) ⟨i, a, ha, h1, .inr ⟨rfl, by rw [e2]⟩⟩
        rw [← h3, e1]; exact this
      · have : T.testBit a.1.toNat = true := by
          rw [h3, hTr] at h2
          cases hh : T.testBit a.1.toNat with
          | true => rfl
          | false => exact absurd hh h2
        have := hC _ _ (hT _ this) ⟨i, a, ha, h1, .inl ⟨by rw [e1], rfl⟩⟩
        rw [← h3, e2]; exact this
/-- a round that changes nothing has found all -/
theorem roundB_same {wo : Int} : ∀ {l : List Bra} {i T : Nat}, (∀ q, (roundB wo i l T).testBit q = T.testBit q) → ∀ (j : Nat) a, l[j]? = some a → ((i + j : Nat) : Int) ≠ wo → T.testBit a.1.toNat = T.testBit a.2.1.toNat
  | [], _, _, _, j, a, h, _ => by simp at h
  | b :: l, i, T, hs, j, a, h, hw => by
    have h1 : ∀ q, (stepB wo i b T).testBit q = T.testBit q := fun q => by
      cases hT : T.testBit q with
      | true => exact stepB_le hT
      | false =>
        cases hS : (stepB wo i b T).testBit q with
        | false => rfl
        | true =>
          have := roundB_le (wo := wo) (l := l) (i := i + 1) hS
          have h2 := hs q
          rw [hT] at h2
          have h2' : (roundB wo (i + 1) l (stepB wo i b T)).testBit q = false := h2
          rw [this] at h2'; cases h2'
    have e : stepB wo i b T = T := Nat.eq_of_testBit_eq h1
    cases j with
    | zero =>
      simp at h; subst h
      rw [Nat.add_zero] at hw
      apply Classical.byContradiction
      intro hne
      have ha := h1 b.1.toNat
      have hb := h1 b.2.1.toNat
      rw [stepB_bit, decide_eq_true ⟨hw, hne⟩] at ha hb
      simp [-testBit_dec] at ha hb
      rw [ha, hb] at hne
      exact hne rfl
    | succ j =>
      have hs' : ∀ q, (roundB wo (i + 1) l T).testBit q = T.testBit q := fun q => by
        have := hs q
        rw [roundB, e] at this; exact this
      exact roundB_same hs' j a (by simpa using h) (by rw [show i + 1 + j = i + (j + 1) from by omega]; exact hw)

/-- how many places below n a set has -/
def cntB (T : Nat) : Nat → Nat
  | 0 => 0
  | n + 1 => cntB T n + (if T.testBit n then 1 else 0)
theorem cntB_le {T U : Nat} (h : ∀ q, T.testBit q = true → U.testBit q = true) : ∀ n, cntB T n ≤ cntB U n
  | 0 => Nat.le_refl _
  | n + 1 => by
    have := cntB_le h n
    rw [cntB, cntB]
    cases hT : T.testBit n with
    | false => simp only [Bool.false_eq_true, if_false]; split <;> omega
    | true => rw [h n hT]; omega
theorem cntB_lt {T U q : Nat} (h : ∀ q, T.testBit q = true → U.testBit q = true) (h1 : T.testBit q = false) (h2 : U.testBit q = true) : ∀ n, q < n → cntB T n < cntB U n
  | 0, hq => by omega
  | n + 1, hq => by
    rw [cntB, cntB]
    by_cases e : q = n
    · subst e
      have := cntB_le h q
      rw [h1, h2]; simp; omega
    · have := cntB_lt h h1 h2 n (by omega)
      cases hT : T.testBit n with
      | false => simp only [Bool.false_eq_true, if_false]; split <;> omega
      | true => rw [h n hT]; omega
theorem cntB_max (T : Nat) : ∀ n, cntB T n ≤ n
  | 0 => Nat.le_refl _
  | n + 1 => by have := cntB_max T n; rw [cntB]; split <;> omega
theorem cntB_pos {T q : Nat} (h : T.testBit q = true) : ∀ n, q < n → 0 < cntB T n
  | 0, hq => by omega
  | n + 1, hq => by
    rw [cntB]
    by_cases e : q = n
    · subst e; rw [h]; simp
    · have := cntB_pos h n (by omega); omega
/-- after enough rounds nothing changes -/
theorem rounds_fix {l : List Bra} {wo : Int} {n : Nat} (hL : BrIn n l) : ∀ (k T : Nat), (∀ q : Nat, T.testBit q = true → q < n) → n ≤ k + cntB T n → (∀ q, (roundB wo 0 l (roundsB l wo k T)).testBit q = (roundsB l wo k T).testBit q) ∧ (∀ q, T.testBit q = true → (roundsB l wo k T).testBit q = true)
  | 0, T, hT, hk => by
    have hin := roundB_in (wo := wo) (L := l) (n := n) (C := fun x => 0 ≤ x ∧ x < n) (fun y z hy ⟨i, a, h1, _, h3⟩ => by
      have := hL a (List.mem_of_getElem? h1)
      rcases h3 with ⟨_, rfl⟩ | ⟨rfl, _⟩ <;> omega) hL l 0 T (fun j a h => by rw [Nat.zero_add]; exact h) (fun q hq => by have := hT q hq; omega)
    refine ⟨fun q => ?_, fun q h => h⟩
    show (roundB wo 0 l T).testBit q = T.testBit q
    cases hq : T.testBit q with
    | true => exact roundB_le hq
    | false =>
      cases hr : (roundB wo 0 l T).testBit q with
      | false => rfl
      | true =>
        have h1 := (hin q hr).2
        have := cntB_lt (T := T) (U := roundB wo 0 l T) (fun q => roundB_le) hq hr n (by omega)
        have := cntB_max (roundB wo 0 l T) n
        omega
  | k + 1, T, hT, hk => by
    have hin := roundB_in (wo := wo) (L := l) (n := n) (C := fun x => 0 ≤ x ∧ x < n) (fun y z hy ⟨i, a, h1, _, h3⟩ => by
      have := hL a (List.mem_of_getElem? h1)
      rcases h3 with ⟨_, rfl⟩ | ⟨rfl, _⟩ <;> omega) hL l 0 T (fun j a h => by rw [Nat.zero_add]; exact h) (fun q hq => by have := hT q hq; omega)
    have hin' : ∀ q : Nat, (roundB wo 0 l T).testBit q = true → q < n := fun q hq => by have := hin q hq; omega
    rw [roundsB]
    by_cases hs : ∀ q, (roundB wo 0 l T).testBit q = T.testBit q
    · have e : roundB wo 0 l T = T := Nat.eq_of_testBit_eq hs
      have key : ∀ k, roundsB l wo k T = T := fun k => by
        induction k with
        | zero => rfl
        | succ k ih => rw [roundsB, e, ih]
      rw [e, key k]
      exact ⟨hs, fun q h => h⟩
    · have : ∃ q, (roundB wo 0 l T).testBit q = true ∧ T.testBit q = false := by
        apply Classical.byContradiction
        intro hn
        apply hs
        intro q
        cases hq : T.testBit q with
        | true => exact roundB_le hq
        | false =>
          cases hr : (roundB wo 0 l T).testBit q with
          | false => rfl
          | true => exact absurd ⟨q, hr, hq⟩ hn
      obtain ⟨q, h1, h2⟩ := this
      have hlt := cntB_lt (T := T) (U := roundB wo 0 l T) (fun q => roundB_le) h2 h1 n (hin' q h1)
      obtain ⟨g1, g2⟩ := rounds_fix hL k (roundB wo 0 l T) hin' (by omega)
      exact ⟨g1, fun q hq => g2 q (roundB_le hq)⟩
/-- what is reached from a place is what a way leads to -/
theorem reach_way {l : List Bra} {wo : Int} {n f : Nat} (hL : BrIn n l) (hf : f < n) (hn : n ≤ l.length + 1) (q : Nat) : (roundsB l wo l.length (1 <<< f)).testBit q = true ↔ Way l wo f q := by
  have h0 : ∀ q : Nat, (1 <<< f).testBit q = true → q < n := fun q hq => by rw [one_bit] at hq; simp at hq; omega
  have hc : 0 < cntB (1 <<< f) n := cntB_pos (q := f) (by rw [one_bit]; simp) n hf
  obtain ⟨g1, g2⟩ := rounds_fix (wo := wo) hL l.length (1 <<< f) h0 (by omega)
  have hin : ∀ (k T : Nat) (C : Int → Prop), ClosedB l wo C → (∀ q : Nat, T.testBit q = true → C q) → ∀ q : Nat, (roundsB l wo k T).testBit q = true → C q := by
    intro k
    induction k with
    | zero => intro T C _ hT q h; exact hT q h
    | succ k ih => intro T C hC hT q h; exact ih _ C hC (roundB_in hC hL l 0 T (fun j a h => by rw [Nat.zero_add]; exact h) hT) q h
  constructor
  · intro h
    refine hin l.length (1 <<< f) (fun x => Way l wo f x) (fun y z hy hj => .next hy hj) (fun q hq => ?_) q h
    rw [one_bit] at hq; simp at hq; subst hq; exact .here
  · intro h
    have hcl : ClosedB l wo (inB (roundsB l wo l.length (1 <<< f))) := fun y z hy ⟨i, a, h1, h2, h3⟩ => by
      have hs := roundB_same g1 i a h1 (by rw [Nat.zero_add]; exact h2)
      have hb := hL a (List.mem_of_getElem? h1)
      rcases h3 with ⟨rfl, rfl⟩ | ⟨rfl, rfl⟩
      · exact ⟨hb.2.2.1, by rw [← hs]; exact hy.2⟩
      · exact ⟨hb.1, by rw [hs]; exact hy.2⟩
    have := h.within hcl ⟨by omega, by rw [Int.toNat_natCast]; exact g2 f (by rw [one_bit]; simp)⟩
    simpa using this.2

end Go.Proofs.YtkipaffjmcmclaaDoor

open Go Go.Eng
namespace Go.Proofs.YtkipaffjmcmclaaDoor
attribute [local congr] undef_congr WpK.congr WpS.congr WpL.congr WpC.congr WpF.congr gotS.congr callS.congr nextS.congr wantS.congr condS.congr
attribute [local irreducible] WpK
attribute [local simp] WpDr_nil WpDr_cons atS_some dwantS_true dwantS_false kindS_light kindS_float kindS_heavy lightS_value floatS_some heavyS_value heavyS_skip heavyS_enter dcallS_some doneS_eq
  isLight isFloat isPlain dLook testBit_dec dChain dLights_nil dLights_skip dLights_one dLight_nil dLight_cons dFreshes_nil dFreshes_one oneF_none oneF_some dFresh_nil dFresh_cons oneL_some oneW_true oneW_false sameV_value dPut dMay valEq arrEq listEq List.getElem?_cons Tr.get_nil dEnd
attribute [local simp] WpS_nil WpS_cons isDefer undef_false wantS_true wantS_false nextS_value nextS_skip nextS_enter callS_some gotS_some aWanted aOp aEvalF aEval opMove opAssign opPick aVal flat flat1 AAct.put opBinOp opConvert opIndex Tr.get_set Tr.get_lay aBin aResults tupled
  aCall aVals aCallB blt_dec ble_dec beq_dec aBinI_add aBinI_sub aBinI_lss aBinI_leq aBinI_gtr aBinI_geq aBinI_eql aBinI_neq index_str len_str len_slice Nat.beq_refl und2 und3 und4 und5 und39 und76 und82 und116 und22 und29 und25 und33 und46 und43 und49 und111 und113 field152 field156_0 field156_1 field156_2 field156_3 field156_4
  field78 field106 field24 field31 field27 field35 field108 field109 opBox opLoad opFieldAddr opIndexAddr acells aAddr opExtract aExtract opUnOp opAlloc opStore opMakeInterface opNilCheck opBuild aParts opBuildSlice aValW
set_option maxHeartbeats 4000000
set_option linter.unusedSimpArgs false
set_option linter.unusedVariables false
/-! ### Branch types -/
theorem sz66 : aSize T0 66 = some 3 := by kernel_rfl
theorem field66 (b o f : Nat) (hf : f < 3) : aField T0 66 (.pointer (some ⟨b, o, none⟩)) f = some (.pointer (some ⟨b, o + f, none⟩)) := by
  match f, hf with
  | 0, _ => rfl
  | 1, _ => rfl
  | 2, _ => rfl
theorem und66 : T0.und.get 66 = some Tryd.t65.desc := by kernel_rfl
theorem agg66 : isAggD Tryd.t65.desc = true := by kernel_rfl
theorem inf66 : T0.info.get 66 = some Tryd.t66 := by kernel_rfl
theorem is66 : Tryd.t66.size = 3 := by kernel_rfl
theorem z66 : Tryd.t66.zero = some (.agg ⟨[.int .i64 0, .int .i64 0, .int .i64 0]⟩) := by kernel_rfl
theorem by66 : Tryd.t66.bytes = 24 := by kernel_rfl
theorem zero66 : aZero T0 66 = some (.agg ⟨[.int .i64 0, .int .i64 0, .int .i64 0]⟩) := by kernel_rfl
theorem sz97 : aSize T0 97 = some 3 := by kernel_rfl
theorem field97 (b o f : Nat) (hf : f < 3) : aField T0 97 (.pointer (some ⟨b, o, none⟩)) f = some (.pointer (some ⟨b, o + f, none⟩)) := by
  match f, hf with
  | 0, _ => rfl
  | 1, _ => rfl
  | 2, _ => rfl
theorem und97 : T0.und.get 97 = some Tryd.t65.desc := by kernel_rfl
theorem agg97 : isAggD Tryd.t65.desc = true := by kernel_rfl
theorem inf97 : T0.info.get 97 = some Tryd.t97 := by kernel_rfl
theorem is97 : Tryd.t97.size = 3 := by kernel_rfl
theorem z97 : Tryd.t97.zero = some (.agg ⟨[.int .i64 0, .int .i64 0, .int .i64 0]⟩) := by kernel_rfl
theorem by97 : Tryd.t97.bytes = 24 := by kernel_rfl
theorem und92 : T0.und.get 92 = some (.slice 97) := by kernel_rfl
theorem bs92 (W : AW) (x y z : Value) : aBuildSlice T0 W 92 1 [(0, .agg ⟨[x, y, z]⟩)] = some (.slice (some ⟨W.next, 0, none⟩) 1 2, W.newCells 97 [x, y, z]) := by kernel_rfl
/-- the numbers from 0 to less than n, as a set -/
theorem below_wp (n : Nat) (hn : n ≤ 31) (W : AW) : WpF T0 82 [.int .i64 n] W (fun v W' => W' = W ∧ v = .int .u32 ((2 ^ n - 1 : Nat) : Int)) := by
  refine wpF fun82 rfl ?_
  have hp : 2 ^ n ≤ 2 ^ 31 := Nat.pow_le_pow_right (by omega) hn
  have h0 : 0 < 2 ^ n := Nat.two_pow_pos n
  have h1 : aBinI .shl .u32 1 .i64 (n : Int) = some (.int .u32 ((2 ^ n : Nat) : Int)) := by
    have := aBinI_shl .u32 .i64 1 n (by show n ≤ 32; omega) (by rw [Nat.one_mul]; show 2 ^ n < 4294967296; omega)
    rw [Nat.shiftLeft_eq, Nat.one_mul] at this; exact this
  have w : IntKind.u32.wrap (((2 ^ n : Nat) : Int) - 1) = ((2 ^ n - 1 : Nat) : Int) := by
    have : (((2 ^ n : Nat) : Int) - 1) = ((2 ^ n - 1 : Nat) : Int) := by omega
    rw [this]; exact wrap_nat .u32 _ (by show 2 ^ n - 1 < 4294967296; omega)
  generalize ((2 ^ n : Nat) : Int) = pw at h1 w
  generalize ((2 ^ n - 1 : Nat) : Int) = pm at w
  try simp only [wpK_assoc]
  refine wpK_reg (fun R hR => by simp []; exact hR) ?_
  try simp only [wpK_assoc]
  refine wpK_reg (fun R hR => by simp [h1, w]; exact hR) ?_
  exact wpK_ret ⟨.inr rfl, rfl, [.int .u32 pm], by simp, rfl, rfl⟩
theorem stepB_lt {wo : Int} {i : Nat} {a : Bra} {T n : Nat} (h : T < 2 ^ n) (h1 : a.1.toNat < n) (h2 : a.2.1.toNat < n) : stepB wo i a T < 2 ^ n := by
  unfold stepB
  split
  · refine Nat.or_lt_two_pow h (Nat.or_lt_two_pow ?_ ?_)
    · rw [Nat.shiftLeft_eq, Nat.one_mul]; exact Nat.pow_lt_pow_right (by omega) h1
    · rw [Nat.shiftLeft_eq, Nat.one_mul]; exact Nat.pow_lt_pow_right (by omega) h2
  · exact h
theorem roundB_snoc (wo : Int) : ∀ (l : List Bra) (i T : Nat) (a : Bra), roundB wo i (l ++ [a]) T = stepB wo (i + l.length) a (roundB wo i l T)
  | [], i, T, a => by simp [roundB]
  | b :: l, i, T, a => by
    rw [List.cons_append, roundB, roundB, roundB_snoc wo l (i + 1) _ a, List.length_cons]
    congr 1; omega
theorem roundsB_succ (l : List Bra) (wo : Int) : ∀ (n T : Nat), roundsB l wo (n + 1) T = roundB wo 0 l (roundsB l wo n T)
  | 0, _ => rfl
  | n + 1, T => by rw [roundsB, roundsB_succ l wo n, roundsB]
theorem reach_wp {W : AW} {v : Value} {l : List Bra} {n f : Nat} (h : TriIn W v l) (hl : l.length ≤ 100) (hL : BrIn n l) (hn : n ≤ 31) (hf : f < n) (wo : Int) :
    WpF T0 69 [v, .int .i64 f, .int .i64 wo] W (fun u W' => Ext W W' ∧ u = .int .u32 ((roundsB l wo l.length (1 <<< f) : Nat) : Int) ∧ roundsB l wo l.length (1 <<< f) < 2 ^ n) := by
  obtain ⟨Av, cv, rfl, hA⟩ := h
  refine wpF fun69 rfl ?_
  have hp : 2 ^ n ≤ 2 ^ 31 := Nat.pow_le_pow_right (by omega) hn
  have h1 := one_wp f (by omega) W
  have hof : 1 <<< f < 2 ^ n := by rw [Nat.shiftLeft_eq, Nat.one_mul]; exact Nat.pow_lt_pow_right (by omega) hf
  generalize h1f : 1 <<< f = s0 at h1 hof
  try simp only [wpK_assoc]
  refine wpK_reg (fun R hR => by simp []; exact hR) ?_
  try simp only [wpK_assoc]
  refine wpK_reg (fun R hR => by
      simp [aEnter, fun54, short_other, aCallV]; rw [callS_none]
      refine (h1).mono ?_
      rintro _ W9 ⟨e9, rfl⟩; subst W9
      simp []; exact hR) ?_
  try simp only [wpK_assoc]
  refine wpK_reg (fun R hR => by simp [len_slice und59]; exact hR) ?_
  try simp only [wpK_assoc]
  refine wpK_while (I := fun k A W' => A.n = 49 ∧ A.defers = [] ∧ A.tmps.get 0 = some (.slice Av l.length cv) ∧ A.tmps.get 2 = some (.int .i64 wo) ∧ A.tmps.get 13 = some (.int .i64 l.length) ∧ Ext W W' ∧ ∃ i T : Nat, k = l.length - i ∧ i ≤ l.length ∧ A.tmps.get 14 = some (.int .i64 i) ∧ T = roundsB l wo i s0 ∧ T < 2 ^ n ∧ A.tmps.get 7 = some (.int .u32 (T : Int)))
    (J := fun A W' => A.n = 49 ∧ A.defers = [] ∧ Ext W W' ∧ ∃ T : Nat, T = roundsB l wo l.length s0 ∧ T < 2 ^ n ∧ A.tmps.get 7 = some (.int .u32 (T : Int)))
    (Rt := fun _ _ => False) (k := l.length) ?_ ?_ ?_ ?_
  · exact ⟨rfl, rfl, by simp, by simp, by simp, .refl _ _, 0, s0, by simp, by omega, by simp, rfl, hof, by simp⟩
  · rintro k ⟨tm, n, ds⟩ W3 ⟨hn, hd, h0, h2, h13, e3, i, T, hk, hi, h14, hT, hTn, h7⟩ Q' hJ hRt hI
    simp only at hn hd h0 h2 h13
    subst hn; subst hd
    simp only at h14 h7
    try simp only [wpK_assoc]
    refine wpK_reg (fun R hR => by simp [h13, h14]; exact hR) ?_
    by_cases hlt : i < l.length
    case neg =>
      have e : i = l.length := by omega
      try simp only [wpK_assoc]
      first | refine wpK_onF (by simp [hlt]) ?_ | refine wpK_out (by simp [hlt]) ?_ | refine wpK_condF (by simp [hlt]) ?_ | refine wpK_endF (by simp [hlt]) (wpK_skip ?_) | refine wpK_endF (by simp [hlt]) ?_
      exact hJ _ _ ⟨rfl, rfl, e3, T, by rw [hT, e], hTn, by simp [h7]⟩
    try simp only [wpK_assoc]
    first | refine wpK_onT (by simp [hlt]) ?_ | refine wpK_outT (by simp [hlt]) ?_ | refine wpK_condT (by simp [hlt]) ?_ | refine wpK_endT (by simp [hlt]) ?_
    have hsi : IntKind.i64.wrap ((i : Int) + 1) = ((i + 1 : Nat) : Int) := i64_succ i (by omega)
    refine wpK_block ?_
    try simp only [wpK_assoc]
    refine wpK_reg (fun R hR => by simp [h0, len_slice und59]; exact hR) ?_
    try simp only [wpK_assoc]
    refine wpK_while1 (I := fun k A W' => A.n = 49 ∧ A.defers = [] ∧ A.tmps.get 0 = some (.slice Av l.length cv) ∧ A.tmps.get 2 = some (.int .i64 wo) ∧ A.tmps.get 13 = some (.int .i64 l.length) ∧ A.tmps.get 14 = some (.int .i64 i) ∧ A.tmps.get 16 = some (.slice Av l.length cv) ∧ A.tmps.get 17 = some (.int .i64 l.length) ∧ Ext W W' ∧ ∃ j U : Nat, k = l.length - j ∧ j ≤ l.length ∧ A.tmps.get 18 = some (.int .i64 j) ∧ U = roundB wo 0 (l.take j) T ∧ U < 2 ^ n ∧ A.tmps.get 7 = some (.int .u32 (U : Int)))
      (J := fun A W' => A.n = 49 ∧ A.defers = [] ∧ A.tmps.get 0 = some (.slice Av l.length cv) ∧ A.tmps.get 2 = some (.int .i64 wo) ∧ A.tmps.get 13 = some (.int .i64 l.length) ∧ Ext W W' ∧ A.tmps.get 14 = some (.int .i64 i) ∧ ∃ U : Nat, U = roundB wo 0 l T ∧ U < 2 ^ n ∧ A.tmps.get 7 = some (.int .u32 (U : Int)))
      (Rt := fun _ _ => False) (k := l.length) ?_ ?_ ?_ ?_
    · exact ⟨rfl, rfl, by simp [h0, h2, h13, h14], by simp [h0, h2, h13, h14], by simp [h0, h2, h13, h14], by simp [h0, h2, h13, h14], by simp [h0, h2, h13, h14], by simp [h0, h2, h13, h14], e3, 0, T, by simp, by omega, by simp, by simp [roundB], hTn, by simp [h7]⟩
    · rintro kk ⟨tm, n, ds⟩ W4 ⟨hn, hd, h0, h2, h13, h14, h16, h17, e4, j, U, hkk, hj, h18, hU, hUn, h7⟩ Q3 hJ3 hRt3 hI3
      simp only at hn hd h0 h2 h13 h14 h16 h17
      subst hn; subst hd
      simp only at h18 h7
      try simp only [wpK_assoc]
      refine wpK_reg (fun R hR => by simp [h17, h18]; exact hR) ?_
      by_cases hltj : j < l.length
      case neg =>
        have e : j = l.length := by omega
        rw [e, List.take_length] at hU
        try simp only [wpK_assoc]
        first | refine wpK_onF (by simp [hltj]) ?_ | refine wpK_out (by simp [hltj]) ?_ | refine wpK_condF (by simp [hltj]) ?_ | refine wpK_endF (by simp [hltj]) (wpK_skip ?_) | refine wpK_endF (by simp [hltj]) ?_
        exact hJ3 _ _ ⟨rfl, rfl, by simp [h0, h2, h13], by simp [h0, h2, h13], by simp [h0, h2, h13], e4, by simp [h14], U, hU, hUn, by simp [h7]⟩
      try simp only [wpK_assoc]
      first | refine wpK_onT (by simp [hltj]) ?_ | refine wpK_outT (by simp [hltj]) ?_ | refine wpK_condT (by simp [hltj]) ?_ | refine wpK_endT (by simp [hltj]) ?_
      have ha : l[j]? = some l[j] := List.getElem?_eq_getElem hltj
      have hmem : l[j] ∈ l := List.getElem_mem hltj
      generalize l[j] = a at ha hmem
      have hb := hL a hmem
      have hsn : roundB wo 0 (l.take (j + 1)) T = stepB wo j a U := by
        have : l.take (j + 1) = l.take j ++ [a] := by rw [List.take_add_one, ha]; rfl
        rw [this, roundB_snoc, ← hU, List.length_take, Nat.zero_add, Nat.min_eq_left (by omega)]
      have hslt := stepB_lt (wo := wo) (i := j) (a := a) hUn (show a.1.toNat < n by omega) (show a.2.1.toNat < n by omega)
      obtain ⟨a1, a2, a3⟩ := a
      simp only at hb
      obtain ⟨x, rfl⟩ : ∃ x : Nat, a1 = x := ⟨a1.toNat, by omega⟩
      obtain ⟨y, rfl⟩ : ∃ y : Nat, a2 = y := ⟨a2.toNat, by omega⟩
      obtain ⟨b, o, hAv, q1, q2, q3⟩ := hA j _ ha
      have eV := indexAddr_tri (T := T0) und59 sz66 (b := b) (o := o) (c := cv) (k := .i64) hltj
      rw [← hAv] at eV
      have hl3 := load3 (T := T0) und66 agg66 inf66 is66 (q1.ext e4) (q2.ext e4) (q3.ext e4)
      obtain ⟨W5, s1, s2, hE5, hV5⟩ := storeVar_new (T := T0) (W := W4) (t := 66) (v := .agg ⟨[.int .i64 x, .int .i64 y, .int .i64 a3]⟩) (z := [.int .i64 0, .int .i64 0, .int .i64 0]) inf66 (by rw [is66]; rfl) (by rw [is66]; rfl) rfl
      have e5 := e4.trans hE5
      have lx : aLoadVar T0 W5 3 W4.next 0 = some (.int .i64 x) := hV5.load1 (T := T0) und3 rfl (j := 0) (v := .int .i64 x) rfl
      have ly : aLoadVar T0 W5 3 W4.next 1 = some (.int .i64 y) := hV5.load1 (T := T0) und3 rfl (j := 1) (v := .int .i64 y) rfl
      have hsj : IntKind.i64.wrap ((j : Int) + 1) = ((j + 1 : Nat) : Int) := i64_succ j (by omega)
      refine wpK_block ?_
      try simp only [wpK_assoc]
      refine wpK_reg (fun R hR => by simp [h16, h18, eV, hl3, zero66, s1]; exact hR) ?_
      have hx1 := has_wp U x (by omega) (by omega) W5
      have hy1 := has_wp U y (by omega) (by omega) W5
      obtain ⟨bx, hbx⟩ : ∃ c : Bool, c = U.testBit x := ⟨_, rfl⟩
      obtain ⟨by', hby⟩ : ∃ c : Bool, c = U.testBit y := ⟨_, rfl⟩
      rw [← hbx] at hx1
      rw [← hby] at hy1
      refine wpK_cut1 (J := fun A W' => A.n = 49 ∧ A.defers = [] ∧ A.tmps.get 0 = some (.slice Av l.length cv) ∧ A.tmps.get 2 = some (.int .i64 wo) ∧ A.tmps.get 13 = some (.int .i64 l.length) ∧ A.tmps.get 14 = some (.int .i64 i) ∧ A.tmps.get 16 = some (.slice Av l.length cv) ∧ A.tmps.get 17 = some (.int .i64 l.length) ∧ W' = W5 ∧ A.tmps.get 18 = some (.int .i64 j) ∧ A.tmps.get 7 = some (.int .u32 ((stepB wo j ((x : Int), (y : Int), a3) U : Nat) : Int))) (fun Q2 hQ2 => ?_) ?_
      · by_cases c1 : (j : Int) = wo
        · have hst : stepB wo j ((x : Int), (y : Int), a3) U = U := by unfold stepB; rw [if_neg (fun h => h.1 c1)]
          try simp only [wpK_assoc]
          refine wpK_dn (wr := Tr.nil |>.set 23 0 |>.set 24 1 |>.set 25 2 |>.set 26 3 |>.set 27 4 |>.set 28 5 |>.set 29 6 |>.set 30 7 |>.set 31 8 |>.set 32 9 |>.set 33 10 |>.set 34 11 |>.set 35 12 |>.set 36 13) (bits := Tr.nil.lay 0 [0, 0, 3, 7, 15, 15, 47, 127, 15, 15, 527, 2047, 4095, 8191]) (ord := [0, 1, 2, 3, 4, 5, 6, 7, 8, 9, 10, 11, 12, 13]) (by kernel_rfl) (by kernel_rfl) (by kernel_rfl) (fun G hG => by
            simp [h2, c1, undef]
            exact hG) ?_
          refine wpK_endF (by simp) (wpK_skip (hQ2 _ _ ⟨rfl, rfl, by simp [h0, h2, h13, h14, h16, h17], by simp [h0, h2, h13, h14, h16, h17], by simp [h0, h2, h13, h14, h16, h17], by simp [h0, h2, h13, h14, h16, h17], by simp [h0, h2, h13, h14, h16, h17], by simp [h0, h2, h13, h14, h16, h17], rfl, by simp [h18], by rw [hst]; simp [h7]⟩))
        by_cases c2 : bx = by'
        · have hst : stepB wo j ((x : Int), (y : Int), a3) U = U := by
            unfold stepB; rw [if_neg (fun h => h.2 (by
              show U.testBit ((x : Int)).toNat = U.testBit ((y : Int)).toNat
              rw [Int.toNat_natCast, Int.toNat_natCast, ← hbx, ← hby]; exact c2))]
          subst c2
          clear hbx hby
          try simp only [wpK_assoc]
          refine wpK_dn (wr := Tr.nil |>.set 23 0 |>.set 24 1 |>.set 25 2 |>.set 26 3 |>.set 27 4 |>.set 28 5 |>.set 29 6 |>.set 30 7 |>.set 31 8 |>.set 32 9 |>.set 33 10 |>.set 34 11 |>.set 35 12 |>.set 36 13) (bits := Tr.nil.lay 0 [0, 0, 3, 7, 15, 15, 47, 127, 15, 15, 527, 2047, 4095, 8191]) (ord := [0, 1, 2, 3, 4, 5, 6, 7, 8, 9, 10, 11, 12, 13]) (by kernel_rfl) (by kernel_rfl) (by kernel_rfl) (fun G hG => by
            simp [h2, h7, c1, lx, aEnter, fun62, short_other, aCallV, field66]
            rw [dcallS_none]
            refine hx1.mono ?_
            rintro _ W9 ⟨e9, rfl⟩; subst W9
            simp [h2, h7, c1, lx, ly, aEnter, fun62, short_other, aCallV, field66]
            rw [dcallS_none]
            refine hy1.mono ?_
            rintro _ W9 ⟨e9, rfl⟩; subst W9
            simp [h2, h7, c1, lx, ly, aGuard, aBinO, aEq, und4, field66]
            exact hG) ?_
          refine wpK_endF (by simp) (wpK_skip (hQ2 _ _ ⟨rfl, rfl, by simp [h0, h2, h13, h14, h16, h17], by simp [h0, h2, h13, h14, h16, h17], by simp [h0, h2, h13, h14, h16, h17], by simp [h0, h2, h13, h14, h16, h17], by simp [h0, h2, h13, h14, h16, h17], by simp [h0, h2, h13, h14, h16, h17], rfl, by simp [h18], by rw [hst]; simp [h7]⟩))
        · have hst : stepB wo j ((x : Int), (y : Int), a3) U = U ||| (1 <<< x ||| 1 <<< y) := by
            unfold stepB; rw [if_pos ⟨c1, by
              show ¬ U.testBit ((x : Int)).toNat = U.testBit ((y : Int)).toNat
              rw [Int.toNat_natCast, Int.toNat_natCast, ← hbx, ← hby]; exact c2⟩]; rfl
          clear hbx hby
          have o1 := one_wp x (by omega) W5
          have o2 := one_wp y (by omega) W5
          have ho1 := one_lt (p := x) (by omega)
          have ho2 := one_lt (p := y) (by omega)
          have hor1 := aBinI_or .u32 (1 <<< x) (1 <<< y) ho1 ho2
          have hlt2 : 1 <<< x ||| 1 <<< y < 4294967296 := Nat.or_lt_two_pow (n := 32) ho1 ho2
          have hor2 := aBinI_or .u32 U (1 <<< x ||| 1 <<< y) (by show U < 4294967296; omega) hlt2
          generalize U ||| (1 <<< x ||| 1 <<< y) = r2 at hor2 hst
          generalize 1 <<< x ||| 1 <<< y = r1 at hor1 hor2
          generalize 1 <<< x = r3 at hor1 o1
          generalize 1 <<< y = r4 at hor1 o2
          have hne : (bx == by') = false := by simpa using c2
          try simp only [wpK_assoc]
          refine wpK_dn (wr := Tr.nil |>.set 23 0 |>.set 24 1 |>.set 25 2 |>.set 26 3 |>.set 27 4 |>.set 28 5 |>.set 29 6 |>.set 30 7 |>.set 31 8 |>.set 32 9 |>.set 33 10 |>.set 34 11 |>.set 35 12 |>.set 36 13) (bits := Tr.nil.lay 0 [0, 0, 3, 7, 15, 15, 47, 127, 15, 15, 527, 2047, 4095, 8191]) (ord := [0, 1, 2, 3, 4, 5, 6, 7, 8, 9, 10, 11, 12, 13]) (by kernel_rfl) (by kernel_rfl) (by kernel_rfl) (fun G hG => by
            simp [h2, h7, c1, lx, aEnter, fun62, short_other, aCallV, field66]
            rw [dcallS_none]
            refine hx1.mono ?_
            rintro _ W9 ⟨e9, rfl⟩; subst W9
            simp [h2, h7, c1, lx, ly, aEnter, fun62, short_other, aCallV, field66]
            rw [dcallS_none]
            refine hy1.mono ?_
            rintro _ W9 ⟨e9, rfl⟩; subst W9
            simp [h2, h7, c1, lx, ly, aGuard, aBinO, aEq, und4, field66, hne]
            exact hG) ?_
          try simp only [wpK_assoc]
          first | refine wpK_onT (by simp []) ?_ | refine wpK_outT (by simp []) ?_ | refine wpK_condT (by simp []) ?_ | refine wpK_endT (by simp []) ?_
          try simp only [wpK_assoc]
          refine wpK_qn (wr := Tr.nil |>.set 37 0 |>.set 38 1 |>.set 39 2 |>.set 40 3 |>.set 41 4 |>.set 42 5 |>.set 43 6 |>.set 44 7 |>.set 45 8 |>.set 7 9) (bits := Tr.nil.lay 0 [0, 0, 2, 6, 0, 16, 62, 126, 255, 511]) (ord := [0, 1, 2, 3, 4, 5, 6, 7, 8, 9]) (by kernel_rfl) (by kernel_rfl) (by kernel_rfl) (fun G hG => by
            simp [h7, lx, aEnter, fun54, short_other, aCallV, field66]
            rw [dcallS_none]
            refine o1.mono ?_
            rintro _ W9 ⟨e9, rfl⟩; subst W9
            simp [h7, lx, ly, aEnter, fun54, short_other, aCallV, field66]
            rw [dcallS_none]
            refine o2.mono ?_
            rintro _ W9 ⟨e9, rfl⟩; subst W9
            simp [h7, lx, ly, hor1, hor2, field66]
            exact hG) ?_
          exact hQ2 _ _ ⟨rfl, rfl, by simp [h0, h2, h13, h14, h16, h17], by simp [h0, h2, h13, h14, h16, h17], by simp [h0, h2, h13, h14, h16, h17], by simp [h0, h2, h13, h14, h16, h17], by simp [h0, h2, h13, h14, h16, h17], by simp [h0, h2, h13, h14, h16, h17], rfl, by simp [h18], by rw [hst]; simp⟩
      rintro ⟨tm, n, ds⟩ W6 ⟨hn, hd, h0, h2, h13, h14, h16, h17, rfl, h18, h7⟩
      simp only at hn hd h0 h2 h13 h14 h16 h17
      subst hn; subst hd
      simp only at h18 h7
      try simp only [wpK_assoc]
      refine wpK_reg1 (fun R hR => by simp [h18, hsj]; exact hR) ?_
      exact hI3 (kk - 1) _ _ (by omega) ⟨rfl, rfl, by simp [h0, h2, h13, h14, h16, h17], by simp [h0, h2, h13, h14, h16, h17], by simp [h0, h2, h13, h14, h16, h17], by simp [h0, h2, h13, h14, h16, h17], by simp [h0, h2, h13, h14, h16, h17], by simp [h0, h2, h13, h14, h16, h17], e5, j + 1, _, by omega, by omega, by simp, hsn.symm, hslt, by simp [h7]⟩
    · rintro A' W' hf; exact hf.elim
    · rintro ⟨tm, n, ds⟩ W4 ⟨hn, hd, h0, h2, h13, e4, h14, U, hU, hUn, h7⟩
      simp only at hn hd h0 h2 h13
      subst hn; subst hd
      simp only at h14 h7
      try simp only [wpK_assoc]
      refine wpK_reg1 (fun R hR => by simp [h14, hsi]; exact hR) ?_
      exact hI (k - 1) _ _ (by omega) ⟨rfl, rfl, by simp [h0, h2, h13], by simp [h0, h2, h13], by simp [h0, h2, h13], e4, i + 1, U, by omega, by omega, by simp, by rw [roundsB_succ, ← hT, hU], hUn, by simp [h7]⟩
  · rintro A' W' hf; exact hf.elim
  · rintro ⟨tm, n', ds⟩ W3 ⟨hn', hd, e3, T, hT, hTn, h7⟩
    simp only at hn' hd h7
    subst hn'; subst hd
    try simp only [wpK_assoc]
    refine wpK_reg (fun R hR => by simp [h7]; exact hR) ?_
    exact wpK_ret ⟨.inr rfl, rfl, [.int .u32 (T : Int)], by simp, e3, by rw [hT]; rfl, by rw [← hT]; exact hTn⟩

end Go.Proofs.YtkipaffjmcmclaaDoor

open Go Go.Eng
namespace Go.Proofs.YtkipaffjmcmclaaDoor
attribute [local congr] undef_congr WpK.congr WpS.congr WpL.congr WpC.congr WpF.congr gotS.congr callS.congr nextS.congr wantS.congr condS.congr
attribute [local irreducible] WpK
attribute [local simp] WpDr_nil WpDr_cons atS_some dwantS_true dwantS_false kindS_light kindS_float kindS_heavy lightS_value floatS_some heavyS_value heavyS_skip heavyS_enter dcallS_some doneS_eq
  isLight isFloat isPlain dLook testBit_dec dChain dLights_nil dLights_skip dLights_one dLight_nil dLight_cons dFreshes_nil dFreshes_one oneF_none oneF_some dFresh_nil dFresh_cons oneL_some oneW_true oneW_false sameV_value dPut dMay valEq arrEq listEq List.getElem?_cons Tr.get_nil dEnd
attribute [local simp] WpS_nil WpS_cons isDefer undef_false wantS_true wantS_false nextS_value nextS_skip nextS_enter callS_some gotS_some aWanted aOp aEvalF aEval opMove opAssign opPick aVal flat flat1 AAct.put opBinOp opConvert opIndex Tr.get_set Tr.get_lay aBin aResults tupled
  aCall aVals aCallB blt_dec ble_dec beq_dec aBinI_add aBinI_sub aBinI_lss aBinI_leq aBinI_gtr aBinI_geq aBinI_eql aBinI_neq index_str len_str len_slice Nat.beq_refl und2 und3 und4 und5 und39 und76 und82 und116 und22 und29 und25 und33 und46 und43 und49 und111 und113 field152 field156_0 field156_1 field156_2 field156_3 field156_4
  field78 field106 field24 field31 field27 field35 field108 field109 opBox opLoad opFieldAddr opIndexAddr acells aAddr opExtract aExtract opUnOp opAlloc opStore opMakeInterface opNilCheck opBuild aParts opBuildSlice aValW
set_option maxHeartbeats 4000000
set_option linter.unusedSimpArgs false
set_option linter.unusedVariables false
/-! ### boards with few places -/
theorem flt_bs22 {ρ : Operand → Option Value} {o : Operand} {x y z : Int} (h : ρ o = some (.agg ⟨[.int .i64 x, .int .i64 y, .int .i64 z]⟩)) : aFlt T0 ρ (.buildSlice 22 1 #[(0, o)]) = some ⟨78, [.int .i64 x, .int .i64 y, .int .i64 z], false, 1, 1⟩ := by
  have hp : aParts ρ [(0, o)] = some [(0, .agg ⟨[.int .i64 x, .int .i64 y, .int .i64 z]⟩)] := by simp [aParts, h]
  have hf : aFill (fun j => some (j * 3, 3)) (rep [.int .i64 0, .int .i64 0, .int .i64 0] 1) [(0, .agg ⟨[.int .i64 x, .int .i64 y, .int .i64 z]⟩)] = some [.int .i64 x, .int .i64 y, .int .i64 z] := by kernel_rfl
  simp only [aFlt, hp, und22, inf78, z78, is78, acells]
  rw [show Nat.ble (1 * 3) 16777216 = true from rfl]
  simp only [List.length_cons, List.length_nil, Nat.beq_refl]
  rw [hf]
theorem flt_bs25 {ρ : Operand → Option Value} {o : Operand} {x y z : Int} (h : ρ o = some (.agg ⟨[.int .i64 x, .int .i64 y, .int .i64 z]⟩)) : aFlt T0 ρ (.buildSlice 25 1 #[(0, o)]) = some ⟨109, [.int .i64 x, .int .i64 y, .int .i64 z], false, 1, 1⟩ := by
  have hp : aParts ρ [(0, o)] = some [(0, .agg ⟨[.int .i64 x, .int .i64 y, .int .i64 z]⟩)] := by simp [aParts, h]
  have hf : aFill (fun j => some (j * 3, 3)) (rep [.int .i64 0, .int .i64 0, .int .i64 0] 1) [(0, .agg ⟨[.int .i64 x, .int .i64 y, .int .i64 z]⟩)] = some [.int .i64 x, .int .i64 y, .int .i64 z] := by kernel_rfl
  simp only [aFlt, hp, und25, inf109, z109, is109, acells]
  rw [show Nat.ble (1 * 3) 16777216 = true from rfl]
  simp only [List.length_cons, List.length_nil, Nat.beq_refl]
  rw [hf]
theorem build109 (x y z : Int) : aBuild T0 109 [(0, .int .i64 x), (1, .int .i64 y), (2, .int .i64 z)] = some (.agg ⟨[.int .i64 x, .int .i64 y, .int .i64 z]⟩) := by kernel_rfl
theorem tamed_wp (pl m : Nat) (hpl : 2 ≤ pl) (hpl2 : pl ≤ 24) (hm : m ≤ 1000) {W : AW} {v : Value} (N0 : Int) {l : List Tri} (h : TriIn W v l) (hlen : l.length < 9223372036854775808) :
    WpF T0 42 [.agg ⟨[.int .i64 N0, v]⟩, .int .i64 pl, .int .i64 m] W (fun u W' => Ext W W' ∧ ∃ (P : Nat) (l' : List Tri) (v' : Value), TameOk P pl m l' ∧ u = .agg ⟨[.int .i64 P, v']⟩ ∧ GrowsN W' v' l'.length (flat3 l') 109 3 (fun b => W.next ≤ b)) := by
  obtain ⟨A, c, rfl, hA⟩ := h
  refine wpF fun42 rfl ?_
  obtain ⟨W1, hW1, hE1, hn1, hV0, hV1⟩ : ∃ W1, W1 = (W.newCells 27 [.int .i64 N0, .slice A l.length c]).newCells 27 [.int .i64 0, .slice none 0 0] ∧ Ext W W1 ∧ W1.next = W.next + 2 ∧ Var W1 W.next 27 [.int .i64 N0, .slice A l.length c] ∧ Var W1 (W.next + 1) 27 [.int .i64 0, .slice none 0 0] :=
    ⟨_, rfl, (Only.newCells _ _ _).trans (Only.newCells _ _ _), rfl, (Var.new _ _ _).ext (.newCells _ _ _), Var.new _ _ _⟩
  obtain ⟨W2, s1, s2, hE2, hV2⟩ := storeVar_new (T := T0) (W := W1) (t := 24) (v := .agg ⟨[.int .i64 N0, .slice none 0 0]⟩) (z := [.int .i64 0, .slice none 0 0]) inf24 (by rw [is24]; rfl) (by rw [is24]; rfl) rfl
  have hl0 := hV0.load1 (T := T0) und3 rfl (j := 0) (v := .int .i64 N0) rfl
  try simp only [wpK_assoc]
  refine wpK_reg (fun R hR => by simp [zero27, newCells_next, ← hW1]; exact hR) ?_
  try simp only [wpK_assoc]
  refine wpK_reg (fun R hR => by simp [hl0, build24, zero24, s1]; exact hR) ?_
  try simp only [wpK_assoc]
  refine wpK_reg (fun R hR => by simp []; exact hR) ?_
  have hE12 := hE1.trans hE2
  have hV02 := hV0.ext hE2
  have hV12 := hV1.ext hE2
  rw [hn1] at hV2 s2
  have l01 : ∀ W', Ext W2 W' → aLoadVar T0 W' 25 W.next 1 = some (.slice A l.length c) := fun W' h => (hV02.ext h).load1 (T := T0) und25 rfl (j := 1) (v := .slice A l.length c) rfl
  try simp only [wpK_assoc]
  refine wpK_while (I := fun k B W' => B.n = 94 ∧ B.defers = [] ∧ B.tmps.get 1 = some (.int .i64 pl) ∧ B.tmps.get 2 = some (.int .i64 m) ∧ B.tmps.get 3 = some (.pointer (some ⟨W.next, 0, none⟩)) ∧ B.tmps.get 6 = some (.pointer (some ⟨W.next + 1, 0, none⟩)) ∧ B.tmps.get 7 = some (.pointer (some ⟨W.next + 2, 0, none⟩)) ∧ Only (fun b => b = W.next + 2) W2 W' ∧ ∃ (i : Nat) (w : Value), k = l.length - i ∧ i ≤ l.length ∧ i ≤ m ∧ B.tmps.get 8 = some (.int .i64 i) ∧ Var W' (W.next + 2) 24 [.int .i64 N0, w] ∧ GrowsN W' w i (flat3 (l.take i)) 78 3 (fun b => W2.next ≤ b))
    (J := fun B W' => B.n = 94 ∧ B.defers = [] ∧ B.tmps.get 1 = some (.int .i64 pl) ∧ B.tmps.get 2 = some (.int .i64 m) ∧ B.tmps.get 3 = some (.pointer (some ⟨W.next, 0, none⟩)) ∧ B.tmps.get 6 = some (.pointer (some ⟨W.next + 1, 0, none⟩)) ∧ B.tmps.get 7 = some (.pointer (some ⟨W.next + 2, 0, none⟩)) ∧ Only (fun b => b = W.next + 2) W2 W' ∧ ∃ (w : Value) (l1 : List Tri), Var W' (W.next + 2) 24 [.int .i64 N0, w] ∧ TriIn W' w l1 ∧ l1.length < 9223372036854775808) (Rt := fun _ _ => False) (k := l.length) ?_ ?_ ?_ ?_
  · exact ⟨rfl, rfl, by simp [hn1], by simp [hn1], by simp [hn1], by simp [hn1], by simp [hn1], Only_refl _, 0, .slice none 0 0, by simp, by omega, by omega, by simp, hV2, .nil _ _ _ _⟩
  · rintro k ⟨tm, n, ds⟩ W3 ⟨hn, hd, h1, h2, h3, h6, h7, hO3, i, w, hk, hi, him, h8, hV3, hGr⟩ Q' hJ hRt hI
    simp only at hn hd h1 h2 h3 h6 h7
    subst hn; subst hd
    simp only at h8
    have n3 := hO3.1
    have hV03 := hV02.only hO3 (by omega)
    have l03 := hV03.load1 (T := T0) und25 rfl (j := 1) (v := .slice A l.length c) rfl
    have out : ∀ (tm' : Tr Value), tm'.get 1 = some (.int .i64 pl) → tm'.get 2 = some (.int .i64 m) → tm'.get 3 = some (.pointer (some ⟨W.next, 0, none⟩)) → tm'.get 6 = some (.pointer (some ⟨W.next + 1, 0, none⟩)) → tm'.get 7 = some (.pointer (some ⟨W.next + 2, 0, none⟩)) → Q' (.exit 0) ⟨tm', 94, []⟩ W3 := fun tm' x1 x2 x3 x6 x7 =>
      hJ _ _ ⟨rfl, rfl, x1, x2, x3, x6, x7, hO3, w, l.take i, hV3, GrowsN.tri (by rw [List.length_take, Nat.min_eq_left hi]; exact hGr), by rw [List.length_take]; omega⟩
    by_cases hlt : i < l.length
    case neg =>
      try simp only [wpK_assoc]
      refine wpK_reg (fun R hR => by simp [h3, h8, l03, len_slice und25, hlt, undef]; exact hR) ?_
      try simp only [wpK_assoc]
      first | refine wpK_onF (by simp []) ?_ | refine wpK_out (by simp []) ?_ | refine wpK_condF (by simp []) ?_ | refine wpK_endF (by simp []) (wpK_skip ?_) | refine wpK_endF (by simp []) ?_
      exact out _ (by simp [h1]) (by simp [h2]) (by simp [h3]) (by simp [h6]) (by simp [h7])
    by_cases hltm : i < m
    case neg =>
      try simp only [wpK_assoc]
      refine wpK_reg (fun R hR => by simp [h2, h3, h8, l03, len_slice und25, hlt, hltm]; exact hR) ?_
      try simp only [wpK_assoc]
      first | refine wpK_onF (by simp []) ?_ | refine wpK_out (by simp []) ?_ | refine wpK_condF (by simp []) ?_ | refine wpK_endF (by simp []) (wpK_skip ?_) | refine wpK_endF (by simp []) ?_
      exact out _ (by simp [h1]) (by simp [h2]) (by simp [h3]) (by simp [h6]) (by simp [h7])
    try simp only [wpK_assoc]
    refine wpK_reg (fun R hR => by simp [h2, h3, h8, l03, len_slice und25, hlt, hltm]; exact hR) ?_
    try simp only [wpK_assoc]
    first | refine wpK_onT (by simp []) ?_ | refine wpK_outT (by simp []) ?_ | refine wpK_condT (by simp []) ?_ | refine wpK_endT (by simp []) ?_
    have hl1 : i ≤ 1000 := by omega
    have ha : l[i]? = some l[i] := List.getElem?_eq_getElem hlt
    generalize l[i] = a at ha
    obtain ⟨b', o, rfl, q1, q2, q3⟩ := hA i a ha
    have eV := indexAddr_tri (T := T0) und25 sz109 (b := b') (o := o) (c := c) (k := .i64) hlt
    have n2 := hE12.1
    have hq : ∀ {W' : AW}, Only (fun b => b = W.next + 2 ∨ W2.next ≤ b) W2 W' → aLoadVar T0 W' 25 W.next 1 = some (.slice (some ⟨b', o, none⟩) l.length c) ∧ aLoadVar T0 W' 3 b' (o + 3 * i) = some (.int .i64 a.1) ∧ aLoadVar T0 W' 3 b' (o + 3 * i + 1) = some (.int .i64 a.2.1) ∧ aLoadVar T0 W' 2 b' (o + 3 * i + 2) = some (.int .i64 a.2.2) := fun {W'} hO =>
      ⟨(hV02.only hO (by omega)).load1 (T := T0) und25 rfl (j := 1) (v := .slice (some ⟨b', o, none⟩) l.length c) rfl,
       load_of und3 rfl ((q1.ext hE12).only hO (by have := q1.1; omega)), load_of und3 rfl ((q2.ext hE12).only hO (by have := q2.1; omega)), load_of und2 rfl ((q3.ext hE12).only hO (by have := q3.1; omega))⟩
    have oW3 : Only (fun b => b = W.next + 2 ∨ W2.next ≤ b) W2 W3 := ⟨hO3.1, fun b hb hk => hO3.2 b hb (fun e => hk (.inl e))⟩
    have hl2 := hV3.load1 (T := T0) und22 rfl (j := 1) (v := w) rfl
    obtain ⟨w', W4, W5, a1, a2, a3, a4, a5, a6, a7⟩ := Var.push (T := T0) (t := 22) (el := 78) (i := Tryd.t78) (it := Tryd.t22) (sz := 3) (by omega) und22 inf78 is78 z78 rfl inf22 is22 hGr hV3 (o := 1) (by omega) (by simp) (u := cells3 a) rfl (oneCells_tri a) (by rw [by78]; omega) (by omega)
    have a1 : aAppend T0 (W3.newCells 78 [.int .i64 a.1, .int .i64 a.2.1, .int .i64 a.2.2]) [22, 22] [w, .slice (some ⟨W3.next, 0, none⟩) 1 2] = some (w', W4) := a1
    obtain ⟨p1, p2, p3, p4⟩ := hq oW3
    have oWf : Only (fun b => b = W.next + 2 ∨ W2.next ≤ b) W2 (W3.newCells 78 [.int .i64 a.1, .int .i64 a.2.1, .int .i64 a.2.2]) := ⟨by rw [newCells_next]; omega, fun b hb hk => by rw [newCells_get, if_neg (by omega)]; exact oW3.2 b hb hk⟩
    obtain ⟨r1, r2, r3, r4⟩ := hq oWf
    have fb := fun (ρ : Operand → Option Value) (o : Operand) => flt_bs22 (ρ := ρ) (o := o) (x := a.1) (y := a.2.1) (z := a.2.2)
    have fr1 := freshB_new W3 78 [.int .i64 a.1, .int .i64 a.2.1, .int .i64 a.2.2] (by simp [listEq, valEq])
    have hsi : IntKind.i64.wrap ((i : Int) + 1) = ((i + 1 : Nat) : Int) := i64_succ i (by omega)
    refine wpK_block ?_
    try simp only [wpK_assoc]
    refine wpK_reg (fun R hR => by simp [h7, hl2]; exact hR) ?_
    try simp only [wpK_assoc]
    refine wpK_qn (wr := Tr.nil |>.set 31 0 |>.set 32 1 |>.set 33 2 |>.set 34 3 |>.set 35 4 |>.set 36 5 |>.set 37 6 |>.set 38 7 |>.set 39 8 |>.set 40 9 |>.set 41 10 |>.set 42 11 |>.set 43 12 |>.set 44 13 |>.set 45 14 |>.set 46 15 |>.set 47 16 |>.set 48 17 |>.set 49 18 |>.set 50 19 |>.set 51 20 |>.set 52 21 |>.set 53 22) (bits := Tr.nil.lay 0 [0, 0, 2, 0, 14, 30, 62, 0, 128, 0, 896, 1920, 3968, 0, 8192, 0, 57344, 122880, 253952, 524286, 1048574, 2097151, 4194303, 8388607]) (ord := [0, 1, 2, 3, 4, 5, 6, 7, 8, 9, 10, 11, 12, 13, 14, 15, 16, 17, 18, 19, 20, 21, 22, 23]) (by kernel_rfl) (by kernel_rfl) (by kernel_rfl) (fun G hG => by
      simp [h3, h7, h8, p1, p2, p3, p4, r1, r2, r3, r4, eV, build78', fb, AFlt.val, fr1, a1, a2, a3, a4, newCells_next]
      exact hG) ?_
    try simp only [wpK_assoc]
    refine wpK_reg1 (fun R hR => by simp [h8, hsi]; exact hR) ?_
    have hO5 : Only (fun b => b = W.next + 2) W2 W5 := ⟨by omega, fun b hb hk => by rw [a7.2 b (by omega) (by omega)]; exact hO3.2 b hb hk⟩
    refine hI (k - 1) _ _ (by omega) ⟨rfl, rfl, by simp [h1, h2, h3, h6, h7], by simp [h1, h2, h3, h6, h7], by simp [h1, h2, h3, h6, h7], by simp [h1, h2, h3, h6, h7], by simp [h1, h2, h3, h6, h7], hO5, i + 1, w', by omega, by omega, by omega, by simp, by simpa using a5, ?_⟩
    rw [List.take_add_one, ha, Option.toList_some, flat3_append]
    have : flat3 [a] = cells3 a := by simp [flat3]
    rw [this]
    exact a6.mono (fun b hb => by
      rcases hb with hb | hb
      · exact hb
      · omega)
  · rintro A' W' hf; exact hf.elim
  rintro ⟨tm, n, ds⟩ W3 ⟨hn, hd, h1, h2, h3, h6, h7, hO3, w, l1, hV3, hT1, hlen1⟩
  simp only at hn hd h1 h2 h3 h6 h7
  subst hn; subst hd
  have n3 := hO3.1
  have n2 := hE12.1
  have hl3 := load24 hV3
  have hE03 : Ext W W3 := ⟨by omega, fun b hb hk => by rw [hO3.2 b (by omega) (by omega)]; exact hE12.2 b hb hk⟩
  have hV13 := hV12.only hO3 (by omega)
  -- the network, and its arcs as links
  try simp only [wpK_assoc]
  refine wpK_x4 (fun R hR => by
    simp [h1, h2, h7, hl3, aEnter, fun30, short_other, aCallV]; rw [callS_none]
    refine (tame_wp pl m hpl hpl2 hm N0 hT1 hlen1).mono ?_
    rintro _ W4 ⟨hE4, P, l', v', hT, rfl, hG⟩
    obtain ⟨av, cv, hvs⟩ := hG.len
    obtain ⟨W5, s1, s2, hE5, hVx⟩ := storeVar_new (T := T0) (W := W4) (t := 24) (v := .agg ⟨[.int .i64 P, v']⟩) (z := [.int .i64 0, .slice none 0 0]) inf24 (by rw [is24]; rfl) (by rw [is24]; rfl) (by rw [hvs]; rfl)
    simp [zero24, s1]
    exact hR P l' v' W4 W5 (And.intro (hE4.trans hE5) (And.intro hT (And.intro hVx (And.intro hE4.1 (And.intro s2 ((hG.tri).ext hE5))))))) ?_
  rintro P l' v' W4 W5 ⟨hE5, hT, hVx, n4, n5, hTri⟩
  have n5' : W4.next < W5.next := by omega
  generalize hpx : W4.next = px at hVx n5 n5' n4
  have hE05 : Ext W W5 := hE03.trans hE5
  have hV15 := hV13.ext hE5
  have hP2 := hT.P2
  have hll := hT.len
  obtain ⟨W6, s1, s2, hE6, hV6⟩ := storeVar_new (T := T0) (W := W5) (t := 27) (v := .agg ⟨[.int .i64 P, .slice none 0 0]⟩) (z := [.int .i64 0, .slice none 0 0]) inf27 (by rw [is27]; rfl) (by rw [is27]; rfl) rfl
  have hlP := hVx.load1 (T := T0) und3 rfl (j := 0) (v := .int .i64 P) rfl
  try simp only [wpK_assoc]
  refine wpK_reg (fun R hR => by simp [hlP, build27, zero27, s1]; exact hR) ?_
  try simp only [wpK_assoc]
  refine wpK_reg (fun R hR => by simp []; exact hR) ?_
  have hVx6 := hVx.ext hE6
  have hV16 := hV15.ext hE6
  have n6 := hE6.1
  obtain ⟨A6, c6, hvx, hA6⟩ := hTri
  subst hvx
  have hE06 := hE05.trans hE6
  have n06 := hE06.1
  have n3' := hE03.1
  try simp only [wpK_assoc]
  refine wpK_while (I := fun k B W' => B.n = 94 ∧ B.defers = [] ∧ B.tmps.get 6 = some (.pointer (some ⟨W.next + 1, 0, none⟩)) ∧ B.tmps.get 10 = some (.pointer (some ⟨px, 0, none⟩)) ∧ B.tmps.get 11 = some (.pointer (some ⟨W5.next, 0, none⟩)) ∧ Only (fun b => b = W5.next) W6 W' ∧ ∃ (i : Nat) (w : Value), k = l'.length - i ∧ i ≤ l'.length ∧ B.tmps.get 12 = some (.int .i64 i) ∧ Var W' W5.next 27 [.int .i64 P, w] ∧ GrowsN W' w i (flat3 (l'.take i)) 109 3 (fun b => W6.next ≤ b))
    (J := fun B W' => B.n = 94 ∧ B.defers = [] ∧ B.tmps.get 6 = some (.pointer (some ⟨W.next + 1, 0, none⟩)) ∧ B.tmps.get 11 = some (.pointer (some ⟨W5.next, 0, none⟩)) ∧ Only (fun b => b = W5.next) W6 W' ∧ ∃ (w : Value), Var W' W5.next 27 [.int .i64 P, w] ∧ GrowsN W' w l'.length (flat3 l') 109 3 (fun b => W6.next ≤ b)) (Rt := fun _ _ => False) (k := l'.length) ?_ ?_ ?_ ?_
  · exact ⟨rfl, rfl, by simp [h6, hpx], by simp [h6, hpx], by simp [h6, hpx], Only_refl _, 0, .slice none 0 0, by simp, by omega, by simp, hV6, .nil _ _ _ _⟩
  · rintro k ⟨tm, n, ds⟩ W7 ⟨hn, hd, h6, h10, h11, hO7, i, w2, hk, hi, h12, hV7, hGr⟩ Q' hJ hRt hI
    simp only at hn hd h6 h10 h11
    subst hn; subst hd
    simp only at h12
    have n7 := hO7.1
    have hVx7 := hVx6.only hO7 (by omega)
    have l71 := hVx7.load1 (T := T0) und22 rfl (j := 1) (v := .slice A6 l'.length c6) rfl
    try simp only [wpK_assoc]
    refine wpK_reg (fun R hR => by simp [h10, h12, l71, len_slice und22]; exact hR) ?_
    by_cases hlt : i < l'.length
    case neg =>
      have e : i = l'.length := by omega
      rw [e, List.take_length] at hGr
      try simp only [wpK_assoc]
      first | refine wpK_onF (by simp [hlt]) ?_ | refine wpK_out (by simp [hlt]) ?_ | refine wpK_condF (by simp [hlt]) ?_ | refine wpK_endF (by simp [hlt]) (wpK_skip ?_) | refine wpK_endF (by simp [hlt]) ?_
      exact hJ _ _ ⟨rfl, rfl, by simp [h6], by simp [h11], hO7, w2, hV7, hGr⟩
    try simp only [wpK_assoc]
    first | refine wpK_onT (by simp [hlt]) ?_ | refine wpK_outT (by simp [hlt]) ?_ | refine wpK_condT (by simp [hlt]) ?_ | refine wpK_endT (by simp [hlt]) ?_
    have ha : l'[i]? = some l'[i] := List.getElem?_eq_getElem hlt
    generalize l'[i] = a at ha
    obtain ⟨b', o, rfl, q1, q2, q3⟩ := hA6 i a ha
    have eV := indexAddr_tri (T := T0) und22 sz78 (b := b') (o := o) (c := c6) (k := .i64) hlt
    have hq : ∀ {W' : AW}, Only (fun b => b = W5.next ∨ W6.next ≤ b) W6 W' → aLoadVar T0 W' 22 px 1 = some (.slice (some ⟨b', o, none⟩) l'.length c6) ∧ aLoadVar T0 W' 3 b' (o + 3 * i) = some (.int .i64 a.1) ∧ aLoadVar T0 W' 3 b' (o + 3 * i + 1) = some (.int .i64 a.2.1) ∧ aLoadVar T0 W' 2 b' (o + 3 * i + 2) = some (.int .i64 a.2.2) := fun {W'} hO =>
      ⟨(hVx6.only hO (by omega)).load1 (T := T0) und22 rfl (j := 1) (v := .slice (some ⟨b', o, none⟩) l'.length c6) rfl,
       load_of und3 rfl ((q1.ext hE6).only hO (by have := q1.1; omega)), load_of und3 rfl ((q2.ext hE6).only hO (by have := q2.1; omega)), load_of und2 rfl ((q3.ext hE6).only hO (by have := q3.1; omega))⟩
    have oW7 : Only (fun b => b = W5.next ∨ W6.next ≤ b) W6 W7 := ⟨hO7.1, fun b hb hk => hO7.2 b hb (fun e => hk (.inl e))⟩
    have hl2 := hV7.load1 (T := T0) und25 rfl (j := 1) (v := w2) rfl
    obtain ⟨w', W8, W9, a1, a2, a3, a4, a5, a6, a7⟩ := Var.push (T := T0) (t := 25) (el := 109) (i := Tryd.t109) (it := Tryd.t25) (sz := 3) (by omega) und25 inf109 is109 z109 rfl inf25 is25 hGr hV7 (o := 1) (by omega) (by simp) (u := cells3 a) rfl (oneCells_tri a) (by rw [by109]; omega) (by omega)
    have a1 : aAppend T0 (W7.newCells 109 [.int .i64 a.1, .int .i64 a.2.1, .int .i64 a.2.2]) [25, 25] [w2, .slice (some ⟨W7.next, 0, none⟩) 1 2] = some (w', W8) := a1
    obtain ⟨p1, p2, p3, p4⟩ := hq oW7
    have oWf : Only (fun b => b = W5.next ∨ W6.next ≤ b) W6 (W7.newCells 109 [.int .i64 a.1, .int .i64 a.2.1, .int .i64 a.2.2]) := ⟨by rw [newCells_next]; omega, fun b hb hk => by rw [newCells_get, if_neg (by omega)]; exact oW7.2 b hb hk⟩
    obtain ⟨r1, r2, r3, r4⟩ := hq oWf
    have fb := fun (ρ : Operand → Option Value) (o : Operand) => flt_bs25 (ρ := ρ) (o := o) (x := a.1) (y := a.2.1) (z := a.2.2)
    have fr1 := freshB_new W7 109 [.int .i64 a.1, .int .i64 a.2.1, .int .i64 a.2.2] (by simp [listEq, valEq])
    have hsi : IntKind.i64.wrap ((i : Int) + 1) = ((i + 1 : Nat) : Int) := i64_succ i (by omega)
    refine wpK_block ?_
    try simp only [wpK_assoc]
    refine wpK_reg (fun R hR => by simp [h11, hl2]; exact hR) ?_
    try simp only [wpK_assoc]
    refine wpK_qn (wr := Tr.nil |>.set 70 0 |>.set 71 1 |>.set 72 2 |>.set 73 3 |>.set 74 4 |>.set 75 5 |>.set 76 6 |>.set 77 7 |>.set 78 8 |>.set 79 9 |>.set 80 10 |>.set 81 11 |>.set 82 12 |>.set 83 13 |>.set 84 14 |>.set 85 15 |>.set 86 16 |>.set 87 17 |>.set 88 18 |>.set 89 19 |>.set 90 20 |>.set 91 21 |>.set 92 22) (bits := Tr.nil.lay 0 [0, 0, 2, 0, 14, 30, 62, 0, 128, 0, 896, 1920, 3968, 0, 8192, 0, 57344, 122880, 253952, 524286, 1048574, 2097151, 4194303, 8388607]) (ord := [0, 1, 2, 3, 4, 5, 6, 7, 8, 9, 10, 11, 12, 13, 14, 15, 16, 17, 18, 19, 20, 21, 22, 23]) (by kernel_rfl) (by kernel_rfl) (by kernel_rfl) (fun G hG => by
      simp [h10, h11, h12, p1, p2, p3, p4, r1, r2, r3, r4, eV, build109, fb, AFlt.val, fr1, a1, a2, a3, a4, newCells_next]
      exact hG) ?_
    try simp only [wpK_assoc]
    refine wpK_reg1 (fun R hR => by simp [h12, hsi]; exact hR) ?_
    have hO9 : Only (fun b => b = W5.next) W6 W9 := ⟨by omega, fun b hb hk => by rw [a7.2 b (by omega) (by omega)]; exact hO7.2 b hb hk⟩
    refine hI (k - 1) _ _ (by omega) ⟨rfl, rfl, by simp [h6, h10, h11], by simp [h6, h10, h11], by simp [h6, h10, h11], hO9, i + 1, w', by omega, by omega, by simp, by simpa using a5, ?_⟩
    rw [List.take_add_one, ha, Option.toList_some, flat3_append]
    have : flat3 [a] = cells3 a := by simp [flat3]
    rw [this]
    exact a6.mono (fun b hb => by
      rcases hb with hb | hb
      · exact hb
      · omega)
  · rintro A' W' hf; exact hf.elim
  · rintro ⟨tm, n, ds⟩ W7 ⟨hn, hd, h6, h11, hO7, w2, hV7, hGr⟩
    simp only at hn hd h6 h11
    subst hn; subst hd
    have n7 := hO7.1
    obtain ⟨av, cv, hvs⟩ := hGr.len
    have hl := load27 hV7
    obtain ⟨W8, t1, t2, t3, t4⟩ := (hV16.only hO7 (by omega)).store (T := T0) (t := 27) (v := .agg ⟨[.int .i64 P, w2]⟩) (o := 0) inf27 (by rw [is27]; rfl) (by simp) (by rw [hvs]; rfl)
    have hl4 := t4.load (T := T0) und27 agg27 inf27 (by rw [is27]; rfl)
    try simp only [wpK_assoc]
    refine wpK_reg (fun R hR => by simp [h6, h11, hl, t1]; exact hR) ?_
    refine wpK_ret ⟨.inr rfl, rfl, [.agg ⟨[.int .i64 P, w2]⟩], by simp at hl4; simp [h6, hl4], ?_, P, l', w2, hT, rfl, ?_⟩
    · exact ⟨by omega, fun b hb hk => by rw [t3.2 b (by omega) (by omega), hO7.2 b (by omega) (by omega)]; exact hE06.2 b hb hk⟩
    · exact (hGr.only t3 (fun b _ hb e => by omega)).mono (fun b hb => by omega)

end Go.Proofs.YtkipaffjmcmclaaDoor

open Go Go.Eng
namespace Go.Proofs.YtkipaffjmcmclaaDoor
attribute [local congr] undef_congr WpK.congr WpS.congr WpL.congr WpC.congr WpF.congr gotS.congr callS.congr nextS.congr wantS.congr condS.congr
attribute [local irreducible] WpK
attribute [local simp] WpDr_nil WpDr_cons atS_some dwantS_true dwantS_false kindS_light kindS_float kindS_heavy lightS_value floatS_some heavyS_value heavyS_skip heavyS_enter dcallS_some doneS_eq
  isLight isFloat isPlain dLook testBit_dec dChain dLights_nil dLights_skip dLights_one dLight_nil dLight_cons dFreshes_nil dFreshes_one oneF_none oneF_some dFresh_nil dFresh_cons oneL_some oneW_true oneW_false sameV_value dPut dMay valEq arrEq listEq List.getElem?_cons Tr.get_nil dEnd
attribute [local simp] WpS_nil WpS_cons isDefer undef_false wantS_true wantS_false nextS_value nextS_skip nextS_enter callS_some gotS_some aWanted aOp aEvalF aEval opMove opAssign opPick aVal flat flat1 AAct.put opBinOp opConvert opIndex Tr.get_set Tr.get_lay aBin aResults tupled
  aCall aVals aCallB blt_dec ble_dec beq_dec aBinI_add aBinI_sub aBinI_lss aBinI_leq aBinI_gtr aBinI_geq aBinI_eql aBinI_neq index_str len_str len_slice Nat.beq_refl und2 und3 und4 und5 und39 und76 und82 und116 und22 und29 und25 und33 und46 und43 und49 und111 und113 field152 field156_0 field156_1 field156_2 field156_3 field156_4
  field78 field106 field24 field31 field27 field35 field108 field109 opBox opLoad opFieldAddr opIndexAddr acells aAddr opExtract aExtract opUnOp opAlloc opStore opMakeInterface opNilCheck opBuild aParts opBuildSlice aValW
set_option maxHeartbeats 4000000
set_option linter.unusedSimpArgs false
set_option linter.unusedVariables false
/-! ### boards as networks -/
theorem push3_tmp {W : AW} {v : Value} {n : Nat} {l u : List Value} {K : Nat → Prop} {t el : TypeId} {i : TypeInfo} {z : Value} (ht : T0.und.get t = some (.slice el)) (hi : T0.info.get el = some i) (hs : i.size = 3) (hz : i.zero = some z) (hz3 : (acells z).length = 3) (hby : i.bytes = 24)
    (h : GrowsN W v n l el 3 K) (hl : n ≤ 1000) (hu3 : u.length = 3) (hu : oneCells u = true) :
    ∃ v' W', aAppend T0 (W.newCells el u) [t, t] [v, .slice (some ⟨W.next, 0, none⟩) 1 2] = some (v', W') ∧ W'.next = W.next + 2 ∧ GrowsN W' v' (n + 1) (l ++ u) el 3 (fun b => K b ∨ b = W.next + 1) ∧ Only K W W' := by
  have hE : Ext W (W.newCells el u) := .newCells _ _ _
  have h1 := h.only (K' := fun _ => False) hE (fun _ _ _ y => y)
  obtain ⟨v', W', a1, a2, a3, a4⟩ := append_growsN (T := T0) (t := t) (el := el) (c := 2) (by omega) ht hi hs hz hz3 h1 (u := u) hu3 (newCells_cellsAt W el u 3 hu3) hu (by rw [hby]; omega) (by omega)
  refine ⟨v', W', a1, by rw [a2, newCells_next], ?_, ?_⟩
  · rw [newCells_next] at a3; exact a3
  · refine ⟨by rw [a2, newCells_next]; omega, fun b hb hk => ?_⟩
    rw [a4.2 b (by rw [newCells_next]; omega) hk]
    exact hE.2 b hb (fun y => y)
/-- each link as two arcs -/
def bothL (l : List Tri) : List Tri := l.flatMap fun a => [(a.1, a.2.1, a.2.2), (a.2.1, a.1, a.2.2)]
theorem bothL_len : ∀ l : List Tri, (bothL l).length = 2 * l.length
  | [] => rfl
  | a :: l => by
    have := bothL_len l
    simp only [bothL, List.flatMap_cons, List.length_append, List.length_cons, List.length_nil] at this ⊢
    omega
theorem bothL_snoc (l : List Tri) (a : Tri) : bothL (l ++ [a]) = bothL l ++ [(a.1, a.2.1, a.2.2)] ++ [(a.2.1, a.1, a.2.2)] := by simp [bothL]
theorem capQ_both (S : Nat) : ∀ l : List Tri, capQ S (arcsQ (bothL l)) = capQ S (linksQ l)
  | [] => rfl
  | a :: l => by
    have ih := capQ_both S l
    have e : arcsQ (bothL (a :: l)) = (a.1, a.2.1, a.2.2, 0) :: (a.2.1, a.1, a.2.2, 0) :: arcsQ (bothL l) := by simp [bothL, arcsQ]
    rw [e]
    simp only [linksQ, List.map_cons, capQ, List.sum_cons] at ih ⊢
    rw [show (List.map (out1 S) (arcsQ (bothL l))).sum = (List.map (out1 S) (List.map (fun a => (a.1, a.2.1, a.2.2, a.2.2)) l)).sum from ih]
    simp only [out1]
    split <;> split <;> simp <;> omega
theorem both_ok {P : Int} {l : List Tri} (h : planOk P (arcsQ l) = true) (h100 : l.length ≤ 100) : planOk P (arcsQ (bothL l)) = true := by
  have hin := arcsQ_in h
  obtain ⟨h1, h2, _⟩ := hin.size
  simp only [planOk, Bool.and_eq_true, decide_eq_true_eq, List.all_eq_true]
  refine ⟨⟨⟨h1, h2⟩, by simp [arcsQ, bothL_len]; omega⟩, fun q hq => ?_⟩
  simp only [arcsQ, bothL, List.mem_map, List.mem_flatMap] at hq
  obtain ⟨x, ⟨a, ha, hx⟩, rfl⟩ := hq
  have hst := hin.step (a := (a.1, a.2.1, a.2.2, 0)) (by simp only [arcsQ, List.mem_map]; exact ⟨a, ha, rfl⟩)
  simp only at hst
  simp only [List.mem_cons, List.not_mem_nil, or_false] at hx
  rcases hx with rfl | rfl <;> simp [okStep, two?] <;> omega
theorem both_wp {W : AW} {v : Value} {P : Int} {l : List Tri} (h : TriIn W v l) (hlen : l.length ≤ 200) :
    WpF T0 43 [.agg ⟨[.int .i64 P, v]⟩] W (fun u W' => Ext W W' ∧ ∃ v', u = .agg ⟨[.int .i64 P, v']⟩ ∧ GrowsN W' v' (bothL l).length (flat3 (bothL l)) 78 3 (fun b => W.next ≤ b)) := by
  obtain ⟨A, c, rfl, hA⟩ := h
  refine wpF fun43 rfl ?_
  obtain ⟨W1, hW1, hE1, hn1, hV0, hV1⟩ : ∃ W1, W1 = (W.newCells 27 [.int .i64 P, .slice A l.length c]).newCells 24 [.int .i64 0, .slice none 0 0] ∧ Ext W W1 ∧ W1.next = W.next + 2 ∧ Var W1 W.next 27 [.int .i64 P, .slice A l.length c] ∧ Var W1 (W.next + 1) 24 [.int .i64 0, .slice none 0 0] :=
    ⟨_, rfl, (Only.newCells _ _ _).trans (Only.newCells _ _ _), rfl, (Var.new _ _ _).ext (.newCells _ _ _), Var.new _ _ _⟩
  obtain ⟨W2, s1, s2, hE2, hV2⟩ := storeVar_new (T := T0) (W := W1) (t := 24) (v := .agg ⟨[.int .i64 P, .slice none 0 0]⟩) (z := [.int .i64 0, .slice none 0 0]) inf24 (by rw [is24]; rfl) (by rw [is24]; rfl) rfl
  have hl0 := hV0.load1 (T := T0) und3 rfl (j := 0) (v := .int .i64 P) rfl
  try simp only [wpK_assoc]
  refine wpK_reg (fun R hR => by simp [zero24, newCells_next, ← hW1]; exact hR) ?_
  try simp only [wpK_assoc]
  refine wpK_reg (fun R hR => by simp [hl0, build24, zero24, s1]; exact hR) ?_
  try simp only [wpK_assoc]
  refine wpK_reg (fun R hR => by simp []; exact hR) ?_
  have hE12 := hE1.trans hE2
  have n12 := hE12.1
  have hV02 := hV0.ext hE2
  have hV12 := hV1.ext hE2
  rw [hn1] at hV2 s2
  try simp only [wpK_assoc]
  refine wpK_while (I := fun k B W' => B.n = 46 ∧ B.defers = [] ∧ B.tmps.get 1 = some (.pointer (some ⟨W.next, 0, none⟩)) ∧ B.tmps.get 2 = some (.pointer (some ⟨W.next + 1, 0, none⟩)) ∧ B.tmps.get 3 = some (.pointer (some ⟨W.next + 2, 0, none⟩)) ∧ Only (fun b => b = W.next + 2) W2 W' ∧ ∃ (i : Nat) (w : Value) (K : Nat → Prop), k = l.length - i ∧ i ≤ l.length ∧ B.tmps.get 4 = some (.int .i64 i) ∧ Var W' (W.next + 2) 24 [.int .i64 P, w] ∧ GrowsN W' w (2 * i) (flat3 (bothL (l.take i))) 78 3 K ∧ ∀ b, K b → W2.next ≤ b ∧ b < W'.next)
    (J := fun B W' => B.n = 46 ∧ B.defers = [] ∧ B.tmps.get 2 = some (.pointer (some ⟨W.next + 1, 0, none⟩)) ∧ B.tmps.get 3 = some (.pointer (some ⟨W.next + 2, 0, none⟩)) ∧ Only (fun b => b = W.next + 2) W2 W' ∧ ∃ w : Value, Var W' (W.next + 2) 24 [.int .i64 P, w] ∧ GrowsN W' w (bothL l).length (flat3 (bothL l)) 78 3 (fun b => W2.next ≤ b)) (Rt := fun _ _ => False) (k := l.length) ?_ ?_ ?_ ?_
  · exact ⟨rfl, rfl, by simp [hn1], by simp [hn1], by simp [hn1], Only_refl _, 0, .slice none 0 0, fun _ => False, by simp, by omega, by simp, hV2, .nil _ _ _ _, fun _ h => h.elim⟩
  · rintro k ⟨tm, n, ds⟩ W3 ⟨hn, hd, h1, h2, h3, hO3, i, w, K, hk, hi, h4, hV3, hGr, hKb⟩ Q' hJ hRt hI
    simp only at hn hd h1 h2 h3
    subst hn; subst hd
    simp only at h4
    have n3 := hO3.1
    have l31 := (hV02.only hO3 (by omega)).load1 (T := T0) und25 rfl (j := 1) (v := .slice A l.length c) rfl
    try simp only [wpK_assoc]
    refine wpK_reg (fun R hR => by simp [h1, h4, l31, len_slice und25]; exact hR) ?_
    by_cases hlt : i < l.length
    case neg =>
      have e : i = l.length := by omega
      rw [e, List.take_length, ← bothL_len] at hGr
      try simp only [wpK_assoc]
      first | refine wpK_onF (by simp [hlt]) ?_ | refine wpK_out (by simp [hlt]) ?_ | refine wpK_condF (by simp [hlt]) ?_ | refine wpK_endF (by simp [hlt]) (wpK_skip ?_) | refine wpK_endF (by simp [hlt]) ?_
      exact hJ _ _ ⟨rfl, rfl, by simp [h2], by simp [h3], hO3, w, hV3, hGr.mono (fun b hb => (hKb b hb).1)⟩
    try simp only [wpK_assoc]
    first | refine wpK_onT (by simp [hlt]) ?_ | refine wpK_outT (by simp [hlt]) ?_ | refine wpK_condT (by simp [hlt]) ?_ | refine wpK_endT (by simp [hlt]) ?_
    have ha : l[i]? = some l[i] := List.getElem?_eq_getElem hlt
    generalize l[i] = a at ha
    obtain ⟨b', o, rfl, q1, q2, q3⟩ := hA i a ha
    have eV := indexAddr_tri (T := T0) und25 sz109 (b := b') (o := o) (c := c) (k := .i64) hlt
    have hl3 := load3 (T := T0) und109 agg109 inf109 is109 ((q1.ext hE12).only hO3 (by have := q1.1; omega)) ((q2.ext hE12).only hO3 (by have := q2.1; omega)) ((q3.ext hE12).only hO3 (by have := q3.1; omega))
    obtain ⟨W4, t1, t2, hE4, hV4⟩ := storeVar_new (T := T0) (W := W3) (t := 109) (v := .agg ⟨[.int .i64 a.1, .int .i64 a.2.1, .int .i64 a.2.2]⟩) (z := [.int .i64 0, .int .i64 0, .int .i64 0]) inf109 (by rw [is109]; rfl) (by rw [is109]; rfl) rfl
    have hGr4 := hGr.only (K' := fun _ => False) hE4 (fun _ _ _ y => y)
    have hV34 := hV3.ext hE4
    have hl2 := hV34.load1 (T := T0) und22 rfl (j := 1) (v := w) rfl
    have m0 : ∀ W', Var W' W3.next 109 [.int .i64 a.1, .int .i64 a.2.1, .int .i64 a.2.2] → aLoadVar T0 W' 3 W3.next 0 = some (.int .i64 a.1) ∧ aLoadVar T0 W' 3 W3.next 1 = some (.int .i64 a.2.1) ∧ aLoadVar T0 W' 2 W3.next 2 = some (.int .i64 a.2.2) := fun W' hV =>
      ⟨hV.load1 (T := T0) und3 rfl (j := 0) (v := .int .i64 a.1) rfl, hV.load1 (T := T0) und3 rfl (j := 1) (v := .int .i64 a.2.1) rfl, hV.load1 (T := T0) und2 rfl (j := 2) (v := .int .i64 a.2.2) rfl⟩
    obtain ⟨w1, W5, a1, a2, a3, a4⟩ := push3_tmp und22 inf78 is78 z78 rfl by78 hGr4 (by omega) (u := cells3 a) rfl (oneCells_tri a)
    have a1 : aAppend T0 (W4.newCells 78 [.int .i64 a.1, .int .i64 a.2.1, .int .i64 a.2.2]) [22, 22] [w, .slice (some ⟨W4.next, 0, none⟩) 1 2] = some (w1, W5) := a1
    obtain ⟨x0, x1, x2⟩ := m0 W4 hV4
    obtain ⟨y0, y1, y2⟩ := m0 W5 (hV4.only a4 (fun hk => by have := (hKb _ hk).2; omega))
    have hV35 := hV34.only a4 (fun hk => by have := (hKb _ hk).1; omega)
    obtain ⟨w2, W6, W7, b1, b2, b3, b4, b5, b6, b7⟩ := Var.push (T := T0) (t := 22) (el := 78) (i := Tryd.t78) (it := Tryd.t22) (sz := 3) (by omega) und22 inf78 is78 z78 rfl inf22 is22 a3 hV35 (by
      rintro (hk | hk)
      · have := (hKb _ hk).1; omega
      · omega) (o := 1) (by simp) (u := cells3 (a.2.1, a.1, a.2.2)) rfl (oneCells_tri _) (by rw [by78]; omega) (by omega)
    have b1 : aAppend T0 (W5.newCells 78 [.int .i64 a.2.1, .int .i64 a.1, .int .i64 a.2.2]) [22, 22] [w1, .slice (some ⟨W5.next, 0, none⟩) 1 2] = some (w2, W6) := b1
    have hsi : IntKind.i64.wrap ((i : Int) + 1) = ((i + 1 : Nat) : Int) := i64_succ i (by omega)
    refine wpK_block ?_
    try simp only [wpK_assoc]
    refine wpK_reg (fun R hR => by simp [h1, h4, l31, eV, hl3, zero109, t1]; exact hR) ?_
    try simp only [wpK_assoc]
    refine wpK_reg (fun R hR => by simp [h3, hl2]; exact hR) ?_
    try simp only [wpK_assoc]
    refine wpK_reg (fun R hR => by simp [x0, x1, x2, build78', bs22, a1]; exact hR) ?_
    try simp only [wpK_assoc]
    refine wpK_reg1 (fun R hR => by simp [h3, y0, y1, y2, build78', bs22, b1, b2]; exact hR) ?_
    try simp only [wpK_assoc]
    refine wpK_reg1 (fun R hR => by simp [h4, hsi]; exact hR) ?_
    have n4 := hE4.1
    have hO7 : Only (fun b => b = W.next + 2) W2 W7 := ⟨by omega, fun b hb hk => by
      have hnK : ¬ K b := fun h => by have := (hKb _ h).1; omega
      rw [b7.2 b (by omega) (by rintro ((h | h) | h); exact hnK h; omega; exact hk h), a4.2 b (by omega) hnK, hE4.2 b (by omega) (fun y => y)]; exact hO3.2 b hb hk⟩
    refine hI (k - 1) _ _ (by omega) ⟨rfl, rfl, by simp [h1, h2, h3], by simp [h1, h2, h3], by simp [h1, h2, h3], hO7, i + 1, w2, fun b => (K b ∨ b = W4.next + 1) ∨ b = W5.next + 1, by omega, by omega, by simp, by simpa using b5, ?_, fun b hb => ?_⟩
    rotate_left
    · rcases hb with (hb | hb) | hb
      · have := hKb b hb; omega
      · omega
      · omega
    have e : flat3 (bothL (l.take (i + 1))) = flat3 (bothL (l.take i)) ++ cells3 a ++ cells3 (a.2.1, a.1, a.2.2) := by
      rw [List.take_add_one, ha, Option.toList_some, bothL_snoc, flat3_append, flat3_append]
      simp [flat3, cells3]
    rw [e, show 2 * (i + 1) = 2 * i + 1 + 1 from by omega]
    exact b6
  · rintro A' W' hf; exact hf.elim
  · rintro ⟨tm, n, ds⟩ W7 ⟨hn, hd, h2, h3, hO7, w2, hV7, hGr⟩
    simp only at hn hd h2 h3
    subst hn; subst hd
    have n7 := hO7.1
    obtain ⟨av, cv, hvs⟩ := hGr.len
    have hl := load24 hV7
    obtain ⟨W8, t1, t2, t3, t4⟩ := (hV12.only hO7 (by omega)).store (T := T0) (t := 24) (v := .agg ⟨[.int .i64 P, w2]⟩) (o := 0) inf24 (by rw [is24]; rfl) (by simp) (by rw [hvs]; rfl)
    have hl4 := t4.load (T := T0) und24 agg24 inf24 (by rw [is24]; rfl)
    try simp only [wpK_assoc]
    refine wpK_reg (fun R hR => by simp [h2, h3, hl, t1]; exact hR) ?_
    refine wpK_ret ⟨.inr rfl, rfl, [.agg ⟨[.int .i64 P, w2]⟩], by simp at hl4; simp [h2, hl4], ?_, w2, rfl, ?_⟩
    · exact ⟨by omega, fun b hb hk => by rw [t3.2 b (by omega) (by omega), hO7.2 b (by omega) (by omega)]; exact hE12.2 b hb hk⟩
    · exact (hGr.only t3 (fun b _ hb e => by omega)).mono (fun b hb => by omega)

end Go.Proofs.YtkipaffjmcmclaaDoor
