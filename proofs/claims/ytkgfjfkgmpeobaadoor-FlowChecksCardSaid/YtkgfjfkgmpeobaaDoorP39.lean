import Derived.Test.YtkgfjfkgmpeobaaDoorP38
import Derived.Test.YtkgfjfkgmpeobaaDoorEngSm
import Derived.Test.YtkgfjfkgmpeobaaDoorEngBt
import Derived.Test.YtkgfjfkgmpeobaaDoorTie
import Derived.Test.YtkgfjfkgmpeobaaDoorCards
import Derived.SevenTiedAt
import Derived.Lib.SmallJoins
set_option linter.unusedSimpArgs false
set_option linter.unusedVariables false
set_option linter.unusedSectionVars false
open Go Go.Eng
namespace Go.Proofs.YtkgfjfkgmpeobaaDoor
attribute [local congr] undef_congr WpK.congr WpS.congr WpL.congr WpC.congr WpF.congr gotS.congr callS.congr nextS.congr wantS.congr condS.congr
attribute [local irreducible] WpK
attribute [local simp] WpDr_nil WpDr_cons atS_some dwantS_true dwantS_false kindS_light kindS_float kindS_heavy lightS_value floatS_some heavyS_value heavyS_skip heavyS_enter dcallS_some doneS_eq
  isLight isFloat isPlain dLook testBit_dec dChain dLights_nil dLights_skip dLights_one dLight_nil dLight_cons dFreshes_nil dFreshes_one oneF_none oneF_some dFresh_nil dFresh_cons oneL_some oneW_true oneW_false sameV_value dPut dMay valEq arrEq listEq List.getElem?_cons Tr.get_nil dEnd
attribute [local simp] WpS_nil WpS_cons isDefer undef_false wantS_true wantS_false nextS_value nextS_skip nextS_enter callS_some gotS_some aWanted aOp aEvalF aEval opMove opAssign opPick aVal flat flat1 AAct.put opBinOp opConvert opIndex Tr.get_set Tr.get_lay aBin aResults tupled
  aCall aVals aCallB blt_dec ble_dec beq_dec aBinI_add aBinI_sub aBinI_lss aBinI_leq aBinI_gtr aBinI_geq aBinI_eql aBinI_neq index_str len_str len_slice Nat.beq_refl und2 und3 und4 und5 und39 und76 und82 und115 und22 und29 und25 und33 und46 und43 und49 und111 und113 field151 field155_0 field155_1 field155_2 field155_3 field155_4
  field78 field106 field24 field31 field27 field35 field108 field109 opBox opLoad opFieldAddr opIndexAddr acells aAddr opExtract aExtract opUnOp opAlloc opStore opMakeInterface opNilCheck opBuild aParts opBuildSlice aValW
set_option maxHeartbeats 4000000
set_option linter.unusedSimpArgs false
set_option linter.unusedVariables false
theorem z2' : Tryd.t2.zero = some (.int .i64 0) := by kernel_rfl
theorem by2 : Tryd.t2.bytes = 8 := by kernel_rfl
theorem ix28 (p o q : Nat) (hq : q < 2) : aIndexAddr T0 28 (.pointer (some ⟨p, o, none⟩)) (.int .i64 (q : Nat)) = some (.pointer (some ⟨p, o + q, none⟩)) := by
  show aIndexAddr T0 28 (.pointer (some ⟨p, o, none⟩)) (.int .i64 (Int.ofNat q)) = _
  simp only [aIndexAddr, und28, sz3, blt_dec, hq, decide_true, Nat.mul_one]
theorem ix28_0 (p o : Nat) : aIndexAddr T0 28 (.pointer (some ⟨p, o, none⟩)) (.int .i64 0) = some (.pointer (some ⟨p, o + 0, none⟩)) := ix28 p o 0 (by omega)
theorem ix28_1 (p o : Nat) : aIndexAddr T0 28 (.pointer (some ⟨p, o, none⟩)) (.int .i64 1) = some (.pointer (some ⟨p, o + 1, none⟩)) := ix28 p o 1 (by omega)
theorem build24v (P : Int) (A : Option Addr) (n c : Nat) : aBuild T0 24 [(0, .int .i64 P), (1, .slice A n c)] = some (.agg ⟨[.int .i64 P, .slice A n c]⟩) := by kernel_rfl
theorem build27v (P : Int) (A : Option Addr) (n c : Nat) : aBuild T0 27 [(0, .int .i64 P), (1, .slice A n c)] = some (.agg ⟨[.int .i64 P, .slice A n c]⟩) := by kernel_rfl
theorem build66 (x y : Int) : aBuild T0 66 [(0, .int .i64 x), (1, .int .i64 y)] = some (.agg ⟨[.int .i64 x, .int .i64 y, .int .i64 0]⟩) := by kernel_rfl
theorem bs59 (W : AW) (x y z : Value) : aBuildSlice T0 W 59 1 [(0, .agg ⟨[x, y, z]⟩)] = some (.slice (some ⟨W.next, 0, none⟩) 1 2, W.newCells 66 [x, y, z]) := by kernel_rfl
theorem und59 : T0.und.get 59 = some (.slice 66) := by kernel_rfl
theorem load27 {W : AW} {p : Nat} {x y : Value} (h : Var W p 27 [x, y]) : aLoadVar T0 W 27 p 0 = some (.agg ⟨[x, y]⟩) := h.load (T := T0) und27 agg27 inf27 is27
theorem tri_len {W : AW} {v : Value} {l : List Tri} (h : TriIn W v l) : ∃ A c, v = .slice A l.length c := let ⟨A, c, h, _⟩ := h; ⟨A, c, h⟩
theorem rep_eq : ∀ n, listEq (rep [.int .i64 0] n) (rep [.int .i64 0] n) = true
  | 0 => rfl
  | n + 1 => by
    show listEq ([.int .i64 0] ++ rep [.int .i64 0] n) ([.int .i64 0] ++ rep [.int .i64 0] n) = true
    exact listEq_cons (valEq_int _ _) (rep_eq n)
theorem flt_mk43 {ρ : Operand → Option Value} {l c : Operand} (n : Nat) (hn : n ≤ 100000) (hl : ρ l = some (.int .i64 (n : Int))) (hc : ρ c = some (.int .i64 (n : Int))) : aFlt T0 ρ (.makeSlice 43 l c) = some ⟨2, rep [.int .i64 0] n, false, n, n⟩ := by
  have hl : ρ l = some (.int .i64 (Int.ofNat n)) := hl
  have hc : ρ c = some (.int .i64 (Int.ofNat n)) := hc
  have h1 : n ≤ 4611686018427387904 := by omega
  have h2 : Tryd.t2.bytes * n ≤ 281474976710656 := by rw [by2]; omega
  simp only [aFlt, hl, hc, und43, inf2, z2', h1, h2, is2, ble_dec, acells, List.length_cons, List.length_nil, Nat.beq_refl, Nat.le_refl, decide_true]
theorem freshB_var {W : AW} {p : Nat} {el : TypeId} {l : List Value} (h : Var W p el l) (hl : listEq l l = true) : freshB W p el l = true := by
  obtain ⟨h1, c, h2, h3⟩ := h
  have ht : c.take 0 l.length = some l := take_get c l.length 0 l rfl (fun j hj => by rw [Nat.zero_add]; exact h3 j hj)
  simp only [freshB, h2, Nat.beq_refl, blt_dec, h1, decide_true, ht, hl]
theorem flowChecks_wp {W : AW} {vN vB : Value} (P0 Q0 s t : Int) {lN lB : List Tri} (hN : TriIn W vN lN) (hSN : SlOk vN lN.length) (hB : TriIn W vB lB) (hSB : SlOk vB lB.length) (htb : tabsIn T0 T0.tabs W = true) (hW0 : 0 < W.next) :
    WpF T0 3 [.agg ⟨[.int .i64 P0, vN]⟩, .agg ⟨[.int .i64 Q0, vB]⟩, .agg ⟨[.int .i64 s, .int .i64 t]⟩] W (fun u _ => u = .bool true) := by
  refine wpF fun3 rfl ?_
  obtain ⟨W1, hW1, hE1, hn1, hV3, hV4, hV5⟩ : ∃ W1, W1 = ((W.newCells 24 [.int .i64 P0, vN]).newCells 27 [.int .i64 Q0, vB]).newCells 28 [.int .i64 s, .int .i64 t] ∧ Ext W W1 ∧ W1.next = W.next + 3 ∧ Var W1 W.next 24 [.int .i64 P0, vN] ∧ Var W1 (W.next + 1) 27 [.int .i64 Q0, vB] ∧ Var W1 (W.next + 2) 28 [.int .i64 s, .int .i64 t] :=
    ⟨_, rfl, ((Only.newCells _ _ _).trans (Only.newCells _ _ _)).trans (Only.newCells _ _ _), rfl, ((Var.new _ _ _).ext (.newCells _ _ _)).ext (.newCells _ _ _), (Var.new _ _ _).ext (.newCells _ _ _), Var.new _ _ _⟩
  have hN1 := hN.ext hE1
  have hB1 := hB.ext hE1
  -- the slices
  obtain ⟨k1, hk1⟩ : ∃ k : Nat, k = min lN.length 201 := ⟨_, rfl⟩
  obtain ⟨k2, hk2⟩ : ∃ k : Nat, k = min lB.length 201 := ⟨_, rfl⟩
  have mN : min (lN.length : Int) 201 = (k1 : Int) := by omega
  have mB : min (lB.length : Int) 201 = (k2 : Int) := by omega
  obtain ⟨uN, A1, c1, sN, huN, hTN⟩ := slice_tri und22 sz78 hSN hN1 (k := k1) (by omega)
  obtain ⟨uB, A2, c2, sB, huB, hTB⟩ := slice_tri und25 sz109 hSB hB1 (k := k2) (by omega)
  obtain ⟨aN, cN, hvN⟩ := tri_len hN
  obtain ⟨aB, cB, hvB⟩ := tri_len hB
  have hlenN : ∀ W', aLen T0 W' 22 vN = some (.int .i64 lN.length) := fun W' => by rw [hvN]; exact len_slice und22 _ _ _
  have hlenB : ∀ W', aLen T0 W' 25 vB = some (.int .i64 lB.length) := fun W' => by rw [hvB]; exact len_slice und25 _ _ _
  -- the variables x and y
  obtain ⟨Wc, W2, hc1, hc2, hEc, hE2, hnc, hn2, hVc, hVx, hVy⟩ : ∃ Wc W2, aStoreVar T0 ((W1.newCells 24 [.int .i64 0, .slice none 0 0]).newCells 27 [.int .i64 0, .slice none 0 0]) 24 W1.next 0 (.agg ⟨[.int .i64 P0, uN]⟩) = some Wc ∧ aStoreVar T0 Wc 27 (W1.next + 1) 0 (.agg ⟨[.int .i64 Q0, uB]⟩) = some W2 ∧ Ext W1 Wc ∧ Ext W1 W2 ∧ Wc.next = W1.next + 2 ∧ W2.next = W1.next + 2 ∧ Var Wc (W1.next + 1) 27 [.int .i64 0, .slice none 0 0] ∧ Var W2 W1.next 24 [.int .i64 P0, uN] ∧ Var W2 (W1.next + 1) 27 [.int .i64 Q0, uB] := by
    have hEb : Ext W1 ((W1.newCells 24 [.int .i64 0, .slice none 0 0]).newCells 27 [.int .i64 0, .slice none 0 0]) := (Only.newCells _ _ _).trans (Only.newCells _ _ _)
    have g1 : Var ((W1.newCells 24 [.int .i64 0, .slice none 0 0]).newCells 27 [.int .i64 0, .slice none 0 0]) W1.next 24 [.int .i64 0, .slice none 0 0] := (Var.new _ _ _).ext (.newCells _ _ _)
    have g2 : Var ((W1.newCells 24 [.int .i64 0, .slice none 0 0]).newCells 27 [.int .i64 0, .slice none 0 0]) (W1.next + 1) 27 [.int .i64 0, .slice none 0 0] := Var.new _ _ _
    have gn : ((W1.newCells 24 [.int .i64 0, .slice none 0 0]).newCells 27 [.int .i64 0, .slice none 0 0]).next = W1.next + 2 := rfl
    generalize (W1.newCells 24 [.int .i64 0, .slice none 0 0]).newCells 27 [.int .i64 0, .slice none 0 0] = Wb at hEb g1 g2 gn
    obtain ⟨Wc, e1, e2, e3, e4⟩ := g1.store (T := T0) (t := 24) (v := .agg ⟨[.int .i64 P0, uN]⟩) (o := 0) inf24 (by rw [is24]; rfl) (by simp) (by rw [huN]; rfl)
    obtain ⟨W2, f1, f2, f3, f4⟩ := (g2.only e3 (by omega)).store (T := T0) (t := 27) (v := .agg ⟨[.int .i64 Q0, uB]⟩) (o := 0) inf27 (by rw [is27]; rfl) (by simp) (by rw [huB]; rfl)
    refine ⟨Wc, W2, e1, f1, ⟨by omega, fun b hb hk => by rw [e3.2 b (by omega) (by omega)]; exact hEb.2 b hb hk⟩, ⟨by omega, fun b hb hk => ?_⟩, by omega, by omega, g2.only e3 (by omega), e4.only f3 (by omega), f4⟩
    rw [f3.2 b (by omega) (by omega), e3.2 b (by omega) (by omega)]
    exact hEb.2 b hb hk
  have l30 : ∀ W', Ext W1 W' → aLoadVar T0 W' 3 W.next 0 = some (.int .i64 P0) := fun W' h => (hV3.ext h).load1 (T := T0) und3 rfl (j := 0) (v := .int .i64 P0) rfl
  have l31 : ∀ W', Ext W1 W' → aLoadVar T0 W' 22 W.next 1 = some vN := fun W' h => (hV3.ext h).load1 (T := T0) und22 rfl (j := 1) (v := vN) rfl
  have l40 : ∀ W', Ext W1 W' → aLoadVar T0 W' 3 (W.next + 1) 0 = some (.int .i64 Q0) := fun W' h => (hV4.ext h).load1 (T := T0) und3 rfl (j := 0) (v := .int .i64 Q0) rfl
  have l41 : ∀ W', Ext W1 W' → aLoadVar T0 W' 25 (W.next + 1) 1 = some vB := fun W' h => (hV4.ext h).load1 (T := T0) und25 rfl (j := 1) (v := vB) rfl
  have e11 : Ext W1 W1 := .refl _ _
  have e12 : Ext W1 (W1.newCells 24 [.int .i64 0, .slice none 0 0]) := .newCells _ _ _
  have e13 : Ext W1 ((W1.newCells 24 [.int .i64 0, .slice none 0 0]).newCells 27 [.int .i64 0, .slice none 0 0]) := e12.trans (.newCells _ _ _)
  have vvN := tri_eq hN
  have vvB := tri_eq hB
  have vuN := tri_eq hTN
  have vuB := tri_eq hTB
  have fr1 := freshB_new W1 24 [.int .i64 0, .slice none 0 0] rfl
  have fr2 : freshB ((W1.newCells 24 [.int .i64 0, .slice none 0 0]).newCells 27 [.int .i64 0, .slice none 0 0]) (W1.next + 1) 27 [.int .i64 0, .slice none 0 0] = true := freshB_new (W1.newCells 24 [.int .i64 0, .slice none 0 0]) 27 [.int .i64 0, .slice none 0 0] rfl
  have fr3 : freshB ((W1.newCells 24 [.int .i64 0, .slice none 0 0]).newCells 27 [.int .i64 0, .slice none 0 0]) W1.next 24 [.int .i64 0, .slice none 0 0] = true := freshB_var ((Var.new _ _ _).ext (.newCells _ _ _)) rfl
  have fr4 : freshB Wc (W1.next + 1) 27 [.int .i64 0, .slice none 0 0] = true := freshB_var hVc rfl
  have bN : aBuild T0 24 [(0, .int .i64 P0), (1, uN)] = some (.agg ⟨[.int .i64 P0, uN]⟩) := by rw [huN]; exact build24v _ _ _ _
  have bB : aBuild T0 27 [(0, .int .i64 Q0), (1, uB)] = some (.agg ⟨[.int .i64 Q0, uB]⟩) := by rw [huB]; exact build27v _ _ _ _
  try simp only [wpK_assoc]
  refine wpK_reg (fun R hR => by simp [newCells_next, ← hW1]; exact hR) ?_
  try simp only [wpK_assoc]
  refine wpK_dn (wr := Tr.nil |>.set 35 0 |>.set 36 1 |>.set 37 2 |>.set 38 3 |>.set 39 4 |>.set 40 5 |>.set 41 6 |>.set 42 7 |>.set 43 8 |>.set 44 9 |>.set 45 10 |>.set 46 11 |>.set 47 12 |>.set 48 13 |>.set 49 14 |>.set 50 15 |>.set 51 16 |>.set 52 17 |>.set 53 18 |>.set 54 19 |>.set 7 20 |>.set 8 21) (bits := Tr.nil.lay 0 [0, 1, 0, 4, 0, 16, 48, 112, 252, 511, 0, 1024, 0, 4096, 0, 16384, 49152, 114688, 258048, 523264, 0, 0, 3146751, 8388607]) (ord := [0, 1, 2, 3, 4, 5, 6, 7, 8, 9, 10, 11, 12, 13, 14, 15, 16, 17, 18, 19, 20, 21, 22, 23]) (by kernel_rfl) (by kernel_rfl) (by kernel_rfl) (fun G hG => by
    simp [opSlice, aOpt, l30, l31, l40, l41, hlenN, hlenB, min_int, mN, mB, sN, sB, bN, bB, zero24, zero27, hc1, hc2, e11, e12, e13, hEc, hE2, aFlt, AFlt.val, fr1, fr2, fr3, fr4, newCells_next, hnc, hn2, vvN, vvB, vuN, vuB]
    exact hG) ?_
  have hTN2 := hTN.ext hE2
  have hTB2 := hTB.ext hE2
  have kN : (lN.take k1).length = k1 := by rw [List.length_take]; omega
  have kB : (lB.take k2).length = k2 := by rw [List.length_take]; omega
  generalize lN.take k1 = lx at hTN2 kN
  generalize lB.take k2 = ly at hTB2 kB
  have hV52 := hV5.ext hE2
  have htb2 := tabs_ext htb hW0 (hE1.trans hE2)
  have h02 : 0 < W2.next := by omega
  obtain ⟨bx, hbx⟩ : ∃ bx, bx = W1.next := ⟨_, rfl⟩
  obtain ⟨by', hby⟩ : ∃ b, b = W1.next + 1 := ⟨_, rfl⟩
  obtain ⟨bo, hbo⟩ : ∃ b, b = W.next + 2 := ⟨_, rfl⟩
  rw [← hbx] at hVx
  rw [← hby] at hVy
  rw [← hbo] at hV52
  refine wpK_keep (fun tm' => tm'.get 5 = some (.pointer (some ⟨bo, 0, none⟩)) ∧ tm'.get 7 = some (.pointer (some ⟨bx, 0, none⟩)) ∧ tm'.get 8 = some (.pointer (some ⟨by', 0, none⟩))) ⟨by simp [hbx, hby, hbo, hn1], by simp [hbx, hby, hbo, hn1], by simp [hbx, hby, hbo, hn1]⟩ ?_
  rintro tm ⟨h5, h7, h8⟩
  clear hvN hvB hlenN hlenB sN sB bN bB l30 l31 l40 l41 hV3 hV4 hV5 hc1 hc2 hTN hTB mN mB hSN hSB
  have lx2 : ∀ W', Ext W2 W' → aLoadVar T0 W' 24 bx 0 = some (.agg ⟨[.int .i64 P0, uN]⟩) := fun W' h => load24 (hVx.ext h)
  have ly2 : ∀ W', Ext W2 W' → aLoadVar T0 W' 27 by' 0 = some (.agg ⟨[.int .i64 Q0, uB]⟩) := fun W' h => load27 (hVy.ext h)
  obtain ⟨Wz, hWz, hEz, hnz, hVp0, hVq0⟩ : ∃ Wz, Wz = (W2.newCells 31 [.int .i64 0, .slice none 0 0]).newCells 35 [.int .i64 0, .slice none 0 0] ∧ Ext W2 Wz ∧ Wz.next = W2.next + 2 ∧ Var Wz W2.next 31 [.int .i64 0, .slice none 0 0] ∧ Var Wz (W2.next + 1) 35 [.int .i64 0, .slice none 0 0] :=
    ⟨_, rfl, (Only.newCells _ _ _).trans (Only.newCells _ _ _), rfl, (Var.new _ _ _).ext (.newCells _ _ _), Var.new _ _ _⟩
  have e22 : Ext W2 W2 := .refl _ _
  have e2z : Ext W2 (W2.newCells 31 [.int .i64 0, .slice none 0 0]) := .newCells _ _ _
  try simp only [wpK_assoc]
  refine wpK_d2 (wr := Tr.nil |>.set 55 0 |>.set 56 1 |>.set 57 2 |>.set 58 3 |>.set 9 4 |>.set 10 5) (bits := Tr.nil.lay 0 [0, 1, 0, 7, 0, 0, 63, 127]) (ord := [0, 2, 4, 5, 1, 3, 6, 7]) (by kernel_rfl) (by kernel_rfl) (by kernel_rfl) (fun G hG => by
    simp [h7, h8, lx2, ly2, e22, e2z, hEz, zero31, zero35, aFlt, AFlt.val, newCells_next, ← hWz, aEnter, fun12, short_other, aCallV]
    rw [dcallS_none]
    refine (net_wp (P := P0) (hTN2.ext hEz) (by omega)).mono ?_
    rintro _ W3 ⟨hE3, vp, rfl, hGp⟩
    have e23 := hEz.trans hE3
    simp [hE3.1, h7, h8, lx2, ly2, e22, e2z, hEz, e23, zero31, zero35, aFlt, AFlt.val, newCells_next, aEnter, fun13, short_other, aCallV]
    rw [dcallS_none]
    refine (board_wp (P := Q0) (hTB2.ext e23) (by omega)).mono ?_
    rintro _ W4 ⟨hE4, vq, rfl, hGq⟩
    have e24 := e23.trans hE4
    have ez4 := hE3.trans hE4
    obtain ⟨ap, cp, hvp⟩ := hGp.len
    obtain ⟨aq, cq, hvq⟩ := hGq.len
    have q1 := hVp0.ext hE3
    have q2 := hVq0.ext hE3
    have q3 := hVp0.ext ez4
    have q4 := hVq0.ext ez4
    obtain ⟨W5, s1, s2, s3, s4⟩ := q3.store (T := T0) (t := 31) (v := .agg ⟨[.int .i64 P0, vp]⟩) (o := 0) inf31 (by rw [is31]; rfl) (by simp) (by rw [hvp]; rfl)
    have q5 := q4.only s3 (by omega)
    obtain ⟨W6, t1, t2, t3, t4⟩ := q5.store (T := T0) (t := 35) (v := .agg ⟨[.int .i64 Q0, vq]⟩) (o := 0) inf35 (by rw [is35]; rfl) (by simp) (by rw [hvq]; rfl)
    have n34 := hE3.1
    have n45 := hE4.1
    have e25 : Ext W2 W5 := ⟨by omega, fun b hb hk => by rw [s3.2 b (by omega) (by omega)]; exact e24.2 b hb hk⟩
    have e26 : Ext W2 W6 := ⟨by omega, fun b hb hk => by rw [t3.2 b (by omega) (by omega)]; exact e25.2 b hb hk⟩
    have w1 := tri_eq (hGp.tri)
    have w2 := tri_eq (hGq.tri)
    simp [hE3.1, hE4.1, h7, h8, lx2, ly2, e22, e2z, hEz, e23, e24, e25, e26, zero31, zero35, aFlt, AFlt.val, newCells_next, s1, s2, t1, t2, w1, w2, vuN, vuB,
      freshB_var hVp0 rfl, freshB_var hVq0 rfl, freshB_var q1 rfl, freshB_var q2 rfl, freshB_var q3 rfl, freshB_var q4 rfl, freshB_var q5 rfl]
    have tp : TriIn W6 vp lx := (((hGp.only (K' := fun _ => False) hE4 (fun _ _ _ x => x)).only s3 (fun b _ hb e => by omega)).only t3 (fun b _ hb e => by omega)).tri
    have tq : TriIn W6 vq ly := ((hGq.only s3 (fun b _ hb e => by omega)).only t3 (fun b _ hb e => by omega)).tri
    exact hG vp vq W6 (And.intro e26 (And.intro (s4.only t3 (by omega)) (And.intro t4 (And.intro tp tq))))) ?_
  rintro vp vq W6 ⟨e26, hVp, hVq, tp, tq⟩
  have htb6 := tabs_ext htb2 h02 e26
  have h06 : 0 < W6.next := Nat.lt_of_lt_of_le h02 e26.1
  have tx := hTN2.ext e26
  have ty := hTB2.ext e26
  have hVx6 := hVx.ext e26
  have hVy6 := hVy.ext e26
  have hV56 := hV52.ext e26
  obtain ⟨b9, hb9⟩ : ∃ b, b = W2.next := ⟨_, rfl⟩
  obtain ⟨b10, hb10⟩ : ∃ b, b = W2.next + 1 := ⟨_, rfl⟩
  rw [← hb9] at hVp
  rw [← hb10] at hVq
  refine wpK_keep (fun tm' => tm'.get 5 = some (.pointer (some ⟨bo, 0, none⟩)) ∧ tm'.get 7 = some (.pointer (some ⟨bx, 0, none⟩)) ∧ tm'.get 8 = some (.pointer (some ⟨by', 0, none⟩)) ∧ tm'.get 9 = some (.pointer (some ⟨b9, 0, none⟩)) ∧ tm'.get 10 = some (.pointer (some ⟨b10, 0, none⟩))) ⟨by simp [h5, h7, h8, hb9, hb10], by simp [h5, h7, h8, hb9, hb10], by simp [h5, h7, h8, hb9, hb10], by simp [h5, h7, h8, hb9, hb10], by simp [h5, h7, h8, hb9, hb10]⟩ ?_
  rintro tm ⟨h5, h7, h8, h9, h10⟩
  clear lx2 ly2 hTN2 hTB2 hVx hVy hV52 htb2 hEz hWz hnz hVp0 hVq0 e22 e2z
  have Lx : ∀ W', Ext W6 W' → aLoadVar T0 W' 24 bx 0 = some (.agg ⟨[.int .i64 P0, uN]⟩) := fun W' h => load24 (hVx6.ext h)
  have Lx0 : ∀ W', Ext W6 W' → aLoadVar T0 W' 3 bx 0 = some (.int .i64 P0) := fun W' h => (hVx6.ext h).load1 (T := T0) und3 rfl (j := 0) (v := .int .i64 P0) rfl
  have Lx1 : ∀ W', Ext W6 W' → aLoadVar T0 W' 22 bx 1 = some uN := fun W' h => (hVx6.ext h).load1 (T := T0) und22 rfl (j := 1) (v := uN) rfl
  have Ly : ∀ W', Ext W6 W' → aLoadVar T0 W' 27 by' 0 = some (.agg ⟨[.int .i64 Q0, uB]⟩) := fun W' h => load27 (hVy6.ext h)
  have Ly0 : ∀ W', Ext W6 W' → aLoadVar T0 W' 3 by' 0 = some (.int .i64 Q0) := fun W' h => (hVy6.ext h).load1 (T := T0) und3 rfl (j := 0) (v := .int .i64 Q0) rfl
  have Lp : ∀ W', Ext W6 W' → aLoadVar T0 W' 31 b9 0 = some (.agg ⟨[.int .i64 P0, vp]⟩) := fun W' h => load31 (hVp.ext h)
  have Lq : ∀ W', Ext W6 W' → aLoadVar T0 W' 35 b10 0 = some (.agg ⟨[.int .i64 Q0, vq]⟩) := fun W' h => load35 (hVq.ext h)
  have Lo0 : ∀ W', Ext W6 W' → aLoadVar T0 W' 3 bo 0 = some (.int .i64 s) := fun W' h => (hV56.ext h).load1 (T := T0) und3 rfl (j := 0) (v := .int .i64 s) rfl
  have Lo1 : ∀ W', Ext W6 W' → aLoadVar T0 W' 3 bo 1 = some (.int .i64 t) := fun W' h => (hV56.ext h).load1 (T := T0) und3 rfl (j := 1) (v := .int .i64 t) rfl
  have lenN : ∀ W', aLen T0 W' 22 uN = some (.int .i64 k1) := fun W' => by rw [huN]; exact len_slice und22 _ _ _
  have e66 : Ext W6 W6 := .refl _ _
  clear hVx6 hVy6 hV56
  -- the errors that are wanted
  have hcB := chk_links Q0 ly
  try simp only [wpK_assoc]
  refine wpK_d0 (wr := Tr.nil |>.set 59 0 |>.set 60 1 |>.set 61 2 |>.set 62 3 |>.set 11 4 |>.set 12 5) (bits := Tr.nil.lay 0 [0, 1, 0, 7, 15, 31]) (ord := [0, 1, 2, 3, 4, 5]) (by kernel_rfl) (by kernel_rfl) (by kernel_rfl) (fun G hG => by
    simp [h7, h8, Lx, Ly, e66, aEnter, fun14, short_other, aCallV]
    rw [dcallS_none]
    refine (refCheck_wp P0 tx).mono ?_
    rintro _ W7 ⟨e67, rfl⟩
    simp [h7, h8, Lx, Ly, e66, e67, e67.1, aEnter, fun15, short_other, aCallV]
    rw [dcallS_none]
    refine (refCheckB_wp Q0 (ty.ext e67)).mono ?_
    rintro _ W8 ⟨e78, rfl⟩
    have e68 := e67.trans e78
    simp [h7, h8, Lx, Ly, e66, e67, e68, e78.1, vuN, vuB]
    exact hG W8 e68) ?_
  rintro W8 e68
  try simp only [wpK_assoc]
  refine wpK_x0 (fun R hR => by
    simp [h9, h10, Lp, Lq, e68, aEnter, fun16, short_other, aCallV]; rw [callS_none]
    refine (check16_wp P0 (tp.ext e68)).mono ?_
    rintro _ W9 ⟨e89, rfl⟩
    have e69 := e68.trans e89
    simp [h9, h10, Lp, Lq, e69, aEnter, fun17, short_other, aCallV]; rw [callS_none]
    refine (check17_wp Q0 (tq.ext e69)).mono ?_
    rintro _ W10 ⟨e90, rfl⟩
    simp [hcB]; exact hR W10 (e69.trans e90)) ?_
  rintro W10 e610
  try simp only [wpK_assoc]
  first | refine wpK_onF (by simp []) ?_ | refine wpK_out (by simp []) ?_ | refine wpK_condF (by simp []) ?_ | refine wpK_endF (by simp []) (wpK_skip ?_) | refine wpK_endF (by simp []) ?_
  try simp only [wpK_assoc]
  refine wpK_dn (wr := Tr.nil |>.set 73 0 |>.set 74 1 |>.set 75 2 |>.set 76 3 |>.set 13 4 |>.set 14 5) (bits := Tr.nil.lay 0 [0, 1, 0, 4, 3, 31]) (ord := [0, 1, 2, 3, 4, 5]) (by kernel_rfl) (by kernel_rfl) (by kernel_rfl) (fun G hG => by
    simp [h5, Lo0, Lo1, e610, ix28_0, ix28_1]
    exact hG) ?_
  refine wpK_keep (fun tm' => tm'.get 7 = some (.pointer (some ⟨bx, 0, none⟩)) ∧ tm'.get 8 = some (.pointer (some ⟨by', 0, none⟩)) ∧ tm'.get 9 = some (.pointer (some ⟨b9, 0, none⟩)) ∧ tm'.get 10 = some (.pointer (some ⟨b10, 0, none⟩)) ∧ tm'.get 11 = some (.int .i64 (chk P0 (arcsQ lx))) ∧ tm'.get 12 = some (.int .i64 (chk Q0 (arcsQ ly))) ∧ tm'.get 13 = some (.int .i64 s) ∧ tm'.get 14 = some (.int .i64 t)) ⟨by simp [h5, h7, h8, h9, h10], by simp [h5, h7, h8, h9, h10], by simp [h5, h7, h8, h9, h10], by simp [h5, h7, h8, h9, h10], by simp [h5, h7, h8, h9, h10], by simp [h5, h7, h8, h9, h10], by simp [h5, h7, h8, h9, h10], by simp [h5, h7, h8, h9, h10]⟩ ?_
  rintro tm ⟨h7, h8, h9, h10, h11, h12, h13, h14⟩
  -- the places of the network
  try simp only [wpK_assoc]
  refine wpK_reg (fun R hR => by simp [h11]; exact hR) ?_
  try simp only [wpK_assoc]
  refine wpK_cut (J := fun A W' => W' = W10 ∧ A.n = 249 ∧ A.defers = [] ∧ A.tmps.get 7 = some (.pointer (some ⟨bx, 0, none⟩)) ∧ A.tmps.get 8 = some (.pointer (some ⟨by', 0, none⟩)) ∧ A.tmps.get 9 = some (.pointer (some ⟨b9, 0, none⟩)) ∧ A.tmps.get 10 = some (.pointer (some ⟨b10, 0, none⟩)) ∧ A.tmps.get 11 = some (.int .i64 (chkE P0 (arcsQ lx) s t)) ∧ A.tmps.get 12 = some (.int .i64 (chk Q0 (arcsQ ly))) ∧ A.tmps.get 13 = some (.int .i64 s) ∧ A.tmps.get 14 = some (.int .i64 t)) (fun Q' hQ => ?_) ?_
  · cases hok : planOk P0 (arcsQ lx) with
    | false =>
      refine wpK_endF (by simp [chk, hok]) (wpK_skip (hQ _ _ ⟨rfl, rfl, rfl, by simp [h7, h8, h9, h10, h11, h12, h13, h14, chk, chkE, hok], by simp [h7, h8, h9, h10, h11, h12, h13, h14, chk, chkE, hok], by simp [h7, h8, h9, h10, h11, h12, h13, h14, chk, chkE, hok], by simp [h7, h8, h9, h10, h11, h12, h13, h14, chk, chkE, hok], by simp [h7, h8, h9, h10, h11, h12, h13, h14, chk, chkE, hok], by simp [h7, h8, h9, h10, h11, h12, h13, h14, chk, chkE, hok], by simp [h7, h8, h9, h10, h11, h12, h13, h14, chk, chkE, hok], by simp [h7, h8, h9, h10, h11, h12, h13, h14, chk, chkE, hok]⟩))
    | true =>
      refine wpK_endT (by simp [chk, hok]) ?_
      try simp only [wpK_assoc]
      refine wpK_reg1 (fun R hR => by
          simp [h7, h13, h14, Lx0, e610, aEnter, fun18, short_other, aCallV]; rw [callS_none]
          refine (refEnds_wp P0 s t W10).mono ?_
          rintro _ W9 ⟨e9, rfl⟩; subst W9
          simp [h7, h13, h14, Lx0, e610]; exact hR) ?_
      exact hQ _ _ ⟨rfl, rfl, rfl, by simp [h7, h8, h9, h10, h11, h12, h13, h14, chk, chkE, hok], by simp [h7, h8, h9, h10, h11, h12, h13, h14, chk, chkE, hok], by simp [h7, h8, h9, h10, h11, h12, h13, h14, chk, chkE, hok], by simp [h7, h8, h9, h10, h11, h12, h13, h14, chk, chkE, hok], by simp [h7, h8, h9, h10, h11, h12, h13, h14, chk, chkE, hok], by simp [h7, h8, h9, h10, h11, h12, h13, h14, chk, chkE, hok], by simp [h7, h8, h9, h10, h11, h12, h13, h14, chk, chkE, hok], by simp [h7, h8, h9, h10, h11, h12, h13, h14, chk, chkE, hok]⟩
  rintro ⟨tm, n, ds⟩ W' ⟨rfl, hn, hd, h7, h8, h9, h10, h11, h12, h13, h14⟩
  simp only at hn hd h7 h8 h9 h10 h11 h12 h13 h14
  subst hn; subst hd
  try simp only [wpK_assoc]
  refine wpK_reg (fun R hR => by simp [h11]; exact hR) ?_
  try simp only [wpK_assoc]
  refine wpK_cut (J := fun A W1 => Ext W6 W1 ∧ A.n = 249 ∧ A.defers = [] ∧ A.tmps.get 7 = some (.pointer (some ⟨bx, 0, none⟩)) ∧ A.tmps.get 8 = some (.pointer (some ⟨by', 0, none⟩)) ∧ A.tmps.get 9 = some (.pointer (some ⟨b9, 0, none⟩)) ∧ A.tmps.get 10 = some (.pointer (some ⟨b10, 0, none⟩)) ∧ A.tmps.get 11 = some (.int .i64 (chkE P0 (arcsQ lx) s t)) ∧ A.tmps.get 12 = some (.int .i64 (chk Q0 (arcsQ ly))) ∧ A.tmps.get 13 = some (.int .i64 s) ∧ A.tmps.get 14 = some (.int .i64 t)) (fun Q' hQ => ?_) ?_
  · by_cases he : chkE P0 (arcsQ lx) s t = 0
    · refine wpK_endF (by simp [he]) (wpK_skip (hQ _ _ ⟨e610, rfl, rfl, by simp [h7, h8, h9, h10, h11, h12, h13, h14], by simp [h7, h8, h9, h10, h11, h12, h13, h14], by simp [h7, h8, h9, h10, h11, h12, h13, h14], by simp [h7, h8, h9, h10, h11, h12, h13, h14], by simp [h7, h8, h9, h10, h11, h12, h13, h14], by simp [h7, h8, h9, h10, h11, h12, h13, h14], by simp [h7, h8, h9, h10, h11, h12, h13, h14], by simp [h7, h8, h9, h10, h11, h12, h13, h14]⟩))
    refine wpK_endT (by simp [he]) ?_
    try simp only [wpK_assoc]
    refine wpK_x0 (fun R hR => by
        simp [h9, h13, h14, Lp, e610, aEnter, fun19, short_other, aCallV]; rw [callS_none]
        refine (most_err (tp.ext e610) s t he).mono ?_
        rintro _ W11 ⟨f1, rfl⟩
        simp [h9, h13, h14, Lp, e610]; exact hR W11 f1) ?_
    rintro W11 f1
    have e611 := e610.trans f1
    try simp only [wpK_assoc]
    refine wpK_x0 (fun R hR => by
        simp [h9, h13, h14, Lp, e611, aEnter, fun20, short_other, aCallV]; rw [callS_none]
        refine (cut_err (tp.ext e611) s t he).mono ?_
        rintro _ W12 ⟨f2, rfl⟩
        simp [h9, h13, h14, Lp, e611]; exact hR W12 f2) ?_
    rintro W12 f2
    have e612 := e611.trans f2
    try simp only [wpK_assoc]
    refine wpK_x0 (fun R hR => by
        simp [h9, h13, h14, Lp, e612, aEnter, fun21, short_other, aCallV]; rw [callS_none]
        refine (apart_err (tp.ext e612) s t he).mono ?_
        rintro _ W13 ⟨f3, rfl⟩
        simp [h9, h13, h14, Lp, e612]; exact hR W13 f3) ?_
    rintro W13 f3
    have e613 := e612.trans f3
    have fk := fun (ρ : Operand → Option Value) (l c : Operand) => flt_mk43 (ρ := ρ) (l := l) (c := c) k1 (by omega)
    obtain ⟨Wm, hWm, hEm⟩ : ∃ Wm, Wm = W13.newCells 2 (rep [.int .i64 0] k1) ∧ Ext W13 Wm := ⟨_, rfl, .newCells _ _ _⟩
    have e6m := e613.trans hEm
    have frm : freshB Wm W13.next 2 (rep [.int .i64 0] k1) = true := by rw [hWm]; exact freshB_new _ _ _ (rep_eq k1)
    try simp only [wpK_assoc]
    refine wpK_d0 (wr := Tr.nil |>.set 111 0 |>.set 112 1 |>.set 113 2 |>.set 114 3 |>.set 115 4 |>.set 116 5 |>.set 117 6 |>.set 118 7 |>.set 110 8 |>.set 119 9 |>.set 120 10 |>.set 24 11 |>.set 25 12) (bits := Tr.nil.lay 0 [0, 0, 0, 0, 8, 24, 56, 127, 255, 511, 511, 1023, 4095]) (ord := [0, 1, 2, 3, 4, 5, 6, 7, 8, 9, 10, 11, 12]) (by kernel_rfl) (by kernel_rfl) (by kernel_rfl) (fun G hG => by
      simp [h7, h9, h13, h14, Lp, Lx1, lenN, e613, fk, AFlt.val, ← hWm, e6m, aEnter, fun22, short_other, aCallV]
      rw [dcallS_none]
      refine (isFlow_err (tp.ext e6m) s t he).mono ?_
      rintro _ W14 ⟨f4, rfl⟩
      simp [h7, h9, h13, h14, Lp, Lx1, lenN, e613, fk, AFlt.val, e6m, f4.1, frm, vuN, tri_eq tp]
      exact hG W14 (e6m.trans f4)) ?_
    rintro W14 e614
    try simp only [wpK_assoc]
    refine wpK_x0 (fun R hR => by
        simp [h9, h11, h13, h14, Lp, e614, aEnter, fun23, short_other, aCallV]; rw [callS_none]
        refine (areApart_err (tp.ext e614) s t he).mono ?_
        rintro _ W15 ⟨f5, rfl⟩
        simp [h9, h11, h13, h14, Lp, e614]; exact hR W15 f5) ?_
    rintro W15 f5
    try simp only [wpK_assoc]
    first | refine wpK_onF (by simp []) ?_ | refine wpK_out (by simp []) ?_ | refine wpK_condF (by simp []) ?_ | refine wpK_endF (by simp []) (wpK_skip ?_) | refine wpK_endF (by simp []) ?_
    exact hQ _ _ ⟨e614.trans f5, rfl, rfl, by simp [h7, h8, h9, h10, h11, h12, h13, h14], by simp [h7, h8, h9, h10, h11, h12, h13, h14], by simp [h7, h8, h9, h10, h11, h12, h13, h14], by simp [h7, h8, h9, h10, h11, h12, h13, h14], by simp [h7, h8, h9, h10, h11, h12, h13, h14], by simp [h7, h8, h9, h10, h11, h12, h13, h14], by simp [h7, h8, h9, h10, h11, h12, h13, h14], by simp [h7, h8, h9, h10, h11, h12, h13, h14]⟩
  rintro ⟨tm, n, ds⟩ W16 ⟨e616, hn, hd, h7, h8, h9, h10, h11, h12, h13, h14⟩
  simp only at hn hd h7 h8 h9 h10 h11 h12 h13 h14
  subst hn; subst hd
  -- Capacity of no network
  try simp only [wpK_assoc]
  refine wpK_x0 (fun R hR => by
      simp [h7, Lx, e616, aEnter, fun14, short_other, aCallV]; rw [callS_none]
      refine (refCheck_wp P0 (tx.ext e616)).mono ?_
      rintro _ W17 ⟨f1, rfl⟩
      simp [h7, Lx, e616]; exact hR W17 f1) ?_
  rintro W17 f1
  have e617 := e616.trans f1
  try simp only [wpK_assoc]
  refine wpK_cut (J := fun A W1 => Ext W6 W1 ∧ A.n = 249 ∧ A.defers = [] ∧ A.tmps.get 7 = some (.pointer (some ⟨bx, 0, none⟩)) ∧ A.tmps.get 8 = some (.pointer (some ⟨by', 0, none⟩)) ∧ A.tmps.get 9 = some (.pointer (some ⟨b9, 0, none⟩)) ∧ A.tmps.get 10 = some (.pointer (some ⟨b10, 0, none⟩)) ∧ A.tmps.get 12 = some (.int .i64 (chk Q0 (arcsQ ly))) ∧ A.tmps.get 13 = some (.int .i64 s) ∧ A.tmps.get 14 = some (.int .i64 t)) (fun Q' hQ => ?_) ?_
  · cases hok : planOk P0 (arcsQ lx) with
    | true =>
      refine wpK_endF (by simp [chk, hok]) (wpK_skip (hQ _ _ ⟨e617, rfl, rfl, by simp [h7, h8, h9, h10, h12, h13, h14], by simp [h7, h8, h9, h10, h12, h13, h14], by simp [h7, h8, h9, h10, h12, h13, h14], by simp [h7, h8, h9, h10, h12, h13, h14], by simp [h7, h8, h9, h10, h12, h13, h14], by simp [h7, h8, h9, h10, h12, h13, h14], by simp [h7, h8, h9, h10, h12, h13, h14]⟩))
    | false =>
      have hcap : WpF T0 24 [.agg ⟨[.int .i64 P0, vp]⟩, .slice none 0 0] W17 (fun u W' => Ext W17 W' ∧ u = .tuple ⟨[.int .i64 0, .int .i64 30]⟩) := by
        refine (capacity_wp (P := P0) (S := []) (sl := .slice none 0 0) (tp.ext e617) ⟨none, 0, rfl, fun i x hx => by simp at hx⟩ (by simp)).mono ?_
        rintro u W' ⟨f, ⟨hb, _⟩ | ⟨hb, _⟩ | ⟨_, hu⟩⟩
        · rw [hok] at hb; cases hb
        · rw [hok] at hb; cases hb
        · exact ⟨f, hu⟩
      refine wpK_endT (by simp [chk, hok]) ?_
      try simp only [wpK_assoc]
      refine wpK_x0 (fun R hR => by
          simp [h9, Lp, e617, aEnter, fun24, short_other, aCallV]; rw [callS_none]
          refine (hcap).mono ?_
          rintro _ W18 ⟨f2, rfl⟩
          simp [h9, Lp, e617]; exact hR W18 f2) ?_
      rintro W18 f2
      have e618 := e617.trans f2
      have hck := refCheck_wp P0 (tx.ext e618)
      rw [chk, hok] at hck
      try simp only [wpK_assoc]
      refine wpK_x0 (fun R hR => by
          simp [h7, Lx, e618, aEnter, fun14, short_other, aCallV]; rw [callS_none]
          refine (hck).mono ?_
          rintro _ W19 ⟨f3, rfl⟩
          simp [h7, Lx, e618]; exact hR W19 f3) ?_
      rintro W19 f3
      try simp only [wpK_assoc]
      first | refine wpK_onF (by simp []) ?_ | refine wpK_out (by simp []) ?_ | refine wpK_condF (by simp []) ?_ | refine wpK_endF (by simp []) (wpK_skip ?_) | refine wpK_endF (by simp []) ?_
      exact hQ _ _ ⟨e618.trans f3, rfl, rfl, by simp [h7, h8, h9, h10, h12, h13, h14], by simp [h7, h8, h9, h10, h12, h13, h14], by simp [h7, h8, h9, h10, h12, h13, h14], by simp [h7, h8, h9, h10, h12, h13, h14], by simp [h7, h8, h9, h10, h12, h13, h14], by simp [h7, h8, h9, h10, h12, h13, h14], by simp [h7, h8, h9, h10, h12, h13, h14]⟩
  rintro ⟨tm, n, ds⟩ W19 ⟨e619, hn, hd, h7, h8, h9, h10, h12, h13, h14⟩
  simp only at hn hd h7 h8 h9 h10 h12 h13 h14
  subst hn; subst hd
  -- the places of the board
  try simp only [wpK_assoc]
  refine wpK_reg (fun R hR => by simp [h12]; exact hR) ?_
  have hpl := planOk_links Q0 ly
  try simp only [wpK_assoc]
  refine wpK_cut (J := fun A W' => W' = W19 ∧ A.n = 249 ∧ A.defers = [] ∧ A.tmps.get 8 = some (.pointer (some ⟨by', 0, none⟩)) ∧ A.tmps.get 10 = some (.pointer (some ⟨b10, 0, none⟩)) ∧ A.tmps.get 12 = some (.int .i64 (chkE Q0 (linksQ ly) s t)) ∧ A.tmps.get 13 = some (.int .i64 s) ∧ A.tmps.get 14 = some (.int .i64 t)) (fun Q' hQ => ?_) ?_
  · cases hok : planOk Q0 (arcsQ ly) with
    | false =>
      refine wpK_endF (by simp [chk, hok]) (wpK_skip (hQ _ _ ⟨rfl, rfl, rfl, by simp [h8, h10, h12, h13, h14, chk, chkE, hpl, hok], by simp [h8, h10, h12, h13, h14, chk, chkE, hpl, hok], by simp [h8, h10, h12, h13, h14, chk, chkE, hpl, hok], by simp [h8, h10, h12, h13, h14, chk, chkE, hpl, hok], by simp [h8, h10, h12, h13, h14, chk, chkE, hpl, hok]⟩))
    | true =>
      refine wpK_endT (by simp [chk, hok]) ?_
      try simp only [wpK_assoc]
      refine wpK_reg1 (fun R hR => by
          simp [h8, h13, h14, Ly0, e619, aEnter, fun18, short_other, aCallV]; rw [callS_none]
          refine (refEnds_wp Q0 s t W19).mono ?_
          rintro _ W9 ⟨e9, rfl⟩; subst W9
          simp [h8, h13, h14, Ly0, e619]; exact hR) ?_
      exact hQ _ _ ⟨rfl, rfl, rfl, by simp [h8, h10, h12, h13, h14, chk, chkE, hpl, hok], by simp [h8, h10, h12, h13, h14, chk, chkE, hpl, hok], by simp [h8, h10, h12, h13, h14, chk, chkE, hpl, hok], by simp [h8, h10, h12, h13, h14, chk, chkE, hpl, hok], by simp [h8, h10, h12, h13, h14, chk, chkE, hpl, hok]⟩
  rintro ⟨tm, n, ds⟩ W' ⟨rfl, hn, hd, h8, h10, h12, h13, h14⟩
  simp only at hn hd h8 h10 h12 h13 h14
  subst hn; subst hd
  -- Least
  try simp only [wpK_assoc]
  refine wpK_cut (J := fun A W1 => Ext W6 W1 ∧ A.n = 249 ∧ A.defers = [] ∧ A.tmps.get 8 = some (.pointer (some ⟨by', 0, none⟩)) ∧ A.tmps.get 10 = some (.pointer (some ⟨b10, 0, none⟩)) ∧ A.tmps.get 12 = some (.int .i64 (chkE Q0 (linksQ ly) s t)) ∧ A.tmps.get 13 = some (.int .i64 s) ∧ A.tmps.get 14 = some (.int .i64 t) ∧ ∃ x : Int, A.tmps.get 28 = some (.int .i64 x) ∧ A.tmps.get 29 = some (.int .i64 (chkE Q0 (linksQ ly) s t)) ∧ (chkE Q0 (linksQ ly) s t ≠ 0 → x = 0)) (fun Q' hQ => ?_) ?_
  · by_cases he : chkE Q0 (linksQ ly) s t = 0
    · have hok : planOk Q0 (linksQ ly) = true := by
        cases h : planOk Q0 (linksQ ly) with
        | true => rfl
        | false => simp [chkE, h] at he
      have h2 : two? s t Q0 = true := by
        cases h : two? s t Q0 with
        | true => rfl
        | false => simp [chkE, hok, endE, h] at he
      have h2' := h2
      simp only [two?, Bool.and_eq_true, decide_eq_true_eq] at h2'
      obtain ⟨sn, hsn⟩ : ∃ n : Nat, s = n := ⟨s.toNat, by omega⟩
      obtain ⟨tn, htn⟩ : ∃ n : Nat, t = n := ⟨t.toNat, by omega⟩
      have hPin : PlanIn Q0 (linksQ ly) := links_in (by rw [← hpl]; exact hok)
      have hlo := least_ok (P := Q0) (s := sn) (t := tn) (tq.ext e619) hPin (by rw [← hsn, ← htn]; exact h2) (tabs_ext htb6 h06 e619) (Nat.lt_of_lt_of_le h06 e619.1)
      rw [← hsn, ← htn] at hlo
      try simp only [wpK_assoc]
      refine wpK_y1 (fun R hR => by
          simp [h10, h13, h14, Lq, e619, aEnter, fun25, short_other, aCallV]; rw [callS_none]
          refine (hlo).mono ?_
          rintro _ W20 ⟨f1, x, rm, lv, rfl, hF⟩
          simp [h10, h13, h14, Lq, e619]; exact hR x W20 f1) ?_
      rintro x W20 f1
      exact hQ _ _ ⟨e619.trans f1, rfl, rfl, by simp [h8, h10, h12, h13, h14], by simp [h8, h10, h12, h13, h14], by simp [h8, h10, h12, h13, h14], by simp [h8, h10, h12, h13, h14], by simp [h8, h10, h12, h13, h14], x, by simp, by simp [he], fun h => absurd he h⟩
    · try simp only [wpK_assoc]
      refine wpK_y0 (fun R hR => by
          simp [h10, h13, h14, Lq, e619, aEnter, fun25, short_other, aCallV]; rw [callS_none]
          refine (least_err (tq.ext e619) s t he).mono ?_
          rintro _ W20 ⟨f1, rfl⟩
          simp [h10, h13, h14, Lq, e619]; exact hR W20 f1) ?_
      rintro W20 f1
      exact hQ _ _ ⟨e619.trans f1, rfl, rfl, by simp [h8, h10, h12, h13, h14], by simp [h8, h10, h12, h13, h14], by simp [h8, h10, h12, h13, h14], by simp [h8, h10, h12, h13, h14], by simp [h8, h10, h12, h13, h14], 0, by simp, by simp, fun _ => rfl⟩
  rintro ⟨tm, n, ds⟩ W20 ⟨e620, hn, hd, h8, h10, h12, h13, h14, x, h28, h29, hx⟩
  simp only at hn hd h8 h10 h12 h13 h14 h28 h29
  subst hn; subst hd
  try simp only [wpK_assoc]
  refine wpK_cut (J := fun A W1 => W1 = W20 ∧ A.n = 249 ∧ A.defers = [] ∧ A.tmps.get 8 = some (.pointer (some ⟨by', 0, none⟩)) ∧ A.tmps.get 10 = some (.pointer (some ⟨b10, 0, none⟩)) ∧ A.tmps.get 12 = some (.int .i64 (chkE Q0 (linksQ ly) s t)) ∧ A.tmps.get 13 = some (.int .i64 s) ∧ A.tmps.get 14 = some (.int .i64 t) ∧ A.tmps.get 203 = some (.bool false)) (fun Q' hQ => ?_) ?_
  · by_cases he : chkE Q0 (linksQ ly) s t = 0
    · try simp only [wpK_assoc]
      refine wpK_reg1 (fun R hR => by simp [h12, h29, h28, he, undef]; exact hR) ?_
      exact hQ _ _ ⟨rfl, rfl, rfl, by simp [h8, h10, h12, h13, h14], by simp [h8, h10, h12, h13, h14], by simp [h8, h10, h12, h13, h14], by simp [h8, h10, h12, h13, h14], by simp [h8, h10, h12, h13, h14], by simp⟩
    · have := hx he
      subst this
      try simp only [wpK_assoc]
      refine wpK_reg1 (fun R hR => by simp [h12, h29, h28, he]; exact hR) ?_
      exact hQ _ _ ⟨rfl, rfl, rfl, by simp [h8, h10, h12, h13, h14], by simp [h8, h10, h12, h13, h14], by simp [h8, h10, h12, h13, h14], by simp [h8, h10, h12, h13, h14], by simp [h8, h10, h12, h13, h14], by simp⟩
  rintro ⟨tm, n, ds⟩ W' ⟨rfl, hn, hd, h8, h10, h12, h13, h14, h203⟩
  simp only at hn hd h8 h10 h12 h13 h14 h203
  subst hn; subst hd
  try simp only [wpK_assoc]
  first | refine wpK_onF (by simp [h203]) ?_ | refine wpK_out (by simp [h203]) ?_ | refine wpK_condF (by simp [h203]) ?_ | refine wpK_endF (by simp [h203]) (wpK_skip ?_) | refine wpK_endF (by simp [h203]) ?_
  have haw : ∀ W', Ext W6 W' → tabsIn T0 T0.tabs W' = true := fun W' h => tabs_ext htb6 h06 h
  try simp only [wpK_assoc]
  refine wpK_x0 (fun R hR => by
      simp [h8, Ly, e620, aEnter, fun15, short_other, aCallV]; rw [callS_none]
      refine (refCheckB_wp Q0 (ty.ext e620)).mono ?_
      rintro _ W21 ⟨f1, rfl⟩
      simp [h8, Ly, e620]; exact hR W21 f1) ?_
  rintro W21 f1
  have e621 := e620.trans f1
  cases hok : planOk Q0 (arcsQ ly) with
  | true =>
    refine wpK_condT (by simp [chk, hok]) ?_
    try simp only [wpK_assoc]
    refine wpK_reg (fun R hR => by simp [aEnter, fun26, short_awake, aCallV, haw, e621]; exact hR) ?_
    exact wpK_ret ⟨.inr rfl, rfl, [.bool true], by simp, rfl⟩
  | false =>
    refine wpK_onF (by simp [chk, hok]) ?_
    rw [hok] at hpl
    try simp only [wpK_assoc]
    refine wpK_x0 (fun R hR => by
        simp [h10, Lq, e621, aEnter, fun27, short_other, aCallV]; rw [callS_none]
        refine (tree_err (tq.ext e621) hpl).mono ?_
        rintro _ W22 ⟨f2, rfl⟩
        simp [h10, Lq, e621]; exact hR W22 f2) ?_
    rintro W22 f2
    have e622 := e621.trans f2
    try simp only [wpK_assoc]
    refine wpK_x0 (fun R hR => by
        simp [h10, Lq, e622, aEnter, fun28, short_other, aCallV]; rw [callS_none]
        refine (weakest_err (tq.ext e622) hpl).mono ?_
        rintro _ W23 ⟨f3, rfl⟩
        simp [h10, Lq, e622]; exact hR W23 f3) ?_
    rintro W23 f3
    have e623 := e622.trans f3
    have e6b : Ext W6 (W23.newCells 66 [.int .i64 0, .int .i64 1, .int .i64 0]) := e623.trans (.newCells _ _ _)
    try simp only [wpK_assoc]
    refine wpK_x0 (fun R hR => by
      simp [h10, Lq, e623, und59, build66, bs59, aEnter, fun29, short_other, aCallV]; rw [callS_none]
      refine (isTree_err (tq.ext e6b) hpl).mono ?_
      rintro _ W24 ⟨f4, rfl⟩
      have e624 := e6b.trans f4
      simp [aEnter, fun26, short_awake, aCallV, haw, e624]
      exact hR W24 e624) ?_
    rintro W24 e624
    exact wpK_ret ⟨.inr rfl, rfl, [.bool true], by simp, rfl⟩
end Go.Proofs.YtkgfjfkgmpeobaaDoor

open Go Go.Eng
namespace Go.Proofs.YtkgfjfkgmpeobaaDoor
open Go.ChangeShapes Go.WideShapes Go.ChangeAt Go.RowKit
section
variable {H : Type} {enc : TypeId × Value → H} {P : Program} {w : World}
theorem add_block (a : Addr) (n : Nat) : (a.add n).block = a.block := by unfold Addr.add; split <;> rfl
theorem add_off (a : Addr) (n : Nat) : (a.add n).off = a.off + n := by unfold Addr.add; split <;> simp_all
end
theorem own : ownKnob Tryd.prog.godebug = none := by kernel_rfl
theorem laidOut : laidOutB Tryd.prog = true := by kernel_rfl
theorem T0_globs : ∀ g u, T0.globs.get g = some u → g = 0 := fun g u h => by
  have h : (Tr.set Tr.nil 0 ()).get g = some u := h
  rw [Tr.get_set] at h
  split at h
  · assumption
  · rw [Tr.get_nil] at h; cases h
def tabL : List Int := [0, 1, 56, 2, 57, 49, 28, 3, 61, 58, 42, 50, 38, 29, 17, 4, 62, 47, 59, 36, 45, 43, 51, 22, 53, 39, 33, 30, 24, 18, 12, 5, 63, 55, 48, 27, 60, 41, 37, 16, 46, 35, 44, 21, 52, 32, 23, 11, 54, 26, 40, 15, 34, 20, 31, 10, 25, 14, 19, 9, 13, 8, 7, 6]
theorem tab_of_laid {W : World} (h : laidMet Tryd.prog [("math/bits.deBruijn64tab", Rows.laid_math_bits_deBruijn64tab)] W) : ∀ i (h : i < tabL.length), W.cell? ⟨0, i, none⟩ = some (.int .u8 tabL[i]) := by
  have hg : Tryd.prog.globalNamed "math/bits.deBruijn64tab" = some 0 := by kernel_rfl
  have ht := Lib.tabIs_of_head (P := Tryd.prog) (W := W) (k := .u8) (zs := tabL) (rest := []) (t := 160) (e := 5) (n := 64) hg (by kernel_rfl) Tryd.underlying160 Tryd.underlying5 (by kernel_rfl) (by kernel_rfl) h
  intro i hi
  have := ht.cell hg i hi
  rw [this, List.getD_eq_getElem?_getD, List.getElem?_eq_getElem hi]; rfl
theorem tab_cells {W : World} (h : ∀ i (h : i < tabL.length), W.cell? ⟨0, i, none⟩ = some (.int .u8 tabL[i])) : isCells W 0 = true ∧ 0 < (embW W).next ∧ tabsIn T0 T0.tabs (embW W) = true := by
  have h0 := h 0 (by decide)
  have hc := isCells_cell h0
  refine ⟨hc, isCells_lt hc, ?_⟩
  have key : tabIn ⟨0, tabL.map (Value.int .u8)⟩ (embW W) = true := by
    unfold isCells at hc
    split at hc
    case h_2 => cases hc
    rename_i c el fz ho
    unfold tabIn
    simp only [embW_get, ho, Option.map_some, embO]
    have hcell : ∀ i (hi : i < tabL.length), c[i]? = some (.int .u8 tabL[i]) := fun i hi => by
      have := h i hi
      simpa [World.cell?, ho] using this
    have hsz : tabL.length ≤ c.size := by
      have := (Array.getElem?_eq_some_iff.1 (hcell 63 (by decide))).1
      show 64 ≤ c.size; omega
    have htake : (Tr.nil.layO 0 (c.toList.map (absV W))).take 0 (tabL.map (Value.int .u8)).length = some (tabL.map (Value.int .u8)) := by
      refine take_get _ _ 0 _ rfl (fun j hj => ?_)
      have hj' : j < tabL.length := by simpa using hj
      rw [Nat.zero_add, Tr.get_layO _ _ _ _ (.inl (Tr.get_nil _)), if_pos (by simp; omega)]
      simp only [Nat.sub_zero, List.getElem?_map, Array.getElem?_toList, hcell j hj', Option.map_some, Option.getD_some, List.getElem?_eq_getElem hj']
      rfl
    rw [htake]
    simp only [ble_dec, List.length_map, hsz, decide_true]
    have hf : allB flat (tabL.map (Value.int .u8)) = true := by decide
    rw [hf]
    simp only
    have : ∀ l : List Int, listEq (l.map (Value.int .u8)) (l.map (Value.int .u8)) = true := fun l => by
      induction l with
      | nil => rfl
      | cons a l ih => simp only [List.map_cons]; exact listEq_cons (valEq_int _ _) ih
    exact this tabL
  show tabsIn T0 [⟨0, tabL.map (Value.int .u8)⟩] (embW W) = true
  simp only [tabsIn, key]
  rfl
noncomputable def laidWorld (os : Os) : World :=
  let w0 := World.holding Tryd.prog os ⟨#[], #[], []⟩
  { w0 with heap := w0.heap.modify 0 fun
      | .cells _ t frozen => .cells (tabL.map (Value.int .u8)).toArray t frozen
      | o => o }
theorem laid_met (os : Os) (args : Array Value) : laidMet Tryd.prog [("math/bits.deBruijn64tab", Rows.laid_math_bits_deBruijn64tab)] ((laidWorld os).forCall (fun _ _ => 0) ⟨#[], args, []⟩).memory :=
  laidMet_of_run' 8 (by kernel_rfl) (by kernel_rfl)
theorem globs_cells {W : World} (h : isCells W 0 = true) : ∀ g u, T0.globs.get g = some u → isCells W g = true := fun g u hu => by
  rw [T0_globs g u hu]; exact h
end Go.Proofs.YtkgfjfkgmpeobaaDoor

open Go Go.Eng
namespace Go.Proofs.YtkgfjfkgmpeobaaDoor
open Go.ChangeShapes Go.WideShapes Go.ChangeAt Go.RowKit
theorem absV_row2 {w : World} {a : Addr} {n c : Nat} (h : 0 < c → ∃ v, w.cell? a = some v) (hn : n ≤ c) :
    ∃ a' c', absV w (.slice (some a) n c) = some (.slice a' n c') ∧ (0 < c → a' = some ⟨a.block, a.off, none⟩) ∧ SlOk (.slice a' n c') n := by
  by_cases hc : 0 < c
  · obtain ⟨v, hv⟩ := h hc
    have hs := cell_spot hv
    have hb := isCells_cell hv
    obtain ⟨b, o, s⟩ := a
    simp only at hs hb; subst hs
    exact ⟨some ⟨b, o, none⟩, 2 * c, by simp [absV, hb], fun _ => rfl, .inr (.inl ⟨b, o, c, rfl, hn⟩)⟩
  · obtain rfl : c = 0 := by omega
    obtain rfl : n = 0 := by omega
    obtain ⟨b, o, s⟩ := a
    cases s with
    | none =>
      by_cases hb : isCells w b = true
      · exact ⟨some ⟨b, o, none⟩, 0, by simp [absV, hb], fun x => absurd x hc, .inr (.inl ⟨b, o, 0, rfl, by omega⟩)⟩
      · exact ⟨some ⟨0, 0, some 1⟩, 0, by simp [absV, hb], fun x => absurd x hc, .inr (.inr ⟨rfl, rfl⟩)⟩
    | some s => exact ⟨some ⟨0, 0, some 1⟩, 0, rfl, fun x => absurd x hc, .inr (.inr ⟨rfl, rfl⟩)⟩
section
variable {H : Type} {enc : TypeId × Value → H} {P : Program} {w : World}
theorem tris_in2 {t e : TypeId} {f0 f1 f2 : Field} {fuel : Nat} {held : Bool} {v : Value} {x : DataW H × List MemPlace} (ht : P.underlying t = some (.slice e)) (he : P.underlying e = some (.struct #[f0, f1, f2])) (hc : P.cellsOf e = 3)
    (o0 : f0.offset = 0) (o1 : f1.offset = 1) (o2 : f2.offset = 2) (c0 : P.cellsOf f0.type = 1) (c1 : P.cellsOf f1.type = 1) (c2 : P.cellsOf f2.type = 1) (u0 : P.underlying f0.type = some (.int .i64)) (u1 : P.underlying f1.type = some (.int .i64)) (u2 : P.underlying f2.type = some (.int .i64))
    (h : DataW.trod enc P w 0 (fun _ => true) held fuel t [v] = some x) : ∃ u l, absV w v = some u ∧ TriIn (embW w) u l ∧ l.length < 9223372036854775808 ∧ SlOk u l.length := by
  rcases Deep.open_slice ht h with ⟨h1, _⟩ | ⟨a, len, cap, m, n, D, Pl, h1, _, h2, h3, hm, _, h4⟩
  · cases h1
    exact ⟨.slice none 0 0, [], rfl, ⟨none, 0, rfl, fun i a hi => by simp at hi⟩, by simp, .inl ⟨rfl, rfl⟩⟩
  · cases h1
    simp only [if_true] at hm
    subst hm
    have each : ∀ i, i < m → ∃ z : Tri, w.cell? (a.add (i * 3)) = some (.int .i64 z.1) ∧ w.cell? (a.add (i * 3 + 1)) = some (.int .i64 z.2.1) ∧ w.cell? (a.add (i * 3 + 2)) = some (.int .i64 z.2.2) := by
      intro i hi
      obtain ⟨cs', g1, g2⟩ := h4 i hi
      rw [hc] at g1
      obtain ⟨_, hlen, hcell⟩ := World.cells?_some g1
      obtain ⟨y0, y1, y2, k, _, _, q0, q1, q2⟩ := Deep.trod_struct3 he g2
      match cs', hlen with
      | [x0, x1, x2], _ =>
        simp [o0, o1, o2, c0, c1, c2] at q0 q1 q2
        obtain ⟨z0, e0, _⟩ := DataW.trod_int u0 q0
        obtain ⟨z1, e1, _⟩ := DataW.trod_int u1 q1
        obtain ⟨z2, e2, _⟩ := DataW.trod_int u2 q2
        cases e0; cases e1; cases e2
        have k0 := hcell 0 (by omega)
        have k1 := hcell 1 (by omega)
        have k2 := hcell 2 (by omega)
        rw [Go.Deep.add_add] at k0 k1 k2
        exact ⟨(z0, z1, z2), by simpa using k0, by simpa using k1, by simpa using k2⟩
    obtain ⟨Z, hZ⟩ := Deep.choose_lt each
    obtain ⟨a', c', g4, g5, g6⟩ := absV_row2 (w := w) (a := a) (n := len) (c := m) (fun hc => ⟨_, by simpa [Addr.add] using (hZ 0 hc).1⟩) h2
    refine ⟨_, (List.range len).map Z, g4, ⟨a', c', by simp, fun i z hi => ?_⟩, by simp; unfold maxLen at h3; omega, by simpa using g6⟩
    have hi' : i < len := by
      have := (List.getElem?_eq_some_iff.1 hi).1
      simpa using this
    simp only [List.getElem?_map, List.getElem?_range hi', Option.map_some, Option.some.injEq] at hi
    subst hi
    obtain ⟨k0, k1, k2⟩ := hZ i (by omega)
    have e0 := emb_has k0 (u := .int .i64 (Z i).1) rfl
    have e1 := emb_has k1 (u := .int .i64 (Z i).2.1) rfl
    have e2 := emb_has k2 (u := .int .i64 (Z i).2.2) rfl
    rw [add_block, add_off] at e0 e1 e2
    refine ⟨a.block, a.off, g5 (by omega), ?_, ?_, ?_⟩
    · rw [Nat.mul_comm]; exact e0
    · rw [Nat.mul_comm, Nat.add_assoc]; exact e1
    · rw [Nat.mul_comm, Nat.add_assoc]; exact e2
theorem arr2_in {t e : TypeId} {base : Nat} {spare : Nat → Bool} {held : Bool} {r : Reach} {b0 : Nat} {v : Value} {d : DataW H} {p : List MemPlace} (ht : P.underlying t = some (.array 2 e)) (he : P.underlying e = some (.int .i64)) (hc : P.cellsOf e = 1) (hct : P.cellsOf t = 2)
    (hv : Value.okWide P w r b0 t v) (h : DataW.Trod enc P w base spare held t v d p) : ∃ a b : Int, v = .agg #[.int .i64 a, .int .i64 b] := by
  simp only [Value.okWide, ht] at hv
  obtain ⟨cs, rfl, hsz, _⟩ := hv
  obtain ⟨c0, c1, rfl⟩ := Joins.array2 (hsz.trans hct)
  obtain ⟨fuel, hf⟩ := h
  obtain ⟨xs, m, _, _, _, hl, hel⟩ := DataW.trod_array ht hf
  have h0 := hel 0 (by omega)
  have h1 := hel 1 (by omega)
  rw [List.getElem?_eq_getElem (by omega)] at h0 h1
  simp [hc, Value.cells] at h0 h1
  obtain ⟨z0, e0, _⟩ := DataW.trod_int he h0
  obtain ⟨z1, e1, _⟩ := DataW.trod_int he h1
  cases e0; cases e1
  exact ⟨z0, z1, rfl⟩
end
end Go.Proofs.YtkgfjfkgmpeobaaDoor
