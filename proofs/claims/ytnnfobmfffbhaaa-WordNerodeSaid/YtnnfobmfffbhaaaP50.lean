import Derived.Test.YtnnfobmfffbhaaaP48
import Derived.Test.YtnnfobmfffbhaaaEngAt
import Derived.Test.YtnnfobmfffbhaaaP46
set_option linter.unusedSimpArgs false
set_option linter.unusedVariables false
set_option linter.unusedSectionVars false
open Go Go.Eng
namespace Go.Proofs.Ytnnfobmfffbhaaa
attribute [local congr] undef_congr WpK.congr WpS.congr WpL.congr WpC.congr WpF.congr gotS.congr callS.congr nextS.congr wantS.congr condS.congr
attribute [local irreducible] WpK
attribute [local simp] WpDr_nil WpDr_cons atS_some dwantS_true dwantS_false kindS_light kindS_float kindS_heavy lightS_value floatS_some heavyS_value heavyS_skip heavyS_enter dcallS_some doneS_eq
  isLight isFloat isPlain dLook testBit_dec dChain dLights_nil dLights_skip dLights_one dLight_nil dLight_cons dFreshes_nil dFreshes_one oneF_none oneF_some dFresh_nil dFresh_cons oneL_some oneW_true oneW_false sameV_value dPut dMay valEq arrEq listEq List.getElem?_cons Tr.get_nil dEnd
attribute [local simp] WpS_nil WpS_cons isDefer undef_false wantS_true wantS_false nextS_value nextS_skip nextS_enter callS_some gotS_some aWanted aOp aEvalF aEval opMove opAssign opPick aVal flat flat1 AAct.put opBinOp opConvert opIndex Tr.get_set Tr.get_lay aBin aResults tupled
  aCall aVals aCallB blt_dec ble_dec beq_dec aBinI_add aBinI_sub aBinI_lss aBinI_leq aBinI_gtr aBinI_geq aBinI_eql aBinI_neq index_str len_str len_slice Nat.beq_refl und3 und37 und5 und9
  opBox opLoad opFieldAddr opIndexAddr acells aAddr field25 und22 und23 und43 und4 und28
attribute [local simp] field31 conv_3_5 conv_3_37 conv_37_3 conv_5_3
set_option maxHeartbeats 4000000
attribute [local simp] field57
theorem fnMLeast : T0.funcs.get 48 = some Try.f48 := by kernel_rfl
theorem fnJoined : T0.funcs.get 65 = some Try.f65 := by kernel_rfl
theorem load85h {W : AW} {b o : Nat} {x0 x1 x2 x3 : Value} (h0 : W.Has b (o + 0) x0) (h1 : W.Has b (o + 1) x1) (h2 : W.Has b (o + 2) x2) (h3 : W.Has b (o + 3) x3) : aLoadVar T0 W 77 b o = some (.agg ⟨[x0, x1, x2, x3]⟩) := by
  refine loadVar_agg und85 rfl inf85 (cellsAt_of_cells rfl ?_ (fun j hj => ?_) (by show 0 < 4; omega))
  · have := h0.2
    simp only [AW.cell] at this
    cases hb : W.blocks.get b with
    | none => rw [hb] at this; cases this
    | some k => exact ⟨k, rfl⟩
  · have hj5 : j < 4 := hj
    match j, hj5 with
    | 0, _ => exact h0.2
    | 1, _ => exact h1.2
    | 2, _ => exact h2.2
    | 3, _ => exact h3.2
theorem idx85a (a b c d : Int) : aIndex T0 77 (.agg ⟨[.int .i64 a, .int .i64 b, .int .i64 c, .int .i64 d]⟩) (.int .i64 0) = some (.int .i64 a) ∧ aIndex T0 77 (.agg ⟨[.int .i64 a, .int .i64 b, .int .i64 c, .int .i64 d]⟩) (.int .i64 1) = some (.int .i64 b) ∧
    aIndex T0 77 (.agg ⟨[.int .i64 a, .int .i64 b, .int .i64 c, .int .i64 d]⟩) (.int .i64 2) = some (.int .i64 c) ∧ aIndex T0 77 (.agg ⟨[.int .i64 a, .int .i64 b, .int .i64 c, .int .i64 d]⟩) (.int .i64 3) = some (.int .i64 d) := ⟨by kernel_rfl, by kernel_rfl, by kernel_rfl, by kernel_rfl⟩
theorem idx85 (r : Nat → Nat) (x : Nat) (hx : x < 4) : aIndex T0 77 (.agg ⟨[.int .i64 (r 0 : Nat), .int .i64 (r 1 : Nat), .int .i64 (r 2 : Nat), .int .i64 (r 3 : Nat)]⟩) (.int .i64 (x : Nat)) = some (.int .i64 (r x : Nat)) := by
  obtain ⟨h0, h1, h2, h3⟩ := idx85a (r 0 : Nat) (r 1 : Nat) (r 2 : Nat) (r 3 : Nat)
  match x, hx with
  | 0, _ => exact h0
  | 1, _ => exact h1
  | 2, _ => exact h2
  | 3, _ => exact h3
theorem indexAddr_5 (r o x : Nat) (hx : x < 5) : aIndexAddr T0 127 (.pointer (some ⟨r, o, none⟩)) (.int .i64 (x : Nat)) = some (.pointer (some ⟨r, o + x, none⟩)) := by
  show aIndexAddr T0 127 (.pointer (some ⟨r, o, none⟩)) (.int .i64 (Int.ofNat x)) = _
  simp only [aIndexAddr, und5s, sz3, blt_dec, hx, decide_true, Nat.mul_one]
theorem mk126 (W : AW) (n : Nat) (hn : n ≤ 100000) : aMakeSlice T0 W 126 (.int .i64 n) (.int .i64 n) = some (.slice (some ⟨W.next, 0, none⟩) n (2 * n), W.newCells 127 (rep [.int .i64 0, .int .i64 0, .int .i64 0, .int .i64 0, .int .i64 0] n)) := by
  show aMakeSlice T0 W 126 (.int .i64 (Int.ofNat n)) (.int .i64 (Int.ofNat n)) = _
  have b3 : Try.t127.bytes = 40 := by kernel_rfl
  have s3 : Try.t127.size = 5 := by kernel_rfl
  simp only [aMakeSlice, und5r, inf5a, t127z, b3, s3, ble_dec, acells, List.length_cons, List.length_nil, Nat.beq_refl]
  rw [decide_eq_true (Nat.le_refl n), decide_eq_true (by omega), decide_eq_true (by omega)]
theorem Moore.le {mx : Nat → Nat → Nat} {mg : Nat → Bool} {L N : Nat} {cl : Nat → Nat} {cnt : Nat} (h : Moore mx mg L N cl cnt) : cnt ≤ N := by
  have hpick : ∃ f : Nat → Nat, ∀ c, c < cnt → f c < N ∧ cl (f c) = c := by
    refine ⟨fun c => if hc : c < cnt then (h.sur c hc).choose else 0, fun c hc => ?_⟩
    simp only [dif_pos hc]
    exact ⟨(h.sur c hc).choose_spec.1, (h.sur c hc).choose_spec.2.1⟩
  obtain ⟨f, hf⟩ := hpick
  have hnd' : ((List.range cnt).map f).Nodup := by
    unfold List.Nodup
    rw [List.pairwise_map]
    refine List.Pairwise.imp_of_mem (fun {a b} ha hb hab e => ?_) List.nodup_range
    have ha := (hf a (List.mem_range.1 ha)).2
    have hb := (hf b (List.mem_range.1 hb)).2
    rw [e] at ha
    exact hab (ha.symm.trans hb)
  have := nodup_lt N _ hnd' (fun x hx => by
    obtain ⟨c, hc, rfl⟩ := List.mem_map.1 hx
    exact (hf c (List.mem_range.1 hc)).1)
  simpa using this
def ClAt (W : AW) (cb N : Nat) (cl : Nat → Nat) : Prop := ∀ q, q < N → W.Has cb q (.int .i64 (cl q : Nat))
theorem clAt_of {W : AW} {b N : Nat} {cc : Tr Value} {cl : Nat → Nat} (hb : b < W.next) (h : W.blocks.get b = some ⟨.cells cc N 3, []⟩) (hc : ∀ q, q < N → cc.get q = some (.int .i64 (cl q : Nat))) : ClAt W b N cl := fun q hq => ⟨hb, by
  simp only [AW.cell, h, blt_dec, hq, decide_true]; exact hc q hq⟩
/-- the fields of the keys of a round -/
def mFld (mx : Nat → Nat → Nat) (cl : Nat → Nat) (s x : Nat) : Nat := if x < 4 then cl (mx s x) else cl s
theorem mFld_key (mx : Nat → Nat → Nat) (cl : Nat → Nat) (i : Nat) : k5 (mFld mx cl i 0) (mFld mx cl i 1) (mFld mx cl i 2) (mFld mx cl i 3) (mFld mx cl i 4) = mKey mx cl i := rfl

/-- the least machine: what joined makes of the classes, once they stay -/
theorem mleast_wp (L N bs gs c1 c2 : Nat) (mx : Nat → Nat → Nat) (mg : Nat → Bool) (W : AW) (hM : MachAt W L N bs gs c1 c2 mx mg) (hmx : ∀ s x, s < N → x < 4 → mx s x < N) (hz : ∀ s x, s < N → x < 4 → L ≤ x → mx s x = 0) (hN : N ≤ 64) (J0 : Value → AW → Prop)
    (hjoin : ∀ (cl : Nat → Nat) (cnt cb : Nat) (W' : AW), Ext W W' → Moore mx mg L N cl cnt → (∀ i j, i < N → j < N → cl i = cl j → ∀ x, x < 4 → cl (mx i x) = cl (mx j x)) → ClAt W' cb N cl → WpF T0 65 [machV L N bs gs c1 c2, .slice (some ⟨cb, 0, none⟩) N (2 * N), .int .i64 cnt] W' (fun v W'' => Ext W' W'' ∧ (∃ a b c, v = .agg ⟨[a, b, c]⟩ ∧ oneCells [a, b, c] = true) ∧ ∀ W3, Only (fun b => b < W'.next) W'' W3 → J0 v W3)) :
    WpF T0 48 [machV L N bs gs c1 c2] W (fun v W' => Ext W W' ∧ ∃ u, v = .tuple ⟨[u, .int .i64 0]⟩ ∧ J0 u W') := by
  refine wpF fnMLeast rfl ?_
  refine wpK_reg (fun R hR => by simp [opAlloc, zero57]; exact hR) ?_
  obtain ⟨W1, hW1, hE1, hn1, hb, hld, ht2⟩ : ∃ W1, W1 = (W.newCells 69 [.int .i64 L, .slice (some ⟨bs, 0, none⟩) N c1, .slice (some ⟨gs, 0, none⟩) N c2]).newCells 69 [.int .i64 0, .slice none 0 0, .slice none 0 0] ∧ Ext W W1 ∧ W1.next = W.next + 2 ∧
      (∀ j u, [Value.int .i64 (L : Nat), .slice (some ⟨bs, 0, none⟩) N c1, .slice (some ⟨gs, 0, none⟩) N c2][j]? = some u → W1.Has W.next j u) ∧ (∀ W', Ext W1 W' → aLoadVar T0 W' 69 W.next 0 = some (machV L N bs gs c1 c2)) ∧
      W1.blocks.get (W.next + 1) = some ⟨.cells (Tr.nil.lay 0 [.int .i64 0, .slice none 0 0, .slice none 0 0]) 3 69, []⟩ := by
    have hA : ∀ j u, [Value.int .i64 (L : Nat), .slice (some ⟨bs, 0, none⟩) N c1, .slice (some ⟨gs, 0, none⟩) N c2][j]? = some u → ((W.newCells 69 [.int .i64 L, .slice (some ⟨bs, 0, none⟩) N c1, .slice (some ⟨gs, 0, none⟩) N c2]).newCells 69 [.int .i64 0, .slice none 0 0, .slice none 0 0]).Has W.next j u := fun j u h => (Has.newCells h).ext (.newCells _ _ _)
    refine ⟨_, rfl, (Only.newCells _ _ _).trans (Only.newCells _ _ _), rfl, hA, fun W' h => ?_, by rw [newCells_get, if_pos (by rw [newCells_next])]; rfl⟩
    refine load57 (cellsAt_of_cells rfl ⟨_, by rw [h.2 _ (by simp only [newCells_next]; omega) (fun x => x), newCells_get, if_neg (by simp only [newCells_next]; omega), newCells_get, if_pos rfl]⟩ (fun j hj => ?_) (by omega))
    rw [Nat.zero_add]
    match j, hj with
    | 0, _ => exact ((hA 0 _ rfl).ext h).2
    | 1, _ => exact ((hA 1 _ rfl).ext h).2
    | 2, _ => exact ((hA 2 _ rfl).ext h).2
  rw [← hW1]
  simp only [newCells_next]
  clear hW1
  -- the first classes
  try simp only [wpK_assoc]
  refine wpK_regc (J := fun A W' => A.n = 71 ∧ A.defers = [] ∧ A.tmps.get 1 = some (.pointer (some ⟨W.next, 0, none⟩)) ∧ A.tmps.get 2 = some (.pointer (some ⟨W.next + 1, 0, none⟩)) ∧ Only (fun b => W1.next ≤ b) W1 W' ∧
      ∃ cl cnt cb, A.tmps.get 4 = some (.slice (some ⟨cb, 0, none⟩) N (2 * N)) ∧ A.tmps.get 5 = some (.int .i64 (cnt : Nat)) ∧ Moore mx mg L N cl cnt ∧ ClAt W' cb N cl) (fun R hR => ?_) ?_
  · simp [load_ext und23 rfl (hb 2 _ rfl) (.refl _ _), aEnter, fnNumB, short_other, aCallV]
    rw [callS_none]
    refine (numB_wp gs N c2 mg W1 (fun i hi => (hM.good i hi).ext hE1) (by omega)).mono ?_
    rintro v W2 ⟨hE2, b, cc, rfl, hb1, hb2, hb3, hb4⟩
    simp [opExtract, aExtract]
    apply hR
    exact ⟨rfl, rfl, by simp, by simp [newCells_next], hE2.mono (fun _ _ x => x.elim), nCl N (fun i => .bool (mg i)), nCnt N (fun i => .bool (mg i)), b, by simp, by simp; rfl, moore_zero mx mg L N, clAt_of hb2 hb3 hb4⟩
  rintro ⟨t, m, ds⟩ W2 ⟨hm, hd, h1, h2, hO2, cl, cnt, cb, h4, h5, hMo, hcl⟩
  simp only at hm hd h1 h2 h4 h5
  subst hm; subst hd
  obtain ⟨WW, hWW⟩ : ∃ WW, WW = W := ⟨_, rfl⟩
  try simp only [wpK_assoc]
  refine wpK_while (I := fun k A W' => A.n = 71 ∧ A.defers = [] ∧ A.tmps.get 1 = some (.pointer (some ⟨W.next, 0, none⟩)) ∧ A.tmps.get 2 = some (.pointer (some ⟨W.next + 1, 0, none⟩)) ∧ Only (fun b => W1.next ≤ b) W1 W' ∧
        ∃ cl cnt cb, k = N - cnt ∧ A.tmps.get 4 = some (.slice (some ⟨cb, 0, none⟩) N (2 * N)) ∧ A.tmps.get 5 = some (.int .i64 (cnt : Nat)) ∧ Moore mx mg L N cl cnt ∧ ClAt W' cb N cl)
      (J := fun A W' => A.n = 71 ∧ A.defers = [] ∧ A.tmps.get 1 = some (.pointer (some ⟨W.next, 0, none⟩)) ∧ A.tmps.get 2 = some (.pointer (some ⟨W.next + 1, 0, none⟩)) ∧ Only (fun b => W1.next ≤ b) W1 W' ∧
        ∃ cl cnt cb, A.tmps.get 4 = some (.slice (some ⟨cb, 0, none⟩) N (2 * N)) ∧ A.tmps.get 5 = some (.int .i64 (cnt : Nat)) ∧ Moore mx mg L N cl cnt ∧ ClAt W' cb N cl ∧ ∀ i j, i < N → j < N → cl i = cl j → ∀ x, x < 4 → cl (mx i x) = cl (mx j x))
      (Rt := fun _ _ => False) (k := N - cnt) ?_ ?_ ?_ ?_
  · exact ⟨rfl, rfl, by simp [h1], by simp [h2], hO2, cl, cnt, cb, rfl, by simp [h4], by simp [h5], hMo, hcl⟩
  · clear h1 h2 h4 h5 hMo hcl hO2
    rintro k ⟨t, m, ds⟩ Wa ⟨hm, hd, h1, h2, hOa, cl, cnt, cb, hk, h4, h5, hMo, hcl⟩ Q' hJ hRt hI
    simp only at hm hd h1 h2 h4 h5
    subst hm; subst hd
    have hEa : Ext W Wa := ⟨Nat.le_trans hE1.1 hOa.1, fun b hb hx => by rw [hOa.2 b (by omega) (by omega)]; exact hE1.2 b hb hx⟩
    have hcN := hMo.le
    refine wpK_block1 ?_
    -- the keys
    obtain ⟨Wb, hWb, hEb, hnb, ck, hkb0⟩ : ∃ Wb, Wb = Wa.newCells 127 (rep [.int .i64 0, .int .i64 0, .int .i64 0, .int .i64 0, .int .i64 0] N) ∧ Ext Wa Wb ∧ Wb.next = Wa.next + 1 ∧ ∃ c, Wb.blocks.get Wa.next = some ⟨.cells c (N * 5) 127, []⟩ :=
      ⟨_, rfl, .newCells _ _ _, rfl, Tr.nil.lay 0 (rep [.int .i64 0, .int .i64 0, .int .i64 0, .int .i64 0, .int .i64 0] N), by rw [newCells_get, if_pos rfl, rep_length]; rfl⟩
    try simp only [wpK_assoc]
    refine wpK_reg (fun R hR => by simp [h4, len_slice und43, opMakeSlice, aValW, mk126 Wa N (by omega)]; exact hR) ?_
    rw [← hWb]
    clear hWb
    have hl1a := hOa.1
    have hb1 : ∀ W', Only (fun b => W1.next ≤ b) W1 W' → W'.Has W.next 1 (.slice (some ⟨bs, 0, none⟩) N c1) := fun W' h => (hb 1 _ rfl).only h (by omega)
    have hOb : Only (fun b => W1.next ≤ b) W1 Wb := hOa.trans (hEb.mono (fun _ _ x => x.elim))
    try simp only [wpK_assoc]
    refine wpK_reg (fun R hR => by simp [h1, load_ext und55 rfl (hb1 Wb hOb) (.refl _ _), len_slice und55]; exact hR) ?_
    try simp only [wpK_assoc]
    refine wpK_while (I := fun k A W' => A.n = 71 ∧ A.defers = [] ∧ A.tmps.get 1 = some (.pointer (some ⟨W.next, 0, none⟩)) ∧ A.tmps.get 2 = some (.pointer (some ⟨W.next + 1, 0, none⟩)) ∧ A.tmps.get 4 = some (.slice (some ⟨cb, 0, none⟩) N (2 * N)) ∧ A.tmps.get 5 = some (.int .i64 (cnt : Nat)) ∧ A.tmps.get 6 = some (.slice (some ⟨Wa.next, 0, none⟩) N (2 * N)) ∧
          A.tmps.get 23 = some (.slice (some ⟨bs, 0, none⟩) N c1) ∧ A.tmps.get 24 = some (.int .i64 N) ∧ Only (fun b => b = Wa.next) Wb W' ∧ ∃ s : Nat, k = N - s ∧ s ≤ N ∧ A.tmps.get 25 = some (.int .i64 s) ∧ ∃ c, W'.blocks.get Wa.next = some ⟨.cells c (N * 5) 127, []⟩ ∧ ∀ s' x, s' < s → x < 5 → c.get (s' * 5 + x) = some (.int .i64 (mFld mx cl s' x : Nat)))
        (J := fun A W' => A.n = 71 ∧ A.defers = [] ∧ A.tmps.get 1 = some (.pointer (some ⟨W.next, 0, none⟩)) ∧ A.tmps.get 2 = some (.pointer (some ⟨W.next + 1, 0, none⟩)) ∧ A.tmps.get 4 = some (.slice (some ⟨cb, 0, none⟩) N (2 * N)) ∧ A.tmps.get 5 = some (.int .i64 (cnt : Nat)) ∧ A.tmps.get 6 = some (.slice (some ⟨Wa.next, 0, none⟩) N (2 * N)) ∧
          Only (fun b => b = Wa.next) Wb W' ∧ ∃ c, W'.blocks.get Wa.next = some ⟨.cells c (N * 5) 127, []⟩ ∧ ∀ s' x, s' < N → x < 5 → c.get (s' * 5 + x) = some (.int .i64 (mFld mx cl s' x : Nat)))
        (Rt := fun _ _ => False) (k := N) ?_ ?_ ?_ ?_
    · exact ⟨rfl, rfl, by simp [h1], by simp [h2], by simp [h4], by simp [h5], by simp, by simp, by simp, .refl _ _, 0, by omega, by omega, by simp, ck, hkb0, fun s' x hs => by omega⟩
    · rintro k2 ⟨t, m, ds⟩ Wc ⟨hm, hd, h1, h2, h4, h5, h6, h23, h24, hOc, s, hk2, hs, h25, c, hblk, hcell⟩ Q2 hJ2 hRt2 hI2
      simp only at hm hd h1 h2 h4 h5 h6 h23 h24 h25
      subst hm; subst hd
      have hlc := hOc.1
      try simp only [wpK_assoc]
      refine wpK_reg (fun R hR => by simp [h24, h25]; exact hR) ?_
      by_cases hsN : s < N
      case neg =>
        have hse : s = N := by omega
        rw [hse] at hcell
        exact wpK_out (by simp [hsN]) (hJ2 _ _ ⟨rfl, rfl, by simp [h1], by simp [h2], by simp [h4], by simp [h5], by simp [h6], hOc, c, hblk, hcell⟩)
      refine wpK_onT (by simp [hsN]) ?_
      refine wpK_block ?_
      -- the row
      have hrow : ∀ x, x < 4 → Wc.Has bs (s * 4 + x) (.int .i64 (mx s x : Nat)) := fun x hx => (((hM.row s x hsN hx).ext hEa).ext hEb).only hOc (by have := (hM.row s x hsN hx).1; have := hEa.1; omega)
      have hlr : aLoadVar T0 Wc 77 bs (s * 4) = some (.agg ⟨[.int .i64 (mx s 0 : Nat), .int .i64 (mx s 1 : Nat), .int .i64 (mx s 2 : Nat), .int .i64 (mx s 3 : Nat)]⟩) := load85h (hrow 0 (by omega)) (hrow 1 (by omega)) (hrow 2 (by omega)) (hrow 3 (by omega))
      have har := indexAddr_slice (b := bs) (o := 0) (c := c1) (k := .i64) und55 sz85 hsN
      simp only [Nat.zero_add] at har
      obtain ⟨Wd, r1, r2, r3, r4⟩ := storeVar_own (T := T0) (t := 77) (W := Wc.newCells 77 [.int .i64 0, .int .i64 0, .int .i64 0, .int .i64 0]) (v := .agg ⟨[.int .i64 (mx s 0 : Nat), .int .i64 (mx s 1 : Nat), .int .i64 (mx s 2 : Nat), .int .i64 (mx s 3 : Nat)]⟩) (b := Wc.next) (o := 0) inf85 rfl (by rw [newCells_get, if_pos rfl]) (by show 0 + 4 ≤ 4; omega) rfl
      have hEd : Ext Wc Wd := ⟨by rw [r2, newCells_next]; omega, fun b hb _ => by rw [r3 b (by omega), newCells_get, if_neg (by omega)]⟩
      have hnd : Wd.next = Wc.next + 1 := r2
      have hl8 : aLoadVar T0 Wd 77 Wc.next 0 = some (.agg ⟨[.int .i64 (mx s 0 : Nat), .int .i64 (mx s 1 : Nat), .int .i64 (mx s 2 : Nat), .int .i64 (mx s 3 : Nat)]⟩) := load85 r4 (fun y hy => by
        rw [Tr.get_lay]
        match y, hy with
        | 0, _ => rfl
        | 1, _ => rfl
        | 2, _ => rfl
        | 3, _ => rfl) rfl
      try simp only [wpK_assoc]
      refine wpK_reg (fun R hR => by simp [h23, h25, har, hlr, opAlloc, zero85, opStore, r1]; exact hR) ?_
      try simp only [wpK_assoc]
      refine wpK_reg (fun R hR => by simp [hl8]; exact hR) ?_
      have hOd : Only (fun b => b = Wa.next) Wb Wd := hOc.trans (hEd.mono (fun _ _ x => x.elim))
      refine wpK_while (I := fun k A W' => A.n = 71 ∧ A.defers = [] ∧ A.tmps.get 1 = some (.pointer (some ⟨W.next, 0, none⟩)) ∧ A.tmps.get 2 = some (.pointer (some ⟨W.next + 1, 0, none⟩)) ∧ A.tmps.get 4 = some (.slice (some ⟨cb, 0, none⟩) N (2 * N)) ∧ A.tmps.get 5 = some (.int .i64 (cnt : Nat)) ∧ A.tmps.get 6 = some (.slice (some ⟨Wa.next, 0, none⟩) N (2 * N)) ∧
            A.tmps.get 7 = some (.int .i64 s) ∧ A.tmps.get 23 = some (.slice (some ⟨bs, 0, none⟩) N c1) ∧ A.tmps.get 24 = some (.int .i64 N) ∧ A.tmps.get 25 = some (.int .i64 s) ∧ A.tmps.get 30 = some (.agg ⟨[.int .i64 (mx s 0 : Nat), .int .i64 (mx s 1 : Nat), .int .i64 (mx s 2 : Nat), .int .i64 (mx s 3 : Nat)]⟩) ∧ Only (fun b => b = Wa.next) Wb W' ∧
            ∃ x : Nat, k = 4 - x ∧ x ≤ 4 ∧ A.tmps.get 31 = some (.int .i64 x) ∧ ∃ c, W'.blocks.get Wa.next = some ⟨.cells c (N * 5) 127, []⟩ ∧ (∀ s' x, s' < s → x < 5 → c.get (s' * 5 + x) = some (.int .i64 (mFld mx cl s' x : Nat))) ∧ ∀ x', x' < x → c.get (s * 5 + x') = some (.int .i64 (mFld mx cl s x' : Nat)))
          (J := fun A W' => A.n = 71 ∧ A.defers = [] ∧ A.tmps.get 1 = some (.pointer (some ⟨W.next, 0, none⟩)) ∧ A.tmps.get 2 = some (.pointer (some ⟨W.next + 1, 0, none⟩)) ∧ A.tmps.get 4 = some (.slice (some ⟨cb, 0, none⟩) N (2 * N)) ∧ A.tmps.get 5 = some (.int .i64 (cnt : Nat)) ∧ A.tmps.get 6 = some (.slice (some ⟨Wa.next, 0, none⟩) N (2 * N)) ∧
            A.tmps.get 7 = some (.int .i64 s) ∧ A.tmps.get 23 = some (.slice (some ⟨bs, 0, none⟩) N c1) ∧ A.tmps.get 24 = some (.int .i64 N) ∧ A.tmps.get 25 = some (.int .i64 s) ∧ Only (fun b => b = Wa.next) Wb W' ∧
            ∃ c, W'.blocks.get Wa.next = some ⟨.cells c (N * 5) 127, []⟩ ∧ (∀ s' x, s' < s → x < 5 → c.get (s' * 5 + x) = some (.int .i64 (mFld mx cl s' x : Nat))) ∧ ∀ x', x' < 4 → c.get (s * 5 + x') = some (.int .i64 (mFld mx cl s x' : Nat)))
          (Rt := fun _ _ => False) (k := 4) ?_ ?_ ?_ ?_
      · exact ⟨rfl, rfl, by simp [h1], by simp [h2], by simp [h4], by simp [h5], by simp [h6], by simp, by simp [h23], by simp [h24], by simp [h25], by simp, hOd, 0, by omega, by omega, by simp, c, by rw [hEd.2 _ (by omega) (fun x => x)]; exact hblk, hcell, fun x' hx => by omega⟩
      · rintro k3 ⟨t, m, ds⟩ We ⟨hm, hd, h1, h2, h4, h5, h6, h7, h23, h24, h25, h30, hOe, x, hk3, hx, h31, ce, hblke, hce1, hce2⟩ Q3 hJ3 hRt3 hI3
        simp only at hm hd h1 h2 h4 h5 h6 h7 h23 h24 h25 h30 h31
        subst hm; subst hd
        try simp only [wpK_assoc]
        by_cases hx4 : x < 4
        case neg =>
          have hxe : x = 4 := by omega
          rw [hxe] at hce2
          have hx3 : ¬ ((x : Int) < 4) := by omega
          refine wpK_reg (fun R hR => by simp [h31, hx3]; exact hR) ?_
          exact wpK_out (by simp) (hJ3 _ _ ⟨rfl, rfl, by simp [h1], by simp [h2], by simp [h4], by simp [h5], by simp [h6], by simp [h7], by simp [h23], by simp [h24], by simp [h25], hOe, ce, hblke, hce1, hce2⟩)
        have hx3 : (x : Int) < 4 := by omega
        refine wpK_reg (fun R hR => by simp [h31, hx3]; exact hR) ?_
        refine wpK_onT (by simp) ?_
        refine wpK_block ?_
        try simp only [wpK_assoc]
        refine wpK_reg (fun R hR => by simp [h30, h31, idx85 (mx s) x hx4]; exact hR) ?_
        have hmxs := hmx s x hsN hx4
        have hclx := ((hcl _ hmxs).ext hEb).only hOe (by have := (hcl _ hmxs).1; omega)
        have hac := indexAddr_slice (b := cb) (o := 0) (c := 2 * N) (k := .i64) und43 sz3 hmxs
        have hak := indexAddr_slice (b := Wa.next) (o := 0) (c := 2 * N) (k := .i64) und5r sz5a hsN
        have hak2 := indexAddr_5 Wa.next (s * 5) x (by omega)
        simp only [Nat.zero_add, Nat.mul_one] at hac hak
        have hlke : Wa.next < We.next := by have := hOe.1; omega
        obtain ⟨Wf, s1, s2, s3, s4⟩ := storeVar_own (T := T0) (t := 3) (W := We) (v := .int .i64 (cl (mx s x) : Nat)) (b := Wa.next) (o := s * 5 + x) inf3 rfl hblke (by show s * 5 + x + 1 ≤ N * 5; omega) rfl
        refine wpK_dr1 (wr := Tr.nil |>.set 35 0 |>.set 36 1 |>.set 37 2 |>.set 38 3 |>.set 39 4 |>.set 40 5 |>.set 41 6 |>.set 42 7 |>.set 43 8) (bits := Tr.nil.lay 0 [0, 0, 0, 0, 0, 24, 56, 3, 255, 511]) (ord := [0, 1, 2, 3, 4, 5, 6, 7, 8, 9])
          (J := fun A W => A.n = 71 ∧ A.defers = [] ∧ A.tmps.get 1 = some (.pointer (some ⟨WW.next, 0, none⟩)) ∧ A.tmps.get 2 = some (.pointer (some ⟨WW.next + 1, 0, none⟩)) ∧ A.tmps.get 4 = some (.slice (some ⟨cb, 0, none⟩) N (2 * N)) ∧ A.tmps.get 5 = some (.int .i64 (cnt : Nat)) ∧ A.tmps.get 6 = some (.slice (some ⟨Wa.next, 0, none⟩) N (2 * N)) ∧
            A.tmps.get 7 = some (.int .i64 s) ∧ A.tmps.get 23 = some (.slice (some ⟨bs, 0, none⟩) N c1) ∧ A.tmps.get 24 = some (.int .i64 N) ∧ A.tmps.get 25 = some (.int .i64 s) ∧ A.tmps.get 30 = some (.agg ⟨[.int .i64 (mx s 0 : Nat), .int .i64 (mx s 1 : Nat), .int .i64 (mx s 2 : Nat), .int .i64 (mx s 3 : Nat)]⟩) ∧ A.tmps.get 31 = some (.int .i64 x) ∧ W = Wf)
          (by kernel_rfl) (by kernel_rfl) (by kernel_rfl) (fun G hG => ?_) ?_
        · simp [h4, h6, h7, hac, hak, hak2, load_ext und3 rfl hclx (.refl _ _), opStore, s1, s2, valEq_slice]
          apply hG
          exact ⟨rfl, rfl, by simp [h1, hWW], by simp [h2, hWW], by simp [h4], by simp [h5], by simp [h6], by simp [h7], by simp [h23], by simp [h24], by simp [h25], by simp [h30], by simp [h31], rfl⟩
        rintro ⟨t, m, ds⟩ Wg ⟨hm, hd, h1, h2, h4, h5, h6, h7, h23, h24, h25, h30, h31, rfl⟩
        rw [hWW] at h1 h2
        simp only at hm hd h1 h2 h4 h5 h6 h7 h23 h24 h25 h30 h31
        subst hm; subst hd
        have hwx := i64_succ x (by omega)
        refine wpK_reg1 (fun R hR => by simp [h31, hwx]; exact hR) ?_
        refine hI3 (4 - (x + 1)) _ _ (by omega) ⟨rfl, rfl, by simp [h1], by simp [h2], by simp [h4], by simp [h5], by simp [h6], by simp [h7], by simp [h23], by simp [h24], by simp [h25], by simp [h30], hOe.trans ⟨by omega, fun b _ hb => s3 b hb⟩, x + 1, rfl, by omega, by simp, ce.set (s * 5 + x) (.int .i64 (cl (mx s x) : Nat)), s4, fun s' x' hs' hx' => ?_, fun x' hx' => ?_⟩
        · rw [Tr.get_set, if_neg (by omega)]; exact hce1 s' x' hs' hx'
        · rw [Tr.get_set]
          by_cases e : x' = x
          · rw [if_pos (by omega), e]
            unfold mFld; rw [if_pos hx4]
          · rw [if_neg (by omega)]; exact hce2 x' (by omega)
      · rintro A' W' hf; exact hf.elim
      · rintro ⟨t, m, ds⟩ We ⟨hm, hd, h1, h2, h4, h5, h6, h7, h23, h24, h25, hOe, ce, hblke, hce1, hce2⟩
        simp only at hm hd h1 h2 h4 h5 h6 h7 h23 h24 h25
        subst hm; subst hd
        have hclx := ((hcl _ hsN).ext hEb).only hOe (by have := (hcl _ hsN).1; omega)
        have hac := indexAddr_slice (b := cb) (o := 0) (c := 2 * N) (k := .i64) und43 sz3 hsN
        have hak := indexAddr_slice (b := Wa.next) (o := 0) (c := 2 * N) (k := .i64) und5r sz5a hsN
        have hak2 : aIndexAddr T0 127 (.pointer (some ⟨Wa.next, s * 5, none⟩)) (.int .i64 4) = some (.pointer (some ⟨Wa.next, s * 5 + 4, none⟩)) := indexAddr_5 Wa.next (s * 5) 4 (by omega)
        simp only [Nat.zero_add, Nat.mul_one] at hac hak
        have hlke : Wa.next < We.next := by have := hOe.1; omega
        obtain ⟨Wf, s1, s2, s3, s4⟩ := storeVar_own (T := T0) (t := 3) (W := We) (v := .int .i64 (cl s : Nat)) (b := Wa.next) (o := s * 5 + 4) inf3 rfl hblke (by show s * 5 + 4 + 1 ≤ N * 5; omega) rfl
        refine wpK_dr1 (wr := Tr.nil |>.set 45 0 |>.set 46 1 |>.set 47 2 |>.set 48 3 |>.set 49 4 |>.set 50 5 |>.set 51 6 |>.set 52 7) (bits := Tr.nil.lay 0 [0, 0, 0, 0, 12, 28, 3, 127, 255]) (ord := [0, 1, 2, 3, 4, 5, 6, 7, 8])
          (J := fun A W => A.n = 71 ∧ A.defers = [] ∧ A.tmps.get 1 = some (.pointer (some ⟨WW.next, 0, none⟩)) ∧ A.tmps.get 2 = some (.pointer (some ⟨WW.next + 1, 0, none⟩)) ∧ A.tmps.get 4 = some (.slice (some ⟨cb, 0, none⟩) N (2 * N)) ∧ A.tmps.get 5 = some (.int .i64 (cnt : Nat)) ∧ A.tmps.get 6 = some (.slice (some ⟨Wa.next, 0, none⟩) N (2 * N)) ∧
            A.tmps.get 23 = some (.slice (some ⟨bs, 0, none⟩) N c1) ∧ A.tmps.get 24 = some (.int .i64 N) ∧ A.tmps.get 25 = some (.int .i64 s) ∧ W = Wf)
          (by kernel_rfl) (by kernel_rfl) (by kernel_rfl) (fun G hG => ?_) ?_
        · simp [h4, h6, h7, hac, hak, hak2, load_ext und3 rfl hclx (.refl _ _), opStore, s1, s2, valEq_slice]
          apply hG
          exact ⟨rfl, rfl, by simp [h1, hWW], by simp [h2, hWW], by simp [h4], by simp [h5], by simp [h6], by simp [h23], by simp [h24], by simp [h25], rfl⟩
        rintro ⟨t, m, ds⟩ Wg ⟨hm, hd, h1, h2, h4, h5, h6, h23, h24, h25, rfl⟩
        rw [hWW] at h1 h2
        simp only at hm hd h1 h2 h4 h5 h6 h23 h24 h25
        subst hm; subst hd
        have hws := i64_succ s (by omega)
        refine wpK_reg1 (fun R hR => by simp [h25, hws]; exact hR) ?_
        refine hI2 (N - (s + 1)) _ _ (by omega) ⟨rfl, rfl, by simp [h1], by simp [h2], by simp [h4], by simp [h5], by simp [h6], by simp [h23], by simp [h24], hOe.trans ⟨by omega, fun b _ hb => s3 b hb⟩, s + 1, rfl, by omega, by simp, ce.set (s * 5 + 4) (.int .i64 (cl s : Nat)), s4, fun s' x' hs' hx' => ?_⟩
        rw [Tr.get_set]
        by_cases e : s' * 5 + x' = s * 5 + 4
        · have e1 : s' = s := by omega
          have e2 : x' = 4 := by omega
          rw [if_pos e, e1, e2]; rfl
        · rw [if_neg e]
          by_cases e1 : s' = s
          · rw [e1]; exact hce2 x' (by omega)
          · exact hce1 s' x' (by omega) hx'
    · rintro A' W' hf; exact hf.elim
    · rintro ⟨t, m, ds⟩ Wc ⟨hm, hd, h1, h2, h4, h5, h6, hOc, c, hblk, hcell⟩
      simp only at hm hd h1 h2 h4 h5 h6
      subst hm; subst hd
      have hlc := hOc.1
      have hkeys : ∀ i x, i < N → x < 5 → Wc.Has Wa.next (i * 5 + x) (.int .i64 (mFld mx cl i x : Nat)) := fun i x hi hx => ⟨by omega, by
        simp only [AW.cell, hblk, blt_dec]
        rw [decide_eq_true (by omega)]
        exact hcell i x hi hx⟩
      obtain ⟨hMo', hle, hleN, hstab⟩ := moore_step hMo hmx hz
      have hOc1 : Only (fun b => W1.next ≤ b) W1 Wc := hOb.trans (hOc.mono (fun b _ hb => by omega))
      try simp only [wpK_assoc]
      refine wpK_regc (J := fun A Wd => A.n = 71 ∧ A.defers = [] ∧ A.tmps.get 1 = some (.pointer (some ⟨W.next, 0, none⟩)) ∧ A.tmps.get 2 = some (.pointer (some ⟨W.next + 1, 0, none⟩)) ∧ A.tmps.get 4 = some (.slice (some ⟨cb, 0, none⟩) N (2 * N)) ∧ A.tmps.get 5 = some (.int .i64 (cnt : Nat)) ∧ Ext Wc Wd ∧
          ∃ b, A.tmps.get 11 = some (.slice (some ⟨b, 0, none⟩) N (2 * N)) ∧ A.tmps.get 12 = some (.int .i64 (nCnt N (mKey mx cl) : Nat)) ∧ ClAt Wd b N (nCl N (mKey mx cl))) (fun R hR => ?_) ?_
      · simp [h6, aEnter, fnNum5, short_other, aCallV]
        rw [callS_none]
        refine (num5_wp Wa.next N (2 * N) (mFld mx cl) Wc hkeys (by omega)).mono ?_
        rintro v Wd ⟨hEd, b, cc, rfl, hb1', hb2', hb3', hb4'⟩
        simp [opExtract, aExtract]
        apply hR
        exact ⟨rfl, rfl, by simp [h1], by simp [h2], by simp [h4], by simp [h5], hEd, b, by simp, by simp; rfl, clAt_of hb2' hb3' hb4'⟩
      rintro ⟨t, m, ds⟩ Wd ⟨hm, hd, h1, h2, h4, h5, hEd, b, h11, h12, hclb⟩
      simp only at hm hd h1 h2 h4 h5 h11 h12
      subst hm; subst hd
      have hOd1 : Only (fun b => W1.next ≤ b) W1 Wd := hOc1.trans (hEd.mono (fun _ _ x => x.elim))
      try simp only [wpK_assoc]
      refine wpK_reg (fun R hR => by simp [h5, h12]; exact hR) ?_
      by_cases heq : nCnt N (mKey mx cl) = cnt
      · refine wpK_outT (by simp [heq]) ?_
        refine hJ _ _ ⟨rfl, rfl, by simp [h1], by simp [h2], hOd1, cl, cnt, cb, by simp [h4], by simp [h5], hMo, fun q hq => ?_, hstab heq⟩
        exact (((hcl q hq).ext hEb).only hOc (by have := (hcl q hq).1; omega)).ext hEd
      · refine wpK_onF (by simp; omega) ?_
        try simp only [wpK_assoc]
        refine wpK_reg (fun R hR => by simp [h11, h12]; exact hR) ?_
        have h64 : ¬ (64 < (nCnt N (mKey mx cl) : Int)) := by omega
        refine wpK_reg (fun R hR => by simp; exact hR) ?_
        refine wpK_endF (by simp; omega) (wpK_skip ?_)
        exact hI (N - nCnt N (mKey mx cl)) _ _ (by omega) ⟨rfl, rfl, by simp [h1], by simp [h2], hOd1, _, _, b, rfl, by simp, by simp, hMo', hclb⟩
  · rintro A' W' hf; exact hf.elim
  · clear h1 h2 h4 h5 hMo hcl hO2
    rintro ⟨t, m, ds⟩ Wa ⟨hm, hd, h1, h2, hOa, cl, cnt, cb, h4, h5, hMo, hcl, hst⟩
    simp only at hm hd h1 h2 h4 h5
    subst hm; subst hd
    have hEa : Ext W Wa := ⟨Nat.le_trans hE1.1 hOa.1, fun b hb hx => by rw [hOa.2 b (by omega) (by omega)]; exact hE1.2 b hb hx⟩
    have ht2a : Wa.blocks.get (W.next + 1) = some ⟨.cells (Tr.nil.lay 0 [.int .i64 0, .slice none 0 0, .slice none 0 0]) 3 69, []⟩ := by rw [hOa.2 _ (by omega) (by omega)]; exact ht2
    have hlda : aLoadVar T0 Wa 69 W.next 0 = some (machV L N bs gs c1 c2) := by
      refine load57 (cellsAt_of_cells rfl ?_ (fun j hj => ?_) (by omega))
      · have := ((hb 0 _ rfl).only hOa (show ¬ W1.next ≤ W.next from by omega)).2
        simp only [AW.cell] at this
        cases hbb : Wa.blocks.get W.next with
        | none => rw [hbb] at this; cases this
        | some k => exact ⟨k, rfl⟩
      · rw [Nat.zero_add]
        match j, hj with
        | 0, _ => exact ((hb 0 _ rfl).only hOa (show ¬ W1.next ≤ W.next from by omega)).2
        | 1, _ => exact ((hb 1 _ rfl).only hOa (show ¬ W1.next ≤ W.next from by omega)).2
        | 2, _ => exact ((hb 2 _ rfl).only hOa (show ¬ W1.next ≤ W.next from by omega)).2
    try simp only [wpK_assoc]
    refine wpK_regc (J := fun A W' => A.defers = [] ∧ A.tmps.get 2 = some (.pointer (some ⟨W.next + 1, 0, none⟩)) ∧ A.tmps.get 3 = some (.int .i64 0) ∧ Ext W W' ∧ ∃ u, aLoadVar T0 W' 69 (W.next + 1) 0 = some u ∧ J0 u W') (fun R hR => ?_) ?_
    · simp [h1, h4, h5, hlda, aEnter, fnJoined, short_other, aCallV]
      rw [callS_none]
      refine (hjoin cl cnt cb Wa hEa hMo hst hcl).mono ?_
      rintro v Wb ⟨hEb, ⟨xa, xb, xc, rfl, hone⟩, hJv⟩
      have hla := hOa.1
      obtain ⟨Wc, s1, s2, s3, s4⟩ := storeVar_own (T := T0) (t := 69) (W := Wb) (v := .agg ⟨[xa, xb, xc]⟩) (b := W.next + 1) (o := 0) inf57 rfl (by rw [hEb.2 _ (by omega) (fun x => x)]; exact ht2a) (by show 0 + 3 ≤ 3; omega) hone
      simp [h2, opStore, s1]
      apply hR
      refine ⟨rfl, by simp [h2], by simp, ⟨by have := hEb.1; have := hEa.1; omega, fun b hb hx => by rw [s3 b (by omega), hEb.2 b (by have := hEa.1; omega) (fun x => x)]; exact hEa.2 b hb hx⟩, .agg ⟨[xa, xb, xc]⟩, load57 (cells3 s4 (by rw [Tr.get_lay]; rfl) (by rw [Tr.get_lay]; rfl) (by rw [Tr.get_lay]; rfl)), ?_⟩
      exact hJv Wc ⟨by omega, fun b _ hb => s3 b (fun e => hb (by rw [e]; omega))⟩
    rintro ⟨t, m, ds⟩ W' ⟨hd, h2, h3, hE, u, hu, hJu⟩
    simp only at hd h2 h3
    subst hd
    refine wpK_ret ⟨.inr rfl, rfl, [u, .int .i64 0], ?_, hE, u, rfl, hJu⟩
    show aResults T0 _ _ [.cell 2 69, .tmp 3] = _
    simp [h2, h3, hu]
end Go.Proofs.Ytnnfobmfffbhaaa

open Go Go.Eng
namespace Go.Proofs.Ytnnfobmfffbhaaa
attribute [local congr] undef_congr WpK.congr WpS.congr WpL.congr WpC.congr WpF.congr gotS.congr callS.congr nextS.congr wantS.congr condS.congr
attribute [local irreducible] WpK
attribute [local simp] WpDr_nil WpDr_cons atS_some dwantS_true dwantS_false kindS_light kindS_float kindS_heavy lightS_value floatS_some heavyS_value heavyS_skip heavyS_enter dcallS_some doneS_eq
  isLight isFloat isPlain dLook testBit_dec dChain dLights_nil dLights_skip dLights_one dLight_nil dLight_cons dFreshes_nil dFreshes_one oneF_none oneF_some dFresh_nil dFresh_cons oneL_some oneW_true oneW_false sameV_value dPut dMay valEq arrEq listEq List.getElem?_cons Tr.get_nil dEnd
attribute [local simp] WpS_nil WpS_cons isDefer undef_false wantS_true wantS_false nextS_value nextS_skip nextS_enter callS_some gotS_some aWanted aOp aEvalF aEval opMove opAssign opPick aVal flat flat1 AAct.put opBinOp opConvert opIndex Tr.get_set Tr.get_lay aBin aResults tupled
  aCall aVals aCallB blt_dec ble_dec beq_dec aBinI_add aBinI_sub aBinI_lss aBinI_leq aBinI_gtr aBinI_geq aBinI_eql aBinI_neq index_str len_str len_slice Nat.beq_refl und3 und37 und5 und9
  opBox opLoad opFieldAddr opIndexAddr acells aAddr field25 und22 und23 und43 und4 und28
attribute [local simp] field31 conv_3_5 conv_3_37 conv_37_3 conv_5_3
set_option maxHeartbeats 4000000
attribute [local simp] field57
theorem b85 : Try.t77.bytes = 32 := by kernel_rfl
theorem b4t : Try.t4.bytes = 1 := by kernel_rfl
theorem mk67f (n : Nat) (hn : n ≤ 100000) (ρ : Operand → Option Value) (l c : Operand) (hl : ρ l = some (.int .i64 (n : Nat))) (hc : ρ c = some (.int .i64 (n : Nat))) : aFlt T0 ρ (.makeSlice 67 l c) = some ⟨77, rep [.int .i64 0, .int .i64 0, .int .i64 0, .int .i64 0] n, false, n, n⟩ := by
  have hl' : ρ l = some (.int .i64 (Int.ofNat n)) := hl
  have hc' : ρ c = some (.int .i64 (Int.ofNat n)) := hc
  simp only [aFlt, hl', hc', und55, inf85, t85z, t85s, b85, ble_dec, acells, List.length_cons, List.length_nil, Nat.beq_refl]
  rw [decide_eq_true (Nat.le_refl n), decide_eq_true (by omega), decide_eq_true (by omega)]
theorem mk23f (n : Nat) (hn : n ≤ 100000) (ρ : Operand → Option Value) (l c : Operand) (hl : ρ l = some (.int .i64 (n : Nat))) (hc : ρ c = some (.int .i64 (n : Nat))) : aFlt T0 ρ (.makeSlice 23 l c) = some ⟨4, rep [.bool false] n, false, n, n⟩ := by
  have hl' : ρ l = some (.int .i64 (Int.ofNat n)) := hl
  have hc' : ρ c = some (.int .i64 (Int.ofNat n)) := hc
  simp only [aFlt, hl', hc', und23, inf4, t4z, t4s, b4t, ble_dec, acells, List.length_cons, List.length_nil, Nat.beq_refl]
  rw [decide_eq_true (Nat.le_refl n), decide_eq_true (by omega), decide_eq_true (by omega)]
theorem listEq_app : ∀ {a b : List Value}, listEq a a = true → listEq b b = true → listEq (a ++ b) (a ++ b) = true
  | [], _, _, h => h
  | x :: a, b, h, h' => by
    simp only [listEq, Bool.and_eq_true] at h
    exact listEq_cons h.1 (listEq_app h.2 h')
theorem listEq_rep {zl : List Value} (h : listEq zl zl = true) : ∀ n, listEq (rep zl n) (rep zl n) = true
  | 0 => rfl
  | n + 1 => by
    simp only [rep]
    exact listEq_app h (listEq_rep h n)
theorem al57 (ρ : Operand → Option Value) : aFlt T0 ρ (.alloc 69) = some ⟨69, [.int .i64 0, .slice none 0 0, .slice none 0 0], true, 0, 0⟩ := by kernel_rfl
theorem bld57 (L : Int) (a a' : Addr) (n c n' c' : Nat) : aBuild T0 69 [(0, .int .i64 L), (1, .slice (some a) n c), (2, .slice (some a') n' c')] = some (.agg ⟨[.int .i64 L, .slice (some a) n c, .slice (some a') n' c']⟩) := by kernel_rfl
/-- the machine of the classes -/
theorem joined_wp (L N bs gs c1 c2 cb cc cnt : Nat) (mx : Nat → Nat → Nat) (mg : Nat → Bool) (cl : Nat → Nat) (W : AW) (hM : MachAt W L N bs gs c1 c2 mx mg) (hmx : ∀ s x, s < N → x < 4 → mx s x < N) (hN : N ≤ 64) (hMo : Moore mx mg L N cl cnt)
    (hst : ∀ i j, i < N → j < N → cl i = cl j → ∀ x, x < 4 → cl (mx i x) = cl (mx j x)) (hcl : ClAt W cb N cl) :
    WpF T0 65 [machV L N bs gs c1 c2, .slice (some ⟨cb, 0, none⟩) N cc, .int .i64 cnt] W (fun v W' => Ext W W' ∧ ∃ bs' gs', v = machV L cnt bs' gs' (2 * cnt) (2 * cnt) ∧ W.next ≤ bs' ∧ W.next ≤ gs' ∧
      (∀ s x, s < N → x < 4 → W'.Has bs' (cl s * 4 + x) (.int .i64 (cl (mx s x) : Nat))) ∧ ∀ s, s < N → W'.Has gs' (cl s) (.bool (mg s))) := by
  refine wpF fnJoined rfl ?_
  refine wpK_reg (fun R hR => by simp [opAlloc, zero57]; exact hR) ?_
  have hcN := hMo.le
  obtain ⟨W1, hW1, hE1, hn1, hb, ht6⟩ : ∃ W1, W1 = (W.newCells 69 [.int .i64 L, .slice (some ⟨bs, 0, none⟩) N c1, .slice (some ⟨gs, 0, none⟩) N c2]).newCells 69 [.int .i64 0, .slice none 0 0, .slice none 0 0] ∧ Ext W W1 ∧ W1.next = W.next + 2 ∧
      (∀ j u, [Value.int .i64 (L : Nat), .slice (some ⟨bs, 0, none⟩) N c1, .slice (some ⟨gs, 0, none⟩) N c2][j]? = some u → W1.Has W.next j u) ∧
      W1.blocks.get (W.next + 1) = some ⟨.cells (Tr.nil.lay 0 [.int .i64 0, .slice none 0 0, .slice none 0 0]) 3 69, []⟩ := by
    refine ⟨_, rfl, (Only.newCells _ _ _).trans (Only.newCells _ _ _), rfl, fun j u h => (Has.newCells h).ext (.newCells _ _ _), by rw [newCells_get, if_pos (by rw [newCells_next])]; rfl⟩
  rw [← hW1]
  simp only [newCells_next]
  clear hW1
  obtain ⟨W2, hW2, hE2, hn2, ⟨k1, hg1⟩, ⟨k2, hg2⟩, hg3, hf1, hf2, hf3⟩ : ∃ W2, W2 = ((W1.newCells 77 (rep [.int .i64 0, .int .i64 0, .int .i64 0, .int .i64 0] cnt)).newCells 4 (rep [.bool false] cnt)).newCells 69 [.int .i64 0, .slice none 0 0, .slice none 0 0] ∧ Ext W1 W2 ∧ W2.next = W1.next + 3 ∧
      (∃ c, W2.blocks.get W1.next = some ⟨.cells c (cnt * 4) 77, []⟩) ∧ (∃ c, W2.blocks.get (W1.next + 1) = some ⟨.cells c cnt 4, []⟩) ∧ W2.blocks.get (W1.next + 2) = some ⟨.cells (Tr.nil.lay 0 [.int .i64 0, .slice none 0 0, .slice none 0 0]) 3 69, []⟩ ∧
      freshB W2 W1.next 77 (rep [.int .i64 0, .int .i64 0, .int .i64 0, .int .i64 0] cnt) = true ∧ freshB W2 (W1.next + 1) 4 (rep [.bool false] cnt) = true ∧ freshB W2 (W1.next + 1 + 1) 69 [.int .i64 0, .slice none 0 0, .slice none 0 0] = true := by
    refine ⟨_, rfl, ((Only.newCells _ _ _).trans (Only.newCells _ _ _)).trans (Only.newCells _ _ _), rfl, ⟨Tr.nil.lay 0 (rep [.int .i64 0, .int .i64 0, .int .i64 0, .int .i64 0] cnt), ?_⟩, ⟨Tr.nil.lay 0 (rep [.bool false] cnt), ?_⟩, ?_, ?_, ?_, ?_⟩
    · rw [newCells_get, if_neg (by simp only [newCells_next]; omega), newCells_get, if_neg (by simp only [newCells_next]; omega), newCells_get, if_pos rfl, rep_length]; rfl
    · rw [newCells_get, if_neg (by simp only [newCells_next]; omega), newCells_get, if_pos (by simp only [newCells_next]), rep_length]; simp
    · rw [newCells_get, if_pos (by simp only [newCells_next])]; rfl
    · exact freshB_ext ((Only.newCells _ _ _).trans (Only.newCells _ _ _)) (listEq_rep (by kernel_rfl) cnt)
    · exact freshB_ext (Only.newCells _ _ _) (listEq_rep (by kernel_rfl) cnt)
    · exact freshB_new _ _ _ (by kernel_rfl)
  have hlL : ∀ W', Ext W1 W' → aLoadVar T0 W' 3 W.next 0 = some (.int .i64 L) := fun W' h => load_ext und3 rfl (hb 0 _ rfl) h
  obtain ⟨W3, s1, s2, s3, s4⟩ := storeVar_own (T := T0) (t := 69) (W := W2) (v := machV L cnt W1.next (W1.next + 1) (2 * cnt) (2 * cnt)) (b := W1.next + 2) (o := 0) inf57 rfl hg3 (by show 0 + 3 ≤ 3; omega) rfl
  have hm1 := mk67f cnt (by omega)
  have hm2 := mk23f cnt (by omega)
  have hZ : listEq [Value.int .i64 0, .slice none 0 0, .slice none 0 0] [Value.int .i64 0, .slice none 0 0, .slice none 0 0] = true := by kernel_rfl
  try simp only [wpK_assoc]
  refine wpK_dr (wr := Tr.nil |>.set 12 0 |>.set 13 1 |>.set 14 2 |>.set 15 3 |>.set 16 4 |>.set 17 5 |>.set 18 6 |>.set 7 7) (bits := Tr.nil.lay 0 [0, 1, 0, 4, 0, 16, 63, 0, 255]) (ord := [0, 1, 2, 3, 4, 5, 6, 7, 8])
    (J := fun A W' => A.n = 57 ∧ A.defers = [] ∧ A.tmps.get 1 = some (.slice (some ⟨cb, 0, none⟩) N cc) ∧ A.tmps.get 3 = some (.pointer (some ⟨W.next, 0, none⟩)) ∧ A.tmps.get 6 = some (.pointer (some ⟨W.next + 1, 0, none⟩)) ∧ A.tmps.get 7 = some (.pointer (some ⟨W1.next + 2, 0, none⟩)) ∧ W' = W3)
    (by kernel_rfl) (by kernel_rfl) (by kernel_rfl) (fun G hG => ?_) ?_
  · simp [hlL W1 (.refl _ _), hm1, hm2, AFlt.val, al57, newCells_next, opBuild, aParts, bld57]
    rw [← hW2]
    simp [opStore, s1, s2, hlL W2 hE2, hf1, hf2, hf3, sameV, valEq]
    apply hG
    exact ⟨rfl, rfl, by simp, by simp, by simp [newCells_next], by simp, rfl⟩
  rintro ⟨t, m, ds⟩ Wq ⟨hm, hd, h1, h3, h6, h7, rfl⟩
  simp only at hm hd h1 h3 h6 h7
  subst hm; subst hd
  clear hW2 hf1 hf2 hf3
  have hX1 : ∀ W', Only (fun b => b = W1.next ∨ b = W1.next + 1) Wq W' → Ext W1 W' := fun W' h => ⟨by have := h.1; omega, fun b hb _ => by rw [h.2 b (by omega) (by omega), s3 b (by omega)]; exact hE2.2 b hb (fun x => x)⟩
  have hX : ∀ W', Only (fun b => b = W1.next ∨ b = W1.next + 1) Wq W' → Ext W W' := fun W' h => hE1.trans (hX1 W' h)
  have hF : ∀ j u, (acells (machV L cnt W1.next (W1.next + 1) (2 * cnt) (2 * cnt)))[j]? = some u → j < 3 → ∀ W', Only (fun b => b = W1.next ∨ b = W1.next + 1) Wq W' → W'.Has (W1.next + 2) j u := fun j u hj hj3 W' h => by
    refine AW.Has.only (W := Wq) ⟨by omega, ?_⟩ h (by omega)
    simp only [AW.cell, s4, blt_dec, hj3, decide_true, Tr.get_lay]
    rw [if_pos ⟨Nat.zero_le _, by show j < 0 + 3; omega⟩]
    exact hj
  obtain ⟨WW, hWW⟩ : ∃ WW, WW = W := ⟨_, rfl⟩
  try simp only [wpK_assoc]
  refine wpK_reg (fun R hR => by simp [h1, len_slice und43]; exact hR) ?_
  try simp only [wpK_assoc]
  refine wpK_while (I := fun k A W' => A.n = 57 ∧ A.defers = [] ∧ A.tmps.get 1 = some (.slice (some ⟨cb, 0, none⟩) N cc) ∧ A.tmps.get 3 = some (.pointer (some ⟨W.next, 0, none⟩)) ∧ A.tmps.get 6 = some (.pointer (some ⟨W.next + 1, 0, none⟩)) ∧ A.tmps.get 7 = some (.pointer (some ⟨W1.next + 2, 0, none⟩)) ∧
        A.tmps.get 19 = some (.slice (some ⟨cb, 0, none⟩) N cc) ∧ A.tmps.get 20 = some (.int .i64 N) ∧ Only (fun b => b = W1.next ∨ b = W1.next + 1) Wq W' ∧ ∃ s : Nat, k = N - s ∧ s ≤ N ∧ A.tmps.get 21 = some (.int .i64 s) ∧ ∃ c g, W'.blocks.get W1.next = some ⟨.cells c (cnt * 4) 77, []⟩ ∧ W'.blocks.get (W1.next + 1) = some ⟨.cells g cnt 4, []⟩ ∧
          (∀ s' x, s' < s → x < 4 → c.get (cl s' * 4 + x) = some (.int .i64 (cl (mx s' x) : Nat))) ∧ ∀ s', s' < s → g.get (cl s') = some (.bool (mg s')))
      (J := fun A W' => A.n = 57 ∧ A.defers = [] ∧ A.tmps.get 6 = some (.pointer (some ⟨W.next + 1, 0, none⟩)) ∧ A.tmps.get 7 = some (.pointer (some ⟨W1.next + 2, 0, none⟩)) ∧
        Only (fun b => b = W1.next ∨ b = W1.next + 1) Wq W' ∧ ∃ c g, W'.blocks.get W1.next = some ⟨.cells c (cnt * 4) 77, []⟩ ∧ W'.blocks.get (W1.next + 1) = some ⟨.cells g cnt 4, []⟩ ∧
          (∀ s' x, s' < N → x < 4 → c.get (cl s' * 4 + x) = some (.int .i64 (cl (mx s' x) : Nat))) ∧ ∀ s', s' < N → g.get (cl s') = some (.bool (mg s')))
      (Rt := fun _ _ => False) (k := N) ?_ ?_ ?_ ?_
  · exact ⟨rfl, rfl, by simp [h1], by simp [h3], by simp [h6], by simp [h7], by simp, by simp, .refl _ _, 0, by omega, by omega, by simp, k1, k2, by rw [s3 _ (by omega)]; exact hg1, by rw [s3 _ (by omega)]; exact hg2, fun s' x hs => by omega, fun s' hs => by omega⟩
  · clear h1 h3 h6 h7
    rintro k ⟨t, m, ds⟩ Wa ⟨hm, hd, h1, h3, h6, h7, h19, h20, hOa, s, hk, hs, h21, c, g, hblk, hgb, hc, hgc⟩ Q' hJ hRt hI
    simp only at hm hd h1 h3 h6 h7 h19 h20 h21
    subst hm; subst hd
    try simp only [wpK_assoc]
    refine wpK_reg (fun R hR => by simp [h20, h21]; exact hR) ?_
    by_cases hsN : s < N
    case neg =>
      have hse : s = N := by omega
      rw [hse] at hc hgc
      exact wpK_out (by simp [hsN]) (hJ _ _ ⟨rfl, rfl, by simp [h6], by simp [h7], hOa, c, g, hblk, hgb, hc, hgc⟩)
    refine wpK_onT (by simp [hsN]) ?_
    refine wpK_block ?_
    have hXa := hX Wa hOa
    have hXa1 := hX1 Wa hOa
    have hla := hOa.1
    have hcs := (hcl s hsN).ext hXa
    have hlt := hMo.lt s hsN
    have ha := indexAddr_slice (b := cb) (o := 0) (c := cc) (k := .i64) und43 sz3 hsN
    simp only [Nat.zero_add, Nat.mul_one] at ha
    try simp only [wpK_assoc]
    refine wpK_reg (fun R hR => by simp [h19, h21, ha, load_ext und3 rfl hcs (.refl _ _)]; exact hR) ?_
    -- good
    have hgs := (hM.good s hsN).ext hXa
    have hag := indexAddr_slice (b := gs) (o := 0) (c := c2) (k := .i64) und23 sz4 hsN
    have hag2 := indexAddr_slice (b := W1.next + 1) (o := 0) (c := 2 * cnt) (k := .i64) und23 sz4 hlt
    simp only [Nat.zero_add, Nat.mul_one] at hag hag2
    obtain ⟨Wb, r1, r2, r3, r4⟩ := storeVar_own (T := T0) (t := 4) (W := Wa) (v := .bool (mg s)) (b := W1.next + 1) (o := cl s) inf4 rfl hgb (by show cl s + 1 ≤ cnt; omega) rfl
    try simp only [wpK_assoc]
    refine wpK_dr (wr := Tr.nil |>.set 26 0 |>.set 27 1 |>.set 28 2 |>.set 29 3 |>.set 30 4 |>.set 31 5 |>.set 32 6 |>.set 33 7 |>.set 34 8) (bits := Tr.nil.lay 0 [0, 1, 0, 0, 8, 0, 56, 120, 255, 511]) (ord := [0, 1, 2, 3, 4, 5, 6, 7, 8, 9])
      (J := fun A W' => A.n = 57 ∧ A.defers = [] ∧ A.tmps.get 1 = some (.slice (some ⟨cb, 0, none⟩) N cc) ∧ A.tmps.get 3 = some (.pointer (some ⟨WW.next, 0, none⟩)) ∧ A.tmps.get 6 = some (.pointer (some ⟨WW.next + 1, 0, none⟩)) ∧ A.tmps.get 7 = some (.pointer (some ⟨W1.next + 2, 0, none⟩)) ∧
        A.tmps.get 8 = some (.int .i64 s) ∧ A.tmps.get 9 = some (.int .i64 (cl s : Nat)) ∧ A.tmps.get 19 = some (.slice (some ⟨cb, 0, none⟩) N cc) ∧ A.tmps.get 20 = some (.int .i64 N) ∧ A.tmps.get 21 = some (.int .i64 s) ∧ W' = Wb)
      (by kernel_rfl) (by kernel_rfl) (by kernel_rfl) (fun G hG => ?_) ?_
    · simp [h3, h7, hag, hag2, load_ext und23 rfl (hF 2 _ rfl (by omega) Wa hOa) (.refl _ _), load_ext und23 rfl ((hb 2 _ rfl).ext hXa1) (.refl _ _), load_ext und4 rfl hgs (.refl _ _), opStore, r1, r2, valEq_slice]
      apply hG
      exact ⟨rfl, rfl, by simp [h1], by simp [h3, hWW], by simp [h6, hWW], by simp [h7], by simp, by simp, by simp [h19], by simp [h20], by simp [h21], rfl⟩
    rintro ⟨t, m, ds⟩ Wc ⟨hm, hd, h1, h3, h6, h7, h8, h9, h19, h20, h21, rfl⟩
    rw [hWW] at h3 h6
    simp only at hm hd h1 h3 h6 h7 h8 h9 h19 h20 h21
    subst hm; subst hd
    have hOc : Only (fun b => b = W1.next ∨ b = W1.next + 1) Wq Wc := hOa.trans ⟨by omega, fun b _ hb => r3 b (fun e => hb (.inr e))⟩
    have hblkc : Wc.blocks.get W1.next = some ⟨.cells c (cnt * 4) 77, []⟩ := by rw [r3 _ (by omega)]; exact hblk
    have hXc := hX Wc hOc
    have hXc1 := hX1 Wc hOc
    have hrow : ∀ x, x < 4 → Wc.Has bs (s * 4 + x) (.int .i64 (mx s x : Nat)) := fun x hx => (hM.row s x hsN hx).ext hXc
    have hlr : aLoadVar T0 Wc 77 bs (s * 4) = some (.agg ⟨[.int .i64 (mx s 0 : Nat), .int .i64 (mx s 1 : Nat), .int .i64 (mx s 2 : Nat), .int .i64 (mx s 3 : Nat)]⟩) := load85h (hrow 0 (by omega)) (hrow 1 (by omega)) (hrow 2 (by omega)) (hrow 3 (by omega))
    have har := indexAddr_slice (b := bs) (o := 0) (c := c1) (k := .i64) und55 sz85 hsN
    simp only [Nat.zero_add] at har
    try simp only [wpK_assoc]
    refine wpK_reg (fun R hR => by simp [h3, h8, load_ext und55 rfl ((hb 1 _ rfl).ext hXc1) (.refl _ _), har, hlr]; exact hR) ?_
    refine wpK_while1 (I := fun k A W' => A.n = 57 ∧ A.defers = [] ∧ A.tmps.get 1 = some (.slice (some ⟨cb, 0, none⟩) N cc) ∧ A.tmps.get 3 = some (.pointer (some ⟨W.next, 0, none⟩)) ∧ A.tmps.get 6 = some (.pointer (some ⟨W.next + 1, 0, none⟩)) ∧ A.tmps.get 7 = some (.pointer (some ⟨W1.next + 2, 0, none⟩)) ∧
          A.tmps.get 9 = some (.int .i64 (cl s : Nat)) ∧ A.tmps.get 19 = some (.slice (some ⟨cb, 0, none⟩) N cc) ∧ A.tmps.get 20 = some (.int .i64 N) ∧ A.tmps.get 21 = some (.int .i64 s) ∧ A.tmps.get 39 = some (.agg ⟨[.int .i64 (mx s 0 : Nat), .int .i64 (mx s 1 : Nat), .int .i64 (mx s 2 : Nat), .int .i64 (mx s 3 : Nat)]⟩) ∧
          Only (fun b => b = W1.next) Wc W' ∧ ∃ x : Nat, k = 4 - x ∧ x ≤ 4 ∧ A.tmps.get 40 = some (.int .i64 x) ∧ ∃ c, W'.blocks.get W1.next = some ⟨.cells c (cnt * 4) 77, []⟩ ∧ (∀ s' x, s' < s → x < 4 → c.get (cl s' * 4 + x) = some (.int .i64 (cl (mx s' x) : Nat))) ∧ ∀ x', x' < x → c.get (cl s * 4 + x') = some (.int .i64 (cl (mx s x') : Nat)))
        (J := fun A W' => A.n = 57 ∧ A.defers = [] ∧ A.tmps.get 1 = some (.slice (some ⟨cb, 0, none⟩) N cc) ∧ A.tmps.get 3 = some (.pointer (some ⟨W.next, 0, none⟩)) ∧ A.tmps.get 6 = some (.pointer (some ⟨W.next + 1, 0, none⟩)) ∧ A.tmps.get 7 = some (.pointer (some ⟨W1.next + 2, 0, none⟩)) ∧
          A.tmps.get 19 = some (.slice (some ⟨cb, 0, none⟩) N cc) ∧ A.tmps.get 20 = some (.int .i64 N) ∧ A.tmps.get 21 = some (.int .i64 s) ∧
          Only (fun b => b = W1.next) Wc W' ∧ ∃ c, W'.blocks.get W1.next = some ⟨.cells c (cnt * 4) 77, []⟩ ∧ (∀ s' x, s' < s → x < 4 → c.get (cl s' * 4 + x) = some (.int .i64 (cl (mx s' x) : Nat))) ∧ ∀ x', x' < 4 → c.get (cl s * 4 + x') = some (.int .i64 (cl (mx s x') : Nat)))
        (Rt := fun _ _ => False) (k := 4) ?_ ?_ ?_ ?_
    · exact ⟨rfl, rfl, by simp [h1], by simp [h3], by simp [h6], by simp [h7], by simp [h9], by simp [h19], by simp [h20], by simp [h21], by simp, .refl _ _, 0, by omega, by omega, by simp, c, hblkc, hc, fun x' hx => by omega⟩
    · clear h1 h3 h6 h7 h8 h9 h19 h20 h21
      rintro k2 ⟨t, m, ds⟩ Wd ⟨hm, hd, h1, h3, h6, h7, h9, h19, h20, h21, h39, hOd, x, hk2, hx, h40, cd, hblkd, hcd1, hcd2⟩ Q2 hJ2 hRt2 hI2
      simp only at hm hd h1 h3 h6 h7 h9 h19 h20 h21 h39 h40
      subst hm; subst hd
      try simp only [wpK_assoc]
      by_cases hx4 : x < 4
      case neg =>
        have hxe : x = 4 := by omega
        rw [hxe] at hcd2
        have hx3 : ¬ ((x : Int) < 4) := by omega
        refine wpK_reg (fun R hR => by simp [h40, hx3]; exact hR) ?_
        exact wpK_out (by simp) (hJ2 _ _ ⟨rfl, rfl, by simp [h1], by simp [h3], by simp [h6], by simp [h7], by simp [h19], by simp [h20], by simp [h21], hOd, cd, hblkd, hcd1, hcd2⟩)
      have hx3 : (x : Int) < 4 := by omega
      refine wpK_reg (fun R hR => by simp [h40, hx3]; exact hR) ?_
      refine wpK_onT (by simp) ?_
      refine wpK_block ?_
      try simp only [wpK_assoc]
      refine wpK_reg (fun R hR => by simp [h39, h40, idx85 (mx s) x hx4]; exact hR) ?_
      have hOd' : Only (fun b => b = W1.next ∨ b = W1.next + 1) Wq Wd := hOc.trans (hOd.mono fun _ _ e => .inl e)
      have hXd := hX Wd hOd'
      have hmxs := hmx s x hsN hx4
      have hclx := (hcl _ hmxs).ext hXd
      have hac := indexAddr_slice (b := cb) (o := 0) (c := cc) (k := .i64) und43 sz3 hmxs
      have hak := indexAddr_slice (b := W1.next) (o := 0) (c := 2 * cnt) (k := .i64) und55 sz85 hlt
      have hak2 := indexAddr_85' W1.next (cl s * 4) x .i64 hx4
      simp only [Nat.zero_add, Nat.mul_one] at hac hak
      obtain ⟨We, q1, q2, q3, q4⟩ := storeVar_own (T := T0) (t := 3) (W := Wd) (v := .int .i64 (cl (mx s x) : Nat)) (b := W1.next) (o := cl s * 4 + x) inf3 rfl hblkd (by show cl s * 4 + x + 1 ≤ cnt * 4; omega) rfl
      refine wpK_dr1 (wr := Tr.nil |>.set 44 0 |>.set 45 1 |>.set 46 2 |>.set 47 3 |>.set 48 4 |>.set 49 5 |>.set 50 6 |>.set 51 7 |>.set 52 8 |>.set 53 9) (bits := Tr.nil.lay 0 [0, 1, 0, 0, 0, 0, 48, 112, 7, 511, 1023]) (ord := [0, 1, 2, 3, 4, 5, 6, 7, 8, 9, 10])
        (J := fun A W' => A.n = 57 ∧ A.defers = [] ∧ A.tmps.get 1 = some (.slice (some ⟨cb, 0, none⟩) N cc) ∧ A.tmps.get 3 = some (.pointer (some ⟨WW.next, 0, none⟩)) ∧ A.tmps.get 6 = some (.pointer (some ⟨WW.next + 1, 0, none⟩)) ∧ A.tmps.get 7 = some (.pointer (some ⟨W1.next + 2, 0, none⟩)) ∧
          A.tmps.get 9 = some (.int .i64 (cl s : Nat)) ∧ A.tmps.get 19 = some (.slice (some ⟨cb, 0, none⟩) N cc) ∧ A.tmps.get 20 = some (.int .i64 N) ∧ A.tmps.get 21 = some (.int .i64 s) ∧ A.tmps.get 39 = some (.agg ⟨[.int .i64 (mx s 0 : Nat), .int .i64 (mx s 1 : Nat), .int .i64 (mx s 2 : Nat), .int .i64 (mx s 3 : Nat)]⟩) ∧ A.tmps.get 40 = some (.int .i64 x) ∧ W' = We)
        (by kernel_rfl) (by kernel_rfl) (by kernel_rfl) (fun G hG => ?_) ?_
      · simp [h1, h7, h9, hac, hak, hak2, load_ext und55 rfl (hF 1 _ rfl (by omega) Wd hOd') (.refl _ _), load_ext und3 rfl hclx (.refl _ _), opStore, q1, q2, valEq_slice]
        apply hG
        exact ⟨rfl, rfl, by simp [h1], by simp [h3, hWW], by simp [h6, hWW], by simp [h7], by simp [h9], by simp [h19], by simp [h20], by simp [h21], by simp [h39], by simp [h40], rfl⟩
      rintro ⟨t, m, ds⟩ Wf ⟨hm, hd, h1, h3, h6, h7, h9, h19, h20, h21, h39, h40, rfl⟩
      rw [hWW] at h3 h6
      simp only at hm hd h1 h3 h6 h7 h9 h19 h20 h21 h39 h40
      subst hm; subst hd
      have hwx := i64_succ x (by omega)
      refine wpK_reg1 (fun R hR => by simp [h40, hwx]; exact hR) ?_
      refine hI2 (4 - (x + 1)) _ _ (by omega) ⟨rfl, rfl, by simp [h1], by simp [h3], by simp [h6], by simp [h7], by simp [h9], by simp [h19], by simp [h20], by simp [h21], by simp [h39], hOd.trans ⟨by omega, fun b _ hb => q3 b hb⟩, x + 1, rfl, by omega, by simp, cd.set (cl s * 4 + x) (.int .i64 (cl (mx s x) : Nat)), q4, fun s' x' hs' hx' => ?_, fun x' hx' => ?_⟩
      · rw [Tr.get_set]
        by_cases e : cl s' * 4 + x' = cl s * 4 + x
        · have e1 : cl s' = cl s := by omega
          have e2 : x' = x := by omega
          rw [if_pos e, e2, hst s' s (by omega) hsN e1 x hx4]
        · rw [if_neg e]; exact hcd1 s' x' hs' hx'
      · rw [Tr.get_set]
        by_cases e : x' = x
        · rw [if_pos (by omega), e]
        · rw [if_neg (by omega)]; exact hcd2 x' (by omega)
    · rintro A' W' hf; exact hf.elim
    · clear h1 h3 h6 h7 h8 h9 h19 h20 h21
      rintro ⟨t, m, ds⟩ Wd ⟨hm, hd, h1, h3, h6, h7, h19, h20, h21, hOd, cd, hblkd, hcd1, hcd2⟩
      simp only at hm hd h1 h3 h6 h7 h19 h20 h21
      subst hm; subst hd
      have hws := i64_succ s (by omega)
      refine wpK_reg1 (fun R hR => by simp [h21, hws]; exact hR) ?_
      refine hI (N - (s + 1)) _ _ (by omega) ⟨rfl, rfl, by simp [h1], by simp [h3], by simp [h6], by simp [h7], by simp [h19], by simp [h20], hOc.trans (hOd.mono fun _ _ e => .inl e), s + 1, rfl, by omega, by simp, cd, g.set (cl s) (.bool (mg s)), hblkd, by rw [hOd.2 _ (by omega) (by omega)]; exact r4, fun s' x' hs' hx' => ?_, fun s' hs' => ?_⟩
      · by_cases e : s' = s
        · rw [e]; exact hcd2 x' hx'
        · exact hcd1 s' x' (by omega) hx'
      · rw [Tr.get_set]
        by_cases e : cl s' = cl s
        · rw [if_pos e, hMo.good s' s (by omega) hsN e]
        · rw [if_neg e]; exact hgc s' (by have : s' ≠ s := fun e2 => e (by rw [e2]); omega)
  · rintro A' W' hf; exact hf.elim
  · clear h1 h3 h6 h7
    rintro ⟨t, m, ds⟩ Wa ⟨hm, hd, h6, h7, hOa, c, g, hblk, hgb, hc, hgc⟩
    simp only at hm hd h6 h7
    subst hm; subst hd
    have hla := hOa.1
    have hXa := hX Wa hOa
    have hl7 : aLoadVar T0 Wa 69 (W1.next + 2) 0 = some (machV L cnt W1.next (W1.next + 1) (2 * cnt) (2 * cnt)) := load57 (cells3 (by rw [hOa.2 _ (by omega) (by omega)]; exact s4) (by rw [Tr.get_lay]; rfl) (by rw [Tr.get_lay]; rfl) (by rw [Tr.get_lay]; rfl))
    obtain ⟨Wb, r1, r2, r3, r4⟩ := storeVar_own (T := T0) (t := 69) (W := Wa) (v := machV L cnt W1.next (W1.next + 1) (2 * cnt) (2 * cnt)) (b := W.next + 1) (o := 0) inf57 rfl (by rw [(hX1 Wa hOa).2 _ (by omega) (fun x => x)]; exact ht6) (by show 0 + 3 ≤ 3; omega) rfl
    try simp only [wpK_assoc]
    refine wpK_reg (fun R hR => by simp [h6, h7, hl7, opStore, r1]; exact hR) ?_
    refine wpK_ret ⟨.inr rfl, rfl, [machV L cnt W1.next (W1.next + 1) (2 * cnt) (2 * cnt)], ?_, ?_⟩
    · show aResults T0 _ _ [.cell 6 69] = _
      have hlr : aLoadVar T0 Wb 69 (W.next + 1) 0 = some (machV L cnt W1.next (W1.next + 1) (2 * cnt) (2 * cnt)) := load57 (cells3 r4 (by rw [Tr.get_lay]; rfl) (by rw [Tr.get_lay]; rfl) (by rw [Tr.get_lay]; rfl))
      simp [h6, hlr]
    · refine ⟨⟨by have := hXa.1; omega, fun b hb _ => by rw [r3 b (by omega)]; exact hXa.2 b hb (fun x => x)⟩, W1.next, W1.next + 1, rfl, by omega, by omega, fun s x hs hx => ⟨by omega, ?_⟩, fun s hs => ⟨by omega, ?_⟩⟩
      · have hlt := hMo.lt s hs
        have hlt4 : cl s * 4 + x < cnt * 4 := by omega
        have hbk : Wb.blocks.get W1.next = some ⟨.cells c (cnt * 4) 77, []⟩ := by rw [r3 _ (by omega)]; exact hblk
        simp only [AW.cell, hbk, blt_dec, hlt4, decide_true]; exact hc s x hs hx
      · have hlt := hMo.lt s hs
        have hbk : Wb.blocks.get (W1.next + 1) = some ⟨.cells g cnt 4, []⟩ := by rw [r3 _ (by omega)]; exact hgb
        simp only [AW.cell, hbk, blt_dec, hlt, decide_true]; exact hgc s hs
end Go.Proofs.Ytnnfobmfffbhaaa

open Go Go.Eng
namespace Go.Proofs.Ytnnfobmfffbhaaa
attribute [local congr] undef_congr WpK.congr WpS.congr WpL.congr WpC.congr WpF.congr gotS.congr callS.congr nextS.congr wantS.congr condS.congr
attribute [local irreducible] WpK
attribute [local simp] WpDr_nil WpDr_cons atS_some dwantS_true dwantS_false kindS_light kindS_float kindS_heavy lightS_value floatS_some heavyS_value heavyS_skip heavyS_enter dcallS_some doneS_eq
  isLight isFloat isPlain dLook testBit_dec dChain dLights_nil dLights_skip dLights_one dLight_nil dLight_cons dFreshes_nil dFreshes_one oneF_none oneF_some dFresh_nil dFresh_cons oneL_some oneW_true oneW_false sameV_value dPut dMay valEq arrEq listEq List.getElem?_cons Tr.get_nil dEnd
attribute [local simp] WpS_nil WpS_cons isDefer undef_false wantS_true wantS_false nextS_value nextS_skip nextS_enter callS_some gotS_some aWanted aOp aEvalF aEval opMove opAssign opPick aVal flat flat1 AAct.put opBinOp opConvert opIndex Tr.get_set Tr.get_lay aBin aResults tupled
  aCall aVals aCallB blt_dec ble_dec beq_dec aBinI_add aBinI_sub aBinI_lss aBinI_leq aBinI_gtr aBinI_geq aBinI_eql aBinI_neq index_str len_str len_slice Nat.beq_refl und3 und37 und5 und9
  opBox opLoad opFieldAddr opIndexAddr acells aAddr field25 und22 und23 und43 und4 und28
attribute [local simp] field31 conv_3_5 conv_3_37 conv_37_3 conv_5_3
set_option maxHeartbeats 4000000
attribute [local simp] field57
theorem RowI.zeros {step : Value → Nat → Value} {key : Value} {i : Nat} : ∀ {x : Nat} {keys lB lL row keys' lB' lL' : List Value}, RowI step key i x keys lB lL row keys' lB' lL' → ∀ y, x ≤ y → y < 4 → row[y]? = some (.int .i64 0)
  | 0, _, _, _, _, _, _, _, h, y, _, hy => by
    obtain ⟨_, _, _, rfl⟩ := h
    match y, hy with
    | 0, _ => rfl
    | 1, _ => rfl
    | 2, _ => rfl
    | 3, _ => rfl
  | x + 1, _, _, _, _, _, _, _, h, y, hx, hy => by
    obtain ⟨r1, k1, B1, L1, j, h1, _, rfl⟩ := h
    rw [List.getElem?_set_ne (by omega)]
    exact RowI.zeros h1 y (by omega) hy
theorem Bfs.zeros {step : Value → Nat → Value} {L : Nat} {start : Value} : ∀ {i : Nat} {keys lB lL lN : List Value}, Bfs step L start i keys lB lL lN → ∀ s y, s < i → L ≤ y → y < 4 → lN[s * 4 + y]? = some (.int .i64 0)
  | 0, _, _, _, _, _, s, _, hs, _, _ => by omega
  | i + 1, _, _, _, _, h, s, y, hs, hL, hy => by
    obtain ⟨k0, B0, L0, N0, key, row, h1, h2, h3, rfl⟩ := h
    have hlen := h1.rows.1
    by_cases e : s < i
    · rw [List.getElem?_append_left (by omega)]
      exact Bfs.zeros h1 s y e hL hy
    · rw [List.getElem?_append_right (by omega), hlen, show s * 4 + y - 4 * i = y from by omega]
      exact h3.zeros y hL hy
theorem mxOf_zero {step : Value → Nat → Value} {L : Nat} {start : Value} {i : Nat} {keys lB lL lN : List Value} (h : Bfs step L start i keys lB lL lN) {s x : Nat} (hs : s < i) (hL : L ≤ x) (hx : x < 4) : mxOf lN s x = 0 := by
  unfold mxOf
  rw [List.getD_eq_getElem?_getD, h.zeros s x hs hL hx]; rfl
/-- the first state of a class -/
def fstAt (cl : Nat → Nat) (N c : Nat) : Nat := ((List.range N).find? fun q => Nat.beq (cl q) c).getD 0
theorem fstAt_spec {cl : Nat → Nat} {N q : Nat} (hq : q < N) : fstAt cl N (cl q) < N ∧ cl (fstAt cl N (cl q)) = cl q := by
  unfold fstAt
  cases h : (List.range N).find? fun q' => Nat.beq (cl q') (cl q) with
  | none =>
    have := List.find?_eq_none.1 h q (List.mem_range.2 hq)
    simp at this
  | some r =>
    have h1 := List.find?_some h
    have h2 := List.mem_of_find?_eq_some h
    simp at h1 h2
    exact ⟨h2, h1⟩
def qMx (mx : Nat → Nat → Nat) (cl : Nat → Nat) (N c x : Nat) : Nat := cl (mx (fstAt cl N c) x)
def qMg (mg : Nat → Bool) (cl : Nat → Nat) (N c : Nat) : Bool := mg (fstAt cl N c)
/-- what the least machine has of a machine -/
structure LeastM (mx : Nat → Nat → Nat) (mg : Nat → Bool) (L N cnt : Nat) (mxL : Nat → Nat → Nat) (mgL : Nat → Bool) (cl : Nat → Nat) : Prop where
  moore : Moore mx mg L N cl cnt
  nx : ∀ s x, s < N → x < 4 → mxL (cl s) x = cl (mx s x)
  gd : ∀ s, s < N → mgL (cl s) = mg s
theorem leastM_of {mx : Nat → Nat → Nat} {mg : Nat → Bool} {L N cnt : Nat} {cl : Nat → Nat} (h : Moore mx mg L N cl cnt) (hst : ∀ i j, i < N → j < N → cl i = cl j → ∀ x, x < 4 → cl (mx i x) = cl (mx j x)) : LeastM mx mg L N cnt (qMx mx cl N) (qMg mg cl N) cl where
  moore := h
  nx := fun s x hs hx => by
    obtain ⟨h1, h2⟩ := fstAt_spec (cl := cl) hs
    exact hst _ _ h1 hs h2 x hx
  gd := fun s hs => by
    obtain ⟨h1, h2⟩ := fstAt_spec (cl := cl) hs
    exact h.good _ _ h1 hs h2
theorem LeastM.machAt {mx : Nat → Nat → Nat} {mg : Nat → Bool} {L N cnt : Nat} {mxL : Nat → Nat → Nat} {mgL : Nat → Bool} {cl : Nat → Nat} (h : LeastM mx mg L N cnt mxL mgL cl) {W : AW} {bs gs c1 c2 : Nat}
    (h1 : ∀ s x, s < N → x < 4 → W.Has bs (cl s * 4 + x) (.int .i64 (cl (mx s x) : Nat))) (h2 : ∀ s, s < N → W.Has gs (cl s) (.bool (mg s))) : MachAt W L cnt bs gs c1 c2 mxL mgL := by
  refine ⟨fun c x hc hx => ?_, fun c hc => ?_⟩
  · obtain ⟨q, hq, rfl, _⟩ := h.moore.sur c hc
    rw [h.nx q x hq hx]; exact h1 q x hq hx
  · obtain ⟨q, hq, rfl, _⟩ := h.moore.sur c hc
    rw [h.gd q hq]; exact h2 q hq
theorem fnLeast31 : T0.funcs.get 31 = some Try.f31 := by kernel_rfl
/-- the least machine of an automaton -/
theorem least31_wp (L n bN oN cN bG oG cG : Nat) (nx : Nat → Nat → Nat) (gd : Nat → Bool) (W : AW) (hN : Rows W bN oN n L nx) (hG : Goods W bG oG n gd) (hL1 : 1 ≤ L) (hL4 : L ≤ 4) (hn : 1 ≤ n) (hn64 : n ≤ 64) (hnx : ∀ s i, s < n → i < L → nx s i < n) :
    WpF T0 31 [autoV L n bN oN cN bG oG cG] W (fun v W' => Ext W W' ∧ ∃ keys lB lL lN cl cnt mxL mgL bs gs, Bfs (stepA L n nx) L (.int .i64 0) keys.length keys lB lL lN ∧ LeastM (mxOf lN) (mgOf gd keys) L keys.length cnt mxL mgL cl ∧
      v = machV L cnt bs gs (2 * cnt) (2 * cnt) ∧ MachAt W' L cnt bs gs (2 * cnt) (2 * cnt) mxL mgL) := by
  refine wpF fnLeast31 rfl ?_
  refine wpK_reg (fun R hR => by simp [opAlloc, zero57]; exact hR) ?_
  obtain ⟨W1, hW1, hE1, hn1, hld, ht2⟩ : ∃ W1, W1 = (W.newCells 28 [.int .i64 L, .slice (some ⟨bN, oN, none⟩) n cN, .slice (some ⟨bG, oG, none⟩) n cG]).newCells 69 [.int .i64 0, .slice none 0 0, .slice none 0 0] ∧ Ext W W1 ∧ W1.next = W.next + 2 ∧
      aLoadVar T0 W1 28 W.next 0 = some (autoV L n bN oN cN bG oG cG) ∧ W1.blocks.get (W.next + 1) = some ⟨.cells (Tr.nil.lay 0 [.int .i64 0, .slice none 0 0, .slice none 0 0]) 3 69, []⟩ := by
    have hA : ∀ j u, [Value.int .i64 (L : Nat), .slice (some ⟨bN, oN, none⟩) n cN, .slice (some ⟨bG, oG, none⟩) n cG][j]? = some u → ((W.newCells 28 [.int .i64 L, .slice (some ⟨bN, oN, none⟩) n cN, .slice (some ⟨bG, oG, none⟩) n cG]).newCells 69 [.int .i64 0, .slice none 0 0, .slice none 0 0]).Has W.next j u := fun j u h => (Has.newCells h).ext (.newCells _ _ _)
    refine ⟨_, rfl, (Only.newCells _ _ _).trans (Only.newCells _ _ _), rfl, ?_, by rw [newCells_get, if_pos (by rw [newCells_next])]; rfl⟩
    refine load31 (cellsAt_of_cells rfl ⟨_, by rw [newCells_get, if_neg (by simp only [newCells_next]; omega), newCells_get, if_pos rfl]⟩ (fun j hj => ?_) (by omega))
    rw [Nat.zero_add]
    match j, hj with
    | 0, _ => exact (hA 0 _ rfl).2
    | 1, _ => exact (hA 1 _ rfl).2
    | 2, _ => exact (hA 2 _ rfl).2
  rw [← hW1]
  simp only [newCells_next]
  clear hW1
  try simp only [wpK_assoc]
  refine wpK_regc (J := fun A W' => A.n = 12 ∧ A.defers = [] ∧ A.tmps.get 2 = some (.pointer (some ⟨W.next + 1, 0, none⟩)) ∧ Ext W1 W' ∧ ∃ b3, A.tmps.get 3 = some (.pointer (some ⟨b3, 0, none⟩)) ∧ W1.next ≤ b3 ∧ ∃ keys lB lL lN cl cnt mxL mgL bs gs, Bfs (stepA L n nx) L (.int .i64 0) keys.length keys lB lL lN ∧ LeastM (mxOf lN) (mgOf gd keys) L keys.length cnt mxL mgL cl ∧
      aLoadVar T0 W' 69 b3 0 = some (machV L cnt bs gs (2 * cnt) (2 * cnt)) ∧ W1.next ≤ bs ∧ W1.next ≤ gs ∧ MachAt W' L cnt bs gs (2 * cnt) (2 * cnt) mxL mgL) (fun R hR => ?_) ?_
  · simp [hld, aEnter, fun22, short_other, aCallV]
    rw [callS_none]
    refine (reached_wp L n bN oN cN bG oG cG nx gd W1 (hN.ext hE1) (hG.ext hE1) hL1 hL4 hn hn64 hnx).mono ?_
    rintro r W2 ⟨hE2, keys, lB, lL, lN, bs, gs, c1, c2, hB, rfl, hr1, hr2⟩
    simp [aEnter, fnMLeast, short_other, aCallV]
    rw [callS_none]
    have hk1 : keys.length ≤ n := distS_len (hB.isK (isK := IsS n) (fun h => stepA_is (by omega) hnx h) ⟨0, by omega, rfl⟩) hB.dist
    refine (mleast_wp L keys.length bs gs c1 c2 (mxOf lN) (mgOf gd keys) W2 (machAt_of hB hr1 hr2) (fun s x hs hx => (mxOf_lt hB hs hx).1) (fun s x hs hx hLx => mxOf_zero hB hs hLx hx) (by omega)
      (fun u W' => ∃ cl cnt mxL mgL bs gs, LeastM (mxOf lN) (mgOf gd keys) L keys.length cnt mxL mgL cl ∧ u = machV L cnt bs gs (2 * cnt) (2 * cnt) ∧ W2.next ≤ bs ∧ W2.next ≤ gs ∧ MachAt W' L cnt bs gs (2 * cnt) (2 * cnt) mxL mgL) (fun cl cnt cb W3 hE3 hMo hst hcl => ?_)).mono ?_
    · refine (joined_wp L keys.length bs gs c1 c2 cb (2 * keys.length) cnt (mxOf lN) (mgOf gd keys) cl W3 ((machAt_of hB hr1 hr2).ext hE3) (fun s x hs hx => (mxOf_lt hB hs hx).1) (by omega) hMo hst hcl).mono ?_
      rintro v W4 ⟨hE4, bs', gs', rfl, hb1, hb2, hh1, hh2⟩
      have hl3 := hE3.1
      have hLM := leastM_of hMo hst
      exact ⟨hE4, ⟨_, _, _, rfl, rfl⟩, fun W5 hO => ⟨cl, cnt, _, _, bs', gs', hLM, rfl, by omega, by omega, hLM.machAt (fun s x hs hx => (hh1 s x hs hx).only hO (by omega)) (fun s hs => (hh2 s hs).only hO (by omega))⟩⟩
    rintro r W3 ⟨hE3, u, rfl, cl, cnt, mxL, mgL, bs', gs', hLM, rfl, hb1, hb2, hMA⟩
    have hl2 := hE2.1
    have hl3 := hE3.1
    obtain ⟨W4, s1, s2, s3, s4⟩ := storeVar_own (T := T0) (t := 69) (W := W3.newCells 69 [.int .i64 0, .slice none 0 0, .slice none 0 0]) (v := machV L cnt bs' gs' (2 * cnt) (2 * cnt)) (b := W3.next) (o := 0) inf57 rfl (by rw [newCells_get, if_pos rfl]) (by show 0 + 3 ≤ 3; omega) rfl
    have hE4 : Ext W3 W4 := ⟨by rw [s2, newCells_next]; omega, fun b hb _ => by rw [s3 b (by omega), newCells_get, if_neg (by omega)]⟩
    simp [opExtract, aExtract, opAlloc, zero57, opStore, s1]
    apply hR
    exact ⟨rfl, rfl, by simp, (hE2.trans hE3).trans hE4, W3.next, by simp, by omega, keys, lB, lL, lN, cl, cnt, mxL, mgL, bs', gs', hB, hLM, load57 (cells3 s4 (by rw [Tr.get_lay]; rfl) (by rw [Tr.get_lay]; rfl) (by rw [Tr.get_lay]; rfl)), by omega, by omega, hMA.ext hE4⟩
  rintro ⟨t, m, ds⟩ Wa ⟨hm, hd, h2, hEa, b3, h3, hb3, keys, lB, lL, lN, cl, cnt, mxL, mgL, bs, gs, hB, hLM, hl3, hbs, hgs, hMA⟩
  simp only at hm hd h2 h3
  subst hm; subst hd
  have hla := hEa.1
  obtain ⟨Wb, s1, s2, s3, s4⟩ := storeVar_own (T := T0) (t := 69) (W := Wa) (v := machV L cnt bs gs (2 * cnt) (2 * cnt)) (b := W.next + 1) (o := 0) inf57 rfl (by rw [hEa.2 _ (by omega) (fun x => x)]; exact ht2) (by show 0 + 3 ≤ 3; omega) rfl
  try simp only [wpK_assoc]
  refine wpK_reg (fun R hR => by simp [h2, h3, hl3, opStore, s1]; exact hR) ?_
  have hO : Only (fun b => b = W.next + 1) Wa Wb := ⟨by omega, fun b _ hb => s3 b hb⟩
  refine wpK_ret ⟨.inr rfl, rfl, [machV L cnt bs gs (2 * cnt) (2 * cnt)], ?_, ⟨by omega, fun b hb _ => by rw [s3 b (by omega), hEa.2 b (by omega) (fun x => x)]; exact hE1.2 b hb (fun x => x)⟩, keys, lB, lL, lN, cl, cnt, mxL, mgL, bs, gs, hB, hLM, rfl, ⟨fun s x hs hx => (hMA.row s x hs hx).only hO (by omega), fun s hs => (hMA.good s hs).only hO (by omega)⟩⟩
  show aResults T0 _ _ [.cell 2 69] = _
  have hlr : aLoadVar T0 Wb 69 (W.next + 1) 0 = some (machV L cnt bs gs (2 * cnt) (2 * cnt)) := load57 (cells3 s4 (by rw [Tr.get_lay]; rfl) (by rw [Tr.get_lay]; rfl) (by rw [Tr.get_lay]; rfl))
  simp [h2, hlr]
end Go.Proofs.Ytnnfobmfffbhaaa

open Go Go.Eng
namespace Go.Proofs.Ytnnfobmfffbhaaa
attribute [local congr] undef_congr WpK.congr WpS.congr WpL.congr WpC.congr WpF.congr gotS.congr callS.congr nextS.congr wantS.congr condS.congr
attribute [local irreducible] WpK
attribute [local simp] WpDr_nil WpDr_cons atS_some dwantS_true dwantS_false kindS_light kindS_float kindS_heavy lightS_value floatS_some heavyS_value heavyS_skip heavyS_enter dcallS_some doneS_eq
  isLight isFloat isPlain dLook testBit_dec dChain dLights_nil dLights_skip dLights_one dLight_nil dLight_cons dFreshes_nil dFreshes_one oneF_none oneF_some dFresh_nil dFresh_cons oneL_some oneW_true oneW_false sameV_value dPut dMay valEq arrEq listEq List.getElem?_cons Tr.get_nil dEnd
attribute [local simp] WpS_nil WpS_cons isDefer undef_false wantS_true wantS_false nextS_value nextS_skip nextS_enter callS_some gotS_some aWanted aOp aEvalF aEval opMove opAssign opPick aVal flat flat1 AAct.put opBinOp opConvert opIndex Tr.get_set Tr.get_lay aBin aResults tupled
  aCall aVals aCallB blt_dec ble_dec beq_dec aBinI_add aBinI_sub aBinI_lss aBinI_leq aBinI_gtr aBinI_geq aBinI_eql aBinI_neq index_str len_str len_slice Nat.beq_refl und3 und37 und5 und9
  opBox opLoad opFieldAddr opIndexAddr acells aAddr field25 und22 und23 und43 und4 und28
attribute [local simp] field31 conv_3_5 conv_3_37 conv_37_3 conv_5_3
set_option maxHeartbeats 4000000
theorem RowI.fst {step : Value → Nat → Value} {key : Value} {i : Nat} : ∀ {x : Nat} {keys lB lL row keys' lB' lL' : List Value}, RowI step key i x keys lB lL row keys' lB' lL' → x ≤ 4 →
    ∀ j, keys.length ≤ j → j < keys'.length → ∃ y, y < x ∧ row[y]? = some (.int .i64 (j : Nat)) ∧ ∀ y', y' < y → ∃ j' : Nat, j' < j ∧ row[y']? = some (.int .i64 (j' : Nat))
  | 0, _, _, _, _, _, _, _, h, _, j, h1, h2 => by
    obtain ⟨rfl, _, _, _⟩ := h
    omega
  | x + 1, _, _, _, _, _, _, _, h, hx, j, h1, h2 => by
    obtain ⟨r1, k1, B1, L1, j0, g1, g2, rfl⟩ := h
    have hlen := g1.len
    by_cases e : j < k1.length
    · obtain ⟨y, y1, y2, y3⟩ := RowI.fst g1 (by omega) j h1 e
      refine ⟨y, by omega, by rw [List.getElem?_set_ne (by omega)]; exact y2, fun y' hy' => ?_⟩
      obtain ⟨j', a1, a2⟩ := y3 y' hy'
      exact ⟨j', a1, by rw [List.getElem?_set_ne (by omega)]; exact a2⟩
    · obtain ⟨_, _, ⟨rfl, _, _⟩ | ⟨rfl, _, rfl, _, _⟩⟩ := g2
      · omega
      · simp only [List.length_append, List.length_cons, List.length_nil] at h2
        have hj : j = k1.length := by omega
        refine ⟨x, by omega, by rw [List.getElem?_set_self (by omega), hj], fun y' hy' => ?_⟩
        obtain ⟨j', a1, k, a2, _⟩ := g1.get (by omega) y' hy'
        exact ⟨j', by rw [hj]; exact (List.getElem?_eq_some_iff.1 a2).1, by rw [List.getElem?_set_ne (by omega)]; exact a1⟩
theorem Bfs.fst {step : Value → Nat → Value} {L : Nat} (hL : L ≤ 4) {start : Value} : ∀ {i : Nat} {keys lB lL lN : List Value}, Bfs step L start i keys lB lL lN →
    ∀ j, 0 < j → j < keys.length → ∃ p y, p < j ∧ p < i ∧ y < L ∧ lN[p * 4 + y]? = some (.int .i64 (j : Nat)) ∧ ∀ p' y', y' < L → (p' < p ∨ p' = p ∧ y' < y) → ∃ j' : Nat, j' < j ∧ lN[p' * 4 + y']? = some (.int .i64 (j' : Nat))
  | 0, _, _, _, _, h, j, h1, h2 => by
    obtain ⟨rfl, _, _, _⟩ := h
    simp at h2; omega
  | i + 1, _, _, _, _, h, j, h1, h2 => by
    obtain ⟨k0, B0, L0, N0, key, row, g1, g2, g3, rfl⟩ := h
    have hlen := g1.rows.1
    have hik := (List.getElem?_eq_some_iff.1 g2).1
    have hin : ∀ {q : Nat} {v : Value}, N0[q]? = some v → (N0 ++ row)[q]? = some v := fun hq => by rw [List.getElem?_append_left (List.getElem?_eq_some_iff.1 hq).1]; exact hq
    have hro : ∀ y, (N0 ++ row)[i * 4 + y]? = row[y]? := fun y => by rw [List.getElem?_append_right (by omega), hlen, show i * 4 + y - 4 * i = y from by omega]
    by_cases e : j < k0.length
    · obtain ⟨p, y, a1, a2, a3, a4, a5⟩ := Bfs.fst hL g1 j h1 e
      refine ⟨p, y, a1, by omega, a3, hin a4, fun p' y' b1 b2 => ?_⟩
      obtain ⟨j', c1, c2⟩ := a5 p' y' b1 b2
      exact ⟨j', c1, hin c2⟩
    · obtain ⟨y, a1, a2, a3⟩ := g3.fst hL j (by omega) h2
      refine ⟨i, y, by omega, by omega, a1, by rw [hro]; exact a2, fun p' y' b1 b2 => ?_⟩
      rcases b2 with b2 | ⟨rfl, b2⟩
      · obtain ⟨key', _, c2⟩ := g1.get hL p' b2
        obtain ⟨j', d1, k, d2, _⟩ := c2 y' b1
        exact ⟨j', by have := (List.getElem?_eq_some_iff.1 d2).1; omega, hin d1⟩
      · obtain ⟨j', d1, d2⟩ := a3 y' b2
        exact ⟨j', d1, by rw [hro]; exact d2⟩
/-- the states are numbered in the order in which they are found -/
def FstP (mx : Nat → Nat → Nat) (L N : Nat) : Prop := ∀ j, 0 < j → j < N → ∃ p y, p < j ∧ y < L ∧ mx p y = j ∧ ∀ p' y', y' < L → (p' < p ∨ p' = p ∧ y' < y) → mx p' y' < j
theorem mxOf_of {lN : List Value} {p y j : Nat} (h : lN[p * 4 + y]? = some (.int .i64 (j : Nat))) : mxOf lN p y = j := by
  unfold mxOf
  rw [List.getD_eq_getElem?_getD, h]; rfl
theorem fstP_of {step : Value → Nat → Value} {L : Nat} (hL : L ≤ 4) {start : Value} {keys lB lL lN : List Value} (h : Bfs step L start keys.length keys lB lL lN) : FstP (mxOf lN) L keys.length := fun j h1 h2 => by
  obtain ⟨p, y, a1, _, a3, a4, a5⟩ := h.fst hL j h1 h2
  refine ⟨p, y, a1, a3, mxOf_of a4, fun p' y' b1 b2 => ?_⟩
  obtain ⟨j', c1, c2⟩ := a5 p' y' b1 b2
  rw [mxOf_of c2]; exact c1
theorem LeastM.cl0 {mx : Nat → Nat → Nat} {mg : Nat → Bool} {L N cnt : Nat} {mxL : Nat → Nat → Nat} {mgL : Nat → Bool} {cl : Nat → Nat} (h : LeastM mx mg L N cnt mxL mgL cl) (hN : 0 < N) : cl 0 = 0 ∧ 0 < cnt := by
  have h0 := h.moore.lt 0 hN
  obtain ⟨q, _, hq, hp⟩ := h.moore.sur 0 (by omega)
  by_cases e : q = 0
  · subst e; exact ⟨hq, by omega⟩
  · have := hp 0 (by omega); omega
/-- so are the classes -/
theorem LeastM.fstP {mx : Nat → Nat → Nat} {mg : Nat → Bool} {L N cnt : Nat} {mxL : Nat → Nat → Nat} {mgL : Nat → Bool} {cl : Nat → Nat} (h : LeastM mx mg L N cnt mxL mgL cl) (hL : L ≤ 4) (hN : 0 < N) (hF : FstP mx L N) : FstP mxL L cnt := fun c hc0 hc => by
  obtain ⟨q, hq, hqc, hpre⟩ := h.moore.sur c hc
  have hq0 : 0 < q := by
    rcases Nat.eq_zero_or_pos q with e | e
    · rw [e, (h.cl0 hN).1] at hqc; omega
    · exact e
  obtain ⟨p, y, a1, a3, a4, a5⟩ := hF q hq0 hq
  have hpN : p < N := by omega
  obtain ⟨q2, hq2, hqc2, hpre2⟩ := h.moore.sur (cl p) (h.moore.lt p hpN)
  have hle : ¬ p < q2 := fun e => by have := hpre2 p e; omega
  have heq : q2 = p := by
    rcases Nat.lt_or_ge q2 p with e | e
    · have h1 := hpre _ (a5 q2 y a3 (.inl e))
      rw [← h.nx q2 y hq2 (by omega), hqc2, h.nx p y hpN (by omega), a4] at h1
      omega
    · omega
  subst heq
  refine ⟨cl q2, y, hqc ▸ hpre q2 a1, a3, by rw [h.nx q2 y hpN (by omega), a4, hqc], fun d' y' b1 b2 => ?_⟩
  have hd' : d' < cnt := by have := h.moore.lt q2 hpN; omega
  obtain ⟨q3, hq3, hqc3, hpre3⟩ := h.moore.sur d' hd'
  have hlt : q3 < q2 ∨ q3 = q2 ∧ y' < y := by
    rcases Nat.lt_trichotomy q3 q2 with e | e | e
    · exact .inl e
    · rcases b2 with b2 | ⟨b2, b3⟩
      · rw [e] at hqc3; omega
      · exact .inr ⟨e, b3⟩
    · have := hpre3 q2 e
      rcases b2 with b2 | ⟨b2, b3⟩ <;> omega
  have := hpre _ (a5 q3 y' b1 hlt)
  rw [← hqc3, h.nx q3 y' hq3 (by omega)]; exact this
/-- the keys of a search that finds 0, 1, 2 .. -/
def seqK (m : Nat) : List Value := (List.range m).map fun s => Value.int .i64 (s : Nat)
theorem seqK_len (m : Nat) : (seqK m).length = m := by simp [seqK]
theorem seqK_get {m j : Nat} (h : j < m) : (seqK m)[j]? = some (.int .i64 (j : Nat)) := by simp [seqK, h]
theorem seqK_succ (m : Nat) : seqK (m + 1) = seqK m ++ [.int .i64 (m : Nat)] := by simp [seqK, List.range_succ]
theorem RowI.seq {mx : Nat → Nat → Nat} {L N : Nat} (hF : FstP mx L N) (hmx : ∀ s x, s < N → x < L → mx s x < N) {i : Nat} : ∀ {x : Nat} {keys lB lL row keys' lB' lL' : List Value}, RowI (stepA L N mx) (.int .i64 (i : Nat)) i x keys lB lL row keys' lB' lL' → x ≤ L →
    keys = seqK keys.length → i < keys.length → keys.length ≤ N → (∀ p y, p < i → y < L → mx p y < keys.length) → keys' = seqK keys'.length ∧ keys.length ≤ keys'.length ∧ keys'.length ≤ N ∧ ∀ y, y < x → mx i y < keys'.length
  | 0, _, _, _, _, _, _, _, h, _, h1, h2, h3, h4 => by
    obtain ⟨rfl, _, _, _⟩ := h
    exact ⟨h1, Nat.le_refl _, h3, fun y hy => by omega⟩
  | x + 1, keys, _, _, _, _, _, _, h, hx, h1, h2, h3, h4 => by
    obtain ⟨r1, k1, B1, L1, j0, g1, g2, rfl⟩ := h
    obtain ⟨e1, e2, e3, e4⟩ := RowI.seq hF hmx g1 (by omega) h1 h2 h3 h4
    rw [stepA_eq (by omega) (by omega)] at g2
    obtain ⟨f1, ⟨k, f2, f3⟩, ⟨rfl, _, _⟩ | ⟨rfl, f4, rfl, _, _⟩⟩ := g2
    · refine ⟨e1, e2, e3, fun y hy => ?_⟩
      by_cases e : y = x
      · rw [e1, seqK_get f1] at f2
        cases f2
        rw [e, key3_eq f3]; exact f1
      · exact e4 y (by omega)
    · have hge : k1.length ≤ mx i x := by
        rcases Nat.lt_or_ge (mx i x) k1.length with e | e
        · have := f4 (.int .i64 (mx i x : Nat)) (by rw [e1]; exact List.mem_of_getElem? (seqK_get e))
          rw [key3_self] at this; cases this
        · exact e
      have hlt := hmx i x (by omega) (by omega)
      have heq : mx i x = k1.length := by
        rcases Nat.eq_or_lt_of_le hge with e | e
        · exact e.symm
        · obtain ⟨p, y, a1, a3, a4, a5⟩ := hF k1.length (by omega) (by omega)
          rcases Nat.lt_trichotomy p i with b | b | b
          · have := h4 p y b a3; omega
          · subst b
            rcases Nat.lt_trichotomy y x with b' | b' | b'
            · have := e4 y b'; omega
            · subst b'; omega
            · have := a5 p x (by omega) (.inr ⟨rfl, b'⟩); omega
          · have := a5 i x (by omega) (.inl b); omega
      have hlen : (k1 ++ [Value.int .i64 (mx i x : Nat)]).length = k1.length + 1 := by simp
      rw [hlen, heq]
      refine ⟨by rw [seqK_succ, ← e1], by omega, by omega, fun y hy => ?_⟩
      by_cases e : y = x
      · rw [e]; omega
      · have := e4 y (by omega); omega
theorem Bfs.seq {mx : Nat → Nat → Nat} {L N : Nat} (hF : FstP mx L N) (hmx : ∀ s x, s < N → x < L → mx s x < N) (hN : 0 < N) : ∀ {i : Nat} {keys lB lL lN : List Value}, Bfs (stepA L N mx) L (.int .i64 0) i keys lB lL lN →
    keys = seqK keys.length ∧ 0 < keys.length ∧ keys.length ≤ N ∧ ∀ p y, p < i → y < L → mx p y < keys.length
  | 0, _, _, _, _, h => by
    obtain ⟨rfl, _, _, _⟩ := h
    exact ⟨rfl, by simp, by simp; omega, fun p y hp => by omega⟩
  | i + 1, _, _, _, _, h => by
    obtain ⟨k0, B0, L0, N0, key, row, g1, g2, g3, rfl⟩ := h
    obtain ⟨e1, e2, e3, e4⟩ := Bfs.seq hF hmx hN g1
    have hik := (List.getElem?_eq_some_iff.1 g2).1
    rw [e1, seqK_get hik] at g2
    cases g2
    obtain ⟨a1, a2, a3, a4⟩ := g3.seq hF hmx (Nat.le_refl _) e1 hik e3 e4
    refine ⟨a1, by omega, a3, fun p y hp hy => ?_⟩
    by_cases e : p = i
    · rw [e]; exact a4 y hy
    · have := e4 p y (by omega) hy; omega
/-- a search over such states finds just them, in their order -/
theorem bfs_all {mx : Nat → Nat → Nat} {L N : Nat} (hF : FstP mx L N) (hmx : ∀ s x, s < N → x < L → mx s x < N) (hN : 0 < N) {keys lB lL lN : List Value} (h : Bfs (stepA L N mx) L (.int .i64 0) keys.length keys lB lL lN) : keys = seqK N ∧ keys.length = N := by
  obtain ⟨e1, e2, e3, e4⟩ := h.seq hF hmx hN
  have : keys.length = N := by
    rcases Nat.eq_or_lt_of_le e3 with e | e
    · exact e
    · obtain ⟨p, y, a1, a3, a4, a5⟩ := hF keys.length e2 e
      have := e4 p y a1 a3; omega
  exact ⟨by rw [← this]; exact e1, this⟩
end Go.Proofs.Ytnnfobmfffbhaaa

open Go Go.Eng
namespace Go.Proofs.Ytnnfobmfffbhaaa
attribute [local congr] undef_congr WpK.congr WpS.congr WpL.congr WpC.congr WpF.congr gotS.congr callS.congr nextS.congr wantS.congr condS.congr
attribute [local irreducible] WpK
attribute [local simp] WpDr_nil WpDr_cons atS_some dwantS_true dwantS_false kindS_light kindS_float kindS_heavy lightS_value floatS_some heavyS_value heavyS_skip heavyS_enter dcallS_some doneS_eq
  isLight isFloat isPlain dLook testBit_dec dChain dLights_nil dLights_skip dLights_one dLight_nil dLight_cons dFreshes_nil dFreshes_one oneF_none oneF_some dFresh_nil dFresh_cons oneL_some oneW_true oneW_false sameV_value dPut dMay valEq arrEq listEq List.getElem?_cons Tr.get_nil dEnd
attribute [local simp] WpS_nil WpS_cons isDefer undef_false wantS_true wantS_false nextS_value nextS_skip nextS_enter callS_some gotS_some aWanted aOp aEvalF aEval opMove opAssign opPick aVal flat flat1 AAct.put opBinOp opConvert opIndex Tr.get_set Tr.get_lay aBin aResults tupled
  aCall aVals aCallB blt_dec ble_dec beq_dec aBinI_add aBinI_sub aBinI_lss aBinI_leq aBinI_gtr aBinI_geq aBinI_eql aBinI_neq index_str len_str len_slice Nat.beq_refl und3 und37 und5 und9
  opBox opLoad opFieldAddr opIndexAddr acells aAddr field25 und22 und23 und43 und4 und28
attribute [local simp] field31 conv_3_5 conv_3_37 conv_37_3 conv_5_3
set_option maxHeartbeats 4000000
theorem RowI.link {step : Value → Nat → Value} {key : Value} {i : Nat} : ∀ {x : Nat} {keys lB lL row keys' lB' lL' : List Value}, RowI step key i x keys lB lL row keys' lB' lL' → i < keys.length → (keys.length = lB.length ∧ keys.length = lL.length ∧ Back keys lB lL) →
    ∀ j, keys.length ≤ j → j < keys'.length → ∃ y : Nat, y < x ∧ lB'[j]? = some (.int .i64 (i : Nat)) ∧ lL'[j]? = some (.int .u8 ((97 + y : Nat) : Int)) ∧ keys'[j]? = some (step key y)
  | 0, _, _, _, _, _, _, _, h, _, _, j, h1, h2 => by
    obtain ⟨rfl, _, _, _⟩ := h
    omega
  | x + 1, _, _, _, _, _, _, _, h, hi, hb, j, h1, h2 => by
    obtain ⟨r1, k1, B1, L1, j0, g1, g2, _⟩ := h
    obtain ⟨e1, e2, _⟩ := g1.back hi hb
    obtain ⟨_, _, ⟨rfl, rfl, rfl⟩ | ⟨_, _, rfl, rfl, rfl⟩⟩ := g2
    · obtain ⟨y, a1, a2, a3, a4⟩ := RowI.link g1 hi hb j h1 h2
      exact ⟨y, by omega, a2, a3, a4⟩
    · by_cases e : j < k1.length
      · obtain ⟨y, a1, a2, a3, a4⟩ := RowI.link g1 hi hb j h1 e
        exact ⟨y, by omega, by rw [List.getElem?_append_left (by omega)]; exact a2, by rw [List.getElem?_append_left (by omega)]; exact a3, by rw [List.getElem?_append_left (by omega)]; exact a4⟩
      · have hj : j = k1.length := by simp at h2; omega
        subst hj
        exact ⟨x, by omega, by rw [e1]; simp, by rw [e2]; simp, by simp⟩
theorem Bfs.link {step : Value → Nat → Value} {L : Nat} {start : Value} : ∀ {i : Nat} {keys lB lL lN : List Value}, Bfs step L start i keys lB lL lN →
    lB[0]? = some (.int .i64 (-1)) ∧ ∀ j, 0 < j → j < keys.length → ∃ p y : Nat, p < j ∧ y < L ∧ lB[j]? = some (.int .i64 (p : Nat)) ∧ lL[j]? = some (.int .u8 ((97 + y : Nat) : Int)) ∧ ∃ kp, keys[p]? = some kp ∧ keys[j]? = some (step kp y)
  | 0, _, _, _, _, h => by
    obtain ⟨rfl, rfl, rfl, _⟩ := h
    exact ⟨rfl, fun j h1 h2 => by simp at h2; omega⟩
  | i + 1, _, _, _, _, h => by
    obtain ⟨k0, B0, L0, N0, key, row, g1, g2, g3, rfl⟩ := h
    obtain ⟨e0, e1⟩ := Bfs.link g1
    obtain ⟨b1, b2, b3⟩ := g1.back
    have hik := (List.getElem?_eq_some_iff.1 g2).1
    have hl := g3.link hik g1.back
    obtain ⟨⟨rk, rfl⟩, ⟨rB, rfl⟩, ⟨rL, rfl⟩⟩ := g3.grows
    refine ⟨by rw [List.getElem?_append_left (by omega)]; exact e0, fun j h1 h2 => ?_⟩
    by_cases e : j < k0.length
    · obtain ⟨p, y, a1, a2, a3, a4, kp, a5, a6⟩ := e1 j h1 e
      exact ⟨p, y, a1, a2, by rw [List.getElem?_append_left (by omega)]; exact a3, by rw [List.getElem?_append_left (by omega)]; exact a4, kp, by rw [List.getElem?_append_left (by omega)]; exact a5, by rw [List.getElem?_append_left (by omega)]; exact a6⟩
    · obtain ⟨y, a1, a2, a3, a4⟩ := hl j (by omega) h2
      exact ⟨i, y, by omega, a1, a2, a3, key, by rw [List.getElem?_append_left (by omega)]; exact g2, a4⟩
theorem runN_append (nx : Nat → Nat → Nat) (s : Nat) (l m : List UInt8) : runN nx s (l ++ m) = runN nx (runN nx s l) m := by simp [runN]
/-- the word by which a search came to a state leads there -/
theorem path_leads {mx : Nat → Nat → Nat} {L N i : Nat} {keys lB lL lN : List Value} (hL : L ≤ 4) (h : Bfs (stepA L N mx) L (.int .i64 0) i keys lB lL lN) (hk : keys = seqK keys.length) (hN : keys.length ≤ N) : ∀ f j, j < keys.length → j < f →
    ∃ r, bytesOf (pathR lB lL f j).reverse = some r ∧ runN mx 0 r = j ∧ (∀ c ∈ r, badB L c = false) ∧ r.length ≤ j
  | 0, j, _, hf => by omega
  | f + 1, j, hj, hf => by
    obtain ⟨e0, e1⟩ := h.link
    rcases Nat.eq_zero_or_pos j with e | e
    · subst e
      rw [pathR_end e0]
      exact ⟨[], rfl, rfl, (fun c hc => by cases hc), Nat.le_refl _⟩
    · obtain ⟨p, y, a1, a2, a3, a4, kp, a5, a6⟩ := e1 j e hj
      obtain ⟨r, r1, r2, r3, r4⟩ := path_leads hL h hk hN f p (by omega) (by omega)
      rw [hk, seqK_get (by omega)] at a5
      cases a5
      rw [hk, seqK_get hj, stepA_eq (by omega) a2] at a6
      simp only [Option.some.injEq, Value.int.injEq, true_and] at a6
      have hjy : j = mx p y := by omega
      rw [pathR_step a3, a4]
      have hb : (UInt8.ofNat (97 + y)).toNat = 97 + y := by simp; omega
      refine ⟨r ++ [UInt8.ofNat (97 + y)], ?_, ?_, fun c hc => ?_, by simp; omega⟩
      · simp only [Option.toList, List.reverse_append, List.reverse_cons, List.reverse_nil, List.nil_append]
        exact bytesOf_append r1 (by simp only [bytesOf, Int.toNat_natCast])
      · rw [runN_append, r2, hjy]
        show mx p ((UInt8.ofNat (97 + y)).toNat - 97) = _
        rw [hb, show 97 + y - 97 = y from by omega]
      · rcases List.mem_append.1 hc with hc | hc
        · exact r3 c hc
        · rw [List.mem_singleton] at hc
          subst hc
          simp only [badB, hb, Bool.or_eq_false_iff, decide_eq_false_iff_not]
          omega
theorem fnWord36 : T0.funcs.get 36 = some Try.f36 := by kernel_rfl
attribute [local simp] field81
theorem srch3_fld {W : AW} {p m : Nat} {col : Nat → Nat} {keys lB lL lN : List Value} {nN : Nat} (h : Srch W p m 103 101 3 1 col keys lB lL lN nN) (hpos : 0 < keys.length) :
    ∃ b2 b3, W.Has p 2 (.slice (some ⟨b2, 0, none⟩) keys.length 3) ∧ W.Has p 3 (.slice (some ⟨b3, 0, none⟩) keys.length 3) ∧ (∀ i u, lB[i]? = some u → W.Has b2 i u) ∧ (∀ i u, lL[i]? = some u → W.Has b3 i u) := by
  obtain ⟨c, hO, _⟩ := h.obj
  obtain ⟨_, v2, hv2, hG2⟩ := hO.fld 2 _ rfl
  obtain ⟨_, v3, hv3, hG3⟩ := hO.fld 3 _ rfl
  obtain ⟨b2, rfl, _, _, _, hh2⟩ := hG2.has hpos
  obtain ⟨b3, rfl, _, _, _, hh3⟩ := hG3.has hpos
  have hp := hO.lt p (by rw [hO.cp]; omega)
  exact ⟨b2, b3, ⟨hp, by simp only [AW.cell, hO.blk, blt_dec]; exact hv2⟩, ⟨hp, by simp only [AW.cell, hO.blk, blt_dec]; exact hv3⟩, hh2, hh3⟩

theorem word36_wp {W : AW} {p m : Nat} {col : Nat → Nat} {keys lB lL lN : List Value} {nN : Nat} (h : Srch W p m 103 101 3 1 col keys lB lL lN nN) (hB : Back keys lB lL) (hlen : keys.length < 10000) (i0 : Nat) (hi0 : i0 < keys.length) :
    WpF T0 36 [.pointer (some ⟨p, 0, none⟩), .int .i64 i0] W (fun v W' => Ext W W' ∧ ∃ r, v = .string ⟨⟨r⟩⟩ ∧ bytesOf (pathR lB lL keys.length i0).reverse = some r) := by
  refine wpF fnWord36 rfl ?_
  obtain ⟨b2, b3, hp2, hp3, hh2, hh3⟩ := srch3_fld h (by omega)
  refine wpK_reg (fun R hR => by simp; exact hR) ?_
  try simp only [wpK_assoc]
  refine wpK_reg (fun R hR => by simp; exact hR) ?_
  refine wpK_while (I := fun k A W' => A.n = 35 ∧ A.defers = [] ∧ A.tmps.get 0 = some (.pointer (some ⟨p, 0, none⟩)) ∧ Ext W W' ∧ ∃ (i : Nat) (v : Value) (out : List Value), k = i + 1 ∧ i < keys.length ∧ A.tmps.get 1 = some (.int .i64 i) ∧ A.tmps.get 5 = some v ∧
        GrowsN W' v out.length out 5 1 (fun b => W.next ≤ b) ∧ (∀ x ∈ out, ∃ k, x = .int .u8 k) ∧ out.length + i < keys.length ∧ ∃ f, i < f ∧ pathR lB lL keys.length i0 = out ++ pathR lB lL f i)
      (J := fun A W' => A.n = 35 ∧ A.defers = [] ∧ Ext W W' ∧ ∃ (v : Value) (out : List Value), A.tmps.get 5 = some v ∧ GrowsN W' v out.length out 5 1 (fun b => W.next ≤ b) ∧ (∀ x ∈ out, ∃ k, x = .int .u8 k) ∧ out.length < keys.length ∧ pathR lB lL keys.length i0 = out)
      (Rt := fun _ _ => False) (k := i0 + 1) ?_ ?_ ?_ ?_
  · exact ⟨rfl, rfl, by simp, .refl _ _, i0, .slice none 0 0, [], rfl, hi0, by simp, by simp, .nil _ _ _ _, by simp, by simpa using hi0, keys.length, hi0, rfl⟩
  · rintro k ⟨t, n, ds⟩ W' ⟨hn, hd, h0, hE, i, v, out, hk, hi, h1, h5, hG, hu, hol, f, hf, hpath⟩ Q' hJ hRt hI
    simp only at hn hd h0 h1 h5
    subst hn; subst hd
    obtain ⟨kb, hkb, hkb1, hkb2⟩ := hB.bef i hi
    obtain ⟨kl, hkl⟩ := hB.let_ i hi
    have hl2 := load_ext und43 rfl hp2 hE
    have hl3 := load_ext und38 rfl hp3 hE
    have ha2 := indexAddr_slice (b := b2) (o := 0) (c := 3) (k := .i64) und43 sz3 hi
    have ha3 := indexAddr_slice (b := b3) (o := 0) (c := 3) (k := .i64) und38 sz5 hi
    simp only [Nat.zero_add, Nat.mul_one] at ha2 ha3
    have hv2 := load_ext und3 rfl (hh2 i _ hkb) hE
    have hv3 := load_ext und5 rfl (hh3 i _ hkl) hE
    try simp only [wpK_assoc]
    by_cases hneg : kb = -1
    · subst hneg
      refine wpK_reg (fun R hR => by simp [h0, h1, opNilCheck, nilck, field81, hl2, ha2, hv2]; exact hR) ?_
      refine wpK_out (by simp) (hJ _ _ ⟨rfl, rfl, hE, v, out, by simp [h5], hG, hu, by omega, ?_⟩)
      rw [hpath]
      cases f with
      | zero => omega
      | succ f => simp only [pathR, hkb]; simp
    · obtain ⟨j, hj⟩ : ∃ j : Nat, kb = j := ⟨kb.toNat, by omega⟩
      subst hj
      refine wpK_reg (fun R hR => by simp [h0, h1, opNilCheck, nilck, field81, hl2, ha2, hv2, hneg]; exact hR) ?_
      refine wpK_onT (by simp) ?_
      refine wpK_block1 ?_
      have hEn : Ext W' (W'.newCells 5 [.int .u8 kl]) := .newCells _ _ _
      have hx : (W'.newCells 5 [.int .u8 kl]).cellsAt W'.next 0 1 = some [.int .u8 kl] := newCells_cellsAt W' 5 [.int .u8 kl] 1 rfl
      obtain ⟨v', W4, a1, a2, a3, a4⟩ := append_growsN (T := T0) (t := 92) (i := Try.t5) (z := .int .u8 0) (sz := 1) (by omega) und38 inf5' rfl rfl rfl (hG.only (K' := fun _ => False) hEn (fun _ _ _ x => x)) (u := [.int .u8 kl]) (c := 2) rfl hx rfl (by show 2 * (out.length + 1) * 1 ≤ _; omega) (by omega)
      have hE4 : Ext W W4 := ⟨by rw [a2, newCells_next]; have := hE.1; omega, fun b hb hk => by rw [a4.2 b (by rw [newCells_next]; have := hE.1; omega) (by omega), hEn.2 b (by have := hE.1; omega) (fun x => x)]; exact hE.2 b hb hk⟩
      have hl24 := load_ext und43 rfl hp2 hE4
      have hv24 := load_ext und3 rfl (hh2 i _ hkb) hE4
      try simp only [wpK_assoc]
      refine wpK_reg (fun R hR => by simp [h0, h1, h5, opNilCheck, nilck, field81, hl3, ha3, hv3, opBuildSlice, aParts, aValW, bs38, a1]; exact hR) ?_
      try simp only [wpK_assoc]
      refine wpK_reg1 (fun R hR => by simp [h0, h1, opNilCheck, nilck, field81, hl24, ha2, hv24]; exact hR) ?_
      refine hI (j + 1) _ _ (by omega) ⟨rfl, rfl, by simp [h0], hE4, j, v', out ++ [.int .u8 kl], rfl, by omega, by simp, by simp, ?_, ?_, by simp; omega, f - 1, by omega, ?_⟩
      · rw [List.length_append]
        refine a3.mono (fun b hb => hb.elim (fun x => x) (fun e => by rw [newCells_next] at e; have := hE.1; omega))
      · intro x hx
        rcases List.mem_append.1 hx with hx | hx
        · exact hu x hx
        · rw [List.mem_singleton] at hx; exact ⟨kl, hx⟩
      · rw [hpath]
        cases f with
        | zero => omega
        | succ f =>
          show out ++ pathR lB lL (f + 1) i = _
          have e : pathR lB lL (f + 1) i = lL[i]?.toList ++ pathR lB lL f j := by
            show (match lB[i]? with | some (.int _ (.ofNat k)) => lL[i]?.toList ++ pathR lB lL f k | _ => []) = _
            rw [hkb]
          rw [e, hkl]; simp
  · rintro A' W' hf; exact hf.elim
  · rintro ⟨t, n, ds⟩ W' ⟨hn, hd, hE, v, out, h5, hG, hu, hol, hpath⟩
    simp only at hn hd h5
    subst hn; subst hd
    try simp only [wpK_assoc]
    refine wpK_regc (J := fun A W'' => A.n = 35 ∧ A.defers = [] ∧ A.tmps.get 5 = some v ∧ Only (fun b => W.next ≤ b) W' W'' ∧ GrowsN W'' v out.length out.reverse 5 1 (fun b => W.next ≤ b)) (fun R hR => ?_) ?_
    · simp [h5, aEnter, fun51, short_other, aCallV]
      rw [callS_none]
      refine (reverse_wp hG hu (by omega)).mono ?_
      rintro _ W'' ⟨g1, g2⟩
      simp
      apply hR
      exact ⟨rfl, rfl, by simp [h5], g1, g2⟩
    rintro ⟨t, n, ds⟩ W'' ⟨hn, hd, h5, hO, hG2⟩
    simp only at hn hd h5
    subst hn; subst hd
    rw [← List.length_reverse] at hG2
    obtain ⟨r, hr1, hr2⟩ := conv_grown hG2 (fun x hx => hu x (by simpa using hx))
    try simp only [wpK_assoc]
    refine wpK_reg (fun R hR => by simp [h5, hr2]; exact hR) ?_
    refine wpK_ret ⟨.inr rfl, rfl, [.string ⟨⟨r⟩⟩], by simp, ⟨by have := hE.1; have := hO.1; omega, fun b hb hx => by rw [hO.2 b (by have := hE.1; omega) (by omega)]; exact hE.2 b hb hx⟩, r, rfl, by rw [hpath]; exact hr1⟩
end Go.Proofs.Ytnnfobmfffbhaaa

open Go Go.Eng
namespace Go.Proofs.Ytnnfobmfffbhaaa
attribute [local congr] undef_congr WpK.congr WpS.congr WpL.congr WpC.congr WpF.congr gotS.congr callS.congr nextS.congr wantS.congr condS.congr
attribute [local irreducible] WpK
attribute [local simp] WpDr_nil WpDr_cons atS_some dwantS_true dwantS_false kindS_light kindS_float kindS_heavy lightS_value floatS_some heavyS_value heavyS_skip heavyS_enter dcallS_some doneS_eq
  isLight isFloat isPlain dLook testBit_dec dChain dLights_nil dLights_skip dLights_one dLight_nil dLight_cons dFreshes_nil dFreshes_one oneF_none oneF_some dFresh_nil dFresh_cons oneL_some oneW_true oneW_false sameV_value dPut dMay valEq arrEq listEq List.getElem?_cons Tr.get_nil dEnd
attribute [local simp] WpS_nil WpS_cons isDefer undef_false wantS_true wantS_false nextS_value nextS_skip nextS_enter callS_some gotS_some aWanted aOp aEvalF aEval opMove opAssign opPick aVal flat flat1 AAct.put opBinOp opConvert opIndex Tr.get_set Tr.get_lay aBin aResults tupled
  aCall aVals aCallB blt_dec ble_dec beq_dec aBinI_add aBinI_sub aBinI_lss aBinI_leq aBinI_gtr aBinI_geq aBinI_eql aBinI_neq index_str len_str len_slice Nat.beq_refl und3 und37 und5 und9
  opBox opLoad opFieldAddr opIndexAddr acells aAddr field25 und22 und23 und43 und4 und28
attribute [local simp] field31 conv_3_5 conv_3_37 conv_37_3 conv_5_3
set_option maxHeartbeats 4000000
attribute [local simp] field57
theorem undStrs : T0.und.get 33 = some (.slice 9) := by kernel_rfl
theorem infStrs : T0.info.get 33 = some Try.t33 := by kernel_rfl
theorem zeroStrs : aZero T0 33 = some (.slice none 0 0) := by kernel_rfl
theorem zeroSrch : aZero T0 72 = some (.pointer none) := by kernel_rfl
theorem infSrch : T0.info.get 72 = some Try.t72 := by kernel_rfl
theorem z9 : Try.t9.zero = some (.string ⟨#[]⟩) := by kernel_rfl
theorem s9 : Try.t9.size = 1 := by kernel_rfl
theorem fill9 (b : ByteArray) : aFill (fun j => some (j, 1)) (rep [.string ⟨#[]⟩] 1) [(0, .string b)] = some [.string b] := by kernel_rfl
theorem fnClassesStep : T0.funcs.get 35 = some Try.f35 := by kernel_rfl
theorem fnClasses : T0.funcs.get 11 = some Try.f11 := by kernel_rfl
/-- a step of the least machine -/
theorem stepC_wp {L N bs gs c1 c2 b4 : Nat} {mx : Nat → Nat → Nat} {mg : Nat → Bool} {W : AW} (hM : MachAt W L N bs gs c1 c2 mx mg) (h4 : W.Has b4 1 (.slice (some ⟨bs, 0, none⟩) N c1)) {s x : Nat} (hs : s < N) (hx : x < 4) :
    WpF T0 35 [.int .i64 (s : Nat), .int .i64 (x : Nat), .pointer (some ⟨b4, 0, none⟩)] W (fun v W' => W' = W ∧ v = .int .i64 (mx s x : Nat)) := by
  refine wpF fnClassesStep rfl ?_
  refine wpK_reg (fun R hR => by simp; exact hR) ?_
  have hn4 := load_ext und55 rfl h4 (.refl _ _)
  have ha1 := indexAddr_slice (b := bs) (o := 0) (c := c1) (k := .i64) und55 sz85 hs
  have ha2 := indexAddr_85' bs (s * 4) x .i64 hx
  have hv := load_ext und3 rfl (hM.row s x hs hx) (.refl _ _)
  simp only [Nat.zero_add] at ha1
  try simp only [wpK_assoc]
  refine wpK_reg (fun R hR => by simp [hn4, ha1, ha2, hv]; exact hR) ?_
  exact wpK_ret ⟨.inr rfl, rfl, [.int .i64 (mx s x : Nat)], by simp, rfl, rfl⟩
/-- a word of the classes -/
def WordTo (mx : Nat → Nat → Nat) (L : Nat) (ws : List Value) (j : Nat) : Prop := ∃ r : List UInt8, ws[j]? = some (.string ⟨⟨r⟩⟩) ∧ runN mx 0 r = j ∧ (∀ c ∈ r, badB L c = false) ∧ r.length ≤ j
structure Cls (mx : Nat → Nat → Nat) (L : Nat) (W5 : AW) (col0 : Nat → Nat) (pm : Nat) (i : Nat) (keys _lB _lL _lN : List Value) (col : Nat → Nat) (W' : AW) : Prop where
  le : i ≤ keys.length
  next : W5.next ≤ W'.next
  fix : ∀ b, b < W5.next → col0 b = 0 → b ≠ pm → col b = 0 ∧ W'.blocks.get b = W5.blocks.get b
  cpm : col pm = 0
  list : ∃ (colG : Nat → Nat) (c : Tr Value) (v : Value) (ws : List Value), W'.blocks.get pm = some ⟨.cells c 1 33, []⟩ ∧ c.get 0 = some v ∧
    GrowsN W' v i ws 9 1 (fun b => colG b = 1) ∧ (∀ b, colG b ≠ 0 → col b = 0 ∧ W5.next ≤ b ∧ b < W'.next) ∧ ∀ j, j < i → WordTo mx L ws j
theorem Cls.stab {mx : Nat → Nat → Nat} {L : Nat} {W5 : AW} {col0 : Nat → Nat} {pm : Nat} {i : Nat} {keys lB lL lN : List Value} {col : Nat → Nat} {W' W'' : AW} {keys' lB' lL' lN' : List Value} {col' : Nat → Nat} (hpm : pm < W5.next) (h : Cls mx L W5 col0 pm i keys lB lL lN col W')
    (hk : keys <+: keys') (hO : Only (fun b => col b ≠ 0) W' W'') (h0 : ∀ b, b < W'.next → col b = 0 → col' b = 0) : Cls mx L W5 col0 pm i keys' lB' lL' lN' col' W'' where
  le := Nat.le_trans h.le hk.length_le
  next := Nat.le_trans h.next hO.1
  fix := fun b hb hc hp => by
    obtain ⟨g1, g2⟩ := h.fix b hb hc hp
    have hlt := Nat.lt_of_lt_of_le hb h.next
    exact ⟨h0 b hlt g1, by rw [hO.2 b hlt (fun x => x g1)]; exact g2⟩
  cpm := h0 pm (Nat.lt_of_lt_of_le hpm h.next) h.cpm
  list := by
    obtain ⟨colG, c, v, ws, g1, g4, g5, g6, g7⟩ := h.list
    refine ⟨colG, c, v, ws, by rw [hO.2 pm (Nat.lt_of_lt_of_le hpm h.next) (fun x => x h.cpm)]; exact g1, g4, ?_, fun b hb => ?_, g7⟩
    · exact g5.only hO (fun b _ hb hc => hc (g6 b (by rw [hb]; omega)).1)
    · obtain ⟨q1, q2, q3⟩ := g6 b hb
      exact ⟨h0 b q3 q1, q2, Nat.lt_of_lt_of_le q3 hO.1⟩
theorem LeastM.lt {mx : Nat → Nat → Nat} {mg : Nat → Bool} {L N cnt : Nat} {mxL : Nat → Nat → Nat} {mgL : Nat → Bool} {cl : Nat → Nat} (h : LeastM mx mg L N cnt mxL mgL cl) (hmx : ∀ s x, s < N → x < 4 → mx s x < N) : ∀ s x, s < cnt → x < 4 → mxL s x < cnt := fun c x hc hx => by
  obtain ⟨q, hq, rfl, _⟩ := h.moore.sur c hc
  rw [h.nx q x hq hx]
  exact h.moore.lt _ (hmx q x hq hx)
end Go.Proofs.Ytnnfobmfffbhaaa

open Go Go.Eng
namespace Go.Proofs.Ytnnfobmfffbhaaa
attribute [local congr] undef_congr WpK.congr WpS.congr WpL.congr WpC.congr WpF.congr gotS.congr callS.congr nextS.congr wantS.congr condS.congr
attribute [local irreducible] WpK
attribute [local simp] WpDr_nil WpDr_cons atS_some dwantS_true dwantS_false kindS_light kindS_float kindS_heavy lightS_value floatS_some heavyS_value heavyS_skip heavyS_enter dcallS_some doneS_eq
  isLight isFloat isPlain dLook testBit_dec dChain dLights_nil dLights_skip dLights_one dLight_nil dLight_cons dFreshes_nil dFreshes_one oneF_none oneF_some dFresh_nil dFresh_cons oneL_some oneW_true oneW_false sameV_value dPut dMay valEq arrEq listEq List.getElem?_cons Tr.get_nil dEnd
attribute [local simp] WpS_nil WpS_cons isDefer undef_false wantS_true wantS_false nextS_value nextS_skip nextS_enter callS_some gotS_some aWanted aOp aEvalF aEval opMove opAssign opPick aVal flat flat1 AAct.put opBinOp opConvert opIndex Tr.get_set Tr.get_lay aBin aResults tupled
  aCall aVals aCallB blt_dec ble_dec beq_dec aBinI_add aBinI_sub aBinI_lss aBinI_leq aBinI_gtr aBinI_geq aBinI_eql aBinI_neq index_str len_str len_slice Nat.beq_refl und3 und37 und5 und9
  opBox opLoad opFieldAddr opIndexAddr acells aAddr field25 und22 und23 und43 und4 und28
attribute [local simp] field31 conv_3_5 conv_3_37 conv_37_3 conv_5_3
set_option maxHeartbeats 4000000
attribute [local simp] field57
/-- the first words of the classes -/
theorem classes_wp (L n bN oN cN bG oG cG : Nat) (nx : Nat → Nat → Nat) (gd : Nat → Bool) (W : AW) (hN : Rows W bN oN n L nx) (hG : Goods W bG oG n gd) (hL1 : 1 ≤ L) (hL4 : L ≤ 4) (hn : 1 ≤ n) (hn64 : n ≤ 64) (hnx : ∀ s i, s < n → i < L → nx s i < n) :
    WpF T0 11 [autoV L n bN oN cN bG oG cG] W (fun v W' => Ext W W' ∧ ∃ keys lB lL lN cl cnt mxL mgL, Bfs (stepA L n nx) L (.int .i64 0) keys.length keys lB lL lN ∧ LeastM (mxOf lN) (mgOf gd keys) L keys.length cnt mxL mgL cl ∧
      ∃ b c ws, v = .tuple ⟨[.slice (some ⟨b, 0, none⟩) cnt c, .int .i64 0]⟩ ∧ (∀ j u, ws[j]? = some u → W'.Has b j u) ∧ ∀ j, j < cnt → WordTo mxL L ws j) := by
  refine wpFd fnClasses rfl ?_
  refine wpK_reg (fun R hR => by simp; exact hR) ?_
  obtain ⟨W1, hW1, hE1, hn1, hld⟩ : ∃ W1, W1 = W.newCells 28 [.int .i64 L, .slice (some ⟨bN, oN, none⟩) n cN, .slice (some ⟨bG, oG, none⟩) n cG] ∧ Ext W W1 ∧ W1.next = W.next + 1 ∧
      (∀ W', Ext W1 W' → aLoadVar T0 W' 28 W.next 0 = some (autoV L n bN oN cN bG oG cG)) := by
    have hA : ∀ j u, [Value.int .i64 (L : Nat), .slice (some ⟨bN, oN, none⟩) n cN, .slice (some ⟨bG, oG, none⟩) n cG][j]? = some u → (W.newCells 28 [.int .i64 L, .slice (some ⟨bN, oN, none⟩) n cN, .slice (some ⟨bG, oG, none⟩) n cG]).Has W.next j u := fun j u h => Has.newCells h
    refine ⟨_, rfl, .newCells _ _ _, rfl, fun W' h => ?_⟩
    refine load31 (cellsAt_of_cells rfl ⟨_, by rw [h.2 _ (by simp only [newCells_next]; omega) (fun x => x), newCells_get, if_pos rfl]⟩ (fun j hj => ?_) (by omega))
    rw [Nat.zero_add]
    match j, hj with
    | 0, _ => exact ((hA 0 _ rfl).ext h).2
    | 1, _ => exact ((hA 1 _ rfl).ext h).2
    | 2, _ => exact ((hA 2 _ rfl).ext h).2
  rw [← hW1]
  clear hW1
  try simp only [wpK_assoc]
  refine wpK_regc (J := fun A' W' => Ext W1 W' ∧ A'.n = 31 ∧ A'.defers = [] ∧ A'.tmps.get 1 = some (.pointer (some ⟨W.next, 0, none⟩)) ∧ A'.tmps.get 4 = some (.int .i64 0)) (fun R hR => ?_) ?_
  · simp [hld W1 (.refl _ _), aEnter, fun15, short_other, aCallV]
    rw [callS_none]
    refine (check_wp L n bN oN cN bG oG cG nx W1 (hN.ext hE1) hL1 hL4 hn hn64 hnx).mono (fun v W₂ ⟨hE2, hv⟩ => ?_)
    subst hv
    simp
    apply hR
    exact ⟨hE2, rfl, rfl, by simp, by simp⟩
  rintro ⟨t, m, ds⟩ W2 ⟨hE2, hm, hd, h1, h4⟩
  simp only at hm hd h1 h4
  subst hm; subst hd
  try simp only [wpK_assoc]
  refine wpK_reg (fun R hR => by simp [h4]; exact hR) ?_
  refine wpK_onF (by simp) ?_
  have hE02 := hE1.trans hE2
  -- the least machine
  try simp only [wpK_assoc]
  refine wpK_regc (J := fun A W' => A.n = 31 ∧ A.defers = [] ∧ ∃ b5, A.tmps.get 5 = some (.pointer (some ⟨b5, 0, none⟩)) ∧ Ext W2 W' ∧ W2.next ≤ b5 ∧ ∃ keys lB lL lN cl cnt mxL mgL bs gs, Bfs (stepA L n nx) L (.int .i64 0) keys.length keys lB lL lN ∧ LeastM (mxOf lN) (mgOf gd keys) L keys.length cnt mxL mgL cl ∧
      W'.Has b5 0 (.int .i64 L) ∧ W'.Has b5 1 (.slice (some ⟨bs, 0, none⟩) cnt (2 * cnt)) ∧ MachAt W' L cnt bs gs (2 * cnt) (2 * cnt) mxL mgL) (fun R hR => ?_) ?_
  · simp [h1, hld W2 hE2, aEnter, fnLeast31, short_other, aCallV]
    rw [callS_none]
    refine (least31_wp L n bN oN cN bG oG cG nx gd W2 (hN.ext hE02) (hG.ext hE02) hL1 hL4 hn hn64 hnx).mono ?_
    rintro v W3 ⟨hE3, keys, lB, lL, lN, cl, cnt, mxL, mgL, bs, gs, hB, hLM, rfl, hMA⟩
    have hl3 := hE3.1
    obtain ⟨W4, s1, s2, s3, s4⟩ := storeVar_own (T := T0) (t := 69) (W := W3.newCells 69 [.int .i64 0, .slice none 0 0, .slice none 0 0]) (v := machV L cnt bs gs (2 * cnt) (2 * cnt)) (b := W3.next) (o := 0) inf57 rfl (by rw [newCells_get, if_pos rfl]) (by show 0 + 3 ≤ 3; omega) rfl
    have hE4 : Ext W3 W4 := ⟨by rw [s2, newCells_next]; omega, fun b hb _ => by rw [s3 b (by omega), newCells_get, if_neg (by omega)]⟩
    have hn4 : W4.next = W3.next + 1 := s2
    simp [opAlloc, zero57, opStore, s1]
    apply hR
    exact ⟨rfl, rfl, W3.next, by simp, hE3.trans hE4, by omega, keys, lB, lL, lN, cl, cnt, mxL, mgL, bs, gs, hB, hLM, ⟨by omega, by simp only [AW.cell, s4, blt_dec]; rfl⟩, ⟨by omega, by simp only [AW.cell, s4, blt_dec]; rfl⟩, hMA.ext hE4⟩
  rintro ⟨t, m, ds⟩ W3 ⟨hm, hd, b5, h5, hE3, hb5, keysA, lBA, lLA, lNA, cl, cnt, mxL, mgL, bs, gs, hBA, hLM, hm0, hm1, hMA⟩
  simp only at hm hd h5
  subst hm; subst hd
  have hkA : 0 < keysA.length := hBA.pos.length_le
  have hcnt0 := (hLM.cl0 hkA).2
  have hmxL : ∀ s x, s < cnt → x < 4 → mxL s x < cnt := hLM.lt (fun s x hs hx => (mxOf_lt hBA hs hx).1)
  have hmxL' : ∀ s x, s < cnt → x < L → mxL s x < cnt := fun s x hs hx => hmxL s x hs (by omega)
  have hFst : FstP mxL L cnt := hLM.fstP hL4 hkA (fstP_of hL4 hBA)
  have hkn : keysA.length ≤ n := distS_len (hBA.isK (isK := IsS n) (fun h => stepA_is (by omega) hnx h) ⟨0, by omega, rfl⟩) hBA.dist
  have hc64 : cnt ≤ 64 := by have := hLM.moore.le; omega
  have hE03 := hE02.trans hE3
  have hlb5 := hm0.1
  have hl23 := hE3.1
  have hl03 := hE03.1
  -- the search
  try simp only [wpK_assoc]
  refine wpK_regc (J := fun A W4 => A.n = 31 ∧ A.defers = [] ∧ A.tmps.get 5 = some (.pointer (some ⟨b5, 0, none⟩)) ∧ ∃ W4a p m b6, A.tmps.get 6 = some (.pointer (some ⟨b6, 0, none⟩)) ∧ Ext W3 W4a ∧ Ext W4a W4 ∧ p = W3.next + 1 ∧ W4a.next ≤ b6 ∧ W4.Has b6 0 (.pointer (some ⟨p, 0, none⟩)) ∧
      ∃ col, (∀ b, b < W3.next → col b = 0) ∧ (∀ b, W4a.next ≤ b → col b = 0) ∧ Srch W4 p m 103 101 3 1 col [.int .i64 0] [.int .i64 (-1)] [.int .u8 97] [] 0) (fun R hR => ?_) ?_
  · simp [aEnter, fun31, short_other, aCallV]
    rw [callS_none]
    refine (from3_wp 0 W3).mono ?_
    rintro v W4 ⟨rfl, g1, col, g2, g3⟩
    have hl4 := g1.1
    obtain ⟨W5, s1, s2, s3, s4⟩ := storeVar_own (T := T0) (t := 72) (W := W4.newCells 72 [.pointer none]) (v := .pointer (some ⟨W3.next + 1, 0, none⟩)) (b := W4.next) (o := 0) infSrch rfl (by rw [newCells_get, if_pos rfl]) (by show 0 + 1 ≤ 1; omega) rfl
    have hE5 : Ext W4 W5 := ⟨by rw [s2, newCells_next]; omega, fun b hb _ => by rw [s3 b (by omega), newCells_get, if_neg (by omega)]⟩
    have hn5 : W5.next = W4.next + 1 := s2
    simp [opAlloc, zeroSrch, opStore, s1]
    apply hR
    refine ⟨rfl, rfl, by simp [h5], W4, W3.next + 1, W3.next, W4.next, by simp, g1, hE5, rfl, Nat.le_refl _, ⟨by omega, by simp only [AW.cell, s4, blt_dec]; rfl⟩, col, g2, fun b hb => ?_, g3.only (K := fun _ => False) hE5 (fun _ _ _ x => x)⟩
    cases hc : col b with
    | zero => rfl
    | succ y => exact absurd (g3.lt (b := b) (by omega)) (by omega)
  rintro ⟨t, nt, ds⟩ W4 ⟨hnt, hd, h5, W4a, p, m, b6, h6, hE4a, hE4b, hp, hb6, hb6h, col0, hc0, hz0, hS⟩
  simp only at hnt hd h5 h6
  subst hnt; subst hd
  have hE4 := hE4a.trans hE4b
  have hl34 := hE4.1
  have hl4a := hE4a.1
  have hlb6 := hb6h.1
  -- the list
  try simp only [wpK_assoc]
  refine wpK_reg (fun R hR => by simp [opAlloc, zeroStrs]; exact hR) ?_
  obtain ⟨W5, hW5e, hE5, hn5, hpm⟩ : ∃ W5, W5 = W4.newCells 33 [.slice none 0 0] ∧ Ext W4 W5 ∧ W5.next = W4.next + 1 ∧ W5.blocks.get W4.next = some ⟨.cells (Tr.nil.lay 0 [.slice none 0 0]) 1 33, []⟩ :=
    ⟨_, rfl, .newCells _ _ _, rfl, by rw [newCells_get, if_pos rfl]; rfl⟩
  rw [← hW5e]
  clear hW5e
  generalize hpmq : W4.next = pm at hpm
  have hE35 := hE4.trans hE5
  have hS5 := hS.only (K := fun _ => False) hE5 (fun _ _ _ x => x)
  -- the closure
  try simp only [wpK_assoc]
  refine wpK_regc (J := fun A W6 => A.n = 31 ∧ A.defers = [] ∧ A.tmps.get 6 = some (.pointer (some ⟨b6, 0, none⟩)) ∧ A.tmps.get 7 = some (.pointer (some ⟨pm, 0, none⟩)) ∧
      A.tmps.get 21 = some (.func (.func 51) ⟨[]⟩ ⟨[.pointer (some ⟨W5.next, 0, none⟩), .pointer (some ⟨W5.next + 1, 0, none⟩), .pointer (some ⟨W5.next + 2, 0, none⟩)]⟩) ∧ Ext W5 W6 ∧ W6.next = W5.next + 3 ∧
      W6.Has W5.next 0 (.pointer (some ⟨p, 0, none⟩)) ∧ W6.Has (W5.next + 1) 0 (.int .i64 L) ∧ W6.Has (W5.next + 2) 0 (.func (.func 35) ⟨[]⟩ ⟨[.pointer (some ⟨b5, 0, none⟩)]⟩)) (fun R hR => ?_) ?_
  · simp [h5, h6, load_ext und73 rfl hb6h hE5, load_ext und3 rfl hm0 hE35, opMakeFunc, aEnter, fun32, short_other, aCallV]
    rw [callS_none]
    refine (all32_wp p L 35 [] [.pointer (some ⟨b5, 0, none⟩)] W5).mono ?_
    rintro v W6 ⟨rfl, g1, g2, g3, g4, g5⟩
    simp
    apply hR
    exact ⟨rfl, rfl, by simp [h6], by simp [hpmq], by simp, g1, g2, g3, g4, g5⟩
  rintro ⟨t, nt, ds⟩ W6 ⟨hnt, hd, h6, h7, h21, hE6, hn6, hb1, hb2, hb3⟩
  simp only at hnt hd h6 h7 h21
  subst hnt; subst hd
  try simp only [wpK_assoc]
  refine wpK_range2 (f := 51) (first := ⟨[]⟩) (cap := ⟨[.pointer (some ⟨W5.next, 0, none⟩), .pointer (some ⟨W5.next + 1, 0, none⟩), .pointer (some ⟨W5.next + 2, 0, none⟩)]⟩) (by simp [h21]) fun47 (fun W7 hn7 hW7 hdf hlp => ?_)
  have hE67 : Ext W6 W7 := ⟨by omega, fun b hb _ => hW7 b hb⟩
  have hE57 : Ext W5 W7 := hE6.trans hE67
  have hE37 : Ext W3 W7 := hE35.trans hE57
  have hE07 : Ext W W7 := hE03.trans hE37
  have hl07 := hE07.1
  have hpm7 : W7.blocks.get pm = some ⟨.cells (Tr.nil.lay 0 [.slice none 0 0]) 1 33, []⟩ := by rw [hE57.2 pm (by omega) (fun x => x)]; exact hpm
  have hcol0 : ∀ b, col0 b ≠ 0 → b < W4a.next := fun b hb => by
    rcases Nat.lt_or_ge b W4a.next with e | e
    · exact e
    · exact absurd (hz0 b e) hb
  have hl4b := hE4b.1
  have hz : ∀ b, W4a.next ≤ b → col0 b = 0 := hz0
  have hS7 := hS5.only (K := fun _ => False) hE57 (fun _ _ _ x => x)
  have hC0 : Cls mxL L W7 col0 pm 0 [.int .i64 0] [.int .i64 (-1)] [.int .u8 97] [] col0 W7 := by
    refine ⟨Nat.zero_le _, Nat.le_refl _, fun b hb hc _ => ⟨hc, rfl⟩, hz _ (by omega), fun _ => 0, _, .slice none 0 0, [], hpm7, by rw [Tr.get_lay]; rfl, .nil _ _ _ _, fun b hb => absurd rfl hb, fun j hj => by omega⟩
  have hFix : ∀ {i keys lB lL lN col W'}, Cls mxL L W7 col0 pm i keys lB lL lN col W' → ∀ {b o v}, W7.Has b o v → col0 b = 0 → b ≠ pm → W'.Has b o v := fun {i keys lB lL lN col W'} h {b o v} hh hc hp =>
    ⟨Nat.lt_of_lt_of_le hh.1 h.next, by rw [AW.cell_of_get (h.fix b hh.1 hc hp).2]; exact hh.2⟩
  have hOld : ∀ {i keys lB lL lN col W'}, Cls mxL L W7 col0 pm i keys lB lL lN col W' → Ext W3 W' := fun {i keys lB lL lN col W'} h =>
    ⟨Nat.le_trans hE37.1 h.next, fun b hb _ => by rw [(h.fix b (Nat.lt_of_lt_of_le hb hE37.1) (hc0 b (by omega)) (by omega)).2]; exact hE37.2 b hb (fun x => x)⟩
  have hm17 := hm1.ext hE37
  have hb67 := (hb6h.ext hE5).ext hE57
  have hCaller : Caller 72 51 (IsS cnt) L p W5.next (W5.next + 1) (W5.next + 2) (W6.next + 1) 35 [] [.pointer (some ⟨b5, 0, none⟩)] (stepA L cnt mxL) (.int .i64 0) cnt (fun i keys lB lL lN col W => Srch W p m 103 101 3 1 col keys lB lL lN i)
      (Cls mxL L W7 col0 pm) (fun _ _ _ _ _ _ _ => False) := by
    refine ⟨hL4, by omega, ⟨_, fnClassesStep⟩, by decide, ⟨rfl, by simp [listEq, valEq]⟩, fun {i keys lB lL lN col W'} h => ?_, fun {i keys lB lL lN col keys' lB' lL' lN' col' W' W''} h hk _ _ _ hO _ hc => ?_, fun {i keys lB lL lN col W' key x} h hkey hkk hx => ?_, fun h => stepA_is (by omega) hmxL' h, ⟨0, by omega, rfl⟩, fun hB => ?_, fun hB hkey hx hR => ?_, fun {i keys lB lL lN col W' key} h hS' hB hkey => ?_⟩
    · exact ⟨hFix h (hb1.ext hE67) (hz _ (by omega)) (by omega), hFix h (hb2.ext hE67) (hz _ (by omega)) (by omega), hFix h (hb3.ext hE67) (hz _ (by omega)) (by omega)⟩
    · exact h.stab (by omega) hk hO hc
    · obtain ⟨s, hs, rfl⟩ := hkk
      refine (stepC_wp (hMA.ext (hOld h)) (hm1.ext (hOld h)) hs (show x < 4 by omega)).mono ?_
      rintro v W'' ⟨rfl, rfl⟩
      exact ⟨.refl _ _, (stepA_eq hs hx).symm⟩
    · exact distS_len (hB.isK (fun h => stepA_is (by omega) hmxL' h) ⟨0, by omega, rfl⟩) hB.dist
    · exact distS_len (bfs_isK (fun h => stepA_is (by omega) hmxL' h) hR (hB.isK (fun h => stepA_is (by omega) hmxL' h) ⟨0, by omega, rfl⟩ _ (List.mem_of_getElem? hkey)) (hB.isK (fun h => stepA_is (by omega) hmxL' h) ⟨0, by omega, rfl⟩)) (hR.dist hB.dist)
    · have hl : W'.blocks.get (W6.next + 1) = _ := (h.fix _ (by omega) (hz _ (by omega)) (by omega)).2.trans hlp
      obtain ⟨s, hs, rfl⟩ := hB.isK (isK := IsS cnt) (fun h => stepA_is (by omega) hmxL' h) ⟨0, by omega, rfl⟩ key (List.mem_of_getElem? hkey)
      refine ⟨_, _, _, _, _, _, _, _, _, _, (t.set 22 (.int .i64 (i : Nat))).set 23 (.int .i64 (s : Nat)), hl, rfl, ?_⟩
      refine wpR ?_
      refine wpK_reg1 (fun R hR => by simp; exact hR) ?_
      refine ⟨rfl, _, _, _, _, _, _, _, _, hl, ?_⟩
      have hnW := h.next
      obtain ⟨colG, c, v, ws, g1, g4, g5, g6, g7⟩ := h.list
      have hpl : pm < W'.next := by omega
      have hll : W6.next + 1 < W'.next := by omega
      have hOb := fun o => setObj_only W' (W6.next + 1) o
      refine wpK_block1 ?_
      have hlG : colG (W6.next + 1) = 0 := by
        cases hc : colG (W6.next + 1) with
        | zero => rfl
        | succ y => exact absurd (g6 (W6.next + 1) (by omega)).2.1 (by omega)
      have hpG : colG pm = 0 := by
        cases hc : colG pm with
        | zero => rfl
        | succ y => exact absurd (g6 pm (by omega)).2.1 (by omega)
      have hclp : col (W6.next + 1) = 0 := (h.fix _ (by omega) (hz _ (by omega)) (by omega)).1
      have hb6W := hFix h hb67 (hz _ (by omega)) (by omega)
      generalize hbz : (AObj.loop LoopState.busy _ _ _ _ _ _ _ _) = bz
      obtain ⟨Wb, hWb, hObz, hnb, hpb⟩ : ∃ Wb, Wb = W'.setObj (W6.next + 1) bz ∧ Only (fun b => b = W6.next + 1) W' Wb ∧ Wb.next = W'.next ∧ Wb.blocks.get pm = some ⟨.cells c 1 33, []⟩ := ⟨_, rfl, hOb bz, rfl, by rw [setObj_get, if_neg (by omega)]; exact g1⟩
      have hlb : Wb.blocks.get (W6.next + 1) = some ⟨bz, []⟩ := by rw [hWb, setObj_get, if_pos rfl]
      rw [← hWb]
      clear hWb
      have hb6b := hb6W.only hObz (show ¬ b6 = W6.next + 1 from by omega)
      have hSb := hS'.only (K := fun b => b = W6.next + 1) hObz (fun b _ hc e => hc (by rw [e]; exact hclp))
      have hik := (List.getElem?_eq_some_iff.1 hkey).1
      have hklen := distS_len (hB.isK (isK := IsS cnt) (fun h => stepA_is (by omega) hmxL' h) ⟨0, by omega, rfl⟩) hB.dist
      obtain ⟨hseq, _, hkcnt, _⟩ := hB.seq hFst hmxL' hcnt0
      have hcell : Wb.Has pm 0 v := ⟨by omega, by simp only [AW.cell, hpb, blt_dec]; exact g4⟩
      refine wpK_dr1 (wr := Tr.nil |>.set 24 0 |>.set 25 1 |>.set 26 2 |>.set 27 3 |>.set 28 4 |>.set 29 5) (bits := Tr.nil.lay 0 [0, 0, 0, 6, 14, 31, 63]) (ord := [0, 1, 2, 3, 4, 5, 6])
        (J := fun A Wq => ∃ (r : List UInt8) (v' : Value) (nq : Nat), Wb.next ≤ nq ∧ nq < Wq.next ∧ Wq.blocks.get pm = some ⟨.cells (c.set 0 v') 1 33, []⟩ ∧ GrowsN Wq v' (i + 1) (ws ++ [.string ⟨⟨r⟩⟩]) 9 1 (fun b => colG b = 1 ∨ b = nq) ∧ Only (fun b => colG b = 1 ∨ b = pm) Wb Wq ∧
          runN mxL 0 r = i ∧ (∀ c ∈ r, badB L c = false) ∧ r.length ≤ i) (by kernel_rfl) (by kernel_rfl) (by kernel_rfl) (fun G hG' => ?_) ?_
      · simp [h6, h7, load_ext undStrs rfl hcell (.refl _ _), load_ext und73 rfl hb6b (.refl _ _), aEnter, fnWord36, short_other, aCallV]
        rw [dcallS_none]
        refine (word36_wp hSb hB.back.2.2 (by omega) i hik).mono ?_
        rintro r0 W8 ⟨hE8, r, rfl, hr⟩
        obtain ⟨r', q1, q2, q3, q4⟩ := path_leads hL4 hB hseq hkcnt keys.length i hik hik
        rw [hr] at q1
        cases q1
        have hl8 := hE8.1
        have hEn : Ext W8 (W8.newCells 9 [.string ⟨⟨r⟩⟩]) := .newCells _ _ _
        have hEn8 := hE8.trans hEn
        obtain ⟨v', W9, W10, a1, a2, a3, a4, a5, a6, a7, a8⟩ := push_ownN (T := T0) (t := 33) (i := Try.t9) (it := Try.t33) (z := .string ⟨#[]⟩) (o := 0) (u := [.string ⟨⟨r⟩⟩]) (by omega) undStrs inf9 s9 z9 rfl infStrs rfl ((g5.only hObz (fun b hb hc e => by subst e; rw [hlG] at hc; omega)).only (K' := fun _ => False) hE8 (fun _ _ _ x => x)) (show W8.blocks.get pm = _ from (hE8.2 pm (by omega) (fun x => x)).trans hpb) (by omega) (show ¬ colG pm = 1 from by omega) (by omega) rfl rfl (by show 2 * (i + 1) * 16 ≤ _; omega) (by omega)
        have hn4 : (W8.newCells 9 [.string ⟨⟨r⟩⟩]).next ≤ W9.next := by rw [newCells_next]; omega
        have hn5' : W9.next ≤ W10.next := by omega
        have hfr := freshB_new W8 9 [.string ⟨⟨r⟩⟩] (listEq_cons (by simp [valEq]) rfl)
        obtain ⟨sa, sc, rfl⟩ := g5.len
        simp only [Nat.mul_one] at a1
        simp [h6, h7, load_ext undStrs rfl hcell (.refl _ _), load_ext undStrs rfl hcell hE8, load_ext undStrs rfl hcell hEn8, load_ext und73 rfl hb6b (.refl _ _), load_ext und73 rfl hb6b hE8, load_ext und73 rfl hb6b hEn8, hl8, hn4, hn5', hfr, valEq_slice, aFlt, aParts, undStrs, inf9, z9, s9, fill9, AFlt.val, a1, opStore, a2]
        apply hG'
        exact ⟨r, v', W8.next + 1, by omega, by omega, a5, a6, ⟨by omega, fun b hb hk => by rw [a8.2 b (by omega) hk]; exact hE8.2 b hb (fun x => x)⟩, q2, q3, q4⟩
      · rintro A' Wq ⟨r, v', nq, n1, n2, a5, a6, a8, q2, q3, q4⟩
        subst hbz
        have hla8 := a8.1
        have hl5 := (a8.2 (W6.next + 1) (by omega) (fun x => x.elim (fun y => by omega) (fun y => by omega))).trans hlb
        have hwl : ws.length = i := by have := g5.1; omega
        refine ⟨_, _, _, _, _, _, _, _, _, hl5, .inl ⟨rfl, ?_, ?_⟩⟩
        · refine ⟨by rw [setObj_next]; omega, fun b hb hc => ?_⟩
          have hc : ¬ col b = 0 := hc
          have hne : b ≠ W6.next + 1 := fun e => hc (by rw [e]; exact hclp)
          rw [setObj_get, if_neg hne, a8.2 b (by omega) (fun x => x.elim (fun y => hc (g6 b (by omega)).1) (fun y => hc (by rw [y]; exact h.cpm))), hObz.2 b hb hne]
        · refine ⟨hik, by rw [setObj_next]; omega, fun b hb hc hp' => ?_, h.cpm, fun b => if b = nq then 1 else colG b, c.set 0 v', v', ws ++ [.string ⟨⟨r⟩⟩], ?_, by rw [Tr.get_set, if_pos rfl], ?_, fun b hb => ?_, fun j hj => ?_⟩
          · obtain ⟨q1, q2⟩ := h.fix b hb hc hp'
            refine ⟨q1, ?_⟩
            by_cases e : b = W6.next + 1
            · rw [e, setObj_get, if_pos rfl]; exact hlp.symm
            · rw [setObj_get, if_neg e, a8.2 b (by omega) (fun x => x.elim (fun y => by have := (g6 b (by omega)).2.1; omega) hp'), hObz.2 b (by omega) e]; exact q2
          · rw [setObj_get, if_neg (by omega)]; exact a5
          · refine (a6.only (setObj_only _ _ _) (fun b _ hb e => ?_)).mono (fun b hb => ?_)
            · subst e; rcases hb with hb | hb <;> omega
            · show (if b = nq then 1 else colG b) = 1
              rcases hb with hb | hb
              · split
                · rfl
                · exact hb
              · rw [if_pos hb]
          · have hb : (if b = nq then 1 else colG b) ≠ 0 := hb
            rw [setObj_next]
            split at hb
            · rename_i e
              refine ⟨?_, by omega, by omega⟩
              cases hcc : col b with
              | zero => rfl
              | succ y => exact absurd (hS'.lt (b := b) (by omega)) (by omega)
            · obtain ⟨q1, q2, q3⟩ := g6 b hb
              exact ⟨q1, q2, by omega⟩
          · by_cases e : j < i
            · obtain ⟨r', b1, b2, b3, b4⟩ := g7 j e
              exact ⟨r', by rw [List.getElem?_append_left (by omega)]; exact b1, b2, b3, b4⟩
            · have : j = i := by omega
              subst this
              exact ⟨r, by rw [List.getElem?_append_right (by omega), hwl]; simp, q2, q3, q4⟩
  refine (all3_wp (fun v h => h.k3) hCaller hS7 hC0).mono ?_
  rintro _ W8 ⟨keys, lB, lL, lN, col, ⟨hB, hS8, hC8⟩ | ⟨_, hf⟩⟩
  case inr => exact hf.elim
  -- behind the loop
  obtain ⟨_, hkc⟩ := bfs_all hFst hmxL' hcnt0 hB
  have hfix8 : ∀ b, b < W7.next → col0 b = 0 → b ≠ pm → W8.blocks.get b = W7.blocks.get b := fun b hb hc hp => (hC8.fix b hb hc hp).2
  have hnx8 := hC8.next
  have hl8 := (hfix8 (W6.next + 1) (by omega) (hz _ (by omega)) (by omega)).trans hlp
  refine ⟨_, _, _, _, _, _, _, _, _, hl8, (fun h => by cases h), ?_⟩
  show WpK T0 ⟨11, none⟩ _ _ _ _
  generalize hex : (AObj.loop LoopState.exhausted _ _ _ _ _ _ _ _) = ex
  obtain ⟨W9, hW9, hO9, hn9⟩ : ∃ W9, W9 = W8.setObj (W6.next + 1) ex ∧ Only (fun b => b = W6.next + 1) W8 W9 ∧ W9.next = W8.next := ⟨_, rfl, setObj_only _ _ _, rfl⟩
  rw [← hW9]
  clear hW9 hex
  obtain ⟨colG, c, v, ws, g1, g4, g5, g6, g7⟩ := hC8.list
  have hkpos : 0 < keys.length := by omega
  obtain ⟨gs', rfl, hgs1, hgs2, _, hgs3⟩ := g5.has hkpos
  have hpm9 : W9.Has pm 0 (.slice (some ⟨gs', 0, none⟩) keys.length (2 * 1 + 1)) := ⟨by omega, by simp only [AW.cell, hO9.2 pm (by omega) (by omega), g1, blt_dec]; exact g4⟩
  have hl7 := load_ext undStrs rfl hpm9 (.refl _ _)
  try simp only [wpK_assoc]
  refine wpK_reg (fun R hR => by simp [h7, hl7]; exact hR) ?_
  have hdf9 : W9.blocks.get W6.next = some ⟨.deferred (some []), []⟩ := by
    rw [hO9.2 _ (by omega) (by omega), hfix8 _ (by omega) (hz _ (by omega)) (by omega)]; exact hdf
  refine wpK_ret ⟨.inr rfl, W9.setObj W6.next (.deferred none), ⟨W6.next, rfl, hdf9, rfl⟩, [.slice (some ⟨gs', 0, none⟩) keys.length (2 * 1 + 1), .int .i64 0], ?_, ⟨by rw [setObj_next]; omega, fun b hb hx => ?_⟩, keysA, lBA, lLA, lNA, cl, cnt, mxL, mgL, hBA, hLM, gs', _, ws, by rw [hkc]; rfl, fun j u hu => ?_, fun j hj => g7 j (by omega)⟩
  · show aResults T0 _ _ [.tmp 2, .tmp 3] = _
    simp
  · rw [setObj_get, if_neg (by omega), hO9.2 _ (by omega) (by omega), hfix8 _ (by omega) (hc0 _ (by omega)) (by omega)]
    exact hE07.2 b hb hx
  · have hgb := (g6 gs' (by rw [hgs1]; omega)).2.1
    have hh := hgs3 j u hu
    exact ⟨by rw [setObj_next]; have := hh.1; omega, (AW.cell_of_get (W := W8) (by rw [setObj_get, if_neg (by omega), hO9.2 _ hh.1 (by omega)]) _).trans hh.2⟩
end Go.Proofs.Ytnnfobmfffbhaaa

open Go Go.Eng
namespace Go.Proofs.Ytnnfobmfffbhaaa
attribute [local congr] undef_congr WpK.congr WpS.congr WpL.congr WpC.congr WpF.congr gotS.congr callS.congr nextS.congr wantS.congr condS.congr
attribute [local irreducible] WpK
attribute [local simp] WpDr_nil WpDr_cons atS_some dwantS_true dwantS_false kindS_light kindS_float kindS_heavy lightS_value floatS_some heavyS_value heavyS_skip heavyS_enter dcallS_some doneS_eq
  isLight isFloat isPlain dLook testBit_dec dChain dLights_nil dLights_skip dLights_one dLight_nil dLight_cons dFreshes_nil dFreshes_one oneF_none oneF_some dFresh_nil dFresh_cons oneL_some oneW_true oneW_false sameV_value dPut dMay valEq arrEq listEq List.getElem?_cons Tr.get_nil dEnd
attribute [local simp] WpS_nil WpS_cons isDefer undef_false wantS_true wantS_false nextS_value nextS_skip nextS_enter callS_some gotS_some aWanted aOp aEvalF aEval opMove opAssign opPick aVal flat flat1 AAct.put opBinOp opConvert opIndex Tr.get_set Tr.get_lay aBin aResults tupled
  aCall aVals aCallB blt_dec ble_dec beq_dec aBinI_add aBinI_sub aBinI_lss aBinI_leq aBinI_gtr aBinI_geq aBinI_eql aBinI_neq index_str len_str len_slice Nat.beq_refl und3 und37 und5 und9
  opBox opLoad opFieldAddr opIndexAddr acells aAddr field25 und22 und23 und43 und4 und28
attribute [local simp] field31 conv_3_5 conv_3_37 conv_37_3 conv_5_3
set_option maxHeartbeats 4000000
attribute [local simp] field57
theorem append_lit {T : Tabs} {W : AW} {t el : TypeId} {i : TypeInfo} {z : Value} {sz : Nat} (ht : T.und.get t = some (.slice el)) (hi : T.info.get el = some i) (hs : i.size = sz) (hz : i.zero = some z) (hz1 : (acells z).length = sz)
    {b bx ox n cx nb : Nat} {ck : Tr Value} {elb : TypeId} (hb : W.blocks.get b = some ⟨.cells ck nb elb, []⟩) {u : List Value} (hx : W.cellsAt bx ox (n * sz) = some u) (hul : u.length = n * sz) (hu : oneCells u = true) (hn : 0 < n)
    (hby : (2 * (0 + n)) * i.bytes ≤ 281474976710656) (hsm : 0 + n ≤ 4611686018427387904) :
    aAppend T W [t, t] [.slice (some ⟨b, 0, none⟩) 0 0, .slice (some ⟨bx, ox, none⟩) n cx] = some (.slice (some ⟨W.next, 0, none⟩) n (2 * sz + 1), W.newCells el u) := by
  have hn0 : ¬ n = 0 := by omega
  have hhead : aAppend T W [t, t] [.slice (some ⟨b, 0, none⟩) 0 0, .slice (some ⟨bx, ox, none⟩) n cx] = aApp1 W el sz i.bytes n u (.slice (some ⟨b, 0, none⟩) 0 0) := by
    simp only [aAppend, ht, hi, hs, hz, notInt, aSrc, hx, hz1, beq_dec, hul, hu, decide_true, hn0, decide_false]
  have hold : W.cellsAt b 0 (0 * sz) = some [] := by
    simp only [AW.cellsAt, hb, ble_dec, Nat.zero_mul]
    rw [decide_eq_true (by omega)]
    rfl
  have e3 : ¬ (0 + n ≤ 0 / 2) := by omega
  have happ : aApp1 W el sz i.bytes n u (.slice (some ⟨b, 0, none⟩) 0 0) = some (.slice (some ⟨W.next, 0, none⟩) (0 + n) (2 * sz + 1), W.newCells el ([] ++ u)) := by
    simp only [aApp1, ble_dec, hby, hsm, decide_true, beq_dec, e3, decide_false, hold]
  rw [hhead, happ, Nat.zero_add, List.nil_append]
theorem z3q : Try.t3.zero = some (.int .i64 0) := by kernel_rfl
theorem z65q : Try.t65.zero = some (.slice none 0 0) := by kernel_rfl
theorem s3q : Try.t3.size = 1 := by kernel_rfl
theorem s65q : Try.t65.size = 1 := by kernel_rfl
theorem fill65 (a : Option Addr) (n c : Nat) : aFill (fun j => some (j, 1)) (rep [.slice none 0 0] 1) [(0, .slice a n c)] = some [.slice a n c] := by kernel_rfl
theorem fnAuto : T0.funcs.get 32 = some Try.f32 := by kernel_rfl
theorem al28 (ρ : Operand → Option Value) : aFlt T0 ρ (.alloc 28) = some ⟨28, [.int .i64 0, .slice none 0 0, .slice none 0 0], true, 0, 0⟩ := by kernel_rfl
theorem ls23 (ρ : Operand → Option Value) : aFlt T0 ρ (.buildSlice 23 0 #[]) = some ⟨4, [], false, 0, 0⟩ := by kernel_rfl
theorem ls65 (ρ : Operand → Option Value) : aFlt T0 ρ (.buildSlice 65 0 #[]) = some ⟨3, [], false, 0, 0⟩ := by kernel_rfl
theorem bld28 (L : Int) (a : Option Addr) (n c : Nat) : aBuild T0 28 [(0, .int .i64 L), (2, .slice a n c)] = some (.agg ⟨[.int .i64 L, .slice none 0 0, .slice a n c]⟩) := by kernel_rfl
theorem slice85 (W : AW) (b L : Nat) (hL : L ≤ 4) : aSliceOp T0 W 77 (.pointer (some ⟨b, 0, none⟩)) none (some (.int .i64 (L : Nat))) none = some (.slice (some ⟨b, 0, none⟩) L 8) := by
  show aSliceOp T0 W 77 (.pointer (some ⟨b, 0, none⟩)) none (some (.int .i64 (Int.ofNat L))) none = _
  simp only [aSliceOp, und85, sz3, aHi, aLo, aBound, shiftTo, blt_dec, ble_dec, beq_dec]
  simp [hL]
def uG (mg : Nat → Bool) (n : Nat) : List Value := (List.range n).map fun i => Value.bool (mg i)
def uR (mx : Nat → Nat → Nat) (s L : Nat) : List Value := (List.range L).map fun x => Value.int .i64 (mx s x : Nat)
theorem uG_get {mg : Nat → Bool} {n i : Nat} (h : i < n) : (uG mg n)[i]? = some (.bool (mg i)) := by simp [uG, h]
theorem uR_get {mx : Nat → Nat → Nat} {s L x : Nat} (h : x < L) : (uR mx s L)[x]? = some (.int .i64 (mx s x : Nat)) := by simp [uR, h]
theorem uG_one (mg : Nat → Bool) (n : Nat) : oneCells (uG mg n) = true := oneCells_of fun x hx => by
  simp only [uG, List.mem_map] at hx
  obtain ⟨_, _, rfl⟩ := hx; rfl
theorem uR_one (mx : Nat → Nat → Nat) (s L : Nat) : oneCells (uR mx s L) = true := oneCells_of fun x hx => by
  simp only [uR, List.mem_map] at hx
  obtain ⟨_, _, rfl⟩ := hx; rfl
/-- an automaton of a machine -/
theorem auto_wp (L N bs gs c1 c2 : Nat) (mx : Nat → Nat → Nat) (mg : Nat → Bool) (W : AW) (hM : MachAt W L N bs gs c1 c2 mx mg) (hL1 : 1 ≤ L) (hL4 : L ≤ 4) (hN1 : 1 ≤ N) (hN : N ≤ 64) :
    WpF T0 32 [machV L N bs gs c1 c2] W (fun v W' => Ext W W' ∧ ∃ bN cN bG cG, v = autoV L N bN 0 cN bG 0 cG ∧ ∀ W'', Only (fun b => b < W.next) W' W'' → Rows W'' bN 0 N L mx ∧ Goods W'' bG 0 N mg) := by
  refine wpF fnAuto rfl ?_
  refine wpK_reg (fun R hR => by simp [opAlloc, zero31]; exact hR) ?_
  obtain ⟨W1, hW1, hE1, hn1, hb, ht2⟩ : ∃ W1, W1 = (W.newCells 69 [.int .i64 L, .slice (some ⟨bs, 0, none⟩) N c1, .slice (some ⟨gs, 0, none⟩) N c2]).newCells 28 [.int .i64 0, .slice none 0 0, .slice none 0 0] ∧ Ext W W1 ∧ W1.next = W.next + 2 ∧
      (∀ j u, [Value.int .i64 (L : Nat), .slice (some ⟨bs, 0, none⟩) N c1, .slice (some ⟨gs, 0, none⟩) N c2][j]? = some u → W1.Has W.next j u) ∧ W1.blocks.get (W.next + 1) = some ⟨.cells (Tr.nil.lay 0 [.int .i64 0, .slice none 0 0, .slice none 0 0]) 3 28, []⟩ :=
    ⟨_, rfl, (Only.newCells _ _ _).trans (Only.newCells _ _ _), rfl, fun j u h => (Has.newCells h).ext (.newCells _ _ _), by rw [newCells_get, if_pos (by rw [newCells_next])]; rfl⟩
  rw [← hW1]
  simp only [newCells_next]
  clear hW1
  have hb0 : ∀ W', Ext W1 W' → aLoadVar T0 W' 3 W.next 0 = some (.int .i64 L) := fun W' h => load_ext und3 rfl (hb 0 _ rfl) h
  have hb2 : ∀ W', Ext W1 W' → aLoadVar T0 W' 23 (W.next) 2 = some (.slice (some ⟨gs, 0, none⟩) N c2) := fun W' h => load_ext und23 rfl (hb 2 _ rfl) h
  -- the letters and what is good
  obtain ⟨W2, hW2, hE2, hn2, hg1, hg2, hf1, hf2⟩ : ∃ W2, W2 = (W1.newCells 4 []).newCells 28 [.int .i64 0, .slice none 0 0, .slice none 0 0] ∧ Ext W1 W2 ∧ W2.next = W1.next + 2 ∧ W2.blocks.get W1.next = some ⟨.cells (Tr.nil.lay 0 []) 0 4, []⟩ ∧
      W2.blocks.get (W1.next + 1) = some ⟨.cells (Tr.nil.lay 0 [.int .i64 0, .slice none 0 0, .slice none 0 0]) 3 28, []⟩ ∧ (∀ W', Ext W2 W' → freshB W' W1.next 4 [] = true) ∧ (∀ W', Ext W2 W' → freshB W' (W1.next + 1) 28 [.int .i64 0, .slice none 0 0, .slice none 0 0] = true) := by
    refine ⟨_, rfl, (Only.newCells _ _ _).trans (Only.newCells _ _ _), rfl, ?_, ?_, fun W' h => ?_, fun W' h => ?_⟩
    · rw [newCells_get, if_neg (by simp only [newCells_next]; omega), newCells_get, if_pos rfl]; rfl
    · rw [newCells_get, if_pos (by simp only [newCells_next])]; rfl
    · exact freshB_ext ((Only.newCells _ _ _).trans h) (by kernel_rfl)
    · exact freshB_ext (W := W1.newCells 4 []) h (by kernel_rfl)
  have hgood : ∀ i, i < N → W2.Has gs i (.bool (mg i)) := fun i hi => ((hM.good i hi).ext hE1).ext hE2
  have hsrc : W2.cellsAt gs 0 (N * 1) = some (uG mg N) := by
    rw [Nat.mul_one]
    refine cellsAt_of_cells (by simp [uG]) ?_ (fun j hj => ?_) (by omega)
    · have := (hgood 0 (by omega)).2
      simp only [AW.cell] at this
      cases hbb : W2.blocks.get gs with
      | none => rw [hbb] at this; cases this
      | some k => exact ⟨k, rfl⟩
    · rw [Nat.zero_add, uG_get hj]; exact (hgood j hj).2
  have happ := append_lit (T := T0) (t := 23) (cx := c2) und23 inf4 t4s t4z rfl hg1 hsrc (by simp [uG]) (uG_one mg N) (by omega) (by show 2 * (0 + N) * 1 ≤ _; omega) (by omega)
  obtain ⟨W3, hW3, hE3, hn3, hG3⟩ : ∃ W3, W3 = W2.newCells 4 (uG mg N) ∧ Ext W2 W3 ∧ W3.next = W2.next + 1 ∧ ∀ i, i < N → W3.Has W2.next i (.bool (mg i)) := ⟨_, rfl, .newCells _ _ _, rfl, fun i hi => Has.newCells (uG_get hi)⟩
  rw [← hW3] at happ
  simp only [Nat.mul_one] at happ
  obtain ⟨W4, s1, s2, s3, s4⟩ := storeVar_own (T := T0) (t := 28) (W := W3) (v := .agg ⟨[.int .i64 L, .slice none 0 0, .slice (some ⟨W2.next, 0, none⟩) N 3]⟩) (b := W1.next + 1) (o := 0) inf31 rfl (by rw [hE3.2 _ (by omega) (fun x => x)]; exact hg2) (by show 0 + 3 ≤ 3; omega) rfl
  have hE23 := hE2.trans hE3
  try simp only [wpK_assoc]
  refine wpK_dr (wr := Tr.nil |>.set 6 0 |>.set 7 1 |>.set 8 2 |>.set 9 3 |>.set 10 4 |>.set 11 5 |>.set 12 6 |>.set 3 7) (bits := Tr.nil.lay 0 [0, 1, 0, 0, 8, 28, 63, 0, 255]) (ord := [0, 1, 2, 3, 4, 7, 5, 6, 8])
    (J := fun A W' => A.n = 32 ∧ A.defers = [] ∧ A.tmps.get 1 = some (.pointer (some ⟨W.next, 0, none⟩)) ∧ A.tmps.get 2 = some (.pointer (some ⟨W.next + 1, 0, none⟩)) ∧ A.tmps.get 3 = some (.pointer (some ⟨W1.next + 1, 0, none⟩)) ∧ W' = W4)
    (by kernel_rfl) (by kernel_rfl) (by kernel_rfl) (fun G hG => ?_) ?_
  · simp [hb0 W1 (.refl _ _), hb2 W1 (.refl _ _), hb0 (W1.newCells 4 []) (.newCells _ _ _), hb2 (W1.newCells 4 []) (.newCells _ _ _), ls23, al28, AFlt.val, newCells_next]
    rw [← hW2]
    simp [hb0 W2 hE2, hb2 W2 hE2, happ, opBuild, aParts, bld28, opStore, s1, s2, hE3.1, hb0 W3 hE23, hb2 W3 hE23, hf1 W2 (.refl _ _), hf1 W3 hE3, hf2 W2 (.refl _ _), hf2 W3 hE3, valEq_slice]
    apply hG
    exact ⟨rfl, rfl, by simp, by simp, by simp, rfl⟩
  rintro ⟨t, m, ds⟩ Wq ⟨hm, hd, h1, h2, h3, rfl⟩
  simp only at hm hd h1 h2 h3
  subst hm; subst hd
  clear hW2 hW3 hf1 hf2 happ
  have hX1 : ∀ W', Only (fun b => b = W1.next + 1) Wq W' → Ext W1 W' := fun W' h => ⟨by have := h.1; have := hE23.1; omega, fun b hb _ => by rw [h.2 b (by have := hE23.1; omega) (by omega), s3 b (by omega)]; exact hE23.2 b hb (fun x => x)⟩
  have hnq : Wq.next = W2.next + 1 := by omega
  try simp only [wpK_assoc]
  refine wpK_reg (fun R hR => by simp [h1, load_ext und55 rfl (hb 1 _ rfl) (hX1 Wq (.refl _ _)), len_slice und55]; exact hR) ?_
  try simp only [wpK_assoc]
  refine wpK_while (I := fun k A W' => A.n = 32 ∧ A.defers = [] ∧ A.tmps.get 1 = some (.pointer (some ⟨W.next, 0, none⟩)) ∧ A.tmps.get 2 = some (.pointer (some ⟨W.next + 1, 0, none⟩)) ∧ A.tmps.get 3 = some (.pointer (some ⟨W1.next + 1, 0, none⟩)) ∧ A.tmps.get 14 = some (.slice (some ⟨bs, 0, none⟩) N c1) ∧ A.tmps.get 15 = some (.int .i64 N) ∧
        Only (fun b => b = W1.next + 1) Wq W' ∧ ∃ (s : Nat) (ws : List Value) (col : Nat → Nat) (c : Tr Value) (v : Value), k = N - s ∧ s ≤ N ∧ A.tmps.get 16 = some (.int .i64 s) ∧ W'.blocks.get (W1.next + 1) = some ⟨.cells c 3 28, []⟩ ∧ c.get 0 = some (.int .i64 L) ∧ c.get 1 = some v ∧ c.get 2 = some (.slice (some ⟨W2.next, 0, none⟩) N 3) ∧
          GrowsN W' v s ws 65 1 (fun b => col b = 1) ∧ (∀ b, col b = 1 → Wq.next ≤ b ∧ b < W'.next) ∧ ∀ j, j < s → ∃ r, ws[j]? = some (.slice (some ⟨r, 0, none⟩) L 3) ∧ ¬ col r = 1 ∧ r ≠ W1.next + 1 ∧ W1.next ≤ r ∧ ∀ x, x < L → W'.Has r x (.int .i64 (mx j x : Nat)))
      (J := fun A W' => A.n = 32 ∧ A.defers = [] ∧ A.tmps.get 2 = some (.pointer (some ⟨W.next + 1, 0, none⟩)) ∧ A.tmps.get 3 = some (.pointer (some ⟨W1.next + 1, 0, none⟩)) ∧
        Only (fun b => b = W1.next + 1) Wq W' ∧ ∃ (ws : List Value) (col : Nat → Nat) (c : Tr Value) (v : Value), W'.blocks.get (W1.next + 1) = some ⟨.cells c 3 28, []⟩ ∧ c.get 0 = some (.int .i64 L) ∧ c.get 1 = some v ∧ c.get 2 = some (.slice (some ⟨W2.next, 0, none⟩) N 3) ∧
          GrowsN W' v N ws 65 1 (fun b => col b = 1) ∧ (∀ b, col b = 1 → Wq.next ≤ b ∧ b < W'.next) ∧ ∀ j, j < N → ∃ r, ws[j]? = some (.slice (some ⟨r, 0, none⟩) L 3) ∧ ¬ col r = 1 ∧ r ≠ W1.next + 1 ∧ W1.next ≤ r ∧ ∀ x, x < L → W'.Has r x (.int .i64 (mx j x : Nat)))
      (Rt := fun _ _ => False) (k := N) ?_ ?_ ?_ ?_
  · exact ⟨rfl, rfl, by simp [h1], by simp [h2], by simp [h3], by simp, by simp, .refl _ _, 0, [], fun _ => 0, _, .slice none 0 0, by omega, by omega, by simp, s4, by rw [Tr.get_lay]; rfl, by rw [Tr.get_lay]; rfl, by rw [Tr.get_lay]; rfl, .nil _ _ _ _, (fun b hb => by cases hb), fun j hj => by omega⟩
  · clear h1 h2 h3
    rintro k ⟨t, m, ds⟩ Wa ⟨hm, hd, h1, h2, h3, h14, h15, hOa, s, ws, col, c, v, hk, hs, h16, hblk, hc0, hc1, hc2, hG, hcol, hrows⟩ Q' hJ hRt hI
    simp only at hm hd h1 h2 h3 h14 h15 h16
    subst hm; subst hd
    try simp only [wpK_assoc]
    refine wpK_reg (fun R hR => by simp [h15, h16]; exact hR) ?_
    by_cases hsN : s < N
    case neg =>
      have hse : s = N := by omega
      rw [hse] at hG hrows
      exact wpK_out (by simp [hsN]) (hJ _ _ ⟨rfl, rfl, by simp [h2], by simp [h3], hOa, ws, col, c, v, hblk, hc0, hc1, hc2, hG, hcol, hrows⟩)
    refine wpK_onT (by simp [hsN]) ?_
    refine wpK_block ?_
    have hXa1 := hX1 Wa hOa
    have hXa := hE1.trans hXa1
    have hla := hOa.1
    have hl01 := hE1.1
    have hl12 := hE2.1
    have hrow : ∀ x, x < 4 → Wa.Has bs (s * 4 + x) (.int .i64 (mx s x : Nat)) := fun x hx => (hM.row s x hsN hx).ext hXa
    have hlr : aLoadVar T0 Wa 77 bs (s * 4) = some (.agg ⟨[.int .i64 (mx s 0 : Nat), .int .i64 (mx s 1 : Nat), .int .i64 (mx s 2 : Nat), .int .i64 (mx s 3 : Nat)]⟩) := load85h (hrow 0 (by omega)) (hrow 1 (by omega)) (hrow 2 (by omega)) (hrow 3 (by omega))
    have har := indexAddr_slice (b := bs) (o := 0) (c := c1) (k := .i64) und55 sz85 hsN
    simp only [Nat.zero_add] at har
    obtain ⟨Wb, r1, r2, r3, r4⟩ := storeVar_own (T := T0) (t := 77) (W := Wa.newCells 77 [.int .i64 0, .int .i64 0, .int .i64 0, .int .i64 0]) (v := .agg ⟨[.int .i64 (mx s 0 : Nat), .int .i64 (mx s 1 : Nat), .int .i64 (mx s 2 : Nat), .int .i64 (mx s 3 : Nat)]⟩) (b := Wa.next) (o := 0) inf85 rfl (by rw [newCells_get, if_pos rfl]) (by show 0 + 4 ≤ 4; omega) rfl
    have hEb : Ext Wa Wb := ⟨by rw [r2, newCells_next]; omega, fun b hb _ => by rw [r3 b (by omega), newCells_get, if_neg (by omega)]⟩
    have hnb : Wb.next = Wa.next + 1 := r2
    try simp only [wpK_assoc]
    refine wpK_reg (fun R hR => by simp [h14, h16, har, hlr, opAlloc, zero85, opStore, r1]; exact hR) ?_
    have hXb1 := hXa1.trans hEb
    have hcl : Wb.Has (W1.next + 1) 1 v := ⟨by omega, by simp only [AW.cell, hEb.2 _ (show W1.next + 1 < Wa.next by omega) (fun x => x), hblk, blt_dec]; exact hc1⟩
    have hrb : ∀ x, x < 4 → Wb.Has Wa.next x (.int .i64 (mx s x : Nat)) := fun x hx => ⟨by omega, by
      simp only [AW.cell, r4, blt_dec, hx, decide_true, Tr.get_lay]
      match x, hx with
      | 0, _ => rfl
      | 1, _ => rfl
      | 2, _ => rfl
      | 3, _ => rfl⟩
    -- the row's letters
    obtain ⟨Wc, hWc, hEc, hnc, hgc, hfc⟩ : ∃ Wc, Wc = Wb.newCells 3 [] ∧ Ext Wb Wc ∧ Wc.next = Wb.next + 1 ∧ Wc.blocks.get Wb.next = some ⟨.cells (Tr.nil.lay 0 []) 0 3, []⟩ ∧ (∀ W', Ext Wc W' → freshB W' Wb.next 3 [] = true) :=
      ⟨_, rfl, .newCells _ _ _, rfl, by rw [newCells_get, if_pos rfl]; rfl, fun W' h => freshB_ext h (by kernel_rfl)⟩
    have hsrcr : Wc.cellsAt Wa.next 0 (L * 1) = some (uR mx s L) := by
      rw [Nat.mul_one]
      refine cellsAt_of_cells (by simp [uR]) ⟨_, (hEc.2 _ (by omega) (fun x => x)).trans r4⟩ (fun j hj => ?_) (by omega)
      rw [Nat.zero_add, uR_get hj]; exact ((hrb j (by omega)).ext hEc).2
    have hap := append_lit (T := T0) (t := 65) (cx := 8) und43 inf3 s3q z3q rfl hgc hsrcr (by simp [uR]) (uR_one mx s L) (by omega) (by show 2 * (0 + L) * 8 ≤ _; omega) (by omega)
    obtain ⟨Wd, hWd, hEd, hnd, hrd⟩ : ∃ Wd, Wd = Wc.newCells 3 (uR mx s L) ∧ Ext Wc Wd ∧ Wd.next = Wc.next + 1 ∧ ∀ x, x < L → Wd.Has Wc.next x (.int .i64 (mx s x : Nat)) := ⟨_, rfl, .newCells _ _ _, rfl, fun i hi => Has.newCells (uR_get hi)⟩
    rw [← hWd] at hap
    simp only [Nat.mul_one] at hap
    have hEbd := hEc.trans hEd
    have hEad := hEb.trans hEbd
    have hblkd : Wd.blocks.get (W1.next + 1) = some ⟨.cells c 3 28, []⟩ := by rw [hEad.2 _ (by omega) (fun x => x)]; exact hblk
    obtain ⟨v', We, Wf, a1, a2, a3, a4, a5, a6, a7, a8⟩ := push_ownN (T := T0) (t := 22) (i := Try.t65) (it := Try.t22) (z := .slice none 0 0) (o := 1) (u := [.slice (some ⟨Wc.next, 0, none⟩) L 3]) (by omega) und22 inf43 s65q z65q rfl inf22 rfl (hG.only (K' := fun _ => False) hEad (fun _ _ _ x => x)) hblkd (by omega) (show ¬ col (W1.next + 1) = 1 from fun e => by have := (hcol _ e).1; omega) (by omega) rfl rfl (by show 2 * (s + 1) * 24 ≤ _; omega) (by omega)
    simp only [Nat.mul_one] at a1
    have hEn : Ext Wd (Wd.newCells 65 [.slice (some ⟨Wc.next, 0, none⟩) L 3]) := .newCells _ _ _
    have hEdn := hEd.trans hEn
    have hEbn := hEbd.trans hEn
    have hn4 : (Wd.newCells 65 [.slice (some ⟨Wc.next, 0, none⟩) L 3]).next ≤ We.next := by rw [newCells_next]; omega
    have hn5' : We.next ≤ Wf.next := by omega
    have hfr := freshB_new Wd 65 [.slice (some ⟨Wc.next, 0, none⟩) L 3] (listEq_cons (valEq_slice _ _ _) rfl)
    have hfe : freshB We Wb.next 3 [] = true := by
      have hg : We.blocks.get Wb.next = some ⟨.cells (Tr.nil.lay 0 []) 0 3, []⟩ := by rw [a7.2 _ (by omega) (fun e => by have := (hcol _ e).2; omega), hEd.2 _ (by omega) (fun x => x)]; exact hgc
      have hlt : Wb.next < We.next := by omega
      simp only [freshB, hg, blt_dec, hlt, decide_true]
      rfl
    have hvv : valEq v v = true := by
      obtain ⟨sa, sc, rfl⟩ := hG.len
      exact valEq_slice _ _ _
    refine wpK_dr1 (wr := Tr.nil |>.set 20 0 |>.set 21 1 |>.set 22 2 |>.set 23 3 |>.set 24 4 |>.set 25 5 |>.set 26 6 |>.set 27 7 |>.set 28 8 |>.set 29 9) (bits := Tr.nil.lay 0 [0, 1, 0, 0, 8, 24, 60, 124, 255, 511, 1023]) (ord := [0, 1, 2, 3, 4, 5, 6, 7, 8, 9, 10])
      (J := fun A W' => A.n = 32 ∧ A.defers = [] ∧ A.tmps.get 1 = some (.pointer (some ⟨W.next, 0, none⟩)) ∧ A.tmps.get 2 = some (.pointer (some ⟨W.next + 1, 0, none⟩)) ∧ A.tmps.get 3 = some (.pointer (some ⟨W1.next + 1, 0, none⟩)) ∧ A.tmps.get 14 = some (.slice (some ⟨bs, 0, none⟩) N c1) ∧ A.tmps.get 15 = some (.int .i64 N) ∧ A.tmps.get 16 = some (.int .i64 s) ∧ W' = Wf)
      (by kernel_rfl) (by kernel_rfl) (by kernel_rfl) (fun G hG' => ?_) ?_
    · simp [h1, h3, hb0 Wb hXb1, load_ext und22 rfl hcl (.refl _ _), ls65, AFlt.val]
      rw [← hWc]
      simp [h1, h3, hb0 Wc (hXb1.trans hEc), load_ext und22 rfl hcl hEc, opSlice, aOpt, slice85 _ _ L hL4, hap, hb0 Wd (hXb1.trans hEbd), load_ext und22 rfl hcl hEbd, load_ext und22 rfl hcl hEbn, hb0 _ (hXb1.trans hEbn), hfc Wc (.refl _ _), hfc Wd hEd, hfc _ hEdn, hfe, hEd.1, hn4, hn5', hfr, hvv, valEq_slice, aFlt, aParts, und22, inf43, s65q, z65q, fill65, AFlt.val, a1, opStore, a2]
      apply hG'
      exact ⟨rfl, rfl, by simp [h1], by simp [h2], by simp [h3], by simp [h14], by simp [h15], by simp [h16], rfl⟩
    rintro ⟨t, m, ds⟩ Wg ⟨hm, hd, h1, h2, h3, h14, h15, h16, rfl⟩
    simp only at hm hd h1 h2 h3 h14 h15 h16
    subst hm; subst hd
    have hws := i64_succ s (by omega)
    have hwl : ws.length = s := by have := hG.1; omega
    refine wpK_reg1 (fun R hR => by simp [h16, hws]; exact hR) ?_
    have hOg : Only (fun b => col b = 1 ∨ b = W1.next + 1) Wd Wg := a8
    refine hI (N - (s + 1)) _ _ (by omega) ⟨rfl, rfl, by simp [h1], by simp [h2], by simp [h3], by simp [h14], by simp [h15], ?_, s + 1, ws ++ [.slice (some ⟨Wc.next, 0, none⟩) L 3], fun b => if b = Wd.next + 1 then 1 else col b, c.set 1 v', v', rfl, by omega, by simp, a5, by rw [Tr.get_set, if_neg (by omega)]; exact hc0, by rw [Tr.get_set, if_pos rfl], by rw [Tr.get_set, if_neg (by omega)]; exact hc2, ?_, fun b hb => ?_, fun j hj => ?_⟩
    · exact ⟨by omega, fun b hb hk => by rw [a8.2 b (by omega) (fun e => e.elim (fun e => by have := (hcol b e).1; omega) hk), hEad.2 b (by omega) (fun x => x)]; exact hOa.2 b hb hk⟩
    · refine a6.mono (fun b hb => ?_)
      show (if b = Wd.next + 1 then 1 else col b) = 1
      split
      · rfl
      · rename_i e; exact hb.resolve_right e
    · have hb : (if b = Wd.next + 1 then 1 else col b) = 1 := hb
      split at hb
      · rename_i e; omega
      · have := hcol b hb; omega
    · have hcr : ∀ r, r < Wd.next → ¬ col r = 1 → ¬ (if r = Wd.next + 1 then 1 else col r) = 1 := fun r hr hc e => by rw [if_neg (by omega)] at e; exact hc e
      by_cases e : j < s
      · obtain ⟨r, q1, q2, q3, q4, q5⟩ := hrows j e
        have hrl := (q5 0 (by omega)).1
        exact ⟨r, by rw [List.getElem?_append_left (by omega)]; exact q1, hcr r (by omega) q2, q3, q4, fun x hx => ((q5 x hx).ext hEad).only hOg (fun e => e.elim q2 q3)⟩
      · have : j = s := by omega
        subst this
        have hnc : ¬ col Wc.next = 1 := fun e => by have := hcol _ e; omega
        exact ⟨Wc.next, by rw [List.getElem?_append_right (by omega), hwl]; simp, hcr _ (by omega) hnc, by omega, by omega, fun x hx => (hrd x hx).only hOg (fun e => e.elim hnc (fun e => by omega))⟩
  · rintro A' W' hf; exact hf.elim
  · clear h1 h2 h3
    rintro ⟨t, m, ds⟩ Wa ⟨hm, hd, h2, h3, hOa, ws, col, c, v, hblk, hc0, hc1, hc2, hG, hcol, hrows⟩
    simp only at hm hd h2 h3
    subst hm; subst hd
    have hXa1 := hX1 Wa hOa
    have hXa := hE1.trans hXa1
    have hla := hOa.1
    have hl01 := hE1.1
    have hl12 := hE2.1
    obtain ⟨bN, rfl, hbN, hbl, _, hbh⟩ := hG.has (by omega)
    have hld : aLoadVar T0 Wa 28 (W1.next + 1) 0 = some (autoV L N bN 0 (2 * 1 + 1) W2.next 0 3) := load31 (cells3 hblk hc0 hc1 hc2)
    obtain ⟨Wb, r1, r2, r3, r4⟩ := storeVar_own (T := T0) (t := 28) (W := Wa) (v := autoV L N bN 0 (2 * 1 + 1) W2.next 0 3) (b := W.next + 1) (o := 0) inf31 rfl (by rw [hXa1.2 _ (by omega) (fun x => x)]; exact ht2) (by show 0 + 3 ≤ 3; omega) rfl
    try simp only [wpK_assoc]
    refine wpK_reg (fun R hR => by simp [h2, h3, hld, opStore, r1]; exact hR) ?_
    have hO : Only (fun b => b = W.next + 1) Wa Wb := ⟨by omega, fun b _ hb => r3 b hb⟩
    have hbq := (hcol bN hbN).1
    refine wpK_ret ⟨.inr rfl, rfl, [autoV L N bN 0 (2 * 1 + 1) W2.next 0 3], ?_, ⟨by have := hXa.1; omega, fun b hb _ => by rw [r3 b (by omega)]; exact hXa.2 b hb (fun x => x)⟩, bN, _, W2.next, 3, rfl, fun W'' hW'' => ⟨fun s hs => ?_, fun s hs => ?_⟩⟩
    · show aResults T0 _ _ [.cell 2 28] = _
      have hlr : aLoadVar T0 Wb 28 (W.next + 1) 0 = some (autoV L N bN 0 (2 * 1 + 1) W2.next 0 3) := load31 (cells3 r4 (by rw [Tr.get_lay]; rfl) (by rw [Tr.get_lay]; rfl) (by rw [Tr.get_lay]; rfl))
      simp [h2, hlr]
    · obtain ⟨r, q1, q2, q3, q4, q5⟩ := hrows s hs
      rw [Nat.zero_add]
      exact ⟨r, 0, 3, ((hbh s _ q1).only hO (by omega)).only hW'' (by omega), fun i hi => by rw [Nat.zero_add]; exact ((q5 i hi).only hO (by omega)).only hW'' (by omega)⟩
    · rw [Nat.zero_add]
      have hg := hG3 s hs
      have h1 : Wq.Has W2.next s (.bool (mg s)) := hg.only (K := fun b => b = W1.next + 1) ⟨by omega, fun b _ hb => s3 b hb⟩ (by omega)
      exact ((h1.only hOa (by omega)).only hO (by omega)).only hW'' (by omega)
end Go.Proofs.Ytnnfobmfffbhaaa

open Go Go.Eng
namespace Go.Proofs.Ytnnfobmfffbhaaa
attribute [local congr] undef_congr WpK.congr WpS.congr WpL.congr WpC.congr WpF.congr gotS.congr callS.congr nextS.congr wantS.congr condS.congr
attribute [local irreducible] WpK
attribute [local simp] WpDr_nil WpDr_cons atS_some dwantS_true dwantS_false kindS_light kindS_float kindS_heavy lightS_value floatS_some heavyS_value heavyS_skip heavyS_enter dcallS_some doneS_eq
  isLight isFloat isPlain dLook testBit_dec dChain dLights_nil dLights_skip dLights_one dLight_nil dLight_cons dFreshes_nil dFreshes_one oneF_none oneF_some dFresh_nil dFresh_cons oneL_some oneW_true oneW_false sameV_value dPut dMay valEq arrEq listEq List.getElem?_cons Tr.get_nil dEnd
attribute [local simp] WpS_nil WpS_cons isDefer undef_false wantS_true wantS_false nextS_value nextS_skip nextS_enter callS_some gotS_some aWanted aOp aEvalF aEval opMove opAssign opPick aVal flat flat1 AAct.put opBinOp opConvert opIndex Tr.get_set Tr.get_lay aBin aResults tupled
  aCall aVals aCallB blt_dec ble_dec beq_dec aBinI_add aBinI_sub aBinI_lss aBinI_leq aBinI_gtr aBinI_geq aBinI_eql aBinI_neq index_str len_str len_slice Nat.beq_refl und3 und37 und5 und9
  opBox opLoad opFieldAddr opIndexAddr acells aAddr field25 und22 und23 und43 und4 und28
attribute [local simp] field31 conv_3_5 conv_3_37 conv_37_3 conv_5_3
set_option maxHeartbeats 4000000
attribute [local simp] field57
theorem fnLeast10 : T0.funcs.get 10 = some Try.f10 := by kernel_rfl
/-- Least of a good automaton -/
theorem least10_wp (L n bN oN cN bG oG cG : Nat) (nx : Nat → Nat → Nat) (gd : Nat → Bool) (W : AW) (hN : Rows W bN oN n L nx) (hG : Goods W bG oG n gd) (hL1 : 1 ≤ L) (hL4 : L ≤ 4) (hn : 1 ≤ n) (hn64 : n ≤ 64) (hnx : ∀ s i, s < n → i < L → nx s i < n) :
    WpF T0 10 [autoV L n bN oN cN bG oG cG] W (fun v W' => Ext W W' ∧ ∃ keys lB lL lN cl cnt mxL mgL bN' cN' bG' cG', Bfs (stepA L n nx) L (.int .i64 0) keys.length keys lB lL lN ∧ LeastM (mxOf lN) (mgOf gd keys) L keys.length cnt mxL mgL cl ∧
      v = .tuple ⟨[autoV L cnt bN' 0 cN' bG' 0 cG', .int .i64 0]⟩ ∧ Rows W' bN' 0 cnt L mxL ∧ Goods W' bG' 0 cnt mgL) := by
  refine wpF fnLeast10 rfl ?_
  refine wpK_reg (fun R hR => by simp [opAlloc, zero31]; exact hR) ?_
  obtain ⟨W1, hW1, hE1, hn1, hld, ht2⟩ : ∃ W1, W1 = (W.newCells 28 [.int .i64 L, .slice (some ⟨bN, oN, none⟩) n cN, .slice (some ⟨bG, oG, none⟩) n cG]).newCells 28 [.int .i64 0, .slice none 0 0, .slice none 0 0] ∧ Ext W W1 ∧ W1.next = W.next + 2 ∧
      (∀ W', Ext W1 W' → aLoadVar T0 W' 28 W.next 0 = some (autoV L n bN oN cN bG oG cG)) ∧ W1.blocks.get (W.next + 1) = some ⟨.cells (Tr.nil.lay 0 [.int .i64 0, .slice none 0 0, .slice none 0 0]) 3 28, []⟩ := by
    have hA : ∀ j u, [Value.int .i64 (L : Nat), .slice (some ⟨bN, oN, none⟩) n cN, .slice (some ⟨bG, oG, none⟩) n cG][j]? = some u → ((W.newCells 28 [.int .i64 L, .slice (some ⟨bN, oN, none⟩) n cN, .slice (some ⟨bG, oG, none⟩) n cG]).newCells 28 [.int .i64 0, .slice none 0 0, .slice none 0 0]).Has W.next j u := fun j u h => (Has.newCells h).ext (.newCells _ _ _)
    refine ⟨_, rfl, (Only.newCells _ _ _).trans (Only.newCells _ _ _), rfl, fun W' h => ?_, by rw [newCells_get, if_pos (by rw [newCells_next])]; rfl⟩
    refine load31 (cellsAt_of_cells rfl ⟨_, by rw [h.2 _ (by simp only [newCells_next]; omega) (fun x => x), newCells_get, if_neg (by simp only [newCells_next]; omega), newCells_get, if_pos rfl]⟩ (fun j hj => ?_) (by omega))
    rw [Nat.zero_add]
    match j, hj with
    | 0, _ => exact ((hA 0 _ rfl).ext h).2
    | 1, _ => exact ((hA 1 _ rfl).ext h).2
    | 2, _ => exact ((hA 2 _ rfl).ext h).2
  rw [← hW1]
  simp only [newCells_next]
  clear hW1
  try simp only [wpK_assoc]
  refine wpK_regc (J := fun A' W' => Ext W1 W' ∧ A'.n = 14 ∧ A'.defers = [] ∧ A'.tmps.get 1 = some (.pointer (some ⟨W.next, 0, none⟩)) ∧ A'.tmps.get 2 = some (.pointer (some ⟨W.next + 1, 0, none⟩)) ∧ A'.tmps.get 4 = some (.int .i64 0)) (fun R hR => ?_) ?_
  · simp [hld W1 (.refl _ _), aEnter, fun15, short_other, aCallV]
    rw [callS_none]
    refine (check_wp L n bN oN cN bG oG cG nx W1 (hN.ext hE1) hL1 hL4 hn hn64 hnx).mono (fun v W₂ ⟨hE2, hv⟩ => ?_)
    subst hv
    simp
    apply hR
    exact ⟨hE2, rfl, rfl, by simp, by simp, by simp⟩
  rintro ⟨t, m, ds⟩ W2 ⟨hE2, hm, hd, h1, h2, h4⟩
  simp only at hm hd h1 h2 h4
  subst hm; subst hd
  try simp only [wpK_assoc]
  refine wpK_reg (fun R hR => by simp [h4]; exact hR) ?_
  refine wpK_onF (by simp) ?_
  have hE02 := hE1.trans hE2
  have hl2 := hE2.1
  try simp only [wpK_assoc]
  refine wpK_regc (J := fun A W' => A.n = 14 ∧ A.defers = [] ∧ A.tmps.get 2 = some (.pointer (some ⟨W.next + 1, 0, none⟩)) ∧ A.tmps.get 3 = some (.int .i64 0) ∧ Ext W W' ∧ ∃ keys lB lL lN cl cnt mxL mgL bN' cN' bG' cG', Bfs (stepA L n nx) L (.int .i64 0) keys.length keys lB lL lN ∧ LeastM (mxOf lN) (mgOf gd keys) L keys.length cnt mxL mgL cl ∧
      aLoadVar T0 W' 28 (W.next + 1) 0 = some (autoV L cnt bN' 0 cN' bG' 0 cG') ∧ Rows W' bN' 0 cnt L mxL ∧ Goods W' bG' 0 cnt mgL) (fun R hR => ?_) ?_
  · simp [h1, hld W2 hE2, aEnter, fnLeast31, short_other, aCallV]
    rw [callS_none]
    refine (least31_wp L n bN oN cN bG oG cG nx gd W2 (hN.ext hE02) (hG.ext hE02) hL1 hL4 hn hn64 hnx).mono ?_
    rintro v W3 ⟨hE3, keys, lB, lL, lN, cl, cnt, mxL, mgL, bs, gs, hB, hLM, rfl, hMA⟩
    simp [aEnter, fnAuto, short_other, aCallV]
    rw [callS_none]
    have hkn : keys.length ≤ n := distS_len (hB.isK (isK := IsS n) (fun h => stepA_is (by omega) hnx h) ⟨0, by omega, rfl⟩) hB.dist
    have hc0 := (hLM.cl0 hB.pos.length_le).2
    have hcl := hLM.moore.le
    refine (auto_wp L cnt bs gs (2 * cnt) (2 * cnt) mxL mgL W3 hMA hL1 hL4 hc0 (by omega)).mono ?_
    rintro v W4 ⟨hE4, bN', cN', bG', cG', rfl, hRG⟩
    have hl3 := hE3.1
    have hl4 := hE4.1
    have ht2' : W4.blocks.get (W.next + 1) = some ⟨.cells (Tr.nil.lay 0 [.int .i64 0, .slice none 0 0, .slice none 0 0]) 3 28, []⟩ := by rw [hE4.2 _ (by omega) (fun x => x), hE3.2 _ (by omega) (fun x => x), hE2.2 _ (by omega) (fun x => x)]; exact ht2
    obtain ⟨W5, s1, s2, s3, s4⟩ := storeVar_own (T := T0) (t := 28) (W := W4) (v := autoV L cnt bN' 0 cN' bG' 0 cG') (b := W.next + 1) (o := 0) inf31 rfl ht2' (by show 0 + 3 ≤ 3; omega) rfl
    simp [h2, opStore, s1]
    apply hR
    have hE24 := hE3.trans hE4
    have hO : Only (fun b => b = W.next + 1) W4 W5 := ⟨by omega, fun b _ hb => s3 b hb⟩
    obtain ⟨hR', hG'⟩ := hRG W5 (hO.mono fun b _ e => by omega)
    exact ⟨rfl, rfl, by simp [h2], by simp, ⟨by omega, fun b hb _ => by rw [s3 b (by omega), hE24.2 b (by omega) (fun x => x)]; exact hE02.2 b hb (fun x => x)⟩, keys, lB, lL, lN, cl, cnt, mxL, mgL, bN', cN', bG', cG', hB, hLM, load31 (cells3 s4 (by rw [Tr.get_lay]; rfl) (by rw [Tr.get_lay]; rfl) (by rw [Tr.get_lay]; rfl)), hR', hG'⟩
  rintro ⟨t, m, ds⟩ Wa ⟨hm, hd, h2, h3, hEa, keys, lB, lL, lN, cl, cnt, mxL, mgL, bN', cN', bG', cG', hB, hLM, hl, hR', hG'⟩
  simp only at hm hd h2 h3
  subst hm; subst hd
  refine wpK_ret ⟨.inr rfl, rfl, [autoV L cnt bN' 0 cN' bG' 0 cG', .int .i64 0], ?_, hEa, keys, lB, lL, lN, cl, cnt, mxL, mgL, bN', cN', bG', cG', hB, hLM, rfl, hR', hG'⟩
  show aResults T0 _ _ [.cell 2 28, .tmp 3] = _
  simp [h2, h3, hl]
end Go.Proofs.Ytnnfobmfffbhaaa
