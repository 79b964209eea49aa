import Derived.Test.YtfpakfidfmjfhaaP45
set_option linter.unusedSimpArgs false
set_option linter.unusedVariables false
set_option linter.unusedSectionVars false
open Go Go.Eng
namespace Go.Proofs.Ytfpakfidfmjfhaa
attribute [local congr] undef_congr WpK.congr WpS.congr WpL.congr WpC.congr WpF.congr gotS.congr callS.congr nextS.congr wantS.congr condS.congr
attribute [local irreducible] WpK
attribute [local simp] WpDr_nil WpDr_cons atS_some dwantS_true dwantS_false kindS_light kindS_float kindS_heavy lightS_value floatS_some heavyS_value heavyS_skip heavyS_enter dcallS_some doneS_eq
  isLight isFloat isPlain dLook testBit_dec dChain dLights_nil dLights_skip dLights_one dLight_nil dLight_cons dFreshes_nil dFreshes_one oneF_none oneF_some dFresh_nil dFresh_cons oneL_some oneW_true oneW_false sameV_value dPut dMay valEq arrEq listEq List.getElem?_cons Tr.get_nil dEnd
attribute [local simp] WpS_nil WpS_cons isDefer undef_false wantS_true wantS_false nextS_value nextS_skip nextS_enter callS_some gotS_some aWanted aOp aEvalF aEval opMove opAssign opPick aVal flat flat1 AAct.put opBinOp opConvert opIndex Tr.get_set Tr.get_lay aBin aResults tupled
  aCall aVals aCallB blt_dec ble_dec beq_dec aBinI_add aBinI_sub aBinI_lss aBinI_leq aBinI_gtr aBinI_geq aBinI_eql aBinI_neq index_str len_str len_slice Nat.beq_refl und3 und37 und5 und9
  opBox opLoad opFieldAddr opIndexAddr acells aAddr field25 und22 und23 und43 und4 und28
attribute [local simp] field31 conv_3_5 conv_3_37 conv_37_3 conv_5_3
set_option maxHeartbeats 4000000
attribute [local simp] field57
theorem fun24 : T0.funcs.get 24 = some Try.f24 := by kernel_rfl
theorem fun35 : T0.funcs.get 35 = some Try.f35 := by kernel_rfl
theorem zero84 : aZero T0 84 = some (.agg ⟨[.int .i64 0, .int .i64 0]⟩) := by kernel_rfl
theorem sz85 : aSize T0 85 = some 4 := by kernel_rfl
/-- a machine as a value -/
structure MachAt (W : AW) (L N bs gs c1 c2 : Nat) (mx : Nat → Nat → Nat) (mg : Nat → Bool) : Prop where
  row : ∀ s x, s < N → x < 4 → W.Has bs (s * 4 + x) (.int .i64 (mx s x : Nat))
  good : ∀ s, s < N → W.Has gs s (.bool (mg s))
abbrev machV (L N bs gs c1 c2 : Nat) : Value := .agg ⟨[.int .i64 L, .slice (some ⟨bs, 0, none⟩) N c1, .slice (some ⟨gs, 0, none⟩) N c2]⟩
theorem MachAt.ext {W W' : AW} {L N bs gs c1 c2 : Nat} {mx : Nat → Nat → Nat} {mg : Nat → Bool} (h : MachAt W L N bs gs c1 c2 mx mg) (he : Ext W W') : MachAt W' L N bs gs c1 c2 mx mg :=
  ⟨fun s x hs hx => (h.row s x hs hx).ext he, fun s hs => (h.good s hs).ext he⟩
theorem indexAddr_85' (r o x : Nat) (k : IntKind) (hx : x < 4) : aIndexAddr T0 85 (.pointer (some ⟨r, o, none⟩)) (.int k (x : Nat)) = some (.pointer (some ⟨r, o + x, none⟩)) := by
  show aIndexAddr T0 85 (.pointer (some ⟨r, o, none⟩)) (.int k (Int.ofNat x)) = _
  simp only [aIndexAddr, und85, sz3, blt_dec, hx, decide_true, Nat.mul_one]
theorem indexAddr_84 (r o x : Nat) (k : IntKind) (hx : x < 2) : aIndexAddr T0 84 (.pointer (some ⟨r, o, none⟩)) (.int k (x : Nat)) = some (.pointer (some ⟨r, o + x, none⟩)) := by
  show aIndexAddr T0 84 (.pointer (some ⟨r, o, none⟩)) (.int k (Int.ofNat x)) = _
  simp only [aIndexAddr, und84, sz3, blt_dec, hx, decide_true, Nat.mul_one]

theorem run24_wp (L N bs gs c1 c2 : Nat) (mx : Nat → Nat → Nat) (mg : Nat → Bool) (s0 : Nat) (w : ByteArray) (l : List UInt8) (hl : w.data.toList = l) (hlen : l.length < 9223372036854775808) (W : AW) (hM : MachAt W L N bs gs c1 c2 mx mg) (hL : L ≤ 4) (hs0 : s0 < N)
    (hnx : ∀ s i, s < N → i < 4 → mx s i < N) (hw : ∀ c ∈ l, badB L c = false) :
    WpF T0 24 [machV L N bs gs c1 c2, .int .i64 s0, .string w] W (fun v W' => Ext W W' ∧ v = .int .i64 (runN mx s0 l : Nat)) := by
  refine wpF fun24 rfl ?_
  refine wpK_reg (fun R hR => by simp; exact hR) ?_
  try simp only [wpK_assoc]
  refine wpK_reg (fun R hR => by simp [hl]; exact hR) ?_
  have hE : Ext W (W.newCells 57 [.int .i64 L, .slice (some ⟨bs, 0, none⟩) N c1, .slice (some ⟨gs, 0, none⟩) N c2]) := .newCells _ _ _
  have hM1 := hM.ext hE
  have hb0 : (W.newCells 57 [.int .i64 L, .slice (some ⟨bs, 0, none⟩) N c1, .slice (some ⟨gs, 0, none⟩) N c2]).cell W.next 1 = some (.slice (some ⟨bs, 0, none⟩) N c1) := by rw [newCells_cell, if_pos rfl]; rfl
  generalize W.newCells 57 [.int .i64 L, .slice (some ⟨bs, 0, none⟩) N c1, .slice (some ⟨gs, 0, none⟩) N c2] = W₁ at hE hM1 hb0
  refine wpK_while (I := fun k A W' => W' = W₁ ∧ A.n = 25 ∧ A.defers = [] ∧ A.tmps.get 3 = some (.pointer (some ⟨W.next, 0, none⟩)) ∧ A.tmps.get 2 = some (.string w) ∧ A.tmps.get 9 = some (.int .i64 (l.length : Nat)) ∧
    ∃ i : Nat, k = l.length - i ∧ i ≤ l.length ∧ A.tmps.get 10 = some (.int .i64 i) ∧ A.tmps.get 1 = some (.int .i64 (runN mx s0 (l.take i) : Nat)) ∧ runN mx s0 (l.take i) < N)
    (J := fun A W' => W' = W₁ ∧ A.n = 25 ∧ A.defers = [] ∧ A.tmps.get 1 = some (.int .i64 (runN mx s0 l : Nat)))
    (Rt := fun _ _ => False) (k := l.length) ?_ ?_ ?_ ?_
  · exact ⟨rfl, rfl, rfl, by simp, by simp, by simp, 0, by simp, by simp, by simp, by simp [runN], by simpa [runN] using hs0⟩
  · rintro k ⟨t, m, ds⟩ W' ⟨rfl, hn, hd, h3, h2, h9, i, hk, hi, h10, h1, hrun⟩ Q' hJ hRt hI
    simp only at hn hd h3 h2 h9 h10 h1
    subst hn; subst hd
    try simp only [wpK_assoc]
    refine wpK_reg (fun R hR => by simp [h9, h10]; exact hR) ?_
    by_cases hlt : i < l.length
    · refine wpK_onT (by simp [hlt]) ?_
      have hc : l[i]? = some l[i] := List.getElem?_eq_getElem hlt
      have hm : l[i] ∈ l := List.getElem_mem hlt
      have htake : l.take (i + 1) = l.take i ++ [l[i]] := by rw [List.take_add_one, hc]; rfl
      generalize l[i] = c at hc hm htake
      have hcl := c.toNat_lt
      have hbad := hw c hm
      simp only [badB, Bool.or_eq_false_iff, decide_eq_false_iff_not] at hbad
      have hr3 := hM1.row _ (c.toNat - 97) hrun (by omega)
      refine wpK_block ?_
      refine wpK_reg (fun R hR => by simp [h10]; exact hR) ?_
      have hl1 : aLoadVar T0 W' 55 W.next 1 = some (.slice (some ⟨bs, 0, none⟩) N c1) := by rw [loadVar_cell und55 rfl]; exact hb0
      have hl3 : aLoadVar T0 W' 3 bs (runN mx s0 (l.take i) * 4 + (c.toNat - 97)) = some (.int .i64 (mx (runN mx s0 (l.take i)) (c.toNat - 97) : Nat)) := by rw [loadVar_cell und3 rfl]; exact hr3.2
      have hwr : IntKind.u8.wrap ((c.toNat : Int) - 97) = ((c.toNat - 97 : Nat) : Int) := by
        rw [IntWalk.u8_in _ (by omega)]; omega
      have ha1 := indexAddr_slice (b := bs) (o := 0) (c := c1) (k := .i64) und55 sz85 hrun
      have ha2 := indexAddr_85' bs (runN mx s0 (l.take i) * 4) (c.toNat - 97) .u8 (by omega)
      refine wpK_dr1 (wr := Tr.nil |>.set 13 0 |>.set 14 1 |>.set 15 2 |>.set 16 3 |>.set 17 4 |>.set 18 5 |>.set 19 6 |>.set 20 7 |>.set 21 8 |>.set 22 9 |>.set 1 10) (bits := Tr.nil.lay 0 [0, 1, 0, 0, 0, 24, 56, 7, 255, 511, 1023]) (ord := [0, 1, 2, 3, 4, 5, 6, 7, 8, 9, 10])
        (J := fun A' W'' => W'' = W' ∧ A'.n = 25 ∧ A'.defers = [] ∧ A'.tmps.get 3 = some (.pointer (some ⟨W.next, 0, none⟩)) ∧ A'.tmps.get 2 = some (.string w) ∧ A'.tmps.get 9 = some (.int .i64 (l.length : Nat)) ∧ A'.tmps.get 10 = some (.int .i64 i) ∧
          A'.tmps.get 1 = some (.int .i64 (mx (runN mx s0 (l.take i)) (c.toNat - 97) : Nat)))
        (by kernel_rfl) (by kernel_rfl) (by kernel_rfl) (fun G hG => ?_) ?_
      · simp only [Nat.zero_add] at ha1
        simp [h1, h2, h3, hl, hc, hl1, hl3, hwr, ha1, ha2]
        apply hG
        refine ⟨rfl, rfl, rfl, ?_⟩
        simp [h2, h3, h9, h10]
      · rintro ⟨t', m', ds'⟩ W'' ⟨rfl, hn', hd', h3', h2', h9', h10', h1'⟩
        simp only at hn' hd' h3' h2' h9' h10' h1'
        subst hn'; subst hd'
        refine wpK_reg1 (fun R hR => by simp [h10']; exact hR) ?_
        have hstep : runN mx s0 (l.take (i + 1)) = mx (runN mx s0 (l.take i)) (c.toNat - 97) := by rw [htake]; simp [runN]
        refine hI (k - 1) _ _ (by omega) ⟨rfl, rfl, rfl, by simp [h3'], by simp [h2'], by simp [h9'], i + 1, by omega, by omega, by simp; exact i64_succ i (by omega), by simp [h1', hstep], ?_⟩
        rw [hstep]; exact hnx _ _ hrun (by omega)
    · refine wpK_out (by simp [hlt]) (hJ _ _ ⟨rfl, rfl, rfl, ?_⟩)
      have : l.take i = l := List.take_of_length_le (by omega)
      rw [this] at h1
      simp [h1]
  · rintro A' W' h; exact h.elim
  · rintro ⟨t, m, ds⟩ W' ⟨rfl, hn, hd, h1⟩
    simp only at hn hd h1
    subst hn; subst hd
    refine wpK_reg (fun R hR => by simp [h1]; exact hR) ?_
    exact wpK_ret ⟨.inr rfl, rfl, [.int .i64 (runN mx s0 l : Nat)], by simp, hE, rfl⟩

theorem inf85' : T0.info.get 84 = some Try.t84 := inf84
/-- a step of two machines -/
theorem step35_wp {L L2 N bs gs c1 c2 N' bs' gs' c1' c2' b4 b7 : Nat} {mx mx' : Nat → Nat → Nat} {mg mg' : Nat → Bool} {W : AW} (hM : MachAt W L N bs gs c1 c2 mx mg) (hM' : MachAt W L2 N' bs' gs' c1' c2' mx' mg')
    (h4 : W.Has b4 1 (.slice (some ⟨bs, 0, none⟩) N c1)) (h7 : W.Has b7 1 (.slice (some ⟨bs', 0, none⟩) N' c1')) {s s' x : Nat} (hs : s < N) (hs' : s' < N') (hx : x < 4) :
    WpF T0 35 [pr s s', .int .i64 (x : Nat), .pointer (some ⟨b4, 0, none⟩), .pointer (some ⟨b7, 0, none⟩)] W (fun v W' => Ext W W' ∧ v = pr (mx s x : Nat) (mx' s' x : Nat)) := by
  refine wpF fun35 rfl ?_
  refine wpK_reg (fun R hR => by simp [pr, opAlloc, zero84]; exact hR) ?_
  obtain ⟨W1, hW1, hE1, hn1, hk0, hk1, hr6⟩ : ∃ W1, W1 = (W.newCells 84 [.int .i64 (s : Nat), .int .i64 (s' : Nat)]).newCells 84 [.int .i64 0, .int .i64 0] ∧ Ext W W1 ∧ W1.next = W.next + 2 ∧
      W1.Has W.next 0 (.int .i64 (s : Nat)) ∧ W1.Has W.next 1 (.int .i64 (s' : Nat)) ∧ W1.blocks.get (W.next + 1) = some ⟨.cells (Tr.nil.lay 0 [.int .i64 0, .int .i64 0]) 2 84, []⟩ := by
    refine ⟨_, rfl, (Only.newCells _ _ _).trans (Only.newCells _ _ _), rfl, (Has.newCells rfl).ext (.newCells _ _ _), (Has.newCells rfl).ext (.newCells _ _ _), by rw [newCells_get, if_pos (by rw [newCells_next])]; rfl⟩
  rw [← hW1]
  clear hW1
  have hA : aIndexAddr T0 84 (.pointer (some ⟨W.next, 0, none⟩)) (.int .i64 0) = some (.pointer (some ⟨W.next, 0, none⟩)) := indexAddr_84 W.next 0 0 .i64 (by omega)
  have hB : aIndexAddr T0 84 (.pointer (some ⟨W.next, 0, none⟩)) (.int .i64 1) = some (.pointer (some ⟨W.next, 1, none⟩)) := indexAddr_84 W.next 0 1 .i64 (by omega)
  have hl0 := load_ext und3 rfl hk0 (.refl _ _)
  have hl1 := load_ext und3 rfl hk1 (.refl _ _)
  have hn4 := load_ext und55 rfl h4 hE1
  have hn7 := load_ext und55 rfl h7 hE1
  have ha1 := indexAddr_slice (b := bs) (o := 0) (c := c1) (k := .i64) und55 sz85 hs
  have ha1' := indexAddr_slice (b := bs') (o := 0) (c := c1') (k := .i64) und55 sz85 hs'
  have ha2 := indexAddr_85' bs (s * 4) x .i64 hx
  have ha2' := indexAddr_85' bs' (s' * 4) x .i64 hx
  have hv := load_ext und3 rfl (hM.row s x hs hx) hE1
  have hv' := load_ext und3 rfl (hM'.row s' x hs' hx) hE1
  simp only [Nat.zero_add] at ha1 ha1'
  have hbd : ∀ a b : Int, aBuild T0 84 [(0, .int .i64 a), (1, .int .i64 b)] = some (.agg ⟨[.int .i64 a, .int .i64 b]⟩) := fun a b => by kernel_rfl
  obtain ⟨W2, r1, r2, r3, r4⟩ := storeVar_own (T := T0) (t := 84) (W := W1) (v := .agg ⟨[.int .i64 (mx s x : Nat), .int .i64 (mx' s' x : Nat)]⟩) (b := W.next + 1) (o := 0) inf84 rfl hr6 (by show 0 + 2 ≤ 2; omega) rfl
  refine wpK_dr (wr := Tr.nil |>.set 7 0 |>.set 8 1 |>.set 9 2 |>.set 10 3 |>.set 11 4 |>.set 12 5 |>.set 13 6 |>.set 14 7 |>.set 15 8 |>.set 16 9 |>.set 17 10 |>.set 18 11 |>.set 19 12 |>.set 20 13 |>.set 21 14 |>.set 22 15 |>.set 23 16) (bits := Tr.nil.lay 0 [0, 1, 0, 4, 0, 15, 63, 127, 0, 256, 0, 1024, 0, 3840, 16128, 32512, 65535, 131071]) (ord := [0, 1, 2, 3, 4, 5, 6, 7, 8, 9, 10, 11, 12, 13, 14, 15, 16, 17])
    (J := fun A W => A.defers = [] ∧ A.tmps.get 6 = some (.pointer (some ⟨W1.next - 1, 0, none⟩)) ∧ W = W2) (by kernel_rfl) (by kernel_rfl) (by kernel_rfl) (fun G hG => ?_) ?_
  · simp [hA, hB, hl0, hl1, hn4, hn7, ha1, ha1', ha2, ha2', hv, hv', opBuild, aParts, hbd, opStore, newCells_next, r1, r2]
    apply hG
    exact ⟨rfl, by simp, rfl⟩
  rintro ⟨t, n, ds⟩ W' ⟨hd, h6, rfl⟩
  simp only at hd h6
  subst hd
  have hp6 : W1.next - 1 = W.next + 1 := by omega
  rw [hp6] at h6
  have hc0 : W'.Has (W.next + 1) 0 (.int .i64 (mx s x : Nat)) := ⟨by omega, by simp only [AW.cell, r4, blt_dec]; rfl⟩
  have hc1 : W'.Has (W.next + 1) 1 (.int .i64 (mx' s' x : Nat)) := ⟨by omega, by simp only [AW.cell, r4, blt_dec]; rfl⟩
  refine wpK_ret ⟨.inr rfl, rfl, [pr (mx s x : Nat) (mx' s' x : Nat)], ?_, ⟨by omega, fun b hb hx => by rw [r3 b (by omega)]; exact hE1.2 b hb hx⟩, rfl⟩
  show aResults T0 _ _ [.cell 6 84] = _
  simp [h6, load84 hc0 hc1]
  rfl
end Go.Proofs.Ytfpakfidfmjfhaa

open Go Go.Eng
namespace Go.Proofs.Ytfpakfidfmjfhaa
attribute [local congr] undef_congr WpK.congr WpS.congr WpL.congr WpC.congr WpF.congr gotS.congr callS.congr nextS.congr wantS.congr condS.congr
attribute [local irreducible] WpK
attribute [local simp] WpDr_nil WpDr_cons atS_some dwantS_true dwantS_false kindS_light kindS_float kindS_heavy lightS_value floatS_some heavyS_value heavyS_skip heavyS_enter dcallS_some doneS_eq
  isLight isFloat isPlain dLook testBit_dec dChain dLights_nil dLights_skip dLights_one dLight_nil dLight_cons dFreshes_nil dFreshes_one oneF_none oneF_some dFresh_nil dFresh_cons oneL_some oneW_true oneW_false sameV_value dPut dMay valEq arrEq listEq List.getElem?_cons Tr.get_nil dEnd
attribute [local simp] WpS_nil WpS_cons isDefer undef_false wantS_true wantS_false nextS_value nextS_skip nextS_enter callS_some gotS_some aWanted aOp aEvalF aEval opMove opAssign opPick aVal flat flat1 AAct.put opBinOp opConvert opIndex Tr.get_set Tr.get_lay aBin aResults tupled
  aCall aVals aCallB blt_dec ble_dec beq_dec aBinI_add aBinI_sub aBinI_lss aBinI_leq aBinI_gtr aBinI_geq aBinI_eql aBinI_neq index_str len_str len_slice Nat.beq_refl und3 und37 und5 und9
  opBox opLoad opFieldAddr opIndexAddr acells aAddr field25 und22 und23 und43 und4 und28
attribute [local simp] field31 conv_3_5 conv_3_37 conv_37_3 conv_5_3
set_option maxHeartbeats 4000000
theorem fun51 : T0.funcs.get 51 = some Try.f51 := by kernel_rfl
theorem sz5 : aSize T0 5 = some 1 := by kernel_rfl
theorem fun37 : T0.funcs.get 37 = some Try.f37 := by kernel_rfl

/-- a cell of a row that grew is written: what may share the row is no longer known -/
theorem store_grown {T : Tabs} {W : AW} {t : TypeId} {i : TypeInfo} {v : Value} {b o n : Nat} {el : TypeId} {c : Tr Value} {kin : List (Nat × Bool)} {K : Nat → Prop} (hi : T.info.get t = some i) (hs : i.size = 1) (hac : acells v = [v]) (hone : v.oneCell' = true)
    (hb : W.blocks.get b = some ⟨.cells c n el, kin⟩) (hk : ∀ p ∈ kin, K p.1) (hn : o < n) :
    ∃ W', aStoreVar T W t b o v = some W' ∧ W'.next = W.next ∧ Only (fun x => x = b ∨ K x) W W' ∧ W'.blocks.get b = some ⟨.cells (c.set o v) n el, []⟩ := by
  have hlt : Nat.blt o n = true := by rw [blt_dec]; exact decide_eq_true hn
  refine ⟨⟨(AW.kill W.blocks kin).set b ⟨.cells (c.set o v) n el, []⟩, W.next⟩, ?_, rfl, ⟨Nat.le_refl _, fun x _ hx => ?_⟩, by simp [Tr.get_set]⟩
  · have hst : W.store b o v = some ⟨(AW.kill W.blocks kin).set b ⟨.cells (c.set o v) n el, []⟩, W.next⟩ := by simp only [AW.store, hb, hlt]
    simp only [aStoreVar, hi, hs, hac, List.length_cons, List.length_nil, Nat.beq_refl, AW.storeList, hone, hst]
  · simp only [Tr.get_set]
    rw [if_neg (fun e => hx (.inl e))]
    have : ∀ (kin : List (Nat × Bool)), (∀ p ∈ kin, K p.1) → (AW.kill W.blocks kin).get x = W.blocks.get x := by
      intro kin
      induction kin with
      | nil => intro _; rfl
      | cons p l ih =>
        intro hk
        obtain ⟨q, f⟩ := p
        simp only [AW.kill, Tr.get_del]
        rw [if_neg (fun e => hx (.inr (by rw [e]; exact hk (q, f) (List.mem_cons_self ..)))), ih (fun p hp => hk p (List.mem_cons_of_mem _ hp))]
    exact this kin hk

/-- the cells of a row that is turned round, i of each end done -/
def turned (l : List Value) (i k : Nat) : Option Value := if k < i ∨ l.length - i ≤ k then l[l.length - 1 - k]? else l[k]?

theorem reverse_wp {W : AW} {v : Value} {l : List Value} {K : Nat → Prop} (h : GrowsN W v l.length l 5 1 K) (hu : ∀ x ∈ l, ∃ k, x = .int .u8 k) (hlen : l.length < 1000000) :
    WpF T0 51 [v] W (fun _ W' => Only K W W' ∧ GrowsN W' v l.length l.reverse 5 1 K) := by
  refine wpF fun51 rfl ?_
  obtain ⟨h0, ⟨hz, rfl⟩ | ⟨b, c, kin, rfl, hpos, hKb, hbn, hblk, hcell, hkin⟩⟩ := h
  · have hl : l = [] := List.length_eq_zero_iff.1 hz
    subst hl
    refine wpK_reg (fun R hR => by simp [len_slice und38]; exact hR) ?_
    refine wpK_while1 (I := fun k A W' => W' = W ∧ A.n = 28 ∧ A.defers = [] ∧ A.tmps.get 2 = some (.int .i64 0) ∧ A.tmps.get 3 = some (.int .i64 (-1)))
      (J := fun A W' => W' = W ∧ A.defers = []) (Rt := fun _ _ => False) (k := 0) ?_ ?_ ?_ ?_
    · exact ⟨rfl, rfl, rfl, by simp, by simp; rfl⟩
    · rintro k ⟨t, n, ds⟩ W' ⟨rfl, hn, hd, h2, h3⟩ Q' hJ hRt hI
      simp only at hn hd h2 h3
      subst hn; subst hd
      try simp only [wpK_assoc]
      refine wpK_reg (fun R hR => by simp [h2, h3]; exact hR) ?_
      exact wpK_out (by simp) (hJ _ _ ⟨rfl, rfl⟩)
    · rintro A' W' hf; exact hf.elim
    · rintro ⟨t, n, ds⟩ W' ⟨rfl, hd⟩
      simp only at hd
      subst hd
      exact ⟨.inl rfl, rfl, [], rfl, .refl _ _, .nil _ _ _ _⟩
  · have hw1 : IntKind.i64.wrap ((l.length : Int) - 1) = ((l.length - 1 : Nat) : Int) := by rw [IntWalk.i64_in _ (by omega)]; omega
    refine wpK_reg (fun R hR => by simp [len_slice und38, hw1]; exact hR) ?_
    refine wpK_while1 (I := fun k A W' => A.n = 28 ∧ A.defers = [] ∧ A.tmps.get 0 = some (.slice (some ⟨b, 0, none⟩) l.length 3) ∧ Only K W W' ∧ ∃ i : Nat, k = l.length - i ∧ 2 * i ≤ l.length ∧ A.tmps.get 2 = some (.int .i64 i) ∧ A.tmps.get 3 = some (.int .i64 ((l.length - 1 - i : Nat) : Int)) ∧ (l.length - 1 - i + i + 1 = l.length) ∧
        ∃ c kin, W'.blocks.get b = some ⟨.cells c l.length 5, kin⟩ ∧ (∀ p ∈ kin, K p.1) ∧ ∀ k, k < l.length → c.get k = turned l i k)
      (J := fun A W' => A.defers = [] ∧ Only K W W' ∧ ∃ c kin, W'.blocks.get b = some ⟨.cells c l.length 5, kin⟩ ∧ (∀ p ∈ kin, K p.1) ∧ ∀ k, k < l.length → c.get k = l.reverse[k]?) (Rt := fun _ _ => False) (k := l.length) ?_ ?_ ?_ ?_
    · refine ⟨rfl, rfl, by simp, .refl _ _, 0, by omega, by omega, by simp, by simp, by omega, c, kin, by rw [h0, Nat.mul_one] at hblk; exact hblk, hkin, fun k hk => ?_⟩
      rw [hcell k (by omega)]
      unfold turned
      rw [if_neg (by omega)]
    · rintro k ⟨t, n, ds⟩ W' ⟨hn, hd, ht0, hO, i, hk, hi2, h2, h3, hsum, c, kin, hblk, hkin, hcell⟩ Q' hJ hRt hI
      simp only at hn hd ht0 h2 h3
      subst hn; subst hd
      try simp only [wpK_assoc]
      have hbn' : b < W'.next := Nat.lt_of_lt_of_le hbn hO.1
      by_cases hlt : i < l.length - 1 - i
      case neg =>
        have hlt' : ¬ ((i : Int) < ((l.length - 1 - i : Nat) : Int)) := by omega
        refine wpK_reg (fun R hR => by simp [h2, h3, hlt']; exact hR) ?_
        refine wpK_out (by simp) (hJ _ _ ⟨rfl, hO, c, kin, hblk, hkin, fun k hk => ?_⟩)
        rw [hcell k hk, List.getElem?_reverse hk]
        unfold turned
        split
        · rfl
        · rw [show l.length - 1 - k = k from by omega]
      have hlt' : ((i : Int) < ((l.length - 1 - i : Nat) : Int)) := by omega
      refine wpK_reg (fun R hR => by simp [h2, h3, hlt']; exact hR) ?_
      refine wpK_onT (by simp) ?_
      refine wpK_block ?_
      have hxi : ∃ x, l[i]? = some x := ⟨l[i], List.getElem?_eq_getElem (by omega)⟩
      have hxj : ∃ x, l[l.length - 1 - i]? = some x := ⟨l[l.length - 1 - i], List.getElem?_eq_getElem (by omega)⟩
      obtain ⟨xi, hxi⟩ := hxi
      obtain ⟨xj, hxj⟩ := hxj
      obtain ⟨ki, hki⟩ := hu xi (List.mem_of_getElem? hxi)
      obtain ⟨kj, hkj⟩ := hu xj (List.mem_of_getElem? hxj)
      have hci : c.get i = some xi := by rw [hcell i (by omega)]; unfold turned; rw [if_neg (by omega)]; exact hxi
      have hcj : c.get (l.length - 1 - i) = some xj := by rw [hcell _ (by omega)]; unfold turned; rw [if_neg (by omega)]; exact hxj
      subst hki; subst hkj
      have hHi : W'.Has b i (.int .u8 ki) := ⟨hbn', by simp only [AW.cell, hblk, blt_dec]; rw [decide_eq_true (by omega)]; exact hci⟩
      have hHj : W'.Has b (l.length - 1 - i) (.int .u8 kj) := ⟨hbn', by simp only [AW.cell, hblk, blt_dec]; rw [decide_eq_true (by omega)]; exact hcj⟩
      have hli := load_ext und5 rfl hHi (.refl _ _)
      have hlj := load_ext und5 rfl hHj (.refl _ _)
      have hai := indexAddr_slice (b := b) (o := 0) (c := 3) (k := .i64) (len := l.length) (i := i) und38 sz5 (by omega)
      have haj := indexAddr_slice (b := b) (o := 0) (c := 3) (k := .i64) (len := l.length) (i := l.length - 1 - i) und38 sz5 (by omega)
      simp only [Nat.zero_add, Nat.mul_one] at hai haj
      obtain ⟨W1, p1, p2, p3, p4⟩ := store_grown (T := T0) (t := 5) (v := .int .u8 kj) (o := i) inf5' rfl rfl rfl hblk hkin (by omega)
      obtain ⟨W2, q1, q2, q3, q4⟩ := store_grown (T := T0) (t := 5) (v := .int .u8 ki) (o := l.length - 1 - i) (K := fun _ => False) inf5' rfl rfl rfl p4 (by simp) (by omega)
      have hn2 : W'.next ≤ W1.next := by omega
      have hn3 : W1.next ≤ W2.next := by omega
      refine wpK_dr1 (wr := Tr.nil |>.set 14 0 |>.set 15 1 |>.set 16 2 |>.set 17 3 |>.set 18 4 |>.set 19 5 |>.set 20 6 |>.set 21 7 |>.set 22 8 |>.set 23 9 |>.set 24 10 |>.set 25 11 |>.set 26 12 |>.set 27 14) (bits := Tr.nil.lay 0 [0, 0, 0, 0, 0, 0, 48, 112, 0, 0, 768, 1792, 4083, 8179, 16383, 32767]) (ord := [0, 1, 2, 3, 4, 5, 6, 7, 8, 9, 10, 11, 12, 13, 14, 15])
        (J := fun A W => A.n = 28 ∧ A.defers = [] ∧ A.tmps.get 0 = some (.slice (some ⟨b, 0, none⟩) l.length 3) ∧ A.tmps.get 2 = some (.int .i64 i) ∧ A.tmps.get 3 = some (.int .i64 ((l.length - 1 - i : Nat) : Int)) ∧ W = W2) (by kernel_rfl) (by kernel_rfl) (by kernel_rfl) (fun G hG => ?_) ?_
      · simp [ht0, h2, h3, hai, haj, hli, hlj, opStore, p1, q1, hn2, hn3, valEq_slice]
        apply hG
        exact ⟨rfl, rfl, by simp [ht0], by simp [h2], by simp [h3], rfl⟩
      · rintro ⟨t, n, ds⟩ W ⟨hn, hd, ht0, h2, h3, rfl⟩
        simp only at hn hd ht0 h2 h3
        subst hn; subst hd
        have hwi := i64_succ i (by omega)
        have hwj : IntKind.i64.wrap (((l.length - 1 - i : Nat) : Int) - 1) = ((l.length - 1 - (i + 1) : Nat) : Int) := by rw [IntWalk.i64_in _ (by omega)]; omega
        refine wpK_reg1 (fun R hR => by simp [h2, h3, hwi, hwj]; exact hR) ?_
        refine hI (l.length - (i + 1)) _ _ (by omega) ⟨rfl, rfl, by simp [ht0], ?_, i + 1, rfl, by omega, by simp, by simp, by omega, _, _, q4, by simp, fun k hk => ?_⟩
        · exact hO.trans ⟨by omega, fun x hx hk => by rw [q3.2 x (by omega) (fun y => y.elim (fun e => hk (by rw [e]; exact hKb)) (fun e => e)), p3.2 x hx (fun y => y.elim (fun e => hk (by rw [e]; exact hKb)) hk)]⟩
        · simp only [Tr.get_set]
          unfold turned
          by_cases e1 : k = l.length - 1 - i
          · rw [if_pos e1, if_pos (by omega), show l.length - 1 - k = i from by omega]; exact hxi.symm
          · rw [if_neg e1]
            by_cases e2 : k = i
            · rw [if_pos e2, if_pos (by omega), e2]; exact hxj.symm
            · rw [if_neg e2, hcell k hk]
              unfold turned
              by_cases e3 : k < i ∨ l.length - i ≤ k
              · rw [if_pos e3, if_pos (by omega)]
              · rw [if_neg e3, if_neg (by omega)]
    · rintro A' W' hf; exact hf.elim
    · rintro ⟨t, n, ds⟩ W' ⟨hd, hO, c, kin, hblk, hkin, hcell⟩
      simp only at hd
      subst hd
      refine ⟨.inl rfl, rfl, [], rfl, hO, by simp, .inr ⟨b, c, kin, rfl, hpos, hKb, Nat.lt_of_lt_of_le hbn hO.1, by rw [List.length_reverse]; exact hblk, fun k hk => hcell k (by simpa using hk), hkin⟩⟩
end Go.Proofs.Ytfpakfidfmjfhaa

open Go Go.Eng
namespace Go.Proofs.Ytfpakfidfmjfhaa
attribute [local congr] undef_congr WpK.congr WpS.congr WpL.congr WpC.congr WpF.congr gotS.congr callS.congr nextS.congr wantS.congr condS.congr
attribute [local irreducible] WpK
attribute [local simp] WpDr_nil WpDr_cons atS_some dwantS_true dwantS_false kindS_light kindS_float kindS_heavy lightS_value floatS_some heavyS_value heavyS_skip heavyS_enter dcallS_some doneS_eq
  isLight isFloat isPlain dLook testBit_dec dChain dLights_nil dLights_skip dLights_one dLight_nil dLight_cons dFreshes_nil dFreshes_one oneF_none oneF_some dFresh_nil dFresh_cons oneL_some oneW_true oneW_false sameV_value dPut dMay valEq arrEq listEq List.getElem?_cons Tr.get_nil dEnd
attribute [local simp] WpS_nil WpS_cons isDefer undef_false wantS_true wantS_false nextS_value nextS_skip nextS_enter callS_some gotS_some aWanted aOp aEvalF aEval opMove opAssign opPick aVal flat flat1 AAct.put opBinOp opConvert opIndex Tr.get_set Tr.get_lay aBin aResults tupled
  aCall aVals aCallB blt_dec ble_dec beq_dec aBinI_add aBinI_sub aBinI_lss aBinI_leq aBinI_gtr aBinI_geq aBinI_eql aBinI_neq index_str len_str len_slice Nat.beq_refl und3 und37 und5 und9
  opBox opLoad opFieldAddr opIndexAddr acells aAddr field25 und22 und23 und43 und4 und28
attribute [local simp] field31 conv_3_5 conv_3_37 conv_37_3 conv_5_3
set_option maxHeartbeats 4000000
theorem bytesOf_all : ∀ {l : List Value}, (∀ x ∈ l, ∃ k, x = .int .u8 k) → ∃ r, bytesOf l = some r ∧ r.length = l.length
  | [], _ => ⟨[], rfl, rfl⟩
  | x :: l, h => by
    obtain ⟨k, rfl⟩ := h x (List.mem_cons_self ..)
    obtain ⟨r, hr, hl⟩ := bytesOf_all (fun x hx => h x (List.mem_cons_of_mem _ hx))
    exact ⟨UInt8.ofNat k.toNat :: r, by simp only [bytesOf, hr], by simp [hl]⟩
theorem conv_grown {W : AW} {v : Value} {l : List Value} {K : Nat → Prop} (h : GrowsN W v l.length l 5 1 K) (hu : ∀ x ∈ l, ∃ k, x = .int .u8 k) : ∃ r, bytesOf l = some r ∧ aConv T0 W 38 9 v = some (.string ⟨⟨r⟩⟩) := by
  obtain ⟨r, hr, _⟩ := bytesOf_all hu
  refine ⟨r, hr, ?_⟩
  obtain ⟨h0, ⟨hz, rfl⟩ | ⟨b, c, kin, rfl, hpos, hKb, hbn, hblk, hcell, hkin⟩⟩ := h
  · have hl : l = [] := List.length_eq_zero_iff.1 hz
    subst hl
    cases hr
    simp only [aConv, und38, und9, und5]
  · have : W.cellsAt b 0 l.length = some l := by
      simp only [AW.cellsAt, hblk, ble_dec]
      rw [decide_eq_true (by omega)]
      exact take_get c _ 0 l rfl (fun j hj => by rw [Nat.zero_add]; exact hcell j (by omega))
    simp only [aConv, und38, und9, und5, this, hr]
/-- the letters by which a search came somewhere, from the last one on -/
def pathR (lB lL : List Value) : Nat → Nat → List Value
  | 0, _ => []
  | f + 1, i => match lB[i]? with
    | some (.int _ (.ofNat k)) => lL[i]?.toList ++ pathR lB lL f k
    | _ => []
structure Back (keys lB lL : List Value) : Prop where
  bef : ∀ i : Nat, i < keys.length → ∃ k : Int, lB[i]? = some (.int .i64 k) ∧ -1 ≤ k ∧ k < i
  let_ : ∀ i : Nat, i < keys.length → ∃ k : Int, lL[i]? = some (.int .u8 k)

theorem srch84_fld {W : AW} {p m : Nat} {col : Nat → Nat} {keys lB lL lN : List Value} {nN : Nat} (h : Srch W p m 112 109 84 2 col keys lB lL lN nN) (hpos : 0 < keys.length) :
    ∃ b2 b3, W.Has p 2 (.slice (some ⟨b2, 0, none⟩) keys.length 3) ∧ W.Has p 3 (.slice (some ⟨b3, 0, none⟩) keys.length 3) ∧ (∀ i u, lB[i]? = some u → W.Has b2 i u) ∧ (∀ i u, lL[i]? = some u → W.Has b3 i u) := by
  obtain ⟨c, hO, _⟩ := h.obj
  obtain ⟨_, v2, hv2, hG2⟩ := hO.fld 2 _ rfl
  obtain ⟨_, v3, hv3, hG3⟩ := hO.fld 3 _ rfl
  obtain ⟨b2, rfl, _, _, _, hh2⟩ := hG2.has hpos
  obtain ⟨b3, rfl, _, _, _, hh3⟩ := hG3.has hpos
  have hp := hO.lt p (by rw [hO.cp]; omega)
  exact ⟨b2, b3, ⟨hp, by simp only [AW.cell, hO.blk, blt_dec]; exact hv2⟩, ⟨hp, by simp only [AW.cell, hO.blk, blt_dec]; exact hv3⟩, hh2, hh3⟩

theorem word84_wp {W : AW} {p m : Nat} {col : Nat → Nat} {keys lB lL lN : List Value} {nN : Nat} (h : Srch W p m 112 109 84 2 col keys lB lL lN nN) (hB : Back keys lB lL) (hlen : keys.length < 10000) (i0 : Nat) (hi0 : i0 < keys.length) :
    WpF T0 37 [.pointer (some ⟨p, 0, none⟩), .int .i64 i0] W (fun v W' => Ext W W' ∧ ∃ r, v = .string ⟨⟨r⟩⟩ ∧ bytesOf (pathR lB lL keys.length i0).reverse = some r) := by
  refine wpF fun37 rfl ?_
  obtain ⟨b2, b3, hp2, hp3, hh2, hh3⟩ := srch84_fld h (by omega)
  refine wpK_reg (fun R hR => by simp; exact hR) ?_
  try simp only [wpK_assoc]
  refine wpK_reg (fun R hR => by simp; exact hR) ?_
  refine wpK_while (I := fun k A W' => A.n = 35 ∧ A.defers = [] ∧ A.tmps.get 0 = some (.pointer (some ⟨p, 0, none⟩)) ∧ Ext W W' ∧ ∃ (i : Nat) (v : Value) (out : List Value), k = i + 1 ∧ i < keys.length ∧ A.tmps.get 1 = some (.int .i64 i) ∧ A.tmps.get 5 = some v ∧
        GrowsN W' v out.length out 5 1 (fun b => W.next ≤ b) ∧ (∀ x ∈ out, ∃ k, x = .int .u8 k) ∧ out.length + i < keys.length ∧ ∃ f, i < f ∧ pathR lB lL keys.length i0 = out ++ pathR lB lL f i)
      (J := fun A W' => A.n = 35 ∧ A.defers = [] ∧ Ext W W' ∧ ∃ (v : Value) (out : List Value), A.tmps.get 5 = some v ∧ GrowsN W' v out.length out 5 1 (fun b => W.next ≤ b) ∧ (∀ x ∈ out, ∃ k, x = .int .u8 k) ∧ out.length < keys.length ∧ pathR lB lL keys.length i0 = out)
      (Rt := fun _ _ => False) (k := i0 + 1) ?_ ?_ ?_ ?_
  · exact ⟨rfl, rfl, by simp, .refl _ _, i0, .slice none 0 0, [], rfl, hi0, by simp, by simp, .nil _ _ _ _, by simp, by simpa using hi0, keys.length, hi0, rfl⟩
  · rintro k ⟨t, n, ds⟩ W' ⟨hn, hd, h0, hE, i, v, out, hk, hi, h1, h5, hG, hu, hol, f, hf, hpath⟩ Q' hJ hRt hI
    simp only at hn hd h0 h1 h5
    subst hn; subst hd
    obtain ⟨kb, hkb, hkb1, hkb2⟩ := hB.bef i hi
    obtain ⟨kl, hkl⟩ := hB.let_ i hi
    have hl2 := load_ext und43 rfl hp2 hE
    have hl3 := load_ext und38 rfl hp3 hE
    have ha2 := indexAddr_slice (b := b2) (o := 0) (c := 3) (k := .i64) und43 sz3 hi
    have ha3 := indexAddr_slice (b := b3) (o := 0) (c := 3) (k := .i64) und38 sz5 hi
    simp only [Nat.zero_add, Nat.mul_one] at ha2 ha3
    have hv2 := load_ext und3 rfl (hh2 i _ hkb) hE
    have hv3 := load_ext und5 rfl (hh3 i _ hkl) hE
    try simp only [wpK_assoc]
    by_cases hneg : kb = -1
    · subst hneg
      refine wpK_reg (fun R hR => by simp [h0, h1, opNilCheck, nilck, field112, hl2, ha2, hv2]; exact hR) ?_
      refine wpK_out (by simp) (hJ _ _ ⟨rfl, rfl, hE, v, out, by simp [h5], hG, hu, by omega, ?_⟩)
      rw [hpath]
      cases f with
      | zero => omega
      | succ f => simp only [pathR, hkb]; simp
    · obtain ⟨j, hj⟩ : ∃ j : Nat, kb = j := ⟨kb.toNat, by omega⟩
      subst hj
      refine wpK_reg (fun R hR => by simp [h0, h1, opNilCheck, nilck, field112, hl2, ha2, hv2, hneg]; exact hR) ?_
      refine wpK_onT (by simp) ?_
      refine wpK_block1 ?_
      have hEn : Ext W' (W'.newCells 5 [.int .u8 kl]) := .newCells _ _ _
      have hx : (W'.newCells 5 [.int .u8 kl]).cellsAt W'.next 0 1 = some [.int .u8 kl] := newCells_cellsAt W' 5 [.int .u8 kl] 1 rfl
      obtain ⟨v', W4, a1, a2, a3, a4⟩ := append_growsN (T := T0) (t := 38) (i := Try.t5) (z := .int .u8 0) (sz := 1) (by omega) und38 inf5' rfl rfl rfl (hG.only (K' := fun _ => False) hEn (fun _ _ _ x => x)) (u := [.int .u8 kl]) (c := 2) rfl hx rfl (by show 2 * (out.length + 1) * 1 ≤ _; omega) (by omega)
      have hE4 : Ext W W4 := ⟨by rw [a2, newCells_next]; have := hE.1; omega, fun b hb hk => by rw [a4.2 b (by rw [newCells_next]; have := hE.1; omega) (by omega), hEn.2 b (by have := hE.1; omega) (fun x => x)]; exact hE.2 b hb hk⟩
      have hl24 := load_ext und43 rfl hp2 hE4
      have hv24 := load_ext und3 rfl (hh2 i _ hkb) hE4
      try simp only [wpK_assoc]
      refine wpK_reg (fun R hR => by simp [h0, h1, h5, opNilCheck, nilck, field112, hl3, ha3, hv3, opBuildSlice, aParts, aValW, bs38, a1]; exact hR) ?_
      try simp only [wpK_assoc]
      refine wpK_reg1 (fun R hR => by simp [h0, h1, opNilCheck, nilck, field112, hl24, ha2, hv24]; exact hR) ?_
      refine hI (j + 1) _ _ (by omega) ⟨rfl, rfl, by simp [h0], hE4, j, v', out ++ [.int .u8 kl], rfl, by omega, by simp, by simp, ?_, ?_, by simp; omega, f - 1, by omega, ?_⟩
      · rw [List.length_append]
        refine a3.mono (fun b hb => hb.elim (fun x => x) (fun e => by rw [newCells_next] at e; have := hE.1; omega))
      · intro x hx
        rcases List.mem_append.1 hx with hx | hx
        · exact hu x hx
        · rw [List.mem_singleton] at hx; exact ⟨kl, hx⟩
      · rw [hpath]
        cases f with
        | zero => omega
        | succ f =>
          show out ++ pathR lB lL (f + 1) i = _
          have e : pathR lB lL (f + 1) i = lL[i]?.toList ++ pathR lB lL f j := by
            show (match lB[i]? with | some (.int _ (.ofNat k)) => lL[i]?.toList ++ pathR lB lL f k | _ => []) = _
            rw [hkb]
          rw [e, hkl]; simp
  · rintro A' W' hf; exact hf.elim
  · rintro ⟨t, n, ds⟩ W' ⟨hn, hd, hE, v, out, h5, hG, hu, hol, hpath⟩
    simp only at hn hd h5
    subst hn; subst hd
    try simp only [wpK_assoc]
    refine wpK_regc (J := fun A W'' => A.n = 35 ∧ A.defers = [] ∧ A.tmps.get 5 = some v ∧ Only (fun b => W.next ≤ b) W' W'' ∧ GrowsN W'' v out.length out.reverse 5 1 (fun b => W.next ≤ b)) (fun R hR => ?_) ?_
    · simp [h5, aEnter, fun51, short_other, aCallV]
      rw [callS_none]
      refine (reverse_wp hG hu (by omega)).mono ?_
      rintro _ W'' ⟨g1, g2⟩
      simp
      apply hR
      exact ⟨rfl, rfl, by simp [h5], g1, g2⟩
    rintro ⟨t, n, ds⟩ W'' ⟨hn, hd, h5, hO, hG2⟩
    simp only at hn hd h5
    subst hn; subst hd
    rw [← List.length_reverse] at hG2
    obtain ⟨r, hr1, hr2⟩ := conv_grown hG2 (fun x hx => hu x (by simpa using hx))
    try simp only [wpK_assoc]
    refine wpK_reg (fun R hR => by simp [h5, hr2]; exact hR) ?_
    refine wpK_ret ⟨.inr rfl, rfl, [.string ⟨⟨r⟩⟩], by simp, ⟨by have := hE.1; have := hO.1; omega, fun b hb hx => by rw [hO.2 b (by have := hE.1; omega) (by omega)]; exact hE.2 b hb hx⟩, r, rfl, by rw [hpath]; exact hr1⟩
end Go.Proofs.Ytfpakfidfmjfhaa

open Go Go.Eng
namespace Go.Proofs.Ytfpakfidfmjfhaa
attribute [local congr] undef_congr WpK.congr WpS.congr WpL.congr WpC.congr WpF.congr gotS.congr callS.congr nextS.congr wantS.congr condS.congr
attribute [local irreducible] WpK
attribute [local simp] WpDr_nil WpDr_cons atS_some dwantS_true dwantS_false kindS_light kindS_float kindS_heavy lightS_value floatS_some heavyS_value heavyS_skip heavyS_enter dcallS_some doneS_eq
  isLight isFloat isPlain dLook testBit_dec dChain dLights_nil dLights_skip dLights_one dLight_nil dLight_cons dFreshes_nil dFreshes_one oneF_none oneF_some dFresh_nil dFresh_cons oneL_some oneW_true oneW_false sameV_value dPut dMay valEq arrEq listEq List.getElem?_cons Tr.get_nil dEnd
attribute [local simp] WpS_nil WpS_cons isDefer undef_false wantS_true wantS_false nextS_value nextS_skip nextS_enter callS_some gotS_some aWanted aOp aEvalF aEval opMove opAssign opPick aVal flat flat1 AAct.put opBinOp opConvert opIndex Tr.get_set Tr.get_lay aBin aResults tupled
  aCall aVals aCallB blt_dec ble_dec beq_dec aBinI_add aBinI_sub aBinI_lss aBinI_leq aBinI_gtr aBinI_geq aBinI_eql aBinI_neq index_str len_str len_slice Nat.beq_refl und3 und37 und5 und9
  opBox opLoad opFieldAddr opIndexAddr acells aAddr field25 und22 und23 und43 und4 und28
attribute [local simp] field31 conv_3_5 conv_3_37 conv_37_3 conv_5_3
set_option maxHeartbeats 4000000
attribute [local simp] field57
theorem fun23 : T0.funcs.get 23 = some Try.f23 := by kernel_rfl
theorem zero9 : aZero T0 9 = some (.string ⟨⟨[]⟩⟩) := by kernel_rfl
theorem zero4 : aZero T0 4 = some (.bool false) := by kernel_rfl
theorem zero82 : aZero T0 82 = some (.pointer none) := by kernel_rfl
theorem inf82 : T0.info.get 82 = some Try.t82 := by kernel_rfl
theorem inf9 : T0.info.get 9 = some Try.t9 := by kernel_rfl
theorem bld84 (a b : Int) : aBuild T0 84 [(0, .int .i64 a), (1, .int .i64 b)] = some (pr a b) := by kernel_rfl

def IsP (N N' : Nat) (v : Value) : Prop := ∃ a b : Nat, a < N ∧ b < N' ∧ v = pr a b
def fstP : Value → Nat
  | .agg ⟨[a, _]⟩ => codeS a
  | _ => 0
def sndP : Value → Nat
  | .agg ⟨[_, b]⟩ => codeS b
  | _ => 0
theorem fstP_pr (a b : Nat) : fstP (pr a b) = a := rfl
theorem sndP_pr (a b : Nat) : sndP (pr a b) = b := rfl
def stepP (N N' : Nat) (mx mx' : Nat → Nat → Nat) (key : Value) (x : Nat) : Value :=
  if fstP key < N ∧ sndP key < N' ∧ x < 4 then pr (mx (fstP key) x : Nat) (mx' (sndP key) x : Nat) else pr (0 : Nat) (0 : Nat)
theorem stepP_is {N N' : Nat} {mx mx' : Nat → Nat → Nat} (hN : 0 < N) (hN' : 0 < N') (h : ∀ s x, s < N → x < 4 → mx s x < N) (h' : ∀ s x, s < N' → x < 4 → mx' s x < N') {key : Value} {x : Nat} : IsP N N' key → IsP N N' (stepP N N' mx mx' key x) := by
  rintro ⟨a, b, ha, hb, rfl⟩
  unfold stepP
  rw [fstP_pr, sndP_pr]
  split
  · rename_i hc; exact ⟨_, _, h a x ha hc.2.2, h' b x hb hc.2.2, rfl⟩
  · exact ⟨0, 0, hN, hN', rfl⟩
theorem stepP_eq {N N' : Nat} {mx mx' : Nat → Nat → Nat} {a b x : Nat} (ha : a < N) (hb : b < N') (hx : x < 4) : stepP N N' mx mx' (pr a b) x = pr (mx a x : Nat) (mx' b x : Nat) := by
  unfold stepP
  rw [fstP_pr, sndP_pr, if_pos ⟨ha, hb, hx⟩]
theorem IsP.k84 {N N' : Nat} {v : Value} (h : IsP N N' v) : IsK84 v := let ⟨a, b, _, _, h⟩ := h; ⟨a, b, h⟩
theorem distP_len {keys : List Value} {N N' : Nat} (hk : ∀ k ∈ keys, IsP N N' k) (hd : Dist keys) : keys.length ≤ N * N' := by
  refine dist_len (fun k => fstP k * N' + sndP k) (fun k h => ?_) (fun a ha b hb e => ?_) hd
  · obtain ⟨s, t, h1, h2, rfl⟩ := hk k h
    show fstP (pr s t) * N' + sndP (pr s t) < N * N'
    rw [fstP_pr, sndP_pr]
    have : (s + 1) * N' ≤ N * N' := Nat.mul_le_mul_right _ h1
    rw [Nat.add_mul] at this
    omega
  · obtain ⟨s, t, h1, h2, rfl⟩ := hk a ha
    obtain ⟨s', t', h1', h2', rfl⟩ := hk b hb
    have e : fstP (pr s' t') * N' + sndP (pr s' t') = fstP (pr s t) * N' + sndP (pr s t) := e
    rw [fstP_pr, sndP_pr, fstP_pr, sndP_pr] at e
    have hs : s' = s := by
      rcases Nat.lt_trichotomy s' s with h | h | h
      · have : (s' + 1) * N' ≤ s * N' := Nat.mul_le_mul_right _ h
        rw [Nat.add_mul] at this; omega
      · exact h
      · have : (s + 1) * N' ≤ s' * N' := Nat.mul_le_mul_right _ h
        rw [Nat.add_mul] at this; omega
    subst hs
    have ht : t' = t := by omega
    subst ht
    exact key84_self _ _

/-! where the states of a search came from -/
theorem RowI.back {step : Value → Nat → Value} {key : Value} {i : Nat} : ∀ {x : Nat} {keys lB lL row keys' lB' lL' : List Value}, RowI step key i x keys lB lL row keys' lB' lL' → i < keys.length → (keys.length = lB.length ∧ keys.length = lL.length ∧ Back keys lB lL) → (keys'.length = lB'.length ∧ keys'.length = lL'.length ∧ Back keys' lB' lL')
  | 0, _, _, _, _, _, _, _, h, _, hb => by obtain ⟨rfl, rfl, rfl, _⟩ := h; exact hb
  | x + 1, _, _, _, _, _, _, _, ⟨r1, k1, B1, L1, j, h1, h2, _⟩, hi, hb => by
    obtain ⟨e1, e2, h3⟩ := h1.back hi hb
    have hle := h1.grows.1.length_le
    obtain ⟨_, _, ⟨rfl, rfl, rfl⟩ | ⟨_, _, rfl, rfl, rfl⟩⟩ := h2
    · exact ⟨e1, e2, h3⟩
    · refine ⟨by simp [e1], by simp [e2], fun q hq => ?_, fun q hq => ?_⟩
      · by_cases hlt : q < k1.length
        · obtain ⟨k, g1, g2⟩ := h3.bef q hlt
          exact ⟨k, by rw [List.getElem?_append_left (by omega)]; exact g1, g2⟩
        · have : q = k1.length := by simp at hq; omega
          subst this
          exact ⟨i, by rw [e1]; simp, by omega, by omega⟩
      · by_cases hlt : q < k1.length
        · obtain ⟨k, g1⟩ := h3.let_ q hlt
          exact ⟨k, by rw [List.getElem?_append_left (by omega)]; exact g1⟩
        · have : q = k1.length := by simp at hq; omega
          subst this
          exact ⟨97 + x, by rw [e2]; simp⟩
theorem Bfs.back {step : Value → Nat → Value} {L : Nat} {start : Value} : ∀ {i : Nat} {keys lB lL lN : List Value}, Bfs step L start i keys lB lL lN → keys.length = lB.length ∧ keys.length = lL.length ∧ Back keys lB lL
  | 0, _, _, _, _, h => by
    obtain ⟨rfl, rfl, rfl, _⟩ := h
    refine ⟨rfl, rfl, fun i hi => ?_, fun i hi => ?_⟩
    · have : i = 0 := by simpa using hi
      subst this; exact ⟨-1, rfl, by omega, by omega⟩
    · have : i = 0 := by simpa using hi
      subst this; exact ⟨97, rfl⟩
  | i + 1, _, _, _, _, ⟨_, _, _, _, _, _, h1, h2, h3, _⟩ => h3.back (List.getElem?_eq_some_iff.1 h2).1 h1.back

/-- do two machines agree on whether a pair of their states is good? -/
def agree (mg mg' : Nat → Bool) (k : Value) : Prop := mg (fstP k) = mg' (sndP k)

/-- what part's loop keeps -/
structure Prt (W5 : AW) (col0 : Nat → Nat) (mg mg' : Nat → Bool) (i : Nat) (keys _lB _lL _lN : List Value) (col : Nat → Nat) (W' : AW) : Prop where
  le : i ≤ keys.length
  next : W5.next ≤ W'.next
  fix : ∀ b, b < W5.next → col0 b = 0 → col b = 0 ∧ W'.blocks.get b = W5.blocks.get b
  same : ∀ j k, j < i → keys[j]? = some k → agree mg mg' k
theorem Prt.stab {W5 : AW} {col0 : Nat → Nat} {mg mg' : Nat → Bool} {i : Nat} {keys lB lL lN : List Value} {col : Nat → Nat} {W' W'' : AW} {keys' lB' lL' lN' : List Value} {col' : Nat → Nat} (h : Prt W5 col0 mg mg' i keys lB lL lN col W')
    (hk : keys <+: keys') (hO : Only (fun b => col b ≠ 0) W' W'') (h0 : ∀ b, b < W'.next → col b = 0 → col' b = 0) : Prt W5 col0 mg mg' i keys' lB' lL' lN' col' W'' where
  le := Nat.le_trans h.le hk.length_le
  next := Nat.le_trans h.next hO.1
  fix := fun b hb hc => by
    obtain ⟨g1, g2⟩ := h.fix b hb hc
    have hlt := Nat.lt_of_lt_of_le hb h.next
    exact ⟨h0 b hlt g1, by rw [hO.2 b hlt (fun x => x g1)]; exact g2⟩
  same := fun j k hj hjk => by
    obtain ⟨r, rfl⟩ := hk
    rw [List.getElem?_append_left (Nat.lt_of_lt_of_le hj h.le)] at hjk
    exact h.same j k hj hjk
/-- .. and what it comes to when it is left -/
def Prd (W5 : AW) (col0 : Nat → Nat) (t8 t9 l : Nat) (mg mg' : Nat → Bool) (step : Value → Nat → Value) (L : Nat) (start : Value) (i : Nat) (keys lB lL lN : List Value) (_col : Nat → Nat) (W' : AW) : Prop :=
  Bfs step L start i keys lB lL lN ∧ (∀ j k, j < i → keys[j]? = some k → agree mg mg' k) ∧ (∃ k, keys[i]? = some k ∧ ¬ agree mg mg' k) ∧ W5.next ≤ W'.next ∧ (∃ r, bytesOf (pathR lB lL keys.length i).reverse = some r ∧ W'.Has t8 0 (.string ⟨⟨r⟩⟩)) ∧ W'.Has t9 0 (.bool true) ∧
    (∀ b, b < W5.next → col0 b = 0 → b ≠ t8 → b ≠ t9 → b ≠ l → W'.blocks.get b = W5.blocks.get b) ∧ ∃ fn' t' n' ps' as' bd' df', W'.blocks.get l = some ⟨.loop .done (some .ret) fn' t' n' ps' as' bd' df', []⟩
end Go.Proofs.Ytfpakfidfmjfhaa

open Go Go.Eng
namespace Go.Proofs.Ytfpakfidfmjfhaa
attribute [local congr] undef_congr WpK.congr WpS.congr WpL.congr WpC.congr WpF.congr gotS.congr callS.congr nextS.congr wantS.congr condS.congr
attribute [local irreducible] WpK
attribute [local simp] WpDr_nil WpDr_cons atS_some dwantS_true dwantS_false kindS_light kindS_float kindS_heavy lightS_value floatS_some heavyS_value heavyS_skip heavyS_enter dcallS_some doneS_eq
  isLight isFloat isPlain dLook testBit_dec dChain dLights_nil dLights_skip dLights_one dLight_nil dLight_cons dFreshes_nil dFreshes_one oneF_none oneF_some dFresh_nil dFresh_cons oneL_some oneW_true oneW_false sameV_value dPut dMay valEq arrEq listEq List.getElem?_cons Tr.get_nil dEnd
attribute [local simp] WpS_nil WpS_cons isDefer undef_false wantS_true wantS_false nextS_value nextS_skip nextS_enter callS_some gotS_some aWanted aOp aEvalF aEval opMove opAssign opPick aVal flat flat1 AAct.put opBinOp opConvert opIndex Tr.get_set Tr.get_lay aBin aResults tupled
  aCall aVals aCallB blt_dec ble_dec beq_dec aBinI_add aBinI_sub aBinI_lss aBinI_leq aBinI_gtr aBinI_geq aBinI_eql aBinI_neq index_str len_str len_slice Nat.beq_refl und3 und37 und5 und9
  opBox opLoad opFieldAddr opIndexAddr acells aAddr field25 und22 und23 und43 und4 und28
attribute [local simp] field31 conv_3_5 conv_3_37 conv_37_3 conv_5_3
set_option maxHeartbeats 4000000
attribute [local simp] field57
theorem bool_neq (xo yo : Operand) (a b : Bool) : aBin T0 .neq 4 xo yo (.bool a) (.bool b) = some (.bool (a != b)) := by
  cases a <;> cases b <;> simp [aBin, aGuard, aBinO, aEq, und4]
/-- what part answers -/
def PartIs (mg mg' : Nat → Bool) (step : Value → Nat → Value) (L : Nat) (start : Value) (w : ByteArray) (ok : Bool) : Prop :=
  ∃ i keys lB lL lN, Bfs step L start i keys lB lL lN ∧ (∀ j k, j < i → keys[j]? = some k → agree mg mg' k) ∧
    ((i = keys.length ∧ w = ⟨⟨[]⟩⟩ ∧ ok = false) ∨ ((∃ k, keys[i]? = some k ∧ ¬ agree mg mg' k) ∧ ok = true ∧ ∃ r, bytesOf (pathR lB lL keys.length i).reverse = some r ∧ w = ⟨⟨r⟩⟩))

theorem part_wp (L N bs gs c1 c2 N' bs' gs' c1' c2' : Nat) (L' : Nat) (mx mx' : Nat → Nat → Nat) (mg mg' : Nat → Bool) (s s' : Nat) (W : AW) (hM : MachAt W L N bs gs c1 c2 mx mg) (hM' : MachAt W L' N' bs' gs' c1' c2' mx' mg') (hL4 : L ≤ 4) (hs : s < N) (hs' : s' < N') (hNN : N * N' < 10000)
    (hmx : ∀ s x, s < N → x < 4 → mx s x < N) (hmx' : ∀ s x, s < N' → x < 4 → mx' s x < N') :
    WpF T0 23 [machV L N bs gs c1 c2, .int .i64 s, .int .i64 s', machV L' N' bs' gs' c1' c2'] W (fun v W' => Ext W W' ∧ ∃ w ok, v = .tuple ⟨[.string w, .bool ok]⟩ ∧ PartIs mg mg' (stepP N N' mx mx') L (pr s s') w ok) := by
  refine wpFd fun23 rfl ?_
  refine wpK_reg (fun R hR => by simp [opAlloc, zero9, zero4]; exact hR) ?_
  obtain ⟨W1, hW1, hE1, hn1, h4c, h7c, h8c, h9c⟩ : ∃ W1, W1 = (((W.newCells 57 [.int .i64 L, .slice (some ⟨bs, 0, none⟩) N c1, .slice (some ⟨gs, 0, none⟩) N c2]).newCells 57 [.int .i64 L', .slice (some ⟨bs', 0, none⟩) N' c1', .slice (some ⟨gs', 0, none⟩) N' c2']).newCells 9 [.string ⟨⟨[]⟩⟩]).newCells 4 [.bool false] ∧ Ext W W1 ∧ W1.next = W.next + 4 ∧
      (∀ j u, [Value.int .i64 (L : Nat), .slice (some ⟨bs, 0, none⟩) N c1, .slice (some ⟨gs, 0, none⟩) N c2][j]? = some u → W1.Has W.next j u) ∧
      (∀ j u, [Value.int .i64 (L' : Nat), .slice (some ⟨bs', 0, none⟩) N' c1', .slice (some ⟨gs', 0, none⟩) N' c2'][j]? = some u → W1.Has (W.next + 1) j u) ∧
      (∃ c, W1.blocks.get (W.next + 2) = some ⟨.cells c 1 9, []⟩) ∧ (∃ c, W1.blocks.get (W.next + 3) = some ⟨.cells c 1 4, []⟩) := by
    refine ⟨_, rfl, (((Only.newCells _ _ _).trans (Only.newCells _ _ _)).trans (Only.newCells _ _ _)).trans (Only.newCells _ _ _), rfl, fun j u h => (((Has.newCells h).ext (.newCells _ _ _)).ext (.newCells _ _ _)).ext (.newCells _ _ _), fun j u h => ((Has.newCells h).ext (.newCells _ _ _)).ext (.newCells _ _ _), ?_, ?_⟩
    · exact ⟨_, by rw [newCells_get, if_neg (by simp only [newCells_next]; omega), newCells_get, if_pos (by simp only [newCells_next])]; rfl⟩
    · exact ⟨_, by rw [newCells_get, if_pos (by simp only [newCells_next])]; rfl⟩
  rw [← hW1]
  simp only [newCells_next]
  clear hW1
  try simp only [wpK_assoc]
  -- the search
  refine wpK_regc (J := fun A W3 => A.n = 42 ∧ A.defers = [] ∧ A.tmps.get 4 = some (.pointer (some ⟨W.next, 0, none⟩)) ∧ A.tmps.get 7 = some (.pointer (some ⟨W.next + 1, 0, none⟩)) ∧ A.tmps.get 8 = some (.pointer (some ⟨W.next + 2, 0, none⟩)) ∧ A.tmps.get 9 = some (.pointer (some ⟨W.next + 3, 0, none⟩)) ∧
      ∃ p10 p m col, A.tmps.get 10 = some (.pointer (some ⟨p10, 0, none⟩)) ∧ W1.next ≤ p10 ∧ col p10 = 0 ∧ W3.Has p10 0 (.pointer (some ⟨p, 0, none⟩)) ∧ Ext W1 W3 ∧ (∀ b, b < W1.next → col b = 0) ∧ Srch W3 p m 112 109 84 2 col [pr s s'] [.int .i64 (-1)] [.int .u8 97] [] 0) (fun R hR => ?_) ?_
  · simp [opBuild, aParts, bld84, aEnter, fun34, short_other, aCallV]
    rw [callS_none]
    refine (from84_wp s s' W1).mono ?_
    rintro v W2 ⟨rfl, h1, col, h2, h3⟩
    obtain ⟨W3, r1, r2, r3, r4⟩ := storeVar_own (T := T0) (t := 82) (W := W2.newCells 82 [.pointer none]) (v := .pointer (some ⟨W1.next + 2, 0, none⟩)) (b := W2.next) (o := 0) inf82 rfl (by rw [newCells_get, if_pos rfl]) (by show 0 + 1 ≤ 1; omega) rfl
    simp [opAlloc, zero82, opStore, r1]
    apply hR
    have hE23 : Ext W2 W3 := ⟨by rw [r2, newCells_next]; omega, fun b hb _ => by rw [r3 b (by omega), newCells_get, if_neg (by omega)]⟩
    have hz : col W2.next = 0 := by
      cases hc : col W2.next with
      | zero => rfl
      | succ y => exact absurd (h3.lt (b := W2.next) (by omega)) (by omega)
    exact ⟨rfl, rfl, by simp, by simp, by simp, by simp, W2.next, W1.next + 2, W1.next + 1, col, by simp, h1.1, hz, ⟨by rw [r2, newCells_next]; omega, by simp only [AW.cell, r4, blt_dec]; rfl⟩, h1.trans hE23, h2, h3.only (K := fun _ => False) hE23 (fun _ _ _ x => x)⟩
  rintro ⟨t, nt, ds⟩ W3 ⟨hnt, hd, h4, h7, h8, h9, p10, p, m, col0, h10, hp10, hcp10, hHp10, hE3, hc0, hS⟩
  simp only at hnt hd h4 h7 h8 h9 h10
  subst hnt; subst hd
  try simp only [wpK_assoc]
  refine wpK_reg (fun R hR => by simp [opMakeFunc, h4, h7]; exact hR) ?_
  have hl0 := load_ext und3 rfl (h4c 0 _ rfl) hE3
  have hl10 := load_ext und82 rfl hHp10 (.refl _ _)
  try simp only [wpK_assoc]
  refine wpK_regc (J := fun A W4 => A.n = 42 ∧ A.defers = [] ∧ A.tmps.get 4 = some (.pointer (some ⟨W.next, 0, none⟩)) ∧ A.tmps.get 7 = some (.pointer (some ⟨W.next + 1, 0, none⟩)) ∧ A.tmps.get 8 = some (.pointer (some ⟨W.next + 2, 0, none⟩)) ∧ A.tmps.get 9 = some (.pointer (some ⟨W.next + 3, 0, none⟩)) ∧
      A.tmps.get 10 = some (.pointer (some ⟨p10, 0, none⟩)) ∧
      A.tmps.get 23 = some (.func (.func 50) ⟨[]⟩ ⟨[.pointer (some ⟨W3.next, 0, none⟩), .pointer (some ⟨W3.next + 1, 0, none⟩), .pointer (some ⟨W3.next + 2, 0, none⟩)]⟩) ∧ Ext W3 W4 ∧ W4.next = W3.next + 3 ∧
      W4.Has W3.next 0 (.pointer (some ⟨p, 0, none⟩)) ∧ W4.Has (W3.next + 1) 0 (.int .i64 L) ∧ W4.Has (W3.next + 2) 0 (.func (.func 35) ⟨[]⟩ ⟨[.pointer (some ⟨W.next, 0, none⟩), .pointer (some ⟨W.next + 1, 0, none⟩)]⟩)) (fun R hR => ?_) ?_
  · simp [h4, h10, hl0, hl10, aEnter, fun36, short_other, aCallV]
    rw [callS_none]
    refine (all36_wp p L 35 [] [.pointer (some ⟨W.next, 0, none⟩), .pointer (some ⟨W.next + 1, 0, none⟩)] W3).mono ?_
    rintro v W4 ⟨rfl, g1, g2, g3, g4, g5⟩
    simp
    apply hR
    exact ⟨rfl, rfl, by simp [h4], by simp [h7], by simp [h8], by simp [h9], by simp [h10], by simp, g1, g2, g3, g4, g5⟩
  rintro ⟨t, nt, ds⟩ W4 ⟨hnt, hd, h4, h7, h8, h9, h10, h23, hE4, hn4, hb1, hb2, hb3⟩
  simp only at hnt hd h4 h7 h8 h9 h10 h23
  subst hnt; subst hd
  try simp only [wpK_assoc]
  refine wpK_range2 (f := 50) (first := ⟨[]⟩) (cap := ⟨[.pointer (some ⟨W3.next, 0, none⟩), .pointer (some ⟨W3.next + 1, 0, none⟩), .pointer (some ⟨W3.next + 2, 0, none⟩)]⟩) (by simp [h23]) fun50 (fun W5 hn5 hW5 hdf hlp => ?_)
  have hE45 : Ext W4 W5 := ⟨by omega, fun b hb _ => hW5 b hb⟩
  have hE35 : Ext W3 W5 := hE4.trans hE45
  have hE15 : Ext W1 W5 := hE3.trans hE35
  have hE05 : Ext W W5 := hE1.trans hE15
  have hlt15 := hE15.1
  have hz : ∀ b, W3.next ≤ b → col0 b = 0 := fun b hb => by
    cases hc : col0 b with
    | zero => rfl
    | succ y => exact absurd (hS.lt (b := b) (by omega)) (by omega)
  have hS5 := hS.only (K := fun _ => False) hE35 (fun _ _ _ x => x)
  have hC0 : Prt W5 col0 mg mg' 0 [pr s s'] [.int .i64 (-1)] [.int .u8 97] [] col0 W5 := ⟨Nat.zero_le _, Nat.le_refl _, fun b _ hc => ⟨hc, rfl⟩, fun j k hj => by omega⟩
  have hFix : ∀ {i keys lB lL lN col W'}, Prt W5 col0 mg mg' i keys lB lL lN col W' → ∀ {b o v}, W5.Has b o v → col0 b = 0 → W'.Has b o v := fun {i keys lB lL lN col W'} h {b o v} hh hc =>
    ⟨Nat.lt_of_lt_of_le hh.1 h.next, by rw [AW.cell_of_get (h.fix b hh.1 hc).2]; exact hh.2⟩
  have hOld : ∀ {i keys lB lL lN col W'}, Prt W5 col0 mg mg' i keys lB lL lN col W' → Ext W W' := fun {i keys lB lL lN col W'} h =>
    ⟨Nat.le_trans hE05.1 h.next, fun b hb _ => by rw [(h.fix b (Nat.lt_of_lt_of_le hb hE05.1) (hc0 b (by omega))).2]; exact hE05.2 b hb (fun x => x)⟩
  have hsK : IsP N N' (pr s s') := ⟨s, s', hs, hs', rfl⟩
  have hN0 : 0 < N := by omega
  have hN0' : 0 < N' := by omega
  have hstep : ∀ {key x}, IsP N N' key → IsP N N' (stepP N N' mx mx' key x) := fun {key x} h => stepP_is hN0 hN0' hmx hmx' h
  have hp10l := hHp10.1
  have hlt35 := hE35.1
  have hCaller : Caller 82 50 (IsP N N') L p W3.next (W3.next + 1) (W3.next + 2) (W4.next + 1) 35 [] [.pointer (some ⟨W.next, 0, none⟩), .pointer (some ⟨W.next + 1, 0, none⟩)] (stepP N N' mx mx') (pr s s') (N * N') (fun i keys lB lL lN col W => Srch W p m 112 109 84 2 col keys lB lL lN i)
      (Prt W5 col0 mg mg') (Prd W5 col0 (W.next + 2) (W.next + 3) (W4.next + 1) mg mg' (stepP N N' mx mx') L (pr s s')) := by
    refine ⟨hL4, hNN, ⟨_, fun35⟩, by decide, ⟨rfl, by simp [listEq, valEq]⟩, fun {i keys lB lL lN col W'} h => ?_, fun {i keys lB lL lN col keys' lB' lL' lN' col' W' W''} h hk _ _ _ hO _ hc => h.stab hk hO hc, fun {i keys lB lL lN col W' key x} h hkey hkk hx => ?_, hstep, hsK, fun hB => ?_, fun hB hkey hx hR => ?_, fun {i keys lB lL lN col W' key} h hS' hB hkey => ?_⟩
    · exact ⟨hFix h (hb1.ext hE45) (hz _ (by omega)), hFix h (hb2.ext hE45) (hz _ (by omega)), hFix h (hb3.ext hE45) (hz _ (by omega))⟩
    · obtain ⟨a, b, ha, hb, rfl⟩ := hkk
      refine (step35_wp (hM.ext (hOld h)) (hM'.ext (hOld h)) (hFix h ((h4c 1 _ rfl).ext hE15) (hc0 _ (by omega))) (hFix h ((h7c 1 _ rfl).ext hE15) (hc0 _ (by omega))) ha hb (by omega)).mono ?_
      rintro v W'' ⟨g1, rfl⟩
      exact ⟨g1, (stepP_eq ha hb (by omega)).symm⟩
    · exact distP_len (hB.isK hstep hsK) hB.dist
    · exact distP_len (bfs_isK hstep hR (hB.isK hstep hsK _ (List.mem_of_getElem? hkey)) (hB.isK hstep hsK)) (hR.dist hB.dist)
    · have hl : W'.blocks.get (W4.next + 1) = _ := (h.fix _ (by omega) (hz _ (by omega))).2.trans hlp
      obtain ⟨a, b, ha, hb, rfl⟩ := hB.isK (isK := IsP N N') hstep hsK key (List.mem_of_getElem? hkey)
      have hnx := h.next
      have hilt : i < keys.length := (List.getElem?_eq_some_iff.1 hkey).1
      refine ⟨_, _, _, _, _, _, _, _, _, _, (t.set 24 (.int .i64 (i : Nat))).set 25 (pr a b), hl, rfl, ?_⟩
      refine wpR ?_
      obtain ⟨W1', e1, e2, e3, e4⟩ := storeVar_own (T := T0) (t := 84) (W := W'.newCells 84 [.int .i64 0, .int .i64 0]) (v := pr a b) (b := W'.next) (o := 0) inf84 rfl (by rw [newCells_get, if_pos rfl]) (by show 0 + 2 ≤ 2; omega) rfl
      have hE1' : Ext W' W1' := ⟨by rw [e2, newCells_next]; omega, fun b hb _ => by rw [e3 b (by omega), newCells_get, if_neg (by omega)]⟩
      have hn1' : W1'.next = W'.next + 1 := e2
      have hk0 : W1'.Has W'.next 0 (.int .i64 (a : Nat)) := ⟨by omega, by simp only [AW.cell, e4, blt_dec]; rfl⟩
      have hk1 : W1'.Has W'.next 1 (.int .i64 (b : Nat)) := ⟨by omega, by simp only [AW.cell, e4, blt_dec]; rfl⟩
      try simp only [wpK_assoc]
      refine wpK_reg (fun R hR => by simp; exact hR) ?_
      refine wpK_reg1 (fun R hR => by simp [opAlloc, zero84, opStore, e1]; exact hR) ?_
      have hl1 : W1'.blocks.get (W4.next + 1) = _ := (hE1'.2 _ (by omega) (fun x => x)).trans hl
      refine ⟨rfl, _, _, _, _, _, _, _, _, hl1, ?_⟩
      have hOb := fun o => setObj_only W1' (W4.next + 1) o
      generalize hbz : (AObj.loop LoopState.busy _ _ _ _ _ _ _ _) = bz
      obtain ⟨Wb, hWb, hObz, hnb⟩ : ∃ Wb, Wb = W1'.setObj (W4.next + 1) bz ∧ Only (fun b => b = W4.next + 1) W1' Wb ∧ Wb.next = W1'.next := ⟨_, rfl, hOb bz, rfl⟩
      have hlb : Wb.blocks.get (W4.next + 1) = some ⟨bz, []⟩ := by rw [hWb, setObj_get, if_pos rfl]
      rw [← hWb]
      clear hWb
      have hcarry : ∀ {q o u}, W'.Has q o u → q ≠ W4.next + 1 → Wb.Has q o u := fun {q o u} hh hq => (hh.ext hE1').only hObz hq
      have hb4 := hcarry (hFix h ((h4c 2 _ rfl).ext hE15) (hc0 _ (by omega))) (by omega)
      have hb7 := hcarry (hFix h ((h7c 2 _ rfl).ext hE15) (hc0 _ (by omega))) (by omega)
      have hga0 := (hM.good a ha)
      have hgb0 := (hM'.good b hb)
      have hga := hcarry (hga0.ext (hOld h)) (by have := hga0.1; omega)
      have hgb := hcarry (hgb0.ext (hOld h)) (by have := hgb0.1; omega)
      have hkb0 := hk0.only hObz (show ¬ W'.next = W4.next + 1 from by omega)
      have hkb1 := hk1.only hObz (show ¬ W'.next = W4.next + 1 from by omega)
      have hA : aIndexAddr T0 84 (.pointer (some ⟨W'.next, 0, none⟩)) (.int .i64 0) = some (.pointer (some ⟨W'.next, 0, none⟩)) := indexAddr_84 W'.next 0 0 .i64 (by omega)
      have hBx : aIndexAddr T0 84 (.pointer (some ⟨W'.next, 0, none⟩)) (.int .i64 1) = some (.pointer (some ⟨W'.next, 1, none⟩)) := indexAddr_84 W'.next 0 1 .i64 (by omega)
      have ha1 := indexAddr_slice (b := gs) (o := 0) (c := c2) (k := .i64) und23 sz4 ha
      have hb1' := indexAddr_slice (b := gs') (o := 0) (c := c2') (k := .i64) und23 sz4 hb
      simp only [Nat.zero_add, Nat.mul_one] at ha1 hb1'
      refine wpK_block1 ?_
      try simp only [wpK_assoc]
      refine wpK_dr (wr := Tr.nil |>.set 26 0 |>.set 27 1 |>.set 28 2 |>.set 29 3 |>.set 30 4 |>.set 31 5 |>.set 32 6 |>.set 33 7 |>.set 34 8 |>.set 35 9 |>.set 36 10 |>.set 37 11 |>.set 38 12) (bits := Tr.nil.lay 0 [0, 1, 0, 4, 15, 31, 0, 64, 0, 256, 960, 1984, 4095]) (ord := [0, 1, 2, 3, 4, 5, 6, 7, 8, 9, 10, 11, 12])
        (J := fun A Wx => A.n = 42 ∧ A.defers = [] ∧ A.tmps.get 8 = some (.pointer (some ⟨W.next + 2, 0, none⟩)) ∧ A.tmps.get 9 = some (.pointer (some ⟨W.next + 3, 0, none⟩)) ∧ A.tmps.get 10 = some (.pointer (some ⟨p10, 0, none⟩)) ∧ A.tmps.get 12 = some (.int .i64 (i : Nat)) ∧
          A.tmps.get 38 = some (.bool (mg a != mg' b)) ∧ Wx = Wb) (by kernel_rfl) (by kernel_rfl) (by kernel_rfl) (fun G hG => ?_) ?_
      · simp [h4, h7, h8, h9, h10, load_ext und23 rfl hb4 (.refl _ _), load_ext und23 rfl hb7 (.refl _ _), load_ext und3 rfl hkb0 (.refl _ _), load_ext und3 rfl hkb1 (.refl _ _), load_ext und4 rfl hga (.refl _ _), load_ext und4 rfl hgb (.refl _ _), hA, hBx, ha1, hb1', aGuard, aBinO, aEq, und4]
        apply hG
        exact ⟨rfl, rfl, by simp [h8], by simp [h9], by simp [h10], by simp, by simp; cases mg a <;> cases mg' b <;> rfl, rfl⟩
      rintro ⟨t', nt', ds'⟩ Wx ⟨hnt', hd', h8', h9', h10', h12', h38', rfl⟩
      simp only at hnt' hd' h8' h9' h10' h12' h38'
      subst hnt'; subst hd'
      by_cases hag : mg a = mg' b
      · -- they agree
        refine wpK_endF (by simp [h38', hag]) (wpK_skip ?_)
        subst hbz
        refine ⟨_, _, _, _, _, _, _, _, _, hlb, .inl ⟨rfl, ⟨by rw [setObj_next]; omega, fun q hq hc => ?_⟩, ⟨hilt, by rw [setObj_next]; omega, fun q hq hc => ?_, fun j k hj hjk => ?_⟩⟩⟩
        · have hc : ¬ col q = 0 := hc
          have hne : q ≠ W4.next + 1 := fun e => hc (by rw [e]; exact (h.fix _ (by omega) (hz _ (by omega))).1)
          rw [setObj_get, if_neg hne, hObz.2 q (by omega) hne, hE1'.2 q hq (fun x => x)]
        · obtain ⟨q1, q2⟩ := h.fix q hq hc
          refine ⟨q1, ?_⟩
          by_cases e : q = W4.next + 1
          · rw [e, setObj_get, if_pos rfl]; exact hlp.symm
          · rw [setObj_get, if_neg e, hObz.2 q (by omega) e, hE1'.2 q (by omega) (fun x => x)]; exact q2
        · by_cases e : j = i
          · rw [e, hkey] at hjk; cases hjk
            show mg (fstP (pr a b)) = mg' (sndP (pr a b))
            rw [fstP_pr, sndP_pr]; exact hag
          · exact h.same j k (by omega) hjk
      · refine wpK_endT (by simp [h38', hag]) ?_
        have hp10b := hcarry (hFix h (hHp10.ext hE35) hcp10) (by omega)
        have hlp10 := load_ext und82 rfl hp10b (.refl _ _)
        have hSb : Srch Wx p m 112 109 84 2 col keys lB lL lN i := (hS'.only (K := fun _ => False) hE1' (fun _ _ _ x => x)).only hObz (fun q _ hq e => by rw [e] at hq; exact hq (h.fix _ (by omega) (hz _ (by omega))).1)
        obtain ⟨hbl1, hbl2, hback⟩ := hB.back
        have hkl : keys.length < 10000 := Nat.lt_of_le_of_lt (distP_len (hB.isK hstep hsK) hB.dist) hNN
        refine wpK_regc (J := fun A W2 => A.defers = [] ∧ ∃ r W7, bytesOf (pathR lB lL keys.length i).reverse = some r ∧ Ext Wx W7 ∧ W2.next = W7.next ∧ W2.Has (W.next + 2) 0 (.string ⟨⟨r⟩⟩) ∧ W2.Has (W.next + 3) 0 (.bool true) ∧ ∀ q, q ≠ W.next + 2 → q ≠ W.next + 3 → W2.blocks.get q = W7.blocks.get q) (fun R hR => ?_) ?_
        · simp [h10', h12', hlp10, aEnter, fun37, short_other, aCallV]
          rw [callS_none]
          refine (word84_wp hSb hback hkl i hilt).mono ?_
          rintro v W7 ⟨hE7, r, rfl, hr⟩
          obtain ⟨c8, hc8⟩ := h8c
          obtain ⟨c9, hc9⟩ := h9c
          have hx8 : W7.blocks.get (W.next + 2) = some ⟨.cells c8 1 9, []⟩ := by
            rw [hE7.2 _ (by omega) (fun x => x), hObz.2 _ (by omega) (by omega), hE1'.2 _ (by omega) (fun x => x), (h.fix _ (by omega) (hc0 _ (by omega))).2, hE15.2 _ (by omega) (fun x => x)]; exact hc8
          have hx9 : W7.blocks.get (W.next + 3) = some ⟨.cells c9 1 4, []⟩ := by
            rw [hE7.2 _ (by omega) (fun x => x), hObz.2 _ (by omega) (by omega), hE1'.2 _ (by omega) (fun x => x), (h.fix _ (by omega) (hc0 _ (by omega))).2, hE15.2 _ (by omega) (fun x => x)]; exact hc9
          obtain ⟨W8, f1, f2, f3, f4⟩ := storeVar_own (T := T0) (t := 9) (W := W7) (v := .string ⟨⟨r⟩⟩) (b := W.next + 2) (o := 0) inf9 rfl hx8 (by show 0 + 1 ≤ 1; omega) rfl
          obtain ⟨W9, j1, j2, j3, j4⟩ := storeVar_own (T := T0) (t := 4) (W := W8) (v := .bool true) (b := W.next + 3) (o := 0) inf4 rfl (by rw [f3 _ (by omega)]; exact hx9) (by show 0 + 1 ≤ 1; omega) rfl
          have hlt7 := hE7.1
          simp [h8', h9', opStore, f1, j1]
          apply hR
          refine ⟨rfl, r, W7, hr, hE7, by omega, ⟨by omega, ?_⟩, ⟨by omega, ?_⟩, fun q hq1 hq2 => by rw [j3 q hq2, f3 q hq1]⟩
          · simp [AW.cell, j3 (W.next + 2) (by omega), f4, blt_dec, Tr.get_lay, acells]
          · simp [AW.cell, j4, blt_dec, Tr.get_lay, acells]
        · rintro ⟨t2, nt2, ds2⟩ W2 ⟨hd2, r, W7, hr, hE7, hn2, hs8, hs9, hfr⟩
          simp only at hd2
          subst hd2
          refine wpK_ret ?_
          subst hbz
          have hlt7 := hE7.1
          have hl2 := (hfr (W4.next + 1) (by omega) (by omega)).trans ((hE7.2 (W4.next + 1) (by omega) (fun x => x)).trans hlb)
          refine ⟨_, _, _, _, _, _, _, _, _, hl2, .inr ⟨rfl, hB, h.same, ⟨pr a b, hkey, ?_⟩, by rw [setObj_next]; omega, ⟨r, hr, hs8.only (setObj_only _ _ _) (by omega)⟩, hs9.only (setObj_only _ _ _) (by omega), fun q hq hc hq8 hq9 hql => ?_, ⟨_, _, _, _, _, _, _, by rw [setObj_get, if_pos rfl]; rfl⟩⟩⟩
          · show ¬ mg (fstP (pr a b)) = mg' (sndP (pr a b))
            rw [fstP_pr, sndP_pr]; exact hag
          · rw [setObj_get, if_neg hql, hfr q hq8 hq9, hE7.2 q (by omega) (fun x => x), hObz.2 q (by omega) hql, hE1'.2 q (by omega) (fun x => x)]
            exact (h.fix q hq hc).2
  refine (all84_wp (fun v h => h.k84) hCaller hS5 hC0).mono ?_
  rintro _ W6 ⟨keys, lB, lL, lN, col, ⟨hB, hS6, hC6⟩ | ⟨i, hD⟩⟩
  · -- all agree
    have hfix6 : ∀ b, b < W5.next → col0 b = 0 → W6.blocks.get b = W5.blocks.get b := fun b hb hc => (hC6.fix b hb hc).2
    have hnx6 := hC6.next
    have hl6 := (hfix6 (W4.next + 1) (by omega) (hz _ (by omega))).trans hlp
    refine ⟨_, _, _, _, _, _, _, _, _, hl6, (fun h => by cases h), ?_⟩
    show WpK T0 ⟨23, none⟩ _ _ _ _
    generalize hex : (AObj.loop LoopState.exhausted _ _ _ _ _ _ _ _) = ex
    obtain ⟨W7, hW7, hO7, hn7⟩ : ∃ W7, W7 = W6.setObj (W4.next + 1) ex ∧ Only (fun b => b = W4.next + 1) W6 W7 ∧ W7.next = W6.next := ⟨_, rfl, setObj_only _ _ _, rfl⟩
    rw [← hW7]
    clear hW7 hex
    obtain ⟨c8, hc8⟩ := h8c
    obtain ⟨c9, hc9⟩ := h9c
    have hx8 : W7.blocks.get (W.next + 2) = some ⟨.cells c8 1 9, []⟩ := by
      rw [hO7.2 _ (by omega) (by omega), hfix6 _ (by omega) (hc0 _ (by omega)), hE15.2 _ (by omega) (fun x => x)]; exact hc8
    have hx9 : W7.blocks.get (W.next + 3) = some ⟨.cells c9 1 4, []⟩ := by
      rw [hO7.2 _ (by omega) (by omega), hfix6 _ (by omega) (hc0 _ (by omega)), hE15.2 _ (by omega) (fun x => x)]; exact hc9
    obtain ⟨W8, f1, f2, f3, f4⟩ := storeVar_own (T := T0) (t := 9) (W := W7) (v := .string ⟨⟨[]⟩⟩) (b := W.next + 2) (o := 0) inf9 rfl hx8 (by show 0 + 1 ≤ 1; omega) rfl
    obtain ⟨W9, j1, j2, j3, j4⟩ := storeVar_own (T := T0) (t := 4) (W := W8) (v := .bool false) (b := W.next + 3) (o := 0) inf4 rfl (by rw [f3 _ (by omega)]; exact hx9) (by show 0 + 1 ≤ 1; omega) rfl
    refine wpK_reg (fun R hR => by simp [h8, h9, opStore, f1, j1]; exact hR) ?_
    have hdf9 : W9.blocks.get W4.next = some ⟨.deferred (some []), []⟩ := by
      rw [j3 _ (by omega), f3 _ (by omega), hO7.2 _ (by omega) (by omega), hfix6 _ (by omega) (hz _ (by omega))]; exact hdf
    have hr8 : aLoadVar T0 (W9.setObj W4.next (.deferred none)) 9 (W.next + 2) 0 = some (.string ⟨⟨[]⟩⟩) := by
      rw [loadVar_cell und9 rfl, AW.cell_of_get (show (W9.setObj W4.next (.deferred none)).blocks.get (W.next + 2) = W8.blocks.get (W.next + 2) from by rw [setObj_get, if_neg (by omega), j3 _ (by omega)])]
      simp [AW.cell, f4, blt_dec, Tr.get_lay, acells]
    have hr9 : aLoadVar T0 (W9.setObj W4.next (.deferred none)) 4 (W.next + 3) 0 = some (.bool false) := by
      rw [loadVar_cell und4 rfl, AW.cell_of_get (show (W9.setObj W4.next (.deferred none)).blocks.get (W.next + 3) = W9.blocks.get (W.next + 3) from by rw [setObj_get, if_neg (by omega)])]
      simp [AW.cell, j4, blt_dec, Tr.get_lay, acells]
    refine wpK_ret ⟨.inr rfl, W9.setObj W4.next (.deferred none), ⟨W4.next, rfl, hdf9, rfl⟩, [.string ⟨⟨[]⟩⟩, .bool false], ?_, ⟨by rw [setObj_next]; omega, fun b hb hx => ?_⟩, _, _, rfl, keys.length, keys, lB, lL, lN, hB, hC6.same, .inl ⟨rfl, rfl, rfl⟩⟩
    · show aResults T0 _ _ [.cell 8 9, .cell 9 4] = _
      simp [h8, h9, hr8, hr9]
    · rw [setObj_get, if_neg (by omega), j3 _ (by omega), f3 _ (by omega), hO7.2 _ (by omega) (by omega), hfix6 _ (by omega) (hc0 _ (by omega))]
      exact hE05.2 b hb hx
  · obtain ⟨hB, hsame, hdiff, hnx6, ⟨r, hr, hs8⟩, hs9, hfr, fn', t', n', ps', as', bd', df', hl6⟩ := hD
    refine ⟨_, _, _, _, _, _, _, _, _, hl6, (fun h => by cases h), ?_⟩
    have hdf6 : (W6.setObj (W4.next + 1) (.loop .exhausted (some .ret) fn' t' n' ps' as' bd' df')).blocks.get W4.next = some ⟨.deferred (some []), []⟩ := by
      rw [setObj_get, if_neg (by omega), hfr _ (by omega) (hz _ (by omega)) (by omega) (by omega) (by omega)]; exact hdf
    have hcar : ∀ {b o u}, W6.Has b o u → b ≠ W4.next + 1 → b ≠ W4.next → ((W6.setObj (W4.next + 1) (.loop .exhausted (some .ret) fn' t' n' ps' as' bd' df')).setObj W4.next (.deferred none)).Has b o u := fun {b o u} hh e1 e2 =>
      (hh.only (setObj_only _ _ _) e1).only (setObj_only _ _ _) e2
    have hr8 := load_ext und9 rfl (hcar hs8 (by omega) (by omega)) (.refl _ _)
    have hr9 := load_ext und4 rfl (hcar hs9 (by omega) (by omega)) (.refl _ _)
    refine ⟨.inr rfl, _, ⟨W4.next, rfl, hdf6, rfl⟩, [.string ⟨⟨r⟩⟩, .bool true], ?_, ⟨by rw [setObj_next, setObj_next]; omega, fun b hb hx => ?_⟩, _, _, rfl, i, keys, lB, lL, lN, hB, hsame, .inr ⟨hdiff, rfl, r, hr, rfl⟩⟩
    · show aResults T0 _ _ [.cell 8 9, .cell 9 4] = _
      simp [h8, h9, hr8, hr9]
    · rw [setObj_get, if_neg (by omega), setObj_get, if_neg (by omega), hfr _ (by omega) (hc0 _ (by omega)) (by omega) (by omega) (by omega)]
      exact hE05.2 b hb hx
end Go.Proofs.Ytfpakfidfmjfhaa

open Go Go.Eng
namespace Go.Proofs.Ytfpakfidfmjfhaa
attribute [local congr] undef_congr WpK.congr WpS.congr WpL.congr WpC.congr WpF.congr gotS.congr callS.congr nextS.congr wantS.congr condS.congr
attribute [local irreducible] WpK
attribute [local simp] WpDr_nil WpDr_cons atS_some dwantS_true dwantS_false kindS_light kindS_float kindS_heavy lightS_value floatS_some heavyS_value heavyS_skip heavyS_enter dcallS_some doneS_eq
  isLight isFloat isPlain dLook testBit_dec dChain dLights_nil dLights_skip dLights_one dLight_nil dLight_cons dFreshes_nil dFreshes_one oneF_none oneF_some dFresh_nil dFresh_cons oneL_some oneW_true oneW_false sameV_value dPut dMay valEq arrEq listEq List.getElem?_cons Tr.get_nil dEnd
attribute [local simp] WpS_nil WpS_cons isDefer undef_false wantS_true wantS_false nextS_value nextS_skip nextS_enter callS_some gotS_some aWanted aOp aEvalF aEval opMove opAssign opPick aVal flat flat1 AAct.put opBinOp opConvert opIndex Tr.get_set Tr.get_lay aBin aResults tupled
  aCall aVals aCallB blt_dec ble_dec beq_dec aBinI_add aBinI_sub aBinI_lss aBinI_leq aBinI_gtr aBinI_geq aBinI_eql aBinI_neq index_str len_str len_slice Nat.beq_refl und3 und37 und5 und9
  opBox opLoad opFieldAddr opIndexAddr acells aAddr field25 und22 und23 und43 und4 und28
attribute [local simp] field31 conv_3_5 conv_3_37 conv_37_3 conv_5_3
set_option maxHeartbeats 4000000
attribute [local simp] field57
theorem Bfs.rows {step : Value → Nat → Value} {L : Nat} {start : Value} : ∀ {i : Nat} {keys lB lL lN : List Value}, Bfs step L start i keys lB lL lN → lN.length = 4 * i ∧ ∀ v ∈ lN, ∃ j : Nat, j < keys.length ∧ v = .int .i64 j
  | 0, _, _, _, _, h => by obtain ⟨_, _, _, rfl⟩ := h; exact ⟨rfl, fun v hv => by cases hv⟩
  | i + 1, _, _, _, _, ⟨k0, B0, L0, N0, key, row, h1, h2, h3, h4⟩ => by
    obtain ⟨e, h5⟩ := h1.rows
    subst h4
    refine ⟨by rw [List.length_append, e, h3.len]; omega, fun v hv => ?_⟩
    rcases List.mem_append.1 hv with hv | hv
    · obtain ⟨j, g1, g2⟩ := h5 v hv
      exact ⟨j, Nat.lt_of_lt_of_le g1 h3.grows.1.length_le, g2⟩
    · exact h3.ints (Nat.lt_of_lt_of_le (by simp) h1.pos.length_le) v hv
/-- the machine of the states that are reached -/
def mxOf (lN : List Value) (s x : Nat) : Nat := codeS (lN.getD (s * 4 + x) (.int .i64 0))
def mgOf (gd : Nat → Bool) (keys : List Value) (s : Nat) : Bool := gd (codeS (keys.getD s (.int .i64 0)))
theorem mxOf_lt {step : Value → Nat → Value} {L : Nat} {start : Value} {keys lB lL lN : List Value} (h : Bfs step L start keys.length keys lB lL lN) {s x : Nat} (hs : s < keys.length) (hx : x < 4) : mxOf lN s x < keys.length ∧ lN[s * 4 + x]? = some (.int .i64 (mxOf lN s x : Nat)) := by
  obtain ⟨e, h5⟩ := h.rows
  have hlt : s * 4 + x < lN.length := by omega
  obtain ⟨j, g1, g2⟩ := h5 lN[s * 4 + x] (List.getElem_mem hlt)
  have : mxOf lN s x = j := by
    unfold mxOf
    rw [List.getD_eq_getElem?_getD, List.getElem?_eq_getElem hlt, g2]; rfl
  rw [this]
  exact ⟨g1, by rw [List.getElem?_eq_getElem hlt, g2]⟩
theorem machAt_of {W : AW} {step : Value → Nat → Value} {L bs gs c1 c2 : Nat} {start : Value} {keys lB lL lN : List Value} {gd : Nat → Bool} (h : Bfs step L start keys.length keys lB lL lN) (h1 : ∀ j u, lN[j]? = some u → W.Has bs j u) (h2 : ∀ j k, keys[j]? = some k → W.Has gs j (gdV gd k)) :
    MachAt W L keys.length bs gs c1 c2 (mxOf lN) (mgOf gd keys) := by
  refine ⟨fun s x hs hx => h1 _ _ (mxOf_lt h hs hx).2, fun s hs => ?_⟩
  have := h2 s keys[s] (List.getElem?_eq_getElem hs)
  unfold mgOf
  rw [List.getD_eq_getElem?_getD, List.getElem?_eq_getElem hs]
  exact this

theorem fun13 : T0.funcs.get 13 = some Try.f13 := by kernel_rfl
theorem idx54 (a b : ByteArray) : aIndex T0 54 (.agg ⟨[.string a, .string b]⟩) (.int .i64 0) = some (.string a) ∧ aIndex T0 54 (.agg ⟨[.string a, .string b]⟩) (.int .i64 1) = some (.string b) := ⟨by kernel_rfl, by kernel_rfl⟩
theorem bld54 (a b : ByteArray) : aBuild T0 54 [(0, .string a), (1, .string b)] = some (.agg ⟨[.string a, .string b]⟩) := by kernel_rfl
theorem wordErr_ok {L : Nat} {l : List UInt8} (h : wordErr L l = 0) : ∀ c ∈ l, badB L c = false := by
  intro c hc
  unfold wordErr at h
  split at h
  · cases h
  · rename_i h0
    have := List.any_eq_false.1 (Bool.eq_false_iff.2 h0) c hc
    simpa using this
theorem runN_lt {n L : Nat} {nx : Nat → Nat → Nat} (hnx : ∀ s i, s < n → i < L → nx s i < n) : ∀ (l : List UInt8) (s : Nat), s < n → (∀ c ∈ l, badB L c = false) → runN nx s l < n := by
  intro l
  induction l with
  | nil => intro s hs _; exact hs
  | cons c l ih =>
    intro s hs hb
    have hc := hb c (List.mem_cons_self ..)
    simp only [badB, Bool.or_eq_false_iff, decide_eq_false_iff_not] at hc
    exact ih _ (hnx _ _ hs (by omega)) (fun d hd => hb d (List.mem_cons_of_mem _ hd))
def wordErr2 (L : Nat) (lu lv : List UInt8) : Int := if wordErr L lu = 0 then wordErr L lv else wordErr L lu

/-- what Part answers: the error, or the first word that parts two states of the machine of those that are reached -/
theorem part13_wp (L n bN oN cN bG oG cG : Nat) (nx : Nat → Nat → Nat) (gd : Nat → Bool) (u v : ByteArray) (lu lv : List UInt8) (hlu : u.data.toList = lu) (hlv : v.data.toList = lv) (hlu' : lu.length < 9223372036854775808) (hlv' : lv.length < 9223372036854775808)
    (W : AW) (hN : Rows W bN oN n L nx) (hG : Goods W bG oG n gd) (hL1 : 1 ≤ L) (hL4 : L ≤ 4) (hn : 1 ≤ n) (hn64 : n ≤ 64) (hnx : ∀ s i, s < n → i < L → nx s i < n) :
    WpF T0 13 [autoV L n bN oN cN bG oG cG, .string u, .string v] W (fun r W' => Ext W W' ∧ ∃ w ok, r = .tuple ⟨[.string w, .bool ok, .int .i64 (wordErr2 L lu lv)]⟩ ∧
      (wordErr2 L lu lv ≠ 0 → w = ⟨⟨[]⟩⟩ ∧ ok = false) ∧
      (wordErr2 L lu lv = 0 → ∃ keys lB lL lN, Bfs (stepA L n nx) L (.int .i64 0) keys.length keys lB lL lN ∧
        PartIs (mgOf gd keys) (mgOf gd keys) (stepP keys.length keys.length (mxOf lN) (mxOf lN)) L (pr (runN (mxOf lN) 0 lu : Nat) (runN (mxOf lN) 0 lv : Nat)) w ok)) := by
  refine wpF fun13 rfl ?_
  refine wpK_reg (fun R hR => by simp; exact hR) ?_
  have hE : Ext W (W.newCells 31 [.int .i64 L, .slice (some ⟨bN, oN, none⟩) n cN, .slice (some ⟨bG, oG, none⟩) n cG]) := .newCells _ _ _
  have hb0 : ∀ j u, [Value.int .i64 (L : Nat), .slice (some ⟨bN, oN, none⟩) n cN, .slice (some ⟨bG, oG, none⟩) n cG][j]? = some u → (W.newCells 31 [.int .i64 L, .slice (some ⟨bN, oN, none⟩) n cN, .slice (some ⟨bG, oG, none⟩) n cG]).Has W.next j u := fun j u h => Has.newCells h
  have hat : ∃ k, (W.newCells 31 [.int .i64 L, .slice (some ⟨bN, oN, none⟩) n cN, .slice (some ⟨bG, oG, none⟩) n cG]).blocks.get W.next = some k := ⟨_, by rw [newCells_get, if_pos rfl]⟩
  generalize W.newCells 31 [.int .i64 L, .slice (some ⟨bN, oN, none⟩) n cN, .slice (some ⟨bG, oG, none⟩) n cG] = W₁ at hE hb0 hat
  have hN1 := hN.ext hE
  have hG1 := hG.ext hE
  have hlt : W.next < W₁.next := (hb0 0 _ rfl).1
  have hl0 : ∀ W', Ext W₁ W' → aLoadVar T0 W' 3 W.next 0 = some (.int .i64 L) := fun W' h => load_ext und3 rfl (hb0 0 _ rfl) h
  have hl31 : ∀ W', Ext W₁ W' → aLoadVar T0 W' 31 W.next 0 = some (autoV L n bN oN cN bG oG cG) := fun W' h => by
    refine load31 (cellsAt_of_cells rfl ?_ (fun j hj => ?_) (by omega))
    · obtain ⟨k, hk⟩ := hat
      exact ⟨k, by rw [h.2 _ hlt (fun x => x)]; exact hk⟩
    · rw [Nat.zero_add]
      match j, hj with
      | 0, _ => exact ((hb0 0 _ rfl).ext h).2
      | 1, _ => exact ((hb0 1 _ rfl).ext h).2
      | 2, _ => exact ((hb0 2 _ rfl).ext h).2
  try simp only [wpK_assoc]
  refine wpK_regc (J := fun A' W' => Ext W₁ W' ∧ A'.n = 51 ∧ A'.defers = [] ∧ A'.tmps.get 1 = some (.string u) ∧ A'.tmps.get 2 = some (.string v) ∧ A'.tmps.get 3 = some (.pointer (some ⟨W.next, 0, none⟩)) ∧ A'.tmps.get 9 = some (.int .i64 0)) (fun R hR => ?_) ?_
  · simp [hl31 W₁ (.refl _ _), aEnter, fun15, short_other, aCallV]
    rw [callS_none]
    refine (check_wp L n bN oN cN bG oG cG nx W₁ hN1 hL1 hL4 hn hn64 hnx).mono (fun v W₂ ⟨hE2, hv⟩ => ?_)
    subst hv
    simp
    apply hR
    exact ⟨hE2, rfl, rfl, by simp, by simp, by simp, by simp⟩
  rintro ⟨t, m, ds⟩ W₂ ⟨hE2, hm, hd, h1, h2, h3, h9⟩
  simp only at hm hd h1 h2 h3 h9
  subst hm; subst hd
  try simp only [wpK_assoc]
  refine wpK_reg (fun R hR => by simp [h9]; exact hR) ?_
  refine wpK_onF (by simp) ?_
  try simp only [wpK_assoc]
  refine wpK_reg (fun R hR => by simp [h1, h2, opBuild, aParts, bld54]; exact hR) ?_
  refine wpK_while (I := fun k A W' => Ext W₁ W' ∧ A.n = 51 ∧ A.defers = [] ∧ A.tmps.get 1 = some (.string u) ∧ A.tmps.get 2 = some (.string v) ∧ A.tmps.get 3 = some (.pointer (some ⟨W.next, 0, none⟩)) ∧ A.tmps.get 23 = some (.agg ⟨[.string u, .string v]⟩) ∧
        ((k = 2 ∧ A.tmps.get 24 = some (.int .i64 0)) ∨ (k = 1 ∧ A.tmps.get 24 = some (.int .i64 1) ∧ wordErr L lu = 0) ∨ (k = 0 ∧ A.tmps.get 24 = some (.int .i64 2) ∧ wordErr L lu = 0 ∧ wordErr L lv = 0)))
      (J := fun A W' => Ext W₁ W' ∧ A.n = 51 ∧ A.defers = [] ∧ A.tmps.get 1 = some (.string u) ∧ A.tmps.get 2 = some (.string v) ∧ A.tmps.get 3 = some (.pointer (some ⟨W.next, 0, none⟩)) ∧ wordErr L lu = 0 ∧ wordErr L lv = 0)
      (Rt := fun A W' => Ext W₁ W' ∧ A.defers = [] ∧ wordErr2 L lu lv ≠ 0 ∧ A.tmps.get 6 = some (.string ⟨⟨[]⟩⟩) ∧ A.tmps.get 7 = some (.bool false) ∧ A.tmps.get 8 = some (.int .i64 (wordErr2 L lu lv))) (k := 2) ?_ ?_ ?_ ?_
  · exact ⟨hE2, rfl, rfl, by simp [h1], by simp [h2], by simp [h3], by simp, .inl ⟨rfl, by simp⟩⟩
  · rintro k ⟨t, m, ds⟩ W' ⟨hE', hm, hd, h1, h2, h3, h23, hcase⟩ Q' hJ hRt hI
    simp only at hm hd h1 h2 h3 h23 hcase
    subst hm; subst hd
    try simp only [wpK_assoc]
    rcases hcase with ⟨rfl, h24⟩ | ⟨rfl, h24, hu0⟩ | ⟨rfl, h24, hu0, hv0⟩
    case inr.inr =>
      refine wpK_reg (fun R hR => by simp [h24]; exact hR) ?_
      exact wpK_out (by simp) (hJ _ _ ⟨hE', rfl, rfl, by simp [h1], by simp [h2], by simp [h3], hu0, hv0⟩)
    · refine wpK_reg (fun R hR => by simp [h24]; exact hR) ?_
      refine wpK_onT (by simp) ?_
      refine wpK_block ?_
      try simp only [wpK_assoc]
      refine wpK_reg (fun R hR => by simp [h23, h24, (idx54 u v).1]; exact hR) ?_
      try simp only [wpK_assoc]
      refine wpK_regc (J := fun A W'' => Ext W₁ W'' ∧ A.n = 51 ∧ A.defers = [] ∧ A.tmps.get 1 = some (.string u) ∧ A.tmps.get 2 = some (.string v) ∧ A.tmps.get 3 = some (.pointer (some ⟨W.next, 0, none⟩)) ∧ A.tmps.get 23 = some (.agg ⟨[.string u, .string v]⟩) ∧ A.tmps.get 24 = some (.int .i64 0) ∧ A.tmps.get 12 = some (.int .i64 (wordErr L lu))) (fun R hR => ?_) ?_
      · simp [h3, hl0 W' hE', aEnter, fun16, short_other, aCallV]
        rw [callS_none]
        refine (checkWord_wp L u (by rw [hlu]; exact hlu') W').mono (fun r W'' ⟨g1, g2⟩ => ?_)
        subst g1; subst g2
        simp [hlu]
        apply hR
        exact ⟨hE', rfl, rfl, by simp [h1], by simp [h2], by simp [h3], by simp [h23], by simp [h24], by simp⟩
      rintro ⟨t, m, ds⟩ W'' ⟨hE'', hm, hd, h1, h2, h3, h23, h24, h12⟩
      simp only at hm hd h1 h2 h3 h23 h24 h12
      subst hm; subst hd
      refine wpK_reg (fun R hR => by simp [h12]; exact hR) ?_
      by_cases he : wordErr L lu = 0
      · refine wpK_endF (by simp [he]) (wpK_skip ?_)
        refine wpK_reg1 (fun R hR => by simp [h24]; exact hR) ?_
        exact hI 1 _ _ (by omega) ⟨hE'', rfl, rfl, by simp [h1], by simp [h2], by simp [h3], by simp [h23], .inr (.inl ⟨rfl, by simp; rfl, he⟩)⟩
      · refine wpK_endT (by simp [he]) ?_
        refine wpK_reg (fun R hR => by simp [h12]; exact hR) ?_
        have e2 : wordErr2 L lu lv = wordErr L lu := by unfold wordErr2; rw [if_neg he]
        exact wpK_ret (hRt _ _ ⟨hE'', rfl, by rw [e2]; exact he, by simp, by simp, by rw [e2]; simp⟩)
    · refine wpK_reg (fun R hR => by simp [h24]; exact hR) ?_
      refine wpK_onT (by simp) ?_
      refine wpK_block ?_
      try simp only [wpK_assoc]
      refine wpK_reg (fun R hR => by simp [h23, h24, (idx54 u v).2]; exact hR) ?_
      try simp only [wpK_assoc]
      refine wpK_regc (J := fun A W'' => Ext W₁ W'' ∧ A.n = 51 ∧ A.defers = [] ∧ A.tmps.get 1 = some (.string u) ∧ A.tmps.get 2 = some (.string v) ∧ A.tmps.get 3 = some (.pointer (some ⟨W.next, 0, none⟩)) ∧ A.tmps.get 23 = some (.agg ⟨[.string u, .string v]⟩) ∧ A.tmps.get 24 = some (.int .i64 1) ∧ A.tmps.get 12 = some (.int .i64 (wordErr L lv))) (fun R hR => ?_) ?_
      · simp [h3, hl0 W' hE', aEnter, fun16, short_other, aCallV]
        rw [callS_none]
        refine (checkWord_wp L v (by rw [hlv]; exact hlv') W').mono (fun r W'' ⟨g1, g2⟩ => ?_)
        subst g1; subst g2
        simp [hlv]
        apply hR
        exact ⟨hE', rfl, rfl, by simp [h1], by simp [h2], by simp [h3], by simp [h23], by simp [h24], by simp⟩
      rintro ⟨t, m, ds⟩ W'' ⟨hE'', hm, hd, h1, h2, h3, h23, h24, h12⟩
      simp only at hm hd h1 h2 h3 h23 h24 h12
      subst hm; subst hd
      refine wpK_reg (fun R hR => by simp [h12]; exact hR) ?_
      have e2 : wordErr2 L lu lv = wordErr L lv := by unfold wordErr2; rw [if_pos hu0]
      by_cases he : wordErr L lv = 0
      · refine wpK_endF (by simp [he]) (wpK_skip ?_)
        refine wpK_reg1 (fun R hR => by simp [h24]; exact hR) ?_
        exact hI 0 _ _ (by omega) ⟨hE'', rfl, rfl, by simp [h1], by simp [h2], by simp [h3], by simp [h23], .inr (.inr ⟨rfl, by simp; rfl, hu0, he⟩)⟩
      · refine wpK_endT (by simp [he]) ?_
        refine wpK_reg (fun R hR => by simp [h12]; exact hR) ?_
        exact wpK_ret (hRt _ _ ⟨hE'', rfl, by rw [e2]; exact he, by simp, by simp, by rw [e2]; simp⟩)
  · rintro ⟨t, m, ds⟩ W' ⟨hE', hd, hne, h6, h7, h8⟩
    simp only at hd h6 h7 h8
    subst hd
    exact ⟨.inr rfl, rfl, [.string ⟨⟨[]⟩⟩, .bool false, .int .i64 (wordErr2 L lu lv)], by simp [h6, h7, h8], hE.trans hE', _, _, rfl, fun _ => ⟨rfl, rfl⟩, fun h => absurd h hne⟩
  · rintro ⟨t, m, ds⟩ W' ⟨hE', hm, hd, h1, h2, h3, hu0, hv0⟩
    simp only at hm hd h1 h2 h3
    subst hm; subst hd
    try simp only [wpK_assoc]
    refine wpK_regc (J := fun A W4 => A.n = 51 ∧ A.defers = [] ∧ A.tmps.get 1 = some (.string u) ∧ A.tmps.get 2 = some (.string v) ∧ Ext W₁ W4 ∧ ∃ pm keys lB lL lN bs gs c1 c2, A.tmps.get 13 = some (.pointer (some ⟨pm, 0, none⟩)) ∧ Bfs (stepA L n nx) L (.int .i64 0) keys.length keys lB lL lN ∧
        (∀ W', Ext W4 W' → aLoadVar T0 W' 57 pm 0 = some (machV L keys.length bs gs c1 c2)) ∧ MachAt W4 L keys.length bs gs c1 c2 (mxOf lN) (mgOf gd keys)) (fun R hR => ?_) ?_
    · simp [h3, hl31 W' hE', aEnter, fun22, short_other, aCallV]
      rw [callS_none]
      refine (reached_wp L n bN oN cN bG oG cG nx gd W' (hN1.ext hE') (hG1.ext hE') hL1 hL4 hn hn64 hnx).mono ?_
      rintro r W3 ⟨hE3, keys, lB, lL, lN, bs, gs, c1, c2, hB, rfl, hr1, hr2⟩
      obtain ⟨W4, s1, s2, s3, s4⟩ := storeVar_own (T := T0) (t := 57) (W := W3.newCells 57 [.int .i64 0, .slice none 0 0, .slice none 0 0]) (v := machV L keys.length bs gs c1 c2) (b := W3.next) (o := 0) inf57 rfl (by rw [newCells_get, if_pos rfl]) (by show 0 + 3 ≤ 3; omega) rfl
      simp [opAlloc, zero57, opStore, s1]
      apply hR
      have hE4 : Ext W3 W4 := ⟨by rw [s2, newCells_next]; omega, fun b hb _ => by rw [s3 b (by omega), newCells_get, if_neg (by omega)]⟩
      have hn4 : W3.next < W4.next := by rw [s2, newCells_next]; omega
      refine ⟨rfl, rfl, by simp [h1], by simp [h2], (hE'.trans hE3).trans hE4, W3.next, keys, lB, lL, lN, bs, gs, c1, c2, by simp, hB, fun W' h => ?_, (machAt_of hB hr1 hr2).ext hE4⟩
      refine load57 (cells3 (c := ((Tr.nil.lay 0 [.int .i64 0, .slice none 0 0, .slice none 0 0]).lay 0 (acells (machV L keys.length bs gs c1 c2)))) (el := 57) (by rw [h.2 _ hn4 (fun x => x)]; exact s4) (by rw [Tr.get_lay]; rfl) (by rw [Tr.get_lay]; rfl) (by rw [Tr.get_lay]; rfl))
    rintro ⟨t, m, ds⟩ W4 ⟨hm, hd, h1, h2, hE4, pm, keys, lB, lL, lN, bs, gs, c1, c2, h13, hB, hld, hM⟩
    simp only at hm hd h1 h2 h13
    subst hm; subst hd
    have hkpos : 0 < keys.length := hB.pos.length_le
    have hkn : keys.length ≤ n := distS_len (hB.isK (isK := IsS n) (fun h => stepA_is (by omega) hnx h) ⟨0, by omega, rfl⟩) hB.dist
    have hmx : ∀ s x, s < keys.length → x < 4 → mxOf lN s x < keys.length := fun s x hs hx => (mxOf_lt hB hs hx).1
    have hkk : keys.length * keys.length < 10000 := by
      have : keys.length * keys.length ≤ 64 * 64 := Nat.mul_le_mul (by omega) (by omega)
      omega
    have hru := runN_lt (L := L) (fun s i hs hi => hmx s i hs (by omega)) lu 0 hkpos (wordErr_ok hu0)
    have hrv := runN_lt (L := L) (fun s i hs hi => hmx s i hs (by omega)) lv 0 hkpos (wordErr_ok hv0)
    have hvM : valEq (machV L keys.length bs gs c1 c2) (machV L keys.length bs gs c1 c2) = true := by simp [valEq, arrEq, listEq]
    try simp only [wpK_assoc]
    refine wpK_dr (wr := Tr.nil |>.set 38 0 |>.set 39 1 |>.set 40 2 |>.set 41 3 |>.set 42 4 |>.set 43 5 |>.set 44 6 |>.set 45 7 |>.set 46 8 |>.set 37 9 |>.set 47 10 |>.set 48 11 |>.set 14 12 |>.set 15 13) (bits := Tr.nil.lay 0 [0, 0, 0, 6, 0, 0, 62, 0, 255, 511, 1023, 1023, 2047, 8191]) (ord := [0, 1, 2, 3, 4, 5, 6, 7, 8, 9, 10, 11, 12, 13])
      (J := fun A W' => A.n = 51 ∧ A.defers = [] ∧ Ext W4 W' ∧ ∃ w ok, A.tmps.get 14 = some (.string w) ∧ A.tmps.get 15 = some (.bool ok) ∧ PartIs (mgOf gd keys) (mgOf gd keys) (stepP keys.length keys.length (mxOf lN) (mxOf lN)) L (pr (runN (mxOf lN) 0 lu : Nat) (runN (mxOf lN) 0 lv : Nat)) w ok)
      (by kernel_rfl) (by kernel_rfl) (by kernel_rfl) (fun G hG' => ?_) ?_
    · simp [h1, h2, h13, hld W4 (.refl _ _), hvM, aEnter, fun24, short_other, aCallV]
      rw [dcallS_none]
      refine (run24_wp L keys.length bs gs c1 c2 (mxOf lN) (mgOf gd keys) 0 u lu hlu hlu' W4 hM hL4 hkpos hmx (wordErr_ok hu0)).mono ?_
      rintro r W5 ⟨hE5, rfl⟩
      simp [h1, h2, h13, hld W4 (.refl _ _), hld W5 hE5, hE5.1, hvM, aEnter, fun24, short_other, aCallV]
      rw [dcallS_none]
      refine (run24_wp L keys.length bs gs c1 c2 (mxOf lN) (mgOf gd keys) 0 v lv hlv hlv' W5 (hM.ext hE5) hL4 hkpos hmx (wordErr_ok hv0)).mono ?_
      rintro r W6 ⟨hE6, rfl⟩
      simp [h1, h2, h13, hld W4 (.refl _ _), hld W5 hE5, hld W6 (hE5.trans hE6), hE5.1, hE6.1, hvM, aEnter, fun23, short_other, aCallV]
      rw [dcallS_none]
      refine (part_wp L keys.length bs gs c1 c2 keys.length bs gs c1 c2 L (mxOf lN) (mxOf lN) (mgOf gd keys) (mgOf gd keys) (runN (mxOf lN) 0 lu) (runN (mxOf lN) 0 lv) W6 ((hM.ext hE5).ext hE6) ((hM.ext hE5).ext hE6) hL4 hru hrv hkk hmx hmx).mono ?_
      rintro r W7 ⟨hE7, w, ok, rfl, hP⟩
      simp [h1, h2, h13, hld W4 (.refl _ _), hld W5 hE5, hld W6 (hE5.trans hE6), hld W7 ((hE5.trans hE6).trans hE7), hE5.1, hE6.1, hE7.1, hvM, opExtract, aExtract]
      apply hG'
      exact ⟨rfl, rfl, (hE5.trans hE6).trans hE7, w, ok, by simp, by simp, hP⟩
    · rintro ⟨t, m, ds⟩ W5 ⟨hm, hd, hE5, w, ok, h14, h15, hP⟩
      simp only at hm hd h14 h15
      subst hm; subst hd
      refine wpK_reg (fun R hR => by simp [h14, h15]; exact hR) ?_
      have e0 : wordErr2 L lu lv = 0 := by unfold wordErr2; rw [if_pos hu0]; exact hv0
      exact wpK_ret ⟨.inr rfl, rfl, [.string w, .bool ok, .int .i64 (wordErr2 L lu lv)], by simp [e0], (hE.trans hE4).trans hE5, w, ok, rfl, fun h => absurd e0 h, fun _ => ⟨keys, lB, lL, lN, hB, hP⟩⟩
end Go.Proofs.Ytfpakfidfmjfhaa

open Go Go.Eng
namespace Go.Proofs.Ytfpakfidfmjfhaa
attribute [local congr] undef_congr WpK.congr WpS.congr WpL.congr WpC.congr WpF.congr gotS.congr callS.congr nextS.congr wantS.congr condS.congr
attribute [local irreducible] WpK
attribute [local simp] WpDr_nil WpDr_cons atS_some dwantS_true dwantS_false kindS_light kindS_float kindS_heavy lightS_value floatS_some heavyS_value heavyS_skip heavyS_enter dcallS_some doneS_eq
  isLight isFloat isPlain dLook testBit_dec dChain dLights_nil dLights_skip dLights_one dLight_nil dLight_cons dFreshes_nil dFreshes_one oneF_none oneF_some dFresh_nil dFresh_cons oneL_some oneW_true oneW_false sameV_value dPut dMay valEq arrEq listEq List.getElem?_cons Tr.get_nil dEnd
attribute [local simp] WpS_nil WpS_cons isDefer undef_false wantS_true wantS_false nextS_value nextS_skip nextS_enter callS_some gotS_some aWanted aOp aEvalF aEval opMove opAssign opPick aVal flat flat1 AAct.put opBinOp opConvert opIndex Tr.get_set Tr.get_lay aBin aResults tupled
  aCall aVals aCallB blt_dec ble_dec beq_dec aBinI_add aBinI_sub aBinI_lss aBinI_leq aBinI_gtr aBinI_geq aBinI_eql aBinI_neq index_str len_str len_slice Nat.beq_refl und3 und37 und5 und9
  opBox opLoad opFieldAddr opIndexAddr acells aAddr field25 und22 und23 und43 und4 und28
attribute [local simp] field31 conv_3_5 conv_3_37 conv_37_3 conv_5_3
set_option maxHeartbeats 4000000
theorem fun14 : T0.funcs.get 14 = some Try.f14 := by kernel_rfl
theorem fun4 : T0.funcs.get 4 = some Try.f4 := by kernel_rfl
theorem isGroup_err_wp (L n bN oN cN bG oG cG : Nat) (nx : Nat → Nat → Nat) (gd : Nat → Bool) (w : ByteArray) (l : List UInt8) (hl : w.data.toList = l) (hl' : l.length < 9223372036854775808)
    (W : AW) (hN : Rows W bN oN n L nx) (hL1 : 1 ≤ L) (hL4 : L ≤ 4) (hn : 1 ≤ n) (hn64 : n ≤ 64) (hnx : ∀ s i, s < n → i < L → nx s i < n) (he : wordErr L l ≠ 0) :
    WpF T0 14 [autoV L n bN oN cN bG oG cG, .string w, .int .i64 2] W (fun r W' => Ext W W' ∧ r = .bool false) := by
  refine wpF fun14 rfl ?_
  refine wpK_reg (fun R hR => by simp; exact hR) ?_
  have hE : Ext W (W.newCells 31 [.int .i64 L, .slice (some ⟨bN, oN, none⟩) n cN, .slice (some ⟨bG, oG, none⟩) n cG]) := .newCells _ _ _
  have hb0 : ∀ j u, [Value.int .i64 (L : Nat), .slice (some ⟨bN, oN, none⟩) n cN, .slice (some ⟨bG, oG, none⟩) n cG][j]? = some u → (W.newCells 31 [.int .i64 L, .slice (some ⟨bN, oN, none⟩) n cN, .slice (some ⟨bG, oG, none⟩) n cG]).Has W.next j u := fun j u h => Has.newCells h
  have hat : ∃ k, (W.newCells 31 [.int .i64 L, .slice (some ⟨bN, oN, none⟩) n cN, .slice (some ⟨bG, oG, none⟩) n cG]).blocks.get W.next = some k := ⟨_, by rw [newCells_get, if_pos rfl]⟩
  generalize W.newCells 31 [.int .i64 L, .slice (some ⟨bN, oN, none⟩) n cN, .slice (some ⟨bG, oG, none⟩) n cG] = W₁ at hE hb0 hat
  have hN1 := hN.ext hE
  have hl0 : ∀ W', Ext W₁ W' → aLoadVar T0 W' 3 W.next 0 = some (.int .i64 L) := fun W' h => load_ext und3 rfl (hb0 0 _ rfl) h
  have hl31 : aLoadVar T0 W₁ 31 W.next 0 = some (autoV L n bN oN cN bG oG cG) := by
    refine load31 (cellsAt_of_cells rfl hat (fun j hj => ?_) (by omega))
    rw [Nat.zero_add]
    match j, hj with
    | 0, _ => exact (hb0 0 _ rfl).2
    | 1, _ => exact (hb0 1 _ rfl).2
    | 2, _ => exact (hb0 2 _ rfl).2
  try simp only [wpK_assoc]
  refine wpK_regc (J := fun A' W' => Ext W₁ W' ∧ A'.n = 53 ∧ A'.defers = [] ∧ A'.tmps.get 24 = some (.bool true)) (fun R hR => ?_) ?_
  · simp [hl31, aEnter, fun15, short_other, aCallV]
    rw [callS_none]
    refine (check_wp L n bN oN cN bG oG cG nx W₁ hN1 hL1 hL4 hn hn64 hnx).mono (fun v W₂ ⟨hE2, hv⟩ => ?_)
    subst hv
    simp [hl0 W₂ hE2, aEnter, fun16, short_other, aCallV]
    rw [callS_none]
    refine (checkWord_wp L w (by rw [hl]; exact hl') W₂).mono (fun r W'' ⟨g1, g2⟩ => ?_)
    subst g1; subst g2
    simp [hl, he]
    apply hR
    exact ⟨hE2, rfl, rfl, by simp⟩
  rintro ⟨t, m, ds⟩ W₂ ⟨hE2, hm, hd, h24⟩
  simp only at hm hd h24
  subst hm; subst hd
  refine wpK_condT (by simp [h24]) ?_
  refine wpK_reg (fun R hR => by simp; exact hR) ?_
  exact wpK_ret ⟨.inr rfl, rfl, [.bool false], by simp, hE.trans hE2, rfl⟩
end Go.Proofs.Ytfpakfidfmjfhaa

open Go Go.Eng
namespace Go.Proofs.Ytfpakfidfmjfhaa
attribute [local congr] undef_congr WpK.congr WpS.congr WpL.congr WpC.congr WpF.congr gotS.congr callS.congr nextS.congr wantS.congr condS.congr
attribute [local irreducible] WpK
attribute [local simp] WpDr_nil WpDr_cons atS_some dwantS_true dwantS_false kindS_light kindS_float kindS_heavy lightS_value floatS_some heavyS_value heavyS_skip heavyS_enter dcallS_some doneS_eq
  isLight isFloat isPlain dLook testBit_dec dChain dLights_nil dLights_skip dLights_one dLight_nil dLight_cons dFreshes_nil dFreshes_one oneF_none oneF_some dFresh_nil dFresh_cons oneL_some oneW_true oneW_false sameV_value dPut dMay valEq arrEq listEq List.getElem?_cons Tr.get_nil dEnd
attribute [local simp] WpS_nil WpS_cons isDefer undef_false wantS_true wantS_false nextS_value nextS_skip nextS_enter callS_some gotS_some aWanted aOp aEvalF aEval opMove opAssign opPick aVal flat flat1 AAct.put opBinOp opConvert opIndex Tr.get_set Tr.get_lay aBin aResults tupled
  aCall aVals aCallB blt_dec ble_dec beq_dec aBinI_add aBinI_sub aBinI_lss aBinI_leq aBinI_gtr aBinI_geq aBinI_eql aBinI_neq index_str len_str len_slice Nat.beq_refl und3 und37 und5 und9
  opBox opLoad opFieldAddr opIndexAddr acells aAddr field25 und22 und23 und43 und4 und28
attribute [local simp] field31 conv_3_5 conv_3_37 conv_37_3 conv_5_3
set_option maxHeartbeats 4000000
theorem mk38 (W : AW) (n : Nat) (hn : n ≤ 100000) : aMakeSlice T0 W 38 (.int .i64 n) (.int .i64 n) = some (.slice (some ⟨W.next, 0, none⟩) n (2 * n), W.newCells 5 (rep [.int .u8 0] n)) := by
  show aMakeSlice T0 W 38 (.int .i64 (Int.ofNat n)) (.int .i64 (Int.ofNat n)) = _
  have z5 : Try.t5.zero = some (.int .u8 0) := by kernel_rfl
  have b5 : Try.t5.bytes = 1 := by kernel_rfl
  have s5 : Try.t5.size = 1 := by kernel_rfl
  simp only [aMakeSlice, und38, inf5', z5, b5, s5, ble_dec, acells, List.length_cons, List.length_nil, Nat.beq_refl, Nat.one_mul]
  rw [decide_eq_true (Nat.le_refl n), decide_eq_true (by omega), decide_eq_true (by omega)]
theorem aBinI_mul' (k : IntKind) (a b : Int) : aBinI .mul k a k b = some (.int k (k.wrap (a * b))) := aBinI_mul k a b
/-- the bytes of a word that is made by letters -/
theorem word_of {L : Nat} {lv : List Value} (h : ∀ v ∈ lv, ∃ y : Nat, y < L ∧ v = .int .u8 (97 + (y : Int))) (hL : L ≤ 4) : ∃ r : List UInt8, bytesOf lv = some r ∧ r.length = lv.length ∧ ∀ c ∈ r, badB L c = false := by
  induction lv with
  | nil => exact ⟨[], rfl, rfl, fun c hc => by cases hc⟩
  | cons v lv ih =>
    obtain ⟨y, hy, rfl⟩ := h v (List.mem_cons_self ..)
    obtain ⟨r, h1, h2, h3⟩ := ih (fun v hv => h v (List.mem_cons_of_mem _ hv))
    refine ⟨UInt8.ofNat (97 + (y : Int)).toNat :: r, by simp only [bytesOf, h1], by simp [h2], fun c hc => ?_⟩
    rcases List.mem_cons.1 hc with rfl | hc
    · have e : (UInt8.ofNat (97 + (y : Int)).toNat).toNat = 97 + y := by
        show (97 + (y : Int)).toNat % 256 = 97 + y
        omega
      simp only [badB, e]
      simp; omega
    · exact h3 c hc

theorem wordLimits_wp (L0 n0 : Int) (vN vG : Value) (nN nG : Nat) (len : Nat → Nat) (f : Nat → Nat → Int) (g : Nat → Bool) (W : AW) (hN : RowsIn W vN nN len f) (hG : BoolsIn W vG nG g) :
    WpF T0 4 [.agg ⟨[.int .i64 L0, vN, vG]⟩, .int .i64 n0] W (fun v W' => Ext W W' ∧ v = .bool true) := by
  have hN0 := hN
  have hG0 := hG
  obtain ⟨aN, cN, rfl, _⟩ := hN
  obtain ⟨aG, cG, rfl, _⟩ := hG
  refine wpF fun4 rfl ?_
  refine wpK_reg (fun R hR => by simp; exact hR) ?_
  have hE1 : Ext W (W.newCells 25 [.int .i64 L0, .slice aN nN cN, .slice aG nG cG]) := .newCells _ _ _
  have hb1 : ∀ j u, [Value.int .i64 L0, .slice aN nN cN, .slice aG nG cG][j]? = some u → (W.newCells 25 [.int .i64 L0, .slice aN nN cN, .slice aG nG cG]).Has W.next j u := fun j u h => Has.newCells h
  have hat : ∃ k, (W.newCells 25 [.int .i64 L0, .slice aN nN cN, .slice aG nG cG]).blocks.get W.next = some k := ⟨_, by rw [newCells_get, if_pos rfl]⟩
  have hn1' : (W.newCells 25 [.int .i64 L0, .slice aN nN cN, .slice aG nG cG]).next = W.next + 1 := rfl
  generalize W.newCells 25 [.int .i64 L0, .slice aN nN cN, .slice aG nG cG] = W₁ at hE1 hb1 hat hn1'
  have hl0 : ∀ W', Ext W₁ W' → aLoadVar T0 W' 3 W.next 0 = some (.int .i64 L0) := fun W' h => load_ext und3 rfl (hb1 0 _ rfl) h
  have hl25 : ∀ W', Ext W₁ W' → aLoadVar T0 W' 25 W.next 0 = some (.agg ⟨[.int .i64 L0, .slice aN nN cN, .slice aG nG cG]⟩) := fun W' h => by
    refine load25 (cellsAt_of_cells rfl ?_ (fun j hj => ?_) (by omega))
    · obtain ⟨k, hk⟩ := hat
      exact ⟨k, by rw [h.2 _ (by omega) (fun x => x)]; exact hk⟩
    · rw [Nat.zero_add]
      match j, hj with
      | 0, _ => exact ((hb1 0 _ rfl).ext h).2
      | 1, _ => exact ((hb1 1 _ rfl).ext h).2
      | 2, _ => exact ((hb1 2 _ rfl).ext h).2
  have hE2 : Ext W₁ (W₁.newCells 25 [.int .i64 0, .slice none 0 0, .slice none 0 0]) := .newCells _ _ _
  have hg2 : (W₁.newCells 25 [.int .i64 0, .slice none 0 0, .slice none 0 0]).blocks.get W₁.next = some ⟨.cells (Tr.nil.lay 0 [.int .i64 0, .slice none 0 0, .slice none 0 0]) 3 25, []⟩ := by rw [newCells_get, if_pos rfl]; rfl
  have hn2' : (W₁.newCells 25 [.int .i64 0, .slice none 0 0, .slice none 0 0]).next = W₁.next + 1 := rfl
  have hfr : ∀ W', Ext (W₁.newCells 25 [.int .i64 0, .slice none 0 0, .slice none 0 0]) W' → freshB W' W₁.next 25 [.int .i64 0, .slice none 0 0, .slice none 0 0] = true := fun W' h => by
    have hlt : W₁.next < W'.next := by have := h.1; omega
    simp only [freshB, h.2 W₁.next (by omega) (fun x => x), hg2, blt_dec, hlt, decide_true]
    rfl
  try simp only [wpK_assoc]
  refine wpK_dr (wr := Tr.nil |>.set 15 0 |>.set 16 1 |>.set 17 2 |>.set 18 3 |>.set 19 4 |>.set 5 5) (bits := Tr.nil.lay 0 [0, 0, 2, 6, 15, 0, 63]) (ord := [0, 1, 2, 5, 3, 4, 6])
    (J := fun A' W' => A'.n = 102 ∧ A'.defers = [] ∧ A'.tmps.get 1 = some (.int .i64 n0) ∧ A'.tmps.get 5 = some (.pointer (some ⟨W₁.next, 0, none⟩)) ∧ Ext W W' ∧ W₁.next < W'.next ∧
      ∃ L n bN bG nx gd, 1 ≤ L ∧ L ≤ 4 ∧ 1 ≤ n ∧ n ≤ 6 ∧ (∀ j, j < 3 → W'.Has W₁.next j ([Value.int .i64 (L : Nat), .slice (some ⟨bN, 0, none⟩) n 3, .slice (some ⟨bG, 0, none⟩) n 3].getD j undef)) ∧ (∃ k, W'.blocks.get W₁.next = some k) ∧
        Rows W' bN 0 n L nx ∧ Goods W' bG 0 n gd ∧ ∀ s i, s < n → i < L → nx s i < n)
    (by kernel_rfl) (by kernel_rfl) (by kernel_rfl) (fun G hG' => ?_) ?_
  · simp [hl0 W₁ (.refl _ _), hl25 W₁ (.refl _ _), aFlt, zero25, AFlt.val, aEnter, fun6, fun5, short_other, aCallV]
    rw [dcallS_none]
    generalize W₁.newCells 25 [.int .i64 0, .slice none 0 0, .slice none 0 0] = W₂ at hE2 hg2 hn2' hfr
    have hEW2 : Ext W W₂ := hE1.trans hE2
    refine (letters_wp L0 W₂).mono ?_
    rintro v W' ⟨rfl, L, rfl, hL1, hL4⟩
    simp [hl0 W₁ (.refl _ _), hl25 W₁ (.refl _ _), aEnter, fun5, short_other, aCallV]
    rw [dcallS_none]
    refine (tame_wp 6 (by omega) (by omega) L hL1 hL4 L0 _ _ nN nG len f g W' (hN0.ext hEW2) (hG0.ext hEW2)).mono ?_
    rintro v W₃ ⟨hE3, n, bN, bG, nx, gd, rfl, hn1, hn12, hbN, hbG, hR, hGd, hnx⟩
    have hg3 : W₃.blocks.get W₁.next = some ⟨.cells (Tr.nil.lay 0 [.int .i64 0, .slice none 0 0, .slice none 0 0]) 3 25, []⟩ := by rw [hE3.2 _ (by omega) (fun x => x)]; exact hg2
    obtain ⟨W₄, hs1, hs2, hs3, hs4⟩ := storeVar_own (T := T0) (t := 25) (v := autoV L n bN 0 3 bG 0 3) (o := 0) inf25 (by kernel_rfl) hg3 (by show 0 + 3 ≤ 3; omega) rfl
    have hW3 := hE3.1
    simp [hl0 W₁ (.refl _ _), hl25 W₁ (.refl _ _), hl0 W' hE2, hl25 W' hE2, opStore, hs1, hs2, hW3, valEq_slice, hfr W' (.refl _ _), hfr W₃ hE3]
    apply hG'
    have hO : Only (fun b => b = W₁.next) W₃ W₄ := ⟨by rw [hs2]; exact Nat.le_refl _, fun b _ hb => hs3 b hb⟩
    have hEW3 : Ext W W₃ := hEW2.trans hE3
    have hc4 : ∀ j, j < 3 → W₄.Has W₁.next j ([Value.int .i64 (L : Nat), .slice (some ⟨bN, 0, none⟩) n 3, .slice (some ⟨bG, 0, none⟩) n 3].getD j undef) := fun j hj => ⟨by omega, by
      simp only [AW.cell, hs4, blt_dec, hj, decide_true]
      rw [Tr.get_lay]
      match j, hj with
      | 0, _ => rfl
      | 1, _ => rfl
      | 2, _ => rfl⟩
    refine ⟨rfl, rfl, by simp, by simp, ⟨by have := hEW3.1; omega, fun b hb _ => ?_⟩, by omega, L, n, bN, bG, nx, gd, hL1, hL4, hn1, hn12, hc4, ⟨_, hs4⟩, ?_, ?_, hnx⟩
    · rw [hs3 b (by have := hE1.1; omega)]; exact hEW3.2 b hb (fun x => x)
    · intro s hs
      obtain ⟨r, ro, c, q1, q2, q3⟩ := hR s hs
      exact ⟨r, ro, c, q2.only hO (by omega), fun i hi => (q3 i hi).only hO (by omega)⟩
    · exact fun s hs => (hGd s hs).only hO (by omega)
  rintro ⟨t, m, ds⟩ W' ⟨hm, hd, h1, h5, hE, hlt, L, n, bN, bG, nx, gd, hL1, hL4, hn1, hn6, hc, hat', hR, hGd, hnx⟩
  simp only at hm hd h1 h5
  subst hm; subst hd
  have hl5 : ∀ W2, Ext W' W2 → aLoadVar T0 W2 25 W₁.next 0 = some (autoV L n bN 0 3 bG 0 3) := fun W2 h => by
    refine load25 (cellsAt_of_cells rfl ?_ (fun j hj => ?_) (by omega))
    · obtain ⟨k, hk⟩ := hat'
      exact ⟨k, by rw [h.2 _ hlt (fun x => x)]; exact hk⟩
    · rw [Nat.zero_add, ((hc j hj).ext h).2]
      match j, hj with
      | 0, _ => rfl
      | 1, _ => rfl
      | 2, _ => rfl
  have hlL : ∀ W2, Ext W' W2 → aLoadVar T0 W2 3 W₁.next 0 = some (.int .i64 L) := fun W2 h => load_ext und3 rfl (hc 0 (by omega)) h
  -- how many letters
  have hr := u64_range n0
  obtain ⟨y, hy⟩ : ∃ y : Nat, (IntKind.u64.wrap n0).tmod 3 = y := ⟨((IntKind.u64.wrap n0).tmod 3).toNat, by rw [Int.toNat_of_nonneg (Int.tmod_nonneg _ hr.1)]⟩
  have hy3 : y < 3 := by
    have := Int.tmod_lt_of_pos (IntKind.u64.wrap n0) (show (0 : Int) < 3 by omega)
    omega
  have hrem := aBinI_rem .u64 (IntKind.u64.wrap n0) 3 (by omega)
  have hw : IntKind.i64.wrap (y : Int) = y := i64_nat y (by omega)
  obtain ⟨many, hmany⟩ : ∃ many : Nat, many = 4999 + y := ⟨_, rfl⟩
  have hw2 : IntKind.i64.wrap (4999 + (y : Int)) = (many : Int) := by rw [IntWalk.i64_in _ (by omega)]; omega
  try simp only [wpK_assoc]
  refine wpK_reg (fun R hR => by simp [h1, hrem, hy, hw, hw2]; exact hR) ?_
  try simp only [wpK_assoc]
  refine wpK_reg (fun R hR => by simp [opMakeSlice, aValW, mk38 W' many (by omega)]; exact hR) ?_
  obtain ⟨W2, hW2, hE3, hn2, c0, hblk0⟩ : ∃ W2, W2 = W'.newCells 5 (rep [.int .u8 0] many) ∧ Ext W' W2 ∧ W2.next = W'.next + 1 ∧ ∃ c, W2.blocks.get W'.next = some ⟨.cells c many 5, []⟩ :=
    ⟨_, rfl, .newCells _ _ _, rfl, Tr.nil.lay 0 (rep [.int .u8 0] many), by rw [newCells_get, if_pos rfl, rep_length]; simp⟩
  rw [← hW2]
  clear hW2
  try simp only [wpK_assoc]
  refine wpK_reg (fun R hR => by simp; exact hR) ?_
  refine wpK_while (I := fun k A Wx => A.n = 102 ∧ A.defers = [] ∧ A.tmps.get 1 = some (.int .i64 n0) ∧ A.tmps.get 5 = some (.pointer (some ⟨W₁.next, 0, none⟩)) ∧ A.tmps.get 6 = some (.int .i64 many) ∧ A.tmps.get 7 = some (.slice (some ⟨W'.next, 0, none⟩) many (2 * many)) ∧ Ext W' Wx ∧ W'.next < Wx.next ∧
        ∃ i : Nat, k = many - i ∧ i ≤ many ∧ A.tmps.get 8 = some (.int .i64 i) ∧ ∃ c, Wx.blocks.get W'.next = some ⟨.cells c many 5, []⟩ ∧ ∀ q, q < i → ∃ y : Nat, y < L ∧ c.get q = some (.int .u8 (97 + (y : Int))))
      (J := fun A Wx => A.n = 102 ∧ A.defers = [] ∧ A.tmps.get 5 = some (.pointer (some ⟨W₁.next, 0, none⟩)) ∧ A.tmps.get 6 = some (.int .i64 many) ∧ A.tmps.get 7 = some (.slice (some ⟨W'.next, 0, none⟩) many (2 * many)) ∧ Ext W' Wx ∧
        ∃ c, Wx.blocks.get W'.next = some ⟨.cells c many 5, []⟩ ∧ ∀ q, q < many → ∃ y : Nat, y < L ∧ c.get q = some (.int .u8 (97 + (y : Int))))
      (Rt := fun _ _ => False) (k := many) ?_ ?_ ?_ ?_
  · exact ⟨rfl, rfl, by simp [h1], by simp [h5], by simp, by simp, hE3, by omega, 0, by omega, by omega, by simp, c0, hblk0, fun q hq => by omega⟩
  · rintro k ⟨t, m, ds⟩ Wx ⟨hm, hd, h1, h5, h6, h7, hEx, hnx', i, hk, hi, h8, c, hblk, hcell⟩ Q' hJ hRt hI
    simp only at hm hd h1 h5 h6 h7 h8
    subst hm; subst hd
    try simp only [wpK_assoc]
    by_cases hlt : i < many
    case neg =>
      have : i = many := by omega
      subst this
      refine wpK_reg (fun R hR => by simp [h6, h8]; exact hR) ?_
      exact wpK_out (by simp) (hJ _ _ ⟨rfl, rfl, by simp [h5], by simp [h6], by simp [h7], hEx, c, hblk, hcell⟩)
    refine wpK_reg (fun R hR => by simp [h6, h8, hlt]; exact hR) ?_
    refine wpK_onT (by simp) ?_
    refine wpK_block ?_
    -- the letter
    have hsq : i * i ≤ 5001 * 5001 := Nat.mul_le_mul (by omega) (by omega)
    have hw1 : IntKind.i64.wrap ((i : Int) * i) = ((i * i : Nat) : Int) := by rw [IntWalk.i64_in _ (by rw [← Int.natCast_mul]; omega)]; simp
    have hr7 := aBinI_rem .i64 n0 7 (by omega)
    have h7a : -7 < n0.tmod 7 ∧ n0.tmod 7 < 7 := by
      have := Int.natAbs_tmod n0 7
      have h2 : n0.natAbs % 7 < 7 := Nat.mod_lt _ (by omega)
      have h3 : (Int.natAbs 7) = 7 := rfl
      rw [h3] at this
      omega
    generalize hz7 : n0.tmod 7 = z7 at hr7 h7a
    generalize hq : i * i = sq at hsq hw1
    have hw3 : IntKind.i64.wrap ((sq : Int) + z7) = sq + z7 := IntWalk.i64_in _ (by omega)
    have hw4 : IntKind.i64.wrap ((sq : Int) + z7 + 7) = sq + z7 + 7 := IntWalk.i64_in _ (by omega)
    have hrL := aBinI_rem .i64 ((sq : Int) + z7 + 7) L (by omega)
    obtain ⟨yy, hyy⟩ : ∃ yy : Nat, ((sq : Int) + z7 + 7).tmod L = yy := ⟨(((sq : Int) + z7 + 7).tmod L).toNat, by rw [Int.toNat_of_nonneg (Int.tmod_nonneg _ (by omega))]⟩
    have hyL : yy < L := by
      have := Int.tmod_lt_of_pos ((sq : Int) + z7 + 7) (show (0 : Int) < L by omega)
      omega
    rw [hyy] at hrL
    have hw5 : IntKind.u8.wrap (yy : Int) = yy := IntWalk.u8_in _ (by omega)
    have hw6 : IntKind.u8.wrap (97 + (yy : Int)) = 97 + yy := IntWalk.u8_in _ (by omega)
    have hai := indexAddr_slice (b := W'.next) (o := 0) (c := 2 * many) (k := .i64) (len := many) (i := i) und38 sz5 hlt
    simp only [Nat.zero_add, Nat.mul_one] at hai
    obtain ⟨Wy, s1, s2, s3, s4⟩ := storeVar_own (T := T0) (t := 5) (W := Wx) (v := .int .u8 (97 + (yy : Int))) (b := W'.next) (o := i) inf5' rfl hblk (by show i + 1 ≤ many; omega) rfl
    refine wpK_reg1 (fun R hR => by simp [h1, h5, h7, h8, aBinI_mul, hw1, hr7, hw3, hw4, hlL Wx hEx, hrL, hw5, hw6, hai, opStore, s1]; exact hR) ?_
    refine wpK_reg1 (fun R hR => by simp [h8]; exact hR) ?_
    refine hI (k - 1) _ _ (by omega) ⟨rfl, rfl, by simp [h1], by simp [h5], by simp [h6], by simp [h7], ⟨by have := hEx.1; omega, fun b hb hx => by rw [s3 b (by omega)]; exact hEx.2 b hb hx⟩, by omega, i + 1, by omega, by omega, by simp; exact i64_succ i (by omega), _, s4, fun q hq => ?_⟩
    show ∃ y : Nat, y < L ∧ (Tr.set c i _).get q = _
    rw [Tr.get_set]
    by_cases e : q = i
    · exact ⟨yy, hyL, by rw [if_pos e]⟩
    · obtain ⟨y, hy1, hy2⟩ := hcell q (by omega)
      exact ⟨y, hy1, by rw [if_neg e]; exact hy2⟩
  · rintro A' W'' hf; exact hf.elim
  rintro ⟨t, m, ds⟩ Wx ⟨hm, hd, h5, h6, h7, hEx, c, hblk, hcell⟩
  simp only at hm hd h5 h6 h7
  subst hm; subst hd
  -- the word
  obtain ⟨lv, hlv, hlen, hlet⟩ : ∃ lv : List Value, Wx.cellsAt W'.next 0 many = some lv ∧ lv.length = many ∧ ∀ v ∈ lv, ∃ y : Nat, y < L ∧ v = .int .u8 (97 + (y : Int)) := by
    refine ⟨(List.range many).map (fun q => (c.get q).getD undef), ?_, by simp, fun v hv => ?_⟩
    · simp only [AW.cellsAt, hblk, ble_dec]
      rw [decide_eq_true (by omega)]
      refine take_get c many 0 _ (by simp) (fun j hj => ?_)
      obtain ⟨y, hy1, hy2⟩ := hcell j hj
      rw [Nat.zero_add, List.getElem?_map, List.getElem?_range hj, hy2]
      simp [hy2]
    · obtain ⟨q, hq, rfl⟩ := List.mem_map.1 hv
      obtain ⟨y, hy1, hy2⟩ := hcell q (List.mem_range.1 hq)
      exact ⟨y, hy1, by rw [hy2]; rfl⟩
  obtain ⟨r, hr1, hr2, hr3⟩ := word_of hlet hL4
  have hcv : aConv T0 Wx 38 9 (.slice (some ⟨W'.next, 0, none⟩) many (2 * many)) = some (.string ⟨⟨r⟩⟩) := by
    simp only [aConv, und38, und9, und5, hlv, hr1]
  have hrl : r.length = many := by omega
  have hr9 : r.length < 9223372036854775808 := by omega
  have hany : ¬ (r.any (badB L) = true) := fun h => by
    obtain ⟨c, hc, hb⟩ := List.any_eq_true.1 h
    rw [hr3 c hc] at hb; cases hb
  have hwe : wordErr L r = if 5000 < many then 2 else 0 := by unfold wordErr; rw [if_neg hany, hrl]
  have hwa : wordErr L [97] = 0 := by
    unfold wordErr
    rw [if_neg, if_neg (by simp)]
    simp [badB]; omega
  have hw2' : wordErr2 L [97] r = wordErr L r := by unfold wordErr2; rw [if_pos hwa]
  try simp only [wpK_assoc]
  refine wpK_reg (fun R hR => by simp [h7, hcv]; exact hR) ?_
  try simp only [wpK_assoc]
  refine wpK_regc (J := fun A W3 => Ext W' W3 ∧ A.n = 102 ∧ A.defers = [] ∧ A.tmps.get 5 = some (.pointer (some ⟨W₁.next, 0, none⟩)) ∧ A.tmps.get 6 = some (.int .i64 many) ∧ A.tmps.get 9 = some (.string ⟨⟨r⟩⟩) ∧
      A.tmps.get 10 = some (.bool (if wordErr L r = 0 then gd (runN nx 0 r) else false)) ∧ A.tmps.get 11 = some (.int .i64 (wordErr L r))) (fun R hR' => ?_) ?_
  · simp [h5, hl5 Wx hEx, aEnter, fun8, short_other, aCallV]
    rw [callS_none]
    refine (give_wp L n bN 0 3 bG 0 3 Wx).mono ?_
    rintro v W3 ⟨hE3, rfl⟩
    simp [aEnter, fun7, short_other, aCallV]
    rw [callS_none]
    refine (accepts_wp L n bN 0 3 bG 0 3 nx gd ⟨⟨r⟩⟩ r rfl hr9 W3 ((hR.ext hEx).ext hE3) ((hGd.ext hEx).ext hE3) hL1 hL4 hn1 (by omega) hnx).mono ?_
    rintro v W4 ⟨hE4, rfl⟩
    simp [opExtract, aExtract]
    apply hR'
    exact ⟨(hEx.trans hE3).trans hE4, rfl, rfl, by simp [h5], by simp [h6], by simp, by simp, by simp⟩
  rintro ⟨t, m, ds⟩ W3 ⟨hE3, hm, hd, h5, h6, h9, h10, h11⟩
  simp only at hm hd h5 h6 h9 h10 h11
  subst hm; subst hd
  try simp only [wpK_assoc]
  refine wpK_regc (J := fun A W4 => Ext W' W4 ∧ A.n = 102 ∧ A.defers = [] ∧ A.tmps.get 5 = some (.pointer (some ⟨W₁.next, 0, none⟩)) ∧ A.tmps.get 6 = some (.int .i64 many) ∧ A.tmps.get 9 = some (.string ⟨⟨r⟩⟩) ∧
      A.tmps.get 10 = some (.bool (if wordErr L r = 0 then gd (runN nx 0 r) else false)) ∧ A.tmps.get 11 = some (.int .i64 (wordErr L r)) ∧ A.tmps.get 14 = some (.int .i64 (wordErr L r))) (fun R hR' => ?_) ?_
  · simp [h5, hl5 W3 hE3, aEnter, fun8, short_other, aCallV]
    rw [callS_none]
    refine (give_wp L n bN 0 3 bG 0 3 W3).mono ?_
    rintro v W4 ⟨hE4, rfl⟩
    simp [h9, aEnter, fun13, short_other, aCallV]
    rw [callS_none]
    refine (part13_wp L n bN 0 3 bG 0 3 nx gd ⟨⟨[97]⟩⟩ ⟨⟨r⟩⟩ [97] r rfl rfl (by simp) hr9 W4 ((hR.ext hE3).ext hE4) ((hGd.ext hE3).ext hE4) hL1 hL4 hn1 (by omega) hnx).mono ?_
    rintro v W5 ⟨hE5, pw, ok, rfl, _⟩
    rw [hw2']
    simp [opExtract, aExtract]
    apply hR'
    exact ⟨(hE3.trans hE4).trans hE5, rfl, rfl, by simp [h5], by simp [h6], by simp [h9], by simp [h10], by simp [h11], by simp⟩
  rintro ⟨t, m, ds⟩ W4 ⟨hE4, hm, hd, h5, h6, h9, h10, h11, h14⟩
  simp only at hm hd h5 h6 h9 h10 h11 h14
  subst hm; subst hd
  try simp only [wpK_assoc]
  refine wpK_reg (fun R hR => by simp [h6]; exact hR) ?_
  by_cases hlong : 5000 < many
  · rw [if_pos hlong] at hwe
    rw [hwe] at h10 h11 h14
    refine wpK_condT (by simp; omega) ?_
    refine wpK_regc (J := fun A W5 => Ext W' W5 ∧ A.defers = [] ∧ A.tmps.get 4 = some (.bool true)) (fun R hR' => ?_) ?_
    · simp [h5, h9, h10, h11, h14, hl5 W4 hE4, opUnOp, aUn, aEnter, fun8, short_other, aCallV]
      rw [callS_none]
      refine (give_wp L n bN 0 3 bG 0 3 W4).mono ?_
      rintro v W5 ⟨hE5, rfl⟩
      simp [h9, aEnter, fun14, short_other, aCallV]
      rw [callS_none]
      refine (isGroup_err_wp L n bN 0 3 bG 0 3 nx gd ⟨⟨r⟩⟩ r rfl hr9 W5 ((hR.ext hE4).ext hE5) hL1 hL4 hn1 (by omega) hnx (by rw [hwe]; omega)).mono ?_
      rintro v W6 ⟨hE6, rfl⟩
      simp [opUnOp, aUn, aEnter, fun12, short_awake, aCallV]
      apply hR'
      exact ⟨(hE4.trans hE5).trans hE6, rfl, by simp⟩
    rintro ⟨t, m, ds⟩ W5 ⟨hE5, hd, h4⟩
    simp only at hd h4
    subst hd
    exact wpK_ret ⟨.inr rfl, rfl, [.bool true], by simp [h4], hE.trans hE5, rfl⟩
  · rw [if_neg hlong] at hwe
    rw [hwe] at h10 h11 h14
    rw [if_pos rfl] at h10
    refine wpK_onF (by simp; omega) ?_
    refine wpK_regc (J := fun A W5 => Ext W' W5 ∧ A.defers = [] ∧ A.tmps.get 4 = some (.bool true)) (fun R hR' => ?_) ?_
    · simp [h5, h9, h10, h11, h14, hl5 W4 hE4, aEnter, fun10, short_other, aCallV]
      rw [callS_none]
      refine (refAccepts_wp L n bN 0 3 bG 0 3 nx gd ⟨⟨r⟩⟩ r rfl hr9 W4 (hR.ext hE4) (hGd.ext hE4) (by omega) hnx hr3 (runN_lt hnx r 0 (by omega) hr3)).mono ?_
      rintro v W5 ⟨hE5, rfl⟩
      simp [aGuard, aBinO, aEq, aEnter, fun12, short_awake, aCallV]
      apply hR'
      exact ⟨hE4.trans hE5, rfl, by simp⟩
    rintro ⟨t, m, ds⟩ W5 ⟨hE5, hd, h4⟩
    simp only at hd h4
    subst hd
    exact wpK_ret ⟨.inr rfl, rfl, [.bool true], by simp [h4], hE.trans hE5, rfl⟩
end Go.Proofs.Ytfpakfidfmjfhaa
