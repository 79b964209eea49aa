import Derived.Test.YtnnfobmfffbhaaaP45
set_option linter.unusedSimpArgs false
set_option linter.unusedVariables false
set_option linter.unusedSectionVars false
open Go Go.Eng
namespace Go.Proofs.Ytnnfobmfffbhaaa
attribute [local congr] undef_congr WpK.congr WpS.congr WpL.congr WpC.congr WpF.congr gotS.congr callS.congr nextS.congr wantS.congr condS.congr
attribute [local irreducible] WpK
attribute [local simp] WpDr_nil WpDr_cons atS_some dwantS_true dwantS_false kindS_light kindS_float kindS_heavy lightS_value floatS_some heavyS_value heavyS_skip heavyS_enter dcallS_some doneS_eq
  isLight isFloat isPlain dLook testBit_dec dChain dLights_nil dLights_skip dLights_one dLight_nil dLight_cons dFreshes_nil dFreshes_one oneF_none oneF_some dFresh_nil dFresh_cons oneL_some oneW_true oneW_false sameV_value dPut dMay valEq arrEq listEq List.getElem?_cons Tr.get_nil dEnd
attribute [local simp] WpS_nil WpS_cons isDefer undef_false wantS_true wantS_false nextS_value nextS_skip nextS_enter callS_some gotS_some aWanted aOp aEvalF aEval opMove opAssign opPick aVal flat flat1 AAct.put opBinOp opConvert opIndex Tr.get_set Tr.get_lay aBin aResults tupled
  aCall aVals aCallB blt_dec ble_dec beq_dec aBinI_add aBinI_sub aBinI_lss aBinI_leq aBinI_gtr aBinI_geq aBinI_eql aBinI_neq index_str len_str len_slice Nat.beq_refl und3 und37 und5 und9
  opBox opLoad opFieldAddr opIndexAddr acells aAddr field25 und22 und23 und43 und4 und28
attribute [local simp] field31 conv_3_5 conv_3_37 conv_37_3 conv_5_3
set_option maxHeartbeats 4000000
attribute [local simp] field57
theorem fun24 : T0.funcs.get 45 = some Try.f45 := by kernel_rfl
theorem fun35 : T0.funcs.get 60 = some Try.f60 := by kernel_rfl
theorem zero84 : aZero T0 119 = some (.agg ⟨[.int .i64 0, .int .i64 0]⟩) := by kernel_rfl
theorem sz85 : aSize T0 77 = some 4 := by kernel_rfl
/-- a machine as a value -/
structure MachAt (W : AW) (L N bs gs c1 c2 : Nat) (mx : Nat → Nat → Nat) (mg : Nat → Bool) : Prop where
  row : ∀ s x, s < N → x < 4 → W.Has bs (s * 4 + x) (.int .i64 (mx s x : Nat))
  good : ∀ s, s < N → W.Has gs s (.bool (mg s))
abbrev machV (L N bs gs c1 c2 : Nat) : Value := .agg ⟨[.int .i64 L, .slice (some ⟨bs, 0, none⟩) N c1, .slice (some ⟨gs, 0, none⟩) N c2]⟩
theorem MachAt.ext {W W' : AW} {L N bs gs c1 c2 : Nat} {mx : Nat → Nat → Nat} {mg : Nat → Bool} (h : MachAt W L N bs gs c1 c2 mx mg) (he : Ext W W') : MachAt W' L N bs gs c1 c2 mx mg :=
  ⟨fun s x hs hx => (h.row s x hs hx).ext he, fun s hs => (h.good s hs).ext he⟩
theorem indexAddr_85' (r o x : Nat) (k : IntKind) (hx : x < 4) : aIndexAddr T0 77 (.pointer (some ⟨r, o, none⟩)) (.int k (x : Nat)) = some (.pointer (some ⟨r, o + x, none⟩)) := by
  show aIndexAddr T0 77 (.pointer (some ⟨r, o, none⟩)) (.int k (Int.ofNat x)) = _
  simp only [aIndexAddr, und85, sz3, blt_dec, hx, decide_true, Nat.mul_one]
theorem indexAddr_84 (r o x : Nat) (k : IntKind) (hx : x < 2) : aIndexAddr T0 119 (.pointer (some ⟨r, o, none⟩)) (.int k (x : Nat)) = some (.pointer (some ⟨r, o + x, none⟩)) := by
  show aIndexAddr T0 119 (.pointer (some ⟨r, o, none⟩)) (.int k (Int.ofNat x)) = _
  simp only [aIndexAddr, und84, sz3, blt_dec, hx, decide_true, Nat.mul_one]

theorem run24_wp (L N bs gs c1 c2 : Nat) (mx : Nat → Nat → Nat) (mg : Nat → Bool) (s0 : Nat) (w : ByteArray) (l : List UInt8) (hl : w.data.toList = l) (hlen : l.length < 9223372036854775808) (W : AW) (hM : MachAt W L N bs gs c1 c2 mx mg) (hL : L ≤ 4) (hs0 : s0 < N)
    (hnx : ∀ s i, s < N → i < 4 → mx s i < N) (hw : ∀ c ∈ l, badB L c = false) :
    WpF T0 45 [machV L N bs gs c1 c2, .int .i64 s0, .string w] W (fun v W' => Ext W W' ∧ v = .int .i64 (runN mx s0 l : Nat)) := by
  refine wpF fun24 rfl ?_
  refine wpK_reg (fun R hR => by simp; exact hR) ?_
  try simp only [wpK_assoc]
  refine wpK_reg (fun R hR => by simp [hl]; exact hR) ?_
  have hE : Ext W (W.newCells 69 [.int .i64 L, .slice (some ⟨bs, 0, none⟩) N c1, .slice (some ⟨gs, 0, none⟩) N c2]) := .newCells _ _ _
  have hM1 := hM.ext hE
  have hb0 : (W.newCells 69 [.int .i64 L, .slice (some ⟨bs, 0, none⟩) N c1, .slice (some ⟨gs, 0, none⟩) N c2]).cell W.next 1 = some (.slice (some ⟨bs, 0, none⟩) N c1) := by rw [newCells_cell, if_pos rfl]; rfl
  generalize W.newCells 69 [.int .i64 L, .slice (some ⟨bs, 0, none⟩) N c1, .slice (some ⟨gs, 0, none⟩) N c2] = W₁ at hE hM1 hb0
  refine wpK_while (I := fun k A W' => W' = W₁ ∧ A.n = 25 ∧ A.defers = [] ∧ A.tmps.get 3 = some (.pointer (some ⟨W.next, 0, none⟩)) ∧ A.tmps.get 2 = some (.string w) ∧ A.tmps.get 9 = some (.int .i64 (l.length : Nat)) ∧
    ∃ i : Nat, k = l.length - i ∧ i ≤ l.length ∧ A.tmps.get 10 = some (.int .i64 i) ∧ A.tmps.get 1 = some (.int .i64 (runN mx s0 (l.take i) : Nat)) ∧ runN mx s0 (l.take i) < N)
    (J := fun A W' => W' = W₁ ∧ A.n = 25 ∧ A.defers = [] ∧ A.tmps.get 1 = some (.int .i64 (runN mx s0 l : Nat)))
    (Rt := fun _ _ => False) (k := l.length) ?_ ?_ ?_ ?_
  · exact ⟨rfl, rfl, rfl, by simp, by simp, by simp, 0, by simp, by simp, by simp, by simp [runN], by simpa [runN] using hs0⟩
  · rintro k ⟨t, m, ds⟩ W' ⟨rfl, hn, hd, h3, h2, h9, i, hk, hi, h10, h1, hrun⟩ Q' hJ hRt hI
    simp only at hn hd h3 h2 h9 h10 h1
    subst hn; subst hd
    try simp only [wpK_assoc]
    refine wpK_reg (fun R hR => by simp [h9, h10]; exact hR) ?_
    by_cases hlt : i < l.length
    · refine wpK_onT (by simp [hlt]) ?_
      have hc : l[i]? = some l[i] := List.getElem?_eq_getElem hlt
      have hm : l[i] ∈ l := List.getElem_mem hlt
      have htake : l.take (i + 1) = l.take i ++ [l[i]] := by rw [List.take_add_one, hc]; rfl
      generalize l[i] = c at hc hm htake
      have hcl := c.toNat_lt
      have hbad := hw c hm
      simp only [badB, Bool.or_eq_false_iff, decide_eq_false_iff_not] at hbad
      have hr3 := hM1.row _ (c.toNat - 97) hrun (by omega)
      refine wpK_block ?_
      refine wpK_reg (fun R hR => by simp [h10]; exact hR) ?_
      have hl1 : aLoadVar T0 W' 67 W.next 1 = some (.slice (some ⟨bs, 0, none⟩) N c1) := by rw [loadVar_cell und55 rfl]; exact hb0
      have hl3 : aLoadVar T0 W' 3 bs (runN mx s0 (l.take i) * 4 + (c.toNat - 97)) = some (.int .i64 (mx (runN mx s0 (l.take i)) (c.toNat - 97) : Nat)) := by rw [loadVar_cell und3 rfl]; exact hr3.2
      have hwr : IntKind.u8.wrap ((c.toNat : Int) - 97) = ((c.toNat - 97 : Nat) : Int) := by
        rw [IntWalk.u8_in _ (by omega)]; omega
      have ha1 := indexAddr_slice (b := bs) (o := 0) (c := c1) (k := .i64) und55 sz85 hrun
      have ha2 := indexAddr_85' bs (runN mx s0 (l.take i) * 4) (c.toNat - 97) .u8 (by omega)
      refine wpK_dr1 (wr := Tr.nil |>.set 13 0 |>.set 14 1 |>.set 15 2 |>.set 16 3 |>.set 17 4 |>.set 18 5 |>.set 19 6 |>.set 20 7 |>.set 21 8 |>.set 22 9 |>.set 1 10) (bits := Tr.nil.lay 0 [0, 1, 0, 0, 0, 24, 56, 7, 255, 511, 1023]) (ord := [0, 1, 2, 3, 4, 5, 6, 7, 8, 9, 10])
        (J := fun A' W'' => W'' = W' ∧ A'.n = 25 ∧ A'.defers = [] ∧ A'.tmps.get 3 = some (.pointer (some ⟨W.next, 0, none⟩)) ∧ A'.tmps.get 2 = some (.string w) ∧ A'.tmps.get 9 = some (.int .i64 (l.length : Nat)) ∧ A'.tmps.get 10 = some (.int .i64 i) ∧
          A'.tmps.get 1 = some (.int .i64 (mx (runN mx s0 (l.take i)) (c.toNat - 97) : Nat)))
        (by kernel_rfl) (by kernel_rfl) (by kernel_rfl) (fun G hG => ?_) ?_
      · simp only [Nat.zero_add] at ha1
        simp [h1, h2, h3, hl, hc, hl1, hl3, hwr, ha1, ha2]
        apply hG
        refine ⟨rfl, rfl, rfl, ?_⟩
        simp [h2, h3, h9, h10]
      · rintro ⟨t', m', ds'⟩ W'' ⟨rfl, hn', hd', h3', h2', h9', h10', h1'⟩
        simp only at hn' hd' h3' h2' h9' h10' h1'
        subst hn'; subst hd'
        refine wpK_reg1 (fun R hR => by simp [h10']; exact hR) ?_
        have hstep : runN mx s0 (l.take (i + 1)) = mx (runN mx s0 (l.take i)) (c.toNat - 97) := by rw [htake]; simp [runN]
        refine hI (k - 1) _ _ (by omega) ⟨rfl, rfl, rfl, by simp [h3'], by simp [h2'], by simp [h9'], i + 1, by omega, by omega, by simp; exact i64_succ i (by omega), by simp [h1', hstep], ?_⟩
        rw [hstep]; exact hnx _ _ hrun (by omega)
    · refine wpK_out (by simp [hlt]) (hJ _ _ ⟨rfl, rfl, rfl, ?_⟩)
      have : l.take i = l := List.take_of_length_le (by omega)
      rw [this] at h1
      simp [h1]
  · rintro A' W' h; exact h.elim
  · rintro ⟨t, m, ds⟩ W' ⟨rfl, hn, hd, h1⟩
    simp only at hn hd h1
    subst hn; subst hd
    refine wpK_reg (fun R hR => by simp [h1]; exact hR) ?_
    exact wpK_ret ⟨.inr rfl, rfl, [.int .i64 (runN mx s0 l : Nat)], by simp, hE, rfl⟩

theorem inf85' : T0.info.get 119 = some Try.t119 := inf84
/-- a step of two machines -/
theorem step35_wp {L L2 N bs gs c1 c2 N' bs' gs' c1' c2' b4 b7 : Nat} {mx mx' : Nat → Nat → Nat} {mg mg' : Nat → Bool} {W : AW} (hM : MachAt W L N bs gs c1 c2 mx mg) (hM' : MachAt W L2 N' bs' gs' c1' c2' mx' mg')
    (h4 : W.Has b4 1 (.slice (some ⟨bs, 0, none⟩) N c1)) (h7 : W.Has b7 1 (.slice (some ⟨bs', 0, none⟩) N' c1')) {s s' x : Nat} (hs : s < N) (hs' : s' < N') (hx : x < 4) :
    WpF T0 60 [pr s s', .int .i64 (x : Nat), .pointer (some ⟨b4, 0, none⟩), .pointer (some ⟨b7, 0, none⟩)] W (fun v W' => Ext W W' ∧ v = pr (mx s x : Nat) (mx' s' x : Nat)) := by
  refine wpF fun35 rfl ?_
  refine wpK_reg (fun R hR => by simp [pr, opAlloc, zero84]; exact hR) ?_
  obtain ⟨W1, hW1, hE1, hn1, hk0, hk1, hr6⟩ : ∃ W1, W1 = (W.newCells 119 [.int .i64 (s : Nat), .int .i64 (s' : Nat)]).newCells 119 [.int .i64 0, .int .i64 0] ∧ Ext W W1 ∧ W1.next = W.next + 2 ∧
      W1.Has W.next 0 (.int .i64 (s : Nat)) ∧ W1.Has W.next 1 (.int .i64 (s' : Nat)) ∧ W1.blocks.get (W.next + 1) = some ⟨.cells (Tr.nil.lay 0 [.int .i64 0, .int .i64 0]) 2 119, []⟩ := by
    refine ⟨_, rfl, (Only.newCells _ _ _).trans (Only.newCells _ _ _), rfl, (Has.newCells rfl).ext (.newCells _ _ _), (Has.newCells rfl).ext (.newCells _ _ _), by rw [newCells_get, if_pos (by rw [newCells_next])]; rfl⟩
  rw [← hW1]
  clear hW1
  have hA : aIndexAddr T0 119 (.pointer (some ⟨W.next, 0, none⟩)) (.int .i64 0) = some (.pointer (some ⟨W.next, 0, none⟩)) := indexAddr_84 W.next 0 0 .i64 (by omega)
  have hB : aIndexAddr T0 119 (.pointer (some ⟨W.next, 0, none⟩)) (.int .i64 1) = some (.pointer (some ⟨W.next, 1, none⟩)) := indexAddr_84 W.next 0 1 .i64 (by omega)
  have hl0 := load_ext und3 rfl hk0 (.refl _ _)
  have hl1 := load_ext und3 rfl hk1 (.refl _ _)
  have hn4 := load_ext und55 rfl h4 hE1
  have hn7 := load_ext und55 rfl h7 hE1
  have ha1 := indexAddr_slice (b := bs) (o := 0) (c := c1) (k := .i64) und55 sz85 hs
  have ha1' := indexAddr_slice (b := bs') (o := 0) (c := c1') (k := .i64) und55 sz85 hs'
  have ha2 := indexAddr_85' bs (s * 4) x .i64 hx
  have ha2' := indexAddr_85' bs' (s' * 4) x .i64 hx
  have hv := load_ext und3 rfl (hM.row s x hs hx) hE1
  have hv' := load_ext und3 rfl (hM'.row s' x hs' hx) hE1
  simp only [Nat.zero_add] at ha1 ha1'
  have hbd : ∀ a b : Int, aBuild T0 119 [(0, .int .i64 a), (1, .int .i64 b)] = some (.agg ⟨[.int .i64 a, .int .i64 b]⟩) := fun a b => by kernel_rfl
  obtain ⟨W2, r1, r2, r3, r4⟩ := storeVar_own (T := T0) (t := 119) (W := W1) (v := .agg ⟨[.int .i64 (mx s x : Nat), .int .i64 (mx' s' x : Nat)]⟩) (b := W.next + 1) (o := 0) inf84 rfl hr6 (by show 0 + 2 ≤ 2; omega) rfl
  refine wpK_dr (wr := Tr.nil |>.set 7 0 |>.set 8 1 |>.set 9 2 |>.set 10 3 |>.set 11 4 |>.set 12 5 |>.set 13 6 |>.set 14 7 |>.set 15 8 |>.set 16 9 |>.set 17 10 |>.set 18 11 |>.set 19 12 |>.set 20 13 |>.set 21 14 |>.set 22 15 |>.set 23 16) (bits := Tr.nil.lay 0 [0, 1, 0, 4, 0, 15, 63, 127, 0, 256, 0, 1024, 0, 3840, 16128, 32512, 65535, 131071]) (ord := [0, 1, 2, 3, 4, 5, 6, 7, 8, 9, 10, 11, 12, 13, 14, 15, 16, 17])
    (J := fun A W => A.defers = [] ∧ A.tmps.get 6 = some (.pointer (some ⟨W1.next - 1, 0, none⟩)) ∧ W = W2) (by kernel_rfl) (by kernel_rfl) (by kernel_rfl) (fun G hG => ?_) ?_
  · simp [hA, hB, hl0, hl1, hn4, hn7, ha1, ha1', ha2, ha2', hv, hv', opBuild, aParts, hbd, opStore, newCells_next, r1, r2]
    apply hG
    exact ⟨rfl, by simp, rfl⟩
  rintro ⟨t, n, ds⟩ W' ⟨hd, h6, rfl⟩
  simp only at hd h6
  subst hd
  have hp6 : W1.next - 1 = W.next + 1 := by omega
  rw [hp6] at h6
  have hc0 : W'.Has (W.next + 1) 0 (.int .i64 (mx s x : Nat)) := ⟨by omega, by simp only [AW.cell, r4, blt_dec]; rfl⟩
  have hc1 : W'.Has (W.next + 1) 1 (.int .i64 (mx' s' x : Nat)) := ⟨by omega, by simp only [AW.cell, r4, blt_dec]; rfl⟩
  refine wpK_ret ⟨.inr rfl, rfl, [pr (mx s x : Nat) (mx' s' x : Nat)], ?_, ⟨by omega, fun b hb hx => by rw [r3 b (by omega)]; exact hE1.2 b hb hx⟩, rfl⟩
  show aResults T0 _ _ [.cell 6 119] = _
  simp [h6, load84 hc0 hc1]
  rfl
end Go.Proofs.Ytnnfobmfffbhaaa

open Go Go.Eng
namespace Go.Proofs.Ytnnfobmfffbhaaa
attribute [local congr] undef_congr WpK.congr WpS.congr WpL.congr WpC.congr WpF.congr gotS.congr callS.congr nextS.congr wantS.congr condS.congr
attribute [local irreducible] WpK
attribute [local simp] WpDr_nil WpDr_cons atS_some dwantS_true dwantS_false kindS_light kindS_float kindS_heavy lightS_value floatS_some heavyS_value heavyS_skip heavyS_enter dcallS_some doneS_eq
  isLight isFloat isPlain dLook testBit_dec dChain dLights_nil dLights_skip dLights_one dLight_nil dLight_cons dFreshes_nil dFreshes_one oneF_none oneF_some dFresh_nil dFresh_cons oneL_some oneW_true oneW_false sameV_value dPut dMay valEq arrEq listEq List.getElem?_cons Tr.get_nil dEnd
attribute [local simp] WpS_nil WpS_cons isDefer undef_false wantS_true wantS_false nextS_value nextS_skip nextS_enter callS_some gotS_some aWanted aOp aEvalF aEval opMove opAssign opPick aVal flat flat1 AAct.put opBinOp opConvert opIndex Tr.get_set Tr.get_lay aBin aResults tupled
  aCall aVals aCallB blt_dec ble_dec beq_dec aBinI_add aBinI_sub aBinI_lss aBinI_leq aBinI_gtr aBinI_geq aBinI_eql aBinI_neq index_str len_str len_slice Nat.beq_refl und3 und37 und5 und9
  opBox opLoad opFieldAddr opIndexAddr acells aAddr field25 und22 und23 und43 und4 und28
attribute [local simp] field31 conv_3_5 conv_3_37 conv_37_3 conv_5_3
set_option maxHeartbeats 4000000
theorem fun51 : T0.funcs.get 52 = some Try.f52 := by kernel_rfl
theorem sz5 : aSize T0 5 = some 1 := by kernel_rfl
theorem fun37 : T0.funcs.get 62 = some Try.f62 := by kernel_rfl

/-- a cell of a row that grew is written: what may share the row is no longer known -/
theorem store_grown {T : Tabs} {W : AW} {t : TypeId} {i : TypeInfo} {v : Value} {b o n : Nat} {el : TypeId} {c : Tr Value} {kin : List (Nat × Bool)} {K : Nat → Prop} (hi : T.info.get t = some i) (hs : i.size = 1) (hac : acells v = [v]) (hone : v.oneCell' = true)
    (hb : W.blocks.get b = some ⟨.cells c n el, kin⟩) (hk : ∀ p ∈ kin, K p.1) (hn : o < n) :
    ∃ W', aStoreVar T W t b o v = some W' ∧ W'.next = W.next ∧ Only (fun x => x = b ∨ K x) W W' ∧ W'.blocks.get b = some ⟨.cells (c.set o v) n el, []⟩ := by
  have hlt : Nat.blt o n = true := by rw [blt_dec]; exact decide_eq_true hn
  refine ⟨⟨(AW.kill W.blocks kin).set b ⟨.cells (c.set o v) n el, []⟩, W.next⟩, ?_, rfl, ⟨Nat.le_refl _, fun x _ hx => ?_⟩, by simp [Tr.get_set]⟩
  · have hst : W.store b o v = some ⟨(AW.kill W.blocks kin).set b ⟨.cells (c.set o v) n el, []⟩, W.next⟩ := by simp only [AW.store, hb, hlt]
    simp only [aStoreVar, hi, hs, hac, List.length_cons, List.length_nil, Nat.beq_refl, AW.storeList, hone, hst]
  · simp only [Tr.get_set]
    rw [if_neg (fun e => hx (.inl e))]
    have : ∀ (kin : List (Nat × Bool)), (∀ p ∈ kin, K p.1) → (AW.kill W.blocks kin).get x = W.blocks.get x := by
      intro kin
      induction kin with
      | nil => intro _; rfl
      | cons p l ih =>
        intro hk
        obtain ⟨q, f⟩ := p
        simp only [AW.kill, Tr.get_del]
        rw [if_neg (fun e => hx (.inr (by rw [e]; exact hk (q, f) (List.mem_cons_self ..)))), ih (fun p hp => hk p (List.mem_cons_of_mem _ hp))]
    exact this kin hk

/-- the cells of a row that is turned round, i of each end done -/
def turned (l : List Value) (i k : Nat) : Option Value := if k < i ∨ l.length - i ≤ k then l[l.length - 1 - k]? else l[k]?

theorem reverse_wp {W : AW} {v : Value} {l : List Value} {K : Nat → Prop} (h : GrowsN W v l.length l 5 1 K) (hu : ∀ x ∈ l, ∃ k, x = .int .u8 k) (hlen : l.length < 1000000) :
    WpF T0 52 [v] W (fun _ W' => Only K W W' ∧ GrowsN W' v l.length l.reverse 5 1 K) := by
  refine wpF fun51 rfl ?_
  obtain ⟨h0, ⟨hz, rfl⟩ | ⟨b, c, kin, rfl, hpos, hKb, hbn, hblk, hcell, hkin⟩⟩ := h
  · have hl : l = [] := List.length_eq_zero_iff.1 hz
    subst hl
    refine wpK_reg (fun R hR => by simp [len_slice und38]; exact hR) ?_
    refine wpK_while1 (I := fun k A W' => W' = W ∧ A.n = 28 ∧ A.defers = [] ∧ A.tmps.get 2 = some (.int .i64 0) ∧ A.tmps.get 3 = some (.int .i64 (-1)))
      (J := fun A W' => W' = W ∧ A.defers = []) (Rt := fun _ _ => False) (k := 0) ?_ ?_ ?_ ?_
    · exact ⟨rfl, rfl, rfl, by simp, by simp; rfl⟩
    · rintro k ⟨t, n, ds⟩ W' ⟨rfl, hn, hd, h2, h3⟩ Q' hJ hRt hI
      simp only at hn hd h2 h3
      subst hn; subst hd
      try simp only [wpK_assoc]
      refine wpK_reg (fun R hR => by simp [h2, h3]; exact hR) ?_
      exact wpK_out (by simp) (hJ _ _ ⟨rfl, rfl⟩)
    · rintro A' W' hf; exact hf.elim
    · rintro ⟨t, n, ds⟩ W' ⟨rfl, hd⟩
      simp only at hd
      subst hd
      exact ⟨.inl rfl, rfl, [], rfl, .refl _ _, .nil _ _ _ _⟩
  · have hw1 : IntKind.i64.wrap ((l.length : Int) - 1) = ((l.length - 1 : Nat) : Int) := by rw [IntWalk.i64_in _ (by omega)]; omega
    refine wpK_reg (fun R hR => by simp [len_slice und38, hw1]; exact hR) ?_
    refine wpK_while1 (I := fun k A W' => A.n = 28 ∧ A.defers = [] ∧ A.tmps.get 0 = some (.slice (some ⟨b, 0, none⟩) l.length 3) ∧ Only K W W' ∧ ∃ i : Nat, k = l.length - i ∧ 2 * i ≤ l.length ∧ A.tmps.get 2 = some (.int .i64 i) ∧ A.tmps.get 3 = some (.int .i64 ((l.length - 1 - i : Nat) : Int)) ∧ (l.length - 1 - i + i + 1 = l.length) ∧
        ∃ c kin, W'.blocks.get b = some ⟨.cells c l.length 5, kin⟩ ∧ (∀ p ∈ kin, K p.1) ∧ ∀ k, k < l.length → c.get k = turned l i k)
      (J := fun A W' => A.defers = [] ∧ Only K W W' ∧ ∃ c kin, W'.blocks.get b = some ⟨.cells c l.length 5, kin⟩ ∧ (∀ p ∈ kin, K p.1) ∧ ∀ k, k < l.length → c.get k = l.reverse[k]?) (Rt := fun _ _ => False) (k := l.length) ?_ ?_ ?_ ?_
    · refine ⟨rfl, rfl, by simp, .refl _ _, 0, by omega, by omega, by simp, by simp, by omega, c, kin, by rw [h0, Nat.mul_one] at hblk; exact hblk, hkin, fun k hk => ?_⟩
      rw [hcell k (by omega)]
      unfold turned
      rw [if_neg (by omega)]
    · rintro k ⟨t, n, ds⟩ W' ⟨hn, hd, ht0, hO, i, hk, hi2, h2, h3, hsum, c, kin, hblk, hkin, hcell⟩ Q' hJ hRt hI
      simp only at hn hd ht0 h2 h3
      subst hn; subst hd
      try simp only [wpK_assoc]
      have hbn' : b < W'.next := Nat.lt_of_lt_of_le hbn hO.1
      by_cases hlt : i < l.length - 1 - i
      case neg =>
        have hlt' : ¬ ((i : Int) < ((l.length - 1 - i : Nat) : Int)) := by omega
        refine wpK_reg (fun R hR => by simp [h2, h3, hlt']; exact hR) ?_
        refine wpK_out (by simp) (hJ _ _ ⟨rfl, hO, c, kin, hblk, hkin, fun k hk => ?_⟩)
        rw [hcell k hk, List.getElem?_reverse hk]
        unfold turned
        split
        · rfl
        · rw [show l.length - 1 - k = k from by omega]
      have hlt' : ((i : Int) < ((l.length - 1 - i : Nat) : Int)) := by omega
      refine wpK_reg (fun R hR => by simp [h2, h3, hlt']; exact hR) ?_
      refine wpK_onT (by simp) ?_
      refine wpK_block ?_
      have hxi : ∃ x, l[i]? = some x := ⟨l[i], List.getElem?_eq_getElem (by omega)⟩
      have hxj : ∃ x, l[l.length - 1 - i]? = some x := ⟨l[l.length - 1 - i], List.getElem?_eq_getElem (by omega)⟩
      obtain ⟨xi, hxi⟩ := hxi
      obtain ⟨xj, hxj⟩ := hxj
      obtain ⟨ki, hki⟩ := hu xi (List.mem_of_getElem? hxi)
      obtain ⟨kj, hkj⟩ := hu xj (List.mem_of_getElem? hxj)
      have hci : c.get i = some xi := by rw [hcell i (by omega)]; unfold turned; rw [if_neg (by omega)]; exact hxi
      have hcj : c.get (l.length - 1 - i) = some xj := by rw [hcell _ (by omega)]; unfold turned; rw [if_neg (by omega)]; exact hxj
      subst hki; subst hkj
      have hHi : W'.Has b i (.int .u8 ki) := ⟨hbn', by simp only [AW.cell, hblk, blt_dec]; rw [decide_eq_true (by omega)]; exact hci⟩
      have hHj : W'.Has b (l.length - 1 - i) (.int .u8 kj) := ⟨hbn', by simp only [AW.cell, hblk, blt_dec]; rw [decide_eq_true (by omega)]; exact hcj⟩
      have hli := load_ext und5 rfl hHi (.refl _ _)
      have hlj := load_ext und5 rfl hHj (.refl _ _)
      have hai := indexAddr_slice (b := b) (o := 0) (c := 3) (k := .i64) (len := l.length) (i := i) und38 sz5 (by omega)
      have haj := indexAddr_slice (b := b) (o := 0) (c := 3) (k := .i64) (len := l.length) (i := l.length - 1 - i) und38 sz5 (by omega)
      simp only [Nat.zero_add, Nat.mul_one] at hai haj
      obtain ⟨W1, p1, p2, p3, p4⟩ := store_grown (T := T0) (t := 5) (v := .int .u8 kj) (o := i) inf5' rfl rfl rfl hblk hkin (by omega)
      obtain ⟨W2, q1, q2, q3, q4⟩ := store_grown (T := T0) (t := 5) (v := .int .u8 ki) (o := l.length - 1 - i) (K := fun _ => False) inf5' rfl rfl rfl p4 (by simp) (by omega)
      have hn2 : W'.next ≤ W1.next := by omega
      have hn3 : W1.next ≤ W2.next := by omega
      refine wpK_dr1 (wr := Tr.nil |>.set 14 0 |>.set 15 1 |>.set 16 2 |>.set 17 3 |>.set 18 4 |>.set 19 5 |>.set 20 6 |>.set 21 7 |>.set 22 8 |>.set 23 9 |>.set 24 10 |>.set 25 11 |>.set 26 12 |>.set 27 14) (bits := Tr.nil.lay 0 [0, 0, 0, 0, 0, 0, 48, 112, 0, 0, 768, 1792, 4083, 8179, 16383, 32767]) (ord := [0, 1, 2, 3, 4, 5, 6, 7, 8, 9, 10, 11, 12, 13, 14, 15])
        (J := fun A W => A.n = 28 ∧ A.defers = [] ∧ A.tmps.get 0 = some (.slice (some ⟨b, 0, none⟩) l.length 3) ∧ A.tmps.get 2 = some (.int .i64 i) ∧ A.tmps.get 3 = some (.int .i64 ((l.length - 1 - i : Nat) : Int)) ∧ W = W2) (by kernel_rfl) (by kernel_rfl) (by kernel_rfl) (fun G hG => ?_) ?_
      · simp [ht0, h2, h3, hai, haj, hli, hlj, opStore, p1, q1, hn2, hn3, valEq_slice]
        apply hG
        exact ⟨rfl, rfl, by simp [ht0], by simp [h2], by simp [h3], rfl⟩
      · rintro ⟨t, n, ds⟩ W ⟨hn, hd, ht0, h2, h3, rfl⟩
        simp only at hn hd ht0 h2 h3
        subst hn; subst hd
        have hwi := i64_succ i (by omega)
        have hwj : IntKind.i64.wrap (((l.length - 1 - i : Nat) : Int) - 1) = ((l.length - 1 - (i + 1) : Nat) : Int) := by rw [IntWalk.i64_in _ (by omega)]; omega
        refine wpK_reg1 (fun R hR => by simp [h2, h3, hwi, hwj]; exact hR) ?_
        refine hI (l.length - (i + 1)) _ _ (by omega) ⟨rfl, rfl, by simp [ht0], ?_, i + 1, rfl, by omega, by simp, by simp, by omega, _, _, q4, by simp, fun k hk => ?_⟩
        · exact hO.trans ⟨by omega, fun x hx hk => by rw [q3.2 x (by omega) (fun y => y.elim (fun e => hk (by rw [e]; exact hKb)) (fun e => e)), p3.2 x hx (fun y => y.elim (fun e => hk (by rw [e]; exact hKb)) hk)]⟩
        · simp only [Tr.get_set]
          unfold turned
          by_cases e1 : k = l.length - 1 - i
          · rw [if_pos e1, if_pos (by omega), show l.length - 1 - k = i from by omega]; exact hxi.symm
          · rw [if_neg e1]
            by_cases e2 : k = i
            · rw [if_pos e2, if_pos (by omega), e2]; exact hxj.symm
            · rw [if_neg e2, hcell k hk]
              unfold turned
              by_cases e3 : k < i ∨ l.length - i ≤ k
              · rw [if_pos e3, if_pos (by omega)]
              · rw [if_neg e3, if_neg (by omega)]
    · rintro A' W' hf; exact hf.elim
    · rintro ⟨t, n, ds⟩ W' ⟨hd, hO, c, kin, hblk, hkin, hcell⟩
      simp only at hd
      subst hd
      refine ⟨.inl rfl, rfl, [], rfl, hO, by simp, .inr ⟨b, c, kin, rfl, hpos, hKb, Nat.lt_of_lt_of_le hbn hO.1, by rw [List.length_reverse]; exact hblk, fun k hk => hcell k (by simpa using hk), hkin⟩⟩
end Go.Proofs.Ytnnfobmfffbhaaa

open Go Go.Eng
namespace Go.Proofs.Ytnnfobmfffbhaaa
attribute [local congr] undef_congr WpK.congr WpS.congr WpL.congr WpC.congr WpF.congr gotS.congr callS.congr nextS.congr wantS.congr condS.congr
attribute [local irreducible] WpK
attribute [local simp] WpDr_nil WpDr_cons atS_some dwantS_true dwantS_false kindS_light kindS_float kindS_heavy lightS_value floatS_some heavyS_value heavyS_skip heavyS_enter dcallS_some doneS_eq
  isLight isFloat isPlain dLook testBit_dec dChain dLights_nil dLights_skip dLights_one dLight_nil dLight_cons dFreshes_nil dFreshes_one oneF_none oneF_some dFresh_nil dFresh_cons oneL_some oneW_true oneW_false sameV_value dPut dMay valEq arrEq listEq List.getElem?_cons Tr.get_nil dEnd
attribute [local simp] WpS_nil WpS_cons isDefer undef_false wantS_true wantS_false nextS_value nextS_skip nextS_enter callS_some gotS_some aWanted aOp aEvalF aEval opMove opAssign opPick aVal flat flat1 AAct.put opBinOp opConvert opIndex Tr.get_set Tr.get_lay aBin aResults tupled
  aCall aVals aCallB blt_dec ble_dec beq_dec aBinI_add aBinI_sub aBinI_lss aBinI_leq aBinI_gtr aBinI_geq aBinI_eql aBinI_neq index_str len_str len_slice Nat.beq_refl und3 und37 und5 und9
  opBox opLoad opFieldAddr opIndexAddr acells aAddr field25 und22 und23 und43 und4 und28
attribute [local simp] field31 conv_3_5 conv_3_37 conv_37_3 conv_5_3
set_option maxHeartbeats 4000000
theorem bytesOf_all : ∀ {l : List Value}, (∀ x ∈ l, ∃ k, x = .int .u8 k) → ∃ r, bytesOf l = some r ∧ r.length = l.length
  | [], _ => ⟨[], rfl, rfl⟩
  | x :: l, h => by
    obtain ⟨k, rfl⟩ := h x (List.mem_cons_self ..)
    obtain ⟨r, hr, hl⟩ := bytesOf_all (fun x hx => h x (List.mem_cons_of_mem _ hx))
    exact ⟨UInt8.ofNat k.toNat :: r, by simp only [bytesOf, hr], by simp [hl]⟩
theorem conv_grown {W : AW} {v : Value} {l : List Value} {K : Nat → Prop} (h : GrowsN W v l.length l 5 1 K) (hu : ∀ x ∈ l, ∃ k, x = .int .u8 k) : ∃ r, bytesOf l = some r ∧ aConv T0 W 92 9 v = some (.string ⟨⟨r⟩⟩) := by
  obtain ⟨r, hr, _⟩ := bytesOf_all hu
  refine ⟨r, hr, ?_⟩
  obtain ⟨h0, ⟨hz, rfl⟩ | ⟨b, c, kin, rfl, hpos, hKb, hbn, hblk, hcell, hkin⟩⟩ := h
  · have hl : l = [] := List.length_eq_zero_iff.1 hz
    subst hl
    cases hr
    simp only [aConv, und38, und9, und5]
  · have : W.cellsAt b 0 l.length = some l := by
      simp only [AW.cellsAt, hblk, ble_dec]
      rw [decide_eq_true (by omega)]
      exact take_get c _ 0 l rfl (fun j hj => by rw [Nat.zero_add]; exact hcell j (by omega))
    simp only [aConv, und38, und9, und5, this, hr]
/-- the letters by which a search came somewhere, from the last one on -/
def pathR (lB lL : List Value) : Nat → Nat → List Value
  | 0, _ => []
  | f + 1, i => match lB[i]? with
    | some (.int _ (.ofNat k)) => lL[i]?.toList ++ pathR lB lL f k
    | _ => []
structure Back (keys lB lL : List Value) : Prop where
  bef : ∀ i : Nat, i < keys.length → ∃ k : Int, lB[i]? = some (.int .i64 k) ∧ -1 ≤ k ∧ k < i
  let_ : ∀ i : Nat, i < keys.length → ∃ k : Int, lL[i]? = some (.int .u8 k)

theorem srch84_fld {W : AW} {p m : Nat} {col : Nat → Nat} {keys lB lL lN : List Value} {nN : Nat} (h : Srch W p m 143 140 119 2 col keys lB lL lN nN) (hpos : 0 < keys.length) :
    ∃ b2 b3, W.Has p 2 (.slice (some ⟨b2, 0, none⟩) keys.length 3) ∧ W.Has p 3 (.slice (some ⟨b3, 0, none⟩) keys.length 3) ∧ (∀ i u, lB[i]? = some u → W.Has b2 i u) ∧ (∀ i u, lL[i]? = some u → W.Has b3 i u) := by
  obtain ⟨c, hO, _⟩ := h.obj
  obtain ⟨_, v2, hv2, hG2⟩ := hO.fld 2 _ rfl
  obtain ⟨_, v3, hv3, hG3⟩ := hO.fld 3 _ rfl
  obtain ⟨b2, rfl, _, _, _, hh2⟩ := hG2.has hpos
  obtain ⟨b3, rfl, _, _, _, hh3⟩ := hG3.has hpos
  have hp := hO.lt p (by rw [hO.cp]; omega)
  exact ⟨b2, b3, ⟨hp, by simp only [AW.cell, hO.blk, blt_dec]; exact hv2⟩, ⟨hp, by simp only [AW.cell, hO.blk, blt_dec]; exact hv3⟩, hh2, hh3⟩

theorem word84_wp {W : AW} {p m : Nat} {col : Nat → Nat} {keys lB lL lN : List Value} {nN : Nat} (h : Srch W p m 143 140 119 2 col keys lB lL lN nN) (hB : Back keys lB lL) (hlen : keys.length < 10000) (i0 : Nat) (hi0 : i0 < keys.length) :
    WpF T0 62 [.pointer (some ⟨p, 0, none⟩), .int .i64 i0] W (fun v W' => Ext W W' ∧ ∃ r, v = .string ⟨⟨r⟩⟩ ∧ bytesOf (pathR lB lL keys.length i0).reverse = some r) := by
  refine wpF fun37 rfl ?_
  obtain ⟨b2, b3, hp2, hp3, hh2, hh3⟩ := srch84_fld h (by omega)
  refine wpK_reg (fun R hR => by simp; exact hR) ?_
  try simp only [wpK_assoc]
  refine wpK_reg (fun R hR => by simp; exact hR) ?_
  refine wpK_while (I := fun k A W' => A.n = 35 ∧ A.defers = [] ∧ A.tmps.get 0 = some (.pointer (some ⟨p, 0, none⟩)) ∧ Ext W W' ∧ ∃ (i : Nat) (v : Value) (out : List Value), k = i + 1 ∧ i < keys.length ∧ A.tmps.get 1 = some (.int .i64 i) ∧ A.tmps.get 5 = some v ∧
        GrowsN W' v out.length out 5 1 (fun b => W.next ≤ b) ∧ (∀ x ∈ out, ∃ k, x = .int .u8 k) ∧ out.length + i < keys.length ∧ ∃ f, i < f ∧ pathR lB lL keys.length i0 = out ++ pathR lB lL f i)
      (J := fun A W' => A.n = 35 ∧ A.defers = [] ∧ Ext W W' ∧ ∃ (v : Value) (out : List Value), A.tmps.get 5 = some v ∧ GrowsN W' v out.length out 5 1 (fun b => W.next ≤ b) ∧ (∀ x ∈ out, ∃ k, x = .int .u8 k) ∧ out.length < keys.length ∧ pathR lB lL keys.length i0 = out)
      (Rt := fun _ _ => False) (k := i0 + 1) ?_ ?_ ?_ ?_
  · exact ⟨rfl, rfl, by simp, .refl _ _, i0, .slice none 0 0, [], rfl, hi0, by simp, by simp, .nil _ _ _ _, by simp, by simpa using hi0, keys.length, hi0, rfl⟩
  · rintro k ⟨t, n, ds⟩ W' ⟨hn, hd, h0, hE, i, v, out, hk, hi, h1, h5, hG, hu, hol, f, hf, hpath⟩ Q' hJ hRt hI
    simp only at hn hd h0 h1 h5
    subst hn; subst hd
    obtain ⟨kb, hkb, hkb1, hkb2⟩ := hB.bef i hi
    obtain ⟨kl, hkl⟩ := hB.let_ i hi
    have hl2 := load_ext und43 rfl hp2 hE
    have hl3 := load_ext und38 rfl hp3 hE
    have ha2 := indexAddr_slice (b := b2) (o := 0) (c := 3) (k := .i64) und43 sz3 hi
    have ha3 := indexAddr_slice (b := b3) (o := 0) (c := 3) (k := .i64) und38 sz5 hi
    simp only [Nat.zero_add, Nat.mul_one] at ha2 ha3
    have hv2 := load_ext und3 rfl (hh2 i _ hkb) hE
    have hv3 := load_ext und5 rfl (hh3 i _ hkl) hE
    try simp only [wpK_assoc]
    by_cases hneg : kb = -1
    · subst hneg
      refine wpK_reg (fun R hR => by simp [h0, h1, opNilCheck, nilck, field112, hl2, ha2, hv2]; exact hR) ?_
      refine wpK_out (by simp) (hJ _ _ ⟨rfl, rfl, hE, v, out, by simp [h5], hG, hu, by omega, ?_⟩)
      rw [hpath]
      cases f with
      | zero => omega
      | succ f => simp only [pathR, hkb]; simp
    · obtain ⟨j, hj⟩ : ∃ j : Nat, kb = j := ⟨kb.toNat, by omega⟩
      subst hj
      refine wpK_reg (fun R hR => by simp [h0, h1, opNilCheck, nilck, field112, hl2, ha2, hv2, hneg]; exact hR) ?_
      refine wpK_onT (by simp) ?_
      refine wpK_block1 ?_
      have hEn : Ext W' (W'.newCells 5 [.int .u8 kl]) := .newCells _ _ _
      have hx : (W'.newCells 5 [.int .u8 kl]).cellsAt W'.next 0 1 = some [.int .u8 kl] := newCells_cellsAt W' 5 [.int .u8 kl] 1 rfl
      obtain ⟨v', W4, a1, a2, a3, a4⟩ := append_growsN (T := T0) (t := 92) (i := Try.t5) (z := .int .u8 0) (sz := 1) (by omega) und38 inf5' rfl rfl rfl (hG.only (K' := fun _ => False) hEn (fun _ _ _ x => x)) (u := [.int .u8 kl]) (c := 2) rfl hx rfl (by show 2 * (out.length + 1) * 1 ≤ _; omega) (by omega)
      have hE4 : Ext W W4 := ⟨by rw [a2, newCells_next]; have := hE.1; omega, fun b hb hk => by rw [a4.2 b (by rw [newCells_next]; have := hE.1; omega) (by omega), hEn.2 b (by have := hE.1; omega) (fun x => x)]; exact hE.2 b hb hk⟩
      have hl24 := load_ext und43 rfl hp2 hE4
      have hv24 := load_ext und3 rfl (hh2 i _ hkb) hE4
      try simp only [wpK_assoc]
      refine wpK_reg (fun R hR => by simp [h0, h1, h5, opNilCheck, nilck, field112, hl3, ha3, hv3, opBuildSlice, aParts, aValW, bs38, a1]; exact hR) ?_
      try simp only [wpK_assoc]
      refine wpK_reg1 (fun R hR => by simp [h0, h1, opNilCheck, nilck, field112, hl24, ha2, hv24]; exact hR) ?_
      refine hI (j + 1) _ _ (by omega) ⟨rfl, rfl, by simp [h0], hE4, j, v', out ++ [.int .u8 kl], rfl, by omega, by simp, by simp, ?_, ?_, by simp; omega, f - 1, by omega, ?_⟩
      · rw [List.length_append]
        refine a3.mono (fun b hb => hb.elim (fun x => x) (fun e => by rw [newCells_next] at e; have := hE.1; omega))
      · intro x hx
        rcases List.mem_append.1 hx with hx | hx
        · exact hu x hx
        · rw [List.mem_singleton] at hx; exact ⟨kl, hx⟩
      · rw [hpath]
        cases f with
        | zero => omega
        | succ f =>
          show out ++ pathR lB lL (f + 1) i = _
          have e : pathR lB lL (f + 1) i = lL[i]?.toList ++ pathR lB lL f j := by
            show (match lB[i]? with | some (.int _ (.ofNat k)) => lL[i]?.toList ++ pathR lB lL f k | _ => []) = _
            rw [hkb]
          rw [e, hkl]; simp
  · rintro A' W' hf; exact hf.elim
  · rintro ⟨t, n, ds⟩ W' ⟨hn, hd, hE, v, out, h5, hG, hu, hol, hpath⟩
    simp only at hn hd h5
    subst hn; subst hd
    try simp only [wpK_assoc]
    refine wpK_regc (J := fun A W'' => A.n = 35 ∧ A.defers = [] ∧ A.tmps.get 5 = some v ∧ Only (fun b => W.next ≤ b) W' W'' ∧ GrowsN W'' v out.length out.reverse 5 1 (fun b => W.next ≤ b)) (fun R hR => ?_) ?_
    · simp [h5, aEnter, fun51, short_other, aCallV]
      rw [callS_none]
      refine (reverse_wp hG hu (by omega)).mono ?_
      rintro _ W'' ⟨g1, g2⟩
      simp
      apply hR
      exact ⟨rfl, rfl, by simp [h5], g1, g2⟩
    rintro ⟨t, n, ds⟩ W'' ⟨hn, hd, h5, hO, hG2⟩
    simp only at hn hd h5
    subst hn; subst hd
    rw [← List.length_reverse] at hG2
    obtain ⟨r, hr1, hr2⟩ := conv_grown hG2 (fun x hx => hu x (by simpa using hx))
    try simp only [wpK_assoc]
    refine wpK_reg (fun R hR => by simp [h5, hr2]; exact hR) ?_
    refine wpK_ret ⟨.inr rfl, rfl, [.string ⟨⟨r⟩⟩], by simp, ⟨by have := hE.1; have := hO.1; omega, fun b hb hx => by rw [hO.2 b (by have := hE.1; omega) (by omega)]; exact hE.2 b hb hx⟩, r, rfl, by rw [hpath]; exact hr1⟩
end Go.Proofs.Ytnnfobmfffbhaaa

open Go Go.Eng
namespace Go.Proofs.Ytnnfobmfffbhaaa
attribute [local congr] undef_congr WpK.congr WpS.congr WpL.congr WpC.congr WpF.congr gotS.congr callS.congr nextS.congr wantS.congr condS.congr
attribute [local irreducible] WpK
attribute [local simp] WpDr_nil WpDr_cons atS_some dwantS_true dwantS_false kindS_light kindS_float kindS_heavy lightS_value floatS_some heavyS_value heavyS_skip heavyS_enter dcallS_some doneS_eq
  isLight isFloat isPlain dLook testBit_dec dChain dLights_nil dLights_skip dLights_one dLight_nil dLight_cons dFreshes_nil dFreshes_one oneF_none oneF_some dFresh_nil dFresh_cons oneL_some oneW_true oneW_false sameV_value dPut dMay valEq arrEq listEq List.getElem?_cons Tr.get_nil dEnd
attribute [local simp] WpS_nil WpS_cons isDefer undef_false wantS_true wantS_false nextS_value nextS_skip nextS_enter callS_some gotS_some aWanted aOp aEvalF aEval opMove opAssign opPick aVal flat flat1 AAct.put opBinOp opConvert opIndex Tr.get_set Tr.get_lay aBin aResults tupled
  aCall aVals aCallB blt_dec ble_dec beq_dec aBinI_add aBinI_sub aBinI_lss aBinI_leq aBinI_gtr aBinI_geq aBinI_eql aBinI_neq index_str len_str len_slice Nat.beq_refl und3 und37 und5 und9
  opBox opLoad opFieldAddr opIndexAddr acells aAddr field25 und22 und23 und43 und4 und28
attribute [local simp] field31 conv_3_5 conv_3_37 conv_37_3 conv_5_3
set_option maxHeartbeats 4000000
attribute [local simp] field57
theorem fun23 : T0.funcs.get 43 = some Try.f43 := by kernel_rfl
theorem zero9 : aZero T0 9 = some (.string ⟨⟨[]⟩⟩) := by kernel_rfl
theorem zero4 : aZero T0 4 = some (.bool false) := by kernel_rfl
theorem zero82 : aZero T0 117 = some (.pointer none) := by kernel_rfl
theorem inf82 : T0.info.get 117 = some Try.t117 := by kernel_rfl
theorem inf9 : T0.info.get 9 = some Try.t9 := by kernel_rfl
theorem bld84 (a b : Int) : aBuild T0 119 [(0, .int .i64 a), (1, .int .i64 b)] = some (pr a b) := by kernel_rfl

def IsP (N N' : Nat) (v : Value) : Prop := ∃ a b : Nat, a < N ∧ b < N' ∧ v = pr a b
def fstP : Value → Nat
  | .agg ⟨[a, _]⟩ => codeS a
  | _ => 0
def sndP : Value → Nat
  | .agg ⟨[_, b]⟩ => codeS b
  | _ => 0
theorem fstP_pr (a b : Nat) : fstP (pr a b) = a := rfl
theorem sndP_pr (a b : Nat) : sndP (pr a b) = b := rfl
def stepP (N N' : Nat) (mx mx' : Nat → Nat → Nat) (key : Value) (x : Nat) : Value :=
  if fstP key < N ∧ sndP key < N' ∧ x < 4 then pr (mx (fstP key) x : Nat) (mx' (sndP key) x : Nat) else pr (0 : Nat) (0 : Nat)
theorem stepP_is {N N' : Nat} {mx mx' : Nat → Nat → Nat} (hN : 0 < N) (hN' : 0 < N') (h : ∀ s x, s < N → x < 4 → mx s x < N) (h' : ∀ s x, s < N' → x < 4 → mx' s x < N') {key : Value} {x : Nat} : IsP N N' key → IsP N N' (stepP N N' mx mx' key x) := by
  rintro ⟨a, b, ha, hb, rfl⟩
  unfold stepP
  rw [fstP_pr, sndP_pr]
  split
  · rename_i hc; exact ⟨_, _, h a x ha hc.2.2, h' b x hb hc.2.2, rfl⟩
  · exact ⟨0, 0, hN, hN', rfl⟩
theorem stepP_eq {N N' : Nat} {mx mx' : Nat → Nat → Nat} {a b x : Nat} (ha : a < N) (hb : b < N') (hx : x < 4) : stepP N N' mx mx' (pr a b) x = pr (mx a x : Nat) (mx' b x : Nat) := by
  unfold stepP
  rw [fstP_pr, sndP_pr, if_pos ⟨ha, hb, hx⟩]
theorem IsP.k84 {N N' : Nat} {v : Value} (h : IsP N N' v) : IsK84 v := let ⟨a, b, _, _, h⟩ := h; ⟨a, b, h⟩
theorem distP_len {keys : List Value} {N N' : Nat} (hk : ∀ k ∈ keys, IsP N N' k) (hd : Dist keys) : keys.length ≤ N * N' := by
  refine dist_len (fun k => fstP k * N' + sndP k) (fun k h => ?_) (fun a ha b hb e => ?_) hd
  · obtain ⟨s, t, h1, h2, rfl⟩ := hk k h
    show fstP (pr s t) * N' + sndP (pr s t) < N * N'
    rw [fstP_pr, sndP_pr]
    have : (s + 1) * N' ≤ N * N' := Nat.mul_le_mul_right _ h1
    rw [Nat.add_mul] at this
    omega
  · obtain ⟨s, t, h1, h2, rfl⟩ := hk a ha
    obtain ⟨s', t', h1', h2', rfl⟩ := hk b hb
    have e : fstP (pr s' t') * N' + sndP (pr s' t') = fstP (pr s t) * N' + sndP (pr s t) := e
    rw [fstP_pr, sndP_pr, fstP_pr, sndP_pr] at e
    have hs : s' = s := by
      rcases Nat.lt_trichotomy s' s with h | h | h
      · have : (s' + 1) * N' ≤ s * N' := Nat.mul_le_mul_right _ h
        rw [Nat.add_mul] at this; omega
      · exact h
      · have : (s + 1) * N' ≤ s' * N' := Nat.mul_le_mul_right _ h
        rw [Nat.add_mul] at this; omega
    subst hs
    have ht : t' = t := by omega
    subst ht
    exact key84_self _ _

/-! where the states of a search came from -/
theorem RowI.back {step : Value → Nat → Value} {key : Value} {i : Nat} : ∀ {x : Nat} {keys lB lL row keys' lB' lL' : List Value}, RowI step key i x keys lB lL row keys' lB' lL' → i < keys.length → (keys.length = lB.length ∧ keys.length = lL.length ∧ Back keys lB lL) → (keys'.length = lB'.length ∧ keys'.length = lL'.length ∧ Back keys' lB' lL')
  | 0, _, _, _, _, _, _, _, h, _, hb => by obtain ⟨rfl, rfl, rfl, _⟩ := h; exact hb
  | x + 1, _, _, _, _, _, _, _, ⟨r1, k1, B1, L1, j, h1, h2, _⟩, hi, hb => by
    obtain ⟨e1, e2, h3⟩ := h1.back hi hb
    have hle := h1.grows.1.length_le
    obtain ⟨_, _, ⟨rfl, rfl, rfl⟩ | ⟨_, _, rfl, rfl, rfl⟩⟩ := h2
    · exact ⟨e1, e2, h3⟩
    · refine ⟨by simp [e1], by simp [e2], fun q hq => ?_, fun q hq => ?_⟩
      · by_cases hlt : q < k1.length
        · obtain ⟨k, g1, g2⟩ := h3.bef q hlt
          exact ⟨k, by rw [List.getElem?_append_left (by omega)]; exact g1, g2⟩
        · have : q = k1.length := by simp at hq; omega
          subst this
          exact ⟨i, by rw [e1]; simp, by omega, by omega⟩
      · by_cases hlt : q < k1.length
        · obtain ⟨k, g1⟩ := h3.let_ q hlt
          exact ⟨k, by rw [List.getElem?_append_left (by omega)]; exact g1⟩
        · have : q = k1.length := by simp at hq; omega
          subst this
          exact ⟨97 + x, by rw [e2]; simp⟩
theorem Bfs.back {step : Value → Nat → Value} {L : Nat} {start : Value} : ∀ {i : Nat} {keys lB lL lN : List Value}, Bfs step L start i keys lB lL lN → keys.length = lB.length ∧ keys.length = lL.length ∧ Back keys lB lL
  | 0, _, _, _, _, h => by
    obtain ⟨rfl, rfl, rfl, _⟩ := h
    refine ⟨rfl, rfl, fun i hi => ?_, fun i hi => ?_⟩
    · have : i = 0 := by simpa using hi
      subst this; exact ⟨-1, rfl, by omega, by omega⟩
    · have : i = 0 := by simpa using hi
      subst this; exact ⟨97, rfl⟩
  | i + 1, _, _, _, _, ⟨_, _, _, _, _, _, h1, h2, h3, _⟩ => h3.back (List.getElem?_eq_some_iff.1 h2).1 h1.back

/-- do two machines agree on whether a pair of their states is good? -/
def agree (mg mg' : Nat → Bool) (k : Value) : Prop := mg (fstP k) = mg' (sndP k)

/-- what part's loop keeps -/
structure Prt (W5 : AW) (col0 : Nat → Nat) (mg mg' : Nat → Bool) (i : Nat) (keys _lB _lL _lN : List Value) (col : Nat → Nat) (W' : AW) : Prop where
  le : i ≤ keys.length
  next : W5.next ≤ W'.next
  fix : ∀ b, b < W5.next → col0 b = 0 → col b = 0 ∧ W'.blocks.get b = W5.blocks.get b
  same : ∀ j k, j < i → keys[j]? = some k → agree mg mg' k
theorem Prt.stab {W5 : AW} {col0 : Nat → Nat} {mg mg' : Nat → Bool} {i : Nat} {keys lB lL lN : List Value} {col : Nat → Nat} {W' W'' : AW} {keys' lB' lL' lN' : List Value} {col' : Nat → Nat} (h : Prt W5 col0 mg mg' i keys lB lL lN col W')
    (hk : keys <+: keys') (hO : Only (fun b => col b ≠ 0) W' W'') (h0 : ∀ b, b < W'.next → col b = 0 → col' b = 0) : Prt W5 col0 mg mg' i keys' lB' lL' lN' col' W'' where
  le := Nat.le_trans h.le hk.length_le
  next := Nat.le_trans h.next hO.1
  fix := fun b hb hc => by
    obtain ⟨g1, g2⟩ := h.fix b hb hc
    have hlt := Nat.lt_of_lt_of_le hb h.next
    exact ⟨h0 b hlt g1, by rw [hO.2 b hlt (fun x => x g1)]; exact g2⟩
  same := fun j k hj hjk => by
    obtain ⟨r, rfl⟩ := hk
    rw [List.getElem?_append_left (Nat.lt_of_lt_of_le hj h.le)] at hjk
    exact h.same j k hj hjk
/-- .. and what it comes to when it is left -/
def Prd (W5 : AW) (col0 : Nat → Nat) (t8 t9 l : Nat) (mg mg' : Nat → Bool) (step : Value → Nat → Value) (L : Nat) (start : Value) (i : Nat) (keys lB lL lN : List Value) (_col : Nat → Nat) (W' : AW) : Prop :=
  Bfs step L start i keys lB lL lN ∧ (∀ j k, j < i → keys[j]? = some k → agree mg mg' k) ∧ (∃ k, keys[i]? = some k ∧ ¬ agree mg mg' k) ∧ W5.next ≤ W'.next ∧ (∃ r, bytesOf (pathR lB lL keys.length i).reverse = some r ∧ W'.Has t8 0 (.string ⟨⟨r⟩⟩)) ∧ W'.Has t9 0 (.bool true) ∧
    (∀ b, b < W5.next → col0 b = 0 → b ≠ t8 → b ≠ t9 → b ≠ l → W'.blocks.get b = W5.blocks.get b) ∧ ∃ fn' t' n' ps' as' bd' df', W'.blocks.get l = some ⟨.loop .done (some .ret) fn' t' n' ps' as' bd' df', []⟩
end Go.Proofs.Ytnnfobmfffbhaaa

open Go Go.Eng
namespace Go.Proofs.Ytnnfobmfffbhaaa
attribute [local congr] undef_congr WpK.congr WpS.congr WpL.congr WpC.congr WpF.congr gotS.congr callS.congr nextS.congr wantS.congr condS.congr
attribute [local irreducible] WpK
attribute [local simp] WpDr_nil WpDr_cons atS_some dwantS_true dwantS_false kindS_light kindS_float kindS_heavy lightS_value floatS_some heavyS_value heavyS_skip heavyS_enter dcallS_some doneS_eq
  isLight isFloat isPlain dLook testBit_dec dChain dLights_nil dLights_skip dLights_one dLight_nil dLight_cons dFreshes_nil dFreshes_one oneF_none oneF_some dFresh_nil dFresh_cons oneL_some oneW_true oneW_false sameV_value dPut dMay valEq arrEq listEq List.getElem?_cons Tr.get_nil dEnd
attribute [local simp] WpS_nil WpS_cons isDefer undef_false wantS_true wantS_false nextS_value nextS_skip nextS_enter callS_some gotS_some aWanted aOp aEvalF aEval opMove opAssign opPick aVal flat flat1 AAct.put opBinOp opConvert opIndex Tr.get_set Tr.get_lay aBin aResults tupled
  aCall aVals aCallB blt_dec ble_dec beq_dec aBinI_add aBinI_sub aBinI_lss aBinI_leq aBinI_gtr aBinI_geq aBinI_eql aBinI_neq index_str len_str len_slice Nat.beq_refl und3 und37 und5 und9
  opBox opLoad opFieldAddr opIndexAddr acells aAddr field25 und22 und23 und43 und4 und28
attribute [local simp] field31 conv_3_5 conv_3_37 conv_37_3 conv_5_3
set_option maxHeartbeats 4000000
attribute [local simp] field57
theorem bool_neq (xo yo : Operand) (a b : Bool) : aBin T0 .neq 4 xo yo (.bool a) (.bool b) = some (.bool (a != b)) := by
  cases a <;> cases b <;> simp [aBin, aGuard, aBinO, aEq, und4]
/-- what part answers -/
def PartIs (mg mg' : Nat → Bool) (step : Value → Nat → Value) (L : Nat) (start : Value) (w : ByteArray) (ok : Bool) : Prop :=
  ∃ i keys lB lL lN, Bfs step L start i keys lB lL lN ∧ (∀ j k, j < i → keys[j]? = some k → agree mg mg' k) ∧
    ((i = keys.length ∧ w = ⟨⟨[]⟩⟩ ∧ ok = false) ∨ ((∃ k, keys[i]? = some k ∧ ¬ agree mg mg' k) ∧ ok = true ∧ ∃ r, bytesOf (pathR lB lL keys.length i).reverse = some r ∧ w = ⟨⟨r⟩⟩))

theorem part_wp (L N bs gs c1 c2 N' bs' gs' c1' c2' : Nat) (L' : Nat) (mx mx' : Nat → Nat → Nat) (mg mg' : Nat → Bool) (s s' : Nat) (W : AW) (hM : MachAt W L N bs gs c1 c2 mx mg) (hM' : MachAt W L' N' bs' gs' c1' c2' mx' mg') (hL4 : L ≤ 4) (hs : s < N) (hs' : s' < N') (hNN : N * N' < 10000)
    (hmx : ∀ s x, s < N → x < 4 → mx s x < N) (hmx' : ∀ s x, s < N' → x < 4 → mx' s x < N') :
    WpF T0 43 [machV L N bs gs c1 c2, .int .i64 s, .int .i64 s', machV L' N' bs' gs' c1' c2'] W (fun v W' => Ext W W' ∧ ∃ w ok, v = .tuple ⟨[.string w, .bool ok]⟩ ∧ PartIs mg mg' (stepP N N' mx mx') L (pr s s') w ok) := by
  refine wpFd fun23 rfl ?_
  refine wpK_reg (fun R hR => by simp [opAlloc, zero9, zero4]; exact hR) ?_
  obtain ⟨W1, hW1, hE1, hn1, h4c, h7c, h8c, h9c⟩ : ∃ W1, W1 = (((W.newCells 69 [.int .i64 L, .slice (some ⟨bs, 0, none⟩) N c1, .slice (some ⟨gs, 0, none⟩) N c2]).newCells 69 [.int .i64 L', .slice (some ⟨bs', 0, none⟩) N' c1', .slice (some ⟨gs', 0, none⟩) N' c2']).newCells 9 [.string ⟨⟨[]⟩⟩]).newCells 4 [.bool false] ∧ Ext W W1 ∧ W1.next = W.next + 4 ∧
      (∀ j u, [Value.int .i64 (L : Nat), .slice (some ⟨bs, 0, none⟩) N c1, .slice (some ⟨gs, 0, none⟩) N c2][j]? = some u → W1.Has W.next j u) ∧
      (∀ j u, [Value.int .i64 (L' : Nat), .slice (some ⟨bs', 0, none⟩) N' c1', .slice (some ⟨gs', 0, none⟩) N' c2'][j]? = some u → W1.Has (W.next + 1) j u) ∧
      (∃ c, W1.blocks.get (W.next + 2) = some ⟨.cells c 1 9, []⟩) ∧ (∃ c, W1.blocks.get (W.next + 3) = some ⟨.cells c 1 4, []⟩) := by
    refine ⟨_, rfl, (((Only.newCells _ _ _).trans (Only.newCells _ _ _)).trans (Only.newCells _ _ _)).trans (Only.newCells _ _ _), rfl, fun j u h => (((Has.newCells h).ext (.newCells _ _ _)).ext (.newCells _ _ _)).ext (.newCells _ _ _), fun j u h => ((Has.newCells h).ext (.newCells _ _ _)).ext (.newCells _ _ _), ?_, ?_⟩
    · exact ⟨_, by rw [newCells_get, if_neg (by simp only [newCells_next]; omega), newCells_get, if_pos (by simp only [newCells_next])]; rfl⟩
    · exact ⟨_, by rw [newCells_get, if_pos (by simp only [newCells_next])]; rfl⟩
  rw [← hW1]
  simp only [newCells_next]
  clear hW1
  try simp only [wpK_assoc]
  -- the search
  refine wpK_regc (J := fun A W3 => A.n = 42 ∧ A.defers = [] ∧ A.tmps.get 4 = some (.pointer (some ⟨W.next, 0, none⟩)) ∧ A.tmps.get 7 = some (.pointer (some ⟨W.next + 1, 0, none⟩)) ∧ A.tmps.get 8 = some (.pointer (some ⟨W.next + 2, 0, none⟩)) ∧ A.tmps.get 9 = some (.pointer (some ⟨W.next + 3, 0, none⟩)) ∧
      ∃ p10 p m col, A.tmps.get 10 = some (.pointer (some ⟨p10, 0, none⟩)) ∧ W1.next ≤ p10 ∧ col p10 = 0 ∧ W3.Has p10 0 (.pointer (some ⟨p, 0, none⟩)) ∧ Ext W1 W3 ∧ (∀ b, b < W1.next → col b = 0) ∧ Srch W3 p m 143 140 119 2 col [pr s s'] [.int .i64 (-1)] [.int .u8 97] [] 0) (fun R hR => ?_) ?_
  · simp [opBuild, aParts, bld84, aEnter, fun34, short_other, aCallV]
    rw [callS_none]
    refine (from84_wp s s' W1).mono ?_
    rintro v W2 ⟨rfl, h1, col, h2, h3⟩
    obtain ⟨W3, r1, r2, r3, r4⟩ := storeVar_own (T := T0) (t := 117) (W := W2.newCells 117 [.pointer none]) (v := .pointer (some ⟨W1.next + 2, 0, none⟩)) (b := W2.next) (o := 0) inf82 rfl (by rw [newCells_get, if_pos rfl]) (by show 0 + 1 ≤ 1; omega) rfl
    simp [opAlloc, zero82, opStore, r1]
    apply hR
    have hE23 : Ext W2 W3 := ⟨by rw [r2, newCells_next]; omega, fun b hb _ => by rw [r3 b (by omega), newCells_get, if_neg (by omega)]⟩
    have hz : col W2.next = 0 := by
      cases hc : col W2.next with
      | zero => rfl
      | succ y => exact absurd (h3.lt (b := W2.next) (by omega)) (by omega)
    exact ⟨rfl, rfl, by simp, by simp, by simp, by simp, W2.next, W1.next + 2, W1.next + 1, col, by simp, h1.1, hz, ⟨by rw [r2, newCells_next]; omega, by simp only [AW.cell, r4, blt_dec]; rfl⟩, h1.trans hE23, h2, h3.only (K := fun _ => False) hE23 (fun _ _ _ x => x)⟩
  rintro ⟨t, nt, ds⟩ W3 ⟨hnt, hd, h4, h7, h8, h9, p10, p, m, col0, h10, hp10, hcp10, hHp10, hE3, hc0, hS⟩
  simp only at hnt hd h4 h7 h8 h9 h10
  subst hnt; subst hd
  try simp only [wpK_assoc]
  refine wpK_reg (fun R hR => by simp [opMakeFunc, h4, h7]; exact hR) ?_
  have hl0 := load_ext und3 rfl (h4c 0 _ rfl) hE3
  have hl10 := load_ext und82 rfl hHp10 (.refl _ _)
  try simp only [wpK_assoc]
  refine wpK_regc (J := fun A W4 => A.n = 42 ∧ A.defers = [] ∧ A.tmps.get 4 = some (.pointer (some ⟨W.next, 0, none⟩)) ∧ A.tmps.get 7 = some (.pointer (some ⟨W.next + 1, 0, none⟩)) ∧ A.tmps.get 8 = some (.pointer (some ⟨W.next + 2, 0, none⟩)) ∧ A.tmps.get 9 = some (.pointer (some ⟨W.next + 3, 0, none⟩)) ∧
      A.tmps.get 10 = some (.pointer (some ⟨p10, 0, none⟩)) ∧
      A.tmps.get 23 = some (.func (.func 72) ⟨[]⟩ ⟨[.pointer (some ⟨W3.next, 0, none⟩), .pointer (some ⟨W3.next + 1, 0, none⟩), .pointer (some ⟨W3.next + 2, 0, none⟩)]⟩) ∧ Ext W3 W4 ∧ W4.next = W3.next + 3 ∧
      W4.Has W3.next 0 (.pointer (some ⟨p, 0, none⟩)) ∧ W4.Has (W3.next + 1) 0 (.int .i64 L) ∧ W4.Has (W3.next + 2) 0 (.func (.func 60) ⟨[]⟩ ⟨[.pointer (some ⟨W.next, 0, none⟩), .pointer (some ⟨W.next + 1, 0, none⟩)]⟩)) (fun R hR => ?_) ?_
  · simp [h4, h10, hl0, hl10, aEnter, fun36, short_other, aCallV]
    rw [callS_none]
    refine (all36_wp p L 60 [] [.pointer (some ⟨W.next, 0, none⟩), .pointer (some ⟨W.next + 1, 0, none⟩)] W3).mono ?_
    rintro v W4 ⟨rfl, g1, g2, g3, g4, g5⟩
    simp
    apply hR
    exact ⟨rfl, rfl, by simp [h4], by simp [h7], by simp [h8], by simp [h9], by simp [h10], by simp, g1, g2, g3, g4, g5⟩
  rintro ⟨t, nt, ds⟩ W4 ⟨hnt, hd, h4, h7, h8, h9, h10, h23, hE4, hn4, hb1, hb2, hb3⟩
  simp only at hnt hd h4 h7 h8 h9 h10 h23
  subst hnt; subst hd
  try simp only [wpK_assoc]
  refine wpK_range2 (f := 72) (first := ⟨[]⟩) (cap := ⟨[.pointer (some ⟨W3.next, 0, none⟩), .pointer (some ⟨W3.next + 1, 0, none⟩), .pointer (some ⟨W3.next + 2, 0, none⟩)]⟩) (by simp [h23]) fun50 (fun W5 hn5 hW5 hdf hlp => ?_)
  have hE45 : Ext W4 W5 := ⟨by omega, fun b hb _ => hW5 b hb⟩
  have hE35 : Ext W3 W5 := hE4.trans hE45
  have hE15 : Ext W1 W5 := hE3.trans hE35
  have hE05 : Ext W W5 := hE1.trans hE15
  have hlt15 := hE15.1
  have hz : ∀ b, W3.next ≤ b → col0 b = 0 := fun b hb => by
    cases hc : col0 b with
    | zero => rfl
    | succ y => exact absurd (hS.lt (b := b) (by omega)) (by omega)
  have hS5 := hS.only (K := fun _ => False) hE35 (fun _ _ _ x => x)
  have hC0 : Prt W5 col0 mg mg' 0 [pr s s'] [.int .i64 (-1)] [.int .u8 97] [] col0 W5 := ⟨Nat.zero_le _, Nat.le_refl _, fun b _ hc => ⟨hc, rfl⟩, fun j k hj => by omega⟩
  have hFix : ∀ {i keys lB lL lN col W'}, Prt W5 col0 mg mg' i keys lB lL lN col W' → ∀ {b o v}, W5.Has b o v → col0 b = 0 → W'.Has b o v := fun {i keys lB lL lN col W'} h {b o v} hh hc =>
    ⟨Nat.lt_of_lt_of_le hh.1 h.next, by rw [AW.cell_of_get (h.fix b hh.1 hc).2]; exact hh.2⟩
  have hOld : ∀ {i keys lB lL lN col W'}, Prt W5 col0 mg mg' i keys lB lL lN col W' → Ext W W' := fun {i keys lB lL lN col W'} h =>
    ⟨Nat.le_trans hE05.1 h.next, fun b hb _ => by rw [(h.fix b (Nat.lt_of_lt_of_le hb hE05.1) (hc0 b (by omega))).2]; exact hE05.2 b hb (fun x => x)⟩
  have hsK : IsP N N' (pr s s') := ⟨s, s', hs, hs', rfl⟩
  have hN0 : 0 < N := by omega
  have hN0' : 0 < N' := by omega
  have hstep : ∀ {key x}, IsP N N' key → IsP N N' (stepP N N' mx mx' key x) := fun {key x} h => stepP_is hN0 hN0' hmx hmx' h
  have hp10l := hHp10.1
  have hlt35 := hE35.1
  have hCaller : Caller 117 72 (IsP N N') L p W3.next (W3.next + 1) (W3.next + 2) (W4.next + 1) 60 [] [.pointer (some ⟨W.next, 0, none⟩), .pointer (some ⟨W.next + 1, 0, none⟩)] (stepP N N' mx mx') (pr s s') (N * N') (fun i keys lB lL lN col W => Srch W p m 143 140 119 2 col keys lB lL lN i)
      (Prt W5 col0 mg mg') (Prd W5 col0 (W.next + 2) (W.next + 3) (W4.next + 1) mg mg' (stepP N N' mx mx') L (pr s s')) := by
    refine ⟨hL4, hNN, ⟨_, fun35⟩, by decide, ⟨rfl, by simp [listEq, valEq]⟩, fun {i keys lB lL lN col W'} h => ?_, fun {i keys lB lL lN col keys' lB' lL' lN' col' W' W''} h hk _ _ _ hO _ hc => h.stab hk hO hc, fun {i keys lB lL lN col W' key x} h hkey hkk hx => ?_, hstep, hsK, fun hB => ?_, fun hB hkey hx hR => ?_, fun {i keys lB lL lN col W' key} h hS' hB hkey => ?_⟩
    · exact ⟨hFix h (hb1.ext hE45) (hz _ (by omega)), hFix h (hb2.ext hE45) (hz _ (by omega)), hFix h (hb3.ext hE45) (hz _ (by omega))⟩
    · obtain ⟨a, b, ha, hb, rfl⟩ := hkk
      refine (step35_wp (hM.ext (hOld h)) (hM'.ext (hOld h)) (hFix h ((h4c 1 _ rfl).ext hE15) (hc0 _ (by omega))) (hFix h ((h7c 1 _ rfl).ext hE15) (hc0 _ (by omega))) ha hb (by omega)).mono ?_
      rintro v W'' ⟨g1, rfl⟩
      exact ⟨g1, (stepP_eq ha hb (by omega)).symm⟩
    · exact distP_len (hB.isK hstep hsK) hB.dist
    · exact distP_len (bfs_isK hstep hR (hB.isK hstep hsK _ (List.mem_of_getElem? hkey)) (hB.isK hstep hsK)) (hR.dist hB.dist)
    · have hl : W'.blocks.get (W4.next + 1) = _ := (h.fix _ (by omega) (hz _ (by omega))).2.trans hlp
      obtain ⟨a, b, ha, hb, rfl⟩ := hB.isK (isK := IsP N N') hstep hsK key (List.mem_of_getElem? hkey)
      have hnx := h.next
      have hilt : i < keys.length := (List.getElem?_eq_some_iff.1 hkey).1
      refine ⟨_, _, _, _, _, _, _, _, _, _, (t.set 24 (.int .i64 (i : Nat))).set 25 (pr a b), hl, rfl, ?_⟩
      refine wpR ?_
      obtain ⟨W1', e1, e2, e3, e4⟩ := storeVar_own (T := T0) (t := 119) (W := W'.newCells 119 [.int .i64 0, .int .i64 0]) (v := pr a b) (b := W'.next) (o := 0) inf84 rfl (by rw [newCells_get, if_pos rfl]) (by show 0 + 2 ≤ 2; omega) rfl
      have hE1' : Ext W' W1' := ⟨by rw [e2, newCells_next]; omega, fun b hb _ => by rw [e3 b (by omega), newCells_get, if_neg (by omega)]⟩
      have hn1' : W1'.next = W'.next + 1 := e2
      have hk0 : W1'.Has W'.next 0 (.int .i64 (a : Nat)) := ⟨by omega, by simp only [AW.cell, e4, blt_dec]; rfl⟩
      have hk1 : W1'.Has W'.next 1 (.int .i64 (b : Nat)) := ⟨by omega, by simp only [AW.cell, e4, blt_dec]; rfl⟩
      try simp only [wpK_assoc]
      refine wpK_reg (fun R hR => by simp; exact hR) ?_
      refine wpK_reg1 (fun R hR => by simp [opAlloc, zero84, opStore, e1]; exact hR) ?_
      have hl1 : W1'.blocks.get (W4.next + 1) = _ := (hE1'.2 _ (by omega) (fun x => x)).trans hl
      refine ⟨rfl, _, _, _, _, _, _, _, _, hl1, ?_⟩
      have hOb := fun o => setObj_only W1' (W4.next + 1) o
      generalize hbz : (AObj.loop LoopState.busy _ _ _ _ _ _ _ _) = bz
      obtain ⟨Wb, hWb, hObz, hnb⟩ : ∃ Wb, Wb = W1'.setObj (W4.next + 1) bz ∧ Only (fun b => b = W4.next + 1) W1' Wb ∧ Wb.next = W1'.next := ⟨_, rfl, hOb bz, rfl⟩
      have hlb : Wb.blocks.get (W4.next + 1) = some ⟨bz, []⟩ := by rw [hWb, setObj_get, if_pos rfl]
      rw [← hWb]
      clear hWb
      have hcarry : ∀ {q o u}, W'.Has q o u → q ≠ W4.next + 1 → Wb.Has q o u := fun {q o u} hh hq => (hh.ext hE1').only hObz hq
      have hb4 := hcarry (hFix h ((h4c 2 _ rfl).ext hE15) (hc0 _ (by omega))) (by omega)
      have hb7 := hcarry (hFix h ((h7c 2 _ rfl).ext hE15) (hc0 _ (by omega))) (by omega)
      have hga0 := (hM.good a ha)
      have hgb0 := (hM'.good b hb)
      have hga := hcarry (hga0.ext (hOld h)) (by have := hga0.1; omega)
      have hgb := hcarry (hgb0.ext (hOld h)) (by have := hgb0.1; omega)
      have hkb0 := hk0.only hObz (show ¬ W'.next = W4.next + 1 from by omega)
      have hkb1 := hk1.only hObz (show ¬ W'.next = W4.next + 1 from by omega)
      have hA : aIndexAddr T0 119 (.pointer (some ⟨W'.next, 0, none⟩)) (.int .i64 0) = some (.pointer (some ⟨W'.next, 0, none⟩)) := indexAddr_84 W'.next 0 0 .i64 (by omega)
      have hBx : aIndexAddr T0 119 (.pointer (some ⟨W'.next, 0, none⟩)) (.int .i64 1) = some (.pointer (some ⟨W'.next, 1, none⟩)) := indexAddr_84 W'.next 0 1 .i64 (by omega)
      have ha1 := indexAddr_slice (b := gs) (o := 0) (c := c2) (k := .i64) und23 sz4 ha
      have hb1' := indexAddr_slice (b := gs') (o := 0) (c := c2') (k := .i64) und23 sz4 hb
      simp only [Nat.zero_add, Nat.mul_one] at ha1 hb1'
      refine wpK_block1 ?_
      try simp only [wpK_assoc]
      refine wpK_dr (wr := Tr.nil |>.set 26 0 |>.set 27 1 |>.set 28 2 |>.set 29 3 |>.set 30 4 |>.set 31 5 |>.set 32 6 |>.set 33 7 |>.set 34 8 |>.set 35 9 |>.set 36 10 |>.set 37 11 |>.set 38 12) (bits := Tr.nil.lay 0 [0, 1, 0, 4, 15, 31, 0, 64, 0, 256, 960, 1984, 4095]) (ord := [0, 1, 2, 3, 4, 5, 6, 7, 8, 9, 10, 11, 12])
        (J := fun A Wx => A.n = 42 ∧ A.defers = [] ∧ A.tmps.get 8 = some (.pointer (some ⟨W.next + 2, 0, none⟩)) ∧ A.tmps.get 9 = some (.pointer (some ⟨W.next + 3, 0, none⟩)) ∧ A.tmps.get 10 = some (.pointer (some ⟨p10, 0, none⟩)) ∧ A.tmps.get 12 = some (.int .i64 (i : Nat)) ∧
          A.tmps.get 38 = some (.bool (mg a != mg' b)) ∧ Wx = Wb) (by kernel_rfl) (by kernel_rfl) (by kernel_rfl) (fun G hG => ?_) ?_
      · simp [h4, h7, h8, h9, h10, load_ext und23 rfl hb4 (.refl _ _), load_ext und23 rfl hb7 (.refl _ _), load_ext und3 rfl hkb0 (.refl _ _), load_ext und3 rfl hkb1 (.refl _ _), load_ext und4 rfl hga (.refl _ _), load_ext und4 rfl hgb (.refl _ _), hA, hBx, ha1, hb1', aGuard, aBinO, aEq, und4]
        apply hG
        exact ⟨rfl, rfl, by simp [h8], by simp [h9], by simp [h10], by simp, by simp; cases mg a <;> cases mg' b <;> rfl, rfl⟩
      rintro ⟨t', nt', ds'⟩ Wx ⟨hnt', hd', h8', h9', h10', h12', h38', rfl⟩
      simp only at hnt' hd' h8' h9' h10' h12' h38'
      subst hnt'; subst hd'
      by_cases hag : mg a = mg' b
      · -- they agree
        refine wpK_endF (by simp [h38', hag]) (wpK_skip ?_)
        subst hbz
        refine ⟨_, _, _, _, _, _, _, _, _, hlb, .inl ⟨rfl, ⟨by rw [setObj_next]; omega, fun q hq hc => ?_⟩, ⟨hilt, by rw [setObj_next]; omega, fun q hq hc => ?_, fun j k hj hjk => ?_⟩⟩⟩
        · have hc : ¬ col q = 0 := hc
          have hne : q ≠ W4.next + 1 := fun e => hc (by rw [e]; exact (h.fix _ (by omega) (hz _ (by omega))).1)
          rw [setObj_get, if_neg hne, hObz.2 q (by omega) hne, hE1'.2 q hq (fun x => x)]
        · obtain ⟨q1, q2⟩ := h.fix q hq hc
          refine ⟨q1, ?_⟩
          by_cases e : q = W4.next + 1
          · rw [e, setObj_get, if_pos rfl]; exact hlp.symm
          · rw [setObj_get, if_neg e, hObz.2 q (by omega) e, hE1'.2 q (by omega) (fun x => x)]; exact q2
        · by_cases e : j = i
          · rw [e, hkey] at hjk; cases hjk
            show mg (fstP (pr a b)) = mg' (sndP (pr a b))
            rw [fstP_pr, sndP_pr]; exact hag
          · exact h.same j k (by omega) hjk
      · refine wpK_endT (by simp [h38', hag]) ?_
        have hp10b := hcarry (hFix h (hHp10.ext hE35) hcp10) (by omega)
        have hlp10 := load_ext und82 rfl hp10b (.refl _ _)
        have hSb : Srch Wx p m 143 140 119 2 col keys lB lL lN i := (hS'.only (K := fun _ => False) hE1' (fun _ _ _ x => x)).only hObz (fun q _ hq e => by rw [e] at hq; exact hq (h.fix _ (by omega) (hz _ (by omega))).1)
        obtain ⟨hbl1, hbl2, hback⟩ := hB.back
        have hkl : keys.length < 10000 := Nat.lt_of_le_of_lt (distP_len (hB.isK hstep hsK) hB.dist) hNN
        refine wpK_regc (J := fun A W2 => A.defers = [] ∧ ∃ r W7, bytesOf (pathR lB lL keys.length i).reverse = some r ∧ Ext Wx W7 ∧ W2.next = W7.next ∧ W2.Has (W.next + 2) 0 (.string ⟨⟨r⟩⟩) ∧ W2.Has (W.next + 3) 0 (.bool true) ∧ ∀ q, q ≠ W.next + 2 → q ≠ W.next + 3 → W2.blocks.get q = W7.blocks.get q) (fun R hR => ?_) ?_
        · simp [h10', h12', hlp10, aEnter, fun37, short_other, aCallV]
          rw [callS_none]
          refine (word84_wp hSb hback hkl i hilt).mono ?_
          rintro v W7 ⟨hE7, r, rfl, hr⟩
          obtain ⟨c8, hc8⟩ := h8c
          obtain ⟨c9, hc9⟩ := h9c
          have hx8 : W7.blocks.get (W.next + 2) = some ⟨.cells c8 1 9, []⟩ := by
            rw [hE7.2 _ (by omega) (fun x => x), hObz.2 _ (by omega) (by omega), hE1'.2 _ (by omega) (fun x => x), (h.fix _ (by omega) (hc0 _ (by omega))).2, hE15.2 _ (by omega) (fun x => x)]; exact hc8
          have hx9 : W7.blocks.get (W.next + 3) = some ⟨.cells c9 1 4, []⟩ := by
            rw [hE7.2 _ (by omega) (fun x => x), hObz.2 _ (by omega) (by omega), hE1'.2 _ (by omega) (fun x => x), (h.fix _ (by omega) (hc0 _ (by omega))).2, hE15.2 _ (by omega) (fun x => x)]; exact hc9
          obtain ⟨W8, f1, f2, f3, f4⟩ := storeVar_own (T := T0) (t := 9) (W := W7) (v := .string ⟨⟨r⟩⟩) (b := W.next + 2) (o := 0) inf9 rfl hx8 (by show 0 + 1 ≤ 1; omega) rfl
          obtain ⟨W9, j1, j2, j3, j4⟩ := storeVar_own (T := T0) (t := 4) (W := W8) (v := .bool true) (b := W.next + 3) (o := 0) inf4 rfl (by rw [f3 _ (by omega)]; exact hx9) (by show 0 + 1 ≤ 1; omega) rfl
          have hlt7 := hE7.1
          simp [h8', h9', opStore, f1, j1]
          apply hR
          refine ⟨rfl, r, W7, hr, hE7, by omega, ⟨by omega, ?_⟩, ⟨by omega, ?_⟩, fun q hq1 hq2 => by rw [j3 q hq2, f3 q hq1]⟩
          · simp [AW.cell, j3 (W.next + 2) (by omega), f4, blt_dec, Tr.get_lay, acells]
          · simp [AW.cell, j4, blt_dec, Tr.get_lay, acells]
        · rintro ⟨t2, nt2, ds2⟩ W2 ⟨hd2, r, W7, hr, hE7, hn2, hs8, hs9, hfr⟩
          simp only at hd2
          subst hd2
          refine wpK_ret ?_
          subst hbz
          have hlt7 := hE7.1
          have hl2 := (hfr (W4.next + 1) (by omega) (by omega)).trans ((hE7.2 (W4.next + 1) (by omega) (fun x => x)).trans hlb)
          refine ⟨_, _, _, _, _, _, _, _, _, hl2, .inr ⟨rfl, hB, h.same, ⟨pr a b, hkey, ?_⟩, by rw [setObj_next]; omega, ⟨r, hr, hs8.only (setObj_only _ _ _) (by omega)⟩, hs9.only (setObj_only _ _ _) (by omega), fun q hq hc hq8 hq9 hql => ?_, ⟨_, _, _, _, _, _, _, by rw [setObj_get, if_pos rfl]; rfl⟩⟩⟩
          · show ¬ mg (fstP (pr a b)) = mg' (sndP (pr a b))
            rw [fstP_pr, sndP_pr]; exact hag
          · rw [setObj_get, if_neg hql, hfr q hq8 hq9, hE7.2 q (by omega) (fun x => x), hObz.2 q (by omega) hql, hE1'.2 q (by omega) (fun x => x)]
            exact (h.fix q hq hc).2
  refine (all84_wp (fun v h => h.k84) hCaller hS5 hC0).mono ?_
  rintro _ W6 ⟨keys, lB, lL, lN, col, ⟨hB, hS6, hC6⟩ | ⟨i, hD⟩⟩
  · -- all agree
    have hfix6 : ∀ b, b < W5.next → col0 b = 0 → W6.blocks.get b = W5.blocks.get b := fun b hb hc => (hC6.fix b hb hc).2
    have hnx6 := hC6.next
    have hl6 := (hfix6 (W4.next + 1) (by omega) (hz _ (by omega))).trans hlp
    refine ⟨_, _, _, _, _, _, _, _, _, hl6, (fun h => by cases h), ?_⟩
    show WpK T0 ⟨43, none⟩ _ _ _ _
    generalize hex : (AObj.loop LoopState.exhausted _ _ _ _ _ _ _ _) = ex
    obtain ⟨W7, hW7, hO7, hn7⟩ : ∃ W7, W7 = W6.setObj (W4.next + 1) ex ∧ Only (fun b => b = W4.next + 1) W6 W7 ∧ W7.next = W6.next := ⟨_, rfl, setObj_only _ _ _, rfl⟩
    rw [← hW7]
    clear hW7 hex
    obtain ⟨c8, hc8⟩ := h8c
    obtain ⟨c9, hc9⟩ := h9c
    have hx8 : W7.blocks.get (W.next + 2) = some ⟨.cells c8 1 9, []⟩ := by
      rw [hO7.2 _ (by omega) (by omega), hfix6 _ (by omega) (hc0 _ (by omega)), hE15.2 _ (by omega) (fun x => x)]; exact hc8
    have hx9 : W7.blocks.get (W.next + 3) = some ⟨.cells c9 1 4, []⟩ := by
      rw [hO7.2 _ (by omega) (by omega), hfix6 _ (by omega) (hc0 _ (by omega)), hE15.2 _ (by omega) (fun x => x)]; exact hc9
    obtain ⟨W8, f1, f2, f3, f4⟩ := storeVar_own (T := T0) (t := 9) (W := W7) (v := .string ⟨⟨[]⟩⟩) (b := W.next + 2) (o := 0) inf9 rfl hx8 (by show 0 + 1 ≤ 1; omega) rfl
    obtain ⟨W9, j1, j2, j3, j4⟩ := storeVar_own (T := T0) (t := 4) (W := W8) (v := .bool false) (b := W.next + 3) (o := 0) inf4 rfl (by rw [f3 _ (by omega)]; exact hx9) (by show 0 + 1 ≤ 1; omega) rfl
    refine wpK_reg (fun R hR => by simp [h8, h9, opStore, f1, j1]; exact hR) ?_
    have hdf9 : W9.blocks.get W4.next = some ⟨.deferred (some []), []⟩ := by
      rw [j3 _ (by omega), f3 _ (by omega), hO7.2 _ (by omega) (by omega), hfix6 _ (by omega) (hz _ (by omega))]; exact hdf
    have hr8 : aLoadVar T0 (W9.setObj W4.next (.deferred none)) 9 (W.next + 2) 0 = some (.string ⟨⟨[]⟩⟩) := by
      rw [loadVar_cell und9 rfl, AW.cell_of_get (show (W9.setObj W4.next (.deferred none)).blocks.get (W.next + 2) = W8.blocks.get (W.next + 2) from by rw [setObj_get, if_neg (by omega), j3 _ (by omega)])]
      simp [AW.cell, f4, blt_dec, Tr.get_lay, acells]
    have hr9 : aLoadVar T0 (W9.setObj W4.next (.deferred none)) 4 (W.next + 3) 0 = some (.bool false) := by
      rw [loadVar_cell und4 rfl, AW.cell_of_get (show (W9.setObj W4.next (.deferred none)).blocks.get (W.next + 3) = W9.blocks.get (W.next + 3) from by rw [setObj_get, if_neg (by omega)])]
      simp [AW.cell, j4, blt_dec, Tr.get_lay, acells]
    refine wpK_ret ⟨.inr rfl, W9.setObj W4.next (.deferred none), ⟨W4.next, rfl, hdf9, rfl⟩, [.string ⟨⟨[]⟩⟩, .bool false], ?_, ⟨by rw [setObj_next]; omega, fun b hb hx => ?_⟩, _, _, rfl, keys.length, keys, lB, lL, lN, hB, hC6.same, .inl ⟨rfl, rfl, rfl⟩⟩
    · show aResults T0 _ _ [.cell 8 9, .cell 9 4] = _
      simp [h8, h9, hr8, hr9]
    · rw [setObj_get, if_neg (by omega), j3 _ (by omega), f3 _ (by omega), hO7.2 _ (by omega) (by omega), hfix6 _ (by omega) (hc0 _ (by omega))]
      exact hE05.2 b hb hx
  · obtain ⟨hB, hsame, hdiff, hnx6, ⟨r, hr, hs8⟩, hs9, hfr, fn', t', n', ps', as', bd', df', hl6⟩ := hD
    refine ⟨_, _, _, _, _, _, _, _, _, hl6, (fun h => by cases h), ?_⟩
    have hdf6 : (W6.setObj (W4.next + 1) (.loop .exhausted (some .ret) fn' t' n' ps' as' bd' df')).blocks.get W4.next = some ⟨.deferred (some []), []⟩ := by
      rw [setObj_get, if_neg (by omega), hfr _ (by omega) (hz _ (by omega)) (by omega) (by omega) (by omega)]; exact hdf
    have hcar : ∀ {b o u}, W6.Has b o u → b ≠ W4.next + 1 → b ≠ W4.next → ((W6.setObj (W4.next + 1) (.loop .exhausted (some .ret) fn' t' n' ps' as' bd' df')).setObj W4.next (.deferred none)).Has b o u := fun {b o u} hh e1 e2 =>
      (hh.only (setObj_only _ _ _) e1).only (setObj_only _ _ _) e2
    have hr8 := load_ext und9 rfl (hcar hs8 (by omega) (by omega)) (.refl _ _)
    have hr9 := load_ext und4 rfl (hcar hs9 (by omega) (by omega)) (.refl _ _)
    refine ⟨.inr rfl, _, ⟨W4.next, rfl, hdf6, rfl⟩, [.string ⟨⟨r⟩⟩, .bool true], ?_, ⟨by rw [setObj_next, setObj_next]; omega, fun b hb hx => ?_⟩, _, _, rfl, i, keys, lB, lL, lN, hB, hsame, .inr ⟨hdiff, rfl, r, hr, rfl⟩⟩
    · show aResults T0 _ _ [.cell 8 9, .cell 9 4] = _
      simp [h8, h9, hr8, hr9]
    · rw [setObj_get, if_neg (by omega), setObj_get, if_neg (by omega), hfr _ (by omega) (hc0 _ (by omega)) (by omega) (by omega) (by omega)]
      exact hE05.2 b hb hx
end Go.Proofs.Ytnnfobmfffbhaaa

open Go Go.Eng
namespace Go.Proofs.Ytnnfobmfffbhaaa
attribute [local congr] undef_congr WpK.congr WpS.congr WpL.congr WpC.congr WpF.congr gotS.congr callS.congr nextS.congr wantS.congr condS.congr
attribute [local irreducible] WpK
attribute [local simp] WpDr_nil WpDr_cons atS_some dwantS_true dwantS_false kindS_light kindS_float kindS_heavy lightS_value floatS_some heavyS_value heavyS_skip heavyS_enter dcallS_some doneS_eq
  isLight isFloat isPlain dLook testBit_dec dChain dLights_nil dLights_skip dLights_one dLight_nil dLight_cons dFreshes_nil dFreshes_one oneF_none oneF_some dFresh_nil dFresh_cons oneL_some oneW_true oneW_false sameV_value dPut dMay valEq arrEq listEq List.getElem?_cons Tr.get_nil dEnd
attribute [local simp] WpS_nil WpS_cons isDefer undef_false wantS_true wantS_false nextS_value nextS_skip nextS_enter callS_some gotS_some aWanted aOp aEvalF aEval opMove opAssign opPick aVal flat flat1 AAct.put opBinOp opConvert opIndex Tr.get_set Tr.get_lay aBin aResults tupled
  aCall aVals aCallB blt_dec ble_dec beq_dec aBinI_add aBinI_sub aBinI_lss aBinI_leq aBinI_gtr aBinI_geq aBinI_eql aBinI_neq index_str len_str len_slice Nat.beq_refl und3 und37 und5 und9
  opBox opLoad opFieldAddr opIndexAddr acells aAddr field25 und22 und23 und43 und4 und28
attribute [local simp] field31 conv_3_5 conv_3_37 conv_37_3 conv_5_3
set_option maxHeartbeats 4000000
attribute [local simp] field57
theorem Bfs.rows {step : Value → Nat → Value} {L : Nat} {start : Value} : ∀ {i : Nat} {keys lB lL lN : List Value}, Bfs step L start i keys lB lL lN → lN.length = 4 * i ∧ ∀ v ∈ lN, ∃ j : Nat, j < keys.length ∧ v = .int .i64 j
  | 0, _, _, _, _, h => by obtain ⟨_, _, _, rfl⟩ := h; exact ⟨rfl, fun v hv => by cases hv⟩
  | i + 1, _, _, _, _, ⟨k0, B0, L0, N0, key, row, h1, h2, h3, h4⟩ => by
    obtain ⟨e, h5⟩ := h1.rows
    subst h4
    refine ⟨by rw [List.length_append, e, h3.len]; omega, fun v hv => ?_⟩
    rcases List.mem_append.1 hv with hv | hv
    · obtain ⟨j, g1, g2⟩ := h5 v hv
      exact ⟨j, Nat.lt_of_lt_of_le g1 h3.grows.1.length_le, g2⟩
    · exact h3.ints (Nat.lt_of_lt_of_le (by simp) h1.pos.length_le) v hv
/-- the machine of the states that are reached -/
def mxOf (lN : List Value) (s x : Nat) : Nat := codeS (lN.getD (s * 4 + x) (.int .i64 0))
def mgOf (gd : Nat → Bool) (keys : List Value) (s : Nat) : Bool := gd (codeS (keys.getD s (.int .i64 0)))
theorem mxOf_lt {step : Value → Nat → Value} {L : Nat} {start : Value} {keys lB lL lN : List Value} (h : Bfs step L start keys.length keys lB lL lN) {s x : Nat} (hs : s < keys.length) (hx : x < 4) : mxOf lN s x < keys.length ∧ lN[s * 4 + x]? = some (.int .i64 (mxOf lN s x : Nat)) := by
  obtain ⟨e, h5⟩ := h.rows
  have hlt : s * 4 + x < lN.length := by omega
  obtain ⟨j, g1, g2⟩ := h5 lN[s * 4 + x] (List.getElem_mem hlt)
  have : mxOf lN s x = j := by
    unfold mxOf
    rw [List.getD_eq_getElem?_getD, List.getElem?_eq_getElem hlt, g2]; rfl
  rw [this]
  exact ⟨g1, by rw [List.getElem?_eq_getElem hlt, g2]⟩
theorem machAt_of {W : AW} {step : Value → Nat → Value} {L bs gs c1 c2 : Nat} {start : Value} {keys lB lL lN : List Value} {gd : Nat → Bool} (h : Bfs step L start keys.length keys lB lL lN) (h1 : ∀ j u, lN[j]? = some u → W.Has bs j u) (h2 : ∀ j k, keys[j]? = some k → W.Has gs j (gdV gd k)) :
    MachAt W L keys.length bs gs c1 c2 (mxOf lN) (mgOf gd keys) := by
  refine ⟨fun s x hs hx => h1 _ _ (mxOf_lt h hs hx).2, fun s hs => ?_⟩
  have := h2 s keys[s] (List.getElem?_eq_getElem hs)
  unfold mgOf
  rw [List.getD_eq_getElem?_getD, List.getElem?_eq_getElem hs]
  exact this

theorem fun13 : T0.funcs.get 20 = some Try.f20 := by kernel_rfl
theorem idx54 (a b : ByteArray) : aIndex T0 45 (.agg ⟨[.string a, .string b]⟩) (.int .i64 0) = some (.string a) ∧ aIndex T0 45 (.agg ⟨[.string a, .string b]⟩) (.int .i64 1) = some (.string b) := ⟨by kernel_rfl, by kernel_rfl⟩
theorem bld54 (a b : ByteArray) : aBuild T0 45 [(0, .string a), (1, .string b)] = some (.agg ⟨[.string a, .string b]⟩) := by kernel_rfl
theorem wordErr_ok {L : Nat} {l : List UInt8} (h : wordErr L l = 0) : ∀ c ∈ l, badB L c = false := by
  intro c hc
  unfold wordErr at h
  split at h
  · cases h
  · rename_i h0
    have := List.any_eq_false.1 (Bool.eq_false_iff.2 h0) c hc
    simpa using this
theorem runN_lt {n L : Nat} {nx : Nat → Nat → Nat} (hnx : ∀ s i, s < n → i < L → nx s i < n) : ∀ (l : List UInt8) (s : Nat), s < n → (∀ c ∈ l, badB L c = false) → runN nx s l < n := by
  intro l
  induction l with
  | nil => intro s hs _; exact hs
  | cons c l ih =>
    intro s hs hb
    have hc := hb c (List.mem_cons_self ..)
    simp only [badB, Bool.or_eq_false_iff, decide_eq_false_iff_not] at hc
    exact ih _ (hnx _ _ hs (by omega)) (fun d hd => hb d (List.mem_cons_of_mem _ hd))
def wordErr2 (L : Nat) (lu lv : List UInt8) : Int := if wordErr L lu = 0 then wordErr L lv else wordErr L lu

/-- what Part answers: the error, or the first word that parts two states of the machine of those that are reached -/
theorem part13_wp (L n bN oN cN bG oG cG : Nat) (nx : Nat → Nat → Nat) (gd : Nat → Bool) (u v : ByteArray) (lu lv : List UInt8) (hlu : u.data.toList = lu) (hlv : v.data.toList = lv) (hlu' : lu.length < 9223372036854775808) (hlv' : lv.length < 9223372036854775808)
    (W : AW) (hN : Rows W bN oN n L nx) (hG : Goods W bG oG n gd) (hL1 : 1 ≤ L) (hL4 : L ≤ 4) (hn : 1 ≤ n) (hn64 : n ≤ 64) (hnx : ∀ s i, s < n → i < L → nx s i < n) :
    WpF T0 20 [autoV L n bN oN cN bG oG cG, .string u, .string v] W (fun r W' => Ext W W' ∧ ∃ w ok, r = .tuple ⟨[.string w, .bool ok, .int .i64 (wordErr2 L lu lv)]⟩ ∧
      (wordErr2 L lu lv ≠ 0 → w = ⟨⟨[]⟩⟩ ∧ ok = false) ∧
      (wordErr2 L lu lv = 0 → ∃ keys lB lL lN, Bfs (stepA L n nx) L (.int .i64 0) keys.length keys lB lL lN ∧
        PartIs (mgOf gd keys) (mgOf gd keys) (stepP keys.length keys.length (mxOf lN) (mxOf lN)) L (pr (runN (mxOf lN) 0 lu : Nat) (runN (mxOf lN) 0 lv : Nat)) w ok)) := by
  refine wpF fun13 rfl ?_
  refine wpK_reg (fun R hR => by simp; exact hR) ?_
  have hE : Ext W (W.newCells 28 [.int .i64 L, .slice (some ⟨bN, oN, none⟩) n cN, .slice (some ⟨bG, oG, none⟩) n cG]) := .newCells _ _ _
  have hb0 : ∀ j u, [Value.int .i64 (L : Nat), .slice (some ⟨bN, oN, none⟩) n cN, .slice (some ⟨bG, oG, none⟩) n cG][j]? = some u → (W.newCells 28 [.int .i64 L, .slice (some ⟨bN, oN, none⟩) n cN, .slice (some ⟨bG, oG, none⟩) n cG]).Has W.next j u := fun j u h => Has.newCells h
  have hat : ∃ k, (W.newCells 28 [.int .i64 L, .slice (some ⟨bN, oN, none⟩) n cN, .slice (some ⟨bG, oG, none⟩) n cG]).blocks.get W.next = some k := ⟨_, by rw [newCells_get, if_pos rfl]⟩
  generalize W.newCells 28 [.int .i64 L, .slice (some ⟨bN, oN, none⟩) n cN, .slice (some ⟨bG, oG, none⟩) n cG] = W₁ at hE hb0 hat
  have hN1 := hN.ext hE
  have hG1 := hG.ext hE
  have hlt : W.next < W₁.next := (hb0 0 _ rfl).1
  have hl0 : ∀ W', Ext W₁ W' → aLoadVar T0 W' 3 W.next 0 = some (.int .i64 L) := fun W' h => load_ext und3 rfl (hb0 0 _ rfl) h
  have hl31 : ∀ W', Ext W₁ W' → aLoadVar T0 W' 28 W.next 0 = some (autoV L n bN oN cN bG oG cG) := fun W' h => by
    refine load31 (cellsAt_of_cells rfl ?_ (fun j hj => ?_) (by omega))
    · obtain ⟨k, hk⟩ := hat
      exact ⟨k, by rw [h.2 _ hlt (fun x => x)]; exact hk⟩
    · rw [Nat.zero_add]
      match j, hj with
      | 0, _ => exact ((hb0 0 _ rfl).ext h).2
      | 1, _ => exact ((hb0 1 _ rfl).ext h).2
      | 2, _ => exact ((hb0 2 _ rfl).ext h).2
  try simp only [wpK_assoc]
  refine wpK_regc (J := fun A' W' => Ext W₁ W' ∧ A'.n = 51 ∧ A'.defers = [] ∧ A'.tmps.get 1 = some (.string u) ∧ A'.tmps.get 2 = some (.string v) ∧ A'.tmps.get 3 = some (.pointer (some ⟨W.next, 0, none⟩)) ∧ A'.tmps.get 9 = some (.int .i64 0)) (fun R hR => ?_) ?_
  · simp [hl31 W₁ (.refl _ _), aEnter, fun15, short_other, aCallV]
    rw [callS_none]
    refine (check_wp L n bN oN cN bG oG cG nx W₁ hN1 hL1 hL4 hn hn64 hnx).mono (fun v W₂ ⟨hE2, hv⟩ => ?_)
    subst hv
    simp
    apply hR
    exact ⟨hE2, rfl, rfl, by simp, by simp, by simp, by simp⟩
  rintro ⟨t, m, ds⟩ W₂ ⟨hE2, hm, hd, h1, h2, h3, h9⟩
  simp only at hm hd h1 h2 h3 h9
  subst hm; subst hd
  try simp only [wpK_assoc]
  refine wpK_reg (fun R hR => by simp [h9]; exact hR) ?_
  refine wpK_onF (by simp) ?_
  try simp only [wpK_assoc]
  refine wpK_reg (fun R hR => by simp [h1, h2, opBuild, aParts, bld54]; exact hR) ?_
  refine wpK_while (I := fun k A W' => Ext W₁ W' ∧ A.n = 51 ∧ A.defers = [] ∧ A.tmps.get 1 = some (.string u) ∧ A.tmps.get 2 = some (.string v) ∧ A.tmps.get 3 = some (.pointer (some ⟨W.next, 0, none⟩)) ∧ A.tmps.get 23 = some (.agg ⟨[.string u, .string v]⟩) ∧
        ((k = 2 ∧ A.tmps.get 24 = some (.int .i64 0)) ∨ (k = 1 ∧ A.tmps.get 24 = some (.int .i64 1) ∧ wordErr L lu = 0) ∨ (k = 0 ∧ A.tmps.get 24 = some (.int .i64 2) ∧ wordErr L lu = 0 ∧ wordErr L lv = 0)))
      (J := fun A W' => Ext W₁ W' ∧ A.n = 51 ∧ A.defers = [] ∧ A.tmps.get 1 = some (.string u) ∧ A.tmps.get 2 = some (.string v) ∧ A.tmps.get 3 = some (.pointer (some ⟨W.next, 0, none⟩)) ∧ wordErr L lu = 0 ∧ wordErr L lv = 0)
      (Rt := fun A W' => Ext W₁ W' ∧ A.defers = [] ∧ wordErr2 L lu lv ≠ 0 ∧ A.tmps.get 6 = some (.string ⟨⟨[]⟩⟩) ∧ A.tmps.get 7 = some (.bool false) ∧ A.tmps.get 8 = some (.int .i64 (wordErr2 L lu lv))) (k := 2) ?_ ?_ ?_ ?_
  · exact ⟨hE2, rfl, rfl, by simp [h1], by simp [h2], by simp [h3], by simp, .inl ⟨rfl, by simp⟩⟩
  · rintro k ⟨t, m, ds⟩ W' ⟨hE', hm, hd, h1, h2, h3, h23, hcase⟩ Q' hJ hRt hI
    simp only at hm hd h1 h2 h3 h23 hcase
    subst hm; subst hd
    try simp only [wpK_assoc]
    rcases hcase with ⟨rfl, h24⟩ | ⟨rfl, h24, hu0⟩ | ⟨rfl, h24, hu0, hv0⟩
    case inr.inr =>
      refine wpK_reg (fun R hR => by simp [h24]; exact hR) ?_
      exact wpK_out (by simp) (hJ _ _ ⟨hE', rfl, rfl, by simp [h1], by simp [h2], by simp [h3], hu0, hv0⟩)
    · refine wpK_reg (fun R hR => by simp [h24]; exact hR) ?_
      refine wpK_onT (by simp) ?_
      refine wpK_block ?_
      try simp only [wpK_assoc]
      refine wpK_reg (fun R hR => by simp [h23, h24, (idx54 u v).1]; exact hR) ?_
      try simp only [wpK_assoc]
      refine wpK_regc (J := fun A W'' => Ext W₁ W'' ∧ A.n = 51 ∧ A.defers = [] ∧ A.tmps.get 1 = some (.string u) ∧ A.tmps.get 2 = some (.string v) ∧ A.tmps.get 3 = some (.pointer (some ⟨W.next, 0, none⟩)) ∧ A.tmps.get 23 = some (.agg ⟨[.string u, .string v]⟩) ∧ A.tmps.get 24 = some (.int .i64 0) ∧ A.tmps.get 12 = some (.int .i64 (wordErr L lu))) (fun R hR => ?_) ?_
      · simp [h3, hl0 W' hE', aEnter, fun16, short_other, aCallV]
        rw [callS_none]
        refine (checkWord_wp L u (by rw [hlu]; exact hlu') W').mono (fun r W'' ⟨g1, g2⟩ => ?_)
        subst g1; subst g2
        simp [hlu]
        apply hR
        exact ⟨hE', rfl, rfl, by simp [h1], by simp [h2], by simp [h3], by simp [h23], by simp [h24], by simp⟩
      rintro ⟨t, m, ds⟩ W'' ⟨hE'', hm, hd, h1, h2, h3, h23, h24, h12⟩
      simp only at hm hd h1 h2 h3 h23 h24 h12
      subst hm; subst hd
      refine wpK_reg (fun R hR => by simp [h12]; exact hR) ?_
      by_cases he : wordErr L lu = 0
      · refine wpK_endF (by simp [he]) (wpK_skip ?_)
        refine wpK_reg1 (fun R hR => by simp [h24]; exact hR) ?_
        exact hI 1 _ _ (by omega) ⟨hE'', rfl, rfl, by simp [h1], by simp [h2], by simp [h3], by simp [h23], .inr (.inl ⟨rfl, by simp; rfl, he⟩)⟩
      · refine wpK_endT (by simp [he]) ?_
        refine wpK_reg (fun R hR => by simp [h12]; exact hR) ?_
        have e2 : wordErr2 L lu lv = wordErr L lu := by unfold wordErr2; rw [if_neg he]
        exact wpK_ret (hRt _ _ ⟨hE'', rfl, by rw [e2]; exact he, by simp, by simp, by rw [e2]; simp⟩)
    · refine wpK_reg (fun R hR => by simp [h24]; exact hR) ?_
      refine wpK_onT (by simp) ?_
      refine wpK_block ?_
      try simp only [wpK_assoc]
      refine wpK_reg (fun R hR => by simp [h23, h24, (idx54 u v).2]; exact hR) ?_
      try simp only [wpK_assoc]
      refine wpK_regc (J := fun A W'' => Ext W₁ W'' ∧ A.n = 51 ∧ A.defers = [] ∧ A.tmps.get 1 = some (.string u) ∧ A.tmps.get 2 = some (.string v) ∧ A.tmps.get 3 = some (.pointer (some ⟨W.next, 0, none⟩)) ∧ A.tmps.get 23 = some (.agg ⟨[.string u, .string v]⟩) ∧ A.tmps.get 24 = some (.int .i64 1) ∧ A.tmps.get 12 = some (.int .i64 (wordErr L lv))) (fun R hR => ?_) ?_
      · simp [h3, hl0 W' hE', aEnter, fun16, short_other, aCallV]
        rw [callS_none]
        refine (checkWord_wp L v (by rw [hlv]; exact hlv') W').mono (fun r W'' ⟨g1, g2⟩ => ?_)
        subst g1; subst g2
        simp [hlv]
        apply hR
        exact ⟨hE', rfl, rfl, by simp [h1], by simp [h2], by simp [h3], by simp [h23], by simp [h24], by simp⟩
      rintro ⟨t, m, ds⟩ W'' ⟨hE'', hm, hd, h1, h2, h3, h23, h24, h12⟩
      simp only at hm hd h1 h2 h3 h23 h24 h12
      subst hm; subst hd
      refine wpK_reg (fun R hR => by simp [h12]; exact hR) ?_
      have e2 : wordErr2 L lu lv = wordErr L lv := by unfold wordErr2; rw [if_pos hu0]
      by_cases he : wordErr L lv = 0
      · refine wpK_endF (by simp [he]) (wpK_skip ?_)
        refine wpK_reg1 (fun R hR => by simp [h24]; exact hR) ?_
        exact hI 0 _ _ (by omega) ⟨hE'', rfl, rfl, by simp [h1], by simp [h2], by simp [h3], by simp [h23], .inr (.inr ⟨rfl, by simp; rfl, hu0, he⟩)⟩
      · refine wpK_endT (by simp [he]) ?_
        refine wpK_reg (fun R hR => by simp [h12]; exact hR) ?_
        exact wpK_ret (hRt _ _ ⟨hE'', rfl, by rw [e2]; exact he, by simp, by simp, by rw [e2]; simp⟩)
  · rintro ⟨t, m, ds⟩ W' ⟨hE', hd, hne, h6, h7, h8⟩
    simp only at hd h6 h7 h8
    subst hd
    exact ⟨.inr rfl, rfl, [.string ⟨⟨[]⟩⟩, .bool false, .int .i64 (wordErr2 L lu lv)], by simp [h6, h7, h8], hE.trans hE', _, _, rfl, fun _ => ⟨rfl, rfl⟩, fun h => absurd h hne⟩
  · rintro ⟨t, m, ds⟩ W' ⟨hE', hm, hd, h1, h2, h3, hu0, hv0⟩
    simp only at hm hd h1 h2 h3
    subst hm; subst hd
    try simp only [wpK_assoc]
    refine wpK_regc (J := fun A W4 => A.n = 51 ∧ A.defers = [] ∧ A.tmps.get 1 = some (.string u) ∧ A.tmps.get 2 = some (.string v) ∧ Ext W₁ W4 ∧ ∃ pm keys lB lL lN bs gs c1 c2, A.tmps.get 13 = some (.pointer (some ⟨pm, 0, none⟩)) ∧ Bfs (stepA L n nx) L (.int .i64 0) keys.length keys lB lL lN ∧
        (∀ W', Ext W4 W' → aLoadVar T0 W' 69 pm 0 = some (machV L keys.length bs gs c1 c2)) ∧ MachAt W4 L keys.length bs gs c1 c2 (mxOf lN) (mgOf gd keys)) (fun R hR => ?_) ?_
    · simp [h3, hl31 W' hE', aEnter, fun22, short_other, aCallV]
      rw [callS_none]
      refine (reached_wp L n bN oN cN bG oG cG nx gd W' (hN1.ext hE') (hG1.ext hE') hL1 hL4 hn hn64 hnx).mono ?_
      rintro r W3 ⟨hE3, keys, lB, lL, lN, bs, gs, c1, c2, hB, rfl, hr1, hr2⟩
      obtain ⟨W4, s1, s2, s3, s4⟩ := storeVar_own (T := T0) (t := 69) (W := W3.newCells 69 [.int .i64 0, .slice none 0 0, .slice none 0 0]) (v := machV L keys.length bs gs c1 c2) (b := W3.next) (o := 0) inf57 rfl (by rw [newCells_get, if_pos rfl]) (by show 0 + 3 ≤ 3; omega) rfl
      simp [opAlloc, zero57, opStore, s1]
      apply hR
      have hE4 : Ext W3 W4 := ⟨by rw [s2, newCells_next]; omega, fun b hb _ => by rw [s3 b (by omega), newCells_get, if_neg (by omega)]⟩
      have hn4 : W3.next < W4.next := by rw [s2, newCells_next]; omega
      refine ⟨rfl, rfl, by simp [h1], by simp [h2], (hE'.trans hE3).trans hE4, W3.next, keys, lB, lL, lN, bs, gs, c1, c2, by simp, hB, fun W' h => ?_, (machAt_of hB hr1 hr2).ext hE4⟩
      refine load57 (cells3 (c := ((Tr.nil.lay 0 [.int .i64 0, .slice none 0 0, .slice none 0 0]).lay 0 (acells (machV L keys.length bs gs c1 c2)))) (el := 69) (by rw [h.2 _ hn4 (fun x => x)]; exact s4) (by rw [Tr.get_lay]; rfl) (by rw [Tr.get_lay]; rfl) (by rw [Tr.get_lay]; rfl))
    rintro ⟨t, m, ds⟩ W4 ⟨hm, hd, h1, h2, hE4, pm, keys, lB, lL, lN, bs, gs, c1, c2, h13, hB, hld, hM⟩
    simp only at hm hd h1 h2 h13
    subst hm; subst hd
    have hkpos : 0 < keys.length := hB.pos.length_le
    have hkn : keys.length ≤ n := distS_len (hB.isK (isK := IsS n) (fun h => stepA_is (by omega) hnx h) ⟨0, by omega, rfl⟩) hB.dist
    have hmx : ∀ s x, s < keys.length → x < 4 → mxOf lN s x < keys.length := fun s x hs hx => (mxOf_lt hB hs hx).1
    have hkk : keys.length * keys.length < 10000 := by
      have : keys.length * keys.length ≤ 64 * 64 := Nat.mul_le_mul (by omega) (by omega)
      omega
    have hru := runN_lt (L := L) (fun s i hs hi => hmx s i hs (by omega)) lu 0 hkpos (wordErr_ok hu0)
    have hrv := runN_lt (L := L) (fun s i hs hi => hmx s i hs (by omega)) lv 0 hkpos (wordErr_ok hv0)
    have hvM : valEq (machV L keys.length bs gs c1 c2) (machV L keys.length bs gs c1 c2) = true := by simp [valEq, arrEq, listEq]
    try simp only [wpK_assoc]
    refine wpK_dr (wr := Tr.nil |>.set 38 0 |>.set 39 1 |>.set 40 2 |>.set 41 3 |>.set 42 4 |>.set 43 5 |>.set 44 6 |>.set 45 7 |>.set 46 8 |>.set 37 9 |>.set 47 10 |>.set 48 11 |>.set 14 12 |>.set 15 13) (bits := Tr.nil.lay 0 [0, 0, 0, 6, 0, 0, 62, 0, 255, 511, 1023, 1023, 2047, 8191]) (ord := [0, 1, 2, 3, 4, 5, 6, 7, 8, 9, 10, 11, 12, 13])
      (J := fun A W' => A.n = 51 ∧ A.defers = [] ∧ Ext W4 W' ∧ ∃ w ok, A.tmps.get 14 = some (.string w) ∧ A.tmps.get 15 = some (.bool ok) ∧ PartIs (mgOf gd keys) (mgOf gd keys) (stepP keys.length keys.length (mxOf lN) (mxOf lN)) L (pr (runN (mxOf lN) 0 lu : Nat) (runN (mxOf lN) 0 lv : Nat)) w ok)
      (by kernel_rfl) (by kernel_rfl) (by kernel_rfl) (fun G hG' => ?_) ?_
    · simp [h1, h2, h13, hld W4 (.refl _ _), hvM, aEnter, fun24, short_other, aCallV]
      rw [dcallS_none]
      refine (run24_wp L keys.length bs gs c1 c2 (mxOf lN) (mgOf gd keys) 0 u lu hlu hlu' W4 hM hL4 hkpos hmx (wordErr_ok hu0)).mono ?_
      rintro r W5 ⟨hE5, rfl⟩
      simp [h1, h2, h13, hld W4 (.refl _ _), hld W5 hE5, hE5.1, hvM, aEnter, fun24, short_other, aCallV]
      rw [dcallS_none]
      refine (run24_wp L keys.length bs gs c1 c2 (mxOf lN) (mgOf gd keys) 0 v lv hlv hlv' W5 (hM.ext hE5) hL4 hkpos hmx (wordErr_ok hv0)).mono ?_
      rintro r W6 ⟨hE6, rfl⟩
      simp [h1, h2, h13, hld W4 (.refl _ _), hld W5 hE5, hld W6 (hE5.trans hE6), hE5.1, hE6.1, hvM, aEnter, fun23, short_other, aCallV]
      rw [dcallS_none]
      refine (part_wp L keys.length bs gs c1 c2 keys.length bs gs c1 c2 L (mxOf lN) (mxOf lN) (mgOf gd keys) (mgOf gd keys) (runN (mxOf lN) 0 lu) (runN (mxOf lN) 0 lv) W6 ((hM.ext hE5).ext hE6) ((hM.ext hE5).ext hE6) hL4 hru hrv hkk hmx hmx).mono ?_
      rintro r W7 ⟨hE7, w, ok, rfl, hP⟩
      simp [h1, h2, h13, hld W4 (.refl _ _), hld W5 hE5, hld W6 (hE5.trans hE6), hld W7 ((hE5.trans hE6).trans hE7), hE5.1, hE6.1, hE7.1, hvM, opExtract, aExtract]
      apply hG'
      exact ⟨rfl, rfl, (hE5.trans hE6).trans hE7, w, ok, by simp, by simp, hP⟩
    · rintro ⟨t, m, ds⟩ W5 ⟨hm, hd, hE5, w, ok, h14, h15, hP⟩
      simp only at hm hd h14 h15
      subst hm; subst hd
      refine wpK_reg (fun R hR => by simp [h14, h15]; exact hR) ?_
      have e0 : wordErr2 L lu lv = 0 := by unfold wordErr2; rw [if_pos hu0]; exact hv0
      exact wpK_ret ⟨.inr rfl, rfl, [.string w, .bool ok, .int .i64 (wordErr2 L lu lv)], by simp [e0], (hE.trans hE4).trans hE5, w, ok, rfl, fun h => absurd e0 h, fun _ => ⟨keys, lB, lL, lN, hB, hP⟩⟩
end Go.Proofs.Ytnnfobmfffbhaaa

open Go Go.Eng
namespace Go.Proofs.Ytnnfobmfffbhaaa
attribute [local congr] undef_congr WpK.congr WpS.congr WpL.congr WpC.congr WpF.congr gotS.congr callS.congr nextS.congr wantS.congr condS.congr
attribute [local irreducible] WpK
attribute [local simp] WpDr_nil WpDr_cons atS_some dwantS_true dwantS_false kindS_light kindS_float kindS_heavy lightS_value floatS_some heavyS_value heavyS_skip heavyS_enter dcallS_some doneS_eq
  isLight isFloat isPlain dLook testBit_dec dChain dLights_nil dLights_skip dLights_one dLight_nil dLight_cons dFreshes_nil dFreshes_one oneF_none oneF_some dFresh_nil dFresh_cons oneL_some oneW_true oneW_false sameV_value dPut dMay valEq arrEq listEq List.getElem?_cons Tr.get_nil dEnd
attribute [local simp] WpS_nil WpS_cons isDefer undef_false wantS_true wantS_false nextS_value nextS_skip nextS_enter callS_some gotS_some aWanted aOp aEvalF aEval opMove opAssign opPick aVal flat flat1 AAct.put opBinOp opConvert opIndex Tr.get_set Tr.get_lay aBin aResults tupled
  aCall aVals aCallB blt_dec ble_dec beq_dec aBinI_add aBinI_sub aBinI_lss aBinI_leq aBinI_gtr aBinI_geq aBinI_eql aBinI_neq index_str len_str len_slice Nat.beq_refl und3 und37 und5 und9
  opBox opLoad opFieldAddr opIndexAddr acells aAddr field25 und22 und23 und43 und4 und28
attribute [local simp] field31 conv_3_5 conv_3_37 conv_37_3 conv_5_3
set_option maxHeartbeats 4000000
/-! ### where the letters lead in the numbers of a search -/
theorem RowI.get {step : Value → Nat → Value} {key : Value} {i : Nat} : ∀ {X : Nat} {keys lB lL row keys' lB' lL' : List Value}, RowI step key i X keys lB lL row keys' lB' lL' → X ≤ 4 → ∀ x, x < X → ∃ j : Nat, row[x]? = some (.int .i64 (j : Nat)) ∧ ∃ k, keys'[j]? = some k ∧ keyEq (step key x) k = true
  | 0, _, _, _, _, _, _, _, _, _, x, hx => by omega
  | X + 1, _, _, _, _, _, _, _, ⟨r1, k1, B1, L1, j, h1, h2, h3⟩, hX, x, hx => by
    subst h3
    by_cases e : x = X
    · subst e
      obtain ⟨_, ⟨k, g1, g2⟩, _⟩ := h2
      exact ⟨j, by rw [List.getElem?_set_self (by rw [h1.len]; omega)], k, g1, g2⟩
    · obtain ⟨j', g1, k, g2, g3⟩ := h1.get (by omega) x (by omega)
      refine ⟨j', by rw [List.getElem?_set_ne (by omega)]; exact g1, k, ?_, g3⟩
      obtain ⟨r, hr⟩ := h2.grows.1
      rw [← hr, List.getElem?_append_left (List.getElem?_eq_some_iff.1 g2).1]; exact g2
theorem Bfs.get {step : Value → Nat → Value} {L : Nat} (hL : L ≤ 4) {start : Value} : ∀ {i : Nat} {keys lB lL lN : List Value}, Bfs step L start i keys lB lL lN → ∀ s, s < i → ∃ key, keys[s]? = some key ∧ ∀ x, x < L → ∃ j : Nat, lN[s * 4 + x]? = some (.int .i64 (j : Nat)) ∧ ∃ k, keys[j]? = some k ∧ keyEq (step key x) k = true
  | 0, _, _, _, _, _, s, hs => by omega
  | i + 1, _, _, _, _, ⟨k0, B0, L0, N0, key, row, h1, h2, h3, h4⟩, s, hs => by
    subst h4
    obtain ⟨r, hr⟩ := h3.grows.1
    have hlen := h1.rows.1
    by_cases e : s = i
    · subst e
      refine ⟨key, by rw [← hr, List.getElem?_append_left (List.getElem?_eq_some_iff.1 h2).1]; exact h2, fun x hx => ?_⟩
      obtain ⟨j, g1, k, g2, g3⟩ := h3.get hL x hx
      exact ⟨j, by rw [List.getElem?_append_right (by omega), show s * 4 + x - N0.length = x from by omega]; exact g1, k, g2, g3⟩
    · obtain ⟨key', g0, g⟩ := h1.get hL s (by omega)
      refine ⟨key', by rw [← hr, List.getElem?_append_left (List.getElem?_eq_some_iff.1 g0).1]; exact g0, fun x hx => ?_⟩
      obtain ⟨j, g1, k, g2, g3⟩ := g x hx
      exact ⟨j, by rw [List.getElem?_append_left (List.getElem?_eq_some_iff.1 g1).1]; exact g1, k, by rw [← hr, List.getElem?_append_left (List.getElem?_eq_some_iff.1 g2).1]; exact g2, g3⟩

theorem key3_eq {a b : Nat} (h : keyEq (.int .i64 (a : Nat)) (.int .i64 (b : Nat)) = true) : a = b := by
  have h : key1Eq (.int .i64 (Int.ofNat a)) (.int .i64 (Int.ofNat b)) = true := h
  exact Nat.eq_of_beq_eq_true h
theorem key84_eq {a b c d : Nat} (h : keyEq (pr a b) (pr c d) = true) : a = c ∧ b = d := by
  have h : keysEq [.int .i64 (Int.ofNat a), .int .i64 (Int.ofNat b)] [.int .i64 (Int.ofNat c), .int .i64 (Int.ofNat d)] = true := h
  simp only [keysEq] at h
  split at h
  · rename_i h1
    split at h
    · rename_i h2
      exact ⟨Nat.eq_of_beq_eq_true h1, Nat.eq_of_beq_eq_true h2⟩
    · cases h
  · cases h

/-- the machine of the reached states is the automaton, but for its numbers -/
structure Num (L n N : Nat) (nx : Nat → Nat → Nat) (gd : Nat → Bool) (mx : Nat → Nat → Nat) (mg : Nat → Bool) (φ : Nat → Nat) : Prop where
  lt : ∀ i, i < N → φ i < n
  mlt : ∀ i x, i < N → x < 4 → mx i x < N
  step : ∀ i x, i < N → x < L → φ (mx i x) = nx (φ i) x
  good : ∀ i, i < N → mg i = gd (φ i)
  inj : ∀ i j, i < N → j < N → φ i = φ j → i = j
  zero : 0 < N ∧ φ 0 = 0
theorem num_of {L n : Nat} {nx : Nat → Nat → Nat} {gd : Nat → Bool} {keys lB lL lN : List Value} (hL : L ≤ 4) (hn : 0 < n) (hnx : ∀ s i, s < n → i < L → nx s i < n) (h : Bfs (stepA L n nx) L (.int .i64 0) keys.length keys lB lL lN) :
    Num L n keys.length nx gd (mxOf lN) (mgOf gd keys) (fun i => codeS (keys.getD i (.int .i64 0))) := by
  have hS : ∀ k ∈ keys, IsS n k := h.isK (isK := IsS n) (fun h => stepA_is hn hnx h) ⟨0, hn, rfl⟩
  have hat : ∀ i, i < keys.length → ∃ s, s < n ∧ keys[i]? = some (.int .i64 (s : Nat)) ∧ codeS (keys.getD i (.int .i64 0)) = s := fun i hi => by
    have hk : keys[i]? = some keys[i] := List.getElem?_eq_getElem hi
    obtain ⟨s, h1, h2⟩ := hS keys[i] (List.getElem_mem hi)
    rw [h2] at hk
    exact ⟨s, h1, hk, by rw [List.getD_eq_getElem?_getD, hk]; rfl⟩
  refine ⟨fun i hi => ?_, fun i x hi hx => (mxOf_lt h hi hx).1, fun i x hi hx => ?_, fun i hi => rfl, fun i j hi hj e => ?_, h.pos.length_le, ?_⟩
  · obtain ⟨s, h1, _, h3⟩ := hat i hi
    show codeS _ < n
    rw [h3]; exact h1
  · obtain ⟨s, h1, h2, h3⟩ := hat i hi
    obtain ⟨key, g0, g⟩ := h.get hL i hi
    rw [h2] at g0; cases g0
    obtain ⟨j, g1, k, g2, g3⟩ := g x hx
    obtain ⟨q1, q2⟩ := mxOf_lt h hi (show x < 4 by omega)
    rw [q2] at g1
    simp only [Option.some.injEq, Value.int.injEq, true_and] at g1
    have hj : mxOf lN i x = j := by omega
    obtain ⟨s', h1', h2', h3'⟩ := hat (mxOf lN i x) q1
    show codeS (keys.getD (mxOf lN i x) _) = nx (codeS (keys.getD i _)) x
    rw [h3, h3']
    rw [hj] at h2'
    rw [h2'] at g2; cases g2
    rw [stepA_eq h1 hx] at g3
    exact (key3_eq g3).symm
  · obtain ⟨s, h1, h2, h3⟩ := hat i hi
    obtain ⟨s', h1', h2', h3'⟩ := hat j hj
    have e : codeS (keys.getD i _) = codeS (keys.getD j _) := e
    rw [h3, h3'] at e
    subst e
    have hd := h.dist
    unfold Dist at hd
    rw [List.pairwise_iff_getElem] at hd
    rcases Nat.lt_trichotomy i j with hlt | hlt | hlt
    · have := hd i j hi hj hlt
      rw [(List.getElem?_eq_some_iff.1 h2).2, (List.getElem?_eq_some_iff.1 h2').2, key3_self] at this; cases this
    · exact hlt
    · have := hd j i hj hi hlt
      rw [(List.getElem?_eq_some_iff.1 h2).2, (List.getElem?_eq_some_iff.1 h2').2, key3_self] at this; cases this
  · show codeS (keys.getD 0 _) = 0
    obtain ⟨r, hr⟩ := h.pos
    rw [← hr]; rfl
theorem Num.run {L n N : Nat} {nx : Nat → Nat → Nat} {gd : Nat → Bool} {mx : Nat → Nat → Nat} {mg : Nat → Bool} {φ : Nat → Nat} (h : Num L n N nx gd mx mg φ) (hL : L ≤ 4) : ∀ (l : List UInt8) (i : Nat), i < N → (∀ c ∈ l, badB L c = false) → φ (runN mx i l) = runN nx (φ i) l ∧ runN mx i l < N
  | [], i, hi, _ => ⟨rfl, hi⟩
  | c :: l, i, hi, hb => by
    have hc := hb c (List.mem_cons_self ..)
    simp only [badB, Bool.or_eq_false_iff, decide_eq_false_iff_not] at hc
    have := h.run hL l (mx i (c.toNat - 97)) (h.mlt i _ hi (by omega)) (fun d hd => hb d (List.mem_cons_of_mem _ hd))
    rw [h.step i _ hi (by omega)] at this
    exact this
end Go.Proofs.Ytnnfobmfffbhaaa

open Go Go.Eng
namespace Go.Proofs.Ytnnfobmfffbhaaa
attribute [local congr] undef_congr WpK.congr WpS.congr WpL.congr WpC.congr WpF.congr gotS.congr callS.congr nextS.congr wantS.congr condS.congr
attribute [local irreducible] WpK
attribute [local simp] WpDr_nil WpDr_cons atS_some dwantS_true dwantS_false kindS_light kindS_float kindS_heavy lightS_value floatS_some heavyS_value heavyS_skip heavyS_enter dcallS_some doneS_eq
  isLight isFloat isPlain dLook testBit_dec dChain dLights_nil dLights_skip dLights_one dLight_nil dLight_cons dFreshes_nil dFreshes_one oneF_none oneF_some dFresh_nil dFresh_cons oneL_some oneW_true oneW_false sameV_value dPut dMay valEq arrEq listEq List.getElem?_cons Tr.get_nil dEnd
attribute [local simp] WpS_nil WpS_cons isDefer undef_false wantS_true wantS_false nextS_value nextS_skip nextS_enter callS_some gotS_some aWanted aOp aEvalF aEval opMove opAssign opPick aVal flat flat1 AAct.put opBinOp opConvert opIndex Tr.get_set Tr.get_lay aBin aResults tupled
  aCall aVals aCallB blt_dec ble_dec beq_dec aBinI_add aBinI_sub aBinI_lss aBinI_leq aBinI_gtr aBinI_geq aBinI_eql aBinI_neq index_str len_str len_slice Nat.beq_refl und3 und37 und5 und9
  opBox opLoad opFieldAddr opIndexAddr acells aAddr field25 und22 und23 und43 und4 und28
attribute [local simp] field31 conv_3_5 conv_3_37 conv_37_3 conv_5_3
set_option maxHeartbeats 4000000
/-! ### a search by pairs of states, with the words that lead to them -/
def radd (l : List (Nat × Nat × List UInt8)) (s t : Nat) (w : List UInt8) : List (Nat × Nat × List UInt8) :=
  if l.any (fun e => e.1 == s && e.2.1 == t) = true then l else l ++ [(s, t, w)]
def rrow (nx nx' : Nat → Nat → Nat) (e : Nat × Nat × List UInt8) : Nat → List (Nat × Nat × List UInt8) → List (Nat × Nat × List UInt8)
  | 0, l => l
  | x + 1, l => radd (rrow nx nx' e x l) (nx e.1 x) (nx' e.2.1 x) (e.2.2 ++ [UInt8.ofNat (97 + x)])
def rb (nx nx' : Nat → Nat → Nat) (L S T : Nat) : Nat → List (Nat × Nat × List UInt8)
  | 0 => [(S, T, [])]
  | i + 1 => match (rb nx nx' L S T i)[i]? with
    | some e => rrow nx nx' e L (rb nx nx' L S T i)
    | none => rb nx nx' L S T i

theorem bytesOf_append : ∀ {l m : List Value} {r s : List UInt8}, bytesOf l = some r → bytesOf m = some s → bytesOf (l ++ m) = some (r ++ s)
  | [], _, _, _, h, h' => by cases h; simpa using h'
  | v :: l, m, r, s, h, h' => by
    cases v with
    | int k n =>
      cases k with
      | u8 =>
        simp only [bytesOf] at h
        cases hb : bytesOf l with
        | none => rw [hb] at h; cases h
        | some q =>
          rw [hb] at h; cases h
          show bytesOf (.int .u8 n :: (l ++ m)) = _
          simp only [bytesOf, bytesOf_append hb h']
          rfl
      | _ => simp [bytesOf] at h
    | _ => simp [bytesOf] at h

theorem pathR_step {lB lL : List Value} {f i : Nat} {k : Nat} (h : lB[i]? = some (.int .i64 (k : Nat))) : pathR lB lL (f + 1) i = lL[i]?.toList ++ pathR lB lL f k := by
  show (match lB[i]? with | some (.int _ (.ofNat k)) => lL[i]?.toList ++ pathR lB lL f k | _ => []) = _
  rw [h]
theorem pathR_end {lB lL : List Value} {f i : Nat} (h : lB[i]? = some (.int .i64 (-1))) : pathR lB lL f i = [] := by
  cases f with
  | zero => rfl
  | succ f => simp only [pathR, h]
/-- how far one looks does not matter -/
theorem pathR_fuel {keys lB lL : List Value} (hb : Back keys lB lL) : ∀ (i f g : Nat), i < keys.length → i < f → i < g → pathR lB lL f i = pathR lB lL g i := by
  intro i
  induction i using Nat.strongRecOn with
  | _ i ih =>
    intro f g hi hf hg
    obtain ⟨k, hk, hk1, hk2⟩ := hb.bef i hi
    by_cases hneg : k = -1
    · subst hneg; rw [pathR_end hk, pathR_end hk]
    · obtain ⟨j, rfl⟩ : ∃ j : Nat, k = j := ⟨k.toNat, by omega⟩
      cases f with
      | zero => omega
      | succ f =>
        cases g with
        | zero => omega
        | succ g => rw [pathR_step hk, pathR_step hk, ih j (by omega) f g (by omega) (by omega) (by omega)]
/-- .. nor what comes later -/
theorem pathR_grow {keys lB lL lB' lL' : List Value} (hb : Back keys lB lL) (hB : keys.length = lB.length) (hL : keys.length = lL.length) (h1 : lB <+: lB') (h2 : lL <+: lL') : ∀ (i f : Nat), i < keys.length → pathR lB' lL' f i = pathR lB lL f i := by
  intro i
  induction i using Nat.strongRecOn with
  | _ i ih =>
    intro f hi
    obtain ⟨rB, rfl⟩ := h1
    obtain ⟨rL, rfl⟩ := h2
    obtain ⟨k, hk, hk1, hk2⟩ := hb.bef i hi
    have hk' : (lB ++ rB)[i]? = some (.int .i64 k) := by rw [List.getElem?_append_left (by omega)]; exact hk
    by_cases hneg : k = -1
    · subst hneg; rw [pathR_end hk, pathR_end hk']
    · obtain ⟨j, rfl⟩ : ∃ j : Nat, k = j := ⟨k.toNat, by omega⟩
      cases f with
      | zero => rfl
      | succ f => rw [pathR_step hk, pathR_step hk', ih j (by omega) f (by omega), List.getElem?_append_left (by omega)]

/-- the lists of a search by numbers, and those of one by states, say the same -/
structure Sim (N N' : Nat) (φ φ' : Nat → Nat) (keys lB lL : List Value) (l : List (Nat × Nat × List UInt8)) : Prop where
  len : l.length = keys.length
  at_ : ∀ q, q < keys.length → ∃ i j w, i < N ∧ j < N' ∧ keys[q]? = some (pr (i : Nat) (j : Nat)) ∧ l[q]? = some (φ i, φ' j, w) ∧ bytesOf (pathR lB lL (q + 1) q).reverse = some w

theorem sim_found {L n N n' N' : Nat} {nx nx' : Nat → Nat → Nat} {gd gd' : Nat → Bool} {mx mx' : Nat → Nat → Nat} {mg mg' : Nat → Bool} {φ φ' : Nat → Nat} (hm : Num L n N nx gd mx mg φ) (hm' : Num L n' N' nx' gd' mx' mg' φ')
    {keys lB lL keys' lB' lL' : List Value} {l : List (Nat × Nat × List UInt8)} {i0 i j x q : Nat} {w : List UInt8} (hs : Sim N N' φ φ' keys lB lL l) (hb : Back keys lB lL) (hB : keys.length = lB.length) (hL : keys.length = lL.length)
    (hi0 : i0 < keys.length) (hk0 : keys[i0]? = some (pr (i : Nat) (j : Nat))) (hl0 : l[i0]? = some (φ i, φ' j, w)) (hi : i < N) (hj : j < N') (hx : x < L) (hL4 : L ≤ 4)
    (hF : Found keys lB lL (stepP N N' mx mx' (pr (i : Nat) (j : Nat)) x) i0 (97 + x) keys' lB' lL' q) :
    Sim N N' φ φ' keys' lB' lL' (radd l (nx (φ i) x) (nx' (φ' j) x) (w ++ [UInt8.ofNat (97 + x)])) := by
  rw [stepP_eq hi hj (by omega)] at hF
  have h1 := hm.step i x hi hx
  have h2 := hm'.step j x hj hx
  have hmi := hm.mlt i x hi (by omega)
  have hmj := hm'.mlt j x hj (by omega)
  obtain ⟨hq, ⟨k, hk1, hk2⟩, hcase⟩ := hF
  rcases hcase with ⟨rfl, rfl, rfl⟩ | ⟨rfl, hnew, rfl, rfl, rfl⟩
  · -- it is known
    obtain ⟨i', j', w', hi', hj', g1, g2, _⟩ := hs.at_ q hq
    rw [g1] at hk1; cases hk1
    obtain ⟨rfl, rfl⟩ := key84_eq hk2
    have hany : l.any (fun e => e.1 == nx (φ i) x && e.2.1 == nx' (φ' j) x) = true := by
      rw [List.any_eq_true]
      refine ⟨_, List.mem_of_getElem? g2, ?_⟩
      simp only [h1, h2, beq_self_eq_true, Bool.and_self]
    unfold radd
    rw [if_pos hany]
    exact hs
  · have hany : ¬ (l.any (fun e => e.1 == nx (φ i) x && e.2.1 == nx' (φ' j) x) = true) := by
      intro h
      obtain ⟨e, he, hee⟩ := List.any_eq_true.1 h
      obtain ⟨p, hp, hpe⟩ := List.getElem_of_mem he
      have hpk : p < keys.length := by rw [← hs.len]; exact hp
      obtain ⟨i', j', w', hi', hj', g1, g2, _⟩ := hs.at_ p hpk
      rw [List.getElem?_eq_getElem hp, hpe] at g2
      cases g2
      simp only [Bool.and_eq_true, beq_iff_eq] at hee
      have e1 := hm.inj i' (mx i x) hi' hmi (by rw [hee.1, h1])
      have e2 := hm'.inj j' (mx' j x) hj' hmj (by rw [hee.2, h2])
      subst e1; subst e2
      have := hnew _ (List.mem_of_getElem? g1)
      rw [key84_self] at this; cases this
    unfold radd
    rw [if_neg hany]
    refine ⟨by simp [hs.len], fun p hp => ?_⟩
    by_cases hlt : p < keys.length
    · obtain ⟨i', j', w', hi', hj', g1, g2, g3⟩ := hs.at_ p hlt
      refine ⟨i', j', w', hi', hj', by rw [List.getElem?_append_left hlt]; exact g1, by rw [List.getElem?_append_left (by rw [hs.len]; exact hlt)]; exact g2, ?_⟩
      rw [pathR_grow hb hB hL (List.prefix_append _ _) (List.prefix_append _ _) p (p + 1) hlt]; exact g3
    · have hp' : p = keys.length := by simp at hp; omega
      subst hp'
      refine ⟨mx i x, mx' j x, w ++ [UInt8.ofNat (97 + x)], hmi, hmj, by simp, by rw [← hs.len]; simp [h1, h2], ?_⟩
      have hlast : (lB ++ [Value.int .i64 (i0 : Nat)])[keys.length]? = some (.int .i64 (i0 : Nat)) := by rw [hB]; simp
      have hlastL : (lL ++ [Value.int .u8 (97 + (x : Int))])[keys.length]? = some (.int .u8 (97 + (x : Int))) := by rw [hL]; simp
      rw [pathR_step hlast, hlastL, pathR_grow hb hB hL (List.prefix_append _ _) (List.prefix_append _ _) i0 _ hi0, pathR_fuel hb i0 keys.length (i0 + 1) hi0 hi0 (by omega)]
      rw [show (some (Value.int .u8 (97 + (x : Int)))).toList = [.int .u8 (97 + (x : Int))] from rfl, List.singleton_append, List.reverse_cons]
      obtain ⟨i', j', w', hi', hj', g1, g2, g3⟩ := hs.at_ i0 hi0
      rw [hl0] at g2
      simp only [Option.some.injEq, Prod.mk.injEq] at g2
      obtain ⟨_, _, rfl⟩ := g2
      refine bytesOf_append g3 ?_
      have e : (97 + (x : Int)).toNat = 97 + x := by omega
      simp only [bytesOf, e]

theorem sim_row {L n N n' N' : Nat} {nx nx' : Nat → Nat → Nat} {gd gd' : Nat → Bool} {mx mx' : Nat → Nat → Nat} {mg mg' : Nat → Bool} {φ φ' : Nat → Nat} (hm : Num L n N nx gd mx mg φ) (hm' : Num L n' N' nx' gd' mx' mg' φ')
    {i0 i j : Nat} {w : List UInt8} (hi : i < N) (hj : j < N') (hL4 : L ≤ 4) : ∀ {x : Nat} {keys lB lL row keys' lB' lL' : List Value} {l : List (Nat × Nat × List UInt8)}, x ≤ L → RowI (stepP N N' mx mx') (pr (i : Nat) (j : Nat)) i0 x keys lB lL row keys' lB' lL' →
      Sim N N' φ φ' keys lB lL l → keys.length = lB.length ∧ keys.length = lL.length ∧ Back keys lB lL → i0 < keys.length → keys[i0]? = some (pr (i : Nat) (j : Nat)) → l[i0]? = some (φ i, φ' j, w) →
      Sim N N' φ φ' keys' lB' lL' (rrow nx nx' (φ i, φ' j, w) x l) ∧ (rrow nx nx' (φ i, φ' j, w) x l)[i0]? = some (φ i, φ' j, w)
  | 0, _, _, _, _, _, _, _, _, _, h, hs, _, _, _, hl0 => by obtain ⟨rfl, rfl, rfl, _⟩ := h; exact ⟨hs, hl0⟩
  | x + 1, keys, lB, lL, _, _, _, _, l, hx, ⟨r1, k1, B1, L1, q, h1, h2, _⟩, hs, hbk, hi0, hk0, hl0 => by
    obtain ⟨ih1, ih2⟩ := sim_row hm hm' hi hj hL4 (by omega) h1 hs hbk hi0 hk0 hl0
    obtain ⟨b1, b2, b3⟩ := h1.back hi0 hbk
    have hle := h1.grows.1
    have hk1 : k1[i0]? = some (pr (i : Nat) (j : Nat)) := by
      obtain ⟨r, rfl⟩ := hle
      rw [List.getElem?_append_left hi0]; exact hk0
    have hF := sim_found hm hm' ih1 b3 b1 b2 (Nat.lt_of_lt_of_le hi0 hle.length_le) hk1 ih2 hi hj (by omega) hL4 h2
    refine ⟨hF, ?_⟩
    show (radd _ _ _ _)[i0]? = _
    unfold radd
    split
    · exact ih2
    · rw [List.getElem?_append_left (List.getElem?_eq_some_iff.1 ih2).1]; exact ih2

theorem sim_bfs {L n N n' N' : Nat} {nx nx' : Nat → Nat → Nat} {gd gd' : Nat → Bool} {mx mx' : Nat → Nat → Nat} {mg mg' : Nat → Bool} {φ φ' : Nat → Nat} (hm : Num L n N nx gd mx mg φ) (hm' : Num L n' N' nx' gd' mx' mg' φ') (hL4 : L ≤ 4)
    {p q : Nat} (hp : p < N) (hq : q < N') : ∀ {i : Nat} {keys lB lL lN : List Value}, Bfs (stepP N N' mx mx') L (pr (p : Nat) (q : Nat)) i keys lB lL lN → Sim N N' φ φ' keys lB lL (rb nx nx' L (φ p) (φ' q) i)
  | 0, _, _, _, _, h => by
    obtain ⟨rfl, rfl, rfl, _⟩ := h
    refine ⟨rfl, fun r hr => ?_⟩
    have : r = 0 := by simpa using hr
    subst this
    exact ⟨p, q, [], hp, hq, rfl, rfl, rfl⟩
  | i + 1, _, _, _, _, ⟨k0, B0, L0, N0, key, row, h1, h2, h3, _⟩ => by
    have ih := sim_bfs hm hm' hL4 hp hq h1
    have hi := (List.getElem?_eq_some_iff.1 h2).1
    obtain ⟨a, b, w, ha, hb, g1, g2, g3⟩ := ih.at_ i hi
    rw [g1] at h2; cases h2
    have := (sim_row hm hm' ha hb hL4 (Nat.le_refl L) h3 ih h1.back hi g1 g2).1
    show Sim N N' φ φ' _ _ _ (match (rb nx nx' L (φ p) (φ' q) i)[i]? with | some e => rrow nx nx' e L (rb nx nx' L (φ p) (φ' q) i) | none => rb nx nx' L (φ p) (φ' q) i)
    rw [g2]
    exact this

/-- what the search by states answers -/
def Parts (gd gd' : Nat → Bool) (nx nx' : Nat → Nat → Nat) (L S T : Nat) (w : List UInt8) (ok : Bool) : Prop :=
  ∃ i, (∀ j e, j < i → (rb nx nx' L S T i)[j]? = some e → gd e.1 = gd' e.2.1) ∧
    ((i = (rb nx nx' L S T i).length ∧ w = [] ∧ ok = false) ∨ (∃ e, (rb nx nx' L S T i)[i]? = some e ∧ gd e.1 ≠ gd' e.2.1 ∧ w = e.2.2 ∧ ok = true))
theorem parts_of {L n N n' N' : Nat} {nx nx' : Nat → Nat → Nat} {gd gd' : Nat → Bool} {mx mx' : Nat → Nat → Nat} {mg mg' : Nat → Bool} {φ φ' : Nat → Nat} (hm : Num L n N nx gd mx mg φ) (hm' : Num L n' N' nx' gd' mx' mg' φ') (hL4 : L ≤ 4)
    {p q : Nat} (hp : p < N) (hq : q < N') {w : ByteArray} {ok : Bool} (h : PartIs mg mg' (stepP N N' mx mx') L (pr (p : Nat) (q : Nat)) w ok) : ∃ r, w = ⟨⟨r⟩⟩ ∧ Parts gd gd' nx nx' L (φ p) (φ' q) r ok := by
  obtain ⟨i, keys, lB, lL, lN, hB, hsame, hcase⟩ := h
  have hs := sim_bfs hm hm' hL4 hp hq hB
  have hagr : ∀ j e, j < keys.length → (rb nx nx' L (φ p) (φ' q) i)[j]? = some e → ∃ k, keys[j]? = some k ∧ (agree mg mg' k ↔ gd e.1 = gd' e.2.1) := fun j e hj he => by
    obtain ⟨a, b, w, ha, hb, g1, g2, _⟩ := hs.at_ j hj
    rw [he] at g2; cases g2
    refine ⟨_, g1, ?_⟩
    show mg (fstP (pr a b)) = mg' (sndP (pr a b)) ↔ _
    rw [fstP_pr, sndP_pr, hm.good a ha, hm'.good b hb]
  have hall : ∀ j e, j < i → (rb nx nx' L (φ p) (φ' q) i)[j]? = some e → gd e.1 = gd' e.2.1 := fun j e hj he => by
    obtain ⟨k, h1, h2⟩ := hagr j e (by rw [← hs.len]; exact (List.getElem?_eq_some_iff.1 he).1) he
    exact h2.1 (hsame j k hj h1)
  rcases hcase with ⟨h1, rfl, rfl⟩ | ⟨⟨k, hk1, hk2⟩, rfl, r, hr, rfl⟩
  · exact ⟨[], rfl, i, hall, .inl ⟨by rw [hs.len]; exact h1, rfl, rfl⟩⟩
  · have hi := (List.getElem?_eq_some_iff.1 hk1).1
    obtain ⟨a, b, w, ha, hb, g1, g2, g3⟩ := hs.at_ i hi
    obtain ⟨k', h1, h2⟩ := hagr i _ hi g2
    rw [hk1] at h1; cases h1
    refine ⟨r, rfl, i, hall, .inr ⟨_, g2, fun e => hk2 (h2.2 e), ?_, rfl⟩⟩
    obtain ⟨_, _, hbk⟩ := hB.back
    rw [pathR_fuel hbk i keys.length (i + 1) hi hi (by omega), g3] at hr
    exact (Option.some.inj hr).symm

/-! there is only one answer -/
theorem radd_pre (l : List (Nat × Nat × List UInt8)) (s t : Nat) (w : List UInt8) : l <+: radd l s t w := by
  unfold radd
  split
  · exact List.prefix_refl _
  · exact List.prefix_append _ _
theorem rrow_pre (nx nx' : Nat → Nat → Nat) (e : Nat × Nat × List UInt8) (l : List (Nat × Nat × List UInt8)) : ∀ x, l <+: rrow nx nx' e x l
  | 0 => List.prefix_refl _
  | x + 1 => (rrow_pre nx nx' e l x).trans (radd_pre _ _ _ _)
theorem rb_pre (nx nx' : Nat → Nat → Nat) (L S T i : Nat) : rb nx nx' L S T i <+: rb nx nx' L S T (i + 1) := by
  show _ <+: (match (rb nx nx' L S T i)[i]? with | some e => rrow nx nx' e L (rb nx nx' L S T i) | none => rb nx nx' L S T i)
  split
  · exact rrow_pre _ _ _ _ _
  · exact List.prefix_refl _
theorem rb_pres (nx nx' : Nat → Nat → Nat) (L S T : Nat) {i j : Nat} (h : i ≤ j) : rb nx nx' L S T i <+: rb nx nx' L S T j := by
  induction h with
  | refl => exact List.prefix_refl _
  | step _ ih => exact ih.trans (rb_pre ..)
theorem rb_stop (nx nx' : Nat → Nat → Nat) (L S T i : Nat) (h : i = (rb nx nx' L S T i).length) {j : Nat} (hj : i ≤ j) : rb nx nx' L S T j = rb nx nx' L S T i := by
  induction hj with
  | refl => rfl
  | @step m hm ih =>
    have hm : i ≤ m := hm
    show (match (rb nx nx' L S T m)[m]? with | some e => rrow nx nx' e L (rb nx nx' L S T m) | none => rb nx nx' L S T m) = _
    rw [ih, List.getElem?_eq_none (by omega)]
theorem parts_one {gd gd' : Nat → Bool} {nx nx' : Nat → Nat → Nat} {L S T : Nat} {w w' : List UInt8} {ok ok' : Bool} (h : Parts gd gd' nx nx' L S T w ok) (h' : Parts gd gd' nx nx' L S T w' ok') : w = w' ∧ ok = ok' := by
  obtain ⟨i, hs, hc⟩ := h
  obtain ⟨j, hs', hc'⟩ := h'
  have key : ∀ {i j : Nat} {w w' : List UInt8} {ok ok' : Bool}, i ≤ j → (∀ q e, q < j → (rb nx nx' L S T j)[q]? = some e → gd e.1 = gd' e.2.1) →
      ((i = (rb nx nx' L S T i).length ∧ w = [] ∧ ok = false) ∨ (∃ e, (rb nx nx' L S T i)[i]? = some e ∧ gd e.1 ≠ gd' e.2.1 ∧ w = e.2.2 ∧ ok = true)) →
      ((j = (rb nx nx' L S T j).length ∧ w' = [] ∧ ok' = false) ∨ (∃ e, (rb nx nx' L S T j)[j]? = some e ∧ gd e.1 ≠ gd' e.2.1 ∧ w' = e.2.2 ∧ ok' = true)) → w = w' ∧ ok = ok' := by
    intro i j w w' ok ok' hij hs' hc hc'
    rcases hc with ⟨h1, rfl, rfl⟩ | ⟨e, h1, h2, rfl, rfl⟩
    · have hst := rb_stop nx nx' L S T i h1 hij
      rcases hc' with ⟨_, rfl, rfl⟩ | ⟨e', g1, _⟩
      · exact ⟨rfl, rfl⟩
      · rw [hst] at g1
        have := (List.getElem?_eq_some_iff.1 g1).1
        omega
    · obtain ⟨r, hr⟩ := rb_pres nx nx' L S T hij
      have he : (rb nx nx' L S T j)[i]? = some e := by rw [← hr, List.getElem?_append_left (List.getElem?_eq_some_iff.1 h1).1]; exact h1
      by_cases e1 : i = j
      · subst e1
        rcases hc' with ⟨g1, _⟩ | ⟨e', g1, _, rfl, rfl⟩
        · have := (List.getElem?_eq_some_iff.1 h1).1; omega
        · rw [h1] at g1; cases g1; exact ⟨rfl, rfl⟩
      · exact absurd (hs' i e (by omega) he) h2
  rcases Nat.le_total i j with hij | hij
  · exact key hij hs' hc hc'
  · obtain ⟨h1, h2⟩ := key hij hs hc' hc
    exact ⟨h1.symm, h2.symm⟩
end Go.Proofs.Ytnnfobmfffbhaaa

open Go Go.Eng
namespace Go.Proofs.Ytnnfobmfffbhaaa
attribute [local congr] undef_congr WpK.congr WpS.congr WpL.congr WpC.congr WpF.congr gotS.congr callS.congr nextS.congr wantS.congr condS.congr
attribute [local irreducible] WpK
attribute [local simp] WpDr_nil WpDr_cons atS_some dwantS_true dwantS_false kindS_light kindS_float kindS_heavy lightS_value floatS_some heavyS_value heavyS_skip heavyS_enter dcallS_some doneS_eq
  isLight isFloat isPlain dLook testBit_dec dChain dLights_nil dLights_skip dLights_one dLight_nil dLight_cons dFreshes_nil dFreshes_one oneF_none oneF_some dFresh_nil dFresh_cons oneL_some oneW_true oneW_false sameV_value dPut dMay valEq arrEq listEq List.getElem?_cons Tr.get_nil dEnd
attribute [local simp] WpS_nil WpS_cons isDefer undef_false wantS_true wantS_false nextS_value nextS_skip nextS_enter callS_some gotS_some aWanted aOp aEvalF aEval opMove opAssign opPick aVal flat flat1 AAct.put opBinOp opConvert opIndex Tr.get_set Tr.get_lay aBin aResults tupled
  aCall aVals aCallB blt_dec ble_dec beq_dec aBinI_add aBinI_sub aBinI_lss aBinI_leq aBinI_gtr aBinI_geq aBinI_eql aBinI_neq index_str len_str len_slice Nat.beq_refl und3 und37 und5 und9
  opBox opLoad opFieldAddr opIndexAddr acells aAddr field25 und22 und23 und43 und4 und28
attribute [local simp] field31 conv_3_5 conv_3_37 conv_37_3 conv_5_3
set_option maxHeartbeats 4000000
/-! ### the lists of a search by pairs of states -/
def codeP (n' : Nat) (e : Nat × Nat × List UInt8) : Nat := e.1 * n' + e.2.1
theorem codeP_inj {n' s t s' t' : Nat} (ht : t < n') (ht' : t' < n') (h : s * n' + t = s' * n' + t') : s = s' ∧ t = t' := by
  have hs : s = s' := by
    rcases Nat.lt_trichotomy s s' with h1 | h1 | h1
    · have : (s + 1) * n' ≤ s' * n' := Nat.mul_le_mul_right _ h1
      rw [Nat.add_mul] at this; omega
    · exact h1
    · have : (s' + 1) * n' ≤ s * n' := Nat.mul_le_mul_right _ h1
      rw [Nat.add_mul] at this; omega
  subst hs
  exact ⟨rfl, by omega⟩
theorem codeP_lt {n n' s t : Nat} (hs : s < n) (ht : t < n') : s * n' + t < n * n' := by
  have : (s + 1) * n' ≤ n * n' := Nat.mul_le_mul_right _ hs
  rw [Nat.add_mul] at this; omega
structure RbOk (n n' m : Nat) (l : List (Nat × Nat × List UInt8)) : Prop where
  rng : ∀ e ∈ l, e.1 < n ∧ e.2.1 < n'
  dist : (l.map (codeP n')).Nodup
  len : ∀ e ∈ l, e.2.2.length ≤ m
theorem any_code {n n' : Nat} {l : List (Nat × Nat × List UInt8)} (h : ∀ e ∈ l, e.1 < n ∧ e.2.1 < n') {s t : Nat} (ht : t < n') : l.any (fun e => e.1 == s && e.2.1 == t) = l.any (fun e => codeP n' e == s * n' + t) := by
  rw [Bool.eq_iff_iff, List.any_eq_true, List.any_eq_true]
  constructor
  · rintro ⟨e, he, h1⟩
    simp only [Bool.and_eq_true, beq_iff_eq] at h1
    exact ⟨e, he, by simp only [codeP, h1.1, h1.2, beq_self_eq_true]⟩
  · rintro ⟨e, he, h1⟩
    simp only [codeP, beq_iff_eq] at h1
    obtain ⟨a, b⟩ := codeP_inj (h e he).2 ht h1
    exact ⟨e, he, by simp only [a, b, beq_self_eq_true, Bool.and_self]⟩
theorem RbOk.add {n n' m : Nat} {l : List (Nat × Nat × List UInt8)} (h : RbOk n n' m l) {s t : Nat} {w : List UInt8} (hs : s < n) (ht : t < n') (hw : w.length ≤ m) : RbOk n n' m (radd l s t w) := by
  unfold radd
  split
  · exact h
  · rename_i hany
    refine ⟨fun e he => ?_, ?_, fun e he => ?_⟩
    · rcases List.mem_append.1 he with he | he
      · exact h.rng e he
      · rw [List.mem_singleton] at he; subst he; exact ⟨hs, ht⟩
    · rw [List.map_append, List.nodup_append]
      refine ⟨h.dist, by simp, fun a ha b hb e => ?_⟩
      simp only [List.map_cons, List.map_nil, List.mem_singleton] at hb
      obtain ⟨x, hx, rfl⟩ := List.mem_map.1 ha
      rw [any_code h.rng ht] at hany
      refine hany (List.any_eq_true.2 ⟨x, hx, ?_⟩)
      rw [beq_iff_eq, e, hb]; rfl
    · rcases List.mem_append.1 he with he | he
      · exact h.len e he
      · rw [List.mem_singleton] at he; subst he; exact hw
theorem RbOk.row {n n' m L : Nat} {nx nx' : Nat → Nat → Nat} (hnx : ∀ s i, s < n → i < L → nx s i < n) (hnx' : ∀ s i, s < n' → i < L → nx' s i < n') {e : Nat × Nat × List UInt8} (he1 : e.1 < n) (he2 : e.2.1 < n') (he3 : e.2.2.length < m) {l : List (Nat × Nat × List UInt8)} (h : RbOk n n' m l) :
    ∀ x, x ≤ L → RbOk n n' m (rrow nx nx' e x l)
  | 0, _ => h
  | x + 1, hx => (RbOk.row hnx hnx' he1 he2 he3 h x (by omega)).add (hnx _ _ he1 (by omega)) (hnx' _ _ he2 (by omega)) (by rw [List.length_append]; simp; omega)
theorem RbOk.mono {n n' m m' : Nat} {l : List (Nat × Nat × List UInt8)} (h : RbOk n n' m l) (hm : m ≤ m') : RbOk n n' m' l := ⟨h.rng, h.dist, fun e he => Nat.le_trans (h.len e he) hm⟩
theorem rb_ok {n n' L S T : Nat} {nx nx' : Nat → Nat → Nat} (hnx : ∀ s i, s < n → i < L → nx s i < n) (hnx' : ∀ s i, s < n' → i < L → nx' s i < n') (hS : S < n) (hT : T < n') : ∀ i, RbOk n n' i (rb nx nx' L S T i)
  | 0 => ⟨fun e he => by simp only [rb, List.mem_singleton] at he; subst he; exact ⟨hS, hT⟩, by simp [rb], fun e he => by simp only [rb, List.mem_singleton] at he; subst he; simp⟩
  | i + 1 => by
    have ih := rb_ok hnx hnx' hS hT i
    show RbOk n n' (i + 1) (match (rb nx nx' L S T i)[i]? with | some e => rrow nx nx' e L (rb nx nx' L S T i) | none => rb nx nx' L S T i)
    split
    · rename_i e he
      have hm := List.mem_of_getElem? he
      exact (ih.mono (Nat.le_succ i)).row hnx hnx' (ih.rng e hm).1 (ih.rng e hm).2 (Nat.lt_succ_of_le (ih.len e hm)) L (Nat.le_refl _)
    · exact ih.mono (Nat.le_succ i)
theorem RbOk.size {n n' m : Nat} {l : List (Nat × Nat × List UInt8)} (h : RbOk n n' m l) : l.length ≤ n * n' := by
  have := nodup_lt (n * n') (l.map (codeP n')) h.dist (fun x hx => by
    obtain ⟨e, he, rfl⟩ := List.mem_map.1 hx
    exact codeP_lt (h.rng e he).1 (h.rng e he).2)
  simpa using this
/-- the cells of such a list -/
def flatE (l : List (Nat × Nat × List UInt8)) : List Value := l.flatMap (fun e => [.int .i64 (e.1 : Nat), .int .i64 (e.2.1 : Nat), .string ⟨⟨e.2.2⟩⟩])
theorem flatE_append (l m : List (Nat × Nat × List UInt8)) : flatE (l ++ m) = flatE l ++ flatE m := by simp [flatE]
theorem flatE_len (l : List (Nat × Nat × List UInt8)) : (flatE l).length = l.length * 3 := by
  induction l with
  | nil => rfl
  | cons e l ih => rw [show flatE (e :: l) = [Value.int .i64 (e.1 : Nat), .int .i64 (e.2.1 : Nat), .string ⟨⟨e.2.2⟩⟩] ++ flatE l from rfl, List.length_append, ih]; simp; omega
theorem flatE_get : ∀ {l : List (Nat × Nat × List UInt8)} {k : Nat} {e : Nat × Nat × List UInt8}, l[k]? = some e → (flatE l)[k * 3]? = some (.int .i64 (e.1 : Nat)) ∧ (flatE l)[k * 3 + 1]? = some (.int .i64 (e.2.1 : Nat)) ∧ (flatE l)[k * 3 + 2]? = some (.string ⟨⟨e.2.2⟩⟩)
  | [], _, _, h => by simp at h
  | a :: l, 0, e, h => by simp at h; subst h; exact ⟨rfl, rfl, rfl⟩
  | a :: l, k + 1, e, h => by
    have ih := flatE_get (l := l) (k := k) (e := e) (by simpa using h)
    rw [show flatE (a :: l) = [Value.int .i64 (a.1 : Nat), .int .i64 (a.2.1 : Nat), .string ⟨⟨a.2.2⟩⟩] ++ flatE l from rfl]
    rw [show (k + 1) * 3 = 3 + k * 3 from by omega]
    refine ⟨?_, ?_, ?_⟩ <;> rw [List.getElem?_append_right (by simp only [List.length_cons, List.length_nil]; omega)] <;> simp only [List.length_cons, List.length_nil]
    · rw [show 3 + k * 3 - 3 = k * 3 from by omega]; exact ih.1
    · rw [show 3 + k * 3 + 1 - 3 = k * 3 + 1 from by omega]; exact ih.2.1
    · rw [show 3 + k * 3 + 2 - 3 = k * 3 + 2 from by omega]; exact ih.2.2
end Go.Proofs.Ytnnfobmfffbhaaa
