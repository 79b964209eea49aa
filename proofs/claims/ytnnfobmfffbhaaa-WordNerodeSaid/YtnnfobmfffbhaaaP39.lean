import Derived.Test.YtnnfobmfffbhaaaP37
import Derived.Test.YtnnfobmfffbhaaaEngAp
set_option linter.unusedSimpArgs false
set_option linter.unusedVariables false
set_option linter.unusedSectionVars false
open Go Go.Eng
namespace Go.Proofs.Ytnnfobmfffbhaaa
attribute [local congr] undef_congr WpK.congr WpS.congr WpL.congr WpC.congr WpF.congr gotS.congr callS.congr nextS.congr wantS.congr condS.congr
attribute [local irreducible] WpK
attribute [local simp] WpDr_nil WpDr_cons atS_some dwantS_true dwantS_false kindS_light kindS_float kindS_heavy lightS_value floatS_some heavyS_value heavyS_skip heavyS_enter dcallS_some doneS_eq
  isLight isFloat isPlain dLook testBit_dec dChain dLights_nil dLights_skip dLights_one dLight_nil dLight_cons dFreshes_nil dFreshes_one oneF_none oneF_some dFresh_nil dFresh_cons oneL_some oneW_true oneW_false sameV_value dPut dMay valEq arrEq listEq List.getElem?_cons Tr.get_nil dEnd
attribute [local simp] WpS_nil WpS_cons isDefer undef_false wantS_true wantS_false nextS_value nextS_skip nextS_enter callS_some gotS_some aWanted aOp aEvalF aEval opMove opAssign opPick aVal flat flat1 AAct.put opBinOp opConvert opIndex Tr.get_set Tr.get_lay aBin aResults tupled
  aCall aVals aCallB blt_dec ble_dec beq_dec aBinI_add aBinI_sub aBinI_lss aBinI_leq aBinI_gtr aBinI_geq aBinI_eql aBinI_neq index_str len_str len_slice Nat.beq_refl und3 und37 und5 und9
  opBox opLoad opFieldAddr opIndexAddr acells aAddr field25 und22 und23 und43 und4 und28
attribute [local simp] field31 conv_3_5 conv_3_37 conv_37_3 conv_5_3
set_option maxHeartbeats 4000000


theorem fun5 : T0.funcs.get 7 = some Try.f7 := by kernel_rfl
theorem inf43 : T0.info.get 65 = some Try.t65 := by kernel_rfl
theorem inf3 : T0.info.get 3 = some Try.t3 := by kernel_rfl
theorem inf4 : T0.info.get 4 = some Try.t4 := by kernel_rfl
theorem inf22 : T0.info.get 22 = some Try.t22 := by kernel_rfl
theorem inf23 : T0.info.get 23 = some Try.t23 := by kernel_rfl
theorem bs43 (W : AW) (v : Int) : aBuildSlice T0 W 65 1 [(0, .int .i64 v)] = some (.slice (some ⟨W.next, 0, none⟩) 1 2, W.newCells 3 [.int .i64 v]) := by kernel_rfl
theorem bs22 (W : AW) (a : Option Addr) (n c : Nat) : aBuildSlice T0 W 22 1 [(0, .slice a n c)] = some (.slice (some ⟨W.next, 0, none⟩) 1 2, W.newCells 65 [.slice a n c]) := by kernel_rfl
theorem bs23 (W : AW) (b : Bool) : aBuildSlice T0 W 23 1 [(0, .bool b)] = some (.slice (some ⟨W.next, 0, none⟩) 1 2, W.newCells 4 [.bool b]) := by kernel_rfl
theorem build25 (L : Int) : aBuild T0 25 [(0, .int .i64 L)] = some (.agg ⟨[.int .i64 L, .slice none 0 0, .slice none 0 0]⟩) := by kernel_rfl

/-- a slice of numbers that is read -/
def IntsIn (W : AW) (v : Value) (n : Nat) (f : Nat → Int) : Prop := ∃ a c, v = .slice a n c ∧ ∀ i, i < n → ∃ b o, a = some ⟨b, o, none⟩ ∧ W.Has b (o + i) (.int .i64 (f i))
theorem IntsIn.ext {W W' : AW} {v : Value} {n : Nat} {f : Nat → Int} (h : IntsIn W v n f) (he : Ext W W') : IntsIn W' v n f := by
  obtain ⟨a, c, h1, h2⟩ := h
  exact ⟨a, c, h1, fun i hi => let ⟨b, o, x, y⟩ := h2 i hi; ⟨b, o, x, y.ext he⟩⟩
/-- .. of slices of numbers -/
def RowsIn (W : AW) (v : Value) (n : Nat) (len : Nat → Nat) (f : Nat → Nat → Int) : Prop := ∃ a c, v = .slice a n c ∧ ∀ s, s < n → ∃ b o u, a = some ⟨b, o, none⟩ ∧ W.Has b (o + s) u ∧ IntsIn W u (len s) (f s)
theorem RowsIn.ext {W W' : AW} {v : Value} {n : Nat} {len : Nat → Nat} {f : Nat → Nat → Int} (h : RowsIn W v n len f) (he : Ext W W') : RowsIn W' v n len f := by
  obtain ⟨a, c, h1, h2⟩ := h
  exact ⟨a, c, h1, fun i hi => let ⟨b, o, u, x, y, z⟩ := h2 i hi; ⟨b, o, u, x, y.ext he, z.ext he⟩⟩
def BoolsIn (W : AW) (v : Value) (n : Nat) (g : Nat → Bool) : Prop := ∃ a c, v = .slice a n c ∧ ∀ i, i < n → ∃ b o, a = some ⟨b, o, none⟩ ∧ W.Has b (o + i) (.bool (g i))
theorem BoolsIn.ext {W W' : AW} {v : Value} {n : Nat} {f : Nat → Bool} (h : BoolsIn W v n f) (he : Ext W W') : BoolsIn W' v n f := by
  obtain ⟨a, c, h1, h2⟩ := h
  exact ⟨a, c, h1, fun i hi => let ⟨b, o, x, y⟩ := h2 i hi; ⟨b, o, x, y.ext he⟩⟩

/-- what holds of the memory of tame's own at the head of its outer loop -/
structure TameInv (W W' : AW) (L n s : Nat) (inp : List Value) : Prop where
  ext : Ext W W'
  room : W.next + 2 < W'.next
  box : ∀ j u, inp[j]? = some u → W'.Has W.next j u
  out6 : ∃ c6, W'.blocks.get (W.next + 1) = some ⟨.cells c6 3 25, []⟩
  own : ∃ (col : Nat → Nat) (r : Nat → Nat) (nx : Nat → Nat → Nat) (gd : Nat → Bool) (v1 v2 : Value) (c8 : Tr Value),
    (∀ b, b ≤ W.next + 2 → col b = 0) ∧ (∀ b, W'.next ≤ b → col b = 0) ∧
    W'.blocks.get (W.next + 2) = some ⟨.cells c8 3 25, []⟩ ∧ c8.get 0 = some (.int .i64 L) ∧ c8.get 1 = some v1 ∧ c8.get 2 = some v2 ∧
    Grows W' v1 ((List.range s).map fun j => .slice (some ⟨r j, 0, none⟩) L 3) 65 (fun b => col b = 1) ∧
    Grows W' v2 ((List.range s).map fun j => .bool (gd j)) 4 (fun b => col b = 2) ∧
    ∀ j, j < s → W.next + 2 < r j ∧ r j < W'.next ∧ col (r j) = 0 ∧ ∀ i, i < L → W'.Has (r j) i (.int .i64 (nx j i : Nat)) ∧ nx j i < n

/-- the rows, and that they are new -/
def RowsF (base : Nat) (W : AW) (b o n L : Nat) (nx : Nat → Nat → Nat) : Prop :=
  ∀ s, s < n → ∃ r ro c, base ≤ r ∧ W.Has b (o + s) (.slice (some ⟨r, ro, none⟩) L c) ∧ ∀ i, i < L → W.Has r (ro + i) (.int .i64 (nx s i : Nat))
theorem RowsF.rows {base : Nat} {W : AW} {b o n L : Nat} {nx : Nat → Nat → Nat} (h : RowsF base W b o n L nx) : Rows W b o n L nx := fun s hs =>
  let ⟨r, ro, c, _, h1, h2⟩ := h s hs
  ⟨r, ro, c, h1, h2⟩
theorem u64_range (x : Int) : 0 ≤ IntKind.u64.wrap x ∧ IntKind.u64.wrap x < 18446744073709551616 := by
  rw [IntKind.wrap_u64]; omega

/-- what tame makes -/
theorem tame_wp (K : Nat) (hK1 : 1 ≤ K) (hK : K ≤ 64) (L : Nat) (hL1 : 1 ≤ L) (hL4 : L ≤ 4) (L0 : Int) (vN vG : Value) (nN nG : Nat) (len : Nat → Nat) (f : Nat → Nat → Int) (g : Nat → Bool) (W : AW) (hN : RowsIn W vN nN len f) (hG : BoolsIn W vG nG g) :
    WpF T0 7 [.agg ⟨[.int .i64 L0, vN, vG]⟩, .int .i64 L, .int .i64 K] W (fun v W' => Ext W W' ∧ ∃ n bN bG nx gd, v = autoV L n bN 0 3 bG 0 3 ∧ 1 ≤ n ∧ n ≤ K ∧ W.next ≤ bN ∧ W.next ≤ bG ∧ RowsF W.next W' bN 0 n L nx ∧ Goods W' bG 0 n gd ∧ ∀ s i, s < n → i < L → nx s i < n) := by
  obtain ⟨aN, cN, rfl, hN⟩ := hN
  obtain ⟨aG, cG, rfl, hG⟩ := hG
  obtain ⟨n, hn⟩ : ∃ n : Nat, max (1 : Int) (min (nN : Int) K) = n := ⟨max 1 (min nN K), by omega⟩
  have hn1 : 1 ≤ n := by omega
  have hn12 : n ≤ K := by omega
  refine wpF fun5 rfl ?_
  refine wpK_reg (fun R hR => by simp [opAlloc, zero25]; exact hR) ?_
  -- the box of the argument, and the result's variable
  have hE1 : Ext W (W.newCells 25 [.int .i64 L0, .slice aN nN cN, .slice aG nG cG]) := .newCells _ _ _
  have hb1 : ∀ j u, [Value.int .i64 L0, .slice aN nN cN, .slice aG nG cG][j]? = some u → (W.newCells 25 [.int .i64 L0, .slice aN nN cN, .slice aG nG cG]).Has W.next j u := fun j u h => Has.newCells h
  have hn1' : (W.newCells 25 [.int .i64 L0, .slice aN nN cN, .slice aG nG cG]).next = W.next + 1 := rfl
  generalize W.newCells 25 [.int .i64 L0, .slice aN nN cN, .slice aG nG cG] = W₁ at hE1 hb1 hn1'
  have hE2 : Ext W₁ (W₁.newCells 25 [.int .i64 0, .slice none 0 0, .slice none 0 0]) := .newCells _ _ _
  have hg2 : (W₁.newCells 25 [.int .i64 0, .slice none 0 0, .slice none 0 0]).blocks.get W₁.next = some ⟨.cells (Tr.nil.lay 0 [.int .i64 0, .slice none 0 0, .slice none 0 0]) 3 25, []⟩ := by rw [newCells_get, if_pos rfl]; rfl
  have hn2' : (W₁.newCells 25 [.int .i64 0, .slice none 0 0, .slice none 0 0]).next = W₁.next + 1 := rfl
  generalize W₁.newCells 25 [.int .i64 0, .slice none 0 0, .slice none 0 0] = W₂ at hE2 hg2 hn2'
  have hl1 : aLoadVar T0 W₂ 22 W.next 1 = some (.slice aN nN cN) := by rw [loadVar_cell und22 rfl]; exact ((hb1 1 _ rfl).ext hE2).2
  try simp only [wpK_assoc]
  refine wpK_reg (fun R hR => by simp [hl1, mm_min, mm_max, hn]; exact hR) ?_
  -- out
  have hE3 : Ext W₂ (W₂.newCells 25 [.int .i64 0, .slice none 0 0, .slice none 0 0]) := .newCells _ _ _
  have hg3 : (W₂.newCells 25 [.int .i64 0, .slice none 0 0, .slice none 0 0]).blocks.get W₂.next = some ⟨.cells (Tr.nil.lay 0 [.int .i64 0, .slice none 0 0, .slice none 0 0]) 3 25, []⟩ := by rw [newCells_get, if_pos rfl]; rfl
  have hn3' : (W₂.newCells 25 [.int .i64 0, .slice none 0 0, .slice none 0 0]).next = W₂.next + 1 := rfl
  obtain ⟨W₄, hs1, hs2, hs3, hs4⟩ := storeVar_own (T := T0) (t := 25) (v := .agg ⟨[.int .i64 L, .slice none 0 0, .slice none 0 0]⟩) (o := 0) inf25 (by kernel_rfl) hg3 (by show 0 + 3 ≤ 3; omega) rfl
  try simp only [wpK_assoc]
  refine wpK_reg (fun R hR => by simp [opBuild, aParts, build25, opAlloc, zero25, opStore, hs1]; exact hR) ?_
  try simp only [wpK_assoc]
  refine wpK_reg (fun R hR => by simp; exact hR) ?_
  have hinv : TameInv W W₄ L n 0 [.int .i64 L0, .slice aN nN cN, .slice aG nG cG] := by
    refine ⟨⟨by omega, fun b hb _ => ?_⟩, by omega, fun j u h => ?_, ⟨Tr.nil.lay 0 [.int .i64 0, .slice none 0 0, .slice none 0 0], ?_⟩, fun _ => 0, fun _ => 0, fun _ _ => 0, fun _ => false, .slice none 0 0, .slice none 0 0, (Tr.nil.lay 0 [.int .i64 0, .slice none 0 0, .slice none 0 0]).lay 0 (acells (.agg ⟨[.int .i64 L, .slice none 0 0, .slice none 0 0]⟩)), fun _ _ => rfl, fun _ _ => rfl, ?_, ?_, ?_, ?_, .inl ⟨rfl, rfl⟩, .inl ⟨rfl, rfl⟩, fun j hj => by omega⟩
    · rw [hs3 b (by omega), newCells_get, if_neg (by omega), hE2.2 b (by omega) (fun x => x), hE1.2 b hb (fun x => x)]
    · have := (hb1 j u h).ext hE2
      exact ⟨by have := this.1; omega, by rw [AW.cell_of_get (hs3 _ (by omega)), newCells_cell, if_neg (by omega)]; exact this.2⟩
    · rw [hs3 _ (by omega), newCells_get, if_neg (by omega), ← hn1']; exact hg2
    · rw [show W.next + 2 = W₂.next from by omega]; exact hs4
    all_goals (rw [Tr.get_lay]; rfl)
  have hp6 : W₁.next = W.next + 1 := hn1'
  have hp8 : W₂.next = W.next + 2 := by omega
  rw [hp6, hp8]
  clear hs1 hs2 hs3 hs4 hg3 hn3' hE3 hl1 hg2 hE2 hb1 hE1
  refine wpK_while (I := fun k A W' => A.n = 91 ∧ A.defers = [] ∧ A.tmps.get 1 = some (.int .i64 L) ∧ A.tmps.get 3 = some (.pointer (some ⟨W.next, 0, none⟩)) ∧ A.tmps.get 6 = some (.pointer (some ⟨W.next + 1, 0, none⟩)) ∧ A.tmps.get 7 = some (.int .i64 n) ∧ A.tmps.get 8 = some (.pointer (some ⟨W.next + 2, 0, none⟩)) ∧
      ∃ s : Nat, k = n - s ∧ s ≤ n ∧ A.tmps.get 9 = some (.int .i64 s) ∧ TameInv W W' L n s [.int .i64 L0, .slice aN nN cN, .slice aG nG cG])
    (J := fun A W' => A.n = 91 ∧ A.defers = [] ∧ A.tmps.get 6 = some (.pointer (some ⟨W.next + 1, 0, none⟩)) ∧ A.tmps.get 8 = some (.pointer (some ⟨W.next + 2, 0, none⟩)) ∧ TameInv W W' L n n [.int .i64 L0, .slice aN nN cN, .slice aG nG cG])
    (Rt := fun _ _ => False) (k := n) ?_ ?_ ?_ ?_
  · exact ⟨rfl, rfl, by simp, by simp, by simp, by simp, by simp, 0, by simp, by simp, by simp, hinv⟩
  · rintro k ⟨t, m, ds⟩ W' ⟨hm, hd, h1, h3, h6, h7, h8, s, hk, hs, h9, hinv⟩ Q' hJ hRt hI
    simp only at hm hd h1 h3 h6 h7 h8 h9
    subst hm; subst hd
    try simp only [wpK_assoc]
    refine wpK_reg (fun R hR => by simp [h7, h9]; exact hR) ?_
    by_cases hlt : s < n
    case neg =>
      have : s = n := by omega
      subst this
      exact wpK_out (by simp) (hJ _ _ ⟨rfl, rfl, by simp [h6], by simp [h8], hinv⟩)
    refine wpK_onT (by simp [hlt]) ?_
    refine wpK_block ?_
    try simp only [wpK_assoc]
    refine wpK_reg (fun R hR => by simp; exact hR) ?_
    try simp only [wpK_assoc]
    refine wpK_reg (fun R hR => by simp; exact hR) ?_
    -- the row
    refine wpK_while (I := fun k A W'' => A.n = 91 ∧ A.defers = [] ∧ A.tmps.get 1 = some (.int .i64 L) ∧ A.tmps.get 3 = some (.pointer (some ⟨W.next, 0, none⟩)) ∧ A.tmps.get 6 = some (.pointer (some ⟨W.next + 1, 0, none⟩)) ∧ A.tmps.get 7 = some (.int .i64 n) ∧ A.tmps.get 8 = some (.pointer (some ⟨W.next + 2, 0, none⟩)) ∧ A.tmps.get 9 = some (.int .i64 s) ∧
        Ext W' W'' ∧ ∃ (i : Nat) (nxs : Nat → Nat) (v10 : Value), k = L - i ∧ i ≤ L ∧ A.tmps.get 11 = some (.int .i64 i) ∧ A.tmps.get 10 = some v10 ∧ (∀ j, j < i → nxs j < n) ∧
          Grows W'' v10 ((List.range i).map fun j => .int .i64 (nxs j : Nat)) 3 (fun b => W'.next ≤ b))
      (J := fun A W'' => A.n = 91 ∧ A.defers = [] ∧ A.tmps.get 1 = some (.int .i64 L) ∧ A.tmps.get 3 = some (.pointer (some ⟨W.next, 0, none⟩)) ∧ A.tmps.get 6 = some (.pointer (some ⟨W.next + 1, 0, none⟩)) ∧ A.tmps.get 7 = some (.int .i64 n) ∧ A.tmps.get 8 = some (.pointer (some ⟨W.next + 2, 0, none⟩)) ∧ A.tmps.get 9 = some (.int .i64 s) ∧
        Ext W' W'' ∧ ∃ (nxs : Nat → Nat) (v10 : Value), A.tmps.get 10 = some v10 ∧ (∀ j, j < L → nxs j < n) ∧
          Grows W'' v10 ((List.range L).map fun j => .int .i64 (nxs j : Nat)) 3 (fun b => W'.next ≤ b))
      (Rt := fun _ _ => False) (k := L) ?_ ?_ ?_ ?_
    · exact ⟨rfl, rfl, by simp [h1], by simp [h3], by simp [h6], by simp [h7], by simp [h8], by simp [h9], .refl _ _, 0, fun _ => 0, .slice none 0 0, by simp, by simp, by simp, by simp, fun j hj => by omega, .inl ⟨rfl, rfl⟩⟩
    · rintro k' ⟨t, m, ds⟩ W'' ⟨hm, hd, h1, h3, h6, h7, h8, h9, hE, i, nxs, v10, hk', hi, h11, h10, hnxs, hv10⟩ Q'' hJ' hRt' hI'
      simp only at hm hd h1 h3 h6 h7 h8 h9 h10 h11
      subst hm; subst hd
      try simp only [wpK_assoc]
      refine wpK_reg (fun R hR => by simp [h1, h11]; exact hR) ?_
      by_cases hlt' : i < L
      case neg =>
        have : i = L := by omega
        subst this
        exact wpK_out (by simp) (hJ' _ _ ⟨rfl, rfl, by simp [h1], by simp [h3], by simp [h6], by simp [h7], by simp [h8], by simp [h9], hE, nxs, v10, by simp [h10], hnxs, hv10⟩)
      refine wpK_onT (by simp [hlt']) ?_
      refine wpK_block ?_
      try simp only [wpK_assoc]
      refine wpK_reg (fun R hR => by simp; exact hR) ?_
      try simp only [wpK_assoc]
      have hEW := hinv.ext.trans hE
      have hl1 : aLoadVar T0 W'' 22 W.next 1 = some (.slice aN nN cN) := by rw [loadVar_cell und22 rfl]; exact ((hinv.box 1 _ rfl).ext hE).2
      have hr13 : ∀ x : Nat, ∃ v' W4, aAppend T0 (W''.newCells 3 [.int .i64 (x : Nat)]) [65, 65] [v10, .slice (some ⟨W''.next, 0, none⟩) 1 2] = some (v', W4) ∧ Ext W' W4 ∧
          Grows W4 v' ((List.range i).map (fun j => Value.int .i64 (nxs j : Nat)) ++ [.int .i64 (x : Nat)]) 3 (fun b => W'.next ≤ b) := by
        intro x
        have h0 : Grows (W''.newCells 3 [.int .i64 (x : Nat)]) v10 ((List.range i).map fun j => .int .i64 (nxs j : Nat)) 3 (fun b => W'.next ≤ b) := hv10.only (K' := fun _ => False) (.newCells _ _ _) (fun _ _ _ x => x)
        obtain ⟨v', W4, a1, a2, a3, a4⟩ := append_grows (T := T0) (i := Try.t3) und43 inf3 rfl rfl rfl h0 (newCells_cellsAt W'' 3 [.int .i64 (x : Nat)] 1 rfl) rfl (by simp; show 2 * (i + 1) * 8 ≤ _; omega) (by simp; omega) (c := 2)
        rw [newCells_next] at a2
        refine ⟨v', W4, a1, ⟨by have := hE.1; omega, fun b hb _ => ?_⟩, a3.mono (fun b hb => hb.elim id (fun e => by have := hE.1; rw [newCells_next] at e; omega))⟩
        rw [a4.2 b (by have := hE.1; rw [newCells_next]; omega) (by omega), newCells_get, if_neg (by have := hE.1; omega)]
        exact hE.2 b hb (fun x => x)
      have hstep : ∀ (x : Nat), x < n → ∀ j, j < i + 1 → (fun j => if j = i then x else nxs j) j < n := by
        intro x hx j hj
        show (if j = i then x else nxs j) < n
        split
        · exact hx
        · exact hnxs j (by omega)
      have hmap : ∀ (x : Nat), (List.range i).map (fun j => Value.int .i64 (nxs j : Nat)) ++ [.int .i64 (x : Nat)] = (List.range (i + 1)).map fun j => Value.int .i64 ((if j = i then x else nxs j : Nat) : Int) := by
        intro x
        rw [List.range_succ, List.map_append]
        congr 1
        · refine List.map_congr_left (fun j hj => ?_)
          have := List.mem_range.1 hj
          rw [if_neg (by omega)]
        · simp
      by_cases hsN : s < nN
      · obtain ⟨bN, oN, u, rfl, hu1, ar, cr, rfl, hu2⟩ := hN s hsN
        have hu1' := hu1.ext hEW
        have ha1 := indexAddr_slice (b := bN) (o := oN) (c := cN) (k := .i64) und22 sz43 hsN
        simp only [Nat.mul_one] at ha1
        have hl3 : aLoadVar T0 W'' 65 bN (oN + s) = some (.slice ar (len s) cr) := by rw [loadVar_cell und43 rfl]; exact hu1'.2
        by_cases hil : i < len s
        · refine wpK_reg (fun R hR => by simp [h3, h9, h11, hl1, ha1, hl3, hsN, hil]; exact hR) ?_
          refine wpK_condT (by simp) ?_
          obtain ⟨rb, ro, rfl, hr1⟩ := hu2 i hil
          have ha2 := indexAddr_slice (b := rb) (o := ro) (c := cr) (k := .i64) und43 sz3 hil
          simp only [Nat.mul_one] at ha2
          have hl4 : aLoadVar T0 W'' 3 rb (ro + i) = some (.int .i64 (f s i)) := by rw [loadVar_cell und3 rfl]; exact (hr1.ext hEW).2
          have hr := u64_range (f s i)
          have hnn : (0 : Int) < n := by omega
          have hwn : IntKind.u64.wrap (n : Int) = n := by rw [IntKind.wrap_u64]; omega
          have hrem := aBinI_rem .u64 (IntKind.u64.wrap (f s i)) (n : Int) (by omega)
          obtain ⟨x, hx⟩ : ∃ x : Nat, (IntKind.u64.wrap (f s i)).tmod n = x := ⟨((IntKind.u64.wrap (f s i)).tmod n).toNat, by rw [Int.toNat_of_nonneg (Int.tmod_nonneg _ hr.1)]⟩
          have hxn : x < n := by
            have := Int.tmod_lt_of_pos (IntKind.u64.wrap (f s i)) hnn
            omega
          have hwx : IntKind.i64.wrap (x : Int) = x := i64_nat x (by omega)
          refine wpK_reg1 (fun R hR => by simp [h3, h7, h9, h11, hl1, ha1, hl3, ha2, hl4, hwn, hrem, hx, hwx]; exact hR) ?_
          obtain ⟨v', W4, a1, a2, a3⟩ := hr13 x
          refine wpK_reg1 (fun R hR => by simp [h10, opBuildSlice, aParts, bs43, aValW, a1]; exact hR) ?_
          refine wpK_reg1 (fun R hR => by simp [h11]; exact hR) ?_
          exact hI' (k' - 1) _ _ (by omega) ⟨rfl, rfl, by simp [h1], by simp [h3], by simp [h6], by simp [h7], by simp [h8], by simp [h9], a2, i + 1, fun j => if j = i then x else nxs j, v', by omega, by omega, by simp; exact i64_succ i (by omega), by simp, hstep x hxn, by rw [← hmap]; exact a3⟩
        · refine wpK_reg (fun R hR => by simp [h3, h9, h11, hl1, ha1, hl3, hsN, hil]; exact hR) ?_
          refine wpK_onF (by simp) ?_
          obtain ⟨v', W4, a1, a2, a3⟩ := hr13 0
          simp only [Int.natCast_zero] at a1
          refine wpK_reg1 (fun R hR => by simp [h10, opBuildSlice, aParts, bs43, aValW, a1]; exact hR) ?_
          refine wpK_reg1 (fun R hR => by simp [h11]; exact hR) ?_
          exact hI' (k' - 1) _ _ (by omega) ⟨rfl, rfl, by simp [h1], by simp [h3], by simp [h6], by simp [h7], by simp [h8], by simp [h9], a2, i + 1, fun j => if j = i then 0 else nxs j, v', by omega, by omega, by simp; exact i64_succ i (by omega), by simp, hstep 0 (by omega), by rw [← hmap]; exact a3⟩
      · refine wpK_reg (fun R hR => by simp [h3, h9, h11, hl1, hsN]; exact hR) ?_
        refine wpK_onF (by simp) ?_
        obtain ⟨v', W4, a1, a2, a3⟩ := hr13 0
        simp only [Int.natCast_zero] at a1
        refine wpK_reg1 (fun R hR => by simp [h10, opBuildSlice, aParts, bs43, aValW, a1]; exact hR) ?_
        refine wpK_reg1 (fun R hR => by simp [h11]; exact hR) ?_
        exact hI' (k' - 1) _ _ (by omega) ⟨rfl, rfl, by simp [h1], by simp [h3], by simp [h6], by simp [h7], by simp [h8], by simp [h9], a2, i + 1, fun j => if j = i then 0 else nxs j, v', by omega, by omega, by simp; exact i64_succ i (by omega), by simp, hstep 0 (by omega), by rw [← hmap]; exact a3⟩
    · rintro A' W'' h; exact h.elim
    · rintro ⟨t, m, ds⟩ W'' ⟨hm, hd, h1, h3, h6, h7, h8, h9, hE, nxs, v10, h10, hnxs, hv10⟩
      simp only at hm hd h1 h3 h6 h7 h8 h9 h10
      subst hm; subst hd
      obtain ⟨hEi, hroom, hbox, ⟨c6, hg6⟩, col, r, nx, gd, v1, v2, c8, hc0, hcf, hg8, hc80, hc81, hc82, hv1, hv2, hrows⟩ := hinv
      have hneR : ((List.range L).map fun j => Value.int .i64 (nxs j : Nat)) ≠ [] := by
        intro h; have := congrArg List.length h; simp at this; omega
      obtain ⟨rb, rfl, hrb, hasR⟩ := hv10.has hneR
      simp only [List.length_map, List.length_range] at h10
      have hrb2 : rb < W''.next := (hasR 0 (.int .i64 (nxs 0 : Nat)) (by rw [List.getElem?_map, List.getElem?_range (by omega)]; rfl)).1
      have hW := hE.1
      have hg8' : W''.blocks.get (W.next + 2) = some ⟨.cells c8 3 25, []⟩ := by rw [hE.2 _ hroom (fun x => x)]; exact hg8
      have cell8 : ∀ j u, j < 3 → c8.get j = some u → W''.cell (W.next + 2) j = some u := fun j u hj h => by simp only [AW.cell, hg8', blt_dec, hj, decide_true]; exact h
      have hl22 : aLoadVar T0 W'' 22 (W.next + 2) 1 = some v1 := by rw [loadVar_cell und22 rfl]; exact cell8 1 _ (by omega) hc81
      have hl23 : aLoadVar T0 W'' 23 (W.next + 2) 2 = some v2 := by rw [loadVar_cell und23 rfl]; exact cell8 2 _ (by omega) hc82
      have hvq : ∀ {v : Value} {l : List Value} {el : TypeId} {K : Nat → Prop} {W : AW}, Grows W v l el K → valEq v v = true := by
        intro v l el K W h
        rcases h with ⟨_, rfl⟩ | ⟨b, c, kin, rfl, _⟩ <;> simp [valEq]
      have hq1 := hvq hv1
      have hq2 := hvq hv2
      try simp only [wpK_assoc]
      refine wpK_dr (wr := Tr.nil |>.set 65 0 |>.set 66 1 |>.set 67 2 |>.set 68 3 |>.set 13 4 |>.set 14 5) (bits := Tr.nil.lay 0 [0, 1, 0, 4, 3, 31]) (ord := [0, 1, 2, 3, 4, 5])
        (J := fun A' W3 => W3 = W'' ∧ A'.n = 91 ∧ A'.defers = [] ∧ A'.tmps.get 1 = some (.int .i64 L) ∧ A'.tmps.get 3 = some (.pointer (some ⟨W.next, 0, none⟩)) ∧ A'.tmps.get 6 = some (.pointer (some ⟨W.next + 1, 0, none⟩)) ∧ A'.tmps.get 7 = some (.int .i64 n) ∧ A'.tmps.get 8 = some (.pointer (some ⟨W.next + 2, 0, none⟩)) ∧
          A'.tmps.get 9 = some (.int .i64 s) ∧ A'.tmps.get 10 = some (.slice (some ⟨rb, 0, none⟩) L 3) ∧ A'.tmps.get 13 = some v1 ∧ A'.tmps.get 14 = some v2)
        (by kernel_rfl) (by kernel_rfl) (by kernel_rfl) (fun G hG' => ?_) ?_
      · simp [h8, hl22, hl23, hq1, hq2]
        apply hG'
        refine ⟨rfl, rfl, rfl, ?_⟩
        simp [h1, h3, h6, h7, h8, h9, h10]
      rintro ⟨t, m, ds⟩ W3 ⟨rfl, hm, hd, h1, h3, h6, h7, h8, h9, h10, h13, h14⟩
      simp only at hm hd h1 h3 h6 h7 h8 h9 h10 h13 h14
      subst hm; subst hd
      -- out.Next = append(next, row)
      have hv1' : Grows W3 v1 ((List.range s).map fun j => .slice (some ⟨r j, 0, none⟩) L 3) 65 (fun b => col b = 1) := hv1.only hE (fun _ _ _ x => x)
      have hv2' : Grows W3 v2 ((List.range s).map fun j => .bool (gd j)) 4 (fun b => col b = 2) := hv2.only hE (fun _ _ _ x => x)
      obtain ⟨w1, W4, W5, a1, a2, a3, a4, a5, a6⟩ := push_own (T := T0) (t := 22) (i := Try.t65) (it := Try.t22) (u := .slice (some ⟨rb, 0, none⟩) L 3) (o := 1) und22 inf43 rfl rfl rfl inf22 rfl hv1' hg8' (by omega) (by rw [hc0 _ (by omega)]; omega) (by rw [hcf _ (by omega)]; omega) (by omega) rfl (by simp; show 2 * (s + 1) * 24 ≤ _; omega) (by simp; omega)
      try simp only [wpK_assoc]
      refine wpK_reg (fun R hR => by simp [h8, h10, h13, opBuildSlice, aParts, bs22, aValW, a1, opStore, a2]; exact hR) ?_
      -- out.Good = append(good, ..)
      have hO5 : ∀ b, b < W3.next → col b = 0 → b ≠ W.next + 2 → W5.blocks.get b = W3.blocks.get b := fun b hb hc hne => a6.2 b hb (fun x => x.elim (fun e => by omega) hne)
      have hcol : ∀ b, b < W3.next → (fun b => if b = W3.next + 1 then 1 else col b) b = col b := fun b hb => if_neg (by omega)
      have hv2'' : Grows W5 v2 ((List.range s).map fun j => .bool (gd j)) 4 (fun b => col b = 2) := hv2'.only a6 (fun b hb hk hx => by
        rcases hx with hx | hx
        · omega
        · subst hx; rw [hc0 _ (by omega)] at hk; omega)
      have hl1 : aLoadVar T0 W5 23 W.next 2 = some (.slice aG nG cG) := by
        rw [loadVar_cell und23 rfl, AW.cell_of_get (hO5 W.next (by omega) (hc0 _ (by omega)) (by omega))]
        exact ((hbox 2 _ rfl).ext hE).2
      have hfinal : ∀ (y : Bool), ∃ w2 W6 W7, aAppend T0 (W5.newCells 4 [.bool y]) [23, 23] [v2, .slice (some ⟨W5.next, 0, none⟩) 1 2] = some (w2, W6) ∧ aStoreVar T0 W6 23 (W.next + 2) 2 w2 = some W7 ∧ TameInv W W7 L n (s + 1) [.int .i64 L0, .slice aN nN cN, .slice aG nG cG] := by
        intro y
        obtain ⟨w2, W6, W7, b1, b2, b3, b4, b5, b6⟩ := push_own (T := T0) (t := 23) (i := Try.t4) (it := Try.t23) (u := .bool y) (o := 2) und23 inf4 rfl rfl rfl inf23 rfl hv2'' a4 (by omega) (by rw [hc0 _ (by omega)]; omega) (by rw [hcf _ (by omega)]; omega) (by omega) rfl (by simp; show 2 * (s + 1) * 1 ≤ _; omega) (by simp; omega)
        refine ⟨w2, W6, W7, b1, b2, ?_⟩
        have hO7 : ∀ b, b < W3.next → col b = 0 → b ≠ W.next + 2 → W7.blocks.get b = W3.blocks.get b := fun b hb hc hne => by
          rw [b6.2 b (by omega) (fun x => x.elim (fun e => by omega) hne)]; exact hO5 b hb hc hne
        have hhas : ∀ b o v, W3.Has b o v → col b = 0 → b ≠ W.next + 2 → W7.Has b o v := fun b o v h hc hne => ⟨by have := h.1; omega, (AW.cell_of_get (hO7 b h.1 hc hne) o).trans h.2⟩
        refine ⟨⟨by have := hEi.1; omega, fun b hb _ => ?_⟩, by omega, fun j u h => hhas _ _ _ ((hbox j u h).ext hE) (hc0 _ (by omega)) (by omega), ⟨c6, ?_⟩,
          (fun b => if b = W3.next + 1 then 1 else if b = W5.next + 1 then 2 else col b), (fun j => if j = s then rb else r j), (fun j i => if j = s then nxs i else nx j i), (fun j => if j = s then y else gd j), w1, w2, (c8.set 1 w1).set 2 w2, fun b hb => ?_, fun b hb => ?_, b4, ?_, ?_, ?_, ?_, ?_, ?_⟩
        · rw [hO7 b (by have := hEi.1; omega) (hc0 b (by omega)) (by omega), hE.2 b (by have := hEi.1; omega) (fun x => x)]
          exact hEi.2 b hb (fun x => x)
        · rw [hO7 _ (by omega) (hc0 _ (by omega)) (by omega), hE.2 _ (by omega) (fun x => x)]; exact hg6
        · show (if b = W3.next + 1 then 1 else if b = W5.next + 1 then 2 else col b) = 0
          rw [if_neg (by omega), if_neg (by omega)]; exact hc0 b hb
        · show (if b = W3.next + 1 then 1 else if b = W5.next + 1 then 2 else col b) = 0
          rw [if_neg (by omega), if_neg (by omega)]; exact hcf b (by omega)
        · simp [Tr.get_set, hc80]
        · simp [Tr.get_set]
        · simp [Tr.get_set]
        · have e1 : (List.range (s + 1)).map (fun j => Value.slice (some ⟨(fun j => if j = s then rb else r j) j, 0, none⟩) L 3) = (List.range s).map (fun j => Value.slice (some ⟨r j, 0, none⟩) L 3) ++ [.slice (some ⟨rb, 0, none⟩) L 3] := by
            rw [List.range_succ, List.map_append]
            congr 1
            · refine List.map_congr_left (fun j hj => ?_)
              have := List.mem_range.1 hj
              simp only [if_neg (show ¬ j = s from by omega)]
            · simp
          rw [e1]
          have h5 : Grows W7 w1 ((List.range s).map (fun j => Value.slice (some ⟨r j, 0, none⟩) L 3) ++ [.slice (some ⟨rb, 0, none⟩) L 3]) 65 (fun b => (col b = 1 ∧ b < W5.next) ∨ b = W3.next + 1) := by
            have h5' : Grows W5 w1 ((List.range s).map (fun j => Value.slice (some ⟨r j, 0, none⟩) L 3) ++ [.slice (some ⟨rb, 0, none⟩) L 3]) 65 (fun b => (col b = 1 ∧ b < W5.next) ∨ b = W3.next + 1) := a5.mono (fun b hb => hb.elim (fun e => .inl ⟨e, by
              by_cases x : b < W5.next
              · exact x
              · rw [hcf b (by omega)] at e; omega⟩) .inr)
            refine h5'.only b6 (fun b hb hk hx => ?_)
            rcases hk with ⟨hk, _⟩ | hk
            · rcases hx with hx | hx
              · omega
              · subst hx; rw [hc0 _ (by omega)] at hk; omega
            · rcases hx with hx | hx
              · rw [hcf b (by omega)] at hx; omega
              · omega
          refine h5.mono (fun b hb => ?_)
          show (if b = W3.next + 1 then 1 else if b = W5.next + 1 then 2 else col b) = 1
          rcases hb with ⟨hb, hb2⟩ | hb
          · rw [if_neg (fun e => by rw [hcf b (by omega)] at hb; omega), if_neg (by omega)]; exact hb
          · rw [if_pos hb]
        · have e2 : (List.range (s + 1)).map (fun j => Value.bool ((fun j => if j = s then y else gd j) j)) = (List.range s).map (fun j => Value.bool (gd j)) ++ [.bool y] := by
            rw [List.range_succ, List.map_append]
            congr 1
            · refine List.map_congr_left (fun j hj => ?_)
              have := List.mem_range.1 hj
              simp only [if_neg (show ¬ j = s from by omega)]
            · simp
          rw [e2]
          refine b5.mono (fun b hb => ?_)
          show (if b = W3.next + 1 then 1 else if b = W5.next + 1 then 2 else col b) = 2
          rcases hb with hb | hb
          · rw [if_neg (fun e => by rw [hcf b (by omega)] at hb; omega), if_neg (fun e => by rw [hcf b (by omega)] at hb; omega)]; exact hb
          · rw [if_neg (by omega), if_pos hb]
        · intro j hj
          by_cases hjs : j = s
          · subst hjs
            simp only [if_true]
            refine ⟨by omega, by omega, ?_, fun i hi => ⟨hhas _ _ _ (hasR i _ (by simp [hi])) (hcf _ hrb) (by omega), hnxs i hi⟩⟩
            rw [if_neg (by omega), if_neg (by omega)]; exact hcf _ hrb
          · simp only [if_neg hjs]
            obtain ⟨q1, q2, q3, q4⟩ := hrows j (by omega)
            refine ⟨q1, by omega, ?_, fun i hi => ⟨hhas _ _ _ ((q4 i hi).1.ext hE) q3 (by omega), (q4 i hi).2⟩⟩
            rw [if_neg (by omega), if_neg (by omega)]; exact q3
      by_cases hsG : s < nG
      · obtain ⟨bG, oG, rfl, hu1⟩ := hG s hsG
        have hbG : bG < W.next := hu1.1
        have ha1 := indexAddr_slice (b := bG) (o := oG) (c := cG) (k := .i64) und23 sz4 hsG
        simp only [Nat.mul_one] at ha1
        have hl2 : aLoadVar T0 W5 4 bG (oG + s) = some (.bool (g s)) := by
          rw [loadVar_cell und4 rfl, AW.cell_of_get (hO5 bG (by have := hEi.1; omega) (hc0 _ (by omega)) (by omega))]
          exact ((hu1.ext hEi).ext hE).2
        obtain ⟨w2, W6, W7, b1, b2, b3⟩ := hfinal (g s)
        refine wpK_reg1 (fun R hR => by simp [h3, h8, h9, h14, hl1, ha1, hl2, hsG, opBuildSlice, aParts, bs23, aValW, b1, opStore, b2]; exact hR) ?_
        refine wpK_reg1 (fun R hR => by simp [h9]; exact hR) ?_
        exact hI (k - 1) _ _ (by omega) ⟨rfl, rfl, by simp [h1], by simp [h3], by simp [h6], by simp [h7], by simp [h8], s + 1, by omega, by omega, by simp; exact i64_succ s (by omega), b3⟩
      · obtain ⟨w2, W6, W7, b1, b2, b3⟩ := hfinal false
        refine wpK_reg1 (fun R hR => by simp [h3, h8, h9, h14, hl1, hsG, opBuildSlice, aParts, bs23, aValW, b1, opStore, b2]; exact hR) ?_
        refine wpK_reg1 (fun R hR => by simp [h9]; exact hR) ?_
        exact hI (k - 1) _ _ (by omega) ⟨rfl, rfl, by simp [h1], by simp [h3], by simp [h6], by simp [h7], by simp [h8], s + 1, by omega, by omega, by simp; exact i64_succ s (by omega), b3⟩
  · rintro A' W' h; exact h.elim
  · rintro ⟨t, m, ds⟩ W' ⟨hm, hd, h6, h8, hinv⟩
    simp only at hm hd h6 h8
    subst hm; subst hd
    obtain ⟨hE, hroom, hbox, ⟨c6, hg6⟩, col, r, nx, gd, v1, v2, c8, hc0, hcf, hg8, hc80, hc81, hc82, hv1, hv2, hrows⟩ := hinv
    have hl8 : aLoadVar T0 W' 25 (W.next + 2) 0 = some (.agg ⟨[.int .i64 L, v1, v2]⟩) := by
      refine load25 ?_
      simp only [AW.cellsAt, hg8]
      refine take_get c8 3 0 _ rfl (fun j hj => ?_)
      rw [Nat.zero_add]
      match j, hj with
      | 0, _ => rw [hc80]; rfl
      | 1, _ => rw [hc81]; rfl
      | 2, _ => rw [hc82]; rfl
    have hne1 : ((List.range n).map fun j => Value.slice (some ⟨r j, 0, none⟩) L 3) ≠ [] := by
      intro h; have := congrArg List.length h; simp at this; omega
    have hne2 : ((List.range n).map fun j => Value.bool (gd j)) ≠ [] := by
      intro h; have := congrArg List.length h; simp at this; omega
    obtain ⟨bN, rfl, hkN, hasN⟩ := hv1.has hne1
    obtain ⟨bG, rfl, hkG, hasG⟩ := hv2.has hne2
    simp only [List.length_map, List.length_range] at hl8
    obtain ⟨W₅, hs1, hs2, hs3, hs4⟩ := storeVar_own (T := T0) (t := 25) (v := autoV L n bN 0 3 bG 0 3) (o := 0) inf25 (by kernel_rfl) hg6 (by show 0 + 3 ≤ 3; omega) rfl
    refine wpK_reg (fun R hR => by simp [h6, h8, hl8, opStore, hs1]; exact hR) ?_
    have hO : Only (fun b => b = W.next + 1) W' W₅ := ⟨by rw [hs2]; exact Nat.le_refl _, fun b _ hb => hs3 b hb⟩
    have hl6 : aLoadVar T0 W₅ 25 (W.next + 1) 0 = some (autoV L n bN 0 3 bG 0 3) := by
      refine load25 ?_
      simp only [AW.cellsAt, hs4]
      refine take_get _ 3 0 _ rfl (fun j hj => ?_)
      rw [Tr.get_lay]
      simp only [acells, List.length_cons, List.length_nil, Nat.zero_add, Nat.zero_le, true_and, Nat.sub_zero]
      rw [if_pos hj]
    refine wpK_ret ⟨.inr rfl, rfl, [autoV L n bN 0 3 bG 0 3], ?_, ⟨by have := hE.1; omega, fun b hb _ => ?_⟩, n, bN, bG, nx, gd, rfl, hn1, hn12, ?_, ?_, ?_, ?_, ?_⟩
    · show aResults T0 W₅ _ [.cell 6 25] = _
      simp [h6, hl6]
    · rw [hs3 b (by omega), hE.2 b hb (fun x => x)]
    · by_cases x : W.next ≤ bN
      · exact x
      · have := hc0 bN (by omega); rw [hkN] at this; cases this
    · by_cases x : W.next ≤ bG
      · exact x
      · have := hc0 bG (by omega); rw [hkG] at this; cases this
    · intro s hs
      have hNs := hasN s (.slice (some ⟨r s, 0, none⟩) L 3) (by simp [hs])
      have hb6 : bN ≠ W.next + 1 := fun e => by have := hc0 bN (by omega); rw [hkN] at this; cases this
      obtain ⟨q1, q2, q3, q4⟩ := hrows s hs
      refine ⟨r s, 0, 3, by omega, by rw [Nat.zero_add]; exact hNs.only hO hb6, fun i hi => ?_⟩
      rw [Nat.zero_add]
      exact (q4 i hi).1.only hO (by omega)
    · intro s hs
      have hGs := hasG s (.bool (gd s)) (by simp [hs])
      have hb6 : bG ≠ W.next + 1 := fun e => by have := hc0 bG (by omega); rw [hkG] at this; cases this
      rw [Nat.zero_add]
      exact hGs.only hO hb6
    · exact fun s i hs hi => ((hrows s hs).2.2.2 i hi).2
end Go.Proofs.Ytnnfobmfffbhaaa

open Go Go.Eng
namespace Go.Proofs.Ytnnfobmfffbhaaa
attribute [local congr] undef_congr WpK.congr WpS.congr WpL.congr WpC.congr WpF.congr gotS.congr callS.congr nextS.congr wantS.congr condS.congr
attribute [local irreducible] WpK
attribute [local simp] WpDr_nil WpDr_cons atS_some dwantS_true dwantS_false kindS_light kindS_float kindS_heavy lightS_value floatS_some heavyS_value heavyS_skip heavyS_enter dcallS_some doneS_eq
  isLight isFloat isPlain dLook testBit_dec dChain dLights_nil dLights_skip dLights_one dLight_nil dLight_cons dFreshes_nil dFreshes_one oneF_none oneF_some dFresh_nil dFresh_cons oneL_some oneW_true oneW_false sameV_value dPut dMay valEq arrEq listEq List.getElem?_cons Tr.get_nil dEnd
attribute [local simp] WpS_nil WpS_cons isDefer undef_false wantS_true wantS_false nextS_value nextS_skip nextS_enter callS_some gotS_some aWanted aOp aEvalF aEval opMove opAssign opPick aVal flat flat1 AAct.put opBinOp opConvert opIndex Tr.get_set Tr.get_lay aBin aResults tupled
  aCall aVals aCallB blt_dec ble_dec beq_dec aBinI_add aBinI_sub aBinI_lss aBinI_leq aBinI_gtr aBinI_geq aBinI_eql aBinI_neq index_str len_str len_slice Nat.beq_refl und3 und37 und5 und9
  opBox opLoad opFieldAddr opIndexAddr acells aAddr field25 und22 und23 und43 und4 und28
attribute [local simp] field31 conv_3_5 conv_3_37 conv_37_3 conv_5_3
set_option maxHeartbeats 4000000


theorem fun12 : T0.funcs.get 17 = some Try.f17 := by kernel_rfl
theorem valEq_slice (a : Option Addr) (n c : Nat) : valEq (.slice a n c) (.slice a n c) = true := by
  rcases a with _ | ⟨b, o, s⟩ <;> simp [valEq]
theorem bool_ne (xo yo : Operand) (a : Bool) : aBin T0 .neq 4 xo yo (.bool a) (.bool a) = some (.bool false) := by
  simp [aBin, aGuard, aBinO, aEq, und4]

theorem letters_wp (n : Int) (W : AW) : WpF T0 8 [.int .i64 n] W (fun v W' => W' = W ∧ ∃ k : Nat, v = .int .i64 k ∧ 1 ≤ k ∧ k ≤ 4) := by
  refine wpF fun6 rfl ?_
  refine wpK_reg (fun R hR => by simp; exact hR) ?_
  have hrem := aBinI_rem .u64 (IntKind.u64.wrap (IntKind.i64.wrap (n + 3))) 4 (by omega)
  have hr := u64_range (IntKind.i64.wrap (n + 3))
  obtain ⟨x, hx⟩ : ∃ x : Nat, (IntKind.u64.wrap (IntKind.i64.wrap (n + 3))).tmod 4 = x := ⟨((IntKind.u64.wrap (IntKind.i64.wrap (n + 3))).tmod 4).toNat, by rw [Int.toNat_of_nonneg (Int.tmod_nonneg _ hr.1)]⟩
  have hx4 : x < 4 := by
    have := Int.tmod_lt_of_pos (IntKind.u64.wrap (IntKind.i64.wrap (n + 3))) (show (0 : Int) < 4 by omega)
    omega
  have hw : IntKind.i64.wrap (x : Int) = x := i64_nat x (by omega)
  have hw2 : IntKind.i64.wrap (1 + (x : Int)) = ((1 + x : Nat) : Int) := by rw [IntWalk.i64_in _ (by omega)]; omega
  refine wpK_reg (fun R hR => by simp [hrem, hx, hw, hw2]; exact hR) ?_
  refine wpK_ret ⟨.inr rfl, rfl, [.int .i64 ((1 + x : Nat) : Int)], by simp, rfl, 1 + x, rfl, by omega, by omega⟩

end Go.Proofs.Ytnnfobmfffbhaaa
