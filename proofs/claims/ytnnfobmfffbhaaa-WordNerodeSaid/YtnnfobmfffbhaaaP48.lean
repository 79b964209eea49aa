import Derived.Test.YtnnfobmfffbhaaaP46
import Derived.Test.YtnnfobmfffbhaaaEngAs
set_option linter.unusedSimpArgs false
set_option linter.unusedVariables false
set_option linter.unusedSectionVars false
open Go Go.Eng
namespace Go.Proofs.Ytnnfobmfffbhaaa
attribute [local congr] undef_congr WpK.congr WpS.congr WpL.congr WpC.congr WpF.congr gotS.congr callS.congr nextS.congr wantS.congr condS.congr
attribute [local irreducible] WpK
attribute [local simp] WpDr_nil WpDr_cons atS_some dwantS_true dwantS_false kindS_light kindS_float kindS_heavy lightS_value floatS_some heavyS_value heavyS_skip heavyS_enter dcallS_some doneS_eq
  isLight isFloat isPlain dLook testBit_dec dChain dLights_nil dLights_skip dLights_one dLight_nil dLight_cons dFreshes_nil dFreshes_one oneF_none oneF_some dFresh_nil dFresh_cons oneL_some oneW_true oneW_false sameV_value dPut dMay valEq arrEq listEq List.getElem?_cons Tr.get_nil dEnd
attribute [local simp] WpS_nil WpS_cons isDefer undef_false wantS_true wantS_false nextS_value nextS_skip nextS_enter callS_some gotS_some aWanted aOp aEvalF aEval opMove opAssign opPick aVal flat flat1 AAct.put opBinOp opConvert opIndex Tr.get_set Tr.get_lay aBin aResults tupled
  aCall aVals aCallB blt_dec ble_dec beq_dec aBinI_add aBinI_sub aBinI_lss aBinI_leq aBinI_gtr aBinI_geq aBinI_eql aBinI_neq index_str len_str len_slice Nat.beq_refl und3 und37 und5 und9
  opBox opLoad opFieldAddr opIndexAddr acells aAddr field25 und22 und23 und43 und4 und28
attribute [local simp] field31 conv_3_5 conv_3_37 conv_37_3 conv_5_3
set_option maxHeartbeats 4000000
theorem fnLetter : T0.funcs.get 39 = some Try.f39 := by kernel_rfl
theorem fnParted : T0.funcs.get 22 = some Try.f22 := by kernel_rfl
theorem undPair : T0.und.get 90 = some Try.t89.desc := by kernel_rfl
theorem undPairs : T0.und.get 91 = some (.slice 90) := by kernel_rfl
theorem infPair : T0.info.get 90 = some Try.t90 := by kernel_rfl
theorem szPair : aSize T0 90 = some 3 := by kernel_rfl
theorem zPair : Try.t90.zero = some (.agg ⟨[.int .i64 0, .int .i64 0, .string ⟨⟨[]⟩⟩]⟩) := by kernel_rfl
theorem sPair : Try.t90.size = 3 := by kernel_rfl
theorem bPair : Try.t90.bytes = 32 := by kernel_rfl
theorem zeroPair : aZero T0 90 = some (.agg ⟨[.int .i64 0, .int .i64 0, .string ⟨⟨[]⟩⟩]⟩) := by kernel_rfl
theorem fieldPair (b o f : Nat) (hf : f < 3) : aField T0 90 (.pointer (some ⟨b, o, none⟩)) f = some (.pointer (some ⟨b, o + f, none⟩)) := by
  match f, hf with
  | 0, _ => rfl
  | 1, _ => rfl
  | 2, _ => rfl
theorem bldPair2 (a b : Int) : aBuild T0 90 [(0, .int .i64 a), (1, .int .i64 b)] = some (.agg ⟨[.int .i64 a, .int .i64 b, .string ⟨⟨[]⟩⟩]⟩) := by kernel_rfl
theorem bldPair3 (a b : Int) (w : ByteArray) : aBuild T0 90 [(0, .int .i64 a), (1, .int .i64 b), (2, .string w)] = some (.agg ⟨[.int .i64 a, .int .i64 b, .string w]⟩) := by kernel_rfl
theorem bsPairs (W : AW) (a b : Int) (w : ByteArray) : aBuildSlice T0 W 91 1 [(0, .agg ⟨[.int .i64 a, .int .i64 b, .string w]⟩)] = some (.slice (some ⟨W.next, 0, none⟩) 1 2, W.newCells 90 [.int .i64 a, .int .i64 b, .string w]) := by kernel_rfl
theorem mk23 (W : AW) (n : Nat) (hn : n ≤ 100000) : aMakeSlice T0 W 23 (.int .i64 n) (.int .i64 n) = some (.slice (some ⟨W.next, 0, none⟩) n (2 * n), W.newCells 4 (rep [.bool false] n)) := by
  show aMakeSlice T0 W 23 (.int .i64 (Int.ofNat n)) (.int .i64 (Int.ofNat n)) = _
  have b4 : Try.t4.bytes = 1 := by kernel_rfl
  simp only [aMakeSlice, und23, inf4, t4z, b4, t4s, ble_dec, acells, List.length_cons, List.length_nil, Nat.beq_refl, Nat.one_mul]
  rw [decide_eq_true (Nat.le_refl n), decide_eq_true (by omega), decide_eq_true (by omega)]
theorem loadPair {W : AW} {b o : Nat} {x y z : Value} (h0 : W.Has b o x) (h1 : W.Has b (o + 1) y) (h2 : W.Has b (o + 2) z) : aLoadVar T0 W 90 b o = some (.agg ⟨[x, y, z]⟩) := by
  refine loadVar_agg undPair (by kernel_rfl) infPair (cellsAt_of_cells rfl ?_ (fun j hj => ?_) (by show 0 < 3; omega))
  · have := h0.2
    simp only [AW.cell] at this
    cases hb : W.blocks.get b with
    | none => rw [hb] at this; cases this
    | some k => exact ⟨k, rfl⟩
  · have hj3 : j < 3 := hj
    match j, hj3 with
    | 0, _ => exact h0.2
    | 1, _ => exact h1.2
    | 2, _ => exact h2.2
/-- a letter -/
def ltr (x : Nat) : List UInt8 := [UInt8.ofNat (97 + x)]
/-- a letter as a string -/
theorem letter_wp (x : Nat) (hx : x < 4) (W : AW) : WpF T0 39 [.int .i64 x] W (fun v W' => Ext W W' ∧ v = .string ⟨⟨ltr x⟩⟩) := by
  refine wpF fnLetter rfl ?_
  refine wpK_reg (fun R hR => by simp; exact hR) ?_
  have hw : IntKind.i64.wrap (97 + (x : Int)) = 97 + x := IntWalk.i64_in _ (by omega)
  have hw2 : IntKind.u8.wrap (97 + (x : Int)) = 97 + x := IntWalk.u8_in _ (by omega)
  have hcv : aConv T0 (W.newCells 5 [.int .u8 (97 + (x : Int))]) 92 9 (.slice (some ⟨W.next, 0, none⟩) 1 2) = some (.string ⟨⟨ltr x⟩⟩) := by
    simp only [aConv, und38, und9, und5, newCells_cellsAt W 5 [.int .u8 (97 + (x : Int))] 1 rfl, bytesOf]
    rw [show (97 + (x : Int)).toNat = 97 + x from by omega]
    rfl
  refine wpK_reg (fun R hR => by simp [hw, hw2, opBuildSlice, aParts, aValW, bs38, hcv]; exact hR) ?_
  exact wpK_ret ⟨.inr rfl, rfl, [.string ⟨⟨ltr x⟩⟩], by simp, .newCells _ _ _, rfl⟩

/-- what Parted keeps of its own -/
structure PtI (base bS : Nat) (n n' m : Nat) (l : List (Nat × Nat × List UInt8)) (v : Value) (W : AW) : Prop where
  lt : bS < W.next
  seen : ∃ c, W.blocks.get bS = some ⟨.cells c (n * n') 4, []⟩ ∧ ∀ q, q < n * n' → c.get q = some (.bool (l.any (fun e => codeP n' e == q)))
  list : ∃ colL : Nat → Nat, HeldN W v l.length (flatE l) 90 3 (fun b => colL b = 1) ∧ ∀ b, colL b ≠ 0 → base ≤ b ∧ b < W.next ∧ b ≠ bS
  ok : RbOk n n' m l
theorem PtI.only {base bS n n' m : Nat} {l : List (Nat × Nat × List UInt8)} {v : Value} {W W' : AW} (h : PtI base bS n n' m l v W) (hE : Ext W W') : PtI base bS n n' m l v W' where
  lt := Nat.lt_of_lt_of_le h.lt hE.1
  seen := let ⟨c, h1, h2⟩ := h.seen; ⟨c, by rw [hE.2 bS h.lt (fun x => x)]; exact h1, h2⟩
  list := let ⟨colL, h1, h2⟩ := h.list; ⟨colL, h1.only hE (fun _ _ _ x => x), fun b hb => let ⟨a, b', c⟩ := h2 b hb; ⟨a, Nat.lt_of_lt_of_le b' hE.1, c⟩⟩
  ok := h.ok
end Go.Proofs.Ytnnfobmfffbhaaa

open Go Go.Eng
namespace Go.Proofs.Ytnnfobmfffbhaaa
attribute [local congr] undef_congr WpK.congr WpS.congr WpL.congr WpC.congr WpF.congr gotS.congr callS.congr nextS.congr wantS.congr condS.congr
attribute [local irreducible] WpK
attribute [local simp] WpDr_nil WpDr_cons atS_some dwantS_true dwantS_false kindS_light kindS_float kindS_heavy lightS_value floatS_some heavyS_value heavyS_skip heavyS_enter dcallS_some doneS_eq
  isLight isFloat isPlain dLook testBit_dec dChain dLights_nil dLights_skip dLights_one dLight_nil dLight_cons dFreshes_nil dFreshes_one oneF_none oneF_some dFresh_nil dFresh_cons oneL_some oneW_true oneW_false sameV_value dPut dMay valEq arrEq listEq List.getElem?_cons Tr.get_nil dEnd
attribute [local simp] WpS_nil WpS_cons isDefer undef_false wantS_true wantS_false nextS_value nextS_skip nextS_enter callS_some gotS_some aWanted aOp aEvalF aEval opMove opAssign opPick aVal flat flat1 AAct.put opBinOp opConvert opIndex Tr.get_set Tr.get_lay aBin aResults tupled
  aCall aVals aCallB blt_dec ble_dec beq_dec aBinI_add aBinI_sub aBinI_lss aBinI_leq aBinI_gtr aBinI_geq aBinI_eql aBinI_neq index_str len_str len_slice Nat.beq_refl und3 und37 und5 und9
  opBox opLoad opFieldAddr opIndexAddr acells aAddr field25 und22 und23 und43 und4 und28
attribute [local simp] field31 conv_3_5 conv_3_37 conv_37_3 conv_5_3
set_option maxHeartbeats 4000000
attribute [local simp] fieldPair
theorem rep_get (v : Value) : ∀ (n q : Nat), q < n → (rep [v] n)[q]? = some v
  | 0, _, h => by omega
  | n + 1, 0, _ => rfl
  | n + 1, q + 1, h => by
    show ([v] ++ rep [v] n)[q + 1]? = _
    rw [List.getElem?_append_right (by simp)]
    simpa using rep_get v n q (by omega)
/-- what Parted keeps of its own; the names av are none of its list's -/
structure PtA (base bS : Nat) (av : Nat → Prop) (n n' m : Nat) (l : List (Nat × Nat × List UInt8)) (v : Value) (W : AW) : Prop where
  lt : base ≤ bS ∧ bS < W.next
  seen : ∃ c, W.blocks.get bS = some ⟨.cells c (n * n') 4, []⟩ ∧ ∀ q, q < n * n' → c.get q = some (.bool (l.any (fun e => codeP n' e == q)))
  list : ∃ colL : Nat → Nat, HeldN W v l.length (flatE l) 90 3 (fun b => colL b = 1) ∧ ∀ b, colL b ≠ 0 → base ≤ b ∧ b < W.next ∧ b ≠ bS ∧ ¬ av b
  ok : RbOk n n' m l
theorem PtA.only {base bS n n' m : Nat} {av : Nat → Prop} {l : List (Nat × Nat × List UInt8)} {v : Value} {W W' : AW} (h : PtA base bS av n n' m l v W) {K : Nat → Prop} (hE : Only K W W') (hK : ∀ b, K b → b = bS → False) (hK2 : ∀ b, K b → b < W.next → av b) : PtA base bS av n n' m l v W' where
  lt := ⟨h.lt.1, Nat.lt_of_lt_of_le h.lt.2 hE.1⟩
  seen := let ⟨c, h1, h2⟩ := h.seen; ⟨c, by rw [hE.2 bS h.lt.2 (fun x => hK bS x rfl)]; exact h1, h2⟩
  list := let ⟨colL, h1, h2⟩ := h.list; ⟨colL, h1.only hE (fun b hb hc hk => (h2 b (by rw [hc]; omega)).2.2.2 (hK2 b hk hb)), fun b hb => let ⟨a, b', c⟩ := h2 b hb; ⟨a, Nat.lt_of_lt_of_le b' hE.1, c⟩⟩
  ok := h.ok
theorem PtA.fresh {base bS n n' m : Nat} {av : Nat → Prop} {l : List (Nat × Nat × List UInt8)} {v : Value} {W : AW} (h : PtA base bS av n n' m l v W) : PtA base bS (fun b => av b ∨ W.next ≤ b) n n' m l v W where
  lt := h.lt
  seen := h.seen
  list := let ⟨colL, h1, h2⟩ := h.list; ⟨colL, h1, fun b hb => let ⟨a, b', c, d⟩ := h2 b hb; ⟨a, b', c, fun x => x.elim d (fun y => by omega)⟩⟩
  ok := h.ok
theorem PtA.av {base bS n n' m m' : Nat} {av av' : Nat → Prop} {l : List (Nat × Nat × List UInt8)} {v : Value} {W : AW} (h : PtA base bS av n n' m l v W) (ha : ∀ b, av' b → av b) (hm : m ≤ m') : PtA base bS av' n n' m' l v W where
  lt := h.lt
  seen := h.seen
  list := let ⟨colL, h1, h2⟩ := h.list; ⟨colL, h1, fun b hb => let ⟨a, b', c, d⟩ := h2 b hb; ⟨a, b', c, fun x => d (ha b x)⟩⟩
  ok := h.ok.mono hm

theorem freshB_ext {W W' : AW} {el : TypeId} {l : List Value} (h : Ext (W.newCells el l) W') (hl : listEq l l = true) : freshB W' W.next el l = true := by
  have hlt : W.next < W'.next := by have := h.1; rw [newCells_next] at this; omega
  simp only [freshB, h.2 W.next (by rw [newCells_next]; omega) (fun x => x), newCells_get, if_pos, blt_dec, Nat.beq_refl, hlt, decide_true]
  rw [take_get (Tr.nil.lay 0 l) l.length 0 l rfl (fun j hj => by rw [Tr.get_lay, if_pos (by omega)]; simp)]
  exact hl
theorem PtA.add {base bS n n' m : Nat} {av : Nat → Prop} {l : List (Nat × Nat × List UInt8)} {v : Value} {W : AW} (h : PtA base bS av n n' m l v W) (hav : ∀ b, av b → b < W.next) (hbS : ¬ av bS) {s t : Nat} {w : List UInt8} (hs : s < n) (ht : t < n') (hw : w.length ≤ m) (hany : l.any (fun e => codeP n' e == s * n' + t) = false) (hM : n * n' ≤ 4096) :
    ∃ W5 v' W6, aStoreVar T0 W 4 bS (s * n' + t) (.bool true) = some W5 ∧ W5.next = W.next ∧ Only (fun b => b = bS) W W5 ∧
      aAppend T0 (W5.newCells 90 [.int .i64 s, .int .i64 t, .string ⟨⟨w⟩⟩]) [91, 91] [v, .slice (some ⟨W5.next, 0, none⟩) 1 2] = some (v', W6) ∧ Only (fun b => base ≤ b ∧ ¬ av b) W W6 ∧ W.next ≤ W6.next ∧ PtA base bS av n n' m (radd l s t w) v' W6 := by
  obtain ⟨c, hblk, hc⟩ := h.seen
  have hat : s * n' + t < n * n' := codeP_lt hs ht
  obtain ⟨W5, s1, s2, s3, s4⟩ := storeVar_own (T := T0) (t := 4) (W := W) (v := .bool true) (b := bS) (o := s * n' + t) inf4 rfl hblk (by show s * n' + t + 1 ≤ n * n'; omega) rfl
  have hO5 : Only (fun b => b = bS) W W5 := ⟨by omega, fun b _ hb => s3 b hb⟩
  obtain ⟨colL, hH, hcol⟩ := h.list
  have hH5 : HeldN W5 v l.length (flatE l) 90 3 (fun b => colL b = 1) := hH.only hO5 (fun b _ hb e => (hcol b (by rw [hb]; omega)).2.2.1 e)
  have hEn : Ext W5 (W5.newCells 90 [.int .i64 s, .int .i64 t, .string ⟨⟨w⟩⟩]) := .newCells _ _ _
  have hsz := h.ok.size
  obtain ⟨v', W6, a1, a2, a3, a4⟩ := append_heldN (T := T0) (t := 91) (i := Try.t90) (z := .agg ⟨[.int .i64 0, .int .i64 0, .string ⟨⟨[]⟩⟩]⟩) (sz := 3) (by omega) undPairs infPair sPair zPair rfl (hH5.only (K' := fun _ => False) hEn (fun _ _ _ x => x)) (u := [.int .i64 s, .int .i64 t, .string ⟨⟨w⟩⟩]) (bx := W5.next) (c := 2) rfl (newCells_cellsAt W5 90 [.int .i64 s, .int .i64 t, .string ⟨⟨w⟩⟩] 3 rfl) rfl (by rw [bPair]; omega) (by omega)
  rw [newCells_next] at a2
  have hlt := h.lt
  have hnc : ∀ b, b < W.next → ¬ (colL b = 1) → b ≠ bS → W6.blocks.get b = W.blocks.get b := fun b hb h1 h2 => by
    rw [a4.2 b (by rw [newCells_next]; omega) h1, hEn.2 b (by omega) (fun x => x), s3 b h2]
  have hradd : radd l s t w = l ++ [(s, t, w)] := by
    unfold radd
    rw [any_code h.ok.rng ht, hany]; rfl
  refine ⟨W5, v', W6, s1, s2, hO5, a1, ⟨by omega, fun b hb hx => ?_⟩, by omega, ⟨⟨hlt.1, by omega⟩, ⟨c.set (s * n' + t) (.bool true), ?_, fun q hq => ?_⟩, ⟨fun b => if b = W5.next + 1 then 1 else colL b, ?_, fun b hb => ?_⟩, h.ok.add hs ht hw⟩⟩
  · by_cases hcb : colL b = 1
    · have := hcol b (by omega)
      exact absurd ⟨this.1, this.2.2.2⟩ hx
    · by_cases hbs : b = bS
      · refine absurd ?_ hx
        subst hbs
        exact ⟨hlt.1, hbS⟩
      · exact hnc b hb hcb hbs
  · rw [a4.2 bS (by rw [newCells_next]; omega) (fun x => (hcol bS (by omega)).2.2.1 rfl), hEn.2 bS (by omega) (fun x => x)]
    exact s4
  · show (Tr.set c (s * n' + t) (.bool true)).get q = _
    rw [hradd, List.any_append, Tr.get_set]
    by_cases e : q = s * n' + t
    · rw [if_pos e]; simp [codeP, e]
    · rw [if_neg e, hc q hq]
      have : ¬ (s * n' + t = q) := fun x => e x.symm
      simp [codeP, this]
  · rw [hradd, List.length_append, flatE_append]
    refine a3.mono (fun b hb => ?_)
    show (if b = W5.next + 1 then 1 else colL b) = 1
    rcases hb with hb | hb
    · split
      · rfl
      · exact hb
    · rw [newCells_next] at hb; rw [if_pos hb]
  · have hb : (if b = W5.next + 1 then 1 else colL b) ≠ 0 := hb
    split at hb
    · exact ⟨by omega, by omega, by omega, fun x => by have := hav b x; omega⟩
    · obtain ⟨q1, q2, q3, q4⟩ := hcol b hb
      exact ⟨q1, by omega, q3, q4⟩

theorem parted_wp (L n bN oN cN bG oG cG n' bN' oN' cN' bG' oG' cG' : Nat) (nx nx' : Nat → Nat → Nat) (gd gd' : Nat → Bool) (S T : Nat) (W : AW) (hN : Rows W bN oN n L nx) (hG : Goods W bG oG n gd) (hN' : Rows W bN' oN' n' L nx') (hG' : Goods W bG' oG' n' gd')
    (hL4 : L ≤ 4) (hn64 : n ≤ 64) (hn64' : n' ≤ 64) (hnx : ∀ s i, s < n → i < L → nx s i < n) (hnx' : ∀ s i, s < n' → i < L → nx' s i < n') (hS : S < n) (hT : T < n') :
    WpF T0 22 [autoV L n bN oN cN bG oG cG, .int .i64 S, autoV L n' bN' oN' cN' bG' oG' cG', .int .i64 T] W (fun v W' => Ext W W' ∧ ∃ r ok, v = .tuple ⟨[.string ⟨⟨r⟩⟩, .bool ok]⟩ ∧ Parts gd gd' nx nx' L S T r ok) := by
  refine wpF fnParted rfl ?_
  refine wpK_reg (fun R hR => by simp; exact hR) ?_
  obtain ⟨W1, hW1, hE1, hn1, h4c, h6c⟩ : ∃ W1, W1 = (W.newCells 25 [.int .i64 L, .slice (some ⟨bN, oN, none⟩) n cN, .slice (some ⟨bG, oG, none⟩) n cG]).newCells 25 [.int .i64 L, .slice (some ⟨bN', oN', none⟩) n' cN', .slice (some ⟨bG', oG', none⟩) n' cG'] ∧ Ext W W1 ∧ W1.next = W.next + 2 ∧
      (∀ j u, [Value.int .i64 (L : Nat), .slice (some ⟨bN, oN, none⟩) n cN, .slice (some ⟨bG, oG, none⟩) n cG][j]? = some u → W1.Has W.next j u) ∧
      (∀ j u, [Value.int .i64 (L : Nat), .slice (some ⟨bN', oN', none⟩) n' cN', .slice (some ⟨bG', oG', none⟩) n' cG'][j]? = some u → W1.Has (W.next + 1) j u) :=
    ⟨_, rfl, (Only.newCells _ _ _).trans (Only.newCells _ _ _), rfl, fun j u h => (Has.newCells h).ext (.newCells _ _ _), fun j u h => Has.newCells h⟩
  rw [← hW1]
  simp only [newCells_next]
  clear hW1
  have hM : n * n' ≤ 64 * 64 := Nat.mul_le_mul hn64 hn64'
  have hwM : IntKind.i64.wrap ((n : Int) * (n' : Int)) = ((n * n' : Nat) : Int) := by rw [← Int.natCast_mul]; exact i64_nat _ (by omega)
  have hl41 := load_ext und22 rfl (h4c 1 _ rfl) (.refl _ W1)
  have hl61 := load_ext und22 rfl (h6c 1 _ rfl) (.refl _ W1)
  obtain ⟨M, hMM⟩ : ∃ M, M = n * n' := ⟨_, rfl⟩
  rw [← hMM] at hwM
  try simp only [wpK_assoc]
  refine wpK_reg (fun R hR => by simp [hl41, hl61, len_slice und22, aBinI_mul, hwM, opMakeSlice, aValW, mk23 W1 M (by omega)]; exact hR) ?_
  try simp only [wpK_assoc]
  refine wpK_reg (fun R hR => by simp [opBuild, aParts, bldPair2, opBuildSlice, aValW, bsPairs]; exact hR) ?_
  simp only [newCells_next]
  obtain ⟨W3, hW3, hE3, hn3, c0, hblk0, hc0, hls0, hls1, hls2, hlsb⟩ : ∃ W3, W3 = (W1.newCells 4 (rep [.bool false] M)).newCells 90 [.int .i64 S, .int .i64 T, .string ⟨⟨[]⟩⟩] ∧ Ext W1 W3 ∧ W3.next = W1.next + 2 ∧ ∃ c, W3.blocks.get W1.next = some ⟨.cells c M 4, []⟩ ∧ (∀ q, q < M → c.get q = some (.bool false)) ∧
      W3.Has (W1.next + 1) 0 (.int .i64 S) ∧ W3.Has (W1.next + 1) 1 (.int .i64 T) ∧ W3.Has (W1.next + 1) 2 (.string ⟨⟨[]⟩⟩) ∧ W3.blocks.get (W1.next + 1) = some ⟨.cells (Tr.nil.lay 0 [.int .i64 S, .int .i64 T, .string ⟨⟨[]⟩⟩]) 3 90, []⟩ := by
    refine ⟨_, rfl, (Only.newCells _ _ _).trans (Only.newCells _ _ _), rfl, Tr.nil.lay 0 (rep [.bool false] M), ?_, fun q hq => ?_, Has.newCells rfl, Has.newCells rfl, Has.newCells rfl, ?_⟩
    · rw [newCells_get, if_neg (by rw [newCells_next]; omega), newCells_get, if_pos rfl, rep_length]; simp
    · rw [Tr.get_lay, if_pos (by rw [rep_length]; simp; omega)]; simpa using rep_get (.bool false) M q hq
    · rw [newCells_get, if_pos (by rw [newCells_next])]; rfl
  rw [← hW3]
  clear hW3
  have hat : S * n' + T < M := by rw [hMM]; exact codeP_lt hS hT
  have hw1 : IntKind.i64.wrap ((S : Int) * (n' : Int)) = ((S * n' : Nat) : Int) := by rw [← Int.natCast_mul]; exact i64_nat _ (by omega)
  have hw2 : IntKind.i64.wrap (((S * n' : Nat) : Int) + (T : Int)) = ((S * n' + T : Nat) : Int) := by rw [← Int.natCast_add]; exact i64_nat _ (by omega)
  have hl61' := load_ext und22 rfl (h6c 1 _ rfl) hE3
  have hai := indexAddr_slice (b := W1.next) (o := 0) (c := 2 * M) (k := .i64) und23 sz4 hat
  simp only [Nat.zero_add, Nat.mul_one] at hai
  obtain ⟨W4, s1, s2, s3, s4⟩ := storeVar_own (T := T0) (t := 4) (W := W3) (v := .bool true) (b := W1.next) (o := S * n' + T) inf4 rfl hblk0 (by show S * n' + T + 1 ≤ M; omega) rfl
  generalize hcod : S * n' + T = at0 at hw2 hai s1 s4 hat
  generalize hSn : S * n' = sn at hw1 hw2
  try simp only [wpK_assoc]
  refine wpK_reg (fun R hR => by simp [hl61', len_slice und22, aBinI_mul, hw1, hw2, hai, opStore, s1]; exact hR) ?_
  try simp only [wpK_assoc]
  refine wpK_reg (fun R hR => by simp; exact hR) ?_
  have hE04 : Ext W W4 := ⟨by have := hE1.1; have := hE3.1; omega, fun b hb hx => by rw [s3 b (by omega), hE3.2 b (by omega) (fun x => x)]; exact hE1.2 b hb hx⟩
  have hE14 : Only (fun b => b = W1.next) W1 W4 := ⟨by have := hE3.1; omega, fun b hb hx => by rw [s3 b hx]; exact hE3.2 b hb (fun x => x)⟩
  have h4c' : ∀ j u, [Value.int .i64 (L : Nat), .slice (some ⟨bN, oN, none⟩) n cN, .slice (some ⟨bG, oG, none⟩) n cG][j]? = some u → W4.Has W.next j u := fun j u h => (h4c j u h).only hE14 (by omega)
  have h6c' : ∀ j u, [Value.int .i64 (L : Nat), .slice (some ⟨bN', oN', none⟩) n' cN', .slice (some ⟨bG', oG', none⟩) n' cG'][j]? = some u → W4.Has (W.next + 1) j u := fun j u h => (h6c j u h).only hE14 (by omega)
  have hP0 : PtA (W.next + 2) W1.next (fun _ => False) n n' 0 (rb nx nx' L S T 0) (.slice (some ⟨W1.next + 1, 0, none⟩) 1 2) W4 := by
    refine ⟨⟨by omega, by omega⟩, ⟨_, by rw [← hMM]; exact s4, fun q hq => ?_⟩, ⟨fun b => if b = W1.next + 1 then 1 else 0, .inl ⟨rfl, W1.next + 1, _, [], rfl, (by show 0 < 1; omega), by simp, by omega, by rw [s3 _ (by omega)]; exact hlsb, fun i hi => ?_, by simp⟩, fun b hb => ?_⟩, rb_ok hnx hnx' hS hT 0⟩
    · show (Tr.set c0 at0 (.bool true)).get q = _
      rw [Tr.get_set]
      by_cases e : q = at0
      · rw [if_pos e, e, ← hcod]
        simp [rb, codeP]
      · rw [if_neg e, hc0 q (by omega)]
        have : ¬ (S * n' + T = q) := by omega
        simp [rb, codeP, this]
    · rw [Tr.get_lay]
      rw [if_pos (by have : i < 3 := hi; simp; omega), Nat.sub_zero]; rfl
    · have hb : (if b = W1.next + 1 then 1 else 0) ≠ 0 := hb
      split at hb
      · rename_i e; exact ⟨by omega, by omega, by omega, fun x => x⟩
      · exact absurd rfl hb
  have hE4 : ∀ {W' : AW}, Only (fun b => W.next + 2 ≤ b) W4 W' → Ext W W' := fun {W'} h => ⟨Nat.le_trans hE04.1 h.1, fun b hb hx => by rw [h.2 b (Nat.lt_of_lt_of_le hb hE04.1) (by omega)]; exact hE04.2 b hb hx⟩
  have hn4 : W4.next = W.next + 4 := by omega
  refine wpK_while (I := fun k A W' => A.n = 114 ∧ A.defers = [] ∧ A.tmps.get 4 = some (.pointer (some ⟨W.next, 0, none⟩)) ∧ A.tmps.get 6 = some (.pointer (some ⟨W.next + 1, 0, none⟩)) ∧ A.tmps.get 10 = some (.slice (some ⟨W1.next, 0, none⟩) M (2 * M)) ∧ Only (fun b => W.next + 2 ≤ b) W4 W' ∧
        ∃ (i : Nat) (v : Value), k = M + 1 - i ∧ i ≤ (rb nx nx' L S T i).length ∧ A.tmps.get 11 = some v ∧ A.tmps.get 12 = some (.int .i64 i) ∧ PtA (W.next + 2) W1.next (fun _ => False) n n' i (rb nx nx' L S T i) v W' ∧ ∀ j e, j < i → (rb nx nx' L S T i)[j]? = some e → gd e.1 = gd' e.2.1)
      (J := fun A W' => A.n = 114 ∧ A.defers = [] ∧ Only (fun b => W.next + 2 ≤ b) W4 W' ∧ Parts gd gd' nx nx' L S T [] false)
      (Rt := fun A W' => A.defers = [] ∧ Only (fun b => W.next + 2 ≤ b) W4 W' ∧ ∃ r, A.tmps.get 8 = some (.string ⟨⟨r⟩⟩) ∧ A.tmps.get 9 = some (.bool true) ∧ Parts gd gd' nx nx' L S T r true) (k := M + 1) ?_ ?_ ?_ ?_
  · exact ⟨rfl, rfl, by simp, by simp, by simp, .refl _ _, 0, _, by omega, by simp, by simp, by simp, hP0, fun j e hj => by omega⟩
  · rintro k ⟨t, m, ds⟩ Wx ⟨hm, hd, h4, h6, h10, hOx, i, v, hk, hi, h11, h12, hP, hsame⟩ Q' hJ hRt hI
    simp only at hm hd h4 h6 h10 h11 h12
    subst hm; subst hd
    have hsz := hP.ok.size
    have hlp : 0 < (rb nx nx' L S T i).length := Nat.lt_of_lt_of_le (by simp [rb]) (rb_pres nx nx' L S T (Nat.zero_le i)).length_le
    obtain ⟨colL, hH, hcol⟩ := hP.list
    obtain ⟨bl, cl, rfl, hbl, hbln, hcells⟩ := hH.has hlp
    have hlx := hOx.1
    try simp only [wpK_assoc]
    by_cases hlt : i < (rb nx nx' L S T i).length
    case neg =>
      have hie : i = (rb nx nx' L S T i).length := by omega
      refine wpK_reg (fun R hR => by simp [h11, h12, len_slice undPairs, hlt]; exact hR) ?_
      exact wpK_out (by simp) (hJ _ _ ⟨rfl, rfl, hOx, i, hsame, .inl ⟨hie, rfl, rfl⟩⟩)
    refine wpK_reg (fun R hR => by simp [h11, h12, len_slice undPairs, hlt]; exact hR) ?_
    refine wpK_onT (by simp) ?_
    refine wpK_block ?_
    obtain ⟨⟨es, et, ew⟩, he⟩ : ∃ e, (rb nx nx' L S T i)[i]? = some e := ⟨_, List.getElem?_eq_getElem hlt⟩
    have hem := List.mem_of_getElem? he
    obtain ⟨hes, het⟩ := hP.ok.rng _ hem
    have hew := hP.ok.len _ hem
    simp only at hes het hew
    obtain ⟨f0, f1, f2⟩ := flatE_get he
    have hldp := loadPair (hcells _ _ f0) (hcells _ _ f1) (hcells _ _ f2)
    have hap := indexAddr_slice (b := bl) (o := 0) (c := cl) (k := .i64) undPairs szPair hlt
    simp only [Nat.zero_add] at hap
    obtain ⟨Wa, r1, r2, r3, r4⟩ := storeVar_own (T := T0) (t := 90) (W := Wx.newCells 90 [.int .i64 0, .int .i64 0, .string ⟨⟨[]⟩⟩]) (v := .agg ⟨[.int .i64 es, .int .i64 et, .string ⟨⟨ew⟩⟩]⟩) (b := Wx.next) (o := 0) infPair rfl (by rw [newCells_get, if_pos rfl]) (by show 0 + 3 ≤ 3; omega) rfl
    have hEa : Ext Wx Wa := ⟨by rw [r2, newCells_next]; omega, fun b hb _ => by rw [r3 b (by omega), newCells_get, if_neg (by omega)]⟩
    have hna : Wa.next = Wx.next + 1 := r2
    have hE0 : Wa.Has Wx.next 0 (.int .i64 es) := ⟨by omega, by simp [AW.cell, r4, blt_dec, Tr.get_lay, acells]⟩
    have hE1' : Wa.Has Wx.next 1 (.int .i64 et) := ⟨by omega, by simp [AW.cell, r4, blt_dec, Tr.get_lay, acells]⟩
    have hE2' : Wa.Has Wx.next 2 (.string ⟨⟨ew⟩⟩) := ⟨by omega, by simp [AW.cell, r4, blt_dec, Tr.get_lay, acells]⟩
    try simp only [wpK_assoc]
    refine wpK_reg (fun R hR => by simp [h11, h12, hap, hldp, opAlloc, zeroPair, opStore, r1]; exact hR) ?_
    have hPa := hP.fresh.only (K := fun _ => False) hEa (fun _ x => x.elim) (fun _ x => x.elim)
    have hOa : Only (fun b => W.next + 2 ≤ b) W4 Wa := hOx.trans (hEa.mono (fun _ _ x => x.elim))
    have hEW := hE4 hOa
    have h42 : Wa.Has W.next 2 _ := (h4c' 2 _ rfl).only hOa (by omega)
    have h62 : Wa.Has (W.next + 1) 2 _ := (h6c' 2 _ rfl).only hOa (by omega)
    have hgs := (hG es hes).ext hEW
    have hgt := (hG' et het).ext hEW
    have ha1 := indexAddr_slice (b := bG) (o := oG) (c := cG) (k := .i64) und23 sz4 hes
    have hb1 := indexAddr_slice (b := bG') (o := oG') (c := cG') (k := .i64) und23 sz4 het
    simp only [Nat.mul_one] at ha1 hb1
    try simp only [wpK_assoc]
    refine wpK_dr (wr := Tr.nil |>.set 48 0 |>.set 49 1 |>.set 50 2 |>.set 51 3 |>.set 52 4 |>.set 53 5 |>.set 54 6 |>.set 55 7 |>.set 56 8 |>.set 57 9 |>.set 58 10 |>.set 59 11 |>.set 60 12) (bits := Tr.nil.lay 0 [0, 1, 0, 4, 15, 31, 0, 64, 0, 256, 960, 1984, 4095]) (ord := [0, 1, 2, 3, 4, 5, 6, 7, 8, 9, 10, 11, 12])
      (J := fun A W' => A.n = 114 ∧ A.defers = [] ∧ A.tmps.get 4 = some (.pointer (some ⟨W.next, 0, none⟩)) ∧ A.tmps.get 6 = some (.pointer (some ⟨W.next + 1, 0, none⟩)) ∧ A.tmps.get 10 = some (.slice (some ⟨W1.next, 0, none⟩) M (2 * M)) ∧ A.tmps.get 11 = some (.slice (some ⟨bl, 0, none⟩) (rb nx nx' L S T i).length cl) ∧ A.tmps.get 12 = some (.int .i64 i) ∧ A.tmps.get 13 = some (.pointer (some ⟨Wx.next, 0, none⟩)) ∧
        A.tmps.get 60 = some (.bool (!(gd es == gd' et))) ∧ W' = Wa) (by kernel_rfl) (by kernel_rfl) (by kernel_rfl) (fun G hG' => ?_) ?_
    · simp [h4, h6, load_ext und23 rfl h42 (.refl _ _), load_ext und23 rfl h62 (.refl _ _), load_ext und3 rfl hE0 (.refl _ _), load_ext und3 rfl hE1' (.refl _ _), load_ext und4 rfl hgs (.refl _ _), load_ext und4 rfl hgt (.refl _ _), ha1, hb1, aGuard, aBinO, aEq, und4]
      apply hG'
      exact ⟨rfl, rfl, by simp [h4], by simp [h6], by simp [h10], by simp [h11], by simp [h12], by simp, by simp, rfl⟩
    rintro ⟨t, m, ds⟩ Wa' ⟨hm, hd, h4, h6, h10, h11, h12, h13, h60, rfl⟩
    simp only at hm hd h4 h6 h10 h11 h12 h13 h60
    subst hm; subst hd
    try simp only [wpK_assoc]
    by_cases hag : gd es = gd' et
    case neg =>
      refine wpK_condT (by simp [h60, hag]) ?_
      refine wpK_reg (fun R hR => by simp [h13, load_ext und9 rfl hE2' (.refl _ _)]; exact hR) ?_
      exact wpK_ret (hRt _ _ ⟨rfl, hOa, ew, by simp, by simp, i, hsame, .inr ⟨_, he, hag, rfl, rfl⟩⟩)
    refine wpK_onF (by simp [h60, hag]) ?_
    try simp only [wpK_assoc]
    refine wpK_reg (fun R hR => by simp; exact hR) ?_
    have hPi : PtA (W.next + 2) W1.next (fun b => b = Wx.next) n n' (i + 1) (rb nx nx' L S T i) (.slice (some ⟨bl, 0, none⟩) (rb nx nx' L S T i).length cl) Wa' := hPa.av (fun b hb => .inr (by omega)) (Nat.le_succ i)
    have hbS : W1.next < Wx.next := by omega
    refine wpK_while1 (I := fun k A W' => A.n = 114 ∧ A.defers = [] ∧ A.tmps.get 4 = some (.pointer (some ⟨W.next, 0, none⟩)) ∧ A.tmps.get 6 = some (.pointer (some ⟨W.next + 1, 0, none⟩)) ∧ A.tmps.get 10 = some (.slice (some ⟨W1.next, 0, none⟩) M (2 * M)) ∧ A.tmps.get 12 = some (.int .i64 i) ∧ A.tmps.get 13 = some (.pointer (some ⟨Wx.next, 0, none⟩)) ∧
          Only (fun b => W.next + 2 ≤ b) W4 W' ∧ W'.Has Wx.next 0 (.int .i64 es) ∧ W'.Has Wx.next 1 (.int .i64 et) ∧ W'.Has Wx.next 2 (.string ⟨⟨ew⟩⟩) ∧
          ∃ (x : Nat) (v : Value), k = L - x ∧ x ≤ L ∧ A.tmps.get 14 = some (.int .i64 x) ∧ A.tmps.get 11 = some v ∧ PtA (W.next + 2) W1.next (fun b => b = Wx.next) n n' (i + 1) (rrow nx nx' (es, et, ew) x (rb nx nx' L S T i)) v W')
        (J := fun A W' => A.n = 114 ∧ A.defers = [] ∧ A.tmps.get 4 = some (.pointer (some ⟨W.next, 0, none⟩)) ∧ A.tmps.get 6 = some (.pointer (some ⟨W.next + 1, 0, none⟩)) ∧ A.tmps.get 10 = some (.slice (some ⟨W1.next, 0, none⟩) M (2 * M)) ∧ A.tmps.get 12 = some (.int .i64 i) ∧
          Only (fun b => W.next + 2 ≤ b) W4 W' ∧ ∃ (v : Value), A.tmps.get 11 = some v ∧ PtA (W.next + 2) W1.next (fun b => b = Wx.next) n n' (i + 1) (rrow nx nx' (es, et, ew) L (rb nx nx' L S T i)) v W')
        (Rt := fun _ _ => False) (k := L) ?_ ?_ ?_ ?_
    · exact ⟨rfl, rfl, by simp [h4], by simp [h6], by simp [h10], by simp [h12], by simp [h13], hOa, hE0, hE1', hE2', 0, _, by omega, by omega, by simp, by simp [h11], hPi⟩
    · rintro k' ⟨t, m, ds⟩ Wp ⟨hm, hd, h4, h6, h10, h12, h13, hOp, hp0, hp1, hp2, x, v, hk', hx, h14, h11, hPp⟩ Q'' hJ' hRt' hI'
      simp only at hm hd h4 h6 h10 h12 h13 h14 h11
      subst hm; subst hd
      have hlp4 := hOp.1
      have hxp := hp0.1
      have hlL := load_ext und3 rfl ((h4c' 0 _ rfl).only hOp (by omega)) (.refl _ Wp)
      try simp only [wpK_assoc]
      refine wpK_reg (fun R hR => by simp [h4, h14, hlL]; exact hR) ?_
      by_cases hxL : x < L
      case neg =>
        have hxe : x = L := by omega
        rw [hxe] at hPp
        exact wpK_out (by simp [hxL]) (hJ' _ _ ⟨rfl, rfl, by simp [h4], by simp [h6], by simp [h10], by simp [h12], hOp, v, by simp [h11], hPp⟩)
      refine wpK_onT (by simp [hxL]) ?_
      refine wpK_block ?_
      try simp only [wpK_assoc]
      -- the next pair
      have hEWp := hE4 hOp
      have h41 := (h4c' 1 _ rfl).only hOp (show ¬ W.next + 2 ≤ W.next from by omega)
      have h61 := (h6c' 1 _ rfl).only hOp (show ¬ W.next + 2 ≤ W.next + 1 from by omega)
      obtain ⟨ra, roa, ca, hra1, hra2⟩ := hN es hes
      obtain ⟨rb', rob, cb, hrb1, hrb2⟩ := hN' et het
      have hra1 := hra1.ext hEWp
      have hra2 := (hra2 x hxL).ext hEWp
      have hrb1 := hrb1.ext hEWp
      have hrb2 := (hrb2 x hxL).ext hEWp
      have i1 := indexAddr_slice (b := bN) (o := oN) (c := cN) (k := .i64) und22 sz43 hes
      have i2 := indexAddr_slice (b := ra) (o := roa) (c := ca) (k := .i64) und43 sz3 hxL
      have i3 := indexAddr_slice (b := bN') (o := oN') (c := cN') (k := .i64) und22 sz43 het
      have i4 := indexAddr_slice (b := rb') (o := rob) (c := cb) (k := .i64) und43 sz3 hxL
      simp only [Nat.mul_one] at i1 i2 i3 i4
      have hs' := hnx es x hes hxL
      have ht' := hnx' et x het hxL
      have hEn : Ext Wp (Wp.newCells 90 [.int .i64 0, .int .i64 0, .string ⟨⟨[]⟩⟩]) := .newCells _ _ _
      have hzz : listEq [Value.int .i64 0, .int .i64 0, .string ⟨⟨[]⟩⟩] [Value.int .i64 0, .int .i64 0, .string ⟨⟨[]⟩⟩] = true := by kernel_rfl
      have hvw : ∀ w : ByteArray, valEq (.string w) (.string w) = true := fun w => by simp [valEq]
      have hst : aStr .add ⟨⟨ew⟩⟩ ⟨⟨ltr x⟩⟩ = some (.string ⟨⟨ew ++ ltr x⟩⟩) := by
        simp only [aStr, ble_dec]
        rw [decide_eq_true (by simp [ltr]; omega)]
      generalize hse : nx es x = s' at hra2 hs'
      generalize hte : nx' et x = t' at hrb2 ht'
      refine wpK_dr (wr := Tr.nil |>.set 69 0 |>.set 70 1 |>.set 71 2 |>.set 72 3 |>.set 73 4 |>.set 74 5 |>.set 75 6 |>.set 76 7 |>.set 77 8 |>.set 78 9 |>.set 79 10 |>.set 80 11 |>.set 81 12 |>.set 82 13 |>.set 83 14 |>.set 84 15 |>.set 85 16 |>.set 86 17 |>.set 87 18 |>.set 88 19 |>.set 89 20 |>.set 90 21 |>.set 91 22 |>.set 92 23 |>.set 15 24) (bits := Tr.nil.lay 0 [0, 1, 0, 4, 15, 31, 0, 127, 255, 0, 512, 0, 2048, 7680, 15872, 0, 65024, 130560, 0, 262144, 0, 1048576, 3932160, 8388607, 0, 33554431]) (ord := [0, 1, 2, 3, 4, 5, 6, 7, 8, 9, 10, 11, 12, 13, 14, 15, 16, 17, 18, 19, 20, 24, 21, 22, 23, 25])
        (J := fun A W' => A.n = 114 ∧ A.defers = [] ∧ A.tmps.get 4 = some (.pointer (some ⟨W.next, 0, none⟩)) ∧ A.tmps.get 6 = some (.pointer (some ⟨W.next + 1, 0, none⟩)) ∧ A.tmps.get 10 = some (.slice (some ⟨W1.next, 0, none⟩) M (2 * M)) ∧ A.tmps.get 11 = some v ∧ A.tmps.get 12 = some (.int .i64 i) ∧ A.tmps.get 13 = some (.pointer (some ⟨Wx.next, 0, none⟩)) ∧ A.tmps.get 14 = some (.int .i64 x) ∧ A.tmps.get 15 = some (.pointer (some ⟨Wp.next, 0, none⟩)) ∧
          Only (fun b => Wp.next ≤ b) Wp W' ∧ Wp.next < W'.next ∧ W'.Has Wp.next 0 (.int .i64 s') ∧ W'.Has Wp.next 1 (.int .i64 t') ∧ W'.Has Wp.next 2 (.string ⟨⟨ew ++ ltr x⟩⟩)) (by kernel_rfl) (by kernel_rfl) (by kernel_rfl) (fun G hG' => ?_) ?_
      · simp [h4, h6, h13, h14, load_ext und22 rfl h41 (.refl _ _), load_ext und22 rfl h61 (.refl _ _), load_ext und3 rfl hp0 (.refl _ _), load_ext und3 rfl hp1 (.refl _ _), load_ext und9 rfl hp2 (.refl _ _), i1, i2, i3, i4, load_ext und43 rfl hra1 (.refl _ _), load_ext und43 rfl hrb1 (.refl _ _), load_ext und3 rfl hra2 (.refl _ _), load_ext und3 rfl hrb2 (.refl _ _),
          aFlt, zeroPair, AFlt.val, aEnter, fnLetter, short_other, aCallV]
        rw [dcallS_none]
        refine (letter_wp x (by omega) _).mono ?_
        rintro r Wq ⟨hEq, rfl⟩
        have hEnq := hEn.trans hEq
        have hnq := hEq.1
        rw [newCells_next] at hnq
        have hq0 : Wq.blocks.get Wp.next = some ⟨.cells (Tr.nil.lay 0 [.int .i64 0, .int .i64 0, .string ⟨⟨[]⟩⟩]) 3 90, []⟩ := by rw [hEq.2 Wp.next (by rw [newCells_next]; omega) (fun x => x), newCells_get, if_pos rfl]; rfl
        obtain ⟨Wr, q1, q2, q3, q4⟩ := storeVar_own (T := T0) (t := 90) (W := Wq) (v := .agg ⟨[.int .i64 s', .int .i64 t', .string ⟨⟨ew ++ ltr x⟩⟩]⟩) (b := Wp.next) (o := 0) infPair rfl hq0 (by show 0 + 3 ≤ 3; omega) rfl
        simp [h4, h6, h13, h14, load_ext und22 rfl h41 (.refl _ _), load_ext und22 rfl h61 (.refl _ _), load_ext und3 rfl hp0 (.refl _ _), load_ext und3 rfl hp1 (.refl _ _), load_ext und9 rfl hp2 (.refl _ _), i1, i2, i3, i4, load_ext und43 rfl hra1 (.refl _ _), load_ext und43 rfl hrb1 (.refl _ _), load_ext und3 rfl hra2 (.refl _ _), load_ext und3 rfl hrb2 (.refl _ _),
          load_ext und22 rfl h41 hEn, load_ext und22 rfl h61 hEn, load_ext und3 rfl hp0 hEn, load_ext und3 rfl hp1 hEn, load_ext und9 rfl hp2 hEn, load_ext und43 rfl hra1 hEn, load_ext und43 rfl hrb1 hEn, load_ext und3 rfl hra2 hEn, load_ext und3 rfl hrb2 hEn,
          load_ext und22 rfl h41 hEnq, load_ext und22 rfl h61 hEnq, load_ext und3 rfl hp0 hEnq, load_ext und3 rfl hp1 hEnq, load_ext und9 rfl hp2 hEnq, load_ext und43 rfl hra1 hEnq, load_ext und43 rfl hrb1 hEnq, load_ext und3 rfl hra2 hEnq, load_ext und3 rfl hrb2 hEnq,
          hst, opBuild, aParts, bldPair3, opStore, q1, q2, newCells_next, hnq, valEq_slice, freshB_new Wp 90 _ hzz, freshB_ext hEq hzz]
        apply hG'
        exact ⟨rfl, rfl, by simp [h4], by simp [h6], by simp [h10], by simp [h11], by simp [h12], by simp [h13], by simp [h14], by simp, ⟨by omega, fun b hb hx => by rw [q3 b (by omega)]; exact hEnq.2 b hb (fun x => x)⟩, by omega, ⟨by omega, by simp [AW.cell, q4, blt_dec, Tr.get_lay, acells]⟩, ⟨by omega, by simp [AW.cell, q4, blt_dec, Tr.get_lay, acells]⟩, ⟨by omega, by simp [AW.cell, q4, blt_dec, Tr.get_lay, acells]⟩⟩
      rintro ⟨t, m, ds⟩ Wr ⟨hm, hd, h4, h6, h10, h11, h12, h13, h14, h15, hOr, hlr, hr0, hr1, hr2⟩
      simp only at hm hd h4 h6 h10 h11 h12 h13 h14 h15
      subst hm; subst hd
      have hPr : PtA (W.next + 2) W1.next (fun b => b = Wx.next) n n' (i + 1) (rrow nx nx' (es, et, ew) x (rb nx nx' L S T i)) v Wr := (hPp.fresh.only hOr (fun b hb e => by subst e; have := hPp.lt.2; omega) (fun b hb _ => .inr hb)).av (fun b hb => .inl hb) (Nat.le_refl _)
      have hO4r : Only (fun b => W.next + 2 ≤ b) W4 Wr := hOp.trans (hOr.mono (fun b _ hb => by omega))
      have h61r := (h6c' 1 _ rfl).only hO4r (show ¬ W.next + 2 ≤ W.next + 1 from by omega)
      have hat' : s' * n' + t' < M := by rw [hMM]; exact codeP_lt hs' ht'
      have hwa : IntKind.i64.wrap ((s' : Int) * (n' : Int)) = ((s' * n' : Nat) : Int) := by rw [← Int.natCast_mul]; exact i64_nat _ (by omega)
      have hwb : IntKind.i64.wrap (((s' * n' : Nat) : Int) + (t' : Int)) = ((s' * n' + t' : Nat) : Int) := by rw [← Int.natCast_add]; exact i64_nat _ (by omega)
      obtain ⟨cs, hcs1, hcs2⟩ := hPr.seen
      have hsat := hcs2 (s' * n' + t') (by omega)
      have hseen : Wr.Has W1.next (s' * n' + t') (.bool ((rrow nx nx' (es, et, ew) x (rb nx nx' L S T i)).any (fun e => codeP n' e == s' * n' + t'))) := ⟨hPr.lt.2, by simp only [AW.cell, hcs1, blt_dec]; rw [decide_eq_true (by omega)]; exact hsat⟩
      have haj := indexAddr_slice (b := W1.next) (o := 0) (c := 2 * M) (k := .i64) und23 sz4 hat'
      simp only [Nat.zero_add, Nat.mul_one] at haj
      have hany := any_code (s := s') hPr.ok.rng ht'
      have hx0 := hp0.only hOr (show ¬ Wp.next ≤ Wx.next from by omega)
      have hx1 := hp1.only hOr (show ¬ Wp.next ≤ Wx.next from by omega)
      have hx2 := hp2.only hOr (show ¬ Wp.next ≤ Wx.next from by omega)
      have hstep : rrow nx nx' (es, et, ew) (x + 1) (rb nx nx' L S T i) = radd (rrow nx nx' (es, et, ew) x (rb nx nx' L S T i)) s' t' (ew ++ ltr x) := by
        rw [← hse, ← hte]; rfl
      obtain ⟨at', hat0⟩ : ∃ q, q = s' * n' + t' := ⟨_, rfl⟩
      rw [← hat0] at hwb hseen haj
      generalize hsn' : s' * n' = sn' at hwa hwb
      try simp only [wpK_assoc]
      refine wpK_reg (fun R hR => by simp [h6, h15, load_ext und3 rfl hr0 (.refl _ _), load_ext und3 rfl hr1 (.refl _ _), load_ext und22 rfl h61r (.refl _ _), len_slice und22, aBinI_mul, hwa, hwb]; exact hR) ?_
      try simp only [wpK_assoc]
      refine wpK_reg (fun R hR => by simp [h10, haj, load_ext und4 rfl hseen (.refl _ _), opUnOp, aUn]; exact hR) ?_
      have hwx := i64_succ x (by omega)
      cases hb : (rrow nx nx' (es, et, ew) x (rb nx nx' L S T i)).any (fun e => codeP n' e == at') with
      | true =>
        refine wpK_endF (by simp [hb]) (wpK_skip ?_)
        refine wpK_reg1 (fun R hR => by simp [h14, hwx]; exact hR) ?_
        refine hI' (L - (x + 1)) _ _ (by omega) ⟨rfl, rfl, by simp [h4], by simp [h6], by simp [h10], by simp [h12], by simp [h13], hO4r, hx0, hx1, hx2, x + 1, v, rfl, by omega, by simp, by simp [h11], ?_⟩
        have : radd (rrow nx nx' (es, et, ew) x (rb nx nx' L S T i)) s' t' (ew ++ ltr x) = rrow nx nx' (es, et, ew) x (rb nx nx' L S T i) := by
          unfold radd; rw [hany, ← hat0, hb]; rfl
        rw [hstep, this]; exact hPr
      | false =>
        refine wpK_endT (by simp [hb]) ?_
        obtain ⟨W5, v', W6, b1, b2, b3, b4, b5, b6, b7⟩ := hPr.add (fun b hb => by omega) (by omega) (s := s') (t := t') (w := ew ++ ltr x) hs' ht' (by rw [List.length_append]; simp [ltr]; omega) (by rw [← hat0]; exact hb) (by omega)
        rw [← hat0] at b1
        have hldp := loadPair (o := 0) (hr0.only b3 (show ¬ Wp.next = W1.next from by omega)) (hr1.only b3 (show ¬ Wp.next = W1.next from by omega)) (hr2.only b3 (show ¬ Wp.next = W1.next from by omega))
        try simp only [wpK_assoc]
        refine wpK_reg (fun R hR => by simp [h10, haj, opStore, b1]; exact hR) ?_
        refine wpK_reg1 (fun R hR => by simp [h11, h15, hldp, opBuildSlice, aParts, aValW, bsPairs, b4]; exact hR) ?_
        refine wpK_reg1 (fun R hR => by simp [h14, hwx]; exact hR) ?_
        refine hI' (L - (x + 1)) _ _ (by omega) ⟨rfl, rfl, by simp [h4], by simp [h6], by simp [h10], by simp [h12], by simp [h13], hO4r.trans (b5.mono (fun b _ hb => hb.1)), hx0.only b5 (fun y => y.2 rfl), hx1.only b5 (fun y => y.2 rfl), hx2.only b5 (fun y => y.2 rfl), x + 1, v', rfl, by omega, by simp, by simp, ?_⟩
        rw [hstep]; exact b7
    · rintro A' W' hf; exact hf.elim
    · rintro ⟨t, m, ds⟩ W' ⟨hm, hd, h4, h6, h10, h12, hO', v', h11, hP'⟩
      simp only at hm hd h4 h6 h10 h12 h11
      subst hm; subst hd
      have hwi := i64_succ i (by omega)
      refine wpK_reg1 (fun R hR => by simp [h12, hwi]; exact hR) ?_
      have hstep : rb nx nx' L S T (i + 1) = rrow nx nx' (es, et, ew) L (rb nx nx' L S T i) := by
        show (match (rb nx nx' L S T i)[i]? with | some e => rrow nx nx' e L (rb nx nx' L S T i) | none => rb nx nx' L S T i) = _
        rw [he]
      refine hI (M + 1 - (i + 1)) _ _ (by omega) ⟨rfl, rfl, by simp [h4], by simp [h6], by simp [h10], hO', i + 1, v', rfl, Nat.le_trans hlt (rb_pre nx nx' L S T i).length_le, by simp [h11], by simp, by rw [hstep]; exact hP'.av (fun b hb => hb.elim) (Nat.le_refl _), fun j e hj hje => ?_⟩
      obtain ⟨r, hr⟩ := rb_pre nx nx' L S T i
      rw [← hr, List.getElem?_append_left (by omega)] at hje
      by_cases e1 : j = i
      · rw [e1, he] at hje; cases hje; exact hag
      · exact hsame j e (by omega) hje
  · rintro ⟨t, m, ds⟩ W' ⟨hd, hO, r, h8, h9, hP⟩
    simp only at hd h8 h9
    subst hd
    exact ⟨.inr rfl, rfl, [.string ⟨⟨r⟩⟩, .bool true], by simp [h8, h9], hE4 hO, r, true, rfl, hP⟩
  · rintro ⟨t, m, ds⟩ W' ⟨hm, hd, hO, hP⟩
    simp only at hm hd
    subst hm; subst hd
    refine wpK_reg (fun R hR => by simp; exact hR) ?_
    exact wpK_ret ⟨.inr rfl, rfl, [.string ⟨⟨[]⟩⟩, .bool false], by simp, hE4 hO, [], false, rfl, hP⟩
end Go.Proofs.Ytnnfobmfffbhaaa

open Go Go.Eng
namespace Go.Proofs.Ytnnfobmfffbhaaa
attribute [local congr] undef_congr WpK.congr WpS.congr WpL.congr WpC.congr WpF.congr gotS.congr callS.congr nextS.congr wantS.congr condS.congr
attribute [local irreducible] WpK
attribute [local simp] WpDr_nil WpDr_cons atS_some dwantS_true dwantS_false kindS_light kindS_float kindS_heavy lightS_value floatS_some heavyS_value heavyS_skip heavyS_enter dcallS_some doneS_eq
  isLight isFloat isPlain dLook testBit_dec dChain dLights_nil dLights_skip dLights_one dLight_nil dLight_cons dFreshes_nil dFreshes_one oneF_none oneF_some dFresh_nil dFresh_cons oneL_some oneW_true oneW_false sameV_value dPut dMay valEq arrEq listEq List.getElem?_cons Tr.get_nil dEnd
attribute [local simp] WpS_nil WpS_cons isDefer undef_false wantS_true wantS_false nextS_value nextS_skip nextS_enter callS_some gotS_some aWanted aOp aEvalF aEval opMove opAssign opPick aVal flat flat1 AAct.put opBinOp opConvert opIndex Tr.get_set Tr.get_lay aBin aResults tupled
  aCall aVals aCallB blt_dec ble_dec beq_dec aBinI_add aBinI_sub aBinI_lss aBinI_leq aBinI_gtr aBinI_geq aBinI_eql aBinI_neq index_str len_str len_slice Nat.beq_refl und3 und37 und5 und9
  opBox opLoad opFieldAddr opIndexAddr acells aAddr field25 und22 und23 und43 und4 und28
attribute [local simp] field31 conv_3_5 conv_3_37 conv_37_3 conv_5_3
set_option maxHeartbeats 4000000
attribute [local simp] field57
theorem fnBoth : T0.funcs.get 42 = some Try.f42 := by kernel_rfl
theorem fnDiffer : T0.funcs.get 18 = some Try.f18 := by kernel_rfl
theorem fnRDiffer : T0.funcs.get 19 = some Try.f19 := by kernel_rfl
/-- an automaton in a box -/
theorem box28 {W : AW} {L n bN oN cN bG oG cG : Nat} : ∃ W1, W1 = W.newCells 28 [.int .i64 L, .slice (some ⟨bN, oN, none⟩) n cN, .slice (some ⟨bG, oG, none⟩) n cG] ∧ Ext W W1 ∧ W1.next = W.next + 1 ∧ W1.Has W.next 0 (.int .i64 L) ∧ (∀ W', Ext W1 W' → aLoadVar T0 W' 28 W.next 0 = some (autoV L n bN oN cN bG oG cG)) := by
  refine ⟨_, rfl, .newCells _ _ _, rfl, Has.newCells rfl, fun W' h => ?_⟩
  have hb0 : ∀ j u, [Value.int .i64 (L : Nat), .slice (some ⟨bN, oN, none⟩) n cN, .slice (some ⟨bG, oG, none⟩) n cG][j]? = some u → (W.newCells 28 [.int .i64 L, .slice (some ⟨bN, oN, none⟩) n cN, .slice (some ⟨bG, oG, none⟩) n cG]).Has W.next j u := fun j u h => Has.newCells h
  refine load31 (cellsAt_of_cells rfl ⟨_, by rw [h.2 _ (by rw [newCells_next]; omega) (fun x => x), newCells_get, if_pos rfl]⟩ (fun j hj => ?_) (by omega))
  rw [Nat.zero_add]
  match j, hj with
  | 0, _ => exact ((hb0 0 _ rfl).ext h).2
  | 1, _ => exact ((hb0 1 _ rfl).ext h).2
  | 2, _ => exact ((hb0 2 _ rfl).ext h).2
theorem box25 {W : AW} {L n bN oN cN bG oG cG : Nat} : ∃ W1, W1 = W.newCells 25 [.int .i64 L, .slice (some ⟨bN, oN, none⟩) n cN, .slice (some ⟨bG, oG, none⟩) n cG] ∧ Ext W W1 ∧ W1.next = W.next + 1 ∧ W1.Has W.next 0 (.int .i64 L) ∧ (∀ W', Ext W1 W' → aLoadVar T0 W' 25 W.next 0 = some (autoV L n bN oN cN bG oG cG)) := by
  refine ⟨_, rfl, .newCells _ _ _, rfl, Has.newCells rfl, fun W' h => ?_⟩
  have hb0 : ∀ j u, [Value.int .i64 (L : Nat), .slice (some ⟨bN, oN, none⟩) n cN, .slice (some ⟨bG, oG, none⟩) n cG][j]? = some u → (W.newCells 25 [.int .i64 L, .slice (some ⟨bN, oN, none⟩) n cN, .slice (some ⟨bG, oG, none⟩) n cG]).Has W.next j u := fun j u h => Has.newCells h
  refine load25 (cellsAt_of_cells rfl ⟨_, by rw [h.2 _ (by rw [newCells_next]; omega) (fun x => x), newCells_get, if_pos rfl]⟩ (fun j hj => ?_) (by omega))
  rw [Nat.zero_add]
  match j, hj with
  | 0, _ => exact ((hb0 0 _ rfl).ext h).2
  | 1, _ => exact ((hb0 1 _ rfl).ext h).2
  | 2, _ => exact ((hb0 2 _ rfl).ext h).2

theorem both_wp (L n bN oN cN bG oG cG n' bN' oN' cN' bG' oG' cG' : Nat) (nx nx' : Nat → Nat → Nat) (W : AW) (hN : Rows W bN oN n L nx) (hN' : Rows W bN' oN' n' L nx') (hL1 : 1 ≤ L) (hL4 : L ≤ 4) (hn : 1 ≤ n) (hn64 : n ≤ 64) (hn' : 1 ≤ n') (hn64' : n' ≤ 64)
    (hnx : ∀ s i, s < n → i < L → nx s i < n) (hnx' : ∀ s i, s < n' → i < L → nx' s i < n') :
    WpF T0 42 [autoV L n bN oN cN bG oG cG, autoV L n' bN' oN' cN' bG' oG' cG'] W (fun v W' => Ext W W' ∧ v = .int .i64 0) := by
  refine wpF fnBoth rfl ?_
  refine wpK_reg (fun R hR => by simp; exact hR) ?_
  obtain ⟨W1, hW1, hE1, hn1, hL, hl1⟩ := box28 (W := W) (L := L) (n := n) (bN := bN) (oN := oN) (cN := cN) (bG := bG) (oG := oG) (cG := cG)
  rw [← hW1]
  obtain ⟨W2, hW2, hE2, hn2, hL', hl2⟩ := box28 (W := W1) (L := L) (n := n') (bN := bN') (oN := oN') (cN := cN') (bG := bG') (oG := oG') (cG := cG')
  rw [← hW2]
  have hE02 := hE1.trans hE2
  try simp only [wpK_assoc]
  refine wpK_regc (J := fun A W' => A.n = 22 ∧ A.defers = [] ∧ A.tmps.get 2 = some (.pointer (some ⟨W.next, 0, none⟩)) ∧ A.tmps.get 3 = some (.pointer (some ⟨W1.next, 0, none⟩)) ∧ A.tmps.get 5 = some (.int .i64 0) ∧ Ext W2 W') (fun R hR => ?_) ?_
  · simp [hl1 W2 hE2, aEnter, fun15, short_other, aCallV]
    rw [callS_none]
    refine (check_wp L n bN oN cN bG oG cG nx W2 (hN.ext hE02) hL1 hL4 hn hn64 hnx).mono ?_
    rintro v W' ⟨hE, rfl⟩
    simp
    apply hR
    exact ⟨rfl, rfl, by simp, by simp, by simp, hE⟩
  rintro ⟨t, m, ds⟩ W3 ⟨hm, hd, h2, h3, h5, hE3⟩
  simp only at hm hd h2 h3 h5
  subst hm; subst hd
  try simp only [wpK_assoc]
  refine wpK_reg (fun R hR => by simp [h5]; exact hR) ?_
  refine wpK_onF (by simp) ?_
  try simp only [wpK_assoc]
  refine wpK_regc (J := fun A W' => A.n = 22 ∧ A.defers = [] ∧ A.tmps.get 2 = some (.pointer (some ⟨W.next, 0, none⟩)) ∧ A.tmps.get 3 = some (.pointer (some ⟨W1.next, 0, none⟩)) ∧ A.tmps.get 6 = some (.int .i64 0) ∧ Ext W2 W') (fun R hR => ?_) ?_
  · simp [h3, hl2 W3 hE3, aEnter, fun15, short_other, aCallV]
    rw [callS_none]
    refine (check_wp L n' bN' oN' cN' bG' oG' cG' nx' W3 ((hN'.ext hE02).ext hE3) hL1 hL4 hn' hn64' hnx').mono ?_
    rintro v W' ⟨hE, rfl⟩
    simp
    apply hR
    exact ⟨rfl, rfl, by simp [h2], by simp [h3], by simp, hE3.trans hE⟩
  rintro ⟨t, m, ds⟩ W4 ⟨hm, hd, h2, h3, h6, hE4⟩
  simp only at hm hd h2 h3 h6
  subst hm; subst hd
  try simp only [wpK_assoc]
  refine wpK_reg (fun R hR => by simp [h6]; exact hR) ?_
  refine wpK_onF (by simp) ?_
  try simp only [wpK_assoc]
  refine wpK_reg (fun R hR => by simp [h2, h3, load_ext und3 rfl hL (hE2.trans hE4), load_ext und3 rfl hL' hE4]; exact hR) ?_
  refine wpK_onF (by simp) ?_
  try simp only [wpK_assoc]
  refine wpK_reg (fun R hR => by simp; exact hR) ?_
  exact wpK_ret ⟨.inr rfl, rfl, [.int .i64 0], by simp, hE02.trans hE4, rfl⟩

/-- the first word by which two automata differ -/
theorem differ_wp (L n bN oN cN bG oG cG n' bN' oN' cN' bG' oG' cG' : Nat) (nx nx' : Nat → Nat → Nat) (gd gd' : Nat → Bool) (W : AW) (hN : Rows W bN oN n L nx) (hG : Goods W bG oG n gd) (hN' : Rows W bN' oN' n' L nx') (hG' : Goods W bG' oG' n' gd')
    (hL1 : 1 ≤ L) (hL4 : L ≤ 4) (hn : 1 ≤ n) (hn64 : n ≤ 64) (hn' : 1 ≤ n') (hn64' : n' ≤ 64) (hnx : ∀ s i, s < n → i < L → nx s i < n) (hnx' : ∀ s i, s < n' → i < L → nx' s i < n') :
    WpF T0 18 [autoV L n bN oN cN bG oG cG, autoV L n' bN' oN' cN' bG' oG' cG'] W (fun v W' => Ext W W' ∧ ∃ r ok, v = .tuple ⟨[.string ⟨⟨r⟩⟩, .bool ok, .int .i64 0]⟩ ∧ Parts gd gd' nx nx' L 0 0 r ok) := by
  refine wpF fnDiffer rfl ?_
  refine wpK_reg (fun R hR => by simp; exact hR) ?_
  obtain ⟨W1, hW1, hE1, hn1, hL, hl1⟩ := box28 (W := W) (L := L) (n := n) (bN := bN) (oN := oN) (cN := cN) (bG := bG) (oG := oG) (cG := cG)
  rw [← hW1]
  obtain ⟨W2, hW2, hE2, hn2, hL', hl2⟩ := box28 (W := W1) (L := L) (n := n') (bN := bN') (oN := oN') (cN := cN') (bG := bG') (oG := oG') (cG := cG')
  rw [← hW2]
  have hE02 := hE1.trans hE2
  try simp only [wpK_assoc]
  refine wpK_regc (J := fun A W' => A.n = 24 ∧ A.defers = [] ∧ A.tmps.get 2 = some (.pointer (some ⟨W.next, 0, none⟩)) ∧ A.tmps.get 3 = some (.pointer (some ⟨W1.next, 0, none⟩)) ∧ A.tmps.get 7 = some (.int .i64 0) ∧ Ext W2 W') (fun R hR => ?_) ?_
  · simp [hl1 W2 hE2, hl2 W2 (.refl _ _), aEnter, fnBoth, short_other, aCallV]
    rw [callS_none]
    refine (both_wp L n bN oN cN bG oG cG n' bN' oN' cN' bG' oG' cG' nx nx' W2 (hN.ext hE02) (hN'.ext hE02) hL1 hL4 hn hn64 hn' hn64' hnx hnx').mono ?_
    rintro v W' ⟨hE, rfl⟩
    simp
    apply hR
    exact ⟨rfl, rfl, by simp, by simp, by simp, hE⟩
  rintro ⟨t, m, ds⟩ W3 ⟨hm, hd, h2, h3, h7, hE3⟩
  simp only at hm hd h2 h3 h7
  subst hm; subst hd
  try simp only [wpK_assoc]
  refine wpK_reg (fun R hR => by simp [h7]; exact hR) ?_
  refine wpK_onF (by simp) ?_
  have hE03 := hE02.trans hE3
  have hvA : valEq (autoV L n bN oN cN bG oG cG) (autoV L n bN oN cN bG oG cG) = true := by simp [valEq, arrEq, listEq]
  have hvB : valEq (autoV L n' bN' oN' cN' bG' oG' cG') (autoV L n' bN' oN' cN' bG' oG' cG') = true := by simp [valEq, arrEq, listEq]
  try simp only [wpK_assoc]
  refine wpK_dr (wr := Tr.nil |>.set 15 0 |>.set 16 1 |>.set 17 2 |>.set 18 3 |>.set 19 4 |>.set 14 5 |>.set 20 6 |>.set 21 7 |>.set 4 8 |>.set 5 9) (bits := Tr.nil.lay 0 [0, 1, 0, 7, 15, 31, 63, 63, 127, 511]) (ord := [0, 1, 2, 3, 4, 5, 6, 7, 8, 9])
    (J := fun A W' => A.n = 24 ∧ A.defers = [] ∧ Ext W W' ∧ ∃ r ok, A.tmps.get 4 = some (.string ⟨⟨r⟩⟩) ∧ A.tmps.get 5 = some (.bool ok) ∧ Parts gd gd' nx nx' L 0 0 r ok) (by kernel_rfl) (by kernel_rfl) (by kernel_rfl) (fun G hG' => ?_) ?_
  · simp [h2, h3, hl1 W3 (hE2.trans hE3), hl2 W3 hE3, hvA, hvB, aEnter, fun22, short_other, aCallV]
    rw [dcallS_none]
    refine (reached_wp L n bN oN cN bG oG cG nx gd W3 (hN.ext hE03) (hG.ext hE03) hL1 hL4 hn hn64 hnx).mono ?_
    rintro r W4 ⟨hE4, keys, lB, lL, lN, bs, gs, c1, c2, hB, rfl, hr1, hr2⟩
    simp [h2, h3, hl1 W3 (hE2.trans hE3), hl2 W3 hE3, hl1 W4 ((hE2.trans hE3).trans hE4), hl2 W4 (hE3.trans hE4), hE4.1, hvA, hvB, aEnter, fun22, short_other, aCallV]
    rw [dcallS_none]
    rename_i hGG
    refine (reached_wp L n' bN' oN' cN' bG' oG' cG' nx' gd' W4 ((hN'.ext hE03).ext hE4) ((hGG.ext hE03).ext hE4) hL1 hL4 hn' hn64' hnx').mono ?_
    rintro r W5 ⟨hE5, keys', lB', lL', lN', bs', gs', c1', c2', hB', rfl, hr1', hr2'⟩
    simp [h2, h3, hl1 W3 (hE2.trans hE3), hl2 W3 hE3, hl1 W4 ((hE2.trans hE3).trans hE4), hl2 W4 (hE3.trans hE4), hl1 W5 (((hE2.trans hE3).trans hE4).trans hE5), hl2 W5 ((hE3.trans hE4).trans hE5), hE4.1, hE5.1, hvA, hvB, aEnter, fun23, short_other, aCallV]
    rw [dcallS_none]
    have hkp : 0 < keys.length := hB.pos.length_le
    have hkp' : 0 < keys'.length := hB'.pos.length_le
    have hnm := num_of (gd := gd) hL4 (by omega) hnx hB
    have hnm' := num_of (gd := gd') hL4 (by omega) hnx' hB'
    have hk1 : keys.length ≤ n := distS_len (hB.isK (isK := IsS n) (fun h => stepA_is (by omega) hnx h) ⟨0, by omega, rfl⟩) hB.dist
    have hk2 : keys'.length ≤ n' := distS_len (hB'.isK (isK := IsS n') (fun h => stepA_is (by omega) hnx' h) ⟨0, by omega, rfl⟩) hB'.dist
    have hkk : keys.length * keys'.length < 10000 := by
      have : keys.length * keys'.length ≤ 64 * 64 := Nat.mul_le_mul (by omega) (by omega)
      omega
    refine (part_wp L keys.length bs gs c1 c2 keys'.length bs' gs' c1' c2' L (mxOf lN) (mxOf lN') (mgOf gd keys) (mgOf gd' keys') 0 0 W5 ((machAt_of hB hr1 hr2).ext hE5) (machAt_of hB' hr1' hr2') hL4 hkp hkp' hkk hnm.mlt hnm'.mlt).mono ?_
    rintro r W6 ⟨hE6, w, ok, rfl, hP⟩
    obtain ⟨r, rfl, hPs⟩ := parts_of hnm hnm' hL4 hkp hkp' hP
    rw [hnm.zero.2, hnm'.zero.2] at hPs
    simp [h2, h3, hl1 W3 (hE2.trans hE3), hl2 W3 hE3, hl1 W4 ((hE2.trans hE3).trans hE4), hl2 W4 (hE3.trans hE4), hl1 W5 (((hE2.trans hE3).trans hE4).trans hE5), hl2 W5 ((hE3.trans hE4).trans hE5), hl1 W6 ((((hE2.trans hE3).trans hE4).trans hE5).trans hE6), hl2 W6 (((hE3.trans hE4).trans hE5).trans hE6), hE4.1, hE5.1, hE6.1, hvA, hvB, opExtract, aExtract]
    apply hG'
    exact ⟨rfl, rfl, ((hE03.trans hE4).trans hE5).trans hE6, r, ok, by simp, by simp, hPs⟩
  rintro ⟨t, m, ds⟩ W5 ⟨hm, hd, hE5, r, ok, h4, h5, hP⟩
  simp only at hm hd h4 h5
  subst hm; subst hd
  try simp only [wpK_assoc]
  refine wpK_reg (fun R hR => by simp [h4, h5]; exact hR) ?_
  exact wpK_ret ⟨.inr rfl, rfl, [.string ⟨⟨r⟩⟩, .bool ok, .int .i64 0], by simp, hE5, r, ok, rfl, hP⟩

theorem rdiffer_wp (L n bN oN cN bG oG cG n' bN' oN' cN' bG' oG' cG' : Nat) (nx nx' : Nat → Nat → Nat) (gd gd' : Nat → Bool) (W : AW) (hN : Rows W bN oN n L nx) (hG : Goods W bG oG n gd) (hN' : Rows W bN' oN' n' L nx') (hG' : Goods W bG' oG' n' gd')
    (hL4 : L ≤ 4) (hn : 1 ≤ n) (hn64 : n ≤ 64) (hn' : 1 ≤ n') (hn64' : n' ≤ 64) (hnx : ∀ s i, s < n → i < L → nx s i < n) (hnx' : ∀ s i, s < n' → i < L → nx' s i < n') :
    WpF T0 19 [autoV L n bN oN cN bG oG cG, autoV L n' bN' oN' cN' bG' oG' cG'] W (fun v W' => Ext W W' ∧ ∃ r ok, v = .tuple ⟨[.string ⟨⟨r⟩⟩, .bool ok]⟩ ∧ Parts gd gd' nx nx' L 0 0 r ok) := by
  refine wpF fnRDiffer rfl ?_
  refine wpK_reg (fun R hR => by simp; exact hR) ?_
  obtain ⟨W1, hW1, hE1, hn1, hL, hl1⟩ := box25 (W := W) (L := L) (n := n) (bN := bN) (oN := oN) (cN := cN) (bG := bG) (oG := oG) (cG := cG)
  rw [← hW1]
  obtain ⟨W2, hW2, hE2, hn2, hL', hl2⟩ := box25 (W := W1) (L := L) (n := n') (bN := bN') (oN := oN') (cN := cN') (bG := bG') (oG := oG') (cG := cG')
  rw [← hW2]
  have hE02 := hE1.trans hE2
  try simp only [wpK_assoc]
  refine wpK_regc (J := fun A W' => A.defers = [] ∧ Ext W W' ∧ ∃ r ok, A.tmps.get 4 = some (.string ⟨⟨r⟩⟩) ∧ A.tmps.get 5 = some (.bool ok) ∧ Parts gd gd' nx nx' L 0 0 r ok) (fun R hR => ?_) ?_
  · simp [hl1 W2 hE2, hl2 W2 (.refl _ _), aEnter, fnParted, short_other, aCallV]
    rw [callS_none]
    refine (parted_wp L n bN oN cN bG oG cG n' bN' oN' cN' bG' oG' cG' nx nx' gd gd' 0 0 W2 (hN.ext hE02) (hG.ext hE02) (hN'.ext hE02) (hG'.ext hE02) hL4 hn64 hn64' hnx hnx' (by omega) (by omega)).mono ?_
    rintro v W' ⟨hE, r, ok, rfl, hP⟩
    simp [opExtract, aExtract]
    apply hR
    exact ⟨rfl, hE02.trans hE, r, ok, by simp, by simp, hP⟩
  rintro ⟨t, m, ds⟩ W3 ⟨hd, hE3, r, ok, h4, h5, hP⟩
  simp only at hd h4 h5
  subst hd
  exact wpK_ret ⟨.inr rfl, rfl, [.string ⟨⟨r⟩⟩, .bool ok], by simp [h4, h5], hE3, r, ok, rfl, hP⟩
end Go.Proofs.Ytnnfobmfffbhaaa

open Go Go.Eng
namespace Go.Proofs.Ytnnfobmfffbhaaa
attribute [local congr] undef_congr WpK.congr WpS.congr WpL.congr WpC.congr WpF.congr gotS.congr callS.congr nextS.congr wantS.congr condS.congr
attribute [local irreducible] WpK
attribute [local simp] WpDr_nil WpDr_cons atS_some dwantS_true dwantS_false kindS_light kindS_float kindS_heavy lightS_value floatS_some heavyS_value heavyS_skip heavyS_enter dcallS_some doneS_eq
  isLight isFloat isPlain dLook testBit_dec dChain dLights_nil dLights_skip dLights_one dLight_nil dLight_cons dFreshes_nil dFreshes_one oneF_none oneF_some dFresh_nil dFresh_cons oneL_some oneW_true oneW_false sameV_value dPut dMay valEq arrEq listEq List.getElem?_cons Tr.get_nil dEnd
attribute [local simp] WpS_nil WpS_cons isDefer undef_false wantS_true wantS_false nextS_value nextS_skip nextS_enter callS_some gotS_some aWanted aOp aEvalF aEval opMove opAssign opPick aVal flat flat1 AAct.put opBinOp opConvert opIndex Tr.get_set Tr.get_lay aBin aResults tupled
  aCall aVals aCallB blt_dec ble_dec beq_dec aBinI_add aBinI_sub aBinI_lss aBinI_leq aBinI_gtr aBinI_geq aBinI_eql aBinI_neq index_str len_str len_slice Nat.beq_refl und3 und37 und5 und9
  opBox opLoad opFieldAddr opIndexAddr acells aAddr field25 und22 und23 und43 und4 und28
attribute [local simp] field31 conv_3_5 conv_3_37 conv_37_3 conv_5_3
set_option maxHeartbeats 4000000
theorem fnWordDiffers : T0.funcs.get 4 = some Try.f4 := by kernel_rfl
theorem und45s : T0.und.get 45 = some (.array 2 9) := by kernel_rfl
theorem sz9 : aSize T0 9 = some 1 := by kernel_rfl
theorem indexAddr_45 (r x : Nat) (hx : x < 2) : aIndexAddr T0 45 (.pointer (some ⟨r, 0, none⟩)) (.int .i64 (x : Nat)) = some (.pointer (some ⟨r, x, none⟩)) := by
  show aIndexAddr T0 45 (.pointer (some ⟨r, 0, none⟩)) (.int .i64 (Int.ofNat x)) = _
  simp only [aIndexAddr, und45s, sz9, blt_dec, hx, decide_true, Nat.mul_one, Nat.zero_add]
theorem wpK_cut {T : Tabs} {cx : Cx} {a b : Code} {A : AAct} {W : AW} {Q : AExit → AAct → AW → Prop} (J : AAct → AW → Prop) (h : ∀ Q' : AExit → AAct → AW → Prop, (∀ A' W', J A' W' → Q' .normal A' W') → WpK T cx a A W Q') (h2 : ∀ A' W', J A' W' → WpK T cx b A' W' Q) : WpK T cx (.seq a b) A W Q :=
  wpK_then (h (behind Q fun A' W' => WpK T cx b A' W' Q) (fun A' W' hj => h2 A' W' hj))
theorem str_same (a : List UInt8) : aStr .neq ⟨⟨a⟩⟩ ⟨⟨a⟩⟩ = some (.bool false) := by simp [aStr]

theorem wordDiffers_wp (L0 L0' : Int) (vN vG vN' vG' : Value) (nN nG nN' nG' : Nat) (len len' : Nat → Nat) (f f' : Nat → Nat → Int) (g g' : Nat → Bool) (u z : ByteArray) (hu : u.data.toList.length < 9223372036854775808) (hz : z.data.toList.length < 9223372036854775808)
    (W : AW) (hN : RowsIn W vN nN len f) (hG : BoolsIn W vG nG g) (hN' : RowsIn W vN' nN' len' f') (hG' : BoolsIn W vG' nG' g') :
    WpF T0 4 [.agg ⟨[.int .i64 L0, vN, vG]⟩, .agg ⟨[.int .i64 L0', vN', vG']⟩, .agg ⟨[.string u, .string z]⟩] W (fun v W' => Ext W W' ∧ v = .bool true) := by
  have hN0 := hN
  have hG0 := hG
  have hN0' := hN'
  have hG0' := hG'
  obtain ⟨aN, cN, rfl, _⟩ := hN
  obtain ⟨aG, cG, rfl, _⟩ := hG
  obtain ⟨aN', cN', rfl, _⟩ := hN'
  obtain ⟨aG', cG', rfl, _⟩ := hG'
  refine wpF fnWordDiffers rfl ?_
  refine wpK_reg (fun R hR => by simp; exact hR) ?_
  obtain ⟨W1, hW1, hE1, hn1, hb0, hl3, hl4, hs0, hs1⟩ : ∃ W1, W1 = ((W.newCells 25 [.int .i64 L0, .slice aN nN cN, .slice aG nG cG]).newCells 25 [.int .i64 L0', .slice aN' nN' cN', .slice aG' nG' cG']).newCells 45 [.string u, .string z] ∧ Ext W W1 ∧ W1.next = W.next + 3 ∧
      W1.Has W.next 0 (.int .i64 L0) ∧ (∀ W', Ext W1 W' → aLoadVar T0 W' 25 W.next 0 = some (.agg ⟨[.int .i64 L0, .slice aN nN cN, .slice aG nG cG]⟩)) ∧ (∀ W', Ext W1 W' → aLoadVar T0 W' 25 (W.next + 1) 0 = some (.agg ⟨[.int .i64 L0', .slice aN' nN' cN', .slice aG' nG' cG']⟩)) ∧
      W1.Has (W.next + 2) 0 (.string u) ∧ W1.Has (W.next + 2) 1 (.string z) := by
    have hA : ∀ j u', [Value.int .i64 L0, .slice aN nN cN, .slice aG nG cG][j]? = some u' → (((W.newCells 25 [.int .i64 L0, .slice aN nN cN, .slice aG nG cG]).newCells 25 [.int .i64 L0', .slice aN' nN' cN', .slice aG' nG' cG']).newCells 45 [.string u, .string z]).Has W.next j u' := fun j u' h => ((Has.newCells h).ext (.newCells _ _ _)).ext (.newCells _ _ _)
    have hB : ∀ j u', [Value.int .i64 L0', .slice aN' nN' cN', .slice aG' nG' cG'][j]? = some u' → (((W.newCells 25 [.int .i64 L0, .slice aN nN cN, .slice aG nG cG]).newCells 25 [.int .i64 L0', .slice aN' nN' cN', .slice aG' nG' cG']).newCells 45 [.string u, .string z]).Has (W.next + 1) j u' := fun j u' h => (Has.newCells h).ext (.newCells _ _ _)
    refine ⟨_, rfl, ((Only.newCells _ _ _).trans (Only.newCells _ _ _)).trans (Only.newCells _ _ _), rfl, hA 0 _ rfl, fun W' h => ?_, fun W' h => ?_, Has.newCells rfl, Has.newCells rfl⟩
    · refine load25 (cellsAt_of_cells rfl ⟨_, by rw [h.2 _ (by simp only [newCells_next]; omega) (fun x => x), newCells_get, if_neg (by simp only [newCells_next]; omega), newCells_get, if_neg (by simp only [newCells_next]; omega), newCells_get, if_pos rfl]⟩ (fun j hj => ?_) (by omega))
      rw [Nat.zero_add]
      match j, hj with
      | 0, _ => exact ((hA 0 _ rfl).ext h).2
      | 1, _ => exact ((hA 1 _ rfl).ext h).2
      | 2, _ => exact ((hA 2 _ rfl).ext h).2
    · refine load25 (cellsAt_of_cells rfl ⟨_, by rw [h.2 _ (by simp only [newCells_next]; omega) (fun x => x), newCells_get, if_neg (by simp only [newCells_next]; omega), newCells_get, if_pos (by simp only [newCells_next])]⟩ (fun j hj => ?_) (by omega))
      rw [Nat.zero_add]
      match j, hj with
      | 0, _ => exact ((hB 0 _ rfl).ext h).2
      | 1, _ => exact ((hB 1 _ rfl).ext h).2
      | 2, _ => exact ((hB 2 _ rfl).ext h).2
  rw [← hW1]
  simp only [newCells_next]
  clear hW1
  -- how many letters
  try simp only [wpK_assoc]
  refine wpK_regc (J := fun A W' => W' = W1 ∧ A.n = 128 ∧ A.defers = [] ∧ A.tmps.get 3 = some (.pointer (some ⟨W.next, 0, none⟩)) ∧ A.tmps.get 4 = some (.pointer (some ⟨W.next + 1, 0, none⟩)) ∧ A.tmps.get 5 = some (.pointer (some ⟨W.next + 2, 0, none⟩)) ∧ ∃ L : Nat, 1 ≤ L ∧ L ≤ 4 ∧ A.tmps.get 7 = some (.int .i64 L)) (fun R hR => ?_) ?_
  · simp [load_ext und3 rfl hb0 (.refl _ _), aEnter, fun6, short_other, aCallV]
    rw [callS_none]
    refine (letters_wp L0 W1).mono ?_
    rintro v W' ⟨rfl, L, rfl, hL1, hL4⟩
    simp
    apply hR
    exact ⟨rfl, rfl, rfl, by simp, by simp [newCells_next], by simp [newCells_next], L, hL1, hL4, by simp⟩
  rintro ⟨t, m, ds⟩ W' ⟨rfl, hm, hd, h3, h4, h5, L, hL1, hL4, h7⟩
  simp only at hm hd h3 h4 h5 h7
  subst hm; subst hd
  -- the automata
  obtain ⟨W2, hW2, hE2, hn2, hg8, hg9⟩ : ∃ W2, W2 = (W'.newCells 25 [.int .i64 0, .slice none 0 0, .slice none 0 0]).newCells 25 [.int .i64 0, .slice none 0 0, .slice none 0 0] ∧ Ext W' W2 ∧ W2.next = W'.next + 2 ∧
      W2.blocks.get W'.next = some ⟨.cells (Tr.nil.lay 0 [.int .i64 0, .slice none 0 0, .slice none 0 0]) 3 25, []⟩ ∧ W2.blocks.get (W'.next + 1) = some ⟨.cells (Tr.nil.lay 0 [.int .i64 0, .slice none 0 0, .slice none 0 0]) 3 25, []⟩ :=
    ⟨_, rfl, (Only.newCells _ _ _).trans (Only.newCells _ _ _), rfl, by rw [newCells_get, if_neg (by rw [newCells_next]; omega), newCells_get, if_pos rfl]; rfl, by rw [newCells_get, if_pos (by rw [newCells_next])]; rfl⟩
  have hfr : ∀ b, W2.blocks.get b = some ⟨.cells (Tr.nil.lay 0 [.int .i64 0, .slice none 0 0, .slice none 0 0]) 3 25, []⟩ → b < W2.next → ∀ K W'', Only K W2 W'' → ¬ K b → freshB W'' b 25 [.int .i64 0, .slice none 0 0, .slice none 0 0] = true := fun b hg hb K W'' h hk => by
    have hlt : b < W''.next := Nat.lt_of_lt_of_le hb h.1
    simp only [freshB, h.2 b hb hk, hg, blt_dec, hlt, decide_true]
    rfl
  have hEW : Ext W W2 := hE1.trans hE2
  try simp only [wpK_assoc]
  refine wpK_dr (wr := Tr.nil |>.set 27 0 |>.set 28 1 |>.set 29 2 |>.set 30 3 |>.set 31 4 |>.set 32 5 |>.set 8 6 |>.set 9 7) (bits := Tr.nil.lay 0 [0, 0, 3, 0, 0, 31, 0, 0, 255, 511]) (ord := [0, 1, 3, 4, 6, 7, 2, 5, 8, 9])
    (J := fun A W6 => A.n = 128 ∧ A.defers = [] ∧ A.tmps.get 5 = some (.pointer (some ⟨W.next + 2, 0, none⟩)) ∧ A.tmps.get 7 = some (.int .i64 L) ∧ A.tmps.get 8 = some (.pointer (some ⟨W'.next, 0, none⟩)) ∧ A.tmps.get 9 = some (.pointer (some ⟨W'.next + 1, 0, none⟩)) ∧ Ext W' W6 ∧
      ∃ n bN bG nx gd n' bN' bG' nx' gd', 1 ≤ n ∧ n ≤ 9 ∧ 1 ≤ n' ∧ n' ≤ 9 ∧ (∀ W'', Ext W6 W'' → aLoadVar T0 W'' 25 W'.next 0 = some (autoV L n bN 0 3 bG 0 3)) ∧ (∀ W'', Ext W6 W'' → aLoadVar T0 W'' 25 (W'.next + 1) 0 = some (autoV L n' bN' 0 3 bG' 0 3)) ∧
        Rows W6 bN 0 n L nx ∧ Goods W6 bG 0 n gd ∧ Rows W6 bN' 0 n' L nx' ∧ Goods W6 bG' 0 n' gd' ∧ (∀ s i, s < n → i < L → nx s i < n) ∧ (∀ s i, s < n' → i < L → nx' s i < n'))
    (by kernel_rfl) (by kernel_rfl) (by kernel_rfl) (fun G hGG => ?_) ?_
  · simp [h3, h4, h7, hl3 W' (.refl _ _), hl4 W' (.refl _ _), newCells_next, aFlt, zero25, AFlt.val, aEnter, fun5, short_other, aCallV]
    rw [← hW2]
    rw [dcallS_none]
    refine (tame_wp 9 (by omega) (by omega) L hL1 hL4 L0 _ _ nN nG len f g W2 (hN0.ext hEW) (hG0.ext hEW)).mono ?_
    rintro v W3 ⟨hE3, n, bN, bG, nx, gd, rfl, hn1', hn9, hbN, hbG, hR, hGd, hnx⟩
    simp [h3, h4, h7, hl3 W' (.refl _ _), hl4 W' (.refl _ _), hl3 W2 hE2, hl4 W2 hE2, hE3.1, valEq_slice, newCells_next, aFlt, zero25, AFlt.val, aEnter, fun5, short_other, aCallV]
    rw [dcallS_none]
    refine (tame_wp 9 (by omega) (by omega) L hL1 hL4 L0' _ _ nN' nG' len' f' g' W3 ((hN0'.ext hEW).ext hE3) ((hG0'.ext hEW).ext hE3)).mono ?_
    rintro v W4 ⟨hE4, n', bN', bG', nx', gd', rfl, hn1'', hn9', hbN', hbG', hR', hGd', hnx'⟩
    have hE24 := hE3.trans hE4
    have hlt3 := hE3.1
    have hlt4 := hE4.1
    obtain ⟨W5, p1, p2, p3, p4⟩ := storeVar_own (T := T0) (t := 25) (W := W4) (v := autoV L n bN 0 3 bG 0 3) (b := W'.next) (o := 0) inf25 (by kernel_rfl) (by rw [hE24.2 _ (by omega) (fun x => x)]; exact hg8) (by show 0 + 3 ≤ 3; omega) rfl
    obtain ⟨W6, q1, q2, q3, q4⟩ := storeVar_own (T := T0) (t := 25) (W := W5) (v := autoV L n' bN' 0 3 bG' 0 3) (b := W'.next + 1) (o := 0) inf25 (by kernel_rfl) (by rw [p3 _ (by omega), hE24.2 _ (by omega) (fun x => x)]; exact hg9) (by show 0 + 3 ≤ 3; omega) rfl
    have hO5 : Only (fun b => b = W'.next) W2 W5 := ⟨by omega, fun b hb hk => by rw [p3 b hk]; exact hE24.2 b hb (fun x => x)⟩
    have hf1 := hfr W'.next hg8 (by omega) (fun _ => False) W2 (.refl _ _) (fun x => x)
    have hf2 := hfr W'.next hg8 (by omega) (fun _ => False) W3 hE3 (fun x => x)
    have hf3 := hfr W'.next hg8 (by omega) (fun _ => False) W4 hE24 (fun x => x)
    have hf4 := hfr (W'.next + 1) hg9 (by omega) (fun _ => False) W2 (.refl _ _) (fun x => x)
    have hf5 := hfr (W'.next + 1) hg9 (by omega) (fun _ => False) W3 hE3 (fun x => x)
    have hf6 := hfr (W'.next + 1) hg9 (by omega) (fun _ => False) W4 hE24 (fun x => x)
    have hf7 := hfr (W'.next + 1) hg9 (by omega) (fun b => b = W'.next) W5 hO5 (by omega)
    simp [h3, h4, h7, hl3 W' (.refl _ _), hl4 W' (.refl _ _), hl3 W2 hE2, hl4 W2 hE2, hl3 W3 (hE2.trans hE3), hl4 W3 (hE2.trans hE3), hl3 W4 (hE2.trans hE24), hl4 W4 (hE2.trans hE24), hE3.1, hE4.1, valEq_slice, newCells_next, opStore, p1, q1, p2, q2, hf1, hf2, hf3, hf4, hf5, hf6, hf7]
    apply hGG
    have hO : Only (fun b => b = W'.next ∨ b = W'.next + 1) W4 W6 := ⟨by omega, fun b _ hb => by rw [q3 b (fun e => hb (.inr e)), p3 b (fun e => hb (.inl e))]⟩
    have hE26 : Only (fun b => b = W'.next ∨ b = W'.next + 1) W2 W6 := (hE24.mono (fun _ _ x => x.elim)).trans hO
    refine ⟨rfl, rfl, by simp [h5], by simp [h7], by simp, by simp, ⟨by omega, fun b hb _ => by rw [hE26.2 b (by omega) (by omega)]; exact hE2.2 b hb (fun x => x)⟩, n, bN, bG, nx, gd, n', bN', bG', nx', gd', hn1', hn9, hn1'', hn9', fun W'' h => ?_, fun W'' h => ?_, ?_, ?_, ?_, ?_, hnx, hnx'⟩
    · refine load25 (cells3 (c := (Tr.nil.lay 0 [.int .i64 0, .slice none 0 0, .slice none 0 0]).lay 0 (acells (autoV L n bN 0 3 bG 0 3))) (el := 25) (by rw [h.2 _ (by omega) (fun x => x), q3 _ (by omega)]; exact p4) (by rw [Tr.get_lay]; rfl) (by rw [Tr.get_lay]; rfl) (by rw [Tr.get_lay]; rfl))
    · refine load25 (cells3 (c := (Tr.nil.lay 0 [.int .i64 0, .slice none 0 0, .slice none 0 0]).lay 0 (acells (autoV L n' bN' 0 3 bG' 0 3))) (el := 25) (by rw [h.2 _ (by omega) (fun x => x)]; exact q4) (by rw [Tr.get_lay]; rfl) (by rw [Tr.get_lay]; rfl) (by rw [Tr.get_lay]; rfl))
    · intro s hs
      obtain ⟨r, ro, c, k1, k2, k3⟩ := hR s hs
      exact ⟨r, ro, c, (k2.ext hE4).only hO (by omega), fun i hi => ((k3 i hi).ext hE4).only hO (by omega)⟩
    · exact fun s hs => ((hGd s hs).ext hE4).only hO (by omega)
    · intro s hs
      obtain ⟨r, ro, c, k1, k2, k3⟩ := hR' s hs
      exact ⟨r, ro, c, k2.only hO (by omega), fun i hi => (k3 i hi).only hO (by omega)⟩
    · exact fun s hs => (hGd' s hs).only hO (by omega)
  rintro ⟨t, m, ds⟩ W6 ⟨hm, hd, h5, h7, h8, h9, hE6, n, bN, bG, nx, gd, n', bN', bG', nx', gd', hn1', hn9, hn1'', hn9', hl8, hl9, hR, hGd, hR', hGd', hnx, hnx'⟩
  simp only at hm hd h5 h7 h8 h9
  subst hm; subst hd
  clear hW2 hfr hg8 hg9
  have hvA : valEq (autoV L n bN 0 3 bG 0 3) (autoV L n bN 0 3 bG 0 3) = true := by simp [valEq, arrEq, listEq]
  have hvB : valEq (autoV L n' bN' 0 3 bG' 0 3) (autoV L n' bN' 0 3 bG' 0 3) = true := by simp [valEq, arrEq, listEq]
  -- the program's word
  try simp only [wpK_assoc]
  refine wpK_dr (wr := Tr.nil |>.set 34 0 |>.set 35 1 |>.set 36 2 |>.set 37 3 |>.set 38 4 |>.set 33 5 |>.set 39 6 |>.set 40 7 |>.set 41 8 |>.set 10 9 |>.set 11 10 |>.set 12 11) (bits := Tr.nil.lay 0 [0, 1, 0, 7, 15, 31, 63, 63, 63, 127, 767, 2047]) (ord := [0, 1, 2, 3, 4, 5, 6, 7, 8, 9, 10, 11])
    (J := fun A W7 => A.n = 128 ∧ A.defers = [] ∧ A.tmps.get 5 = some (.pointer (some ⟨W.next + 2, 0, none⟩)) ∧ A.tmps.get 7 = some (.int .i64 L) ∧ A.tmps.get 8 = some (.pointer (some ⟨W'.next, 0, none⟩)) ∧ A.tmps.get 9 = some (.pointer (some ⟨W'.next + 1, 0, none⟩)) ∧ Ext W6 W7 ∧
      ∃ r ok, A.tmps.get 10 = some (.string ⟨⟨r⟩⟩) ∧ A.tmps.get 11 = some (.bool ok) ∧ A.tmps.get 12 = some (.int .i64 0) ∧ Parts gd gd' nx nx' L 0 0 r ok)
    (by kernel_rfl) (by kernel_rfl) (by kernel_rfl) (fun G hGG => ?_) ?_
  · simp [h8, h9, hl8 W6 (.refl _ _), hl9 W6 (.refl _ _), hvA, hvB, aEnter, fun8, short_other, aCallV]
    rw [dcallS_none]
    refine (give_wp L n bN 0 3 bG 0 3 W6).mono ?_
    rintro v W7 ⟨hE7, rfl⟩
    simp [h8, h9, hl8 W6 (.refl _ _), hl9 W6 (.refl _ _), hl8 W7 hE7, hl9 W7 hE7, hE7.1, hvA, hvB, aEnter, fun8, short_other, aCallV]
    rw [dcallS_none]
    refine (give_wp L n' bN' 0 3 bG' 0 3 W7).mono ?_
    rintro v W8 ⟨hE8, rfl⟩
    have hE68 := hE7.trans hE8
    simp [h8, h9, hl8 W6 (.refl _ _), hl9 W6 (.refl _ _), hl8 W7 hE7, hl9 W7 hE7, hl8 W8 hE68, hl9 W8 hE68, hE7.1, hE8.1, hvA, hvB, aEnter, fnDiffer, short_other, aCallV]
    rw [dcallS_none]
    refine (differ_wp L n bN 0 3 bG 0 3 n' bN' 0 3 bG' 0 3 nx nx' gd gd' W8 (hR.ext hE68) (hGd.ext hE68) (hR'.ext hE68) (hGd'.ext hE68) hL1 hL4 hn1' (by omega) hn1'' (by omega) hnx hnx').mono ?_
    rintro v W9 ⟨hE9, r, ok, rfl, hP⟩
    have hE69 := hE68.trans hE9
    simp [h8, h9, hl8 W6 (.refl _ _), hl9 W6 (.refl _ _), hl8 W7 hE7, hl9 W7 hE7, hl8 W8 hE68, hl9 W8 hE68, hl8 W9 hE69, hl9 W9 hE69, hE7.1, hE8.1, hE9.1, hvA, hvB, opExtract, aExtract]
    apply hGG
    exact ⟨rfl, rfl, by simp [h5], by simp [h7], by simp [h8], by simp [h9], hE69, r, ok, by simp, by simp, by simp, hP⟩
  rintro ⟨t, m, ds⟩ W7 ⟨hm, hd, h5, h7, h8, h9, hE7, r, ok, h10, h11, h12, hP⟩
  simp only at hm hd h5 h7 h8 h9 h10 h11 h12
  subst hm; subst hd
  -- the reference's
  try simp only [wpK_assoc]
  refine wpK_regc (J := fun A W8 => A.n = 128 ∧ A.defers = [] ∧ A.tmps.get 5 = some (.pointer (some ⟨W.next + 2, 0, none⟩)) ∧ A.tmps.get 7 = some (.int .i64 L) ∧ A.tmps.get 8 = some (.pointer (some ⟨W'.next, 0, none⟩)) ∧ Ext W6 W8 ∧
      A.tmps.get 10 = some (.string ⟨⟨r⟩⟩) ∧ A.tmps.get 11 = some (.bool ok) ∧ A.tmps.get 12 = some (.int .i64 0) ∧ A.tmps.get 13 = some (.string ⟨⟨r⟩⟩) ∧ A.tmps.get 14 = some (.bool ok)) (fun R hR'' => ?_) ?_
  · simp [h8, h9, hl8 W7 hE7, hl9 W7 hE7, aEnter, fnRDiffer, short_other, aCallV]
    rw [callS_none]
    refine (rdiffer_wp L n bN 0 3 bG 0 3 n' bN' 0 3 bG' 0 3 nx nx' gd gd' W7 (hR.ext hE7) (hGd.ext hE7) (hR'.ext hE7) (hGd'.ext hE7) hL4 hn1' (by omega) hn1'' (by omega) hnx hnx').mono ?_
    rintro v W8 ⟨hE8, r', ok', rfl, hP'⟩
    obtain ⟨e1, e2⟩ := parts_one hP hP'
    subst e1; subst e2
    simp [opExtract, aExtract]
    apply hR''
    exact ⟨rfl, rfl, by simp [h5], by simp [h7], by simp [h8], hE7.trans hE8, by simp [h10], by simp [h11], by simp [h12], by simp, by simp⟩
  rintro ⟨t, m, ds⟩ W8 ⟨hm, hd, h5, h7, h8, hE8, h10, h11, h12, h13, h14⟩
  simp only at hm hd h5 h7 h8 h10 h11 h12 h13 h14
  subst hm; subst hd
  try simp only [wpK_assoc]
  refine wpK_reg (fun R hR => by simp [h10, h11, h12, h13, h14, aGuard, aBinO, aEq, und4, str_same]; exact hR) ?_
  refine wpK_onF (by simp) ?_
  -- the words
  have hE18 : Ext W' W8 := hE6.trans hE8
  have hi0 : aIndexAddr T0 45 (.pointer (some ⟨W.next + 2, 0, none⟩)) (.int .i64 0) = some (.pointer (some ⟨W.next + 2, 0, none⟩)) := indexAddr_45 (W.next + 2) 0 (by omega)
  have hi1 : aIndexAddr T0 45 (.pointer (some ⟨W.next + 2, 0, none⟩)) (.int .i64 1) = some (.pointer (some ⟨W.next + 2, 1, none⟩)) := indexAddr_45 (W.next + 2) 1 (by omega)
  have hvw : ∀ w : ByteArray, valEq (.string w) (.string w) = true := fun w => by simp [valEq]
  try simp only [wpK_assoc]
  refine wpK_dr (wr := Tr.nil |>.set 60 0 |>.set 61 1 |>.set 62 2 |>.set 63 3 |>.set 15 4 |>.set 16 5) (bits := Tr.nil.lay 0 [0, 1, 0, 4, 3, 31]) (ord := [0, 1, 2, 3, 4, 5])
    (J := fun A W9 => A.n = 128 ∧ A.defers = [] ∧ A.tmps.get 7 = some (.int .i64 L) ∧ A.tmps.get 8 = some (.pointer (some ⟨W'.next, 0, none⟩)) ∧ A.tmps.get 15 = some (.string u) ∧ A.tmps.get 16 = some (.string z) ∧ W9 = W8)
    (by kernel_rfl) (by kernel_rfl) (by kernel_rfl) (fun G hGG => ?_) ?_
  · simp [h5, hi0, hi1, load_ext und9 rfl hs0 hE18, load_ext und9 rfl hs1 hE18, hvw]
    apply hGG
    exact ⟨rfl, rfl, by simp [h7], by simp [h8], by simp, by simp, rfl⟩
  rintro ⟨t, m, ds⟩ W9 ⟨hm, hd, h7, h8, h15, h16, rfl⟩
  simp only at hm hd h7 h8 h15 h16
  subst hm; subst hd
  try simp only [wpK_assoc]
  refine wpK_reg (fun R hR => by simp; exact hR) ?_
  refine wpK_while (I := fun k A Wx => A.n = 128 ∧ A.defers = [] ∧ A.tmps.get 7 = some (.int .i64 L) ∧ A.tmps.get 8 = some (.pointer (some ⟨W'.next, 0, none⟩)) ∧ Ext W6 Wx ∧ ∃ (i : Nat) (u z : ByteArray), k = 2 - i ∧ i ≤ 2 ∧ A.tmps.get 17 = some (.int .i64 i) ∧ A.tmps.get 15 = some (.string u) ∧ A.tmps.get 16 = some (.string z) ∧
        u.data.toList.length < 9223372036854775808 ∧ z.data.toList.length < 9223372036854775808)
      (J := fun A Wx => A.n = 128 ∧ A.defers = [] ∧ Ext W6 Wx) (Rt := fun _ _ => False) (k := 2) ?_ ?_ ?_ ?_
  · exact ⟨rfl, rfl, by simp [h7], by simp [h8], hE8, 0, u, z, by omega, by omega, by simp, by simp [h15], by simp [h16], hu, hz⟩
  · rintro k ⟨t, m, ds⟩ Wx ⟨hm, hd, h7, h8, hEx, i, u, z, hk, hi, h17, h15, h16, hu, hz⟩ Q' hJ hRt hI
    simp only at hm hd h7 h8 h17 h15 h16
    subst hm; subst hd
    try simp only [wpK_assoc]
    by_cases hi2 : i < 2
    case neg =>
      have hi3 : ¬ ((i : Int) < 2) := by omega
      refine wpK_reg (fun R hR => by simp [h17, hi3]; exact hR) ?_
      exact wpK_out (by simp) (hJ _ _ ⟨rfl, rfl, hEx⟩)
    have hi3 : (i : Int) < 2 := by omega
    refine wpK_reg (fun R hR => by simp [h17, hi3]; exact hR) ?_
    refine wpK_onT (by simp) ?_
    refine wpK_block ?_
    generalize hlu : u.data.toList = lu at hu
    generalize hlz : z.data.toList = lz at hz
    try simp only [wpK_assoc]
    refine wpK_regc (J := fun A W3 => A.n = 128 ∧ A.defers = [] ∧ A.tmps.get 7 = some (.int .i64 L) ∧ A.tmps.get 8 = some (.pointer (some ⟨W'.next, 0, none⟩)) ∧ A.tmps.get 17 = some (.int .i64 i) ∧ A.tmps.get 15 = some (.string u) ∧ A.tmps.get 16 = some (.string z) ∧ Ext W6 W3 ∧
        ∃ w ok, A.tmps.get 18 = some (.string w) ∧ A.tmps.get 19 = some (.bool ok) ∧ A.tmps.get 20 = some (.int .i64 (wordErr2 L lu lz)) ∧ (wordErr2 L lu lz ≠ 0 → w = ⟨⟨[]⟩⟩ ∧ ok = false) ∧
          (wordErr2 L lu lz = 0 → ∃ r, w = ⟨⟨r⟩⟩ ∧ Parts gd gd nx nx L (runN nx 0 lu) (runN nx 0 lz) r ok)) (fun R hRR => ?_) ?_
    · simp [h8, hl8 Wx hEx, aEnter, fun8, short_other, aCallV]
      rw [callS_none]
      refine (give_wp L n bN 0 3 bG 0 3 Wx).mono ?_
      rintro v W3 ⟨hE3, rfl⟩
      simp [h15, h16, aEnter, fun13, short_other, aCallV]
      rw [callS_none]
      refine (part13_wp L n bN 0 3 bG 0 3 nx gd u z lu lz hlu hlz hu hz W3 ((hR.ext hEx).ext hE3) ((hGd.ext hEx).ext hE3) hL1 hL4 hn1' (by omega) hnx).mono ?_
      rintro v W4 ⟨hE4, w, ok, rfl, hw1, hw2⟩
      simp [opExtract, aExtract]
      apply hRR
      refine ⟨rfl, rfl, by simp [h7], by simp [h8], by simp [h17], by simp [h15], by simp [h16], (hEx.trans hE3).trans hE4, w, ok, by simp, by simp, by simp, hw1, fun he => ?_⟩
      obtain ⟨keys, lB, lL, lN, hB, hP⟩ := hw2 he
      have hu0 : wordErr L lu = 0 := by
        unfold wordErr2 at he
        split at he
        · assumption
        · rename_i hne; exact absurd he hne
      have hz0 : wordErr L lz = 0 := by
        unfold wordErr2 at he
        rw [if_pos hu0] at he; exact he
      have hnm := num_of (gd := gd) hL4 (by omega) hnx hB
      obtain ⟨a1, a2⟩ := hnm.run hL4 lu 0 hnm.zero.1 (wordErr_ok hu0)
      obtain ⟨b1, b2⟩ := hnm.run hL4 lz 0 hnm.zero.1 (wordErr_ok hz0)
      obtain ⟨r, rfl, hPs⟩ := parts_of hnm hnm hL4 a2 b2 hP
      rw [a1, b1, hnm.zero.2] at hPs
      exact ⟨r, rfl, hPs⟩
    rintro ⟨t, m, ds⟩ W3 ⟨hm, hd, h7, h8, h17, h15, h16, hE3, w, ok, h18, h19, h20, hw1, hw2⟩
    simp only at hm hd h7 h8 h17 h15 h16 h18 h19 h20
    subst hm; subst hd
    -- the reference's error
    try simp only [wpK_assoc]
    refine wpK_regc (J := fun A W4 => A.n = 128 ∧ A.defers = [] ∧ A.tmps.get 7 = some (.int .i64 L) ∧ A.tmps.get 8 = some (.pointer (some ⟨W'.next, 0, none⟩)) ∧ A.tmps.get 17 = some (.int .i64 i) ∧ A.tmps.get 15 = some (.string u) ∧ A.tmps.get 16 = some (.string z) ∧ Ext W6 W4 ∧
        A.tmps.get 18 = some (.string w) ∧ A.tmps.get 19 = some (.bool ok) ∧ A.tmps.get 20 = some (.int .i64 (wordErr2 L lu lz)) ∧ A.tmps.get 21 = some (.int .i64 (wordErr L lu))) (fun R hRR => ?_) ?_
    · simp [h7, h15, aEnter, fun9, short_other, aCallV]
      rw [callS_none]
      refine (refWord_wp L u (by rw [hlu]; exact hu) W3).mono ?_
      rintro v W4 ⟨rfl, rfl⟩
      simp [hlu]
      apply hRR
      exact ⟨rfl, rfl, by simp [h7], by simp [h8], by simp [h17], by simp [h15], by simp [h16], hE3, by simp [h18], by simp [h19], by simp [h20], by simp⟩
    rintro ⟨t, m, ds⟩ W4 ⟨hm, hd, h7, h8, h17, h15, h16, hE4, h18, h19, h20, h21⟩
    simp only at hm hd h7 h8 h17 h15 h16 h18 h19 h20 h21
    subst hm; subst hd
    try simp only [wpK_assoc]
    refine wpK_reg (fun R hR => by simp [h21]; exact hR) ?_
    refine wpK_cut (fun A W5 => A.n = 128 ∧ A.defers = [] ∧ A.tmps.get 7 = some (.int .i64 L) ∧ A.tmps.get 8 = some (.pointer (some ⟨W'.next, 0, none⟩)) ∧ A.tmps.get 17 = some (.int .i64 i) ∧ A.tmps.get 15 = some (.string u) ∧ A.tmps.get 16 = some (.string z) ∧ Ext W6 W5 ∧
        A.tmps.get 18 = some (.string w) ∧ A.tmps.get 19 = some (.bool ok) ∧ A.tmps.get 20 = some (.int .i64 (wordErr2 L lu lz)) ∧ A.tmps.get 21 = some (.int .i64 (wordErr2 L lu lz))) (fun Q2 hQ2 => ?_) ?_
    · by_cases hu0 : wordErr L lu = 0
      · refine wpK_endT (by simp [hu0]) ?_
        have e2 : wordErr2 L lu lz = wordErr L lz := by unfold wordErr2; rw [if_pos hu0]
        refine wpK_regc1 (J := fun A W5 => A.n = 128 ∧ A.defers = [] ∧ A.tmps.get 7 = some (.int .i64 L) ∧ A.tmps.get 8 = some (.pointer (some ⟨W'.next, 0, none⟩)) ∧ A.tmps.get 17 = some (.int .i64 i) ∧ A.tmps.get 15 = some (.string u) ∧ A.tmps.get 16 = some (.string z) ∧ Ext W6 W5 ∧
          A.tmps.get 18 = some (.string w) ∧ A.tmps.get 19 = some (.bool ok) ∧ A.tmps.get 20 = some (.int .i64 (wordErr2 L lu lz)) ∧ A.tmps.get 21 = some (.int .i64 (wordErr2 L lu lz))) (fun R hRR => ?_) (fun A' W' h => hQ2 A' W' h)
        simp [h7, h16, aEnter, fun9, short_other, aCallV]
        rw [callS_none]
        refine (refWord_wp L z (by rw [hlz]; exact hz) W4).mono ?_
        rintro v W5 ⟨rfl, rfl⟩
        simp [hlz]
        apply hRR
        exact ⟨rfl, rfl, by simp [h7], by simp [h8], by simp [h17], by simp [h15], by simp [h16], hE4, by simp [h18], by simp [h19], by simp [h20], by simp [e2]⟩
      · refine wpK_endF (by simp [hu0]) (wpK_skip ?_)
        have e2 : wordErr2 L lu lz = wordErr L lu := by unfold wordErr2; rw [if_neg hu0]
        exact hQ2 _ _ ⟨rfl, rfl, by simp [h7], by simp [h8], by simp [h17], by simp [h15], by simp [h16], hE4, by simp [h18], by simp [h19], by simp [h20], by simp [h21, e2]⟩
    rintro ⟨t, m, ds⟩ W5 ⟨hm, hd, h7, h8, h17, h15, h16, hE5, h18, h19, h20, h21⟩
    simp only at hm hd h7 h8 h17 h15 h16 h18 h19 h20 h21
    subst hm; subst hd
    try simp only [wpK_assoc]
    refine wpK_reg (fun R hR => by simp [h21]; exact hR) ?_
    refine wpK_cut (fun A W5 => A.n = 128 ∧ A.defers = [] ∧ A.tmps.get 7 = some (.int .i64 L) ∧ A.tmps.get 8 = some (.pointer (some ⟨W'.next, 0, none⟩)) ∧ A.tmps.get 17 = some (.int .i64 i) ∧ A.tmps.get 15 = some (.string u) ∧ A.tmps.get 16 = some (.string z) ∧ Ext W6 W5) (fun Q2 hQ2 => ?_) ?_
    · by_cases he : wordErr2 L lu lz = 0
      · obtain ⟨r, rfl, hP⟩ := hw2 he
        have hu0 : wordErr L lu = 0 := by
          unfold wordErr2 at he
          split at he
          · assumption
          · rename_i hne; exact absurd he hne
        have hz0 : wordErr L lz = 0 := by
          have he' := he
          unfold wordErr2 at he'
          rw [if_pos hu0] at he'; exact he'
        have hru := runN_lt hnx lu 0 (by omega) (wordErr_ok hu0)
        have hrz := runN_lt hnx lz 0 (by omega) (wordErr_ok hz0)
        refine wpK_endF (by simp [he]) ?_
        try simp only [wpK_assoc]
        refine wpK_dr (wr := Tr.nil |>.set 98 0 |>.set 99 1 |>.set 100 2 |>.set 101 3 |>.set 102 4 |>.set 103 5 |>.set 104 6 |>.set 105 7 |>.set 106 8 |>.set 97 9 |>.set 107 10 |>.set 108 11 |>.set 22 12 |>.set 23 13) (bits := Tr.nil.lay 0 [0, 0, 0, 6, 0, 0, 0, 110, 255, 511, 1023, 1023, 2047, 8191]) (ord := [0, 1, 2, 3, 4, 5, 6, 7, 8, 9, 10, 11, 12, 13])
          (J := fun A W8 => A.n = 128 ∧ A.defers = [] ∧ A.tmps.get 7 = some (.int .i64 L) ∧ A.tmps.get 8 = some (.pointer (some ⟨W'.next, 0, none⟩)) ∧ A.tmps.get 17 = some (.int .i64 i) ∧ A.tmps.get 15 = some (.string u) ∧ A.tmps.get 16 = some (.string z) ∧ Ext W6 W8 ∧
            A.tmps.get 18 = some (.string ⟨⟨r⟩⟩) ∧ A.tmps.get 19 = some (.bool ok) ∧ A.tmps.get 20 = some (.int .i64 0) ∧ A.tmps.get 22 = some (.string ⟨⟨r⟩⟩) ∧ A.tmps.get 23 = some (.bool ok))
          (by kernel_rfl) (by kernel_rfl) (by kernel_rfl) (fun G hGG => ?_) ?_
        · simp [h8, h15, h16, hl8 W5 hE5, hvA, hvw, aEnter, fun18, short_other, aCallV]
          rw [dcallS_none]
          refine (from_wp L n bN 0 3 bG 0 3 nx 0 u lu hlu hu W5 (hR.ext hE5) (by omega) hnx (wordErr_ok hu0)).mono ?_
          rintro v Wa ⟨hEa, rfl⟩
          have hE6a := hE5.trans hEa
          simp [h8, h15, h16, hl8 W5 hE5, hl8 Wa hE6a, hEa.1, hvA, hvw, aEnter, fun18, short_other, aCallV]
          rw [dcallS_none]
          refine (from_wp L n bN 0 3 bG 0 3 nx 0 z lz hlz hz Wa (hR.ext hE6a) (by omega) hnx (wordErr_ok hz0)).mono ?_
          rintro v Wb ⟨hEb, rfl⟩
          have hE6b := hE6a.trans hEb
          simp [h8, h15, h16, hl8 W5 hE5, hl8 Wa hE6a, hl8 Wb hE6b, hEa.1, hEb.1, hvA, hvw, aEnter, fnParted, short_other, aCallV]
          rw [dcallS_none]
          refine (parted_wp L n bN 0 3 bG 0 3 n bN 0 3 bG 0 3 nx nx gd gd (runN nx 0 lu) (runN nx 0 lz) Wb (hR.ext hE6b) (hGd.ext hE6b) (hR.ext hE6b) (hGd.ext hE6b) hL4 (by omega) (by omega) hnx hnx hru hrz).mono ?_
          rintro v Wc ⟨hEc, r', ok', rfl, hP'⟩
          obtain ⟨e1, e2⟩ := parts_one hP hP'
          subst e1; subst e2
          have hE6c := hE6b.trans hEc
          simp [h8, h15, h16, hl8 W5 hE5, hl8 Wa hE6a, hl8 Wb hE6b, hl8 Wc hE6c, hEa.1, hEb.1, hEc.1, hvA, hvw, opExtract, aExtract]
          apply hGG
          exact ⟨rfl, rfl, by simp [h7], by simp [h8], by simp [h17], by simp [h15], by simp [h16], hE6c, by simp [h18], by simp [h19], by simp [h20, he], by simp, by simp⟩
        rintro ⟨t, m, ds⟩ W8 ⟨hm, hd, h7, h8, h17, h15, h16, hE8, h18, h19, h20, h22, h23⟩
        simp only at hm hd h7 h8 h17 h15 h16 h18 h19 h20 h22 h23
        subst hm; subst hd
        try simp only [wpK_assoc]
        refine wpK_reg (fun R hR => by simp [h18, h19, h20, h22, h23, aGuard, aBinO, aEq, und4, str_same]; exact hR) ?_
        refine wpK_endF (by simp) (wpK_skip ?_)
        exact hQ2 _ _ ⟨rfl, rfl, by simp [h7], by simp [h8], by simp [h17], by simp [h15], by simp [h16], hE8⟩
      · obtain ⟨rfl, rfl⟩ := hw1 he
        refine wpK_endT (by simp [he]) ?_
        try simp only [wpK_assoc]
        refine wpK_reg (fun R hR => by simp [h18, h19, h20, h21, aGuard, aBinO, aEq, und4, aStr]; exact hR) ?_
        refine wpK_endF (by simp) (wpK_skip ?_)
        exact hQ2 _ _ ⟨rfl, rfl, by simp [h7], by simp [h8], by simp [h17], by simp [h15], by simp [h16], hE5⟩
    rintro ⟨t, m, ds⟩ W8 ⟨hm, hd, h7, h8, h17, h15, h16, hE8⟩
    simp only at hm hd h7 h8 h17 h15 h16
    subst hm; subst hd
    -- shorter words
    refine wpK_regc1 (J := fun A W9 => A.n = 128 ∧ A.defers = [] ∧ A.tmps.get 7 = some (.int .i64 L) ∧ A.tmps.get 8 = some (.pointer (some ⟨W'.next, 0, none⟩)) ∧ A.tmps.get 17 = some (.int .i64 i) ∧ Ext W6 W9 ∧ ∃ u' z' : ByteArray, A.tmps.get 15 = some (.string u') ∧ A.tmps.get 16 = some (.string z') ∧ u'.data.toList.length ≤ 12 ∧ z'.data.toList.length ≤ 12) (fun R hRR => ?_) ?_
    · simp [h7, h15, aEnter, fun11, short_other, aCallV]
      rw [callS_none]
      refine (text_wp 12 (by omega) L hL1 hL4 u lu hlu hu W8).mono ?_
      rintro v W9 ⟨hE9, u', rfl, hu'⟩
      simp [h7, h16, aEnter, fun11, short_other, aCallV]
      rw [callS_none]
      refine (text_wp 12 (by omega) L hL1 hL4 z lz hlz hz W9).mono ?_
      rintro v W10 ⟨hE10, z', rfl, hz'⟩
      simp
      apply hRR
      exact ⟨rfl, rfl, by simp [h7], by simp [h8], by simp [h17], (hE8.trans hE9).trans hE10, u', z', by simp, by simp, hu', hz'⟩
    rintro ⟨t, m, ds⟩ W9 ⟨hm, hd, h7, h8, h17, hE9, u', z', h15, h16, hu', hz'⟩
    simp only at hm hd h7 h8 h17 h15 h16
    subst hm; subst hd
    refine wpK_reg1 (fun R hR => by simp [h17]; exact hR) ?_
    exact hI (2 - (i + 1)) _ _ (by omega) ⟨rfl, rfl, by simp [h7], by simp [h8], hE9, i + 1, u', z', rfl, by omega, by simp; exact i64_succ i (by omega), by simp [h15], by simp [h16], by omega, by omega⟩
  · rintro A' Wx hf; exact hf.elim
  · rintro ⟨t, m, ds⟩ Wx ⟨hm, hd, hEx⟩
    simp only at hm hd
    subst hm; subst hd
    try simp only [wpK_assoc]
    refine wpK_reg (fun R hR => by simp [aEnter, fun12, short_awake, aCallV]; exact hR) ?_
    exact wpK_ret ⟨.inr rfl, rfl, [.bool true], by simp, (hE1.trans hE6).trans hEx, rfl⟩
end Go.Proofs.Ytnnfobmfffbhaaa

open Go Go.Eng
namespace Go.Proofs.Ytnnfobmfffbhaaa
attribute [local congr] undef_congr WpK.congr WpS.congr WpL.congr WpC.congr WpF.congr gotS.congr callS.congr nextS.congr wantS.congr condS.congr
attribute [local irreducible] WpK
attribute [local simp] WpDr_nil WpDr_cons atS_some dwantS_true dwantS_false kindS_light kindS_float kindS_heavy lightS_value floatS_some heavyS_value heavyS_skip heavyS_enter dcallS_some doneS_eq
  isLight isFloat isPlain dLook testBit_dec dChain dLights_nil dLights_skip dLights_one dLight_nil dLight_cons dFreshes_nil dFreshes_one oneF_none oneF_some dFresh_nil dFresh_cons oneL_some oneW_true oneW_false sameV_value dPut dMay valEq arrEq listEq List.getElem?_cons Tr.get_nil dEnd
attribute [local simp] WpS_nil WpS_cons isDefer undef_false wantS_true wantS_false nextS_value nextS_skip nextS_enter callS_some gotS_some aWanted aOp aEvalF aEval opMove opAssign opPick aVal flat flat1 AAct.put opBinOp opConvert opIndex Tr.get_set Tr.get_lay aBin aResults tupled
  aCall aVals aCallB blt_dec ble_dec beq_dec aBinI_add aBinI_sub aBinI_lss aBinI_leq aBinI_gtr aBinI_geq aBinI_eql aBinI_neq index_str len_str len_slice Nat.beq_refl und3 und37 und5 und9
  opBox opLoad opFieldAddr opIndexAddr acells aAddr field25 und22 und23 und43 und4 und28
attribute [local simp] field31 conv_3_5 conv_3_37 conv_37_3 conv_5_3
set_option maxHeartbeats 4000000
/-! ### numbers for keys, in the order in which they come first -/
def numStep (s : List Value × List Nat) (k : Value) : List Value × List Nat :=
  match s.1.findIdx? (fun x => keyEq k x) with
  | some j => (s.1, s.2 ++ [j])
  | none => (s.1 ++ [k], s.2 ++ [s.1.length])
def numF (ks : List Value) : List Value × List Nat := ks.foldl numStep ([], [])
theorem numF_snoc (ks : List Value) (k : Value) : numF (ks ++ [k]) = numStep (numF ks) k := by
  simp only [numF, List.foldl_append, List.foldl_cons, List.foldl_nil]
theorem numStep_len (s : List Value × List Nat) (k : Value) : (numStep s k).2.length = s.2.length + 1 := by
  unfold numStep
  split <;> simp
theorem numF_len (ks : List Value) : (numF ks).2.length = ks.length := by
  have : ∀ (ks : List Value) (s : List Value × List Nat), (ks.foldl numStep s).2.length = s.2.length + ks.length := by
    intro ks
    induction ks with
    | nil => intro s; simp
    | cons k ks ih => intro s; simp only [List.foldl_cons, ih, numStep_len, List.length_cons]; omega
  rw [numF, this]; simp
theorem numF_take {ks : List Value} {i : Nat} {k : Value} (h : ks[i]? = some k) : numF (ks.take (i + 1)) = numStep (numF (ks.take i)) k := by
  rw [List.take_add_one, h]; exact numF_snoc _ _
theorem aFind_idx {T : Tabs} {t : TypeId} {k : Value} : ∀ {es : List (Value × Value × Nat)} {i : Nat}, (∀ e ∈ es, keyOk T t e.1 = true) →
    aFind T t k es i = some (match (es.map (·.1)).findIdx? (fun x => keyEq k x) with | none => none | some j => match es[j]? with | some e => some (i + j, e.2.1) | none => none)
  | [], _, _ => rfl
  | (k', v, c) :: es, i, h => by
    have a1 : keyOk T t k' = true := h _ (List.mem_cons_self ..)
    have ih := aFind_idx (T := T) (t := t) (k := k) (es := es) (i := i + 1) (fun e he => h e (List.mem_cons_of_mem _ he))
    simp only [aFind, a1, List.map_cons, List.findIdx?_cons]
    cases hk : keyEq k k' with
    | true => simp
    | false =>
      simp only [ih]
      cases hf : (es.map (·.1)).findIdx? (fun x => keyEq k x) with
      | none => simp
      | some j => simp [Nat.add_assoc, Nat.add_comm 1 j]
/-- the numbers that were given, and those that stand in the row -/
structure NumI (KT : TypeId) (mb bo n : Nat) (s : List Value × List Nat) (W : AW) : Prop where
  ne : mb ≠ bo
  lt : mb < W.next ∧ bo < W.next
  map : ∃ es ck, W.blocks.get mb = some ⟨.map es ck, []⟩ ∧ es.map (·.1) = s.1 ∧ ∀ (j : Nat) e, es[j]? = some e → e.2.1 = .int .i64 (j : Nat)
  out : ∃ c, W.blocks.get bo = some ⟨.cells c n 3, []⟩ ∧ ∀ q, q < s.2.length → c.get q = some (.int .i64 (s.2.getD q 0 : Nat))
  key : ∀ k ∈ s.1, keyOk T0 KT k = true
theorem NumI.ext {KT : TypeId} {mb bo n : Nat} {s : List Value × List Nat} {W W' : AW} (h : NumI KT mb bo n s W) (hE : Ext W W') : NumI KT mb bo n s W' where
  ne := h.ne
  lt := ⟨Nat.lt_of_lt_of_le h.lt.1 hE.1, Nat.lt_of_lt_of_le h.lt.2 hE.1⟩
  map := let ⟨es, ck, h1, h2⟩ := h.map; ⟨es, ck, by rw [hE.2 mb h.lt.1 (fun x => x)]; exact h1, h2⟩
  out := let ⟨c, h1, h2⟩ := h.out; ⟨c, by rw [hE.2 bo h.lt.2 (fun x => x)]; exact h1, h2⟩
  key := h.key
theorem getD_snoc_lt {l : List Nat} {x q : Nat} (h : q < l.length) : (l ++ [x]).getD q 0 = l.getD q 0 := by
  rw [List.getD_eq_getElem?_getD, List.getElem?_append_left h, List.getD_eq_getElem?_getD]
theorem getD_snoc_eq (l : List Nat) (x : Nat) : (l ++ [x]).getD l.length 0 = x := by
  rw [List.getD_eq_getElem?_getD]; simp
/-- a key is looked for: it has a number, or gets the next one; then its number is put into the row -/
theorem NumI.step {KT MT : TypeId} (hMT : T0.und.get MT = some (.map KT 3)) {mb bo n : Nat} {s : List Value × List Nat} {W : AW} (h : NumI KT mb bo n s W) {k : Value} (hk : keyOk T0 KT k = true) (hn : s.2.length < n) :
    (∃ j W', aLookup T0 W MT (.map (some mb)) k true = some (.tuple ⟨[.int .i64 (j : Nat), .bool true]⟩) ∧ aStoreVar T0 W 3 bo s.2.length (.int .i64 (j : Nat)) = some W' ∧ W'.next = W.next ∧ Only (fun b => b = mb ∨ b = bo) W W' ∧ NumI KT mb bo n (numStep s k) W') ∨
    (aLookup T0 W MT (.map (some mb)) k true = some (.tuple ⟨[.int .i64 0, .bool false]⟩) ∧ aLen T0 W MT (.map (some mb)) = some (.int .i64 (s.1.length : Nat)) ∧ ∃ W1 W', aMapUpdate T0 W MT (.map (some mb)) k (.int .i64 (s.1.length : Nat)) = some W1 ∧ W1.next = W.next ∧ Only (fun b => b = mb) W W1 ∧
      aStoreVar T0 W1 3 bo s.2.length (.int .i64 (s.1.length : Nat)) = some W' ∧ W'.next = W.next ∧ Only (fun b => b = mb ∨ b = bo) W W' ∧ NumI KT mb bo n (numStep s k) W') := by
  obtain ⟨es, ck, hm1, hm2, hm3⟩ := h.map
  obtain ⟨c, hc1, hc2⟩ := h.out
  have hes : ∀ e ∈ es, keyOk T0 KT e.1 = true := fun e he => h.key e.1 (by rw [← hm2]; exact List.mem_map_of_mem he)
  have hfind := aFind_idx (k := k) (i := 0) hes
  rw [hm2] at hfind
  have hel : es.length = s.1.length := by rw [← hm2, List.length_map]
  cases hf : s.1.findIdx? (fun x => keyEq k x) with
  | some j =>
    left
    have hj : j < s.1.length := by
      have := List.findIdx?_eq_some_iff_getElem.1 hf
      exact this.1
    have hej : es[j]? = some es[j] := List.getElem?_eq_getElem (by omega)
    rw [hf] at hfind
    simp only [hej, hm3 j _ hej] at hfind
    obtain ⟨W', s1, s2, s3, s4⟩ := storeVar_own (T := T0) (t := 3) (W := W) (v := .int .i64 (j : Nat)) (b := bo) (o := s.2.length) inf3 rfl hc1 (by show s.2.length + 1 ≤ n; omega) rfl
    have hst : numStep s k = (s.1, s.2 ++ [j]) := by unfold numStep; rw [hf]
    refine ⟨j, W', by simp only [aLookup, hMT, hk, aEntries, hm1, hfind, aOkd], s1, s2, ⟨by omega, fun b _ hb => s3 b (fun e => hb (.inr e))⟩, ?_⟩
    rw [hst]
    refine ⟨h.ne, ⟨by have := h.lt.1; omega, by have := h.lt.2; omega⟩, ⟨es, ck, by rw [s3 mb h.ne]; exact hm1, hm2, hm3⟩, ⟨c.set s.2.length (.int .i64 (j : Nat)), s4, fun q hq => ?_⟩, h.key⟩
    rw [Tr.get_set]
    by_cases e : q = s.2.length
    · rw [if_pos e, e, getD_snoc_eq]
    · have hq' : q < s.2.length := by simp at hq; omega
      rw [if_neg e, getD_snoc_lt hq']; exact hc2 q hq'
  | none =>
    right
    rw [hf] at hfind
    simp only at hfind
    have hup : aMapUpdate T0 W MT (.map (some mb)) k (.int .i64 (s.1.length : Nat)) = some ⟨W.blocks.set mb ⟨.map (es ++ [(k, .int .i64 (s.1.length : Nat), ck)]) (ck + 1), []⟩, W.next⟩ := by
      simp only [aMapUpdate, hMT, hk, hm1, hfind]
    generalize hW1 : (⟨W.blocks.set mb ⟨.map (es ++ [(k, .int .i64 (s.1.length : Nat), ck)]) (ck + 1), []⟩, W.next⟩ : AW) = W1 at hup
    have hn1 : W1.next = W.next := by rw [← hW1]
    have hO1 : Only (fun b => b = mb) W W1 := ⟨by omega, fun b _ hb => by rw [← hW1]; simp only [Tr.get_set]; rw [if_neg hb]⟩
    have hg1 : W1.blocks.get mb = some ⟨.map (es ++ [(k, .int .i64 (s.1.length : Nat), ck)]) (ck + 1), []⟩ := by rw [← hW1]; simp only [Tr.get_set, if_true]
    obtain ⟨W', s1, s2, s3, s4⟩ := storeVar_own (T := T0) (t := 3) (W := W1) (v := .int .i64 (s.1.length : Nat)) (b := bo) (o := s.2.length) inf3 rfl (by rw [hO1.2 bo h.lt.2 (Ne.symm h.ne)]; exact hc1) (by show s.2.length + 1 ≤ n; omega) rfl
    have hst : numStep s k = (s.1 ++ [k], s.2 ++ [s.1.length]) := by unfold numStep; rw [hf]
    refine ⟨by simp only [aLookup, hMT, hk, aEntries, hm1, hfind, zero3, aOkd], by simp only [aLen, hMT, hm1, hel], W1, W', hup, hn1, hO1, s1, by omega, ⟨by omega, fun b hb hx => by rw [s3 b (fun e => hx (.inr e))]; exact hO1.2 b hb (fun e => hx (.inl e))⟩, ?_⟩
    rw [hst]
    refine ⟨h.ne, ⟨by have := h.lt.1; omega, by have := h.lt.2; omega⟩, ⟨_, _, by rw [s3 mb h.ne]; exact hg1, by rw [List.map_append, hm2]; rfl, fun j e he => ?_⟩, ⟨c.set s.2.length (.int .i64 (s.1.length : Nat)), s4, fun q hq => ?_⟩, fun x hx => ?_⟩
    · by_cases hj : j < es.length
      · rw [List.getElem?_append_left hj] at he; exact hm3 j e he
      · rw [List.getElem?_append_right (by omega)] at he
        have hi' : j - es.length < 1 := by have := (List.getElem?_eq_some_iff.1 he).1; simpa using this
        rw [show j - es.length = 0 from by omega] at he
        simp at he; subst he
        simp only
        rw [show s.1.length = j from by omega]
    · rw [Tr.get_set]
      by_cases e : q = s.2.length
      · rw [if_pos e, e, getD_snoc_eq]
      · have hq' : q < s.2.length := by simp at hq; omega
        rw [if_neg e, getD_snoc_lt hq']; exact hc2 q hq'
    · rcases List.mem_append.1 hx with hx | hx
      · exact h.key x hx
      · rw [List.mem_singleton] at hx; subst hx; exact hk
end Go.Proofs.Ytnnfobmfffbhaaa

open Go Go.Eng
namespace Go.Proofs.Ytnnfobmfffbhaaa
attribute [local congr] undef_congr WpK.congr WpS.congr WpL.congr WpC.congr WpF.congr gotS.congr callS.congr nextS.congr wantS.congr condS.congr
attribute [local irreducible] WpK
attribute [local simp] WpDr_nil WpDr_cons atS_some dwantS_true dwantS_false kindS_light kindS_float kindS_heavy lightS_value floatS_some heavyS_value heavyS_skip heavyS_enter dcallS_some doneS_eq
  isLight isFloat isPlain dLook testBit_dec dChain dLights_nil dLights_skip dLights_one dLight_nil dLight_cons dFreshes_nil dFreshes_one oneF_none oneF_some dFresh_nil dFresh_cons oneL_some oneW_true oneW_false sameV_value dPut dMay valEq arrEq listEq List.getElem?_cons Tr.get_nil dEnd
attribute [local simp] WpS_nil WpS_cons isDefer undef_false wantS_true wantS_false nextS_value nextS_skip nextS_enter callS_some gotS_some aWanted aOp aEvalF aEval opMove opAssign opPick aVal flat flat1 AAct.put opBinOp opConvert opIndex Tr.get_set Tr.get_lay aBin aResults tupled
  aCall aVals aCallB blt_dec ble_dec beq_dec aBinI_add aBinI_sub aBinI_lss aBinI_leq aBinI_gtr aBinI_geq aBinI_eql aBinI_neq index_str len_str len_slice Nat.beq_refl und3 und37 und5 und9
  opBox opLoad opFieldAddr opIndexAddr acells aAddr field25 und22 und23 und43 und4 und28
attribute [local simp] field31 conv_3_5 conv_3_37 conv_37_3 conv_5_3
set_option maxHeartbeats 4000000
theorem fnNumB : T0.funcs.get 63 = some Try.f63 := by kernel_rfl
theorem fnNum5 : T0.funcs.get 64 = some Try.f64 := by kernel_rfl
theorem undMB : T0.und.get 144 = some (.map 4 3) := by kernel_rfl
theorem undM5 : T0.und.get 145 = some (.map 127 3) := by kernel_rfl
theorem und5s : T0.und.get 127 = some (.array 5 3) := by kernel_rfl
theorem und5r : T0.und.get 126 = some (.slice 127) := by kernel_rfl
theorem inf5a : T0.info.get 127 = some Try.t127 := by kernel_rfl
theorem inf5r : T0.info.get 126 = some Try.t126 := by kernel_rfl
theorem sz5a : aSize T0 127 = some 5 := by kernel_rfl
theorem t127z : Try.t127.zero = some (.agg ⟨[.int .i64 0, .int .i64 0, .int .i64 0, .int .i64 0, .int .i64 0]⟩) := by kernel_rfl
theorem zero5a : aZero T0 127 = some (.agg ⟨[.int .i64 0, .int .i64 0, .int .i64 0, .int .i64 0, .int .i64 0]⟩) := by kernel_rfl
theorem keyB (b : Bool) : keyOk T0 4 (.bool b) = true := by kernel_rfl
def k5 (a b c d e : Nat) : Value := .agg ⟨[.int .i64 (a : Nat), .int .i64 (b : Nat), .int .i64 (c : Nat), .int .i64 (d : Nat), .int .i64 (e : Nat)]⟩
theorem key5 (a b c d e : Nat) : keyOk T0 127 (k5 a b c d e) = true := by kernel_rfl
theorem mk65 (W : AW) (n : Nat) (hn : n ≤ 100000) : aMakeSlice T0 W 65 (.int .i64 n) (.int .i64 n) = some (.slice (some ⟨W.next, 0, none⟩) n (2 * n), W.newCells 3 (rep [.int .i64 0] n)) := by
  show aMakeSlice T0 W 65 (.int .i64 (Int.ofNat n)) (.int .i64 (Int.ofNat n)) = _
  have b3 : Try.t3.bytes = 8 := by kernel_rfl
  have z3 : Try.t3.zero = some (.int .i64 0) := by kernel_rfl
  have s3 : Try.t3.size = 1 := by kernel_rfl
  simp only [aMakeSlice, und43, inf3, z3, b3, s3, ble_dec, acells, List.length_cons, List.length_nil, Nat.beq_refl]
  rw [decide_eq_true (Nat.le_refl n), decide_eq_true (by omega), decide_eq_true (by omega)]
theorem makemap_next (W : AW) : (W.new (.map [] 0)).next = W.next + 1 := rfl
/-- a map and a row for the numbers -/
theorem num_new {KT : TypeId} (W : AW) (n : Nat) : ∃ W2, W2 = (W.new (.map [] 0)).newCells 3 (rep [.int .i64 0] n) ∧ Ext W W2 ∧ W2.next = W.next + 2 ∧ NumI KT W.next (W.next + 1) n ([], []) W2 := by
  have hE : Ext W (W.new (.map [] 0)) := ⟨by rw [makemap_next]; omega, fun b hb _ => by simp only [AW.new, Tr.get_set]; rw [if_neg (by omega)]⟩
  refine ⟨_, rfl, hE.trans (.newCells _ _ _), rfl, ⟨by omega, ⟨by rw [newCells_next, makemap_next]; omega, by rw [newCells_next, makemap_next]; omega⟩, ⟨[], 0, ?_, rfl, fun j e h => by simp at h⟩, ⟨Tr.nil.lay 0 (rep [.int .i64 0] n), by rw [newCells_get, if_pos (by rw [makemap_next]), rep_length]; simp, fun q hq => by simp at hq⟩, fun k hk => by cases hk⟩⟩
  rw [newCells_get, if_neg (by rw [makemap_next]; omega)]
  simp only [AW.new, Tr.get_set, if_true]

theorem numB_wp (gs n c : Nat) (kb : Nat → Bool) (W : AW) (hg : ∀ i, i < n → W.Has gs i (.bool (kb i))) (hn : n ≤ 100000) :
    WpF T0 63 [.slice (some ⟨gs, 0, none⟩) n c] W (fun v W' => Ext W W' ∧ ∃ b cc, v = .tuple ⟨[.slice (some ⟨b, 0, none⟩) n (2 * n), .int .i64 ((numF ((List.range n).map fun i => .bool (kb i))).1.length : Nat)]⟩ ∧ W.next ≤ b ∧ b < W'.next ∧
      W'.blocks.get b = some ⟨.cells cc n 3, []⟩ ∧ ∀ q, q < n → cc.get q = some (.int .i64 ((numF ((List.range n).map fun i => .bool (kb i))).2.getD q 0 : Nat))) := by
  refine wpF fnNumB rfl ?_
  generalize hks : ((List.range n).map fun i => Value.bool (kb i)) = ks
  have hkl : ks.length = n := by rw [← hks]; simp
  have hkg : ∀ i, i < n → ks[i]? = some (.bool (kb i)) := fun i hi => by rw [← hks, List.getElem?_map, List.getElem?_range hi]; rfl
  refine wpK_reg (fun R hR => by simp; exact hR) ?_
  try simp only [wpK_assoc]
  refine wpK_reg (fun R hR => by simp [opMakeMap, aMakeMap, aOpt, aValW]; exact hR) ?_
  try simp only [wpK_assoc]
  refine wpK_reg (fun R hR => by simp [len_slice und23, opMakeSlice, aValW, mk65 _ n hn]; exact hR) ?_
  obtain ⟨W2, hW2, hE2, hn2, hI2⟩ := num_new (KT := 4) W n
  rw [← hW2, makemap_next]
  clear hW2
  try simp only [wpK_assoc]
  refine wpK_reg (fun R hR => by simp [len_slice und23]; exact hR) ?_
  refine wpK_while (I := fun k A W' => A.n = 42 ∧ A.defers = [] ∧ A.tmps.get 4 = some (.map (some W.next)) ∧ A.tmps.get 5 = some (.slice (some ⟨W.next + 1, 0, none⟩) n (2 * n)) ∧ A.tmps.get 14 = some (.slice (some ⟨gs, 0, none⟩) n c) ∧ A.tmps.get 15 = some (.int .i64 n) ∧ Only (fun b => W.next ≤ b) W W' ∧
        ∃ i : Nat, k = n - i ∧ i ≤ n ∧ A.tmps.get 16 = some (.int .i64 i) ∧ NumI 4 W.next (W.next + 1) n (numF (ks.take i)) W')
      (J := fun A W' => A.n = 42 ∧ A.defers = [] ∧ A.tmps.get 4 = some (.map (some W.next)) ∧ A.tmps.get 5 = some (.slice (some ⟨W.next + 1, 0, none⟩) n (2 * n)) ∧ Only (fun b => W.next ≤ b) W W' ∧ NumI 4 W.next (W.next + 1) n (numF ks) W') (Rt := fun _ _ => False) (k := n) ?_ ?_ ?_ ?_
  · exact ⟨rfl, rfl, by simp, by simp, by simp, by simp, hE2.mono (fun _ _ x => x.elim), 0, by omega, by omega, by simp, by rw [List.take_zero]; exact hI2⟩
  · rintro k ⟨t, m, ds⟩ W' ⟨hm, hd, h4, h5, h14, h15, hO, i, hk, hi, h16, hI⟩ Q' hJ hRt hIt
    simp only at hm hd h4 h5 h14 h15 h16
    subst hm; subst hd
    try simp only [wpK_assoc]
    refine wpK_reg (fun R hR => by simp [h15, h16]; exact hR) ?_
    by_cases hlt : i < n
    case neg =>
      have hie : i = n := by omega
      rw [hie, ← hkl, List.take_length] at hI
      rw [hkl] at hI
      exact wpK_out (by simp [hlt]) (hJ _ _ ⟨rfl, rfl, by simp [h4], by simp [h5], hO, hI⟩)
    refine wpK_onT (by simp [hlt]) ?_
    refine wpK_block ?_
    have hgi := (hg i hlt).only hO (by have := (hg i hlt).1; omega)
    have hai := indexAddr_slice (b := gs) (o := 0) (c := c) (k := .i64) und23 sz4 hlt
    simp only [Nat.zero_add, Nat.mul_one] at hai
    have hsl : (numF (ks.take i)).2.length = i := by rw [numF_len, List.length_take]; omega
    have hstep := hI.step undMB (keyB (kb i)) (by rw [hsl]; exact hlt)
    rw [hsl, ← numF_take (hkg i hlt)] at hstep
    have hao := indexAddr_slice (b := W.next + 1) (o := 0) (c := 2 * n) (k := .i64) und43 sz3 hlt
    simp only [Nat.zero_add, Nat.mul_one] at hao
    have hwi := i64_succ i (by omega)
    try simp only [wpK_assoc]
    refine wpK_reg (fun R hR => by simp [h14, h16, hai, load_ext und4 rfl hgi (.refl _ _)]; exact hR) ?_
    try simp only [wpK_assoc]
    rcases hstep with ⟨j, W3, s1, s2, s3, s4, s5⟩ | ⟨s1, s2, W3, W4, s3, s4, s5, s6, s7, s8, s9⟩
    · refine wpK_reg (fun R hR => by simp [h4, opLookup, s1, opExtract, aExtract]; exact hR) ?_
      try simp only [wpK_assoc]
      refine wpK_reg (fun R hR => by simp [opUnOp, aUn]; exact hR) ?_
      try simp only [wpK_assoc]
      refine wpK_onF (by simp) ?_
      refine wpK_reg1 (fun R hR => by simp [h5, hao, opStore, s2]; exact hR) ?_
      refine wpK_reg1 (fun R hR => by simp [h16, hwi]; exact hR) ?_
      exact hIt (n - (i + 1)) _ _ (by omega) ⟨rfl, rfl, by simp [h4], by simp [h5], by simp [h14], by simp [h15], hO.trans (s4.mono (fun b _ hb => by omega)), i + 1, rfl, by omega, by simp, s5⟩
    · refine wpK_reg (fun R hR => by simp [h4, opLookup, s1, opExtract, aExtract]; exact hR) ?_
      try simp only [wpK_assoc]
      refine wpK_reg (fun R hR => by simp [opUnOp, aUn]; exact hR) ?_
      try simp only [wpK_assoc]
      refine wpK_condT (by simp) ?_
      try simp only [wpK_assoc]
      refine wpK_reg (fun R hR => by simp [h4, s2]; exact hR) ?_
      refine wpK_reg1 (fun R hR => by simp [h4, opMapUpdate, s3]; exact hR) ?_
      try simp only [behind_normal]
      refine wpK_reg1 (fun R hR => by simp [h5, hao, opStore, s6]; exact hR) ?_
      refine wpK_reg1 (fun R hR => by simp [h16, hwi]; exact hR) ?_
      exact hIt (n - (i + 1)) _ _ (by omega) ⟨rfl, rfl, by simp [h4], by simp [h5], by simp [h14], by simp [h15], hO.trans (s8.mono (fun b _ hb => by omega)), i + 1, rfl, by omega, by simp, s9⟩
  · rintro A' W' hf; exact hf.elim
  · rintro ⟨t, m, ds⟩ W' ⟨hm, hd, h4, h5, hO, hI⟩
    simp only at hm hd h4 h5
    subst hm; subst hd
    obtain ⟨es, ck, hm1, hm2, hm3⟩ := hI.map
    obtain ⟨cc, hc1, hc2⟩ := hI.out
    have hlen : aLen T0 W' 144 (.map (some W.next)) = some (.int .i64 ((numF ks).1.length : Nat)) := by simp only [aLen, undMB, hm1, ← hm2, List.length_map]
    refine wpK_reg (fun R hR => by simp [h4, h5, hlen]; exact hR) ?_
    refine wpK_ret ⟨.inr rfl, rfl, [.slice (some ⟨W.next + 1, 0, none⟩) n (2 * n), .int .i64 ((numF ks).1.length : Nat)], by simp, ⟨hO.1, fun b hb _ => hO.2 b hb (by omega)⟩, W.next + 1, cc, rfl, by omega, hI.lt.2, hc1, fun q hq => hc2 q (by rw [numF_len, hkl]; exact hq)⟩
end Go.Proofs.Ytnnfobmfffbhaaa

open Go Go.Eng
namespace Go.Proofs.Ytnnfobmfffbhaaa
attribute [local congr] undef_congr WpK.congr WpS.congr WpL.congr WpC.congr WpF.congr gotS.congr callS.congr nextS.congr wantS.congr condS.congr
attribute [local irreducible] WpK
attribute [local simp] WpDr_nil WpDr_cons atS_some dwantS_true dwantS_false kindS_light kindS_float kindS_heavy lightS_value floatS_some heavyS_value heavyS_skip heavyS_enter dcallS_some doneS_eq
  isLight isFloat isPlain dLook testBit_dec dChain dLights_nil dLights_skip dLights_one dLight_nil dLight_cons dFreshes_nil dFreshes_one oneF_none oneF_some dFresh_nil dFresh_cons oneL_some oneW_true oneW_false sameV_value dPut dMay valEq arrEq listEq List.getElem?_cons Tr.get_nil dEnd
attribute [local simp] WpS_nil WpS_cons isDefer undef_false wantS_true wantS_false nextS_value nextS_skip nextS_enter callS_some gotS_some aWanted aOp aEvalF aEval opMove opAssign opPick aVal flat flat1 AAct.put opBinOp opConvert opIndex Tr.get_set Tr.get_lay aBin aResults tupled
  aCall aVals aCallB blt_dec ble_dec beq_dec aBinI_add aBinI_sub aBinI_lss aBinI_leq aBinI_gtr aBinI_geq aBinI_eql aBinI_neq index_str len_str len_slice Nat.beq_refl und3 und37 und5 und9
  opBox opLoad opFieldAddr opIndexAddr acells aAddr field25 und22 und23 und43 und4 und28
attribute [local simp] field31 conv_3_5 conv_3_37 conv_37_3 conv_5_3
set_option maxHeartbeats 4000000
theorem load5a {W : AW} {b o : Nat} {x0 x1 x2 x3 x4 : Value} (h0 : W.Has b (o + 0) x0) (h1 : W.Has b (o + 1) x1) (h2 : W.Has b (o + 2) x2) (h3 : W.Has b (o + 3) x3) (h4 : W.Has b (o + 4) x4) : aLoadVar T0 W 127 b o = some (.agg ⟨[x0, x1, x2, x3, x4]⟩) := by
  refine loadVar_agg und5s rfl inf5a (cellsAt_of_cells rfl ?_ (fun j hj => ?_) (by show 0 < 5; omega))
  · have := h0.2
    simp only [AW.cell] at this
    cases hb : W.blocks.get b with
    | none => rw [hb] at this; cases this
    | some k => exact ⟨k, rfl⟩
  · have hj5 : j < 5 := hj
    match j, hj5 with
    | 0, _ => exact h0.2
    | 1, _ => exact h1.2
    | 2, _ => exact h2.2
    | 3, _ => exact h3.2
    | 4, _ => exact h4.2
theorem num5_wp (gs n c : Nat) (kb : Nat → Nat → Nat) (W : AW) (hg : ∀ i x, i < n → x < 5 → W.Has gs (i * 5 + x) (.int .i64 (kb i x : Nat))) (hn : n ≤ 100000) :
    WpF T0 64 [.slice (some ⟨gs, 0, none⟩) n c] W (fun v W' => Ext W W' ∧ ∃ b cc, v = .tuple ⟨[.slice (some ⟨b, 0, none⟩) n (2 * n), .int .i64 ((numF ((List.range n).map fun i => k5 (kb i 0) (kb i 1) (kb i 2) (kb i 3) (kb i 4))).1.length : Nat)]⟩ ∧ W.next ≤ b ∧ b < W'.next ∧
      W'.blocks.get b = some ⟨.cells cc n 3, []⟩ ∧ ∀ q, q < n → cc.get q = some (.int .i64 ((numF ((List.range n).map fun i => k5 (kb i 0) (kb i 1) (kb i 2) (kb i 3) (kb i 4))).2.getD q 0 : Nat))) := by
  refine wpF fnNum5 rfl ?_
  generalize hks : ((List.range n).map fun i => k5 (kb i 0) (kb i 1) (kb i 2) (kb i 3) (kb i 4)) = ks
  have hkl : ks.length = n := by rw [← hks]; simp
  have hkg : ∀ i, i < n → ks[i]? = some (k5 (kb i 0) (kb i 1) (kb i 2) (kb i 3) (kb i 4)) := fun i hi => by rw [← hks, List.getElem?_map, List.getElem?_range hi]; rfl
  refine wpK_reg (fun R hR => by simp; exact hR) ?_
  try simp only [wpK_assoc]
  refine wpK_reg (fun R hR => by simp [opMakeMap, aMakeMap, aOpt, aValW]; exact hR) ?_
  try simp only [wpK_assoc]
  refine wpK_reg (fun R hR => by simp [len_slice und5r, opMakeSlice, aValW, mk65 _ n hn]; exact hR) ?_
  obtain ⟨W2, hW2, hE2, hn2, hI2⟩ := num_new (KT := 127) W n
  rw [← hW2, makemap_next]
  clear hW2
  try simp only [wpK_assoc]
  refine wpK_reg (fun R hR => by simp [len_slice und5r]; exact hR) ?_
  refine wpK_while (I := fun k A W' => A.n = 42 ∧ A.defers = [] ∧ A.tmps.get 4 = some (.map (some W.next)) ∧ A.tmps.get 5 = some (.slice (some ⟨W.next + 1, 0, none⟩) n (2 * n)) ∧ A.tmps.get 14 = some (.slice (some ⟨gs, 0, none⟩) n c) ∧ A.tmps.get 15 = some (.int .i64 n) ∧ Only (fun b => W.next ≤ b) W W' ∧
        ∃ i : Nat, k = n - i ∧ i ≤ n ∧ A.tmps.get 16 = some (.int .i64 i) ∧ NumI 127 W.next (W.next + 1) n (numF (ks.take i)) W')
      (J := fun A W' => A.n = 42 ∧ A.defers = [] ∧ A.tmps.get 4 = some (.map (some W.next)) ∧ A.tmps.get 5 = some (.slice (some ⟨W.next + 1, 0, none⟩) n (2 * n)) ∧ Only (fun b => W.next ≤ b) W W' ∧ NumI 127 W.next (W.next + 1) n (numF ks) W') (Rt := fun _ _ => False) (k := n) ?_ ?_ ?_ ?_
  · exact ⟨rfl, rfl, by simp, by simp, by simp, by simp, hE2.mono (fun _ _ x => x.elim), 0, by omega, by omega, by simp, by rw [List.take_zero]; exact hI2⟩
  · rintro k ⟨t, m, ds⟩ W' ⟨hm, hd, h4, h5, h14, h15, hO, i, hk, hi, h16, hI⟩ Q' hJ hRt hIt
    simp only at hm hd h4 h5 h14 h15 h16
    subst hm; subst hd
    try simp only [wpK_assoc]
    refine wpK_reg (fun R hR => by simp [h15, h16]; exact hR) ?_
    by_cases hlt : i < n
    case neg =>
      have hie : i = n := by omega
      rw [hie, ← hkl, List.take_length] at hI
      rw [hkl] at hI
      exact wpK_out (by simp [hlt]) (hJ _ _ ⟨rfl, rfl, by simp [h4], by simp [h5], hO, hI⟩)
    refine wpK_onT (by simp [hlt]) ?_
    refine wpK_block ?_
    have hgi : ∀ x, x < 5 → W'.Has gs (i * 5 + x) (.int .i64 (kb i x : Nat)) := fun x hx => (hg i x hlt hx).only hO (by have := (hg i x hlt hx).1; omega)
    have hai := indexAddr_slice (b := gs) (o := 0) (c := c) (k := .i64) und5r sz5a hlt
    simp only [Nat.zero_add] at hai
    have hld : aLoadVar T0 W' 127 gs (i * 5) = some (k5 (kb i 0) (kb i 1) (kb i 2) (kb i 3) (kb i 4)) := load5a (hgi 0 (by omega)) (hgi 1 (by omega)) (hgi 2 (by omega)) (hgi 3 (by omega)) (hgi 4 (by omega))
    obtain ⟨Wk, r1, r2, r3, r4⟩ := storeVar_own (T := T0) (t := 127) (W := W'.newCells 127 [.int .i64 0, .int .i64 0, .int .i64 0, .int .i64 0, .int .i64 0]) (v := k5 (kb i 0) (kb i 1) (kb i 2) (kb i 3) (kb i 4)) (b := W'.next) (o := 0) inf5a rfl (by rw [newCells_get, if_pos rfl]) (by show 0 + 5 ≤ 5; omega) rfl
    have hEk : Ext W' Wk := ⟨by rw [r2, newCells_next]; omega, fun b hb _ => by rw [r3 b (by omega), newCells_get, if_neg (by omega)]⟩
    have hnk : Wk.next = W'.next + 1 := r2
    have hkc : ∀ x, x < 5 → Wk.Has W'.next x (.int .i64 (kb i x : Nat)) := fun x hx => ⟨by omega, by
      simp only [AW.cell, r4, blt_dec, hx, decide_true]
      rw [Tr.get_lay]
      match x, hx with
      | 0, _ => rfl
      | 1, _ => rfl
      | 2, _ => rfl
      | 3, _ => rfl
      | 4, _ => rfl⟩
    have hk7 : aLoadVar T0 Wk 127 W'.next 0 = some (k5 (kb i 0) (kb i 1) (kb i 2) (kb i 3) (kb i 4)) := load5a (hkc 0 (by omega)) (hkc 1 (by omega)) (hkc 2 (by omega)) (hkc 3 (by omega)) (hkc 4 (by omega))
    have hOk : Only (fun b => W.next ≤ b) W Wk := hO.trans (hEk.mono (fun _ _ x => x.elim))
    have hI := hI.ext hEk
    generalize hkk : k5 (kb i 0) (kb i 1) (kb i 2) (kb i 3) (kb i 4) = key at hk7 hld r1
    have hsl : (numF (ks.take i)).2.length = i := by rw [numF_len, List.length_take]; omega
    have hstep := hI.step undM5 (k := key) (by rw [← hkk]; exact key5 _ _ _ _ _) (by rw [hsl]; exact hlt)
    rw [hsl, ← numF_take ((hkg i hlt).trans (by rw [hkk]))] at hstep
    have hao := indexAddr_slice (b := W.next + 1) (o := 0) (c := 2 * n) (k := .i64) und43 sz3 hlt
    simp only [Nat.zero_add, Nat.mul_one] at hao
    have hwi := i64_succ i (by omega)
    try simp only [wpK_assoc]
    refine wpK_reg (fun R hR => by simp [h14, h16, hai, hld, opAlloc, zero5a, opStore, r1]; exact hR) ?_
    try simp only [wpK_assoc]
    rcases hstep with ⟨j, W3, s1, s2, s3, s4, s5⟩ | ⟨s1, s2, W3, W4, s3, s4, s5, s6, s7, s8, s9⟩
    · refine wpK_reg (fun R hR => by simp [h4, hk7, opLookup, s1, opExtract, aExtract]; exact hR) ?_
      try simp only [wpK_assoc]
      refine wpK_reg (fun R hR => by simp [opUnOp, aUn]; exact hR) ?_
      try simp only [wpK_assoc]
      refine wpK_onF (by simp) ?_
      refine wpK_reg1 (fun R hR => by simp [h5, hao, opStore, s2]; exact hR) ?_
      refine wpK_reg1 (fun R hR => by simp [h16, hwi]; exact hR) ?_
      exact hIt (n - (i + 1)) _ _ (by omega) ⟨rfl, rfl, by simp [h4], by simp [h5], by simp [h14], by simp [h15], hOk.trans (s4.mono (fun b _ hb => by omega)), i + 1, rfl, by omega, by simp, s5⟩
    · refine wpK_reg (fun R hR => by simp [h4, hk7, opLookup, s1, opExtract, aExtract]; exact hR) ?_
      try simp only [wpK_assoc]
      refine wpK_reg (fun R hR => by simp [opUnOp, aUn]; exact hR) ?_
      try simp only [wpK_assoc]
      refine wpK_condT (by simp) ?_
      try simp only [wpK_assoc]
      refine wpK_reg (fun R hR => by simp [h4, s2]; exact hR) ?_
      refine wpK_reg1 (fun R hR => by simp [h4, hk7, opMapUpdate, s3]; exact hR) ?_
      try simp only [behind_normal]
      refine wpK_reg1 (fun R hR => by simp [h5, hao, opStore, s6]; exact hR) ?_
      refine wpK_reg1 (fun R hR => by simp [h16, hwi]; exact hR) ?_
      exact hIt (n - (i + 1)) _ _ (by omega) ⟨rfl, rfl, by simp [h4], by simp [h5], by simp [h14], by simp [h15], hOk.trans (s8.mono (fun b _ hb => by omega)), i + 1, rfl, by omega, by simp, s9⟩
  · rintro A' W' hf; exact hf.elim
  · rintro ⟨t, m, ds⟩ W' ⟨hm, hd, h4, h5, hO, hI⟩
    simp only at hm hd h4 h5
    subst hm; subst hd
    obtain ⟨es, ck, hm1, hm2, hm3⟩ := hI.map
    obtain ⟨cc, hc1, hc2⟩ := hI.out
    have hlen : aLen T0 W' 145 (.map (some W.next)) = some (.int .i64 ((numF ks).1.length : Nat)) := by simp only [aLen, undM5, hm1, ← hm2, List.length_map]
    refine wpK_reg (fun R hR => by simp [h4, h5, hlen]; exact hR) ?_
    refine wpK_ret ⟨.inr rfl, rfl, [.slice (some ⟨W.next + 1, 0, none⟩) n (2 * n), .int .i64 ((numF ks).1.length : Nat)], by simp, ⟨hO.1, fun b hb _ => hO.2 b hb (by omega)⟩, W.next + 1, cc, rfl, by omega, hI.lt.2, hc1, fun q hq => hc2 q (by rw [numF_len, hkl]; exact hq)⟩
end Go.Proofs.Ytnnfobmfffbhaaa

open Go Go.Eng
namespace Go.Proofs.Ytnnfobmfffbhaaa
attribute [local congr] undef_congr WpK.congr WpS.congr WpL.congr WpC.congr WpF.congr gotS.congr callS.congr nextS.congr wantS.congr condS.congr
attribute [local irreducible] WpK
attribute [local simp] WpDr_nil WpDr_cons atS_some dwantS_true dwantS_false kindS_light kindS_float kindS_heavy lightS_value floatS_some heavyS_value heavyS_skip heavyS_enter dcallS_some doneS_eq
  isLight isFloat isPlain dLook testBit_dec dChain dLights_nil dLights_skip dLights_one dLight_nil dLight_cons dFreshes_nil dFreshes_one oneF_none oneF_some dFresh_nil dFresh_cons oneL_some oneW_true oneW_false sameV_value dPut dMay valEq arrEq listEq List.getElem?_cons Tr.get_nil dEnd
attribute [local simp] WpS_nil WpS_cons isDefer undef_false wantS_true wantS_false nextS_value nextS_skip nextS_enter callS_some gotS_some aWanted aOp aEvalF aEval opMove opAssign opPick aVal flat flat1 AAct.put opBinOp opConvert opIndex Tr.get_set Tr.get_lay aBin aResults tupled
  aCall aVals aCallB blt_dec ble_dec beq_dec aBinI_add aBinI_sub aBinI_lss aBinI_leq aBinI_gtr aBinI_geq aBinI_eql aBinI_neq index_str len_str len_slice Nat.beq_refl und3 und37 und5 und9
  opBox opLoad opFieldAddr opIndexAddr acells aAddr field25 und22 und23 und43 und4 und28
attribute [local simp] field31 conv_3_5 conv_3_37 conv_37_3 conv_5_3
set_option maxHeartbeats 4000000
/-! ### what numbers for keys are -/
structure NumOk (key : Nat → Value) (i : Nat) (s : List Value × List Nat) : Prop where
  len : s.2.length = i
  val : ∀ q, q < i → ∃ c, s.2[q]? = some c ∧ s.1[c]? = some (key q)
  dis : ∀ (a b : Nat) k k', s.1[a]? = some k → s.1[b]? = some k' → keyEq k k' = true → a = b
  sur : ∀ c, c < s.1.length → ∃ q : Nat, q < i ∧ s.2[q]? = some c ∧ ∀ (q' : Nat) c', q' < q → s.2[q']? = some c' → c' < c
theorem NumOk.step {key : Nat → Value} {n i : Nat} {s : List Value × List Nat} (hself : ∀ i j, i < n → j < n → (keyEq (key i) (key j) = true ↔ key i = key j)) (h : NumOk key i s) (hi : i < n) : NumOk key (i + 1) (numStep s (key i)) := by
  have hof : ∀ (a : Nat) k, s.1[a]? = some k → ∃ q, q < i ∧ k = key q := fun a k ha => by
    obtain ⟨q, h1, h2, _⟩ := h.sur a (List.getElem?_eq_some_iff.1 ha).1
    obtain ⟨c, h3, h4⟩ := h.val q h1
    rw [h2] at h3; cases h3
    rw [ha] at h4; cases h4
    exact ⟨q, h1, rfl⟩
  have hlen := h.len
  cases hf : s.1.findIdx? (fun x => keyEq (key i) x) with
  | some j =>
    have hst : numStep s (key i) = (s.1, s.2 ++ [j]) := by unfold numStep; rw [hf]
    rw [hst]
    obtain ⟨hj, hk, _⟩ := List.findIdx?_eq_some_iff_getElem.1 hf
    have hje : s.1[j]? = some s.1[j] := List.getElem?_eq_getElem hj
    obtain ⟨q0, hq0, hq0e⟩ := hof j _ hje
    have hki : s.1[j] = key i := by
      rw [hq0e] at hk ⊢
      exact ((hself i q0 hi (by omega)).1 hk).symm
    refine ⟨by simp [h.len], fun q hq => ?_, h.dis, fun c hc => ?_⟩
    · by_cases e : q = i
      · exact ⟨j, by rw [e, ← h.len]; simp, by rw [e, ← hki]; exact hje⟩
      · obtain ⟨c, h1, h2⟩ := h.val q (by omega)
        exact ⟨c, by rw [List.getElem?_append_left (by omega)]; exact h1, h2⟩
    · obtain ⟨q, h1, h2, h3⟩ := h.sur c hc
      refine ⟨q, by omega, by rw [List.getElem?_append_left (by omega)]; exact h2, fun q' c' hq' hc' => ?_⟩
      rw [List.getElem?_append_left (by omega)] at hc'
      exact h3 q' c' hq' hc'
  | none =>
    have hst : numStep s (key i) = (s.1 ++ [key i], s.2 ++ [s.1.length]) := by unfold numStep; rw [hf]
    rw [hst]
    have hno : ∀ (a : Nat) k, s.1[a]? = some k → keyEq (key i) k = false := fun a k ha => by
      have := List.findIdx?_eq_none_iff.1 hf k (List.mem_of_getElem? ha)
      simpa using this
    have hno2 : ∀ (a : Nat) k, s.1[a]? = some k → keyEq k (key i) = false := fun a k ha => by
      obtain ⟨q, hq, rfl⟩ := hof a k ha
      cases hh : keyEq (key q) (key i) with
      | false => rfl
      | true =>
        have e := (hself q i (by omega) hi).1 hh
        have := hno a _ ha
        rw [e, (hself i i hi hi).2 rfl] at this; cases this
    refine ⟨by simp [h.len], fun q hq => ?_, fun a b k k' ha hb hk => ?_, fun c hc => ?_⟩
    · by_cases e : q = i
      · exact ⟨s.1.length, by rw [e, ← h.len]; simp, by rw [e]; simp⟩
      · obtain ⟨c, h1, h2⟩ := h.val q (by omega)
        exact ⟨c, by rw [List.getElem?_append_left (by omega)]; exact h1, by rw [List.getElem?_append_left (List.getElem?_eq_some_iff.1 h2).1]; exact h2⟩
    · have hla := (List.getElem?_eq_some_iff.1 ha).1
      have hlb := (List.getElem?_eq_some_iff.1 hb).1
      simp at hla hlb
      by_cases e1 : a < s.1.length
      · rw [List.getElem?_append_left e1] at ha
        by_cases e2 : b < s.1.length
        · rw [List.getElem?_append_left e2] at hb
          exact h.dis a b k k' ha hb hk
        · have : b = s.1.length := by omega
          subst this
          simp at hb; subst hb
          rw [hno2 a k ha] at hk; cases hk
      · have : a = s.1.length := by omega
        subst this
        simp at ha; subst ha
        by_cases e2 : b < s.1.length
        · rw [List.getElem?_append_left e2] at hb
          rw [hno b k' hb] at hk; cases hk
        · omega
    · simp at hc
      by_cases e : c < s.1.length
      · obtain ⟨q, h1, h2, h3⟩ := h.sur c e
        refine ⟨q, by omega, by rw [List.getElem?_append_left (by omega)]; exact h2, fun q' c' hq' hc' => ?_⟩
        rw [List.getElem?_append_left (by omega)] at hc'
        exact h3 q' c' hq' hc'
      · have : c = s.1.length := by omega
        subst this
        refine ⟨i, by omega, by rw [← h.len]; simp, fun q' c' hq' hc' => ?_⟩
        rw [List.getElem?_append_left (by omega)] at hc'
        obtain ⟨c'', g1, g2⟩ := h.val q' hq'
        rw [hc'] at g1; cases g1
        exact (List.getElem?_eq_some_iff.1 g2).1
theorem numF_ok {key : Nat → Value} {n : Nat} (hself : ∀ i j, i < n → j < n → (keyEq (key i) (key j) = true ↔ key i = key j)) : ∀ i, i ≤ n → NumOk key i (numF ((List.range i).map key))
  | 0, _ => ⟨rfl, fun q hq => by omega, fun a b k k' ha => by simp [numF] at ha, fun c hc => by simp [numF] at hc⟩
  | i + 1, hi => by
    rw [List.range_succ, List.map_append]
    show NumOk key (i + 1) (numF ((List.range i).map key ++ [key i]))
    rw [numF_snoc]
    exact (numF_ok hself i (by omega)).step hself (by omega)

/-- the number of a key, and how many there are -/
def nCl (n : Nat) (key : Nat → Value) (q : Nat) : Nat := (numF ((List.range n).map key)).2.getD q 0
def nCnt (n : Nat) (key : Nat → Value) : Nat := (numF ((List.range n).map key)).1.length
theorem nCl_spec {key : Nat → Value} {n : Nat} (hself : ∀ i j, i < n → j < n → (keyEq (key i) (key j) = true ↔ key i = key j)) :
    (∀ i, i < n → nCl n key i < nCnt n key) ∧ (∀ i j, i < n → j < n → (nCl n key i = nCl n key j ↔ key i = key j)) ∧ (∀ c, c < nCnt n key → ∃ q, q < n ∧ nCl n key q = c ∧ ∀ q', q' < q → nCl n key q' < c) := by
  have h := numF_ok hself n (Nat.le_refl n)
  have hget : ∀ q c, (numF ((List.range n).map key)).2[q]? = some c → nCl n key q = c := fun q c hq => by unfold nCl; rw [List.getD_eq_getElem?_getD, hq]; rfl
  refine ⟨fun i hi => ?_, fun i j hi hj => ?_, fun c hc => ?_⟩
  · obtain ⟨c, h1, h2⟩ := h.val i hi
    rw [hget i c h1]; exact (List.getElem?_eq_some_iff.1 h2).1
  · obtain ⟨c, h1, h2⟩ := h.val i hi
    obtain ⟨d, g1, g2⟩ := h.val j hj
    rw [hget i c h1, hget j d g1]
    constructor
    · intro e
      subst e
      rw [h2] at g2; exact Option.some.inj g2
    · intro e
      exact h.dis c d _ _ h2 g2 ((hself i j hi hj).2 e)
  · obtain ⟨q, h1, h2, h3⟩ := h.sur c hc
    refine ⟨q, h1, hget q c h2, fun q' hq' => ?_⟩
    obtain ⟨c', g1, _⟩ := h.val q' (by omega)
    rw [hget q' c' g1]
    exact h3 q' c' hq' g1
theorem keyB_eq (a b : Bool) : keyEq (.bool a) (.bool b) = true ↔ (Value.bool a) = .bool b := by
  cases a <;> cases b <;> simp [keyEq, key1Eq]
theorem key5_eq (a b c d e a' b' c' d' e' : Nat) : keyEq (k5 a b c d e) (k5 a' b' c' d' e') = true ↔ k5 a b c d e = k5 a' b' c' d' e' := by
  have h1 : keyEq (k5 a b c d e) (k5 a' b' c' d' e') = keysEq [.int .i64 (Int.ofNat a), .int .i64 (Int.ofNat b), .int .i64 (Int.ofNat c), .int .i64 (Int.ofNat d), .int .i64 (Int.ofNat e)] [.int .i64 (Int.ofNat a'), .int .i64 (Int.ofNat b'), .int .i64 (Int.ofNat c'), .int .i64 (Int.ofNat d'), .int .i64 (Int.ofNat e')] := rfl
  rw [h1, keysEq_spec (d := .int .i64) (by kernel_rfl) (by kernel_rfl)]
  simp only [k5, Value.agg.injEq, Array.mk.injEq]
  rfl
theorem k5_inj {a b c d e a' b' c' d' e' : Nat} : k5 a b c d e = k5 a' b' c' d' e' ↔ a = a' ∧ b = b' ∧ c = c' ∧ d = d' ∧ e = e' := by
  simp only [k5, Value.agg.injEq, Array.mk.injEq, List.cons.injEq, Value.int.injEq, true_and, and_true]
  omega

/-! ### classes that are refined -/
def runX (mx : Nat → Nat → Nat) (i : Nat) (l : List Nat) : Nat := l.foldl mx i
structure Moore (mx : Nat → Nat → Nat) (mg : Nat → Bool) (L N : Nat) (cl : Nat → Nat) (cnt : Nat) : Prop where
  lt : ∀ i, i < N → cl i < cnt
  sur : ∀ c, c < cnt → ∃ q, q < N ∧ cl q = c ∧ ∀ q', q' < q → cl q' < c
  good : ∀ i j, i < N → j < N → cl i = cl j → mg i = mg j
  dis : ∀ i j, i < N → j < N → cl i ≠ cl j → ∃ l : List Nat, (∀ x ∈ l, x < L) ∧ mg (runX mx i l) ≠ mg (runX mx j l)
theorem moore_zero (mx : Nat → Nat → Nat) (mg : Nat → Bool) (L N : Nat) : Moore mx mg L N (nCl N fun i => .bool (mg i)) (nCnt N fun i => .bool (mg i)) := by
  obtain ⟨h1, h2, h3⟩ := nCl_spec (n := N) (key := fun i => .bool (mg i)) (fun i j _ _ => keyB_eq _ _)
  refine ⟨h1, h3, fun i j hi hj e => ?_, fun i j hi hj e => ⟨[], (fun x hx => by cases hx), (fun e2 => e ((h2 i j hi hj).2 (congrArg Value.bool e2)))⟩⟩
  have := (h2 i j hi hj).1 e
  simpa using this
/-- the keys of a round -/
def mKey (mx : Nat → Nat → Nat) (cl : Nat → Nat) (i : Nat) : Value := k5 (cl (mx i 0)) (cl (mx i 1)) (cl (mx i 2)) (cl (mx i 3)) (cl i)
theorem mKey_eq {mx : Nat → Nat → Nat} {cl : Nat → Nat} {i j : Nat} : mKey mx cl i = mKey mx cl j ↔ cl i = cl j ∧ ∀ x, x < 4 → cl (mx i x) = cl (mx j x) := by
  unfold mKey
  rw [k5_inj]
  constructor
  · rintro ⟨h0, h1, h2, h3, h4⟩
    refine ⟨h4, fun x hx => ?_⟩
    match x, hx with
    | 0, _ => exact h0
    | 1, _ => exact h1
    | 2, _ => exact h2
    | 3, _ => exact h3
  · rintro ⟨h4, h⟩
    exact ⟨h 0 (by omega), h 1 (by omega), h 2 (by omega), h 3 (by omega), h4⟩
theorem full_of_nodup {n : Nat} {l : List Nat} (hd : l.Nodup) (hl : ∀ x ∈ l, x < n) (hlen : l.length = n) {a : Nat} (ha : a < n) : a ∈ l := by
  by_cases h : a ∈ l
  · exact h
  · have := nodup_lt n (a :: l) (List.nodup_cons.2 ⟨h, hd⟩) (fun x hx => (List.mem_cons.1 hx).elim (fun e => e ▸ ha) (hl x))
    simp at this; omega
theorem moore_step {mx : Nat → Nat → Nat} {mg : Nat → Bool} {L N : Nat} {cl : Nat → Nat} {cnt : Nat} (h : Moore mx mg L N cl cnt) (hmx : ∀ s x, s < N → x < 4 → mx s x < N) (hz : ∀ s x, s < N → x < 4 → L ≤ x → mx s x = 0) :
    Moore mx mg L N (nCl N (mKey mx cl)) (nCnt N (mKey mx cl)) ∧ cnt ≤ nCnt N (mKey mx cl) ∧ nCnt N (mKey mx cl) ≤ N ∧ (nCnt N (mKey mx cl) = cnt → ∀ i j, i < N → j < N → cl i = cl j → ∀ x, x < 4 → cl (mx i x) = cl (mx j x)) := by
  obtain ⟨h1, h2, h3⟩ := nCl_spec (n := N) (key := mKey mx cl) (fun i j _ _ => key5_eq _ _ _ _ _ _ _ _ _ _)
  -- a state for each number
  have hpick : ∀ (cl : Nat → Nat) (cnt : Nat), (∀ c, c < cnt → ∃ q, q < N ∧ cl q = c ∧ ∀ q', q' < q → cl q' < c) → ∃ f : Nat → Nat, ∀ c, c < cnt → f c < N ∧ cl (f c) = c := fun cl cnt hs => by
    refine ⟨fun c => if hc : c < cnt then (hs c hc).choose else 0, fun c hc => ?_⟩
    simp only [dif_pos hc]
    exact ⟨(hs c hc).choose_spec.1, (hs c hc).choose_spec.2.1⟩
  obtain ⟨f, hf⟩ := hpick cl cnt h.sur
  obtain ⟨f', hf'⟩ := hpick _ _ h3
  have href : ∀ i j, i < N → j < N → nCl N (mKey mx cl) i = nCl N (mKey mx cl) j → cl i = cl j := fun i j hi hj e => (mKey_eq.1 ((h2 i j hi hj).1 e)).1
  have hnd : ((List.range cnt).map fun c => nCl N (mKey mx cl) (f c)).Nodup := by
    unfold List.Nodup
    rw [List.pairwise_map]
    refine List.Pairwise.imp_of_mem (fun {a b} ha hb hab e => ?_) List.nodup_range
    have ha := List.mem_range.1 ha
    have hb := List.mem_range.1 hb
    have := href _ _ (hf a ha).1 (hf b hb).1 e
    rw [(hf a ha).2, (hf b hb).2] at this
    exact hab this
  have hbd : ∀ x ∈ ((List.range cnt).map fun c => nCl N (mKey mx cl) (f c)), x < nCnt N (mKey mx cl) := fun x hx => by
    obtain ⟨c, hc, rfl⟩ := List.mem_map.1 hx
    exact h1 _ (hf c (List.mem_range.1 hc)).1
  have hle : cnt ≤ nCnt N (mKey mx cl) := by
    have := nodup_lt _ _ hnd hbd
    simpa using this
  have hleN : nCnt N (mKey mx cl) ≤ N := by
    have hnd' : ((List.range (nCnt N (mKey mx cl))).map f').Nodup := by
      unfold List.Nodup
      rw [List.pairwise_map]
      refine List.Pairwise.imp_of_mem (fun {a b} ha hb hab e => ?_) List.nodup_range
      have ha := (hf' a (List.mem_range.1 ha)).2
      have hb := (hf' b (List.mem_range.1 hb)).2
      rw [e] at ha
      exact hab (ha.symm.trans hb)
    have := nodup_lt N _ hnd' (fun x hx => by
      obtain ⟨c, hc, rfl⟩ := List.mem_map.1 hx
      exact (hf' c (List.mem_range.1 hc)).1)
    simpa using this
  refine ⟨⟨h1, h3, fun i j hi hj e => h.good i j hi hj (href i j hi hj e), fun i j hi hj e => ?_⟩, hle, hleN, fun heq i j hi hj e x hx => ?_⟩
  · by_cases hc : cl i = cl j
    · have hk : ¬ ∀ x, x < 4 → cl (mx i x) = cl (mx j x) := fun hx => e ((h2 i j hi hj).2 (mKey_eq.2 ⟨hc, hx⟩))
      have : ∃ x, x < 4 ∧ cl (mx i x) ≠ cl (mx j x) := by
        refine Classical.byContradiction fun hn => hk fun x hx => Classical.byContradiction fun hne => hn ⟨x, hx, hne⟩
      obtain ⟨x, hx, hne⟩ := this
      have hxL : x < L := by
        by_cases hxL : x < L
        · exact hxL
        · rw [hz i x hi hx (by omega), hz j x hj hx (by omega)] at hne
          exact absurd rfl hne
      obtain ⟨l, hl1, hl2⟩ := h.dis _ _ (hmx i x hi hx) (hmx j x hj hx) hne
      exact ⟨x :: l, fun y hy => (List.mem_cons.1 hy).elim (fun e => e ▸ hxL) (hl1 y), hl2⟩
    · exact h.dis i j hi hj hc
  · -- as many numbers as before: the same classes
    have hin : nCl N (mKey mx cl) i ∈ ((List.range cnt).map fun c => nCl N (mKey mx cl) (f c)) := full_of_nodup (n := cnt) hnd (fun x hx => heq ▸ hbd x hx) (by simp) (heq ▸ h1 i hi)
    have hjn : nCl N (mKey mx cl) j ∈ ((List.range cnt).map fun c => nCl N (mKey mx cl) (f c)) := full_of_nodup (n := cnt) hnd (fun x hx => heq ▸ hbd x hx) (by simp) (heq ▸ h1 j hj)
    obtain ⟨c, hc, hce⟩ := List.mem_map.1 hin
    obtain ⟨d, hd, hde⟩ := List.mem_map.1 hjn
    have hc := List.mem_range.1 hc
    have hd := List.mem_range.1 hd
    have e1 := href _ _ (hf c hc).1 hi hce
    have e2 := href _ _ (hf d hd).1 hj hde
    rw [(hf c hc).2] at e1
    rw [(hf d hd).2] at e2
    have hcd : c = d := by omega
    subst hcd
    have hsame : nCl N (mKey mx cl) i = nCl N (mKey mx cl) j := hce.symm.trans hde
    exact (mKey_eq.1 ((h2 i j hi hj).1 hsame)).2 x hx
end Go.Proofs.Ytnnfobmfffbhaaa
