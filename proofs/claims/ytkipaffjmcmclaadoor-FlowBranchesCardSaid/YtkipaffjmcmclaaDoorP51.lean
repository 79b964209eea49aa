import Derived.Test.YtkipaffjmcmclaaDoorP50
set_option linter.unusedSimpArgs false
set_option linter.unusedVariables false
set_option linter.unusedSectionVars false
open Go Go.Eng
namespace Go.Proofs.YtkipaffjmcmclaaDoor
attribute [local congr] undef_congr WpK.congr WpS.congr WpL.congr WpC.congr WpF.congr gotS.congr callS.congr nextS.congr wantS.congr condS.congr
attribute [local irreducible] WpK
attribute [local simp] WpDr_nil WpDr_cons atS_some dwantS_true dwantS_false kindS_light kindS_float kindS_heavy lightS_value floatS_some heavyS_value heavyS_skip heavyS_enter dcallS_some doneS_eq
  isLight isFloat isPlain dLook testBit_dec dChain dLights_nil dLights_skip dLights_one dLight_nil dLight_cons dFreshes_nil dFreshes_one oneF_none oneF_some dFresh_nil dFresh_cons oneL_some oneW_true oneW_false sameV_value dPut dMay valEq arrEq listEq List.getElem?_cons Tr.get_nil dEnd
attribute [local simp] WpS_nil WpS_cons isDefer undef_false wantS_true wantS_false nextS_value nextS_skip nextS_enter callS_some gotS_some aWanted aOp aEvalF aEval opMove opAssign opPick aVal flat flat1 AAct.put opBinOp opConvert opIndex Tr.get_set Tr.get_lay aBin aResults tupled
  aCall aVals aCallB blt_dec ble_dec beq_dec aBinI_add aBinI_sub aBinI_lss aBinI_leq aBinI_gtr aBinI_geq aBinI_eql aBinI_neq index_str len_str len_slice Nat.beq_refl und2 und3 und4 und5 und39 und76 und82 und116 und22 und29 und25 und33 und46 und43 und49 und111 und113 field152 field156_0 field156_1 field156_2 field156_3 field156_4
  field78 field106 field24 field31 field27 field35 field108 field109 opBox opLoad opFieldAddr opIndexAddr acells aAddr opExtract aExtract opUnOp opAlloc opStore opMakeInterface opNilCheck opBuild aParts opBuildSlice aValW
set_option maxHeartbeats 4000000
set_option linter.unusedSimpArgs false
set_option linter.unusedVariables false
/-! ### trees of branches -/
/-- how many branches but one lead within a set, between two places -/
def usedB (wo : Int) (T : Nat) : Nat → List Bra → Nat
  | _, [] => 0
  | i, a :: l => usedB wo T (i + 1) l + (if (i : Int) ≠ wo ∧ a.1 ≠ a.2.1 ∧ T.testBit a.1.toNat = true ∧ T.testBit a.2.1.toNat = true then 1 else 0)
theorem usedB_le {wo : Int} {T U : Nat} (h : ∀ q, T.testBit q = true → U.testBit q = true) : ∀ (l : List Bra) (i : Nat), usedB wo T i l ≤ usedB wo U i l
  | [], _ => Nat.le_refl _
  | a :: l, i => by
    have := usedB_le (wo := wo) h l (i + 1)
    rw [usedB, usedB]
    split
    · rename_i g
      rw [if_pos ⟨g.1, g.2.1, h _ g.2.2.1, h _ g.2.2.2⟩]; omega
    · split <;> omega
theorem usedB_lt {wo : Int} {T U : Nat} (h : ∀ q, T.testBit q = true → U.testBit q = true) : ∀ (l : List Bra) (i j : Nat) (a : Bra), l[j]? = some a → ((i + j : Nat) : Int) ≠ wo → a.1 ≠ a.2.1 → U.testBit a.1.toNat = true → U.testBit a.2.1.toNat = true → ¬ (T.testBit a.1.toNat = true ∧ T.testBit a.2.1.toNat = true) → usedB wo T i l < usedB wo U i l
  | [], _, j, _, hj, _, _, _, _, _ => by simp at hj
  | b :: l, i, 0, a, hj, h1, h2, h3, h4, h5 => by
    simp at hj; subst hj
    have := usedB_le (wo := wo) h l (i + 1)
    rw [usedB, usedB, if_neg (fun g => h5 ⟨g.2.2.1, g.2.2.2⟩), if_pos ⟨by simpa using h1, h2, h3, h4⟩]; omega
  | b :: l, i, j + 1, a, hj, h1, h2, h3, h4, h5 => by
    have := usedB_lt (wo := wo) h l (i + 1) j a (by simpa using hj) (by rw [show i + 1 + j = i + (j + 1) from by omega]; exact h1) h2 h3 h4 h5
    rw [usedB, usedB]
    split
    · rename_i g
      rw [if_pos ⟨g.1, g.2.1, h _ g.2.2.1, h _ g.2.2.2⟩]; omega
    · split <;> omega
theorem usedB_max (wo : Int) (T : Nat) : ∀ (l : List Bra) (i : Nat), usedB wo T i l ≤ l.length
  | [], _ => Nat.le_refl _
  | a :: l, i => by have := usedB_max wo T l (i + 1); rw [usedB, List.length_cons]; split <;> omega
/-- .. not all of them, if one is left out or joins a place with itself -/
theorem usedB_less (wo : Int) (T : Nat) : ∀ (l : List Bra) (i j : Nat) (a : Bra), l[j]? = some a → (((i + j : Nat) : Int) = wo ∨ a.1 = a.2.1) → usedB wo T i l < l.length
  | [], _, j, _, hj, _ => by simp at hj
  | b :: l, i, 0, a, hj, h => by
    simp at hj; subst hj
    have := usedB_max wo T l (i + 1)
    rw [usedB, List.length_cons, if_neg (fun g => by
      rcases h with h | h
      · exact g.1 (by simpa using h)
      · exact g.2.1 h)]; omega
  | b :: l, i, j + 1, a, hj, h => by
    have := usedB_less wo T l (i + 1) j a (by simpa using hj) (by rw [show i + 1 + j = i + (j + 1) from by omega]; exact h)
    rw [usedB, List.length_cons]; split <;> omega
/-- what is known of a set that grows by branches of L, from f: it isn't larger than the branches allow; what is in it is reached, with no use of a branch that leads out of it; each place but f has come by a branch whose other place is reached without it -/
structure Grown (L : List Bra) (wo : Int) (n f T : Nat) : Prop where
  lt : ∀ q, T.testBit q = true → q < n
  src : T.testBit f = true
  cnt : cntB T n ≤ 1 + usedB wo T 0 L
  wo' : ∀ (j : Nat) a, L[j]? = some a → (j : Int) ≠ wo → ¬ (T.testBit a.1.toNat = true ∧ T.testBit a.2.1.toNat = true) → wo = -1 → ∀ q : Nat, T.testBit q = true → Way L j f q
  by' : wo = -1 → ∀ q : Nat, T.testBit q = true → q ≠ f → ∃ (j : Nat) (y : Nat) (a : Bra), L[j]? = some a ∧ ((a.1 = y ∧ a.2.1 = q) ∨ (a.1 = q ∧ a.2.1 = y)) ∧ Way L j f y
theorem cntB_or {T x : Nat} (h : T.testBit x = false) : ∀ n, x < n → cntB (T ||| 1 <<< x) n = cntB T n + 1
  | 0, hx => by omega
  | n + 1, hx => by
    rw [cntB, cntB, Nat.testBit_or, one_bit]
    by_cases e : x = n
    · subst e
      have key : ∀ m, m ≤ x → cntB (T ||| 1 <<< x) m = cntB T m := by
        intro m
        induction m with
        | zero => intro _; rfl
        | succ m ih =>
          intro hm
          rw [cntB, cntB, ih (by omega), Nat.testBit_or, one_bit, decide_eq_false (by omega), Bool.or_false]
      rw [key x (Nat.le_refl _), h]; simp
    · rw [cntB_or h n (by omega), decide_eq_false e, Bool.or_false]; omega
theorem Grown.start {L : List Bra} {wo : Int} {n f : Nat} (hf : f < n) : Grown L wo n f (1 <<< f) := by
  have hb : ∀ q, (1 <<< f).testBit q = true ↔ q = f := fun q => by rw [one_bit]; simp; exact ⟨fun h => h.symm, fun h => h.symm⟩
  refine ⟨fun q hq => by have := (hb q).1 hq; omega, (hb f).2 rfl, ?_, fun j a _ _ _ _ q hq => ?_, fun _ q hq hne => absurd ((hb q).1 hq) hne⟩
  · have h0 : cntB 0 n = 0 := by
      have : ∀ m, cntB 0 m = 0 := fun m => by
        induction m with
        | zero => rfl
        | succ m ih => rw [cntB, ih, Nat.zero_testBit]; rfl
      exact this n
    have h1 := cntB_or (T := 0) (x := f) (Nat.zero_testBit f) n hf
    rw [Nat.zero_or] at h1
    omega
  · rw [(hb q).1 hq]; exact .here
theorem Grown.step {L : List Bra} {wo : Int} {n f T : Nat} (hL : BrIn n L) (h : Grown L wo n f T) {i : Nat} {a : Bra} (ha : L[i]? = some a) : Grown L wo n f (stepB wo i a T) := by
  by_cases hc : (i : Int) ≠ wo ∧ T.testBit a.1.toNat ≠ T.testBit a.2.1.toNat
  case neg =>
    have : stepB wo i a T = T := by unfold stepB; rw [if_neg hc]
    rw [this]; exact h
  have hb := hL a (List.mem_of_getElem? ha)
  -- the new place and the old one
  obtain ⟨x, y, hxy, hx, hy⟩ : ∃ x y : Nat, ((a.1 = x ∧ a.2.1 = y) ∨ (a.1 = y ∧ a.2.1 = x)) ∧ T.testBit x = false ∧ T.testBit y = true := by
    cases h1 : T.testBit a.1.toNat with
    | false =>
      refine ⟨a.1.toNat, a.2.1.toNat, .inl ⟨by omega, by omega⟩, h1, ?_⟩
      cases h2 : T.testBit a.2.1.toNat with
      | true => rfl
      | false => exact absurd (h1.trans h2.symm) hc.2
    | true =>
      refine ⟨a.2.1.toNat, a.1.toNat, .inr ⟨by omega, by omega⟩, ?_, h1⟩
      cases h2 : T.testBit a.2.1.toNat with
      | true => exact absurd (h1.trans h2.symm) hc.2
      | false => rfl
  have hxn : x < n := by omega
  have hbit : ∀ q, (stepB wo i a T).testBit q = (T.testBit q || decide (x = q)) := fun q => by
    rw [stepB_bit, decide_eq_true hc, Bool.true_and]
    cases hT : T.testBit q with
    | true => rfl
    | false =>
      have hqy : q ≠ y := fun e => by rw [e, hy] at hT; cases hT
      rcases hxy with ⟨e1, e2⟩ | ⟨e1, e2⟩
      · rw [e1, e2, Int.toNat_natCast, Int.toNat_natCast, decide_eq_false (show ¬ y = q from fun e => hqy e.symm)]; simp
      · rw [e1, e2, Int.toNat_natCast, Int.toNat_natCast, decide_eq_false (show ¬ y = q from fun e => hqy e.symm)]; simp
  have hor : stepB wo i a T = T ||| 1 <<< x := Nat.eq_of_testBit_eq fun q => by rw [hbit, Nat.testBit_or, one_bit]
  have hsub : ∀ q, T.testBit q = true → (stepB wo i a T).testBit q = true := fun q hq => by rw [hbit, hq]; rfl
  have hxb : (stepB wo i a T).testBit x = true := by rw [hbit]; simp
  have hyb := hsub y hy
  have hboth : (stepB wo i a T).testBit a.1.toNat = true ∧ (stepB wo i a T).testBit a.2.1.toNat = true := by
    rcases hxy with ⟨e1, e2⟩ | ⟨e1, e2⟩
    · rw [e1, e2, Int.toNat_natCast, Int.toNat_natCast]; exact ⟨hxb, hyb⟩
    · rw [e1, e2, Int.toNat_natCast, Int.toNat_natCast]; exact ⟨hyb, hxb⟩
  have hnot : ¬ (T.testBit a.1.toNat = true ∧ T.testBit a.2.1.toNat = true) := fun g => hc.2 (g.1.trans g.2.symm)
  refine ⟨fun q hq => ?_, hsub f h.src, ?_, fun j b hj hjw hjn hw q hq => ?_, fun hw q hq hne => ?_⟩
  · rw [hbit, Bool.or_eq_true, decide_eq_true_eq] at hq
    rcases hq with hq | hq
    · exact h.lt q hq
    · omega
  · have h1 := usedB_lt (wo := wo) hsub L 0 i a ha (by rw [Nat.zero_add]; exact hc.1) (fun e => hc.2 (by rw [e])) hboth.1 hboth.2 hnot
    have h2 := h.cnt
    rw [hor, cntB_or hx n hxn, ← hor]
    omega
  · have hjn' : ¬ (T.testBit b.1.toNat = true ∧ T.testBit b.2.1.toNat = true) := fun g => hjn ⟨hsub _ g.1, hsub _ g.2⟩
    have hold := h.wo' j b hj hjw hjn' hw
    rw [hbit, Bool.or_eq_true, decide_eq_true_eq] at hq
    rcases hq with hq | rfl
    · exact hold q hq
    · have hij : (i : Int) ≠ j := fun e => by
        have : i = j := by omega
        subst this; rw [ha] at hj; cases hj; exact hjn hboth
      exact .next (hold y hy) ⟨i, a, ha, hij, by rcases hxy with ⟨e1, e2⟩ | ⟨e1, e2⟩ <;> omega⟩
  · rw [hbit, Bool.or_eq_true, decide_eq_true_eq] at hq
    rcases hq with hq | rfl
    · exact h.by' hw q hq hne
    · exact ⟨i, y, a, ha, by rcases hxy with ⟨e1, e2⟩ | ⟨e1, e2⟩ <;> omega, h.wo' i a ha hc.1 hnot hw y hy⟩
theorem Grown.round {L : List Bra} {wo : Int} {n f : Nat} (hL : BrIn n L) : ∀ (l : List Bra) (i T : Nat), (∀ (j : Nat) a, l[j]? = some a → L[i + j]? = some a) → Grown L wo n f T → Grown L wo n f (roundB wo i l T)
  | [], _, _, _, h => h
  | a :: l, i, T, hl, h => by
    rw [roundB]
    exact Grown.round hL l (i + 1) _ (fun j b hj => by rw [show i + 1 + j = i + (j + 1) from by omega]; exact hl (j + 1) b (by simpa using hj)) (h.step hL (by have := hl 0 a rfl; simpa using this))
theorem Grown.rounds {L : List Bra} {wo : Int} {n f : Nat} (hL : BrIn n L) : ∀ (k T : Nat), Grown L wo n f T → Grown L wo n f (roundsB L wo k T)
  | 0, _, h => h
  | k + 1, T, h => Grown.rounds hL k _ (Grown.round hL L 0 T (fun j a hj => by rw [Nat.zero_add]; exact hj) h)
/-- all is reached -/
def spansB (l : List Bra) : Prop := ∀ q : Nat, q < l.length + 1 → (roundsB l (-1) l.length (1 <<< 0)).testBit q = true
theorem cntB_all {T : Nat} : ∀ n, (∀ q, q < n → T.testBit q = true) → cntB T n = n
  | 0, _ => rfl
  | n + 1, h => by rw [cntB, cntB_all n (fun q hq => h q (by omega)), h n (by omega)]; rfl
/-- then no branch joins a place with itself -/
theorem spans_two {l : List Bra} (hL : BrIn (l.length + 1) l) (h : spansB l) : ∀ a ∈ l, a.1 ≠ a.2.1 := by
  intro a ha e
  obtain ⟨j, hj⟩ := List.mem_iff_getElem?.1 ha
  have hg := Grown.rounds (wo := -1) hL l.length (1 <<< 0) (Grown.start (by omega))
  have h1 := hg.cnt
  rw [cntB_all _ h] at h1
  have := usedB_less (-1) (roundsB l (-1) l.length (1 <<< 0)) l 0 j a hj (.inr e)
  omega
/-- .. and without a branch its places are not joined -/
theorem spans_cut {l : List Bra} (hL : BrIn (l.length + 1) l) (h : spansB l) {j : Nat} {a : Bra} (hj : l[j]? = some a) {f : Nat} (hf : f < l.length + 1) (hy : Way l j f a.1) (hz : Way l j f a.2.1) : False := by
  have hall : ∀ q : Nat, q < l.length + 1 → Way l j f q := by
    -- a way over the branch is one around it
    have cl : ClosedB l (-1) (fun x => Way l j f x) := fun y z hw ⟨i, b, h1, _, h3⟩ => by
      by_cases e : i = j
      · subst e
        rw [hj] at h1; cases h1
        rcases h3 with ⟨_, rfl⟩ | ⟨rfl, _⟩
        · exact hz
        · exact hy
      · exact .next hw ⟨i, b, h1, by omega, h3⟩
    have h0 : Way l j f (0 : Nat) := by
      have hr := (reach_way (wo := -1) hL (show (0 : Nat) < l.length + 1 by omega) (Nat.le_refl _) f).1 (h f hf)
      -- the way back
      have back : ∀ x : Int, Way l (-1) (0 : Nat) x → Way l (-1) x (0 : Nat) := fun x hx => by
        induction hx with
        | here => exact .here
        | next hw hjn ih =>
          have tr : ∀ {u v w : Int}, Way l (-1) u v → Way l (-1) v w → Way l (-1) u w := fun {u v w} huv hvw => by
            induction hvw with
            | here => exact huv
            | next _ hj2 ih2 => exact .next ih2 hj2
          exact tr (.next .here hjn.symm) ih
      exact (back f hr).within cl .here
    intro q hq
    exact ((reach_way (wo := -1) hL (show (0 : Nat) < l.length + 1 by omega) (Nat.le_refl _) q).1 (h q hq)).within cl h0
  have hg := Grown.rounds (wo := (j : Int)) hL l.length (1 <<< f) (Grown.start hf)
  have h1 := hg.cnt
  rw [cntB_all _ (fun q hq => (reach_way (wo := (j : Int)) hL hf (Nat.le_refl _) q).2 (hall q hq))] at h1
  have := usedB_less (j : Int) (roundsB l j l.length (1 <<< f)) l 0 j a hj (.inl (by rw [Nat.zero_add]))
  omega

end Go.Proofs.YtkipaffjmcmclaaDoor

open Go Go.Eng
namespace Go.Proofs.YtkipaffjmcmclaaDoor
attribute [local congr] undef_congr WpK.congr WpS.congr WpL.congr WpC.congr WpF.congr gotS.congr callS.congr nextS.congr wantS.congr condS.congr
attribute [local irreducible] WpK
attribute [local simp] WpDr_nil WpDr_cons atS_some dwantS_true dwantS_false kindS_light kindS_float kindS_heavy lightS_value floatS_some heavyS_value heavyS_skip heavyS_enter dcallS_some doneS_eq
  isLight isFloat isPlain dLook testBit_dec dChain dLights_nil dLights_skip dLights_one dLight_nil dLight_cons dFreshes_nil dFreshes_one oneF_none oneF_some dFresh_nil dFresh_cons oneL_some oneW_true oneW_false sameV_value dPut dMay valEq arrEq listEq List.getElem?_cons Tr.get_nil dEnd
attribute [local simp] WpS_nil WpS_cons isDefer undef_false wantS_true wantS_false nextS_value nextS_skip nextS_enter callS_some gotS_some aWanted aOp aEvalF aEval opMove opAssign opPick aVal flat flat1 AAct.put opBinOp opConvert opIndex Tr.get_set Tr.get_lay aBin aResults tupled
  aCall aVals aCallB blt_dec ble_dec beq_dec aBinI_add aBinI_sub aBinI_lss aBinI_leq aBinI_gtr aBinI_geq aBinI_eql aBinI_neq index_str len_str len_slice Nat.beq_refl und2 und3 und4 und5 und39 und76 und82 und116 und22 und29 und25 und33 und46 und43 und49 und111 und113 field152 field156_0 field156_1 field156_2 field156_3 field156_4
  field78 field106 field24 field31 field27 field35 field108 field109 opBox opLoad opFieldAddr opIndexAddr acells aAddr opExtract aExtract opUnOp opAlloc opStore opMakeInterface opNilCheck opBuild aParts opBuildSlice aValW
set_option maxHeartbeats 4000000
set_option linter.unusedSimpArgs false
set_option linter.unusedVariables false
/-! ### joins, Between -/
theorem spans_sep {l : List Bra} (hL : BrIn (l.length + 1) l) (h : spansB l) {f q : Nat} (hf : f < l.length + 1) (hq : q < l.length + 1) (hne : q ≠ f) : ∃ (j : Nat) (a : Bra), l[j]? = some a ∧ ¬ Way l j f q := by
  have hall : ∀ x : Nat, x < l.length + 1 → (roundsB l (-1) l.length (1 <<< f)).testBit x = true := by
    intro x hx
    have h0 : Way l (-1) f (0 : Nat) := by
      have hr := (reach_way (wo := -1) hL (show (0 : Nat) < l.length + 1 by omega) (Nat.le_refl _) f).1 (h f hf)
      have back : ∀ x : Int, Way l (-1) (0 : Nat) x → Way l (-1) x (0 : Nat) := fun x hx => by
        induction hx with
        | here => exact .here
        | next hw hjn ih =>
          have tr : ∀ {u v w : Int}, Way l (-1) u v → Way l (-1) v w → Way l (-1) u w := fun {u v w} huv hvw => by
            induction hvw with
            | here => exact huv
            | next _ hj2 ih2 => exact .next ih2 hj2
          exact tr (.next .here hjn.symm) ih
      exact back f hr
    have hx0 := (reach_way (wo := -1) hL (show (0 : Nat) < l.length + 1 by omega) (Nat.le_refl _) x).1 (h x hx)
    exact (reach_way (wo := -1) hL hf (Nat.le_refl _) x).2 (hx0.within (fun y z hw hj => .next hw hj) h0)
  have hg := Grown.rounds (wo := -1) hL l.length (1 <<< f) (Grown.start hf)
  obtain ⟨j, y, a, hj, hxy, hw⟩ := hg.by' rfl q (hall q hq) hne
  refine ⟨j, a, hj, fun hwq => ?_⟩
  rcases hxy with ⟨e1, e2⟩ | ⟨e1, e2⟩
  · exact spans_cut hL h hj hf (by rw [e1]; exact hw) (by rw [e2]; exact hwq)
  · exact spans_cut hL h hj hf (by rw [e1]; exact hwq) (by rw [e2]; exact hw)
/-- the branches are a tree of the places 0 to their number -/
def joinsB (l : List Bra) : Prop := 1 ≤ l.length ∧ l.length ≤ 23 ∧ BrIn (l.length + 1) l ∧ spansB l
theorem full_iff {T n : Nat} (h : T < 2 ^ n) : T = 2 ^ n - 1 ↔ ∀ q, q < n → T.testBit q = true := by
  constructor
  · rintro rfl q hq; rw [Nat.testBit_two_pow_sub_one]; simpa using hq
  · intro hall
    apply Nat.eq_of_testBit_eq
    intro q
    rw [Nat.testBit_two_pow_sub_one]
    by_cases hq : q < n
    · rw [hall q hq]; simp [hq]
    · rw [Nat.testBit_lt_two_pow (Nat.lt_of_lt_of_le h (Nat.pow_le_pow_right (by omega) (by omega)))]; simp [hq]
theorem joins_wp {W : AW} {v : Value} {l : List Bra} (h : TriIn W v l) (hl : l.length ≤ 1000) :
    WpF T0 68 [v] W (fun u W' => Ext W W' ∧ ((joinsB l ∧ u = .bool true) ∨ (¬ joinsB l ∧ u = .bool false))) := by
  have h' := h
  obtain ⟨Av, cv, rfl, hA⟩ := h
  refine wpF fun68 rfl ?_
  have w1 : IntKind.i64.wrap ((l.length : Int) + 1) = (l.length : Int) + 1 := IntWalk.i64_in _ (by omega)
  try simp only [wpK_assoc]
  refine wpK_reg (fun R hR => by simp []; exact hR) ?_
  by_cases c1 : (l.length : Int) + 1 < 2
  · try simp only [wpK_assoc]
    refine wpK_reg (fun R hR => by simp [len_slice und59, w1, c1]; exact hR) ?_
    try simp only [wpK_assoc]
    first | refine wpK_onT (by simp []) ?_ | refine wpK_outT (by simp []) ?_ | refine wpK_condT (by simp []) ?_ | refine wpK_endT (by simp []) ?_
    try simp only [wpK_assoc]
    refine wpK_reg (fun R hR => by simp []; exact hR) ?_
    exact wpK_ret ⟨.inr rfl, rfl, [.bool false], by simp, .refl _ _, .inr ⟨fun hj => by have := hj.1; omega, rfl⟩⟩
  by_cases c2 : (24 : Int) < (l.length : Int) + 1
  · try simp only [wpK_assoc]
    refine wpK_reg (fun R hR => by simp [len_slice und59, w1, c1, c2]; exact hR) ?_
    try simp only [wpK_assoc]
    first | refine wpK_onT (by simp []) ?_ | refine wpK_outT (by simp []) ?_ | refine wpK_condT (by simp []) ?_ | refine wpK_endT (by simp []) ?_
    try simp only [wpK_assoc]
    refine wpK_reg (fun R hR => by simp []; exact hR) ?_
    exact wpK_ret ⟨.inr rfl, rfl, [.bool false], by simp, .refl _ _, .inr ⟨fun hj => by have := hj.2.1; omega, rfl⟩⟩
  try simp only [wpK_assoc]
  refine wpK_reg (fun R hR => by simp [len_slice und59, w1, c1, c2]; exact hR) ?_
  try simp only [wpK_assoc]
  first | refine wpK_onF (by simp []) ?_ | refine wpK_out (by simp []) ?_ | refine wpK_condF (by simp []) ?_ | refine wpK_endF (by simp []) (wpK_skip ?_) | refine wpK_endF (by simp []) ?_
  try simp only [wpK_assoc]
  refine wpK_reg (fun R hR => by simp [len_slice und59]; exact hR) ?_
  try simp only [wpK_assoc]
  refine wpK_while (I := fun k A W' => A.n = 38 ∧ A.defers = [] ∧ A.tmps.get 0 = some (.slice Av l.length cv) ∧ A.tmps.get 15 = some (.slice Av l.length cv) ∧ A.tmps.get 16 = some (.int .i64 l.length) ∧ Ext W W' ∧ ∃ i : Nat, k = l.length - i ∧ i ≤ l.length ∧ A.tmps.get 17 = some (.int .i64 i) ∧ ∀ (j : Nat) a, j < i → l[j]? = some a → two? a.1 a.2.1 ((l.length + 1 : Nat) : Int) = true)
    (J := fun A W' => A.n = 38 ∧ A.defers = [] ∧ A.tmps.get 0 = some (.slice Av l.length cv) ∧ A.tmps.get 15 = some (.slice Av l.length cv) ∧ A.tmps.get 16 = some (.int .i64 l.length) ∧ Ext W W' ∧ ∀ a ∈ l, two? a.1 a.2.1 ((l.length + 1 : Nat) : Int) = true)
    (Rt := fun A W' => A.defers = [] ∧ A.tmps.get 2 = some (.bool false) ∧ Ext W W' ∧ ¬ joinsB l) (k := l.length) ?_ ?_ ?_ ?_
  · exact ⟨rfl, rfl, by simp, by simp, by simp, .refl _ _, 0, by simp, by omega, by simp, fun j a hj => by omega⟩
  · rintro k ⟨tm, n, ds⟩ W3 ⟨hn, hd, h0, h15, h16, e3, i, hk, hi, h17, hgood⟩ Q' hJ hRt hI
    simp only at hn hd h0 h15 h16
    subst hn; subst hd
    simp only at h17
    try simp only [wpK_assoc]
    refine wpK_reg (fun R hR => by simp [h16, h17]; exact hR) ?_
    by_cases hlt : i < l.length
    · try simp only [wpK_assoc]
      first | refine wpK_onT (by simp [hlt]) ?_ | refine wpK_outT (by simp [hlt]) ?_ | refine wpK_condT (by simp [hlt]) ?_ | refine wpK_endT (by simp [hlt]) ?_
      have ha : l[i]? = some l[i] := List.getElem?_eq_getElem hlt
      have hmem : l[i] ∈ l := List.getElem_mem hlt
      generalize l[i] = a at ha hmem
      obtain ⟨b, o, hAv, q1, q2, q3⟩ := hA i _ ha
      have eV := indexAddr_tri (T := T0) und59 sz66 (b := b) (o := o) (c := cv) (k := .i64) hlt
      rw [← hAv] at eV
      have hl3 := load3 (T := T0) und66 agg66 inf66 is66 (q1.ext e3) (q2.ext e3) (q3.ext e3)
      obtain ⟨W5, s1, s2, hE5, hV5⟩ := storeVar_new (T := T0) (W := W3) (t := 66) (v := .agg ⟨[.int .i64 a.1, .int .i64 a.2.1, .int .i64 a.2.2]⟩) (z := [.int .i64 0, .int .i64 0, .int .i64 0]) inf66 (by rw [is66]; rfl) (by rw [is66]; rfl) rfl
      have e5 := e3.trans hE5
      have lx : aLoadVar T0 W5 3 W3.next 0 = some (.int .i64 a.1) := hV5.load1 (T := T0) und3 rfl (j := 0) (v := .int .i64 a.1) rfl
      have ly : aLoadVar T0 W5 3 W3.next 1 = some (.int .i64 a.2.1) := hV5.load1 (T := T0) und3 rfl (j := 1) (v := .int .i64 a.2.1) rfl
      have hsi : IntKind.i64.wrap ((i : Int) + 1) = ((i + 1 : Nat) : Int) := i64_succ i (by omega)
      have hat := areTwo_wp a.1 a.2.1 ((l.length : Int) + 1) W5
      have e1 : ((l.length + 1 : Nat) : Int) = (l.length : Int) + 1 := by omega
      refine wpK_block ?_
      try simp only [wpK_assoc]
      refine wpK_reg (fun R hR => by simp [h15, h17, eV, hl3, zero66, s1]; exact hR) ?_
      cases h2 : two? a.1 a.2.1 ((l.length : Int) + 1) with
      | false =>
        rw [h2] at hat
        try simp only [wpK_assoc]
        refine wpK_reg (fun R hR => by
            simp [h0, lx, ly, len_slice und59, w1, field66, aEnter, fun74, short_other, aCallV]; rw [callS_none]
            refine (hat).mono ?_
            rintro _ W9 ⟨e9, rfl⟩; subst W9
            simp [h0, lx, ly, len_slice und59, w1, field66]; exact hR) ?_
        try simp only [wpK_assoc]
        first | refine wpK_onT (by simp []) ?_ | refine wpK_outT (by simp []) ?_ | refine wpK_condT (by simp []) ?_ | refine wpK_endT (by simp []) ?_
        try simp only [wpK_assoc]
        refine wpK_reg (fun R hR => by simp []; exact hR) ?_
        refine wpK_ret (hRt _ _ ⟨rfl, by simp, e5, fun hj => ?_⟩)
        have b1 := hj.2.2.1 a hmem
        have b2 := spans_two hj.2.2.1 hj.2.2.2 a hmem
        simp [two?] at h2
        omega
      | true =>
        rw [h2] at hat
        try simp only [wpK_assoc]
        refine wpK_reg (fun R hR => by
            simp [h0, lx, ly, len_slice und59, w1, field66, aEnter, fun74, short_other, aCallV]; rw [callS_none]
            refine (hat).mono ?_
            rintro _ W9 ⟨e9, rfl⟩; subst W9
            simp [h0, lx, ly, len_slice und59, w1, field66]; exact hR) ?_
        try simp only [wpK_assoc]
        first | refine wpK_onF (by simp []) ?_ | refine wpK_out (by simp []) ?_ | refine wpK_condF (by simp []) ?_ | refine wpK_endF (by simp []) (wpK_skip ?_) | refine wpK_endF (by simp []) ?_
        try simp only [wpK_assoc]
        refine wpK_reg1 (fun R hR => by simp [h17, hsi]; exact hR) ?_
        refine hI (k - 1) _ _ (by omega) ⟨rfl, rfl, by simp [h0, h15, h16], by simp [h0, h15, h16], by simp [h0, h15, h16], e5, i + 1, by omega, by omega, by simp, fun j b hj hb => ?_⟩
        by_cases e : j = i
        · subst e; rw [ha] at hb; cases hb; rw [e1]; exact h2
        · exact hgood j b (by omega) hb
    · try simp only [wpK_assoc]
      first | refine wpK_onF (by simp [hlt]) ?_ | refine wpK_out (by simp [hlt]) ?_ | refine wpK_condF (by simp [hlt]) ?_ | refine wpK_endF (by simp [hlt]) (wpK_skip ?_) | refine wpK_endF (by simp [hlt]) ?_
      refine hJ _ _ ⟨rfl, rfl, by simp [h0, h15, h16], by simp [h0, h15, h16], by simp [h0, h15, h16], e3, fun a ha => ?_⟩
      obtain ⟨j, hj, rfl⟩ := List.getElem_of_mem ha
      exact hgood j l[j] (by omega) (List.getElem?_eq_getElem hj)
  · rintro A' W' ⟨g1, g2, g3, g4⟩
    exact ⟨.inr rfl, g1, [.bool false], by simp [g2], g3, .inr ⟨g4, rfl⟩⟩
  · rintro ⟨tm, n, ds⟩ W3 ⟨hn, hd, h0, h15, h16, e3, hall⟩
    simp only at hn hd h0 h15 h16
    subst hn; subst hd
    have hL : BrIn (l.length + 1) l := fun a ha => by
      have := hall a ha
      simp [two?] at this
      omega
    have hrw := reach_wp (n := l.length + 1) (f := 0) (h'.ext e3) (by omega) hL (by omega) (by omega) (-1)
    have hbw := fun W' => below_wp (l.length + 1) (by omega) W'
    have e1 : ((l.length + 1 : Nat) : Int) = (l.length : Int) + 1 := by omega
    simp only [e1] at hbw
    have hfi := fun h => full_iff (T := roundsB l (-1) l.length (1 <<< 0)) (n := l.length + 1) h
    have hsp : (∀ q, q < l.length + 1 → (roundsB l (-1) l.length (1 <<< 0)).testBit q = true) ↔ spansB l := Iff.rfl
    generalize roundsB l (-1) l.length (1 <<< 0) = R0 at hrw hfi hsp
    generalize 2 ^ (l.length + 1) - 1 = pm at hbw hfi
    simp only [Int.natCast_zero] at hrw
    by_cases hR : R0 = pm
    · try simp only [wpK_assoc]
      refine wpK_x0 (fun R hR' => by
        simp [h0, aEnter, fun69, short_other, aCallV]; rw [callS_none]
        refine hrw.mono ?_
        rintro _ W4 ⟨e4, rfl, hlt⟩
        simp [h0, len_slice und59, w1, aEnter, fun82, short_other, aCallV]; rw [callS_none]
        refine (hbw W4).mono ?_
        rintro _ W9 ⟨e9, rfl⟩; subst W9
        simp [hR]; exact hR' W4 (And.intro e4 hlt)) ?_
      rintro W4 ⟨e4, hlt⟩
      exact wpK_ret ⟨.inr rfl, rfl, [.bool true], by simp, e3.trans e4, .inl ⟨⟨by omega, by omega, hL, hsp.1 ((hfi hlt).1 hR)⟩, rfl⟩⟩
    · have hR2 : ¬ (R0 : Int) = pm := by omega
      try simp only [wpK_assoc]
      refine wpK_x0 (fun R hR' => by
        simp [h0, aEnter, fun69, short_other, aCallV]; rw [callS_none]
        refine hrw.mono ?_
        rintro _ W4 ⟨e4, rfl, hlt⟩
        simp [h0, len_slice und59, w1, aEnter, fun82, short_other, aCallV]; rw [callS_none]
        refine (hbw W4).mono ?_
        rintro _ W9 ⟨e9, rfl⟩; subst W9
        simp [hR, hR2]; exact hR' W4 (And.intro e4 hlt)) ?_
      rintro W4 ⟨e4, hlt⟩
      exact wpK_ret ⟨.inr rfl, rfl, [.bool false], by simp, e3.trans e4, .inr ⟨fun hj => hR ((hfi hlt).2 (hsp.2 hj.2.2.2)), rfl⟩⟩

end Go.Proofs.YtkipaffjmcmclaaDoor

open Go Go.Eng
namespace Go.Proofs.YtkipaffjmcmclaaDoor
attribute [local congr] undef_congr WpK.congr WpS.congr WpL.congr WpC.congr WpF.congr gotS.congr callS.congr nextS.congr wantS.congr condS.congr
attribute [local irreducible] WpK
attribute [local simp] WpDr_nil WpDr_cons atS_some dwantS_true dwantS_false kindS_light kindS_float kindS_heavy lightS_value floatS_some heavyS_value heavyS_skip heavyS_enter dcallS_some doneS_eq
  isLight isFloat isPlain dLook testBit_dec dChain dLights_nil dLights_skip dLights_one dLight_nil dLight_cons dFreshes_nil dFreshes_one oneF_none oneF_some dFresh_nil dFresh_cons oneL_some oneW_true oneW_false sameV_value dPut dMay valEq arrEq listEq List.getElem?_cons Tr.get_nil dEnd
attribute [local simp] WpS_nil WpS_cons isDefer undef_false wantS_true wantS_false nextS_value nextS_skip nextS_enter callS_some gotS_some aWanted aOp aEvalF aEval opMove opAssign opPick aVal flat flat1 AAct.put opBinOp opConvert opIndex Tr.get_set Tr.get_lay aBin aResults tupled
  aCall aVals aCallB blt_dec ble_dec beq_dec aBinI_add aBinI_sub aBinI_lss aBinI_leq aBinI_gtr aBinI_geq aBinI_eql aBinI_neq index_str len_str len_slice Nat.beq_refl und2 und3 und4 und5 und39 und76 und82 und116 und22 und29 und25 und33 und46 und43 und49 und111 und113 field152 field156_0 field156_1 field156_2 field156_3 field156_4
  field78 field106 field24 field31 field27 field35 field108 field109 opBox opLoad opFieldAddr opIndexAddr acells aAddr opExtract aExtract opUnOp opAlloc opStore opMakeInterface opNilCheck opBuild aParts opBuildSlice aValW
set_option maxHeartbeats 4000000
set_option linter.unusedSimpArgs false
set_option linter.unusedVariables false
/-! ### Between, IsTree -/
def maxI : Int := 9223372036854775807
/-- x is the least weight of a branch without which f and q are apart -/
def MinW (l : List Bra) (f q : Nat) (x : Int) : Prop := (∀ (j : Nat) a, l[j]? = some a → ¬ Way l j f q → x ≤ a.2.2) ∧ ∃ (j : Nat) (a : Bra), l[j]? = some a ∧ ¬ Way l j f q ∧ x = a.2.2
theorem MinW.one {l : List Bra} {f q : Nat} {x y : Int} (h : MinW l f q x) (h' : MinW l f q y) : x = y := by
  obtain ⟨j, a, h1, h2, h3⟩ := h.2
  obtain ⟨k, b, g1, g2, g3⟩ := h'.2
  have := h.1 k b g1 g2
  have := h'.1 j a h1 h2
  omega
theorem between_wp {W : AW} {v : Value} {l : List Bra} (h : TriIn W v l) (hl : l.length ≤ 1000) (hw : ∀ a ∈ l, a.2.2 ≤ maxI) (f q : Int) :
    WpF T0 47 [v, .int .i64 f, .int .i64 q] W (fun u W' => Ext W W' ∧ ((¬ joinsB l ∧ u = .tuple ⟨[.int .i64 0, .int .i64 30]⟩) ∨ (joinsB l ∧ two? f q ((l.length + 1 : Nat) : Int) = false ∧ u = .tuple ⟨[.int .i64 0, .int .i64 1]⟩) ∨
      (joinsB l ∧ two? f q ((l.length + 1 : Nat) : Int) = true ∧ ∃ x, MinW l f.toNat q.toNat x ∧ u = .tuple ⟨[.int .i64 x, .int .i64 0]⟩))) := by
  have h' := h
  obtain ⟨Av, cv, rfl, hA⟩ := h
  refine wpF fun47 rfl ?_
  try simp only [wpK_assoc]
  refine wpK_reg (fun R hR => by simp []; exact hR) ?_
  by_cases hj : joinsB l
  case neg =>
    have hjw : WpF T0 68 [.slice Av l.length cv] W (fun u W' => Ext W W' ∧ u = .bool false) := by
      refine (joins_wp h' hl).mono ?_
      rintro u W' ⟨e, ⟨g, _⟩ | ⟨_, rfl⟩⟩
      · exact absurd g hj
      · exact ⟨e, rfl⟩
    try simp only [wpK_assoc]
    refine wpK_x0 (fun R hR => by
        simp [aEnter, fun68, short_other, aCallV]; rw [callS_none]
        refine (hjw).mono ?_
        rintro _ W1 ⟨e1, rfl⟩
        simp []; exact hR W1 e1) ?_
    rintro W1 e1
    try simp only [wpK_assoc]
    first | refine wpK_onT (by simp []) ?_ | refine wpK_outT (by simp []) ?_ | refine wpK_condT (by simp []) ?_ | refine wpK_endT (by simp []) ?_
    try simp only [wpK_assoc]
    refine wpK_reg (fun R hR => by simp []; exact hR) ?_
    exact wpK_ret ⟨.inr rfl, rfl, [.int .i64 0, .int .i64 30], by simp, e1, .inl ⟨hj, rfl⟩⟩
  have hjw : WpF T0 68 [.slice Av l.length cv] W (fun u W' => Ext W W' ∧ u = .bool true) := by
    refine (joins_wp h' hl).mono ?_
    rintro u W' ⟨e, ⟨_, rfl⟩ | ⟨g, _⟩⟩
    · exact ⟨e, rfl⟩
    · exact absurd hj g
  obtain ⟨hj1, hj2, hL, hsp⟩ := hj
  have w1 : IntKind.i64.wrap ((l.length : Int) + 1) = (l.length : Int) + 1 := IntWalk.i64_in _ (by omega)
  have e1' : ((l.length + 1 : Nat) : Int) = (l.length : Int) + 1 := by omega
  try simp only [wpK_assoc]
  refine wpK_x0 (fun R hR => by
      simp [aEnter, fun68, short_other, aCallV]; rw [callS_none]
      refine (hjw).mono ?_
      rintro _ W1 ⟨e1, rfl⟩
      simp []; exact hR W1 e1) ?_
  rintro W1 e1
  try simp only [wpK_assoc]
  first | refine wpK_onF (by simp []) ?_ | refine wpK_out (by simp []) ?_ | refine wpK_condF (by simp []) ?_ | refine wpK_endF (by simp []) (wpK_skip ?_) | refine wpK_endF (by simp []) ?_
  have hat := areTwo_wp f q ((l.length : Int) + 1) W1
  cases h2 : two? f q ((l.length : Int) + 1) with
  | false =>
    rw [h2] at hat
    try simp only [wpK_assoc]
    refine wpK_reg (fun R hR => by
        simp [len_slice und59, w1, aEnter, fun74, short_other, aCallV]; rw [callS_none]
        refine (hat).mono ?_
        rintro _ W9 ⟨e9, rfl⟩; subst W9
        simp [len_slice und59, w1]; exact hR) ?_
    try simp only [wpK_assoc]
    first | refine wpK_onT (by simp []) ?_ | refine wpK_outT (by simp []) ?_ | refine wpK_condT (by simp []) ?_ | refine wpK_endT (by simp []) ?_
    try simp only [wpK_assoc]
    refine wpK_reg (fun R hR => by simp []; exact hR) ?_
    exact wpK_ret ⟨.inr rfl, rfl, [.int .i64 0, .int .i64 1], by simp, e1, .inr (.inl ⟨⟨hj1, hj2, hL, hsp⟩, by rw [e1']; exact h2, rfl⟩)⟩
  | true =>
    rw [h2] at hat
    try simp only [wpK_assoc]
    refine wpK_reg (fun R hR => by
        simp [len_slice und59, w1, aEnter, fun74, short_other, aCallV]; rw [callS_none]
        refine (hat).mono ?_
        rintro _ W9 ⟨e9, rfl⟩; subst W9
        simp [len_slice und59, w1]; exact hR) ?_
    try simp only [wpK_assoc]
    first | refine wpK_onF (by simp []) ?_ | refine wpK_out (by simp []) ?_ | refine wpK_condF (by simp []) ?_ | refine wpK_endF (by simp []) (wpK_skip ?_) | refine wpK_endF (by simp []) ?_
    have h2' := h2
    simp only [two?, Bool.and_eq_true, decide_eq_true_eq] at h2'
    obtain ⟨fn, rfl⟩ : ∃ n : Nat, f = n := ⟨f.toNat, by omega⟩
    obtain ⟨qn, rfl⟩ : ∃ n : Nat, q = n := ⟨q.toNat, by omega⟩
    try simp only [wpK_assoc]
    refine wpK_reg (fun R hR => by simp []; exact hR) ?_
    try simp only [wpK_assoc]
    refine wpK_reg (fun R hR => by simp [len_slice und59]; exact hR) ?_
    try simp only [wpK_assoc]
    refine wpK_while (I := fun k A W' => A.n = 41 ∧ A.defers = [] ∧ A.tmps.get 0 = some (.slice Av l.length cv) ∧ A.tmps.get 1 = some (.int .i64 fn) ∧ A.tmps.get 2 = some (.int .i64 qn) ∧ A.tmps.get 21 = some (.slice Av l.length cv) ∧ A.tmps.get 22 = some (.int .i64 l.length) ∧ Ext W W' ∧ ∃ (i : Nat) (x : Int), k = l.length - i ∧ i ≤ l.length ∧ A.tmps.get 23 = some (.int .i64 i) ∧ A.tmps.get 8 = some (.int .i64 x) ∧ x ≤ maxI ∧ (∀ (j : Nat) a, j < i → l[j]? = some a → ¬ Way l j fn qn → x ≤ a.2.2) ∧ (x = maxI ∨ ∃ (j : Nat) (a : Bra), j < i ∧ l[j]? = some a ∧ ¬ Way l j fn qn ∧ x = a.2.2))
      (J := fun A W' => A.n = 41 ∧ A.defers = [] ∧ Ext W W' ∧ ∃ x : Int, A.tmps.get 8 = some (.int .i64 x) ∧ MinW l fn qn x)
      (Rt := fun _ _ => False) (k := l.length) ?_ ?_ ?_ ?_
    · exact ⟨rfl, rfl, by simp, by simp, by simp, by simp, by simp, e1, 0, maxI, by simp, by omega, by simp, by simp [maxI], Int.le_refl _, fun j a hj => by omega, .inl rfl⟩
    · rintro k ⟨tm, n, ds⟩ W3 ⟨hn, hd, h0, h1, h2, h21, h22, e3, i, x, hk, hi, h23, h8, hxM, hlow, hatt⟩ Q' hJ hRt hI
      simp only at hn hd h0 h1 h2 h21 h22
      subst hn; subst hd
      simp only at h23 h8
      try simp only [wpK_assoc]
      refine wpK_reg (fun R hR => by simp [h22, h23]; exact hR) ?_
      by_cases hlt : i < l.length
      case neg =>
        have e : i = l.length := by omega
        try simp only [wpK_assoc]
        first | refine wpK_onF (by simp [hlt]) ?_ | refine wpK_out (by simp [hlt]) ?_ | refine wpK_condF (by simp [hlt]) ?_ | refine wpK_endF (by simp [hlt]) (wpK_skip ?_) | refine wpK_endF (by simp [hlt]) ?_
        refine hJ _ _ ⟨rfl, rfl, e3, x, by simp [h8], fun j a hj hn => hlow j a (by have := (List.getElem?_eq_some_iff.1 hj).1; omega) hj hn, ?_⟩
        obtain ⟨j, a, g1, g2⟩ := spans_sep hL hsp (f := fn) (q := qn) (by omega) (by omega) (by omega)
        rcases hatt with rfl | ⟨j', a', _, g3, g4, g5⟩
        · have := hlow j a (by have := (List.getElem?_eq_some_iff.1 g1).1; omega) g1 g2
          have := hw a (List.mem_of_getElem? g1)
          exact ⟨j, a, g1, g2, by omega⟩
        · exact ⟨j', a', g3, g4, g5⟩
      try simp only [wpK_assoc]
      first | refine wpK_onT (by simp [hlt]) ?_ | refine wpK_outT (by simp [hlt]) ?_ | refine wpK_condT (by simp [hlt]) ?_ | refine wpK_endT (by simp [hlt]) ?_
      have ha : l[i]? = some l[i] := List.getElem?_eq_getElem hlt
      have hmem : l[i] ∈ l := List.getElem_mem hlt
      generalize l[i] = a at ha hmem
      obtain ⟨b, o, hAv, q1, q2, q3⟩ := hA i _ ha
      have eV := indexAddr_tri (T := T0) und59 sz66 (b := b) (o := o) (c := cv) (k := .i64) hlt
      rw [← hAv] at eV
      have hl3 := load3 (T := T0) und66 agg66 inf66 is66 (q1.ext e3) (q2.ext e3) (q3.ext e3)
      obtain ⟨W5, s1, s2, hE5, hV5⟩ := storeVar_new (T := T0) (W := W3) (t := 66) (v := .agg ⟨[.int .i64 a.1, .int .i64 a.2.1, .int .i64 a.2.2]⟩) (z := [.int .i64 0, .int .i64 0, .int .i64 0]) inf66 (by rw [is66]; rfl) (by rw [is66]; rfl) rfl
      have e5 := e3.trans hE5
      have hk1 : k - 1 < k ∧ k - 1 = l.length - (i + 1) ∧ i + 1 ≤ l.length := by clear hatt hlow; omega
      have hsi : IntKind.i64.wrap ((i : Int) + 1) = ((i + 1 : Nat) : Int) := i64_succ i (by omega)
      have hrw := reach_wp (n := l.length + 1) (f := fn) (h'.ext e5) (by omega) hL (by omega) (by omega) (i : Int)
      have hwy := reach_way (wo := (i : Int)) hL (f := fn) (by omega) (Nat.le_refl _) qn
      generalize roundsB l (i : Int) l.length (1 <<< fn) = R0 at hrw hwy
      obtain ⟨rb, hrb⟩ : ∃ c : Bool, c = R0.testBit qn := ⟨_, rfl⟩
      rw [← hrb] at hwy
      refine wpK_block ?_
      try simp only [wpK_assoc]
      refine wpK_reg (fun R hR => by simp [h21, h23, eV, hl3, zero66, s1]; exact hR) ?_
      try simp only [wpK_assoc]
      refine wpK_x0 (fun R hR' => by
        simp [h0, h1, aEnter, fun69, short_other, aCallV]; rw [callS_none]
        refine hrw.mono ?_
        rintro _ W6 ⟨e6, rfl, hlt6⟩
        simp [h2, aEnter, fun62, short_other, aCallV]; rw [callS_none]
        refine (has_wp R0 qn (by have : 2 ^ (l.length + 1) ≤ 2 ^ 31 := Nat.pow_le_pow_right (by omega) (by omega)
                                 omega) (by omega) W6).mono ?_
        rintro _ W9 ⟨e9, rfl⟩; subst W9
        rw [← hrb]
        simp; exact hR' W6 e6) ?_
      rintro W6 e56
      have e6 := e5.trans e56
      have lw : aLoadVar T0 W6 2 W3.next 2 = some (.int .i64 a.2.2) := (hV5.ext e56).load1 (T := T0) und2 rfl (j := 2) (v := .int .i64 a.2.2) rfl
      clear hrb
      cases rb with
      | true =>
        have hway := hwy.1 rfl
        try simp only [wpK_assoc]
        first | refine wpK_onF (by simp []) ?_ | refine wpK_out (by simp []) ?_ | refine wpK_condF (by simp []) ?_ | refine wpK_endF (by simp []) (wpK_skip ?_) | refine wpK_endF (by simp []) ?_
        try simp only [wpK_assoc]
        refine wpK_reg1 (fun R hR => by simp [h23, hsi]; exact hR) ?_
        refine hI (k - 1) _ _ hk1.1 ⟨rfl, rfl, by simp [h0, h1, h2, h21, h22], by simp [h0, h1, h2, h21, h22], by simp [h0, h1, h2, h21, h22], by simp [h0, h1, h2, h21, h22], by simp [h0, h1, h2, h21, h22], e6, i + 1, x, hk1.2.1, hk1.2.2, by simp, by simp [h8], hxM, fun j b hj hb hn => ?_, ?_⟩
        · by_cases e : j = i
          · subst e; exact absurd hway hn
          · exact hlow j b (by omega) hb hn
        · rcases hatt with g | ⟨j, b, g1, g2⟩
          · exact .inl g
          · exact .inr ⟨j, b, by omega, g2⟩
      | false =>
        have hway : ¬ Way l i fn qn := fun g => by have := hwy.2 g; cases this
        try simp only [wpK_assoc]
        first | refine wpK_onT (by simp []) ?_ | refine wpK_outT (by simp []) ?_ | refine wpK_condT (by simp []) ?_ | refine wpK_endT (by simp []) ?_
        try simp only [wpK_assoc]
        refine wpK_reg1 (fun R hR => by simp [h8, lw, min_int, field66]; exact hR) ?_
        try simp only [wpK_assoc]
        refine wpK_reg1 (fun R hR => by simp [h23, hsi]; exact hR) ?_
        refine hI (k - 1) _ _ hk1.1 ⟨rfl, rfl, by simp [h0, h1, h2, h21, h22], by simp [h0, h1, h2, h21, h22], by simp [h0, h1, h2, h21, h22], by simp [h0, h1, h2, h21, h22], by simp [h0, h1, h2, h21, h22], e6, i + 1, min x a.2.2, hk1.2.1, hk1.2.2, by simp, by simp, (by clear hatt hlow; omega), fun j b hj hb hn => ?_, ?_⟩
        · by_cases e : j = i
          · subst e; rw [ha] at hb; cases hb; omega
          · have := hlow j b (by omega) hb hn; omega
        · by_cases c : x ≤ a.2.2
          · rw [Int.min_eq_left c]
            rcases hatt with g | ⟨j, b, g1, g2⟩
            · exact .inl g
            · exact .inr ⟨j, b, by omega, g2⟩
          · rw [Int.min_eq_right (by omega)]
            exact .inr ⟨i, a, by omega, ha, hway, rfl⟩
    · rintro A' W' hf; exact hf.elim
    · rintro ⟨tm, n, ds⟩ W3 ⟨hn, hd, e3, x, h8, hx⟩
      simp only at hn hd h8
      subst hn; subst hd
      try simp only [wpK_assoc]
      refine wpK_reg (fun R hR => by simp [h8]; exact hR) ?_
      exact wpK_ret ⟨.inr rfl, rfl, [.int .i64 x, .int .i64 0], by simp, e3, .inr (.inr ⟨⟨hj1, hj2, hL, hsp⟩, by rw [e1']; exact h2, x, hx, rfl⟩)⟩
/-- the least capacity of a cut -/
def MinCut (q : List Quad) (s t : Nat) (x : Int) : Prop := (∃ S, isCut s t S ∧ capQ S q = x) ∧ ∀ T, isCut s t T → x ≤ capQ T q
theorem MinCut.one {q : List Quad} {s t : Nat} {x y : Int} (h : MinCut q s t x) (h' : MinCut q s t y) : x = y := by
  obtain ⟨⟨S, h1, h2⟩, h3⟩ := h
  obtain ⟨⟨S', g1, g2⟩, g3⟩ := h'
  have := h3 S' g1
  have := g3 S h1
  omega
theorem Filled.minCut {P : Int} {l : List Quad} {s t : Nat} {x : Int} {rm : Nat → Int} {lv : Nat → Nat} (F : Filled (layL (1 <<< s) s l) s t (hCap (layL (1 <<< s) s l)) x rm lv) (hin : PlanIn P l) (hs : s < 24) (ht : t < 24) : MinCut l s t x := by
  obtain ⟨d1, d2, d3, d4⟩ := filled_capQ hin hs ht F
  exact ⟨⟨_, ⟨d3, d4⟩, d2.symm⟩, fun T hT => (d1 T hT.1 hT.2).1⟩
/-- the branches are a tree for a board -/
def TreeB (P : Nat) (q : List Quad) (l : List Bra) : Prop := l.length + 1 = P ∧ joinsB l ∧ ∀ (i : Nat) a, l[i]? = some a → ∃ x, MinCut q a.1.toNat a.2.1.toNat x ∧ a.2.2 = x ∧ capQ (roundsB l i l.length (1 <<< a.1.toNat)) q = x

end Go.Proofs.YtkipaffjmcmclaaDoor

open Go Go.Eng
namespace Go.Proofs.YtkipaffjmcmclaaDoor
open Go.ChangeShapes Go.WideShapes Go.ChangeAt Go.RowKit
section
variable {H : Type} {enc : TypeId × Value → H} {P : Program} {w : World}
/-- a slice of structs of three numbers, with the third one's bound -/
theorem tris_in3 {t e : TypeId} {f0 f1 f2 : Field} {fuel : Nat} {held : Bool} {v : Value} {x : DataW H × List MemPlace} (ht : P.underlying t = some (.slice e)) (he : P.underlying e = some (.struct #[f0, f1, f2])) (hc : P.cellsOf e = 3)
    (o0 : f0.offset = 0) (o1 : f1.offset = 1) (o2 : f2.offset = 2) (c0 : P.cellsOf f0.type = 1) (c1 : P.cellsOf f1.type = 1) (c2 : P.cellsOf f2.type = 1) (u0 : P.underlying f0.type = some (.int .i64)) (u1 : P.underlying f1.type = some (.int .i64)) (u2 : P.underlying f2.type = some (.int .i64))
    (h : DataW.trod enc P w 0 (fun _ => true) held fuel t [v] = some x) : ∃ u l, absV w v = some u ∧ TriIn (embW w) u l ∧ l.length < 9223372036854775808 ∧ SlOk u l.length ∧ ∀ a ∈ l, a.2.2 ≤ 9223372036854775807 := by
  rcases Deep.open_slice ht h with ⟨h1, _⟩ | ⟨a, len, cap, m, n, D, Pl, h1, _, h2, h3, hm, _, h4⟩
  · cases h1
    exact ⟨.slice none 0 0, [], rfl, ⟨none, 0, rfl, fun i a hi => by simp at hi⟩, by simp, .inl ⟨rfl, rfl⟩, fun a ha => by simp at ha⟩
  · cases h1
    simp only [if_true] at hm
    subst hm
    have each : ∀ i, i < m → ∃ z : Tri, w.cell? (a.add (i * 3)) = some (.int .i64 z.1) ∧ w.cell? (a.add (i * 3 + 1)) = some (.int .i64 z.2.1) ∧ w.cell? (a.add (i * 3 + 2)) = some (.int .i64 z.2.2) ∧ z.2.2 ≤ 9223372036854775807 := by
      intro i hi
      obtain ⟨cs', g1, g2⟩ := h4 i hi
      rw [hc] at g1
      obtain ⟨_, hlen, hcell⟩ := World.cells?_some g1
      obtain ⟨y0, y1, y2, k, _, _, q0, q1, q2⟩ := Deep.trod_struct3 he g2
      match cs', hlen with
      | [x0, x1, x2], _ =>
        simp [o0, o1, o2, c0, c1, c2] at q0 q1 q2
        obtain ⟨z0, e0, _⟩ := DataW.trod_int u0 q0
        obtain ⟨z1, e1, _⟩ := DataW.trod_int u1 q1
        obtain ⟨z2, e2, hz2⟩ := DataW.trod_int u2 q2
        cases e0; cases e1; cases e2
        have k0 := hcell 0 (by omega)
        have k1 := hcell 1 (by omega)
        have k2 := hcell 2 (by omega)
        rw [Go.Deep.add_add] at k0 k1 k2
        exact ⟨(z0, z1, z2), by simpa using k0, by simpa using k1, by simpa using k2, by have h := hz2.2; simp [Lit.wf] at h; exact h.2⟩
    obtain ⟨Z, hZ⟩ := Deep.choose_lt each
    obtain ⟨a', c', g4, g5, g6⟩ := absV_row2 (w := w) (a := a) (n := len) (c := m) (fun hc => ⟨_, by simpa [Addr.add] using (hZ 0 hc).1⟩) h2
    refine ⟨_, (List.range len).map Z, g4, ⟨a', c', by simp, fun i z hi => ?_⟩, by simp; unfold maxLen at h3; omega, by simpa using g6, fun q hq => by
      obtain ⟨i, hi, rfl⟩ := List.mem_map.1 hq
      exact (hZ i (by have := List.mem_range.1 hi; omega)).2.2.2⟩
    have hi' : i < len := by
      have := (List.getElem?_eq_some_iff.1 hi).1
      simpa using this
    simp only [List.getElem?_map, List.getElem?_range hi', Option.map_some, Option.some.injEq] at hi
    subst hi
    obtain ⟨k0, k1, k2, _⟩ := hZ i (by omega)
    have e0 := emb_has k0 (u := .int .i64 (Z i).1) rfl
    have e1 := emb_has k1 (u := .int .i64 (Z i).2.1) rfl
    have e2 := emb_has k2 (u := .int .i64 (Z i).2.2) rfl
    rw [add_block, add_off] at e0 e1 e2
    refine ⟨a.block, a.off, g5 (by omega), ?_, ?_, ?_⟩
    · rw [Nat.mul_comm]; exact e0
    · rw [Nat.mul_comm, Nat.add_assoc]; exact e1
    · rw [Nat.mul_comm, Nat.add_assoc]; exact e2
end
end Go.Proofs.YtkipaffjmcmclaaDoor

open Go Go.Eng
namespace Go.Proofs.YtkipaffjmcmclaaDoor
attribute [local congr] undef_congr WpK.congr WpS.congr WpL.congr WpC.congr WpF.congr gotS.congr callS.congr nextS.congr wantS.congr condS.congr
attribute [local irreducible] WpK
attribute [local simp] WpDr_nil WpDr_cons atS_some dwantS_true dwantS_false kindS_light kindS_float kindS_heavy lightS_value floatS_some heavyS_value heavyS_skip heavyS_enter dcallS_some doneS_eq
  isLight isFloat isPlain dLook testBit_dec dChain dLights_nil dLights_skip dLights_one dLight_nil dLight_cons dFreshes_nil dFreshes_one oneF_none oneF_some dFresh_nil dFresh_cons oneL_some oneW_true oneW_false sameV_value dPut dMay valEq arrEq listEq List.getElem?_cons Tr.get_nil dEnd
attribute [local simp] WpS_nil WpS_cons isDefer undef_false wantS_true wantS_false nextS_value nextS_skip nextS_enter callS_some gotS_some aWanted aOp aEvalF aEval opMove opAssign opPick aVal flat flat1 AAct.put opBinOp opConvert opIndex Tr.get_set Tr.get_lay aBin aResults tupled
  aCall aVals aCallB blt_dec ble_dec beq_dec aBinI_add aBinI_sub aBinI_lss aBinI_leq aBinI_gtr aBinI_geq aBinI_eql aBinI_neq index_str len_str len_slice Nat.beq_refl und2 und3 und4 und5 und39 und76 und82 und116 und22 und29 und25 und33 und46 und43 und49 und111 und113 field152 field156_0 field156_1 field156_2 field156_3 field156_4
  field78 field106 field24 field31 field27 field35 field108 field109 opBox opLoad opFieldAddr opIndexAddr acells aAddr opExtract aExtract opUnOp opAlloc opStore opMakeInterface opNilCheck opBuild aParts opBuildSlice aValW
set_option maxHeartbeats 4000000
set_option linter.unusedSimpArgs false
set_option linter.unusedVariables false
/-! ### IsTree -/
theorem isTree_wp {W : AW} {v bv : Value} {P : Nat} {lk : List Tri} {l : List Bra} (h : TriIn W v lk) (hok : planOk P (arcsQ lk) = true) (hb : TriIn W bv l) (hl : l.length ≤ 1000) (hT : tabsIn T0 T0.tabs W = true) (h0 : 0 < W.next) :
    WpF T0 29 [.agg ⟨[.int .i64 P, v]⟩, bv] W (fun u W' => Ext W W' ∧ ((TreeB P (linksQ lk) l ∧ u = .bool true) ∨ (¬ TreeB P (linksQ lk) l ∧ u = .bool false))) := by
  have hb' := hb
  obtain ⟨Ab, cb, rfl, hA⟩ := hb
  have hPin := links_in hok
  obtain ⟨hP2, hP24, _⟩ := hPin.size
  refine wpF fun29 rfl ?_
  obtain ⟨W0, hW0, hE0, hV0⟩ : ∃ W0, W0 = W.newCells 35 [.int .i64 P, v] ∧ Ext W W0 ∧ Var W0 W.next 35 [.int .i64 P, v] := ⟨_, rfl, .newCells _ _ _, Var.new _ _ _⟩
  have hN := boardPlan (P := (P : Int)) (h.ext hE0)
  have hc := check_wp hN
  rw [chk, planOk_links, hok] at hc
  have l35 : ∀ W', Ext W0 W' → aLoadVar T0 W' 35 W.next 0 = some (.agg ⟨[.int .i64 P, v]⟩) := fun W' h => load35 (hV0.ext h)
  have lP : ∀ W', Ext W0 W' → aLoadVar T0 W' 3 W.next 0 = some (.int .i64 P) := fun W' h => (hV0.ext h).load1 (T := T0) und3 rfl (j := 0) (v := .int .i64 P) rfl
  have e00 : Ext W0 W0 := .refl _ _
  have hT0 := tabs_ext hT h0 hE0
  have h00 : 0 < W0.next := Nat.lt_of_lt_of_le h0 hE0.1
  have wP : IntKind.i64.wrap ((P : Int) - 1) = (P : Int) - 1 := IntWalk.i64_in _ (by omega)
  try simp only [wpK_assoc]
  refine wpK_reg (fun R hR => by simp [← hW0]; exact hR) ?_
  by_cases c1 : (l.length : Int) = (P : Int) - 1
  case neg =>
    try simp only [wpK_assoc]
    refine wpK_x0 (fun R hR => by
        simp [l35, e00, opMI35, -opMakeInterface, aEnter, fun51, short_other, aCallV]; rw [callS_none]
        refine (hc).mono ?_
        rintro _ W1 ⟨e1, rfl⟩
        simp [lP, e1, len_slice und59, wP, c1]; exact hR W1 e1) ?_
    rintro W1 e1
    try simp only [wpK_assoc]
    first | refine wpK_onT (by simp []) ?_ | refine wpK_outT (by simp []) ?_ | refine wpK_condT (by simp []) ?_ | refine wpK_endT (by simp []) ?_
    try simp only [wpK_assoc]
    refine wpK_reg (fun R hR => by simp []; exact hR) ?_
    exact wpK_ret ⟨.inr rfl, rfl, [.bool false], by simp, hE0.trans e1, .inr ⟨fun ht => by have := ht.1; omega, rfl⟩⟩
  by_cases hj : joinsB l
  case neg =>
    try simp only [wpK_assoc]
    refine wpK_x0 (fun R hR => by
      simp [l35, e00, opMI35, -opMakeInterface, aEnter, fun51, short_other, aCallV]; rw [callS_none]
      refine hc.mono ?_
      rintro _ W1 ⟨e1, rfl⟩
      simp [lP, e1, len_slice und59, wP, c1, aEnter, fun68, short_other, aCallV]; rw [callS_none]
      refine (joins_wp (hb'.ext (hE0.trans e1)) hl).mono ?_
      rintro u W2 ⟨e2, ⟨g, _⟩ | ⟨_, rfl⟩⟩
      · exact absurd g hj
      · simp; exact hR W2 (e1.trans e2)) ?_
    rintro W2 e2
    try simp only [wpK_assoc]
    first | refine wpK_onT (by simp []) ?_ | refine wpK_outT (by simp []) ?_ | refine wpK_condT (by simp []) ?_ | refine wpK_endT (by simp []) ?_
    try simp only [wpK_assoc]
    refine wpK_reg (fun R hR => by simp []; exact hR) ?_
    exact wpK_ret ⟨.inr rfl, rfl, [.bool false], by simp, hE0.trans e2, .inr ⟨fun ht => hj ht.2.1, rfl⟩⟩
  try simp only [wpK_assoc]
  refine wpK_x0 (fun R hR => by
    simp [l35, e00, opMI35, -opMakeInterface, aEnter, fun51, short_other, aCallV]; rw [callS_none]
    refine hc.mono ?_
    rintro _ W1 ⟨e1, rfl⟩
    simp [lP, e1, len_slice und59, wP, c1, aEnter, fun68, short_other, aCallV]; rw [callS_none]
    refine (joins_wp (hb'.ext (hE0.trans e1)) hl).mono ?_
    rintro u W2 ⟨e2, ⟨_, rfl⟩ | ⟨g, _⟩⟩
    · simp; exact hR W2 (e1.trans e2)
    · exact absurd hj g) ?_
  rintro W2 e2
  try simp only [wpK_assoc]
  first | refine wpK_onF (by simp []) ?_ | refine wpK_out (by simp []) ?_ | refine wpK_condF (by simp []) ?_ | refine wpK_endF (by simp []) (wpK_skip ?_) | refine wpK_endF (by simp []) ?_
  try simp only [wpK_assoc]
  refine wpK_reg (fun R hR => by simp [len_slice und59]; exact hR) ?_
  have hj' := hj
  obtain ⟨hj1, hj2, hL, hsp⟩ := hj
  have hlP : l.length + 1 = P := by omega
  try simp only [wpK_assoc]
  refine wpK_while (I := fun k A W' => A.n = 59 ∧ A.defers = [] ∧ A.tmps.get 1 = some (.slice Ab l.length cb) ∧ A.tmps.get 2 = some (.pointer (some ⟨W.next, 0, none⟩)) ∧ A.tmps.get 26 = some (.slice Ab l.length cb) ∧ A.tmps.get 27 = some (.int .i64 l.length) ∧ Ext W0 W' ∧ ∃ i : Nat, k = l.length - i ∧ i ≤ l.length ∧ A.tmps.get 28 = some (.int .i64 i) ∧ ∀ (j : Nat) a, j < i → l[j]? = some a → ∃ x, MinCut (linksQ lk) a.1.toNat a.2.1.toNat x ∧ a.2.2 = x ∧ capQ (roundsB l j l.length (1 <<< a.1.toNat)) (linksQ lk) = x)
    (J := fun A W' => A.n = 59 ∧ A.defers = [] ∧ Ext W0 W' ∧ TreeB P (linksQ lk) l)
    (Rt := fun A W' => A.defers = [] ∧ A.tmps.get 4 = some (.bool false) ∧ Ext W0 W' ∧ ¬ TreeB P (linksQ lk) l) (k := l.length) ?_ ?_ ?_ ?_
  · exact ⟨rfl, rfl, by simp, by simp, by simp, by simp, e2, 0, by simp, by omega, by simp, fun j a hj => by omega⟩
  · rintro k ⟨tm, n, ds⟩ W3 ⟨hn, hd, h1, h2, h26, h27, e3, i, hk, hi, h28, hgood⟩ Q' hJ hRt hI
    simp only at hn hd h1 h2 h26 h27
    subst hn; subst hd
    simp only at h28
    try simp only [wpK_assoc]
    refine wpK_reg (fun R hR => by simp [h27, h28]; exact hR) ?_
    by_cases hlt : i < l.length
    case neg =>
      try simp only [wpK_assoc]
      first | refine wpK_onF (by simp [hlt]) ?_ | refine wpK_out (by simp [hlt]) ?_ | refine wpK_condF (by simp [hlt]) ?_ | refine wpK_endF (by simp [hlt]) (wpK_skip ?_) | refine wpK_endF (by simp [hlt]) ?_
      exact hJ _ _ ⟨rfl, rfl, e3, hlP, hj', fun j a hj => hgood j a (by have := (List.getElem?_eq_some_iff.1 hj).1; omega) hj⟩
    try simp only [wpK_assoc]
    first | refine wpK_onT (by simp [hlt]) ?_ | refine wpK_outT (by simp [hlt]) ?_ | refine wpK_condT (by simp [hlt]) ?_ | refine wpK_endT (by simp [hlt]) ?_
    have ha : l[i]? = some l[i] := List.getElem?_eq_getElem hlt
    have hmem : l[i] ∈ l := List.getElem_mem hlt
    generalize l[i] = a at ha hmem
    have hbr := hL a hmem
    have hne := spans_two hL hsp a hmem
    obtain ⟨a1, a2, a3⟩ := a
    simp only at hbr hne
    obtain ⟨x, rfl⟩ : ∃ x : Nat, a1 = x := ⟨a1.toNat, by omega⟩
    obtain ⟨y, rfl⟩ : ∃ y : Nat, a2 = y := ⟨a2.toNat, by omega⟩
    obtain ⟨b, o, hAv, q1, q2, q3⟩ := hA i _ ha
    have eV := indexAddr_tri (T := T0) und59 sz66 (b := b) (o := o) (c := cb) (k := .i64) hlt
    rw [← hAv] at eV
    have e03 := hE0.trans e3
    have hl3 := load3 (T := T0) und66 agg66 inf66 is66 (q1.ext e03) (q2.ext e03) (q3.ext e03)
    obtain ⟨W5, s1, s2, hE5, hV5⟩ := storeVar_new (T := T0) (W := W3) (t := 66) (v := .agg ⟨[.int .i64 x, .int .i64 y, .int .i64 a3]⟩) (z := [.int .i64 0, .int .i64 0, .int .i64 0]) inf66 (by rw [is66]; rfl) (by rw [is66]; rfl) rfl
    have e5 := e3.trans hE5
    have lx : ∀ W', Ext W5 W' → aLoadVar T0 W' 3 W3.next 0 = some (.int .i64 x) := fun W' h => (hV5.ext h).load1 (T := T0) und3 rfl (j := 0) (v := .int .i64 x) rfl
    have ly : ∀ W', Ext W5 W' → aLoadVar T0 W' 3 W3.next 1 = some (.int .i64 y) := fun W' h => (hV5.ext h).load1 (T := T0) und3 rfl (j := 1) (v := .int .i64 y) rfl
    have lw : ∀ W', Ext W5 W' → aLoadVar T0 W' 2 W3.next 2 = some (.int .i64 a3) := fun W' h => (hV5.ext h).load1 (T := T0) und2 rfl (j := 2) (v := .int .i64 a3) rfl
    have e55 : Ext W5 W5 := .refl _ _
    have hsi : IntKind.i64.wrap ((i : Int) + 1) = ((i + 1 : Nat) : Int) := i64_succ i (by omega)
    have hst : two? (x : Int) (y : Int) (P : Int) = true := by simp [two?]; omega
    refine wpK_block ?_
    try simp only [wpK_assoc]
    refine wpK_reg (fun R hR => by simp [h26, h28, eV, hl3, zero66, s1]; exact hR) ?_
    try simp only [wpK_assoc]
    refine wpK_x3 (fun R hR => by
      simp [h2, l35, e5, lx, ly, e55, field66, aEnter, fun25, short_other, aCallV]; rw [callS_none]
      refine (least_ok (P := (P : Int)) (h.ext (hE0.trans e5)) hPin hst (tabs_ext hT0 h00 e5) (Nat.lt_of_lt_of_le h00 e5.1)).mono ?_
      rintro _ W6 ⟨e6, xv, rm, lv, rfl, hF⟩
      simp; exact hR xv rm lv W6 (And.intro e6 hF)) ?_
    rintro xv rm lv W6 ⟨e56, hF⟩
    have hmc := hF.minCut hPin (by omega) (by omega)
    have e6 := e5.trans e56
    have hrw := reach_wp (n := l.length + 1) (f := x) (hb'.ext (hE0.trans e6)) (by omega) hL (by omega) (by omega) (i : Int)
    have hspec : (∃ x', MinCut (linksQ lk) x y x' ∧ a3 = x' ∧ capQ (roundsB l i l.length (1 <<< x)) (linksQ lk) = x') ↔ a3 = xv ∧ capQ (roundsB l i l.length (1 <<< x)) (linksQ lk) = xv := by
      constructor
      · rintro ⟨x', g1, g2, g3⟩
        have := g1.one hmc
        omega
      · rintro ⟨g1, g2⟩; exact ⟨xv, hmc, g1, g2⟩
    have hbad : ¬ (a3 = xv ∧ capQ (roundsB l i l.length (1 <<< x)) (linksQ lk) = xv) → ¬ TreeB P (linksQ lk) l := fun hn ht => hn (hspec.1 (by
      have := ht.2.2 i _ ha
      simpa using this))
    have hnew : (a3 = xv ∧ capQ (roundsB l i l.length (1 <<< x)) (linksQ lk) = xv) → ∃ x', MinCut (linksQ lk) ((x : Int)).toNat ((y : Int)).toNat x' ∧ a3 = x' ∧ capQ (roundsB l i l.length (1 <<< ((x : Int)).toNat)) (linksQ lk) = x' := by
      intro g; simpa using hspec.2 g
    have hk1 : k - 1 < k ∧ k - 1 = l.length - (i + 1) ∧ i + 1 ≤ l.length := by clear hgood hspec hbad hnew hmc; omega
    have p31 : 2 ^ (l.length + 1) ≤ 2 ^ 31 := Nat.pow_le_pow_right (by omega) (by omega)
    by_cases c2 : a3 = xv
    case neg =>
      try simp only [wpK_assoc]
      refine wpK_dn (wr := Tr.nil |>.set 42 0 |>.set 43 1 |>.set 44 2 |>.set 45 3 |>.set 46 4 |>.set 47 5 |>.set 48 6 |>.set 49 7 |>.set 50 8 |>.set 51 9 |>.set 52 10 |>.set 53 11 |>.set 54 12 |>.set 55 13 |>.set 56 14 |>.set 57 15) (bits := Tr.nil.lay 0 [0, 1, 0, 7, 15, 31, 63, 31, 31, 287, 31, 1951, 4095, 31, 16383, 32767]) (ord := [0, 1, 2, 3, 4, 5, 6, 7, 8, 9, 10, 11, 12, 13, 14, 15]) (by kernel_rfl) (by kernel_rfl) (by kernel_rfl) (fun G hG => by
        simp [h1, h2, lx, ly, lw, e56, c2, field66, undef]
        exact hG) ?_
      try simp only [wpK_assoc]
      first | refine wpK_onT (by simp []) ?_ | refine wpK_outT (by simp []) ?_ | refine wpK_condT (by simp []) ?_ | refine wpK_endT (by simp []) ?_
      try simp only [wpK_assoc]
      refine wpK_reg (fun R hR => by simp []; exact hR) ?_
      exact wpK_ret (hRt _ _ ⟨rfl, by simp, e6, hbad (fun g => c2 g.1)⟩)
    rw [show ((x : Int)).toNat = x from rfl] at hnew
    generalize hR0 : roundsB l i l.length (1 <<< x) = R0 at hrw hspec hbad hnew
    have vvv := tri_eq h
    have step : ∀ W7, Ext W6 W7 → WpF T0 65 [.iface 35 (.agg ⟨[.int .i64 P, v]⟩), .int .u32 (R0 : Nat)] W7 (fun u W' => Ext W7 W' ∧ (R0 < 2 ^ (l.length + 1) → u = .int .i64 (capQ R0 (linksQ lk)))) → True := fun _ _ _ => trivial
    clear step
    by_cases c3 : capQ R0 (linksQ lk) = xv
    · try simp only [wpK_assoc]
      refine wpK_d0 (wr := Tr.nil |>.set 42 0 |>.set 43 1 |>.set 44 2 |>.set 45 3 |>.set 46 4 |>.set 47 5 |>.set 48 6 |>.set 49 7 |>.set 50 8 |>.set 51 9 |>.set 52 10 |>.set 53 11 |>.set 54 12 |>.set 55 13 |>.set 56 14 |>.set 57 15) (bits := Tr.nil.lay 0 [0, 1, 0, 7, 15, 31, 63, 31, 31, 287, 31, 1951, 4095, 31, 16383, 32767]) (ord := [0, 1, 2, 3, 4, 5, 6, 7, 8, 9, 10, 11, 12, 13, 14, 15]) (by kernel_rfl) (by kernel_rfl) (by kernel_rfl) (fun G hG => by
        simp [h1, h2, l35, e6, lx, ly, lw, e56, c2, field66, opMI35, -opMakeInterface, aEnter, fun69, short_other, aCallV]
        rw [dcallS_none]
        refine hrw.mono ?_
        rintro _ W7 ⟨e7, rfl, hlt7⟩
        simp [h1, h2, l35, e6, e6.trans e7, e7.1, lx, ly, lw, e56, e56.trans e7, c2, field66, opMI35, -opMakeInterface, aEnter, fun65, short_other, aCallV]
        rw [dcallS_none]
        refine (across_wp (hN.ext (e6.trans e7)) hPin R0 (by omega)).mono ?_
        rintro _ W8 ⟨e8, rfl⟩
        simp [h1, h2, l35, e6, e6.trans e7, (e6.trans e7).trans e8, e7.1, e8.1, lx, ly, lw, e56, e56.trans e7, (e56.trans e7).trans e8, c2, c3, vvv, field66, opMI35, -opMakeInterface]
        exact hG W8 (e7.trans e8)) ?_
      rintro W8 e8
      try simp only [wpK_assoc]
      first | refine wpK_onF (by simp []) ?_ | refine wpK_out (by simp []) ?_ | refine wpK_condF (by simp []) ?_ | refine wpK_endF (by simp []) (wpK_skip ?_) | refine wpK_endF (by simp []) ?_
      try simp only [wpK_assoc]
      refine wpK_reg1 (fun R hR => by simp [h28, hsi]; exact hR) ?_
      refine hI (k - 1) _ _ hk1.1 ⟨rfl, rfl, by simp [h1, h2, h26, h27], by simp [h1, h2, h26, h27], by simp [h1, h2, h26, h27], by simp [h1, h2, h26, h27], e6.trans e8, i + 1, hk1.2.1, hk1.2.2, by simp, fun j b hj hb => ?_⟩
      by_cases e : j = i
      · subst e; rw [ha] at hb; cases hb
        have := hnew ⟨c2, c3⟩
        rw [← hR0] at this
        exact this
      · exact hgood j b (by omega) hb
    · try simp only [wpK_assoc]
      refine wpK_d0 (wr := Tr.nil |>.set 42 0 |>.set 43 1 |>.set 44 2 |>.set 45 3 |>.set 46 4 |>.set 47 5 |>.set 48 6 |>.set 49 7 |>.set 50 8 |>.set 51 9 |>.set 52 10 |>.set 53 11 |>.set 54 12 |>.set 55 13 |>.set 56 14 |>.set 57 15) (bits := Tr.nil.lay 0 [0, 1, 0, 7, 15, 31, 63, 31, 31, 287, 31, 1951, 4095, 31, 16383, 32767]) (ord := [0, 1, 2, 3, 4, 5, 6, 7, 8, 9, 10, 11, 12, 13, 14, 15]) (by kernel_rfl) (by kernel_rfl) (by kernel_rfl) (fun G hG => by
        simp [h1, h2, l35, e6, lx, ly, lw, e56, c2, field66, opMI35, -opMakeInterface, aEnter, fun69, short_other, aCallV]
        rw [dcallS_none]
        refine hrw.mono ?_
        rintro _ W7 ⟨e7, rfl, hlt7⟩
        simp [h1, h2, l35, e6, e6.trans e7, e7.1, lx, ly, lw, e56, e56.trans e7, c2, field66, opMI35, -opMakeInterface, aEnter, fun65, short_other, aCallV]
        rw [dcallS_none]
        refine (across_wp (hN.ext (e6.trans e7)) hPin R0 (by omega)).mono ?_
        rintro _ W8 ⟨e8, rfl⟩
        simp [h1, h2, l35, e6, e6.trans e7, (e6.trans e7).trans e8, e7.1, e8.1, lx, ly, lw, e56, e56.trans e7, (e56.trans e7).trans e8, c2, c3, vvv, field66, opMI35, -opMakeInterface]
        exact hG W8 (e7.trans e8)) ?_
      rintro W8 e8
      try simp only [wpK_assoc]
      first | refine wpK_onT (by simp []) ?_ | refine wpK_outT (by simp []) ?_ | refine wpK_condT (by simp []) ?_ | refine wpK_endT (by simp []) ?_
      try simp only [wpK_assoc]
      refine wpK_reg (fun R hR => by simp []; exact hR) ?_
      exact wpK_ret (hRt _ _ ⟨rfl, by simp, e6.trans e8, hbad (fun g => c3 g.2)⟩)
  · rintro A' W' ⟨g1, g2, g3, g4⟩
    exact ⟨.inr rfl, g1, [.bool false], by simp [g2], hE0.trans g3, .inr ⟨g4, rfl⟩⟩
  · rintro ⟨tm, n, ds⟩ W3 ⟨hn, hd, e3, ht⟩
    simp only at hn hd
    subst hn; subst hd
    try simp only [wpK_assoc]
    refine wpK_reg (fun R hR => by simp []; exact hR) ?_
    exact wpK_ret ⟨.inr rfl, rfl, [.bool true], by simp, hE0.trans e3, .inl ⟨ht, rfl⟩⟩

end Go.Proofs.YtkipaffjmcmclaaDoor

open Go Go.Eng
namespace Go.Proofs.YtkipaffjmcmclaaDoor
attribute [local congr] undef_congr WpK.congr WpS.congr WpL.congr WpC.congr WpF.congr gotS.congr callS.congr nextS.congr wantS.congr condS.congr
attribute [local irreducible] WpK
attribute [local simp] WpDr_nil WpDr_cons atS_some dwantS_true dwantS_false kindS_light kindS_float kindS_heavy lightS_value floatS_some heavyS_value heavyS_skip heavyS_enter dcallS_some doneS_eq
  isLight isFloat isPlain dLook testBit_dec dChain dLights_nil dLights_skip dLights_one dLight_nil dLight_cons dFreshes_nil dFreshes_one oneF_none oneF_some dFresh_nil dFresh_cons oneL_some oneW_true oneW_false sameV_value dPut dMay valEq arrEq listEq List.getElem?_cons Tr.get_nil dEnd
attribute [local simp] WpS_nil WpS_cons isDefer undef_false wantS_true wantS_false nextS_value nextS_skip nextS_enter callS_some gotS_some aWanted aOp aEvalF aEval opMove opAssign opPick aVal flat flat1 AAct.put opBinOp opConvert opIndex Tr.get_set Tr.get_lay aBin aResults tupled
  aCall aVals aCallB blt_dec ble_dec beq_dec aBinI_add aBinI_sub aBinI_lss aBinI_leq aBinI_gtr aBinI_geq aBinI_eql aBinI_neq index_str len_str len_slice Nat.beq_refl und2 und3 und4 und5 und39 und76 und82 und116 und22 und29 und25 und33 und46 und43 und49 und111 und113 field152 field156_0 field156_1 field156_2 field156_3 field156_4
  field78 field106 field24 field31 field27 field35 field108 field109 opBox opLoad opFieldAddr opIndexAddr acells aAddr opExtract aExtract opUnOp opAlloc opStore opMakeInterface opNilCheck opBuild aParts opBuildSlice aValW
set_option maxHeartbeats 4000000
set_option linter.unusedSimpArgs false
set_option linter.unusedVariables false
/-! ### what is reached, as a list (Side of the reference) -/
theorem wpK_cut2 {T : Tabs} {cx : Cx} {a b c : Code} {A : AAct} {W : AW} {Q : AExit → AAct → AW → Prop} (J : AAct → AW → Prop) (h : ∀ Q' : AExit → AAct → AW → Prop, (∀ A' W', J A' W' → Q' .normal A' W') → WpK T cx (.seq a b) A W Q') (h2 : ∀ A' W', J A' W' → WpK T cx c A' W' Q) : WpK T cx (.seq a (.seq b c)) A W Q := by
  rw [← wpK_assoc]; exact wpK_cut J h h2
theorem Way.bound {l : List Bra} {n : Nat} {wo x y : Int} (hL : BrIn n l) (hx : 0 ≤ x ∧ x < n) (h : Way l wo x y) : 0 ≤ y ∧ y < n :=
  h.within (T := fun y => 0 ≤ y ∧ y < n) (fun y z _ hj => by
    obtain ⟨i, a, h1, h2, h3⟩ := hj
    have := hL a (List.mem_of_getElem? h1)
    rcases h3 with ⟨rfl, rfl⟩ | ⟨rfl, rfl⟩ <;> omega) hx
/-- different numbers below n, as a set -/
theorem set_of (n : Nat) : ∀ S : List Int, S.Nodup → (∀ y ∈ S, 0 ≤ y ∧ y < n) → ∃ T : Nat, (∀ i : Nat, T.testBit i = decide ((i : Int) ∈ S)) ∧ cntB T n = S.length
  | [], _, _ => ⟨0, fun i => by simp, by
    have : ∀ m, cntB 0 m = 0 := fun m => by
      induction m with
      | zero => rfl
      | succ m ih => rw [cntB, ih, Nat.zero_testBit]; rfl
    exact this n⟩
  | y :: S, hn, hb => by
    have hn' := List.nodup_cons.1 hn
    obtain ⟨T, h1, h2⟩ := set_of n S hn'.2 (fun z hz => hb z (List.mem_cons_of_mem _ hz))
    have hy := hb y List.mem_cons_self
    have ey : ((y.toNat : Nat) : Int) = y := by omega
    have hT : T.testBit y.toNat = false := by rw [h1, ey]; exact decide_eq_false hn'.1
    refine ⟨T ||| 1 <<< y.toNat, fun i => ?_, by rw [cntB_or hT n (by omega), h2]; rfl⟩
    rw [Nat.testBit_or, one_bit, h1]
    by_cases e : y.toNat = i
    · have : (i : Int) = y := by omega
      rw [decide_eq_true e, Bool.or_true, this]
      exact (decide_eq_true List.mem_cons_self).symm
    · rw [decide_eq_false e, Bool.or_false]
      have : ¬ (i : Int) = y := by omega
      simp [List.mem_cons, this]
/-- what has been found -/
structure SideS (l : List Bra) (wo x : Int) (S : List Int) (i : Nat) : Prop where
  nd : S.Nodup
  here : x ∈ S
  way : ∀ y ∈ S, Way l wo x y
  done : ∀ (j : Nat) y, j < i → S[j]? = some y → ∀ z, Joined l wo y z → z ∈ S
theorem SideS.start (l : List Bra) (wo x : Int) : SideS l wo x [x] 0 := ⟨by simp, by simp, fun y hy => by
  rw [List.mem_singleton] at hy; subst hy; exact .here, fun j y hj => by omega⟩
theorem SideS.len {l : List Bra} {wo : Int} {x n : Nat} {S : List Int} {i : Nat} (h : SideS l wo x S i) (hL : BrIn n l) (hx : x < n) : S.length ≤ n := by
  obtain ⟨T, _, h2⟩ := set_of n S h.nd (fun y hy => (h.way y hy).bound hL (by omega))
  rw [← h2]; exact cntB_max T n
theorem SideS.pos {l : List Bra} {wo x : Int} {S : List Int} {i : Nat} (h : SideS l wo x S i) : 0 < S.length := List.length_pos_of_mem h.here
theorem SideS.add {l : List Bra} {wo x y z : Int} {S : List Int} {i : Nat} (h : SideS l wo x S i) (hy : y ∈ S) (hz : Joined l wo y z) (hn : z ∉ S) (hi : i ≤ S.length) : SideS l wo x (S ++ [z]) i where
  nd := by
    rw [List.nodup_append]
    exact ⟨h.nd, by simp, fun a ha b hb e => by rw [List.mem_singleton] at hb; subst hb; subst e; exact hn ha⟩
  here := List.mem_append_left _ h.here
  way w hw := by
    rcases List.mem_append.1 hw with hw | hw
    · exact h.way w hw
    · rw [List.mem_singleton] at hw; subst hw; exact .next (h.way y hy) hz
  done j w hj hw v hv := by
    rw [List.getElem?_append_left (by omega)] at hw
    exact List.mem_append_left _ (h.done j w hj hw v hv)
/-- what of the branches has been seen from one place -/
def PartS (l : List Bra) (wo y : Int) (j : Nat) (S : List Int) : Prop := ∀ (m : Nat) a, m < j → l[m]? = some a → (m : Int) ≠ wo → (a.1 = y → a.2.1 ∈ S) ∧ (a.2.1 = y → a.1 ∈ S)
theorem PartS.more {l : List Bra} {wo y : Int} {j : Nat} {S S' : List Int} (h : PartS l wo y j S) (hs : ∀ w ∈ S, w ∈ S') : PartS l wo y j S' := fun m a h1 h2 h3 => ⟨fun e => hs _ ((h m a h1 h2 h3).1 e), fun e => hs _ ((h m a h1 h2 h3).2 e)⟩
theorem SideS.next {l : List Bra} {wo x y : Int} {S : List Int} {i : Nat} (h : SideS l wo x S i) (hy : S[i]? = some y) (hP : PartS l wo y l.length S) : SideS l wo x S (i + 1) where
  nd := h.nd
  here := h.here
  way := h.way
  done j w hj hw z hz := by
    by_cases e : j = i
    · subst e; rw [hy] at hw; cases hw
      obtain ⟨m, a, h1, h2, h3⟩ := hz
      have hp := hP m a (List.getElem?_eq_some_iff.1 h1).1 h1 h2
      rcases h3 with ⟨e1, e2⟩ | ⟨e1, e2⟩
      · exact e2 ▸ hp.1 e1
      · exact e1 ▸ hp.2 e2
    · exact h.done j w (by omega) hw z hz
theorem SideS.all {l : List Bra} {wo x : Int} {S : List Int} (h : SideS l wo x S S.length) (y : Int) : y ∈ S ↔ Way l wo x y :=
  ⟨h.way y, fun hw => hw.within (T := fun y => y ∈ S) (fun a b ha hj => by
    obtain ⟨i, hi, e⟩ := List.getElem_of_mem ha
    exact h.done i a hi (by rw [← e]; exact List.getElem?_eq_getElem hi) b hj) h.here⟩
/-- numbers in a slice that a literal made and that grows -/
def HeldI (W0 W : AW) (v : Value) (S : List Int) : Prop := HeldN W v S.length (intsV S) 3 1 (fun b => W0.next ≤ b)
theorem held_new (W : AW) (x : Int) : HeldI W (W.newCells 3 [.int .i64 x]) (.slice (some ⟨W.next, 0, none⟩) 1 2) [x] :=
  .inl ⟨rfl, W.next, Tr.nil.lay 0 [.int .i64 x], [], rfl, by show 0 < 1; omega, Nat.le_refl _, Nat.lt_succ_self _, by rw [newCells_get, if_pos rfl]; rfl, fun j hj => by
    rw [Tr.get_lay, if_pos (by have : j < 1 := hj; show 0 ≤ j ∧ j < 0 + 1; omega)]; simp [intsV], by simp⟩
theorem HeldI.has {W0 W : AW} {v : Value} {S : List Int} (h : HeldI W0 W v S) (hn : 0 < S.length) : ∃ b c, v = .slice (some ⟨b, 0, none⟩) S.length c ∧ b < W.next ∧ ∀ (i : Nat) x, S[i]? = some x → W.Has b i (.int .i64 x) := by
  obtain ⟨b, c, h1, _, h3, h4⟩ := HeldN.has h hn
  exact ⟨b, c, h1, h3, fun i x hx => h4 i _ (by rw [intsV, List.getElem?_map, hx]; rfl)⟩
theorem HeldI.ints {W0 W : AW} {v : Value} {S : List Int} (h : HeldI W0 W v S) (hn : 0 < S.length) : IntL W v S := by
  obtain ⟨b, c, rfl, _, h4⟩ := h.has hn
  exact ⟨_, _, rfl, fun i x hx => ⟨b, 0, rfl, by rw [Nat.zero_add]; exact h4 i x hx⟩⟩
theorem HeldI.push {W0 W : AW} {v : Value} {S : List Int} (h : HeldI W0 W v S) (he : Ext W0 W) (hl : S.length ≤ 1000) (x : Int) :
    ∃ v' W', aAppend T0 (W.newCells 3 [.int .i64 x]) [46, 46] [v, .slice (some ⟨W.next, 0, none⟩) 1 2] = some (v', W') ∧ HeldI W0 W' v' (S ++ [x]) ∧ Ext W0 W' := by
  have hE : Ext W (W.newCells 3 [.int .i64 x]) := .newCells _ _ _
  have h1 := HeldN.only (K' := fun _ => False) h hE (fun _ _ _ y => y)
  have hn := he.1
  obtain ⟨v', W', a1, a2, a3, a4⟩ := append_heldN (T := T0) (t := 46) (el := 3) (c := 2) (by omega) und46 inf3 is3 z3' rfl h1 (u := [.int .i64 x]) rfl (newCells_cellsAt W 3 [.int .i64 x] 1 rfl) rfl (by rw [by3']; omega) (by omega)
  refine ⟨v', W', a1, ?_, ?_⟩
  · have e1 : (S ++ [x]).length = S.length + 1 := by simp
    have e2 : intsV (S ++ [x]) = intsV S ++ [.int .i64 x] := by simp [intsV]
    show HeldN W' v' (S ++ [x]).length (intsV (S ++ [x])) 3 1 _
    rw [e1, e2]
    refine a3.mono (fun b hb => ?_)
    rcases hb with hb | hb
    · exact hb
    · rw [newCells_next] at hb; omega
  · refine ⟨by rw [a2, newCells_next]; omega, fun b hb _ => ?_⟩
    rw [a4.2 b (by rw [newCells_next]; omega) (by omega)]
    rw [hE.2 b (by omega) (fun y => y)]
    exact he.2 b hb (fun y => y)
theorem side_wp {W : AW} {v : Value} {l : List Bra} {n x : Nat} {wo : Int} (h : TriIn W v l) (hll : l.length ≤ 1000) (hL : BrIn n l) (hn : n ≤ 900) (hx : x < n) :
    WpF T0 72 [v, .int .i64 wo, .int .i64 (x : Int)] W (fun u W' => Ext W W' ∧ ∃ S : List Int, IntL W' u S ∧ S.Nodup ∧ (∀ y, y ∈ S ↔ Way l wo x y) ∧ S.length ≤ n) := by
  obtain ⟨Av, cv, rfl, hA⟩ := h
  refine wpF fun72 rfl ?_
  obtain ⟨W0, hW0, hE0, hH0⟩ : ∃ W0, W0 = W.newCells 3 [.int .i64 (x : Int)] ∧ Ext W W0 ∧ HeldI W W0 (.slice (some ⟨W.next, 0, none⟩) 1 2) [(x : Int)] := ⟨_, rfl, .newCells _ _ _, held_new W x⟩
  try simp only [wpK_assoc]
  refine wpK_reg (fun R hR => by simp [zero46]; exact hR) ?_
  try simp only [wpK_assoc]
  refine wpK_reg (fun R hR => by simp [bs46, ← hW0]; exact hR) ?_
  try simp only [wpK_assoc]
  refine wpK_reg (fun R hR => by simp []; exact hR) ?_
  try simp only [wpK_assoc]
  refine wpK_while (I := fun k B W' => B.n = 84 ∧ B.defers = [] ∧ B.tmps.get 0 = some (.slice Av l.length cv) ∧ B.tmps.get 1 = some (.int .i64 wo) ∧ Ext W W' ∧ ∃ (i : Nat) (u : Value) (S : List Int), k = n - i ∧ i ≤ S.length ∧ B.tmps.get 8 = some (.int .i64 i) ∧ B.tmps.get 7 = some u ∧ HeldI W W' u S ∧ SideS l wo x S i)
    (J := fun B W' => B.n = 84 ∧ B.defers = [] ∧ Ext W W' ∧ ∃ (u : Value) (S : List Int), B.tmps.get 7 = some u ∧ HeldI W W' u S ∧ SideS l wo x S S.length) (Rt := fun _ _ => False) (k := n) ?_ ?_ ?_ ?_
  · exact ⟨rfl, rfl, by simp, by simp, hE0, 0, _, [(x : Int)], by simp, by simp, by simp, by simp, hH0, .start l wo x⟩
  · rintro k ⟨tm, n, ds⟩ W3 ⟨hn, hd, h0, h1, e3, i, u, S, hk, hi, h8, h7, hH, hS⟩ Q' hJ hRt hI
    simp only at hn hd h0 h1
    subst hn; subst hd
    simp only at h8 h7
    have hSn := hS.len hL hx
    obtain ⟨bb, cc, rfl, hbn, hHas⟩ := hH.has hS.pos
    try simp only [wpK_assoc]
    refine wpK_reg (fun R hR => by simp [h7, h8, len_slice und46]; exact hR) ?_
    by_cases hlt : i < S.length
    case neg =>
      have e : i = S.length := by omega
      try simp only [wpK_assoc]
      first | refine wpK_onF (by simp [hlt]) ?_ | refine wpK_out (by simp [hlt]) ?_ | refine wpK_condF (by simp [hlt]) ?_ | refine wpK_endF (by simp [hlt]) (wpK_skip ?_) | refine wpK_endF (by simp [hlt]) ?_
      exact hJ _ _ ⟨rfl, rfl, e3, _, S, by simp [h7], hH, e ▸ hS⟩
    try simp only [wpK_assoc]
    first | refine wpK_onT (by simp [hlt]) ?_ | refine wpK_outT (by simp [hlt]) ?_ | refine wpK_condT (by simp [hlt]) ?_ | refine wpK_endT (by simp [hlt]) ?_
    have hsi : IntKind.i64.wrap ((i : Int) + 1) = ((i + 1 : Nat) : Int) := i64_succ i (by omega)
    have hyi : S[i]? = some S[i] := List.getElem?_eq_getElem hlt
    generalize S[i] = y at hyi
    refine wpK_block ?_
    try simp only [wpK_assoc]
    refine wpK_reg (fun R hR => by simp []; exact hR) ?_
    try simp only [wpK_assoc]
    refine wpK_while1 (I := fun k B W' => B.n = 84 ∧ B.defers = [] ∧ B.tmps.get 0 = some (.slice Av l.length cv) ∧ B.tmps.get 1 = some (.int .i64 wo) ∧ B.tmps.get 8 = some (.int .i64 i) ∧ Ext W W' ∧ ∃ (j : Nat) (u : Value) (S : List Int), k = l.length - j ∧ j ≤ l.length ∧ B.tmps.get 9 = some (.int .i64 j) ∧ B.tmps.get 7 = some u ∧ HeldI W W' u S ∧ SideS l wo x S i ∧ S[i]? = some y ∧ PartS l wo y j S)
      (J := fun B W' => B.n = 84 ∧ B.defers = [] ∧ B.tmps.get 0 = some (.slice Av l.length cv) ∧ B.tmps.get 1 = some (.int .i64 wo) ∧ B.tmps.get 8 = some (.int .i64 i) ∧ Ext W W' ∧ ∃ (u : Value) (S : List Int), B.tmps.get 7 = some u ∧ HeldI W W' u S ∧ SideS l wo x S (i + 1) ∧ i < S.length) (Rt := fun _ _ => False) (k := l.length) ?_ ?_ ?_ ?_
    · exact ⟨rfl, rfl, by simp [h0, h1, h8], by simp [h0, h1, h8], by simp [h0, h1, h8], e3, 0, _, S, by simp, by omega, by simp, by simp [h7], hH, hS, hyi, fun m a hm => by omega⟩
    · clear hH hS hyi hHas hlt hbn h7 hSn
      rintro kk ⟨tm, n, ds⟩ W4 ⟨hn, hd, h0, h1, h8, e4, j, u, S, hkk, hj, h9, h7, hH, hS, hyi, hP⟩ Q3 hJ3 hRt3 hI3
      simp only at hn hd h0 h1 h8
      subst hn; subst hd
      simp only at h9 h7
      try simp only [wpK_assoc]
      refine wpK_reg (fun R hR => by simp [h0, h9, len_slice und92]; exact hR) ?_
      have hiS : i < S.length := (List.getElem?_eq_some_iff.1 hyi).1
      by_cases hltj : j < l.length
      case neg =>
        have e : j = l.length := by omega
        subst e
        try simp only [wpK_assoc]
        first | refine wpK_onF (by simp [hltj]) ?_ | refine wpK_out (by simp [hltj]) ?_ | refine wpK_condF (by simp [hltj]) ?_ | refine wpK_endF (by simp [hltj]) (wpK_skip ?_) | refine wpK_endF (by simp [hltj]) ?_
        exact hJ3 _ _ ⟨rfl, rfl, by simp [h0, h1, h8], by simp [h0, h1, h8], by simp [h0, h1, h8], e4, u, S, by simp [h7], hH, hS.next hyi hP, hiS⟩
      try simp only [wpK_assoc]
      first | refine wpK_onT (by simp [hltj]) ?_ | refine wpK_outT (by simp [hltj]) ?_ | refine wpK_condT (by simp [hltj]) ?_ | refine wpK_endT (by simp [hltj]) ?_
      have hsj : IntKind.i64.wrap ((j : Int) + 1) = ((j + 1 : Nat) : Int) := i64_succ j (by omega)
      have ha : l[j]? = some l[j] := List.getElem?_eq_getElem hltj
      generalize l[j] = a at ha
      obtain ⟨a1, a2, a3⟩ := a
      have fin : ∀ (A' : AAct) (W' : AW) (u : Value) (S : List Int), A'.n = 84 ∧ A'.defers = [] ∧ A'.tmps.get 0 = some (.slice Av l.length cv) ∧ A'.tmps.get 1 = some (.int .i64 wo) ∧ A'.tmps.get 8 = some (.int .i64 i) → Ext W W' → A'.tmps.get 9 = some (.int .i64 ((j + 1 : Nat) : Int)) → A'.tmps.get 7 = some u → HeldI W W' u S → SideS l wo x S i → S[i]? = some y → PartS l wo y (j + 1) S → Q3 .normal A' W' := fun A' W' u S hG h1 h2 h3 h4 h5 h6 h7 => hI3 (kk - 1) _ _ (by omega) ⟨hG.1, hG.2.1, hG.2.2.1, hG.2.2.2.1, hG.2.2.2.2, h1, j + 1, u, S, by omega, by omega, h2, h3, h4, h5, h6, h7⟩
      obtain ⟨b, o, hAv, q1, q2, q3⟩ := hA j _ ha
      have eV := indexAddr_tri (T := T0) und92 sz97 (b := b) (o := o) (c := cv) (k := .i64) hltj
      rw [← hAv] at eV
      have l1 : ∀ W', Ext W W' → aLoadVar T0 W' 3 b (o + 3 * j) = some (.int .i64 a1) := fun W' he => load_of und3 rfl (q1.ext he)
      have l2 : ∀ W', Ext W W' → aLoadVar T0 W' 3 b (o + 3 * j + 1) = some (.int .i64 a2) := fun W' he => load_of und3 rfl (q2.ext he)
      refine wpK_block ?_
      by_cases c1 : (j : Int) = wo
      · try simp only [wpK_assoc]
        refine wpK_reg (fun R hR => by simp [h1, h9, c1]; exact hR) ?_
        try simp only [wpK_assoc]
        first | refine wpK_onT (by simp []) ?_ | refine wpK_outT (by simp []) ?_ | refine wpK_condT (by simp []) ?_ | refine wpK_endT (by simp []) ?_
        simp only [behind_exit, leaves_exit, if_true, behind_normal]
        try simp only [wpK_assoc]
        refine wpK_reg1 (fun R hR => by simp [h9, hsj]; exact hR) ?_
        exact fin _ _ u S (by exact ⟨rfl, rfl, by simp [h0, h1, h8], by simp [h0, h1, h8], by simp [h0, h1, h8]⟩) e4 (by simp) (by simp [h7]) hH hS hyi (fun m a h1 h2 h3 => by
          by_cases e : m = j
          · exact absurd (e ▸ c1) h3
          · exact hP m a (by omega) h2 h3)
      try simp only [wpK_assoc]
      refine wpK_reg (fun R hR => by simp [h1, h9, c1]; exact hR) ?_
      try simp only [wpK_assoc]
      first | refine wpK_onF (by simp []) ?_ | refine wpK_out (by simp []) ?_ | refine wpK_condF (by simp []) ?_ | refine wpK_endF (by simp []) (wpK_skip ?_) | refine wpK_endF (by simp []) ?_
      have hyS0 : y ∈ S := List.mem_of_getElem? hyi
      have hSn0 := hS.len hL hx
      have h50 := has50_wp (hH.ints hS.pos) (by omega) a2
      try simp only [wpK_assoc]
      refine wpK_cut2 (J := fun B W' => B.n = 84 ∧ B.defers = [] ∧ B.tmps.get 0 = some (.slice Av l.length cv) ∧ B.tmps.get 1 = some (.int .i64 wo) ∧ B.tmps.get 8 = some (.int .i64 i) ∧ B.tmps.get 9 = some (.int .i64 j) ∧ Ext W W' ∧ ∃ (u : Value) (S : List Int), B.tmps.get 7 = some u ∧ HeldI W W' u S ∧ SideS l wo x S i ∧ S[i]? = some y ∧ PartS l wo y j S ∧ (a1 = y → a2 ∈ S)) (fun Q2 hQ2 => ?_) ?_
      · obtain ⟨bb, cc, rfl, hbn, hHas⟩ := hH.has hS.pos
        have eU := indexAddr_slice (T := T0) und46 sz3 (b := bb) (o := 0) (c := cc) (k := .i64) hiS
        rw [Nat.mul_one, Nat.zero_add] at eU
        have lU := load_of und3 rfl (hHas i y hyi)
        by_cases e1 : a1 = y
        case neg =>
          try simp only [wpK_assoc]
          refine wpK_dn (wr := Tr.nil |>.set 27 0 |>.set 28 1 |>.set 29 2 |>.set 30 3 |>.set 31 4 |>.set 32 5 |>.set 33 6 |>.set 34 7 |>.set 35 8 |>.set 36 9 |>.set 37 10 |>.set 38 11 |>.set 39 12 |>.set 40 13 |>.set 41 14 |>.set 42 15 |>.set 43 16 |>.set 44 17 |>.set 45 18 |>.set 46 19) (bits := Tr.nil.lay 0 [0, 0, 3, 7, 15, 0, 0, 96, 224, 511, 1023, 2047, 2047, 2047, 14335, 30719, 63487, 131071, 262143, 524287]) (ord := [0, 1, 2, 3, 4, 5, 6, 7, 8, 9, 10, 11, 12, 13, 14, 15, 16, 17, 18, 19]) (by kernel_rfl) (by kernel_rfl) (by kernel_rfl) (fun G hG => by
            simp [h0, h7, h8, h9, eV, l1, e4, eU, lU, e1, field97, undef]
            exact hG) ?_
          refine wpK_endF (by simp) (wpK_skip (hQ2 _ _ ⟨rfl, rfl, by simp [h0, h1, h8], by simp [h0, h1, h8], by simp [h0, h1, h8], by simp [h9], e4, _, S, by simp [h7], hH, hS, hyi, hP, fun e => absurd e e1⟩))
        by_cases hz : a2 ∈ S
        · try simp only [wpK_assoc]
          refine wpK_dn (wr := Tr.nil |>.set 27 0 |>.set 28 1 |>.set 29 2 |>.set 30 3 |>.set 31 4 |>.set 32 5 |>.set 33 6 |>.set 34 7 |>.set 35 8 |>.set 36 9 |>.set 37 10 |>.set 38 11 |>.set 39 12 |>.set 40 13 |>.set 41 14 |>.set 42 15 |>.set 43 16 |>.set 44 17 |>.set 45 18 |>.set 46 19) (bits := Tr.nil.lay 0 [0, 0, 3, 7, 15, 0, 0, 96, 224, 511, 1023, 2047, 2047, 2047, 14335, 30719, 63487, 131071, 262143, 524287]) (ord := [0, 1, 2, 3, 4, 5, 6, 7, 8, 9, 10, 11, 12, 13, 14, 15, 16, 17, 18, 19]) (by kernel_rfl) (by kernel_rfl) (by kernel_rfl) (fun G hG => by
            simp [h0, h7, h8, h9, eV, l1, l2, e4, eU, lU, e1, field97, aEnter, fun50, short_other, aCallV]
            rw [dcallS_none]
            refine h50.mono ?_
            rintro _ W9 ⟨e9, rfl⟩; subst W9
            simp [h0, h7, h8, h9, eV, l1, l2, e4, eU, lU, e1, field97, hz]
            exact hG) ?_
          refine wpK_endF (by simp) (wpK_skip (hQ2 _ _ ⟨rfl, rfl, by simp [h0, h1, h8], by simp [h0, h1, h8], by simp [h0, h1, h8], by simp [h9], e4, _, S, by simp [h7], hH, hS, hyi, hP, fun _ => hz⟩))
        · try simp only [wpK_assoc]
          refine wpK_dn (wr := Tr.nil |>.set 27 0 |>.set 28 1 |>.set 29 2 |>.set 30 3 |>.set 31 4 |>.set 32 5 |>.set 33 6 |>.set 34 7 |>.set 35 8 |>.set 36 9 |>.set 37 10 |>.set 38 11 |>.set 39 12 |>.set 40 13 |>.set 41 14 |>.set 42 15 |>.set 43 16 |>.set 44 17 |>.set 45 18 |>.set 46 19) (bits := Tr.nil.lay 0 [0, 0, 3, 7, 15, 0, 0, 96, 224, 511, 1023, 2047, 2047, 2047, 14335, 30719, 63487, 131071, 262143, 524287]) (ord := [0, 1, 2, 3, 4, 5, 6, 7, 8, 9, 10, 11, 12, 13, 14, 15, 16, 17, 18, 19]) (by kernel_rfl) (by kernel_rfl) (by kernel_rfl) (fun G hG => by
            simp [h0, h7, h8, h9, eV, l1, l2, e4, eU, lU, e1, field97, aEnter, fun50, short_other, aCallV]
            rw [dcallS_none]
            refine h50.mono ?_
            rintro _ W9 ⟨e9, rfl⟩; subst W9
            simp [h0, h7, h8, h9, eV, l1, l2, e4, eU, lU, e1, field97, hz]
            exact hG) ?_
          try simp only [wpK_assoc]
          first | refine wpK_onT (by simp []) ?_ | refine wpK_outT (by simp []) ?_ | refine wpK_condT (by simp []) ?_ | refine wpK_endT (by simp []) ?_
          obtain ⟨w', W8, p1, p2, p3⟩ := hH.push e4 (by omega) a2
          have hjz : Joined l wo y a2 := ⟨j, _, ha, c1, by subst e1; exact .inl ⟨rfl, rfl⟩⟩
          have hadd := hS.add hyS0 hjz hz (by omega)
          try simp only [wpK_assoc]
          refine wpK_reg1 (fun R hR => by simp [h0, h7, h9, eV, l2, e4, field97, bs46, p1]; exact hR) ?_
          have hmem : ∀ w ∈ S, w ∈ S ++ [a2] := fun w hw => List.mem_append_left _ hw
          exact hQ2 _ _ ⟨rfl, rfl, by simp [h0, h1, h8], by simp [h0, h1, h8], by simp [h0, h1, h8], by simp [h9], p3, w', S ++ [a2], by simp, p2, hadd, by rw [List.getElem?_append_left hiS]; exact hyi, hP.more hmem, fun _ => List.mem_append_right _ (by simp)⟩
      clear h0 h1 h7 h8 h9 hH hS hyi hP hyS0 hSn0 h50 hiS
      rintro ⟨tm, n, ds⟩ W5 ⟨hn, hd, h0, h1, h8, h9, e5, u, S, h7, hH, hS, hyi, hP, hq⟩
      simp only at hn hd h0 h1 h8
      subst hn; subst hd
      simp only at h9 h7
      have hiS : i < S.length := (List.getElem?_eq_some_iff.1 hyi).1
      have hyS1 : y ∈ S := List.mem_of_getElem? hyi
      have hSn1 := hS.len hL hx
      have h50 := has50_wp (hH.ints hS.pos) (by omega) a1
      try simp only [wpK_assoc]
      refine wpK_cut1 (J := fun B W' => B.n = 84 ∧ B.defers = [] ∧ B.tmps.get 0 = some (.slice Av l.length cv) ∧ B.tmps.get 1 = some (.int .i64 wo) ∧ B.tmps.get 8 = some (.int .i64 i) ∧ B.tmps.get 9 = some (.int .i64 j) ∧ Ext W W' ∧ ∃ (u : Value) (S : List Int), B.tmps.get 7 = some u ∧ HeldI W W' u S ∧ SideS l wo x S i ∧ S[i]? = some y ∧ PartS l wo y j S ∧ ((a1 = y → a2 ∈ S) ∧ (a2 = y → a1 ∈ S))) (fun Q2 hQ2 => ?_) ?_
      · obtain ⟨bb, cc, rfl, hbn, hHas⟩ := hH.has hS.pos
        have eU := indexAddr_slice (T := T0) und46 sz3 (b := bb) (o := 0) (c := cc) (k := .i64) hiS
        rw [Nat.mul_one, Nat.zero_add] at eU
        have lU := load_of und3 rfl (hHas i y hyi)
        by_cases e1 : a2 = y
        case neg =>
          try simp only [wpK_assoc]
          refine wpK_dn (wr := Tr.nil |>.set 55 0 |>.set 56 1 |>.set 57 2 |>.set 58 3 |>.set 59 4 |>.set 60 5 |>.set 61 6 |>.set 62 7 |>.set 63 8 |>.set 64 9 |>.set 65 10 |>.set 66 11 |>.set 67 12 |>.set 68 13 |>.set 69 14 |>.set 70 15 |>.set 71 16 |>.set 72 17 |>.set 73 18 |>.set 74 19) (bits := Tr.nil.lay 0 [0, 0, 3, 7, 15, 0, 0, 96, 224, 511, 1023, 2047, 2047, 2047, 14335, 30719, 63487, 131071, 262143, 524287]) (ord := [0, 1, 2, 3, 4, 5, 6, 7, 8, 9, 10, 11, 12, 13, 14, 15, 16, 17, 18, 19]) (by kernel_rfl) (by kernel_rfl) (by kernel_rfl) (fun G hG => by
            simp [h0, h7, h8, h9, eV, l2, e5, eU, lU, e1, field97, undef]
            exact hG) ?_
          refine wpK_endF (by simp) (wpK_skip (hQ2 _ _ ⟨rfl, rfl, by simp [h0, h1, h8], by simp [h0, h1, h8], by simp [h0, h1, h8], by simp [h9], e5, _, S, by simp [h7], hH, hS, hyi, hP, ⟨hq, fun e => absurd e e1⟩⟩))
        by_cases hz : a1 ∈ S
        · try simp only [wpK_assoc]
          refine wpK_dn (wr := Tr.nil |>.set 55 0 |>.set 56 1 |>.set 57 2 |>.set 58 3 |>.set 59 4 |>.set 60 5 |>.set 61 6 |>.set 62 7 |>.set 63 8 |>.set 64 9 |>.set 65 10 |>.set 66 11 |>.set 67 12 |>.set 68 13 |>.set 69 14 |>.set 70 15 |>.set 71 16 |>.set 72 17 |>.set 73 18 |>.set 74 19) (bits := Tr.nil.lay 0 [0, 0, 3, 7, 15, 0, 0, 96, 224, 511, 1023, 2047, 2047, 2047, 14335, 30719, 63487, 131071, 262143, 524287]) (ord := [0, 1, 2, 3, 4, 5, 6, 7, 8, 9, 10, 11, 12, 13, 14, 15, 16, 17, 18, 19]) (by kernel_rfl) (by kernel_rfl) (by kernel_rfl) (fun G hG => by
            simp [h0, h7, h8, h9, eV, l2, l1, e5, eU, lU, e1, field97, aEnter, fun50, short_other, aCallV]
            rw [dcallS_none]
            refine h50.mono ?_
            rintro _ W9 ⟨e9, rfl⟩; subst W9
            simp [h0, h7, h8, h9, eV, l2, l1, e5, eU, lU, e1, field97, hz]
            exact hG) ?_
          refine wpK_endF (by simp) (wpK_skip (hQ2 _ _ ⟨rfl, rfl, by simp [h0, h1, h8], by simp [h0, h1, h8], by simp [h0, h1, h8], by simp [h9], e5, _, S, by simp [h7], hH, hS, hyi, hP, ⟨hq, fun _ => hz⟩⟩))
        · try simp only [wpK_assoc]
          refine wpK_dn (wr := Tr.nil |>.set 55 0 |>.set 56 1 |>.set 57 2 |>.set 58 3 |>.set 59 4 |>.set 60 5 |>.set 61 6 |>.set 62 7 |>.set 63 8 |>.set 64 9 |>.set 65 10 |>.set 66 11 |>.set 67 12 |>.set 68 13 |>.set 69 14 |>.set 70 15 |>.set 71 16 |>.set 72 17 |>.set 73 18 |>.set 74 19) (bits := Tr.nil.lay 0 [0, 0, 3, 7, 15, 0, 0, 96, 224, 511, 1023, 2047, 2047, 2047, 14335, 30719, 63487, 131071, 262143, 524287]) (ord := [0, 1, 2, 3, 4, 5, 6, 7, 8, 9, 10, 11, 12, 13, 14, 15, 16, 17, 18, 19]) (by kernel_rfl) (by kernel_rfl) (by kernel_rfl) (fun G hG => by
            simp [h0, h7, h8, h9, eV, l2, l1, e5, eU, lU, e1, field97, aEnter, fun50, short_other, aCallV]
            rw [dcallS_none]
            refine h50.mono ?_
            rintro _ W9 ⟨e9, rfl⟩; subst W9
            simp [h0, h7, h8, h9, eV, l2, l1, e5, eU, lU, e1, field97, hz]
            exact hG) ?_
          try simp only [wpK_assoc]
          first | refine wpK_onT (by simp []) ?_ | refine wpK_outT (by simp []) ?_ | refine wpK_condT (by simp []) ?_ | refine wpK_endT (by simp []) ?_
          obtain ⟨w', W8, p1, p2, p3⟩ := hH.push e5 (by omega) a1
          have hjz : Joined l wo y a1 := ⟨j, _, ha, c1, by subst e1; exact .inr ⟨rfl, rfl⟩⟩
          have hadd := hS.add hyS1 hjz hz (by omega)
          try simp only [wpK_assoc]
          refine wpK_reg1 (fun R hR => by simp [h0, h7, h9, eV, l1, e5, field97, bs46, p1]; exact hR) ?_
          have hmem : ∀ w ∈ S, w ∈ S ++ [a1] := fun w hw => List.mem_append_left _ hw
          exact hQ2 _ _ ⟨rfl, rfl, by simp [h0, h1, h8], by simp [h0, h1, h8], by simp [h0, h1, h8], by simp [h9], p3, w', S ++ [a1], by simp, p2, hadd, by rw [List.getElem?_append_left hiS]; exact hyi, hP.more hmem, ⟨fun e => hmem _ (hq e), fun _ => List.mem_append_right _ (by simp)⟩⟩
      clear h0 h1 h7 h8 h9 hH hS hyi hP hyS1 hSn1 h50 hiS
      rintro ⟨tm, n, ds⟩ W6 ⟨hn, hd, h0, h1, h8, h9, e6, u, S, h7, hH, hS, hyi, hP, hq2⟩
      simp only at hn hd h0 h1 h8
      subst hn; subst hd
      simp only at h9 h7
      try simp only [behind_normal]
      try simp only [wpK_assoc]
      refine wpK_reg1 (fun R hR => by simp [h9, hsj]; exact hR) ?_
      exact fin _ _ u S (by exact ⟨rfl, rfl, by simp [h0, h1, h8], by simp [h0, h1, h8], by simp [h0, h1, h8]⟩) e6 (by simp) (by simp [h7]) hH hS hyi (fun m a h1 h2 h3 => by
        by_cases e : m = j
        · subst e; rw [ha] at h2; cases h2; exact hq2
        · exact hP m a (by omega) h2 h3)
    · rintro A' W' hf; exact hf.elim
    · rintro ⟨tm, n, ds⟩ W6 ⟨hn, hd, h0, h1, h8, e6, u, S', h7', hH', hS', hi'⟩
      simp only at hn hd h0 h1 h8
      subst hn; subst hd
      simp only at h7'
      try simp only [behind_normal]
      try simp only [wpK_assoc]
      refine wpK_reg1 (fun R hR => by simp [h8, hsi]; exact hR) ?_
      exact hI (n - (i + 1)) _ _ (by omega) ⟨rfl, rfl, by simp [h0, h1], by simp [h0, h1], e6, i + 1, u, S', rfl, by omega, by simp, by simp [h7'], hH', hS'⟩
  · rintro A' W' hf; exact hf.elim
  · rintro ⟨tm, m, ds⟩ W3 ⟨hn', hd, e3, u, S, h7, hH, hS⟩
    simp only at hn' hd h7
    subst hn'; subst hd
    try simp only [wpK_assoc]
    refine wpK_reg (fun R hR => by simp [h7]; exact hR) ?_
    exact wpK_ret ⟨.inr rfl, rfl, [u], by simp, e3, S, hH.ints hS.pos, hS.nd, hS.all, hS.len hL hx⟩

end Go.Proofs.YtkipaffjmcmclaaDoor

open Go Go.Eng
namespace Go.Proofs.YtkipaffjmcmclaaDoor
attribute [local congr] undef_congr WpK.congr WpS.congr WpL.congr WpC.congr WpF.congr gotS.congr callS.congr nextS.congr wantS.congr condS.congr
attribute [local irreducible] WpK
attribute [local simp] WpDr_nil WpDr_cons atS_some dwantS_true dwantS_false kindS_light kindS_float kindS_heavy lightS_value floatS_some heavyS_value heavyS_skip heavyS_enter dcallS_some doneS_eq
  isLight isFloat isPlain dLook testBit_dec dChain dLights_nil dLights_skip dLights_one dLight_nil dLight_cons dFreshes_nil dFreshes_one oneF_none oneF_some dFresh_nil dFresh_cons oneL_some oneW_true oneW_false sameV_value dPut dMay valEq arrEq listEq List.getElem?_cons Tr.get_nil dEnd
attribute [local simp] WpS_nil WpS_cons isDefer undef_false wantS_true wantS_false nextS_value nextS_skip nextS_enter callS_some gotS_some aWanted aOp aEvalF aEval opMove opAssign opPick aVal flat flat1 AAct.put opBinOp opConvert opIndex Tr.get_set Tr.get_lay aBin aResults tupled
  aCall aVals aCallB blt_dec ble_dec beq_dec aBinI_add aBinI_sub aBinI_lss aBinI_leq aBinI_gtr aBinI_geq aBinI_eql aBinI_neq index_str len_str len_slice Nat.beq_refl und2 und3 und4 und5 und39 und76 und82 und116 und22 und29 und25 und33 und46 und43 und49 und111 und113 field152 field156_0 field156_1 field156_2 field156_3 field156_4
  field78 field106 field24 field31 field27 field35 field108 field109 opBox opLoad opFieldAddr opIndexAddr acells aAddr opExtract aExtract opUnOp opAlloc opStore opMakeInterface opNilCheck opBuild aParts opBuildSlice aValW
set_option maxHeartbeats 4000000
set_option linter.unusedSimpArgs false
set_option linter.unusedVariables false
/-! ### Joins of the reference -/
theorem cntB_full {T : Nat} : ∀ n, cntB T n = n → ∀ q, q < n → T.testBit q = true
  | 0, _, q, hq => by omega
  | n + 1, h, q, hq => by
    have hm := cntB_max T n
    rw [cntB] at h
    cases hb : T.testBit n with
    | false => rw [hb] at h; simp at h; omega
    | true =>
      rw [hb] at h
      have h' : cntB T n + 1 = n + 1 := h
      by_cases e : q = n
      · rw [e]; exact hb
      · exact cntB_full n (by omega) q (by omega)
/-- as many are reached as there are places just if all are -/
theorem spans_side {l : List Bra} (hL : BrIn (l.length + 1) l) {S : List Int} (hn : S.Nodup) (hw : ∀ y, y ∈ S ↔ Way l (-1) (0 : Nat) y) : S.length = l.length + 1 ↔ spansB l := by
  obtain ⟨T, h1, h2⟩ := set_of (l.length + 1) S hn (fun y hy => ((hw y).1 hy).bound hL (by omega))
  have hq : ∀ q : Nat, T.testBit q = (roundsB l (-1) l.length (1 <<< 0)).testBit q := fun q => by
    have h3 := reach_way (wo := -1) hL (f := 0) (by omega) (Nat.le_refl _) q
    rw [h1]
    by_cases e : (q : Int) ∈ S
    · rw [decide_eq_true e, h3.2 ((hw q).1 e)]
    · rw [decide_eq_false e]
      cases hb : (roundsB l (-1) l.length (1 <<< 0)).testBit q with
      | false => rfl
      | true => exact absurd ((hw q).2 (h3.1 hb)) e
  rw [← h2]
  constructor
  · intro h q hlt
    rw [← hq]; exact cntB_full _ h q hlt
  · intro h
    exact cntB_all _ (fun q hlt => by rw [hq]; exact h q hlt)
theorem refJoins_wp {W : AW} {v : Value} {l : List Bra} (h : TriIn W v l) (hl : l.length ≤ 1000) :
    WpF T0 48 [v] W (fun u W' => Ext W W' ∧ ((joinsB l ∧ u = .bool true) ∨ (¬ joinsB l ∧ u = .bool false))) := by
  have h' := h
  obtain ⟨Av, cv, rfl, hA⟩ := h
  refine wpF fun48 rfl ?_
  have w1 : IntKind.i64.wrap ((l.length : Int) + 1) = ((l.length + 1 : Nat) : Int) := i64_succ _ (by omega)
  try simp only [wpK_assoc]
  refine wpK_reg (fun R hR => by simp []; exact hR) ?_
  by_cases c1 : (l.length : Int) < 1
  · try simp only [wpK_assoc]
    refine wpK_reg (fun R hR => by simp [len_slice und92, c1, undef]; exact hR) ?_
    try simp only [wpK_assoc]
    first | refine wpK_onT (by simp []) ?_ | refine wpK_outT (by simp []) ?_ | refine wpK_condT (by simp []) ?_ | refine wpK_endT (by simp []) ?_
    try simp only [wpK_assoc]
    refine wpK_reg (fun R hR => by simp []; exact hR) ?_
    exact wpK_ret ⟨.inr rfl, rfl, [.bool false], by simp, .refl _ _, .inr ⟨fun hj => by have := hj.1; omega, rfl⟩⟩
  by_cases c2 : (23 : Int) < (l.length : Int)
  · try simp only [wpK_assoc]
    refine wpK_reg (fun R hR => by simp [len_slice und92, c1, c2]; exact hR) ?_
    try simp only [wpK_assoc]
    first | refine wpK_onT (by simp []) ?_ | refine wpK_outT (by simp []) ?_ | refine wpK_condT (by simp []) ?_ | refine wpK_endT (by simp []) ?_
    try simp only [wpK_assoc]
    refine wpK_reg (fun R hR => by simp []; exact hR) ?_
    exact wpK_ret ⟨.inr rfl, rfl, [.bool false], by simp, .refl _ _, .inr ⟨fun hj => by have := hj.2.1; omega, rfl⟩⟩
  try simp only [wpK_assoc]
  refine wpK_reg (fun R hR => by simp [len_slice und92, c1, c2]; exact hR) ?_
  try simp only [wpK_assoc]
  first | refine wpK_onF (by simp []) ?_ | refine wpK_out (by simp []) ?_ | refine wpK_condF (by simp []) ?_ | refine wpK_endF (by simp []) (wpK_skip ?_) | refine wpK_endF (by simp []) ?_
  try simp only [wpK_assoc]
  refine wpK_reg (fun R hR => by simp []; exact hR) ?_
  try simp only [wpK_assoc]
  refine wpK_while (I := fun k A W' => A.n = 59 ∧ A.defers = [] ∧ A.tmps.get 0 = some (.slice Av l.length cv) ∧ W' = W ∧ ∃ i : Nat, k = l.length - i ∧ i ≤ l.length ∧ A.tmps.get 3 = some (.int .i64 i) ∧ ∀ (j : Nat) a, j < i → l[j]? = some a → 0 ≤ a.1 ∧ a.1 < ((l.length + 1 : Nat) : Int) ∧ 0 ≤ a.2.1 ∧ a.2.1 < ((l.length + 1 : Nat) : Int))
    (J := fun A W' => A.n = 59 ∧ A.defers = [] ∧ A.tmps.get 0 = some (.slice Av l.length cv) ∧ W' = W ∧ BrIn (l.length + 1) l)
    (Rt := fun A W' => A.defers = [] ∧ A.tmps.get 2 = some (.bool false) ∧ W' = W ∧ ¬ joinsB l) (k := l.length) ?_ ?_ ?_ ?_
  · exact ⟨rfl, rfl, by simp, rfl, 0, by simp, by omega, by simp, fun j a hj => by omega⟩
  · rintro k ⟨tm, n, ds⟩ W3 ⟨hn, hd, h0, rfl, i, hk, hi, h3, hgood⟩ Q' hJ hRt hI
    simp only at hn hd h0
    subst hn; subst hd
    simp only at h3
    try simp only [wpK_assoc]
    refine wpK_reg (fun R hR => by simp [h0, h3, len_slice und92]; exact hR) ?_
    by_cases hlt : i < l.length
    · try simp only [wpK_assoc]
      first | refine wpK_onT (by simp [hlt]) ?_ | refine wpK_outT (by simp [hlt]) ?_ | refine wpK_condT (by simp [hlt]) ?_ | refine wpK_endT (by simp [hlt]) ?_
      have ha : l[i]? = some l[i] := List.getElem?_eq_getElem hlt
      have hmem : l[i] ∈ l := List.getElem_mem hlt
      generalize l[i] = a at ha hmem
      obtain ⟨b, o, hAv, q1, q2, q3⟩ := hA i _ ha
      have eV := indexAddr_tri (T := T0) und92 sz97 (b := b) (o := o) (c := cv) (k := .i64) hlt
      rw [← hAv] at eV
      obtain ⟨a1, a2, a3⟩ := a
      have l1 := load_of und3 rfl q1
      have l2 := load_of und3 rfl q2
      have hsi : IntKind.i64.wrap ((i : Int) + 1) = ((i + 1 : Nat) : Int) := i64_succ i (by omega)
      have hbad : ¬ (0 ≤ a1 ∧ a1 < ((l.length + 1 : Nat) : Int) ∧ 0 ≤ a2 ∧ a2 < ((l.length + 1 : Nat) : Int)) → ¬ joinsB l := fun hn hj => hn (hj.2.2.1 _ hmem)
      refine wpK_block ?_
      by_cases d1 : a1 < 0
      · try simp only [wpK_assoc]
        refine wpK_reg (fun R hR => by simp [h0, h3, eV, l1, l2, field97, len_slice und92, d1, undef]; exact hR) ?_
        try simp only [wpK_assoc]
        first | refine wpK_onT (by simp []) ?_ | refine wpK_outT (by simp []) ?_ | refine wpK_condT (by simp []) ?_ | refine wpK_endT (by simp []) ?_
        try simp only [wpK_assoc]
        refine wpK_reg (fun R hR => by simp []; exact hR) ?_
        exact wpK_ret (hRt _ _ ⟨rfl, by simp, rfl, hbad (by omega)⟩)
      by_cases d2 : (l.length : Int) < a1
      · try simp only [wpK_assoc]
        refine wpK_reg (fun R hR => by simp [h0, h3, eV, l1, l2, field97, len_slice und92, d1, d2, undef]; exact hR) ?_
        try simp only [wpK_assoc]
        first | refine wpK_onT (by simp []) ?_ | refine wpK_outT (by simp []) ?_ | refine wpK_condT (by simp []) ?_ | refine wpK_endT (by simp []) ?_
        try simp only [wpK_assoc]
        refine wpK_reg (fun R hR => by simp []; exact hR) ?_
        exact wpK_ret (hRt _ _ ⟨rfl, by simp, rfl, hbad (by omega)⟩)
      by_cases d3 : a2 < 0
      · try simp only [wpK_assoc]
        refine wpK_reg (fun R hR => by simp [h0, h3, eV, l1, l2, field97, len_slice und92, d1, d2, d3, undef]; exact hR) ?_
        try simp only [wpK_assoc]
        first | refine wpK_onT (by simp []) ?_ | refine wpK_outT (by simp []) ?_ | refine wpK_condT (by simp []) ?_ | refine wpK_endT (by simp []) ?_
        try simp only [wpK_assoc]
        refine wpK_reg (fun R hR => by simp []; exact hR) ?_
        exact wpK_ret (hRt _ _ ⟨rfl, by simp, rfl, hbad (by omega)⟩)
      by_cases d4 : (l.length : Int) < a2
      · try simp only [wpK_assoc]
        refine wpK_reg (fun R hR => by simp [h0, h3, eV, l1, l2, field97, len_slice und92, d1, d2, d3, d4]; exact hR) ?_
        try simp only [wpK_assoc]
        first | refine wpK_onT (by simp []) ?_ | refine wpK_outT (by simp []) ?_ | refine wpK_condT (by simp []) ?_ | refine wpK_endT (by simp []) ?_
        try simp only [wpK_assoc]
        refine wpK_reg (fun R hR => by simp []; exact hR) ?_
        exact wpK_ret (hRt _ _ ⟨rfl, by simp, rfl, hbad (by omega)⟩)
      try simp only [wpK_assoc]
      refine wpK_reg (fun R hR => by simp [h0, h3, eV, l1, l2, field97, len_slice und92, d1, d2, d3, d4]; exact hR) ?_
      try simp only [wpK_assoc]
      first | refine wpK_onF (by simp []) ?_ | refine wpK_out (by simp []) ?_ | refine wpK_condF (by simp []) ?_ | refine wpK_endF (by simp []) (wpK_skip ?_) | refine wpK_endF (by simp []) ?_
      try simp only [wpK_assoc]
      refine wpK_reg1 (fun R hR => by simp [h3, hsi]; exact hR) ?_
      refine hI (k - 1) _ _ (by omega) ⟨rfl, rfl, by simp [h0], rfl, i + 1, by omega, by omega, by simp, fun j b hj hb => ?_⟩
      by_cases e : j = i
      · subst e; rw [ha] at hb; cases hb; simp only; omega
      · exact hgood j b (by omega) hb
    · try simp only [wpK_assoc]
      first | refine wpK_onF (by simp [hlt]) ?_ | refine wpK_out (by simp [hlt]) ?_ | refine wpK_condF (by simp [hlt]) ?_ | refine wpK_endF (by simp [hlt]) (wpK_skip ?_) | refine wpK_endF (by simp [hlt]) ?_
      refine hJ _ _ ⟨rfl, rfl, by simp [h0], rfl, fun a ha => ?_⟩
      obtain ⟨j, hj, rfl⟩ := List.getElem_of_mem ha
      exact hgood j l[j] (by omega) (List.getElem?_eq_getElem hj)
  · rintro A' W' ⟨g1, g2, rfl, g4⟩
    exact ⟨.inr rfl, g1, [.bool false], by simp [g2], .refl _ _, .inr ⟨g4, rfl⟩⟩
  · rintro ⟨tm, n, ds⟩ W3 ⟨hn, hd, h0, rfl, hL⟩
    simp only at hn hd h0
    subst hn; subst hd
    have hsw := side_wp (x := 0) (wo := -1) h' hl hL (by omega) (by omega)
    simp only [Int.natCast_zero] at hsw
    try simp only [wpK_assoc]
    refine wpK_x3 (fun R hR => by
      simp [h0, aEnter, fun72, short_other, aCallV]; rw [callS_none]
      refine hsw.mono ?_
      rintro _ W4 ⟨e4, S, ⟨As, cs, rfl, hS1⟩, hS2, hS3, hS4⟩
      simp [h0, len_slice und46, len_slice und92, w1]
      exact hR As S cs W4 (And.intro e4 (And.intro hS2 hS3))) ?_
    rintro As S cs W4 ⟨e4, hS2, hS3⟩
    have hsp := spans_side hL hS2 hS3
    by_cases c : S.length = l.length + 1
    · refine wpK_ret ⟨.inr rfl, rfl, [.bool true], ?_, e4, .inl ⟨⟨by omega, by omega, hL, hsp.1 c⟩, rfl⟩⟩
      simp [c]
    · refine wpK_ret ⟨.inr rfl, rfl, [.bool false], ?_, e4, .inr ⟨fun hj => c (hsp.2 hj.2.2.2), rfl⟩⟩
      simp; omega

end Go.Proofs.YtkipaffjmcmclaaDoor

open Go Go.Eng
namespace Go.Proofs.YtkipaffjmcmclaaDoor
attribute [local congr] undef_congr WpK.congr WpS.congr WpL.congr WpC.congr WpF.congr gotS.congr callS.congr nextS.congr wantS.congr condS.congr
attribute [local irreducible] WpK
attribute [local simp] WpDr_nil WpDr_cons atS_some dwantS_true dwantS_false kindS_light kindS_float kindS_heavy lightS_value floatS_some heavyS_value heavyS_skip heavyS_enter dcallS_some doneS_eq
  isLight isFloat isPlain dLook testBit_dec dChain dLights_nil dLights_skip dLights_one dLight_nil dLight_cons dFreshes_nil dFreshes_one oneF_none oneF_some dFresh_nil dFresh_cons oneL_some oneW_true oneW_false sameV_value dPut dMay valEq arrEq listEq List.getElem?_cons Tr.get_nil dEnd
attribute [local simp] WpS_nil WpS_cons isDefer undef_false wantS_true wantS_false nextS_value nextS_skip nextS_enter callS_some gotS_some aWanted aOp aEvalF aEval opMove opAssign opPick aVal flat flat1 AAct.put opBinOp opConvert opIndex Tr.get_set Tr.get_lay aBin aResults tupled
  aCall aVals aCallB blt_dec ble_dec beq_dec aBinI_add aBinI_sub aBinI_lss aBinI_leq aBinI_gtr aBinI_geq aBinI_eql aBinI_neq index_str len_str len_slice Nat.beq_refl und2 und3 und4 und5 und39 und76 und82 und116 und22 und29 und25 und33 und46 und43 und49 und111 und113 field152 field156_0 field156_1 field156_2 field156_3 field156_4
  field78 field106 field24 field31 field27 field35 field108 field109 opBox opLoad opFieldAddr opIndexAddr acells aAddr opExtract aExtract opUnOp opAlloc opStore opMakeInterface opNilCheck opBuild aParts opBuildSlice aValW
set_option maxHeartbeats 4000000
set_option linter.unusedSimpArgs false
set_option linter.unusedVariables false
/-! ### Between of the reference -/
theorem refBetween_wp {W : AW} {v : Value} {l : List Bra} (h : TriIn W v l) (hj : joinsB l) {f q : Nat} (hf : f < l.length + 1) (hq : q < l.length + 1) (hne : q ≠ f) :
    WpF T0 49 [v, .int .i64 (f : Int), .int .i64 (q : Int)] W (fun u W' => Ext W W' ∧ ∃ x : Int, u = .int .i64 x ∧ MinW l f q x) := by
  have h' := h
  obtain ⟨Av, cv, rfl, hA⟩ := h
  obtain ⟨hj1, hj2, hL, hsp⟩ := hj
  refine wpF fun49 rfl ?_
  try simp only [wpK_assoc]
  refine wpK_reg (fun R hR => by simp []; exact hR) ?_
  try simp only [wpK_assoc]
  refine wpK_reg (fun R hR => by simp []; exact hR) ?_
  try simp only [wpK_assoc]
  refine wpK_reg (fun R hR => by simp []; exact hR) ?_
  try simp only [wpK_assoc]
  refine wpK_while (I := fun k A W' => A.n = 39 ∧ A.defers = [] ∧ A.tmps.get 0 = some (.slice Av l.length cv) ∧ A.tmps.get 1 = some (.int .i64 (f : Int)) ∧ A.tmps.get 2 = some (.int .i64 (q : Int)) ∧ Ext W W' ∧ ∃ (i : Nat) (x : Int) (fd : Bool), k = l.length - i ∧ i ≤ l.length ∧ A.tmps.get 9 = some (.int .i64 i) ∧ A.tmps.get 7 = some (.int .i64 x) ∧ A.tmps.get 8 = some (.bool fd) ∧ (∀ (j : Nat) a, j < i → l[j]? = some a → ¬ Way l j f q → fd = true ∧ x ≤ a.2.2) ∧ (fd = true → ∃ (j : Nat) (a : Bra), l[j]? = some a ∧ ¬ Way l j f q ∧ x = a.2.2))
    (J := fun A W' => A.n = 39 ∧ A.defers = [] ∧ Ext W W' ∧ ∃ x : Int, A.tmps.get 7 = some (.int .i64 x) ∧ MinW l f q x)
    (Rt := fun _ _ => False) (k := l.length) ?_ ?_ ?_ ?_
  · exact ⟨rfl, rfl, by simp, by simp, by simp, .refl _ _, 0, 0, false, by simp, by omega, by simp, by simp, by simp, fun j a hj => by omega, fun h => by cases h⟩
  · rintro k ⟨tm, n, ds⟩ W3 ⟨hn, hd, h0, h1, h2, e3, i, x, fd, hk, hi, h9, h7, h8, hlow, hatt⟩ Q' hJ hRt hI
    simp only at hn hd h0 h1 h2
    subst hn; subst hd
    simp only at h9 h7 h8
    try simp only [wpK_assoc]
    refine wpK_reg (fun R hR => by simp [h0, h9, len_slice und92]; exact hR) ?_
    by_cases hlt : i < l.length
    case neg =>
      have e : i = l.length := by omega
      try simp only [wpK_assoc]
      first | refine wpK_onF (by simp [hlt]) ?_ | refine wpK_out (by simp [hlt]) ?_ | refine wpK_condF (by simp [hlt]) ?_ | refine wpK_endF (by simp [hlt]) (wpK_skip ?_) | refine wpK_endF (by simp [hlt]) ?_
      obtain ⟨j, a, g1, g2⟩ := spans_sep hL hsp (f := f) (q := q) hf hq hne
      have g3 := hlow j a (by have := (List.getElem?_eq_some_iff.1 g1).1; omega) g1 g2
      exact hJ _ _ ⟨rfl, rfl, e3, x, by simp [h7], fun j a hj hn => (hlow j a (by have := (List.getElem?_eq_some_iff.1 hj).1; omega) hj hn).2, hatt g3.1⟩
    try simp only [wpK_assoc]
    first | refine wpK_onT (by simp [hlt]) ?_ | refine wpK_outT (by simp [hlt]) ?_ | refine wpK_condT (by simp [hlt]) ?_ | refine wpK_endT (by simp [hlt]) ?_
    have ha : l[i]? = some l[i] := List.getElem?_eq_getElem hlt
    generalize l[i] = a at ha
    obtain ⟨a1, a2, a3⟩ := a
    obtain ⟨b, o, hAv, q1, q2, q3⟩ := hA i _ ha
    have eV := indexAddr_tri (T := T0) und92 sz97 (b := b) (o := o) (c := cv) (k := .i64) hlt
    rw [← hAv] at eV
    have lw : ∀ W', Ext W W' → aLoadVar T0 W' 2 b (o + 3 * i + 2) = some (.int .i64 a3) := fun W' he => load_of und2 rfl (q3.ext he)
    have hk1 : k - 1 < k ∧ k - 1 = l.length - (i + 1) ∧ i + 1 ≤ l.length := by clear hatt hlow; omega
    have hsi : IntKind.i64.wrap ((i : Int) + 1) = ((i + 1 : Nat) : Int) := i64_succ i (by clear hatt hlow; omega)
    have hsw := side_wp (x := f) (wo := (i : Int)) (h'.ext e3) (by clear hatt hlow; omega) hL (by clear hatt hlow; omega) hf
    have fin : ∀ (A' : AAct) (W' : AW) (x' : Int) (fd' : Bool), A'.n = 39 ∧ A'.defers = [] ∧ A'.tmps.get 0 = some (.slice Av l.length cv) ∧ A'.tmps.get 1 = some (.int .i64 (f : Int)) ∧ A'.tmps.get 2 = some (.int .i64 (q : Int)) → Ext W W' → A'.tmps.get 9 = some (.int .i64 ((i + 1 : Nat) : Int)) → A'.tmps.get 7 = some (.int .i64 x') → A'.tmps.get 8 = some (.bool fd') → (∀ (j : Nat) a, j < i + 1 → l[j]? = some a → ¬ Way l j f q → fd' = true ∧ x' ≤ a.2.2) → (fd' = true → ∃ (j : Nat) (a : Bra), l[j]? = some a ∧ ¬ Way l j f q ∧ x' = a.2.2) → Q' .normal A' W' := fun A' W' x' fd' hG g1 g2 g3 g4 g5 g6 => hI (k - 1) _ _ hk1.1 ⟨hG.1, hG.2.1, hG.2.2.1, hG.2.2.2.1, hG.2.2.2.2, g1, i + 1, x', fd', hk1.2.1, hk1.2.2, g2, g3, g4, g5, g6⟩
    have hlen : ∀ m : Nat, m ≤ l.length + 1 → m < 4611686018427387904 := by clear hatt hlow; omega
    have hrb : ∃ rb : Bool, (rb = true ↔ Way l i f q) := by
      by_cases e : Way l i f q
      · exact ⟨true, by simp [e]⟩
      · exact ⟨false, by simp [e]⟩
    obtain ⟨rb, hrb⟩ := hrb
    refine wpK_block ?_
    try simp only [wpK_assoc]
    refine wpK_x3 (fun R hR => by
      simp [h0, h1, h9, aEnter, fun72, short_other, aCallV]; rw [callS_none]
      refine hsw.mono ?_
      rintro _ W4 ⟨e4, S, hS1, hS2, hS3, hS4⟩
      have hS1' := hS1
      obtain ⟨As, cs, rfl, hS1⟩ := hS1
      simp [h2, aEnter, fun50, short_other, aCallV]; rw [callS_none]
      refine (has50_wp hS1' (hlen _ hS4) q).mono ?_
      rintro _ W9 ⟨e9, rfl⟩; subst W9
      have hd : decide ((q : Int) ∈ S) = rb := by
        cases rb with
        | true => exact decide_eq_true ((hS3 q).2 (hrb.1 rfl))
        | false => exact decide_eq_false (fun hm => by have := hrb.2 ((hS3 q).1 hm); cases this)
      rw [hd]
      simp
      exact hR As S cs W4 e4) ?_
    rintro As S cs W4 e34
    have e4 := e3.trans e34
    cases rb with
    | true =>
      have hway := hrb.1 rfl
      try simp only [wpK_assoc]
      first | refine wpK_onT (by simp []) ?_ | refine wpK_outT (by simp []) ?_ | refine wpK_condT (by simp []) ?_ | refine wpK_endT (by simp []) ?_
      simp only [behind_exit, leaves_exit, if_true, behind_normal]
      try simp only [wpK_assoc]
      refine wpK_reg1 (fun R hR => by simp [h9, hsi]; exact hR) ?_
      exact fin _ _ x fd (by exact ⟨rfl, rfl, by simp [h0, h1, h2], by simp [h0, h1, h2], by simp [h0, h1, h2]⟩) e4 (by simp) (by simp [h7]) (by simp [h8]) (fun j b hj hb hn => by
        by_cases e : j = i
        · subst e; exact absurd hway hn
        · exact hlow j b (by clear hatt hlow; omega) hb hn) hatt
    | false =>
      have hway : ¬ Way l i f q := fun g => by have := hrb.2 g; cases this
      try simp only [wpK_assoc]
      first | refine wpK_onF (by simp []) ?_ | refine wpK_out (by simp []) ?_ | refine wpK_condF (by simp []) ?_ | refine wpK_endF (by simp []) (wpK_skip ?_) | refine wpK_endF (by simp []) ?_
      have new : ∀ (j : Nat) (b : Bra), j < i + 1 → l[j]? = some b → ¬ Way l j f q → (fd = true ∧ x ≤ b.2.2) ∨ b = (a1, a2, a3) := fun j b hj hb hn => by
        by_cases e : j = i
        · subst e; rw [ha] at hb; cases hb; exact .inr rfl
        · exact .inl (hlow j b (by clear hatt hlow; omega) hb hn)
      cases fd with
      | false =>
        try simp only [wpK_assoc]
        refine wpK_reg (fun R hR => by simp [h0, h7, h8, h9, undef]; exact hR) ?_
        try simp only [wpK_assoc]
        first | refine wpK_onT (by simp []) ?_ | refine wpK_outT (by simp []) ?_ | refine wpK_condT (by simp []) ?_ | refine wpK_endT (by simp []) ?_
        try simp only [wpK_assoc]
        refine wpK_reg1 (fun R hR => by simp [h0, h9, eV, lw, e4, field97]; exact hR) ?_
        try simp only [behind_normal]
        try simp only [wpK_assoc]
        refine wpK_reg1 (fun R hR => by simp [h9, hsi]; exact hR) ?_
        exact fin _ _ a3 true (by exact ⟨rfl, rfl, by simp [h0, h1, h2], by simp [h0, h1, h2], by simp [h0, h1, h2]⟩) e4 (by simp) (by simp) (by simp) (fun j b hj hb hn => by
          rcases new j b hj hb hn with g | rfl
          · exact absurd g.1 (by simp)
          · exact ⟨rfl, Int.le_refl _⟩) (fun _ => ⟨i, _, ha, hway, rfl⟩)
      | true =>
        by_cases c : a3 < x
        · try simp only [wpK_assoc]
          refine wpK_reg (fun R hR => by simp [h0, h7, h8, h9, eV, lw, e4, field97, c]; exact hR) ?_
          try simp only [wpK_assoc]
          first | refine wpK_onT (by simp []) ?_ | refine wpK_outT (by simp []) ?_ | refine wpK_condT (by simp []) ?_ | refine wpK_endT (by simp []) ?_
          try simp only [wpK_assoc]
          refine wpK_reg1 (fun R hR => by simp [h0, h9, eV, lw, e4, field97]; exact hR) ?_
          try simp only [behind_normal]
          try simp only [wpK_assoc]
          refine wpK_reg1 (fun R hR => by simp [h9, hsi]; exact hR) ?_
          exact fin _ _ a3 true (by exact ⟨rfl, rfl, by simp [h0, h1, h2], by simp [h0, h1, h2], by simp [h0, h1, h2]⟩) e4 (by simp) (by simp) (by simp) (fun j b hj hb hn => by
            rcases new j b hj hb hn with g | rfl
            · exact ⟨rfl, by have := g.2; omega⟩
            · exact ⟨rfl, Int.le_refl _⟩) (fun _ => ⟨i, _, ha, hway, rfl⟩)
        · try simp only [wpK_assoc]
          refine wpK_reg (fun R hR => by simp [h0, h7, h8, h9, eV, lw, e4, field97, c]; exact hR) ?_
          refine wpK_endF (by simp) (wpK_skip ?_)
          try simp only [behind_normal]
          try simp only [wpK_assoc]
          refine wpK_reg1 (fun R hR => by simp [h9, hsi]; exact hR) ?_
          exact fin _ _ x true (by exact ⟨rfl, rfl, by simp [h0, h1, h2], by simp [h0, h1, h2], by simp [h0, h1, h2]⟩) e4 (by simp) (by simp [h7]) (by simp [h8]) (fun j b hj hb hn => by
            rcases new j b hj hb hn with g | rfl
            · exact g
            · exact ⟨rfl, by simp only; omega⟩) hatt
  · rintro A' W' hf'; exact hf'.elim
  · rintro ⟨tm, n, ds⟩ W3 ⟨hn, hd, e3, x, h7, hx⟩
    simp only at hn hd h7
    subst hn; subst hd
    try simp only [wpK_assoc]
    refine wpK_reg (fun R hR => by simp [h7]; exact hR) ?_
    exact wpK_ret ⟨.inr rfl, rfl, [.int .i64 x], by simp, e3, x, rfl, hx⟩

end Go.Proofs.YtkipaffjmcmclaaDoor

open Go Go.Eng
namespace Go.Proofs.YtkipaffjmcmclaaDoor
attribute [local congr] undef_congr WpK.congr WpS.congr WpL.congr WpC.congr WpF.congr gotS.congr callS.congr nextS.congr wantS.congr condS.congr
attribute [local irreducible] WpK
attribute [local simp] WpDr_nil WpDr_cons atS_some dwantS_true dwantS_false kindS_light kindS_float kindS_heavy lightS_value floatS_some heavyS_value heavyS_skip heavyS_enter dcallS_some doneS_eq
  isLight isFloat isPlain dLook testBit_dec dChain dLights_nil dLights_skip dLights_one dLight_nil dLight_cons dFreshes_nil dFreshes_one oneF_none oneF_some dFresh_nil dFresh_cons oneL_some oneW_true oneW_false sameV_value dPut dMay valEq arrEq listEq List.getElem?_cons Tr.get_nil dEnd
attribute [local simp] WpS_nil WpS_cons isDefer undef_false wantS_true wantS_false nextS_value nextS_skip nextS_enter callS_some gotS_some aWanted aOp aEvalF aEval opMove opAssign opPick aVal flat flat1 AAct.put opBinOp opConvert opIndex Tr.get_set Tr.get_lay aBin aResults tupled
  aCall aVals aCallB blt_dec ble_dec beq_dec aBinI_add aBinI_sub aBinI_lss aBinI_leq aBinI_gtr aBinI_geq aBinI_eql aBinI_neq index_str len_str len_slice Nat.beq_refl und2 und3 und4 und5 und39 und76 und82 und116 und22 und29 und25 und33 und46 und43 und49 und111 und113 field152 field156_0 field156_1 field156_2 field156_3 field156_4
  field78 field106 field24 field31 field27 field35 field108 field109 opBox opLoad opFieldAddr opIndexAddr acells aAddr opExtract aExtract opUnOp opAlloc opStore opMakeInterface opNilCheck opBuild aParts opBuildSlice aValW
set_option maxHeartbeats 4000000
set_option linter.unusedSimpArgs false
set_option linter.unusedVariables false
/-! ### IsTree of the reference -/
theorem cut_least {W : AW} {v : Value} {P : Nat} {lk : List Tri} (h : TriIn W v lk) (hok : planOk P (arcsQ lk) = true) {s t : Nat} (hst : two? (s : Int) (t : Int) (P : Int) = true) (hT : tabsIn T0 T0.tabs W = true) (h0 : 0 < W.next) :
    ∃ (S : Nat) (c : Int), S < 2 ^ P ∧ isCut s t S ∧ c = capQ S (linksQ lk) ∧ MinCut (linksQ lk) s t c ∧ ∀ T, isCut s t T → c ≤ capQ T (linksQ lk) ∧ (c = capQ T (linksQ lk) → ∀ q, S.testBit q = true → T.testBit q = true) := by
  have hin := links_in hok
  obtain ⟨hP2, hP24, _⟩ := hin.size
  have h2 := hst
  simp only [two?, Bool.and_eq_true, decide_eq_true_eq] at h2
  obtain ⟨_, _, _, _, c, rm, lv, _, hF⟩ := least_ok (P := (P : Int)) h hin hst hT h0
  obtain ⟨nb, nlt⟩ := near_in hin (by omega) hF
  obtain ⟨d1, d2, d3, d4⟩ := filled_capQ hin (by omega) (by omega) hF
  exact ⟨nearS lv 24, c, nlt, ⟨d3, d4⟩, d2, hF.minCut hin (by omega) (by omega), fun T hc => ⟨(d1 T hc.1 hc.2).1, fun he q hq => by
    rw [nearS_bit] at hq
    simp only [Bool.and_eq_true, decide_eq_true_eq] at hq
    exact (d1 T hc.1 hc.2).2 he q hq.1 hq.2⟩⟩
theorem refIsTree_wp {W : AW} {v bv : Value} {P : Nat} {lk : List Tri} {l : List Bra} (h : TriIn W v lk) (hok : planOk P (arcsQ lk) = true) (h100 : lk.length ≤ 100) (hP20 : P ≤ 20) (hb : TriIn W bv l) (hl : l.length ≤ 1000) (hT : tabsIn T0 T0.tabs W = true) (h0 : 0 < W.next) :
    WpF T0 44 [.agg ⟨[.int .i64 P, v]⟩, bv] W (fun u W' => Ext W W' ∧ ((TreeB P (linksQ lk) l ∧ u = .bool true) ∨ (¬ TreeB P (linksQ lk) l ∧ u = .bool false))) := by
  have hb' := hb
  obtain ⟨Ab, cb, rfl, hA⟩ := hb
  have hPin := links_in hok
  obtain ⟨hP2, hP24, _⟩ := hPin.size
  refine wpF fun44 rfl ?_
  obtain ⟨W0, hW0, hE0, hV0⟩ : ∃ W0, W0 = W.newCells 27 [.int .i64 P, v] ∧ Ext W W0 ∧ Var W0 W.next 27 [.int .i64 P, v] := ⟨_, rfl, .newCells _ _ _, Var.new _ _ _⟩
  have hc := refCheckB_wp (P : Int) (h.ext hE0)
  rw [chk, hok] at hc
  have l27 : ∀ W', Ext W0 W' → aLoadVar T0 W' 27 W.next 0 = some (.agg ⟨[.int .i64 P, v]⟩) := fun W' h => load27 (hV0.ext h)
  have lP : ∀ W', Ext W0 W' → aLoadVar T0 W' 3 W.next 0 = some (.int .i64 P) := fun W' h => (hV0.ext h).load1 (T := T0) und3 rfl (j := 0) (v := .int .i64 P) rfl
  have e00 : Ext W0 W0 := .refl _ _
  have hT0 := tabs_ext hT h0 hE0
  have h00 : 0 < W0.next := Nat.lt_of_lt_of_le h0 hE0.1
  have wP : IntKind.i64.wrap ((P : Int) - 1) = (P : Int) - 1 := IntWalk.i64_in _ (by omega)
  try simp only [wpK_assoc]
  refine wpK_reg (fun R hR => by simp [← hW0]; exact hR) ?_
  by_cases c1 : (l.length : Int) = (P : Int) - 1
  case neg =>
    try simp only [wpK_assoc]
    refine wpK_x0 (fun R hR => by
        simp [l27, e00, aEnter, fun15, short_other, aCallV]; rw [callS_none]
        refine (hc).mono ?_
        rintro _ W1 ⟨e1, rfl⟩
        simp [lP, e1, len_slice und92, wP, c1, undef]; exact hR W1 e1) ?_
    rintro W1 e1
    try simp only [wpK_assoc]
    first | refine wpK_onT (by simp []) ?_ | refine wpK_outT (by simp []) ?_ | refine wpK_condT (by simp []) ?_ | refine wpK_endT (by simp []) ?_
    try simp only [wpK_assoc]
    refine wpK_reg (fun R hR => by simp []; exact hR) ?_
    exact wpK_ret ⟨.inr rfl, rfl, [.bool false], by simp, hE0.trans e1, .inr ⟨fun ht => by have := ht.1; omega, rfl⟩⟩
  by_cases hj : joinsB l
  case neg =>
    try simp only [wpK_assoc]
    refine wpK_x0 (fun R hR => by
      simp [l27, e00, aEnter, fun15, short_other, aCallV]; rw [callS_none]
      refine hc.mono ?_
      rintro _ W1 ⟨e1, rfl⟩
      simp [lP, e1, len_slice und92, wP, c1, aEnter, fun48, short_other, aCallV]; rw [callS_none]
      refine (refJoins_wp (hb'.ext (hE0.trans e1)) hl).mono ?_
      rintro u W2 ⟨e2, ⟨g, _⟩ | ⟨_, rfl⟩⟩
      · exact absurd g hj
      · simp; exact hR W2 (e1.trans e2)) ?_
    rintro W2 e2
    try simp only [wpK_assoc]
    first | refine wpK_onT (by simp []) ?_ | refine wpK_outT (by simp []) ?_ | refine wpK_condT (by simp []) ?_ | refine wpK_endT (by simp []) ?_
    try simp only [wpK_assoc]
    refine wpK_reg (fun R hR => by simp []; exact hR) ?_
    exact wpK_ret ⟨.inr rfl, rfl, [.bool false], by simp, hE0.trans e2, .inr ⟨fun ht => hj ht.2.1, rfl⟩⟩
  try simp only [wpK_assoc]
  refine wpK_x0 (fun R hR => by
    simp [l27, e00, aEnter, fun15, short_other, aCallV]; rw [callS_none]
    refine hc.mono ?_
    rintro _ W1 ⟨e1, rfl⟩
    simp [lP, e1, len_slice und92, wP, c1, aEnter, fun48, short_other, aCallV]; rw [callS_none]
    refine (refJoins_wp (hb'.ext (hE0.trans e1)) hl).mono ?_
    rintro u W2 ⟨e2, ⟨_, rfl⟩ | ⟨g, _⟩⟩
    · simp; exact hR W2 (e1.trans e2)
    · exact absurd hj g) ?_
  rintro W2 e2
  try simp only [wpK_assoc]
  first | refine wpK_onF (by simp []) ?_ | refine wpK_out (by simp []) ?_ | refine wpK_condF (by simp []) ?_ | refine wpK_endF (by simp []) (wpK_skip ?_) | refine wpK_endF (by simp []) ?_
  have hj' := hj
  obtain ⟨hj1, hj2, hL, hsp⟩ := hj
  have hlP : l.length + 1 = P := by omega
  -- both
  have hbw := fun (W' : AW) (h' : TriIn W' v lk) => both_wp (P := (P : Int)) h' (by omega)
  try simp only [wpK_assoc]
  refine wpK_x2 (fun R hR => by
    simp [l27, e2, aEnter, fun43, short_other, aCallV]; rw [callS_none]
    refine (hbw W2 (h.ext (hE0.trans e2))).mono ?_
    rintro _ W3 ⟨e3, v', rfl, hG⟩
    obtain ⟨av, cv, hvs⟩ := hG.len
    obtain ⟨W4, s1, s2, hE4, hVx⟩ := storeVar_new (T := T0) (W := W3) (t := 24) (v := .agg ⟨[.int .i64 P, v']⟩) (z := [.int .i64 0, .slice none 0 0]) inf24 (by rw [is24]; rfl) (by rw [is24]; rfl) (by rw [hvs]; rfl)
    simp [zero24, s1]
    exact hR v' W3 W4 (And.intro ((e2.trans e3).trans hE4) (And.intro hVx ((hG.tri).ext hE4)))) ?_
  rintro v' W3 W4 ⟨e4, hVx, hTri⟩
  clear hbw
  generalize W3.next = px at hVx
  have l24 : ∀ W', Ext W4 W' → aLoadVar T0 W' 24 px 0 = some (.agg ⟨[.int .i64 P, v']⟩) := fun W' h => load24 (hVx.ext h)
  have hokB := both_ok hok h100
  have vvv := tri_eq hTri
  try simp only [wpK_assoc]
  refine wpK_reg (fun R hR => by simp []; exact hR) ?_
  try simp only [wpK_assoc]
  refine wpK_while (I := fun k A W' => A.n = 69 ∧ A.defers = [] ∧ A.tmps.get 1 = some (.slice Ab l.length cb) ∧ A.tmps.get 5 = some (.pointer (some ⟨px, 0, none⟩)) ∧ Ext W4 W' ∧ ∃ i : Nat, k = l.length - i ∧ i ≤ l.length ∧ A.tmps.get 6 = some (.int .i64 i) ∧ ∀ (j : Nat) a, j < i → l[j]? = some a → ∃ x, MinCut (linksQ lk) a.1.toNat a.2.1.toNat x ∧ a.2.2 = x ∧ capQ (roundsB l j l.length (1 <<< a.1.toNat)) (linksQ lk) = x)
    (J := fun A W' => A.n = 69 ∧ A.defers = [] ∧ Ext W4 W' ∧ TreeB P (linksQ lk) l)
    (Rt := fun A W' => A.defers = [] ∧ A.tmps.get 4 = some (.bool false) ∧ Ext W4 W' ∧ ¬ TreeB P (linksQ lk) l) (k := l.length) ?_ ?_ ?_ ?_
  · exact ⟨rfl, rfl, by simp, by simp, .refl _ _, 0, by simp, by omega, by simp, fun j a hj => by omega⟩
  · rintro k ⟨tm, n, ds⟩ W5 ⟨hn, hd, h1, h5, e5, i, hk, hi, h6, hgood⟩ Q' hJ hRt hI
    simp only at hn hd h1 h5
    subst hn; subst hd
    simp only at h6
    try simp only [wpK_assoc]
    refine wpK_reg (fun R hR => by simp [h1, h6, len_slice und92]; exact hR) ?_
    by_cases hlt : i < l.length
    case neg =>
      try simp only [wpK_assoc]
      first | refine wpK_onF (by simp [hlt]) ?_ | refine wpK_out (by simp [hlt]) ?_ | refine wpK_condF (by simp [hlt]) ?_ | refine wpK_endF (by simp [hlt]) (wpK_skip ?_) | refine wpK_endF (by simp [hlt]) ?_
      exact hJ _ _ ⟨rfl, rfl, e5, hlP, hj', fun j a hj => hgood j a (by have := (List.getElem?_eq_some_iff.1 hj).1; omega) hj⟩
    try simp only [wpK_assoc]
    first | refine wpK_onT (by simp [hlt]) ?_ | refine wpK_outT (by simp [hlt]) ?_ | refine wpK_condT (by simp [hlt]) ?_ | refine wpK_endT (by simp [hlt]) ?_
    have ha : l[i]? = some l[i] := List.getElem?_eq_getElem hlt
    have hmem : l[i] ∈ l := List.getElem_mem hlt
    generalize l[i] = a at ha hmem
    have hbr := hL a hmem
    have hne := spans_two hL hsp a hmem
    obtain ⟨a1, a2, a3⟩ := a
    simp only at hbr hne
    obtain ⟨x, rfl⟩ : ∃ x : Nat, a1 = x := ⟨a1.toNat, by omega⟩
    obtain ⟨y, rfl⟩ : ∃ y : Nat, a2 = y := ⟨a2.toNat, by omega⟩
    obtain ⟨b, o, hAv, q1, q2, q3⟩ := hA i _ ha
    have eV := indexAddr_tri (T := T0) und92 sz97 (b := b) (o := o) (c := cb) (k := .i64) hlt
    rw [← hAv] at eV
    have e04 := hE0.trans e4
    have l1 : ∀ W', Ext W4 W' → aLoadVar T0 W' 3 b (o + 3 * i) = some (.int .i64 x) := fun W' he => load_of und3 rfl (q1.ext (e04.trans he))
    have l2 : ∀ W', Ext W4 W' → aLoadVar T0 W' 3 b (o + 3 * i + 1) = some (.int .i64 y) := fun W' he => load_of und3 rfl (q2.ext (e04.trans he))
    have lw : ∀ W', Ext W4 W' → aLoadVar T0 W' 2 b (o + 3 * i + 2) = some (.int .i64 a3) := fun W' he => load_of und2 rfl (q3.ext (e04.trans he))
    have hsi : IntKind.i64.wrap ((i : Int) + 1) = ((i + 1 : Nat) : Int) := i64_succ i (by omega)
    have hst : two? (x : Int) (y : Int) (P : Int) = true := by simp [two?]; omega
    obtain ⟨S, xv, hS1, hS2, hS3, hmc, hS4⟩ := cut_least h hok hst hT h0
    have hls := least32_wp (x := xv) (hTri.ext e5) hokB hP20 (show x < P by omega) (show y < P by omega) hS1 hS2 (by rw [capQ_both]; exact hS3) (fun T hc => by rw [capQ_both]; exact hS4 T hc)
    have hsw := fun (W' : AW) (he : Ext W4 W') => side_wp (x := x) (wo := (i : Int)) (hb'.ext (e04.trans he)) hl hL (by omega) (by omega)
    have hrw := fun q : Nat => reach_way (wo := (i : Int)) hL (f := x) (by omega) (Nat.le_refl _) q
    have hspec : (∃ x', MinCut (linksQ lk) x y x' ∧ a3 = x' ∧ capQ (roundsB l i l.length (1 <<< x)) (linksQ lk) = x') ↔ a3 = xv ∧ capQ (roundsB l i l.length (1 <<< x)) (linksQ lk) = xv := by
      constructor
      · rintro ⟨x', g1, g2, g3⟩
        have := g1.one hmc
        omega
      · rintro ⟨g1, g2⟩; exact ⟨xv, hmc, g1, g2⟩
    have hbad : ¬ (a3 = xv ∧ capQ (roundsB l i l.length (1 <<< x)) (linksQ lk) = xv) → ¬ TreeB P (linksQ lk) l := fun hn ht => hn (hspec.1 (by
      have := ht.2.2 i _ ha
      simpa using this))
    have hnew : (a3 = xv ∧ capQ (roundsB l i l.length (1 <<< x)) (linksQ lk) = xv) → ∃ x', MinCut (linksQ lk) ((x : Int)).toNat ((y : Int)).toNat x' ∧ a3 = x' ∧ capQ (roundsB l i l.length (1 <<< ((x : Int)).toNat)) (linksQ lk) = x' := by
      intro g; simpa using hspec.2 g
    have hk1 : k - 1 < k ∧ k - 1 = l.length - (i + 1) ∧ i + 1 ≤ l.length := by clear hgood hspec hbad hnew hmc hS4 hS2; omega
    have hlen : ∀ m : Nat, m ≤ l.length + 1 → m < 4611686018427387904 := by clear hgood hspec hbad hnew hmc hS4 hS2 hsw; omega
    refine wpK_block ?_
    try simp only [wpK_assoc]
    refine wpK_d1 (wr := Tr.nil |>.set 34 0 |>.set 35 1 |>.set 36 2 |>.set 37 3 |>.set 38 4 |>.set 39 5 |>.set 40 6 |>.set 41 7 |>.set 42 8 |>.set 43 9 |>.set 44 10 |>.set 45 11 |>.set 33 12 |>.set 46 13 |>.set 47 14 |>.set 7 15 |>.set 8 16) (bits := Tr.nil.lay 0 [0, 0, 0, 6, 14, 30, 0, 0, 192, 448, 960, 2047, 4095, 8191, 8191, 16383, 65535]) (ord := [0, 1, 2, 3, 4, 5, 6, 7, 8, 9, 10, 11, 12, 13, 14, 15, 16]) (by kernel_rfl) (by kernel_rfl) (by kernel_rfl) (fun G hG => by
      simp [h1, h5, h6, eV, l1, l2, l24, e5, field97, aEnter, fun32, short_other, aCallV]
      rw [dcallS_none]
      refine hls.mono ?_
      rintro _ W6 ⟨e6, sl, rfl, _⟩
      simp [h1, h5, h6, eV, l1, l2, l24, e5, e5.trans e6, e6.1, vvv, field97]
      exact hG sl W6 e6) ?_
    rintro sl W6 e56
    have e6 := e5.trans e56
    by_cases c2 : a3 = xv
    case neg =>
      try simp only [wpK_assoc]
      refine wpK_dn (wr := Tr.nil |>.set 48 0 |>.set 49 1 |>.set 50 2 |>.set 51 3 |>.set 52 4 |>.set 53 5 |>.set 54 6 |>.set 55 7 |>.set 56 8 |>.set 57 9 |>.set 58 10 |>.set 59 11 |>.set 60 12 |>.set 61 13 |>.set 62 14 |>.set 63 15 |>.set 64 16 |>.set 65 17 |>.set 66 18 |>.set 67 19 |>.set 68 20) (bits := Tr.nil.lay 0 [0, 0, 3, 7, 15, 0, 63, 127, 255, 255, 255, 255, 255, 6399, 14591, 30975, 65279, 131071, 255, 524287, 1048575]) (ord := [0, 1, 2, 3, 4, 5, 6, 7, 8, 9, 10, 11, 12, 13, 14, 15, 16, 17, 18, 19, 20]) (by kernel_rfl) (by kernel_rfl) (by kernel_rfl) (fun G hG => by
        simp [h1, h5, h6, eV, l1, l2, lw, l24, e6, c2, field97, undef]
        exact hG) ?_
      try simp only [wpK_assoc]
      first | refine wpK_onT (by simp []) ?_ | refine wpK_outT (by simp []) ?_ | refine wpK_condT (by simp []) ?_ | refine wpK_endT (by simp []) ?_
      try simp only [wpK_assoc]
      refine wpK_reg (fun R hR => by simp []; exact hR) ?_
      exact wpK_ret (hRt _ _ ⟨rfl, by simp, e6, hbad (fun g => c2 g.1)⟩)
    rw [show ((x : Int)).toNat = x from rfl] at hnew
    generalize hR0 : roundsB l i l.length (1 <<< x) = R0 at hrw hspec hbad hnew
    have hrc := fun (W' : AW) (sv : Value) (S' : List Int) (he : Ext W4 W') (h1 : IntL W' sv S') (h2 : S'.length < 4611686018427387904) (h3 : ∀ y, y ∈ S' ↔ Way l i x y) => refCap_wp (P := (P : Int)) (hTri.ext he) h1 h2 hokB R0 (fun f _ => by
      by_cases e : (f : Int) ∈ S'
      · rw [decide_eq_true e, (hrw f).2 ((h3 f).1 e)]
      · rw [decide_eq_false e]
        cases hb : R0.testBit f with
        | false => rfl
        | true => exact absurd ((h3 f).2 ((hrw f).1 hb)) e)
    simp only [capQ_both] at hrc
    by_cases c3 : capQ R0 (linksQ lk) = xv
    · try simp only [wpK_assoc]
      refine wpK_d1 (wr := Tr.nil |>.set 48 0 |>.set 49 1 |>.set 50 2 |>.set 51 3 |>.set 52 4 |>.set 53 5 |>.set 54 6 |>.set 55 7 |>.set 56 8 |>.set 57 9 |>.set 58 10 |>.set 59 11 |>.set 60 12 |>.set 61 13 |>.set 62 14 |>.set 63 15 |>.set 64 16 |>.set 65 17 |>.set 66 18 |>.set 67 19 |>.set 68 20) (bits := Tr.nil.lay 0 [0, 0, 3, 7, 15, 0, 63, 127, 255, 255, 255, 255, 255, 6399, 14591, 30975, 65279, 131071, 255, 524287, 1048575]) (ord := [0, 1, 2, 3, 4, 5, 6, 7, 8, 9, 10, 11, 12, 13, 14, 15, 16, 17, 18, 19, 20]) (by kernel_rfl) (by kernel_rfl) (by kernel_rfl) (fun G hG => by
        simp [h1, h5, h6, eV, l1, l2, lw, l24, e6, c2, field97, aEnter, fun72, short_other, aCallV]
        rw [dcallS_none]
        refine (hsw W6 e6).mono ?_
        rintro sv W7 ⟨e7, S', g1, g2, g3, g4⟩
        simp [h1, h5, h6, eV, l1, l2, lw, l24, e6, e6.trans e7, e7.1, vvv, c2, field97, aEnter, fun36, short_other, aCallV]
        rw [dcallS_none]
        refine (hrc W7 sv S' (e6.trans e7) g1 (hlen _ g4) g3).mono ?_
        rintro _ W8 ⟨e8, rfl⟩
        simp [h1, h5, h6, eV, l1, l2, lw, l24, e6, (e6.trans e7).trans e8, e6.trans e7, e7.1, e8.1, (e7.trans e8).1, vvv, c2, c3, field97]
        exact hG sv W8 (e7.trans e8)) ?_
      rintro sv W8 e8
      try simp only [wpK_assoc]
      first | refine wpK_onF (by simp []) ?_ | refine wpK_out (by simp []) ?_ | refine wpK_condF (by simp []) ?_ | refine wpK_endF (by simp []) (wpK_skip ?_) | refine wpK_endF (by simp []) ?_
      try simp only [wpK_assoc]
      refine wpK_reg1 (fun R hR => by simp [h6, hsi]; exact hR) ?_
      refine hI (k - 1) _ _ hk1.1 ⟨rfl, rfl, by simp [h1, h5], by simp [h1, h5], e6.trans e8, i + 1, hk1.2.1, hk1.2.2, by simp, fun j b hj hb => ?_⟩
      by_cases e : j = i
      · subst e; rw [ha] at hb; cases hb
        have := hnew ⟨c2, c3⟩
        rw [← hR0] at this
        exact this
      · exact hgood j b (by omega) hb
    · try simp only [wpK_assoc]
      refine wpK_d1 (wr := Tr.nil |>.set 48 0 |>.set 49 1 |>.set 50 2 |>.set 51 3 |>.set 52 4 |>.set 53 5 |>.set 54 6 |>.set 55 7 |>.set 56 8 |>.set 57 9 |>.set 58 10 |>.set 59 11 |>.set 60 12 |>.set 61 13 |>.set 62 14 |>.set 63 15 |>.set 64 16 |>.set 65 17 |>.set 66 18 |>.set 67 19 |>.set 68 20) (bits := Tr.nil.lay 0 [0, 0, 3, 7, 15, 0, 63, 127, 255, 255, 255, 255, 255, 6399, 14591, 30975, 65279, 131071, 255, 524287, 1048575]) (ord := [0, 1, 2, 3, 4, 5, 6, 7, 8, 9, 10, 11, 12, 13, 14, 15, 16, 17, 18, 19, 20]) (by kernel_rfl) (by kernel_rfl) (by kernel_rfl) (fun G hG => by
        simp [h1, h5, h6, eV, l1, l2, lw, l24, e6, c2, field97, aEnter, fun72, short_other, aCallV]
        rw [dcallS_none]
        refine (hsw W6 e6).mono ?_
        rintro sv W7 ⟨e7, S', g1, g2, g3, g4⟩
        simp [h1, h5, h6, eV, l1, l2, lw, l24, e6, e6.trans e7, e7.1, vvv, c2, field97, aEnter, fun36, short_other, aCallV]
        rw [dcallS_none]
        refine (hrc W7 sv S' (e6.trans e7) g1 (hlen _ g4) g3).mono ?_
        rintro _ W8 ⟨e8, rfl⟩
        simp [h1, h5, h6, eV, l1, l2, lw, l24, e6, (e6.trans e7).trans e8, e6.trans e7, e7.1, e8.1, (e7.trans e8).1, vvv, c2, c3, field97]
        exact hG sv W8 (e7.trans e8)) ?_
      rintro sv W8 e8
      try simp only [wpK_assoc]
      first | refine wpK_onT (by simp []) ?_ | refine wpK_outT (by simp []) ?_ | refine wpK_condT (by simp []) ?_ | refine wpK_endT (by simp []) ?_
      try simp only [wpK_assoc]
      refine wpK_reg (fun R hR => by simp []; exact hR) ?_
      exact wpK_ret (hRt _ _ ⟨rfl, by simp, e6.trans e8, hbad (fun g => c3 g.2)⟩)
  · rintro A' W' ⟨g1, g2, g3, g4⟩
    exact ⟨.inr rfl, g1, [.bool false], by simp [g2], (hE0.trans e4).trans g3, .inr ⟨g4, rfl⟩⟩
  · rintro ⟨tm, n, ds⟩ W3 ⟨hn, hd, e3, ht⟩
    simp only at hn hd
    subst hn; subst hd
    try simp only [wpK_assoc]
    refine wpK_reg (fun R hR => by simp []; exact hR) ?_
    exact wpK_ret ⟨.inr rfl, rfl, [.bool true], by simp, (hE0.trans e4).trans e3, .inl ⟨ht, rfl⟩⟩

end Go.Proofs.YtkipaffjmcmclaaDoor

open Go Go.Eng
namespace Go.Proofs.YtkipaffjmcmclaaDoor
attribute [local congr] undef_congr WpK.congr WpS.congr WpL.congr WpC.congr WpF.congr gotS.congr callS.congr nextS.congr wantS.congr condS.congr
attribute [local irreducible] WpK
attribute [local simp] WpDr_nil WpDr_cons atS_some dwantS_true dwantS_false kindS_light kindS_float kindS_heavy lightS_value floatS_some heavyS_value heavyS_skip heavyS_enter dcallS_some doneS_eq
  isLight isFloat isPlain dLook testBit_dec dChain dLights_nil dLights_skip dLights_one dLight_nil dLight_cons dFreshes_nil dFreshes_one oneF_none oneF_some dFresh_nil dFresh_cons oneL_some oneW_true oneW_false sameV_value dPut dMay valEq arrEq listEq List.getElem?_cons Tr.get_nil dEnd
attribute [local simp] WpS_nil WpS_cons isDefer undef_false wantS_true wantS_false nextS_value nextS_skip nextS_enter callS_some gotS_some aWanted aOp aEvalF aEval opMove opAssign opPick aVal flat flat1 AAct.put opBinOp opConvert opIndex Tr.get_set Tr.get_lay aBin aResults tupled
  aCall aVals aCallB blt_dec ble_dec beq_dec aBinI_add aBinI_sub aBinI_lss aBinI_leq aBinI_gtr aBinI_geq aBinI_eql aBinI_neq index_str len_str len_slice Nat.beq_refl und2 und3 und4 und5 und39 und76 und82 und116 und22 und29 und25 und33 und46 und43 und49 und111 und113 field152 field156_0 field156_1 field156_2 field156_3 field156_4
  field78 field106 field24 field31 field27 field35 field108 field109 opBox opLoad opFieldAddr opIndexAddr acells aAddr opExtract aExtract opUnOp opAlloc opStore opMakeInterface opNilCheck opBuild aParts opBuildSlice aValW
set_option maxHeartbeats 4000000
set_option linter.unusedSimpArgs false
set_option linter.unusedVariables false
/-! ### the law FlowBranches: lists that are copied, a store into a list -/
theorem kill_other {t : Tr ABlk} : ∀ {kin : List (Nat × Bool)} {x : Nat}, (∀ p ∈ kin, p.1 ≠ x) → (AW.kill t kin).get x = t.get x
  | [], _, _ => rfl
  | (c, g) :: l, x, h => by
    simp only [AW.kill, Tr.get_del]
    rw [if_neg (fun e => h (c, g) List.mem_cons_self e.symm)]
    exact kill_other (fun p hp => h p (List.mem_cons_of_mem _ hp))
theorem grown_store {W : AW} {v : Value} {l : List Tri} {K : Nat → Prop} (h : GrowsN W v l.length (flat3 l) 97 3 K) (hn : 0 < l.length) (x : Int) :
    ∃ b, v = .slice (some ⟨b, 0, none⟩) l.length 7 ∧ K b ∧ b < W.next ∧ ∃ W', aStoreVar T0 W 2 b 2 (.int .i64 x) = some W' ∧ W'.next = W.next ∧ (∀ c, ¬ K c → W'.blocks.get c = W.blocks.get c) ∧
      TriIn W' v (l.modifyHead fun a => (a.1, a.2.1, x)) := by
  obtain ⟨h0, ⟨h1, _⟩ | ⟨b, c, kin, h1, h2, h3, h4, h5, h6, h7⟩⟩ := h
  · omega
  have hlt : 2 < (flat3 l).length := by omega
  refine ⟨b, h1, h3, h4, ⟨(AW.kill W.blocks kin).set b ⟨.cells (c.set 2 (.int .i64 x)) (flat3 l).length 97, []⟩, W.next⟩, ?_, rfl, fun d hd => ?_, ?_⟩
  · have hst : W.store b 2 (.int .i64 x) = some ⟨(AW.kill W.blocks kin).set b ⟨.cells (c.set 2 (.int .i64 x)) (flat3 l).length 97, []⟩, W.next⟩ := by
      simp only [AW.store, h5, blt_dec, hlt, decide_true]
    show aStoreVar T0 W 2 b 2 (.int .i64 x) = _
    simp only [aStoreVar, inf2, acells, is2, List.length_cons, List.length_nil, Nat.beq_refl, AW.storeList]
    simp only [Value.oneCell', hst]
  · show ((AW.kill W.blocks kin).set b _).get d = _
    rw [Tr.get_set, if_neg (by rintro rfl; exact hd h3)]
    exact kill_other (fun p hp e => hd (e ▸ h7 p hp))
  · have hget : ∀ j u, (c.set 2 (.int .i64 x)).get j = some u → j < (flat3 l).length → AW.Has ⟨(AW.kill W.blocks kin).set b ⟨.cells (c.set 2 (.int .i64 x)) (flat3 l).length 97, []⟩, W.next⟩ b j u := fun j u hj hlt => by
      refine ⟨h4, ?_⟩
      have hb : ((AW.kill W.blocks kin).set b ⟨.cells (c.set 2 (.int .i64 x)) (flat3 l).length 97, []⟩).get b = some ⟨.cells (c.set 2 (.int .i64 x)) (flat3 l).length 97, []⟩ := by rw [Tr.get_set, if_pos rfl]
      simp only [AW.cell, hb, blt_dec, hlt, decide_true]
      exact hj
    have hlm : (l.modifyHead fun a => (a.1, a.2.1, x)).length = l.length := by simp
    refine ⟨some ⟨b, 0, none⟩, 2 * 3 + 1, by rw [hlm]; exact h1, fun i a hi => ⟨b, 0, rfl, ?_⟩⟩
    have hil : i < l.length := Nat.lt_of_lt_of_le (List.getElem?_eq_some_iff.1 hi).1 (Nat.le_of_eq hlm)
    have hf := flat3_get l i l[i] (List.getElem?_eq_getElem hil)
    have g : ∀ j, j < 3 → 3 * i + j ≠ 2 → (c.set 2 (.int .i64 x)).get (3 * i + j) = (cells3 l[i])[j]? := fun j hj hne => by
      rw [Tr.get_set, if_neg hne, h6 _ (by omega), hf j hj]
    cases i with
    | zero =>
      cases l with
      | nil => simp at hil
      | cons q l =>
        simp at hi
        subst hi
        refine ⟨hget _ _ (g 0 (by omega) (by omega)) (by omega), hget _ _ (g 1 (by omega) (by omega)) (by omega), hget _ _ ?_ (by omega)⟩
        show (c.set 2 (.int .i64 x)).get 2 = _
        rw [Tr.get_set, if_pos rfl]
    | succ i =>
      have ha : a = l[i + 1] := by
        cases l with
        | nil => simp at hil
        | cons q l =>
          simp at hi
          have := (List.getElem?_eq_some_iff.1 hi).2
          simp [this]
      subst ha
      rw [Nat.zero_add]
      exact ⟨hget _ _ (g 0 (by omega) (by omega)) (by omega), hget _ _ (g 1 (by omega) (by omega)) (by omega), hget _ _ (g 2 (by omega) (by omega)) (by omega)⟩
theorem oneCells_flat3 : ∀ l : List Tri, oneCells (flat3 l) = true
  | [] => rfl
  | a :: l => by
    have := oneCells_flat3 l
    rw [show flat3 (a :: l) = cells3 a ++ flat3 l from rfl]
    exact this
theorem app_tri {W : AW} {A : Option Addr} {c : Nat} {l : List Tri} (h : TriIn W (.slice A l.length c) l) (hl : l.length ≤ 1000) (hS : l.length = 0 → (A = none ∧ c = 0) ∨ (∃ b o, A = some ⟨b, o, none⟩) ∨ (A = some ⟨0, 0, some 1⟩ ∧ c = 0)) :
    ∃ v W', aAppend T0 W [92, 92] [.slice none 0 0, .slice A l.length c] = some (v, W') ∧ Ext W W' ∧ TriIn W' v l := by
  obtain ⟨A', c', e, hh⟩ := h
  cases e
  by_cases h0 : l.length = 0
  · have hl0 : l = [] := List.length_eq_zero_iff.1 h0
    subst hl0
    have key : aSrc W 3 (.slice A 0 c) = some (0, []) ∨ ∃ k, aSrc W 3 (.slice A 0 c) = some (0, k) ∧ k.length = 0 := by
      rcases hS rfl with ⟨rfl, rfl⟩ | ⟨b, o, rfl⟩ | ⟨rfl, rfl⟩
      · exact .inl rfl
      · unfold aSrc
        simp only [Nat.zero_mul]
        cases hc : W.cellsAt b o 0 with
        | none => exact .inl rfl
        | some k =>
          refine .inr ⟨k, rfl, ?_⟩
          exact cellsAt_len hc
      · exact .inl rfl
    refine ⟨.slice none 0 0, W, ?_, .refl _ _, ⟨none, 0, rfl, fun i x hx => by simp at hx⟩⟩
    have fin : ∀ k : List Value, k.length = 0 → aSrc W 3 (.slice A 0 c) = some (0, k) → aAppend T0 W [92, 92] [.slice none 0 0, .slice A 0 c] = some (.slice none 0 0, W) := fun k hk hs => by
      have : k = [] := List.length_eq_zero_iff.1 hk
      subst this
      simp only [aAppend, und92, inf97, is97, z97, notInt, hs, acells, List.length_cons, List.length_nil, Nat.beq_refl, Nat.zero_mul]
      rfl
    rcases key with hs | ⟨k, hs, hk⟩
    · exact fin [] rfl hs
    · exact fin k hk hs
  · have ha : l[0]? = some l[0] := List.getElem?_eq_getElem (by omega)
    obtain ⟨b, o, rfl, hb, _, _⟩ := hh 0 _ ha
    have hc : W.cellsAt b o (l.length * 3) = some (flat3 l) := by
      refine cellsAt_of_cells (flat3_len l) (has_blk hb) (fun j hj => ?_) (by omega)
      have hi : j / 3 < l.length := by omega
      have hj' : l[j / 3]? = some l[j / 3] := List.getElem?_eq_getElem hi
      obtain ⟨b2, o2, e2, g1, g2, g3⟩ := hh (j / 3) _ hj'
      cases e2
      have hf := flat3_get l (j / 3) _ hj' (j % 3) (by omega)
      rw [show 3 * (j / 3) + j % 3 = j from by omega] at hf
      rw [hf]
      have h3 : j % 3 = 0 ∨ j % 3 = 1 ∨ j % 3 = 2 := by omega
      rcases h3 with h3 | h3 | h3
      · rw [show o + j = o + 3 * (j / 3) from by omega, g1.2, h3]; rfl
      · rw [show o + j = o + 3 * (j / 3) + 1 from by omega, g2.2, h3]; rfl
      · rw [show o + j = o + 3 * (j / 3) + 2 from by omega, g3.2, h3]; rfl
    have hone := oneCells_flat3 l
    have hz : Nat.beq l.length 0 = false := by
      cases hb : Nat.beq l.length 0 with
      | false => rfl
      | true => exact absurd (Nat.eq_of_beq_eq_true hb) h0
    refine ⟨.slice (some ⟨W.next, 0, none⟩) (0 + l.length) (2 * 3 + 1), W.newCells 97 ([] ++ flat3 l), ?_, .newCells _ _ _, ?_⟩
    · have hsrc : aSrc W 3 (.slice (some ⟨b, o, none⟩) l.length c) = some (l.length, flat3 l) := by
        unfold aSrc; simp only [hc]
      simp only [aAppend, und92, inf97, is97, z97, notInt, hsrc, acells, List.length_cons, List.length_nil, Nat.beq_refl, flat3_len, hone, hz, aApp1, by97]
      have e1 : Nat.ble (2 * (0 + l.length) * 24) 281474976710656 = true := by simp only [ble_dec]; rw [decide_eq_true (by omega)]
      have e2 : Nat.ble (0 + l.length) 4611686018427387904 = true := by simp only [ble_dec]; rw [decide_eq_true (by omega)]
      rw [e1, e2]
    · rw [Nat.zero_add, List.nil_append]
      have hV := Var.new W 97 (flat3 l)
      refine ⟨some ⟨W.next, 0, none⟩, 2 * 3 + 1, rfl, fun i a hi => ⟨W.next, 0, rfl, ?_, ?_, ?_⟩⟩
      · exact hV.has (by rw [show 0 + 3 * i = 3 * i + 0 from by omega, flat3_get l i a hi 0 (by omega)]; rfl)
      · exact hV.has (by rw [show 0 + 3 * i + 1 = 3 * i + 1 from by omega, flat3_get l i a hi 1 (by omega)]; rfl)
      · exact hV.has (by rw [show 0 + 3 * i + 2 = 3 * i + 2 from by omega, flat3_get l i a hi 2 (by omega)]; rfl)
theorem copy_tri {W : AW} {u : Value} {l : List Tri} (hS : SlOk u l.length) (h : TriIn W u l) {k : Nat} (hk : k ≤ l.length) (hk2 : k ≤ 1000) :
    ∃ u' v' W', (∀ W', aSliceOp T0 W' 92 u none (some (.int .i64 (k : Nat))) none = some u') ∧ aAppend T0 W [92, 92] [.slice none 0 0, u'] = some (v', W') ∧ Ext W W' ∧ TriIn W' v' (l.take k) := by
  have hlen : (l.take k).length = k := by rw [List.length_take]; omega
  obtain ⟨u', A', c', h1, rfl, h3⟩ := slice_tri und92 sz97 hS h hk
  have hsh : k = 0 → (A' = none ∧ c' = 0) ∨ (∃ b o, A' = some ⟨b, o, none⟩) ∨ (A' = some ⟨0, 0, some 1⟩ ∧ c' = 0) := by
    have h1 := h1 W
    rintro rfl
    rcases hS with ⟨rfl, h0⟩ | ⟨b, o, c, rfl, hc⟩ | ⟨rfl, h0⟩
    · simp only [aSliceOp, und92, sz97] at h1
      cases h1; exact .inl ⟨rfl, rfl⟩
    · have hb : aHi (some (.int .i64 ((0 : Nat) : Int))) l.length c = some 0 := by
        show aBound (.int .i64 (Int.ofNat 0)) c = some 0
        simp only [aBound, ble_dec, Nat.zero_le, decide_true]
      have e1 : (2 * c) % 2 = 0 := by omega
      have e2 : 2 * c / 2 = c := by omega
      simp only [aSliceOp, und92, sz97, e1, e2, Nat.beq_refl, hb, aLo, Nat.sub_zero] at h1
      cases h1
      exact .inr (.inl ⟨_, _, rfl⟩)
    · simp only [aSliceOp, und92, sz97] at h1
      cases h1; exact .inr (.inr ⟨rfl, rfl⟩)
  have h3' : TriIn W (.slice A' (l.take k).length c') (l.take k) := by rw [hlen]; exact h3
  obtain ⟨v, W', g1, g2, g3⟩ := app_tri h3' (by omega) (fun e => hsh (by omega))
  rw [hlen] at g1
  exact ⟨_, v, W', h1, g1, g2, g3⟩

end Go.Proofs.YtkipaffjmcmclaaDoor

open Go Go.Eng
namespace Go.Proofs.YtkipaffjmcmclaaDoor
attribute [local congr] undef_congr WpK.congr WpS.congr WpL.congr WpC.congr WpF.congr gotS.congr callS.congr nextS.congr wantS.congr condS.congr
attribute [local irreducible] WpK
attribute [local simp] WpDr_nil WpDr_cons atS_some dwantS_true dwantS_false kindS_light kindS_float kindS_heavy lightS_value floatS_some heavyS_value heavyS_skip heavyS_enter dcallS_some doneS_eq
  isLight isFloat isPlain dLook testBit_dec dChain dLights_nil dLights_skip dLights_one dLight_nil dLight_cons dFreshes_nil dFreshes_one oneF_none oneF_some dFresh_nil dFresh_cons oneL_some oneW_true oneW_false sameV_value dPut dMay valEq arrEq listEq List.getElem?_cons Tr.get_nil dEnd
attribute [local simp] WpS_nil WpS_cons isDefer undef_false wantS_true wantS_false nextS_value nextS_skip nextS_enter callS_some gotS_some aWanted aOp aEvalF aEval opMove opAssign opPick aVal flat flat1 AAct.put opBinOp opConvert opIndex Tr.get_set Tr.get_lay aBin aResults tupled
  aCall aVals aCallB blt_dec ble_dec beq_dec aBinI_add aBinI_sub aBinI_lss aBinI_leq aBinI_gtr aBinI_geq aBinI_eql aBinI_neq index_str len_str len_slice Nat.beq_refl und2 und3 und4 und5 und39 und76 und82 und116 und22 und29 und25 und33 und46 und43 und49 und111 und113 field152 field156_0 field156_1 field156_2 field156_3 field156_4
  field78 field106 field24 field31 field27 field35 field108 field109 opBox opLoad opFieldAddr opIndexAddr acells aAddr opExtract aExtract opUnOp opAlloc opStore opMakeInterface opNilCheck opBuild aParts opBuildSlice aValW
set_option maxHeartbeats 4000000
set_option linter.unusedSimpArgs false
set_option linter.unusedVariables false
/-! ### the law FlowBranches -/
theorem zero92 : aZero T0 92 = some (.slice none 0 0) := by kernel_rfl
theorem zero59 : aZero T0 59 = some (.slice none 0 0) := by kernel_rfl
theorem build97 (x y z : Int) : aBuild T0 97 [(0, .int .i64 x), (1, .int .i64 y), (2, .int .i64 z)] = some (.agg ⟨[.int .i64 x, .int .i64 y, .int .i64 z]⟩) := by kernel_rfl
theorem i64_max (x : Int) : IntKind.i64.wrap x ≤ maxI := by
  rw [IntKind.wrap_i64]; unfold maxI; omega
theorem flowBranches_wp {W : AW} {v0 v1 : Value} (P0 oa ob : Int) {l0 : List Tri} {l1 : List Bra} (h0 : TriIn W v0 l0) (hlen0 : l0.length < 9223372036854775808) (h1 : TriIn W v1 l1) (hS1 : SlOk v1 l1.length) (hw1 : ∀ a ∈ l1, a.2.2 ≤ maxI) (htb : tabsIn T0 T0.tabs W = true) (hW0 : 0 < W.next) :
    WpF T0 8 [.agg ⟨[.int .i64 P0, v0]⟩, v1, .agg ⟨[.int .i64 oa, .int .i64 ob]⟩] W (fun u _ => u = .bool true) := by
  refine wpF fun8 rfl ?_
  have h1' := h1
  obtain ⟨Al, cl, rfl, hA1⟩ := h1
  obtain ⟨W1, hW1, hE1, hn1, hV3, hV4⟩ : ∃ W1, W1 = (W.newCells 27 [.int .i64 P0, v0]).newCells 28 [.int .i64 oa, .int .i64 ob] ∧ Ext W W1 ∧ W1.next = W.next + 2 ∧ Var W1 W.next 27 [.int .i64 P0, v0] ∧ Var W1 (W.next + 1) 28 [.int .i64 oa, .int .i64 ob] :=
    ⟨_, rfl, (Only.newCells _ _ _).trans (Only.newCells _ _ _), rfl, (Var.new _ _ _).ext (.newCells _ _ _), Var.new _ _ _⟩
  have hl3 := load27 hV3
  try simp only [wpK_assoc]
  refine wpK_reg (fun R hR => by simp [newCells_next, ← hW1]; exact hR) ?_
  try simp only [wpK_assoc]
  refine wpK_x4 (fun R hR => by
    simp [hl3, aEnter, fun42, short_other, aCallV]; rw [callS_none]
    refine (tamed_wp 6 10 (by omega) (by omega) (by omega) P0 (h0.ext hE1) hlen0).mono ?_
    rintro _ W2 ⟨hE2, P, l, v, hT, rfl, hG⟩
    obtain ⟨av, cv, hvs⟩ := hG.len
    obtain ⟨W3, s1, s2, hE3, hVx⟩ := storeVar_new (T := T0) (W := W2) (t := 27) (v := .agg ⟨[.int .i64 P, v]⟩) (z := [.int .i64 0, .slice none 0 0]) inf27 (by rw [is27]; rfl) (by rw [is27]; rfl) (by rw [hvs]; rfl)
    simp [zero27, s1]
    exact hR P l v W2 W3 (And.intro (hE2.trans hE3) (And.intro hT (And.intro hVx ((hG.tri).ext hE3))))) ?_
  rintro P l v W2 W3 ⟨hE3, hT, hVx, hTri⟩
  generalize hpx : W2.next = px at hVx
  have hP2 := hT.P2
  have hPle := hT.Ple
  have hok := hT.plan (by omega) (by omega)
  have hll := hT.len
  have hin := links_in hok
  have hE13 := hE1.trans hE3
  have hTb3 := tabs_ext htb hW0 hE13
  have h03 : 0 < W3.next := Nat.lt_of_lt_of_le hW0 hE13.1
  have L0 : ∀ W', Ext W3 W' → aLoadVar T0 W' 3 (W.next + 1) 0 = some (.int .i64 oa) := fun W' h => ((hV4.ext hE3).ext h).load1 (T := T0) und3 rfl (j := 0) (v := .int .i64 oa) rfl
  have L1 : ∀ W', Ext W3 W' → aLoadVar T0 W' 3 (W.next + 1) 1 = some (.int .i64 ob) := fun W' h => ((hV4.ext hE3).ext h).load1 (T := T0) und3 rfl (j := 1) (v := .int .i64 ob) rfl
  have i0 := ix28_0 (W.next + 1) 0
  have i1 := ix28_1 (W.next + 1) 0
  have LP : ∀ W', Ext W3 W' → aLoadVar T0 W' 3 px 0 = some (.int .i64 P) := fun W' h => (hVx.ext h).load1 (T := T0) und3 rfl (j := 0) (v := .int .i64 P) rfl
  have Lx : ∀ W', Ext W3 W' → aLoadVar T0 W' 27 px 0 = some (.agg ⟨[.int .i64 P, v]⟩) := fun W' h => load27 (hVx.ext h)
  have e33 : Ext W3 W3 := .refl _ _
  have Tb : ∀ {W'}, Ext W3 W' → tabsIn T0 T0.tabs W' = true := fun h => tabs_ext hTb3 h03 h
  have N0 : ∀ {W'}, Ext W3 W' → 0 < W'.next := fun h => Nat.lt_of_lt_of_le h03 h.1
  have vvv := tri_eq hTri
  have hmin : min (l1.length : Int) 25 = ((min l1.length 25 : Nat) : Int) := by omega
  obtain ⟨u0, u4, W4, hcS, hcA, e34, hB4⟩ := copy_tri hS1 (h1'.ext hE13) (k := min l1.length 25) (by omega) (by omega)
  have hB0 : (l1.take (min l1.length 25)).length ≤ 25 := by rw [List.length_take]; omega
  have hBw : ∀ a ∈ l1.take (min l1.length 25), a.2.2 ≤ maxI := fun a ha => hw1 a (List.mem_of_mem_take ha)
  generalize l1.take (min l1.length 25) = B0 at hB4 hB0 hBw
  generalize min l1.length 25 = k0 at hcS hcA hmin
  try simp only [wpK_assoc]
  refine wpK_reg (fun R hR => by simp [zero92]; exact hR) ?_
  try simp only [wpK_assoc]
  refine wpK_reg (fun R hR => by simp [zero59]; exact hR) ?_
  try simp only [wpK_assoc]
  refine wpK_reg (fun R hR => by simp [opSlice, aOpt, len_slice und92, min_int, hmin, hcS, hcA]; exact hR) ?_
  try simp only [wpK_assoc]
  refine wpK_reg (fun R hR => by simp []; exact hR) ?_
  try simp only [wpK_assoc]
  refine wpK_while (I := fun k A W' => A.n = 160 ∧ A.defers = [] ∧ A.tmps.get 1 = some (.slice Al l1.length cl) ∧ A.tmps.get 5 = some (.pointer (some ⟨W.next + 1, 0, none⟩)) ∧ A.tmps.get 7 = some (.pointer (some ⟨px, 0, none⟩)) ∧ Ext W3 W' ∧ ∃ (i : Nat) (u : Value) (B : List Bra), k = 3 - i ∧ i ≤ 3 ∧ A.tmps.get 10 = some (.int .i64 i) ∧ A.tmps.get 8 = some u ∧ TriIn W' u B ∧ B.length ≤ 25 ∧ ∀ a ∈ B, a.2.2 ≤ maxI)
    (J := fun A W' => A.n = 160 ∧ A.defers = [] ∧ Ext W3 W') (Rt := fun _ _ => False) (k := 3) ?_ ?_ ?_ ?_
  · exact ⟨rfl, rfl, by simp [hpx], by simp [hpx], by simp [hpx], e34, 0, u4, B0, by simp, by omega, by simp, by simp, hB4, hB0, hBw⟩
  · clear hcS hcA hB4 hB0 hBw e34
    rintro k ⟨tm, n, ds⟩ W5 ⟨hn, hd, h1, h5, h7, e5, i, u, B, hk, hi, h10, h8, hB, hBl, hBw⟩ Q' hJ hRt hI
    simp only at hn hd h1 h5 h7
    subst hn; subst hd
    simp only at h10 h8
    try simp only [wpK_assoc]
    refine wpK_reg (fun R hR => by simp [h10]; exact hR) ?_
    by_cases hlt : i < 3
    case neg =>
      have hlt' : ¬ (i : Int) < 3 := by omega
      simp only [hlt', decide_false]
      try simp only [wpK_assoc]
      first | refine wpK_onF (by simp []) ?_ | refine wpK_out (by simp []) ?_ | refine wpK_condF (by simp []) ?_ | refine wpK_endF (by simp []) (wpK_skip ?_) | refine wpK_endF (by simp []) ?_
      exact hJ _ _ ⟨rfl, rfl, e5⟩
    have hlt' : (i : Int) < 3 := by omega
    simp only [hlt', decide_true]
    try simp only [wpK_assoc]
    first | refine wpK_onT (by simp []) ?_ | refine wpK_outT (by simp []) ?_ | refine wpK_condT (by simp []) ?_ | refine wpK_endT (by simp []) ?_
    have hsi : IntKind.i64.wrap ((i : Int) + 1) = ((i + 1 : Nat) : Int) := i64_succ i (by omega)
    refine wpK_block ?_
    try simp only [wpK_assoc]
    refine wpK_reg (fun R hR => by simp [zero59]; exact hR) ?_
    try simp only [wpK_assoc]
    refine wpK_reg (fun R hR => by simp []; exact hR) ?_
    obtain ⟨Au, cu, rfl, hAu⟩ := id hB
    try simp only [wpK_assoc]
    refine wpK_while (I := fun k A W' => A.n = 160 ∧ A.defers = [] ∧ A.tmps.get 1 = some (.slice Al l1.length cl) ∧ A.tmps.get 5 = some (.pointer (some ⟨W.next + 1, 0, none⟩)) ∧ A.tmps.get 7 = some (.pointer (some ⟨px, 0, none⟩)) ∧ A.tmps.get 8 = some (.slice Au B.length cu) ∧ A.tmps.get 10 = some (.int .i64 i) ∧ Ext W5 W' ∧ ∃ (j : Nat) (w : Value), k = B.length - j ∧ j ≤ B.length ∧ A.tmps.get 11 = some (.int .i64 j) ∧ A.tmps.get 9 = some w ∧ GrowsN W' w j (flat3 (B.take j)) 66 3 (fun b => W5.next ≤ b))
      (J := fun A W' => A.n = 160 ∧ A.defers = [] ∧ A.tmps.get 1 = some (.slice Al l1.length cl) ∧ A.tmps.get 5 = some (.pointer (some ⟨W.next + 1, 0, none⟩)) ∧ A.tmps.get 7 = some (.pointer (some ⟨px, 0, none⟩)) ∧ A.tmps.get 8 = some (.slice Au B.length cu) ∧ A.tmps.get 10 = some (.int .i64 i) ∧ Ext W5 W' ∧ ∃ w : Value, A.tmps.get 9 = some w ∧ TriIn W' w B) (Rt := fun _ _ => False) (k := B.length) ?_ ?_ ?_ ?_
    · exact ⟨rfl, rfl, by simp [h1, h5, h7, h8, h10], by simp [h1, h5, h7, h8, h10], by simp [h1, h5, h7, h8, h10], by simp [h1, h5, h7, h8, h10], by simp [h1, h5, h7, h8, h10], .refl _ _, 0, .slice none 0 0, by simp, by omega, by simp, by simp, .nil _ _ _ _⟩
    · rintro kk ⟨tm, n, ds⟩ W6 ⟨hn, hd, h1, h5, h7, h8, h10, e6, j, w, hkk, hj, h11, h9, hG⟩ Q3 hJ3 hRt3 hI3
      simp only at hn hd h1 h5 h7 h8 h10
      subst hn; subst hd
      simp only at h11 h9
      try simp only [wpK_assoc]
      refine wpK_reg (fun R hR => by simp [h8, h11, len_slice und92]; exact hR) ?_
      by_cases hltj : j < B.length
      case neg =>
        have e : j = B.length := by omega
        subst e
        rw [List.take_length] at hG
        try simp only [wpK_assoc]
        first | refine wpK_onF (by simp [hltj]) ?_ | refine wpK_out (by simp [hltj]) ?_ | refine wpK_condF (by simp [hltj]) ?_ | refine wpK_endF (by simp [hltj]) (wpK_skip ?_) | refine wpK_endF (by simp [hltj]) ?_
        exact hJ3 _ _ ⟨rfl, rfl, by simp [h1, h5, h7, h8, h10], by simp [h1, h5, h7, h8, h10], by simp [h1, h5, h7, h8, h10], by simp [h1, h5, h7, h8, h10], by simp [h1, h5, h7, h8, h10], e6, w, by simp [h9], hG.tri⟩
      try simp only [wpK_assoc]
      first | refine wpK_onT (by simp [hltj]) ?_ | refine wpK_outT (by simp [hltj]) ?_ | refine wpK_condT (by simp [hltj]) ?_ | refine wpK_endT (by simp [hltj]) ?_
      have hsj : IntKind.i64.wrap ((j : Int) + 1) = ((j + 1 : Nat) : Int) := i64_succ j (by omega)
      have ha : B[j]? = some B[j] := List.getElem?_eq_getElem hltj
      generalize B[j] = a at ha
      obtain ⟨b, o, hAv, q1, q2, q3⟩ := hAu j _ ha
      have eV := indexAddr_tri (T := T0) und92 sz97 (b := b) (o := o) (c := cu) (k := .i64) hltj
      rw [← hAv] at eV
      have ld := load3 (T := T0) und97 agg97 inf97 is97 (q1.ext e6) (q2.ext e6) (q3.ext e6)
      obtain ⟨w', W7, p1, p2, p3, p4⟩ := push3_tmp und59 inf66 is66 z66 rfl by66 hG (by omega) (u := cells3 a) rfl (oneCells_tri a)
      have p1 : aAppend T0 (W6.newCells 66 [.int .i64 a.1, .int .i64 a.2.1, .int .i64 a.2.2]) [59, 59] [w, .slice (some ⟨W6.next, 0, none⟩) 1 2] = some (w', W7) := p1
      refine wpK_block ?_
      try simp only [wpK_assoc]
      refine wpK_reg1 (fun R hR => by simp [h8, h9, h11, eV, ld, bs59, p1]; exact hR) ?_
      try simp only [behind_normal]
      try simp only [wpK_assoc]
      refine wpK_reg1 (fun R hR => by simp [h11, hsj]; exact hR) ?_
      have n6 := e6.1
      refine hI3 (kk - 1) _ _ (by omega) ⟨rfl, rfl, by simp [h1, h5, h7, h8, h10], by simp [h1, h5, h7, h8, h10], by simp [h1, h5, h7, h8, h10], by simp [h1, h5, h7, h8, h10], by simp [h1, h5, h7, h8, h10], ⟨by omega, fun b hb hk => by rw [p4.2 b (by omega) (by omega)]; exact e6.2 b hb hk⟩, j + 1, w', by omega, by omega, by simp, by simp, ?_⟩
      have e : flat3 (B.take (j + 1)) = flat3 (B.take j) ++ cells3 a := by
        rw [List.take_add_one, ha, Option.toList_some, flat3_append]
        simp [flat3]
      rw [e]
      exact p3.mono (fun b hb => by omega)
    · rintro A' W' hf; exact hf.elim
    rintro ⟨tm, n, ds⟩ W6 ⟨hn, hd, h1, h5, h7, h8, h10, e56, w, h9, hw⟩
    simp only at hn hd h1 h5 h7 h8 h10
    subst hn; subst hd
    simp only at h9
    have e6 := e5.trans e56
    have hB6 := hB.ext e56
    try simp only [wpK_assoc]
    refine wpK_cut (J := fun A W' => A.n = 160 ∧ A.defers = [] ∧ A.tmps.get 1 = some (.slice Al l1.length cl) ∧ A.tmps.get 5 = some (.pointer (some ⟨W.next + 1, 0, none⟩)) ∧ A.tmps.get 7 = some (.pointer (some ⟨px, 0, none⟩)) ∧ A.tmps.get 8 = some (.slice Au B.length cu) ∧ A.tmps.get 10 = some (.int .i64 i) ∧ Ext W6 W' ∧ A.tmps.get 9 = some w ∧ A.tmps.get 50 = some (.bool false)) (fun Q2 hQ2 => ?_) ?_
    · by_cases ht : TreeB P (linksQ l) B
      · try simp only [wpK_assoc]
        refine wpK_q1 (wr := Tr.nil |>.set 43 0 |>.set 44 1 |>.set 45 2 |>.set 46 3 |>.set 47 4 |>.set 48 5 |>.set 49 6 |>.set 50 7) (bits := Tr.nil.lay 0 [0, 1, 0, 7, 0, 0, 63, 127]) (ord := [0, 1, 2, 3, 4, 5, 6, 7]) (by kernel_rfl) (by kernel_rfl) (by kernel_rfl) (fun G hG => by
          simp [h7, h8, h9, Lx, e6, aEnter, fun13, short_other, aCallV]
          rw [dcallS_none]
          refine (board_wp (P := (P : Int)) (hTri.ext e6) (by omega)).mono ?_
          rintro _ W7 ⟨e7, v', rfl, hGb⟩
          simp [h7, h8, h9, Lx, e6, e6.trans e7, e7.1, vvv, aEnter, fun29, short_other, aCallV]
          rw [dcallS_none]
          refine (isTree_wp (P := P) hGb.tri hok (hw.ext e7) (by omega) (Tb (e6.trans e7)) (N0 (e6.trans e7))).mono ?_
          rintro _ W8 ⟨e8, ⟨g, rfl⟩ | ⟨g, rfl⟩⟩
          · simp [h7, h8, h9, Lx, e6, e6.trans e7, (e6.trans e7).trans e8, e7.1, e8.1, (e7.trans e8).1, vvv, aEnter, fun44, short_other, aCallV]
            rw [dcallS_none]
            refine (refIsTree_wp (P := P) (hTri.ext ((e6.trans e7).trans e8)) hok (by omega) (by omega) (hB6.ext (e7.trans e8)) (by omega) (Tb ((e6.trans e7).trans e8)) (N0 ((e6.trans e7).trans e8))).mono ?_
            rintro _ W9 ⟨e9, ⟨g, rfl⟩ | ⟨g, rfl⟩⟩
            · simp [h7, h8, h9, Lx, e6, e6.trans e7, (e6.trans e7).trans e8, e7.1, e8.1, e9.1, (e7.trans e8).1, vvv, aGuard, aBinO, aEq, und4]
              exact hG v' W9 ((e7.trans e8).trans e9)
            · exact absurd ht g
          · exact absurd ht g) ?_
        rintro v' W9 e9
        exact hQ2 _ _ ⟨rfl, rfl, by simp [h1, h5, h7, h8, h10], by simp [h1, h5, h7, h8, h10], by simp [h1, h5, h7, h8, h10], by simp [h1, h5, h7, h8, h10], by simp [h1, h5, h7, h8, h10], e9, by simp [h9], by simp⟩
      · try simp only [wpK_assoc]
        refine wpK_q1 (wr := Tr.nil |>.set 43 0 |>.set 44 1 |>.set 45 2 |>.set 46 3 |>.set 47 4 |>.set 48 5 |>.set 49 6 |>.set 50 7) (bits := Tr.nil.lay 0 [0, 1, 0, 7, 0, 0, 63, 127]) (ord := [0, 1, 2, 3, 4, 5, 6, 7]) (by kernel_rfl) (by kernel_rfl) (by kernel_rfl) (fun G hG => by
          simp [h7, h8, h9, Lx, e6, aEnter, fun13, short_other, aCallV]
          rw [dcallS_none]
          refine (board_wp (P := (P : Int)) (hTri.ext e6) (by omega)).mono ?_
          rintro _ W7 ⟨e7, v', rfl, hGb⟩
          simp [h7, h8, h9, Lx, e6, e6.trans e7, e7.1, vvv, aEnter, fun29, short_other, aCallV]
          rw [dcallS_none]
          refine (isTree_wp (P := P) hGb.tri hok (hw.ext e7) (by omega) (Tb (e6.trans e7)) (N0 (e6.trans e7))).mono ?_
          rintro _ W8 ⟨e8, ⟨g, rfl⟩ | ⟨g, rfl⟩⟩
          · exact absurd g ht
          · simp [h7, h8, h9, Lx, e6, e6.trans e7, (e6.trans e7).trans e8, e7.1, e8.1, (e7.trans e8).1, vvv, aEnter, fun44, short_other, aCallV]
            rw [dcallS_none]
            refine (refIsTree_wp (P := P) (hTri.ext ((e6.trans e7).trans e8)) hok (by omega) (by omega) (hB6.ext (e7.trans e8)) (by omega) (Tb ((e6.trans e7).trans e8)) (N0 ((e6.trans e7).trans e8))).mono ?_
            rintro _ W9 ⟨e9, ⟨g, rfl⟩ | ⟨g, rfl⟩⟩
            · exact absurd g ht
            · simp [h7, h8, h9, Lx, e6, e6.trans e7, (e6.trans e7).trans e8, e7.1, e8.1, e9.1, (e7.trans e8).1, vvv, aGuard, aBinO, aEq, und4]
              exact hG v' W9 ((e7.trans e8).trans e9)) ?_
        rintro v' W9 e9
        exact hQ2 _ _ ⟨rfl, rfl, by simp [h1, h5, h7, h8, h10], by simp [h1, h5, h7, h8, h10], by simp [h1, h5, h7, h8, h10], by simp [h1, h5, h7, h8, h10], by simp [h1, h5, h7, h8, h10], e9, by simp [h9], by simp⟩
    clear h1 h5 h7 h8 h10 h9
    rintro ⟨tm, n, ds⟩ W7 ⟨hn, hd, h1, h5, h7, h8, h10, e67, h9, h50⟩
    simp only at hn hd h1 h5 h7 h8 h10
    subst hn; subst hd
    simp only at h9 h50
    have e7 := e6.trans e67
    have hB7 := hB6.ext e67
    have hw7 := hw.ext e67
    refine wpK_condF (by exact h50) (wpK_skip ?_)
    try simp only [behind_normal]
    have wB : IntKind.i64.wrap ((B.length : Int) + 1) = (B.length : Int) + 1 := IntWalk.i64_in _ (by omega)
    have eB : ((B.length + 1 : Nat) : Int) = (B.length : Int) + 1 := by omega
    try simp only [wpK_assoc]
    refine wpK_cut2 (J := fun A W' => A.n = 160 ∧ A.defers = [] ∧ A.tmps.get 1 = some (.slice Al l1.length cl) ∧ A.tmps.get 5 = some (.pointer (some ⟨W.next + 1, 0, none⟩)) ∧ A.tmps.get 7 = some (.pointer (some ⟨px, 0, none⟩)) ∧ A.tmps.get 10 = some (.int .i64 i) ∧ Ext W7 W') (fun Q4 hQ4 => ?_) ?_
    · have hbw := between_wp hw7 (by omega) hBw oa ob
      by_cases hjo : joinsB B
      case neg =>
        have hb2 : WpF T0 47 [w, .int .i64 oa, .int .i64 ob] W7 (fun u W' => Ext W7 W' ∧ u = .tuple ⟨[.int .i64 0, .int .i64 30]⟩) := by
          refine hbw.mono ?_
          rintro u W' ⟨e, ⟨_, rfl⟩ | ⟨g, _⟩ | ⟨g, _⟩⟩
          · exact ⟨e, rfl⟩
          · exact absurd g hjo
          · exact absurd g hjo
        try simp only [wpK_assoc]
        refine wpK_x0 (fun R hR => by
            simp [h5, h9, i0, i1, L0, L1, e7, aEnter, fun47, short_other, aCallV]; rw [callS_none]
            refine (hb2).mono ?_
            rintro _ W8 ⟨e8, rfl⟩
            simp [h5, h9, i0, i1, L0, L1, e7]; exact hR W8 e8) ?_
        rintro W8 e8
        have hj8 : WpF T0 48 [.slice Au B.length cu] W8 (fun u W' => Ext W8 W' ∧ u = .bool false) := by
          refine (refJoins_wp (hB7.ext e8) (by omega)).mono ?_
          rintro u W' ⟨e, ⟨g, _⟩ | ⟨_, rfl⟩⟩
          · exact absurd g hjo
          · exact ⟨e, rfl⟩
        refine wpK_block1 ?_
        try simp only [wpK_assoc]
        refine wpK_x0 (fun R hR => by
            simp [h8, aEnter, fun48, short_other, aCallV]; rw [callS_none]
            refine (hj8).mono ?_
            rintro _ W9 ⟨e9, rfl⟩
            simp [h8]; exact hR W9 e9) ?_
        rintro W9 e9
        try simp only [wpK_assoc]
        first | refine wpK_onT (by simp []) ?_ | refine wpK_outT (by simp []) ?_ | refine wpK_condT (by simp []) ?_ | refine wpK_endT (by simp []) ?_
        try simp only [wpK_assoc]
        refine wpK_reg (fun R hR => by simp []; exact hR) ?_
        refine wpK_endF (by simp) (wpK_skip ?_)
        exact hQ4 _ _ ⟨rfl, rfl, by simp [h1, h5, h7, h10], by simp [h1, h5, h7, h10], by simp [h1, h5, h7, h10], by simp [h1, h5, h7, h10], e8.trans e9⟩
      have hj8 : ∀ W', Ext W7 W' → WpF T0 48 [.slice Au B.length cu] W' (fun u W'' => Ext W' W'' ∧ u = .bool true) := fun W' e' => by
        refine (refJoins_wp (hB7.ext e') (by omega)).mono ?_
        rintro u W'' ⟨e, ⟨_, rfl⟩ | ⟨g, _⟩⟩
        · exact ⟨e, rfl⟩
        · exact absurd hjo g
      have hen := fun W' => refEnds_wp ((B.length : Int) + 1) oa ob W'
      cases h2 : two? oa ob ((B.length : Int) + 1) with
      | false =>
        have hE : endE ((B.length : Int) + 1) oa ob = 1 := by unfold endE; rw [h2]; rfl
        rw [hE] at hen
        have hb2 : WpF T0 47 [w, .int .i64 oa, .int .i64 ob] W7 (fun u W' => Ext W7 W' ∧ u = .tuple ⟨[.int .i64 0, .int .i64 1]⟩) := by
          refine hbw.mono ?_
          rintro u W' ⟨e, ⟨g, _⟩ | ⟨_, _, rfl⟩ | ⟨_, g, _⟩⟩
          · exact absurd hjo g
          · exact ⟨e, rfl⟩
          · rw [eB, h2] at g; cases g
        try simp only [wpK_assoc]
        refine wpK_x0 (fun R hR => by
            simp [h5, h9, i0, i1, L0, L1, e7, aEnter, fun47, short_other, aCallV]; rw [callS_none]
            refine (hb2).mono ?_
            rintro _ W8 ⟨e8, rfl⟩
            simp [h5, h9, i0, i1, L0, L1, e7]; exact hR W8 e8) ?_
        rintro W8 e8
        refine wpK_block1 ?_
        try simp only [wpK_assoc]
        refine wpK_x0 (fun R hR => by
            simp [h8, aEnter, fun48, short_other, aCallV]; rw [callS_none]
            refine (hj8 W8 e8).mono ?_
            rintro _ W9 ⟨e9, rfl⟩
            simp [h8]; exact hR W9 e9) ?_
        rintro W9 e9
        have e79 := e7.trans (e8.trans e9)
        try simp only [wpK_assoc]
        first | refine wpK_onF (by simp []) ?_ | refine wpK_out (by simp []) ?_ | refine wpK_condF (by simp []) ?_ | refine wpK_endF (by simp []) (wpK_skip ?_) | refine wpK_endF (by simp []) ?_
        try simp only [wpK_assoc]
        refine wpK_reg (fun R hR => by
            simp [h5, h8, len_slice und92, wB, i0, i1, L0, L1, e79, aEnter, fun18, short_other, aCallV]; rw [callS_none]
            refine (hen W9).mono ?_
            rintro _ W9 ⟨e9, rfl⟩; subst W9
            simp [h5, h8, len_slice und92, wB, i0, i1, L0, L1, e79]; exact hR) ?_
        try simp only [wpK_assoc]
        first | refine wpK_onT (by simp []) ?_ | refine wpK_outT (by simp []) ?_ | refine wpK_condT (by simp []) ?_ | refine wpK_endT (by simp []) ?_
        try simp only [wpK_assoc]
        refine wpK_reg (fun R hR => by simp []; exact hR) ?_
        refine wpK_endF (by simp) (wpK_skip ?_)
        exact hQ4 _ _ ⟨rfl, rfl, by simp [h1, h5, h7, h10], by simp [h1, h5, h7, h10], by simp [h1, h5, h7, h10], by simp [h1, h5, h7, h10], e8.trans e9⟩
      | true =>
        have hE : endE ((B.length : Int) + 1) oa ob = 0 := by unfold endE; rw [h2]; rfl
        rw [hE] at hen
        have h2' := h2
        simp only [two?, Bool.and_eq_true, decide_eq_true_eq] at h2'
        obtain ⟨fn, hfn⟩ : ∃ n : Nat, oa = n := ⟨oa.toNat, by omega⟩
        obtain ⟨qn, hqn⟩ : ∃ n : Nat, ob = n := ⟨ob.toNat, by omega⟩
        try simp only [wpK_assoc]
        refine wpK_x1 (fun R hR => by
          simp [h5, h9, i0, i1, L0, L1, e7, aEnter, fun47, short_other, aCallV]; rw [callS_none]
          refine hbw.mono ?_
          rintro u W8 ⟨e8, ⟨g, _⟩ | ⟨_, g, _⟩ | ⟨_, _, x, hx, rfl⟩⟩
          · exact absurd hjo g
          · rw [eB, h2] at g; cases g
          · simp; exact hR x W8 (And.intro e8 hx)) ?_
        rintro x W8 ⟨e8, hx⟩
        have hrb : ∀ W', Ext W7 W' → WpF T0 49 [.slice Au B.length cu, .int .i64 oa, .int .i64 ob] W' (fun u W'' => Ext W' W'' ∧ u = .int .i64 x) := fun W' e' => by
          have := refBetween_wp (f := fn) (q := qn) (hB7.ext e') hjo (by omega) (by omega) (by omega)
          rw [← hfn, ← hqn] at this
          refine this.mono ?_
          rintro u W'' ⟨e, y, rfl, hy⟩
          rw [hfn, hqn] at hx
          exact ⟨e, by rw [hy.one (show MinW B fn qn x from hx)]⟩
        refine wpK_block1 ?_
        try simp only [wpK_assoc]
        refine wpK_x0 (fun R hR => by
            simp [h8, aEnter, fun48, short_other, aCallV]; rw [callS_none]
            refine (hj8 W8 e8).mono ?_
            rintro _ W9 ⟨e9, rfl⟩
            simp [h8]; exact hR W9 e9) ?_
        rintro W9 e9
        have e79 := e7.trans (e8.trans e9)
        try simp only [wpK_assoc]
        first | refine wpK_onF (by simp []) ?_ | refine wpK_out (by simp []) ?_ | refine wpK_condF (by simp []) ?_ | refine wpK_endF (by simp []) (wpK_skip ?_) | refine wpK_endF (by simp []) ?_
        try simp only [wpK_assoc]
        refine wpK_reg (fun R hR => by
            simp [h5, h8, len_slice und92, wB, i0, i1, L0, L1, e79, aEnter, fun18, short_other, aCallV]; rw [callS_none]
            refine (hen W9).mono ?_
            rintro _ W9 ⟨e9, rfl⟩; subst W9
            simp [h5, h8, len_slice und92, wB, i0, i1, L0, L1, e79]; exact hR) ?_
        try simp only [wpK_assoc]
        first | refine wpK_onF (by simp []) ?_ | refine wpK_out (by simp []) ?_ | refine wpK_condF (by simp []) ?_ | refine wpK_endF (by simp []) (wpK_skip ?_) | refine wpK_endF (by simp []) ?_
        try simp only [wpK_assoc]
        refine wpK_x0 (fun R hR => by
            simp [h5, h8, i0, i1, L0, L1, e79, aEnter, fun49, short_other, aCallV]; rw [callS_none]
            refine (hrb W9 (e8.trans e9)).mono ?_
            rintro _ W10 ⟨e10, rfl⟩
            simp [h5, h8, i0, i1, L0, L1, e79]; exact hR W10 e10) ?_
        rintro W10 e10
        refine wpK_endF (by simp) (wpK_skip ?_)
        exact hQ4 _ _ ⟨rfl, rfl, by simp [h1, h5, h7, h10], by simp [h1, h5, h7, h10], by simp [h1, h5, h7, h10], by simp [h1, h5, h7, h10], (e8.trans e9).trans e10⟩
    clear h1 h5 h7 h8 h10 h9 h50
    rintro ⟨tm, n, ds⟩ W8 ⟨hn, hd, h1, h5, h7, h10, e78⟩
    simp only at hn hd h1 h5 h7 h10
    subst hn; subst hd
    have e8 := e7.trans e78
    clear hw hB6 hw7 hB7 hB hBw hBl hAu
    have hokB := both_ok hok (by omega)
    try simp only [wpK_assoc]
    refine wpK_reg (fun R hR => by simp [zero92]; exact hR) ?_
    try simp only [wpK_assoc]
    refine wpK_reg (fun R hR => by simp []; exact hR) ?_
    try simp only [wpK_assoc]
    refine wpK_while (I := fun k A W' => A.n = 160 ∧ A.defers = [] ∧ A.tmps.get 1 = some (.slice Al l1.length cl) ∧ A.tmps.get 5 = some (.pointer (some ⟨W.next + 1, 0, none⟩)) ∧ A.tmps.get 7 = some (.pointer (some ⟨px, 0, none⟩)) ∧ A.tmps.get 10 = some (.int .i64 i) ∧ Ext W8 W' ∧ ∃ (c : Nat) (u : Value) (T : List Bra), k = P - c ∧ 1 ≤ c ∧ c ≤ P ∧ A.tmps.get 14 = some (.int .i64 c) ∧ A.tmps.get 8 = some u ∧ GrowsN W' u T.length (flat3 T) 97 3 (fun b => W8.next ≤ b) ∧ T.length + 1 = c ∧ ∀ a ∈ T, a.2.2 ≤ maxI)
      (J := fun A W' => A.n = 160 ∧ A.defers = [] ∧ A.tmps.get 1 = some (.slice Al l1.length cl) ∧ A.tmps.get 5 = some (.pointer (some ⟨W.next + 1, 0, none⟩)) ∧ A.tmps.get 7 = some (.pointer (some ⟨px, 0, none⟩)) ∧ A.tmps.get 10 = some (.int .i64 i) ∧ Ext W8 W' ∧ ∃ (u : Value) (T : List Bra), A.tmps.get 8 = some u ∧ GrowsN W' u T.length (flat3 T) 97 3 (fun b => W8.next ≤ b) ∧ T.length + 1 = P ∧ ∀ a ∈ T, a.2.2 ≤ maxI) (Rt := fun _ _ => False) (k := P - 1) ?_ ?_ ?_ ?_
    · exact ⟨rfl, rfl, by simp [h1, h5, h7, h10], by simp [h1, h5, h7, h10], by simp [h1, h5, h7, h10], by simp [h1, h5, h7, h10], .refl _ _, 1, .slice none 0 0, [], by simp, by omega, by omega, by simp, by simp, .nil _ _ _ _, rfl, fun a ha => by simp at ha⟩
    · rintro kk ⟨tm, n, ds⟩ W9 ⟨hn, hd, h1, h5, h7, h10, e9, c, u, T, hkk, hc1, hcP, h14, h8, hG, hTl, hTw⟩ Q3 hJ3 hRt3 hI3
      simp only at hn hd h1 h5 h7 h10
      subst hn; subst hd
      simp only at h14 h8
      have e39 := e8.trans e9
      try simp only [wpK_assoc]
      refine wpK_reg (fun R hR => by simp [h7, h14, LP, e39]; exact hR) ?_
      by_cases hltc : c < P
      case neg =>
        have e : c = P := by omega
        try simp only [wpK_assoc]
        first | refine wpK_onF (by simp [hltc]) ?_ | refine wpK_out (by simp [hltc]) ?_ | refine wpK_condF (by simp [hltc]) ?_ | refine wpK_endF (by simp [hltc]) (wpK_skip ?_) | refine wpK_endF (by simp [hltc]) ?_
        exact hJ3 _ _ ⟨rfl, rfl, by simp [h1, h5, h7, h10], by simp [h1, h5, h7, h10], by simp [h1, h5, h7, h10], by simp [h1, h5, h7, h10], e9, u, T, by simp [h8], hG, by omega, hTw⟩
      try simp only [wpK_assoc]
      first | refine wpK_onT (by simp [hltc]) ?_ | refine wpK_outT (by simp [hltc]) ?_ | refine wpK_condT (by simp [hltc]) ?_ | refine wpK_endT (by simp [hltc]) ?_
      have hsc : IntKind.i64.wrap ((c : Int) + 1) = ((c + 1 : Nat) : Int) := i64_succ c (by omega)
      obtain ⟨d, hdc⟩ : ∃ d, d + 1 = c := ⟨c - 1, by omega⟩
      have wc : IntKind.i64.wrap ((c : Int) - 1) = (d : Int) := by
        rw [show (c : Int) - 1 = d from by omega]; exact IntWalk.i64_in _ (by omega)
      have hkc : kk - 1 < kk ∧ kk - 1 = P - (c + 1) ∧ 1 ≤ c + 1 ∧ c + 1 ≤ P := by omega
      refine wpK_block ?_
      try simp only [wpK_assoc]
      refine wpK_reg (fun R hR => by simp [h14]; exact hR) ?_
      try simp only [wpK_assoc]
      refine wpK_reg (fun R hR => by simp [h1, h14, wc, len_slice und92]; exact hR) ?_
      try simp only [wpK_assoc]
      refine wpK_cut (J := fun A W' => A.n = 160 ∧ A.defers = [] ∧ A.tmps.get 1 = some (.slice Al l1.length cl) ∧ A.tmps.get 5 = some (.pointer (some ⟨W.next + 1, 0, none⟩)) ∧ A.tmps.get 7 = some (.pointer (some ⟨px, 0, none⟩)) ∧ A.tmps.get 10 = some (.int .i64 i) ∧ Ext W9 W' ∧ A.tmps.get 14 = some (.int .i64 c) ∧ A.tmps.get 8 = some u ∧ ∃ (p : Nat) (x : Int), A.tmps.get 15 = some (.int .i64 p) ∧ A.tmps.get 16 = some (.int .i64 x) ∧ p < c ∧ x ≤ maxI) (fun Q4 hQ4 => ?_) ?_
      · by_cases hm : d < l1.length
        · have ha : l1[d]? = some l1[d] := List.getElem?_eq_getElem hm
          have hmem : l1[d] ∈ l1 := List.getElem_mem hm
          generalize l1[d] = a at ha hmem
          obtain ⟨b, o, hAv, q1, q2, q3⟩ := hA1 d _ ha
          have eV := indexAddr_tri (T := T0) und92 sz97 (b := b) (o := o) (c := cl) (k := .i64) hm
          rw [← hAv] at eV
          have la := load_of und3 rfl (q1.ext (hE13.trans e39))
          have lw := load_of und2 rfl (q3.ext (hE13.trans e39))
          obtain ⟨p, hp1, hp2⟩ := u64_mod a.1 c (by omega)
          have r1 := aBinI_rem .u64 (IntKind.u64.wrap a.1) (c : Int) (by omega)
          rw [hp1] at r1
          have wcc : IntKind.u64.wrap (c : Int) = c := IntWalk.u64_in _ (by omega)
          have wp : IntKind.i64.wrap (p : Int) = p := IntWalk.i64_in _ (by omega)
          refine wpK_endT (by simp [hm]) ?_
          try simp only [wpK_assoc]
          refine wpK_reg (fun R hR => by simp [h1, h14, wc, eV, la, field97, conv_3_82, conv_82_3, wcc, r1, wp]; exact hR) ?_
          try simp only [wpK_assoc]
          refine wpK_reg1 (fun R hR => by simp [h1, h14, wc, eV, lw, field97]; exact hR) ?_
          exact hQ4 _ _ ⟨rfl, rfl, by simp [h1, h5, h7, h10], by simp [h1, h5, h7, h10], by simp [h1, h5, h7, h10], by simp [h1, h5, h7, h10], .refl _ _, by simp [h14], by simp [h8], p, a.2.2, by simp, by simp, hp2, hw1 a hmem⟩
        · refine wpK_endF (by simp [hm]) (wpK_skip ?_)
          exact hQ4 _ _ ⟨rfl, rfl, by simp [h1, h5, h7, h10], by simp [h1, h5, h7, h10], by simp [h1, h5, h7, h10], by simp [h1, h5, h7, h10], .refl _ _, by simp [h14], by simp [h8], 0, c, by simp, by simp, by omega, by unfold maxI; omega⟩
      clear h1 h5 h7 h10 h14 h8
      rintro ⟨tm, n, ds⟩ W10 ⟨hn, hd, h1, h5, h7, h10, e10, h14, h8, p, x, h15, h16, hp, hx⟩
      simp only at hn hd h1 h5 h7 h10
      subst hn; subst hd
      simp only at h14 h8 h15 h16
      try simp only [wpK_assoc]
      refine wpK_reg (fun R hR => by simp [h10]; exact hR) ?_
      try simp only [wpK_assoc]
      refine wpK_cut (J := fun A W' => A.n = 160 ∧ A.defers = [] ∧ A.tmps.get 1 = some (.slice Al l1.length cl) ∧ A.tmps.get 5 = some (.pointer (some ⟨W.next + 1, 0, none⟩)) ∧ A.tmps.get 7 = some (.pointer (some ⟨px, 0, none⟩)) ∧ A.tmps.get 10 = some (.int .i64 i) ∧ Ext W10 W' ∧ A.tmps.get 14 = some (.int .i64 c) ∧ A.tmps.get 8 = some u ∧ A.tmps.get 15 = some (.int .i64 p) ∧ ∃ x : Int, A.tmps.get 16 = some (.int .i64 x) ∧ x ≤ maxI) (fun Q4 hQ4 => ?_) ?_
      · by_cases hi1 : i = 1
        · have hst : two? (p : Int) (c : Int) (P : Int) = true := by simp [two?]; omega
          obtain ⟨S, xv, g1, g2, g3, _, g4⟩ := cut_least hTri hok hst hTb3 h03
          have hxv : xv ≤ maxI := by
            have := (capQ_le hin S (linksQ l).length (Nat.le_refl _)).2
            rw [List.take_length, ← g3] at this
            have hq : (linksQ l).length = l.length := by simp [linksQ]
            unfold maxI; omega
          have e30 := e39.trans e10
          refine wpK_endT (by simp [hi1]) ?_
          try simp only [wpK_assoc]
          refine wpK_y2 (fun R hR => by
            simp [h7, Lx, e30, aEnter, fun43, short_other, aCallV]; rw [callS_none]
            refine (both_wp (P := (P : Int)) (hTri.ext e30) (by omega)).mono ?_
            rintro _ W11 ⟨e11, v', rfl, hGb⟩
            simp [h14, h15, aEnter, fun32, short_other, aCallV]; rw [callS_none]
            refine (least32_wp (x := xv) hGb.tri hokB (by omega) (show p < P by omega) (show c < P by omega) g1 g2 (by rw [capQ_both]; exact g3) (fun T hc => by rw [capQ_both]; exact g4 T hc)).mono ?_
            rintro _ W12 ⟨e12, sl, rfl, _⟩
            simp; exact hR v' sl W12 (e11.trans e12)) ?_
          rintro v' sl W12 e12
          exact hQ4 _ _ ⟨rfl, rfl, by simp [h1, h5, h7, h10], by simp [h1, h5, h7, h10], by simp [h1, h5, h7, h10], by simp [h1, h5, h7, h10], e12, by simp [h14], by simp [h8], by simp [h15], xv, by simp, hxv⟩
        · have hi1' : ¬ (i : Int) = 1 := by omega
          refine wpK_endF (by simp [hi1']) (wpK_skip ?_)
          exact hQ4 _ _ ⟨rfl, rfl, by simp [h1, h5, h7, h10], by simp [h1, h5, h7, h10], by simp [h1, h5, h7, h10], by simp [h1, h5, h7, h10], .refl _ _, by simp [h14], by simp [h8], by simp [h15], x, by simp [h16], hx⟩
      clear h1 h5 h7 h10 h14 h8 h15 h16 hx x
      rintro ⟨tm, n, ds⟩ W11 ⟨hn, hd, h1, h5, h7, h10, e11, h14, h8, h15, x, h16, hx⟩
      simp only at hn hd h1 h5 h7 h10
      subst hn; subst hd
      simp only at h14 h8 h15 h16
      have e911 := e10.trans e11
      have hG11 := hG.only (K' := fun _ => False) e911 (fun _ _ _ y => y)
      obtain ⟨w', W12, p1, p2, p3, p4⟩ := push3_tmp und92 inf97 is97 z97 rfl by97 hG11 (by omega) (u := cells3 ((p : Int), (c : Int), x)) rfl (oneCells_tri _)
      have p1 : aAppend T0 (W11.newCells 97 [.int .i64 p, .int .i64 c, .int .i64 x]) [92, 92] [u, .slice (some ⟨W11.next, 0, none⟩) 1 2] = some (w', W12) := p1
      try simp only [wpK_assoc]
      refine wpK_reg1 (fun R hR => by simp [h8, h14, h15, h16, build97, bs92, p1]; exact hR) ?_
      try simp only [behind_normal]
      try simp only [wpK_assoc]
      refine wpK_reg1 (fun R hR => by simp [h14, hsc]; exact hR) ?_
      have e811 := e9.trans e911
      have n11 := e811.1
      refine hI3 (kk - 1) _ _ hkc.1 ⟨rfl, rfl, by simp [h1, h5, h7, h10], by simp [h1, h5, h7, h10], by simp [h1, h5, h7, h10], by simp [h1, h5, h7, h10], ⟨by omega, fun b hb hk => by rw [p4.2 b (by omega) (by omega)]; exact e811.2 b hb hk⟩, c + 1, w', T ++ [((p : Int), (c : Int), x)], hkc.2.1, hkc.2.2.1, hkc.2.2.2, by simp, by simp, ?_, by simp; omega, fun a ha => ?_⟩
      · have e1 : flat3 (T ++ [((p : Int), (c : Int), x)]) = flat3 T ++ cells3 ((p : Int), (c : Int), x) := by
          rw [flat3_append]; simp [flat3]
        rw [e1, List.length_append]
        exact p3.mono (fun b hb => by omega)
      · rcases List.mem_append.1 ha with ha | ha
        · exact hTw a ha
        · rw [List.mem_singleton] at ha; subst ha; exact hx
    · rintro A' W' hf; exact hf.elim
    clear h1 h5 h7 h10
    rintro ⟨tm, n, ds⟩ W9 ⟨hn, hd, h1, h5, h7, h10, e9, u, T, h8, hG, hTl, hTw⟩
    simp only at hn hd h1 h5 h7 h10
    subst hn; subst hd
    simp only at h8
    have e39 := e8.trans e9
    have r3 := aBinI_rem .i64 (l1.length : Int) 3 (by omega)
    have stay : ∀ (A' : AAct), A'.n = 160 ∧ A'.defers = [] ∧ A'.tmps.get 1 = some (.slice Al l1.length cl) ∧ A'.tmps.get 5 = some (.pointer (some ⟨W.next + 1, 0, none⟩)) ∧ A'.tmps.get 7 = some (.pointer (some ⟨px, 0, none⟩)) → A'.tmps.get 10 = some (.int .i64 ((i + 1 : Nat) : Int)) → A'.tmps.get 8 = some u → Q' .normal A' W9 := fun A' hF h10 h8 => hI (k - 1) _ _ (by omega) ⟨hF.1, hF.2.1, hF.2.2.1, hF.2.2.2.1, hF.2.2.2.2, e39, i + 1, u, T, by omega, by omega, h10, h8, hG.tri, by omega, hTw⟩
    by_cases hi1 : i = 1
    case neg =>
      have hi1' : ¬ (i : Int) = 1 := by omega
      try simp only [wpK_assoc]
      refine wpK_reg (fun R hR => by simp [h1, h10, hi1', undef]; exact hR) ?_
      refine wpK_endF (by simp) (wpK_skip ?_)
      try simp only [behind_normal, leaves_normal]
      try simp only [wpK_assoc]
      refine wpK_reg1 (fun R hR => by simp [h10, hsi]; exact hR) ?_
      exact stay _ (by exact ⟨rfl, rfl, by simp [h1, h5, h7], by simp [h1, h5, h7], by simp [h1, h5, h7]⟩) (by simp) (by simp [h8])
    have hi1' : (i : Int) = 1 := by omega
    by_cases hz : (l1.length : Int).tmod 3 = 0
    case neg =>
      try simp only [wpK_assoc]
      refine wpK_reg (fun R hR => by simp [h1, h10, hi1', len_slice und92, r3, hz]; exact hR) ?_
      refine wpK_endF (by simp) (wpK_skip ?_)
      try simp only [behind_normal, leaves_normal]
      try simp only [wpK_assoc]
      refine wpK_reg1 (fun R hR => by simp [h10, hsi]; exact hR) ?_
      exact stay _ (by exact ⟨rfl, rfl, by simp [h1, h5, h7], by simp [h1, h5, h7], by simp [h1, h5, h7]⟩) (by simp) (by simp [h8])
    try simp only [wpK_assoc]
    refine wpK_reg (fun R hR => by simp [h1, h10, hi1', len_slice und92, r3, hz]; exact hR) ?_
    cases T with
    | nil => simp at hTl; omega
    | cons a T =>
      obtain ⟨b, rfl, hKb, hbn, W10, st, hn10, hoth, hT10⟩ := grown_store hG (by simp) (IntKind.i64.wrap (a.2.2 + 1))
      have lx : aLoadVar T0 W9 2 b 2 = some (.int .i64 a.2.2) := by
        obtain ⟨A', c', e, hh⟩ := hG.tri
        cases e
        obtain ⟨b', o', e', _, _, q3⟩ := hh 0 a rfl
        cases e'
        exact load_of und2 rfl q3
      have eV0 := indexAddr_tri (T := T0) und92 sz97 (b := b) (o := 0) (c := 7) (k := .i64) (i := 0) (show 0 < (a :: T).length by simp)
      simp only [Int.natCast_zero, Nat.mul_zero, Nat.add_zero] at eV0
      refine wpK_endT (by simp) ?_
      clear stay
      generalize hTn : (a :: T).length = tn at *
      try simp only [wpK_assoc]
      refine wpK_reg1 (fun R hR => by simp [h8, eV0, lx, st, field97]; exact hR) ?_
      try simp only [behind_normal, leaves_normal]
      try simp only [wpK_assoc]
      refine wpK_reg1 (fun R hR => by simp [h10, hsi]; exact hR) ?_
      have hlm : (List.modifyHead (fun q : Tri => (q.1, q.2.1, IntKind.i64.wrap (a.2.2 + 1))) (a :: T)).length = tn := by rw [← hTn]; simp
      have e310 : Ext W3 W10 := ⟨by have := e39.1; omega, fun c hc hk => by
        have n8 := e8.1
        rw [hoth c (by omega)]; exact e39.2 c hc hk⟩
      refine hI (k - 1) _ _ (by omega) ⟨rfl, rfl, by simp [h1, h5, h7], by simp [h1, h5, h7], by simp [h1, h5, h7], e310, i + 1, _, _, by omega, by omega, by simp, by simp [h8], hT10, by rw [hlm]; omega, fun q hq => ?_⟩
      rw [List.modifyHead_cons] at hq
      rcases List.mem_cons.1 hq with rfl | hq
      · exact i64_max _
      · exact hTw q (List.mem_cons_of_mem _ hq)
  · rintro A' W' hf; exact hf.elim
  · rintro ⟨tm, n, ds⟩ W9 ⟨hn, hd, e9⟩
    simp only at hn hd
    subst hn; subst hd
    have ht9 := Tb e9
    try simp only [wpK_assoc]
    refine wpK_reg (fun R hR => by simp [aEnter, fun26, short_awake, aCallV, ht9]; exact hR) ?_
    exact wpK_ret ⟨.inr rfl, rfl, [.bool true], by simp, rfl⟩

end Go.Proofs.YtkipaffjmcmclaaDoor
