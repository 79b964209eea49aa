import Derived.Test.YtkgfjfkgmpeobaaDoorP40
set_option linter.unusedSimpArgs false
set_option linter.unusedVariables false
set_option linter.unusedSectionVars false
open Go Go.Eng
namespace Go.Proofs.YtkgfjfkgmpeobaaDoor
attribute [local congr] undef_congr WpK.congr WpS.congr WpL.congr WpC.congr WpF.congr gotS.congr callS.congr nextS.congr wantS.congr condS.congr
attribute [local irreducible] WpK
attribute [local simp] WpDr_nil WpDr_cons atS_some dwantS_true dwantS_false kindS_light kindS_float kindS_heavy lightS_value floatS_some heavyS_value heavyS_skip heavyS_enter dcallS_some doneS_eq
  isLight isFloat isPlain dLook testBit_dec dChain dLights_nil dLights_skip dLights_one dLight_nil dLight_cons dFreshes_nil dFreshes_one oneF_none oneF_some dFresh_nil dFresh_cons oneL_some oneW_true oneW_false sameV_value dPut dMay valEq arrEq listEq List.getElem?_cons Tr.get_nil dEnd
attribute [local simp] WpS_nil WpS_cons isDefer undef_false wantS_true wantS_false nextS_value nextS_skip nextS_enter callS_some gotS_some aWanted aOp aEvalF aEval opMove opAssign opPick aVal flat flat1 AAct.put opBinOp opConvert opIndex Tr.get_set Tr.get_lay aBin aResults tupled
  aCall aVals aCallB blt_dec ble_dec beq_dec aBinI_add aBinI_sub aBinI_lss aBinI_leq aBinI_gtr aBinI_geq aBinI_eql aBinI_neq index_str len_str len_slice Nat.beq_refl und2 und3 und4 und5 und39 und76 und82 und115 und22 und29 und25 und33 und46 und43 und49 und111 und113 field151 field155_0 field155_1 field155_2 field155_3 field155_4
  field78 field106 field24 field31 field27 field35 field108 field109 opBox opLoad opFieldAddr opIndexAddr acells aAddr opExtract aExtract opUnOp opAlloc opStore opMakeInterface opNilCheck opBuild aParts opBuildSlice aValW
set_option maxHeartbeats 4000000
set_option linter.unusedSimpArgs false
set_option linter.unusedVariables false
theorem capF_congr {f g : Nat → Bool} : ∀ {l : List Quad}, (∀ a ∈ l, f a.1.toNat = g a.1.toNat ∧ f a.2.1.toNat = g a.2.1.toNat) → capF f l = capF g l
  | [], _ => rfl
  | a :: l, h => by
    have ih := capF_congr (fun b hb => h b (List.mem_cons_of_mem _ hb))
    obtain ⟨h1, h2⟩ := h a List.mem_cons_self
    simp only [capF, List.map_cons, List.sum_cons] at ih ⊢
    rw [ih]; simp only [outF, h1, h2]
def treeL (a : Nat → Nat) (w : Nat → Int) (n : Nat) : List Bra := (List.range n).map fun i => (((i + 1 : Nat) : Int), ((a (i + 1) : Nat) : Int), w (i + 1))
theorem treeL_len (a : Nat → Nat) (w : Nat → Int) (n : Nat) : (treeL a w n).length = n := by simp [treeL]
theorem treeL_get {a : Nat → Nat} {w : Nat → Int} {n i : Nat} {e : Bra} (h : (treeL a w n)[i]? = some e) : i < n ∧ e = (((i + 1 : Nat) : Int), ((a (i + 1) : Nat) : Int), w (i + 1)) := by
  have hi : i < n := by have := (List.getElem?_eq_some_iff.1 h).1; rwa [treeL_len] at this
  simp only [treeL, List.getElem?_map, List.getElem?_range hi, Option.map_some, Option.some.injEq] at h
  exact ⟨hi, h.symm⟩
theorem treeL_at {a : Nat → Nat} {w : Nat → Int} {n i : Nat} (hi : i < n) : (treeL a w n)[i]? = some (((i + 1 : Nat) : Int), ((a (i + 1) : Nat) : Int), w (i + 1)) := by
  simp [treeL, List.getElem?_range hi]
theorem Way.trans {l : List Bra} {wo x y z : Int} (h : Way l wo x y) (h' : Way l wo y z) : Way l wo x z := by
  induction h' with
  | here => exact h
  | next _ hj ih => exact .next ih hj
theorem Way.symm {l : List Bra} {wo x y : Int} (h : Way l wo x y) : Way l wo y x := by
  induction h with
  | here => exact .here
  | next _ hj ih => exact (Way.next .here hj.symm).trans ih
section
variable {P : Nat} {l : List Quad} {a : Nat → Nat} {w : Nat → Int} {D : Nat → Nat → Bool} {rk : Nat → Nat}
theorem GH.joined (h : GH P l a w D rk P) {y : Nat} (hy0 : 0 < y) (hy : y < P) {wo : Int} (hw : ((y - 1 : Nat) : Int) ≠ wo) : Joined (treeL a w (P - 1)) wo (a y : Int) (y : Int) := by
  refine ⟨y - 1, _, treeL_at (by omega), hw, .inr ?_⟩
  rw [show y - 1 + 1 = y from by omega]
  exact ⟨rfl, rfl⟩
theorem GH.in_way (h : GH P l a w D rk P) {x y : Nat} (hx0 : 0 < x) (hx : x < P) (hy : y < P) (hD : D x y = true) : Way (treeL a w (P - 1)) ((x - 1 : Nat) : Int) (x : Int) (y : Int) := by
  induction hn : rk y using Nat.strongRecOn generalizing y with
  | _ n ih =>
    by_cases hy0 : y = 0
    · subst hy0; rw [h.zero x hx0 hx] at hD; cases hD
    · by_cases e : y = x
      · subst e; exact .here
      · rw [h.eq x y hx0 hx (by omega) hy] at hD
        have hD : D x (a y) = true := by simpa [e] using hD
        have hr := h.rank y (by omega) hy
        exact .next (ih (rk (a y)) (by omega) (h.lt y hy) hD rfl) (h.joined (by omega) hy (by omega))
theorem GH.out_way (h : GH P l a w D rk P) {x y : Nat} (hx0 : 0 < x) (hx : x < P) (hy : y < P) (hD : D x y = false) : Way (treeL a w (P - 1)) ((x - 1 : Nat) : Int) 0 (y : Int) := by
  induction hn : rk y using Nat.strongRecOn generalizing y with
  | _ n ih =>
    by_cases hy0 : y = 0
    · subst hy0; exact .here
    · rw [h.eq x y hx0 hx (by omega) hy] at hD
      simp only [Bool.or_eq_false_iff, decide_eq_false_iff_not] at hD
      have hr := h.rank y (by omega) hy
      exact .next (ih (rk (a y)) (by omega) (h.lt y hy) hD.2 rfl) (h.joined (by omega) hy (by omega))
theorem GH.spans_way (h : GH P l a w D rk P) {y : Nat} (hy : y < P) : Way (treeL a w (P - 1)) (-1) 0 (y : Int) := by
  induction hn : rk y using Nat.strongRecOn generalizing y with
  | _ n ih =>
    by_cases hy0 : y = 0
    · subst hy0; exact .here
    · have hr := h.rank y (by omega) hy
      exact .next (ih (rk (a y)) (by omega) (h.lt y hy) rfl) (h.joined (by omega) hy (by omega))
theorem GH.side (h : GH P l a w D rk P) {x : Nat} (hx0 : 0 < x) (hx : x < P) {y z : Int} (hw : Way (treeL a w (P - 1)) ((x - 1 : Nat) : Int) y z) : D x y.toNat = D x z.toNat := by
  refine Way.within (T := fun z => D x y.toNat = D x z.toNat) (fun u v hu ⟨j, e, h1, h2, h3⟩ => ?_) rfl hw
  obtain ⟨hj, rfl⟩ := treeL_get h1
  have hne : ¬ j + 1 = x := by omega
  have he := h.eq x (j + 1) hx0 hx (by omega) (by omega)
  have he : D x (j + 1) = D x (a (j + 1)) := by simpa [hne] using he
  rcases h3 with ⟨rfl, rfl⟩ | ⟨rfl, rfl⟩
  · rw [hu]; simp only [Int.toNat_natCast]; exact he
  · rw [hu]; simp only [Int.toNat_natCast]; exact he.symm
theorem GH.brIn (h : GH P l a w D rk P) : BrIn ((treeL a w (P - 1)).length + 1) (treeL a w (P - 1)) := fun e he => by
  obtain ⟨i, hi⟩ := List.mem_iff_getElem?.1 he
  obtain ⟨h1, rfl⟩ := treeL_get hi
  have := h.lt (i + 1) (by omega)
  rw [treeL_len]
  simp only
  omega
theorem GH.joins (h : GH P l a w D rk P) (hP2 : 2 ≤ P) (hP24 : P ≤ 24) : joinsB (treeL a w (P - 1)) := by
  refine ⟨by rw [treeL_len]; omega, by rw [treeL_len]; omega, h.brIn, fun q hq => ?_⟩
  rw [treeL_len] at hq
  exact (reach_way h.brIn (by omega) (Nat.le_refl _) q).2 (h.spans_way (by omega))
theorem GH.reach (h : GH P l a w D rk P) (hP2 : 2 ≤ P) {x q : Nat} (hx0 : 0 < x) (hx : x < P) (hq : q < P) : (roundsB (treeL a w (P - 1)) ((x - 1 : Nat) : Int) (treeL a w (P - 1)).length (1 <<< x)).testBit q = D x q := by
  have hr := reach_way (wo := ((x - 1 : Nat) : Int)) (f := x) h.brIn (by rw [treeL_len]; omega) (Nat.le_refl _) q
  cases hd : D x q with
  | true => exact hr.2 (h.in_way hx0 hx hq hd)
  | false =>
    cases hb : (roundsB (treeL a w (P - 1)) ((x - 1 : Nat) : Int) (treeL a w (P - 1)).length (1 <<< x)).testBit q with
    | false => rfl
    | true =>
      have := h.side hx0 hx (hr.1 hb)
      simp only [Int.toNat_natCast] at this
      rw [hd, h.self hx] at this; cases this
theorem GH.tree (h : GH P l a w D rk P) (hin : PlanIn P l) (hP2 : 2 ≤ P) (hP24 : P ≤ 24) : TreeB P l (treeL a w (P - 1)) := by
  refine ⟨by rw [treeL_len]; omega, h.joins hP2 hP24, fun i e he => ?_⟩
  obtain ⟨hi, rfl⟩ := treeL_get he
  have hx : i + 1 < P := by omega
  have hax := h.lt (i + 1) hx
  have hrk := h.rank (i + 1) (by omega) hx
  have hbit := fun q (hq : q < P) => h.reach hP2 (x := i + 1) (by omega) hx hq
  rw [show i + 1 - 1 = i from rfl] at hbit
  have hcap : capQ (roundsB (treeL a w (P - 1)) (i : Int) (treeL a w (P - 1)).length (1 <<< (i + 1))) l = w (i + 1) := by
    rw [← capF_Q, ← h.val (i + 1) (by omega) hx]
    refine capF_congr (fun b hb => ?_)
    have := hin.step hb
    exact ⟨hbit _ (by omega), hbit _ (by omega)⟩
  refine ⟨w (i + 1), ⟨⟨_, ⟨?_, ?_⟩, hcap⟩, fun T hT => ?_⟩, rfl, ?_⟩
  · simp only [Int.toNat_natCast]; rw [hbit _ hx]; exact h.self hx
  · simp only [Int.toNat_natCast]; rw [hbit _ hax]; exact h.noq ⟨by omega, hx⟩ hax hrk
  · simp only [Int.toNat_natCast] at hT
    rw [← capF_Q]; exact h.min (i + 1) (by omega) hx _ hT.1 hT.2
  · simp only [Int.toNat_natCast]; exact hcap
theorem GH.sep (h : GH P l a w D rk P) {f : Nat → Bool} : ∀ (n s t : Nat), rk s + rk t ≤ n → s < P → t < P → (∀ x, 0 < x → x < P → D x s ≠ D x t → f x = f (a x)) → f s = f t := by
  have h0r : ∀ y, 0 < y → y < P → rk 0 < rk y := fun y hy0 hy => by
    have h1 := h.up h.m0 (y := a y) (by have := h.lt y hy; omega) (h.all _)
    have h2 := h.rank y hy0 hy
    omega
  have key : ∀ (n s t : Nat), (∀ s t, rk s + rk t < n → s < P → t < P → (∀ x, 0 < x → x < P → D x s ≠ D x t → f x = f (a x)) → f s = f t) → rk s + rk t = n → s < P → t < P → s ≠ t → rk t ≤ rk s → (∀ x, 0 < x → x < P → D x s ≠ D x t → f x = f (a x)) → f s = f t := fun n s t ih hn hs ht hne hle hx => by
    have hs0 : 0 < s := by
      by_cases e : s = 0
      · subst e
        have := h0r t (by omega) ht
        omega
      · omega
    have hdt : D s t = false := by
      cases hd : D s t with
      | false => rfl
      | true =>
        by_cases ht0 : t = 0
        · subst ht0; rw [h.zero s hs0 hs] at hd; cases hd
        · rw [h.eq s t hs0 hs (by omega) ht] at hd
          have hts : ¬ t = s := fun e => hne e.symm
          have hd : D s (a t) = true := by simpa [hts] using hd
          have h1 := h.up hs (h.lt t ht) hd
          have h2 := h.rank t (by omega) ht
          omega
    have e1 := hx s hs0 hs (by rw [h.self hs, hdt]; simp)
    have hrs := h.rank s hs0 hs
    rw [e1]
    refine ih (a s) t (by omega) (h.lt s hs) ht (fun x x1 x2 x3 => ?_)
    by_cases e : x = s
    · subst e
      rw [h.noq ⟨hs0, hs⟩ (h.lt x hs) hrs, hdt] at x3; exact absurd rfl x3
    · refine hx x x1 x2 (fun e2 => x3 ?_)
      rw [h.eq x s x1 x2 hs0 hs] at e2
      have : ¬ s = x := fun e3 => e e3.symm
      simpa [this] using e2
  intro n
  induction n using Nat.strongRecOn with
  | _ n ih =>
    intro s t hn hs ht hx
    have ih' : ∀ s' t', rk s' + rk t' < rk s + rk t → s' < P → t' < P → (∀ x, 0 < x → x < P → D x s' ≠ D x t' → f x = f (a x)) → f s' = f t' := fun s' t' h1 h2 h3 h4 => ih (rk s' + rk t') (by omega) s' t' (Nat.le_refl _) h2 h3 h4
    by_cases e : s = t
    · rw [e]
    · by_cases hle : rk t ≤ rk s
      · exact key _ s t ih' rfl hs ht e hle hx
      · refine (key (rk t + rk s) t s (fun s' t' h1 h2 h3 h4 => ih' s' t' (by omega) h2 h3 h4) rfl ht hs (fun e2 => e e2.symm) (by omega) (fun x x1 x2 x3 => hx x x1 x2 (fun e2 => x3 e2.symm))).symm
theorem GH.between (h : GH P l a w D rk P) (hl : SymQ l) (hin : PlanIn P l) (hP2 : 2 ≤ P) {s t : Nat} (hs : s < P) (ht : t < P) {x : Int} (hm : MinW (treeL a w (P - 1)) s t x) : MinCut l s t x := by
  have hway : ∀ y, 0 < y → y < P → (D y s ≠ D y t ↔ ¬ Way (treeL a w (P - 1)) ((y - 1 : Nat) : Int) (s : Int) (t : Int)) := fun y hy0 hy => by
    constructor
    · intro hne hw
      have := h.side hy0 hy hw
      simp only [Int.toNat_natCast] at this
      exact hne this
    · intro hw e
      apply hw
      cases hd : D y s with
      | true => exact (h.in_way hy0 hy hs hd).symm.trans (h.in_way hy0 hy ht (by rw [← e]; exact hd))
      | false => exact (h.out_way hy0 hy hs hd).symm.trans (h.out_way hy0 hy ht (by rw [← e]; exact hd))
  obtain ⟨m1, j, e, m2, m3, m4⟩ := hm
  obtain ⟨hj, rfl⟩ := treeL_get m2
  have hjP : j + 1 < P := by omega
  have hsep := (hway (j + 1) (by omega) hjP).2 m3
  have hbit := fun q (hq : q < P) => h.reach hP2 (x := j + 1) (by omega) hjP hq
  obtain ⟨T0', hT0⟩ : ∃ T, T = roundsB (treeL a w (P - 1)) ((j + 1 - 1 : Nat) : Int) (treeL a w (P - 1)).length (1 <<< (j + 1)) := ⟨_, rfl⟩
  rw [← hT0] at hbit
  have hcap : capF (D (j + 1)) l = x := by rw [h.val (j + 1) (by omega) hjP, m4]
  refine ⟨?_, fun T hT => ?_⟩
  · cases hd : D (j + 1) s with
    | true =>
      have hdt : D (j + 1) t = false := by
        cases hd2 : D (j + 1) t with
        | false => rfl
        | true => rw [hd, hd2] at hsep; exact absurd rfl hsep
      refine ⟨T0', ⟨by rw [hbit s hs]; exact hd, by rw [hbit t ht]; exact hdt⟩, ?_⟩
      rw [← capF_Q, ← hcap]
      exact capF_congr (fun b hb => by have := hin.step hb; exact ⟨hbit _ (by omega), hbit _ (by omega)⟩)
    | false =>
      have hdt : D (j + 1) t = true := by
        cases hd2 : D (j + 1) t with
        | true => rfl
        | false => rw [hd, hd2] at hsep; exact absurd rfl hsep
      have hb2 : ∀ q, q < P → ((2 ^ P - 1) ^^^ (T0' % 2 ^ P)).testBit q = !D (j + 1) q := fun q hq => by
        rw [Nat.testBit_xor, Nat.testBit_two_pow_sub_one, Nat.testBit_mod_two_pow, hbit q hq]; simp [hq]
      refine ⟨_, ⟨by rw [hb2 s hs, hd]; rfl, by rw [hb2 t ht, hdt]; rfl⟩, ?_⟩
      rw [← capF_Q, ← hcap, ← capF_not (D (j + 1)) l hl]
      exact capF_congr (fun b hb => by have := hin.step hb; exact ⟨hb2 _ (by omega), hb2 _ (by omega)⟩)
  · apply Classical.byContradiction
    intro hlt
    have := h.sep (f := T.testBit) (rk s + rk t) s t (Nat.le_refl _) hs ht (fun y hy0 hy hne => by
      apply Classical.byContradiction
      intro hf
      have hw := (hway y hy0 hy).1 hne
      have hx := m1 (y - 1) _ (treeL_at (by omega)) hw
      rw [show y - 1 + 1 = y from by omega] at hx
      simp only at hx
      have hmin := h.min y hy0 hy
      cases f1 : T.testBit y with
      | true =>
        have f2 : T.testBit (a y) = false := by
          cases f2 : T.testBit (a y) with
          | false => rfl
          | true => rw [f1, f2] at hf; exact absurd rfl hf
        have := hmin T.testBit f1 f2
        rw [capF_Q] at this; omega
      | false =>
        have f2 : T.testBit (a y) = true := by
          cases f2 : T.testBit (a y) with
          | true => rfl
          | false => rw [f1, f2] at hf; exact absurd rfl hf
        have := hmin (fun y => !T.testBit y) (by show (!T.testBit y) = true; rw [f1]; rfl) (by show (!T.testBit (a y)) = false; rw [f2]; rfl)
        rw [capF_not _ l hl, capF_Q] at this; omega)
    rw [hT.1, hT.2] at this; cases this
theorem GH.start (P : Nat) (l : List Quad) (hP : 0 < P) : GH P l (fun _ => 0) (fun _ => 0) (fun _ _ => true) (fun y => if y = 0 then 0 else 1) 1 where
  m0 := by omega
  mP := hP
  root := rfl
  lt := fun x _ => by omega
  ne := fun x h _ => by omega
  rank := fun x h _ => by
    have : ¬ x = 0 := by omega
    simp [this]
  all := fun _ => rfl
  zero := fun x h1 h2 => by omega
  eq := fun x y h1 h2 => by omega
  val := fun x h1 h2 => by omega
  min := fun x h1 h2 => by omega
end
def Marks (lo : Nat) : List Deferred → AW → Prop
  | [], _ => True
  | d :: ds, W => ∃ r, d.target = .collected r ∧ lo ≤ r ∧ r < W.next ∧ W.blocks.get r = some ⟨.deferred (some []), []⟩ ∧ (∀ d' ∈ ds, d'.target ≠ .collected r) ∧ Marks lo ds W
theorem Marks.only {lo : Nat} {W W' : AW} {K : Nat → Prop} (he : Only K W W') : ∀ {ds : List Deferred}, Marks lo ds W → (∀ d ∈ ds, ∀ r, d.target = .collected r → lo ≤ r → r < W.next → ¬ K r) → Marks lo ds W'
  | [], _, _ => trivial
  | d :: ds, h, hk => by
    obtain ⟨r, h1, h2, h3, h4, h5, h6⟩ := h
    exact ⟨r, h1, h2, by have := he.1; omega, by rw [he.2 r h3 (hk d (List.mem_cons_self ..) r h1 h2 h3)]; exact h4, h5, h6.only he (fun d' hd => hk d' (List.mem_cons_of_mem _ hd))⟩
theorem Marks.ext {lo : Nat} {W W' : AW} {ds : List Deferred} (h : Marks lo ds W) (he : Ext W W') : Marks lo ds W' := h.only he (fun _ _ _ _ _ _ x => x)
theorem Marks.low {lo : Nat} {W : AW} : ∀ {ds : List Deferred}, Marks lo ds W → ∀ d ∈ ds, ∀ r, d.target = .collected r → r < W.next
  | d :: ds, h, d', hd, r, hr => by
    obtain ⟨r', h1, h2, h3, h4, h5, h6⟩ := h
    cases hd with
    | head => rw [h1] at hr; cases hr; exact h3
    | tail _ hd => exact h6.low d' hd r hr
theorem Marks.above {lo : Nat} {W : AW} : ∀ {ds : List Deferred}, Marks lo ds W → ∀ d ∈ ds, ∀ r, d.target = .collected r → lo ≤ r
  | d :: ds, h, d', hd, r, hr => by
    obtain ⟨r', h1, h2, h3, h4, h5, h6⟩ := h
    cases hd with
    | head => rw [h1] at hr; cases hr; exact h2
    | tail _ hd => exact h6.above d' hd r hr
theorem Marks.collects2 {lo : Nat} : ∀ {ds : List Deferred} {W : AW}, Marks lo ds W → ∃ W', Collects ds W W' ∧ Only (fun b => ∃ d ∈ ds, d.target = .collected b) W W'
  | [], W, _ => ⟨W, rfl, .refl _ _⟩
  | d :: ds, W, h => by
    obtain ⟨r, h1, h2, h3, h4, h5, h6⟩ := h
    have h6' : Marks lo ds (W.setObj r (.deferred none)) := h6.only (setObj_only W r _) (fun d' hd r' hr _ _ e => h5 d' hd (by rw [hr, e]))
    obtain ⟨W', g1, g2⟩ := h6'.collects2
    exact ⟨W', ⟨r, h1, h4, g1⟩, Only.trans (Only.mono (setObj_only W r _) (fun b _ e => ⟨d, List.mem_cons_self .., by rw [e]; exact h1⟩)) (g2.mono (fun b _ ⟨d', hd, e⟩ => ⟨d', List.mem_cons_of_mem _ hd, e⟩))⟩
def arrV (g : Nat → Int) : List Value := (List.range 24).map fun j => .int .i64 (g j)
theorem arrV_len (g : Nat → Int) : (arrV g).length = 24 := by simp [arrV]
theorem arrV_at {j : Nat} (g : Nat → Int) (h : j < 24) : (arrV g)[j]? = some (.int .i64 (g j)) := by
  simp only [arrV, List.getElem?_map, List.getElem?_range h]; rfl
def updI (g : Nat → Int) (j : Nat) (x : Int) : Nat → Int := fun i => if i = j then x else g i
theorem arrV_set {j : Nat} (g : Nat → Int) (x : Int) : (arrV g).set j (.int .i64 x) = arrV (updI g j x) := by
  apply List.ext_getElem?
  intro i
  rw [List.getElem?_set]
  by_cases hi : i < 24
  · rw [arrV_at _ hi, arrV_at _ hi, arrV_len]
    by_cases e : j = i
    · subst e; rw [if_pos rfl, if_pos hi]; simp [updI]
    · rw [if_neg e]; simp only [updI, if_neg (Ne.symm e)]
  · rw [List.getElem?_eq_none (by rw [arrV_len]; omega), List.getElem?_eq_none (by rw [arrV_len]; omega)]
    split
    · rw [arrV_len, if_neg (by omega)]
    · rfl
def ArrAt (W : AW) (b ty : Nat) (g : Nat → Int) : Prop := Var W b ty (arrV g)
theorem ArrAt.put {W : AW} {b ty : Nat} {g : Nat → Int} (h : ArrAt W b ty g) {t : TypeId} {i : TypeInfo} (hi : T0.info.get t = some i) (hs : i.size = 1) {j : Nat} (hj : j < 24) (x : Int) : ∃ W', aStoreVar T0 W t b j (.int .i64 x) = some W' ∧ W'.next = W.next ∧ Only (fun c => c = b) W W' ∧ ArrAt W' b ty (updI g j x) := by
  obtain ⟨W', g1, g2, g3, g4⟩ := Var.store h (T := T0) (t := t) (v := .int .i64 x) (o := j) hi (by rw [hs]; rfl) (by rw [arrV_len]; show j + 1 ≤ 24; omega) rfl
  refine ⟨W', g1, g2, g3, ?_⟩
  have e : (arrV g).take j ++ acells (.int .i64 x) ++ (arrV g).drop (j + (acells (.int .i64 x)).length) = (arrV g).set j (.int .i64 x) := by
    rw [List.set_eq_take_append_cons_drop, if_pos (by rw [arrV_len]; omega)]
    simp [acells]
  rw [e, arrV_set] at g4; exact g4
theorem ArrAt.load3 {W : AW} {b ty : Nat} {g : Nat → Int} (h : ArrAt W b ty g) {j : Nat} (hj : j < 24) : aLoadVar T0 W 3 b j = some (.int .i64 (g j)) := Var.load1 h (T := T0) und3 rfl (arrV_at g hj)
theorem ArrAt.load2 {W : AW} {b ty : Nat} {g : Nat → Int} (h : ArrAt W b ty g) {j : Nat} (hj : j < 24) : aLoadVar T0 W 2 b j = some (.int .i64 (g j)) := Var.load1 h (T := T0) und2 rfl (arrV_at g hj)
def castF (f : Nat → Nat) : Nat → Int := fun j => ((f j : Nat) : Int)
theorem arr_zero3 : rep [.int .i64 0] 24 = arrV (castF fun _ => 0) := by kernel_rfl
theorem arr_zero2 : intsV (zeros24) = arrV (fun _ => 0) := by kernel_rfl
def updF (g : Nat → Nat) (j x : Nat) : Nat → Nat := fun i => if i = j then x else g i
theorem updI_cast (f : Nat → Nat) (j x : Nat) : updI (castF f) j ((x : Nat) : Int) = castF (updF f j x) := by
  funext i; unfold updI castF updF; split <;> rfl
def midA (a : Nat → Nat) (q m S left : Nat) : Nat → Nat := fun j => if (S.testBit j && !left.testBit j && decide (a j = q)) = true then m else a j
theorem midA_all (a : Nat → Nat) (q m S : Nat) : midA a q m S S = a := by
  funext j; unfold midA; cases S.testBit j <;> simp
theorem midA_at {a : Nat → Nat} {q m S left k : Nat} (hk : left.testBit k = true) : midA a q m S left k = a k := by
  unfold midA; rw [hk]; simp
theorem midA_step {a : Nat → Nat} {q m S left k : Nat} (hS : S.testBit k = true) (hk : left.testBit k = true) (hlow : ∀ j, j < k → left.testBit j = false) : midA a q m S (dropLow left) = if a k = q then updF (midA a q m S left) k m else midA a q m S left := by
  funext j
  by_cases e : j = k
  · subst e
    by_cases hq : a j = q
    · rw [if_pos hq]
      unfold midA updF
      rw [dropLow_bit hk hlow]; simp [-testBit_dec, hS, hq]
    · rw [if_neg hq]
      unfold midA
      simp [hq]
  · have h1 : midA a q m S (dropLow left) j = midA a q m S left j := by
      unfold midA; rw [dropLow_bit hk hlow]; simp [e]
    rw [h1]; split
    · unfold updF; rw [if_neg e]
    · rfl
theorem midA_done {a : Nat → Nat} {m S S' : Nat} (h : ∀ j, S'.testBit j = (S.testBit j && decide (j ≠ m))) : midA a (a m) m S' 0 = aNew a S.testBit m := by
  funext j
  unfold midA aNew
  rw [h]
  by_cases e : j = m
  · subst e; simp
  · rw [if_neg e]
    cases S.testBit j <;> simp [e]
theorem swap_done {a : Nat → Nat} {S : Nat → Bool} {m : Nat} (hne : a m ≠ m) : updF (updF (aNew a S m) m (a (a m))) (a m) m = aSwap a S m := by
  funext x
  unfold updF aSwap aNew
  by_cases e1 : x = m
  · subst e1; rw [if_neg (Ne.symm hne)]; simp
  · by_cases e2 : x = a m
    · subst e2; simp [hne]
    · simp [e1, e2]
theorem links_sym {P : Int} {l : List Tri} (h : planOk P (arcsQ l) = true) : SymQ (linksQ l) := fun a ha => by
  have hin := (links_in h).step ha
  simp only [linksQ, List.mem_map] at ha
  obtain ⟨b, hb, rfl⟩ := ha
  simp only at hin ⊢
  obtain ⟨_, _, _, _, _, h1, _⟩ := hin
  exact ⟨h1, trivial⟩
theorem cut_all {P : Nat} {L : List Quad} (hin : PlanIn P L) (hP24 : P ≤ 24) {s t : Nat} (hs : s < P) (ht : t < P) {x : Int} {S : Nat} (hx : x = capQ S L) (hm : ∀ T : Nat, T.testBit s = true → T.testBit t = false → x ≤ capQ T L) : ∀ f : Nat → Bool, f s = true → f t = false → capF S.testBit L ≤ capF f L := fun f f1 f2 => by
  have hb := fun q => nearS_bit (fun q => if f q = true then 1 else 0) q 24
  have hb2 : ∀ q, q < 24 → (nearS (fun q => if f q = true then 1 else 0) 24).testBit q = f q := fun q hq => by
    rw [hb, decide_eq_true hq, Bool.true_and]
    cases f q <;> simp
  have h1 := hm _ (by rw [hb2 s (by omega)]; exact f1) (by rw [hb2 t (by omega)]; exact f2)
  rw [capF_Q, ← hx]
  refine Int.le_trans h1 (Int.le_of_eq ?_)
  rw [← capF_Q]
  refine capF_congr (fun a ha => ?_)
  have := hin.step ha
  exact ⟨hb2 _ (by omega), hb2 _ (by omega)⟩
theorem build66t (x y z : Int) : aBuild T0 66 [(0, .int .i64 x), (1, .int .i64 y), (2, .int .i64 z)] = some (.agg ⟨[.int .i64 x, .int .i64 y, .int .i64 z]⟩) := by kernel_rfl
theorem flt_bs59 {ρ : Operand → Option Value} {o : Operand} {x y z : Int} (h : ρ o = some (.agg ⟨[.int .i64 x, .int .i64 y, .int .i64 z]⟩)) : aFlt T0 ρ (.buildSlice 59 1 #[(0, o)]) = some ⟨66, [.int .i64 x, .int .i64 y, .int .i64 z], false, 1, 1⟩ := by
  have hp : aParts ρ [(0, o)] = some [(0, .agg ⟨[.int .i64 x, .int .i64 y, .int .i64 z]⟩)] := by simp [aParts, h]
  have hf : aFill (fun j => some (j * 3, 3)) (rep [.int .i64 0, .int .i64 0, .int .i64 0] 1) [(0, .agg ⟨[.int .i64 x, .int .i64 y, .int .i64 z]⟩)] = some [.int .i64 x, .int .i64 y, .int .i64 z] := by kernel_rfl
  simp only [aFlt, hp, und59, inf66, z66, is66, acells]
  rw [show Nat.ble (1 * 3) 16777216 = true from rfl]
  simp only [List.length_cons, List.length_nil, Nat.beq_refl]
  rw [hf]
theorem tree_wp {W : AW} {v : Value} {P : Nat} {lk : List Tri} (h : TriIn W v lk) (hok : planOk P (arcsQ lk) = true) (hT : tabsIn T0 T0.tabs W = true) (h0 : 0 < W.next) :
    WpF T0 27 [.agg ⟨[.int .i64 P, v]⟩] W (fun u W' => Ext W W' ∧ ∃ lv a w D rk, u = .tuple ⟨[lv, .int .i64 0]⟩ ∧ GH P (linksQ lk) a w D rk P ∧ TriIn W' lv (treeL a w (P - 1))) := by
  have hPin := links_in hok
  have hsym := links_sym hok
  obtain ⟨hP2, hP24, _⟩ := hPin.size
  refine wpFd fun27 rfl ?_
  obtain ⟨W0, hW0, hE0, hV0, hn0⟩ : ∃ W0, W0 = W.newCells 35 [.int .i64 P, v] ∧ Ext W W0 ∧ Var W0 W.next 35 [.int .i64 P, v] ∧ W0.next = W.next + 1 := ⟨_, rfl, .newCells _ _ _, Var.new _ _ _, rfl⟩
  have hN := boardPlan (P := (P : Int)) (h.ext hE0)
  have hc := check_wp hN
  rw [chk, planOk_links, hok] at hc
  have l350 := load35 hV0
  try simp only [wpK_assoc]
  refine wpK_reg (fun R hR => by simp [← hW0]; exact hR) ?_
  try simp only [wpK_assoc]
  refine wpK_x0 (fun R hR => by
      simp [l350, opMI35, -opMakeInterface, aEnter, fun51, short_other, aCallV]; rw [callS_none]
      refine (hc).mono ?_
      rintro _ W1 ⟨e1, rfl⟩
      simp [l350, opMI35, -opMakeInterface]; exact hR W1 e1) ?_
  rintro W1 e1
  try simp only [wpK_assoc]
  refine wpK_reg (fun R hR => by simp []; exact hR) ?_
  try simp only [wpK_assoc]
  first | refine wpK_onF (by simp []) ?_ | refine wpK_out (by simp []) ?_ | refine wpK_condF (by simp []) ?_ | refine wpK_endF (by simp []) (wpK_skip ?_) | refine wpK_endF (by simp []) ?_
  obtain ⟨W2, hW2, hE2, hA2, hn2⟩ : ∃ W2, W2 = W1.newCells 132 (rep [.int .i64 0] 24) ∧ Ext W1 W2 ∧ ArrAt W2 W1.next 132 (castF fun _ => 0) ∧ W2.next = W1.next + 1 := ⟨_, rfl, .newCells _ _ _, by have e := arr_zero3; rw [ArrAt, ← e]; exact Var.new _ _ _, rfl⟩
  try simp only [wpK_assoc]
  refine wpK_reg (fun R hR => by simp [zero132, ← hW2]; exact hR) ?_
  obtain ⟨W3, hW3, hE3, hA3, hn3⟩ : ∃ W3, W3 = W2.newCells 126 (intsV (zeros24)) ∧ Ext W2 W3 ∧ ArrAt W3 W2.next 126 (fun _ => 0) ∧ W3.next = W2.next + 1 := ⟨_, rfl, .newCells _ _ _, by have e := arr_zero2; rw [ArrAt, ← e]; exact Var.new _ _ _, rfl⟩
  try simp only [wpK_assoc]
  refine wpK_reg (fun R hR => by simp [zero126, ← hW3]; exact hR) ?_
  obtain ⟨W4, s1, s2, hE4, hV4⟩ := storeVar_new (T := T0) (W := W3) (t := 3) (z := [.int .i64 0]) (v := .int .i64 1) inf3 (by rw [is3]; rfl) (by rw [is3]; rfl) rfl
  have hV4 : Var W4 W3.next 3 [.int .i64 (1 : Nat)] := hV4
  try simp only [wpK_assoc]
  refine wpK_reg (fun R hR => by simp [zero3', s1]; exact hR) ?_
  obtain ⟨p5, hp5⟩ : ∃ p5, p5 = W1.next := ⟨_, rfl⟩
  rw [← hp5] at hA2 hn2
  have e01 := e1.1
  have hE01 := hE0.trans e1
  have hV1 := hV0.ext e1
  have hW3n : W3.next = p5 + 2 := by omega
  rw [hn2, ← hn2] at hA3
  rw [hW3n] at hV4 s2
  rw [hn2] at hA3
  have hA24 : ArrAt W4 p5 132 (castF fun _ => 0) := Var.ext (Var.ext hA2 hE3) hE4
  have hA34 : ArrAt W4 (p5 + 1) 126 (fun _ => 0) := Var.ext hA3 hE4
  have hO14 : Only (fun b => p5 ≤ b) W1 W4 := ((hE2.trans hE3).trans hE4).mono (fun _ _ x => x.elim)
  have xt : ∀ {W'}, Only (fun b => p5 ≤ b) W1 W' → Ext W W' := fun {W'} ho => ⟨by have := ho.1; omega, fun b hb _ => by rw [ho.2 b (by omega) (by omega)]; exact hE01.2 b hb (fun x => x)⟩
  have l35 : ∀ {W'}, Only (fun b => p5 ≤ b) W1 W' → aLoadVar T0 W' 35 W.next 0 = some (.agg ⟨[.int .i64 P, v]⟩) := fun ho => load35 (hV1.only ho (by omega))
  have lP : ∀ {W'}, Only (fun b => p5 ≤ b) W1 W' → aLoadVar T0 W' 3 W.next 0 = some (.int .i64 P) := fun ho => (hV1.only ho (by omega)).load1 (T := T0) und3 rfl (j := 0) (v := .int .i64 P) rfl
  clear s1 hW0 hW2 hW3
  obtain ⟨L, hL⟩ : ∃ L, L = linksQ lk := ⟨_, rfl⟩
  rw [← hL] at hPin hsym ⊢
  try simp only [wpK_assoc]
  refine wpK_while (I := fun q A' W' => A'.n = 94 ∧ A'.tmps.get 1 = some (.pointer (some ⟨W.next, 0, none⟩)) ∧ A'.tmps.get 5 = some (.pointer (some ⟨p5, 0, none⟩)) ∧ A'.tmps.get 6 = some (.pointer (some ⟨p5 + 1, 0, none⟩)) ∧ Marks (p5 + 2) A'.defers W' ∧ Only (fun b => p5 ≤ b) W1 W' ∧
      ∃ (m b7 : Nat) (a : Nat → Nat) (w : Nat → Int) (D : Nat → Nat → Bool) (rk : Nat → Nat), A'.tmps.get 7 = some (.pointer (some ⟨b7, 0, none⟩)) ∧ q = P - m ∧ p5 + 2 ≤ b7 ∧ Var W' b7 3 [.int .i64 (m : Nat)] ∧ ArrAt W' p5 132 (castF a) ∧ ArrAt W' (p5 + 1) 126 w ∧ GH P L a w D rk m)
    (J := fun A' W' => A'.n = 94 ∧ A'.tmps.get 1 = some (.pointer (some ⟨W.next, 0, none⟩)) ∧ A'.tmps.get 5 = some (.pointer (some ⟨p5, 0, none⟩)) ∧ A'.tmps.get 6 = some (.pointer (some ⟨p5 + 1, 0, none⟩)) ∧ Marks (p5 + 2) A'.defers W' ∧ Only (fun b => p5 ≤ b) W1 W' ∧
      ∃ (a : Nat → Nat) (w : Nat → Int) (D : Nat → Nat → Bool) (rk : Nat → Nat), ArrAt W' p5 132 (castF a) ∧ ArrAt W' (p5 + 1) 126 w ∧ GH P L a w D rk P) (Rt := fun _ _ => False) (k := P - 1) ?_ ?_ ?_ ?_
  · exact ⟨rfl, by simp, by simp [hp5], by simp [hn2, hp5], trivial, hO14, 1, p5 + 2, _, _, _, _, by simp [hW3n], rfl, by omega, hV4, hA24, hA34, GH.start P L (by omega)⟩
  · rintro q ⟨tm, n', ds⟩ We ⟨hn', h1, h5, h6, hMk, hOe, m, b7, a, w, D, rk, h7, hq, hb7, hVe, hAe, hBe, hG⟩ Q' hJ hRt hI
    simp only at hn' h1 h5 h6 hMk h7
    subst hn'
    have ne := hOe.1
    have hm0 := hG.m0
    have hmP := hG.mP
    have lm := hVe.load1 (T := T0) und3 rfl (j := 0) (v := .int .i64 (m : Nat)) rfl
    have lPe := lP hOe
    by_cases hlt : m < P
    case neg =>
      have hie : m = P := by omega
      subst hie
      try simp only [wpK_assoc]
      refine wpK_reg (fun R hR => by simp [h1, h7, lm, lPe]; exact hR) ?_
      try simp only [wpK_assoc]
      first | refine wpK_onF (by simp []) ?_ | refine wpK_out (by simp []) ?_ | refine wpK_condF (by simp []) ?_ | refine wpK_endF (by simp []) (wpK_skip ?_) | refine wpK_endF (by simp []) ?_
      exact hJ _ _ ⟨rfl, by simp [h1], by simp [h5], by simp [h6], hMk, hOe, a, w, D, rk, hAe, hBe, hG⟩
    have hlt' : (m : Int) < P := by omega
    try simp only [wpK_assoc]
    refine wpK_reg (fun R hR => by simp [h1, h7, lm, lPe, hlt']; exact hR) ?_
    try simp only [wpK_assoc]
    first | refine wpK_onT (by simp [hlt]) ?_ | refine wpK_outT (by simp [hlt]) ?_ | refine wpK_condT (by simp [hlt]) ?_ | refine wpK_endT (by simp [hlt]) ?_
    refine wpK_block ?_
    have ham := hG.lt m hlt
    have hane := hG.ne m hm0 hlt
    have ixm := ix132 p5 0 m (by omega)
    have lam := hAe.load3 (j := m) (by omega)
    obtain ⟨Wf, f1, f2, hEf, hVf⟩ := storeVar_new (T := T0) (W := We) (t := 3) (z := [.int .i64 0]) (v := .int .i64 (castF a m)) inf3 (by rw [is3]; rfl) (by rw [is3]; rfl) rfl
    have hVf : Var Wf We.next 3 [.int .i64 (castF a m)] := hVf
    obtain ⟨b8, hb8⟩ : ∃ b8, b8 = We.next := ⟨_, rfl⟩
    rw [Nat.zero_add] at ixm
    try simp only [wpK_assoc]
    refine wpK_reg (fun R hR => by simp [h5, h7, lm, ixm, lam, zero3', f1]; exact hR) ?_
    rw [← hb8] at hVf
    have nf := hEf.1
    have hOf : Only (fun b => p5 ≤ b) W1 Wf := hOe.trans (hEf.mono (fun _ _ x => x.elim))
    have hcst : castF a m = ((a m : Nat) : Int) := rfl
    have lm1 := (hVe.ext hEf).load1 (T := T0) und3 rfl (j := 0) (v := .int .i64 (m : Nat)) rfl
    have lq1 := hVf.load1 (T := T0) und3 rfl (j := 0) (v := .int .i64 (castF a m)) rfl
    rw [hcst] at lq1
    have hNf := boardPlan (P := (P : Int)) (h.ext (xt hOf))
    rw [← hL] at hNf
    have htwo : two? (m : Nat) (a m : Nat) P = true := by
      simp only [two?, Bool.and_eq_true, decide_eq_true_eq]; omega
    have hcut := firstCut_wp hNf hPin htwo (tabs_ext hT h0 (xt hOf)) (by omega)
    have hl35f := l35 hOf
    try simp only [wpK_assoc]
    refine wpK_x3 (P := fun (x : Int) (rm : Nat → Int) (lv : Nat → Nat) Wg => Ext Wf Wg ∧ Filled (layL (1 <<< m) m L) m (a m) (hCap (layL (1 <<< m) m L)) x rm lv) (fun R hR => by
      simp [h1, h7, lm1, lq1, ← hb8, hl35f, opMI35, -opMakeInterface, aEnter, fun57, short_other, aCallV]; rw [callS_none]
      refine hcut.mono ?_
      rintro _ Wg ⟨hE, x, rm, lv, rfl, hF⟩
      simp
      exact hR x rm lv Wg (And.intro hE hF)) ?_
    rintro x rm lv Wg ⟨hEg, hF⟩
    have ng := hEg.1
    obtain ⟨nb, nlt⟩ := near_in hPin hlt hF
    obtain ⟨c1, c2, c3, c4⟩ := filled_capQ hPin (by omega) (by omega) hF
    obtain ⟨S, hS⟩ : ∃ S, S = nearS lv 24 := ⟨_, rfl⟩
    rw [← hS] at nb nlt c2 c3 c4
    have hmin := cut_all hPin (by omega) hlt (by omega : a m < P) c2 (fun T t1 t2 => (c1 T t1 t2).1)
    have hpP : 2 ^ P ≤ 2 ^ 24 := Nat.pow_le_pow_right (by omega) (by omega)
    obtain ⟨S', q1, q2, q3⟩ := aBinI_andNot .u64 S (1 <<< m) (by show S < 18446744073709551616; omega) (by exact one_lt (by omega))
    have q3' : ∀ j, S'.testBit j = (S.testBit j && decide (j ≠ m)) := fun j => by
      rw [q3, one_bit]; by_cases e : j = m
      · subst e; simp
      · simp [e, Ne.symm e]
    have h1p := one_wp m (by omega) Wg
    generalize 1 <<< m = om at q2 h1p
    have hVg := (hVe.ext hEf).ext hEg
    have hVqg := hVf.ext hEg
    have lm2 := hVg.load1 (T := T0) und3 rfl (j := 0) (v := .int .i64 (m : Nat)) rfl
    try simp only [wpK_assoc]
    refine wpK_x0 (P := fun Wh => Ext Wg Wh ∧ Wh.Has Wg.next 0 (.int .u64 (S' : Nat))) (fun R hR => by
      simp [h7, lm2, aEnter, fun54, short_other, aCallV]; rw [callS_none]
      refine h1p.mono ?_
      rintro _ W9 ⟨e9, rfl⟩; subst W9
      simp [← hS, q2, aEnter, fun66, short_other, aCallV]; rw [callS_none]
      refine (places_wp S').mono ?_
      rintro _ Wh ⟨hE, rfl, hB⟩
      simp; exact hR Wh (And.intro hE hB)) ?_
    rintro Wh ⟨hEh, hBh⟩
    have nh := hEh.1
    refine wpK_keep (fun tm' => tm'.get 1 = some (.pointer (some ⟨W.next, 0, none⟩)) ∧ tm'.get 5 = some (.pointer (some ⟨p5, 0, none⟩)) ∧ tm'.get 6 = some (.pointer (some ⟨p5 + 1, 0, none⟩)) ∧ tm'.get 7 = some (.pointer (some ⟨b7, 0, none⟩)) ∧ tm'.get 8 = some (.pointer (some ⟨b8, 0, none⟩)) ∧ tm'.get 9 = some (.int .u64 (S : Nat)) ∧ tm'.get 10 = some (.int .i64 x) ∧ tm'.get 41 = some (.func (.func 81) ⟨[]⟩ ⟨[.pointer (some ⟨Wg.next, 0, none⟩)]⟩)) ⟨by simp [h1], by simp [h5], by simp [h6], by simp [h7], by simp [hb8], by simp [hS], by simp, by simp⟩ ?_
    clear h1 h5 h6 h7
    rintro tm ⟨h1, h5, h6, h7, h8, h9, h10, h41⟩
    refine wpK_range2 (f := 81) (first := ⟨[]⟩) (cap := ⟨[.pointer (some ⟨Wg.next, 0, none⟩)]⟩) (by simp [h41]) fun81 (fun W5 hn5 hW5 hdf hlp => ?_)
    obtain ⟨z, hz⟩ : ∃ z, z = Wh.next := ⟨_, rfl⟩
    rw [← hz] at hn5 hdf hlp
    have hEh5 : Ext Wh W5 := ⟨by omega, fun b hb _ => hW5 b hb⟩
    have hEe5 := ((hEf.trans hEg).trans hEh).trans hEh5
    have hV5 := hVe.ext hEe5
    have hV85 := (hVqg.ext hEh).ext hEh5
    have hA5 : ArrAt W5 p5 132 (castF a) := Var.ext hAe hEe5
    have hB5 : ArrAt W5 (p5 + 1) 126 w := Var.ext hBe hEe5
    have hM5 := hMk.ext hEe5
    have hO5 : Only (fun b => p5 ≤ b) W1 W5 := hOe.trans (hEe5.mono (fun _ _ x => x.elim))
    have hE7 := hVe.1
    have hE8 := hVf.1
    refine (places1_wp (l := Wh.next + 1) (bx := Wg.next) (x := S') (fun left V => Only (fun b => b = p5 ∨ b = z + 1 ∨ W5.next ≤ b) W5 V ∧ V.blocks.get (z + 1) = W5.blocks.get (z + 1) ∧ (∀ j, left.testBit j = true → S'.testBit j = true) ∧ ArrAt V p5 132 (castF (midA a (a m) m S' left))) (by omega) (fun left k V hC' hl' hk1 hk2 => ?_)
      ⟨.refl _ _, rfl, fun _ hj => hj, by rw [midA_all]; exact hA5⟩ (hBh.ext hEh5)).mono ?_
    · obtain ⟨d1, d2, d3, d4⟩ := hC'
      have hl := d2.trans hlp
      rw [hz] at hl
      have nv := d1.1
      have hkS' := d3 k hk1
      have hkS : S.testBit k = true := by rw [q3'] at hkS'; simp only [Bool.and_eq_true] at hkS'; exact hkS'.1
      have hkP : k < P := by
        by_cases e : k < P
        · exact e
        · rw [nb k (by omega)] at hkS; cases hkS
      have hOv : Only (fun b => p5 ≤ b) W1 V := hO5.trans (d1.mono (fun b _ hb => by omega))
      refine ⟨tabs_ext hT h0 (xt hOv), _, _, _, _, _, _, _, _, _, _, tm.set 42 (.int .i64 (k : Nat)), hl, rfl, ?_⟩
      refine wpR ?_
      try simp only [wpK_assoc]
      refine wpK_reg1 (fun R hR => by simp []; exact hR) ?_
      refine ⟨rfl, _, _, _, _, _, _, _, _, hl, ?_⟩
      rw [← hz] at hl ⊢
      generalize hbz : (AObj.loop LoopState.busy _ _ _ _ _ _ _ _) = bz
      obtain ⟨Vb, hVb, hOb, hnb⟩ : ∃ Vb, Vb = V.setObj (z + 1) bz ∧ Only (fun b => b = z + 1) V Vb ∧ Vb.next = V.next := ⟨_, rfl, setObj_only _ _ _, rfl⟩
      rw [← hVb]
      have hlb : Vb.blocks.get (z + 1) = some ⟨bz, []⟩ := by rw [hVb, setObj_get, if_pos rfl]
      have dOb : Only (fun b => b = p5 ∨ b = z + 1 ∨ W5.next ≤ b) W5 Vb := d1.trans (hOb.mono (fun b _ hb => .inr (.inl hb)))
      have hAb : ArrAt Vb p5 132 (castF (midA a (a m) m S' left)) := Var.only d4 hOb (by omega)
      have lk := hAb.load3 (j := k) (by omega)
      rw [show castF (midA a (a m) m S' left) k = ((a k : Nat) : Int) from by unfold castF; rw [midA_at hk1]] at lk
      have lq5 := (hV85.only dOb (by omega)).load1 (T := T0) und3 rfl (j := 0) (v := .int .i64 (castF a m)) rfl
      rw [hcst] at lq5
      have lm5 := (hV5.only dOb (by omega)).load1 (T := T0) und3 rfl (j := 0) (v := .int .i64 (m : Nat)) rfl
      have ixk := ix132 p5 0 k (by omega)
      rw [Nat.zero_add] at ixk
      have hst := midA_step (a := a) (q := a m) (m := m) hkS' hk1 hk2
      have hdl3 : ∀ j, (dropLow left).testBit j = true → S'.testBit j = true := fun j hj => by
        rw [dropLow_bit hk1 hk2] at hj; simp only [Bool.and_eq_true] at hj; exact d3 j hj.1
      refine wpK_block1 ?_
      try simp only [wpK_assoc]
      refine wpK_dn (wr := Tr.nil |>.set 43 0 |>.set 44 1 |>.set 45 2 |>.set 46 3 |>.set 47 4) (bits := Tr.nil.lay 0 [0, 1, 3, 0, 15]) (ord := [0, 1, 2, 3, 4]) (by kernel_rfl) (by kernel_rfl) (by kernel_rfl) (fun G hG => by
        simp [h5, h8, ixk, lk, lq5]
        exact hG) ?_
      by_cases hq : a k = a m
      · rw [if_pos hq] at hst
        obtain ⟨Vd, w1, w2, w3, w4⟩ := hAb.put inf3 is3 (j := k) (by omega) ((m : Nat) : Int)
        rw [updI_cast, ← hst] at w4
        have hqi : ((a k : Nat) : Int) = ((a m : Nat) : Int) := by omega
        refine wpK_endT (by simp [hqi]) ?_
        try simp only [wpK_assoc]
        refine wpK_reg1 (fun R hR => by simp [h5, h7, lm5, ixk, w1]; exact hR) ?_
        simp only [leaves_normal]
        have hdl : Vd.blocks.get (z + 1) = some ⟨bz, []⟩ := by rw [w3.2 _ (by omega) (by omega)]; exact hlb
        subst hbz
        refine ⟨_, _, _, _, _, _, _, _, _, hdl, rfl, ?_⟩
        have hOz := fun o => setObj_only Vd (z + 1) o
        exact ⟨(dOb.trans (w3.mono (fun b _ hb => .inl hb))).trans ((hOz _).mono (fun b _ hb => .inr (.inl hb))), by rw [setObj_get, if_pos rfl]; exact hlp.symm, hdl3, Var.only w4 (hOz _) (by omega)⟩
      · rw [if_neg hq] at hst
        have hqi : ¬ ((a k : Nat) : Int) = ((a m : Nat) : Int) := by omega
        refine wpK_endF (by simp [hqi]) (wpK_skip ?_)
        simp only [leaves_normal]
        subst hbz
        refine ⟨_, _, _, _, _, _, _, _, _, hlb, rfl, ?_⟩
        have hOz := fun o => setObj_only Vb (z + 1) o
        exact ⟨dOb.trans ((hOz _).mono (fun b _ hb => .inr (.inl hb))), by rw [setObj_get, if_pos rfl]; exact hlp.symm, hdl3, by rw [hst]; exact Var.only hAb (hOz _) (by omega)⟩
    · rintro _ W6 ⟨d1, d2, d3, d4⟩
      have hl6 := d2.trans hlp
      rw [hz] at hl6
      rw [midA_done q3'] at d4
      refine ⟨_, _, _, _, _, _, _, _, _, hl6, (fun h => by cases h), ?_⟩
      rw [← hz]
      generalize hex : (AObj.loop LoopState.exhausted _ _ _ _ _ _ _ _) = ex
      obtain ⟨W7, hW7, hO7, hn7⟩ : ∃ W7, W7 = W6.setObj (z + 1) ex ∧ Only (fun b => b = z + 1) W6 W7 ∧ W7.next = W6.next := ⟨_, rfl, setObj_only _ _ _, rfl⟩
      rw [← hW7]
      clear hW7 hex
      have dO7 : Only (fun b => b = p5 ∨ b = z + 1 ∨ W5.next ≤ b) W5 W7 := d1.trans (hO7.mono (fun b _ hb => .inr (.inl hb)))
      have nd := dO7.1
      have hA7 : ArrAt W7 p5 132 (castF (aNew a S.testBit m)) := Var.only d4 hO7 (by omega)
      have hB7 : ArrAt W7 (p5 + 1) 126 w := Var.only hB5 dO7 (by omega)
      have hV77 := hV5.only dO7 (by omega)
      have hV87 := hV85.only dO7 (by omega)
      have hlow := hMk.low
      have f1 : Marks (p5 + 2) ({ target := .collected z, args := #[] } :: ds) W7 := ⟨z, rfl, by omega, by omega, by rw [dO7.2 z (by omega) (by omega)]; exact hdf, fun d hd e => by have := hlow d hd z e; omega, hM5.only dO7 (fun d hd r hr r1 _ hk => by have := hlow d hd r hr; omega)⟩
      have hO17 : Only (fun b => p5 ≤ b) W1 W7 := hO5.trans (dO7.mono (fun b _ hb => by omega))
      obtain ⟨ds', hds⟩ : ∃ ds', ds' = ({ target := .collected z, args := #[] } :: ds : List Deferred) := ⟨_, rfl⟩
      rw [← hds] at f1
      simp only [goOn, leaves_normal, behind_normal]
      rw [← hds]
      clear hds
      -- the weight, and whether the place above is on this side
      have lm7 := hV77.load1 (T := T0) und3 rfl (j := 0) (v := .int .i64 (m : Nat)) rfl
      have lq7 := hV87.load1 (T := T0) und3 rfl (j := 0) (v := .int .i64 (castF a m)) rfl
      rw [hcst] at lq7
      have ixm6 := ix126 (p5 + 1) 0 m (by omega)
      rw [Nat.zero_add] at ixm6
      obtain ⟨W8, w1, w2, w3, w4⟩ := hB7.put inf2 is2 (j := m) (by omega) x
      try simp only [wpK_assoc]
      refine wpK_reg (fun R hR => by simp [h6, h7, h10, lm7, ixm6, w1]; exact hR) ?_
      have n8 := w3.1
      have hA8 : ArrAt W8 p5 132 (castF (aNew a S.testBit m)) := Var.only hA7 w3 (by omega)
      have hV78 := hV77.only w3 (by omega)
      have hV88 := hV87.only w3 (by omega)
      have lm8 := hV78.load1 (T := T0) und3 rfl (j := 0) (v := .int .i64 (m : Nat)) rfl
      have lq8 := hV88.load1 (T := T0) und3 rfl (j := 0) (v := .int .i64 (castF a m)) rfl
      rw [hcst] at lq8
      have ixq := ix132 p5 0 (a m) (by omega)
      rw [Nat.zero_add] at ixq
      have lqq := hA8.load3 (j := a m) (by omega)
      have haq : aNew a S.testBit m (a m) = a (a m) := by
        unfold aNew; rw [if_neg hane, if_neg (by rw [c4]; simp)]
      rw [show castF (aNew a S.testBit m) (a m) = ((a (a m) : Nat) : Int) from by unfold castF; rw [haq]] at lqq
      have haaP : a (a m) < P := by have := hG.lt (a m) (by omega); omega
      have hhas := has_wp S (a (a m)) (by omega) (by omega) W8
      obtain ⟨tb, htb⟩ : ∃ tb, tb = S.testBit (a (a m)) := ⟨_, rfl⟩
      rw [← htb] at hhas
      try simp only [wpK_assoc]
      refine wpK_reg (fun R hR => by
          simp [h5, h8, h9, lq8, ixq, lqq, aEnter, fun62, short_other, aCallV]; rw [callS_none]
          refine (hhas).mono ?_
          rintro _ W9 ⟨e9, rfl⟩; subst W9
          simp [h5, h8, h9, lq8, ixq, lqq]; exact hR) ?_
      have hOe8 : Only (fun b => p5 ≤ b) W1 W8 := hO17.trans (w3.mono (fun b _ hb => by omega))
      have hM8 : Marks (p5 + 2) ds' W8 := f1.only w3 (fun d hd r hr r1 _ hk => by omega)
      try simp only [wpK_assoc]
      refine wpK_cut1 (J := fun A' W' => A'.n = 94 ∧ A'.tmps.get 1 = some (.pointer (some ⟨W.next, 0, none⟩)) ∧ A'.tmps.get 5 = some (.pointer (some ⟨p5, 0, none⟩)) ∧ A'.tmps.get 6 = some (.pointer (some ⟨p5 + 1, 0, none⟩)) ∧ A'.tmps.get 7 = some (.pointer (some ⟨b7, 0, none⟩)) ∧ A'.defers = ds' ∧ Only (fun b => b = p5 ∨ b = p5 + 1) W8 W' ∧ ∃ (a' : Nat → Nat) (w' : Nat → Int) (D' : Nat → Nat → Bool) (rk' : Nat → Nat), ArrAt W' p5 132 (castF a') ∧ ArrAt W' (p5 + 1) 126 w' ∧ GH P L a' w' D' rk' (m + 1)) (fun Q2 hQ2 => ?_) ?_
      · cases hr : tb with
        | false =>
          refine wpK_endF (by simp [hr]) (wpK_skip (hQ2 _ _ ?_))
          obtain ⟨D', rk', hG'⟩ := hG.step1 hsym hlt c3 c4 hmin (by rw [← htb]; exact hr)
          have hw' : (fun y => if y = m then capF S.testBit L else w y) = updI w m x := by
            funext y; unfold updI; rw [c2, ← capF_Q]
          rw [hw'] at hG'
          exact ⟨rfl, by simp [h1], by simp [h5], by simp [h6], by simp [h7], rfl, .refl _ _, _, _, D', rk', hA8, w4, hG'⟩
        | true =>
          refine wpK_endT (by simp [hr]) ?_
          obtain ⟨D', rk', hG'⟩ := hG.step2 hsym hlt c3 c4 hmin (by rw [← htb]; exact hr)
          obtain ⟨Wa, y1, y2, y3, y4⟩ := hA8.put inf3 is3 (j := m) (by omega) ((a (a m) : Nat) : Int)
          obtain ⟨Wb, z1, z2, z3, z4⟩ := y4.put inf3 is3 (j := a m) (by omega) ((m : Nat) : Int)
          rw [updI_cast, updI_cast, swap_done hane] at z4
          have lqa := (hV88.only y3 (by omega)).load1 (T := T0) und3 rfl (j := 0) (v := .int .i64 (castF a m)) rfl
          rw [hcst] at lqa
          have lma := (hV78.only y3 (by omega)).load1 (T := T0) und3 rfl (j := 0) (v := .int .i64 (m : Nat)) rfl
          have hyz := y3.trans z3
          try simp only [wpK_assoc]
          refine wpK_dn (wr := Tr.nil |>.set 59 0 |>.set 60 1 |>.set 61 2 |>.set 62 3 |>.set 63 4 |>.set 64 5 |>.set 65 6 |>.set 66 8) (bits := Tr.nil.lay 0 [0, 0, 0, 4, 12, 0, 29, 93, 255, 511]) (ord := [0, 1, 2, 3, 4, 5, 6, 7, 8, 9]) (by kernel_rfl) (by kernel_rfl) (by kernel_rfl) (fun G hG => by
            simp [h5, h7, h8, lm8, lma, lq8, lqa, ixm, ixq, lqq, y1, y2, z1, z2]
            exact hG) ?_
          have hBb : ArrAt Wb (p5 + 1) 126 (updI w m x) := Var.only w4 hyz (by omega)
          have lwq := hBb.load2 (j := a m) (by omega)
          rw [show updI w m x (a m) = w (a m) from by unfold updI; rw [if_neg hane]] at lwq
          have ixq6 := ix126 (p5 + 1) 0 (a m) (by omega)
          rw [Nat.zero_add] at ixq6
          obtain ⟨Wc, t1, t2, t3, t4⟩ := hBb.put inf2 is2 (j := m) (by omega) (w (a m))
          obtain ⟨Wd, u1, u2, u3, u4⟩ := t4.put inf2 is2 (j := a m) (by omega) x
          have lmb := (hV78.only hyz (by omega)).load1 (T := T0) und3 rfl (j := 0) (v := .int .i64 (m : Nat)) rfl
          have lmc := ((hV78.only hyz (by omega)).only t3 (by omega)).load1 (T := T0) und3 rfl (j := 0) (v := .int .i64 (m : Nat)) rfl
          have hVqb := hV88.only hyz (by omega)
          have lqb := hVqb.load1 (T := T0) und3 rfl (j := 0) (v := .int .i64 (castF a m)) rfl
          have lqc := (hVqb.only t3 (by omega)).load1 (T := T0) und3 rfl (j := 0) (v := .int .i64 (castF a m)) rfl
          rw [hcst] at lqb lqc
          have htu := t3.trans u3
          try simp only [wpK_assoc]
          refine wpK_qn (wr := Tr.nil |>.set 67 0 |>.set 68 1 |>.set 69 2 |>.set 70 3 |>.set 71 4 |>.set 72 5 |>.set 73 6 |>.set 74 8) (bits := Tr.nil.lay 0 [0, 0, 0, 4, 12, 0, 29, 93, 255, 511]) (ord := [0, 1, 2, 3, 4, 5, 6, 7, 8, 9]) (by kernel_rfl) (by kernel_rfl) (by kernel_rfl) (fun G hG => by
            simp [h6, h7, h8, h10, lmb, lmc, lqb, lqc, ixm6, ixq6, lwq, t1, t2, u1, u2]
            exact hG) ?_
          have hw' : (fun y => if y = m then w (a m) else if y = a m then capF S.testBit L else w y) = updI (updI (updI w m x) m (w (a m))) (a m) x := by
            funext y; unfold updI; rw [c2, ← capF_Q]
            by_cases e1 : y = m
            · subst e1; rw [if_pos rfl, if_neg (Ne.symm hane), if_pos rfl]
            · by_cases e2 : y = a m
              · rw [if_neg e1, if_pos e2, if_pos e2]
              · simp [e1, e2]
          rw [hw'] at hG'
          exact hQ2 _ _ ⟨rfl, by simp [h1], by simp [h5], by simp [h6], by simp [h7], rfl, (hyz.mono (fun b _ hb => .inl hb)).trans (htu.mono (fun b _ hb => .inr hb)), _, _, D', rk', Var.only z4 htu (by omega), u4, hG'⟩
      · rintro ⟨tm9, n9', ds9⟩ W9 ⟨hn9, g1, g5, g6, g7, hd9, hO9, a', w', D', rk', hA9, hB9, hG9⟩
        simp only at hn9 g1 g5 g6 g7 hd9
        subst hn9; subst hd9
        simp only [leaves_normal, behind_normal]
        have n9 := hO9.1
        have lm9 := (hV78.only hO9 (by omega)).load1 (T := T0) und3 rfl (j := 0) (v := .int .i64 (m : Nat)) rfl
        obtain ⟨Wx, r1, r2, hEx, hVx⟩ := storeVar_new (T := T0) (W := W9) (t := 3) (z := [.int .i64 0]) (v := .int .i64 (m : Nat)) inf3 (by rw [is3]; rfl) (by rw [is3]; rfl) rfl
        have hVx : Var Wx W9.next 3 [.int .i64 (m : Nat)] := hVx
        have hwi := i64_succ m (by omega)
        obtain ⟨mi, hmi⟩ : ∃ mi : Int, mi = ((m + 1 : Nat) : Int) := ⟨_, rfl⟩
        rw [← hmi] at hwi
        obtain ⟨Wy, k1, k2, k3, k4⟩ := hVx.store (T := T0) (t := 3) (v := .int .i64 mi) (o := 0) inf3 (by rw [is3]; rfl) (by show 0 + 1 ≤ 1; omega) rfl
        have lmx := hVx.load1 (T := T0) und3 rfl (j := 0) (v := .int .i64 (m : Nat)) rfl
        try simp only [wpK_assoc]
        refine wpK_reg (fun R hR => by simp [g7, lm9]; exact hR) ?_
        try simp only [wpK_assoc]
        refine wpK_reg (fun R hR => by simp [zero3', r1]; exact hR) ?_
        try simp only [wpK_assoc]
        refine wpK_reg1 (fun R hR => by simp [lmx, hwi, k1]; exact hR) ?_
        have hO9y : Only (fun b => b = p5 ∨ b = p5 + 1 ∨ b = W9.next) W8 Wy := ((hO9.mono (fun b _ hb => by omega)).trans (hEx.mono (fun _ _ x => x.elim))).trans (k3.mono (fun b _ hb => .inr (.inr hb)))
        have hlow8 := hM8.low
        have k4 : Var Wy W9.next 3 [.int .i64 mi] := k4
        rw [hmi] at k4
        exact hI (P - (m + 1)) _ _ (by omega) ⟨rfl, by simp [g1], by simp [g5], by simp [g6], hM8.only hO9y (fun d hd r hr r1 _ hk => by have := hlow8 d hd r hr; omega), hOe8.trans (hO9y.mono (fun b _ hb => by omega)), m + 1, W9.next, a', w', D', rk', by simp, rfl, by omega, k4, Var.only (Var.ext hA9 hEx) k3 (by have := hA9.1; omega), Var.only (Var.ext hB9 hEx) k3 (by have := hB9.1; omega), hG9⟩
  · rintro A' W' hf; exact hf.elim
  · rintro ⟨tm, n', ds⟩ Wd ⟨hn', h1, h5, h6, hMk, hOd, a, w, D, rk, hAd, hBd, hG⟩
    simp only at hn' h1 h5 h6 hMk
    subst hn'
    have nd := hOd.1
    try simp only [wpK_assoc]
    refine wpK_reg (fun R hR => by simp []; exact hR) ?_
    try simp only [wpK_assoc]
    refine wpK_reg (fun R hR => by simp []; exact hR) ?_
    try simp only [wpK_assoc]
    refine wpK_while (I := fun q A' W' => A'.n = 94 ∧ A'.tmps.get 1 = some (.pointer (some ⟨W.next, 0, none⟩)) ∧ A'.tmps.get 5 = some (.pointer (some ⟨p5, 0, none⟩)) ∧ A'.tmps.get 6 = some (.pointer (some ⟨p5 + 1, 0, none⟩)) ∧ A'.defers = ds ∧ Ext Wd W' ∧
        ∃ (i : Nat) (lv : Value), A'.tmps.get 12 = some lv ∧ A'.tmps.get 13 = some (.int .i64 ((i + 1 : Nat) : Int)) ∧ q = P - 1 - i ∧ i ≤ P - 1 ∧ GrowsN W' lv i (flat3 (treeL a w i)) 66 3 (fun b => Wd.next ≤ b))
      (J := fun A' W' => A'.n = 94 ∧ A'.defers = ds ∧ Ext Wd W' ∧ ∃ (lv : Value), A'.tmps.get 12 = some lv ∧ GrowsN W' lv (P - 1) (flat3 (treeL a w (P - 1))) 66 3 (fun b => Wd.next ≤ b)) (Rt := fun _ _ => False) (k := P - 1) ?_ ?_ ?_ ?_
    · exact ⟨rfl, by simp [h1], by simp [h5], by simp [h6], rfl, .refl _ _, 0, _, by simp, by simp, rfl, by omega, .nil _ _ _ _⟩
    · rintro q ⟨tm, n', ds'⟩ We ⟨hn', h1, h5, h6, hds, hEe, i, lv, h12, h13, hq, hi, hL3⟩ Q' hJ hRt hI
      simp only at hn' h1 h5 h6 hds h12 h13
      subst hn'; subst hds
      have ne := hEe.1
      have hOe : Only (fun b => p5 ≤ b) W1 We := hOd.trans (hEe.mono (fun _ _ x => x.elim))
      have lPe := lP hOe
      obtain ⟨mi, hmi⟩ : ∃ mi : Int, mi = ((i + 1 : Nat) : Int) := ⟨_, rfl⟩
      rw [← hmi] at h13
      by_cases hlt : mi < P
      case neg =>
        have hie : i = P - 1 := by omega
        subst hie
        try simp only [wpK_assoc]
        refine wpK_reg (fun R hR => by simp [h1, h13, lPe]; exact hR) ?_
        try simp only [wpK_assoc]
        first | refine wpK_onF (by simp [hlt]) ?_ | refine wpK_out (by simp [hlt]) ?_ | refine wpK_condF (by simp [hlt]) ?_ | refine wpK_endF (by simp [hlt]) (wpK_skip ?_) | refine wpK_endF (by simp [hlt]) ?_
        exact hJ _ _ ⟨rfl, rfl, hEe, lv, by simp [h12], hL3⟩
      try simp only [wpK_assoc]
      refine wpK_reg (fun R hR => by simp [h1, h13, lPe, hlt]; exact hR) ?_
      try simp only [wpK_assoc]
      first | refine wpK_onT (by simp [hlt]) ?_ | refine wpK_outT (by simp [hlt]) ?_ | refine wpK_condT (by simp [hlt]) ?_ | refine wpK_endT (by simp [hlt]) ?_
      refine wpK_block ?_
      have hi24 : i + 1 < 24 := by omega
      have ix5 := ix132 p5 0 (i + 1) hi24
      have ix6 := ix126 (p5 + 1) 0 (i + 1) hi24
      rw [Nat.zero_add, ← hmi] at ix5 ix6
      have la := hAd.load3 (j := i + 1) hi24
      have lw := hBd.load2 (j := i + 1) hi24
      have la1 : ∀ W', Ext Wd W' → aLoadVar T0 W' 3 p5 (i + 1) = some (.int .i64 (castF a (i + 1))) := fun W' he => ArrAt.load3 (Var.ext hAd he) hi24
      have lw1 : ∀ W', Ext Wd W' → aLoadVar T0 W' 2 (p5 + 1) (i + 1) = some (.int .i64 (w (i + 1))) := fun W' he => ArrAt.load2 (Var.ext hBd he) hi24
      obtain ⟨av, hav⟩ : ∃ av, av = castF a (i + 1) := ⟨_, rfl⟩
      obtain ⟨wv, hwv⟩ : ∃ wv, wv = w (i + 1) := ⟨_, rfl⟩
      rw [← hav] at la1
      rw [← hwv] at lw1
      obtain ⟨v', Wg, p1, p2, p3, p4⟩ := push3_tmp (t := 59) und59 inf66 is66 z66 rfl by66 hL3 (by omega) (u := cells3 (mi, av, wv)) rfl (oneCells_tri _)
      have p1 : aAppend T0 (We.newCells 66 [.int .i64 mi, .int .i64 av, .int .i64 wv]) [59, 59] [lv, .slice (some ⟨We.next, 0, none⟩) 1 2] = some (v', Wg) := p1
      have fb := fun (ρ : Operand → Option Value) (o : Operand) => flt_bs59 (ρ := ρ) (o := o) (x := mi) (y := av) (z := wv)
      have fr1 := freshB_new We 66 [.int .i64 mi, .int .i64 av, .int .i64 wv] (by simp [listEq, valEq])
      have eN : Ext Wd (We.newCells 66 [.int .i64 mi, .int .i64 av, .int .i64 wv]) := hEe.trans (.newCells _ _ _)
      have eG : Ext Wd Wg := ⟨by omega, fun b hb hk => by rw [p4.2 b (by omega) (by omega)]; exact hEe.2 b hb hk⟩
      have r1 := la1 _ eN
      have r2 := lw1 _ eN
      have r3 := la1 _ hEe
      have r4 := lw1 _ hEe
      have r5 := la1 _ eG
      have r6 := lw1 _ eG
      try simp only [wpK_assoc]
      refine wpK_qn (wr := Tr.nil |>.set 82 0 |>.set 83 1 |>.set 84 2 |>.set 85 3 |>.set 86 4 |>.set 87 5 |>.set 88 6 |>.set 89 7 |>.set 90 8 |>.set 91 9 |>.set 92 10 |>.set 12 11) (bits := Tr.nil.lay 0 [0, 0, 0, 4, 12, 0, 32, 96, 254, 510, 1023, 2047]) (ord := [0, 1, 2, 3, 4, 5, 6, 7, 8, 9, 10, 11]) (by kernel_rfl) (by kernel_rfl) (by kernel_rfl) (fun G hG => by
        simp [h5, h6, h12, h13, ix5, ix6, r1, r2, r3, r4, r5, r6, build66t, fb, AFlt.val, fr1, p1, p2, newCells_next]
        exact hG) ?_
      simp only [leaves_normal, behind_normal]
      have hwi : IntKind.i64.wrap (mi + 1) = ((i + 1 + 1 : Nat) : Int) := by rw [hmi]; exact i64_succ (i + 1) (by omega)
      try simp only [wpK_assoc]
      refine wpK_reg1 (fun R hR => by simp [h13, hwi]; exact hR) ?_
      have he3 : flat3 (treeL a w i) ++ cells3 (mi, av, wv) = flat3 (treeL a w (i + 1)) := by
        have : treeL a w (i + 1) = treeL a w i ++ [(mi, av, wv)] := by
          rw [hmi, hav, hwv]; simp [treeL, List.range_succ, castF]
        rw [this, flat3_append]; simp [flat3]
      rw [he3] at p3
      exact hI (P - 1 - (i + 1)) _ _ (by omega) ⟨rfl, by simp [h1], by simp [h5], by simp [h6], rfl, eG, i + 1, v', by simp, by simp, rfl, by omega, p3.mono (fun b hb => by omega)⟩
    · rintro A' W' hf; exact hf.elim
    · rintro ⟨tm, n', ds'⟩ We ⟨hn', hds, hEe, lv, h12, hL3⟩
      simp only at hn' hds h12
      subst hn'; subst hds
      try simp only [wpK_assoc]
      refine wpK_reg (fun R hR => by simp [h12]; exact hR) ?_
      have hMe := hMk.ext hEe
      obtain ⟨Wy, g1, g2⟩ := hMe.collects2
      have ng := g2.1
      have ne := hEe.1
      have hge : ∀ b, (∃ d ∈ ds', d.target = .collected b) → p5 + 2 ≤ b ∧ b < Wd.next := fun b ⟨d, hd, e⟩ => ⟨hMk.above d hd b e, hMk.low d hd b e⟩
      have hLy := hL3.only g2 (fun b _ hb hk => by have := hge b hk; omega)
      have hOe : Only (fun b => p5 ≤ b) W1 We := hOd.trans (hEe.mono (fun _ _ x => x.elim))
      have hOy : Only (fun b => p5 ≤ b) W1 Wy := hOe.trans (g2.mono (fun b _ hb => by have := hge b hb; omega))
      have hty : TriIn Wy lv (treeL a w (P - 1)) := GrowsN.tri (by rw [treeL_len]; exact hLy)
      exact wpK_ret ⟨.inr rfl, Wy, g1, [lv, .int .i64 0], by simp, xt hOy, lv, a, w, D, rk, rfl, hG, hty⟩
theorem capL_F (T S s : Nat) (l : List Quad) : ∀ i, i ≤ l.length → capL T (layL S s l) (hCap (layL S s l)) i = capF (fun q => T.testBit (atP S s q)) (l.take i)
  | 0, _ => by simp [capL, capF]
  | i + 1, hi => by
    have ha : l[i]? = some l[i] := List.getElem?_eq_getElem (by omega)
    generalize l[i] = a at ha
    have ht : l.take (i + 1) = l.take i ++ [a] := by rw [List.take_add_one, ha, Option.toList_some]
    have g1 : hCap (layL S s l) (2 * i) = a.2.2.1 := by unfold hCap; rw [if_pos (by omega), show 2 * i / 2 = i from by omega, stp_lay ha]
    have g2 : hCap (layL S s l) (2 * i + 1) = a.2.2.2 := by unfold hCap; rw [if_neg (by omega), show (2 * i + 1) / 2 = i from by omega, stp_lay ha]
    rw [capL, capL_F T S s l i (by omega), ht, stp_lay ha, g1, g2]
    simp only [capF, List.map_append, List.map_cons, List.map_nil, List.sum_append, List.sum_cons, List.sum_nil, outF]
    omega
def Sub (S T : Nat) : Prop := ∀ q, S.testBit q = true → T.testBit q = true
def bitsF (f : Nat → Bool) (P : Nat) : Nat := nearS (fun q => if f q = true then 1 else 0) P
theorem bitsF_bit (f : Nat → Bool) (P q : Nat) : (bitsF f P).testBit q = (decide (q < P) && f q) := by
  unfold bitsF; rw [nearS_bit]; cases f q <;> simp
theorem bitsF_lt (f : Nat → Bool) (P : Nat) : bitsF f P < 2 ^ P := nearS_lt _ P
theorem bitsF_cap {P : Nat} {L : List Quad} (hin : PlanIn P L) (f : Nat → Bool) : capQ (bitsF f P) L = capF f L := by
  rw [← capF_Q]
  refine capF_congr (fun a ha => ?_)
  have := hin.step ha
  rw [bitsF_bit, bitsF_bit, decide_eq_true (by omega), decide_eq_true (by omega), Bool.true_and, Bool.true_and]
  exact ⟨rfl, rfl⟩
theorem Filled.narrow {P : Nat} {L : List Quad} {S k : Nat} {x : Int} {rm : Nat → Int} {lv : Nat → Nat} (hin : PlanIn P L) (hS0 : S.testBit 0 = true) (hSk : S.testBit k = false) (hk : k < P) (hSP : S < 2 ^ P) (F : Filled (layL S 0 L) 0 k (hCap (layL S 0 L)) x rm lv) :
    (∀ T, Sub S T → T.testBit k = false → x ≤ capQ T L) ∧ ∃ T, Sub S T ∧ T.testBit k = false ∧ T < 2 ^ P ∧ x = capQ T L := by
  obtain ⟨h2, h24, _⟩ := hin.size
  have hL := layL_ok hin (from_ := S) (src := 0) (by omega)
  obtain ⟨c1, c2, c3, c4⟩ := F.cuts hL (by omega) (by omega : k < 24) (cap_rooms hL)
  have e : ∀ T, capL T (layL S 0 L) (hCap (layL S 0 L)) (layL S 0 L).length = capF (fun q => T.testBit (atP S 0 q)) L := fun T => by
    rw [layL_len, capL_F T S 0 L L.length (Nat.le_refl _), List.take_length]
  constructor
  · intro T hT hTk
    have h1 := (c1 T (hT 0 hS0) hTk).1
    rw [e] at h1
    have : (fun q => T.testBit (atP S 0 q)) = T.testBit := by
      funext q; unfold atP
      cases hq : S.testBit q with
      | true => rw [if_pos rfl, hT q hq, hT 0 hS0]
      | false => rw [if_neg (by simp)]
    rw [this, capF_Q] at h1; exact h1
  · refine ⟨bitsF (fun q => (nearS lv 24).testBit (atP S 0 q)) P, fun q hq => ?_, ?_, bitsF_lt _ _, ?_⟩
    · have hqP : q < P := by
        by_cases h : q < P
        · exact h
        · rw [Nat.testBit_lt_two_pow (Nat.lt_of_lt_of_le hSP (Nat.pow_le_pow_right (by omega) (by omega)))] at hq; cases hq
      rw [bitsF_bit, decide_eq_true hqP, Bool.true_and]
      show (nearS lv 24).testBit (atP S 0 q) = true
      unfold atP; rw [if_pos hq]; exact c3
    · rw [bitsF_bit]
      show (_ && (nearS lv 24).testBit (atP S 0 k)) = false
      unfold atP; rw [if_neg (by rw [hSk]; simp), c4, Bool.and_false]
    · rw [bitsF_cap hin, ← e]; exact c2
theorem zero2' : aZero T0 2 = some (.int .i64 0) := by kernel_rfl
def NarW (P S : Nat) (L : List Quad) (x : Int) : Prop := (∀ T, Sub S T → (∃ p, p < P ∧ T.testBit p = false) → x ≤ capQ T L) ∧ (x = maxI ∨ ∃ T, Sub S T ∧ (∃ p, p < P ∧ T.testBit p = false) ∧ T < 2 ^ P ∧ x = capQ T L)
def NarL (P S z : Nat) (L : List Quad) (left : Nat) (x : Int) : Prop := (∀ p, z.testBit p = true → left.testBit p = false → ∀ T, Sub S T → T.testBit p = false → x ≤ capQ T L) ∧ (x = maxI ∨ ∃ T, Sub S T ∧ (∃ p, p < P ∧ T.testBit p = false) ∧ T < 2 ^ P ∧ x = capQ T L)
theorem narrowest_wp {W : AW} {v : Value} {P : Nat} {lk : List Tri} (h : TriIn W v lk) (hok : planOk P (arcsQ lk) = true) (hT : tabsIn T0 T0.tabs W = true) (h0 : 0 < W.next) {S : Nat} (hS0 : S.testBit 0 = true) (hSP : S < 2 ^ P) :
    WpF T0 67 [.agg ⟨[.int .i64 P, v]⟩, .int .u64 (S : Nat)] W (fun u W' => Ext W W' ∧ ∃ x, u = .int .i64 x ∧ NarW P S (linksQ lk) x) := by
  have hPin := links_in hok
  obtain ⟨hP2, hP24, _⟩ := hPin.size
  have hpP : 2 ^ P ≤ 2 ^ 24 := Nat.pow_le_pow_right (by omega) (by omega)
  refine wpFd fun67 rfl ?_
  obtain ⟨W0, hW0, hE0, hV0, hV1, hn0⟩ : ∃ W0, W0 = (W.newCells 35 [.int .i64 P, v]).newCells 115 [.int .u64 (S : Nat)] ∧ Ext W W0 ∧ Var W0 W.next 35 [.int .i64 P, v] ∧ Var W0 (W.next + 1) 115 [.int .u64 (S : Nat)] ∧ W0.next = W.next + 2 :=
    ⟨_, rfl, (Only.newCells _ _ _).trans (Only.newCells _ _ _), (Var.new _ _ _).ext (.newCells _ _ _), Var.new _ _ _, rfl⟩
  try simp only [wpK_assoc]
  refine wpK_reg (fun R hR => by simp [newCells_next, ← hW0]; exact hR) ?_
  obtain ⟨p5, hp5⟩ : ∃ p5, p5 = W.next + 2 := ⟨_, rfl⟩
  obtain ⟨W1, s1, s2, hE1, hVm⟩ := storeVar_new (T := T0) (W := W0) (t := 2) (z := [.int .i64 0]) (v := .int .i64 maxI) inf2 (by rw [is2]; rfl) (by rw [is2]; rfl) rfl
  have hVm : Var W1 W0.next 2 [.int .i64 maxI] := hVm
  have s1 : aStoreVar T0 (W0.newCells 2 [.int .i64 0]) 2 W0.next 0 (.int .i64 9223372036854775807) = some W1 := s1
  try simp only [wpK_assoc]
  refine wpK_reg (fun R hR => by simp [zero2', s1]; exact hR) ?_
  rw [hn0, ← hp5] at hVm
  have hE01 := hE0.trans hE1
  have e01 := hE01.1
  have h35 := hV0.ext hE1
  have h115 := hV1.ext hE1
  have l35 : ∀ W', Ext W1 W' → aLoadVar T0 W' 35 W.next 0 = some (.agg ⟨[.int .i64 P, v]⟩) := fun W' h => load35 (h35.ext h)
  have lP : ∀ W', Ext W1 W' → aLoadVar T0 W' 3 W.next 0 = some (.int .i64 P) := fun W' h => (h35.ext h).load1 (T := T0) und3 rfl (j := 0) (v := .int .i64 P) rfl
  have lS : ∀ W', Ext W1 W' → aLoadVar T0 W' 115 (W.next + 1) 0 = some (.int .u64 (S : Nat)) := fun W' h => (h115.ext h).load1 (T := T0) und115 rfl (j := 0) (v := .int .u64 (S : Nat)) rfl
  have e11 : Ext W1 W1 := .refl _ _
  have hbel := below_wp P (by omega) W1
  have hp0 : 0 < 2 ^ P := Nat.two_pow_pos P
  obtain ⟨zz, q1, q2, q3⟩ := aBinI_andNot .u64 (2 ^ P - 1) S (by show 2 ^ P - 1 < 18446744073709551616; omega) (by show S < 18446744073709551616; omega)
  have q3' : ∀ j, zz.testBit j = (decide (j < P) && !S.testBit j) := fun j => by rw [q3, Nat.testBit_two_pow_sub_one]
  have hzz : zz < 2 ^ P := by omega
  generalize hpm : ((2 ^ P - 1 : Nat) : Int) = pm at hbel q2
  try simp only [wpK_assoc]
  try simp only [wpK_assoc]
  refine wpK_d0 (wr := Tr.nil |>.set 7 0 |>.set 8 1 |>.set 9 2 |>.set 10 3 |>.set 11 4 |>.set 12 5) (bits := Tr.nil.lay 0 [0, 1, 3, 0, 15, 31]) (ord := [0, 1, 2, 3, 4, 5]) (by kernel_rfl) (by kernel_rfl) (by kernel_rfl) (fun G hG => by
    simp [lP, lS, e11, aEnter, fun82, short_other, aCallV]
    rw [dcallS_none]
    refine hbel.mono ?_
    rintro _ W9 ⟨e9, rfl⟩; subst W9
    simp [lP, lS, e11, q2, aEnter, fun66, short_other, aCallV]
    rw [dcallS_none]
    refine (places_wp zz).mono ?_
    rintro _ Wh ⟨hE, rfl, hB⟩
    simp [lP, lS, e11, hE, hE.1, q2]
    exact hG Wh (And.intro hE hB)) ?_
  rintro Wh ⟨hEh, hBh⟩
  have nh := hEh.1
  have hin : Only (fun b => p5 ≤ b) W1 Wh := hEh.mono (fun _ _ x => x.elim)
  obtain ⟨L, hL⟩ : ∃ L, L = linksQ lk := ⟨_, rfl⟩
  rw [← hL] at hPin ⊢
  refine wpK_keep (fun tm' => tm'.get 2 = some (.pointer (some ⟨W.next, 0, none⟩)) ∧ tm'.get 3 = some (.pointer (some ⟨W.next + 1, 0, none⟩)) ∧ tm'.get 5 = some (.pointer (some ⟨p5, 0, none⟩)) ∧ tm'.get 12 = some (.func (.func 81) ⟨[]⟩ ⟨[.pointer (some ⟨W1.next, 0, none⟩)]⟩)) ⟨by simp, by simp, by simp [hn0, hp5], by simp⟩ ?_
  rintro tm ⟨h2, h3, h5, h12⟩
  refine wpK_range2 (f := 81) (first := ⟨[]⟩) (cap := ⟨[.pointer (some ⟨W1.next, 0, none⟩)]⟩) (by simp [h12]) fun81 (fun W5 hn5 hW5 hdf hlp => ?_)
  obtain ⟨z, hz⟩ : ∃ z, z = Wh.next := ⟨_, rfl⟩
  rw [← hz] at hn5 hdf hlp
  have hEh5 : Ext Wh W5 := ⟨by omega, fun b hb _ => hW5 b hb⟩
  have hE15 := hEh.trans hEh5
  have hV5 := hVm.ext hE15
  have hVmn := hVm.1
  refine (places1_wp (l := Wh.next + 1) (bx := W1.next) (x := zz) (fun left V => Only (fun b => b = p5 ∨ b = z + 1 ∨ W5.next ≤ b) W5 V ∧ V.blocks.get (z + 1) = W5.blocks.get (z + 1) ∧ (∀ j, left.testBit j = true → zz.testBit j = true) ∧ ∃ y, Var V p5 2 [.int .i64 y] ∧ NarL P S zz L left y) (by omega) (fun left k V hC' hl' hk1 hk2 => ?_)
    ⟨.refl _ _, rfl, fun _ hj => hj, maxI, hV5, fun p hp hp2 => by (rw [hp] at hp2; cases hp2), .inl rfl⟩ (hBh.ext hEh5)).mono ?_
  · obtain ⟨d1, d2, d3, y, d4, d5⟩ := hC'
    have hl := d2.trans hlp
    rw [hz] at hl
    have nv := d1.1
    have hkz := d3 k hk1
    rw [q3'] at hkz
    simp only [Bool.and_eq_true, decide_eq_true_eq, Bool.not_eq_true'] at hkz
    obtain ⟨hkP, hkS⟩ := hkz
    have hOv : Only (fun b => p5 ≤ b) W1 V := (hE15.mono (fun _ _ x => x.elim)).trans (d1.mono (fun b _ hb => by omega))
    have xt : ∀ {W'}, Only (fun b => p5 ≤ b) W1 W' → Ext W W' := fun {W'} ho => ⟨by have := ho.1; omega, fun b hb _ => by rw [ho.2 b (by omega) (by omega)]; exact hE01.2 b hb (fun x => x)⟩
    refine ⟨tabs_ext hT h0 (xt hOv), _, _, _, _, _, _, _, _, _, _, tm.set 13 (.int .i64 (k : Nat)), hl, rfl, ?_⟩
    refine wpR ?_
    try simp only [wpK_assoc]
    refine wpK_reg1 (fun R hR => by simp []; exact hR) ?_
    refine ⟨rfl, _, _, _, _, _, _, _, _, hl, ?_⟩
    rw [← hz] at hl ⊢
    generalize hbz : (AObj.loop LoopState.busy _ _ _ _ _ _ _ _) = bz
    obtain ⟨Vb, hVb, hOb, hnb⟩ : ∃ Vb, Vb = V.setObj (z + 1) bz ∧ Only (fun b => b = z + 1) V Vb ∧ Vb.next = V.next := ⟨_, rfl, setObj_only _ _ _, rfl⟩
    rw [← hVb]
    have hlb : Vb.blocks.get (z + 1) = some ⟨bz, []⟩ := by rw [hVb, setObj_get, if_pos rfl]
    have dOb : Only (fun b => b = p5 ∨ b = z + 1 ∨ W5.next ≤ b) W5 Vb := d1.trans (hOb.mono (fun b _ hb => .inr (.inl hb)))
    have hOvb : Only (fun b => p5 ≤ b) W1 Vb := hOv.trans (hOb.mono (fun b _ hb => by omega))
    have hVy := d4.only hOb (by omega)
    have m35 : ∀ W', Ext Vb W' → aLoadVar T0 W' 35 W.next 0 = some (.agg ⟨[.int .i64 P, v]⟩) := fun W' h => load35 ((h35.only hOvb (by omega)).ext h)
    have mS : ∀ W', Ext Vb W' → aLoadVar T0 W' 115 (W.next + 1) 0 = some (.int .u64 (S : Nat)) := fun W' h => ((h115.only hOvb (by omega)).ext h).load1 (T := T0) und115 rfl (j := 0) (v := .int .u64 (S : Nat)) rfl
    have my : ∀ W', Ext Vb W' → aLoadVar T0 W' 2 p5 0 = some (.int .i64 y) := fun W' h => (hVy.ext h).load1 (T := T0) und2 rfl (j := 0) (v := .int .i64 y) rfl
    have ebb : Ext Vb Vb := .refl _ _
    have hNv := boardPlan (P := (P : Int)) (h.ext (xt hOvb))
    rw [← hL] at hNv
    have hlay := lay_wp (src := 0) (to := k) hNv hPin (by show S < 18446744073709551616; omega) hS0 (fun j hj => by omega) (by omega) (by omega) (tabs_ext hT h0 (xt hOvb)) (by omega)
    have vvv := tri_eq h
    have hne : (0 : Nat) ≠ k := fun e => by rw [← e, hS0] at hkS; cases hkS
    have hLok := layL_ok hPin (from_ := S) (src := 0) (by omega)
    have hcr := cap_rooms hLok
    have h024 : (0 : Nat) < 24 := by omega
    have hk24 : k < 24 := by omega
    refine wpK_block1 ?_
    try simp only [wpK_assoc]
    refine wpK_q2 (wr := Tr.nil |>.set 14 0 |>.set 15 1 |>.set 16 2 |>.set 17 3 |>.set 18 4 |>.set 19 5 |>.set 20 6 |>.set 21 7) (bits := Tr.nil.lay 0 [0, 0, 2, 0, 0, 30, 62, 127, 255]) (ord := [0, 1, 2, 3, 4, 5, 6, 7, 8]) (by kernel_rfl) (by kernel_rfl) (by kernel_rfl) (fun G hG => by
      simp [h2, h3, h5, m35, mS, my, ebb, opMI35, -opMakeInterface, aEnter, fun53, short_other, aCallV]
      rw [dcallS_none]
      refine hlay.mono ?_
      rintro _ W9 ⟨e9, p, B, rfl, hp, hWk⟩
      simp [h2, h3, h5, m35, mS, my, ebb, e9, e9.1, vvv, opMI35, -opMakeInterface, aEnter, fun55, short_other, aCallV]
      rw [dcallS_none]
      refine (fill_wp hWk hLok h024 hk24 hne hcr).mono ?_
      rintro _ Wf ⟨x, rm', lv, rfl, hOf, hWk', hF⟩
      have ef : Ext Vb Wf := ⟨Nat.le_trans e9.1 hOf.1, fun b hb hk => by rw [hOf.2 b (Nat.lt_of_lt_of_le hb e9.1) (fun e => by omega)]; exact e9.2 b hb hk⟩
      have nf := hOf.1
      have hVf := hVy.ext ef
      obtain ⟨Wg, y1, y2, y3, y4⟩ := hVf.store (T := T0) (t := 2) (v := .int .i64 (min y x)) (o := 0) inf2 (by rw [is2]; rfl) (by show 0 + 1 ≤ 1; omega) rfl
      simp [h2, h3, h5, m35, mS, my, ebb, e9, ef, e9.1, nf, ef.1, vvv, min_int, y1, y2]
      have hOg : Only (fun b => b = p5) Vb Wg := ⟨by have := ef.1; omega, fun b hb hk => by rw [y3.2 b (by have := ef.1; omega) hk]; exact ef.2 b hb (fun x => x)⟩
      have hy4 : Var Wg p5 2 [.int .i64 (min y x)] := y4
      have hnr := hF.narrow hPin hS0 hkS hkP hSP
      exact hG x p Wg (And.intro hOg (And.intro hy4 hnr))) ?_
    rintro x p Wg ⟨hOg, hVg, hx1, hx2⟩
    simp only [leaves_normal]
    have hlg : Wg.blocks.get (z + 1) = some ⟨bz, []⟩ := by rw [hOg.2 _ (by omega) (by omega)]; exact hlb
    subst hbz
    refine ⟨_, _, _, _, _, _, _, _, _, hlg, rfl, ?_⟩
    have hOz := fun o => setObj_only Wg (z + 1) o
    have hdl3 : ∀ j, (dropLow left).testBit j = true → zz.testBit j = true := fun j hj => by
      rw [dropLow_bit hk1 hk2] at hj; simp only [Bool.and_eq_true] at hj; exact d3 j hj.1
    refine ⟨(dOb.trans (hOg.mono (fun b _ hb => .inl hb))).trans ((hOz _).mono (fun b _ hb => .inr (.inl hb))), by rw [setObj_get, if_pos rfl]; exact hlp.symm, hdl3, min y x, Var.only hVg (hOz _) (by omega), fun p p1 p2 T t1 t2 => ?_, ?_⟩
    · rw [dropLow_bit hk1 hk2] at p2
      by_cases e : p = k
      · subst e
        have := hx1 T t1 t2
        omega
      · rw [decide_eq_true e, Bool.and_true] at p2
        have := d5.1 p p1 p2 T t1 t2
        omega
    · rcases Int.le_total y x with hyx | hyx
      · rw [Int.min_eq_left hyx]; exact d5.2
      · rw [Int.min_eq_right hyx]
        obtain ⟨T, t1, t2, t3, t4⟩ := hx2
        exact .inr ⟨T, t1, ⟨k, hkP, t2⟩, t3, t4⟩
  · rintro _ W6 ⟨d1, d2, d3, y, d4, d5⟩
    have hl6 := d2.trans hlp
    rw [hz] at hl6
    refine ⟨_, _, _, _, _, _, _, _, _, hl6, (fun h => by cases h), ?_⟩
    rw [← hz]
    generalize hex : (AObj.loop LoopState.exhausted _ _ _ _ _ _ _ _) = ex
    obtain ⟨W7, hW7, hO7, hn7⟩ : ∃ W7, W7 = W6.setObj (z + 1) ex ∧ Only (fun b => b = z + 1) W6 W7 ∧ W7.next = W6.next := ⟨_, rfl, setObj_only _ _ _, rfl⟩
    rw [← hW7]
    clear hW7 hex
    have dO7 : Only (fun b => b = p5 ∨ b = z + 1 ∨ W5.next ≤ b) W5 W7 := d1.trans (hO7.mono (fun b _ hb => .inr (.inl hb)))
    have nd := dO7.1
    have hV7 := d4.only hO7 (by omega)
    have ly := hV7.load1 (T := T0) und2 rfl (j := 0) (v := .int .i64 y) rfl
    simp only [goOn, leaves_normal, behind_normal]
    try simp only [wpK_assoc]
    refine wpK_reg (fun R hR => by simp [h5, ly]; exact hR) ?_
    have hz7 : W7.blocks.get z = some ⟨.deferred (some []), []⟩ := by rw [dO7.2 z (by omega) (by omega)]; exact hdf
    refine wpK_ret ⟨.inr rfl, W7.setObj z (.deferred none), ⟨z, rfl, hz7, rfl⟩, [.int .i64 y], by simp, ?_, y, rfl, fun T t1 ⟨p, hp, hpT⟩ => ?_, d5.2⟩
    · refine ⟨by rw [setObj_next]; omega, fun b hb _ => ?_⟩
      rw [setObj_get, if_neg (by omega), dO7.2 b (by omega) (by omega), hE15.2 b (by omega) (fun x => x)]
      exact hE01.2 b hb (fun x => x)
    · refine d5.1 p ?_ (by simp) T t1 hpT
      rw [q3', decide_eq_true hp, Bool.true_and]
      cases hS : S.testBit p with
      | false => rfl
      | true => rw [t1 p hS] at hpT; cases hpT
def Bef (S T : Nat) : Prop := ∃ k, (∀ j, j < k → S.testBit j = T.testBit j) ∧ ((S.testBit k = true ∧ T.testBit k = false ∧ ∃ j, k < j ∧ T.testBit j = true) ∨ (S.testBit k = false ∧ T.testBit k = true ∧ ∀ j, k < j → S.testBit j = false))
def Part0 (P T : Nat) : Prop := T.testBit 0 = true ∧ T < 2 ^ P ∧ ∃ p, p < P ∧ T.testBit p = false
def Weak (P : Nat) (L : List Quad) (F : Nat) (x : Int) : Prop := Part0 P F ∧ x = capQ F L ∧ ∀ T, Part0 P T → x ≤ capQ T L ∧ (x = capQ T L → T = F ∨ Bef F T)
structure Grow (P : Nat) (L : List Quad) (x : Int) (S p : Nat) : Prop where
  p1 : 1 ≤ p
  pP : p ≤ P
  z : S.testBit 0 = true
  lt : S < 2 ^ p
  has : ∃ T, Part0 P T ∧ Sub S T ∧ x = capQ T L
  all : ∀ T, Part0 P T → x = capQ T L → (∀ j, j < p → S.testBit j = T.testBit j) ∨ ∃ k, k < p ∧ (∀ j, j < k → S.testBit j = T.testBit j) ∧ S.testBit k = true ∧ T.testBit k = false ∧ ∃ j, k < j ∧ T.testBit j = true
theorem high_bit {S p j : Nat} (h : S < 2 ^ p) (hj : p ≤ j) : S.testBit j = false := Nat.testBit_lt_two_pow (Nat.lt_of_lt_of_le h (Nat.pow_le_pow_right (by omega) hj))
theorem Grow.more {P : Nat} {L : List Quad} {x : Int} {S p : Nat} (h : Grow P L x S p) (hne : capQ S L ≠ x) : p < P := by
  obtain ⟨T, t1, t2, t3⟩ := h.has
  by_cases hp : p < P
  · exact hp
  have hpP := h.pP
  have e : p = P := by omega
  subst e
  exfalso
  rcases h.all T t1 t3 with ha | ⟨k, k1, k2, k3, k4, _⟩
  · have : T = S := by
      apply Nat.eq_of_testBit_eq
      intro j
      by_cases hj : j < p
      · exact (ha j hj).symm
      · rw [high_bit t1.2.1 (by omega), high_bit h.lt (by omega)]
    subst this; exact hne t3.symm
  · rw [t2 k k3] at k4; cases k4
theorem Grow.later {P : Nat} {L : List Quad} {x : Int} {S p : Nat} (h : Grow P L x S p) (hne : capQ S L ≠ x) {T : Nat} (hT : x = capQ T L) (ha : ∀ j, j < p → S.testBit j = T.testBit j) : ∃ j, p ≤ j ∧ T.testBit j = true := by
  apply Classical.byContradiction
  intro hn
  have : T = S := by
    apply Nat.eq_of_testBit_eq
    intro j
    by_cases hj : j < p
    · exact (ha j hj).symm
    · rw [high_bit h.lt (by omega)]
      cases hb : T.testBit j with
      | false => rfl
      | true => exact absurd ⟨j, by omega, hb⟩ hn
  subst this; exact hne hT.symm
theorem or_bit (S p j : Nat) : (S ||| 1 <<< p).testBit j = (S.testBit j || decide (p = j)) := by rw [Nat.testBit_or, one_bit]
theorem or_lt {S p P : Nat} (h : S < 2 ^ p) (hp : p < P) : S ||| 1 <<< p < 2 ^ (p + 1) ∧ S ||| 1 <<< p < 2 ^ P := by
  have h1 : 2 ^ p < 2 ^ (p + 1) := Nat.pow_lt_pow_right (by omega) (by omega)
  have h2 : S ||| 1 <<< p < 2 ^ (p + 1) := Nat.or_lt_two_pow (by omega) (by rw [Nat.shiftLeft_eq, Nat.one_mul]; exact h1)
  exact ⟨h2, Nat.lt_of_lt_of_le h2 (Nat.pow_le_pow_right (by omega) (by omega))⟩
theorem Grow.yes {P : Nat} {L : List Quad} {x : Int} {S p : Nat} (h : Grow P L x S p) (hne : capQ S L ≠ x) (hx : x < maxI) (hn : NarW P (S ||| 1 <<< p) L x) : Grow P L x (S ||| 1 <<< p) (p + 1) := by
  have hp := h.more hne
  refine ⟨by omega, by omega, by rw [or_bit, h.z]; rfl, (or_lt h.lt hp).1, ?_, fun T t1 t2 => ?_⟩
  · rcases hn.2 with e | ⟨T, t1, t2, t3, t4⟩
    · omega
    · exact ⟨T, ⟨t1 0 (by rw [or_bit, h.z]; rfl), t3, t2⟩, t1, t4⟩
  · rcases h.all T t1 t2 with ha | ⟨k, k1, k2, k3, k4, k5⟩
    · cases hb : T.testBit p with
      | true =>
        refine .inl fun j hj => ?_
        rw [or_bit]
        by_cases e : p = j
        · subst e; rw [hb]; simp
        · rw [ha j (by omega), decide_eq_false e, Bool.or_false]
      | false =>
        obtain ⟨j, j1, j2⟩ := h.later hne t2 ha
        refine .inr ⟨p, by omega, fun i hi => ?_, by rw [or_bit]; simp, hb, j, ?_, j2⟩
        · rw [or_bit, ha i hi, decide_eq_false (by omega), Bool.or_false]
        · by_cases e : j = p
          · subst e; rw [hb] at j2; cases j2
          · omega
    · exact .inr ⟨k, by omega, fun i hi => by rw [or_bit, k2 i hi, decide_eq_false (by omega), Bool.or_false], by rw [or_bit, k3]; rfl, k4, k5⟩
theorem Grow.no {P : Nat} {L : List Quad} {x y : Int} {S p : Nat} (h : Grow P L x S p) (hne : capQ S L ≠ x) (hx : x < maxI) (hmin : ∀ T, Part0 P T → x ≤ capQ T L) (hn : NarW P (S ||| 1 <<< p) L y) (hxy : y ≠ x) : Grow P L x S (p + 1) := by
  have hp := h.more hne
  refine ⟨by omega, by omega, h.z, Nat.lt_of_lt_of_le h.lt (Nat.pow_le_pow_right (by omega) (by omega)), h.has, fun T t1 t2 => ?_⟩
  rcases h.all T t1 t2 with ha | ⟨k, k1, k2, k3, k4, k5⟩
  · cases hb : T.testBit p with
    | true =>
      exfalso
      have hsub : Sub (S ||| 1 <<< p) T := fun q hq => by
        rw [or_bit] at hq
        by_cases e : p = q
        · subst e; exact hb
        · rw [decide_eq_false e, Bool.or_false] at hq
          have hqp : q < p := by
            by_cases hh : q < p
            · exact hh
            · rw [high_bit h.lt (by omega)] at hq; cases hq
          rw [← ha q hqp]; exact hq
      have h1 := hn.1 T hsub t1.2.2
      rcases hn.2 with e | ⟨T', u1, u2, u3, u4⟩
      · omega
      · have := hmin T' ⟨u1 0 (by rw [or_bit, h.z]; rfl), u3, u2⟩
        omega
    | false =>
      refine .inl fun j hj => ?_
      by_cases e : p = j
      · subst e; rw [hb, high_bit h.lt (Nat.le_refl _)]
      · exact ha j (by omega)
  · exact .inr ⟨k, by omega, k2, k3, k4, k5⟩
theorem Grow.done {P : Nat} {L : List Quad} {x : Int} {S p : Nat} (h : Grow P L x S p) (he : capQ S L = x) (hmin : ∀ T, Part0 P T → x ≤ capQ T L) : Weak P L S x := by
  obtain ⟨T, t1, t2, t3⟩ := h.has
  refine ⟨⟨h.z, Nat.lt_of_lt_of_le h.lt (Nat.pow_le_pow_right (by omega) h.pP), ?_⟩, he.symm, fun T' u1 => ⟨hmin T' u1, fun u2 => ?_⟩⟩
  · obtain ⟨q, q1, q2⟩ := t1.2.2
    refine ⟨q, q1, ?_⟩
    cases hb : S.testBit q with
    | false => rfl
    | true => rw [t2 q hb] at q2; cases q2
  · rcases h.all T' u1 u2 with ha | ⟨k, k1, k2, k3, k4, k5⟩
    · by_cases e : T' = S
      · exact .inl e
      · right
        have hex : ∃ j, T'.testBit j = true ∧ S.testBit j = false := by
          apply Classical.byContradiction
          intro hn
          refine e (Nat.eq_of_testBit_eq fun j => ?_)
          by_cases hj : j < p
          · exact (ha j hj).symm
          · rw [high_bit h.lt (by omega)]
            cases hb : T'.testBit j with
            | false => rfl
            | true => exact absurd ⟨j, hb, high_bit h.lt (by omega)⟩ hn
        have hz : (bitsF (fun j => T'.testBit j && !S.testBit j) P) ≠ 0 := by
          obtain ⟨j, j1, j2⟩ := hex
          intro hz
          have hjP : j < P := by
            by_cases hh : j < P
            · exact hh
            · rw [high_bit u1.2.1 (by omega)] at j1; cases j1
          have := bitsF_bit (fun j => T'.testBit j && !S.testBit j) P j
          rw [hz, j1, j2, decide_eq_true hjP] at this
          simp at this
        obtain ⟨k, k1, k2⟩ := low_ex hz
        rw [bitsF_bit] at k1
        simp only [Bool.and_eq_true, decide_eq_true_eq, Bool.not_eq_true'] at k1
        have hpk : p ≤ k := by
          by_cases hh : p ≤ k
          · exact hh
          · have := ha k (by omega); rw [k1.2.1, k1.2.2] at this; cases this
        refine ⟨k, fun j hj => ?_, .inr ⟨k1.2.2, k1.2.1, fun j hj => high_bit h.lt (by omega)⟩⟩
        by_cases hjp : j < p
        · exact ha j hjp
        · have := k2 j hj
          rw [bitsF_bit, high_bit h.lt (by omega : p ≤ j), decide_eq_true (by omega)] at this
          rw [high_bit h.lt (by omega : p ≤ j)]
          simp only [Bool.true_and, Bool.not_false, Bool.and_true] at this
          exact this.symm
    · exact .inr ⟨k, k2, .inl ⟨k3, k4, k5⟩⟩
theorem Grow.start {P : Nat} {L : List Quad} {x : Int} (hP : 2 ≤ P) (hx : x < maxI) (hn : NarW P 1 L x) : Grow P L x 1 1 ∧ ∀ T, Part0 P T → x ≤ capQ T L := by
  have h1 : ∀ q, (1 : Nat).testBit q = decide (0 = q) := fun q => one_bit 0 q
  refine ⟨⟨by omega, by omega, by rw [h1]; rfl, by omega, ?_, fun T t1 t2 => .inl fun j hj => ?_⟩, fun T t => hn.1 T (fun q hq => ?_) t.2.2⟩
  · rcases hn.2 with e | ⟨T, t1, t2, t3, t4⟩
    · omega
    · exact ⟨T, ⟨t1 0 (by rw [h1]; rfl), t3, t2⟩, t1, t4⟩
  · have : j = 0 := by omega
    subst this; rw [h1, t1.1]; rfl
  · rw [h1] at hq
    have : 0 = q := by simpa using hq
    subst this; exact t.1
theorem weakest_wp {W : AW} {v : Value} {P : Nat} {lk : List Tri} (h : TriIn W v lk) (hok : planOk P (arcsQ lk) = true) (hT : tabsIn T0 T0.tabs W = true) (h0 : 0 < W.next) :
    WpF T0 28 [.agg ⟨[.int .i64 P, v]⟩] W (fun u W' => Ext W W' ∧ ∃ F x lv, u = .tuple ⟨[.int .i64 x, lv, .int .i64 0]⟩ ∧ Weak P (linksQ lk) F x ∧ IntL W' lv (memb P F)) := by
  have hPin := links_in hok
  obtain ⟨hP2, hP24, hl200⟩ := hPin.size
  have hP2n : 2 ≤ P := by omega
  have hpP : 2 ^ P ≤ 2 ^ 24 := Nat.pow_le_pow_right (by omega) (by omega)
  have h2P : 2 ^ 1 ≤ 2 ^ P := Nat.pow_le_pow_right (by omega) (by omega)
  refine wpF fun28 rfl ?_
  obtain ⟨W0, hW0, hE0, hV0⟩ : ∃ W0, W0 = W.newCells 35 [.int .i64 P, v] ∧ Ext W W0 ∧ Var W0 W.next 35 [.int .i64 P, v] := ⟨_, rfl, .newCells _ _ _, Var.new _ _ _⟩
  have hN := boardPlan (P := (P : Int)) (h.ext hE0)
  have hc := check_wp hN
  rw [chk, planOk_links, hok] at hc
  have l35 : ∀ W', Ext W0 W' → aLoadVar T0 W' 35 W.next 0 = some (.agg ⟨[.int .i64 P, v]⟩) := fun W' h => load35 (hV0.ext h)
  have e00 : Ext W0 W0 := .refl _ _
  have vvv := tri_eq h
  have Tb : ∀ {W'}, Ext W0 W' → tabsIn T0 T0.tabs W' = true := fun e => tabs_ext hT h0 (hE0.trans e)
  have N0 : ∀ {W'}, Ext W0 W' → 0 < W'.next := fun e => Nat.lt_of_lt_of_le h0 (hE0.trans e).1
  have nar : ∀ {W'} (S : Nat), Ext W0 W' → S.testBit 0 = true → S < 2 ^ P → WpF T0 67 [.agg ⟨[.int .i64 P, v]⟩, .int .u64 (S : Nat)] W' (fun u W'' => Ext W' W'' ∧ ∃ x, u = .int .i64 x ∧ NarW P S (linksQ lk) x) := fun S e h1 h2 => narrowest_wp (h.ext (hE0.trans e)) hok (Tb e) (N0 e) h1 h2
  have acr : ∀ {W'} (S : Nat), Ext W0 W' → S < 2 ^ P → WpF T0 65 [.iface 35 (.agg ⟨[.int .i64 P, v]⟩), .int .u64 (S : Nat)] W' (fun u W'' => Ext W' W'' ∧ u = .int .i64 (capQ S (linksQ lk))) := fun S e h2 => across_wp (hN.ext e) hPin S (by omega)
  obtain ⟨L, hL⟩ : ∃ L, L = linksQ lk := ⟨_, rfl⟩
  rw [← hL] at hPin hl200 ⊢
  simp only [← hL] at nar acr
  try simp only [wpK_assoc]
  refine wpK_reg (fun R hR => by simp [← hW0]; exact hR) ?_
  try simp only [wpK_assoc]
  refine wpK_x0 (fun R hR => by
      simp [l35, e00, opMI35, -opMakeInterface, aEnter, fun51, short_other, aCallV]; rw [callS_none]
      refine (hc).mono ?_
      rintro _ W1 ⟨e1, rfl⟩
      simp [l35, e00, opMI35, -opMakeInterface]; exact hR W1 e1) ?_
  rintro W1 e1
  try simp only [wpK_assoc]
  refine wpK_reg (fun R hR => by simp []; exact hR) ?_
  try simp only [wpK_assoc]
  first | refine wpK_onF (by simp []) ?_ | refine wpK_out (by simp []) ?_ | refine wpK_condF (by simp []) ?_ | refine wpK_endF (by simp []) (wpK_skip ?_) | refine wpK_endF (by simp []) ?_
  have h1p := one_wp 0 (by omega) W1
  rw [show (1 <<< 0 : Nat) = 1 from rfl] at h1p
  try simp only [wpK_assoc]
  refine wpK_reg (fun R hR => by
      simp [aEnter, fun54, short_other, aCallV]; rw [callS_none]
      refine (h1p).mono ?_
      rintro _ W9 ⟨e9, rfl⟩; subst W9
      simp []; exact hR) ?_
  have n1 := nar 1 e1 (by decide) (by omega)
  try simp only [wpK_assoc]
  refine wpK_x1 (fun R hR => by
      simp [l35, e1, aEnter, fun67, short_other, aCallV]; rw [callS_none]
      refine (n1).mono ?_
      rintro _ W2 ⟨e2, x, rfl, hn⟩
      simp [l35, e1]; exact hR x W2 (And.intro e2 hn)) ?_
  rintro x W2 ⟨e2, hn⟩
  have ew2 := e1.trans e2
  have hxm : x < maxI := by
    have h1 := hn.1 1 (fun q hq => hq) ⟨1, by omega, by decide⟩
    have h2 := (capQ_le hPin 1 L.length (Nat.le_refl _)).2
    rw [List.take_length] at h2
    unfold maxI
    omega
  obtain ⟨hg, hmin⟩ := Grow.start hP2n hxm hn
  try simp only [wpK_assoc]
  refine wpK_reg (fun R hR => by simp []; exact hR) ?_
  try simp only [wpK_assoc]
  refine wpK_while (I := fun k A W' => A.n = 42 ∧ A.defers = [] ∧ A.tmps.get 1 = some (.pointer (some ⟨W.next, 0, none⟩)) ∧ A.tmps.get 7 = some (.int .i64 x) ∧ Ext W0 W' ∧ ∃ (S p : Nat), k = P - p ∧ A.tmps.get 6 = some (.int .u64 (S : Nat)) ∧ A.tmps.get 8 = some (.int .i64 (p : Nat)) ∧ Grow P L x S p)
    (J := fun A W' => A.n = 42 ∧ A.defers = [] ∧ A.tmps.get 1 = some (.pointer (some ⟨W.next, 0, none⟩)) ∧ A.tmps.get 7 = some (.int .i64 x) ∧ Ext W0 W' ∧ ∃ (S : Nat), A.tmps.get 6 = some (.int .u64 (S : Nat)) ∧ Weak P L S x) (Rt := fun _ _ => False) (k := P - 1) ?_ ?_ ?_ ?_
  · exact ⟨rfl, rfl, by simp, by simp, ew2, 1, 1, rfl, by simp, by simp, hg⟩
  · rintro k ⟨tm, n, ds⟩ W3 ⟨hn, hd, h1, h7, e3, S, p, hk, h6, h8, hG⟩ Q' hJ hRt hI
    simp only at hn hd h1 h7
    subst hn; subst hd
    simp only at h6 h8
    have hSP : S < 2 ^ P := Nat.lt_of_lt_of_le hG.lt (Nat.pow_le_pow_right (by omega) hG.pP)
    have ha := acr S e3 hSP
    by_cases he : capQ S L = x
    · try simp only [wpK_assoc]
      refine wpK_x0 (fun R hR => by
          simp [h1, h6, h7, l35, e3, opMI35, -opMakeInterface, aEnter, fun65, short_other, aCallV]; rw [callS_none]
          refine (ha).mono ?_
          rintro _ W4 ⟨e4, rfl⟩
          simp [h1, h6, h7, he]; exact hR W4 e4) ?_
      rintro W4 e4
      try simp only [wpK_assoc]
      first | refine wpK_onF (by simp []) ?_ | refine wpK_out (by simp []) ?_ | refine wpK_condF (by simp []) ?_ | refine wpK_endF (by simp []) (wpK_skip ?_) | refine wpK_endF (by simp []) ?_
      exact hJ _ _ ⟨rfl, rfl, by simp [h1, h7], by simp [h1, h7], e3.trans e4, S, by simp [h6], hG.done he hmin⟩
    try simp only [wpK_assoc]
    refine wpK_x0 (fun R hR => by
        simp [h1, h6, h7, l35, e3, opMI35, -opMakeInterface, aEnter, fun65, short_other, aCallV]; rw [callS_none]
        refine (ha).mono ?_
        rintro _ W4 ⟨e4, rfl⟩
        simp [h1, h6, h7, he]; exact hR W4 e4) ?_
    rintro W4 e4
    try simp only [wpK_assoc]
    first | refine wpK_onT (by simp []) ?_ | refine wpK_outT (by simp []) ?_ | refine wpK_condT (by simp []) ?_ | refine wpK_endT (by simp []) ?_
    have e04 := e3.trans e4
    have hp := hG.more he
    have hp1 := hG.p1
    obtain ⟨o1, o2⟩ := or_lt hG.lt hp
    refine wpK_block ?_
    have h1q := one_wp p (by omega) W4
    have h1r := fun W' => one_wp p (by omega) W'
    have hor := aBinI_or .u64 S (1 <<< p) (by show S < 18446744073709551616; omega) (one_lt (by omega))
    have ho0 : (S ||| 1 <<< p).testBit 0 = true := by rw [or_bit, hG.z]; rfl
    have hnr := nar (S ||| 1 <<< p) e04 ho0 o2
    have hyes := hG.yes he hxm
    have hno := fun y hn hy => hG.no (y := y) he hxm hmin hn hy
    generalize S ||| 1 <<< p = S' at *
    generalize 1 <<< p = op at *
    try simp only [wpK_assoc]
    try simp only [wpK_assoc]
    refine wpK_d1 (wr := Tr.nil |>.set 27 0 |>.set 28 1 |>.set 29 2 |>.set 30 3 |>.set 31 4 |>.set 32 5 |>.set 33 6 |>.set 34 7) (bits := Tr.nil.lay 0 [0, 0, 0, 4, 14, 31, 0, 127]) (ord := [0, 1, 2, 3, 4, 5, 6, 7]) (by kernel_rfl) (by kernel_rfl) (by kernel_rfl) (fun G hG => by
      simp [h1, h6, h7, h8, l35, e04, vvv, aEnter, fun54, short_other, aCallV]
      rw [dcallS_none]
      refine h1q.mono ?_
      rintro _ W9 ⟨e9, rfl⟩; subst W9
      simp [h1, h6, h7, h8, l35, e04, vvv, hor, aEnter, fun67, short_other, aCallV]
      rw [dcallS_none]
      refine hnr.mono ?_
      rintro _ W5 ⟨e5, y, rfl, hny⟩
      simp [h1, h6, h7, h8, l35, e04, e04.trans e5, e5.1, vvv, hor]
      exact hG y W5 (And.intro e5 hny)) ?_
    rintro y W5 ⟨e5, hny⟩
    try simp only [wpK_assoc]
    refine wpK_cut1 (J := fun A W' => A.n = 42 ∧ A.defers = [] ∧ A.tmps.get 1 = some (.pointer (some ⟨W.next, 0, none⟩)) ∧ A.tmps.get 7 = some (.int .i64 x) ∧ Ext W0 W' ∧ ∃ S2 : Nat, A.tmps.get 6 = some (.int .u64 (S2 : Nat)) ∧ A.tmps.get 8 = some (.int .i64 (p : Nat)) ∧ Grow P L x S2 (p + 1)) (fun Q2 hQ2 => ?_) ?_
    · by_cases hy : y = x
      · refine wpK_endT (by simp [hy]) ?_
        have h1s := h1r W5
        try simp only [wpK_assoc]
        refine wpK_reg1 (fun R hR => by
            simp [h1, h6, h7, h8, aEnter, fun54, short_other, aCallV]; rw [callS_none]
            refine (h1s).mono ?_
            rintro _ W9 ⟨e9, rfl⟩; subst W9
            simp [h6, h8, hor]; exact hR) ?_
        subst hy
        exact hQ2 _ _ ⟨rfl, rfl, by simp [h1, h7], by simp [h1, h7], e04.trans e5, S', by simp, by simp [h8], hyes hny⟩
      · refine wpK_endF (by simp [hy]) (wpK_skip (hQ2 _ _ ⟨rfl, rfl, by simp [h1, h7], by simp [h1, h7], e04.trans e5, S, by simp [h6], by simp [h8], hno y hny hy⟩))
    rintro ⟨tm, n, ds⟩ W6 ⟨hn, hd, h1, h7, e6, S2, h6, h8, hG2⟩
    simp only at hn hd h1 h7
    subst hn; subst hd
    simp only at h6 h8
    simp only [leaves_normal, behind_normal]
    have hsp : IntKind.i64.wrap ((p : Int) + 1) = ((p + 1 : Nat) : Int) := i64_succ p (by omega)
    try simp only [wpK_assoc]
    refine wpK_reg1 (fun R hR => by simp [h8, hsp]; exact hR) ?_
    exact hI (P - (p + 1)) _ _ (by omega) ⟨rfl, rfl, by simp [h1, h7], by simp [h1, h7], e6, S2, p + 1, rfl, by simp [h6], by simp, hG2⟩
  · rintro A' W' hf; exact hf.elim
  · rintro ⟨tm, n, ds⟩ W3 ⟨hn, hd, h1, h7, e3, S, h6, hWk⟩
    simp only at hn hd h1 h7
    subst hn; subst hd
    simp only at h6
    have hSP := hWk.1.2.1
    have hls := list_wp (x := S) (by omega) (Tb e3) (N0 e3)
    rw [memb_more (fun j hj => high_bit hSP hj) 24 (by omega)] at hls
    try simp only [wpK_assoc]
    refine wpK_x1 (fun R hR => by
        simp [h6, h7, aEnter, fun58, short_other, aCallV]; rw [callS_none]
        refine (hls).mono ?_
        rintro lv W4 ⟨e4, hGr⟩
        simp [h6, h7]; exact hR lv W4 (And.intro e4 hGr)) ?_
    rintro lv W4 ⟨e4, hGr⟩
    exact wpK_ret ⟨.inr rfl, rfl, [.int .i64 x, lv, .int .i64 0], by simp [h7], hE0.trans (e3.trans e4), S, x, lv, rfl, hWk, GrowsN.ints hGr⟩
def lexB : List Int → List Int → Bool
  | [], m => !m.isEmpty
  | _ :: _, [] => false
  | a :: l, b :: m => if a = b then lexB l m else decide (a < b)
theorem lexB_asymm : ∀ (l m : List Int), lexB l m = true → lexB m l = false
  | [], [], h => by simp [lexB] at h
  | [], _ :: _, _ => rfl
  | _ :: _, [], h => by simp [lexB] at h
  | a :: l, b :: m, h => by
    simp only [lexB] at h ⊢
    by_cases e : a = b
    · rw [if_pos e] at h; rw [if_pos e.symm]; exact lexB_asymm l m h
    · rw [if_neg e] at h; rw [if_neg (fun e2 => e e2.symm)]
      simp only [decide_eq_true_eq] at h; simp only [decide_eq_false_iff_not]; omega
theorem bef_lex {P : Nat} : ∀ (n S T : Nat), S ≤ n → S < 2 ^ P → T < 2 ^ P → Bef S T → lexB (memb P S) (memb P T) = true := by
  intro n
  induction n using Nat.strongRecOn with
  | _ n ih =>
    intro S T hn hS hT hB
    obtain ⟨k, ha, hb⟩ := hB
    have ltP : ∀ {x j}, x < 2 ^ P → x.testBit j = true → j < P := fun {x j} hx hj => by
      by_cases h : j < P
      · exact h
      · rw [high_bit hx (by omega)] at hj; cases hj
    by_cases hz : S = 0
    · subst hz
      rw [memb_empty P 0 (fun j _ => by simp)]
      have hTz : T ≠ 0 := by
        rintro rfl
        rcases hb with ⟨b1, b2, _⟩ | ⟨b1, b2, _⟩
        · simp at b1
        · simp at b2
      obtain ⟨i, i1, i2⟩ := low_ex hTz
      rw [memb_low i1 i2, if_pos (ltP hT i1)]
      rfl
    obtain ⟨s, s1, s2⟩ := low_ex hz
    have hsP := ltP hS s1
    have hd := dropLow_lt hz
    have hd2 : dropLow T ≤ T := by unfold dropLow; exact Nat.and_le_left
    by_cases hsk : s < k
    · have t1 : T.testBit s = true := by rw [← ha s hsk]; exact s1
      have t2 : ∀ j, j < s → T.testBit j = false := fun j hj => by rw [← ha j (by omega)]; exact s2 j hj
      rw [memb_low s1 s2, memb_low t1 t2, if_pos hsP]
      show lexB ((s : Int) :: memb P (dropLow S)) ((s : Int) :: memb P (dropLow T)) = true
      rw [lexB, if_pos rfl]
      refine ih (dropLow S) (by omega) _ _ (Nat.le_refl _) (by omega) (by omega) ⟨k, fun j hj => ?_, ?_⟩
      · rw [dropLow_bit s1 s2, dropLow_bit t1 t2, ha j hj]
      · simp only [dropLow_bit s1 s2, dropLow_bit t1 t2]
        rcases hb with ⟨b1, b2, j, b3, b4⟩ | ⟨b1, b2, b3⟩
        · exact .inl ⟨by rw [b1]; simp; omega, by rw [b2]; rfl, j, b3, by rw [b4]; simp; omega⟩
        · exact .inr ⟨by rw [b1]; rfl, by rw [b2]; simp; omega, fun j hj => by rw [b3 j hj]; rfl⟩
    · rcases hb with ⟨b1, b2, j, b3, b4⟩ | ⟨b1, b2, b3⟩
      · have hks : s = k := by
          by_cases e : k < s
          · rw [s2 k e] at b1; cases b1
          · omega
        subst hks
        have hTz : T ≠ 0 := by rintro rfl; simp at b4
        obtain ⟨i, i1, i2⟩ := low_ex hTz
        have his : s < i := by
          by_cases e : i < s
          · have := ha i e; rw [s2 i e, i1] at this; cases this
          · by_cases e2 : i = s
            · subst e2; rw [b2] at i1; cases i1
            · omega
        rw [memb_low s1 s2, memb_low i1 i2, if_pos hsP, if_pos (ltP hT i1)]
        show lexB ((s : Int) :: memb P (dropLow S)) ((i : Int) :: memb P (dropLow T)) = true
        rw [lexB, if_neg (by omega)]
        simp; omega
      · exfalso
        by_cases e : s = k
        · subst e; rw [b1] at s1; cases s1
        · rw [b3 s (by omega)] at s1; cases s1
def BestW (P : Nat) (L : List Quad) (F : Nat) (x : Int) (mask : Nat) (xb : Int) (lb : List Int) : Prop :=
  (F < mask ∧ xb = x ∧ lb = memb P F) ∨ (mask ≤ F ∧ (xb = -1 ∨ ∃ B, Part0 P B ∧ B < mask ∧ xb = capQ B L ∧ lb = memb P B))
theorem capQ_nn {P : Int} {L : List Quad} (h : PlanIn P L) (S : Nat) : 0 ≤ capQ S L := by
  have := (capQ_le h S L.length (Nat.le_refl _)).1
  rwa [List.take_length] at this
theorem BestW.step {P : Nat} {L : List Quad} {F : Nat} {x : Int} {T : Nat} {xb : Int} {lb : List Int} (hin : PlanIn P L) (hW : Weak P L F x) (hT : Part0 P T) (hF : T ≤ F ∨ F < T) (h : BestW P L F x T xb lb) (hFo : ∀ m, T < m → m ≤ T + 2 → m ≤ F ∨ F < m) (hodd : F ≠ T + 1) :
    BestW P L F x (T + 2) (if (decide (xb < 0) || decide (capQ T L < xb) || (decide (capQ T L = xb) && lexB (memb P T) lb)) = true then capQ T L else xb) (if (decide (xb < 0) || decide (capQ T L < xb) || (decide (capQ T L = xb) && lexB (memb P T) lb)) = true then memb P T else lb) := by
  obtain ⟨hF0, hx, hall⟩ := hW
  have hxn := capQ_nn hin F
  rcases h with ⟨h1, h2, h3⟩ | ⟨h1, h2⟩
  · obtain ⟨a1, a2⟩ := hall T hT
    have hc : (decide (xb < 0) || decide (capQ T L < xb) || (decide (capQ T L = xb) && lexB (memb P T) lb)) = false := by
      rw [h2, h3, decide_eq_false (by omega), decide_eq_false (by omega), Bool.false_or, Bool.false_or]
      by_cases e : capQ T L = x
      · rcases a2 e.symm with e2 | hb
        · omega
        · rw [lexB_asymm _ _ (bef_lex F F T (Nat.le_refl _) hF0.2.1 hT.2.1 hb), Bool.and_false]
      · rw [decide_eq_false e, Bool.false_and]
    rw [hc]
    exact .inl ⟨by omega, h2, h3⟩
  · by_cases e : T = F
    · subst e
      left
      refine ⟨by omega, ?_⟩
      rcases h2 with h2 | ⟨B, b1, b2, b3, b4⟩
      · rw [h2, decide_eq_true (by omega : (-1 : Int) < 0)]; exact ⟨hx.symm, rfl⟩
      · obtain ⟨a1, a2⟩ := hall B b1
        have hc : (decide (xb < 0) || decide (capQ T L < xb) || (decide (capQ T L = xb) && lexB (memb P T) lb)) = true := by
          by_cases e : x = capQ B L
          · rcases a2 e with e2 | hb
            · omega
            · rw [b4, bef_lex T T B (Nat.le_refl _) hT.2.1 b1.2.1 hb, decide_eq_true (by omega : capQ T L = xb)]; simp
          · rw [decide_eq_true (by omega : capQ T L < xb)]; simp
        rw [hc]; exact ⟨hx.symm, rfl⟩
    · right
      refine ⟨by omega, ?_⟩
      cases hc : (decide (xb < 0) || decide (capQ T L < xb) || (decide (capQ T L = xb) && lexB (memb P T) lb)) with
      | true => exact .inr ⟨T, hT, by omega, rfl, rfl⟩
      | false =>
        rcases h2 with h2 | ⟨B, b1, b2, b3, b4⟩
        · exact .inl h2
        · exact .inr ⟨B, b1, by omega, b3, b4⟩
theorem GH.weights {P : Nat} {L : List Quad} {a : Nat → Nat} {w : Nat → Int} {D : Nat → Nat → Bool} {rk : Nat → Nat} (h : GH P L a w D rk P) (hin : PlanIn P L) : ∀ b ∈ treeL a w (P - 1), b.2.2 ≤ maxI := fun b hb => by
  obtain ⟨i, hi⟩ := List.mem_iff_getElem?.1 hb
  obtain ⟨h1, rfl⟩ := treeL_get hi
  have hv := h.val (i + 1) (by omega) (by omega)
  rw [← bitsF_cap hin] at hv
  have h2 := (capQ_le hin (bitsF (D (i + 1)) P) L.length (Nat.le_refl _)).2
  rw [List.take_length, hv] at h2
  have h3 := hin.size.2.2
  show w (i + 1) ≤ maxI
  unfold maxI; omega
theorem und103 : T0.und.get 103 = some (.slice 43) := by kernel_rfl
theorem z43 : Tryd.t43.zero = some (.slice none 0 0) := by kernel_rfl
theorem by43 : Tryd.t43.bytes = 24 := by kernel_rfl
def rowV (b n : Nat) : Value := .slice (some ⟨b, 0, none⟩) n (2 * n)
def numsL (n : Nat) (g : Nat → Int) : List Value := (List.range n).map fun j => .int .i64 (g j)
theorem numsL_len (n : Nat) (g : Nat → Int) : (numsL n g).length = n := by simp [numsL]
theorem numsL_at {n j : Nat} (g : Nat → Int) (h : j < n) : (numsL n g)[j]? = some (.int .i64 (g j)) := by
  simp only [numsL, List.getElem?_map, List.getElem?_range h]; rfl
def updZ (g : Nat → Int) (j : Nat) (b : Int) : Nat → Int := fun i => if i = j then b else g i
theorem numsL_set {n j : Nat} (g : Nat → Int) (b : Int) : (numsL n g).set j (.int .i64 b) = numsL n (updZ g j b) := by
  apply List.ext_getElem?
  intro i
  rw [List.getElem?_set]
  by_cases hi : i < n
  · rw [numsL_at _ hi, numsL_at _ hi, numsL_len]
    by_cases e : j = i
    · subst e; rw [if_pos rfl, if_pos hi]; simp [updZ]
    · rw [if_neg e]; simp only [updZ, if_neg (Ne.symm e)]
  · rw [List.getElem?_eq_none (by rw [numsL_len]; omega), List.getElem?_eq_none (by rw [numsL_len]; omega)]
    split
    · rw [numsL_len, if_neg (by omega)]
    · rfl
theorem numsL_congr {n : Nat} {g g' : Nat → Int} (h : ∀ j, j < n → g j = g' j) : numsL n g = numsL n g' := by
  apply List.map_congr_left
  intro j hj
  rw [List.mem_range] at hj
  rw [h j hj]
def outerL (n k : Nat) (f : Nat → Nat) : List Value := (List.range n).map fun i => if i < k then rowV (f i) n else .slice none 0 0
theorem outerL_len (n k : Nat) (f : Nat → Nat) : (outerL n k f).length = n := by simp [outerL]
theorem outerL_at {n k i : Nat} (f : Nat → Nat) (h : i < n) : (outerL n k f)[i]? = some (if i < k then rowV (f i) n else .slice none 0 0) := by
  simp only [outerL, List.getElem?_map, List.getElem?_range h]; rfl
structure NMat (W : AW) (m n k : Nat) (f : Nat → Nat) (r : Nat → Nat → Int) : Prop where
  outer : Var W m 43 (outerL n k f)
  row : ∀ i, i < k → Var W (f i) 2 (numsL n (r i))
  ne : ∀ i, i < k → f i ≠ m
  inj : ∀ i j, i < k → j < k → f i = f j → i = j
theorem NMat.only {W W' : AW} {m n k : Nat} {f : Nat → Nat} {r : Nat → Nat → Int} {K : Nat → Prop} (h : NMat W m n k f r) (he : Only K W W') (hm : ¬ K m) (hf : ∀ i, i < k → ¬ K (f i)) : NMat W' m n k f r :=
  ⟨h.outer.only he hm, fun i hi => (h.row i hi).only he (hf i hi), h.ne, h.inj⟩
theorem NMat.ext {W W' : AW} {m n k : Nat} {f : Nat → Nat} {r : Nat → Nat → Int} (h : NMat W m n k f r) (he : Ext W W') : NMat W' m n k f r := h.only he (fun x => x) (fun _ _ x => x)
theorem NMat.congr {W : AW} {m n k : Nat} {f : Nat → Nat} {r r' : Nat → Nat → Int} (h : NMat W m n k f r) (hr : ∀ i j, i < k → j < n → r i j = r' i j) : NMat W m n k f r' :=
  ⟨h.outer, fun i hi => by rw [← numsL_congr (fun j hj => hr i j hi hj)]; exact h.row i hi, h.ne, h.inj⟩
theorem NMat.at {W : AW} {m n k : Nat} {f : Nat → Nat} {r : Nat → Nat → Int} (h : NMat W m n k f r) {i : Nat} (hi : i < k) (hk : k ≤ n) : aIndexAddr T0 103 (rowV m n) (.int .i64 (i : Int)) = some (.pointer (some ⟨m, i, none⟩)) ∧ aLoadVar T0 W 43 m i = some (rowV (f i) n) := by
  refine ⟨?_, ?_⟩
  · have := indexAddr_slice (T := T0) (t := 103) (e := 43) (sz := 1) und103 sz43 (b := m) (o := 0) (len := n) (c := 2 * n) (i := i) (k := .i64) (by omega)
    rw [Nat.zero_add, Nat.mul_one] at this; exact this
  · have := h.outer.load1 (T := T0) und43 rfl (outerL_at f (show i < n by omega))
    rw [if_pos hi] at this; exact this
theorem row_ix {b n j : Nat} (hj : j < n) : aIndexAddr T0 43 (rowV b n) (.int .i64 (j : Int)) = some (.pointer (some ⟨b, j, none⟩)) := by
  have := indexAddr_slice (T := T0) (t := 43) (e := 2) (sz := 1) und43 sz2 (b := b) (o := 0) (len := n) (c := 2 * n) (i := j) (k := .i64) hj
  rw [Nat.zero_add, Nat.mul_one] at this; exact this
theorem outer_ix {m n i : Nat} (hi : i < n) : aIndexAddr T0 103 (rowV m n) (.int .i64 (i : Int)) = some (.pointer (some ⟨m, i, none⟩)) := by
  have := indexAddr_slice (T := T0) (t := 103) (e := 43) (sz := 1) und103 sz43 (b := m) (o := 0) (len := n) (c := 2 * n) (i := i) (k := .i64) hi
  rw [Nat.zero_add, Nat.mul_one] at this; exact this
theorem NMat.cell {W : AW} {m n k : Nat} {f : Nat → Nat} {r : Nat → Nat → Int} (h : NMat W m n k f r) {i j : Nat} (hi : i < k) (hj : j < n) : aLoadVar T0 W 2 (f i) j = some (.int .i64 (r i j)) :=
  (h.row i hi).load1 (T := T0) und2 rfl (numsL_at (r i) hj)
theorem NMat.put {W : AW} {m n k : Nat} {f : Nat → Nat} {r : Nat → Nat → Int} (h : NMat W m n k f r) {i j : Nat} (hi : i < k) (hj : j < n) (b : Int) :
    ∃ W', aStoreVar T0 W 2 (f i) j (.int .i64 b) = some W' ∧ W'.next = W.next ∧ Only (fun c => c = f i) W W' ∧ NMat W' m n k f (fun p => if p = i then updZ (r i) j b else r p) := by
  obtain ⟨W', g1, g2, g3, g4⟩ := (h.row i hi).store (T := T0) (t := 2) (v := .int .i64 b) (o := j) inf2 (by rw [is2]; rfl) (by rw [numsL_len]; show j + 1 ≤ n; omega) rfl
  refine ⟨W', g1, g2, g3, h.outer.only g3 (fun e => h.ne i hi e.symm), fun p hp => ?_, h.ne, h.inj⟩
  by_cases e : p = i
  · subst e
    rw [if_pos rfl, ← numsL_set]
    have e2 : (numsL n (r p)).take j ++ acells (.int .i64 b) ++ (numsL n (r p)).drop (j + (acells (.int .i64 b)).length) = (numsL n (r p)).set j (.int .i64 b) := by
      rw [List.set_eq_take_append_cons_drop, if_pos (by rw [numsL_len]; omega)]
      simp [acells]
    rw [e2] at g4; exact g4
  · rw [if_neg e]
    exact (h.row p hp).only g3 (fun x => e (h.inj p i hp hi x))
theorem outerL_set {n k : Nat} (f : Nat → Nat) (x : Nat) : (outerL n k f).set k (rowV x n) = outerL n (k + 1) (fun i => if i = k then x else f i) := by
  apply List.ext_getElem?
  intro i
  rw [List.getElem?_set]
  by_cases hi : i < n
  · rw [outerL_at _ hi, outerL_at _ hi, outerL_len]
    by_cases e : k = i
    · subst e; rw [if_pos rfl, if_pos hi, if_pos (by omega)]; simp
    · rw [if_neg e]
      by_cases hk : i < k
      · rw [if_pos hk, if_pos (by omega), if_neg (by omega)]
      · rw [if_neg hk, if_neg (by omega)]
  · rw [List.getElem?_eq_none (by rw [outerL_len]; omega), List.getElem?_eq_none (by rw [outerL_len]; omega)]
    split
    · rw [outerL_len, if_neg (by omega)]
    · rfl
def ZMat (W : AW) (v : Value) (n : Nat) (r : Nat → Nat → Int) (K : Nat → Prop) : Prop := ∃ m f, v = rowV m n ∧ NMat W m n n f r ∧ K m ∧ ∀ i, i < n → K (f i)
theorem ZMat.only {W W' : AW} {v : Value} {n : Nat} {r : Nat → Nat → Int} {K K' : Nat → Prop} (h : ZMat W v n r K) (he : Only K' W W') (hk : ∀ b, b < W.next → K b → ¬ K' b) : ZMat W' v n r K :=
  let ⟨m, f, h1, h2, h3, h4⟩ := h
  ⟨m, f, h1, h2.only he (hk m h2.outer.1 h3) (fun i hi => hk _ (h2.row i hi).1 (h4 i hi)), h3, h4⟩
theorem ZMat.ext {W W' : AW} {v : Value} {n : Nat} {r : Nat → Nat → Int} {K : Nat → Prop} (h : ZMat W v n r K) (he : Ext W W') : ZMat W' v n r K := h.only he (fun _ _ _ x => x)
theorem ZMat.mono {W : AW} {v : Value} {n : Nat} {r : Nat → Nat → Int} {K K' : Nat → Prop} (h : ZMat W v n r K) (hk : ∀ b, K b → K' b) : ZMat W v n r K' :=
  let ⟨m, f, h1, h2, h3, h4⟩ := h
  ⟨m, f, h1, h2, hk _ h3, fun i hi => hk _ (h4 i hi)⟩
theorem ZMat.congr {W : AW} {v : Value} {n : Nat} {r r' : Nat → Nat → Int} {K : Nat → Prop} (h : ZMat W v n r K) (hr : ∀ i j, i < n → j < n → r i j = r' i j) : ZMat W v n r' K :=
  let ⟨m, f, h1, h2, h3, h4⟩ := h
  ⟨m, f, h1, h2.congr hr, h3, h4⟩
theorem rep_one (z : Value) (hz : acells z = [z]) : ∀ n : Nat, rep (acells z) n = List.replicate n z
  | 0 => rfl
  | n + 1 => by rw [rep, rep_one z hz n, hz]; rfl
theorem mk103 (W : AW) (n : Nat) (hn : n ≤ 64) : aMakeSlice T0 W 103 (.int .i64 (n : Int)) (.int .i64 (n : Int)) = some (rowV W.next n, W.newCells 43 (outerL n 0 (fun _ => 0))) := by
  show aMakeSlice T0 W 103 (.int .i64 (Int.ofNat n)) (.int .i64 (Int.ofNat n)) = _
  have h1 : n ≤ 4611686018427387904 := by omega
  have h2 : Tryd.t43.bytes * n ≤ 281474976710656 := by rw [by43]; omega
  have e : outerL n 0 (fun _ => 0) = List.replicate n (.slice none 0 0) := by
    apply List.ext_getElem?
    intro i
    by_cases hi : i < n
    · rw [outerL_at _ hi, if_neg (by omega), List.getElem?_replicate, if_pos hi]
    · rw [List.getElem?_eq_none (by rw [outerL_len]; omega), List.getElem?_eq_none (by simp; omega)]
  rw [e, ← rep_one _ rfl n]
  simp only [aMakeSlice, und103, inf43, z43, h1, h2, is43, ble_dec, acells, List.length_cons, List.length_nil, Nat.beq_refl, Nat.le_refl, decide_true]
  rfl
theorem mk43m (W : AW) (n : Nat) (hn : n ≤ 64) : aMakeSlice T0 W 43 (.int .i64 (n : Int)) (.int .i64 (n : Int)) = some (rowV W.next n, W.newCells 2 (numsL n (fun _ => 0))) := by
  show aMakeSlice T0 W 43 (.int .i64 (Int.ofNat n)) (.int .i64 (Int.ofNat n)) = _
  have h1 : n ≤ 4611686018427387904 := by omega
  have h2 : Tryd.t2.bytes * n ≤ 281474976710656 := by rw [by2]; omega
  have e : numsL n (fun _ => 0) = List.replicate n (.int .i64 0) := by
    apply List.ext_getElem?
    intro i
    by_cases hi : i < n
    · rw [numsL_at _ hi, List.getElem?_replicate, if_pos hi]
    · rw [List.getElem?_eq_none (by rw [numsL_len]; omega), List.getElem?_eq_none (by simp; omega)]
  rw [e, ← rep_one _ rfl n]
  simp only [aMakeSlice, und43, inf2, z2', h1, h2, is2, ble_dec, acells, List.length_cons, List.length_nil, Nat.beq_refl, Nat.le_refl, decide_true]
  rfl
theorem NMat.nil (W : AW) (n : Nat) (r : Nat → Nat → Int) : NMat (W.newCells 43 (outerL n 0 (fun _ => 0))) W.next n 0 (fun _ => 0) r :=
  ⟨Var.new _ _ _, fun i hi => by omega, fun i hi => by omega, fun i j hi => by omega⟩
theorem NMat.row1 {W : AW} {m n k : Nat} {f : Nat → Nat} {r : Nat → Nat → Int} (h : NMat W m n k f r) (hk : k < n) :
    ∃ W', aStoreVar T0 (W.newCells 2 (numsL n (fun _ => 0))) 43 m k (rowV W.next n) = some W' ∧ W'.next = W.next + 1 ∧ Only (fun c => c = m) W W' ∧ NMat W' m n (k + 1) (fun i => if i = k then W.next else f i) (fun p => if p = k then fun _ => 0 else r p) := by
  have hE : Ext W (W.newCells 2 (numsL n (fun _ => 0))) := .newCells _ _ _
  have h' := h.ext hE
  have hm := h.outer.1
  obtain ⟨W', g1, g2, g3, g4⟩ := h'.outer.store (T := T0) (t := 43) (v := rowV W.next n) (o := k) inf43 (by rw [is43]; rfl) (by rw [outerL_len]; show k + 1 ≤ n; omega) rfl
  have e2 : (outerL n k f).take k ++ acells (rowV W.next n) ++ (outerL n k f).drop (k + (acells (rowV W.next n)).length) = outerL n (k + 1) (fun i => if i = k then W.next else f i) := by
    rw [← outerL_set, List.set_eq_take_append_cons_drop, if_pos (by rw [outerL_len]; omega)]
    simp [acells, rowV]
  rw [e2] at g4
  refine ⟨W', g1, by rw [g2]; rfl, ⟨by rw [g2, newCells_next]; omega, fun b hb hk => by rw [g3.2 b (by rw [newCells_next]; omega) hk, hE.2 b hb (fun x => x)]⟩, g4, fun i hi => ?_, fun i hi => ?_, fun i j hi hj => ?_⟩
  · by_cases e : i = k
    · subst e
      simp only [if_true]
      exact (Var.new W 2 _).only g3 (by omega)
    · simp only [if_neg e]
      exact (h'.row i (by omega)).only g3 (h.ne i (by omega))
  · by_cases e : i = k
    · simp only [if_pos e]; omega
    · simp only [if_neg e]; exact h.ne i (by omega)
  · have lt : ∀ i, i < k → f i < W.next := fun i hi => (h.row i hi).1
    by_cases e : i = k
    · by_cases e' : j = k
      · omega
      · simp only [if_pos e, if_neg e']
        have := lt j (by omega); omega
    · by_cases e' : j = k
      · simp only [if_neg e, if_pos e']
        have := lt i (by omega); omega
      · simp only [if_neg e, if_neg e']
        exact h.inj i j (by omega) (by omega)
theorem MinCut.tri {q : List Quad} {i j k : Nat} {x y z : Int} (h : MinCut q i k x) (h1 : MinCut q i j y) (h2 : MinCut q j k z) : min y z ≤ x := by
  obtain ⟨⟨S, ⟨s1, s2⟩, s3⟩, _⟩ := h
  cases hj : S.testBit j with
  | true => have := h2.2 S ⟨hj, s2⟩; omega
  | false => have := h1.2 S ⟨s1, hj⟩; omega
theorem nodup_len : ∀ (l m : List Int), l.Nodup → (∀ x ∈ l, x ∈ m) → l.length ≤ m.length
  | [], m, _, _ => by simp
  | a :: l, m, hn, hs => by
    have ha : a ∈ m := hs a List.mem_cons_self
    have hn' := List.nodup_cons.1 hn
    have h1 := nodup_len l (m.erase a) hn'.2 (fun x hx => by
      have hxa : x ≠ a := fun e => hn'.1 (e ▸ hx)
      exact (List.mem_erase_of_ne hxa).2 (hs x (List.mem_cons_of_mem _ hx)))
    rw [List.length_erase_of_mem ha] at h1
    have h2 : 0 < m.length := List.length_pos_of_mem ha
    rw [List.length_cons]; omega
theorem memb_less {F p : Nat} : ∀ {P : Nat}, p < P → F.testBit p = false → (memb P F).length < P
  | 0, h, _ => by omega
  | P + 1, h, hF => by
    rw [memb_succ, List.length_append]
    by_cases e : p = P
    · subst e; rw [hF]
      have := memb_len p F
      simp; omega
    · have := memb_less (P := P) (by omega) hF
      cases F.testBit P <;> simp <;> omega
theorem memb_head {F P : Nat} (hP : 0 < P) (hF : F.testBit 0 = true) : (memb P F)[0]? = some 0 := by
  rw [memb_low hF (fun j hj => by omega), if_pos hP]; rfl
theorem Weak.least {P : Nat} {L : List Quad} {F : Nat} {x : Int} (h : Weak P L F x) (hin : PlanIn P L) (hs : SymQ L) {i k : Nat} (hi : i < P) (hk : k < P) {y : Int} (hm : MinCut L i k y) : x ≤ y := by
  obtain ⟨⟨S, ⟨s1, s2⟩, s3⟩, _⟩ := hm
  obtain ⟨_, _, hall⟩ := h
  have hP0 : 0 < P := by omega
  cases h0 : S.testBit 0 with
  | true =>
    have h1 := (hall (bitsF S.testBit P) ⟨by rw [bitsF_bit, decide_eq_true hP0, h0]; rfl, bitsF_lt _ _, k, hk, by rw [bitsF_bit, s2, Bool.and_false]⟩).1
    rw [bitsF_cap hin, capF_Q] at h1; omega
  | false =>
    have h1 := (hall (bitsF (fun q => !S.testBit q) P) ⟨by rw [bitsF_bit, decide_eq_true hP0, h0]; rfl, bitsF_lt _ _, i, hi, by rw [bitsF_bit, s1]; simp⟩).1
    rw [bitsF_cap hin, capF_not S.testBit L hs, capF_Q] at h1; omega
def SeenP (P i k a c : Nat) : Prop := a < P ∧ c < P ∧ a ≠ c ∧ (a < i ∨ (a = i ∧ c < k))
def BestP (P : Nat) (mc : Nat → Nat → Int) (i k : Nat) (best : Int) : Prop := (best = -1 ∧ ∀ a c, ¬ SeenP P i k a c) ∨ (0 ≤ best ∧ (∃ a c, SeenP P i k a c ∧ best = mc a c) ∧ ∀ a c, SeenP P i k a c → best ≤ mc a c)
theorem SeenP.next {P i k a c : Nat} (h : SeenP P i (k + 1) a c) : SeenP P i k a c ∨ (a = i ∧ c = k) := by
  obtain ⟨h1, h2, h3, h4⟩ := h
  unfold SeenP
  by_cases e : a = i ∧ c = k
  · exact .inr e
  · refine .inl ⟨h1, h2, h3, ?_⟩; omega
theorem SeenP.more {P i k a c : Nat} (h : SeenP P i k a c) : SeenP P i (k + 1) a c := by
  obtain ⟨h1, h2, h3, h4⟩ := h
  refine ⟨h1, h2, h3, ?_⟩; omega
theorem BestP.skip {P i : Nat} {mc : Nat → Nat → Int} {best : Int} (h : BestP P mc i i best) : BestP P mc i (i + 1) best := by
  have e : ∀ {a c}, SeenP P i (i + 1) a c → SeenP P i i a c := fun h => by
    rcases h.next with h | ⟨rfl, rfl⟩
    · exact h
    · exact absurd rfl h.2.2.1
  rcases h with ⟨h1, h2⟩ | ⟨h0, ⟨a, c, h1, h2⟩, h3⟩
  · exact .inl ⟨h1, fun a c h => h2 a c (e h)⟩
  · exact .inr ⟨h0, ⟨a, c, h1.more, h2⟩, fun a c h => h3 a c (e h)⟩
theorem BestP.step {P i k : Nat} {mc : Nat → Nat → Int} {best : Int} (h : BestP P mc i k best) (hi : i < P) (hk : k < P) (hne : i ≠ k) (hn : 0 ≤ mc i k) : BestP P mc i (k + 1) (if (decide (best < 0) || decide (mc i k < best)) = true then mc i k else best) := by
  have hs : SeenP P i (k + 1) i k := ⟨hi, hk, hne, by omega⟩
  rcases h with ⟨h1, h2⟩ | ⟨h0, ⟨a, c, h1, h2⟩, h3⟩
  · rw [decide_eq_true (by omega : best < 0), Bool.true_or, if_pos rfl]
    refine .inr ⟨hn, ⟨i, k, hs, rfl⟩, fun a c h => ?_⟩
    rcases h.next with h | ⟨rfl, rfl⟩
    · exact absurd h (h2 a c)
    · exact Int.le_refl _
  · rw [decide_eq_false (by omega : ¬ best < 0), Bool.false_or]
    by_cases hlt : mc i k < best
    · rw [decide_eq_true hlt, if_pos rfl]
      refine .inr ⟨hn, ⟨i, k, hs, rfl⟩, fun a c h => ?_⟩
      rcases h.next with h | ⟨rfl, rfl⟩
      · have := h3 a c h; omega
      · exact Int.le_refl _
    · rw [decide_eq_false hlt, if_neg (by simp)]
      refine .inr ⟨h0, ⟨a, c, h1.more, h2⟩, fun a c h => ?_⟩
      rcases h.next with h | ⟨rfl, rfl⟩
      · exact h3 a c h
      · omega
theorem BestP.row {P i : Nat} {mc : Nat → Nat → Int} {best : Int} (h : BestP P mc i P best) : BestP P mc (i + 1) 0 best := by
  have e : ∀ {a c}, SeenP P (i + 1) 0 a c ↔ SeenP P i P a c := fun {a c} => by unfold SeenP; constructor <;> (rintro ⟨h1, h2, h3, h4⟩; refine ⟨h1, h2, h3, ?_⟩; omega)
  unfold BestP at h ⊢
  simp only [e]; exact h
theorem BestP.done {P F : Nat} {L : List Quad} {x : Int} {mc : Nat → Nat → Int} {best : Int} (h : BestP P mc P 0 best) (hW : Weak P L F x) (hin : PlanIn P L) (hs : SymQ L) (hP : 2 ≤ P) (hmc : ∀ s t, s < P → t < P → s ≠ t → MinCut L s t (mc s t)) : x = best := by
  rcases h with ⟨_, h2⟩ | ⟨h0, ⟨a, c, h1, h2⟩, h3⟩
  · exact absurd ⟨by omega, by omega, by omega, by omega⟩ (h2 0 1)
  · have g1 := hW.least hin hs h1.1 h1.2.1 (hmc a c h1.1 h1.2.1 h1.2.2.1)
    obtain ⟨⟨w1, w2, p, w3, w4⟩, w5, _⟩ := hW
    have hp0 : (0 : Nat) ≠ p := fun e => by rw [← e, w1] at w4; cases w4
    have g2 := h3 0 p ⟨by omega, w3, hp0, by omega⟩
    have g3 := (hmc 0 p (by omega) w3 hp0).2 F ⟨w1, w4⟩
    omega
structure PW (W : AW) (base pm P i : Nat) (f : Nat → Nat) (rr : Nat → Nat → Int) (vv : Value) (vals ws : List Int) (K : Nat → Prop) : Prop where
  m : NMat W pm P i f rr
  g : GrowsN W vv vals.length (intsV vals) 2 1 K
  kn : ∀ b, K b → base ≤ b ∧ b < W.next ∧ b ≠ pm ∧ ∀ p, p < i → b ≠ f p
  pb : base ≤ pm
  fb : ∀ p, p < i → base ≤ f p
  nd : vals.Nodup
  sub : ∀ x ∈ vals, x ∈ ws
section
variable {W : AW} {base pm P i : Nat} {f : Nat → Nat} {rr : Nat → Nat → Int} {vv : Value} {vals ws : List Int} {K : Nat → Prop}
theorem PW.ext (h : PW W base pm P i f rr vv vals ws K) {W' : AW} (he : Ext W W') : PW W' base pm P i f rr vv vals ws K :=
  ⟨h.m.ext he, h.g.only he (fun _ _ _ x => x), fun b hb => ⟨(h.kn b hb).1, Nat.lt_of_lt_of_le (h.kn b hb).2.1 he.1, (h.kn b hb).2.2⟩, h.pb, h.fb, h.nd, h.sub⟩
theorem PW.congr (h : PW W base pm P i f rr vv vals ws K) {r' : Nat → Nat → Int} (hr : ∀ p c, p < i → c < P → rr p c = r' p c) : PW W base pm P i f r' vv vals ws K :=
  ⟨h.m.congr hr, h.g, h.kn, h.pb, h.fb, h.nd, h.sub⟩
theorem PW.row (h : PW W base pm P i f rr vv vals ws K) (hi : i < P) (hb : base ≤ W.next) :
    ∃ W', aStoreVar T0 (W.newCells 2 (numsL P (fun _ => 0))) 43 pm i (rowV W.next P) = some W' ∧ W.next ≤ W'.next ∧ Only (fun b => base ≤ b) W W' ∧ PW W' base pm P (i + 1) (fun p => if p = i then W.next else f p) (fun p => if p = i then fun _ => 0 else rr p) vv vals ws K := by
  obtain ⟨W', g1, g2, g3, g4⟩ := h.m.row1 hi
  refine ⟨W', g1, by omega, g3.mono (fun b _ e => by subst e; exact h.pb), g4, h.g.only g3 (fun b _ hb e => (h.kn b hb).2.2.1 e), fun b hb => ?_, h.pb, fun p hp => ?_, h.nd, h.sub⟩
  · obtain ⟨k1, k2, k3, k4⟩ := h.kn b hb
    refine ⟨k1, by omega, k3, fun p hp => ?_⟩
    by_cases e : p = i
    · rw [if_pos e]; omega
    · rw [if_neg e]; exact k4 p (by omega)
  · by_cases e : p = i
    · rw [if_pos e]; exact hb
    · rw [if_neg e]; exact h.fb p (by omega)
theorem PW.cell (h : PW W base pm P i f rr vv vals ws K) {q k : Nat} (hq : q < i) (hk : k < P) (x : Int) :
    ∃ W', aStoreVar T0 W 2 (f q) k (.int .i64 x) = some W' ∧ W'.next = W.next ∧ Only (fun b => base ≤ b) W W' ∧ PW W' base pm P i f (fun p => if p = q then updZ (rr q) k x else rr p) vv vals ws K := by
  obtain ⟨W', g1, g2, g3, g4⟩ := h.m.put hq hk x
  exact ⟨W', g1, g2, g3.mono (fun b _ e => by subst e; exact h.fb q hq), g4, h.g.only g3 (fun b _ hb e => (h.kn b hb).2.2.2 q hq e), fun b hb => ⟨(h.kn b hb).1, by rw [g2]; exact (h.kn b hb).2.1, (h.kn b hb).2.2⟩, h.pb, h.fb, h.nd, h.sub⟩
theorem PW.push (h : PW W base pm P i f rr vv vals ws K) (hl : vals.length ≤ 1000) {x : Int} (hx : x ∉ vals) (hxw : x ∈ ws) (hb : base ≤ W.next) :
    ∃ v' W' K', aAppend T0 (W.newCells 2 [.int .i64 x]) [43, 43] [vv, .slice (some ⟨W.next, 0, none⟩) 1 2] = some (v', W') ∧ W.next ≤ W'.next ∧ Only (fun b => base ≤ b) W W' ∧ PW W' base pm P i f rr v' (vals ++ [x]) ws K' := by
  obtain ⟨v', W', p1, p2, p3, p4⟩ := push_tmp und43 inf2 is2 z2' by2 h.g hl x (fun _ _ _ => trivial)
  have lt : ∀ p, p < i → f p < W.next := fun p hp => (h.m.row p hp).1
  have hpm := h.m.outer.1
  refine ⟨v', W', _, p1, by omega, p4.mono (fun b _ hb => (h.kn b hb).1), h.m.only p4 (fun hk => (h.kn _ hk).2.2.1 rfl) (fun p hp hk => (h.kn _ hk).2.2.2 p hp rfl), p3, fun b hb => ?_, h.pb, h.fb, ?_, ?_⟩
  · rcases hb with hb | hb
    · obtain ⟨k1, k2, k3, k4⟩ := h.kn b hb
      exact ⟨k1, by omega, k3, k4⟩
    · refine ⟨by omega, by omega, by omega, fun p hp => ?_⟩
      have := lt p hp; omega
  · rw [List.nodup_append]
    refine ⟨h.nd, by simp, fun a ha b hb e => ?_⟩
    simp only [List.mem_singleton] at hb
    subst hb; subst e; exact hx ha
  · intro y hy
    rw [List.mem_append] at hy
    rcases hy with hy | hy
    · exact h.sub y hy
    · simp only [List.mem_singleton] at hy; subst hy; exact hxw
end
theorem flowPairs_wp {W : AW} {v0 : Value} (P0 : Int) {l0 : List Tri} (h0 : TriIn W v0 l0) (hlen0 : l0.length < 9223372036854775808) (htb : tabsIn T0 T0.tabs W = true) (hW0 : 0 < W.next) :
    WpF T0 10 [.agg ⟨[.int .i64 P0, v0]⟩] W (fun u _ => u = .bool true) := by
  refine wpF fun10 rfl ?_
  obtain ⟨W1, hW1, hE1, hV3⟩ : ∃ W1, W1 = W.newCells 27 [.int .i64 P0, v0] ∧ Ext W W1 ∧ Var W1 W.next 27 [.int .i64 P0, v0] := ⟨_, rfl, .newCells _ _ _, Var.new _ _ _⟩
  have hl3 := load27 hV3
  try simp only [wpK_assoc]
  refine wpK_reg (fun R hR => by simp [← hW1]; exact hR) ?_
  try simp only [wpK_assoc]
  refine wpK_x4 (fun R hR => by
    simp [hl3, aEnter, fun42, short_other, aCallV]; rw [callS_none]
    refine (tamed_wp 9 20 (by omega) (by omega) (by omega) P0 (h0.ext hE1) hlen0).mono ?_
    rintro _ W2 ⟨hE2, P, l, v, hT, rfl, hG⟩
    obtain ⟨av, cv, hvs⟩ := hG.len
    obtain ⟨W3, s1, s2, hE3, hVx⟩ := storeVar_new (T := T0) (W := W2) (t := 27) (v := .agg ⟨[.int .i64 P, v]⟩) (z := [.int .i64 0, .slice none 0 0]) inf27 (by rw [is27]; rfl) (by rw [is27]; rfl) (by rw [hvs]; rfl)
    simp [zero27, s1]
    exact hR P l v W2 W3 (And.intro (hE2.trans hE3) (And.intro hT (And.intro hVx ((hG.tri).ext hE3))))) ?_
  rintro P l v W2 W3 ⟨hE3, hT, hVx, hTri⟩
  generalize hpx : W2.next = px at hVx
  have hP2 := hT.P2
  have hPle := hT.Ple
  have hok := hT.plan (by omega) (by omega)
  have hll := hT.len
  have hin := links_in hok
  have hsym := links_sym hok
  have hokB := both_ok hok (by omega)
  have hE13 := hE1.trans hE3
  have hTb3 := tabs_ext htb hW0 hE13
  have h03 : 0 < W3.next := Nat.lt_of_lt_of_le hW0 hE13.1
  have LP : ∀ W', Ext W3 W' → aLoadVar T0 W' 3 px 0 = some (.int .i64 P) := fun W' h => (hVx.ext h).load1 (T := T0) und3 rfl (j := 0) (v := .int .i64 P) rfl
  have Lx : ∀ W', Ext W3 W' → aLoadVar T0 W' 27 px 0 = some (.agg ⟨[.int .i64 P, v]⟩) := fun W' h => load27 (hVx.ext h)
  have e33 : Ext W3 W3 := .refl _ _
  have Tb : ∀ {W'}, Ext W3 W' → tabsIn T0 T0.tabs W' = true := fun h => tabs_ext hTb3 h03 h
  have N0 : ∀ {W'}, Ext W3 W' → 0 < W'.next := fun h => Nat.lt_of_lt_of_le h03 h.1
  have vvv := tri_eq hTri
  -- the least cuts
  obtain ⟨mc, hmc⟩ : ∃ mc : Nat → Nat → Int, ∀ s t, s < P → t < P → s ≠ t → MinCut (linksQ l) s t (mc s t) := by
    have hex : ∀ s t : Nat, ∃ x, s < P → t < P → s ≠ t → MinCut (linksQ l) s t x := fun s t => by
      by_cases hc : s < P ∧ t < P ∧ s ≠ t
      · obtain ⟨S, x, _, _, _, hm, _⟩ := cut_least (P := P) (s := s) (t := t) hTri hok (by simp only [two?, Bool.and_eq_true, decide_eq_true_eq]; omega) hTb3 h03
        exact ⟨x, fun _ _ _ => hm⟩
      · exact ⟨0, fun h1 h2 h3 => absurd ⟨h1, h2, h3⟩ hc⟩
    exact ⟨fun s t => Classical.choose (hex s t), fun s t => Classical.choose_spec (hex s t)⟩
  have hmc0 : ∀ s t, s < P → t < P → s ≠ t → 0 ≤ mc s t := fun s t h1 h2 h3 => by
    obtain ⟨⟨S, _, hS⟩, _⟩ := hmc s t h1 h2 h3
    rw [← hS]; exact capQ_nn hin S
  have lst : ∀ {W'} (vn : Value) (s t : Nat), Ext W3 W' → TriIn W' vn l → s < P → t < P → s ≠ t → WpF T0 25 [.agg ⟨[.int .i64 P, vn]⟩, .int .i64 s, .int .i64 t] W' (fun u W'' => Ext W' W'' ∧ u = .tuple ⟨[.int .i64 (mc s t), .int .i64 0]⟩) := fun vn s t e ht h1 h2 h3 => by
    refine (least_ok (P := (P : Int)) ht hin (by simp only [two?, Bool.and_eq_true, decide_eq_true_eq]; omega) (Tb e) (N0 e)).mono ?_
    rintro _ W'' ⟨g2, x, rm, lv, rfl, hF⟩
    exact ⟨g2, by rw [(hF.minCut hin (by omega) (by omega)).one (hmc s t h1 h2 h3)]⟩
  -- the tree
  try simp only [wpK_assoc]
  refine wpK_x6 (fun R hR => by
    simp [Lx, e33, aEnter, fun13, short_other, aCallV]; rw [callS_none]
    refine (board_wp (P := (P : Int)) hTri (by omega)).mono ?_
    rintro _ W9 ⟨g1, vn2, rfl, hGn⟩
    simp [aEnter, fun27, short_other, aCallV]; rw [callS_none]
    refine (tree_wp (P := P) hGn.tri hok (Tb g1) (N0 g1)).mono ?_
    rintro _ W10 ⟨g2, tv, a, w, D, rk, rfl, hGH, hTt⟩
    simp; exact hR vn2 tv a w D rk W10 (And.intro (g1.trans g2) (And.intro hGH hTt))) ?_
  rintro vn2 tv a w D rk W10 ⟨e10, hGH, hTt⟩
  have hTB := hGH.tree hin hP2 (by omega)
  have hwt := hGH.weights hin
  have htl := treeL_len a w (P - 1)
  have hjo := hTB.2.1
  have hbt := fun s t y (h1 : s < P) (h2 : t < P) (h3 : s ≠ t) (hm : MinW (treeL a w (P - 1)) s t y) => (hGH.between hsym hin hP2 h1 h2 hm).one (hmc s t h1 h2 h3)
  generalize treeL a w (P - 1) = B at hTt hTB hwt htl hjo hbt
  have hB1000 : B.length ≤ 1000 := by omega
  have btw : ∀ {W'} (s t : Nat), Ext W10 W' → s < P → t < P → s ≠ t → WpF T0 47 [tv, .int .i64 s, .int .i64 t] W' (fun u W'' => Ext W' W'' ∧ u = .tuple ⟨[.int .i64 (mc s t), .int .i64 0]⟩ ∧ mc s t ∈ B.map (fun b => b.2.2)) := fun s t e h1 h2 h3 => by
    have h2t : two? (s : Int) (t : Int) (P : Int) = true := by simp only [two?, Bool.and_eq_true, decide_eq_true_eq]; omega
    refine (between_wp (hTt.ext e) hB1000 hwt (s : Int) (t : Int)).mono ?_
    rintro _ W18 ⟨k4, ⟨g, _⟩ | ⟨_, g, _⟩ | ⟨_, _, y, hy, rfl⟩⟩
    · exact absurd hjo g
    · rw [show ((B.length + 1 : Nat) : Int) = (P : Int) from by omega, h2t] at g; cases g
    · have hyx : y = mc s t := hbt s t y h1 h2 h3 (by simpa using hy)
      subst hyx
      refine ⟨k4, rfl, ?_⟩
      obtain ⟨j, b, b1, _, b3⟩ := hy.2
      rw [List.mem_map]
      exact ⟨b, List.mem_of_getElem? b1, b3.symm⟩
  -- the weakest
  try simp only [wpK_assoc]
  refine wpK_x4 (fun R hR => by
    simp [Lx, e10, aEnter, fun13, short_other, aCallV]; rw [callS_none]
    refine (board_wp (P := (P : Int)) (hTri.ext e10) (by omega)).mono ?_
    rintro _ W15 ⟨k1, vn4, rfl, hGn⟩
    have e15 := e10.trans k1
    simp [aEnter, fun28, short_other, aCallV]; rw [callS_none]
    refine (weakest_wp (P := P) hGn.tri hok (Tb e15) (N0 e15)).mono ?_
    rintro _ W16 ⟨k2, Fw, xw, lw, rfl, hWk, hIw⟩
    simp; exact hR vn4 Fw xw lw W16 (And.intro (k1.trans k2) (And.intro hWk hIw))) ?_
  rintro vn4 Fw xw lw W16 ⟨g16, hWk, hIw⟩
  have e16 := e10.trans g16
  obtain ⟨At, ct, htv, hAt⟩ := id hTt
  have ltv : ∀ W', aLen T0 W' 59 tv = some (.int .i64 B.length) := fun W' => by rw [htv]; exact len_slice und59 _ _ _
  clear htv hAt
  have hBl : (B.length : Int) = (P : Int) - 1 := by omega
  have wP1 : IntKind.i64.wrap ((P : Int) - 1) = (P : Int) - 1 := IntWalk.i64_in _ (by omega)
  refine wpK_keep (fun tm' => tm'.get 3 = some (.pointer (some ⟨px, 0, none⟩)) ∧ tm'.get 4 = some (tv) ∧ tm'.get 5 = some (.int .i64 0) ∧ tm'.get 6 = some (.int .i64 xw) ∧ tm'.get 7 = some (lw) ∧ tm'.get 8 = some (.int .i64 0)) ⟨by simp [hpx], by simp [hpx], by simp [hpx], by simp [hpx], by simp [hpx], by simp [hpx]⟩ ?_
  rintro tm ⟨h3, h4, h5, h6, h7, h8⟩
  try simp only [wpK_assoc]
  refine wpK_reg (fun R hR => by simp [h3, h4, h5, h8, LP, e16, ltv, hBl, wP1]; exact hR) ?_
  try simp only [wpK_assoc]
  first | refine wpK_onF (by simp []) ?_ | refine wpK_out (by simp []) ?_ | refine wpK_condF (by simp []) ?_ | refine wpK_endF (by simp []) (wpK_skip ?_) | refine wpK_endF (by simp []) ?_
  have mkm := mk103 W16 P (by omega)
  obtain ⟨W17, hW17, hE17, hM17, hn17⟩ : ∃ W17, W17 = W16.newCells 43 (outerL P 0 (fun _ => 0)) ∧ Ext W16 W17 ∧ NMat W17 W16.next P 0 (fun _ => 0) mc ∧ W17.next = W16.next + 1 := ⟨_, rfl, .newCells _ _ _, .nil _ _ _, rfl⟩
  rw [← hW17] at mkm
  try simp only [wpK_assoc]
  refine wpK_reg (fun R hR => by simp [h3, LP, e16, opMakeSlice, mkm]; exact hR) ?_
  try simp only [wpK_assoc]
  refine wpK_reg (fun R hR => by simp []; exact hR) ?_
  try simp only [wpK_assoc]
  refine wpK_reg (fun R hR => by simp []; exact hR) ?_
  try simp only [wpK_assoc]
  refine wpK_reg (fun R hR => by simp []; exact hR) ?_
  obtain ⟨pm, hpm⟩ : ∃ pm, pm = W16.next := ⟨_, rfl⟩
  rw [← hpm] at hM17
  clear hW17
  obtain ⟨ws, hws⟩ : ∃ ws, ws = B.map (fun b => b.2.2) := ⟨_, rfl⟩
  have hwl : ws.length = P - 1 := by rw [hws, List.length_map, htl]
  simp only [← hws] at btw
  obtain ⟨rr, hrr⟩ : ∃ rr : Nat → Nat → Int, rr = fun p c => if p = c then 0 else mc p c := ⟨_, rfl⟩
  have hPW : PW W17 W16.next pm P 0 (fun _ => 0) rr (.slice none 0 0) [] ws (fun _ => False) := ⟨⟨hM17.outer, fun i hi => by omega, fun i hi => by omega, fun i j hi => by omega⟩, .nil _ _ _ _, fun b hb => hb.elim, by omega, fun p hp => by omega, List.nodup_nil, fun x hx => by simp at hx⟩
  try simp only [wpK_assoc]
  refine wpK_while (I := fun k A W' => A.n = 233 ∧ A.defers = [] ∧ A.tmps.get 3 = some (.pointer (some ⟨px, 0, none⟩)) ∧ A.tmps.get 4 = some (tv) ∧ A.tmps.get 6 = some (.int .i64 xw) ∧ A.tmps.get 7 = some (lw) ∧ A.tmps.get 9 = some (rowV pm P) ∧ Ext W16 W' ∧ ∃ (i : Nat) (vv : Value) (vals : List Int) (best : Int) (f : Nat → Nat) (K : Nat → Prop), k = P - i ∧ i ≤ P ∧ A.tmps.get 12 = some (.int .i64 (i : Nat)) ∧ A.tmps.get 10 = some vv ∧ A.tmps.get 11 = some (.int .i64 best) ∧ PW W' W16.next pm P i f rr vv vals ws K ∧ BestP P mc i 0 best)
    (J := fun A W' => A.n = 233 ∧ A.defers = [] ∧ A.tmps.get 3 = some (.pointer (some ⟨px, 0, none⟩)) ∧ A.tmps.get 4 = some (tv) ∧ A.tmps.get 6 = some (.int .i64 xw) ∧ A.tmps.get 7 = some (lw) ∧ A.tmps.get 9 = some (rowV pm P) ∧ Ext W16 W' ∧ ∃ (vv : Value) (vals : List Int) (best : Int) (f : Nat → Nat) (K : Nat → Prop), A.tmps.get 10 = some vv ∧ A.tmps.get 11 = some (.int .i64 best) ∧ PW W' W16.next pm P P f rr vv vals ws K ∧ BestP P mc P 0 best) (Rt := fun _ _ => False) (k := P) ?_ ?_ ?_ ?_
  · exact ⟨rfl, rfl, by simp [h3, h4, h6, h7, hpm], by simp [h3, h4, h6, h7, hpm], by simp [h3, h4, h6, h7, hpm], by simp [h3, h4, h6, h7, hpm], by simp [h3, h4, h6, h7, hpm], hE17, 0, _, [], -1, _, _, rfl, by omega, by simp, by simp, by simp, hPW, .inl ⟨rfl, fun a c hs => by unfold SeenP at hs; omega⟩⟩
  · clear h3 h4 h5 h6 h7 h8 hPW hM17 mkm
    rintro kk ⟨tm, n, ds⟩ W18 ⟨hn, hd, h3, h4, h6, h7, h9, g18, i, vv, vals, best, f, K, hkk, hi, h12, h10, h11, hP, hBe⟩ Q' hJ hRt hI
    simp only at hn hd h3 h4 h6 h7 h9
    subst hn; subst hd
    simp only at h12 h10 h11
    have e18 := e16.trans g18
    have n18 := g18.1
    by_cases hlt : i < P
    case neg =>
      have hie : i = P := by omega
      subst hie
      try simp only [wpK_assoc]
      refine wpK_reg (fun R hR => by simp [h3, h12, LP, e18]; exact hR) ?_
      try simp only [wpK_assoc]
      first | refine wpK_onF (by simp []) ?_ | refine wpK_out (by simp []) ?_ | refine wpK_condF (by simp []) ?_ | refine wpK_endF (by simp []) (wpK_skip ?_) | refine wpK_endF (by simp []) ?_
      exact hJ _ _ ⟨rfl, rfl, by simp [h3, h4, h6, h7, h9], by simp [h3, h4, h6, h7, h9], by simp [h3, h4, h6, h7, h9], by simp [h3, h4, h6, h7, h9], by simp [h3, h4, h6, h7, h9], g18, vv, vals, best, f, K, by simp [h10], by simp [h11], hP, hBe⟩
    have hlt' : (i : Int) < P := by omega
    try simp only [wpK_assoc]
    refine wpK_reg (fun R hR => by simp [h3, h12, LP, e18, hlt']; exact hR) ?_
    try simp only [wpK_assoc]
    first | refine wpK_onT (by simp [hlt]) ?_ | refine wpK_outT (by simp [hlt]) ?_ | refine wpK_condT (by simp [hlt]) ?_ | refine wpK_endT (by simp [hlt]) ?_
    refine wpK_block ?_
    have mkr := mk43m W18 P (by omega)
    obtain ⟨W19, s1, s2, s3, hP19⟩ := hP.row hlt n18
    have ox := outer_ix (m := pm) hlt
    generalize W18.newCells 2 (numsL P (fun _ => 0)) = Wn at mkr s1
    have hEn : aLoadVar T0 Wn 3 px 0 = some (.int .i64 P) → True := fun _ => trivial
    try simp only [wpK_assoc]
    refine wpK_reg (fun R hR => by simp [h3, h9, h12, LP, e18, opMakeSlice, mkr, ox, s1]; exact hR) ?_
    try simp only [wpK_assoc]
    refine wpK_reg (fun R hR => by simp []; exact hR) ?_
    have g19 : Ext W16 W19 := ⟨by omega, fun b hb hk => by rw [s3.2 b (by omega) (by omega)]; exact g18.2 b hb hk⟩
    obtain ⟨f', hf'⟩ : ∃ f', f' = (fun p => if p = i then W18.next else f p) := ⟨_, rfl⟩
    rw [← hf'] at hP19
    have hP19' : PW W19 W16.next pm P (i + 1) f' (fun p c => if p = i then (if c < 0 then rr i c else 0) else rr p c) vv vals ws K := hP19.congr (fun p c hp hc => by
      by_cases e : p = i
      · simp only [if_pos e]; simp
      · simp only [if_neg e])
    try simp only [wpK_assoc]
    refine wpK_while1 (I := fun q A W' => A.n = 233 ∧ A.defers = [] ∧ A.tmps.get 3 = some (.pointer (some ⟨px, 0, none⟩)) ∧ A.tmps.get 4 = some (tv) ∧ A.tmps.get 6 = some (.int .i64 xw) ∧ A.tmps.get 7 = some (lw) ∧ A.tmps.get 9 = some (rowV pm P) ∧ A.tmps.get 12 = some (.int .i64 (i : Nat)) ∧ Ext W16 W' ∧ ∃ (k : Nat) (vv : Value) (vals : List Int) (best : Int) (K : Nat → Prop), q = P - k ∧ k ≤ P ∧ A.tmps.get 13 = some (.int .i64 (k : Nat)) ∧ A.tmps.get 10 = some vv ∧ A.tmps.get 11 = some (.int .i64 best) ∧ PW W' W16.next pm P (i + 1) f' (fun p c => if p = i then (if c < k then rr i c else 0) else rr p c) vv vals ws K ∧ BestP P mc i k best)
      (J := fun A W' => A.n = 233 ∧ A.defers = [] ∧ A.tmps.get 3 = some (.pointer (some ⟨px, 0, none⟩)) ∧ A.tmps.get 4 = some (tv) ∧ A.tmps.get 6 = some (.int .i64 xw) ∧ A.tmps.get 7 = some (lw) ∧ A.tmps.get 9 = some (rowV pm P) ∧ A.tmps.get 12 = some (.int .i64 (i : Nat)) ∧ Ext W16 W' ∧ ∃ (vv : Value) (vals : List Int) (best : Int) (K : Nat → Prop), A.tmps.get 10 = some vv ∧ A.tmps.get 11 = some (.int .i64 best) ∧ PW W' W16.next pm P (i + 1) f' rr vv vals ws K ∧ BestP P mc i P best) (Rt := fun _ _ => False) (k := P) ?_ ?_ ?_ ?_
    · exact ⟨rfl, rfl, by simp [h3, h4, h6, h7, h9, h12], by simp [h3, h4, h6, h7, h9, h12], by simp [h3, h4, h6, h7, h9, h12], by simp [h3, h4, h6, h7, h9, h12], by simp [h3, h4, h6, h7, h9, h12], by simp [h3, h4, h6, h7, h9, h12], g19, 0, vv, vals, best, K, rfl, by omega, by simp, by simp [h10], by simp [h11], hP19', hBe⟩
    · clear h10 h11 hP19 hP19' hBe hP
      rintro q ⟨tm, n, ds⟩ W20 ⟨hn, hd, h3, h4, h6, h7, h9, h12, g20, k, vv, vals, best, K, hq, hk, h13, h10, h11, hP, hBe⟩ Q2 hJ2 hRt2 hI2
      simp only at hn hd h3 h4 h6 h7 h9 h12
      subst hn; subst hd
      simp only at h13 h10 h11
      have e20 := e16.trans g20
      have n20 := g20.1
      by_cases hkt : k < P
      case neg =>
        have hke : k = P := by omega
        subst hke
        try simp only [wpK_assoc]
        refine wpK_reg (fun R hR => by simp [h3, h13, LP, e20]; exact hR) ?_
        try simp only [wpK_assoc]
        first | refine wpK_onF (by simp []) ?_ | refine wpK_out (by simp []) ?_ | refine wpK_condF (by simp []) ?_ | refine wpK_endF (by simp []) (wpK_skip ?_) | refine wpK_endF (by simp []) ?_
        exact hJ2 _ _ ⟨rfl, rfl, by simp [h3, h4, h6, h7, h9, h12], by simp [h3, h4, h6, h7, h9, h12], by simp [h3, h4, h6, h7, h9, h12], by simp [h3, h4, h6, h7, h9, h12], by simp [h3, h4, h6, h7, h9, h12], by simp [h3, h4, h6, h7, h9, h12], g20, vv, vals, best, K, by simp [h10], by simp [h11], hP.congr (fun p c hp hc => by
          by_cases e : p = i
          · subst e; simp only [if_pos hc]; simp
          · simp only [if_neg e]), hBe⟩
      have hkt' : (k : Int) < P := by omega
      have hsk : IntKind.i64.wrap ((k : Int) + 1) = ((k + 1 : Nat) : Int) := i64_succ k (by omega)
      try simp only [wpK_assoc]
      refine wpK_reg (fun R hR => by simp [h3, h13, LP, e20, hkt']; exact hR) ?_
      try simp only [wpK_assoc]
      first | refine wpK_onT (by simp [hkt]) ?_ | refine wpK_outT (by simp [hkt]) ?_ | refine wpK_condT (by simp [hkt]) ?_ | refine wpK_endT (by simp [hkt]) ?_
      refine wpK_block ?_
      by_cases hik : i = k
      · have hik' : (i : Int) = (k : Int) := by omega
        try simp only [wpK_assoc]
        refine wpK_reg (fun R hR => by simp [h12, h13, hik']; exact hR) ?_
        try simp only [wpK_assoc]
        first | refine wpK_onT (by simp []) ?_ | refine wpK_outT (by simp []) ?_ | refine wpK_condT (by simp []) ?_ | refine wpK_endT (by simp []) ?_
        simp only [behind_exit, leaves_exit, if_true, behind_normal]
        try simp only [wpK_assoc]
        refine wpK_reg1 (fun R hR => by simp [h13, hsk]; exact hR) ?_
        refine hI2 (P - (k + 1)) _ _ (by omega) ⟨rfl, rfl, by simp [h3, h4, h6, h7, h9, h12], by simp [h3, h4, h6, h7, h9, h12], by simp [h3, h4, h6, h7, h9, h12], by simp [h3, h4, h6, h7, h9, h12], by simp [h3, h4, h6, h7, h9, h12], by simp [h3, h4, h6, h7, h9, h12], g20, k + 1, vv, vals, best, K, rfl, by omega, by simp, by simp [h10], by simp [h11], hP.congr (fun p c hp hc => ?_), by subst hik; exact hBe.skip⟩
        by_cases e : p = i
        · simp only [if_pos e]
          by_cases e2 : c < k
          · rw [if_pos e2, if_pos (by omega)]
          · by_cases e3 : c = k
            · rw [if_neg e2, if_pos (by omega), hrr]; simp only; rw [if_pos (by omega)]
            · rw [if_neg e2, if_neg (by omega)]
        · simp only [if_neg e]
      have hik' : ¬ (i : Int) = (k : Int) := by omega
      try simp only [wpK_assoc]
      refine wpK_reg (fun R hR => by simp [h12, h13, hik']; exact hR) ?_
      try simp only [wpK_assoc]
      first | refine wpK_onF (by simp []) ?_ | refine wpK_out (by simp []) ?_ | refine wpK_condF (by simp []) ?_ | refine wpK_endF (by simp []) (wpK_skip ?_) | refine wpK_endF (by simp []) ?_
      have hmn := hmc0 i k hlt hkt hik
      have hl1 := fun {W'} vn e ht => lst (W' := W') vn i k e ht hlt hkt hik
      have hb1 := fun {W'} e => btw (W' := W') i k e hlt hkt hik
      obtain ⟨y, hy⟩ : ∃ y, y = mc i k := ⟨_, rfl⟩
      rw [← hy] at hmn
      simp only [← hy] at hl1 hb1
      try simp only [wpK_assoc]
      refine wpK_x1 (P := fun (vn : Value) W22 => Ext W20 W22) (fun R hR => by
        simp [h3, h12, h13, Lx, e20, aEnter, fun13, short_other, aCallV]; rw [callS_none]
        refine (board_wp (P := (P : Int)) (hTri.ext e20) (by omega)).mono ?_
        rintro _ W21 ⟨k1, vn, rfl, hGn⟩
        simp [h12, h13, aEnter, fun25, short_other, aCallV]; rw [callS_none]
        refine (hl1 vn (e20.trans k1) hGn.tri).mono ?_
        rintro _ W22 ⟨k2, rfl⟩
        simp; exact hR vn W22 (k1.trans k2)) ?_
      rintro vn W22 k22
      try simp only [wpK_assoc]
      refine wpK_x0 (P := fun W23 => Ext W22 W23 ∧ y ∈ ws) (fun R hR => by
        simp [h4, h12, h13, aEnter, fun47, short_other, aCallV]; rw [callS_none]
        refine (hb1 (g16.trans (g20.trans k22))).mono ?_
        rintro _ W23 ⟨k3, rfl, hyw⟩
        simp; exact hR W23 (And.intro k3 hyw)) ?_
      rintro W23 ⟨k23, hyw⟩
      have k2023 := k22.trans k23
      have g23 := g20.trans k2023
      have hP23 := hP.ext k2023
      refine wpK_keep (fun tm' => tm'.get 3 = some (.pointer (some ⟨px, 0, none⟩)) ∧ tm'.get 4 = some (tv) ∧ tm'.get 6 = some (.int .i64 xw) ∧ tm'.get 7 = some (lw) ∧ tm'.get 9 = some (rowV pm P) ∧ tm'.get 10 = some (vv) ∧ tm'.get 11 = some (.int .i64 best) ∧ tm'.get 12 = some (.int .i64 (i : Nat)) ∧ tm'.get 13 = some (.int .i64 (k : Nat)) ∧ tm'.get 14 = some (.int .i64 y) ∧ tm'.get 15 = some (.int .i64 0) ∧ tm'.get 16 = some (.int .i64 y) ∧ tm'.get 17 = some (.int .i64 0)) ⟨by simp [h3, h4, h6, h7, h9, h10, h11, h12, h13], by simp [h3, h4, h6, h7, h9, h10, h11, h12, h13], by simp [h3, h4, h6, h7, h9, h10, h11, h12, h13], by simp [h3, h4, h6, h7, h9, h10, h11, h12, h13], by simp [h3, h4, h6, h7, h9, h10, h11, h12, h13], by simp [h3, h4, h6, h7, h9, h10, h11, h12, h13], by simp [h3, h4, h6, h7, h9, h10, h11, h12, h13], by simp [h3, h4, h6, h7, h9, h10, h11, h12, h13], by simp [h3, h4, h6, h7, h9, h10, h11, h12, h13], by simp [h3, h4, h6, h7, h9, h10, h11, h12, h13], by simp [h3, h4, h6, h7, h9, h10, h11, h12, h13], by simp [h3, h4, h6, h7, h9, h10, h11, h12, h13], by simp [h3, h4, h6, h7, h9, h10, h11, h12, h13]⟩ ?_
      rintro tm ⟨h3, h4, h6, h7, h9, h10, h11, h12, h13, h14, h15, h16, h17⟩
      try simp only [wpK_assoc]
      refine wpK_reg (fun R hR => by simp [h14, h15, h16, h17]; exact hR) ?_
      try simp only [wpK_assoc]
      first | refine wpK_onF (by simp []) ?_ | refine wpK_out (by simp []) ?_ | refine wpK_condF (by simp []) ?_ | refine wpK_endF (by simp []) (wpK_skip ?_) | refine wpK_endF (by simp []) ?_
      obtain ⟨x1, x2⟩ := hP23.m.at (i := i) (by omega) (by omega)
      have x3 := row_ix (b := f' i) hkt
      obtain ⟨W24, c1, c2, c3, hP24⟩ := hP23.cell (q := i) (by omega) hkt y
      try simp only [wpK_assoc]
      refine wpK_reg (fun R hR => by simp [h9, h12, h13, h14, x1, x2, x3, c1]; exact hR) ?_
      have g24 : Ext W16 W24 := ⟨by have := g23.1; omega, fun b hb hk => by rw [c3.2 b (by have := g23.1; omega) (by omega)]; exact g23.2 b hb hk⟩
      have hP24' : PW W24 W16.next pm P (i + 1) f' (fun p c => if p = i then (if c < k + 1 then rr i c else 0) else rr p c) vv vals ws K := hP24.congr (fun p c hp hc => by
        by_cases e : p = i
        · simp only [if_pos e, if_true, updZ]
          by_cases e3 : c = k
          · rw [if_pos e3, if_pos (by omega), hrr, e3]; simp only; rw [if_neg hik, hy]
          · rw [if_neg e3]
            by_cases e2 : c < k
            · rw [if_pos e2, if_pos (by omega)]
            · rw [if_neg e2, if_neg (by omega)]
        · simp only [if_neg e])
      clear hP24 hP23 hP
      obtain ⟨Av, cv, hvv, hAv⟩ := GrowsN.ints hP24'.g
      have lenv : ∀ W', aLen T0 W' 43 vv = some (.int .i64 vals.length) := fun W' => by rw [hvv]; exact len_slice und43 _ _ _
      have hvl := nodup_len vals ws hP24'.nd hP24'.sub
      try simp only [wpK_assoc]
      refine wpK_reg (fun R hR => by simp []; exact hR) ?_
      try simp only [wpK_assoc]
      refine wpK_reg (fun R hR => by simp []; exact hR) ?_
      try simp only [wpK_assoc]
      refine wpK_while (I := fun q A W' => A.n = 233 ∧ A.defers = [] ∧ A.tmps.get 3 = some (.pointer (some ⟨px, 0, none⟩)) ∧ A.tmps.get 4 = some (tv) ∧ A.tmps.get 6 = some (.int .i64 xw) ∧ A.tmps.get 7 = some (lw) ∧ A.tmps.get 9 = some (rowV pm P) ∧ A.tmps.get 10 = some (vv) ∧ A.tmps.get 11 = some (.int .i64 best) ∧ A.tmps.get 12 = some (.int .i64 (i : Nat)) ∧ A.tmps.get 13 = some (.int .i64 (k : Nat)) ∧ A.tmps.get 14 = some (.int .i64 y) ∧ W' = W24 ∧ ∃ (j : Nat) (nb : Bool), q = vals.length - j ∧ j ≤ vals.length ∧ A.tmps.get 19 = some (.int .i64 (j : Nat)) ∧ A.tmps.get 18 = some (.bool nb) ∧ (nb = true ↔ y ∉ vals.take j))
        (J := fun A W' => A.n = 233 ∧ A.defers = [] ∧ A.tmps.get 3 = some (.pointer (some ⟨px, 0, none⟩)) ∧ A.tmps.get 4 = some (tv) ∧ A.tmps.get 6 = some (.int .i64 xw) ∧ A.tmps.get 7 = some (lw) ∧ A.tmps.get 9 = some (rowV pm P) ∧ A.tmps.get 10 = some (vv) ∧ A.tmps.get 11 = some (.int .i64 best) ∧ A.tmps.get 12 = some (.int .i64 (i : Nat)) ∧ A.tmps.get 13 = some (.int .i64 (k : Nat)) ∧ A.tmps.get 14 = some (.int .i64 y) ∧ W' = W24 ∧ ∃ (nb : Bool), A.tmps.get 18 = some (.bool nb) ∧ (nb = true ↔ y ∉ vals)) (Rt := fun _ _ => False) (k := vals.length) ?_ ?_ ?_ ?_
      · exact ⟨rfl, rfl, by simp [h3, h4, h6, h7, h9, h10, h11, h12, h13, h14], by simp [h3, h4, h6, h7, h9, h10, h11, h12, h13, h14], by simp [h3, h4, h6, h7, h9, h10, h11, h12, h13, h14], by simp [h3, h4, h6, h7, h9, h10, h11, h12, h13, h14], by simp [h3, h4, h6, h7, h9, h10, h11, h12, h13, h14], by simp [h3, h4, h6, h7, h9, h10, h11, h12, h13, h14], by simp [h3, h4, h6, h7, h9, h10, h11, h12, h13, h14], by simp [h3, h4, h6, h7, h9, h10, h11, h12, h13, h14], by simp [h3, h4, h6, h7, h9, h10, h11, h12, h13, h14], by simp [h3, h4, h6, h7, h9, h10, h11, h12, h13, h14], rfl, 0, true, by simp, by omega, by simp, by simp, by simp⟩
      · rintro q3 ⟨tm, n, ds⟩ W25 ⟨hn, hd, h3, h4, h6, h7, h9, h10, h11, h12, h13, h14, rfl, j, nb, hq3, hj, h19, h18, hnb⟩ Q3 hJ3 hRt3 hI3
        simp only at hn hd h3 h4 h6 h7 h9 h10 h11 h12 h13 h14
        subst hn; subst hd
        simp only at h19 h18
        by_cases hjt : j < vals.length
        case neg =>
          have hje : j = vals.length := by omega
          rw [hje, List.take_length] at hnb
          have hjt' : ¬ (j : Int) < vals.length := by omega
          try simp only [wpK_assoc]
          refine wpK_reg (fun R hR => by simp [h10, h19, lenv, hjt']; exact hR) ?_
          try simp only [wpK_assoc]
          first | refine wpK_onF (by simp [hjt]) ?_ | refine wpK_out (by simp [hjt]) ?_ | refine wpK_condF (by simp [hjt]) ?_ | refine wpK_endF (by simp [hjt]) (wpK_skip ?_) | refine wpK_endF (by simp [hjt]) ?_
          exact hJ3 _ _ ⟨rfl, rfl, by simp [h3, h4, h6, h7, h9, h10, h11, h12, h13, h14], by simp [h3, h4, h6, h7, h9, h10, h11, h12, h13, h14], by simp [h3, h4, h6, h7, h9, h10, h11, h12, h13, h14], by simp [h3, h4, h6, h7, h9, h10, h11, h12, h13, h14], by simp [h3, h4, h6, h7, h9, h10, h11, h12, h13, h14], by simp [h3, h4, h6, h7, h9, h10, h11, h12, h13, h14], by simp [h3, h4, h6, h7, h9, h10, h11, h12, h13, h14], by simp [h3, h4, h6, h7, h9, h10, h11, h12, h13, h14], by simp [h3, h4, h6, h7, h9, h10, h11, h12, h13, h14], by simp [h3, h4, h6, h7, h9, h10, h11, h12, h13, h14], rfl, nb, by simp [h18], hnb⟩
        have hjt' : (j : Int) < vals.length := by omega
        try simp only [wpK_assoc]
        refine wpK_reg (fun R hR => by simp [h10, h19, lenv, hjt']; exact hR) ?_
        try simp only [wpK_assoc]
        first | refine wpK_onT (by simp [hjt]) ?_ | refine wpK_outT (by simp [hjt]) ?_ | refine wpK_condT (by simp [hjt]) ?_ | refine wpK_endT (by simp [hjt]) ?_
        have hsj : IntKind.i64.wrap ((j : Int) + 1) = ((j + 1 : Nat) : Int) := i64_succ j (by omega)
        have ha : vals[j]? = some vals[j] := List.getElem?_eq_getElem hjt
        generalize vals[j] = z at ha
        have htk : vals.take (j + 1) = vals.take j ++ [z] := by rw [List.take_add_one, ha, Option.toList_some]
        obtain ⟨b', o', e1, hh⟩ := hAv j z ha
        have hx := indexAddr_slice (T := T0) und43 sz2 (b := b') (o := o') (c := cv) (k := .i64) hjt
        rw [Nat.mul_one, ← e1, ← hvv] at hx
        have hlz := load_of und2 rfl hh
        refine wpK_block ?_
        cases nb with
        | true =>
          try simp only [wpK_assoc]
          refine wpK_reg1 (fun R hR => by simp [h10, h14, h18, h19, hx, hlz]; exact hR) ?_
          simp only [leaves_normal, behind_normal]
          try simp only [wpK_assoc]
          refine wpK_reg1 (fun R hR => by simp [h19, hsj]; exact hR) ?_
          refine hI3 (vals.length - (j + 1)) _ _ (by omega) ⟨rfl, rfl, by simp [h3, h4, h6, h7, h9, h10, h11, h12, h13, h14], by simp [h3, h4, h6, h7, h9, h10, h11, h12, h13, h14], by simp [h3, h4, h6, h7, h9, h10, h11, h12, h13, h14], by simp [h3, h4, h6, h7, h9, h10, h11, h12, h13, h14], by simp [h3, h4, h6, h7, h9, h10, h11, h12, h13, h14], by simp [h3, h4, h6, h7, h9, h10, h11, h12, h13, h14], by simp [h3, h4, h6, h7, h9, h10, h11, h12, h13, h14], by simp [h3, h4, h6, h7, h9, h10, h11, h12, h13, h14], by simp [h3, h4, h6, h7, h9, h10, h11, h12, h13, h14], by simp [h3, h4, h6, h7, h9, h10, h11, h12, h13, h14], rfl, j + 1, !decide (z = y), rfl, by omega, by simp, by simp, ?_⟩
          rw [htk, List.mem_append, List.mem_singleton]
          have := hnb.1 rfl
          by_cases e : z = y
          · subst e; simp
          · simp [e, Ne.symm e, this]
        | false =>
          try simp only [wpK_assoc]
          refine wpK_reg1 (fun R hR => by simp [h10, h14, h18, h19, undef]; exact hR) ?_
          simp only [leaves_normal, behind_normal]
          try simp only [wpK_assoc]
          refine wpK_reg1 (fun R hR => by simp [h19, hsj]; exact hR) ?_
          refine hI3 (vals.length - (j + 1)) _ _ (by omega) ⟨rfl, rfl, by simp [h3, h4, h6, h7, h9, h10, h11, h12, h13, h14], by simp [h3, h4, h6, h7, h9, h10, h11, h12, h13, h14], by simp [h3, h4, h6, h7, h9, h10, h11, h12, h13, h14], by simp [h3, h4, h6, h7, h9, h10, h11, h12, h13, h14], by simp [h3, h4, h6, h7, h9, h10, h11, h12, h13, h14], by simp [h3, h4, h6, h7, h9, h10, h11, h12, h13, h14], by simp [h3, h4, h6, h7, h9, h10, h11, h12, h13, h14], by simp [h3, h4, h6, h7, h9, h10, h11, h12, h13, h14], by simp [h3, h4, h6, h7, h9, h10, h11, h12, h13, h14], by simp [h3, h4, h6, h7, h9, h10, h11, h12, h13, h14], rfl, j + 1, false, rfl, by omega, by simp, by simp, ?_⟩
          rw [htk, List.mem_append]
          have hin : y ∈ vals.take j := by
            by_cases e : y ∈ vals.take j
            · exact e
            · exact absurd (hnb.2 e) (by simp)
          simp [hin]
      · rintro A' W' hf; exact hf.elim
      · rintro ⟨tm, n, ds⟩ W25 ⟨hn, hd, h3, h4, h6, h7, h9, h10, h11, h12, h13, h14, rfl, nb, h18, hnb⟩
        simp only at hn hd h3 h4 h6 h7 h9 h10 h11 h12 h13 h14
        subst hn; subst hd
        simp only at h18
        try simp only [wpK_assoc]
        refine wpK_reg (fun R hR => by simp [h18]; exact hR) ?_
        try simp only [wpK_assoc]
        refine wpK_cut (J := fun A W' => A.n = 233 ∧ A.defers = [] ∧ A.tmps.get 3 = some (.pointer (some ⟨px, 0, none⟩)) ∧ A.tmps.get 4 = some (tv) ∧ A.tmps.get 6 = some (.int .i64 xw) ∧ A.tmps.get 7 = some (lw) ∧ A.tmps.get 9 = some (rowV pm P) ∧ A.tmps.get 11 = some (.int .i64 best) ∧ A.tmps.get 12 = some (.int .i64 (i : Nat)) ∧ A.tmps.get 13 = some (.int .i64 (k : Nat)) ∧ A.tmps.get 14 = some (.int .i64 y) ∧ Ext W16 W' ∧ ∃ (vv' : Value) (vals' : List Int) (K' : Nat → Prop), A.tmps.get 10 = some vv' ∧ PW W' W16.next pm P (i + 1) f' (fun p c => if p = i then (if c < k + 1 then rr i c else 0) else rr p c) vv' vals' ws K') (fun Q3 hQ3 => ?_) ?_
        · cases nb with
          | true =>
            refine wpK_endT (by simp) ?_
            obtain ⟨v', W26, K', u1, u2, u3, u4⟩ := hP24'.push (by omega) (hnb.1 rfl) hyw (by have := g24.1; omega)
            try simp only [wpK_assoc]
            refine wpK_reg1 (fun R hR => by simp [h10, h14, bs43, u1]; exact hR) ?_
            exact hQ3 _ _ ⟨rfl, rfl, by simp [h3, h4, h6, h7, h9, h11, h12, h13, h14], by simp [h3, h4, h6, h7, h9, h11, h12, h13, h14], by simp [h3, h4, h6, h7, h9, h11, h12, h13, h14], by simp [h3, h4, h6, h7, h9, h11, h12, h13, h14], by simp [h3, h4, h6, h7, h9, h11, h12, h13, h14], by simp [h3, h4, h6, h7, h9, h11, h12, h13, h14], by simp [h3, h4, h6, h7, h9, h11, h12, h13, h14], by simp [h3, h4, h6, h7, h9, h11, h12, h13, h14], by simp [h3, h4, h6, h7, h9, h11, h12, h13, h14], ⟨by have := g24.1; omega, fun b hb hk => by rw [u3.2 b (by have := g24.1; omega) (by omega)]; exact g24.2 b hb hk⟩, v', _, K', by simp, u4⟩
          | false => refine wpK_endF (by simp) (wpK_skip (hQ3 _ _ ⟨rfl, rfl, by simp [h3, h4, h6, h7, h9, h11, h12, h13, h14], by simp [h3, h4, h6, h7, h9, h11, h12, h13, h14], by simp [h3, h4, h6, h7, h9, h11, h12, h13, h14], by simp [h3, h4, h6, h7, h9, h11, h12, h13, h14], by simp [h3, h4, h6, h7, h9, h11, h12, h13, h14], by simp [h3, h4, h6, h7, h9, h11, h12, h13, h14], by simp [h3, h4, h6, h7, h9, h11, h12, h13, h14], by simp [h3, h4, h6, h7, h9, h11, h12, h13, h14], by simp [h3, h4, h6, h7, h9, h11, h12, h13, h14], g24, vv, vals, K, by simp [h10], hP24'⟩))
        clear hvv hAv lenv hvl hP24'
        rintro ⟨tm, n, ds⟩ W26 ⟨hn, hd, h3, h4, h6, h7, h9, h11, h12, h13, h14, g26, vv, vals, K, h10, hP26⟩
        simp only at hn hd h3 h4 h6 h7 h9 h11 h12 h13 h14
        subst hn; subst hd
        simp only at h10
        have hst := hBe.step hlt hkt hik (by rw [← hy]; exact hmn)
        rw [← hy] at hst
        obtain ⟨cb, hcb⟩ : ∃ cb, cb = (decide (best < 0) || decide (y < best)) := ⟨_, rfl⟩
        rw [← hcb] at hst
        try simp only [wpK_assoc]
        refine wpK_cut (J := fun A W' => A.n = 233 ∧ A.defers = [] ∧ A.tmps.get 3 = some (.pointer (some ⟨px, 0, none⟩)) ∧ A.tmps.get 4 = some (tv) ∧ A.tmps.get 6 = some (.int .i64 xw) ∧ A.tmps.get 7 = some (lw) ∧ A.tmps.get 9 = some (rowV pm P) ∧ A.tmps.get 11 = some (.int .i64 best) ∧ A.tmps.get 12 = some (.int .i64 (i : Nat)) ∧ A.tmps.get 13 = some (.int .i64 (k : Nat)) ∧ A.tmps.get 14 = some (.int .i64 y) ∧ W' = W26 ∧ A.tmps.get 10 = some vv ∧ A.tmps.get 135 = some (.bool cb)) (fun Q3 hQ3 => ?_) ?_
        · by_cases d1 : best < 0
          · try simp only [wpK_assoc]
            refine wpK_reg1 (fun R hR => by simp [h11, h14, d1, undef]; exact hR) ?_
            exact hQ3 _ _ ⟨rfl, rfl, by simp [h3, h4, h6, h7, h9, h11, h12, h13, h14], by simp [h3, h4, h6, h7, h9, h11, h12, h13, h14], by simp [h3, h4, h6, h7, h9, h11, h12, h13, h14], by simp [h3, h4, h6, h7, h9, h11, h12, h13, h14], by simp [h3, h4, h6, h7, h9, h11, h12, h13, h14], by simp [h3, h4, h6, h7, h9, h11, h12, h13, h14], by simp [h3, h4, h6, h7, h9, h11, h12, h13, h14], by simp [h3, h4, h6, h7, h9, h11, h12, h13, h14], by simp [h3, h4, h6, h7, h9, h11, h12, h13, h14], rfl, by simp [h10], by simp [hcb, d1]⟩
          · try simp only [wpK_assoc]
            refine wpK_reg1 (fun R hR => by simp [h11, h14, d1]; exact hR) ?_
            exact hQ3 _ _ ⟨rfl, rfl, by simp [h3, h4, h6, h7, h9, h11, h12, h13, h14], by simp [h3, h4, h6, h7, h9, h11, h12, h13, h14], by simp [h3, h4, h6, h7, h9, h11, h12, h13, h14], by simp [h3, h4, h6, h7, h9, h11, h12, h13, h14], by simp [h3, h4, h6, h7, h9, h11, h12, h13, h14], by simp [h3, h4, h6, h7, h9, h11, h12, h13, h14], by simp [h3, h4, h6, h7, h9, h11, h12, h13, h14], by simp [h3, h4, h6, h7, h9, h11, h12, h13, h14], by simp [h3, h4, h6, h7, h9, h11, h12, h13, h14], rfl, by simp [h10], by simp [hcb, d1]⟩
        clear hcb
        rintro ⟨tm, n, ds⟩ W27 ⟨hn, hd, h3, h4, h6, h7, h9, h11, h12, h13, h14, rfl, h10, h135⟩
        simp only at hn hd h3 h4 h6 h7 h9 h11 h12 h13 h14
        subst hn; subst hd
        simp only at h10 h135
        refine wpK_cut1 (J := fun A W' => A.n = 233 ∧ A.defers = [] ∧ A.tmps.get 3 = some (.pointer (some ⟨px, 0, none⟩)) ∧ A.tmps.get 4 = some (tv) ∧ A.tmps.get 6 = some (.int .i64 xw) ∧ A.tmps.get 7 = some (lw) ∧ A.tmps.get 9 = some (rowV pm P) ∧ A.tmps.get 12 = some (.int .i64 (i : Nat)) ∧ W' = W27 ∧ A.tmps.get 10 = some vv ∧ A.tmps.get 13 = some (.int .i64 (k : Nat)) ∧ ∃ bb, bb = (if cb = true then y else best) ∧ A.tmps.get 11 = some (.int .i64 bb)) (fun Q3 hQ3 => ?_) ?_
        · cases cb with
          | true =>
            refine wpK_endT (by simp [h135]) ?_
            try simp only [wpK_assoc]
            refine wpK_reg1 (fun R hR => by simp [h14]; exact hR) ?_
            exact hQ3 _ _ ⟨rfl, rfl, by simp [h3, h4, h6, h7, h9, h12], by simp [h3, h4, h6, h7, h9, h12], by simp [h3, h4, h6, h7, h9, h12], by simp [h3, h4, h6, h7, h9, h12], by simp [h3, h4, h6, h7, h9, h12], by simp [h3, h4, h6, h7, h9, h12], rfl, by simp [h10], by simp [h13], y, rfl, by simp⟩
          | false => refine wpK_endF (by simp [h135]) (wpK_skip (hQ3 _ _ ⟨rfl, rfl, by simp [h3, h4, h6, h7, h9, h12], by simp [h3, h4, h6, h7, h9, h12], by simp [h3, h4, h6, h7, h9, h12], by simp [h3, h4, h6, h7, h9, h12], by simp [h3, h4, h6, h7, h9, h12], by simp [h3, h4, h6, h7, h9, h12], rfl, by simp [h10], by simp [h13], best, rfl, by simp [h11]⟩))
        rintro ⟨tm, n, ds⟩ W28 ⟨hn, hd, h3, h4, h6, h7, h9, h12, rfl, h10, h13, bb, hbb, h11⟩
        simp only at hn hd h3 h4 h6 h7 h9 h12
        subst hn; subst hd
        simp only at h10 h13 h11
        rw [← hbb] at hst
        simp only [leaves_normal, behind_normal]
        try simp only [wpK_assoc]
        refine wpK_reg1 (fun R hR => by simp [h13, hsk]; exact hR) ?_
        exact hI2 (P - (k + 1)) _ _ (by omega) ⟨rfl, rfl, by simp [h3, h4, h6, h7, h9, h12], by simp [h3, h4, h6, h7, h9, h12], by simp [h3, h4, h6, h7, h9, h12], by simp [h3, h4, h6, h7, h9, h12], by simp [h3, h4, h6, h7, h9, h12], by simp [h3, h4, h6, h7, h9, h12], g26, k + 1, vv, vals, bb, K, rfl, by omega, by simp, by simp [h10], by simp [h11], hP26, hst⟩
    · rintro A' W' hf; exact hf.elim
    · clear h10 h11 hP19 hP19' hBe hP
      rintro ⟨tm, n, ds⟩ W20 ⟨hn, hd, h3, h4, h6, h7, h9, h12, g20, vv, vals, best, K, h10, h11, hP, hBe⟩
      simp only at hn hd h3 h4 h6 h7 h9 h12
      subst hn; subst hd
      simp only at h10 h11
      simp only [leaves_normal, behind_normal]
      have hsi : IntKind.i64.wrap ((i : Int) + 1) = ((i + 1 : Nat) : Int) := i64_succ i (by omega)
      try simp only [wpK_assoc]
      refine wpK_reg1 (fun R hR => by simp [h12, hsi]; exact hR) ?_
      exact hI (P - (i + 1)) _ _ (by omega) ⟨rfl, rfl, by simp [h3, h4, h6, h7, h9], by simp [h3, h4, h6, h7, h9], by simp [h3, h4, h6, h7, h9], by simp [h3, h4, h6, h7, h9], by simp [h3, h4, h6, h7, h9], g20, i + 1, vv, vals, best, f', K, rfl, by omega, by simp, by simp [h10], by simp [h11], hP, hBe.row⟩
  · rintro A' W' hf; exact hf.elim
  · clear h3 h4 h5 h6 h7 h8 hPW hM17 mkm
    rintro ⟨tm, n, ds⟩ W18 ⟨hn, hd, h3, h4, h6, h7, h9, g18, vv, vals, best, f, K, h10, h11, hP, hBe⟩
    simp only at hn hd h3 h4 h6 h7 h9
    subst hn; subst hd
    simp only at h10 h11
    have e18 := e16.trans g18
    have hxb := hBe.done hWk hin hsym hP2 hmc
    have hvl := nodup_len vals ws hP.nd hP.sub
    obtain ⟨Av, cv, hvv, _⟩ := GrowsN.ints hP.g
    have lenv : ∀ W', aLen T0 W' 43 vv = some (.int .i64 vals.length) := fun W' => by rw [hvv]; exact len_slice und43 _ _ _
    clear hvv
    have LP18 := LP W18 e18
    have at1 : ∀ i, i < P → aIndexAddr T0 103 (rowV pm P) (.int .i64 (i : Int)) = some (.pointer (some ⟨pm, i, none⟩)) := fun i hi => (hP.m.at hi (Nat.le_refl _)).1
    have at2 : ∀ i, i < P → aLoadVar T0 W18 43 pm i = some (rowV (f i) P) := fun i hi => (hP.m.at hi (Nat.le_refl _)).2
    have at3 : ∀ i k, k < P → aIndexAddr T0 43 (rowV (f i) P) (.int .i64 (k : Int)) = some (.pointer (some ⟨f i, k, none⟩)) := fun i k hk => row_ix hk
    have at4 : ∀ i k, i < P → k < P → i ≠ k → aLoadVar T0 W18 2 (f i) k = some (.int .i64 (mc i k)) := fun i k hi hk hne => by
      have := hP.m.cell hi hk
      rw [hrr] at this; simp only [if_neg hne] at this; exact this
    try simp only [wpK_assoc]
    refine wpK_reg (fun R hR => by simp []; exact hR) ?_
    try simp only [wpK_assoc]
    refine wpK_while (I := fun q A W' => A.n = 233 ∧ A.defers = [] ∧ A.tmps.get 3 = some (.pointer (some ⟨px, 0, none⟩)) ∧ A.tmps.get 4 = some (tv) ∧ A.tmps.get 6 = some (.int .i64 xw) ∧ A.tmps.get 7 = some (lw) ∧ A.tmps.get 9 = some (rowV pm P) ∧ A.tmps.get 10 = some (vv) ∧ A.tmps.get 11 = some (.int .i64 best) ∧ W' = W18 ∧ ∃ i : Nat, q = P - i ∧ i ≤ P ∧ A.tmps.get 20 = some (.int .i64 (i : Nat))) (J := fun A W' => A.n = 233 ∧ A.defers = [] ∧ A.tmps.get 3 = some (.pointer (some ⟨px, 0, none⟩)) ∧ A.tmps.get 4 = some (tv) ∧ A.tmps.get 6 = some (.int .i64 xw) ∧ A.tmps.get 7 = some (lw) ∧ A.tmps.get 9 = some (rowV pm P) ∧ A.tmps.get 10 = some (vv) ∧ A.tmps.get 11 = some (.int .i64 best) ∧ W' = W18) (Rt := fun _ _ => False) (k := P) ?_ ?_ ?_ ?_
    · exact ⟨rfl, rfl, by simp [h3, h4, h6, h7, h9, h10, h11], by simp [h3, h4, h6, h7, h9, h10, h11], by simp [h3, h4, h6, h7, h9, h10, h11], by simp [h3, h4, h6, h7, h9, h10, h11], by simp [h3, h4, h6, h7, h9, h10, h11], by simp [h3, h4, h6, h7, h9, h10, h11], by simp [h3, h4, h6, h7, h9, h10, h11], rfl, 0, rfl, by omega, by simp⟩
    · rintro q ⟨tm, n, ds⟩ W19 ⟨hn, hd, h3, h4, h6, h7, h9, h10, h11, rfl, i, hq, hi, h20⟩ Q' hJ hRt hI
      simp only at hn hd h3 h4 h6 h7 h9 h10 h11
      subst hn; subst hd
      simp only at h20
      by_cases hlt : i < P
      case neg =>
        have hlt' : ¬ (i : Int) < P := by omega
        try simp only [wpK_assoc]
        refine wpK_reg (fun R hR => by simp [h3, h20, LP18, hlt']; exact hR) ?_
        try simp only [wpK_assoc]
        first | refine wpK_onF (by simp [hlt]) ?_ | refine wpK_out (by simp [hlt]) ?_ | refine wpK_condF (by simp [hlt]) ?_ | refine wpK_endF (by simp [hlt]) (wpK_skip ?_) | refine wpK_endF (by simp [hlt]) ?_
        exact hJ _ _ ⟨rfl, rfl, by simp [h3, h4, h6, h7, h9, h10, h11], by simp [h3, h4, h6, h7, h9, h10, h11], by simp [h3, h4, h6, h7, h9, h10, h11], by simp [h3, h4, h6, h7, h9, h10, h11], by simp [h3, h4, h6, h7, h9, h10, h11], by simp [h3, h4, h6, h7, h9, h10, h11], by simp [h3, h4, h6, h7, h9, h10, h11], rfl⟩
      have hlt' : (i : Int) < P := by omega
      try simp only [wpK_assoc]
      refine wpK_reg (fun R hR => by simp [h3, h20, LP18, hlt']; exact hR) ?_
      try simp only [wpK_assoc]
      first | refine wpK_onT (by simp [hlt]) ?_ | refine wpK_outT (by simp [hlt]) ?_ | refine wpK_condT (by simp [hlt]) ?_ | refine wpK_endT (by simp [hlt]) ?_
      have hsi : IntKind.i64.wrap ((i : Int) + 1) = ((i + 1 : Nat) : Int) := i64_succ i (by omega)
      refine wpK_block ?_
      try simp only [wpK_assoc]
      refine wpK_reg (fun R hR => by simp []; exact hR) ?_
      try simp only [wpK_assoc]
      refine wpK_while1 (I := fun q A W' => A.n = 233 ∧ A.defers = [] ∧ A.tmps.get 3 = some (.pointer (some ⟨px, 0, none⟩)) ∧ A.tmps.get 4 = some (tv) ∧ A.tmps.get 6 = some (.int .i64 xw) ∧ A.tmps.get 7 = some (lw) ∧ A.tmps.get 9 = some (rowV pm P) ∧ A.tmps.get 10 = some (vv) ∧ A.tmps.get 11 = some (.int .i64 best) ∧ A.tmps.get 20 = some (.int .i64 (i : Nat)) ∧ W' = W19 ∧ ∃ j : Nat, q = P - j ∧ j ≤ P ∧ A.tmps.get 21 = some (.int .i64 (j : Nat))) (J := fun A W' => A.n = 233 ∧ A.defers = [] ∧ A.tmps.get 3 = some (.pointer (some ⟨px, 0, none⟩)) ∧ A.tmps.get 4 = some (tv) ∧ A.tmps.get 6 = some (.int .i64 xw) ∧ A.tmps.get 7 = some (lw) ∧ A.tmps.get 9 = some (rowV pm P) ∧ A.tmps.get 10 = some (vv) ∧ A.tmps.get 11 = some (.int .i64 best) ∧ A.tmps.get 20 = some (.int .i64 (i : Nat)) ∧ W' = W19) (Rt := fun _ _ => False) (k := P) ?_ ?_ ?_ ?_
      · exact ⟨rfl, rfl, by simp [h3, h4, h6, h7, h9, h10, h11, h20], by simp [h3, h4, h6, h7, h9, h10, h11, h20], by simp [h3, h4, h6, h7, h9, h10, h11, h20], by simp [h3, h4, h6, h7, h9, h10, h11, h20], by simp [h3, h4, h6, h7, h9, h10, h11, h20], by simp [h3, h4, h6, h7, h9, h10, h11, h20], by simp [h3, h4, h6, h7, h9, h10, h11, h20], by simp [h3, h4, h6, h7, h9, h10, h11, h20], rfl, 0, rfl, by omega, by simp⟩
      · rintro q2 ⟨tm, n, ds⟩ W20 ⟨hn, hd, h3, h4, h6, h7, h9, h10, h11, h20, rfl, j, hq2, hj, h21⟩ Q2 hJ2 hRt2 hI2
        simp only at hn hd h3 h4 h6 h7 h9 h10 h11 h20
        subst hn; subst hd
        simp only at h21
        by_cases hjt : j < P
        case neg =>
          have hjt' : ¬ (j : Int) < P := by omega
          try simp only [wpK_assoc]
          refine wpK_reg (fun R hR => by simp [h3, h21, LP18, hjt']; exact hR) ?_
          try simp only [wpK_assoc]
          first | refine wpK_onF (by simp [hjt]) ?_ | refine wpK_out (by simp [hjt]) ?_ | refine wpK_condF (by simp [hjt]) ?_ | refine wpK_endF (by simp [hjt]) (wpK_skip ?_) | refine wpK_endF (by simp [hjt]) ?_
          exact hJ2 _ _ ⟨rfl, rfl, by simp [h3, h4, h6, h7, h9, h10, h11, h20], by simp [h3, h4, h6, h7, h9, h10, h11, h20], by simp [h3, h4, h6, h7, h9, h10, h11, h20], by simp [h3, h4, h6, h7, h9, h10, h11, h20], by simp [h3, h4, h6, h7, h9, h10, h11, h20], by simp [h3, h4, h6, h7, h9, h10, h11, h20], by simp [h3, h4, h6, h7, h9, h10, h11, h20], by simp [h3, h4, h6, h7, h9, h10, h11, h20], rfl⟩
        have hjt' : (j : Int) < P := by omega
        try simp only [wpK_assoc]
        refine wpK_reg (fun R hR => by simp [h3, h21, LP18, hjt']; exact hR) ?_
        try simp only [wpK_assoc]
        first | refine wpK_onT (by simp [hjt]) ?_ | refine wpK_outT (by simp [hjt]) ?_ | refine wpK_condT (by simp [hjt]) ?_ | refine wpK_endT (by simp [hjt]) ?_
        have hsj : IntKind.i64.wrap ((j : Int) + 1) = ((j + 1 : Nat) : Int) := i64_succ j (by omega)
        refine wpK_block ?_
        try simp only [wpK_assoc]
        refine wpK_reg (fun R hR => by simp []; exact hR) ?_
        try simp only [wpK_assoc]
        refine wpK_while1 (I := fun q A W' => A.n = 233 ∧ A.defers = [] ∧ A.tmps.get 3 = some (.pointer (some ⟨px, 0, none⟩)) ∧ A.tmps.get 4 = some (tv) ∧ A.tmps.get 6 = some (.int .i64 xw) ∧ A.tmps.get 7 = some (lw) ∧ A.tmps.get 9 = some (rowV pm P) ∧ A.tmps.get 10 = some (vv) ∧ A.tmps.get 11 = some (.int .i64 best) ∧ A.tmps.get 20 = some (.int .i64 (i : Nat)) ∧ A.tmps.get 21 = some (.int .i64 (j : Nat)) ∧ W' = W20 ∧ ∃ k : Nat, q = P - k ∧ k ≤ P ∧ A.tmps.get 22 = some (.int .i64 (k : Nat))) (J := fun A W' => A.n = 233 ∧ A.defers = [] ∧ A.tmps.get 3 = some (.pointer (some ⟨px, 0, none⟩)) ∧ A.tmps.get 4 = some (tv) ∧ A.tmps.get 6 = some (.int .i64 xw) ∧ A.tmps.get 7 = some (lw) ∧ A.tmps.get 9 = some (rowV pm P) ∧ A.tmps.get 10 = some (vv) ∧ A.tmps.get 11 = some (.int .i64 best) ∧ A.tmps.get 20 = some (.int .i64 (i : Nat)) ∧ A.tmps.get 21 = some (.int .i64 (j : Nat)) ∧ W' = W20) (Rt := fun _ _ => False) (k := P) ?_ ?_ ?_ ?_
        · exact ⟨rfl, rfl, by simp [h3, h4, h6, h7, h9, h10, h11, h20, h21], by simp [h3, h4, h6, h7, h9, h10, h11, h20, h21], by simp [h3, h4, h6, h7, h9, h10, h11, h20, h21], by simp [h3, h4, h6, h7, h9, h10, h11, h20, h21], by simp [h3, h4, h6, h7, h9, h10, h11, h20, h21], by simp [h3, h4, h6, h7, h9, h10, h11, h20, h21], by simp [h3, h4, h6, h7, h9, h10, h11, h20, h21], by simp [h3, h4, h6, h7, h9, h10, h11, h20, h21], by simp [h3, h4, h6, h7, h9, h10, h11, h20, h21], rfl, 0, rfl, by omega, by simp⟩
        · rintro q3 ⟨tm, n, ds⟩ W21 ⟨hn, hd, h3, h4, h6, h7, h9, h10, h11, h20, h21, rfl, k, hq3, hk, h22⟩ Q3 hJ3 hRt3 hI3
          simp only at hn hd h3 h4 h6 h7 h9 h10 h11 h20 h21
          subst hn; subst hd
          simp only at h22
          by_cases hkt : k < P
          case neg =>
            have hkt' : ¬ (k : Int) < P := by omega
            try simp only [wpK_assoc]
            refine wpK_reg (fun R hR => by simp [h3, h22, LP18, hkt']; exact hR) ?_
            try simp only [wpK_assoc]
            first | refine wpK_onF (by simp [hkt]) ?_ | refine wpK_out (by simp [hkt]) ?_ | refine wpK_condF (by simp [hkt]) ?_ | refine wpK_endF (by simp [hkt]) (wpK_skip ?_) | refine wpK_endF (by simp [hkt]) ?_
            exact hJ3 _ _ ⟨rfl, rfl, by simp [h3, h4, h6, h7, h9, h10, h11, h20, h21], by simp [h3, h4, h6, h7, h9, h10, h11, h20, h21], by simp [h3, h4, h6, h7, h9, h10, h11, h20, h21], by simp [h3, h4, h6, h7, h9, h10, h11, h20, h21], by simp [h3, h4, h6, h7, h9, h10, h11, h20, h21], by simp [h3, h4, h6, h7, h9, h10, h11, h20, h21], by simp [h3, h4, h6, h7, h9, h10, h11, h20, h21], by simp [h3, h4, h6, h7, h9, h10, h11, h20, h21], by simp [h3, h4, h6, h7, h9, h10, h11, h20, h21], rfl⟩
          have hkt' : (k : Int) < P := by omega
          try simp only [wpK_assoc]
          refine wpK_reg (fun R hR => by simp [h3, h22, LP18, hkt']; exact hR) ?_
          try simp only [wpK_assoc]
          first | refine wpK_onT (by simp [hkt]) ?_ | refine wpK_outT (by simp [hkt]) ?_ | refine wpK_condT (by simp [hkt]) ?_ | refine wpK_endT (by simp [hkt]) ?_
          have hsk : IntKind.i64.wrap ((k : Int) + 1) = ((k + 1 : Nat) : Int) := i64_succ k (by omega)
          refine wpK_block ?_
          try simp only [wpK_assoc]
          refine wpK_cut (J := fun A W' => A.n = 233 ∧ A.defers = [] ∧ A.tmps.get 3 = some (.pointer (some ⟨px, 0, none⟩)) ∧ A.tmps.get 4 = some (tv) ∧ A.tmps.get 6 = some (.int .i64 xw) ∧ A.tmps.get 7 = some (lw) ∧ A.tmps.get 9 = some (rowV pm P) ∧ A.tmps.get 10 = some (vv) ∧ A.tmps.get 11 = some (.int .i64 best) ∧ A.tmps.get 20 = some (.int .i64 (i : Nat)) ∧ A.tmps.get 21 = some (.int .i64 (j : Nat)) ∧ W' = W21 ∧ A.tmps.get 22 = some (.int .i64 (k : Nat)) ∧ A.tmps.get 192 = some (.bool false)) (fun Q4 hQ4 => ?_) ?_
          · by_cases d1 : i = j
            · have d1' : (i : Int) = (j : Int) := by omega
              try simp only [wpK_assoc]
              refine wpK_qn (wr := Tr.nil |>.set 155 0 |>.set 156 1 |>.set 157 2 |>.set 158 3 |>.set 159 4 |>.set 160 5 |>.set 161 6 |>.set 162 7 |>.set 163 8 |>.set 164 9 |>.set 165 10 |>.set 166 11 |>.set 167 12 |>.set 168 13 |>.set 169 14 |>.set 170 15 |>.set 171 16 |>.set 172 17 |>.set 173 18 |>.set 174 19 |>.set 175 20 |>.set 176 21 |>.set 177 22 |>.set 178 23 |>.set 179 24 |>.set 180 25 |>.set 181 26 |>.set 182 27 |>.set 183 28 |>.set 184 29 |>.set 185 30 |>.set 186 31 |>.set 187 32 |>.set 188 33 |>.set 189 34 |>.set 190 35 |>.set 191 36 |>.set 192 37) (bits := Tr.nil.lay 0 [0, 0, 3, 7, 15, 15, 63, 127, 255, 511, 511, 2047, 4095, 8191, 16383, 16383, 65535, 131071, 16383, 524287, 1048575, 16383, 16383, 6307839, 14696447, 16383, 65028095, 132136959, 16383, 16383, 805322751, 1879064575, 16383, 8321515519, 16911450111, 34357657599, 68719476735, 137438953471]) (ord := [0, 1, 2, 3, 4, 5, 6, 7, 8, 9, 10, 11, 12, 13, 14, 15, 16, 17, 18, 19, 20, 21, 22, 23, 24, 25, 26, 27, 28, 29, 30, 31, 32, 33, 34, 35, 36, 37]) (by kernel_rfl) (by kernel_rfl) (by kernel_rfl) (fun G hG => by
                simp [h20, h21, h22, d1', undef]
                exact hG) ?_
              exact hQ4 _ _ ⟨rfl, rfl, by simp [h3, h4, h6, h7, h9, h10, h11, h20, h21], by simp [h3, h4, h6, h7, h9, h10, h11, h20, h21], by simp [h3, h4, h6, h7, h9, h10, h11, h20, h21], by simp [h3, h4, h6, h7, h9, h10, h11, h20, h21], by simp [h3, h4, h6, h7, h9, h10, h11, h20, h21], by simp [h3, h4, h6, h7, h9, h10, h11, h20, h21], by simp [h3, h4, h6, h7, h9, h10, h11, h20, h21], by simp [h3, h4, h6, h7, h9, h10, h11, h20, h21], by simp [h3, h4, h6, h7, h9, h10, h11, h20, h21], rfl, by simp [h22], by simp⟩
            have d1' : ¬ (i : Int) = (j : Int) := by omega
            by_cases d2 : j = k
            · subst d2
              try simp only [wpK_assoc]
              refine wpK_qn (wr := Tr.nil |>.set 155 0 |>.set 156 1 |>.set 157 2 |>.set 158 3 |>.set 159 4 |>.set 160 5 |>.set 161 6 |>.set 162 7 |>.set 163 8 |>.set 164 9 |>.set 165 10 |>.set 166 11 |>.set 167 12 |>.set 168 13 |>.set 169 14 |>.set 170 15 |>.set 171 16 |>.set 172 17 |>.set 173 18 |>.set 174 19 |>.set 175 20 |>.set 176 21 |>.set 177 22 |>.set 178 23 |>.set 179 24 |>.set 180 25 |>.set 181 26 |>.set 182 27 |>.set 183 28 |>.set 184 29 |>.set 185 30 |>.set 186 31 |>.set 187 32 |>.set 188 33 |>.set 189 34 |>.set 190 35 |>.set 191 36 |>.set 192 37) (bits := Tr.nil.lay 0 [0, 0, 3, 7, 15, 15, 63, 127, 255, 511, 511, 2047, 4095, 8191, 16383, 16383, 65535, 131071, 16383, 524287, 1048575, 16383, 16383, 6307839, 14696447, 16383, 65028095, 132136959, 16383, 16383, 805322751, 1879064575, 16383, 8321515519, 16911450111, 34357657599, 68719476735, 137438953471]) (ord := [0, 1, 2, 3, 4, 5, 6, 7, 8, 9, 10, 11, 12, 13, 14, 15, 16, 17, 18, 19, 20, 21, 22, 23, 24, 25, 26, 27, 28, 29, 30, 31, 32, 33, 34, 35, 36, 37]) (by kernel_rfl) (by kernel_rfl) (by kernel_rfl) (fun G hG => by
                simp [h20, h21, h22, d1', undef]
                exact hG) ?_
              exact hQ4 _ _ ⟨rfl, rfl, by simp [h3, h4, h6, h7, h9, h10, h11, h20, h21], by simp [h3, h4, h6, h7, h9, h10, h11, h20, h21], by simp [h3, h4, h6, h7, h9, h10, h11, h20, h21], by simp [h3, h4, h6, h7, h9, h10, h11, h20, h21], by simp [h3, h4, h6, h7, h9, h10, h11, h20, h21], by simp [h3, h4, h6, h7, h9, h10, h11, h20, h21], by simp [h3, h4, h6, h7, h9, h10, h11, h20, h21], by simp [h3, h4, h6, h7, h9, h10, h11, h20, h21], by simp [h3, h4, h6, h7, h9, h10, h11, h20, h21], rfl, by simp [h22], by simp⟩
            have d2' : ¬ (j : Int) = (k : Int) := by omega
            by_cases d3 : i = k
            · subst d3
              try simp only [wpK_assoc]
              refine wpK_qn (wr := Tr.nil |>.set 155 0 |>.set 156 1 |>.set 157 2 |>.set 158 3 |>.set 159 4 |>.set 160 5 |>.set 161 6 |>.set 162 7 |>.set 163 8 |>.set 164 9 |>.set 165 10 |>.set 166 11 |>.set 167 12 |>.set 168 13 |>.set 169 14 |>.set 170 15 |>.set 171 16 |>.set 172 17 |>.set 173 18 |>.set 174 19 |>.set 175 20 |>.set 176 21 |>.set 177 22 |>.set 178 23 |>.set 179 24 |>.set 180 25 |>.set 181 26 |>.set 182 27 |>.set 183 28 |>.set 184 29 |>.set 185 30 |>.set 186 31 |>.set 187 32 |>.set 188 33 |>.set 189 34 |>.set 190 35 |>.set 191 36 |>.set 192 37) (bits := Tr.nil.lay 0 [0, 0, 3, 7, 15, 15, 63, 127, 255, 511, 511, 2047, 4095, 8191, 16383, 16383, 65535, 131071, 16383, 524287, 1048575, 16383, 16383, 6307839, 14696447, 16383, 65028095, 132136959, 16383, 16383, 805322751, 1879064575, 16383, 8321515519, 16911450111, 34357657599, 68719476735, 137438953471]) (ord := [0, 1, 2, 3, 4, 5, 6, 7, 8, 9, 10, 11, 12, 13, 14, 15, 16, 17, 18, 19, 20, 21, 22, 23, 24, 25, 26, 27, 28, 29, 30, 31, 32, 33, 34, 35, 36, 37]) (by kernel_rfl) (by kernel_rfl) (by kernel_rfl) (fun G hG => by
                simp [h20, h21, h22, d1', d2', undef]
                exact hG) ?_
              exact hQ4 _ _ ⟨rfl, rfl, by simp [h3, h4, h6, h7, h9, h10, h11, h20, h21], by simp [h3, h4, h6, h7, h9, h10, h11, h20, h21], by simp [h3, h4, h6, h7, h9, h10, h11, h20, h21], by simp [h3, h4, h6, h7, h9, h10, h11, h20, h21], by simp [h3, h4, h6, h7, h9, h10, h11, h20, h21], by simp [h3, h4, h6, h7, h9, h10, h11, h20, h21], by simp [h3, h4, h6, h7, h9, h10, h11, h20, h21], by simp [h3, h4, h6, h7, h9, h10, h11, h20, h21], by simp [h3, h4, h6, h7, h9, h10, h11, h20, h21], rfl, by simp [h22], by simp⟩
            have d3' : ¬ (i : Int) = (k : Int) := by omega
            have htri := (hmc i k hlt hkt d3).tri (hmc i j hlt hjt d1) (hmc j k hjt hkt d2)
            have m1 := at4 i k hlt hkt d3
            have m2 := at4 i j hlt hjt d1
            have m3 := at4 j k hjt hkt d2
            have htri' : ¬ mc i k < min (mc i j) (mc j k) := by omega
            have o1 := at1 i hlt
            have o2 := at2 i hlt
            have o3 := at1 j hjt
            have o4 := at2 j hjt
            have o5 := at3 i k hkt
            have o6 := at3 i j hjt
            have o7 := at3 j k hkt
            have v1 : valEq (rowV (f i) P) (rowV (f i) P) = true := by simp [rowV]
            have v2 : valEq (rowV (f j) P) (rowV (f j) P) = true := by simp [rowV]
            generalize mc i k = z1 at m1 htri'
            generalize mc i j = z2 at m2 htri'
            generalize mc j k = z3 at m3 htri'
            try simp only [wpK_assoc]
            refine wpK_qn (wr := Tr.nil |>.set 155 0 |>.set 156 1 |>.set 157 2 |>.set 158 3 |>.set 159 4 |>.set 160 5 |>.set 161 6 |>.set 162 7 |>.set 163 8 |>.set 164 9 |>.set 165 10 |>.set 166 11 |>.set 167 12 |>.set 168 13 |>.set 169 14 |>.set 170 15 |>.set 171 16 |>.set 172 17 |>.set 173 18 |>.set 174 19 |>.set 175 20 |>.set 176 21 |>.set 177 22 |>.set 178 23 |>.set 179 24 |>.set 180 25 |>.set 181 26 |>.set 182 27 |>.set 183 28 |>.set 184 29 |>.set 185 30 |>.set 186 31 |>.set 187 32 |>.set 188 33 |>.set 189 34 |>.set 190 35 |>.set 191 36 |>.set 192 37) (bits := Tr.nil.lay 0 [0, 0, 3, 7, 15, 15, 63, 127, 255, 511, 511, 2047, 4095, 8191, 16383, 16383, 65535, 131071, 16383, 524287, 1048575, 16383, 16383, 6307839, 14696447, 16383, 65028095, 132136959, 16383, 16383, 805322751, 1879064575, 16383, 8321515519, 16911450111, 34357657599, 68719476735, 137438953471]) (ord := [0, 1, 2, 3, 4, 5, 6, 7, 8, 9, 10, 11, 12, 13, 14, 15, 16, 17, 18, 19, 20, 21, 22, 23, 24, 25, 26, 27, 28, 29, 30, 31, 32, 33, 34, 35, 36, 37]) (by kernel_rfl) (by kernel_rfl) (by kernel_rfl) (fun G hG => by
              simp [h9, h20, h21, h22, d1', d2', d3', o1, o2, o3, o4, o5, o6, o7, m1, m2, m3, v1, v2, min_int, htri']
              exact hG) ?_
            exact hQ4 _ _ ⟨rfl, rfl, by simp [h3, h4, h6, h7, h9, h10, h11, h20, h21], by simp [h3, h4, h6, h7, h9, h10, h11, h20, h21], by simp [h3, h4, h6, h7, h9, h10, h11, h20, h21], by simp [h3, h4, h6, h7, h9, h10, h11, h20, h21], by simp [h3, h4, h6, h7, h9, h10, h11, h20, h21], by simp [h3, h4, h6, h7, h9, h10, h11, h20, h21], by simp [h3, h4, h6, h7, h9, h10, h11, h20, h21], by simp [h3, h4, h6, h7, h9, h10, h11, h20, h21], by simp [h3, h4, h6, h7, h9, h10, h11, h20, h21], rfl, by simp [h22], by simp [htri']⟩
          rintro ⟨tm, n, ds⟩ W22 ⟨hn, hd, h3, h4, h6, h7, h9, h10, h11, h20, h21, rfl, h22, h192⟩
          simp only at hn hd h3 h4 h6 h7 h9 h10 h11 h20 h21
          subst hn; subst hd
          simp only at h22 h192
          refine wpK_endF (by simp [h192]) (wpK_skip ?_)
          simp only [leaves_normal, behind_normal]
          try simp only [wpK_assoc]
          refine wpK_reg1 (fun R hR => by simp [h22, hsk]; exact hR) ?_
          exact hI3 (P - (k + 1)) _ _ (by omega) ⟨rfl, rfl, by simp [h3, h4, h6, h7, h9, h10, h11, h20, h21], by simp [h3, h4, h6, h7, h9, h10, h11, h20, h21], by simp [h3, h4, h6, h7, h9, h10, h11, h20, h21], by simp [h3, h4, h6, h7, h9, h10, h11, h20, h21], by simp [h3, h4, h6, h7, h9, h10, h11, h20, h21], by simp [h3, h4, h6, h7, h9, h10, h11, h20, h21], by simp [h3, h4, h6, h7, h9, h10, h11, h20, h21], by simp [h3, h4, h6, h7, h9, h10, h11, h20, h21], by simp [h3, h4, h6, h7, h9, h10, h11, h20, h21], rfl, k + 1, rfl, by omega, by simp⟩
        · rintro A' W' hf; exact hf.elim
        · rintro ⟨tm, n, ds⟩ W21 ⟨hn, hd, h3, h4, h6, h7, h9, h10, h11, h20, h21, rfl⟩
          simp only at hn hd h3 h4 h6 h7 h9 h10 h11 h20 h21
          subst hn; subst hd
          simp only [leaves_normal, behind_normal]
          try simp only [wpK_assoc]
          refine wpK_reg1 (fun R hR => by simp [h21, hsj]; exact hR) ?_
          exact hI2 (P - (j + 1)) _ _ (by omega) ⟨rfl, rfl, by simp [h3, h4, h6, h7, h9, h10, h11, h20], by simp [h3, h4, h6, h7, h9, h10, h11, h20], by simp [h3, h4, h6, h7, h9, h10, h11, h20], by simp [h3, h4, h6, h7, h9, h10, h11, h20], by simp [h3, h4, h6, h7, h9, h10, h11, h20], by simp [h3, h4, h6, h7, h9, h10, h11, h20], by simp [h3, h4, h6, h7, h9, h10, h11, h20], by simp [h3, h4, h6, h7, h9, h10, h11, h20], rfl, j + 1, rfl, by omega, by simp⟩
      · rintro A' W' hf; exact hf.elim
      · rintro ⟨tm, n, ds⟩ W20 ⟨hn, hd, h3, h4, h6, h7, h9, h10, h11, h20, rfl⟩
        simp only at hn hd h3 h4 h6 h7 h9 h10 h11 h20
        subst hn; subst hd
        simp only [leaves_normal, behind_normal]
        try simp only [wpK_assoc]
        refine wpK_reg1 (fun R hR => by simp [h20, hsi]; exact hR) ?_
        exact hI (P - (i + 1)) _ _ (by omega) ⟨rfl, rfl, by simp [h3, h4, h6, h7, h9, h10, h11], by simp [h3, h4, h6, h7, h9, h10, h11], by simp [h3, h4, h6, h7, h9, h10, h11], by simp [h3, h4, h6, h7, h9, h10, h11], by simp [h3, h4, h6, h7, h9, h10, h11], by simp [h3, h4, h6, h7, h9, h10, h11], by simp [h3, h4, h6, h7, h9, h10, h11], rfl, i + 1, rfl, by omega, by simp⟩
    · rintro A' W' hf; exact hf.elim
    · rintro ⟨tm, n, ds⟩ W19 ⟨hn, hd, h3, h4, h6, h7, h9, h10, h11, rfl⟩
      simp only at hn hd h3 h4 h6 h7 h9 h10 h11
      subst hn; subst hd
      obtain ⟨w1, w2, w3⟩ := hWk
      obtain ⟨pz, pz1, pz2⟩ := w1.2.2
      have hlen := memb_less pz1 pz2
      have hhd := memb_head (by omega : 0 < P) w1.1
      have hml := memb_len P Fw
      have hI19 := hIw.ext g18
      have hI19' := hI19
      obtain ⟨Al, cl, hlw, hAl⟩ := hI19
      obtain ⟨b', o', e1, hh⟩ := hAl 0 0 hhd
      have hpos : 0 < (memb P Fw).length := (List.getElem?_eq_some_iff.1 hhd).1
      have hx := indexAddr_slice (T := T0) und46 sz3 (b := b') (o := o') (c := cl) (k := .i64) hpos
      rw [Nat.mul_one, ← e1, ← hlw] at hx
      have hx : aIndexAddr T0 46 lw (.int .i64 0) = _ := hx
      have hl0 := load_of und3 rfl hh
      simp only [Nat.add_zero] at hl0
      have lenw : ∀ W', aLen T0 W' 46 lw = some (.int .i64 (memb P Fw).length) := fun W' => by rw [hlw]; exact len_slice und46 _ _ _
      have hmem : ∀ q : Nat, q < 24 → decide ((q : Int) ∈ memb P Fw) = Fw.testBit q := fun q hq => by
        cases hb : Fw.testBit q with
        | true =>
          refine decide_eq_true (mem_memb.2 ⟨q, ?_, hb, rfl⟩)
          by_cases h : q < P
          · exact h
          · rw [high_bit w1.2.1 (by omega)] at hb; cases hb
        | false => exact decide_eq_false (fun h => by
            obtain ⟨j, _, j2, j3⟩ := mem_memb.1 h
            have : j = q := by omega
            subst this; rw [hb] at j2; cases j2)
      generalize hmq : memb P Fw = S0 at hlen hml hI19' lenw hmem hpos
      have z1 : (vals.length : Int) ≤ (P : Int) - 1 := by omega
      have z2 : (0 : Int) < (S0.length : Int) := by omega
      have z3 : (S0.length : Int) < (P : Int) := by omega
      have z4 : ¬ S0 = [] := fun e => by rw [e] at hpos; simp at hpos
      clear hlw e1 hAl
      try simp only [wpK_assoc]
      refine wpK_x1 (P := fun (vb : Value) W' => True) (fun R hR => by
        simp [h3, h6, h7, h10, h11, lenv, LP18, Lx, e18, wP1, z1, hxb, lenw, z2, z3, z4, hpos, hlen, hx, hl0, aEnter, fun43, short_other, aCallV]; rw [callS_none]
        refine (both_wp (P := (P : Int)) (hTri.ext e18) (by omega)).mono ?_
        rintro _ W20 ⟨k1, vb, rfl, hGb⟩
        simp [h3, h6, h7, h10, h11, aEnter, fun36, short_other, aCallV]; rw [callS_none]
        refine (refCap_wp (P := (P : Int)) hGb.tri (hI19'.ext k1) (by omega) hokB Fw hmem).mono ?_
        rintro _ W21 ⟨k2, rfl⟩
        have ht := Tb ((e18.trans k1).trans k2)
        simp [h6, capQ_both, ← w2, hxb, aEnter, fun26, short_awake, aCallV, ht]
        exact hR vb W21 trivial) ?_
      rintro vb W21 -
      exact wpK_ret ⟨.inr rfl, rfl, [.bool true], by simp, rfl⟩
end Go.Proofs.YtkgfjfkgmpeobaaDoor