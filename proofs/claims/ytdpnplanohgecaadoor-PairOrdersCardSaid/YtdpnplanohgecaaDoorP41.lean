import Derived.Test.YtdpnplanohgecaaDoorP40
set_option linter.unusedSimpArgs false
set_option linter.unusedVariables false
set_option linter.unusedSectionVars false
open Go Go.Eng
namespace Go.Proofs.YtdpnplanohgecaaDoor
attribute [local congr] undef_congr WpK.congr WpS.congr WpL.congr WpC.congr WpF.congr gotS.congr callS.congr nextS.congr wantS.congr condS.congr
attribute [local irreducible] WpK
attribute [local simp] WpDr_nil WpDr_cons atS_some dwantS_true dwantS_false kindS_light kindS_float kindS_heavy lightS_value floatS_some heavyS_value heavyS_skip heavyS_enter dcallS_some doneS_eq
  isLight isFloat isPlain dLook testBit_dec dChain dLights_nil dLights_skip dLights_one dLight_nil dLight_cons dFreshes_nil dFreshes_one oneF_none oneF_some dFresh_nil dFresh_cons oneL_some oneW_true oneW_false sameV_value dPut dMay valEq arrEq listEq List.getElem?_cons Tr.get_nil dEnd
attribute [local simp] WpS_nil WpS_cons isDefer undef_false wantS_true wantS_false nextS_value nextS_skip nextS_enter callS_some gotS_some aWanted aOp aEvalF aEval opMove opAssign opPick aVal flat flat1 AAct.put opBinOp opConvert opIndex Tr.get_set Tr.get_lay aBin aResults tupled
  aCall aVals aCallB blt_dec ble_dec beq_dec aBinI_add aBinI_sub aBinI_lss aBinI_leq aBinI_gtr aBinI_geq aBinI_eql aBinI_neq index_str len_str len_slice Nat.beq_refl Nat.beq_refl
  opBox opLoad opFieldAddr opIndexAddr acells aAddr opExtract aExtract opUnOp opAlloc opStore opMakeInterface opNilCheck opBuild aParts opBuildSlice aValW
attribute [local simp] und2 und3 und4 und5 und9 und12 field13_0 field13_1 und21 und22 field23_0 field23_1 field24_0 field24_1 field25_0 field25_1 und28 und31 field34_0 field34_1 field34_2 field35_0 field35_1 field35_2 und46 field50_0 field50_1 field50_2 und55 und56 und58 und61 und62 und73 und75 und90 und94 und95 und96 field97_0 field97_1 field97_2 field97_3 field97_4 field97_5 field97_6 field98_0 field98_1 field98_2 field98_3 field98_4 field98_5 field98_6 und99 und106 field107_0 field107_1 field108_0 field108_1 und119 und122 field124_0 field124_1 field124_2 field125_0 field125_1 field125_2 field131_0 field131_1 field132_0 field132_1 und133 field134_0 field134_1 field135_0 field135_1 und148 und156 und160
set_option maxHeartbeats 4000000
set_option linter.unusedSimpArgs false
set_option linter.unusedVariables false
theorem sumN_tight {f g : Nat → Int} : ∀ {n : Nat}, (∀ i, i < n → f i ≤ g i) → sumN n g ≤ sumN n f → ∀ i, i < n → f i = g i
  | 0, _, _, i, hi => by omega
  | n + 1, h, e, i, hi => by
    have h1 := sumN_le (n := n) (f := f) (g := g) (fun i hi => h i (by omega))
    have h2 := h n (by omega)
    simp only [sumN] at e
    by_cases hin : i = n
    · subst hin; omega
    · exact sumN_tight (n := n) (fun i hi => h i (by omega)) (by omega) i (by omega)
theorem IsAssign.permN {ll : List (List Int)} {ps : List Nat} {B : Nat → Int} (h : IsAssign ll ps B) : PermN ll.length (pOf ps) := h.2.2.1.perm h.1
theorem IsAssign.worth {ll : List (List Int)} (hok : OffOk ll) {ps : List Nat} {B : Nat → Int} (h : IsAssign ll ps B) : worthN ll.length (mAt ll) (pOf ps) = B 0 := by
  have h12 := hok.2.1
  exact h.2.2.1.worth h.2.1 h.1 (by omega)
theorem IsAssign.most {ll : List (List Int)} (hok : OffOk ll) {ps : List Nat} {B : Nat → Int} (h : IsAssign ll ps B) {q : Nat → Nat} (hq : PermN ll.length q) : worthN ll.length (mAt ll) q ≤ B 0 := by
  have h12 := hok.2.1
  exact h.2.1.most (by omega) hq
theorem IsPrices.cover {ll : List (List Int)} (hok : OffOk ll) {ps : List Nat} {B : Nat → Int} {us vs : List Int} (h : IsPrices ll ps B us vs) {i j : Nat} (hi : i < ll.length) (hj : j < ll.length) : mAt ll i j ≤ gI us i + gI vs j := by
  have h1 := topV_closed hok h.asg hi hj
  have h2 := h.us i hi
  have hp := h.asg.permN
  have h3 := h.top j hj
  have h4 := h.top (pOf ps i) (hp.1 i hi)
  have hg : gain (mAt ll) (pOf ps) i j = mAt ll i j - mAt ll i (pOf ps i) := rfl
  omega
theorem IsPrices.sum {ll : List (List Int)} (hok : OffOk ll) {ps : List Nat} {B : Nat → Int} {us vs : List Int} (h : IsPrices ll ps B us vs) {q : Nat → Nat} (hq : PermN ll.length q) : sumN ll.length (fun i => gI us i + gI vs (q i)) = B 0 := by
  have hp := h.asg.permN
  have e1 : sumN ll.length (fun i => gI us i + gI vs (q i)) = sumN ll.length (gI us) + sumN ll.length (gI vs) := by
    rw [sumN_add (f := gI us) (g := fun i => gI vs (q i)), sumN_perm hq.1 hq.2 (gI vs)]
  have e2 : sumN ll.length (gI us) = sumN ll.length (fun i => mAt ll i (pOf ps i)) - sumN ll.length (fun i => gI vs (pOf ps i)) := by
    rw [← sumN_sub (f := fun i => mAt ll i (pOf ps i)) (g := fun i => gI vs (pOf ps i))]
    exact sumN_congr (fun i hi => h.us i hi)
  have e3 := sumN_perm hp.1 hp.2 (gI vs)
  have e4 : sumN ll.length (fun i => mAt ll i (pOf ps i)) = B 0 := h.asg.worth hok
  omega
theorem IsPrices.tight {ll : List (List Int)} (hok : OffOk ll) {ps ps' : List Nat} {B B' : Nat → Int} {us vs : List Int} (h : IsPrices ll ps' B' us vs) (ha : IsAssign ll ps B) {i : Nat} (hi : i < ll.length) : mAt ll i (pOf ps i) = gI us i + gI vs (pOf ps i) := by
  have hp := ha.permN
  have h1 := h.sum hok hp
  have h2 := ha.worth hok
  have h3 := ha.most hok h.asg.permN
  have h4 := h.asg.worth hok
  exact sumN_tight (f := fun i => mAt ll i (pOf ps i)) (g := fun i => gI us i + gI vs (pOf ps i)) (fun i hi => h.cover hok hi (hp.1 i hi)) (by
    have : sumN ll.length (fun i => mAt ll i (pOf ps i)) = B 0 := h2
    omega) i hi
theorem IsPrices.same {ll : List (List Int)} (hok : OffOk ll) {ps ps' : List Nat} {B B' : Nat → Int} {us vs : List Int} (h : IsPrices ll ps' B' us vs) (ha : IsAssign ll ps B) : B' 0 = B 0 := by
  have h3 := ha.most hok h.asg.permN
  have h4 := h.asg.worth hok
  have h5 := h.asg.most hok ha.permN
  have h6 := ha.worth hok
  omega
theorem permN_id (n : Nat) : PermN n (fun i => i) := ⟨fun i hi => hi, fun i j _ _ e => e⟩
theorem IsPrices.sumI {ll : List (List Int)} (hok : OffOk ll) {ps : List Nat} {B : Nat → Int} {us vs : List Int} (h : IsPrices ll ps B us vs) : sumN ll.length (fun i => gI us i + gI vs i) = B 0 := h.sum hok (permN_id _)
theorem IsPrices.bound {ll : List (List Int)} (hok : OffOk ll) {ps : List Nat} {B : Nat → Int} {us vs : List Int} (h : IsPrices ll ps B us vs) {i : Nat} (hi : i < ll.length) : (0 ≤ gI vs i ∧ gI vs i ≤ 22000000) ∧ -23000000 ≤ gI us i ∧ gI us i ≤ 1000000 := by
  have hp := h.asg.permN
  have v1 := fun j (hj : j < ll.length) => (h.top j hj ▸ ⟨topV_ge j, topV_le hok hp hj⟩ : 0 ≤ gI vs j ∧ gI vs j ≤ 22000000)
  have h2 := h.us i hi
  have h3 := v1 _ (hp.1 i hi)
  have h4 := hok.bound (i := i) (j := pOf ps i) hi (hp.1 i hi)
  exact ⟨v1 i hi, by omega, by omega⟩
theorem IsPrices.are {ll : List (List Int)} (hok : OffOk ll) {ps ps' : List Nat} {B B' : Nat → Int} {us vs : List Int} (h : IsPrices ll ps' B' us vs) (ha : IsAssign ll ps B) (w : Int) : ArePr ll us vs w ↔ w = B 0 := by
  have e := h.sumI hok
  have e2 := h.same hok ha
  constructor
  · intro hh
    have := hh.2.2.2.2.2.2
    omega
  · intro hw
    refine ⟨hok, h.ul, h.vl, within_of fun i hi => ?_, within_of fun i hi => ?_, fun i j hi hj => h.cover hok hi hj, by omega⟩
    · have := (h.bound hok (i := i) (by rw [← h.ul]; exact hi)).2; omega
    · have := (h.bound hok (i := i) (by rw [← h.vl]; exact hi)).1; omega
def ChoAt (n : Nat) (c : Nat → Nat → Int) (B : Nat → Int) (ps : List Nat) (k : Nat) : Prop := ps.getD k 0 < n ∧ (tk (fun i => ps.getD i 0) k).testBit (ps.getD k 0) = false ∧
  c k (ps.getD k 0) + B (tk (fun i => ps.getD i 0) (k + 1)) = B (tk (fun i => ps.getD i 0) k) ∧
  ∀ q, q < ps.getD k 0 → ¬ ((tk (fun i => ps.getD i 0) k).testBit q = false ∧ c k q + B (tk (fun i => ps.getD i 0) k ||| 1 <<< q) = B (tk (fun i => ps.getD i 0) k))
def TS (ps : List Nat) : Nat := tk (fun i => ps.getD i 0) ps.length
theorem TS_bit {ps : List Nat} {x : Nat} : (TS ps).testBit x = true ↔ ∃ i, i < ps.length ∧ pOf ps i = x := tk_bit
structure Pre (n : Nat) (ps : List Nat) : Prop where
  len : ps.length ≤ n
  lt : ∀ i, i < ps.length → pOf ps i < n
  dis : ∀ i j, i < j → j < ps.length → pOf ps i ≠ pOf ps j
theorem Pre.nil (n : Nat) : Pre n [] := ⟨by simp, fun i h => by simp at h, fun i j _ h => by simp at h⟩
theorem Pre.ts {n : Nat} {ps : List Nat} (h : Pre n ps) : TS ps < 2 ^ n := tk_lt h.lt
theorem Pre.pc {n : Nat} {ps : List Nat} (h : Pre n ps) (hn : n ≤ 40) : pc (TS ps) = ps.length := tk_cnt (n := n) hn h.lt h.dis
theorem Pre.full {n : Nat} {ps : List Nat} (h : Pre n ps) (hn : n ≤ 40) (e : ps.length = n) : TS ps = 2 ^ n - 1 := by
  subst e; exact tk_full hn h.lt h.dis
theorem Pre.snoc {n : Nat} {ps : List Nat} (h : Pre n ps) (hl : ps.length < n) {x : Nat} (hx : x < n) (hb : (TS ps).testBit x = false) : Pre n (ps ++ [x]) := by
  have g : ∀ i, i < ps.length → pOf (ps ++ [x]) i = pOf ps i := fun i hi => getD_app hi
  have g2 : pOf (ps ++ [x]) ps.length = x := getD_last
  refine ⟨by simp; omega, fun i hi => ?_, fun i j hij hj => ?_⟩
  · simp at hi
    by_cases e : i = ps.length
    · subst e; rw [g2]; exact hx
    · rw [g i (by omega)]; exact h.lt i (by omega)
  · simp at hj
    by_cases e : j = ps.length
    · subst e
      rw [g2, g i hij]
      intro he
      rw [TS_bit.2 ⟨i, hij, he⟩] at hb; cases hb
    · rw [g i (by omega), g j (by omega)]; exact h.dis i j hij (by omega)
theorem BestN.bound {n : Nat} {c : Nat → Nat → Int} {B : Nat → Int} (hB : BestN n c B) (hn : n ≤ 12) (hc : ∀ i j, i < n → j < n → -1000000 ≤ c i j ∧ c i j ≤ 1000000) : ∀ m t, t < 2 ^ n → pc t + m = n → -(1000000 * (m : Int)) ≤ B t ∧ B t ≤ 1000000 * (m : Int) := by
  intro m
  induction m with
  | zero =>
    intro t ht e
    by_cases hf : t = 2 ^ n - 1
    · subst hf; rw [hB.full]; omega
    · obtain ⟨q, h1, h2, h3⟩ := hB.is t ht hf
      have := (pc_or hn ht h1 h2).2; omega
  | succ m ih =>
    intro t ht e
    by_cases hf : t = 2 ^ n - 1
    · subst hf; rw [hB.full]; omega
    · obtain ⟨q, h1, h2, h3⟩ := hB.is t ht hf
      have hp := pc_or hn ht h1 h2
      have h4 := ih (t ||| 1 <<< q) (or_ltp ht h1) (by omega)
      have h5 := hc (pc t) q (by omega) h1
      omega
def FarR (n : Nat) (c : Nat → Nat → Int) (B : Nat → Int) (ps : List Nat) (j : Nat) (W : AW) (bv : Value) (w : Int) : Prop :=
  (bv = .slice none 0 0 ∧ w = 0 ∧ ∀ q, q < j → (TS ps).testBit q = true) ∨
  ((∃ a n c, bv = .slice (some a) n c) ∧ ∃ x rs, x < j ∧ (TS ps).testBit x = false ∧ w = c ps.length x + B (TS ps ||| 1 <<< x) ∧ (∀ q, q < j → (TS ps).testBit q = false → c ps.length q + B (TS ps ||| 1 <<< q) ≤ w) ∧
    (∀ q, q < x → (TS ps).testBit q = false → c ps.length q + B (TS ps ||| 1 <<< q) < w) ∧ IntR W bv ((x :: rs).map Int.ofNat) ∧ (ps ++ x :: rs).length = n ∧ ∀ k, ps.length < k → k < n → ChoAt n c B (ps ++ x :: rs) k)
variable {n : Nat} {c : Nat → Nat → Int} {B : Nat → Int} {ps : List Nat} {j : Nat} {W W' : AW} {bv bv' : Value} {w w' : Int}
theorem FarR.start : FarR n c B ps 0 W (.slice none 0 0) 0 := .inl ⟨rfl, rfl, fun q hq => by omega⟩
theorem FarR.ext (h : FarR n c B ps j W bv w) (he : Ext W W') : FarR n c B ps j W' bv w := by
  rcases h with h | ⟨h0, x, rs, h1, h2, h3, h4, h5, h6, h7⟩
  · exact .inl h
  · exact .inr ⟨h0, x, rs, h1, h2, h3, h4, h5, h6.ext he, h7⟩
theorem FarR.skip (h : FarR n c B ps j W bv w) (hb : (TS ps).testBit j = true) : FarR n c B ps (j + 1) W bv w := by
  rcases h with ⟨h1, h2, h3⟩ | ⟨h0, x, rs, h1, h2, h3, h4, h5, h6, h7⟩
  · refine .inl ⟨h1, h2, fun q hq => ?_⟩
    by_cases e : q = j
    · subst e; exact hb
    · exact h3 q (by omega)
  · refine .inr ⟨h0, x, rs, by omega, h2, h3, fun q hq hf => ?_, h5, h6, h7⟩
    by_cases e : q = j
    · subst e; rw [hb] at hf; cases hf
    · exact h4 q (by omega) hf
theorem FarR.stay (h : FarR n c B ps j W bv w) (h0 : bv ≠ .slice none 0 0) (hw : c ps.length j + B (TS ps ||| 1 <<< j) ≤ w) : FarR n c B ps (j + 1) W bv w := by
  rcases h with ⟨h1, h2, h3⟩ | ⟨h0, x, rs, h1, h2, h3, h4, h5, h6, h7⟩
  · exact absurd h1 h0
  · refine .inr ⟨h0, x, rs, by omega, h2, h3, fun q hq hf => ?_, h5, h6, h7⟩
    by_cases e : q = j
    · subst e; exact hw
    · exact h4 q (by omega) hf
theorem FarR.new (h : FarR n c B ps j W bv w) (hb : (TS ps).testBit j = false) (hw : bv = .slice none 0 0 ∨ w < c ps.length j + B (TS ps ||| 1 <<< j)) {rs : List Nat} (h0 : ∃ a n c, bv' = .slice (some a) n c) (hr : IntR W' bv' ((j :: rs).map Int.ofNat))
    (hl : (ps ++ j :: rs).length = n) (hc : ∀ k, ps.length < k → k < n → ChoAt n c B (ps ++ j :: rs) k) : FarR n c B ps (j + 1) W' bv' (c ps.length j + B (TS ps ||| 1 <<< j)) := by
  have key : ∀ q, q < j → (TS ps).testBit q = false → c ps.length q + B (TS ps ||| 1 <<< q) < c ps.length j + B (TS ps ||| 1 <<< j) := fun q hq hf => by
    rcases h with ⟨h1, h2, h3⟩ | ⟨⟨a, m, e, g0⟩, x, rs, h1, h2, h3, h4, h5, h6, h7⟩
    · rw [h3 q hq] at hf; cases hf
    · rcases hw with hw | hw
      · rw [g0] at hw; cases hw
      · have := h4 q hq hf; omega
  refine .inr ⟨h0, j, rs, by omega, hb, rfl, fun q hq hf => ?_, key, hr, hl, hc⟩
  by_cases e : q = j
  · subst e; exact Int.le_refl _
  · exact Int.le_of_lt (key q (by omega) hf)
theorem same_wp {W : AW} {u v : Value} {a b : List Int} (hU : RowIn 1 (encI .i64) W u a) (hV : RowIn 1 (encI .i64) W v b) (ha : a.length < 9223372036854775808) (hb : b.length < 9223372036854775808) (he : a = b) :
    WpF T0 29 [u, v] W (fun x W' => W' = W ∧ x = .bool true) := by
  subst he
  obtain ⟨A1, c1, hu1⟩ := hU.len
  obtain ⟨A2, c2, hv1⟩ := hV.len
  have lu : ∀ W', aLen T0 W' 31 u = some (.int .i64 a.length) := fun W' => by rw [hu1]; exact len_slice und31 _ _ _
  have lv : ∀ W', aLen T0 W' 31 v = some (.int .i64 a.length) := fun W' => by rw [hv1]; exact len_slice und31 _ _ _
  refine wpF fun29 rfl ?_
  try simp only [wpK_assoc]
  refine wpK_reg (fun R hR => by simp []; exact hR) ?_
  try simp only [wpK_assoc]
  refine wpK_reg (fun R hR => by simp [lu, lv]; exact hR) ?_
  try simp only [wpK_assoc]
  first | refine wpK_onF (by simp []) ?_ | refine wpK_out (by simp []) ?_ | refine wpK_condF (by simp []) ?_ | refine wpK_endF (by simp []) (wpK_skip ?_) | refine wpK_endF (by simp []) ?_
  try simp only [wpK_assoc]
  refine wpK_reg (fun R hR => by simp []; exact hR) ?_
  obtain ⟨n, hn⟩ : ∃ n, n = a.length := ⟨_, rfl⟩
  rw [← hn] at lu
  try simp only [wpK_assoc]
  refine wpK_while (I := fun k A' W' => A'.n = 26 ∧ A'.defers = [] ∧ A'.tmps.get 0 = some (u) ∧ A'.tmps.get 1 = some (v) ∧ W' = W ∧ ∃ i : Nat, A'.tmps.get 5 = some (.int .i64 (i : Int)) ∧ k = n - i ∧ i ≤ n)
    (J := fun A' W' => A'.n = 26 ∧ A'.defers = [] ∧ A'.tmps.get 0 = some (u) ∧ A'.tmps.get 1 = some (v) ∧ W' = W) (Rt := fun _ _ => False) (k := n) ?_ ?_ ?_ ?_
  · exact ⟨rfl, rfl, by simp, by simp, rfl, 0, by simp, rfl, by omega⟩
  · rintro k ⟨tm, n, ds⟩ Wa ⟨hn, hd, h0, h1, eW, i, h5, hk, hin⟩ Q' hJ hRt hI
    simp only at hn hd h0 h1
    subst hn; subst hd
    subst Wa
    simp only at h5
    by_cases hlt : i < n
    case neg =>
      have e : i = n := by omega
      subst e
      try simp only [wpK_assoc]
      refine wpK_reg (fun R hR => by simp [h0, h5, lu]; exact hR) ?_
      try simp only [wpK_assoc]
      first | refine wpK_onF (by simp []) ?_ | refine wpK_out (by simp []) ?_ | refine wpK_condF (by simp []) ?_ | refine wpK_endF (by simp []) (wpK_skip ?_) | refine wpK_endF (by simp []) ?_
      exact hJ _ _ ⟨rfl, rfl, by simp [h0, h1], by simp [h0, h1], rfl⟩
    have hlt' : (i : Int) < n := by omega
    try simp only [wpK_assoc]
    refine wpK_reg (fun R hR => by simp [h0, h5, lu, hlt']; exact hR) ?_
    try simp only [wpK_assoc]
    first | refine wpK_onT (by simp [hlt]) ?_ | refine wpK_outT (by simp [hlt]) ?_ | refine wpK_condT (by simp [hlt]) ?_ | refine wpK_endT (by simp [hlt]) ?_
    obtain ⟨bx, px, x1, x2, _⟩ := int_at31 hU (gI_some (l := a) (i := i) (by omega))
    obtain ⟨by', py, y1, y2, _⟩ := int_at31 hV (gI_some (l := a) (i := i) (by omega))
    generalize gI a i = z at x2 y2
    refine wpK_block ?_
    try simp only [wpK_assoc]
    refine wpK_dn (wr := Tr.nil |>.set 17 0 |>.set 18 1 |>.set 19 2 |>.set 20 3 |>.set 21 4 |>.set 22 5 |>.set 23 6 |>.set 24 7 |>.set 25 8) (bits := Tr.nil.lay 0 [0, 0, 3, 7, 0, 0, 48, 112, 255]) (ord := [0, 1, 2, 3, 4, 5, 6, 7, 8]) (by kernel_rfl) (by kernel_rfl) (by kernel_rfl) (fun G hG => by
      simp [h0, h1, h5, x1, x2, y1, y2]
      exact hG) ?_
    try simp only [wpK_assoc]
    first | refine wpK_onF (by simp []) ?_ | refine wpK_out (by simp []) ?_ | refine wpK_condF (by simp []) ?_ | refine wpK_endF (by simp []) (wpK_skip ?_) | refine wpK_endF (by simp []) ?_
    simp only [leaves_normal, behind_normal]
    try simp only [wpK_assoc]
    refine wpK_reg1 (fun R hR => by simp [h5]; exact hR) ?_
    exact hI (n - (i + 1)) _ _ (by omega) ⟨rfl, rfl, by simp [h0, h1], by simp [h0, h1], rfl, i + 1, by simp [i64_succ i (by omega)], rfl, by omega⟩
  · rintro A' W' hf; exact hf.elim
  · rintro ⟨tm, n, ds⟩ Wz ⟨hn, hd, h0, h1, eW⟩
    simp only at hn hd h0 h1
    subst hn; subst hd
    subst Wz
    try simp only [wpK_assoc]
    refine wpK_reg (fun R hR => by simp []; exact hR) ?_
    exact wpK_ret ⟨.inr rfl, rfl, [.bool true], by simp, rfl, rfl⟩
theorem len58 (W : AW) (A : Option Addr) (n c : Nat) : aLen T0 W 58 (.slice A n c) = some (.int .i64 n) := len_slice und58 _ _ _
def ChIn (W : AW) (n : Nat) (R : Nat → Nat → Bool) (cv : Value) (cs : List (List Nat)) : Prop := GoodC n R cs ∧ cs.length ≤ n ∧ (∃ nx pr met, LinkI n R nx pr met n ∧ cs.length = (headS n pr).length) ∧ ∃ K B, ChsAt W cv cs K B ∧ (∀ b, K b → b < W.next) ∧ ∀ b, B b → b < W.next
theorem ChIn.ext {W W' : AW} {n : Nat} {R : Nat → Nat → Bool} {cv : Value} {cs : List (List Nat)} (h : ChIn W n R cv cs) (he : Ext W W') : ChIn W' n R cv cs :=
  let ⟨h1, h2, h3, K, B, h4, h5, h6⟩ := h
  ⟨h1, h2, h3, K, B, h4.only he (fun _ _ _ x => x) (fun _ _ _ x => x), fun b hb => Nat.lt_of_lt_of_le (h5 b hb) he.1, fun b hb => Nat.lt_of_lt_of_le (h6 b hb) he.1⟩
def AnIn (W : AW) (n : Nat) (R : Nat → Nat → Bool) (av : Value) (ls : List Nat) : Prop := AntiL n R ls ∧ ls.length ≤ n ∧ (∃ nx pr met, LinkI n R nx pr met n ∧ ls.length = (antiS n nx met).length) ∧ ∃ K, GrowsN W av ls.length (natsV ls) 3 1 K
theorem AnIn.ext {W W' : AW} {n : Nat} {R : Nat → Nat → Bool} {av : Value} {ls : List Nat} (h : AnIn W n R av ls) (he : Ext W W') : AnIn W' n R av ls :=
  let ⟨h1, h2, h3, K, h4⟩ := h
  ⟨h1, h2, h3, K, h4.only he (fun _ _ _ x => x)⟩
theorem ChIn.same {W W' : AW} {n : Nat} {R : Nat → Nat → Bool} {cv av : Value} {cs : List (List Nat)} {ls : List Nat} (h : ChIn W n R cv cs) (h' : AnIn W' n R av ls) (hR : Ord n R) : cs.length = ls.length := by
  obtain ⟨_, _, ⟨nx, pr, met, h1, h2⟩, _⟩ := h
  obtain ⟨_, _, ⟨nx', pr', met', h3, h4⟩, _⟩ := h'
  rw [h2, h4, h3.same h1 hR]
def LoIn (W : AW) (n : Nat) (R : Nat → Nat → Bool) (H : Nat → Nat) (m : Nat) (wv : Value) (c : List Nat) : Prop := c.length = m + 1 ∧ IsLong n R H m c ∧ ∃ K, GrowsN W wv c.length (natsV c) 3 1 K
theorem LoIn.ext {W W' : AW} {n : Nat} {R : Nat → Nat → Bool} {H : Nat → Nat} {m : Nat} {wv : Value} {c : List Nat} (h : LoIn W n R H m wv c) (he : Ext W W') : LoIn W' n R H m wv c :=
  let ⟨h1, h2, K, h3⟩ := h
  ⟨h1, h2, K, h3.only he (fun _ _ _ x => x)⟩
theorem head_le (n : Nat) (pr : Nat → Int) : (headS n pr).length ≤ n := Nat.le_trans (List.length_filter_le _ _) (by simp)
theorem anti_le (n : Nat) (nx : Nat → Int) (met : Nat) : (antiS n nx met).length ≤ n := Nat.le_trans (List.length_filter_le _ _) (by simp)
theorem chains_in {W : AW} {v : Value} {n : Nat} {es : List Edge} (h : PairR W v es) (hl : es.length < 4611686018427387904) (hT : tabsIn T0 T0.tabs W = true) (h0 : 0 < W.next) (hok : OrdOk (n : Int) es) :
    WpF T0 44 [.int .i64 (n : Int), v] W (fun u W' => Ext W W' ∧ ∃ cv cs, u = .tuple ⟨[cv, .int .i64 0]⟩ ∧ ChIn W' n (relO n es) cv cs) :=
  (chains_ok h hl hT h0 hok).mono (fun u W' ⟨h1, nx, pr, met, cs, cv, K, B, h2, h3, h4, h5, h6, h7⟩ => ⟨h1, cv, cs, h2, h4.ch.good h3 hok.ord, by rw [h4.heads_len]; exact head_le _ _, ⟨nx, pr, met, h3, h4.heads_len⟩, K, B, h5, h6, h7⟩)
theorem antichain_in {W : AW} {v : Value} {n : Nat} {es : List Edge} (h : PairR W v es) (hl : es.length < 4611686018427387904) (hT : tabsIn T0 T0.tabs W = true) (h0 : 0 < W.next) (hok : OrdOk (n : Int) es) :
    WpF T0 45 [.int .i64 (n : Int), v] W (fun u W' => Ext W W' ∧ ∃ av ls, u = .tuple ⟨[av, .int .i64 0]⟩ ∧ AnIn W' n (relO n es) av ls) :=
  (antichain_ok h hl hT h0 hok).mono (fun u W' ⟨h1, nx, pr, met, a, h2, h3, h4⟩ => ⟨h1, a, antiS n nx met, h2, h3.anti, anti_le _ _ _, ⟨nx, pr, met, h3, rfl⟩, _, h4⟩)
theorem longest_in {W : AW} {v : Value} {n m : Nat} {es : List Edge} {H : Nat → Nat} (h : PairR W v es) (hl : es.length < 4611686018427387904) (hT : tabsIn T0 T0.tabs W = true) (h0 : 0 < W.next) (hok : OrdOk (n : Int) es) (hH : IsH n (relO n es) H) (hmax : (∃ a, a < n ∧ H a = m) ∧ ∀ a, a < n → H a ≤ m) :
    WpF T0 47 [.int .i64 (n : Int), v] W (fun u W' => Ext W W' ∧ ∃ wv c, u = .tuple ⟨[wv, .int .i64 0]⟩ ∧ LoIn W' n (relO n es) H m wv c) :=
  (longest_ok h hl hT h0 hok hH hmax).mono (fun u W' ⟨h1, c, cv, K, h2, h3, h4, h5⟩ => ⟨h1, cv, c, h2, h3, h4, K, h5⟩)
theorem pairOrders_wp {W : AW} {v : Value} (P : Int) {es : List Edge} (h : PairR W v es) (hS : SlOk v es.length) (hl : es.length < 9223372036854775808) (htb : tabsIn T0 T0.tabs W = true) (hW0 : 0 < W.next) :
    WpF T0 8 [.int .i64 P, v] W (fun u _ => u = .bool true) := by
  refine wpF fun8 rfl ?_
  obtain ⟨A, c, hv⟩ := h.len
  have lv : ∀ W', aLen T0 W' 22 v = some (.int .i64 (es.length : Int)) := fun W' => by rw [hv]; exact len_slice und22 _ _ _
  obtain ⟨ka, hka⟩ : ∃ q : Nat, q = min es.length 402 := ⟨_, rfl⟩
  have mka : min (es.length : Int) (402 : Int) = (ka : Int) := by omega
  obtain ⟨u', s1, s2, s3⟩ := RowIn.slice (T := T0) und22 sz55 hS h (k := ka) (by omega)
  have hlen : (es.take ka).length = ka := by rw [List.length_take]; omega
  obtain ⟨gv, W1, k1, k2, k3, k4, k5⟩ := (GrowsN.nil W 55 2 (fun _ => False)).appRow (T := T0) (t := 22) encP_len encP_one (by omega) und22 inf55 is55 z55 rfl s3 (by rw [hlen, by55]; omega) (by omega)
  rw [List.nil_append, Nat.zero_add] at k4
  have hR1 : PairR W1 gv (es.take ka) := k4.row encP_len
  try simp only [wpK_assoc]
  refine wpK_reg (fun R hR => by simp []; exact hR) ?_
  try simp only [wpK_assoc]
  refine wpK_reg (fun R hR => by simp []; exact hR) ?_
  try simp only [wpK_assoc]
  refine wpK_reg (fun R hR => by simp [lv, min_int, mka, opSlice, aOpt, s1, k1]; exact hR) ?_
  try simp only [wpK_assoc]
  refine wpK_reg (fun R hR => by simp []; exact hR) ?_
  refine wpK_keep (fun tm' => tm'.get 0 = some (.int .i64 P) ∧ tm'.get 1 = some (v) ∧ tm'.get 5 = some (gv) ∧ tm'.get 6 = some (.int .i64 0)) ⟨by simp, by simp, by simp, by simp⟩ ?_
  rintro tm ⟨h0, h1, h5, h6⟩
  try simp only [wpK_assoc]
  refine wpK_while (I := fun q A' W' => A'.n = 154 ∧ A'.defers = [] ∧ A'.tmps.get 1 = some (v) ∧ Ext W W' ∧ ∃ (k : Nat) (n : Int) (ov : Value) (xs : List Edge), A'.tmps.get 0 = some (.int .i64 n) ∧ A'.tmps.get 5 = some ov ∧ A'.tmps.get 6 = some (.int .i64 (k : Int)) ∧ q = 2 - k ∧ k ≤ 2 ∧ PairR W' ov xs ∧ xs.length ≤ 402)
    (J := fun A' W' => A'.n = 154 ∧ A'.defers = [] ∧ Ext W W') (Rt := fun _ _ => False) (k := 2) ?_ ?_ ?_ ?_
  · exact ⟨rfl, rfl, by simp [h1], k5, 0, P, gv, es.take ka, by simp [h0], by simp [h5], by simp [h6], rfl, by omega, hR1, by omega⟩
  · rintro q ⟨tm, n, ds⟩ Wa ⟨hn, hd, h1, hEa, k, n, ov, xs, h0, h5, h6, hq, hk2, hP, hx⟩ Q' hJ hRt hI
    simp only at hn hd h1
    subst hn; subst hd
    simp only at h0 h5 h6
    by_cases hlt : k < 2
    case neg =>
      have hlt' : ¬ (k : Int) < 2 := by omega
      try simp only [wpK_assoc]
      refine wpK_reg (fun R hR => by simp [h6, hlt']; exact hR) ?_
      try simp only [wpK_assoc]
      first | refine wpK_onF (by simp [hlt]) ?_ | refine wpK_out (by simp [hlt]) ?_ | refine wpK_condF (by simp [hlt]) ?_ | refine wpK_endF (by simp [hlt]) (wpK_skip ?_) | refine wpK_endF (by simp [hlt]) ?_
      exact hJ _ _ ⟨rfl, rfl, hEa⟩
    have hlt' : (k : Int) < 2 := by omega
    try simp only [wpK_assoc]
    refine wpK_reg (fun R hR => by simp [h6, hlt']; exact hR) ?_
    try simp only [wpK_assoc]
    first | refine wpK_onT (by simp [hlt]) ?_ | refine wpK_outT (by simp [hlt]) ?_ | refine wpK_condT (by simp [hlt]) ?_ | refine wpK_endT (by simp [hlt]) ?_
    have na := hEa.1
    have hwk := i64_succ k (by omega)
    have hTa := tabs_ext htb hW0 hEa
    have hxl : xs.length < 4611686018427387904 := by omega
    refine wpK_block ?_
    by_cases hok : OrdOk n xs
    · obtain ⟨N, hN, hN1, hN40⟩ := hok.nat
      subst hN
      have hord := hok.ord
      have hN63 : N < 9223372036854775808 := by omega
      obtain ⟨H, hH⟩ := isH_ex hord
      obtain ⟨H2, hH2⟩ := isH_ex hord.rev
      obtain ⟨m, hm⟩ := max_ex H N hN1
      have hmN : m < N := by obtain ⟨⟨a, ha, ea⟩, _⟩ := hm; have := hH.lt hord ha; omega
      obtain ⟨r, hr⟩ : ∃ r, r = relO N xs := ⟨_, rfl⟩
      try simp only [wpK_assoc]
      refine wpK_x1 (fun R hR => by
          simp [h0, h5, opExtract, aExtract, aEnter, fun42, short_other, aCallV]; rw [callS_none]
          refine (order_ok hP hxl hok).mono ?_
          rintro _ W1 ⟨hE1, x, rfl, hB⟩
          simp [h0, h5, opExtract, aExtract]; exact hR x W1 (And.intro hE1 hB)) ?_
      rintro x W1 ⟨hE1, hB⟩
      have hE1' := hEa.trans hE1
      have n1 := hE1'.1
      refine wpK_keep (fun tm' => tm'.get 0 = some (.int .i64 (N : Int)) ∧ tm'.get 1 = some (v) ∧ tm'.get 5 = some (ov) ∧ tm'.get 6 = some (.int .i64 (k : Int)) ∧ tm'.get 7 = some (x) ∧ tm'.get 8 = some (.bool true)) ⟨by simp [h0, h1, h5, h6], by simp [h0, h1, h5, h6], by simp [h0, h1, h5, h6], by simp [h0, h1, h5, h6], by simp [h0, h1, h5, h6], by simp [h0, h1, h5, h6]⟩ ?_
      rintro tm ⟨h0, h1, h5, h6, h7, h8⟩
      have hP1 := hP.ext hE1
      have hck := checkOrder_wp (N : Int) hP1 hxl (tabs_ext htb hW0 hE1') (by omega)
      rw [chkO, if_pos hok] at hck
      try simp only [wpK_assoc]
      refine wpK_x0 (fun R hR => by
          simp [h0, h5, aEnter, fun43, short_other, aCallV]; rw [callS_none]
          refine (hck).mono ?_
          rintro _ W2 ⟨hE2, rfl⟩
          simp [h0, h5]; exact hR W2 hE2) ?_
      rintro W2 hE2
      have hE2' := hE1'.trans hE2
      have n2 := hE2'.1
      have hP2 := hP1.ext hE2
      refine wpK_keep (fun tm' => tm'.get 0 = some (.int .i64 (N : Int)) ∧ tm'.get 1 = some (v) ∧ tm'.get 5 = some (ov) ∧ tm'.get 6 = some (.int .i64 (k : Int)) ∧ tm'.get 7 = some (x) ∧ tm'.get 8 = some (.bool true) ∧ tm'.get 9 = some (.int .i64 0)) ⟨by simp [h0, h1, h5, h6, h7, h8], by simp [h0, h1, h5, h6, h7, h8], by simp [h0, h1, h5, h6, h7, h8], by simp [h0, h1, h5, h6, h7, h8], by simp [h0, h1, h5, h6, h7, h8], by simp [h0, h1, h5, h6, h7, h8], by simp [h0, h1, h5, h6, h7, h8]⟩ ?_
      rintro tm ⟨h0, h1, h5, h6, h7, h8, h9⟩
      try simp only [wpK_assoc]
      refine wpK_x2 (fun R hR => by
          simp [h0, h5, opExtract, aExtract, aEnter, fun44, short_other, aCallV]; rw [callS_none]
          refine (chains_in hP2 hxl (tabs_ext htb hW0 hE2') (by omega) hok).mono ?_
          rintro _ W3 ⟨hE3, cv, cs, rfl, hC⟩
          simp [h0, h5, opExtract, aExtract]; exact hR cv cs W3 (And.intro hE3 hC)) ?_
      rintro cv cs W3 ⟨hE3, hC⟩
      have hE3' := hE2'.trans hE3
      have n3 := hE3'.1
      have hP3 := hP2.ext hE3
      refine wpK_keep (fun tm' => tm'.get 0 = some (.int .i64 (N : Int)) ∧ tm'.get 1 = some (v) ∧ tm'.get 5 = some (ov) ∧ tm'.get 6 = some (.int .i64 (k : Int)) ∧ tm'.get 7 = some (x) ∧ tm'.get 8 = some (.bool true) ∧ tm'.get 9 = some (.int .i64 0) ∧ tm'.get 10 = some (cv) ∧ tm'.get 11 = some (.int .i64 0)) ⟨by simp [h0, h1, h5, h6, h7, h8, h9], by simp [h0, h1, h5, h6, h7, h8, h9], by simp [h0, h1, h5, h6, h7, h8, h9], by simp [h0, h1, h5, h6, h7, h8, h9], by simp [h0, h1, h5, h6, h7, h8, h9], by simp [h0, h1, h5, h6, h7, h8, h9], by simp [h0, h1, h5, h6, h7, h8, h9], by simp [h0, h1, h5, h6, h7, h8, h9], by simp [h0, h1, h5, h6, h7, h8, h9]⟩ ?_
      rintro tm ⟨h0, h1, h5, h6, h7, h8, h9, h10, h11⟩
      try simp only [wpK_assoc]
      refine wpK_x2 (fun R hR => by
          simp [h0, h5, opExtract, aExtract, aEnter, fun45, short_other, aCallV]; rw [callS_none]
          refine (antichain_in hP3 hxl (tabs_ext htb hW0 hE3') (by omega) hok).mono ?_
          rintro _ W4 ⟨hE4, av, ls, rfl, hA⟩
          simp [h0, h5, opExtract, aExtract]; exact hR av ls W4 (And.intro hE4 hA)) ?_
      rintro av ls W4 ⟨hE4, hA⟩
      have hE4' := hE3'.trans hE4
      have n4 := hE4'.1
      have hP4 := hP3.ext hE4
      refine wpK_keep (fun tm' => tm'.get 0 = some (.int .i64 (N : Int)) ∧ tm'.get 1 = some (v) ∧ tm'.get 5 = some (ov) ∧ tm'.get 6 = some (.int .i64 (k : Int)) ∧ tm'.get 7 = some (x) ∧ tm'.get 8 = some (.bool true) ∧ tm'.get 9 = some (.int .i64 0) ∧ tm'.get 10 = some (cv) ∧ tm'.get 11 = some (.int .i64 0) ∧ tm'.get 12 = some (av) ∧ tm'.get 13 = some (.int .i64 0)) ⟨by simp [h0, h1, h5, h6, h7, h8, h9, h10, h11], by simp [h0, h1, h5, h6, h7, h8, h9, h10, h11], by simp [h0, h1, h5, h6, h7, h8, h9, h10, h11], by simp [h0, h1, h5, h6, h7, h8, h9, h10, h11], by simp [h0, h1, h5, h6, h7, h8, h9, h10, h11], by simp [h0, h1, h5, h6, h7, h8, h9, h10, h11], by simp [h0, h1, h5, h6, h7, h8, h9, h10, h11], by simp [h0, h1, h5, h6, h7, h8, h9, h10, h11], by simp [h0, h1, h5, h6, h7, h8, h9, h10, h11], by simp [h0, h1, h5, h6, h7, h8, h9, h10, h11], by simp [h0, h1, h5, h6, h7, h8, h9, h10, h11]⟩ ?_
      rintro tm ⟨h0, h1, h5, h6, h7, h8, h9, h10, h11, h12, h13⟩
      try simp only [wpK_assoc]
      refine wpK_x1 (fun R hR => by
          simp [h0, h5, opExtract, aExtract, aEnter, fun46, short_other, aCallV]; rw [callS_none]
          refine (levels_ok hP4 hxl (tabs_ext htb hW0 hE4') (by omega) hok hH2).mono ?_
          rintro _ W5 ⟨hE5, lb, hlb, rfl, hLv⟩
          simp [h0, h5, opExtract, aExtract]; exact hR lb W5 (And.intro hE5 hLv)) ?_
      rintro lb W5 ⟨hE5, hLv⟩
      have hE5' := hE4'.trans hE5
      have n5 := hE5'.1
      have hP5 := hP4.ext hE5
      refine wpK_keep (fun tm' => tm'.get 0 = some (.int .i64 (N : Int)) ∧ tm'.get 1 = some (v) ∧ tm'.get 5 = some (ov) ∧ tm'.get 6 = some (.int .i64 (k : Int)) ∧ tm'.get 7 = some (x) ∧ tm'.get 8 = some (.bool true) ∧ tm'.get 9 = some (.int .i64 0) ∧ tm'.get 10 = some (cv) ∧ tm'.get 11 = some (.int .i64 0) ∧ tm'.get 12 = some (av) ∧ tm'.get 13 = some (.int .i64 0) ∧ tm'.get 14 = some (rowV lb N) ∧ tm'.get 15 = some (.int .i64 0)) ⟨by simp [h0, h1, h5, h6, h7, h8, h9, h10, h11, h12, h13], by simp [h0, h1, h5, h6, h7, h8, h9, h10, h11, h12, h13], by simp [h0, h1, h5, h6, h7, h8, h9, h10, h11, h12, h13], by simp [h0, h1, h5, h6, h7, h8, h9, h10, h11, h12, h13], by simp [h0, h1, h5, h6, h7, h8, h9, h10, h11, h12, h13], by simp [h0, h1, h5, h6, h7, h8, h9, h10, h11, h12, h13], by simp [h0, h1, h5, h6, h7, h8, h9, h10, h11, h12, h13], by simp [h0, h1, h5, h6, h7, h8, h9, h10, h11, h12, h13], by simp [h0, h1, h5, h6, h7, h8, h9, h10, h11, h12, h13], by simp [h0, h1, h5, h6, h7, h8, h9, h10, h11, h12, h13], by simp [h0, h1, h5, h6, h7, h8, h9, h10, h11, h12, h13], by simp [h0, h1, h5, h6, h7, h8, h9, h10, h11, h12, h13], by simp [h0, h1, h5, h6, h7, h8, h9, h10, h11, h12, h13]⟩ ?_
      rintro tm ⟨h0, h1, h5, h6, h7, h8, h9, h10, h11, h12, h13, h14, h15⟩
      try simp only [wpK_assoc]
      refine wpK_x2 (fun R hR => by
          simp [h0, h5, opExtract, aExtract, aEnter, fun47, short_other, aCallV]; rw [callS_none]
          refine (longest_in hP5 hxl (tabs_ext htb hW0 hE5') (by omega) hok hH hm).mono ?_
          rintro _ W6 ⟨hE6, wv, c, rfl, hLo⟩
          simp [h0, h5, opExtract, aExtract]; exact hR wv c W6 (And.intro hE6 hLo)) ?_
      rintro wv c W6 ⟨hE6, hLo⟩
      have hE6' := hE5'.trans hE6
      have n6 := hE6'.1
      have hP6 := hP5.ext hE6
      refine wpK_keep (fun tm' => tm'.get 0 = some (.int .i64 (N : Int)) ∧ tm'.get 1 = some (v) ∧ tm'.get 5 = some (ov) ∧ tm'.get 6 = some (.int .i64 (k : Int)) ∧ tm'.get 7 = some (x) ∧ tm'.get 8 = some (.bool true) ∧ tm'.get 9 = some (.int .i64 0) ∧ tm'.get 10 = some (cv) ∧ tm'.get 11 = some (.int .i64 0) ∧ tm'.get 12 = some (av) ∧ tm'.get 13 = some (.int .i64 0) ∧ tm'.get 14 = some (rowV lb N) ∧ tm'.get 15 = some (.int .i64 0) ∧ tm'.get 16 = some (wv) ∧ tm'.get 17 = some (.int .i64 0)) ⟨by simp [h0, h1, h5, h6, h7, h8, h9, h10, h11, h12, h13, h14, h15], by simp [h0, h1, h5, h6, h7, h8, h9, h10, h11, h12, h13, h14, h15], by simp [h0, h1, h5, h6, h7, h8, h9, h10, h11, h12, h13, h14, h15], by simp [h0, h1, h5, h6, h7, h8, h9, h10, h11, h12, h13, h14, h15], by simp [h0, h1, h5, h6, h7, h8, h9, h10, h11, h12, h13, h14, h15], by simp [h0, h1, h5, h6, h7, h8, h9, h10, h11, h12, h13, h14, h15], by simp [h0, h1, h5, h6, h7, h8, h9, h10, h11, h12, h13, h14, h15], by simp [h0, h1, h5, h6, h7, h8, h9, h10, h11, h12, h13, h14, h15], by simp [h0, h1, h5, h6, h7, h8, h9, h10, h11, h12, h13, h14, h15], by simp [h0, h1, h5, h6, h7, h8, h9, h10, h11, h12, h13, h14, h15], by simp [h0, h1, h5, h6, h7, h8, h9, h10, h11, h12, h13, h14, h15], by simp [h0, h1, h5, h6, h7, h8, h9, h10, h11, h12, h13, h14, h15], by simp [h0, h1, h5, h6, h7, h8, h9, h10, h11, h12, h13, h14, h15], by simp [h0, h1, h5, h6, h7, h8, h9, h10, h11, h12, h13, h14, h15], by simp [h0, h1, h5, h6, h7, h8, h9, h10, h11, h12, h13, h14, h15]⟩ ?_
      rintro tm ⟨h0, h1, h5, h6, h7, h8, h9, h10, h11, h12, h13, h14, h15, h16, h17⟩
      try simp only [wpK_assoc]
      refine wpK_reg (fun R hR => by simp [h8]; exact hR) ?_
      try simp only [wpK_assoc]
      first | refine wpK_onF (by simp []) ?_ | refine wpK_out (by simp []) ?_ | refine wpK_condF (by simp []) ?_ | refine wpK_endF (by simp []) (wpK_skip ?_) | refine wpK_endF (by simp []) ?_
      -- all of them hold
      have hC6 := ((hC.ext hE4).ext hE5).ext hE6
      have hA6 := (hA.ext hE5).ext hE6
      have hB6 := ((((hB.ext hE2).ext hE3).ext hE4).ext hE5).ext hE6
      have hcl := hC.same hA hord
      obtain ⟨g1, g2, -, Kc, Bc, g3, g4, g5⟩ := hC6
      obtain ⟨f1, f2, -, Ka, f3⟩ := hA6
      obtain ⟨lA, lC, hcv⟩ := g3.len
      have hAc := refAreChains_wp hB6 (by omega) g3 g1 (by omega) g4 g5
      have lc : ∀ W', aLen T0 W' 58 cv = some (.int .i64 cs.length) := fun W' => by rw [hcv]; exact len58 _ _ _ _
      have la := grows_len f3
      have hcl' : (cs.length : Int) = (ls.length : Int) := by omega
      rw [hcl'] at lc
      try simp only [wpK_assoc]
      refine wpK_x2 (P := fun (lb2 : Nat) (wv2 : Value) W' => Ext W6 W') (fun Rq hRq => by
        simp [h7, h9, h10, h11, h13, h15, h17, aEnter, fun48, short_other, aCallV]; rw [callS_none]
        refine hAc.mono ?_
        rintro _ W7 ⟨hE7, rfl⟩
        have hB7 := hB6.ext hE7
        simp [h7, h12, aEnter, fun49, short_other, aCallV]; rw [callS_none]
        refine (refIsAnti_wp hB7 (by omega) (natsV_row (f3.only hE7 (fun _ _ _ x => x))) f1 (by omega)).mono ?_
        rintro _ W9 ⟨e9, rfl⟩; subst W9
        simp [h7, h10, h12, h14, lc, la, aEnter, fun50, short_other, aCallV]; rw [callS_none]
        refine (refLevels_wp hB7 (by omega) hord hH2).mono ?_
        rintro _ W8 ⟨hE8, lb2, _, rfl, hLv2⟩
        simp [h7, h14, aEnter, fun29, short_other, aCallV]; rw [callS_none]
        have hLvA := NumsAt.row (((hLv.ext hE6).ext hE7).ext hE8)
        refine (same_wp hLvA (NumsAt.row hLv2) (by simpa using hN63) (by simpa using hN63) rfl).mono ?_
        rintro _ W9 ⟨e9, rfl⟩; subst W9
        simp [h7, h16, aEnter, fun51, short_other, aCallV]; rw [callS_none]
        refine (refLongest_wp (hB7.ext hE8) (by omega) hord hH hm).mono ?_
        rintro wv2 W9 ⟨hE9, c2, K2, r1, r2, r3⟩
        obtain ⟨q1, q2, K1, q3⟩ := ((hLo.ext hE7).ext hE8).ext hE9
        have hce := q2.one r2 (by omega)
        simp [h16, aEnter, fun29, short_other, aCallV]; rw [callS_none]
        refine (same_wp (natsV_row q3) (natsV_row r3) (by rw [List.length_map, q1]; omega) (by rw [List.length_map, r1]; omega) (by rw [hce])).mono ?_
        rintro _ W10 ⟨e9, rfl⟩; subst W10
        simp
        exact hRq lb2 wv2 W9 ((hE7.trans hE8).trans hE9)) ?_
      rintro lb2 wv2 W7 hE7
      try simp only [wpK_assoc]
      first | refine wpK_onF (by simp []) ?_ | refine wpK_out (by simp []) ?_ | refine wpK_condF (by simp []) ?_ | refine wpK_endF (by simp []) (wpK_skip ?_) | refine wpK_endF (by simp []) ?_
      have hE7' := hE6'.trans hE7
      refine wpK_keep (fun tm' => tm'.get 0 = some (.int .i64 (N : Int)) ∧ tm'.get 1 = some (v) ∧ tm'.get 6 = some (.int .i64 (k : Int))) ⟨by simp [h0, h1, h6], by simp [h0, h1, h6], by simp [h0, h1, h6]⟩ ?_
      rintro tm ⟨h0, h1, h6⟩
      have hor := order_wp (N : Int) 12 (by omega) (by omega) (h.ext hE7') hl
      try simp only [wpK_assoc]
      refine wpK_y3 (P := fun (n' : Nat) (ov' : Value) (xs' : List Edge) W' => Ext W7 W' ∧ PairR W' ov' xs' ∧ xs'.length ≤ 402) (fun Rq hRq => by
        simp [h0, h1, aEnter, fun52, short_other, aCallV]; rw [callS_none]
        refine hor.mono ?_
        rintro _ W8 ⟨hE8, n', ov', xs', rfl, _, _, _, o1, o2⟩
        simp [opExtract, aExtract]
        exact hRq n' ov' xs' W8 (And.intro hE8 (And.intro o1 (by omega)))) ?_
      rintro n' ov' xs' W8 ⟨hE8, o1, o2⟩
      simp only [leaves_normal, behind_normal]
      try simp only [wpK_assoc]
      refine wpK_reg1 (fun R hR => by simp [h6, hwk]; exact hR) ?_
      exact hI (2 - (k + 1)) _ _ (by omega) ⟨rfl, rfl, by simp [h1], hE7'.trans hE8, k + 1, (n' : Int), ov', xs', by simp, by simp, by simp, rfl, by omega, o1, o2⟩
    · try simp only [wpK_assoc]
      refine wpK_x0 (fun R hR => by
          simp [h0, h5, opExtract, aExtract, aEnter, fun42, short_other, aCallV]; rw [callS_none]
          refine (order_no hP hxl hok).mono ?_
          rintro _ W1 ⟨hE1, rfl⟩
          simp [h0, h5, opExtract, aExtract]; exact hR W1 hE1) ?_
      rintro W1 hE1
      have hE1' := hEa.trans hE1
      have n1 := hE1'.1
      refine wpK_keep (fun tm' => tm'.get 0 = some (.int .i64 n) ∧ tm'.get 1 = some (v) ∧ tm'.get 5 = some (ov) ∧ tm'.get 6 = some (.int .i64 (k : Int)) ∧ tm'.get 8 = some (.bool false)) ⟨by simp [h0, h1, h5, h6], by simp [h0, h1, h5, h6], by simp [h0, h1, h5, h6], by simp [h0, h1, h5, h6], by simp [h0, h1, h5, h6]⟩ ?_
      rintro tm ⟨h0, h1, h5, h6, h8⟩
      have hP1 := hP.ext hE1
      have hck := checkOrder_wp n hP1 hxl (tabs_ext htb hW0 hE1') (by omega)
      rw [chkO, if_neg hok] at hck
      try simp only [wpK_assoc]
      refine wpK_x0 (fun R hR => by
          simp [h0, h5, aEnter, fun43, short_other, aCallV]; rw [callS_none]
          refine (hck).mono ?_
          rintro _ W2 ⟨hE2, rfl⟩
          simp [h0, h5]; exact hR W2 hE2) ?_
      rintro W2 hE2
      have hE2' := hE1'.trans hE2
      have n2 := hE2'.1
      have hP2 := hP1.ext hE2
      refine wpK_keep (fun tm' => tm'.get 0 = some (.int .i64 n) ∧ tm'.get 1 = some (v) ∧ tm'.get 5 = some (ov) ∧ tm'.get 6 = some (.int .i64 (k : Int)) ∧ tm'.get 8 = some (.bool false) ∧ tm'.get 9 = some (.int .i64 41)) ⟨by simp [h0, h1, h5, h6, h8], by simp [h0, h1, h5, h6, h8], by simp [h0, h1, h5, h6, h8], by simp [h0, h1, h5, h6, h8], by simp [h0, h1, h5, h6, h8], by simp [h0, h1, h5, h6, h8]⟩ ?_
      rintro tm ⟨h0, h1, h5, h6, h8, h9⟩
      try simp only [wpK_assoc]
      refine wpK_x0 (fun R hR => by
          simp [h0, h5, opExtract, aExtract, aEnter, fun44, short_other, aCallV]; rw [callS_none]
          refine (chains_no hP2 hxl (tabs_ext htb hW0 hE2') (by omega) hok).mono ?_
          rintro _ W3 ⟨hE3, rfl⟩
          simp [h0, h5, opExtract, aExtract]; exact hR W3 hE3) ?_
      rintro W3 hE3
      have hE3' := hE2'.trans hE3
      have n3 := hE3'.1
      have hP3 := hP2.ext hE3
      refine wpK_keep (fun tm' => tm'.get 0 = some (.int .i64 n) ∧ tm'.get 1 = some (v) ∧ tm'.get 5 = some (ov) ∧ tm'.get 6 = some (.int .i64 (k : Int)) ∧ tm'.get 8 = some (.bool false) ∧ tm'.get 9 = some (.int .i64 41) ∧ tm'.get 10 = some (.slice none 0 0) ∧ tm'.get 11 = some (.int .i64 41)) ⟨by simp [h0, h1, h5, h6, h8, h9], by simp [h0, h1, h5, h6, h8, h9], by simp [h0, h1, h5, h6, h8, h9], by simp [h0, h1, h5, h6, h8, h9], by simp [h0, h1, h5, h6, h8, h9], by simp [h0, h1, h5, h6, h8, h9], by simp [h0, h1, h5, h6, h8, h9], by simp [h0, h1, h5, h6, h8, h9]⟩ ?_
      rintro tm ⟨h0, h1, h5, h6, h8, h9, h10, h11⟩
      try simp only [wpK_assoc]
      refine wpK_x0 (fun R hR => by
          simp [h0, h5, opExtract, aExtract, aEnter, fun45, short_other, aCallV]; rw [callS_none]
          refine (antichain_no hP3 hxl (tabs_ext htb hW0 hE3') (by omega) hok).mono ?_
          rintro _ W4 ⟨hE4, rfl⟩
          simp [h0, h5, opExtract, aExtract]; exact hR W4 hE4) ?_
      rintro W4 hE4
      have hE4' := hE3'.trans hE4
      have n4 := hE4'.1
      have hP4 := hP3.ext hE4
      refine wpK_keep (fun tm' => tm'.get 0 = some (.int .i64 n) ∧ tm'.get 1 = some (v) ∧ tm'.get 5 = some (ov) ∧ tm'.get 6 = some (.int .i64 (k : Int)) ∧ tm'.get 8 = some (.bool false) ∧ tm'.get 9 = some (.int .i64 41) ∧ tm'.get 10 = some (.slice none 0 0) ∧ tm'.get 11 = some (.int .i64 41) ∧ tm'.get 12 = some (.slice none 0 0) ∧ tm'.get 13 = some (.int .i64 41)) ⟨by simp [h0, h1, h5, h6, h8, h9, h10, h11], by simp [h0, h1, h5, h6, h8, h9, h10, h11], by simp [h0, h1, h5, h6, h8, h9, h10, h11], by simp [h0, h1, h5, h6, h8, h9, h10, h11], by simp [h0, h1, h5, h6, h8, h9, h10, h11], by simp [h0, h1, h5, h6, h8, h9, h10, h11], by simp [h0, h1, h5, h6, h8, h9, h10, h11], by simp [h0, h1, h5, h6, h8, h9, h10, h11], by simp [h0, h1, h5, h6, h8, h9, h10, h11], by simp [h0, h1, h5, h6, h8, h9, h10, h11]⟩ ?_
      rintro tm ⟨h0, h1, h5, h6, h8, h9, h10, h11, h12, h13⟩
      try simp only [wpK_assoc]
      refine wpK_x0 (fun R hR => by
          simp [h0, h5, opExtract, aExtract, aEnter, fun46, short_other, aCallV]; rw [callS_none]
          refine (levels_no hP4 hxl (tabs_ext htb hW0 hE4') (by omega) hok).mono ?_
          rintro _ W5 ⟨hE5, rfl⟩
          simp [h0, h5, opExtract, aExtract]; exact hR W5 hE5) ?_
      rintro W5 hE5
      have hE5' := hE4'.trans hE5
      have n5 := hE5'.1
      have hP5 := hP4.ext hE5
      refine wpK_keep (fun tm' => tm'.get 0 = some (.int .i64 n) ∧ tm'.get 1 = some (v) ∧ tm'.get 5 = some (ov) ∧ tm'.get 6 = some (.int .i64 (k : Int)) ∧ tm'.get 8 = some (.bool false) ∧ tm'.get 9 = some (.int .i64 41) ∧ tm'.get 10 = some (.slice none 0 0) ∧ tm'.get 11 = some (.int .i64 41) ∧ tm'.get 12 = some (.slice none 0 0) ∧ tm'.get 13 = some (.int .i64 41) ∧ tm'.get 14 = some (.slice none 0 0) ∧ tm'.get 15 = some (.int .i64 41)) ⟨by simp [h0, h1, h5, h6, h8, h9, h10, h11, h12, h13], by simp [h0, h1, h5, h6, h8, h9, h10, h11, h12, h13], by simp [h0, h1, h5, h6, h8, h9, h10, h11, h12, h13], by simp [h0, h1, h5, h6, h8, h9, h10, h11, h12, h13], by simp [h0, h1, h5, h6, h8, h9, h10, h11, h12, h13], by simp [h0, h1, h5, h6, h8, h9, h10, h11, h12, h13], by simp [h0, h1, h5, h6, h8, h9, h10, h11, h12, h13], by simp [h0, h1, h5, h6, h8, h9, h10, h11, h12, h13], by simp [h0, h1, h5, h6, h8, h9, h10, h11, h12, h13], by simp [h0, h1, h5, h6, h8, h9, h10, h11, h12, h13], by simp [h0, h1, h5, h6, h8, h9, h10, h11, h12, h13], by simp [h0, h1, h5, h6, h8, h9, h10, h11, h12, h13]⟩ ?_
      rintro tm ⟨h0, h1, h5, h6, h8, h9, h10, h11, h12, h13, h14, h15⟩
      try simp only [wpK_assoc]
      refine wpK_x0 (fun R hR => by
          simp [h0, h5, opExtract, aExtract, aEnter, fun47, short_other, aCallV]; rw [callS_none]
          refine (longest_no hP5 hxl (tabs_ext htb hW0 hE5') (by omega) hok).mono ?_
          rintro _ W6 ⟨hE6, rfl⟩
          simp [h0, h5, opExtract, aExtract]; exact hR W6 hE6) ?_
      rintro W6 hE6
      have hE6' := hE5'.trans hE6
      have n6 := hE6'.1
      refine wpK_keep (fun tm' => tm'.get 0 = some (.int .i64 n) ∧ tm'.get 1 = some (v) ∧ tm'.get 6 = some (.int .i64 (k : Int)) ∧ tm'.get 8 = some (.bool false) ∧ tm'.get 9 = some (.int .i64 41) ∧ tm'.get 10 = some (.slice none 0 0) ∧ tm'.get 11 = some (.int .i64 41) ∧ tm'.get 12 = some (.slice none 0 0) ∧ tm'.get 13 = some (.int .i64 41) ∧ tm'.get 14 = some (.slice none 0 0) ∧ tm'.get 15 = some (.int .i64 41) ∧ tm'.get 16 = some (.slice none 0 0) ∧ tm'.get 17 = some (.int .i64 41)) ⟨by simp [h0, h1, h6, h8, h9, h10, h11, h12, h13, h14, h15], by simp [h0, h1, h6, h8, h9, h10, h11, h12, h13, h14, h15], by simp [h0, h1, h6, h8, h9, h10, h11, h12, h13, h14, h15], by simp [h0, h1, h6, h8, h9, h10, h11, h12, h13, h14, h15], by simp [h0, h1, h6, h8, h9, h10, h11, h12, h13, h14, h15], by simp [h0, h1, h6, h8, h9, h10, h11, h12, h13, h14, h15], by simp [h0, h1, h6, h8, h9, h10, h11, h12, h13, h14, h15], by simp [h0, h1, h6, h8, h9, h10, h11, h12, h13, h14, h15], by simp [h0, h1, h6, h8, h9, h10, h11, h12, h13, h14, h15], by simp [h0, h1, h6, h8, h9, h10, h11, h12, h13, h14, h15], by simp [h0, h1, h6, h8, h9, h10, h11, h12, h13, h14, h15], by simp [h0, h1, h6, h8, h9, h10, h11, h12, h13, h14, h15], by simp [h0, h1, h6, h8, h9, h10, h11, h12, h13, h14, h15]⟩ ?_
      rintro tm ⟨h0, h1, h6, h8, h9, h10, h11, h12, h13, h14, h15, h16, h17⟩
      try simp only [wpK_assoc]
      refine wpK_reg (fun R hR => by simp [h8]; exact hR) ?_
      try simp only [wpK_assoc]
      first | refine wpK_onT (by simp []) ?_ | refine wpK_outT (by simp []) ?_ | refine wpK_condT (by simp []) ?_ | refine wpK_endT (by simp []) ?_
      have l58 : ∀ W', aLen T0 W' 58 (.slice none 0 0) = some (.int .i64 0) := fun W' => len58 W' none 0 0
      have l31 : ∀ W', aLen T0 W' 31 (.slice none 0 0) = some (.int .i64 0) := fun W' => len_slice und31 _ _ _
      have w00 : IntKind.i64.wrap 0 = 0 := by decide
      try simp only [wpK_assoc]
      refine wpK_reg (fun R hR => by simp [h9, h10, h11, h12, h13, h14, h15, h16, h17, l58, l31, w00]; exact hR) ?_
      try simp only [wpK_assoc]
      first | refine wpK_onF (by simp []) ?_ | refine wpK_out (by simp []) ?_ | refine wpK_condF (by simp []) ?_ | refine wpK_endF (by simp []) (wpK_skip ?_) | refine wpK_endF (by simp []) ?_
      refine wpK_keep (fun tm' => tm'.get 0 = some (.int .i64 n) ∧ tm'.get 1 = some (v) ∧ tm'.get 6 = some (.int .i64 (k : Int))) ⟨by simp [h0, h1, h6], by simp [h0, h1, h6], by simp [h0, h1, h6]⟩ ?_
      rintro tm ⟨h0, h1, h6⟩
      have hor := order_wp n 12 (by omega) (by omega) (h.ext hE6') hl
      try simp only [wpK_assoc]
      refine wpK_y3 (P := fun (n' : Nat) (ov' : Value) (xs' : List Edge) W' => Ext W6 W' ∧ PairR W' ov' xs' ∧ xs'.length ≤ 402) (fun Rq hRq => by
        simp [h0, h1, aEnter, fun52, short_other, aCallV]; rw [callS_none]
        refine hor.mono ?_
        rintro _ W8 ⟨hE8, n', ov', xs', rfl, _, _, _, o1, o2⟩
        simp [opExtract, aExtract]
        exact hRq n' ov' xs' W8 (And.intro hE8 (And.intro o1 (by omega)))) ?_
      rintro n' ov' xs' W8 ⟨hE8, o1, o2⟩
      simp only [leaves_normal, behind_normal]
      try simp only [wpK_assoc]
      refine wpK_reg1 (fun R hR => by simp [h6, hwk]; exact hR) ?_
      exact hI (2 - (k + 1)) _ _ (by omega) ⟨rfl, rfl, by simp [h1], hE6'.trans hE8, k + 1, (n' : Int), ov', xs', by simp, by simp, by simp, rfl, by omega, o1, o2⟩
  · rintro A' W' hf; exact hf.elim
  rintro ⟨tm, n', ds⟩ W9 ⟨hn', hd', hE9⟩
  simp only at hn' hd'
  subst hn'; subst hd'
  have htbz := tabs_ext htb hW0 hE9
  try simp only [wpK_assoc]
  refine wpK_reg (fun R hR => by simp [short_awake, htbz, aEnter, aCallV, fun16]; exact hR) ?_
  exact wpK_ret ⟨.inr rfl, rfl, [.bool true], by simp, rfl⟩
end Go.Proofs.YtdpnplanohgecaaDoor