import Derived.Test.YtdpnplanohgecaaDoorP40
set_option linter.unusedSimpArgs false
set_option linter.unusedVariables false
set_option linter.unusedSectionVars false
open Go Go.Eng
namespace Go.Proofs.YtdpnplanohgecaaDoor
attribute [local congr] undef_congr WpK.congr WpS.congr WpL.congr WpC.congr WpF.congr gotS.congr callS.congr nextS.congr wantS.congr condS.congr
attribute [local irreducible] WpK
attribute [local simp] WpDr_nil WpDr_cons atS_some dwantS_true dwantS_false kindS_light kindS_float kindS_heavy lightS_value floatS_some heavyS_value heavyS_skip heavyS_enter dcallS_some doneS_eq
  isLight isFloat isPlain dLook testBit_dec dChain dLights_nil dLights_skip dLights_one dLight_nil dLight_cons dFreshes_nil dFreshes_one oneF_none oneF_some dFresh_nil dFresh_cons oneL_some oneW_true oneW_false sameV_value dPut dMay valEq arrEq listEq List.getElem?_cons Tr.get_nil dEnd
attribute [local simp] WpS_nil WpS_cons isDefer undef_false wantS_true wantS_false nextS_value nextS_skip nextS_enter callS_some gotS_some aWanted aOp aEvalF aEval opMove opAssign opPick aVal flat flat1 AAct.put opBinOp opConvert opIndex Tr.get_set Tr.get_lay aBin aResults tupled
  aCall aVals aCallB blt_dec ble_dec beq_dec aBinI_add aBinI_sub aBinI_lss aBinI_leq aBinI_gtr aBinI_geq aBinI_eql aBinI_neq index_str len_str len_slice Nat.beq_refl Nat.beq_refl
  opBox opLoad opFieldAddr opIndexAddr acells aAddr opExtract aExtract opUnOp opAlloc opStore opMakeInterface opNilCheck opBuild aParts opBuildSlice aValW
attribute [local simp] und2 und3 und4 und5 und9 und12 field13_0 field13_1 und21 und22 field23_0 field23_1 field24_0 field24_1 field25_0 field25_1 und28 und31 field34_0 field34_1 field34_2 field35_0 field35_1 field35_2 und46 field50_0 field50_1 field50_2 und55 und56 und58 und61 und62 und73 und75 und90 und94 und95 und96 field97_0 field97_1 field97_2 field97_3 field97_4 field97_5 field97_6 field98_0 field98_1 field98_2 field98_3 field98_4 field98_5 field98_6 und99 und106 field107_0 field107_1 field108_0 field108_1 und119 und122 field124_0 field124_1 field124_2 field125_0 field125_1 field125_2 field131_0 field131_1 field132_0 field132_1 und133 field134_0 field134_1 field135_0 field135_1 und148 und156 und160
set_option maxHeartbeats 4000000
set_option linter.unusedSimpArgs false
set_option linter.unusedVariables false
theorem cntB_disj {x y : Nat} (h : ∀ r, x.testBit r = true → y.testBit r = false) : ∀ m : Nat, cntB m (x ||| y) = cntB m x + cntB m y
  | 0 => rfl
  | m + 1 => by
    have ih := cntB_disj h m
    simp only [cntB, Nat.testBit_or]
    have := h m
    cases hx : x.testBit m <;> cases hy : y.testBit m <;> simp_all <;> omega
open Classical in
noncomputable def totF (Aj : Nat → Nat → Prop) (S : Nat → Prop) (v : Nat) : Int := if S v ∧ ∀ u, u < v → ¬ Rch Aj S v u then ((pc (bitsOf (Rch Aj S v) 40) : Nat) : Int) else 0
theorem tot_root (Aj : Nat → Nat → Prop) (S : Nat → Prop) : ∀ n : Nat, ∃ c : Nat, sumN n (totF Aj S) = sumN n (rootF Aj S) + 2 * (c : Int)
  | 0 => ⟨0, rfl⟩
  | n + 1 => by
    obtain ⟨c, hc⟩ := tot_root Aj S n
    simp only [sumN]
    by_cases h : S n ∧ ∀ u, u < n → ¬ Rch Aj S n u
    · rw [totF, if_pos h, rootF, if_pos h]
      generalize pc (bitsOf (Rch Aj S n) 40) = p
      exact ⟨c + p / 2, by omega⟩
    · rw [totF, if_neg h, rootF, if_neg h]
      exact ⟨c, by omega⟩
theorem tot_part {Aj : Nat → Nat → Prop} {S : Nat → Prop} (hsy : ∀ q r, Aj q r → Aj r q) (h40 : ∀ r, S r → r < 40) : ∀ a : Nat, ((pc (bitsOf (fun r => ∃ u, u < a ∧ Rch Aj S u r) 40) : Nat) : Int) = sumN a (totF Aj S)
  | 0 => by
    have : bitsOf (fun r => ∃ u, u < 0 ∧ Rch Aj S u r) 40 = 0 := bits_eq fun r => by
      rw [bitsOf_bit]; constructor
      · rintro ⟨_, u, hu, _⟩; omega
      · intro h; simp at h
    rw [this]; exact congrArg Int.ofNat (cntB_zero 40)
  | a + 1 => by
    have ih := tot_part hsy h40 a
    simp only [sumN]
    rw [← ih]
    by_cases h : S a ∧ ∀ u, u < a → ¬ Rch Aj S a u
    · rw [totF, if_pos h]
      have e : bitsOf (fun r => ∃ u, u < a + 1 ∧ Rch Aj S u r) 40 = bitsOf (fun r => ∃ u, u < a ∧ Rch Aj S u r) 40 ||| bitsOf (Rch Aj S a) 40 := bits_eq fun r => by
        rw [Nat.testBit_or, Bool.or_eq_true, bitsOf_bit, bitsOf_bit, bitsOf_bit]
        constructor
        · rintro ⟨h1, u, hu, hr⟩
          by_cases e : u = a
          · subst e; exact .inr ⟨h1, hr⟩
          · exact .inl ⟨h1, u, by omega, hr⟩
        · rintro (⟨h1, u, hu, hr⟩ | ⟨h1, hr⟩)
          · exact ⟨h1, u, by omega, hr⟩
          · exact ⟨h1, a, by omega, hr⟩
      have hd := cntB_disj (x := bitsOf (fun r => ∃ u, u < a ∧ Rch Aj S u r) 40) (y := bitsOf (Rch Aj S a) 40) (fun r hr => by
        cases hb : (bitsOf (Rch Aj S a) 40).testBit r with
        | false => rfl
        | true =>
          obtain ⟨_, u, hu, h1⟩ := bitsOf_bit.1 hr
          exact absurd ((bitsOf_bit.1 hb).2.trans (h1.symm hsy)) (h.2 u hu)) 40
      rw [e]
      show ((cntB 40 _ : Nat) : Int) = ((cntB 40 _ : Nat) : Int) + ((cntB 40 _ : Nat) : Int)
      rw [hd]; omega
    · rw [totF, if_neg h]
      have e : bitsOf (fun r => ∃ u, u < a + 1 ∧ Rch Aj S u r) 40 = bitsOf (fun r => ∃ u, u < a ∧ Rch Aj S u r) 40 := bits_eq fun r => by
        rw [bitsOf_bit, bitsOf_bit]
        constructor
        · rintro ⟨h1, u, hu, hr⟩
          by_cases e : u = a
          · subst e
            have : ∃ w, w < u ∧ Rch Aj S u w := by
              apply Classical.byContradiction
              intro hn
              exact h ⟨hr.mem0, fun w hw hr2 => hn ⟨w, hw, hr2⟩⟩
            obtain ⟨w, hw, hr2⟩ := this
            exact ⟨h1, w, hw, (hr2.symm hsy).trans hr⟩
          · exact ⟨h1, u, by omega, hr⟩
        · rintro ⟨h1, u, hu, hr⟩
          exact ⟨h1, u, by omega, hr⟩
      rw [e]; omega
theorem parts_total {Aj : Nat → Nat → Prop} {S : Nat → Prop} (hsy : ∀ q r, Aj q r → Aj r q) {n : Nat} (hn : n ≤ 40) (hS : ∀ r, S r → r < n) : ∃ c : Nat, ((pc (bitsOf S 40) : Nat) : Int) = sumN n (rootF Aj S) + 2 * (c : Int) := by
  obtain ⟨c, hc⟩ := tot_root Aj S n
  refine ⟨c, ?_⟩
  rw [← hc, ← tot_part hsy (fun r hr => by have := hS r hr; omega) n]
  have : bitsOf S 40 = bitsOf (fun r => ∃ u, u < n ∧ Rch Aj S u r) 40 := bits_eq fun r => by
    rw [bitsOf_bit, bitsOf_bit]
    constructor
    · rintro ⟨h1, h2⟩; exact ⟨h1, r, hS r h2, .start h2⟩
    · rintro ⟨h1, u, _, hr⟩; exact ⟨h1, hr.mem⟩
  rw [this]
def Sof (n : Nat) (s : List Int) (r : Nat) : Prop := r < n ∧ ∀ i, i < s.length → gI s i ≠ (r : Int)
theorem rises_lt {P : Int} {s : List Int} (h : RisTo P s s.length) : ∀ (j i : Nat), i < j → j < s.length → gI s i < gI s j
  | 0, i, hi, _ => by omega
  | j + 1, i, hi, hj => by
    have h1 := (h (j + 1) hj).2.2 (by omega)
    rw [Nat.add_sub_cancel] at h1
    by_cases e : i = j
    · subst e; exact h1
    · have := rises_lt h j i (by omega) (by omega); omega
theorem rises_list {P : Int} {s : List Int} (h : RisTo P s s.length) : ∃ ps : List Nat, s = ps.map Int.ofNat ∧ (∀ i, i < ps.length → (pOf ps i : Int) = gI s i) ∧ (∀ i j, i < j → j < ps.length → pOf ps i ≠ pOf ps j) := by
  have e : s = (s.map Int.toNat).map Int.ofNat := by
    rw [List.map_map]
    refine (List.map_id' s).symm.trans (List.map_congr_left fun x hx => ?_)
    obtain ⟨i, hi, e⟩ := List.getElem_of_mem hx
    have := gI_some hi
    rw [List.getElem?_eq_getElem hi] at this
    have e2 : gI s i = x := by rw [← e]; exact (Option.some.inj this).symm
    have h0 := (h i hi).1
    show x = Int.ofNat x.toNat
    rw [e2] at h0
    exact (Int.toNat_of_nonneg h0).symm
  have g : ∀ i, i < (s.map Int.toNat).length → (pOf (s.map Int.toNat) i : Int) = gI s i := fun i hi => by
    simp at hi
    have h0 := (h i hi).1
    have h1 := gI_some hi
    rw [pOf, List.getD_eq_getElem?_getD, List.getElem?_map, h1]
    exact Int.toNat_of_nonneg h0
  refine ⟨s.map Int.toNat, e, g, fun i j hij hj he => ?_⟩
  have g1 := g i (by omega)
  have g2 := g j hj
  have := rises_lt h j i hij (by simpa using hj)
  rw [he] at g1
  omega
def BarIs (n : Nat) (es : List Edge) (s : List Int) (k : Int) : Prop := RisTo (n : Int) s s.length ∧ 2 * k = (n : Int) + s.length - sumN 40 (rootF (AjE es) (Sof n s))
theorem bar_facts {n : Nat} (hn : n ≤ 40) {es : List Edge} {s : List Int} (h : RisTo (n : Int) s s.length) : s.length ≤ n ∧ ∃ c : Nat, (n : Int) - s.length = sumN 40 (rootF (AjE es) (Sof n s)) + 2 * (c : Int) := by
  obtain ⟨ps, e, g, d⟩ := rises_list h
  have hl : ps.length = s.length := by rw [e]; simp
  have hlt : ∀ i, i < ps.length → pOf ps i < n := fun i hi => by
    have h1 := (h i (by omega)).2.1
    have h2 := g i hi
    omega
  have hpc : pc (TS ps) = ps.length := tk_cnt (n := n) hn hlt d
  have hle : ps.length ≤ n := by rw [← hpc]; exact (cntB_le (n := n) (x := TS ps) (tk_lt hlt) 40).1
  have hSb : ∀ r, Sof n s r → r < n := fun r hr => hr.1
  obtain ⟨c, hc⟩ := parts_total (Aj := AjE es) (S := Sof n s) AjE.symm hn hSb
  have hbit : ∀ r, (TS ps).testBit r = true ↔ ∃ i, i < s.length ∧ gI s i = (r : Int) := fun r => by
    rw [TS_bit]
    constructor
    · rintro ⟨i, hi, e2⟩; exact ⟨i, by omega, by rw [← g i hi, e2]⟩
    · rintro ⟨i, hi, e2⟩; exact ⟨i, by omega, by have := g i (by omega); omega⟩
  have hfull : bitsOf (Sof n s) 40 ||| TS ps = 2 ^ n - 1 := bits_eq fun r => by
    rw [Nat.testBit_or, Bool.or_eq_true, bitsOf_bit, hbit r, full_bit, decide_eq_true_iff]
    constructor
    · rintro (⟨_, h2⟩ | ⟨i, hi, e2⟩)
      · exact h2.1
      · have := (h i hi).2.1; omega
    · intro hr
      by_cases hh : ∃ i, i < s.length ∧ gI s i = (r : Int)
      · exact .inr hh
      · exact .inl ⟨by omega, hr, fun i hi e2 => hh ⟨i, hi, e2⟩⟩
  have hdis := cntB_disj (x := bitsOf (Sof n s) 40) (y := TS ps) (fun r hr => by
    cases hb : (TS ps).testBit r with
    | false => rfl
    | true =>
      obtain ⟨i, hi, e2⟩ := (hbit r).1 hb
      exact absurd e2 ((bitsOf_bit.1 hr).2.2 i hi)) 40
  rw [hfull, cntB_full] at hdis
  have h1 : cntB 40 (TS ps) = ps.length := hpc
  have h2 : sumN 40 (rootF (AjE es) (Sof n s)) = sumN n (rootF (AjE es) (Sof n s)) := sumN_skip hn (fun v h1 _ => rootF_not (fun hh => by have := hh.1.1; omega))
  have hc : ((cntB 40 (bitsOf (Sof n s) 40) : Nat) : Int) = _ := hc
  refine ⟨by omega, c, ?_⟩
  rw [h2]
  omega
end Go.Proofs.YtdpnplanohgecaaDoor
open Go Go.Eng
namespace Go.Proofs.YtdpnplanohgecaaDoor
open Classical
noncomputable def listOf (C : Nat → Prop) : List Nat := (List.range 40).filter fun x => decide (C x)
theorem listOf_mem {C : Nat → Prop} {x : Nat} : x ∈ listOf C ↔ x < 40 ∧ C x := by simp [listOf]
theorem listOf_nodup (C : Nat → Prop) : (listOf C).Nodup := List.nodup_range.filter _
theorem range_cnt {C : Nat → Prop} : ∀ m, m ≤ 40 → cntB m (bitsOf C 40) = ((List.range m).filter fun x => decide (C x)).length
  | 0, _ => rfl
  | m + 1, h => by
    have ih := range_cnt (C := C) m (by omega)
    rw [List.range_succ, List.filter_append, List.length_append, ← ih]
    simp only [cntB]
    by_cases hc : C m
    · rw [if_pos (bitsOf_bit.2 ⟨by omega, hc⟩)]; simp [hc]
    · rw [if_neg (fun hh => hc (bitsOf_bit.1 hh).2)]; simp [hc]
theorem pc_list (C : Nat → Prop) : pc (bitsOf C 40) = (listOf C).length := range_cnt 40 (Nat.le_refl _)
theorem sum_list {f : Nat → Int} (h : ∀ v, f v = 0 ∨ f v = 1) : ∀ m, sumN m f = (((List.range m).filter fun x => decide (f x = 1)).length : Int)
  | 0 => rfl
  | m + 1 => by
    rw [List.range_succ, List.filter_append, List.length_append]
    simp only [sumN]
    rw [sum_list h m]
    rcases h m with e | e
    · simp [e]
    · simp [e]
theorem inj_le {g : Nat → Nat} : ∀ {l s : List Nat}, l.Nodup → (∀ x ∈ l, g x ∈ s) → (∀ x ∈ l, ∀ y ∈ l, g x = g y → x = y) → l.length ≤ s.length
  | [], _, _, _, _ => Nat.zero_le _
  | x :: l, s, hn, hs, hi => by
    rw [List.nodup_cons] at hn
    have hx := hs x List.mem_cons_self
    have := inj_le (l := l) (s := s.filter fun y => decide (y ≠ g x)) hn.2 (fun y hy => List.mem_filter.2 ⟨hs y (List.mem_cons_of_mem _ hy), decide_eq_true fun e => by
      have := hi y (List.mem_cons_of_mem _ hy) x List.mem_cons_self e
      subst this; exact hn.1 hy⟩) (fun a ha b hb => hi a (List.mem_cons_of_mem _ ha) b (List.mem_cons_of_mem _ hb))
    have h2 := filter_lt (l := s) (p := fun y => decide (y ≠ g x)) hx (by simp)
    simp only [List.length_cons]; omega
theorem even_inv {f : Nat → Nat} : ∀ (k : Nat) (L : List Nat), L.length ≤ k → L.Nodup → (∀ x ∈ L, f x ∈ L ∧ f x ≠ x ∧ f (f x) = x) → L.length % 2 = 0
  | _, [], _, _, _ => rfl
  | 0, _ :: _, h, _, _ => by simp at h
  | k + 1, x :: L, h, hn, hf => by
    rw [List.nodup_cons] at hn
    obtain ⟨h1, h2, h3⟩ := hf x List.mem_cons_self
    have hL : f x ∈ L := (List.mem_cons.1 h1).resolve_left h2
    have hlen := List.length_erase_of_mem hL
    have hpos := List.length_pos_of_mem hL
    have ih := even_inv k (L.erase (f x)) (by simp only [List.length_cons] at h; omega) (hn.2.erase _) (fun y hy => by
      rw [hn.2.mem_erase_iff] at hy
      obtain ⟨g1, g2, g3⟩ := hf y (List.mem_cons_of_mem _ hy.2)
      refine ⟨?_, g2, g3⟩
      rw [hn.2.mem_erase_iff]
      refine ⟨fun e => ?_, (List.mem_cons.1 g1).resolve_left fun e => ?_⟩
      · have : y = x := by rw [← g3, e, h3]
        subst this; exact hn.1 hy.2
      · exact hy.1 (by rw [← e, g3]))
    simp only [List.length_cons]; omega
variable {n : Nat} {J : Nat → Nat → Prop} {mt : Nat → Int}
theorem even_paired (hm : Mt n J mt) (hJi : ∀ x, ¬ J x x) {L : List Nat} (hL : L.Nodup) (hlt : ∀ x ∈ L, x < n) (hp : ∀ x ∈ L, ∃ y : Nat, mt x = (y : Int) ∧ y ∈ L) : L.length % 2 = 0 := by
  refine even_inv (f := fun x => (mt x).toNat) L.length L (Nat.le_refl _) hL (fun x hx => ?_)
  obtain ⟨y, e, hy⟩ := hp x hx
  have e2 := hm.sym (hlt x hx) e
  simp only [e, Int.toNat_natCast, e2]
  exact ⟨hy, fun h => by subst h; exact hJi _ (hm.adj (hlt _ hx) e), trivial⟩
theorem berge_weak (hm : Mt n J mt) (hJi : ∀ x, ¬ J x x) (hsy : ∀ x y, J x y → J y x) (hn : n ≤ 40) {S : Nat → Prop} (hS : ∀ r, S r → r < n) :
    sumN 40 (rootF J S) ≤ (((listOf fun x => x < n ∧ mt x = -1).length + (listOf fun x => x < n ∧ ¬ S x).length : Nat) : Int) := by
  have h01 : ∀ v, rootF J S v = 0 ∨ rootF J S v = 1 := fun v => by have := rootF_in (Aj := J) (S := S) v; omega
  rw [sum_list h01 40]
  have hodd : ∀ v, rootF J S v = 1 → S v ∧ (∀ u, u < v → ¬ Rch J S v u) ∧ pc (bitsOf (Rch J S v) 40) % 2 = 1 := fun v hv => by
    unfold rootF at hv
    split at hv
    · rename_i h; exact ⟨h.1, h.2, by omega⟩
    · cases hv
  have hex : ∀ v, rootF J S v = 1 → ∃ z x : Nat, Rch J S v x ∧ ((mt x = -1 ∧ z = x) ∨ (mt x = (z : Int) ∧ ¬ S z)) := fun v hv => by
    apply byContradiction
    intro hno
    obtain ⟨_, _, h3⟩ := hodd v hv
    rw [pc_list] at h3
    have := even_paired hm hJi (listOf_nodup (Rch J S v)) (fun x hx => hS x (listOf_mem.1 hx).2.mem) (fun x hx => by
      have hr := (listOf_mem.1 hx).2
      rcases hm.rng (hS x hr.mem) with e | ⟨y, hy, e⟩
      · exact absurd ⟨x, x, hr, .inl ⟨e, rfl⟩⟩ hno
      · refine ⟨y, e, listOf_mem.2 ⟨by omega, ?_⟩⟩
        by_cases hSy : S y
        · exact hr.step (hm.adj (hS x hr.mem) e) hSy
        · exact absurd ⟨y, x, hr, .inr ⟨e, hSy⟩⟩ hno)
    omega
  let g : Nat → Nat := fun v => if h : rootF J S v = 1 then Classical.choose (hex v h) else 0
  have hg : ∀ v, rootF J S v = 1 → ∃ x : Nat, Rch J S v x ∧ ((mt x = -1 ∧ g v = x) ∨ (mt x = (g v : Int) ∧ ¬ S (g v))) := fun v hv => by
    have := Classical.choose_spec (hex v hv)
    simp only [g, dif_pos hv]; exact this
  have hle := inj_le (g := g) (l := (List.range 40).filter fun x => decide (rootF J S x = 1)) (s := (listOf fun x => x < n ∧ mt x = -1) ++ listOf fun x => x < n ∧ ¬ S x) (List.nodup_range.filter _) (fun v hv => by
    simp only [List.mem_filter, List.mem_range, decide_eq_true_eq] at hv
    obtain ⟨x, hr, h | h⟩ := hg v hv.2
    · have := hS x hr.mem
      exact List.mem_append.2 (.inl (listOf_mem.2 ⟨by omega, by omega, by rw [h.2]; exact h.1⟩))
    · have := hm.lt (hS x hr.mem) h.1
      exact List.mem_append.2 (.inr (listOf_mem.2 ⟨by omega, by omega, h.2⟩))) (fun v hv u hu e => by
    simp only [List.mem_filter, List.mem_range, decide_eq_true_eq] at hv hu
    obtain ⟨x, hr, h⟩ := hg v hv.2
    obtain ⟨y, hr2, h2⟩ := hg u hu.2
    have same : x = y → v = u := fun e => by
      subst e
      obtain ⟨_, b1, _⟩ := hodd v hv.2
      obtain ⟨_, b2, _⟩ := hodd u hu.2
      have r1 := hr.trans (hr2.symm hsy)
      rcases Nat.lt_trichotomy v u with c | c | c
      · exact absurd (r1.symm hsy) (b2 v c)
      · exact c
      · exact absurd r1 (b1 u c)
    rcases h with h | h
    · rcases h2 with h2 | h2
      · exact same (by rw [← h.2, ← h2.2, e])
      · exact absurd hr.mem (by rw [← h.2, e]; exact h2.2)
    · rcases h2 with h2 | h2
      · exact absurd hr2.mem (by rw [← h2.2, ← e]; exact h.2)
      · have hx := hS x hr.mem
        have hy := hS y hr2.mem
        rw [← e] at h2
        exact same (hm.inj hx hy h.1 h2.1))
  rw [List.length_append] at hle
  exact_mod_cast hle
theorem berge_strong {D A : Nat → Prop} {cl : Nat → Nat} (hm : Mt n J mt) (hJi : ∀ x, ¬ J x x) (hsy : ∀ x y, J x y → J y x) (hn : n ≤ 40) (h : Dn n J mt D A cl) (hall : ∀ x, x < n → mt x = -1 → D x) :
    (((listOf fun x => x < n ∧ mt x = -1).length + (listOf A).length : Nat) : Int) ≤ sumN 40 (rootF J fun r => r < n ∧ ¬ A r) := by
  have h01 : ∀ v, rootF J (fun r => r < n ∧ ¬ A r) v = 0 ∨ rootF J (fun r => r < n ∧ ¬ A r) v = 1 := fun v => by have := rootF_in (Aj := J) (S := fun r => r < n ∧ ¬ A r) v; omega
  rw [sum_list h01 40]
  obtain ⟨S, hS⟩ : ∃ S : Nat → Prop, S = fun r => r < n ∧ ¬ A r := ⟨_, rfl⟩
  rw [← hS]
  have hSD : ∀ x, D x → S x := fun x hx => by rw [hS]; exact ⟨h.dlt hx, h.dis hx⟩
  have hSn : ∀ x, S x → x < n ∧ ¬ A x := fun x hx => by rw [hS] at hx; exact hx
  -- the part of a base
  have part : ∀ {b x : Nat}, D b → cl b = b → (Rch J S b x ↔ D x ∧ cl x = b) := fun {b x} hb hc => by
    constructor
    · intro hr
      induction hr with
      | start _ => exact ⟨hb, hc⟩
      | step _ hJ hSr ih =>
        obtain ⟨i1, i2⟩ := ih
        rcases h.clo i1 hJ (hSn _ hSr).1 with g | g
        · exact ⟨g.1, by rw [g.2, i2]⟩
        · exact absurd g (hSn _ hSr).2
    · rintro ⟨hx, e⟩
      refine h.con hx (Rch J S b) (by rw [e]; exact .start (hSD _ hb)) (fun y z hy hz e1 e2 hJ hr => hr.step hJ (hSD _ hz))
  -- which is odd
  have oddP : ∀ {b : Nat}, D b → cl b = b → ∀ u, Rch J S b u → pc (bitsOf (Rch J S u) 40) % 2 = 1 := fun {b} hb hc u hu => by
    rw [pc_list]
    have hmem : ∀ x, x ∈ listOf (Rch J S u) ↔ D x ∧ cl x = b := fun x => by
      rw [listOf_mem]
      constructor
      · intro hx; exact (part hb hc).1 (hu.trans hx.2)
      · intro hx; exact ⟨by have := h.dlt hx.1; omega, (hu.symm hsy).trans ((part hb hc).2 hx)⟩
    have hbm := (hmem b).2 ⟨hb, hc⟩
    have hnd := listOf_nodup (Rch J S u)
    have hlen := List.length_erase_of_mem hbm
    have hpos := List.length_pos_of_mem hbm
    have := even_paired hm hJi (hnd.erase b) (fun x hx => by
      rw [hnd.mem_erase_iff] at hx
      exact h.dlt ((hmem x).1 hx.2).1) (fun x hx => by
      rw [hnd.mem_erase_iff] at hx
      obtain ⟨x1, x2⟩ := (hmem x).1 hx.2
      obtain ⟨y, y1, y2, y3⟩ := h.inn x1 (by rw [x2]; exact hx.1)
      refine ⟨y, y1, ?_⟩
      rw [hnd.mem_erase_iff, hmem]
      refine ⟨fun e => ?_, y2, by rw [y3, x2]⟩
      -- the mate of the base is no point of D
      subst e
      have e2 := hm.sym (h.dlt x1) y1
      rcases h.bas hb hc.symm with g | ⟨z, g1, g2⟩
      · omega
      · have : z = x := by omega
        subst this; exact h.dis x1 g2)
    omega
  -- free points and mates of A are bases
  have hfree : ∀ x, x < n → mt x = -1 → D x ∧ cl x = x := fun x hx e => by
    refine ⟨hall x hx e, ?_⟩
    apply byContradiction
    intro hne
    obtain ⟨y, y1, _⟩ := h.inn (hall x hx e) (fun e => hne e.symm)
    omega
  have hmate : ∀ y, A y → ∃ x : Nat, mt y = (x : Int) ∧ D x ∧ cl x = x := fun y hy => by
    obtain ⟨x, x1, x2⟩ := h.mA hy
    refine ⟨x, x1, x2, ?_⟩
    apply byContradiction
    intro hne
    obtain ⟨z, z1, z2, _⟩ := h.inn x2 (fun e => hne e.symm)
    have e2 := hm.sym (h.alt hy) x1
    have : z = y := by omega
    subst this; exact h.dis z2 hy
  have le1 := inj_le (g := fun x => if A x then (mt x).toNat else x) (l := (listOf fun x => x < n ∧ mt x = -1) ++ listOf A) (s := listOf fun b => D b ∧ cl b = b) (List.nodup_append.2 ⟨listOf_nodup _, listOf_nodup _, fun x hx y hy e => by
      subst e
      have hy := (listOf_mem.1 hy).2
      have hx := (listOf_mem.1 hx).2
      exact h.dis (hall x hx.1 hx.2) hy⟩) (fun x hx => by
      rcases List.mem_append.1 hx with hx | hx
      · obtain ⟨_, x1, x2⟩ := listOf_mem.1 hx
        have := hfree x x1 x2
        rw [if_neg (h.dis this.1)]
        exact listOf_mem.2 ⟨by omega, this⟩
      · obtain ⟨_, x1⟩ := listOf_mem.1 hx
        obtain ⟨y, y1, y2⟩ := hmate x x1
        rw [if_pos x1, y1]
        exact listOf_mem.2 ⟨by have := h.dlt y2.1; simp only [Int.toNat_natCast]; omega, by simpa using y2⟩) (fun x hx y hy e => by
      have cs : ∀ x, x ∈ (listOf fun x => x < n ∧ mt x = -1) ++ listOf A → (¬ A x ∧ x < n ∧ mt x = -1) ∨ (A x ∧ ∃ z : Nat, mt x = (z : Int)) := fun x hx => by
        rcases List.mem_append.1 hx with hx | hx
        · obtain ⟨_, x1, x2⟩ := listOf_mem.1 hx
          exact .inl ⟨h.dis (hfree x x1 x2).1, x1, x2⟩
        · obtain ⟨_, x1⟩ := listOf_mem.1 hx
          obtain ⟨y, y1, y2⟩ := hmate x x1
          exact .inr ⟨x1, y, y1⟩
      rcases cs x hx with ⟨a1, a2, a3⟩ | ⟨a1, z, a2⟩
      · rw [if_neg a1] at e
        rcases cs y hy with ⟨b1, b2, b3⟩ | ⟨b1, z, b2⟩
        · rw [if_neg b1] at e; exact e
        · rw [if_pos b1, b2, Int.toNat_natCast] at e
          have := hm.sym (h.alt b1) b2
          rw [← e] at this; omega
      · rw [if_pos a1, a2, Int.toNat_natCast] at e
        rcases cs y hy with ⟨b1, b2, b3⟩ | ⟨b1, z2, b2⟩
        · rw [if_neg b1] at e
          have := hm.sym (h.alt a1) a2
          rw [e] at this; omega
        · rw [if_pos b1, b2, Int.toNat_natCast] at e
          rw [← e] at b2
          exact hm.inj (h.alt a1) (h.alt b1) a2 b2)
  have hroot : ∀ b, D b ∧ cl b = b → ∃ u, Rch J S b u ∧ ∀ v, v < u → ¬ Rch J S u v := fun b hb => by
    have ex : ∃ u, Rch J S b u := ⟨b, .start (hSD _ hb.1)⟩
    have least : ∀ k, (∃ u, u ≤ k ∧ Rch J S b u) → ∃ u, Rch J S b u ∧ ∀ v, v < u → ¬ Rch J S b v := fun k => by
      induction k with
      | zero => rintro ⟨u, hu, hr⟩; exact ⟨u, hr, fun v hv => by omega⟩
      | succ k ih =>
        rintro ⟨u, hu, hr⟩
        by_cases hk : ∃ u, u ≤ k ∧ Rch J S b u
        · exact ih hk
        · exact ⟨u, hr, fun v hv h2 => hk ⟨v, by omega, h2⟩⟩
    obtain ⟨u, hr, hl⟩ := least b ⟨b, Nat.le_refl _, .start (hSD _ hb.1)⟩
    exact ⟨u, hr, fun v hv h2 => hl v hv (hr.trans h2)⟩
  let g : Nat → Nat := fun b => if h : D b ∧ cl b = b then Classical.choose (hroot b h) else 0
  have hg : ∀ b, D b ∧ cl b = b → Rch J S b (g b) ∧ ∀ v, v < g b → ¬ Rch J S (g b) v := fun b hb => by
    have := Classical.choose_spec (hroot b hb)
    simp only [g, dif_pos hb]; exact this
  have le2 := inj_le (g := g) (l := listOf fun b => D b ∧ cl b = b) (s := (List.range 40).filter fun x => decide (rootF J S x = 1)) (listOf_nodup _) (fun b hb => by
      obtain ⟨_, hb⟩ := listOf_mem.1 hb
      obtain ⟨g1, g2⟩ := hg b hb
      have hn1 := (hSn _ g1.mem).1
      simp only [List.mem_filter, List.mem_range, decide_eq_true_eq]
      refine ⟨by omega, ?_⟩
      unfold rootF
      rw [if_pos ⟨g1.mem, g2⟩, oddP hb.1 hb.2 _ g1]; rfl) (fun a ha b hb e => by
      obtain ⟨_, ha⟩ := listOf_mem.1 ha
      obtain ⟨_, hb⟩ := listOf_mem.1 hb
      obtain ⟨g1, _⟩ := hg a ha
      obtain ⟨g2, _⟩ := hg b hb
      rw [← e] at g2
      have k1 := ((part ha.1 ha.2).1 g1).2
      have k2 := ((part hb.1 hb.2).1 g2).2
      rw [← k1, ← k2])
  rw [List.length_append] at le1
  exact_mod_cast Nat.le_trans le1 le2
end Go.Proofs.YtdpnplanohgecaaDoor

open Go Go.Eng
namespace Go.Proofs.YtdpnplanohgecaaDoor
attribute [local congr] undef_congr WpK.congr WpS.congr WpL.congr WpC.congr WpF.congr gotS.congr callS.congr nextS.congr wantS.congr condS.congr
attribute [local irreducible] WpK
attribute [local simp] WpDr_nil WpDr_cons atS_some dwantS_true dwantS_false kindS_light kindS_float kindS_heavy lightS_value floatS_some heavyS_value heavyS_skip heavyS_enter dcallS_some doneS_eq
  isLight isFloat isPlain dLook testBit_dec dChain dLights_nil dLights_skip dLights_one dLight_nil dLight_cons dFreshes_nil dFreshes_one oneF_none oneF_some dFresh_nil dFresh_cons oneL_some oneW_true oneW_false sameV_value dPut dMay valEq arrEq listEq List.getElem?_cons Tr.get_nil dEnd
attribute [local simp] WpS_nil WpS_cons isDefer undef_false wantS_true wantS_false nextS_value nextS_skip nextS_enter callS_some gotS_some aWanted aOp aEvalF aEval opMove opAssign opPick aVal flat flat1 AAct.put opBinOp opConvert opIndex Tr.get_set Tr.get_lay aBin aResults tupled
  aCall aVals aCallB blt_dec ble_dec beq_dec aBinI_add aBinI_sub aBinI_lss aBinI_leq aBinI_gtr aBinI_geq aBinI_eql aBinI_neq index_str len_str len_slice Nat.beq_refl Nat.beq_refl
  opBox opLoad opFieldAddr opIndexAddr acells aAddr opExtract aExtract opUnOp opAlloc opStore opMakeInterface opNilCheck opBuild aParts opBuildSlice aValW
attribute [local simp] und2 und3 und4 und5 und9 und12 field13_0 field13_1 und21 und22 field23_0 field23_1 field24_0 field24_1 field25_0 field25_1 und28 und31 field34_0 field34_1 field34_2 field35_0 field35_1 field35_2 und46 field50_0 field50_1 field50_2 und55 und56 und58 und61 und62 und73 und75 und90 und94 und95 und96 field97_0 field97_1 field97_2 field97_3 field97_4 field97_5 field97_6 field98_0 field98_1 field98_2 field98_3 field98_4 field98_5 field98_6 und99 und106 field107_0 field107_1 field108_0 field108_1 und119 und122 field124_0 field124_1 field124_2 field125_0 field125_1 field125_2 field131_0 field131_1 field132_0 field132_1 und133 field134_0 field134_1 field135_0 field135_1 und148 und156 und160
set_option maxHeartbeats 4000000
set_option linter.unusedSimpArgs false
set_option linter.unusedVariables false
theorem all_wp {W : AW} {pw n : Nat} {J : List Nat} (hVw : Var W pw 108 (.int .i64 (n : Int) :: J.map setV)) (hn : n ≤ 40) :
    WpF T0 63 [.pointer (some ⟨pw, 0, none⟩)] W (fun u W' => W' = W ∧ u = .int .u64 ((2 ^ n - 1 : Nat) : Int)) := by
  have l0 := hVw.load1 (T := T0) und3 rfl (j := 0) (v := .int .i64 (n : Int)) rfl
  refine wpF fun63 rfl ?_
  try simp only [wpK_assoc]
  refine wpK_reg (fun R hR => by simp []; exact hR) ?_
  have hb := below_wp n (by omega) W
  generalize 2 ^ n - 1 = m at hb ⊢
  try simp only [wpK_assoc]
  refine wpK_reg (fun R hR => by
    simp [l0, aEnter, fun75, short_other, aCallV]; rw [callS_none]
    refine hb.mono ?_
    rintro _ W9 ⟨e9, rfl⟩; subst W9
    simp; exact hR) ?_
  exact wpK_ret ⟨.inr rfl, rfl, [.int .u64 (m : Int)], by simp, rfl, rfl⟩
open Classical in
theorem isBarrier_ok {W : AW} {v sv : Value} {n : Nat} {es : List Edge} {s : List Int} (h : PairR W v es) (hl : es.length < 4611686018427387904) (hg : GraphOk (n : Int) es) (hn12 : n ≤ 11) (hs : IntN W sv s) (hsl : s.length < 4611686018427387904) (hT : tabsIn T0 T0.tabs W = true) (hN0 : 0 < W.next) (k : Int) :
    WpF T0 22 [.agg ⟨[.int .i64 (n : Int), v]⟩, sv, .int .i64 k] W (fun u W' => Ext W W' ∧ ∃ b, u = .bool b ∧ (b = true ↔ BarIs n es s k)) := by
  refine wpF fun22 rfl ?_
  obtain ⟨W1, hW1, hE1, hV⟩ : ∃ W1, W1 = W.newCells 25 [.int .i64 (n : Int), v] ∧ Ext W W1 ∧ Var W1 W.next 25 [.int .i64 (n : Int), v] := ⟨_, rfl, .newCells _ _ _, Var.new _ _ _⟩
  have hl1 := load25 hV
  obtain ⟨A, c, hv⟩ := hs.len
  have ls : ∀ W', aLen T0 W' 31 sv = some (.int .i64 (s.length : Int)) := fun W' => by rw [hv]; exact len_slice und31 _ _ _
  try simp only [wpK_assoc]
  refine wpK_reg (fun R hR => by simp [← hW1]; exact hR) ?_
  try simp only [wpK_assoc]
  refine wpK_x1 (fun R hR => by
      simp [hl1, opExtract, aExtract, aEnter, fun54, short_other, aCallV]; rw [callS_none]
      refine (lay_ok (h.ext hE1) hl hg).mono ?_
      rintro _ W2 ⟨hE2, pw, hpw, rfl, hWeb⟩
      simp [hl1, opExtract, aExtract]; exact hR pw W2 (And.intro hE2 hWeb)) ?_
  rintro pw W2 ⟨hE2, hWeb⟩
  obtain ⟨J, hJ, hVw⟩ := hWeb
  have hE12 := hE1.trans hE2
  have l0 : ∀ W', Ext W2 W' → aLoadVar T0 W' 3 W.next 0 = some (.int .i64 (n : Int)) := fun W' hE => ((hV.ext hE2).ext hE).load1 (T := T0) und3 rfl (j := 0) (v := .int .i64 (n : Int)) rfl
  have e22 : Ext W2 W2 := .refl _ _
  try simp only [wpK_assoc]
  refine wpK_reg (fun R hR => by simp []; exact hR) ?_
  try simp only [wpK_assoc]
  first | refine wpK_onF (by simp []) ?_ | refine wpK_out (by simp []) ?_ | refine wpK_condF (by simp []) ?_ | refine wpK_endF (by simp []) (wpK_skip ?_) | refine wpK_endF (by simp []) ?_
  have hri := smallRising_wp (n : Int) (hs.ext hE12) (by omega) hsl
  by_cases hr : RisTo (n : Int) s s.length
  case neg =>
    try simp only [wpK_assoc]
    refine wpK_reg (fun R hR => by
      simp [l0, e22, aEnter, fun61, short_other, aCallV]; rw [callS_none]
      refine hri.mono ?_
      rintro _ W9 ⟨e9, hh⟩; subst W9
      rcases hh with ⟨hh, _⟩ | ⟨_, rfl⟩
      · exact absurd hh hr
      simp [opExtract, aExtract]; exact hR) ?_
    try simp only [wpK_assoc]
    refine wpK_reg (fun R hR => by simp []; exact hR) ?_
    try simp only [wpK_assoc]
    first | refine wpK_onT (by simp []) ?_ | refine wpK_outT (by simp []) ?_ | refine wpK_condT (by simp []) ?_ | refine wpK_endT (by simp []) ?_
    try simp only [wpK_assoc]
    refine wpK_reg (fun R hR => by simp []; exact hR) ?_
    exact wpK_ret ⟨.inr rfl, rfl, [.bool false], by simp, hE12, false, rfl, ⟨fun hh => (by cases hh), fun hh => absurd hh.1 hr⟩⟩
  try simp only [wpK_assoc]
  refine wpK_x1 (P := fun (Sb : Nat) W' => W' = W2 ∧ Sb < 1099511627776 ∧ SetIs Sb s s.length) (fun R hR => by
    simp [l0, e22, aEnter, fun61, short_other, aCallV]; rw [callS_none]
    refine hri.mono ?_
    rintro _ W9 ⟨e9, hh⟩
    rcases hh with ⟨_, Sb, h1, h2, rfl⟩ | ⟨hh, _⟩
    · simp [opExtract, aExtract]; exact hR Sb W9 (And.intro e9 (And.intro h1 h2))
    · exact absurd hr hh) ?_
  rintro Sb W9 ⟨e9, hSb, hSet⟩
  subst W9
  try simp only [wpK_assoc]
  refine wpK_reg (fun R hR => by simp []; exact hR) ?_
  try simp only [wpK_assoc]
  first | refine wpK_onF (by simp []) ?_ | refine wpK_out (by simp []) ?_ | refine wpK_condF (by simp []) ?_ | refine wpK_endF (by simp []) (wpK_skip ?_) | refine wpK_endF (by simp []) ?_
  obtain ⟨hsn, cc, hcc⟩ := bar_facts (es := es) (by omega) hr
  have hal := all_wp hVw (by omega)
  have hfull : 2 ^ n - 1 < 4096 := by
    have : 2 ^ n ≤ 2 ^ 12 := Nat.pow_le_pow_right (by omega) (by omega)
    omega
  obtain ⟨s', n1, n2, n3⟩ := aBinI_andNot .u64 (2 ^ n - 1) Sb (by show 2 ^ n - 1 < 18446744073709551616; omega) (by show Sb < 18446744073709551616; omega)
  have hbits : (fun r => s'.testBit r = true) = Sof n s := funext fun r => propext (by
    rw [n3 r, full_bit, Bool.and_eq_true, decide_eq_true_iff, Bool.not_eq_true']
    constructor
    · rintro ⟨h1, h2⟩
      refine ⟨h1, fun i hi e => ?_⟩
      have := (hSet r).2 ⟨i, hi, e⟩
      rw [h2] at this; cases this
    · rintro ⟨h1, h2⟩
      refine ⟨h1, ?_⟩
      cases hb : Sb.testBit r with
      | false => rfl
      | true => obtain ⟨i, hi, e⟩ := (hSet r).1 hb; exact absurd e (h2 i hi))
  have hod := odd_wp (s := s') hJ hVw (by omega) (tabs_ext hT hN0 hE12) (by have := hE12.1; omega)
  rw [hbits] at hod
  have hoi := sumF_in (Aj := AjE es) (S := Sof n s) 40
  have hBar : BarIs n es s k ↔ k = (s.length : Int) + cc := ⟨fun hh => by have := hh.2; omega, fun hh => ⟨hr, by omega⟩⟩
  generalize sumN 40 (rootF (AjE es) (Sof n s)) = od at hod hcc hoi
  generalize 2 ^ n - 1 = fl at hal n2 hfull
  try simp only [wpK_assoc]
  refine wpK_x0 (P := fun W' => Ext W2 W') (fun R hR => by
    simp [aEnter, fun63, short_other, aCallV]; rw [callS_none]
    refine hal.mono ?_
    rintro _ W9 ⟨e9, rfl⟩; subst W9
    simp [n2, aEnter, fun62, short_other, aCallV]; rw [callS_none]
    refine hod.mono ?_
    rintro _ W3 ⟨hE3, rfl⟩
    simp; exact hR W3 hE3) ?_
  rintro W3 hE3
  have a1 : IntKind.i64.wrap ((n : Int) + (s.length : Int)) = (n : Int) + s.length := i64_in (by omega)
  have a2 : IntKind.i64.wrap ((n : Int) + (s.length : Int) - od) = 2 * ((s.length : Int) + cc) := by rw [show (n : Int) + (s.length : Int) - od = 2 * ((s.length : Int) + cc) from by omega]; exact i64_in (by omega)
  have hdiv : aBinI .quo .i64 (2 * ((s.length : Int) + cc)) .i64 2 = some (.int .i64 ((s.length : Int) + cc)) := by
    rw [aBinI_quo .i64 _ _ (by omega), Int.mul_comm, Int.mul_tdiv_cancel _ (by omega), i64_in (by omega)]
  generalize 2 * ((s.length : Int) + cc) = dd at a2 hdiv
  generalize (s.length : Int) + cc = qq at hdiv hBar
  try simp only [wpK_assoc]
  refine wpK_reg (fun R hR => by simp [l0, hE3, ls, a1, a2, hdiv]; exact hR) ?_
  exact wpK_ret ⟨.inr rfl, rfl, [.bool (decide (k = qq))], by simp, hE12.trans hE3, decide (k = qq), rfl, by rw [decide_eq_true_iff]; exact hBar.symm⟩
def sumT (ls : List Nat) (k : Nat) : Int := sumN k (fun i => ((ls.getD i 0 % 2 : Nat) : Int))
theorem build24_0 (P : Int) : aBuild T0 24 [(0, .int .i64 P)] = some (.agg ⟨[.int .i64 P, .slice none 0 0]⟩) := by kernel_rfl
theorem bs22 (W : AW) (a b : Int) : aBuildSlice T0 W 22 1 [(0, pr a b)] = some (.slice (some ⟨W.next, 0, none⟩) 1 2, W.newCells 55 [.int .i64 a, .int .i64 b]) := by kernel_rfl
theorem good_app {P : Int} {xs : List Edge} (h : GoodTo P xs xs.length) {a b : Int} (h1 : 0 ≤ a ∧ a < P ∧ 0 ≤ b ∧ b < P ∧ a ≠ b) (h2 : ¬ Jn xs a b) : GoodTo P (xs ++ [(a, b)]) (xs ++ [(a, b)]).length := fun i hi x y hx => by
  simp at hi
  have hold : ∀ j, j < xs.length → (xs ++ [(a, b)])[j]? = xs[j]? := fun j hj => List.getElem?_append_left hj
  by_cases e : i = xs.length
  · subst e
    rw [List.getElem?_append_right (Nat.le_refl _), Nat.sub_self] at hx
    cases hx
    exact ⟨h1.1, h1.2.1, h1.2.2.1, h1.2.2.2.1, h1.2.2.2.2, fun j hj => by
      rw [hold j hj]
      exact ⟨fun e => h2 ⟨j, .inl e⟩, fun e => h2 ⟨j, .inr e⟩⟩⟩
  · rw [hold i (by omega)] at hx
    obtain ⟨g1, g2, g3, g4, g5, g6⟩ := h i (by omega) x y hx
    exact ⟨g1, g2, g3, g4, g5, fun j hj => by rw [hold j (by omega)]; exact g6 j hj⟩

theorem natsN_row {W : AW} {v : Value} {ps : List Nat} {K : Nat → Prop} (h : GrowsN W v ps.length (natsV ps) 3 1 K) : IntN W v (ps.map Int.ofNat) := natsV_row h
theorem bs31e (W : AW) : aBuildSlice T0 W 31 0 [] = some (.slice (some ⟨W.next, 0, none⟩) 0 0, W.newCells 3 []) := by kernel_rfl
theorem newCells_at (W : AW) (el : TypeId) (l : List Value) (n : Nat) (hn : l.length = n) : (W.newCells el l).cellsAt W.next 0 n = some l := by
  subst hn
  rw [(Var.new W el l).cellsAt 0 l.length (by omega)]; simp
theorem clone_app31 {W : AW} {v : Value} {l : List Int} (h : IntN W v l) (h0 : 0 < l.length) (hl : l.length ≤ 1000) :
    aAppend T0 (W.newCells 3 []) [31, 31] [.slice (some ⟨W.next, 0, none⟩) 0 0, v] = some (.slice (some ⟨W.next + 1, 0, none⟩) l.length 3, (W.newCells 3 []).newCells 3 (flatE (encI .i64) l)) := by
  have h' := h.ext (Only.newCells W 3 [])
  have hsrc := h'.src encI_len (by omega)
  have hone := oneCells_flatE (enc := encI .i64) encI_one l
  have hfl := flatE_len (enc := encI .i64) (sz := 1) encI_len l
  have hz : Nat.beq l.length 0 = false := by
    cases hb : Nat.beq l.length 0 with
    | false => rfl
    | true => have := Nat.eq_of_beq_eq_true hb; omega
  have hold : (W.newCells 3 []).cellsAt W.next 0 (0 * 1) = some [] := newCells_at W 3 [] 0 rfl
  have hhead : aAppend T0 (W.newCells 3 []) [31, 31] [.slice (some ⟨W.next, 0, none⟩) 0 0, v] = aApp1 (W.newCells 3 []) 3 1 Tryd.t3.bytes l.length (flatE (encI .i64) l) (.slice (some ⟨W.next, 0, none⟩) 0 0) := by
    simp only [aAppend, und31, inf3, is3, z3, notInt, hsrc, acells, List.length_cons, List.length_nil, Nat.beq_refl, hfl, hone, hz]
  rw [hhead]
  have e1 : (2 * l.length) * Tryd.t3.bytes ≤ 281474976710656 := by rw [by3]; omega
  have e2 : l.length ≤ 4611686018427387904 := by omega
  have e3 : Nat.beq (0 % 2) 0 = true := rfl
  have e4 : ¬ (l.length ≤ 0 / 2) := by omega
  simp only [aApp1, ble_dec, e1, e2, decide_true, e3, e4, decide_false, hold, List.nil_append, Nat.zero_add]
  rfl
theorem flatE_int (l : List Int) : flatE (encI .i64) l = vI l := by
  simp only [flatE, vI]
  induction l with
  | nil => rfl
  | cons x l ih => simp only [List.flatMap_cons, List.map_cons, ih]; rfl
theorem row_var {W : AW} {p n c : Nat} {l : List Int} (h : Var W p 3 (vI l)) (hn : l.length = n) (h0 : 0 < n) : IntN W (.slice (some ⟨p, 0, none⟩) n c) l := by
  refine ⟨some ⟨p, 0, none⟩, c, by rw [hn], fun e => by omega, fun i a hi => ⟨p, 0, rfl, fun j u hu => ?_⟩⟩
  have hj : j = 0 := by
    cases j with
    | zero => rfl
    | succ j => simp [encI] at hu
  subst hj
  have : u = .int .i64 a := by simpa [encI] using hu.symm
  subst this
  rw [Nat.zero_add, Nat.mul_one, Nat.add_zero]
  exact h.has (by simp [vI, hi])
theorem clone_wp {W : AW} {b o c n : Nat} {l : List Int} (h : IntN W (.slice (some ⟨b, o, none⟩) n c) l) (hn : l.length = n) (h0 : 0 < n) (hl : n ≤ 1000) :
    WpF T0 55 [.slice (some ⟨b, o, none⟩) n c] W (fun u W' => Ext W W' ∧ IntN W' u l) := by
  subst hn
  refine wpF fun55 rfl ?_
  try simp only [wpK_assoc]
  refine wpK_reg (fun R hR => by simp []; exact hR) ?_
  try simp only [wpK_assoc]
  refine wpK_reg (fun R hR => by simp [aGuard, aBinO, notnil31]; exact hR) ?_
  try simp only [wpK_assoc]
  first | refine wpK_onF (by simp []) ?_ | refine wpK_out (by simp []) ?_ | refine wpK_condF (by simp []) ?_ | refine wpK_endF (by simp []) (wpK_skip ?_) | refine wpK_endF (by simp []) ?_
  have ha := clone_app31 h h0 hl
  have hb := bs31e W
  try simp only [wpK_assoc]
  refine wpK_reg (fun R hR => by simp [hb, ha]; exact hR) ?_
  exact wpK_ret ⟨.inr rfl, rfl, [.slice (some ⟨W.next + 1, 0, none⟩) l.length 3], by simp, (Only.newCells _ _ _).trans (Only.newCells _ _ _), row_var (by rw [flatE_int]; exact Var.new _ _ _) rfl h0⟩
def mateL (n : Nat) (mt : Nat → Int) : List Int := (List.range n).map mt
theorem mateL_len (n : Nat) (mt : Nat → Int) : (mateL n mt).length = n := by simp [mateL]
theorem mateL_at {n i : Nat} (mt : Nat → Int) (h : i < n) : gI (mateL n mt) i = mt i := by
  simp [gI, mateL, List.getD_eq_getElem?_getD, List.getElem?_range h]
theorem mate_row {W : AW} {p w n c : Nat} {s : PS} (h : PairAt W p w s) (hn : n ≤ 40) (h0 : 0 < n) : IntN W (.slice (some ⟨p, 1, none⟩) n c) (mateL n s.mt) := by
  refine ⟨some ⟨p, 1, none⟩, c, by rw [mateL_len], fun e => by rw [mateL_len] at e; omega, fun i a hi => ⟨p, 1, rfl, fun j u hu => ?_⟩⟩
  have hj : j = 0 := by
    cases j with
    | zero => rfl
    | succ j => simp [encI] at hu
  subst hj
  have hin : i < n := by have := (List.getElem?_eq_some_iff.1 hi).1; rwa [mateL_len] at this
  have ha : a = s.mt i := by
    simp [mateL, List.getElem?_range hin] at hi; exact hi.symm
  have : u = .int .i64 (s.mt i) := by rw [← ha]; simpa [encI] using hu.symm
  subst this
  rw [Nat.mul_one, Nat.add_zero]
  exact h.has (by rw [psL_at _ _ (by omega), psV_mt _ _ (by omega)])
theorem slice94 (W : AW) (p n : Nat) (hn : n ≤ 40) : aSliceOp T0 W 94 (.pointer (some ⟨p, 1, none⟩)) none (some (.int .i64 (n : Int))) none = some (.slice (some ⟨p, 1, none⟩) n 80) := by
  have hb : aHi (some (.int .i64 (n : Int))) 40 40 = some n := by
    show aBound (.int .i64 (Int.ofNat n)) 40 = some n
    simp only [aBound, ble_dec, hn, decide_true]
  have hsh : shiftTo 1 40 0 1 = 1 := by decide
  simp only [aSliceOp, und94, sz3, hb, aLo, hsh, Nat.sub_zero]
theorem match_ok {W : AW} {v : Value} {n : Nat} {es : List Edge} (h : PairR W v es) (hl : es.length < 4611686018427387904) (hg : GraphOk (n : Int) es) (hT : tabsIn T0 T0.tabs W = true) (hN0 : 0 < W.next) :
    WpF T0 17 [.agg ⟨[.int .i64 (n : Int), v]⟩] W (fun u W' => Ext W W' ∧ ∃ mv s D A cl, u = .tuple ⟨[mv, .int .i64 0]⟩ ∧ IntN W' mv (mateL n s.mt) ∧ Great n (AjE es) s D A cl n) := by
  have hn40 : n ≤ 40 := by have := hg.2.1; omega
  have h1n : 1 ≤ n := by have := hg.1; omega
  have hends : ∀ x z : Nat, AjE es x z → z < n ∧ x ≠ z := fun x z hx => by
    obtain ⟨i, hi | hi⟩ := hx
    · have := hg.2.2.2 i (List.getElem?_eq_some_iff.1 hi).1 _ _ hi
      exact ⟨by omega, by omega⟩
    · have := hg.2.2.2 i (List.getElem?_eq_some_iff.1 hi).1 _ _ hi
      exact ⟨by omega, by omega⟩
  refine wpF fun17 rfl ?_
  obtain ⟨W1, hW1, hE1, hV⟩ : ∃ W1, W1 = W.newCells 25 [.int .i64 (n : Int), v] ∧ Ext W W1 ∧ Var W1 W.next 25 [.int .i64 (n : Int), v] := ⟨_, rfl, .newCells _ _ _, Var.new _ _ _⟩
  have hl1 := load25 hV
  try simp only [wpK_assoc]
  refine wpK_reg (fun R hR => by simp [← hW1]; exact hR) ?_
  try simp only [wpK_assoc]
  refine wpK_x1 (fun R hR => by
      simp [hl1, opExtract, aExtract, aEnter, fun54, short_other, aCallV]; rw [callS_none]
      refine (lay_ok (h.ext hE1) hl hg).mono ?_
      rintro _ W2 ⟨hE2, w, hw, rfl, hWeb⟩
      simp [hl1, opExtract, aExtract]; exact hR w W2 (And.intro hE2 (And.intro hw hWeb))) ?_
  rintro w W2 ⟨hE2, hw, hWeb⟩
  try simp only [wpK_assoc]
  refine wpK_reg (fun R hR => by simp []; exact hR) ?_
  try simp only [wpK_assoc]
  first | refine wpK_onF (by simp []) ?_ | refine wpK_out (by simp []) ?_ | refine wpK_condF (by simp []) ?_ | refine wpK_endF (by simp []) (wpK_skip ?_) | refine wpK_endF (by simp []) ?_
  obtain ⟨Jl, hJ, hVw⟩ := hWeb
  have hE02 := hE1.trans hE2
  have hgw := greatest_wp (J := AjE es) (Jl := Jl) hn40 (fun x hx => (hends x x hx).2 rfl) AjE.symm (fun x z hx => (hends x z hx).1) hJ.1 (fun x z hx => (join_bit hJ (by omega)).2) hVw (tabs_ext hT hN0 hE02) (by have := hE02.1; omega)
  have q2 := (hV.ext hE2).load1 (T := T0) und3 rfl (j := 0) (v := .int .i64 (n : Int)) rfl
  have hV2 := hV.ext hE2
  try simp only [wpK_assoc]
  refine wpK_d2 (wr := Tr.nil |>.set 14 0 |>.set 15 1 |>.set 16 2 |>.set 17 3 |>.set 18 4 |>.set 19 5 |>.set 20 6 |>.set 21 7 |>.set 2 8 |>.set 3 9) (bits := Tr.nil.lay 0 [0, 1, 3, 7, 0, 16, 63, 127, 255, 511]) (ord := [0, 1, 2, 3, 4, 5, 6, 7, 8, 9]) (by kernel_rfl) (by kernel_rfl) (by kernel_rfl) (fun G hG => by
    simp [aEnter, fun56, short_other, aCallV]
    rw [dcallS_none]
    refine hgw.mono ?_
    rintro _ W3 ⟨hE3, p, s, D, A, cl, rfl, hp, hP, hGr⟩
    have q3 := (hV2.ext hE3).load1 (T := T0) und3 rfl (j := 0) (v := .int .i64 (n : Int)) rfl
    simp [hE3.1, q2, q3, opSlice, aOpt, slice94 _ p n hn40, aEnter, fun55, short_other, aCallV]
    rw [dcallS_none]
    refine (clone_wp (mate_row hP hn40 h1n) (mateL_len n s.mt) h1n (by omega)).mono ?_
    rintro mv W4 ⟨hE4, hM⟩
    simp [hE3.1, hE4.1, q2, q3, opSlice, aOpt, slice94 _ p n hn40]
    have hh : Ext W2 W4 ∧ ∃ s D A cl, IntN W4 mv (mateL n s.mt) ∧ Great n (AjE es) s D A cl n := ⟨hE3.trans hE4, s, D, A, cl, hM, hGr⟩
    exact hG p mv W4 hh) ?_
  rintro p mv W4 ⟨hE4, s, D, A, cl, hM, hGr⟩
  exact wpK_ret ⟨.inr rfl, rfl, [mv, .int .i64 0], by simp, hE02.trans hE4, mv, s, D, A, cl, rfl, hM, hGr⟩
open Classical in
theorem tame8_wp {W : AW} {v : Value} (P : Int) {es : List Edge} (h : PairR W v es) (hl : es.length < 9223372036854775808) :
    WpF T0 23 [.agg ⟨[.int .i64 P, v]⟩, .int .i64 8, .int .i64 16] W (fun u W' => Ext W W' ∧ ∃ (n : Nat) (ov : Value) (xs : List Edge), u = .agg ⟨[.int .i64 (n : Int), ov]⟩ ∧ 1 ≤ n ∧ n ≤ 8 ∧ GraphOk (n : Int) xs ∧ xs.length ≤ 16 ∧ PairR W' ov xs) := by
  refine wpF fun23 rfl ?_
  obtain ⟨Av, cv, hvv⟩ := h.len
  obtain ⟨W1, hW1, hE1, hV, hV6, hn1⟩ : ∃ W1, W1 = (W.newCells 24 [.int .i64 P, v]).newCells 24 [.int .i64 0, .slice none 0 0] ∧ Ext W W1 ∧ Var W1 W.next 24 [.int .i64 P, v] ∧ Var W1 (W.next + 1) 24 [.int .i64 0, .slice none 0 0] ∧ W1.next = W.next + 2 :=
    ⟨_, rfl, (Only.newCells _ _ _).trans (Only.newCells _ _ _), (Var.new _ _ _).ext (.newCells _ _ _), Var.new _ _ _, rfl⟩
  have l0 := hV.load1 (T := T0) und3 rfl (j := 0) (v := .int .i64 P) rfl
  obtain ⟨y0, hy0⟩ : ∃ y0 : Nat, IntKind.u64.wrap (IntKind.i64.wrap (P - 1)) = (y0 : Int) := ⟨(IntKind.u64.wrap (IntKind.i64.wrap (P - 1))).toNat, by rw [IntKind.wrap_u64]; omega⟩
  have h7w : IntKind.u64.wrap 8 = 8 := by decide
  have r7 := aBinI_rem .u64 (y0 : Int) (8 : Nat) (by omega)
  rw [ofNat_tmod] at r7
  have hy7 : y0 % 8 < 8 := Nat.mod_lt _ (by omega)
  generalize y0 % 8 = y at r7 hy7
  have r7 : aBinI .rem .u64 (y0 : Int) .u64 8 = some (.int .u64 (y : Int)) := r7
  obtain ⟨n, hn⟩ : ∃ n, n = y + 1 := ⟨_, rfl⟩
  have a1 : IntKind.i64.wrap (y : Int) = (y : Int) := i64_in (by omega)
  have a2 : IntKind.i64.wrap (1 + (y : Int)) = (n : Int) := by rw [i64_in (by omega)]; omega
  obtain ⟨W2, hW2, hE2, hn2, hV7⟩ : ∃ W2, W2 = W1.newCells 24 [.int .i64 0, .slice none 0 0] ∧ Ext W1 W2 ∧ W2.next = W1.next + 1 ∧ Var W2 W1.next 24 [.int .i64 0, .slice none 0 0] := ⟨_, rfl, .newCells _ _ _, rfl, Var.new _ _ _⟩
  obtain ⟨W3, g1, g2, g3, g4⟩ := hV7.store (T := T0) (t := 24) (v := .agg ⟨[.int .i64 (n : Int), .slice none 0 0]⟩) (o := 0) inf24 (by rw [is24]; rfl) (by simp) rfl
  have hV7' : Var W3 W1.next 24 [.int .i64 (n : Int), .slice none 0 0] := by simpa using g4
  have hE13 : Ext W1 W3 := ⟨by omega, fun b hb hk => by rw [g3.2 b (by omega) (by omega), hE2.2 b hb hk]⟩
  try simp only [wpK_assoc]
  refine wpK_reg (fun R hR => by simp [zero24, newCells_next, ← hW1]; exact hR) ?_
  try simp only [wpK_assoc]
  refine wpK_reg (fun R hR => by simp [l0, conv_3_56, conv_56_3, hy0, h7w, r7, a1, a2, build24_0, zero24, ← hW2, g1]; exact hR) ?_
  try simp only [wpK_assoc]
  refine wpK_reg (fun R hR => by simp []; exact hR) ?_
  obtain ⟨p7, hp7⟩ : ∃ p, p = W1.next := ⟨_, rfl⟩
  rw [← hp7] at hV7'
  have hV3 := hV.ext hE13
  have hV63 := hV6.ext hE13
  have hE03 := hE1.trans hE13
  refine wpK_keep (fun tm' => tm'.get 2 = some (.int .i64 16) ∧ tm'.get 3 = some (.pointer (some ⟨W.next, 0, none⟩)) ∧ tm'.get 6 = some (.pointer (some ⟨W.next + 1, 0, none⟩)) ∧ tm'.get 7 = some (.pointer (some ⟨p7, 0, none⟩)) ∧ tm'.get 8 = some (.int .i64 0)) ⟨by simp [hp7], by simp [hp7], by simp [hp7], by simp [hp7], by simp [hp7]⟩ ?_
  rintro tm ⟨h2, h3, h6, h7, h8⟩
  try simp only [wpK_assoc]
  refine wpK_while (I := fun k A' W' => A'.n = 80 ∧ A'.defers = [] ∧ A'.tmps.get 2 = some (.int .i64 16) ∧ A'.tmps.get 3 = some (.pointer (some ⟨W.next, 0, none⟩)) ∧ A'.tmps.get 6 = some (.pointer (some ⟨W.next + 1, 0, none⟩)) ∧ A'.tmps.get 7 = some (.pointer (some ⟨p7, 0, none⟩)) ∧ Ext W1 W' ∧ ∃ (i : Nat) (ov : Value) (xs : List Edge) (K : Nat → Prop), A'.tmps.get 8 = some (.int .i64 (i : Int)) ∧ k = es.length - i ∧ Var W' p7 24 [.int .i64 (n : Int), ov] ∧ GrowsN W' ov xs.length (flatE encP xs) 55 2 K ∧ (∀ b, K b → W1.next < b) ∧ xs.length ≤ 16 ∧ GoodTo (n : Int) xs xs.length)
    (J := fun A' W' => A'.n = 80 ∧ A'.defers = [] ∧ A'.tmps.get 2 = some (.int .i64 16) ∧ A'.tmps.get 3 = some (.pointer (some ⟨W.next, 0, none⟩)) ∧ A'.tmps.get 6 = some (.pointer (some ⟨W.next + 1, 0, none⟩)) ∧ A'.tmps.get 7 = some (.pointer (some ⟨p7, 0, none⟩)) ∧ Ext W1 W' ∧ ∃ (ov : Value) (xs : List Edge) (K : Nat → Prop), Var W' p7 24 [.int .i64 (n : Int), ov] ∧ GrowsN W' ov xs.length (flatE encP xs) 55 2 K ∧ (∀ b, K b → W1.next < b) ∧ xs.length ≤ 16 ∧ GoodTo (n : Int) xs xs.length) (Rt := fun _ _ => False) (k := es.length) ?_ ?_ ?_ ?_
  · exact ⟨rfl, rfl, by simp [h2, h3, h6, h7], by simp [h2, h3, h6, h7], by simp [h2, h3, h6, h7], by simp [h2, h3, h6, h7], hE13, 0, .slice none 0 0, [], fun _ => False, by simp [h8], rfl, hV7', .nil _ _ _ _, fun b hb => hb.elim, by simp, fun i hi => by simp at hi⟩
  · rintro k ⟨tm, n, ds⟩ Wa ⟨hn, hd, h2, h3, h6, h7, hEa, i, ov, xs, K, h8, hk, hVo, hgr, hK, hx12, hgood⟩ Q' hJ' hRt hI
    simp only at hn hd h2 h3 h6 h7
    subst hn; subst hd
    simp only at h8
    have hVa := hV.ext hEa
    have m1 := hVa.load1 (T := T0) und22 rfl (j := 1) (v := v) rfl
    have o0 := hVo.load1 (T := T0) und3 rfl (j := 0) (v := .int .i64 (n : Int)) rfl
    have o1 := hVo.load1 (T := T0) und22 rfl (j := 1) (v := ov) rfl
    have hRo : PairR Wa ov xs := hgr.row encP_len
    obtain ⟨Ao, co, hov⟩ := hRo.len
    have ll : ∀ W', aLen T0 W' 22 v = some (.int .i64 es.length) := fun W' => by rw [hvv]; exact len_slice und22 _ _ _
    have lo : ∀ W', aLen T0 W' 22 ov = some (.int .i64 xs.length) := fun W' => by rw [hov]; exact len_slice und22 _ _ _
    by_cases hlt : i < es.length
    case neg =>
      have hlt' : ¬ (i : Int) < es.length := by omega
      try simp only [wpK_assoc]
      refine wpK_reg (fun R hR => by simp [h2, h3, h7, h8, m1, ll, hlt', undef]; exact hR) ?_
      try simp only [wpK_assoc]
      first | refine wpK_onF (by simp [hlt]) ?_ | refine wpK_out (by simp [hlt]) ?_ | refine wpK_condF (by simp [hlt]) ?_ | refine wpK_endF (by simp [hlt]) (wpK_skip ?_) | refine wpK_endF (by simp [hlt]) ?_
      exact hJ' _ _ ⟨rfl, rfl, by simp [h2, h3, h6, h7], by simp [h2, h3, h6, h7], by simp [h2, h3, h6, h7], by simp [h2, h3, h6, h7], hEa, ov, xs, K, hVo, hgr, hK, hx12, hgood⟩
    have hlt' : (i : Int) < es.length := by omega
    by_cases h12 : xs.length < 16
    case neg =>
      have h12' : ¬ (xs.length : Int) < 16 := by omega
      try simp only [wpK_assoc]
      refine wpK_reg (fun R hR => by simp [h2, h3, h7, h8, m1, o1, ll, lo, hlt', h12']; exact hR) ?_
      try simp only [wpK_assoc]
      first | refine wpK_onF (by simp [hlt, h12]) ?_ | refine wpK_out (by simp [hlt, h12]) ?_ | refine wpK_condF (by simp [hlt, h12]) ?_ | refine wpK_endF (by simp [hlt, h12]) (wpK_skip ?_) | refine wpK_endF (by simp [hlt, h12]) ?_
      exact hJ' _ _ ⟨rfl, rfl, by simp [h2, h3, h6, h7], by simp [h2, h3, h6, h7], by simp [h2, h3, h6, h7], by simp [h2, h3, h6, h7], hEa, ov, xs, K, hVo, hgr, hK, hx12, hgood⟩
    have h12' : (xs.length : Int) < 16 := by omega
    try simp only [wpK_assoc]
    refine wpK_reg (fun R hR => by simp [h2, h3, h7, h8, m1, o1, ll, lo, hlt', h12']; exact hR) ?_
    try simp only [wpK_assoc]
    first | refine wpK_onT (by simp [hlt, h12]) ?_ | refine wpK_outT (by simp [hlt, h12]) ?_ | refine wpK_condT (by simp [hlt, h12]) ?_ | refine wpK_endT (by simp [hlt, h12]) ?_
    obtain ⟨⟨ea, eb⟩, hab⟩ : ∃ e : Edge, es[i] = e := ⟨_, rfl⟩
    have ha : es[i]? = some (ea, eb) := by rw [List.getElem?_eq_getElem hlt, hab]
    have hR := h.ext (hE1.trans hEa)
    obtain ⟨q, o, hx, hh⟩ := hR.at (T := T0) ha und22 sz55 .i64
    have la := load_of und3 rfl (hh 0 (.int .i64 ea) rfl)
    have lb := load_of und3 rfl (hh 1 (.int .i64 eb) rfl)
    rw [Nat.add_zero] at la
    have vv := row_eq hR
    obtain ⟨xa, hxa⟩ : ∃ z : Nat, IntKind.u64.wrap ea = (z : Int) := ⟨(IntKind.u64.wrap ea).toNat, by rw [IntKind.wrap_u64]; omega⟩
    obtain ⟨xb, hxb⟩ : ∃ z : Nat, IntKind.u64.wrap eb = (z : Int) := ⟨(IntKind.u64.wrap eb).toNat, by rw [IntKind.wrap_u64]; omega⟩
    have hwn : IntKind.u64.wrap (n : Int) = (n : Int) := u64_nat (by omega)
    have r1 := aBinI_rem .u64 (xa : Int) (n : Int) (by omega)
    have r2 := aBinI_rem .u64 (xb : Int) (n : Int) (by omega)
    rw [ofNat_tmod] at r1 r2
    have ha' : xa % n < n := Nat.mod_lt _ (by omega)
    have hb' : xb % n < n := Nat.mod_lt _ (by omega)
    generalize xa % n = a at r1 ha'
    generalize xb % n = b at r2 hb'
    have wa : IntKind.i64.wrap (a : Int) = (a : Int) := i64_in (by omega)
    have wb : IntKind.i64.wrap (b : Int) = (b : Int) := i64_in (by omega)
    refine wpK_block ?_
    try simp only [wpK_assoc]
    refine wpK_dn (wr := Tr.nil |>.set 36 0 |>.set 37 1 |>.set 38 2 |>.set 39 3 |>.set 40 4 |>.set 41 5 |>.set 42 6 |>.set 43 7 |>.set 44 8 |>.set 45 9 |>.set 46 10 |>.set 47 11 |>.set 48 12 |>.set 49 13 |>.set 50 14 |>.set 51 15 |>.set 52 16 |>.set 53 17 |>.set 54 18 |>.set 55 19 |>.set 56 20 |>.set 57 21 |>.set 58 22 |>.set 59 23 |>.set 9 24 |>.set 10 25) (bits := Tr.nil.lay 0 [0, 1, 0, 7, 15, 31, 63, 0, 128, 384, 1023, 2047, 0, 4096, 0, 28672, 61440, 126976, 258048, 0, 524288, 1572864, 4190208, 8384512, 4095, 33554431]) (ord := [0, 1, 2, 3, 4, 5, 6, 7, 8, 9, 10, 11, 12, 13, 14, 15, 16, 17, 18, 19, 20, 21, 22, 23, 24, 25]) (by kernel_rfl) (by kernel_rfl) (by kernel_rfl) (fun G hG => by
      simp [h3, h7, h8, m1, hx, ix55_0, ix55_1, la, lb, vv, o0, conv_3_56, conv_56_3, hxa, hxb, hwn, r1, r2, wa, wb]
      exact hG) ?_
    refine wpK_keep (fun tm' => tm'.get 2 = some (.int .i64 16) ∧ tm'.get 3 = some (.pointer (some ⟨W.next, 0, none⟩)) ∧ tm'.get 6 = some (.pointer (some ⟨W.next + 1, 0, none⟩)) ∧ tm'.get 7 = some (.pointer (some ⟨p7, 0, none⟩)) ∧ tm'.get 8 = some (.int .i64 (i : Int)) ∧ tm'.get 9 = some (.int .i64 (a : Int)) ∧ tm'.get 10 = some (.int .i64 (b : Int))) ⟨by simp [h2, h3, h6, h7, h8], by simp [h2, h3, h6, h7, h8], by simp [h2, h3, h6, h7, h8], by simp [h2, h3, h6, h7, h8], by simp [h2, h3, h6, h7, h8], by simp [h2, h3, h6, h7, h8], by simp [h2, h3, h6, h7, h8]⟩ ?_
    rintro tm ⟨h2, h3, h6, h7, h8, h9, h10⟩
    have lw := load24 hVo
    have hjw := refJoined_wp (n : Int) hRo (by omega) (a : Int) (b : Int)
    by_cases hab2 : a = b
    · have hab4 : (a : Int) = (b : Int) := by omega
      try simp only [wpK_assoc]
      refine wpK_reg (fun R hR => by simp [h7, h9, h10, hab4, undef]; exact hR) ?_
      try simp only [wpK_assoc]
      first | refine wpK_onF (by simp []) ?_ | refine wpK_out (by simp []) ?_ | refine wpK_condF (by simp []) ?_ | refine wpK_endF (by simp []) (wpK_skip ?_) | refine wpK_endF (by simp []) ?_
      simp only [leaves_normal, behind_normal]
      refine wpK_keep (fun tm' => tm'.get 2 = some (.int .i64 16) ∧ tm'.get 3 = some (.pointer (some ⟨W.next, 0, none⟩)) ∧ tm'.get 6 = some (.pointer (some ⟨W.next + 1, 0, none⟩)) ∧ tm'.get 7 = some (.pointer (some ⟨p7, 0, none⟩)) ∧ tm'.get 8 = some (.int .i64 (i : Int)) ∧ tm'.get 9 = some (.int .i64 (a : Int)) ∧ tm'.get 10 = some (.int .i64 (b : Int))) ⟨by simp [h2, h3, h6, h7, h8, h9, h10], by simp [h2, h3, h6, h7, h8, h9, h10], by simp [h2, h3, h6, h7, h8, h9, h10], by simp [h2, h3, h6, h7, h8, h9, h10], by simp [h2, h3, h6, h7, h8, h9, h10], by simp [h2, h3, h6, h7, h8, h9, h10], by simp [h2, h3, h6, h7, h8, h9, h10]⟩ ?_
      rintro tm ⟨h2, h3, h6, h7, h8, h9, h10⟩
      try simp only [wpK_assoc]
      refine wpK_reg1 (fun R hR => by simp [h8]; exact hR) ?_
      exact hI (es.length - (i + 1)) _ _ (by omega) ⟨rfl, rfl, by simp [h2, h3, h6, h7], by simp [h2, h3, h6, h7], by simp [h2, h3, h6, h7], by simp [h2, h3, h6, h7], hEa, i + 1, ov, xs, K, by simp [i64_succ i (by omega)], rfl, hVo, hgr, hK, hx12, hgood⟩
    have hab3 : ¬ (a : Int) = (b : Int) := by omega
    have hpn : p7 < Wa.next := hVo.1
    by_cases hj : Jn xs (a : Int) (b : Int)
    · rw [decide_eq_true hj] at hjw
      try simp only [wpK_assoc]
      refine wpK_x0 (P := fun W' => Ext Wa W') (fun R hR => by
        simp [h7, h9, h10, hab3, hab2, lw, aEnter, fun64, short_other, aCallV]; rw [callS_none]
        refine hjw.mono ?_
        rintro _ Wb ⟨hEb, rfl⟩
        simp; exact hR Wb hEb) ?_
      rintro Wb hEb
      try simp only [wpK_assoc]
      first | refine wpK_onF (by simp []) ?_ | refine wpK_out (by simp []) ?_ | refine wpK_condF (by simp []) ?_ | refine wpK_endF (by simp []) (wpK_skip ?_) | refine wpK_endF (by simp []) ?_
      simp only [leaves_normal, behind_normal]
      refine wpK_keep (fun tm' => tm'.get 2 = some (.int .i64 16) ∧ tm'.get 3 = some (.pointer (some ⟨W.next, 0, none⟩)) ∧ tm'.get 6 = some (.pointer (some ⟨W.next + 1, 0, none⟩)) ∧ tm'.get 7 = some (.pointer (some ⟨p7, 0, none⟩)) ∧ tm'.get 8 = some (.int .i64 (i : Int)) ∧ tm'.get 9 = some (.int .i64 (a : Int)) ∧ tm'.get 10 = some (.int .i64 (b : Int))) ⟨by simp [h2, h3, h6, h7, h8, h9, h10], by simp [h2, h3, h6, h7, h8, h9, h10], by simp [h2, h3, h6, h7, h8, h9, h10], by simp [h2, h3, h6, h7, h8, h9, h10], by simp [h2, h3, h6, h7, h8, h9, h10], by simp [h2, h3, h6, h7, h8, h9, h10], by simp [h2, h3, h6, h7, h8, h9, h10]⟩ ?_
      rintro tm ⟨h2, h3, h6, h7, h8, h9, h10⟩
      try simp only [wpK_assoc]
      refine wpK_reg1 (fun R hR => by simp [h8]; exact hR) ?_
      exact hI (es.length - (i + 1)) _ _ (by omega) ⟨rfl, rfl, by simp [h2, h3, h6, h7], by simp [h2, h3, h6, h7], by simp [h2, h3, h6, h7], by simp [h2, h3, h6, h7], hEa.trans hEb, i + 1, ov, xs, K, by simp [i64_succ i (by omega)], rfl, hVo.ext hEb, hgr.only hEb (fun _ _ _ x => x), hK, hx12, hgood⟩
    · rw [decide_eq_false hj] at hjw
      try simp only [wpK_assoc]
      refine wpK_x0 (P := fun W' => Ext Wa W') (fun R hR => by
        simp [h7, h9, h10, hab3, hab2, lw, aEnter, fun64, short_other, aCallV]; rw [callS_none]
        refine hjw.mono ?_
        rintro _ Wb ⟨hEb, rfl⟩
        simp; exact hR Wb hEb) ?_
      rintro Wb hEb
      try simp only [wpK_assoc]
      first | refine wpK_onT (by simp []) ?_ | refine wpK_outT (by simp []) ?_ | refine wpK_condT (by simp []) ?_ | refine wpK_endT (by simp []) ?_
      have hVb := hVo.ext hEb
      have hgb := hgr.only hEb (fun _ _ _ x => x)
      have ob := hVb.load1 (T := T0) und22 rfl (j := 1) (v := ov) rfl
      obtain ⟨v', Wc, Wd, q1, q2, q3, q4, q5, q6, q7⟩ := Var.push (T := T0) (t := 22) (el := 55) (i := Tryd.t55) (it := Tryd.t22) (sz := 2) (by omega) und22 inf55 is55 z55 rfl inf22 is22 hgb hVb (o := 1) (fun hk => by have := hK _ hk; omega) (by simp) (u := [.int .i64 (a : Int), .int .i64 (b : Int)]) rfl rfl (by rw [by55]; omega) (by omega)
      have q1 : aAppend T0 (Wb.newCells 55 [.int .i64 (a : Int), .int .i64 (b : Int)]) [22, 22] [ov, .slice (some ⟨Wb.next, 0, none⟩) 1 2] = some (v', Wc) := q1
      try simp only [wpK_assoc]
      refine wpK_reg (fun R hR => by simp [h7, ob]; exact hR) ?_
      try simp only [wpK_assoc]
      refine wpK_reg1 (fun R hR => by simp [h7, h9, h10, build55, bs22, q1, q2]; exact hR) ?_
      simp only [leaves_normal, behind_normal]
      refine wpK_keep (fun tm' => tm'.get 2 = some (.int .i64 16) ∧ tm'.get 3 = some (.pointer (some ⟨W.next, 0, none⟩)) ∧ tm'.get 6 = some (.pointer (some ⟨W.next + 1, 0, none⟩)) ∧ tm'.get 7 = some (.pointer (some ⟨p7, 0, none⟩)) ∧ tm'.get 8 = some (.int .i64 (i : Int)) ∧ tm'.get 9 = some (.int .i64 (a : Int)) ∧ tm'.get 10 = some (.int .i64 (b : Int))) ⟨by simp [h2, h3, h6, h7, h8, h9, h10], by simp [h2, h3, h6, h7, h8, h9, h10], by simp [h2, h3, h6, h7, h8, h9, h10], by simp [h2, h3, h6, h7, h8, h9, h10], by simp [h2, h3, h6, h7, h8, h9, h10], by simp [h2, h3, h6, h7, h8, h9, h10], by simp [h2, h3, h6, h7, h8, h9, h10]⟩ ?_
      rintro tm ⟨h2, h3, h6, h7, h8, h9, h10⟩
      try simp only [wpK_assoc]
      refine wpK_reg1 (fun R hR => by simp [h8]; exact hR) ?_
      have hl1 : (xs ++ [((a : Int), (b : Int))]).length = xs.length + 1 := by simp
      have hEab := hEa.trans hEb
      have hnb := hEab.1
      refine hI (es.length - (i + 1)) _ _ (by omega) ⟨rfl, rfl, by simp [h2, h3, h6, h7], by simp [h2, h3, h6, h7], by simp [h2, h3, h6, h7], by simp [h2, h3, h6, h7], ⟨by omega, fun c hc hk => ?_⟩, i + 1, v', xs ++ [((a : Int), (b : Int))], fun c => K c ∨ c = Wb.next + 1, by simp [i64_succ i (by omega)], rfl, by simpa using q5, ?_, fun c hc => ?_, by rw [hl1]; omega, good_app hgood ⟨by omega, by omega, by omega, by omega, by omega⟩ hj⟩
      · rw [q7.2 c (by omega) (by rintro (hh | hh); have := hK _ hh; omega; omega)]
        exact hEab.2 c hc hk
      · rw [hl1, flatE_append, flatE_one]; exact q6
      · rcases hc with hc | hc
        · exact hK _ hc
        · omega
  · rintro A' W' hf; exact hf.elim
  · rintro ⟨tm, n, ds⟩ Wz ⟨hn, hd, h2, h3, h6, h7, hEz, ov, xs, K, hVo, hgr, hK, hx12, hgood⟩
    simp only at hn hd h2 h3 h6 h7
    subst hn; subst hd
    have lw := load24 hVo
    have hV6z := hV6.ext hEz
    have hRo : PairR Wz ov xs := hgr.row encP_len
    obtain ⟨Ao, co, hov⟩ := hRo.len
    obtain ⟨Wf, s1, s2, s3, s4⟩ := hV6z.store (T := T0) (t := 24) (v := .agg ⟨[.int .i64 (n : Int), ov]⟩) (o := 0) inf24 (by rw [is24]; rfl) (by simp) (by rw [hov]; rfl)
    have hl3 := load24 (x := .int .i64 (n : Int)) (y := ov) (by simpa using s4)
    try simp only [wpK_assoc]
    refine wpK_reg (fun R hR => by simp [h6, h7, lw, s1]; exact hR) ?_
    have hnz := hEz.1
    exact wpK_ret ⟨.inr rfl, rfl, [.agg ⟨[.int .i64 (n : Int), ov]⟩], by simp [h6, hl3], ⟨by omega, fun c hc hk => by rw [s3.2 c (by omega) (by omega), hEz.2 c (by omega) (fun x => x), hE1.2 c hc hk]⟩, n, ov, xs, rfl, by omega, by omega, ⟨by omega, by omega, by omega, hgood⟩, hx12, (hgr.only s3 (fun c hc hk e => by have := hK _ hk; omega)).row encP_len⟩
end Go.Proofs.YtdpnplanohgecaaDoor
open Go Go.Eng
namespace Go.Proofs.YtdpnplanohgecaaDoor
def membs (n t : Nat) : List Nat := (List.range n).filter t.testBit
def membL (n t : Nat) : List Int := (membs n t).map Int.ofNat
theorem membs_succ (n t : Nat) : membs (n + 1) t = if t.testBit n then membs n t ++ [n] else membs n t := by
  rw [membs, List.range_succ, List.filter_append]
  cases h : t.testBit n <;> simp [membs, h]
theorem membs_mem {n t x : Nat} : x ∈ membs n t ↔ x < n ∧ t.testBit x = true := by simp [membs]
theorem membs_len (n t : Nat) : (membs n t).length ≤ n := Nat.le_trans (List.length_filter_le _ _) (by simp)
theorem membL_len (n t : Nat) : (membL n t).length = (membs n t).length := by simp [membL]
theorem membL_at {n t i : Nat} (h : i < (membs n t).length) : gI (membL n t) i = (((membs n t)[i] : Nat) : Int) := by
  simp [gI, membL, List.getD_eq_getElem?_getD, h]
theorem membL_rises (n t : Nat) : RisTo (n : Int) (membL n t) (membL n t).length := fun q hq => by
  rw [membL_len] at hq
  have h1 := (membs_mem.1 (List.getElem_mem hq)).1
  refine ⟨by rw [membL_at hq]; omega, by rw [membL_at hq]; omega, fun h0 => ?_⟩
  rw [membL_at hq, membL_at (show q - 1 < (membs n t).length by omega)]
  have hp : (membs n t).Pairwise (· < ·) := List.Pairwise.filter _ List.pairwise_lt_range
  have := List.pairwise_iff_getElem.1 hp (q - 1) q (by omega) hq (by omega)
  omega
theorem membL_sof (n t r : Nat) : Sof n (membL n t) r ↔ r < n ∧ ¬ t.testBit r = true := by
  constructor
  · rintro ⟨h1, h2⟩
    refine ⟨h1, fun hb => ?_⟩
    obtain ⟨i, hi, e⟩ := List.getElem_of_mem (membs_mem.2 ⟨h1, hb⟩)
    exact h2 i (by rw [membL_len]; exact hi) (by rw [membL_at hi, e])
  · rintro ⟨h1, h2⟩
    refine ⟨h1, fun i hi e => ?_⟩
    rw [membL_len] at hi
    rw [membL_at hi] at e
    have : (membs n t)[i] = r := by omega
    exact h2 (this ▸ (membs_mem.1 (List.getElem_mem hi)).2)
theorem bitsOf_lt (C : Nat → Prop) {n m : Nat} (h : ∀ x, C x → x < n) : bitsOf C m < 2 ^ n := by
  apply Nat.lt_pow_two_of_testBit
  intro i hi
  cases hb : (bitsOf C m).testBit i with
  | false => rfl
  | true => have := h i (bitsOf_bit.1 hb).2; omega
open Classical
noncomputable def freeN (n : Nat) (mt : Nat → Int) : Nat := (listOf fun x => x < n ∧ mt x = -1).length
variable {n : Nat} {xs : List Edge} {s : PS} {D A : Nat → Prop} {cl : Nat → Nat}
theorem great_pairs (hn : n ≤ 40) (hm : Mt n (AjE xs) s.mt) : PairOk (n : Int) xs (mateL n s.mt) n := fun i hi => by
  rw [mateL_at _ hi]
  rcases hm.rng hi with e | ⟨y, hy, e⟩
  · exact .inl e
  · right
    rw [e]
    refine ⟨by omega, by omega, ?_, ?_⟩
    · rw [Int.toNat_natCast, mateL_at _ hy]; exact hm.sym hi e
    · exact hm.adj hi e
theorem cnt1_free (mt : Nat → Int) {C : Nat → Prop} (hC : ∀ x, C x ↔ x < n ∧ mt x = -1) : ∀ m, cnt1 (mateL n mt) (min m n) + (((List.range m).filter fun x => decide (C x)).length : Int) = (min m n : Nat)
  | 0 => by simp [cnt1, sumN]
  | m + 1 => by
    have ih := cnt1_free mt hC m
    rw [List.range_succ, List.filter_append, List.length_append]
    generalize ((List.range m).filter fun x => decide (C x)).length = L at ih ⊢
    by_cases h : m < n
    · rw [show min m n = m from by omega] at ih
      rw [show min (m + 1) n = m + 1 from by omega]
      simp only [cnt1, sumN] at ih ⊢
      rw [mateL_at _ h]
      by_cases e : mt m = -1
      · have hc : C m := (hC m).2 ⟨h, e⟩
        rw [if_pos e]; simp [hc]; omega
      · have hc : ¬ C m := fun g => e ((hC m).1 g).2
        rw [if_neg e]; simp [hc]; omega
    · rw [show min m n = n from by omega] at ih
      rw [show min (m + 1) n = n from by omega]
      have hc : ¬ C m := fun g => h ((hC m).1 g).1
      simp [hc]; exact ih
theorem free_cnt (hn : n ≤ 40) (hg : GraphOk (n : Int) xs) (hm : Mt n (AjE xs) s.mt) : 2 * cnt2 (mateL n s.mt) n + (freeN n s.mt : Int) = n := by
  have h1 := cnt_twice hg (p := mateL n s.mt) (by rw [mateL_len]) (by rw [mateL_len]; exact great_pairs hn hm)
  have h2 := cnt1_free (n := n) s.mt (C := fun x => x < n ∧ s.mt x = -1) (fun x => Iff.rfl) 40
  rw [show min 40 n = n from by omega] at h2
  rw [mateL_len] at h1
  rw [h1] at h2
  exact h2
theorem aj_irr (hg : GraphOk (n : Int) xs) (x : Nat) : ¬ AjE xs x x := fun hx => by
  obtain ⟨i, hi | hi⟩ := hx
  · have := hg.2.2.2 i (List.getElem?_eq_some_iff.1 hi).1 _ _ hi; omega
  · have := hg.2.2.2 i (List.getElem?_eq_some_iff.1 hi).1 _ _ hi; omega
theorem weak_len (hn : n ≤ 40) (hg : GraphOk (n : Int) xs) (hm : Mt n (AjE xs) s.mt) (l : List Int) : sumN 40 (rootF (AjE xs) (Sof n l)) ≤ (freeN n s.mt : Int) + (l.length : Int) := by
  have hw := berge_weak hm (aj_irr hg) AjE.symm hn (S := Sof n l) (fun r hr => hr.1)
  have hl : (listOf fun x => x < n ∧ ¬ Sof n l x).length ≤ (l.map Int.toNat).length := nodup_le (listOf_nodup _) fun x hx => by
    obtain ⟨_, x1, x2⟩ := listOf_mem.1 hx
    apply byContradiction
    intro hno
    refine x2 ⟨x1, fun i hi e => hno ?_⟩
    have hm := List.mem_of_getElem? (gI_some hi)
    rw [e] at hm
    exact List.mem_map.2 ⟨_, hm, by simp⟩
  rw [List.length_map] at hl
  refine Int.le_trans hw ?_
  unfold freeN
  omega
theorem bar_least (hn : n ≤ 40) (hg : GraphOk (n : Int) xs) (hm : Mt n (AjE xs) s.mt) {l : List Int} {k : Int} (hb : BarIs n xs l k) : cnt2 (mateL n s.mt) n ≤ k := by
  have hf := free_cnt hn hg hm
  have hw := weak_len hn hg hm l
  have := hb.2
  omega
theorem bar_best (hn : n ≤ 40) (hg : GraphOk (n : Int) xs) (h : Great n (AjE xs) s D A cl n) : ∃ t, t < 2 ^ n ∧ BarIs n xs (membL n t) (cnt2 (mateL n s.mt) n) := by
  refine ⟨bitsOf A 40, bitsOf_lt A fun x hx => h.dn.alt hx, membL_rises _ _, ?_⟩
  have hS : Sof n (membL n (bitsOf A 40)) = fun r => r < n ∧ ¬ A r := by
    funext r
    apply propext
    rw [membL_sof, bitsOf_bit]
    exact ⟨fun ⟨h1, h2⟩ => ⟨h1, fun ha => h2 ⟨by omega, ha⟩⟩, fun ⟨h1, h2⟩ => ⟨h1, fun ha => h2 ha.2⟩⟩
  have hst := berge_strong h.mat (aj_irr hg) AjE.symm hn h.dn h.all
  have hlA2 : (membL n (bitsOf A 40)).length ≤ (listOf A).length := by
    rw [membL_len]
    refine nodup_le (List.nodup_range.filter _) fun x hx => ?_
    have := membs_mem.1 hx
    exact listOf_mem.2 (bitsOf_bit.1 this.2)
  have hw := weak_len hn hg h.mat (membL n (bitsOf A 40))
  have hf := free_cnt hn hg h.mat
  rw [hS] at hw ⊢
  have hst2 : (freeN n s.mt : Int) + ((listOf A).length : Int) ≤ sumN 40 (rootF (AjE xs) fun r => r < n ∧ ¬ A r) := by
    refine Int.le_trans ?_ hst
    unfold freeN
    omega
  omega
end Go.Proofs.YtdpnplanohgecaaDoor

open Go Go.Eng
namespace Go.Proofs.YtdpnplanohgecaaDoor
attribute [local congr] undef_congr WpK.congr WpS.congr WpL.congr WpC.congr WpF.congr gotS.congr callS.congr nextS.congr wantS.congr condS.congr
attribute [local irreducible] WpK
attribute [local simp] WpDr_nil WpDr_cons atS_some dwantS_true dwantS_false kindS_light kindS_float kindS_heavy lightS_value floatS_some heavyS_value heavyS_skip heavyS_enter dcallS_some doneS_eq
  isLight isFloat isPlain dLook testBit_dec dChain dLights_nil dLights_skip dLights_one dLight_nil dLight_cons dFreshes_nil dFreshes_one oneF_none oneF_some dFresh_nil dFresh_cons oneL_some oneW_true oneW_false sameV_value dPut dMay valEq arrEq listEq List.getElem?_cons Tr.get_nil dEnd
attribute [local simp] WpS_nil WpS_cons isDefer undef_false wantS_true wantS_false nextS_value nextS_skip nextS_enter callS_some gotS_some aWanted aOp aEvalF aEval opMove opAssign opPick aVal flat flat1 AAct.put opBinOp opConvert opIndex Tr.get_set Tr.get_lay aBin aResults tupled
  aCall aVals aCallB blt_dec ble_dec beq_dec aBinI_add aBinI_sub aBinI_lss aBinI_leq aBinI_gtr aBinI_geq aBinI_eql aBinI_neq index_str len_str len_slice Nat.beq_refl Nat.beq_refl
  opBox opLoad opFieldAddr opIndexAddr acells aAddr opExtract aExtract opUnOp opAlloc opStore opMakeInterface opNilCheck opBuild aParts opBuildSlice aValW
attribute [local simp] und2 und3 und4 und5 und9 und12 field13_0 field13_1 und21 und22 field23_0 field23_1 field24_0 field24_1 field25_0 field25_1 und28 und31 field34_0 field34_1 field34_2 field35_0 field35_1 field35_2 und46 field50_0 field50_1 field50_2 und55 und56 und58 und61 und62 und73 und75 und90 und94 und95 und96 field97_0 field97_1 field97_2 field97_3 field97_4 field97_5 field97_6 field98_0 field98_1 field98_2 field98_3 field98_4 field98_5 field98_6 und99 und106 field107_0 field107_1 field108_0 field108_1 und119 und122 field124_0 field124_1 field124_2 field125_0 field125_1 field125_2 field131_0 field131_1 field132_0 field132_1 und133 field134_0 field134_1 field135_0 field135_1 und148 und156 und160
set_option maxHeartbeats 4000000
set_option linter.unusedSimpArgs false
set_option linter.unusedVariables false
def Matched (W : AW) (n : Nat) (xs : List Edge) (mv : Value) : Prop := ∃ l : List Int, IntN W mv l ∧ l.length = n ∧ PairOk (n : Int) xs l n ∧ (∀ l' k, BarIs n xs l' k → cnt2 l n ≤ k) ∧ ∃ t, t < 2 ^ n ∧ BarIs n xs (membL n t) (cnt2 l n)
theorem match_berge {W : AW} {v : Value} {n : Nat} {es : List Edge} (h : PairR W v es) (hl : es.length < 4611686018427387904) (hg : GraphOk (n : Int) es) (hT : tabsIn T0 T0.tabs W = true) (hN0 : 0 < W.next) :
    WpF T0 17 [.agg ⟨[.int .i64 (n : Int), v]⟩] W (fun u W' => Ext W W' ∧ ∃ mv, u = .tuple ⟨[mv, .int .i64 0]⟩ ∧ Matched W' n es mv) := by
  have hn : n ≤ 40 := by have := hg.2.1; omega
  refine (match_ok h hl hg hT hN0).mono ?_
  rintro u W' ⟨h1, mv, s, D, A, cl, h2, h3, h4⟩
  exact ⟨h1, mv, h2, mateL n s.mt, h3, mateL_len _ _, great_pairs hn h4.mat, fun l' k hb => bar_least hn hg h4.mat hb, bar_best hn hg h4⟩
theorem bit_rem2 (s i : Nat) : (((s >>> i : Nat) : Int).tmod 2 = 1) ↔ s.testBit i = true := by
  rw [show ((2 : Int)) = ((2 : Nat) : Int) from rfl, ← Int.ofNat_tmod, Nat.testBit, bne_iff_ne, Nat.one_and_eq_mod_two]
  omega
theorem pairBerge_wp {W : AW} {v : Value} (P : Int) {es : List Edge} (less : Int) (h : PairR W v es) (hl : es.length < 9223372036854775808) (htb : tabsIn T0 T0.tabs W = true) (hW0 : 0 < W.next) :
    WpF T0 9 [.agg ⟨[.int .i64 P, v]⟩, .int .i64 less] W (fun u _ => u = .bool true) := by
  refine wpF fun9 rfl ?_
  obtain ⟨W1, hW1, hE1, hV⟩ : ∃ W1, W1 = W.newCells 24 [.int .i64 P, v] ∧ Ext W W1 ∧ Var W1 W.next 24 [.int .i64 P, v] := ⟨_, rfl, .newCells _ _ _, Var.new _ _ _⟩
  have hl1 := load24 hV
  try simp only [wpK_assoc]
  refine wpK_reg (fun R hR => by simp [← hW1]; exact hR) ?_
  try simp only [wpK_assoc]
  refine wpK_x4 (P := fun (n : Nat) (ov : Value) (xs : List Edge) (p7 : Nat) W' => Ext W1 W' ∧ 1 ≤ n ∧ n ≤ 8 ∧ GraphOk (n : Int) xs ∧ xs.length ≤ 16 ∧ PairR W' ov xs ∧ Var W' p7 24 [.int .i64 (n : Int), ov]) (fun R hR => by
    simp [hl1, aEnter, fun23, short_other, aCallV]; rw [callS_none]
    refine (tame8_wp P (h.ext hE1) hl).mono ?_
    rintro _ Wt ⟨hEt, n, ov, xs, rfl, q1, q2, q3, q4, q5⟩
    obtain ⟨Ao, co, hov⟩ := q5.len
    obtain ⟨Wu, g1, g2, g3, g4⟩ := storeVar_new (T := T0) (W := Wt) (t := 24) (v := .agg ⟨[.int .i64 (n : Int), ov]⟩) (z := [.int .i64 0, .slice none 0 0]) inf24 (by rw [is24]; rfl) (by rw [is24]; rfl) (by rw [hov]; rfl)
    obtain ⟨pn, hpn⟩ : ∃ p, Wt.next = p := ⟨_, rfl⟩
    rw [hpn] at g1 g4
    simp [zero24, hpn, g1]
    exact hR n ov xs pn Wu (And.intro (hEt.trans g3) (And.intro q1 (And.intro q2 (And.intro q3 (And.intro q4 (And.intro (q5.ext g3) (by simpa using g4)))))))) ?_
  rintro n ov xs p5 W2 ⟨hE2, hn1, hn8, hgr, hx16, hR2, hV5⟩
  have hl5 := load24 hV5
  obtain ⟨Ao, co, hov⟩ := hR2.len
  try simp only [wpK_assoc]
  refine wpK_x1 (P := fun (p8 : Nat) W' => Ext W2 W' ∧ Var W' p8 25 [.int .i64 (n : Int), ov]) (fun R hR => by
    simp [hl5, aEnter, fun13, short_other, aCallV]; rw [callS_none]
    refine (give_wp (n : Int) hR2).mono ?_
    rintro _ Wt ⟨hEt, rfl⟩
    obtain ⟨Wu, g1, g2, g3, g4⟩ := storeVar_new (T := T0) (W := Wt) (t := 25) (v := .agg ⟨[.int .i64 (n : Int), ov]⟩) (z := [.int .i64 0, .slice none 0 0]) inf25 (by rw [is25]; rfl) (by rw [is25]; rfl) (by rw [hov]; rfl)
    obtain ⟨pn, hpn⟩ : ∃ p, Wt.next = p := ⟨_, rfl⟩
    rw [hpn] at g1 g4
    simp [zero25, hpn, g1]
    exact hR pn Wu (And.intro (hEt.trans g3) (by simpa using g4))) ?_
  rintro p6 W3 ⟨hE3, hV6⟩
  have hE03 := (hE1.trans hE2).trans hE3
  have ht3 := tabs_ext htb hW0 hE03
  have hR3 := hR2.ext hE3
  have hl6 := load25 hV6
  try simp only [wpK_assoc]
  refine wpK_x1 (fun R hR => by
      simp [hl6, opExtract, aExtract, aEnter, fun17, short_other, aCallV]; rw [callS_none]
      refine (match_berge hR3 (by omega) hgr ht3 (by have := hE03.1; omega)).mono ?_
      rintro _ W4 ⟨hE4, mv, rfl, hM⟩
      simp [hl6, opExtract, aExtract]; exact hR mv W4 (And.intro hE4 hM)) ?_
  rintro mv W4 ⟨hE4, hM⟩
  obtain ⟨l, hI, hll, hpo, hleast, tb, htb1, htb2⟩ := hM
  have hl6b := load25 (hV6.ext hE4)
  try simp only [wpK_assoc]
  refine wpK_x2 (fun R hR => by
      simp [hl6b, opExtract, aExtract, aEnter, fun21, short_other, aCallV]; rw [callS_none]
      refine (isPairing_ok (hR3.ext hE4) (by omega) hgr hI (by omega)).mono ?_
      rintro _ W5 ⟨hE5, kk, bb, rfl, hP1⟩
      simp [hl6b, opExtract, aExtract]; exact hR kk bb W5 (And.intro hE5 hP1)) ?_
  rintro kk bb W5 ⟨hE5, hP1⟩
  obtain ⟨rfl, hkk⟩ : bb = true ∧ kk = cnt2 l n := by
    rcases hP1 with ⟨e1, e2, e3, e4⟩ | ⟨e1, e2, e3⟩
    · exact ⟨e1, by rw [e4, hll]⟩
    · exact absurd ⟨by rw [hll], by rw [hll]; exact hpo⟩ e3
  have hkin := cnt2_in l n
  rw [← hkk] at hkin hleast htb2
  try simp only [wpK_assoc]
  refine wpK_reg (fun R hR => by simp [undef]; exact hR) ?_
  try simp only [wpK_assoc]
  first | refine wpK_onF (by simp []) ?_ | refine wpK_out (by simp []) ?_ | refine wpK_condF (by simp []) ?_ | refine wpK_endF (by simp []) (wpK_skip ?_) | refine wpK_endF (by simp []) ?_
  obtain ⟨y0, hy0⟩ : ∃ y0 : Nat, IntKind.u64.wrap less = (y0 : Int) := ⟨(IntKind.u64.wrap less).toNat, by rw [IntKind.wrap_u64]; omega⟩
  have r3 := aBinI_rem .u64 (y0 : Int) (3 : Nat) (by omega)
  rw [ofNat_tmod] at r3
  have hy3 : y0 % 3 < 3 := Nat.mod_lt _ (by omega)
  generalize y0 % 3 = y at r3 hy3
  have r3 : aBinI .rem .u64 (y0 : Int) .u64 3 = some (.int .u64 (y : Int)) := r3
  have a1 : IntKind.i64.wrap (y : Int) = (y : Int) := i64_in (by omega)
  obtain ⟨k, hk⟩ : ∃ k, k = kk - (y : Int) := ⟨_, rfl⟩
  have a2 : IntKind.i64.wrap (kk - (y : Int)) = k := by rw [i64_in (by omega)]; exact hk.symm
  try simp only [wpK_assoc]
  refine wpK_reg (fun R hR => by simp [conv_3_56, conv_56_3, hy0, r3, a1, a2]; exact hR) ?_
  try simp only [wpK_assoc]
  refine wpK_reg (fun R hR => by simp []; exact hR) ?_
  try simp only [wpK_assoc]
  refine wpK_reg (fun R hR => by simp []; exact hR) ?_
  have hE25 := (hE3.trans hE4).trans hE5
  have hE35 := hE4.trans hE5
  have hE05 := (hE1.trans hE2).trans hE25
  have hV55 := hV5.ext hE25
  have hV65 := hV6.ext hE35
  have hR5 := hR2.ext hE25
  have g5 : ∀ W', Ext W5 W' → aLoadVar T0 W' 3 p5 0 = some (.int .i64 (n : Int)) := fun W' hE => (hV55.ext hE).load1 (T := T0) und3 rfl (j := 0) (v := .int .i64 (n : Int)) rfl
  have g25 : ∀ W', Ext W5 W' → aLoadVar T0 W' 25 p6 0 = some (.agg ⟨[.int .i64 (n : Int), ov]⟩) := fun W' hE => load25 (hV65.ext hE)
  have ht5 := tabs_ext htb hW0 hE05
  have hwn : IntKind.u64.wrap (n : Int) = (n : Int) := u64_nat (by omega)
  have h256 : 2 ^ n ≤ 256 := by
    have := Nat.pow_le_pow_right (n := 2) (by omega) hn8; exact this
  have hsh : aBinI .shl .i64 1 .u64 (n : Int) = some (.int .i64 ((2 ^ n : Nat) : Int)) := by
    have := aBinI_shl .i64 .u64 1 n (by show n ≤ 64; omega) (by rw [Nat.one_mul]; show 2 ^ n < 9223372036854775808; omega)
    rw [Nat.one_shiftLeft] at this; exact this
  obtain ⟨N, hN⟩ : ∃ N, N = 2 ^ n := ⟨_, rfl⟩
  rw [← hN] at hsh h256 htb1
  clear hN
  have hn5 := hE05.1
  refine wpK_keep (fun tm' => tm'.get 5 = some (.pointer (some ⟨p5, 0, none⟩)) ∧ tm'.get 6 = some (.pointer (some ⟨p6, 0, none⟩)) ∧ tm'.get 9 = some (.int .i64 kk) ∧ tm'.get 11 = some (.int .i64 k) ∧ tm'.get 12 = some (.bool false) ∧ tm'.get 13 = some (.int .i64 0)) ⟨by simp, by simp, by simp, by simp, by simp, by simp⟩ ?_
  rintro tm ⟨h5, h6, h9, h11, h12, h13⟩
  try simp only [wpK_assoc]
  refine wpK_while (I := fun q A' W' => A'.n = 86 ∧ A'.defers = [] ∧ A'.tmps.get 5 = some (.pointer (some ⟨p5, 0, none⟩)) ∧ A'.tmps.get 6 = some (.pointer (some ⟨p6, 0, none⟩)) ∧ A'.tmps.get 9 = some (.int .i64 kk) ∧ A'.tmps.get 11 = some (.int .i64 k) ∧ Ext W5 W' ∧ ∃ (t : Nat) (fd : Bool), A'.tmps.get 13 = some (.int .i64 (t : Int)) ∧ A'.tmps.get 12 = some (.bool fd) ∧ q = N - t ∧ t ≤ N ∧ (fd = true ↔ 0 ≤ k ∧ ∃ t', t' < t ∧ BarIs n xs (membL n t') k))
    (J := fun A' W' => A'.n = 86 ∧ A'.defers = [] ∧ A'.tmps.get 5 = some (.pointer (some ⟨p5, 0, none⟩)) ∧ A'.tmps.get 6 = some (.pointer (some ⟨p6, 0, none⟩)) ∧ A'.tmps.get 9 = some (.int .i64 kk) ∧ A'.tmps.get 11 = some (.int .i64 k) ∧ Ext W5 W' ∧ ∃ (fd : Bool), A'.tmps.get 12 = some (.bool fd) ∧ (fd = true ↔ 0 ≤ k ∧ ∃ t', t' < N ∧ BarIs n xs (membL n t') k)) (Rt := fun _ _ => False) (k := N) ?_ ?_ ?_ ?_
  · exact ⟨rfl, rfl, by simp [h5, h6, h9, h11], by simp [h5, h6, h9, h11], by simp [h5, h6, h9, h11], by simp [h5, h6, h9, h11], .refl _ _, 0, false, by simp [h13], by simp [h12], rfl, by omega, ⟨fun h => (by cases h), fun ⟨_, t', h, _⟩ => by omega⟩⟩
  · rintro q ⟨tm, n, ds⟩ Wa ⟨hn, hd, h5, h6, h9, h11, hEa, t, fd, h13, h12, hq, htN, hfd⟩ Q' hJ hRt hI2
    simp only at hn hd h5 h6 h9 h11
    subst hn; subst hd
    simp only at h13 h12
    have e5 := g5 Wa hEa
    by_cases hlt : t < N
    case neg =>
      have hlt' : ¬ (t : Int) < N := by omega
      have e : t = N := by omega
      rw [e] at hfd
      try simp only [wpK_assoc]
      refine wpK_reg (fun R hR => by simp [h5, h13, e5, conv_3_56, hwn, hsh, hlt']; exact hR) ?_
      try simp only [wpK_assoc]
      first | refine wpK_onF (by simp [hlt]) ?_ | refine wpK_out (by simp [hlt]) ?_ | refine wpK_condF (by simp [hlt]) ?_ | refine wpK_endF (by simp [hlt]) (wpK_skip ?_) | refine wpK_endF (by simp [hlt]) ?_
      exact hJ _ _ ⟨rfl, rfl, by simp [h5, h6, h9, h11], by simp [h5, h6, h9, h11], by simp [h5, h6, h9, h11], by simp [h5, h6, h9, h11], hEa, fd, by simp [h12], hfd⟩
    have hlt' : (t : Int) < N := by omega
    try simp only [wpK_assoc]
    refine wpK_reg (fun R hR => by simp [h5, h13, e5, conv_3_56, hwn, hsh, hlt']; exact hR) ?_
    try simp only [wpK_assoc]
    first | refine wpK_onT (by simp [hlt]) ?_ | refine wpK_outT (by simp [hlt]) ?_ | refine wpK_condT (by simp [hlt]) ?_ | refine wpK_endT (by simp [hlt]) ?_
    have hqd : N - (t + 1) < q ∧ t + 1 ≤ N := by clear hfd; omega
    refine wpK_block ?_
    try simp only [wpK_assoc]
    refine wpK_reg (fun R hR => by simp []; exact hR) ?_
    try simp only [wpK_assoc]
    refine wpK_reg (fun R hR => by simp []; exact hR) ?_
    refine wpK_keep (fun tm' => tm'.get 5 = some (.pointer (some ⟨p5, 0, none⟩)) ∧ tm'.get 6 = some (.pointer (some ⟨p6, 0, none⟩)) ∧ tm'.get 9 = some (.int .i64 kk) ∧ tm'.get 11 = some (.int .i64 k) ∧ tm'.get 12 = some (.bool fd) ∧ tm'.get 13 = some (.int .i64 (t : Int)) ∧ tm'.get 14 = some (.slice none 0 0) ∧ tm'.get 15 = some (.int .i64 0)) ⟨by simp [h5, h6, h9, h11, h12, h13], by simp [h5, h6, h9, h11, h12, h13], by simp [h5, h6, h9, h11, h12, h13], by simp [h5, h6, h9, h11, h12, h13], by simp [h5, h6, h9, h11, h12, h13], by simp [h5, h6, h9, h11, h12, h13], by simp [h5, h6, h9, h11, h12, h13], by simp [h5, h6, h9, h11, h12, h13]⟩ ?_
    rintro tm ⟨h5, h6, h9, h11, h12, h13, h14, h15⟩
    try simp only [wpK_assoc]
    refine wpK_while (I := fun q A' W' => A'.n = 86 ∧ A'.defers = [] ∧ A'.tmps.get 5 = some (.pointer (some ⟨p5, 0, none⟩)) ∧ A'.tmps.get 6 = some (.pointer (some ⟨p6, 0, none⟩)) ∧ A'.tmps.get 9 = some (.int .i64 kk) ∧ A'.tmps.get 11 = some (.int .i64 k) ∧ A'.tmps.get 12 = some (.bool fd) ∧ A'.tmps.get 13 = some (.int .i64 (t : Int)) ∧ Ext W5 W' ∧ ∃ (j : Nat) (lv : Value) (K : Nat → Prop), A'.tmps.get 15 = some (.int .i64 (j : Int)) ∧ A'.tmps.get 14 = some lv ∧ q = n - j ∧ j ≤ n ∧ GrowsN W' lv (membs j t).length (natsV (membs j t)) 3 1 K ∧ ∀ b, K b → W5.next ≤ b)
      (J := fun A' W' => A'.n = 86 ∧ A'.defers = [] ∧ A'.tmps.get 5 = some (.pointer (some ⟨p5, 0, none⟩)) ∧ A'.tmps.get 6 = some (.pointer (some ⟨p6, 0, none⟩)) ∧ A'.tmps.get 9 = some (.int .i64 kk) ∧ A'.tmps.get 11 = some (.int .i64 k) ∧ A'.tmps.get 12 = some (.bool fd) ∧ A'.tmps.get 13 = some (.int .i64 (t : Int)) ∧ Ext W5 W' ∧ ∃ (lv : Value) (K : Nat → Prop), A'.tmps.get 14 = some lv ∧ GrowsN W' lv (membs n t).length (natsV (membs n t)) 3 1 K) (Rt := fun _ _ => False) (k := n) ?_ ?_ ?_ ?_
    · exact ⟨rfl, rfl, by simp [h5, h6, h9, h11, h12, h13], by simp [h5, h6, h9, h11, h12, h13], by simp [h5, h6, h9, h11, h12, h13], by simp [h5, h6, h9, h11, h12, h13], by simp [h5, h6, h9, h11, h12, h13], by simp [h5, h6, h9, h11, h12, h13], hEa, 0, .slice none 0 0, fun _ => False, by simp [h15], by simp [h14], rfl, by omega, .nil _ _ _ _, fun b hb => hb.elim⟩
    · clear hlt hlt'
      rintro q ⟨tm, n, ds⟩ Wb ⟨hn, hd, h5, h6, h9, h11, h12, h13, hEb, j, lv, K, h15, h14, hq, hjn, hgr2, hK⟩ Q2 hJ2 hRt2 hI3
      simp only at hn hd h5 h6 h9 h11 h12 h13
      subst hn; subst hd
      simp only at h15 h14
      have e5 := g5 Wb hEb
      by_cases hlt : j < n
      case neg =>
        have hlt' : ¬ (j : Int) < n := by omega
        have e : j = n := by omega
        rw [e] at hgr2
        try simp only [wpK_assoc]
        refine wpK_reg (fun R hR => by simp [h5, h15, e5, hlt']; exact hR) ?_
        try simp only [wpK_assoc]
        first | refine wpK_onF (by simp [hlt]) ?_ | refine wpK_out (by simp [hlt]) ?_ | refine wpK_condF (by simp [hlt]) ?_ | refine wpK_endF (by simp [hlt]) (wpK_skip ?_) | refine wpK_endF (by simp [hlt]) ?_
        exact hJ2 _ _ ⟨rfl, rfl, by simp [h5, h6, h9, h11, h12, h13], by simp [h5, h6, h9, h11, h12, h13], by simp [h5, h6, h9, h11, h12, h13], by simp [h5, h6, h9, h11, h12, h13], by simp [h5, h6, h9, h11, h12, h13], by simp [h5, h6, h9, h11, h12, h13], hEb, lv, K, by simp [h14], hgr2⟩
      have hlt' : (j : Int) < n := by omega
      try simp only [wpK_assoc]
      refine wpK_reg (fun R hR => by simp [h5, h15, e5, hlt']; exact hR) ?_
      try simp only [wpK_assoc]
      first | refine wpK_onT (by simp [hlt]) ?_ | refine wpK_outT (by simp [hlt]) ?_ | refine wpK_condT (by simp [hlt]) ?_ | refine wpK_endT (by simp [hlt]) ?_
      have hsr := aBinI_shr .i64 .u64 t j (by show j ≤ 64; omega)
      have hrm := aBinI_rem .i64 ((t >>> j : Nat) : Int) 2 (by omega)
      have hbit := bit_rem2 t j
      have hms := membs_succ j t
      have hw : IntKind.u64.wrap (j : Int) = j := u64_nat (by omega)
      generalize t >>> j = x at hsr hrm hbit
      generalize ((x : Int)).tmod 2 = z at hrm hbit
      refine wpK_block ?_
      cases hb : t.testBit j with
      | true =>
        rw [hb] at hbit hms
        obtain rfl : z = 1 := hbit.2 rfl
        try simp only [wpK_assoc]
        refine wpK_reg (fun R hR => by simp [h13, h15, conv_3_56, hw, hsr, hrm]; exact hR) ?_
        try simp only [wpK_assoc]
        first | refine wpK_onT (by simp []) ?_ | refine wpK_outT (by simp []) ?_ | refine wpK_condT (by simp []) ?_ | refine wpK_endT (by simp []) ?_
        obtain ⟨lv', Wd, k1, k2, k3, k4⟩ := grow_nat hgr2 (by have := membs_len j t; omega) j
        try simp only [wpK_assoc]
        refine wpK_reg1 (fun R hR => by simp [h14, h15, bs31, k1]; exact hR) ?_
        simp only [leaves_normal, behind_normal]
        try simp only [wpK_assoc]
        refine wpK_reg1 (fun R hR => by simp [h15]; exact hR) ?_
        have hnb := hEb.1
        have hna := hEa.1
        refine hI3 (n - (j + 1)) _ _ (by omega) ⟨rfl, rfl, by simp [h5, h6, h9, h11, h12, h13], by simp [h5, h6, h9, h11, h12, h13], by simp [h5, h6, h9, h11, h12, h13], by simp [h5, h6, h9, h11, h12, h13], by simp [h5, h6, h9, h11, h12, h13], by simp [h5, h6, h9, h11, h12, h13], ⟨by omega, fun b hb2 hk2 => ?_⟩, j + 1, lv', _, by simp [i64_succ j (by omega)], by simp, rfl, by omega, by rw [hms, if_pos rfl]; exact k3, fun b hb2 => ?_⟩
        · rw [k4.2 b (by omega) (fun h => by have := hK b h; omega)]; exact hEb.2 b hb2 hk2
        · rcases hb2 with h | h
          · exact hK b h
          · omega
      | false =>
        rw [hb] at hbit hms
        have hz : z ≠ 1 := fun e => by have := hbit.1 e; cases this
        try simp only [wpK_assoc]
        refine wpK_reg (fun R hR => by simp [h13, h15, conv_3_56, hw, hsr, hrm]; exact hR) ?_
        try simp only [wpK_assoc]
        first | refine wpK_onF (by simp [hz]) ?_ | refine wpK_out (by simp [hz]) ?_ | refine wpK_condF (by simp [hz]) ?_ | refine wpK_endF (by simp [hz]) (wpK_skip ?_) | refine wpK_endF (by simp [hz]) ?_
        simp only [leaves_normal, behind_normal]
        try simp only [wpK_assoc]
        refine wpK_reg1 (fun R hR => by simp [h15]; exact hR) ?_
        exact hI3 (n - (j + 1)) _ _ (by omega) ⟨rfl, rfl, by simp [h5, h6, h9, h11, h12, h13], by simp [h5, h6, h9, h11, h12, h13], by simp [h5, h6, h9, h11, h12, h13], by simp [h5, h6, h9, h11, h12, h13], by simp [h5, h6, h9, h11, h12, h13], by simp [h5, h6, h9, h11, h12, h13], hEb, j + 1, lv, K, by simp [i64_succ j (by omega)], by simp [h14], rfl, by omega, by rw [hms, if_neg (by simp)]; exact hgr2, hK⟩
    · rintro A' W' hf; exact hf.elim
    · rintro ⟨tm, n, ds⟩ Wc ⟨hn, hd, h5, h6, h9, h11, h12, h13, hEc, lv, K, h14, hgr2⟩
      simp only at hn hd h5 h6 h9 h11 h12 h13
      subst hn; subst hd
      simp only at h14
      have hIl : IntN Wc lv (membL n t) := natsN_row hgr2
      have gc := g25 Wc hEc
      have htc := tabs_ext ht5 (by omega) hEc
      have hnc := hEc.1
      have hRc := hR5.ext hEc
      have fin : ∀ (fd' : Bool) (Wd : AW) (tm' : Tr Value), Ext W5 Wd → tm'.get 5 = some (.pointer (some ⟨p5, 0, none⟩)) → tm'.get 6 = some (.pointer (some ⟨p6, 0, none⟩)) → tm'.get 9 = some (.int .i64 kk) → tm'.get 11 = some (.int .i64 k) → tm'.get 12 = some (.bool fd') → tm'.get 13 = some (.int .i64 ((t + 1 : Nat) : Int)) → (fd' = true ↔ fd = true ∨ (0 ≤ k ∧ BarIs n xs (membL n t) k)) → Q' .normal ⟨tm', 86, []⟩ Wd := fun fd' Wd tm' e1 e2 e3 e4 e5 e6 e7 e8 => by
        refine hI2 (N - (t + 1)) _ _ hqd.1 ⟨rfl, rfl, e2, e3, e4, e5, e1, t + 1, fd', e7, e6, rfl, hqd.2, ?_⟩
        rw [e8, hfd]
        constructor
        · rintro (⟨x1, t', x2, x3⟩ | ⟨x1, x2⟩)
          · exact ⟨x1, t', by omega, x3⟩
          · exact ⟨x1, t, by omega, x2⟩
        · rintro ⟨x1, t', x2, x3⟩
          by_cases e : t' = t
          · subst e; exact .inr ⟨x1, x3⟩
          · exact .inl ⟨x1, t', by omega, x3⟩
      have w1 : IntKind.i64.wrap ((t : Int) + 1) = ((t + 1 : Nat) : Int) := i64_succ t (by omega)
      cases fd with
      | true =>
        try simp only [wpK_assoc]
        refine wpK_reg1 (fun R hR => by simp [h12, undef]; exact hR) ?_
        simp only [leaves_normal, behind_normal]
        try simp only [wpK_assoc]
        refine wpK_reg1 (fun R hR => by simp [h13, w1]; exact hR) ?_
        exact fin true Wc _ hEc (by simp [h5]) (by simp [h6]) (by simp [h9]) (by simp [h11]) (by simp) (by simp) ⟨fun _ => .inl rfl, fun _ => rfl⟩
      | false =>
        by_cases hk0 : 0 ≤ k
        · try simp only [wpK_assoc]
          refine wpK_y1 (fun R hR => by
              simp [h6, h11, h12, h14, hk0, gc, undef, aEnter, fun22, short_other, aCallV]; rw [callS_none]
              refine (isBarrier_ok hRc (by omega) hgr (by omega) hIl (by rw [membL_len]; have := membs_len n t; omega) htc (by omega) k).mono ?_
              rintro _ Wd ⟨hEd, b3, rfl, hb3⟩
              simp [undef]; exact hR b3 Wd (And.intro hEd hb3)) ?_
          rintro b3 Wd ⟨hEd, hb3⟩
          simp only [leaves_normal, behind_normal]
          try simp only [wpK_assoc]
          refine wpK_reg1 (fun R hR => by simp [h13, w1]; exact hR) ?_
          exact fin b3 Wd _ (hEc.trans hEd) (by simp [h5]) (by simp [h6]) (by simp [h9]) (by simp [h11]) (by simp) (by simp) ⟨fun h => .inr ⟨hk0, hb3.1 h⟩, fun h => h.elim (fun h => (by cases h)) fun h => hb3.2 h.2⟩
        · try simp only [wpK_assoc]
          refine wpK_reg1 (fun R hR => by simp [h11, h12, hk0, undef]; exact hR) ?_
          simp only [leaves_normal, behind_normal]
          try simp only [wpK_assoc]
          refine wpK_reg1 (fun R hR => by simp [h13, w1]; exact hR) ?_
          exact fin false Wc _ hEc (by simp [h5]) (by simp [h6]) (by simp [h9]) (by simp [h11]) (by simp) (by simp) ⟨fun h => (by cases h), fun h => h.elim (fun h => (by cases h)) fun h => absurd h.1 hk0⟩
  · rintro A' W' hf; exact hf.elim
  rintro ⟨tm, n, ds⟩ Wz ⟨hn, hd, h5, h6, h9, h11, hEz, fd, h12, hfd⟩
  simp only at hn hd h5 h6 h9 h11
  subst hn; subst hd
  simp only at h12
  have htz := tabs_ext ht5 (by omega) hEz
  by_cases hkk2 : k = kk
  · have hft : fd = true := hfd.2 ⟨by clear hfd; omega, tb, htb1, by rw [hkk2]; exact htb2⟩
    subst hft
    try simp only [wpK_assoc]
    refine wpK_reg (fun R hR => by simp [h9, h11, h12, hkk2, aGuard, aBinO, aEq, und4, undef, short_awake, htz, aEnter, aCallV, fun16]; exact hR) ?_
    exact wpK_ret ⟨.inr rfl, rfl, [.bool true], by simp, rfl⟩
  · have hff : fd = false := by
      cases hb : fd with
      | false => rfl
      | true =>
        obtain ⟨_, t', _, h3⟩ := hfd.1 hb
        have := hleast _ _ h3
        exfalso
        clear hfd; omega
    subst hff
    try simp only [wpK_assoc]
    refine wpK_reg (fun R hR => by simp [h9, h11, h12, hkk2, aGuard, aBinO, aEq, und4, undef, short_awake, htz, aEnter, aCallV, fun16]; exact hR) ?_
    exact wpK_ret ⟨.inr rfl, rfl, [.bool true], by simp, rfl⟩
end Go.Proofs.YtdpnplanohgecaaDoor