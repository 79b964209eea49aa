import Derived.Test.YtkgfjfkgmpeobaaDoorP39
import Derived.Test.YtkgfjfkgmpeobaaDoorEngPm
set_option linter.unusedSimpArgs false
set_option linter.unusedVariables false
set_option linter.unusedSectionVars false
open Go Go.Eng
namespace Go.Proofs.YtkgfjfkgmpeobaaDoor
attribute [local congr] undef_congr WpK.congr WpS.congr WpL.congr WpC.congr WpF.congr gotS.congr callS.congr nextS.congr wantS.congr condS.congr
attribute [local irreducible] WpK
attribute [local simp] WpDr_nil WpDr_cons atS_some dwantS_true dwantS_false kindS_light kindS_float kindS_heavy lightS_value floatS_some heavyS_value heavyS_skip heavyS_enter dcallS_some doneS_eq
  isLight isFloat isPlain dLook testBit_dec dChain dLights_nil dLights_skip dLights_one dLight_nil dLight_cons dFreshes_nil dFreshes_one oneF_none oneF_some dFresh_nil dFresh_cons oneL_some oneW_true oneW_false sameV_value dPut dMay valEq arrEq listEq List.getElem?_cons Tr.get_nil dEnd
attribute [local simp] WpS_nil WpS_cons isDefer undef_false wantS_true wantS_false nextS_value nextS_skip nextS_enter callS_some gotS_some aWanted aOp aEvalF aEval opMove opAssign opPick aVal flat flat1 AAct.put opBinOp opConvert opIndex Tr.get_set Tr.get_lay aBin aResults tupled
  aCall aVals aCallB blt_dec ble_dec beq_dec aBinI_add aBinI_sub aBinI_lss aBinI_leq aBinI_gtr aBinI_geq aBinI_eql aBinI_neq index_str len_str len_slice Nat.beq_refl und2 und3 und4 und5 und39 und76 und82 und115 und22 und29 und25 und33 und46 und43 und49 und111 und113 field151 field155_0 field155_1 field155_2 field155_3 field155_4
  field78 field106 field24 field31 field27 field35 field108 field109 opBox opLoad opFieldAddr opIndexAddr acells aAddr opExtract aExtract opUnOp opAlloc opStore opMakeInterface opNilCheck opBuild aParts opBuildSlice aValW
set_option maxHeartbeats 4000000
set_option linter.unusedSimpArgs false
set_option linter.unusedVariables false
def capL (T : Nat) (L : List Stp) (rm : Nat → Int) : Nat → Int
  | 0 => 0
  | i + 1 => capL T L rm i + (if T.testBit (stp L i).a && !T.testBit (stp L i).b then rm (2 * i) else 0) + (if T.testBit (stp L i).b && !T.testBit (stp L i).a then rm (2 * i + 1) else 0)
def sumT (T : Nat) (g : Nat → Int) : Nat → Int
  | 0 => 0
  | n + 1 => sumT T g n + (if T.testBit n then g n else 0)
theorem sumT_add (T : Nat) (g h : Nat → Int) : ∀ n, sumT T (fun q => g q + h q) n = sumT T g n + sumT T h n
  | 0 => rfl
  | n + 1 => by
    rw [sumT, sumT, sumT, sumT_add T g h n]
    split <;> omega
theorem sumT_congr {T : Nat} {g h : Nat → Int} : ∀ {n : Nat}, (∀ q, q < n → g q = h q) → sumT T g n = sumT T h n
  | 0, _ => rfl
  | n + 1, he => by
    rw [sumT, sumT, sumT_congr (fun q hq => he q (by omega)), he n (by omega)]
theorem sumT_zero (T : Nat) : ∀ n, sumT T (fun _ => 0) n = 0
  | 0 => rfl
  | n + 1 => by rw [sumT, sumT_zero T n]; split <;> rfl
theorem sumT_one (T a : Nat) (f : Int) : ∀ n, sumT T (fun q => if a = q then f else 0) n = if a < n && T.testBit a then f else 0
  | 0 => by simp [sumT]
  | n + 1 => by
    rw [sumT, sumT_one T a f n]
    by_cases e : a = n
    · subst e
      cases T.testBit a <;> simp
    · have e1 : (a < n + 1) = (a < n) := propext ⟨fun _ => by omega, fun _ => by omega⟩
      simp only [e1, if_neg e]
      split <;> split <;> simp
def inner (T : Nat) (L : List Stp) (rm : Nat → Int) : Nat → Int
  | 0 => 0
  | i + 1 => inner T L rm i + (if T.testBit (stp L i).a && T.testBit (stp L i).b then rm (2 * i) + rm (2 * i + 1) else 0)
theorem sum_out {T : Nat} {L : List Stp} {rm : Nat → Int} (hL : StpsOk L) : ∀ i, i ≤ L.length → sumT T (fun q => outN L rm q i) 24 = capL T L rm i + inner T L rm i
  | 0, _ => by
    have : (fun q => outN L rm q 0) = fun _ => 0 := rfl
    rw [this, sumT_zero]; rfl
  | i + 1, hi => by
    have h1 := hL.ok i (by omega)
    have e : sumT T (fun q => outN L rm q (i + 1)) 24 = sumT T (fun q => outN L rm q i) 24 + sumT T (fun q => if (stp L i).a = q then rm (2 * i) else 0) 24 + sumT T (fun q => if (stp L i).b = q then rm (2 * i + 1) else 0) 24 := by
      rw [← sumT_add, ← sumT_add]
      refine sumT_congr (fun q _ => ?_)
      rw [outN, Int.add_assoc]
    rw [e, sum_out hL i (by omega), sumT_one, sumT_one, capL, inner]
    have e1 : decide ((stp L i).a < 24) = true := decide_eq_true h1.1
    have e2 : decide ((stp L i).b < 24) = true := decide_eq_true h1.2.1
    rw [e1, e2]
    cases T.testBit (stp L i).a <;> cases T.testBit (stp L i).b <;> simp <;> omega
theorem inner_congr {T : Nat} {L : List Stp} {rm rm' : Nat → Int} : ∀ {i : Nat}, (∀ y, y < i → rm (2 * y) + rm (2 * y + 1) = rm' (2 * y) + rm' (2 * y + 1)) → inner T L rm i = inner T L rm' i
  | 0, _ => rfl
  | i + 1, h => by rw [inner, inner, inner_congr (fun y hy => h y (by omega)), h i (by omega)]
theorem capL_nn {T : Nat} {L : List Stp} {rm : Nat → Int} : ∀ {i : Nat}, (∀ y, y < 2 * i → 0 ≤ rm y) → 0 ≤ capL T L rm i
  | 0, _ => by simp [capL]
  | i + 1, h => by
    have h1 := capL_nn (T := T) (L := L) (rm := rm) (i := i) (fun y hy => h y (by omega))
    have h2 := h (2 * i) (by omega)
    have h3 := h (2 * i + 1) (by omega)
    rw [capL]; split <;> split <;> omega
theorem capL_zero {T : Nat} {L : List Stp} {rm : Nat → Int} : ∀ {i : Nat}, (∀ y, y < 2 * i → 0 ≤ rm y) → (capL T L rm i = 0 ↔ ∀ y, y < 2 * i → T.testBit (hFrom L y) = true → T.testBit (hTo L y) = false → rm y = 0)
  | 0, _ => by simp [capL]
  | i + 1, h => by
    have h0 := capL_nn (T := T) (L := L) (rm := rm) (i := i) (fun y hy => h y (by omega))
    have h1 := capL_zero (T := T) (L := L) (rm := rm) (i := i) (fun y hy => h y (by omega))
    have h2 := h (2 * i) (by omega)
    have h3 := h (2 * i + 1) (by omega)
    have g1 : hFrom L (2 * i) = (stp L i).a := by unfold hFrom; rw [if_pos (by omega), show 2 * i / 2 = i from by omega]
    have g2 : hFrom L (2 * i + 1) = (stp L i).b := by unfold hFrom; rw [if_neg (by omega), show (2 * i + 1) / 2 = i from by omega]
    have g3 : hTo L (2 * i) = (stp L i).b := by unfold hTo; rw [if_pos (by omega), show 2 * i / 2 = i from by omega]
    have g4 : hTo L (2 * i + 1) = (stp L i).a := by unfold hTo; rw [if_neg (by omega), show (2 * i + 1) / 2 = i from by omega]
    rw [capL]
    constructor
    · intro he y hy hf ht
      have hz : capL T L rm i = 0 := by split at he <;> split at he <;> omega
      by_cases e1 : y = 2 * i
      · subst e1; rw [g1] at hf; rw [g3] at ht; rw [hf, ht] at he; simp at he; omega
      · by_cases e2 : y = 2 * i + 1
        · subst e2; rw [g2] at hf; rw [g4] at ht; rw [hf, ht] at he; simp at he; omega
        · exact h1.1 hz y (by omega) hf ht
    · intro hall
      rw [h1.2 (fun y hy => hall y (by omega))]
      have q1 := hall (2 * i) (by omega)
      have q2 := hall (2 * i + 1) (by omega)
      rw [g1, g3] at q1
      rw [g2, g4] at q2
      cases ha : T.testBit (stp L i).a <;> cases hb : T.testBit (stp L i).b <;> simp [-testBit_dec, ha, hb] at q1 q2 ⊢ <;> omega
theorem flip_two (i : Nat) : flip (2 * i) = 2 * i + 1 := by unfold flip; rw [if_pos (by omega)]
theorem cut_gone {L : List Stp} {s t T : Nat} {rm rm' : Nat → Int} {x : Int} (hL : StpsOk L) (hs : s < 24) (ht : t < 24) (hR : Rooms L rm) (hR' : Rooms L rm') (hG : Gone L s t rm rm' x) (h1 : T.testBit s = true) (h2 : T.testBit t = false) :
    capL T L rm' L.length = capL T L rm L.length - x := by
  have e1 := sum_out (T := T) (rm := rm) hL L.length (Nat.le_refl _)
  have e2 := sum_out (T := T) (rm := rm') hL L.length (Nat.le_refl _)
  have e3 : inner T L rm' L.length = inner T L rm L.length := inner_congr (fun y hy => by
    have a := hR'.sum (2 * y) (by omega)
    have b := hR.sum (2 * y) (by omega)
    rw [flip_two] at a b
    omega)
  have e4 : sumT T (fun q => outN L rm' q L.length) 24 = sumT T (fun q => outN L rm q L.length) 24 + sumT T (fun q => if s = q then -x else 0) 24 + sumT T (fun q => if t = q then x else 0) 24 := by
    rw [← sumT_add, ← sumT_add]
    refine sumT_congr (fun q _ => ?_)
    rw [hG q]; split <;> split <;> omega
  rw [sumT_one, sumT_one, h1, h2] at e4
  simp [hs, ht] at e4
  omega
theorem Filled.cuts {L : List Stp} {s t : Nat} {rm rm' : Nat → Int} {x : Int} {lv : Nat → Nat} (h : Filled L s t rm x rm' lv) (hL : StpsOk L) (hs : s < 24) (ht : t < 24) (hR : Rooms L rm) :
    (∀ T, T.testBit s = true → T.testBit t = false → x ≤ capL T L rm L.length ∧ (x = capL T L rm L.length → ∀ q, q < 24 → 0 < lv q → T.testBit q = true)) ∧ x = capL (nearS lv 24) L rm L.length ∧ (nearS lv 24).testBit s = true ∧ (nearS lv 24).testBit t = false := by
  have hnn := fun (i : Nat) (hi : i = L.length) y (hy : y < 2 * i) => h.rooms.nn y (by omega)
  have hn := hnn L.length rfl
  have n1 : (nearS lv 24).testBit s = true := by rw [nearS_bit, h.lev.src]; simp [hs]
  have n2 : (nearS lv 24).testBit t = false := by rw [nearS_bit, h.snk]; simp
  refine ⟨fun T h1 h2 => ?_, ?_, n1, n2⟩
  · have hc := cut_gone hL hs ht hR h.rooms h.gone h1 h2
    have h0 := capL_nn (T := T) (L := L) hn
    refine ⟨by omega, fun he => ?_⟩
    have hz := (capL_zero (T := T) (L := L) hn).1 (by omega)
    have key : ∀ n q, q < 24 → 0 < lv q → lv q ≤ n → T.testBit q = true := by
      intro n
      induction n with
      | zero => intro q _ h3 h4; omega
      | succ n ih =>
        intro q hq h3 h4
        rcases h.lev.pre q hq h3 with rfl | ⟨y, hy, hto, hr, hf1, hf2⟩
        · exact h1
        · have hb := (hL.to hy).2.1
          have := ih _ hb hf1 (by omega)
          cases hT : T.testBit q with
          | true => rfl
          | false => exact absurd (hz y hy this (by rw [hto]; exact hT)) hr
    exact fun q hq h3 => key (lv q) q hq h3 (Nat.le_refl _)
  · have hc := cut_gone hL hs ht hR h.rooms h.gone n1 n2
    have hz := (capL_zero (T := nearS lv 24) (L := L) hn).2 (fun y hy h3 h4 => by
      apply Classical.byContradiction
      intro hr
      have hb := hL.to hy
      rw [nearS_bit] at h3 h4
      simp [hb.1, hb.2.1] at h3 h4
      have := h.closed y hy h3 hr
      omega)
    omega
theorem atP_one (s q : Nat) : atP (1 <<< s) s q = q := by
  unfold atP; rw [one_bit]; split
  · rename_i h; simpa using h
  · rfl
theorem capL_Q (T : Nat) (s : Nat) (l : List Quad) : ∀ i, i ≤ l.length → capL T (layL (1 <<< s) s l) (hCap (layL (1 <<< s) s l)) i = capQ T (l.take i)
  | 0, _ => by simp [capL, capQ]
  | i + 1, hi => by
    have ha : l[i]? = some l[i] := List.getElem?_eq_getElem (by omega)
    generalize l[i] = a at ha
    rw [capL, capL_Q T s l i (by omega), capQ_take ha, stp_lay ha]
    have g1 : hCap (layL (1 <<< s) s l) (2 * i) = a.2.2.1 := by unfold hCap; rw [if_pos (by omega), show 2 * i / 2 = i from by omega, stp_lay ha]
    have g2 : hCap (layL (1 <<< s) s l) (2 * i + 1) = a.2.2.2 := by unfold hCap; rw [if_neg (by omega), show (2 * i + 1) / 2 = i from by omega, stp_lay ha]
    rw [g1, g2]
    simp only [atP_one, out1]
    omega
theorem layL_len (f s : Nat) (l : List Quad) : (layL f s l).length = l.length := by simp [layL]
def flowOf (rm : Nat → Int) (n : Nat) : List Int := (List.range n).map fun i => rm (2 * i + 1)
def flowTo (rm : Nat → Int) (n i : Nat) : List Int := (List.range n).map fun j => if j < i then rm (2 * j + 1) else 0
theorem has50_wp {W : AW} {v : Value} {l : List Int} (h : IntL W v l) (hl : l.length < 4611686018427387904) (x : Int) : WpF T0 50 [v, .int .i64 x] W (fun u W' => W' = W ∧ u = .bool (decide (x ∈ l))) := by
  obtain ⟨A, c, rfl, hA⟩ := h
  refine wpF fun50 rfl ?_
  try simp only [wpK_assoc]
  refine wpK_reg (fun R hR => by simp []; exact hR) ?_
  try simp only [wpK_assoc]
  refine wpK_reg (fun R hR => by simp []; exact hR) ?_
  try simp only [wpK_assoc]
  refine wpK_while (I := fun k B W' => B.n = 18 ∧ B.defers = [] ∧ B.tmps.get 0 = some (.slice A l.length c) ∧ B.tmps.get 1 = some (.int .i64 x) ∧ W' = W ∧ ∃ i : Nat, k = l.length - i ∧ i ≤ l.length ∧ B.tmps.get 5 = some (.int .i64 i) ∧ ∀ (j : Nat) y, j < i → l[j]? = some y → y ≠ x)
    (J := fun B W' => B.n = 18 ∧ B.defers = [] ∧ W' = W ∧ x ∉ l) (Rt := fun B W' => B.defers = [] ∧ B.tmps.get 4 = some (.bool true) ∧ W' = W ∧ x ∈ l) (k := l.length) ?_ ?_ ?_ ?_
  · exact ⟨rfl, rfl, by simp, by simp, rfl, 0, by simp, by omega, by simp, fun j y hj => by omega⟩
  · rintro k ⟨tm, n, ds⟩ W3 ⟨hn, hd, h0, h1, rfl, i, hk, hi, h5, hno⟩ Q' hJ hRt hI
    simp only at hn hd h0 h1
    subst hn; subst hd
    simp only at h5
    try simp only [wpK_assoc]
    refine wpK_reg (fun R hR => by simp [h0, h5, len_slice und46]; exact hR) ?_
    by_cases hlt : i < l.length
    · try simp only [wpK_assoc]
      first | refine wpK_onT (by simp [hlt]) ?_ | refine wpK_outT (by simp [hlt]) ?_ | refine wpK_condT (by simp [hlt]) ?_ | refine wpK_endT (by simp [hlt]) ?_
      have ha : l[i]? = some l[i] := List.getElem?_eq_getElem hlt
      have hm : l[i] ∈ l := List.getElem_mem hlt
      generalize l[i] = y at ha hm
      obtain ⟨b, o, rfl, hh⟩ := hA i y ha
      have hx := indexAddr_slice (T := T0) und46 sz3 (b := b) (o := o) (c := c) (k := .i64) hlt
      rw [Nat.mul_one] at hx
      have hl := load_of und3 rfl hh
      refine wpK_block ?_
      by_cases e : y = x
      · try simp only [wpK_assoc]
        refine wpK_reg (fun R hR => by simp [h0, h1, h5, hx, hl, e]; exact hR) ?_
        try simp only [wpK_assoc]
        first | refine wpK_onT (by simp []) ?_ | refine wpK_outT (by simp []) ?_ | refine wpK_condT (by simp []) ?_ | refine wpK_endT (by simp []) ?_
        try simp only [wpK_assoc]
        refine wpK_reg (fun R hR => by simp []; exact hR) ?_
        exact wpK_ret (hRt _ _ ⟨rfl, by simp, rfl, e ▸ hm⟩)
      · try simp only [wpK_assoc]
        refine wpK_reg (fun R hR => by simp [h0, h1, h5, hx, hl, e]; exact hR) ?_
        try simp only [wpK_assoc]
        first | refine wpK_onF (by simp []) ?_ | refine wpK_out (by simp []) ?_ | refine wpK_condF (by simp []) ?_ | refine wpK_endF (by simp []) (wpK_skip ?_) | refine wpK_endF (by simp []) ?_
        try simp only [wpK_assoc]
        refine wpK_reg1 (fun R hR => by simp [h5]; exact hR) ?_
        refine hI (k - 1) _ _ (by omega) ⟨rfl, rfl, by simp [h0, h1], by simp [h0, h1], rfl, i + 1, by omega, by omega, by simp; exact i64_succ i (by omega), fun j z hj hz => ?_⟩
        by_cases e2 : j = i
        · subst e2; rw [ha] at hz; cases hz; exact e
        · exact hno j z (by omega) hz
    · try simp only [wpK_assoc]
      first | refine wpK_onF (by simp [hlt]) ?_ | refine wpK_out (by simp [hlt]) ?_ | refine wpK_condF (by simp [hlt]) ?_ | refine wpK_endF (by simp [hlt]) (wpK_skip ?_) | refine wpK_endF (by simp [hlt]) ?_
      refine hJ _ _ ⟨rfl, rfl, rfl, fun hm => ?_⟩
      obtain ⟨j, hj, he⟩ := List.getElem_of_mem hm
      exact hno j _ (by omega) (List.getElem?_eq_getElem hj) he
  · rintro A' W' ⟨h1, h2, rfl, h3⟩
    exact ⟨.inr rfl, h1, [.bool true], by simp [h2], rfl, by simp [h3]⟩
  · rintro ⟨tm, n, ds⟩ W' ⟨hn, hd, rfl, h3⟩
    simp only at hn hd
    subst hn; subst hd
    try simp only [wpK_assoc]
    refine wpK_reg (fun R hR => by simp []; exact hR) ?_
    exact wpK_ret ⟨.inr rfl, rfl, [.bool false], by simp, rfl, by simp [h3]⟩
theorem memb_more {S P : Nat} (h : ∀ j, P ≤ j → S.testBit j = false) : ∀ n, P ≤ n → memb n S = memb P S := by
  intro n hn
  induction n with
  | zero => obtain rfl : P = 0 := by omega
            rfl
  | succ n ih =>
    by_cases e : P = n + 1
    · subst e; rfl
    · rw [memb_succ, h n (by omega), ih (by omega)]; simp
theorem mem_memb {P S : Nat} {x : Int} : x ∈ memb P S ↔ ∃ j : Nat, j < P ∧ S.testBit j = true ∧ x = j := by
  simp only [memb, List.mem_map, List.mem_filter, List.mem_range]
  constructor
  · rintro ⟨j, ⟨h1, h2⟩, rfl⟩; exact ⟨j, h1, h2, rfl⟩
  · rintro ⟨j, h1, h2, rfl⟩; exact ⟨j, ⟨h1, h2⟩, rfl⟩
theorem near_in {P : Nat} {l : List Quad} {s t : Nat} {x : Int} {rm : Nat → Int} {lv : Nat → Nat} (hin : PlanIn P l) (hs : s < P) (F : Filled (layL (1 <<< s) s l) s t (hCap (layL (1 <<< s) s l)) x rm lv) :
    (∀ j, P ≤ j → (nearS lv 24).testBit j = false) ∧ nearS lv 24 < 2 ^ P := by
  have key : ∀ j, P ≤ j → (nearS lv 24).testBit j = false := by
    intro j hj
    rw [nearS_bit]
    by_cases h24 : j < 24
    · by_cases h0 : 0 < lv j
      · exfalso
        rcases F.lev.pre j h24 h0 with rfl | ⟨y, hy, hto, _, _, _⟩
        · omega
        · rw [layL_len] at hy
          have ha : l[y / 2]? = some (l[y / 2]'(by omega)) := List.getElem?_eq_getElem (by omega)
          have hm : l[y / 2]'(by omega) ∈ l := List.getElem_mem _
          generalize l[y / 2]'_ = a at ha hm
          have := hin.step hm
          unfold hTo at hto
          rw [stp_lay ha] at hto
          simp only [atP_one] at hto
          split at hto <;> omega
      · simp [h0]
    · simp [h24]
  exact ⟨key, Nat.lt_pow_two_of_testBit _ (fun i hi => key i hi)⟩
theorem filled_capQ {P : Int} {l : List Quad} {s t : Nat} {x : Int} {rm : Nat → Int} {lv : Nat → Nat} (hin : PlanIn P l) (hs : s < 24) (ht : t < 24) (F : Filled (layL (1 <<< s) s l) s t (hCap (layL (1 <<< s) s l)) x rm lv) :
    (∀ T, T.testBit s = true → T.testBit t = false → x ≤ capQ T l ∧ (x = capQ T l → ∀ q, q < 24 → 0 < lv q → T.testBit q = true)) ∧ x = capQ (nearS lv 24) l ∧ (nearS lv 24).testBit s = true ∧ (nearS lv 24).testBit t = false := by
  have hL := layL_ok hin (from_ := 1 <<< s) (show s < 24 by omega)
  have hc := F.cuts hL hs ht (cap_rooms hL)
  have e : ∀ T, capL T (layL (1 <<< s) s l) (hCap (layL (1 <<< s) s l)) (layL (1 <<< s) s l).length = capQ T l := fun T => by
    rw [layL_len, capL_Q T s l l.length (Nat.le_refl _), List.take_length]
  simp only [e] at hc
  exact hc

def bitI (S i : Nat) : Int := if S.testBit i then 1 else 0
def isCut (s t T : Nat) : Prop := T.testBit s = true ∧ T.testBit t = false
def Seen (s t : Nat) (l : List Quad) (k : Nat) (best : Int) (com : Nat) : Prop :=
  ((∀ T, T < k → ¬ isCut s t T) ∧ best = -1) ∨
  (0 ≤ best ∧ (∃ T, T < k ∧ isCut s t T ∧ capQ T l = best) ∧ (∀ T, T < k → isCut s t T → best ≤ capQ T l) ∧ (∀ q, com.testBit q = true ↔ ∀ T, T < k → isCut s t T → capQ T l = best → T.testBit q = true))
theorem Seen.skip {s t : Nat} {l : List Quad} {k : Nat} {best : Int} {com : Nat} (h : Seen s t l k best com) (hk : ¬ isCut s t k) : Seen s t l (k + 1) best com := by
  have sp : ∀ T, T < k + 1 → isCut s t T → T < k := fun T hT hc => by
    by_cases e : T = k
    · subst e; exact absurd hc hk
    · omega
  rcases h with ⟨h1, h2⟩ | ⟨h0, ⟨T0, a1, a2, a3⟩, h2, h3⟩
  · exact .inl ⟨fun T hT hc => h1 T (sp T hT hc) hc, h2⟩
  · exact .inr ⟨h0, ⟨T0, by omega, a2, a3⟩, fun T hT hc => h2 T (sp T hT hc) hc, fun q => (h3 q).trans ⟨fun h T hT hc he => h T (sp T hT hc) hc he, fun h T hT hc he => h T (by omega) hc he⟩⟩
theorem Seen.less {s t : Nat} {l : List Quad} {k : Nat} {best : Int} {com : Nat} (h : Seen s t l k best com) (hk : isCut s t k) (h0 : 0 ≤ capQ k l) (hc : best < 0 ∨ capQ k l < best) : Seen s t l (k + 1) (capQ k l) k := by
  have old : ∀ T, T < k → isCut s t T → capQ k l < capQ T l := fun T hT hT2 => by
    rcases h with ⟨h1, _⟩ | ⟨g0, _, h2, _⟩
    · exact absurd hT2 (h1 T hT)
    · have := h2 T hT hT2; omega
  refine .inr ⟨h0, ⟨k, by omega, hk, rfl⟩, fun T hT hT2 => ?_, fun q => ⟨fun hq T hT hT2 he => ?_, fun hall => hall k (by omega) hk rfl⟩⟩
  · by_cases e : T = k
    · subst e; exact Int.le_refl _
    · have := old T (by omega) hT2; omega
  · by_cases e : T = k
    · subst e; exact hq
    · have := old T (by omega) hT2; omega
theorem Seen.same {s t : Nat} {l : List Quad} {k : Nat} {best : Int} {com : Nat} (h : Seen s t l k best com) (hk : isCut s t k) (hb : 0 ≤ best) (hc : capQ k l = best) : Seen s t l (k + 1) best (com &&& k) := by
  rcases h with ⟨h1, h2⟩ | ⟨_, ⟨T0, a1, a2, a3⟩, h2, h3⟩
  · omega
  · refine .inr ⟨hb, ⟨T0, by omega, a2, a3⟩, fun T hT hT2 => ?_, fun q => ?_⟩
    · by_cases e : T = k
      · subst e; omega
      · exact h2 T (by omega) hT2
    · rw [Nat.testBit_and, Bool.and_eq_true, h3 q]
      constructor
      · rintro ⟨g1, g2⟩ T hT hT2 he
        by_cases e : T = k
        · subst e; exact g2
        · exact g1 T (by omega) hT2 he
      · intro hall
        exact ⟨fun T hT hT2 he => hall T (by omega) hT2 he, hall k (by omega) hk hc⟩
theorem Seen.more {s t : Nat} {l : List Quad} {k : Nat} {best : Int} {com : Nat} (h : Seen s t l k best com) (hk : isCut s t k) (hb : 0 ≤ best) (hc : best < capQ k l) : Seen s t l (k + 1) best com := by
  rcases h with ⟨h1, h2⟩ | ⟨_, ⟨T0, a1, a2, a3⟩, h2, h3⟩
  · omega
  · refine .inr ⟨hb, ⟨T0, by omega, a2, a3⟩, fun T hT hT2 => ?_, fun q => (h3 q).trans ⟨fun h T hT hT2 he => ?_, fun h T hT hT2 he => h T (by omega) hT2 he⟩⟩
    · by_cases e : T = k
      · subst e; omega
      · exact h2 T (by omega) hT2
    · by_cases e : T = k
      · subst e; omega
      · exact h T (by omega) hT2 he

theorem refCap_wp {W : AW} {v sv : Value} {P : Int} {l : List Tri} {S : List Int} (h : TriIn W v l) (hS : IntL W sv S) (hlS : S.length < 4611686018427387904) (hok : planOk P (arcsQ l) = true) (B : Nat) (hB : ∀ f : Nat, f < 24 → decide ((f : Int) ∈ S) = B.testBit f) :
    WpF T0 36 [.agg ⟨[.int .i64 P, v]⟩, sv] W (fun u W' => Ext W W' ∧ u = .int .i64 (capQ B (arcsQ l))) := by
  have hin := arcsQ_in hok
  obtain ⟨hP2, hP24, h200⟩ := hin.size
  have hql : (arcsQ l).length = l.length := by simp [arcsQ]
  rw [hql] at h200
  obtain ⟨Av, cv, rfl, hA⟩ := h
  refine wpF fun36 rfl ?_
  obtain ⟨W0, hW0, hE0, hV0⟩ : ∃ W0, W0 = W.newCells 24 [.int .i64 P, .slice Av l.length cv] ∧ Ext W W0 ∧ Var W0 W.next 24 [.int .i64 P, .slice Av l.length cv] := ⟨_, rfl, .newCells _ _ _, Var.new _ _ _⟩
  have l1 := hV0.load1 (T := T0) und22 rfl (j := 1) (v := .slice Av l.length cv) rfl
  have hS0 := hS.ext hE0
  try simp only [wpK_assoc]
  refine wpK_reg (fun R hR => by simp [← hW0]; exact hR) ?_
  try simp only [wpK_assoc]
  refine wpK_reg (fun R hR => by simp []; exact hR) ?_
  try simp only [wpK_assoc]
  refine wpK_reg (fun R hR => by simp []; exact hR) ?_
  try simp only [wpK_assoc]
  refine wpK_while (I := fun k A W' => A.n = 42 ∧ A.defers = [] ∧ A.tmps.get 1 = some (sv) ∧ A.tmps.get 2 = some (.pointer (some ⟨W.next, 0, none⟩)) ∧ W' = W0 ∧ ∃ i : Nat, k = l.length - i ∧ i ≤ l.length ∧ A.tmps.get 6 = some (.int .i64 i) ∧ A.tmps.get 5 = some (.int .i64 (capQ B ((arcsQ l).take i))))
    (J := fun A W' => A.n = 42 ∧ A.defers = [] ∧ W' = W0 ∧ A.tmps.get 5 = some (.int .i64 (capQ B (arcsQ l))))
    (Rt := fun _ _ => False) (k := l.length) ?_ ?_ ?_ ?_
  · exact ⟨rfl, rfl, by simp, by simp, rfl, 0, by simp, by omega, by simp, by simp [capQ]⟩
  · rintro k ⟨tm, n, ds⟩ W3 ⟨hn, hd, h1, h2, rfl, i, hk, hi, h6, h5⟩ Q' hJ hRt hI
    simp only at hn hd h1 h2
    subst hn; subst hd
    simp only at h6 h5
    try simp only [wpK_assoc]
    refine wpK_reg (fun R hR => by simp [h2, h6, l1, len_slice und22]; exact hR) ?_
    by_cases hlt : i < l.length
    · try simp only [wpK_assoc]
      first | refine wpK_onT (by simp [hlt]) ?_ | refine wpK_outT (by simp [hlt]) ?_ | refine wpK_condT (by simp [hlt]) ?_ | refine wpK_endT (by simp [hlt]) ?_
      have ha : l[i]? = some l[i] := List.getElem?_eq_getElem hlt
      generalize l[i] = a at ha
      have haq : (arcsQ l)[i]? = some (a.1, a.2.1, a.2.2, 0) := by simp [arcsQ, ha]
      have hst1 := hin.step (a := (a.1, a.2.1, a.2.2, 0)) (List.mem_of_getElem? haq)
      have hsum := capQ_take (s := B) haq
      have hb := capQ_le hin B i (by omega)
      obtain ⟨a1, a2, a3⟩ := a
      simp only at hst1
      obtain ⟨f, rfl⟩ : ∃ f : Nat, a1 = f := ⟨a1.toNat, by omega⟩
      obtain ⟨g, rfl⟩ : ∃ g : Nat, a2 = g := ⟨a2.toNat, by omega⟩
      obtain ⟨b, o, rfl, q1, q2, q3⟩ := hA i _ ha
      have eV := indexAddr_tri (T := T0) und22 sz78 (b := b) (o := o) (c := cv) (k := .i64) hlt
      have la1 := load_of und3 rfl (q1.ext hE0)
      have la2 := load_of und3 rfl (q2.ext hE0)
      have la3 := load_of und2 rfl (q3.ext hE0)
      simp only at la1 la2 la3
      have hf1 := has50_wp hS0 hlS (f : Int)
      have hf2 := has50_wp hS0 hlS (g : Int)
      rw [hB f (by omega)] at hf1
      rw [hB g (by omega)] at hf2
      have ho : out1 B ((f : Int), (g : Int), a3, 0) = if B.testBit f && !B.testBit g then a3 else 0 := by
        simp only [out1, Int.toNat_natCast]; split <;> split <;> omega
      rw [ho] at hsum
      generalize capQ B ((arcsQ l).take i) = z at h5 hb hsum
      have w1 : IntKind.i64.wrap (z + a3) = z + a3 := IntWalk.i64_in _ (by omega)
      have hsi : IntKind.i64.wrap ((i : Int) + 1) = ((i + 1 : Nat) : Int) := i64_succ i (by omega)
      have fin : ∀ tm' : Tr Value, tm'.get 1 = some sv → tm'.get 2 = some (.pointer (some ⟨W.next, 0, none⟩)) → tm'.get 6 = some (.int .i64 ((i + 1 : Nat) : Int)) → tm'.get 5 = some (.int .i64 (z + if B.testBit f && !B.testBit g then a3 else 0)) → Q' .normal ⟨tm', 42, []⟩ W3 := fun tm' x1 x2 x6 x5 =>
        hI (k - 1) _ _ (by omega) ⟨rfl, rfl, x1, x2, rfl, i + 1, by omega, by omega, x6, by rw [x5, hsum]⟩
      refine wpK_block ?_
      cases hbf : B.testBit f with
      | false =>
        rw [hbf] at hf1
        try simp only [wpK_assoc]
        refine wpK_reg (fun R hR => by
            simp [h1, h2, h6, l1, eV, la1, aEnter, fun50, short_other, aCallV]; rw [callS_none]
            refine (hf1).mono ?_
            rintro _ W9 ⟨e9, rfl⟩; subst W9
            simp [undef]; exact hR) ?_
        try simp only [wpK_assoc]
        first | refine wpK_onF (by simp []) ?_ | refine wpK_out (by simp []) ?_ | refine wpK_condF (by simp []) ?_ | refine wpK_endF (by simp []) (wpK_skip ?_) | refine wpK_endF (by simp []) ?_
        try simp only [wpK_assoc]
        refine wpK_reg1 (fun R hR => by simp [h6, hsi]; exact hR) ?_
        exact fin _ (by simp [h1]) (by simp [h2]) (by simp) (by simp [-testBit_dec, hbf, h5])
      | true =>
        rw [hbf] at hf1
        cases hbg : B.testBit g with
        | true =>
          rw [hbg] at hf2
          try simp only [wpK_assoc]
          refine wpK_reg (fun R hR => by
            simp [h1, h2, h6, l1, eV, la1, aEnter, fun50, short_other, aCallV]; rw [callS_none]
            refine hf1.mono ?_
            rintro _ W9 ⟨e9, rfl⟩; subst W9
            simp [h1, h2, h6, l1, eV, la2, aEnter, fun50, short_other, aCallV]; rw [callS_none]
            refine hf2.mono ?_
            rintro _ W9 ⟨e9, rfl⟩; subst W9
            simp; exact hR) ?_
          try simp only [wpK_assoc]
          first | refine wpK_onF (by simp []) ?_ | refine wpK_out (by simp []) ?_ | refine wpK_condF (by simp []) ?_ | refine wpK_endF (by simp []) (wpK_skip ?_) | refine wpK_endF (by simp []) ?_
          try simp only [wpK_assoc]
          refine wpK_reg1 (fun R hR => by simp [h6, hsi]; exact hR) ?_
          exact fin _ (by simp [h1]) (by simp [h2]) (by simp) (by simp [-testBit_dec, hbf, hbg, h5])
        | false =>
          rw [hbg] at hf2
          try simp only [wpK_assoc]
          refine wpK_reg (fun R hR => by
            simp [h1, h2, h6, l1, eV, la1, aEnter, fun50, short_other, aCallV]; rw [callS_none]
            refine hf1.mono ?_
            rintro _ W9 ⟨e9, rfl⟩; subst W9
            simp [h1, h2, h6, l1, eV, la2, aEnter, fun50, short_other, aCallV]; rw [callS_none]
            refine hf2.mono ?_
            rintro _ W9 ⟨e9, rfl⟩; subst W9
            simp; exact hR) ?_
          try simp only [wpK_assoc]
          first | refine wpK_onT (by simp []) ?_ | refine wpK_outT (by simp []) ?_ | refine wpK_condT (by simp []) ?_ | refine wpK_endT (by simp []) ?_
          try simp only [wpK_assoc]
          refine wpK_reg1 (fun R hR => by simp [h2, h5, h6, l1, eV, la3, w1]; exact hR) ?_
          try simp only [wpK_assoc]
          refine wpK_reg1 (fun R hR => by simp [h6, hsi]; exact hR) ?_
          exact fin _ (by simp [h1]) (by simp [h2]) (by simp) (by simp [-testBit_dec, hbf, hbg])
    · have e : i = l.length := by omega
      rw [e, ← hql, List.take_length] at h5
      try simp only [wpK_assoc]
      first | refine wpK_onF (by simp [hlt]) ?_ | refine wpK_out (by simp [hlt]) ?_ | refine wpK_condF (by simp [hlt]) ?_ | refine wpK_endF (by simp [hlt]) (wpK_skip ?_) | refine wpK_endF (by simp [hlt]) ?_
      exact hJ _ _ ⟨rfl, rfl, rfl, by simp [h5]⟩
  · rintro A' W' hf; exact hf.elim
  · rintro ⟨tm, n, ds⟩ W' ⟨hn, hd, rfl, h5⟩
    simp only at hn hd h5
    subst hn; subst hd
    try simp only [wpK_assoc]
    refine wpK_reg (fun R hR => by simp [h5]; exact hR) ?_
    exact wpK_ret ⟨.inr rfl, rfl, [.int .i64 (capQ B (arcsQ l))], by simp, hE0, rfl⟩
theorem bs43 (W : AW) (n : Int) : aBuildSlice T0 W 43 1 [(0, .int .i64 n)] = some (.slice (some ⟨W.next, 0, none⟩) 1 2, W.newCells 2 [.int .i64 n]) := by kernel_rfl
theorem push_tmp {W : AW} {v : Value} {l : List Int} {K : Nat → Prop} {t el : TypeId} {i : TypeInfo} (ht : T0.und.get t = some (.slice el)) (hi : T0.info.get el = some i) (hs : i.size = 1) (hz : i.zero = some (.int .i64 0)) (hby : i.bytes = 8)
    (h : GrowsN W v l.length (intsV l) el 1 K) (hl : l.length ≤ 1000) (x : Int) (hK : ∀ b, K b → b < W.next → True) :
    ∃ v' W', aAppend T0 (W.newCells el [.int .i64 x]) [t, t] [v, .slice (some ⟨W.next, 0, none⟩) 1 2] = some (v', W') ∧ W'.next = W.next + 2 ∧ GrowsN W' v' (l ++ [x]).length (intsV (l ++ [x])) el 1 (fun b => K b ∨ b = W.next + 1) ∧ Only K W W' := by
  have hE : Ext W (W.newCells el [.int .i64 x]) := .newCells _ _ _
  have h1 := h.only (K' := fun _ => False) hE (fun _ _ _ y => y)
  obtain ⟨v', W', a1, a2, a3, a4⟩ := append_growsN (T := T0) (t := t) (el := el) (c := 2) (by omega) ht hi hs hz rfl h1 (u := [.int .i64 x]) rfl (newCells_cellsAt W el [.int .i64 x] 1 rfl) rfl (by rw [hby]; omega) (by omega)
  refine ⟨v', W', a1, by rw [a2, newCells_next], ?_, ?_⟩
  · have e1 : (l ++ [x]).length = l.length + 1 := by simp
    have e2 : intsV (l ++ [x]) = intsV l ++ [.int .i64 x] := by simp [intsV]
    rw [e1, e2]
    rw [newCells_next] at a3
    exact a3
  · refine ⟨by rw [a2, newCells_next]; omega, fun b hb hk => ?_⟩
    rw [a4.2 b (by rw [newCells_next]; omega) hk]
    exact hE.2 b hb (fun y => y)
theorem z3' : Tryd.t3.zero = some (.int .i64 0) := z3
theorem by3' : Tryd.t3.bytes = 8 := by3
abbrev Bra := Tri
def Joined (l : List Bra) (wo : Int) (x y : Int) : Prop := ∃ (i : Nat) (a : Bra), l[i]? = some a ∧ (i : Int) ≠ wo ∧ ((a.1 = x ∧ a.2.1 = y) ∨ (a.1 = y ∧ a.2.1 = x))
inductive Way (l : List Bra) (wo : Int) (x : Int) : Int → Prop
  | here : Way l wo x x
  | next {y z : Int} : Way l wo x y → Joined l wo y z → Way l wo x z
def ClosedB (l : List Bra) (wo : Int) (T : Int → Prop) : Prop := ∀ y z, T y → Joined l wo y z → T z
theorem Way.within {l : List Bra} {wo x : Int} {T : Int → Prop} (hT : ClosedB l wo T) (hx : T x) {y : Int} (h : Way l wo x y) : T y := by
  induction h with
  | here => exact hx
  | next _ hj ih => exact hT _ _ ih hj
theorem Joined.symm {l : List Bra} {wo x y : Int} (h : Joined l wo x y) : Joined l wo y x := by
  obtain ⟨i, a, h1, h2, h3⟩ := h
  exact ⟨i, a, h1, h2, h3.symm⟩
def inB (T : Nat) (x : Int) : Prop := 0 ≤ x ∧ T.testBit x.toNat = true
def stepB (wo : Int) (i : Nat) (a : Bra) (T : Nat) : Nat := if (i : Int) ≠ wo ∧ T.testBit a.1.toNat ≠ T.testBit a.2.1.toNat then T ||| (1 <<< a.1.toNat ||| 1 <<< a.2.1.toNat) else T
def roundB (wo : Int) : Nat → List Bra → Nat → Nat
  | _, [], T => T
  | i, a :: l, T => roundB wo (i + 1) l (stepB wo i a T)
def roundsB (l : List Bra) (wo : Int) : Nat → Nat → Nat
  | 0, T => T
  | n + 1, T => roundsB l wo n (roundB wo 0 l T)
def BrIn (n : Nat) (l : List Bra) : Prop := ∀ a ∈ l, 0 ≤ a.1 ∧ a.1 < n ∧ 0 ≤ a.2.1 ∧ a.2.1 < n
theorem stepB_bit {wo : Int} {i : Nat} {a : Bra} {T q : Nat} : (stepB wo i a T).testBit q = (T.testBit q || (decide ((i : Int) ≠ wo ∧ T.testBit a.1.toNat ≠ T.testBit a.2.1.toNat) && (decide (a.1.toNat = q) || decide (a.2.1.toNat = q)))) := by
  unfold stepB
  split
  · rename_i h
    rw [Nat.testBit_or, Nat.testBit_or, one_bit, one_bit, decide_eq_true h]; simp
  · rename_i h
    rw [decide_eq_false h]; simp
theorem stepB_le {wo : Int} {i : Nat} {a : Bra} {T q : Nat} (h : T.testBit q = true) : (stepB wo i a T).testBit q = true := by rw [stepB_bit, h]; rfl
theorem roundB_le {wo : Int} : ∀ {l : List Bra} {i T q : Nat}, T.testBit q = true → (roundB wo i l T).testBit q = true
  | [], _, _, _, h => h
  | a :: l, i, T, q, h => by rw [roundB]; exact roundB_le (l := l) (i := i + 1) (T := stepB wo i a T) (stepB_le h)
theorem roundB_in {wo : Int} {L : List Bra} {n : Nat} {C : Int → Prop} (hC : ClosedB L wo C) (hL : BrIn n L) : ∀ (l : List Bra) (i T : Nat), (∀ (j : Nat) a, l[j]? = some a → L[i + j]? = some a) → (∀ q : Nat, T.testBit q = true → C q) → ∀ q : Nat, (roundB wo i l T).testBit q = true → C q
  | [], _, _, _, hT, q, h => hT q h
  | a :: l, i, T, hl, hT, q, h => by
    have ha := hl 0 a rfl
    rw [Nat.add_zero] at ha
    have hb := hL a (List.mem_of_getElem? ha)
    refine roundB_in hC hL l (i + 1) (stepB wo i a T) (fun j b hj => by rw [show i + 1 + j = i + (j + 1) from by omega]; exact hl (j + 1) b (by simpa using hj)) (fun r hr => ?_) q h
    rw [stepB_bit] at hr
    cases hTr : T.testBit r with
    | true => exact hT r hTr
    | false =>
      rw [hTr, Bool.false_or, Bool.and_eq_true, decide_eq_true_eq, Bool.or_eq_true, decide_eq_true_eq, decide_eq_true_eq] at hr
      obtain ⟨⟨h1, h2⟩, h3⟩ := hr
      have e1 : ((a.1.toNat : Nat) : Int) = a.1 := by omega
      have e2 : ((a.2.1.toNat : Nat) : Int) = a.2.1 := by omega
      rcases h3 with h3 | h3
      · have : T.testBit a.2.1.toNat = true := by
          rw [h3, hTr] at h2
          cases hh : T.testBit a.2.1.toNat with
          | true => rfl
          | false => exact absurd hh.symm h2
        have := hC _ _ (hT _ this) ⟨i, a, ha, h1, .inr ⟨rfl, by rw [e2]⟩⟩
        rw [← h3, e1]; exact this
      · have : T.testBit a.1.toNat = true := by
          rw [h3, hTr] at h2
          cases hh : T.testBit a.1.toNat with
          | true => rfl
          | false => exact absurd hh h2
        have := hC _ _ (hT _ this) ⟨i, a, ha, h1, .inl ⟨by rw [e1], rfl⟩⟩
        rw [← h3, e2]; exact this
theorem roundB_same {wo : Int} : ∀ {l : List Bra} {i T : Nat}, (∀ q, (roundB wo i l T).testBit q = T.testBit q) → ∀ (j : Nat) a, l[j]? = some a → ((i + j : Nat) : Int) ≠ wo → T.testBit a.1.toNat = T.testBit a.2.1.toNat
  | [], _, _, _, j, a, h, _ => by simp at h
  | b :: l, i, T, hs, j, a, h, hw => by
    have h1 : ∀ q, (stepB wo i b T).testBit q = T.testBit q := fun q => by
      cases hT : T.testBit q with
      | true => exact stepB_le hT
      | false =>
        cases hS : (stepB wo i b T).testBit q with
        | false => rfl
        | true =>
          have := roundB_le (wo := wo) (l := l) (i := i + 1) hS
          have h2 := hs q
          rw [hT] at h2
          have h2' : (roundB wo (i + 1) l (stepB wo i b T)).testBit q = false := h2
          rw [this] at h2'; cases h2'
    have e : stepB wo i b T = T := Nat.eq_of_testBit_eq h1
    cases j with
    | zero =>
      simp at h; subst h
      rw [Nat.add_zero] at hw
      apply Classical.byContradiction
      intro hne
      have ha := h1 b.1.toNat
      have hb := h1 b.2.1.toNat
      rw [stepB_bit, decide_eq_true ⟨hw, hne⟩] at ha hb
      simp [-testBit_dec] at ha hb
      rw [ha, hb] at hne
      exact hne rfl
    | succ j =>
      have hs' : ∀ q, (roundB wo (i + 1) l T).testBit q = T.testBit q := fun q => by
        have := hs q
        rw [roundB, e] at this; exact this
      exact roundB_same hs' j a (by simpa using h) (by rw [show i + 1 + j = i + (j + 1) from by omega]; exact hw)
def cntB (T : Nat) : Nat → Nat
  | 0 => 0
  | n + 1 => cntB T n + (if T.testBit n then 1 else 0)
theorem cntB_le {T U : Nat} (h : ∀ q, T.testBit q = true → U.testBit q = true) : ∀ n, cntB T n ≤ cntB U n
  | 0 => Nat.le_refl _
  | n + 1 => by
    have := cntB_le h n
    rw [cntB, cntB]
    cases hT : T.testBit n with
    | false => simp only [Bool.false_eq_true, if_false]; split <;> omega
    | true => rw [h n hT]; omega
theorem cntB_lt {T U q : Nat} (h : ∀ q, T.testBit q = true → U.testBit q = true) (h1 : T.testBit q = false) (h2 : U.testBit q = true) : ∀ n, q < n → cntB T n < cntB U n
  | 0, hq => by omega
  | n + 1, hq => by
    rw [cntB, cntB]
    by_cases e : q = n
    · subst e
      have := cntB_le h q
      rw [h1, h2]; simp; omega
    · have := cntB_lt h h1 h2 n (by omega)
      cases hT : T.testBit n with
      | false => simp only [Bool.false_eq_true, if_false]; split <;> omega
      | true => rw [h n hT]; omega
theorem cntB_max (T : Nat) : ∀ n, cntB T n ≤ n
  | 0 => Nat.le_refl _
  | n + 1 => by have := cntB_max T n; rw [cntB]; split <;> omega
theorem cntB_pos {T q : Nat} (h : T.testBit q = true) : ∀ n, q < n → 0 < cntB T n
  | 0, hq => by omega
  | n + 1, hq => by
    rw [cntB]
    by_cases e : q = n
    · subst e; rw [h]; simp
    · have := cntB_pos h n (by omega); omega
theorem rounds_fix {l : List Bra} {wo : Int} {n : Nat} (hL : BrIn n l) : ∀ (k T : Nat), (∀ q : Nat, T.testBit q = true → q < n) → n ≤ k + cntB T n → (∀ q, (roundB wo 0 l (roundsB l wo k T)).testBit q = (roundsB l wo k T).testBit q) ∧ (∀ q, T.testBit q = true → (roundsB l wo k T).testBit q = true)
  | 0, T, hT, hk => by
    have hin := roundB_in (wo := wo) (L := l) (n := n) (C := fun x => 0 ≤ x ∧ x < n) (fun y z hy ⟨i, a, h1, _, h3⟩ => by
      have := hL a (List.mem_of_getElem? h1)
      rcases h3 with ⟨_, rfl⟩ | ⟨rfl, _⟩ <;> omega) hL l 0 T (fun j a h => by rw [Nat.zero_add]; exact h) (fun q hq => by have := hT q hq; omega)
    refine ⟨fun q => ?_, fun q h => h⟩
    show (roundB wo 0 l T).testBit q = T.testBit q
    cases hq : T.testBit q with
    | true => exact roundB_le hq
    | false =>
      cases hr : (roundB wo 0 l T).testBit q with
      | false => rfl
      | true =>
        have h1 := (hin q hr).2
        have := cntB_lt (T := T) (U := roundB wo 0 l T) (fun q => roundB_le) hq hr n (by omega)
        have := cntB_max (roundB wo 0 l T) n
        omega
  | k + 1, T, hT, hk => by
    have hin := roundB_in (wo := wo) (L := l) (n := n) (C := fun x => 0 ≤ x ∧ x < n) (fun y z hy ⟨i, a, h1, _, h3⟩ => by
      have := hL a (List.mem_of_getElem? h1)
      rcases h3 with ⟨_, rfl⟩ | ⟨rfl, _⟩ <;> omega) hL l 0 T (fun j a h => by rw [Nat.zero_add]; exact h) (fun q hq => by have := hT q hq; omega)
    have hin' : ∀ q : Nat, (roundB wo 0 l T).testBit q = true → q < n := fun q hq => by have := hin q hq; omega
    rw [roundsB]
    by_cases hs : ∀ q, (roundB wo 0 l T).testBit q = T.testBit q
    · have e : roundB wo 0 l T = T := Nat.eq_of_testBit_eq hs
      have key : ∀ k, roundsB l wo k T = T := fun k => by
        induction k with
        | zero => rfl
        | succ k ih => rw [roundsB, e, ih]
      rw [e, key k]
      exact ⟨hs, fun q h => h⟩
    · have : ∃ q, (roundB wo 0 l T).testBit q = true ∧ T.testBit q = false := by
        apply Classical.byContradiction
        intro hn
        apply hs
        intro q
        cases hq : T.testBit q with
        | true => exact roundB_le hq
        | false =>
          cases hr : (roundB wo 0 l T).testBit q with
          | false => rfl
          | true => exact absurd ⟨q, hr, hq⟩ hn
      obtain ⟨q, h1, h2⟩ := this
      have hlt := cntB_lt (T := T) (U := roundB wo 0 l T) (fun q => roundB_le) h2 h1 n (hin' q h1)
      obtain ⟨g1, g2⟩ := rounds_fix hL k (roundB wo 0 l T) hin' (by omega)
      exact ⟨g1, fun q hq => g2 q (roundB_le hq)⟩
theorem reach_way {l : List Bra} {wo : Int} {n f : Nat} (hL : BrIn n l) (hf : f < n) (hn : n ≤ l.length + 1) (q : Nat) : (roundsB l wo l.length (1 <<< f)).testBit q = true ↔ Way l wo f q := by
  have h0 : ∀ q : Nat, (1 <<< f).testBit q = true → q < n := fun q hq => by rw [one_bit] at hq; simp at hq; omega
  have hc : 0 < cntB (1 <<< f) n := cntB_pos (q := f) (by rw [one_bit]; simp) n hf
  obtain ⟨g1, g2⟩ := rounds_fix (wo := wo) hL l.length (1 <<< f) h0 (by omega)
  have hin : ∀ (k T : Nat) (C : Int → Prop), ClosedB l wo C → (∀ q : Nat, T.testBit q = true → C q) → ∀ q : Nat, (roundsB l wo k T).testBit q = true → C q := by
    intro k
    induction k with
    | zero => intro T C _ hT q h; exact hT q h
    | succ k ih => intro T C hC hT q h; exact ih _ C hC (roundB_in hC hL l 0 T (fun j a h => by rw [Nat.zero_add]; exact h) hT) q h
  constructor
  · intro h
    refine hin l.length (1 <<< f) (fun x => Way l wo f x) (fun y z hy hj => .next hy hj) (fun q hq => ?_) q h
    rw [one_bit] at hq; simp at hq; subst hq; exact .here
  · intro h
    have hcl : ClosedB l wo (inB (roundsB l wo l.length (1 <<< f))) := fun y z hy ⟨i, a, h1, h2, h3⟩ => by
      have hs := roundB_same g1 i a h1 (by rw [Nat.zero_add]; exact h2)
      have hb := hL a (List.mem_of_getElem? h1)
      rcases h3 with ⟨rfl, rfl⟩ | ⟨rfl, rfl⟩
      · exact ⟨hb.2.2.1, by rw [← hs]; exact hy.2⟩
      · exact ⟨hb.1, by rw [hs]; exact hy.2⟩
    have := h.within hcl ⟨by omega, by rw [Int.toNat_natCast]; exact g2 f (by rw [one_bit]; simp)⟩
    simpa using this.2
theorem sz66 : aSize T0 66 = some 3 := by kernel_rfl
theorem field66 (b o f : Nat) (hf : f < 3) : aField T0 66 (.pointer (some ⟨b, o, none⟩)) f = some (.pointer (some ⟨b, o + f, none⟩)) := by
  match f, hf with
  | 0, _ => rfl
  | 1, _ => rfl
  | 2, _ => rfl
theorem und66 : T0.und.get 66 = some Tryd.t65.desc := by kernel_rfl
theorem agg66 : isAggD Tryd.t65.desc = true := by kernel_rfl
theorem inf66 : T0.info.get 66 = some Tryd.t66 := by kernel_rfl
theorem is66 : Tryd.t66.size = 3 := by kernel_rfl
theorem z66 : Tryd.t66.zero = some (.agg ⟨[.int .i64 0, .int .i64 0, .int .i64 0]⟩) := by kernel_rfl
theorem by66 : Tryd.t66.bytes = 24 := by kernel_rfl
theorem zero66 : aZero T0 66 = some (.agg ⟨[.int .i64 0, .int .i64 0, .int .i64 0]⟩) := by kernel_rfl
theorem below_wp (n : Nat) (hn : n ≤ 31) (W : AW) : WpF T0 82 [.int .i64 n] W (fun v W' => W' = W ∧ v = .int .u64 ((2 ^ n - 1 : Nat) : Int)) := by
  refine wpF fun82 rfl ?_
  have hp : 2 ^ n ≤ 2 ^ 31 := Nat.pow_le_pow_right (by omega) hn
  have h0 : 0 < 2 ^ n := Nat.two_pow_pos n
  have h1 : aBinI .shl .u64 1 .i64 (n : Int) = some (.int .u64 ((2 ^ n : Nat) : Int)) := by
    have := aBinI_shl .u64 .i64 1 n (by show n ≤ 64; omega) (by rw [Nat.one_mul]; show 2 ^ n < 18446744073709551616; omega)
    rw [Nat.shiftLeft_eq, Nat.one_mul] at this; exact this
  have w : IntKind.u64.wrap (((2 ^ n : Nat) : Int) - 1) = ((2 ^ n - 1 : Nat) : Int) := by
    have : (((2 ^ n : Nat) : Int) - 1) = ((2 ^ n - 1 : Nat) : Int) := by omega
    rw [this]; exact wrap_nat .u64 _ (by show 2 ^ n - 1 < 18446744073709551616; omega)
  generalize ((2 ^ n : Nat) : Int) = pw at h1 w
  generalize ((2 ^ n - 1 : Nat) : Int) = pm at w
  try simp only [wpK_assoc]
  refine wpK_reg (fun R hR => by simp []; exact hR) ?_
  try simp only [wpK_assoc]
  refine wpK_reg (fun R hR => by simp [h1, w]; exact hR) ?_
  exact wpK_ret ⟨.inr rfl, rfl, [.int .u64 pm], by simp, rfl, rfl⟩
theorem stepB_lt {wo : Int} {i : Nat} {a : Bra} {T n : Nat} (h : T < 2 ^ n) (h1 : a.1.toNat < n) (h2 : a.2.1.toNat < n) : stepB wo i a T < 2 ^ n := by
  unfold stepB
  split
  · refine Nat.or_lt_two_pow h (Nat.or_lt_two_pow ?_ ?_)
    · rw [Nat.shiftLeft_eq, Nat.one_mul]; exact Nat.pow_lt_pow_right (by omega) h1
    · rw [Nat.shiftLeft_eq, Nat.one_mul]; exact Nat.pow_lt_pow_right (by omega) h2
  · exact h
theorem roundB_snoc (wo : Int) : ∀ (l : List Bra) (i T : Nat) (a : Bra), roundB wo i (l ++ [a]) T = stepB wo (i + l.length) a (roundB wo i l T)
  | [], i, T, a => by simp [roundB]
  | b :: l, i, T, a => by
    rw [List.cons_append, roundB, roundB, roundB_snoc wo l (i + 1) _ a, List.length_cons]
    congr 1; omega
theorem roundsB_succ (l : List Bra) (wo : Int) : ∀ (n T : Nat), roundsB l wo (n + 1) T = roundB wo 0 l (roundsB l wo n T)
  | 0, _ => rfl
  | n + 1, T => by rw [roundsB, roundsB_succ l wo n, roundsB]
theorem reach_wp {W : AW} {v : Value} {l : List Bra} {n f : Nat} (h : TriIn W v l) (hl : l.length ≤ 100) (hL : BrIn n l) (hn : n ≤ 31) (hf : f < n) (wo : Int) :
    WpF T0 69 [v, .int .i64 f, .int .i64 wo] W (fun u W' => Ext W W' ∧ u = .int .u64 ((roundsB l wo l.length (1 <<< f) : Nat) : Int) ∧ roundsB l wo l.length (1 <<< f) < 2 ^ n) := by
  obtain ⟨Av, cv, rfl, hA⟩ := h
  refine wpF fun69 rfl ?_
  have hp : 2 ^ n ≤ 2 ^ 31 := Nat.pow_le_pow_right (by omega) hn
  have h1 := one_wp f (by omega) W
  have hof : 1 <<< f < 2 ^ n := by rw [Nat.shiftLeft_eq, Nat.one_mul]; exact Nat.pow_lt_pow_right (by omega) hf
  generalize h1f : 1 <<< f = s0 at h1 hof
  try simp only [wpK_assoc]
  refine wpK_reg (fun R hR => by simp []; exact hR) ?_
  try simp only [wpK_assoc]
  refine wpK_reg (fun R hR => by
      simp [aEnter, fun54, short_other, aCallV]; rw [callS_none]
      refine (h1).mono ?_
      rintro _ W9 ⟨e9, rfl⟩; subst W9
      simp []; exact hR) ?_
  try simp only [wpK_assoc]
  refine wpK_reg (fun R hR => by simp [len_slice und59]; exact hR) ?_
  try simp only [wpK_assoc]
  refine wpK_while (I := fun k A W' => A.n = 49 ∧ A.defers = [] ∧ A.tmps.get 0 = some (.slice Av l.length cv) ∧ A.tmps.get 2 = some (.int .i64 wo) ∧ A.tmps.get 13 = some (.int .i64 l.length) ∧ Ext W W' ∧ ∃ i T : Nat, k = l.length - i ∧ i ≤ l.length ∧ A.tmps.get 14 = some (.int .i64 i) ∧ T = roundsB l wo i s0 ∧ T < 2 ^ n ∧ A.tmps.get 7 = some (.int .u64 (T : Int)))
    (J := fun A W' => A.n = 49 ∧ A.defers = [] ∧ Ext W W' ∧ ∃ T : Nat, T = roundsB l wo l.length s0 ∧ T < 2 ^ n ∧ A.tmps.get 7 = some (.int .u64 (T : Int)))
    (Rt := fun _ _ => False) (k := l.length) ?_ ?_ ?_ ?_
  · exact ⟨rfl, rfl, by simp, by simp, by simp, .refl _ _, 0, s0, by simp, by omega, by simp, rfl, hof, by simp⟩
  · rintro k ⟨tm, n, ds⟩ W3 ⟨hn, hd, h0, h2, h13, e3, i, T, hk, hi, h14, hT, hTn, h7⟩ Q' hJ hRt hI
    simp only at hn hd h0 h2 h13
    subst hn; subst hd
    simp only at h14 h7
    try simp only [wpK_assoc]
    refine wpK_reg (fun R hR => by simp [h13, h14]; exact hR) ?_
    by_cases hlt : i < l.length
    case neg =>
      have e : i = l.length := by omega
      try simp only [wpK_assoc]
      first | refine wpK_onF (by simp [hlt]) ?_ | refine wpK_out (by simp [hlt]) ?_ | refine wpK_condF (by simp [hlt]) ?_ | refine wpK_endF (by simp [hlt]) (wpK_skip ?_) | refine wpK_endF (by simp [hlt]) ?_
      exact hJ _ _ ⟨rfl, rfl, e3, T, by rw [hT, e], hTn, by simp [h7]⟩
    try simp only [wpK_assoc]
    first | refine wpK_onT (by simp [hlt]) ?_ | refine wpK_outT (by simp [hlt]) ?_ | refine wpK_condT (by simp [hlt]) ?_ | refine wpK_endT (by simp [hlt]) ?_
    have hsi : IntKind.i64.wrap ((i : Int) + 1) = ((i + 1 : Nat) : Int) := i64_succ i (by omega)
    refine wpK_block ?_
    try simp only [wpK_assoc]
    refine wpK_reg (fun R hR => by simp [h0, len_slice und59]; exact hR) ?_
    try simp only [wpK_assoc]
    refine wpK_while1 (I := fun k A W' => A.n = 49 ∧ A.defers = [] ∧ A.tmps.get 0 = some (.slice Av l.length cv) ∧ A.tmps.get 2 = some (.int .i64 wo) ∧ A.tmps.get 13 = some (.int .i64 l.length) ∧ A.tmps.get 14 = some (.int .i64 i) ∧ A.tmps.get 16 = some (.slice Av l.length cv) ∧ A.tmps.get 17 = some (.int .i64 l.length) ∧ Ext W W' ∧ ∃ j U : Nat, k = l.length - j ∧ j ≤ l.length ∧ A.tmps.get 18 = some (.int .i64 j) ∧ U = roundB wo 0 (l.take j) T ∧ U < 2 ^ n ∧ A.tmps.get 7 = some (.int .u64 (U : Int)))
      (J := fun A W' => A.n = 49 ∧ A.defers = [] ∧ A.tmps.get 0 = some (.slice Av l.length cv) ∧ A.tmps.get 2 = some (.int .i64 wo) ∧ A.tmps.get 13 = some (.int .i64 l.length) ∧ Ext W W' ∧ A.tmps.get 14 = some (.int .i64 i) ∧ ∃ U : Nat, U = roundB wo 0 l T ∧ U < 2 ^ n ∧ A.tmps.get 7 = some (.int .u64 (U : Int)))
      (Rt := fun _ _ => False) (k := l.length) ?_ ?_ ?_ ?_
    · exact ⟨rfl, rfl, by simp [h0, h2, h13, h14], by simp [h0, h2, h13, h14], by simp [h0, h2, h13, h14], by simp [h0, h2, h13, h14], by simp [h0, h2, h13, h14], by simp [h0, h2, h13, h14], e3, 0, T, by simp, by omega, by simp, by simp [roundB], hTn, by simp [h7]⟩
    · rintro kk ⟨tm, n, ds⟩ W4 ⟨hn, hd, h0, h2, h13, h14, h16, h17, e4, j, U, hkk, hj, h18, hU, hUn, h7⟩ Q3 hJ3 hRt3 hI3
      simp only at hn hd h0 h2 h13 h14 h16 h17
      subst hn; subst hd
      simp only at h18 h7
      try simp only [wpK_assoc]
      refine wpK_reg (fun R hR => by simp [h17, h18]; exact hR) ?_
      by_cases hltj : j < l.length
      case neg =>
        have e : j = l.length := by omega
        rw [e, List.take_length] at hU
        try simp only [wpK_assoc]
        first | refine wpK_onF (by simp [hltj]) ?_ | refine wpK_out (by simp [hltj]) ?_ | refine wpK_condF (by simp [hltj]) ?_ | refine wpK_endF (by simp [hltj]) (wpK_skip ?_) | refine wpK_endF (by simp [hltj]) ?_
        exact hJ3 _ _ ⟨rfl, rfl, by simp [h0, h2, h13], by simp [h0, h2, h13], by simp [h0, h2, h13], e4, by simp [h14], U, hU, hUn, by simp [h7]⟩
      try simp only [wpK_assoc]
      first | refine wpK_onT (by simp [hltj]) ?_ | refine wpK_outT (by simp [hltj]) ?_ | refine wpK_condT (by simp [hltj]) ?_ | refine wpK_endT (by simp [hltj]) ?_
      have ha : l[j]? = some l[j] := List.getElem?_eq_getElem hltj
      have hmem : l[j] ∈ l := List.getElem_mem hltj
      generalize l[j] = a at ha hmem
      have hb := hL a hmem
      have hsn : roundB wo 0 (l.take (j + 1)) T = stepB wo j a U := by
        have : l.take (j + 1) = l.take j ++ [a] := by rw [List.take_add_one, ha]; rfl
        rw [this, roundB_snoc, ← hU, List.length_take, Nat.zero_add, Nat.min_eq_left (by omega)]
      have hslt := stepB_lt (wo := wo) (i := j) (a := a) hUn (show a.1.toNat < n by omega) (show a.2.1.toNat < n by omega)
      obtain ⟨a1, a2, a3⟩ := a
      simp only at hb
      obtain ⟨x, rfl⟩ : ∃ x : Nat, a1 = x := ⟨a1.toNat, by omega⟩
      obtain ⟨y, rfl⟩ : ∃ y : Nat, a2 = y := ⟨a2.toNat, by omega⟩
      obtain ⟨b, o, hAv, q1, q2, q3⟩ := hA j _ ha
      have eV := indexAddr_tri (T := T0) und59 sz66 (b := b) (o := o) (c := cv) (k := .i64) hltj
      rw [← hAv] at eV
      have hl3 := load3 (T := T0) und66 agg66 inf66 is66 (q1.ext e4) (q2.ext e4) (q3.ext e4)
      obtain ⟨W5, s1, s2, hE5, hV5⟩ := storeVar_new (T := T0) (W := W4) (t := 66) (v := .agg ⟨[.int .i64 x, .int .i64 y, .int .i64 a3]⟩) (z := [.int .i64 0, .int .i64 0, .int .i64 0]) inf66 (by rw [is66]; rfl) (by rw [is66]; rfl) rfl
      have e5 := e4.trans hE5
      have lx : aLoadVar T0 W5 3 W4.next 0 = some (.int .i64 x) := hV5.load1 (T := T0) und3 rfl (j := 0) (v := .int .i64 x) rfl
      have ly : aLoadVar T0 W5 3 W4.next 1 = some (.int .i64 y) := hV5.load1 (T := T0) und3 rfl (j := 1) (v := .int .i64 y) rfl
      have hsj : IntKind.i64.wrap ((j : Int) + 1) = ((j + 1 : Nat) : Int) := i64_succ j (by omega)
      refine wpK_block ?_
      try simp only [wpK_assoc]
      refine wpK_reg (fun R hR => by simp [h16, h18, eV, hl3, zero66, s1]; exact hR) ?_
      have hx1 := has_wp U x (by omega) (by omega) W5
      have hy1 := has_wp U y (by omega) (by omega) W5
      obtain ⟨bx, hbx⟩ : ∃ c : Bool, c = U.testBit x := ⟨_, rfl⟩
      obtain ⟨by', hby⟩ : ∃ c : Bool, c = U.testBit y := ⟨_, rfl⟩
      rw [← hbx] at hx1
      rw [← hby] at hy1
      refine wpK_cut1 (J := fun A W' => A.n = 49 ∧ A.defers = [] ∧ A.tmps.get 0 = some (.slice Av l.length cv) ∧ A.tmps.get 2 = some (.int .i64 wo) ∧ A.tmps.get 13 = some (.int .i64 l.length) ∧ A.tmps.get 14 = some (.int .i64 i) ∧ A.tmps.get 16 = some (.slice Av l.length cv) ∧ A.tmps.get 17 = some (.int .i64 l.length) ∧ W' = W5 ∧ A.tmps.get 18 = some (.int .i64 j) ∧ A.tmps.get 7 = some (.int .u64 ((stepB wo j ((x : Int), (y : Int), a3) U : Nat) : Int))) (fun Q2 hQ2 => ?_) ?_
      · by_cases c1 : (j : Int) = wo
        · have hst : stepB wo j ((x : Int), (y : Int), a3) U = U := by unfold stepB; rw [if_neg (fun h => h.1 c1)]
          try simp only [wpK_assoc]
          refine wpK_dn (wr := Tr.nil |>.set 23 0 |>.set 24 1 |>.set 25 2 |>.set 26 3 |>.set 27 4 |>.set 28 5 |>.set 29 6 |>.set 30 7 |>.set 31 8 |>.set 32 9 |>.set 33 10 |>.set 34 11 |>.set 35 12 |>.set 36 13) (bits := Tr.nil.lay 0 [0, 0, 3, 7, 15, 15, 47, 127, 15, 15, 527, 2047, 4095, 8191]) (ord := [0, 1, 2, 3, 4, 5, 6, 7, 8, 9, 10, 11, 12, 13]) (by kernel_rfl) (by kernel_rfl) (by kernel_rfl) (fun G hG => by
            simp [h2, c1, undef]
            exact hG) ?_
          refine wpK_endF (by simp) (wpK_skip (hQ2 _ _ ⟨rfl, rfl, by simp [h0, h2, h13, h14, h16, h17], by simp [h0, h2, h13, h14, h16, h17], by simp [h0, h2, h13, h14, h16, h17], by simp [h0, h2, h13, h14, h16, h17], by simp [h0, h2, h13, h14, h16, h17], by simp [h0, h2, h13, h14, h16, h17], rfl, by simp [h18], by rw [hst]; simp [h7]⟩))
        by_cases c2 : bx = by'
        · have hst : stepB wo j ((x : Int), (y : Int), a3) U = U := by
            unfold stepB; rw [if_neg (fun h => h.2 (by
              show U.testBit ((x : Int)).toNat = U.testBit ((y : Int)).toNat
              rw [Int.toNat_natCast, Int.toNat_natCast, ← hbx, ← hby]; exact c2))]
          subst c2
          clear hbx hby
          try simp only [wpK_assoc]
          refine wpK_dn (wr := Tr.nil |>.set 23 0 |>.set 24 1 |>.set 25 2 |>.set 26 3 |>.set 27 4 |>.set 28 5 |>.set 29 6 |>.set 30 7 |>.set 31 8 |>.set 32 9 |>.set 33 10 |>.set 34 11 |>.set 35 12 |>.set 36 13) (bits := Tr.nil.lay 0 [0, 0, 3, 7, 15, 15, 47, 127, 15, 15, 527, 2047, 4095, 8191]) (ord := [0, 1, 2, 3, 4, 5, 6, 7, 8, 9, 10, 11, 12, 13]) (by kernel_rfl) (by kernel_rfl) (by kernel_rfl) (fun G hG => by
            simp [h2, h7, c1, lx, aEnter, fun62, short_other, aCallV, field66]
            rw [dcallS_none]
            refine hx1.mono ?_
            rintro _ W9 ⟨e9, rfl⟩; subst W9
            simp [h2, h7, c1, lx, ly, aEnter, fun62, short_other, aCallV, field66]
            rw [dcallS_none]
            refine hy1.mono ?_
            rintro _ W9 ⟨e9, rfl⟩; subst W9
            simp [h2, h7, c1, lx, ly, aGuard, aBinO, aEq, und4, field66]
            exact hG) ?_
          refine wpK_endF (by simp) (wpK_skip (hQ2 _ _ ⟨rfl, rfl, by simp [h0, h2, h13, h14, h16, h17], by simp [h0, h2, h13, h14, h16, h17], by simp [h0, h2, h13, h14, h16, h17], by simp [h0, h2, h13, h14, h16, h17], by simp [h0, h2, h13, h14, h16, h17], by simp [h0, h2, h13, h14, h16, h17], rfl, by simp [h18], by rw [hst]; simp [h7]⟩))
        · have hst : stepB wo j ((x : Int), (y : Int), a3) U = U ||| (1 <<< x ||| 1 <<< y) := by
            unfold stepB; rw [if_pos ⟨c1, by
              show ¬ U.testBit ((x : Int)).toNat = U.testBit ((y : Int)).toNat
              rw [Int.toNat_natCast, Int.toNat_natCast, ← hbx, ← hby]; exact c2⟩]; rfl
          clear hbx hby
          have o1 := one_wp x (by omega) W5
          have o2 := one_wp y (by omega) W5
          have ho1 := one_lt (p := x) (by omega)
          have ho2 := one_lt (p := y) (by omega)
          have hor1 := aBinI_or .u64 (1 <<< x) (1 <<< y) ho1 ho2
          have hlt2 : 1 <<< x ||| 1 <<< y < 18446744073709551616 := Nat.or_lt_two_pow (n := 64) ho1 ho2
          have hor2 := aBinI_or .u64 U (1 <<< x ||| 1 <<< y) (by show U < 18446744073709551616; omega) hlt2
          generalize U ||| (1 <<< x ||| 1 <<< y) = r2 at hor2 hst
          generalize 1 <<< x ||| 1 <<< y = r1 at hor1 hor2
          generalize 1 <<< x = r3 at hor1 o1
          generalize 1 <<< y = r4 at hor1 o2
          have hne : (bx == by') = false := by simpa using c2
          try simp only [wpK_assoc]
          refine wpK_dn (wr := Tr.nil |>.set 23 0 |>.set 24 1 |>.set 25 2 |>.set 26 3 |>.set 27 4 |>.set 28 5 |>.set 29 6 |>.set 30 7 |>.set 31 8 |>.set 32 9 |>.set 33 10 |>.set 34 11 |>.set 35 12 |>.set 36 13) (bits := Tr.nil.lay 0 [0, 0, 3, 7, 15, 15, 47, 127, 15, 15, 527, 2047, 4095, 8191]) (ord := [0, 1, 2, 3, 4, 5, 6, 7, 8, 9, 10, 11, 12, 13]) (by kernel_rfl) (by kernel_rfl) (by kernel_rfl) (fun G hG => by
            simp [h2, h7, c1, lx, aEnter, fun62, short_other, aCallV, field66]
            rw [dcallS_none]
            refine hx1.mono ?_
            rintro _ W9 ⟨e9, rfl⟩; subst W9
            simp [h2, h7, c1, lx, ly, aEnter, fun62, short_other, aCallV, field66]
            rw [dcallS_none]
            refine hy1.mono ?_
            rintro _ W9 ⟨e9, rfl⟩; subst W9
            simp [h2, h7, c1, lx, ly, aGuard, aBinO, aEq, und4, field66, hne]
            exact hG) ?_
          try simp only [wpK_assoc]
          first | refine wpK_onT (by simp []) ?_ | refine wpK_outT (by simp []) ?_ | refine wpK_condT (by simp []) ?_ | refine wpK_endT (by simp []) ?_
          try simp only [wpK_assoc]
          refine wpK_qn (wr := Tr.nil |>.set 37 0 |>.set 38 1 |>.set 39 2 |>.set 40 3 |>.set 41 4 |>.set 42 5 |>.set 43 6 |>.set 44 7 |>.set 45 8 |>.set 7 9) (bits := Tr.nil.lay 0 [0, 0, 2, 6, 0, 16, 62, 126, 255, 511]) (ord := [0, 1, 2, 3, 4, 5, 6, 7, 8, 9]) (by kernel_rfl) (by kernel_rfl) (by kernel_rfl) (fun G hG => by
            simp [h7, lx, aEnter, fun54, short_other, aCallV, field66]
            rw [dcallS_none]
            refine o1.mono ?_
            rintro _ W9 ⟨e9, rfl⟩; subst W9
            simp [h7, lx, ly, aEnter, fun54, short_other, aCallV, field66]
            rw [dcallS_none]
            refine o2.mono ?_
            rintro _ W9 ⟨e9, rfl⟩; subst W9
            simp [h7, lx, ly, hor1, hor2, field66]
            exact hG) ?_
          exact hQ2 _ _ ⟨rfl, rfl, by simp [h0, h2, h13, h14, h16, h17], by simp [h0, h2, h13, h14, h16, h17], by simp [h0, h2, h13, h14, h16, h17], by simp [h0, h2, h13, h14, h16, h17], by simp [h0, h2, h13, h14, h16, h17], by simp [h0, h2, h13, h14, h16, h17], rfl, by simp [h18], by rw [hst]; simp⟩
      rintro ⟨tm, n, ds⟩ W6 ⟨hn, hd, h0, h2, h13, h14, h16, h17, rfl, h18, h7⟩
      simp only at hn hd h0 h2 h13 h14 h16 h17
      subst hn; subst hd
      simp only at h18 h7
      try simp only [wpK_assoc]
      refine wpK_reg1 (fun R hR => by simp [h18, hsj]; exact hR) ?_
      exact hI3 (kk - 1) _ _ (by omega) ⟨rfl, rfl, by simp [h0, h2, h13, h14, h16, h17], by simp [h0, h2, h13, h14, h16, h17], by simp [h0, h2, h13, h14, h16, h17], by simp [h0, h2, h13, h14, h16, h17], by simp [h0, h2, h13, h14, h16, h17], by simp [h0, h2, h13, h14, h16, h17], e5, j + 1, _, by omega, by omega, by simp, hsn.symm, hslt, by simp [h7]⟩
    · rintro A' W' hf; exact hf.elim
    · rintro ⟨tm, n, ds⟩ W4 ⟨hn, hd, h0, h2, h13, e4, h14, U, hU, hUn, h7⟩
      simp only at hn hd h0 h2 h13
      subst hn; subst hd
      simp only at h14 h7
      try simp only [wpK_assoc]
      refine wpK_reg1 (fun R hR => by simp [h14, hsi]; exact hR) ?_
      exact hI (k - 1) _ _ (by omega) ⟨rfl, rfl, by simp [h0, h2, h13], by simp [h0, h2, h13], by simp [h0, h2, h13], e4, i + 1, U, by omega, by omega, by simp, by rw [roundsB_succ, ← hT, hU], hUn, by simp [h7]⟩
  · rintro A' W' hf; exact hf.elim
  · rintro ⟨tm, n', ds⟩ W3 ⟨hn', hd, e3, T, hT, hTn, h7⟩
    simp only at hn' hd h7
    subst hn'; subst hd
    try simp only [wpK_assoc]
    refine wpK_reg (fun R hR => by simp [h7]; exact hR) ?_
    exact wpK_ret ⟨.inr rfl, rfl, [.int .u64 (T : Int)], by simp, e3, by rw [hT]; rfl, by rw [← hT]; exact hTn⟩
theorem flt_bs22 {ρ : Operand → Option Value} {o : Operand} {x y z : Int} (h : ρ o = some (.agg ⟨[.int .i64 x, .int .i64 y, .int .i64 z]⟩)) : aFlt T0 ρ (.buildSlice 22 1 #[(0, o)]) = some ⟨78, [.int .i64 x, .int .i64 y, .int .i64 z], false, 1, 1⟩ := by
  have hp : aParts ρ [(0, o)] = some [(0, .agg ⟨[.int .i64 x, .int .i64 y, .int .i64 z]⟩)] := by simp [aParts, h]
  have hf : aFill (fun j => some (j * 3, 3)) (rep [.int .i64 0, .int .i64 0, .int .i64 0] 1) [(0, .agg ⟨[.int .i64 x, .int .i64 y, .int .i64 z]⟩)] = some [.int .i64 x, .int .i64 y, .int .i64 z] := by kernel_rfl
  simp only [aFlt, hp, und22, inf78, z78, is78, acells]
  rw [show Nat.ble (1 * 3) 16777216 = true from rfl]
  simp only [List.length_cons, List.length_nil, Nat.beq_refl]
  rw [hf]
theorem flt_bs25 {ρ : Operand → Option Value} {o : Operand} {x y z : Int} (h : ρ o = some (.agg ⟨[.int .i64 x, .int .i64 y, .int .i64 z]⟩)) : aFlt T0 ρ (.buildSlice 25 1 #[(0, o)]) = some ⟨109, [.int .i64 x, .int .i64 y, .int .i64 z], false, 1, 1⟩ := by
  have hp : aParts ρ [(0, o)] = some [(0, .agg ⟨[.int .i64 x, .int .i64 y, .int .i64 z]⟩)] := by simp [aParts, h]
  have hf : aFill (fun j => some (j * 3, 3)) (rep [.int .i64 0, .int .i64 0, .int .i64 0] 1) [(0, .agg ⟨[.int .i64 x, .int .i64 y, .int .i64 z]⟩)] = some [.int .i64 x, .int .i64 y, .int .i64 z] := by kernel_rfl
  simp only [aFlt, hp, und25, inf109, z109, is109, acells]
  rw [show Nat.ble (1 * 3) 16777216 = true from rfl]
  simp only [List.length_cons, List.length_nil, Nat.beq_refl]
  rw [hf]
theorem build109 (x y z : Int) : aBuild T0 109 [(0, .int .i64 x), (1, .int .i64 y), (2, .int .i64 z)] = some (.agg ⟨[.int .i64 x, .int .i64 y, .int .i64 z]⟩) := by kernel_rfl
theorem tamed_wp (pl m : Nat) (hpl : 2 ≤ pl) (hpl2 : pl ≤ 24) (hm : m ≤ 1000) {W : AW} {v : Value} (N0 : Int) {l : List Tri} (h : TriIn W v l) (hlen : l.length < 9223372036854775808) :
    WpF T0 42 [.agg ⟨[.int .i64 N0, v]⟩, .int .i64 pl, .int .i64 m] W (fun u W' => Ext W W' ∧ ∃ (P : Nat) (l' : List Tri) (v' : Value), TameOk P pl m l' ∧ u = .agg ⟨[.int .i64 P, v']⟩ ∧ GrowsN W' v' l'.length (flat3 l') 109 3 (fun b => W.next ≤ b)) := by
  obtain ⟨A, c, rfl, hA⟩ := h
  refine wpF fun42 rfl ?_
  obtain ⟨W1, hW1, hE1, hn1, hV0, hV1⟩ : ∃ W1, W1 = (W.newCells 27 [.int .i64 N0, .slice A l.length c]).newCells 27 [.int .i64 0, .slice none 0 0] ∧ Ext W W1 ∧ W1.next = W.next + 2 ∧ Var W1 W.next 27 [.int .i64 N0, .slice A l.length c] ∧ Var W1 (W.next + 1) 27 [.int .i64 0, .slice none 0 0] :=
    ⟨_, rfl, (Only.newCells _ _ _).trans (Only.newCells _ _ _), rfl, (Var.new _ _ _).ext (.newCells _ _ _), Var.new _ _ _⟩
  obtain ⟨W2, s1, s2, hE2, hV2⟩ := storeVar_new (T := T0) (W := W1) (t := 24) (v := .agg ⟨[.int .i64 N0, .slice none 0 0]⟩) (z := [.int .i64 0, .slice none 0 0]) inf24 (by rw [is24]; rfl) (by rw [is24]; rfl) rfl
  have hl0 := hV0.load1 (T := T0) und3 rfl (j := 0) (v := .int .i64 N0) rfl
  try simp only [wpK_assoc]
  refine wpK_reg (fun R hR => by simp [zero27, newCells_next, ← hW1]; exact hR) ?_
  try simp only [wpK_assoc]
  refine wpK_reg (fun R hR => by simp [hl0, build24, zero24, s1]; exact hR) ?_
  try simp only [wpK_assoc]
  refine wpK_reg (fun R hR => by simp []; exact hR) ?_
  have hE12 := hE1.trans hE2
  have hV02 := hV0.ext hE2
  have hV12 := hV1.ext hE2
  rw [hn1] at hV2 s2
  have l01 : ∀ W', Ext W2 W' → aLoadVar T0 W' 25 W.next 1 = some (.slice A l.length c) := fun W' h => (hV02.ext h).load1 (T := T0) und25 rfl (j := 1) (v := .slice A l.length c) rfl
  try simp only [wpK_assoc]
  refine wpK_while (I := fun k B W' => B.n = 94 ∧ B.defers = [] ∧ B.tmps.get 1 = some (.int .i64 pl) ∧ B.tmps.get 2 = some (.int .i64 m) ∧ B.tmps.get 3 = some (.pointer (some ⟨W.next, 0, none⟩)) ∧ B.tmps.get 6 = some (.pointer (some ⟨W.next + 1, 0, none⟩)) ∧ B.tmps.get 7 = some (.pointer (some ⟨W.next + 2, 0, none⟩)) ∧ Only (fun b => b = W.next + 2) W2 W' ∧ ∃ (i : Nat) (w : Value), k = l.length - i ∧ i ≤ l.length ∧ i ≤ m ∧ B.tmps.get 8 = some (.int .i64 i) ∧ Var W' (W.next + 2) 24 [.int .i64 N0, w] ∧ GrowsN W' w i (flat3 (l.take i)) 78 3 (fun b => W2.next ≤ b))
    (J := fun B W' => B.n = 94 ∧ B.defers = [] ∧ B.tmps.get 1 = some (.int .i64 pl) ∧ B.tmps.get 2 = some (.int .i64 m) ∧ B.tmps.get 3 = some (.pointer (some ⟨W.next, 0, none⟩)) ∧ B.tmps.get 6 = some (.pointer (some ⟨W.next + 1, 0, none⟩)) ∧ B.tmps.get 7 = some (.pointer (some ⟨W.next + 2, 0, none⟩)) ∧ Only (fun b => b = W.next + 2) W2 W' ∧ ∃ (w : Value) (l1 : List Tri), Var W' (W.next + 2) 24 [.int .i64 N0, w] ∧ TriIn W' w l1 ∧ l1.length < 9223372036854775808) (Rt := fun _ _ => False) (k := l.length) ?_ ?_ ?_ ?_
  · exact ⟨rfl, rfl, by simp [hn1], by simp [hn1], by simp [hn1], by simp [hn1], by simp [hn1], Only_refl _, 0, .slice none 0 0, by simp, by omega, by omega, by simp, hV2, .nil _ _ _ _⟩
  · rintro k ⟨tm, n, ds⟩ W3 ⟨hn, hd, h1, h2, h3, h6, h7, hO3, i, w, hk, hi, him, h8, hV3, hGr⟩ Q' hJ hRt hI
    simp only at hn hd h1 h2 h3 h6 h7
    subst hn; subst hd
    simp only at h8
    have n3 := hO3.1
    have hV03 := hV02.only hO3 (by omega)
    have l03 := hV03.load1 (T := T0) und25 rfl (j := 1) (v := .slice A l.length c) rfl
    have out : ∀ (tm' : Tr Value), tm'.get 1 = some (.int .i64 pl) → tm'.get 2 = some (.int .i64 m) → tm'.get 3 = some (.pointer (some ⟨W.next, 0, none⟩)) → tm'.get 6 = some (.pointer (some ⟨W.next + 1, 0, none⟩)) → tm'.get 7 = some (.pointer (some ⟨W.next + 2, 0, none⟩)) → Q' (.exit 0) ⟨tm', 94, []⟩ W3 := fun tm' x1 x2 x3 x6 x7 =>
      hJ _ _ ⟨rfl, rfl, x1, x2, x3, x6, x7, hO3, w, l.take i, hV3, GrowsN.tri (by rw [List.length_take, Nat.min_eq_left hi]; exact hGr), by rw [List.length_take]; omega⟩
    by_cases hlt : i < l.length
    case neg =>
      try simp only [wpK_assoc]
      refine wpK_reg (fun R hR => by simp [h3, h8, l03, len_slice und25, hlt, undef]; exact hR) ?_
      try simp only [wpK_assoc]
      first | refine wpK_onF (by simp []) ?_ | refine wpK_out (by simp []) ?_ | refine wpK_condF (by simp []) ?_ | refine wpK_endF (by simp []) (wpK_skip ?_) | refine wpK_endF (by simp []) ?_
      exact out _ (by simp [h1]) (by simp [h2]) (by simp [h3]) (by simp [h6]) (by simp [h7])
    by_cases hltm : i < m
    case neg =>
      try simp only [wpK_assoc]
      refine wpK_reg (fun R hR => by simp [h2, h3, h8, l03, len_slice und25, hlt, hltm]; exact hR) ?_
      try simp only [wpK_assoc]
      first | refine wpK_onF (by simp []) ?_ | refine wpK_out (by simp []) ?_ | refine wpK_condF (by simp []) ?_ | refine wpK_endF (by simp []) (wpK_skip ?_) | refine wpK_endF (by simp []) ?_
      exact out _ (by simp [h1]) (by simp [h2]) (by simp [h3]) (by simp [h6]) (by simp [h7])
    try simp only [wpK_assoc]
    refine wpK_reg (fun R hR => by simp [h2, h3, h8, l03, len_slice und25, hlt, hltm]; exact hR) ?_
    try simp only [wpK_assoc]
    first | refine wpK_onT (by simp []) ?_ | refine wpK_outT (by simp []) ?_ | refine wpK_condT (by simp []) ?_ | refine wpK_endT (by simp []) ?_
    have hl1 : i ≤ 1000 := by omega
    have ha : l[i]? = some l[i] := List.getElem?_eq_getElem hlt
    generalize l[i] = a at ha
    obtain ⟨b', o, rfl, q1, q2, q3⟩ := hA i a ha
    have eV := indexAddr_tri (T := T0) und25 sz109 (b := b') (o := o) (c := c) (k := .i64) hlt
    have n2 := hE12.1
    have hq : ∀ {W' : AW}, Only (fun b => b = W.next + 2 ∨ W2.next ≤ b) W2 W' → aLoadVar T0 W' 25 W.next 1 = some (.slice (some ⟨b', o, none⟩) l.length c) ∧ aLoadVar T0 W' 3 b' (o + 3 * i) = some (.int .i64 a.1) ∧ aLoadVar T0 W' 3 b' (o + 3 * i + 1) = some (.int .i64 a.2.1) ∧ aLoadVar T0 W' 2 b' (o + 3 * i + 2) = some (.int .i64 a.2.2) := fun {W'} hO =>
      ⟨(hV02.only hO (by omega)).load1 (T := T0) und25 rfl (j := 1) (v := .slice (some ⟨b', o, none⟩) l.length c) rfl,
       load_of und3 rfl ((q1.ext hE12).only hO (by have := q1.1; omega)), load_of und3 rfl ((q2.ext hE12).only hO (by have := q2.1; omega)), load_of und2 rfl ((q3.ext hE12).only hO (by have := q3.1; omega))⟩
    have oW3 : Only (fun b => b = W.next + 2 ∨ W2.next ≤ b) W2 W3 := ⟨hO3.1, fun b hb hk => hO3.2 b hb (fun e => hk (.inl e))⟩
    have hl2 := hV3.load1 (T := T0) und22 rfl (j := 1) (v := w) rfl
    obtain ⟨w', W4, W5, a1, a2, a3, a4, a5, a6, a7⟩ := Var.push (T := T0) (t := 22) (el := 78) (i := Tryd.t78) (it := Tryd.t22) (sz := 3) (by omega) und22 inf78 is78 z78 rfl inf22 is22 hGr hV3 (o := 1) (by omega) (by simp) (u := cells3 a) rfl (oneCells_tri a) (by rw [by78]; omega) (by omega)
    have a1 : aAppend T0 (W3.newCells 78 [.int .i64 a.1, .int .i64 a.2.1, .int .i64 a.2.2]) [22, 22] [w, .slice (some ⟨W3.next, 0, none⟩) 1 2] = some (w', W4) := a1
    obtain ⟨p1, p2, p3, p4⟩ := hq oW3
    have oWf : Only (fun b => b = W.next + 2 ∨ W2.next ≤ b) W2 (W3.newCells 78 [.int .i64 a.1, .int .i64 a.2.1, .int .i64 a.2.2]) := ⟨by rw [newCells_next]; omega, fun b hb hk => by rw [newCells_get, if_neg (by omega)]; exact oW3.2 b hb hk⟩
    obtain ⟨r1, r2, r3, r4⟩ := hq oWf
    have fb := fun (ρ : Operand → Option Value) (o : Operand) => flt_bs22 (ρ := ρ) (o := o) (x := a.1) (y := a.2.1) (z := a.2.2)
    have fr1 := freshB_new W3 78 [.int .i64 a.1, .int .i64 a.2.1, .int .i64 a.2.2] (by simp [listEq, valEq])
    have hsi : IntKind.i64.wrap ((i : Int) + 1) = ((i + 1 : Nat) : Int) := i64_succ i (by omega)
    refine wpK_block ?_
    try simp only [wpK_assoc]
    refine wpK_reg (fun R hR => by simp [h7, hl2]; exact hR) ?_
    try simp only [wpK_assoc]
    refine wpK_qn (wr := Tr.nil |>.set 31 0 |>.set 32 1 |>.set 33 2 |>.set 34 3 |>.set 35 4 |>.set 36 5 |>.set 37 6 |>.set 38 7 |>.set 39 8 |>.set 40 9 |>.set 41 10 |>.set 42 11 |>.set 43 12 |>.set 44 13 |>.set 45 14 |>.set 46 15 |>.set 47 16 |>.set 48 17 |>.set 49 18 |>.set 50 19 |>.set 51 20 |>.set 52 21 |>.set 53 22) (bits := Tr.nil.lay 0 [0, 0, 2, 0, 14, 30, 62, 0, 128, 0, 896, 1920, 3968, 0, 8192, 0, 57344, 122880, 253952, 524286, 1048574, 2097151, 4194303, 8388607]) (ord := [0, 1, 2, 3, 4, 5, 6, 7, 8, 9, 10, 11, 12, 13, 14, 15, 16, 17, 18, 19, 20, 21, 22, 23]) (by kernel_rfl) (by kernel_rfl) (by kernel_rfl) (fun G hG => by
      simp [h3, h7, h8, p1, p2, p3, p4, r1, r2, r3, r4, eV, build78', fb, AFlt.val, fr1, a1, a2, a3, a4, newCells_next]
      exact hG) ?_
    try simp only [wpK_assoc]
    refine wpK_reg1 (fun R hR => by simp [h8, hsi]; exact hR) ?_
    have hO5 : Only (fun b => b = W.next + 2) W2 W5 := ⟨by omega, fun b hb hk => by rw [a7.2 b (by omega) (by omega)]; exact hO3.2 b hb hk⟩
    refine hI (k - 1) _ _ (by omega) ⟨rfl, rfl, by simp [h1, h2, h3, h6, h7], by simp [h1, h2, h3, h6, h7], by simp [h1, h2, h3, h6, h7], by simp [h1, h2, h3, h6, h7], by simp [h1, h2, h3, h6, h7], hO5, i + 1, w', by omega, by omega, by omega, by simp, by simpa using a5, ?_⟩
    rw [List.take_add_one, ha, Option.toList_some, flat3_append]
    have : flat3 [a] = cells3 a := by simp [flat3]
    rw [this]
    exact a6.mono (fun b hb => by
      rcases hb with hb | hb
      · exact hb
      · omega)
  · rintro A' W' hf; exact hf.elim
  rintro ⟨tm, n, ds⟩ W3 ⟨hn, hd, h1, h2, h3, h6, h7, hO3, w, l1, hV3, hT1, hlen1⟩
  simp only at hn hd h1 h2 h3 h6 h7
  subst hn; subst hd
  have n3 := hO3.1
  have n2 := hE12.1
  have hl3 := load24 hV3
  have hE03 : Ext W W3 := ⟨by omega, fun b hb hk => by rw [hO3.2 b (by omega) (by omega)]; exact hE12.2 b hb hk⟩
  have hV13 := hV12.only hO3 (by omega)
  -- the network, and its arcs as links
  try simp only [wpK_assoc]
  refine wpK_x4 (fun R hR => by
    simp [h1, h2, h7, hl3, aEnter, fun30, short_other, aCallV]; rw [callS_none]
    refine (tame_wp pl m hpl hpl2 hm N0 hT1 hlen1).mono ?_
    rintro _ W4 ⟨hE4, P, l', v', hT, rfl, hG⟩
    obtain ⟨av, cv, hvs⟩ := hG.len
    obtain ⟨W5, s1, s2, hE5, hVx⟩ := storeVar_new (T := T0) (W := W4) (t := 24) (v := .agg ⟨[.int .i64 P, v']⟩) (z := [.int .i64 0, .slice none 0 0]) inf24 (by rw [is24]; rfl) (by rw [is24]; rfl) (by rw [hvs]; rfl)
    simp [zero24, s1]
    exact hR P l' v' W4 W5 (And.intro (hE4.trans hE5) (And.intro hT (And.intro hVx (And.intro hE4.1 (And.intro s2 ((hG.tri).ext hE5))))))) ?_
  rintro P l' v' W4 W5 ⟨hE5, hT, hVx, n4, n5, hTri⟩
  have n5' : W4.next < W5.next := by omega
  generalize hpx : W4.next = px at hVx n5 n5' n4
  have hE05 : Ext W W5 := hE03.trans hE5
  have hV15 := hV13.ext hE5
  have hP2 := hT.P2
  have hll := hT.len
  obtain ⟨W6, s1, s2, hE6, hV6⟩ := storeVar_new (T := T0) (W := W5) (t := 27) (v := .agg ⟨[.int .i64 P, .slice none 0 0]⟩) (z := [.int .i64 0, .slice none 0 0]) inf27 (by rw [is27]; rfl) (by rw [is27]; rfl) rfl
  have hlP := hVx.load1 (T := T0) und3 rfl (j := 0) (v := .int .i64 P) rfl
  try simp only [wpK_assoc]
  refine wpK_reg (fun R hR => by simp [hlP, build27, zero27, s1]; exact hR) ?_
  try simp only [wpK_assoc]
  refine wpK_reg (fun R hR => by simp []; exact hR) ?_
  have hVx6 := hVx.ext hE6
  have hV16 := hV15.ext hE6
  have n6 := hE6.1
  obtain ⟨A6, c6, hvx, hA6⟩ := hTri
  subst hvx
  have hE06 := hE05.trans hE6
  have n06 := hE06.1
  have n3' := hE03.1
  try simp only [wpK_assoc]
  refine wpK_while (I := fun k B W' => B.n = 94 ∧ B.defers = [] ∧ B.tmps.get 6 = some (.pointer (some ⟨W.next + 1, 0, none⟩)) ∧ B.tmps.get 10 = some (.pointer (some ⟨px, 0, none⟩)) ∧ B.tmps.get 11 = some (.pointer (some ⟨W5.next, 0, none⟩)) ∧ Only (fun b => b = W5.next) W6 W' ∧ ∃ (i : Nat) (w : Value), k = l'.length - i ∧ i ≤ l'.length ∧ B.tmps.get 12 = some (.int .i64 i) ∧ Var W' W5.next 27 [.int .i64 P, w] ∧ GrowsN W' w i (flat3 (l'.take i)) 109 3 (fun b => W6.next ≤ b))
    (J := fun B W' => B.n = 94 ∧ B.defers = [] ∧ B.tmps.get 6 = some (.pointer (some ⟨W.next + 1, 0, none⟩)) ∧ B.tmps.get 11 = some (.pointer (some ⟨W5.next, 0, none⟩)) ∧ Only (fun b => b = W5.next) W6 W' ∧ ∃ (w : Value), Var W' W5.next 27 [.int .i64 P, w] ∧ GrowsN W' w l'.length (flat3 l') 109 3 (fun b => W6.next ≤ b)) (Rt := fun _ _ => False) (k := l'.length) ?_ ?_ ?_ ?_
  · exact ⟨rfl, rfl, by simp [h6, hpx], by simp [h6, hpx], by simp [h6, hpx], Only_refl _, 0, .slice none 0 0, by simp, by omega, by simp, hV6, .nil _ _ _ _⟩
  · rintro k ⟨tm, n, ds⟩ W7 ⟨hn, hd, h6, h10, h11, hO7, i, w2, hk, hi, h12, hV7, hGr⟩ Q' hJ hRt hI
    simp only at hn hd h6 h10 h11
    subst hn; subst hd
    simp only at h12
    have n7 := hO7.1
    have hVx7 := hVx6.only hO7 (by omega)
    have l71 := hVx7.load1 (T := T0) und22 rfl (j := 1) (v := .slice A6 l'.length c6) rfl
    try simp only [wpK_assoc]
    refine wpK_reg (fun R hR => by simp [h10, h12, l71, len_slice und22]; exact hR) ?_
    by_cases hlt : i < l'.length
    case neg =>
      have e : i = l'.length := by omega
      rw [e, List.take_length] at hGr
      try simp only [wpK_assoc]
      first | refine wpK_onF (by simp [hlt]) ?_ | refine wpK_out (by simp [hlt]) ?_ | refine wpK_condF (by simp [hlt]) ?_ | refine wpK_endF (by simp [hlt]) (wpK_skip ?_) | refine wpK_endF (by simp [hlt]) ?_
      exact hJ _ _ ⟨rfl, rfl, by simp [h6], by simp [h11], hO7, w2, hV7, hGr⟩
    try simp only [wpK_assoc]
    first | refine wpK_onT (by simp [hlt]) ?_ | refine wpK_outT (by simp [hlt]) ?_ | refine wpK_condT (by simp [hlt]) ?_ | refine wpK_endT (by simp [hlt]) ?_
    have ha : l'[i]? = some l'[i] := List.getElem?_eq_getElem hlt
    generalize l'[i] = a at ha
    obtain ⟨b', o, rfl, q1, q2, q3⟩ := hA6 i a ha
    have eV := indexAddr_tri (T := T0) und22 sz78 (b := b') (o := o) (c := c6) (k := .i64) hlt
    have hq : ∀ {W' : AW}, Only (fun b => b = W5.next ∨ W6.next ≤ b) W6 W' → aLoadVar T0 W' 22 px 1 = some (.slice (some ⟨b', o, none⟩) l'.length c6) ∧ aLoadVar T0 W' 3 b' (o + 3 * i) = some (.int .i64 a.1) ∧ aLoadVar T0 W' 3 b' (o + 3 * i + 1) = some (.int .i64 a.2.1) ∧ aLoadVar T0 W' 2 b' (o + 3 * i + 2) = some (.int .i64 a.2.2) := fun {W'} hO =>
      ⟨(hVx6.only hO (by omega)).load1 (T := T0) und22 rfl (j := 1) (v := .slice (some ⟨b', o, none⟩) l'.length c6) rfl,
       load_of und3 rfl ((q1.ext hE6).only hO (by have := q1.1; omega)), load_of und3 rfl ((q2.ext hE6).only hO (by have := q2.1; omega)), load_of und2 rfl ((q3.ext hE6).only hO (by have := q3.1; omega))⟩
    have oW7 : Only (fun b => b = W5.next ∨ W6.next ≤ b) W6 W7 := ⟨hO7.1, fun b hb hk => hO7.2 b hb (fun e => hk (.inl e))⟩
    have hl2 := hV7.load1 (T := T0) und25 rfl (j := 1) (v := w2) rfl
    obtain ⟨w', W8, W9, a1, a2, a3, a4, a5, a6, a7⟩ := Var.push (T := T0) (t := 25) (el := 109) (i := Tryd.t109) (it := Tryd.t25) (sz := 3) (by omega) und25 inf109 is109 z109 rfl inf25 is25 hGr hV7 (o := 1) (by omega) (by simp) (u := cells3 a) rfl (oneCells_tri a) (by rw [by109]; omega) (by omega)
    have a1 : aAppend T0 (W7.newCells 109 [.int .i64 a.1, .int .i64 a.2.1, .int .i64 a.2.2]) [25, 25] [w2, .slice (some ⟨W7.next, 0, none⟩) 1 2] = some (w', W8) := a1
    obtain ⟨p1, p2, p3, p4⟩ := hq oW7
    have oWf : Only (fun b => b = W5.next ∨ W6.next ≤ b) W6 (W7.newCells 109 [.int .i64 a.1, .int .i64 a.2.1, .int .i64 a.2.2]) := ⟨by rw [newCells_next]; omega, fun b hb hk => by rw [newCells_get, if_neg (by omega)]; exact oW7.2 b hb hk⟩
    obtain ⟨r1, r2, r3, r4⟩ := hq oWf
    have fb := fun (ρ : Operand → Option Value) (o : Operand) => flt_bs25 (ρ := ρ) (o := o) (x := a.1) (y := a.2.1) (z := a.2.2)
    have fr1 := freshB_new W7 109 [.int .i64 a.1, .int .i64 a.2.1, .int .i64 a.2.2] (by simp [listEq, valEq])
    have hsi : IntKind.i64.wrap ((i : Int) + 1) = ((i + 1 : Nat) : Int) := i64_succ i (by omega)
    refine wpK_block ?_
    try simp only [wpK_assoc]
    refine wpK_reg (fun R hR => by simp [h11, hl2]; exact hR) ?_
    try simp only [wpK_assoc]
    refine wpK_qn (wr := Tr.nil |>.set 70 0 |>.set 71 1 |>.set 72 2 |>.set 73 3 |>.set 74 4 |>.set 75 5 |>.set 76 6 |>.set 77 7 |>.set 78 8 |>.set 79 9 |>.set 80 10 |>.set 81 11 |>.set 82 12 |>.set 83 13 |>.set 84 14 |>.set 85 15 |>.set 86 16 |>.set 87 17 |>.set 88 18 |>.set 89 19 |>.set 90 20 |>.set 91 21 |>.set 92 22) (bits := Tr.nil.lay 0 [0, 0, 2, 0, 14, 30, 62, 0, 128, 0, 896, 1920, 3968, 0, 8192, 0, 57344, 122880, 253952, 524286, 1048574, 2097151, 4194303, 8388607]) (ord := [0, 1, 2, 3, 4, 5, 6, 7, 8, 9, 10, 11, 12, 13, 14, 15, 16, 17, 18, 19, 20, 21, 22, 23]) (by kernel_rfl) (by kernel_rfl) (by kernel_rfl) (fun G hG => by
      simp [h10, h11, h12, p1, p2, p3, p4, r1, r2, r3, r4, eV, build109, fb, AFlt.val, fr1, a1, a2, a3, a4, newCells_next]
      exact hG) ?_
    try simp only [wpK_assoc]
    refine wpK_reg1 (fun R hR => by simp [h12, hsi]; exact hR) ?_
    have hO9 : Only (fun b => b = W5.next) W6 W9 := ⟨by omega, fun b hb hk => by rw [a7.2 b (by omega) (by omega)]; exact hO7.2 b hb hk⟩
    refine hI (k - 1) _ _ (by omega) ⟨rfl, rfl, by simp [h6, h10, h11], by simp [h6, h10, h11], by simp [h6, h10, h11], hO9, i + 1, w', by omega, by omega, by simp, by simpa using a5, ?_⟩
    rw [List.take_add_one, ha, Option.toList_some, flat3_append]
    have : flat3 [a] = cells3 a := by simp [flat3]
    rw [this]
    exact a6.mono (fun b hb => by
      rcases hb with hb | hb
      · exact hb
      · omega)
  · rintro A' W' hf; exact hf.elim
  · rintro ⟨tm, n, ds⟩ W7 ⟨hn, hd, h6, h11, hO7, w2, hV7, hGr⟩
    simp only at hn hd h6 h11
    subst hn; subst hd
    have n7 := hO7.1
    obtain ⟨av, cv, hvs⟩ := hGr.len
    have hl := load27 hV7
    obtain ⟨W8, t1, t2, t3, t4⟩ := (hV16.only hO7 (by omega)).store (T := T0) (t := 27) (v := .agg ⟨[.int .i64 P, w2]⟩) (o := 0) inf27 (by rw [is27]; rfl) (by simp) (by rw [hvs]; rfl)
    have hl4 := t4.load (T := T0) und27 agg27 inf27 (by rw [is27]; rfl)
    try simp only [wpK_assoc]
    refine wpK_reg (fun R hR => by simp [h6, h11, hl, t1]; exact hR) ?_
    refine wpK_ret ⟨.inr rfl, rfl, [.agg ⟨[.int .i64 P, w2]⟩], by simp at hl4; simp [h6, hl4], ?_, P, l', w2, hT, rfl, ?_⟩
    · exact ⟨by omega, fun b hb hk => by rw [t3.2 b (by omega) (by omega), hO7.2 b (by omega) (by omega)]; exact hE06.2 b hb hk⟩
    · exact (hGr.only t3 (fun b _ hb e => by omega)).mono (fun b hb => by omega)
theorem push3_tmp {W : AW} {v : Value} {n : Nat} {l u : List Value} {K : Nat → Prop} {t el : TypeId} {i : TypeInfo} {z : Value} (ht : T0.und.get t = some (.slice el)) (hi : T0.info.get el = some i) (hs : i.size = 3) (hz : i.zero = some z) (hz3 : (acells z).length = 3) (hby : i.bytes = 24)
    (h : GrowsN W v n l el 3 K) (hl : n ≤ 1000) (hu3 : u.length = 3) (hu : oneCells u = true) :
    ∃ v' W', aAppend T0 (W.newCells el u) [t, t] [v, .slice (some ⟨W.next, 0, none⟩) 1 2] = some (v', W') ∧ W'.next = W.next + 2 ∧ GrowsN W' v' (n + 1) (l ++ u) el 3 (fun b => K b ∨ b = W.next + 1) ∧ Only K W W' := by
  have hE : Ext W (W.newCells el u) := .newCells _ _ _
  have h1 := h.only (K' := fun _ => False) hE (fun _ _ _ y => y)
  obtain ⟨v', W', a1, a2, a3, a4⟩ := append_growsN (T := T0) (t := t) (el := el) (c := 2) (by omega) ht hi hs hz hz3 h1 (u := u) hu3 (newCells_cellsAt W el u 3 hu3) hu (by rw [hby]; omega) (by omega)
  refine ⟨v', W', a1, by rw [a2, newCells_next], ?_, ?_⟩
  · rw [newCells_next] at a3; exact a3
  · refine ⟨by rw [a2, newCells_next]; omega, fun b hb hk => ?_⟩
    rw [a4.2 b (by rw [newCells_next]; omega) hk]
    exact hE.2 b hb (fun y => y)
def bothL (l : List Tri) : List Tri := l.flatMap fun a => [(a.1, a.2.1, a.2.2), (a.2.1, a.1, a.2.2)]
theorem bothL_len : ∀ l : List Tri, (bothL l).length = 2 * l.length
  | [] => rfl
  | a :: l => by
    have := bothL_len l
    simp only [bothL, List.flatMap_cons, List.length_append, List.length_cons, List.length_nil] at this ⊢
    omega
theorem bothL_snoc (l : List Tri) (a : Tri) : bothL (l ++ [a]) = bothL l ++ [(a.1, a.2.1, a.2.2)] ++ [(a.2.1, a.1, a.2.2)] := by simp [bothL]
theorem capQ_both (S : Nat) : ∀ l : List Tri, capQ S (arcsQ (bothL l)) = capQ S (linksQ l)
  | [] => rfl
  | a :: l => by
    have ih := capQ_both S l
    have e : arcsQ (bothL (a :: l)) = (a.1, a.2.1, a.2.2, 0) :: (a.2.1, a.1, a.2.2, 0) :: arcsQ (bothL l) := by simp [bothL, arcsQ]
    rw [e]
    simp only [linksQ, List.map_cons, capQ, List.sum_cons] at ih ⊢
    rw [show (List.map (out1 S) (arcsQ (bothL l))).sum = (List.map (out1 S) (List.map (fun a => (a.1, a.2.1, a.2.2, a.2.2)) l)).sum from ih]
    simp only [out1]
    split <;> split <;> simp <;> omega
theorem both_ok {P : Int} {l : List Tri} (h : planOk P (arcsQ l) = true) (h100 : l.length ≤ 100) : planOk P (arcsQ (bothL l)) = true := by
  have hin := arcsQ_in h
  obtain ⟨h1, h2, _⟩ := hin.size
  simp only [planOk, Bool.and_eq_true, decide_eq_true_eq, List.all_eq_true]
  refine ⟨⟨⟨h1, h2⟩, by simp [arcsQ, bothL_len]; omega⟩, fun q hq => ?_⟩
  simp only [arcsQ, bothL, List.mem_map, List.mem_flatMap] at hq
  obtain ⟨x, ⟨a, ha, hx⟩, rfl⟩ := hq
  have hst := hin.step (a := (a.1, a.2.1, a.2.2, 0)) (by simp only [arcsQ, List.mem_map]; exact ⟨a, ha, rfl⟩)
  simp only at hst
  simp only [List.mem_cons, List.not_mem_nil, or_false] at hx
  rcases hx with rfl | rfl <;> simp [okStep, two?] <;> omega
theorem both_wp {W : AW} {v : Value} {P : Int} {l : List Tri} (h : TriIn W v l) (hlen : l.length ≤ 200) :
    WpF T0 43 [.agg ⟨[.int .i64 P, v]⟩] W (fun u W' => Ext W W' ∧ ∃ v', u = .agg ⟨[.int .i64 P, v']⟩ ∧ GrowsN W' v' (bothL l).length (flat3 (bothL l)) 78 3 (fun b => W.next ≤ b)) := by
  obtain ⟨A, c, rfl, hA⟩ := h
  refine wpF fun43 rfl ?_
  obtain ⟨W1, hW1, hE1, hn1, hV0, hV1⟩ : ∃ W1, W1 = (W.newCells 27 [.int .i64 P, .slice A l.length c]).newCells 24 [.int .i64 0, .slice none 0 0] ∧ Ext W W1 ∧ W1.next = W.next + 2 ∧ Var W1 W.next 27 [.int .i64 P, .slice A l.length c] ∧ Var W1 (W.next + 1) 24 [.int .i64 0, .slice none 0 0] :=
    ⟨_, rfl, (Only.newCells _ _ _).trans (Only.newCells _ _ _), rfl, (Var.new _ _ _).ext (.newCells _ _ _), Var.new _ _ _⟩
  obtain ⟨W2, s1, s2, hE2, hV2⟩ := storeVar_new (T := T0) (W := W1) (t := 24) (v := .agg ⟨[.int .i64 P, .slice none 0 0]⟩) (z := [.int .i64 0, .slice none 0 0]) inf24 (by rw [is24]; rfl) (by rw [is24]; rfl) rfl
  have hl0 := hV0.load1 (T := T0) und3 rfl (j := 0) (v := .int .i64 P) rfl
  try simp only [wpK_assoc]
  refine wpK_reg (fun R hR => by simp [zero24, newCells_next, ← hW1]; exact hR) ?_
  try simp only [wpK_assoc]
  refine wpK_reg (fun R hR => by simp [hl0, build24, zero24, s1]; exact hR) ?_
  try simp only [wpK_assoc]
  refine wpK_reg (fun R hR => by simp []; exact hR) ?_
  have hE12 := hE1.trans hE2
  have n12 := hE12.1
  have hV02 := hV0.ext hE2
  have hV12 := hV1.ext hE2
  rw [hn1] at hV2 s2
  try simp only [wpK_assoc]
  refine wpK_while (I := fun k B W' => B.n = 46 ∧ B.defers = [] ∧ B.tmps.get 1 = some (.pointer (some ⟨W.next, 0, none⟩)) ∧ B.tmps.get 2 = some (.pointer (some ⟨W.next + 1, 0, none⟩)) ∧ B.tmps.get 3 = some (.pointer (some ⟨W.next + 2, 0, none⟩)) ∧ Only (fun b => b = W.next + 2) W2 W' ∧ ∃ (i : Nat) (w : Value) (K : Nat → Prop), k = l.length - i ∧ i ≤ l.length ∧ B.tmps.get 4 = some (.int .i64 i) ∧ Var W' (W.next + 2) 24 [.int .i64 P, w] ∧ GrowsN W' w (2 * i) (flat3 (bothL (l.take i))) 78 3 K ∧ ∀ b, K b → W2.next ≤ b ∧ b < W'.next)
    (J := fun B W' => B.n = 46 ∧ B.defers = [] ∧ B.tmps.get 2 = some (.pointer (some ⟨W.next + 1, 0, none⟩)) ∧ B.tmps.get 3 = some (.pointer (some ⟨W.next + 2, 0, none⟩)) ∧ Only (fun b => b = W.next + 2) W2 W' ∧ ∃ w : Value, Var W' (W.next + 2) 24 [.int .i64 P, w] ∧ GrowsN W' w (bothL l).length (flat3 (bothL l)) 78 3 (fun b => W2.next ≤ b)) (Rt := fun _ _ => False) (k := l.length) ?_ ?_ ?_ ?_
  · exact ⟨rfl, rfl, by simp [hn1], by simp [hn1], by simp [hn1], Only_refl _, 0, .slice none 0 0, fun _ => False, by simp, by omega, by simp, hV2, .nil _ _ _ _, fun _ h => h.elim⟩
  · rintro k ⟨tm, n, ds⟩ W3 ⟨hn, hd, h1, h2, h3, hO3, i, w, K, hk, hi, h4, hV3, hGr, hKb⟩ Q' hJ hRt hI
    simp only at hn hd h1 h2 h3
    subst hn; subst hd
    simp only at h4
    have n3 := hO3.1
    have l31 := (hV02.only hO3 (by omega)).load1 (T := T0) und25 rfl (j := 1) (v := .slice A l.length c) rfl
    try simp only [wpK_assoc]
    refine wpK_reg (fun R hR => by simp [h1, h4, l31, len_slice und25]; exact hR) ?_
    by_cases hlt : i < l.length
    case neg =>
      have e : i = l.length := by omega
      rw [e, List.take_length, ← bothL_len] at hGr
      try simp only [wpK_assoc]
      first | refine wpK_onF (by simp [hlt]) ?_ | refine wpK_out (by simp [hlt]) ?_ | refine wpK_condF (by simp [hlt]) ?_ | refine wpK_endF (by simp [hlt]) (wpK_skip ?_) | refine wpK_endF (by simp [hlt]) ?_
      exact hJ _ _ ⟨rfl, rfl, by simp [h2], by simp [h3], hO3, w, hV3, hGr.mono (fun b hb => (hKb b hb).1)⟩
    try simp only [wpK_assoc]
    first | refine wpK_onT (by simp [hlt]) ?_ | refine wpK_outT (by simp [hlt]) ?_ | refine wpK_condT (by simp [hlt]) ?_ | refine wpK_endT (by simp [hlt]) ?_
    have ha : l[i]? = some l[i] := List.getElem?_eq_getElem hlt
    generalize l[i] = a at ha
    obtain ⟨b', o, rfl, q1, q2, q3⟩ := hA i a ha
    have eV := indexAddr_tri (T := T0) und25 sz109 (b := b') (o := o) (c := c) (k := .i64) hlt
    have hl3 := load3 (T := T0) und109 agg109 inf109 is109 ((q1.ext hE12).only hO3 (by have := q1.1; omega)) ((q2.ext hE12).only hO3 (by have := q2.1; omega)) ((q3.ext hE12).only hO3 (by have := q3.1; omega))
    obtain ⟨W4, t1, t2, hE4, hV4⟩ := storeVar_new (T := T0) (W := W3) (t := 109) (v := .agg ⟨[.int .i64 a.1, .int .i64 a.2.1, .int .i64 a.2.2]⟩) (z := [.int .i64 0, .int .i64 0, .int .i64 0]) inf109 (by rw [is109]; rfl) (by rw [is109]; rfl) rfl
    have hGr4 := hGr.only (K' := fun _ => False) hE4 (fun _ _ _ y => y)
    have hV34 := hV3.ext hE4
    have hl2 := hV34.load1 (T := T0) und22 rfl (j := 1) (v := w) rfl
    have m0 : ∀ W', Var W' W3.next 109 [.int .i64 a.1, .int .i64 a.2.1, .int .i64 a.2.2] → aLoadVar T0 W' 3 W3.next 0 = some (.int .i64 a.1) ∧ aLoadVar T0 W' 3 W3.next 1 = some (.int .i64 a.2.1) ∧ aLoadVar T0 W' 2 W3.next 2 = some (.int .i64 a.2.2) := fun W' hV =>
      ⟨hV.load1 (T := T0) und3 rfl (j := 0) (v := .int .i64 a.1) rfl, hV.load1 (T := T0) und3 rfl (j := 1) (v := .int .i64 a.2.1) rfl, hV.load1 (T := T0) und2 rfl (j := 2) (v := .int .i64 a.2.2) rfl⟩
    obtain ⟨w1, W5, a1, a2, a3, a4⟩ := push3_tmp und22 inf78 is78 z78 rfl by78 hGr4 (by omega) (u := cells3 a) rfl (oneCells_tri a)
    have a1 : aAppend T0 (W4.newCells 78 [.int .i64 a.1, .int .i64 a.2.1, .int .i64 a.2.2]) [22, 22] [w, .slice (some ⟨W4.next, 0, none⟩) 1 2] = some (w1, W5) := a1
    obtain ⟨x0, x1, x2⟩ := m0 W4 hV4
    obtain ⟨y0, y1, y2⟩ := m0 W5 (hV4.only a4 (fun hk => by have := (hKb _ hk).2; omega))
    have hV35 := hV34.only a4 (fun hk => by have := (hKb _ hk).1; omega)
    obtain ⟨w2, W6, W7, b1, b2, b3, b4, b5, b6, b7⟩ := Var.push (T := T0) (t := 22) (el := 78) (i := Tryd.t78) (it := Tryd.t22) (sz := 3) (by omega) und22 inf78 is78 z78 rfl inf22 is22 a3 hV35 (by
      rintro (hk | hk)
      · have := (hKb _ hk).1; omega
      · omega) (o := 1) (by simp) (u := cells3 (a.2.1, a.1, a.2.2)) rfl (oneCells_tri _) (by rw [by78]; omega) (by omega)
    have b1 : aAppend T0 (W5.newCells 78 [.int .i64 a.2.1, .int .i64 a.1, .int .i64 a.2.2]) [22, 22] [w1, .slice (some ⟨W5.next, 0, none⟩) 1 2] = some (w2, W6) := b1
    have hsi : IntKind.i64.wrap ((i : Int) + 1) = ((i + 1 : Nat) : Int) := i64_succ i (by omega)
    refine wpK_block ?_
    try simp only [wpK_assoc]
    refine wpK_reg (fun R hR => by simp [h1, h4, l31, eV, hl3, zero109, t1]; exact hR) ?_
    try simp only [wpK_assoc]
    refine wpK_reg (fun R hR => by simp [h3, hl2]; exact hR) ?_
    try simp only [wpK_assoc]
    refine wpK_reg (fun R hR => by simp [x0, x1, x2, build78', bs22, a1]; exact hR) ?_
    try simp only [wpK_assoc]
    refine wpK_reg1 (fun R hR => by simp [h3, y0, y1, y2, build78', bs22, b1, b2]; exact hR) ?_
    try simp only [wpK_assoc]
    refine wpK_reg1 (fun R hR => by simp [h4, hsi]; exact hR) ?_
    have n4 := hE4.1
    have hO7 : Only (fun b => b = W.next + 2) W2 W7 := ⟨by omega, fun b hb hk => by
      have hnK : ¬ K b := fun h => by have := (hKb _ h).1; omega
      rw [b7.2 b (by omega) (by rintro ((h | h) | h); exact hnK h; omega; exact hk h), a4.2 b (by omega) hnK, hE4.2 b (by omega) (fun y => y)]; exact hO3.2 b hb hk⟩
    refine hI (k - 1) _ _ (by omega) ⟨rfl, rfl, by simp [h1, h2, h3], by simp [h1, h2, h3], by simp [h1, h2, h3], hO7, i + 1, w2, fun b => (K b ∨ b = W4.next + 1) ∨ b = W5.next + 1, by omega, by omega, by simp, by simpa using b5, ?_, fun b hb => ?_⟩
    rotate_left
    · rcases hb with (hb | hb) | hb
      · have := hKb b hb; omega
      · omega
      · omega
    have e : flat3 (bothL (l.take (i + 1))) = flat3 (bothL (l.take i)) ++ cells3 a ++ cells3 (a.2.1, a.1, a.2.2) := by
      rw [List.take_add_one, ha, Option.toList_some, bothL_snoc, flat3_append, flat3_append]
      simp [flat3, cells3]
    rw [e, show 2 * (i + 1) = 2 * i + 1 + 1 from by omega]
    exact b6
  · rintro A' W' hf; exact hf.elim
  · rintro ⟨tm, n, ds⟩ W7 ⟨hn, hd, h2, h3, hO7, w2, hV7, hGr⟩
    simp only at hn hd h2 h3
    subst hn; subst hd
    have n7 := hO7.1
    obtain ⟨av, cv, hvs⟩ := hGr.len
    have hl := load24 hV7
    obtain ⟨W8, t1, t2, t3, t4⟩ := (hV12.only hO7 (by omega)).store (T := T0) (t := 24) (v := .agg ⟨[.int .i64 P, w2]⟩) (o := 0) inf24 (by rw [is24]; rfl) (by simp) (by rw [hvs]; rfl)
    have hl4 := t4.load (T := T0) und24 agg24 inf24 (by rw [is24]; rfl)
    try simp only [wpK_assoc]
    refine wpK_reg (fun R hR => by simp [h2, h3, hl, t1]; exact hR) ?_
    refine wpK_ret ⟨.inr rfl, rfl, [.agg ⟨[.int .i64 P, w2]⟩], by simp at hl4; simp [h2, hl4], ?_, w2, rfl, ?_⟩
    · exact ⟨by omega, fun b hb hk => by rw [t3.2 b (by omega) (by omega), hO7.2 b (by omega) (by omega)]; exact hE12.2 b hb hk⟩
    · exact (hGr.only t3 (fun b _ hb e => by omega)).mono (fun b hb => by omega)
def usedB (wo : Int) (T : Nat) : Nat → List Bra → Nat
  | _, [] => 0
  | i, a :: l => usedB wo T (i + 1) l + (if (i : Int) ≠ wo ∧ a.1 ≠ a.2.1 ∧ T.testBit a.1.toNat = true ∧ T.testBit a.2.1.toNat = true then 1 else 0)
theorem usedB_le {wo : Int} {T U : Nat} (h : ∀ q, T.testBit q = true → U.testBit q = true) : ∀ (l : List Bra) (i : Nat), usedB wo T i l ≤ usedB wo U i l
  | [], _ => Nat.le_refl _
  | a :: l, i => by
    have := usedB_le (wo := wo) h l (i + 1)
    rw [usedB, usedB]
    split
    · rename_i g
      rw [if_pos ⟨g.1, g.2.1, h _ g.2.2.1, h _ g.2.2.2⟩]; omega
    · split <;> omega
theorem usedB_lt {wo : Int} {T U : Nat} (h : ∀ q, T.testBit q = true → U.testBit q = true) : ∀ (l : List Bra) (i j : Nat) (a : Bra), l[j]? = some a → ((i + j : Nat) : Int) ≠ wo → a.1 ≠ a.2.1 → U.testBit a.1.toNat = true → U.testBit a.2.1.toNat = true → ¬ (T.testBit a.1.toNat = true ∧ T.testBit a.2.1.toNat = true) → usedB wo T i l < usedB wo U i l
  | [], _, j, _, hj, _, _, _, _, _ => by simp at hj
  | b :: l, i, 0, a, hj, h1, h2, h3, h4, h5 => by
    simp at hj; subst hj
    have := usedB_le (wo := wo) h l (i + 1)
    rw [usedB, usedB, if_neg (fun g => h5 ⟨g.2.2.1, g.2.2.2⟩), if_pos ⟨by simpa using h1, h2, h3, h4⟩]; omega
  | b :: l, i, j + 1, a, hj, h1, h2, h3, h4, h5 => by
    have := usedB_lt (wo := wo) h l (i + 1) j a (by simpa using hj) (by rw [show i + 1 + j = i + (j + 1) from by omega]; exact h1) h2 h3 h4 h5
    rw [usedB, usedB]
    split
    · rename_i g
      rw [if_pos ⟨g.1, g.2.1, h _ g.2.2.1, h _ g.2.2.2⟩]; omega
    · split <;> omega
theorem usedB_max (wo : Int) (T : Nat) : ∀ (l : List Bra) (i : Nat), usedB wo T i l ≤ l.length
  | [], _ => Nat.le_refl _
  | a :: l, i => by have := usedB_max wo T l (i + 1); rw [usedB, List.length_cons]; split <;> omega
theorem usedB_less (wo : Int) (T : Nat) : ∀ (l : List Bra) (i j : Nat) (a : Bra), l[j]? = some a → (((i + j : Nat) : Int) = wo ∨ a.1 = a.2.1) → usedB wo T i l < l.length
  | [], _, j, _, hj, _ => by simp at hj
  | b :: l, i, 0, a, hj, h => by
    simp at hj; subst hj
    have := usedB_max wo T l (i + 1)
    rw [usedB, List.length_cons, if_neg (fun g => by
      rcases h with h | h
      · exact g.1 (by simpa using h)
      · exact g.2.1 h)]; omega
  | b :: l, i, j + 1, a, hj, h => by
    have := usedB_less wo T l (i + 1) j a (by simpa using hj) (by rw [show i + 1 + j = i + (j + 1) from by omega]; exact h)
    rw [usedB, List.length_cons]; split <;> omega
structure Grown (L : List Bra) (wo : Int) (n f T : Nat) : Prop where
  lt : ∀ q, T.testBit q = true → q < n
  src : T.testBit f = true
  cnt : cntB T n ≤ 1 + usedB wo T 0 L
  wo' : ∀ (j : Nat) a, L[j]? = some a → (j : Int) ≠ wo → ¬ (T.testBit a.1.toNat = true ∧ T.testBit a.2.1.toNat = true) → wo = -1 → ∀ q : Nat, T.testBit q = true → Way L j f q
  by' : wo = -1 → ∀ q : Nat, T.testBit q = true → q ≠ f → ∃ (j : Nat) (y : Nat) (a : Bra), L[j]? = some a ∧ ((a.1 = y ∧ a.2.1 = q) ∨ (a.1 = q ∧ a.2.1 = y)) ∧ Way L j f y
theorem cntB_or {T x : Nat} (h : T.testBit x = false) : ∀ n, x < n → cntB (T ||| 1 <<< x) n = cntB T n + 1
  | 0, hx => by omega
  | n + 1, hx => by
    rw [cntB, cntB, Nat.testBit_or, one_bit]
    by_cases e : x = n
    · subst e
      have key : ∀ m, m ≤ x → cntB (T ||| 1 <<< x) m = cntB T m := by
        intro m
        induction m with
        | zero => intro _; rfl
        | succ m ih =>
          intro hm
          rw [cntB, cntB, ih (by omega), Nat.testBit_or, one_bit, decide_eq_false (by omega), Bool.or_false]
      rw [key x (Nat.le_refl _), h]; simp
    · rw [cntB_or h n (by omega), decide_eq_false e, Bool.or_false]; omega
theorem Grown.start {L : List Bra} {wo : Int} {n f : Nat} (hf : f < n) : Grown L wo n f (1 <<< f) := by
  have hb : ∀ q, (1 <<< f).testBit q = true ↔ q = f := fun q => by rw [one_bit]; simp; exact ⟨fun h => h.symm, fun h => h.symm⟩
  refine ⟨fun q hq => by have := (hb q).1 hq; omega, (hb f).2 rfl, ?_, fun j a _ _ _ _ q hq => ?_, fun _ q hq hne => absurd ((hb q).1 hq) hne⟩
  · have h0 : cntB 0 n = 0 := by
      have : ∀ m, cntB 0 m = 0 := fun m => by
        induction m with
        | zero => rfl
        | succ m ih => rw [cntB, ih, Nat.zero_testBit]; rfl
      exact this n
    have h1 := cntB_or (T := 0) (x := f) (Nat.zero_testBit f) n hf
    rw [Nat.zero_or] at h1
    omega
  · rw [(hb q).1 hq]; exact .here
theorem Grown.step {L : List Bra} {wo : Int} {n f T : Nat} (hL : BrIn n L) (h : Grown L wo n f T) {i : Nat} {a : Bra} (ha : L[i]? = some a) : Grown L wo n f (stepB wo i a T) := by
  by_cases hc : (i : Int) ≠ wo ∧ T.testBit a.1.toNat ≠ T.testBit a.2.1.toNat
  case neg =>
    have : stepB wo i a T = T := by unfold stepB; rw [if_neg hc]
    rw [this]; exact h
  have hb := hL a (List.mem_of_getElem? ha)
  -- the new place and the old one
  obtain ⟨x, y, hxy, hx, hy⟩ : ∃ x y : Nat, ((a.1 = x ∧ a.2.1 = y) ∨ (a.1 = y ∧ a.2.1 = x)) ∧ T.testBit x = false ∧ T.testBit y = true := by
    cases h1 : T.testBit a.1.toNat with
    | false =>
      refine ⟨a.1.toNat, a.2.1.toNat, .inl ⟨by omega, by omega⟩, h1, ?_⟩
      cases h2 : T.testBit a.2.1.toNat with
      | true => rfl
      | false => exact absurd (h1.trans h2.symm) hc.2
    | true =>
      refine ⟨a.2.1.toNat, a.1.toNat, .inr ⟨by omega, by omega⟩, ?_, h1⟩
      cases h2 : T.testBit a.2.1.toNat with
      | true => exact absurd (h1.trans h2.symm) hc.2
      | false => rfl
  have hxn : x < n := by omega
  have hbit : ∀ q, (stepB wo i a T).testBit q = (T.testBit q || decide (x = q)) := fun q => by
    rw [stepB_bit, decide_eq_true hc, Bool.true_and]
    cases hT : T.testBit q with
    | true => rfl
    | false =>
      have hqy : q ≠ y := fun e => by rw [e, hy] at hT; cases hT
      rcases hxy with ⟨e1, e2⟩ | ⟨e1, e2⟩
      · rw [e1, e2, Int.toNat_natCast, Int.toNat_natCast, decide_eq_false (show ¬ y = q from fun e => hqy e.symm)]; simp
      · rw [e1, e2, Int.toNat_natCast, Int.toNat_natCast, decide_eq_false (show ¬ y = q from fun e => hqy e.symm)]; simp
  have hor : stepB wo i a T = T ||| 1 <<< x := Nat.eq_of_testBit_eq fun q => by rw [hbit, Nat.testBit_or, one_bit]
  have hsub : ∀ q, T.testBit q = true → (stepB wo i a T).testBit q = true := fun q hq => by rw [hbit, hq]; rfl
  have hxb : (stepB wo i a T).testBit x = true := by rw [hbit]; simp
  have hyb := hsub y hy
  have hboth : (stepB wo i a T).testBit a.1.toNat = true ∧ (stepB wo i a T).testBit a.2.1.toNat = true := by
    rcases hxy with ⟨e1, e2⟩ | ⟨e1, e2⟩
    · rw [e1, e2, Int.toNat_natCast, Int.toNat_natCast]; exact ⟨hxb, hyb⟩
    · rw [e1, e2, Int.toNat_natCast, Int.toNat_natCast]; exact ⟨hyb, hxb⟩
  have hnot : ¬ (T.testBit a.1.toNat = true ∧ T.testBit a.2.1.toNat = true) := fun g => hc.2 (g.1.trans g.2.symm)
  refine ⟨fun q hq => ?_, hsub f h.src, ?_, fun j b hj hjw hjn hw q hq => ?_, fun hw q hq hne => ?_⟩
  · rw [hbit, Bool.or_eq_true, decide_eq_true_eq] at hq
    rcases hq with hq | hq
    · exact h.lt q hq
    · omega
  · have h1 := usedB_lt (wo := wo) hsub L 0 i a ha (by rw [Nat.zero_add]; exact hc.1) (fun e => hc.2 (by rw [e])) hboth.1 hboth.2 hnot
    have h2 := h.cnt
    rw [hor, cntB_or hx n hxn, ← hor]
    omega
  · have hjn' : ¬ (T.testBit b.1.toNat = true ∧ T.testBit b.2.1.toNat = true) := fun g => hjn ⟨hsub _ g.1, hsub _ g.2⟩
    have hold := h.wo' j b hj hjw hjn' hw
    rw [hbit, Bool.or_eq_true, decide_eq_true_eq] at hq
    rcases hq with hq | rfl
    · exact hold q hq
    · have hij : (i : Int) ≠ j := fun e => by
        have : i = j := by omega
        subst this; rw [ha] at hj; cases hj; exact hjn hboth
      exact .next (hold y hy) ⟨i, a, ha, hij, by rcases hxy with ⟨e1, e2⟩ | ⟨e1, e2⟩ <;> omega⟩
  · rw [hbit, Bool.or_eq_true, decide_eq_true_eq] at hq
    rcases hq with hq | rfl
    · exact h.by' hw q hq hne
    · exact ⟨i, y, a, ha, by rcases hxy with ⟨e1, e2⟩ | ⟨e1, e2⟩ <;> omega, h.wo' i a ha hc.1 hnot hw y hy⟩
theorem Grown.round {L : List Bra} {wo : Int} {n f : Nat} (hL : BrIn n L) : ∀ (l : List Bra) (i T : Nat), (∀ (j : Nat) a, l[j]? = some a → L[i + j]? = some a) → Grown L wo n f T → Grown L wo n f (roundB wo i l T)
  | [], _, _, _, h => h
  | a :: l, i, T, hl, h => by
    rw [roundB]
    exact Grown.round hL l (i + 1) _ (fun j b hj => by rw [show i + 1 + j = i + (j + 1) from by omega]; exact hl (j + 1) b (by simpa using hj)) (h.step hL (by have := hl 0 a rfl; simpa using this))
theorem Grown.rounds {L : List Bra} {wo : Int} {n f : Nat} (hL : BrIn n L) : ∀ (k T : Nat), Grown L wo n f T → Grown L wo n f (roundsB L wo k T)
  | 0, _, h => h
  | k + 1, T, h => Grown.rounds hL k _ (Grown.round hL L 0 T (fun j a hj => by rw [Nat.zero_add]; exact hj) h)
def spansB (l : List Bra) : Prop := ∀ q : Nat, q < l.length + 1 → (roundsB l (-1) l.length (1 <<< 0)).testBit q = true
theorem cntB_all {T : Nat} : ∀ n, (∀ q, q < n → T.testBit q = true) → cntB T n = n
  | 0, _ => rfl
  | n + 1, h => by rw [cntB, cntB_all n (fun q hq => h q (by omega)), h n (by omega)]; rfl
theorem spans_two {l : List Bra} (hL : BrIn (l.length + 1) l) (h : spansB l) : ∀ a ∈ l, a.1 ≠ a.2.1 := by
  intro a ha e
  obtain ⟨j, hj⟩ := List.mem_iff_getElem?.1 ha
  have hg := Grown.rounds (wo := -1) hL l.length (1 <<< 0) (Grown.start (by omega))
  have h1 := hg.cnt
  rw [cntB_all _ h] at h1
  have := usedB_less (-1) (roundsB l (-1) l.length (1 <<< 0)) l 0 j a hj (.inr e)
  omega
theorem spans_cut {l : List Bra} (hL : BrIn (l.length + 1) l) (h : spansB l) {j : Nat} {a : Bra} (hj : l[j]? = some a) {f : Nat} (hf : f < l.length + 1) (hy : Way l j f a.1) (hz : Way l j f a.2.1) : False := by
  have hall : ∀ q : Nat, q < l.length + 1 → Way l j f q := by
    -- a way over the branch is one around it
    have cl : ClosedB l (-1) (fun x => Way l j f x) := fun y z hw ⟨i, b, h1, _, h3⟩ => by
      by_cases e : i = j
      · subst e
        rw [hj] at h1; cases h1
        rcases h3 with ⟨_, rfl⟩ | ⟨rfl, _⟩
        · exact hz
        · exact hy
      · exact .next hw ⟨i, b, h1, by omega, h3⟩
    have h0 : Way l j f (0 : Nat) := by
      have hr := (reach_way (wo := -1) hL (show (0 : Nat) < l.length + 1 by omega) (Nat.le_refl _) f).1 (h f hf)
      -- the way back
      have back : ∀ x : Int, Way l (-1) (0 : Nat) x → Way l (-1) x (0 : Nat) := fun x hx => by
        induction hx with
        | here => exact .here
        | next hw hjn ih =>
          have tr : ∀ {u v w : Int}, Way l (-1) u v → Way l (-1) v w → Way l (-1) u w := fun {u v w} huv hvw => by
            induction hvw with
            | here => exact huv
            | next _ hj2 ih2 => exact .next ih2 hj2
          exact tr (.next .here hjn.symm) ih
      exact (back f hr).within cl .here
    intro q hq
    exact ((reach_way (wo := -1) hL (show (0 : Nat) < l.length + 1 by omega) (Nat.le_refl _) q).1 (h q hq)).within cl h0
  have hg := Grown.rounds (wo := (j : Int)) hL l.length (1 <<< f) (Grown.start hf)
  have h1 := hg.cnt
  rw [cntB_all _ (fun q hq => (reach_way (wo := (j : Int)) hL hf (Nat.le_refl _) q).2 (hall q hq))] at h1
  have := usedB_less (j : Int) (roundsB l j l.length (1 <<< f)) l 0 j a hj (.inl (by rw [Nat.zero_add]))
  omega
theorem spans_sep {l : List Bra} (hL : BrIn (l.length + 1) l) (h : spansB l) {f q : Nat} (hf : f < l.length + 1) (hq : q < l.length + 1) (hne : q ≠ f) : ∃ (j : Nat) (a : Bra), l[j]? = some a ∧ ¬ Way l j f q := by
  have hall : ∀ x : Nat, x < l.length + 1 → (roundsB l (-1) l.length (1 <<< f)).testBit x = true := by
    intro x hx
    have h0 : Way l (-1) f (0 : Nat) := by
      have hr := (reach_way (wo := -1) hL (show (0 : Nat) < l.length + 1 by omega) (Nat.le_refl _) f).1 (h f hf)
      have back : ∀ x : Int, Way l (-1) (0 : Nat) x → Way l (-1) x (0 : Nat) := fun x hx => by
        induction hx with
        | here => exact .here
        | next hw hjn ih =>
          have tr : ∀ {u v w : Int}, Way l (-1) u v → Way l (-1) v w → Way l (-1) u w := fun {u v w} huv hvw => by
            induction hvw with
            | here => exact huv
            | next _ hj2 ih2 => exact .next ih2 hj2
          exact tr (.next .here hjn.symm) ih
      exact back f hr
    have hx0 := (reach_way (wo := -1) hL (show (0 : Nat) < l.length + 1 by omega) (Nat.le_refl _) x).1 (h x hx)
    exact (reach_way (wo := -1) hL hf (Nat.le_refl _) x).2 (hx0.within (fun y z hw hj => .next hw hj) h0)
  have hg := Grown.rounds (wo := -1) hL l.length (1 <<< f) (Grown.start hf)
  obtain ⟨j, y, a, hj, hxy, hw⟩ := hg.by' rfl q (hall q hq) hne
  refine ⟨j, a, hj, fun hwq => ?_⟩
  rcases hxy with ⟨e1, e2⟩ | ⟨e1, e2⟩
  · exact spans_cut hL h hj hf (by rw [e1]; exact hw) (by rw [e2]; exact hwq)
  · exact spans_cut hL h hj hf (by rw [e1]; exact hwq) (by rw [e2]; exact hw)
def joinsB (l : List Bra) : Prop := 1 ≤ l.length ∧ l.length ≤ 23 ∧ BrIn (l.length + 1) l ∧ spansB l
theorem full_iff {T n : Nat} (h : T < 2 ^ n) : T = 2 ^ n - 1 ↔ ∀ q, q < n → T.testBit q = true := by
  constructor
  · rintro rfl q hq; rw [Nat.testBit_two_pow_sub_one]; simpa using hq
  · intro hall
    apply Nat.eq_of_testBit_eq
    intro q
    rw [Nat.testBit_two_pow_sub_one]
    by_cases hq : q < n
    · rw [hall q hq]; simp [hq]
    · rw [Nat.testBit_lt_two_pow (Nat.lt_of_lt_of_le h (Nat.pow_le_pow_right (by omega) (by omega)))]; simp [hq]
theorem joins_wp {W : AW} {v : Value} {l : List Bra} (h : TriIn W v l) (hl : l.length ≤ 1000) :
    WpF T0 68 [v] W (fun u W' => Ext W W' ∧ ((joinsB l ∧ u = .bool true) ∨ (¬ joinsB l ∧ u = .bool false))) := by
  have h' := h
  obtain ⟨Av, cv, rfl, hA⟩ := h
  refine wpF fun68 rfl ?_
  have w1 : IntKind.i64.wrap ((l.length : Int) + 1) = (l.length : Int) + 1 := IntWalk.i64_in _ (by omega)
  try simp only [wpK_assoc]
  refine wpK_reg (fun R hR => by simp []; exact hR) ?_
  by_cases c1 : (l.length : Int) + 1 < 2
  · try simp only [wpK_assoc]
    refine wpK_reg (fun R hR => by simp [len_slice und59, w1, c1]; exact hR) ?_
    try simp only [wpK_assoc]
    first | refine wpK_onT (by simp []) ?_ | refine wpK_outT (by simp []) ?_ | refine wpK_condT (by simp []) ?_ | refine wpK_endT (by simp []) ?_
    try simp only [wpK_assoc]
    refine wpK_reg (fun R hR => by simp []; exact hR) ?_
    exact wpK_ret ⟨.inr rfl, rfl, [.bool false], by simp, .refl _ _, .inr ⟨fun hj => by have := hj.1; omega, rfl⟩⟩
  by_cases c2 : (24 : Int) < (l.length : Int) + 1
  · try simp only [wpK_assoc]
    refine wpK_reg (fun R hR => by simp [len_slice und59, w1, c1, c2]; exact hR) ?_
    try simp only [wpK_assoc]
    first | refine wpK_onT (by simp []) ?_ | refine wpK_outT (by simp []) ?_ | refine wpK_condT (by simp []) ?_ | refine wpK_endT (by simp []) ?_
    try simp only [wpK_assoc]
    refine wpK_reg (fun R hR => by simp []; exact hR) ?_
    exact wpK_ret ⟨.inr rfl, rfl, [.bool false], by simp, .refl _ _, .inr ⟨fun hj => by have := hj.2.1; omega, rfl⟩⟩
  try simp only [wpK_assoc]
  refine wpK_reg (fun R hR => by simp [len_slice und59, w1, c1, c2]; exact hR) ?_
  try simp only [wpK_assoc]
  first | refine wpK_onF (by simp []) ?_ | refine wpK_out (by simp []) ?_ | refine wpK_condF (by simp []) ?_ | refine wpK_endF (by simp []) (wpK_skip ?_) | refine wpK_endF (by simp []) ?_
  try simp only [wpK_assoc]
  refine wpK_reg (fun R hR => by simp [len_slice und59]; exact hR) ?_
  try simp only [wpK_assoc]
  refine wpK_while (I := fun k A W' => A.n = 38 ∧ A.defers = [] ∧ A.tmps.get 0 = some (.slice Av l.length cv) ∧ A.tmps.get 15 = some (.slice Av l.length cv) ∧ A.tmps.get 16 = some (.int .i64 l.length) ∧ Ext W W' ∧ ∃ i : Nat, k = l.length - i ∧ i ≤ l.length ∧ A.tmps.get 17 = some (.int .i64 i) ∧ ∀ (j : Nat) a, j < i → l[j]? = some a → two? a.1 a.2.1 ((l.length + 1 : Nat) : Int) = true)
    (J := fun A W' => A.n = 38 ∧ A.defers = [] ∧ A.tmps.get 0 = some (.slice Av l.length cv) ∧ A.tmps.get 15 = some (.slice Av l.length cv) ∧ A.tmps.get 16 = some (.int .i64 l.length) ∧ Ext W W' ∧ ∀ a ∈ l, two? a.1 a.2.1 ((l.length + 1 : Nat) : Int) = true)
    (Rt := fun A W' => A.defers = [] ∧ A.tmps.get 2 = some (.bool false) ∧ Ext W W' ∧ ¬ joinsB l) (k := l.length) ?_ ?_ ?_ ?_
  · exact ⟨rfl, rfl, by simp, by simp, by simp, .refl _ _, 0, by simp, by omega, by simp, fun j a hj => by omega⟩
  · rintro k ⟨tm, n, ds⟩ W3 ⟨hn, hd, h0, h15, h16, e3, i, hk, hi, h17, hgood⟩ Q' hJ hRt hI
    simp only at hn hd h0 h15 h16
    subst hn; subst hd
    simp only at h17
    try simp only [wpK_assoc]
    refine wpK_reg (fun R hR => by simp [h16, h17]; exact hR) ?_
    by_cases hlt : i < l.length
    · try simp only [wpK_assoc]
      first | refine wpK_onT (by simp [hlt]) ?_ | refine wpK_outT (by simp [hlt]) ?_ | refine wpK_condT (by simp [hlt]) ?_ | refine wpK_endT (by simp [hlt]) ?_
      have ha : l[i]? = some l[i] := List.getElem?_eq_getElem hlt
      have hmem : l[i] ∈ l := List.getElem_mem hlt
      generalize l[i] = a at ha hmem
      obtain ⟨b, o, hAv, q1, q2, q3⟩ := hA i _ ha
      have eV := indexAddr_tri (T := T0) und59 sz66 (b := b) (o := o) (c := cv) (k := .i64) hlt
      rw [← hAv] at eV
      have hl3 := load3 (T := T0) und66 agg66 inf66 is66 (q1.ext e3) (q2.ext e3) (q3.ext e3)
      obtain ⟨W5, s1, s2, hE5, hV5⟩ := storeVar_new (T := T0) (W := W3) (t := 66) (v := .agg ⟨[.int .i64 a.1, .int .i64 a.2.1, .int .i64 a.2.2]⟩) (z := [.int .i64 0, .int .i64 0, .int .i64 0]) inf66 (by rw [is66]; rfl) (by rw [is66]; rfl) rfl
      have e5 := e3.trans hE5
      have lx : aLoadVar T0 W5 3 W3.next 0 = some (.int .i64 a.1) := hV5.load1 (T := T0) und3 rfl (j := 0) (v := .int .i64 a.1) rfl
      have ly : aLoadVar T0 W5 3 W3.next 1 = some (.int .i64 a.2.1) := hV5.load1 (T := T0) und3 rfl (j := 1) (v := .int .i64 a.2.1) rfl
      have hsi : IntKind.i64.wrap ((i : Int) + 1) = ((i + 1 : Nat) : Int) := i64_succ i (by omega)
      have hat := areTwo_wp a.1 a.2.1 ((l.length : Int) + 1) W5
      have e1 : ((l.length + 1 : Nat) : Int) = (l.length : Int) + 1 := by omega
      refine wpK_block ?_
      try simp only [wpK_assoc]
      refine wpK_reg (fun R hR => by simp [h15, h17, eV, hl3, zero66, s1]; exact hR) ?_
      cases h2 : two? a.1 a.2.1 ((l.length : Int) + 1) with
      | false =>
        rw [h2] at hat
        try simp only [wpK_assoc]
        refine wpK_reg (fun R hR => by
            simp [h0, lx, ly, len_slice und59, w1, field66, aEnter, fun74, short_other, aCallV]; rw [callS_none]
            refine (hat).mono ?_
            rintro _ W9 ⟨e9, rfl⟩; subst W9
            simp [h0, lx, ly, len_slice und59, w1, field66]; exact hR) ?_
        try simp only [wpK_assoc]
        first | refine wpK_onT (by simp []) ?_ | refine wpK_outT (by simp []) ?_ | refine wpK_condT (by simp []) ?_ | refine wpK_endT (by simp []) ?_
        try simp only [wpK_assoc]
        refine wpK_reg (fun R hR => by simp []; exact hR) ?_
        refine wpK_ret (hRt _ _ ⟨rfl, by simp, e5, fun hj => ?_⟩)
        have b1 := hj.2.2.1 a hmem
        have b2 := spans_two hj.2.2.1 hj.2.2.2 a hmem
        simp [two?] at h2
        omega
      | true =>
        rw [h2] at hat
        try simp only [wpK_assoc]
        refine wpK_reg (fun R hR => by
            simp [h0, lx, ly, len_slice und59, w1, field66, aEnter, fun74, short_other, aCallV]; rw [callS_none]
            refine (hat).mono ?_
            rintro _ W9 ⟨e9, rfl⟩; subst W9
            simp [h0, lx, ly, len_slice und59, w1, field66]; exact hR) ?_
        try simp only [wpK_assoc]
        first | refine wpK_onF (by simp []) ?_ | refine wpK_out (by simp []) ?_ | refine wpK_condF (by simp []) ?_ | refine wpK_endF (by simp []) (wpK_skip ?_) | refine wpK_endF (by simp []) ?_
        try simp only [wpK_assoc]
        refine wpK_reg1 (fun R hR => by simp [h17, hsi]; exact hR) ?_
        refine hI (k - 1) _ _ (by omega) ⟨rfl, rfl, by simp [h0, h15, h16], by simp [h0, h15, h16], by simp [h0, h15, h16], e5, i + 1, by omega, by omega, by simp, fun j b hj hb => ?_⟩
        by_cases e : j = i
        · subst e; rw [ha] at hb; cases hb; rw [e1]; exact h2
        · exact hgood j b (by omega) hb
    · try simp only [wpK_assoc]
      first | refine wpK_onF (by simp [hlt]) ?_ | refine wpK_out (by simp [hlt]) ?_ | refine wpK_condF (by simp [hlt]) ?_ | refine wpK_endF (by simp [hlt]) (wpK_skip ?_) | refine wpK_endF (by simp [hlt]) ?_
      refine hJ _ _ ⟨rfl, rfl, by simp [h0, h15, h16], by simp [h0, h15, h16], by simp [h0, h15, h16], e3, fun a ha => ?_⟩
      obtain ⟨j, hj, rfl⟩ := List.getElem_of_mem ha
      exact hgood j l[j] (by omega) (List.getElem?_eq_getElem hj)
  · rintro A' W' ⟨g1, g2, g3, g4⟩
    exact ⟨.inr rfl, g1, [.bool false], by simp [g2], g3, .inr ⟨g4, rfl⟩⟩
  · rintro ⟨tm, n, ds⟩ W3 ⟨hn, hd, h0, h15, h16, e3, hall⟩
    simp only at hn hd h0 h15 h16
    subst hn; subst hd
    have hL : BrIn (l.length + 1) l := fun a ha => by
      have := hall a ha
      simp [two?] at this
      omega
    have hrw := reach_wp (n := l.length + 1) (f := 0) (h'.ext e3) (by omega) hL (by omega) (by omega) (-1)
    have hbw := fun W' => below_wp (l.length + 1) (by omega) W'
    have e1 : ((l.length + 1 : Nat) : Int) = (l.length : Int) + 1 := by omega
    simp only [e1] at hbw
    have hfi := fun h => full_iff (T := roundsB l (-1) l.length (1 <<< 0)) (n := l.length + 1) h
    have hsp : (∀ q, q < l.length + 1 → (roundsB l (-1) l.length (1 <<< 0)).testBit q = true) ↔ spansB l := Iff.rfl
    generalize roundsB l (-1) l.length (1 <<< 0) = R0 at hrw hfi hsp
    generalize 2 ^ (l.length + 1) - 1 = pm at hbw hfi
    simp only [Int.natCast_zero] at hrw
    by_cases hR : R0 = pm
    · try simp only [wpK_assoc]
      refine wpK_x0 (fun R hR' => by
        simp [h0, aEnter, fun69, short_other, aCallV]; rw [callS_none]
        refine hrw.mono ?_
        rintro _ W4 ⟨e4, rfl, hlt⟩
        simp [h0, len_slice und59, w1, aEnter, fun82, short_other, aCallV]; rw [callS_none]
        refine (hbw W4).mono ?_
        rintro _ W9 ⟨e9, rfl⟩; subst W9
        simp [hR]; exact hR' W4 (And.intro e4 hlt)) ?_
      rintro W4 ⟨e4, hlt⟩
      exact wpK_ret ⟨.inr rfl, rfl, [.bool true], by simp, e3.trans e4, .inl ⟨⟨by omega, by omega, hL, hsp.1 ((hfi hlt).1 hR)⟩, rfl⟩⟩
    · have hR2 : ¬ (R0 : Int) = pm := by omega
      try simp only [wpK_assoc]
      refine wpK_x0 (fun R hR' => by
        simp [h0, aEnter, fun69, short_other, aCallV]; rw [callS_none]
        refine hrw.mono ?_
        rintro _ W4 ⟨e4, rfl, hlt⟩
        simp [h0, len_slice und59, w1, aEnter, fun82, short_other, aCallV]; rw [callS_none]
        refine (hbw W4).mono ?_
        rintro _ W9 ⟨e9, rfl⟩; subst W9
        simp [hR, hR2]; exact hR' W4 (And.intro e4 hlt)) ?_
      rintro W4 ⟨e4, hlt⟩
      exact wpK_ret ⟨.inr rfl, rfl, [.bool false], by simp, e3.trans e4, .inr ⟨fun hj => hR ((hfi hlt).2 (hsp.2 hj.2.2.2)), rfl⟩⟩
def maxI : Int := 9223372036854775807
def MinW (l : List Bra) (f q : Nat) (x : Int) : Prop := (∀ (j : Nat) a, l[j]? = some a → ¬ Way l j f q → x ≤ a.2.2) ∧ ∃ (j : Nat) (a : Bra), l[j]? = some a ∧ ¬ Way l j f q ∧ x = a.2.2
theorem MinW.one {l : List Bra} {f q : Nat} {x y : Int} (h : MinW l f q x) (h' : MinW l f q y) : x = y := by
  obtain ⟨j, a, h1, h2, h3⟩ := h.2
  obtain ⟨k, b, g1, g2, g3⟩ := h'.2
  have := h.1 k b g1 g2
  have := h'.1 j a h1 h2
  omega
theorem between_wp {W : AW} {v : Value} {l : List Bra} (h : TriIn W v l) (hl : l.length ≤ 1000) (hw : ∀ a ∈ l, a.2.2 ≤ maxI) (f q : Int) :
    WpF T0 47 [v, .int .i64 f, .int .i64 q] W (fun u W' => Ext W W' ∧ ((¬ joinsB l ∧ u = .tuple ⟨[.int .i64 0, .int .i64 30]⟩) ∨ (joinsB l ∧ two? f q ((l.length + 1 : Nat) : Int) = false ∧ u = .tuple ⟨[.int .i64 0, .int .i64 1]⟩) ∨
      (joinsB l ∧ two? f q ((l.length + 1 : Nat) : Int) = true ∧ ∃ x, MinW l f.toNat q.toNat x ∧ u = .tuple ⟨[.int .i64 x, .int .i64 0]⟩))) := by
  have h' := h
  obtain ⟨Av, cv, rfl, hA⟩ := h
  refine wpF fun47 rfl ?_
  try simp only [wpK_assoc]
  refine wpK_reg (fun R hR => by simp []; exact hR) ?_
  by_cases hj : joinsB l
  case neg =>
    have hjw : WpF T0 68 [.slice Av l.length cv] W (fun u W' => Ext W W' ∧ u = .bool false) := by
      refine (joins_wp h' hl).mono ?_
      rintro u W' ⟨e, ⟨g, _⟩ | ⟨_, rfl⟩⟩
      · exact absurd g hj
      · exact ⟨e, rfl⟩
    try simp only [wpK_assoc]
    refine wpK_x0 (fun R hR => by
        simp [aEnter, fun68, short_other, aCallV]; rw [callS_none]
        refine (hjw).mono ?_
        rintro _ W1 ⟨e1, rfl⟩
        simp []; exact hR W1 e1) ?_
    rintro W1 e1
    try simp only [wpK_assoc]
    first | refine wpK_onT (by simp []) ?_ | refine wpK_outT (by simp []) ?_ | refine wpK_condT (by simp []) ?_ | refine wpK_endT (by simp []) ?_
    try simp only [wpK_assoc]
    refine wpK_reg (fun R hR => by simp []; exact hR) ?_
    exact wpK_ret ⟨.inr rfl, rfl, [.int .i64 0, .int .i64 30], by simp, e1, .inl ⟨hj, rfl⟩⟩
  have hjw : WpF T0 68 [.slice Av l.length cv] W (fun u W' => Ext W W' ∧ u = .bool true) := by
    refine (joins_wp h' hl).mono ?_
    rintro u W' ⟨e, ⟨_, rfl⟩ | ⟨g, _⟩⟩
    · exact ⟨e, rfl⟩
    · exact absurd hj g
  obtain ⟨hj1, hj2, hL, hsp⟩ := hj
  have w1 : IntKind.i64.wrap ((l.length : Int) + 1) = (l.length : Int) + 1 := IntWalk.i64_in _ (by omega)
  have e1' : ((l.length + 1 : Nat) : Int) = (l.length : Int) + 1 := by omega
  try simp only [wpK_assoc]
  refine wpK_x0 (fun R hR => by
      simp [aEnter, fun68, short_other, aCallV]; rw [callS_none]
      refine (hjw).mono ?_
      rintro _ W1 ⟨e1, rfl⟩
      simp []; exact hR W1 e1) ?_
  rintro W1 e1
  try simp only [wpK_assoc]
  first | refine wpK_onF (by simp []) ?_ | refine wpK_out (by simp []) ?_ | refine wpK_condF (by simp []) ?_ | refine wpK_endF (by simp []) (wpK_skip ?_) | refine wpK_endF (by simp []) ?_
  have hat := areTwo_wp f q ((l.length : Int) + 1) W1
  cases h2 : two? f q ((l.length : Int) + 1) with
  | false =>
    rw [h2] at hat
    try simp only [wpK_assoc]
    refine wpK_reg (fun R hR => by
        simp [len_slice und59, w1, aEnter, fun74, short_other, aCallV]; rw [callS_none]
        refine (hat).mono ?_
        rintro _ W9 ⟨e9, rfl⟩; subst W9
        simp [len_slice und59, w1]; exact hR) ?_
    try simp only [wpK_assoc]
    first | refine wpK_onT (by simp []) ?_ | refine wpK_outT (by simp []) ?_ | refine wpK_condT (by simp []) ?_ | refine wpK_endT (by simp []) ?_
    try simp only [wpK_assoc]
    refine wpK_reg (fun R hR => by simp []; exact hR) ?_
    exact wpK_ret ⟨.inr rfl, rfl, [.int .i64 0, .int .i64 1], by simp, e1, .inr (.inl ⟨⟨hj1, hj2, hL, hsp⟩, by rw [e1']; exact h2, rfl⟩)⟩
  | true =>
    rw [h2] at hat
    try simp only [wpK_assoc]
    refine wpK_reg (fun R hR => by
        simp [len_slice und59, w1, aEnter, fun74, short_other, aCallV]; rw [callS_none]
        refine (hat).mono ?_
        rintro _ W9 ⟨e9, rfl⟩; subst W9
        simp [len_slice und59, w1]; exact hR) ?_
    try simp only [wpK_assoc]
    first | refine wpK_onF (by simp []) ?_ | refine wpK_out (by simp []) ?_ | refine wpK_condF (by simp []) ?_ | refine wpK_endF (by simp []) (wpK_skip ?_) | refine wpK_endF (by simp []) ?_
    have h2' := h2
    simp only [two?, Bool.and_eq_true, decide_eq_true_eq] at h2'
    obtain ⟨fn, rfl⟩ : ∃ n : Nat, f = n := ⟨f.toNat, by omega⟩
    obtain ⟨qn, rfl⟩ : ∃ n : Nat, q = n := ⟨q.toNat, by omega⟩
    try simp only [wpK_assoc]
    refine wpK_reg (fun R hR => by simp []; exact hR) ?_
    try simp only [wpK_assoc]
    refine wpK_reg (fun R hR => by simp [len_slice und59]; exact hR) ?_
    try simp only [wpK_assoc]
    refine wpK_while (I := fun k A W' => A.n = 41 ∧ A.defers = [] ∧ A.tmps.get 0 = some (.slice Av l.length cv) ∧ A.tmps.get 1 = some (.int .i64 fn) ∧ A.tmps.get 2 = some (.int .i64 qn) ∧ A.tmps.get 21 = some (.slice Av l.length cv) ∧ A.tmps.get 22 = some (.int .i64 l.length) ∧ Ext W W' ∧ ∃ (i : Nat) (x : Int), k = l.length - i ∧ i ≤ l.length ∧ A.tmps.get 23 = some (.int .i64 i) ∧ A.tmps.get 8 = some (.int .i64 x) ∧ x ≤ maxI ∧ (∀ (j : Nat) a, j < i → l[j]? = some a → ¬ Way l j fn qn → x ≤ a.2.2) ∧ (x = maxI ∨ ∃ (j : Nat) (a : Bra), j < i ∧ l[j]? = some a ∧ ¬ Way l j fn qn ∧ x = a.2.2))
      (J := fun A W' => A.n = 41 ∧ A.defers = [] ∧ Ext W W' ∧ ∃ x : Int, A.tmps.get 8 = some (.int .i64 x) ∧ MinW l fn qn x)
      (Rt := fun _ _ => False) (k := l.length) ?_ ?_ ?_ ?_
    · exact ⟨rfl, rfl, by simp, by simp, by simp, by simp, by simp, e1, 0, maxI, by simp, by omega, by simp, by simp [maxI], Int.le_refl _, fun j a hj => by omega, .inl rfl⟩
    · rintro k ⟨tm, n, ds⟩ W3 ⟨hn, hd, h0, h1, h2, h21, h22, e3, i, x, hk, hi, h23, h8, hxM, hlow, hatt⟩ Q' hJ hRt hI
      simp only at hn hd h0 h1 h2 h21 h22
      subst hn; subst hd
      simp only at h23 h8
      try simp only [wpK_assoc]
      refine wpK_reg (fun R hR => by simp [h22, h23]; exact hR) ?_
      by_cases hlt : i < l.length
      case neg =>
        have e : i = l.length := by omega
        try simp only [wpK_assoc]
        first | refine wpK_onF (by simp [hlt]) ?_ | refine wpK_out (by simp [hlt]) ?_ | refine wpK_condF (by simp [hlt]) ?_ | refine wpK_endF (by simp [hlt]) (wpK_skip ?_) | refine wpK_endF (by simp [hlt]) ?_
        refine hJ _ _ ⟨rfl, rfl, e3, x, by simp [h8], fun j a hj hn => hlow j a (by have := (List.getElem?_eq_some_iff.1 hj).1; omega) hj hn, ?_⟩
        obtain ⟨j, a, g1, g2⟩ := spans_sep hL hsp (f := fn) (q := qn) (by omega) (by omega) (by omega)
        rcases hatt with rfl | ⟨j', a', _, g3, g4, g5⟩
        · have := hlow j a (by have := (List.getElem?_eq_some_iff.1 g1).1; omega) g1 g2
          have := hw a (List.mem_of_getElem? g1)
          exact ⟨j, a, g1, g2, by omega⟩
        · exact ⟨j', a', g3, g4, g5⟩
      try simp only [wpK_assoc]
      first | refine wpK_onT (by simp [hlt]) ?_ | refine wpK_outT (by simp [hlt]) ?_ | refine wpK_condT (by simp [hlt]) ?_ | refine wpK_endT (by simp [hlt]) ?_
      have ha : l[i]? = some l[i] := List.getElem?_eq_getElem hlt
      have hmem : l[i] ∈ l := List.getElem_mem hlt
      generalize l[i] = a at ha hmem
      obtain ⟨b, o, hAv, q1, q2, q3⟩ := hA i _ ha
      have eV := indexAddr_tri (T := T0) und59 sz66 (b := b) (o := o) (c := cv) (k := .i64) hlt
      rw [← hAv] at eV
      have hl3 := load3 (T := T0) und66 agg66 inf66 is66 (q1.ext e3) (q2.ext e3) (q3.ext e3)
      obtain ⟨W5, s1, s2, hE5, hV5⟩ := storeVar_new (T := T0) (W := W3) (t := 66) (v := .agg ⟨[.int .i64 a.1, .int .i64 a.2.1, .int .i64 a.2.2]⟩) (z := [.int .i64 0, .int .i64 0, .int .i64 0]) inf66 (by rw [is66]; rfl) (by rw [is66]; rfl) rfl
      have e5 := e3.trans hE5
      have hk1 : k - 1 < k ∧ k - 1 = l.length - (i + 1) ∧ i + 1 ≤ l.length := by clear hatt hlow; omega
      have hsi : IntKind.i64.wrap ((i : Int) + 1) = ((i + 1 : Nat) : Int) := i64_succ i (by omega)
      have hrw := reach_wp (n := l.length + 1) (f := fn) (h'.ext e5) (by omega) hL (by omega) (by omega) (i : Int)
      have hwy := reach_way (wo := (i : Int)) hL (f := fn) (by omega) (Nat.le_refl _) qn
      generalize roundsB l (i : Int) l.length (1 <<< fn) = R0 at hrw hwy
      obtain ⟨rb, hrb⟩ : ∃ c : Bool, c = R0.testBit qn := ⟨_, rfl⟩
      rw [← hrb] at hwy
      refine wpK_block ?_
      try simp only [wpK_assoc]
      refine wpK_reg (fun R hR => by simp [h21, h23, eV, hl3, zero66, s1]; exact hR) ?_
      try simp only [wpK_assoc]
      refine wpK_x0 (fun R hR' => by
        simp [h0, h1, aEnter, fun69, short_other, aCallV]; rw [callS_none]
        refine hrw.mono ?_
        rintro _ W6 ⟨e6, rfl, hlt6⟩
        simp [h2, aEnter, fun62, short_other, aCallV]; rw [callS_none]
        refine (has_wp R0 qn (by have : 2 ^ (l.length + 1) ≤ 2 ^ 31 := Nat.pow_le_pow_right (by omega) (by omega)
                                 omega) (by omega) W6).mono ?_
        rintro _ W9 ⟨e9, rfl⟩; subst W9
        rw [← hrb]
        simp; exact hR' W6 e6) ?_
      rintro W6 e56
      have e6 := e5.trans e56
      have lw : aLoadVar T0 W6 2 W3.next 2 = some (.int .i64 a.2.2) := (hV5.ext e56).load1 (T := T0) und2 rfl (j := 2) (v := .int .i64 a.2.2) rfl
      clear hrb
      cases rb with
      | true =>
        have hway := hwy.1 rfl
        try simp only [wpK_assoc]
        first | refine wpK_onF (by simp []) ?_ | refine wpK_out (by simp []) ?_ | refine wpK_condF (by simp []) ?_ | refine wpK_endF (by simp []) (wpK_skip ?_) | refine wpK_endF (by simp []) ?_
        try simp only [wpK_assoc]
        refine wpK_reg1 (fun R hR => by simp [h23, hsi]; exact hR) ?_
        refine hI (k - 1) _ _ hk1.1 ⟨rfl, rfl, by simp [h0, h1, h2, h21, h22], by simp [h0, h1, h2, h21, h22], by simp [h0, h1, h2, h21, h22], by simp [h0, h1, h2, h21, h22], by simp [h0, h1, h2, h21, h22], e6, i + 1, x, hk1.2.1, hk1.2.2, by simp, by simp [h8], hxM, fun j b hj hb hn => ?_, ?_⟩
        · by_cases e : j = i
          · subst e; exact absurd hway hn
          · exact hlow j b (by omega) hb hn
        · rcases hatt with g | ⟨j, b, g1, g2⟩
          · exact .inl g
          · exact .inr ⟨j, b, by omega, g2⟩
      | false =>
        have hway : ¬ Way l i fn qn := fun g => by have := hwy.2 g; cases this
        try simp only [wpK_assoc]
        first | refine wpK_onT (by simp []) ?_ | refine wpK_outT (by simp []) ?_ | refine wpK_condT (by simp []) ?_ | refine wpK_endT (by simp []) ?_
        try simp only [wpK_assoc]
        refine wpK_reg1 (fun R hR => by simp [h8, lw, min_int, field66]; exact hR) ?_
        try simp only [wpK_assoc]
        refine wpK_reg1 (fun R hR => by simp [h23, hsi]; exact hR) ?_
        refine hI (k - 1) _ _ hk1.1 ⟨rfl, rfl, by simp [h0, h1, h2, h21, h22], by simp [h0, h1, h2, h21, h22], by simp [h0, h1, h2, h21, h22], by simp [h0, h1, h2, h21, h22], by simp [h0, h1, h2, h21, h22], e6, i + 1, min x a.2.2, hk1.2.1, hk1.2.2, by simp, by simp, (by clear hatt hlow; omega), fun j b hj hb hn => ?_, ?_⟩
        · by_cases e : j = i
          · subst e; rw [ha] at hb; cases hb; omega
          · have := hlow j b (by omega) hb hn; omega
        · by_cases c : x ≤ a.2.2
          · rw [Int.min_eq_left c]
            rcases hatt with g | ⟨j, b, g1, g2⟩
            · exact .inl g
            · exact .inr ⟨j, b, by omega, g2⟩
          · rw [Int.min_eq_right (by omega)]
            exact .inr ⟨i, a, by omega, ha, hway, rfl⟩
    · rintro A' W' hf; exact hf.elim
    · rintro ⟨tm, n, ds⟩ W3 ⟨hn, hd, e3, x, h8, hx⟩
      simp only at hn hd h8
      subst hn; subst hd
      try simp only [wpK_assoc]
      refine wpK_reg (fun R hR => by simp [h8]; exact hR) ?_
      exact wpK_ret ⟨.inr rfl, rfl, [.int .i64 x, .int .i64 0], by simp, e3, .inr (.inr ⟨⟨hj1, hj2, hL, hsp⟩, by rw [e1']; exact h2, x, hx, rfl⟩)⟩
def MinCut (q : List Quad) (s t : Nat) (x : Int) : Prop := (∃ S, isCut s t S ∧ capQ S q = x) ∧ ∀ T, isCut s t T → x ≤ capQ T q
theorem MinCut.one {q : List Quad} {s t : Nat} {x y : Int} (h : MinCut q s t x) (h' : MinCut q s t y) : x = y := by
  obtain ⟨⟨S, h1, h2⟩, h3⟩ := h
  obtain ⟨⟨S', g1, g2⟩, g3⟩ := h'
  have := h3 S' g1
  have := g3 S h1
  omega
theorem Filled.minCut {P : Int} {l : List Quad} {s t : Nat} {x : Int} {rm : Nat → Int} {lv : Nat → Nat} (F : Filled (layL (1 <<< s) s l) s t (hCap (layL (1 <<< s) s l)) x rm lv) (hin : PlanIn P l) (hs : s < 24) (ht : t < 24) : MinCut l s t x := by
  obtain ⟨d1, d2, d3, d4⟩ := filled_capQ hin hs ht F
  exact ⟨⟨_, ⟨d3, d4⟩, d2.symm⟩, fun T hT => (d1 T hT.1 hT.2).1⟩
def TreeB (P : Nat) (q : List Quad) (l : List Bra) : Prop := l.length + 1 = P ∧ joinsB l ∧ ∀ (i : Nat) a, l[i]? = some a → ∃ x, MinCut q a.1.toNat a.2.1.toNat x ∧ a.2.2 = x ∧ capQ (roundsB l i l.length (1 <<< a.1.toNat)) q = x

theorem Way.bound {l : List Bra} {n : Nat} {wo x y : Int} (hL : BrIn n l) (hx : 0 ≤ x ∧ x < n) (h : Way l wo x y) : 0 ≤ y ∧ y < n :=
  h.within (T := fun y => 0 ≤ y ∧ y < n) (fun y z _ hj => by
    obtain ⟨i, a, h1, h2, h3⟩ := hj
    have := hL a (List.mem_of_getElem? h1)
    rcases h3 with ⟨rfl, rfl⟩ | ⟨rfl, rfl⟩ <;> omega) hx
theorem set_of (n : Nat) : ∀ S : List Int, S.Nodup → (∀ y ∈ S, 0 ≤ y ∧ y < n) → ∃ T : Nat, (∀ i : Nat, T.testBit i = decide ((i : Int) ∈ S)) ∧ cntB T n = S.length
  | [], _, _ => ⟨0, fun i => by simp, by
    have : ∀ m, cntB 0 m = 0 := fun m => by
      induction m with
      | zero => rfl
      | succ m ih => rw [cntB, ih, Nat.zero_testBit]; rfl
    exact this n⟩
  | y :: S, hn, hb => by
    have hn' := List.nodup_cons.1 hn
    obtain ⟨T, h1, h2⟩ := set_of n S hn'.2 (fun z hz => hb z (List.mem_cons_of_mem _ hz))
    have hy := hb y List.mem_cons_self
    have ey : ((y.toNat : Nat) : Int) = y := by omega
    have hT : T.testBit y.toNat = false := by rw [h1, ey]; exact decide_eq_false hn'.1
    refine ⟨T ||| 1 <<< y.toNat, fun i => ?_, by rw [cntB_or hT n (by omega), h2]; rfl⟩
    rw [Nat.testBit_or, one_bit, h1]
    by_cases e : y.toNat = i
    · have : (i : Int) = y := by omega
      rw [decide_eq_true e, Bool.or_true, this]
      exact (decide_eq_true List.mem_cons_self).symm
    · rw [decide_eq_false e, Bool.or_false]
      have : ¬ (i : Int) = y := by omega
      simp [List.mem_cons, this]
structure SideS (l : List Bra) (wo x : Int) (S : List Int) (i : Nat) : Prop where
  nd : S.Nodup
  here : x ∈ S
  way : ∀ y ∈ S, Way l wo x y
  done : ∀ (j : Nat) y, j < i → S[j]? = some y → ∀ z, Joined l wo y z → z ∈ S
theorem SideS.start (l : List Bra) (wo x : Int) : SideS l wo x [x] 0 := ⟨by simp, by simp, fun y hy => by
  rw [List.mem_singleton] at hy; subst hy; exact .here, fun j y hj => by omega⟩
theorem SideS.len {l : List Bra} {wo : Int} {x n : Nat} {S : List Int} {i : Nat} (h : SideS l wo x S i) (hL : BrIn n l) (hx : x < n) : S.length ≤ n := by
  obtain ⟨T, _, h2⟩ := set_of n S h.nd (fun y hy => (h.way y hy).bound hL (by omega))
  rw [← h2]; exact cntB_max T n
theorem SideS.pos {l : List Bra} {wo x : Int} {S : List Int} {i : Nat} (h : SideS l wo x S i) : 0 < S.length := List.length_pos_of_mem h.here
theorem SideS.add {l : List Bra} {wo x y z : Int} {S : List Int} {i : Nat} (h : SideS l wo x S i) (hy : y ∈ S) (hz : Joined l wo y z) (hn : z ∉ S) (hi : i ≤ S.length) : SideS l wo x (S ++ [z]) i where
  nd := by
    rw [List.nodup_append]
    exact ⟨h.nd, by simp, fun a ha b hb e => by rw [List.mem_singleton] at hb; subst hb; subst e; exact hn ha⟩
  here := List.mem_append_left _ h.here
  way w hw := by
    rcases List.mem_append.1 hw with hw | hw
    · exact h.way w hw
    · rw [List.mem_singleton] at hw; subst hw; exact .next (h.way y hy) hz
  done j w hj hw v hv := by
    rw [List.getElem?_append_left (by omega)] at hw
    exact List.mem_append_left _ (h.done j w hj hw v hv)
def PartS (l : List Bra) (wo y : Int) (j : Nat) (S : List Int) : Prop := ∀ (m : Nat) a, m < j → l[m]? = some a → (m : Int) ≠ wo → (a.1 = y → a.2.1 ∈ S) ∧ (a.2.1 = y → a.1 ∈ S)
theorem PartS.more {l : List Bra} {wo y : Int} {j : Nat} {S S' : List Int} (h : PartS l wo y j S) (hs : ∀ w ∈ S, w ∈ S') : PartS l wo y j S' := fun m a h1 h2 h3 => ⟨fun e => hs _ ((h m a h1 h2 h3).1 e), fun e => hs _ ((h m a h1 h2 h3).2 e)⟩
theorem SideS.next {l : List Bra} {wo x y : Int} {S : List Int} {i : Nat} (h : SideS l wo x S i) (hy : S[i]? = some y) (hP : PartS l wo y l.length S) : SideS l wo x S (i + 1) where
  nd := h.nd
  here := h.here
  way := h.way
  done j w hj hw z hz := by
    by_cases e : j = i
    · subst e; rw [hy] at hw; cases hw
      obtain ⟨m, a, h1, h2, h3⟩ := hz
      have hp := hP m a (List.getElem?_eq_some_iff.1 h1).1 h1 h2
      rcases h3 with ⟨e1, e2⟩ | ⟨e1, e2⟩
      · exact e2 ▸ hp.1 e1
      · exact e1 ▸ hp.2 e2
    · exact h.done j w (by omega) hw z hz
theorem SideS.all {l : List Bra} {wo x : Int} {S : List Int} (h : SideS l wo x S S.length) (y : Int) : y ∈ S ↔ Way l wo x y :=
  ⟨h.way y, fun hw => hw.within (T := fun y => y ∈ S) (fun a b ha hj => by
    obtain ⟨i, hi, e⟩ := List.getElem_of_mem ha
    exact h.done i a hi (by rw [← e]; exact List.getElem?_eq_getElem hi) b hj) h.here⟩
def HeldI (W0 W : AW) (v : Value) (S : List Int) : Prop := HeldN W v S.length (intsV S) 3 1 (fun b => W0.next ≤ b)
theorem HeldI.has {W0 W : AW} {v : Value} {S : List Int} (h : HeldI W0 W v S) (hn : 0 < S.length) : ∃ b c, v = .slice (some ⟨b, 0, none⟩) S.length c ∧ b < W.next ∧ ∀ (i : Nat) x, S[i]? = some x → W.Has b i (.int .i64 x) := by
  obtain ⟨b, c, h1, _, h3, h4⟩ := HeldN.has h hn
  exact ⟨b, c, h1, h3, fun i x hx => h4 i _ (by rw [intsV, List.getElem?_map, hx]; rfl)⟩
theorem HeldI.ints {W0 W : AW} {v : Value} {S : List Int} (h : HeldI W0 W v S) (hn : 0 < S.length) : IntL W v S := by
  obtain ⟨b, c, rfl, _, h4⟩ := h.has hn
  exact ⟨_, _, rfl, fun i x hx => ⟨b, 0, rfl, by rw [Nat.zero_add]; exact h4 i x hx⟩⟩
theorem HeldI.push {W0 W : AW} {v : Value} {S : List Int} (h : HeldI W0 W v S) (he : Ext W0 W) (hl : S.length ≤ 1000) (x : Int) :
    ∃ v' W', aAppend T0 (W.newCells 3 [.int .i64 x]) [46, 46] [v, .slice (some ⟨W.next, 0, none⟩) 1 2] = some (v', W') ∧ HeldI W0 W' v' (S ++ [x]) ∧ Ext W0 W' := by
  have hE : Ext W (W.newCells 3 [.int .i64 x]) := .newCells _ _ _
  have h1 := HeldN.only (K' := fun _ => False) h hE (fun _ _ _ y => y)
  have hn := he.1
  obtain ⟨v', W', a1, a2, a3, a4⟩ := append_heldN (T := T0) (t := 46) (el := 3) (c := 2) (by omega) und46 inf3 is3 z3' rfl h1 (u := [.int .i64 x]) rfl (newCells_cellsAt W 3 [.int .i64 x] 1 rfl) rfl (by rw [by3']; omega) (by omega)
  refine ⟨v', W', a1, ?_, ?_⟩
  · have e1 : (S ++ [x]).length = S.length + 1 := by simp
    have e2 : intsV (S ++ [x]) = intsV S ++ [.int .i64 x] := by simp [intsV]
    show HeldN W' v' (S ++ [x]).length (intsV (S ++ [x])) 3 1 _
    rw [e1, e2]
    refine a3.mono (fun b hb => ?_)
    rcases hb with hb | hb
    · exact hb
    · rw [newCells_next] at hb; omega
  · refine ⟨by rw [a2, newCells_next]; omega, fun b hb _ => ?_⟩
    rw [a4.2 b (by rw [newCells_next]; omega) (by omega)]
    rw [hE.2 b (by omega) (fun y => y)]
    exact he.2 b hb (fun y => y)


theorem cut_least {W : AW} {v : Value} {P : Nat} {lk : List Tri} (h : TriIn W v lk) (hok : planOk P (arcsQ lk) = true) {s t : Nat} (hst : two? (s : Int) (t : Int) (P : Int) = true) (hT : tabsIn T0 T0.tabs W = true) (h0 : 0 < W.next) :
    ∃ (S : Nat) (c : Int), S < 2 ^ P ∧ isCut s t S ∧ c = capQ S (linksQ lk) ∧ MinCut (linksQ lk) s t c ∧ ∀ T, isCut s t T → c ≤ capQ T (linksQ lk) ∧ (c = capQ T (linksQ lk) → ∀ q, S.testBit q = true → T.testBit q = true) := by
  have hin := links_in hok
  obtain ⟨hP2, hP24, _⟩ := hin.size
  have h2 := hst
  simp only [two?, Bool.and_eq_true, decide_eq_true_eq] at h2
  obtain ⟨_, _, _, _, c, rm, lv, _, hF⟩ := least_ok (P := (P : Int)) h hin hst hT h0
  obtain ⟨nb, nlt⟩ := near_in hin (by omega) hF
  obtain ⟨d1, d2, d3, d4⟩ := filled_capQ hin (by omega) (by omega) hF
  exact ⟨nearS lv 24, c, nlt, ⟨d3, d4⟩, d2, hF.minCut hin (by omega) (by omega), fun T hc => ⟨(d1 T hc.1 hc.2).1, fun he q hq => by
    rw [nearS_bit] at hq
    simp only [Bool.and_eq_true, decide_eq_true_eq] at hq
    exact (d1 T hc.1 hc.2).2 he q hq.1 hq.2⟩⟩
theorem kill_other {t : Tr ABlk} : ∀ {kin : List (Nat × Bool)} {x : Nat}, (∀ p ∈ kin, p.1 ≠ x) → (AW.kill t kin).get x = t.get x
  | [], _, _ => rfl
  | (c, g) :: l, x, h => by
    simp only [AW.kill, Tr.get_del]
    rw [if_neg (fun e => h (c, g) List.mem_cons_self e.symm)]
    exact kill_other (fun p hp => h p (List.mem_cons_of_mem _ hp))


def WaysIn (W : AW) (v : Value) (ll : List (List Int)) : Prop := ∃ A c, v = .slice A ll.length c ∧ ∀ (i : Nat) l, ll[i]? = some l → ∃ b o u, A = some ⟨b, o, none⟩ ∧ W.Has b (o + i) u ∧ IntL W u l
theorem ways_at {W : AW} {v : Value} {ll : List (List Int)} (h : WaysIn W v ll) {i : Nat} {l : List Int} (hi : ll[i]? = some l) :
    ∃ u b p, aIndexAddr T0 49 v (.int .i64 (i : Int)) = some (.pointer (some ⟨b, p, none⟩)) ∧ aLoadVar T0 W 46 b p = some u ∧ IntL W u l ∧ W.Has b p u := by
  obtain ⟨A, c, rfl, h2⟩ := h
  obtain ⟨b, o, u, rfl, e2, e3⟩ := h2 i l hi
  have hlt := (List.getElem?_eq_some_iff.1 hi).1
  have hx := indexAddr_slice (T := T0) und49 sz46 (b := b) (o := o) (c := c) (k := .i64) hlt
  rw [Nat.mul_one] at hx
  exact ⟨u, b, o + i, hx, load_of und46 rfl e2, e3, e2⟩
theorem int_at {W : AW} {v : Value} {l : List Int} (h : IntL W v l) {i : Nat} {x : Int} (hi : l[i]? = some x) :
    ∃ b p, aIndexAddr T0 46 v (.int .i64 (i : Int)) = some (.pointer (some ⟨b, p, none⟩)) ∧ aLoadVar T0 W 3 b p = some (.int .i64 x) := by
  obtain ⟨A, c, rfl, h2⟩ := h
  obtain ⟨b, o, rfl, e2⟩ := h2 i x hi
  have hlt := (List.getElem?_eq_some_iff.1 hi).1
  have hx := indexAddr_slice (T := T0) und46 sz3 (b := b) (o := o) (c := c) (k := .i64) hlt
  rw [Nat.mul_one] at hx
  exact ⟨b, o + i, hx, load_of und3 rfl e2⟩
theorem int_len {W : AW} {v : Value} {l : List Int} (h : IntL W v l) : ∃ A c, v = .slice A l.length c := let ⟨A, c, h, _⟩ := h; ⟨A, c, h⟩
def stepW (l : List Tri) (st : Option (Int × List Int)) (a : Int) : Option (Int × List Int) :=
  match st with
  | none => none
  | some (p, seen) => if 0 ≤ a then match l[a.toNat]? with
    | some e => if e.1 = p ∧ e.2.1 ∉ seen then some (e.2.1, seen ++ [e.2.1]) else none
    | none => none else none
def walkW (l : List Tri) (s : Int) (way : List Int) : Option (Int × List Int) := way.foldl (stepW l) (some (s, [s]))
def isW (l : List Tri) (s t : Int) (way : List Int) : Prop := ∃ seen, walkW l s way = some (t, seen)
def apartW (l : List Tri) (s t : Int) (ways : List (List Int)) : Prop := (∀ w ∈ ways, isW l s t w) ∧ ways.flatten.Nodup
theorem fold_none (l : List Tri) : ∀ way : List Int, way.foldl (stepW l) none = none
  | [] => rfl
  | _ :: w => fold_none l w
theorem walk_take {l : List Tri} {s : Int} {way : List Int} {i : Nat} {a : Int} (h : way[i]? = some a) : walkW l s (way.take (i + 1)) = stepW l (walkW l s (way.take i)) a := by
  rw [List.take_add_one, h]
  simp only [Option.toList_some, walkW, List.foldl_append, List.foldl_cons, List.foldl_nil]
theorem walk_none {l : List Tri} {s : Int} {way : List Int} {i : Nat} (h : walkW l s (way.take i) = none) : walkW l s way = none := by
  have : walkW l s way = (way.drop i).foldl (stepW l) (walkW l s (way.take i)) := by
    rw [walkW, walkW, ← List.foldl_append, List.take_append_drop]
  rw [this, h, fold_none]
theorem isW_no {l : List Tri} {s t : Int} {way : List Int} {i : Nat} (h : walkW l s (way.take i) = none) : ¬ isW l s t way := by
  rintro ⟨seen, hs⟩
  rw [walk_none h] at hs; cases hs
theorem stepW_ok {l : List Tri} {p : Int} {seen : List Int} {a : Nat} {e : Tri} (he : l[a]? = some e) (h1 : e.1 = p) (h2 : e.2.1 ∉ seen) : stepW l (some (p, seen)) (a : Int) = some (e.2.1, seen ++ [e.2.1]) := by
  simp [stepW, he, h1, h2]
theorem stepW_neg {l : List Tri} {st : Option (Int × List Int)} {a : Int} (h : a < 0) : stepW l st a = none := by
  unfold stepW
  split
  · rfl
  · rw [if_neg (by omega)]
theorem stepW_far {l : List Tri} {st : Option (Int × List Int)} {a : Nat} (h : l.length ≤ a) : stepW l st (a : Int) = none := by
  unfold stepW
  split
  · rfl
  · simp [List.getElem?_eq_none h]
theorem stepW_from {l : List Tri} {p : Int} {seen : List Int} {a : Nat} {e : Tri} (he : l[a]? = some e) (h1 : e.1 ≠ p) : stepW l (some (p, seen)) (a : Int) = none := by
  simp [stepW, he, h1]
theorem stepW_met {l : List Tri} {p : Int} {seen : List Int} {a : Nat} {e : Tri} (he : l[a]? = some e) (h2 : e.2.1 ∈ seen) : stepW l (some (p, seen)) (a : Int) = none := by
  simp [stepW, he, h2]
def ArcIn (l : List Tri) : Prop := ∀ a ∈ l, 0 ≤ a.1 ∧ a.1 < 24 ∧ 0 ≤ a.2.1 ∧ a.2.1 < 24
open Classical in
theorem isWay_wp {W : AW} {v wv : Value} {P : Int} {s t : Nat} {l : List Tri} {way : List Int} (h : TriIn W v l) (hw : IntL W wv way) (hin : ArcIn l) (h200 : l.length ≤ 200) (hs : s < 24) (hwl : way.length < 4611686018427387904) :
    WpF T0 63 [.agg ⟨[.int .i64 P, v]⟩, .int .i64 s, .int .i64 t, wv] W (fun u W' => Ext W W' ∧ u = .bool (decide (isW l s t way))) := by
  obtain ⟨A, c, rfl, hA⟩ := h
  obtain ⟨B, d, hwv⟩ := int_len hw
  have lw : ∀ W', aLen T0 W' 46 wv = some (.int .i64 way.length) := fun W' => by rw [hwv]; exact len_slice und46 _ _ _
  clear hwv
  refine wpF fun63 rfl ?_
  obtain ⟨W1, hW1, hE1, hV1⟩ : ∃ W1, W1 = W.newCells 31 [.int .i64 P, .slice A l.length c] ∧ Ext W W1 ∧ Var W1 W.next 31 [.int .i64 P, .slice A l.length c] := ⟨_, rfl, .newCells _ _ _, Var.new _ _ _⟩
  have l29 : aLoadVar T0 W1 29 W.next 1 = some (.slice A l.length c) := hV1.load1 (T := T0) und29 rfl (j := 1) (v := .slice A l.length c) rfl
  have ln : ∀ W', aLen T0 W' 29 (.slice A l.length c) = some (.int .i64 l.length) := fun W' => len_slice und29 _ _ _
  try simp only [wpK_assoc]
  refine wpK_reg (fun R hR => by simp [← hW1]; exact hR) ?_
  have h1s : (1 <<< s : Nat) < 2 ^ 24 := by rw [Nat.shiftLeft_eq, Nat.one_mul]; exact Nat.pow_lt_pow_right (by omega) hs
  have h54 := one_wp s (by omega) W1
  have hb0 : ∀ q : Nat, (1 <<< s : Nat).testBit q = true ↔ (q : Int) ∈ [(s : Int)] := fun q => by
    rw [Nat.shiftLeft_eq, Nat.one_mul, Nat.testBit_two_pow]
    simp only [decide_eq_true_eq, List.mem_singleton]; omega
  generalize (1 <<< s : Nat) = m0 at h1s h54 hb0
  try simp only [wpK_assoc]
  refine wpK_reg (fun R hR => by
      simp [aEnter, fun54, short_other, aCallV]; rw [callS_none]
      refine (h54).mono ?_
      rintro _ W9 ⟨e9, rfl⟩; subst W9
      simp []; exact hR) ?_
  try simp only [wpK_assoc]
  refine wpK_reg (fun R hR => by simp [lw]; exact hR) ?_
  try simp only [wpK_assoc]
  refine wpK_while (I := fun k A' W' => A'.n = 65 ∧ A'.defers = [] ∧ A'.tmps.get 2 = some (.int .i64 t) ∧ A'.tmps.get 4 = some (.pointer (some ⟨W.next, 0, none⟩)) ∧ A'.tmps.get 16 = some (wv) ∧ A'.tmps.get 17 = some (.int .i64 way.length) ∧ W' = W1 ∧ ∃ (i p m : Nat) (seen : List Int), k = way.length - i ∧ i ≤ way.length ∧ A'.tmps.get 18 = some (.int .i64 (i : Int)) ∧ A'.tmps.get 9 = some (.int .i64 (p : Int)) ∧ A'.tmps.get 10 = some (.int .u64 (m : Int)) ∧ walkW l s (way.take i) = some ((p : Int), seen) ∧ m < 2 ^ 24 ∧ ∀ q : Nat, m.testBit q = true ↔ (q : Int) ∈ seen)
    (J := fun A' W' => A'.n = 65 ∧ A'.defers = [] ∧ A'.tmps.get 2 = some (.int .i64 t) ∧ A'.tmps.get 4 = some (.pointer (some ⟨W.next, 0, none⟩)) ∧ A'.tmps.get 16 = some (wv) ∧ A'.tmps.get 17 = some (.int .i64 way.length) ∧ W' = W1 ∧ ∃ (p : Nat) (seen : List Int), A'.tmps.get 9 = some (.int .i64 (p : Int)) ∧ walkW l s way = some ((p : Int), seen))
    (Rt := fun A' W' => A'.defers = [] ∧ W' = W1 ∧ A'.tmps.get 8 = some (.bool false) ∧ ¬ isW l s t way) (k := way.length) ?_ ?_ ?_ ?_
  · exact ⟨rfl, rfl, by simp, by simp, by simp, by simp, rfl, 0, s, m0, [(s : Int)], rfl, by omega, by simp, by simp, by simp, rfl, h1s, hb0⟩
  · rintro k ⟨tm, n, ds⟩ W2 ⟨hn, hd, h2, h4, h16, h17, e2, i, p, m, seen, hk, hi, h18, h9, h10, hwk, hm, hmb⟩ Q' hJ hRt hI
    simp only at hn hd h2 h4 h16 h17
    subst hn; subst hd
    simp only at h18 h9 h10
    rw [e2]
    try simp only [wpK_assoc]
    refine wpK_reg (fun R hR => by simp [h17, h18]; exact hR) ?_
    by_cases hlt : i < way.length
    case neg =>
      have e : i = way.length := by omega
      rw [e, List.take_length] at hwk
      try simp only [wpK_assoc]
      first | refine wpK_onF (by simp [hlt]) ?_ | refine wpK_out (by simp [hlt]) ?_ | refine wpK_condF (by simp [hlt]) ?_ | refine wpK_endF (by simp [hlt]) (wpK_skip ?_) | refine wpK_endF (by simp [hlt]) ?_
      exact hJ _ _ ⟨rfl, rfl, by simp [h2, h4, h16, h17], by simp [h2, h4, h16, h17], by simp [h2, h4, h16, h17], by simp [h2, h4, h16, h17], rfl, p, seen, by simp [h9], hwk⟩
    try simp only [wpK_assoc]
    first | refine wpK_onT (by simp [hlt]) ?_ | refine wpK_outT (by simp [hlt]) ?_ | refine wpK_condT (by simp [hlt]) ?_ | refine wpK_endT (by simp [hlt]) ?_
    have hx : way[i]? = some way[i] := List.getElem?_eq_getElem hlt
    generalize way[i] = a at hx
    have hwt := walk_take (l := l) (s := (s : Int)) hx
    rw [hwk] at hwt
    obtain ⟨qb, qo, x1, x2⟩ := int_at (hw.ext hE1) hx
    refine wpK_block ?_
    try simp only [wpK_assoc]
    refine wpK_reg (fun R hR => by simp [h16, h18, x1, x2]; exact hR) ?_
    by_cases g1 : a < 0
    · try simp only [wpK_assoc]
      refine wpK_reg (fun R hR => by simp [g1, undef]; exact hR) ?_
      try simp only [wpK_assoc]
      first | refine wpK_onT (by simp []) ?_ | refine wpK_outT (by simp []) ?_ | refine wpK_condT (by simp []) ?_ | refine wpK_endT (by simp []) ?_
      try simp only [wpK_assoc]
      refine wpK_reg (fun R hR => by simp []; exact hR) ?_
      rw [stepW_neg g1] at hwt
      exact wpK_ret (hRt _ _ ⟨rfl, rfl, by simp, isW_no hwt⟩)
    obtain ⟨j, rfl⟩ : ∃ j : Nat, a = j := ⟨a.toNat, by omega⟩
    by_cases g2 : l.length ≤ j
    · have g2' : (l.length : Int) ≤ (j : Int) := by omega
      try simp only [wpK_assoc]
      refine wpK_reg (fun R hR => by simp [h4, g1, g2', l29, ln, undef]; exact hR) ?_
      try simp only [wpK_assoc]
      first | refine wpK_onT (by simp []) ?_ | refine wpK_outT (by simp []) ?_ | refine wpK_condT (by simp []) ?_ | refine wpK_endT (by simp []) ?_
      try simp only [wpK_assoc]
      refine wpK_reg (fun R hR => by simp []; exact hR) ?_
      rw [stepW_far g2] at hwt
      exact wpK_ret (hRt _ _ ⟨rfl, rfl, by simp, isW_no hwt⟩)
    have g2' : ¬ (l.length : Int) ≤ (j : Int) := by omega
    have he : l[j]? = some (l[j]'(by omega)) := List.getElem?_eq_getElem (by omega)
    generalize l[j]'_ = e at he
    obtain ⟨b, o, hAe, q1, q2, q3⟩ := hA j _ he
    have eV := indexAddr_tri (T := T0) und29 sz106 (b := b) (o := o) (c := c) (k := .i64) (show j < l.length by omega)
    rw [← hAe] at eV
    have la1 := load_of und3 rfl (q1.ext hE1)
    have la2 := load_of und3 rfl (q2.ext hE1)
    obtain ⟨i1, i2, i3, i4⟩ := hin e (List.mem_of_getElem? he)
    by_cases g3 : e.1 = (p : Int)
    case neg =>
      try simp only [wpK_assoc]
      refine wpK_reg (fun R hR => by simp [h4, h9, g1, g2', l29, ln, eV, la1, g3, undef]; exact hR) ?_
      try simp only [wpK_assoc]
      first | refine wpK_onT (by simp []) ?_ | refine wpK_outT (by simp []) ?_ | refine wpK_condT (by simp []) ?_ | refine wpK_endT (by simp []) ?_
      try simp only [wpK_assoc]
      refine wpK_reg (fun R hR => by simp []; exact hR) ?_
      rw [stepW_from he g3] at hwt
      exact wpK_ret (hRt _ _ ⟨rfl, rfl, by simp, isW_no hwt⟩)
    obtain ⟨y, hy⟩ : ∃ y : Nat, e.2.1 = y := ⟨e.2.1.toNat, by omega⟩
    rw [hy] at la2 i3 i4
    have h62 := has_wp m y (by omega) (by omega) W1
    have hmy := hmb y
    by_cases g4 : (y : Int) ∈ seen
    · rw [hmy.2 g4] at h62
      try simp only [wpK_assoc]
      refine wpK_reg (fun R hR => by
          simp [h4, h9, h10, g1, g2', l29, ln, eV, la1, la2, g3, aEnter, fun62, short_other, aCallV]; rw [callS_none]
          refine (h62).mono ?_
          rintro _ W9 ⟨e9, rfl⟩; subst W9
          simp [h4, h9, h10, g1, g2', l29, ln, eV, la1, la2, g3]; exact hR) ?_
      try simp only [wpK_assoc]
      first | refine wpK_onT (by simp []) ?_ | refine wpK_outT (by simp []) ?_ | refine wpK_condT (by simp []) ?_ | refine wpK_endT (by simp []) ?_
      try simp only [wpK_assoc]
      refine wpK_reg (fun R hR => by simp []; exact hR) ?_
      rw [stepW_met he (by rw [hy]; exact g4)] at hwt
      exact wpK_ret (hRt _ _ ⟨rfl, rfl, by simp, isW_no hwt⟩)
    have hmy' : m.testBit y = false := by
      cases hb : m.testBit y with
      | false => rfl
      | true => exact absurd (hmy.1 hb) g4
    rw [hmy'] at h62
    try simp only [wpK_assoc]
    refine wpK_reg (fun R hR => by
        simp [h4, h9, h10, g1, g2', l29, ln, eV, la1, la2, g3, aEnter, fun62, short_other, aCallV]; rw [callS_none]
        refine (h62).mono ?_
        rintro _ W9 ⟨e9, rfl⟩; subst W9
        simp [h4, h9, h10, g1, g2', l29, ln, eV, la1, la2, g3]; exact hR) ?_
    try simp only [wpK_assoc]
    first | refine wpK_onF (by simp []) ?_ | refine wpK_out (by simp []) ?_ | refine wpK_condF (by simp []) ?_ | refine wpK_endF (by simp []) (wpK_skip ?_) | refine wpK_endF (by simp []) ?_
    try simp only [wpK_assoc]
    refine wpK_reg (fun R hR => by simp [h4, l29, eV, la2]; exact hR) ?_
    rw [stepW_ok he g3 (by rw [hy]; exact g4), hy] at hwt
    have h1y : (1 <<< y : Nat) < 2 ^ 24 := by rw [Nat.shiftLeft_eq, Nat.one_mul]; exact Nat.pow_lt_pow_right (by omega) (by omega)
    have h54 := one_wp y (by omega) W1
    have hb1 : ∀ q : Nat, (1 <<< y : Nat).testBit q = true ↔ (q : Int) = (y : Int) := fun q => by
      rw [Nat.shiftLeft_eq, Nat.one_mul, Nat.testBit_two_pow]
      simp only [decide_eq_true_eq]; omega
    generalize (1 <<< y : Nat) = my at h1y h54 hb1
    have hor := aBinI_or .u64 m my (by show m < 18446744073709551616; omega) (by show my < 18446744073709551616; omega)
    have hor2 : m ||| my < 2 ^ 24 := Nat.or_lt_two_pow hm h1y
    have hb2 : ∀ q : Nat, (m ||| my).testBit q = true ↔ (q : Int) ∈ seen ++ [(y : Int)] := fun q => by
      rw [Nat.testBit_or, Bool.or_eq_true, hmb q, hb1 q, List.mem_append, List.mem_singleton]
    generalize m ||| my = m2 at hor hor2 hb2
    try simp only [wpK_assoc]
    refine wpK_reg1 (fun R hR => by
        simp [h10, hor, aEnter, fun54, short_other, aCallV]; rw [callS_none]
        refine (h54).mono ?_
        rintro _ W9 ⟨e9, rfl⟩; subst W9
        simp [h10, hor]; exact hR) ?_
    simp only [leaves_normal, behind_normal]
    try simp only [wpK_assoc]
    refine wpK_reg1 (fun R hR => by simp [h18]; exact hR) ?_
    exact hI (way.length - (i + 1)) _ _ (by omega) ⟨rfl, rfl, by simp [h2, h4, h16, h17], by simp [h2, h4, h16, h17], by simp [h2, h4, h16, h17], by simp [h2, h4, h16, h17], rfl, i + 1, y, m2, seen ++ [(y : Int)], rfl, by omega, by simp [i64_succ i (by omega)], by simp, by simp, hwt, hor2, hb2⟩
  · rintro A' W' ⟨hd, e2, h8, hne⟩
    exact ⟨.inr rfl, hd, [.bool false], by simp [h8], by rw [e2]; exact hE1, by rw [decide_eq_false hne]; rfl⟩
  · rintro ⟨tm, n, ds⟩ W2 ⟨hn, hd, h2, h4, h16, h17, e2, p, seen, h9, hwk⟩
    simp only at hn hd h2 h4 h16 h17
    subst hn; subst hd
    simp only at h9
    rw [e2]
    try simp only [wpK_assoc]
    refine wpK_reg (fun R hR => by simp [h9, h2]; exact hR) ?_
    refine wpK_ret ⟨.inr rfl, rfl, [.bool (decide (isW l s t way))], ?_, hE1, rfl⟩
    have : isW l s t way ↔ (p : Int) = (t : Int) := ⟨fun ⟨sn, h⟩ => by rw [hwk] at h; cases h; rfl, fun h => ⟨seen, by rw [hwk, h]⟩⟩
    by_cases e : (p : Int) = (t : Int)
    · simp [e, this.2 e]
    · have hn : ¬ isW l s t way := fun x => e (this.1 x)
      have e' : ¬ p = t := by omega
      simp [hn, e', e]
theorem arc_ok {P : Int} {l : List Tri} (hok : planOk P (arcsQ l) = true) : ArcIn l ∧ l.length ≤ 200 ∧ 2 ≤ P ∧ P ≤ 24 ∧ ∀ a ∈ l, 0 ≤ a.1 ∧ a.1 < P ∧ 0 ≤ a.2.1 ∧ a.2.1 < P ∧ a.1 ≠ a.2.1 ∧ 0 ≤ a.2.2 := by
  simp only [planOk, Bool.and_eq_true, decide_eq_true_eq, List.all_eq_true] at hok
  obtain ⟨⟨⟨h1, h2⟩, h3⟩, h4⟩ := hok
  have key : ∀ a ∈ l, 0 ≤ a.1 ∧ a.1 < P ∧ 0 ≤ a.2.1 ∧ a.2.1 < P ∧ a.1 ≠ a.2.1 ∧ 0 ≤ a.2.2 := fun a ha => by
    have := h4 (a.1, a.2.1, a.2.2, 0) (List.mem_map.2 ⟨a, ha, rfl⟩)
    simp only [okStep, two?, Bool.and_eq_true, decide_eq_true_eq] at this
    obtain ⟨⟨⟨⟨⟨⟨a1, a2⟩, a3⟩, a4⟩, a5⟩, a6⟩, a7⟩ := this
    exact ⟨a1, a2, a3, a4, a5, a6⟩
  refine ⟨fun a ha => ?_, by simpa [arcsQ] using h3, h1, h2, key⟩
  have := key a ha
  omega
open Classical in
noncomputable def usedL (n : Nat) (U : List Int) : List Value := (List.range n).map fun q : Nat => Value.bool (decide ((q : Int) ∈ U))
theorem HeldI.push2 {W0 W : AW} {v : Value} {S : List Int} (h : HeldI W0 W v S) (hn : W0.next ≤ W.next) (hl : S.length ≤ 1000) (x : Int) :
    ∃ v' W', aAppend T0 (W.newCells 3 [.int .i64 x]) [46, 46] [v, .slice (some ⟨W.next, 0, none⟩) 1 2] = some (v', W') ∧ HeldI W0 W' v' (S ++ [x]) ∧ Only (fun b => W0.next ≤ b) W W' := by
  have hE : Ext W (W.newCells 3 [.int .i64 x]) := .newCells _ _ _
  have h1 := HeldN.only (K' := fun _ => False) h hE (fun _ _ _ y => y)
  obtain ⟨v', W', a1, a2, a3, a4⟩ := append_heldN (T := T0) (t := 46) (el := 3) (c := 2) (by omega) und46 inf3 is3 z3' rfl h1 (u := [.int .i64 x]) rfl (newCells_cellsAt W 3 [.int .i64 x] 1 rfl) rfl (by rw [by3']; omega) (by omega)
  refine ⟨v', W', a1, ?_, ?_⟩
  · have e1 : (S ++ [x]).length = S.length + 1 := by simp
    have e2 : intsV (S ++ [x]) = intsV S ++ [.int .i64 x] := by simp [intsV]
    show HeldN W' v' (S ++ [x]).length (intsV (S ++ [x])) 3 1 _
    rw [e1, e2]
    refine a3.mono (fun b hb => ?_)
    rcases hb with hb | hb
    · exact hb
    · rw [newCells_next] at hb; omega
  · refine ⟨by rw [a2, newCells_next]; omega, fun b hb hk => ?_⟩
    rw [a4.2 b (by rw [newCells_next]; omega) hk]
    exact hE.2 b (by omega) (fun y => y)
structure InT (T : Nat) (S : List Int) : Prop where
  nd : S.Nodup
  in_ : ∀ y ∈ S, (0 ≤ y ∧ y < ((24 : Nat) : Int)) ∧ T.testBit y.toNat = true
theorem InT.len {T : Nat} {S : List Int} (h : InT T S) : S.length ≤ 24 := by
  obtain ⟨T', _, h2⟩ := set_of 24 S h.nd (fun y hy => (h.in_ y hy).1)
  rw [← h2]; exact cntB_max T' 24
theorem InT.add {T : Nat} {S : List Int} (h : InT T S) {y : Int} (hn : y ∉ S) (h1 : 0 ≤ y ∧ y < 24) (h2 : T.testBit y.toNat = true) : InT T (S ++ [y]) where
  nd := List.nodup_append.2 ⟨h.nd, by simp, fun a ha b hb e => by rw [List.mem_singleton] at hb; subst hb; subst e; exact hn ha⟩
  in_ z hz := by
    rcases List.mem_append.1 hz with hz | hz
    · exact h.in_ z hz
    · rw [List.mem_singleton] at hz; subst hz; exact ⟨by omega, h2⟩
def Cuts (T : Nat) (l : List Tri) (arcs : List Int) : Prop := ∀ (i : Nat) e, l[i]? = some e → T.testBit e.1.toNat = true → T.testBit e.2.1.toNat = false → (i : Int) ∈ arcs
def onesL (l : List Tri) : List Tri := l.map fun e => (e.1, e.2.1, 1)
def HeldT (W : AW) (v : Value) (S : List Int) (K : Nat → Prop) : Prop :=
  (S = [] ∧ v = .slice none 0 0) ∨ ∃ b c nb kin, v = .slice (some ⟨b, 0, none⟩) S.length 3 ∧ S.length ≤ nb ∧ 0 < nb ∧ K b ∧ b < W.next ∧ W.blocks.get b = some ⟨.cells c nb 3, kin⟩ ∧ (∀ i x, S[i]? = some x → c.get i = some (.int .i64 x)) ∧ ∀ p ∈ kin, K p.1
theorem HeldT.nil (W : AW) (K : Nat → Prop) : HeldT W (.slice none 0 0) [] K := .inl ⟨rfl, rfl⟩
theorem HeldT.only {W W' : AW} {v : Value} {S : List Int} {K K' : Nat → Prop} (h : HeldT W v S K) (ho : Only K' W W') (hd : ∀ b, b < W.next → K b → ¬ K' b) : HeldT W' v S K := by
  rcases h with h | ⟨b, c, nb, kin, h1, h2, h3, h4, h5, h6, h7, h8⟩
  · exact .inl h
  · exact .inr ⟨b, c, nb, kin, h1, h2, h3, h4, Nat.lt_of_lt_of_le h5 ho.1, by rw [ho.2 b h5 (hd b h5 h4)]; exact h6, h7, h8⟩
theorem HeldT.ints {W : AW} {v : Value} {S : List Int} {K : Nat → Prop} (h : HeldT W v S K) : IntL W v S := by
  rcases h with ⟨rfl, rfl⟩ | ⟨b, c, nb, kin, h1, h2, h3, h4, h5, h6, h7, h8⟩
  · exact ⟨none, 0, rfl, fun i x hx => by simp at hx⟩
  · refine ⟨_, _, h1, fun i x hx => ⟨b, 0, rfl, h5, ?_⟩⟩
    have hi : i < nb := by have := (List.getElem?_eq_some_iff.1 hx).1; omega
    simp only [AW.cell, h6, blt_dec, Nat.zero_add, hi, decide_true]
    exact h7 i x hx
theorem HeldT.cut {W : AW} {v : Value} {S : List Int} {K : Nat → Prop} (h : HeldT W v S K) {k : Nat} (hk : k < S.length) :
    ∃ v', aSliceOp T0 W 46 v none (some (.int .i64 (k : Nat))) none = some v' ∧ HeldT W v' (S.take k) K := by
  rcases h with ⟨rfl, rfl⟩ | ⟨b, c, nb, kin, rfl, h2, h3, h4, h5, h6, h7, h8⟩
  · simp at hk
  · have hlen : (S.take k).length = k := by rw [List.length_take]; omega
    refine ⟨.slice (some ⟨b, 0, none⟩) k 3, ?_, .inr ⟨b, c, nb, kin, by rw [hlen], by omega, h3, h4, h5, h6, fun i x hx => ?_, h8⟩⟩
    · have hb : aHi (some (.int .i64 (k : Nat))) S.length (max S.length (W.ext b 0 1)) = some k := by
        show aBound (.int .i64 (Int.ofNat k)) _ = some k
        simp only [aBound, ble_dec, show k ≤ max S.length (W.ext b 0 1) from by omega, decide_true]
      have e1 : 3 % 2 = 1 := rfl
      have e2 : Nat.beq (3 / 2) 1 = true := rfl
      have e3 : Nat.beq (3 % 2) 0 = false := rfl
      have e4 : Nat.beq 0 0 = true := rfl
      simp only [aSliceOp, und46, sz3, e3, e2, hb, aLo, e4, Bool.or_true, Nat.zero_mul, Nat.add_zero, Nat.sub_zero]
    · have hik : i < k := by have := (List.getElem?_eq_some_iff.1 hx).1; omega
      rw [List.getElem?_take_of_lt hik] at hx
      exact h7 i x hx
theorem HeldT.of_grows {W : AW} {v : Value} {S : List Int} {K : Nat → Prop} (h : GrowsN W v S.length (intsV S) 3 1 K) : HeldT W v S K := by
  obtain ⟨h0, ⟨h1, h2⟩ | ⟨b, c, kin, h1, h2, h3, h4, h5, h6, h7⟩⟩ := h
  · exact .inl ⟨List.length_eq_zero_iff.1 h1, h2⟩
  · have hl : (intsV S).length = S.length := by simp [intsV]
    exact .inr ⟨b, c, (intsV S).length, kin, h1, by omega, by omega, h3, h4, h5, fun i x hx => by
      rw [h6 i (by have := (List.getElem?_eq_some_iff.1 hx).1; omega), intsV, List.getElem?_map, hx]; rfl, h7⟩
theorem HeldT.push {W : AW} {v : Value} {S : List Int} {K : Nat → Prop} (h : HeldT W v S K) (hl : S.length ≤ 1000) (x : Int) :
    ∃ v' W' K', aAppend T0 (W.newCells 3 [.int .i64 x]) [46, 46] [v, .slice (some ⟨W.next, 0, none⟩) 1 2] = some (v', W') ∧ HeldT W' v' (S ++ [x]) K' ∧ (∀ b, K' b → K b ∨ (b = W.next + 1 ∧ W.next + 1 < W'.next)) ∧ Only K W W' ∧ W.next + 1 ≤ W'.next := by
  have hE : Ext W (W.newCells 3 [.int .i64 x]) := .newCells _ _ _
  have hx := newCells_cellsAt W 3 [.int .i64 x] 1 rfl
  have fin : GrowsN W v S.length (intsV S) 3 1 K → ∃ v' W' K', aAppend T0 (W.newCells 3 [.int .i64 x]) [46, 46] [v, .slice (some ⟨W.next, 0, none⟩) 1 2] = some (v', W') ∧ HeldT W' v' (S ++ [x]) K' ∧ (∀ b, K' b → K b ∨ (b = W.next + 1 ∧ W.next + 1 < W'.next)) ∧ Only K W W' ∧ W.next + 1 ≤ W'.next := fun hg => by
    obtain ⟨v', W', a1, a2, a3, a4⟩ := append_growsN (T := T0) (t := 46) (el := 3) (c := 2) (by omega) und46 inf3 is3 z3' rfl (hg.only (K' := fun _ => False) hE (fun _ _ _ y => y)) (u := [.int .i64 x]) rfl hx rfl (by rw [by3']; omega) (by omega)
    rw [newCells_next] at a2
    refine ⟨v', W', fun b => K b ∨ b = W.next + 1, a1, HeldT.of_grows ?_, fun b hb => hb.elim .inl (fun e => .inr ⟨e, by omega⟩), ⟨by omega, fun b hb hk => ?_⟩, by omega⟩
    · have e1 : (S ++ [x]).length = S.length + 1 := by simp
      have e2 : intsV (S ++ [x]) = intsV S ++ [.int .i64 x] := by simp [intsV]
      rw [e1, e2]
      exact a3.mono (fun b hb => hb.elim .inl (fun e => .inr (by rw [newCells_next] at e; exact e)))
    · rw [a4.2 b (by rw [newCells_next]; omega) hk]
      exact hE.2 b (by omega) (fun y => y)
  rcases h with ⟨rfl, rfl⟩ | ⟨b, c, nb, kin, rfl, h2, h3, h4, h5, h6, h7, h8⟩
  · exact fin (.nil _ _ _ _)
  · by_cases hlt : S.length < nb
    case neg =>
      have e : nb = S.length := by omega
      subst e
      have hil : (intsV S).length = S.length := by simp [intsV]
      refine fin ⟨by simp [intsV], .inr ⟨b, c, kin, rfl, h3, h4, h5, by rw [hil]; exact h6, fun i hi => ?_, h8⟩⟩
      have hi' : i < S.length := by omega
      rw [h7 i S[i] (List.getElem?_eq_getElem hi'), intsV, List.getElem?_map, List.getElem?_eq_getElem hi']; rfl
    have h6' : (W.newCells 3 [.int .i64 x]).blocks.get b = some ⟨.cells c nb 3, kin⟩ := by rw [hE.2 b h5 (fun y => y)]; exact h6
    refine ⟨.slice (some ⟨b, 0, none⟩) (S.length + 1) 3, ⟨(AW.kill (W.newCells 3 [.int .i64 x]).blocks kin).set b ⟨.cells (c.set S.length (.int .i64 x)) nb 3, []⟩, (W.newCells 3 [.int .i64 x]).next⟩, K, ?_, .inr ⟨b, c.set S.length (.int .i64 x), nb, [], by simp, by simp; omega, h3, h4, by show b < (W.newCells 3 [.int .i64 x]).next; rw [newCells_next]; omega, by rw [Tr.get_set, if_pos rfl], fun i y hi => ?_, by simp⟩, fun d hd => .inl hd, ⟨by show W.next ≤ (W.newCells 3 [.int .i64 x]).next; rw [newCells_next]; omega, fun d hd hk => ?_⟩, by show W.next + 1 ≤ (W.newCells 3 [.int .i64 x]).next; rw [newCells_next]; omega⟩
    · have hhead : aAppend T0 (W.newCells 3 [.int .i64 x]) [46, 46] [.slice (some ⟨b, 0, none⟩) S.length 3, .slice (some ⟨W.next, 0, none⟩) 1 2] = aApp1 (W.newCells 3 [.int .i64 x]) 3 1 Tryd.t3.bytes 1 [.int .i64 x] (.slice (some ⟨b, 0, none⟩) S.length 3) := by
        simp only [aAppend, und46, inf3, is3, z3', notInt, aSrc, Nat.one_mul, hx, acells, List.length_cons, List.length_nil, Nat.beq_refl]
        rfl
      rw [hhead]
      have e1 : (2 * (S.length + 1)) * Tryd.t3.bytes ≤ 281474976710656 := by rw [by3']; omega
      have e2 : S.length + 1 ≤ 4611686018427387904 := by omega
      have e3 : Nat.beq (3 % 2) 0 = false := rfl
      have e4 : Nat.beq (3 / 2) 1 = true := rfl
      have e5 : Nat.blt 0 1 = true := rfl
      have e6 : S.length + 1 ≤ nb := by omega
      simp only [aApp1, ble_dec, e1, e2, decide_true, e3, e4, e5, h6', e6, AW.storeList, Value.oneCell', AW.store, blt_dec, Nat.zero_add, Nat.mul_one, hlt]
    · rw [Tr.get_set]
      by_cases e : i = S.length
      · subst e
        rw [if_pos rfl]
        simp at hi; rw [hi]
      · rw [if_neg e]
        have hi' : i < S.length := by have := (List.getElem?_eq_some_iff.1 hi).1; simp at this; omega
        rw [List.getElem?_append_left hi'] at hi
        exact h7 i y hi
    · show ((AW.kill (W.newCells 3 [.int .i64 x]).blocks kin).set b _).get d = _
      rw [Tr.get_set, if_neg (by rintro rfl; exact hk h4), kill_other (fun p hp (e : p.1 = d) => hk (by rw [← e]; exact h8 p hp))]
      exact hE.2 d hd (fun y => y)
def onesF (F : List Int) : Prop := ∀ f ∈ F, f = 0 ∨ f = 1
theorem net_set (p : Nat) : ∀ (l : List Tri) (F : List Int) (i : Nat) (e : Tri) (f : Int), l[i]? = some e → F[i]? = some f → netZ (l.zip (F.set i 0)) p = netZ (l.zip F) p - net1 p (e, f)
  | [], F, i, e, f, h, _ => by simp at h
  | a :: l, [], i, e, f, _, h => by simp at h
  | a :: l, g :: F, 0, e, f, h1, h2 => by
    simp at h1 h2; subst h1; subst h2
    simp only [List.set_cons_zero, List.zip_cons_cons, netZ, List.map_cons, List.sum_cons, net1]
    split <;> split <;> omega
  | a :: l, g :: F, i + 1, e, f, h1, h2 => by
    simp only [List.getElem?_cons_succ] at h1 h2
    have := net_set p l F i e f h1 h2
    simp only [List.set_cons_succ, List.zip_cons_cons, netZ, List.map_cons, List.sum_cons] at this ⊢
    omega
def Bal (P : Int) (l : List Tri) (F : List Int) (s t p : Nat) (k : Int) : Prop := ∀ q : Nat, (q : Int) < P → q ≠ t → netZ (l.zip F) q = (if q = p then 1 else 0) + (if q = s then k else 0)
theorem Bal.step {P k : Int} {l : List Tri} {F : List Int} {s t p y i : Nat} {e : Tri} (h : Bal P l F s t p k) (he : l[i]? = some e) (hf : F[i]? = some 1) (h1 : e.1 = (p : Int)) (h2 : e.2.1 = (y : Int)) (hne : p ≠ y) : Bal P l (F.set i 0) s t y k := fun q hq ht => by
  rw [net_set q l F i e 1 he hf, h q hq ht]
  simp only [net1, h1, h2]
  have e1 : ((p : Int) = (q : Int)) = (q = p) := propext ⟨fun _ => by omega, fun _ => by omega⟩
  have e2 : ((y : Int) = (q : Int)) = (q = y) := propext ⟨fun _ => by omega, fun _ => by omega⟩
  simp only [e1, e2]
  by_cases a1 : q = p
  · by_cases a2 : q = y
    · omega
    · rw [if_pos a1, if_neg a2]; omega
  · by_cases a2 : q = y
    · rw [if_neg a1, if_pos a2]; omega
    · rw [if_neg a1, if_neg a2]; omega
theorem zero3' : aZero T0 3 = some (.int .i64 0) := by kernel_rfl
theorem tri_of_var {W : AW} {p c : Nat} {L : List Tri} (hV : Var W p 106 (flat3 L)) : TriIn W (.slice (some ⟨p, 0, none⟩) L.length c) L := by
  refine ⟨some ⟨p, 0, none⟩, c, rfl, fun i a hi => ⟨p, 0, rfl, ?_, ?_, ?_⟩⟩
  · exact hV.has (by rw [show 0 + 3 * i = 3 * i + 0 from by omega, flat3_get L i a hi 0 (by omega)]; rfl)
  · exact hV.has (by rw [show 0 + 3 * i + 1 = 3 * i + 1 from by omega, flat3_get L i a hi 1 (by omega)]; rfl)
  · exact hV.has (by rw [show 0 + 3 * i + 2 = 3 * i + 2 from by omega, flat3_get L i a hi 2 (by omega)]; rfl)
def OwnA (W : AW) (u : Value) (n0 : Nat) (L : List Tri) : Prop := (L = [] ∧ u = .slice none 0 0) ∨ (0 < L.length ∧ ∃ p, u = .slice (some ⟨p, 0, none⟩) L.length 7 ∧ n0 ≤ p ∧ Var W p 106 (flat3 L))
theorem OwnA.tri {W : AW} {u : Value} {n0 : Nat} {L : List Tri} (h : OwnA W u n0 L) : TriIn W u L := by
  rcases h with ⟨rfl, rfl⟩ | ⟨_, p, rfl, _, hV⟩
  · exact ⟨none, 0, rfl, fun i x hx => by simp at hx⟩
  · exact tri_of_var hV
theorem OwnA.ext {W W' : AW} {u : Value} {n0 : Nat} {L : List Tri} (h : OwnA W u n0 L) (he : Ext W W') : OwnA W' u n0 L := by
  rcases h with h | ⟨h0, p, h1, h2, hV⟩
  · exact .inl h
  · exact .inr ⟨h0, p, h1, h2, hV.ext he⟩
def capTo (l : List Tri) (i : Nat) : List Tri := onesL (l.take i) ++ l.drop i
theorem z46' : Tryd.t46.zero = some (.slice none 0 0) := by kernel_rfl
theorem by46' : Tryd.t46.bytes = 24 := by kernel_rfl
theorem HeldT.mono {W : AW} {v : Value} {S : List Int} {K K' : Nat → Prop} (h : HeldT W v S K) (hk : ∀ b, K b → K' b) : HeldT W v S K' := by
  rcases h with h | ⟨b, c, nb, kin, h1, h2, h3, h4, h5, h6, h7, h8⟩
  · exact .inl h
  · exact .inr ⟨b, c, nb, kin, h1, h2, h3, hk b h4, h5, h6, h7, fun p hp => hk _ (h8 p hp)⟩
theorem HeldT.len {W : AW} {v : Value} {S : List Int} {K : Nat → Prop} (h : HeldT W v S K) : ∃ A c, v = .slice A S.length c := int_len h.ints
structure WaysG (W0 W : AW) (mv : Value) (ways : List (List Int)) : Prop where
  all : ∃ (KL KR : Nat → Prop) (us : List Value), GrowsN W mv ways.length us 46 1 KL ∧ us.length = ways.length ∧ (∀ (i : Nat) u w, us[i]? = some u → ways[i]? = some w → HeldT W u w KR) ∧ (∀ b, KL b → W0.next ≤ b ∧ b < W.next) ∧ ∀ b, KR b → W0.next ≤ b ∧ b < W.next ∧ ¬ KL b
theorem WaysG.nil (W0 W : AW) : WaysG W0 W (.slice none 0 0) [] := ⟨fun _ => False, fun _ => False, [], .nil _ _ _ _, rfl, fun i u w hu => by simp at hu, fun b h => h.elim, fun b h => h.elim⟩
theorem WaysG.only {W0 W W' : AW} {mv : Value} {ways : List (List Int)} {K' : Nat → Prop} (h : WaysG W0 W mv ways) (ho : Only K' W W') (hk : ∀ b, W0.next ≤ b → b < W.next → ¬ K' b) : WaysG W0 W' mv ways := by
  obtain ⟨KL, KR, us, h1, h2, h3, h4, h5⟩ := h.all
  have hn := ho.1
  exact ⟨KL, KR, us, h1.only ho (fun b hb hx => hk b (h4 b hx).1 hb), h2, fun i u w hu hw => (h3 i u w hu hw).only ho (fun b hb hx => hk b (h5 b hx).1 hb), fun b hb => by have := h4 b hb; omega, fun b hb => by have := h5 b hb; exact ⟨this.1, by omega, this.2.2⟩⟩
theorem WaysG.in_ {W0 W : AW} {mv : Value} {ways : List (List Int)} (h : WaysG W0 W mv ways) : WaysIn W mv ways := by
  obtain ⟨KL, KR, us, h1, h2, h3, h4, h5⟩ := h.all
  obtain ⟨h0, ⟨e0, rfl⟩ | ⟨b, c, kin, rfl, g2, g3, g4, g5, g6, g7⟩⟩ := h1
  · have : ways = [] := List.length_eq_zero_iff.1 e0
    subst this
    exact ⟨none, 0, rfl, fun i l hl => by simp at hl⟩
  · refine ⟨_, _, rfl, fun i w hw => ?_⟩
    have hi := (List.getElem?_eq_some_iff.1 hw).1
    have hu : us[i]? = some (us[i]'(by omega)) := List.getElem?_eq_getElem (by omega)
    refine ⟨b, 0, us[i]'(by omega), rfl, ⟨g4, ?_⟩, (h3 i _ w hu hw).ints⟩
    simp only [AW.cell, g5, blt_dec, Nat.zero_add, show i < us.length from by omega, decide_true]
    rw [g6 i (by omega)]; exact hu
theorem WaysG.push {W0 W Wu : AW} {mv u : Value} {ways : List (List Int)} {w : List Int} {K : Nat → Prop} (h : WaysG W0 Wu mv ways) (hW0 : W0.next ≤ Wu.next) (hu : HeldT Wu u w K) (hK : ∀ b, K b → W0.next ≤ b ∧ b < Wu.next) (hd : ∀ KL : Nat → Prop, (∀ b, KL b → b < W.next) → ∀ b, K b → ¬ KL b) (hold : ∃ (KL KR : Nat → Prop) (us : List Value), GrowsN Wu mv ways.length us 46 1 KL ∧ us.length = ways.length ∧ (∀ (i : Nat) u w, us[i]? = some u → ways[i]? = some w → HeldT Wu u w KR) ∧ (∀ b, KL b → W0.next ≤ b ∧ b < W.next) ∧ ∀ b, KR b → W0.next ≤ b ∧ b < Wu.next ∧ ¬ KL b) (hn : W.next ≤ Wu.next) (hlen : ways.length ≤ 1000) :
    ∃ mv' W', aAppend T0 (Wu.newCells 46 [u]) [49, 49] [mv, .slice (some ⟨Wu.next, 0, none⟩) 1 2] = some (mv', W') ∧ WaysG W0 W' mv' (ways ++ [w]) ∧ Wu.next ≤ W'.next ∧ Only (fun b => W0.next ≤ b) Wu W' := by
  obtain ⟨KL, KR, us, h1, h2, h3, h4, h5⟩ := hold
  obtain ⟨A, c, hue⟩ := hu.len
  have hE : Ext Wu (Wu.newCells 46 [u]) := .newCells _ _ _
  obtain ⟨mv', W', a1, a2, a3, a4⟩ := append_growsN (T := T0) (t := 49) (el := 46) (c := 2) (by omega) und49 inf46 is46 z46' rfl (h1.only (K' := fun _ => False) hE (fun _ _ _ x => x)) (u := [u]) rfl (newCells_cellsAt Wu 46 [u] 1 rfl) (by rw [hue]; rfl) (by rw [by46']; omega) (by omega)
  rw [newCells_next] at a2
  have hO : Only KL Wu W' := ⟨by omega, fun b hb hk => by rw [a4.2 b (by rw [newCells_next]; omega) hk]; exact hE.2 b hb (fun x => x)⟩
  refine ⟨mv', W', a1, ⟨fun b => KL b ∨ b = Wu.next + 1, fun b => KR b ∨ K b, us ++ [u], ?_, by simp [h2], fun i u' w' hu' hw' => ?_, fun b hb => ?_, fun b hb => ?_⟩, by omega, ⟨by omega, fun b hb hk => hO.2 b hb (fun hh => hk (h4 b hh).1)⟩⟩
  · rw [show (ways ++ [w]).length = ways.length + 1 from by simp]
    exact a3.mono (fun b hb => hb.elim .inl (fun e => .inr (by rw [newCells_next] at e; exact e)))
  · by_cases hi : i < ways.length
    · rw [List.getElem?_append_left (by omega)] at hu' hw'
      exact ((h3 i u' w' hu' hw').only hO (fun b hb hx hk => (h5 b hx).2.2 hk)).mono (fun b hb => .inl hb)
    · rw [List.getElem?_append_right (by omega)] at hu' hw'
      have h0 : i - ways.length = 0 := by have := (List.getElem?_eq_some_iff.1 hw').1; simp at this; omega
      rw [h2, h0] at hu'
      rw [h0] at hw'
      cases hu'; cases hw'
      exact (hu.only hO (fun b hb hx hk => hd KL (fun b hb => (h4 b hb).2) b hx hk)).mono (fun b hb => .inr hb)
  · rcases hb with hb | hb
    · have := h4 b hb; omega
    · omega
  · rcases hb with hb | hb
    · have := h5 b hb
      refine ⟨this.1, by omega, fun hh => hh.elim this.2.2 (fun e => by omega)⟩
    · have := hK b hb
      refine ⟨this.1, by omega, fun hh => hh.elim (hd KL (fun b hb => (h4 b hb).2) b hb) (fun e => by omega)⟩
theorem WaysG.push2 {W0 W Wu : AW} {mv u : Value} {ways : List (List Int)} {w : List Int} {K K' : Nat → Prop} (h : WaysG W0 W mv ways) (hW0 : W0.next ≤ W.next) (ho : Only K' W Wu) (hk : ∀ b, W0.next ≤ b → b < W.next → ¬ K' b) (hu : HeldT Wu u w K) (hK : ∀ b, K b → W.next ≤ b ∧ b < Wu.next) (hlen : ways.length ≤ 1000) :
    ∃ mv' W', aAppend T0 (Wu.newCells 46 [u]) [49, 49] [mv, .slice (some ⟨Wu.next, 0, none⟩) 1 2] = some (mv', W') ∧ WaysG W0 W' mv' (ways ++ [w]) ∧ Wu.next ≤ W'.next ∧ Only (fun b => W0.next ≤ b) Wu W' := by
  have h' := h.only ho hk
  obtain ⟨KL, KR, us, h1, h2, h3, h4, h5⟩ := h.all
  have hn := ho.1
  exact WaysG.push (W := W) h' (by omega) hu (fun b hb => by have := hK b hb; omega) (fun KL hKL b hb hh => by have := hK b hb; have := hKL b hh; omega)
    ⟨KL, KR, us, h1.only ho (fun b hb hx => hk b (h4 b hx).1 hb), h2, fun i u w hu hw => (h3 i u w hu hw).only ho (fun b hb hx => hk b (h5 b hx).1 hb), fun b hb => h4 b hb, fun b hb => by have := h5 b hb; exact ⟨this.1, by omega, this.2.2⟩⟩ hn hlen
def outA (S : Nat) (l : List Tri) (i : Nat) : Bool := match l[i]? with
  | some e => S.testBit e.1.toNat && !S.testBit e.2.1.toNat
  | none => false
def arcsTo (S : Nat) (l : List Tri) (n : Nat) : List Int := ((List.range n).filter (outA S l)).map Int.ofNat
theorem ok_ones {P : Int} {l : List Tri} (h : planOk P (arcsQ l) = true) : planOk P (arcsQ (onesL l)) = true := by
  simp only [planOk, Bool.and_eq_true, decide_eq_true_eq, List.all_eq_true] at h ⊢
  obtain ⟨⟨⟨h1, h2⟩, h3⟩, h4⟩ := h
  refine ⟨⟨⟨h1, h2⟩, by simpa [arcsQ, onesL] using h3⟩, fun q hq => ?_⟩
  simp only [arcsQ, onesL, List.map_map, List.mem_map] at hq
  obtain ⟨a, ha, rfl⟩ := hq
  have := h4 (a.1, a.2.1, a.2.2, 0) (List.mem_map.2 ⟨a, ha, rfl⟩)
  simp only [okStep, Bool.and_eq_true, decide_eq_true_eq] at this ⊢
  exact ⟨⟨this.1.1, by simp⟩, by simp⟩
theorem WaysG.base {W0 W1 W : AW} {mv : Value} {ways : List (List Int)} (h : WaysG W1 W mv ways) (hn : W0.next ≤ W1.next) : WaysG W0 W mv ways := by
  obtain ⟨KL, KR, us, h1, h2, h3, h4, h5⟩ := h.all
  exact ⟨KL, KR, us, h1, h2, h3, fun b hb => by have := h4 b hb; omega, fun b hb => by have := h5 b hb; exact ⟨by omega, this.2⟩⟩
theorem WaysG.dup {W0 W : AW} {mv : Value} {ways : List (List Int)} {w : List Int} (h : WaysG W0 W mv ways) (h0 : ways[0]? = some w) (hlen : ways.length ≤ 1000) :
    ∃ u0 b p, aIndexAddr T0 49 mv (.int .i64 0) = some (.pointer (some ⟨b, p, none⟩)) ∧ aLoadVar T0 W 46 b p = some u0 ∧ (∃ A c, u0 = .slice A w.length c) ∧ ∃ mv' W', aAppend T0 (W.newCells 46 [u0]) [49, 49] [mv, .slice (some ⟨W.next, 0, none⟩) 1 2] = some (mv', W') ∧ WaysIn W' mv' (ways ++ [w]) ∧ Only (fun b => W0.next ≤ b) W W' := by
  have hin := h.in_
  obtain ⟨KL, KR, us, h1, h2, h3, h4, h5⟩ := h.all
  have hlt := (List.getElem?_eq_some_iff.1 h0).1
  obtain ⟨u0, b, p, x1, x2, x3, x4⟩ := ways_at hin h0
  have hu0 : us[0]? = some (us[0]'(by omega)) := List.getElem?_eq_getElem (by omega)
  have hue : us[0]'(by omega) = u0 := by
    obtain ⟨hl, ⟨e0, _⟩ | ⟨b', c, kin, rfl, g2, g3, g4, g5, g6, g7⟩⟩ := h1
    · omega
    · have hx := indexAddr_slice (T := T0) und49 sz46 (b := b') (o := 0) (c := 2 * 1 + 1) (k := .i64) hlt
      have x1 : aIndexAddr T0 49 (.slice (some ⟨b', 0, none⟩) ways.length (2 * 1 + 1)) (.int .i64 ((0 : Nat) : Int)) = some (.pointer (some ⟨b, p, none⟩)) := x1
      rw [hx] at x1
      have e := Option.some.inj x1
      injection e with e; have e := Option.some.inj e; injection e with e1 e2 e3
      rw [← e1, ← e2] at x4
      have := x4.2
      simp only [AW.cell, g5, blt_dec, Nat.zero_add, Nat.zero_mul, show 0 < us.length from by omega, decide_true] at this
      rw [g6 0 (by omega), hu0] at this
      exact Option.some.inj this
  rw [hue] at hu0
  have hrow := h3 0 u0 w hu0 h0
  obtain ⟨A, c, hus⟩ := hrow.len
  have hE : Ext W (W.newCells 46 [u0]) := .newCells _ _ _
  obtain ⟨mv', W', a1, a2, a3, a4⟩ := append_growsN (T := T0) (t := 49) (el := 46) (c := 2) (by omega) und49 inf46 is46 z46' rfl (h1.only (K' := fun _ => False) hE (fun _ _ _ x => x)) (u := [u0]) rfl (newCells_cellsAt W 46 [u0] 1 rfl) (by rw [hus]; rfl) (by rw [by46']; omega) (by omega)
  rw [newCells_next] at a2
  have hO : Only KL W W' := ⟨by omega, fun b hb hk => by rw [a4.2 b (by rw [newCells_next]; omega) hk]; exact hE.2 b hb (fun x => x)⟩
  refine ⟨u0, b, p, x1, x2, ⟨A, c, hus⟩, mv', W', a1, ?_, ⟨by omega, fun b hb hk => hO.2 b hb (fun hh => hk (h4 b hh).1)⟩⟩
  have hG : WaysG W0 W' mv' (ways ++ [w]) := ⟨fun b => KL b ∨ b = W.next + 1, KR, us ++ [u0], by
    rw [show (ways ++ [w]).length = ways.length + 1 from by simp]
    exact a3.mono (fun b hb => hb.elim .inl (fun e => .inr (by rw [newCells_next] at e; exact e))), by simp [h2], fun i u' w' hu' hw' => by
    by_cases hi : i < ways.length
    · rw [List.getElem?_append_left (by omega)] at hu' hw'
      exact (h3 i u' w' hu' hw').only hO (fun b hb hx hk => (h5 b hx).2.2 hk)
    · rw [List.getElem?_append_right (by omega)] at hu' hw'
      have h0 : i - ways.length = 0 := by have := (List.getElem?_eq_some_iff.1 hw').1; simp at this; omega
      rw [h2, h0] at hu'
      rw [h0] at hw'
      cases hu'; cases hw'
      exact hrow.only hO (fun b hb hx hk => (h5 b hx).2.2 hk), fun b hb => by
    rcases hb with hb | hb
    · have := h4 b hb; omega
    · have := h1; obtain ⟨_, ⟨e0, _⟩ | ⟨b', _, _, _, _, g3, g4, _⟩⟩ := this
      · omega
      · have := h4 b' g3; omega, fun b hb => by
    have := h5 b hb
    exact ⟨this.1, by omega, fun hh => hh.elim this.2.2 (fun e => by omega)⟩⟩
  exact hG.in_
def WaysS (W : AW) (v : Value) (ll : List (List Int)) : Prop := ∃ A c, v = .slice A ll.length c ∧ ∀ (i : Nat) l, ll[i]? = some l → ∃ b o u, A = some ⟨b, o, none⟩ ∧ W.Has b (o + i) u ∧ IntL W u l ∧ SlOk u l.length

def outF (f : Nat → Bool) (a : Quad) : Int := (if f a.1.toNat && !f a.2.1.toNat then a.2.2.1 else 0) + (if f a.2.1.toNat && !f a.1.toNat then a.2.2.2 else 0)
def capF (f : Nat → Bool) (l : List Quad) : Int := (l.map (outF f)).sum
theorem capF_Q (s : Nat) (l : List Quad) : capF s.testBit l = capQ s l := rfl
def SymQ (l : List Quad) : Prop := ∀ a ∈ l, 0 ≤ a.2.2.1 ∧ a.2.2.2 = a.2.2.1
theorem SymQ.tail {a : Quad} {l : List Quad} (h : SymQ (a :: l)) : SymQ l := fun b hb => h b (List.mem_cons_of_mem _ hb)
theorem outF_not {f : Nat → Bool} {a : Quad} (h : a.2.2.2 = a.2.2.1) : outF (fun y => !f y) a = outF f a := by
  cases h1 : f a.1.toNat <;> cases h2 : f a.2.1.toNat <;> simp [outF, h1, h2, h]
theorem outF_sub {f g : Nat → Bool} {a : Quad} (h1 : 0 ≤ a.2.2.1) (h2 : 0 ≤ a.2.2.2) : outF (fun y => f y || g y) a + outF (fun y => f y && g y) a ≤ outF f a + outF g a := by
  cases e1 : f a.1.toNat <;> cases e2 : g a.1.toNat <;> cases e3 : f a.2.1.toNat <;> cases e4 : g a.2.1.toNat <;> simp [outF, e1, e2, e3, e4] <;> omega
theorem capF_not (f : Nat → Bool) : ∀ l : List Quad, SymQ l → capF (fun y => !f y) l = capF f l
  | [], _ => rfl
  | a :: l, h => by
    have ih := capF_not f l h.tail
    have ha := h a List.mem_cons_self
    simp only [capF, List.map_cons, List.sum_cons] at ih ⊢
    rw [ih, outF_not ha.2]
theorem capF_sub (f g : Nat → Bool) : ∀ l : List Quad, SymQ l → capF (fun y => f y || g y) l + capF (fun y => f y && g y) l ≤ capF f l + capF g l
  | [], _ => by simp [capF]
  | a :: l, h => by
    have ih := capF_sub f g l h.tail
    have ha := h a List.mem_cons_self
    have h1 := outF_sub (f := f) (g := g) ha.1 (by omega)
    simp only [capF, List.map_cons, List.sum_cons] at ih ⊢
    omega
theorem capF_dif (f g : Nat → Bool) (l : List Quad) (h : SymQ l) : capF (fun y => f y && !g y) l + capF (fun y => g y && !f y) l ≤ capF f l + capF g l := by
  have h1 := capF_sub f (fun y => !g y) l h
  have h2 := capF_not (fun y => g y && !f y) l h
  have e : (fun y => !(g y && !f y)) = fun y => f y || !g y := by
    funext y; cases f y <;> cases g y <;> rfl
  rw [e] at h2
  rw [capF_not g l h] at h1
  omega
theorem uncross {l : List Quad} (h : SymQ l) {S X : Nat → Bool} {p q r : Nat} (hp : S p = true) (hq : S q = false) (xp : X p = false) (xq : X q = false) (xr : X r = true) (hX : ∀ f : Nat → Bool, f r = true → f q = false → capF X l ≤ capF f l) :
    ∃ S' : Nat → Bool, S' p = true ∧ S' q = false ∧ capF S' l ≤ capF S l ∧ (∀ y, X y = false → S' y = S y) ∧ ∀ y, X y = true → S' y = S r := by
  cases hr : S r with
  | true =>
    refine ⟨fun y => S y || X y, by simp [hp], by simp [hq, xq], ?_, fun y hy => by simp [hy], fun y hy => by simp [hy]⟩
    have h1 := capF_sub S X l h
    have h2 := hX (fun y => S y && X y) (by simp [hr, xr]) (by simp [hq])
    omega
  | false =>
    refine ⟨fun y => S y && !X y, by simp [hp, xp], by simp [hq], ?_, fun y hy => by simp [hy], fun y hy => by simp [hy]⟩
    have h1 := capF_dif S X l h
    have h2 := hX (fun y => X y && !S y) (by simp [hr, xr]) (by simp [xq])
    omega
structure GH (P : Nat) (l : List Quad) (a : Nat → Nat) (w : Nat → Int) (D : Nat → Nat → Bool) (rk : Nat → Nat) (m : Nat) : Prop where
  m0 : 0 < m
  mP : m ≤ P
  root : a 0 = 0
  lt : ∀ x, x < P → a x < m
  ne : ∀ x, 0 < x → x < P → a x ≠ x
  rank : ∀ x, 0 < x → x < P → rk (a x) < rk x
  all : ∀ y, D 0 y = true
  zero : ∀ x, 0 < x → x < m → D x 0 = false
  eq : ∀ x y, 0 < x → x < m → 0 < y → y < P → D x y = (decide (y = x) || D x (a y))
  val : ∀ x, 0 < x → x < m → capF (D x) l = w x
  min : ∀ x, 0 < x → x < m → ∀ f : Nat → Bool, f x = true → f (a x) = false → w x ≤ capF f l
section
variable {P : Nat} {l : List Quad} {a : Nat → Nat} {w : Nat → Int} {D : Nat → Nat → Bool} {rk : Nat → Nat} {m : Nat}
theorem GH.self (h : GH P l a w D rk m) {x : Nat} (hx : x < m) : D x x = true := by
  by_cases h0 : x = 0
  · subst h0; exact h.all 0
  · have hP := h.mP
    rw [h.eq x x (by omega) hx (by omega) (by omega)]; simp
theorem GH.up (h : GH P l a w D rk m) {x y : Nat} (hx : x < m) (hy : y < P) : D x y = true → rk x ≤ rk y := by
  by_cases hx0 : x = 0
  · subst hx0
    intro _
    induction hn : rk y using Nat.strongRecOn generalizing y with
    | _ n ih =>
      by_cases hy0 : y = 0
      · subst hy0; omega
      · have hr := h.rank y (by omega) hy
        have hP := h.mP
        have := ih (rk (a y)) (by omega) (by have := h.lt y hy; omega) (h.all _) rfl
        omega
  · induction hn : rk y using Nat.strongRecOn generalizing y with
    | _ n ih =>
      intro hD
      by_cases hy0 : y = 0
      · subst hy0; rw [h.zero x (by omega) hx] at hD; cases hD
      · rw [h.eq x y (by omega) hx (by omega) hy] at hD
        simp only [Bool.or_eq_true, decide_eq_true_eq] at hD
        rcases hD with rfl | hD
        · omega
        · have hr := h.rank y (by omega) hy
          have hP := h.mP
          have := ih (rk (a y)) (by omega) (by have := h.lt y hy; omega) rfl hD
          omega
theorem GH.child (h : GH P l a w D rk m) {q y : Nat} (hq : q < m) (hy : y < P) (hD : D q y = true) (hne : y ≠ q) : a y = q ∨ ∃ x, 0 < x ∧ x < m ∧ a x = q ∧ D x y = true := by
  have hP := h.mP
  induction hn : rk y using Nat.strongRecOn generalizing y with
  | _ n ih =>
    by_cases hy0 : y = 0
    · subst hy0
      by_cases hq0 : q = 0
      · exact absurd hq0.symm hne
      · rw [h.zero q (by omega) hq] at hD; cases hD
    · by_cases e : a y = q
      · exact .inl e
      · have hlt := h.lt y hy
        have hD' : D q (a y) = true := by
          by_cases hq0 : q = 0
          · subst hq0; exact h.all _
          · rw [h.eq q y (by omega) hq (by omega) hy] at hD
            simpa [hne] using hD
        have hr := h.rank y (by omega) hy
        rcases ih (rk (a y)) (by omega) (by omega) hD' e rfl with h1 | ⟨x, x1, x2, x3, x4⟩
        · by_cases ha0 : a y = 0
          · rw [ha0, h.root] at h1
            exact absurd (by rw [ha0, h1]) e
          · refine .inr ⟨a y, by omega, hlt, h1, ?_⟩
            rw [h.eq (a y) y (by omega) hlt (by omega) hy, h.self hlt]; simp
        · refine .inr ⟨x, x1, x2, x3, ?_⟩
          rw [h.eq x y x1 x2 (by omega) hy, x4]; simp
theorem GH.apart (h : GH P l a w D rk m) {q x x' y : Nat} (hx : 0 < x ∧ x < m ∧ a x = q) (hx' : 0 < x' ∧ x' < m ∧ a x' = q) (hy : y < P) (h1 : D x y = true) (h2 : D x' y = true) : x = x' := by
  have hP := h.mP
  have nq : ∀ z, 0 < z ∧ z < m ∧ a z = q → D z q = false := fun z hz => by
    cases hd : D z q with
    | false => rfl
    | true =>
      have h3 := h.up hz.2.1 (y := q) (by have := h.lt z (by omega); omega) hd
      have h4 := h.rank z hz.1 (by omega)
      rw [hz.2.2] at h4; omega
  induction hn : rk y using Nat.strongRecOn generalizing y with
  | _ n ih =>
    by_cases hy0 : y = 0
    · subst hy0; rw [h.zero x hx.1 hx.2.1] at h1; cases h1
    · rw [h.eq x y hx.1 hx.2.1 (by omega) hy] at h1
      rw [h.eq x' y hx'.1 hx'.2.1 (by omega) hy] at h2
      simp only [Bool.or_eq_true, decide_eq_true_eq] at h1 h2
      rcases h1 with rfl | h1
      · rcases h2 with h2 | h2
        · exact h2
        · rw [hx.2.2, nq x' hx'] at h2; cases h2
      · rcases h2 with rfl | h2
        · rw [hx'.2.2, nq x hx] at h1; cases h1
        · have hr := h.rank y (by omega) hy
          exact ih (rk (a y)) (by omega) (by have := h.lt y hy; omega) h1 h2 rfl
end
section
variable {P : Nat} {l : List Quad} {a : Nat → Nat} {w : Nat → Int} {D : Nat → Nat → Bool} {rk : Nat → Nat} {m : Nat}
theorem GH.noq (h : GH P l a w D rk m) {z : Nat} (hz : 0 < z ∧ z < m) {y : Nat} (hy : y < P) (hr : rk y < rk z) : D z y = false := by
  cases hd : D z y with
  | false => rfl
  | true => have := h.up hz.2 hy hd; omega
theorem GH.sub (h : GH P l a w D rk m) {q x y : Nat} (hq : q < m) (hx : 0 < x ∧ x < m ∧ a x = q) (hy : y < P) (hD : D x y = true) : D q y = true := by
  have hP := h.mP
  by_cases hq0 : q = 0
  · subst hq0; exact h.all y
  · induction hn : rk y using Nat.strongRecOn generalizing y with
    | _ n ih =>
      by_cases hy0 : y = 0
      · subst hy0; rw [h.zero x hx.1 hx.2.1] at hD; cases hD
      · rw [h.eq q y (by omega) hq (by omega) hy]
        rw [h.eq x y hx.1 hx.2.1 (by omega) hy] at hD
        simp only [Bool.or_eq_true, decide_eq_true_eq] at hD ⊢
        right
        rcases hD with rfl | hD
        · rw [hx.2.2]; exact h.self hq
        · exact ih (rk (a y)) (by have := h.rank y (by omega) hy; omega) (by have := h.lt y hy; omega) hD rfl
theorem GH.beside (h : GH P l a w D rk m) (hl : SymQ l) (hm : m < P) {S : Nat → Bool} (hp : S m = true) (hq : S (a m) = false) : ∀ k, k ≤ m → ∃ z : Nat → Bool, z m = true ∧ z (a m) = false ∧ capF z l ≤ capF S l ∧
    (∀ x, x < k → 0 < x → a x = a m → ∀ y, y < P → D x y = true → z y = S x) ∧ ∀ y, y < P → (∀ x, x < k → 0 < x → a x = a m → D x y = false) → z y = S y
  | 0, _ => ⟨S, hp, hq, Int.le_refl _, fun x hx => by omega, fun y _ _ => rfl⟩
  | k + 1, hk => by
    obtain ⟨z, z1, z2, z3, z4, z5⟩ := h.beside hl hm hp hq k (by omega)
    have hqm := h.lt m hm
    by_cases hc : 0 < k ∧ a k = a m
    · have hrk := h.rank k hc.1 (by omega)
      have hrm := h.rank m h.m0 hm
      have dq : D k (a m) = false := h.noq ⟨hc.1, by omega⟩ (by omega) (by rw [← hc.2]; exact hrk)
      have dm : D k m = false := by
        rw [h.eq k m hc.1 (by omega) h.m0 hm, dq]
        simp; omega
      have dk := h.self (x := k) (by omega)
      have zk : z k = S k := z5 k (by omega) (fun x hx hx0 hxa => by
        cases hd : D x k with
        | false => rfl
        | true => have := h.apart (q := a m) ⟨hx0, by omega, hxa⟩ ⟨hc.1, by omega, hc.2⟩ (by omega) hd dk; omega)
      obtain ⟨z', y1, y2, y3, y4, y5⟩ := uncross hl z1 z2 dm dq dk (fun f f1 f2 => by
        rw [h.val k hc.1 (by omega)]
        exact h.min k hc.1 (by omega) f f1 (by rw [hc.2]; exact f2))
      refine ⟨z', y1, y2, by omega, fun x hx hx0 hxa y hy hd => ?_, fun y hy hall => ?_⟩
      · by_cases e : x = k
        · subst e; rw [y5 y hd, zk]
        · have : D k y = false := by
            cases hd2 : D k y with
            | false => rfl
            | true => exact absurd (h.apart (q := a m) ⟨hx0, by omega, hxa⟩ ⟨hc.1, by omega, hc.2⟩ hy hd hd2) e
          rw [y4 y this]
          exact z4 x (by omega) hx0 hxa y hy hd
      · rw [y4 y (hall k (by omega) hc.1 hc.2)]
        exact z5 y hy (fun x hx => hall x (by omega))
    · refine ⟨z, z1, z2, z3, fun x hx hx0 hxa => ?_, fun y hy hall => z5 y hy (fun x hx => hall x (by omega))⟩
      by_cases e : x = k
      · subst e; exact absurd ⟨hx0, hxa⟩ hc
      · exact z4 x (by omega) hx0 hxa
structure Clean (P : Nat) (l : List Quad) (a : Nat → Nat) (m : Nat) (S z : Nat → Bool) : Prop where
  z1 : z m = true
  z2 : z (a m) = false
  cap : capF z l ≤ capF S l
  z3 : ∀ y, y < P → y ≠ m → a y = a m → z y = S y
  z4 : ∀ y, 0 < y → y < P → y ≠ m → y ≠ a m → a y ≠ a m → z y = z (a y)
  z5 : a m ≠ 0 → z (a (a m)) = S (a (a m)) ∧ z 0 = S (a (a m))
theorem GH.clean (h : GH P l a w D rk m) (hl : SymQ l) (hm : m < P) {S : Nat → Bool} (hp : S m = true) (hq : S (a m) = false) : ∃ z, Clean P l a m S z := by
  have hP := h.mP
  obtain ⟨q, hqe⟩ : ∃ q, q = a m := ⟨_, rfl⟩
  have hqm : q < m := by rw [hqe]; exact h.lt m hm
  have hrm := h.rank m h.m0 hm
  rw [← hqe] at hq hrm
  obtain ⟨z, z1, z2, z3, z4, z5⟩ := h.beside hl hm hp (by rw [← hqe]; exact hq) m (Nat.le_refl _)
  rw [← hqe] at z2
  simp only [← hqe] at z4 z5
  -- what no place beside has
  have out : ∀ y, y < P → D q y = false → ∀ x, x < m → 0 < x → a x = q → D x y = false := fun y hy hd x hx hx0 hxa => by
    cases hd2 : D x y with
    | false => rfl
    | true => rw [h.sub hqm ⟨hx0, hx, hxa⟩ hy hd2] at hd; cases hd
  have leaf : ∀ y, y < P → m ≤ y → ∀ x, x < m → 0 < x → a x = q → a y = q → D x y = false := fun y hy hym x hx hx0 hxa hya => by
    rw [h.eq x y hx0 hx (by omega) hy, hya, h.noq ⟨hx0, hx⟩ (by omega) (by have := h.rank x hx0 (by omega); rw [hxa] at this; exact this)]
    simp; omega
  by_cases hq0 : q = 0
  · refine ⟨z, z1, by rw [← hqe]; exact z2, z3, fun y hy hym hya => ?_, fun y hy0 hy hym hyq hya => ?_, fun hne => absurd (by rw [← hqe]; exact hq0) hne⟩
    · rw [← hqe] at hya
      by_cases hy0 : y = 0
      · subst hy0; rw [← hq0, z2, hq]
      · by_cases hlt : y < m
        · exact z4 y hlt (by omega) hya y hy (h.self hlt)
        · exact z5 y hy (fun x hx hx0 hxa => leaf y hy (by omega) x hx hx0 hxa hya)
    · rw [← hqe] at hyq hya
      have hall : D q y = true := by rw [hq0]; exact h.all y
      rcases h.child hqm hy hall hyq with h1 | ⟨x, x1, x2, x3, x4⟩
      · exact absurd h1 hya
      · have hne : ¬ y = x := fun e => hya (by rw [e]; exact x3)
        have x5 : D x (a y) = true := by
          rw [h.eq x y x1 x2 hy0 hy] at x4; simpa [hne] using x4
        rw [z4 x x2 x1 x3 y hy x4, z4 x x2 x1 x3 (a y) (by have := h.lt y hy; omega) x5]
  · -- the part above
    have hrq := h.rank q (by omega) (by omega)
    have haq := h.lt q (by omega)
    have dqq := h.self hqm
    have dqm : D q m = true := by rw [h.eq q m (by omega) hqm h.m0 hm, ← hqe, dqq]; simp
    have dqa : D q (a q) = false := h.noq ⟨by omega, hqm⟩ (by omega) hrq
    have dq0 := h.zero q (by omega) hqm
    obtain ⟨z', y1, y2, y3, y4, y5⟩ := uncross hl z1 z2 (X := fun y => !D q y) (r := a q) (by simp [dqm]) (by simp [dqq]) (by simp [dqa]) (fun f f1 f2 => by
      rw [capF_not _ l hl, h.val q (by omega) hqm, ← capF_not f l hl]
      exact h.min q (by omega) hqm _ (by simp [f2]) (by simp [f1]))
    have za : z (a q) = S (a q) := z5 (a q) (by omega) (out (a q) (by omega) dqa)
    refine ⟨z', y1, by rw [← hqe]; exact y2, by omega, fun y hy hym hya => ?_, fun y hy0 hy hym hyq hya => ?_, fun _ => ?_⟩
    · rw [← hqe] at hya
      have hy0 : y ≠ 0 := fun e => by rw [e, h.root] at hya; omega
      have dy : D q y = true := by rw [h.eq q y (by omega) hqm (by omega) hy, hya, dqq]; simp
      rw [y4 y (by simp [dy])]
      by_cases hlt : y < m
      · exact z4 y hlt (by omega) hya y hy (h.self hlt)
      · exact z5 y hy (fun x hx hx0 hxa => leaf y hy (by omega) x hx hx0 hxa hya)
    · rw [← hqe] at hyq hya
      have hay := h.lt y hy
      cases dy : D q y with
      | true =>
        rcases h.child hqm hy dy hyq with h1 | ⟨x, x1, x2, x3, x4⟩
        · exact absurd h1 hya
        · have hne : ¬ y = x := fun e => hya (by rw [e]; exact x3)
          have x5 : D x (a y) = true := by
            rw [h.eq x y x1 x2 hy0 hy] at x4; simpa [hne] using x4
          have day := h.sub hqm ⟨x1, x2, x3⟩ (by omega) x5
          rw [y4 y (by simp [dy]), y4 (a y) (by simp [day]), z4 x x2 x1 x3 y hy x4, z4 x x2 x1 x3 (a y) (by omega) x5]
      | false =>
        have day : D q (a y) = false := by
          rw [h.eq q y (by omega) hqm hy0 hy] at dy
          simp only [Bool.or_eq_false_iff] at dy
          exact dy.2
        rw [y5 y (by simp [dy]), y5 (a y) (by simp [day])]
    · rw [← hqe]
      exact ⟨by rw [y5 (a q) (by simp [dqa]), za], by rw [y5 0 (by simp [dq0]), za]⟩
end
section
variable {P : Nat} {l : List Quad} {a : Nat → Nat} {w : Nat → Int} {D : Nat → Nat → Bool} {rk : Nat → Nat} {m : Nat}
theorem GH.moved (h : GH P l a w D rk m) (hl : SymQ l) {S : Nat → Bool} {x : Nat} (hx0 : 0 < x) (hx : x < m) (hxa : a x = a m) (hSx : S x = true) (hq : S (a m) = false) (hmin : ∀ f : Nat → Bool, f m = true → f (a m) = false → capF S l ≤ capF f l) : ∀ f : Nat → Bool, f x = true → f m = false → w x ≤ capF f l := fun f f1 f2 => by
  cases fq : f (a m) with
  | false => exact h.min x hx0 hx f f1 (by rw [hxa]; exact fq)
  | true =>
    have h1 := hmin (fun y => !f y) (by simp [f2]) (by simp [fq])
    rw [capF_not f l hl] at h1
    have h2 := h.min x hx0 hx S hSx (by rw [hxa]; exact hq)
    omega
def aNew (a : Nat → Nat) (S : Nat → Bool) (m : Nat) : Nat → Nat := fun x => if x = m then a m else if S x = true ∧ a x = a m then m else a x
theorem GH.step1 (h : GH P l a w D rk m) (hl : SymQ l) (hm : m < P) {S : Nat → Bool} (hp : S m = true) (hq : S (a m) = false) (hmin : ∀ f : Nat → Bool, f m = true → f (a m) = false → capF S l ≤ capF f l) (hr : S (a (a m)) = false) :
    ∃ D' rk', GH P l (aNew a S m) (fun x => if x = m then capF S l else w x) D' rk' (m + 1) := by
  obtain ⟨z, hz⟩ := h.clean hl hm hp hq
  have hP := h.mP
  have h0 := h.m0
  have hqm := h.lt m hm
  have hrm := h.rank m h0 hm
  obtain ⟨q, hqe⟩ : ∃ q, q = a m := ⟨_, rfl⟩
  have hcap : capF z l = capF S l := by
    have h1 := hz.cap
    have h2 := hmin z hz.z1 hz.z2
    omega
  have aq : aNew a S m q = a q := by
    have e1 : ¬ q = m := by omega
    simp [aNew, e1]
    intro h1 _; rw [hqe, hq] at h1; cases h1
  have aoth : ∀ y, y ≠ m → a y ≠ q → aNew a S m y = a y := fun y h1 h2 => by
    have : ¬ (S y = true ∧ a y = a m) := fun x => h2 (by rw [x.2, hqe])
    simp only [aNew, if_neg h1, if_neg this]
  have amov : ∀ y, y ≠ m → a y = q → S y = true → aNew a S m y = m := fun y h1 h2 h3 => by
    simp only [aNew, if_neg h1]
    rw [if_pos ⟨h3, by rw [h2, hqe]⟩]
  have asta : ∀ y, y ≠ m → a y = q → S y = false → aNew a S m y = q := fun y h1 h2 h3 => by
    have : ¬ (S y = true ∧ a y = a m) := fun x => by rw [h3] at x; cases x.1
    simp only [aNew, if_neg h1, if_neg this]; exact h2
  have am : aNew a S m m = q := by simp [aNew, hqe]
  have z3 := hz.z3
  have z4 := hz.z4
  have z2 := hz.z2
  rw [← hqe] at z2 hqm hrm
  simp only [← hqe] at z3 z4
  have z0 : z 0 = false := by
    by_cases e : q = 0
    · rw [← e]; exact z2
    · rw [(hz.z5 (by rw [← hqe]; exact e)).2]; exact hr
  have zaq : q ≠ 0 → z (a q) = false := fun e => by
    have := (hz.z5 (by rw [← hqe]; exact e)).1
    rw [← hqe] at this hr
    rw [this]; exact hr
  refine ⟨fun x => if x = m then z else D x, fun y => if y ≠ m ∧ z y = true then rk y + rk m + 1 else rk y, ⟨by omega, by omega, ?_, fun x hx => ?_, fun x hx0 hx => ?_, fun y hy0 hy => ?_, fun y => ?_, fun x hx0 hx => ?_, fun x y hx0 hx hy0 hy => ?_, fun x hx0 hx => ?_, fun x hx0 hx => ?_⟩⟩
  · by_cases e : a 0 = q
    · rw [asta 0 (by omega) e (by rw [h.root] at e; rw [e, hqe]; exact hq)]; rw [← e, h.root]
    · rw [aoth 0 (by omega) e, h.root]
  · by_cases e : x = m
    · subst e; rw [am]; omega
    · by_cases e2 : a x = q
      · cases hS : S x with
        | true => rw [amov x e e2 hS]; omega
        | false => rw [asta x e e2 hS]; omega
      · rw [aoth x e e2]; have := h.lt x hx; omega
  · by_cases e : x = m
    · subst e; rw [am]; omega
    · by_cases e2 : a x = q
      · cases hS : S x with
        | true => rw [amov x e e2 hS]; exact fun e3 => e e3.symm
        | false => rw [asta x e e2 hS, ← e2]; exact h.ne x hx0 hx
      · rw [aoth x e e2]; exact h.ne x hx0 hx
  · have hry := h.rank y hy0 hy
    by_cases e : y = m
    · subst e
      rw [am]
      simp [z2]; exact hrm
    · by_cases e2 : a y = q
      · cases hS : S y with
        | true =>
          rw [amov y e e2 hS]
          simp [e, z3 y hy e e2, hS]; omega
        | false =>
          rw [asta y e e2 hS]
          simp [e, z3 y hy e e2, hS, z2]
          rw [← e2]; exact hry
      · rw [aoth y e e2]
        have hay := h.lt y hy
        have e3 : a y ≠ m := by omega
        by_cases e4 : y = q
        · have hzq : z (a y) = false := by rw [e4]; exact zaq (by omega)
          have hzy : z y = false := by rw [e4]; exact z2
          simp [e, e3, hzq, hzy]; exact hry
        · have := z4 y hy0 hy e e4 e2
          rw [← this]
          cases hzy : z y <;> simp [e, e3] <;> omega
  · have : ¬ 0 = m := by omega
    simp only [if_neg this]; exact h.all y
  · by_cases e : x = m
    · simp only [if_pos e]; exact z0
    · simp only [if_neg e]; exact h.zero x hx0 (by omega)
  · by_cases e : x = m
    · subst e
      simp only [if_true]
      by_cases e1 : y = x
      · subst e1; rw [hz.z1]; simp
      · by_cases e2 : a y = q
        · cases hS : S y with
          | true => rw [amov y e1 e2 hS, z3 y hy e1 e2, hS, hz.z1]; simp
          | false => rw [asta y e1 e2 hS, z3 y hy e1 e2, hS, z2]; simp [e1]
        · rw [aoth y e1 e2]
          by_cases e4 : y = q
          · rw [e4, z2, zaq (by omega)]
            have : ¬ q = x := by omega
            simp [this]
          · rw [z4 y hy0 hy e1 e4 e2]; simp [e1]
    · simp only [if_neg e]
      have hxm : x < m := by omega
      rw [h.eq x y hx0 hxm hy0 hy]
      by_cases e1 : y = m
      · subst e1; rw [am, hqe]
      · by_cases e2 : a y = q
        · cases hS : S y with
          | true =>
            rw [amov y e1 e2 hS, e2, h.eq x m hx0 hxm h0 hm, ← hqe]
            have : ¬ m = x := by omega
            simp [this]
          | false => rw [asta y e1 e2 hS, e2]
        · rw [aoth y e1 e2]
  · by_cases e : x = m
    · simp only [if_pos e]; exact hcap
    · simp only [if_neg e]; exact h.val x hx0 (by omega)
  · by_cases e : x = m
    · subst e
      simp only [if_true]
      rw [am]
      intro f f1 f2
      exact hmin f f1 (by rw [← hqe]; exact f2)
    · simp only [if_neg e]
      have hxm : x < m := by omega
      by_cases e2 : a x = q
      · cases hS : S x with
        | true => rw [amov x e e2 hS]; exact h.moved hl hx0 hxm (by rw [e2, hqe]) hS hq hmin
        | false => rw [asta x e e2 hS, ← e2]; exact h.min x hx0 hxm
      · rw [aoth x e e2]; exact h.min x hx0 hxm
def aSwap (a : Nat → Nat) (S : Nat → Bool) (m : Nat) : Nat → Nat := fun x => if x = m then a (a m) else if x = a m then m else if S x = true ∧ a x = a m then m else a x
theorem GH.step2 (h : GH P l a w D rk m) (hl : SymQ l) (hm : m < P) {S : Nat → Bool} (hp : S m = true) (hq : S (a m) = false) (hmin : ∀ f : Nat → Bool, f m = true → f (a m) = false → capF S l ≤ capF f l) (hr : S (a (a m)) = true) :
    ∃ D' rk', GH P l (aSwap a S m) (fun x => if x = m then w (a m) else if x = a m then capF S l else w x) D' rk' (m + 1) := by
  obtain ⟨z, hz⟩ := h.clean hl hm hp hq
  have hP := h.mP
  have h0 := h.m0
  have hqm := h.lt m hm
  have hrm := h.rank m h0 hm
  obtain ⟨q, hqe⟩ : ∃ q, q = a m := ⟨_, rfl⟩
  have hcap : capF z l = capF S l := by
    have h1 := hz.cap
    have h2 := hmin z hz.z1 hz.z2
    omega
  rw [← hqe] at hr hqm hrm
  have hq' : S q = false := by rw [hqe]; exact hq
  have hq0 : 0 < q := by
    by_cases e : q = 0
    · rw [e, h.root, ← e, hq'] at hr; cases hr
    · omega
  have hqP : q < P := by omega
  have haq := h.lt q hqP
  have hrq := h.rank q hq0 hqP
  have hneq := h.ne q hq0 hqP
  have am : aSwap a S m m = a q := by simp [aSwap, hqe]
  have aq : aSwap a S m q = m := by
    have e1 : ¬ q = m := by omega
    simp only [aSwap, if_neg e1]; rw [if_pos hqe]
  have aoth : ∀ y, y ≠ m → y ≠ q → a y ≠ q → aSwap a S m y = a y := fun y h1 h3 h2 => by
    have : ¬ (S y = true ∧ a y = a m) := fun x => h2 (by rw [x.2, hqe])
    have h4 : ¬ y = a m := by rw [← hqe]; exact h3
    simp only [aSwap, if_neg h1, if_neg h4, if_neg this]
  have amov : ∀ y, y ≠ m → a y = q → S y = true → aSwap a S m y = m := fun y h1 h2 h3 => by
    simp only [aSwap, if_neg h1]
    split
    · rfl
    · rw [if_pos ⟨h3, by rw [h2, hqe]⟩]
  have asta : ∀ y, y ≠ m → y ≠ q → a y = q → S y = false → aSwap a S m y = q := fun y h1 h4 h2 h3 => by
    have : ¬ (S y = true ∧ a y = a m) := fun x => by rw [h3] at x; cases x.1
    have h4 : ¬ y = a m := by rw [← hqe]; exact h4
    simp only [aSwap, if_neg h1, if_neg h4, if_neg this]; exact h2
  have z3 := hz.z3
  have z4 := hz.z4
  have z2 := hz.z2
  rw [← hqe] at z2
  simp only [← hqe] at z3 z4
  have hz5 := hz.z5 (by rw [← hqe]; omega)
  rw [← hqe, hr] at hz5
  obtain ⟨zaq, z0⟩ := hz5
  have dqq := h.self hqm
  have dqm : D q m = true := by rw [h.eq q m hq0 hqm h0 hm, ← hqe, dqq]; simp
  have dq0 := h.zero q hq0 hqm
  have dqa : D q (a q) = false := h.noq ⟨hq0, hqm⟩ (by omega) hrq
  have sepq : ∀ f : Nat → Bool, f q = true → f m = false → capF S l ≤ capF f l := fun f f1 f2 => by
    have := hmin (fun y => !f y) (by simp [f2]) (by rw [← hqe]; simp [f1])
    rwa [capF_not f l hl] at this
  refine ⟨fun x => if x = m then D q else if x = q then (fun y => !z y) else D x, fun y => if y = m then rk q else if D q y = true then rk y + 1 else rk y, ⟨by omega, by omega, ?_, fun x hx => ?_, fun x hx0 hx => ?_, fun y hy0 hy => ?_, fun y => ?_, fun x hx0 hx => ?_, fun x y hx0 hx hy0 hy => ?_, fun x hx0 hx => ?_, fun x hx0 hx => ?_⟩⟩
  · rw [aoth 0 (by omega) (by omega) (by rw [h.root]; omega), h.root]
  · by_cases e : x = m
    · subst e; rw [am]; omega
    · by_cases e1 : x = q
      · rw [e1, aq]; omega
      · by_cases e2 : a x = q
        · cases hS : S x with
          | true => rw [amov x e e2 hS]; omega
          | false => rw [asta x e e1 e2 hS]; omega
        · rw [aoth x e e1 e2]; have := h.lt x hx; omega
  · by_cases e : x = m
    · subst e; rw [am]; omega
    · by_cases e1 : x = q
      · rw [e1, aq]; omega
      · by_cases e2 : a x = q
        · cases hS : S x with
          | true => rw [amov x e e2 hS]; exact fun e3 => e e3.symm
          | false => rw [asta x e e1 e2 hS, ← e2]; exact h.ne x hx0 hx
        · rw [aoth x e e1 e2]; exact h.ne x hx0 hx
  · have hry := h.rank y hy0 hy
    have hay := h.lt y hy
    have e3 : ¬ a y = m := by omega
    by_cases e : y = m
    · subst e
      rw [am]
      have e5 : ¬ a q = y := by omega
      simp only [if_neg e5, dqa, if_true, Bool.false_eq_true, if_false]; exact hrq
    · by_cases e1 : y = q
      · rw [e1, aq]
        have e5 : ¬ q = m := by omega
        simp only [if_true, if_neg e5, dqq]; omega
      · have dy := h.eq q y hq0 hqm hy0 hy
        have e6 : decide (y = q) = false := decide_eq_false e1
        rw [e6, Bool.false_or] at dy
        by_cases e2 : a y = q
        · rw [e2, dqq] at dy
          cases hS : S y with
          | true =>
            rw [amov y e e2 hS]
            simp only [if_true, if_neg e, dy]; rw [e2] at hry; omega
          | false =>
            rw [asta y e e1 e2 hS]
            have e5 : ¬ q = m := by omega
            simp only [if_neg e, if_neg e5, dy, dqq, if_true]; rw [e2] at hry; omega
        · rw [aoth y e e1 e2]
          simp only [if_neg e, if_neg e3, dy]
          cases D q (a y) <;> simp <;> omega
  · have e1 : ¬ 0 = m := by omega
    have e2 : ¬ 0 = q := by omega
    simp only [if_neg e1, if_neg e2]; exact h.all y
  · by_cases e : x = m
    · simp only [if_pos e]; exact dq0
    · by_cases e1 : x = q
      · simp only [if_neg e, if_pos e1]; rw [z0]; rfl
      · simp only [if_neg e, if_neg e1]; exact h.zero x hx0 (by omega)
  · by_cases e : x = m
    · subst e
      simp only [if_true]
      by_cases y1 : y = x
      · subst y1; rw [dqm]; simp
      · by_cases y2 : y = q
        · rw [y2, aq, dqq, dqm]; simp
        · have dy := h.eq q y hq0 hqm hy0 hy
          have e6 : decide (y = q) = false := decide_eq_false y2
          rw [e6, Bool.false_or] at dy
          by_cases e2 : a y = q
          · rw [e2, dqq] at dy
            cases hS : S y with
            | true => rw [amov y y1 e2 hS, dy, dqm]; simp
            | false => rw [asta y y1 y2 e2 hS, dy, dqq]; simp
          · rw [aoth y y1 y2 e2, dy]; simp [y1]
    · by_cases e1 : x = q
      · subst e1
        simp only [if_neg e, if_true]
        by_cases y1 : y = m
        · subst y1; rw [am, hz.z1, zaq]; simp; omega
        · by_cases y2 : y = x
          · rw [y2, z2]; simp
          · by_cases e2 : a y = x
            · cases hS : S y with
              | true => rw [amov y y1 e2 hS, z3 y hy y1 e2, hS, hz.z1]; simp [y2]
              | false => rw [asta y y1 y2 e2 hS, z3 y hy y1 e2, hS, z2]; simp
            · rw [aoth y y1 y2 e2, z4 y hy0 hy y1 y2 e2]; simp [y2]
      · simp only [if_neg e, if_neg e1]
        have hxm : x < m := by omega
        have dxm : D x m = D x q := by
          rw [h.eq x m hx0 hxm h0 hm, ← hqe]
          have : ¬ m = x := fun x => e x.symm
          simp [this]
        have dxq : D x q = D x (a q) := by
          rw [h.eq x q hx0 hxm hq0 hqP]
          have : ¬ q = x := fun x => e1 x.symm
          simp [this]
        by_cases y1 : y = m
        · subst y1
          rw [am, dxm, dxq]
          have : ¬ y = x := fun x => e x.symm
          simp [this]
        · by_cases y2 : y = q
          · rw [y2, aq, dxm]
            have : ¬ q = x := fun x => e1 x.symm
            simp [this]
          · rw [h.eq x y hx0 hxm hy0 hy]
            by_cases e2 : a y = q
            · cases hS : S y with
              | true => rw [amov y y1 e2 hS, e2, dxm]
              | false => rw [asta y y1 y2 e2 hS, e2]
            · rw [aoth y y1 y2 e2]
  · by_cases e : x = m
    · simp only [if_pos e]
      rw [h.val q hq0 hqm, hqe]
    · by_cases e1 : x = q
      · have e1' : x = a m := by rw [← hqe]; exact e1
        simp only [if_neg e, if_pos e1, if_pos e1']
        rw [capF_not z l hl, hcap]
      · have e1' : ¬ x = a m := by rw [← hqe]; exact e1
        simp only [if_neg e, if_neg e1, if_neg e1']; exact h.val x hx0 (by omega)
  · by_cases e : x = m
    · subst e
      simp only [if_true]
      rw [am, ← hqe]
      intro f f1 f2
      cases fq : f q with
      | true => exact h.min q hq0 hqm f fq f2
      | false =>
        have h1 := hmin f f1 (by rw [← hqe]; exact fq)
        have h2 := h.min q hq0 hqm (fun y => !S y) (by simp [hq']) (by simp [hr])
        rw [capF_not S l hl] at h2
        omega
    · by_cases e1 : x = q
      · have e1' : x = a m := by rw [← hqe]; exact e1
        simp only [if_neg e, if_pos e1']
        rw [e1, aq]
        exact sepq
      · have e1' : ¬ x = a m := by rw [← hqe]; exact e1
        simp only [if_neg e, if_neg e1']
        have hxm : x < m := by omega
        by_cases e2 : a x = q
        · cases hS : S x with
          | true => rw [amov x e e2 hS]; exact h.moved hl hx0 hxm (by rw [e2, hqe]) hS hq hmin
          | false => rw [asta x e e1 e2 hS, ← e2]; exact h.min x hx0 hxm
        · rw [aoth x e e1 e2]; exact h.min x hx0 hxm
end
end Go.Proofs.YtkgfjfkgmpeobaaDoor