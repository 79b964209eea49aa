import Derived.Test.YtkgfjfkgmpeobaaDoorP40
import Derived.Test.YtkgfjfkgmpeobaaDoorEngPm
set_option linter.unusedSimpArgs false
set_option linter.unusedVariables false
set_option linter.unusedSectionVars false
open Go Go.Eng
namespace Go.Proofs.YtkgfjfkgmpeobaaDoor
attribute [local congr] undef_congr WpK.congr WpS.congr WpL.congr WpC.congr WpF.congr gotS.congr callS.congr nextS.congr wantS.congr condS.congr
attribute [local irreducible] WpK
attribute [local simp] WpDr_nil WpDr_cons atS_some dwantS_true dwantS_false kindS_light kindS_float kindS_heavy lightS_value floatS_some heavyS_value heavyS_skip heavyS_enter dcallS_some doneS_eq
  isLight isFloat isPlain dLook testBit_dec dChain dLights_nil dLights_skip dLights_one dLight_nil dLight_cons dFreshes_nil dFreshes_one oneF_none oneF_some dFresh_nil dFresh_cons oneL_some oneW_true oneW_false sameV_value dPut dMay valEq arrEq listEq List.getElem?_cons Tr.get_nil dEnd
attribute [local simp] WpS_nil WpS_cons isDefer undef_false wantS_true wantS_false nextS_value nextS_skip nextS_enter callS_some gotS_some aWanted aOp aEvalF aEval opMove opAssign opPick aVal flat flat1 AAct.put opBinOp opConvert opIndex Tr.get_set Tr.get_lay aBin aResults tupled
  aCall aVals aCallB blt_dec ble_dec beq_dec aBinI_add aBinI_sub aBinI_lss aBinI_leq aBinI_gtr aBinI_geq aBinI_eql aBinI_neq index_str len_str len_slice Nat.beq_refl und2 und3 und4 und5 und39 und76 und82 und115 und22 und29 und25 und33 und46 und43 und49 und111 und113 field151 field155_0 field155_1 field155_2 field155_3 field155_4
  field78 field106 field24 field31 field27 field35 field108 field109 opBox opLoad opFieldAddr opIndexAddr acells aAddr opExtract aExtract opUnOp opAlloc opStore opMakeInterface opNilCheck opBuild aParts opBuildSlice aValW
set_option maxHeartbeats 4000000
set_option linter.unusedSimpArgs false
set_option linter.unusedVariables false
def WaysIn (W : AW) (v : Value) (ll : List (List Int)) : Prop := ∃ A c, v = .slice A ll.length c ∧ ∀ (i : Nat) l, ll[i]? = some l → ∃ b o u, A = some ⟨b, o, none⟩ ∧ W.Has b (o + i) u ∧ IntL W u l
theorem ways_at {W : AW} {v : Value} {ll : List (List Int)} (h : WaysIn W v ll) {i : Nat} {l : List Int} (hi : ll[i]? = some l) :
    ∃ u b p, aIndexAddr T0 49 v (.int .i64 (i : Int)) = some (.pointer (some ⟨b, p, none⟩)) ∧ aLoadVar T0 W 46 b p = some u ∧ IntL W u l ∧ W.Has b p u := by
  obtain ⟨A, c, rfl, h2⟩ := h
  obtain ⟨b, o, u, rfl, e2, e3⟩ := h2 i l hi
  have hlt := (List.getElem?_eq_some_iff.1 hi).1
  have hx := indexAddr_slice (T := T0) und49 sz46 (b := b) (o := o) (c := c) (k := .i64) hlt
  rw [Nat.mul_one] at hx
  exact ⟨u, b, o + i, hx, load_of und46 rfl e2, e3, e2⟩
theorem int_at {W : AW} {v : Value} {l : List Int} (h : IntL W v l) {i : Nat} {x : Int} (hi : l[i]? = some x) :
    ∃ b p, aIndexAddr T0 46 v (.int .i64 (i : Int)) = some (.pointer (some ⟨b, p, none⟩)) ∧ aLoadVar T0 W 3 b p = some (.int .i64 x) := by
  obtain ⟨A, c, rfl, h2⟩ := h
  obtain ⟨b, o, rfl, e2⟩ := h2 i x hi
  have hlt := (List.getElem?_eq_some_iff.1 hi).1
  have hx := indexAddr_slice (T := T0) und46 sz3 (b := b) (o := o) (c := c) (k := .i64) hlt
  rw [Nat.mul_one] at hx
  exact ⟨b, o + i, hx, load_of und3 rfl e2⟩
theorem int_len {W : AW} {v : Value} {l : List Int} (h : IntL W v l) : ∃ A c, v = .slice A l.length c := let ⟨A, c, h, _⟩ := h; ⟨A, c, h⟩
def stepW (l : List Tri) (st : Option (Int × List Int)) (a : Int) : Option (Int × List Int) :=
  match st with
  | none => none
  | some (p, seen) => if 0 ≤ a then match l[a.toNat]? with
    | some e => if e.1 = p ∧ e.2.1 ∉ seen then some (e.2.1, seen ++ [e.2.1]) else none
    | none => none else none
def walkW (l : List Tri) (s : Int) (way : List Int) : Option (Int × List Int) := way.foldl (stepW l) (some (s, [s]))
def isW (l : List Tri) (s t : Int) (way : List Int) : Prop := ∃ seen, walkW l s way = some (t, seen)
def apartW (l : List Tri) (s t : Int) (ways : List (List Int)) : Prop := (∀ w ∈ ways, isW l s t w) ∧ ways.flatten.Nodup
theorem fold_none (l : List Tri) : ∀ way : List Int, way.foldl (stepW l) none = none
  | [] => rfl
  | _ :: w => fold_none l w
theorem walk_take {l : List Tri} {s : Int} {way : List Int} {i : Nat} {a : Int} (h : way[i]? = some a) : walkW l s (way.take (i + 1)) = stepW l (walkW l s (way.take i)) a := by
  rw [List.take_add_one, h]
  simp only [Option.toList_some, walkW, List.foldl_append, List.foldl_cons, List.foldl_nil]
theorem walk_none {l : List Tri} {s : Int} {way : List Int} {i : Nat} (h : walkW l s (way.take i) = none) : walkW l s way = none := by
  have : walkW l s way = (way.drop i).foldl (stepW l) (walkW l s (way.take i)) := by
    rw [walkW, walkW, ← List.foldl_append, List.take_append_drop]
  rw [this, h, fold_none]
theorem isW_no {l : List Tri} {s t : Int} {way : List Int} {i : Nat} (h : walkW l s (way.take i) = none) : ¬ isW l s t way := by
  rintro ⟨seen, hs⟩
  rw [walk_none h] at hs; cases hs
theorem stepW_ok {l : List Tri} {p : Int} {seen : List Int} {a : Nat} {e : Tri} (he : l[a]? = some e) (h1 : e.1 = p) (h2 : e.2.1 ∉ seen) : stepW l (some (p, seen)) (a : Int) = some (e.2.1, seen ++ [e.2.1]) := by
  simp [stepW, he, h1, h2]
theorem stepW_neg {l : List Tri} {st : Option (Int × List Int)} {a : Int} (h : a < 0) : stepW l st a = none := by
  unfold stepW
  split
  · rfl
  · rw [if_neg (by omega)]
theorem stepW_far {l : List Tri} {st : Option (Int × List Int)} {a : Nat} (h : l.length ≤ a) : stepW l st (a : Int) = none := by
  unfold stepW
  split
  · rfl
  · simp [List.getElem?_eq_none h]
theorem stepW_from {l : List Tri} {p : Int} {seen : List Int} {a : Nat} {e : Tri} (he : l[a]? = some e) (h1 : e.1 ≠ p) : stepW l (some (p, seen)) (a : Int) = none := by
  simp [stepW, he, h1]
theorem stepW_met {l : List Tri} {p : Int} {seen : List Int} {a : Nat} {e : Tri} (he : l[a]? = some e) (h2 : e.2.1 ∈ seen) : stepW l (some (p, seen)) (a : Int) = none := by
  simp [stepW, he, h2]
def ArcIn (l : List Tri) : Prop := ∀ a ∈ l, 0 ≤ a.1 ∧ a.1 < 24 ∧ 0 ≤ a.2.1 ∧ a.2.1 < 24
open Classical in
theorem isWay_wp {W : AW} {v wv : Value} {P : Int} {s t : Nat} {l : List Tri} {way : List Int} (h : TriIn W v l) (hw : IntL W wv way) (hin : ArcIn l) (h200 : l.length ≤ 200) (hs : s < 24) (hwl : way.length < 4611686018427387904) :
    WpF T0 63 [.agg ⟨[.int .i64 P, v]⟩, .int .i64 s, .int .i64 t, wv] W (fun u W' => Ext W W' ∧ u = .bool (decide (isW l s t way))) := by
  obtain ⟨A, c, rfl, hA⟩ := h
  obtain ⟨B, d, hwv⟩ := int_len hw
  have lw : ∀ W', aLen T0 W' 46 wv = some (.int .i64 way.length) := fun W' => by rw [hwv]; exact len_slice und46 _ _ _
  clear hwv
  refine wpF fun63 rfl ?_
  obtain ⟨W1, hW1, hE1, hV1⟩ : ∃ W1, W1 = W.newCells 31 [.int .i64 P, .slice A l.length c] ∧ Ext W W1 ∧ Var W1 W.next 31 [.int .i64 P, .slice A l.length c] := ⟨_, rfl, .newCells _ _ _, Var.new _ _ _⟩
  have l29 : aLoadVar T0 W1 29 W.next 1 = some (.slice A l.length c) := hV1.load1 (T := T0) und29 rfl (j := 1) (v := .slice A l.length c) rfl
  have ln : ∀ W', aLen T0 W' 29 (.slice A l.length c) = some (.int .i64 l.length) := fun W' => len_slice und29 _ _ _
  try simp only [wpK_assoc]
  refine wpK_reg (fun R hR => by simp [← hW1]; exact hR) ?_
  have h1s : (1 <<< s : Nat) < 2 ^ 24 := by rw [Nat.shiftLeft_eq, Nat.one_mul]; exact Nat.pow_lt_pow_right (by omega) hs
  have h54 := one_wp s (by omega) W1
  have hb0 : ∀ q : Nat, (1 <<< s : Nat).testBit q = true ↔ (q : Int) ∈ [(s : Int)] := fun q => by
    rw [Nat.shiftLeft_eq, Nat.one_mul, Nat.testBit_two_pow]
    simp only [decide_eq_true_eq, List.mem_singleton]; omega
  generalize (1 <<< s : Nat) = m0 at h1s h54 hb0
  try simp only [wpK_assoc]
  refine wpK_reg (fun R hR => by
      simp [aEnter, fun54, short_other, aCallV]; rw [callS_none]
      refine (h54).mono ?_
      rintro _ W9 ⟨e9, rfl⟩; subst W9
      simp []; exact hR) ?_
  try simp only [wpK_assoc]
  refine wpK_reg (fun R hR => by simp [lw]; exact hR) ?_
  try simp only [wpK_assoc]
  refine wpK_while (I := fun k A' W' => A'.n = 65 ∧ A'.defers = [] ∧ A'.tmps.get 2 = some (.int .i64 t) ∧ A'.tmps.get 4 = some (.pointer (some ⟨W.next, 0, none⟩)) ∧ A'.tmps.get 16 = some (wv) ∧ A'.tmps.get 17 = some (.int .i64 way.length) ∧ W' = W1 ∧ ∃ (i p m : Nat) (seen : List Int), k = way.length - i ∧ i ≤ way.length ∧ A'.tmps.get 18 = some (.int .i64 (i : Int)) ∧ A'.tmps.get 9 = some (.int .i64 (p : Int)) ∧ A'.tmps.get 10 = some (.int .u64 (m : Int)) ∧ walkW l s (way.take i) = some ((p : Int), seen) ∧ m < 2 ^ 24 ∧ ∀ q : Nat, m.testBit q = true ↔ (q : Int) ∈ seen)
    (J := fun A' W' => A'.n = 65 ∧ A'.defers = [] ∧ A'.tmps.get 2 = some (.int .i64 t) ∧ A'.tmps.get 4 = some (.pointer (some ⟨W.next, 0, none⟩)) ∧ A'.tmps.get 16 = some (wv) ∧ A'.tmps.get 17 = some (.int .i64 way.length) ∧ W' = W1 ∧ ∃ (p : Nat) (seen : List Int), A'.tmps.get 9 = some (.int .i64 (p : Int)) ∧ walkW l s way = some ((p : Int), seen))
    (Rt := fun A' W' => A'.defers = [] ∧ W' = W1 ∧ A'.tmps.get 8 = some (.bool false) ∧ ¬ isW l s t way) (k := way.length) ?_ ?_ ?_ ?_
  · exact ⟨rfl, rfl, by simp, by simp, by simp, by simp, rfl, 0, s, m0, [(s : Int)], rfl, by omega, by simp, by simp, by simp, rfl, h1s, hb0⟩
  · rintro k ⟨tm, n, ds⟩ W2 ⟨hn, hd, h2, h4, h16, h17, e2, i, p, m, seen, hk, hi, h18, h9, h10, hwk, hm, hmb⟩ Q' hJ hRt hI
    simp only at hn hd h2 h4 h16 h17
    subst hn; subst hd
    simp only at h18 h9 h10
    rw [e2]
    try simp only [wpK_assoc]
    refine wpK_reg (fun R hR => by simp [h17, h18]; exact hR) ?_
    by_cases hlt : i < way.length
    case neg =>
      have e : i = way.length := by omega
      rw [e, List.take_length] at hwk
      try simp only [wpK_assoc]
      first | refine wpK_onF (by simp [hlt]) ?_ | refine wpK_out (by simp [hlt]) ?_ | refine wpK_condF (by simp [hlt]) ?_ | refine wpK_endF (by simp [hlt]) (wpK_skip ?_) | refine wpK_endF (by simp [hlt]) ?_
      exact hJ _ _ ⟨rfl, rfl, by simp [h2, h4, h16, h17], by simp [h2, h4, h16, h17], by simp [h2, h4, h16, h17], by simp [h2, h4, h16, h17], rfl, p, seen, by simp [h9], hwk⟩
    try simp only [wpK_assoc]
    first | refine wpK_onT (by simp [hlt]) ?_ | refine wpK_outT (by simp [hlt]) ?_ | refine wpK_condT (by simp [hlt]) ?_ | refine wpK_endT (by simp [hlt]) ?_
    have hx : way[i]? = some way[i] := List.getElem?_eq_getElem hlt
    generalize way[i] = a at hx
    have hwt := walk_take (l := l) (s := (s : Int)) hx
    rw [hwk] at hwt
    obtain ⟨qb, qo, x1, x2⟩ := int_at (hw.ext hE1) hx
    refine wpK_block ?_
    try simp only [wpK_assoc]
    refine wpK_reg (fun R hR => by simp [h16, h18, x1, x2]; exact hR) ?_
    by_cases g1 : a < 0
    · try simp only [wpK_assoc]
      refine wpK_reg (fun R hR => by simp [g1, undef]; exact hR) ?_
      try simp only [wpK_assoc]
      first | refine wpK_onT (by simp []) ?_ | refine wpK_outT (by simp []) ?_ | refine wpK_condT (by simp []) ?_ | refine wpK_endT (by simp []) ?_
      try simp only [wpK_assoc]
      refine wpK_reg (fun R hR => by simp []; exact hR) ?_
      rw [stepW_neg g1] at hwt
      exact wpK_ret (hRt _ _ ⟨rfl, rfl, by simp, isW_no hwt⟩)
    obtain ⟨j, rfl⟩ : ∃ j : Nat, a = j := ⟨a.toNat, by omega⟩
    by_cases g2 : l.length ≤ j
    · have g2' : (l.length : Int) ≤ (j : Int) := by omega
      try simp only [wpK_assoc]
      refine wpK_reg (fun R hR => by simp [h4, g1, g2', l29, ln, undef]; exact hR) ?_
      try simp only [wpK_assoc]
      first | refine wpK_onT (by simp []) ?_ | refine wpK_outT (by simp []) ?_ | refine wpK_condT (by simp []) ?_ | refine wpK_endT (by simp []) ?_
      try simp only [wpK_assoc]
      refine wpK_reg (fun R hR => by simp []; exact hR) ?_
      rw [stepW_far g2] at hwt
      exact wpK_ret (hRt _ _ ⟨rfl, rfl, by simp, isW_no hwt⟩)
    have g2' : ¬ (l.length : Int) ≤ (j : Int) := by omega
    have he : l[j]? = some (l[j]'(by omega)) := List.getElem?_eq_getElem (by omega)
    generalize l[j]'_ = e at he
    obtain ⟨b, o, hAe, q1, q2, q3⟩ := hA j _ he
    have eV := indexAddr_tri (T := T0) und29 sz106 (b := b) (o := o) (c := c) (k := .i64) (show j < l.length by omega)
    rw [← hAe] at eV
    have la1 := load_of und3 rfl (q1.ext hE1)
    have la2 := load_of und3 rfl (q2.ext hE1)
    obtain ⟨i1, i2, i3, i4⟩ := hin e (List.mem_of_getElem? he)
    by_cases g3 : e.1 = (p : Int)
    case neg =>
      try simp only [wpK_assoc]
      refine wpK_reg (fun R hR => by simp [h4, h9, g1, g2', l29, ln, eV, la1, g3, undef]; exact hR) ?_
      try simp only [wpK_assoc]
      first | refine wpK_onT (by simp []) ?_ | refine wpK_outT (by simp []) ?_ | refine wpK_condT (by simp []) ?_ | refine wpK_endT (by simp []) ?_
      try simp only [wpK_assoc]
      refine wpK_reg (fun R hR => by simp []; exact hR) ?_
      rw [stepW_from he g3] at hwt
      exact wpK_ret (hRt _ _ ⟨rfl, rfl, by simp, isW_no hwt⟩)
    obtain ⟨y, hy⟩ : ∃ y : Nat, e.2.1 = y := ⟨e.2.1.toNat, by omega⟩
    rw [hy] at la2 i3 i4
    have h62 := has_wp m y (by omega) (by omega) W1
    have hmy := hmb y
    by_cases g4 : (y : Int) ∈ seen
    · rw [hmy.2 g4] at h62
      try simp only [wpK_assoc]
      refine wpK_reg (fun R hR => by
          simp [h4, h9, h10, g1, g2', l29, ln, eV, la1, la2, g3, aEnter, fun62, short_other, aCallV]; rw [callS_none]
          refine (h62).mono ?_
          rintro _ W9 ⟨e9, rfl⟩; subst W9
          simp [h4, h9, h10, g1, g2', l29, ln, eV, la1, la2, g3]; exact hR) ?_
      try simp only [wpK_assoc]
      first | refine wpK_onT (by simp []) ?_ | refine wpK_outT (by simp []) ?_ | refine wpK_condT (by simp []) ?_ | refine wpK_endT (by simp []) ?_
      try simp only [wpK_assoc]
      refine wpK_reg (fun R hR => by simp []; exact hR) ?_
      rw [stepW_met he (by rw [hy]; exact g4)] at hwt
      exact wpK_ret (hRt _ _ ⟨rfl, rfl, by simp, isW_no hwt⟩)
    have hmy' : m.testBit y = false := by
      cases hb : m.testBit y with
      | false => rfl
      | true => exact absurd (hmy.1 hb) g4
    rw [hmy'] at h62
    try simp only [wpK_assoc]
    refine wpK_reg (fun R hR => by
        simp [h4, h9, h10, g1, g2', l29, ln, eV, la1, la2, g3, aEnter, fun62, short_other, aCallV]; rw [callS_none]
        refine (h62).mono ?_
        rintro _ W9 ⟨e9, rfl⟩; subst W9
        simp [h4, h9, h10, g1, g2', l29, ln, eV, la1, la2, g3]; exact hR) ?_
    try simp only [wpK_assoc]
    first | refine wpK_onF (by simp []) ?_ | refine wpK_out (by simp []) ?_ | refine wpK_condF (by simp []) ?_ | refine wpK_endF (by simp []) (wpK_skip ?_) | refine wpK_endF (by simp []) ?_
    try simp only [wpK_assoc]
    refine wpK_reg (fun R hR => by simp [h4, l29, eV, la2]; exact hR) ?_
    rw [stepW_ok he g3 (by rw [hy]; exact g4), hy] at hwt
    have h1y : (1 <<< y : Nat) < 2 ^ 24 := by rw [Nat.shiftLeft_eq, Nat.one_mul]; exact Nat.pow_lt_pow_right (by omega) (by omega)
    have h54 := one_wp y (by omega) W1
    have hb1 : ∀ q : Nat, (1 <<< y : Nat).testBit q = true ↔ (q : Int) = (y : Int) := fun q => by
      rw [Nat.shiftLeft_eq, Nat.one_mul, Nat.testBit_two_pow]
      simp only [decide_eq_true_eq]; omega
    generalize (1 <<< y : Nat) = my at h1y h54 hb1
    have hor := aBinI_or .u64 m my (by show m < 18446744073709551616; omega) (by show my < 18446744073709551616; omega)
    have hor2 : m ||| my < 2 ^ 24 := Nat.or_lt_two_pow hm h1y
    have hb2 : ∀ q : Nat, (m ||| my).testBit q = true ↔ (q : Int) ∈ seen ++ [(y : Int)] := fun q => by
      rw [Nat.testBit_or, Bool.or_eq_true, hmb q, hb1 q, List.mem_append, List.mem_singleton]
    generalize m ||| my = m2 at hor hor2 hb2
    try simp only [wpK_assoc]
    refine wpK_reg1 (fun R hR => by
        simp [h10, hor, aEnter, fun54, short_other, aCallV]; rw [callS_none]
        refine (h54).mono ?_
        rintro _ W9 ⟨e9, rfl⟩; subst W9
        simp [h10, hor]; exact hR) ?_
    simp only [leaves_normal, behind_normal]
    try simp only [wpK_assoc]
    refine wpK_reg1 (fun R hR => by simp [h18]; exact hR) ?_
    exact hI (way.length - (i + 1)) _ _ (by omega) ⟨rfl, rfl, by simp [h2, h4, h16, h17], by simp [h2, h4, h16, h17], by simp [h2, h4, h16, h17], by simp [h2, h4, h16, h17], rfl, i + 1, y, m2, seen ++ [(y : Int)], rfl, by omega, by simp [i64_succ i (by omega)], by simp, by simp, hwt, hor2, hb2⟩
  · rintro A' W' ⟨hd, e2, h8, hne⟩
    exact ⟨.inr rfl, hd, [.bool false], by simp [h8], by rw [e2]; exact hE1, by rw [decide_eq_false hne]; rfl⟩
  · rintro ⟨tm, n, ds⟩ W2 ⟨hn, hd, h2, h4, h16, h17, e2, p, seen, h9, hwk⟩
    simp only at hn hd h2 h4 h16 h17
    subst hn; subst hd
    simp only at h9
    rw [e2]
    try simp only [wpK_assoc]
    refine wpK_reg (fun R hR => by simp [h9, h2]; exact hR) ?_
    refine wpK_ret ⟨.inr rfl, rfl, [.bool (decide (isW l s t way))], ?_, hE1, rfl⟩
    have : isW l s t way ↔ (p : Int) = (t : Int) := ⟨fun ⟨sn, h⟩ => by rw [hwk] at h; cases h; rfl, fun h => ⟨seen, by rw [hwk, h]⟩⟩
    by_cases e : (p : Int) = (t : Int)
    · simp [e, this.2 e]
    · have hn : ¬ isW l s t way := fun x => e (this.1 x)
      have e' : ¬ p = t := by omega
      simp [hn, e', e]
theorem arc_ok {P : Int} {l : List Tri} (hok : planOk P (arcsQ l) = true) : ArcIn l ∧ l.length ≤ 200 ∧ 2 ≤ P ∧ P ≤ 24 ∧ ∀ a ∈ l, 0 ≤ a.1 ∧ a.1 < P ∧ 0 ≤ a.2.1 ∧ a.2.1 < P ∧ a.1 ≠ a.2.1 ∧ 0 ≤ a.2.2 := by
  simp only [planOk, Bool.and_eq_true, decide_eq_true_eq, List.all_eq_true] at hok
  obtain ⟨⟨⟨h1, h2⟩, h3⟩, h4⟩ := hok
  have key : ∀ a ∈ l, 0 ≤ a.1 ∧ a.1 < P ∧ 0 ≤ a.2.1 ∧ a.2.1 < P ∧ a.1 ≠ a.2.1 ∧ 0 ≤ a.2.2 := fun a ha => by
    have := h4 (a.1, a.2.1, a.2.2, 0) (List.mem_map.2 ⟨a, ha, rfl⟩)
    simp only [okStep, two?, Bool.and_eq_true, decide_eq_true_eq] at this
    obtain ⟨⟨⟨⟨⟨⟨a1, a2⟩, a3⟩, a4⟩, a5⟩, a6⟩, a7⟩ := this
    exact ⟨a1, a2, a3, a4, a5, a6⟩
  refine ⟨fun a ha => ?_, by simpa [arcsQ] using h3, h1, h2, key⟩
  have := key a ha
  omega
open Classical in
noncomputable def usedL (n : Nat) (U : List Int) : List Value := (List.range n).map fun q : Nat => Value.bool (decide ((q : Int) ∈ U))
theorem HeldI.push2 {W0 W : AW} {v : Value} {S : List Int} (h : HeldI W0 W v S) (hn : W0.next ≤ W.next) (hl : S.length ≤ 1000) (x : Int) :
    ∃ v' W', aAppend T0 (W.newCells 3 [.int .i64 x]) [46, 46] [v, .slice (some ⟨W.next, 0, none⟩) 1 2] = some (v', W') ∧ HeldI W0 W' v' (S ++ [x]) ∧ Only (fun b => W0.next ≤ b) W W' := by
  have hE : Ext W (W.newCells 3 [.int .i64 x]) := .newCells _ _ _
  have h1 := HeldN.only (K' := fun _ => False) h hE (fun _ _ _ y => y)
  obtain ⟨v', W', a1, a2, a3, a4⟩ := append_heldN (T := T0) (t := 46) (el := 3) (c := 2) (by omega) und46 inf3 is3 z3' rfl h1 (u := [.int .i64 x]) rfl (newCells_cellsAt W 3 [.int .i64 x] 1 rfl) rfl (by rw [by3']; omega) (by omega)
  refine ⟨v', W', a1, ?_, ?_⟩
  · have e1 : (S ++ [x]).length = S.length + 1 := by simp
    have e2 : intsV (S ++ [x]) = intsV S ++ [.int .i64 x] := by simp [intsV]
    show HeldN W' v' (S ++ [x]).length (intsV (S ++ [x])) 3 1 _
    rw [e1, e2]
    refine a3.mono (fun b hb => ?_)
    rcases hb with hb | hb
    · exact hb
    · rw [newCells_next] at hb; omega
  · refine ⟨by rw [a2, newCells_next]; omega, fun b hb hk => ?_⟩
    rw [a4.2 b (by rw [newCells_next]; omega) hk]
    exact hE.2 b (by omega) (fun y => y)
structure InT (T : Nat) (S : List Int) : Prop where
  nd : S.Nodup
  in_ : ∀ y ∈ S, (0 ≤ y ∧ y < ((24 : Nat) : Int)) ∧ T.testBit y.toNat = true
theorem InT.len {T : Nat} {S : List Int} (h : InT T S) : S.length ≤ 24 := by
  obtain ⟨T', _, h2⟩ := set_of 24 S h.nd (fun y hy => (h.in_ y hy).1)
  rw [← h2]; exact cntB_max T' 24
theorem InT.add {T : Nat} {S : List Int} (h : InT T S) {y : Int} (hn : y ∉ S) (h1 : 0 ≤ y ∧ y < 24) (h2 : T.testBit y.toNat = true) : InT T (S ++ [y]) where
  nd := List.nodup_append.2 ⟨h.nd, by simp, fun a ha b hb e => by rw [List.mem_singleton] at hb; subst hb; subst e; exact hn ha⟩
  in_ z hz := by
    rcases List.mem_append.1 hz with hz | hz
    · exact h.in_ z hz
    · rw [List.mem_singleton] at hz; subst hz; exact ⟨by omega, h2⟩
def Cuts (T : Nat) (l : List Tri) (arcs : List Int) : Prop := ∀ (i : Nat) e, l[i]? = some e → T.testBit e.1.toNat = true → T.testBit e.2.1.toNat = false → (i : Int) ∈ arcs
def onesL (l : List Tri) : List Tri := l.map fun e => (e.1, e.2.1, 1)
def HeldT (W : AW) (v : Value) (S : List Int) (K : Nat → Prop) : Prop :=
  (S = [] ∧ v = .slice none 0 0) ∨ ∃ b c nb kin, v = .slice (some ⟨b, 0, none⟩) S.length 3 ∧ S.length ≤ nb ∧ 0 < nb ∧ K b ∧ b < W.next ∧ W.blocks.get b = some ⟨.cells c nb 3, kin⟩ ∧ (∀ i x, S[i]? = some x → c.get i = some (.int .i64 x)) ∧ ∀ p ∈ kin, K p.1
theorem HeldT.nil (W : AW) (K : Nat → Prop) : HeldT W (.slice none 0 0) [] K := .inl ⟨rfl, rfl⟩
theorem HeldT.only {W W' : AW} {v : Value} {S : List Int} {K K' : Nat → Prop} (h : HeldT W v S K) (ho : Only K' W W') (hd : ∀ b, b < W.next → K b → ¬ K' b) : HeldT W' v S K := by
  rcases h with h | ⟨b, c, nb, kin, h1, h2, h3, h4, h5, h6, h7, h8⟩
  · exact .inl h
  · exact .inr ⟨b, c, nb, kin, h1, h2, h3, h4, Nat.lt_of_lt_of_le h5 ho.1, by rw [ho.2 b h5 (hd b h5 h4)]; exact h6, h7, h8⟩
theorem HeldT.ints {W : AW} {v : Value} {S : List Int} {K : Nat → Prop} (h : HeldT W v S K) : IntL W v S := by
  rcases h with ⟨rfl, rfl⟩ | ⟨b, c, nb, kin, h1, h2, h3, h4, h5, h6, h7, h8⟩
  · exact ⟨none, 0, rfl, fun i x hx => by simp at hx⟩
  · refine ⟨_, _, h1, fun i x hx => ⟨b, 0, rfl, h5, ?_⟩⟩
    have hi : i < nb := by have := (List.getElem?_eq_some_iff.1 hx).1; omega
    simp only [AW.cell, h6, blt_dec, Nat.zero_add, hi, decide_true]
    exact h7 i x hx
theorem HeldT.cut {W : AW} {v : Value} {S : List Int} {K : Nat → Prop} (h : HeldT W v S K) {k : Nat} (hk : k < S.length) :
    ∃ v', aSliceOp T0 W 46 v none (some (.int .i64 (k : Nat))) none = some v' ∧ HeldT W v' (S.take k) K := by
  rcases h with ⟨rfl, rfl⟩ | ⟨b, c, nb, kin, rfl, h2, h3, h4, h5, h6, h7, h8⟩
  · simp at hk
  · have hlen : (S.take k).length = k := by rw [List.length_take]; omega
    refine ⟨.slice (some ⟨b, 0, none⟩) k 3, ?_, .inr ⟨b, c, nb, kin, by rw [hlen], by omega, h3, h4, h5, h6, fun i x hx => ?_, h8⟩⟩
    · have hb : aHi (some (.int .i64 (k : Nat))) S.length (max S.length (W.ext b 0 1)) = some k := by
        show aBound (.int .i64 (Int.ofNat k)) _ = some k
        simp only [aBound, ble_dec, show k ≤ max S.length (W.ext b 0 1) from by omega, decide_true]
      have e1 : 3 % 2 = 1 := rfl
      have e2 : Nat.beq (3 / 2) 1 = true := rfl
      have e3 : Nat.beq (3 % 2) 0 = false := rfl
      have e4 : Nat.beq 0 0 = true := rfl
      simp only [aSliceOp, und46, sz3, e3, e2, hb, aLo, e4, Bool.or_true, Nat.zero_mul, Nat.add_zero, Nat.sub_zero]
    · have hik : i < k := by have := (List.getElem?_eq_some_iff.1 hx).1; omega
      rw [List.getElem?_take_of_lt hik] at hx
      exact h7 i x hx
theorem HeldT.of_grows {W : AW} {v : Value} {S : List Int} {K : Nat → Prop} (h : GrowsN W v S.length (intsV S) 3 1 K) : HeldT W v S K := by
  obtain ⟨h0, ⟨h1, h2⟩ | ⟨b, c, kin, h1, h2, h3, h4, h5, h6, h7⟩⟩ := h
  · exact .inl ⟨List.length_eq_zero_iff.1 h1, h2⟩
  · have hl : (intsV S).length = S.length := by simp [intsV]
    exact .inr ⟨b, c, (intsV S).length, kin, h1, by omega, by omega, h3, h4, h5, fun i x hx => by
      rw [h6 i (by have := (List.getElem?_eq_some_iff.1 hx).1; omega), intsV, List.getElem?_map, hx]; rfl, h7⟩
theorem HeldT.push {W : AW} {v : Value} {S : List Int} {K : Nat → Prop} (h : HeldT W v S K) (hl : S.length ≤ 1000) (x : Int) :
    ∃ v' W' K', aAppend T0 (W.newCells 3 [.int .i64 x]) [46, 46] [v, .slice (some ⟨W.next, 0, none⟩) 1 2] = some (v', W') ∧ HeldT W' v' (S ++ [x]) K' ∧ (∀ b, K' b → K b ∨ (b = W.next + 1 ∧ W.next + 1 < W'.next)) ∧ Only K W W' ∧ W.next + 1 ≤ W'.next := by
  have hE : Ext W (W.newCells 3 [.int .i64 x]) := .newCells _ _ _
  have hx := newCells_cellsAt W 3 [.int .i64 x] 1 rfl
  have fin : GrowsN W v S.length (intsV S) 3 1 K → ∃ v' W' K', aAppend T0 (W.newCells 3 [.int .i64 x]) [46, 46] [v, .slice (some ⟨W.next, 0, none⟩) 1 2] = some (v', W') ∧ HeldT W' v' (S ++ [x]) K' ∧ (∀ b, K' b → K b ∨ (b = W.next + 1 ∧ W.next + 1 < W'.next)) ∧ Only K W W' ∧ W.next + 1 ≤ W'.next := fun hg => by
    obtain ⟨v', W', a1, a2, a3, a4⟩ := append_growsN (T := T0) (t := 46) (el := 3) (c := 2) (by omega) und46 inf3 is3 z3' rfl (hg.only (K' := fun _ => False) hE (fun _ _ _ y => y)) (u := [.int .i64 x]) rfl hx rfl (by rw [by3']; omega) (by omega)
    rw [newCells_next] at a2
    refine ⟨v', W', fun b => K b ∨ b = W.next + 1, a1, HeldT.of_grows ?_, fun b hb => hb.elim .inl (fun e => .inr ⟨e, by omega⟩), ⟨by omega, fun b hb hk => ?_⟩, by omega⟩
    · have e1 : (S ++ [x]).length = S.length + 1 := by simp
      have e2 : intsV (S ++ [x]) = intsV S ++ [.int .i64 x] := by simp [intsV]
      rw [e1, e2]
      exact a3.mono (fun b hb => hb.elim .inl (fun e => .inr (by rw [newCells_next] at e; exact e)))
    · rw [a4.2 b (by rw [newCells_next]; omega) hk]
      exact hE.2 b (by omega) (fun y => y)
  rcases h with ⟨rfl, rfl⟩ | ⟨b, c, nb, kin, rfl, h2, h3, h4, h5, h6, h7, h8⟩
  · exact fin (.nil _ _ _ _)
  · by_cases hlt : S.length < nb
    case neg =>
      have e : nb = S.length := by omega
      subst e
      have hil : (intsV S).length = S.length := by simp [intsV]
      refine fin ⟨by simp [intsV], .inr ⟨b, c, kin, rfl, h3, h4, h5, by rw [hil]; exact h6, fun i hi => ?_, h8⟩⟩
      have hi' : i < S.length := by omega
      rw [h7 i S[i] (List.getElem?_eq_getElem hi'), intsV, List.getElem?_map, List.getElem?_eq_getElem hi']; rfl
    have h6' : (W.newCells 3 [.int .i64 x]).blocks.get b = some ⟨.cells c nb 3, kin⟩ := by rw [hE.2 b h5 (fun y => y)]; exact h6
    refine ⟨.slice (some ⟨b, 0, none⟩) (S.length + 1) 3, ⟨(AW.kill (W.newCells 3 [.int .i64 x]).blocks kin).set b ⟨.cells (c.set S.length (.int .i64 x)) nb 3, []⟩, (W.newCells 3 [.int .i64 x]).next⟩, K, ?_, .inr ⟨b, c.set S.length (.int .i64 x), nb, [], by simp, by simp; omega, h3, h4, by show b < (W.newCells 3 [.int .i64 x]).next; rw [newCells_next]; omega, by rw [Tr.get_set, if_pos rfl], fun i y hi => ?_, by simp⟩, fun d hd => .inl hd, ⟨by show W.next ≤ (W.newCells 3 [.int .i64 x]).next; rw [newCells_next]; omega, fun d hd hk => ?_⟩, by show W.next + 1 ≤ (W.newCells 3 [.int .i64 x]).next; rw [newCells_next]; omega⟩
    · have hhead : aAppend T0 (W.newCells 3 [.int .i64 x]) [46, 46] [.slice (some ⟨b, 0, none⟩) S.length 3, .slice (some ⟨W.next, 0, none⟩) 1 2] = aApp1 (W.newCells 3 [.int .i64 x]) 3 1 Tryd.t3.bytes 1 [.int .i64 x] (.slice (some ⟨b, 0, none⟩) S.length 3) := by
        simp only [aAppend, und46, inf3, is3, z3', notInt, aSrc, Nat.one_mul, hx, acells, List.length_cons, List.length_nil, Nat.beq_refl]
        rfl
      rw [hhead]
      have e1 : (2 * (S.length + 1)) * Tryd.t3.bytes ≤ 281474976710656 := by rw [by3']; omega
      have e2 : S.length + 1 ≤ 4611686018427387904 := by omega
      have e3 : Nat.beq (3 % 2) 0 = false := rfl
      have e4 : Nat.beq (3 / 2) 1 = true := rfl
      have e5 : Nat.blt 0 1 = true := rfl
      have e6 : S.length + 1 ≤ nb := by omega
      simp only [aApp1, ble_dec, e1, e2, decide_true, e3, e4, e5, h6', e6, AW.storeList, Value.oneCell', AW.store, blt_dec, Nat.zero_add, Nat.mul_one, hlt]
    · rw [Tr.get_set]
      by_cases e : i = S.length
      · subst e
        rw [if_pos rfl]
        simp at hi; rw [hi]
      · rw [if_neg e]
        have hi' : i < S.length := by have := (List.getElem?_eq_some_iff.1 hi).1; simp at this; omega
        rw [List.getElem?_append_left hi'] at hi
        exact h7 i y hi
    · show ((AW.kill (W.newCells 3 [.int .i64 x]).blocks kin).set b _).get d = _
      rw [Tr.get_set, if_neg (by rintro rfl; exact hk h4), kill_other (fun p hp (e : p.1 = d) => hk (by rw [← e]; exact h8 p hp))]
      exact hE.2 d hd (fun y => y)
def onesF (F : List Int) : Prop := ∀ f ∈ F, f = 0 ∨ f = 1
theorem net_set (p : Nat) : ∀ (l : List Tri) (F : List Int) (i : Nat) (e : Tri) (f : Int), l[i]? = some e → F[i]? = some f → netZ (l.zip (F.set i 0)) p = netZ (l.zip F) p - net1 p (e, f)
  | [], F, i, e, f, h, _ => by simp at h
  | a :: l, [], i, e, f, _, h => by simp at h
  | a :: l, g :: F, 0, e, f, h1, h2 => by
    simp at h1 h2; subst h1; subst h2
    simp only [List.set_cons_zero, List.zip_cons_cons, netZ, List.map_cons, List.sum_cons, net1]
    split <;> split <;> omega
  | a :: l, g :: F, i + 1, e, f, h1, h2 => by
    simp only [List.getElem?_cons_succ] at h1 h2
    have := net_set p l F i e f h1 h2
    simp only [List.set_cons_succ, List.zip_cons_cons, netZ, List.map_cons, List.sum_cons] at this ⊢
    omega
def Bal (P : Int) (l : List Tri) (F : List Int) (s t p : Nat) (k : Int) : Prop := ∀ q : Nat, (q : Int) < P → q ≠ t → netZ (l.zip F) q = (if q = p then 1 else 0) + (if q = s then k else 0)
theorem Bal.step {P k : Int} {l : List Tri} {F : List Int} {s t p y i : Nat} {e : Tri} (h : Bal P l F s t p k) (he : l[i]? = some e) (hf : F[i]? = some 1) (h1 : e.1 = (p : Int)) (h2 : e.2.1 = (y : Int)) (hne : p ≠ y) : Bal P l (F.set i 0) s t y k := fun q hq ht => by
  rw [net_set q l F i e 1 he hf, h q hq ht]
  simp only [net1, h1, h2]
  have e1 : ((p : Int) = (q : Int)) = (q = p) := propext ⟨fun _ => by omega, fun _ => by omega⟩
  have e2 : ((y : Int) = (q : Int)) = (q = y) := propext ⟨fun _ => by omega, fun _ => by omega⟩
  simp only [e1, e2]
  by_cases a1 : q = p
  · by_cases a2 : q = y
    · omega
    · rw [if_pos a1, if_neg a2]; omega
  · by_cases a2 : q = y
    · rw [if_neg a1, if_pos a2]; omega
    · rw [if_neg a1, if_neg a2]; omega
theorem zero3' : aZero T0 3 = some (.int .i64 0) := by kernel_rfl
theorem tri_of_var {W : AW} {p c : Nat} {L : List Tri} (hV : Var W p 106 (flat3 L)) : TriIn W (.slice (some ⟨p, 0, none⟩) L.length c) L := by
  refine ⟨some ⟨p, 0, none⟩, c, rfl, fun i a hi => ⟨p, 0, rfl, ?_, ?_, ?_⟩⟩
  · exact hV.has (by rw [show 0 + 3 * i = 3 * i + 0 from by omega, flat3_get L i a hi 0 (by omega)]; rfl)
  · exact hV.has (by rw [show 0 + 3 * i + 1 = 3 * i + 1 from by omega, flat3_get L i a hi 1 (by omega)]; rfl)
  · exact hV.has (by rw [show 0 + 3 * i + 2 = 3 * i + 2 from by omega, flat3_get L i a hi 2 (by omega)]; rfl)
def OwnA (W : AW) (u : Value) (n0 : Nat) (L : List Tri) : Prop := (L = [] ∧ u = .slice none 0 0) ∨ (0 < L.length ∧ ∃ p, u = .slice (some ⟨p, 0, none⟩) L.length 7 ∧ n0 ≤ p ∧ Var W p 106 (flat3 L))
theorem OwnA.tri {W : AW} {u : Value} {n0 : Nat} {L : List Tri} (h : OwnA W u n0 L) : TriIn W u L := by
  rcases h with ⟨rfl, rfl⟩ | ⟨_, p, rfl, _, hV⟩
  · exact ⟨none, 0, rfl, fun i x hx => by simp at hx⟩
  · exact tri_of_var hV
theorem OwnA.ext {W W' : AW} {u : Value} {n0 : Nat} {L : List Tri} (h : OwnA W u n0 L) (he : Ext W W') : OwnA W' u n0 L := by
  rcases h with h | ⟨h0, p, h1, h2, hV⟩
  · exact .inl h
  · exact .inr ⟨h0, p, h1, h2, hV.ext he⟩
def capTo (l : List Tri) (i : Nat) : List Tri := onesL (l.take i) ++ l.drop i
theorem z46' : Tryd.t46.zero = some (.slice none 0 0) := by kernel_rfl
theorem by46' : Tryd.t46.bytes = 24 := by kernel_rfl
theorem HeldT.mono {W : AW} {v : Value} {S : List Int} {K K' : Nat → Prop} (h : HeldT W v S K) (hk : ∀ b, K b → K' b) : HeldT W v S K' := by
  rcases h with h | ⟨b, c, nb, kin, h1, h2, h3, h4, h5, h6, h7, h8⟩
  · exact .inl h
  · exact .inr ⟨b, c, nb, kin, h1, h2, h3, hk b h4, h5, h6, h7, fun p hp => hk _ (h8 p hp)⟩
theorem HeldT.len {W : AW} {v : Value} {S : List Int} {K : Nat → Prop} (h : HeldT W v S K) : ∃ A c, v = .slice A S.length c := int_len h.ints
structure WaysG (W0 W : AW) (mv : Value) (ways : List (List Int)) : Prop where
  all : ∃ (KL KR : Nat → Prop) (us : List Value), GrowsN W mv ways.length us 46 1 KL ∧ us.length = ways.length ∧ (∀ (i : Nat) u w, us[i]? = some u → ways[i]? = some w → HeldT W u w KR) ∧ (∀ b, KL b → W0.next ≤ b ∧ b < W.next) ∧ ∀ b, KR b → W0.next ≤ b ∧ b < W.next ∧ ¬ KL b
theorem WaysG.nil (W0 W : AW) : WaysG W0 W (.slice none 0 0) [] := ⟨fun _ => False, fun _ => False, [], .nil _ _ _ _, rfl, fun i u w hu => by simp at hu, fun b h => h.elim, fun b h => h.elim⟩
theorem WaysG.only {W0 W W' : AW} {mv : Value} {ways : List (List Int)} {K' : Nat → Prop} (h : WaysG W0 W mv ways) (ho : Only K' W W') (hk : ∀ b, W0.next ≤ b → b < W.next → ¬ K' b) : WaysG W0 W' mv ways := by
  obtain ⟨KL, KR, us, h1, h2, h3, h4, h5⟩ := h.all
  have hn := ho.1
  exact ⟨KL, KR, us, h1.only ho (fun b hb hx => hk b (h4 b hx).1 hb), h2, fun i u w hu hw => (h3 i u w hu hw).only ho (fun b hb hx => hk b (h5 b hx).1 hb), fun b hb => by have := h4 b hb; omega, fun b hb => by have := h5 b hb; exact ⟨this.1, by omega, this.2.2⟩⟩
theorem WaysG.in_ {W0 W : AW} {mv : Value} {ways : List (List Int)} (h : WaysG W0 W mv ways) : WaysIn W mv ways := by
  obtain ⟨KL, KR, us, h1, h2, h3, h4, h5⟩ := h.all
  obtain ⟨h0, ⟨e0, rfl⟩ | ⟨b, c, kin, rfl, g2, g3, g4, g5, g6, g7⟩⟩ := h1
  · have : ways = [] := List.length_eq_zero_iff.1 e0
    subst this
    exact ⟨none, 0, rfl, fun i l hl => by simp at hl⟩
  · refine ⟨_, _, rfl, fun i w hw => ?_⟩
    have hi := (List.getElem?_eq_some_iff.1 hw).1
    have hu : us[i]? = some (us[i]'(by omega)) := List.getElem?_eq_getElem (by omega)
    refine ⟨b, 0, us[i]'(by omega), rfl, ⟨g4, ?_⟩, (h3 i _ w hu hw).ints⟩
    simp only [AW.cell, g5, blt_dec, Nat.zero_add, show i < us.length from by omega, decide_true]
    rw [g6 i (by omega)]; exact hu
theorem WaysG.push {W0 W Wu : AW} {mv u : Value} {ways : List (List Int)} {w : List Int} {K : Nat → Prop} (h : WaysG W0 Wu mv ways) (hW0 : W0.next ≤ Wu.next) (hu : HeldT Wu u w K) (hK : ∀ b, K b → W0.next ≤ b ∧ b < Wu.next) (hd : ∀ KL : Nat → Prop, (∀ b, KL b → b < W.next) → ∀ b, K b → ¬ KL b) (hold : ∃ (KL KR : Nat → Prop) (us : List Value), GrowsN Wu mv ways.length us 46 1 KL ∧ us.length = ways.length ∧ (∀ (i : Nat) u w, us[i]? = some u → ways[i]? = some w → HeldT Wu u w KR) ∧ (∀ b, KL b → W0.next ≤ b ∧ b < W.next) ∧ ∀ b, KR b → W0.next ≤ b ∧ b < Wu.next ∧ ¬ KL b) (hn : W.next ≤ Wu.next) (hlen : ways.length ≤ 1000) :
    ∃ mv' W', aAppend T0 (Wu.newCells 46 [u]) [49, 49] [mv, .slice (some ⟨Wu.next, 0, none⟩) 1 2] = some (mv', W') ∧ WaysG W0 W' mv' (ways ++ [w]) ∧ Wu.next ≤ W'.next ∧ Only (fun b => W0.next ≤ b) Wu W' := by
  obtain ⟨KL, KR, us, h1, h2, h3, h4, h5⟩ := hold
  obtain ⟨A, c, hue⟩ := hu.len
  have hE : Ext Wu (Wu.newCells 46 [u]) := .newCells _ _ _
  obtain ⟨mv', W', a1, a2, a3, a4⟩ := append_growsN (T := T0) (t := 49) (el := 46) (c := 2) (by omega) und49 inf46 is46 z46' rfl (h1.only (K' := fun _ => False) hE (fun _ _ _ x => x)) (u := [u]) rfl (newCells_cellsAt Wu 46 [u] 1 rfl) (by rw [hue]; rfl) (by rw [by46']; omega) (by omega)
  rw [newCells_next] at a2
  have hO : Only KL Wu W' := ⟨by omega, fun b hb hk => by rw [a4.2 b (by rw [newCells_next]; omega) hk]; exact hE.2 b hb (fun x => x)⟩
  refine ⟨mv', W', a1, ⟨fun b => KL b ∨ b = Wu.next + 1, fun b => KR b ∨ K b, us ++ [u], ?_, by simp [h2], fun i u' w' hu' hw' => ?_, fun b hb => ?_, fun b hb => ?_⟩, by omega, ⟨by omega, fun b hb hk => hO.2 b hb (fun hh => hk (h4 b hh).1)⟩⟩
  · rw [show (ways ++ [w]).length = ways.length + 1 from by simp]
    exact a3.mono (fun b hb => hb.elim .inl (fun e => .inr (by rw [newCells_next] at e; exact e)))
  · by_cases hi : i < ways.length
    · rw [List.getElem?_append_left (by omega)] at hu' hw'
      exact ((h3 i u' w' hu' hw').only hO (fun b hb hx hk => (h5 b hx).2.2 hk)).mono (fun b hb => .inl hb)
    · rw [List.getElem?_append_right (by omega)] at hu' hw'
      have h0 : i - ways.length = 0 := by have := (List.getElem?_eq_some_iff.1 hw').1; simp at this; omega
      rw [h2, h0] at hu'
      rw [h0] at hw'
      cases hu'; cases hw'
      exact (hu.only hO (fun b hb hx hk => hd KL (fun b hb => (h4 b hb).2) b hx hk)).mono (fun b hb => .inr hb)
  · rcases hb with hb | hb
    · have := h4 b hb; omega
    · omega
  · rcases hb with hb | hb
    · have := h5 b hb
      refine ⟨this.1, by omega, fun hh => hh.elim this.2.2 (fun e => by omega)⟩
    · have := hK b hb
      refine ⟨this.1, by omega, fun hh => hh.elim (hd KL (fun b hb => (h4 b hb).2) b hb) (fun e => by omega)⟩
theorem WaysG.push2 {W0 W Wu : AW} {mv u : Value} {ways : List (List Int)} {w : List Int} {K K' : Nat → Prop} (h : WaysG W0 W mv ways) (hW0 : W0.next ≤ W.next) (ho : Only K' W Wu) (hk : ∀ b, W0.next ≤ b → b < W.next → ¬ K' b) (hu : HeldT Wu u w K) (hK : ∀ b, K b → W.next ≤ b ∧ b < Wu.next) (hlen : ways.length ≤ 1000) :
    ∃ mv' W', aAppend T0 (Wu.newCells 46 [u]) [49, 49] [mv, .slice (some ⟨Wu.next, 0, none⟩) 1 2] = some (mv', W') ∧ WaysG W0 W' mv' (ways ++ [w]) ∧ Wu.next ≤ W'.next ∧ Only (fun b => W0.next ≤ b) Wu W' := by
  have h' := h.only ho hk
  obtain ⟨KL, KR, us, h1, h2, h3, h4, h5⟩ := h.all
  have hn := ho.1
  exact WaysG.push (W := W) h' (by omega) hu (fun b hb => by have := hK b hb; omega) (fun KL hKL b hb hh => by have := hK b hb; have := hKL b hh; omega)
    ⟨KL, KR, us, h1.only ho (fun b hb hx => hk b (h4 b hx).1 hb), h2, fun i u w hu hw => (h3 i u w hu hw).only ho (fun b hb hx => hk b (h5 b hx).1 hb), fun b hb => h4 b hb, fun b hb => by have := h5 b hb; exact ⟨this.1, by omega, this.2.2⟩⟩ hn hlen
def outA (S : Nat) (l : List Tri) (i : Nat) : Bool := match l[i]? with
  | some e => S.testBit e.1.toNat && !S.testBit e.2.1.toNat
  | none => false
def arcsTo (S : Nat) (l : List Tri) (n : Nat) : List Int := ((List.range n).filter (outA S l)).map Int.ofNat
theorem ok_ones {P : Int} {l : List Tri} (h : planOk P (arcsQ l) = true) : planOk P (arcsQ (onesL l)) = true := by
  simp only [planOk, Bool.and_eq_true, decide_eq_true_eq, List.all_eq_true] at h ⊢
  obtain ⟨⟨⟨h1, h2⟩, h3⟩, h4⟩ := h
  refine ⟨⟨⟨h1, h2⟩, by simpa [arcsQ, onesL] using h3⟩, fun q hq => ?_⟩
  simp only [arcsQ, onesL, List.map_map, List.mem_map] at hq
  obtain ⟨a, ha, rfl⟩ := hq
  have := h4 (a.1, a.2.1, a.2.2, 0) (List.mem_map.2 ⟨a, ha, rfl⟩)
  simp only [okStep, Bool.and_eq_true, decide_eq_true_eq] at this ⊢
  exact ⟨⟨this.1.1, by simp⟩, by simp⟩
theorem WaysG.base {W0 W1 W : AW} {mv : Value} {ways : List (List Int)} (h : WaysG W1 W mv ways) (hn : W0.next ≤ W1.next) : WaysG W0 W mv ways := by
  obtain ⟨KL, KR, us, h1, h2, h3, h4, h5⟩ := h.all
  exact ⟨KL, KR, us, h1, h2, h3, fun b hb => by have := h4 b hb; omega, fun b hb => by have := h5 b hb; exact ⟨by omega, this.2⟩⟩
theorem WaysG.dup {W0 W : AW} {mv : Value} {ways : List (List Int)} {w : List Int} (h : WaysG W0 W mv ways) (h0 : ways[0]? = some w) (hlen : ways.length ≤ 1000) :
    ∃ u0 b p, aIndexAddr T0 49 mv (.int .i64 0) = some (.pointer (some ⟨b, p, none⟩)) ∧ aLoadVar T0 W 46 b p = some u0 ∧ (∃ A c, u0 = .slice A w.length c) ∧ ∃ mv' W', aAppend T0 (W.newCells 46 [u0]) [49, 49] [mv, .slice (some ⟨W.next, 0, none⟩) 1 2] = some (mv', W') ∧ WaysIn W' mv' (ways ++ [w]) ∧ Only (fun b => W0.next ≤ b) W W' := by
  have hin := h.in_
  obtain ⟨KL, KR, us, h1, h2, h3, h4, h5⟩ := h.all
  have hlt := (List.getElem?_eq_some_iff.1 h0).1
  obtain ⟨u0, b, p, x1, x2, x3, x4⟩ := ways_at hin h0
  have hu0 : us[0]? = some (us[0]'(by omega)) := List.getElem?_eq_getElem (by omega)
  have hue : us[0]'(by omega) = u0 := by
    obtain ⟨hl, ⟨e0, _⟩ | ⟨b', c, kin, rfl, g2, g3, g4, g5, g6, g7⟩⟩ := h1
    · omega
    · have hx := indexAddr_slice (T := T0) und49 sz46 (b := b') (o := 0) (c := 2 * 1 + 1) (k := .i64) hlt
      have x1 : aIndexAddr T0 49 (.slice (some ⟨b', 0, none⟩) ways.length (2 * 1 + 1)) (.int .i64 ((0 : Nat) : Int)) = some (.pointer (some ⟨b, p, none⟩)) := x1
      rw [hx] at x1
      have e := Option.some.inj x1
      injection e with e; have e := Option.some.inj e; injection e with e1 e2 e3
      rw [← e1, ← e2] at x4
      have := x4.2
      simp only [AW.cell, g5, blt_dec, Nat.zero_add, Nat.zero_mul, show 0 < us.length from by omega, decide_true] at this
      rw [g6 0 (by omega), hu0] at this
      exact Option.some.inj this
  rw [hue] at hu0
  have hrow := h3 0 u0 w hu0 h0
  obtain ⟨A, c, hus⟩ := hrow.len
  have hE : Ext W (W.newCells 46 [u0]) := .newCells _ _ _
  obtain ⟨mv', W', a1, a2, a3, a4⟩ := append_growsN (T := T0) (t := 49) (el := 46) (c := 2) (by omega) und49 inf46 is46 z46' rfl (h1.only (K' := fun _ => False) hE (fun _ _ _ x => x)) (u := [u0]) rfl (newCells_cellsAt W 46 [u0] 1 rfl) (by rw [hus]; rfl) (by rw [by46']; omega) (by omega)
  rw [newCells_next] at a2
  have hO : Only KL W W' := ⟨by omega, fun b hb hk => by rw [a4.2 b (by rw [newCells_next]; omega) hk]; exact hE.2 b hb (fun x => x)⟩
  refine ⟨u0, b, p, x1, x2, ⟨A, c, hus⟩, mv', W', a1, ?_, ⟨by omega, fun b hb hk => hO.2 b hb (fun hh => hk (h4 b hh).1)⟩⟩
  have hG : WaysG W0 W' mv' (ways ++ [w]) := ⟨fun b => KL b ∨ b = W.next + 1, KR, us ++ [u0], by
    rw [show (ways ++ [w]).length = ways.length + 1 from by simp]
    exact a3.mono (fun b hb => hb.elim .inl (fun e => .inr (by rw [newCells_next] at e; exact e))), by simp [h2], fun i u' w' hu' hw' => by
    by_cases hi : i < ways.length
    · rw [List.getElem?_append_left (by omega)] at hu' hw'
      exact (h3 i u' w' hu' hw').only hO (fun b hb hx hk => (h5 b hx).2.2 hk)
    · rw [List.getElem?_append_right (by omega)] at hu' hw'
      have h0 : i - ways.length = 0 := by have := (List.getElem?_eq_some_iff.1 hw').1; simp at this; omega
      rw [h2, h0] at hu'
      rw [h0] at hw'
      cases hu'; cases hw'
      exact hrow.only hO (fun b hb hx hk => (h5 b hx).2.2 hk), fun b hb => by
    rcases hb with hb | hb
    · have := h4 b hb; omega
    · have := h1; obtain ⟨_, ⟨e0, _⟩ | ⟨b', _, _, _, _, g3, g4, _⟩⟩ := this
      · omega
      · have := h4 b' g3; omega, fun b hb => by
    have := h5 b hb
    exact ⟨this.1, by omega, fun hh => hh.elim this.2.2 (fun e => by omega)⟩⟩
  exact hG.in_
def WaysS (W : AW) (v : Value) (ll : List (List Int)) : Prop := ∃ A c, v = .slice A ll.length c ∧ ∀ (i : Nat) l, ll[i]? = some l → ∃ b o u, A = some ⟨b, o, none⟩ ∧ W.Has b (o + i) u ∧ IntL W u l ∧ SlOk u l.length

def outF (f : Nat → Bool) (a : Quad) : Int := (if f a.1.toNat && !f a.2.1.toNat then a.2.2.1 else 0) + (if f a.2.1.toNat && !f a.1.toNat then a.2.2.2 else 0)
def capF (f : Nat → Bool) (l : List Quad) : Int := (l.map (outF f)).sum
theorem capF_Q (s : Nat) (l : List Quad) : capF s.testBit l = capQ s l := rfl
def SymQ (l : List Quad) : Prop := ∀ a ∈ l, 0 ≤ a.2.2.1 ∧ a.2.2.2 = a.2.2.1
theorem SymQ.tail {a : Quad} {l : List Quad} (h : SymQ (a :: l)) : SymQ l := fun b hb => h b (List.mem_cons_of_mem _ hb)
theorem outF_not {f : Nat → Bool} {a : Quad} (h : a.2.2.2 = a.2.2.1) : outF (fun y => !f y) a = outF f a := by
  cases h1 : f a.1.toNat <;> cases h2 : f a.2.1.toNat <;> simp [outF, h1, h2, h]
theorem outF_sub {f g : Nat → Bool} {a : Quad} (h1 : 0 ≤ a.2.2.1) (h2 : 0 ≤ a.2.2.2) : outF (fun y => f y || g y) a + outF (fun y => f y && g y) a ≤ outF f a + outF g a := by
  cases e1 : f a.1.toNat <;> cases e2 : g a.1.toNat <;> cases e3 : f a.2.1.toNat <;> cases e4 : g a.2.1.toNat <;> simp [outF, e1, e2, e3, e4] <;> omega
theorem capF_not (f : Nat → Bool) : ∀ l : List Quad, SymQ l → capF (fun y => !f y) l = capF f l
  | [], _ => rfl
  | a :: l, h => by
    have ih := capF_not f l h.tail
    have ha := h a List.mem_cons_self
    simp only [capF, List.map_cons, List.sum_cons] at ih ⊢
    rw [ih, outF_not ha.2]
theorem capF_sub (f g : Nat → Bool) : ∀ l : List Quad, SymQ l → capF (fun y => f y || g y) l + capF (fun y => f y && g y) l ≤ capF f l + capF g l
  | [], _ => by simp [capF]
  | a :: l, h => by
    have ih := capF_sub f g l h.tail
    have ha := h a List.mem_cons_self
    have h1 := outF_sub (f := f) (g := g) ha.1 (by omega)
    simp only [capF, List.map_cons, List.sum_cons] at ih ⊢
    omega
theorem capF_dif (f g : Nat → Bool) (l : List Quad) (h : SymQ l) : capF (fun y => f y && !g y) l + capF (fun y => g y && !f y) l ≤ capF f l + capF g l := by
  have h1 := capF_sub f (fun y => !g y) l h
  have h2 := capF_not (fun y => g y && !f y) l h
  have e : (fun y => !(g y && !f y)) = fun y => f y || !g y := by
    funext y; cases f y <;> cases g y <;> rfl
  rw [e] at h2
  rw [capF_not g l h] at h1
  omega
theorem uncross {l : List Quad} (h : SymQ l) {S X : Nat → Bool} {p q r : Nat} (hp : S p = true) (hq : S q = false) (xp : X p = false) (xq : X q = false) (xr : X r = true) (hX : ∀ f : Nat → Bool, f r = true → f q = false → capF X l ≤ capF f l) :
    ∃ S' : Nat → Bool, S' p = true ∧ S' q = false ∧ capF S' l ≤ capF S l ∧ (∀ y, X y = false → S' y = S y) ∧ ∀ y, X y = true → S' y = S r := by
  cases hr : S r with
  | true =>
    refine ⟨fun y => S y || X y, by simp [hp], by simp [hq, xq], ?_, fun y hy => by simp [hy], fun y hy => by simp [hy]⟩
    have h1 := capF_sub S X l h
    have h2 := hX (fun y => S y && X y) (by simp [hr, xr]) (by simp [hq])
    omega
  | false =>
    refine ⟨fun y => S y && !X y, by simp [hp, xp], by simp [hq], ?_, fun y hy => by simp [hy], fun y hy => by simp [hy]⟩
    have h1 := capF_dif S X l h
    have h2 := hX (fun y => X y && !S y) (by simp [hr, xr]) (by simp [xq])
    omega
structure GH (P : Nat) (l : List Quad) (a : Nat → Nat) (w : Nat → Int) (D : Nat → Nat → Bool) (rk : Nat → Nat) (m : Nat) : Prop where
  m0 : 0 < m
  mP : m ≤ P
  root : a 0 = 0
  lt : ∀ x, x < P → a x < m
  ne : ∀ x, 0 < x → x < P → a x ≠ x
  rank : ∀ x, 0 < x → x < P → rk (a x) < rk x
  all : ∀ y, D 0 y = true
  zero : ∀ x, 0 < x → x < m → D x 0 = false
  eq : ∀ x y, 0 < x → x < m → 0 < y → y < P → D x y = (decide (y = x) || D x (a y))
  val : ∀ x, 0 < x → x < m → capF (D x) l = w x
  min : ∀ x, 0 < x → x < m → ∀ f : Nat → Bool, f x = true → f (a x) = false → w x ≤ capF f l
section
variable {P : Nat} {l : List Quad} {a : Nat → Nat} {w : Nat → Int} {D : Nat → Nat → Bool} {rk : Nat → Nat} {m : Nat}
theorem GH.self (h : GH P l a w D rk m) {x : Nat} (hx : x < m) : D x x = true := by
  by_cases h0 : x = 0
  · subst h0; exact h.all 0
  · have hP := h.mP
    rw [h.eq x x (by omega) hx (by omega) (by omega)]; simp
theorem GH.up (h : GH P l a w D rk m) {x y : Nat} (hx : x < m) (hy : y < P) : D x y = true → rk x ≤ rk y := by
  by_cases hx0 : x = 0
  · subst hx0
    intro _
    induction hn : rk y using Nat.strongRecOn generalizing y with
    | _ n ih =>
      by_cases hy0 : y = 0
      · subst hy0; omega
      · have hr := h.rank y (by omega) hy
        have hP := h.mP
        have := ih (rk (a y)) (by omega) (by have := h.lt y hy; omega) (h.all _) rfl
        omega
  · induction hn : rk y using Nat.strongRecOn generalizing y with
    | _ n ih =>
      intro hD
      by_cases hy0 : y = 0
      · subst hy0; rw [h.zero x (by omega) hx] at hD; cases hD
      · rw [h.eq x y (by omega) hx (by omega) hy] at hD
        simp only [Bool.or_eq_true, decide_eq_true_eq] at hD
        rcases hD with rfl | hD
        · omega
        · have hr := h.rank y (by omega) hy
          have hP := h.mP
          have := ih (rk (a y)) (by omega) (by have := h.lt y hy; omega) rfl hD
          omega
theorem GH.child (h : GH P l a w D rk m) {q y : Nat} (hq : q < m) (hy : y < P) (hD : D q y = true) (hne : y ≠ q) : a y = q ∨ ∃ x, 0 < x ∧ x < m ∧ a x = q ∧ D x y = true := by
  have hP := h.mP
  induction hn : rk y using Nat.strongRecOn generalizing y with
  | _ n ih =>
    by_cases hy0 : y = 0
    · subst hy0
      by_cases hq0 : q = 0
      · exact absurd hq0.symm hne
      · rw [h.zero q (by omega) hq] at hD; cases hD
    · by_cases e : a y = q
      · exact .inl e
      · have hlt := h.lt y hy
        have hD' : D q (a y) = true := by
          by_cases hq0 : q = 0
          · subst hq0; exact h.all _
          · rw [h.eq q y (by omega) hq (by omega) hy] at hD
            simpa [hne] using hD
        have hr := h.rank y (by omega) hy
        rcases ih (rk (a y)) (by omega) (by omega) hD' e rfl with h1 | ⟨x, x1, x2, x3, x4⟩
        · by_cases ha0 : a y = 0
          · rw [ha0, h.root] at h1
            exact absurd (by rw [ha0, h1]) e
          · refine .inr ⟨a y, by omega, hlt, h1, ?_⟩
            rw [h.eq (a y) y (by omega) hlt (by omega) hy, h.self hlt]; simp
        · refine .inr ⟨x, x1, x2, x3, ?_⟩
          rw [h.eq x y x1 x2 (by omega) hy, x4]; simp
theorem GH.apart (h : GH P l a w D rk m) {q x x' y : Nat} (hx : 0 < x ∧ x < m ∧ a x = q) (hx' : 0 < x' ∧ x' < m ∧ a x' = q) (hy : y < P) (h1 : D x y = true) (h2 : D x' y = true) : x = x' := by
  have hP := h.mP
  have nq : ∀ z, 0 < z ∧ z < m ∧ a z = q → D z q = false := fun z hz => by
    cases hd : D z q with
    | false => rfl
    | true =>
      have h3 := h.up hz.2.1 (y := q) (by have := h.lt z (by omega); omega) hd
      have h4 := h.rank z hz.1 (by omega)
      rw [hz.2.2] at h4; omega
  induction hn : rk y using Nat.strongRecOn generalizing y with
  | _ n ih =>
    by_cases hy0 : y = 0
    · subst hy0; rw [h.zero x hx.1 hx.2.1] at h1; cases h1
    · rw [h.eq x y hx.1 hx.2.1 (by omega) hy] at h1
      rw [h.eq x' y hx'.1 hx'.2.1 (by omega) hy] at h2
      simp only [Bool.or_eq_true, decide_eq_true_eq] at h1 h2
      rcases h1 with rfl | h1
      · rcases h2 with h2 | h2
        · exact h2
        · rw [hx.2.2, nq x' hx'] at h2; cases h2
      · rcases h2 with rfl | h2
        · rw [hx'.2.2, nq x hx] at h1; cases h1
        · have hr := h.rank y (by omega) hy
          exact ih (rk (a y)) (by omega) (by have := h.lt y hy; omega) h1 h2 rfl
end
section
variable {P : Nat} {l : List Quad} {a : Nat → Nat} {w : Nat → Int} {D : Nat → Nat → Bool} {rk : Nat → Nat} {m : Nat}
theorem GH.noq (h : GH P l a w D rk m) {z : Nat} (hz : 0 < z ∧ z < m) {y : Nat} (hy : y < P) (hr : rk y < rk z) : D z y = false := by
  cases hd : D z y with
  | false => rfl
  | true => have := h.up hz.2 hy hd; omega
theorem GH.sub (h : GH P l a w D rk m) {q x y : Nat} (hq : q < m) (hx : 0 < x ∧ x < m ∧ a x = q) (hy : y < P) (hD : D x y = true) : D q y = true := by
  have hP := h.mP
  by_cases hq0 : q = 0
  · subst hq0; exact h.all y
  · induction hn : rk y using Nat.strongRecOn generalizing y with
    | _ n ih =>
      by_cases hy0 : y = 0
      · subst hy0; rw [h.zero x hx.1 hx.2.1] at hD; cases hD
      · rw [h.eq q y (by omega) hq (by omega) hy]
        rw [h.eq x y hx.1 hx.2.1 (by omega) hy] at hD
        simp only [Bool.or_eq_true, decide_eq_true_eq] at hD ⊢
        right
        rcases hD with rfl | hD
        · rw [hx.2.2]; exact h.self hq
        · exact ih (rk (a y)) (by have := h.rank y (by omega) hy; omega) (by have := h.lt y hy; omega) hD rfl
theorem GH.beside (h : GH P l a w D rk m) (hl : SymQ l) (hm : m < P) {S : Nat → Bool} (hp : S m = true) (hq : S (a m) = false) : ∀ k, k ≤ m → ∃ z : Nat → Bool, z m = true ∧ z (a m) = false ∧ capF z l ≤ capF S l ∧
    (∀ x, x < k → 0 < x → a x = a m → ∀ y, y < P → D x y = true → z y = S x) ∧ ∀ y, y < P → (∀ x, x < k → 0 < x → a x = a m → D x y = false) → z y = S y
  | 0, _ => ⟨S, hp, hq, Int.le_refl _, fun x hx => by omega, fun y _ _ => rfl⟩
  | k + 1, hk => by
    obtain ⟨z, z1, z2, z3, z4, z5⟩ := h.beside hl hm hp hq k (by omega)
    have hqm := h.lt m hm
    by_cases hc : 0 < k ∧ a k = a m
    · have hrk := h.rank k hc.1 (by omega)
      have hrm := h.rank m h.m0 hm
      have dq : D k (a m) = false := h.noq ⟨hc.1, by omega⟩ (by omega) (by rw [← hc.2]; exact hrk)
      have dm : D k m = false := by
        rw [h.eq k m hc.1 (by omega) h.m0 hm, dq]
        simp; omega
      have dk := h.self (x := k) (by omega)
      have zk : z k = S k := z5 k (by omega) (fun x hx hx0 hxa => by
        cases hd : D x k with
        | false => rfl
        | true => have := h.apart (q := a m) ⟨hx0, by omega, hxa⟩ ⟨hc.1, by omega, hc.2⟩ (by omega) hd dk; omega)
      obtain ⟨z', y1, y2, y3, y4, y5⟩ := uncross hl z1 z2 dm dq dk (fun f f1 f2 => by
        rw [h.val k hc.1 (by omega)]
        exact h.min k hc.1 (by omega) f f1 (by rw [hc.2]; exact f2))
      refine ⟨z', y1, y2, by omega, fun x hx hx0 hxa y hy hd => ?_, fun y hy hall => ?_⟩
      · by_cases e : x = k
        · subst e; rw [y5 y hd, zk]
        · have : D k y = false := by
            cases hd2 : D k y with
            | false => rfl
            | true => exact absurd (h.apart (q := a m) ⟨hx0, by omega, hxa⟩ ⟨hc.1, by omega, hc.2⟩ hy hd hd2) e
          rw [y4 y this]
          exact z4 x (by omega) hx0 hxa y hy hd
      · rw [y4 y (hall k (by omega) hc.1 hc.2)]
        exact z5 y hy (fun x hx => hall x (by omega))
    · refine ⟨z, z1, z2, z3, fun x hx hx0 hxa => ?_, fun y hy hall => z5 y hy (fun x hx => hall x (by omega))⟩
      by_cases e : x = k
      · subst e; exact absurd ⟨hx0, hxa⟩ hc
      · exact z4 x (by omega) hx0 hxa
structure Clean (P : Nat) (l : List Quad) (a : Nat → Nat) (m : Nat) (S z : Nat → Bool) : Prop where
  z1 : z m = true
  z2 : z (a m) = false
  cap : capF z l ≤ capF S l
  z3 : ∀ y, y < P → y ≠ m → a y = a m → z y = S y
  z4 : ∀ y, 0 < y → y < P → y ≠ m → y ≠ a m → a y ≠ a m → z y = z (a y)
  z5 : a m ≠ 0 → z (a (a m)) = S (a (a m)) ∧ z 0 = S (a (a m))
theorem GH.clean (h : GH P l a w D rk m) (hl : SymQ l) (hm : m < P) {S : Nat → Bool} (hp : S m = true) (hq : S (a m) = false) : ∃ z, Clean P l a m S z := by
  have hP := h.mP
  obtain ⟨q, hqe⟩ : ∃ q, q = a m := ⟨_, rfl⟩
  have hqm : q < m := by rw [hqe]; exact h.lt m hm
  have hrm := h.rank m h.m0 hm
  rw [← hqe] at hq hrm
  obtain ⟨z, z1, z2, z3, z4, z5⟩ := h.beside hl hm hp (by rw [← hqe]; exact hq) m (Nat.le_refl _)
  rw [← hqe] at z2
  simp only [← hqe] at z4 z5
  -- what no place beside has
  have out : ∀ y, y < P → D q y = false → ∀ x, x < m → 0 < x → a x = q → D x y = false := fun y hy hd x hx hx0 hxa => by
    cases hd2 : D x y with
    | false => rfl
    | true => rw [h.sub hqm ⟨hx0, hx, hxa⟩ hy hd2] at hd; cases hd
  have leaf : ∀ y, y < P → m ≤ y → ∀ x, x < m → 0 < x → a x = q → a y = q → D x y = false := fun y hy hym x hx hx0 hxa hya => by
    rw [h.eq x y hx0 hx (by omega) hy, hya, h.noq ⟨hx0, hx⟩ (by omega) (by have := h.rank x hx0 (by omega); rw [hxa] at this; exact this)]
    simp; omega
  by_cases hq0 : q = 0
  · refine ⟨z, z1, by rw [← hqe]; exact z2, z3, fun y hy hym hya => ?_, fun y hy0 hy hym hyq hya => ?_, fun hne => absurd (by rw [← hqe]; exact hq0) hne⟩
    · rw [← hqe] at hya
      by_cases hy0 : y = 0
      · subst hy0; rw [← hq0, z2, hq]
      · by_cases hlt : y < m
        · exact z4 y hlt (by omega) hya y hy (h.self hlt)
        · exact z5 y hy (fun x hx hx0 hxa => leaf y hy (by omega) x hx hx0 hxa hya)
    · rw [← hqe] at hyq hya
      have hall : D q y = true := by rw [hq0]; exact h.all y
      rcases h.child hqm hy hall hyq with h1 | ⟨x, x1, x2, x3, x4⟩
      · exact absurd h1 hya
      · have hne : ¬ y = x := fun e => hya (by rw [e]; exact x3)
        have x5 : D x (a y) = true := by
          rw [h.eq x y x1 x2 hy0 hy] at x4; simpa [hne] using x4
        rw [z4 x x2 x1 x3 y hy x4, z4 x x2 x1 x3 (a y) (by have := h.lt y hy; omega) x5]
  · -- the part above
    have hrq := h.rank q (by omega) (by omega)
    have haq := h.lt q (by omega)
    have dqq := h.self hqm
    have dqm : D q m = true := by rw [h.eq q m (by omega) hqm h.m0 hm, ← hqe, dqq]; simp
    have dqa : D q (a q) = false := h.noq ⟨by omega, hqm⟩ (by omega) hrq
    have dq0 := h.zero q (by omega) hqm
    obtain ⟨z', y1, y2, y3, y4, y5⟩ := uncross hl z1 z2 (X := fun y => !D q y) (r := a q) (by simp [dqm]) (by simp [dqq]) (by simp [dqa]) (fun f f1 f2 => by
      rw [capF_not _ l hl, h.val q (by omega) hqm, ← capF_not f l hl]
      exact h.min q (by omega) hqm _ (by simp [f2]) (by simp [f1]))
    have za : z (a q) = S (a q) := z5 (a q) (by omega) (out (a q) (by omega) dqa)
    refine ⟨z', y1, by rw [← hqe]; exact y2, by omega, fun y hy hym hya => ?_, fun y hy0 hy hym hyq hya => ?_, fun _ => ?_⟩
    · rw [← hqe] at hya
      have hy0 : y ≠ 0 := fun e => by rw [e, h.root] at hya; omega
      have dy : D q y = true := by rw [h.eq q y (by omega) hqm (by omega) hy, hya, dqq]; simp
      rw [y4 y (by simp [dy])]
      by_cases hlt : y < m
      · exact z4 y hlt (by omega) hya y hy (h.self hlt)
      · exact z5 y hy (fun x hx hx0 hxa => leaf y hy (by omega) x hx hx0 hxa hya)
    · rw [← hqe] at hyq hya
      have hay := h.lt y hy
      cases dy : D q y with
      | true =>
        rcases h.child hqm hy dy hyq with h1 | ⟨x, x1, x2, x3, x4⟩
        · exact absurd h1 hya
        · have hne : ¬ y = x := fun e => hya (by rw [e]; exact x3)
          have x5 : D x (a y) = true := by
            rw [h.eq x y x1 x2 hy0 hy] at x4; simpa [hne] using x4
          have day := h.sub hqm ⟨x1, x2, x3⟩ (by omega) x5
          rw [y4 y (by simp [dy]), y4 (a y) (by simp [day]), z4 x x2 x1 x3 y hy x4, z4 x x2 x1 x3 (a y) (by omega) x5]
      | false =>
        have day : D q (a y) = false := by
          rw [h.eq q y (by omega) hqm hy0 hy] at dy
          simp only [Bool.or_eq_false_iff] at dy
          exact dy.2
        rw [y5 y (by simp [dy]), y5 (a y) (by simp [day])]
    · rw [← hqe]
      exact ⟨by rw [y5 (a q) (by simp [dqa]), za], by rw [y5 0 (by simp [dq0]), za]⟩
end
section
variable {P : Nat} {l : List Quad} {a : Nat → Nat} {w : Nat → Int} {D : Nat → Nat → Bool} {rk : Nat → Nat} {m : Nat}
theorem GH.moved (h : GH P l a w D rk m) (hl : SymQ l) {S : Nat → Bool} {x : Nat} (hx0 : 0 < x) (hx : x < m) (hxa : a x = a m) (hSx : S x = true) (hq : S (a m) = false) (hmin : ∀ f : Nat → Bool, f m = true → f (a m) = false → capF S l ≤ capF f l) : ∀ f : Nat → Bool, f x = true → f m = false → w x ≤ capF f l := fun f f1 f2 => by
  cases fq : f (a m) with
  | false => exact h.min x hx0 hx f f1 (by rw [hxa]; exact fq)
  | true =>
    have h1 := hmin (fun y => !f y) (by simp [f2]) (by simp [fq])
    rw [capF_not f l hl] at h1
    have h2 := h.min x hx0 hx S hSx (by rw [hxa]; exact hq)
    omega
def aNew (a : Nat → Nat) (S : Nat → Bool) (m : Nat) : Nat → Nat := fun x => if x = m then a m else if S x = true ∧ a x = a m then m else a x
theorem GH.step1 (h : GH P l a w D rk m) (hl : SymQ l) (hm : m < P) {S : Nat → Bool} (hp : S m = true) (hq : S (a m) = false) (hmin : ∀ f : Nat → Bool, f m = true → f (a m) = false → capF S l ≤ capF f l) (hr : S (a (a m)) = false) :
    ∃ D' rk', GH P l (aNew a S m) (fun x => if x = m then capF S l else w x) D' rk' (m + 1) := by
  obtain ⟨z, hz⟩ := h.clean hl hm hp hq
  have hP := h.mP
  have h0 := h.m0
  have hqm := h.lt m hm
  have hrm := h.rank m h0 hm
  obtain ⟨q, hqe⟩ : ∃ q, q = a m := ⟨_, rfl⟩
  have hcap : capF z l = capF S l := by
    have h1 := hz.cap
    have h2 := hmin z hz.z1 hz.z2
    omega
  have aq : aNew a S m q = a q := by
    have e1 : ¬ q = m := by omega
    simp [aNew, e1]
    intro h1 _; rw [hqe, hq] at h1; cases h1
  have aoth : ∀ y, y ≠ m → a y ≠ q → aNew a S m y = a y := fun y h1 h2 => by
    have : ¬ (S y = true ∧ a y = a m) := fun x => h2 (by rw [x.2, hqe])
    simp only [aNew, if_neg h1, if_neg this]
  have amov : ∀ y, y ≠ m → a y = q → S y = true → aNew a S m y = m := fun y h1 h2 h3 => by
    simp only [aNew, if_neg h1]
    rw [if_pos ⟨h3, by rw [h2, hqe]⟩]
  have asta : ∀ y, y ≠ m → a y = q → S y = false → aNew a S m y = q := fun y h1 h2 h3 => by
    have : ¬ (S y = true ∧ a y = a m) := fun x => by rw [h3] at x; cases x.1
    simp only [aNew, if_neg h1, if_neg this]; exact h2
  have am : aNew a S m m = q := by simp [aNew, hqe]
  have z3 := hz.z3
  have z4 := hz.z4
  have z2 := hz.z2
  rw [← hqe] at z2 hqm hrm
  simp only [← hqe] at z3 z4
  have z0 : z 0 = false := by
    by_cases e : q = 0
    · rw [← e]; exact z2
    · rw [(hz.z5 (by rw [← hqe]; exact e)).2]; exact hr
  have zaq : q ≠ 0 → z (a q) = false := fun e => by
    have := (hz.z5 (by rw [← hqe]; exact e)).1
    rw [← hqe] at this hr
    rw [this]; exact hr
  refine ⟨fun x => if x = m then z else D x, fun y => if y ≠ m ∧ z y = true then rk y + rk m + 1 else rk y, ⟨by omega, by omega, ?_, fun x hx => ?_, fun x hx0 hx => ?_, fun y hy0 hy => ?_, fun y => ?_, fun x hx0 hx => ?_, fun x y hx0 hx hy0 hy => ?_, fun x hx0 hx => ?_, fun x hx0 hx => ?_⟩⟩
  · by_cases e : a 0 = q
    · rw [asta 0 (by omega) e (by rw [h.root] at e; rw [e, hqe]; exact hq)]; rw [← e, h.root]
    · rw [aoth 0 (by omega) e, h.root]
  · by_cases e : x = m
    · subst e; rw [am]; omega
    · by_cases e2 : a x = q
      · cases hS : S x with
        | true => rw [amov x e e2 hS]; omega
        | false => rw [asta x e e2 hS]; omega
      · rw [aoth x e e2]; have := h.lt x hx; omega
  · by_cases e : x = m
    · subst e; rw [am]; omega
    · by_cases e2 : a x = q
      · cases hS : S x with
        | true => rw [amov x e e2 hS]; exact fun e3 => e e3.symm
        | false => rw [asta x e e2 hS, ← e2]; exact h.ne x hx0 hx
      · rw [aoth x e e2]; exact h.ne x hx0 hx
  · have hry := h.rank y hy0 hy
    by_cases e : y = m
    · subst e
      rw [am]
      simp [z2]; exact hrm
    · by_cases e2 : a y = q
      · cases hS : S y with
        | true =>
          rw [amov y e e2 hS]
          simp [e, z3 y hy e e2, hS]; omega
        | false =>
          rw [asta y e e2 hS]
          simp [e, z3 y hy e e2, hS, z2]
          rw [← e2]; exact hry
      · rw [aoth y e e2]
        have hay := h.lt y hy
        have e3 : a y ≠ m := by omega
        by_cases e4 : y = q
        · have hzq : z (a y) = false := by rw [e4]; exact zaq (by omega)
          have hzy : z y = false := by rw [e4]; exact z2
          simp [e, e3, hzq, hzy]; exact hry
        · have := z4 y hy0 hy e e4 e2
          rw [← this]
          cases hzy : z y <;> simp [e, e3] <;> omega
  · have : ¬ 0 = m := by omega
    simp only [if_neg this]; exact h.all y
  · by_cases e : x = m
    · simp only [if_pos e]; exact z0
    · simp only [if_neg e]; exact h.zero x hx0 (by omega)
  · by_cases e : x = m
    · subst e
      simp only [if_true]
      by_cases e1 : y = x
      · subst e1; rw [hz.z1]; simp
      · by_cases e2 : a y = q
        · cases hS : S y with
          | true => rw [amov y e1 e2 hS, z3 y hy e1 e2, hS, hz.z1]; simp
          | false => rw [asta y e1 e2 hS, z3 y hy e1 e2, hS, z2]; simp [e1]
        · rw [aoth y e1 e2]
          by_cases e4 : y = q
          · rw [e4, z2, zaq (by omega)]
            have : ¬ q = x := by omega
            simp [this]
          · rw [z4 y hy0 hy e1 e4 e2]; simp [e1]
    · simp only [if_neg e]
      have hxm : x < m := by omega
      rw [h.eq x y hx0 hxm hy0 hy]
      by_cases e1 : y = m
      · subst e1; rw [am, hqe]
      · by_cases e2 : a y = q
        · cases hS : S y with
          | true =>
            rw [amov y e1 e2 hS, e2, h.eq x m hx0 hxm h0 hm, ← hqe]
            have : ¬ m = x := by omega
            simp [this]
          | false => rw [asta y e1 e2 hS, e2]
        · rw [aoth y e1 e2]
  · by_cases e : x = m
    · simp only [if_pos e]; exact hcap
    · simp only [if_neg e]; exact h.val x hx0 (by omega)
  · by_cases e : x = m
    · subst e
      simp only [if_true]
      rw [am]
      intro f f1 f2
      exact hmin f f1 (by rw [← hqe]; exact f2)
    · simp only [if_neg e]
      have hxm : x < m := by omega
      by_cases e2 : a x = q
      · cases hS : S x with
        | true => rw [amov x e e2 hS]; exact h.moved hl hx0 hxm (by rw [e2, hqe]) hS hq hmin
        | false => rw [asta x e e2 hS, ← e2]; exact h.min x hx0 hxm
      · rw [aoth x e e2]; exact h.min x hx0 hxm
def aSwap (a : Nat → Nat) (S : Nat → Bool) (m : Nat) : Nat → Nat := fun x => if x = m then a (a m) else if x = a m then m else if S x = true ∧ a x = a m then m else a x
theorem GH.step2 (h : GH P l a w D rk m) (hl : SymQ l) (hm : m < P) {S : Nat → Bool} (hp : S m = true) (hq : S (a m) = false) (hmin : ∀ f : Nat → Bool, f m = true → f (a m) = false → capF S l ≤ capF f l) (hr : S (a (a m)) = true) :
    ∃ D' rk', GH P l (aSwap a S m) (fun x => if x = m then w (a m) else if x = a m then capF S l else w x) D' rk' (m + 1) := by
  obtain ⟨z, hz⟩ := h.clean hl hm hp hq
  have hP := h.mP
  have h0 := h.m0
  have hqm := h.lt m hm
  have hrm := h.rank m h0 hm
  obtain ⟨q, hqe⟩ : ∃ q, q = a m := ⟨_, rfl⟩
  have hcap : capF z l = capF S l := by
    have h1 := hz.cap
    have h2 := hmin z hz.z1 hz.z2
    omega
  rw [← hqe] at hr hqm hrm
  have hq' : S q = false := by rw [hqe]; exact hq
  have hq0 : 0 < q := by
    by_cases e : q = 0
    · rw [e, h.root, ← e, hq'] at hr; cases hr
    · omega
  have hqP : q < P := by omega
  have haq := h.lt q hqP
  have hrq := h.rank q hq0 hqP
  have hneq := h.ne q hq0 hqP
  have am : aSwap a S m m = a q := by simp [aSwap, hqe]
  have aq : aSwap a S m q = m := by
    have e1 : ¬ q = m := by omega
    simp only [aSwap, if_neg e1]; rw [if_pos hqe]
  have aoth : ∀ y, y ≠ m → y ≠ q → a y ≠ q → aSwap a S m y = a y := fun y h1 h3 h2 => by
    have : ¬ (S y = true ∧ a y = a m) := fun x => h2 (by rw [x.2, hqe])
    have h4 : ¬ y = a m := by rw [← hqe]; exact h3
    simp only [aSwap, if_neg h1, if_neg h4, if_neg this]
  have amov : ∀ y, y ≠ m → a y = q → S y = true → aSwap a S m y = m := fun y h1 h2 h3 => by
    simp only [aSwap, if_neg h1]
    split
    · rfl
    · rw [if_pos ⟨h3, by rw [h2, hqe]⟩]
  have asta : ∀ y, y ≠ m → y ≠ q → a y = q → S y = false → aSwap a S m y = q := fun y h1 h4 h2 h3 => by
    have : ¬ (S y = true ∧ a y = a m) := fun x => by rw [h3] at x; cases x.1
    have h4 : ¬ y = a m := by rw [← hqe]; exact h4
    simp only [aSwap, if_neg h1, if_neg h4, if_neg this]; exact h2
  have z3 := hz.z3
  have z4 := hz.z4
  have z2 := hz.z2
  rw [← hqe] at z2
  simp only [← hqe] at z3 z4
  have hz5 := hz.z5 (by rw [← hqe]; omega)
  rw [← hqe, hr] at hz5
  obtain ⟨zaq, z0⟩ := hz5
  have dqq := h.self hqm
  have dqm : D q m = true := by rw [h.eq q m hq0 hqm h0 hm, ← hqe, dqq]; simp
  have dq0 := h.zero q hq0 hqm
  have dqa : D q (a q) = false := h.noq ⟨hq0, hqm⟩ (by omega) hrq
  have sepq : ∀ f : Nat → Bool, f q = true → f m = false → capF S l ≤ capF f l := fun f f1 f2 => by
    have := hmin (fun y => !f y) (by simp [f2]) (by rw [← hqe]; simp [f1])
    rwa [capF_not f l hl] at this
  refine ⟨fun x => if x = m then D q else if x = q then (fun y => !z y) else D x, fun y => if y = m then rk q else if D q y = true then rk y + 1 else rk y, ⟨by omega, by omega, ?_, fun x hx => ?_, fun x hx0 hx => ?_, fun y hy0 hy => ?_, fun y => ?_, fun x hx0 hx => ?_, fun x y hx0 hx hy0 hy => ?_, fun x hx0 hx => ?_, fun x hx0 hx => ?_⟩⟩
  · rw [aoth 0 (by omega) (by omega) (by rw [h.root]; omega), h.root]
  · by_cases e : x = m
    · subst e; rw [am]; omega
    · by_cases e1 : x = q
      · rw [e1, aq]; omega
      · by_cases e2 : a x = q
        · cases hS : S x with
          | true => rw [amov x e e2 hS]; omega
          | false => rw [asta x e e1 e2 hS]; omega
        · rw [aoth x e e1 e2]; have := h.lt x hx; omega
  · by_cases e : x = m
    · subst e; rw [am]; omega
    · by_cases e1 : x = q
      · rw [e1, aq]; omega
      · by_cases e2 : a x = q
        · cases hS : S x with
          | true => rw [amov x e e2 hS]; exact fun e3 => e e3.symm
          | false => rw [asta x e e1 e2 hS, ← e2]; exact h.ne x hx0 hx
        · rw [aoth x e e1 e2]; exact h.ne x hx0 hx
  · have hry := h.rank y hy0 hy
    have hay := h.lt y hy
    have e3 : ¬ a y = m := by omega
    by_cases e : y = m
    · subst e
      rw [am]
      have e5 : ¬ a q = y := by omega
      simp only [if_neg e5, dqa, if_true, Bool.false_eq_true, if_false]; exact hrq
    · by_cases e1 : y = q
      · rw [e1, aq]
        have e5 : ¬ q = m := by omega
        simp only [if_true, if_neg e5, dqq]; omega
      · have dy := h.eq q y hq0 hqm hy0 hy
        have e6 : decide (y = q) = false := decide_eq_false e1
        rw [e6, Bool.false_or] at dy
        by_cases e2 : a y = q
        · rw [e2, dqq] at dy
          cases hS : S y with
          | true =>
            rw [amov y e e2 hS]
            simp only [if_true, if_neg e, dy]; rw [e2] at hry; omega
          | false =>
            rw [asta y e e1 e2 hS]
            have e5 : ¬ q = m := by omega
            simp only [if_neg e, if_neg e5, dy, dqq, if_true]; rw [e2] at hry; omega
        · rw [aoth y e e1 e2]
          simp only [if_neg e, if_neg e3, dy]
          cases D q (a y) <;> simp <;> omega
  · have e1 : ¬ 0 = m := by omega
    have e2 : ¬ 0 = q := by omega
    simp only [if_neg e1, if_neg e2]; exact h.all y
  · by_cases e : x = m
    · simp only [if_pos e]; exact dq0
    · by_cases e1 : x = q
      · simp only [if_neg e, if_pos e1]; rw [z0]; rfl
      · simp only [if_neg e, if_neg e1]; exact h.zero x hx0 (by omega)
  · by_cases e : x = m
    · subst e
      simp only [if_true]
      by_cases y1 : y = x
      · subst y1; rw [dqm]; simp
      · by_cases y2 : y = q
        · rw [y2, aq, dqq, dqm]; simp
        · have dy := h.eq q y hq0 hqm hy0 hy
          have e6 : decide (y = q) = false := decide_eq_false y2
          rw [e6, Bool.false_or] at dy
          by_cases e2 : a y = q
          · rw [e2, dqq] at dy
            cases hS : S y with
            | true => rw [amov y y1 e2 hS, dy, dqm]; simp
            | false => rw [asta y y1 y2 e2 hS, dy, dqq]; simp
          · rw [aoth y y1 y2 e2, dy]; simp [y1]
    · by_cases e1 : x = q
      · subst e1
        simp only [if_neg e, if_true]
        by_cases y1 : y = m
        · subst y1; rw [am, hz.z1, zaq]; simp; omega
        · by_cases y2 : y = x
          · rw [y2, z2]; simp
          · by_cases e2 : a y = x
            · cases hS : S y with
              | true => rw [amov y y1 e2 hS, z3 y hy y1 e2, hS, hz.z1]; simp [y2]
              | false => rw [asta y y1 y2 e2 hS, z3 y hy y1 e2, hS, z2]; simp
            · rw [aoth y y1 y2 e2, z4 y hy0 hy y1 y2 e2]; simp [y2]
      · simp only [if_neg e, if_neg e1]
        have hxm : x < m := by omega
        have dxm : D x m = D x q := by
          rw [h.eq x m hx0 hxm h0 hm, ← hqe]
          have : ¬ m = x := fun x => e x.symm
          simp [this]
        have dxq : D x q = D x (a q) := by
          rw [h.eq x q hx0 hxm hq0 hqP]
          have : ¬ q = x := fun x => e1 x.symm
          simp [this]
        by_cases y1 : y = m
        · subst y1
          rw [am, dxm, dxq]
          have : ¬ y = x := fun x => e x.symm
          simp [this]
        · by_cases y2 : y = q
          · rw [y2, aq, dxm]
            have : ¬ q = x := fun x => e1 x.symm
            simp [this]
          · rw [h.eq x y hx0 hxm hy0 hy]
            by_cases e2 : a y = q
            · cases hS : S y with
              | true => rw [amov y y1 e2 hS, e2, dxm]
              | false => rw [asta y y1 y2 e2 hS, e2]
            · rw [aoth y y1 y2 e2]
  · by_cases e : x = m
    · simp only [if_pos e]
      rw [h.val q hq0 hqm, hqe]
    · by_cases e1 : x = q
      · have e1' : x = a m := by rw [← hqe]; exact e1
        simp only [if_neg e, if_pos e1, if_pos e1']
        rw [capF_not z l hl, hcap]
      · have e1' : ¬ x = a m := by rw [← hqe]; exact e1
        simp only [if_neg e, if_neg e1, if_neg e1']; exact h.val x hx0 (by omega)
  · by_cases e : x = m
    · subst e
      simp only [if_true]
      rw [am, ← hqe]
      intro f f1 f2
      cases fq : f q with
      | true => exact h.min q hq0 hqm f fq f2
      | false =>
        have h1 := hmin f f1 (by rw [← hqe]; exact fq)
        have h2 := h.min q hq0 hqm (fun y => !S y) (by simp [hq']) (by simp [hr])
        rw [capF_not S l hl] at h2
        omega
    · by_cases e1 : x = q
      · have e1' : x = a m := by rw [← hqe]; exact e1
        simp only [if_neg e, if_pos e1']
        rw [e1, aq]
        exact sepq
      · have e1' : ¬ x = a m := by rw [← hqe]; exact e1
        simp only [if_neg e, if_neg e1']
        have hxm : x < m := by omega
        by_cases e2 : a x = q
        · cases hS : S x with
          | true => rw [amov x e e2 hS]; exact h.moved hl hx0 hxm (by rw [e2, hqe]) hS hq hmin
          | false => rw [asta x e e1 e2 hS, ← e2]; exact h.min x hx0 hxm
        · rw [aoth x e e1 e2]; exact h.min x hx0 hxm
end
theorem capF_congr {f g : Nat → Bool} : ∀ {l : List Quad}, (∀ a ∈ l, f a.1.toNat = g a.1.toNat ∧ f a.2.1.toNat = g a.2.1.toNat) → capF f l = capF g l
  | [], _ => rfl
  | a :: l, h => by
    have ih := capF_congr (fun b hb => h b (List.mem_cons_of_mem _ hb))
    obtain ⟨h1, h2⟩ := h a List.mem_cons_self
    simp only [capF, List.map_cons, List.sum_cons] at ih ⊢
    rw [ih]; simp only [outF, h1, h2]
def treeL (a : Nat → Nat) (w : Nat → Int) (n : Nat) : List Bra := (List.range n).map fun i => (((i + 1 : Nat) : Int), ((a (i + 1) : Nat) : Int), w (i + 1))
theorem treeL_len (a : Nat → Nat) (w : Nat → Int) (n : Nat) : (treeL a w n).length = n := by simp [treeL]
theorem treeL_get {a : Nat → Nat} {w : Nat → Int} {n i : Nat} {e : Bra} (h : (treeL a w n)[i]? = some e) : i < n ∧ e = (((i + 1 : Nat) : Int), ((a (i + 1) : Nat) : Int), w (i + 1)) := by
  have hi : i < n := by have := (List.getElem?_eq_some_iff.1 h).1; rwa [treeL_len] at this
  simp only [treeL, List.getElem?_map, List.getElem?_range hi, Option.map_some, Option.some.injEq] at h
  exact ⟨hi, h.symm⟩
theorem treeL_at {a : Nat → Nat} {w : Nat → Int} {n i : Nat} (hi : i < n) : (treeL a w n)[i]? = some (((i + 1 : Nat) : Int), ((a (i + 1) : Nat) : Int), w (i + 1)) := by
  simp [treeL, List.getElem?_range hi]
theorem Way.trans {l : List Bra} {wo x y z : Int} (h : Way l wo x y) (h' : Way l wo y z) : Way l wo x z := by
  induction h' with
  | here => exact h
  | next _ hj ih => exact .next ih hj
theorem Way.symm {l : List Bra} {wo x y : Int} (h : Way l wo x y) : Way l wo y x := by
  induction h with
  | here => exact .here
  | next _ hj ih => exact (Way.next .here hj.symm).trans ih
section
variable {P : Nat} {l : List Quad} {a : Nat → Nat} {w : Nat → Int} {D : Nat → Nat → Bool} {rk : Nat → Nat}
theorem GH.joined (h : GH P l a w D rk P) {y : Nat} (hy0 : 0 < y) (hy : y < P) {wo : Int} (hw : ((y - 1 : Nat) : Int) ≠ wo) : Joined (treeL a w (P - 1)) wo (a y : Int) (y : Int) := by
  refine ⟨y - 1, _, treeL_at (by omega), hw, .inr ?_⟩
  rw [show y - 1 + 1 = y from by omega]
  exact ⟨rfl, rfl⟩
theorem GH.in_way (h : GH P l a w D rk P) {x y : Nat} (hx0 : 0 < x) (hx : x < P) (hy : y < P) (hD : D x y = true) : Way (treeL a w (P - 1)) ((x - 1 : Nat) : Int) (x : Int) (y : Int) := by
  induction hn : rk y using Nat.strongRecOn generalizing y with
  | _ n ih =>
    by_cases hy0 : y = 0
    · subst hy0; rw [h.zero x hx0 hx] at hD; cases hD
    · by_cases e : y = x
      · subst e; exact .here
      · rw [h.eq x y hx0 hx (by omega) hy] at hD
        have hD : D x (a y) = true := by simpa [e] using hD
        have hr := h.rank y (by omega) hy
        exact .next (ih (rk (a y)) (by omega) (h.lt y hy) hD rfl) (h.joined (by omega) hy (by omega))
theorem GH.out_way (h : GH P l a w D rk P) {x y : Nat} (hx0 : 0 < x) (hx : x < P) (hy : y < P) (hD : D x y = false) : Way (treeL a w (P - 1)) ((x - 1 : Nat) : Int) 0 (y : Int) := by
  induction hn : rk y using Nat.strongRecOn generalizing y with
  | _ n ih =>
    by_cases hy0 : y = 0
    · subst hy0; exact .here
    · rw [h.eq x y hx0 hx (by omega) hy] at hD
      simp only [Bool.or_eq_false_iff, decide_eq_false_iff_not] at hD
      have hr := h.rank y (by omega) hy
      exact .next (ih (rk (a y)) (by omega) (h.lt y hy) hD.2 rfl) (h.joined (by omega) hy (by omega))
theorem GH.spans_way (h : GH P l a w D rk P) {y : Nat} (hy : y < P) : Way (treeL a w (P - 1)) (-1) 0 (y : Int) := by
  induction hn : rk y using Nat.strongRecOn generalizing y with
  | _ n ih =>
    by_cases hy0 : y = 0
    · subst hy0; exact .here
    · have hr := h.rank y (by omega) hy
      exact .next (ih (rk (a y)) (by omega) (h.lt y hy) rfl) (h.joined (by omega) hy (by omega))
theorem GH.side (h : GH P l a w D rk P) {x : Nat} (hx0 : 0 < x) (hx : x < P) {y z : Int} (hw : Way (treeL a w (P - 1)) ((x - 1 : Nat) : Int) y z) : D x y.toNat = D x z.toNat := by
  refine Way.within (T := fun z => D x y.toNat = D x z.toNat) (fun u v hu ⟨j, e, h1, h2, h3⟩ => ?_) rfl hw
  obtain ⟨hj, rfl⟩ := treeL_get h1
  have hne : ¬ j + 1 = x := by omega
  have he := h.eq x (j + 1) hx0 hx (by omega) (by omega)
  have he : D x (j + 1) = D x (a (j + 1)) := by simpa [hne] using he
  rcases h3 with ⟨rfl, rfl⟩ | ⟨rfl, rfl⟩
  · rw [hu]; simp only [Int.toNat_natCast]; exact he
  · rw [hu]; simp only [Int.toNat_natCast]; exact he.symm
theorem GH.brIn (h : GH P l a w D rk P) : BrIn ((treeL a w (P - 1)).length + 1) (treeL a w (P - 1)) := fun e he => by
  obtain ⟨i, hi⟩ := List.mem_iff_getElem?.1 he
  obtain ⟨h1, rfl⟩ := treeL_get hi
  have := h.lt (i + 1) (by omega)
  rw [treeL_len]
  simp only
  omega
theorem GH.joins (h : GH P l a w D rk P) (hP2 : 2 ≤ P) (hP24 : P ≤ 24) : joinsB (treeL a w (P - 1)) := by
  refine ⟨by rw [treeL_len]; omega, by rw [treeL_len]; omega, h.brIn, fun q hq => ?_⟩
  rw [treeL_len] at hq
  exact (reach_way h.brIn (by omega) (Nat.le_refl _) q).2 (h.spans_way (by omega))
theorem GH.reach (h : GH P l a w D rk P) (hP2 : 2 ≤ P) {x q : Nat} (hx0 : 0 < x) (hx : x < P) (hq : q < P) : (roundsB (treeL a w (P - 1)) ((x - 1 : Nat) : Int) (treeL a w (P - 1)).length (1 <<< x)).testBit q = D x q := by
  have hr := reach_way (wo := ((x - 1 : Nat) : Int)) (f := x) h.brIn (by rw [treeL_len]; omega) (Nat.le_refl _) q
  cases hd : D x q with
  | true => exact hr.2 (h.in_way hx0 hx hq hd)
  | false =>
    cases hb : (roundsB (treeL a w (P - 1)) ((x - 1 : Nat) : Int) (treeL a w (P - 1)).length (1 <<< x)).testBit q with
    | false => rfl
    | true =>
      have := h.side hx0 hx (hr.1 hb)
      simp only [Int.toNat_natCast] at this
      rw [hd, h.self hx] at this; cases this
theorem GH.tree (h : GH P l a w D rk P) (hin : PlanIn P l) (hP2 : 2 ≤ P) (hP24 : P ≤ 24) : TreeB P l (treeL a w (P - 1)) := by
  refine ⟨by rw [treeL_len]; omega, h.joins hP2 hP24, fun i e he => ?_⟩
  obtain ⟨hi, rfl⟩ := treeL_get he
  have hx : i + 1 < P := by omega
  have hax := h.lt (i + 1) hx
  have hrk := h.rank (i + 1) (by omega) hx
  have hbit := fun q (hq : q < P) => h.reach hP2 (x := i + 1) (by omega) hx hq
  rw [show i + 1 - 1 = i from rfl] at hbit
  have hcap : capQ (roundsB (treeL a w (P - 1)) (i : Int) (treeL a w (P - 1)).length (1 <<< (i + 1))) l = w (i + 1) := by
    rw [← capF_Q, ← h.val (i + 1) (by omega) hx]
    refine capF_congr (fun b hb => ?_)
    have := hin.step hb
    exact ⟨hbit _ (by omega), hbit _ (by omega)⟩
  refine ⟨w (i + 1), ⟨⟨_, ⟨?_, ?_⟩, hcap⟩, fun T hT => ?_⟩, rfl, ?_⟩
  · simp only [Int.toNat_natCast]; rw [hbit _ hx]; exact h.self hx
  · simp only [Int.toNat_natCast]; rw [hbit _ hax]; exact h.noq ⟨by omega, hx⟩ hax hrk
  · simp only [Int.toNat_natCast] at hT
    rw [← capF_Q]; exact h.min (i + 1) (by omega) hx _ hT.1 hT.2
  · simp only [Int.toNat_natCast]; exact hcap
theorem GH.sep (h : GH P l a w D rk P) {f : Nat → Bool} : ∀ (n s t : Nat), rk s + rk t ≤ n → s < P → t < P → (∀ x, 0 < x → x < P → D x s ≠ D x t → f x = f (a x)) → f s = f t := by
  have h0r : ∀ y, 0 < y → y < P → rk 0 < rk y := fun y hy0 hy => by
    have h1 := h.up h.m0 (y := a y) (by have := h.lt y hy; omega) (h.all _)
    have h2 := h.rank y hy0 hy
    omega
  have key : ∀ (n s t : Nat), (∀ s t, rk s + rk t < n → s < P → t < P → (∀ x, 0 < x → x < P → D x s ≠ D x t → f x = f (a x)) → f s = f t) → rk s + rk t = n → s < P → t < P → s ≠ t → rk t ≤ rk s → (∀ x, 0 < x → x < P → D x s ≠ D x t → f x = f (a x)) → f s = f t := fun n s t ih hn hs ht hne hle hx => by
    have hs0 : 0 < s := by
      by_cases e : s = 0
      · subst e
        have := h0r t (by omega) ht
        omega
      · omega
    have hdt : D s t = false := by
      cases hd : D s t with
      | false => rfl
      | true =>
        by_cases ht0 : t = 0
        · subst ht0; rw [h.zero s hs0 hs] at hd; cases hd
        · rw [h.eq s t hs0 hs (by omega) ht] at hd
          have hts : ¬ t = s := fun e => hne e.symm
          have hd : D s (a t) = true := by simpa [hts] using hd
          have h1 := h.up hs (h.lt t ht) hd
          have h2 := h.rank t (by omega) ht
          omega
    have e1 := hx s hs0 hs (by rw [h.self hs, hdt]; simp)
    have hrs := h.rank s hs0 hs
    rw [e1]
    refine ih (a s) t (by omega) (h.lt s hs) ht (fun x x1 x2 x3 => ?_)
    by_cases e : x = s
    · subst e
      rw [h.noq ⟨hs0, hs⟩ (h.lt x hs) hrs, hdt] at x3; exact absurd rfl x3
    · refine hx x x1 x2 (fun e2 => x3 ?_)
      rw [h.eq x s x1 x2 hs0 hs] at e2
      have : ¬ s = x := fun e3 => e e3.symm
      simpa [this] using e2
  intro n
  induction n using Nat.strongRecOn with
  | _ n ih =>
    intro s t hn hs ht hx
    have ih' : ∀ s' t', rk s' + rk t' < rk s + rk t → s' < P → t' < P → (∀ x, 0 < x → x < P → D x s' ≠ D x t' → f x = f (a x)) → f s' = f t' := fun s' t' h1 h2 h3 h4 => ih (rk s' + rk t') (by omega) s' t' (Nat.le_refl _) h2 h3 h4
    by_cases e : s = t
    · rw [e]
    · by_cases hle : rk t ≤ rk s
      · exact key _ s t ih' rfl hs ht e hle hx
      · refine (key (rk t + rk s) t s (fun s' t' h1 h2 h3 h4 => ih' s' t' (by omega) h2 h3 h4) rfl ht hs (fun e2 => e e2.symm) (by omega) (fun x x1 x2 x3 => hx x x1 x2 (fun e2 => x3 e2.symm))).symm
theorem GH.between (h : GH P l a w D rk P) (hl : SymQ l) (hin : PlanIn P l) (hP2 : 2 ≤ P) {s t : Nat} (hs : s < P) (ht : t < P) {x : Int} (hm : MinW (treeL a w (P - 1)) s t x) : MinCut l s t x := by
  have hway : ∀ y, 0 < y → y < P → (D y s ≠ D y t ↔ ¬ Way (treeL a w (P - 1)) ((y - 1 : Nat) : Int) (s : Int) (t : Int)) := fun y hy0 hy => by
    constructor
    · intro hne hw
      have := h.side hy0 hy hw
      simp only [Int.toNat_natCast] at this
      exact hne this
    · intro hw e
      apply hw
      cases hd : D y s with
      | true => exact (h.in_way hy0 hy hs hd).symm.trans (h.in_way hy0 hy ht (by rw [← e]; exact hd))
      | false => exact (h.out_way hy0 hy hs hd).symm.trans (h.out_way hy0 hy ht (by rw [← e]; exact hd))
  obtain ⟨m1, j, e, m2, m3, m4⟩ := hm
  obtain ⟨hj, rfl⟩ := treeL_get m2
  have hjP : j + 1 < P := by omega
  have hsep := (hway (j + 1) (by omega) hjP).2 m3
  have hbit := fun q (hq : q < P) => h.reach hP2 (x := j + 1) (by omega) hjP hq
  obtain ⟨T0', hT0⟩ : ∃ T, T = roundsB (treeL a w (P - 1)) ((j + 1 - 1 : Nat) : Int) (treeL a w (P - 1)).length (1 <<< (j + 1)) := ⟨_, rfl⟩
  rw [← hT0] at hbit
  have hcap : capF (D (j + 1)) l = x := by rw [h.val (j + 1) (by omega) hjP, m4]
  refine ⟨?_, fun T hT => ?_⟩
  · cases hd : D (j + 1) s with
    | true =>
      have hdt : D (j + 1) t = false := by
        cases hd2 : D (j + 1) t with
        | false => rfl
        | true => rw [hd, hd2] at hsep; exact absurd rfl hsep
      refine ⟨T0', ⟨by rw [hbit s hs]; exact hd, by rw [hbit t ht]; exact hdt⟩, ?_⟩
      rw [← capF_Q, ← hcap]
      exact capF_congr (fun b hb => by have := hin.step hb; exact ⟨hbit _ (by omega), hbit _ (by omega)⟩)
    | false =>
      have hdt : D (j + 1) t = true := by
        cases hd2 : D (j + 1) t with
        | true => rfl
        | false => rw [hd, hd2] at hsep; exact absurd rfl hsep
      have hb2 : ∀ q, q < P → ((2 ^ P - 1) ^^^ (T0' % 2 ^ P)).testBit q = !D (j + 1) q := fun q hq => by
        rw [Nat.testBit_xor, Nat.testBit_two_pow_sub_one, Nat.testBit_mod_two_pow, hbit q hq]; simp [hq]
      refine ⟨_, ⟨by rw [hb2 s hs, hd]; rfl, by rw [hb2 t ht, hdt]; rfl⟩, ?_⟩
      rw [← capF_Q, ← hcap, ← capF_not (D (j + 1)) l hl]
      exact capF_congr (fun b hb => by have := hin.step hb; exact ⟨hb2 _ (by omega), hb2 _ (by omega)⟩)
  · apply Classical.byContradiction
    intro hlt
    have := h.sep (f := T.testBit) (rk s + rk t) s t (Nat.le_refl _) hs ht (fun y hy0 hy hne => by
      apply Classical.byContradiction
      intro hf
      have hw := (hway y hy0 hy).1 hne
      have hx := m1 (y - 1) _ (treeL_at (by omega)) hw
      rw [show y - 1 + 1 = y from by omega] at hx
      simp only at hx
      have hmin := h.min y hy0 hy
      cases f1 : T.testBit y with
      | true =>
        have f2 : T.testBit (a y) = false := by
          cases f2 : T.testBit (a y) with
          | false => rfl
          | true => rw [f1, f2] at hf; exact absurd rfl hf
        have := hmin T.testBit f1 f2
        rw [capF_Q] at this; omega
      | false =>
        have f2 : T.testBit (a y) = true := by
          cases f2 : T.testBit (a y) with
          | true => rfl
          | false => rw [f1, f2] at hf; exact absurd rfl hf
        have := hmin (fun y => !T.testBit y) (by show (!T.testBit y) = true; rw [f1]; rfl) (by show (!T.testBit (a y)) = false; rw [f2]; rfl)
        rw [capF_not _ l hl, capF_Q] at this; omega)
    rw [hT.1, hT.2] at this; cases this
theorem GH.start (P : Nat) (l : List Quad) (hP : 0 < P) : GH P l (fun _ => 0) (fun _ => 0) (fun _ _ => true) (fun y => if y = 0 then 0 else 1) 1 where
  m0 := by omega
  mP := hP
  root := rfl
  lt := fun x _ => by omega
  ne := fun x h _ => by omega
  rank := fun x h _ => by
    have : ¬ x = 0 := by omega
    simp [this]
  all := fun _ => rfl
  zero := fun x h1 h2 => by omega
  eq := fun x y h1 h2 => by omega
  val := fun x h1 h2 => by omega
  min := fun x h1 h2 => by omega
end
def Marks (lo : Nat) : List Deferred → AW → Prop
  | [], _ => True
  | d :: ds, W => ∃ r, d.target = .collected r ∧ lo ≤ r ∧ r < W.next ∧ W.blocks.get r = some ⟨.deferred (some []), []⟩ ∧ (∀ d' ∈ ds, d'.target ≠ .collected r) ∧ Marks lo ds W
theorem Marks.only {lo : Nat} {W W' : AW} {K : Nat → Prop} (he : Only K W W') : ∀ {ds : List Deferred}, Marks lo ds W → (∀ d ∈ ds, ∀ r, d.target = .collected r → lo ≤ r → r < W.next → ¬ K r) → Marks lo ds W'
  | [], _, _ => trivial
  | d :: ds, h, hk => by
    obtain ⟨r, h1, h2, h3, h4, h5, h6⟩ := h
    exact ⟨r, h1, h2, by have := he.1; omega, by rw [he.2 r h3 (hk d (List.mem_cons_self ..) r h1 h2 h3)]; exact h4, h5, h6.only he (fun d' hd => hk d' (List.mem_cons_of_mem _ hd))⟩
theorem Marks.ext {lo : Nat} {W W' : AW} {ds : List Deferred} (h : Marks lo ds W) (he : Ext W W') : Marks lo ds W' := h.only he (fun _ _ _ _ _ _ x => x)
theorem Marks.low {lo : Nat} {W : AW} : ∀ {ds : List Deferred}, Marks lo ds W → ∀ d ∈ ds, ∀ r, d.target = .collected r → r < W.next
  | d :: ds, h, d', hd, r, hr => by
    obtain ⟨r', h1, h2, h3, h4, h5, h6⟩ := h
    cases hd with
    | head => rw [h1] at hr; cases hr; exact h3
    | tail _ hd => exact h6.low d' hd r hr
theorem Marks.above {lo : Nat} {W : AW} : ∀ {ds : List Deferred}, Marks lo ds W → ∀ d ∈ ds, ∀ r, d.target = .collected r → lo ≤ r
  | d :: ds, h, d', hd, r, hr => by
    obtain ⟨r', h1, h2, h3, h4, h5, h6⟩ := h
    cases hd with
    | head => rw [h1] at hr; cases hr; exact h2
    | tail _ hd => exact h6.above d' hd r hr
theorem Marks.collects2 {lo : Nat} : ∀ {ds : List Deferred} {W : AW}, Marks lo ds W → ∃ W', Collects ds W W' ∧ Only (fun b => ∃ d ∈ ds, d.target = .collected b) W W'
  | [], W, _ => ⟨W, rfl, .refl _ _⟩
  | d :: ds, W, h => by
    obtain ⟨r, h1, h2, h3, h4, h5, h6⟩ := h
    have h6' : Marks lo ds (W.setObj r (.deferred none)) := h6.only (setObj_only W r _) (fun d' hd r' hr _ _ e => h5 d' hd (by rw [hr, e]))
    obtain ⟨W', g1, g2⟩ := h6'.collects2
    exact ⟨W', ⟨r, h1, h4, g1⟩, Only.trans (Only.mono (setObj_only W r _) (fun b _ e => ⟨d, List.mem_cons_self .., by rw [e]; exact h1⟩)) (g2.mono (fun b _ ⟨d', hd, e⟩ => ⟨d', List.mem_cons_of_mem _ hd, e⟩))⟩
def arrV (g : Nat → Int) : List Value := (List.range 24).map fun j => .int .i64 (g j)
theorem arrV_len (g : Nat → Int) : (arrV g).length = 24 := by simp [arrV]
theorem arrV_at {j : Nat} (g : Nat → Int) (h : j < 24) : (arrV g)[j]? = some (.int .i64 (g j)) := by
  simp only [arrV, List.getElem?_map, List.getElem?_range h]; rfl
def updI (g : Nat → Int) (j : Nat) (x : Int) : Nat → Int := fun i => if i = j then x else g i
theorem arrV_set {j : Nat} (g : Nat → Int) (x : Int) : (arrV g).set j (.int .i64 x) = arrV (updI g j x) := by
  apply List.ext_getElem?
  intro i
  rw [List.getElem?_set]
  by_cases hi : i < 24
  · rw [arrV_at _ hi, arrV_at _ hi, arrV_len]
    by_cases e : j = i
    · subst e; rw [if_pos rfl, if_pos hi]; simp [updI]
    · rw [if_neg e]; simp only [updI, if_neg (Ne.symm e)]
  · rw [List.getElem?_eq_none (by rw [arrV_len]; omega), List.getElem?_eq_none (by rw [arrV_len]; omega)]
    split
    · rw [arrV_len, if_neg (by omega)]
    · rfl
def ArrAt (W : AW) (b ty : Nat) (g : Nat → Int) : Prop := Var W b ty (arrV g)
theorem ArrAt.put {W : AW} {b ty : Nat} {g : Nat → Int} (h : ArrAt W b ty g) {t : TypeId} {i : TypeInfo} (hi : T0.info.get t = some i) (hs : i.size = 1) {j : Nat} (hj : j < 24) (x : Int) : ∃ W', aStoreVar T0 W t b j (.int .i64 x) = some W' ∧ W'.next = W.next ∧ Only (fun c => c = b) W W' ∧ ArrAt W' b ty (updI g j x) := by
  obtain ⟨W', g1, g2, g3, g4⟩ := Var.store h (T := T0) (t := t) (v := .int .i64 x) (o := j) hi (by rw [hs]; rfl) (by rw [arrV_len]; show j + 1 ≤ 24; omega) rfl
  refine ⟨W', g1, g2, g3, ?_⟩
  have e : (arrV g).take j ++ acells (.int .i64 x) ++ (arrV g).drop (j + (acells (.int .i64 x)).length) = (arrV g).set j (.int .i64 x) := by
    rw [List.set_eq_take_append_cons_drop, if_pos (by rw [arrV_len]; omega)]
    simp [acells]
  rw [e, arrV_set] at g4; exact g4
theorem ArrAt.load3 {W : AW} {b ty : Nat} {g : Nat → Int} (h : ArrAt W b ty g) {j : Nat} (hj : j < 24) : aLoadVar T0 W 3 b j = some (.int .i64 (g j)) := Var.load1 h (T := T0) und3 rfl (arrV_at g hj)
theorem ArrAt.load2 {W : AW} {b ty : Nat} {g : Nat → Int} (h : ArrAt W b ty g) {j : Nat} (hj : j < 24) : aLoadVar T0 W 2 b j = some (.int .i64 (g j)) := Var.load1 h (T := T0) und2 rfl (arrV_at g hj)
def castF (f : Nat → Nat) : Nat → Int := fun j => ((f j : Nat) : Int)
theorem arr_zero3 : rep [.int .i64 0] 24 = arrV (castF fun _ => 0) := by kernel_rfl
theorem arr_zero2 : intsV (zeros24) = arrV (fun _ => 0) := by kernel_rfl
def updF (g : Nat → Nat) (j x : Nat) : Nat → Nat := fun i => if i = j then x else g i
theorem updI_cast (f : Nat → Nat) (j x : Nat) : updI (castF f) j ((x : Nat) : Int) = castF (updF f j x) := by
  funext i; unfold updI castF updF; split <;> rfl
def midA (a : Nat → Nat) (q m S left : Nat) : Nat → Nat := fun j => if (S.testBit j && !left.testBit j && decide (a j = q)) = true then m else a j
theorem midA_all (a : Nat → Nat) (q m S : Nat) : midA a q m S S = a := by
  funext j; unfold midA; cases S.testBit j <;> simp
theorem midA_at {a : Nat → Nat} {q m S left k : Nat} (hk : left.testBit k = true) : midA a q m S left k = a k := by
  unfold midA; rw [hk]; simp
theorem midA_step {a : Nat → Nat} {q m S left k : Nat} (hS : S.testBit k = true) (hk : left.testBit k = true) (hlow : ∀ j, j < k → left.testBit j = false) : midA a q m S (dropLow left) = if a k = q then updF (midA a q m S left) k m else midA a q m S left := by
  funext j
  by_cases e : j = k
  · subst e
    by_cases hq : a j = q
    · rw [if_pos hq]
      unfold midA updF
      rw [dropLow_bit hk hlow]; simp [-testBit_dec, hS, hq]
    · rw [if_neg hq]
      unfold midA
      simp [hq]
  · have h1 : midA a q m S (dropLow left) j = midA a q m S left j := by
      unfold midA; rw [dropLow_bit hk hlow]; simp [e]
    rw [h1]; split
    · unfold updF; rw [if_neg e]
    · rfl
theorem midA_done {a : Nat → Nat} {m S S' : Nat} (h : ∀ j, S'.testBit j = (S.testBit j && decide (j ≠ m))) : midA a (a m) m S' 0 = aNew a S.testBit m := by
  funext j
  unfold midA aNew
  rw [h]
  by_cases e : j = m
  · subst e; simp
  · rw [if_neg e]
    cases S.testBit j <;> simp [e]
theorem swap_done {a : Nat → Nat} {S : Nat → Bool} {m : Nat} (hne : a m ≠ m) : updF (updF (aNew a S m) m (a (a m))) (a m) m = aSwap a S m := by
  funext x
  unfold updF aSwap aNew
  by_cases e1 : x = m
  · subst e1; rw [if_neg (Ne.symm hne)]; simp
  · by_cases e2 : x = a m
    · subst e2; simp [hne]
    · simp [e1, e2]
theorem links_sym {P : Int} {l : List Tri} (h : planOk P (arcsQ l) = true) : SymQ (linksQ l) := fun a ha => by
  have hin := (links_in h).step ha
  simp only [linksQ, List.mem_map] at ha
  obtain ⟨b, hb, rfl⟩ := ha
  simp only at hin ⊢
  obtain ⟨_, _, _, _, _, h1, _⟩ := hin
  exact ⟨h1, trivial⟩
theorem cut_all {P : Nat} {L : List Quad} (hin : PlanIn P L) (hP24 : P ≤ 24) {s t : Nat} (hs : s < P) (ht : t < P) {x : Int} {S : Nat} (hx : x = capQ S L) (hm : ∀ T : Nat, T.testBit s = true → T.testBit t = false → x ≤ capQ T L) : ∀ f : Nat → Bool, f s = true → f t = false → capF S.testBit L ≤ capF f L := fun f f1 f2 => by
  have hb := fun q => nearS_bit (fun q => if f q = true then 1 else 0) q 24
  have hb2 : ∀ q, q < 24 → (nearS (fun q => if f q = true then 1 else 0) 24).testBit q = f q := fun q hq => by
    rw [hb, decide_eq_true hq, Bool.true_and]
    cases f q <;> simp
  have h1 := hm _ (by rw [hb2 s (by omega)]; exact f1) (by rw [hb2 t (by omega)]; exact f2)
  rw [capF_Q, ← hx]
  refine Int.le_trans h1 (Int.le_of_eq ?_)
  rw [← capF_Q]
  refine capF_congr (fun a ha => ?_)
  have := hin.step ha
  exact ⟨hb2 _ (by omega), hb2 _ (by omega)⟩
theorem build66t (x y z : Int) : aBuild T0 66 [(0, .int .i64 x), (1, .int .i64 y), (2, .int .i64 z)] = some (.agg ⟨[.int .i64 x, .int .i64 y, .int .i64 z]⟩) := by kernel_rfl
theorem flt_bs59 {ρ : Operand → Option Value} {o : Operand} {x y z : Int} (h : ρ o = some (.agg ⟨[.int .i64 x, .int .i64 y, .int .i64 z]⟩)) : aFlt T0 ρ (.buildSlice 59 1 #[(0, o)]) = some ⟨66, [.int .i64 x, .int .i64 y, .int .i64 z], false, 1, 1⟩ := by
  have hp : aParts ρ [(0, o)] = some [(0, .agg ⟨[.int .i64 x, .int .i64 y, .int .i64 z]⟩)] := by simp [aParts, h]
  have hf : aFill (fun j => some (j * 3, 3)) (rep [.int .i64 0, .int .i64 0, .int .i64 0] 1) [(0, .agg ⟨[.int .i64 x, .int .i64 y, .int .i64 z]⟩)] = some [.int .i64 x, .int .i64 y, .int .i64 z] := by kernel_rfl
  simp only [aFlt, hp, und59, inf66, z66, is66, acells]
  rw [show Nat.ble (1 * 3) 16777216 = true from rfl]
  simp only [List.length_cons, List.length_nil, Nat.beq_refl]
  rw [hf]
theorem tree_wp {W : AW} {v : Value} {P : Nat} {lk : List Tri} (h : TriIn W v lk) (hok : planOk P (arcsQ lk) = true) (hT : tabsIn T0 T0.tabs W = true) (h0 : 0 < W.next) :
    WpF T0 27 [.agg ⟨[.int .i64 P, v]⟩] W (fun u W' => Ext W W' ∧ ∃ lv a w D rk, u = .tuple ⟨[lv, .int .i64 0]⟩ ∧ GH P (linksQ lk) a w D rk P ∧ TriIn W' lv (treeL a w (P - 1))) := by
  have hPin := links_in hok
  have hsym := links_sym hok
  obtain ⟨hP2, hP24, _⟩ := hPin.size
  refine wpFd fun27 rfl ?_
  obtain ⟨W0, hW0, hE0, hV0, hn0⟩ : ∃ W0, W0 = W.newCells 35 [.int .i64 P, v] ∧ Ext W W0 ∧ Var W0 W.next 35 [.int .i64 P, v] ∧ W0.next = W.next + 1 := ⟨_, rfl, .newCells _ _ _, Var.new _ _ _, rfl⟩
  have hN := boardPlan (P := (P : Int)) (h.ext hE0)
  have hc := check_wp hN
  rw [chk, planOk_links, hok] at hc
  have l350 := load35 hV0
  try simp only [wpK_assoc]
  refine wpK_reg (fun R hR => by simp [← hW0]; exact hR) ?_
  try simp only [wpK_assoc]
  refine wpK_x0 (fun R hR => by
      simp [l350, opMI35, -opMakeInterface, aEnter, fun51, short_other, aCallV]; rw [callS_none]
      refine (hc).mono ?_
      rintro _ W1 ⟨e1, rfl⟩
      simp [l350, opMI35, -opMakeInterface]; exact hR W1 e1) ?_
  rintro W1 e1
  try simp only [wpK_assoc]
  refine wpK_reg (fun R hR => by simp []; exact hR) ?_
  try simp only [wpK_assoc]
  first | refine wpK_onF (by simp []) ?_ | refine wpK_out (by simp []) ?_ | refine wpK_condF (by simp []) ?_ | refine wpK_endF (by simp []) (wpK_skip ?_) | refine wpK_endF (by simp []) ?_
  obtain ⟨W2, hW2, hE2, hA2, hn2⟩ : ∃ W2, W2 = W1.newCells 132 (rep [.int .i64 0] 24) ∧ Ext W1 W2 ∧ ArrAt W2 W1.next 132 (castF fun _ => 0) ∧ W2.next = W1.next + 1 := ⟨_, rfl, .newCells _ _ _, by have e := arr_zero3; rw [ArrAt, ← e]; exact Var.new _ _ _, rfl⟩
  try simp only [wpK_assoc]
  refine wpK_reg (fun R hR => by simp [zero132, ← hW2]; exact hR) ?_
  obtain ⟨W3, hW3, hE3, hA3, hn3⟩ : ∃ W3, W3 = W2.newCells 126 (intsV (zeros24)) ∧ Ext W2 W3 ∧ ArrAt W3 W2.next 126 (fun _ => 0) ∧ W3.next = W2.next + 1 := ⟨_, rfl, .newCells _ _ _, by have e := arr_zero2; rw [ArrAt, ← e]; exact Var.new _ _ _, rfl⟩
  try simp only [wpK_assoc]
  refine wpK_reg (fun R hR => by simp [zero126, ← hW3]; exact hR) ?_
  obtain ⟨W4, s1, s2, hE4, hV4⟩ := storeVar_new (T := T0) (W := W3) (t := 3) (z := [.int .i64 0]) (v := .int .i64 1) inf3 (by rw [is3]; rfl) (by rw [is3]; rfl) rfl
  have hV4 : Var W4 W3.next 3 [.int .i64 (1 : Nat)] := hV4
  try simp only [wpK_assoc]
  refine wpK_reg (fun R hR => by simp [zero3', s1]; exact hR) ?_
  obtain ⟨p5, hp5⟩ : ∃ p5, p5 = W1.next := ⟨_, rfl⟩
  rw [← hp5] at hA2 hn2
  have e01 := e1.1
  have hE01 := hE0.trans e1
  have hV1 := hV0.ext e1
  have hW3n : W3.next = p5 + 2 := by omega
  rw [hn2, ← hn2] at hA3
  rw [hW3n] at hV4 s2
  rw [hn2] at hA3
  have hA24 : ArrAt W4 p5 132 (castF fun _ => 0) := Var.ext (Var.ext hA2 hE3) hE4
  have hA34 : ArrAt W4 (p5 + 1) 126 (fun _ => 0) := Var.ext hA3 hE4
  have hO14 : Only (fun b => p5 ≤ b) W1 W4 := ((hE2.trans hE3).trans hE4).mono (fun _ _ x => x.elim)
  have xt : ∀ {W'}, Only (fun b => p5 ≤ b) W1 W' → Ext W W' := fun {W'} ho => ⟨by have := ho.1; omega, fun b hb _ => by rw [ho.2 b (by omega) (by omega)]; exact hE01.2 b hb (fun x => x)⟩
  have l35 : ∀ {W'}, Only (fun b => p5 ≤ b) W1 W' → aLoadVar T0 W' 35 W.next 0 = some (.agg ⟨[.int .i64 P, v]⟩) := fun ho => load35 (hV1.only ho (by omega))
  have lP : ∀ {W'}, Only (fun b => p5 ≤ b) W1 W' → aLoadVar T0 W' 3 W.next 0 = some (.int .i64 P) := fun ho => (hV1.only ho (by omega)).load1 (T := T0) und3 rfl (j := 0) (v := .int .i64 P) rfl
  clear s1 hW0 hW2 hW3
  obtain ⟨L, hL⟩ : ∃ L, L = linksQ lk := ⟨_, rfl⟩
  rw [← hL] at hPin hsym ⊢
  try simp only [wpK_assoc]
  refine wpK_while (I := fun q A' W' => A'.n = 94 ∧ A'.tmps.get 1 = some (.pointer (some ⟨W.next, 0, none⟩)) ∧ A'.tmps.get 5 = some (.pointer (some ⟨p5, 0, none⟩)) ∧ A'.tmps.get 6 = some (.pointer (some ⟨p5 + 1, 0, none⟩)) ∧ Marks (p5 + 2) A'.defers W' ∧ Only (fun b => p5 ≤ b) W1 W' ∧
      ∃ (m b7 : Nat) (a : Nat → Nat) (w : Nat → Int) (D : Nat → Nat → Bool) (rk : Nat → Nat), A'.tmps.get 7 = some (.pointer (some ⟨b7, 0, none⟩)) ∧ q = P - m ∧ p5 + 2 ≤ b7 ∧ Var W' b7 3 [.int .i64 (m : Nat)] ∧ ArrAt W' p5 132 (castF a) ∧ ArrAt W' (p5 + 1) 126 w ∧ GH P L a w D rk m)
    (J := fun A' W' => A'.n = 94 ∧ A'.tmps.get 1 = some (.pointer (some ⟨W.next, 0, none⟩)) ∧ A'.tmps.get 5 = some (.pointer (some ⟨p5, 0, none⟩)) ∧ A'.tmps.get 6 = some (.pointer (some ⟨p5 + 1, 0, none⟩)) ∧ Marks (p5 + 2) A'.defers W' ∧ Only (fun b => p5 ≤ b) W1 W' ∧
      ∃ (a : Nat → Nat) (w : Nat → Int) (D : Nat → Nat → Bool) (rk : Nat → Nat), ArrAt W' p5 132 (castF a) ∧ ArrAt W' (p5 + 1) 126 w ∧ GH P L a w D rk P) (Rt := fun _ _ => False) (k := P - 1) ?_ ?_ ?_ ?_
  · exact ⟨rfl, by simp, by simp [hp5], by simp [hn2, hp5], trivial, hO14, 1, p5 + 2, _, _, _, _, by simp [hW3n], rfl, by omega, hV4, hA24, hA34, GH.start P L (by omega)⟩
  · rintro q ⟨tm, n', ds⟩ We ⟨hn', h1, h5, h6, hMk, hOe, m, b7, a, w, D, rk, h7, hq, hb7, hVe, hAe, hBe, hG⟩ Q' hJ hRt hI
    simp only at hn' h1 h5 h6 hMk h7
    subst hn'
    have ne := hOe.1
    have hm0 := hG.m0
    have hmP := hG.mP
    have lm := hVe.load1 (T := T0) und3 rfl (j := 0) (v := .int .i64 (m : Nat)) rfl
    have lPe := lP hOe
    by_cases hlt : m < P
    case neg =>
      have hie : m = P := by omega
      subst hie
      try simp only [wpK_assoc]
      refine wpK_reg (fun R hR => by simp [h1, h7, lm, lPe]; exact hR) ?_
      try simp only [wpK_assoc]
      first | refine wpK_onF (by simp []) ?_ | refine wpK_out (by simp []) ?_ | refine wpK_condF (by simp []) ?_ | refine wpK_endF (by simp []) (wpK_skip ?_) | refine wpK_endF (by simp []) ?_
      exact hJ _ _ ⟨rfl, by simp [h1], by simp [h5], by simp [h6], hMk, hOe, a, w, D, rk, hAe, hBe, hG⟩
    have hlt' : (m : Int) < P := by omega
    try simp only [wpK_assoc]
    refine wpK_reg (fun R hR => by simp [h1, h7, lm, lPe, hlt']; exact hR) ?_
    try simp only [wpK_assoc]
    first | refine wpK_onT (by simp [hlt]) ?_ | refine wpK_outT (by simp [hlt]) ?_ | refine wpK_condT (by simp [hlt]) ?_ | refine wpK_endT (by simp [hlt]) ?_
    refine wpK_block ?_
    have ham := hG.lt m hlt
    have hane := hG.ne m hm0 hlt
    have ixm := ix132 p5 0 m (by omega)
    have lam := hAe.load3 (j := m) (by omega)
    obtain ⟨Wf, f1, f2, hEf, hVf⟩ := storeVar_new (T := T0) (W := We) (t := 3) (z := [.int .i64 0]) (v := .int .i64 (castF a m)) inf3 (by rw [is3]; rfl) (by rw [is3]; rfl) rfl
    have hVf : Var Wf We.next 3 [.int .i64 (castF a m)] := hVf
    obtain ⟨b8, hb8⟩ : ∃ b8, b8 = We.next := ⟨_, rfl⟩
    rw [Nat.zero_add] at ixm
    try simp only [wpK_assoc]
    refine wpK_reg (fun R hR => by simp [h5, h7, lm, ixm, lam, zero3', f1]; exact hR) ?_
    rw [← hb8] at hVf
    have nf := hEf.1
    have hOf : Only (fun b => p5 ≤ b) W1 Wf := hOe.trans (hEf.mono (fun _ _ x => x.elim))
    have hcst : castF a m = ((a m : Nat) : Int) := rfl
    have lm1 := (hVe.ext hEf).load1 (T := T0) und3 rfl (j := 0) (v := .int .i64 (m : Nat)) rfl
    have lq1 := hVf.load1 (T := T0) und3 rfl (j := 0) (v := .int .i64 (castF a m)) rfl
    rw [hcst] at lq1
    have hNf := boardPlan (P := (P : Int)) (h.ext (xt hOf))
    rw [← hL] at hNf
    have htwo : two? (m : Nat) (a m : Nat) P = true := by
      simp only [two?, Bool.and_eq_true, decide_eq_true_eq]; omega
    have hcut := firstCut_wp hNf hPin htwo (tabs_ext hT h0 (xt hOf)) (by omega)
    have hl35f := l35 hOf
    try simp only [wpK_assoc]
    refine wpK_x3 (P := fun (x : Int) (rm : Nat → Int) (lv : Nat → Nat) Wg => Ext Wf Wg ∧ Filled (layL (1 <<< m) m L) m (a m) (hCap (layL (1 <<< m) m L)) x rm lv) (fun R hR => by
      simp [h1, h7, lm1, lq1, ← hb8, hl35f, opMI35, -opMakeInterface, aEnter, fun57, short_other, aCallV]; rw [callS_none]
      refine hcut.mono ?_
      rintro _ Wg ⟨hE, x, rm, lv, rfl, hF⟩
      simp
      exact hR x rm lv Wg (And.intro hE hF)) ?_
    rintro x rm lv Wg ⟨hEg, hF⟩
    have ng := hEg.1
    obtain ⟨nb, nlt⟩ := near_in hPin hlt hF
    obtain ⟨c1, c2, c3, c4⟩ := filled_capQ hPin (by omega) (by omega) hF
    obtain ⟨S, hS⟩ : ∃ S, S = nearS lv 24 := ⟨_, rfl⟩
    rw [← hS] at nb nlt c2 c3 c4
    have hmin := cut_all hPin (by omega) hlt (by omega : a m < P) c2 (fun T t1 t2 => (c1 T t1 t2).1)
    have hpP : 2 ^ P ≤ 2 ^ 24 := Nat.pow_le_pow_right (by omega) (by omega)
    obtain ⟨S', q1, q2, q3⟩ := aBinI_andNot .u64 S (1 <<< m) (by show S < 18446744073709551616; omega) (by exact one_lt (by omega))
    have q3' : ∀ j, S'.testBit j = (S.testBit j && decide (j ≠ m)) := fun j => by
      rw [q3, one_bit]; by_cases e : j = m
      · subst e; simp
      · simp [e, Ne.symm e]
    have h1p := one_wp m (by omega) Wg
    generalize 1 <<< m = om at q2 h1p
    have hVg := (hVe.ext hEf).ext hEg
    have hVqg := hVf.ext hEg
    have lm2 := hVg.load1 (T := T0) und3 rfl (j := 0) (v := .int .i64 (m : Nat)) rfl
    try simp only [wpK_assoc]
    refine wpK_x0 (P := fun Wh => Ext Wg Wh ∧ Wh.Has Wg.next 0 (.int .u64 (S' : Nat))) (fun R hR => by
      simp [h7, lm2, aEnter, fun54, short_other, aCallV]; rw [callS_none]
      refine h1p.mono ?_
      rintro _ W9 ⟨e9, rfl⟩; subst W9
      simp [← hS, q2, aEnter, fun66, short_other, aCallV]; rw [callS_none]
      refine (places_wp S').mono ?_
      rintro _ Wh ⟨hE, rfl, hB⟩
      simp; exact hR Wh (And.intro hE hB)) ?_
    rintro Wh ⟨hEh, hBh⟩
    have nh := hEh.1
    refine wpK_keep (fun tm' => tm'.get 1 = some (.pointer (some ⟨W.next, 0, none⟩)) ∧ tm'.get 5 = some (.pointer (some ⟨p5, 0, none⟩)) ∧ tm'.get 6 = some (.pointer (some ⟨p5 + 1, 0, none⟩)) ∧ tm'.get 7 = some (.pointer (some ⟨b7, 0, none⟩)) ∧ tm'.get 8 = some (.pointer (some ⟨b8, 0, none⟩)) ∧ tm'.get 9 = some (.int .u64 (S : Nat)) ∧ tm'.get 10 = some (.int .i64 x) ∧ tm'.get 41 = some (.func (.func 81) ⟨[]⟩ ⟨[.pointer (some ⟨Wg.next, 0, none⟩)]⟩)) ⟨by simp [h1], by simp [h5], by simp [h6], by simp [h7], by simp [hb8], by simp [hS], by simp, by simp⟩ ?_
    clear h1 h5 h6 h7
    rintro tm ⟨h1, h5, h6, h7, h8, h9, h10, h41⟩
    refine wpK_range2 (f := 81) (first := ⟨[]⟩) (cap := ⟨[.pointer (some ⟨Wg.next, 0, none⟩)]⟩) (by simp [h41]) fun81 (fun W5 hn5 hW5 hdf hlp => ?_)
    obtain ⟨z, hz⟩ : ∃ z, z = Wh.next := ⟨_, rfl⟩
    rw [← hz] at hn5 hdf hlp
    have hEh5 : Ext Wh W5 := ⟨by omega, fun b hb _ => hW5 b hb⟩
    have hEe5 := ((hEf.trans hEg).trans hEh).trans hEh5
    have hV5 := hVe.ext hEe5
    have hV85 := (hVqg.ext hEh).ext hEh5
    have hA5 : ArrAt W5 p5 132 (castF a) := Var.ext hAe hEe5
    have hB5 : ArrAt W5 (p5 + 1) 126 w := Var.ext hBe hEe5
    have hM5 := hMk.ext hEe5
    have hO5 : Only (fun b => p5 ≤ b) W1 W5 := hOe.trans (hEe5.mono (fun _ _ x => x.elim))
    have hE7 := hVe.1
    have hE8 := hVf.1
    refine (places1_wp (l := Wh.next + 1) (bx := Wg.next) (x := S') (fun left V => Only (fun b => b = p5 ∨ b = z + 1 ∨ W5.next ≤ b) W5 V ∧ V.blocks.get (z + 1) = W5.blocks.get (z + 1) ∧ (∀ j, left.testBit j = true → S'.testBit j = true) ∧ ArrAt V p5 132 (castF (midA a (a m) m S' left))) (by omega) (fun left k V hC' hl' hk1 hk2 => ?_)
      ⟨.refl _ _, rfl, fun _ hj => hj, by rw [midA_all]; exact hA5⟩ (hBh.ext hEh5)).mono ?_
    · obtain ⟨d1, d2, d3, d4⟩ := hC'
      have hl := d2.trans hlp
      rw [hz] at hl
      have nv := d1.1
      have hkS' := d3 k hk1
      have hkS : S.testBit k = true := by rw [q3'] at hkS'; simp only [Bool.and_eq_true] at hkS'; exact hkS'.1
      have hkP : k < P := by
        by_cases e : k < P
        · exact e
        · rw [nb k (by omega)] at hkS; cases hkS
      have hOv : Only (fun b => p5 ≤ b) W1 V := hO5.trans (d1.mono (fun b _ hb => by omega))
      refine ⟨tabs_ext hT h0 (xt hOv), _, _, _, _, _, _, _, _, _, _, tm.set 42 (.int .i64 (k : Nat)), hl, rfl, ?_⟩
      refine wpR ?_
      try simp only [wpK_assoc]
      refine wpK_reg1 (fun R hR => by simp []; exact hR) ?_
      refine ⟨rfl, _, _, _, _, _, _, _, _, hl, ?_⟩
      rw [← hz] at hl ⊢
      generalize hbz : (AObj.loop LoopState.busy _ _ _ _ _ _ _ _) = bz
      obtain ⟨Vb, hVb, hOb, hnb⟩ : ∃ Vb, Vb = V.setObj (z + 1) bz ∧ Only (fun b => b = z + 1) V Vb ∧ Vb.next = V.next := ⟨_, rfl, setObj_only _ _ _, rfl⟩
      rw [← hVb]
      have hlb : Vb.blocks.get (z + 1) = some ⟨bz, []⟩ := by rw [hVb, setObj_get, if_pos rfl]
      have dOb : Only (fun b => b = p5 ∨ b = z + 1 ∨ W5.next ≤ b) W5 Vb := d1.trans (hOb.mono (fun b _ hb => .inr (.inl hb)))
      have hAb : ArrAt Vb p5 132 (castF (midA a (a m) m S' left)) := Var.only d4 hOb (by omega)
      have lk := hAb.load3 (j := k) (by omega)
      rw [show castF (midA a (a m) m S' left) k = ((a k : Nat) : Int) from by unfold castF; rw [midA_at hk1]] at lk
      have lq5 := (hV85.only dOb (by omega)).load1 (T := T0) und3 rfl (j := 0) (v := .int .i64 (castF a m)) rfl
      rw [hcst] at lq5
      have lm5 := (hV5.only dOb (by omega)).load1 (T := T0) und3 rfl (j := 0) (v := .int .i64 (m : Nat)) rfl
      have ixk := ix132 p5 0 k (by omega)
      rw [Nat.zero_add] at ixk
      have hst := midA_step (a := a) (q := a m) (m := m) hkS' hk1 hk2
      have hdl3 : ∀ j, (dropLow left).testBit j = true → S'.testBit j = true := fun j hj => by
        rw [dropLow_bit hk1 hk2] at hj; simp only [Bool.and_eq_true] at hj; exact d3 j hj.1
      refine wpK_block1 ?_
      try simp only [wpK_assoc]
      refine wpK_dn (wr := Tr.nil |>.set 43 0 |>.set 44 1 |>.set 45 2 |>.set 46 3 |>.set 47 4) (bits := Tr.nil.lay 0 [0, 1, 3, 0, 15]) (ord := [0, 1, 2, 3, 4]) (by kernel_rfl) (by kernel_rfl) (by kernel_rfl) (fun G hG => by
        simp [h5, h8, ixk, lk, lq5]
        exact hG) ?_
      by_cases hq : a k = a m
      · rw [if_pos hq] at hst
        obtain ⟨Vd, w1, w2, w3, w4⟩ := hAb.put inf3 is3 (j := k) (by omega) ((m : Nat) : Int)
        rw [updI_cast, ← hst] at w4
        have hqi : ((a k : Nat) : Int) = ((a m : Nat) : Int) := by omega
        refine wpK_endT (by simp [hqi]) ?_
        try simp only [wpK_assoc]
        refine wpK_reg1 (fun R hR => by simp [h5, h7, lm5, ixk, w1]; exact hR) ?_
        simp only [leaves_normal]
        have hdl : Vd.blocks.get (z + 1) = some ⟨bz, []⟩ := by rw [w3.2 _ (by omega) (by omega)]; exact hlb
        subst hbz
        refine ⟨_, _, _, _, _, _, _, _, _, hdl, rfl, ?_⟩
        have hOz := fun o => setObj_only Vd (z + 1) o
        exact ⟨(dOb.trans (w3.mono (fun b _ hb => .inl hb))).trans ((hOz _).mono (fun b _ hb => .inr (.inl hb))), by rw [setObj_get, if_pos rfl]; exact hlp.symm, hdl3, Var.only w4 (hOz _) (by omega)⟩
      · rw [if_neg hq] at hst
        have hqi : ¬ ((a k : Nat) : Int) = ((a m : Nat) : Int) := by omega
        refine wpK_endF (by simp [hqi]) (wpK_skip ?_)
        simp only [leaves_normal]
        subst hbz
        refine ⟨_, _, _, _, _, _, _, _, _, hlb, rfl, ?_⟩
        have hOz := fun o => setObj_only Vb (z + 1) o
        exact ⟨dOb.trans ((hOz _).mono (fun b _ hb => .inr (.inl hb))), by rw [setObj_get, if_pos rfl]; exact hlp.symm, hdl3, by rw [hst]; exact Var.only hAb (hOz _) (by omega)⟩
    · rintro _ W6 ⟨d1, d2, d3, d4⟩
      have hl6 := d2.trans hlp
      rw [hz] at hl6
      rw [midA_done q3'] at d4
      refine ⟨_, _, _, _, _, _, _, _, _, hl6, (fun h => by cases h), ?_⟩
      rw [← hz]
      generalize hex : (AObj.loop LoopState.exhausted _ _ _ _ _ _ _ _) = ex
      obtain ⟨W7, hW7, hO7, hn7⟩ : ∃ W7, W7 = W6.setObj (z + 1) ex ∧ Only (fun b => b = z + 1) W6 W7 ∧ W7.next = W6.next := ⟨_, rfl, setObj_only _ _ _, rfl⟩
      rw [← hW7]
      clear hW7 hex
      have dO7 : Only (fun b => b = p5 ∨ b = z + 1 ∨ W5.next ≤ b) W5 W7 := d1.trans (hO7.mono (fun b _ hb => .inr (.inl hb)))
      have nd := dO7.1
      have hA7 : ArrAt W7 p5 132 (castF (aNew a S.testBit m)) := Var.only d4 hO7 (by omega)
      have hB7 : ArrAt W7 (p5 + 1) 126 w := Var.only hB5 dO7 (by omega)
      have hV77 := hV5.only dO7 (by omega)
      have hV87 := hV85.only dO7 (by omega)
      have hlow := hMk.low
      have f1 : Marks (p5 + 2) ({ target := .collected z, args := #[] } :: ds) W7 := ⟨z, rfl, by omega, by omega, by rw [dO7.2 z (by omega) (by omega)]; exact hdf, fun d hd e => by have := hlow d hd z e; omega, hM5.only dO7 (fun d hd r hr r1 _ hk => by have := hlow d hd r hr; omega)⟩
      have hO17 : Only (fun b => p5 ≤ b) W1 W7 := hO5.trans (dO7.mono (fun b _ hb => by omega))
      obtain ⟨ds', hds⟩ : ∃ ds', ds' = ({ target := .collected z, args := #[] } :: ds : List Deferred) := ⟨_, rfl⟩
      rw [← hds] at f1
      simp only [goOn, leaves_normal, behind_normal]
      rw [← hds]
      clear hds
      -- the weight, and whether the place above is on this side
      have lm7 := hV77.load1 (T := T0) und3 rfl (j := 0) (v := .int .i64 (m : Nat)) rfl
      have lq7 := hV87.load1 (T := T0) und3 rfl (j := 0) (v := .int .i64 (castF a m)) rfl
      rw [hcst] at lq7
      have ixm6 := ix126 (p5 + 1) 0 m (by omega)
      rw [Nat.zero_add] at ixm6
      obtain ⟨W8, w1, w2, w3, w4⟩ := hB7.put inf2 is2 (j := m) (by omega) x
      try simp only [wpK_assoc]
      refine wpK_reg (fun R hR => by simp [h6, h7, h10, lm7, ixm6, w1]; exact hR) ?_
      have n8 := w3.1
      have hA8 : ArrAt W8 p5 132 (castF (aNew a S.testBit m)) := Var.only hA7 w3 (by omega)
      have hV78 := hV77.only w3 (by omega)
      have hV88 := hV87.only w3 (by omega)
      have lm8 := hV78.load1 (T := T0) und3 rfl (j := 0) (v := .int .i64 (m : Nat)) rfl
      have lq8 := hV88.load1 (T := T0) und3 rfl (j := 0) (v := .int .i64 (castF a m)) rfl
      rw [hcst] at lq8
      have ixq := ix132 p5 0 (a m) (by omega)
      rw [Nat.zero_add] at ixq
      have lqq := hA8.load3 (j := a m) (by omega)
      have haq : aNew a S.testBit m (a m) = a (a m) := by
        unfold aNew; rw [if_neg hane, if_neg (by rw [c4]; simp)]
      rw [show castF (aNew a S.testBit m) (a m) = ((a (a m) : Nat) : Int) from by unfold castF; rw [haq]] at lqq
      have haaP : a (a m) < P := by have := hG.lt (a m) (by omega); omega
      have hhas := has_wp S (a (a m)) (by omega) (by omega) W8
      obtain ⟨tb, htb⟩ : ∃ tb, tb = S.testBit (a (a m)) := ⟨_, rfl⟩
      rw [← htb] at hhas
      try simp only [wpK_assoc]
      refine wpK_reg (fun R hR => by
          simp [h5, h8, h9, lq8, ixq, lqq, aEnter, fun62, short_other, aCallV]; rw [callS_none]
          refine (hhas).mono ?_
          rintro _ W9 ⟨e9, rfl⟩; subst W9
          simp [h5, h8, h9, lq8, ixq, lqq]; exact hR) ?_
      have hOe8 : Only (fun b => p5 ≤ b) W1 W8 := hO17.trans (w3.mono (fun b _ hb => by omega))
      have hM8 : Marks (p5 + 2) ds' W8 := f1.only w3 (fun d hd r hr r1 _ hk => by omega)
      try simp only [wpK_assoc]
      refine wpK_cut1 (J := fun A' W' => A'.n = 94 ∧ A'.tmps.get 1 = some (.pointer (some ⟨W.next, 0, none⟩)) ∧ A'.tmps.get 5 = some (.pointer (some ⟨p5, 0, none⟩)) ∧ A'.tmps.get 6 = some (.pointer (some ⟨p5 + 1, 0, none⟩)) ∧ A'.tmps.get 7 = some (.pointer (some ⟨b7, 0, none⟩)) ∧ A'.defers = ds' ∧ Only (fun b => b = p5 ∨ b = p5 + 1) W8 W' ∧ ∃ (a' : Nat → Nat) (w' : Nat → Int) (D' : Nat → Nat → Bool) (rk' : Nat → Nat), ArrAt W' p5 132 (castF a') ∧ ArrAt W' (p5 + 1) 126 w' ∧ GH P L a' w' D' rk' (m + 1)) (fun Q2 hQ2 => ?_) ?_
      · cases hr : tb with
        | false =>
          refine wpK_endF (by simp [hr]) (wpK_skip (hQ2 _ _ ?_))
          obtain ⟨D', rk', hG'⟩ := hG.step1 hsym hlt c3 c4 hmin (by rw [← htb]; exact hr)
          have hw' : (fun y => if y = m then capF S.testBit L else w y) = updI w m x := by
            funext y; unfold updI; rw [c2, ← capF_Q]
          rw [hw'] at hG'
          exact ⟨rfl, by simp [h1], by simp [h5], by simp [h6], by simp [h7], rfl, .refl _ _, _, _, D', rk', hA8, w4, hG'⟩
        | true =>
          refine wpK_endT (by simp [hr]) ?_
          obtain ⟨D', rk', hG'⟩ := hG.step2 hsym hlt c3 c4 hmin (by rw [← htb]; exact hr)
          obtain ⟨Wa, y1, y2, y3, y4⟩ := hA8.put inf3 is3 (j := m) (by omega) ((a (a m) : Nat) : Int)
          obtain ⟨Wb, z1, z2, z3, z4⟩ := y4.put inf3 is3 (j := a m) (by omega) ((m : Nat) : Int)
          rw [updI_cast, updI_cast, swap_done hane] at z4
          have lqa := (hV88.only y3 (by omega)).load1 (T := T0) und3 rfl (j := 0) (v := .int .i64 (castF a m)) rfl
          rw [hcst] at lqa
          have lma := (hV78.only y3 (by omega)).load1 (T := T0) und3 rfl (j := 0) (v := .int .i64 (m : Nat)) rfl
          have hyz := y3.trans z3
          try simp only [wpK_assoc]
          refine wpK_dn (wr := Tr.nil |>.set 59 0 |>.set 60 1 |>.set 61 2 |>.set 62 3 |>.set 63 4 |>.set 64 5 |>.set 65 6 |>.set 66 8) (bits := Tr.nil.lay 0 [0, 0, 0, 4, 12, 0, 29, 93, 255, 511]) (ord := [0, 1, 2, 3, 4, 5, 6, 7, 8, 9]) (by kernel_rfl) (by kernel_rfl) (by kernel_rfl) (fun G hG => by
            simp [h5, h7, h8, lm8, lma, lq8, lqa, ixm, ixq, lqq, y1, y2, z1, z2]
            exact hG) ?_
          have hBb : ArrAt Wb (p5 + 1) 126 (updI w m x) := Var.only w4 hyz (by omega)
          have lwq := hBb.load2 (j := a m) (by omega)
          rw [show updI w m x (a m) = w (a m) from by unfold updI; rw [if_neg hane]] at lwq
          have ixq6 := ix126 (p5 + 1) 0 (a m) (by omega)
          rw [Nat.zero_add] at ixq6
          obtain ⟨Wc, t1, t2, t3, t4⟩ := hBb.put inf2 is2 (j := m) (by omega) (w (a m))
          obtain ⟨Wd, u1, u2, u3, u4⟩ := t4.put inf2 is2 (j := a m) (by omega) x
          have lmb := (hV78.only hyz (by omega)).load1 (T := T0) und3 rfl (j := 0) (v := .int .i64 (m : Nat)) rfl
          have lmc := ((hV78.only hyz (by omega)).only t3 (by omega)).load1 (T := T0) und3 rfl (j := 0) (v := .int .i64 (m : Nat)) rfl
          have hVqb := hV88.only hyz (by omega)
          have lqb := hVqb.load1 (T := T0) und3 rfl (j := 0) (v := .int .i64 (castF a m)) rfl
          have lqc := (hVqb.only t3 (by omega)).load1 (T := T0) und3 rfl (j := 0) (v := .int .i64 (castF a m)) rfl
          rw [hcst] at lqb lqc
          have htu := t3.trans u3
          try simp only [wpK_assoc]
          refine wpK_qn (wr := Tr.nil |>.set 67 0 |>.set 68 1 |>.set 69 2 |>.set 70 3 |>.set 71 4 |>.set 72 5 |>.set 73 6 |>.set 74 8) (bits := Tr.nil.lay 0 [0, 0, 0, 4, 12, 0, 29, 93, 255, 511]) (ord := [0, 1, 2, 3, 4, 5, 6, 7, 8, 9]) (by kernel_rfl) (by kernel_rfl) (by kernel_rfl) (fun G hG => by
            simp [h6, h7, h8, h10, lmb, lmc, lqb, lqc, ixm6, ixq6, lwq, t1, t2, u1, u2]
            exact hG) ?_
          have hw' : (fun y => if y = m then w (a m) else if y = a m then capF S.testBit L else w y) = updI (updI (updI w m x) m (w (a m))) (a m) x := by
            funext y; unfold updI; rw [c2, ← capF_Q]
            by_cases e1 : y = m
            · subst e1; rw [if_pos rfl, if_neg (Ne.symm hane), if_pos rfl]
            · by_cases e2 : y = a m
              · rw [if_neg e1, if_pos e2, if_pos e2]
              · simp [e1, e2]
          rw [hw'] at hG'
          exact hQ2 _ _ ⟨rfl, by simp [h1], by simp [h5], by simp [h6], by simp [h7], rfl, (hyz.mono (fun b _ hb => .inl hb)).trans (htu.mono (fun b _ hb => .inr hb)), _, _, D', rk', Var.only z4 htu (by omega), u4, hG'⟩
      · rintro ⟨tm9, n9', ds9⟩ W9 ⟨hn9, g1, g5, g6, g7, hd9, hO9, a', w', D', rk', hA9, hB9, hG9⟩
        simp only at hn9 g1 g5 g6 g7 hd9
        subst hn9; subst hd9
        simp only [leaves_normal, behind_normal]
        have n9 := hO9.1
        have lm9 := (hV78.only hO9 (by omega)).load1 (T := T0) und3 rfl (j := 0) (v := .int .i64 (m : Nat)) rfl
        obtain ⟨Wx, r1, r2, hEx, hVx⟩ := storeVar_new (T := T0) (W := W9) (t := 3) (z := [.int .i64 0]) (v := .int .i64 (m : Nat)) inf3 (by rw [is3]; rfl) (by rw [is3]; rfl) rfl
        have hVx : Var Wx W9.next 3 [.int .i64 (m : Nat)] := hVx
        have hwi := i64_succ m (by omega)
        obtain ⟨mi, hmi⟩ : ∃ mi : Int, mi = ((m + 1 : Nat) : Int) := ⟨_, rfl⟩
        rw [← hmi] at hwi
        obtain ⟨Wy, k1, k2, k3, k4⟩ := hVx.store (T := T0) (t := 3) (v := .int .i64 mi) (o := 0) inf3 (by rw [is3]; rfl) (by show 0 + 1 ≤ 1; omega) rfl
        have lmx := hVx.load1 (T := T0) und3 rfl (j := 0) (v := .int .i64 (m : Nat)) rfl
        try simp only [wpK_assoc]
        refine wpK_reg (fun R hR => by simp [g7, lm9]; exact hR) ?_
        try simp only [wpK_assoc]
        refine wpK_reg (fun R hR => by simp [zero3', r1]; exact hR) ?_
        try simp only [wpK_assoc]
        refine wpK_reg1 (fun R hR => by simp [lmx, hwi, k1]; exact hR) ?_
        have hO9y : Only (fun b => b = p5 ∨ b = p5 + 1 ∨ b = W9.next) W8 Wy := ((hO9.mono (fun b _ hb => by omega)).trans (hEx.mono (fun _ _ x => x.elim))).trans (k3.mono (fun b _ hb => .inr (.inr hb)))
        have hlow8 := hM8.low
        have k4 : Var Wy W9.next 3 [.int .i64 mi] := k4
        rw [hmi] at k4
        exact hI (P - (m + 1)) _ _ (by omega) ⟨rfl, by simp [g1], by simp [g5], by simp [g6], hM8.only hO9y (fun d hd r hr r1 _ hk => by have := hlow8 d hd r hr; omega), hOe8.trans (hO9y.mono (fun b _ hb => by omega)), m + 1, W9.next, a', w', D', rk', by simp, rfl, by omega, k4, Var.only (Var.ext hA9 hEx) k3 (by have := hA9.1; omega), Var.only (Var.ext hB9 hEx) k3 (by have := hB9.1; omega), hG9⟩
  · rintro A' W' hf; exact hf.elim
  · rintro ⟨tm, n', ds⟩ Wd ⟨hn', h1, h5, h6, hMk, hOd, a, w, D, rk, hAd, hBd, hG⟩
    simp only at hn' h1 h5 h6 hMk
    subst hn'
    have nd := hOd.1
    try simp only [wpK_assoc]
    refine wpK_reg (fun R hR => by simp []; exact hR) ?_
    try simp only [wpK_assoc]
    refine wpK_reg (fun R hR => by simp []; exact hR) ?_
    try simp only [wpK_assoc]
    refine wpK_while (I := fun q A' W' => A'.n = 94 ∧ A'.tmps.get 1 = some (.pointer (some ⟨W.next, 0, none⟩)) ∧ A'.tmps.get 5 = some (.pointer (some ⟨p5, 0, none⟩)) ∧ A'.tmps.get 6 = some (.pointer (some ⟨p5 + 1, 0, none⟩)) ∧ A'.defers = ds ∧ Ext Wd W' ∧
        ∃ (i : Nat) (lv : Value), A'.tmps.get 12 = some lv ∧ A'.tmps.get 13 = some (.int .i64 ((i + 1 : Nat) : Int)) ∧ q = P - 1 - i ∧ i ≤ P - 1 ∧ GrowsN W' lv i (flat3 (treeL a w i)) 66 3 (fun b => Wd.next ≤ b))
      (J := fun A' W' => A'.n = 94 ∧ A'.defers = ds ∧ Ext Wd W' ∧ ∃ (lv : Value), A'.tmps.get 12 = some lv ∧ GrowsN W' lv (P - 1) (flat3 (treeL a w (P - 1))) 66 3 (fun b => Wd.next ≤ b)) (Rt := fun _ _ => False) (k := P - 1) ?_ ?_ ?_ ?_
    · exact ⟨rfl, by simp [h1], by simp [h5], by simp [h6], rfl, .refl _ _, 0, _, by simp, by simp, rfl, by omega, .nil _ _ _ _⟩
    · rintro q ⟨tm, n', ds'⟩ We ⟨hn', h1, h5, h6, hds, hEe, i, lv, h12, h13, hq, hi, hL3⟩ Q' hJ hRt hI
      simp only at hn' h1 h5 h6 hds h12 h13
      subst hn'; subst hds
      have ne := hEe.1
      have hOe : Only (fun b => p5 ≤ b) W1 We := hOd.trans (hEe.mono (fun _ _ x => x.elim))
      have lPe := lP hOe
      obtain ⟨mi, hmi⟩ : ∃ mi : Int, mi = ((i + 1 : Nat) : Int) := ⟨_, rfl⟩
      rw [← hmi] at h13
      by_cases hlt : mi < P
      case neg =>
        have hie : i = P - 1 := by omega
        subst hie
        try simp only [wpK_assoc]
        refine wpK_reg (fun R hR => by simp [h1, h13, lPe]; exact hR) ?_
        try simp only [wpK_assoc]
        first | refine wpK_onF (by simp [hlt]) ?_ | refine wpK_out (by simp [hlt]) ?_ | refine wpK_condF (by simp [hlt]) ?_ | refine wpK_endF (by simp [hlt]) (wpK_skip ?_) | refine wpK_endF (by simp [hlt]) ?_
        exact hJ _ _ ⟨rfl, rfl, hEe, lv, by simp [h12], hL3⟩
      try simp only [wpK_assoc]
      refine wpK_reg (fun R hR => by simp [h1, h13, lPe, hlt]; exact hR) ?_
      try simp only [wpK_assoc]
      first | refine wpK_onT (by simp [hlt]) ?_ | refine wpK_outT (by simp [hlt]) ?_ | refine wpK_condT (by simp [hlt]) ?_ | refine wpK_endT (by simp [hlt]) ?_
      refine wpK_block ?_
      have hi24 : i + 1 < 24 := by omega
      have ix5 := ix132 p5 0 (i + 1) hi24
      have ix6 := ix126 (p5 + 1) 0 (i + 1) hi24
      rw [Nat.zero_add, ← hmi] at ix5 ix6
      have la := hAd.load3 (j := i + 1) hi24
      have lw := hBd.load2 (j := i + 1) hi24
      have la1 : ∀ W', Ext Wd W' → aLoadVar T0 W' 3 p5 (i + 1) = some (.int .i64 (castF a (i + 1))) := fun W' he => ArrAt.load3 (Var.ext hAd he) hi24
      have lw1 : ∀ W', Ext Wd W' → aLoadVar T0 W' 2 (p5 + 1) (i + 1) = some (.int .i64 (w (i + 1))) := fun W' he => ArrAt.load2 (Var.ext hBd he) hi24
      obtain ⟨av, hav⟩ : ∃ av, av = castF a (i + 1) := ⟨_, rfl⟩
      obtain ⟨wv, hwv⟩ : ∃ wv, wv = w (i + 1) := ⟨_, rfl⟩
      rw [← hav] at la1
      rw [← hwv] at lw1
      obtain ⟨v', Wg, p1, p2, p3, p4⟩ := push3_tmp (t := 59) und59 inf66 is66 z66 rfl by66 hL3 (by omega) (u := cells3 (mi, av, wv)) rfl (oneCells_tri _)
      have p1 : aAppend T0 (We.newCells 66 [.int .i64 mi, .int .i64 av, .int .i64 wv]) [59, 59] [lv, .slice (some ⟨We.next, 0, none⟩) 1 2] = some (v', Wg) := p1
      have fb := fun (ρ : Operand → Option Value) (o : Operand) => flt_bs59 (ρ := ρ) (o := o) (x := mi) (y := av) (z := wv)
      have fr1 := freshB_new We 66 [.int .i64 mi, .int .i64 av, .int .i64 wv] (by simp [listEq, valEq])
      have eN : Ext Wd (We.newCells 66 [.int .i64 mi, .int .i64 av, .int .i64 wv]) := hEe.trans (.newCells _ _ _)
      have eG : Ext Wd Wg := ⟨by omega, fun b hb hk => by rw [p4.2 b (by omega) (by omega)]; exact hEe.2 b hb hk⟩
      have r1 := la1 _ eN
      have r2 := lw1 _ eN
      have r3 := la1 _ hEe
      have r4 := lw1 _ hEe
      have r5 := la1 _ eG
      have r6 := lw1 _ eG
      try simp only [wpK_assoc]
      refine wpK_qn (wr := Tr.nil |>.set 82 0 |>.set 83 1 |>.set 84 2 |>.set 85 3 |>.set 86 4 |>.set 87 5 |>.set 88 6 |>.set 89 7 |>.set 90 8 |>.set 91 9 |>.set 92 10 |>.set 12 11) (bits := Tr.nil.lay 0 [0, 0, 0, 4, 12, 0, 32, 96, 254, 510, 1023, 2047]) (ord := [0, 1, 2, 3, 4, 5, 6, 7, 8, 9, 10, 11]) (by kernel_rfl) (by kernel_rfl) (by kernel_rfl) (fun G hG => by
        simp [h5, h6, h12, h13, ix5, ix6, r1, r2, r3, r4, r5, r6, build66t, fb, AFlt.val, fr1, p1, p2, newCells_next]
        exact hG) ?_
      simp only [leaves_normal, behind_normal]
      have hwi : IntKind.i64.wrap (mi + 1) = ((i + 1 + 1 : Nat) : Int) := by rw [hmi]; exact i64_succ (i + 1) (by omega)
      try simp only [wpK_assoc]
      refine wpK_reg1 (fun R hR => by simp [h13, hwi]; exact hR) ?_
      have he3 : flat3 (treeL a w i) ++ cells3 (mi, av, wv) = flat3 (treeL a w (i + 1)) := by
        have : treeL a w (i + 1) = treeL a w i ++ [(mi, av, wv)] := by
          rw [hmi, hav, hwv]; simp [treeL, List.range_succ, castF]
        rw [this, flat3_append]; simp [flat3]
      rw [he3] at p3
      exact hI (P - 1 - (i + 1)) _ _ (by omega) ⟨rfl, by simp [h1], by simp [h5], by simp [h6], rfl, eG, i + 1, v', by simp, by simp, rfl, by omega, p3.mono (fun b hb => by omega)⟩
    · rintro A' W' hf; exact hf.elim
    · rintro ⟨tm, n', ds'⟩ We ⟨hn', hds, hEe, lv, h12, hL3⟩
      simp only at hn' hds h12
      subst hn'; subst hds
      try simp only [wpK_assoc]
      refine wpK_reg (fun R hR => by simp [h12]; exact hR) ?_
      have hMe := hMk.ext hEe
      obtain ⟨Wy, g1, g2⟩ := hMe.collects2
      have ng := g2.1
      have ne := hEe.1
      have hge : ∀ b, (∃ d ∈ ds', d.target = .collected b) → p5 + 2 ≤ b ∧ b < Wd.next := fun b ⟨d, hd, e⟩ => ⟨hMk.above d hd b e, hMk.low d hd b e⟩
      have hLy := hL3.only g2 (fun b _ hb hk => by have := hge b hk; omega)
      have hOe : Only (fun b => p5 ≤ b) W1 We := hOd.trans (hEe.mono (fun _ _ x => x.elim))
      have hOy : Only (fun b => p5 ≤ b) W1 Wy := hOe.trans (g2.mono (fun b _ hb => by have := hge b hb; omega))
      have hty : TriIn Wy lv (treeL a w (P - 1)) := GrowsN.tri (by rw [treeL_len]; exact hLy)
      exact wpK_ret ⟨.inr rfl, Wy, g1, [lv, .int .i64 0], by simp, xt hOy, lv, a, w, D, rk, rfl, hG, hty⟩
theorem capL_F (T S s : Nat) (l : List Quad) : ∀ i, i ≤ l.length → capL T (layL S s l) (hCap (layL S s l)) i = capF (fun q => T.testBit (atP S s q)) (l.take i)
  | 0, _ => by simp [capL, capF]
  | i + 1, hi => by
    have ha : l[i]? = some l[i] := List.getElem?_eq_getElem (by omega)
    generalize l[i] = a at ha
    have ht : l.take (i + 1) = l.take i ++ [a] := by rw [List.take_add_one, ha, Option.toList_some]
    have g1 : hCap (layL S s l) (2 * i) = a.2.2.1 := by unfold hCap; rw [if_pos (by omega), show 2 * i / 2 = i from by omega, stp_lay ha]
    have g2 : hCap (layL S s l) (2 * i + 1) = a.2.2.2 := by unfold hCap; rw [if_neg (by omega), show (2 * i + 1) / 2 = i from by omega, stp_lay ha]
    rw [capL, capL_F T S s l i (by omega), ht, stp_lay ha, g1, g2]
    simp only [capF, List.map_append, List.map_cons, List.map_nil, List.sum_append, List.sum_cons, List.sum_nil, outF]
    omega
def Sub (S T : Nat) : Prop := ∀ q, S.testBit q = true → T.testBit q = true
def bitsF (f : Nat → Bool) (P : Nat) : Nat := nearS (fun q => if f q = true then 1 else 0) P
theorem bitsF_bit (f : Nat → Bool) (P q : Nat) : (bitsF f P).testBit q = (decide (q < P) && f q) := by
  unfold bitsF; rw [nearS_bit]; cases f q <;> simp
theorem bitsF_lt (f : Nat → Bool) (P : Nat) : bitsF f P < 2 ^ P := nearS_lt _ P
theorem bitsF_cap {P : Nat} {L : List Quad} (hin : PlanIn P L) (f : Nat → Bool) : capQ (bitsF f P) L = capF f L := by
  rw [← capF_Q]
  refine capF_congr (fun a ha => ?_)
  have := hin.step ha
  rw [bitsF_bit, bitsF_bit, decide_eq_true (by omega), decide_eq_true (by omega), Bool.true_and, Bool.true_and]
  exact ⟨rfl, rfl⟩
theorem Filled.narrow {P : Nat} {L : List Quad} {S k : Nat} {x : Int} {rm : Nat → Int} {lv : Nat → Nat} (hin : PlanIn P L) (hS0 : S.testBit 0 = true) (hSk : S.testBit k = false) (hk : k < P) (hSP : S < 2 ^ P) (F : Filled (layL S 0 L) 0 k (hCap (layL S 0 L)) x rm lv) :
    (∀ T, Sub S T → T.testBit k = false → x ≤ capQ T L) ∧ ∃ T, Sub S T ∧ T.testBit k = false ∧ T < 2 ^ P ∧ x = capQ T L := by
  obtain ⟨h2, h24, _⟩ := hin.size
  have hL := layL_ok hin (from_ := S) (src := 0) (by omega)
  obtain ⟨c1, c2, c3, c4⟩ := F.cuts hL (by omega) (by omega : k < 24) (cap_rooms hL)
  have e : ∀ T, capL T (layL S 0 L) (hCap (layL S 0 L)) (layL S 0 L).length = capF (fun q => T.testBit (atP S 0 q)) L := fun T => by
    rw [layL_len, capL_F T S 0 L L.length (Nat.le_refl _), List.take_length]
  constructor
  · intro T hT hTk
    have h1 := (c1 T (hT 0 hS0) hTk).1
    rw [e] at h1
    have : (fun q => T.testBit (atP S 0 q)) = T.testBit := by
      funext q; unfold atP
      cases hq : S.testBit q with
      | true => rw [if_pos rfl, hT q hq, hT 0 hS0]
      | false => rw [if_neg (by simp)]
    rw [this, capF_Q] at h1; exact h1
  · refine ⟨bitsF (fun q => (nearS lv 24).testBit (atP S 0 q)) P, fun q hq => ?_, ?_, bitsF_lt _ _, ?_⟩
    · have hqP : q < P := by
        by_cases h : q < P
        · exact h
        · rw [Nat.testBit_lt_two_pow (Nat.lt_of_lt_of_le hSP (Nat.pow_le_pow_right (by omega) (by omega)))] at hq; cases hq
      rw [bitsF_bit, decide_eq_true hqP, Bool.true_and]
      show (nearS lv 24).testBit (atP S 0 q) = true
      unfold atP; rw [if_pos hq]; exact c3
    · rw [bitsF_bit]
      show (_ && (nearS lv 24).testBit (atP S 0 k)) = false
      unfold atP; rw [if_neg (by rw [hSk]; simp), c4, Bool.and_false]
    · rw [bitsF_cap hin, ← e]; exact c2
theorem zero2' : aZero T0 2 = some (.int .i64 0) := by kernel_rfl
def NarW (P S : Nat) (L : List Quad) (x : Int) : Prop := (∀ T, Sub S T → (∃ p, p < P ∧ T.testBit p = false) → x ≤ capQ T L) ∧ (x = maxI ∨ ∃ T, Sub S T ∧ (∃ p, p < P ∧ T.testBit p = false) ∧ T < 2 ^ P ∧ x = capQ T L)
def NarL (P S z : Nat) (L : List Quad) (left : Nat) (x : Int) : Prop := (∀ p, z.testBit p = true → left.testBit p = false → ∀ T, Sub S T → T.testBit p = false → x ≤ capQ T L) ∧ (x = maxI ∨ ∃ T, Sub S T ∧ (∃ p, p < P ∧ T.testBit p = false) ∧ T < 2 ^ P ∧ x = capQ T L)
theorem narrowest_wp {W : AW} {v : Value} {P : Nat} {lk : List Tri} (h : TriIn W v lk) (hok : planOk P (arcsQ lk) = true) (hT : tabsIn T0 T0.tabs W = true) (h0 : 0 < W.next) {S : Nat} (hS0 : S.testBit 0 = true) (hSP : S < 2 ^ P) :
    WpF T0 67 [.agg ⟨[.int .i64 P, v]⟩, .int .u64 (S : Nat)] W (fun u W' => Ext W W' ∧ ∃ x, u = .int .i64 x ∧ NarW P S (linksQ lk) x) := by
  have hPin := links_in hok
  obtain ⟨hP2, hP24, _⟩ := hPin.size
  have hpP : 2 ^ P ≤ 2 ^ 24 := Nat.pow_le_pow_right (by omega) (by omega)
  refine wpFd fun67 rfl ?_
  obtain ⟨W0, hW0, hE0, hV0, hV1, hn0⟩ : ∃ W0, W0 = (W.newCells 35 [.int .i64 P, v]).newCells 115 [.int .u64 (S : Nat)] ∧ Ext W W0 ∧ Var W0 W.next 35 [.int .i64 P, v] ∧ Var W0 (W.next + 1) 115 [.int .u64 (S : Nat)] ∧ W0.next = W.next + 2 :=
    ⟨_, rfl, (Only.newCells _ _ _).trans (Only.newCells _ _ _), (Var.new _ _ _).ext (.newCells _ _ _), Var.new _ _ _, rfl⟩
  try simp only [wpK_assoc]
  refine wpK_reg (fun R hR => by simp [newCells_next, ← hW0]; exact hR) ?_
  obtain ⟨p5, hp5⟩ : ∃ p5, p5 = W.next + 2 := ⟨_, rfl⟩
  obtain ⟨W1, s1, s2, hE1, hVm⟩ := storeVar_new (T := T0) (W := W0) (t := 2) (z := [.int .i64 0]) (v := .int .i64 maxI) inf2 (by rw [is2]; rfl) (by rw [is2]; rfl) rfl
  have hVm : Var W1 W0.next 2 [.int .i64 maxI] := hVm
  have s1 : aStoreVar T0 (W0.newCells 2 [.int .i64 0]) 2 W0.next 0 (.int .i64 9223372036854775807) = some W1 := s1
  try simp only [wpK_assoc]
  refine wpK_reg (fun R hR => by simp [zero2', s1]; exact hR) ?_
  rw [hn0, ← hp5] at hVm
  have hE01 := hE0.trans hE1
  have e01 := hE01.1
  have h35 := hV0.ext hE1
  have h115 := hV1.ext hE1
  have l35 : ∀ W', Ext W1 W' → aLoadVar T0 W' 35 W.next 0 = some (.agg ⟨[.int .i64 P, v]⟩) := fun W' h => load35 (h35.ext h)
  have lP : ∀ W', Ext W1 W' → aLoadVar T0 W' 3 W.next 0 = some (.int .i64 P) := fun W' h => (h35.ext h).load1 (T := T0) und3 rfl (j := 0) (v := .int .i64 P) rfl
  have lS : ∀ W', Ext W1 W' → aLoadVar T0 W' 115 (W.next + 1) 0 = some (.int .u64 (S : Nat)) := fun W' h => (h115.ext h).load1 (T := T0) und115 rfl (j := 0) (v := .int .u64 (S : Nat)) rfl
  have e11 : Ext W1 W1 := .refl _ _
  have hbel := below_wp P (by omega) W1
  have hp0 : 0 < 2 ^ P := Nat.two_pow_pos P
  obtain ⟨zz, q1, q2, q3⟩ := aBinI_andNot .u64 (2 ^ P - 1) S (by show 2 ^ P - 1 < 18446744073709551616; omega) (by show S < 18446744073709551616; omega)
  have q3' : ∀ j, zz.testBit j = (decide (j < P) && !S.testBit j) := fun j => by rw [q3, Nat.testBit_two_pow_sub_one]
  have hzz : zz < 2 ^ P := by omega
  generalize hpm : ((2 ^ P - 1 : Nat) : Int) = pm at hbel q2
  try simp only [wpK_assoc]
  try simp only [wpK_assoc]
  refine wpK_d0 (wr := Tr.nil |>.set 7 0 |>.set 8 1 |>.set 9 2 |>.set 10 3 |>.set 11 4 |>.set 12 5) (bits := Tr.nil.lay 0 [0, 1, 3, 0, 15, 31]) (ord := [0, 1, 2, 3, 4, 5]) (by kernel_rfl) (by kernel_rfl) (by kernel_rfl) (fun G hG => by
    simp [lP, lS, e11, aEnter, fun82, short_other, aCallV]
    rw [dcallS_none]
    refine hbel.mono ?_
    rintro _ W9 ⟨e9, rfl⟩; subst W9
    simp [lP, lS, e11, q2, aEnter, fun66, short_other, aCallV]
    rw [dcallS_none]
    refine (places_wp zz).mono ?_
    rintro _ Wh ⟨hE, rfl, hB⟩
    simp [lP, lS, e11, hE, hE.1, q2]
    exact hG Wh (And.intro hE hB)) ?_
  rintro Wh ⟨hEh, hBh⟩
  have nh := hEh.1
  have hin : Only (fun b => p5 ≤ b) W1 Wh := hEh.mono (fun _ _ x => x.elim)
  obtain ⟨L, hL⟩ : ∃ L, L = linksQ lk := ⟨_, rfl⟩
  rw [← hL] at hPin ⊢
  refine wpK_keep (fun tm' => tm'.get 2 = some (.pointer (some ⟨W.next, 0, none⟩)) ∧ tm'.get 3 = some (.pointer (some ⟨W.next + 1, 0, none⟩)) ∧ tm'.get 5 = some (.pointer (some ⟨p5, 0, none⟩)) ∧ tm'.get 12 = some (.func (.func 81) ⟨[]⟩ ⟨[.pointer (some ⟨W1.next, 0, none⟩)]⟩)) ⟨by simp, by simp, by simp [hn0, hp5], by simp⟩ ?_
  rintro tm ⟨h2, h3, h5, h12⟩
  refine wpK_range2 (f := 81) (first := ⟨[]⟩) (cap := ⟨[.pointer (some ⟨W1.next, 0, none⟩)]⟩) (by simp [h12]) fun81 (fun W5 hn5 hW5 hdf hlp => ?_)
  obtain ⟨z, hz⟩ : ∃ z, z = Wh.next := ⟨_, rfl⟩
  rw [← hz] at hn5 hdf hlp
  have hEh5 : Ext Wh W5 := ⟨by omega, fun b hb _ => hW5 b hb⟩
  have hE15 := hEh.trans hEh5
  have hV5 := hVm.ext hE15
  have hVmn := hVm.1
  refine (places1_wp (l := Wh.next + 1) (bx := W1.next) (x := zz) (fun left V => Only (fun b => b = p5 ∨ b = z + 1 ∨ W5.next ≤ b) W5 V ∧ V.blocks.get (z + 1) = W5.blocks.get (z + 1) ∧ (∀ j, left.testBit j = true → zz.testBit j = true) ∧ ∃ y, Var V p5 2 [.int .i64 y] ∧ NarL P S zz L left y) (by omega) (fun left k V hC' hl' hk1 hk2 => ?_)
    ⟨.refl _ _, rfl, fun _ hj => hj, maxI, hV5, fun p hp hp2 => by (rw [hp] at hp2; cases hp2), .inl rfl⟩ (hBh.ext hEh5)).mono ?_
  · obtain ⟨d1, d2, d3, y, d4, d5⟩ := hC'
    have hl := d2.trans hlp
    rw [hz] at hl
    have nv := d1.1
    have hkz := d3 k hk1
    rw [q3'] at hkz
    simp only [Bool.and_eq_true, decide_eq_true_eq, Bool.not_eq_true'] at hkz
    obtain ⟨hkP, hkS⟩ := hkz
    have hOv : Only (fun b => p5 ≤ b) W1 V := (hE15.mono (fun _ _ x => x.elim)).trans (d1.mono (fun b _ hb => by omega))
    have xt : ∀ {W'}, Only (fun b => p5 ≤ b) W1 W' → Ext W W' := fun {W'} ho => ⟨by have := ho.1; omega, fun b hb _ => by rw [ho.2 b (by omega) (by omega)]; exact hE01.2 b hb (fun x => x)⟩
    refine ⟨tabs_ext hT h0 (xt hOv), _, _, _, _, _, _, _, _, _, _, tm.set 13 (.int .i64 (k : Nat)), hl, rfl, ?_⟩
    refine wpR ?_
    try simp only [wpK_assoc]
    refine wpK_reg1 (fun R hR => by simp []; exact hR) ?_
    refine ⟨rfl, _, _, _, _, _, _, _, _, hl, ?_⟩
    rw [← hz] at hl ⊢
    generalize hbz : (AObj.loop LoopState.busy _ _ _ _ _ _ _ _) = bz
    obtain ⟨Vb, hVb, hOb, hnb⟩ : ∃ Vb, Vb = V.setObj (z + 1) bz ∧ Only (fun b => b = z + 1) V Vb ∧ Vb.next = V.next := ⟨_, rfl, setObj_only _ _ _, rfl⟩
    rw [← hVb]
    have hlb : Vb.blocks.get (z + 1) = some ⟨bz, []⟩ := by rw [hVb, setObj_get, if_pos rfl]
    have dOb : Only (fun b => b = p5 ∨ b = z + 1 ∨ W5.next ≤ b) W5 Vb := d1.trans (hOb.mono (fun b _ hb => .inr (.inl hb)))
    have hOvb : Only (fun b => p5 ≤ b) W1 Vb := hOv.trans (hOb.mono (fun b _ hb => by omega))
    have hVy := d4.only hOb (by omega)
    have m35 : ∀ W', Ext Vb W' → aLoadVar T0 W' 35 W.next 0 = some (.agg ⟨[.int .i64 P, v]⟩) := fun W' h => load35 ((h35.only hOvb (by omega)).ext h)
    have mS : ∀ W', Ext Vb W' → aLoadVar T0 W' 115 (W.next + 1) 0 = some (.int .u64 (S : Nat)) := fun W' h => ((h115.only hOvb (by omega)).ext h).load1 (T := T0) und115 rfl (j := 0) (v := .int .u64 (S : Nat)) rfl
    have my : ∀ W', Ext Vb W' → aLoadVar T0 W' 2 p5 0 = some (.int .i64 y) := fun W' h => (hVy.ext h).load1 (T := T0) und2 rfl (j := 0) (v := .int .i64 y) rfl
    have ebb : Ext Vb Vb := .refl _ _
    have hNv := boardPlan (P := (P : Int)) (h.ext (xt hOvb))
    rw [← hL] at hNv
    have hlay := lay_wp (src := 0) (to := k) hNv hPin (by show S < 18446744073709551616; omega) hS0 (fun j hj => by omega) (by omega) (by omega) (tabs_ext hT h0 (xt hOvb)) (by omega)
    have vvv := tri_eq h
    have hne : (0 : Nat) ≠ k := fun e => by rw [← e, hS0] at hkS; cases hkS
    have hLok := layL_ok hPin (from_ := S) (src := 0) (by omega)
    have hcr := cap_rooms hLok
    have h024 : (0 : Nat) < 24 := by omega
    have hk24 : k < 24 := by omega
    refine wpK_block1 ?_
    try simp only [wpK_assoc]
    refine wpK_q2 (wr := Tr.nil |>.set 14 0 |>.set 15 1 |>.set 16 2 |>.set 17 3 |>.set 18 4 |>.set 19 5 |>.set 20 6 |>.set 21 7) (bits := Tr.nil.lay 0 [0, 0, 2, 0, 0, 30, 62, 127, 255]) (ord := [0, 1, 2, 3, 4, 5, 6, 7, 8]) (by kernel_rfl) (by kernel_rfl) (by kernel_rfl) (fun G hG => by
      simp [h2, h3, h5, m35, mS, my, ebb, opMI35, -opMakeInterface, aEnter, fun53, short_other, aCallV]
      rw [dcallS_none]
      refine hlay.mono ?_
      rintro _ W9 ⟨e9, p, B, rfl, hp, hWk⟩
      simp [h2, h3, h5, m35, mS, my, ebb, e9, e9.1, vvv, opMI35, -opMakeInterface, aEnter, fun55, short_other, aCallV]
      rw [dcallS_none]
      refine (fill_wp hWk hLok h024 hk24 hne hcr).mono ?_
      rintro _ Wf ⟨x, rm', lv, rfl, hOf, hWk', hF⟩
      have ef : Ext Vb Wf := ⟨Nat.le_trans e9.1 hOf.1, fun b hb hk => by rw [hOf.2 b (Nat.lt_of_lt_of_le hb e9.1) (fun e => by omega)]; exact e9.2 b hb hk⟩
      have nf := hOf.1
      have hVf := hVy.ext ef
      obtain ⟨Wg, y1, y2, y3, y4⟩ := hVf.store (T := T0) (t := 2) (v := .int .i64 (min y x)) (o := 0) inf2 (by rw [is2]; rfl) (by show 0 + 1 ≤ 1; omega) rfl
      simp [h2, h3, h5, m35, mS, my, ebb, e9, ef, e9.1, nf, ef.1, vvv, min_int, y1, y2]
      have hOg : Only (fun b => b = p5) Vb Wg := ⟨by have := ef.1; omega, fun b hb hk => by rw [y3.2 b (by have := ef.1; omega) hk]; exact ef.2 b hb (fun x => x)⟩
      have hy4 : Var Wg p5 2 [.int .i64 (min y x)] := y4
      have hnr := hF.narrow hPin hS0 hkS hkP hSP
      exact hG x p Wg (And.intro hOg (And.intro hy4 hnr))) ?_
    rintro x p Wg ⟨hOg, hVg, hx1, hx2⟩
    simp only [leaves_normal]
    have hlg : Wg.blocks.get (z + 1) = some ⟨bz, []⟩ := by rw [hOg.2 _ (by omega) (by omega)]; exact hlb
    subst hbz
    refine ⟨_, _, _, _, _, _, _, _, _, hlg, rfl, ?_⟩
    have hOz := fun o => setObj_only Wg (z + 1) o
    have hdl3 : ∀ j, (dropLow left).testBit j = true → zz.testBit j = true := fun j hj => by
      rw [dropLow_bit hk1 hk2] at hj; simp only [Bool.and_eq_true] at hj; exact d3 j hj.1
    refine ⟨(dOb.trans (hOg.mono (fun b _ hb => .inl hb))).trans ((hOz _).mono (fun b _ hb => .inr (.inl hb))), by rw [setObj_get, if_pos rfl]; exact hlp.symm, hdl3, min y x, Var.only hVg (hOz _) (by omega), fun p p1 p2 T t1 t2 => ?_, ?_⟩
    · rw [dropLow_bit hk1 hk2] at p2
      by_cases e : p = k
      · subst e
        have := hx1 T t1 t2
        omega
      · rw [decide_eq_true e, Bool.and_true] at p2
        have := d5.1 p p1 p2 T t1 t2
        omega
    · rcases Int.le_total y x with hyx | hyx
      · rw [Int.min_eq_left hyx]; exact d5.2
      · rw [Int.min_eq_right hyx]
        obtain ⟨T, t1, t2, t3, t4⟩ := hx2
        exact .inr ⟨T, t1, ⟨k, hkP, t2⟩, t3, t4⟩
  · rintro _ W6 ⟨d1, d2, d3, y, d4, d5⟩
    have hl6 := d2.trans hlp
    rw [hz] at hl6
    refine ⟨_, _, _, _, _, _, _, _, _, hl6, (fun h => by cases h), ?_⟩
    rw [← hz]
    generalize hex : (AObj.loop LoopState.exhausted _ _ _ _ _ _ _ _) = ex
    obtain ⟨W7, hW7, hO7, hn7⟩ : ∃ W7, W7 = W6.setObj (z + 1) ex ∧ Only (fun b => b = z + 1) W6 W7 ∧ W7.next = W6.next := ⟨_, rfl, setObj_only _ _ _, rfl⟩
    rw [← hW7]
    clear hW7 hex
    have dO7 : Only (fun b => b = p5 ∨ b = z + 1 ∨ W5.next ≤ b) W5 W7 := d1.trans (hO7.mono (fun b _ hb => .inr (.inl hb)))
    have nd := dO7.1
    have hV7 := d4.only hO7 (by omega)
    have ly := hV7.load1 (T := T0) und2 rfl (j := 0) (v := .int .i64 y) rfl
    simp only [goOn, leaves_normal, behind_normal]
    try simp only [wpK_assoc]
    refine wpK_reg (fun R hR => by simp [h5, ly]; exact hR) ?_
    have hz7 : W7.blocks.get z = some ⟨.deferred (some []), []⟩ := by rw [dO7.2 z (by omega) (by omega)]; exact hdf
    refine wpK_ret ⟨.inr rfl, W7.setObj z (.deferred none), ⟨z, rfl, hz7, rfl⟩, [.int .i64 y], by simp, ?_, y, rfl, fun T t1 ⟨p, hp, hpT⟩ => ?_, d5.2⟩
    · refine ⟨by rw [setObj_next]; omega, fun b hb _ => ?_⟩
      rw [setObj_get, if_neg (by omega), dO7.2 b (by omega) (by omega), hE15.2 b (by omega) (fun x => x)]
      exact hE01.2 b hb (fun x => x)
    · refine d5.1 p ?_ (by simp) T t1 hpT
      rw [q3', decide_eq_true hp, Bool.true_and]
      cases hS : S.testBit p with
      | false => rfl
      | true => rw [t1 p hS] at hpT; cases hpT
def Bef (S T : Nat) : Prop := ∃ k, (∀ j, j < k → S.testBit j = T.testBit j) ∧ ((S.testBit k = true ∧ T.testBit k = false ∧ ∃ j, k < j ∧ T.testBit j = true) ∨ (S.testBit k = false ∧ T.testBit k = true ∧ ∀ j, k < j → S.testBit j = false))
def Part0 (P T : Nat) : Prop := T.testBit 0 = true ∧ T < 2 ^ P ∧ ∃ p, p < P ∧ T.testBit p = false
def Weak (P : Nat) (L : List Quad) (F : Nat) (x : Int) : Prop := Part0 P F ∧ x = capQ F L ∧ ∀ T, Part0 P T → x ≤ capQ T L ∧ (x = capQ T L → T = F ∨ Bef F T)
structure Grow (P : Nat) (L : List Quad) (x : Int) (S p : Nat) : Prop where
  p1 : 1 ≤ p
  pP : p ≤ P
  z : S.testBit 0 = true
  lt : S < 2 ^ p
  has : ∃ T, Part0 P T ∧ Sub S T ∧ x = capQ T L
  all : ∀ T, Part0 P T → x = capQ T L → (∀ j, j < p → S.testBit j = T.testBit j) ∨ ∃ k, k < p ∧ (∀ j, j < k → S.testBit j = T.testBit j) ∧ S.testBit k = true ∧ T.testBit k = false ∧ ∃ j, k < j ∧ T.testBit j = true
theorem high_bit {S p j : Nat} (h : S < 2 ^ p) (hj : p ≤ j) : S.testBit j = false := Nat.testBit_lt_two_pow (Nat.lt_of_lt_of_le h (Nat.pow_le_pow_right (by omega) hj))
theorem Grow.more {P : Nat} {L : List Quad} {x : Int} {S p : Nat} (h : Grow P L x S p) (hne : capQ S L ≠ x) : p < P := by
  obtain ⟨T, t1, t2, t3⟩ := h.has
  by_cases hp : p < P
  · exact hp
  have hpP := h.pP
  have e : p = P := by omega
  subst e
  exfalso
  rcases h.all T t1 t3 with ha | ⟨k, k1, k2, k3, k4, _⟩
  · have : T = S := by
      apply Nat.eq_of_testBit_eq
      intro j
      by_cases hj : j < p
      · exact (ha j hj).symm
      · rw [high_bit t1.2.1 (by omega), high_bit h.lt (by omega)]
    subst this; exact hne t3.symm
  · rw [t2 k k3] at k4; cases k4
theorem Grow.later {P : Nat} {L : List Quad} {x : Int} {S p : Nat} (h : Grow P L x S p) (hne : capQ S L ≠ x) {T : Nat} (hT : x = capQ T L) (ha : ∀ j, j < p → S.testBit j = T.testBit j) : ∃ j, p ≤ j ∧ T.testBit j = true := by
  apply Classical.byContradiction
  intro hn
  have : T = S := by
    apply Nat.eq_of_testBit_eq
    intro j
    by_cases hj : j < p
    · exact (ha j hj).symm
    · rw [high_bit h.lt (by omega)]
      cases hb : T.testBit j with
      | false => rfl
      | true => exact absurd ⟨j, by omega, hb⟩ hn
  subst this; exact hne hT.symm
theorem or_bit (S p j : Nat) : (S ||| 1 <<< p).testBit j = (S.testBit j || decide (p = j)) := by rw [Nat.testBit_or, one_bit]
theorem or_lt {S p P : Nat} (h : S < 2 ^ p) (hp : p < P) : S ||| 1 <<< p < 2 ^ (p + 1) ∧ S ||| 1 <<< p < 2 ^ P := by
  have h1 : 2 ^ p < 2 ^ (p + 1) := Nat.pow_lt_pow_right (by omega) (by omega)
  have h2 : S ||| 1 <<< p < 2 ^ (p + 1) := Nat.or_lt_two_pow (by omega) (by rw [Nat.shiftLeft_eq, Nat.one_mul]; exact h1)
  exact ⟨h2, Nat.lt_of_lt_of_le h2 (Nat.pow_le_pow_right (by omega) (by omega))⟩
theorem Grow.yes {P : Nat} {L : List Quad} {x : Int} {S p : Nat} (h : Grow P L x S p) (hne : capQ S L ≠ x) (hx : x < maxI) (hn : NarW P (S ||| 1 <<< p) L x) : Grow P L x (S ||| 1 <<< p) (p + 1) := by
  have hp := h.more hne
  refine ⟨by omega, by omega, by rw [or_bit, h.z]; rfl, (or_lt h.lt hp).1, ?_, fun T t1 t2 => ?_⟩
  · rcases hn.2 with e | ⟨T, t1, t2, t3, t4⟩
    · omega
    · exact ⟨T, ⟨t1 0 (by rw [or_bit, h.z]; rfl), t3, t2⟩, t1, t4⟩
  · rcases h.all T t1 t2 with ha | ⟨k, k1, k2, k3, k4, k5⟩
    · cases hb : T.testBit p with
      | true =>
        refine .inl fun j hj => ?_
        rw [or_bit]
        by_cases e : p = j
        · subst e; rw [hb]; simp
        · rw [ha j (by omega), decide_eq_false e, Bool.or_false]
      | false =>
        obtain ⟨j, j1, j2⟩ := h.later hne t2 ha
        refine .inr ⟨p, by omega, fun i hi => ?_, by rw [or_bit]; simp, hb, j, ?_, j2⟩
        · rw [or_bit, ha i hi, decide_eq_false (by omega), Bool.or_false]
        · by_cases e : j = p
          · subst e; rw [hb] at j2; cases j2
          · omega
    · exact .inr ⟨k, by omega, fun i hi => by rw [or_bit, k2 i hi, decide_eq_false (by omega), Bool.or_false], by rw [or_bit, k3]; rfl, k4, k5⟩
theorem Grow.no {P : Nat} {L : List Quad} {x y : Int} {S p : Nat} (h : Grow P L x S p) (hne : capQ S L ≠ x) (hx : x < maxI) (hmin : ∀ T, Part0 P T → x ≤ capQ T L) (hn : NarW P (S ||| 1 <<< p) L y) (hxy : y ≠ x) : Grow P L x S (p + 1) := by
  have hp := h.more hne
  refine ⟨by omega, by omega, h.z, Nat.lt_of_lt_of_le h.lt (Nat.pow_le_pow_right (by omega) (by omega)), h.has, fun T t1 t2 => ?_⟩
  rcases h.all T t1 t2 with ha | ⟨k, k1, k2, k3, k4, k5⟩
  · cases hb : T.testBit p with
    | true =>
      exfalso
      have hsub : Sub (S ||| 1 <<< p) T := fun q hq => by
        rw [or_bit] at hq
        by_cases e : p = q
        · subst e; exact hb
        · rw [decide_eq_false e, Bool.or_false] at hq
          have hqp : q < p := by
            by_cases hh : q < p
            · exact hh
            · rw [high_bit h.lt (by omega)] at hq; cases hq
          rw [← ha q hqp]; exact hq
      have h1 := hn.1 T hsub t1.2.2
      rcases hn.2 with e | ⟨T', u1, u2, u3, u4⟩
      · omega
      · have := hmin T' ⟨u1 0 (by rw [or_bit, h.z]; rfl), u3, u2⟩
        omega
    | false =>
      refine .inl fun j hj => ?_
      by_cases e : p = j
      · subst e; rw [hb, high_bit h.lt (Nat.le_refl _)]
      · exact ha j (by omega)
  · exact .inr ⟨k, by omega, k2, k3, k4, k5⟩
theorem Grow.done {P : Nat} {L : List Quad} {x : Int} {S p : Nat} (h : Grow P L x S p) (he : capQ S L = x) (hmin : ∀ T, Part0 P T → x ≤ capQ T L) : Weak P L S x := by
  obtain ⟨T, t1, t2, t3⟩ := h.has
  refine ⟨⟨h.z, Nat.lt_of_lt_of_le h.lt (Nat.pow_le_pow_right (by omega) h.pP), ?_⟩, he.symm, fun T' u1 => ⟨hmin T' u1, fun u2 => ?_⟩⟩
  · obtain ⟨q, q1, q2⟩ := t1.2.2
    refine ⟨q, q1, ?_⟩
    cases hb : S.testBit q with
    | false => rfl
    | true => rw [t2 q hb] at q2; cases q2
  · rcases h.all T' u1 u2 with ha | ⟨k, k1, k2, k3, k4, k5⟩
    · by_cases e : T' = S
      · exact .inl e
      · right
        have hex : ∃ j, T'.testBit j = true ∧ S.testBit j = false := by
          apply Classical.byContradiction
          intro hn
          refine e (Nat.eq_of_testBit_eq fun j => ?_)
          by_cases hj : j < p
          · exact (ha j hj).symm
          · rw [high_bit h.lt (by omega)]
            cases hb : T'.testBit j with
            | false => rfl
            | true => exact absurd ⟨j, hb, high_bit h.lt (by omega)⟩ hn
        have hz : (bitsF (fun j => T'.testBit j && !S.testBit j) P) ≠ 0 := by
          obtain ⟨j, j1, j2⟩ := hex
          intro hz
          have hjP : j < P := by
            by_cases hh : j < P
            · exact hh
            · rw [high_bit u1.2.1 (by omega)] at j1; cases j1
          have := bitsF_bit (fun j => T'.testBit j && !S.testBit j) P j
          rw [hz, j1, j2, decide_eq_true hjP] at this
          simp at this
        obtain ⟨k, k1, k2⟩ := low_ex hz
        rw [bitsF_bit] at k1
        simp only [Bool.and_eq_true, decide_eq_true_eq, Bool.not_eq_true'] at k1
        have hpk : p ≤ k := by
          by_cases hh : p ≤ k
          · exact hh
          · have := ha k (by omega); rw [k1.2.1, k1.2.2] at this; cases this
        refine ⟨k, fun j hj => ?_, .inr ⟨k1.2.2, k1.2.1, fun j hj => high_bit h.lt (by omega)⟩⟩
        by_cases hjp : j < p
        · exact ha j hjp
        · have := k2 j hj
          rw [bitsF_bit, high_bit h.lt (by omega : p ≤ j), decide_eq_true (by omega)] at this
          rw [high_bit h.lt (by omega : p ≤ j)]
          simp only [Bool.true_and, Bool.not_false, Bool.and_true] at this
          exact this.symm
    · exact .inr ⟨k, k2, .inl ⟨k3, k4, k5⟩⟩
theorem Grow.start {P : Nat} {L : List Quad} {x : Int} (hP : 2 ≤ P) (hx : x < maxI) (hn : NarW P 1 L x) : Grow P L x 1 1 ∧ ∀ T, Part0 P T → x ≤ capQ T L := by
  have h1 : ∀ q, (1 : Nat).testBit q = decide (0 = q) := fun q => one_bit 0 q
  refine ⟨⟨by omega, by omega, by rw [h1]; rfl, by omega, ?_, fun T t1 t2 => .inl fun j hj => ?_⟩, fun T t => hn.1 T (fun q hq => ?_) t.2.2⟩
  · rcases hn.2 with e | ⟨T, t1, t2, t3, t4⟩
    · omega
    · exact ⟨T, ⟨t1 0 (by rw [h1]; rfl), t3, t2⟩, t1, t4⟩
  · have : j = 0 := by omega
    subst this; rw [h1, t1.1]; rfl
  · rw [h1] at hq
    have : 0 = q := by simpa using hq
    subst this; exact t.1
theorem weakest_wp {W : AW} {v : Value} {P : Nat} {lk : List Tri} (h : TriIn W v lk) (hok : planOk P (arcsQ lk) = true) (hT : tabsIn T0 T0.tabs W = true) (h0 : 0 < W.next) :
    WpF T0 28 [.agg ⟨[.int .i64 P, v]⟩] W (fun u W' => Ext W W' ∧ ∃ F x lv, u = .tuple ⟨[.int .i64 x, lv, .int .i64 0]⟩ ∧ Weak P (linksQ lk) F x ∧ IntL W' lv (memb P F)) := by
  have hPin := links_in hok
  obtain ⟨hP2, hP24, hl200⟩ := hPin.size
  have hP2n : 2 ≤ P := by omega
  have hpP : 2 ^ P ≤ 2 ^ 24 := Nat.pow_le_pow_right (by omega) (by omega)
  have h2P : 2 ^ 1 ≤ 2 ^ P := Nat.pow_le_pow_right (by omega) (by omega)
  refine wpF fun28 rfl ?_
  obtain ⟨W0, hW0, hE0, hV0⟩ : ∃ W0, W0 = W.newCells 35 [.int .i64 P, v] ∧ Ext W W0 ∧ Var W0 W.next 35 [.int .i64 P, v] := ⟨_, rfl, .newCells _ _ _, Var.new _ _ _⟩
  have hN := boardPlan (P := (P : Int)) (h.ext hE0)
  have hc := check_wp hN
  rw [chk, planOk_links, hok] at hc
  have l35 : ∀ W', Ext W0 W' → aLoadVar T0 W' 35 W.next 0 = some (.agg ⟨[.int .i64 P, v]⟩) := fun W' h => load35 (hV0.ext h)
  have e00 : Ext W0 W0 := .refl _ _
  have vvv := tri_eq h
  have Tb : ∀ {W'}, Ext W0 W' → tabsIn T0 T0.tabs W' = true := fun e => tabs_ext hT h0 (hE0.trans e)
  have N0 : ∀ {W'}, Ext W0 W' → 0 < W'.next := fun e => Nat.lt_of_lt_of_le h0 (hE0.trans e).1
  have nar : ∀ {W'} (S : Nat), Ext W0 W' → S.testBit 0 = true → S < 2 ^ P → WpF T0 67 [.agg ⟨[.int .i64 P, v]⟩, .int .u64 (S : Nat)] W' (fun u W'' => Ext W' W'' ∧ ∃ x, u = .int .i64 x ∧ NarW P S (linksQ lk) x) := fun S e h1 h2 => narrowest_wp (h.ext (hE0.trans e)) hok (Tb e) (N0 e) h1 h2
  have acr : ∀ {W'} (S : Nat), Ext W0 W' → S < 2 ^ P → WpF T0 65 [.iface 35 (.agg ⟨[.int .i64 P, v]⟩), .int .u64 (S : Nat)] W' (fun u W'' => Ext W' W'' ∧ u = .int .i64 (capQ S (linksQ lk))) := fun S e h2 => across_wp (hN.ext e) hPin S (by omega)
  obtain ⟨L, hL⟩ : ∃ L, L = linksQ lk := ⟨_, rfl⟩
  rw [← hL] at hPin hl200 ⊢
  simp only [← hL] at nar acr
  try simp only [wpK_assoc]
  refine wpK_reg (fun R hR => by simp [← hW0]; exact hR) ?_
  try simp only [wpK_assoc]
  refine wpK_x0 (fun R hR => by
      simp [l35, e00, opMI35, -opMakeInterface, aEnter, fun51, short_other, aCallV]; rw [callS_none]
      refine (hc).mono ?_
      rintro _ W1 ⟨e1, rfl⟩
      simp [l35, e00, opMI35, -opMakeInterface]; exact hR W1 e1) ?_
  rintro W1 e1
  try simp only [wpK_assoc]
  refine wpK_reg (fun R hR => by simp []; exact hR) ?_
  try simp only [wpK_assoc]
  first | refine wpK_onF (by simp []) ?_ | refine wpK_out (by simp []) ?_ | refine wpK_condF (by simp []) ?_ | refine wpK_endF (by simp []) (wpK_skip ?_) | refine wpK_endF (by simp []) ?_
  have h1p := one_wp 0 (by omega) W1
  rw [show (1 <<< 0 : Nat) = 1 from rfl] at h1p
  try simp only [wpK_assoc]
  refine wpK_reg (fun R hR => by
      simp [aEnter, fun54, short_other, aCallV]; rw [callS_none]
      refine (h1p).mono ?_
      rintro _ W9 ⟨e9, rfl⟩; subst W9
      simp []; exact hR) ?_
  have n1 := nar 1 e1 (by decide) (by omega)
  try simp only [wpK_assoc]
  refine wpK_x1 (fun R hR => by
      simp [l35, e1, aEnter, fun67, short_other, aCallV]; rw [callS_none]
      refine (n1).mono ?_
      rintro _ W2 ⟨e2, x, rfl, hn⟩
      simp [l35, e1]; exact hR x W2 (And.intro e2 hn)) ?_
  rintro x W2 ⟨e2, hn⟩
  have ew2 := e1.trans e2
  have hxm : x < maxI := by
    have h1 := hn.1 1 (fun q hq => hq) ⟨1, by omega, by decide⟩
    have h2 := (capQ_le hPin 1 L.length (Nat.le_refl _)).2
    rw [List.take_length] at h2
    unfold maxI
    omega
  obtain ⟨hg, hmin⟩ := Grow.start hP2n hxm hn
  try simp only [wpK_assoc]
  refine wpK_reg (fun R hR => by simp []; exact hR) ?_
  try simp only [wpK_assoc]
  refine wpK_while (I := fun k A W' => A.n = 42 ∧ A.defers = [] ∧ A.tmps.get 1 = some (.pointer (some ⟨W.next, 0, none⟩)) ∧ A.tmps.get 7 = some (.int .i64 x) ∧ Ext W0 W' ∧ ∃ (S p : Nat), k = P - p ∧ A.tmps.get 6 = some (.int .u64 (S : Nat)) ∧ A.tmps.get 8 = some (.int .i64 (p : Nat)) ∧ Grow P L x S p)
    (J := fun A W' => A.n = 42 ∧ A.defers = [] ∧ A.tmps.get 1 = some (.pointer (some ⟨W.next, 0, none⟩)) ∧ A.tmps.get 7 = some (.int .i64 x) ∧ Ext W0 W' ∧ ∃ (S : Nat), A.tmps.get 6 = some (.int .u64 (S : Nat)) ∧ Weak P L S x) (Rt := fun _ _ => False) (k := P - 1) ?_ ?_ ?_ ?_
  · exact ⟨rfl, rfl, by simp, by simp, ew2, 1, 1, rfl, by simp, by simp, hg⟩
  · rintro k ⟨tm, n, ds⟩ W3 ⟨hn, hd, h1, h7, e3, S, p, hk, h6, h8, hG⟩ Q' hJ hRt hI
    simp only at hn hd h1 h7
    subst hn; subst hd
    simp only at h6 h8
    have hSP : S < 2 ^ P := Nat.lt_of_lt_of_le hG.lt (Nat.pow_le_pow_right (by omega) hG.pP)
    have ha := acr S e3 hSP
    by_cases he : capQ S L = x
    · try simp only [wpK_assoc]
      refine wpK_x0 (fun R hR => by
          simp [h1, h6, h7, l35, e3, opMI35, -opMakeInterface, aEnter, fun65, short_other, aCallV]; rw [callS_none]
          refine (ha).mono ?_
          rintro _ W4 ⟨e4, rfl⟩
          simp [h1, h6, h7, he]; exact hR W4 e4) ?_
      rintro W4 e4
      try simp only [wpK_assoc]
      first | refine wpK_onF (by simp []) ?_ | refine wpK_out (by simp []) ?_ | refine wpK_condF (by simp []) ?_ | refine wpK_endF (by simp []) (wpK_skip ?_) | refine wpK_endF (by simp []) ?_
      exact hJ _ _ ⟨rfl, rfl, by simp [h1, h7], by simp [h1, h7], e3.trans e4, S, by simp [h6], hG.done he hmin⟩
    try simp only [wpK_assoc]
    refine wpK_x0 (fun R hR => by
        simp [h1, h6, h7, l35, e3, opMI35, -opMakeInterface, aEnter, fun65, short_other, aCallV]; rw [callS_none]
        refine (ha).mono ?_
        rintro _ W4 ⟨e4, rfl⟩
        simp [h1, h6, h7, he]; exact hR W4 e4) ?_
    rintro W4 e4
    try simp only [wpK_assoc]
    first | refine wpK_onT (by simp []) ?_ | refine wpK_outT (by simp []) ?_ | refine wpK_condT (by simp []) ?_ | refine wpK_endT (by simp []) ?_
    have e04 := e3.trans e4
    have hp := hG.more he
    have hp1 := hG.p1
    obtain ⟨o1, o2⟩ := or_lt hG.lt hp
    refine wpK_block ?_
    have h1q := one_wp p (by omega) W4
    have h1r := fun W' => one_wp p (by omega) W'
    have hor := aBinI_or .u64 S (1 <<< p) (by show S < 18446744073709551616; omega) (one_lt (by omega))
    have ho0 : (S ||| 1 <<< p).testBit 0 = true := by rw [or_bit, hG.z]; rfl
    have hnr := nar (S ||| 1 <<< p) e04 ho0 o2
    have hyes := hG.yes he hxm
    have hno := fun y hn hy => hG.no (y := y) he hxm hmin hn hy
    generalize S ||| 1 <<< p = S' at *
    generalize 1 <<< p = op at *
    try simp only [wpK_assoc]
    try simp only [wpK_assoc]
    refine wpK_d1 (wr := Tr.nil |>.set 27 0 |>.set 28 1 |>.set 29 2 |>.set 30 3 |>.set 31 4 |>.set 32 5 |>.set 33 6 |>.set 34 7) (bits := Tr.nil.lay 0 [0, 0, 0, 4, 14, 31, 0, 127]) (ord := [0, 1, 2, 3, 4, 5, 6, 7]) (by kernel_rfl) (by kernel_rfl) (by kernel_rfl) (fun G hG => by
      simp [h1, h6, h7, h8, l35, e04, vvv, aEnter, fun54, short_other, aCallV]
      rw [dcallS_none]
      refine h1q.mono ?_
      rintro _ W9 ⟨e9, rfl⟩; subst W9
      simp [h1, h6, h7, h8, l35, e04, vvv, hor, aEnter, fun67, short_other, aCallV]
      rw [dcallS_none]
      refine hnr.mono ?_
      rintro _ W5 ⟨e5, y, rfl, hny⟩
      simp [h1, h6, h7, h8, l35, e04, e04.trans e5, e5.1, vvv, hor]
      exact hG y W5 (And.intro e5 hny)) ?_
    rintro y W5 ⟨e5, hny⟩
    try simp only [wpK_assoc]
    refine wpK_cut1 (J := fun A W' => A.n = 42 ∧ A.defers = [] ∧ A.tmps.get 1 = some (.pointer (some ⟨W.next, 0, none⟩)) ∧ A.tmps.get 7 = some (.int .i64 x) ∧ Ext W0 W' ∧ ∃ S2 : Nat, A.tmps.get 6 = some (.int .u64 (S2 : Nat)) ∧ A.tmps.get 8 = some (.int .i64 (p : Nat)) ∧ Grow P L x S2 (p + 1)) (fun Q2 hQ2 => ?_) ?_
    · by_cases hy : y = x
      · refine wpK_endT (by simp [hy]) ?_
        have h1s := h1r W5
        try simp only [wpK_assoc]
        refine wpK_reg1 (fun R hR => by
            simp [h1, h6, h7, h8, aEnter, fun54, short_other, aCallV]; rw [callS_none]
            refine (h1s).mono ?_
            rintro _ W9 ⟨e9, rfl⟩; subst W9
            simp [h6, h8, hor]; exact hR) ?_
        subst hy
        exact hQ2 _ _ ⟨rfl, rfl, by simp [h1, h7], by simp [h1, h7], e04.trans e5, S', by simp, by simp [h8], hyes hny⟩
      · refine wpK_endF (by simp [hy]) (wpK_skip (hQ2 _ _ ⟨rfl, rfl, by simp [h1, h7], by simp [h1, h7], e04.trans e5, S, by simp [h6], by simp [h8], hno y hny hy⟩))
    rintro ⟨tm, n, ds⟩ W6 ⟨hn, hd, h1, h7, e6, S2, h6, h8, hG2⟩
    simp only at hn hd h1 h7
    subst hn; subst hd
    simp only at h6 h8
    simp only [leaves_normal, behind_normal]
    have hsp : IntKind.i64.wrap ((p : Int) + 1) = ((p + 1 : Nat) : Int) := i64_succ p (by omega)
    try simp only [wpK_assoc]
    refine wpK_reg1 (fun R hR => by simp [h8, hsp]; exact hR) ?_
    exact hI (P - (p + 1)) _ _ (by omega) ⟨rfl, rfl, by simp [h1, h7], by simp [h1, h7], e6, S2, p + 1, rfl, by simp [h6], by simp, hG2⟩
  · rintro A' W' hf; exact hf.elim
  · rintro ⟨tm, n, ds⟩ W3 ⟨hn, hd, h1, h7, e3, S, h6, hWk⟩
    simp only at hn hd h1 h7
    subst hn; subst hd
    simp only at h6
    have hSP := hWk.1.2.1
    have hls := list_wp (x := S) (by omega) (Tb e3) (N0 e3)
    rw [memb_more (fun j hj => high_bit hSP hj) 24 (by omega)] at hls
    try simp only [wpK_assoc]
    refine wpK_x1 (fun R hR => by
        simp [h6, h7, aEnter, fun58, short_other, aCallV]; rw [callS_none]
        refine (hls).mono ?_
        rintro lv W4 ⟨e4, hGr⟩
        simp [h6, h7]; exact hR lv W4 (And.intro e4 hGr)) ?_
    rintro lv W4 ⟨e4, hGr⟩
    exact wpK_ret ⟨.inr rfl, rfl, [.int .i64 x, lv, .int .i64 0], by simp [h7], hE0.trans (e3.trans e4), S, x, lv, rfl, hWk, GrowsN.ints hGr⟩
def lexB : List Int → List Int → Bool
  | [], m => !m.isEmpty
  | _ :: _, [] => false
  | a :: l, b :: m => if a = b then lexB l m else decide (a < b)
theorem lexB_asymm : ∀ (l m : List Int), lexB l m = true → lexB m l = false
  | [], [], h => by simp [lexB] at h
  | [], _ :: _, _ => rfl
  | _ :: _, [], h => by simp [lexB] at h
  | a :: l, b :: m, h => by
    simp only [lexB] at h ⊢
    by_cases e : a = b
    · rw [if_pos e] at h; rw [if_pos e.symm]; exact lexB_asymm l m h
    · rw [if_neg e] at h; rw [if_neg (fun e2 => e e2.symm)]
      simp only [decide_eq_true_eq] at h; simp only [decide_eq_false_iff_not]; omega
theorem bef_lex {P : Nat} : ∀ (n S T : Nat), S ≤ n → S < 2 ^ P → T < 2 ^ P → Bef S T → lexB (memb P S) (memb P T) = true := by
  intro n
  induction n using Nat.strongRecOn with
  | _ n ih =>
    intro S T hn hS hT hB
    obtain ⟨k, ha, hb⟩ := hB
    have ltP : ∀ {x j}, x < 2 ^ P → x.testBit j = true → j < P := fun {x j} hx hj => by
      by_cases h : j < P
      · exact h
      · rw [high_bit hx (by omega)] at hj; cases hj
    by_cases hz : S = 0
    · subst hz
      rw [memb_empty P 0 (fun j _ => by simp)]
      have hTz : T ≠ 0 := by
        rintro rfl
        rcases hb with ⟨b1, b2, _⟩ | ⟨b1, b2, _⟩
        · simp at b1
        · simp at b2
      obtain ⟨i, i1, i2⟩ := low_ex hTz
      rw [memb_low i1 i2, if_pos (ltP hT i1)]
      rfl
    obtain ⟨s, s1, s2⟩ := low_ex hz
    have hsP := ltP hS s1
    have hd := dropLow_lt hz
    have hd2 : dropLow T ≤ T := by unfold dropLow; exact Nat.and_le_left
    by_cases hsk : s < k
    · have t1 : T.testBit s = true := by rw [← ha s hsk]; exact s1
      have t2 : ∀ j, j < s → T.testBit j = false := fun j hj => by rw [← ha j (by omega)]; exact s2 j hj
      rw [memb_low s1 s2, memb_low t1 t2, if_pos hsP]
      show lexB ((s : Int) :: memb P (dropLow S)) ((s : Int) :: memb P (dropLow T)) = true
      rw [lexB, if_pos rfl]
      refine ih (dropLow S) (by omega) _ _ (Nat.le_refl _) (by omega) (by omega) ⟨k, fun j hj => ?_, ?_⟩
      · rw [dropLow_bit s1 s2, dropLow_bit t1 t2, ha j hj]
      · simp only [dropLow_bit s1 s2, dropLow_bit t1 t2]
        rcases hb with ⟨b1, b2, j, b3, b4⟩ | ⟨b1, b2, b3⟩
        · exact .inl ⟨by rw [b1]; simp; omega, by rw [b2]; rfl, j, b3, by rw [b4]; simp; omega⟩
        · exact .inr ⟨by rw [b1]; rfl, by rw [b2]; simp; omega, fun j hj => by rw [b3 j hj]; rfl⟩
    · rcases hb with ⟨b1, b2, j, b3, b4⟩ | ⟨b1, b2, b3⟩
      · have hks : s = k := by
          by_cases e : k < s
          · rw [s2 k e] at b1; cases b1
          · omega
        subst hks
        have hTz : T ≠ 0 := by rintro rfl; simp at b4
        obtain ⟨i, i1, i2⟩ := low_ex hTz
        have his : s < i := by
          by_cases e : i < s
          · have := ha i e; rw [s2 i e, i1] at this; cases this
          · by_cases e2 : i = s
            · subst e2; rw [b2] at i1; cases i1
            · omega
        rw [memb_low s1 s2, memb_low i1 i2, if_pos hsP, if_pos (ltP hT i1)]
        show lexB ((s : Int) :: memb P (dropLow S)) ((i : Int) :: memb P (dropLow T)) = true
        rw [lexB, if_neg (by omega)]
        simp; omega
      · exfalso
        by_cases e : s = k
        · subst e; rw [b1] at s1; cases s1
        · rw [b3 s (by omega)] at s1; cases s1
theorem lexB_drop {l m : List Int} {i : Nat} {x y : Int} (ha : l[i]? = some x) (hb : m[i]? = some y) : lexB (l.drop i) (m.drop i) = if x = y then lexB (l.drop (i + 1)) (m.drop (i + 1)) else decide (x < y) := by
  obtain ⟨h1, e1⟩ := List.getElem?_eq_some_iff.1 ha
  obtain ⟨h2, e2⟩ := List.getElem?_eq_some_iff.1 hb
  rw [List.drop_eq_getElem_cons h1, List.drop_eq_getElem_cons h2, e1, e2]
  rfl
theorem before_wp {W : AW} {v w : Value} {l m : List Int} (h : IntL W v l) (h' : IntL W w m) (hl : l.length < 4611686018427387904) : WpF T0 73 [v, w] W (fun u W' => W' = W ∧ u = .bool (lexB l m)) := by
  obtain ⟨A, c, rfl, hA⟩ := h
  obtain ⟨B, d, rfl, hB⟩ := h'
  refine wpF fun73 rfl ?_
  try simp only [wpK_assoc]
  refine wpK_reg (fun R hR => by simp []; exact hR) ?_
  try simp only [wpK_assoc]
  refine wpK_reg (fun R hR => by simp []; exact hR) ?_
  try simp only [wpK_assoc]
  refine wpK_while (I := fun k D W' => D.n = 41 ∧ D.defers = [] ∧ D.tmps.get 0 = some (.slice A l.length c) ∧ D.tmps.get 1 = some (.slice B m.length d) ∧ W' = W ∧ ∃ i : Nat, k = l.length - i ∧ i ≤ l.length ∧ i ≤ m.length ∧ D.tmps.get 5 = some (.int .i64 i) ∧ lexB l m = lexB (l.drop i) (m.drop i))
    (J := fun D W' => D.n = 41 ∧ D.defers = [] ∧ D.tmps.get 0 = some (.slice A l.length c) ∧ D.tmps.get 1 = some (.slice B m.length d) ∧ W' = W ∧ lexB l m = decide (l.length < m.length)) (Rt := fun D W' => D.defers = [] ∧ D.tmps.get 4 = some (.bool (lexB l m)) ∧ W' = W) (k := l.length) ?_ ?_ ?_ ?_
  · exact ⟨rfl, rfl, by simp, by simp, rfl, 0, by simp, by omega, by omega, by simp, by simp⟩
  · rintro k ⟨tm, n, ds⟩ W3 ⟨hn, hd, h0, h1, rfl, i, hk, hi, hi2, h5, htk⟩ Q' hJ hRt hI
    simp only at hn hd h0 h1
    subst hn; subst hd
    simp only at h5
    by_cases hlt : i < l.length
    case neg =>
      have e : i = l.length := by omega
      have hlt' : ¬ (i : Int) < l.length := by omega
      try simp only [wpK_assoc]
      refine wpK_reg (fun R hR => by simp [h0, h1, h5, len_slice und46, hlt', hlt, undef]; exact hR) ?_
      try simp only [wpK_assoc]
      first | refine wpK_onF (by simp [hlt]) ?_ | refine wpK_out (by simp [hlt]) ?_ | refine wpK_condF (by simp [hlt]) ?_ | refine wpK_endF (by simp [hlt]) (wpK_skip ?_) | refine wpK_endF (by simp [hlt]) ?_
      refine hJ _ _ ⟨rfl, rfl, by simp [h0, h1], by simp [h0, h1], rfl, ?_⟩
      rw [htk, e, List.drop_length]
      by_cases e2 : l.length < m.length
      · rw [decide_eq_true e2]
        cases hm : m.drop l.length with
        | nil => have := congrArg List.length hm; simp at this; omega
        | cons a b => rfl
      · rw [decide_eq_false e2, List.drop_of_length_le (by omega)]; rfl
    have hlt' : (i : Int) < l.length := by omega
    by_cases hlm : i < m.length
    case neg =>
      have hlm' : ¬ (i : Int) < m.length := by omega
      try simp only [wpK_assoc]
      refine wpK_reg (fun R hR => by simp [h0, h1, h5, len_slice und46, hlt', hlt, hlm, hlm']; exact hR) ?_
      try simp only [wpK_assoc]
      first | refine wpK_onF (by simp [hlt]) ?_ | refine wpK_out (by simp [hlt]) ?_ | refine wpK_condF (by simp [hlt]) ?_ | refine wpK_endF (by simp [hlt]) (wpK_skip ?_) | refine wpK_endF (by simp [hlt]) ?_
      refine hJ _ _ ⟨rfl, rfl, by simp [h0, h1], by simp [h0, h1], rfl, ?_⟩
      rw [htk, List.drop_of_length_le (show m.length ≤ i by omega), decide_eq_false (by omega)]
      rw [List.drop_eq_getElem_cons hlt]; rfl
    have hlm' : (i : Int) < m.length := by omega
    try simp only [wpK_assoc]
    refine wpK_reg (fun R hR => by simp [h0, h1, h5, len_slice und46, hlt', hlt, hlm, hlm']; exact hR) ?_
    try simp only [wpK_assoc]
    first | refine wpK_onT (by simp [hlt]) ?_ | refine wpK_outT (by simp [hlt]) ?_ | refine wpK_condT (by simp [hlt]) ?_ | refine wpK_endT (by simp [hlt]) ?_
    have ha : l[i]? = some l[i] := List.getElem?_eq_getElem hlt
    have hb : m[i]? = some (m[i]'(by omega)) := List.getElem?_eq_getElem (by omega)
    generalize l[i] = x at ha
    generalize m[i]'_ = y at hb
    have hld := lexB_drop ha hb
    obtain ⟨b, o, rfl, hh⟩ := hA i x ha
    obtain ⟨b', o', rfl, hh'⟩ := hB i y hb
    have hx := indexAddr_slice (T := T0) und46 sz3 (b := b) (o := o) (c := c) (k := .i64) hlt
    have hy := indexAddr_slice (T := T0) und46 sz3 (b := b') (o := o') (c := d) (k := .i64) hlm
    rw [Nat.mul_one] at hx hy
    have hl1 := load_of und3 rfl hh
    have hl2 := load_of und3 rfl hh'
    have hsi : IntKind.i64.wrap ((i : Int) + 1) = ((i + 1 : Nat) : Int) := i64_succ i (by omega)
    refine wpK_block ?_
    try simp only [wpK_assoc]
    refine wpK_dn (wr := Tr.nil |>.set 18 0 |>.set 19 1 |>.set 20 2 |>.set 21 3 |>.set 22 4 |>.set 23 5 |>.set 24 6 |>.set 25 7 |>.set 26 8) (bits := Tr.nil.lay 0 [0, 0, 3, 7, 0, 0, 48, 112, 255]) (ord := [0, 1, 2, 3, 4, 5, 6, 7, 8]) (by kernel_rfl) (by kernel_rfl) (by kernel_rfl) (fun G hG => by
      simp [h0, h1, h5, hx, hy, hl1, hl2]
      exact hG) ?_
    by_cases e : x = y
    · rw [if_pos e] at hld
      try simp only [wpK_assoc]
      first | refine wpK_onF (by simp [e]) ?_ | refine wpK_out (by simp [e]) ?_ | refine wpK_condF (by simp [e]) ?_ | refine wpK_endF (by simp [e]) (wpK_skip ?_) | refine wpK_endF (by simp [e]) ?_
      try simp only [wpK_assoc]
      refine wpK_reg1 (fun R hR => by simp [h5, hsi]; exact hR) ?_
      exact hI (k - 1) _ _ (by omega) ⟨rfl, rfl, by simp [h0, h1], by simp [h0, h1], rfl, i + 1, by omega, by omega, by omega, by simp, by rw [htk, hld]⟩
    · rw [if_neg e] at hld
      try simp only [wpK_assoc]
      first | refine wpK_onT (by simp [e]) ?_ | refine wpK_outT (by simp [e]) ?_ | refine wpK_condT (by simp [e]) ?_ | refine wpK_endT (by simp [e]) ?_
      try simp only [wpK_assoc]
      refine wpK_dn (wr := Tr.nil |>.set 27 0 |>.set 28 1 |>.set 29 2 |>.set 30 3 |>.set 31 4 |>.set 32 5 |>.set 33 6 |>.set 34 7 |>.set 35 8 |>.set 4 9) (bits := Tr.nil.lay 0 [0, 0, 3, 7, 0, 0, 48, 112, 255, 511]) (ord := [0, 1, 2, 3, 4, 5, 6, 7, 8, 9]) (by kernel_rfl) (by kernel_rfl) (by kernel_rfl) (fun G hG => by
        simp [h0, h1, h5, hx, hy, hl1, hl2]
        exact hG) ?_
      exact wpK_ret (hRt _ _ ⟨rfl, by simp [htk, hld], rfl⟩)
  · rintro A' W' ⟨g1, g2, rfl⟩
    exact ⟨.inr rfl, g1, [.bool (lexB l m)], by simp [g2], rfl, rfl⟩
  · rintro ⟨tm, n, ds⟩ W3 ⟨hn, hd, h0, h1, rfl, he⟩
    simp only at hn hd h0 h1
    subst hn; subst hd
    try simp only [wpK_assoc]
    refine wpK_reg (fun R hR => by simp [h0, h1, len_slice und46]; exact hR) ?_
    exact wpK_ret ⟨.inr rfl, rfl, [.bool (lexB l m)], by simp [he], rfl, rfl⟩
theorem part0_odd {P i : Nat} (h : 2 * i + 1 < 2 ^ P - 1) : Part0 P (2 * i + 1) := by
  refine ⟨by rw [Nat.testBit_zero]; simp, by omega, ?_⟩
  apply Classical.byContradiction
  intro hn
  have : 2 * i + 1 = 2 ^ P - 1 := by
    apply Nat.eq_of_testBit_eq
    intro j
    rw [Nat.testBit_two_pow_sub_one]
    by_cases hj : j < P
    · rw [decide_eq_true hj]
      cases hb : (2 * i + 1).testBit j with
      | true => rfl
      | false => exact absurd ⟨j, hj, hb⟩ hn
    · rw [decide_eq_false hj]; exact high_bit (p := P) (by omega) (by omega)
  omega
theorem part0_num {P F : Nat} (h : Part0 P F) : ∃ i, F = 2 * i + 1 ∧ F < 2 ^ P - 1 := by
  obtain ⟨h1, h2, p, h3, h4⟩ := h
  rw [Nat.testBit_zero] at h1
  simp at h1
  refine ⟨F / 2, by omega, ?_⟩
  have : F ≠ 2 ^ P - 1 := by
    intro e
    rw [e, Nat.testBit_two_pow_sub_one, decide_eq_true h3] at h4; cases h4
  omega
def BestW (P : Nat) (L : List Quad) (F : Nat) (x : Int) (mask : Nat) (xb : Int) (lb : List Int) : Prop :=
  (F < mask ∧ xb = x ∧ lb = memb P F) ∨ (mask ≤ F ∧ (xb = -1 ∨ ∃ B, Part0 P B ∧ B < mask ∧ xb = capQ B L ∧ lb = memb P B))
theorem capQ_nn {P : Int} {L : List Quad} (h : PlanIn P L) (S : Nat) : 0 ≤ capQ S L := by
  have := (capQ_le h S L.length (Nat.le_refl _)).1
  rwa [List.take_length] at this
theorem BestW.step {P : Nat} {L : List Quad} {F : Nat} {x : Int} {T : Nat} {xb : Int} {lb : List Int} (hin : PlanIn P L) (hW : Weak P L F x) (hT : Part0 P T) (hF : T ≤ F ∨ F < T) (h : BestW P L F x T xb lb) (hFo : ∀ m, T < m → m ≤ T + 2 → m ≤ F ∨ F < m) (hodd : F ≠ T + 1) :
    BestW P L F x (T + 2) (if (decide (xb < 0) || decide (capQ T L < xb) || (decide (capQ T L = xb) && lexB (memb P T) lb)) = true then capQ T L else xb) (if (decide (xb < 0) || decide (capQ T L < xb) || (decide (capQ T L = xb) && lexB (memb P T) lb)) = true then memb P T else lb) := by
  obtain ⟨hF0, hx, hall⟩ := hW
  have hxn := capQ_nn hin F
  rcases h with ⟨h1, h2, h3⟩ | ⟨h1, h2⟩
  · obtain ⟨a1, a2⟩ := hall T hT
    have hc : (decide (xb < 0) || decide (capQ T L < xb) || (decide (capQ T L = xb) && lexB (memb P T) lb)) = false := by
      rw [h2, h3, decide_eq_false (by omega), decide_eq_false (by omega), Bool.false_or, Bool.false_or]
      by_cases e : capQ T L = x
      · rcases a2 e.symm with e2 | hb
        · omega
        · rw [lexB_asymm _ _ (bef_lex F F T (Nat.le_refl _) hF0.2.1 hT.2.1 hb), Bool.and_false]
      · rw [decide_eq_false e, Bool.false_and]
    rw [hc]
    exact .inl ⟨by omega, h2, h3⟩
  · by_cases e : T = F
    · subst e
      left
      refine ⟨by omega, ?_⟩
      rcases h2 with h2 | ⟨B, b1, b2, b3, b4⟩
      · rw [h2, decide_eq_true (by omega : (-1 : Int) < 0)]; exact ⟨hx.symm, rfl⟩
      · obtain ⟨a1, a2⟩ := hall B b1
        have hc : (decide (xb < 0) || decide (capQ T L < xb) || (decide (capQ T L = xb) && lexB (memb P T) lb)) = true := by
          by_cases e : x = capQ B L
          · rcases a2 e with e2 | hb
            · omega
            · rw [b4, bef_lex T T B (Nat.le_refl _) hT.2.1 b1.2.1 hb, decide_eq_true (by omega : capQ T L = xb)]; simp
          · rw [decide_eq_true (by omega : capQ T L < xb)]; simp
        rw [hc]; exact ⟨hx.symm, rfl⟩
    · right
      refine ⟨by omega, ?_⟩
      cases hc : (decide (xb < 0) || decide (capQ T L < xb) || (decide (capQ T L = xb) && lexB (memb P T) lb)) with
      | true => exact .inr ⟨T, hT, by omega, rfl, rfl⟩
      | false =>
        rcases h2 with h2 | ⟨B, b1, b2, b3, b4⟩
        · exact .inl h2
        · exact .inr ⟨B, b1, by omega, b3, b4⟩
theorem refWeakest_wp {W : AW} {v : Value} {P F : Nat} {x : Int} {lk : List Tri} (h : TriIn W v lk) (hok : planOk P (arcsQ lk) = true) (h100 : lk.length ≤ 100) (hP20 : P ≤ 20) (hF : Weak P (linksQ lk) F x) :
    WpF T0 46 [.agg ⟨[.int .i64 P, v]⟩] W (fun u W' => Ext W W' ∧ ∃ lv, u = .tuple ⟨[.int .i64 x, lv]⟩ ∧ IntL W' lv (memb P F)) := by
  have hPin := links_in hok
  obtain ⟨hP2, hP24, hl200⟩ := hPin.size
  have hokB := both_ok hok h100
  have hpP : 2 ^ P ≤ 2 ^ 20 := Nat.pow_le_pow_right (by omega) hP20
  have hp0 : 0 < 2 ^ P := Nat.two_pow_pos P
  refine wpF fun46 rfl ?_
  obtain ⟨W0, hW0, hE0, hV0⟩ : ∃ W0, W0 = W.newCells 27 [.int .i64 P, v] ∧ Ext W W0 ∧ Var W0 W.next 27 [.int .i64 P, v] := ⟨_, rfl, .newCells _ _ _, Var.new _ _ _⟩
  have l27 := load27 hV0
  try simp only [wpK_assoc]
  refine wpK_reg (fun R hR => by simp [← hW0]; exact hR) ?_
  try simp only [wpK_assoc]
  refine wpK_x2 (P := fun (vb : Value) (pb : Nat) W2 => Ext W0 W2 ∧ TriIn W2 vb (bothL lk) ∧ Var W2 pb 24 [.int .i64 P, vb] ) (fun R hR => by
    simp [l27, aEnter, fun43, short_other, aCallV]; rw [callS_none]
    refine (both_wp (P := (P : Int)) (h.ext hE0) (by omega)).mono ?_
    rintro _ W1 ⟨hE1, vb, rfl, hG⟩
    obtain ⟨av, cv, hvs⟩ := hG.len
    obtain ⟨W2, s1, s2, hE2, hVx⟩ := storeVar_new (T := T0) (W := W1) (t := 24) (v := .agg ⟨[.int .i64 P, vb]⟩) (z := [.int .i64 0, .slice none 0 0]) inf24 (by rw [is24]; rfl) (by rw [is24]; rfl) (by rw [hvs]; rfl)
    obtain ⟨pb, hpb⟩ : ∃ pb, pb = W1.next := ⟨_, rfl⟩
    rw [← hpb] at hVx s1
    simp [zero24, ← hpb, s1]
    exact hR vb pb W2 (And.intro (hE1.trans hE2) (And.intro ((hG.tri).ext hE2) hVx))) ?_
  rintro vb pb W2 ⟨hE2, hTb, hVb⟩
  have hV02 := hV0.ext hE2
  have lP : ∀ W', Ext W2 W' → aLoadVar T0 W' 3 W.next 0 = some (.int .i64 P) := fun W' h => (hV02.ext h).load1 (T := T0) und3 rfl (j := 0) (v := .int .i64 P) rfl
  have l24 : ∀ W', Ext W2 W' → aLoadVar T0 W' 24 pb 0 = some (.agg ⟨[.int .i64 P, vb]⟩) := fun W' h => load24 (hVb.ext h)
  have hwP : IntKind.u64.wrap (P : Int) = P := IntWalk.u64_in _ (by omega)
  have shP : aBinI .shl .i64 1 .u64 (P : Int) = some (.int .i64 ((2 ^ P : Nat) : Int)) := by
    have := aBinI_shl .i64 .u64 1 P (by show P ≤ 64; omega) (by rw [Nat.one_mul]; show 2 ^ P < 9223372036854775808; omega)
    rw [Nat.shiftLeft_eq, Nat.one_mul] at this; exact this
  have hws : IntKind.i64.wrap (((2 ^ P : Nat) : Int) - 1) = ((2 ^ P - 1 : Nat) : Int) := by rw [IntWalk.i64_in _ (by omega)]; omega
  obtain ⟨fi, hfi, hfl⟩ := part0_num hF.1
  obtain ⟨L, hL⟩ : ∃ L, L = linksQ lk := ⟨_, rfl⟩
  have hbits : ∀ {W'} (S : Nat), Ext W2 W' → WpF T0 70 [.agg ⟨[.int .i64 P, vb]⟩, .int .i64 S] W' (fun u W'' => Ext W' W'' ∧ u = .int .i64 (capQ S L)) := fun S e => by
    have := bits_wp (hTb.ext e) hokB S
    rw [capQ_both, ← hL] at this; exact this
  rw [← hL] at hF hPin
  obtain ⟨pm, hpm⟩ : ∃ pm : Nat, pm = 2 ^ P - 1 := ⟨_, rfl⟩
  rw [← hpm] at hws hfl
  obtain ⟨r, hr⟩ : ∃ r, pm = 2 * r + 1 := by
    obtain ⟨P', rfl⟩ : ∃ P', P = P' + 1 := ⟨P - 1, by omega⟩
    have h1 : 2 ^ (P' + 1) = 2 * 2 ^ P' := by rw [Nat.pow_succ]; omega
    have h2 : 0 < 2 ^ P' := Nat.two_pow_pos P'
    exact ⟨2 ^ P' - 1, by omega⟩
  have hpm2 : pm ≤ 2 ^ 20 := by omega
  obtain ⟨pw, hpw⟩ : ∃ pw : Int, pw = ((2 ^ P : Nat) : Int) := ⟨_, rfl⟩
  rw [← hpw] at hws shP
  try simp only [wpK_assoc]
  refine wpK_reg (fun R hR => by simp []; exact hR) ?_
  try simp only [wpK_assoc]
  refine wpK_reg (fun R hR => by simp []; exact hR) ?_
  try simp only [wpK_assoc]
  refine wpK_reg (fun R hR => by simp []; exact hR) ?_
  try simp only [wpK_assoc]
  refine wpK_while (I := fun k A W' => A.n = 49 ∧ A.defers = [] ∧ A.tmps.get 1 = some (.pointer (some ⟨W.next, 0, none⟩)) ∧ A.tmps.get 4 = some (.pointer (some ⟨pb, 0, none⟩)) ∧ Ext W2 W' ∧ ∃ (i : Nat) (xb : Int) (lv : Value) (lb : List Int), k = pm - i ∧ 2 * i + 1 ≤ pm ∧ A.tmps.get 7 = some (.int .i64 ((2 * i + 1 : Nat) : Int)) ∧ A.tmps.get 5 = some (.int .i64 xb) ∧ A.tmps.get 6 = some lv ∧ IntL W' lv lb ∧ lb.length ≤ 24 ∧ BestW P L F x (2 * i + 1) xb lb)
    (J := fun A W' => A.n = 49 ∧ A.defers = [] ∧ A.tmps.get 1 = some (.pointer (some ⟨W.next, 0, none⟩)) ∧ A.tmps.get 4 = some (.pointer (some ⟨pb, 0, none⟩)) ∧ Ext W2 W' ∧ ∃ (lv : Value), A.tmps.get 5 = some (.int .i64 x) ∧ A.tmps.get 6 = some lv ∧ IntL W' lv (memb P F)) (Rt := fun _ _ => False) (k := pm) ?_ ?_ ?_ ?_
  · exact ⟨rfl, rfl, by simp, by simp, .refl _ _, 0, -1, .slice none 0 0, [], by omega, by omega, by simp, by simp, by simp, ⟨none, 0, rfl, fun i a hi => by simp at hi⟩, by simp, .inr ⟨by omega, .inl rfl⟩⟩
  · rintro k ⟨tm, n, ds⟩ W3 ⟨hn, hd, h1, h4, e3, i, xb, lv, lb, hk, hi, h7, h5, h6, hI6, hlb, hB⟩ Q' hJ hRt hI
    simp only at hn hd h1 h4
    subst hn; subst hd
    simp only at h7 h5 h6
    obtain ⟨mk, hmk⟩ : ∃ mk : Nat, mk = 2 * i + 1 := ⟨_, rfl⟩
    rw [← hmk] at h7 hB hi
    by_cases hlt : mk < pm
    case neg =>
      have hlt' : ¬ (mk : Int) < (pm : Int) := by omega
      try simp only [wpK_assoc]
      refine wpK_reg (fun R hR => by simp [h1, h7, lP, e3, conv_3_82, hwP, shP, hws, hlt', hlt]; exact hR) ?_
      try simp only [wpK_assoc]
      first | refine wpK_onF (by simp [hlt]) ?_ | refine wpK_out (by simp [hlt]) ?_ | refine wpK_condF (by simp [hlt]) ?_ | refine wpK_endF (by simp [hlt]) (wpK_skip ?_) | refine wpK_endF (by simp [hlt]) ?_
      rcases hB with ⟨b1, b2, b3⟩ | ⟨b1, _⟩
      · exact hJ _ _ ⟨rfl, rfl, by simp [h1, h4], by simp [h1, h4], e3, lv, by simp [h5, b2], by simp [h6], by rw [← b3]; exact hI6⟩
      · omega
    have hlt' : (mk : Int) < (pm : Int) := by omega
    try simp only [wpK_assoc]
    refine wpK_reg (fun R hR => by simp [h1, h7, lP, e3, conv_3_82, hwP, shP, hws, hlt', hlt]; exact hR) ?_
    try simp only [wpK_assoc]
    first | refine wpK_onT (by simp [hlt]) ?_ | refine wpK_outT (by simp [hlt]) ?_ | refine wpK_condT (by simp [hlt]) ?_ | refine wpK_endT (by simp [hlt]) ?_
    refine wpK_block ?_
    have hb3 := hbits mk e3
    try simp only [wpK_assoc]
    refine wpK_x0 (fun R hR => by
        simp [h4, h7, l24, e3, aEnter, fun70, short_other, aCallV]; rw [callS_none]
        refine (hb3).mono ?_
        rintro _ W4 ⟨e4, rfl⟩
        simp [h4, h7, l24, e3]; exact hR W4 e4) ?_
    rintro W4 e4
    have e24 := e3.trans e4
    try simp only [wpK_assoc]
    refine wpK_x1 (fun R hR => by
        simp [h1, h7, lP, e24, aEnter, fun37, short_other, aCallV]; rw [callS_none]
        refine (members_wp P mk (by omega) W4).mono ?_
        rintro lt W5 ⟨e5, hGt⟩
        simp [h1, h7, lP, e24]; exact hR lt W5 (And.intro e5 hGt)) ?_
    rintro lt W5 ⟨e5, hGt⟩
    have e25 := e24.trans e5
    have hIt := GrowsN.ints hGt
    have hI65 := (hI6.ext e4).ext e5
    have hT : Part0 P mk := by rw [hmk]; exact part0_odd (by omega)
    have hml := memb_len P mk
    have hst := hB.step hPin hF hT (by omega) (fun m _ _ => by omega) (by omega)
    have hbw := before_wp hIt hI65 (by omega)
    obtain ⟨y, hy⟩ : ∃ y, y = capQ mk L := ⟨_, rfl⟩
    rw [← hy] at hst
    obtain ⟨lx, hlx⟩ : ∃ lx, lx = lexB (memb P mk) lb := ⟨_, rfl⟩
    rw [← hlx] at hst hbw
    obtain ⟨cb, hcb⟩ : ∃ cb, cb = (decide (xb < 0) || decide (y < xb) || (decide (y = xb) && lx)) := ⟨_, rfl⟩
    rw [← hcb] at hst
    try simp only [wpK_assoc]
    refine wpK_cut (J := fun A W' => A.n = 49 ∧ A.defers = [] ∧ A.tmps.get 1 = some (.pointer (some ⟨W.next, 0, none⟩)) ∧ A.tmps.get 4 = some (.pointer (some ⟨pb, 0, none⟩)) ∧ W' = W5 ∧ A.tmps.get 7 = some (.int .i64 (mk : Int)) ∧ A.tmps.get 5 = some (.int .i64 xb) ∧ A.tmps.get 6 = some lv ∧ A.tmps.get 8 = some (.int .i64 y) ∧ A.tmps.get 9 = some lt ∧ A.tmps.get 44 = some (.bool cb)) (fun Q2 hQ2 => ?_) ?_
    · by_cases d1 : xb < 0
      · try simp only [wpK_assoc]
        refine wpK_reg1 (fun R hR => by simp [h5, h6, h7, d1, undef]; exact hR) ?_
        exact hQ2 _ _ ⟨rfl, rfl, by simp [h1, h4], by simp [h1, h4], rfl, by simp [h7], by simp [h5], by simp [h6], by simp [hy], by simp, by simp [hcb, d1]⟩
      · by_cases d2 : y < xb
        · try simp only [wpK_assoc]
          refine wpK_reg1 (fun R hR => by simp [h5, h6, h7, d1, d2, ← hy, undef]; exact hR) ?_
          exact hQ2 _ _ ⟨rfl, rfl, by simp [h1, h4], by simp [h1, h4], rfl, by simp [h7], by simp [h5], by simp [h6], by simp [hy], by simp, by simp [hcb, d1, d2]⟩
        · by_cases d3 : y = xb
          · try simp only [wpK_assoc]
            refine wpK_reg1 (fun R hR => by
                simp [h5, h6, h7, d1, d2, d3, ← hy, undef, aEnter, fun73, short_other, aCallV]; rw [callS_none]
                refine (hbw).mono ?_
                rintro _ W9 ⟨e9, rfl⟩; subst W9
                simp [h5, h6, h7, d1, d2, d3, ← hy, undef]; exact hR) ?_
            exact hQ2 _ _ ⟨rfl, rfl, by simp [h1, h4], by simp [h1, h4], rfl, by simp [h7], by simp [h5], by simp [h6], by simp [← hy, d3], by simp, by simp [hcb, d1, d2, d3]⟩
          · try simp only [wpK_assoc]
            refine wpK_reg1 (fun R hR => by simp [h5, h6, h7, d1, d2, d3, ← hy, undef]; exact hR) ?_
            exact hQ2 _ _ ⟨rfl, rfl, by simp [h1, h4], by simp [h1, h4], rfl, by simp [h7], by simp [h5], by simp [h6], by simp [hy], by simp, by simp [hcb, d1, d2, d3]⟩
    rintro ⟨tm, n, ds⟩ W6 ⟨hn, hd, h1, h4, rfl, h7, h5, h6, h8, h9, h44⟩
    simp only at hn hd h1 h4
    subst hn; subst hd
    simp only at h7 h5 h6 h8 h9 h44
    clear hcb
    try simp only [wpK_assoc]
    refine wpK_cut1 (J := fun A W' => A.n = 49 ∧ A.defers = [] ∧ A.tmps.get 1 = some (.pointer (some ⟨W.next, 0, none⟩)) ∧ A.tmps.get 4 = some (.pointer (some ⟨pb, 0, none⟩)) ∧ W' = W6 ∧ A.tmps.get 7 = some (.int .i64 (mk : Int)) ∧ ∃ xb' lv' lb', xb' = (if cb = true then y else xb) ∧ lb' = (if cb = true then memb P mk else lb) ∧ A.tmps.get 5 = some (.int .i64 xb') ∧ A.tmps.get 6 = some lv' ∧ IntL W6 lv' lb') (fun Q2 hQ2 => ?_) ?_
    · cases cb with
      | true =>
        refine wpK_endT (by simp [h44]) ?_
        try simp only [wpK_assoc]
        refine wpK_reg1 (fun R hR => by simp [h8, h9]; exact hR) ?_
        exact hQ2 _ _ ⟨rfl, rfl, by simp [h1, h4], by simp [h1, h4], rfl, by simp [h7], y, lt, _, rfl, rfl, by simp, by simp, hIt⟩
      | false => refine wpK_endF (by simp [h44]) (wpK_skip (hQ2 _ _ ⟨rfl, rfl, by simp [h1, h4], by simp [h1, h4], rfl, by simp [h7], xb, lv, _, rfl, rfl, by simp [h5], by simp [h6], hI65⟩))
    rintro ⟨tm, n, ds⟩ W7 ⟨hn, hd, h1, h4, rfl, h7, xb', lv', lb', hx', hl', h5, h6, hI7⟩
    simp only at hn hd h1 h4
    subst hn; subst hd
    simp only at h7 h5 h6
    rw [← hx', ← hl'] at hst
    simp only [leaves_normal, behind_normal]
    have hlb2 : lb'.length ≤ 24 := by rw [hl']; split <;> omega
    obtain ⟨mk', hmk'⟩ : ∃ mk' : Nat, mk' = mk + 2 := ⟨_, rfl⟩
    have hsp : IntKind.i64.wrap ((mk : Int) + 2) = (mk' : Int) := by rw [IntWalk.i64_in _ (by omega)]; omega
    try simp only [wpK_assoc]
    refine wpK_reg1 (fun R hR => by simp [h7, hsp]; exact hR) ?_
    rw [← hmk'] at hst
    have he : mk' = 2 * (i + 1) + 1 := by omega
    rw [he] at hst
    exact hI (pm - (i + 1)) _ _ (by omega) ⟨rfl, rfl, by simp [h1, h4], by simp [h1, h4], e25, i + 1, xb', lv', lb', rfl, by omega, by simp [he], by simp [h5], by simp [h6], hI7, hlb2, hst⟩
  · rintro A' W' hf; exact hf.elim
  · rintro ⟨tm, n, ds⟩ W3 ⟨hn, hd, h1, h4, e3, lv, h5, h6, hIl⟩
    simp only at hn hd h1 h4
    subst hn; subst hd
    simp only at h5 h6
    try simp only [wpK_assoc]
    refine wpK_reg (fun R hR => by simp [h5, h6]; exact hR) ?_
    exact wpK_ret ⟨.inr rfl, rfl, [.int .i64 x, lv], by simp, (hE0.trans hE2).trans e3, lv, rfl, hIl⟩
theorem branches_wp {W : AW} {v : Value} {l : List Bra} (h : TriIn W v l) (hl : l.length ≤ 1000) : WpF T0 45 [v] W (fun u W' => Ext W W' ∧ TriIn W' u l) := by
  obtain ⟨Ab, c, rfl, hA⟩ := h
  refine wpF fun45 rfl ?_
  try simp only [wpK_assoc]
  refine wpK_reg (fun R hR => by simp []; exact hR) ?_
  try simp only [wpK_assoc]
  refine wpK_reg (fun R hR => by simp [zero92]; exact hR) ?_
  try simp only [wpK_assoc]
  refine wpK_reg (fun R hR => by simp []; exact hR) ?_
  try simp only [wpK_assoc]
  refine wpK_while (I := fun k A W' => A.n = 19 ∧ A.defers = [] ∧ A.tmps.get 0 = some (.slice Ab l.length c) ∧ Ext W W' ∧ ∃ (j : Nat) (w : Value), k = l.length - j ∧ j ≤ l.length ∧ A.tmps.get 4 = some (.int .i64 j) ∧ A.tmps.get 3 = some w ∧ GrowsN W' w j (flat3 (l.take j)) 97 3 (fun b => W.next ≤ b))
    (J := fun A W' => A.n = 19 ∧ A.defers = [] ∧ Ext W W' ∧ ∃ w : Value, A.tmps.get 3 = some w ∧ TriIn W' w l) (Rt := fun _ _ => False) (k := l.length) ?_ ?_ ?_ ?_
  · exact ⟨rfl, rfl, by simp, .refl _ _, 0, .slice none 0 0, by simp, by omega, by simp, by simp, .nil _ _ _ _⟩
  · rintro k ⟨tm, n, ds⟩ W6 ⟨hn, hd, h0, e6, j, w, hk, hj, h4, h3, hG⟩ Q' hJ hRt hI
    simp only at hn hd h0
    subst hn; subst hd
    simp only at h4 h3
    try simp only [wpK_assoc]
    refine wpK_reg (fun R hR => by simp [h0, h4, len_slice und59]; exact hR) ?_
    by_cases hltj : j < l.length
    case neg =>
      have e : j = l.length := by omega
      subst e
      rw [List.take_length] at hG
      try simp only [wpK_assoc]
      first | refine wpK_onF (by simp [hltj]) ?_ | refine wpK_out (by simp [hltj]) ?_ | refine wpK_condF (by simp [hltj]) ?_ | refine wpK_endF (by simp [hltj]) (wpK_skip ?_) | refine wpK_endF (by simp [hltj]) ?_
      exact hJ _ _ ⟨rfl, rfl, e6, w, by simp [h3], hG.tri⟩
    try simp only [wpK_assoc]
    first | refine wpK_onT (by simp [hltj]) ?_ | refine wpK_outT (by simp [hltj]) ?_ | refine wpK_condT (by simp [hltj]) ?_ | refine wpK_endT (by simp [hltj]) ?_
    have hsj : IntKind.i64.wrap ((j : Int) + 1) = ((j + 1 : Nat) : Int) := i64_succ j (by omega)
    have ha : l[j]? = some l[j] := List.getElem?_eq_getElem hltj
    generalize l[j] = a at ha
    obtain ⟨b, o, hAv, q1, q2, q3⟩ := hA j _ ha
    have eV := indexAddr_tri (T := T0) und59 sz66 (b := b) (o := o) (c := c) (k := .i64) hltj
    rw [← hAv] at eV
    have ld := load3 (T := T0) und66 agg66 inf66 is66 (q1.ext e6) (q2.ext e6) (q3.ext e6)
    obtain ⟨w', W7, p1, p2, p3, p4⟩ := push3_tmp (t := 92) und92 inf97 is97 z97 rfl by97 hG (by omega) (u := cells3 a) rfl (oneCells_tri a)
    have p1 : aAppend T0 (W6.newCells 97 [.int .i64 a.1, .int .i64 a.2.1, .int .i64 a.2.2]) [92, 92] [w, .slice (some ⟨W6.next, 0, none⟩) 1 2] = some (w', W7) := p1
    refine wpK_block ?_
    try simp only [wpK_assoc]
    refine wpK_reg1 (fun R hR => by simp [h0, h3, h4, eV, ld, bs92, p1]; exact hR) ?_
    try simp only [leaves_normal, behind_normal]
    try simp only [wpK_assoc]
    refine wpK_reg1 (fun R hR => by simp [h4, hsj]; exact hR) ?_
    have n6 := e6.1
    refine hI (k - 1) _ _ (by omega) ⟨rfl, rfl, by simp [h0], ⟨by omega, fun b hb hk => by rw [p4.2 b (by omega) (by omega)]; exact e6.2 b hb hk⟩, j + 1, w', by omega, by omega, by simp, by simp, ?_⟩
    have e : flat3 (l.take (j + 1)) = flat3 (l.take j) ++ cells3 a := by
      rw [List.take_add_one, ha, Option.toList_some, flat3_append]
      simp [flat3]
    rw [e]
    exact p3.mono (fun b hb => by omega)
  · rintro A' W' hf; exact hf.elim
  · rintro ⟨tm, n, ds⟩ W6 ⟨hn, hd, e6, w, h3, hw⟩
    simp only at hn hd h3
    subst hn; subst hd
    try simp only [wpK_assoc]
    refine wpK_reg (fun R hR => by simp [h3]; exact hR) ?_
    exact wpK_ret ⟨.inr rfl, rfl, [w], by simp, e6, hw⟩
theorem GH.weights {P : Nat} {L : List Quad} {a : Nat → Nat} {w : Nat → Int} {D : Nat → Nat → Bool} {rk : Nat → Nat} (h : GH P L a w D rk P) (hin : PlanIn P L) : ∀ b ∈ treeL a w (P - 1), b.2.2 ≤ maxI := fun b hb => by
  obtain ⟨i, hi⟩ := List.mem_iff_getElem?.1 hb
  obtain ⟨h1, rfl⟩ := treeL_get hi
  have hv := h.val (i + 1) (by omega) (by omega)
  rw [← bitsF_cap hin] at hv
  have h2 := (capQ_le hin (bitsF (D (i + 1)) P) L.length (Nat.le_refl _)).2
  rw [List.take_length, hv] at h2
  have h3 := hin.size.2.2
  show w (i + 1) ≤ maxI
  unfold maxI; omega
theorem flowTrees_wp {W : AW} {v0 : Value} (P0 oa ob : Int) {l0 : List Tri} (h0 : TriIn W v0 l0) (hlen0 : l0.length < 9223372036854775808) (htb : tabsIn T0 T0.tabs W = true) (hW0 : 0 < W.next) :
    WpF T0 7 [.agg ⟨[.int .i64 P0, v0]⟩, .agg ⟨[.int .i64 oa, .int .i64 ob]⟩] W (fun u _ => u = .bool true) := by
  refine wpF fun7 rfl ?_
  obtain ⟨W1, hW1, hE1, hn1, hV3, hV4⟩ : ∃ W1, W1 = (W.newCells 27 [.int .i64 P0, v0]).newCells 28 [.int .i64 oa, .int .i64 ob] ∧ Ext W W1 ∧ W1.next = W.next + 2 ∧ Var W1 W.next 27 [.int .i64 P0, v0] ∧ Var W1 (W.next + 1) 28 [.int .i64 oa, .int .i64 ob] :=
    ⟨_, rfl, (Only.newCells _ _ _).trans (Only.newCells _ _ _), rfl, (Var.new _ _ _).ext (.newCells _ _ _), Var.new _ _ _⟩
  have hl3 := load27 hV3
  try simp only [wpK_assoc]
  refine wpK_reg (fun R hR => by simp [newCells_next, ← hW1]; exact hR) ?_
  try simp only [wpK_assoc]
  refine wpK_x4 (fun R hR => by
    simp [hl3, aEnter, fun42, short_other, aCallV]; rw [callS_none]
    refine (tamed_wp 8 16 (by omega) (by omega) (by omega) P0 (h0.ext hE1) hlen0).mono ?_
    rintro _ W2 ⟨hE2, P, l, v, hT, rfl, hG⟩
    obtain ⟨av, cv, hvs⟩ := hG.len
    obtain ⟨W3, s1, s2, hE3, hVx⟩ := storeVar_new (T := T0) (W := W2) (t := 27) (v := .agg ⟨[.int .i64 P, v]⟩) (z := [.int .i64 0, .slice none 0 0]) inf27 (by rw [is27]; rfl) (by rw [is27]; rfl) (by rw [hvs]; rfl)
    simp [zero27, s1]
    exact hR P l v W2 W3 (And.intro (hE2.trans hE3) (And.intro hT (And.intro hVx ((hG.tri).ext hE3))))) ?_
  rintro P l v W2 W3 ⟨hE3, hT, hVx, hTri⟩
  generalize hpx : W2.next = px at hVx
  have hP2 := hT.P2
  have hPle := hT.Ple
  have hok := hT.plan (by omega) (by omega)
  have hll := hT.len
  have hin := links_in hok
  have hsym := links_sym hok
  have hokB := both_ok hok (by omega)
  have hE13 := hE1.trans hE3
  have hTb3 := tabs_ext htb hW0 hE13
  have h03 : 0 < W3.next := Nat.lt_of_lt_of_le hW0 hE13.1
  have hl43 : ∀ W', Ext W3 W' → aLoadVar T0 W' 28 (W.next + 1) 0 = some (.agg ⟨[.int .i64 oa, .int .i64 ob]⟩) := fun W' h => ((hV4.ext hE3).ext h).load (T := T0) (t := 28) und28 rfl (show T0.info.get 28 = some Tryd.t28 by kernel_rfl) (show Tryd.t28.size = _ by kernel_rfl)
  have LP : ∀ W', Ext W3 W' → aLoadVar T0 W' 3 px 0 = some (.int .i64 P) := fun W' h => (hVx.ext h).load1 (T := T0) und3 rfl (j := 0) (v := .int .i64 P) rfl
  have Lx : ∀ W', Ext W3 W' → aLoadVar T0 W' 27 px 0 = some (.agg ⟨[.int .i64 P, v]⟩) := fun W' h => load27 (hVx.ext h)
  have e33 : Ext W3 W3 := .refl _ _
  have Tb : ∀ {W'}, Ext W3 W' → tabsIn T0 T0.tabs W' = true := fun h => tabs_ext hTb3 h03 h
  have N0 : ∀ {W'}, Ext W3 W' → 0 < W'.next := fun h => Nat.lt_of_lt_of_le h03 h.1
  have vvv := tri_eq hTri
  try simp only [wpK_assoc]
  refine wpK_x2 (fun R hR => by
      simp [LP, hl43, e33, aEnter, fun31, short_other, aCallV]; rw [callS_none]
      refine (ends_wp P oa ob hP2 (by omega)).mono ?_
      rintro _ W4 ⟨f1, s, t, rfl, hst, hsP, htP, hne⟩
      simp [LP, hl43, e33]; exact hR s t W4 (And.intro f1 (And.intro hst (And.intro hsP (And.intro htP hne))))) ?_
  rintro s t W4 ⟨f1, hst, hsP, htP, hne⟩
  -- the least cut
  try simp only [wpK_assoc]
  refine wpK_x4 (fun R hR => by
    simp [Lx, f1, aEnter, fun13, short_other, aCallV]; rw [callS_none]
    refine (board_wp (P := (P : Int)) (hTri.ext f1) (by omega)).mono ?_
    rintro _ W5 ⟨g1, vn, rfl, hGn⟩
    have e5 := f1.trans g1
    simp [aEnter, fun25, short_other, aCallV]; rw [callS_none]
    refine (least_ok (P := (P : Int)) hGn.tri hin hst (Tb e5) (N0 e5)).mono ?_
    rintro _ W6 ⟨g2, x, rm, lv, rfl, hF⟩
    simp; exact hR x rm lv vn W6 (And.intro (e5.trans g2) hF)) ?_
  rintro x rm lv vn W6 ⟨e6, hF⟩
  obtain ⟨nb, nlt⟩ := near_in hin hsP hF
  obtain ⟨c1, c2, c3, c4⟩ := filled_capQ hin (by omega) (by omega) hF
  have hmc : MinCut (linksQ l) s t x := ⟨⟨_, ⟨c3, c4⟩, c2.symm⟩, fun T hT => (c1 T hT.1 hT.2).1⟩
  have hnb : ∀ q, (nearS lv 24).testBit q = true → q < 24 ∧ 0 < lv q := fun q hq => by
    rw [nearS_bit] at hq; simpa using hq
  have hls := fun {W'} (e : Ext W3 W') (vb : Value) (hb : TriIn W' vb (bothL l)) => least32_wp (x := x) hb hokB (by omega) hsP htP nlt ⟨c3, c4⟩ (by rw [capQ_both]; exact c2) (fun T hc => by
    rw [capQ_both]; exact ⟨(c1 T hc.1 hc.2).1, fun he q hq => (c1 T hc.1 hc.2).2 he q (hnb q hq).1 (hnb q hq).2⟩)
  try simp only [wpK_assoc]
  refine wpK_x2 (fun R hR => by
    simp [Lx, e6, aEnter, fun43, short_other, aCallV]; rw [callS_none]
    refine (both_wp (P := (P : Int)) (hTri.ext e6) (by omega)).mono ?_
    rintro _ W7 ⟨g1, vb, rfl, hGb⟩
    simp [aEnter, fun32, short_other, aCallV]; rw [callS_none]
    refine (hls (e6.trans g1) vb hGb.tri).mono ?_
    rintro _ W8 ⟨g2, sl, rfl, _⟩
    simp; exact hR vb sl W8 (g1.trans g2)) ?_
  rintro vb sl W8 g8
  have e8 := e6.trans g8
  -- the tree
  try simp only [wpK_assoc]
  refine wpK_x6 (fun R hR => by
    simp [Lx, e8, aEnter, fun13, short_other, aCallV]; rw [callS_none]
    refine (board_wp (P := (P : Int)) (hTri.ext e8) (by omega)).mono ?_
    rintro _ W9 ⟨g1, vn2, rfl, hGn⟩
    simp [aEnter, fun27, short_other, aCallV]; rw [callS_none]
    refine (tree_wp (P := P) hGn.tri hok (Tb (e8.trans g1)) (N0 (e8.trans g1))).mono ?_
    rintro _ W10 ⟨g2, tv, a, w, D, rk, rfl, hGH, hTt⟩
    simp; exact hR vn2 tv a w D rk W10 (And.intro (g1.trans g2) (And.intro hGH hTt))) ?_
  rintro vn2 tv a w D rk W10 ⟨g10, hGH, hTt⟩
  have e10 := e8.trans g10
  have hTB := hGH.tree hin hP2 (by omega)
  have hwt := hGH.weights hin
  have htl := treeL_len a w (P - 1)
  have hjo := hTB.2.1
  have hbt := fun y (hm : MinW (treeL a w (P - 1)) s t y) => (hGH.between hsym hin hP2 hsP htP hm).one hmc
  generalize treeL a w (P - 1) = B at hTt hTB hwt htl hjo hbt
  refine wpK_keep (fun tm' => tm'.get 5 = some (.pointer (some ⟨px, 0, none⟩)) ∧ tm'.get 6 = some (.int .i64 s) ∧ tm'.get 7 = some (.int .i64 t) ∧ tm'.get 8 = some (.int .i64 x) ∧ tm'.get 9 = some (.int .i64 0) ∧ tm'.get 10 = some (.int .i64 x) ∧ tm'.get 12 = some (tv) ∧ tm'.get 13 = some (.int .i64 0)) ⟨by simp [hpx], by simp [hpx], by simp [hpx], by simp [hpx], by simp [hpx], by simp [hpx], by simp [hpx], by simp [hpx]⟩ ?_
  rintro tm ⟨h5, h6, h7, h8, h9, h10, h12, h13⟩
  have hB1000 : B.length ≤ 1000 := by omega
  try simp only [wpK_assoc]
  try simp only [wpK_assoc]
  refine wpK_d2 (wr := Tr.nil |>.set 52 0 |>.set 53 1 |>.set 54 2 |>.set 55 3 |>.set 56 4 |>.set 57 5 |>.set 58 6 |>.set 59 7 |>.set 60 8 |>.set 61 9 |>.set 62 10 |>.set 63 11 |>.set 64 12 |>.set 65 13 |>.set 66 14 |>.set 67 15 |>.set 68 16 |>.set 69 17 |>.set 70 18 |>.set 71 19 |>.set 72 20 |>.set 73 21 |>.set 74 22 |>.set 75 23 |>.set 76 24) (bits := Tr.nil.lay 0 [0, 1, 3, 7, 15, 31, 63, 127, 127, 511, 1023, 2047, 4095, 4095, 12287, 32767, 65535, 131071, 262143, 524287, 1048575, 524287, 4194303, 8388607, 16777215]) (ord := [0, 1, 2, 3, 4, 5, 6, 7, 8, 9, 10, 11, 12, 13, 14, 15, 16, 17, 18, 19, 20, 21, 22, 23, 24]) (by kernel_rfl) (by kernel_rfl) (by kernel_rfl) (fun G hG => by
    simp [h5, h8, h9, h10, h12, h13, Lx, e10, vvv, aEnter, fun45, short_other, aCallV]
    rw [dcallS_none]
    refine (branches_wp hTt hB1000).mono ?_
    rintro u W11 ⟨g11, hTu⟩
    have e11 := e10.trans g11
    simp [h5, h8, h9, h10, h12, h13, Lx, e10, e11, g11.1, vvv, aEnter, fun44, short_other, aCallV]
    rw [dcallS_none]
    refine (refIsTree_wp (P := P) (hTri.ext e11) hok (by omega) (by omega) hTu hB1000 (Tb e11) (N0 e11)).mono ?_
    rintro _ W12 ⟨g12, ⟨g, rfl⟩ | ⟨g, rfl⟩⟩
    · have e12 := e11.trans g12
      simp [h5, h8, h9, h10, h12, h13, Lx, e10, e11, e12, g11.1, g12.1, (g11.trans g12).1, vvv, aEnter, fun13, short_other, aCallV]
      rw [dcallS_none]
      refine (board_wp (P := (P : Int)) (hTri.ext e12) (by omega)).mono ?_
      rintro _ W13 ⟨g13, vn3, rfl, hGn⟩
      have e13 := e12.trans g13
      simp [h5, h8, h9, h10, h12, h13, Lx, e10, e11, e12, e13, g11.1, g12.1, g13.1, (g11.trans g12).1, (g12.trans g13).1, ((g11.trans g12).trans g13).1, vvv, aEnter, fun29, short_other, aCallV]
      rw [dcallS_none]
      refine (isTree_wp (P := P) hGn.tri hok (hTt.ext ((g11.trans g12).trans g13)) hB1000 (Tb e13) (N0 e13)).mono ?_
      rintro _ W14 ⟨g14, ⟨_, rfl⟩ | ⟨gg, _⟩⟩
      · have e14 := e13.trans g14
        simp [h5, h8, h9, h10, h12, h13, Lx, e10, e11, e12, e13, e14, g11.1, g12.1, g13.1, g14.1, (g11.trans g12).1, (g12.trans g13).1, ((g11.trans g12).trans g13).1, (g13.trans g14).1, ((g12.trans g13).trans g14).1, (((g11.trans g12).trans g13).trans g14).1, vvv]
        exact hG u vn3 W14 (((g11.trans g12).trans g13).trans g14)
      · exact absurd hTB gg
    · exact absurd hTB g) ?_
  rintro u vn3 W14 g14
  have e14 := e10.trans g14
  try simp only [wpK_assoc]
  first | refine wpK_onF (by simp []) ?_ | refine wpK_out (by simp []) ?_ | refine wpK_condF (by simp []) ?_ | refine wpK_endF (by simp []) (wpK_skip ?_) | refine wpK_endF (by simp []) ?_
  -- the weakest
  try simp only [wpK_assoc]
  refine wpK_x4 (fun R hR => by
    simp [h5, Lx, e14, aEnter, fun13, short_other, aCallV]; rw [callS_none]
    refine (board_wp (P := (P : Int)) (hTri.ext e14) (by omega)).mono ?_
    rintro _ W15 ⟨k1, vn4, rfl, hGn⟩
    have e15 := e14.trans k1
    simp [aEnter, fun28, short_other, aCallV]; rw [callS_none]
    refine (weakest_wp (P := P) hGn.tri hok (Tb e15) (N0 e15)).mono ?_
    rintro _ W16 ⟨k2, Fw, xw, lw, rfl, hWk, hIw⟩
    simp; exact hR vn4 Fw xw lw W16 (And.intro (e15.trans k2) (And.intro (k1.trans k2) (And.intro hWk hIw)))) ?_
  rintro vn4 Fw xw lw W16 ⟨e16, g16, hWk, hIw⟩
  try simp only [wpK_assoc]
  refine wpK_x1 (fun R hR => by
      simp [h5, Lx, e16, aEnter, fun46, short_other, aCallV]; rw [callS_none]
      refine (refWeakest_wp (P := P) (hTri.ext e16) hok (by omega) (by omega) hWk).mono ?_
      rintro _ W17 ⟨k3, lr, rfl, hIr⟩
      simp [h5, Lx, e16]; exact hR lr W17 (And.intro k3 hIr)) ?_
  rintro lr W17 ⟨k3, hIr⟩
  have e17 := e16.trans k3
  have hTt17 := ((hTt.ext g14).ext g16).ext k3
  have hst2 := hst
  try simp only [wpK_assoc]
  refine wpK_x0 (P := fun W18 => Ext W17 W18) (fun R hR => by
    simp [h6, h7, h12, aEnter, fun47, short_other, aCallV]; rw [callS_none]
    refine (between_wp hTt17 hB1000 hwt (s : Int) (t : Int)).mono ?_
    rintro _ W18 ⟨k4, ⟨g, _⟩ | ⟨_, g, _⟩ | ⟨_, _, y, hy, rfl⟩⟩
    · exact absurd hjo g
    · rw [show ((B.length + 1 : Nat) : Int) = (P : Int) from by omega, hst2] at g; cases g
    · have hyx : y = x := hbt y (by simpa using hy)
      subst hyx
      simp; exact hR W18 k4) ?_
  rintro W18 k4
  have e18 := e17.trans k4
  have ht18 := Tb e18
  have hmm := memb_len P Fw
  have hsm := same_wp ((hIw.ext k3).ext k4) (hIr.ext k4) (by omega)
  simp only [decide_true] at hsm
  try simp only [wpK_assoc]
  refine wpK_reg (fun R hR => by
      simp [h8, h9, h10, aEnter, fun34, short_other, aCallV]; rw [callS_none]
      refine (hsm).mono ?_
      rintro _ W9 ⟨e9, rfl⟩; subst W9
      simp [h8, h9, h10, aEnter, fun26, short_awake, aCallV, ht18]; exact hR) ?_
  exact wpK_ret ⟨.inr rfl, rfl, [.bool true], by simp, rfl⟩
end Go.Proofs.YtkgfjfkgmpeobaaDoor