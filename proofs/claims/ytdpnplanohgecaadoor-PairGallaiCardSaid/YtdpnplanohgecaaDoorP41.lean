import Derived.Test.YtdpnplanohgecaaDoorP40
import Derived.Test.YtdpnplanohgecaaDoorP39
set_option linter.unusedSimpArgs false
set_option linter.unusedVariables false
set_option linter.unusedSectionVars false
open Go Go.Eng
namespace Go.Proofs.YtdpnplanohgecaaDoor
attribute [local congr] undef_congr WpK.congr WpS.congr WpL.congr WpC.congr WpF.congr gotS.congr callS.congr nextS.congr wantS.congr condS.congr
attribute [local irreducible] WpK
attribute [local simp] WpDr_nil WpDr_cons atS_some dwantS_true dwantS_false kindS_light kindS_float kindS_heavy lightS_value floatS_some heavyS_value heavyS_skip heavyS_enter dcallS_some doneS_eq
 isLight isFloat isPlain dLook testBit_dec dChain dLights_nil dLights_skip dLights_one dLight_nil dLight_cons dFreshes_nil dFreshes_one oneF_none oneF_some dFresh_nil dFresh_cons oneL_some oneW_true oneW_false sameV_value dPut dMay valEq arrEq listEq List.getElem?_cons Tr.get_nil dEnd
attribute [local simp] WpS_nil WpS_cons isDefer undef_false wantS_true wantS_false nextS_value nextS_skip nextS_enter callS_some gotS_some aWanted aOp aEvalF aEval opMove opAssign opPick aVal flat flat1 AAct.put opBinOp opConvert opIndex Tr.get_set Tr.get_lay aBin aResults tupled
 aCall aVals aCallB blt_dec ble_dec beq_dec aBinI_add aBinI_sub aBinI_lss aBinI_leq aBinI_gtr aBinI_geq aBinI_eql aBinI_neq index_str len_str len_slice Nat.beq_refl Nat.beq_refl
 opBox opLoad opFieldAddr opIndexAddr acells aAddr opExtract aExtract opUnOp opAlloc opStore opMakeInterface opNilCheck opBuild aParts opBuildSlice aValW
attribute [local simp] und2 und3 und4 und5 und9 und12 field13_0 field13_1 und21 und22 field23_0 field23_1 field24_0 field24_1 field25_0 field25_1 und28 und31 field34_0 field34_1 field34_2 field35_0 field35_1 field35_2 und46 field50_0 field50_1 field50_2 und55 und56 und58 und61 und62 und73 und75 und90 und94 und95 und96 field97_0 field97_1 field97_2 field97_3 field97_4 field97_5 field97_6 field98_0 field98_1 field98_2 field98_3 field98_4 field98_5 field98_6 und99 und106 field107_0 field107_1 field108_0 field108_1 und119 und122 field124_0 field124_1 field124_2 field125_0 field125_1 field125_2 field131_0 field131_1 field132_0 field132_1 und133 field134_0 field134_1 field135_0 field135_1 und148 und156 und160
set_option maxHeartbeats 4000000
set_option linter.unusedSimpArgs false
set_option linter.unusedVariables false
theorem bs31e (W : AW) : aBuildSlice T0 W 31 0 [] = some (.slice (some ⟨W.next, 0, none⟩) 0 0, W.newCells 3 []) := by kernel_rfl
theorem newCells_at (W : AW) (el : TypeId) (l : List Value) (n : Nat) (hn : l.length = n) : (W.newCells el l).cellsAt W.next 0 n = some l := by
 subst hn
 rw [(Var.new W el l).cellsAt 0 l.length (by omega)]; simp
theorem clone_app31 {W : AW} {v : Value} {l : List Int} (h : IntN W v l) (h0 : 0 < l.length) (hl : l.length <= 1000) :
  aAppend T0 (W.newCells 3 []) [31, 31] [.slice (some ⟨W.next, 0, none⟩) 0 0, v] = some (.slice (some ⟨W.next + 1, 0, none⟩) l.length 3, (W.newCells 3 []).newCells 3 (flatE (encI .i64) l)) := by
 have h' := h.ext (Only.newCells W 3 [])
 have hsrc := h'.src encI_len (by omega)
 have hone := oneCells_flatE (enc := encI .i64) encI_one l
 have hfl := flatE_len (enc := encI .i64) (sz := 1) encI_len l
 have hz : Nat.beq l.length 0 = false := by
  cases hb : Nat.beq l.length 0 with
  | false => rfl
  | true => have := Nat.eq_of_beq_eq_true hb; omega
 have hold : (W.newCells 3 []).cellsAt W.next 0 (0 * 1) = some [] := newCells_at W 3 [] 0 rfl
 have hhead : aAppend T0 (W.newCells 3 []) [31, 31] [.slice (some ⟨W.next, 0, none⟩) 0 0, v] = aApp1 (W.newCells 3 []) 3 1 Tryd.t3.bytes l.length (flatE (encI .i64) l) (.slice (some ⟨W.next, 0, none⟩) 0 0) := by
  simp only [aAppend, und31, inf3, is3, z3, notInt, hsrc, acells, List.length_cons, List.length_nil, Nat.beq_refl, hfl, hone, hz]
 rw [hhead]
 have e1 : (2 * l.length) * Tryd.t3.bytes <= 281474976710656 := by rw [by3]; omega
 have e2 : l.length <= 4611686018427387904 := by omega
 have e3 : Nat.beq (0 % 2) 0 = true := rfl
 have e4 : ¬ (l.length <= 0 / 2) := by omega
 simp only [aApp1, ble_dec, e1, e2, decide_true, e3, e4, decide_false, hold, List.nil_append, Nat.zero_add]
 rfl
theorem flatE_int (l : List Int) : flatE (encI .i64) l = vI l := by
 simp only [flatE, vI]
 induction l with
 | nil => rfl
 | cons x l ih => simp only [List.flatMap_cons, List.map_cons, ih]; rfl
theorem row_var {W : AW} {p n c : Nat} {l : List Int} (h : Var W p 3 (vI l)) (hn : l.length = n) (h0 : 0 < n) : IntN W (.slice (some ⟨p, 0, none⟩) n c) l := by
 refine ⟨some ⟨p, 0, none⟩, c, by rw [hn], fun e => by omega, fun i a hi => ⟨p, 0, rfl, fun j u hu => ?_⟩⟩
 have hj : j = 0 := by
  cases j with
  | zero => rfl
  | succ j => simp [encI] at hu
 subst hj
 have : u = .int .i64 a := by simpa [encI] using hu.symm
 subst this
 rw [Nat.zero_add, Nat.mul_one, Nat.add_zero]
 exact h.has (by simp [vI, hi])
theorem clone_wp {W : AW} {b o c n : Nat} {l : List Int} (h : IntN W (.slice (some ⟨b, o, none⟩) n c) l) (hn : l.length = n) (h0 : 0 < n) (hl : n <= 1000) :
  WpF T0 55 [.slice (some ⟨b, o, none⟩) n c] W (fun u W' => Ext W W' /\ IntN W' u l) := by
 subst hn
 refine wpF fun55 rfl ?_
 try simp only [zzA]
 refine wpK_reg (fun R hR => by simp []; exact hR) ?_
 try simp only [zzA]
 refine wpK_reg (fun R hR => by simp [aGuard, aBinO, notnil31]; exact hR) ?_
 try simp only [zzA]
 first | refine wpK_onF (by simp []) ?_ | refine wpK_out (by simp []) ?_ | refine zzF (by simp []) ?_ | refine zzB (by simp []) (wpK_skip ?_) | refine zzB (by simp []) ?_
 have ha := clone_app31 h h0 hl
 have hb := bs31e W
 try simp only [zzA]
 refine wpK_reg (fun R hR => by simp [hb, ha]; exact hR) ?_
 exact wpK_ret ⟨.inr rfl, rfl, [.slice (some ⟨W.next + 1, 0, none⟩) l.length 3], by simp, (Only.newCells _ _ _).trans (Only.newCells _ _ _), row_var (by rw [flatE_int]; exact Var.new _ _ _) rfl h0⟩
def mateL (n : Nat) (mt : Nat -> Int) : List Int := (List.range n).map mt
theorem mateL_len (n : Nat) (mt : Nat -> Int) : (mateL n mt).length = n := by simp [mateL]
theorem mateL_at {n i : Nat} (mt : Nat -> Int) (h : i < n) : gI (mateL n mt) i = mt i := by
 simp [gI, mateL, List.getD_eq_getElem?_getD, List.getElem?_range h]
theorem mate_row {W : AW} {p w n c : Nat} {s : PS} (h : PairAt W p w s) (hn : n <= 40) (h0 : 0 < n) : IntN W (.slice (some ⟨p, 1, none⟩) n c) (mateL n s.mt) := by
 refine ⟨some ⟨p, 1, none⟩, c, by rw [mateL_len], fun e => by rw [mateL_len] at e; omega, fun i a hi => ⟨p, 1, rfl, fun j u hu => ?_⟩⟩
 have hj : j = 0 := by
  cases j with
  | zero => rfl
  | succ j => simp [encI] at hu
 subst hj
 have hin : i < n := by have := (List.getElem?_eq_some_iff.1 hi).1; rwa [mateL_len] at this
 have ha : a = s.mt i := by
  simp [mateL, List.getElem?_range hin] at hi; exact hi.symm
 have : u = .int .i64 (s.mt i) := by rw [<- ha]; simpa [encI] using hu.symm
 subst this
 rw [Nat.mul_one, Nat.add_zero]
 exact h.has (by rw [psL_at _ _ (by omega), psV_mt _ _ (by omega)])
theorem slice94 (W : AW) (p n : Nat) (hn : n <= 40) : aSliceOp T0 W 94 (.pointer (some ⟨p, 1, none⟩)) none (some (.int .i64 (n : Int))) none = some (.slice (some ⟨p, 1, none⟩) n 80) := by
 have hb : aHi (some (.int .i64 (n : Int))) 40 40 = some n := by
  show aBound (.int .i64 (Int.ofNat n)) 40 = some n
  simp only [aBound, ble_dec, hn, decide_true]
 have hsh : shiftTo 1 40 0 1 = 1 := by decide
 simp only [aSliceOp, und94, sz3, hb, aLo, hsh, Nat.sub_zero]
theorem match_ok {W : AW} {v : Value} {n : Nat} {es : List Edge} (h : PairR W v es) (hl : es.length < 4611686018427387904) (hg : GraphOk (n : Int) es) (hT : tabsIn T0 T0.tabs W = true) (hN0 : 0 < W.next) :
  WpF T0 17 [.agg ⟨[.int .i64 (n : Int), v]⟩] W (fun u W' => Ext W W' /\ ∃ mv s D A cl, u = .tuple ⟨[mv, .int .i64 0]⟩ /\ IntN W' mv (mateL n s.mt) /\ Great n (AjE es) s D A cl n) := by
 have hn40 : n <= 40 := by have := hg.2.1; omega
 have h1n : 1 <= n := by have := hg.1; omega
 have hends : ∀ x z : Nat, AjE es x z -> z < n /\ x ≠ z := fun x z hx => by
  obtain ⟨i, hi | hi⟩ := hx
  ·have := hg.2.2.2 i (List.getElem?_eq_some_iff.1 hi).1 _ _ hi
   exact ⟨by omega, by omega⟩
  ·have := hg.2.2.2 i (List.getElem?_eq_some_iff.1 hi).1 _ _ hi
   exact ⟨by omega, by omega⟩
 refine wpF fun17 rfl ?_
 obtain ⟨W1, hW1, hE1, hV⟩ : ∃ W1, W1 = W.newCells 25 [.int .i64 (n : Int), v] /\ Ext W W1 /\ Var W1 W.next 25 [.int .i64 (n : Int), v] := ⟨_, rfl, .newCells _ _ _, Var.new _ _ _⟩
 have hl1 := load25 hV
 try simp only [zzA]
 refine wpK_reg (fun R hR => by simp [<- hW1]; exact hR) ?_
 try simp only [zzA]
 refine wpK_x1 (fun R hR => by
   simp [hl1, opExtract, aExtract, aEnter, fun54, zzC, aCallV]; rw [zzD]
   refine (lay_ok (h.ext hE1) hl hg).mono ?_
   rintro _ W2 ⟨hE2, w, hw, rfl, hWeb⟩
   simp [hl1, opExtract, aExtract]; exact hR w W2 (And.intro hE2 (And.intro hw hWeb))) ?_
 rintro w W2 ⟨hE2, hw, hWeb⟩
 try simp only [zzA]
 refine wpK_reg (fun R hR => by simp []; exact hR) ?_
 try simp only [zzA]
 first | refine wpK_onF (by simp []) ?_ | refine wpK_out (by simp []) ?_ | refine zzF (by simp []) ?_ | refine zzB (by simp []) (wpK_skip ?_) | refine zzB (by simp []) ?_
 obtain ⟨Jl, hJ, hVw⟩ := hWeb
 have hE02 := hE1.trans hE2
 have hgw := greatest_wp (J := AjE es) (Jl := Jl) hn40 (fun x hx => (hends x x hx).2 rfl) AjE.symm (fun x z hx => (hends x z hx).1) hJ.1 (fun x z hx => (join_bit hJ (by omega)).2) hVw (tabs_ext hT hN0 hE02) (by have := hE02.1; omega)
 have q2 := (hV.ext hE2).load1 (T := T0) und3 rfl (j := 0) (v := .int .i64 (n : Int)) rfl
 have hV2 := hV.ext hE2
 try simp only [zzA]
 refine wpK_d2 (wr := Tr.nil |>.set 14 0 |>.set 15 1 |>.set 16 2 |>.set 17 3 |>.set 18 4 |>.set 19 5 |>.set 20 6 |>.set 21 7 |>.set 2 8 |>.set 3 9) (bits := Tr.nil.lay 0 [0, 1, 3, 7, 0, 16, 63, 127, 255, 511]) (ord := [0, 1, 2, 3, 4, 5, 6, 7, 8, 9]) (by kernel_rfl) (by kernel_rfl) (by kernel_rfl) (fun G hG => by
  simp [aEnter, fun56, zzC, aCallV]
  rw [dcallS_none]
  refine hgw.mono ?_
  rintro _ W3 ⟨hE3, p, s, D, A, cl, rfl, hp, hP, hGr⟩
  have q3 := (hV2.ext hE3).load1 (T := T0) und3 rfl (j := 0) (v := .int .i64 (n : Int)) rfl
  simp [hE3.1, q2, q3, opSlice, aOpt, slice94 _ p n hn40, aEnter, fun55, zzC, aCallV]
  rw [dcallS_none]
  refine (clone_wp (mate_row hP hn40 h1n) (mateL_len n s.mt) h1n (by omega)).mono ?_
  rintro mv W4 ⟨hE4, hM⟩
  simp [hE3.1, hE4.1, q2, q3, opSlice, aOpt, slice94 _ p n hn40]
  have hh : Ext W2 W4 /\ ∃ s D A cl, IntN W4 mv (mateL n s.mt) /\ Great n (AjE es) s D A cl n := ⟨hE3.trans hE4, s, D, A, cl, hM, hGr⟩
  exact hG p mv W4 hh) ?_
 rintro p mv W4 ⟨hE4, s, D, A, cl, hM, hGr⟩
 exact wpK_ret ⟨.inr rfl, rfl, [mv, .int .i64 0], by simp, hE02.trans hE4, mv, s, D, A, cl, rfl, hM, hGr⟩

end Go.Proofs.YtdpnplanohgecaaDoor
open Go Go.Eng
namespace Go.Proofs.YtdpnplanohgecaaDoor
def membs (n t : Nat) : List Nat := (List.range n).filter t.testBit
def membL (n t : Nat) : List Int := (membs n t).map Int.ofNat
theorem membs_succ (n t : Nat) : membs (n + 1) t = if t.testBit n then membs n t ++ [n] else membs n t := by
 rw [membs, List.range_succ, List.filter_append]
 cases h : t.testBit n <;> simp [membs, h]
theorem membs_mem {n t x : Nat} : x ∈ membs n t ↔ x < n /\ t.testBit x = true := by simp [membs]
theorem membs_len (n t : Nat) : (membs n t).length <= n := Nat.le_trans (List.length_filter_le _ _) (by simp)
theorem membL_len (n t : Nat) : (membL n t).length = (membs n t).length := by simp [membL]
theorem membL_at {n t i : Nat} (h : i < (membs n t).length) : gI (membL n t) i = (((membs n t)[i] : Nat) : Int) := by
 simp [gI, membL, List.getD_eq_getElem?_getD, h]
theorem membL_rises (n t : Nat) : RisTo (n : Int) (membL n t) (membL n t).length := fun q hq => by
 rw [membL_len] at hq
 have h1 := (membs_mem.1 (List.getElem_mem hq)).1
 refine ⟨by rw [membL_at hq]; omega, by rw [membL_at hq]; omega, fun h0 => ?_⟩
 rw [membL_at hq, membL_at (show q - 1 < (membs n t).length by omega)]
 have hp : (membs n t).Pairwise (· < ·) := List.Pairwise.filter _ List.pairwise_lt_range
 have := List.pairwise_iff_getElem.1 hp (q - 1) q (by omega) hq (by omega)
 omega
theorem membL_sof (n t r : Nat) : Sof n (membL n t) r ↔ r < n /\ ¬ t.testBit r = true := by
 constructor
 ·rintro ⟨h1, h2⟩
  refine ⟨h1, fun hb => ?_⟩
  obtain ⟨i, hi, e⟩ := List.getElem_of_mem (membs_mem.2 ⟨h1, hb⟩)
  exact h2 i (by rw [membL_len]; exact hi) (by rw [membL_at hi, e])
 ·rintro ⟨h1, h2⟩
  refine ⟨h1, fun i hi e => ?_⟩
  rw [membL_len] at hi
  rw [membL_at hi] at e
  have : (membs n t)[i] = r := by omega
  exact h2 (this ▸ (membs_mem.1 (List.getElem_mem hi)).2)
open Classical
noncomputable def freeN (n : Nat) (mt : Nat -> Int) : Nat := (listOf fun x => x < n /\ mt x = -1).length
variable {n : Nat} {xs : List Edge} {s : PS} {D A : Nat -> Prop} {cl : Nat -> Nat}
theorem great_pairs (hn : n <= 40) (hm : Mt n (AjE xs) s.mt) : PairOk (n : Int) xs (mateL n s.mt) n := fun i hi => by
 rw [mateL_at _ hi]
 rcases hm.rng hi with e | ⟨y, hy, e⟩
 ·exact .inl e
 ·right
  rw [e]
  refine ⟨by omega, by omega, ?_, ?_⟩
  ·rw [Int.toNat_natCast, mateL_at _ hy]; exact hm.sym hi e
  ·exact hm.adj hi e
theorem cnt1_free (mt : Nat -> Int) {C : Nat -> Prop} (hC : ∀ x, C x ↔ x < n /\ mt x = -1) : ∀ m, cnt1 (mateL n mt) (min m n) + (((List.range m).filter fun x => decide (C x)).length : Int) = (min m n : Nat)
 | 0 => by simp [cnt1, sumN]
 | m + 1 => by
  have ih := cnt1_free mt hC m
  rw [List.range_succ, List.filter_append, List.length_append]
  generalize ((List.range m).filter fun x => decide (C x)).length = L at ih ⊢
  by_cases h : m < n
  ·rw [show min m n = m from by omega] at ih
   rw [show min (m + 1) n = m + 1 from by omega]
   simp only [cnt1, sumN] at ih ⊢
   rw [mateL_at _ h]
   by_cases e : mt m = -1
   ·have hc : C m := (hC m).2 ⟨h, e⟩
    rw [if_pos e]; simp [hc]; omega
   ·have hc : ¬ C m := fun g => e ((hC m).1 g).2
    rw [if_neg e]; simp [hc]; omega
  ·rw [show min m n = n from by omega] at ih
   rw [show min (m + 1) n = n from by omega]
   have hc : ¬ C m := fun g => h ((hC m).1 g).1
   simp [hc]; exact ih
theorem free_cnt (hn : n <= 40) (hg : GraphOk (n : Int) xs) (hm : Mt n (AjE xs) s.mt) : 2 * cnt2 (mateL n s.mt) n + (freeN n s.mt : Int) = n := by
 have h1 := cnt_twice hg (p := mateL n s.mt) (by rw [mateL_len]) (by rw [mateL_len]; exact great_pairs hn hm)
 have h2 := cnt1_free (n := n) s.mt (C := fun x => x < n /\ s.mt x = -1) (fun x => Iff.rfl) 40
 rw [show min 40 n = n from by omega] at h2
 rw [mateL_len] at h1
 rw [h1] at h2
 exact h2
theorem aj_irr (hg : GraphOk (n : Int) xs) (x : Nat) : ¬ AjE xs x x := fun hx => by
 obtain ⟨i, hi | hi⟩ := hx
 ·have := hg.2.2.2 i (List.getElem?_eq_some_iff.1 hi).1 _ _ hi; omega
 ·have := hg.2.2.2 i (List.getElem?_eq_some_iff.1 hi).1 _ _ hi; omega
theorem weak_len (hn : n <= 40) (hg : GraphOk (n : Int) xs) (hm : Mt n (AjE xs) s.mt) (l : List Int) : sumN 40 (rootF (AjE xs) (Sof n l)) <= (freeN n s.mt : Int) + (l.length : Int) := by
 have hw := berge_weak hm (aj_irr hg) AjE.symm hn (S := Sof n l) (fun r hr => hr.1)
 have hl : (listOf fun x => x < n /\ ¬ Sof n l x).length <= (l.map Int.toNat).length := nodup_le (listOf_nodup _) fun x hx => by
  obtain ⟨_, x1, x2⟩ := listOf_mem.1 hx
  apply byContradiction
  intro hno
  refine x2 ⟨x1, fun i hi e => hno ?_⟩
  have hm := List.mem_of_getElem? (gI_some hi)
  rw [e] at hm
  exact List.mem_map.2 ⟨_, hm, by simp⟩
 rw [List.length_map] at hl
 refine Int.le_trans hw ?_
 unfold freeN
 omega
end Go.Proofs.YtdpnplanohgecaaDoor

open Go Go.Eng
namespace Go.Proofs.YtdpnplanohgecaaDoor
attribute [local congr] undef_congr WpK.congr WpS.congr WpL.congr WpC.congr WpF.congr gotS.congr callS.congr nextS.congr wantS.congr condS.congr
attribute [local irreducible] WpK
attribute [local simp] WpDr_nil WpDr_cons atS_some dwantS_true dwantS_false kindS_light kindS_float kindS_heavy lightS_value floatS_some heavyS_value heavyS_skip heavyS_enter dcallS_some doneS_eq
 isLight isFloat isPlain dLook testBit_dec dChain dLights_nil dLights_skip dLights_one dLight_nil dLight_cons dFreshes_nil dFreshes_one oneF_none oneF_some dFresh_nil dFresh_cons oneL_some oneW_true oneW_false sameV_value dPut dMay valEq arrEq listEq List.getElem?_cons Tr.get_nil dEnd
attribute [local simp] WpS_nil WpS_cons isDefer undef_false wantS_true wantS_false nextS_value nextS_skip nextS_enter callS_some gotS_some aWanted aOp aEvalF aEval opMove opAssign opPick aVal flat flat1 AAct.put opBinOp opConvert opIndex Tr.get_set Tr.get_lay aBin aResults tupled
 aCall aVals aCallB blt_dec ble_dec beq_dec aBinI_add aBinI_sub aBinI_lss aBinI_leq aBinI_gtr aBinI_geq aBinI_eql aBinI_neq index_str len_str len_slice Nat.beq_refl Nat.beq_refl
 opBox opLoad opFieldAddr opIndexAddr acells aAddr opExtract aExtract opUnOp opAlloc opStore opMakeInterface opNilCheck opBuild aParts opBuildSlice aValW
attribute [local simp] und2 und3 und4 und5 und9 und12 field13_0 field13_1 und21 und22 field23_0 field23_1 field24_0 field24_1 field25_0 field25_1 und28 und31 field34_0 field34_1 field34_2 field35_0 field35_1 field35_2 und46 field50_0 field50_1 field50_2 und55 und56 und58 und61 und62 und73 und75 und90 und94 und95 und96 field97_0 field97_1 field97_2 field97_3 field97_4 field97_5 field97_6 field98_0 field98_1 field98_2 field98_3 field98_4 field98_5 field98_6 und99 und106 field107_0 field107_1 field108_0 field108_1 und119 und122 field124_0 field124_1 field124_2 field125_0 field125_1 field125_2 field131_0 field131_1 field132_0 field132_1 und133 field134_0 field134_1 field135_0 field135_1 und148 und156 und160
set_option maxHeartbeats 4000000
set_option linter.unusedSimpArgs false
set_option linter.unusedVariables false
def Matched (W : AW) (n : Nat) (xs : List Edge) (mv : Value) : Prop := ∃ l : List Int, IntN W mv l /\ l.length = n /\ PairOk (n : Int) xs l n /\ (∀ l' k, BarIs n xs l' k -> cnt2 l n <= k) /\ ∃ t, t < 2 ^ n /\ BarIs n xs (membL n t) (cnt2 l n)
theorem divide_wp {n w : Nat} {es : List Edge} {Jl : List Nat} {W : AW} (hg : GraphOk (n : Int) es) (hJ : JoinL es Jl) (hVw : Var W w 108 (.int .i64 (n : Int) :: Jl.map setV)) (hT : tabsIn T0 T0.tabs W = true) (hN0 : 0 < W.next) :
  WpF T0 57 [.pointer (some ⟨w, 0, none⟩)] W (fun u W' => Ext W W' /\ ∃ F N R : Nat, u = .tuple ⟨[.int .u64 (F : Int), .int .u64 (N : Int), .int .u64 (R : Int)]⟩ /\ ∃ s D A cl, Great n (AjE es) s D A cl n /\ (∀ x, F.testBit x = true ↔ D x) /\ (∀ x, N.testBit x = true ↔ A x) /\ ∀ x, R.testBit x = true ↔ x < n /\ ¬ D x /\ ¬ A x) := by
 have hn40 : n <= 40 := by have := hg.2.1; omega
 have hends : ∀ x z : Nat, AjE es x z -> z < n /\ x ≠ z := fun x z hx => by
  obtain ⟨i, hi | hi⟩ := hx
  ·have := hg.2.2.2 i (List.getElem?_eq_some_iff.1 hi).1 _ _ hi
   exact ⟨by omega, by omega⟩
  ·have := hg.2.2.2 i (List.getElem?_eq_some_iff.1 hi).1 _ _ hi
   exact ⟨by omega, by omega⟩
 have hgw := greatest_wp (J := AjE es) (Jl := Jl) hn40 (fun x hx => (hends x x hx).2 rfl) AjE.symm (fun x z hx => (hends x z hx).1) hJ.1 (fun x z hx => (join_bit hJ (by omega)).2) hVw hT hN0
 refine wpF fun57 rfl ?_
 try simp only [zzA]
 refine wpK_reg (fun R hR => by simp []; exact hR) ?_
 try simp only [zzA]
 refine wpK_x2 (P := fun (p F : Nat) W1 => Ext W W1 /\ F < 1099511627776 /\ ∃ s D A cl, Great n (AjE es) s D A cl n /\ (∀ x, F.testBit x = true ↔ D x)) (fun R hR => by
  simp [aEnter, fun56, zzC, aCallV]; rw [zzD]
  refine hgw.mono ?_
  rintro _ W3 ⟨hE3, p, s, D, A, cl, rfl, hp, hP, hG⟩
  have lf := ps_fe hP
  have hf := hG.fe40 hn40
  have hfe := hG.fe
  obtain ⟨F, hF⟩ : ∃ F, F = s.fe := ⟨_, rfl⟩
  rw [<- hF] at lf hf hfe
  simp [lf]
  exact hR p F W3 ⟨hE3, hf, s, D, A, cl, hG, hfe⟩) ?_
 rintro p F W1 ⟨hE1, hF40, s, D, A, cl, hG, hFD⟩
 have hT1 := tabs_ext hT hN0 hE1
 have haw := around_wp hJ (hVw.ext hE1) hF40 hT1 (by have := hE1.1; omega)
 try simp only [zzA]
 refine wpK_x2 (P := fun (o N : Nat) W2 => Ext W1 W2 /\ N < 1099511627776 /\ ∀ x, N.testBit x = true ↔ A x) (fun R hR => by
  simp [aEnter, fun80, zzC, aCallV]; rw [zzD]
  refine haw.mono ?_
  rintro _ W3 ⟨hE3, o, rfl, ho40, hob⟩
  obtain ⟨N, m1, m2, m3⟩ := aBinI_andNot .u64 o F (by show o < 18446744073709551616; omega) (by show F < 18446744073709551616; omega)
  simp [m2]
  refine hR o N W3 ⟨hE3, by omega, fun x => ?_⟩
  rw [m3, Bool.and_eq_true, Bool.not_eq_true', <- Bool.not_eq_true, hFD, hob]
  constructor
  ·rintro ⟨⟨q, q1, q2⟩, q3⟩
   have hqD := (hFD q).1 q1
   have hj := (join_bit hJ (by have := hG.dn.dlt hqD; omega)).2.1 q2
   exact (hG.dn.clo hqD hj (hends _ _ hj).1).resolve_left fun h => q3 h.1
  ·intro hA
   obtain ⟨q, q1, q2⟩ := hG.dn.adjA hA
   exact ⟨⟨q, (hFD q).2 q1, (join_bit hJ (by have := hG.dn.dlt q1; omega)).2.2 q2⟩, fun h => hG.dn.dis h hA⟩) ?_
 rintro o N W2 ⟨hE2, hN40, hNA⟩
 have hall := all_wp ((hVw.ext hE1).ext hE2) hn40
 have hpw : 2 ^ n - 1 < 1099511627776 := by
  have := Nat.pow_le_pow_right (n := 2) (by omega) hn40
  omega
 have hfb : ∀ x, (2 ^ n - 1).testBit x = true ↔ x < n := fun x => by rw [full_bit, decide_eq_true_eq]
 generalize 2 ^ n - 1 = m at hall hpw hfb
 obtain ⟨a1, m1, m2, m3⟩ := aBinI_andNot .u64 m F (by show m < 18446744073709551616; omega) (by show F < 18446744073709551616; omega)
 obtain ⟨a2, k1, k2, k3⟩ := aBinI_andNot .u64 a1 N (by show a1 < 18446744073709551616; omega) (by show N < 18446744073709551616; omega)
 try simp only [zzA]
 refine wpK_reg (fun R hR => by
  simp [aEnter, fun63, zzC, aCallV]; rw [zzD]
  refine hall.mono ?_
  rintro _ W9 ⟨e9, rfl⟩; subst W9
  simp [m2, k2]; exact hR) ?_
 refine wpK_ret ⟨.inr rfl, rfl, [.int .u64 (F : Int), .int .u64 (N : Int), .int .u64 (a2 : Int)], by simp, hE1.trans hE2, F, N, a2, rfl, s, D, A, cl, hG, hFD, hNA, fun x => ?_⟩
 rw [k3, Bool.and_eq_true, Bool.not_eq_true', <- Bool.not_eq_true, m3, Bool.and_eq_true, Bool.not_eq_true', <- Bool.not_eq_true, hFD, hNA, hfb, and_assoc]
def AntiL (n : Nat) (R : Nat -> Nat -> Bool) (ls : List Nat) : Prop := ∀ i, i < ls.length -> ls.getD i 0 < n /\ (0 < i -> ls.getD (i - 1) 0 < ls.getD i 0) /\ ∀ k, k < i -> R (ls.getD i 0) (ls.getD k 0) = false /\ R (ls.getD k 0) (ls.getD i 0) = false
def inA (nx : Nat -> Int) (met x : Nat) : Bool := !met.testBit x && (decide (nx x = -1) || met.testBit (nx x).toNat)
def antiS (n : Nat) (nx : Nat -> Int) (met : Nat) : List Nat := (List.range n).filter (inA nx met)
def headS (n : Nat) (pr : Nat -> Int) : List Nat := (List.range n).filter fun x => decide (pr x = -1)
theorem list_nat {W : AW} {x n : Nat} {ls : List Nat} (hx : ∀ b, x.testBit b = true ↔ b ∈ ls) (hls : ∃ p : Nat -> Bool, ls = (List.range n).filter p) (hn : n <= 40) (hT : tabsIn T0 T0.tabs W = true) (h0 : 0 < W.next) :
  WpF T0 58 [.int .u64 (x : Nat)] W (fun v W' => Ext W W' /\ GrowsN W' v ls.length (natsV ls) 3 1 (fun b => W.next <= b)) := by
 obtain ⟨p, hp⟩ := hls
 have hxn : ∀ b, x.testBit b = true -> b < n := fun b hb => by
  have := (hx b).1 hb
  rw [hp] at this
  exact List.mem_range.1 (List.mem_filter.1 this).1
 have e : (List.range 40).filter (x.testBit ·) = ls := by
  have h1 : (List.range 40).filter (x.testBit ·) = (List.range n).filter (x.testBit ·) := by
   rw [show List.range 40 = List.range n ++ (List.range (40 - n)).map (n + ·) from by rw [<- List.range_add]; congr 1; omega, List.filter_append]
   have : ((List.range (40 - n)).map (n + ·)).filter (x.testBit ·) = [] := by
    rw [List.filter_eq_nil_iff]
    intro b hb hb2
    obtain ⟨c, _, rfl⟩ := List.mem_map.1 hb
    have := hxn _ hb2; omega
   rw [this, List.append_nil]
  rw [h1, hp]
  apply List.filter_congr
  intro b hb
  rw [Bool.eq_iff_iff, hx b, hp, List.mem_filter]
  exact ⟨fun h => h.2, fun h => ⟨hb, h⟩⟩
 have e2 : intsV (memb 40 x) = natsV ls := by
  unfold memb intsV natsV
  rw [e, List.map_map]; rfl
 have e3 : (memb 40 x).length = ls.length := by unfold memb; rw [e, List.length_map]
 have := list_wp (W := W) (x := x) (lt40 fun b hb => by have := hxn b hb; omega) hT h0
 rw [e2, e3] at this; exact this
theorem build35 (a b c d e f : Nat) (u x : Option Addr) (y : Option Addr) : aBuild T0 35 [(0, .slice u a b), (1, .slice x c d), (2, .slice y e f)] = some (.agg ⟨[.slice u a b, .slice x c d, .slice y e f]⟩) := by kernel_rfl
theorem list_membs {W : AW} {x n : Nat} (hx : ∀ b, x.testBit b = true -> b < n) (hn : n <= 40) (hT : tabsIn T0 T0.tabs W = true) (h0 : 0 < W.next) :
  WpF T0 58 [.int .u64 (x : Nat)] W (fun v W' => Ext W W' /\ ∃ u c, v = .slice u (membs n x).length c /\ GrowsN W' v (membs n x).length (natsV (membs n x)) 3 1 (fun b => W.next <= b)) :=
 (list_nat (ls := membs n x) (fun b => by rw [membs_mem]; exact ⟨fun h => ⟨hx b h, h⟩, fun h => h.2⟩) ⟨_, rfl⟩ hn hT h0).mono fun v W' ⟨h1, h2⟩ => by
  obtain ⟨u, c, e⟩ := h2.len
  exact ⟨h1, u, c, e, h2⟩
theorem divide_ok {W : AW} {v : Value} {n : Nat} {es : List Edge} (h : PairR W v es) (hl : es.length < 4611686018427387904) (hg : GraphOk (n : Int) es) (hT : tabsIn T0 T0.tabs W = true) (hN0 : 0 < W.next) :
  WpF T0 19 [.agg ⟨[.int .i64 (n : Int), v]⟩] W (fun u W' => Ext W W' /\ ∃ fv nv rv, u = .tuple ⟨[.agg ⟨[fv, nv, rv]⟩, .int .i64 0]⟩ /\ ∃ (F N R : Nat), IntN W' fv (membL n F) /\ IntN W' nv (membL n N) /\ IntN W' rv (membL n R) /\
   ∃ s D A cl, Great n (AjE es) s D A cl n /\ (∀ x, F.testBit x = true ↔ D x) /\ (∀ x, N.testBit x = true ↔ A x) /\ ∀ x, R.testBit x = true ↔ x < n /\ ¬ D x /\ ¬ A x) := by
 have hn40 : n <= 40 := by have := hg.2.1; omega
 refine wpF fun19 rfl ?_
 obtain ⟨W1, hW1, hE1, hV, hV2, hn1⟩ : ∃ W1, W1 = (W.newCells 25 [.int .i64 (n : Int), v]).newCells 35 [.slice none 0 0, .slice none 0 0, .slice none 0 0] /\ Ext W W1 /\ Var W1 W.next 25 [.int .i64 (n : Int), v] /\ Var W1 (W.next + 1) 35 [.slice none 0 0, .slice none 0 0, .slice none 0 0] /\ W1.next = W.next + 2 :=
  ⟨_, rfl, (Only.newCells _ _ _).trans (Only.newCells _ _ _), (Var.new _ _ _).ext (.newCells _ _ _), Var.new _ _ _, rfl⟩
 have hl1 := load25 hV
 try simp only [zzA]
 refine wpK_reg (fun R hR => by simp [zero35, newCells_next, <- hW1]; exact hR) ?_
 try simp only [zzA]
 refine wpK_x1 (fun R hR => by
   simp [hl1, opExtract, aExtract, aEnter, fun54, zzC, aCallV]; rw [zzD]
   refine (lay_ok (h.ext hE1) hl hg).mono ?_
   rintro _ W2 ⟨hE2, w, hw, rfl, hWeb⟩
   simp [hl1, opExtract, aExtract]; exact hR w W2 (And.intro hE2 (And.intro hw hWeb))) ?_
 rintro w W2 ⟨hE2, hw, hWeb⟩
 try simp only [zzA]
 refine wpK_reg (fun R hR => by simp []; exact hR) ?_
 try simp only [zzA]
 first | refine wpK_onF (by simp []) ?_ | refine wpK_out (by simp []) ?_ | refine zzF (by simp []) ?_ | refine zzB (by simp []) (wpK_skip ?_) | refine zzB (by simp []) ?_
 obtain ⟨Jl, hJ, hVw⟩ := hWeb
 have hE02 := hE1.trans hE2
 have hT2 := tabs_ext hT hN0 hE02
 have n2 := hE02.1
 try simp only [zzA]
 refine wpK_x3 (fun R hR => by
   simp [opExtract, aExtract, aEnter, fun57, zzC, aCallV]; rw [zzD]
   refine (divide_wp hg hJ hVw hT2 (by omega)).mono ?_
   rintro _ W3 ⟨hE3, F, N, R, rfl, hD⟩
   simp [opExtract, aExtract]; exact hR F N R W3 (And.intro hE3 hD)) ?_
 rintro F N R W3 ⟨hE3, hD⟩
 obtain ⟨s, D, A, cl, hG, hF, hNA, hR⟩ := hD
 have hE03 := hE02.trans hE3
 have hT3 := tabs_ext hT hN0 hE03
 have n3 := hE03.1
 have n12 := hE2.1
 have n23 := hE3.1
 have hFn : ∀ b, F.testBit b = true -> b < n := fun b hb => hG.dn.dlt ((hF b).1 hb)
 have hNn : ∀ b, N.testBit b = true -> b < n := fun b hb => hG.dn.alt ((hNA b).1 hb)
 have hRn : ∀ b, R.testBit b = true -> b < n := fun b hb => ((hR b).1 hb).1
 have hV23 := (hV2.ext hE2).ext hE3
 try simp only [zzA]
 refine wpK_x3 (P := fun (fv nv rv : Value) W4 => Ext W W4 /\ IntN W4 fv (membL n F) /\ IntN W4 nv (membL n N) /\ IntN W4 rv (membL n R) /\ aLoadVar T0 W4 35 (W.next + 1) 0 = some (.agg ⟨[fv, nv, rv]⟩)) (fun R9 hR9 => by
  simp [aEnter, fun58, zzC, aCallV]; rw [zzD]
  refine (list_membs hFn hn40 hT3 (by omega)).mono ?_
  rintro fv Wa ⟨hEa, u1, k1, e1, r1⟩
  have hTa := tabs_ext hT3 (by omega) hEa
  have na := hEa.1
  simp [aEnter, fun58, zzC, aCallV]; rw [zzD]
  refine (list_membs hNn hn40 hTa (by omega)).mono ?_
  rintro nv Wb ⟨hEb, u2, k2, e2, r2⟩
  have hTb := tabs_ext hTa (by omega) hEb
  have nb := hEb.1
  simp [aEnter, fun58, zzC, aCallV]; rw [zzD]
  refine (list_membs hRn hn40 hTb (by omega)).mono ?_
  rintro rv Wc ⟨hEc, u3, k3, e3, r3⟩
  have ncc := hEc.1
  have hb : aBuild T0 35 [(0, fv), (1, nv), (2, rv)] = some (.agg ⟨[fv, nv, rv]⟩) := by rw [e1, e2, e3]; exact build35 _ _ _ _ _ _ _ _ _
  obtain ⟨Wd, g1, g2, g3, g4⟩ := (((hV23.ext hEa).ext hEb).ext hEc).store (T := T0) (t := 35) (v := .agg ⟨[fv, nv, rv]⟩) (o := 0) inf35 (by rw [is35]; rfl) (by simp) (by rw [e1, e2, e3]; rfl)
  have hl3 := load35 (x := fv) (y := nv) (z := rv) (by simpa using g4)
  simp [hb, g1]
  have hEd : Ext W Wd := ⟨by omega, fun b hb2 _ => by rw [g3.2 b (by omega) (by omega), hEc.2 b (by omega) (fun x => x), hEb.2 b (by omega) (fun x => x), hEa.2 b (by omega) (fun x => x), hE03.2 b hb2 (fun x => x)]⟩
  have m1 : IntN Wd fv (membL n F) := natsN_row (((r1.only hEb (fun _ _ _ x => x)).only hEc (fun _ _ _ x => x)).only g3 (fun b _ hb e => by omega))
  have m2 : IntN Wd nv (membL n N) := natsN_row ((r2.only hEc (fun _ _ _ x => x)).only g3 (fun b _ hb e => by omega))
  have m3 : IntN Wd rv (membL n R) := natsN_row (r3.only g3 (fun b _ hb e => by omega))
  exact hR9 fv nv rv Wd ⟨hEd, m1, m2, m3, hl3⟩) ?_
 rintro fv nv rv W4 ⟨hE4, r1, r2, r3, hl4⟩
 exact wpK_ret ⟨.inr rfl, rfl, [.agg ⟨[fv, nv, rv]⟩, .int .i64 0], by simp [hl4], hE4, fv, nv, rv, rfl, F, N, R, r1, r2, r3, s, D, A, cl, hG, hF, hNA, hR⟩

open Classical in
theorem tame16_wp {W : AW} {v : Value} (P : Int) {es : List Edge} (h : PairR W v es) (hl : es.length < 9223372036854775808) :
  WpF T0 23 [.agg ⟨[.int .i64 P, v]⟩, .int .i64 16, .int .i64 34] W (fun u W' => Ext W W' /\ ∃ (n : Nat) (ov : Value) (xs : List Edge), u = .agg ⟨[.int .i64 (n : Int), ov]⟩ /\ 1 <= n /\ n <= 16 /\ GraphOk (n : Int) xs /\ xs.length <= 34 /\ PairR W' ov xs) := by
 refine wpF fun23 rfl ?_
 obtain ⟨Av, cv, hvv⟩ := h.len
 obtain ⟨W1, hW1, hE1, hV, hV6, hn1⟩ : ∃ W1, W1 = (W.newCells 24 [.int .i64 P, v]).newCells 24 [.int .i64 0, .slice none 0 0] /\ Ext W W1 /\ Var W1 W.next 24 [.int .i64 P, v] /\ Var W1 (W.next + 1) 24 [.int .i64 0, .slice none 0 0] /\ W1.next = W.next + 2 :=
  ⟨_, rfl, (Only.newCells _ _ _).trans (Only.newCells _ _ _), (Var.new _ _ _).ext (.newCells _ _ _), Var.new _ _ _, rfl⟩
 have l0 := hV.load1 (T := T0) und3 rfl (j := 0) (v := .int .i64 P) rfl
 obtain ⟨y0, hy0⟩ : ∃ y0 : Nat, IntKind.u64.wrap (IntKind.i64.wrap (P - 1)) = (y0 : Int) := ⟨(IntKind.u64.wrap (IntKind.i64.wrap (P - 1))).toNat, by rw [IntKind.wrap_u64]; omega⟩
 have h7w : IntKind.u64.wrap 16 = 16 := by decide
 have r7 := aBinI_rem .u64 (y0 : Int) (16 : Nat) (by omega)
 rw [ofNat_tmod] at r7
 have hy7 : y0 % 16 < 16 := Nat.mod_lt _ (by omega)
 generalize y0 % 16 = y at r7 hy7
 have r7 : aBinI .rem .u64 (y0 : Int) .u64 16 = some (.int .u64 (y : Int)) := r7
 obtain ⟨n, hn⟩ : ∃ n, n = y + 1 := ⟨_, rfl⟩
 have a1 : IntKind.i64.wrap (y : Int) = (y : Int) := i64_in (by omega)
 have a2 : IntKind.i64.wrap (1 + (y : Int)) = (n : Int) := by rw [i64_in (by omega)]; omega
 obtain ⟨W2, hW2, hE2, hn2, hV7⟩ : ∃ W2, W2 = W1.newCells 24 [.int .i64 0, .slice none 0 0] /\ Ext W1 W2 /\ W2.next = W1.next + 1 /\ Var W2 W1.next 24 [.int .i64 0, .slice none 0 0] := ⟨_, rfl, .newCells _ _ _, rfl, Var.new _ _ _⟩
 obtain ⟨W3, g1, g2, g3, g4⟩ := hV7.store (T := T0) (t := 24) (v := .agg ⟨[.int .i64 (n : Int), .slice none 0 0]⟩) (o := 0) inf24 (by rw [is24]; rfl) (by simp) rfl
 have hV7' : Var W3 W1.next 24 [.int .i64 (n : Int), .slice none 0 0] := by simpa using g4
 have hE13 : Ext W1 W3 := ⟨by omega, fun b hb hk => by rw [g3.2 b (by omega) (by omega), hE2.2 b hb hk]⟩
 try simp only [zzA]
 refine wpK_reg (fun R hR => by simp [zero24, newCells_next, <- hW1]; exact hR) ?_
 try simp only [zzA]
 refine wpK_reg (fun R hR => by simp [l0, conv_3_56, conv_56_3, hy0, h7w, r7, a1, a2, build24_0, zero24, <- hW2, g1]; exact hR) ?_
 try simp only [zzA]
 refine wpK_reg (fun R hR => by simp []; exact hR) ?_
 obtain ⟨p7, hp7⟩ : ∃ p, p = W1.next := ⟨_, rfl⟩
 rw [<- hp7] at hV7'
 have hV3 := hV.ext hE13
 have hV63 := hV6.ext hE13
 have hE03 := hE1.trans hE13
 refine wpK_keep (fun tm' => tm'.get 2 = some (.int .i64 34) /\ tm'.get 3 = some (.pointer (some ⟨W.next, 0, none⟩)) /\ tm'.get 6 = some (.pointer (some ⟨W.next + 1, 0, none⟩)) /\ tm'.get 7 = some (.pointer (some ⟨p7, 0, none⟩)) /\ tm'.get 8 = some (.int .i64 0)) (by simp [hp7]) ?_
 rintro tm ⟨h2, h3, h6, h7, h8⟩
 try simp only [zzA]
 refine wpK_while (I := fun k A' W' => A'.n = 80 /\ A'.defers = [] /\ A'.tmps.get 2 = some (.int .i64 34) /\ A'.tmps.get 3 = some (.pointer (some ⟨W.next, 0, none⟩)) /\ A'.tmps.get 6 = some (.pointer (some ⟨W.next + 1, 0, none⟩)) /\ A'.tmps.get 7 = some (.pointer (some ⟨p7, 0, none⟩)) /\ Ext W1 W' /\ ∃ (i : Nat) (ov : Value) (xs : List Edge) (K : Nat -> Prop), A'.tmps.get 8 = some (.int .i64 (i : Int)) /\ k = es.length - i /\ Var W' p7 24 [.int .i64 (n : Int), ov] /\ GrowsN W' ov xs.length (flatE encP xs) 55 2 K /\ (∀ b, K b -> W1.next < b) /\ xs.length <= 34 /\ GoodTo (n : Int) xs xs.length)
  (J := fun A' W' => A'.n = 80 /\ A'.defers = [] /\ A'.tmps.get 2 = some (.int .i64 34) /\ A'.tmps.get 3 = some (.pointer (some ⟨W.next, 0, none⟩)) /\ A'.tmps.get 6 = some (.pointer (some ⟨W.next + 1, 0, none⟩)) /\ A'.tmps.get 7 = some (.pointer (some ⟨p7, 0, none⟩)) /\ Ext W1 W' /\ ∃ (ov : Value) (xs : List Edge) (K : Nat -> Prop), Var W' p7 24 [.int .i64 (n : Int), ov] /\ GrowsN W' ov xs.length (flatE encP xs) 55 2 K /\ (∀ b, K b -> W1.next < b) /\ xs.length <= 34 /\ GoodTo (n : Int) xs xs.length) (Rt := fun _ _ => False) (k := es.length) ?_ ?_ ?_ ?_
 ·exact ⟨rfl, rfl, by simp [h2, h3, h6, h7], by simp [h2, h3, h6, h7], by simp [h2, h3, h6, h7], by simp [h2, h3, h6, h7], hE13, 0, .slice none 0 0, [], fun _ => False, by simp [h8], rfl, hV7', .nil _ _ _ _, fun b hb => hb.elim, by simp, fun i hi => by simp at hi⟩
 ·rintro k ⟨tm, n, ds⟩ Wa ⟨hn, hd, h2, h3, h6, h7, hEa, i, ov, xs, K, h8, hk, hVo, hgr, hK, hx12, hgood⟩ Q' hJ' hRt hI
  simp only at hn hd h2 h3 h6 h7
  subst hn; subst hd
  simp only at h8
  have hVa := hV.ext hEa
  have m1 := hVa.load1 (T := T0) und22 rfl (j := 1) (v := v) rfl
  have o0 := hVo.load1 (T := T0) und3 rfl (j := 0) (v := .int .i64 (n : Int)) rfl
  have o1 := hVo.load1 (T := T0) und22 rfl (j := 1) (v := ov) rfl
  have hRo : PairR Wa ov xs := hgr.row encP_len
  obtain ⟨Ao, co, hov⟩ := hRo.len
  have ll : ∀ W', aLen T0 W' 22 v = some (.int .i64 es.length) := fun W' => by rw [hvv]; exact len_slice und22 _ _ _
  have lo : ∀ W', aLen T0 W' 22 ov = some (.int .i64 xs.length) := fun W' => by rw [hov]; exact len_slice und22 _ _ _
  by_cases hlt : i < es.length
  case neg =>
   have hlt' : ¬ (i : Int) < es.length := by omega
   try simp only [zzA]
   refine wpK_reg (fun R hR => by simp [h2, h3, h7, h8, m1, ll, hlt', undef]; exact hR) ?_
   try simp only [zzA]
   first | refine wpK_onF (by simp [hlt]) ?_ | refine wpK_out (by simp [hlt]) ?_ | refine zzF (by simp [hlt]) ?_ | refine zzB (by simp [hlt]) (wpK_skip ?_) | refine zzB (by simp [hlt]) ?_
   exact hJ' _ _ ⟨rfl, rfl, by simp [h2, h3, h6, h7], by simp [h2, h3, h6, h7], by simp [h2, h3, h6, h7], by simp [h2, h3, h6, h7], hEa, ov, xs, K, hVo, hgr, hK, hx12, hgood⟩
  have hlt' : (i : Int) < es.length := by omega
  by_cases h12 : xs.length < 34
  case neg =>
   have h12' : ¬ (xs.length : Int) < 34 := by omega
   try simp only [zzA]
   refine wpK_reg (fun R hR => by simp [h2, h3, h7, h8, m1, o1, ll, lo, hlt', h12']; exact hR) ?_
   try simp only [zzA]
   first | refine wpK_onF (by simp [hlt, h12]) ?_ | refine wpK_out (by simp [hlt, h12]) ?_ | refine zzF (by simp [hlt, h12]) ?_ | refine zzB (by simp [hlt, h12]) (wpK_skip ?_) | refine zzB (by simp [hlt, h12]) ?_
   exact hJ' _ _ ⟨rfl, rfl, by simp [h2, h3, h6, h7], by simp [h2, h3, h6, h7], by simp [h2, h3, h6, h7], by simp [h2, h3, h6, h7], hEa, ov, xs, K, hVo, hgr, hK, hx12, hgood⟩
  have h12' : (xs.length : Int) < 34 := by omega
  try simp only [zzA]
  refine wpK_reg (fun R hR => by simp [h2, h3, h7, h8, m1, o1, ll, lo, hlt', h12']; exact hR) ?_
  try simp only [zzA]
  first | refine wpK_onT (by simp [hlt, h12]) ?_ | refine wpK_outT (by simp [hlt, h12]) ?_ | refine zzE (by simp [hlt, h12]) ?_ | refine wpK_endT (by simp [hlt, h12]) ?_
  obtain ⟨⟨ea, eb⟩, hab⟩ : ∃ e : Edge, es[i] = e := ⟨_, rfl⟩
  have ha : es[i]? = some (ea, eb) := by rw [List.getElem?_eq_getElem hlt, hab]
  have hR := h.ext (hE1.trans hEa)
  obtain ⟨q, o, hx, hh⟩ := hR.at (T := T0) ha und22 sz55 .i64
  have la := load_of und3 rfl (hh 0 (.int .i64 ea) rfl)
  have lb := load_of und3 rfl (hh 1 (.int .i64 eb) rfl)
  rw [Nat.add_zero] at la
  have vv := row_eq hR
  obtain ⟨xa, hxa⟩ : ∃ z : Nat, IntKind.u64.wrap ea = (z : Int) := ⟨(IntKind.u64.wrap ea).toNat, by rw [IntKind.wrap_u64]; omega⟩
  obtain ⟨xb, hxb⟩ : ∃ z : Nat, IntKind.u64.wrap eb = (z : Int) := ⟨(IntKind.u64.wrap eb).toNat, by rw [IntKind.wrap_u64]; omega⟩
  have hwn : IntKind.u64.wrap (n : Int) = (n : Int) := u64_nat (by omega)
  have r1 := aBinI_rem .u64 (xa : Int) (n : Int) (by omega)
  have r2 := aBinI_rem .u64 (xb : Int) (n : Int) (by omega)
  rw [ofNat_tmod] at r1 r2
  have ha' : xa % n < n := Nat.mod_lt _ (by omega)
  have hb' : xb % n < n := Nat.mod_lt _ (by omega)
  generalize xa % n = a at r1 ha'
  generalize xb % n = b at r2 hb'
  have wa : IntKind.i64.wrap (a : Int) = (a : Int) := i64_in (by omega)
  have wb : IntKind.i64.wrap (b : Int) = (b : Int) := i64_in (by omega)
  refine wpK_block ?_
  try simp only [zzA]
  refine wpK_dn (wr := Tr.nil |>.set 36 0 |>.set 37 1 |>.set 38 2 |>.set 39 3 |>.set 40 4 |>.set 41 5 |>.set 42 6 |>.set 43 7 |>.set 44 8 |>.set 45 9 |>.set 46 10 |>.set 47 11 |>.set 48 12 |>.set 49 13 |>.set 50 14 |>.set 51 15 |>.set 52 16 |>.set 53 17 |>.set 54 18 |>.set 55 19 |>.set 56 20 |>.set 57 21 |>.set 58 22 |>.set 59 23 |>.set 9 24 |>.set 10 25) (bits := Tr.nil.lay 0 [0, 1, 0, 7, 15, 31, 63, 0, 128, 384, 1023, 2047, 0, 4096, 0, 28672, 61440, 126976, 258048, 0, 524288, 1572864, 4190208, 8384512, 4095, 33554431]) (ord := [0, 1, 2, 3, 4, 5, 6, 7, 8, 9, 10, 11, 12, 13, 14, 15, 16, 17, 18, 19, 20, 21, 22, 23, 24, 25]) (by kernel_rfl) (by kernel_rfl) (by kernel_rfl) (fun G hG => by
   simp [h3, h7, h8, m1, hx, ix55_0, ix55_1, la, lb, vv, o0, conv_3_56, conv_56_3, hxa, hxb, hwn, r1, r2, wa, wb]
   exact hG) ?_
  refine wpK_keep (fun tm' => tm'.get 2 = some (.int .i64 34) /\ tm'.get 3 = some (.pointer (some ⟨W.next, 0, none⟩)) /\ tm'.get 6 = some (.pointer (some ⟨W.next + 1, 0, none⟩)) /\ tm'.get 7 = some (.pointer (some ⟨p7, 0, none⟩)) /\ tm'.get 8 = some (.int .i64 (i : Int)) /\ tm'.get 9 = some (.int .i64 (a : Int)) /\ tm'.get 10 = some (.int .i64 (b : Int))) (by simp [h2, h3, h6, h7, h8]) ?_
  rintro tm ⟨h2, h3, h6, h7, h8, h9, h10⟩
  have lw := load24 hVo
  have hjw := refJoined_wp (n : Int) hRo (by omega) (a : Int) (b : Int)
  by_cases hab2 : a = b
  ·have hab4 : (a : Int) = (b : Int) := by omega
   try simp only [zzA]
   refine wpK_reg (fun R hR => by simp [h7, h9, h10, hab4, undef]; exact hR) ?_
   try simp only [zzA]
   first | refine wpK_onF (by simp []) ?_ | refine wpK_out (by simp []) ?_ | refine zzF (by simp []) ?_ | refine zzB (by simp []) (wpK_skip ?_) | refine zzB (by simp []) ?_
   simp only [zzH, zzG]
   refine wpK_keep (fun tm' => tm'.get 2 = some (.int .i64 34) /\ tm'.get 3 = some (.pointer (some ⟨W.next, 0, none⟩)) /\ tm'.get 6 = some (.pointer (some ⟨W.next + 1, 0, none⟩)) /\ tm'.get 7 = some (.pointer (some ⟨p7, 0, none⟩)) /\ tm'.get 8 = some (.int .i64 (i : Int)) /\ tm'.get 9 = some (.int .i64 (a : Int)) /\ tm'.get 10 = some (.int .i64 (b : Int))) (by simp [h2, h3, h6, h7, h8, h9, h10]) ?_
   rintro tm ⟨h2, h3, h6, h7, h8, h9, h10⟩
   try simp only [zzA]
   refine wpK_reg1 (fun R hR => by simp [h8]; exact hR) ?_
   exact hI (es.length - (i + 1)) _ _ (by omega) ⟨rfl, rfl, by simp [h2, h3, h6, h7], by simp [h2, h3, h6, h7], by simp [h2, h3, h6, h7], by simp [h2, h3, h6, h7], hEa, i + 1, ov, xs, K, by simp [i64_succ i (by omega)], rfl, hVo, hgr, hK, hx12, hgood⟩
  have hab3 : ¬ (a : Int) = (b : Int) := by omega
  have hpn : p7 < Wa.next := hVo.1
  by_cases hj : Jn xs (a : Int) (b : Int)
  ·rw [decide_eq_true hj] at hjw
   try simp only [zzA]
   refine wpK_x0 (P := fun W' => Ext Wa W') (fun R hR => by
    simp [h7, h9, h10, hab3, hab2, lw, aEnter, fun64, zzC, aCallV]; rw [zzD]
    refine hjw.mono ?_
    rintro _ Wb ⟨hEb, rfl⟩
    simp; exact hR Wb hEb) ?_
   rintro Wb hEb
   try simp only [zzA]
   first | refine wpK_onF (by simp []) ?_ | refine wpK_out (by simp []) ?_ | refine zzF (by simp []) ?_ | refine zzB (by simp []) (wpK_skip ?_) | refine zzB (by simp []) ?_
   simp only [zzH, zzG]
   refine wpK_keep (fun tm' => tm'.get 2 = some (.int .i64 34) /\ tm'.get 3 = some (.pointer (some ⟨W.next, 0, none⟩)) /\ tm'.get 6 = some (.pointer (some ⟨W.next + 1, 0, none⟩)) /\ tm'.get 7 = some (.pointer (some ⟨p7, 0, none⟩)) /\ tm'.get 8 = some (.int .i64 (i : Int)) /\ tm'.get 9 = some (.int .i64 (a : Int)) /\ tm'.get 10 = some (.int .i64 (b : Int))) (by simp [h2, h3, h6, h7, h8, h9, h10]) ?_
   rintro tm ⟨h2, h3, h6, h7, h8, h9, h10⟩
   try simp only [zzA]
   refine wpK_reg1 (fun R hR => by simp [h8]; exact hR) ?_
   exact hI (es.length - (i + 1)) _ _ (by omega) ⟨rfl, rfl, by simp [h2, h3, h6, h7], by simp [h2, h3, h6, h7], by simp [h2, h3, h6, h7], by simp [h2, h3, h6, h7], hEa.trans hEb, i + 1, ov, xs, K, by simp [i64_succ i (by omega)], rfl, hVo.ext hEb, hgr.only hEb (fun _ _ _ x => x), hK, hx12, hgood⟩
  ·rw [decide_eq_false hj] at hjw
   try simp only [zzA]
   refine wpK_x0 (P := fun W' => Ext Wa W') (fun R hR => by
    simp [h7, h9, h10, hab3, hab2, lw, aEnter, fun64, zzC, aCallV]; rw [zzD]
    refine hjw.mono ?_
    rintro _ Wb ⟨hEb, rfl⟩
    simp; exact hR Wb hEb) ?_
   rintro Wb hEb
   try simp only [zzA]
   first | refine wpK_onT (by simp []) ?_ | refine wpK_outT (by simp []) ?_ | refine zzE (by simp []) ?_ | refine wpK_endT (by simp []) ?_
   have hVb := hVo.ext hEb
   have hgb := hgr.only hEb (fun _ _ _ x => x)
   have ob := hVb.load1 (T := T0) und22 rfl (j := 1) (v := ov) rfl
   obtain ⟨v', Wc, Wd, q1, q2, q3, q4, q5, q6, q7⟩ := Var.push (T := T0) (t := 22) (el := 55) (i := Tryd.t55) (it := Tryd.t22) (sz := 2) (by omega) und22 inf55 is55 z55 rfl inf22 is22 hgb hVb (o := 1) (fun hk => by have := hK _ hk; omega) (by simp) (u := [.int .i64 (a : Int), .int .i64 (b : Int)]) rfl rfl (by rw [by55]; omega) (by omega)
   have q1 : aAppend T0 (Wb.newCells 55 [.int .i64 (a : Int), .int .i64 (b : Int)]) [22, 22] [ov, .slice (some ⟨Wb.next, 0, none⟩) 1 2] = some (v', Wc) := q1
   try simp only [zzA]
   refine wpK_reg (fun R hR => by simp [h7, ob]; exact hR) ?_
   try simp only [zzA]
   refine wpK_reg1 (fun R hR => by simp [h7, h9, h10, build55, bs22, q1, q2]; exact hR) ?_
   simp only [zzH, zzG]
   refine wpK_keep (fun tm' => tm'.get 2 = some (.int .i64 34) /\ tm'.get 3 = some (.pointer (some ⟨W.next, 0, none⟩)) /\ tm'.get 6 = some (.pointer (some ⟨W.next + 1, 0, none⟩)) /\ tm'.get 7 = some (.pointer (some ⟨p7, 0, none⟩)) /\ tm'.get 8 = some (.int .i64 (i : Int)) /\ tm'.get 9 = some (.int .i64 (a : Int)) /\ tm'.get 10 = some (.int .i64 (b : Int))) (by simp [h2, h3, h6, h7, h8, h9, h10]) ?_
   rintro tm ⟨h2, h3, h6, h7, h8, h9, h10⟩
   try simp only [zzA]
   refine wpK_reg1 (fun R hR => by simp [h8]; exact hR) ?_
   have hl1 : (xs ++ [((a : Int), (b : Int))]).length = xs.length + 1 := by simp
   have hEab := hEa.trans hEb
   have hnb := hEab.1
   refine hI (es.length - (i + 1)) _ _ (by omega) ⟨rfl, rfl, by simp [h2, h3, h6, h7], by simp [h2, h3, h6, h7], by simp [h2, h3, h6, h7], by simp [h2, h3, h6, h7], ⟨by omega, fun c hc hk => ?_⟩, i + 1, v', xs ++ [((a : Int), (b : Int))], fun c => K c \/ c = Wb.next + 1, by simp [i64_succ i (by omega)], rfl, by simpa using q5, ?_, fun c hc => ?_, by rw [hl1]; omega, good_app hgood ⟨by omega, by omega, by omega, by omega, by omega⟩ hj⟩
   ·rw [q7.2 c (by omega) (by rintro (hh | hh); have := hK _ hh; omega; omega)]
    exact hEab.2 c hc hk
   ·rw [hl1, flatE_append, flatE_one]; exact q6
   ·rcases hc with hc | hc
    ·exact hK _ hc
    ·omega
 ·rintro A' W' hf; exact hf.elim
 ·rintro ⟨tm, n, ds⟩ Wz ⟨hn, hd, h2, h3, h6, h7, hEz, ov, xs, K, hVo, hgr, hK, hx12, hgood⟩
  simp only at hn hd h2 h3 h6 h7
  subst hn; subst hd
  have lw := load24 hVo
  have hV6z := hV6.ext hEz
  have hRo : PairR Wz ov xs := hgr.row encP_len
  obtain ⟨Ao, co, hov⟩ := hRo.len
  obtain ⟨Wf, s1, s2, s3, s4⟩ := hV6z.store (T := T0) (t := 24) (v := .agg ⟨[.int .i64 (n : Int), ov]⟩) (o := 0) inf24 (by rw [is24]; rfl) (by simp) (by rw [hov]; rfl)
  have hl3 := load24 (x := .int .i64 (n : Int)) (y := ov) (by simpa using s4)
  try simp only [zzA]
  refine wpK_reg (fun R hR => by simp [h6, h7, lw, s1]; exact hR) ?_
  have hnz := hEz.1
  exact wpK_ret ⟨.inr rfl, rfl, [.agg ⟨[.int .i64 (n : Int), ov]⟩], by simp [h6, hl3], ⟨by omega, fun c hc hk => by rw [s3.2 c (by omega) (by omega), hEz.2 c (by omega) (fun x => x), hE1.2 c hc hk]⟩, n, ov, xs, rfl, by omega, by omega, ⟨by omega, by omega, by omega, hgood⟩, hx12, (hgr.only s3 (fun c hc hk e => by have := hK _ hk; omega)).row encP_len⟩
section
open Classical
variable {n : Nat} {J : Nat -> Nat -> Prop} {mt : Nat -> Int}
theorem bases_le {D A : Nat -> Prop} {cl : Nat -> Nat} (hm : Mt n J mt) (hn : n <= 40) (h : Dn n J mt D A cl) (hall : ∀ x, x < n -> mt x = -1 -> D x) :
  (listOf fun x => x < n /\ mt x = -1).length + (listOf A).length <= (listOf fun b => D b /\ cl b = b).length := by
 -- free points and mates of A are bases
 have hfree : ∀ x, x < n -> mt x = -1 -> D x /\ cl x = x := fun x hx e => by
  refine ⟨hall x hx e, ?_⟩
  apply byContradiction
  intro hne
  obtain ⟨y, y1, _⟩ := h.inn (hall x hx e) (fun e => hne e.symm)
  omega
 have hmate : ∀ y, A y -> ∃ x : Nat, mt y = (x : Int) /\ D x /\ cl x = x := fun y hy => by
  obtain ⟨x, x1, x2⟩ := h.mA hy
  refine ⟨x, x1, x2, ?_⟩
  apply byContradiction
  intro hne
  obtain ⟨z, z1, z2, _⟩ := h.inn x2 (fun e => hne e.symm)
  have e2 := hm.sym (h.alt hy) x1
  have : z = y := by omega
  subst this; exact h.dis z2 hy
 have le1 := inj_le (g := fun x => if A x then (mt x).toNat else x) (l := (listOf fun x => x < n /\ mt x = -1) ++ listOf A) (s := listOf fun b => D b /\ cl b = b) (List.nodup_append.2 ⟨listOf_nodup _, listOf_nodup _, fun x hx y hy e => by
   subst e
   have hy := (listOf_mem.1 hy).2
   have hx := (listOf_mem.1 hx).2
   exact h.dis (hall x hx.1 hx.2) hy⟩) (fun x hx => by
   rcases List.mem_append.1 hx with hx | hx
   ·obtain ⟨_, x1, x2⟩ := listOf_mem.1 hx
    have := hfree x x1 x2
    rw [if_neg (h.dis this.1)]
    exact listOf_mem.2 ⟨by omega, this⟩
   ·obtain ⟨_, x1⟩ := listOf_mem.1 hx
    obtain ⟨y, y1, y2⟩ := hmate x x1
    rw [if_pos x1, y1]
    exact listOf_mem.2 ⟨by have := h.dlt y2.1; simp only [Int.toNat_natCast]; omega, by simpa using y2⟩) (fun x hx y hy e => by
   have cs : ∀ x, x ∈ (listOf fun x => x < n /\ mt x = -1) ++ listOf A -> (¬ A x /\ x < n /\ mt x = -1) \/ (A x /\ ∃ z : Nat, mt x = (z : Int)) := fun x hx => by
    rcases List.mem_append.1 hx with hx | hx
    ·obtain ⟨_, x1, x2⟩ := listOf_mem.1 hx
     exact .inl ⟨h.dis (hfree x x1 x2).1, x1, x2⟩
    ·obtain ⟨_, x1⟩ := listOf_mem.1 hx
     obtain ⟨y, y1, y2⟩ := hmate x x1
     exact .inr ⟨x1, y, y1⟩
   rcases cs x hx with ⟨a1, a2, a3⟩ | ⟨a1, z, a2⟩
   ·rw [if_neg a1] at e
    rcases cs y hy with ⟨b1, b2, b3⟩ | ⟨b1, z, b2⟩
    ·rw [if_neg b1] at e; exact e
    ·rw [if_pos b1, b2, Int.toNat_natCast] at e
     have := hm.sym (h.alt b1) b2
     rw [<- e] at this; omega
   ·rw [if_pos a1, a2, Int.toNat_natCast] at e
    rcases cs y hy with ⟨b1, b2, b3⟩ | ⟨b1, z2, b2⟩
    ·rw [if_neg b1] at e
     have := hm.sym (h.alt a1) a2
     rw [e] at this; omega
    ·rw [if_pos b1, b2, Int.toNat_natCast] at e
     rw [<- e] at b2
     exact hm.inj (h.alt a1) (h.alt b1) a2 b2)
 rwa [List.length_append] at le1
theorem class_out {D A : Nat -> Prop} {cl : Nat -> Nat} {m2 : Nat -> Int} (hm : Mt n J mt) (hJi : ∀ x, ¬ J x x) (hn : n <= 40) (h : Dn n J mt D A cl) (hm2 : Mt n J m2) {b : Nat} (hb : D b /\ cl b = b) :
  ∃ z x : Nat, D x /\ cl x = b /\ ((m2 x = -1 /\ z = x) \/ (m2 x = (z : Int) /\ A z)) := by
 apply byContradiction
 intro hno
 have hmem : ∀ x, x ∈ listOf (fun x => D x /\ cl x = b) ↔ D x /\ cl x = b := fun x => by
  rw [listOf_mem]
  exact ⟨fun g => g.2, fun g => ⟨by have := h.dlt g.1; omega, g⟩⟩
 have hnd := listOf_nodup (fun x => D x /\ cl x = b)
 have hbm := (hmem b).2 hb
 have hlen := List.length_erase_of_mem hbm
 have hpos := List.length_pos_of_mem hbm
 have ev1 := even_paired hm hJi (hnd.erase b) (fun x hx => by
  rw [hnd.mem_erase_iff] at hx
  exact h.dlt ((hmem x).1 hx.2).1) (fun x hx => by
  rw [hnd.mem_erase_iff] at hx
  obtain ⟨x1, x2⟩ := (hmem x).1 hx.2
  obtain ⟨y, y1, y2, y3⟩ := h.inn x1 (by rw [x2]; exact hx.1)
  refine ⟨y, y1, ?_⟩
  rw [hnd.mem_erase_iff, hmem]
  refine ⟨fun e => ?_, y2, by rw [y3, x2]⟩
  subst e
  have e2 := hm.sym (h.dlt x1) y1
  rcases h.bas hb.1 hb.2.symm with g | ⟨z, g1, g2⟩
  ·omega
  ·have : z = x := by omega
   subst this; exact h.dis x1 g2)
 have ev2 := even_paired hm2 hJi hnd (fun x hx => h.dlt ((hmem x).1 hx).1) (fun x hx => by
  obtain ⟨x1, x2⟩ := (hmem x).1 hx
  have hxn := h.dlt x1
  rcases hm2.rng hxn with e | ⟨y, hy, e⟩
  ·exact absurd ⟨x, x, x1, x2, .inl ⟨e, rfl⟩⟩ hno
  ·refine ⟨y, e, ?_⟩
   rcases h.clo x1 (hm2.adj hxn e) hy with g | g
   ·exact (hmem y).2 ⟨g.1, by rw [g.2, x2]⟩
   ·exact absurd ⟨y, x, x1, x2, .inr ⟨e, g⟩⟩ hno)
 omega
theorem only_D {D A : Nat -> Prop} {cl : Nat -> Nat} {m2 : Nat -> Int} (hm : Mt n J mt) (hJi : ∀ x, ¬ J x x) (hn : n <= 40) (h : Dn n J mt D A cl) (hall : ∀ x, x < n -> mt x = -1 -> D x) (hm2 : Mt n J m2)
  (hle : (listOf fun x => x < n /\ m2 x = -1).length <= (listOf fun x => x < n /\ mt x = -1).length) : ∀ x, x < n -> m2 x = -1 -> D x := fun x hx hfx => by
 apply byContradiction
 intro hxD
 have h1 := bases_le hm hn h hall
 let g : Nat -> Nat := fun b => if hb : D b /\ cl b = b then Classical.choose (class_out hm hJi hn h hm2 hb) else 0
 have hg : ∀ b, D b /\ cl b = b -> ∃ y : Nat, D y /\ cl y = b /\ ((m2 y = -1 /\ g b = y) \/ (m2 y = (g b : Int) /\ A (g b))) := fun b hb => by
  have := Classical.choose_spec (class_out hm hJi hn h hm2 hb)
  simp only [g, dif_pos hb]; exact this
 have h2 := inj_le (g := g) (l := listOf fun b => D b /\ cl b = b) (s := ((listOf fun x => x < n /\ m2 x = -1).erase x) ++ listOf A) (listOf_nodup _) (fun b hb => by
  obtain ⟨_, hb⟩ := listOf_mem.1 hb
  obtain ⟨y, y1, y2, y3 | y3⟩ := hg b hb
  ·refine List.mem_append.2 (.inl ?_)
   rw [y3.2, (listOf_nodup _).mem_erase_iff]
   have := h.dlt y1
   exact ⟨fun e => hxD (e ▸ y1), listOf_mem.2 ⟨by omega, this, y3.1⟩⟩
  ·have := h.alt y3.2
   exact List.mem_append.2 (.inr (listOf_mem.2 ⟨by omega, y3.2⟩))) (fun a ha b hb e => by
  obtain ⟨_, ha⟩ := listOf_mem.1 ha
  obtain ⟨_, hb⟩ := listOf_mem.1 hb
  obtain ⟨y, y1, y2, y3⟩ := hg a ha
  obtain ⟨z, z1, z2, z3⟩ := hg b hb
  have same : y = z -> a = b := fun e => by rw [<- y2, <- z2, e]
  rcases y3 with y3 | y3
  ·rcases z3 with z3 | z3
   ·exact same (by rw [<- y3.2, <- z3.2, e])
   ·exact absurd z3.2 (by rw [<- e, y3.2]; exact h.dis y1)
  ·rcases z3 with z3 | z3
   ·exact absurd y3.2 (by rw [e, z3.2]; exact h.dis z1)
   ·rw [<- e] at z3
    exact same (hm2.inj (h.dlt y1) (h.dlt z1) y3.1 z3.1))
 have hxm : x ∈ listOf fun x => x < n /\ m2 x = -1 := listOf_mem.2 ⟨by omega, hx, hfx⟩
 have h3 := List.length_erase_of_mem hxm
 have h4 := List.length_pos_of_mem hxm
 rw [List.length_append] at h2
 omega
theorem one_out {D A : Nat -> Prop} {cl : Nat -> Nat} {m2 : Nat -> Int} (hm : Mt n J mt) (hJi : ∀ x, ¬ J x x) (hn : n <= 40) (h : Dn n J mt D A cl) (hall : ∀ x, x < n -> mt x = -1 -> D x) (hm2 : Mt n J m2)
  (hle : (listOf fun x => x < n /\ m2 x = -1).length <= (listOf fun x => x < n /\ mt x = -1).length) {x y : Nat} (hx : D x) (hy : D y) (hc : cl x = cl y) (ex : m2 x = -1 \/ ∃ a : Nat, m2 x = (a : Int) /\ A a) (ey : m2 y = -1 \/ ∃ a : Nat, m2 y = (a : Int) /\ A a) : x = y := by
 apply byContradiction
 intro hne
 have h1 := bases_le hm hn h hall
 let v : Nat -> Nat := fun u => if m2 u = -1 then u else (m2 u).toNat
 have v1 : ∀ u, m2 u = -1 -> v u = u := fun u e => if_pos e
 have v2 : ∀ u a : Nat, m2 u = (a : Int) -> v u = a := fun u a e => by
  show (if m2 u = -1 then u else (m2 u).toNat) = a
  rw [if_neg (by omega), e, Int.toNat_natCast]
 have vin : ∀ u, D u -> (m2 u = -1 \/ ∃ a : Nat, m2 u = (a : Int) /\ A a) -> v u ∈ (listOf fun x => x < n /\ m2 x = -1) ++ listOf A := fun u hu e => by
  have hun := h.dlt hu
  rcases e with e | ⟨a, e, ha⟩
  ·rw [v1 u e]; exact List.mem_append.2 (.inl (listOf_mem.2 ⟨by omega, hun, e⟩))
  ·have := h.alt ha
   rw [v2 u a e]; exact List.mem_append.2 (.inr (listOf_mem.2 ⟨by omega, ha⟩))
 have vinj : ∀ u w, D u -> D w -> (m2 u = -1 \/ ∃ a : Nat, m2 u = (a : Int) /\ A a) -> (m2 w = -1 \/ ∃ a : Nat, m2 w = (a : Int) /\ A a) -> v u = v w -> u = w := fun u w hu hw e1 e2 e => by
  rcases e1 with e1 | ⟨a, e1, ha⟩
  ·rw [v1 u e1] at e
   rcases e2 with e2 | ⟨a2, e2, ha2⟩
   ·rw [v1 w e2] at e; exact e
   ·rw [v2 w a2 e2] at e; subst e; exact absurd ha2 (h.dis hu)
  ·rw [v2 u a e1] at e
   rcases e2 with e2 | ⟨a2, e2, ha2⟩
   ·rw [v1 w e2] at e; subst e; exact absurd ha (h.dis hw)
   ·rw [v2 w a2 e2] at e; subst e; exact hm2.inj (h.dlt hu) (h.dlt hw) e1 e2
 have pts : ∀ b, D b /\ cl b = b -> ∃ u, D u /\ cl u = b /\ (m2 u = -1 \/ ∃ a : Nat, m2 u = (a : Int) /\ A a) /\ (b = cl x -> u = x) := fun b hb => by
  by_cases e : b = cl x
  ·exact ⟨x, hx, e.symm, ex, fun _ => rfl⟩
  ·obtain ⟨z, u, u1, u2, u3⟩ := class_out hm hJi hn h hm2 hb
   exact ⟨u, u1, u2, u3.imp (fun k => k.1) (fun k => ⟨z, k⟩), fun k => absurd k e⟩
 let pt : Nat -> Nat := fun b => if hb : D b /\ cl b = b then Classical.choose (pts b hb) else 0
 have hpt : ∀ b, D b /\ cl b = b -> D (pt b) /\ cl (pt b) = b /\ (m2 (pt b) = -1 \/ ∃ a : Nat, m2 (pt b) = (a : Int) /\ A a) /\ (b = cl x -> pt b = x) := fun b hb => by
  have := Classical.choose_spec (pts b hb)
  simp only [pt, dif_pos hb]; exact this
 have h2 := inj_le (g := fun b => v (pt b)) (l := listOf fun b => D b /\ cl b = b) (s := ((listOf fun x => x < n /\ m2 x = -1) ++ listOf A).erase (v y)) (listOf_nodup _) (fun b hb => by
  obtain ⟨_, hb⟩ := listOf_mem.1 hb
  obtain ⟨p1, p2, p3, p4⟩ := hpt b hb
  refine (List.mem_erase_of_ne fun e => ?_).2 (vin _ p1 p3)
  have e2 := vinj _ _ p1 hy p3 ey e
  have hbx : b = cl x := by rw [hc, <- e2, p2]
  exact hne ((p4 hbx).symm.trans e2)) (fun a ha b hb e => by
  obtain ⟨_, ha⟩ := listOf_mem.1 ha
  obtain ⟨_, hb⟩ := listOf_mem.1 hb
  obtain ⟨p1, p2, p3, _⟩ := hpt a ha
  obtain ⟨q1, q2, q3, _⟩ := hpt b hb
  rw [<- p2, <- q2, vinj _ _ p1 q1 p3 q3 e])
 have hym := vin y hy ey
 have h3 := List.length_erase_of_mem hym
 have h4 := List.length_pos_of_mem hym
 rw [List.length_append] at h3 h4
 omega
theorem class_whole {D A : Nat -> Prop} {cl : Nat -> Nat} (hm : Mt n J mt) (hJi : ∀ x, ¬ J x x) (hn : n <= 40) (h : Dn n J mt D A cl) (hl : Lone n J mt D A) (hall : ∀ x, x < n -> mt x = -1 -> D x) {x : Nat} (hx : D x) :
  ∃ m2, Mt n J m2 /\ m2 x = -1 /\ (listOf fun x => x < n /\ m2 x = -1).length <= (listOf fun x => x < n /\ mt x = -1).length /\ ∀ y, D y -> cl y = cl x -> y ≠ x -> ∃ z : Nat, m2 y = (z : Int) /\ D z /\ cl z = cl x /\ z ≠ x := by
 obtain ⟨m2, r, h1, h2, h3, h4, h5⟩ := hl x hx
 have hxn := h.dlt hx
 have hfx : m2 x = -1 := (h4 x hxn).2 (.inr rfl)
 have hle : (listOf fun x => x < n /\ m2 x = -1).length <= (listOf fun x => x < n /\ mt x = -1).length := by
  refine inj_le (g := fun y => if y = x then r else y) (listOf_nodup _) (fun y hy => ?_) (fun y hy z hz e => ?_)
  ·obtain ⟨y0, y1, y2⟩ := listOf_mem.1 hy
   have hr := h.dlt h2
   show (if y = x then r else y) ∈ _
   split
   ·exact listOf_mem.2 ⟨by omega, hr, h3⟩
   ·rename_i hne
    exact listOf_mem.2 ⟨y0, y1, (((h4 y y1).1 y2).resolve_right hne).1⟩
  ·obtain ⟨_, y1, y2⟩ := listOf_mem.1 hy
   obtain ⟨_, z1, z2⟩ := listOf_mem.1 hz
   have cy := (h4 y y1).1 y2
   have cz := (h4 z z1).1 z2
   have e : (if y = x then r else y) = (if z = x then r else z) := e
   by_cases ey : y = x
   ·rw [if_pos ey] at e
    by_cases ez : z = x
    ·rw [ey, ez]
    ·rw [if_neg ez] at e; exact absurd e.symm (cz.resolve_right ez).2
   ·rw [if_neg ey] at e
    by_cases ez : z = x
    ·rw [if_pos ez] at e; exact absurd e (cy.resolve_right ey).2
    ·rw [if_neg ez] at e; exact e
 refine ⟨m2, h1, hfx, hle, fun y hy hc hne => ?_⟩
 have hyn := h.dlt hy
 rcases h1.rng hyn with e | ⟨z, hz, e⟩
 ·exact absurd (one_out hm hJi hn h hall h1 hle hy hx hc (.inl e) (.inl hfx)) hne
 ·rcases h.clo hy (h1.adj hyn e) hz with g | g
  ·refine ⟨z, e, g.1, by rw [g.2, hc], fun k => ?_⟩
   subst k
   have := h1.sym hyn e
   omega
  ·exact absurd (one_out hm hJi hn h hall h1 hle hy hx hc (.inr ⟨z, e, g⟩) (.inl hfx)) hne
end
section
open Classical
variable {n : Nat} {J : Nat -> Nat -> Prop}
def InP (n : Nat) (th : Nat -> Bool) (mt : Nat -> Int) : Prop := ∀ x, x < n -> th x = false -> mt x = -1
def MostP (n : Nat) (J : Nat -> Nat -> Prop) (th : Nat -> Bool) (k : Nat) : Prop := (∃ mt, Mt n J mt /\ InP n th mt /\ 2 * k + freeN n mt = n) /\ ∀ mt, Mt n J mt -> InP n th mt -> n <= 2 * k + freeN n mt
theorem MostP.le {th : Nat -> Bool} {k : Nat} (h : MostP n J th k) : 2 * k <= n := by
 obtain ⟨⟨m1, a1, a2, a3⟩, b⟩ := h
 omega
def MostTo (n : Nat) (J : Nat -> Nat -> Prop) (th : Nat -> Bool) (f b k : Nat) : Prop :=
 (∃ mt, Mt n J mt /\ InP n th mt /\ 2 * k + freeN n mt = n) /\ ∀ mt, Mt n J mt -> InP n th mt -> (mt f = -1 \/ ∃ c : Nat, c < b /\ mt f = (c : Int)) -> n <= 2 * k + freeN n mt
end
structure GoodC (n : Nat) (R : Nat -> Nat -> Bool) (cs : List (List Nat)) : Prop where
 ne : ∀ c ∈ cs, 0 < c.length
 nodup : cs.flatten.Nodup
 lt : ∀ x ∈ cs.flatten, x < n
 adj : ∀ c ∈ cs, ∀ k, k + 1 < c.length -> R (c.getD k 0) (c.getD (k + 1) 0) = true
 len : cs.flatten.length = n
structure CH (n : Nat) (nx pr : Nat -> Int) (cs : List (List Nat)) : Prop where
 heads : cs.map (fun c => c.getD 0 0) = headS n pr
 ne : ∀ c ∈ cs, 0 < c.length
 lt : ∀ c ∈ cs, ∀ k, k < c.length -> c.getD k 0 < n
 adj : ∀ c ∈ cs, ∀ k, k + 1 < c.length -> nx (c.getD k 0) = ((c.getD (k + 1) 0 : Nat) : Int)
 last : ∀ c ∈ cs, nx (c.getD (c.length - 1) 0) = -1
def ChsAt (W : AW) (v : Value) (cs : List (List Nat)) (K B : Nat -> Prop) : Prop := ∃ us : List Value, us.length = cs.length /\ GrowsN W v us.length us 31 1 K /\ ∀ (i : Nat) u c, us[i]? = some u -> cs[i]? = some c -> GrowsN W u c.length (natsV c) 3 1 B
structure Half (n : Nat) (nx : Nat -> Int) (a : Nat) (c : List Nat) (b : Int) : Prop where
 hd : c.length = 0 -> b = (a : Int)
 hd1 : 0 < c.length -> c.getD 0 0 = a
 lt : ∀ k, k < c.length -> c.getD k 0 < n
 adj : ∀ k, k + 1 < c.length -> nx (c.getD k 0) = ((c.getD (k + 1) 0 : Nat) : Int)
 nxt : 0 < c.length -> nx (c.getD (c.length - 1) 0) = b
structure CHto (n : Nat) (nx pr : Nat -> Int) (a : Nat) (cs : List (List Nat)) : Prop where
 heads : cs.map (fun c => c.getD 0 0) = (List.range a).filter fun x => decide (pr x = -1)
 ne : ∀ c ∈ cs, 0 < c.length
 lt : ∀ c ∈ cs, ∀ k, k < c.length -> c.getD k 0 < n
 adj : ∀ c ∈ cs, ∀ k, k + 1 < c.length -> nx (c.getD k 0) = ((c.getD (k + 1) 0 : Nat) : Int)
 last : ∀ c ∈ cs, nx (c.getD (c.length - 1) 0) = -1
def preC (cs : List (List Nat)) (i k : Nat) : List Nat := (cs.take i).flatten ++ (cs.getD i []).take k


theorem TS_membs {n F x : Nat} : (TS (membs n F)).testBit x = true ↔ x < n /\ F.testBit x = true := by rw [TS_mem, membs_mem]
section
open Classical
def Two (n : Nat) (J : Nat -> Nat -> Prop) (c : Nat -> Bool) : Prop := ∀ x y, x < n -> y < n -> J x y -> c x ≠ c y
variable {n : Nat} {J : Nat -> Nat -> Prop}
structure SideI (n : Nat) (J : Nat -> Nat -> Prop) (S L R : Nat) (ev : Bool) : Prop where
 ln : ∀ x, L.testBit x = true -> x < n
 sl : ∀ x, S.testBit x = true -> x < n /\ L.testBit x = false
 rl : ∀ x, R.testBit x = true -> L.testBit x = true
 clo : ∀ x y, x < n -> y < n -> L.testBit x = false -> J x y -> L.testBit y = false \/ R.testBit y = true
 fit : (∃ c, Two n J c) -> ∃ c, Two n J c /\ (∀ x, x < n -> L.testBit x = false -> (S.testBit x = true ↔ c x = true)) /\ ∀ x, R.testBit x = true -> c x = ev
end
section
open Classical
variable {n : Nat} {J : Nat -> Nat -> Prop} {s : PS} {D A : Nat -> Prop} {cl : Nat -> Nat} {c : Nat -> Bool}
theorem great_least (hn : n <= 40) (hJi : ∀ x, ¬ J x x) (hsy : ∀ x y, J x y -> J y x) (h : Great n J s D A cl n) {m2 : Nat -> Int} (hm2 : Mt n J m2) : freeN n s.mt <= freeN n m2 := by
 have h1 := berge_strong h.mat hJi hsy hn h.dn h.all
 have h2 := berge_weak hm2 hJi hsy hn (S := fun r => r < n /\ ¬ A r) (fun r hr => hr.1)
 have h3 : (listOf fun x => x < n /\ ¬ (x < n /\ ¬ A x)).length <= (listOf A).length := nodup_le (listOf_nodup _) fun x hx => by
  obtain ⟨x0, x1, x2⟩ := listOf_mem.1 hx
  exact listOf_mem.2 ⟨x0, Classical.byContradiction fun g => x2 ⟨x1, g⟩⟩
 unfold freeN
 omega
theorem great_most (hn : n <= 40) (hJi : ∀ x, ¬ J x x) (hsy : ∀ x y, J x y -> J y x) (h : Great n J s D A cl n) {k : Nat} (hk : 2 * k + freeN n s.mt = n) : MostP n J (fun _ => true) k :=
 ⟨⟨s.mt, h.mat, fun x _ g => (by cases g), hk⟩, fun mt h1 _ => by have := great_least hn hJi hsy h h1; omega⟩
def CovP (n : Nat) (D A : Nat -> Prop) (c : Nat -> Bool) (x : Nat) : Prop := A x \/ (x < n /\ ¬ D x /\ ¬ A x /\ c x = true)
end
section
open Classical
structure EvI (n : Nat) (J : Nat -> Nat -> Prop) (f : Nat -> Int) (qs : List Nat) (k : Nat) : Prop where
 col : ∀ x, x < n -> f x = 0 \/ f x = 1 \/ f x = -1
 q : ∀ x ∈ qs, x < n /\ f x ≠ 0
 nd : qs.Nodup
 opp : ∀ x y, x < n -> f x ≠ 0 -> (∀ i, k <= i -> i < qs.length -> pOf qs i ≠ x) -> y < n -> J x y -> f y = -f x
 fit : (∃ c, Two n J c) -> ∃ c, Two n J c /\ ∀ x, x < n -> f x ≠ 0 -> (f x = 1 ↔ c x = true)
variable {n : Nat} {J : Nat -> Nat -> Prop} {f : Nat -> Int} {qs : List Nat} {k : Nat}
end
def intsL (n : Nat) (f : Nat -> Int) : List Value := (List.range n).map fun j => .int .i64 (f j)


section
open Classical
variable {n : Nat} {xs : List Edge} {s : PS} {D A : Nat -> Prop} {cl : Nat -> Nat}
theorem bar_A (hn : n <= 40) (hg : GraphOk (n : Int) xs) (h : Great n (AjE xs) s D A cl n) {N : Nat} (hN : ∀ x, N.testBit x = true ↔ A x) : BarIs n xs (membL n N) (cnt2 (mateL n s.mt) n) := by
 have hNe : N = bitsOf A 40 := bits_eq fun r => by
  rw [hN, bitsOf_bit]
  exact ⟨fun g => ⟨by have := h.dn.alt g; omega, g⟩, fun g => g.2⟩
 subst hNe
 refine ⟨membL_rises _ _, ?_⟩
 have hS : Sof n (membL n (bitsOf A 40)) = fun r => r < n /\ ¬ A r := by
  funext r
  apply propext
  rw [membL_sof, bitsOf_bit]
  exact ⟨fun ⟨h1, h2⟩ => ⟨h1, fun ha => h2 ⟨by omega, ha⟩⟩, fun ⟨h1, h2⟩ => ⟨h1, fun ha => h2 ha.2⟩⟩
 have hst := berge_strong h.mat (aj_irr hg) AjE.symm hn h.dn h.all
 have hlA2 : (membL n (bitsOf A 40)).length <= (listOf A).length := by
  rw [membL_len]
  refine nodup_le (List.nodup_range.filter _) fun x hx => ?_
  have := membs_mem.1 hx
  exact listOf_mem.2 (bitsOf_bit.1 this.2)
 have hw := weak_len hn hg h.mat (membL n (bitsOf A 40))
 have hf := free_cnt hn hg h.mat
 rw [hS] at hw ⊢
 have hst2 : (freeN n s.mt : Int) + ((listOf A).length : Int) <= sumN 40 (rootF (AjE xs) fun r => r < n /\ ¬ A r) := by
  refine Int.le_trans ?_ hst
  unfold freeN
  omega
 omega
theorem great_mo (hn : n <= 40) (hg : GraphOk (n : Int) xs) (h : Great n (AjE xs) s D A cl n) : ∃ mo : Nat, cnt2 (mateL n s.mt) n = (mo : Int) /\ MostP n (AjE xs) (fun _ => true) mo := by
 have hf := free_cnt hn hg h.mat
 have hi := cnt2_in (mateL n s.mt) n
 obtain ⟨mo, hmo⟩ : ∃ mo : Nat, cnt2 (mateL n s.mt) n = (mo : Int) := ⟨(cnt2 (mateL n s.mt) n).toNat, by omega⟩
 exact ⟨mo, hmo, great_most hn (aj_irr hg) AjE.symm h (by omega)⟩
theorem match_most {W : AW} {v : Value} {n : Nat} {es : List Edge} (h : PairR W v es) (hl : es.length < 4611686018427387904) (hg : GraphOk (n : Int) es) (hT : tabsIn T0 T0.tabs W = true) (hN0 : 0 < W.next) :
  WpF T0 17 [.agg ⟨[.int .i64 (n : Int), v]⟩] W (fun u W' => Ext W W' /\ ∃ mv, u = .tuple ⟨[mv, .int .i64 0]⟩ /\ ∃ (mo : Nat) (l : List Int), IntN W' mv l /\ l.length = n /\ PairOk (n : Int) es l n /\ cnt2 l n = (mo : Int) /\ MostP n (AjE es) (fun _ => true) mo) := by
 have hn : n <= 40 := by have := hg.2.1; omega
 refine (match_ok h hl hg hT hN0).mono ?_
 rintro u W' ⟨h1, mv, s, D, A, cl, h2, h3, h4⟩
 obtain ⟨mo, m1, m2⟩ := great_mo hn hg h4
 exact ⟨h1, mv, h2, mo, mateL n s.mt, h3, mateL_len _ _, great_pairs hn h4.mat, m1, m2⟩
structure PartsOk (n : Nat) (es : List Edge) (mo F N R : Nat) : Prop where
 f : ∀ a k, a < n -> MostP n (AjE es) (updB (fun _ => true) a false) k -> (k = mo ↔ F.testBit a = true)
 nx : ∀ a, a < n -> F.testBit a = false -> (N.testBit a = true ↔ ∃ y, y < n /\ F.testBit y = true /\ Jn es (a : Int) (y : Int))
 r : ∀ a, a < n -> (R.testBit a = true ↔ F.testBit a = false /\ N.testBit a = false)
 nf : ∀ a, F.testBit a = true -> N.testBit a = false
end

end Go.Proofs.YtdpnplanohgecaaDoor
open Go Go.Eng
namespace Go.Proofs.YtdpnplanohgecaaDoor
attribute [local congr] undef_congr WpK.congr WpS.congr WpL.congr WpC.congr WpF.congr gotS.congr callS.congr nextS.congr wantS.congr condS.congr
attribute [local irreducible] WpK
attribute [local simp] WpDr_nil WpDr_cons atS_some dwantS_true dwantS_false kindS_light kindS_float kindS_heavy lightS_value floatS_some heavyS_value heavyS_skip heavyS_enter dcallS_some doneS_eq
 isLight isFloat isPlain dLook testBit_dec dChain dLights_nil dLights_skip dLights_one dLight_nil dLight_cons dFreshes_nil dFreshes_one oneF_none oneF_some dFresh_nil dFresh_cons oneL_some oneW_true oneW_false sameV_value dPut dMay valEq arrEq listEq List.getElem?_cons Tr.get_nil dEnd
attribute [local simp] WpS_nil WpS_cons isDefer undef_false wantS_true wantS_false nextS_value nextS_skip nextS_enter callS_some gotS_some aWanted aOp aEvalF aEval opMove opAssign opPick aVal flat flat1 AAct.put opBinOp opConvert opIndex Tr.get_set Tr.get_lay aBin aResults tupled
 aCall aVals aCallB blt_dec ble_dec beq_dec aBinI_add aBinI_sub aBinI_lss aBinI_leq aBinI_gtr aBinI_geq aBinI_eql aBinI_neq index_str len_str len_slice Nat.beq_refl Nat.beq_refl
 opBox opLoad opFieldAddr opIndexAddr acells aAddr opExtract aExtract opUnOp opAlloc opStore opMakeInterface opNilCheck opBuild aParts opBuildSlice aValW
attribute [local simp] und2 und3 und4 und5 und9 und12 field13_0 field13_1 und21 und22 field23_0 field23_1 field24_0 field24_1 field25_0 field25_1 und28 und31 field34_0 field34_1 field34_2 field35_0 field35_1 field35_2 und46 field50_0 field50_1 field50_2 und55 und56 und58 und61 und62 und73 und75 und90 und94 und95 und96 field97_0 field97_1 field97_2 field97_3 field97_4 field97_5 field97_6 field98_0 field98_1 field98_2 field98_3 field98_4 field98_5 field98_6 und99 und106 field107_0 field107_1 field108_0 field108_1 und119 und122 field124_0 field124_1 field124_2 field125_0 field125_1 field125_2 field131_0 field131_1 field132_0 field132_1 und133 field134_0 field134_1 field135_0 field135_1 und148 und156 und160
set_option maxHeartbeats 4000000
set_option linter.unusedSimpArgs false
set_option linter.unusedVariables false
def allO : Nat -> Nat -> Nat -> Bool
 | 0, lo, c => Nat.beq (onesN lo) c
 | k + 1, lo, c => allO k (2 * lo) c && allO k (2 * lo + 1) (c + 1)
theorem allO_0 : allO 14 0 0 = true := by decide +kernel
theorem allO_1 : allO 14 1 1 = true := by decide +kernel
theorem allO_2 : allO 14 2 1 = true := by decide +kernel
theorem allO_3 : allO 14 3 2 = true := by decide +kernel
theorem cntB_eq {x y : Nat} : ∀ {m : Nat}, (∀ i, i < m -> x.testBit i = y.testBit i) -> cntB m x = cntB m y
 | 0, _ => rfl
 | m + 1, h => by
  show cntB m x + (if x.testBit m then 1 else 0) = cntB m y + (if y.testBit m then 1 else 0)
  rw [cntB_eq (fun i hi => h i (by omega)), h m (by omega)]
theorem allO_is : ∀ {k lo c : Nat}, allO k lo c = true -> ∀ j, j < 2 ^ k -> onesN (lo * 2 ^ k + j) = c + cntB k j
 | 0, lo, c, h, j, hj => by
  have : j = 0 := by simp at hj; exact hj
  subst this
  have := Nat.eq_of_beq_eq_true h
  simp [this, cntB]
 | k + 1, lo, c, h, j, hj => by
  simp only [allO, Bool.and_eq_true] at h
  have e : 2 ^ (k + 1) = 2 * 2 ^ k := by rw [Nat.pow_succ, Nat.mul_comm]
  show onesN (lo * 2 ^ (k + 1) + j) = c + (cntB k j + (if j.testBit k then 1 else 0))
  by_cases hlt : j < 2 ^ k
  ·have := allO_is h.1 j hlt
   rw [e, <- Nat.mul_assoc, Nat.mul_comm lo 2, this, Nat.testBit_lt_two_pow hlt]
   simp
  ·obtain ⟨q, rfl⟩ : ∃ q, j = 2 ^ k + q := ⟨j - 2 ^ k, by omega⟩
   have hq : q < 2 ^ k := by omega
   have := allO_is h.2 q hq
   have e2 : lo * 2 ^ (k + 1) + (2 ^ k + q) = (2 * lo + 1) * 2 ^ k + q := by
    rw [e, Nat.add_mul, Nat.one_mul, <- Nat.mul_assoc, Nat.mul_comm lo 2]; omega
   rw [e2, this, Nat.testBit_two_pow_add_eq, Nat.testBit_lt_two_pow hq, cntB_eq (x := 2 ^ k + q) (y := q) (fun i hi => Nat.testBit_two_pow_add_gt hi q)]
   simp; omega
theorem cntB_up {x n : Nat} (hx : x < 2 ^ n) : ∀ m : Nat, n <= m -> cntB m x = cntB n x := by
 intro m hm
 induction hm with
 | refl => rfl
 | @step m hm ih =>
  show cntB m x + (if x.testBit m then 1 else 0) = cntB n x
  rw [ih, Nat.testBit_lt_two_pow (Nat.lt_of_lt_of_le hx (Nat.pow_le_pow_right (by omega) hm))]
  simp
theorem ones16 (x : Nat) (hx : x < 65536) : pc x = onesN x := by
 have h16 : pc x = cntB 16 x := cntB_up (n := 16) hx 40 (by omega)
 have hm : cntB 14 x = cntB 14 (x % 2 ^ 14) := cntB_eq fun i hi => by rw [Nat.testBit_mod_two_pow, decide_eq_true hi, Bool.true_and]
 have hs : cntB 16 x = cntB 14 x + (if x.testBit 14 then 1 else 0) + (if x.testBit 15 then 1 else 0) := rfl
 have b14 : x.testBit 14 = decide (x / 2 ^ 14 % 2 = 1) := Nat.testBit_eq_decide_div_mod_eq
 have b15 : x.testBit 15 = decide (x / 2 ^ 15 % 2 = 1) := Nat.testBit_eq_decide_div_mod_eq
 have hx2 : x / 2 ^ 14 * 2 ^ 14 + x % 2 ^ 14 = x := by rw [Nat.mul_comm]; exact Nat.div_add_mod x (2 ^ 14)
 have hlt : x % 2 ^ 14 < 2 ^ 14 := Nat.mod_lt _ (by decide)
 have h15 : x / 2 ^ 15 = x / 2 ^ 14 / 2 := by rw [Nat.div_div_eq_div_mul]
 rw [h16, hs, hm, b14, b15, h15]
 have hq : x / 2 ^ 14 < 4 := by omega
 generalize hlo : x / 2 ^ 14 = lo at hx2 hq
 generalize x % 2 ^ 14 = j at hx2 hlt
 rw [<- hx2]
 have cs : lo = 0 \/ lo = 1 \/ lo = 2 \/ lo = 3 := by omega
 rcases cs with e | e | e | e
 ·subst e; rw [allO_is allO_0 j hlt]; simp
 ·subst e; rw [allO_is allO_1 j hlt]; simp; omega
 ·subst e; rw [allO_is allO_2 j hlt]; simp; omega
 ·subst e; rw [allO_is allO_3 j hlt]; simp; omega
section
attribute [local irreducible] aBinI
theorem ones16_wp {W : AW} {x : Nat} (hx : x < 65536) : WpF T0 90 [.int .u64 (x : Nat)] W (fun v W' => W' = W /\ v = .int .i64 (pc x : Nat)) := by
 have hpc : pc x = onesN x := ones16 x hx
 have A1 : aBinI .shr .u64 (x : Int) .u64 1 = some (.int .u64 ((x >>> 1 : Nat) : Int)) := aBinI_shr .u64 .u64 x 1 (by decide)
 have A2 : aBinI .and .u64 ((x >>> 1 : Nat) : Int) .u64 6148914691236517205 = some (.int .u64 ((x >>> 1 &&& 6148914691236517205 : Nat) : Int)) := aBinI_and .u64 _ 6148914691236517205 (by have := shr_le x 1; show x >>> 1 < 18446744073709551616; omega) (by decide)
 have A3 : aBinI .and .u64 (x : Int) .u64 6148914691236517205 = some (.int .u64 ((x &&& 6148914691236517205 : Nat) : Int)) := aBinI_and .u64 _ 6148914691236517205 (by show x < 18446744073709551616; omega) (by decide)
 have a2 : x >>> 1 &&& 6148914691236517205 <= x := Nat.le_trans Nat.and_le_left (shr_le x 1)
 have a3 : x &&& 6148914691236517205 <= x := Nat.and_le_left
 simp only [onesN] at hpc
 generalize x >>> 1 = x1 at A1 A2 a2 hpc
 generalize x1 &&& 6148914691236517205 = x2 at A2 a2 hpc
 generalize x &&& 6148914691236517205 = x3 at A3 a3 hpc
 have A4 : IntKind.u64.wrap ((x2 : Int) + (x3 : Int)) = ((x2 + x3 : Nat) : Int) := by rw [<- Int.natCast_add]; exact u64_nat (by omega)
 generalize hy : x2 + x3 = y at A4 hpc
 have hyl : y <= 131072 := by omega
 have B1 : aBinI .shr .u64 (y : Int) .u64 2 = some (.int .u64 ((y >>> 2 : Nat) : Int)) := aBinI_shr .u64 .u64 y 2 (by decide)
 have B2 : aBinI .and .u64 ((y >>> 2 : Nat) : Int) .u64 3689348814741910323 = some (.int .u64 ((y >>> 2 &&& 3689348814741910323 : Nat) : Int)) := aBinI_and .u64 _ 3689348814741910323 (by have := shr_le y 2; show y >>> 2 < 18446744073709551616; omega) (by decide)
 have B3 : aBinI .and .u64 (y : Int) .u64 3689348814741910323 = some (.int .u64 ((y &&& 3689348814741910323 : Nat) : Int)) := aBinI_and .u64 _ 3689348814741910323 (by show y < 18446744073709551616; omega) (by decide)
 have b2 : y >>> 2 &&& 3689348814741910323 <= y := Nat.le_trans Nat.and_le_left (shr_le y 2)
 have b3 : y &&& 3689348814741910323 <= y := Nat.and_le_left
 generalize y >>> 2 = y1 at B1 B2 b2 hpc
 generalize y1 &&& 3689348814741910323 = y2 at B2 b2 hpc
 generalize y &&& 3689348814741910323 = y3 at B3 b3 hpc
 have B4 : IntKind.u64.wrap ((y2 : Int) + (y3 : Int)) = ((y2 + y3 : Nat) : Int) := by rw [<- Int.natCast_add]; exact u64_nat (by omega)
 generalize hz : y2 + y3 = z at B4 hpc
 have hzl : z <= 262144 := by omega
 have C1 : aBinI .shr .u64 (z : Int) .u64 4 = some (.int .u64 ((z >>> 4 : Nat) : Int)) := aBinI_shr .u64 .u64 z 4 (by decide)
 have c1 := shr_le z 4
 have C2 : IntKind.u64.wrap (((z >>> 4 : Nat) : Int) + (z : Int)) = ((z >>> 4 + z : Nat) : Int) := by rw [<- Int.natCast_add]; exact u64_nat (by omega)
 have C3 : aBinI .and .u64 ((z >>> 4 + z : Nat) : Int) .u64 1085102592571150095 = some (.int .u64 (((z >>> 4 + z) &&& 1085102592571150095 : Nat) : Int)) := aBinI_and .u64 _ 1085102592571150095 (by show z >>> 4 + z < 18446744073709551616; omega) (by decide)
 have c3 : (z >>> 4 + z) &&& 1085102592571150095 <= z >>> 4 + z := Nat.and_le_left
 generalize z >>> 4 = z1 at C1 C2 C3 c1 c3 hpc
 generalize hw : z1 + z = z2 at C2 C3 c3 hpc
 generalize z2 &&& 1085102592571150095 = w at C3 c3 hpc
 have hwl : w <= 524288 := by omega
 have D1 : aBinI .shr .u64 (w : Int) .u64 8 = some (.int .u64 ((w >>> 8 : Nat) : Int)) := aBinI_shr .u64 .u64 w 8 (by decide)
 have d1 := shr_le w 8
 have D2 : IntKind.u64.wrap ((w : Int) + ((w >>> 8 : Nat) : Int)) = ((w + w >>> 8 : Nat) : Int) := by rw [<- Int.natCast_add]; exact u64_nat (by omega)
 generalize w >>> 8 = w1 at D1 D2 d1 hpc
 generalize hp : w + w1 = p at D2 hpc
 have hpl : p <= 1048576 := by omega
 have E1 : aBinI .shr .u64 (p : Int) .u64 16 = some (.int .u64 ((p >>> 16 : Nat) : Int)) := aBinI_shr .u64 .u64 p 16 (by decide)
 have e1 := shr_le p 16
 have E2 : IntKind.u64.wrap ((p : Int) + ((p >>> 16 : Nat) : Int)) = ((p + p >>> 16 : Nat) : Int) := by rw [<- Int.natCast_add]; exact u64_nat (by omega)
 generalize p >>> 16 = p1 at E1 E2 e1 hpc
 generalize hq : p + p1 = q at E2 hpc
 have hql : q <= 2097152 := by omega
 have F1 : aBinI .shr .u64 (q : Int) .u64 32 = some (.int .u64 ((q >>> 32 : Nat) : Int)) := aBinI_shr .u64 .u64 q 32 (by decide)
 have f1 := shr_le q 32
 have F2 : IntKind.u64.wrap ((q : Int) + ((q >>> 32 : Nat) : Int)) = ((q + q >>> 32 : Nat) : Int) := by rw [<- Int.natCast_add]; exact u64_nat (by omega)
 generalize q >>> 32 = q1 at F1 F2 f1 hpc
 generalize hr : q + q1 = r at F2 hpc
 have hrl : r <= 4194304 := by omega
 have G1 : IntKind.i64.wrap (r : Int) = (r : Int) := i64_nat r (by omega)
 have G2 : aBinI .and .i64 (r : Int) .i64 127 = some (.int .i64 ((r &&& 127 : Nat) : Int)) := aBinI_and .i64 r 127 (by show r < 9223372036854775808; omega) (by decide)
 generalize r &&& 127 = s at G2 hpc
 refine wpF fun90 rfl ?_
 try simp only [zzA]
 refine wpK_reg (fun R hR => by simp []; exact hR) ?_
 try simp only [zzA]
 refine wpK_reg (fun R hR => by simp [A1, A2, A3, A4]; exact hR) ?_
 try simp only [zzA]
 refine wpK_reg (fun R hR => by simp [B1, B2, B3, B4]; exact hR) ?_
 try simp only [zzA]
 refine wpK_reg (fun R hR => by simp [C1, C2, C3]; exact hR) ?_
 try simp only [zzA]
 refine wpK_reg (fun R hR => by simp [D1, D2]; exact hR) ?_
 try simp only [zzA]
 refine wpK_reg (fun R hR => by simp [E1, E2]; exact hR) ?_
 try simp only [zzA]
 refine wpK_reg (fun R hR => by simp [F1, F2]; exact hR) ?_
 try simp only [zzA]
 refine wpK_reg (fun R hR => by simp [conv_95_3, G1, G2]; exact hR) ?_
 exact wpK_ret ⟨.inr rfl, rfl, [.int .i64 (s : Nat)], by simp, rfl, by rw [hpc]; rfl⟩
end
theorem size16_wp {W : AW} {x : Nat} (hx : x < 65536) : WpF T0 82 [.int .u64 (x : Nat)] W (fun v W' => W' = W /\ v = .int .i64 (pc x : Nat)) := by
 refine wpF fun82 rfl ?_
 try simp only [zzA]
 refine wpK_reg (fun R hR => by simp []; exact hR) ?_
 try simp only [zzA]
 refine wpK_reg (fun R hR => by
   simp [aEnter, fun90, zzC, aCallV]; rw [zzD]
   refine (ones16_wp hx).mono ?_
   rintro _ W9 ⟨e9, rfl⟩; subst W9
   simp []; exact hR) ?_
 exact wpK_ret ⟨.inr rfl, rfl, [.int .i64 (pc x : Nat)], by simp, rfl, rfl⟩
end Go.Proofs.YtdpnplanohgecaaDoor

open Go Go.Eng
namespace Go.Proofs.YtdpnplanohgecaaDoor
attribute [local congr] undef_congr WpK.congr WpS.congr WpL.congr WpC.congr WpF.congr gotS.congr callS.congr nextS.congr wantS.congr condS.congr
attribute [local irreducible] WpK
attribute [local simp] WpDr_nil WpDr_cons atS_some dwantS_true dwantS_false kindS_light kindS_float kindS_heavy lightS_value floatS_some heavyS_value heavyS_skip heavyS_enter dcallS_some doneS_eq
 isLight isFloat isPlain dLook testBit_dec dChain dLights_nil dLights_skip dLights_one dLight_nil dLight_cons dFreshes_nil dFreshes_one oneF_none oneF_some dFresh_nil dFresh_cons oneL_some oneW_true oneW_false sameV_value dPut dMay valEq arrEq listEq List.getElem?_cons Tr.get_nil dEnd
attribute [local simp] WpS_nil WpS_cons isDefer undef_false wantS_true wantS_false nextS_value nextS_skip nextS_enter callS_some gotS_some aWanted aOp aEvalF aEval opMove opAssign opPick aVal flat flat1 AAct.put opBinOp opConvert opIndex Tr.get_set Tr.get_lay aBin aResults tupled
 aCall aVals aCallB blt_dec ble_dec beq_dec aBinI_add aBinI_sub aBinI_lss aBinI_leq aBinI_gtr aBinI_geq aBinI_eql aBinI_neq index_str len_str len_slice Nat.beq_refl Nat.beq_refl
 opBox opLoad opFieldAddr opIndexAddr acells aAddr opExtract aExtract opUnOp opAlloc opStore opMakeInterface opNilCheck opBuild aParts opBuildSlice aValW
attribute [local simp] und2 und3 und4 und5 und9 und12 field13_0 field13_1 und21 und22 field23_0 field23_1 field24_0 field24_1 field25_0 field25_1 und28 und31 field34_0 field34_1 field34_2 field35_0 field35_1 field35_2 und46 field50_0 field50_1 field50_2 und55 und56 und58 und61 und62 und73 und75 und90 und94 und95 und96 field97_0 field97_1 field97_2 field97_3 field97_4 field97_5 field97_6 field98_0 field98_1 field98_2 field98_3 field98_4 field98_5 field98_6 und99 und106 field107_0 field107_1 field108_0 field108_1 und119 und122 field124_0 field124_1 field124_2 field125_0 field125_1 field125_2 field131_0 field131_1 field132_0 field132_1 und133 field134_0 field134_1 field135_0 field135_1 und148 und156 und160
set_option maxHeartbeats 4000000
set_option linter.unusedSimpArgs false
set_option linter.unusedVariables false
theorem odd16_wp {W : AW} {pw s : Nat} {P : Int} {J : List Nat} {es : List Edge} (hJ : JoinL es J) (hVw : Var W pw 108 (.int .i64 P :: J.map setV)) (hs : s < 65536) (hT : tabsIn T0 T0.tabs W = true) (hN0 : 0 < W.next) :
  WpF T0 62 [.pointer (some ⟨pw, 0, none⟩), .int .u64 (s : Nat)] W (fun u W' => Ext W W' /\ u = .int .i64 (sumN 40 (rootF (AjE es) (fun r => s.testBit r = true)))) := by
 refine wpF fun62 rfl ?_
 try simp only [zzA]
 refine wpK_reg (fun R hR => by simp []; exact hR) ?_
 try simp only [zzA]
 refine wpK_reg (fun R hR => by simp []; exact hR) ?_
 obtain ⟨S, hS⟩ : ∃ S : Nat -> Prop, S = fun r => s.testBit r = true := ⟨_, rfl⟩
 rw [<- hS]
 have hS40 : ∀ r, S r -> r < 16 := fun r hr => by rw [hS] at hr; exact bit_lt (n := 16) hs hr
 have hsy := AjE.symm (es := es)
 try simp only [zzA]
 refine wpK_while (I := fun k A' W' => A'.n = 35 /\ A'.defers = [] /\ A'.tmps.get 0 = some (.pointer (some ⟨pw, 0, none⟩)) /\ Ext W W' /\ ∃ m : Nat, A'.tmps.get 1 = some (.int .u64 (k : Nat)) /\ A'.tmps.get 5 = some (.int .i64 (sumN m (rootF (AjE es) S))) /\ k < 65536 /\ LeftOf (AjE es) S m k /\ m <= 40)
  (J := fun A' W' => A'.n = 35 /\ A'.defers = [] /\ Ext W W' /\ A'.tmps.get 5 = some (.int .i64 (sumN 40 (rootF (AjE es) S)))) (Rt := fun _ _ => False) (k := s) ?_ ?_ ?_ ?_
 ·exact ⟨rfl, rfl, by simp, .refl _ _, 0, by simp, by simp [sumN], hs, .start (fun r => by rw [hS]), by omega⟩
 ·rintro k ⟨tm, n, ds⟩ Wa ⟨hn, hd, h0, hEa, m, h1, h5, hk, hLf, hm⟩ Q' hJ' hRt hI
  simp only at hn hd h0
  subst hn; subst hd
  simp only at h1 h5
  by_cases hz : k = 0
  ·subst hz
   try simp only [zzA]
   refine wpK_reg (fun R hR => by simp [h1]; exact hR) ?_
   try simp only [zzA]
   first | refine wpK_onF (by simp []) ?_ | refine wpK_out (by simp []) ?_ | refine zzF (by simp []) ?_ | refine zzB (by simp []) (wpK_skip ?_) | refine zzB (by simp []) ?_
   exact hJ' _ _ ⟨rfl, rfl, hEa, by rw [hLf.done hsy hm]; simp [h5]⟩
  have hz' : ¬ (k : Int) = 0 := by omega
  try simp only [zzA]
  refine wpK_reg (fun R hR => by simp [h1, hz', hz]; exact hR) ?_
  try simp only [zzA]
  first | refine wpK_onT (by simp [hz]) ?_ | refine wpK_outT (by simp [hz]) ?_ | refine zzE (by simp [hz]) ?_ | refine wpK_endT (by simp [hz]) ?_
  obtain ⟨q, hq1, hq2⟩ := low_ex hz
  have hq16 : q < 16 := bit_lt (n := 16) hk hq1
  have hmq := hLf.low hq1
  have hroot := hLf.root hsy hq1 hq2
  have hTa := tabs_ext hT hN0 hEa
  have f1 := first_wp hTa (x := k) (by omega) hq1 hq2
  have o1 := one_wp q (by omega) Wa
  have hone : ∀ r, (1 <<< q).testBit r = true ↔ r = q := fun r => by rw [one_bit, decide_eq_true_iff]; exact ⟨fun e => e.symm, fun e => e.symm⟩
  have hone2 : 1 <<< q < 65536 := by rw [Nat.one_shiftLeft]; exact Nat.pow_lt_pow_right (n := 16) (by omega) hq16
  have hone3 : 1 <<< q ≠ 0 := fun e => by have := (hone q).2 rfl; rw [e] at this; simp at this
  generalize 1 <<< q = oq at hone hone2 hone3 o1
  refine wpK_block1 ?_
  try simp only [zzA]
  refine wpK_reg (fun R hR => by
   simp [h1, aEnter, fun81, zzC, aCallV]; rw [zzD]
   refine f1.mono ?_
   rintro _ W9 ⟨e9, rfl⟩; subst W9
   simp [aEnter, fun68, zzC, aCallV]; rw [zzD]
   refine o1.mono ?_
   rintro _ W9 ⟨e9, rfl⟩; subst W9
   simp; exact hR) ?_
  try simp only [zzA]
  refine wpK_reg (fun R hR => by simp []; exact hR) ?_
  generalize hc0 : sumN m (rootF (AjE es) S) = c0 at h5
  have hc0in := sumF_in (Aj := AjE es) (S := S) m
  rw [hc0] at hc0in
  try simp only [zzA]
  refine wpK_while (I := fun k2 A' W' => A'.n = 35 /\ A'.defers = [] /\ A'.tmps.get 0 = some (.pointer (some ⟨pw, 0, none⟩)) /\ A'.tmps.get 1 = some (.int .u64 (k : Nat)) /\ A'.tmps.get 5 = some (.int .i64 c0) /\ Ext W W' /\ ∃ part more : Nat, A'.tmps.get 6 = some (.int .u64 (part : Nat)) /\ A'.tmps.get 7 = some (.int .u64 (more : Nat)) /\ k2 = 2 * (65536 - part) + (if more = 0 then 0 else 1) /\ part < 65536 /\ (∀ r, part.testBit r = true -> Rch (AjE es) S q r) /\ part.testBit q = true /\ (more = 0 -> ∀ a r, part.testBit a = true -> AjE es a r -> k.testBit r = true -> part.testBit r = true))
   (J := fun A' W' => A'.n = 35 /\ A'.defers = [] /\ A'.tmps.get 0 = some (.pointer (some ⟨pw, 0, none⟩)) /\ A'.tmps.get 1 = some (.int .u64 (k : Nat)) /\ A'.tmps.get 5 = some (.int .i64 c0) /\ Ext W W' /\ ∃ part : Nat, A'.tmps.get 6 = some (.int .u64 (part : Nat)) /\ part < 65536 /\ ∀ r, part.testBit r = true ↔ Rch (AjE es) S q r) (Rt := fun _ _ => False) (k := 2 * (65536 - oq) + 1) ?_ ?_ ?_ ?_
  ·exact ⟨rfl, rfl, by simp [h0, h1, h5], by simp [h0, h1, h5], by simp [h0, h1, h5], hEa, oq, oq, by simp, by simp, by rw [if_neg hone3], hone2, fun r hr => by rw [(hone r).1 hr]; exact .start hroot.1, (hone q).2 rfl, fun e => absurd e hone3⟩
  ·rintro k2 ⟨tm, n, ds⟩ Wb ⟨hn, hd, h0, h1, h5, hEb, part, more, h6, h7, hk2, hp, hpr, hpq, hcl⟩ Q3 hJ3 hRt3 hI3
   simp only at hn hd h0 h1 h5
   subst hn; subst hd
   simp only at h6 h7
   by_cases hmz : more = 0
   ·subst hmz
    try simp only [zzA]
    refine wpK_reg (fun R hR => by simp [h7]; exact hR) ?_
    try simp only [zzA]
    first | refine wpK_onF (by simp []) ?_ | refine wpK_out (by simp []) ?_ | refine zzF (by simp []) ?_ | refine zzB (by simp []) (wpK_skip ?_) | refine zzB (by simp []) ?_
    refine hJ3 _ _ ⟨rfl, rfl, by simp [h0, h1, h5], by simp [h0, h1, h5], by simp [h0, h1, h5], hEb, part, by simp [h6], hp, fun r => ⟨hpr r, fun hr => ?_⟩⟩
    refine hr.closed (C := fun r => part.testBit r = true) hpq (fun a b ha hab hb => ?_)
    exact hcl rfl a b ha hab (hLf.reach hq1 ((hpr a ha).step hab hb) hsy)
   have hmz' : ¬ (more : Int) = 0 := by omega
   try simp only [zzA]
   refine wpK_reg (fun R hR => by simp [h7, hmz', hmz]; exact hR) ?_
   try simp only [zzA]
   first | refine wpK_onT (by simp [hmz]) ?_ | refine wpK_outT (by simp [hmz]) ?_ | refine zzE (by simp [hmz]) ?_ | refine wpK_endT (by simp [hmz]) ?_
   have har := around_wp (x := part) hJ (hVw.ext hEb) (by omega) (tabs_ext hT hN0 hEb) (by have := hEb.1; omega)
   refine wpK_block ?_
   try simp only [zzA]
   refine wpK_y3 (P := fun (R u m' : Nat) W' => Ext Wb W' /\ (∀ r, m'.testBit r = true ↔ (∃ a, part.testBit a = true /\ AjE es a r) /\ k.testBit r = true /\ part.testBit r = false)) (fun Rr hRr => by
    simp [h0, h6, aEnter, fun80, zzC, aCallV]; rw [zzD]
    refine har.mono ?_
    rintro _ Wc ⟨hEc, R, rfl, hR40, hRb⟩
    have hand := aBinI_and .u64 R k (by show R < 18446744073709551616; omega) (by show k < 18446744073709551616; omega)
    have hu : R &&& k < 18446744073709551616 := Nat.lt_of_le_of_lt Nat.and_le_right (by omega)
    obtain ⟨m', n1, n2, n3⟩ := aBinI_andNot .u64 (R &&& k) part hu (by show part < 18446744073709551616; omega)
    have hbits : ∀ r, m'.testBit r = true ↔ (∃ a, part.testBit a = true /\ AjE es a r) /\ k.testBit r = true /\ part.testBit r = false := fun r => by
     rw [n3 r, Nat.testBit_and, Bool.and_eq_true, Bool.and_eq_true, hRb r, Bool.not_eq_true']
     constructor
     ·rintro ⟨⟨⟨a, ha, hb⟩, hc⟩, hd⟩
      exact ⟨⟨a, ha, (join_bit hJ (q := a) (r := r) (by have := bit_lt (n := 16) hp ha; omega)).2.1 hb⟩, hc, hd⟩
     ·rintro ⟨⟨a, ha, hb⟩, hc, hd⟩
      exact ⟨⟨⟨a, ha, (join_bit hJ (q := a) (r := r) (by have := bit_lt (n := 16) hp ha; omega)).2.2 hb⟩, hc⟩, hd⟩
    generalize R &&& k = u at hand n2
    simp [h1, h6, hand, n2]
    exact hRr R u m' Wc (And.intro hEc hbits)) ?_
   rintro R u m' Wc ⟨hEc, hbits⟩
   simp only [zzH, zzG]
   have hm16 : m' < 65536 := by
    apply Classical.byContradiction
    intro hge
    obtain ⟨r, hr1, hr2⟩ := Nat.exists_ge_and_testBit_of_ge_two_pow (n := 16) (x := m') (by omega)
    have := bit_lt (n := 16) hk ((hbits r).1 hr2).2.1
    omega
   have hor := aBinI_or .u64 part m' (by show part < 18446744073709551616; omega) (by show m' < 18446744073709551616; omega)
   have hle : part <= part ||| m' := Nat.left_le_or
   have hp' : part ||| m' < 65536 := Nat.or_lt_two_pow (n := 16) hp hm16
   have hb' : ∀ r, (part ||| m').testBit r = true ↔ part.testBit r = true \/ m'.testBit r = true := fun r => by rw [Nat.testBit_or, Bool.or_eq_true]
   have hgt : m' ≠ 0 -> part ≠ part ||| m' := fun hne e => by
    obtain ⟨r, hr, _⟩ := low_ex hne
    have h1 := ((hbits r).1 hr).2.2
    rw [e, (hb' r).2 (.inr hr)] at h1; cases h1
   have hz2 : m' = 0 -> part ||| m' = part := fun e => by rw [e]; simp
   generalize part ||| m' = part' at hor hle hp' hb' hgt hz2
   refine wpK_keep (fun tm' => tm'.get 0 = some (.pointer (some ⟨pw, 0, none⟩)) /\ tm'.get 1 = some (.int .u64 (k : Nat)) /\ tm'.get 5 = some (.int .i64 c0) /\ tm'.get 6 = some (.int .u64 (part : Nat)) /\ tm'.get 7 = some (.int .u64 (m' : Nat))) (by simp [h0, h1, h5, h6]) ?_
   rintro tm ⟨h0, h1, h5, h6, h7⟩
   try simp only [zzA]
   refine wpK_reg1 (fun R hR => by simp [h6, h7, hor]; exact hR) ?_
   refine hI3 (2 * (65536 - part') + (if m' = 0 then 0 else 1)) _ _ ?_ ⟨rfl, rfl, by simp [h0, h1, h5], by simp [h0, h1, h5], by simp [h0, h1, h5], hEb.trans hEc, part', m', by simp, by simp [h7], rfl, hp', fun r hr => ?_, (hb' q).2 (.inl hpq), fun e a r ha har2 hkr => ?_⟩
   ·rw [hk2, if_neg hmz]
    split
    ·omega
    ·rename_i hne
     have := hgt hne
     omega
   ·rcases (hb' r).1 hr with hr | hr
    ·exact hpr r hr
    ·obtain ⟨⟨a, ha, hab⟩, hkr, _⟩ := (hbits r).1 hr
     exact (hpr a ha).step hab ((hLf r).1 hkr).1
   ·rw [hz2 e] at ha ⊢
    cases hc : part.testBit r with
    | true => rfl
    | false =>
     have := (hbits r).2 ⟨⟨a, ha, har2⟩, hkr, hc⟩
     rw [e] at this; simp at this
  ·rintro A' W' hf; exact hf.elim
  ·rintro ⟨tm, n, ds⟩ Wb ⟨hn, hd, h0, h1, h5, hEb, part, h6, hp, hpr⟩
   simp only at hn hd h0 h1 h5
   subst hn; subst hd
   simp only at h6
   have hsz := size16_wp (W := Wb) (x := part) hp
   have hrem := aBinI_rem .i64 ((pc part : Nat) : Int) (2 : Nat) (by omega)
   rw [ofNat_tmod] at hrem
   have hrt := rootF_is hroot.1 hroot.2 (fun r hr => by have := hS40 r hr; omega) hpr
   have hsum : sumN (q + 1) (rootF (AjE es) S) = c0 + ((pc part % 2 : Nat) : Int) := by
    simp only [sumN]
    rw [hrt, sumN_skip hmq (hLf.skip hsy hq2), hc0]
   have hc1 := sumF_in (Aj := AjE es) (S := S) (q + 1)
   obtain ⟨s', n1, n2, n3⟩ := aBinI_andNot .u64 k part (by show k < 18446744073709551616; omega) (by show part < 18446744073709551616; omega)
   have hnx := hLf.next hsy hq1 hq2 hpr n3
   generalize pc part = pcp at hsz hrem hsum
   have a1 : IntKind.i64.wrap (c0 + ((pcp % 2 : Nat) : Int)) = sumN (q + 1) (rootF (AjE es) S) := by rw [<- hsum]; exact i64_in (by omega)
   generalize pcp % 2 = pm at hrem a1 hsum
   have hrem : aBinI .rem .i64 (pcp : Int) .i64 2 = some (.int .i64 (pm : Int)) := hrem
   try simp only [zzA]
   refine wpK_reg (fun R hR => by
     simp [h5, h6, hrem, a1, aEnter, fun82, zzC, aCallV]; rw [zzD]
     refine (hsz).mono ?_
     rintro _ W9 ⟨e9, rfl⟩; subst W9
     simp [h5, h6, hrem, a1]; exact hR) ?_
   try simp only [zzA]
   refine wpK_reg1 (fun R hR => by simp [h1, h6, n2]; exact hR) ?_
   simp only [zzH]
   have hlt : s' < k := by
    rcases Nat.lt_or_ge s' k with g | g
    ·exact g
    ·have e : s' = k := by omega
     have := n3 q
     rw [e, hq1, (hpr q).2 (.start hroot.1)] at this; cases this
   exact hI s' _ _ hlt ⟨rfl, rfl, by simp [h0], hEb, q + 1, by simp, by simp, by omega, hnx, by omega⟩
 ·rintro A' W' hf; exact hf.elim
 ·rintro ⟨tm, m, ds⟩ Wz ⟨e1, e2, hEz, h5⟩
  simp only at e1 e2 h5
  subst e1; subst e2
  try simp only [zzA]
  refine wpK_reg (fun R hR => by simp [h5]; exact hR) ?_
  exact wpK_ret ⟨.inr rfl, rfl, [.int .i64 (sumN 40 (rootF (AjE es) S))], by simp, hEz, rfl⟩
open Classical in
theorem isBarrier16_ok {W : AW} {v sv : Value} {n : Nat} {es : List Edge} {s : List Int} (h : PairR W v es) (hl : es.length < 4611686018427387904) (hg : GraphOk (n : Int) es) (hn12 : n <= 16) (hs : IntN W sv s) (hsl : s.length < 4611686018427387904) (hT : tabsIn T0 T0.tabs W = true) (hN0 : 0 < W.next) (k : Int) :
  WpF T0 22 [.agg ⟨[.int .i64 (n : Int), v]⟩, sv, .int .i64 k] W (fun u W' => Ext W W' /\ ∃ b, u = .bool b /\ (b = true ↔ BarIs n es s k)) := by
 refine wpF fun22 rfl ?_
 obtain ⟨W1, hW1, hE1, hV⟩ : ∃ W1, W1 = W.newCells 25 [.int .i64 (n : Int), v] /\ Ext W W1 /\ Var W1 W.next 25 [.int .i64 (n : Int), v] := ⟨_, rfl, .newCells _ _ _, Var.new _ _ _⟩
 have hl1 := load25 hV
 obtain ⟨A, c, hv⟩ := hs.len
 have ls : ∀ W', aLen T0 W' 31 sv = some (.int .i64 (s.length : Int)) := fun W' => by rw [hv]; exact len_slice und31 _ _ _
 try simp only [zzA]
 refine wpK_reg (fun R hR => by simp [<- hW1]; exact hR) ?_
 try simp only [zzA]
 refine wpK_x1 (fun R hR => by
   simp [hl1, opExtract, aExtract, aEnter, fun54, zzC, aCallV]; rw [zzD]
   refine (lay_ok (h.ext hE1) hl hg).mono ?_
   rintro _ W2 ⟨hE2, pw, hpw, rfl, hWeb⟩
   simp [hl1, opExtract, aExtract]; exact hR pw W2 (And.intro hE2 hWeb)) ?_
 rintro pw W2 ⟨hE2, hWeb⟩
 obtain ⟨J, hJ, hVw⟩ := hWeb
 have hE12 := hE1.trans hE2
 have l0 : ∀ W', Ext W2 W' -> aLoadVar T0 W' 3 W.next 0 = some (.int .i64 (n : Int)) := fun W' hE => ((hV.ext hE2).ext hE).load1 (T := T0) und3 rfl (j := 0) (v := .int .i64 (n : Int)) rfl
 have e22 : Ext W2 W2 := .refl _ _
 try simp only [zzA]
 refine wpK_reg (fun R hR => by simp []; exact hR) ?_
 try simp only [zzA]
 first | refine wpK_onF (by simp []) ?_ | refine wpK_out (by simp []) ?_ | refine zzF (by simp []) ?_ | refine zzB (by simp []) (wpK_skip ?_) | refine zzB (by simp []) ?_
 have hri := smallRising_wp (n : Int) (hs.ext hE12) (by omega) hsl
 by_cases hr : RisTo (n : Int) s s.length
 case neg =>
  try simp only [zzA]
  refine wpK_reg (fun R hR => by
   simp [l0, e22, aEnter, fun61, zzC, aCallV]; rw [zzD]
   refine hri.mono ?_
   rintro _ W9 ⟨e9, hh⟩; subst W9
   rcases hh with ⟨hh, _⟩ | ⟨_, rfl⟩
   ·exact absurd hh hr
   simp [opExtract, aExtract]; exact hR) ?_
  try simp only [zzA]
  refine wpK_reg (fun R hR => by simp []; exact hR) ?_
  try simp only [zzA]
  first | refine wpK_onT (by simp []) ?_ | refine wpK_outT (by simp []) ?_ | refine zzE (by simp []) ?_ | refine wpK_endT (by simp []) ?_
  try simp only [zzA]
  refine wpK_reg (fun R hR => by simp []; exact hR) ?_
  exact wpK_ret ⟨.inr rfl, rfl, [.bool false], by simp, hE12, false, rfl, ⟨fun hh => (by cases hh), fun hh => absurd hh.1 hr⟩⟩
 try simp only [zzA]
 refine wpK_x1 (P := fun (Sb : Nat) W' => W' = W2 /\ Sb < 1099511627776 /\ SetIs Sb s s.length) (fun R hR => by
  simp [l0, e22, aEnter, fun61, zzC, aCallV]; rw [zzD]
  refine hri.mono ?_
  rintro _ W9 ⟨e9, hh⟩
  rcases hh with ⟨_, Sb, h1, h2, rfl⟩ | ⟨hh, _⟩
  ·simp [opExtract, aExtract]; exact hR Sb W9 (And.intro e9 (And.intro h1 h2))
  ·exact absurd hr hh) ?_
 rintro Sb W9 ⟨e9, hSb, hSet⟩
 subst W9
 try simp only [zzA]
 refine wpK_reg (fun R hR => by simp []; exact hR) ?_
 try simp only [zzA]
 first | refine wpK_onF (by simp []) ?_ | refine wpK_out (by simp []) ?_ | refine zzF (by simp []) ?_ | refine zzB (by simp []) (wpK_skip ?_) | refine zzB (by simp []) ?_
 obtain ⟨hsn, cc, hcc⟩ := bar_facts (es := es) (by omega) hr
 have hal := all_wp hVw (by omega)
 have hfull : 2 ^ n - 1 < 65536 := by
  have : 2 ^ n <= 2 ^ 16 := Nat.pow_le_pow_right (by omega) (by omega)
  omega
 obtain ⟨s', n1, n2, n3⟩ := aBinI_andNot .u64 (2 ^ n - 1) Sb (by show 2 ^ n - 1 < 18446744073709551616; omega) (by show Sb < 18446744073709551616; omega)
 have hbits : (fun r => s'.testBit r = true) = Sof n s := funext fun r => propext (by
  rw [n3 r, full_bit, Bool.and_eq_true, decide_eq_true_iff, Bool.not_eq_true']
  constructor
  ·rintro ⟨h1, h2⟩
   refine ⟨h1, fun i hi e => ?_⟩
   have := (hSet r).2 ⟨i, hi, e⟩
   rw [h2] at this; cases this
  ·rintro ⟨h1, h2⟩
   refine ⟨h1, ?_⟩
   cases hb : Sb.testBit r with
   | false => rfl
   | true => obtain ⟨i, hi, e⟩ := (hSet r).1 hb; exact absurd e (h2 i hi))
 have hod := odd16_wp (s := s') hJ hVw (by omega) (tabs_ext hT hN0 hE12) (by have := hE12.1; omega)
 rw [hbits] at hod
 have hoi := sumF_in (Aj := AjE es) (S := Sof n s) 40
 have hBar : BarIs n es s k ↔ k = (s.length : Int) + cc := ⟨fun hh => by have := hh.2; omega, fun hh => ⟨hr, by omega⟩⟩
 generalize sumN 40 (rootF (AjE es) (Sof n s)) = od at hod hcc hoi
 generalize 2 ^ n - 1 = fl at hal n2 hfull
 try simp only [zzA]
 refine wpK_x0 (P := fun W' => Ext W2 W') (fun R hR => by
  simp [aEnter, fun63, zzC, aCallV]; rw [zzD]
  refine hal.mono ?_
  rintro _ W9 ⟨e9, rfl⟩; subst W9
  simp [n2, aEnter, fun62, zzC, aCallV]; rw [zzD]
  refine hod.mono ?_
  rintro _ W3 ⟨hE3, rfl⟩
  simp; exact hR W3 hE3) ?_
 rintro W3 hE3
 have a1 : IntKind.i64.wrap ((n : Int) + (s.length : Int)) = (n : Int) + s.length := i64_in (by omega)
 have a2 : IntKind.i64.wrap ((n : Int) + (s.length : Int) - od) = 2 * ((s.length : Int) + cc) := by rw [show (n : Int) + (s.length : Int) - od = 2 * ((s.length : Int) + cc) from by omega]; exact i64_in (by omega)
 have hdiv : aBinI .quo .i64 (2 * ((s.length : Int) + cc)) .i64 2 = some (.int .i64 ((s.length : Int) + cc)) := by
  rw [aBinI_quo .i64 _ _ (by omega), Int.mul_comm, Int.mul_tdiv_cancel _ (by omega), i64_in (by omega)]
 generalize 2 * ((s.length : Int) + cc) = dd at a2 hdiv
 generalize (s.length : Int) + cc = qq at hdiv hBar
 try simp only [zzA]
 refine wpK_reg (fun R hR => by simp [l0, hE3, ls, a1, a2, hdiv]; exact hR) ?_
 exact wpK_ret ⟨.inr rfl, rfl, [.bool (decide (k = qq))], by simp, hE12.trans hE3, decide (k = qq), rfl, by rw [decide_eq_true_iff]; exact hBar.symm⟩
def RowAt (W : AW) (x : Value) (qs : List Nat) (b : Nat) : Prop := b < W.next /\ ∃ c, (c = 3 \/ c = 2 * qs.length) /\ x = .slice (some ⟨b, 0, none⟩) qs.length c /\ ∀ i u, (natsV qs)[i]? = some u -> W.Has b i u
theorem RowAt.only {W W' : AW} {x : Value} {qs : List Nat} {b : Nat} {K : Nat -> Prop} (h : RowAt W x qs b) (ho : Only K W W') (hk : ¬ K b) : RowAt W' x qs b :=
 let ⟨h1, c, h0, h2, h3⟩ := h
 ⟨Nat.lt_of_lt_of_le h1 ho.1, c, h0, h2, fun i u hu => (h3 i u hu).only ho hk⟩
theorem HeldN.code {W : AW} {v : Value} {n : Nat} {l : List Value} {el : TypeId} {K : Nat -> Prop} (h : HeldN W v n l el 1 K) (hn : 0 < n) {b c : Nat} (e : v = .slice (some ⟨b, 0, none⟩) n c) : c = 3 \/ c = 2 * n := by
 rcases h with ⟨_, _, _, _, h1, _⟩ | ⟨_, ⟨h1, _⟩ | ⟨_, _, _, h1, _⟩⟩
 ·rw [h1] at e; cases e; exact .inr rfl
 ·omega
 ·rw [h1] at e; cases e; exact .inl rfl
theorem nodup_pOf {qs : List Nat} (h : ∀ i j, i < j -> j < qs.length -> pOf qs i ≠ pOf qs j) : qs.Nodup := by
 refine List.pairwise_iff_getElem.2 fun i j hi hj hij e => h i j hij hj ?_
 rw [pOf, pOf, List.getD_eq_getElem?_getD, List.getD_eq_getElem?_getD, List.getElem?_eq_getElem hi, List.getElem?_eq_getElem hj, e]
def PartOf (es : List Edge) (S : Nat -> Prop) (qs : List Nat) : Prop := qs.Nodup /\ ∃ r, S r /\ ∀ z, (TS qs).testBit z = true ↔ Rch (AjE es) S r z
def PartsR (W : AW) (u : Value) (es : List Edge) (S : Nat -> Prop) (qss : List (List Nat)) : Prop := ∃ us : List Value, us.length = qss.length /\ RowIn 1 encV W u us /\ ∀ (i : Nat) x qs, us[i]? = some x -> qss[i]? = some qs -> ∃ b, RowAt W x qs b /\ PartOf es S qs
open Classical in
theorem falls2_wp {W : AW} {v pv : Value} {P : Int} {es : List Edge} {ps : List Nat} {n : Nat} {S : Nat -> Prop} (h : PairR W v es) (hl : es.length < 4611686018427387904) (hP : P = (n : Int)) (hn12 : n <= 16) (hp : IntR W pv (ps.map Int.ofNat)) (hpl : ps.length < 100000)
    (hS : ∀ r, S r ↔ r < n /\ (TS ps).testBit r = false) :
    WpF T0 34 [.agg ⟨[.int .i64 P, v]⟩, pv] W (fun u W' => Ext W W' /\ ∃ qss, PartsR W' u es S qss /\ qss.length <= n) := by
  refine wpF fun34 rfl ?_
  subst hP
  have hSn : ∀ r, S r -> r < n := fun r hr => ((hS r).1 hr).1
  have hS40 : ∀ r, S r -> r < 40 := fun r hr => by have := hSn r hr; omega
  obtain ⟨W1, hW1, hE1, hn1, hV⟩ : ∃ W1, W1 = W.newCells 24 [.int .i64 (n : Int), v] /\ Ext W W1 /\ W1.next = W.next + 1 /\ Var W1 W.next 24 [.int .i64 (n : Int), v] := ⟨_, rfl, .newCells _ _ _, rfl, Var.new _ _ _⟩
  have l0 : ∀ W', Ext W1 W' -> aLoadVar T0 W' 3 W.next 0 = some (.int .i64 (n : Int)) := fun W' hE => (hV.ext hE).load1 (T := T0) und3 rfl (j := 0) (v := .int .i64 (n : Int)) rfl
  have l24 : ∀ W', Ext W1 W' -> aLoadVar T0 W' 24 W.next 0 = some (.agg ⟨[.int .i64 (n : Int), v]⟩) := fun W' hE => load24 (hV.ext hE)
  have hR1 := h.ext hE1
  have hp1 := hp.ext hE1
  have vv := row_eq h
  have vp := row_eq hp
  try simp only [zzA]
  refine wpK_reg (fun R hR => by simp [<- hW1]; exact hR) ?_
  try simp only [zzA]
  refine wpK_reg (fun R hR => by simp []; exact hR) ?_
  try simp only [zzA]
  refine wpK_reg (fun R hR => by simp []; exact hR) ?_
  try simp only [zzA]
  refine wpK_reg (fun R hR => by simp []; exact hR) ?_
  try simp only [zzA]
  refine wpK_while (I := fun k A' W' => A'.n = 70 /\ A'.defers = [] /\ A'.tmps.get 1 = some (pv) /\ A'.tmps.get 2 = some (.pointer (some ⟨W.next, 0, none⟩)) /\ Ext W1 W' /\ ∃ (a : Nat) (sv fv : Value) (sn : List Nat) (us : List Value) (qss : List (List Nat)) (Ks Kf : Nat -> Prop), A'.tmps.get 7 = some (.int .i64 (a : Int)) /\ A'.tmps.get 6 = some sv /\ A'.tmps.get 5 = some fv /\ k = n - a /\ a <= n /\ sn.length <= 16 * a /\
        GrowsN W' sv sn.length (natsV sn) 3 1 Ks /\ GrowsN W' fv us.length us 31 1 Kf /\ us.length = qss.length /\ qss.length <= a /\ (∀ (i : Nat) x qs, us[i]? = some x -> qss[i]? = some qs -> ∃ b, RowAt W' x qs b /\ W1.next <= b /\ ¬ Ks b /\ ¬ Kf b /\ PartOf es S qs) /\ (∀ b, Ks b -> W1.next <= b /\ b < W'.next) /\ (∀ b, Kf b -> W1.next <= b /\ b < W'.next /\ ¬ Ks b))
    (J := fun A' W' => A'.n = 70 /\ A'.defers = [] /\ Ext W1 W' /\ ∃ (fv : Value) (us : List Value) (qss : List (List Nat)) (Kf : Nat -> Prop), A'.tmps.get 5 = some fv /\ GrowsN W' fv us.length us 31 1 Kf /\ us.length = qss.length /\ qss.length <= n /\ (∀ (i : Nat) x qs, us[i]? = some x -> qss[i]? = some qs -> ∃ b, RowAt W' x qs b /\ PartOf es S qs)) (Rt := fun _ _ => False) (k := n) ?_ ?_ ?_ ?_
  · exact ⟨rfl, rfl, by simp, by simp, .refl _ _, 0, .slice none 0 0, .slice none 0 0, [], [], [], fun _ => False, fun _ => False, by simp, by simp, by simp, rfl, by omega, by simp, .nil _ _ _ _, .nil _ _ _ _, rfl, by simp, fun i x l hx => by simp at hx, fun b hb => hb.elim, fun b hb => hb.elim⟩
  · rintro k ⟨tm, n, ds⟩ Wa ⟨hn, hd, h1, h2, hEa, a, sv, fv, sn, us, ls, Ks, Kf, h7, h6, h5, hk, han, hsl, hgs, hgf, hul, hls, hus, hKs, hKf⟩ Q' hJ' hRt hI
    simp only at hn hd h1 h2
    subst hn; subst hd
    simp only at h7 h6 h5
    by_cases hlt : a < n
    case neg =>
      have e : a = n := by omega
      subst e
      try simp only [zzA]
      refine wpK_reg (fun R hR => by simp [h2, h7, l0, hEa]; exact hR) ?_
      try simp only [zzA]
      first | refine wpK_onF (by simp []) ?_ | refine wpK_out (by simp []) ?_ | refine zzF (by simp []) ?_ | refine zzB (by simp []) (wpK_skip ?_) | refine zzB (by simp []) ?_
      exact hJ' _ _ ⟨rfl, rfl, hEa, fv, us, ls, Kf, by simp [h5], hgf, hul, hls, fun i x qs h1 h2 => let ⟨b, g1, _, _, _, g5⟩ := hus i x qs h1 h2; ⟨b, g1, g5⟩⟩
    have hlt' : (a : Int) < n := by omega
    try simp only [zzA]
    refine wpK_reg (fun R hR => by simp [h2, h7, l0, hEa, hlt']; exact hR) ?_
    try simp only [zzA]
    first | refine wpK_onT (by simp [hlt]) ?_ | refine wpK_outT (by simp [hlt]) ?_ | refine zzE (by simp [hlt]) ?_ | refine wpK_endT (by simp [hlt]) ?_
    have hpa := hp1.ext hEa
    have hsa := natsV_row hgs
    have c1 := refHas_wp hpa a hpl
    have c2 := refHas_wp hsa a (by omega)
    refine wpK_block ?_
    cases hb1 : (TS ps).testBit a with
    | true =>
      rw [hb1] at c1
      try simp only [zzA]
      refine wpK_reg (fun R hR => by
          simp [h1, h7, aEnter, fun33, zzC, aCallV]; rw [zzD]
          refine (c1).mono ?_
          rintro _ W9 ⟨e9, rfl⟩; subst W9
          simp [undef]; exact hR) ?_
      try simp only [zzA]
      first | refine wpK_onT (by simp []) ?_ | refine wpK_outT (by simp []) ?_ | refine zzE (by simp []) ?_ | refine wpK_endT (by simp []) ?_
      simp only [leaves_exit, zzG, if_true]
      refine wpK_keep (fun tm' => tm'.get 1 = some (pv) /\ tm'.get 2 = some (.pointer (some ⟨W.next, 0, none⟩)) /\ tm'.get 5 = some (fv) /\ tm'.get 6 = some (sv) /\ tm'.get 7 = some (.int .i64 (a : Int))) (by simp [h1, h2, h5, h6, h7]) ?_
      rintro tm ⟨h1, h2, h5, h6, h7⟩
      try simp only [zzA]
      refine wpK_reg1 (fun R hR => by simp [h7]; exact hR) ?_
      exact hI (n - (a + 1)) _ _ (by omega) ⟨rfl, rfl, by simp [h1, h2], by simp [h1, h2], hEa, a + 1, sv, fv, sn, us, ls, Ks, Kf, by simp [i64_succ a (by omega)], by simp [h6], by simp [h5], rfl, by omega, by omega, hgs, hgf, hul, by omega, hus, hKs, hKf⟩
    | false =>
      rw [hb1] at c1
      have hsa' : S a := (hS a).2 ⟨hlt, hb1⟩
      cases hb2 : (TS sn).testBit a with
      | true =>
        rw [hb2] at c2
        try simp only [zzA]
        refine wpK_reg (fun R hR => by
          simp [h1, h7, aEnter, fun33, zzC, aCallV]; rw [zzD]
          refine c1.mono ?_
          rintro _ W9 ⟨e9, rfl⟩; subst W9
          simp [h6, h7, aEnter, fun33, zzC, aCallV]; rw [zzD]
          refine c2.mono ?_
          rintro _ W9 ⟨e9, rfl⟩; subst W9
          simp; exact hR) ?_
        try simp only [zzA]
        first | refine wpK_onT (by simp []) ?_ | refine wpK_outT (by simp []) ?_ | refine zzE (by simp []) ?_ | refine wpK_endT (by simp []) ?_
        simp only [leaves_exit, zzG, if_true]
        refine wpK_keep (fun tm' => tm'.get 1 = some (pv) /\ tm'.get 2 = some (.pointer (some ⟨W.next, 0, none⟩)) /\ tm'.get 5 = some (fv) /\ tm'.get 6 = some (sv) /\ tm'.get 7 = some (.int .i64 (a : Int))) (by simp [h1, h2, h5, h6, h7]) ?_
        rintro tm ⟨h1, h2, h5, h6, h7⟩
        try simp only [zzA]
        refine wpK_reg1 (fun R hR => by simp [h7]; exact hR) ?_
        exact hI (n - (a + 1)) _ _ (by omega) ⟨rfl, rfl, by simp [h1, h2], by simp [h1, h2], hEa, a + 1, sv, fv, sn, us, ls, Ks, Kf, by simp [i64_succ a (by omega)], by simp [h6], by simp [h5], rfl, by omega, by omega, hgs, hgf, hul, by omega, hus, hKs, hKf⟩
      | false =>
        rw [hb2] at c2
        try simp only [zzA]
        refine wpK_reg (fun R hR => by
          simp [h1, h7, aEnter, fun33, zzC, aCallV]; rw [zzD]
          refine c1.mono ?_
          rintro _ W9 ⟨e9, rfl⟩; subst W9
          simp [h6, h7, aEnter, fun33, zzC, aCallV]; rw [zzD]
          refine c2.mono ?_
          rintro _ W9 ⟨e9, rfl⟩; subst W9
          simp; exact hR) ?_
        try simp only [zzA]
        first | refine wpK_onF (by simp []) ?_ | refine wpK_out (by simp []) ?_ | refine zzF (by simp []) ?_ | refine zzB (by simp []) (wpK_skip ?_) | refine zzB (by simp []) ?_
        have hH0 := heldQ_new Wa a
        obtain ⟨W2, hW2, hE2⟩ : ∃ W2, W2 = Wa.newCells 3 [.int .i64 (a : Int)] /\ Ext Wa W2 := ⟨_, rfl, .newCells _ _ _⟩
        have hO2 : Only (fun b => Wa.next <= b) Wa W2 := ⟨hE2.1, fun b hb _ => hE2.2 b hb (fun x => x)⟩
        rw [<- hW2] at hH0
        try simp only [zzA]
        refine wpK_reg (fun R hR => by simp [h7, bs31, <- hW2]; exact hR) ?_
        try simp only [zzA]
        refine wpK_reg (fun R hR => by simp []; exact hR) ?_
        obtain ⟨p0, hp0⟩ : ∃ p : Value, p = .slice (some ⟨Wa.next, 0, none⟩) 1 2 := ⟨_, rfl⟩
        rw [<- hp0] at hH0
        try simp only [zzA]
        refine wpK_while (I := fun k2 A' W' => A'.n = 70 /\ A'.defers = [] /\ A'.tmps.get 1 = some (pv) /\ A'.tmps.get 2 = some (.pointer (some ⟨W.next, 0, none⟩)) /\ A'.tmps.get 5 = some (fv) /\ A'.tmps.get 6 = some (sv) /\ A'.tmps.get 7 = some (.int .i64 (a : Int)) /\ Only (fun b => Wa.next <= b) Wa W' /\ ∃ (i : Nat) (qv : Value) (qs : List Nat), A'.tmps.get 9 = some (.int .i64 (i : Int)) /\ A'.tmps.get 8 = some qv /\ k2 = n - i /\ i <= qs.length /\ HeldQ Wa W' qv qs /\ Bfs es S a qs i)
          (J := fun A' W' => A'.n = 70 /\ A'.defers = [] /\ A'.tmps.get 1 = some (pv) /\ A'.tmps.get 2 = some (.pointer (some ⟨W.next, 0, none⟩)) /\ A'.tmps.get 5 = some (fv) /\ A'.tmps.get 6 = some (sv) /\ A'.tmps.get 7 = some (.int .i64 (a : Int)) /\ Only (fun b => Wa.next <= b) Wa W' /\ ∃ (qv : Value) (qs : List Nat), A'.tmps.get 8 = some qv /\ HeldQ Wa W' qv qs /\ Bfs es S a qs qs.length) (Rt := fun _ _ => False) (k := n) ?_ ?_ ?_ ?_
        · exact ⟨rfl, rfl, by simp [h1, h2, h5, h6, h7], by simp [h1, h2, h5, h6, h7], by simp [h1, h2, h5, h6, h7], by simp [h1, h2, h5, h6, h7], by simp [h1, h2, h5, h6, h7], hO2, 0, p0, [a], by simp, by simp [hp0], rfl, by simp, hH0, .one hsa'⟩
        · rintro k2 ⟨tm, n, ds⟩ Wb ⟨hn, hd, h1, h2, h5, h6, h7, hOb, i, qv, qs, h9, h8, hk2, hiq, hHq, hBf⟩ Q2 hJ2 hRt2 hI2
          simp only at hn hd h1 h2 h5 h6 h7
          subst hn; subst hd
          simp only at h9 h8
          have hql := (hBf.pc hSn (by omega)).2
          have hq0 : 0 < qs.length := List.length_pos_of_mem hBf.start
          have hrow := hHq.row hq0
          obtain ⟨Aq, cq, hqv⟩ := hrow.len
          rw [List.length_map] at hqv
          have lq : ∀ W', aLen T0 W' 31 qv = some (.int .i64 (qs.length : Int)) := fun W' => by rw [hqv]; exact len_slice und31 _ _ _
          by_cases hli : i < qs.length
          case neg =>
            have e : i = qs.length := by omega
            subst e
            try simp only [zzA]
            refine wpK_reg (fun R hR => by simp [h8, h9, lq]; exact hR) ?_
            try simp only [zzA]
            first | refine wpK_onF (by simp []) ?_ | refine wpK_out (by simp []) ?_ | refine zzF (by simp []) ?_ | refine zzB (by simp []) (wpK_skip ?_) | refine zzB (by simp []) ?_
            exact hJ2 _ _ ⟨rfl, rfl, by simp [h1, h2, h5, h6, h7], by simp [h1, h2, h5, h6, h7], by simp [h1, h2, h5, h6, h7], by simp [h1, h2, h5, h6, h7], by simp [h1, h2, h5, h6, h7], hOb, qv, qs, by simp [h8], hHq, hBf⟩
          have hli' : (i : Int) < qs.length := by omega
          try simp only [zzA]
          refine wpK_reg (fun R hR => by simp [h8, h9, lq, hli']; exact hR) ?_
          try simp only [zzA]
          first | refine wpK_onT (by simp [hli]) ?_ | refine wpK_outT (by simp [hli]) ?_ | refine zzE (by simp [hli]) ?_ | refine wpK_endT (by simp [hli]) ?_
          refine wpK_block ?_
          try simp only [zzA]
          refine wpK_reg (fun R hR => by simp []; exact hR) ?_
          obtain ⟨y, hy⟩ : ∃ y, y = pOf qs i := ⟨_, rfl⟩
          have hym := pOf_mem hli
          rw [<- hy] at hym
          try simp only [zzA]
          refine wpK_while1 (I := fun k3 A' W' => A'.n = 70 /\ A'.defers = [] /\ A'.tmps.get 1 = some (pv) /\ A'.tmps.get 2 = some (.pointer (some ⟨W.next, 0, none⟩)) /\ A'.tmps.get 5 = some (fv) /\ A'.tmps.get 6 = some (sv) /\ A'.tmps.get 7 = some (.int .i64 (a : Int)) /\ A'.tmps.get 9 = some (.int .i64 (i : Int)) /\ Only (fun b => Wa.next <= b) Wa W' /\ ∃ (u : Nat) (qv : Value) (qs : List Nat), A'.tmps.get 10 = some (.int .i64 (u : Int)) /\ A'.tmps.get 8 = some qv /\ k3 = n - u /\ u <= n /\ HeldQ Wa W' qv qs /\ Bfs es S a qs i /\ i < qs.length /\ pOf qs i = y /\ ∀ r, r < u -> AjE es y r -> S r -> r ∈ qs)
            (J := fun A' W' => A'.n = 70 /\ A'.defers = [] /\ A'.tmps.get 1 = some (pv) /\ A'.tmps.get 2 = some (.pointer (some ⟨W.next, 0, none⟩)) /\ A'.tmps.get 5 = some (fv) /\ A'.tmps.get 6 = some (sv) /\ A'.tmps.get 7 = some (.int .i64 (a : Int)) /\ A'.tmps.get 9 = some (.int .i64 (i : Int)) /\ Only (fun b => Wa.next <= b) Wa W' /\ ∃ (qv : Value) (qs : List Nat), A'.tmps.get 8 = some qv /\ HeldQ Wa W' qv qs /\ Bfs es S a qs (i + 1) /\ i < qs.length) (Rt := fun _ _ => False) (k := n) ?_ ?_ ?_ ?_
          · exact ⟨rfl, rfl, by simp [h1, h2, h5, h6, h7, h9], by simp [h1, h2, h5, h6, h7, h9], by simp [h1, h2, h5, h6, h7, h9], by simp [h1, h2, h5, h6, h7, h9], by simp [h1, h2, h5, h6, h7, h9], by simp [h1, h2, h5, h6, h7, h9], hOb, 0, qv, qs, by simp, by simp [h8], rfl, by omega, hHq, hBf, hli, hy.symm, fun r hr => by omega⟩
          · clear hBf hHq hrow lq hqv hql hq0 hli hli' hym hy hiq
            rintro k3 ⟨tm, n, ds⟩ Wc ⟨hn, hd, h1, h2, h5, h6, h7, h9, hOc, u, qv2, qs, h10, h8, hk3, hun, hHq, hBf, hli, hy, hpart⟩ Q3 hJ3 hRt3 hI3
            simp only at hn hd h1 h2 h5 h6 h7 h9
            subst hn; subst hd
            simp only at h10 h8
            have hEc : Ext W1 Wc := ⟨by have := hEa.1; have := hOc.1; omega, fun b hb hk => by rw [hOc.2 b (by have := hEa.1; omega) (by have := hEa.1; omega)]; exact hEa.2 b hb hk⟩
            by_cases hlu : u < n
            case neg =>
              have e : u = n := by omega
              subst e
              try simp only [zzA]
              refine wpK_reg (fun R hR => by simp [h2, h10, l0, hEc]; exact hR) ?_
              try simp only [zzA]
              first | refine wpK_onF (by simp []) ?_ | refine wpK_out (by simp []) ?_ | refine zzF (by simp []) ?_ | refine zzB (by simp []) (wpK_skip ?_) | refine zzB (by simp []) ?_
              refine hJ3 _ _ ⟨rfl, rfl, by simp [h1, h2, h5, h6, h7, h9], by simp [h1, h2, h5, h6, h7, h9], by simp [h1, h2, h5, h6, h7, h9], by simp [h1, h2, h5, h6, h7, h9], by simp [h1, h2, h5, h6, h7, h9], by simp [h1, h2, h5, h6, h7, h9], hOc, qv2, qs, by simp [h8], hHq, ⟨hBf.start, hBf.rch, hBf.dis, fun b hb r h1 h2 => ?_⟩, hli⟩
              by_cases e : b = i
              · subst e; rw [hy] at h1; exact hpart r (hSn r h2) h1 h2
              · exact hBf.cls b (by omega) r h1 h2
            have hlu' : (u : Int) < n := by omega
            try simp only [zzA]
            refine wpK_reg (fun R hR => by simp [h2, h10, l0, hEc, hlu']; exact hR) ?_
            try simp only [zzA]
            first | refine wpK_onT (by simp [hlu]) ?_ | refine wpK_outT (by simp [hlu]) ?_ | refine zzE (by simp [hlu]) ?_ | refine wpK_endT (by simp [hlu]) ?_
            have hq0 : 0 < qs.length := List.length_pos_of_mem hBf.start
            have hql := (hBf.pc hSn (by omega)).2
            have hrow := hHq.row hq0
            obtain ⟨bx, px, x1, _, x3⟩ := int_at31 hrow (nat_some (ps := qs) (i := i) hli)
            rw [hy] at x3
            have x2 : ∀ W', Ext Wc W' -> aLoadVar T0 W' 3 bx px = some (.int .i64 (y : Int)) := fun W' hE => load_of und3 rfl (x3.ext hE)
            have ecc : Ext Wc Wc := .refl _ _
            have l24c : ∀ W', Ext Wc W' -> aLoadVar T0 W' 24 W.next 0 = some (.agg ⟨[.int .i64 (n : Int), v]⟩) := fun W' hE => l24 W' (hEc.trans hE)
            have hjw := refJoined_wp (n : Int) (hR1.ext hEc) hl (y : Int) (u : Int)
            have vq := row_eq hrow
            have hyq : y ∈ qs := hy ▸ pOf_mem hli
            have hstay : ∀ (A' : AAct) (W' : AW), A'.n = 70 /\ A'.defers = [] /\ A'.tmps.get 1 = some (pv) /\ A'.tmps.get 2 = some (.pointer (some ⟨W.next, 0, none⟩)) /\ A'.tmps.get 5 = some (fv) /\ A'.tmps.get 6 = some (sv) /\ A'.tmps.get 7 = some (.int .i64 (a : Int)) /\ A'.tmps.get 9 = some (.int .i64 (i : Int)) -> Ext Wc W' -> A'.tmps.get 10 = some (.int .i64 ((u + 1 : Nat) : Int)) -> A'.tmps.get 8 = some qv2 -> (AjE es y u -> S u -> u ∈ qs) -> Q3 .normal A' W' := fun A' W' hN hE h1 h2 h3 => by
              refine hI3 (n - (u + 1)) _ _ (by omega) ⟨hN.1, hN.2.1, hN.2.2.1, hN.2.2.2.1, hN.2.2.2.2.1, hN.2.2.2.2.2.1, hN.2.2.2.2.2.2.1, hN.2.2.2.2.2.2.2, hOc.trans (hE.mono (fun b _ (hf : False) => hf.elim)), u + 1, qv2, qs, h1, h2, rfl, by omega, HeldN.only hHq hE (fun _ _ _ x => x), hBf, hli, hy, fun r hr h4 h5 => ?_⟩
              by_cases e : r = u
              · subst e; exact h3 h4 h5
              · exact hpart r (by omega) h4 h5
            refine wpK_block ?_
            by_cases hj : Jn es (y : Int) (u : Int)
            case neg =>
              rw [decide_eq_false hj] at hjw
              try simp only [zzA]
              refine wpK_d0 (wr := Tr.nil |>.set 39 0 |>.set 40 1 |>.set 41 2 |>.set 42 3 |>.set 43 4 |>.set 44 5 |>.set 45 6 |>.set 46 7 |>.set 47 8 |>.set 48 9 |>.set 49 10 |>.set 50 11 |>.set 51 12 |>.set 52 13 |>.set 53 14 |>.set 54 15 |>.set 55 16 |>.set 56 17 |>.set 57 18) (bits := Tr.nil.lay 0 [0, 0, 0, 6, 14, 0, 63, 127, 255, 255, 1023, 2047, 4095, 8191, 16383, 16383, 65535, 131071, 262143]) (ord := [0, 1, 2, 3, 4, 5, 6, 7, 8, 9, 10, 11, 12, 13, 14, 15, 16, 17, 18]) (by kernel_rfl) (by kernel_rfl) (by kernel_rfl) (fun G hG => by
                simp [h1, h2, h8, h9, h10, x1, x2, ecc, l24c, vv, vp, vq, undef, aEnter, fun64, zzC, aCallV]
                rw [dcallS_none]
                refine hjw.mono ?_
                rintro _ Wd ⟨hEd, rfl⟩
                simp [hEd.1, hEd, h1, h2, h8, h9, h10, x1, x2, ecc, l24c, vv, vp, vq, undef]
                exact hG Wd hEd) ?_
              rintro Wd hEd
              try simp only [zzA]
              first | refine wpK_onF (by simp []) ?_ | refine wpK_out (by simp []) ?_ | refine zzF (by simp []) ?_ | refine zzB (by simp []) (wpK_skip ?_) | refine zzB (by simp []) ?_
              simp only [zzH, zzG]
              refine wpK_keep (fun tm' => tm'.get 1 = some (pv) /\ tm'.get 2 = some (.pointer (some ⟨W.next, 0, none⟩)) /\ tm'.get 5 = some (fv) /\ tm'.get 6 = some (sv) /\ tm'.get 7 = some (.int .i64 (a : Int)) /\ tm'.get 8 = some (qv2) /\ tm'.get 9 = some (.int .i64 (i : Int)) /\ tm'.get 10 = some (.int .i64 (u : Int))) (by simp [h1, h2, h5, h6, h7, h8, h9, h10]) ?_
              rintro tm ⟨h1, h2, h5, h6, h7, h8, h9, h10⟩
              try simp only [zzA]
              refine wpK_reg1 (fun R hR => by simp [h10]; exact hR) ?_
              exact hstay _ _ ⟨rfl, rfl, by simp [h1, h2, h5, h6, h7, h9], by simp [h1, h2, h5, h6, h7, h9], by simp [h1, h2, h5, h6, h7, h9], by simp [h1, h2, h5, h6, h7, h9], by simp [h1, h2, h5, h6, h7, h9], by simp [h1, h2, h5, h6, h7, h9]⟩ hEd (by simp [i64_succ u (by omega)]) (by simp [h8]) (fun hh => absurd hh hj)
            rw [decide_eq_true hj] at hjw
            have d1 := fun (Wd : AW) (hEd : Ext Wc Wd) => refHas_wp ((hp1.ext hEc).ext hEd) u hpl
            have d2 := fun (Wd : AW) (hEd : Ext Wc Wd) => refHas_wp (hrow.ext hEd) u (by omega)
            cases hb3 : (TS ps).testBit u with
            | true =>
              rw [hb3] at d1
              have hns : ¬ S u := fun hs => by have := ((hS u).1 hs).2; rw [hb3] at this; cases this
              try simp only [zzA]
              refine wpK_d0 (wr := Tr.nil |>.set 39 0 |>.set 40 1 |>.set 41 2 |>.set 42 3 |>.set 43 4 |>.set 44 5 |>.set 45 6 |>.set 46 7 |>.set 47 8 |>.set 48 9 |>.set 49 10 |>.set 50 11 |>.set 51 12 |>.set 52 13 |>.set 53 14 |>.set 54 15 |>.set 55 16 |>.set 56 17 |>.set 57 18) (bits := Tr.nil.lay 0 [0, 0, 0, 6, 14, 0, 63, 127, 255, 255, 1023, 2047, 4095, 8191, 16383, 16383, 65535, 131071, 262143]) (ord := [0, 1, 2, 3, 4, 5, 6, 7, 8, 9, 10, 11, 12, 13, 14, 15, 16, 17, 18]) (by kernel_rfl) (by kernel_rfl) (by kernel_rfl) (fun G hG => by
                simp [h1, h2, h8, h9, h10, x1, x2, ecc, l24c, vv, vp, vq, undef, aEnter, fun64, zzC, aCallV]
                rw [dcallS_none]
                refine hjw.mono ?_
                rintro _ Wd ⟨hEd, rfl⟩
                simp [hEd.1, hEd, h1, h2, h8, h9, h10, x1, x2, ecc, l24c, vv, vp, vq, undef, aEnter, fun33, zzC, aCallV]
                rw [dcallS_none]
                refine (d1 Wd hEd).mono ?_
                rintro _ W9 ⟨e9, rfl⟩; subst W9
                simp [hEd.1, hEd, h1, h2, h8, h9, h10, x1, x2, ecc, l24c, vv, vp, vq, undef]
                exact hG Wd hEd) ?_
              rintro Wd hEd
              try simp only [zzA]
              first | refine wpK_onF (by simp []) ?_ | refine wpK_out (by simp []) ?_ | refine zzF (by simp []) ?_ | refine zzB (by simp []) (wpK_skip ?_) | refine zzB (by simp []) ?_
              simp only [zzH, zzG]
              refine wpK_keep (fun tm' => tm'.get 1 = some (pv) /\ tm'.get 2 = some (.pointer (some ⟨W.next, 0, none⟩)) /\ tm'.get 5 = some (fv) /\ tm'.get 6 = some (sv) /\ tm'.get 7 = some (.int .i64 (a : Int)) /\ tm'.get 8 = some (qv2) /\ tm'.get 9 = some (.int .i64 (i : Int)) /\ tm'.get 10 = some (.int .i64 (u : Int))) (by simp [h1, h2, h5, h6, h7, h8, h9, h10]) ?_
              rintro tm ⟨h1, h2, h5, h6, h7, h8, h9, h10⟩
              try simp only [zzA]
              refine wpK_reg1 (fun R hR => by simp [h10]; exact hR) ?_
              exact hstay _ _ ⟨rfl, rfl, by simp [h1, h2, h5, h6, h7, h9], by simp [h1, h2, h5, h6, h7, h9], by simp [h1, h2, h5, h6, h7, h9], by simp [h1, h2, h5, h6, h7, h9], by simp [h1, h2, h5, h6, h7, h9], by simp [h1, h2, h5, h6, h7, h9]⟩ hEd (by simp [i64_succ u (by omega)]) (by simp [h8]) (fun _ hh => absurd hh hns)
            | false =>
              rw [hb3] at d1
              have hsu : S u := (hS u).2 ⟨hlu, hb3⟩
              cases hb4 : (TS qs).testBit u with
              | true =>
                rw [hb4] at d2
                have hin := TS_mem.1 hb4
                try simp only [zzA]
                refine wpK_d0 (wr := Tr.nil |>.set 39 0 |>.set 40 1 |>.set 41 2 |>.set 42 3 |>.set 43 4 |>.set 44 5 |>.set 45 6 |>.set 46 7 |>.set 47 8 |>.set 48 9 |>.set 49 10 |>.set 50 11 |>.set 51 12 |>.set 52 13 |>.set 53 14 |>.set 54 15 |>.set 55 16 |>.set 56 17 |>.set 57 18) (bits := Tr.nil.lay 0 [0, 0, 0, 6, 14, 0, 63, 127, 255, 255, 1023, 2047, 4095, 8191, 16383, 16383, 65535, 131071, 262143]) (ord := [0, 1, 2, 3, 4, 5, 6, 7, 8, 9, 10, 11, 12, 13, 14, 15, 16, 17, 18]) (by kernel_rfl) (by kernel_rfl) (by kernel_rfl) (fun G hG => by
                  simp [h1, h2, h8, h9, h10, x1, x2, ecc, l24c, vv, vp, vq, undef, aEnter, fun64, zzC, aCallV]
                  rw [dcallS_none]
                  refine hjw.mono ?_
                  rintro _ Wd ⟨hEd, rfl⟩
                  simp [hEd.1, hEd, h1, h2, h8, h9, h10, x1, x2, ecc, l24c, vv, vp, vq, undef, aEnter, fun33, zzC, aCallV]
                  rw [dcallS_none]
                  refine (d1 Wd hEd).mono ?_
                  rintro _ W9 ⟨e9, rfl⟩; subst W9
                  simp [hEd.1, hEd, h1, h2, h8, h9, h10, x1, x2, ecc, l24c, vv, vp, vq, undef, aEnter, fun33, zzC, aCallV]
                  rw [dcallS_none]
                  refine (d2 Wd hEd).mono ?_
                  rintro _ W9 ⟨e9, rfl⟩; subst W9
                  simp [hEd.1, hEd, h1, h2, h8, h9, h10, x1, x2, ecc, l24c, vv, vp, vq, undef]
                  exact hG Wd hEd) ?_
                rintro Wd hEd
                try simp only [zzA]
                first | refine wpK_onF (by simp []) ?_ | refine wpK_out (by simp []) ?_ | refine zzF (by simp []) ?_ | refine zzB (by simp []) (wpK_skip ?_) | refine zzB (by simp []) ?_
                simp only [zzH, zzG]
                refine wpK_keep (fun tm' => tm'.get 1 = some (pv) /\ tm'.get 2 = some (.pointer (some ⟨W.next, 0, none⟩)) /\ tm'.get 5 = some (fv) /\ tm'.get 6 = some (sv) /\ tm'.get 7 = some (.int .i64 (a : Int)) /\ tm'.get 8 = some (qv2) /\ tm'.get 9 = some (.int .i64 (i : Int)) /\ tm'.get 10 = some (.int .i64 (u : Int))) (by simp [h1, h2, h5, h6, h7, h8, h9, h10]) ?_
                rintro tm ⟨h1, h2, h5, h6, h7, h8, h9, h10⟩
                try simp only [zzA]
                refine wpK_reg1 (fun R hR => by simp [h10]; exact hR) ?_
                exact hstay _ _ ⟨rfl, rfl, by simp [h1, h2, h5, h6, h7, h9], by simp [h1, h2, h5, h6, h7, h9], by simp [h1, h2, h5, h6, h7, h9], by simp [h1, h2, h5, h6, h7, h9], by simp [h1, h2, h5, h6, h7, h9], by simp [h1, h2, h5, h6, h7, h9]⟩ hEd (by simp [i64_succ u (by omega)]) (by simp [h8]) (fun _ _ => hin)
              | false =>
                rw [hb4] at d2
                have hnin : u ∉ qs := fun hm => by have := TS_mem.2 hm; rw [hb4] at this; cases this
                try simp only [zzA]
                refine wpK_d0 (wr := Tr.nil |>.set 39 0 |>.set 40 1 |>.set 41 2 |>.set 42 3 |>.set 43 4 |>.set 44 5 |>.set 45 6 |>.set 46 7 |>.set 47 8 |>.set 48 9 |>.set 49 10 |>.set 50 11 |>.set 51 12 |>.set 52 13 |>.set 53 14 |>.set 54 15 |>.set 55 16 |>.set 56 17 |>.set 57 18) (bits := Tr.nil.lay 0 [0, 0, 0, 6, 14, 0, 63, 127, 255, 255, 1023, 2047, 4095, 8191, 16383, 16383, 65535, 131071, 262143]) (ord := [0, 1, 2, 3, 4, 5, 6, 7, 8, 9, 10, 11, 12, 13, 14, 15, 16, 17, 18]) (by kernel_rfl) (by kernel_rfl) (by kernel_rfl) (fun G hG => by
                  simp [h1, h2, h8, h9, h10, x1, x2, ecc, l24c, vv, vp, vq, undef, aEnter, fun64, zzC, aCallV]
                  rw [dcallS_none]
                  refine hjw.mono ?_
                  rintro _ Wd ⟨hEd, rfl⟩
                  simp [hEd.1, hEd, h1, h2, h8, h9, h10, x1, x2, ecc, l24c, vv, vp, vq, undef, aEnter, fun33, zzC, aCallV]
                  rw [dcallS_none]
                  refine (d1 Wd hEd).mono ?_
                  rintro _ W9 ⟨e9, rfl⟩; subst W9
                  simp [hEd.1, hEd, h1, h2, h8, h9, h10, x1, x2, ecc, l24c, vv, vp, vq, undef, aEnter, fun33, zzC, aCallV]
                  rw [dcallS_none]
                  refine (d2 Wd hEd).mono ?_
                  rintro _ W9 ⟨e9, rfl⟩; subst W9
                  simp [hEd.1, hEd, h1, h2, h8, h9, h10, x1, x2, ecc, l24c, vv, vp, vq, undef]
                  exact hG Wd hEd) ?_
                rintro Wd hEd
                try simp only [zzA]
                first | refine wpK_onT (by simp []) ?_ | refine wpK_outT (by simp []) ?_ | refine zzE (by simp []) ?_ | refine wpK_endT (by simp []) ?_
                have hHd : HeldQ Wa Wd qv2 qs := HeldN.only hHq hEd (fun _ _ _ x => x)
                obtain ⟨qv', We, m1, m2, m3⟩ := hHd.push (by have := hOc.1; have := hEd.1; omega) (by omega) u
                refine wpK_keep (fun tm' => tm'.get 1 = some (pv) /\ tm'.get 2 = some (.pointer (some ⟨W.next, 0, none⟩)) /\ tm'.get 5 = some (fv) /\ tm'.get 6 = some (sv) /\ tm'.get 7 = some (.int .i64 (a : Int)) /\ tm'.get 8 = some (qv2) /\ tm'.get 9 = some (.int .i64 (i : Int)) /\ tm'.get 10 = some (.int .i64 (u : Int))) (by simp [h1, h2, h5, h6, h7, h8, h9, h10]) ?_
                rintro tm ⟨h1, h2, h5, h6, h7, h8, h9, h10⟩
                try simp only [zzA]
                refine wpK_reg1 (fun R hR => by simp [h8, h10, bs31, m1]; exact hR) ?_
                simp only [zzH, zzG]
                refine wpK_keep (fun tm' => tm'.get 1 = some (pv) /\ tm'.get 2 = some (.pointer (some ⟨W.next, 0, none⟩)) /\ tm'.get 5 = some (fv) /\ tm'.get 6 = some (sv) /\ tm'.get 7 = some (.int .i64 (a : Int)) /\ tm'.get 8 = some (qv') /\ tm'.get 9 = some (.int .i64 (i : Int)) /\ tm'.get 10 = some (.int .i64 (u : Int))) (by simp [h1, h2, h5, h6, h7, h9, h10]) ?_
                rintro tm ⟨h1, h2, h5, h6, h7, h8, h9, h10⟩
                try simp only [zzA]
                refine wpK_reg1 (fun R hR => by simp [h10]; exact hR) ?_
                refine hI3 (n - (u + 1)) _ _ (by omega) ⟨rfl, rfl, by simp [h1, h2, h5, h6, h7, h9], by simp [h1, h2, h5, h6, h7, h9], by simp [h1, h2, h5, h6, h7, h9], by simp [h1, h2, h5, h6, h7, h9], by simp [h1, h2, h5, h6, h7, h9], by simp [h1, h2, h5, h6, h7, h9], (hOc.trans (hEd.mono (fun b _ (hf : False) => hf.elim))).trans m3, u + 1, qv', qs ++ [u], by simp [i64_succ u (by omega)], by simp [h8], rfl, by omega, m2, hBf.push (by omega) hnin ((hBf.rch y hyq).step hj hsu), by simp; omega, by rw [pOf_app hli]; exact hy, fun r hr h4 h5 => ?_⟩
                by_cases e : r = u
                · subst e; simp
                · exact List.mem_append_left _ (hpart r (by omega) h4 h5)
          · rintro A' W' hf; exact hf.elim
          · clear hBf hHq hrow lq hqv hql hq0 hli hli' hym hy hiq
            rintro ⟨tm, n, ds⟩ Wc ⟨hn, hd, h1, h2, h5, h6, h7, h9, hOc, qv2, qs, h8, hHq, hBf, hli⟩
            simp only at hn hd h1 h2 h5 h6 h7 h9
            subst hn; subst hd
            simp only at h8
            have hql := (hBf.pc hSn (by omega)).2
            simp only [zzH, zzG]
            try simp only [zzA]
            refine wpK_reg1 (fun R hR => by simp [h9]; exact hR) ?_
            exact hI2 (n - (i + 1)) _ _ (by omega) ⟨rfl, rfl, by simp [h1, h2, h5, h6, h7], by simp [h1, h2, h5, h6, h7], by simp [h1, h2, h5, h6, h7], by simp [h1, h2, h5, h6, h7], by simp [h1, h2, h5, h6, h7], hOc, i + 1, qv2, qs, by simp [i64_succ i (by omega)], by simp [h8], rfl, by omega, hHq, hBf⟩
        · rintro A' W' hf; exact hf.elim
        · rintro ⟨tm, n, ds⟩ Wb ⟨hn, hd, h1, h2, h5, h6, h7, hOb, qv, qs, h8, hHq, hBf⟩
          simp only at hn hd h1 h2 h5 h6 h7
          subst hn; subst hd
          simp only at h8
          have hql := (hBf.pc hSn (by omega)).2
          have hq0 : 0 < qs.length := List.length_pos_of_mem hBf.start
          have hnb := hOb.1
          have hrow := hHq.row hq0
          obtain ⟨Aq, cq, hqv⟩ := hrow.len
          rw [List.length_map] at hqv
          have hgs2 := hgs.only hOb (fun b hb hk hg => by have := (hKs b hk).2; omega)
          have hgf2 := hgf.only hOb (fun b hb hk hg => by have := (hKf b hk).2.1; omega)
          obtain ⟨sv', Wc, k1, k2, k3, k4, k5⟩ := hgs2.appRow (T := T0) (t := 31) encI_len encI_one (by omega) und31 inf3 is3 z3 rfl hrow (by rw [List.length_map, by3]; omega) (by rw [List.length_map]; omega)
          rw [List.length_map, <- natsV_flat] at k4
          have e1 : natsV sn ++ natsV qs = natsV (sn ++ qs) := by simp [natsV]
          have e2 : sn.length + qs.length = (sn ++ qs).length := by simp
          rw [e1, e2] at k4
          have hgf3 := hgf2.only k5 (fun b hb hk hg => (hKf b hk).2.2 hg)
          try simp only [zzA]
          refine wpK_reg (fun R hR => by simp [h6, h8, k1]; exact hR) ?_
          obtain ⟨fv', Wd, m1, m2, m3, m4⟩ := grow_push2 (W := Wc) (t := 58) (el := 31) und58 inf31 is31 z31 rfl (by rw [by31]; omega) hgf3 (by omega) qv (by rw [hqv]; rfl)
          have bs := bs58 Wc Aq qs.length cq
          rw [<- hqv] at bs
          try simp only [zzA]
          refine wpK_reg1 (fun R hR => by simp [h5, h8, bs, m1]; exact hR) ?_
          simp only [zzH, zzG]
          have k6 := k4.only (K' := Kf) m4 (fun b hb hk hg => by
            rcases hk with hk | hk
            · exact (hKf b hg).2.2 hk
            · have := (hKf b hg).2.1; omega)
          refine wpK_keep (fun tm' => tm'.get 1 = some (pv) /\ tm'.get 2 = some (.pointer (some ⟨W.next, 0, none⟩)) /\ tm'.get 5 = some (fv') /\ tm'.get 6 = some (sv') /\ tm'.get 7 = some (.int .i64 (a : Int))) (by simp [h1, h2, h5, h6, h7]) ?_
          rintro tm ⟨h1, h2, h5, h6, h7⟩
          try simp only [zzA]
          refine wpK_reg1 (fun R hR => by simp [h7]; exact hR) ?_
          have hnd : (us ++ [qv]).length = us.length + 1 := by simp
          obtain ⟨bq, cq2, q1, q2, q3, q4⟩ := HeldN.has hHq hq0
          have hna := hEa.1
          have hpt : PartOf es S qs := ⟨nodup_pOf hBf.dis, a, hsa', hBf.all⟩
          have hrq : RowAt Wd qv qs bq := by
            have h0 : RowAt Wb qv qs bq := ⟨q3, cq2, HeldN.code hHq hq0 q1, q1, q4⟩
            exact (h0.only k5 (fun hh => by have := hKs _ hh; omega)).only m4 (fun hh => by have := hKf _ hh; omega)
          refine hI (n - (a + 1)) _ _ (by omega) ⟨rfl, rfl, by simp [h1, h2], by simp [h1, h2], ?_, a + 1, sv', fv', sn ++ qs, us ++ [qv], ls ++ [qs], fun b => Ks b \/ b = Wb.next, fun b => Kf b \/ b = Wc.next + 1, by simp [i64_succ a (by omega)], by simp [h6], by simp [h5], rfl, by omega, by simp; omega, k6, by rw [hnd]; exact m3, by simp [hul], by simp; omega, fun q x l hx hl2 => ?_, fun b hb => ?_, fun b hb => ?_⟩
          · exact ⟨by omega, fun b hb hk => by
              rw [m4.2 b (by omega) (fun hg => by have := (hKf b hg).1; omega), k5.2 b (by omega) (fun hg => by have := (hKs b hg).1; omega), hOb.2 b (by omega) (by omega)]
              exact hEa.2 b hb hk⟩
          · by_cases e : q < us.length
            · rw [List.getElem?_append_left e] at hx
              rw [List.getElem?_append_left (by omega)] at hl2
              obtain ⟨b, g1, g2, g3, g4, g5⟩ := hus q x l hx hl2
              have gb := g1.1
              refine ⟨b, ((g1.only hOb (by omega)).only k5 g3).only m4 g4, g2, ?_, ?_, g5⟩
              · rintro (hh | hh)
                · exact g3 hh
                · omega
              · rintro (hh | hh)
                · exact g4 hh
                · omega
            · rw [List.getElem?_append_right (by omega)] at hx
              rw [List.getElem?_append_right (by omega)] at hl2
              have hq1 := (List.getElem?_eq_some_iff.1 hx).1
              simp at hq1
              rw [show q - us.length = 0 from by omega] at hx
              rw [show q - ls.length = 0 from by omega] at hl2
              cases hx; cases hl2
              refine ⟨bq, hrq, by omega, ?_, ?_, hpt⟩
              · rintro (hh | hh)
                · have := hKs _ hh; omega
                · omega
              · rintro (hh | hh)
                · have := hKf _ hh; omega
                · omega
          · have hn := hEa.1
            rcases hb with hb | hb
            · have := hKs b hb; omega
            · omega
          · have hn := hEa.1
            rcases hb with hb | hb
            · have := hKf b hb
              refine ⟨this.1, by omega, ?_⟩
              rintro (hh | hh)
              · exact this.2.2 hh
              · omega
            · refine ⟨by omega, by omega, ?_⟩
              rintro (hh | hh)
              · have := hKs b hh; omega
              · omega
  · rintro A' W' hf; exact hf.elim
  · rintro ⟨tm, m, ds⟩ Wz ⟨e1, e2, hEz, fv, us, ls, Kf, h5, hgf, hul, hls, hus⟩
    simp only at e1 e2 h5
    subst e1; subst e2
    try simp only [zzA]
    refine wpK_reg (fun R hR => by simp [h5]; exact hR) ?_
    exact wpK_ret ⟨.inr rfl, rfl, [fv], by simp, hE1.trans hEz, ls, ⟨us, hul, vals_row hgf, hus⟩, hls⟩
end Go.Proofs.YtdpnplanohgecaaDoor
open Go Go.Eng
namespace Go.Proofs.YtdpnplanohgecaaDoor
open Classical
variable {n : Nat} {J : Nat -> Nat -> Prop} {s s2 : PS} {D A D2 A2 : Nat -> Prop} {cl cl2 : Nat -> Nat}
theorem great_D (hn : n <= 40) (hJi : ∀ x, ¬ J x x) (hsy : ∀ x y, J x y -> J y x) (h : Great n J s D A cl n) (h2 : Great n J s2 D2 A2 cl2 n) {a : Nat} (ha : D a) : D2 a := by
 obtain ⟨m2, q1, q2, q3, _⟩ := class_whole h.mat hJi hn h.dn h.lone h.all ha
 have q3 : freeN n m2 <= freeN n s.mt := q3
 have hle := great_least hn hJi hsy h h2.mat
 exact only_D h2.mat hJi hn h2.dn h2.all q1 (by show freeN n m2 <= freeN n s2.mt; omega) a (h.dn.dlt ha) q2
theorem great_A (hn : n <= 40) (hJi : ∀ x, ¬ J x x) (hsy : ∀ x y, J x y -> J y x) (h : Great n J s D A cl n) (h2 : Great n J s2 D2 A2 cl2 n) {a : Nat} (ha : A a) : A2 a := by
 obtain ⟨q, q1, q2⟩ := h.dn.adjA ha
 rcases h2.dn.clo (great_D hn hJi hsy h h2 q1) q2 (h.dn.alt ha) with g | g
 ·exact absurd ha (h.dn.dis (great_D hn hJi hsy h2 h g.1))
 ·exact g
theorem class_rch (hsy : ∀ x y, J x y -> J y x) {mt : Nat -> Int} (h : Dn n J mt D A cl) {r z : Nat} (hr : D r) : Rch J D r z ↔ D z /\ cl z = cl r := by
 have base : ∀ {z}, D z -> cl z = cl r -> Rch J D (cl r) z := fun {z} hz e => by
  refine h.con hz (Rch J D (cl r)) (by rw [e]; exact .start (h.clD hr)) (fun y w hy hw _ _ hj hyr => hyr.step hj hw)
 constructor
 ·intro hz
  refine hz.closed (C := fun z => D z /\ cl z = cl r) ⟨hr, rfl⟩ (fun q w hq hj hw => ⟨hw, ?_⟩)
  rcases h.clo hq.1 hj (h.dlt hw) with g | g
  ·rw [g.2, hq.2]
  ·exact absurd g (h.dis hw)
 ·rintro ⟨hz, e⟩
  exact ((base hr rfl).symm hsy).trans (base hz e)
theorem part_whole (hn : n <= 40) (hJi : ∀ x, ¬ J x x) (hsy : ∀ x y, J x y -> J y x) (h : Great n J s D A cl n) {qs : List Nat} (hnd : qs.Nodup) {r : Nat} (hr : D r) (hq : ∀ z, z ∈ qs ↔ Rch J D r z) {k : Nat} (hk : k < qs.length) :
  (qs.take k ++ qs.drop (k + 1)).Nodup /\ ∃ m2, Mt n J m2 /\ ∀ y, y ∈ qs.take k ++ qs.drop (k + 1) -> y < n /\ ∃ z, z ∈ qs.take k ++ qs.drop (k + 1) /\ m2 y = (z : Int) := by
 obtain ⟨x, hx⟩ : ∃ x, x = qs[k] := ⟨_, rfl⟩
 have hsplit : qs = qs.take k ++ x :: qs.drop (k + 1) := by
  rw [hx, <- List.drop_eq_getElem_cons hk, List.take_append_drop]
 have hxq : x ∈ qs := by rw [hx]; exact List.getElem_mem hk
 have hnd2 := hnd
 rw [hsplit] at hnd2
 have hp := List.nodup_append.1 hnd2
 have hc := List.nodup_cons.1 hp.2.1
 have hmem : ∀ z, z ∈ qs.take k ++ qs.drop (k + 1) ↔ z ∈ qs /\ z ≠ x := fun z => by
  constructor
  ·intro hz
   rcases List.mem_append.1 hz with g | g
   ·exact ⟨List.mem_of_mem_take g, hp.2.2 z g x List.mem_cons_self⟩
   ·exact ⟨List.mem_of_mem_drop g, fun e => hc.1 (e ▸ g)⟩
  ·rintro ⟨hz, hne⟩
   rw [hsplit] at hz
   rcases List.mem_append.1 hz with g | g
   ·exact List.mem_append.2 (.inl g)
   ·exact List.mem_append.2 (.inr ((List.mem_cons.1 g).resolve_left hne))
 have hcls : ∀ z, z ∈ qs ↔ D z /\ cl z = cl r := fun z => by rw [hq z, class_rch hsy h.dn hr]
 have hxc := (hcls x).1 hxq
 obtain ⟨m2, q1, q2, _, q4⟩ := class_whole h.mat hJi hn h.dn h.lone h.all hxc.1
 refine ⟨List.nodup_append.2 ⟨hp.1, hc.2, fun a ha b hb => hp.2.2 a ha b (List.mem_cons_of_mem _ hb)⟩, m2, q1, fun y hy => ?_⟩
 obtain ⟨y1, y2⟩ := (hmem y).1 hy
 have yc := (hcls y).1 y1
 obtain ⟨z, e, z1, z2, z3⟩ := q4 y yc.1 (by rw [yc.2, hxc.2]) y2
 exact ⟨h.dn.dlt yc.1, z, (hmem z).2 ⟨(hcls z).2 ⟨z1, by rw [z2, hxc.2]⟩, z3⟩, e⟩
theorem whole_most {es xs : List Edge} {ls : List Nat} {m2 : Nat -> Int} {mo : Nat} (hm2 : Mt n (AjE es) m2) (hJi : ∀ x, ¬ AjE es x x) (hnd : ls.Nodup) (hL : ls.length <= 40) (hin : ∀ y, y ∈ ls -> y < n /\ ∃ z, z ∈ ls /\ m2 y = (z : Int))
  (hx : ∀ p q : Nat, p < ls.length -> q < ls.length -> (AjE xs p q ↔ p ≠ q /\ AjE es (pOf ls p) (pOf ls q))) (hmo : MostP ls.length (AjE xs) (fun _ => true) mo) : 2 * mo = ls.length := by
 have pin : ∀ {p q : Nat}, p < ls.length -> q < ls.length -> pOf ls p = pOf ls q -> p = q := fun {p q} hp hq e => by
  rw [pOf, pOf, List.getD_eq_getElem?_getD, List.getD_eq_getElem?_getD, List.getElem?_eq_getElem hp, List.getElem?_eq_getElem hq] at e
  have hpw := List.pairwise_iff_getElem.1 hnd
  rcases Nat.lt_trichotomy p q with c | c | c
  ·exact absurd e (hpw p q hp hq c)
  ·exact c
  ·exact absurd e.symm (hpw q p hq hp c)
 have hex : ∀ p, p < ls.length -> ∃ q, q < ls.length /\ m2 (pOf ls p) = (pOf ls q : Int) := fun p hp => by
  obtain ⟨_, z, z1, z2⟩ := hin _ (pOf_mem hp)
  obtain ⟨q, hq, e⟩ := List.getElem_of_mem z1
  refine ⟨q, hq, ?_⟩
  have : pOf ls q = z := by rw [pOf, List.getD_eq_getElem?_getD, List.getElem?_eq_getElem hq]; exact e
  rw [this, z2]
 let mt : Nat -> Int := fun p => if h : p < ls.length then ((Classical.choose (hex p h) : Nat) : Int) else -1
 have hmt : ∀ p, p < ls.length -> ∃ q : Nat, q < ls.length /\ mt p = (q : Int) /\ m2 (pOf ls p) = (pOf ls q : Int) := fun p hp => by
  have := Classical.choose_spec (hex p hp)
  refine ⟨_, this.1, ?_, this.2⟩
  simp only [mt, dif_pos hp]
 have hM : Mt ls.length (AjE xs) mt := by
  refine ⟨fun {p} hp => ?_, fun {p q} hp e => ?_, fun {p q} hp e => ?_⟩
  ·obtain ⟨q, q1, q2, _⟩ := hmt p hp
   exact .inr ⟨q, q1, q2⟩
  ·obtain ⟨q', q1, q2, q3⟩ := hmt p hp
   have : q' = q := by omega
   subst this
   obtain ⟨p', p1, p2, p3⟩ := hmt q' q1
   have e2 := hm2.sym (hin _ (pOf_mem hp)).1 q3
   have e3 : pOf ls p' = pOf ls p := by rw [e2] at p3; omega
   rw [p2, pin p1 hp e3]
  ·obtain ⟨q', q1, q2, q3⟩ := hmt p hp
   have : q' = q := by omega
   subst this
   have hj := hm2.adj (hin _ (pOf_mem hp)).1 q3
   exact (hx p q' hp q1).2 ⟨fun e => by subst e; exact hJi _ hj, hj⟩
 have hf : freeN ls.length mt = 0 := by
  unfold freeN
  rw [List.length_eq_zero_iff, List.eq_nil_iff_forall_not_mem]
  intro p hp
  obtain ⟨_, p1, p2⟩ := listOf_mem.1 hp
  obtain ⟨q, _, q2, _⟩ := hmt p p1
  omega
 have h1 := hmo.2 mt hM (fun x _ g => by cases g)
 have h2 := hmo.le
 omega
def EdTo (es xs : List Edge) (ls : List Nat) (i k : Nat) : Prop := ∀ p q : Nat, AjE xs p q ↔ p ≠ q /\ (max p q < i \/ (max p q = i /\ min p q < k)) /\ AjE es (pOf ls p) (pOf ls q)
variable {es xs : List Edge} {ls : List Nat} {i k : Nat}
theorem aj_app {a b p q : Nat} : AjE (xs ++ [((a : Int), (b : Int))]) p q ↔ AjE xs p q \/ (p = a /\ q = b) \/ (p = b /\ q = a) := by
 constructor
 ·rintro ⟨i, hi⟩
  by_cases e : i < xs.length
  ·rw [List.getElem?_append_left e] at hi
   exact .inl ⟨i, hi⟩
  ·rw [List.getElem?_append_right (by omega)] at hi
   have h0 : i - xs.length = 0 := by
    rcases hi with hi | hi
    ·have := (List.getElem?_eq_some_iff.1 hi).1; simp at this; omega
    ·have := (List.getElem?_eq_some_iff.1 hi).1; simp at this; omega
   rw [h0] at hi
   right
   simp only [List.getElem?_cons_zero, Option.some.injEq, Prod.mk.injEq] at hi
   omega
 ·rintro (⟨i, hi⟩ | g)
  ·have hlt : i < xs.length := by
    rcases hi with hi | hi <;> exact (List.getElem?_eq_some_iff.1 hi).1
   exact ⟨i, by rw [List.getElem?_append_left hlt]; exact hi⟩
  ·refine ⟨xs.length, ?_⟩
   rw [List.getElem?_append_right (Nat.le_refl _), Nat.sub_self]
   simp only [List.getElem?_cons_zero, Option.some.injEq, Prod.mk.injEq]
   omega
theorem EdTo.start : EdTo es [] ls 0 0 := fun p q => by
 constructor
 ·rintro ⟨i, hi⟩; simp at hi
 ·rintro ⟨_, h, _⟩; omega
theorem EdTo.not (h : EdTo es xs ls i k) : ¬ AjE xs k i := fun hj => by
 have := (h k i).1 hj; omega
theorem EdTo.skip (h : EdTo es xs ls i k) (hki : k < i) (hj : ¬ AjE es (pOf ls i) (pOf ls k)) : EdTo es xs ls i (k + 1) := fun p q => by
 rw [h p q]
 constructor
 ·rintro ⟨h1, h2, h3⟩; exact ⟨h1, by omega, h3⟩
 ·rintro ⟨h1, h2, h3⟩
  refine ⟨h1, ?_, h3⟩
  by_cases e : max p q = i /\ min p q = k
  ·exfalso
   have : (p = i /\ q = k) \/ (p = k /\ q = i) := by omega
   rcases this with ⟨e1, e2⟩ | ⟨e1, e2⟩
   ·rw [e1, e2] at h3; exact hj h3
   ·rw [e1, e2] at h3; exact hj (AjE.symm _ _ h3)
  ·omega
theorem EdTo.push (h : EdTo es xs ls i k) (hki : k < i) (hj : AjE es (pOf ls i) (pOf ls k)) : EdTo es (xs ++ [((k : Int), (i : Int))]) ls i (k + 1) := fun p q => by
 rw [aj_app, h p q]
 constructor
 ·rintro (⟨h1, h2, h3⟩ | ⟨e1, e2⟩ | ⟨e1, e2⟩)
  ·exact ⟨h1, by omega, h3⟩
  ·rw [e1, e2]; exact ⟨by omega, by omega, AjE.symm _ _ hj⟩
  ·rw [e1, e2]; exact ⟨by omega, by omega, hj⟩
 ·rintro ⟨h1, h2, h3⟩
  by_cases e : max p q = i /\ min p q = k
  ·right; omega
  ·exact .inl ⟨h1, by omega, h3⟩
theorem EdTo.up (h : EdTo es xs ls i i) : EdTo es xs ls (i + 1) 0 := fun p q => by
 rw [h p q]
 constructor
 ·rintro ⟨h1, h2, h3⟩; exact ⟨h1, by omega, h3⟩
 ·rintro ⟨h1, h2, h3⟩; exact ⟨h1, by omega, h3⟩
theorem parts_cnt {F N R : Nat} : ∀ {a : Nat}, (∀ x, x < a -> (F.testBit x = true /\ N.testBit x = false /\ R.testBit x = false) \/ (F.testBit x = false /\ N.testBit x = true /\ R.testBit x = false) \/ (F.testBit x = false /\ N.testBit x = false /\ R.testBit x = true)) -> (membs a F).length + (membs a N).length + (membs a R).length = a
 | 0, _ => rfl
 | a + 1, h => by
  have ih := parts_cnt (a := a) (fun x hx => h x (by omega))
  rw [membs_succ, membs_succ, membs_succ]
  rcases h a (by omega) with ⟨h1, h2, h3⟩ | ⟨h1, h2, h3⟩ | ⟨h1, h2, h3⟩ <;> simp only [h1, h2, h3, if_true, Bool.false_eq_true, if_false, List.length_append, List.length_cons, List.length_nil] <;> omega
end Go.Proofs.YtdpnplanohgecaaDoor

open Go Go.Eng
namespace Go.Proofs.YtdpnplanohgecaaDoor
attribute [local congr] undef_congr WpK.congr WpS.congr WpL.congr WpC.congr WpF.congr gotS.congr callS.congr nextS.congr wantS.congr condS.congr
attribute [local irreducible] WpK
attribute [local simp] WpDr_nil WpDr_cons atS_some dwantS_true dwantS_false kindS_light kindS_float kindS_heavy lightS_value floatS_some heavyS_value heavyS_skip heavyS_enter dcallS_some doneS_eq
 isLight isFloat isPlain dLook testBit_dec dChain dLights_nil dLights_skip dLights_one dLight_nil dLight_cons dFreshes_nil dFreshes_one oneF_none oneF_some dFresh_nil dFresh_cons oneL_some oneW_true oneW_false sameV_value dPut dMay valEq arrEq listEq List.getElem?_cons Tr.get_nil dEnd
attribute [local simp] WpS_nil WpS_cons isDefer undef_false wantS_true wantS_false nextS_value nextS_skip nextS_enter callS_some gotS_some aWanted aOp aEvalF aEval opMove opAssign opPick aVal flat flat1 AAct.put opBinOp opConvert opIndex Tr.get_set Tr.get_lay aBin aResults tupled
 aCall aVals aCallB blt_dec ble_dec beq_dec aBinI_add aBinI_sub aBinI_lss aBinI_leq aBinI_gtr aBinI_geq aBinI_eql aBinI_neq index_str len_str len_slice Nat.beq_refl Nat.beq_refl
 opBox opLoad opFieldAddr opIndexAddr acells aAddr opExtract aExtract opUnOp opAlloc opStore opMakeInterface opNilCheck opBuild aParts opBuildSlice aValW
attribute [local simp] und2 und3 und4 und5 und9 und12 field13_0 field13_1 und21 und22 field23_0 field23_1 field24_0 field24_1 field25_0 field25_1 und28 und31 field34_0 field34_1 field34_2 field35_0 field35_1 field35_2 und46 field50_0 field50_1 field50_2 und55 und56 und58 und61 und62 und73 und75 und90 und94 und95 und96 field97_0 field97_1 field97_2 field97_3 field97_4 field97_5 field97_6 field98_0 field98_1 field98_2 field98_3 field98_4 field98_5 field98_6 und99 und106 field107_0 field107_1 field108_0 field108_1 und119 und122 field124_0 field124_1 field124_2 field125_0 field125_1 field125_2 field131_0 field131_1 field132_0 field132_1 und133 field134_0 field134_1 field135_0 field135_1 und148 und156 und160
set_option maxHeartbeats 4000000
set_option linter.unusedSimpArgs false
set_option linter.unusedVariables false
theorem build25_0 (P : Int) : aBuild T0 25 [(0, .int .i64 P)] = some (.agg ⟨[.int .i64 P, .slice none 0 0]⟩) := by kernel_rfl
open Classical in
theorem whole_wp {W : AW} {v lv : Value} {n : Nat} {es : List Edge} {ls : List Nat} {m2 : Nat -> Int} (h : PairR W v es) (hl : es.length < 4611686018427387904) (hg : GraphOk (n : Int) es) (hp : IntR W lv (ls.map Int.ofNat)) (hL : ls.length <= 16) (hT : tabsIn T0 T0.tabs W = true) (hN0 : 0 < W.next)
  (hnd : ls.Nodup) (hm2 : Mt n (AjE es) m2) (hin : ∀ y, y ∈ ls -> y < n /\ ∃ z, z ∈ ls /\ m2 y = (z : Int)) :
  WpF T0 53 [.agg ⟨[.int .i64 (n : Int), v]⟩, lv] W (fun u W' => Ext W W' /\ u = .bool true) := by
 have hJi := aj_irr hg
 refine wpF fun53 rfl ?_
 obtain ⟨W1, hW1, hE1, hn1, hV1⟩ : ∃ W1, W1 = W.newCells 24 [.int .i64 (n : Int), v] /\ Ext W W1 /\ W1.next = W.next + 1 /\ Var W1 W.next 24 [.int .i64 (n : Int), v] := ⟨_, rfl, .newCells _ _ _, rfl, Var.new _ _ _⟩
 obtain ⟨L, hLe⟩ : ∃ L, L = ls.length := ⟨_, rfl⟩
 obtain ⟨A, c, hlv⟩ := hp.len
 rw [List.length_map, <- hLe] at hlv
 have ll : ∀ W', aLen T0 W' 31 lv = some (.int .i64 (L : Int)) := fun W' => by rw [hlv]; exact len_slice und31 _ _ _
 clear hlv
 obtain ⟨g, hg0⟩ : ∃ g, g = W.next := ⟨_, rfl⟩
 rw [<- hg0] at hV1
 try simp only [zzA]
 refine wpK_reg (fun R hR => by simp [<- hW1, <- hg0]; exact hR) ?_
 by_cases hL0 : L = 0
 ·have hL0' : (L : Int) = 0 := by omega
  try simp only [zzA]
  refine wpK_reg (fun R hR => by simp [ll, hL0']; exact hR) ?_
  try simp only [zzA]
  first | refine wpK_onT (by simp []) ?_ | refine wpK_outT (by simp []) ?_ | refine zzE (by simp []) ?_ | refine wpK_endT (by simp []) ?_
  try simp only [zzA]
  refine wpK_reg (fun R hR => by simp []; exact hR) ?_
  exact wpK_ret ⟨.inr rfl, rfl, [.bool true], by simp, hE1, rfl⟩
 have hL0' : ¬ (L : Int) = 0 := by omega
 obtain ⟨W2, b1, b2, b3, b4⟩ := storeVar_new (T := T0) (W := W1) (t := 25) (v := .agg ⟨[.int .i64 (L : Int), .slice none 0 0]⟩) (z := [.int .i64 0, .slice none 0 0]) inf25 (by rw [is25]; rfl) (by rw [is25]; rfl) rfl
 obtain ⟨p5, hp5⟩ : ∃ p, W1.next = p := ⟨_, rfl⟩
 rw [hp5] at b1 b4
 have b4 : Var W2 p5 25 [.int .i64 (L : Int), .slice none 0 0] := by simpa using b4
 try simp only [zzA]
 refine wpK_reg (fun R hR => by simp [ll, hL0', hL0]; exact hR) ?_
 try simp only [zzA]
 first | refine wpK_onF (by simp [hL0, hL0']) ?_ | refine wpK_out (by simp [hL0, hL0']) ?_ | refine zzF (by simp [hL0, hL0']) ?_ | refine zzB (by simp [hL0, hL0']) (wpK_skip ?_) | refine zzB (by simp [hL0, hL0']) ?_
 try simp only [zzA]
 refine wpK_reg (fun R hR => by simp [ll, build25_0, zero25, hp5, b1]; exact hR) ?_
 try simp only [zzA]
 refine wpK_reg (fun R hR => by simp []; exact hR) ?_
 have hE12 := hE1.trans b3
 -- what stands
 have k0 : ∀ {W'}, Ext W1 W' -> Ext W W' /\ PairR W' v es /\ IntR W' lv (ls.map Int.ofNat) /\ ∀ W'', Ext W' W'' -> aLoadVar T0 W'' 24 g 0 = some (.agg ⟨[.int .i64 (n : Int), v]⟩) := fun {W'} he =>
  ⟨hE1.trans he, h.ext (hE1.trans he), hp.ext (hE1.trans he), fun W'' h2 => load24 (hV1.ext (he.trans h2))⟩
 refine wpK_keep (fun tm' => tm'.get 1 = some (lv) /\ tm'.get 2 = some (.pointer (some ⟨g, 0, none⟩)) /\ tm'.get 5 = some (.pointer (some ⟨p5, 0, none⟩)) /\ tm'.get 6 = some (.int .i64 0)) (by simp [hg0]) ?_
 rintro tm ⟨h1, h2, h5, h6⟩
 try simp only [zzA]
 refine wpK_while (I := fun q A' W' => A'.n = 72 /\ A'.defers = [] /\ A'.tmps.get 1 = some (lv) /\ A'.tmps.get 2 = some (.pointer (some ⟨g, 0, none⟩)) /\ A'.tmps.get 5 = some (.pointer (some ⟨p5, 0, none⟩)) /\ Ext W1 W' /\ ∃ (i : Nat) (ov : Value) (xs : List Edge) (K : Nat -> Prop), A'.tmps.get 6 = some (.int .i64 (i : Int)) /\ q = L - i /\ i <= L /\ Var W' p5 25 [.int .i64 (L : Int), ov] /\ GrowsN W' ov xs.length (flatE encP xs) 55 2 K /\ (∀ b, K b -> p5 < b) /\ xs.length <= 16 * i /\ GoodTo (L : Int) xs xs.length /\ EdTo es xs ls i 0)
  (J := fun A' W' => A'.n = 72 /\ A'.defers = [] /\ A'.tmps.get 1 = some (lv) /\ A'.tmps.get 2 = some (.pointer (some ⟨g, 0, none⟩)) /\ A'.tmps.get 5 = some (.pointer (some ⟨p5, 0, none⟩)) /\ Ext W1 W' /\ ∃ (ov : Value) (xs : List Edge), Var W' p5 25 [.int .i64 (L : Int), ov] /\ PairR W' ov xs /\ xs.length <= 300 /\ GoodTo (L : Int) xs xs.length /\ EdTo es xs ls L 0) (Rt := fun _ _ => False) (k := L) ?_ ?_ ?_ ?_
 ·exact ⟨rfl, rfl, by simp [h1, h2, h5], by simp [h1, h2, h5], by simp [h1, h2, h5], b3, 0, .slice none 0 0, [], fun _ => False, by simp [h6], rfl, by omega, b4, .nil _ _ _ _, fun b hb => hb.elim, by simp, fun i hi => by simp at hi, .start⟩
 ·rintro q ⟨tm, n, ds⟩ Wa ⟨hn, hd, h1, h2, h5, hEa, i, ov, xs, K, h6, hq, hiL, hVo, hgr, hK, hx, hgood, hEd⟩ Q' hJ hRt hI
  simp only at hn hd h1 h2 h5
  subst hn; subst hd
  simp only at h6
  by_cases hlt : i < L
  case neg =>
   have hlt' : ¬ (i : Int) < L := by omega
   have e : i = L := by omega
   rw [e] at hEd hx
   try simp only [zzA]
   refine wpK_reg (fun R hR => by simp [h1, h6, ll, hlt']; exact hR) ?_
   try simp only [zzA]
   first | refine wpK_onF (by simp [hlt]) ?_ | refine wpK_out (by simp [hlt]) ?_ | refine zzF (by simp [hlt]) ?_ | refine zzB (by simp [hlt]) (wpK_skip ?_) | refine zzB (by simp [hlt]) ?_
   exact hJ _ _ ⟨rfl, rfl, by simp [h1, h2, h5], by simp [h1, h2, h5], by simp [h1, h2, h5], hEa, ov, xs, hVo, hgr.row encP_len, by omega, hgood, hEd⟩
  have hlt' : (i : Int) < L := by omega
  try simp only [zzA]
  refine wpK_reg (fun R hR => by simp [h1, h6, ll, hlt']; exact hR) ?_
  try simp only [zzA]
  first | refine wpK_onT (by simp [hlt]) ?_ | refine wpK_outT (by simp [hlt]) ?_ | refine zzE (by simp [hlt]) ?_ | refine wpK_endT (by simp [hlt]) ?_
  refine wpK_block ?_
  try simp only [zzA]
  refine wpK_reg (fun R hR => by simp []; exact hR) ?_
  refine wpK_keep (fun tm' => tm'.get 1 = some (lv) /\ tm'.get 2 = some (.pointer (some ⟨g, 0, none⟩)) /\ tm'.get 5 = some (.pointer (some ⟨p5, 0, none⟩)) /\ tm'.get 6 = some (.int .i64 (i : Int)) /\ tm'.get 7 = some (.int .i64 0)) (by simp [h1, h2, h5, h6]) ?_
  rintro tm ⟨h1, h2, h5, h6, h7⟩
  try simp only [zzA]
  refine wpK_while1 (I := fun q2 A' W' => A'.n = 72 /\ A'.defers = [] /\ A'.tmps.get 1 = some (lv) /\ A'.tmps.get 2 = some (.pointer (some ⟨g, 0, none⟩)) /\ A'.tmps.get 5 = some (.pointer (some ⟨p5, 0, none⟩)) /\ A'.tmps.get 6 = some (.int .i64 (i : Int)) /\ Ext W1 W' /\ ∃ (k : Nat) (ov : Value) (xs : List Edge) (K : Nat -> Prop), A'.tmps.get 7 = some (.int .i64 (k : Int)) /\ q2 = i - k /\ k <= i /\ Var W' p5 25 [.int .i64 (L : Int), ov] /\ GrowsN W' ov xs.length (flatE encP xs) 55 2 K /\ (∀ b, K b -> p5 < b) /\ xs.length <= 16 * i + k /\ GoodTo (L : Int) xs xs.length /\ EdTo es xs ls i k)
   (J := fun A' W' => A'.n = 72 /\ A'.defers = [] /\ A'.tmps.get 1 = some (lv) /\ A'.tmps.get 2 = some (.pointer (some ⟨g, 0, none⟩)) /\ A'.tmps.get 5 = some (.pointer (some ⟨p5, 0, none⟩)) /\ A'.tmps.get 6 = some (.int .i64 (i : Int)) /\ Ext W1 W' /\ ∃ (ov : Value) (xs : List Edge) (K : Nat -> Prop), Var W' p5 25 [.int .i64 (L : Int), ov] /\ GrowsN W' ov xs.length (flatE encP xs) 55 2 K /\ (∀ b, K b -> p5 < b) /\ xs.length <= 16 * i + i /\ GoodTo (L : Int) xs xs.length /\ EdTo es xs ls i i) (Rt := fun _ _ => False) (k := i) ?_ ?_ ?_ ?_
  ·exact ⟨rfl, rfl, by simp [h1, h2, h5, h6], by simp [h1, h2, h5, h6], by simp [h1, h2, h5, h6], by simp [h1, h2, h5, h6], hEa, 0, ov, xs, K, by simp [h7], rfl, by omega, hVo, hgr, hK, by omega, hgood, hEd⟩
  ·clear hVo hgr hK hx hgood hEd h7
   rintro q2 ⟨tm, n, ds⟩ Wb ⟨hn, hd, h1, h2, h5, h6, hEb, k, ov2, xs2, K2, h7, hq2, hki, hVo, hgr, hK, hx, hgood, hEd⟩ Q2 hJ2 hRt2 hI2
   simp only at hn hd h1 h2 h5 h6
   subst hn; subst hd
   simp only at h7
   by_cases hkt : k < i
   case neg =>
    have hkt' : ¬ (k : Int) < i := by omega
    have e : k = i := by omega
    rw [e] at hEd hx
    try simp only [zzA]
    refine wpK_reg (fun R hR => by simp [h6, h7, hkt']; exact hR) ?_
    try simp only [zzA]
    first | refine wpK_onF (by simp [hkt]) ?_ | refine wpK_out (by simp [hkt]) ?_ | refine zzF (by simp [hkt]) ?_ | refine zzB (by simp [hkt]) (wpK_skip ?_) | refine zzB (by simp [hkt]) ?_
    exact hJ2 _ _ ⟨rfl, rfl, by simp [h1, h2, h5, h6], by simp [h1, h2, h5, h6], by simp [h1, h2, h5, h6], by simp [h1, h2, h5, h6], hEb, ov2, xs2, K2, hVo, hgr, hK, hx, hgood, hEd⟩
   have hkt' : (k : Int) < i := by omega
   try simp only [zzA]
   refine wpK_reg (fun R hR => by simp [h6, h7, hkt']; exact hR) ?_
   try simp only [zzA]
   first | refine wpK_onT (by simp [hkt]) ?_ | refine wpK_outT (by simp [hkt]) ?_ | refine zzE (by simp [hkt]) ?_ | refine wpK_endT (by simp [hkt]) ?_
   obtain ⟨eb, pb, rb, lb⟩ := k0 hEb
   obtain ⟨bx, px, x1, _, x3⟩ := int_at31 rb (nat_some (ps := ls) (i := i) (by omega))
   obtain ⟨by', py, y1, _, y3⟩ := int_at31 rb (nat_some (ps := ls) (i := k) (by omega))
   have ebb : Ext Wb Wb := .refl _ _
   have vv := row_eq pb
   have vl := row_eq rb
   have hEs := hEd.skip hkt
   have hEp := hEd.push hkt
   have hjw := refJoined_wp (n : Int) pb hl ((pOf ls i : Nat) : Int) ((pOf ls k : Nat) : Int)
   obtain ⟨x, hxe⟩ : ∃ x, x = pOf ls i := ⟨_, rfl⟩
   obtain ⟨y, hye⟩ : ∃ y, y = pOf ls k := ⟨_, rfl⟩
   rw [<- hxe] at x3 hjw hEs hEp
   rw [<- hye] at y3 hjw hEs hEp
   have x2 : ∀ W', Ext Wb W' -> aLoadVar T0 W' 3 bx px = some (.int .i64 (x : Int)) := fun W' hE => load_of und3 rfl (x3.ext hE)
   have y2 : ∀ W', Ext Wb W' -> aLoadVar T0 W' 3 by' py = some (.int .i64 (y : Int)) := fun W' hE => load_of und3 rfl (y3.ext hE)
   obtain ⟨jb, hjb⟩ : ∃ jb, jb = decide (Jn es (x : Int) (y : Int)) := ⟨_, rfl⟩
   rw [<- hjb] at hjw
   refine wpK_block ?_
   try simp only [zzA]
   refine wpK_d0 (wr := Tr.nil |>.set 30 0 |>.set 31 1 |>.set 32 2 |>.set 33 3 |>.set 34 4 |>.set 35 5 |>.set 36 6 |>.set 37 7 |>.set 38 8 |>.set 39 9) (bits := Tr.nil.lay 0 [0, 0, 0, 6, 14, 0, 0, 96, 224, 511]) (ord := [0, 1, 2, 3, 4, 5, 6, 7, 8, 9]) (by kernel_rfl) (by kernel_rfl) (by kernel_rfl) (fun G hG => by
    simp [h1, h2, h6, h7, x1, x2, y1, y2, ebb, lb, vv, vl, undef, aEnter, fun64, zzC, aCallV]
    rw [dcallS_none]
    refine hjw.mono ?_
    rintro _ Wc ⟨hEc, rfl⟩
    simp [hEc.1, hEc, h1, h2, h6, h7, x1, x2, y1, y2, ebb, lb, vv, vl, undef]
    exact hG Wc hEc) ?_
   rintro Wc hEc
   have hVc := hVo.ext hEc
   have hgc := hgr.only hEc (fun _ _ _ x => x)
   have hEbc := hEb.trans hEc
   cases jb with
   | false =>
    have hnj : ¬ AjE es x y := fun hj => by
     have hj : Jn es (x : Int) (y : Int) := hj
     rw [decide_eq_true hj] at hjb; cases hjb
    try simp only [zzA]
    first | refine wpK_onF (by simp []) ?_ | refine wpK_out (by simp []) ?_ | refine zzF (by simp []) ?_ | refine zzB (by simp []) (wpK_skip ?_) | refine zzB (by simp []) ?_
    simp only [zzH, zzG]
    refine wpK_keep (fun tm' => tm'.get 1 = some (lv) /\ tm'.get 2 = some (.pointer (some ⟨g, 0, none⟩)) /\ tm'.get 5 = some (.pointer (some ⟨p5, 0, none⟩)) /\ tm'.get 6 = some (.int .i64 (i : Int)) /\ tm'.get 7 = some (.int .i64 (k : Int))) (by simp [h1, h2, h5, h6, h7]) ?_
    rintro tm ⟨h1, h2, h5, h6, h7⟩
    try simp only [zzA]
    refine wpK_reg1 (fun R hR => by simp [h7]; exact hR) ?_
    exact hI2 (i - (k + 1)) _ _ (by omega) ⟨rfl, rfl, by simp [h1, h2, h5, h6], by simp [h1, h2, h5, h6], by simp [h1, h2, h5, h6], by simp [h1, h2, h5, h6], hEbc, k + 1, ov2, xs2, K2, by simp [i64_succ k (by omega)], rfl, by omega, hVc, hgc, hK, by omega, hgood, hEs hnj⟩
   | true =>
    have hj : AjE es x y := of_decide_eq_true hjb.symm
    try simp only [zzA]
    first | refine wpK_onT (by simp []) ?_ | refine wpK_outT (by simp []) ?_ | refine zzE (by simp []) ?_ | refine wpK_endT (by simp []) ?_
    refine wpK_keep (fun tm' => tm'.get 1 = some (lv) /\ tm'.get 2 = some (.pointer (some ⟨g, 0, none⟩)) /\ tm'.get 5 = some (.pointer (some ⟨p5, 0, none⟩)) /\ tm'.get 6 = some (.int .i64 (i : Int)) /\ tm'.get 7 = some (.int .i64 (k : Int))) (by simp [h1, h2, h5, h6, h7]) ?_
    rintro tm ⟨h1, h2, h5, h6, h7⟩
    have ob := hVc.load1 (T := T0) und22 rfl (j := 1) (v := ov2) rfl
    obtain ⟨v', Wd, We, q1, q2', q3, q4, q5, q6, q7⟩ := Var.push (T := T0) (t := 22) (el := 55) (i := Tryd.t55) (it := Tryd.t22) (sz := 2) (by omega) und22 inf55 is55 z55 rfl inf22 is22 hgc hVc (o := 1) (fun hk => by have := hK _ hk; omega) (by simp) (u := [.int .i64 (k : Int), .int .i64 (i : Int)]) rfl rfl (by rw [by55]; omega) (by omega)
    have q1 : aAppend T0 (Wc.newCells 55 [.int .i64 (k : Int), .int .i64 (i : Int)]) [22, 22] [ov2, .slice (some ⟨Wc.next, 0, none⟩) 1 2] = some (v', Wd) := q1
    try simp only [zzA]
    refine wpK_reg (fun R hR => by simp [h5, ob]; exact hR) ?_
    try simp only [zzA]
    refine wpK_reg1 (fun R hR => by simp [h5, h6, h7, build55, bs22, q1, q2']; exact hR) ?_
    simp only [zzH, zzG]
    refine wpK_keep (fun tm' => tm'.get 1 = some (lv) /\ tm'.get 2 = some (.pointer (some ⟨g, 0, none⟩)) /\ tm'.get 5 = some (.pointer (some ⟨p5, 0, none⟩)) /\ tm'.get 6 = some (.int .i64 (i : Int)) /\ tm'.get 7 = some (.int .i64 (k : Int))) (by simp [h1, h2, h5, h6, h7]) ?_
    rintro tm ⟨h1, h2, h5, h6, h7⟩
    try simp only [zzA]
    refine wpK_reg1 (fun R hR => by simp [h7]; exact hR) ?_
    have hl1 : (xs2 ++ [((k : Int), (i : Int))]).length = xs2.length + 1 := by simp
    have hpc : p5 < Wc.next := hVc.1
    have hnn := hEbc.1
    refine hI2 (i - (k + 1)) _ _ (by omega) ⟨rfl, rfl, by simp [h1, h2, h5, h6], by simp [h1, h2, h5, h6], by simp [h1, h2, h5, h6], by simp [h1, h2, h5, h6], ⟨by omega, fun c hc hk => ?_⟩, k + 1, v', xs2 ++ [((k : Int), (i : Int))], fun c => K2 c \/ c = Wc.next + 1, by simp [i64_succ k (by omega)], rfl, by omega, by simpa using q5, ?_, fun c hc => ?_, by rw [hl1]; omega, good_app hgood ⟨by omega, by omega, by omega, by omega, by omega⟩ hEd.not, hEp hj⟩
    ·rw [q7.2 c (by omega) (by rintro (hh | hh); have := hK _ hh; omega; omega)]
     exact hEbc.2 c hc hk
    ·rw [hl1, flatE_append, flatE_one]; exact q6
    ·rcases hc with hc | hc
     ·exact hK _ hc
     ·omega
  ·rintro A' W' hf; exact hf.elim
  rintro ⟨tm, n, ds⟩ Wb ⟨hn, hd, h1, h2, h5, h6, hEb, ov2, xs2, K2, hVo2, hgr2, hK2, hx2, hgood2, hEd2⟩
  simp only at hn hd h1 h2 h5 h6
  subst hn; subst hd
  try simp only [zzH, zzG]
  try simp only [zzA]
  refine wpK_reg1 (fun R hR => by simp [h6]; exact hR) ?_
  exact hI (L - (i + 1)) _ _ (by omega) ⟨rfl, rfl, by simp [h1, h2, h5], by simp [h1, h2, h5], by simp [h1, h2, h5], hEb, i + 1, ov2, xs2, K2, by simp [i64_succ i (by omega)], rfl, by omega, hVo2, hgr2, hK2, by omega, hgood2, hEd2.up⟩
 ·rintro A' W' hf; exact hf.elim
 rintro ⟨tm, n, ds⟩ Wz ⟨hn, hd, h1, h2, h5, hEz, ov, xs, hVz, hRz, hx300, hgood, hEd⟩
 simp only at hn hd h1 h2 h5
 subst hn; subst hd
 have hgx : GraphOk (L : Int) xs := ⟨by omega, by omega, hx300, hgood⟩
 have hxl : xs.length < 4611686018427387904 := by omega
 have hEWz := hE1.trans hEz
 have lz := load25 hVz
 try simp only [zzA]
 refine wpK_x1 (fun R hR => by
   simp [h5, lz, opExtract, aExtract, aEnter, fun17, zzC, aCallV]; rw [zzD]
   refine (match_most hRz hxl hgx (tabs_ext hT hN0 hEWz) (by have := hEWz.1; omega)).mono ?_
   rintro _ W3 ⟨hE2, mv, rfl, mo, l, hI4, hll, hpo, hcn, hmo⟩
   simp [h5, lz, opExtract, aExtract]; exact hR mv W3 (And.intro hE2 (⟨mo, l, hI4, hll, hpo, hcn, hmo⟩ : ∃ (mo : Nat) (l : List Int), IntN W3 mv l /\ l.length = L /\ PairOk (L : Int) xs l L /\ cnt2 l L = (mo : Int) /\ MostP L (AjE xs) (fun _ => true) mo))) ?_
 rintro mv W3 ⟨hE2, (⟨mo, l, hI4, hll, hpo, hcn, hmo⟩ : ∃ (mo : Nat) (l : List Int), IntN W3 mv l /\ l.length = L /\ PairOk (L : Int) xs l L /\ cnt2 l L = (mo : Int) /\ MostP L (AjE xs) (fun _ => true) mo)⟩
 have h2m : 2 * mo = L := by
  rw [hLe] at hmo ⊢
  refine whole_most (n := n) hm2 hJi hnd (by omega) hin (fun p q hp1 hq1 => ?_) hmo
  rw [hEd p q]
  constructor
  ·rintro ⟨a1, _, a3⟩; exact ⟨a1, a3⟩
  ·rintro ⟨a1, a3⟩; exact ⟨a1, by omega, a3⟩
 have lz2 := load25 (hVz.ext hE2)
 have hpr : ∀ {kk : Int} {bb : Bool}, PairingIs (L : Int) xs l kk bb -> kk = (mo : Int) /\ bb = true := fun {kk bb} hP1 => by
  rcases hP1 with ⟨e1, e2, e3, e4⟩ | ⟨e1, e2, e3⟩
  ·exact ⟨by rw [e4, hll, hcn], e1⟩
  ·exact absurd ⟨by rw [hll], by rw [hll]; exact hpo⟩ e3
 try simp only [zzA]
 refine wpK_x0 (fun R hR => by
   simp [h5, lz2, opExtract, aExtract, aEnter, fun21, zzC, aCallV]; rw [zzD]
   refine ((isPairing_ok (hRz.ext hE2) hxl hgx hI4 (by omega)).mono (fun u W' hh => (⟨hh.1, let ⟨kk, bb, e1, e2⟩ := hh.2; by rw [e1, (hpr e2).1, (hpr e2).2]⟩ : Ext W3 W' /\ u = .tuple ⟨[.int .i64 (mo : Int), .bool true]⟩))).mono ?_
   rintro _ W4 ⟨hE3, rfl⟩
   simp [h5, lz2, opExtract, aExtract]; exact hR W4 hE3) ?_
 rintro W4 hE3
 have w2 : aBinI .mul .i64 2 .i64 (mo : Int) = some (.int .i64 (L : Int)) := by
  have := hmo.le
  rw [aBinI_mul, <- h2m, show ((2 * mo : Nat) : Int) = 2 * (mo : Int) from by omega, i64_in (by omega)]
 try simp only [zzA]
 refine wpK_reg (fun R hR => by simp [h1, ll, w2, undef]; exact hR) ?_
 exact wpK_ret ⟨.inr rfl, rfl, [.bool true], by simp, (hEWz.trans hE2).trans hE3, rfl⟩
theorem row_from {W : AW} {qs : List Nat} {b : Nat} (h4 : ∀ i u, (natsV qs)[i]? = some u -> W.Has b i u) (j c : Nat) (l : List Nat) (hl : ∀ i q, l[i]? = some q -> qs[j + i]? = some q) (hc : l.length = 0 -> SlEmp (some ⟨b, j, none⟩) c) : RowIn 1 (encI .i64) W (.slice (some ⟨b, j, none⟩) l.length c) (l.map Int.ofNat) := by
 refine ⟨some ⟨b, j, none⟩, c, by simp, fun e => hc (by simpa using e), fun i a hi => ⟨b, j, rfl, fun z u hu => ?_⟩⟩
 have hz : z = 0 := by have := (List.getElem?_eq_some_iff.1 hu).1; simp only [encI, List.length_cons, List.length_nil] at this; omega
 subst hz
 rw [Nat.mul_one, Nat.add_zero]
 refine h4 (j + i) u ?_
 rw [List.getElem?_map] at hi
 rw [natsV, List.getElem?_map]
 cases hq : l[i]? with
 | none => rw [hq] at hi; cases hi
 | some q =>
  rw [hq] at hi
  cases hi
  rw [hl i q hq]
  cases hu
  rfl
theorem aHi_nat {k c n : Nat} (h : k <= c) : aHi (some (.int .i64 (k : Int))) n c = some k := by
 show aBound (.int .i64 (Int.ofNat k)) c = some k
 simp only [aBound, ble_dec, h, decide_true]
theorem aLo_nat {k h : Nat} (hk : k <= h) : aLo (some (.int .i64 (k : Int))) h = some k := by
 show aBound (.int .i64 (Int.ofNat k)) h = some k
 simp only [aBound, ble_dec, hk, decide_true]
theorem cut_first {W : AW} {x : Value} {qs : List Nat} {b k : Nat} (h : RowAt W x qs b) (hk : k < qs.length) (hq : qs.length <= 40) :
  ∃ u1 gv W', aSliceOp T0 W 31 x none (some (.int .i64 (k : Int))) none = some u1 /\ aAppend T0 W [31, 31] [.slice none 0 0, u1] = some (gv, W') /\ Ext W W' /\ GrowsN W' gv (qs.take k).length (natsV (qs.take k)) 3 1 (fun b => b = W.next) := by
 obtain ⟨hb, c, hc, rfl, h4⟩ := h
 have hlen : (qs.take k).length = k := by rw [List.length_take]; omega
 have hr := fun c' => row_from h4 0 c' (qs.take k) (fun i q hi => by
  have : i < k := by have := (List.getElem?_eq_some_iff.1 hi).1; omega
  rw [List.getElem?_take_of_lt this] at hi
  rw [Nat.zero_add]; exact hi) (fun _ => .inr (.inl ⟨_, _, rfl⟩))
 obtain ⟨u1, hu, hrow⟩ : ∃ u1, aSliceOp T0 W 31 (.slice (some ⟨b, 0, none⟩) qs.length c) none (some (.int .i64 (k : Int))) none = some u1 /\ RowIn 1 (encI .i64) W u1 ((qs.take k).map Int.ofNat) := by
  rcases hc with hc | hc
  ·subst hc
   refine ⟨.slice (some ⟨b, 0, none⟩) k 3, ?_, by have := hr 3; rw [hlen] at this; exact this⟩
   have h1 := aHi_nat (n := qs.length) (show k <= max qs.length (W.ext b 0 1) by omega)
   simp only [aSliceOp, und31, sz3, h1, aLo, Nat.sub_zero, Nat.zero_mul, Nat.add_zero, Nat.beq_refl, Bool.or_true]
  ·subst hc
   refine ⟨.slice (some ⟨b, 0, none⟩) k (2 * qs.length), ?_, by have := hr (2 * qs.length); rw [hlen] at this; exact this⟩
   have h1 := aHi_nat (n := qs.length) (show k <= qs.length by omega)
   have e1 : (2 * qs.length) % 2 = 0 := by omega
   have e2 : 2 * qs.length / 2 = qs.length := by omega
   have hsh : shiftTo 0 qs.length 0 1 = 0 := by unfold shiftTo; split <;> simp
   simp only [aSliceOp, und31, sz3, e1, e2, Nat.beq_refl, h1, aLo, hsh, Nat.sub_zero]
 obtain ⟨gv, W', k1, k2, k3, k4, k5⟩ := GrowsN.appRow (T := T0) (t := 31) encI_len encI_one (by omega) und31 inf3 is3 z3 rfl (GrowsN.nil W 3 1 (fun _ => False)) hrow (by rw [List.length_map, by3]; omega) (by rw [List.length_map]; omega)
 rw [List.nil_append, <- natsV_flat, List.length_map, Nat.zero_add] at k4
 exact ⟨u1, gv, W', hu, k1, k5, k4.mono fun b hb => hb.elim (fun h => h.elim) id⟩
theorem app_none {W : AW} {gv : Value} {m : Nat} {l : List Value} {K : Nat -> Prop} (h : GrowsN W gv m l 3 1 K) {u : Value} (hu : aSrc W 1 u = some (0, [])) : aAppend T0 W [31, 31] [gv, u] = some (gv, W) := by
 have hhead : aAppend T0 W [31, 31] [gv, u] = aApp0 W gv := by
  simp only [aAppend, und31, inf3, is3, z3, notInt, hu, acells, List.length_cons, List.length_nil, beq_dec, Nat.zero_mul, decide_true]
  rfl
 rw [hhead]
 obtain ⟨_, ⟨_, rfl⟩ | ⟨b, c, kin, rfl, _⟩⟩ := h
 ·rfl
 ·rfl
theorem cut_rest {W : AW} {x gv : Value} {qs l0 : List Nat} {b k : Nat} {K : Nat -> Prop} (h : RowAt W x qs b) (hk : k < qs.length) (hq : qs.length <= 40) (hl0 : l0.length <= 40) (hg : GrowsN W gv l0.length (natsV l0) 3 1 K) :
  ∃ u2 gv' W', aSliceOp T0 W 31 x (some (.int .i64 ((k + 1 : Nat) : Int))) none none = some u2 /\ aAppend T0 W [31, 31] [gv, u2] = some (gv', W') /\ GrowsN W' gv' (l0 ++ qs.drop (k + 1)).length (natsV (l0 ++ qs.drop (k + 1))) 3 1 (fun b => K b \/ b = W.next) /\ Only K W W' := by
 obtain ⟨hb, c, hc, rfl, h4⟩ := h
 by_cases hend : k + 1 = qs.length
 ·have hd : qs.drop (k + 1) = [] := List.drop_eq_nil_of_le (by omega)
  rw [hd, List.append_nil]
  obtain ⟨u2, hu, hsrc⟩ : ∃ u2, aSliceOp T0 W 31 (.slice (some ⟨b, 0, none⟩) qs.length c) (some (.int .i64 ((k + 1 : Nat) : Int))) none none = some u2 /\ aSrc W 1 u2 = some (0, []) := by
   have src0 : ∀ o c', aSrc W 1 (.slice (some ⟨b, o, none⟩) 0 c') = some (0, []) := fun o c' => by
    simp only [aSrc, Nat.zero_mul, AW.cellsAt]
    generalize W.blocks.get b = z
    rcases z with _ | ⟨ob, kin⟩
    ·rfl
    ·cases ob with
     | cells c2 n2 el2 =>
      simp only
      cases Nat.ble (o + 0) n2 <;> rfl
     | ro c2 n2 el2 =>
      simp only
      cases Nat.ble (o + 0) n2 <;> rfl
     | _ => rfl
   rcases hc with hc | hc
   ·subst hc
    have h2 := aLo_nat (k := k + 1) (h := qs.length) (by omega)
    have h3 : ∃ u2, aSliceOp T0 W 31 (.slice (some ⟨b, 0, none⟩) qs.length 3) (some (.int .i64 ((k + 1 : Nat) : Int))) none none = some u2 /\ (u2 = .slice (some ⟨b, 0 + (k + 1) * 1, none⟩) (qs.length - (k + 1)) 3 \/ u2 = .slice (some ⟨b, 0 + (k + 1) * 1, some 0⟩) 0 3) := by
     simp only [aSliceOp, und31, sz3, aHi, h2]
     cases hbb : (Nat.blt (k + 1) qs.length || Nat.blt (k + 1) (max qs.length (W.ext b 0 1)) || Nat.beq (k + 1) 0) with
     | true => exact ⟨_, rfl, .inl rfl⟩
     | false => exact ⟨_, rfl, .inr rfl⟩
    obtain ⟨u2, g1, g2⟩ := h3
    refine ⟨u2, g1, ?_⟩
    rcases g2 with g2 | g2
    ·rw [g2, show qs.length - (k + 1) = 0 from by omega]; exact src0 _ _
    ·rw [g2]; rfl
   ·subst hc
    have h2 := aLo_nat (k := k + 1) (h := qs.length) (by omega)
    have e1 : (2 * qs.length) % 2 = 0 := by omega
    have e2 : 2 * qs.length / 2 = qs.length := by omega
    refine ⟨.slice (some ⟨b, shiftTo 0 qs.length (k + 1) 1, none⟩) (qs.length - (k + 1)) (2 * (qs.length - (k + 1))), ?_, ?_⟩
    ·simp only [aSliceOp, und31, sz3, e1, e2, Nat.beq_refl, aHi, h2]
    ·rw [show qs.length - (k + 1) = 0 from by omega]; exact src0 _ _
  exact ⟨u2, gv, W, hu, app_none hg hsrc, hg.mono fun _ h => .inl h, .refl _ _⟩
 ·have hlt : k + 1 < qs.length := by omega
  have hlen : (qs.drop (k + 1)).length = qs.length - (k + 1) := List.length_drop
  have hr := fun c' => row_from h4 (k + 1) c' (qs.drop (k + 1)) (fun i q hi => by rw [List.getElem?_drop] at hi; exact hi) (fun e => by omega)
  have h2 := aLo_nat (k := k + 1) (h := qs.length) (by omega)
  obtain ⟨u2, hu, hrow⟩ : ∃ u2, aSliceOp T0 W 31 (.slice (some ⟨b, 0, none⟩) qs.length c) (some (.int .i64 ((k + 1 : Nat) : Int))) none none = some u2 /\ RowIn 1 (encI .i64) W u2 ((qs.drop (k + 1)).map Int.ofNat) := by
   rcases hc with hc | hc
   ·subst hc
    refine ⟨.slice (some ⟨b, k + 1, none⟩) (qs.length - (k + 1)) 3, ?_, by have := hr 3; rw [hlen] at this; exact this⟩
    have hbl : Nat.blt (k + 1) qs.length = true := by rw [blt_dec]; exact decide_eq_true hlt
    simp only [aSliceOp, und31, sz3, aHi, h2, hbl, Bool.true_or, Nat.mul_one, Nat.zero_add]
    rfl
   ·subst hc
    refine ⟨.slice (some ⟨b, k + 1, none⟩) (qs.length - (k + 1)) (2 * (qs.length - (k + 1))), ?_, by have := hr (2 * (qs.length - (k + 1))); rw [hlen] at this; exact this⟩
    have e1 : (2 * qs.length) % 2 = 0 := by omega
    have e2 : 2 * qs.length / 2 = qs.length := by omega
    have hsh : shiftTo 0 qs.length (k + 1) 1 = k + 1 := by
     unfold shiftTo
     rw [beq_dec, decide_eq_false (by omega)]
     simp
    simp only [aSliceOp, und31, sz3, e1, e2, Nat.beq_refl, aHi, h2, hsh]
  obtain ⟨gv', W', k1, k2, k3, k4, k5⟩ := hg.appRow (T := T0) (t := 31) encI_len encI_one (by omega) und31 inf3 is3 z3 rfl hrow (by rw [List.length_map, by3, hlen]; omega) (by rw [List.length_map, hlen]; omega)
  rw [<- natsV_flat, List.length_map] at k4
  have e1 : natsV l0 ++ natsV (qs.drop (k + 1)) = natsV (l0 ++ qs.drop (k + 1)) := by simp [natsV]
  have e2 : l0.length + (qs.drop (k + 1)).length = (l0 ++ qs.drop (k + 1)).length := by rw [List.length_append]
  rw [e1, e2] at k4
  exact ⟨u2, gv', W', hu, k1, k4, k5⟩
theorem parts_at {W : AW} {u : Value} {es : List Edge} {S : Nat -> Prop} {qss : List (List Nat)} (h : PartsR W u es S qss) {i : Nat} (hi : i < qss.length) : ∃ x b p bq, aIndexAddr T0 58 u (.int .i64 (i : Int)) = some (.pointer (some ⟨b, p, none⟩)) /\ W.Has b p x /\ RowAt W x (qss.getD i []) bq /\ PartOf es S (qss.getD i []) := by
 obtain ⟨us, h1, h2, h3⟩ := h
 have hu : us[i]? = some us[i] := List.getElem?_eq_getElem (by omega)
 obtain ⟨b, p, g1, g2⟩ := h2.at (T := T0) hu und58 sz31 .i64
 have hl : qss[i]? = some (qss.getD i []) := by rw [List.getD_eq_getElem?_getD, List.getElem?_eq_getElem hi]; rfl
 obtain ⟨bq, e1, e2⟩ := h3 i _ _ hu hl
 exact ⟨us[i], b, p, bq, g1, g2 0 _ rfl, e1, e2⟩
theorem parts_len {W : AW} {u : Value} {es : List Edge} {S : Nat -> Prop} {qss : List (List Nat)} (h : PartsR W u es S qss) : ∀ W', aLen T0 W' 58 u = some (.int .i64 (qss.length : Int)) := by
 obtain ⟨us, h1, h2, h3⟩ := h
 obtain ⟨A, c, rfl⟩ := h2.len
 intro W'
 rw [<- h1]; exact len_slice und58 _ _ _
theorem divide_as {W : AW} {v : Value} {n : Nat} {es : List Edge} {s : PS} {D A : Nat -> Prop} {cl : Nat -> Nat} (h : PairR W v es) (hl : es.length < 4611686018427387904) (hg : GraphOk (n : Int) es) (hT : tabsIn T0 T0.tabs W = true) (hN0 : 0 < W.next) (hG : Great n (AjE es) s D A cl n) :
  WpF T0 19 [.agg ⟨[.int .i64 (n : Int), v]⟩] W (fun u W' => Ext W W' /\ ∃ fv nv rv, u = .tuple ⟨[.agg ⟨[fv, nv, rv]⟩, .int .i64 0]⟩ /\ ∃ (F N R : Nat), IntN W' fv (membL n F) /\ IntN W' nv (membL n N) /\ IntN W' rv (membL n R) /\
   (∀ x, F.testBit x = true ↔ D x) /\ (∀ x, N.testBit x = true ↔ A x) /\ ∀ x, R.testBit x = true ↔ x < n /\ ¬ D x /\ ¬ A x) := by
 have hn : n <= 40 := by have := hg.2.1; omega
 refine (divide_ok h hl hg hT hN0).mono ?_
 rintro u W' ⟨h1, fv, nv, rv, h2, F, N, R, r1, r2, r3, s2, D2, A2, cl2, hG2, hF, hN, hR⟩
 have eD : ∀ x, D2 x ↔ D x := fun x => ⟨great_D hn (aj_irr hg) AjE.symm hG2 hG, great_D hn (aj_irr hg) AjE.symm hG hG2⟩
 have eA : ∀ x, A2 x ↔ A x := fun x => ⟨great_A hn (aj_irr hg) AjE.symm hG2 hG, great_A hn (aj_irr hg) AjE.symm hG hG2⟩
 exact ⟨h1, fv, nv, rv, h2, F, N, R, r1, r2, r3, fun x => (hF x).trans (eD x), fun x => (hN x).trans (eA x), fun x => by rw [hR, eD, eA]⟩
open Classical in
theorem pairGallai_wp {W : AW} {v : Value} (P : Int) {es : List Edge} (h : PairR W v es) (hl : es.length < 9223372036854775808) (htb : tabsIn T0 T0.tabs W = true) (hW0 : 0 < W.next) :
  WpF T0 10 [.agg ⟨[.int .i64 P, v]⟩] W (fun u _ => u = .bool true) := by
 refine wpF fun10 rfl ?_
 obtain ⟨W1, hW1, hE1, hV⟩ : ∃ W1, W1 = W.newCells 24 [.int .i64 P, v] /\ Ext W W1 /\ Var W1 W.next 24 [.int .i64 P, v] := ⟨_, rfl, .newCells _ _ _, Var.new _ _ _⟩
 have hl1 := load24 hV
 try simp only [zzA]
 refine wpK_reg (fun R hR => by simp [<- hW1]; exact hR) ?_
 try simp only [zzA]
 refine wpK_x4 (P := fun (n : Nat) (ov : Value) (xs : List Edge) (p7 : Nat) W' => Ext W1 W' /\ 1 <= n /\ n <= 16 /\ GraphOk (n : Int) xs /\ xs.length <= 34 /\ PairR W' ov xs /\ Var W' p7 24 [.int .i64 (n : Int), ov]) (fun R hR => by
  simp [hl1, aEnter, fun23, zzC, aCallV]; rw [zzD]
  refine (tame16_wp P (h.ext hE1) hl).mono ?_
  rintro _ Wt ⟨hEt, n, ov, xs, rfl, q1, q2, q3, q4, q5⟩
  obtain ⟨Ao, co, hov⟩ := q5.len
  obtain ⟨Wu, g1, g2, g3, g4⟩ := storeVar_new (T := T0) (W := Wt) (t := 24) (v := .agg ⟨[.int .i64 (n : Int), ov]⟩) (z := [.int .i64 0, .slice none 0 0]) inf24 (by rw [is24]; rfl) (by rw [is24]; rfl) (by rw [hov]; rfl)
  obtain ⟨pn, hpn⟩ : ∃ p, Wt.next = p := ⟨_, rfl⟩
  rw [hpn] at g1 g4
  simp [zero24, hpn, g1]
  exact hR n ov xs pn Wu (And.intro (hEt.trans g3) (And.intro q1 (And.intro q2 (And.intro q3 (And.intro q4 (And.intro (q5.ext g3) (by simpa using g4)))))))) ?_
 rintro n ov xs p3 W2 ⟨hE2, hn1, hn16, hgr, hx34, hR2, hV3⟩
 have hl3 := load24 hV3
 obtain ⟨Ao, co, hov⟩ := hR2.len
 try simp only [zzA]
 refine wpK_x1 (P := fun (p8 : Nat) W' => Ext W2 W' /\ Var W' p8 25 [.int .i64 (n : Int), ov]) (fun R hR => by
  simp [hl3, aEnter, fun13, zzC, aCallV]; rw [zzD]
  refine (give_wp (n : Int) hR2).mono ?_
  rintro _ Wt ⟨hEt, rfl⟩
  obtain ⟨Wu, g1, g2, g3, g4⟩ := storeVar_new (T := T0) (W := Wt) (t := 25) (v := .agg ⟨[.int .i64 (n : Int), ov]⟩) (z := [.int .i64 0, .slice none 0 0]) inf25 (by rw [is25]; rfl) (by rw [is25]; rfl) (by rw [hov]; rfl)
  obtain ⟨pn, hpn⟩ : ∃ p, Wt.next = p := ⟨_, rfl⟩
  rw [hpn] at g1 g4
  simp [zero25, hpn, g1]
  exact hR pn Wu (And.intro (hEt.trans g3) (by simpa using g4))) ?_
 rintro p4 W3 ⟨hE3, hV4⟩
 have hE03 := (hE1.trans hE2).trans hE3
 have n03 := hE03.1
 have hV33 := hV3.ext hE3
 have hR3 := hR2.ext hE3
 have ht3 := tabs_ext htb hW0 hE03
 have g24 : ∀ W', Ext W3 W' -> aLoadVar T0 W' 24 p3 0 = some (.agg ⟨[.int .i64 (n : Int), ov]⟩) := fun W' hE => load24 (hV33.ext hE)
 have g3 : ∀ W', Ext W3 W' -> aLoadVar T0 W' 3 p3 0 = some (.int .i64 (n : Int)) := fun W' hE => (hV33.ext hE).load1 (T := T0) und3 rfl (j := 0) (v := .int .i64 (n : Int)) rfl
 have g25 : ∀ W', Ext W3 W' -> aLoadVar T0 W' 25 p4 0 = some (.agg ⟨[.int .i64 (n : Int), ov]⟩) := fun W' hE => load25 (hV4.ext hE)
 have gT : ∀ {W'}, Ext W3 W' -> tabsIn T0 T0.tabs W' = true := fun {W'} hE => tabs_ext ht3 (by omega) hE
 have gN : ∀ {W'}, Ext W3 W' -> 0 < W'.next := fun {W'} hE => by have := hE.1; omega
 have gR : ∀ {W'}, Ext W3 W' -> PairR W' ov xs := fun {W'} hE => hR3.ext hE
 have hxl : xs.length < 4611686018427387904 := by omega
 have hnn : n <= 40 := by omega
 have hJi := aj_irr hgr
 have e33 : Ext W3 W3 := .refl _ _
 try simp only [zzA]
 refine wpK_x1 (fun R hR => by
   simp [g25, e33, opExtract, aExtract, aEnter, fun17, zzC, aCallV]; rw [zzD]
   refine (match_ok hR3 hxl hgr ht3 (gN e33)).mono ?_
   rintro _ W4 ⟨hE4, mv, s, D, A, cl, rfl, hI4, hG⟩
   simp [g25, e33, opExtract, aExtract]; exact hR mv W4 (And.intro hE4 (⟨s, D, A, cl, hI4, hG⟩ : ∃ (s : PS) (D A : Nat -> Prop) (cl : Nat -> Nat), IntN W4 mv (mateL n s.mt) /\ Great n (AjE xs) s D A cl n))) ?_
 rintro mv W4 ⟨hE4, (⟨s, D, A, cl, hI4, hG⟩ : ∃ (s : PS) (D A : Nat -> Prop) (cl : Nat -> Nat), IntN W4 mv (mateL n s.mt) /\ Great n (AjE xs) s D A cl n)⟩
 have e34 := hE4
 try simp only [zzA]
 refine wpK_x4 (P := fun (fv nv rv : Value) (p7 : Nat) W' => Ext W4 W' /\ Var W' p7 35 [fv, nv, rv] /\ ∃ F N R : Nat, IntN W' fv (membL n F) /\ IntN W' nv (membL n N) /\ IntN W' rv (membL n R) /\ (∀ x, F.testBit x = true ↔ D x) /\ (∀ x, N.testBit x = true ↔ A x) /\ ∀ x, R.testBit x = true ↔ x < n /\ ¬ D x /\ ¬ A x) (fun R9 hR9 => by
  simp [g25, e34, aEnter, fun19, zzC, aCallV]; rw [zzD]
  refine (divide_as (gR e34) hxl hgr (gT e34) (gN e34) hG).mono ?_
  rintro _ W2 ⟨hE2, fv, nv, rv, rfl, F, N, R, r1, r2, r3, hPt⟩
  obtain ⟨A1, c1, e1⟩ := r1.len
  obtain ⟨A2, c2, e2⟩ := r2.len
  obtain ⟨A3, c3, e3⟩ := r3.len
  obtain ⟨W3, g1, g2, g3, g4⟩ := storeVar_new (T := T0) (W := W2) (t := 35) (v := .agg ⟨[fv, nv, rv]⟩) (z := [.slice none 0 0, .slice none 0 0, .slice none 0 0]) inf35 (by rw [is35]; rfl) (by rw [is35]; rfl) (by rw [e1, e2, e3]; rfl)
  obtain ⟨pn, hpn⟩ : ∃ p, W2.next = p := ⟨_, rfl⟩
  rw [hpn] at g1 g4
  simp [opExtract, aExtract, zero35, hpn, g1]
  exact hR9 fv nv rv pn W3 ⟨hE2.trans g3, by simpa using g4, F, N, R, r1.ext g3, r2.ext g3, r3.ext g3, hPt⟩) ?_
 rintro fv nv rv p7 W5 ⟨hE5, hV7, F, N, R, r1, r2, r3, hF, hN, hR⟩
 have e35 := e34.trans hE5
 have a0 : ∀ W', Ext W5 W' -> aLoadVar T0 W' 31 p7 0 = some fv := fun W' hE => (hV7.ext hE).load1 (T := T0) und31 rfl (j := 0) (v := fv) rfl
 have a1 : ∀ W', Ext W5 W' -> aLoadVar T0 W' 31 p7 1 = some nv := fun W' hE => (hV7.ext hE).load1 (T := T0) und31 rfl (j := 1) (v := nv) rfl
 have a2 : ∀ W', Ext W5 W' -> aLoadVar T0 W' 31 p7 2 = some rv := fun W' hE => (hV7.ext hE).load1 (T := T0) und31 rfl (j := 2) (v := rv) rfl
 obtain ⟨lF, hlF⟩ : ∃ l, l = (membs n F).length := ⟨_, rfl⟩
 obtain ⟨lN, hlN⟩ : ∃ l, l = (membs n N).length := ⟨_, rfl⟩
 obtain ⟨lR, hlR⟩ : ∃ l, l = (membs n R).length := ⟨_, rfl⟩
 have lfv : ∀ W', aLen T0 W' 31 fv = some (.int .i64 (lF : Int)) := fun W' => by obtain ⟨A1, c1, e1⟩ := r1.len; rw [e1, membL_len, <- hlF]; exact len_slice und31 _ _ _
 have lnv : ∀ W', aLen T0 W' 31 nv = some (.int .i64 (lN : Int)) := fun W' => by obtain ⟨A1, c1, e1⟩ := r2.len; rw [e1, membL_len, <- hlN]; exact len_slice und31 _ _ _
 have lrv : ∀ W', aLen T0 W' 31 rv = some (.int .i64 (lR : Int)) := fun W' => by obtain ⟨A1, c1, e1⟩ := r3.len; rw [e1, membL_len, <- hlR]; exact len_slice und31 _ _ _
 have bf : ∀ {x y : Nat}, (x.testBit y = false) ↔ ¬ x.testBit y = true := fun {x y} => by cases x.testBit y <;> simp
 have hsum : lF + lN + lR = n := by
  rw [hlF, hlN, hlR]
  refine parts_cnt fun x hx => ?_
  simp only [bf, hF, hN, hR]
  by_cases d : D x
  ·exact .inl ⟨d, hG.dn.dis d, fun g => g.2.1 d⟩
  ·by_cases a : A x
   ·exact .inr (.inl ⟨d, a, fun g => g.2.2 a⟩)
   ·exact .inr (.inr ⟨d, a, hx, d, a⟩)
 obtain ⟨mo, hcn, hmo⟩ := great_mo hnn hgr hG
 have hmol := hmo.le
 have hpo := great_pairs hnn hG.mat
 have hll := mateL_len n s.mt
 have hbar := bar_A hnn hgr hG hN
 rw [hcn] at hbar
 have hIm := hI4.ext hE5
 have hpr : ∀ {kk : Int} {bb : Bool}, PairingIs (n : Int) xs (mateL n s.mt) kk bb -> kk = (mo : Int) /\ bb = true := fun {kk bb} hP1 => by
  rcases hP1 with ⟨e1, e2, e3, e4⟩ | ⟨e1, e2, e3⟩
  ·exact ⟨by rw [e4, hll, hcn], e1⟩
  ·exact absurd ⟨by rw [hll], by rw [hll]; exact hpo⟩ e3
 try simp only [zzA]
 refine wpK_x0 (fun R hR => by
   simp [g25, e35, opExtract, aExtract, aEnter, fun21, zzC, aCallV]; rw [zzD]
   refine ((isPairing_ok (gR e35) hxl hgr hIm (by omega)).mono (fun u W' hh => (⟨hh.1, let ⟨kk, bb, e1, e2⟩ := hh.2; by rw [e1, (hpr e2).1, (hpr e2).2]⟩ : Ext W5 W' /\ u = .tuple ⟨[.int .i64 (mo : Int), .bool true]⟩))).mono ?_
   rintro _ W6 ⟨hE6, rfl⟩
   simp [g25, e35, opExtract, aExtract]; exact hR W6 hE6) ?_
 rintro W6 hE6
 have e36 := e35.trans hE6
 refine wpK_keep (fun tm' => tm'.get 3 = some (.pointer (some ⟨p3, 0, none⟩)) /\ tm'.get 4 = some (.pointer (some ⟨p4, 0, none⟩)) /\ tm'.get 5 = some (mv) /\ tm'.get 6 = some (.int .i64 0) /\ tm'.get 7 = some (.pointer (some ⟨p7, 0, none⟩)) /\ tm'.get 8 = some (.int .i64 0) /\ tm'.get 9 = some (.int .i64 (mo : Int)) /\ tm'.get 10 = some (.bool true)) (by simp) ?_
 rintro tm ⟨h3, h4, h5, h6, h7, h8, h9, h10⟩
 obtain ⟨q, hq⟩ : ∃ q, q = lF + lN := ⟨_, rfl⟩
 have s1 : IntKind.i64.wrap ((lF : Int) + (lN : Int)) = (q : Int) := by rw [hq, show ((lF + lN : Nat) : Int) = (lF : Int) + (lN : Int) from by omega]; exact i64_in (by omega)
 have s2 : IntKind.i64.wrap ((q : Int) + (lR : Int)) = (n : Int) := by rw [show (q : Int) + (lR : Int) = (n : Int) from by omega]; exact i64_in (by omega)
 have r2b := r2.ext hE6
 try simp only [zzA]
 refine wpK_x0 (P := fun W' => Ext W6 W') (fun R9 hR9 => by
  simp [h4, h6, h7, h8, h9, h10, g25, e36, a1, hE6, undef, aEnter, fun22, zzC, aCallV]; rw [zzD]
  refine (isBarrier16_ok (gR e36) hxl hgr (by omega) r2b (by rw [membL_len]; have := membs_len n N; omega) (gT e36) (gN e36) (mo : Int)).mono ?_
  rintro _ Wb ⟨hEb, b4, rfl, hb4⟩
  obtain rfl : b4 = true := hb4.2 hbar
  simp [h3, h4, h6, h7, h8, h9, h10, a0, a1, a2, g3, hE6.trans hEb, e36.trans hEb, lfv, lnv, lrv, s1, s2, undef]
  exact hR9 Wb hEb) ?_
 rintro W7 hE7
 have e37 := e36.trans hE7
 have e57 := hE6.trans hE7
 try simp only [zzA]
 first | refine wpK_onF (by simp []) ?_ | refine wpK_out (by simp []) ?_ | refine zzF (by simp []) ?_ | refine zzB (by simp []) (wpK_skip ?_) | refine zzB (by simp []) ?_
 try simp only [zzA]
 refine wpK_reg (fun R hR => by simp []; exact hR) ?_
 refine wpK_keep (fun tm' => tm'.get 3 = some (.pointer (some ⟨p3, 0, none⟩)) /\ tm'.get 5 = some (mv) /\ tm'.get 7 = some (.pointer (some ⟨p7, 0, none⟩)) /\ tm'.get 11 = some (.int .i64 0)) (by simp [h3, h5, h7]) ?_
 rintro tm ⟨h3, h5, h7, h11⟩
 have hIm7 := hIm.ext e57
 have rF := r1.ext e57
 have rN := r2.ext e57
 have rR := r3.ext e57
 have a07 := a0 W7 e57
 have a17 := a1 W7 e57
 have a27 := a2 W7 e57
 have hnl : ∀ t, (membs n t).length < 100000 := fun t => by have := membs_len n t; omega
 have mAt : ∀ {y z : Nat}, y < n -> s.mt y = (z : Int) -> ∃ b p, aIndexAddr T0 31 mv (.int .i64 (y : Int)) = some (.pointer (some ⟨b, p, none⟩)) /\ aLoadVar T0 W7 3 b p = some (.int .i64 (z : Int)) := fun {y z} hy hz => by
  have e := gI_some (l := mateL n s.mt) (i := y) (by rw [hll]; exact hy)
  rw [mateL_at _ hy, hz] at e
  obtain ⟨b, p, x1, x2, _⟩ := int_at31 hIm7 e
  exact ⟨b, p, x1, x2⟩
 try simp only [zzA]
 refine wpK_while (I := fun q A' W' => A'.n = 170 /\ A'.defers = [] /\ A'.tmps.get 3 = some (.pointer (some ⟨p3, 0, none⟩)) /\ A'.tmps.get 5 = some (mv) /\ A'.tmps.get 7 = some (.pointer (some ⟨p7, 0, none⟩)) /\ W' = W7 /\ ∃ i : Nat, A'.tmps.get 11 = some (.int .i64 (i : Int)) /\ q = lN - i /\ i <= lN)
  (J := fun A' W' => A'.n = 170 /\ A'.defers = [] /\ A'.tmps.get 3 = some (.pointer (some ⟨p3, 0, none⟩)) /\ A'.tmps.get 5 = some (mv) /\ A'.tmps.get 7 = some (.pointer (some ⟨p7, 0, none⟩)) /\ W' = W7) (Rt := fun _ _ => False) (k := lN) ?_ ?_ ?_ ?_
 ·exact ⟨rfl, rfl, by simp [h3, h5, h7], by simp [h3, h5, h7], by simp [h3, h5, h7], rfl, 0, by simp [h11], rfl, by omega⟩
 ·rintro q ⟨tm, n, ds⟩ Wa ⟨hn, hd, h3, h5, h7, eW, i, h11, hq1, hil⟩ Q' hJ hRt hI
  simp only at hn hd h3 h5 h7
  subst hn; subst hd
  subst Wa
  simp only at h11
  by_cases hlt : i < lN
  case neg =>
   have hlt' : ¬ (i : Int) < lN := by omega
   try simp only [zzA]
   refine wpK_reg (fun R hR => by simp [h7, h11, a17, lnv, hlt']; exact hR) ?_
   try simp only [zzA]
   first | refine wpK_onF (by simp [hlt]) ?_ | refine wpK_out (by simp [hlt]) ?_ | refine zzF (by simp [hlt]) ?_ | refine zzB (by simp [hlt]) (wpK_skip ?_) | refine zzB (by simp [hlt]) ?_
   exact hJ _ _ ⟨rfl, rfl, by simp [h3, h5, h7], by simp [h3, h5, h7], by simp [h3, h5, h7], rfl⟩
  have hlt' : (i : Int) < lN := by omega
  try simp only [zzA]
  refine wpK_reg (fun R hR => by simp [h7, h11, a17, lnv, hlt']; exact hR) ?_
  try simp only [zzA]
  first | refine wpK_onT (by simp [hlt]) ?_ | refine wpK_outT (by simp [hlt]) ?_ | refine zzE (by simp [hlt]) ?_ | refine wpK_endT (by simp [hlt]) ?_
  obtain ⟨bx, px, x1, x2, _⟩ := int_at31 rN (nat_some (ps := membs n N) (i := i) (by omega))
  have hym := membs_mem.1 (pOf_mem (qs := membs n N) (i := i) (by omega))
  generalize pOf (membs n N) i = y at x2 hym
  obtain ⟨z, hz, hDz⟩ := hG.dn.mA ((hN y).1 hym.2)
  obtain ⟨bm, pm, m1, m2⟩ := mAt hym.1 hz
  have hh := refHas_wp (ps := membs n F) rF z (hnl F)
  rw [TS_membs.2 ⟨hG.dn.dlt hDz, (hF z).2 hDz⟩] at hh
  refine wpK_block ?_
  try simp only [zzA]
  refine wpK_reg (fun R hR => by simp [h5, h7, h11, a17, x1, x2, m1, m2]; exact hR) ?_
  try simp only [zzA]
  refine wpK_reg (fun R hR => by
    simp [h7, a07, aEnter, fun33, zzC, aCallV]; rw [zzD]
    refine (hh).mono ?_
    rintro _ W9 ⟨e9, rfl⟩; subst W9
    simp [h7, a07]; exact hR) ?_
  try simp only [zzA]
  first | refine wpK_onF (by simp []) ?_ | refine wpK_out (by simp []) ?_ | refine zzF (by simp []) ?_ | refine zzB (by simp []) (wpK_skip ?_) | refine zzB (by simp []) ?_
  simp only [zzH, zzG]
  try simp only [zzA]
  refine wpK_reg1 (fun R hR => by simp [h11]; exact hR) ?_
  exact hI (lN - (i + 1)) _ _ (by omega) ⟨rfl, rfl, by simp [h3, h5, h7], by simp [h3, h5, h7], by simp [h3, h5, h7], rfl, i + 1, by simp [i64_succ i (by have := membs_len n N; omega)], rfl, by omega⟩
 ·rintro A' W' hf; exact hf.elim
 rintro ⟨tm, n, ds⟩ Wz ⟨hn, hd, h3, h5, h7, eW⟩
 simp only at hn hd h3 h5 h7
 subst hn; subst hd
 subst Wz
 try simp only [zzA]
 refine wpK_reg (fun R hR => by simp []; exact hR) ?_
 refine wpK_keep (fun tm' => tm'.get 3 = some (.pointer (some ⟨p3, 0, none⟩)) /\ tm'.get 5 = some (mv) /\ tm'.get 7 = some (.pointer (some ⟨p7, 0, none⟩)) /\ tm'.get 13 = some (.int .i64 0)) (by simp [h3, h5, h7]) ?_
 rintro tm ⟨h3, h5, h7, h13⟩
 try simp only [zzA]
 refine wpK_while (I := fun q A' W' => A'.n = 170 /\ A'.defers = [] /\ A'.tmps.get 3 = some (.pointer (some ⟨p3, 0, none⟩)) /\ A'.tmps.get 5 = some (mv) /\ A'.tmps.get 7 = some (.pointer (some ⟨p7, 0, none⟩)) /\ W' = W7 /\ ∃ i : Nat, A'.tmps.get 13 = some (.int .i64 (i : Int)) /\ q = lR - i /\ i <= lR)
  (J := fun A' W' => A'.n = 170 /\ A'.defers = [] /\ A'.tmps.get 3 = some (.pointer (some ⟨p3, 0, none⟩)) /\ A'.tmps.get 5 = some (mv) /\ A'.tmps.get 7 = some (.pointer (some ⟨p7, 0, none⟩)) /\ W' = W7) (Rt := fun _ _ => False) (k := lR) ?_ ?_ ?_ ?_
 ·exact ⟨rfl, rfl, by simp [h3, h5, h7], by simp [h3, h5, h7], by simp [h3, h5, h7], rfl, 0, by simp [h13], rfl, by omega⟩
 ·rintro q ⟨tm, n, ds⟩ Wa ⟨hn, hd, h3, h5, h7, eW, i, h13, hq1, hil⟩ Q' hJ hRt hI
  simp only at hn hd h3 h5 h7
  subst hn; subst hd
  subst Wa
  simp only at h13
  by_cases hlt : i < lR
  case neg =>
   have hlt' : ¬ (i : Int) < lR := by omega
   try simp only [zzA]
   refine wpK_reg (fun R hR => by simp [h7, h13, a27, lrv, hlt']; exact hR) ?_
   try simp only [zzA]
   first | refine wpK_onF (by simp [hlt]) ?_ | refine wpK_out (by simp [hlt]) ?_ | refine zzF (by simp [hlt]) ?_ | refine zzB (by simp [hlt]) (wpK_skip ?_) | refine zzB (by simp [hlt]) ?_
   exact hJ _ _ ⟨rfl, rfl, by simp [h3, h5, h7], by simp [h3, h5, h7], by simp [h3, h5, h7], rfl⟩
  have hlt' : (i : Int) < lR := by omega
  try simp only [zzA]
  refine wpK_reg (fun R hR => by simp [h7, h13, a27, lrv, hlt']; exact hR) ?_
  try simp only [zzA]
  first | refine wpK_onT (by simp [hlt]) ?_ | refine wpK_outT (by simp [hlt]) ?_ | refine zzE (by simp [hlt]) ?_ | refine wpK_endT (by simp [hlt]) ?_
  obtain ⟨bx, px, x1, x2, _⟩ := int_at31 rR (nat_some (ps := membs n R) (i := i) (by omega))
  have hym := membs_mem.1 (pOf_mem (qs := membs n R) (i := i) (by omega))
  generalize pOf (membs n R) i = y at x2 hym
  obtain ⟨hyn, hyD, hyA⟩ := (hR y).1 hym.2
  obtain ⟨z, hz⟩ : ∃ z : Nat, s.mt y = (z : Int) := by
   rcases hG.mat.rng hyn with e | ⟨z, _, e⟩
   ·exact absurd (hG.all y hyn e) hyD
   ·exact ⟨z, e⟩
  have hzn := hG.mat.lt hyn hz
  obtain ⟨zD, zA⟩ := hG.dn.others hG.mat hyn hyD hyA hz
  obtain ⟨bm, pm, m1, m2⟩ := mAt hyn hz
  have hh := refHas_wp (ps := membs n R) rR z (hnl R)
  rw [TS_membs.2 ⟨hzn, (hR z).2 ⟨hzn, zD, zA⟩⟩] at hh
  refine wpK_block ?_
  try simp only [zzA]
  refine wpK_reg (fun R hR => by simp [h5, h7, h13, a27, x1, x2, m1, m2]; exact hR) ?_
  try simp only [zzA]
  refine wpK_reg (fun R hR => by
    simp [h7, a27, aEnter, fun33, zzC, aCallV]; rw [zzD]
    refine (hh).mono ?_
    rintro _ W9 ⟨e9, rfl⟩; subst W9
    simp [h7, a27]; exact hR) ?_
  try simp only [zzA]
  first | refine wpK_onF (by simp []) ?_ | refine wpK_out (by simp []) ?_ | refine zzF (by simp []) ?_ | refine zzB (by simp []) (wpK_skip ?_) | refine zzB (by simp []) ?_
  simp only [zzH, zzG]
  try simp only [zzA]
  refine wpK_reg1 (fun R hR => by simp [h13]; exact hR) ?_
  exact hI (lR - (i + 1)) _ _ (by omega) ⟨rfl, rfl, by simp [h3, h5, h7], by simp [h3, h5, h7], by simp [h3, h5, h7], rfl, i + 1, by simp [i64_succ i (by have := membs_len n R; omega)], rfl, by omega⟩
 ·rintro A' W' hf; exact hf.elim
 rintro ⟨tm, n, ds⟩ Wz ⟨hn, hd, h3, h5, h7, eW⟩
 simp only at hn hd h3 h5 h7
 subst hn; subst hd
 subst Wz
 try simp only [zzA]
 refine wpK_reg (fun R hR => by simp []; exact hR) ?_
 try simp only [zzA]
 refine wpK_reg (fun R hR => by simp []; exact hR) ?_
 obtain ⟨O, hOe⟩ : ∃ O, O = bitsOf (fun x => x < n /\ ¬ D x) 40 := ⟨_, rfl⟩
 have hO : ∀ x, O.testBit x = true ↔ x < n /\ ¬ D x := fun x => by
  rw [hOe, bitsOf_bit]
  exact ⟨fun h => h.2, fun h => ⟨by omega, h⟩⟩
 clear hOe
 refine wpK_keep (fun tm' => tm'.get 3 = some (.pointer (some ⟨p3, 0, none⟩)) /\ tm'.get 7 = some (.pointer (some ⟨p7, 0, none⟩)) /\ tm'.get 15 = some (.slice none 0 0) /\ tm'.get 16 = some (.int .i64 0)) (by simp [h3, h7]) ?_
 rintro tm ⟨h3, h7, h15, h16⟩
 try simp only [zzA]
 refine wpK_while (I := fun q A' W' => A'.n = 170 /\ A'.defers = [] /\ A'.tmps.get 3 = some (.pointer (some ⟨p3, 0, none⟩)) /\ A'.tmps.get 7 = some (.pointer (some ⟨p7, 0, none⟩)) /\ Ext W7 W' /\ ∃ (a : Nat) (ov : Value) (K : Nat -> Prop), A'.tmps.get 16 = some (.int .i64 (a : Int)) /\ A'.tmps.get 15 = some ov /\ q = n - a /\ a <= n /\ GrowsN W' ov (membs a O).length (natsV (membs a O)) 3 1 K /\ ∀ b, K b -> W7.next <= b)
  (J := fun A' W' => A'.n = 170 /\ A'.defers = [] /\ A'.tmps.get 3 = some (.pointer (some ⟨p3, 0, none⟩)) /\ A'.tmps.get 7 = some (.pointer (some ⟨p7, 0, none⟩)) /\ Ext W7 W' /\ ∃ (ov : Value), A'.tmps.get 15 = some ov /\ IntR W' ov ((membs n O).map Int.ofNat)) (Rt := fun _ _ => False) (k := n) ?_ ?_ ?_ ?_
 ·exact ⟨rfl, rfl, by simp [h3, h7], by simp [h3, h7], .refl _ _, 0, .slice none 0 0, fun _ => False, by simp [h16], by simp [h15], rfl, by omega, .nil _ _ _ _, fun b hb => hb.elim⟩
 ·rintro q ⟨tm, n, ds⟩ Wa ⟨hn, hd, h3, h7, hEa, a, ov, K, h16, h15, hq1, han, hgo, hK⟩ Q' hJ hRt hI
  simp only at hn hd h3 h7
  subst hn; subst hd
  simp only at h16 h15
  have e3a := e37.trans hEa
  have g3a := g3 Wa e3a
  have a0a := a0 Wa (e57.trans hEa)
  by_cases hlt : a < n
  case neg =>
   have hlt' : ¬ (a : Int) < n := by omega
   have e : a = n := by omega
   rw [e] at hgo
   try simp only [zzA]
   refine wpK_reg (fun R hR => by simp [h3, h16, g3a, hlt']; exact hR) ?_
   try simp only [zzA]
   first | refine wpK_onF (by simp [hlt]) ?_ | refine wpK_out (by simp [hlt]) ?_ | refine zzF (by simp [hlt]) ?_ | refine zzB (by simp [hlt]) (wpK_skip ?_) | refine zzB (by simp [hlt]) ?_
   exact hJ _ _ ⟨rfl, rfl, by simp [h3, h7], by simp [h3, h7], hEa, ov, by simp [h15], natsV_row hgo⟩
  have hlt' : (a : Int) < n := by omega
  try simp only [zzA]
  refine wpK_reg (fun R hR => by simp [h3, h16, g3a, hlt']; exact hR) ?_
  try simp only [zzA]
  first | refine wpK_onT (by simp [hlt]) ?_ | refine wpK_outT (by simp [hlt]) ?_ | refine zzE (by simp [hlt]) ?_ | refine wpK_endT (by simp [hlt]) ?_
  have hh := refHas_wp (ps := membs n F) (rF.ext hEa) a (hnl F)
  have hms := membs_succ a O
  refine wpK_block ?_
  cases hb : F.testBit a with
  | true =>
   rw [TS_membs.2 ⟨hlt, hb⟩] at hh
   have hOa : O.testBit a = false := by rw [bf, hO]; exact fun g => g.2 ((hF a).1 hb)
   rw [hOa, if_neg (by simp)] at hms
   try simp only [zzA]
   refine wpK_reg (fun R hR => by
     simp [h7, h16, a0a, aEnter, fun33, zzC, aCallV]; rw [zzD]
     refine (hh).mono ?_
     rintro _ W9 ⟨e9, rfl⟩; subst W9
     simp [h7, h16, a0a]; exact hR) ?_
   try simp only [zzA]
   first | refine wpK_onF (by simp []) ?_ | refine wpK_out (by simp []) ?_ | refine zzF (by simp []) ?_ | refine zzB (by simp []) (wpK_skip ?_) | refine zzB (by simp []) ?_
   simp only [zzH, zzG]
   try simp only [zzA]
   refine wpK_reg1 (fun R hR => by simp [h16]; exact hR) ?_
   exact hI (n - (a + 1)) _ _ (by omega) ⟨rfl, rfl, by simp [h3, h7], by simp [h3, h7], hEa, a + 1, ov, K, by simp [i64_succ a (by omega)], by simp [h15], rfl, by omega, by rw [hms]; exact hgo, hK⟩
  | false =>
   have hTf : (TS (membs n F)).testBit a = false := by rw [bf, TS_membs, hb]; simp
   rw [hTf] at hh
   have hOa : O.testBit a = true := (hO a).2 ⟨hlt, fun g => by have := (hF a).2 g; rw [hb] at this; cases this⟩
   rw [hOa, if_pos rfl] at hms
   obtain ⟨lv', Wd, k1, k2, k3, k4⟩ := grow_nat hgo (by have := membs_len a O; omega) a
   try simp only [zzA]
   refine wpK_reg (fun R hR => by
     simp [h7, h16, a0a, aEnter, fun33, zzC, aCallV]; rw [zzD]
     refine (hh).mono ?_
     rintro _ W9 ⟨e9, rfl⟩; subst W9
     simp [h7, h16, a0a]; exact hR) ?_
   try simp only [zzA]
   first | refine wpK_onT (by simp []) ?_ | refine wpK_outT (by simp []) ?_ | refine zzE (by simp []) ?_ | refine wpK_endT (by simp []) ?_
   try simp only [zzA]
   refine wpK_reg1 (fun R hR => by simp [h15, h16, bs31, k1]; exact hR) ?_
   simp only [zzH, zzG]
   try simp only [zzA]
   refine wpK_reg1 (fun R hR => by simp [h16]; exact hR) ?_
   have hna := hEa.1
   refine hI (n - (a + 1)) _ _ (by omega) ⟨rfl, rfl, by simp [h3, h7], by simp [h3, h7], ⟨by omega, fun b hb2 hk2 => ?_⟩, a + 1, lv', _, by simp [i64_succ a (by omega)], by simp, rfl, by omega, by rw [hms]; exact k3, fun b hb2 => ?_⟩
   ·rw [k4.2 b (by omega) (fun h => by have := hK b h; omega)]; exact hEa.2 b hb2 hk2
   ·rcases hb2 with h | h
    ·exact hK b h
    ·omega
 ·rintro A' W' hf; exact hf.elim
 rintro ⟨tm, n, ds⟩ W8 ⟨hn, hd, h3, h7, hE8, ov2, h15, hOv⟩
 simp only at hn hd h3 h7
 subst hn; subst hd
 simp only at h15
 have e38 := e37.trans hE8
 have g248 := g24 W8 e38
 have hSD : ∀ r, D r ↔ r < n /\ (TS (membs n O)).testBit r = false := fun r => by
  rw [bf, TS_membs, hO]
  constructor
  ·intro d; exact ⟨hG.dn.dlt d, fun g => g.2.2 d⟩
  ·rintro ⟨g1, g2⟩
   exact Classical.byContradiction fun d => g2 ⟨g1, g1, d⟩
 try simp only [zzA]
 refine wpK_x1 (fun R hR => by
   simp [h3, h15, g248, aEnter, fun34, zzC, aCallV]; rw [zzD]
   refine (falls2_wp (S := D) (gR e38) hxl rfl hn16 hOv (hnl O) hSD).mono ?_
   rintro u W9 ⟨hE9, qss, hPR, hql⟩
   simp [h3, h15, g248]; exact hR u W9 (And.intro hE9 (⟨qss, hPR, hql⟩ : ∃ qss : List (List Nat), PartsR W9 u xs D qss /\ qss.length <= n))) ?_
 rintro u W9 ⟨hE9, (⟨qss, hPR, hql⟩ : ∃ qss : List (List Nat), PartsR W9 u xs D qss /\ qss.length <= n)⟩
 have e39 := e38.trans hE9
 have lu := parts_len hPR
 obtain ⟨m, hm⟩ : ∃ m, m = qss.length := ⟨_, rfl⟩
 rw [<- hm] at lu
 try simp only [zzA]
 refine wpK_reg (fun R hR => by simp []; exact hR) ?_
 refine wpK_keep (fun tm' => tm'.get 3 = some (.pointer (some ⟨p3, 0, none⟩)) /\ tm'.get 17 = some (u) /\ tm'.get 18 = some (.int .i64 0)) (by simp [h3]) ?_
 rintro tm ⟨h3, h17, h18⟩
 try simp only [zzA]
 refine wpK_while (I := fun q A' W' => A'.n = 170 /\ A'.defers = [] /\ A'.tmps.get 3 = some (.pointer (some ⟨p3, 0, none⟩)) /\ A'.tmps.get 17 = some (u) /\ Ext W9 W' /\ ∃ (i : Nat), A'.tmps.get 18 = some (.int .i64 (i : Int)) /\ q = m - i /\ i <= m)
  (J := fun A' W' => A'.n = 170 /\ A'.defers = [] /\ A'.tmps.get 3 = some (.pointer (some ⟨p3, 0, none⟩)) /\ A'.tmps.get 17 = some (u) /\ Ext W9 W') (Rt := fun _ _ => False) (k := m) ?_ ?_ ?_ ?_
 ·exact ⟨rfl, rfl, by simp [h3, h17], by simp [h3, h17], .refl _ _, 0, by simp [h18], rfl, by omega⟩
 ·rintro q ⟨tm, n, ds⟩ Wa ⟨hn, hd, h3, h17, hEa, i, h18, hq1, him⟩ Q' hJ hRt hI
  simp only at hn hd h3 h17
  subst hn; subst hd
  simp only at h18
  by_cases hlt : i < m
  case neg =>
   have hlt' : ¬ (i : Int) < m := by omega
   try simp only [zzA]
   refine wpK_reg (fun R hR => by simp [h17, h18, lu, hlt']; exact hR) ?_
   try simp only [zzA]
   first | refine wpK_onF (by simp [hlt]) ?_ | refine wpK_out (by simp [hlt]) ?_ | refine zzF (by simp [hlt]) ?_ | refine zzB (by simp [hlt]) (wpK_skip ?_) | refine zzB (by simp [hlt]) ?_
   exact hJ _ _ ⟨rfl, rfl, by simp [h3, h17], by simp [h3, h17], hEa⟩
  have hlt' : (i : Int) < m := by omega
  try simp only [zzA]
  refine wpK_reg (fun R hR => by simp [h17, h18, lu, hlt']; exact hR) ?_
  try simp only [zzA]
  first | refine wpK_onT (by simp [hlt]) ?_ | refine wpK_outT (by simp [hlt]) ?_ | refine zzE (by simp [hlt]) ?_ | refine wpK_endT (by simp [hlt]) ?_
  obtain ⟨x, b, p, bq, ix, hx, hrow, hpt⟩ := parts_at hPR (i := i) (by omega)
  generalize qss.getD i [] = qs at hrow hpt
  obtain ⟨hnd, r, hDr, hrch⟩ := hpt
  have hqm : ∀ z, z ∈ qs ↔ Rch (AjE xs) D r z := fun z => by rw [<- TS_mem]; exact hrch z
  have hqn : qs.length <= n := by
   have := nodup_le (s := List.range n) hnd (fun z hz => List.mem_range.2 (hG.dn.dlt ((hqm z).1 hz).mem))
   rwa [List.length_range] at this
  have lx : ∀ W', aLen T0 W' 31 x = some (.int .i64 (qs.length : Int)) := fun W' => by
   obtain ⟨_, c, _, e, _⟩ := hrow
   rw [e]; exact len_slice und31 _ _ _
  have ldx : ∀ W', Ext W9 W' -> aLoadVar T0 W' 31 b p = some x := fun W' hE => load_of und31 rfl (hx.ext hE)
  refine wpK_block ?_
  try simp only [zzA]
  refine wpK_reg (fun R hR => by simp []; exact hR) ?_
  refine wpK_keep (fun tm' => tm'.get 3 = some (.pointer (some ⟨p3, 0, none⟩)) /\ tm'.get 17 = some (u) /\ tm'.get 18 = some (.int .i64 (i : Int)) /\ tm'.get 19 = some (.int .i64 0)) (by simp [h3, h17, h18]) ?_
  rintro tm ⟨h3, h17, h18, h19⟩
  try simp only [zzA]
  refine wpK_while1 (I := fun q2 A' W' => A'.n = 170 /\ A'.defers = [] /\ A'.tmps.get 3 = some (.pointer (some ⟨p3, 0, none⟩)) /\ A'.tmps.get 17 = some (u) /\ A'.tmps.get 18 = some (.int .i64 (i : Int)) /\ Ext W9 W' /\ ∃ (k : Nat), A'.tmps.get 19 = some (.int .i64 (k : Int)) /\ q2 = qs.length - k /\ k <= qs.length)
   (J := fun A' W' => A'.n = 170 /\ A'.defers = [] /\ A'.tmps.get 3 = some (.pointer (some ⟨p3, 0, none⟩)) /\ A'.tmps.get 17 = some (u) /\ A'.tmps.get 18 = some (.int .i64 (i : Int)) /\ Ext W9 W') (Rt := fun _ _ => False) (k := qs.length) ?_ ?_ ?_ ?_
  ·exact ⟨rfl, rfl, by simp [h3, h17, h18], by simp [h3, h17, h18], by simp [h3, h17, h18], hEa, 0, by simp [h19], rfl, by omega⟩
  ·clear h19
   rintro q2 ⟨tm, n, ds⟩ Wb ⟨hn, hd, h3, h17, h18, hEb, k, h19, hq2, hkl⟩ Q2 hJ2 hRt2 hI2
   simp only at hn hd h3 h17 h18
   subst hn; subst hd
   simp only at h19
   have ldb := ldx Wb hEb
   by_cases hkt : k < qs.length
   case neg =>
    have hkt' : ¬ (k : Int) < qs.length := by omega
    try simp only [zzA]
    refine wpK_reg (fun R hR => by simp [h17, h18, h19, ix, ldb, lx, hkt']; exact hR) ?_
    try simp only [zzA]
    first | refine wpK_onF (by simp [hkt]) ?_ | refine wpK_out (by simp [hkt]) ?_ | refine zzF (by simp [hkt]) ?_ | refine zzB (by simp [hkt]) (wpK_skip ?_) | refine zzB (by simp [hkt]) ?_
    exact hJ2 _ _ ⟨rfl, rfl, by simp [h3, h17, h18], by simp [h3, h17, h18], by simp [h3, h17, h18], hEb⟩
   have hkt' : (k : Int) < qs.length := by omega
   try simp only [zzA]
   refine wpK_reg (fun R hR => by simp [h17, h18, h19, ix, ldb, lx, hkt']; exact hR) ?_
   try simp only [zzA]
   first | refine wpK_onT (by simp [hkt]) ?_ | refine wpK_outT (by simp [hkt]) ?_ | refine zzE (by simp [hkt]) ?_ | refine wpK_endT (by simp [hkt]) ?_
   obtain ⟨hnd2, m2, hm2, hin⟩ := part_whole hnn hJi AjE.symm hG hnd hDr hqm hkt
   have hrb : RowAt Wb x qs bq := hrow.only hEb (fun x => x)
   obtain ⟨u1, gv, Wc, c1, c2, c3, c4⟩ := cut_first hrb hkt (by omega)
   have hrc : RowAt Wc x qs bq := hrb.only c3 (fun x => x)
   have ht40 : (qs.take k).length <= 40 := by rw [List.length_take]; omega
   obtain ⟨u2, gv', Wd, d1, d2, d3, d4⟩ := cut_rest hrc hkt (by omega) ht40 c4
   have ldc := ldx Wc (hEb.trans c3)
   have hcd : Ext Wb Wd := ⟨by have := c3.1; have := d4.1; omega, fun z hz _ => by rw [d4.2 z (by have := c3.1; omega) (by omega), c3.2 z hz (fun x => x)]⟩
   have hEd := hEb.trans hcd
   have e3d := e39.trans hEd
   have hdl : (qs.take k ++ qs.drop (k + 1)).length <= 16 := by rw [List.length_append, List.length_take, List.length_drop]; omega
   have g24d := g24 Wd e3d
   obtain ⟨k1, hk1⟩ : ∃ k1 : Nat, k1 = k + 1 := ⟨_, rfl⟩
   have w1 : IntKind.i64.wrap ((k : Int) + 1) = (k1 : Int) := by rw [hk1]; exact i64_succ k (by omega)
   have hrd := natsV_row d3
   have hww := whole_wp (gR e3d) hxl hgr hrd hdl (gT e3d) (gN e3d) hnd2 hm2 hin
   rw [<- hk1] at d1
   refine wpK_block ?_
   try simp only [zzA]
   refine wpK_reg (fun R hR => by simp []; exact hR) ?_
   try simp only [zzA]
   refine wpK_reg (fun R hR => by simp [h17, h18, h19, ix, ldb, opSlice, aOpt, c1, c2]; exact hR) ?_
   try simp only [zzA]
   refine wpK_reg (fun R hR => by simp [h17, h18, h19, ix, ldc, w1, opSlice, aOpt, d1, d2]; exact hR) ?_
   try simp only [zzA]
   refine wpK_x0 (fun R hR => by
     simp [h3, g24d, aEnter, fun53, zzC, aCallV]; rw [zzD]
     refine (hww).mono ?_
     rintro _ We ⟨hEe, rfl⟩
     simp [h3, g24d]; exact hR We hEe) ?_
   rintro We hEe
   try simp only [zzA]
   first | refine wpK_onF (by simp []) ?_ | refine wpK_out (by simp []) ?_ | refine zzF (by simp []) ?_ | refine zzB (by simp []) (wpK_skip ?_) | refine zzB (by simp []) ?_
   simp only [zzH, zzG]
   try simp only [zzA]
   refine wpK_reg1 (fun R hR => by simp [h19]; exact hR) ?_
   exact hI2 (qs.length - (k + 1)) _ _ (by omega) ⟨rfl, rfl, by simp [h3, h17, h18], by simp [h3, h17, h18], by simp [h3, h17, h18], hEd.trans hEe, k + 1, by simp [i64_succ k (by omega)], rfl, by omega⟩
  ·rintro A' W' hf; exact hf.elim
  rintro ⟨tm, n, ds⟩ Wb ⟨hn, hd, h3, h17, h18, hEb⟩
  simp only at hn hd h3 h17 h18
  subst hn; subst hd
  try simp only [zzH, zzG]
  try simp only [zzA]
  refine wpK_reg1 (fun R hR => by simp [h18]; exact hR) ?_
  exact hI (m - (i + 1)) _ _ (by omega) ⟨rfl, rfl, by simp [h3, h17], by simp [h3, h17], hEb, i + 1, by simp [i64_succ i (by omega)], rfl, by omega⟩
 ·rintro A' W' hf; exact hf.elim
 rintro ⟨tm, n, ds⟩ Wz ⟨hn, hd, h3, h17, hEz⟩
 simp only at hn hd h3 h17
 subst hn; subst hd
 have tz := gT (e39.trans hEz)
 try simp only [zzA]
 refine wpK_reg (fun R hR => by simp [short_awake, tz, aEnter, aCallV, fun16]; exact hR) ?_
 exact wpK_ret ⟨.inr rfl, rfl, [.bool true], by simp, rfl⟩
end Go.Proofs.YtdpnplanohgecaaDoor