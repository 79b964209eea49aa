import Derived.Test.YtkgfjfkgmpeobaaDoorFt1
import Derived.Test.YtkgfjfkgmpeobaaDoorEngVr
import Derived.KernelRfl
import Derived.Test.YtkgfjfkgmpeobaaDoorEngSm
import Derived.Test.YtkgfjfkgmpeobaaDoorEngBt
import Derived.Test.YtkgfjfkgmpeobaaDoorTie
import Derived.Test.YtkgfjfkgmpeobaaDoorCards
import Derived.SevenTiedAt
import Derived.Lib.SmallJoins
set_option linter.unusedSimpArgs false
set_option linter.unusedVariables false
set_option linter.unusedSectionVars false
open Go Go.Eng
namespace Go.Proofs.YtkgfjfkgmpeobaaDoor
theorem und2 : T0.und.get 2 = some (.int .i64) := by kernel_rfl
theorem und3 : T0.und.get 3 = some (.int .i64) := by kernel_rfl
theorem und4 : T0.und.get 4 = some .bool := by kernel_rfl
theorem und5 : T0.und.get 5 = some (.int .u8) := by kernel_rfl
theorem und22 : T0.und.get 22 = some (.slice 78) := by kernel_rfl
theorem und25 : T0.und.get 25 = some (.slice 109) := by kernel_rfl
theorem und29 : T0.und.get 29 = some (.slice 106) := by kernel_rfl
theorem und33 : T0.und.get 33 = some (.slice 108) := by kernel_rfl
theorem und39 : T0.und.get 39 = some (.int .i64) := by kernel_rfl
theorem und43 : T0.und.get 43 = some (.slice 2) := by kernel_rfl
theorem und46 : T0.und.get 46 = some (.slice 3) := by kernel_rfl
theorem und49 : T0.und.get 49 = some (.slice 46) := by kernel_rfl
theorem und76 : T0.und.get 76 = some (.int .u64) := by kernel_rfl
theorem und82 : T0.und.get 82 = some (.int .u64) := by kernel_rfl
theorem und111 : T0.und.get 111 = some (.pointer 31) := by kernel_rfl
theorem und115 : T0.und.get 115 = some (.int .u64) := by kernel_rfl
theorem sz3 : aSize T0 3 = some 1 := by kernel_rfl
theorem sz78 : aSize T0 78 = some 3 := by kernel_rfl
theorem field78 (b o f : Nat) (hf : f < 3) : aField T0 78 (.pointer (some ⟨b, o, none⟩)) f = some (.pointer (some ⟨b, o + f, none⟩)) := by
  match f, hf with
  | 0, _ => rfl
  | 1, _ => rfl
  | 2, _ => rfl
theorem und78 : T0.und.get 78 = some Tryd.t77.desc := by kernel_rfl
theorem agg78 : isAggD Tryd.t77.desc = true := by kernel_rfl
theorem inf78 : T0.info.get 78 = some Tryd.t78 := by kernel_rfl
theorem is78 : Tryd.t78.size = 3 := by kernel_rfl
theorem sz106 : aSize T0 106 = some 3 := by kernel_rfl
theorem field106 (b o f : Nat) (hf : f < 3) : aField T0 106 (.pointer (some ⟨b, o, none⟩)) f = some (.pointer (some ⟨b, o + f, none⟩)) := by
  match f, hf with
  | 0, _ => rfl
  | 1, _ => rfl
  | 2, _ => rfl
theorem und106 : T0.und.get 106 = some Tryd.t77.desc := by kernel_rfl
theorem agg106 : isAggD Tryd.t77.desc = true := by kernel_rfl
theorem inf106 : T0.info.get 106 = some Tryd.t106 := by kernel_rfl
theorem is106 : Tryd.t106.size = 3 := by kernel_rfl
theorem field109 (b o f : Nat) (hf : f < 3) : aField T0 109 (.pointer (some ⟨b, o, none⟩)) f = some (.pointer (some ⟨b, o + f, none⟩)) := by
  match f, hf with
  | 0, _ => rfl
  | 1, _ => rfl
  | 2, _ => rfl
theorem field108 (b o f : Nat) (hf : f < 3) : aField T0 108 (.pointer (some ⟨b, o, none⟩)) f = some (.pointer (some ⟨b, o + f, none⟩)) := by
  match f, hf with
  | 0, _ => rfl
  | 1, _ => rfl
  | 2, _ => rfl
theorem field24 (b o f : Nat) (hf : f < 2) : aField T0 24 (.pointer (some ⟨b, o, none⟩)) f = some (.pointer (some ⟨b, o + f, none⟩)) := by
  match f, hf with
  | 0, _ => rfl
  | 1, _ => rfl
theorem und24 : T0.und.get 24 = some Tryd.t23.desc := by kernel_rfl
theorem agg24 : isAggD Tryd.t23.desc = true := by kernel_rfl
theorem inf24 : T0.info.get 24 = some Tryd.t24 := by kernel_rfl
theorem is24 : Tryd.t24.size = 2 := by kernel_rfl
theorem field31 (b o f : Nat) (hf : f < 2) : aField T0 31 (.pointer (some ⟨b, o, none⟩)) f = some (.pointer (some ⟨b, o + f, none⟩)) := by
  match f, hf with
  | 0, _ => rfl
  | 1, _ => rfl
theorem und31 : T0.und.get 31 = some Tryd.t30.desc := by kernel_rfl
theorem agg31 : isAggD Tryd.t30.desc = true := by kernel_rfl
theorem inf31 : T0.info.get 31 = some Tryd.t31 := by kernel_rfl
theorem is31 : Tryd.t31.size = 2 := by kernel_rfl
theorem field27 (b o f : Nat) (hf : f < 2) : aField T0 27 (.pointer (some ⟨b, o, none⟩)) f = some (.pointer (some ⟨b, o + f, none⟩)) := by
  match f, hf with
  | 0, _ => rfl
  | 1, _ => rfl
theorem field35 (b o f : Nat) (hf : f < 2) : aField T0 35 (.pointer (some ⟨b, o, none⟩)) f = some (.pointer (some ⟨b, o + f, none⟩)) := by
  match f, hf with
  | 0, _ => rfl
  | 1, _ => rfl
theorem inf3 : T0.info.get 3 = some Tryd.t3 := by kernel_rfl
theorem is3 : Tryd.t3.size = 1 := by kernel_rfl
theorem inf46 : T0.info.get 46 = some Tryd.t46 := by kernel_rfl
theorem is46 : Tryd.t46.size = 1 := by kernel_rfl
theorem inf22 : T0.info.get 22 = some Tryd.t22 := by kernel_rfl
theorem is22 : Tryd.t22.size = 1 := by kernel_rfl
theorem inf29 : T0.info.get 29 = some Tryd.t29 := by kernel_rfl
theorem is29 : Tryd.t29.size = 1 := by kernel_rfl
theorem zero78 : aZero T0 78 = some (.agg ⟨[.int .i64 0, .int .i64 0, .int .i64 0]⟩) := by kernel_rfl
theorem z78 : Tryd.t78.zero = some (.agg ⟨[.int .i64 0, .int .i64 0, .int .i64 0]⟩) := by kernel_rfl
theorem zero106 : aZero T0 106 = some (.agg ⟨[.int .i64 0, .int .i64 0, .int .i64 0]⟩) := by kernel_rfl
theorem z106 : Tryd.t106.zero = some (.agg ⟨[.int .i64 0, .int .i64 0, .int .i64 0]⟩) := by kernel_rfl
theorem zero24 : aZero T0 24 = some (.agg ⟨[.int .i64 0, .slice none 0 0]⟩) := by kernel_rfl
theorem zero31 : aZero T0 31 = some (.agg ⟨[.int .i64 0, .slice none 0 0]⟩) := by kernel_rfl
theorem by78 : Tryd.t78.bytes = 24 := by kernel_rfl
theorem by106 : Tryd.t106.bytes = 24 := by kernel_rfl
theorem by3 : Tryd.t3.bytes = 8 := by kernel_rfl
theorem z3 : Tryd.t3.zero = some (.int .i64 0) := by kernel_rfl
theorem build24 (P : Int) : aBuild T0 24 [(0, .int .i64 P)] = some (.agg ⟨[.int .i64 P, .slice none 0 0]⟩) := by kernel_rfl
theorem build31 (P : Int) : aBuild T0 31 [(0, .int .i64 P)] = some (.agg ⟨[.int .i64 P, .slice none 0 0]⟩) := by kernel_rfl
theorem conv_3_82 (W : AW) (k : IntKind) (n : Int) : aConv T0 W 3 82 (.int k n) = some (.int .u64 (IntKind.u64.wrap n)) := by kernel_rfl
theorem conv_82_3 (W : AW) (k : IntKind) (n : Int) : aConv T0 W 82 3 (.int k n) = some (.int .i64 (IntKind.i64.wrap n)) := by kernel_rfl
theorem conv_2_76 (W : AW) (k : IntKind) (n : Int) : aConv T0 W 2 76 (.int k n) = some (.int .u64 (IntKind.u64.wrap n)) := by kernel_rfl
theorem conv_76_2 (W : AW) (k : IntKind) (n : Int) : aConv T0 W 76 2 (.int k n) = some (.int .i64 (IntKind.i64.wrap n)) := by kernel_rfl
theorem bs22 (W : AW) (x y z : Value) : aBuildSlice T0 W 22 1 [(0, .agg ⟨[x, y, z]⟩)] = some (.slice (some ⟨W.next, 0, none⟩) 1 2, W.newCells 78 [x, y, z]) := by kernel_rfl
theorem bs29 (W : AW) (x y z : Value) : aBuildSlice T0 W 29 1 [(0, .agg ⟨[x, y, z]⟩)] = some (.slice (some ⟨W.next, 0, none⟩) 1 2, W.newCells 106 [x, y, z]) := by kernel_rfl
theorem bs46 (W : AW) (n : Int) : aBuildSlice T0 W 46 1 [(0, .int .i64 n)] = some (.slice (some ⟨W.next, 0, none⟩) 1 2, W.newCells 3 [.int .i64 n]) := by kernel_rfl
theorem fun11 : T0.funcs.get 11 = some Tryd.f11 := by kernel_rfl
theorem fun12 : T0.funcs.get 12 = some Tryd.f12 := by kernel_rfl
theorem fun24 : T0.funcs.get 24 = some Tryd.f24 := by kernel_rfl
theorem fun30 : T0.funcs.get 30 = some Tryd.f30 := by kernel_rfl
theorem fun37 : T0.funcs.get 37 = some Tryd.f37 := by kernel_rfl
theorem fun51 : T0.funcs.get 51 = some Tryd.f51 := by kernel_rfl
theorem fun54 : T0.funcs.get 54 = some Tryd.f54 := by kernel_rfl
theorem fun62 : T0.funcs.get 62 = some Tryd.f62 := by kernel_rfl
theorem fun64 : T0.funcs.get 64 = some Tryd.f64 := by kernel_rfl
theorem fun65 : T0.funcs.get 65 = some Tryd.f65 := by kernel_rfl
theorem fun74 : T0.funcs.get 74 = some Tryd.f74 := by kernel_rfl
theorem fun102 : T0.funcs.get 102 = some Tryd.f102 := by kernel_rfl
theorem fun103 : T0.funcs.get 103 = some Tryd.f103 := by kernel_rfl
theorem meth111 : T0.meths.get 111 = some [("minikin/flow.size", 102), ("minikin/flow.step", 103)] := by kernel_rfl
end Go.Proofs.YtkgfjfkgmpeobaaDoor

open Go Go.Eng
namespace Go.Proofs.YtkgfjfkgmpeobaaDoor
attribute [local congr] undef_congr WpK.congr WpS.congr WpL.congr WpC.congr WpF.congr gotS.congr callS.congr nextS.congr wantS.congr condS.congr
attribute [local irreducible] WpK
attribute [local simp] WpDr_nil WpDr_cons atS_some dwantS_true dwantS_false kindS_light kindS_float kindS_heavy lightS_value floatS_some heavyS_value heavyS_skip heavyS_enter dcallS_some doneS_eq
  isLight isFloat isPlain dLook testBit_dec dChain dLights_nil dLights_skip dLights_one dLight_nil dLight_cons dFreshes_nil dFreshes_one oneF_none oneF_some dFresh_nil dFresh_cons oneL_some oneW_true oneW_false sameV_value dPut dMay valEq arrEq listEq List.getElem?_cons Tr.get_nil dEnd
attribute [local simp] WpS_nil WpS_cons isDefer undef_false wantS_true wantS_false nextS_value nextS_skip nextS_enter callS_some gotS_some aWanted aOp aEvalF aEval opMove opAssign opPick aVal flat flat1 AAct.put opBinOp opConvert opIndex Tr.get_set Tr.get_lay aBin aResults tupled
  aCall aVals aCallB blt_dec ble_dec beq_dec aBinI_add aBinI_sub aBinI_lss aBinI_leq aBinI_gtr aBinI_geq aBinI_eql aBinI_neq index_str len_str len_slice Nat.beq_refl und2 und3 und4 und5 und39 und76 und82 und115 und22 und29 und25 und33 und46 und43 und49 und111
  field78 field106 field24 field31 field27 field35 field108 field109 opBox opLoad opFieldAddr opIndexAddr acells aAddr opExtract aExtract opUnOp opAlloc opStore opMakeInterface opNilCheck opBuild aParts opBuildSlice aValW
set_option maxHeartbeats 4000000
@[simp] theorem aUn_not (b : Bool) : aUn .not (.bool b) = some (.bool (!b)) := by cases b <;> rfl
def two? (a b n : Int) : Bool := decide (0 ≤ a) && decide (a < n) && decide (0 ≤ b) && decide (b < n) && decide (a ≠ b)
theorem areTwo_wp (a b n : Int) (W : AW) : WpF T0 74 [.int .i64 a, .int .i64 b, .int .i64 n] W (fun v W' => W' = W ∧ v = .bool (two? a b n)) := by
  refine wpF fun74 rfl ?_
  try simp only [wpK_assoc]
  refine wpK_reg (fun R hR => by simp; exact hR) ?_
  by_cases h1 : 0 ≤ a
  · by_cases h2 : a < n
    · by_cases h3 : 0 ≤ b
      · by_cases h4 : b < n
        · try simp only [wpK_assoc]
          refine wpK_reg (fun R hR => by simp [h1, h2, h3, h4]; exact hR) ?_
          exact wpK_ret ⟨.inr rfl, rfl, [.bool (two? a b n)], by simp [two?, h1, h2, h3, h4], rfl, rfl⟩
        · try simp only [wpK_assoc]
          refine wpK_reg (fun R hR => by simp [h1, h2, h3, h4]; exact hR) ?_
          exact wpK_ret ⟨.inr rfl, rfl, [.bool (two? a b n)], by simp [two?, h1, h2, h3, h4], rfl, rfl⟩
      · try simp only [wpK_assoc]
        refine wpK_reg (fun R hR => by simp [h1, h2, h3]; exact hR) ?_
        exact wpK_ret ⟨.inr rfl, rfl, [.bool (two? a b n)], by simp [two?, h1, h2, h3], rfl, rfl⟩
    · try simp only [wpK_assoc]
      refine wpK_reg (fun R hR => by simp [h1, h2]; exact hR) ?_
      exact wpK_ret ⟨.inr rfl, rfl, [.bool (two? a b n)], by simp [two?, h1, h2], rfl, rfl⟩
  · try simp only [wpK_assoc]
    refine wpK_reg (fun R hR => by simp [h1]; exact hR) ?_
    exact wpK_ret ⟨.inr rfl, rfl, [.bool (two? a b n)], by simp [two?, h1], rfl, rfl⟩
theorem testBit_and1 (s p : Nat) : decide (((s >>> p &&& 1 : Nat) : Int) = 1) = s.testBit p := by
  rw [Nat.testBit, Bool.eq_iff_iff, Nat.and_comm]
  simp only [decide_eq_true_eq, bne_iff_ne, ne_eq]
  have : 1 &&& s >>> p = (s >>> p) % 2 := Nat.one_and_eq_mod_two _
  rw [this]; omega
theorem has_wp (s p : Nat) (hs : s < 18446744073709551616) (hp : p ≤ 64) (W : AW) : WpF T0 62 [.int .u64 s, .int .i64 p] W (fun v W' => W' = W ∧ v = .bool (s.testBit p)) := by
  refine wpF fun62 rfl ?_
  have h1 := aBinI_shr .u64 .i64 s p hp
  have hle : s >>> p < 18446744073709551616 := by rw [Nat.shiftRight_eq_div_pow]; exact Nat.lt_of_le_of_lt (Nat.div_le_self _ _) hs
  have h3 := testBit_and1 s p
  generalize s >>> p = q at h1 hle h3
  have h2 : aBinI .and .u64 (q : Int) .u64 1 = some (.int .u64 ((q &&& 1 : Nat) : Int)) := aBinI_and .u64 q 1 hle (by decide)
  generalize q &&& 1 = r at h2 h3
  try simp only [wpK_assoc]
  refine wpK_reg (fun R hR => by simp; exact hR) ?_
  try simp only [wpK_assoc]
  refine wpK_reg (fun R hR => by simp [h1, h2, h3]; exact hR) ?_
  exact wpK_ret ⟨.inr rfl, rfl, [.bool (s.testBit p)], by simp, rfl, rfl⟩
theorem one_wp (p : Nat) (hp : p < 64) (W : AW) : WpF T0 54 [.int .i64 p] W (fun v W' => W' = W ∧ v = .int .u64 ((1 <<< p : Nat) : Int)) := by
  refine wpF fun54 rfl ?_
  have h1 : aBinI .shl .u64 1 .i64 (p : Int) = some (.int .u64 ((1 <<< p : Nat) : Int)) := aBinI_shl .u64 .i64 1 p (by show p ≤ 64; omega) (by
    rw [Nat.one_mul]; show 2 ^ p < 2 ^ 64; exact Nat.pow_lt_pow_right (by omega) hp)
  generalize 1 <<< p = r at h1
  try simp only [wpK_assoc]
  refine wpK_reg (fun R hR => by simp; exact hR) ?_
  try simp only [wpK_assoc]
  refine wpK_reg (fun R hR => by simp [h1]; exact hR) ?_
  exact wpK_ret ⟨.inr rfl, rfl, [.int .u64 (r : Int)], by simp, rfl, rfl⟩
end Go.Proofs.YtkgfjfkgmpeobaaDoor

open Go Go.Eng
namespace Go.Proofs.YtkgfjfkgmpeobaaDoor
attribute [local congr] undef_congr WpK.congr WpS.congr WpL.congr WpC.congr WpF.congr gotS.congr callS.congr nextS.congr wantS.congr condS.congr
attribute [local irreducible] WpK
attribute [local simp] WpDr_nil WpDr_cons atS_some dwantS_true dwantS_false kindS_light kindS_float kindS_heavy lightS_value floatS_some heavyS_value heavyS_skip heavyS_enter dcallS_some doneS_eq
  isLight isFloat isPlain dLook testBit_dec dChain dLights_nil dLights_skip dLights_one dLight_nil dLight_cons dFreshes_nil dFreshes_one oneF_none oneF_some dFresh_nil dFresh_cons oneL_some oneW_true oneW_false sameV_value dPut dMay valEq arrEq listEq List.getElem?_cons Tr.get_nil dEnd
attribute [local simp] WpS_nil WpS_cons isDefer undef_false wantS_true wantS_false nextS_value nextS_skip nextS_enter callS_some gotS_some aWanted aOp aEvalF aEval opMove opAssign opPick aVal flat flat1 AAct.put opBinOp opConvert opIndex Tr.get_set Tr.get_lay aBin aResults tupled
  aCall aVals aCallB blt_dec ble_dec beq_dec aBinI_add aBinI_sub aBinI_lss aBinI_leq aBinI_gtr aBinI_geq aBinI_eql aBinI_neq index_str len_str len_slice Nat.beq_refl und2 und3 und4 und5 und39 und76 und82 und115 und22 und29 und25 und33 und46 und43 und49 und111
  field78 field106 field24 field31 field27 field35 field108 field109 opBox opLoad opFieldAddr opIndexAddr acells aAddr opExtract aExtract opUnOp opAlloc opStore opMakeInterface opNilCheck opBuild aParts opBuildSlice aValW
set_option maxHeartbeats 4000000
@[simp] theorem nilck (a : Addr) : nilChecked T0 (.pointer (some a)) = true := rfl
theorem load_of {W : AW} {t : TypeId} {d : TypeDesc} {b o : Nat} {v : Value} (hd : T0.und.get t = some d) (ha : isAggD d = false) (h : W.Has b o v) : aLoadVar T0 W t b o = some v := by
  rw [loadVar_cell hd ha]; exact h.2
def NetAt (W : AW) (b : Nat) (P : Int) (l : List Tri) : Prop := ∃ v, W.Has b 0 (.int .i64 P) ∧ W.Has b 1 v ∧ TriIn W v l
theorem NetAt.only {W W' : AW} {b : Nat} {P : Int} {l : List Tri} {K : Nat → Prop} (h : NetAt W b P l) (he : Only K W W') (hk : ∀ b, b < W.next → ¬ K b) : NetAt W' b P l := by
  obtain ⟨v, h1, h2, h3⟩ := h
  exact ⟨v, h1.only he (hk _ h1.1), h2.only he (hk _ h1.1), h3.only he hk⟩
theorem NetAt.ext {W W' : AW} {b : Nat} {P : Int} {l : List Tri} (h : NetAt W b P l) (he : Ext W W') : NetAt W' b P l := h.only he (fun _ _ x => x)
@[simp] theorem valEq_slice (A : Option Addr) (n c : Nat) : valEq (.slice A n c) (.slice A n c) = true := by
  cases A with
  | none => simp [valEq]
  | some a => obtain ⟨b, o, s⟩ := a; simp [valEq]
theorem size102_wp {W : AW} {b : Nat} {P : Int} {l : List Tri} (h : NetAt W b P l) : WpF T0 102 [.pointer (some ⟨b, 0, none⟩)] W (fun v W' => Ext W W' ∧ v = .tuple ⟨[.int .i64 P, .int .i64 l.length]⟩) := by
  obtain ⟨v, h1, h2, A, c, rfl, h3⟩ := h
  refine wpF fun102 rfl ?_
  have hl1 := load_of und3 rfl h1
  have hl2 := load_of und29 rfl h2
  try simp only [wpK_assoc]
  refine wpK_reg (fun R hR => by simp; exact hR) ?_
  try simp only [wpK_assoc]
  refine wpK_dr (wr := Tr.nil |>.set 4 0 |>.set 5 1 |>.set 6 2 |>.set 7 3 |>.set 8 4 |>.set 9 5 |>.set 10 6 |>.set 11 7 |>.set 12 8 |>.set 2 9 |>.set 3 10) (bits := Tr.nil.lay 0 [0, 1, 3, 7, 0, 16, 48, 112, 240, 15, 1023]) (ord := [0, 1, 2, 3, 4, 5, 6, 7, 8, 9, 10])
    (J := fun A W' => W' = W ∧ A.n = 13 ∧ A.defers = [] ∧ A.tmps.get 2 = some (.int .i64 P) ∧ A.tmps.get 3 = some (.int .i64 l.length))
    (by kernel_rfl) (by kernel_rfl) (by kernel_rfl) (fun G hG => ?_) ?_
  · simp [hl1, hl2, len_slice und29]
    apply hG
    exact ⟨rfl, rfl, rfl, by simp, by simp⟩
  rintro ⟨t, n, ds⟩ W' ⟨rfl, hn, hd, h2, h3⟩
  simp only at hn hd h2 h3
  subst hn; subst hd
  exact wpK_ret ⟨.inr rfl, rfl, [.int .i64 P, .int .i64 l.length], by simp [h2, h3], .refl _ _, rfl⟩
theorem step103_wp {W : AW} {b : Nat} {P : Int} {l : List Tri} (h : NetAt W b P l) {i : Nat} {a : Tri} (hi : l[i]? = some a) : WpF T0 103 [.pointer (some ⟨b, 0, none⟩), .int .i64 i] W (fun v W' => Ext W W' ∧ v = .tuple ⟨[.int .i64 a.1, .int .i64 a.2.1, .int .i64 a.2.2, .int .i64 0]⟩) := by
  obtain ⟨v, h1, h2, A, c, rfl, h3⟩ := h
  refine wpF fun103 rfl ?_
  have hlt : i < l.length := (List.getElem?_eq_some_iff.1 hi).1
  obtain ⟨b', o, rfl, q1, q2, q3⟩ := h3 i a hi
  have hl2 := load_of und29 rfl h2
  have hx := indexAddr_tri (T := T0) und29 sz106 (b := b') (o := o) (c := c) (k := .i64) hlt
  have hl3 := load3 (T := T0) und106 agg106 inf106 is106 q1 q2 q3
  obtain ⟨W1, s1, s2, s3, s4⟩ := storeVar_new (T := T0) (W := W) (t := 106) (v := .agg ⟨[.int .i64 a.1, .int .i64 a.2.1, .int .i64 a.2.2]⟩) (z := [.int .i64 0, .int .i64 0, .int .i64 0]) inf106 (by rw [is106]; rfl) (by rw [is106]; rfl) rfl
  have hf0 := s4.load1 (T := T0) und3 rfl (j := 0) (v := .int .i64 a.1) rfl
  have hf1 := s4.load1 (T := T0) und3 rfl (j := 1) (v := .int .i64 a.2.1) rfl
  have hf2 := s4.load1 (T := T0) und2 rfl (j := 2) (v := .int .i64 a.2.2) rfl
  try simp only [wpK_assoc]
  refine wpK_reg (fun R hR => by simp; exact hR) ?_
  try simp only [wpK_assoc]
  refine wpK_reg (fun R hR => by simp [hl2, hx, hl3, zero106, s1]; exact hR) ?_
  try simp only [wpK_assoc]
  refine wpK_dr (wr := Tr.nil |>.set 16 0 |>.set 17 1 |>.set 18 2 |>.set 19 3 |>.set 20 4 |>.set 21 5 |>.set 4 6 |>.set 5 7 |>.set 6 8 |>.set 7 9) (bits := Tr.nil.lay 0 [0, 1, 0, 4, 0, 16, 3, 79, 255, 511]) (ord := [0, 1, 2, 3, 4, 5, 6, 7, 8, 9])
    (J := fun A W' => W' = W1 ∧ A.n = 22 ∧ A.defers = [] ∧ A.tmps.get 4 = some (.int .i64 a.1) ∧ A.tmps.get 5 = some (.int .i64 a.2.1) ∧ A.tmps.get 6 = some (.int .i64 a.2.2) ∧ A.tmps.get 7 = some (.int .i64 0))
    (by kernel_rfl) (by kernel_rfl) (by kernel_rfl) (fun G hG => ?_) ?_
  · simp [hf0, hf1, hf2]
    apply hG
    exact ⟨rfl, rfl, rfl, by simp, by simp, by simp, by simp⟩
  rintro ⟨t, n, ds⟩ W' ⟨rfl, hn, hd, h4, h5, h6, h7⟩
  simp only at hn hd h4 h5 h6 h7
  subst hn; subst hd
  exact wpK_ret ⟨.inr rfl, rfl, [.int .i64 a.1, .int .i64 a.2.1, .int .i64 a.2.2, .int .i64 0], by simp [h4, h5, h6, h7], s3, rfl⟩
end Go.Proofs.YtkgfjfkgmpeobaaDoor

open Go Go.Eng
namespace Go.Proofs.YtkgfjfkgmpeobaaDoor
attribute [local congr] undef_congr WpK.congr WpS.congr WpL.congr WpC.congr WpF.congr gotS.congr callS.congr nextS.congr wantS.congr condS.congr
attribute [local irreducible] WpK
attribute [local simp] WpDr_nil WpDr_cons atS_some dwantS_true dwantS_false kindS_light kindS_float kindS_heavy lightS_value floatS_some heavyS_value heavyS_skip heavyS_enter dcallS_some doneS_eq
  isLight isFloat isPlain dLook testBit_dec dChain dLights_nil dLights_skip dLights_one dLight_nil dLight_cons dFreshes_nil dFreshes_one oneF_none oneF_some dFresh_nil dFresh_cons oneL_some oneW_true oneW_false sameV_value dPut dMay valEq arrEq listEq List.getElem?_cons Tr.get_nil dEnd
attribute [local simp] WpS_nil WpS_cons isDefer undef_false wantS_true wantS_false nextS_value nextS_skip nextS_enter callS_some gotS_some aWanted aOp aEvalF aEval opMove opAssign opPick aVal flat flat1 AAct.put opBinOp opConvert opIndex Tr.get_set Tr.get_lay aBin aResults tupled
  aCall aVals aCallB blt_dec ble_dec beq_dec aBinI_add aBinI_sub aBinI_lss aBinI_leq aBinI_gtr aBinI_geq aBinI_eql aBinI_neq index_str len_str len_slice Nat.beq_refl und2 und3 und4 und5 und39 und76 und82 und115 und22 und29 und25 und33 und46 und43 und49 und111
  field78 field106 field24 field31 field27 field35 field108 field109 opBox opLoad opFieldAddr opIndexAddr acells aAddr opExtract aExtract opUnOp opAlloc opStore opMakeInterface opNilCheck opBuild aParts opBuildSlice aValW
set_option maxHeartbeats 4000000
abbrev Quad := Int × Int × Int × Int
def tupQ (a : Quad) : Value := .tuple ⟨[.int .i64 a.1, .int .i64 a.2.1, .int .i64 a.2.2.1, .int .i64 a.2.2.2]⟩
structure PlanOf (W0 : AW) (t : TypeId) (r : Value) (fz fs : FuncId) (P : Int) (l : List Quad) : Prop where
  meth : T0.meths.get t = some [("minikin/flow.size", fz), ("minikin/flow.step", fs)]
  hfz : ∃ fn, T0.funcs.get fz = some fn
  hfs : ∃ fn, T0.funcs.get fs = some fn
  nz : fz ≠ 26
  ns : fs ≠ 26
  size : ∀ W, Ext W0 W → WpF T0 fz [r] W (fun v W' => Ext W W' ∧ v = .tuple ⟨[.int .i64 P, .int .i64 l.length]⟩)
  step : ∀ W, Ext W0 W → ∀ (i : Nat) a, l[i]? = some a → WpF T0 fs [r, .int .i64 i] W (fun v W' => Ext W W' ∧ v = tupQ a)
theorem PlanOf.ext {W0 W1 : AW} {t : TypeId} {r : Value} {fz fs : FuncId} {P : Int} {l : List Quad} (h : PlanOf W0 t r fz fs P l) (he : Ext W0 W1) : PlanOf W1 t r fz fs P l :=
  ⟨h.meth, h.hfz, h.hfs, h.nz, h.ns, fun W hW => h.size W (he.trans hW), fun W hW => h.step W (he.trans hW)⟩
def arcsQ (l : List Tri) : List Quad := l.map fun a => (a.1, a.2.1, a.2.2, 0)
def linksQ (l : List Tri) : List Quad := l.map fun a => (a.1, a.2.1, a.2.2, a.2.2)
theorem netPlan {W : AW} {b : Nat} {P : Int} {l : List Tri} (h : NetAt W b P l) : PlanOf W 111 (.pointer (some ⟨b, 0, none⟩)) 102 103 P (arcsQ l) where
  meth := meth111
  hfz := ⟨_, fun102⟩
  hfs := ⟨_, fun103⟩
  nz := by decide
  ns := by decide
  size := fun W' hW => by
    have := size102_wp (h.ext hW)
    simpa [arcsQ] using this
  step := fun W' hW i a ha => by
    simp only [arcsQ, List.getElem?_map, Option.map_eq_some_iff] at ha
    obtain ⟨x, hx, rfl⟩ := ha
    exact step103_wp (h.ext hW) hx
def okStep (P : Int) (a : Quad) : Bool := two? a.1 a.2.1 P && decide (0 ≤ a.2.2.1) && decide (a.2.2.1 ≤ 1000000000)
def planOk (P : Int) (l : List Quad) : Bool := decide (2 ≤ P) && decide (P ≤ 24) && decide (l.length ≤ 200) && l.all (okStep P)
def chk (P : Int) (l : List Quad) : Int := if planOk P l = true then 0 else 30
theorem check_wp {W : AW} {t : TypeId} {r : Value} {fz fs : FuncId} {P : Int} {l : List Quad} (h : PlanOf W t r fz fs P l) :
    WpF T0 51 [.iface t r] W (fun v W' => Ext W W' ∧ v = .int .i64 (chk P l)) := by
  obtain ⟨fnz, hfz⟩ := h.hfz
  obtain ⟨fns, hfs⟩ := h.hfs
  have hnz := h.nz
  have hns := h.ns
  refine wpF fun51 rfl ?_
  try simp only [wpK_assoc]
  refine wpK_reg (fun R hR => by simp; exact hR) ?_
  try simp only [wpK_assoc]
  refine wpK_regc (J := fun A W' => Ext W W' ∧ A.n = 51 ∧ A.defers = [] ∧ A.tmps.get 0 = some (.iface t r) ∧ A.tmps.get 3 = some (.int .i64 P) ∧ A.tmps.get 4 = some (.int .i64 l.length)) (fun R hR => ?_) ?_
  · simp [aCallI, h.meth, aMeth, hfz, short_other hnz]
    rw [callS_none]
    refine (h.size W (.refl _ _)).mono ?_
    rintro _ W' ⟨hE, rfl⟩
    simp
    apply hR
    exact ⟨hE, rfl, rfl, by simp, by simp, by simp⟩
  rintro ⟨tm, n, ds⟩ W1 ⟨hE1, hn, hd, h0, h3, h4⟩
  simp only at hn hd h0 h3 h4
  subst hn; subst hd
  have fin30 : ∀ (A : AAct) (W' : AW), Ext W W' → planOk P l = false → A.defers = [] → A.tmps.get 2 = some (.int .i64 30) → (AExit.ret = .normal ∨ AExit.ret = .ret) ∧ A.defers = [] ∧ ∃ l1, aResults T0 W' A.tmps Tryd.f51.results.toList = some l1 ∧ Ext W W' ∧ tupled l1 = .int .i64 (chk P l) := by
    intro A W' hE hbad hd h2
    exact ⟨.inr rfl, hd, [.int .i64 30], by simp [h2], hE, by simp [chk, hbad]⟩
  try simp only [wpK_assoc]
  by_cases hP2 : P < 2
  · try simp only [wpK_assoc]
    refine wpK_reg (fun R hR => by simp [h3, h4, hP2]; exact hR) ?_
    refine wpK_condT (by simp) ?_
    try simp only [wpK_assoc]
    refine wpK_reg (fun R hR => by simp; exact hR) ?_
    exact wpK_ret (fin30 _ _ hE1 (by simp [planOk]; omega) rfl (by simp))
  by_cases hP24 : 24 < P
  · try simp only [wpK_assoc]
    refine wpK_reg (fun R hR => by simp [h3, h4, hP2, hP24]; exact hR) ?_
    refine wpK_condT (by simp) ?_
    try simp only [wpK_assoc]
    refine wpK_reg (fun R hR => by simp; exact hR) ?_
    exact wpK_ret (fin30 _ _ hE1 (by simp [planOk]; omega) rfl (by simp))
  by_cases hl200 : (200 : Int) < (l.length : Int)
  · try simp only [wpK_assoc]
    refine wpK_reg (fun R hR => by simp [h3, h4, hP2, hP24, hl200]; exact hR) ?_
    refine wpK_condT (by simp) ?_
    try simp only [wpK_assoc]
    refine wpK_reg (fun R hR => by simp; exact hR) ?_
    exact wpK_ret (fin30 _ _ hE1 (by simp [planOk]; omega) rfl (by simp))
  try simp only [wpK_assoc]
  refine wpK_reg (fun R hR => by simp [h3, h4, hP2, hP24, hl200]; exact hR) ?_
  refine wpK_onF (by simp) ?_
  try simp only [wpK_assoc]
  refine wpK_reg (fun R hR => by simp [h4]; exact hR) ?_
  try simp only [wpK_assoc]
  refine wpK_while (I := fun k A W' => Ext W W' ∧ A.n = 51 ∧ A.defers = [] ∧ A.tmps.get 0 = some (.iface t r) ∧ A.tmps.get 3 = some (.int .i64 P) ∧ A.tmps.get 25 = some (.int .i64 l.length) ∧
      ∃ i : Nat, k = l.length - i ∧ i ≤ l.length ∧ A.tmps.get 26 = some (.int .i64 i) ∧ ∀ j a, j < i → l[j]? = some a → okStep P a = true)
    (J := fun A W' => Ext W W' ∧ A.n = 51 ∧ A.defers = [] ∧ l.all (okStep P) = true)
    (Rt := fun A W' => Ext W W' ∧ A.defers = [] ∧ A.tmps.get 2 = some (.int .i64 30) ∧ planOk P l = false) (k := l.length) ?_ ?_ ?_ ?_
  · exact ⟨hE1, rfl, rfl, by simp [h0], by simp [h3], by simp, 0, by simp, by simp, by simp, fun j a hj => by omega⟩
  · rintro k ⟨tm, n, ds⟩ W2 ⟨hE2, hn, hd, h0, h3, h25, i, hk, hi, h26, hgood⟩ Q' hJ hRt hI
    simp only at hn hd h0 h3 h25 h26
    subst hn; subst hd
    try simp only [wpK_assoc]
    refine wpK_reg (fun R hR => by simp [h25, h26]; exact hR) ?_
    by_cases hlt : i < l.length
    · refine wpK_onT (by simp [hlt]) ?_
      have ha : l[i]? = some l[i] := List.getElem?_eq_getElem hlt
      have hm : l[i] ∈ l := List.getElem_mem hlt
      generalize l[i] = a at ha hm
      refine wpK_block ?_
      try simp only [wpK_assoc]
      refine wpK_reg (fun R hR => by simp [h26]; exact hR) ?_
      try simp only [wpK_assoc]
      refine wpK_regc (J := fun A W' => Ext W W' ∧ A.n = 51 ∧ A.defers = [] ∧ A.tmps.get 0 = some (.iface t r) ∧ A.tmps.get 3 = some (.int .i64 P) ∧ A.tmps.get 25 = some (.int .i64 l.length) ∧ A.tmps.get 26 = some (.int .i64 i) ∧ A.tmps.get 6 = some (.int .i64 a.1) ∧ A.tmps.get 7 = some (.int .i64 a.2.1) ∧ A.tmps.get 8 = some (.int .i64 a.2.2.1)) (fun R hR => ?_) ?_
      · simp [h0, aCallI, h.meth, aMeth, hfs, short_other hns]
        rw [callS_none]
        refine (h.step W2 hE2 i a ha).mono ?_
        rintro _ W' ⟨hE, rfl⟩
        simp [tupQ]
        apply hR
        exact ⟨hE2.trans hE, rfl, rfl, by simp [h0], by simp [h3], by simp [h25], by simp [h26], by simp, by simp, by simp⟩
      rintro ⟨tm, n, ds⟩ W3 ⟨hE3, hn, hd, h0, h3, h25, h26, h6, h7, h8⟩
      simp only at hn hd h0 h3 h25 h26 h6 h7 h8
      subst hn; subst hd
      try simp only [wpK_assoc]
      refine wpK_regc (J := fun A W' => W' = W3 ∧ A.n = 51 ∧ A.defers = [] ∧ A.tmps.get 0 = some (.iface t r) ∧ A.tmps.get 3 = some (.int .i64 P) ∧ A.tmps.get 25 = some (.int .i64 l.length) ∧ A.tmps.get 26 = some (.int .i64 i) ∧ A.tmps.get 49 = some (.bool (!okStep P a))) (fun R hR => ?_) ?_
      · simp [h3, h6, h7, aEnter, fun74, short_other, aCallV]
        rw [callS_none]
        refine (areTwo_wp a.1 a.2.1 P W3).mono ?_
        rintro _ W' ⟨rfl, rfl⟩
        cases h2 : two? a.1 a.2.1 P with
        | false =>
          simp [h8, h2]
          apply hR
          exact ⟨rfl, rfl, rfl, by simp [h0], by simp [h3], by simp [h25], by simp [h26], by simp [okStep, h2]⟩
        | true =>
          by_cases hc : a.2.2.1 < 0
          · simp [h8, h2, hc]
            apply hR
            exact ⟨rfl, rfl, rfl, by simp [h0], by simp [h3], by simp [h25], by simp [h26], by simp [okStep, h2]; omega⟩
          · by_cases hc2 : 1000000000 < a.2.2.1
            · simp [h8, h2, hc, hc2]
              apply hR
              exact ⟨rfl, rfl, rfl, by simp [h0], by simp [h3], by simp [h25], by simp [h26], by simp [okStep, h2]; omega⟩
            · simp [h8, h2, hc, hc2]
              apply hR
              exact ⟨rfl, rfl, rfl, by simp [h0], by simp [h3], by simp [h25], by simp [h26], by simp [okStep, h2]; omega⟩
      rintro ⟨tm, n, ds⟩ W4 ⟨rfl, hn, hd, h0, h3, h25, h26, h49⟩
      simp only at hn hd h0 h3 h25 h26 h49
      subst hn; subst hd
      cases hok : okStep P a with
      | false =>
        refine wpK_endT (by simp [h49, hok]) ?_
        try simp only [wpK_assoc]
        refine wpK_reg (fun R hR => by simp; exact hR) ?_
        refine wpK_ret (hRt _ _ ⟨hE3, rfl, by simp, ?_⟩)
        have : l.all (okStep P) = false := by
          rw [List.all_eq_false]; exact ⟨a, hm, by simp [hok]⟩
        simp [planOk, this]
      | true =>
        refine wpK_endF (by simp [h49, hok]) (wpK_skip ?_)
        try simp only [wpK_assoc]
        refine wpK_reg1 (fun R hR => by simp [h26]; exact hR) ?_
        refine hI (k - 1) _ _ (by omega) ⟨hE3, rfl, rfl, by simp [h0], by simp [h3], by simp [h25], i + 1, by omega, by omega, by simp; exact i64_succ i (by omega), fun j d hj hd => ?_⟩
        by_cases hji : j = i
        · subst hji; rw [ha] at hd; cases hd; exact hok
        · exact hgood j d (by omega) hd
    · refine wpK_out (by simp [hlt]) (hJ _ _ ⟨hE2, rfl, rfl, ?_⟩)
      rw [List.all_eq_true]
      intro x hx
      obtain ⟨j, hj, rfl⟩ := List.getElem_of_mem hx
      exact hgood j l[j] (by omega) (List.getElem?_eq_getElem hj)
  · rintro A' W' ⟨hE, h1, h2, h3⟩
    exact ⟨.inr rfl, h1, [.int .i64 30], by simp [h2], hE, by simp [chk, h3]⟩
  · rintro ⟨tm, n, ds⟩ W' ⟨hE, hn, hd, hall⟩
    simp only at hn hd
    subst hn; subst hd
    try simp only [wpK_assoc]
    refine wpK_reg (fun R hR => by simp; exact hR) ?_
    refine wpK_ret ⟨.inr rfl, rfl, [.int .i64 0], by simp, hE, ?_⟩
    have : planOk P l = true := by simp only [planOk, hall, Bool.and_true]; simp; omega
    simp [chk, this]
end Go.Proofs.YtkgfjfkgmpeobaaDoor

open Go Go.Eng
namespace Go.Proofs.YtkgfjfkgmpeobaaDoor
attribute [local congr] undef_congr WpK.congr WpS.congr WpL.congr WpC.congr WpF.congr gotS.congr callS.congr nextS.congr wantS.congr condS.congr
attribute [local irreducible] WpK
attribute [local simp] WpDr_nil WpDr_cons atS_some dwantS_true dwantS_false kindS_light kindS_float kindS_heavy lightS_value floatS_some heavyS_value heavyS_skip heavyS_enter dcallS_some doneS_eq
  isLight isFloat isPlain dLook testBit_dec dChain dLights_nil dLights_skip dLights_one dLight_nil dLight_cons dFreshes_nil dFreshes_one oneF_none oneF_some dFresh_nil dFresh_cons oneL_some oneW_true oneW_false sameV_value dPut dMay valEq arrEq listEq List.getElem?_cons Tr.get_nil dEnd
attribute [local simp] WpS_nil WpS_cons isDefer undef_false wantS_true wantS_false nextS_value nextS_skip nextS_enter callS_some gotS_some aWanted aOp aEvalF aEval opMove opAssign opPick aVal flat flat1 AAct.put opBinOp opConvert opIndex Tr.get_set Tr.get_lay aBin aResults tupled
  aCall aVals aCallB blt_dec ble_dec beq_dec aBinI_add aBinI_sub aBinI_lss aBinI_leq aBinI_gtr aBinI_geq aBinI_eql aBinI_neq index_str len_str len_slice Nat.beq_refl und2 und3 und4 und5 und39 und76 und82 und115 und22 und29 und25 und33 und46 und43 und49 und111
  field78 field106 field24 field31 field27 field35 field108 field109 opBox opLoad opFieldAddr opIndexAddr acells aAddr opExtract aExtract opUnOp opAlloc opStore opMakeInterface opNilCheck opBuild aParts opBuildSlice aValW
set_option maxHeartbeats 4000000
def IntL (W : AW) (v : Value) (l : List Int) : Prop := ∃ A c, v = .slice A l.length c ∧ ∀ (i : Nat) x, l[i]? = some x → ∃ b o, A = some ⟨b, o, none⟩ ∧ W.Has b (o + i) (.int .i64 x)
theorem IntL.only {W W' : AW} {v : Value} {l : List Int} {K : Nat → Prop} (h : IntL W v l) (he : Only K W W') (hk : ∀ b, b < W.next → ¬ K b) : IntL W' v l := by
  obtain ⟨A, c, h1, h2⟩ := h
  refine ⟨A, c, h1, fun i a hi => ?_⟩
  obtain ⟨b, o, g1, g2⟩ := h2 i a hi
  exact ⟨b, o, g1, g2.only he (hk b g2.1)⟩
theorem IntL.ext {W W' : AW} {v : Value} {l : List Int} (h : IntL W v l) (he : Ext W W') : IntL W' v l := h.only he (fun _ _ x => x)
def intsV (l : List Int) : List Value := l.map (Value.int .i64)
theorem GrowsN.ints {W : AW} {v : Value} {l : List Int} {el : TypeId} {K : Nat → Prop} (h : GrowsN W v l.length (intsV l) el 1 K) : IntL W v l := by
  by_cases hl : l.length = 0
  · obtain ⟨a, c, rfl⟩ := h.len
    exact ⟨a, c, rfl, fun i x hx => by
      have := (List.getElem?_eq_some_iff.1 hx).1; omega⟩
  · obtain ⟨b, rfl, _, _, _, hh⟩ := h.has (by omega)
    refine ⟨_, _, rfl, fun i a hi => ⟨b, 0, rfl, ?_⟩⟩
    exact hh _ _ (by rw [Nat.zero_add, intsV, List.getElem?_map, hi]; rfl)
def prevAt (l : List Int) (i : Nat) : Int := if i = 0 then -1 else (l[i - 1]?).getD 0
def RiseOk (n : Int) (l : List Int) : Prop := ∀ (i : Nat) x, l[i]? = some x → x < n ∧ prevAt l i < x
def orAll (l : List Int) : Nat := l.foldl (fun s p => s ||| 1 <<< p.toNat) 0
theorem RiseOk.nonneg {n : Int} {l : List Int} (h : RiseOk n l) : ∀ (i : Nat) x, l[i]? = some x → 0 ≤ x
  | 0, x, hx => by have := (h 0 x hx).2; simp [prevAt] at this; omega
  | i + 1, x, hx => by
    have h1 := (h (i + 1) x hx).2
    have hlt := (List.getElem?_eq_some_iff.1 hx).1
    have hy : l[i]? = some l[i] := List.getElem?_eq_getElem (by omega)
    simp [prevAt, hy] at h1
    have := h.nonneg i _ hy
    omega
theorem orAll_take {l : List Int} {i : Nat} {x : Int} (h : l[i]? = some x) : orAll (l.take (i + 1)) = orAll (l.take i) ||| 1 <<< x.toNat := by
  have hlt := (List.getElem?_eq_some_iff.1 h).1
  rw [List.take_add_one, h, Option.toList_some, orAll, List.foldl_append]; rfl
theorem one_lt {p : Nat} (h : p < 64) : 1 <<< p < 18446744073709551616 := by
  rw [Nat.shiftLeft_eq, Nat.one_mul]; exact Nat.pow_lt_pow_right (a := 2) (by omega) h
theorem rising_wp {W : AW} {v : Value} {l : List Int} (h : IntL W v l) (n : Int) (hn : n ≤ 64) (hlen : l.length < 4611686018427387904) :
    WpF T0 64 [v, .int .i64 n] W (fun u W' => W' = W ∧ ((RiseOk n l ∧ u = .tuple ⟨[.int .u64 ((orAll l : Nat) : Int), .bool true]⟩ ∧ orAll l < 18446744073709551616) ∨ (¬ RiseOk n l ∧ u = .tuple ⟨[.int .u64 0, .bool false]⟩))) := by
  obtain ⟨A, c, rfl, hA⟩ := h
  refine wpF fun64 rfl ?_
  try simp only [wpK_assoc]
  refine wpK_reg (fun R hR => by simp; exact hR) ?_
  try simp only [wpK_assoc]
  refine wpK_reg (fun R hR => by simp; exact hR) ?_
  try simp only [wpK_assoc]
  refine wpK_reg (fun R hR => by simp [len_slice und46]; exact hR) ?_
  try simp only [wpK_assoc]
  refine wpK_while (I := fun k A' W' => W' = W ∧ A'.n = 31 ∧ A'.defers = [] ∧ A'.tmps.get 1 = some (.int .i64 n) ∧ A'.tmps.get 10 = some (.slice A l.length c) ∧ A'.tmps.get 11 = some (.int .i64 l.length) ∧
      ∃ i : Nat, k = l.length - i ∧ i ≤ l.length ∧ A'.tmps.get 12 = some (.int .i64 i) ∧ A'.tmps.get 6 = some (.int .u64 ((orAll (l.take i) : Nat) : Int)) ∧ orAll (l.take i) < 18446744073709551616 ∧ A'.tmps.get 7 = some (.int .i64 (prevAt l i)) ∧
        ∀ j x, j < i → l[j]? = some x → x < n ∧ prevAt l j < x)
    (J := fun A' W' => W' = W ∧ A'.n = 31 ∧ A'.defers = [] ∧ A'.tmps.get 6 = some (.int .u64 ((orAll l : Nat) : Int)) ∧ orAll l < 18446744073709551616 ∧ RiseOk n l)
    (Rt := fun A' W' => W' = W ∧ A'.defers = [] ∧ A'.tmps.get 4 = some (.int .u64 0) ∧ A'.tmps.get 5 = some (.bool false) ∧ ¬ RiseOk n l) (k := l.length) ?_ ?_ ?_ ?_
  · exact ⟨rfl, rfl, rfl, by simp, by simp, by simp, 0, by simp, by simp, by simp, by simp [orAll], by simp [orAll], by simp [prevAt], fun j x hj => by omega⟩
  · rintro k ⟨tm, m, ds⟩ W2 ⟨rfl, hm, hd, h1, h10, h11, i, hk, hi, h12, h6, h6l, h7, hgood⟩ Q' hJ hRt hI
    simp only at hm hd h1 h10 h11 h12 h6 h7
    subst hm; subst hd
    try simp only [wpK_assoc]
    refine wpK_reg (fun R hR => by simp [h11, h12]; exact hR) ?_
    by_cases hlt : i < l.length
    · refine wpK_onT (by simp [hlt]) ?_
      have ha : l[i]? = some l[i] := List.getElem?_eq_getElem hlt
      generalize l[i] = x at ha
      obtain ⟨b, o, rfl, hh⟩ := hA i x ha
      have hx := indexAddr_slice (T := T0) und46 sz3 (b := b) (o := o) (c := c) (k := .i64) hlt
      rw [Nat.mul_one] at hx
      have hl := load_of und3 rfl hh
      refine wpK_block ?_
      try simp only [wpK_assoc]
      refine wpK_reg (fun R hR => by simp [h10, h12, hx, hl]; exact hR) ?_
      try simp only [wpK_assoc]
      by_cases hle : x ≤ prevAt l i
      · try simp only [wpK_assoc]
        refine wpK_reg (fun R hR => by simp [h1, h7, hle]; exact hR) ?_
        refine wpK_condT (by simp) ?_
        try simp only [wpK_assoc]
        refine wpK_reg (fun R hR => by simp; exact hR) ?_
        exact wpK_ret (hRt _ _ ⟨rfl, rfl, by simp, by simp, fun hr => by have := (hr i x ha).2; omega⟩)
      · by_cases hge : n ≤ x
        · try simp only [wpK_assoc]
          refine wpK_reg (fun R hR => by simp [h1, h7, hle, hge]; exact hR) ?_
          refine wpK_condT (by simp) ?_
          try simp only [wpK_assoc]
          refine wpK_reg (fun R hR => by simp; exact hR) ?_
          exact wpK_ret (hRt _ _ ⟨rfl, rfl, by simp, by simp, fun hr => by have := (hr i x ha).1; omega⟩)
        · try simp only [wpK_assoc]
          refine wpK_reg (fun R hR => by simp [h1, h7, hle, hge]; exact hR) ?_
          refine wpK_onF (by simp) ?_
          have hnn : -1 ≤ prevAt l i := by
            unfold prevAt
            split
            · omega
            · rename_i hi0
              have hlt' : i - 1 < l.length := by omega
              have hy : l[i - 1]? = some l[i - 1] := List.getElem?_eq_getElem hlt'
              have hpre : RiseOk n (l.take i) := fun j z hz => by
                have hji : j < i := by
                  have := (List.getElem?_eq_some_iff.1 hz).1
                  rw [List.length_take] at this; omega
                rw [List.getElem?_take_of_lt hji] at hz
                have := hgood j z hji hz
                refine ⟨this.1, ?_⟩
                have e : prevAt (l.take i) j = prevAt l j := by
                  unfold prevAt
                  split
                  · rfl
                  · rw [List.getElem?_take_of_lt (by omega)]
                rw [e]; exact this.2
              have := hpre.nonneg (i - 1) l[i - 1] (by rw [List.getElem?_take_of_lt (by omega)]; exact hy)
              rw [hy]; simp; omega
          obtain ⟨p, rfl⟩ : ∃ p : Nat, x = p := ⟨x.toNat, by omega⟩
          have hp : p < 64 := by omega
          have hor := aBinI_or .u64 (orAll (l.take i)) (1 <<< p) h6l (one_lt hp)
          have hol : orAll (l.take i) ||| 1 <<< p < 18446744073709551616 := Nat.or_lt_two_pow (n := 64) h6l (one_lt hp)
          have hta : orAll (l.take (i + 1)) = orAll (l.take i) ||| 1 <<< p := orAll_take ha
          have h1p : WpF T0 54 [.int .i64 p] W2 (fun v W' => W' = W2 ∧ v = .int .u64 ((1 <<< p : Nat) : Int)) := one_wp p hp W2
          rw [← hta] at hor hol
          generalize 1 <<< p = q at hor h1p
          try simp only [wpK_assoc]
          refine wpK_regc1 (J := fun A' W' => W' = W2 ∧ A'.n = 31 ∧ A'.defers = [] ∧ A'.tmps.get 1 = some (.int .i64 n) ∧ A'.tmps.get 10 = some (.slice (some ⟨b, o, none⟩) l.length c) ∧ A'.tmps.get 11 = some (.int .i64 l.length) ∧ A'.tmps.get 12 = some (.int .i64 i) ∧ A'.tmps.get 6 = some (.int .u64 ((orAll (l.take (i + 1)) : Nat) : Int)) ∧ A'.tmps.get 7 = some (.int .i64 p)) (fun R hR => ?_) ?_
          · simp [h6, aEnter, fun54, short_other, aCallV]
            rw [callS_none]
            refine h1p.mono ?_
            rintro _ W' ⟨rfl, rfl⟩
            simp [hor]
            apply hR
            exact ⟨rfl, rfl, rfl, by simp [h1], by simp [h10], by simp [h11], by simp [h12], by simp, by simp⟩
          rintro ⟨tm, m, ds⟩ W3 ⟨rfl, hm, hd, h1, h10, h11, h12, h6, h7⟩
          simp only at hm hd h1 h10 h11 h12 h6 h7
          subst hm; subst hd
          try simp only [wpK_assoc]
          refine wpK_reg1 (fun R hR => by simp [h12]; exact hR) ?_
          refine hI (k - 1) _ _ (by omega) ⟨rfl, rfl, rfl, by simp [h1], by simp [h10], by simp [h11], i + 1, by omega, by omega, by simp; exact i64_succ i (by omega), by simp [h6], hol, by simp [h7, prevAt, ha], fun j d hj hd => ?_⟩
          by_cases hji : j = i
          · subst hji; rw [ha] at hd; cases hd; exact ⟨by omega, by omega⟩
          · exact hgood j d (by omega) hd
    · have e : i = l.length := by omega
      subst e
      rw [List.take_length] at h6 h6l
      refine wpK_out (by simp) (hJ _ _ ⟨rfl, rfl, rfl, by simp [h6], h6l, fun j x hx => ?_⟩)
      have := (List.getElem?_eq_some_iff.1 hx).1
      exact hgood j x this hx
  · rintro A' W' ⟨rfl, h1, h2, h3, h4⟩
    exact ⟨.inr rfl, h1, [.int .u64 0, .bool false], by simp [h2, h3], rfl, .inr ⟨h4, rfl⟩⟩
  · rintro ⟨tm, m, ds⟩ W' ⟨rfl, hm, hd, h6, h6l, hr⟩
    simp only at hm hd h6
    subst hm; subst hd
    try simp only [wpK_assoc]
    refine wpK_reg (fun R hR => by simp [h6]; exact hR) ?_
    exact wpK_ret ⟨.inr rfl, rfl, [.int .u64 ((orAll l : Nat) : Int), .bool true], by simp, rfl, .inl ⟨hr, rfl, h6l⟩⟩
end Go.Proofs.YtkgfjfkgmpeobaaDoor

open Go Go.Eng
namespace Go.Proofs.YtkgfjfkgmpeobaaDoor
attribute [local congr] undef_congr WpK.congr WpS.congr WpL.congr WpC.congr WpF.congr gotS.congr callS.congr nextS.congr wantS.congr condS.congr
attribute [local irreducible] WpK
attribute [local simp] WpDr_nil WpDr_cons atS_some dwantS_true dwantS_false kindS_light kindS_float kindS_heavy lightS_value floatS_some heavyS_value heavyS_skip heavyS_enter dcallS_some doneS_eq
  isLight isFloat isPlain dLook testBit_dec dChain dLights_nil dLights_skip dLights_one dLight_nil dLight_cons dFreshes_nil dFreshes_one oneF_none oneF_some dFresh_nil dFresh_cons oneL_some oneW_true oneW_false sameV_value dPut dMay valEq arrEq listEq List.getElem?_cons Tr.get_nil dEnd
attribute [local simp] WpS_nil WpS_cons isDefer undef_false wantS_true wantS_false nextS_value nextS_skip nextS_enter callS_some gotS_some aWanted aOp aEvalF aEval opMove opAssign opPick aVal flat flat1 AAct.put opBinOp opConvert opIndex Tr.get_set Tr.get_lay aBin aResults tupled
  aCall aVals aCallB blt_dec ble_dec beq_dec aBinI_add aBinI_sub aBinI_lss aBinI_leq aBinI_gtr aBinI_geq aBinI_eql aBinI_neq index_str len_str len_slice Nat.beq_refl und2 und3 und4 und5 und39 und76 und82 und115 und22 und29 und25 und33 und46 und43 und49 und111
  field78 field106 field24 field31 field27 field35 field108 field109 opBox opLoad opFieldAddr opIndexAddr acells aAddr opExtract aExtract opUnOp opAlloc opStore opMakeInterface opNilCheck opBuild aParts opBuildSlice aValW
set_option maxHeartbeats 4000000
def out1 (s : Nat) (a : Quad) : Int := (if s.testBit a.1.toNat && !s.testBit a.2.1.toNat then a.2.2.1 else 0) + (if s.testBit a.2.1.toNat && !s.testBit a.1.toNat then a.2.2.2 else 0)
def capQ (s : Nat) (l : List Quad) : Int := (l.map (out1 s)).sum
theorem capQ_take {s : Nat} {l : List Quad} {i : Nat} {a : Quad} (h : l[i]? = some a) : capQ s (l.take (i + 1)) = capQ s (l.take i) + out1 s a := by
  rw [List.take_add_one, h, Option.toList_some, capQ, List.map_append, List.sum_append]; simp [capQ]
structure PlanIn (P : Int) (l : List Quad) : Prop where
  ok : planOk P l = true
  back : ∀ a ∈ l, 0 ≤ a.2.2.2 ∧ a.2.2.2 ≤ 1000000000
theorem PlanIn.step {P : Int} {l : List Quad} (h : PlanIn P l) {a : Quad} (ha : a ∈ l) : 0 ≤ a.1 ∧ a.1 < P ∧ 0 ≤ a.2.1 ∧ a.2.1 < P ∧ a.1 ≠ a.2.1 ∧ 0 ≤ a.2.2.1 ∧ a.2.2.1 ≤ 1000000000 ∧ 0 ≤ a.2.2.2 ∧ a.2.2.2 ≤ 1000000000 := by
  have h1 := h.ok
  simp only [planOk, Bool.and_eq_true, List.all_eq_true] at h1
  have h2 := h1.2 a ha
  simp only [okStep, two?, Bool.and_eq_true, decide_eq_true_eq] at h2
  have h3 := h.back a ha
  omega
theorem PlanIn.size {P : Int} {l : List Quad} (h : PlanIn P l) : 2 ≤ P ∧ P ≤ 24 ∧ l.length ≤ 200 := by
  have h1 := h.ok
  simp only [planOk, Bool.and_eq_true, decide_eq_true_eq] at h1
  omega
theorem out1_le {P : Int} {l : List Quad} (h : PlanIn P l) (s : Nat) {a : Quad} (ha : a ∈ l) : 0 ≤ out1 s a ∧ out1 s a ≤ 1000000000 := by
  have := h.step ha
  unfold out1
  cases s.testBit a.1.toNat <;> cases s.testBit a.2.1.toNat <;> simp <;> omega
theorem capQ_le {P : Int} {l : List Quad} (h : PlanIn P l) (s : Nat) (i : Nat) (hi : i ≤ l.length) : 0 ≤ capQ s (l.take i) ∧ capQ s (l.take i) ≤ i * 1000000000 := by
  induction i with
  | zero => simp [capQ]
  | succ i ih =>
    have ha : l[i]? = some l[i] := List.getElem?_eq_getElem (by omega)
    rw [capQ_take ha]
    have := ih (by omega)
    have := out1_le h s (List.getElem_mem (show i < l.length from by omega))
    omega
theorem across_wp {W : AW} {t : TypeId} {r : Value} {fz fs : FuncId} {P : Int} {l : List Quad} (h : PlanOf W t r fz fs P l) (hP : PlanIn P l) (s : Nat) (hs : s < 18446744073709551616) :
    WpF T0 65 [.iface t r, .int .u64 s] W (fun v W' => Ext W W' ∧ v = .int .i64 (capQ s l)) := by
  obtain ⟨fnz, hfz⟩ := h.hfz
  obtain ⟨fns, hfs⟩ := h.hfs
  have hnz := h.nz
  have hns := h.ns
  obtain ⟨hP2, hP24, hl200⟩ := hP.size
  refine wpF fun65 rfl ?_
  try simp only [wpK_assoc]
  refine wpK_reg (fun R hR => by simp; exact hR) ?_
  try simp only [wpK_assoc]
  refine wpK_reg (fun R hR => by simp; exact hR) ?_
  try simp only [wpK_assoc]
  refine wpK_regc (J := fun A W' => Ext W W' ∧ A.n = 56 ∧ A.defers = [] ∧ A.tmps.get 0 = some (.iface t r) ∧ A.tmps.get 1 = some (.int .u64 s) ∧ A.tmps.get 5 = some (.int .i64 0) ∧ A.tmps.get 7 = some (.int .i64 l.length)) (fun R hR => ?_) ?_
  · simp [aCallI, h.meth, aMeth, hfz, short_other hnz]
    rw [callS_none]
    refine (h.size W (.refl _ _)).mono ?_
    rintro _ W' ⟨hE, rfl⟩
    simp
    apply hR
    exact ⟨hE, rfl, rfl, by simp, by simp, by simp, by simp⟩
  rintro ⟨tm, n, ds⟩ W1 ⟨hE1, hn, hd, h0, h1, h5, h7⟩
  simp only at hn hd h0 h1 h5 h7
  subst hn; subst hd
  try simp only [wpK_assoc]
  refine wpK_reg (fun R hR => by simp [h7]; exact hR) ?_
  try simp only [wpK_assoc]
  refine wpK_while (I := fun k A W' => Ext W W' ∧ A.n = 56 ∧ A.defers = [] ∧ A.tmps.get 0 = some (.iface t r) ∧ A.tmps.get 1 = some (.int .u64 s) ∧ A.tmps.get 18 = some (.int .i64 l.length) ∧
      ∃ i : Nat, k = l.length - i ∧ i ≤ l.length ∧ A.tmps.get 19 = some (.int .i64 i) ∧ A.tmps.get 5 = some (.int .i64 (capQ s (l.take i))))
    (J := fun A W' => Ext W W' ∧ A.n = 56 ∧ A.defers = [] ∧ A.tmps.get 5 = some (.int .i64 (capQ s l)))
    (Rt := fun _ _ => False) (k := l.length) ?_ ?_ ?_ ?_
  · exact ⟨hE1, rfl, rfl, by simp [h0], by simp [h1], by simp, 0, by simp, by simp, by simp, by simp [h5, capQ]⟩
  · rintro k ⟨tm, n, ds⟩ W2 ⟨hE2, hn, hd, h0, h1, h18, i, hk, hi, h19, h5⟩ Q' hJ hRt hI
    simp only at hn hd h0 h1 h18 h19 h5
    subst hn; subst hd
    try simp only [wpK_assoc]
    refine wpK_reg (fun R hR => by simp [h18, h19]; exact hR) ?_
    by_cases hlt : i < l.length
    · refine wpK_onT (by simp [hlt]) ?_
      have ha : l[i]? = some l[i] := List.getElem?_eq_getElem hlt
      have hm : l[i] ∈ l := List.getElem_mem hlt
      generalize l[i] = a at ha hm
      have hst := hP.step hm
      obtain ⟨p, q, c, d⟩ := a
      simp only at hst
      obtain ⟨p, rfl⟩ : ∃ p' : Nat, p = p' := ⟨p.toNat, by omega⟩
      obtain ⟨q, rfl⟩ : ∃ q' : Nat, q = q' := ⟨q.toNat, by omega⟩
      have hc := capQ_le hP s i hi
      have hnext := capQ_take (s := s) ha
      obtain ⟨bp, hbp⟩ : ∃ b, s.testBit p = b := ⟨_, rfl⟩
      obtain ⟨bq, hbq⟩ : ∃ b, s.testBit q = b := ⟨_, rfl⟩
      have hasp : ∀ W, WpF T0 62 [.int .u64 s, .int .i64 p] W (fun v W' => W' = W ∧ v = .bool bp) := fun W => hbp ▸ has_wp s p hs (by omega) W
      have hasq : ∀ W, WpF T0 62 [.int .u64 s, .int .i64 q] W (fun v W' => W' = W ∧ v = .bool bq) := fun W => hbq ▸ has_wp s q hs (by omega) W
      refine wpK_block ?_
      try simp only [wpK_assoc]
      refine wpK_reg (fun R hR => by simp [h19]; exact hR) ?_
      try simp only [wpK_assoc]
      refine wpK_regc (J := fun A W' => Ext W W' ∧ A.n = 56 ∧ A.defers = [] ∧ A.tmps.get 0 = some (.iface t r) ∧ A.tmps.get 1 = some (.int .u64 s) ∧ A.tmps.get 18 = some (.int .i64 l.length) ∧ A.tmps.get 19 = some (.int .i64 i) ∧ A.tmps.get 5 = some (.int .i64 (capQ s (l.take i))) ∧ A.tmps.get 9 = some (.int .i64 p) ∧ A.tmps.get 10 = some (.int .i64 q) ∧ A.tmps.get 11 = some (.int .i64 c) ∧ A.tmps.get 12 = some (.int .i64 d)) (fun R hR => ?_) ?_
      · simp [h0, aCallI, h.meth, aMeth, hfs, short_other hns]
        rw [callS_none]
        refine (h.step W2 hE2 i _ ha).mono ?_
        rintro _ W' ⟨hE, rfl⟩
        simp [tupQ]
        apply hR
        exact ⟨hE2.trans hE, rfl, rfl, by simp [h0], by simp [h1], by simp [h18], by simp [h19], by simp [h5], by simp, by simp, by simp, by simp⟩
      rintro ⟨tm, n, ds⟩ W3 ⟨hE3, hn, hd, h0, h1, h18, h19, h5, h9, h10, h11, h12⟩
      simp only at hn hd h0 h1 h18 h19 h5 h9 h10 h11 h12
      subst hn; subst hd
      try simp only [wpK_assoc]
      -- there
      try simp only [wpK_assoc]
      refine wpK_regc (J := fun A W' => W' = W3 ∧ A.n = 56 ∧ A.defers = [] ∧ A.tmps.get 0 = some (.iface t r) ∧ A.tmps.get 1 = some (.int .u64 s) ∧ A.tmps.get 18 = some (.int .i64 l.length) ∧ A.tmps.get 19 = some (.int .i64 i) ∧ A.tmps.get 5 = some (.int .i64 (capQ s (l.take i))) ∧ A.tmps.get 9 = some (.int .i64 p) ∧ A.tmps.get 10 = some (.int .i64 q) ∧ A.tmps.get 11 = some (.int .i64 c) ∧ A.tmps.get 12 = some (.int .i64 d) ∧ A.tmps.get 38 = some (.bool (bp && !bq))) (fun R hR => ?_) ?_
      · simp [h1, h9, aEnter, fun62, short_other, aCallV]
        rw [callS_none]
        refine (hasp W3).mono ?_
        rintro _ W' ⟨rfl, rfl⟩
        cases bp with
        | false =>
          simp
          apply hR
          exact ⟨rfl, rfl, rfl, by simp [h0], by simp [h1], by simp [h18], by simp [h19], by simp [h5], by simp [h9], by simp [h10], by simp [h11], by simp [h12], by simp⟩
        | true =>
          simp [h1, h10, aEnter, fun62, short_other, aCallV]
          rw [callS_none]
          refine (hasq W').mono ?_
          rintro _ W'' ⟨rfl, rfl⟩
          simp
          apply hR
          exact ⟨rfl, rfl, rfl, by simp [h0], by simp [h1], by simp [h18], by simp [h19], by simp [h5], by simp [h9], by simp [h10], by simp [h11], by simp [h12], by simp⟩
      rintro ⟨tm, n, ds⟩ W4 ⟨rfl, hn, hd, h0, h1, h18, h19, h5, h9, h10, h11, h12, h38⟩
      simp only at hn hd h0 h1 h18 h19 h5 h9 h10 h11 h12 h38
      subst hn; subst hd
      try simp only [wpK_assoc]
      obtain ⟨x, hx⟩ : ∃ x : Int, x = (if bp && !bq then c else 0) := ⟨_, rfl⟩
      have hxb : 0 ≤ x ∧ x ≤ 1000000000 := by rw [hx]; split <;> omega
      have hw1 : IntKind.i64.wrap (capQ s (l.take i) + c) = capQ s (l.take i) + c := IntWalk.i64_in _ (by omega)
      try simp only [wpK_assoc]
      refine wpK_cut (J := fun A W' => W' = W4 ∧ A.n = 56 ∧ A.defers = [] ∧ A.tmps.get 0 = some (.iface t r) ∧ A.tmps.get 1 = some (.int .u64 s) ∧ A.tmps.get 18 = some (.int .i64 l.length) ∧ A.tmps.get 19 = some (.int .i64 i) ∧ A.tmps.get 5 = some (.int .i64 (capQ s (l.take i) + x)) ∧ A.tmps.get 9 = some (.int .i64 p) ∧ A.tmps.get 10 = some (.int .i64 q) ∧ A.tmps.get 12 = some (.int .i64 d)) (fun Q2 hQ2 => ?_) ?_
      · cases hb : (bp && !bq) with
        | true =>
          rw [hb] at h38 hx
          refine wpK_endT (by simp [h38]) ?_
          try simp only [wpK_assoc]
          refine wpK_reg1 (fun R hR => by simp [h5, h11, hw1]; exact hR) ?_
          refine hQ2 _ _ ⟨rfl, rfl, rfl, by simp [h0], by simp [h1], by simp [h18], by simp [h19], by simp [hx], by simp [h9], by simp [h10], by simp [h12]⟩
        | false =>
          rw [hb] at h38 hx
          refine wpK_endF (by simp [h38]) (wpK_skip ?_)
          refine hQ2 _ _ ⟨rfl, rfl, rfl, by simp [h0], by simp [h1], by simp [h18], by simp [h19], by simp [h5, hx], by simp [h9], by simp [h10], by simp [h12]⟩
      rintro ⟨tm, n, ds⟩ W5 ⟨rfl, hn, hd, h0, h1, h18, h19, h5, h9, h10, h12⟩
      simp only at hn hd h0 h1 h18 h19 h5 h9 h10 h12
      subst hn; subst hd
      try simp only [wpK_assoc]
      -- back
      try simp only [wpK_assoc]
      refine wpK_regc (J := fun A W' => W' = W5 ∧ A.n = 56 ∧ A.defers = [] ∧ A.tmps.get 0 = some (.iface t r) ∧ A.tmps.get 1 = some (.int .u64 s) ∧ A.tmps.get 18 = some (.int .i64 l.length) ∧ A.tmps.get 19 = some (.int .i64 i) ∧ A.tmps.get 5 = some (.int .i64 (capQ s (l.take i) + x)) ∧ A.tmps.get 12 = some (.int .i64 d) ∧ A.tmps.get 50 = some (.bool (bq && !bp))) (fun R hR => ?_) ?_
      · simp [h1, h10, aEnter, fun62, short_other, aCallV]
        rw [callS_none]
        refine (hasq W5).mono ?_
        rintro _ W' ⟨rfl, rfl⟩
        cases bq with
        | false =>
          simp
          apply hR
          exact ⟨rfl, rfl, rfl, by simp [h0], by simp [h1], by simp [h18], by simp [h19], by simp [h5], by simp [h12], by simp⟩
        | true =>
          simp [h1, h9, aEnter, fun62, short_other, aCallV]
          rw [callS_none]
          refine (hasp W').mono ?_
          rintro _ W'' ⟨rfl, rfl⟩
          simp
          apply hR
          exact ⟨rfl, rfl, rfl, by simp [h0], by simp [h1], by simp [h18], by simp [h19], by simp [h5], by simp [h12], by simp⟩
      rintro ⟨tm, n, ds⟩ W6 ⟨rfl, hn, hd, h0, h1, h18, h19, h5, h12, h50⟩
      simp only at hn hd h0 h1 h18 h19 h5 h12 h50
      subst hn; subst hd
      try simp only [wpK_assoc]
      have hw2 : IntKind.i64.wrap (capQ s (l.take i) + x + d) = capQ s (l.take i) + x + d := IntWalk.i64_in _ (by omega)
      have hout : out1 s ((p : Int), (q : Int), c, d) = x + (if bq && !bp then d else 0) := by
        simp only [out1, Int.toNat_natCast, hx, hbp, hbq]
      cases hb : (bq && !bp) with
      | true =>
        rw [hb] at h50 hout
        refine wpK_endT (by simp [h50]) ?_
        try simp only [wpK_assoc]
        refine wpK_reg1 (fun R hR => by simp [h5, h12, hw2]; exact hR) ?_
        try simp only [wpK_assoc]
        refine wpK_reg1 (fun R hR => by simp [h19]; exact hR) ?_
        refine hI (k - 1) _ _ (by omega) ⟨hE3, rfl, rfl, by simp [h0], by simp [h1], by simp [h18], i + 1, by omega, by omega, by simp; exact i64_succ i (by omega), by simp; rw [hnext, hout]; simp; omega⟩
      | false =>
        rw [hb] at h50 hout
        refine wpK_endF (by simp [h50]) (wpK_skip ?_)
        try simp only [wpK_assoc]
        refine wpK_reg1 (fun R hR => by simp [h19]; exact hR) ?_
        refine hI (k - 1) _ _ (by omega) ⟨hE3, rfl, rfl, by simp [h0], by simp [h1], by simp [h18], i + 1, by omega, by omega, by simp; exact i64_succ i (by omega), by simp [h5]; rw [hnext, hout]; simp⟩
    · have e : i = l.length := by omega
      subst e
      rw [List.take_length] at h5
      exact wpK_out (by simp) (hJ _ _ ⟨hE2, rfl, rfl, by simp [h5]⟩)
  · rintro A' W' hf; exact hf.elim
  · rintro ⟨tm, n, ds⟩ W' ⟨hE, hn, hd, h5⟩
    simp only at hn hd h5
    subst hn; subst hd
    try simp only [wpK_assoc]
    refine wpK_reg (fun R hR => by simp [h5]; exact hR) ?_
    exact wpK_ret ⟨.inr rfl, rfl, [.int .i64 (capQ s l)], by simp, hE, rfl⟩
end Go.Proofs.YtkgfjfkgmpeobaaDoor

open Go Go.Eng
namespace Go.Proofs.YtkgfjfkgmpeobaaDoor
attribute [local congr] undef_congr WpK.congr WpS.congr WpL.congr WpC.congr WpF.congr gotS.congr callS.congr nextS.congr wantS.congr condS.congr
attribute [local irreducible] WpK
attribute [local simp] WpDr_nil WpDr_cons atS_some dwantS_true dwantS_false kindS_light kindS_float kindS_heavy lightS_value floatS_some heavyS_value heavyS_skip heavyS_enter dcallS_some doneS_eq
  isLight isFloat isPlain dLook testBit_dec dChain dLights_nil dLights_skip dLights_one dLight_nil dLight_cons dFreshes_nil dFreshes_one oneF_none oneF_some dFresh_nil dFresh_cons oneL_some oneW_true oneW_false sameV_value dPut dMay valEq arrEq listEq List.getElem?_cons Tr.get_nil dEnd
attribute [local simp] WpS_nil WpS_cons isDefer undef_false wantS_true wantS_false nextS_value nextS_skip nextS_enter callS_some gotS_some aWanted aOp aEvalF aEval opMove opAssign opPick aVal flat flat1 AAct.put opBinOp opConvert opIndex Tr.get_set Tr.get_lay aBin aResults tupled
  aCall aVals aCallB blt_dec ble_dec beq_dec aBinI_add aBinI_sub aBinI_lss aBinI_leq aBinI_gtr aBinI_geq aBinI_eql aBinI_neq index_str len_str len_slice Nat.beq_refl und2 und3 und4 und5 und39 und76 und82 und115 und22 und29 und25 und33 und46 und43 und49 und111
  field78 field106 field24 field31 field27 field35 field108 field109 opBox opLoad opFieldAddr opIndexAddr acells aAddr opExtract aExtract opUnOp opAlloc opStore opMakeInterface opNilCheck opBuild aParts opBuildSlice aValW
set_option maxHeartbeats 4000000
theorem netIn {W : AW} {v : Value} {P : Int} {l : List Tri} (h : TriIn W v l) : NetAt (W.newCells 31 [.int .i64 P, v]) W.next P l :=
  ⟨v, Has.newCells rfl, Has.newCells rfl, h.ext (.newCells _ _ _)⟩
theorem arcsQ_in {P : Int} {l : List Tri} (h : planOk P (arcsQ l) = true) : PlanIn P (arcsQ l) :=
  ⟨h, fun a ha => by simp only [arcsQ, List.mem_map] at ha; obtain ⟨x, _, rfl⟩ := ha; simp⟩
theorem capacity_wp {W : AW} {v sl : Value} {P : Int} {l : List Tri} {S : List Int} (h : TriIn W v l) (hS : IntL W sl S) (hlen : S.length < 4611686018427387904) :
    WpF T0 24 [.agg ⟨[.int .i64 P, v]⟩, sl] W (fun u W' => Ext W W' ∧
      ((planOk P (arcsQ l) = true ∧ RiseOk P S ∧ u = .tuple ⟨[.int .i64 (capQ (orAll S) (arcsQ l)), .int .i64 0]⟩) ∨
       (planOk P (arcsQ l) = true ∧ ¬ RiseOk P S ∧ u = .tuple ⟨[.int .i64 0, .int .i64 1]⟩) ∨
       (planOk P (arcsQ l) = false ∧ u = .tuple ⟨[.int .i64 0, .int .i64 30]⟩))) := by
  refine wpF fun24 rfl ?_
  have hN := netIn (P := P) h
  have hE1 : Ext W (W.newCells 31 [.int .i64 P, v]) := .newCells _ _ _
  have hV := (Var.new W 31 [.int .i64 P, v]).load1 (T := T0) und3 rfl (j := 0) (v := .int .i64 P) rfl
  have hV' := Var.new W 31 [.int .i64 P, v]
  have hS1 := hS.ext hE1
  generalize hW1 : W.newCells 31 [.int .i64 P, v] = W1 at hN hE1 hV hV' hS1
  have hpl := netPlan hN
  try simp only [wpK_assoc]
  refine wpK_reg (fun R hR => by simp [hW1]; exact hR) ?_
  try simp only [wpK_assoc]
  refine wpK_regc (J := fun A W' => Ext W1 W' ∧ A.n = 26 ∧ A.defers = [] ∧ A.tmps.get 1 = some sl ∧ A.tmps.get 2 = some (.pointer (some ⟨W.next, 0, none⟩)) ∧ A.tmps.get 6 = some (.int .i64 (chk P (arcsQ l)))) (fun R hR => ?_) ?_
  · simp [und111, aEnter, fun51, short_other, aCallV]
    rw [callS_none]
    refine (check_wp hpl).mono ?_
    rintro _ W' ⟨hE, rfl⟩
    simp
    apply hR
    exact ⟨hE, rfl, rfl, by simp, by simp, by simp⟩
  rintro ⟨tm, n, ds⟩ W2 ⟨hE2, hn, hd, h1, h2, h6⟩
  simp only at hn hd h1 h2 h6
  subst hn; subst hd
  try simp only [wpK_assoc]
  cases hok : planOk P (arcsQ l) with
  | false =>
    rw [chk, hok] at h6
    try simp only [wpK_assoc]
    refine wpK_reg (fun R hR => by simp [h6]; exact hR) ?_
    refine wpK_condT (by simp) ?_
    try simp only [wpK_assoc]
    refine wpK_reg (fun R hR => by simp [h6]; exact hR) ?_
    exact wpK_ret ⟨.inr rfl, rfl, [.int .i64 0, .int .i64 30], by simp, hE1.trans hE2, .inr (.inr ⟨by trivial, rfl⟩)⟩
  | true =>
    rw [chk, hok] at h6
    obtain ⟨hP2, hP24, _⟩ := (arcsQ_in hok).size
    have hV2 := (hV'.ext hE2).load1 (T := T0) und3 rfl (j := 0) (v := .int .i64 P) rfl
    try simp only [wpK_assoc]
    refine wpK_reg (fun R hR => by simp [h6]; exact hR) ?_
    refine wpK_onF (by simp) ?_
    try simp only [wpK_assoc]
    refine wpK_regc (J := fun A W' => W' = W2 ∧ A.n = 26 ∧ A.defers = [] ∧ A.tmps.get 2 = some (.pointer (some ⟨W.next, 0, none⟩)) ∧
      ((RiseOk P S ∧ A.tmps.get 7 = some (.int .u64 ((orAll S : Nat) : Int)) ∧ A.tmps.get 8 = some (.bool true) ∧ orAll S < 18446744073709551616) ∨ (¬ RiseOk P S ∧ A.tmps.get 8 = some (.bool false)))) (fun R hR => ?_) ?_
    · simp [h1, h2, hV2, aEnter, fun64, short_other, aCallV]
      rw [callS_none]
      refine (rising_wp (hS1.ext hE2) P (by omega) hlen).mono ?_
      rintro u W' ⟨rfl, ⟨hr, rfl, hl⟩ | ⟨hr, rfl⟩⟩
      · simp
        apply hR
        exact ⟨rfl, rfl, rfl, by simp [h2], .inl ⟨hr, by simp, by simp, hl⟩⟩
      · simp
        apply hR
        exact ⟨rfl, rfl, rfl, by simp [h2], .inr ⟨hr, by simp⟩⟩
    rintro ⟨tm, n, ds⟩ W3 ⟨rfl, hn, hd, h2, hcase⟩
    simp only at hn hd h2 hcase
    subst hn; subst hd
    try simp only [wpK_assoc]
    obtain ⟨hr, h7, h8, hl⟩ | ⟨hr, h8⟩ := hcase
    · try simp only [wpK_assoc]
      refine wpK_reg (fun R hR => by simp [h8]; exact hR) ?_
      refine wpK_onF (by simp) ?_
      try simp only [wpK_assoc]
      refine wpK_regc (J := fun A W' => Ext W3 W' ∧ A.n = 26 ∧ A.defers = [] ∧ A.tmps.get 4 = some (.int .i64 (capQ (orAll S) (arcsQ l))) ∧ A.tmps.get 5 = some (.int .i64 0)) (fun R hR => ?_) ?_
      · simp [h2, h7, und111, aEnter, fun65, short_other, aCallV]
        rw [callS_none]
        refine (across_wp (hpl.ext hE2) (arcsQ_in hok) (orAll S) hl).mono ?_
        rintro _ W' ⟨hE, rfl⟩
        simp
        apply hR
        exact ⟨hE, rfl, rfl, by simp, by simp⟩
      rintro ⟨tm, n, ds⟩ W4 ⟨hE4, hn, hd, h4, h5⟩
      simp only at hn hd h4 h5
      subst hn; subst hd
      exact wpK_ret ⟨.inr rfl, rfl, [.int .i64 (capQ (orAll S) (arcsQ l)), .int .i64 0], by simp [h4, h5], (hE1.trans hE2).trans hE4, .inl ⟨by trivial, hr, rfl⟩⟩
    · try simp only [wpK_assoc]
      refine wpK_reg (fun R hR => by simp [h8]; exact hR) ?_
      refine wpK_condT (by simp) ?_
      try simp only [wpK_assoc]
      refine wpK_reg (fun R hR => by simp; exact hR) ?_
      exact wpK_ret ⟨.inr rfl, rfl, [.int .i64 0, .int .i64 1], by simp, hE1.trans hE2, .inr (.inl ⟨by trivial, hr, rfl⟩)⟩
end Go.Proofs.YtkgfjfkgmpeobaaDoor

open Go Go.Eng
namespace Go.Proofs.YtkgfjfkgmpeobaaDoor
attribute [local congr] undef_congr WpK.congr WpS.congr WpL.congr WpC.congr WpF.congr gotS.congr callS.congr nextS.congr wantS.congr condS.congr
attribute [local irreducible] WpK
attribute [local simp] WpDr_nil WpDr_cons atS_some dwantS_true dwantS_false kindS_light kindS_float kindS_heavy lightS_value floatS_some heavyS_value heavyS_skip heavyS_enter dcallS_some doneS_eq
  isLight isFloat isPlain dLook testBit_dec dChain dLights_nil dLights_skip dLights_one dLight_nil dLight_cons dFreshes_nil dFreshes_one oneF_none oneF_some dFresh_nil dFresh_cons oneL_some oneW_true oneW_false sameV_value dPut dMay valEq arrEq listEq List.getElem?_cons Tr.get_nil dEnd
attribute [local simp] WpS_nil WpS_cons isDefer undef_false wantS_true wantS_false nextS_value nextS_skip nextS_enter callS_some gotS_some aWanted aOp aEvalF aEval opMove opAssign opPick aVal flat flat1 AAct.put opBinOp opConvert opIndex Tr.get_set Tr.get_lay aBin aResults tupled
  aCall aVals aCallB blt_dec ble_dec beq_dec aBinI_add aBinI_sub aBinI_lss aBinI_leq aBinI_gtr aBinI_geq aBinI_eql aBinI_neq index_str len_str len_slice Nat.beq_refl und2 und3 und4 und5 und39 und76 und82 und115 und22 und29 und25 und33 und46 und43 und49 und111
  field78 field106 field24 field31 field27 field35 field108 field109 opBox opLoad opFieldAddr opIndexAddr acells aAddr opExtract aExtract opUnOp opAlloc opStore opMakeInterface opNilCheck opBuild aParts opBuildSlice aValW
set_option maxHeartbeats 4000000
def memb (P s : Nat) : List Int := ((List.range P).filter (s.testBit ·)).map Int.ofNat
theorem memb_succ (P s : Nat) : memb (P + 1) s = memb P s ++ (if s.testBit P then [(P : Int)] else []) := by
  simp only [memb, List.range_succ, List.filter_append, List.map_append]
  cases h : s.testBit P <;> simp only [List.filter_cons, h, List.filter_nil] <;> rfl
theorem memb_len (P s : Nat) : (memb P s).length ≤ P := by
  simp only [memb, List.length_map]
  exact Nat.le_trans (List.length_filter_le _ _) (by simp)
theorem newCells_cellsAt (W : AW) (el : TypeId) (l : List Value) (n : Nat) (hn : l.length = n) : (W.newCells el l).cellsAt W.next 0 n = some l := by
  subst hn
  rw [(Var.new W el l).cellsAt 0 l.length (by omega)]; simp
theorem bit_rem (s i : Nat) : (((s >>> i : Nat) : Int).tmod 2 = 1) ↔ s.testBit i = true := by
  rw [show ((2 : Int)) = ((2 : Nat) : Int) from rfl, ← Int.ofNat_tmod, Nat.testBit, bne_iff_ne, Nat.one_and_eq_mod_two]
  omega
theorem members_wp (P s : Nat) (hP : P ≤ 24) (W : AW) : WpF T0 37 [.int .i64 P, .int .i64 s] W (fun v W' => Ext W W' ∧ GrowsN W' v (memb P s).length (intsV (memb P s)) 3 1 (fun b => W.next ≤ b)) := by
  refine wpF fun37 rfl ?_
  try simp only [wpK_assoc]
  refine wpK_reg (fun R hR => by simp; exact hR) ?_
  try simp only [wpK_assoc]
  refine wpK_reg (fun R hR => by simp; exact hR) ?_
  try simp only [wpK_assoc]
  refine wpK_reg (fun R hR => by simp; exact hR) ?_
  try simp only [wpK_assoc]
  refine wpK_while (I := fun k A W' => Ext W W' ∧ A.n = 23 ∧ A.defers = [] ∧ A.tmps.get 0 = some (.int .i64 P) ∧ A.tmps.get 1 = some (.int .i64 s) ∧
      ∃ (i : Nat) (v : Value), k = P - i ∧ i ≤ P ∧ A.tmps.get 6 = some (.int .i64 i) ∧ A.tmps.get 5 = some v ∧ GrowsN W' v (memb i s).length (intsV (memb i s)) 3 1 (fun b => W.next ≤ b))
    (J := fun A W' => Ext W W' ∧ A.n = 23 ∧ A.defers = [] ∧ ∃ v, A.tmps.get 5 = some v ∧ GrowsN W' v (memb P s).length (intsV (memb P s)) 3 1 (fun b => W.next ≤ b))
    (Rt := fun _ _ => False) (k := P) ?_ ?_ ?_ ?_
  · exact ⟨.refl _ _, rfl, rfl, by simp, by simp, 0, .slice none 0 0, by simp, by simp, by simp, by simp, .nil _ _ _ _⟩
  · rintro k ⟨tm, n, ds⟩ W2 ⟨hE2, hn, hd, h0, h1, i, v, hk, hi, h6, h5, hG⟩ Q' hJ hRt hI
    simp only at hn hd h0 h1 h6 h5
    subst hn; subst hd
    try simp only [wpK_assoc]
    refine wpK_reg (fun R hR => by simp [h0, h6]; exact hR) ?_
    by_cases hlt : i < P
    · refine wpK_onT (by simp [hlt]) ?_
      have hsh := aBinI_shr .i64 .u64 s i (by show i ≤ 64; omega)
      have hrm := aBinI_rem .i64 ((s >>> i : Nat) : Int) 2 (by omega)
      have hbit := bit_rem s i
      have hms := memb_succ i s
      have hw : IntKind.u64.wrap (i : Int) = i := IntWalk.u64_in _ (by omega)
      generalize s >>> i = q at hsh hrm hbit
      generalize ((q : Int)).tmod 2 = z at hrm hbit
      refine wpK_block ?_
      cases hb : s.testBit i with
      | true =>
        rw [hb] at hbit hms
        obtain rfl : z = 1 := hbit.2 rfl
        try simp only [wpK_assoc]
        refine wpK_reg (fun R hR => by simp [h1, h6, conv_3_82, hw, hsh, hrm]; exact hR) ?_
        refine wpK_endT (by simp) ?_
        have hEn : Ext W2 (W2.newCells 3 [.int .i64 i]) := .newCells _ _ _
        have hx : (W2.newCells 3 [.int .i64 i]).cellsAt W2.next 0 1 = some [.int .i64 i] := newCells_cellsAt W2 3 [.int .i64 i] 1 rfl
        have hml := memb_len i s
        obtain ⟨v', W4, a1, a2, a3, a4⟩ := append_growsN (T := T0) (t := 46) (i := Tryd.t3) (z := .int .i64 0) (sz := 1) (by omega) und46 inf3 is3 z3 rfl (hG.only (K' := fun _ => False) hEn (fun _ _ _ x => x)) (u := [.int .i64 i]) (c := 2) rfl hx rfl (by rw [by3]; omega) (by omega)
        have hE4 : Ext W W4 := ⟨by rw [a2, newCells_next]; have := hE2.1; omega, fun b hb hk => by rw [a4.2 b (by rw [newCells_next]; have := hE2.1; omega) (by omega), hEn.2 b (by have := hE2.1; omega) (fun x => x)]; exact hE2.2 b hb hk⟩
        try simp only [wpK_assoc]
        refine wpK_reg1 (fun R hR => by simp [h5, h6, bs46, a1]; exact hR) ?_
        try simp only [wpK_assoc]
        refine wpK_reg1 (fun R hR => by simp [h6]; exact hR) ?_
        refine hI (k - 1) _ _ (by omega) ⟨hE4, rfl, rfl, by simp [h0], by simp [h1], i + 1, v', by omega, by omega, by simp; exact i64_succ i (by omega), by simp, ?_⟩
        rw [hms]
        simp only [if_true, List.length_append, List.length_singleton, intsV, List.map_append, List.map_cons, List.map_nil]
        refine a3.mono (fun b hb => hb.elim (fun x => x) (fun e => by rw [newCells_next] at e; have := hE2.1; omega))
      | false =>
        rw [hb] at hbit hms
        have hz : z ≠ 1 := fun e => by have := hbit.1 e; cases this
        try simp only [wpK_assoc]
        refine wpK_reg (fun R hR => by simp [h1, h6, conv_3_82, hw, hsh, hrm]; exact hR) ?_
        refine wpK_endF (by simp [hz]) (wpK_skip ?_)
        try simp only [wpK_assoc]
        refine wpK_reg1 (fun R hR => by simp [h6]; exact hR) ?_
        refine hI (k - 1) _ _ (by omega) ⟨hE2, rfl, rfl, by simp [h0], by simp [h1], i + 1, v, by omega, by omega, by simp; exact i64_succ i (by omega), by simp [h5], ?_⟩
        rw [hms]; simpa using hG
    · have e : i = P := by omega
      subst e
      exact wpK_out (by simp) (hJ _ _ ⟨hE2, rfl, rfl, v, by simp [h5], hG⟩)
  · rintro A' W' hf; exact hf.elim
  · rintro ⟨tm, n, ds⟩ W' ⟨hE, hn, hd, v, h5, hG⟩
    simp only at hn hd h5
    subst hn; subst hd
    try simp only [wpK_assoc]
    refine wpK_reg (fun R hR => by simp [h5]; exact hR) ?_
    exact wpK_ret ⟨.inr rfl, rfl, [v], by simp, hE, hG⟩
theorem oneCells_tri (a : Tri) : oneCells (cells3 a) = true := rfl
theorem net_wp {W : AW} {v : Value} {P : Int} {l : List Tri} (h : TriIn W v l) (hlen : l.length ≤ 1000) :
    WpF T0 12 [.agg ⟨[.int .i64 P, v]⟩] W (fun u W' => Ext W W' ∧ ∃ v', u = .agg ⟨[.int .i64 P, v']⟩ ∧ GrowsN W' v' l.length (flat3 l) 106 3 (fun b => W.next ≤ b)) := by
  obtain ⟨A, c, rfl, hA⟩ := h
  refine wpF fun12 rfl ?_
  obtain ⟨W1, hW1, hE1, hn1, hV0, hV1⟩ : ∃ W1, W1 = (W.newCells 24 [.int .i64 P, .slice A l.length c]).newCells 31 [.int .i64 0, .slice none 0 0] ∧ Ext W W1 ∧ W1.next = W.next + 2 ∧ Var W1 W.next 24 [.int .i64 P, .slice A l.length c] ∧ Var W1 (W.next + 1) 31 [.int .i64 0, .slice none 0 0] :=
    ⟨_, rfl, (Only.newCells _ _ _).trans (Only.newCells _ _ _), rfl, (Var.new _ _ _).ext (.newCells _ _ _), Var.new _ _ _⟩
  obtain ⟨W2, s1, s2, hE2, hV2⟩ := storeVar_new (T := T0) (W := W1) (t := 31) (v := .agg ⟨[.int .i64 P, .slice none 0 0]⟩) (z := [.int .i64 0, .slice none 0 0]) inf31 (by rw [is31]; rfl) (by rw [is31]; rfl) rfl
  have hl0 := hV0.load1 (T := T0) und3 rfl (j := 0) (v := .int .i64 P) rfl
  try simp only [wpK_assoc]
  refine wpK_reg (fun R hR => by simp [zero31, newCells_next]; rw [← hW1]; exact hR) ?_
  try simp only [wpK_assoc]
  refine wpK_reg (fun R hR => by simp [hl0, build31, zero31, s1]; exact hR) ?_
  try simp only [wpK_assoc]
  refine wpK_reg (fun R hR => by simp; exact hR) ?_
  have hV02 := hV0.ext hE2
  have hV12 := hV1.ext hE2
  rw [hn1] at hV2
  try simp only [wpK_assoc]
  refine wpK_while (I := fun k A' W' => A'.n = 28 ∧ A'.defers = [] ∧ A'.tmps.get 1 = some (.pointer (some ⟨W.next, 0, none⟩)) ∧ A'.tmps.get 2 = some (.pointer (some ⟨W.next + 1, 0, none⟩)) ∧ A'.tmps.get 3 = some (.pointer (some ⟨W.next + 2, 0, none⟩)) ∧
      Ext W W' ∧ Var W' W.next 24 [.int .i64 P, .slice A l.length c] ∧ Var W' (W.next + 1) 31 [.int .i64 0, .slice none 0 0] ∧
      ∃ (i : Nat) (v : Value), k = l.length - i ∧ i ≤ l.length ∧ A'.tmps.get 4 = some (.int .i64 i) ∧ Var W' (W.next + 2) 31 [.int .i64 P, v] ∧ GrowsN W' v i (flat3 (l.take i)) 106 3 (fun b => W.next + 3 ≤ b))
    (J := fun A' W' => A'.n = 28 ∧ A'.defers = [] ∧ A'.tmps.get 2 = some (.pointer (some ⟨W.next + 1, 0, none⟩)) ∧ A'.tmps.get 3 = some (.pointer (some ⟨W.next + 2, 0, none⟩)) ∧ Ext W W' ∧ Var W' (W.next + 1) 31 [.int .i64 0, .slice none 0 0] ∧
      ∃ v, Var W' (W.next + 2) 31 [.int .i64 P, v] ∧ GrowsN W' v l.length (flat3 l) 106 3 (fun b => W.next + 3 ≤ b))
    (Rt := fun _ _ => False) (k := l.length) ?_ ?_ ?_ ?_
  · exact ⟨rfl, rfl, by simp, by simp, by simp [hn1], hE1.trans hE2, hV02, hV12, 0, .slice none 0 0, by simp, by simp, by simp, hV2, .nil _ _ _ _⟩
  · rintro k ⟨tm, n, ds⟩ W3 ⟨hn, hd, h1, h2, h3, hE3, hV0, hV1, i, v, hk, hi, h4, hV2, hG⟩ Q' hJ hRt hI
    simp only at hn hd h1 h2 h3 h4
    subst hn; subst hd
    have hl1 := hV0.load1 (T := T0) und22 rfl (j := 1) (v := .slice A l.length c) rfl
    have hl2 := hV2.load1 (T := T0) und29 rfl (j := 1) (v := v) rfl
    try simp only [wpK_assoc]
    refine wpK_reg (fun R hR => by simp [h1, h4, hl1, len_slice und22]; exact hR) ?_
    by_cases hlt : i < l.length
    · refine wpK_onT (by simp [hlt]) ?_
      have ha : l[i]? = some l[i] := List.getElem?_eq_getElem hlt
      generalize l[i] = a at ha
      obtain ⟨b', o, rfl, q1, q2, q3⟩ := hA i a ha
      have hx := indexAddr_tri (T := T0) und22 sz78 (b := b') (o := o) (c := c) (k := .i64) hlt
      have hl3 := load3 (T := T0) und78 agg78 inf78 is78 (q1.ext hE3) (q2.ext hE3) (q3.ext hE3)
      have hp3 := hV2.1
      obtain ⟨v', W4, W5, a1, a2, a3, a4, a5, a6, a7⟩ := Var.push (T := T0) (t := 29) (el := 106) (i := Tryd.t106) (it := Tryd.t29) (sz := 3) (by omega) und29 inf106 is106 z106 rfl inf29 is29 hG hV2 (o := 1) (by omega) (by simp) (u := cells3 a) rfl (oneCells_tri a) (by rw [by106]; omega) (by omega)
      have a1 : aAppend T0 (W3.newCells 106 [.int .i64 a.1, .int .i64 a.2.1, .int .i64 a.2.2]) [29, 29] [v, .slice (some ⟨W3.next, 0, none⟩) 1 2] = some (v', W4) := a1
      refine wpK_block ?_
      try simp only [wpK_assoc]
      refine wpK_reg (fun R hR => by simp [h3, hl2]; exact hR) ?_
      try simp only [wpK_assoc]
      refine wpK_reg1 (fun R hR => by simp [h1, h3, h4, hl1, hx, hl3, bs29, a1, a2]; exact hR) ?_
      try simp only [wpK_assoc]
      refine wpK_reg1 (fun R hR => by simp [h4]; exact hR) ?_
      have hO : Ext W W5 := ⟨by have := hE3.1; omega, fun b hb hk => by rw [a7.2 b (by have := hE3.1; omega) (by omega)]; exact hE3.2 b hb hk⟩
      refine hI (k - 1) _ _ (by omega) ⟨rfl, rfl, by simp [h1], by simp [h2], by simp [h3], hO, hV0.only a7 (by omega), hV1.only a7 (by omega), i + 1, v', by omega, by omega, by simp; exact i64_succ i (by omega), by simpa using a5, ?_⟩
      rw [List.take_add_one, ha, Option.toList_some, flat3_append]
      have : flat3 [a] = cells3 a := by simp [flat3]
      rw [this]
      exact a6.mono (fun b hb => by
        rcases hb with hb | hb
        · exact hb
        · omega)
    · have e : i = l.length := by omega
      subst e
      rw [List.take_length] at hG
      exact wpK_out (by simp) (hJ _ _ ⟨rfl, rfl, by simp [h2], by simp [h3], hE3, hV1, v, hV2, hG⟩)
  · rintro A' W' hf; exact hf.elim
  · rintro ⟨tm, n, ds⟩ W3 ⟨hn, hd, h2, h3, hE3, hV1, v, hV2, hG⟩
    simp only at hn hd h2 h3
    subst hn; subst hd
    obtain ⟨av, cv, hvs⟩ := hG.len
    have hl := hV2.load (T := T0) und31 agg31 inf31 is31
    obtain ⟨W4, t1, t2, t3, t4⟩ := hV1.store (T := T0) (t := 31) (v := .agg ⟨[.int .i64 P, v]⟩) (o := 0) inf31 (by rw [is31]; rfl) (by simp) (by rw [hvs]; rfl)
    have hl4 := t4.load (T := T0) und31 agg31 inf31 (by rw [is31]; rfl)
    try simp only [wpK_assoc]
    refine wpK_reg (fun R hR => by simp [h2, h3, hl, t1]; exact hR) ?_
    refine wpK_ret ⟨.inr rfl, rfl, [.agg ⟨[.int .i64 P, v]⟩], by simp at hl4; simp [h2, hl4], ?_, v, rfl, ?_⟩
    · exact ⟨by have := hE3.1; omega, fun b hb hk => by rw [t3.2 b (by have := hE3.1; omega) (by omega)]; exact hE3.2 b hb hk⟩
    · exact (hG.only t3 (fun b _ hb e => by omega)).mono (fun b hb => by omega)
end Go.Proofs.YtkgfjfkgmpeobaaDoor

open Go Go.Eng
namespace Go.Proofs.YtkgfjfkgmpeobaaDoor
attribute [local congr] undef_congr WpK.congr WpS.congr WpL.congr WpC.congr WpF.congr gotS.congr callS.congr nextS.congr wantS.congr condS.congr
attribute [local irreducible] WpK
attribute [local simp] WpDr_nil WpDr_cons atS_some dwantS_true dwantS_false kindS_light kindS_float kindS_heavy lightS_value floatS_some heavyS_value heavyS_skip heavyS_enter dcallS_some doneS_eq
  isLight isFloat isPlain dLook testBit_dec dChain dLights_nil dLights_skip dLights_one dLight_nil dLight_cons dFreshes_nil dFreshes_one oneF_none oneF_some dFresh_nil dFresh_cons oneL_some oneW_true oneW_false sameV_value dPut dMay valEq arrEq listEq List.getElem?_cons Tr.get_nil dEnd
attribute [local simp] WpS_nil WpS_cons isDefer undef_false wantS_true wantS_false nextS_value nextS_skip nextS_enter callS_some gotS_some aWanted aOp aEvalF aEval opMove opAssign opPick aVal flat flat1 AAct.put opBinOp opConvert opIndex Tr.get_set Tr.get_lay aBin aResults tupled
  aCall aVals aCallB blt_dec ble_dec beq_dec aBinI_add aBinI_sub aBinI_lss aBinI_leq aBinI_gtr aBinI_geq aBinI_eql aBinI_neq index_str len_str len_slice Nat.beq_refl und2 und3 und4 und5 und39 und76 und82 und115 und22 und29 und25 und33 und46 und43 und49 und111
  field78 field106 field24 field31 field27 field35 field108 field109 opBox opLoad opFieldAddr opIndexAddr acells aAddr opExtract aExtract opUnOp opAlloc opStore opMakeInterface opNilCheck opBuild aParts opBuildSlice aValW
set_option maxHeartbeats 4000000
structure TameOk (P pl m : Nat) (l : List Tri) : Prop where
  P2 : 2 ≤ P
  Ple : P ≤ pl
  len : l.length ≤ m
  arc : ∀ a ∈ l, 0 ≤ a.1 ∧ a.1 < P ∧ 0 ≤ a.2.1 ∧ a.2.1 < P ∧ a.1 ≠ a.2.1 ∧ 0 ≤ a.2.2 ∧ a.2.2 ≤ 1000000000
theorem u64_range (x : Int) : 0 ≤ IntKind.u64.wrap x ∧ IntKind.u64.wrap x < 18446744073709551616 := by
  rw [IntKind.wrap_u64]; omega
theorem u64_mod (x : Int) (n : Nat) (hn : 0 < n) : ∃ y : Nat, (IntKind.u64.wrap x).tmod n = y ∧ y < n := by
  have hr := u64_range x
  refine ⟨((IntKind.u64.wrap x).tmod n).toNat, by rw [Int.toNat_of_nonneg (Int.tmod_nonneg _ hr.1)], ?_⟩
  have := Int.tmod_lt_of_pos (IntKind.u64.wrap x) (show (0 : Int) < n by omega)
  have := Int.tmod_nonneg (n : Int) hr.1
  omega
theorem freshB_new (W : AW) (el : TypeId) (l : List Value) (h : listEq l l = true) : freshB (W.newCells el l) W.next el l = true := by
  simp only [freshB, newCells_get, if_pos, newCells_next, blt_dec, Nat.beq_refl, Nat.lt_succ_self, decide_true]
  rw [take_get (Tr.nil.lay 0 l) l.length 0 l rfl (fun j hj => by rw [Tr.get_lay, if_pos (by omega)]; simp)]
  exact h
theorem build78' (x y z : Int) : aBuild T0 78 [(0, .int .i64 x), (1, .int .i64 y), (2, .int .i64 z)] = some (.agg ⟨[.int .i64 x, .int .i64 y, .int .i64 z]⟩) := by kernel_rfl
theorem tame_wp (pl m : Nat) (hpl : 2 ≤ pl) (hpl2 : pl ≤ 24) (hm : m ≤ 1000) {W : AW} {v : Value} (N0 : Int) {l : List Tri} (h : TriIn W v l) (hlen : l.length < 9223372036854775808) :
    WpF T0 30 [.agg ⟨[.int .i64 N0, v]⟩, .int .i64 pl, .int .i64 m] W (fun u W' => Ext W W' ∧ ∃ (P : Nat) (l' : List Tri) (v' : Value), TameOk P pl m l' ∧ u = .agg ⟨[.int .i64 P, v']⟩ ∧ GrowsN W' v' l'.length (flat3 l') 78 3 (fun b => W.next ≤ b)) := by
  obtain ⟨A, c, rfl, hA⟩ := h
  refine wpF fun30 rfl ?_
  obtain ⟨W1, hW1, hE1, hn1, hV0, hV1⟩ : ∃ W1, W1 = (W.newCells 24 [.int .i64 N0, .slice A l.length c]).newCells 24 [.int .i64 0, .slice none 0 0] ∧ Ext W W1 ∧ W1.next = W.next + 2 ∧ Var W1 W.next 24 [.int .i64 N0, .slice A l.length c] ∧ Var W1 (W.next + 1) 24 [.int .i64 0, .slice none 0 0] :=
    ⟨_, rfl, (Only.newCells _ _ _).trans (Only.newCells _ _ _), rfl, (Var.new _ _ _).ext (.newCells _ _ _), Var.new _ _ _⟩
  obtain ⟨y0, hy0, hy0l⟩ := u64_mod (IntKind.i64.wrap (N0 - 2)) (pl - 1) (by omega)
  have hrem0 := aBinI_rem .u64 (IntKind.u64.wrap (IntKind.i64.wrap (N0 - 2))) ((pl - 1 : Nat) : Int) (by omega)
  rw [hy0] at hrem0
  have hw1 : IntKind.i64.wrap ((pl : Int) - 1) = ((pl - 1 : Nat) : Int) := by rw [IntWalk.i64_in _ (by omega)]; omega
  have hw2 : IntKind.u64.wrap ((pl - 1 : Nat) : Int) = ((pl - 1 : Nat) : Int) := IntWalk.u64_in _ (by omega)
  have hw3 : IntKind.i64.wrap (y0 : Int) = y0 := IntWalk.i64_in _ (by omega)
  have hw4 : IntKind.i64.wrap (2 + (y0 : Int)) = ((2 + y0 : Nat) : Int) := by rw [IntWalk.i64_in _ (by omega)]; omega
  generalize pl - 1 = pl1 at hrem0 hw1 hw2
  obtain ⟨P, hP⟩ : ∃ P, P = 2 + y0 := ⟨_, rfl⟩
  rw [← hP] at hw4
  have hP2 : 2 ≤ P := by omega
  have hPpl : P ≤ pl := by omega
  obtain ⟨W2, s1, s2, hE2, hV2⟩ := storeVar_new (T := T0) (W := W1) (t := 24) (v := .agg ⟨[.int .i64 P, .slice none 0 0]⟩) (z := [.int .i64 0, .slice none 0 0]) inf24 (by rw [is24]; rfl) (by rw [is24]; rfl) rfl
  have hl0 := hV0.load1 (T := T0) und3 rfl (j := 0) (v := .int .i64 N0) rfl
  try simp only [wpK_assoc]
  refine wpK_reg (fun R hR => by simp [zero24, newCells_next]; rw [← hW1]; exact hR) ?_
  try simp only [wpK_assoc]
  refine wpK_reg (fun R hR => by simp [hl0, conv_3_82, conv_82_3, hw1, hw2, hrem0, hw3, hw4, build24, zero24, s1]; exact hR) ?_
  try simp only [wpK_assoc]
  refine wpK_reg (fun R hR => by simp; exact hR) ?_
  have hV02 := hV0.ext hE2
  have hV12 := hV1.ext hE2
  rw [hn1] at hV2
  clear hl0 hrem0 hw1 hw2 hw3 hw4
  try simp only [wpK_assoc]
  refine wpK_while (I := fun k A' W' => A'.n = 82 ∧ A'.defers = [] ∧ A'.tmps.get 2 = some (.int .i64 m) ∧ A'.tmps.get 3 = some (.pointer (some ⟨W.next, 0, none⟩)) ∧ A'.tmps.get 6 = some (.pointer (some ⟨W.next + 1, 0, none⟩)) ∧ A'.tmps.get 7 = some (.pointer (some ⟨W.next + 2, 0, none⟩)) ∧
      Ext W W' ∧ Var W' W.next 24 [.int .i64 N0, .slice A l.length c] ∧ Var W' (W.next + 1) 24 [.int .i64 0, .slice none 0 0] ∧
      ∃ (i : Nat) (v : Value) (l' : List Tri), k = l.length - i ∧ i ≤ l.length ∧ i ≤ m ∧ A'.tmps.get 8 = some (.int .i64 i) ∧ Var W' (W.next + 2) 24 [.int .i64 P, v] ∧ GrowsN W' v l'.length (flat3 l') 78 3 (fun b => W.next + 3 ≤ b) ∧ l'.length = i ∧ TameOk P pl m l')
    (J := fun A' W' => A'.n = 82 ∧ A'.defers = [] ∧ A'.tmps.get 6 = some (.pointer (some ⟨W.next + 1, 0, none⟩)) ∧ A'.tmps.get 7 = some (.pointer (some ⟨W.next + 2, 0, none⟩)) ∧ Ext W W' ∧ Var W' (W.next + 1) 24 [.int .i64 0, .slice none 0 0] ∧
      ∃ (v : Value) (l' : List Tri), Var W' (W.next + 2) 24 [.int .i64 P, v] ∧ GrowsN W' v l'.length (flat3 l') 78 3 (fun b => W.next + 3 ≤ b) ∧ TameOk P pl m l')
    (Rt := fun _ _ => False) (k := l.length) ?_ ?_ ?_ ?_
  · exact ⟨rfl, rfl, by simp, by simp, by simp, by simp [hn1], hE1.trans hE2, hV02, hV12, 0, .slice none 0 0, [], by simp, by simp, by simp, by simp, hV2, .nil _ _ _ _, rfl, ⟨hP2, hPpl, by simp, by simp⟩⟩
  · rintro k ⟨tm, n, ds⟩ W3 ⟨hn, hd, h2, h3, h6, h7, hE3, hV0, hV1, i, v, l', hk, hi, him, h8, hV2, hG, hl'i, hT⟩ Q' hJ hRt hI
    simp only at hn hd h2 h3 h6 h7 h8
    subst hn; subst hd
    have hl1 := hV0.load1 (T := T0) und22 rfl (j := 1) (v := .slice A l.length c) rfl
    have hlP := hV2.load1 (T := T0) und3 rfl (j := 0) (v := .int .i64 P) rfl
    by_cases hlt : i < l.length
    · by_cases hltm : i < m
      · try simp only [wpK_assoc]
        refine wpK_reg (fun R hR => by simp [h2, h3, h8, hl1, len_slice und22, hlt]; exact hR) ?_
        refine wpK_onT (by simp [hltm]) ?_
        have ha : l[i]? = some l[i] := List.getElem?_eq_getElem hlt
        generalize l[i] = a at ha
        obtain ⟨b', o, rfl, q1, q2, q3⟩ := hA i a ha
        have hx := indexAddr_tri (T := T0) und22 sz78 (b := b') (o := o) (c := c) (k := .i64) hlt
        have hl3 := load3 (T := T0) und78 agg78 inf78 is78 (q1.ext hE3) (q2.ext hE3) (q3.ext hE3)
        -- a := n.Arcs[i]
        obtain ⟨Wa, sa1, sa2, hEa, hVa⟩ := storeVar_new (T := T0) (W := W3) (t := 78) (v := .agg ⟨[.int .i64 a.1, .int .i64 a.2.1, .int .i64 a.2.2]⟩) (z := [.int .i64 0, .int .i64 0, .int .i64 0]) inf78 (by rw [is78]; rfl) (by rw [is78]; rfl) rfl
        refine wpK_block ?_
        try simp only [wpK_assoc]
        refine wpK_reg (fun R hR => by simp [h3, h8, hl1, hx, hl3, zero78, sa1]; exact hR) ?_
        -- x := ..
        obtain ⟨x, hx1, hx2⟩ := u64_mod a.1 P (by omega)
        obtain ⟨y, hy1, hy2⟩ := u64_mod a.2.1 P (by omega)
        obtain ⟨z, hz1, hz2⟩ := u64_mod a.2.2 1000000001 (by omega)
        have r1 := aBinI_rem .u64 (IntKind.u64.wrap a.1) (P : Int) (by omega)
        have r2 := aBinI_rem .u64 (IntKind.u64.wrap a.2.1) (P : Int) (by omega)
        have r3 := aBinI_rem .u64 (IntKind.u64.wrap a.2.2) (1000000001 : Int) (by omega)
        rw [hx1] at r1
        rw [hy1] at r2
        rw [show ((1000000001 : Int)) = ((1000000001 : Nat) : Int) from rfl, hz1] at r3
        have wP : IntKind.u64.wrap (P : Int) = P := IntWalk.u64_in _ (by omega)
        have wx : IntKind.i64.wrap (x : Int) = x := IntWalk.i64_in _ (by omega)
        have wy : IntKind.i64.wrap (y : Int) = y := IntWalk.i64_in _ (by omega)
        have wz : IntKind.i64.wrap (z : Int) = z := IntWalk.i64_in _ (by omega)
        have r3 : aBinI .rem .u64 (IntKind.u64.wrap a.2.2) .u64 1000000001 = some (.int .u64 (z : Int)) := r3
        obtain ⟨Wb, sb1, sb2, hEb, hVb⟩ := storeVar_new (T := T0) (W := Wa) (t := 78) (v := .agg ⟨[.int .i64 x, .int .i64 y, .int .i64 z]⟩) (z := [.int .i64 0, .int .i64 0, .int .i64 0]) inf78 (by rw [is78]; rfl) (by rw [is78]; rfl) rfl
        have hEn : Ext Wa (Wa.newCells 78 [.int .i64 0, .int .i64 0, .int .i64 0]) := .newCells _ _ _
        have hVn := hVa.ext hEn
        have hV2a := hV2.ext hEa
        have hV2n := hV2a.ext hEn
        have la0 := hVa.load1 (T := T0) und3 rfl (j := 0) (v := .int .i64 a.1) rfl
        have la1 := hVa.load1 (T := T0) und3 rfl (j := 1) (v := .int .i64 a.2.1) rfl
        have la2 := hVa.load1 (T := T0) und2 rfl (j := 2) (v := .int .i64 a.2.2) rfl
        have ln0 := hVn.load1 (T := T0) und3 rfl (j := 0) (v := .int .i64 a.1) rfl
        have ln1 := hVn.load1 (T := T0) und3 rfl (j := 1) (v := .int .i64 a.2.1) rfl
        have ln2 := hVn.load1 (T := T0) und2 rfl (j := 2) (v := .int .i64 a.2.2) rfl
        have lP := hV2a.load1 (T := T0) und3 rfl (j := 0) (v := .int .i64 P) rfl
        have lPn := hV2n.load1 (T := T0) und3 rfl (j := 0) (v := .int .i64 P) rfl
        have hfr := freshB_new Wa 78 [.int .i64 0, .int .i64 0, .int .i64 0] rfl
        try simp only [wpK_assoc]
        refine wpK_dr (wr := Tr.nil |>.set 40 0 |>.set 41 1 |>.set 42 2 |>.set 43 3 |>.set 44 4 |>.set 45 5 |>.set 46 6 |>.set 47 7 |>.set 48 8 |>.set 49 9 |>.set 50 10 |>.set 51 11 |>.set 52 12 |>.set 53 13 |>.set 54 14 |>.set 55 15 |>.set 56 16 |>.set 57 17 |>.set 58 18 |>.set 59 19 |>.set 60 20 |>.set 61 21 |>.set 10 22) (bits := Tr.nil.lay 0 [0, 1, 3, 0, 8, 24, 63, 127, 0, 256, 768, 0, 2048, 6144, 16128, 32512, 0, 65536, 196608, 458752, 983040, 2097151, 0, 8388607]) (ord := [0, 1, 2, 3, 4, 5, 6, 7, 8, 9, 10, 11, 12, 13, 14, 15, 16, 17, 18, 19, 20, 21, 22, 23])
          (J := fun A' W' => W' = Wb ∧ A'.n = 82 ∧ A'.defers = [] ∧ A'.tmps.get 2 = some (.int .i64 m) ∧ A'.tmps.get 3 = some (.pointer (some ⟨W.next, 0, none⟩)) ∧ A'.tmps.get 6 = some (.pointer (some ⟨W.next + 1, 0, none⟩)) ∧ A'.tmps.get 7 = some (.pointer (some ⟨W.next + 2, 0, none⟩)) ∧ A'.tmps.get 8 = some (.int .i64 i) ∧ A'.tmps.get 10 = some (.pointer (some ⟨Wa.next, 0, none⟩)))
          (by kernel_rfl) (by kernel_rfl) (by kernel_rfl) (fun G hGG => ?_) ?_
        · simp [h7, la0, la1, la2, lP, ln0, ln1, ln2, lPn, conv_3_82, conv_82_3, conv_2_76, conv_76_2, wP, wx, wy, wz, r1, r2, r3, build78', aFlt, zero78, AFlt.val, sb1, sb2, hfr, newCells_next]
          apply hGG
          exact ⟨rfl, rfl, rfl, by simp [h2], by simp [h3], by simp [h6], by simp [h7], by simp [h8], by simp⟩
        rintro ⟨tm, n, ds⟩ Wb' ⟨rfl, hn, hd, h2, h3, h6, h7, h8, h10⟩
        simp only at hn hd h2 h3 h6 h7 h8 h10
        subst hn; subst hd
        have lb0 := hVb.load1 (T := T0) und3 rfl (j := 0) (v := .int .i64 x) rfl
        have lb1 := hVb.load1 (T := T0) und3 rfl (j := 1) (v := .int .i64 y) rfl
        have hV2b := hV2a.ext hEb
        have lPb := hV2b.load1 (T := T0) und3 rfl (j := 0) (v := .int .i64 P) rfl
        try simp only [wpK_assoc]
        refine wpK_reg (fun R hR => by simp [h10, lb0, lb1]; exact hR) ?_
        try simp only [wpK_assoc]
        refine wpK_cut (J := fun A' W' => Ext Wa W' ∧ A'.n = 82 ∧ A'.defers = [] ∧ A'.tmps.get 2 = some (.int .i64 m) ∧ A'.tmps.get 3 = some (.pointer (some ⟨W.next, 0, none⟩)) ∧ A'.tmps.get 6 = some (.pointer (some ⟨W.next + 1, 0, none⟩)) ∧ A'.tmps.get 7 = some (.pointer (some ⟨W.next + 2, 0, none⟩)) ∧ A'.tmps.get 8 = some (.int .i64 i) ∧ A'.tmps.get 10 = some (.pointer (some ⟨Wa.next, 0, none⟩)) ∧
          ∃ y' : Nat, y' < P ∧ x ≠ y' ∧ Var W' Wa.next 78 [.int .i64 x, .int .i64 y', .int .i64 z]) (fun Q2 hQ2 => ?_) ?_
        · by_cases hxy : x = y
          · subst hxy
            have r4 := aBinI_rem .i64 ((x : Int) + 1) (P : Int) (by omega)
            have wx1 : IntKind.i64.wrap ((x : Int) + 1) = (x : Int) + 1 := IntWalk.i64_in _ (by omega)
            obtain ⟨y', hy', hy'P, hy'x⟩ : ∃ y' : Nat, ((x : Int) + 1).tmod P = y' ∧ y' < P ∧ x ≠ y' := by
              refine ⟨(x + 1) % P, by rw [show ((x : Int) + 1) = ((x + 1 : Nat) : Int) from rfl, ← Int.ofNat_tmod], Nat.mod_lt _ (by omega), ?_⟩
              by_cases e : x + 1 = P
              · rw [e, Nat.mod_self]; omega
              · rw [Nat.mod_eq_of_lt (by omega)]; omega
            rw [hy'] at r4
            obtain ⟨Wc, sc1, sc2, sc3, sc4⟩ := hVb.store (T := T0) (t := 3) (v := .int .i64 y') (o := 1) inf3 (by rw [is3]; rfl) (by simp) rfl
            refine wpK_endT (by simp) ?_
            try simp only [wpK_assoc]
            refine wpK_reg1 (fun R hR => by simp [h7, h10, lb0, lPb, wx1, r4, sc1]; exact hR) ?_
            refine hQ2 _ _ ⟨⟨by have := hEb.1; omega, fun b hb hk => by rw [sc3.2 b (by have := hEb.1; omega) (by omega)]; exact hEb.2 b hb hk⟩, rfl, rfl, by simp [h2], by simp [h3], by simp [h6], by simp [h7], by simp [h8], by simp [h10], y', hy'P, hy'x, by simpa using sc4⟩
          · refine wpK_endF (by simp; omega) (wpK_skip ?_)
            refine hQ2 _ _ ⟨hEb, rfl, rfl, by simp [h2], by simp [h3], by simp [h6], by simp [h7], by simp [h8], by simp [h10], y, hy2, hxy, hVb⟩
        rintro ⟨tm, n, ds⟩ W5 ⟨hE5, hn, hd, h2, h3, h6, h7, h8, h10, y', hy'P, hy'x, hVx⟩
        simp only at hn hd h2 h3 h6 h7 h8 h10
        subst hn; subst hd
        have hEW5 : Ext W3 W5 := hEa.trans hE5
        have hV25 := hV2.ext hEW5
        have hG5 := hG.only (K' := fun _ => False) hEW5 (fun _ _ _ x => x)
        have lo1 := hV25.load1 (T := T0) und22 rfl (j := 1) (v := v) rfl
        have lx := hVx.load (T := T0) und78 agg78 inf78 is78
        have hn3 := hE3.1
        have hna := hEa.1
        have hn5 := hE5.1
        have hlt2 := hV2.1
        obtain ⟨v', W6, W7, a1, a2, a3, a4, a5, a6, a7⟩ := Var.push (T := T0) (t := 22) (el := 78) (i := Tryd.t78) (it := Tryd.t22) (sz := 3) (by omega) und22 inf78 is78 z78 rfl inf22 is22 hG5 hV25 (o := 1) (by omega) (by simp) (u := [.int .i64 x, .int .i64 y', .int .i64 z]) rfl rfl (by rw [by78]; omega) (by omega)
        have a1 : aAppend T0 (W5.newCells 78 [.int .i64 x, .int .i64 y', .int .i64 z]) [22, 22] [v, .slice (some ⟨W5.next, 0, none⟩) 1 2] = some (v', W6) := a1
        try simp only [wpK_assoc]
        refine wpK_reg (fun R hR => by simp [h7, lo1]; exact hR) ?_
        try simp only [wpK_assoc]
        refine wpK_reg1 (fun R hR => by simp [h7, h10, lx, bs22, a1, a2]; exact hR) ?_
        try simp only [wpK_assoc]
        refine wpK_reg1 (fun R hR => by simp [h8]; exact hR) ?_
        have hO : Ext W W7 := ⟨by omega, fun b hb hk => by rw [a7.2 b (by omega) (by omega), hEW5.2 b (by omega) (fun x => x)]; exact hE3.2 b hb hk⟩
        refine hI (k - 1) _ _ (by omega) ⟨rfl, rfl, by simp [h2], by simp [h3], by simp [h6], by simp [h7], hO, (hV0.ext hEW5).only a7 (by omega), (hV1.ext hEW5).only a7 (by omega), i + 1, v', l' ++ [((x : Int), (y' : Int), (z : Int))], by omega, by omega, by omega, by simp; exact i64_succ i (by omega), by simpa using a5, ?_, by simp [hl'i], ⟨hP2, hPpl, by simp; omega, fun a ha => ?_⟩⟩
        · rw [flat3_append, List.length_append]
          have : flat3 [((x : Int), (y' : Int), (z : Int))] = [.int .i64 x, .int .i64 y', .int .i64 z] := by simp [flat3, cells3]
          rw [this]
          exact a6.mono (fun b hb => by
            rcases hb with hb | hb
            · exact hb
            · omega)
        · rcases List.mem_append.1 ha with ha | ha
          · exact hT.arc a ha
          · rw [List.mem_singleton] at ha; subst ha
            simp only; omega
      · try simp only [wpK_assoc]
        refine wpK_reg (fun R hR => by simp [h2, h3, h8, hl1, len_slice und22, hlt]; exact hR) ?_
        refine wpK_out (by simp [hltm]) (hJ _ _ ⟨rfl, rfl, by simp [h6], by simp [h7], hE3, hV1, v, l', hV2, hG, hT⟩)
    · try simp only [wpK_assoc]
      refine wpK_reg (fun R hR => by simp [h2, h3, h8, hl1, len_slice und22, hlt]; exact hR) ?_
      refine wpK_out (by simp) (hJ _ _ ⟨rfl, rfl, by simp [h6], by simp [h7], hE3, hV1, v, l', hV2, hG, hT⟩)
  · rintro A' W' hf; exact hf.elim
  · rintro ⟨tm, n, ds⟩ W3 ⟨hn, hd, h6, h7, hE3, hV1, v, l', hV2, hG, hT⟩
    simp only at hn hd h6 h7
    subst hn; subst hd
    obtain ⟨av, cv, hvs⟩ := hG.len
    have hl := hV2.load (T := T0) und24 agg24 inf24 is24
    obtain ⟨W4, t1, t2, t3, t4⟩ := hV1.store (T := T0) (t := 24) (v := .agg ⟨[.int .i64 P, v]⟩) (o := 0) inf24 (by rw [is24]; rfl) (by simp) (by rw [hvs]; rfl)
    have hl4 := t4.load (T := T0) und24 agg24 inf24 (by rw [is24]; rfl)
    simp at hl4
    try simp only [wpK_assoc]
    refine wpK_reg (fun R hR => by simp [h6, h7, hl, t1]; exact hR) ?_
    refine wpK_ret ⟨.inr rfl, rfl, [.agg ⟨[.int .i64 P, v]⟩], by simp [h6, hl4], ?_, P, l', v, hT, rfl, ?_⟩
    · exact ⟨by have := hE3.1; omega, fun b hb hk => by rw [t3.2 b (by have := hE3.1; omega) (by omega)]; exact hE3.2 b hb hk⟩
    · exact (hG.only t3 (fun b _ hb e => by omega)).mono (fun b hb => by omega)
end Go.Proofs.YtkgfjfkgmpeobaaDoor

open Go Go.Eng
namespace Go.Proofs.YtkgfjfkgmpeobaaDoor
attribute [local congr] undef_congr WpK.congr WpS.congr WpL.congr WpC.congr WpF.congr gotS.congr callS.congr nextS.congr wantS.congr condS.congr
attribute [local irreducible] WpK
attribute [local simp] WpDr_nil WpDr_cons atS_some dwantS_true dwantS_false kindS_light kindS_float kindS_heavy lightS_value floatS_some heavyS_value heavyS_skip heavyS_enter dcallS_some doneS_eq
  isLight isFloat isPlain dLook testBit_dec dChain dLights_nil dLights_skip dLights_one dLight_nil dLight_cons dFreshes_nil dFreshes_one oneF_none oneF_some dFresh_nil dFresh_cons oneL_some oneW_true oneW_false sameV_value dPut dMay valEq arrEq listEq List.getElem?_cons Tr.get_nil dEnd
attribute [local simp] WpS_nil WpS_cons isDefer undef_false wantS_true wantS_false nextS_value nextS_skip nextS_enter callS_some gotS_some aWanted aOp aEvalF aEval opMove opAssign opPick aVal flat flat1 AAct.put opBinOp opConvert opIndex Tr.get_set Tr.get_lay aBin aResults tupled
  aCall aVals aCallB blt_dec ble_dec beq_dec aBinI_add aBinI_sub aBinI_lss aBinI_leq aBinI_gtr aBinI_geq aBinI_eql aBinI_neq index_str len_str len_slice Nat.beq_refl und2 und3 und4 und5 und39 und76 und82 und115 und22 und29 und25 und33 und46 und43 und49 und111
  field78 field106 field24 field31 field27 field35 field108 field109 opBox opLoad opFieldAddr opIndexAddr acells aAddr opExtract aExtract opUnOp opAlloc opStore opMakeInterface opNilCheck opBuild aParts opBuildSlice aValW
set_option maxHeartbeats 4000000
theorem memb_lt (P s : Nat) : ∀ x ∈ memb P s, 0 ≤ x ∧ x < P := by
  intro x hx
  simp only [memb, List.mem_map, List.mem_filter, List.mem_range] at hx
  obtain ⟨j, ⟨hj, _⟩, rfl⟩ := hx
  show 0 ≤ (j : Int) ∧ (j : Int) < P
  omega
theorem RiseOk.snoc {n n' : Int} {L : List Int} {y : Int} (h : RiseOk n L) (hn : n ≤ n') (hy : ∀ x ∈ L, x < y) (h0 : 0 ≤ y) (hyn : y < n') : RiseOk n' (L ++ [y]) := by
  intro i x hx
  by_cases hi : i < L.length
  · rw [List.getElem?_append_left hi] at hx
    have := h i x hx
    refine ⟨by omega, ?_⟩
    have e : prevAt (L ++ [y]) i = prevAt L i := by
      unfold prevAt
      split
      · rfl
      · rw [List.getElem?_append_left (by omega)]
    rw [e]; exact this.2
  · have hi' : i = L.length := by
      have := (List.getElem?_eq_some_iff.1 hx).1
      simp at this; omega
    subst hi'
    rw [List.getElem?_append_right (by omega)] at hx
    simp at hx; subst hx
    refine ⟨hyn, ?_⟩
    unfold prevAt
    split
    · omega
    · rename_i h1
      rw [List.getElem?_append_left (by omega), List.getElem?_eq_getElem (show L.length - 1 < L.length by omega)]
      exact hy _ (List.getElem_mem _)
theorem memb_rise : ∀ (P s : Nat), RiseOk (P : Int) (memb P s)
  | 0, s => by intro i x hx; simp [memb] at hx
  | P + 1, s => by
    have ih := memb_rise P s
    rw [memb_succ]
    cases s.testBit P with
    | false =>
      rw [if_neg (by simp), List.append_nil]
      intro i x hx
      have := ih i x hx
      exact ⟨by omega, this.2⟩
    | true =>
      rw [if_pos rfl]
      exact ih.snoc (by omega) (fun x hx => (memb_lt P s x hx).2) (by omega) (by omega)
theorem orAll_append (l : List Int) (x : Int) : orAll (l ++ [x]) = orAll l ||| 1 <<< x.toNat := by
  rw [orAll, List.foldl_append]; rfl
theorem one_bit (p i : Nat) : (1 <<< p).testBit i = decide (p = i) := by
  rw [Nat.shiftLeft_eq, Nat.one_mul]; exact Nat.testBit_two_pow
theorem memb_bits : ∀ (P s i : Nat), (orAll (memb P s)).testBit i = (decide (i < P) && s.testBit i)
  | 0, s, i => by simp [memb, orAll]
  | P + 1, s, i => by
    rw [memb_succ]
    have ih := memb_bits P s i
    cases h : s.testBit P with
    | false =>
      rw [if_neg (by simp), List.append_nil, ih]
      by_cases e : i = P
      · subst e; simp [-testBit_dec, h]
      · have : (i < P + 1) = (i < P) := propext ⟨fun _ => by omega, fun _ => by omega⟩
        simp only [this]
    | true =>
      rw [if_pos rfl, orAll_append, Nat.testBit_or, ih, Int.toNat_natCast, one_bit]
      by_cases e : i = P
      · subst e; simp [-testBit_dec, h]
      · have : (i < P + 1) = (i < P) := propext ⟨fun _ => by omega, fun _ => by omega⟩
        simp only [this]
        have : decide (P = i) = false := decide_eq_false (fun x => e x.symm)
        rw [this, Bool.or_false]
theorem memb_or {P s : Nat} (h : s < 2 ^ P) : orAll (memb P s) = s := by
  apply Nat.eq_of_testBit_eq
  intro i
  rw [memb_bits]
  by_cases hi : i < P
  · simp [-testBit_dec, hi]
  · have : s.testBit i = false := Nat.testBit_lt_two_pow (Nat.lt_of_lt_of_le h (Nat.pow_le_pow_right (by omega) (by omega)))
    simp [-testBit_dec, this]
theorem out1_sums (p q : Nat) (a : Quad) (h1 : 0 ≤ a.2.2.1) (h2 : 0 ≤ a.2.2.2) : out1 (p ||| q) a + out1 (p &&& q) a ≤ out1 p a + out1 q a := by
  simp only [out1, Nat.testBit_or, Nat.testBit_and]
  cases p.testBit a.1.toNat <;> cases q.testBit a.1.toNat <;> cases p.testBit a.2.1.toNat <;> cases q.testBit a.2.1.toNat <;> simp <;> omega
theorem capQ_sums (p q : Nat) : ∀ l : List Quad, (∀ a ∈ l, 0 ≤ a.2.2.1 ∧ 0 ≤ a.2.2.2) → capQ (p ||| q) l + capQ (p &&& q) l ≤ capQ p l + capQ q l
  | [], _ => by simp [capQ]
  | a :: l, h => by
    have := capQ_sums p q l (fun x hx => h x (List.mem_cons_of_mem _ hx))
    have h1 := h a (List.mem_cons_self ..)
    have := out1_sums p q a h1.1 h1.2
    simp only [capQ, List.map_cons, List.sum_cons] at *
    omega
theorem TameOk.plan {P pl m : Nat} {l : List Tri} (h : TameOk P pl m l) (hpl : pl ≤ 24) (hm : m ≤ 200) : planOk (P : Int) (arcsQ l) = true := by
  have h1 := h.P2
  have h2 := h.Ple
  have h3 := h.len
  simp only [planOk, Bool.and_eq_true, decide_eq_true_eq, List.all_eq_true]
  refine ⟨⟨⟨by omega, by omega⟩, by simp [arcsQ]; omega⟩, fun a ha => ?_⟩
  simp only [arcsQ, List.mem_map] at ha
  obtain ⟨x, hx, rfl⟩ := ha
  have := h.arc x hx
  simp only [okStep, two?, Bool.and_eq_true, decide_eq_true_eq]
  omega
theorem load24 {W : AW} {p : Nat} {x y : Value} (h : Var W p 24 [x, y]) : aLoadVar T0 W 24 p 0 = some (.agg ⟨[x, y]⟩) := h.load (T := T0) und24 agg24 inf24 is24
theorem capacity_bits {W : AW} {v sl : Value} {P s : Nat} {l : List Tri} (hP : P ≤ 24) (hok : planOk P (arcsQ l) = true) (hs : s < 2 ^ P) (h : TriIn W v l) (hS : IntL W sl (memb P s)) :
    WpF T0 24 [.agg ⟨[.int .i64 P, v]⟩, sl] W (fun u W' => Ext W W' ∧ u = .tuple ⟨[.int .i64 (capQ s (arcsQ l)), .int .i64 0]⟩) := by
  have hlen := memb_len P s
  refine (capacity_wp (P := (P : Int)) h hS (by omega)).mono ?_
  rintro u W' ⟨hE, ⟨_, _, hu⟩ | ⟨_, hn, _⟩ | ⟨hn, _⟩⟩
  · rw [memb_or hs] at hu; exact ⟨hE, hu⟩
  · exact absurd (memb_rise P s) hn
  · rw [hok] at hn; cases hn
theorem fun26 : T0.funcs.get 26 = some Tryd.f26 := by kernel_rfl
theorem tabs_name : ∀ t ∈ T0.tabs, t.name = 0 := fun t ht => by
  have e : T0.tabs.map (·.name) = [0] := by kernel_rfl
  have := List.mem_map_of_mem (f := (·.name)) ht
  rw [e] at this
  simpa using this
theorem flowSums_wp {W : AW} {v0 : Value} (P0 a b : Int) {l0 : List Tri} (h0 : TriIn W v0 l0) (hlen0 : l0.length < 9223372036854775808) (htb : tabsIn T0 T0.tabs W = true) (hW0 : 0 < W.next) :
    WpF T0 11 [.agg ⟨[.int .i64 P0, v0]⟩, .int .i64 a, .int .i64 b] W (fun u _ => u = .bool true) := by
  refine wpF fun11 rfl ?_
  have hV3 := Var.new W 24 [.int .i64 P0, v0]
  have hE1 : Ext W (W.newCells 24 [.int .i64 P0, v0]) := .newCells _ _ _
  have h01 := h0.ext hE1
  generalize hW1 : W.newCells 24 [.int .i64 P0, v0] = W1 at hV3 hE1 h01
  have hl3 := load24 hV3
  try simp only [wpK_assoc]
  refine wpK_reg (fun R hR => by simp [hW1]; exact hR) ?_
  try simp only [wpK_assoc]
  refine wpK_regc (J := fun A W' => Ext W1 W' ∧ A.n = 102 ∧ A.defers = [] ∧ A.tmps.get 1 = some (.int .i64 a) ∧ A.tmps.get 2 = some (.int .i64 b) ∧
    ∃ (px P : Nat) (l : List Tri) (v : Value), A.tmps.get 7 = some (.pointer (some ⟨px, 0, none⟩)) ∧ W1.next ≤ px ∧ TameOk P 20 60 l ∧ Var W' px 24 [.int .i64 P, v] ∧ TriIn W' v l) (fun R hR => ?_) ?_
  · simp [hl3, aEnter, fun30, short_other, aCallV]
    rw [callS_none]
    refine (tame_wp 20 60 (by omega) (by omega) (by omega) P0 h01 hlen0).mono ?_
    rintro _ W2 ⟨hE2, P, l, v, hT, rfl, hG⟩
    obtain ⟨av, cv, hvs⟩ := hG.len
    obtain ⟨W3, s1, s2, hE3, hVx⟩ := storeVar_new (T := T0) (W := W2) (t := 24) (v := .agg ⟨[.int .i64 P, v]⟩) (z := [.int .i64 0, .slice none 0 0]) inf24 (by rw [is24]; rfl) (by rw [is24]; rfl) (by rw [hvs]; rfl)
    simp [zero24, s1]
    apply hR
    exact ⟨hE2.trans hE3, rfl, rfl, by simp, by simp, W2.next, P, l, v, by simp, hE2.1, hT, hVx, (hG.tri).ext hE3⟩
  rintro ⟨tm, n, ds⟩ W2 ⟨hE2, hn, hd, h1, h2, px, P, l, v, h7, hpx, hT, hVx, hTri⟩
  simp only at hn hd h1 h2 h7
  subst hn; subst hd
  have hP2 := hT.P2
  have hPle := hT.Ple
  have hok := hT.plan (by omega) (by omega)
  have hll := hT.len
  have hlP : ∀ W', Ext W2 W' → aLoadVar T0 W' 3 px 0 = some (.int .i64 P) := fun W' hE => (hVx.ext hE).load1 (T := T0) und3 rfl (j := 0) (v := .int .i64 P) rfl
  have hlx : ∀ W', Ext W2 W' → aLoadVar T0 W' 24 px 0 = some (.agg ⟨[.int .i64 P, v]⟩) := fun W' hE => load24 (hVx.ext hE)
  obtain ⟨av, cv, hvs⟩ : ∃ A c, v = .slice A l.length c := let ⟨A, c, h, _⟩ := hTri; ⟨A, c, h⟩
  have hwP : IntKind.u64.wrap (P : Int) = P := IntWalk.u64_in _ (by omega)
  have hpow : 2 ^ P ≤ 2 ^ 20 := Nat.pow_le_pow_right (by omega) hPle
  have hpos : 0 < 2 ^ P := Nat.two_pow_pos P
  have hsh : aBinI .shl .i64 1 .u64 (P : Int) = some (.int .i64 ((2 ^ P : Nat) : Int)) := by
    have := aBinI_shl .i64 .u64 1 P (by show P ≤ 64; omega) (by rw [Nat.one_mul]; show 2 ^ P < 9223372036854775808; omega)
    rw [Nat.shiftLeft_eq, Nat.one_mul] at this; exact this
  have hws : IntKind.i64.wrap (((2 ^ P : Nat) : Int) - 1) = ((2 ^ P - 1 : Nat) : Int) := by rw [IntWalk.i64_in _ (by omega)]; omega
  obtain ⟨p, hpm, hpa⟩ := aBinI_mask .i64 a (2 ^ P - 1) (by show 2 ^ P - 1 < 9223372036854775808; omega)
  obtain ⟨q, hqm, hqa⟩ := aBinI_mask .i64 b (2 ^ P - 1) (by show 2 ^ P - 1 < 9223372036854775808; omega)
  have hp : p < 2 ^ P := by omega
  have hq : q < 2 ^ P := by omega
  have hor := aBinI_or .i64 p q (by show p < 9223372036854775808; omega) (by show q < 9223372036854775808; omega)
  have hand := aBinI_and .i64 p q (by show p < 9223372036854775808; omega) (by show q < 9223372036854775808; omega)
  have hpq : p ||| q < 2 ^ P := Nat.or_lt_two_pow hp hq
  have hpqa : p &&& q < 2 ^ P := Nat.lt_of_le_of_lt Nat.and_le_left hp
  have hin := arcsQ_in hok
  have hbnd : ∀ s, 0 ≤ capQ s (arcsQ l) ∧ capQ s (arcsQ l) ≤ 60000000000 := fun s => by
    have := capQ_le hin s (arcsQ l).length (Nat.le_refl _)
    rw [List.take_length] at this
    have e : (arcsQ l).length = l.length := by simp [arcsQ]
    rw [e] at this
    omega
  have hsum := capQ_sums p q (arcsQ l) (fun x hx => by have := hin.step hx; omega)
  generalize hal : 2 ^ P - 1 = al at hws hpa hqa
  generalize hpw : ((2 ^ P : Nat) : Int) = pw at hsh hws
  obtain ⟨po, hpo⟩ : ∃ po, po = p ||| q := ⟨_, rfl⟩
  obtain ⟨pa, hpa'⟩ : ∃ pa, pa = p &&& q := ⟨_, rfl⟩
  rw [← hpo] at hor hpq hsum
  rw [← hpa'] at hand hpqa hsum
  have hbp := hbnd p
  have hbq := hbnd q
  have hbo := hbnd po
  have hba := hbnd pa
  clear hpo hpa' hbnd
  have capB : ∀ (s : Nat), s < 2 ^ P → ∀ (W' : AW) (v' sl : Value), TriIn W' v' l → IntL W' sl (memb P s) → WpF T0 24 [.agg ⟨[.int .i64 P, v']⟩, sl] W' (fun u W'' => Ext W' W'' ∧ u = .tuple ⟨[.int .i64 (capQ s (arcsQ l)), .int .i64 0]⟩) := fun s hs W' v' sl g1 g2 => capacity_bits (by omega) hok hs g1 g2
  have hcp := capB p hp
  have hcq := capB q hq
  have hco := capB po hpq
  have hca := capB pa hpqa
  clear capB
  generalize capQ p (arcsQ l) = cu at hcp hbp hsum
  generalize capQ q (arcsQ l) = cv' at hcq hbq hsum
  generalize capQ po (arcsQ l) = cw at hco hbo hsum
  generalize capQ pa (arcsQ l) = cz at hca hba hsum
  try simp only [wpK_assoc]
  refine wpK_reg (fun R hR => by simp [h7, hlP W2 (.refl _ _), conv_3_82, hwP, hsh, hws]; exact hR) ?_
  try simp only [wpK_assoc]
  refine wpK_reg (fun R hR => by simp [h1, h2, hpa, hqa]; exact hR) ?_
  have hEx0 : Ext W2 W2 := .refl _ _
  try simp only [wpK_assoc]
  refine wpK_dr (wr := Tr.nil |>.set 33 0 |>.set 34 1 |>.set 35 2 |>.set 36 3 |>.set 37 4 |>.set 38 5 |>.set 39 6 |>.set 32 7 |>.set 40 8 |>.set 41 9 |>.set 11 10 |>.set 12 11) (bits := Tr.nil.lay 0 [0, 1, 0, 4, 0, 31, 63, 127, 255, 255, 511, 2047]) (ord := [0, 1, 2, 3, 4, 5, 6, 7, 8, 9, 10, 11])
    (J := fun A W' => Ext W2 W' ∧ A.n = 102 ∧ A.defers = [] ∧ A.tmps.get 7 = some (.pointer (some ⟨px, 0, none⟩)) ∧ A.tmps.get 9 = some (.int .i64 p) ∧ A.tmps.get 10 = some (.int .i64 q) ∧ A.tmps.get 11 = some (.int .i64 cu) ∧ A.tmps.get 12 = some (.int .i64 0))
    (by kernel_rfl) (by kernel_rfl) (by kernel_rfl) (fun G hGG => ?_) ?_
  · simp [h7, hlx W2 hEx0, hlP W2 hEx0, aEnter, fun12, short_other, aCallV]
    rw [dcallS_none]
    refine (net_wp (P := (P : Int)) (hTri.ext hEx0) (by omega)).mono ?_
    rintro _ Wa ⟨hEa, va, rfl, hGa⟩
    have hExa := hEx0.trans hEa
    simp [h7, hEa.1, hlx W2 hEx0, hlx Wa hExa, hlP W2 hEx0, hlP Wa hExa, aEnter, fun37, short_other, aCallV]
    rw [dcallS_none]
    refine (members_wp P p (by omega) Wa).mono ?_
    rintro sv Wb ⟨hEb, hGb⟩
    have hExb := hExa.trans hEb
    simp [h7, hEb.1, hlx W2 hEx0, hlx Wa hExa, hlx Wb hExb, hlP W2 hEx0, hlP Wa hExa, hlP Wb hExb, aEnter, fun24, short_other, aCallV]
    rw [dcallS_none]
    refine (hcp Wb va sv (hGa.tri.ext hEb) (GrowsN.ints hGb)).mono ?_
    rintro _ Wc ⟨hEc, rfl⟩
    have hExc := hExb.trans hEc
    simp [h7, hEc.1, hvs, hlx W2 hEx0, hlx Wa hExa, hlx Wb hExb, hlx Wc hExc, hlP W2 hEx0, hlP Wa hExa, hlP Wb hExb, hlP Wc hExc]
    apply hGG
    exact ⟨hExc, rfl, rfl, by simp [h7], by simp, by simp, by simp, by simp⟩
  rintro ⟨tm, n, ds⟩ W3 ⟨hEx3, hn, hd, h7, h9, h10, h11, h12⟩
  simp only at hn hd h7 h9 h10 h11 h12
  subst hn; subst hd
  try simp only [wpK_assoc]
  refine wpK_dr (wr := Tr.nil |>.set 43 0 |>.set 44 1 |>.set 45 2 |>.set 46 3 |>.set 47 4 |>.set 48 5 |>.set 49 6 |>.set 42 7 |>.set 50 8 |>.set 51 9 |>.set 13 10 |>.set 14 11) (bits := Tr.nil.lay 0 [0, 1, 0, 4, 0, 31, 63, 127, 255, 255, 511, 2047]) (ord := [0, 1, 2, 3, 4, 5, 6, 7, 8, 9, 10, 11])
    (J := fun A W' => Ext W2 W' ∧ A.n = 102 ∧ A.defers = [] ∧ A.tmps.get 7 = some (.pointer (some ⟨px, 0, none⟩)) ∧ A.tmps.get 9 = some (.int .i64 p) ∧ A.tmps.get 10 = some (.int .i64 q) ∧ A.tmps.get 11 = some (.int .i64 cu) ∧ A.tmps.get 12 = some (.int .i64 0) ∧ A.tmps.get 13 = some (.int .i64 cv') ∧ A.tmps.get 14 = some (.int .i64 0))
    (by kernel_rfl) (by kernel_rfl) (by kernel_rfl) (fun G hGG => ?_) ?_
  · simp [h7, h9, h10, hlx W3 hEx3, hlP W3 hEx3, aEnter, fun12, short_other, aCallV]
    rw [dcallS_none]
    refine (net_wp (P := (P : Int)) (hTri.ext hEx3) (by omega)).mono ?_
    rintro _ Wa ⟨hEa, va, rfl, hGa⟩
    have hExa := hEx3.trans hEa
    simp [h7, h9, h10, hEa.1, hlx W3 hEx3, hlx Wa hExa, hlP W3 hEx3, hlP Wa hExa, aEnter, fun37, short_other, aCallV]
    rw [dcallS_none]
    refine (members_wp P q (by omega) Wa).mono ?_
    rintro sv Wb ⟨hEb, hGb⟩
    have hExb := hExa.trans hEb
    simp [h7, h9, h10, hEb.1, hlx W3 hEx3, hlx Wa hExa, hlx Wb hExb, hlP W3 hEx3, hlP Wa hExa, hlP Wb hExb, aEnter, fun24, short_other, aCallV]
    rw [dcallS_none]
    refine (hcq Wb va sv (hGa.tri.ext hEb) (GrowsN.ints hGb)).mono ?_
    rintro _ Wc ⟨hEc, rfl⟩
    have hExc := hExb.trans hEc
    simp [h7, h9, h10, hEc.1, hvs, hlx W3 hEx3, hlx Wa hExa, hlx Wb hExb, hlx Wc hExc, hlP W3 hEx3, hlP Wa hExa, hlP Wb hExb, hlP Wc hExc]
    apply hGG
    exact ⟨hExc, rfl, rfl, by simp [h7], by simp [h9], by simp [h10], by simp [h11], by simp [h12], by simp, by simp⟩
  rintro ⟨tm, n, ds⟩ W4 ⟨hEx4, hn, hd, h7, h9, h10, h11, h12, h13, h14⟩
  simp only at hn hd h7 h9 h10 h11 h12 h13 h14
  subst hn; subst hd
  try simp only [wpK_assoc]
  refine wpK_dr (wr := Tr.nil |>.set 53 0 |>.set 54 1 |>.set 55 2 |>.set 56 3 |>.set 57 4 |>.set 58 5 |>.set 59 6 |>.set 60 7 |>.set 61 8 |>.set 52 9 |>.set 62 10 |>.set 63 11 |>.set 15 12 |>.set 16 13) (bits := Tr.nil.lay 0 [0, 1, 0, 4, 0, 0, 48, 127, 255, 511, 1023, 1023, 2047, 8191]) (ord := [0, 1, 2, 3, 4, 5, 6, 7, 8, 9, 10, 11, 12, 13])
    (J := fun A W' => Ext W2 W' ∧ A.n = 102 ∧ A.defers = [] ∧ A.tmps.get 7 = some (.pointer (some ⟨px, 0, none⟩)) ∧ A.tmps.get 9 = some (.int .i64 p) ∧ A.tmps.get 10 = some (.int .i64 q) ∧ A.tmps.get 11 = some (.int .i64 cu) ∧ A.tmps.get 12 = some (.int .i64 0) ∧ A.tmps.get 13 = some (.int .i64 cv') ∧ A.tmps.get 14 = some (.int .i64 0) ∧ A.tmps.get 15 = some (.int .i64 cw) ∧ A.tmps.get 16 = some (.int .i64 0))
    (by kernel_rfl) (by kernel_rfl) (by kernel_rfl) (fun G hGG => ?_) ?_
  · simp [h7, h9, h10, hlx W4 hEx4, hlP W4 hEx4, aEnter, fun12, short_other, aCallV]
    rw [dcallS_none]
    refine (net_wp (P := (P : Int)) (hTri.ext hEx4) (by omega)).mono ?_
    rintro _ Wa ⟨hEa, va, rfl, hGa⟩
    have hExa := hEx4.trans hEa
    simp [h7, h9, h10, hor, hEa.1, hlx W4 hEx4, hlx Wa hExa, hlP W4 hEx4, hlP Wa hExa, aEnter, fun37, short_other, aCallV]
    rw [dcallS_none]
    refine (members_wp P po (by omega) Wa).mono ?_
    rintro sv Wb ⟨hEb, hGb⟩
    have hExb := hExa.trans hEb
    simp [h7, h9, h10, hor, hEb.1, hlx W4 hEx4, hlx Wa hExa, hlx Wb hExb, hlP W4 hEx4, hlP Wa hExa, hlP Wb hExb, aEnter, fun24, short_other, aCallV]
    rw [dcallS_none]
    refine (hco Wb va sv (hGa.tri.ext hEb) (GrowsN.ints hGb)).mono ?_
    rintro _ Wc ⟨hEc, rfl⟩
    have hExc := hExb.trans hEc
    simp [h7, h9, h10, hor, hEc.1, hvs, hlx W4 hEx4, hlx Wa hExa, hlx Wb hExb, hlx Wc hExc, hlP W4 hEx4, hlP Wa hExa, hlP Wb hExb, hlP Wc hExc]
    apply hGG
    exact ⟨hExc, rfl, rfl, by simp [h7], by simp [h9], by simp [h10], by simp [h11], by simp [h12], by simp [h13], by simp [h14], by simp, by simp⟩
  rintro ⟨tm, n, ds⟩ W5 ⟨hEx5, hn, hd, h7, h9, h10, h11, h12, h13, h14, h15, h16⟩
  simp only at hn hd h7 h9 h10 h11 h12 h13 h14 h15 h16
  subst hn; subst hd
  try simp only [wpK_assoc]
  refine wpK_dr (wr := Tr.nil |>.set 65 0 |>.set 66 1 |>.set 67 2 |>.set 68 3 |>.set 69 4 |>.set 70 5 |>.set 71 6 |>.set 72 7 |>.set 73 8 |>.set 64 9 |>.set 74 10 |>.set 75 11 |>.set 17 12 |>.set 18 13) (bits := Tr.nil.lay 0 [0, 1, 0, 4, 0, 0, 48, 127, 255, 511, 1023, 1023, 2047, 8191]) (ord := [0, 1, 2, 3, 4, 5, 6, 7, 8, 9, 10, 11, 12, 13])
    (J := fun A W' => Ext W2 W' ∧ A.n = 102 ∧ A.defers = [] ∧ A.tmps.get 7 = some (.pointer (some ⟨px, 0, none⟩)) ∧ A.tmps.get 9 = some (.int .i64 p) ∧ A.tmps.get 10 = some (.int .i64 q) ∧ A.tmps.get 11 = some (.int .i64 cu) ∧ A.tmps.get 12 = some (.int .i64 0) ∧ A.tmps.get 13 = some (.int .i64 cv') ∧ A.tmps.get 14 = some (.int .i64 0) ∧ A.tmps.get 15 = some (.int .i64 cw) ∧ A.tmps.get 16 = some (.int .i64 0) ∧ A.tmps.get 17 = some (.int .i64 cz) ∧ A.tmps.get 18 = some (.int .i64 0))
    (by kernel_rfl) (by kernel_rfl) (by kernel_rfl) (fun G hGG => ?_) ?_
  · simp [h7, h9, h10, hlx W5 hEx5, hlP W5 hEx5, aEnter, fun12, short_other, aCallV]
    rw [dcallS_none]
    refine (net_wp (P := (P : Int)) (hTri.ext hEx5) (by omega)).mono ?_
    rintro _ Wa ⟨hEa, va, rfl, hGa⟩
    have hExa := hEx5.trans hEa
    simp [h7, h9, h10, hand, hEa.1, hlx W5 hEx5, hlx Wa hExa, hlP W5 hEx5, hlP Wa hExa, aEnter, fun37, short_other, aCallV]
    rw [dcallS_none]
    refine (members_wp P pa (by omega) Wa).mono ?_
    rintro sv Wb ⟨hEb, hGb⟩
    have hExb := hExa.trans hEb
    simp [h7, h9, h10, hand, hEb.1, hlx W5 hEx5, hlx Wa hExa, hlx Wb hExb, hlP W5 hEx5, hlP Wa hExa, hlP Wb hExb, aEnter, fun24, short_other, aCallV]
    rw [dcallS_none]
    refine (hca Wb va sv (hGa.tri.ext hEb) (GrowsN.ints hGb)).mono ?_
    rintro _ Wc ⟨hEc, rfl⟩
    have hExc := hExb.trans hEc
    simp [h7, h9, h10, hand, hEc.1, hvs, hlx W5 hEx5, hlx Wa hExa, hlx Wb hExb, hlx Wc hExc, hlP W5 hEx5, hlP Wa hExa, hlP Wb hExb, hlP Wc hExc]
    apply hGG
    exact ⟨hExc, rfl, rfl, by simp [h7], by simp [h9], by simp [h10], by simp [h11], by simp [h12], by simp [h13], by simp [h14], by simp [h15], by simp [h16], by simp, by simp⟩
  rintro ⟨tm, n, ds⟩ W6 ⟨hEx6, hn, hd, h7, h9, h10, h11, h12, h13, h14, h15, h16, h17, h18⟩
  simp only at hn hd h7 h9 h10 h11 h12 h13 h14 h15 h16 h17 h18
  subst hn; subst hd
  have hw1 : IntKind.i64.wrap (cw + cz) = cw + cz := IntWalk.i64_in _ (by omega)
  have hw2 : IntKind.i64.wrap (cu + cv') = cu + cv' := IntWalk.i64_in _ (by omega)
  have htb6 : tabsIn T0 T0.tabs W6 = true := tabsIn_only htb (fun t ht => by
    have : t.name < W.next := by rw [tabs_name t ht]; exact hW0
    have e1 := hE1.1
    have e2 := hE2.1
    rw [hEx6.2 t.name (by omega) (fun x => x), hE2.2 t.name (by omega) (fun x => x), hE1.2 t.name this (fun x => x)])
  try simp only [wpK_assoc]
  refine wpK_reg (fun R hR => by simp [h11, h12, h13, h14, h15, h16, h17, h18, hw1, hw2, hsum, aEnter, fun26, short_awake, aCallV, htb6]; exact hR) ?_
  exact wpK_ret ⟨.inr rfl, rfl, [.bool true], by simp, rfl⟩
end Go.Proofs.YtkgfjfkgmpeobaaDoor

open Go Go.Eng
namespace Go.Proofs.YtkgfjfkgmpeobaaDoor
attribute [local congr] undef_congr WpK.congr WpS.congr WpL.congr WpC.congr WpF.congr gotS.congr callS.congr nextS.congr wantS.congr condS.congr
attribute [local irreducible] WpK
attribute [local simp] WpDr_nil WpDr_cons atS_some dwantS_true dwantS_false kindS_light kindS_float kindS_heavy lightS_value floatS_some heavyS_value heavyS_skip heavyS_enter dcallS_some doneS_eq
  isLight isFloat isPlain dLook testBit_dec dChain dLights_nil dLights_skip dLights_one dLight_nil dLight_cons dFreshes_nil dFreshes_one oneF_none oneF_some dFresh_nil dFresh_cons oneL_some oneW_true oneW_false sameV_value dPut dMay valEq arrEq listEq List.getElem?_cons Tr.get_nil dEnd
attribute [local simp] WpS_nil WpS_cons isDefer undef_false wantS_true wantS_false nextS_value nextS_skip nextS_enter callS_some gotS_some aWanted aOp aEvalF aEval opMove opAssign opPick aVal flat flat1 AAct.put opBinOp opConvert opIndex Tr.get_set Tr.get_lay aBin aResults tupled
  aCall aVals aCallB blt_dec ble_dec beq_dec aBinI_add aBinI_sub aBinI_lss aBinI_leq aBinI_gtr aBinI_geq aBinI_eql aBinI_neq index_str len_str len_slice Nat.beq_refl und2 und3 und4 und5 und39 und76 und82 und115 und22 und29 und25 und33 und46 und43 und49 und111
  field78 field106 field24 field31 field27 field35 field108 field109 opBox opLoad opFieldAddr opIndexAddr acells aAddr opExtract aExtract opUnOp opAlloc opStore opMakeInterface opNilCheck opBuild aParts opBuildSlice aValW
set_option maxHeartbeats 4000000
theorem und113 : T0.und.get 113 = some (.pointer 155) := by kernel_rfl
theorem inf132 : T0.info.get 132 = some Tryd.t132 := by kernel_rfl
theorem is132 : Tryd.t132.size = 24 := by kernel_rfl
theorem field151 (b o f : Nat) (hf : f < 2) : aField T0 151 (.pointer (some ⟨b, o, none⟩)) f = some (.pointer (some ⟨b, o + f, none⟩)) := by
  match f, hf with
  | 0, _ => rfl
  | 1, _ => rfl
theorem field155_0 (b o : Nat) : aField T0 155 (.pointer (some ⟨b, o, none⟩)) 0 = some (.pointer (some ⟨b, o, none⟩)) := by kernel_rfl
theorem field155_1 (b o : Nat) : aField T0 155 (.pointer (some ⟨b, o, none⟩)) 1 = some (.pointer (some ⟨b, o + 800, none⟩)) := by kernel_rfl
theorem field155_2 (b o : Nat) : aField T0 155 (.pointer (some ⟨b, o, none⟩)) 2 = some (.pointer (some ⟨b, o + 824, none⟩)) := by kernel_rfl
theorem field155_3 (b o : Nat) : aField T0 155 (.pointer (some ⟨b, o, none⟩)) 3 = some (.pointer (some ⟨b, o + 825, none⟩)) := by kernel_rfl
theorem field155_4 (b o : Nat) : aField T0 155 (.pointer (some ⟨b, o, none⟩)) 4 = some (.pointer (some ⟨b, o + 826, none⟩)) := by kernel_rfl
structure Stp where
  a : Nat
  b : Nat
  c : Int
  d : Int
def stp (L : List Stp) (i : Nat) : Stp := (L[i]?).getD ⟨0, 0, 0, 0⟩
def hTo (L : List Stp) (h : Nat) : Nat := if h % 2 = 0 then (stp L (h / 2)).b else (stp L (h / 2)).a
def hFrom (L : List Stp) (h : Nat) : Nat := if h % 2 = 0 then (stp L (h / 2)).a else (stp L (h / 2)).b
def hCap (L : List Stp) (h : Nat) : Int := if h % 2 = 0 then (stp L (h / 2)).c else (stp L (h / 2)).d
def outs1 (x : Stp) (i q : Nat) : List Nat := (if x.a = q then [2 * i] else []) ++ (if x.b = q then [2 * i + 1] else [])
def outsL (L : List Stp) (q : Nat) : Nat → List Nat
  | 0 => []
  | i + 1 => outsL L q i ++ outs1 (stp L i) i q
structure StpsOk (L : List Stp) : Prop where
  len : L.length ≤ 200
  ok : ∀ i, i < L.length → (stp L i).a < 24 ∧ (stp L i).b < 24 ∧ 0 ≤ (stp L i).c ∧ (stp L i).c ≤ 1000000000 ∧ 0 ≤ (stp L i).d ∧ (stp L i).d ≤ 1000000000
theorem StpsOk.to {L : List Stp} (h : StpsOk L) {x : Nat} (hx : x < 2 * L.length) : hTo L x < 24 ∧ hFrom L x < 24 ∧ 0 ≤ hCap L x ∧ hCap L x ≤ 1000000000 := by
  have := h.ok (x / 2) (by omega)
  unfold hTo hFrom hCap
  split <;> omega
def natsV (l : List Nat) : List Value := l.map fun h : Nat => Value.int .i64 (h : Int)
def OutL (W : AW) (p B : Nat) (v : Value) (l : List Nat) : Prop := ∃ A c, v = .slice A l.length c ∧ ∀ (i : Nat) x, l[i]? = some x → ∃ b o, A = some ⟨b, o, none⟩ ∧ b < B ∧ b ≠ p ∧ W.Has b (o + i) (.int .i64 (x : Nat))
structure Wk (W : AW) (p B : Nat) (L : List Stp) (s t : Nat) (rm : Nat → Int) (lv : Nat → Nat) : Prop where
  lt : p < B
  Ble : B ≤ W.next
  cells : ∃ c, W.blocks.get p = some ⟨.cells c 850 155, []⟩ ∧ (∀ h, h < 2 * L.length → c.get (2 * h) = some (.int .i64 (hTo L h : Nat)) ∧ c.get (2 * h + 1) = some (.int .i64 (rm h))) ∧
    (∀ q, q < 24 → ∃ v, c.get (800 + q) = some v ∧ OutL W p B v (outsL L q L.length)) ∧ c.get 824 = some (.int .i64 (s : Nat)) ∧ c.get 825 = some (.int .i64 (t : Nat)) ∧ ∀ q, q < 24 → c.get (826 + q) = some (.int .i64 (lv q : Nat))
theorem OutL.only {W W' : AW} {p B : Nat} {v : Value} {l : List Nat} {K : Nat → Prop} (h : OutL W p B v l) (he : Only K W W') (hk : ∀ b, b < B → b ≠ p → ¬ K b) : OutL W' p B v l := by
  obtain ⟨A, c, h1, h2⟩ := h
  refine ⟨A, c, h1, fun i a hi => ?_⟩
  obtain ⟨b, o, g1, g2, g3, g4⟩ := h2 i a hi
  exact ⟨b, o, g1, g2, g3, g4.only he (hk b g2 g3)⟩
theorem Wk.only {W W' : AW} {p B : Nat} {L : List Stp} {s t : Nat} {rm : Nat → Int} {lv : Nat → Nat} {K : Nat → Prop} (h : Wk W p B L s t rm lv) (he : Only K W W') (hk : ∀ b, b < B → ¬ K b) : Wk W' p B L s t rm lv := by
  obtain ⟨h1, h2, c, h3, h4, h5, h6⟩ := h
  refine ⟨h1, Nat.le_trans h2 he.1, c, by rw [he.2 p (by omega) (hk p h1)]; exact h3, h4, fun q hq => ?_, h6⟩
  obtain ⟨v, g1, g2⟩ := h5 q hq
  exact ⟨v, g1, g2.only he (fun b hb _ => hk b hb)⟩
theorem Wk.ext {W W' : AW} {p B : Nat} {L : List Stp} {s t : Nat} {rm : Nat → Int} {lv : Nat → Nat} (h : Wk W p B L s t rm lv) (he : Ext W W') : Wk W' p B L s t rm lv := h.only he (fun _ _ x => x)
theorem Wk.has {W : AW} {p B : Nat} {L : List Stp} {s t : Nat} {rm : Nat → Int} {lv : Nat → Nat} (h : Wk W p B L s t rm lv) :
    (∀ x, x < 2 * L.length → 2 * L.length ≤ 400 → W.Has p (2 * x) (.int .i64 (hTo L x : Nat)) ∧ W.Has p (2 * x + 1) (.int .i64 (rm x))) ∧ (∀ q, q < 24 → ∃ v, W.Has p (800 + q) v ∧ OutL W p B v (outsL L q L.length)) ∧
      W.Has p 824 (.int .i64 (s : Nat)) ∧ W.Has p 825 (.int .i64 (t : Nat)) ∧ ∀ q, q < 24 → W.Has p (826 + q) (.int .i64 (lv q : Nat)) := by
  obtain ⟨h1, h2, c, h3, h4, h5, h6, h7, h8⟩ := h
  have key : ∀ o v, o < 850 → c.get o = some v → W.Has p o v := fun o v ho hv => ⟨by omega, by simp only [AW.cell, h3, blt_dec, ho, decide_true]; exact hv⟩
  refine ⟨fun x hx hx2 => ⟨key _ _ (by omega) (h4 x hx).1, key _ _ (by omega) (h4 x hx).2⟩, fun q hq => ?_, key _ _ (by omega) h6, key _ _ (by omega) h7, fun q hq => key _ _ (by omega) (h8 q hq)⟩
  obtain ⟨v, g1, g2⟩ := h5 q hq
  exact ⟨v, key _ _ (by omega) g1, g2⟩
def upd {α : Type} (f : Nat → α) (k : Nat) (v : α) : Nat → α := fun x => if x = k then v else f x
theorem Wk.store {W : AW} {p B : Nat} {L : List Stp} {s t : Nat} {rm : Nat → Int} {lv : Nat → Nat} (h : Wk W p B L s t rm lv) {ty : TypeId} {i : TypeInfo} {o : Nat} {x : Int} (hi : T0.info.get ty = some i) (hs : i.size = 1) (ho : o < 850) {rm' : Nat → Int} {lv' : Nat → Nat}
    (hr : ∀ x', x' < 2 * L.length → (2 * x' ≠ o) ∧ (2 * x' + 1 = o → rm' x' = x) ∧ (2 * x' + 1 ≠ o → rm' x' = rm x')) (hq : ∀ q, q < 24 → (800 + q ≠ o) ∧ (826 + q = o → (lv' q : Int) = x) ∧ (826 + q ≠ o → lv' q = lv q)) (h4 : o ≠ 824) (h5 : o ≠ 825) :
    ∃ W', aStoreVar T0 W ty p o (.int .i64 x) = some W' ∧ W'.next = W.next ∧ Only (fun b => b = p) W W' ∧ Wk W' p B L s t rm' lv' := by
  obtain ⟨h1, h2, c, h3, g4, g5, g6, g7, g8⟩ := h
  obtain ⟨W', a1, a2, a3, a4⟩ := storeVar_own (T := T0) (t := ty) (v := .int .i64 x) (o := o) hi (by rw [hs]; rfl) h3 (by show o + 1 ≤ 850; omega) rfl
  have hO : Only (fun b => b = p) W W' := ⟨by omega, fun b _ hb => a3 b hb⟩
  refine ⟨W', a1, a2, hO, h1, by omega, c.set o (.int .i64 x), by rw [a4]; rfl, fun y hy => ?_, fun q hq' => ?_, ?_, ?_, fun q hq' => ?_⟩
  · obtain ⟨k1, k2, k3⟩ := hr y hy
    obtain ⟨m1, m2⟩ := g4 y hy
    refine ⟨by rw [Tr.get_set, if_neg k1]; exact m1, ?_⟩
    rw [Tr.get_set]
    by_cases e : 2 * y + 1 = o
    · rw [if_pos e, k2 e]
    · rw [if_neg e, k3 e]; exact m2
  · obtain ⟨v, m1, m2⟩ := g5 q hq'
    exact ⟨v, by rw [Tr.get_set, if_neg (hq q hq').1]; exact m1, m2.only hO (fun b _ hb e => hb e)⟩
  · rw [Tr.get_set, if_neg (fun e => h4 e.symm)]; exact g6
  · rw [Tr.get_set, if_neg (fun e => h5 e.symm)]; exact g7
  · obtain ⟨_, k2, k3⟩ := hq q hq'
    rw [Tr.get_set]
    by_cases e : 826 + q = o
    · rw [if_pos e, ← k2 e]
    · rw [if_neg e, k3 e]; exact g8 q hq'
theorem rep_get (v : Value) : ∀ (n q : Nat), q < n → (rep [v] n)[q]? = some v
  | 0, _, h => by omega
  | n + 1, 0, _ => rfl
  | n + 1, q + 1, h => by
    show ([v] ++ rep [v] n)[q + 1]? = _
    rw [List.getElem?_append_right (by simp)]
    simpa using rep_get v n q (by omega)
theorem Wk.clear {W : AW} {p B : Nat} {L : List Stp} {s t : Nat} {rm : Nat → Int} {lv : Nat → Nat} (h : Wk W p B L s t rm lv) (h200 : L.length ≤ 200) :
    ∃ W', aStoreVar T0 W 132 p 826 (.agg ⟨rep [.int .i64 0] 24⟩) = some W' ∧ W'.next = W.next ∧ Only (fun b => b = p) W W' ∧ Wk W' p B L s t rm (fun _ => 0) := by
  obtain ⟨h1, h2, c, h3, g4, g5, g6, g7, g8⟩ := h
  have hlen : (acells (.agg ⟨rep [.int .i64 0] 24⟩)).length = 24 := by decide
  obtain ⟨W', a1, a2, a3, a4⟩ := storeVar_own (T := T0) (t := 132) (v := .agg ⟨rep [.int .i64 0] 24⟩) (o := 826) inf132 (by rw [is132]; exact hlen) h3 (by rw [hlen]; omega) (by decide)
  have hO : Only (fun b => b = p) W W' := ⟨by omega, fun b _ hb => a3 b hb⟩
  have hget : ∀ j, (c.lay 826 (acells (.agg ⟨rep [.int .i64 0] 24⟩))).get j = if 826 ≤ j ∧ j < 826 + 24 then (rep [Value.int .i64 0] 24)[j - 826]? else c.get j := fun j => by
    rw [Tr.get_lay, hlen]; rfl
  refine ⟨W', a1, a2, hO, h1, by omega, _, a4, fun y hy => ?_, fun q hq' => ?_, ?_, ?_, fun q hq' => ?_⟩
  · rw [hget, hget, if_neg (by omega), if_neg (by omega)]; exact g4 y hy
  · obtain ⟨v, m1, m2⟩ := g5 q hq'
    exact ⟨v, by rw [hget, if_neg (by omega)]; exact m1, m2.only hO (fun b _ hb e => hb e)⟩
  · rw [hget, if_neg (by omega)]; exact g6
  · rw [hget, if_neg (by omega)]; exact g7
  · rw [hget, if_pos (by omega), show 826 + q - 826 = q from by omega]
    exact rep_get _ 24 q hq'
end Go.Proofs.YtkgfjfkgmpeobaaDoor

open Go Go.Eng
namespace Go.Proofs.YtkgfjfkgmpeobaaDoor
attribute [local congr] undef_congr WpK.congr WpS.congr WpL.congr WpC.congr WpF.congr gotS.congr callS.congr nextS.congr wantS.congr condS.congr
attribute [local irreducible] WpK
attribute [local simp] WpDr_nil WpDr_cons atS_some dwantS_true dwantS_false kindS_light kindS_float kindS_heavy lightS_value floatS_some heavyS_value heavyS_skip heavyS_enter dcallS_some doneS_eq
  isLight isFloat isPlain dLook testBit_dec dChain dLights_nil dLights_skip dLights_one dLight_nil dLight_cons dFreshes_nil dFreshes_one oneF_none oneF_some dFresh_nil dFresh_cons oneL_some oneW_true oneW_false sameV_value dPut dMay valEq arrEq listEq List.getElem?_cons Tr.get_nil dEnd
attribute [local simp] WpS_nil WpS_cons isDefer undef_false wantS_true wantS_false nextS_value nextS_skip nextS_enter callS_some gotS_some aWanted aOp aEvalF aEval opMove opAssign opPick aVal flat flat1 AAct.put opBinOp opConvert opIndex Tr.get_set Tr.get_lay aBin aResults tupled
  aCall aVals aCallB blt_dec ble_dec beq_dec aBinI_add aBinI_sub aBinI_lss aBinI_leq aBinI_gtr aBinI_geq aBinI_eql aBinI_neq index_str len_str len_slice Nat.beq_refl und2 und3 und4 und5 und39 und76 und82 und115 und22 und29 und25 und33 und46 und43 und49 und111 und113 field151 field155_0 field155_1 field155_2 field155_3 field155_4
  field78 field106 field24 field31 field27 field35 field108 field109 opBox opLoad opFieldAddr opIndexAddr acells aAddr opExtract aExtract opUnOp opAlloc opStore opMakeInterface opNilCheck opBuild aParts opBuildSlice aValW
set_option maxHeartbeats 4000000
set_option linter.unusedSimpArgs false
set_option linter.unusedVariables false
structure Lev (L : List Stp) (s : Nat) (rm : Nat → Int) (lv : Nat → Nat) : Prop where
  src : lv s = 1
  le : ∀ q, q < 24 → lv q ≤ 25
  pre : ∀ q, q < 24 → 0 < lv q → q = s ∨ ∃ h, h < 2 * L.length ∧ hTo L h = q ∧ rm h ≠ 0 ∧ 0 < lv (hFrom L h) ∧ lv (hFrom L h) + 1 = lv q
def Closed (L : List Stp) (rm : Nat → Int) (lv : Nat → Nat) : Prop := ∀ h, h < 2 * L.length → 0 < lv (hFrom L h) → rm h ≠ 0 → 0 < lv (hTo L h)
structure Line (L : List Stp) (s t : Nat) (rm : Nat → Int) (lv : Nat → Nat) (ln : List Nat) : Prop where
  lev : Lev L s rm lv
  mem : ∀ q, q < 24 → (0 < lv q ↔ q ∈ ln)
  nd : ln.Nodup
  lt : ∀ q ∈ ln, q < 24
  ix : ∀ (j : Nat) x, ln[j]? = some x → lv x ≤ j + 1
  snk : lv t = 0
theorem nodup_le {l : List Nat} (h : l.Nodup) (hl : ∀ q ∈ l, q < 24) : l.length ≤ 24 := by
  have := h.length_le_of_subset (l₂ := List.range 24) (fun q hq => List.mem_range.2 (hl q hq))
  simpa using this
theorem Line.len {L : List Stp} {s t : Nat} {rm : Nat → Int} {lv : Nat → Nat} {ln : List Nat} (h : Line L s t rm lv ln) : ln.length ≤ 24 := nodup_le h.nd h.lt
theorem Line.add {L : List Stp} {s t : Nat} {rm : Nat → Int} {lv : Nat → Nat} {ln : List Nat} (h : Line L s t rm lv ln) {i x y : Nat} (hi : ln[i]? = some x) (hy : y < 2 * L.length) (hf : hFrom L y = x) (hr : rm y ≠ 0) (h0 : lv (hTo L y) = 0) (hto : hTo L y < 24) (ht : t < 24) :
    Lev L s rm (upd lv (hTo L y) (lv x + 1)) ∧ (hTo L y ≠ t → Line L s t rm (upd lv (hTo L y) (lv x + 1)) (ln ++ [hTo L y])) := by
  have hxm : x ∈ ln := List.mem_of_getElem? hi
  have hxl := h.lt x hxm
  have hx0 := (h.mem x hxl).2 hxm
  have hilt := (List.getElem?_eq_some_iff.1 hi).1
  have hlen := h.len
  have hxi := h.ix i x hi
  have hLev : Lev L s rm (upd lv (hTo L y) (lv x + 1)) := by
    refine ⟨?_, fun q hq => ?_, fun q hq hpos => ?_⟩
    · unfold upd; rw [if_neg (fun e => by rw [← e, h.lev.src] at h0; omega)]; exact h.lev.src
    · unfold upd; split
      · omega
      · exact h.lev.le q hq
    · by_cases e : q = hTo L y
      · subst e
        right
        refine ⟨y, hy, rfl, hr, ?_, ?_⟩
        · rw [hf]; unfold upd; rw [if_neg (fun e => by rw [e] at hx0; omega)]; exact hx0
        · rw [hf]; unfold upd; rw [if_neg (fun e => by rw [e] at hx0; omega), if_pos rfl]
      · have hq0 : 0 < lv q := by unfold upd at hpos; rw [if_neg e] at hpos; exact hpos
        rcases h.lev.pre q hq hq0 with h1 | ⟨z, z1, z2, z3, z4, z5⟩
        · exact .inl h1
        · right
          have hz : hFrom L z ≠ hTo L y := fun e => by rw [e] at z4; omega
          refine ⟨z, z1, z2, z3, ?_, ?_⟩
          · unfold upd; rw [if_neg hz]; exact z4
          · unfold upd; rw [if_neg hz, if_neg e]; exact z5
  refine ⟨hLev, fun hne => ⟨hLev, fun q hq => ?_, ?_, fun q hq => ?_, fun j z hz => ?_, ?_⟩⟩
  · rw [List.mem_append, List.mem_singleton]
    unfold upd
    by_cases e : q = hTo L y
    · rw [if_pos e]; simp [e]
    · rw [if_neg e, h.mem q hq]; simp [e]
  · rw [List.nodup_append]
    refine ⟨h.nd, by simp, fun a ha b hb => ?_⟩
    rw [List.mem_singleton] at hb; subst hb
    intro e; subst e
    have := (h.mem _ hto).2 ha
    omega
  · rcases List.mem_append.1 hq with hq | hq
    · exact h.lt q hq
    · rw [List.mem_singleton] at hq; subst hq; exact hto
  · by_cases hj : j < ln.length
    · rw [List.getElem?_append_left hj] at hz
      have hzm : z ∈ ln := List.mem_of_getElem? hz
      have : z ≠ hTo L y := fun e => by subst e; have := (h.mem _ hto).2 hzm; omega
      unfold upd; rw [if_neg this]; exact h.ix j z hz
    · rw [List.getElem?_append_right (by omega)] at hz
      have hj' : j - ln.length = 0 := by
        have := (List.getElem?_eq_some_iff.1 hz).1
        simp at this; omega
      rw [hj'] at hz
      simp at hz; subst hz
      unfold upd; rw [if_pos rfl]; omega
  · unfold upd; rw [if_neg (fun e => hne e.symm)]; exact h.snk
def Measured (L : List Stp) (s t : Nat) (rm : Nat → Int) (v : Value) (lv : Nat → Nat) : Prop := Lev L s rm lv ∧ ((v = .bool true ∧ 0 < lv t) ∨ (v = .bool false ∧ lv t = 0 ∧ Closed L rm lv))
end Go.Proofs.YtkgfjfkgmpeobaaDoor

open Go Go.Eng
namespace Go.Proofs.YtkgfjfkgmpeobaaDoor
attribute [local congr] undef_congr WpK.congr WpS.congr WpL.congr WpC.congr WpF.congr gotS.congr callS.congr nextS.congr wantS.congr condS.congr
attribute [local irreducible] WpK
attribute [local simp] WpDr_nil WpDr_cons atS_some dwantS_true dwantS_false kindS_light kindS_float kindS_heavy lightS_value floatS_some heavyS_value heavyS_skip heavyS_enter dcallS_some doneS_eq
  isLight isFloat isPlain dLook testBit_dec dChain dLights_nil dLights_skip dLights_one dLight_nil dLight_cons dFreshes_nil dFreshes_one oneF_none oneF_some dFresh_nil dFresh_cons oneL_some oneW_true oneW_false sameV_value dPut dMay valEq arrEq listEq List.getElem?_cons Tr.get_nil dEnd
attribute [local simp] WpS_nil WpS_cons isDefer undef_false wantS_true wantS_false nextS_value nextS_skip nextS_enter callS_some gotS_some aWanted aOp aEvalF aEval opMove opAssign opPick aVal flat flat1 AAct.put opBinOp opConvert opIndex Tr.get_set Tr.get_lay aBin aResults tupled
  aCall aVals aCallB blt_dec ble_dec beq_dec aBinI_add aBinI_sub aBinI_lss aBinI_leq aBinI_gtr aBinI_geq aBinI_eql aBinI_neq index_str len_str len_slice Nat.beq_refl und2 und3 und4 und5 und39 und76 und82 und115 und22 und29 und25 und33 und46 und43 und49 und111 und113 field151 field155_0 field155_1 field155_2 field155_3 field155_4
  field78 field106 field24 field31 field27 field35 field108 field109 opBox opLoad opFieldAddr opIndexAddr acells aAddr opExtract aExtract opUnOp opAlloc opStore opMakeInterface opNilCheck opBuild aParts opBuildSlice aValW
set_option maxHeartbeats 4000000
set_option linter.unusedSimpArgs false
set_option linter.unusedVariables false
def flip (y : Nat) : Nat := if y % 2 = 0 then y + 1 else y - 1
theorem flip_lt {y m : Nat} (h : y < 2 * m) : flip y < 2 * m ∧ flip y ≠ y := by unfold flip; split <;> omega
def outN (L : List Stp) (rm : Nat → Int) (q : Nat) : Nat → Int
  | 0 => 0
  | i + 1 => outN L rm q i + ((if (stp L i).a = q then rm (2 * i) else 0) + (if (stp L i).b = q then rm (2 * i + 1) else 0))
structure Rooms (L : List Stp) (rm : Nat → Int) : Prop where
  nn : ∀ y, y < 2 * L.length → 0 ≤ rm y
  sum : ∀ y, y < 2 * L.length → rm y + rm (flip y) = hCap L y + hCap L (flip y)
theorem Rooms.le {L : List Stp} {rm : Nat → Int} (h : Rooms L rm) (hL : StpsOk L) {y : Nat} (hy : y < 2 * L.length) : rm y ≤ 2000000000 := by
  have h1 := h.sum y hy
  have h2 := h.nn _ (flip_lt hy).1
  have h3 := (hL.to hy).2.2.2
  have h4 := (hL.to (flip_lt hy).1).2.2.2
  omega
def send (rm : Nat → Int) (y : Nat) (g : Int) : Nat → Int := upd (upd rm y (rm y - g)) (flip y) (rm (flip y) + g)
def Dead (L : List Stp) (t : Nat) (rm : Nat → Int) (lv tr : Nat → Nat) : Prop := ∀ q, q < 24 → ∀ (j y : Nat), j < tr q → (outsL L q L.length)[j]? = some y → rm y = 0 ∨ lv (hTo L y) ≠ lv q + 1 ∨ (hTo L y ≠ t ∧ tr (hTo L y) = (outsL L (hTo L y) L.length).length)
theorem Dead.step {L : List Stp} {t : Nat} {rm : Nat → Int} {lv tr : Nat → Nat} (h : Dead L t rm lv tr) {x y : Nat} (hlt : tr x < (outsL L x L.length).length) (hy : (outsL L x L.length)[tr x]? = some y)
    (hu : rm y = 0 ∨ lv (hTo L y) ≠ lv x + 1 ∨ (hTo L y ≠ t ∧ tr (hTo L y) = (outsL L (hTo L y) L.length).length)) : Dead L t rm lv (upd tr x (tr x + 1)) := by
  have stay : ∀ z, tr z = (outsL L z L.length).length → upd tr x (tr x + 1) z = (outsL L z L.length).length := fun z hz => by
    unfold upd; split
    · rename_i e; subst e; omega
    · exact hz
  intro q hq j z hj hz
  have key : rm z = 0 ∨ lv (hTo L z) ≠ lv q + 1 ∨ (hTo L z ≠ t ∧ tr (hTo L z) = (outsL L (hTo L z) L.length).length) := by
    by_cases e : q = x
    · subst e
      unfold upd at hj; rw [if_pos rfl] at hj
      by_cases e2 : j = tr q
      · subst e2; rw [hy] at hz; cases hz; exact hu
      · exact h q hq j z (by omega) hz
    · unfold upd at hj; rw [if_neg e] at hj
      exact h q hq j z hj hz
  rcases key with k | k | ⟨k1, k2⟩
  · exact .inl k
  · exact .inr (.inl k)
  · exact .inr (.inr ⟨k1, stay _ k2⟩)
def TrV (W : AW) (bt : Nat) (tr : Nat → Nat) : Prop := bt < W.next ∧ ∃ c, W.blocks.get bt = some ⟨.cells c 24 132, []⟩ ∧ ∀ q, q < 24 → c.get q = some (.int .i64 (tr q : Nat))
theorem TrV.only {W W' : AW} {bt : Nat} {tr : Nat → Nat} {K : Nat → Prop} (h : TrV W bt tr) (ho : Only K W W') (hk : ¬ K bt) : TrV W' bt tr := by
  obtain ⟨h1, c, h2, h3⟩ := h
  exact ⟨Nat.lt_of_lt_of_le h1 ho.1, c, by rw [ho.2 bt h1 hk]; exact h2, h3⟩
theorem TrV.has {W : AW} {bt : Nat} {tr : Nat → Nat} (h : TrV W bt tr) {q : Nat} (hq : q < 24) : W.Has bt q (.int .i64 (tr q : Nat)) := by
  obtain ⟨h1, c, h2, h3⟩ := h
  exact ⟨h1, by simp only [AW.cell, h2, blt_dec, hq, decide_true]; exact h3 q hq⟩
theorem TrV.set {W : AW} {bt : Nat} {tr : Nat → Nat} (h : TrV W bt tr) {q : Nat} (hq : q < 24) (x : Nat) :
    ∃ W', aStoreVar T0 W 3 bt q (.int .i64 (x : Nat)) = some W' ∧ W'.next = W.next ∧ Only (fun b => b = bt) W W' ∧ TrV W' bt (upd tr q x) := by
  obtain ⟨h1, c, h2, h3⟩ := h
  obtain ⟨W', a1, a2, a3, a4⟩ := storeVar_own (T := T0) (t := 3) (v := .int .i64 (x : Nat)) (o := q) inf3 (by rw [is3]; rfl) h2 (by show q + 1 ≤ 24; omega) rfl
  refine ⟨W', a1, a2, ⟨by omega, fun b _ hb => a3 b hb⟩, by omega, c.set q (.int .i64 (x : Nat)), by rw [a4]; rfl, fun z hz => ?_⟩
  rw [Tr.get_set]; unfold upd
  by_cases e : z = q
  · rw [if_pos e, if_pos e]
  · rw [if_neg e, if_neg e]; exact h3 z hz
end Go.Proofs.YtkgfjfkgmpeobaaDoor

open Go Go.Eng
namespace Go.Proofs.YtkgfjfkgmpeobaaDoor
attribute [local congr] undef_congr WpK.congr WpS.congr WpL.congr WpC.congr WpF.congr gotS.congr callS.congr nextS.congr wantS.congr condS.congr
attribute [local irreducible] WpK
attribute [local simp] WpDr_nil WpDr_cons atS_some dwantS_true dwantS_false kindS_light kindS_float kindS_heavy lightS_value floatS_some heavyS_value heavyS_skip heavyS_enter dcallS_some doneS_eq
  isLight isFloat isPlain dLook testBit_dec dChain dLights_nil dLights_skip dLights_one dLight_nil dLight_cons dFreshes_nil dFreshes_one oneF_none oneF_some dFresh_nil dFresh_cons oneL_some oneW_true oneW_false sameV_value dPut dMay valEq arrEq listEq List.getElem?_cons Tr.get_nil dEnd
attribute [local simp] WpS_nil WpS_cons isDefer undef_false wantS_true wantS_false nextS_value nextS_skip nextS_enter callS_some gotS_some aWanted aOp aEvalF aEval opMove opAssign opPick aVal flat flat1 AAct.put opBinOp opConvert opIndex Tr.get_set Tr.get_lay aBin aResults tupled
  aCall aVals aCallB blt_dec ble_dec beq_dec aBinI_add aBinI_sub aBinI_lss aBinI_leq aBinI_gtr aBinI_geq aBinI_eql aBinI_neq index_str len_str len_slice Nat.beq_refl und2 und3 und4 und5 und39 und76 und82 und115 und22 und29 und25 und33 und46 und43 und49 und111 und113 field151 field155_0 field155_1 field155_2 field155_3 field155_4
  field78 field106 field24 field31 field27 field35 field108 field109 opBox opLoad opFieldAddr opIndexAddr acells aAddr opExtract aExtract opUnOp opAlloc opStore opMakeInterface opNilCheck opBuild aParts opBuildSlice aValW
set_option maxHeartbeats 4000000
set_option linter.unusedSimpArgs false
set_option linter.unusedVariables false
structure PCx (W : AW) (p B b1 bt b4 : Nat) : Prop where
  h1 : W.Has b1 0 (.pointer (some ⟨p, 0, none⟩))
  h4 : W.Has b4 0 (.func (.func 84) ⟨[]⟩ ⟨[.pointer (some ⟨b1, 0, none⟩), .pointer (some ⟨bt, 0, none⟩), .pointer (some ⟨b4, 0, none⟩)]⟩)
  pB : p < B
  B1 : B ≤ b1
  Bt : B ≤ bt
  B4 : B ≤ b4
  n1 : b1 ≠ bt
  n4 : b4 ≠ bt
theorem PCx.only {W W' : AW} {p B b1 bt b4 : Nat} {K : Nat → Prop} (h : PCx W p B b1 bt b4) (ho : Only K W W') (hk1 : ¬ K b1) (hk4 : ¬ K b4) : PCx W' p B b1 bt b4 :=
  ⟨h.h1.only ho hk1, h.h4.only ho hk4, h.pB, h.B1, h.Bt, h.B4, h.n1, h.n4⟩
structure Pushed (L : List Stp) (t : Nat) (lv : Nat → Nat) (x : Nat) (most : Int) (rm : Nat → Int) (tr : Nat → Nat) (got : Int) (rm' : Nat → Int) (tr' : Nat → Nat) : Prop where
  nn : 0 ≤ got
  le : got ≤ most
  rooms : Rooms L rm'
  trle : ∀ q, q < 24 → tr' q ≤ (outsL L q L.length).length
  trs : ∀ q, q < 24 → q ≠ x → lv q ≤ lv x → tr' q = tr q
  none : got = 0 → rm' = rm ∧ x ≠ t ∧ tr' x = (outsL L x L.length).length ∧ (Dead L t rm lv tr → Dead L t rm lv tr')
  some : 0 < got → ∀ q, outN L rm' q L.length = outN L rm q L.length - (if x = q then got else 0) + (if t = q then got else 0)
  keep : ∀ y, y < 2 * L.length → rm' y ≠ rm y → lv x ≤ lv (hFrom L y) ∧ lv x ≤ lv (hTo L y)
end Go.Proofs.YtkgfjfkgmpeobaaDoor

open Go Go.Eng
namespace Go.Proofs.YtkgfjfkgmpeobaaDoor
attribute [local congr] undef_congr WpK.congr WpS.congr WpL.congr WpC.congr WpF.congr gotS.congr callS.congr nextS.congr wantS.congr condS.congr
attribute [local irreducible] WpK
attribute [local simp] WpDr_nil WpDr_cons atS_some dwantS_true dwantS_false kindS_light kindS_float kindS_heavy lightS_value floatS_some heavyS_value heavyS_skip heavyS_enter dcallS_some doneS_eq
  isLight isFloat isPlain dLook testBit_dec dChain dLights_nil dLights_skip dLights_one dLight_nil dLight_cons dFreshes_nil dFreshes_one oneF_none oneF_some dFresh_nil dFresh_cons oneL_some oneW_true oneW_false sameV_value dPut dMay valEq arrEq listEq List.getElem?_cons Tr.get_nil dEnd
attribute [local simp] WpS_nil WpS_cons isDefer undef_false wantS_true wantS_false nextS_value nextS_skip nextS_enter callS_some gotS_some aWanted aOp aEvalF aEval opMove opAssign opPick aVal flat flat1 AAct.put opBinOp opConvert opIndex Tr.get_set Tr.get_lay aBin aResults tupled
  aCall aVals aCallB blt_dec ble_dec beq_dec aBinI_add aBinI_sub aBinI_lss aBinI_leq aBinI_gtr aBinI_geq aBinI_eql aBinI_neq index_str len_str len_slice Nat.beq_refl und2 und3 und4 und5 und39 und76 und82 und115 und22 und29 und25 und33 und46 und43 und49 und111 und113 field151 field155_0 field155_1 field155_2 field155_3 field155_4
  field78 field106 field24 field31 field27 field35 field108 field109 opBox opLoad opFieldAddr opIndexAddr acells aAddr opExtract aExtract opUnOp opAlloc opStore opMakeInterface opNilCheck opBuild aParts opBuildSlice aValW
set_option maxHeartbeats 4000000
set_option linter.unusedSimpArgs false
set_option linter.unusedVariables false
theorem zero132 : aZero T0 132 = some (.agg ⟨rep [.int .i64 0] 24⟩) := by kernel_rfl
theorem outN_nn {L : List Stp} {rm : Nat → Int} (q : Nat) : ∀ (i : Nat), (∀ y, y < 2 * i → 0 ≤ rm y ∧ rm y ≤ 2000000000) → 0 ≤ outN L rm q i ∧ outN L rm q i ≤ i * 4000000000
  | 0, _ => by simp [outN]
  | i + 1, h => by
    have h1 := outN_nn (L := L) q i (fun y hy => h y (by omega))
    have h2 := h (2 * i) (by omega)
    have h3 := h (2 * i + 1) (by omega)
    rw [outN]
    split <;> split <;> omega
theorem Rooms.outN {L : List Stp} {rm : Nat → Int} (h : Rooms L rm) (hL : StpsOk L) (q : Nat) : 0 ≤ outN L rm q L.length ∧ outN L rm q L.length ≤ 800000000000 := by
  have h1 := outN_nn (L := L) q L.length (fun y hy => ⟨h.nn y hy, h.le hL hy⟩)
  have := hL.len
  omega
def Gone (L : List Stp) (s t : Nat) (rm rm' : Nat → Int) (x : Int) : Prop := ∀ q, outN L rm' q L.length = outN L rm q L.length - (if s = q then x else 0) + (if t = q then x else 0)
theorem Gone.trans {L : List Stp} {s t : Nat} {rm rm1 rm2 : Nat → Int} {x y : Int} (h : Gone L s t rm rm1 x) (h' : Gone L s t rm1 rm2 y) : Gone L s t rm rm2 (x + y) := fun q => by
  rw [h' q, h q]
  split <;> split <;> omega
theorem Gone.le {L : List Stp} {s t : Nat} {rm rm' : Nat → Int} {x : Int} (h : Gone L s t rm rm' x) (hst : s ≠ t) : outN L rm' s L.length = outN L rm s L.length - x := by
  rw [h s, if_pos rfl, if_neg (fun e => hst e.symm)]; omega
structure Filled (L : List Stp) (s t : Nat) (rm : Nat → Int) (x : Int) (rm' : Nat → Int) (lv : Nat → Nat) : Prop where
  nn : 0 ≤ x
  rooms : Rooms L rm'
  gone : Gone L s t rm rm' x
  lev : Lev L s rm' lv
  snk : lv t = 0
  closed : Closed L rm' lv
end Go.Proofs.YtkgfjfkgmpeobaaDoor

open Go Go.Eng
namespace Go.Proofs.YtkgfjfkgmpeobaaDoor
attribute [local congr] undef_congr WpK.congr WpS.congr WpL.congr WpC.congr WpF.congr gotS.congr callS.congr nextS.congr wantS.congr condS.congr
attribute [local irreducible] WpK
attribute [local simp] WpDr_nil WpDr_cons atS_some dwantS_true dwantS_false kindS_light kindS_float kindS_heavy lightS_value floatS_some heavyS_value heavyS_skip heavyS_enter dcallS_some doneS_eq
  isLight isFloat isPlain dLook testBit_dec dChain dLights_nil dLights_skip dLights_one dLight_nil dLight_cons dFreshes_nil dFreshes_one oneF_none oneF_some dFresh_nil dFresh_cons oneL_some oneW_true oneW_false sameV_value dPut dMay valEq arrEq listEq List.getElem?_cons Tr.get_nil dEnd
attribute [local simp] WpS_nil WpS_cons isDefer undef_false wantS_true wantS_false nextS_value nextS_skip nextS_enter callS_some gotS_some aWanted aOp aEvalF aEval opMove opAssign opPick aVal flat flat1 AAct.put opBinOp opConvert opIndex Tr.get_set Tr.get_lay aBin aResults tupled
  aCall aVals aCallB blt_dec ble_dec beq_dec aBinI_add aBinI_sub aBinI_lss aBinI_leq aBinI_gtr aBinI_geq aBinI_eql aBinI_neq index_str len_str len_slice Nat.beq_refl und2 und3 und4 und5 und39 und76 und82 und115 und22 und29 und25 und33 und46 und43 und49 und111 und113 field151 field155_0 field155_1 field155_2 field155_3 field155_4
  field78 field106 field24 field31 field27 field35 field108 field109 opBox opLoad opFieldAddr opIndexAddr acells aAddr opExtract aExtract opUnOp opAlloc opStore opMakeInterface opNilCheck opBuild aParts opBuildSlice aValW
set_option maxHeartbeats 4000000
set_option linter.unusedSimpArgs false
set_option linter.unusedVariables false
def tabN : List Nat := [0, 1, 56, 2, 57, 49, 28, 3, 61, 58, 42, 50, 38, 29, 17, 4, 62, 47, 59, 36, 45, 43, 51, 22, 53, 39, 33, 30, 24, 18, 12, 5, 63, 55, 48, 27, 60, 41, 37, 16, 46, 35, 44, 21, 52, 32, 23, 11, 54, 26, 40, 15, 34, 20, 31, 10, 25, 14, 19, 9, 13, 8, 7, 6]
section
attribute [local irreducible] aBinI
end
def atP (from_ src q : Nat) : Nat := if from_.testBit q then src else q
end Go.Proofs.YtkgfjfkgmpeobaaDoor

open Go Go.Eng
namespace Go.Proofs.YtkgfjfkgmpeobaaDoor
attribute [local congr] undef_congr WpK.congr WpS.congr WpL.congr WpC.congr WpF.congr gotS.congr callS.congr nextS.congr wantS.congr condS.congr
attribute [local irreducible] WpK
attribute [local simp] WpDr_nil WpDr_cons atS_some dwantS_true dwantS_false kindS_light kindS_float kindS_heavy lightS_value floatS_some heavyS_value heavyS_skip heavyS_enter dcallS_some doneS_eq
  isLight isFloat isPlain dLook testBit_dec dChain dLights_nil dLights_skip dLights_one dLight_nil dLight_cons dFreshes_nil dFreshes_one oneF_none oneF_some dFresh_nil dFresh_cons oneL_some oneW_true oneW_false sameV_value dPut dMay valEq arrEq listEq List.getElem?_cons Tr.get_nil dEnd
attribute [local simp] WpS_nil WpS_cons isDefer undef_false wantS_true wantS_false nextS_value nextS_skip nextS_enter callS_some gotS_some aWanted aOp aEvalF aEval opMove opAssign opPick aVal flat flat1 AAct.put opBinOp opConvert opIndex Tr.get_set Tr.get_lay aBin aResults tupled
  aCall aVals aCallB blt_dec ble_dec beq_dec aBinI_add aBinI_sub aBinI_lss aBinI_leq aBinI_gtr aBinI_geq aBinI_eql aBinI_neq index_str len_str len_slice Nat.beq_refl und2 und3 und4 und5 und39 und76 und82 und115 und22 und29 und25 und33 und46 und43 und49 und111 und113 field151 field155_0 field155_1 field155_2 field155_3 field155_4
  field78 field106 field24 field31 field27 field35 field108 field109 opBox opLoad opFieldAddr opIndexAddr acells aAddr opExtract aExtract opUnOp opAlloc opStore opMakeInterface opNilCheck opBuild aParts opBuildSlice aValW
set_option maxHeartbeats 4000000
set_option linter.unusedSimpArgs false
set_option linter.unusedVariables false
def initW (s t : Nat) : List Value := rep [.int .i64 0] 800 ++ (rep [.slice none 0 0] 24 ++ ([.int .i64 (s : Nat), .int .i64 (t : Nat)] ++ rep [.int .i64 0] 24))
def Fg (G : Nat → List Nat) : Nat → Option Fld := fun o => if 800 ≤ o ∧ o < 824 then some ⟨(G (o - 800)).length, natsV (G (o - 800)), 3, 1⟩ else none
structure LayW (W : AW) (p : Nat) (col : Nat → Nat) (G : Nat → List Nat) (L : List Stp) (m s t : Nat) : Prop where
  ex : ∃ c, GObj W p 850 155 col (Fg G) c ∧ (∀ h, h < m → c.get (2 * h) = some (.int .i64 (hTo L h : Nat)) ∧ c.get (2 * h + 1) = some (.int .i64 (hCap L h))) ∧
    c.get 824 = some (.int .i64 (s : Nat)) ∧ c.get 825 = some (.int .i64 (t : Nat)) ∧ ∀ q, q < 24 → c.get (826 + q) = some (.int .i64 ((0 : Nat) : Int))
theorem gobj_congr {W : AW} {p N : Nat} {ST : TypeId} {col : Nat → Nat} {F F' : Nat → Option Fld} {c : Tr Value} (h : GObj W p N ST col F c) (he : ∀ o, F' o = F o) : GObj W p N ST col F' c :=
  ⟨h.blk, fun o fl hf => h.fld o fl (by rw [← he]; exact hf), h.cp, h.lt⟩
theorem LayW.only {W W' : AW} {p : Nat} {col : Nat → Nat} {G : Nat → List Nat} {L : List Stp} {m s t : Nat} {K : Nat → Prop} (h : LayW W p col G L m s t) (ho : Only K W W') (hk : ∀ b, b < W.next → col b ≠ 0 → ¬ K b) : LayW W' p col G L m s t := by
  obtain ⟨c, h1, h2⟩ := h.ex
  exact ⟨c, h1.only ho hk, h2⟩
theorem LayW.src {W : AW} {p : Nat} {col : Nat → Nat} {G : Nat → List Nat} {L : List Stp} {m s t : Nat} (h : LayW W p col G L m s t) : W.Has p 824 (.int .i64 (s : Nat)) := by
  obtain ⟨c, h1, _, h3, _⟩ := h.ex
  exact ⟨h1.lt p (by rw [h1.cp]; omega), by simp only [AW.cell, h1.blk, blt_dec]; exact h3⟩
theorem LayW.push {W : AW} {p : Nat} {col : Nat → Nat} {G : Nat → List Nat} {L : List Stp} {m s t : Nat} (h : LayW W p col G L m s t) {q x : Nat} (hq : q < 24) (hn : (G q).length ≤ 1000) (hm : m ≤ 400) :
    ∃ v v' W4 W5, W.Has p (800 + q) v ∧ aAppend T0 (W.newCells 3 [.int .i64 (x : Nat)]) [46, 46] [v, .slice (some ⟨W.next, 0, none⟩) 1 2] = some (v', W4) ∧ aStoreVar T0 W4 46 p (800 + q) v' = some W5 ∧ W4.next = W.next + 2 ∧ W5.next = W.next + 2 ∧ Only (fun b => col b ≠ 0 ∧ b ≠ p) W W4 ∧ Only (fun b => col b ≠ 0) W W5 ∧
      (∃ A c, v = .slice A (G q).length c) ∧ LayW W5 p (fun b => if b = W.next + 1 then (800 + q) + 1 else col b) (upd G q (G q ++ [x])) L m s t := by
  obtain ⟨c, h1, h2, h3, h4, h5⟩ := h.ex
  have hF : Fg G (800 + q) = some ⟨(G q).length, natsV (G q), 3, 1⟩ := by unfold Fg; rw [if_pos (by omega), show 800 + q - 800 = q from by omega]
  obtain ⟨g1, v, g2, g3⟩ := h1.fld _ _ hF
  obtain ⟨v', W4, W5, a1, a2, a3, a4, a5, a6, a7⟩ := h1.push (T := T0) (t := 46) (i := Tryd.t3) (it := Tryd.t46) (z := .int .i64 0) (o := 800 + q) hF Nat.zero_lt_one und46 inf3 is3 z3 rfl inf46 is46 (u := [.int .i64 (x : Nat)]) rfl rfl (by rw [by3]; show 2 * ((G q).length + 1) * 8 ≤ _; omega) (by show (G q).length + 1 ≤ _; omega) g2
  have a1 : aAppend T0 (W.newCells 3 [.int .i64 (x : Nat)]) [46, 46] [v, .slice (some ⟨W.next, 0, none⟩) 1 2] = some (v', W4) := a1
  have hpl := h1.lt p (by rw [h1.cp]; omega)
  refine ⟨v, v', W4, W5, ⟨hpl, by simp only [AW.cell, h1.blk, blt_dec, show 800 + q < 850 from by omega, decide_true]; exact g2⟩, a1, a2, a3, a4, a5, a7.mono (fun b _ hb => ?_), g3.len, ⟨c.set (800 + q) v', gobj_congr a6 (fun o => ?_), fun y hy => ?_, ?_, ?_, fun z hz => ?_⟩⟩
  · rcases hb with hb | hb
    · omega
    · subst hb; rw [h1.cp]; omega
  · unfold Fg
    by_cases e : o = 800 + q
    · subst e
      rw [if_pos (by omega), if_pos rfl, show 800 + q - 800 = q from by omega]
      have : upd G q (G q ++ [x]) q = G q ++ [x] := by unfold upd; rw [if_pos rfl]
      rw [this, List.length_append]
      simp [natsV]
    · rw [if_neg e]
      by_cases e2 : 800 ≤ o ∧ o < 824
      · rw [if_pos e2, if_pos e2]
        have : upd G q (G q ++ [x]) (o - 800) = G (o - 800) := by unfold upd; rw [if_neg (by omega)]
        rw [this]
      · rw [if_neg e2, if_neg e2]
  · rw [Tr.get_set, Tr.get_set, if_neg (by omega), if_neg (by omega)]; exact h2 y hy
  · rw [Tr.get_set, if_neg (by omega)]; exact h3
  · rw [Tr.get_set, if_neg (by omega)]; exact h4
  · rw [Tr.get_set, if_neg (by omega)]; exact h5 z hz
end Go.Proofs.YtkgfjfkgmpeobaaDoor

open Go Go.Eng
namespace Go.Proofs.YtkgfjfkgmpeobaaDoor
attribute [local congr] undef_congr WpK.congr WpS.congr WpL.congr WpC.congr WpF.congr gotS.congr callS.congr nextS.congr wantS.congr condS.congr
attribute [local irreducible] WpK
attribute [local simp] WpDr_nil WpDr_cons atS_some dwantS_true dwantS_false kindS_light kindS_float kindS_heavy lightS_value floatS_some heavyS_value heavyS_skip heavyS_enter dcallS_some doneS_eq
  isLight isFloat isPlain dLook testBit_dec dChain dLights_nil dLights_skip dLights_one dLight_nil dLight_cons dFreshes_nil dFreshes_one oneF_none oneF_some dFresh_nil dFresh_cons oneL_some oneW_true oneW_false sameV_value dPut dMay valEq arrEq listEq List.getElem?_cons Tr.get_nil dEnd
attribute [local simp] WpS_nil WpS_cons isDefer undef_false wantS_true wantS_false nextS_value nextS_skip nextS_enter callS_some gotS_some aWanted aOp aEvalF aEval opMove opAssign opPick aVal flat flat1 AAct.put opBinOp opConvert opIndex Tr.get_set Tr.get_lay aBin aResults tupled
  aCall aVals aCallB blt_dec ble_dec beq_dec aBinI_add aBinI_sub aBinI_lss aBinI_leq aBinI_gtr aBinI_geq aBinI_eql aBinI_neq index_str len_str len_slice Nat.beq_refl und2 und3 und4 und5 und39 und76 und82 und115 und22 und29 und25 und33 und46 und43 und49 und111 und113 field151 field155_0 field155_1 field155_2 field155_3 field155_4
  field78 field106 field24 field31 field27 field35 field108 field109 opBox opLoad opFieldAddr opIndexAddr acells aAddr opExtract aExtract opUnOp opAlloc opStore opMakeInterface opNilCheck opBuild aParts opBuildSlice aValW
set_option maxHeartbeats 4000000
set_option linter.unusedSimpArgs false
set_option linter.unusedVariables false
def layL (from_ src : Nat) (l : List Quad) : List Stp := l.map fun a => ⟨atP from_ src a.1.toNat, atP from_ src a.2.1.toNat, a.2.2.1, a.2.2.2⟩
end Go.Proofs.YtkgfjfkgmpeobaaDoor

open Go Go.Eng
namespace Go.Proofs.YtkgfjfkgmpeobaaDoor
attribute [local congr] undef_congr WpK.congr WpS.congr WpL.congr WpC.congr WpF.congr gotS.congr callS.congr nextS.congr wantS.congr condS.congr
attribute [local irreducible] WpK
attribute [local simp] WpDr_nil WpDr_cons atS_some dwantS_true dwantS_false kindS_light kindS_float kindS_heavy lightS_value floatS_some heavyS_value heavyS_skip heavyS_enter dcallS_some doneS_eq
  isLight isFloat isPlain dLook testBit_dec dChain dLights_nil dLights_skip dLights_one dLight_nil dLight_cons dFreshes_nil dFreshes_one oneF_none oneF_some dFresh_nil dFresh_cons oneL_some oneW_true oneW_false sameV_value dPut dMay valEq arrEq listEq List.getElem?_cons Tr.get_nil dEnd
attribute [local simp] WpS_nil WpS_cons isDefer undef_false wantS_true wantS_false nextS_value nextS_skip nextS_enter callS_some gotS_some aWanted aOp aEvalF aEval opMove opAssign opPick aVal flat flat1 AAct.put opBinOp opConvert opIndex Tr.get_set Tr.get_lay aBin aResults tupled
  aCall aVals aCallB blt_dec ble_dec beq_dec aBinI_add aBinI_sub aBinI_lss aBinI_leq aBinI_gtr aBinI_geq aBinI_eql aBinI_neq index_str len_str len_slice Nat.beq_refl und2 und3 und4 und5 und39 und76 und82 und115 und22 und29 und25 und33 und46 und43 und49 und111 und113 field151 field155_0 field155_1 field155_2 field155_3 field155_4
  field78 field106 field24 field31 field27 field35 field108 field109 opBox opLoad opFieldAddr opIndexAddr acells aAddr opExtract aExtract opUnOp opAlloc opStore opMakeInterface opNilCheck opBuild aParts opBuildSlice aValW
set_option maxHeartbeats 4000000
set_option linter.unusedSimpArgs false
set_option linter.unusedVariables false
def endE (P a b : Int) : Int := if two? a b P = true then 0 else 1
def chkE (P : Int) (l : List Quad) (a b : Int) : Int := if planOk P l = true then endE P a b else 30
def SlOk (u : Value) (n : Nat) : Prop := (u = .slice none 0 0 ∧ n = 0) ∨ (∃ b o c, u = .slice (some ⟨b, o, none⟩) n (2 * c) ∧ n ≤ c) ∨ (u = .slice (some ⟨0, 0, some 1⟩) 0 0 ∧ n = 0)
end Go.Proofs.YtkgfjfkgmpeobaaDoor

open Go Go.Eng
namespace Go.Proofs.YtkgfjfkgmpeobaaDoor
attribute [local congr] undef_congr WpK.congr WpS.congr WpL.congr WpC.congr WpF.congr gotS.congr callS.congr nextS.congr wantS.congr condS.congr
attribute [local irreducible] WpK
attribute [local simp] WpDr_nil WpDr_cons atS_some dwantS_true dwantS_false kindS_light kindS_float kindS_heavy lightS_value floatS_some heavyS_value heavyS_skip heavyS_enter dcallS_some doneS_eq
  isLight isFloat isPlain dLook testBit_dec dChain dLights_nil dLights_skip dLights_one dLight_nil dLight_cons dFreshes_nil dFreshes_one oneF_none oneF_some dFresh_nil dFresh_cons oneL_some oneW_true oneW_false sameV_value dPut dMay valEq arrEq listEq List.getElem?_cons Tr.get_nil dEnd
attribute [local simp] WpS_nil WpS_cons isDefer undef_false wantS_true wantS_false nextS_value nextS_skip nextS_enter callS_some gotS_some aWanted aOp aEvalF aEval opMove opAssign opPick aVal flat flat1 AAct.put opBinOp opConvert opIndex Tr.get_set Tr.get_lay aBin aResults tupled
  aCall aVals aCallB blt_dec ble_dec beq_dec aBinI_add aBinI_sub aBinI_lss aBinI_leq aBinI_gtr aBinI_geq aBinI_eql aBinI_neq index_str len_str len_slice Nat.beq_refl und2 und3 und4 und5 und39 und76 und82 und115 und22 und29 und25 und33 und46 und43 und49 und111 und113 field151 field155_0 field155_1 field155_2 field155_3 field155_4
  field78 field106 field24 field31 field27 field35 field108 field109 opBox opLoad opFieldAddr opIndexAddr acells aAddr opExtract aExtract opUnOp opAlloc opStore opMakeInterface opNilCheck opBuild aParts opBuildSlice aValW
set_option maxHeartbeats 4000000
set_option linter.unusedSimpArgs false
set_option linter.unusedVariables false
end Go.Proofs.YtkgfjfkgmpeobaaDoor

open Go Go.Eng
namespace Go.Proofs.YtkgfjfkgmpeobaaDoor
attribute [local congr] undef_congr WpK.congr WpS.congr WpL.congr WpC.congr WpF.congr gotS.congr callS.congr nextS.congr wantS.congr condS.congr
attribute [local irreducible] WpK
attribute [local simp] WpDr_nil WpDr_cons atS_some dwantS_true dwantS_false kindS_light kindS_float kindS_heavy lightS_value floatS_some heavyS_value heavyS_skip heavyS_enter dcallS_some doneS_eq
  isLight isFloat isPlain dLook testBit_dec dChain dLights_nil dLights_skip dLights_one dLight_nil dLight_cons dFreshes_nil dFreshes_one oneF_none oneF_some dFresh_nil dFresh_cons oneL_some oneW_true oneW_false sameV_value dPut dMay valEq arrEq listEq List.getElem?_cons Tr.get_nil dEnd
attribute [local simp] WpS_nil WpS_cons isDefer undef_false wantS_true wantS_false nextS_value nextS_skip nextS_enter callS_some gotS_some aWanted aOp aEvalF aEval opMove opAssign opPick aVal flat flat1 AAct.put opBinOp opConvert opIndex Tr.get_set Tr.get_lay aBin aResults tupled
  aCall aVals aCallB blt_dec ble_dec beq_dec aBinI_add aBinI_sub aBinI_lss aBinI_leq aBinI_gtr aBinI_geq aBinI_eql aBinI_neq index_str len_str len_slice Nat.beq_refl und2 und3 und4 und5 und39 und76 und82 und115 und22 und29 und25 und33 und46 und43 und49 und111 und113 field151 field155_0 field155_1 field155_2 field155_3 field155_4
  field78 field106 field24 field31 field27 field35 field108 field109 opBox opLoad opFieldAddr opIndexAddr acells aAddr opExtract aExtract opUnOp opAlloc opStore opMakeInterface opNilCheck opBuild aParts opBuildSlice aValW
set_option maxHeartbeats 4000000
set_option linter.unusedSimpArgs false
set_option linter.unusedVariables false
theorem z2' : Tryd.t2.zero = some (.int .i64 0) := by kernel_rfl
end Go.Proofs.YtkgfjfkgmpeobaaDoor

open Go Go.Eng
namespace Go.Proofs.YtkgfjfkgmpeobaaDoor
open Go.ChangeShapes Go.WideShapes Go.ChangeAt Go.RowKit
section
variable {H : Type} {enc : TypeId × Value → H} {P : Program} {w : World}
theorem add_block (a : Addr) (n : Nat) : (a.add n).block = a.block := by unfold Addr.add; split <;> rfl
theorem add_off (a : Addr) (n : Nat) : (a.add n).off = a.off + n := by unfold Addr.add; split <;> simp_all
end
theorem own : ownKnob Tryd.prog.godebug = none := by kernel_rfl
theorem laidOut : laidOutB Tryd.prog = true := by kernel_rfl
theorem T0_globs : ∀ g u, T0.globs.get g = some u → g = 0 := fun g u h => by
  have h : (Tr.set Tr.nil 0 ()).get g = some u := h
  rw [Tr.get_set] at h
  split at h
  · assumption
  · rw [Tr.get_nil] at h; cases h
def tabL : List Int := [0, 1, 56, 2, 57, 49, 28, 3, 61, 58, 42, 50, 38, 29, 17, 4, 62, 47, 59, 36, 45, 43, 51, 22, 53, 39, 33, 30, 24, 18, 12, 5, 63, 55, 48, 27, 60, 41, 37, 16, 46, 35, 44, 21, 52, 32, 23, 11, 54, 26, 40, 15, 34, 20, 31, 10, 25, 14, 19, 9, 13, 8, 7, 6]
theorem tab_of_laid {W : World} (h : laidMet Tryd.prog [("math/bits.deBruijn64tab", Rows.laid_math_bits_deBruijn64tab)] W) : ∀ i (h : i < tabL.length), W.cell? ⟨0, i, none⟩ = some (.int .u8 tabL[i]) := by
  have hg : Tryd.prog.globalNamed "math/bits.deBruijn64tab" = some 0 := by kernel_rfl
  have ht := Lib.tabIs_of_head (P := Tryd.prog) (W := W) (k := .u8) (zs := tabL) (rest := []) (t := 160) (e := 5) (n := 64) hg (by kernel_rfl) Tryd.underlying160 Tryd.underlying5 (by kernel_rfl) (by kernel_rfl) h
  intro i hi
  have := ht.cell hg i hi
  rw [this, List.getD_eq_getElem?_getD, List.getElem?_eq_getElem hi]; rfl
theorem tab_cells {W : World} (h : ∀ i (h : i < tabL.length), W.cell? ⟨0, i, none⟩ = some (.int .u8 tabL[i])) : isCells W 0 = true ∧ 0 < (embW W).next ∧ tabsIn T0 T0.tabs (embW W) = true := by
  have h0 := h 0 (by decide)
  have hc := isCells_cell h0
  refine ⟨hc, isCells_lt hc, ?_⟩
  have key : tabIn ⟨0, tabL.map (Value.int .u8)⟩ (embW W) = true := by
    unfold isCells at hc
    split at hc
    case h_2 => cases hc
    rename_i c el fz ho
    unfold tabIn
    simp only [embW_get, ho, Option.map_some, embO]
    have hcell : ∀ i (hi : i < tabL.length), c[i]? = some (.int .u8 tabL[i]) := fun i hi => by
      have := h i hi
      simpa [World.cell?, ho] using this
    have hsz : tabL.length ≤ c.size := by
      have := (Array.getElem?_eq_some_iff.1 (hcell 63 (by decide))).1
      show 64 ≤ c.size; omega
    have htake : (Tr.nil.layO 0 (c.toList.map (absV W))).take 0 (tabL.map (Value.int .u8)).length = some (tabL.map (Value.int .u8)) := by
      refine take_get _ _ 0 _ rfl (fun j hj => ?_)
      have hj' : j < tabL.length := by simpa using hj
      rw [Nat.zero_add, Tr.get_layO _ _ _ _ (.inl (Tr.get_nil _)), if_pos (by simp; omega)]
      simp only [Nat.sub_zero, List.getElem?_map, Array.getElem?_toList, hcell j hj', Option.map_some, Option.getD_some, List.getElem?_eq_getElem hj']
      rfl
    rw [htake]
    simp only [ble_dec, List.length_map, hsz, decide_true]
    have hf : allB flat (tabL.map (Value.int .u8)) = true := by decide
    rw [hf]
    simp only
    have : ∀ l : List Int, listEq (l.map (Value.int .u8)) (l.map (Value.int .u8)) = true := fun l => by
      induction l with
      | nil => rfl
      | cons a l ih => simp only [List.map_cons]; exact listEq_cons (valEq_int _ _) ih
    exact this tabL
  show tabsIn T0 [⟨0, tabL.map (Value.int .u8)⟩] (embW W) = true
  simp only [tabsIn, key]
  rfl
noncomputable def laidWorld (os : Os) : World :=
  let w0 := World.holding Tryd.prog os ⟨#[], #[], []⟩
  { w0 with heap := w0.heap.modify 0 fun
      | .cells _ t frozen => .cells (tabL.map (Value.int .u8)).toArray t frozen
      | o => o }
theorem laid_met (os : Os) (args : Array Value) : laidMet Tryd.prog [("math/bits.deBruijn64tab", Rows.laid_math_bits_deBruijn64tab)] ((laidWorld os).forCall (fun _ _ => 0) ⟨#[], args, []⟩).memory :=
  laidMet_of_run' 8 (by kernel_rfl) (by kernel_rfl)
theorem globs_cells {W : World} (h : isCells W 0 = true) : ∀ g u, T0.globs.get g = some u → isCells W g = true := fun g u hu => by
  rw [T0_globs g u hu]; exact h
end Go.Proofs.YtkgfjfkgmpeobaaDoor

open Go Go.Eng
namespace Go.Proofs.YtkgfjfkgmpeobaaDoor
open Go.ChangeShapes Go.WideShapes Go.ChangeAt Go.RowKit
theorem absV_row2 {w : World} {a : Addr} {n c : Nat} (h : 0 < c → ∃ v, w.cell? a = some v) (hn : n ≤ c) :
    ∃ a' c', absV w (.slice (some a) n c) = some (.slice a' n c') ∧ (0 < c → a' = some ⟨a.block, a.off, none⟩) ∧ SlOk (.slice a' n c') n := by
  by_cases hc : 0 < c
  · obtain ⟨v, hv⟩ := h hc
    have hs := cell_spot hv
    have hb := isCells_cell hv
    obtain ⟨b, o, s⟩ := a
    simp only at hs hb; subst hs
    exact ⟨some ⟨b, o, none⟩, 2 * c, by simp [absV, hb], fun _ => rfl, .inr (.inl ⟨b, o, c, rfl, hn⟩)⟩
  · obtain rfl : c = 0 := by omega
    obtain rfl : n = 0 := by omega
    obtain ⟨b, o, s⟩ := a
    cases s with
    | none =>
      by_cases hb : isCells w b = true
      · exact ⟨some ⟨b, o, none⟩, 0, by simp [absV, hb], fun x => absurd x hc, .inr (.inl ⟨b, o, 0, rfl, by omega⟩)⟩
      · exact ⟨some ⟨0, 0, some 1⟩, 0, by simp [absV, hb], fun x => absurd x hc, .inr (.inr ⟨rfl, rfl⟩)⟩
    | some s => exact ⟨some ⟨0, 0, some 1⟩, 0, rfl, fun x => absurd x hc, .inr (.inr ⟨rfl, rfl⟩)⟩
section
variable {H : Type} {enc : TypeId × Value → H} {P : Program} {w : World}
theorem tris_in2 {t e : TypeId} {f0 f1 f2 : Field} {fuel : Nat} {held : Bool} {v : Value} {x : DataW H × List MemPlace} (ht : P.underlying t = some (.slice e)) (he : P.underlying e = some (.struct #[f0, f1, f2])) (hc : P.cellsOf e = 3)
    (o0 : f0.offset = 0) (o1 : f1.offset = 1) (o2 : f2.offset = 2) (c0 : P.cellsOf f0.type = 1) (c1 : P.cellsOf f1.type = 1) (c2 : P.cellsOf f2.type = 1) (u0 : P.underlying f0.type = some (.int .i64)) (u1 : P.underlying f1.type = some (.int .i64)) (u2 : P.underlying f2.type = some (.int .i64))
    (h : DataW.trod enc P w 0 (fun _ => true) held fuel t [v] = some x) : ∃ u l, absV w v = some u ∧ TriIn (embW w) u l ∧ l.length < 9223372036854775808 ∧ SlOk u l.length := by
  rcases Deep.open_slice ht h with ⟨h1, _⟩ | ⟨a, len, cap, m, n, D, Pl, h1, _, h2, h3, hm, _, h4⟩
  · cases h1
    exact ⟨.slice none 0 0, [], rfl, ⟨none, 0, rfl, fun i a hi => by simp at hi⟩, by simp, .inl ⟨rfl, rfl⟩⟩
  · cases h1
    simp only [if_true] at hm
    subst hm
    have each : ∀ i, i < m → ∃ z : Tri, w.cell? (a.add (i * 3)) = some (.int .i64 z.1) ∧ w.cell? (a.add (i * 3 + 1)) = some (.int .i64 z.2.1) ∧ w.cell? (a.add (i * 3 + 2)) = some (.int .i64 z.2.2) := by
      intro i hi
      obtain ⟨cs', g1, g2⟩ := h4 i hi
      rw [hc] at g1
      obtain ⟨_, hlen, hcell⟩ := World.cells?_some g1
      obtain ⟨y0, y1, y2, k, _, _, q0, q1, q2⟩ := Deep.trod_struct3 he g2
      match cs', hlen with
      | [x0, x1, x2], _ =>
        simp [o0, o1, o2, c0, c1, c2] at q0 q1 q2
        obtain ⟨z0, e0, _⟩ := DataW.trod_int u0 q0
        obtain ⟨z1, e1, _⟩ := DataW.trod_int u1 q1
        obtain ⟨z2, e2, _⟩ := DataW.trod_int u2 q2
        cases e0; cases e1; cases e2
        have k0 := hcell 0 (by omega)
        have k1 := hcell 1 (by omega)
        have k2 := hcell 2 (by omega)
        rw [Go.Deep.add_add] at k0 k1 k2
        exact ⟨(z0, z1, z2), by simpa using k0, by simpa using k1, by simpa using k2⟩
    obtain ⟨Z, hZ⟩ := Deep.choose_lt each
    obtain ⟨a', c', g4, g5, g6⟩ := absV_row2 (w := w) (a := a) (n := len) (c := m) (fun hc => ⟨_, by simpa [Addr.add] using (hZ 0 hc).1⟩) h2
    refine ⟨_, (List.range len).map Z, g4, ⟨a', c', by simp, fun i z hi => ?_⟩, by simp; unfold maxLen at h3; omega, by simpa using g6⟩
    have hi' : i < len := by
      have := (List.getElem?_eq_some_iff.1 hi).1
      simpa using this
    simp only [List.getElem?_map, List.getElem?_range hi', Option.map_some, Option.some.injEq] at hi
    subst hi
    obtain ⟨k0, k1, k2⟩ := hZ i (by omega)
    have e0 := emb_has k0 (u := .int .i64 (Z i).1) rfl
    have e1 := emb_has k1 (u := .int .i64 (Z i).2.1) rfl
    have e2 := emb_has k2 (u := .int .i64 (Z i).2.2) rfl
    rw [add_block, add_off] at e0 e1 e2
    refine ⟨a.block, a.off, g5 (by omega), ?_, ?_, ?_⟩
    · rw [Nat.mul_comm]; exact e0
    · rw [Nat.mul_comm, Nat.add_assoc]; exact e1
    · rw [Nat.mul_comm, Nat.add_assoc]; exact e2
end
end Go.Proofs.YtkgfjfkgmpeobaaDoor
