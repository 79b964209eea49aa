import Derived.Test.YtdpnplanohgecaaDoorPt1
import Derived.Test.YtdpnplanohgecaaDoorEngWy
import Derived.Test.YtdpnplanohgecaaDoorEngPm
import Derived.Test.YtdpnplanohgecaaDoorEngBt
import Derived.KernelRfl
import Derived.Test.YtdpnplanohgecaaDoorEngRw
import Derived.Test.YtdpnplanohgecaaDoorEngRf
import Derived.Test.YtdpnplanohgecaaDoorEngAt
import Derived.Test.YtdpnplanohgecaaDoorEngEm
import Derived.Test.YtdpnplanohgecaaDoorTie
import Derived.Test.YtdpnplanohgecaaDoorCards
import Derived.Test.YtdpnplanohgecaaDoorEngPq
import Derived.SevenTiedAt
import Derived.Lib.SmallJoins
set_option linter.unusedSimpArgs false
set_option linter.unusedVariables false
set_option linter.unusedSectionVars false
open Go Go.Eng
namespace Go.Proofs.YtdpnplanohgecaaDoor
theorem und2 : T0.und.get 2 = some (.int .i64) := by kernel_rfl
theorem sz2 : aSize T0 2 = some 1 := by kernel_rfl
theorem inf2 : T0.info.get 2 = some Tryd.t2 := by kernel_rfl
theorem is2 : Tryd.t2.size = 1 := by kernel_rfl
theorem by2 : Tryd.t2.bytes = 8 := by kernel_rfl
theorem z2 : Tryd.t2.zero = some (.int .i64 0) := by kernel_rfl
theorem und3 : T0.und.get 3 = some (.int .i64) := by kernel_rfl
theorem sz3 : aSize T0 3 = some 1 := by kernel_rfl
theorem inf3 : T0.info.get 3 = some Tryd.t3 := by kernel_rfl
theorem is3 : Tryd.t3.size = 1 := by kernel_rfl
theorem by3 : Tryd.t3.bytes = 8 := by kernel_rfl
theorem z3 : Tryd.t3.zero = some (.int .i64 0) := by kernel_rfl
theorem und4 : T0.und.get 4 = some .bool := by kernel_rfl
theorem z4 : Tryd.t4.zero = some (.bool false) := by kernel_rfl
theorem und5 : T0.und.get 5 = some (.int .u8) := by kernel_rfl
theorem z5 : Tryd.t5.zero = some (.int .u8 0) := by kernel_rfl
theorem und9 : T0.und.get 9 = some .string := by kernel_rfl
theorem und12 : T0.und.get 12 = some (.int .u64) := by kernel_rfl
theorem field13_0 (b o : Nat) : aField T0 13 (.pointer (some ⟨b, o, none⟩)) 0 = some (.pointer (some ⟨b, o, none⟩)) := by rfl
theorem field13_1 (b o : Nat) : aField T0 13 (.pointer (some ⟨b, o, none⟩)) 1 = some (.pointer (some ⟨b, o + 1, none⟩)) := by rfl
theorem und21 : T0.und.get 21 = some (.int .i32) := by kernel_rfl
theorem und22 : T0.und.get 22 = some (.slice 55) := by kernel_rfl
theorem field23_0 (b o : Nat) : aField T0 23 (.pointer (some ⟨b, o, none⟩)) 0 = some (.pointer (some ⟨b, o, none⟩)) := by rfl
theorem field23_1 (b o : Nat) : aField T0 23 (.pointer (some ⟨b, o, none⟩)) 1 = some (.pointer (some ⟨b, o + 1, none⟩)) := by rfl
theorem field24_0 (b o : Nat) : aField T0 24 (.pointer (some ⟨b, o, none⟩)) 0 = some (.pointer (some ⟨b, o, none⟩)) := by rfl
theorem field24_1 (b o : Nat) : aField T0 24 (.pointer (some ⟨b, o, none⟩)) 1 = some (.pointer (some ⟨b, o + 1, none⟩)) := by rfl
theorem field25_0 (b o : Nat) : aField T0 25 (.pointer (some ⟨b, o, none⟩)) 0 = some (.pointer (some ⟨b, o, none⟩)) := by rfl
theorem field25_1 (b o : Nat) : aField T0 25 (.pointer (some ⟨b, o, none⟩)) 1 = some (.pointer (some ⟨b, o + 1, none⟩)) := by rfl
theorem und28 : T0.und.get 28 = some (.int .i64) := by kernel_rfl
theorem und31 : T0.und.get 31 = some (.slice 3) := by kernel_rfl
theorem field34_0 (b o : Nat) : aField T0 34 (.pointer (some ⟨b, o, none⟩)) 0 = some (.pointer (some ⟨b, o, none⟩)) := by rfl
theorem field34_1 (b o : Nat) : aField T0 34 (.pointer (some ⟨b, o, none⟩)) 1 = some (.pointer (some ⟨b, o + 1, none⟩)) := by rfl
theorem field34_2 (b o : Nat) : aField T0 34 (.pointer (some ⟨b, o, none⟩)) 2 = some (.pointer (some ⟨b, o + 2, none⟩)) := by rfl
theorem field35_0 (b o : Nat) : aField T0 35 (.pointer (some ⟨b, o, none⟩)) 0 = some (.pointer (some ⟨b, o, none⟩)) := by rfl
theorem field35_1 (b o : Nat) : aField T0 35 (.pointer (some ⟨b, o, none⟩)) 1 = some (.pointer (some ⟨b, o + 1, none⟩)) := by rfl
theorem field35_2 (b o : Nat) : aField T0 35 (.pointer (some ⟨b, o, none⟩)) 2 = some (.pointer (some ⟨b, o + 2, none⟩)) := by rfl
theorem und46 : T0.und.get 46 = some (.slice 4) := by kernel_rfl
theorem field50_0 (b o : Nat) : aField T0 50 (.pointer (some ⟨b, o, none⟩)) 0 = some (.pointer (some ⟨b, o, none⟩)) := by rfl
theorem field50_1 (b o : Nat) : aField T0 50 (.pointer (some ⟨b, o, none⟩)) 1 = some (.pointer (some ⟨b, o + 1, none⟩)) := by rfl
theorem field50_2 (b o : Nat) : aField T0 50 (.pointer (some ⟨b, o, none⟩)) 2 = some (.pointer (some ⟨b, o + 2, none⟩)) := by rfl
theorem und55 : T0.und.get 55 = some (.array 2 3) := by kernel_rfl
theorem und56 : T0.und.get 56 = some (.int .u64) := by kernel_rfl
theorem und58 : T0.und.get 58 = some (.slice 31) := by kernel_rfl
theorem und61 : T0.und.get 61 = some (.slice 62) := by kernel_rfl
theorem und62 : T0.und.get 62 = some (.slice 2) := by kernel_rfl
theorem sz62 : aSize T0 62 = some 1 := by kernel_rfl
theorem inf62 : T0.info.get 62 = some Tryd.t62 := by kernel_rfl
theorem is62 : Tryd.t62.size = 1 := by kernel_rfl
theorem by62 : Tryd.t62.bytes = 24 := by kernel_rfl
theorem z62 : Tryd.t62.zero = some (.slice none 0 0) := by kernel_rfl
theorem und73 : T0.und.get 73 = some (.array 2 62) := by kernel_rfl
theorem und75 : T0.und.get 75 = some (.slice 46) := by kernel_rfl
theorem und90 : T0.und.get 90 = some (.pointer 108) := by kernel_rfl
theorem und94 : T0.und.get 94 = some (.array 40 3) := by kernel_rfl
theorem und95 : T0.und.get 95 = some (.int .u64) := by kernel_rfl
theorem und96 : T0.und.get 96 = some (.int .u64) := by kernel_rfl
theorem field97_0 (b o : Nat) : aField T0 97 (.pointer (some ⟨b, o, none⟩)) 0 = some (.pointer (some ⟨b, o, none⟩)) := by rfl
theorem field97_1 (b o : Nat) : aField T0 97 (.pointer (some ⟨b, o, none⟩)) 1 = some (.pointer (some ⟨b, o + 1, none⟩)) := by rfl
theorem field97_2 (b o : Nat) : aField T0 97 (.pointer (some ⟨b, o, none⟩)) 2 = some (.pointer (some ⟨b, o + 41, none⟩)) := by rfl
theorem field97_3 (b o : Nat) : aField T0 97 (.pointer (some ⟨b, o, none⟩)) 3 = some (.pointer (some ⟨b, o + 81, none⟩)) := by rfl
theorem field97_4 (b o : Nat) : aField T0 97 (.pointer (some ⟨b, o, none⟩)) 4 = some (.pointer (some ⟨b, o + 121, none⟩)) := by rfl
theorem field97_5 (b o : Nat) : aField T0 97 (.pointer (some ⟨b, o, none⟩)) 5 = some (.pointer (some ⟨b, o + 122, none⟩)) := by rfl
theorem field97_6 (b o : Nat) : aField T0 97 (.pointer (some ⟨b, o, none⟩)) 6 = some (.pointer (some ⟨b, o + 123, none⟩)) := by rfl
theorem field98_0 (b o : Nat) : aField T0 98 (.pointer (some ⟨b, o, none⟩)) 0 = some (.pointer (some ⟨b, o, none⟩)) := by rfl
theorem field98_1 (b o : Nat) : aField T0 98 (.pointer (some ⟨b, o, none⟩)) 1 = some (.pointer (some ⟨b, o + 1, none⟩)) := by rfl
theorem field98_2 (b o : Nat) : aField T0 98 (.pointer (some ⟨b, o, none⟩)) 2 = some (.pointer (some ⟨b, o + 41, none⟩)) := by rfl
theorem field98_3 (b o : Nat) : aField T0 98 (.pointer (some ⟨b, o, none⟩)) 3 = some (.pointer (some ⟨b, o + 81, none⟩)) := by rfl
theorem field98_4 (b o : Nat) : aField T0 98 (.pointer (some ⟨b, o, none⟩)) 4 = some (.pointer (some ⟨b, o + 121, none⟩)) := by rfl
theorem field98_5 (b o : Nat) : aField T0 98 (.pointer (some ⟨b, o, none⟩)) 5 = some (.pointer (some ⟨b, o + 122, none⟩)) := by rfl
theorem field98_6 (b o : Nat) : aField T0 98 (.pointer (some ⟨b, o, none⟩)) 6 = some (.pointer (some ⟨b, o + 123, none⟩)) := by rfl
theorem und99 : T0.und.get 99 = some (.pointer 98) := by kernel_rfl
theorem und106 : T0.und.get 106 = some (.array 40 96) := by kernel_rfl
theorem field107_0 (b o : Nat) : aField T0 107 (.pointer (some ⟨b, o, none⟩)) 0 = some (.pointer (some ⟨b, o, none⟩)) := by rfl
theorem field107_1 (b o : Nat) : aField T0 107 (.pointer (some ⟨b, o, none⟩)) 1 = some (.pointer (some ⟨b, o + 1, none⟩)) := by rfl
theorem field108_0 (b o : Nat) : aField T0 108 (.pointer (some ⟨b, o, none⟩)) 0 = some (.pointer (some ⟨b, o, none⟩)) := by rfl
theorem field108_1 (b o : Nat) : aField T0 108 (.pointer (some ⟨b, o, none⟩)) 1 = some (.pointer (some ⟨b, o + 1, none⟩)) := by rfl
theorem und119 : T0.und.get 119 = some (.pointer 132) := by kernel_rfl
theorem und122 : T0.und.get 122 = some (.pointer 125) := by kernel_rfl
theorem field124_0 (b o : Nat) : aField T0 124 (.pointer (some ⟨b, o, none⟩)) 0 = some (.pointer (some ⟨b, o, none⟩)) := by rfl
theorem field124_1 (b o : Nat) : aField T0 124 (.pointer (some ⟨b, o, none⟩)) 1 = some (.pointer (some ⟨b, o + 40, none⟩)) := by rfl
theorem field124_2 (b o : Nat) : aField T0 124 (.pointer (some ⟨b, o, none⟩)) 2 = some (.pointer (some ⟨b, o + 80, none⟩)) := by rfl
theorem field125_0 (b o : Nat) : aField T0 125 (.pointer (some ⟨b, o, none⟩)) 0 = some (.pointer (some ⟨b, o, none⟩)) := by rfl
theorem field125_1 (b o : Nat) : aField T0 125 (.pointer (some ⟨b, o, none⟩)) 1 = some (.pointer (some ⟨b, o + 40, none⟩)) := by rfl
theorem field125_2 (b o : Nat) : aField T0 125 (.pointer (some ⟨b, o, none⟩)) 2 = some (.pointer (some ⟨b, o + 80, none⟩)) := by rfl
theorem field131_0 (b o : Nat) : aField T0 131 (.pointer (some ⟨b, o, none⟩)) 0 = some (.pointer (some ⟨b, o, none⟩)) := by rfl
theorem field131_1 (b o : Nat) : aField T0 131 (.pointer (some ⟨b, o, none⟩)) 1 = some (.pointer (some ⟨b, o + 1, none⟩)) := by rfl
theorem field132_0 (b o : Nat) : aField T0 132 (.pointer (some ⟨b, o, none⟩)) 0 = some (.pointer (some ⟨b, o, none⟩)) := by rfl
theorem field132_1 (b o : Nat) : aField T0 132 (.pointer (some ⟨b, o, none⟩)) 1 = some (.pointer (some ⟨b, o + 1, none⟩)) := by rfl
theorem und133 : T0.und.get 133 = some (.map 135 3) := by kernel_rfl
theorem field134_0 (b o : Nat) : aField T0 134 (.pointer (some ⟨b, o, none⟩)) 0 = some (.pointer (some ⟨b, o, none⟩)) := by rfl
theorem field134_1 (b o : Nat) : aField T0 134 (.pointer (some ⟨b, o, none⟩)) 1 = some (.pointer (some ⟨b, o + 1, none⟩)) := by rfl
theorem field135_0 (b o : Nat) : aField T0 135 (.pointer (some ⟨b, o, none⟩)) 0 = some (.pointer (some ⟨b, o, none⟩)) := by rfl
theorem field135_1 (b o : Nat) : aField T0 135 (.pointer (some ⟨b, o, none⟩)) 1 = some (.pointer (some ⟨b, o + 1, none⟩)) := by rfl
theorem und148 : T0.und.get 148 = some (.array 64 5) := by kernel_rfl
theorem und156 : T0.und.get 156 = some (.int .u32) := by kernel_rfl
theorem und160 : T0.und.get 160 = some (.pointer 5) := by kernel_rfl
theorem fun6 : T0.funcs.get 6 = some Tryd.f6 := by kernel_rfl
theorem fun16 : T0.funcs.get 16 = some Tryd.f16 := by kernel_rfl
theorem fun29 : T0.funcs.get 29 = some Tryd.f29 := by kernel_rfl
theorem fun33 : T0.funcs.get 33 = some Tryd.f33 := by kernel_rfl
theorem fun35 : T0.funcs.get 35 = some Tryd.f35 := by kernel_rfl
theorem fun36 : T0.funcs.get 36 = some Tryd.f36 := by kernel_rfl
theorem fun37 : T0.funcs.get 37 = some Tryd.f37 := by kernel_rfl
theorem fun38 : T0.funcs.get 38 = some Tryd.f38 := by kernel_rfl
theorem fun39 : T0.funcs.get 39 = some Tryd.f39 := by kernel_rfl
theorem fun40 : T0.funcs.get 40 = some Tryd.f40 := by kernel_rfl
theorem fun41 : T0.funcs.get 41 = some Tryd.f41 := by kernel_rfl
theorem fun60 : T0.funcs.get 60 = some Tryd.f60 := by kernel_rfl
theorem fun66 : T0.funcs.get 66 = some Tryd.f66 := by kernel_rfl
theorem fun67 : T0.funcs.get 67 = some Tryd.f67 := by kernel_rfl
theorem fun68 : T0.funcs.get 68 = some Tryd.f68 := by kernel_rfl
theorem fun69 : T0.funcs.get 69 = some Tryd.f69 := by kernel_rfl
theorem fun70 : T0.funcs.get 70 = some Tryd.f70 := by kernel_rfl
theorem fun75 : T0.funcs.get 75 = some Tryd.f75 := by kernel_rfl
theorem fun82 : T0.funcs.get 82 = some Tryd.f82 := by kernel_rfl
theorem fun90 : T0.funcs.get 90 = some Tryd.f90 := by kernel_rfl
theorem conv_95_3 (W : AW) (k : IntKind) (n : Int) : aConv T0 W 95 3 (.int k n) = some (.int .i64 (IntKind.i64.wrap n)) := by kernel_rfl
end Go.Proofs.YtdpnplanohgecaaDoor

open Go Go.Eng
namespace Go.Proofs.YtdpnplanohgecaaDoor
attribute [local congr] undef_congr WpK.congr WpS.congr WpL.congr WpC.congr WpF.congr gotS.congr callS.congr nextS.congr wantS.congr condS.congr
attribute [local irreducible] WpK
attribute [local simp] WpDr_nil WpDr_cons atS_some dwantS_true dwantS_false kindS_light kindS_float kindS_heavy lightS_value floatS_some heavyS_value heavyS_skip heavyS_enter dcallS_some doneS_eq
  isLight isFloat isPlain dLook testBit_dec dChain dLights_nil dLights_skip dLights_one dLight_nil dLight_cons dFreshes_nil dFreshes_one oneF_none oneF_some dFresh_nil dFresh_cons oneL_some oneW_true oneW_false sameV_value dPut dMay valEq arrEq listEq List.getElem?_cons Tr.get_nil dEnd
attribute [local simp] WpS_nil WpS_cons isDefer undef_false wantS_true wantS_false nextS_value nextS_skip nextS_enter callS_some gotS_some aWanted aOp aEvalF aEval opMove opAssign opPick aVal flat flat1 AAct.put opBinOp opConvert opIndex Tr.get_set Tr.get_lay aBin aResults tupled
  aCall aVals aCallB blt_dec ble_dec beq_dec aBinI_add aBinI_sub aBinI_lss aBinI_leq aBinI_gtr aBinI_geq aBinI_eql aBinI_neq index_str len_str len_slice Nat.beq_refl Nat.beq_refl
  opBox opLoad opFieldAddr opIndexAddr acells aAddr opExtract aExtract opUnOp opAlloc opStore opMakeInterface opNilCheck opBuild aParts opBuildSlice aValW
attribute [local simp] und2 und3 und4 und5 und9 und12 field13_0 field13_1 und21 und22 field23_0 field23_1 field24_0 field24_1 field25_0 field25_1 und28 und31 field34_0 field34_1 field34_2 field35_0 field35_1 field35_2 und46 field50_0 field50_1 field50_2 und55 und56 und58 und61 und62 und73 und75 und90 und94 und95 und96 field97_0 field97_1 field97_2 field97_3 field97_4 field97_5 field97_6 field98_0 field98_1 field98_2 field98_3 field98_4 field98_5 field98_6 und99 und106 field107_0 field107_1 field108_0 field108_1 und119 und122 field124_0 field124_1 field124_2 field125_0 field125_1 field125_2 field131_0 field131_1 field132_0 field132_1 und133 field134_0 field134_1 field135_0 field135_1 und148 und156 und160
set_option maxHeartbeats 4000000
set_option linter.unusedSimpArgs false
set_option linter.unusedVariables false
@[simp] theorem nilck (a : Addr) : nilChecked T0 (.pointer (some a)) = true := rfl
@[simp] theorem aUn_not (b : Bool) : aUn .not (.bool b) = some (.bool (!b)) := by cases b <;> rfl
theorem load_of {W : AW} {t : TypeId} {d : TypeDesc} {b o : Nat} {v : Value} (hd : T0.und.get t = some d) (ha : isAggD d = false) (h : W.Has b o v) : aLoadVar T0 W t b o = some v := by
  rw [loadVar_cell hd ha]; exact h.2
theorem tabs_name : ∀ t ∈ T0.tabs, t.name = 0 := fun t h => by
  have h : t ∈ [_] := h
  rw [List.mem_singleton] at h; rw [h]
theorem tabs_ext {W W' : AW} (h : tabsIn T0 T0.tabs W = true) (h0 : 0 < W.next) (he : Ext W W') : tabsIn T0 T0.tabs W' = true := tabsIn_only h (fun t ht => he.2 t.name (by rw [tabs_name t ht]; exact h0) (fun x => x))
theorem freshB_var {W : AW} {p : Nat} {el : TypeId} {l : List Value} (h : Var W p el l) (hl : listEq l l = true) : freshB W p el l = true := by
  obtain ⟨h1, c, h2, h3⟩ := h
  have ht : c.take 0 l.length = some l := take_get c l.length 0 l rfl (fun j hj => by rw [Nat.zero_add]; exact h3 j hj)
  simp only [freshB, h2, Nat.beq_refl, blt_dec, h1, decide_true, ht, hl]
theorem freshB_new (W : AW) (el : TypeId) (l : List Value) (h : listEq l l = true) : freshB (W.newCells el l) W.next el l = true := freshB_var (Var.new W el l) h

/-! ### the members of a set -/
def memb (P s : Nat) : List Int := ((List.range P).filter (s.testBit ·)).map Int.ofNat
theorem testBit_and1 (s p : Nat) : decide (((s >>> p &&& 1 : Nat) : Int) = 1) = s.testBit p := by
  rw [Nat.testBit, Bool.eq_iff_iff, Nat.and_comm]
  simp only [decide_eq_true_eq, bne_iff_ne, ne_eq]
  have : 1 &&& s >>> p = (s >>> p) % 2 := Nat.one_and_eq_mod_two _
  rw [this]; omega
theorem has_wp (s p : Nat) (hs : s < 18446744073709551616) (hp : p ≤ 64) (W : AW) : WpF T0 60 [.int .u64 s, .int .i64 p] W (fun v W' => W' = W ∧ v = .bool (s.testBit p)) := by
  refine wpF fun60 rfl ?_
  have h1 := aBinI_shr .u64 .i64 s p hp
  have hle : s >>> p < 18446744073709551616 := by rw [Nat.shiftRight_eq_div_pow]; exact Nat.lt_of_le_of_lt (Nat.div_le_self _ _) hs
  have h3 := testBit_and1 s p
  generalize s >>> p = q at h1 hle h3
  have h2 : aBinI .and .u64 (q : Int) .u64 1 = some (.int .u64 ((q &&& 1 : Nat) : Int)) := aBinI_and .u64 q 1 hle (by decide)
  generalize q &&& 1 = r at h2 h3
  try simp only [wpK_assoc]
  refine wpK_reg (fun R hR => by simp []; exact hR) ?_
  try simp only [wpK_assoc]
  refine wpK_reg (fun R hR => by simp [h1, h2, h3]; exact hR) ?_
  exact wpK_ret ⟨.inr rfl, rfl, [.bool (s.testBit p)], by simp, rfl, rfl⟩
theorem one_wp (p : Nat) (hp : p < 64) (W : AW) : WpF T0 68 [.int .i64 p] W (fun v W' => W' = W ∧ v = .int .u64 ((1 <<< p : Nat) : Int)) := by
  refine wpF fun68 rfl ?_
  have h1 : aBinI .shl .u64 1 .i64 (p : Int) = some (.int .u64 ((1 <<< p : Nat) : Int)) := aBinI_shl .u64 .i64 1 p (by show p ≤ 64; omega) (by
    rw [Nat.one_mul]; show 2 ^ p < 2 ^ 64; exact Nat.pow_lt_pow_right (by omega) hp)
  generalize 1 <<< p = r at h1
  try simp only [wpK_assoc]
  refine wpK_reg (fun R hR => by simp []; exact hR) ?_
  try simp only [wpK_assoc]
  refine wpK_reg (fun R hR => by simp [h1]; exact hR) ?_
  exact wpK_ret ⟨.inr rfl, rfl, [.int .u64 (r : Int)], by simp, rfl, rfl⟩
theorem u64_nat {n : Nat} (h : n < 18446744073709551616) : IntKind.u64.wrap (n : Int) = n := wrap_nat .u64 n h
theorem below_wp (p : Nat) (hp : p < 64) (W : AW) : WpF T0 75 [.int .i64 p] W (fun v W' => W' = W ∧ v = .int .u64 ((2 ^ p - 1 : Nat) : Int)) := by
  refine wpF fun75 rfl ?_
  have hlt : 2 ^ p < 2 ^ 64 := Nat.pow_lt_pow_right (by omega) hp
  have h0 := Nat.two_pow_pos p
  have h1 : aBinI .shl .u64 1 .i64 (p : Int) = some (.int .u64 ((2 ^ p : Nat) : Int)) := by
    have := aBinI_shl .u64 .i64 1 p (by show p ≤ 64; omega) (by rw [Nat.one_mul]; exact hlt)
    rw [Nat.shiftLeft_eq, Nat.one_mul] at this
    exact this
  generalize 2 ^ p = r at h1 hlt h0
  have h2 : IntKind.u64.wrap ((r : Int) - 1) = ((r - 1 : Nat) : Int) := by
    rw [show ((r : Int) - 1) = ((r - 1 : Nat) : Int) from by omega]; exact u64_nat (by have : r < 18446744073709551616 := hlt; omega)
  try simp only [wpK_assoc]
  refine wpK_reg (fun R hR => by simp []; exact hR) ?_
  try simp only [wpK_assoc]
  refine wpK_reg (fun R hR => by simp [h1, h2]; exact hR) ?_
  exact wpK_ret ⟨.inr rfl, rfl, [.int .u64 ((r - 1 : Nat) : Int)], by simp, rfl, rfl⟩

/-! ### the least member -/
def tabN : List Nat := [0, 1, 56, 2, 57, 49, 28, 3, 61, 58, 42, 50, 38, 29, 17, 4, 62, 47, 59, 36, 45, 43, 51, 22, 53, 39, 33, 30, 24, 18, 12, 5, 63, 55, 48, 27, 60, 41, 37, 16, 46, 35, 44, 21, 52, 32, 23, 11, 54, 26, 40, 15, 34, 20, 31, 10, 25, 14, 19, 9, 13, 8, 7, 6]
section
attribute [local irreducible] aBinI
end
end Go.Proofs.YtdpnplanohgecaaDoor

open Go Go.Eng
namespace Go.Proofs.YtdpnplanohgecaaDoor
attribute [local congr] undef_congr WpK.congr WpS.congr WpL.congr WpC.congr WpF.congr gotS.congr callS.congr nextS.congr wantS.congr condS.congr
attribute [local irreducible] WpK
attribute [local simp] WpDr_nil WpDr_cons atS_some dwantS_true dwantS_false kindS_light kindS_float kindS_heavy lightS_value floatS_some heavyS_value heavyS_skip heavyS_enter dcallS_some doneS_eq
  isLight isFloat isPlain dLook testBit_dec dChain dLights_nil dLights_skip dLights_one dLight_nil dLight_cons dFreshes_nil dFreshes_one oneF_none oneF_some dFresh_nil dFresh_cons oneL_some oneW_true oneW_false sameV_value dPut dMay valEq arrEq listEq List.getElem?_cons Tr.get_nil dEnd
attribute [local simp] WpS_nil WpS_cons isDefer undef_false wantS_true wantS_false nextS_value nextS_skip nextS_enter callS_some gotS_some aWanted aOp aEvalF aEval opMove opAssign opPick aVal flat flat1 AAct.put opBinOp opConvert opIndex Tr.get_set Tr.get_lay aBin aResults tupled
  aCall aVals aCallB blt_dec ble_dec beq_dec aBinI_add aBinI_sub aBinI_lss aBinI_leq aBinI_gtr aBinI_geq aBinI_eql aBinI_neq index_str len_str len_slice Nat.beq_refl Nat.beq_refl
  opBox opLoad opFieldAddr opIndexAddr acells aAddr opExtract aExtract opUnOp opAlloc opStore opMakeInterface opNilCheck opBuild aParts opBuildSlice aValW
attribute [local simp] und2 und3 und4 und5 und9 und12 field13_0 field13_1 und21 und22 field23_0 field23_1 field24_0 field24_1 field25_0 field25_1 und28 und31 field34_0 field34_1 field34_2 field35_0 field35_1 field35_2 und46 field50_0 field50_1 field50_2 und55 und56 und58 und61 und62 und73 und75 und90 und94 und95 und96 field97_0 field97_1 field97_2 field97_3 field97_4 field97_5 field97_6 field98_0 field98_1 field98_2 field98_3 field98_4 field98_5 field98_6 und99 und106 field107_0 field107_1 field108_0 field108_1 und119 und122 field124_0 field124_1 field124_2 field125_0 field125_1 field125_2 field131_0 field131_1 field132_0 field132_1 und133 field134_0 field134_1 field135_0 field135_1 und148 und156 und160
set_option maxHeartbeats 4000000
set_option linter.unusedSimpArgs false
set_option linter.unusedVariables false
theorem bs31 (W : AW) (n : Int) : aBuildSlice T0 W 31 1 [(0, .int .i64 n)] = some (.slice (some ⟨W.next, 0, none⟩) 1 2, W.newCells 3 [.int .i64 n]) := by kernel_rfl
def intsV (l : List Int) : List Value := l.map (Value.int .i64)
/-! ### loops over the places of a set -/
/-- a set without its least place -/
def dropLow (x : Nat) : Nat := x &&& (x - 1)
end Go.Proofs.YtdpnplanohgecaaDoor

open Go Go.Eng
namespace Go.Proofs.YtdpnplanohgecaaDoor
open Go.ChangeShapes Go.WideShapes Go.ChangeAt Go.RowKit

section
variable {H : Type} {enc : TypeId × Value → H} {P : Program} {w : World}

theorem add_block (a : Addr) (n : Nat) : (a.add n).block = a.block := by unfold Addr.add; split <;> rfl
theorem add_off (a : Addr) (n : Nat) : (a.add n).off = a.off + n := by unfold Addr.add; split <;> simp_all
end
theorem own : ownKnob Tryd.prog.godebug = none := by kernel_rfl
theorem laidOut : laidOutB Tryd.prog = true := by kernel_rfl
theorem T0_globs : ∀ g u, T0.globs.get g = some u → g = 0 := fun g u h => by
  have h : (Tr.set Tr.nil 0 ()).get g = some u := h
  rw [Tr.get_set] at h
  split at h
  · assumption
  · rw [Tr.get_nil] at h; cases h

def tabL : List Int := [0, 1, 56, 2, 57, 49, 28, 3, 61, 58, 42, 50, 38, 29, 17, 4, 62, 47, 59, 36, 45, 43, 51, 22, 53, 39, 33, 30, 24, 18, 12, 5, 63, 55, 48, 27, 60, 41, 37, 16, 46, 35, 44, 21, 52, 32, 23, 11, 54, 26, 40, 15, 34, 20, 31, 10, 25, 14, 19, 9, 13, 8, 7, 6]
/-- the variable of the library lies in the world -/
theorem tab_of_laid {W : World} (h : laidMet Tryd.prog [("math/bits.deBruijn64tab", Rows.laid_math_bits_deBruijn64tab)] W) : ∀ i (h : i < tabL.length), W.cell? ⟨0, i, none⟩ = some (.int .u8 tabL[i]) := by
  have hg : Tryd.prog.globalNamed "math/bits.deBruijn64tab" = some 0 := by kernel_rfl
  have ht := Lib.tabIs_of_head (P := Tryd.prog) (W := W) (k := .u8) (zs := tabL) (rest := []) (t := 148) (e := 5) (n := 64) hg (by kernel_rfl) Tryd.underlying148 Tryd.underlying5 (by kernel_rfl) (by kernel_rfl) h
  intro i hi
  have := ht.cell hg i hi
  rw [this, List.getD_eq_getElem?_getD, List.getElem?_eq_getElem hi]; rfl
theorem tab_cells {W : World} (h : ∀ i (h : i < tabL.length), W.cell? ⟨0, i, none⟩ = some (.int .u8 tabL[i])) : isCells W 0 = true ∧ 0 < (embW W).next ∧ tabsIn T0 T0.tabs (embW W) = true := by
  have h0 := h 0 (by decide)
  have hc := isCells_cell h0
  refine ⟨hc, isCells_lt hc, ?_⟩
  have key : tabIn ⟨0, tabL.map (Value.int .u8)⟩ (embW W) = true := by
    unfold isCells at hc
    split at hc
    case h_2 => cases hc
    rename_i c el fz ho
    unfold tabIn
    simp only [embW_get, ho, Option.map_some, embO]
    have hcell : ∀ i (hi : i < tabL.length), c[i]? = some (.int .u8 tabL[i]) := fun i hi => by
      have := h i hi
      simpa [World.cell?, ho] using this
    have hsz : tabL.length ≤ c.size := by
      have := (Array.getElem?_eq_some_iff.1 (hcell 63 (by decide))).1
      show 64 ≤ c.size; omega
    have htake : (Tr.nil.layO 0 (c.toList.map (absV W))).take 0 (tabL.map (Value.int .u8)).length = some (tabL.map (Value.int .u8)) := by
      refine take_get _ _ 0 _ rfl (fun j hj => ?_)
      have hj' : j < tabL.length := by simpa using hj
      rw [Nat.zero_add, Tr.get_layO _ _ _ _ (.inl (Tr.get_nil _)), if_pos (by simp; omega)]
      simp only [Nat.sub_zero, List.getElem?_map, Array.getElem?_toList, hcell j hj', Option.map_some, Option.getD_some, List.getElem?_eq_getElem hj']
      rfl
    rw [htake]
    simp only [ble_dec, List.length_map, hsz, decide_true]
    have hf : allB flat (tabL.map (Value.int .u8)) = true := by decide
    rw [hf]
    simp only
    have : ∀ l : List Int, listEq (l.map (Value.int .u8)) (l.map (Value.int .u8)) = true := fun l => by
      induction l with
      | nil => rfl
      | cons a l ih => simp only [List.map_cons]; exact listEq_cons (valEq_int _ _) ih
    exact this tabL
  show tabsIn T0 [⟨0, tabL.map (Value.int .u8)⟩] (embW W) = true
  simp only [tabsIn, key]
  rfl
/-- a world in which the variable lies -/
noncomputable def laidWorld (os : Os) : World :=
  let w0 := World.holding Tryd.prog os ⟨#[], #[], []⟩
  { w0 with heap := w0.heap.modify 0 fun
      | .cells _ t frozen => .cells (tabL.map (Value.int .u8)).toArray t frozen
      | o => o }
theorem laid_met (os : Os) (args : Array Value) : laidMet Tryd.prog [("math/bits.deBruijn64tab", Rows.laid_math_bits_deBruijn64tab)] ((laidWorld os).forCall (fun _ _ => 0) ⟨#[], args, []⟩).memory :=
  laidMet_of_run' 8 (by kernel_rfl) (by kernel_rfl)
theorem globs_cells {W : World} (h : isCells W 0 = true) : ∀ g u, T0.globs.get g = some u → isCells W g = true := fun g u hu => by
  rw [T0_globs g u hu]; exact h
end Go.Proofs.YtdpnplanohgecaaDoor

open Go Go.Eng
namespace Go.Proofs.YtdpnplanohgecaaDoor
attribute [local congr] undef_congr WpK.congr WpS.congr WpL.congr WpC.congr WpF.congr gotS.congr callS.congr nextS.congr wantS.congr condS.congr
attribute [local irreducible] WpK
attribute [local simp] WpDr_nil WpDr_cons atS_some dwantS_true dwantS_false kindS_light kindS_float kindS_heavy lightS_value floatS_some heavyS_value heavyS_skip heavyS_enter dcallS_some doneS_eq
  isLight isFloat isPlain dLook testBit_dec dChain dLights_nil dLights_skip dLights_one dLight_nil dLight_cons dFreshes_nil dFreshes_one oneF_none oneF_some dFresh_nil dFresh_cons oneL_some oneW_true oneW_false sameV_value dPut dMay valEq arrEq listEq List.getElem?_cons Tr.get_nil dEnd
attribute [local simp] WpS_nil WpS_cons isDefer undef_false wantS_true wantS_false nextS_value nextS_skip nextS_enter callS_some gotS_some aWanted aOp aEvalF aEval opMove opAssign opPick aVal flat flat1 AAct.put opBinOp opConvert opIndex Tr.get_set Tr.get_lay aBin aResults tupled
  aCall aVals aCallB blt_dec ble_dec beq_dec aBinI_add aBinI_sub aBinI_lss aBinI_leq aBinI_gtr aBinI_geq aBinI_eql aBinI_neq index_str len_str len_slice Nat.beq_refl Nat.beq_refl
  opBox opLoad opFieldAddr opIndexAddr acells aAddr opExtract aExtract opUnOp opAlloc opStore opMakeInterface opNilCheck opBuild aParts opBuildSlice aValW
attribute [local simp] und2 und3 und4 und5 und9 und12 field13_0 field13_1 und21 und22 field23_0 field23_1 field24_0 field24_1 field25_0 field25_1 und28 und31 field34_0 field34_1 field34_2 field35_0 field35_1 field35_2 und46 field50_0 field50_1 field50_2 und55 und56 und58 und61 und62 und73 und75 und90 und94 und95 und96 field97_0 field97_1 field97_2 field97_3 field97_4 field97_5 field97_6 field98_0 field98_1 field98_2 field98_3 field98_4 field98_5 field98_6 und99 und106 field107_0 field107_1 field108_0 field108_1 und119 und122 field124_0 field124_1 field124_2 field125_0 field125_1 field125_2 field131_0 field131_1 field132_0 field132_1 und133 field134_0 field134_1 field135_0 field135_1 und148 und156 und160
set_option maxHeartbeats 4000000
set_option linter.unusedSimpArgs false
set_option linter.unusedVariables false
/-! ### graphs -/
/-- a store into one cell of a variable -/
theorem var_store1 {W : AW} {p : Nat} {el t : TypeId} {l : List Value} (h : Var W p el l) {i : TypeInfo} {v : Value} {o : Nat} (hi : T0.info.get t = some i) (hs : i.size = 1) (hv : acells v = [v]) (hv1 : Value.oneCell' v = true) (ho : o < l.length) :
    ∃ W', aStoreVar T0 W t p o v = some W' ∧ W'.next = W.next ∧ Only (fun b => b = p) W W' ∧ Var W' p el (l.set o v) := by
  obtain ⟨W', h1, h2, h3, h4⟩ := h.store (T := T0) (t := t) (v := v) (o := o) hi (by rw [hv, hs]; rfl) (by rw [hv]; simp; omega) (by rw [hv]; simp only [allB, hv1])
  refine ⟨W', h1, h2, h3, ?_⟩
  rw [hv] at h4
  have e : l.take o ++ [v] ++ l.drop (o + [v].length) = l.set o v := by
    rw [List.set_eq_take_append_cons_drop, if_pos ho]; simp
  rw [e] at h4; exact h4
def pr (a b : Int) : Value := .agg ⟨[.int .i64 a, .int .i64 b]⟩
def zer40 : List Value := List.replicate 40 (.int .u64 0)
theorem row_eq {α : Type} {sz : Nat} {enc : α → List Value} {W : AW} {v : Value} {l : List α} (h : RowIn sz enc W v l) : valEq v v = true := by
  obtain ⟨A, c, rfl, _⟩ := h
  rcases A with _ | ⟨b, o, _ | x⟩ <;> simp
abbrev Edge := Int × Int
/-- the first k edges are as they should be -/
def GoodTo (P : Int) (es : List Edge) (k : Nat) : Prop := ∀ i, i < k → ∀ a b, es[i]? = some (a, b) → 0 ≤ a ∧ a < P ∧ 0 ≤ b ∧ b < P ∧ a ≠ b ∧ ∀ j, j < i → es[j]? ≠ some (a, b) ∧ es[j]? ≠ some (b, a)
def GraphOk (P : Int) (es : List Edge) : Prop := 1 ≤ P ∧ P ≤ 40 ∧ es.length ≤ 300 ∧ GoodTo P es es.length
open Classical in
noncomputable def chkG (P : Int) (es : List Edge) : Int := if GraphOk P es then 0 else 40
theorem GoodTo.not {P : Int} {es : List Edge} {k : Nat} (h : ¬ GoodTo P es (k + 1)) (hk : k < es.length) : ¬ GraphOk P es := fun hg => h (fun i hi => hg.2.2.2 i (by omega))
theorem GoodTo.succ {P : Int} {es : List Edge} {k : Nat} {a b : Int} (h : GoodTo P es k) (ha : es[k]? = some (a, b)) (h1 : 0 ≤ a ∧ a < P ∧ 0 ≤ b ∧ b < P ∧ a ≠ b) (h2 : ∀ j, j < k → es[j]? ≠ some (a, b) ∧ es[j]? ≠ some (b, a)) : GoodTo P es (k + 1) := fun i hi x y hx => by
  by_cases e : i = k
  · subst e; rw [ha] at hx; cases hx
    exact ⟨h1.1, h1.2.1, h1.2.2.1, h1.2.2.2.1, h1.2.2.2.2, h2⟩
  · exact h i (by omega) x y hx

/-! the reference's check -/
end Go.Proofs.YtdpnplanohgecaaDoor

open Go Go.Eng
namespace Go.Proofs.YtdpnplanohgecaaDoor
attribute [local congr] undef_congr WpK.congr WpS.congr WpL.congr WpC.congr WpF.congr gotS.congr callS.congr nextS.congr wantS.congr condS.congr
attribute [local irreducible] WpK
attribute [local simp] WpDr_nil WpDr_cons atS_some dwantS_true dwantS_false kindS_light kindS_float kindS_heavy lightS_value floatS_some heavyS_value heavyS_skip heavyS_enter dcallS_some doneS_eq
  isLight isFloat isPlain dLook testBit_dec dChain dLights_nil dLights_skip dLights_one dLight_nil dLight_cons dFreshes_nil dFreshes_one oneF_none oneF_some dFresh_nil dFresh_cons oneL_some oneW_true oneW_false sameV_value dPut dMay valEq arrEq listEq List.getElem?_cons Tr.get_nil dEnd
attribute [local simp] WpS_nil WpS_cons isDefer undef_false wantS_true wantS_false nextS_value nextS_skip nextS_enter callS_some gotS_some aWanted aOp aEvalF aEval opMove opAssign opPick aVal flat flat1 AAct.put opBinOp opConvert opIndex Tr.get_set Tr.get_lay aBin aResults tupled
  aCall aVals aCallB blt_dec ble_dec beq_dec aBinI_add aBinI_sub aBinI_lss aBinI_leq aBinI_gtr aBinI_geq aBinI_eql aBinI_neq index_str len_str len_slice Nat.beq_refl Nat.beq_refl
  opBox opLoad opFieldAddr opIndexAddr acells aAddr opExtract aExtract opUnOp opAlloc opStore opMakeInterface opNilCheck opBuild aParts opBuildSlice aValW
attribute [local simp] und2 und3 und4 und5 und9 und12 field13_0 field13_1 und21 und22 field23_0 field23_1 field24_0 field24_1 field25_0 field25_1 und28 und31 field34_0 field34_1 field34_2 field35_0 field35_1 field35_2 und46 field50_0 field50_1 field50_2 und55 und56 und58 und61 und62 und73 und75 und90 und94 und95 und96 field97_0 field97_1 field97_2 field97_3 field97_4 field97_5 field97_6 field98_0 field98_1 field98_2 field98_3 field98_4 field98_5 field98_6 und99 und106 field107_0 field107_1 field108_0 field108_1 und119 und122 field124_0 field124_1 field124_2 field125_0 field125_1 field125_2 field131_0 field131_1 field132_0 field132_1 und133 field134_0 field134_1 field135_0 field135_1 und148 und156 und160
set_option maxHeartbeats 4000000
set_option linter.unusedSimpArgs false
set_option linter.unusedVariables false
/-! ### offers -/
def MatIn (W : AW) (v : Value) (ll : List (List Int)) : Prop := ∃ us : List Value, us.length = ll.length ∧ RowIn 1 encV W v us ∧ ∀ (i : Nat) u l, us[i]? = some u → ll[i]? = some l → IntR W u l
theorem mat_only {W W' : AW} {v : Value} {ll : List (List Int)} {K : Nat → Prop} (h : MatIn W v ll) (he : Only K W W') (hk : ∀ b, b < W.next → ¬ K b) : MatIn W' v ll :=
  let ⟨us, h1, h2, h3⟩ := h
  ⟨us, h1, h2.only he hk, fun i u l hu hl => (h3 i u l hu hl).only he hk⟩
theorem mat_ext {W W' : AW} {v : Value} {ll : List (List Int)} (h : MatIn W v ll) (he : Ext W W') : MatIn W' v ll := mat_only h he (fun _ _ x => x)
theorem mat_len {W : AW} {v : Value} {ll : List (List Int)} (h : MatIn W v ll) : ∃ A c, v = .slice A ll.length c := by
  obtain ⟨us, h1, h2, _⟩ := h
  obtain ⟨A, c, h⟩ := h2.len
  exact ⟨A, c, by rw [h, h1]⟩
theorem mat_at {W : AW} {v : Value} {ll : List (List Int)} (h : MatIn W v ll) {i : Nat} {l : List Int} (hi : ll[i]? = some l) : ∃ u b p, aIndexAddr T0 61 v (.int .i64 (i : Int)) = some (.pointer (some ⟨b, p, none⟩)) ∧ aLoadVar T0 W 62 b p = some u ∧ IntR W u l ∧ W.Has b p u := by
  obtain ⟨us, h1, h2, h3⟩ := h
  have hlt := (List.getElem?_eq_some_iff.1 hi).1
  obtain ⟨u, hu⟩ : ∃ u, us[i]? = some u := ⟨us[i]'(by omega), List.getElem?_eq_getElem (by omega)⟩
  obtain ⟨b, p, g1, g2⟩ := h2.at (T := T0) hu und61 sz62 .i64
  have := g2 0 u rfl
  exact ⟨u, b, p, g1, load_of und62 rfl this, h3 i u l hu hi, this⟩
theorem int_at {W : AW} {v : Value} {l : List Int} (h : IntR W v l) {i : Nat} {x : Int} (hi : l[i]? = some x) : ∃ b p, aIndexAddr T0 62 v (.int .i64 (i : Int)) = some (.pointer (some ⟨b, p, none⟩)) ∧ aLoadVar T0 W 2 b p = some (.int .i64 x) ∧ W.Has b p (.int .i64 x) := by
  obtain ⟨b, p, h1, h2, h3⟩ := h.int1 (T := T0) hi und62 sz2 und2 rfl
  exact ⟨b, p, h1, h3, h2⟩
def within (m : Int) (l : List Int) : Prop := ∀ x ∈ l, -m ≤ x ∧ x ≤ m
theorem take_mem {l : List Int} {i : Nat} {x y : Int} (hx : l[i]? = some x) (hy : y ∈ l.take (i + 1)) : y = x ∨ y ∈ l.take i := by
  rw [List.take_add_one, hx] at hy
  simp only [Option.toList_some, List.mem_append, List.mem_singleton] at hy
  rcases hy with h | h
  · exact .inr h
  · exact .inl h
open Classical in
theorem areWithin_wp {W : AW} {v : Value} {l : List Int} (h : IntR W v l) (m : Int) (hm : 0 < m ∧ m < 9223372036854775808) (hl : l.length < 9223372036854775808) : WpF T0 69 [v, .int .i64 m] W (fun u W' => W' = W ∧ u = .bool (decide (within m l))) := by
  obtain ⟨A, c, hv⟩ := h.len
  have ll : ∀ W', aLen T0 W' 62 v = some (.int .i64 l.length) := fun W' => by rw [hv]; exact len_slice und62 _ _ _
  have hneg : aUn .neg (.int .i64 m) = some (.int .i64 (-m)) := by
    have hu : Op.unary .neg (.int .i64 m) = Op.intArith .sub .i64 0 m := rfl
    have hw : IntKind.i64.wrap (0 - m) = -m := by rw [IntWalk.i64_in _ (by omega)]; omega
    generalize hz : (0 - m) = z at hw
    simp only [aUn, hu, Op.intArith, aPure, pure, hz, hw, flat1]
  refine wpF fun69 rfl ?_
  try simp only [wpK_assoc]
  refine wpK_reg (fun R hR => by simp []; exact hR) ?_
  try simp only [wpK_assoc]
  refine wpK_reg (fun R hR => by simp [ll]; exact hR) ?_
  try simp only [wpK_assoc]
  refine wpK_while (I := fun k A' W' => A'.n = 23 ∧ A'.defers = [] ∧ A'.tmps.get 1 = some (.int .i64 m) ∧ A'.tmps.get 7 = some (v) ∧ A'.tmps.get 8 = some (.int .i64 l.length) ∧ W' = W ∧ ∃ i : Nat, A'.tmps.get 9 = some (.int .i64 (i : Int)) ∧ k = l.length - i ∧ i ≤ l.length ∧ within m (l.take i))
    (J := fun A' W' => A'.n = 23 ∧ A'.defers = [] ∧ A'.tmps.get 1 = some (.int .i64 m) ∧ A'.tmps.get 7 = some (v) ∧ A'.tmps.get 8 = some (.int .i64 l.length) ∧ W' = W ∧ within m l) (Rt := fun A' W' => A'.defers = [] ∧ W' = W ∧ A'.tmps.get 4 = some (.bool false) ∧ ¬ within m l) (k := l.length) ?_ ?_ ?_ ?_
  · exact ⟨rfl, rfl, by simp, by simp, by simp, rfl, 0, by simp, rfl, by omega, fun x hx => by simp at hx⟩
  · rintro k ⟨tm, n, ds⟩ W2 ⟨hn, hd, h1, h7, h8, e2, i, h9, hk, hi, hw⟩ Q' hJ hRt hI
    simp only at hn hd h1 h7 h8
    subst hn; subst hd
    subst W2
    simp only at h9
    by_cases hlt : i < l.length
    case neg =>
      have e : i = l.length := by omega
      subst e
      rw [List.take_length] at hw
      try simp only [wpK_assoc]
      refine wpK_reg (fun R hR => by simp [h8, h9]; exact hR) ?_
      try simp only [wpK_assoc]
      first | refine wpK_onF (by simp []) ?_ | refine wpK_out (by simp []) ?_ | refine wpK_condF (by simp []) ?_ | refine wpK_endF (by simp []) (wpK_skip ?_) | refine wpK_endF (by simp []) ?_
      exact hJ _ _ ⟨rfl, rfl, by simp [h1, h7, h8], by simp [h1, h7, h8], by simp [h1, h7, h8], rfl, hw⟩
    have hlt' : (i : Int) < l.length := by omega
    try simp only [wpK_assoc]
    refine wpK_reg (fun R hR => by simp [h8, h9, hlt']; exact hR) ?_
    try simp only [wpK_assoc]
    first | refine wpK_onT (by simp []) ?_ | refine wpK_outT (by simp []) ?_ | refine wpK_condT (by simp []) ?_ | refine wpK_endT (by simp []) ?_
    have hx : l[i]? = some l[i] := List.getElem?_eq_getElem hlt
    generalize l[i] = x at hx
    obtain ⟨b, p, g1, g2, _⟩ := int_at h hx
    refine wpK_block ?_
    try simp only [wpK_assoc]
    refine wpK_reg (fun R hR => by simp [h7, h9, g1, g2]; exact hR) ?_
    by_cases b1 : x < -m
    · try simp only [wpK_assoc]
      refine wpK_reg (fun R hR => by simp [h1, hneg, b1]; exact hR) ?_
      try simp only [wpK_assoc]
      first | refine wpK_onT (by simp []) ?_ | refine wpK_outT (by simp []) ?_ | refine wpK_condT (by simp []) ?_ | refine wpK_endT (by simp []) ?_
      try simp only [wpK_assoc]
      refine wpK_reg (fun R hR => by simp []; exact hR) ?_
      exact wpK_ret (hRt _ _ ⟨rfl, rfl, by simp, fun hw2 => by have := hw2 x (List.mem_of_getElem? hx); omega⟩)
    by_cases b2 : m < x
    · try simp only [wpK_assoc]
      refine wpK_reg (fun R hR => by simp [h1, hneg, b1, b2]; exact hR) ?_
      try simp only [wpK_assoc]
      first | refine wpK_onT (by simp []) ?_ | refine wpK_outT (by simp []) ?_ | refine wpK_condT (by simp []) ?_ | refine wpK_endT (by simp []) ?_
      try simp only [wpK_assoc]
      refine wpK_reg (fun R hR => by simp []; exact hR) ?_
      exact wpK_ret (hRt _ _ ⟨rfl, rfl, by simp, fun hw2 => by have := hw2 x (List.mem_of_getElem? hx); omega⟩)
    try simp only [wpK_assoc]
    refine wpK_reg (fun R hR => by simp [h1, hneg, b1, b2]; exact hR) ?_
    try simp only [wpK_assoc]
    first | refine wpK_onF (by simp []) ?_ | refine wpK_out (by simp []) ?_ | refine wpK_condF (by simp []) ?_ | refine wpK_endF (by simp []) (wpK_skip ?_) | refine wpK_endF (by simp []) ?_
    simp only [leaves_normal, behind_normal]
    try simp only [wpK_assoc]
    refine wpK_reg1 (fun R hR => by simp [h9]; exact hR) ?_
    refine hI (l.length - (i + 1)) _ _ (by omega) ⟨rfl, rfl, by simp [h1, h7, h8], by simp [h1, h7, h8], by simp [h1, h7, h8], rfl, i + 1, by simp [i64_succ i (by omega)], rfl, by omega, fun y hy => ?_⟩
    rcases take_mem hx hy with rfl | hy
    · omega
    · exact hw y hy
  · rintro A' W' ⟨g1, rfl, g2, g3⟩
    exact ⟨.inr rfl, g1, [.bool false], by simp [g2], rfl, by rw [decide_eq_false g3]; rfl⟩
  · rintro ⟨tm, n, ds⟩ W2 ⟨hn, hd, h1, h7, h8, e2, hw⟩
    simp only at hn hd h1 h7 h8
    subst hn; subst hd
    subst W2
    try simp only [wpK_assoc]
    refine wpK_reg (fun R hR => by simp []; exact hR) ?_
    exact wpK_ret ⟨.inr rfl, rfl, [.bool true], by simp, rfl, by rw [decide_eq_true hw]; rfl⟩

end Go.Proofs.YtdpnplanohgecaaDoor

open Go Go.Eng
namespace Go.Proofs.YtdpnplanohgecaaDoor
open Go.ChangeShapes Go.WideShapes Go.ChangeAt Go.RowKit
/-! ### arguments that are sliced, arrays of two -/
theorem absV_row2 {w : World} {a : Addr} {n c : Nat} (h : 0 < c → ∃ v, w.cell? a = some v) (hn : n ≤ c) :
    ∃ a' c', absV w (.slice (some a) n c) = some (.slice a' n c') ∧ (0 < c → a' = some ⟨a.block, a.off, none⟩) ∧ SlOk (.slice a' n c') n := by
  by_cases hc : 0 < c
  · obtain ⟨v, hv⟩ := h hc
    have hs := cell_spot hv
    have hb := isCells_cell hv
    obtain ⟨b, o, s⟩ := a
    simp only at hs hb; subst hs
    exact ⟨some ⟨b, o, none⟩, 2 * c, by simp [absV, hb], fun _ => rfl, .inr (.inl ⟨b, o, c, rfl, hn⟩)⟩
  · obtain rfl : c = 0 := by omega
    obtain rfl : n = 0 := by omega
    obtain ⟨b, o, s⟩ := a
    cases s with
    | none =>
      by_cases hb : isCells w b = true
      · exact ⟨some ⟨b, o, none⟩, 0, by simp [absV, hb], fun x => absurd x hc, .inr (.inl ⟨b, o, 0, rfl, by omega⟩)⟩
      · exact ⟨some ⟨0, 0, some 1⟩, 0, by simp [absV, hb], fun x => absurd x hc, .inr (.inr ⟨rfl, rfl⟩)⟩
    | some s => exact ⟨some ⟨0, 0, some 1⟩, 0, rfl, fun x => absurd x hc, .inr (.inr ⟨rfl, rfl⟩)⟩
section
variable {H : Type} {enc : TypeId × Value → H} {P : Program} {w : World}
theorem wf_i64 {z : Int} (h : (Lit.int .i64 z).wf = true) : -9223372036854775808 ≤ z ∧ z < 9223372036854775808 := by
  have h1 : IntKind.i64.min = -9223372036854775808 := by decide
  simp [Lit.wf] at h; omega
/-- a slice of numbers -/
theorem ints_in2 {t e : TypeId} {fuel : Nat} {held : Bool} {v : Value} {x : DataW H × List MemPlace} (ht : P.underlying t = some (.slice e)) (he : P.underlying e = some (.int .i64)) (hc : P.cellsOf e = 1)
    (h : DataW.trod enc P w 0 (fun _ => true) held fuel t [v] = some x) : ∃ u l, absV w v = some u ∧ IntR (embW w) u l ∧ l.length < 9223372036854775808 ∧ SlOk u l.length ∧ ∀ z ∈ l, -9223372036854775808 ≤ z ∧ z < 9223372036854775808 := by
  rcases Deep.open_slice ht h with ⟨h1, _⟩ | ⟨a, len, cap, m, n, D, Pl, h1, _, h2, h3, hm, _, h4⟩
  · cases h1
    exact ⟨.slice none 0 0, [], rfl, .nil _, by simp, .inl ⟨rfl, rfl⟩, by simp⟩
  · cases h1
    simp only [if_true] at hm
    subst hm
    have each : ∀ i, i < m → ∃ z : Int, w.cell? (a.add i) = some (.int .i64 z) ∧ -9223372036854775808 ≤ z ∧ z < 9223372036854775808 := by
      intro i hi
      obtain ⟨cs', g1, g2⟩ := h4 i hi
      rw [hc, Nat.mul_one] at g1
      obtain ⟨_, hlen, hcell⟩ := World.cells?_some g1
      match cs', hlen with
      | [x0], _ =>
        obtain ⟨z0, e0, _, hz⟩ := DataW.trod_int he g2
        cases e0
        have k0 := hcell 0 (by omega)
        rw [Go.Deep.add_add] at k0
        exact ⟨z0, by simpa using k0, wf_i64 hz⟩
    obtain ⟨Z, hZ⟩ := Deep.choose_lt each
    obtain ⟨a', c', g4, g5, g6⟩ := absV_row2 (w := w) (a := a) (n := len) (c := m) (fun hc => ⟨_, by simpa [Addr.add] using (hZ 0 hc).1⟩) h2
    refine ⟨_, (List.range len).map Z, g4, ⟨a', c', by simp, fun h0 => ?_, fun i z hi => ?_⟩, by simp; unfold maxLen at h3; omega, by simpa using g6, fun z hz => ?_⟩
    · have h0 : len = 0 := by simpa using h0
      exact SlOk.emp (n := len) g6
    · have hi' : i < len := by
        have := (List.getElem?_eq_some_iff.1 hi).1
        simpa using this
      simp only [List.getElem?_map, List.getElem?_range hi', Option.map_some, Option.some.injEq] at hi
      subst hi
      have e0 := emb_has (hZ i (by omega)).1 (u := .int .i64 (Z i)) rfl
      rw [add_block, add_off] at e0
      refine ⟨a.block, a.off, g5 (by omega), fun j u hu => ?_⟩
      have hj : j = 0 := by have := (List.getElem?_eq_some_iff.1 hu).1; simp only [encI, List.length_cons, List.length_nil] at this; omega
      subst hj
      cases hu
      rw [Nat.mul_one, Nat.add_zero]; exact e0
    · simp only [List.mem_map, List.mem_range] at hz
      obtain ⟨i, hi, rfl⟩ := hz
      exact (hZ i (by omega)).2
/-- rows of numbers -/
def MatS (W : AW) (v : Value) (ll : List (List Int)) : Prop := ∃ us : List Value, us.length = ll.length ∧ RowIn 1 encV W v us ∧ ∀ (i : Nat) u l, us[i]? = some u → ll[i]? = some l → IntR W u l ∧ SlOk u l.length
theorem mat_in2 {t e e2 : TypeId} {fuel : Nat} {held : Bool} {v : Value} {x : DataW H × List MemPlace} (ht : P.underlying t = some (.slice e)) (he : P.underlying e = some (.slice e2)) (hc : P.cellsOf e = 1) (he2 : P.underlying e2 = some (.int .i64)) (hc2 : P.cellsOf e2 = 1)
    (h : DataW.trod enc P w 0 (fun _ => true) held fuel t [v] = some x) : ∃ u l, absV w v = some u ∧ MatS (embW w) u l ∧ l.length < 9223372036854775808 ∧ SlOk u l.length ∧ ∀ r ∈ l, r.length < 9223372036854775808 ∧ ∀ z ∈ r, -9223372036854775808 ≤ z ∧ z < 9223372036854775808 := by
  rcases Deep.open_slice ht h with ⟨h1, _⟩ | ⟨a, len, cap, m, n, D, Pl, h1, _, h2, h3, hm, _, h4⟩
  · cases h1
    exact ⟨.slice none 0 0, [], rfl, ⟨[], rfl, .nil _, fun i u l hu => by simp at hu⟩, by simp, .inl ⟨rfl, rfl⟩, by simp⟩
  · cases h1
    simp only [if_true] at hm
    subst hm
    have each : ∀ i, i < m → ∃ z : Value × Value × List Int, w.cell? (a.add i) = some z.1 ∧ absV w z.1 = some z.2.1 ∧ (IntR (embW w) z.2.1 z.2.2 ∧ SlOk z.2.1 z.2.2.length) ∧ z.2.2.length < 9223372036854775808 ∧ ∀ y ∈ z.2.2, -9223372036854775808 ≤ y ∧ y < 9223372036854775808 := by
      intro i hi
      obtain ⟨cs', g1, g2⟩ := h4 i hi
      rw [hc, Nat.mul_one] at g1
      obtain ⟨_, hlen, hcell⟩ := World.cells?_some g1
      match cs', hlen with
      | [x0], _ =>
        obtain ⟨u, l, q1, q2, q3, q4, q5⟩ := ints_in2 he he2 hc2 g2
        have k0 := hcell 0 (by omega)
        rw [Go.Deep.add_add] at k0
        exact ⟨(x0, u, l), by simpa using k0, q1, ⟨q2, q4⟩, q3, q5⟩
    obtain ⟨Z, hZ⟩ := Deep.choose_lt each
    obtain ⟨a', c', g4, g5, g6⟩ := absV_row2 (w := w) (a := a) (n := len) (c := m) (fun hc => ⟨_, by simpa [Addr.add] using (hZ 0 hc).1⟩) h2
    refine ⟨_, (List.range len).map (fun i => (Z i).2.2), g4, ⟨(List.range len).map (fun i => (Z i).2.1), by simp, ⟨a', c', by simp, fun h0 => ?_, fun i z hi => ?_⟩, fun i u l hu hl => ?_⟩, by simp; unfold maxLen at h3; omega, by simpa using g6, fun r hr => ?_⟩
    · exact SlOk.emp (n := len) g6
    · have hi' : i < len := by
        have := (List.getElem?_eq_some_iff.1 hi).1
        simpa using this
      simp only [List.getElem?_map, List.getElem?_range hi', Option.map_some, Option.some.injEq] at hi
      subst hi
      have e0 := emb_has (hZ i (by omega)).1 (hZ i (by omega)).2.1
      rw [add_block, add_off] at e0
      refine ⟨a.block, a.off, g5 (by omega), fun j u hu => ?_⟩
      have hj : j = 0 := by have := (List.getElem?_eq_some_iff.1 hu).1; simp only [encV, List.length_cons, List.length_nil] at this; omega
      subst hj
      cases hu
      rw [Nat.mul_one, Nat.add_zero]; exact e0
    · have hi' : i < len := by
        have := (List.getElem?_eq_some_iff.1 hu).1
        simpa using this
      simp only [List.getElem?_map, List.getElem?_range hi', Option.map_some, Option.some.injEq] at hu hl
      subst hu; subst hl
      exact (hZ i (by omega)).2.2.1
    · simp only [List.mem_map, List.mem_range] at hr
      obtain ⟨i, hi, rfl⟩ := hr
      exact (hZ i (by omega)).2.2.2
theorem mats_in {W : AW} {v : Value} {ll : List (List Int)} (h : MatS W v ll) : MatIn W v ll := let ⟨us, h1, h2, h3⟩ := h; ⟨us, h1, h2, fun i u l hu hl => (h3 i u l hu hl).1⟩
end
end Go.Proofs.YtdpnplanohgecaaDoor

open Go Go.Eng
namespace Go.Proofs.YtdpnplanohgecaaDoor
attribute [local congr] undef_congr WpK.congr WpS.congr WpL.congr WpC.congr WpF.congr gotS.congr callS.congr nextS.congr wantS.congr condS.congr
attribute [local irreducible] WpK
attribute [local simp] WpDr_nil WpDr_cons atS_some dwantS_true dwantS_false kindS_light kindS_float kindS_heavy lightS_value floatS_some heavyS_value heavyS_skip heavyS_enter dcallS_some doneS_eq
  isLight isFloat isPlain dLook testBit_dec dChain dLights_nil dLights_skip dLights_one dLight_nil dLight_cons dFreshes_nil dFreshes_one oneF_none oneF_some dFresh_nil dFresh_cons oneL_some oneW_true oneW_false sameV_value dPut dMay valEq arrEq listEq List.getElem?_cons Tr.get_nil dEnd
attribute [local simp] WpS_nil WpS_cons isDefer undef_false wantS_true wantS_false nextS_value nextS_skip nextS_enter callS_some gotS_some aWanted aOp aEvalF aEval opMove opAssign opPick aVal flat flat1 AAct.put opBinOp opConvert opIndex Tr.get_set Tr.get_lay aBin aResults tupled
  aCall aVals aCallB blt_dec ble_dec beq_dec aBinI_add aBinI_sub aBinI_lss aBinI_leq aBinI_gtr aBinI_geq aBinI_eql aBinI_neq index_str len_str len_slice Nat.beq_refl Nat.beq_refl
  opBox opLoad opFieldAddr opIndexAddr acells aAddr opExtract aExtract opUnOp opAlloc opStore opMakeInterface opNilCheck opBuild aParts opBuildSlice aValW
attribute [local simp] und2 und3 und4 und5 und9 und12 field13_0 field13_1 und21 und22 field23_0 field23_1 field24_0 field24_1 field25_0 field25_1 und28 und31 field34_0 field34_1 field34_2 field35_0 field35_1 field35_2 und46 field50_0 field50_1 field50_2 und55 und56 und58 und61 und62 und73 und75 und90 und94 und95 und96 field97_0 field97_1 field97_2 field97_3 field97_4 field97_5 field97_6 field98_0 field98_1 field98_2 field98_3 field98_4 field98_5 field98_6 und99 und106 field107_0 field107_1 field108_0 field108_1 und119 und122 field124_0 field124_1 field124_2 field125_0 field125_1 field125_2 field131_0 field131_1 field132_0 field132_1 und133 field134_0 field134_1 field135_0 field135_1 und148 und156 und160
set_option maxHeartbeats 4000000
set_option linter.unusedSimpArgs false
set_option linter.unusedVariables false
/-! ### is it an offer? -/
theorem take_memA {α : Type} {l : List α} {i : Nat} {x y : α} (hx : l[i]? = some x) (hy : y ∈ l.take (i + 1)) : y = x ∨ y ∈ l.take i := by
  rw [List.take_add_one, hx] at hy
  simp only [Option.toList_some, List.mem_append, List.mem_singleton] at hy
  rcases hy with h | h
  · exact .inr h
  · exact .inl h
open Classical in
noncomputable def offE (ll : List (List Int)) : Int := if ll.length < 1 ∨ 12 < ll.length then 7 else if ∀ r ∈ ll, r.length = ll.length then (if ∀ r ∈ ll, within 1000000 r then 0 else 1) else 7
def OffOk (ll : List (List Int)) : Prop := 1 ≤ ll.length ∧ ll.length ≤ 12 ∧ (∀ r ∈ ll, r.length = ll.length) ∧ ∀ r ∈ ll, within 1000000 r
theorem offE_ok {ll : List (List Int)} (h : OffOk ll) : offE ll = 0 := by
  rw [offE, if_neg (by have := h.1; have := h.2.1; omega), if_pos h.2.2.1, if_pos h.2.2.2]
theorem offE_0 {ll : List (List Int)} (h : offE ll = 0) : OffOk ll := by
  unfold offE at h
  split at h
  · omega
  · rename_i h1
    split at h
    · rename_i h2
      split at h
      · rename_i h3; exact ⟨by omega, by omega, h2, h3⟩
      · omega
    · omega
open Classical in
theorem checkOffer_wp {W : AW} {v : Value} {ll : List (List Int)} (h : MatIn W v ll) (hl : ll.length < 9223372036854775808) (hr : ∀ r ∈ ll, r.length < 9223372036854775808) : WpF T0 66 [v] W (fun u W' => W' = W ∧ u = .int .i64 (offE ll)) := by
  obtain ⟨A, c, hv⟩ := mat_len h
  have lv : ∀ W', aLen T0 W' 61 v = some (.int .i64 ll.length) := fun W' => by rw [hv]; exact len_slice und61 _ _ _
  refine wpF fun66 rfl ?_
  try simp only [wpK_assoc]
  refine wpK_reg (fun R hR => by simp []; exact hR) ?_
  by_cases h1 : ll.length < 1
  · have h1' : (ll.length : Int) < 1 := by omega
    try simp only [wpK_assoc]
    refine wpK_reg (fun R hR => by simp [lv, h1']; exact hR) ?_
    try simp only [wpK_assoc]
    first | refine wpK_onT (by simp []) ?_ | refine wpK_outT (by simp []) ?_ | refine wpK_condT (by simp []) ?_ | refine wpK_endT (by simp []) ?_
    try simp only [wpK_assoc]
    refine wpK_reg (fun R hR => by simp []; exact hR) ?_
    exact wpK_ret ⟨.inr rfl, rfl, [.int .i64 7], by simp, rfl, by rw [offE, if_pos (.inl h1)]; rfl⟩
  have h1' : ¬ (ll.length : Int) < 1 := by omega
  by_cases h2 : 12 < ll.length
  · have h2' : (12 : Int) < ll.length := by omega
    try simp only [wpK_assoc]
    refine wpK_reg (fun R hR => by simp [lv, h1', h2']; exact hR) ?_
    try simp only [wpK_assoc]
    first | refine wpK_onT (by simp []) ?_ | refine wpK_outT (by simp []) ?_ | refine wpK_condT (by simp []) ?_ | refine wpK_endT (by simp []) ?_
    try simp only [wpK_assoc]
    refine wpK_reg (fun R hR => by simp []; exact hR) ?_
    exact wpK_ret ⟨.inr rfl, rfl, [.int .i64 7], by simp, rfl, by rw [offE, if_pos (.inr h2)]; rfl⟩
  have h2' : ¬ (12 : Int) < ll.length := by omega
  try simp only [wpK_assoc]
  refine wpK_reg (fun R hR => by simp [lv, h1', h2']; exact hR) ?_
  try simp only [wpK_assoc]
  first | refine wpK_onF (by simp []) ?_ | refine wpK_out (by simp []) ?_ | refine wpK_condF (by simp []) ?_ | refine wpK_endF (by simp []) (wpK_skip ?_) | refine wpK_endF (by simp []) ?_
  try simp only [wpK_assoc]
  refine wpK_reg (fun R hR => by simp [lv]; exact hR) ?_
  try simp only [wpK_assoc]
  refine wpK_while (I := fun k A' W' => A'.n = 37 ∧ A'.defers = [] ∧ A'.tmps.get 0 = some (v) ∧ A'.tmps.get 15 = some (v) ∧ A'.tmps.get 16 = some (.int .i64 ll.length) ∧ W' = W ∧ ∃ i : Nat, A'.tmps.get 17 = some (.int .i64 (i : Int)) ∧ k = ll.length - i ∧ i ≤ ll.length ∧ ∀ r ∈ ll.take i, r.length = ll.length)
    (J := fun A' W' => A'.n = 37 ∧ A'.defers = [] ∧ A'.tmps.get 0 = some (v) ∧ A'.tmps.get 15 = some (v) ∧ A'.tmps.get 16 = some (.int .i64 ll.length) ∧ W' = W ∧ ∀ r ∈ ll, r.length = ll.length) (Rt := fun A' W' => A'.defers = [] ∧ W' = W ∧ A'.tmps.get 2 = some (.int .i64 7) ∧ ¬ ∀ r ∈ ll, r.length = ll.length) (k := ll.length) ?_ ?_ ?_ ?_
  · exact ⟨rfl, rfl, by simp, by simp, by simp, rfl, 0, by simp, rfl, by omega, fun x hx => by simp at hx⟩
  · rintro k ⟨tm, n, ds⟩ W2 ⟨hn, hd, h0, h15, h16, e2, i, h17, hk, hi, hw⟩ Q' hJ hRt hI
    simp only at hn hd h0 h15 h16
    subst hn; subst hd
    subst W2
    simp only at h17
    by_cases hlt : i < ll.length
    case neg =>
      have e : i = ll.length := by omega
      subst e
      rw [List.take_length] at hw
      try simp only [wpK_assoc]
      refine wpK_reg (fun R hR => by simp [h16, h17]; exact hR) ?_
      try simp only [wpK_assoc]
      first | refine wpK_onF (by simp []) ?_ | refine wpK_out (by simp []) ?_ | refine wpK_condF (by simp []) ?_ | refine wpK_endF (by simp []) (wpK_skip ?_) | refine wpK_endF (by simp []) ?_
      exact hJ _ _ ⟨rfl, rfl, by simp [h0, h15, h16], by simp [h0, h15, h16], by simp [h0, h15, h16], rfl, hw⟩
    have hlt' : (i : Int) < ll.length := by omega
    try simp only [wpK_assoc]
    refine wpK_reg (fun R hR => by simp [h16, h17, hlt']; exact hR) ?_
    try simp only [wpK_assoc]
    first | refine wpK_onT (by simp []) ?_ | refine wpK_outT (by simp []) ?_ | refine wpK_condT (by simp []) ?_ | refine wpK_endT (by simp []) ?_
    have hx : ll[i]? = some ll[i] := List.getElem?_eq_getElem hlt
    generalize ll[i] = r at hx
    obtain ⟨u, b, p, g1, g2, g3, _⟩ := mat_at h hx
    obtain ⟨A2, c2, hu⟩ := g3.len
    have lu : ∀ W', aLen T0 W' 62 u = some (.int .i64 r.length) := fun W' => by rw [hu]; exact len_slice und62 _ _ _
    refine wpK_block ?_
    try simp only [wpK_assoc]
    refine wpK_reg (fun R hR => by simp [h15, h17, g1, g2]; exact hR) ?_
    by_cases b1 : r.length = ll.length
    · try simp only [wpK_assoc]
      refine wpK_reg (fun R hR => by simp [h0, lu, lv, b1]; exact hR) ?_
      try simp only [wpK_assoc]
      first | refine wpK_onF (by simp []) ?_ | refine wpK_out (by simp []) ?_ | refine wpK_condF (by simp []) ?_ | refine wpK_endF (by simp []) (wpK_skip ?_) | refine wpK_endF (by simp []) ?_
      simp only [leaves_normal, behind_normal]
      try simp only [wpK_assoc]
      refine wpK_reg1 (fun R hR => by simp [h17]; exact hR) ?_
      refine hI (ll.length - (i + 1)) _ _ (by omega) ⟨rfl, rfl, by simp [h0, h15, h16], by simp [h0, h15, h16], by simp [h0, h15, h16], rfl, i + 1, by simp [i64_succ i (by omega)], rfl, by omega, fun y hy => ?_⟩
      rcases take_memA hx hy with rfl | hy
      · exact b1
      · exact hw y hy
    · have b1' : ¬ (r.length : Int) = ll.length := by omega
      try simp only [wpK_assoc]
      refine wpK_reg (fun R hR => by simp [h0, lu, lv, b1', b1]; exact hR) ?_
      try simp only [wpK_assoc]
      first | refine wpK_onT (by simp []) ?_ | refine wpK_outT (by simp []) ?_ | refine wpK_condT (by simp []) ?_ | refine wpK_endT (by simp []) ?_
      try simp only [wpK_assoc]
      refine wpK_reg (fun R hR => by simp []; exact hR) ?_
      exact wpK_ret (hRt _ _ ⟨rfl, rfl, by simp, fun hw2 => b1 (hw2 r (List.mem_of_getElem? hx))⟩)
  · rintro A' W' ⟨g1, rfl, g2, g3⟩
    exact ⟨.inr rfl, g1, [.int .i64 7], by simp [g2], rfl, by rw [offE, if_neg (by omega), if_neg g3]; rfl⟩
  rintro ⟨tm, n, ds⟩ W2 ⟨hn, hd, h0, h15, h16, e2, hsq⟩
  simp only at hn hd h0 h15 h16
  subst hn; subst hd
  subst W2
  try simp only [wpK_assoc]
  refine wpK_reg (fun R hR => by simp [h0, lv]; exact hR) ?_
  try simp only [wpK_assoc]
  refine wpK_while (I := fun k A' W' => A'.n = 37 ∧ A'.defers = [] ∧ A'.tmps.get 0 = some (v) ∧ A'.tmps.get 27 = some (v) ∧ A'.tmps.get 28 = some (.int .i64 ll.length) ∧ W' = W ∧ ∃ i : Nat, A'.tmps.get 29 = some (.int .i64 (i : Int)) ∧ k = ll.length - i ∧ i ≤ ll.length ∧ ∀ r ∈ ll.take i, within 1000000 r)
    (J := fun A' W' => A'.n = 37 ∧ A'.defers = [] ∧ A'.tmps.get 0 = some (v) ∧ A'.tmps.get 27 = some (v) ∧ A'.tmps.get 28 = some (.int .i64 ll.length) ∧ W' = W ∧ ∀ r ∈ ll, within 1000000 r) (Rt := fun A' W' => A'.defers = [] ∧ W' = W ∧ A'.tmps.get 2 = some (.int .i64 1) ∧ ¬ ∀ r ∈ ll, within 1000000 r) (k := ll.length) ?_ ?_ ?_ ?_
  · exact ⟨rfl, rfl, by simp [h0], by simp [h0], by simp [h0], rfl, 0, by simp, rfl, by omega, fun x hx => by simp at hx⟩
  · rintro k ⟨tm, n, ds⟩ W2 ⟨hn, hd, h0, h27, h28, e2, i, h29, hk, hi, hw⟩ Q' hJ hRt hI
    simp only at hn hd h0 h27 h28
    subst hn; subst hd
    subst W2
    simp only at h29
    by_cases hlt : i < ll.length
    case neg =>
      have e : i = ll.length := by omega
      subst e
      rw [List.take_length] at hw
      try simp only [wpK_assoc]
      refine wpK_reg (fun R hR => by simp [h28, h29]; exact hR) ?_
      try simp only [wpK_assoc]
      first | refine wpK_onF (by simp []) ?_ | refine wpK_out (by simp []) ?_ | refine wpK_condF (by simp []) ?_ | refine wpK_endF (by simp []) (wpK_skip ?_) | refine wpK_endF (by simp []) ?_
      exact hJ _ _ ⟨rfl, rfl, by simp [h0, h27, h28], by simp [h0, h27, h28], by simp [h0, h27, h28], rfl, hw⟩
    have hlt' : (i : Int) < ll.length := by omega
    try simp only [wpK_assoc]
    refine wpK_reg (fun R hR => by simp [h28, h29, hlt']; exact hR) ?_
    try simp only [wpK_assoc]
    first | refine wpK_onT (by simp []) ?_ | refine wpK_outT (by simp []) ?_ | refine wpK_condT (by simp []) ?_ | refine wpK_endT (by simp []) ?_
    have hx : ll[i]? = some ll[i] := List.getElem?_eq_getElem hlt
    generalize ll[i] = r at hx
    obtain ⟨u, b, p, g1, g2, g3, _⟩ := mat_at h hx
    refine wpK_block ?_
    try simp only [wpK_assoc]
    refine wpK_reg (fun R hR => by simp [h27, h29, g1, g2]; exact hR) ?_
    try simp only [wpK_assoc]
    refine wpK_reg (fun R hR => by
        simp [aEnter, fun69, short_other, aCallV]; rw [callS_none]
        refine (areWithin_wp g3 1000000 (by omega) (hr r (List.mem_of_getElem? hx))).mono ?_
        rintro _ W9 ⟨e9, rfl⟩; subst W9
        simp []; exact hR) ?_
    by_cases b1 : within 1000000 r
    · try simp only [wpK_assoc]
      first | refine wpK_onF (by simp [b1]) ?_ | refine wpK_out (by simp [b1]) ?_ | refine wpK_condF (by simp [b1]) ?_ | refine wpK_endF (by simp [b1]) (wpK_skip ?_) | refine wpK_endF (by simp [b1]) ?_
      simp only [leaves_normal, behind_normal]
      try simp only [wpK_assoc]
      refine wpK_reg1 (fun R hR => by simp [h29]; exact hR) ?_
      refine hI (ll.length - (i + 1)) _ _ (by omega) ⟨rfl, rfl, by simp [h0, h27, h28], by simp [h0, h27, h28], by simp [h0, h27, h28], rfl, i + 1, by simp [i64_succ i (by omega)], rfl, by omega, fun y hy => ?_⟩
      rcases take_memA hx hy with rfl | hy
      · exact b1
      · exact hw y hy
    · try simp only [wpK_assoc]
      first | refine wpK_onT (by simp [b1]) ?_ | refine wpK_outT (by simp [b1]) ?_ | refine wpK_condT (by simp [b1]) ?_ | refine wpK_endT (by simp [b1]) ?_
      try simp only [wpK_assoc]
      refine wpK_reg (fun R hR => by simp []; exact hR) ?_
      exact wpK_ret (hRt _ _ ⟨rfl, rfl, by simp, fun hw2 => b1 (hw2 r (List.mem_of_getElem? hx))⟩)
  · rintro A' W' ⟨g1, rfl, g2, g3⟩
    exact ⟨.inr rfl, g1, [.int .i64 1], by simp [g2], rfl, by rw [offE, if_neg (by omega), if_pos hsq, if_neg g3]; rfl⟩
  · rintro ⟨tm, n, ds⟩ W2 ⟨hn, hd, h0, h27, h28, e2, hw⟩
    simp only at hn hd h0 h27 h28
    subst hn; subst hd
    subst W2
    try simp only [wpK_assoc]
    refine wpK_reg (fun R hR => by simp []; exact hR) ?_
    exact wpK_ret ⟨.inr rfl, rfl, [.int .i64 0], by simp, rfl, by rw [offE_ok ⟨by omega, by omega, hsq, hw⟩]; rfl⟩

end Go.Proofs.YtdpnplanohgecaaDoor

open Go Go.Eng
namespace Go.Proofs.YtdpnplanohgecaaDoor
attribute [local congr] undef_congr WpK.congr WpS.congr WpL.congr WpC.congr WpF.congr gotS.congr callS.congr nextS.congr wantS.congr condS.congr
attribute [local irreducible] WpK
attribute [local simp] WpDr_nil WpDr_cons atS_some dwantS_true dwantS_false kindS_light kindS_float kindS_heavy lightS_value floatS_some heavyS_value heavyS_skip heavyS_enter dcallS_some doneS_eq
  isLight isFloat isPlain dLook testBit_dec dChain dLights_nil dLights_skip dLights_one dLight_nil dLight_cons dFreshes_nil dFreshes_one oneF_none oneF_some dFresh_nil dFresh_cons oneL_some oneW_true oneW_false sameV_value dPut dMay valEq arrEq listEq List.getElem?_cons Tr.get_nil dEnd
attribute [local simp] WpS_nil WpS_cons isDefer undef_false wantS_true wantS_false nextS_value nextS_skip nextS_enter callS_some gotS_some aWanted aOp aEvalF aEval opMove opAssign opPick aVal flat flat1 AAct.put opBinOp opConvert opIndex Tr.get_set Tr.get_lay aBin aResults tupled
  aCall aVals aCallB blt_dec ble_dec beq_dec aBinI_add aBinI_sub aBinI_lss aBinI_leq aBinI_gtr aBinI_geq aBinI_eql aBinI_neq index_str len_str len_slice Nat.beq_refl Nat.beq_refl
  opBox opLoad opFieldAddr opIndexAddr acells aAddr opExtract aExtract opUnOp opAlloc opStore opMakeInterface opNilCheck opBuild aParts opBuildSlice aValW
attribute [local simp] und2 und3 und4 und5 und9 und12 field13_0 field13_1 und21 und22 field23_0 field23_1 field24_0 field24_1 field25_0 field25_1 und28 und31 field34_0 field34_1 field34_2 field35_0 field35_1 field35_2 und46 field50_0 field50_1 field50_2 und55 und56 und58 und61 und62 und73 und75 und90 und94 und95 und96 field97_0 field97_1 field97_2 field97_3 field97_4 field97_5 field97_6 field98_0 field98_1 field98_2 field98_3 field98_4 field98_5 field98_6 und99 und106 field107_0 field107_1 field108_0 field108_1 und119 und122 field124_0 field124_1 field124_2 field125_0 field125_1 field125_2 field131_0 field131_1 field132_0 field132_1 und133 field134_0 field134_1 field135_0 field135_1 und148 und156 und160
set_option maxHeartbeats 4000000
set_option linter.unusedSimpArgs false
set_option linter.unusedVariables false
/-! ### the reference's check of an offer -/
open Classical in
theorem refOffer_wp {W : AW} {v : Value} {ll : List (List Int)} (h : MatIn W v ll) (hl : ll.length < 9223372036854775808) : WpF T0 37 [v] W (fun u W' => W' = W ∧ u = .int .i64 (offE ll)) := by
  obtain ⟨A, c, hv⟩ := mat_len h
  have lv : ∀ W', aLen T0 W' 61 v = some (.int .i64 ll.length) := fun W' => by rw [hv]; exact len_slice und61 _ _ _
  refine wpF fun37 rfl ?_
  try simp only [wpK_assoc]
  refine wpK_reg (fun R hR => by simp []; exact hR) ?_
  by_cases h1 : ll.length < 1
  · have h1' : (ll.length : Int) < 1 := by omega
    try simp only [wpK_assoc]
    refine wpK_reg (fun R hR => by simp [lv, h1']; exact hR) ?_
    try simp only [wpK_assoc]
    first | refine wpK_onT (by simp []) ?_ | refine wpK_outT (by simp []) ?_ | refine wpK_condT (by simp []) ?_ | refine wpK_endT (by simp []) ?_
    try simp only [wpK_assoc]
    refine wpK_reg (fun R hR => by simp []; exact hR) ?_
    exact wpK_ret ⟨.inr rfl, rfl, [.int .i64 7], by simp, rfl, by rw [offE, if_pos (.inl h1)]; rfl⟩
  have h1' : ¬ (ll.length : Int) < 1 := by omega
  by_cases h2 : 12 < ll.length
  · have h2' : (12 : Int) < ll.length := by omega
    try simp only [wpK_assoc]
    refine wpK_reg (fun R hR => by simp [lv, h1', h2']; exact hR) ?_
    try simp only [wpK_assoc]
    first | refine wpK_onT (by simp []) ?_ | refine wpK_outT (by simp []) ?_ | refine wpK_condT (by simp []) ?_ | refine wpK_endT (by simp []) ?_
    try simp only [wpK_assoc]
    refine wpK_reg (fun R hR => by simp []; exact hR) ?_
    exact wpK_ret ⟨.inr rfl, rfl, [.int .i64 7], by simp, rfl, by rw [offE, if_pos (.inr h2)]; rfl⟩
  have h2' : ¬ (12 : Int) < ll.length := by omega
  try simp only [wpK_assoc]
  refine wpK_reg (fun R hR => by simp [lv, h1', h2']; exact hR) ?_
  try simp only [wpK_assoc]
  first | refine wpK_onF (by simp []) ?_ | refine wpK_out (by simp []) ?_ | refine wpK_condF (by simp []) ?_ | refine wpK_endF (by simp []) (wpK_skip ?_) | refine wpK_endF (by simp []) ?_
  try simp only [wpK_assoc]
  refine wpK_reg (fun R hR => by simp []; exact hR) ?_
  try simp only [wpK_assoc]
  refine wpK_while (I := fun k A' W' => A'.n = 58 ∧ A'.defers = [] ∧ A'.tmps.get 0 = some (v) ∧ W' = W ∧ ∃ i : Nat, A'.tmps.get 3 = some (.int .i64 (i : Int)) ∧ k = ll.length - i ∧ i ≤ ll.length ∧ ∀ r ∈ ll.take i, r.length = ll.length)
    (J := fun A' W' => A'.n = 58 ∧ A'.defers = [] ∧ A'.tmps.get 0 = some (v) ∧ W' = W ∧ ∀ r ∈ ll, r.length = ll.length) (Rt := fun A' W' => A'.defers = [] ∧ W' = W ∧ A'.tmps.get 2 = some (.int .i64 7) ∧ ¬ ∀ r ∈ ll, r.length = ll.length) (k := ll.length) ?_ ?_ ?_ ?_
  · exact ⟨rfl, rfl, by simp, rfl, 0, by simp, rfl, by omega, fun x hx => by simp at hx⟩
  · rintro k ⟨tm, n, ds⟩ W2 ⟨hn, hd, h0, e2, i, h3, hk, hi, hw⟩ Q' hJ hRt hI
    simp only at hn hd h0
    subst hn; subst hd
    subst W2
    simp only at h3
    by_cases hlt : i < ll.length
    case neg =>
      have e : i = ll.length := by omega
      subst e
      rw [List.take_length] at hw
      try simp only [wpK_assoc]
      refine wpK_reg (fun R hR => by simp [h0, h3, lv]; exact hR) ?_
      try simp only [wpK_assoc]
      first | refine wpK_onF (by simp []) ?_ | refine wpK_out (by simp []) ?_ | refine wpK_condF (by simp []) ?_ | refine wpK_endF (by simp []) (wpK_skip ?_) | refine wpK_endF (by simp []) ?_
      exact hJ _ _ ⟨rfl, rfl, by simp [h0], rfl, hw⟩
    have hlt' : (i : Int) < ll.length := by omega
    try simp only [wpK_assoc]
    refine wpK_reg (fun R hR => by simp [h0, h3, lv, hlt']; exact hR) ?_
    try simp only [wpK_assoc]
    first | refine wpK_onT (by simp []) ?_ | refine wpK_outT (by simp []) ?_ | refine wpK_condT (by simp []) ?_ | refine wpK_endT (by simp []) ?_
    have hx : ll[i]? = some ll[i] := List.getElem?_eq_getElem hlt
    generalize ll[i] = r at hx
    obtain ⟨u, b, p, g1, g2, g3, _⟩ := mat_at h hx
    obtain ⟨A2, c2, hu⟩ := g3.len
    have lu : ∀ W', aLen T0 W' 62 u = some (.int .i64 r.length) := fun W' => by rw [hu]; exact len_slice und62 _ _ _
    refine wpK_block ?_
    by_cases b1 : r.length = ll.length
    · try simp only [wpK_assoc]
      refine wpK_reg (fun R hR => by simp [h0, h3, g1, g2, lu, lv, b1]; exact hR) ?_
      try simp only [wpK_assoc]
      first | refine wpK_onF (by simp []) ?_ | refine wpK_out (by simp []) ?_ | refine wpK_condF (by simp []) ?_ | refine wpK_endF (by simp []) (wpK_skip ?_) | refine wpK_endF (by simp []) ?_
      simp only [leaves_normal, behind_normal]
      try simp only [wpK_assoc]
      refine wpK_reg1 (fun R hR => by simp [h3]; exact hR) ?_
      refine hI (ll.length - (i + 1)) _ _ (by omega) ⟨rfl, rfl, by simp [h0], rfl, i + 1, by simp [i64_succ i (by omega)], rfl, by omega, fun y hy => ?_⟩
      rcases take_memA hx hy with rfl | hy
      · exact b1
      · exact hw y hy
    · have b1' : ¬ (r.length : Int) = ll.length := by omega
      try simp only [wpK_assoc]
      refine wpK_reg (fun R hR => by simp [h0, h3, g1, g2, lu, lv, b1', b1]; exact hR) ?_
      try simp only [wpK_assoc]
      first | refine wpK_onT (by simp []) ?_ | refine wpK_outT (by simp []) ?_ | refine wpK_condT (by simp []) ?_ | refine wpK_endT (by simp []) ?_
      try simp only [wpK_assoc]
      refine wpK_reg (fun R hR => by simp []; exact hR) ?_
      exact wpK_ret (hRt _ _ ⟨rfl, rfl, by simp, fun hw2 => b1 (hw2 r (List.mem_of_getElem? hx))⟩)
  · rintro A' W' ⟨g1, rfl, g2, g3⟩
    exact ⟨.inr rfl, g1, [.int .i64 7], by simp [g2], rfl, by rw [offE, if_neg (by omega), if_neg g3]; rfl⟩
  rintro ⟨tm, n, ds⟩ W2 ⟨hn, hd, h0, e2, hsq⟩
  simp only at hn hd h0
  subst hn; subst hd
  subst W2
  try simp only [wpK_assoc]
  refine wpK_reg (fun R hR => by simp []; exact hR) ?_
  try simp only [wpK_assoc]
  refine wpK_while (I := fun k A' W' => A'.n = 58 ∧ A'.defers = [] ∧ A'.tmps.get 0 = some (v) ∧ W' = W ∧ ∃ i : Nat, A'.tmps.get 4 = some (.int .i64 (i : Int)) ∧ k = ll.length - i ∧ i ≤ ll.length ∧ ∀ r ∈ ll.take i, within 1000000 r)
    (J := fun A' W' => A'.n = 58 ∧ A'.defers = [] ∧ A'.tmps.get 0 = some (v) ∧ W' = W ∧ ∀ r ∈ ll, within 1000000 r) (Rt := fun A' W' => A'.defers = [] ∧ W' = W ∧ A'.tmps.get 2 = some (.int .i64 1) ∧ ¬ ∀ r ∈ ll, within 1000000 r) (k := ll.length) ?_ ?_ ?_ ?_
  · exact ⟨rfl, rfl, by simp [h0], rfl, 0, by simp, rfl, by omega, fun x hx => by simp at hx⟩
  · rintro k ⟨tm, n, ds⟩ W2 ⟨hn, hd, h0, e2, i, h4, hk, hi, hw⟩ Q' hJ hRt hI
    simp only at hn hd h0
    subst hn; subst hd
    subst W2
    simp only at h4
    by_cases hlt : i < ll.length
    case neg =>
      have e : i = ll.length := by omega
      subst e
      rw [List.take_length] at hw
      try simp only [wpK_assoc]
      refine wpK_reg (fun R hR => by simp [h0, h4, lv]; exact hR) ?_
      try simp only [wpK_assoc]
      first | refine wpK_onF (by simp []) ?_ | refine wpK_out (by simp []) ?_ | refine wpK_condF (by simp []) ?_ | refine wpK_endF (by simp []) (wpK_skip ?_) | refine wpK_endF (by simp []) ?_
      exact hJ _ _ ⟨rfl, rfl, by simp [h0], rfl, hw⟩
    have hlt' : (i : Int) < ll.length := by omega
    try simp only [wpK_assoc]
    refine wpK_reg (fun R hR => by simp [h0, h4, lv, hlt']; exact hR) ?_
    try simp only [wpK_assoc]
    first | refine wpK_onT (by simp []) ?_ | refine wpK_outT (by simp []) ?_ | refine wpK_condT (by simp []) ?_ | refine wpK_endT (by simp []) ?_
    have hx : ll[i]? = some ll[i] := List.getElem?_eq_getElem hlt
    generalize ll[i] = r at hx
    obtain ⟨u, b, p, g1, g2, g3, _⟩ := mat_at h hx
    have hrl := hsq r (List.mem_of_getElem? hx)
    refine wpK_block ?_
    try simp only [wpK_assoc]
    refine wpK_reg (fun R hR => by simp []; exact hR) ?_
    try simp only [wpK_assoc]
    refine wpK_while1 (I := fun k A' W' => A'.n = 58 ∧ A'.defers = [] ∧ A'.tmps.get 0 = some (v) ∧ A'.tmps.get 4 = some (.int .i64 (i : Int)) ∧ W' = W ∧ ∃ j : Nat, A'.tmps.get 5 = some (.int .i64 (j : Int)) ∧ k = ll.length - j ∧ j ≤ ll.length ∧ within 1000000 (r.take j))
      (J := fun A' W' => A'.n = 58 ∧ A'.defers = [] ∧ A'.tmps.get 0 = some (v) ∧ A'.tmps.get 4 = some (.int .i64 (i : Int)) ∧ W' = W ∧ within 1000000 r) (Rt := fun A' W' => A'.defers = [] ∧ W' = W ∧ A'.tmps.get 2 = some (.int .i64 1) ∧ ¬ ∀ r ∈ ll, within 1000000 r) (k := ll.length) ?_ ?_ ?_ ?_
    · exact ⟨rfl, rfl, by simp [h0, h4], by simp [h0, h4], rfl, 0, by simp, rfl, by omega, fun x hx => by simp at hx⟩
    · rintro k2 ⟨tm, n, ds⟩ W2 ⟨hn, hd, h0, h4, e2, j, h5, hk2, hj, hwj⟩ Q3 hJ3 hRt3 hI3
      simp only at hn hd h0 h4
      subst hn; subst hd
      subst W2
      simp only at h5
      by_cases hlj : j < ll.length
      case neg =>
        have e : j = r.length := by omega
        subst e
        rw [List.take_length] at hwj
        have hnl : ¬ (r.length : Int) < ll.length := by omega
        try simp only [wpK_assoc]
        refine wpK_reg (fun R hR => by simp [h0, h5, lv, hnl]; exact hR) ?_
        try simp only [wpK_assoc]
        first | refine wpK_onF (by simp []) ?_ | refine wpK_out (by simp []) ?_ | refine wpK_condF (by simp []) ?_ | refine wpK_endF (by simp []) (wpK_skip ?_) | refine wpK_endF (by simp []) ?_
        exact hJ3 _ _ ⟨rfl, rfl, by simp [h0, h4], by simp [h0, h4], rfl, hwj⟩
      have hlj' : (j : Int) < ll.length := by omega
      try simp only [wpK_assoc]
      refine wpK_reg (fun R hR => by simp [h0, h5, lv, hlj']; exact hR) ?_
      try simp only [wpK_assoc]
      first | refine wpK_onT (by simp []) ?_ | refine wpK_outT (by simp []) ?_ | refine wpK_condT (by simp []) ?_ | refine wpK_endT (by simp []) ?_
      have hy : r[j]? = some r[j] := List.getElem?_eq_getElem (by omega)
      generalize r[j]'(by omega) = x at hy
      obtain ⟨b2, p2, m1, m2, _⟩ := int_at g3 hy
      refine wpK_block ?_
      by_cases b1 : x < -1000000
      · try simp only [wpK_assoc]
        refine wpK_reg (fun R hR => by simp [h0, h4, h5, g1, g2, m1, m2, b1]; exact hR) ?_
        try simp only [wpK_assoc]
        first | refine wpK_onT (by simp []) ?_ | refine wpK_outT (by simp []) ?_ | refine wpK_condT (by simp []) ?_ | refine wpK_endT (by simp []) ?_
        try simp only [wpK_assoc]
        refine wpK_reg (fun R hR => by simp []; exact hR) ?_
        exact wpK_ret (hRt3 _ _ ⟨rfl, rfl, by simp, fun hw2 => by have := hw2 r (List.mem_of_getElem? hx) x (List.mem_of_getElem? hy); omega⟩)
      by_cases b2 : 1000000 < x
      · try simp only [wpK_assoc]
        refine wpK_reg (fun R hR => by simp [h0, h4, h5, g1, g2, m1, m2, b1, b2]; exact hR) ?_
        try simp only [wpK_assoc]
        first | refine wpK_onT (by simp []) ?_ | refine wpK_outT (by simp []) ?_ | refine wpK_condT (by simp []) ?_ | refine wpK_endT (by simp []) ?_
        try simp only [wpK_assoc]
        refine wpK_reg (fun R hR => by simp []; exact hR) ?_
        exact wpK_ret (hRt3 _ _ ⟨rfl, rfl, by simp, fun hw2 => by have := hw2 r (List.mem_of_getElem? hx) x (List.mem_of_getElem? hy); omega⟩)
      try simp only [wpK_assoc]
      refine wpK_reg (fun R hR => by simp [h0, h4, h5, g1, g2, m1, m2, b1, b2]; exact hR) ?_
      try simp only [wpK_assoc]
      first | refine wpK_onF (by simp []) ?_ | refine wpK_out (by simp []) ?_ | refine wpK_condF (by simp []) ?_ | refine wpK_endF (by simp []) (wpK_skip ?_) | refine wpK_endF (by simp []) ?_
      simp only [leaves_normal, behind_normal]
      try simp only [wpK_assoc]
      refine wpK_reg1 (fun R hR => by simp [h5]; exact hR) ?_
      refine hI3 (ll.length - (j + 1)) _ _ (by omega) ⟨rfl, rfl, by simp [h0, h4], by simp [h0, h4], rfl, j + 1, by simp [i64_succ j (by omega)], rfl, by omega, fun y hy2 => ?_⟩
      rcases take_memA hy hy2 with rfl | hy2
      · omega
      · exact hwj y hy2
    · rintro A' W' hA
      exact hRt _ _ hA
    · rintro ⟨tm, n, ds⟩ W2 ⟨hn, hd, h0, h4, e2, hwr⟩
      simp only at hn hd h0 h4
      subst hn; subst hd
      subst W2
      simp only [leaves_normal, behind_normal]
      try simp only [wpK_assoc]
      refine wpK_reg1 (fun R hR => by simp [h4]; exact hR) ?_
      refine hI (ll.length - (i + 1)) _ _ (by omega) ⟨rfl, rfl, by simp [h0], rfl, i + 1, by simp [i64_succ i (by omega)], rfl, by omega, fun y hy => ?_⟩
      rcases take_memA hx hy with rfl | hy
      · exact hwr
      · exact hw y hy
  · rintro A' W' ⟨g1, rfl, g2, g3⟩
    exact ⟨.inr rfl, g1, [.int .i64 1], by simp [g2], rfl, by rw [offE, if_neg (by omega), if_pos hsq, if_neg g3]; rfl⟩
  · rintro ⟨tm, n, ds⟩ W2 ⟨hn, hd, h0, e2, hw⟩
    simp only at hn hd h0
    subst hn; subst hd
    subst W2
    try simp only [wpK_assoc]
    refine wpK_reg (fun R hR => by simp []; exact hR) ?_
    exact wpK_ret ⟨.inr rfl, rfl, [.int .i64 0], by simp, rfl, by rw [offE_ok ⟨by omega, by omega, hsq, hw⟩]; rfl⟩

end Go.Proofs.YtdpnplanohgecaaDoor

open Go Go.Eng
namespace Go.Proofs.YtdpnplanohgecaaDoor
attribute [local congr] undef_congr WpK.congr WpS.congr WpL.congr WpC.congr WpF.congr gotS.congr callS.congr nextS.congr wantS.congr condS.congr
attribute [local irreducible] WpK
attribute [local simp] WpDr_nil WpDr_cons atS_some dwantS_true dwantS_false kindS_light kindS_float kindS_heavy lightS_value floatS_some heavyS_value heavyS_skip heavyS_enter dcallS_some doneS_eq
  isLight isFloat isPlain dLook testBit_dec dChain dLights_nil dLights_skip dLights_one dLight_nil dLight_cons dFreshes_nil dFreshes_one oneF_none oneF_some dFresh_nil dFresh_cons oneL_some oneW_true oneW_false sameV_value dPut dMay valEq arrEq listEq List.getElem?_cons Tr.get_nil dEnd
attribute [local simp] WpS_nil WpS_cons isDefer undef_false wantS_true wantS_false nextS_value nextS_skip nextS_enter callS_some gotS_some aWanted aOp aEvalF aEval opMove opAssign opPick aVal flat flat1 AAct.put opBinOp opConvert opIndex Tr.get_set Tr.get_lay aBin aResults tupled
  aCall aVals aCallB blt_dec ble_dec beq_dec aBinI_add aBinI_sub aBinI_lss aBinI_leq aBinI_gtr aBinI_geq aBinI_eql aBinI_neq index_str len_str len_slice Nat.beq_refl Nat.beq_refl
  opBox opLoad opFieldAddr opIndexAddr acells aAddr opExtract aExtract opUnOp opAlloc opStore opMakeInterface opNilCheck opBuild aParts opBuildSlice aValW
attribute [local simp] und2 und3 und4 und5 und9 und12 field13_0 field13_1 und21 und22 field23_0 field23_1 field24_0 field24_1 field25_0 field25_1 und28 und31 field34_0 field34_1 field34_2 field35_0 field35_1 field35_2 und46 field50_0 field50_1 field50_2 und55 und56 und58 und61 und62 und73 und75 und90 und94 und95 und96 field97_0 field97_1 field97_2 field97_3 field97_4 field97_5 field97_6 field98_0 field98_1 field98_2 field98_3 field98_4 field98_5 field98_6 und99 und106 field107_0 field107_1 field108_0 field108_1 und119 und122 field124_0 field124_1 field124_2 field125_0 field125_1 field125_2 field131_0 field131_1 field132_0 field132_1 und133 field134_0 field134_1 field135_0 field135_1 und148 und156 und160
set_option maxHeartbeats 4000000
set_option linter.unusedSimpArgs false
set_option linter.unusedVariables false
/-! ### prices -/
def gI (l : List Int) (i : Nat) : Int := l.getD i 0
def mAt (ll : List (List Int)) (i j : Nat) : Int := gI (ll.getD i []) j
theorem gI_some {l : List Int} {i : Nat} (h : i < l.length) : l[i]? = some (gI l i) := by
  rw [gI, List.getD_eq_getElem?_getD, List.getElem?_eq_getElem h]; rfl
theorem row_some {ll : List (List Int)} {i : Nat} (h : i < ll.length) : ll[i]? = some (ll.getD i []) := by
  rw [List.getD_eq_getElem?_getD, List.getElem?_eq_getElem h]; rfl
theorem within_gI {m : Int} {l : List Int} (h : within m l) {i : Nat} (hi : i < l.length) : -m ≤ gI l i ∧ gI l i ≤ m := h _ (List.mem_of_getElem? (gI_some hi))
theorem within_of {m : Int} {l : List Int} (h : ∀ i, i < l.length → -m ≤ gI l i ∧ gI l i ≤ m) : within m l := fun x hx => by
  obtain ⟨i, hi, rfl⟩ := List.getElem_of_mem hx
  have := h i hi
  have e := gI_some hi
  rw [List.getElem?_eq_getElem hi] at e
  rw [Option.some.inj e]; exact this
def ArePr (ll : List (List Int)) (u v : List Int) (w : Int) : Prop := OffOk ll ∧ u.length = ll.length ∧ v.length = ll.length ∧ within 1000000000000000 u ∧ within 1000000000000000 v ∧
  (∀ i j, i < ll.length → j < ll.length → mAt ll i j ≤ gI u i + gI v j) ∧ sumN ll.length (fun i => gI u i + gI v i) = w
theorem i64_in {x : Int} (h : -9223372036854775808 ≤ x ∧ x < 9223372036854775808) : IntKind.i64.wrap x = x := IntWalk.i64_in _ (by omega)
theorem sum_bound {u v : List Int} {n : Nat} (hu : within 1000000000000000 u) (hv : within 1000000000000000 v) (h1 : n ≤ u.length) (h2 : n ≤ v.length) : ∀ k, k ≤ n → -(2000000000000000 * k : Int) ≤ sumN k (fun i => gI u i + gI v i) ∧ sumN k (fun i => gI u i + gI v i) ≤ 2000000000000000 * k
  | 0, _ => by simp [sumN]
  | k + 1, hk => by
    have := sum_bound hu hv h1 h2 k (by omega)
    have a := within_gI hu (i := k) (by omega)
    have b := within_gI hv (i := k) (by omega)
    simp only [sumN]; omega
open Classical in
theorem arePrices_wp {W : AW} {v uv vv : Value} {ll : List (List Int)} {ul vl : List Int} (h : MatIn W v ll) (hU : IntR W uv ul) (hV : IntR W vv vl) (w : Int) (hl : ll.length < 9223372036854775808) (hr : ∀ r ∈ ll, r.length < 9223372036854775808) (hul : ul.length < 9223372036854775808) (hvl : vl.length < 9223372036854775808) :
    WpF T0 38 [v, uv, vv, .int .i64 w] W (fun u W' => W' = W ∧ u = .bool (decide (ArePr ll ul vl w))) := by
  obtain ⟨A, c, hv⟩ := mat_len h
  obtain ⟨A1, c1, hu1⟩ := hU.len
  obtain ⟨A2, c2, hv1⟩ := hV.len
  have lv : ∀ W', aLen T0 W' 61 v = some (.int .i64 ll.length) := fun W' => by rw [hv]; exact len_slice und61 _ _ _
  have lu : ∀ W', aLen T0 W' 62 uv = some (.int .i64 ul.length) := fun W' => by rw [hu1]; exact len_slice und62 _ _ _
  have lw : ∀ W', aLen T0 W' 62 vv = some (.int .i64 vl.length) := fun W' => by rw [hv1]; exact len_slice und62 _ _ _
  refine wpF fun38 rfl ?_
  try simp only [wpK_assoc]
  refine wpK_reg (fun R hR => by simp []; exact hR) ?_
  by_cases h0 : offE ll = 0
  case neg =>
    try simp only [wpK_assoc]
    refine wpK_reg (fun R hR => by
        simp [aEnter, fun66, short_other, aCallV]; rw [callS_none]
        refine (checkOffer_wp h hl hr).mono ?_
        rintro _ W9 ⟨e9, rfl⟩; subst W9
        simp [h0]; exact hR) ?_
    try simp only [wpK_assoc]
    first | refine wpK_onT (by simp []) ?_ | refine wpK_outT (by simp []) ?_ | refine wpK_condT (by simp []) ?_ | refine wpK_endT (by simp []) ?_
    try simp only [wpK_assoc]
    refine wpK_reg (fun R hR => by simp []; exact hR) ?_
    exact wpK_ret ⟨.inr rfl, rfl, [.bool false], by simp, rfl, by rw [decide_eq_false (fun hA => h0 (offE_ok hA.1))]; rfl⟩
  have hok := offE_0 h0
  by_cases h1 : ul.length = ll.length
  case neg =>
    have h1' : ¬ (ul.length : Int) = ll.length := by omega
    try simp only [wpK_assoc]
    refine wpK_reg (fun R hR => by
        simp [aEnter, fun66, short_other, aCallV]; rw [callS_none]
        refine (checkOffer_wp h hl hr).mono ?_
        rintro _ W9 ⟨e9, rfl⟩; subst W9
        simp [h0, lu, lv, h1', h1]; exact hR) ?_
    try simp only [wpK_assoc]
    first | refine wpK_onT (by simp []) ?_ | refine wpK_outT (by simp []) ?_ | refine wpK_condT (by simp []) ?_ | refine wpK_endT (by simp []) ?_
    try simp only [wpK_assoc]
    refine wpK_reg (fun R hR => by simp []; exact hR) ?_
    exact wpK_ret ⟨.inr rfl, rfl, [.bool false], by simp, rfl, by rw [decide_eq_false (fun hA => h1 hA.2.1)]; rfl⟩
  by_cases h2 : vl.length = ll.length
  case neg =>
    have h2' : ¬ (vl.length : Int) = ll.length := by omega
    try simp only [wpK_assoc]
    refine wpK_reg (fun R hR => by
        simp [aEnter, fun66, short_other, aCallV]; rw [callS_none]
        refine (checkOffer_wp h hl hr).mono ?_
        rintro _ W9 ⟨e9, rfl⟩; subst W9
        simp [h0, lu, lv, lw, h1, h2', h2]; exact hR) ?_
    try simp only [wpK_assoc]
    first | refine wpK_onT (by simp []) ?_ | refine wpK_outT (by simp []) ?_ | refine wpK_condT (by simp []) ?_ | refine wpK_endT (by simp []) ?_
    try simp only [wpK_assoc]
    refine wpK_reg (fun R hR => by simp []; exact hR) ?_
    exact wpK_ret ⟨.inr rfl, rfl, [.bool false], by simp, rfl, by rw [decide_eq_false (fun hA => h2 hA.2.2.1)]; rfl⟩
  try simp only [wpK_assoc]
  refine wpK_reg (fun R hR => by
      simp [aEnter, fun66, short_other, aCallV]; rw [callS_none]
      refine (checkOffer_wp h hl hr).mono ?_
      rintro _ W9 ⟨e9, rfl⟩; subst W9
      simp [h0, lu, lv, lw, h1, h2]; exact hR) ?_
  try simp only [wpK_assoc]
  first | refine wpK_onF (by simp []) ?_ | refine wpK_out (by simp []) ?_ | refine wpK_condF (by simp []) ?_ | refine wpK_endF (by simp []) (wpK_skip ?_) | refine wpK_endF (by simp []) ?_
  have hn12 := hok.2.1
  by_cases h3 : within 1000000000000000 ul
  case neg =>
    try simp only [wpK_assoc]
    refine wpK_reg (fun R hR => by
        simp [aEnter, fun69, short_other, aCallV]; rw [callS_none]
        refine (areWithin_wp hU 1000000000000000 (by omega) hul).mono ?_
        rintro _ W9 ⟨e9, rfl⟩; subst W9
        simp [h3]; exact hR) ?_
    try simp only [wpK_assoc]
    first | refine wpK_onT (by simp []) ?_ | refine wpK_outT (by simp []) ?_ | refine wpK_condT (by simp []) ?_ | refine wpK_endT (by simp []) ?_
    try simp only [wpK_assoc]
    refine wpK_reg (fun R hR => by simp []; exact hR) ?_
    exact wpK_ret ⟨.inr rfl, rfl, [.bool false], by simp, rfl, by rw [decide_eq_false (fun hA => h3 hA.2.2.2.1)]; rfl⟩
  by_cases h4 : within 1000000000000000 vl
  case neg =>
    try simp only [wpK_assoc]
    refine wpK_reg (fun R hR => by
      simp [aEnter, fun69, short_other, aCallV]; rw [callS_none]
      refine (areWithin_wp hU 1000000000000000 (by omega) hul).mono ?_
      rintro _ W9 ⟨e9, rfl⟩; subst W9
      simp [h3, aEnter, fun69, short_other, aCallV]; rw [callS_none]
      refine (areWithin_wp hV 1000000000000000 (by omega) hvl).mono ?_
      rintro _ W9 ⟨e9, rfl⟩; subst W9
      simp [h4]; exact hR) ?_
    try simp only [wpK_assoc]
    first | refine wpK_onT (by simp []) ?_ | refine wpK_outT (by simp []) ?_ | refine wpK_condT (by simp []) ?_ | refine wpK_endT (by simp []) ?_
    try simp only [wpK_assoc]
    refine wpK_reg (fun R hR => by simp []; exact hR) ?_
    exact wpK_ret ⟨.inr rfl, rfl, [.bool false], by simp, rfl, by rw [decide_eq_false (fun hA => h4 hA.2.2.2.2.1)]; rfl⟩
  try simp only [wpK_assoc]
  refine wpK_reg (fun R hR => by
    simp [aEnter, fun69, short_other, aCallV]; rw [callS_none]
    refine (areWithin_wp hU 1000000000000000 (by omega) hul).mono ?_
    rintro _ W9 ⟨e9, rfl⟩; subst W9
    simp [h3, aEnter, fun69, short_other, aCallV]; rw [callS_none]
    refine (areWithin_wp hV 1000000000000000 (by omega) hvl).mono ?_
    rintro _ W9 ⟨e9, rfl⟩; subst W9
    simp [h4]; exact hR) ?_
  try simp only [wpK_assoc]
  first | refine wpK_onF (by simp []) ?_ | refine wpK_out (by simp []) ?_ | refine wpK_condF (by simp []) ?_ | refine wpK_endF (by simp []) (wpK_skip ?_) | refine wpK_endF (by simp []) ?_
  try simp only [wpK_assoc]
  refine wpK_reg (fun R hR => by simp []; exact hR) ?_
  try simp only [wpK_assoc]
  refine wpK_reg (fun R hR => by simp [lv]; exact hR) ?_
  obtain ⟨n, hn⟩ : ∃ n, n = ll.length := ⟨_, rfl⟩
  have hsb := sum_bound (n := n) h3 h4 (by omega) (by omega)
  try simp only [wpK_assoc]
  refine wpK_while (I := fun k A' W' => A'.n = 80 ∧ A'.defers = [] ∧ A'.tmps.get 1 = some (uv) ∧ A'.tmps.get 2 = some (vv) ∧ A'.tmps.get 3 = some (.int .i64 w) ∧ A'.tmps.get 39 = some (v) ∧ A'.tmps.get 40 = some (.int .i64 (n : Int)) ∧ W' = W ∧ ∃ i : Nat, A'.tmps.get 41 = some (.int .i64 (i : Int)) ∧ A'.tmps.get 9 = some (.int .i64 (sumN i (fun i => gI ul i + gI vl i))) ∧ k = n - i ∧ i ≤ n ∧ ∀ i' j, i' < i → j < n → mAt ll i' j ≤ gI ul i' + gI vl j)
    (J := fun A' W' => A'.n = 80 ∧ A'.defers = [] ∧ A'.tmps.get 1 = some (uv) ∧ A'.tmps.get 2 = some (vv) ∧ A'.tmps.get 3 = some (.int .i64 w) ∧ A'.tmps.get 39 = some (v) ∧ A'.tmps.get 40 = some (.int .i64 (n : Int)) ∧ W' = W ∧ A'.tmps.get 9 = some (.int .i64 (sumN n (fun i => gI ul i + gI vl i))) ∧ ∀ i' j, i' < n → j < n → mAt ll i' j ≤ gI ul i' + gI vl j)
    (Rt := fun A' W' => A'.defers = [] ∧ W' = W ∧ A'.tmps.get 8 = some (.bool false) ∧ ¬ ArePr ll ul vl w) (k := n) ?_ ?_ ?_ ?_
  · exact ⟨rfl, rfl, by simp [hn], by simp [hn], by simp [hn], by simp [hn], by simp [hn], rfl, 0, by simp, by simp [sumN], rfl, by omega, fun i' j hi => by omega⟩
  · rintro k ⟨tm, n, ds⟩ W2 ⟨hn, hd, h1, h2, h3, h39, h40, e2, i, h41, h9, hk, hi, hw⟩ Q' hJ hRt hI
    simp only at hn hd h1 h2 h3 h39 h40
    subst hn; subst hd
    subst W2
    simp only at h41 h9
    by_cases hlt : i < n
    case neg =>
      have e : i = n := by omega
      subst e
      try simp only [wpK_assoc]
      refine wpK_reg (fun R hR => by simp [h40, h41]; exact hR) ?_
      try simp only [wpK_assoc]
      first | refine wpK_onF (by simp []) ?_ | refine wpK_out (by simp []) ?_ | refine wpK_condF (by simp []) ?_ | refine wpK_endF (by simp []) (wpK_skip ?_) | refine wpK_endF (by simp []) ?_
      exact hJ _ _ ⟨rfl, rfl, by simp [h1, h2, h3, h39, h40], by simp [h1, h2, h3, h39, h40], by simp [h1, h2, h3, h39, h40], by simp [h1, h2, h3, h39, h40], by simp [h1, h2, h3, h39, h40], rfl, by simp [h9], hw⟩
    have hlt' : (i : Int) < n := by omega
    try simp only [wpK_assoc]
    refine wpK_reg (fun R hR => by simp [h40, h41, hlt']; exact hR) ?_
    try simp only [wpK_assoc]
    first | refine wpK_onT (by simp []) ?_ | refine wpK_outT (by simp []) ?_ | refine wpK_condT (by simp []) ?_ | refine wpK_endT (by simp []) ?_
    have hx := row_some (ll := ll) (i := i) (by omega)
    obtain ⟨rv, b, p, g1, g2, g3, _⟩ := mat_at h hx
    have hrl := hok.2.2.1 _ (List.mem_of_getElem? hx)
    obtain ⟨A3, c3, hrv⟩ := g3.len
    have lr : ∀ W', aLen T0 W' 62 rv = some (.int .i64 (n : Int)) := fun W' => by rw [hrv, hrl, ← hn]; exact len_slice und62 _ _ _
    obtain ⟨bu, pu, u1, u2, _⟩ := int_at hU (gI_some (l := ul) (i := i) (by omega))
    obtain ⟨bv, pv, v1, v2, _⟩ := int_at hV (gI_some (l := vl) (i := i) (by omega))
    have wu := within_gI (m := 1000000000000000) (l := ul) (by assumption) (i := i) (by omega)
    have wv := within_gI (m := 1000000000000000) (l := vl) (by assumption) (i := i) (by omega)
    have s1 := hsb i (by omega)
    have a1 : IntKind.i64.wrap (gI ul i + gI vl i) = gI ul i + gI vl i := i64_in (by omega)
    have a2 : IntKind.i64.wrap (sumN i (fun i => gI ul i + gI vl i) + (gI ul i + gI vl i)) = sumN (i + 1) (fun i => gI ul i + gI vl i) := by
      rw [i64_in (by omega)]; rfl
    have hrow : ∀ j, j < n → mAt ll i j = gI (ll.getD i []) j := fun j _ => rfl
    generalize ll.getD i [] = r at hx g3 hrl hrow
    generalize hgu : gI ul i = ui at u2 wu a1 a2
    generalize hgv : gI vl i = vi at v2 wv a1 a2
    generalize hs2 : sumN (i + 1) (fun i => gI ul i + gI vl i) = s2 at a2
    generalize sumN i (fun i => gI ul i + gI vl i) = s0 at h9 a2
    refine wpK_block ?_
    try simp only [wpK_assoc]
    refine wpK_reg (fun R hR => by simp [h39, h41, g1, g2]; exact hR) ?_
    try simp only [wpK_assoc]
    refine wpK_dn (wr := Tr.nil |>.set 46 0 |>.set 47 1 |>.set 48 2 |>.set 49 3 |>.set 50 4 |>.set 51 5 |>.set 52 6 |>.set 53 7 |>.set 54 8 |>.set 55 9 |>.set 56 10 |>.set 9 11) (bits := Tr.nil.lay 0 [0, 0, 0, 6, 14, 0, 0, 96, 224, 510, 1023, 2047]) (ord := [0, 1, 2, 3, 4, 5, 6, 7, 8, 9, 10, 11]) (by kernel_rfl) (by kernel_rfl) (by kernel_rfl) (fun G hG => by
      simp [h9, h1, h2, u1, u2, v1, v2, a1, a2]
      exact hG) ?_
    try simp only [wpK_assoc]
    refine wpK_reg (fun R hR => by simp [lr]; exact hR) ?_
    try simp only [wpK_assoc]
    refine wpK_while1 (I := fun k A' W' => A'.n = 80 ∧ A'.defers = [] ∧ A'.tmps.get 1 = some (uv) ∧ A'.tmps.get 2 = some (vv) ∧ A'.tmps.get 3 = some (.int .i64 w) ∧ A'.tmps.get 9 = some (.int .i64 s2) ∧ A'.tmps.get 10 = some (.int .i64 (i : Int)) ∧ A'.tmps.get 39 = some (v) ∧ A'.tmps.get 40 = some (.int .i64 (n : Int)) ∧ A'.tmps.get 41 = some (.int .i64 (i : Int)) ∧ A'.tmps.get 57 = some (rv) ∧ A'.tmps.get 58 = some (.int .i64 (n : Int)) ∧ W' = W ∧ ∃ j : Nat, A'.tmps.get 59 = some (.int .i64 (j : Int)) ∧ k = n - j ∧ j ≤ n ∧ ∀ j', j' < j → mAt ll i j' ≤ gI ul i + gI vl j')
      (J := fun A' W' => A'.n = 80 ∧ A'.defers = [] ∧ A'.tmps.get 1 = some (uv) ∧ A'.tmps.get 2 = some (vv) ∧ A'.tmps.get 3 = some (.int .i64 w) ∧ A'.tmps.get 9 = some (.int .i64 s2) ∧ A'.tmps.get 10 = some (.int .i64 (i : Int)) ∧ A'.tmps.get 39 = some (v) ∧ A'.tmps.get 40 = some (.int .i64 (n : Int)) ∧ A'.tmps.get 41 = some (.int .i64 (i : Int)) ∧ A'.tmps.get 57 = some (rv) ∧ A'.tmps.get 58 = some (.int .i64 (n : Int)) ∧ W' = W ∧ ∀ j', j' < n → mAt ll i j' ≤ gI ul i + gI vl j') (Rt := fun A' W' => A'.defers = [] ∧ W' = W ∧ A'.tmps.get 8 = some (.bool false) ∧ ¬ ArePr ll ul vl w) (k := n) ?_ ?_ ?_ ?_
    · exact ⟨rfl, rfl, by simp [h1, h2, h3, h39, h40, h41], by simp [h1, h2, h3, h39, h40, h41], by simp [h1, h2, h3, h39, h40, h41], by simp [h1, h2, h3, h39, h40, h41], by simp [h1, h2, h3, h39, h40, h41], by simp [h1, h2, h3, h39, h40, h41], by simp [h1, h2, h3, h39, h40, h41], by simp [h1, h2, h3, h39, h40, h41], by simp [h1, h2, h3, h39, h40, h41], by simp [h1, h2, h3, h39, h40, h41], rfl, 0, by simp, rfl, by omega, fun i' hi => by omega⟩
    · rintro k2 ⟨tm, n, ds⟩ W2 ⟨hn, hd, h1, h2, h3, h9, h10, h39, h40, h41, h57, h58, e2, j, h59, hk2, hj, hwj⟩ Q3 hJ3 hRt3 hI3
      simp only at hn hd h1 h2 h3 h9 h10 h39 h40 h41 h57 h58
      subst hn; subst hd
      subst W2
      simp only at h59
      by_cases hlj : j < n
      case neg =>
        have e : j = n := by omega
        subst e
        try simp only [wpK_assoc]
        refine wpK_reg (fun R hR => by simp [h58, h59]; exact hR) ?_
        try simp only [wpK_assoc]
        first | refine wpK_onF (by simp []) ?_ | refine wpK_out (by simp []) ?_ | refine wpK_condF (by simp []) ?_ | refine wpK_endF (by simp []) (wpK_skip ?_) | refine wpK_endF (by simp []) ?_
        exact hJ3 _ _ ⟨rfl, rfl, by simp [h1, h2, h3, h9, h10, h39, h40, h41, h57, h58], by simp [h1, h2, h3, h9, h10, h39, h40, h41, h57, h58], by simp [h1, h2, h3, h9, h10, h39, h40, h41, h57, h58], by simp [h1, h2, h3, h9, h10, h39, h40, h41, h57, h58], by simp [h1, h2, h3, h9, h10, h39, h40, h41, h57, h58], by simp [h1, h2, h3, h9, h10, h39, h40, h41, h57, h58], by simp [h1, h2, h3, h9, h10, h39, h40, h41, h57, h58], by simp [h1, h2, h3, h9, h10, h39, h40, h41, h57, h58], by simp [h1, h2, h3, h9, h10, h39, h40, h41, h57, h58], by simp [h1, h2, h3, h9, h10, h39, h40, h41, h57, h58], rfl, hwj⟩
      have hlj' : (j : Int) < n := by omega
      try simp only [wpK_assoc]
      refine wpK_reg (fun R hR => by simp [h58, h59, hlj']; exact hR) ?_
      try simp only [wpK_assoc]
      first | refine wpK_onT (by simp []) ?_ | refine wpK_outT (by simp []) ?_ | refine wpK_condT (by simp []) ?_ | refine wpK_endT (by simp []) ?_
      obtain ⟨bx, px, x1, x2, _⟩ := int_at g3 (gI_some (l := r) (i := j) (by omega))
      obtain ⟨bw, pw, w1, w2, _⟩ := int_at hV (gI_some (l := vl) (i := j) (by omega))
      have wv2 := within_gI (m := 1000000000000000) (l := vl) (by assumption) (i := j) (by omega)
      have a3 : IntKind.i64.wrap (ui + gI vl j) = ui + gI vl j := i64_in (by omega)
      have hmij : mAt ll i j = gI r j := hrow j hlj
      generalize hgw : gI vl j = wj at w2 wv2 a3
      generalize gI r j = xij at x2 hmij
      refine wpK_block ?_
      try simp only [wpK_assoc]
      refine wpK_reg (fun R hR => by simp [h57, h59, x1, x2]; exact hR) ?_
      by_cases hb : ui + wj < xij
      · try simp only [wpK_assoc]
        refine wpK_dn (wr := Tr.nil |>.set 64 0 |>.set 65 1 |>.set 66 2 |>.set 67 3 |>.set 68 4 |>.set 69 5 |>.set 70 6 |>.set 71 7 |>.set 72 8 |>.set 73 9 |>.set 74 10) (bits := Tr.nil.lay 0 [0, 0, 3, 7, 0, 0, 48, 112, 255, 0, 1023]) (ord := [0, 1, 2, 3, 4, 5, 6, 7, 8, 9, 10]) (by kernel_rfl) (by kernel_rfl) (by kernel_rfl) (fun G hG => by
          simp [h1, h2, h10, u1, u2, w1, w2, a3, hb]
          exact hG) ?_
        try simp only [wpK_assoc]
        first | refine wpK_onT (by simp []) ?_ | refine wpK_outT (by simp []) ?_ | refine wpK_condT (by simp []) ?_ | refine wpK_endT (by simp []) ?_
        try simp only [wpK_assoc]
        refine wpK_reg (fun R hR => by simp []; exact hR) ?_
        exact wpK_ret (hRt3 _ _ ⟨rfl, rfl, by simp, fun hA => by have := hA.2.2.2.2.2.1 i j (by omega) (by omega); omega⟩)
      · try simp only [wpK_assoc]
        refine wpK_dn (wr := Tr.nil |>.set 64 0 |>.set 65 1 |>.set 66 2 |>.set 67 3 |>.set 68 4 |>.set 69 5 |>.set 70 6 |>.set 71 7 |>.set 72 8 |>.set 73 9 |>.set 74 10) (bits := Tr.nil.lay 0 [0, 0, 3, 7, 0, 0, 48, 112, 255, 0, 1023]) (ord := [0, 1, 2, 3, 4, 5, 6, 7, 8, 9, 10]) (by kernel_rfl) (by kernel_rfl) (by kernel_rfl) (fun G hG => by
          simp [h1, h2, h10, u1, u2, w1, w2, a3, hb]
          exact hG) ?_
        try simp only [wpK_assoc]
        first | refine wpK_onF (by simp []) ?_ | refine wpK_out (by simp []) ?_ | refine wpK_condF (by simp []) ?_ | refine wpK_endF (by simp []) (wpK_skip ?_) | refine wpK_endF (by simp []) ?_
        simp only [leaves_normal, behind_normal]
        try simp only [wpK_assoc]
        refine wpK_reg1 (fun R hR => by simp [h59]; exact hR) ?_
        refine hI3 (n - (j + 1)) _ _ (by omega) ⟨rfl, rfl, by simp [h1, h2, h3, h9, h10, h39, h40, h41, h57, h58], by simp [h1, h2, h3, h9, h10, h39, h40, h41, h57, h58], by simp [h1, h2, h3, h9, h10, h39, h40, h41, h57, h58], by simp [h1, h2, h3, h9, h10, h39, h40, h41, h57, h58], by simp [h1, h2, h3, h9, h10, h39, h40, h41, h57, h58], by simp [h1, h2, h3, h9, h10, h39, h40, h41, h57, h58], by simp [h1, h2, h3, h9, h10, h39, h40, h41, h57, h58], by simp [h1, h2, h3, h9, h10, h39, h40, h41, h57, h58], by simp [h1, h2, h3, h9, h10, h39, h40, h41, h57, h58], by simp [h1, h2, h3, h9, h10, h39, h40, h41, h57, h58], rfl, j + 1, by simp [i64_succ j (by omega)], rfl, by omega, fun j' hj' => ?_⟩
        by_cases e : j' = j
        · subst e; omega
        · exact hwj j' (by omega)
    · rintro A' W' hA
      exact hRt _ _ hA
    · rintro ⟨tm, n, ds⟩ W2 ⟨hn, hd, h1, h2, h3, h9, h10, h39, h40, h41, h57, h58, e2, hwr⟩
      simp only at hn hd h1 h2 h3 h9 h10 h39 h40 h41 h57 h58
      subst hn; subst hd
      subst W2
      simp only [leaves_normal, behind_normal]
      try simp only [wpK_assoc]
      refine wpK_reg1 (fun R hR => by simp [h41]; exact hR) ?_
      refine hI (n - (i + 1)) _ _ (by omega) ⟨rfl, rfl, by simp [h1, h2, h3, h39, h40], by simp [h1, h2, h3, h39, h40], by simp [h1, h2, h3, h39, h40], by simp [h1, h2, h3, h39, h40], by simp [h1, h2, h3, h39, h40], rfl, i + 1, by simp [i64_succ i (by omega)], by rw [hs2]; simp [h9], rfl, by omega, fun i' j hi' hj' => ?_⟩
      by_cases e : i' = i
      · subst e; exact hwr j hj'
      · exact hw i' j (by omega) hj'
  · rintro A' W' ⟨g1, rfl, g2, g3⟩
    exact ⟨.inr rfl, g1, [.bool false], by simp [g2], rfl, by rw [decide_eq_false g3]; rfl⟩
  · rintro ⟨tm, n, ds⟩ W2 ⟨hn, hd, h1, h2, h3, h39, h40, e2, h9, hw⟩
    simp only at hn hd h1 h2 h3 h39 h40
    subst hn; subst hd
    subst W2
    simp only at h9
    try simp only [wpK_assoc]
    refine wpK_reg (fun R hR => by simp [h9, h3]; exact hR) ?_
    have hA : ArePr ll ul vl w ↔ sumN n (fun i => gI ul i + gI vl i) = w := by
      subst hn
      exact ⟨fun hA => hA.2.2.2.2.2.2, fun hs => ⟨hok, by assumption, by assumption, by assumption, by assumption, hw, hs⟩⟩
    have hd : decide (sumN n (fun i => gI ul i + gI vl i) = w) = decide (ArePr ll ul vl w) := by simp only [hA]
    exact wpK_ret ⟨.inr rfl, rfl, [.bool (decide (ArePr ll ul vl w))], by simp [← hd], rfl, rfl⟩

end Go.Proofs.YtdpnplanohgecaaDoor

open Go Go.Eng
namespace Go.Proofs.YtdpnplanohgecaaDoor
attribute [local congr] undef_congr WpK.congr WpS.congr WpL.congr WpC.congr WpF.congr gotS.congr callS.congr nextS.congr wantS.congr condS.congr
attribute [local irreducible] WpK
attribute [local simp] WpDr_nil WpDr_cons atS_some dwantS_true dwantS_false kindS_light kindS_float kindS_heavy lightS_value floatS_some heavyS_value heavyS_skip heavyS_enter dcallS_some doneS_eq
  isLight isFloat isPlain dLook testBit_dec dChain dLights_nil dLights_skip dLights_one dLight_nil dLight_cons dFreshes_nil dFreshes_one oneF_none oneF_some dFresh_nil dFresh_cons oneL_some oneW_true oneW_false sameV_value dPut dMay valEq arrEq listEq List.getElem?_cons Tr.get_nil dEnd
attribute [local simp] WpS_nil WpS_cons isDefer undef_false wantS_true wantS_false nextS_value nextS_skip nextS_enter callS_some gotS_some aWanted aOp aEvalF aEval opMove opAssign opPick aVal flat flat1 AAct.put opBinOp opConvert opIndex Tr.get_set Tr.get_lay aBin aResults tupled
  aCall aVals aCallB blt_dec ble_dec beq_dec aBinI_add aBinI_sub aBinI_lss aBinI_leq aBinI_gtr aBinI_geq aBinI_eql aBinI_neq index_str len_str len_slice Nat.beq_refl Nat.beq_refl
  opBox opLoad opFieldAddr opIndexAddr acells aAddr opExtract aExtract opUnOp opAlloc opStore opMakeInterface opNilCheck opBuild aParts opBuildSlice aValW
attribute [local simp] und2 und3 und4 und5 und9 und12 field13_0 field13_1 und21 und22 field23_0 field23_1 field24_0 field24_1 field25_0 field25_1 und28 und31 field34_0 field34_1 field34_2 field35_0 field35_1 field35_2 und46 field50_0 field50_1 field50_2 und55 und56 und58 und61 und62 und73 und75 und90 und94 und95 und96 field97_0 field97_1 field97_2 field97_3 field97_4 field97_5 field97_6 field98_0 field98_1 field98_2 field98_3 field98_4 field98_5 field98_6 und99 und106 field107_0 field107_1 field108_0 field108_1 und119 und122 field124_0 field124_1 field124_2 field125_0 field125_1 field125_2 field131_0 field131_1 field132_0 field132_1 und133 field134_0 field134_1 field135_0 field135_1 und148 und156 und160
set_option maxHeartbeats 4000000
set_option linter.unusedSimpArgs false
set_option linter.unusedVariables false
/-! ### the reference's prices -/
open Classical in
theorem refPrices_wp {W : AW} {v uv vv : Value} {ll : List (List Int)} {ul vl : List Int} (h : MatIn W v ll) (hU : IntR W uv ul) (hV : IntR W vv vl) (w : Int) (hl : ll.length < 9223372036854775808) :
    WpF T0 40 [v, uv, vv, .int .i64 w] W (fun u W' => W' = W ∧ u = .bool (decide (ArePr ll ul vl w))) := by
  obtain ⟨A, c, hv⟩ := mat_len h
  obtain ⟨A1, c1, hu1⟩ := hU.len
  obtain ⟨A2, c2, hv1⟩ := hV.len
  have lv : ∀ W', aLen T0 W' 61 v = some (.int .i64 ll.length) := fun W' => by rw [hv]; exact len_slice und61 _ _ _
  have lu : ∀ W', aLen T0 W' 62 uv = some (.int .i64 ul.length) := fun W' => by rw [hu1]; exact len_slice und62 _ _ _
  have lw : ∀ W', aLen T0 W' 62 vv = some (.int .i64 vl.length) := fun W' => by rw [hv1]; exact len_slice und62 _ _ _
  refine wpF fun40 rfl ?_
  try simp only [wpK_assoc]
  refine wpK_reg (fun R hR => by simp []; exact hR) ?_
  by_cases h0 : offE ll = 0
  case neg =>
    try simp only [wpK_assoc]
    refine wpK_reg (fun R hR => by
        simp [aEnter, fun37, short_other, aCallV]; rw [callS_none]
        refine (refOffer_wp h hl).mono ?_
        rintro _ W9 ⟨e9, rfl⟩; subst W9
        simp [h0]; exact hR) ?_
    try simp only [wpK_assoc]
    first | refine wpK_onT (by simp []) ?_ | refine wpK_outT (by simp []) ?_ | refine wpK_condT (by simp []) ?_ | refine wpK_endT (by simp []) ?_
    try simp only [wpK_assoc]
    refine wpK_reg (fun R hR => by simp []; exact hR) ?_
    exact wpK_ret ⟨.inr rfl, rfl, [.bool false], by simp, rfl, by rw [decide_eq_false (fun hA => h0 (offE_ok hA.1))]; rfl⟩
  have hok := offE_0 h0
  by_cases h1 : ul.length = ll.length
  case neg =>
    have h1' : ¬ (ul.length : Int) = ll.length := by omega
    try simp only [wpK_assoc]
    refine wpK_reg (fun R hR => by
        simp [aEnter, fun37, short_other, aCallV]; rw [callS_none]
        refine (refOffer_wp h hl).mono ?_
        rintro _ W9 ⟨e9, rfl⟩; subst W9
        simp [h0, lu, lv, h1', h1]; exact hR) ?_
    try simp only [wpK_assoc]
    first | refine wpK_onT (by simp []) ?_ | refine wpK_outT (by simp []) ?_ | refine wpK_condT (by simp []) ?_ | refine wpK_endT (by simp []) ?_
    try simp only [wpK_assoc]
    refine wpK_reg (fun R hR => by simp []; exact hR) ?_
    exact wpK_ret ⟨.inr rfl, rfl, [.bool false], by simp, rfl, by rw [decide_eq_false (fun hA => h1 hA.2.1)]; rfl⟩
  by_cases h2 : vl.length = ll.length
  case neg =>
    have h2' : ¬ (vl.length : Int) = ll.length := by omega
    try simp only [wpK_assoc]
    refine wpK_reg (fun R hR => by
        simp [aEnter, fun37, short_other, aCallV]; rw [callS_none]
        refine (refOffer_wp h hl).mono ?_
        rintro _ W9 ⟨e9, rfl⟩; subst W9
        simp [h0, lu, lv, lw, h1, h2', h2]; exact hR) ?_
    try simp only [wpK_assoc]
    first | refine wpK_onT (by simp []) ?_ | refine wpK_outT (by simp []) ?_ | refine wpK_condT (by simp []) ?_ | refine wpK_endT (by simp []) ?_
    try simp only [wpK_assoc]
    refine wpK_reg (fun R hR => by simp []; exact hR) ?_
    exact wpK_ret ⟨.inr rfl, rfl, [.bool false], by simp, rfl, by rw [decide_eq_false (fun hA => h2 hA.2.2.1)]; rfl⟩
  try simp only [wpK_assoc]
  refine wpK_reg (fun R hR => by
      simp [aEnter, fun37, short_other, aCallV]; rw [callS_none]
      refine (refOffer_wp h hl).mono ?_
      rintro _ W9 ⟨e9, rfl⟩; subst W9
      simp [h0, lu, lv, lw, h1, h2]; exact hR) ?_
  try simp only [wpK_assoc]
  first | refine wpK_onF (by simp []) ?_ | refine wpK_out (by simp []) ?_ | refine wpK_condF (by simp []) ?_ | refine wpK_endF (by simp []) (wpK_skip ?_) | refine wpK_endF (by simp []) ?_
  have hn12 := hok.2.1
  try simp only [wpK_assoc]
  refine wpK_reg (fun R hR => by simp []; exact hR) ?_
  obtain ⟨n, hn⟩ : ∃ n, n = ll.length := ⟨_, rfl⟩
  rw [← hn] at lv
  try simp only [wpK_assoc]
  refine wpK_while (I := fun k A' W' => A'.n = 105 ∧ A'.defers = [] ∧ A'.tmps.get 0 = some (v) ∧ A'.tmps.get 1 = some (uv) ∧ A'.tmps.get 2 = some (vv) ∧ A'.tmps.get 3 = some (.int .i64 w) ∧ W' = W ∧ ∃ i : Nat, A'.tmps.get 9 = some (.int .i64 (i : Int)) ∧ k = n - i ∧ i ≤ n ∧ ∀ q, q < i → (-1000000000000000 ≤ gI ul q ∧ gI ul q ≤ 1000000000000000) ∧ (-1000000000000000 ≤ gI vl q ∧ gI vl q ≤ 1000000000000000))
    (J := fun A' W' => A'.n = 105 ∧ A'.defers = [] ∧ A'.tmps.get 0 = some (v) ∧ A'.tmps.get 1 = some (uv) ∧ A'.tmps.get 2 = some (vv) ∧ A'.tmps.get 3 = some (.int .i64 w) ∧ W' = W ∧ within 1000000000000000 ul ∧ within 1000000000000000 vl)
    (Rt := fun A' W' => A'.defers = [] ∧ W' = W ∧ A'.tmps.get 8 = some (.bool false) ∧ ¬ ArePr ll ul vl w) (k := n) ?_ ?_ ?_ ?_
  · exact ⟨rfl, rfl, by simp, by simp, by simp, by simp, rfl, 0, by simp, rfl, by omega, fun q hq => by omega⟩
  · rintro k ⟨tm, n, ds⟩ W2 ⟨hn, hd, h0, h1, h2, h3, e2, i, h9, hk, hi, hw⟩ Q' hJ hRt hI
    simp only at hn hd h0 h1 h2 h3
    subst hn; subst hd
    subst W2
    simp only at h9
    by_cases hlt : i < n
    case neg =>
      have e : i = n := by omega
      subst e
      try simp only [wpK_assoc]
      refine wpK_reg (fun R hR => by simp [h0, h9, lv]; exact hR) ?_
      try simp only [wpK_assoc]
      first | refine wpK_onF (by simp []) ?_ | refine wpK_out (by simp []) ?_ | refine wpK_condF (by simp []) ?_ | refine wpK_endF (by simp []) (wpK_skip ?_) | refine wpK_endF (by simp []) ?_
      exact hJ _ _ ⟨rfl, rfl, by simp [h0, h1, h2, h3], by simp [h0, h1, h2, h3], by simp [h0, h1, h2, h3], by simp [h0, h1, h2, h3], rfl, within_of (fun q hq => (hw q (by omega)).1), within_of (fun q hq => (hw q (by omega)).2)⟩
    have hlt' : (i : Int) < n := by omega
    try simp only [wpK_assoc]
    refine wpK_reg (fun R hR => by simp [h0, h9, lv, hlt']; exact hR) ?_
    try simp only [wpK_assoc]
    first | refine wpK_onT (by simp []) ?_ | refine wpK_outT (by simp []) ?_ | refine wpK_condT (by simp []) ?_ | refine wpK_endT (by simp []) ?_
    obtain ⟨bu, pu, u1, u2, _⟩ := int_at hU (gI_some (l := ul) (i := i) (by omega))
    obtain ⟨bv, pv, v1, v2, _⟩ := int_at hV (gI_some (l := vl) (i := i) (by omega))
    have nU : ¬ (-1000000000000000 ≤ gI ul i ∧ gI ul i ≤ 1000000000000000) → ¬ ArePr ll ul vl w := fun hn2 hA => hn2 (within_gI hA.2.2.2.1 (by omega))
    have nV : ¬ (-1000000000000000 ≤ gI vl i ∧ gI vl i ≤ 1000000000000000) → ¬ ArePr ll ul vl w := fun hn2 hA => hn2 (within_gI hA.2.2.2.2.1 (by omega))
    have hnx : (-1000000000000000 ≤ gI ul i ∧ gI ul i ≤ 1000000000000000) ∧ (-1000000000000000 ≤ gI vl i ∧ gI vl i ≤ 1000000000000000) → ∀ q, q < i + 1 → (-1000000000000000 ≤ gI ul q ∧ gI ul q ≤ 1000000000000000) ∧ (-1000000000000000 ≤ gI vl q ∧ gI vl q ≤ 1000000000000000) := fun hh q hq => by
      by_cases e : q = i
      · subst e; exact hh
      · exact hw q (by omega)
    generalize gI ul i = x at u2 nU hnx
    generalize gI vl i = y at v2 nV hnx
    refine wpK_block ?_
    by_cases b1 : x < -1000000000000000
    · try simp only [wpK_assoc]
      refine wpK_reg (fun R hR => by simp [h1, h2, h9, u1, u2, v1, v2, b1]; exact hR) ?_
      try simp only [wpK_assoc]
      first | refine wpK_onT (by simp []) ?_ | refine wpK_outT (by simp []) ?_ | refine wpK_condT (by simp []) ?_ | refine wpK_endT (by simp []) ?_
      try simp only [wpK_assoc]
      refine wpK_reg (fun R hR => by simp []; exact hR) ?_
      exact wpK_ret (hRt _ _ ⟨rfl, rfl, by simp, nU (by omega)⟩)
    by_cases b2 : 1000000000000000 < x
    · try simp only [wpK_assoc]
      refine wpK_reg (fun R hR => by simp [h1, h2, h9, u1, u2, v1, v2, b1, b2]; exact hR) ?_
      try simp only [wpK_assoc]
      first | refine wpK_onT (by simp []) ?_ | refine wpK_outT (by simp []) ?_ | refine wpK_condT (by simp []) ?_ | refine wpK_endT (by simp []) ?_
      try simp only [wpK_assoc]
      refine wpK_reg (fun R hR => by simp []; exact hR) ?_
      exact wpK_ret (hRt _ _ ⟨rfl, rfl, by simp, nU (by omega)⟩)
    by_cases b3 : y < -1000000000000000
    · try simp only [wpK_assoc]
      refine wpK_reg (fun R hR => by simp [h1, h2, h9, u1, u2, v1, v2, b1, b2, b3]; exact hR) ?_
      try simp only [wpK_assoc]
      first | refine wpK_onT (by simp []) ?_ | refine wpK_outT (by simp []) ?_ | refine wpK_condT (by simp []) ?_ | refine wpK_endT (by simp []) ?_
      try simp only [wpK_assoc]
      refine wpK_reg (fun R hR => by simp []; exact hR) ?_
      exact wpK_ret (hRt _ _ ⟨rfl, rfl, by simp, nV (by omega)⟩)
    by_cases b4 : 1000000000000000 < y
    · try simp only [wpK_assoc]
      refine wpK_reg (fun R hR => by simp [h1, h2, h9, u1, u2, v1, v2, b1, b2, b3, b4]; exact hR) ?_
      try simp only [wpK_assoc]
      first | refine wpK_onT (by simp []) ?_ | refine wpK_outT (by simp []) ?_ | refine wpK_condT (by simp []) ?_ | refine wpK_endT (by simp []) ?_
      try simp only [wpK_assoc]
      refine wpK_reg (fun R hR => by simp []; exact hR) ?_
      exact wpK_ret (hRt _ _ ⟨rfl, rfl, by simp, nV (by omega)⟩)
    try simp only [wpK_assoc]
    refine wpK_reg (fun R hR => by simp [h1, h2, h9, u1, u2, v1, v2, b1, b2, b3, b4]; exact hR) ?_
    try simp only [wpK_assoc]
    first | refine wpK_onF (by simp []) ?_ | refine wpK_out (by simp []) ?_ | refine wpK_condF (by simp []) ?_ | refine wpK_endF (by simp []) (wpK_skip ?_) | refine wpK_endF (by simp []) ?_
    simp only [leaves_normal, behind_normal]
    try simp only [wpK_assoc]
    refine wpK_reg1 (fun R hR => by simp [h9]; exact hR) ?_
    exact hI (n - (i + 1)) _ _ (by omega) ⟨rfl, rfl, by simp [h0, h1, h2, h3], by simp [h0, h1, h2, h3], by simp [h0, h1, h2, h3], by simp [h0, h1, h2, h3], rfl, i + 1, by simp [i64_succ i (by omega)], rfl, by omega, hnx ⟨⟨by omega, by omega⟩, ⟨by omega, by omega⟩⟩⟩
  · rintro A' W' ⟨g1, rfl, g2, g3⟩
    exact ⟨.inr rfl, g1, [.bool false], by simp [g2], rfl, by rw [decide_eq_false g3]; rfl⟩
  rintro ⟨tm, n, ds⟩ W2 ⟨hn, hd, h0, h1, h2, h3, e2, hwu, hwv⟩
  simp only at hn hd h0 h1 h2 h3
  subst hn; subst hd
  subst W2
  try simp only [wpK_assoc]
  refine wpK_reg (fun R hR => by simp []; exact hR) ?_
  try simp only [wpK_assoc]
  refine wpK_reg (fun R hR => by simp []; exact hR) ?_
  have hsb := sum_bound (n := n) hwu hwv (by omega) (by omega)
  try simp only [wpK_assoc]
  refine wpK_while (I := fun k A' W' => A'.n = 105 ∧ A'.defers = [] ∧ A'.tmps.get 0 = some (v) ∧ A'.tmps.get 1 = some (uv) ∧ A'.tmps.get 2 = some (vv) ∧ A'.tmps.get 3 = some (.int .i64 w) ∧ W' = W ∧ ∃ i : Nat, A'.tmps.get 11 = some (.int .i64 (i : Int)) ∧ A'.tmps.get 10 = some (.int .i64 (sumN i (fun i => gI ul i + gI vl i))) ∧ k = n - i ∧ i ≤ n ∧ ∀ i' j, i' < i → j < n → mAt ll i' j ≤ gI ul i' + gI vl j)
    (J := fun A' W' => A'.n = 105 ∧ A'.defers = [] ∧ A'.tmps.get 0 = some (v) ∧ A'.tmps.get 1 = some (uv) ∧ A'.tmps.get 2 = some (vv) ∧ A'.tmps.get 3 = some (.int .i64 w) ∧ W' = W ∧ A'.tmps.get 10 = some (.int .i64 (sumN n (fun i => gI ul i + gI vl i))) ∧ ∀ i' j, i' < n → j < n → mAt ll i' j ≤ gI ul i' + gI vl j)
    (Rt := fun A' W' => A'.defers = [] ∧ W' = W ∧ A'.tmps.get 8 = some (.bool false) ∧ ¬ ArePr ll ul vl w) (k := n) ?_ ?_ ?_ ?_
  · exact ⟨rfl, rfl, by simp [h0, h1, h2, h3], by simp [h0, h1, h2, h3], by simp [h0, h1, h2, h3], by simp [h0, h1, h2, h3], rfl, 0, by simp, by simp [sumN], rfl, by omega, fun i' j hi => by omega⟩
  · rintro k ⟨tm, n, ds⟩ W2 ⟨hn, hd, h0, h1, h2, h3, e2, i, h11, h10, hk, hi, hw⟩ Q' hJ hRt hI
    simp only at hn hd h0 h1 h2 h3
    subst hn; subst hd
    subst W2
    simp only at h11 h10
    by_cases hlt : i < n
    case neg =>
      have e : i = n := by omega
      subst e
      try simp only [wpK_assoc]
      refine wpK_reg (fun R hR => by simp [h0, h11, lv]; exact hR) ?_
      try simp only [wpK_assoc]
      first | refine wpK_onF (by simp []) ?_ | refine wpK_out (by simp []) ?_ | refine wpK_condF (by simp []) ?_ | refine wpK_endF (by simp []) (wpK_skip ?_) | refine wpK_endF (by simp []) ?_
      exact hJ _ _ ⟨rfl, rfl, by simp [h0, h1, h2, h3], by simp [h0, h1, h2, h3], by simp [h0, h1, h2, h3], by simp [h0, h1, h2, h3], rfl, by simp [h10], hw⟩
    have hlt' : (i : Int) < n := by omega
    try simp only [wpK_assoc]
    refine wpK_reg (fun R hR => by simp [h0, h11, lv, hlt']; exact hR) ?_
    try simp only [wpK_assoc]
    first | refine wpK_onT (by simp []) ?_ | refine wpK_outT (by simp []) ?_ | refine wpK_condT (by simp []) ?_ | refine wpK_endT (by simp []) ?_
    have hx := row_some (ll := ll) (i := i) (by omega)
    obtain ⟨rv, b, p, g1, g2, g3, _⟩ := mat_at h hx
    have hrl := hok.2.2.1 _ (List.mem_of_getElem? hx)
    obtain ⟨bu, pu, u1, u2, _⟩ := int_at hU (gI_some (l := ul) (i := i) (by omega))
    obtain ⟨bv, pv, v1, v2, _⟩ := int_at hV (gI_some (l := vl) (i := i) (by omega))
    have wu := within_gI hwu (i := i) (by omega)
    have wv := within_gI hwv (i := i) (by omega)
    have s1 := hsb i (by omega)
    have a1 : IntKind.i64.wrap (sumN i (fun i => gI ul i + gI vl i) + gI ul i) = sumN i (fun i => gI ul i + gI vl i) + gI ul i := i64_in (by omega)
    have a2 : IntKind.i64.wrap (sumN i (fun i => gI ul i + gI vl i) + gI ul i + gI vl i) = sumN (i + 1) (fun i => gI ul i + gI vl i) := by
      rw [i64_in (by omega)]; simp only [sumN]; omega
    have hrow : ∀ j, j < n → mAt ll i j = gI (ll.getD i []) j := fun j _ => rfl
    generalize ll.getD i [] = r at hx g3 hrl hrow
    generalize hgu : gI ul i = ui at u2 wu a1 a2
    generalize hgv : gI vl i = vi at v2 wv a2
    generalize hs2 : sumN (i + 1) (fun i => gI ul i + gI vl i) = s2 at a2
    generalize sumN i (fun i => gI ul i + gI vl i) = s0 at h10 a1 a2
    refine wpK_block ?_
    try simp only [wpK_assoc]
    refine wpK_dn (wr := Tr.nil |>.set 68 0 |>.set 69 1 |>.set 70 2 |>.set 71 3 |>.set 72 4 |>.set 73 5 |>.set 74 6 |>.set 75 7 |>.set 76 8 |>.set 77 9 |>.set 78 10 |>.set 10 11) (bits := Tr.nil.lay 0 [0, 0, 0, 6, 14, 31, 0, 0, 192, 448, 1023, 2047]) (ord := [0, 1, 2, 3, 4, 5, 6, 7, 8, 9, 10, 11]) (by kernel_rfl) (by kernel_rfl) (by kernel_rfl) (fun G hG => by
      simp [h10, h1, h2, h11, u1, u2, v1, v2, a1, a2]
      exact hG) ?_
    try simp only [wpK_assoc]
    refine wpK_reg (fun R hR => by simp []; exact hR) ?_
    try simp only [wpK_assoc]
    refine wpK_while1 (I := fun k A' W' => A'.n = 105 ∧ A'.defers = [] ∧ A'.tmps.get 0 = some (v) ∧ A'.tmps.get 1 = some (uv) ∧ A'.tmps.get 2 = some (vv) ∧ A'.tmps.get 3 = some (.int .i64 w) ∧ A'.tmps.get 10 = some (.int .i64 s2) ∧ A'.tmps.get 11 = some (.int .i64 (i : Int)) ∧ W' = W ∧ ∃ j : Nat, A'.tmps.get 12 = some (.int .i64 (j : Int)) ∧ k = n - j ∧ j ≤ n ∧ ∀ j', j' < j → mAt ll i j' ≤ gI ul i + gI vl j')
      (J := fun A' W' => A'.n = 105 ∧ A'.defers = [] ∧ A'.tmps.get 0 = some (v) ∧ A'.tmps.get 1 = some (uv) ∧ A'.tmps.get 2 = some (vv) ∧ A'.tmps.get 3 = some (.int .i64 w) ∧ A'.tmps.get 10 = some (.int .i64 s2) ∧ A'.tmps.get 11 = some (.int .i64 (i : Int)) ∧ W' = W ∧ ∀ j', j' < n → mAt ll i j' ≤ gI ul i + gI vl j') (Rt := fun A' W' => A'.defers = [] ∧ W' = W ∧ A'.tmps.get 8 = some (.bool false) ∧ ¬ ArePr ll ul vl w) (k := n) ?_ ?_ ?_ ?_
    · exact ⟨rfl, rfl, by simp [h0, h1, h2, h3, h11], by simp [h0, h1, h2, h3, h11], by simp [h0, h1, h2, h3, h11], by simp [h0, h1, h2, h3, h11], by simp [h0, h1, h2, h3, h11], by simp [h0, h1, h2, h3, h11], rfl, 0, by simp, rfl, by omega, fun i' hi => by omega⟩
    · rintro k2 ⟨tm, n, ds⟩ W2 ⟨hn, hd, h0, h1, h2, h3, h10, h11, e2, j, h12, hk2, hj, hwj⟩ Q3 hJ3 hRt3 hI3
      simp only at hn hd h0 h1 h2 h3 h10 h11
      subst hn; subst hd
      subst W2
      simp only at h12
      by_cases hlj : j < n
      case neg =>
        have e : j = n := by omega
        subst e
        try simp only [wpK_assoc]
        refine wpK_reg (fun R hR => by simp [h0, h12, lv]; exact hR) ?_
        try simp only [wpK_assoc]
        first | refine wpK_onF (by simp []) ?_ | refine wpK_out (by simp []) ?_ | refine wpK_condF (by simp []) ?_ | refine wpK_endF (by simp []) (wpK_skip ?_) | refine wpK_endF (by simp []) ?_
        exact hJ3 _ _ ⟨rfl, rfl, by simp [h0, h1, h2, h3, h10, h11], by simp [h0, h1, h2, h3, h10, h11], by simp [h0, h1, h2, h3, h10, h11], by simp [h0, h1, h2, h3, h10, h11], by simp [h0, h1, h2, h3, h10, h11], by simp [h0, h1, h2, h3, h10, h11], rfl, hwj⟩
      have hlj' : (j : Int) < n := by omega
      try simp only [wpK_assoc]
      refine wpK_reg (fun R hR => by simp [h0, h12, lv, hlj']; exact hR) ?_
      try simp only [wpK_assoc]
      first | refine wpK_onT (by simp []) ?_ | refine wpK_outT (by simp []) ?_ | refine wpK_condT (by simp []) ?_ | refine wpK_endT (by simp []) ?_
      obtain ⟨bx, px, x1, x2, _⟩ := int_at g3 (gI_some (l := r) (i := j) (by omega))
      obtain ⟨bw, pw, w1, w2, _⟩ := int_at hV (gI_some (l := vl) (i := j) (by omega))
      have wv2 := within_gI hwv (i := j) (by omega)
      have a3 : IntKind.i64.wrap (ui + gI vl j) = ui + gI vl j := i64_in (by omega)
      have hmij : mAt ll i j = gI r j := hrow j hlj
      have vv' := row_eq g3
      generalize hgw : gI vl j = wj at w2 wv2 a3
      generalize gI r j = xij at x2 hmij
      refine wpK_block ?_
      by_cases hb : ui + wj < xij
      · try simp only [wpK_assoc]
        refine wpK_dn (wr := Tr.nil |>.set 85 0 |>.set 86 1 |>.set 87 2 |>.set 88 3 |>.set 89 4 |>.set 90 5 |>.set 91 6 |>.set 92 7 |>.set 93 8 |>.set 94 9 |>.set 95 10 |>.set 96 11 |>.set 97 12 |>.set 98 13 |>.set 99 14 |>.set 100 15 |>.set 101 16) (bits := Tr.nil.lay 0 [0, 0, 3, 7, 0, 0, 48, 112, 255, 0, 0, 1536, 3584, 0, 15872, 32256, 65535]) (ord := [0, 1, 2, 3, 4, 5, 6, 7, 8, 9, 10, 11, 12, 13, 14, 15, 16]) (by kernel_rfl) (by kernel_rfl) (by kernel_rfl) (fun G hG => by
          simp [h0, h1, h2, h11, h12, u1, u2, w1, w2, g1, g2, x1, x2, a3, hb, vv']
          exact hG) ?_
        try simp only [wpK_assoc]
        first | refine wpK_onT (by simp []) ?_ | refine wpK_outT (by simp []) ?_ | refine wpK_condT (by simp []) ?_ | refine wpK_endT (by simp []) ?_
        try simp only [wpK_assoc]
        refine wpK_reg (fun R hR => by simp []; exact hR) ?_
        exact wpK_ret (hRt3 _ _ ⟨rfl, rfl, by simp, fun hA => by have := hA.2.2.2.2.2.1 i j (by omega) (by omega); omega⟩)
      · try simp only [wpK_assoc]
        refine wpK_dn (wr := Tr.nil |>.set 85 0 |>.set 86 1 |>.set 87 2 |>.set 88 3 |>.set 89 4 |>.set 90 5 |>.set 91 6 |>.set 92 7 |>.set 93 8 |>.set 94 9 |>.set 95 10 |>.set 96 11 |>.set 97 12 |>.set 98 13 |>.set 99 14 |>.set 100 15 |>.set 101 16) (bits := Tr.nil.lay 0 [0, 0, 3, 7, 0, 0, 48, 112, 255, 0, 0, 1536, 3584, 0, 15872, 32256, 65535]) (ord := [0, 1, 2, 3, 4, 5, 6, 7, 8, 9, 10, 11, 12, 13, 14, 15, 16]) (by kernel_rfl) (by kernel_rfl) (by kernel_rfl) (fun G hG => by
          simp [h0, h1, h2, h11, h12, u1, u2, w1, w2, g1, g2, x1, x2, a3, hb, vv']
          exact hG) ?_
        try simp only [wpK_assoc]
        first | refine wpK_onF (by simp []) ?_ | refine wpK_out (by simp []) ?_ | refine wpK_condF (by simp []) ?_ | refine wpK_endF (by simp []) (wpK_skip ?_) | refine wpK_endF (by simp []) ?_
        simp only [leaves_normal, behind_normal]
        try simp only [wpK_assoc]
        refine wpK_reg1 (fun R hR => by simp [h12]; exact hR) ?_
        refine hI3 (n - (j + 1)) _ _ (by omega) ⟨rfl, rfl, by simp [h0, h1, h2, h3, h10, h11], by simp [h0, h1, h2, h3, h10, h11], by simp [h0, h1, h2, h3, h10, h11], by simp [h0, h1, h2, h3, h10, h11], by simp [h0, h1, h2, h3, h10, h11], by simp [h0, h1, h2, h3, h10, h11], rfl, j + 1, by simp [i64_succ j (by omega)], rfl, by omega, fun j' hj' => ?_⟩
        by_cases e : j' = j
        · subst e; omega
        · exact hwj j' (by omega)
    · rintro A' W' hA
      exact hRt _ _ hA
    · rintro ⟨tm, n, ds⟩ W2 ⟨hn, hd, h0, h1, h2, h3, h10, h11, e2, hwr⟩
      simp only at hn hd h0 h1 h2 h3 h10 h11
      subst hn; subst hd
      subst W2
      simp only [leaves_normal, behind_normal]
      try simp only [wpK_assoc]
      refine wpK_reg1 (fun R hR => by simp [h11]; exact hR) ?_
      refine hI (n - (i + 1)) _ _ (by omega) ⟨rfl, rfl, by simp [h0, h1, h2, h3], by simp [h0, h1, h2, h3], by simp [h0, h1, h2, h3], by simp [h0, h1, h2, h3], rfl, i + 1, by simp [i64_succ i (by omega)], by rw [hs2]; simp [h10], rfl, by omega, fun i' j hi' hj' => ?_⟩
      by_cases e : i' = i
      · subst e; exact hwr j hj'
      · exact hw i' j (by omega) hj'
  · rintro A' W' ⟨g1, rfl, g2, g3⟩
    exact ⟨.inr rfl, g1, [.bool false], by simp [g2], rfl, by rw [decide_eq_false g3]; rfl⟩
  · rintro ⟨tm, n, ds⟩ W2 ⟨hn, hd, h0, h1, h2, h3, e2, h10, hw⟩
    simp only at hn hd h0 h1 h2 h3
    subst hn; subst hd
    subst W2
    simp only at h10
    try simp only [wpK_assoc]
    refine wpK_reg (fun R hR => by simp [h10, h3]; exact hR) ?_
    have hA : ArePr ll ul vl w ↔ sumN n (fun i => gI ul i + gI vl i) = w := by
      subst hn
      exact ⟨fun hA => hA.2.2.2.2.2.2, fun hs => ⟨hok, by assumption, by assumption, hwu, hwv, hw, hs⟩⟩
    have hd : decide (sumN n (fun i => gI ul i + gI vl i) = w) = decide (ArePr ll ul vl w) := by simp only [hA]
    exact wpK_ret ⟨.inr rfl, rfl, [.bool (decide (ArePr ll ul vl w))], by simp [← hd], rfl, rfl⟩

end Go.Proofs.YtdpnplanohgecaaDoor

open Go Go.Eng
namespace Go.Proofs.YtdpnplanohgecaaDoor
attribute [local congr] undef_congr WpK.congr WpS.congr WpL.congr WpC.congr WpF.congr gotS.congr callS.congr nextS.congr wantS.congr condS.congr
attribute [local irreducible] WpK
attribute [local simp] WpDr_nil WpDr_cons atS_some dwantS_true dwantS_false kindS_light kindS_float kindS_heavy lightS_value floatS_some heavyS_value heavyS_skip heavyS_enter dcallS_some doneS_eq
  isLight isFloat isPlain dLook testBit_dec dChain dLights_nil dLights_skip dLights_one dLight_nil dLight_cons dFreshes_nil dFreshes_one oneF_none oneF_some dFresh_nil dFresh_cons oneL_some oneW_true oneW_false sameV_value dPut dMay valEq arrEq listEq List.getElem?_cons Tr.get_nil dEnd
attribute [local simp] WpS_nil WpS_cons isDefer undef_false wantS_true wantS_false nextS_value nextS_skip nextS_enter callS_some gotS_some aWanted aOp aEvalF aEval opMove opAssign opPick aVal flat flat1 AAct.put opBinOp opConvert opIndex Tr.get_set Tr.get_lay aBin aResults tupled
  aCall aVals aCallB blt_dec ble_dec beq_dec aBinI_add aBinI_sub aBinI_lss aBinI_leq aBinI_gtr aBinI_geq aBinI_eql aBinI_neq index_str len_str len_slice Nat.beq_refl Nat.beq_refl
  opBox opLoad opFieldAddr opIndexAddr acells aAddr opExtract aExtract opUnOp opAlloc opStore opMakeInterface opNilCheck opBuild aParts opBuildSlice aValW
attribute [local simp] und2 und3 und4 und5 und9 und12 field13_0 field13_1 und21 und22 field23_0 field23_1 field24_0 field24_1 field25_0 field25_1 und28 und31 field34_0 field34_1 field34_2 field35_0 field35_1 field35_2 und46 field50_0 field50_1 field50_2 und55 und56 und58 und61 und62 und73 und75 und90 und94 und95 und96 field97_0 field97_1 field97_2 field97_3 field97_4 field97_5 field97_6 field98_0 field98_1 field98_2 field98_3 field98_4 field98_5 field98_6 und99 und106 field107_0 field107_1 field108_0 field108_1 und119 und122 field124_0 field124_1 field124_2 field125_0 field125_1 field125_2 field131_0 field131_1 field132_0 field132_1 und133 field134_0 field134_1 field135_0 field135_1 und148 und156 und160
set_option maxHeartbeats 4000000
set_option linter.unusedSimpArgs false
set_option linter.unusedVariables false
/-! ### how many there are -/
def onesN (x : Nat) : Nat :=
  let a := ((x >>> 1) &&& 6148914691236517205) + (x &&& 6148914691236517205)
  let b := ((a >>> 2) &&& 3689348814741910323) + (a &&& 3689348814741910323)
  let c := ((b >>> 4) + b) &&& 1085102592571150095
  let d := c + (c >>> 8)
  let e := d + (d >>> 16)
  let f := e + (e >>> 32)
  f &&& 127
theorem ones_cnt2 : ∀ a, a < 64 → ∀ b, b < 64 → onesN (a * 64 + b) = cntB 12 (a * 64 + b) := by decide +kernel
theorem ones_cnt (x : Nat) (hx : x < 4096) : onesN x = cntB 12 x := by
  have := ones_cnt2 (x / 64) (by omega) (x % 64) (by omega)
  rwa [show x / 64 * 64 + x % 64 = x from by omega] at this
theorem cntB_more {x : Nat} (hx : x < 4096) : ∀ m : Nat, 12 ≤ m → cntB m x = cntB 12 x := by
  intro m hm
  induction hm with
  | refl => rfl
  | @step m hm ih =>
    show cntB m x + (if x.testBit m then 1 else 0) = cntB 12 x
    rw [ih, Nat.testBit_lt_two_pow (Nat.lt_of_lt_of_le (show x < 2 ^ 12 from hx) (Nat.pow_le_pow_right (by omega) (by omega : 12 ≤ m)))]
    simp
theorem shr_le (x k : Nat) : x >>> k ≤ x := by rw [Nat.shiftRight_eq_div_pow]; exact Nat.div_le_self _ _
section
attribute [local irreducible] aBinI
theorem ones_wp {W : AW} {x : Nat} (hx : x < 4096) : WpF T0 90 [.int .u64 (x : Nat)] W (fun v W' => W' = W ∧ v = .int .i64 (pc x : Nat)) := by
  have hpc : pc x = onesN x := by rw [ones_cnt x hx]; exact cntB_more hx 40 (by omega)
  have A1 : aBinI .shr .u64 (x : Int) .u64 1 = some (.int .u64 ((x >>> 1 : Nat) : Int)) := aBinI_shr .u64 .u64 x 1 (by decide)
  have A2 : aBinI .and .u64 ((x >>> 1 : Nat) : Int) .u64 6148914691236517205 = some (.int .u64 ((x >>> 1 &&& 6148914691236517205 : Nat) : Int)) := aBinI_and .u64 _ 6148914691236517205 (by have := shr_le x 1; show x >>> 1 < 18446744073709551616; omega) (by decide)
  have A3 : aBinI .and .u64 (x : Int) .u64 6148914691236517205 = some (.int .u64 ((x &&& 6148914691236517205 : Nat) : Int)) := aBinI_and .u64 _ 6148914691236517205 (by show x < 18446744073709551616; omega) (by decide)
  have a2 : x >>> 1 &&& 6148914691236517205 ≤ x := Nat.le_trans Nat.and_le_left (shr_le x 1)
  have a3 : x &&& 6148914691236517205 ≤ x := Nat.and_le_left
  simp only [onesN] at hpc
  generalize x >>> 1 = x1 at A1 A2 a2 hpc
  generalize x1 &&& 6148914691236517205 = x2 at A2 a2 hpc
  generalize x &&& 6148914691236517205 = x3 at A3 a3 hpc
  have A4 : IntKind.u64.wrap ((x2 : Int) + (x3 : Int)) = ((x2 + x3 : Nat) : Int) := by rw [← Int.natCast_add]; exact u64_nat (by omega)
  generalize hy : x2 + x3 = y at A4 hpc
  have hyl : y ≤ 8192 := by omega
  have B1 : aBinI .shr .u64 (y : Int) .u64 2 = some (.int .u64 ((y >>> 2 : Nat) : Int)) := aBinI_shr .u64 .u64 y 2 (by decide)
  have B2 : aBinI .and .u64 ((y >>> 2 : Nat) : Int) .u64 3689348814741910323 = some (.int .u64 ((y >>> 2 &&& 3689348814741910323 : Nat) : Int)) := aBinI_and .u64 _ 3689348814741910323 (by have := shr_le y 2; show y >>> 2 < 18446744073709551616; omega) (by decide)
  have B3 : aBinI .and .u64 (y : Int) .u64 3689348814741910323 = some (.int .u64 ((y &&& 3689348814741910323 : Nat) : Int)) := aBinI_and .u64 _ 3689348814741910323 (by show y < 18446744073709551616; omega) (by decide)
  have b2 : y >>> 2 &&& 3689348814741910323 ≤ y := Nat.le_trans Nat.and_le_left (shr_le y 2)
  have b3 : y &&& 3689348814741910323 ≤ y := Nat.and_le_left
  generalize y >>> 2 = y1 at B1 B2 b2 hpc
  generalize y1 &&& 3689348814741910323 = y2 at B2 b2 hpc
  generalize y &&& 3689348814741910323 = y3 at B3 b3 hpc
  have B4 : IntKind.u64.wrap ((y2 : Int) + (y3 : Int)) = ((y2 + y3 : Nat) : Int) := by rw [← Int.natCast_add]; exact u64_nat (by omega)
  generalize hz : y2 + y3 = z at B4 hpc
  have hzl : z ≤ 16384 := by omega
  have C1 : aBinI .shr .u64 (z : Int) .u64 4 = some (.int .u64 ((z >>> 4 : Nat) : Int)) := aBinI_shr .u64 .u64 z 4 (by decide)
  have c1 := shr_le z 4
  have C2 : IntKind.u64.wrap (((z >>> 4 : Nat) : Int) + (z : Int)) = ((z >>> 4 + z : Nat) : Int) := by rw [← Int.natCast_add]; exact u64_nat (by omega)
  have C3 : aBinI .and .u64 ((z >>> 4 + z : Nat) : Int) .u64 1085102592571150095 = some (.int .u64 (((z >>> 4 + z) &&& 1085102592571150095 : Nat) : Int)) := aBinI_and .u64 _ 1085102592571150095 (by show z >>> 4 + z < 18446744073709551616; omega) (by decide)
  have c3 : (z >>> 4 + z) &&& 1085102592571150095 ≤ z >>> 4 + z := Nat.and_le_left
  generalize z >>> 4 = z1 at C1 C2 C3 c1 c3 hpc
  generalize hw : z1 + z = z2 at C2 C3 c3 hpc
  generalize z2 &&& 1085102592571150095 = w at C3 c3 hpc
  have hwl : w ≤ 32768 := by omega
  have D1 : aBinI .shr .u64 (w : Int) .u64 8 = some (.int .u64 ((w >>> 8 : Nat) : Int)) := aBinI_shr .u64 .u64 w 8 (by decide)
  have d1 := shr_le w 8
  have D2 : IntKind.u64.wrap ((w : Int) + ((w >>> 8 : Nat) : Int)) = ((w + w >>> 8 : Nat) : Int) := by rw [← Int.natCast_add]; exact u64_nat (by omega)
  generalize w >>> 8 = w1 at D1 D2 d1 hpc
  generalize hp : w + w1 = p at D2 hpc
  have hpl : p ≤ 65536 := by omega
  have E1 : aBinI .shr .u64 (p : Int) .u64 16 = some (.int .u64 ((p >>> 16 : Nat) : Int)) := aBinI_shr .u64 .u64 p 16 (by decide)
  have e1 := shr_le p 16
  have E2 : IntKind.u64.wrap ((p : Int) + ((p >>> 16 : Nat) : Int)) = ((p + p >>> 16 : Nat) : Int) := by rw [← Int.natCast_add]; exact u64_nat (by omega)
  generalize p >>> 16 = p1 at E1 E2 e1 hpc
  generalize hq : p + p1 = q at E2 hpc
  have hql : q ≤ 131072 := by omega
  have F1 : aBinI .shr .u64 (q : Int) .u64 32 = some (.int .u64 ((q >>> 32 : Nat) : Int)) := aBinI_shr .u64 .u64 q 32 (by decide)
  have f1 := shr_le q 32
  have F2 : IntKind.u64.wrap ((q : Int) + ((q >>> 32 : Nat) : Int)) = ((q + q >>> 32 : Nat) : Int) := by rw [← Int.natCast_add]; exact u64_nat (by omega)
  generalize q >>> 32 = q1 at F1 F2 f1 hpc
  generalize hr : q + q1 = r at F2 hpc
  have hrl : r ≤ 262144 := by omega
  have G1 : IntKind.i64.wrap (r : Int) = (r : Int) := i64_nat r (by omega)
  have G2 : aBinI .and .i64 (r : Int) .i64 127 = some (.int .i64 ((r &&& 127 : Nat) : Int)) := aBinI_and .i64 r 127 (by show r < 9223372036854775808; omega) (by decide)
  generalize r &&& 127 = s at G2 hpc
  refine wpF fun90 rfl ?_
  try simp only [wpK_assoc]
  refine wpK_reg (fun R hR => by simp []; exact hR) ?_
  try simp only [wpK_assoc]
  refine wpK_reg (fun R hR => by simp [A1, A2, A3, A4]; exact hR) ?_
  try simp only [wpK_assoc]
  refine wpK_reg (fun R hR => by simp [B1, B2, B3, B4]; exact hR) ?_
  try simp only [wpK_assoc]
  refine wpK_reg (fun R hR => by simp [C1, C2, C3]; exact hR) ?_
  try simp only [wpK_assoc]
  refine wpK_reg (fun R hR => by simp [D1, D2]; exact hR) ?_
  try simp only [wpK_assoc]
  refine wpK_reg (fun R hR => by simp [E1, E2]; exact hR) ?_
  try simp only [wpK_assoc]
  refine wpK_reg (fun R hR => by simp [F1, F2]; exact hR) ?_
  try simp only [wpK_assoc]
  refine wpK_reg (fun R hR => by simp [conv_95_3, G1, G2]; exact hR) ?_
  exact wpK_ret ⟨.inr rfl, rfl, [.int .i64 (s : Nat)], by simp, rfl, by rw [hpc]; rfl⟩
end
theorem size_wp {W : AW} {x : Nat} (hx : x < 4096) : WpF T0 82 [.int .u64 (x : Nat)] W (fun v W' => W' = W ∧ v = .int .i64 (pc x : Nat)) := by
  refine wpF fun82 rfl ?_
  try simp only [wpK_assoc]
  refine wpK_reg (fun R hR => by simp []; exact hR) ?_
  try simp only [wpK_assoc]
  refine wpK_reg (fun R hR => by
      simp [aEnter, fun90, short_other, aCallV]; rw [callS_none]
      refine (ones_wp hx).mono ?_
      rintro _ W9 ⟨e9, rfl⟩; subst W9
      simp []; exact hR) ?_
  exact wpK_ret ⟨.inr rfl, rfl, [.int .i64 (pc x : Nat)], by simp, rfl, rfl⟩

end Go.Proofs.YtdpnplanohgecaaDoor

open Go Go.Eng
namespace Go.Proofs.YtdpnplanohgecaaDoor
attribute [local congr] undef_congr WpK.congr WpS.congr WpL.congr WpC.congr WpF.congr gotS.congr callS.congr nextS.congr wantS.congr condS.congr
attribute [local irreducible] WpK
attribute [local simp] WpDr_nil WpDr_cons atS_some dwantS_true dwantS_false kindS_light kindS_float kindS_heavy lightS_value floatS_some heavyS_value heavyS_skip heavyS_enter dcallS_some doneS_eq
  isLight isFloat isPlain dLook testBit_dec dChain dLights_nil dLights_skip dLights_one dLight_nil dLight_cons dFreshes_nil dFreshes_one oneF_none oneF_some dFresh_nil dFresh_cons oneL_some oneW_true oneW_false sameV_value dPut dMay valEq arrEq listEq List.getElem?_cons Tr.get_nil dEnd
attribute [local simp] WpS_nil WpS_cons isDefer undef_false wantS_true wantS_false nextS_value nextS_skip nextS_enter callS_some gotS_some aWanted aOp aEvalF aEval opMove opAssign opPick aVal flat flat1 AAct.put opBinOp opConvert opIndex Tr.get_set Tr.get_lay aBin aResults tupled
  aCall aVals aCallB blt_dec ble_dec beq_dec aBinI_add aBinI_sub aBinI_lss aBinI_leq aBinI_gtr aBinI_geq aBinI_eql aBinI_neq index_str len_str len_slice Nat.beq_refl Nat.beq_refl
  opBox opLoad opFieldAddr opIndexAddr acells aAddr opExtract aExtract opUnOp opAlloc opStore opMakeInterface opNilCheck opBuild aParts opBuildSlice aValW
attribute [local simp] und2 und3 und4 und5 und9 und12 field13_0 field13_1 und21 und22 field23_0 field23_1 field24_0 field24_1 field25_0 field25_1 und28 und31 field34_0 field34_1 field34_2 field35_0 field35_1 field35_2 und46 field50_0 field50_1 field50_2 und55 und56 und58 und61 und62 und73 und75 und90 und94 und95 und96 field97_0 field97_1 field97_2 field97_3 field97_4 field97_5 field97_6 field98_0 field98_1 field98_2 field98_3 field98_4 field98_5 field98_6 und99 und106 field107_0 field107_1 field108_0 field108_1 und119 und122 field124_0 field124_1 field124_2 field125_0 field125_1 field125_2 field131_0 field131_1 field132_0 field132_1 und133 field134_0 field134_1 field135_0 field135_1 und148 und156 und160
set_option maxHeartbeats 4000000
set_option linter.unusedSimpArgs false
set_option linter.unusedVariables false
/-! ### the most that is left -/
def vI (l : List Int) : List Value := l.map (Value.int .i64)
theorem vI_len (l : List Int) : (vI l).length = l.length := by simp [vI]
theorem rep_vI : ∀ n : Nat, rep [.int .i64 0] n = vI (List.replicate n 0)
  | 0 => rfl
  | n + 1 => by
    show [.int .i64 0] ++ rep [.int .i64 0] n = _
    rw [rep_vI n, List.replicate_succ]; rfl
theorem mk62 (W : AW) (n : Nat) (hn : n ≤ 100000) : aMakeSlice T0 W 62 (.int .i64 n) (.int .i64 n) = some (.slice (some ⟨W.next, 0, none⟩) n (2 * n), W.newCells 2 (vI (List.replicate n 0))) := by
  show aMakeSlice T0 W 62 (.int .i64 (Int.ofNat n)) (.int .i64 (Int.ofNat n)) = _
  have h1 : n ≤ 4611686018427387904 := by omega
  have h2 : Tryd.t2.bytes * n ≤ 281474976710656 := by rw [by2]; omega
  simp only [aMakeSlice, und62, inf2, z2, h1, h2, is2, ble_dec, acells, List.length_cons, List.length_nil, Nat.beq_refl, Nat.le_refl, decide_true, rep_vI]
theorem flt62 {ρ : Operand → Option Value} {l c : Operand} (n : Nat) (hn : n ≤ 100000) (hl : ρ l = some (.int .i64 (n : Int))) (hc : ρ c = some (.int .i64 (n : Int))) : aFlt T0 ρ (.makeSlice 62 l c) = some ⟨2, vI (List.replicate n 0), false, n, n⟩ := by
  have hl : ρ l = some (.int .i64 (Int.ofNat n)) := hl
  have hc : ρ c = some (.int .i64 (Int.ofNat n)) := hc
  have h1 : n ≤ 4611686018427387904 := by omega
  have h2 : Tryd.t2.bytes * n ≤ 281474976710656 := by rw [by2]; omega
  simp only [aFlt, hl, hc, und62, inf2, z2, h1, h2, is2, ble_dec, acells, List.length_cons, List.length_nil, Nat.beq_refl, Nat.le_refl, decide_true, rep_vI]
theorem vI_eq (l : List Int) : listEq (vI l) (vI l) = true := by
  induction l with
  | nil => rfl
  | cons a l ih => exact listEq_cons (valEq_int _ _) ih
theorem ixB (pb N c i : Nat) (k : IntKind) (hi : i < N) : aIndexAddr T0 62 (.slice (some ⟨pb, 0, none⟩) N c) (.int k (i : Nat)) = some (.pointer (some ⟨pb, i, none⟩)) := by
  have := indexAddr_slice (T := T0) und62 sz2 (b := pb) (o := 0) (c := c) (k := k) hi
  rw [Nat.mul_one, Nat.zero_add] at this; exact this
theorem varI_load {W : AW} {pb : Nat} {l : List Int} (h : Var W pb 2 (vI l)) {i : Nat} (hi : i < l.length) : aLoadVar T0 W 2 pb i = some (.int .i64 (gI l i)) :=
  h.load1 (T := T0) und2 rfl (j := i) (v := .int .i64 (gI l i)) (by rw [vI, List.getElem?_map, gI_some hi]; rfl)
theorem varI_store {W : AW} {pb : Nat} {l : List Int} (h : Var W pb 2 (vI l)) {i : Nat} (hi : i < l.length) (x : Int) : ∃ W', aStoreVar T0 W 2 pb i (.int .i64 x) = some W' ∧ W'.next = W.next ∧ Only (fun b => b = pb) W W' ∧ Var W' pb 2 (vI (l.set i x)) := by
  obtain ⟨W', g1, g2, g3, g4⟩ := var_store1 (t := 2) (v := .int .i64 x) (o := i) h inf2 is2 rfl rfl (by rw [vI_len]; exact hi)
  refine ⟨W', g1, g2, g3, ?_⟩
  rw [vI, ← List.map_set] at g4
  exact g4
theorem gI_set {l : List Int} {i : Nat} (hi : i < l.length) (x : Int) (j : Nat) : gI (l.set i x) j = if j = i then x else gI l j := by
  rw [gI, gI, List.getD_eq_getElem?_getD, List.getD_eq_getElem?_getD, List.getElem?_set]
  by_cases e : i = j
  · subst e; rw [if_pos rfl, if_pos hi, if_pos rfl]; rfl
  · rw [if_neg e, if_neg (fun h => e h.symm)]
/-- what is known of the sets from t on -/
def BestFrom (n : Nat) (c : Nat → Nat → Int) (B : Nat → Int) (t : Nat) : Prop := B (2 ^ n - 1) = 0 ∧ ∀ s, t ≤ s → s < 2 ^ n → (-(1000000 * ((n - pc s : Nat) : Int)) ≤ B s ∧ B s ≤ 1000000 * ((n - pc s : Nat) : Int)) ∧
  (s ≠ 2 ^ n - 1 → (∀ q, q < n → s.testBit q = false → c (pc s) q + B (s ||| 1 <<< q) ≤ B s) ∧ ∃ q, q < n ∧ s.testBit q = false ∧ c (pc s) q + B (s ||| 1 <<< q) = B s)
theorem BestFrom.best {n : Nat} {c : Nat → Nat → Int} {B : Nat → Int} (h : BestFrom n c B 0) (hn : n ≤ 40) : BestN n c B where
  full := h.1
  le := fun t ht q hq hb => (h.2 t (Nat.zero_le _) ht).2 (fun e => by subst e; rw [full_bit, decide_eq_true hq] at hb; cases hb) |>.1 q hq hb
  is := fun t ht hne => ((h.2 t (Nat.zero_le _) ht).2 hne).2
/-- of one set, the first j posts -/
def PartN (n : Nat) (c : Nat → Nat → Int) (B : Nat → Int) (t j : Nat) : Prop := (∀ q, q < j → t.testBit q = false → c (pc t) q + B (t ||| 1 <<< q) ≤ B t) ∧
  ((B t = -9223372036854775808 ∧ ∀ q, q < j → t.testBit q = true) ∨ ∃ q, q < j ∧ t.testBit q = false ∧ c (pc t) q + B (t ||| 1 <<< q) = B t)
theorem pc_or {n t q : Nat} (hn : n ≤ 12) (ht : t < 2 ^ n) (hq : q < n) (hb : t.testBit q = false) : pc (t ||| 1 <<< q) = pc t + 1 ∧ pc t < n := by
  have h1 := cntB_or hb (m := 40)
  rw [if_pos (by omega)] at h1
  exact ⟨h1, cntB_lt (m := 40) ht hq hb (by omega)⟩
theorem BestFrom.step {n : Nat} {c : Nat → Nat → Int} {B : Nat → Int} {t : Nat} (hn : n ≤ 12) (hc : ∀ i j, i < n → j < n → -1000000 ≤ c i j ∧ c i j ≤ 1000000) (ht : t < 2 ^ n - 1) (h : BestFrom n c B (t + 1)) (hp : PartN n c B t n) : BestFrom n c B t := by
  have htl : t < 2 ^ n := by omega
  refine ⟨h.1, fun s h1 h2 => ?_⟩
  by_cases e : s = t
  case neg => exact h.2 s (by omega) h2
  subst e
  have hex : ∃ q, q < n ∧ s.testBit q = false ∧ c (pc s) q + B (s ||| 1 <<< q) = B s := by
    rcases hp.2 with ⟨_, hall⟩ | hx
    · rcases full_or_free htl with e | ⟨k, hk, hb⟩
      · omega
      · rw [hall k hk] at hb; cases hb
    · exact hx
  obtain ⟨q, hq, hb, hv⟩ := hex
  refine ⟨?_, fun _ => ⟨hp.1, q, hq, hb, hv⟩⟩
  obtain ⟨p1, p2⟩ := pc_or hn htl hq hb
  have hx := (h.2 (s ||| 1 <<< q) (by have := or_gt hb; omega) (or_ltp htl hq)).1
  have hcc := hc (pc s) q p2 hq
  rw [p1] at hx
  omega
theorem BestFrom.keep {n : Nat} {c : Nat → Nat → Int} {B B' : Nat → Int} {t : Nat} (h : BestFrom n c B t) (ht : t ≤ 2 ^ n - 1) (he : ∀ s, t ≤ s → B' s = B s) : BestFrom n c B' t := by
  refine ⟨by rw [he _ ht]; exact h.1, fun s h1 h2 => ?_⟩
  rw [he s h1]
  refine ⟨(h.2 s h1 h2).1, fun hne => ?_⟩
  obtain ⟨g1, q, g2, g3, g4⟩ := (h.2 s h1 h2).2 hne
  refine ⟨fun q hq hb => ?_, q, g2, g3, ?_⟩
  · rw [he _ (by have := or_gt hb; omega)]; exact g1 q hq hb
  · rw [he _ (by have := or_gt g3; omega)]; exact g4

end Go.Proofs.YtdpnplanohgecaaDoor

open Go Go.Eng
namespace Go.Proofs.YtdpnplanohgecaaDoor
attribute [local congr] undef_congr WpK.congr WpS.congr WpL.congr WpC.congr WpF.congr gotS.congr callS.congr nextS.congr wantS.congr condS.congr
attribute [local irreducible] WpK
attribute [local simp] WpDr_nil WpDr_cons atS_some dwantS_true dwantS_false kindS_light kindS_float kindS_heavy lightS_value floatS_some heavyS_value heavyS_skip heavyS_enter dcallS_some doneS_eq
  isLight isFloat isPlain dLook testBit_dec dChain dLights_nil dLights_skip dLights_one dLight_nil dLight_cons dFreshes_nil dFreshes_one oneF_none oneF_some dFresh_nil dFresh_cons oneL_some oneW_true oneW_false sameV_value dPut dMay valEq arrEq listEq List.getElem?_cons Tr.get_nil dEnd
attribute [local simp] WpS_nil WpS_cons isDefer undef_false wantS_true wantS_false nextS_value nextS_skip nextS_enter callS_some gotS_some aWanted aOp aEvalF aEval opMove opAssign opPick aVal flat flat1 AAct.put opBinOp opConvert opIndex Tr.get_set Tr.get_lay aBin aResults tupled
  aCall aVals aCallB blt_dec ble_dec beq_dec aBinI_add aBinI_sub aBinI_lss aBinI_leq aBinI_gtr aBinI_geq aBinI_eql aBinI_neq index_str len_str len_slice Nat.beq_refl Nat.beq_refl
  opBox opLoad opFieldAddr opIndexAddr acells aAddr opExtract aExtract opUnOp opAlloc opStore opMakeInterface opNilCheck opBuild aParts opBuildSlice aValW
attribute [local simp] und2 und3 und4 und5 und9 und12 field13_0 field13_1 und21 und22 field23_0 field23_1 field24_0 field24_1 field25_0 field25_1 und28 und31 field34_0 field34_1 field34_2 field35_0 field35_1 field35_2 und46 field50_0 field50_1 field50_2 und55 und56 und58 und61 und62 und73 und75 und90 und94 und95 und96 field97_0 field97_1 field97_2 field97_3 field97_4 field97_5 field97_6 field98_0 field98_1 field98_2 field98_3 field98_4 field98_5 field98_6 und99 und106 field107_0 field107_1 field108_0 field108_1 und119 und122 field124_0 field124_1 field124_2 field125_0 field125_1 field125_2 field131_0 field131_1 field132_0 field132_1 und133 field134_0 field134_1 field135_0 field135_1 und148 und156 und160
set_option maxHeartbeats 4000000
set_option linter.unusedSimpArgs false
set_option linter.unusedVariables false
/-! ### the program's graph -/
/-- who is joined to whom by the edges -/
def JoinL (es : List Edge) (J : List Nat) : Prop := J.length = 40 ∧ ∀ (q x : Nat), J[q]? = some x → x < 1099511627776 ∧ ∀ r : Nat, x.testBit r = true ↔ ∃ i : Nat, es[i]? = some ((q : Int), (r : Int)) ∨ es[i]? = some ((r : Int), (q : Int))
def setV (x : Nat) : Value := .int .u64 (x : Int)
def Web (W : AW) (p : Nat) (P : Int) (es : List Edge) : Prop := ∃ J, JoinL es J ∧ Var W p 108 (.int .i64 P :: J.map setV)
def entsL (es : List Edge) (i : Nat) : List (Value × Value × Nat) := (List.range i).map fun j => (pr (min (es.getD j (0, 0)).1 (es.getD j (0, 0)).2) (max (es.getD j (0, 0)).1 (es.getD j (0, 0)).2), .int .i64 1, j)
end Go.Proofs.YtdpnplanohgecaaDoor

open Go Go.Eng
namespace Go.Proofs.YtdpnplanohgecaaDoor
attribute [local congr] undef_congr WpK.congr WpS.congr WpL.congr WpC.congr WpF.congr gotS.congr callS.congr nextS.congr wantS.congr condS.congr
attribute [local irreducible] WpK
attribute [local simp] WpDr_nil WpDr_cons atS_some dwantS_true dwantS_false kindS_light kindS_float kindS_heavy lightS_value floatS_some heavyS_value heavyS_skip heavyS_enter dcallS_some doneS_eq
  isLight isFloat isPlain dLook testBit_dec dChain dLights_nil dLights_skip dLights_one dLight_nil dLight_cons dFreshes_nil dFreshes_one oneF_none oneF_some dFresh_nil dFresh_cons oneL_some oneW_true oneW_false sameV_value dPut dMay valEq arrEq listEq List.getElem?_cons Tr.get_nil dEnd
attribute [local simp] WpS_nil WpS_cons isDefer undef_false wantS_true wantS_false nextS_value nextS_skip nextS_enter callS_some gotS_some aWanted aOp aEvalF aEval opMove opAssign opPick aVal flat flat1 AAct.put opBinOp opConvert opIndex Tr.get_set Tr.get_lay aBin aResults tupled
  aCall aVals aCallB blt_dec ble_dec beq_dec aBinI_add aBinI_sub aBinI_lss aBinI_leq aBinI_gtr aBinI_geq aBinI_eql aBinI_neq index_str len_str len_slice Nat.beq_refl Nat.beq_refl
  opBox opLoad opFieldAddr opIndexAddr acells aAddr opExtract aExtract opUnOp opAlloc opStore opMakeInterface opNilCheck opBuild aParts opBuildSlice aValW
attribute [local simp] und2 und3 und4 und5 und9 und12 field13_0 field13_1 und21 und22 field23_0 field23_1 field24_0 field24_1 field25_0 field25_1 und28 und31 field34_0 field34_1 field34_2 field35_0 field35_1 field35_2 und46 field50_0 field50_1 field50_2 und55 und56 und58 und61 und62 und73 und75 und90 und94 und95 und96 field97_0 field97_1 field97_2 field97_3 field97_4 field97_5 field97_6 field98_0 field98_1 field98_2 field98_3 field98_4 field98_5 field98_6 und99 und106 field107_0 field107_1 field108_0 field108_1 und119 und122 field124_0 field124_1 field124_2 field125_0 field125_1 field125_2 field131_0 field131_1 field132_0 field132_1 und133 field134_0 field134_1 field135_0 field135_1 und148 und156 und160
set_option maxHeartbeats 4000000
set_option linter.unusedSimpArgs false
set_option linter.unusedVariables false
theorem w1 : IntKind.i64.wrap 1 = 1 := by decide
theorem w2 : IntKind.i64.wrap 2 = 2 := by decide
/-! ### laying a graph -/
theorem max_int (k : IntKind) (a b : Int) : aMinMax true (.int k a) [.int k b] = some (.int k (max a b)) := mm_max k k a b
theorem getD_set_ne {J : List Nat} {a b x : Nat} (h : a ≠ b) : (J.set a x).getD b 0 = J.getD b 0 := by
  rw [List.getD_eq_getElem?_getD, List.getElem?_set, if_neg h, ← List.getD_eq_getElem?_getD]
end Go.Proofs.YtdpnplanohgecaaDoor

open Go Go.Eng
namespace Go.Proofs.YtdpnplanohgecaaDoor
attribute [local congr] undef_congr WpK.congr WpS.congr WpL.congr WpC.congr WpF.congr gotS.congr callS.congr nextS.congr wantS.congr condS.congr
attribute [local irreducible] WpK
attribute [local simp] WpDr_nil WpDr_cons atS_some dwantS_true dwantS_false kindS_light kindS_float kindS_heavy lightS_value floatS_some heavyS_value heavyS_skip heavyS_enter dcallS_some doneS_eq
  isLight isFloat isPlain dLook testBit_dec dChain dLights_nil dLights_skip dLights_one dLight_nil dLight_cons dFreshes_nil dFreshes_one oneF_none oneF_some dFresh_nil dFresh_cons oneL_some oneW_true oneW_false sameV_value dPut dMay valEq arrEq listEq List.getElem?_cons Tr.get_nil dEnd
attribute [local simp] WpS_nil WpS_cons isDefer undef_false wantS_true wantS_false nextS_value nextS_skip nextS_enter callS_some gotS_some aWanted aOp aEvalF aEval opMove opAssign opPick aVal flat flat1 AAct.put opBinOp opConvert opIndex Tr.get_set Tr.get_lay aBin aResults tupled
  aCall aVals aCallB blt_dec ble_dec beq_dec aBinI_add aBinI_sub aBinI_lss aBinI_leq aBinI_gtr aBinI_geq aBinI_eql aBinI_neq index_str len_str len_slice Nat.beq_refl Nat.beq_refl
  opBox opLoad opFieldAddr opIndexAddr acells aAddr opExtract aExtract opUnOp opAlloc opStore opMakeInterface opNilCheck opBuild aParts opBuildSlice aValW
attribute [local simp] und2 und3 und4 und5 und9 und12 field13_0 field13_1 und21 und22 field23_0 field23_1 field24_0 field24_1 field25_0 field25_1 und28 und31 field34_0 field34_1 field34_2 field35_0 field35_1 field35_2 und46 field50_0 field50_1 field50_2 und55 und56 und58 und61 und62 und73 und75 und90 und94 und95 und96 field97_0 field97_1 field97_2 field97_3 field97_4 field97_5 field97_6 field98_0 field98_1 field98_2 field98_3 field98_4 field98_5 field98_6 und99 und106 field107_0 field107_1 field108_0 field108_1 und119 und122 field124_0 field124_1 field124_2 field125_0 field125_1 field125_2 field131_0 field131_1 field132_0 field132_1 und133 field134_0 field134_1 field135_0 field135_1 und148 und156 und160
set_option maxHeartbeats 4000000
set_option linter.unusedSimpArgs false
set_option linter.unusedVariables false
theorem OffOk.bound {ll : List (List Int)} (h : OffOk ll) {i j : Nat} (hi : i < ll.length) (hj : j < ll.length) : -1000000 ≤ mAt ll i j ∧ mAt ll i j ≤ 1000000 := by
  have hx := row_some hi
  have hm := List.mem_of_getElem? hx
  exact within_gI (h.2.2.2 _ hm) (by rw [h.2.2.1 _ hm]; exact hj)
theorem remains_wp {W : AW} {v : Value} {ll : List (List Int)} (h : MatIn W v ll) (hok : OffOk ll) :
    WpF T0 67 [v] W (fun u W' => Ext W W' ∧ ∃ pb Bs, W.next ≤ pb ∧ u = .slice (some ⟨pb, 0, none⟩) (2 ^ ll.length) (2 * 2 ^ ll.length) ∧ Bs.length = 2 ^ ll.length ∧ Var W' pb 2 (vI Bs) ∧ BestFrom ll.length (mAt ll) (gI Bs) 0) := by
  obtain ⟨A, c, hv⟩ := mat_len h
  obtain ⟨n, hn⟩ : ∃ n, n = ll.length := ⟨_, rfl⟩
  have hn12 : n ≤ 12 := by have := hok.2.1; omega
  have hn1 : 1 ≤ n := by have := hok.1; omega
  have lv : ∀ W', aLen T0 W' 61 v = some (.int .i64 (n : Int)) := fun W' => by rw [hv, hn]; exact len_slice und61 _ _ _
  have hc : ∀ i j, i < n → j < n → -1000000 ≤ mAt ll i j ∧ mAt ll i j ≤ 1000000 := fun i j hi hj => hok.bound (by omega) (by omega)
  rw [← hn]
  have hN : 2 ^ n ≤ 4096 := Nat.pow_le_pow_right (n := 2) (by omega) hn12
  have hN0 := Nat.two_pow_pos n
  obtain ⟨N, hNe⟩ : ∃ N, N = 2 ^ n := ⟨_, rfl⟩
  rw [← hNe] at hN hN0
  have s1 : aBinI .shl .i64 1 .i64 (n : Int) = some (.int .i64 (N : Int)) := by
    have := aBinI_shl .i64 .i64 1 n (by show n ≤ 64; omega) (by rw [Nat.one_mul, ← hNe]; show N < 9223372036854775808; omega)
    rw [Nat.shiftLeft_eq, Nat.one_mul, ← hNe] at this; exact this
  refine wpF fun67 rfl ?_
  try simp only [wpK_assoc]
  refine wpK_reg (fun R hR => by simp []; exact hR) ?_
  obtain ⟨W1, hW1, hE1, hn1', hV1⟩ : ∃ W1, W1 = W.newCells 2 (vI (List.replicate N 0)) ∧ Ext W W1 ∧ W1.next = W.next + 1 ∧ Var W1 W.next 2 (vI (List.replicate N 0)) := ⟨_, rfl, .newCells _ _ _, rfl, Var.new _ _ _⟩
  have hmk := mk62 W N (by omega)
  rw [← hW1] at hmk
  try simp only [wpK_assoc]
  refine wpK_reg (fun R hR => by simp [lv, s1, opMakeSlice, hmk]; exact hR) ?_
  have hbel := below_wp n (by omega) W1
  rw [← hNe] at hbel
  try simp only [wpK_assoc]
  refine wpK_reg (fun R hR => by
      simp [lv, aEnter, fun75, short_other, aCallV]; rw [callS_none]
      refine (hbel).mono ?_
      rintro _ W9 ⟨e9, rfl⟩; subst W9
      simp [lv]; exact hR) ?_
  obtain ⟨pb, hpb⟩ : ∃ p, p = W.next := ⟨_, rfl⟩
  rw [← hpb] at hV1
  obtain ⟨bs, hbs⟩ : ∃ bs : Value, bs = .slice (some ⟨pb, 0, none⟩) N (2 * N) := ⟨_, rfl⟩
  try simp only [wpK_assoc]
  refine wpK_while (I := fun k A' W' => A'.n = 55 ∧ A'.defers = [] ∧ A'.tmps.get 0 = some (v) ∧ A'.tmps.get 3 = some (bs) ∧ Ext W W' ∧ ∃ t Bs, A'.tmps.get 4 = some (.int .u64 (t : Nat)) ∧ k = t ∧ t ≤ N - 1 ∧ Bs.length = N ∧ Var W' pb 2 (vI Bs) ∧ BestFrom n (mAt ll) (gI Bs) t)
    (J := fun A' W' => A'.n = 55 ∧ A'.defers = [] ∧ A'.tmps.get 0 = some (v) ∧ A'.tmps.get 3 = some (bs) ∧ Ext W W' ∧ ∃ Bs, Bs.length = N ∧ Var W' pb 2 (vI Bs) ∧ BestFrom n (mAt ll) (gI Bs) 0)
    (Rt := fun _ _ => False) (k := N - 1) ?_ ?_ ?_ ?_
  · refine ⟨rfl, rfl, by simp [hpb, hbs], by simp [hpb, hbs], hE1, N - 1, List.replicate N 0, by simp, rfl, Nat.le_refl _, by simp, hV1, ?_⟩
    have hz : ∀ i, gI (List.replicate N 0) i = 0 := fun i => by
      rw [gI, List.getD_eq_getElem?_getD, List.getElem?_replicate]
      split <;> rfl
    refine ⟨hz _, fun s h1 h2 => ?_⟩
    have e : s = 2 ^ n - 1 := by omega
    rw [hz]
    exact ⟨⟨by omega, by omega⟩, fun hne => absurd e hne⟩
  · rintro k ⟨tm, n, ds⟩ Wa ⟨hn, hd, h0, h3, hEa, t, Bs, h4, hk, htN, hBl, hVa, hBF⟩ Q' hJ hRt hI
    simp only at hn hd h0 h3
    subst hn; subst hd
    simp only at h4
    by_cases hz : t = 0
    · subst hz
      try simp only [wpK_assoc]
      refine wpK_reg (fun R hR => by simp [h4]; exact hR) ?_
      try simp only [wpK_assoc]
      first | refine wpK_onF (by simp []) ?_ | refine wpK_out (by simp []) ?_ | refine wpK_condF (by simp []) ?_ | refine wpK_endF (by simp []) (wpK_skip ?_) | refine wpK_endF (by simp []) ?_
      exact hJ _ _ ⟨rfl, rfl, by simp [h0, h3], by simp [h0, h3], hEa, Bs, hBl, hVa, hBF⟩
    have hz' : (0 : Int) < t := by omega
    have hz2 : 0 < t := by omega
    try simp only [wpK_assoc]
    refine wpK_reg (fun R hR => by simp [h4, hz', hz, hz2]; exact hR) ?_
    try simp only [wpK_assoc]
    first | refine wpK_onT (by simp [hz2]) ?_ | refine wpK_outT (by simp [hz2]) ?_ | refine wpK_condT (by simp [hz2]) ?_ | refine wpK_endT (by simp [hz2]) ?_
    obtain ⟨s, rfl⟩ : ∃ s, t = s + 1 := ⟨t - 1, by omega⟩
    have hsN : s < N := by omega
    have w1 : IntKind.u64.wrap (s : Int) = (s : Int) := u64_nat (by omega)
    have hs12 : s < 4096 := by omega
    have hsn : s < 2 ^ n := by omega
    have hsne : s ≠ 2 ^ n - 1 := by omega
    obtain ⟨k0, hk0, hb0⟩ : ∃ k, k < n ∧ s.testBit k = false := by
      rcases full_or_free hsn with e | e
      · exact absurd e hsne
      · exact e
    have hpcn : pc s < n := (pc_or hn12 hsn hk0 hb0).2
    refine wpK_block1 ?_
    try simp only [wpK_assoc]
    refine wpK_reg (fun R hR => by simp [h4, w1]; exact hR) ?_
    obtain ⟨Wb, hb1, hb2, hb3, hb4⟩ := varI_store hVa (i := s) (by omega) (-9223372036854775808)
    have hix := ixB pb N (2 * N) s .u64 hsN
    rw [← hbs] at hix
    try simp only [wpK_assoc]
    refine wpK_reg (fun R hR => by simp [h3, hix, hb1]; exact hR) ?_
    have hEb : Ext W Wb := ⟨by have := hEa.1; omega, fun b hb hk => by rw [hb3.2 b (by have := hEa.1; omega) (by omega)]; exact hEa.2 b hb hk⟩
    have hrow := row_some (ll := ll) (i := pc s) (by omega)
    obtain ⟨rv, b, p, g1, g2', g3', g4'⟩ := mat_at h hrow
    have g2 : aLoadVar T0 Wb 62 b p = some rv := load_of und62 rfl (g4'.ext hEb)
    have g3 : IntR Wb rv (ll.getD (pc s) []) := g3'.ext hEb
    have hRfin : ∀ W', Ext W W' → IntR W' rv (ll.getD (pc s) []) := fun W' hE => g3'.ext hE
    have hrl := hok.2.2.1 _ (List.mem_of_getElem? hrow)
    obtain ⟨A3, c3, hrv⟩ := g3.len
    have lr : ∀ W', aLen T0 W' 62 rv = some (.int .i64 (n : Int)) := fun W' => by rw [hrv, hrl, ← hn]; exact len_slice und62 _ _ _
    try simp only [wpK_assoc]
    refine wpK_reg (fun R hR => by
        simp [h0, g1, g2, lr, aEnter, fun82, short_other, aCallV]; rw [callS_none]
        refine (size_wp hs12).mono ?_
        rintro _ W9 ⟨e9, rfl⟩; subst W9
        simp [h0, g1, g2, lr]; exact hR) ?_
    have hrow2 : ∀ j, mAt ll (pc s) j = gI (ll.getD (pc s) []) j := fun j => rfl
    clear g3'
    generalize ll.getD (pc s) [] = r at hrow g3 hrl hrow2 hRfin
    have hpart0 : PartN n (mAt ll) (gI (Bs.set s (-9223372036854775808))) s 0 := ⟨fun q hq => by omega, .inl ⟨by rw [gI_set (by omega), if_pos rfl], fun q hq => by omega⟩⟩
    have hBFb : BestFrom n (mAt ll) (gI (Bs.set s (-9223372036854775808))) (s + 1) := hBF.keep (by omega) (fun q hq => by rw [gI_set (by omega), if_neg (by omega)])
    try simp only [wpK_assoc]
    refine wpK_while1 (I := fun k2 A' W' => A'.n = 55 ∧ A'.defers = [] ∧ A'.tmps.get 0 = some (v) ∧ A'.tmps.get 3 = some (bs) ∧ A'.tmps.get 4 = some (.int .u64 (s : Nat)) ∧ A'.tmps.get 25 = some (rv) ∧ A'.tmps.get 26 = some (.int .i64 (n : Int)) ∧ Ext W W' ∧ (∀ q, q < W.next → True) ∧ ∃ (j : Nat) (Bs : List Int), A'.tmps.get 27 = some (.int .i64 (j : Int)) ∧ k2 = n - j ∧ j ≤ n ∧ Bs.length = N ∧ Var W' pb 2 (vI Bs) ∧ BestFrom n (mAt ll) (gI Bs) (s + 1) ∧ PartN n (mAt ll) (gI Bs) s j ∧ IntR W' rv r)
      (J := fun A' W' => A'.n = 55 ∧ A'.defers = [] ∧ A'.tmps.get 0 = some (v) ∧ A'.tmps.get 3 = some (bs) ∧ A'.tmps.get 4 = some (.int .u64 (s : Nat)) ∧ A'.tmps.get 25 = some (rv) ∧ A'.tmps.get 26 = some (.int .i64 (n : Int)) ∧ Ext W W' ∧ ∃ Bs : List Int, Bs.length = N ∧ Var W' pb 2 (vI Bs) ∧ BestFrom n (mAt ll) (gI Bs) s)
      (Rt := fun _ _ => False) (k := n) ?_ ?_ ?_ ?_
    · exact ⟨rfl, rfl, by simp [h0, h3], by simp [h0, h3], by simp [h0, h3], by simp [h0, h3], by simp [h0, h3], hEb, fun _ _ => trivial, 0, Bs.set s (-9223372036854775808), by simp, rfl, by omega, by simp [hBl], hb4, hBFb, hpart0, g3⟩
    · rintro k2 ⟨tm, n, ds⟩ Wc ⟨hn, hd, h0, h3, h4, h25, h26, hEc, -, j, Cs, h27, hk2, hj, hCl, hVc, hCF, hCP, hRc⟩ Q3 hJ3 hRt3 hI3
      simp only at hn hd h0 h3 h4 h25 h26
      subst hn; subst hd
      simp only at h27
      by_cases hlj : j < n
      case neg =>
        have e : j = n := by omega
        subst e
        try simp only [wpK_assoc]
        refine wpK_reg (fun R hR => by simp [h26, h27]; exact hR) ?_
        try simp only [wpK_assoc]
        first | refine wpK_onF (by simp []) ?_ | refine wpK_out (by simp []) ?_ | refine wpK_condF (by simp []) ?_ | refine wpK_endF (by simp []) (wpK_skip ?_) | refine wpK_endF (by simp []) ?_
        exact hJ3 _ _ ⟨rfl, rfl, by simp [h0, h3, h4, h25, h26], by simp [h0, h3, h4, h25, h26], by simp [h0, h3, h4, h25, h26], by simp [h0, h3, h4, h25, h26], by simp [h0, h3, h4, h25, h26], hEc, Cs, hCl, hVc, hCF.step hn12 hc (by omega) hCP⟩
      have hlj' : (j : Int) < n := by omega
      try simp only [wpK_assoc]
      refine wpK_reg (fun R hR => by simp [h26, h27, hlj']; exact hR) ?_
      try simp only [wpK_assoc]
      first | refine wpK_onT (by simp []) ?_ | refine wpK_outT (by simp []) ?_ | refine wpK_condT (by simp []) ?_ | refine wpK_endT (by simp []) ?_
      obtain ⟨bx, px, x1, x2, _⟩ := int_at hRc (gI_some (l := r) (i := j) (by omega))
      have hcj := hc (pc s) j hpcn hlj
      have hmij := hrow2 j
      refine wpK_block ?_
      try simp only [wpK_assoc]
      refine wpK_reg (fun R hR => by simp [h25, h27, x1, x2]; exact hR) ?_
      try simp only [wpK_assoc]
      refine wpK_reg (fun R hR => by
          simp [h4, aEnter, fun60, short_other, aCallV]; rw [callS_none]
          refine (has_wp s j (by omega) (by omega) Wc).mono ?_
          rintro _ W9 ⟨e9, rfl⟩; subst W9
          simp [h4, -testBit_dec]; exact hR) ?_
      cases hb : s.testBit j with
      | true =>
        try simp only [wpK_assoc]
        first | refine wpK_onF (by simp [hb, -testBit_dec]) ?_ | refine wpK_out (by simp [hb, -testBit_dec]) ?_ | refine wpK_condF (by simp [hb, -testBit_dec]) ?_ | refine wpK_endF (by simp [hb, -testBit_dec]) (wpK_skip ?_) | refine wpK_endF (by simp [hb, -testBit_dec]) ?_
        simp only [leaves_normal, behind_normal]
        try simp only [wpK_assoc]
        refine wpK_reg1 (fun R hR => by simp [h27]; exact hR) ?_
        refine hI3 (n - (j + 1)) _ _ (by omega) ⟨rfl, rfl, by simp [h0, h3, h4, h25, h26], by simp [h0, h3, h4, h25, h26], by simp [h0, h3, h4, h25, h26], by simp [h0, h3, h4, h25, h26], by simp [h0, h3, h4, h25, h26], hEc, fun _ _ => trivial, j + 1, Cs, by simp [i64_succ j (by omega)], rfl, by omega, hCl, hVc, hCF, ⟨fun q hq hqb => ?_, ?_⟩, hRc⟩
        · by_cases e : q = j
          · subst e; rw [hb] at hqb; cases hqb
          · exact hCP.1 q (by omega) hqb
        · rcases hCP.2 with ⟨e1, e2⟩ | ⟨q, e1, e2⟩
          · refine .inl ⟨e1, fun q hq => ?_⟩
            by_cases e : q = j
            · subst e; exact hb
            · exact e2 q (by omega)
          · exact .inr ⟨q, by omega, e2⟩
      | false =>
        try simp only [wpK_assoc]
        first | refine wpK_onT (by simp [hb, -testBit_dec]) ?_ | refine wpK_outT (by simp [hb, -testBit_dec]) ?_ | refine wpK_condT (by simp [hb, -testBit_dec]) ?_ | refine wpK_endT (by simp [hb, -testBit_dec]) ?_
        obtain ⟨p1, p2⟩ := pc_or hn12 hsn hlj hb
        have hun : s ||| 1 <<< j < N := by have := or_ltp hsn hlj; omega
        have hug := or_gt hb
        have hbd := (hCF.2 (s ||| 1 <<< j) (by omega) (by omega)).1
        rw [p1] at hbd
        have ld1 := varI_load hVc (i := s) (by omega)
        have ld2 := varI_load hVc (i := s ||| 1 <<< j) (by omega)
        have ix1 := ixB pb N (2 * N) s .u64 hsN
        have ix2 := ixB pb N (2 * N) (s ||| 1 <<< j) .u64 hun
        rw [← hbs] at ix1 ix2
        have hor := aBinI_or .u64 s (1 <<< j) (by show s < 18446744073709551616; omega) (by rw [Nat.one_shiftLeft]; show 2 ^ j < 2 ^ 64; exact Nat.pow_lt_pow_right (by omega) (by omega))
        have o1 := one_wp j (by omega) Wc
        have a1 : IntKind.i64.wrap (gI r j + gI Cs (s ||| 1 <<< j)) = gI r j + gI Cs (s ||| 1 <<< j) := i64_in (by omega)
        obtain ⟨Wd, d1, d2, d3, d4⟩ := varI_store hVc (i := s) (by omega) (max (gI Cs s) (gI r j + gI Cs (s ||| 1 <<< j)))
        have hnew : ∀ q, gI (Cs.set s (max (gI Cs s) (gI r j + gI Cs (s ||| 1 <<< j)))) q = if q = s then max (gI Cs s) (gI r j + gI Cs (s ||| 1 <<< j)) else gI Cs q := gI_set (by omega) _
        have hval : ∀ q, q < n → s.testBit q = false → gI (Cs.set s (max (gI Cs s) (gI r j + gI Cs (s ||| 1 <<< j)))) (s ||| 1 <<< q) = gI Cs (s ||| 1 <<< q) := fun q hq hqb => by
          rw [hnew, if_neg (by have := or_gt hqb; omega)]
        have hpart : PartN n (mAt ll) (gI (Cs.set s (max (gI Cs s) (gI r j + gI Cs (s ||| 1 <<< j))))) s (j + 1) := by
          have es := hnew s
          rw [if_pos rfl] at es
          refine ⟨fun q hq hqb => ?_, ?_⟩
          · rw [hval q (by omega) hqb, es]
            by_cases e : q = j
            · subst e; rw [hmij]; omega
            · have := hCP.1 q (by omega) hqb; omega
          · right
            by_cases hle : gI Cs s ≤ gI r j + gI Cs (s ||| 1 <<< j)
            · refine ⟨j, by omega, hb, ?_⟩
              rw [hval j hlj hb, es, hmij]; omega
            · rcases hCP.2 with ⟨e1, _⟩ | ⟨q, e1, e2, e3⟩
              · omega
              · refine ⟨q, by omega, e2, ?_⟩
                rw [hval q (by omega) e2, es, e3]; omega
        have hkeep : BestFrom n (mAt ll) (gI (Cs.set s (max (gI Cs s) (gI r j + gI Cs (s ||| 1 <<< j))))) (s + 1) := hCF.keep (by omega) (fun q hq => by rw [hnew, if_neg (by omega)])
        clear hnew hval
        generalize hmx : max (gI Cs s) (gI r j + gI Cs (s ||| 1 <<< j)) = mx at d1 d4 hpart hkeep
        generalize gI Cs (s ||| 1 <<< j) = y2 at ld2 a1 hmx
        generalize gI Cs s = y1 at ld1 hmx
        generalize gI r j = xj at x2 a1 hmx
        generalize s ||| 1 <<< j = sj at ld2 ix2 hor
        generalize 1 <<< j = oj at hor o1
        try simp only [wpK_assoc]
        refine wpK_qn (wr := Tr.nil |>.set 36 0 |>.set 37 1 |>.set 38 2 |>.set 39 3 |>.set 40 4 |>.set 41 5 |>.set 42 6 |>.set 43 7 |>.set 44 8 |>.set 45 9 |>.set 46 10 |>.set 47 11 |>.set 48 12 |>.set 49 13 |>.set 50 14 |>.set 51 15 |>.set 52 16) (bits := Tr.nil.lay 0 [0, 0, 0, 0, 12, 28, 0, 0, 0, 0, 512, 1792, 3968, 8064, 16320, 32764, 65535, 131071]) (ord := [0, 1, 2, 3, 4, 5, 6, 7, 8, 9, 10, 11, 12, 13, 14, 15, 16, 17]) (by kernel_rfl) (by kernel_rfl) (by kernel_rfl) (fun G hG => by
          simp [h3, h4, ix1, ld1, aEnter, fun68, short_other, aCallV]
          rw [dcallS_none]
          refine o1.mono ?_
          rintro _ W9 ⟨e9, rfl⟩; subst W9
          simp [h3, h4, ix1, ld1, hor, ix2, ld2, a1, max_int, hmx, d1, d2]
          exact hG) ?_
        simp only [leaves_normal, behind_normal]
        refine wpK_keep (fun tm' => tm'.get 0 = some (v) ∧ tm'.get 3 = some (bs) ∧ tm'.get 4 = some (.int .u64 (s : Nat)) ∧ tm'.get 25 = some (rv) ∧ tm'.get 26 = some (.int .i64 (n : Int)) ∧ tm'.get 27 = some (.int .i64 (j : Int))) ⟨by simp [h0, h3, h4, h25, h26, h27], by simp [h0, h3, h4, h25, h26, h27], by simp [h0, h3, h4, h25, h26, h27], by simp [h0, h3, h4, h25, h26, h27], by simp [h0, h3, h4, h25, h26, h27], by simp [h0, h3, h4, h25, h26, h27]⟩ ?_
        rintro tm ⟨h0, h3, h4, h25, h26, h27⟩
        try simp only [wpK_assoc]
        refine wpK_reg1 (fun R hR => by simp [h27]; exact hR) ?_
        have hpbW : W.next ≤ pb := by omega
        refine hI3 (n - (j + 1)) _ _ (by omega) ⟨rfl, rfl, by simp [h0, h3, h4, h25, h26], by simp [h0, h3, h4, h25, h26], by simp [h0, h3, h4, h25, h26], by simp [h0, h3, h4, h25, h26], by simp [h0, h3, h4, h25, h26], ⟨by have := hEc.1; omega, fun b hb hk => by rw [d3.2 b (by have := hEc.1; omega) (by omega)]; exact hEc.2 b hb hk⟩, fun _ _ => trivial, j + 1, _, by simp [i64_succ j (by omega)], rfl, by omega, by simp [hCl], d4, hkeep, hpart, ?_⟩
        exact hRfin Wd ⟨by have := hEc.1; omega, fun b hb hk => by rw [d3.2 b (by have := hEc.1; omega) (by omega)]; exact hEc.2 b hb hk⟩
    · rintro A' W' hf; exact hf.elim
    · rintro ⟨tm, n, ds⟩ Wc ⟨hn, hd, h0, h3, h4, h25, h26, hEc, Cs, hCl, hVc, hCF⟩
      simp only at hn hd h0 h3 h4 h25 h26
      subst hn; subst hd
      simp only [leaves_normal, behind_normal]
      exact hI s _ _ (by omega) ⟨rfl, rfl, by simp [h0, h3], by simp [h0, h3], hEc, s, Cs, by simp [h4], rfl, by omega, hCl, hVc, hCF⟩
  · rintro A' W' hf; exact hf.elim
  · rintro ⟨tm, n, ds⟩ W9 ⟨hn, hd, h0, h3, hE9, Bs, hBl, hV9, hBF⟩
    simp only at hn hd h0 h3
    subst hn; subst hd
    try simp only [wpK_assoc]
    refine wpK_reg (fun R hR => by simp [h3]; exact hR) ?_
    refine wpK_ret ⟨.inr rfl, rfl, [bs], by simp, hE9, pb, Bs, by omega, ?_, by rw [hBl, hNe], hV9, hBF⟩
    show bs = _
    rw [hbs, hNe]

end Go.Proofs.YtdpnplanohgecaaDoor

open Go Go.Eng
namespace Go.Proofs.YtdpnplanohgecaaDoor
attribute [local congr] undef_congr WpK.congr WpS.congr WpL.congr WpC.congr WpF.congr gotS.congr callS.congr nextS.congr wantS.congr condS.congr
attribute [local irreducible] WpK
attribute [local simp] WpDr_nil WpDr_cons atS_some dwantS_true dwantS_false kindS_light kindS_float kindS_heavy lightS_value floatS_some heavyS_value heavyS_skip heavyS_enter dcallS_some doneS_eq
  isLight isFloat isPlain dLook testBit_dec dChain dLights_nil dLights_skip dLights_one dLight_nil dLight_cons dFreshes_nil dFreshes_one oneF_none oneF_some dFresh_nil dFresh_cons oneL_some oneW_true oneW_false sameV_value dPut dMay valEq arrEq listEq List.getElem?_cons Tr.get_nil dEnd
attribute [local simp] WpS_nil WpS_cons isDefer undef_false wantS_true wantS_false nextS_value nextS_skip nextS_enter callS_some gotS_some aWanted aOp aEvalF aEval opMove opAssign opPick aVal flat flat1 AAct.put opBinOp opConvert opIndex Tr.get_set Tr.get_lay aBin aResults tupled
  aCall aVals aCallB blt_dec ble_dec beq_dec aBinI_add aBinI_sub aBinI_lss aBinI_leq aBinI_gtr aBinI_geq aBinI_eql aBinI_neq index_str len_str len_slice Nat.beq_refl Nat.beq_refl
  opBox opLoad opFieldAddr opIndexAddr acells aAddr opExtract aExtract opUnOp opAlloc opStore opMakeInterface opNilCheck opBuild aParts opBuildSlice aValW
attribute [local simp] und2 und3 und4 und5 und9 und12 field13_0 field13_1 und21 und22 field23_0 field23_1 field24_0 field24_1 field25_0 field25_1 und28 und31 field34_0 field34_1 field34_2 field35_0 field35_1 field35_2 und46 field50_0 field50_1 field50_2 und55 und56 und58 und61 und62 und73 und75 und90 und94 und95 und96 field97_0 field97_1 field97_2 field97_3 field97_4 field97_5 field97_6 field98_0 field98_1 field98_2 field98_3 field98_4 field98_5 field98_6 und99 und106 field107_0 field107_1 field108_0 field108_1 und119 und122 field124_0 field124_1 field124_2 field125_0 field125_1 field125_2 field131_0 field131_1 field132_0 field132_1 und133 field134_0 field134_1 field135_0 field135_1 und148 und156 und160
set_option maxHeartbeats 4000000
set_option linter.unusedSimpArgs false
set_option linter.unusedVariables false
/-! ### the best assignment -/
theorem has_is {s p : Nat} {b : Bool} (hb : s.testBit p = b) (hs : s < 18446744073709551616) (hp : p ≤ 64) (W : AW) : WpF T0 60 [.int .u64 s, .int .i64 p] W (fun v W' => W' = W ∧ v = .bool b) := by
  have := has_wp s p hs hp W
  rwa [hb] at this
theorem grow_push {W : AW} {t el : TypeId} {i : TypeInfo} {z : Value} (ht : T0.und.get t = some (.slice el)) (hi : T0.info.get el = some i) (hs : i.size = 1) (hz : i.zero = some z) (hz1 : (acells z).length = 1) (hb : i.bytes ≤ 24)
    {v : Value} {m : Nat} {l : List Value} {K : Nat → Prop} (h : GrowsN W v m l el 1 K) (hK : ∀ b, K b → b < W.next ∨ W.next ≤ b) (hm : m ≤ 100000) (x : Value) (hx : oneCells [x] = true) :
    ∃ v' W', aAppend T0 (W.newCells el [x]) [t, t] [v, .slice (some ⟨W.next, 0, none⟩) 1 2] = some (v', W') ∧ W.next ≤ W'.next ∧ GrowsN W' v' (m + 1) (l ++ [x]) el 1 (fun b => K b ∨ W.next ≤ b) ∧ Only K W W' := by
  have hE : Ext W (W.newCells el [x]) := .newCells _ _ _
  have hV := Var.new W el [x]
  have hx' : (W.newCells el [x]).cellsAt W.next 0 1 = some [x] := by
    rw [hV.cellsAt 0 1 (by simp)]; rfl
  obtain ⟨v', W', g1, g2, g3, g4⟩ := append_growsN (T := T0) (t := t) (by omega) ht hi hs hz hz1 (h.only (K' := fun _ => False) hE (fun _ _ _ x => x)) (u := [x]) (bx := W.next) (c := 2) rfl hx' hx (by
    have : 2 * (m + 1) * i.bytes ≤ 2 * (m + 1) * 24 := Nat.mul_le_mul_left _ hb
    omega) (by omega)
  refine ⟨v', W', g1, by rw [g2, newCells_next]; omega, g3.mono (fun b hb => hb.elim .inl (fun e => .inr (by rw [newCells_next] at e; omega))), ⟨by rw [g2, newCells_next]; omega, fun b hb hk => ?_⟩⟩
  rw [g4.2 b (by rw [newCells_next]; omega) hk, newCells_get, if_neg (by omega)]
def natsV (ps : List Nat) : List Value := ps.map fun p : Nat => Value.int .i64 (p : Int)
theorem natsV_flat (ps : List Nat) : natsV ps = flatE (encI .i64) (ps.map Int.ofNat) := by
  induction ps with
  | nil => rfl
  | cons a l ih => simp only [natsV, flatE, List.map_cons, List.flatMap_cons] at ih ⊢; rw [ih]; rfl
theorem natsV_row {W : AW} {v : Value} {ps : List Nat} {K : Nat → Prop} (h : GrowsN W v ps.length (natsV ps) 3 1 K) : IntR W v (ps.map Int.ofNat) := by
  rw [natsV_flat] at h
  exact GrowsN.row (l := ps.map Int.ofNat) encI_len (by simpa using h)
theorem assign_err {W : AW} {v : Value} {ll : List (List Int)} (h : MatIn W v ll) (hl : ll.length < 9223372036854775808) (hr : ∀ r ∈ ll, r.length < 9223372036854775808) (he : offE ll ≠ 0) : WpF T0 35 [v] W (fun u W' => W' = W ∧ u = .tuple ⟨[.slice none 0 0, .int .i64 0, .int .i64 (offE ll)]⟩) := by
  refine wpF fun35 rfl ?_
  try simp only [wpK_assoc]
  refine wpK_reg (fun R hR => by simp []; exact hR) ?_
  try simp only [wpK_assoc]
  refine wpK_reg (fun R hR => by
      simp [aEnter, fun66, short_other, aCallV]; rw [callS_none]
      refine (checkOffer_wp h hl hr).mono ?_
      rintro _ W9 ⟨e9, rfl⟩; subst W9
      simp []; exact hR) ?_
  try simp only [wpK_assoc]
  refine wpK_reg (fun R hR => by simp [he]; exact hR) ?_
  try simp only [wpK_assoc]
  first | refine wpK_onT (by simp []) ?_ | refine wpK_outT (by simp []) ?_ | refine wpK_condT (by simp []) ?_ | refine wpK_endT (by simp []) ?_
  try simp only [wpK_assoc]
  refine wpK_reg (fun R hR => by simp []; exact hR) ?_
  exact wpK_ret ⟨.inr rfl, rfl, [.slice none 0 0, .int .i64 0, .int .i64 (offE ll)], by simp, rfl, rfl⟩
/-- what an assignment is -/
def IsAssign (ll : List (List Int)) (ps : List Nat) (B : Nat → Int) : Prop := ps.length = ll.length ∧ BestN ll.length (mAt ll) B ∧ Chosen ll.length (mAt ll) B ps ∧ -12000000 ≤ B 0 ∧ B 0 ≤ 12000000
theorem assign_ok {W : AW} {v : Value} {ll : List (List Int)} (h : MatIn W v ll) (hr : ∀ r ∈ ll, r.length < 9223372036854775808) (hok : OffOk ll) :
    WpF T0 35 [v] W (fun u W' => Ext W W' ∧ ∃ pv ps B, u = .tuple ⟨[pv, .int .i64 (B 0), .int .i64 0]⟩ ∧ IsAssign ll ps B ∧ GrowsN W' pv ps.length (natsV ps) 3 1 (fun b => W.next ≤ b)) := by
  obtain ⟨A, c, hv⟩ := mat_len h
  obtain ⟨n, hn⟩ : ∃ n, n = ll.length := ⟨_, rfl⟩
  have hn12 : n ≤ 12 := by have := hok.2.1; omega
  have hn1 : 1 ≤ n := by have := hok.1; omega
  have lv : ∀ W', aLen T0 W' 61 v = some (.int .i64 (n : Int)) := fun W' => by rw [hv, hn]; exact len_slice und61 _ _ _
  refine wpF fun35 rfl ?_
  try simp only [wpK_assoc]
  refine wpK_reg (fun R hR => by simp []; exact hR) ?_
  try simp only [wpK_assoc]
  refine wpK_reg (fun R hR => by
      simp [aEnter, fun66, short_other, aCallV]; rw [callS_none]
      refine (checkOffer_wp h (by omega) hr).mono ?_
      rintro _ W9 ⟨e9, rfl⟩; subst W9
      simp []; exact hR) ?_
  rw [offE_ok hok]
  try simp only [wpK_assoc]
  refine wpK_reg (fun R hR => by simp []; exact hR) ?_
  try simp only [wpK_assoc]
  first | refine wpK_onF (by simp []) ?_ | refine wpK_out (by simp []) ?_ | refine wpK_condF (by simp []) ?_ | refine wpK_endF (by simp []) (wpK_skip ?_) | refine wpK_endF (by simp []) ?_
  try simp only [wpK_assoc]
  refine wpK_x2 (P := fun (pb : Nat) (Bs : List Int) W' => Ext W W' ∧ W.next ≤ pb ∧ Bs.length = 2 ^ n ∧ Var W' pb 2 (vI Bs) ∧ BestFrom n (mAt ll) (gI Bs) 0) (fun R hR => by
    simp [aEnter, fun67, short_other, aCallV]; rw [callS_none]
    refine (remains_wp h hok).mono ?_
    rintro _ W1 ⟨hE1, pb, Bs, hpb, rfl, hBl, hVb, hBF⟩
    rw [← hn] at hBl hBF
    rw [← hn]
    simp
    exact hR pb Bs W1 (And.intro hE1 (And.intro hpb (And.intro hBl (And.intro hVb hBF))))) ?_
  rintro pb Bs W1 ⟨hE1, hpb, hBl, hVb, hBF⟩
  have hB := hBF.best (by omega)
  have hbn0 := (hBF.2 0 (Nat.le_refl _) (Nat.two_pow_pos n)).1
  have hpc0 : pc 0 = 0 := cntB_zero 40
  rw [hpc0] at hbn0
  have hN0 := Nat.two_pow_pos n
  obtain ⟨N, hNe⟩ : ∃ N, N = 2 ^ n := ⟨_, rfl⟩
  have hN : N ≤ 4096 := by rw [hNe]; exact Nat.pow_le_pow_right (n := 2) (by omega) hn12
  rw [← hNe] at hBl hN0
  rw [← hNe]
  obtain ⟨bs, hbs⟩ : ∃ bs : Value, bs = .slice (some ⟨pb, 0, none⟩) N (2 * N) := ⟨_, rfl⟩
  rw [← hbs]
  try simp only [wpK_assoc]
  refine wpK_reg (fun R hR => by simp []; exact hR) ?_
  try simp only [wpK_assoc]
  refine wpK_reg (fun R hR => by simp [lv]; exact hR) ?_
  try simp only [wpK_assoc]
  refine wpK_while (I := fun k A' W' => A'.n = 66 ∧ A'.defers = [] ∧ A'.tmps.get 6 = some (bs) ∧ A'.tmps.get 19 = some (v) ∧ A'.tmps.get 20 = some (.int .i64 (n : Int)) ∧ Ext W1 W' ∧ ∃ (ps : List Nat) (pv : Value), A'.tmps.get 21 = some (.int .i64 (ps.length : Int)) ∧ A'.tmps.get 2 = some pv ∧ A'.tmps.get 7 = some (.int .u64 (tk (fun i => ps.getD i 0) ps.length : Nat)) ∧ k = n - ps.length ∧ ps.length ≤ n ∧ Chosen n (mAt ll) (gI Bs) ps ∧ GrowsN W' pv ps.length (natsV ps) 3 1 (fun b => W1.next ≤ b))
    (J := fun A' W' => A'.n = 66 ∧ A'.defers = [] ∧ A'.tmps.get 6 = some (bs) ∧ A'.tmps.get 19 = some (v) ∧ A'.tmps.get 20 = some (.int .i64 (n : Int)) ∧ Ext W1 W' ∧ ∃ (ps : List Nat) (pv : Value), A'.tmps.get 2 = some pv ∧ ps.length = n ∧ Chosen n (mAt ll) (gI Bs) ps ∧ GrowsN W' pv ps.length (natsV ps) 3 1 (fun b => W1.next ≤ b))
    (Rt := fun _ _ => False) (k := n) ?_ ?_ ?_ ?_
  · exact ⟨rfl, rfl, by simp, by simp, by simp, .refl _ _, [], .slice none 0 0, by simp, by simp, by simp [tk], rfl, by simp, .nil, .nil _ _ _ _⟩
  · rintro k ⟨tm, n, ds⟩ Wa ⟨hn, hd, h6, h19, h20, hEa, ps, pv, h21, h2, h7, hk, hpl, hch, hgr⟩ Q' hJ hRt hI
    simp only at hn hd h6 h19 h20
    subst hn; subst hd
    simp only at h21 h2 h7
    by_cases hlt : ps.length < n
    case neg =>
      have e : ps.length = n := by omega
      have hnl : ¬ (ps.length : Int) < n := by omega
      try simp only [wpK_assoc]
      refine wpK_reg (fun R hR => by simp [h20, h21, hnl]; exact hR) ?_
      try simp only [wpK_assoc]
      first | refine wpK_onF (by simp [hlt]) ?_ | refine wpK_out (by simp [hlt]) ?_ | refine wpK_condF (by simp [hlt]) ?_ | refine wpK_endF (by simp [hlt]) (wpK_skip ?_) | refine wpK_endF (by simp [hlt]) ?_
      exact hJ _ _ ⟨rfl, rfl, by simp [h6, h19, h20], by simp [h6, h19, h20], by simp [h6, h19, h20], hEa, ps, pv, by simp [h2], e, hch, hgr⟩
    have hlt' : (ps.length : Int) < n := by omega
    try simp only [wpK_assoc]
    refine wpK_reg (fun R hR => by simp [h20, h21, hlt']; exact hR) ?_
    try simp only [wpK_assoc]
    first | refine wpK_onT (by simp [hlt]) ?_ | refine wpK_outT (by simp [hlt]) ?_ | refine wpK_condT (by simp [hlt]) ?_ | refine wpK_endT (by simp [hlt]) ?_
    have hlt2 : ∀ i, i < ps.length → ps.getD i 0 < n := fun i hi => (hch i hi).1
    have htl : tk (fun i => ps.getD i 0) ps.length < 2 ^ n := tk_lt hlt2
    have hdis : ∀ i j, i < j → j < ps.length → ps.getD i 0 ≠ ps.getD j 0 := fun i j h1 h2 e => by
      have := (hch j h2).2.1
      rw [tk_bit.2 ⟨i, h1, e⟩] at this; cases this
    have hpcn : pc (tk (fun i => ps.getD i 0) ps.length) = ps.length := tk_cnt (n := n) (by omega) hlt2 hdis
    have hsnoc := fun x => hch.snoc (x := x)
    have htk1 : ∀ x, tk (fun i => (ps ++ [x]).getD i 0) (ps ++ [x]).length = tk (fun i => ps.getD i 0) ps.length ||| 1 <<< x := fun x => by
      rw [List.length_append]
      show tk (fun i => (ps ++ [x]).getD i 0) ps.length ||| 1 <<< (ps ++ [x]).getD ps.length 0 = _
      rw [tk_app (Nat.le_refl _), getD_last]
    generalize tk (fun i => ps.getD i 0) ps.length = t at h7 htl hpcn hsnoc htk1
    have htN : t < N := by omega
    have htne : t ≠ 2 ^ n - 1 := fun e => by
      have h1 : pc (2 ^ n - 1) = min 40 n := cntB_full n 40
      rw [← e, hpcn] at h1; omega
    obtain ⟨qx, hqx1, hqx2, hqx3⟩ := hB.is t htl htne
    rw [hpcn] at hqx3
    have hxr := row_some (ll := ll) (i := ps.length) (by omega)
    obtain ⟨rv, b, p, g1, g2', g3', g4'⟩ := mat_at h hxr
    have hEWa := hE1.trans hEa
    have g2 : aLoadVar T0 Wa 62 b p = some rv := load_of und62 rfl (g4'.ext hEWa)
    have hrl := hok.2.2.1 _ (List.mem_of_getElem? hxr)
    obtain ⟨A3, c3, hrv⟩ := g3'.len
    have lr : ∀ W', aLen T0 W' 62 rv = some (.int .i64 (n : Int)) := fun W' => by rw [hrv, hrl, ← hn]; exact len_slice und62 _ _ _
    have hrow2 : ∀ j, mAt ll ps.length j = gI (ll.getD ps.length []) j := fun j => rfl
    have hRa : IntR Wa rv (ll.getD ps.length []) := g3'.ext hEWa
    clear g3'
    generalize ll.getD ps.length [] = r at hxr hrl hrow2 hRa
    have hVa := hVb.ext hEa
    refine wpK_block ?_
    try simp only [wpK_assoc]
    refine wpK_reg (fun R hR => by simp [h19, h21, g1, g2]; exact hR) ?_
    try simp only [wpK_assoc]
    refine wpK_reg (fun R hR => by simp [lr]; exact hR) ?_
    try simp only [wpK_assoc]
    refine wpK_while1 (I := fun k2 A' W' => A'.n = 66 ∧ A'.defers = [] ∧ A'.tmps.get 2 = some (pv) ∧ A'.tmps.get 6 = some (bs) ∧ A'.tmps.get 7 = some (.int .u64 (t : Nat)) ∧ A'.tmps.get 19 = some (v) ∧ A'.tmps.get 20 = some (.int .i64 (n : Int)) ∧ A'.tmps.get 21 = some (.int .i64 (ps.length : Int)) ∧ A'.tmps.get 25 = some (rv) ∧ A'.tmps.get 26 = some (.int .i64 (n : Int)) ∧ W' = Wa ∧ ∃ j : Nat, A'.tmps.get 27 = some (.int .i64 (j : Int)) ∧ k2 = n - j ∧ j ≤ n ∧ ∀ q, q < j → ¬ (t.testBit q = false ∧ mAt ll ps.length q + gI Bs (t ||| 1 <<< q) = gI Bs t))
      (J := fun A' W' => A'.n = 66 ∧ A'.defers = [] ∧ A'.tmps.get 6 = some (bs) ∧ A'.tmps.get 19 = some (v) ∧ A'.tmps.get 20 = some (.int .i64 (n : Int)) ∧ Ext W1 W' ∧ A'.tmps.get 21 = some (.int .i64 (ps.length : Int)) ∧ ∃ (x : Nat) (pv' : Value), A'.tmps.get 2 = some pv' ∧ A'.tmps.get 7 = some (.int .u64 (t ||| 1 <<< x : Nat)) ∧ Chosen n (mAt ll) (gI Bs) (ps ++ [x]) ∧ GrowsN W' pv' (ps.length + 1) (natsV (ps ++ [x])) 3 1 (fun b => W1.next ≤ b))
      (Rt := fun _ _ => False) (k := n) ?_ ?_ ?_ ?_
    · exact ⟨rfl, rfl, by simp [h2, h6, h7, h19, h20, h21], by simp [h2, h6, h7, h19, h20, h21], by simp [h2, h6, h7, h19, h20, h21], by simp [h2, h6, h7, h19, h20, h21], by simp [h2, h6, h7, h19, h20, h21], by simp [h2, h6, h7, h19, h20, h21], by simp [h2, h6, h7, h19, h20, h21], by simp [h2, h6, h7, h19, h20, h21], rfl, 0, by simp, rfl, by omega, fun q hq => by omega⟩
    · rintro k2 ⟨tm, n, ds⟩ W2 ⟨hn, hd, h2, h6, h7, h19, h20, h21, h25, h26, e2, j, h27, hk2, hj, hno⟩ Q3 hJ3 hRt3 hI3
      simp only at hn hd h2 h6 h7 h19 h20 h21 h25 h26
      subst hn; subst hd
      subst W2
      simp only at h27
      by_cases hlj : j < n
      case neg => exact absurd ⟨hqx2, hqx3⟩ (hno qx (by omega))
      have hlj' : (j : Int) < n := by omega
      try simp only [wpK_assoc]
      refine wpK_reg (fun R hR => by simp [h26, h27, hlj']; exact hR) ?_
      try simp only [wpK_assoc]
      first | refine wpK_onT (by simp []) ?_ | refine wpK_outT (by simp []) ?_ | refine wpK_condT (by simp []) ?_ | refine wpK_endT (by simp []) ?_
      obtain ⟨bx, px, x1, x2, _⟩ := int_at hRa (gI_some (l := r) (i := j) (by omega))
      have hmij := hrow2 j
      have hcj := hok.bound (i := ps.length) (j := j) (by omega) (by omega)
      refine wpK_block ?_
      try simp only [wpK_assoc]
      refine wpK_reg (fun R hR => by simp [h25, h27, x1, x2]; exact hR) ?_
      have hnext : ∀ Q : Prop, (¬ (t.testBit j = false ∧ mAt ll ps.length j + gI Bs (t ||| 1 <<< j) = gI Bs t)) → ∀ q, q < j + 1 → ¬ (t.testBit q = false ∧ mAt ll ps.length q + gI Bs (t ||| 1 <<< q) = gI Bs t) := fun _ hh q hq => by
        by_cases e : q = j
        · subst e; exact hh
        · exact hno q (by omega)
      cases hb : t.testBit j with
      | true =>
        try simp only [wpK_assoc]
        refine wpK_dn (wr := Tr.nil |>.set 32 0 |>.set 33 1 |>.set 34 2 |>.set 35 3 |>.set 36 4 |>.set 37 5 |>.set 38 6 |>.set 39 7 |>.set 40 8 |>.set 41 9 |>.set 42 10 |>.set 43 11 |>.set 44 12 |>.set 45 13 |>.set 46 14 |>.set 47 15 |>.set 48 16 |>.set 49 17 |>.set 50 18 |>.set 51 19) (bits := Tr.nil.lay 0 [0, 0, 3, 7, 15, 31, 31, 31, 31, 287, 927, 2015, 4063, 8191, 31, 31, 49183, 114719, 262143, 524287]) (ord := [0, 1, 2, 3, 4, 5, 6, 7, 8, 9, 10, 11, 12, 13, 14, 15, 16, 17, 18, 19]) (by kernel_rfl) (by kernel_rfl) (by kernel_rfl) (fun G hG => by
          simp [h7, aEnter, fun60, short_other, aCallV]
          rw [dcallS_none]
          refine (has_is hb (by omega) (by omega) Wa).mono ?_
          rintro _ W9 ⟨e9, rfl⟩; subst W9
          simp [h7]
          exact hG) ?_
        try simp only [wpK_assoc]
        first | refine wpK_onF (by simp []) ?_ | refine wpK_out (by simp []) ?_ | refine wpK_condF (by simp []) ?_ | refine wpK_endF (by simp []) (wpK_skip ?_) | refine wpK_endF (by simp []) ?_
        simp only [leaves_normal, behind_normal]
        try simp only [wpK_assoc]
        refine wpK_reg1 (fun R hR => by simp [h27]; exact hR) ?_
        exact hI3 (n - (j + 1)) _ _ (by omega) ⟨rfl, rfl, by simp [h2, h6, h7, h19, h20, h21, h25, h26], by simp [h2, h6, h7, h19, h20, h21, h25, h26], by simp [h2, h6, h7, h19, h20, h21, h25, h26], by simp [h2, h6, h7, h19, h20, h21, h25, h26], by simp [h2, h6, h7, h19, h20, h21, h25, h26], by simp [h2, h6, h7, h19, h20, h21, h25, h26], by simp [h2, h6, h7, h19, h20, h21, h25, h26], by simp [h2, h6, h7, h19, h20, h21, h25, h26], rfl, j + 1, by simp [i64_succ j (by omega)], rfl, by omega, hnext True (fun hh => by rw [hb] at hh; cases hh.1)⟩
      | false =>
        obtain ⟨p1, p2⟩ := pc_or hn12 htl hlj hb
        have hun : t ||| 1 <<< j < N := by have := or_ltp htl hlj; omega
        have hbd := (hBF.2 (t ||| 1 <<< j) (by omega) (by omega)).1
        rw [p1] at hbd
        have ld1 := varI_load hVa (i := t) (by omega)
        have ld2 := varI_load hVa (i := t ||| 1 <<< j) (by omega)
        have ix1 := ixB pb N (2 * N) t .u64 htN
        have ix2 := ixB pb N (2 * N) (t ||| 1 <<< j) .u64 hun
        rw [← hbs] at ix1 ix2
        have hor := aBinI_or .u64 t (1 <<< j) (by show t < 18446744073709551616; omega) (by rw [Nat.one_shiftLeft]; show 2 ^ j < 2 ^ 64; exact Nat.pow_lt_pow_right (by omega) (by omega))
        have o1 := fun W => one_wp j (by omega) W
        have a1 : IntKind.i64.wrap (gI r j + gI Bs (t ||| 1 <<< j)) = gI r j + gI Bs (t ||| 1 <<< j) := i64_in (by omega)
        have hsn := hsnoc j hlj hb
        have hnx2 := hnext True
        rw [hmij] at hsn hnx2
        have hno' := hno
        generalize gI Bs (t ||| 1 <<< j) = y2 at ld2 a1 hsn hnx2
        generalize hy1 : gI Bs t = y1 at ld1 hsn hnx2 hno'
        generalize gI r j = xj at x2 a1 hsn hnx2
        by_cases hqe : xj + y2 = y1
        case neg =>
          generalize t ||| 1 <<< j = sj at ld2 ix2 hor
          generalize 1 <<< j = oj at hor o1
          try simp only [wpK_assoc]
          refine wpK_dn (wr := Tr.nil |>.set 32 0 |>.set 33 1 |>.set 34 2 |>.set 35 3 |>.set 36 4 |>.set 37 5 |>.set 38 6 |>.set 39 7 |>.set 40 8 |>.set 41 9 |>.set 42 10 |>.set 43 11 |>.set 44 12 |>.set 45 13 |>.set 46 14 |>.set 47 15 |>.set 48 16 |>.set 49 17 |>.set 50 18 |>.set 51 19) (bits := Tr.nil.lay 0 [0, 0, 3, 7, 15, 31, 31, 31, 31, 287, 927, 2015, 4063, 8191, 31, 31, 49183, 114719, 262143, 524287]) (ord := [0, 1, 2, 3, 4, 5, 6, 7, 8, 9, 10, 11, 12, 13, 14, 15, 16, 17, 18, 19]) (by kernel_rfl) (by kernel_rfl) (by kernel_rfl) (fun G hG => by
            simp [h7, aEnter, fun60, short_other, aCallV]
            rw [dcallS_none]
            refine (has_is hb (by omega) (by omega) Wa).mono ?_
            rintro _ W9 ⟨e9, rfl⟩; subst W9
            simp [h6, h7, aEnter, fun68, short_other, aCallV]
            rw [dcallS_none]
            refine (o1 Wa).mono ?_
            rintro _ W9 ⟨e9, rfl⟩; subst W9
            simp [h6, h7, hor, ix1, ix2, ld1, ld2, a1, hqe]
            exact hG) ?_
          try simp only [wpK_assoc]
          first | refine wpK_onF (by simp []) ?_ | refine wpK_out (by simp []) ?_ | refine wpK_condF (by simp []) ?_ | refine wpK_endF (by simp []) (wpK_skip ?_) | refine wpK_endF (by simp []) ?_
          simp only [leaves_normal, behind_normal]
          try simp only [wpK_assoc]
          refine wpK_reg1 (fun R hR => by simp [h27]; exact hR) ?_
          refine hI3 (n - (j + 1)) _ _ (by omega) ⟨rfl, rfl, by simp [h2, h6, h7, h19, h20, h21, h25, h26], by simp [h2, h6, h7, h19, h20, h21, h25, h26], by simp [h2, h6, h7, h19, h20, h21, h25, h26], by simp [h2, h6, h7, h19, h20, h21, h25, h26], by simp [h2, h6, h7, h19, h20, h21, h25, h26], by simp [h2, h6, h7, h19, h20, h21, h25, h26], by simp [h2, h6, h7, h19, h20, h21, h25, h26], by simp [h2, h6, h7, h19, h20, h21, h25, h26], rfl, j + 1, by simp [i64_succ j (by omega)], rfl, by omega, ?_⟩
          rw [hy1]
          exact hnx2 (fun hh => hqe hh.2)
        have a1' : IntKind.i64.wrap y1 = y1 := by rw [← hqe]; exact a1
        have hch3 := hsn hqe (fun q hq => hno' q hq)
        obtain ⟨pv', Wb, k1, k2, k3, k4⟩ := grow_push (t := 31) (el := 3) und31 inf3 is3 z3 rfl (by rw [by3]; omega) hgr (fun b _ => by omega) (by omega) (.int .i64 (j : Int)) rfl
        have hEb : Ext W1 Wb := ⟨by have := hEa.1; omega, fun b hb hk => by rw [k4.2 b (by have := hEa.1; omega) (by omega)]; exact hEa.2 b hb hk⟩
        have hJ3' : ∀ (A' : AAct), A'.n = 66 → A'.defers = [] → A'.tmps.get 6 = some bs → A'.tmps.get 19 = some v → A'.tmps.get 20 = some (.int .i64 (n : Int)) → A'.tmps.get 21 = some (.int .i64 (ps.length : Int)) → A'.tmps.get 2 = some pv' → A'.tmps.get 7 = some (.int .u64 (t ||| 1 <<< j : Nat)) → Q3 (.exit 2) A' Wb := fun A' f1 f2 f3 f4 f5 f6 f7 f8 =>
          hJ3 A' Wb ⟨f1, f2, f3, f4, f5, hEb, f6, j, pv', f7, f8, hch3, by
            have e : natsV (ps ++ [j]) = natsV ps ++ [.int .i64 (j : Int)] := by simp [natsV]
            rw [e]; exact k3.mono (fun b hb => by have := hEa.1; omega)⟩
        generalize t ||| 1 <<< j = sj at ld2 ix2 hor hJ3'
        generalize 1 <<< j = oj at hor o1
        try simp only [wpK_assoc]
        refine wpK_dn (wr := Tr.nil |>.set 32 0 |>.set 33 1 |>.set 34 2 |>.set 35 3 |>.set 36 4 |>.set 37 5 |>.set 38 6 |>.set 39 7 |>.set 40 8 |>.set 41 9 |>.set 42 10 |>.set 43 11 |>.set 44 12 |>.set 45 13 |>.set 46 14 |>.set 47 15 |>.set 48 16 |>.set 49 17 |>.set 50 18 |>.set 51 19) (bits := Tr.nil.lay 0 [0, 0, 3, 7, 15, 31, 31, 31, 31, 287, 927, 2015, 4063, 8191, 31, 31, 49183, 114719, 262143, 524287]) (ord := [0, 1, 2, 3, 4, 5, 6, 7, 8, 9, 10, 11, 12, 13, 14, 15, 16, 17, 18, 19]) (by kernel_rfl) (by kernel_rfl) (by kernel_rfl) (fun G hG => by
          simp [h7, aEnter, fun60, short_other, aCallV]
          rw [dcallS_none]
          refine (has_is hb (by omega) (by omega) Wa).mono ?_
          rintro _ W9 ⟨e9, rfl⟩; subst W9
          simp [h6, h7, aEnter, fun68, short_other, aCallV]
          rw [dcallS_none]
          refine (o1 Wa).mono ?_
          rintro _ W9 ⟨e9, rfl⟩; subst W9
          simp [h6, h7, hor, ix1, ix2, ld1, ld2, a1, a1', hqe]
          exact hG) ?_
        try simp only [wpK_assoc]
        first | refine wpK_onT (by simp []) ?_ | refine wpK_outT (by simp []) ?_ | refine wpK_condT (by simp []) ?_ | refine wpK_endT (by simp []) ?_
        try simp only [wpK_assoc]
        refine wpK_reg (fun R hR => by simp [h2, bs31, k1]; exact hR) ?_
        try simp only [wpK_assoc]
        refine wpK_reg (fun R hR => by
            simp [h7, hor, aEnter, fun68, short_other, aCallV]; rw [callS_none]
            refine (o1 Wb).mono ?_
            rintro _ W9 ⟨e9, rfl⟩; subst W9
            simp [h7, hor]; exact hR) ?_
        refine wpK_exit ?_
        simp only [leaves_exit, behind_exit]
        rw [if_neg (by omega)]
        exact hJ3' _ rfl rfl (by simp [h6]) (by simp [h19]) (by simp [h20]) (by simp [h21]) (by simp) (by simp)
    · rintro A' W' hf; exact hf.elim
    · rintro ⟨tm, n, ds⟩ Wc ⟨hn, hd, h6, h19, h20, hEc, h21, x, pv', h2, h7, hch2, hgr2⟩
      simp only at hn hd h6 h19 h20
      subst hn; subst hd
      simp only at h21 h2 h7
      simp only [leaves_normal, behind_normal]
      try simp only [wpK_assoc]
      refine wpK_reg1 (fun R hR => by simp [h21]; exact hR) ?_
      refine hI (n - (ps.length + 1)) _ _ (by omega) ⟨rfl, rfl, by simp [h6, h19, h20], by simp [h6, h19, h20], by simp [h6, h19, h20], hEc, ps ++ [x], pv', by simp [i64_succ ps.length (by omega)], by simp [h2], by rw [htk1]; simp [h7], by simp, by simp; omega, hch2, by simpa using hgr2⟩
  · rintro A' W' hf; exact hf.elim
  · rintro ⟨tm, n, ds⟩ W9 ⟨hn, hd, h6, h19, h20, hE9, ps, pv, h2, hpl, hch, hgr⟩
    simp only at hn hd h6 h19 h20
    subst hn; subst hd
    simp only at h2
    have ld := varI_load (hVb.ext hE9) (i := 0) (by omega)
    have ix : aIndexAddr T0 62 bs (.int .i64 0) = some (.pointer (some ⟨pb, 0, none⟩)) := by rw [hbs]; exact ixB pb N (2 * N) 0 .i64 hN0
    have vps := row_eq (natsV_row hgr)
    try simp only [wpK_assoc]
    refine wpK_dn (wr := Tr.nil |>.set 62 0 |>.set 63 1 |>.set 64 2 |>.set 65 3 |>.set 2 4 |>.set 3 5 |>.set 4 6) (bits := Tr.nil.lay 0 [0, 0, 2, 6, 1, 31, 63]) (ord := [0, 1, 2, 3, 4, 5, 6]) (by kernel_rfl) (by kernel_rfl) (by kernel_rfl) (fun G hG => by
      simp [h2, h6, ix, ld, vps]
      exact hG) ?_
    exact wpK_ret ⟨.inr rfl, rfl, [pv, .int .i64 (gI Bs 0), .int .i64 0], by simp, hE1.trans hE9, pv, ps, gI Bs, rfl, ⟨by omega, by rw [← hn]; exact hB, by rw [← hn]; exact hch, by omega, by omega⟩, hgr.mono (fun b hb => by have := hE1.1; omega)⟩

end Go.Proofs.YtdpnplanohgecaaDoor

open Go Go.Eng
namespace Go.Proofs.YtdpnplanohgecaaDoor
attribute [local congr] undef_congr WpK.congr WpS.congr WpL.congr WpC.congr WpF.congr gotS.congr callS.congr nextS.congr wantS.congr condS.congr
attribute [local irreducible] WpK
attribute [local simp] WpDr_nil WpDr_cons atS_some dwantS_true dwantS_false kindS_light kindS_float kindS_heavy lightS_value floatS_some heavyS_value heavyS_skip heavyS_enter dcallS_some doneS_eq
  isLight isFloat isPlain dLook testBit_dec dChain dLights_nil dLights_skip dLights_one dLight_nil dLight_cons dFreshes_nil dFreshes_one oneF_none oneF_some dFresh_nil dFresh_cons oneL_some oneW_true oneW_false sameV_value dPut dMay valEq arrEq listEq List.getElem?_cons Tr.get_nil dEnd
attribute [local simp] WpS_nil WpS_cons isDefer undef_false wantS_true wantS_false nextS_value nextS_skip nextS_enter callS_some gotS_some aWanted aOp aEvalF aEval opMove opAssign opPick aVal flat flat1 AAct.put opBinOp opConvert opIndex Tr.get_set Tr.get_lay aBin aResults tupled
  aCall aVals aCallB blt_dec ble_dec beq_dec aBinI_add aBinI_sub aBinI_lss aBinI_leq aBinI_gtr aBinI_geq aBinI_eql aBinI_neq index_str len_str len_slice Nat.beq_refl Nat.beq_refl
  opBox opLoad opFieldAddr opIndexAddr acells aAddr opExtract aExtract opUnOp opAlloc opStore opMakeInterface opNilCheck opBuild aParts opBuildSlice aValW
attribute [local simp] und2 und3 und4 und5 und9 und12 field13_0 field13_1 und21 und22 field23_0 field23_1 field24_0 field24_1 field25_0 field25_1 und28 und31 field34_0 field34_1 field34_2 field35_0 field35_1 field35_2 und46 field50_0 field50_1 field50_2 und55 und56 und58 und61 und62 und73 und75 und90 und94 und95 und96 field97_0 field97_1 field97_2 field97_3 field97_4 field97_5 field97_6 field98_0 field98_1 field98_2 field98_3 field98_4 field98_5 field98_6 und99 und106 field107_0 field107_1 field108_0 field108_1 und119 und122 field124_0 field124_1 field124_2 field125_0 field125_1 field125_2 field131_0 field131_1 field132_0 field132_1 und133 field134_0 field134_1 field135_0 field135_1 und148 und156 und160
set_option maxHeartbeats 4000000
set_option linter.unusedSimpArgs false
set_option linter.unusedVariables false
/-! ### prices: what they come to -/
theorem int_at31 {W : AW} {v : Value} {l : List Int} (h : IntR W v l) {i : Nat} {x : Int} (hi : l[i]? = some x) : ∃ b p, aIndexAddr T0 31 v (.int .i64 (i : Int)) = some (.pointer (some ⟨b, p, none⟩)) ∧ aLoadVar T0 W 3 b p = some (.int .i64 x) ∧ W.Has b p (.int .i64 x) := by
  obtain ⟨b, p, h1, h2, h3⟩ := h.int1 (T := T0) hi und31 sz3 und3 rfl
  exact ⟨b, p, h1, h3, h2⟩
def pOf (ps : List Nat) (i : Nat) : Nat := ps.getD i 0
theorem nat_some {ps : List Nat} {i : Nat} (h : i < ps.length) : (ps.map Int.ofNat)[i]? = some ((pOf ps i : Nat) : Int) := by
  rw [List.getElem?_map, pOf, List.getD_eq_getElem?_getD, List.getElem?_eq_getElem h]; rfl
/-- the greatest prices that there can be -/
noncomputable def topV (ll : List (List Int)) (ps : List Nat) (j : Nat) : Int := gainD ll.length (mAt ll) (pOf ps) (ll.length - 1) j
/-- within a round: persons before i are done, and person i for the posts before j -/
structure Rounds (ll : List (List Int)) (ps : List Nat) (vs : List Int) (r i j : Nat) : Prop where
  len : vs.length = ll.length
  low : ∀ q, q < ll.length → 0 ≤ gI vs q ∧ gI vs q ≤ topV ll ps q
  part : ∀ q, q < ll.length → gainM (mAt ll) (pOf ps) (gainD ll.length (mAt ll) (pOf ps) r) (if q < j then i + 1 else i) q ≤ gI vs q
theorem gain_le {ll : List (List Int)} (hok : OffOk ll) {ps : List Nat} (hp : PermN ll.length (pOf ps)) {i j : Nat} (hi : i < ll.length) (hj : j < ll.length) : gain (mAt ll) (pOf ps) i j ≤ 2000000 ∧ -2000000 ≤ gain (mAt ll) (pOf ps) i j := by
  have h1 := hok.bound hi hj
  have h2 := hok.bound hi (hp.1 i hi)
  simp only [gain]; omega
theorem topV_le {ll : List (List Int)} (hok : OffOk ll) {ps : List Nat} (hp : PermN ll.length (pOf ps)) {j : Nat} (hj : j < ll.length) : topV ll ps j ≤ 22000000 := by
  have := gainD_bound (n := ll.length) (c := mAt ll) (p := pOf ps) (B := 2000000) (fun i j hi hj => (gain_le hok hp hi hj).1) (by omega) hj (fun i hi => hp.1 i hi) (ll.length - 1)
  have h12 := hok.2.1
  have e : ((ll.length - 1 : Nat) : Int) ≤ 11 := by omega
  simp only [topV]; omega
theorem topV_closed {ll : List (List Int)} (hok : OffOk ll) {ps : List Nat} {B : Nat → Int} (ha : IsAssign ll ps B) {i j : Nat} (hi : i < ll.length) (hj : j < ll.length) : topV ll ps (pOf ps i) + gain (mAt ll) (pOf ps) i j ≤ topV ll ps j := by
  have h12 := hok.2.1
  have hp : PermN ll.length (pOf ps) := ha.2.2.1.perm ha.1
  exact gainD_closed (by omega) hp (fun q hq => by
    have h1 := ha.2.1.most (by omega) hq
    have h2 := ha.2.2.1.worth ha.2.1 ha.1 (by omega)
    show worthN ll.length (mAt ll) q ≤ worthN ll.length (mAt ll) (fun i => ps.getD i 0)
    omega) hi hj
theorem Rounds.start {ll : List (List Int)} {ps : List Nat} {vs : List Int} (h1 : vs.length = ll.length) (h2 : ∀ q, gI vs q = 0) : Rounds ll ps vs 0 0 0 where
  len := h1
  low := fun q hq => by rw [h2]; exact ⟨Int.le_refl _, gainD_mono (r := 0) (by omega) q⟩
  part := fun q hq => by rw [h2]; simp [gainM, gainD]
theorem Rounds.upd {ll : List (List Int)} (hok : OffOk ll) {ps : List Nat} {B : Nat → Int} (ha : IsAssign ll ps B) {vs : List Int} {r i j : Nat} (h : Rounds ll ps vs r i j) (hi : i < ll.length) (hj : j < ll.length) :
    Rounds ll ps (vs.set j (max (gI vs j) (gI vs (pOf ps i) + mAt ll i j - mAt ll i (pOf ps i)))) r i (j + 1) := by
  have hp : PermN ll.length (pOf ps) := ha.2.2.1.perm ha.1
  have hpi := hp.1 i hi
  have hcl := topV_closed hok ha hi hj
  have hg : gain (mAt ll) (pOf ps) i j = mAt ll i j - mAt ll i (pOf ps i) := rfl
  have hl := h.len
  refine ⟨by simp [h.len], fun q hq => ?_, fun q hq => ?_⟩
  · rw [gI_set (by omega)]
    by_cases e : q = j
    · rw [if_pos e, e]
      have a := h.low j hj
      have b := h.low (pOf ps i) hpi
      omega
    · rw [if_neg e]; exact h.low q hq
  · rw [gI_set (by omega)]
    by_cases e : q = j
    · subst e
      rw [if_pos rfl, if_pos (Nat.lt_succ_self _)]
      have a := h.part q hq
      rw [if_neg (Nat.lt_irrefl _)] at a
      have b := h.part (pOf ps i) hpi
      have b2 := gainM_ge (c := mAt ll) (p := pOf ps) (r := gainD ll.length (mAt ll) (pOf ps) r) (j := pOf ps i) (m := if pOf ps i < q then i + 1 else i)
      simp only [gainM]; omega
    · rw [if_neg e]
      have a := h.part q hq
      by_cases hlt : q < j
      · rw [if_pos hlt] at a; rw [if_pos (by omega)]; exact a
      · rw [if_neg hlt] at a; rw [if_neg (by omega)]; exact a
theorem Rounds.row {ll : List (List Int)} {ps : List Nat} {vs : List Int} {r i : Nat} (h : Rounds ll ps vs r i ll.length) : Rounds ll ps vs r (i + 1) 0 :=
  ⟨h.len, h.low, fun q hq => by have := h.part q hq; rw [if_pos hq] at this; rw [if_neg (by omega)]; exact this⟩
theorem Rounds.round {ll : List (List Int)} {ps : List Nat} {vs : List Int} {r : Nat} (h : Rounds ll ps vs r ll.length 0) : Rounds ll ps vs (r + 1) 0 0 :=
  ⟨h.len, h.low, fun q hq => by have := h.part q hq; rw [if_neg (by omega)] at this; rw [if_neg (by omega)]; exact this⟩
theorem Rounds.rest {ll : List (List Int)} {ps : List Nat} {vs : List Int} (h : Rounds ll ps vs ll.length 0 0) : ∀ q, q < ll.length → gI vs q = topV ll ps q := fun q hq => by
  have h1 := h.part q hq
  rw [if_neg (by omega)] at h1
  have h2 := (h.low q hq).2
  have h3 := gainD_mono (n := ll.length) (c := mAt ll) (p := pOf ps) (show ll.length - 1 ≤ ll.length by omega) q
  simp only [gainM] at h1
  simp only [topV] at h2 ⊢; omega

end Go.Proofs.YtdpnplanohgecaaDoor

open Go Go.Eng
namespace Go.Proofs.YtdpnplanohgecaaDoor
attribute [local congr] undef_congr WpK.congr WpS.congr WpL.congr WpC.congr WpF.congr gotS.congr callS.congr nextS.congr wantS.congr condS.congr
attribute [local irreducible] WpK
attribute [local simp] WpDr_nil WpDr_cons atS_some dwantS_true dwantS_false kindS_light kindS_float kindS_heavy lightS_value floatS_some heavyS_value heavyS_skip heavyS_enter dcallS_some doneS_eq
  isLight isFloat isPlain dLook testBit_dec dChain dLights_nil dLights_skip dLights_one dLight_nil dLight_cons dFreshes_nil dFreshes_one oneF_none oneF_some dFresh_nil dFresh_cons oneL_some oneW_true oneW_false sameV_value dPut dMay valEq arrEq listEq List.getElem?_cons Tr.get_nil dEnd
attribute [local simp] WpS_nil WpS_cons isDefer undef_false wantS_true wantS_false nextS_value nextS_skip nextS_enter callS_some gotS_some aWanted aOp aEvalF aEval opMove opAssign opPick aVal flat flat1 AAct.put opBinOp opConvert opIndex Tr.get_set Tr.get_lay aBin aResults tupled
  aCall aVals aCallB blt_dec ble_dec beq_dec aBinI_add aBinI_sub aBinI_lss aBinI_leq aBinI_gtr aBinI_geq aBinI_eql aBinI_neq index_str len_str len_slice Nat.beq_refl Nat.beq_refl
  opBox opLoad opFieldAddr opIndexAddr acells aAddr opExtract aExtract opUnOp opAlloc opStore opMakeInterface opNilCheck opBuild aParts opBuildSlice aValW
attribute [local simp] und2 und3 und4 und5 und9 und12 field13_0 field13_1 und21 und22 field23_0 field23_1 field24_0 field24_1 field25_0 field25_1 und28 und31 field34_0 field34_1 field34_2 field35_0 field35_1 field35_2 und46 field50_0 field50_1 field50_2 und55 und56 und58 und61 und62 und73 und75 und90 und94 und95 und96 field97_0 field97_1 field97_2 field97_3 field97_4 field97_5 field97_6 field98_0 field98_1 field98_2 field98_3 field98_4 field98_5 field98_6 und99 und106 field107_0 field107_1 field108_0 field108_1 und119 und122 field124_0 field124_1 field124_2 field125_0 field125_1 field125_2 field131_0 field131_1 field132_0 field132_1 und133 field134_0 field134_1 field135_0 field135_1 und148 und156 und160
set_option maxHeartbeats 4000000
set_option linter.unusedSimpArgs false
set_option linter.unusedVariables false
/-! ### prices: the walk -/
theorem prices_err {W : AW} {v : Value} {ll : List (List Int)} (h : MatIn W v ll) (hl : ll.length < 9223372036854775808) (hr : ∀ r ∈ ll, r.length < 9223372036854775808) (he : offE ll ≠ 0) : WpF T0 36 [v] W (fun u W' => W' = W ∧ u = .tuple ⟨[.slice none 0 0, .slice none 0 0, .int .i64 (offE ll)]⟩) := by
  refine wpF fun36 rfl ?_
  try simp only [wpK_assoc]
  refine wpK_reg (fun R hR => by simp []; exact hR) ?_
  try simp only [wpK_assoc]
  refine wpK_reg (fun R hR => by
      simp [opExtract, aExtract, aEnter, fun35, short_other, aCallV]; rw [callS_none]
      refine (assign_err h hl hr he).mono ?_
      rintro _ W9 ⟨e9, rfl⟩; subst W9
      simp [opExtract, aExtract]; exact hR) ?_
  try simp only [wpK_assoc]
  refine wpK_reg (fun R hR => by simp [he]; exact hR) ?_
  try simp only [wpK_assoc]
  first | refine wpK_onT (by simp []) ?_ | refine wpK_outT (by simp []) ?_ | refine wpK_condT (by simp []) ?_ | refine wpK_endT (by simp []) ?_
  try simp only [wpK_assoc]
  refine wpK_reg (fun R hR => by simp []; exact hR) ?_
  exact wpK_ret ⟨.inr rfl, rfl, [.slice none 0 0, .slice none 0 0, .int .i64 (offE ll)], by simp, rfl, rfl⟩
structure IsPrices (ll : List (List Int)) (ps : List Nat) (B : Nat → Int) (us vs : List Int) : Prop where
  asg : IsAssign ll ps B
  ul : us.length = ll.length
  vl : vs.length = ll.length
  top : ∀ q, q < ll.length → gI vs q = topV ll ps q
  us : ∀ i, i < ll.length → gI us i = mAt ll i (pOf ps i) - gI vs (pOf ps i)
theorem topV_ge {ll : List (List Int)} {ps : List Nat} (q : Nat) : 0 ≤ topV ll ps q := gainD_mono (r := 0) (by omega) q
theorem prices_ok {W : AW} {v : Value} {ll : List (List Int)} (h : MatIn W v ll) (hr : ∀ r ∈ ll, r.length < 9223372036854775808) (hok : OffOk ll) :
    WpF T0 36 [v] W (fun u W' => Ext W W' ∧ ∃ pu pv us vs ps B, W.next ≤ pu ∧ W.next ≤ pv ∧ pu ≠ pv ∧ u = .tuple ⟨[.slice (some ⟨pu, 0, none⟩) ll.length (2 * ll.length), .slice (some ⟨pv, 0, none⟩) ll.length (2 * ll.length), .int .i64 0]⟩ ∧ IsPrices ll ps B us vs ∧ Var W' pu 2 (vI us) ∧ Var W' pv 2 (vI vs)) := by
  obtain ⟨A, c, hv⟩ := mat_len h
  obtain ⟨n, hn⟩ : ∃ n, n = ll.length := ⟨_, rfl⟩
  have hn12 : n ≤ 12 := by have := hok.2.1; omega
  have hn1 : 1 ≤ n := by have := hok.1; omega
  have lv : ∀ W', aLen T0 W' 61 v = some (.int .i64 (n : Int)) := fun W' => by rw [hv, hn]; exact len_slice und61 _ _ _
  rw [← hn]
  refine wpF fun36 rfl ?_
  try simp only [wpK_assoc]
  refine wpK_reg (fun R hR => by simp []; exact hR) ?_
  try simp only [wpK_assoc]
  refine wpK_x3 (P := fun (pvv : Value) (ps : List Nat) (B : Nat → Int) W' => Ext W W' ∧ IsAssign ll ps B ∧ GrowsN W' pvv ps.length (natsV ps) 3 1 (fun b => W.next ≤ b)) (fun R hR => by
    simp [aEnter, fun35, short_other, aCallV]; rw [callS_none]
    refine (assign_ok h hr hok).mono ?_
    rintro _ W1 ⟨hE1, pvv, ps, B, rfl, hA, hG⟩
    simp [opExtract, aExtract]
    exact hR pvv ps B W1 (And.intro hE1 (And.intro hA hG))) ?_
  rintro pvv ps B W1 ⟨hE1, hA, hG⟩
  have hrow := natsV_row hG
  have hpl : ps.length = n := by rw [hn]; exact hA.1
  have hp : PermN ll.length (pOf ps) := hA.2.2.1.perm hA.1
  try simp only [wpK_assoc]
  refine wpK_reg (fun R hR => by simp []; exact hR) ?_
  try simp only [wpK_assoc]
  first | refine wpK_onF (by simp []) ?_ | refine wpK_out (by simp []) ?_ | refine wpK_condF (by simp []) ?_ | refine wpK_endF (by simp []) (wpK_skip ?_) | refine wpK_endF (by simp []) ?_
  obtain ⟨Wa, hWa, hEa, hna, hVa⟩ : ∃ Wa, Wa = W1.newCells 2 (vI (List.replicate n 0)) ∧ Ext W1 Wa ∧ Wa.next = W1.next + 1 ∧ Var Wa W1.next 2 (vI (List.replicate n 0)) := ⟨_, rfl, .newCells _ _ _, rfl, Var.new _ _ _⟩
  obtain ⟨Wb, hWb, hEb, hnb, hVb⟩ : ∃ Wb, Wb = Wa.newCells 2 (vI (List.replicate n 0)) ∧ Ext Wa Wb ∧ Wb.next = Wa.next + 1 ∧ Var Wb Wa.next 2 (vI (List.replicate n 0)) := ⟨_, rfl, .newCells _ _ _, rfl, Var.new _ _ _⟩
  have f1 : freshB Wb W1.next 2 (vI (List.replicate n 0)) = true := freshB_var (hVa.ext hEb) (vI_eq _)
  have f2 : freshB Wb Wa.next 2 (vI (List.replicate n 0)) = true := freshB_var hVb (vI_eq _)
  have hmk := fun ρ l c => flt62 (ρ := ρ) (l := l) (c := c) n (by omega)
  try simp only [wpK_assoc]
  refine wpK_dn (wr := Tr.nil |>.set 22 0 |>.set 23 1 |>.set 24 2 |>.set 25 3 |>.set 26 4 |>.set 27 5 |>.set 2 6 |>.set 3 7) (bits := Tr.nil.lay 0 [0, 1, 3, 0, 8, 24, 7, 127]) (ord := [0, 1, 2, 3, 4, 5, 6, 7]) (by kernel_rfl) (by kernel_rfl) (by kernel_rfl) (fun G hG => by
    simp [lv, hmk, AFlt.val, ← hWa, ← hWb, f1, f2]
    exact hG) ?_
  have hVa2 := hVa.ext hEb
  have hE1b := hEa.trans hEb
  obtain ⟨pu, hpu⟩ : ∃ p, p = W1.next := ⟨_, rfl⟩
  obtain ⟨pv, hpv⟩ : ∃ p, p = Wa.next := ⟨_, rfl⟩
  rw [← hpu] at hVa2
  rw [← hpv] at hVb
  obtain ⟨su, hsu⟩ : ∃ s : Value, s = .slice (some ⟨pu, 0, none⟩) n (2 * n) := ⟨_, rfl⟩
  obtain ⟨sv, hsv⟩ : ∃ s : Value, s = .slice (some ⟨pv, 0, none⟩) n (2 * n) := ⟨_, rfl⟩
  refine wpK_keep (fun tm' => tm'.get 0 = some (v) ∧ tm'.get 2 = some (su) ∧ tm'.get 3 = some (sv) ∧ tm'.get 5 = some (pvv)) ⟨by simp [hsu, hsv, hpu, hpv], by simp [hsu, hsv, hpu, hpv], by simp [hsu, hsv, hpu, hpv], by simp [hsu, hsv, hpu, hpv]⟩ ?_
  rintro tm ⟨h0, h2, h3, h5⟩
  have hW1 : W.next ≤ W1.next := hE1.1
  try simp only [wpK_assoc]
  refine wpK_reg (fun R hR => by simp [h0, lv]; exact hR) ?_
  have hz : ∀ q, gI (List.replicate n 0) q = 0 := fun i => by
    rw [gI, List.getD_eq_getElem?_getD, List.getElem?_replicate]
    split <;> rfl
  try simp only [wpK_assoc]
  refine wpK_while (I := fun k A' W' => A'.n = 102 ∧ A'.defers = [] ∧ A'.tmps.get 0 = some (v) ∧ A'.tmps.get 2 = some (su) ∧ A'.tmps.get 3 = some (sv) ∧ A'.tmps.get 5 = some (pvv) ∧ A'.tmps.get 29 = some (.int .i64 (n : Int)) ∧ Ext W1 W' ∧ Var W' pu 2 (vI (List.replicate n 0)) ∧ ∃ (r : Nat) (vs : List Int), A'.tmps.get 30 = some (.int .i64 (r : Int)) ∧ k = n - r ∧ r ≤ n ∧ Var W' pv 2 (vI vs) ∧ Rounds ll ps vs r 0 0)
    (J := fun A' W' => A'.n = 102 ∧ A'.defers = [] ∧ A'.tmps.get 0 = some (v) ∧ A'.tmps.get 2 = some (su) ∧ A'.tmps.get 3 = some (sv) ∧ A'.tmps.get 5 = some (pvv) ∧ A'.tmps.get 29 = some (.int .i64 (n : Int)) ∧ Ext W1 W' ∧ Var W' pu 2 (vI (List.replicate n 0)) ∧ ∃ vs : List Int, Var W' pv 2 (vI vs) ∧ Rounds ll ps vs n 0 0)
    (Rt := fun _ _ => False) (k := n) ?_ ?_ ?_ ?_
  · exact ⟨rfl, rfl, by simp [h0, h2, h3, h5], by simp [h0, h2, h3, h5], by simp [h0, h2, h3, h5], by simp [h0, h2, h3, h5], by simp [h0, h2, h3, h5], hE1b, hVa2, 0, _, by simp, rfl, by omega, hVb, .start (by simp [hn]) hz⟩
  · rintro k ⟨tm, n, ds⟩ Wc ⟨hn, hd, h0, h2, h3, h5, h29, hEc, hUc, r, vs, h30, hk, hrn, hVc, hRo⟩ Q' hJ hRt hI
    simp only at hn hd h0 h2 h3 h5 h29
    subst hn; subst hd
    simp only at h30
    by_cases hlt : r < n
    case neg =>
      have e : r = n := by omega
      subst e
      try simp only [wpK_assoc]
      refine wpK_reg (fun R hR => by simp [h29, h30]; exact hR) ?_
      try simp only [wpK_assoc]
      first | refine wpK_onF (by simp []) ?_ | refine wpK_out (by simp []) ?_ | refine wpK_condF (by simp []) ?_ | refine wpK_endF (by simp []) (wpK_skip ?_) | refine wpK_endF (by simp []) ?_
      exact hJ _ _ ⟨rfl, rfl, by simp [h0, h2, h3, h5, h29], by simp [h0, h2, h3, h5, h29], by simp [h0, h2, h3, h5, h29], by simp [h0, h2, h3, h5, h29], by simp [h0, h2, h3, h5, h29], hEc, hUc, vs, hVc, hRo⟩
    have hlt' : (r : Int) < n := by omega
    try simp only [wpK_assoc]
    refine wpK_reg (fun R hR => by simp [h29, h30, hlt']; exact hR) ?_
    try simp only [wpK_assoc]
    first | refine wpK_onT (by simp []) ?_ | refine wpK_outT (by simp []) ?_ | refine wpK_condT (by simp []) ?_ | refine wpK_endT (by simp []) ?_
    refine wpK_block ?_
    try simp only [wpK_assoc]
    refine wpK_reg (fun R hR => by simp [h0, lv]; exact hR) ?_
    try simp only [wpK_assoc]
    refine wpK_while1 (I := fun k2 A' W' => A'.n = 102 ∧ A'.defers = [] ∧ A'.tmps.get 0 = some (v) ∧ A'.tmps.get 2 = some (su) ∧ A'.tmps.get 3 = some (sv) ∧ A'.tmps.get 5 = some (pvv) ∧ A'.tmps.get 29 = some (.int .i64 (n : Int)) ∧ A'.tmps.get 30 = some (.int .i64 (r : Int)) ∧ A'.tmps.get 32 = some (v) ∧ A'.tmps.get 33 = some (.int .i64 (n : Int)) ∧ Ext W1 W' ∧ Var W' pu 2 (vI (List.replicate n 0)) ∧ ∃ (i : Nat) (vs : List Int), A'.tmps.get 34 = some (.int .i64 (i : Int)) ∧ k2 = n - i ∧ i ≤ n ∧ Var W' pv 2 (vI vs) ∧ Rounds ll ps vs r i 0)
      (J := fun A' W' => A'.n = 102 ∧ A'.defers = [] ∧ A'.tmps.get 0 = some (v) ∧ A'.tmps.get 2 = some (su) ∧ A'.tmps.get 3 = some (sv) ∧ A'.tmps.get 5 = some (pvv) ∧ A'.tmps.get 29 = some (.int .i64 (n : Int)) ∧ A'.tmps.get 30 = some (.int .i64 (r : Int)) ∧ A'.tmps.get 32 = some (v) ∧ A'.tmps.get 33 = some (.int .i64 (n : Int)) ∧ Ext W1 W' ∧ Var W' pu 2 (vI (List.replicate n 0)) ∧ ∃ vs : List Int, Var W' pv 2 (vI vs) ∧ Rounds ll ps vs r n 0)
      (Rt := fun _ _ => False) (k := n) ?_ ?_ ?_ ?_
    · exact ⟨rfl, rfl, by simp [h0, h2, h3, h5, h29, h30], by simp [h0, h2, h3, h5, h29, h30], by simp [h0, h2, h3, h5, h29, h30], by simp [h0, h2, h3, h5, h29, h30], by simp [h0, h2, h3, h5, h29, h30], by simp [h0, h2, h3, h5, h29, h30], by simp [h0, h2, h3, h5, h29, h30], by simp [h0, h2, h3, h5, h29, h30], hEc, hUc, 0, vs, by simp, rfl, by omega, hVc, hRo⟩
    · rintro k2 ⟨tm, n, ds⟩ Wd ⟨hn, hd, h0, h2, h3, h5, h29, h30, h32, h33, hEd, hUd, i, ws, h34, hk2, hin, hVd, hRd⟩ Q3 hJ3 hRt3 hI3
      simp only at hn hd h0 h2 h3 h5 h29 h30 h32 h33
      subst hn; subst hd
      simp only at h34
      by_cases hli : i < n
      case neg =>
        have e : i = n := by omega
        subst e
        try simp only [wpK_assoc]
        refine wpK_reg (fun R hR => by simp [h33, h34]; exact hR) ?_
        try simp only [wpK_assoc]
        first | refine wpK_onF (by simp []) ?_ | refine wpK_out (by simp []) ?_ | refine wpK_condF (by simp []) ?_ | refine wpK_endF (by simp []) (wpK_skip ?_) | refine wpK_endF (by simp []) ?_
        exact hJ3 _ _ ⟨rfl, rfl, by simp [h0, h2, h3, h5, h29, h30, h32, h33], by simp [h0, h2, h3, h5, h29, h30, h32, h33], by simp [h0, h2, h3, h5, h29, h30, h32, h33], by simp [h0, h2, h3, h5, h29, h30, h32, h33], by simp [h0, h2, h3, h5, h29, h30, h32, h33], by simp [h0, h2, h3, h5, h29, h30, h32, h33], by simp [h0, h2, h3, h5, h29, h30, h32, h33], by simp [h0, h2, h3, h5, h29, h30, h32, h33], hEd, hUd, ws, hVd, hRd⟩
      have hli' : (i : Int) < n := by omega
      try simp only [wpK_assoc]
      refine wpK_reg (fun R hR => by simp [h33, h34, hli']; exact hR) ?_
      try simp only [wpK_assoc]
      first | refine wpK_onT (by simp []) ?_ | refine wpK_outT (by simp []) ?_ | refine wpK_condT (by simp []) ?_ | refine wpK_endT (by simp []) ?_
      have hxr := row_some (ll := ll) (i := i) (by omega)
      obtain ⟨rv, b, p, g1, g2', g3', g4'⟩ := mat_at h hxr
      have g2 : aLoadVar T0 Wd 62 b p = some rv := load_of und62 rfl (g4'.ext (hE1.trans hEd))
      have hrl := hok.2.2.1 _ (List.mem_of_getElem? hxr)
      obtain ⟨A3, c3, hrv⟩ := g3'.len
      have lr : ∀ W', aLen T0 W' 62 rv = some (.int .i64 (n : Int)) := fun W' => by rw [hrv, hrl, ← hn]; exact len_slice und62 _ _ _
      have hrow2 : ∀ j, mAt ll i j = gI (ll.getD i []) j := fun j => rfl
      have hRx : ∀ W', Ext W1 W' → IntR W' rv (ll.getD i []) := fun W' hE => g3'.ext (hE1.trans hE)
      clear g3'
      generalize ll.getD i [] = row at hxr hrl hrow2 hRx
      refine wpK_block ?_
      try simp only [wpK_assoc]
      refine wpK_reg (fun R hR => by simp [h32, h34, g1, g2]; exact hR) ?_
      try simp only [wpK_assoc]
      refine wpK_reg (fun R hR => by simp [lr]; exact hR) ?_
      try simp only [wpK_assoc]
      refine wpK_while1 (I := fun k3 A' W' => A'.n = 102 ∧ A'.defers = [] ∧ A'.tmps.get 0 = some (v) ∧ A'.tmps.get 2 = some (su) ∧ A'.tmps.get 3 = some (sv) ∧ A'.tmps.get 5 = some (pvv) ∧ A'.tmps.get 7 = some (.int .i64 (i : Int)) ∧ A'.tmps.get 8 = some (rv) ∧ A'.tmps.get 29 = some (.int .i64 (n : Int)) ∧ A'.tmps.get 30 = some (.int .i64 (r : Int)) ∧ A'.tmps.get 32 = some (v) ∧ A'.tmps.get 33 = some (.int .i64 (n : Int)) ∧ A'.tmps.get 34 = some (.int .i64 (i : Int)) ∧ A'.tmps.get 39 = some (rv) ∧ A'.tmps.get 40 = some (.int .i64 (n : Int)) ∧ Ext W1 W' ∧ Var W' pu 2 (vI (List.replicate n 0)) ∧ ∃ (j : Nat) (vs : List Int), A'.tmps.get 41 = some (.int .i64 (j : Int)) ∧ k3 = n - j ∧ j ≤ n ∧ Var W' pv 2 (vI vs) ∧ Rounds ll ps vs r i j)
        (J := fun A' W' => A'.n = 102 ∧ A'.defers = [] ∧ A'.tmps.get 0 = some (v) ∧ A'.tmps.get 2 = some (su) ∧ A'.tmps.get 3 = some (sv) ∧ A'.tmps.get 5 = some (pvv) ∧ A'.tmps.get 7 = some (.int .i64 (i : Int)) ∧ A'.tmps.get 8 = some (rv) ∧ A'.tmps.get 29 = some (.int .i64 (n : Int)) ∧ A'.tmps.get 30 = some (.int .i64 (r : Int)) ∧ A'.tmps.get 32 = some (v) ∧ A'.tmps.get 33 = some (.int .i64 (n : Int)) ∧ A'.tmps.get 34 = some (.int .i64 (i : Int)) ∧ A'.tmps.get 39 = some (rv) ∧ A'.tmps.get 40 = some (.int .i64 (n : Int)) ∧ Ext W1 W' ∧ Var W' pu 2 (vI (List.replicate n 0)) ∧ ∃ vs : List Int, Var W' pv 2 (vI vs) ∧ Rounds ll ps vs r i n)
        (Rt := fun _ _ => False) (k := n) ?_ ?_ ?_ ?_
      · exact ⟨rfl, rfl, by simp [h0, h2, h3, h5, h29, h30, h32, h33, h34], by simp [h0, h2, h3, h5, h29, h30, h32, h33, h34], by simp [h0, h2, h3, h5, h29, h30, h32, h33, h34], by simp [h0, h2, h3, h5, h29, h30, h32, h33, h34], by simp [h0, h2, h3, h5, h29, h30, h32, h33, h34], by simp [h0, h2, h3, h5, h29, h30, h32, h33, h34], by simp [h0, h2, h3, h5, h29, h30, h32, h33, h34], by simp [h0, h2, h3, h5, h29, h30, h32, h33, h34], by simp [h0, h2, h3, h5, h29, h30, h32, h33, h34], by simp [h0, h2, h3, h5, h29, h30, h32, h33, h34], by simp [h0, h2, h3, h5, h29, h30, h32, h33, h34], by simp [h0, h2, h3, h5, h29, h30, h32, h33, h34], by simp [h0, h2, h3, h5, h29, h30, h32, h33, h34], hEd, hUd, 0, ws, by simp, rfl, by omega, hVd, hRd⟩
      · rintro k3 ⟨tm, n, ds⟩ We ⟨hn, hd, h0, h2, h3, h5, h7, h8, h29, h30, h32, h33, h34, h39, h40, hEe, hUe, j, xs, h41, hk3, hjn, hVe, hRe⟩ Q4 hJ4 hRt4 hI4
        simp only at hn hd h0 h2 h3 h5 h7 h8 h29 h30 h32 h33 h34 h39 h40
        subst hn; subst hd
        simp only at h41
        by_cases hlj : j < n
        case neg =>
          have e : j = n := by omega
          subst e
          try simp only [wpK_assoc]
          refine wpK_reg (fun R hR => by simp [h40, h41]; exact hR) ?_
          try simp only [wpK_assoc]
          first | refine wpK_onF (by simp []) ?_ | refine wpK_out (by simp []) ?_ | refine wpK_condF (by simp []) ?_ | refine wpK_endF (by simp []) (wpK_skip ?_) | refine wpK_endF (by simp []) ?_
          exact hJ4 _ _ ⟨rfl, rfl, by simp [h0, h2, h3, h5, h7, h8, h29, h30, h32, h33, h34, h39, h40], by simp [h0, h2, h3, h5, h7, h8, h29, h30, h32, h33, h34, h39, h40], by simp [h0, h2, h3, h5, h7, h8, h29, h30, h32, h33, h34, h39, h40], by simp [h0, h2, h3, h5, h7, h8, h29, h30, h32, h33, h34, h39, h40], by simp [h0, h2, h3, h5, h7, h8, h29, h30, h32, h33, h34, h39, h40], by simp [h0, h2, h3, h5, h7, h8, h29, h30, h32, h33, h34, h39, h40], by simp [h0, h2, h3, h5, h7, h8, h29, h30, h32, h33, h34, h39, h40], by simp [h0, h2, h3, h5, h7, h8, h29, h30, h32, h33, h34, h39, h40], by simp [h0, h2, h3, h5, h7, h8, h29, h30, h32, h33, h34, h39, h40], by simp [h0, h2, h3, h5, h7, h8, h29, h30, h32, h33, h34, h39, h40], by simp [h0, h2, h3, h5, h7, h8, h29, h30, h32, h33, h34, h39, h40], by simp [h0, h2, h3, h5, h7, h8, h29, h30, h32, h33, h34, h39, h40], by simp [h0, h2, h3, h5, h7, h8, h29, h30, h32, h33, h34, h39, h40], hEe, hUe, xs, hVe, hRe⟩
        have hlj' : (j : Int) < n := by omega
        try simp only [wpK_assoc]
        refine wpK_reg (fun R hR => by simp [h40, h41, hlj']; exact hR) ?_
        try simp only [wpK_assoc]
        first | refine wpK_onT (by simp []) ?_ | refine wpK_outT (by simp []) ?_ | refine wpK_condT (by simp []) ?_ | refine wpK_endT (by simp []) ?_
        have hRow := hRx We hEe
        have hpi := hp.1 i (by omega)
        have hxl := hRe.len
        obtain ⟨bx, px, x1, x2, _⟩ := int_at hRow (gI_some (l := row) (i := j) (by omega))
        obtain ⟨by', py, y1, y2, _⟩ := int_at hRow (gI_some (l := row) (i := pOf ps i) (by omega))
        obtain ⟨bp, pp, q1, q2, _⟩ := int_at31 (hrow.ext hEe) (nat_some (ps := ps) (i := i) (by omega))
        have i1 := ixB pv n (2 * n) j .i64 hlj
        have i2 := ixB pv n (2 * n) (pOf ps i) .i64 (by omega)
        rw [← hsv] at i1 i2
        have d1 := varI_load hVe (i := j) (by omega)
        have d2 := varI_load hVe (i := pOf ps i) (by omega)
        have b1 := hRe.low j (by omega)
        have b2 := hRe.low (pOf ps i) (by omega)
        have t1 := topV_le hok hp (j := j) (by omega)
        have t2 := topV_le hok hp (j := pOf ps i) (by omega)
        have m1 := hok.bound (i := i) (j := j) (by omega) (by omega)
        have m2 := hok.bound (i := i) (j := pOf ps i) (by omega) (by omega)
        have a1 : IntKind.i64.wrap (gI xs (pOf ps i) + gI row j) = gI xs (pOf ps i) + gI row j := by rw [← hrow2]; exact i64_in (by omega)
        have a2 : IntKind.i64.wrap (gI xs (pOf ps i) + gI row j - gI row (pOf ps i)) = gI xs (pOf ps i) + gI row j - gI row (pOf ps i) := by rw [← hrow2, ← hrow2]; exact i64_in (by omega)
        have hup := hRe.upd hok hA (by omega) (by omega)
        rw [hrow2, hrow2] at hup
        obtain ⟨Wf, s1, s2, s3, s4⟩ := varI_store hVe (i := j) (by omega) (max (gI xs j) (gI xs (pOf ps i) + gI row j - gI row (pOf ps i)))
        have hUf := hUe.only s3 (by omega)
        have hEf : Ext W1 Wf := ⟨by have := hEe.1; omega, fun b hb hk => by rw [s3.2 b (by have := hEe.1; omega) (by omega)]; exact hEe.2 b hb hk⟩
        generalize gI row (pOf ps i) = e3 at y2 a2 hup s1 s4
        generalize hmx : max (gI xs j) (gI xs (pOf ps i) + gI row j - e3) = mx at hup s1 s4
        generalize gI row j = e1 at x2 a1 a2 hmx
        generalize gI xs j = e4 at d1 hmx
        generalize gI xs (pOf ps i) = e2 at d2 a1 a2 hmx
        have vrv := row_eq hRow
        refine wpK_block ?_
        try simp only [wpK_assoc]
        refine wpK_reg (fun R hR => by simp [h39, h41, x1, x2]; exact hR) ?_
        try simp only [wpK_assoc]
        refine wpK_qn (wr := Tr.nil |>.set 46 0 |>.set 47 1 |>.set 48 2 |>.set 49 3 |>.set 50 4 |>.set 51 5 |>.set 52 6 |>.set 53 7 |>.set 54 8 |>.set 55 9 |>.set 56 10 |>.set 57 11 |>.set 58 12 |>.set 59 13 |>.set 60 14 |>.set 61 15 |>.set 62 16 |>.set 63 17 |>.set 64 18 |>.set 65 19 |>.set 66 20 |>.set 67 21 |>.set 68 22 |>.set 69 23 |>.set 70 24) (bits := Tr.nil.lay 0 [0, 0, 0, 0, 12, 28, 0, 0, 0, 384, 896, 1984, 4032, 0, 16320, 0, 0, 0, 196608, 458752, 1015808, 2064384, 4194240, 8388604, 16777215, 33554431]) (ord := [0, 1, 2, 3, 4, 5, 6, 7, 8, 9, 10, 11, 12, 13, 14, 15, 16, 17, 18, 19, 20, 21, 22, 23, 24, 25]) (by kernel_rfl) (by kernel_rfl) (by kernel_rfl) (fun G hG => by
          simp [h3, h5, h7, h8, i1, d1, q1, q2, i2, d2, y1, y2, a1, a2, max_int, hmx, s1, s2]
          exact hG) ?_
        simp only [leaves_normal, behind_normal]
        refine wpK_keep (fun tm' => tm'.get 0 = some (v) ∧ tm'.get 2 = some (su) ∧ tm'.get 3 = some (sv) ∧ tm'.get 5 = some (pvv) ∧ tm'.get 7 = some (.int .i64 (i : Int)) ∧ tm'.get 8 = some (rv) ∧ tm'.get 29 = some (.int .i64 (n : Int)) ∧ tm'.get 30 = some (.int .i64 (r : Int)) ∧ tm'.get 32 = some (v) ∧ tm'.get 33 = some (.int .i64 (n : Int)) ∧ tm'.get 34 = some (.int .i64 (i : Int)) ∧ tm'.get 39 = some (rv) ∧ tm'.get 40 = some (.int .i64 (n : Int)) ∧ tm'.get 41 = some (.int .i64 (j : Int))) ⟨by simp [h0, h2, h3, h5, h7, h8, h29, h30, h32, h33, h34, h39, h40, h41], by simp [h0, h2, h3, h5, h7, h8, h29, h30, h32, h33, h34, h39, h40, h41], by simp [h0, h2, h3, h5, h7, h8, h29, h30, h32, h33, h34, h39, h40, h41], by simp [h0, h2, h3, h5, h7, h8, h29, h30, h32, h33, h34, h39, h40, h41], by simp [h0, h2, h3, h5, h7, h8, h29, h30, h32, h33, h34, h39, h40, h41], by simp [h0, h2, h3, h5, h7, h8, h29, h30, h32, h33, h34, h39, h40, h41], by simp [h0, h2, h3, h5, h7, h8, h29, h30, h32, h33, h34, h39, h40, h41], by simp [h0, h2, h3, h5, h7, h8, h29, h30, h32, h33, h34, h39, h40, h41], by simp [h0, h2, h3, h5, h7, h8, h29, h30, h32, h33, h34, h39, h40, h41], by simp [h0, h2, h3, h5, h7, h8, h29, h30, h32, h33, h34, h39, h40, h41], by simp [h0, h2, h3, h5, h7, h8, h29, h30, h32, h33, h34, h39, h40, h41], by simp [h0, h2, h3, h5, h7, h8, h29, h30, h32, h33, h34, h39, h40, h41], by simp [h0, h2, h3, h5, h7, h8, h29, h30, h32, h33, h34, h39, h40, h41], by simp [h0, h2, h3, h5, h7, h8, h29, h30, h32, h33, h34, h39, h40, h41]⟩ ?_
        rintro tm ⟨h0, h2, h3, h5, h7, h8, h29, h30, h32, h33, h34, h39, h40, h41⟩
        try simp only [wpK_assoc]
        refine wpK_reg1 (fun R hR => by simp [h41]; exact hR) ?_
        exact hI4 (n - (j + 1)) _ _ (by omega) ⟨rfl, rfl, by simp [h0, h2, h3, h5, h7, h8, h29, h30, h32, h33, h34, h39, h40], by simp [h0, h2, h3, h5, h7, h8, h29, h30, h32, h33, h34, h39, h40], by simp [h0, h2, h3, h5, h7, h8, h29, h30, h32, h33, h34, h39, h40], by simp [h0, h2, h3, h5, h7, h8, h29, h30, h32, h33, h34, h39, h40], by simp [h0, h2, h3, h5, h7, h8, h29, h30, h32, h33, h34, h39, h40], by simp [h0, h2, h3, h5, h7, h8, h29, h30, h32, h33, h34, h39, h40], by simp [h0, h2, h3, h5, h7, h8, h29, h30, h32, h33, h34, h39, h40], by simp [h0, h2, h3, h5, h7, h8, h29, h30, h32, h33, h34, h39, h40], by simp [h0, h2, h3, h5, h7, h8, h29, h30, h32, h33, h34, h39, h40], by simp [h0, h2, h3, h5, h7, h8, h29, h30, h32, h33, h34, h39, h40], by simp [h0, h2, h3, h5, h7, h8, h29, h30, h32, h33, h34, h39, h40], by simp [h0, h2, h3, h5, h7, h8, h29, h30, h32, h33, h34, h39, h40], by simp [h0, h2, h3, h5, h7, h8, h29, h30, h32, h33, h34, h39, h40], hEf, hUf, j + 1, _, by simp [i64_succ j (by omega)], rfl, by omega, s4, hup⟩
      · rintro A' W' hf; exact hf.elim
      · rintro ⟨tm, n, ds⟩ We ⟨hn, hd, h0, h2, h3, h5, h7, h8, h29, h30, h32, h33, h34, h39, h40, hEe, hUe, xs, hVe, hRe⟩
        simp only at hn hd h0 h2 h3 h5 h7 h8 h29 h30 h32 h33 h34 h39 h40
        subst hn; subst hd
        simp only [leaves_normal, behind_normal]
        try simp only [wpK_assoc]
        refine wpK_reg1 (fun R hR => by simp [h34]; exact hR) ?_
        exact hI3 (n - (i + 1)) _ _ (by omega) ⟨rfl, rfl, by simp [h0, h2, h3, h5, h29, h30, h32, h33], by simp [h0, h2, h3, h5, h29, h30, h32, h33], by simp [h0, h2, h3, h5, h29, h30, h32, h33], by simp [h0, h2, h3, h5, h29, h30, h32, h33], by simp [h0, h2, h3, h5, h29, h30, h32, h33], by simp [h0, h2, h3, h5, h29, h30, h32, h33], by simp [h0, h2, h3, h5, h29, h30, h32, h33], by simp [h0, h2, h3, h5, h29, h30, h32, h33], hEe, hUe, i + 1, xs, by simp [i64_succ i (by omega)], rfl, by omega, hVe, Rounds.row (by rw [← hn]; exact hRe)⟩
    · rintro A' W' hf; exact hf.elim
    · rintro ⟨tm, n, ds⟩ Wd ⟨hn, hd, h0, h2, h3, h5, h29, h30, h32, h33, hEd, hUd, ws, hVd, hRd⟩
      simp only at hn hd h0 h2 h3 h5 h29 h30 h32 h33
      subst hn; subst hd
      simp only [leaves_normal, behind_normal]
      try simp only [wpK_assoc]
      refine wpK_reg1 (fun R hR => by simp [h30]; exact hR) ?_
      exact hI (n - (r + 1)) _ _ (by omega) ⟨rfl, rfl, by simp [h0, h2, h3, h5, h29], by simp [h0, h2, h3, h5, h29], by simp [h0, h2, h3, h5, h29], by simp [h0, h2, h3, h5, h29], by simp [h0, h2, h3, h5, h29], hEd, hUd, r + 1, ws, by simp [i64_succ r (by omega)], rfl, by omega, hVd, Rounds.round (by rw [← hn]; exact hRd)⟩
  · rintro A' W' hf; exact hf.elim
  rintro ⟨tm, n, ds⟩ Wc ⟨hn, hd, h0, h2, h3, h5, h29, hEc, hUc, vs, hVc, hRo⟩
  simp only at hn hd h0 h2 h3 h5 h29
  subst hn; subst hd
  have hTop := Rounds.rest (by rw [← hn]; exact hRo)
  have hvl := hRo.len
  try simp only [wpK_assoc]
  refine wpK_reg (fun R hR => by simp [h0, lv]; exact hR) ?_
  rw [← hn] at hvl
  try simp only [wpK_assoc]
  refine wpK_while (I := fun k A' W' => A'.n = 102 ∧ A'.defers = [] ∧ A'.tmps.get 2 = some (su) ∧ A'.tmps.get 3 = some (sv) ∧ A'.tmps.get 5 = some (pvv) ∧ A'.tmps.get 74 = some (v) ∧ A'.tmps.get 75 = some (.int .i64 (n : Int)) ∧ Ext W1 W' ∧ Var W' pv 2 (vI vs) ∧ ∃ (i : Nat) (us : List Int), A'.tmps.get 76 = some (.int .i64 (i : Int)) ∧ k = n - i ∧ i ≤ n ∧ us.length = n ∧ Var W' pu 2 (vI us) ∧ ∀ q, q < i → gI us q = mAt ll q (pOf ps q) - gI vs (pOf ps q))
    (J := fun A' W' => A'.n = 102 ∧ A'.defers = [] ∧ A'.tmps.get 2 = some (su) ∧ A'.tmps.get 3 = some (sv) ∧ A'.tmps.get 5 = some (pvv) ∧ A'.tmps.get 74 = some (v) ∧ A'.tmps.get 75 = some (.int .i64 (n : Int)) ∧ Ext W1 W' ∧ Var W' pv 2 (vI vs) ∧ ∃ us : List Int, us.length = n ∧ Var W' pu 2 (vI us) ∧ ∀ q, q < n → gI us q = mAt ll q (pOf ps q) - gI vs (pOf ps q))
    (Rt := fun _ _ => False) (k := n) ?_ ?_ ?_ ?_
  · exact ⟨rfl, rfl, by simp [h0, h2, h3, h5], by simp [h0, h2, h3, h5], by simp [h0, h2, h3, h5], by simp [h0, h2, h3, h5], by simp [h0, h2, h3, h5], hEc, hVc, 0, _, by simp, rfl, by omega, by simp, hUc, fun q hq => by omega⟩
  · rintro k ⟨tm, n, ds⟩ Wd ⟨hn, hd, h2, h3, h5, h74, h75, hEd, hVd, i, us, h76, hk, hin, hul, hUd, hus⟩ Q' hJ hRt hI
    simp only at hn hd h2 h3 h5 h74 h75
    subst hn; subst hd
    simp only at h76
    by_cases hlt : i < n
    case neg =>
      have e : i = n := by omega
      subst e
      try simp only [wpK_assoc]
      refine wpK_reg (fun R hR => by simp [h75, h76]; exact hR) ?_
      try simp only [wpK_assoc]
      first | refine wpK_onF (by simp []) ?_ | refine wpK_out (by simp []) ?_ | refine wpK_condF (by simp []) ?_ | refine wpK_endF (by simp []) (wpK_skip ?_) | refine wpK_endF (by simp []) ?_
      exact hJ _ _ ⟨rfl, rfl, by simp [h2, h3, h5, h74, h75], by simp [h2, h3, h5, h74, h75], by simp [h2, h3, h5, h74, h75], by simp [h2, h3, h5, h74, h75], by simp [h2, h3, h5, h74, h75], hEd, hVd, us, hul, hUd, hus⟩
    have hlt' : (i : Int) < n := by omega
    try simp only [wpK_assoc]
    refine wpK_reg (fun R hR => by simp [h75, h76, hlt']; exact hR) ?_
    try simp only [wpK_assoc]
    first | refine wpK_onT (by simp []) ?_ | refine wpK_outT (by simp []) ?_ | refine wpK_condT (by simp []) ?_ | refine wpK_endT (by simp []) ?_
    have hxr := row_some (ll := ll) (i := i) (by omega)
    obtain ⟨rv, b, p, g1, g2', g3', g4'⟩ := mat_at h hxr
    have g2 : aLoadVar T0 Wd 62 b p = some rv := load_of und62 rfl (g4'.ext (hE1.trans hEd))
    have hrl := hok.2.2.1 _ (List.mem_of_getElem? hxr)
    have hrow2 : ∀ j, mAt ll i j = gI (ll.getD i []) j := fun j => rfl
    have hRow : IntR Wd rv (ll.getD i []) := g3'.ext (hE1.trans hEd)
    clear g3'
    generalize ll.getD i [] = row at hxr hrl hrow2 hRow
    have hpi := hp.1 i (by omega)
    obtain ⟨by', py, y1, y2, _⟩ := int_at hRow (gI_some (l := row) (i := pOf ps i) (by omega))
    obtain ⟨bp, pp, q1, q2, _⟩ := int_at31 (hrow.ext hEd) (nat_some (ps := ps) (i := i) (by omega))
    have i1 := ixB pu n (2 * n) i .i64 hlt
    have i2 := ixB pv n (2 * n) (pOf ps i) .i64 (by omega)
    rw [← hsu] at i1
    rw [← hsv] at i2
    have d2 := varI_load hVd (i := pOf ps i) (by omega)
    have b2 := hTop (pOf ps i) hpi
    have t2 := topV_le hok hp (j := pOf ps i) hpi
    have t3 := topV_ge (ll := ll) (ps := ps) (pOf ps i)
    have m2 := hok.bound (i := i) (j := pOf ps i) (by omega) (by omega)
    have a2 : IntKind.i64.wrap (gI row (pOf ps i) - gI vs (pOf ps i)) = gI row (pOf ps i) - gI vs (pOf ps i) := by rw [← hrow2]; exact i64_in (by omega)
    obtain ⟨We, s1, s2, s3, s4⟩ := varI_store hUd (i := i) (by omega) (gI row (pOf ps i) - gI vs (pOf ps i))
    have hVe := hVd.only s3 (by omega)
    have hEe : Ext W1 We := ⟨by have := hEd.1; omega, fun b hb hk => by rw [s3.2 b (by have := hEd.1; omega) (by omega)]; exact hEd.2 b hb hk⟩
    have hnx : ∀ q, q < i + 1 → gI (us.set i (gI row (pOf ps i) - gI vs (pOf ps i))) q = mAt ll q (pOf ps q) - gI vs (pOf ps q) := fun q hq => by
      rw [gI_set (by omega)]
      by_cases e : q = i
      · subst e; rw [if_pos rfl, hrow2]
      · rw [if_neg e]; exact hus q (by omega)
    generalize hdf : gI row (pOf ps i) - gI vs (pOf ps i) = df at a2 s1 s4 hnx
    generalize gI row (pOf ps i) = e1 at y2 hdf
    generalize gI vs (pOf ps i) = e2 at d2 hdf
    refine wpK_block ?_
    try simp only [wpK_assoc]
    refine wpK_reg (fun R hR => by simp [h74, h76, g1, g2]; exact hR) ?_
    try simp only [wpK_assoc]
    refine wpK_qn (wr := Tr.nil |>.set 81 0 |>.set 82 1 |>.set 83 2 |>.set 84 3 |>.set 85 4 |>.set 86 5 |>.set 87 6 |>.set 88 7 |>.set 89 8 |>.set 90 9 |>.set 91 10 |>.set 92 11 |>.set 93 12 |>.set 94 13 |>.set 95 14 |>.set 96 15 |>.set 97 16 |>.set 98 17) (bits := Tr.nil.lay 0 [0, 0, 0, 0, 0, 24, 56, 124, 252, 0, 0, 0, 3072, 7168, 15872, 32256, 65532, 131071, 262143]) (ord := [0, 1, 2, 3, 4, 5, 6, 7, 8, 9, 10, 11, 12, 13, 14, 15, 16, 17, 18]) (by kernel_rfl) (by kernel_rfl) (by kernel_rfl) (fun G hG => by
      simp [h2, h3, h5, q1, q2, y1, y2, i2, d2, hdf, a2, i1, s1, s2]
      exact hG) ?_
    simp only [leaves_normal, behind_normal]
    refine wpK_keep (fun tm' => tm'.get 2 = some (su) ∧ tm'.get 3 = some (sv) ∧ tm'.get 5 = some (pvv) ∧ tm'.get 74 = some (v) ∧ tm'.get 75 = some (.int .i64 (n : Int)) ∧ tm'.get 76 = some (.int .i64 (i : Int))) ⟨by simp [h2, h3, h5, h74, h75, h76], by simp [h2, h3, h5, h74, h75, h76], by simp [h2, h3, h5, h74, h75, h76], by simp [h2, h3, h5, h74, h75, h76], by simp [h2, h3, h5, h74, h75, h76], by simp [h2, h3, h5, h74, h75, h76]⟩ ?_
    rintro tm ⟨h2, h3, h5, h74, h75, h76⟩
    try simp only [wpK_assoc]
    refine wpK_reg1 (fun R hR => by simp [h76]; exact hR) ?_
    exact hI (n - (i + 1)) _ _ (by omega) ⟨rfl, rfl, by simp [h2, h3, h5, h74, h75], by simp [h2, h3, h5, h74, h75], by simp [h2, h3, h5, h74, h75], by simp [h2, h3, h5, h74, h75], by simp [h2, h3, h5, h74, h75], hEe, hVe, i + 1, _, by simp [i64_succ i (by omega)], rfl, by omega, by simp [hul], s4, hnx⟩
  · rintro A' W' hf; exact hf.elim
  · rintro ⟨tm, n, ds⟩ Wd ⟨hn, hd, h2, h3, h5, h74, h75, hEd, hVd, us, hul, hUd, hus⟩
    simp only at hn hd h2 h3 h5 h74 h75
    subst hn; subst hd
    try simp only [wpK_assoc]
    refine wpK_reg (fun R hR => by simp [h2, h3]; exact hR) ?_
    refine wpK_ret ⟨.inr rfl, rfl, [su, sv, .int .i64 0], by simp, hE1.trans hEd, pu, pv, us, vs, ps, B, by omega, by omega, by omega, ?_, ⟨hA, by omega, by omega, hTop, fun i hi => hus i (by omega)⟩, hUd, hVd⟩
    show Value.tuple _ = _
    rw [hsu, hsv]

end Go.Proofs.YtdpnplanohgecaaDoor

open Go Go.Eng
namespace Go.Proofs.YtdpnplanohgecaaDoor
attribute [local congr] undef_congr WpK.congr WpS.congr WpL.congr WpC.congr WpF.congr gotS.congr callS.congr nextS.congr wantS.congr condS.congr
attribute [local irreducible] WpK
attribute [local simp] WpDr_nil WpDr_cons atS_some dwantS_true dwantS_false kindS_light kindS_float kindS_heavy lightS_value floatS_some heavyS_value heavyS_skip heavyS_enter dcallS_some doneS_eq
  isLight isFloat isPlain dLook testBit_dec dChain dLights_nil dLights_skip dLights_one dLight_nil dLight_cons dFreshes_nil dFreshes_one oneF_none oneF_some dFresh_nil dFresh_cons oneL_some oneW_true oneW_false sameV_value dPut dMay valEq arrEq listEq List.getElem?_cons Tr.get_nil dEnd
attribute [local simp] WpS_nil WpS_cons isDefer undef_false wantS_true wantS_false nextS_value nextS_skip nextS_enter callS_some gotS_some aWanted aOp aEvalF aEval opMove opAssign opPick aVal flat flat1 AAct.put opBinOp opConvert opIndex Tr.get_set Tr.get_lay aBin aResults tupled
  aCall aVals aCallB blt_dec ble_dec beq_dec aBinI_add aBinI_sub aBinI_lss aBinI_leq aBinI_gtr aBinI_geq aBinI_eql aBinI_neq index_str len_str len_slice Nat.beq_refl Nat.beq_refl
  opBox opLoad opFieldAddr opIndexAddr acells aAddr opExtract aExtract opUnOp opAlloc opStore opMakeInterface opNilCheck opBuild aParts opBuildSlice aValW
attribute [local simp] und2 und3 und4 und5 und9 und12 field13_0 field13_1 und21 und22 field23_0 field23_1 field24_0 field24_1 field25_0 field25_1 und28 und31 field34_0 field34_1 field34_2 field35_0 field35_1 field35_2 und46 field50_0 field50_1 field50_2 und55 und56 und58 und61 und62 und73 und75 und90 und94 und95 und96 field97_0 field97_1 field97_2 field97_3 field97_4 field97_5 field97_6 field98_0 field98_1 field98_2 field98_3 field98_4 field98_5 field98_6 und99 und106 field107_0 field107_1 field108_0 field108_1 und119 und122 field124_0 field124_1 field124_2 field125_0 field125_1 field125_2 field131_0 field131_1 field132_0 field132_1 und133 field134_0 field134_1 field135_0 field135_1 und148 und156 und160
set_option maxHeartbeats 4000000
set_option linter.unusedSimpArgs false
set_option linter.unusedVariables false
/-! ### an offer of any numbers -/
theorem bs62 (W : AW) (n : Int) : aBuildSlice T0 W 62 1 [(0, .int .i64 n)] = some (.slice (some ⟨W.next, 0, none⟩) 1 2, W.newCells 2 [.int .i64 n]) := by kernel_rfl
theorem bs61 (W : AW) (A : Option Addr) (n c : Nat) : aBuildSlice T0 W 61 1 [(0, .slice A n c)] = some (.slice (some ⟨W.next, 0, none⟩) 1 2, W.newCells 62 [.slice A n c]) := by kernel_rfl
theorem vI_flat (l : List Int) : vI l = flatE (encI .i64) l := by
  induction l with
  | nil => rfl
  | cons a l ih => simp only [vI, flatE, List.map_cons, List.flatMap_cons] at ih ⊢; rw [ih]; rfl
theorem vI_row {W : AW} {v : Value} {l : List Int} {el : TypeId} {K : Nat → Prop} (h : GrowsN W v l.length (vI l) el 1 K) : IntR W v l := by
  rw [vI_flat] at h
  exact GrowsN.row encI_len h
theorem vals_flat (us : List Value) : us = flatE encV us := by
  induction us with
  | nil => rfl
  | cons a l ih => simp only [flatE, List.flatMap_cons] at ih ⊢; rw [← ih]; rfl
theorem vals_row {W : AW} {v : Value} {us : List Value} {el : TypeId} {K : Nat → Prop} (h : GrowsN W v us.length us el 1 K) : RowIn 1 encV W v us := by
  have h' : GrowsN W v us.length (flatE encV us) el 1 K := by rw [← vals_flat]; exact h
  exact GrowsN.row (enc := encV) (l := us) (fun _ => rfl) h'
theorem tmod_in (x : Int) : -1000000 ≤ x.tmod 1000001 ∧ x.tmod 1000001 ≤ 1000000 := by
  have h1 := Int.tmod_lt_of_pos x (show (0 : Int) < 1000001 by omega)
  have h2 := Int.lt_tmod_of_pos x (show (0 : Int) < 1000001 by omega)
  omega
theorem grow_push2 {W : AW} {t el : TypeId} {i : TypeInfo} {z : Value} (ht : T0.und.get t = some (.slice el)) (hi : T0.info.get el = some i) (hs : i.size = 1) (hz : i.zero = some z) (hz1 : (acells z).length = 1) (hb : i.bytes ≤ 24)
    {v : Value} {m : Nat} {l : List Value} {K : Nat → Prop} (h : GrowsN W v m l el 1 K) (hm : m ≤ 100000) (x : Value) (hx : oneCells [x] = true) :
    ∃ v' W', aAppend T0 (W.newCells el [x]) [t, t] [v, .slice (some ⟨W.next, 0, none⟩) 1 2] = some (v', W') ∧ W'.next = W.next + 2 ∧ GrowsN W' v' (m + 1) (l ++ [x]) el 1 (fun b => K b ∨ b = W.next + 1) ∧ Only K W W' := by
  have hE : Ext W (W.newCells el [x]) := .newCells _ _ _
  have hV := Var.new W el [x]
  have hx' : (W.newCells el [x]).cellsAt W.next 0 1 = some [x] := by
    rw [hV.cellsAt 0 1 (by simp)]; rfl
  obtain ⟨v', W', g1, g2, g3, g4⟩ := append_growsN (T := T0) (t := t) (by omega) ht hi hs hz hz1 (h.only (K' := fun _ => False) hE (fun _ _ _ x => x)) (u := [x]) (bx := W.next) (c := 2) rfl hx' hx (by
    have : 2 * (m + 1) * i.bytes ≤ 2 * (m + 1) * 24 := Nat.mul_le_mul_left _ hb
    omega) (by omega)
  refine ⟨v', W', g1, by rw [g2, newCells_next], g3.mono (fun b hb => hb.elim .inl (fun e => .inr (by rw [newCells_next] at e; omega))), ⟨by rw [g2, newCells_next]; omega, fun b hb hk => ?_⟩⟩
  rw [g4.2 b (by rw [newCells_next]; omega) hk, newCells_get, if_neg (by omega)]
/-- rows that have been made, and the list of them -/
structure Made (W W0 : AW) (t : Value) (own : List (List Int)) (n : Nat) (K S : Nat → Prop) : Prop where
  kl : ∀ b, K b → b < W.next ∧ W0.next ≤ b
  sl : ∀ b, S b → b < W.next ∧ W0.next ≤ b ∧ ¬ K b
  ok : ∀ r ∈ own, r.length = n ∧ within 1000000 r
  rows : ∃ us : List Value, us.length = own.length ∧ GrowsN W t own.length us 62 1 K ∧ ∀ (i : Nat) u l, us[i]? = some u → own[i]? = some l → GrowsN W u l.length (vI l) 2 1 S
theorem offer_wp {W : AW} {v : Value} {ll : List (List Int)} (h : MatIn W v ll) (hl : ll.length < 9223372036854775808) (hr : ∀ r ∈ ll, r.length < 9223372036854775808) (m : Nat) (hm : 1 ≤ m ∧ m ≤ 12) :
    WpF T0 41 [v, .int .i64 (m : Int)] W (fun u W' => Ext W W' ∧ ∃ own, MatIn W' u own ∧ OffOk own ∧ own.length ≤ m) := by
  obtain ⟨A, c, hv⟩ := mat_len h
  have lv : ∀ W', aLen T0 W' 61 v = some (.int .i64 ll.length) := fun W' => by rw [hv]; exact len_slice und61 _ _ _
  refine wpF fun41 rfl ?_
  try simp only [wpK_assoc]
  refine wpK_reg (fun R hR => by simp []; exact hR) ?_
  obtain ⟨N, hN⟩ : ∃ N : Nat, N = max 1 (min ll.length m) := ⟨_, rfl⟩
  have hN1 : max 1 (min (ll.length : Int) (m : Int)) = (N : Int) := by omega
  try simp only [wpK_assoc]
  refine wpK_reg (fun R hR => by simp [lv, min_int, max_int, hN1]; exact hR) ?_
  try simp only [wpK_assoc]
  refine wpK_reg (fun R hR => by simp []; exact hR) ?_
  try simp only [wpK_assoc]
  refine wpK_reg (fun R hR => by simp []; exact hR) ?_
  try simp only [wpK_assoc]
  refine wpK_while (I := fun k A' W' => A'.n = 56 ∧ A'.defers = [] ∧ A'.tmps.get 0 = some (v) ∧ A'.tmps.get 5 = some (.int .i64 (N : Int)) ∧ Ext W W' ∧ ∃ (t : Value) (own : List (List Int)) (K S : Nat → Prop), A'.tmps.get 7 = some (.int .i64 (own.length : Int)) ∧ A'.tmps.get 6 = some t ∧ k = N - own.length ∧ own.length ≤ N ∧ Made W' W t own N K S)
    (J := fun A' W' => A'.n = 56 ∧ A'.defers = [] ∧ A'.tmps.get 0 = some (v) ∧ A'.tmps.get 5 = some (.int .i64 (N : Int)) ∧ Ext W W' ∧ ∃ (t : Value) (own : List (List Int)) (K S : Nat → Prop), A'.tmps.get 6 = some t ∧ own.length = N ∧ Made W' W t own N K S)
    (Rt := fun _ _ => False) (k := N) ?_ ?_ ?_ ?_
  · exact ⟨rfl, rfl, by simp, by simp, .refl _ _, .slice none 0 0, [], fun _ => False, fun _ => False, by simp, by simp, rfl, by simp, ⟨fun b hb => hb.elim, fun b hb => hb.elim, fun r hr => by simp at hr, [], rfl, .nil _ _ _ _, fun i u l hu => by simp at hu⟩⟩
  · rintro k ⟨tm, n, ds⟩ Wa ⟨hn, hd, h0, h5, hEa, t, own, K, S, h7, h6, hk, hle, hM⟩ Q' hJ hRt hI
    simp only at hn hd h0 h5
    subst hn; subst hd
    simp only at h7 h6
    by_cases hlt : own.length < N
    case neg =>
      have e : own.length = N := by omega
      have hnl : ¬ (own.length : Int) < N := by omega
      try simp only [wpK_assoc]
      refine wpK_reg (fun R hR => by simp [h5, h7, hnl]; exact hR) ?_
      try simp only [wpK_assoc]
      first | refine wpK_onF (by simp [hlt]) ?_ | refine wpK_out (by simp [hlt]) ?_ | refine wpK_condF (by simp [hlt]) ?_ | refine wpK_endF (by simp [hlt]) (wpK_skip ?_) | refine wpK_endF (by simp [hlt]) ?_
      exact hJ _ _ ⟨rfl, rfl, by simp [h0, h5], by simp [h0, h5], hEa, t, own, K, S, by simp [h6], e, hM⟩
    have hlt' : (own.length : Int) < N := by omega
    try simp only [wpK_assoc]
    refine wpK_reg (fun R hR => by simp [h5, h7, hlt']; exact hR) ?_
    try simp only [wpK_assoc]
    first | refine wpK_onT (by simp [hlt]) ?_ | refine wpK_outT (by simp [hlt]) ?_ | refine wpK_condT (by simp [hlt]) ?_ | refine wpK_endT (by simp [hlt]) ?_
    refine wpK_block ?_
    try simp only [wpK_assoc]
    refine wpK_reg (fun R hR => by simp []; exact hR) ?_
    try simp only [wpK_assoc]
    refine wpK_reg (fun R hR => by simp []; exact hR) ?_
    obtain ⟨i, hi⟩ : ∃ i, i = own.length := ⟨_, rfl⟩
    rw [← hi] at h7
    try simp only [wpK_assoc]
    refine wpK_while (I := fun k A' W' => A'.n = 56 ∧ A'.defers = [] ∧ A'.tmps.get 0 = some (v) ∧ A'.tmps.get 5 = some (.int .i64 (N : Int)) ∧ A'.tmps.get 6 = some (t) ∧ A'.tmps.get 7 = some (.int .i64 (i : Int)) ∧ Only (fun b => Wa.next ≤ b) Wa W' ∧ ∃ (r : List Int) (s : Value) (T : Nat → Prop), A'.tmps.get 9 = some (.int .i64 (r.length : Int)) ∧ A'.tmps.get 8 = some s ∧ k = N - r.length ∧ r.length ≤ N ∧ within 1000000 r ∧ (∀ b, T b → Wa.next ≤ b ∧ b < W'.next) ∧ GrowsN W' s r.length (vI r) 2 1 T)
      (J := fun A' W' => A'.n = 56 ∧ A'.defers = [] ∧ A'.tmps.get 0 = some (v) ∧ A'.tmps.get 5 = some (.int .i64 (N : Int)) ∧ A'.tmps.get 6 = some (t) ∧ A'.tmps.get 7 = some (.int .i64 (i : Int)) ∧ Only (fun b => Wa.next ≤ b) Wa W' ∧ ∃ (r : List Int) (s : Value) (T : Nat → Prop), A'.tmps.get 8 = some s ∧ r.length = N ∧ within 1000000 r ∧ (∀ b, T b → Wa.next ≤ b ∧ b < W'.next) ∧ GrowsN W' s r.length (vI r) 2 1 T)
      (Rt := fun _ _ => False) (k := N) ?_ ?_ ?_ ?_
    · exact ⟨rfl, rfl, by simp [h0, h5, h6, h7], by simp [h0, h5, h6, h7], by simp [h0, h5, h6, h7], by simp [h0, h5, h6, h7], .refl _ _, [], .slice none 0 0, fun _ => False, by simp, by simp, rfl, by simp, fun x hx => by simp at hx, fun b hb => hb.elim, .nil _ _ _ _⟩
    · rintro k2 ⟨tm, n, ds⟩ Wb ⟨hn, hd, h0, h5, h6, h7, hOb, r, s, T, h9, h8, hk2, hrN, hwr, hT, hgr⟩ Q3 hJ3 hRt3 hI3
      simp only at hn hd h0 h5 h6 h7
      subst hn; subst hd
      simp only at h9 h8
      by_cases hlj : r.length < N
      case neg =>
        have e : r.length = N := by omega
        have hnl : ¬ (r.length : Int) < N := by omega
        try simp only [wpK_assoc]
        refine wpK_reg (fun R hR => by simp [h5, h9, hnl]; exact hR) ?_
        try simp only [wpK_assoc]
        first | refine wpK_onF (by simp [hlj]) ?_ | refine wpK_out (by simp [hlj]) ?_ | refine wpK_condF (by simp [hlj]) ?_ | refine wpK_endF (by simp [hlj]) (wpK_skip ?_) | refine wpK_endF (by simp [hlj]) ?_
        exact hJ3 _ _ ⟨rfl, rfl, by simp [h0, h5, h6, h7], by simp [h0, h5, h6, h7], by simp [h0, h5, h6, h7], by simp [h0, h5, h6, h7], hOb, r, s, T, by simp [h8], e, hwr, hT, hgr⟩
      have hlj' : (r.length : Int) < N := by omega
      try simp only [wpK_assoc]
      refine wpK_reg (fun R hR => by simp [h5, h9, hlj']; exact hR) ?_
      try simp only [wpK_assoc]
      first | refine wpK_onT (by simp [hlj]) ?_ | refine wpK_outT (by simp [hlj]) ?_ | refine wpK_condT (by simp [hlj]) ?_ | refine wpK_endT (by simp [hlj]) ?_
      refine wpK_block ?_
      try simp only [wpK_assoc]
      refine wpK_reg (fun R hR => by simp []; exact hR) ?_
      -- the number
      obtain ⟨j, hj⟩ : ∃ j, j = r.length := ⟨_, rfl⟩
      rw [← hj] at h9
      have hEb : Ext Wa Wb := hOb.mono (fun b hb hk => by omega)
      try simp only [wpK_assoc]
      refine wpK_regc (J := fun A' W' => A'.n = 56 ∧ A'.defers = [] ∧ A'.tmps.get 0 = some (v) ∧ A'.tmps.get 5 = some (.int .i64 (N : Int)) ∧ A'.tmps.get 6 = some (t) ∧ A'.tmps.get 7 = some (.int .i64 (i : Int)) ∧ A'.tmps.get 8 = some (s) ∧ A'.tmps.get 9 = some (.int .i64 (j : Int)) ∧ W' = Wb ∧ A'.tmps.get 10 = some (.int .i64 0) ∧ (A'.tmps.get 38 = some (.bool false) ∨ (A'.tmps.get 38 = some (.bool true) ∧ i < ll.length ∧ j < (ll.getD i []).length))) (fun R hR => ?_) ?_
      · by_cases c1 : i < ll.length
        case neg =>
          have c1' : ¬ (i : Int) < ll.length := by omega
          simp [h0, h7, h9, lv, c1', c1]
          exact hR _ _ ⟨rfl, rfl, by simp [h0, h5, h6, h7, h8, h9], by simp [h0, h5, h6, h7, h8, h9], by simp [h0, h5, h6, h7, h8, h9], by simp [h0, h5, h6, h7, h8, h9], by simp [h0, h5, h6, h7, h8, h9], by simp [h0, h5, h6, h7, h8, h9], rfl, by simp, .inl (by simp)⟩
        have c1' : (i : Int) < ll.length := by omega
        obtain ⟨rv, b, p, g1, g2', g3', g4'⟩ := mat_at h (row_some (ll := ll) (i := i) c1)
        have g2 : aLoadVar T0 Wb 62 b p = some rv := load_of und62 rfl (g4'.ext (hEa.trans hEb))
        obtain ⟨A3, c3, hrv⟩ := g3'.len
        have lr : ∀ W', aLen T0 W' 62 rv = some (.int .i64 ((ll.getD i []).length : Int)) := fun W' => by rw [hrv]; exact len_slice und62 _ _ _
        clear g3' hrv
        generalize (ll.getD i []).length = rn at lr hR
        by_cases c2 : j < rn
        · have c2' : (j : Int) < rn := by omega
          simp [h0, h7, h9, lv, c1', c1, g1, g2, lr, c2', c2]
          exact hR _ _ ⟨rfl, rfl, by simp [h0, h5, h6, h7, h8, h9], by simp [h0, h5, h6, h7, h8, h9], by simp [h0, h5, h6, h7, h8, h9], by simp [h0, h5, h6, h7, h8, h9], by simp [h0, h5, h6, h7, h8, h9], by simp [h0, h5, h6, h7, h8, h9], rfl, by simp, .inr ⟨by simp, c1, c2⟩⟩
        · have c2' : ¬ (j : Int) < rn := by omega
          simp [h0, h7, h9, lv, c1', c1, g1, g2, lr, c2', c2]
          exact hR _ _ ⟨rfl, rfl, by simp [h0, h5, h6, h7, h8, h9], by simp [h0, h5, h6, h7, h8, h9], by simp [h0, h5, h6, h7, h8, h9], by simp [h0, h5, h6, h7, h8, h9], by simp [h0, h5, h6, h7, h8, h9], by simp [h0, h5, h6, h7, h8, h9], rfl, by simp, .inl (by simp)⟩
      rintro ⟨tm, n, ds⟩ W9 ⟨hn, hd, h0, h5, h6, h7, h8, h9, e9, h10, hc⟩
      simp only at hn hd h0 h5 h6 h7 h8 h9
      subst hn; subst hd
      subst W9
      simp only at h10 hc
      try simp only [wpK_assoc]
      refine wpK_cut (J := fun A' W' => A'.n = 56 ∧ A'.defers = [] ∧ A'.tmps.get 0 = some (v) ∧ A'.tmps.get 5 = some (.int .i64 (N : Int)) ∧ A'.tmps.get 6 = some (t) ∧ A'.tmps.get 7 = some (.int .i64 (i : Int)) ∧ A'.tmps.get 8 = some (s) ∧ A'.tmps.get 9 = some (.int .i64 (j : Int)) ∧ W' = Wb ∧ ∃ x : Int, A'.tmps.get 10 = some (.int .i64 x) ∧ -1000000 ≤ x ∧ x ≤ 1000000) (fun Q4 hQ4 => ?_) ?_
      · rcases hc with hc | ⟨hc, c1, c2⟩
        · try simp only [wpK_assoc]
          first | refine wpK_onF (by simp [hc]) ?_ | refine wpK_out (by simp [hc]) ?_ | refine wpK_condF (by simp [hc]) ?_ | refine wpK_endF (by simp [hc]) (wpK_skip ?_) | refine wpK_endF (by simp [hc]) ?_
          exact hQ4 _ _ ⟨rfl, rfl, by simp [h0, h5, h6, h7, h8, h9], by simp [h0, h5, h6, h7, h8, h9], by simp [h0, h5, h6, h7, h8, h9], by simp [h0, h5, h6, h7, h8, h9], by simp [h0, h5, h6, h7, h8, h9], by simp [h0, h5, h6, h7, h8, h9], rfl, 0, by simp [h10], by omega, by omega⟩
        obtain ⟨rv, b, p, g1, g2', g3', g4'⟩ := mat_at h (row_some (ll := ll) (i := i) c1)
        have hEWb := hEa.trans hEb
        have g2 : aLoadVar T0 Wb 62 b p = some rv := load_of und62 rfl (g4'.ext hEWb)
        have hRow := g3'.ext hEWb
        generalize ll.getD i [] = row at hRow c2
        obtain ⟨bx, px, x1, x2, _⟩ := int_at hRow (gI_some (l := row) (i := j) c2)
        have hrem := aBinI_rem .i64 (gI row j) 1000001 (by omega)
        have hti := tmod_in (gI row j)
        generalize gI row j = x0 at x2 hrem hti
        try simp only [wpK_assoc]
        first | refine wpK_onT (by simp [hc]) ?_ | refine wpK_outT (by simp [hc]) ?_ | refine wpK_condT (by simp [hc]) ?_ | refine wpK_endT (by simp [hc]) ?_
        try simp only [wpK_assoc]
        refine wpK_reg1 (fun R hR => by simp [h0, h7, h9, g1, g2, x1, x2, hrem]; exact hR) ?_
        exact hQ4 _ _ ⟨rfl, rfl, by simp [h0, h5, h6, h7, h8, h9], by simp [h0, h5, h6, h7, h8, h9], by simp [h0, h5, h6, h7, h8, h9], by simp [h0, h5, h6, h7, h8, h9], by simp [h0, h5, h6, h7, h8, h9], by simp [h0, h5, h6, h7, h8, h9], rfl, _, by simp, hti.1, hti.2⟩
      rintro ⟨tm, n, ds⟩ W9 ⟨hn, hd, h0, h5, h6, h7, h8, h9, e9, x, h10, hx1, hx2⟩
      simp only at hn hd h0 h5 h6 h7 h8 h9
      subst hn; subst hd
      subst W9
      simp only at h10
      obtain ⟨s', Wc, k1, k2, k3, k4⟩ := grow_push2 (t := 62) (el := 2) und62 inf2 is2 z2 rfl (by rw [by2]; omega) hgr (by omega) (.int .i64 x) rfl
      try simp only [wpK_assoc]
      refine wpK_reg1 (fun R hR => by simp [h8, h10, bs62, k1]; exact hR) ?_
      simp only [leaves_normal, behind_normal]
      refine wpK_keep (fun tm' => tm'.get 0 = some (v) ∧ tm'.get 5 = some (.int .i64 (N : Int)) ∧ tm'.get 6 = some (t) ∧ tm'.get 7 = some (.int .i64 (i : Int)) ∧ tm'.get 8 = some (s') ∧ tm'.get 9 = some (.int .i64 (j : Int))) ⟨by simp [h0, h5, h6, h7, h9], by simp [h0, h5, h6, h7, h9], by simp [h0, h5, h6, h7, h9], by simp [h0, h5, h6, h7, h9], by simp [h0, h5, h6, h7, h9], by simp [h0, h5, h6, h7, h9]⟩ ?_
      rintro tm ⟨h0, h5, h6, h7, h8, h9⟩
      try simp only [wpK_assoc]
      refine wpK_reg1 (fun R hR => by simp [h9]; exact hR) ?_
      have hl1 : (r ++ [x]).length = r.length + 1 := by simp
      refine hI3 (N - (r.length + 1)) _ _ (by omega) ⟨rfl, rfl, by simp [h0, h5, h6, h7], by simp [h0, h5, h6, h7], by simp [h0, h5, h6, h7], by simp [h0, h5, h6, h7], hOb.trans (k4.mono (fun b _ hb => (hT b hb).1)), r ++ [x], s', fun b => T b ∨ b = Wb.next + 1, by rw [hl1]; simp [hj, i64_succ r.length (by omega)], by simp [h8], by rw [hl1], by omega, ?_, fun b hb => ?_, ?_⟩
      · intro y hy
        rcases List.mem_append.1 hy with hy | hy
        · exact hwr y hy
        · simp at hy; subst hy; exact ⟨hx1, hx2⟩
      · have := hOb.1
        rcases hb with hb | hb
        · have := hT b hb; omega
        · omega
      · have e : vI (r ++ [x]) = vI r ++ [.int .i64 x] := by simp [vI]
        rw [hl1, e]
        exact k3
    · rintro A' W' hf; exact hf.elim
    · rintro ⟨tm, n, ds⟩ Wb ⟨hn, hd, h0, h5, h6, h7, hOb, r, s, T, h8, hrN, hwr, hT, hgr⟩
      simp only at hn hd h0 h5 h6 h7
      subst hn; subst hd
      simp only at h8
      obtain ⟨A5, c5, hs5⟩ := hgr.len
      obtain ⟨us, hu1, hu2, hu3⟩ := hM.rows
      have hnb := hOb.1
      have hu2b := hu2.only hOb (fun b hb hk => by have := (hM.kl b hk).1; omega)
      obtain ⟨t', Wc, k1, k2, k3, k4⟩ := grow_push2 (W := Wb) (t := 61) (el := 62) und61 inf62 is62 z62 rfl (by rw [by62]; omega) hu2b (by omega) s (by rw [hs5]; rfl)
      have bs := bs61 Wb A5 r.length c5
      rw [← hs5] at bs
      try simp only [wpK_assoc]
      refine wpK_reg1 (fun R hR => by simp [h6, h8, bs, k1]; exact hR) ?_
      simp only [leaves_normal, behind_normal]
      refine wpK_keep (fun tm' => tm'.get 0 = some (v) ∧ tm'.get 5 = some (.int .i64 (N : Int)) ∧ tm'.get 6 = some (t') ∧ tm'.get 7 = some (.int .i64 (i : Int))) ⟨by simp [h0, h5, h7], by simp [h0, h5, h7], by simp [h0, h5, h7], by simp [h0, h5, h7]⟩ ?_
      rintro tm ⟨h0, h5, h6, h7⟩
      try simp only [wpK_assoc]
      refine wpK_reg1 (fun R hR => by simp [h7]; exact hR) ?_
      have hl1 : (own ++ [r]).length = own.length + 1 := by simp
      have hOab : Only (fun b => K b) Wa Wc → True := fun _ => trivial
      refine hI (N - (own.length + 1)) _ _ (by omega) ⟨rfl, rfl, by simp [h0, h5], by simp [h0, h5], ?_, t', own ++ [r], fun b => K b ∨ b = Wb.next + 1, fun b => S b ∨ T b, by rw [hl1, hi]; simp [i64_succ own.length (by omega)], by simp [h6], by rw [hl1], by omega, ?_⟩
      · exact ⟨by have := hEa.1; omega, fun b hb hk => by
          rw [k4.2 b (by have := hEa.1; omega) (fun hK => by have := (hM.kl b hK).2; omega), hOb.2 b (by have := hEa.1; omega) (by have := hEa.1; omega)]
          exact hEa.2 b hb hk⟩
      · have hWa := hEa.1
        have hOac : Only (fun b => K b ∨ Wa.next ≤ b) Wa Wc := ⟨by omega, fun b hb hk => by
          rw [k4.2 b (by omega) (fun hK => hk (.inl hK)), hOb.2 b hb (fun hh => hk (.inr hh))]⟩
        refine ⟨fun b hb => ?_, fun b hb => ?_, fun q hq => ?_, us ++ [s], by simp [hu1], by rw [hl1]; exact k3, fun q u l hu hl2 => ?_⟩
        · rcases hb with hb | hb
          · have := hM.kl b hb; omega
          · omega
        · rcases hb with hb | hb
          · have := hM.sl b hb
            refine ⟨by omega, this.2.1, fun hh => ?_⟩
            rcases hh with hh | hh
            · exact this.2.2 hh
            · omega
          · have := hT b hb
            refine ⟨by omega, by omega, fun hh => ?_⟩
            rcases hh with hh | hh
            · have := (hM.kl b hh).1; omega
            · omega
        · rcases List.mem_append.1 hq with hq | hq
          · exact hM.ok q hq
          · simp at hq; subst hq; exact ⟨hrN, hwr⟩
        · by_cases hq : q < own.length
          · rw [List.getElem?_append_left (by omega)] at hu hl2
            exact ((hu3 q u l hu hl2).only hOac (fun b hb hS hk => by
              rcases hk with hk | hk
              · exact (hM.sl b hS).2.2 hk
              · omega)).mono (fun b hb => .inl hb)
          · rw [List.getElem?_append_right (by omega)] at hu hl2
            have hq0 : q - own.length = 0 := by have := (List.getElem?_eq_some_iff.1 hl2).1; simp at this; omega
            rw [hu1, hq0] at hu
            rw [hq0] at hl2
            cases hu; cases hl2
            exact (hgr.only k4 (fun b hb hS hk => by have := hT b hS; have := (hM.kl b hk).1; omega)).mono (fun b hb => .inr hb)
  · rintro A' W' hf; exact hf.elim
  · rintro ⟨tm, n, ds⟩ Wz ⟨hn, hd, h0, h5, hEz, t, own, K, S, h6, hle, hM⟩
    simp only at hn hd h0 h5
    subst hn; subst hd
    simp only at h6
    try simp only [wpK_assoc]
    refine wpK_reg (fun R hR => by simp [h6]; exact hR) ?_
    obtain ⟨us, hu1, hu2, hu3⟩ := hM.rows
    rw [← hu1] at hu2
    refine wpK_ret ⟨.inr rfl, rfl, [t], by simp, hEz, own, ⟨us, hu1, vals_row hu2, fun i u l hu hl2 => vI_row (hu3 i u l hu hl2)⟩, ⟨by omega, by omega, fun r hr => by rw [hle]; exact (hM.ok r hr).1, fun r hr => (hM.ok r hr).2⟩, by omega⟩

end Go.Proofs.YtdpnplanohgecaaDoor

open Go Go.Eng
namespace Go.Proofs.YtdpnplanohgecaaDoor
attribute [local congr] undef_congr WpK.congr WpS.congr WpL.congr WpC.congr WpF.congr gotS.congr callS.congr nextS.congr wantS.congr condS.congr
attribute [local irreducible] WpK
attribute [local simp] WpDr_nil WpDr_cons atS_some dwantS_true dwantS_false kindS_light kindS_float kindS_heavy lightS_value floatS_some heavyS_value heavyS_skip heavyS_enter dcallS_some doneS_eq
  isLight isFloat isPlain dLook testBit_dec dChain dLights_nil dLights_skip dLights_one dLight_nil dLight_cons dFreshes_nil dFreshes_one oneF_none oneF_some dFresh_nil dFresh_cons oneL_some oneW_true oneW_false sameV_value dPut dMay valEq arrEq listEq List.getElem?_cons Tr.get_nil dEnd
attribute [local simp] WpS_nil WpS_cons isDefer undef_false wantS_true wantS_false nextS_value nextS_skip nextS_enter callS_some gotS_some aWanted aOp aEvalF aEval opMove opAssign opPick aVal flat flat1 AAct.put opBinOp opConvert opIndex Tr.get_set Tr.get_lay aBin aResults tupled
  aCall aVals aCallB blt_dec ble_dec beq_dec aBinI_add aBinI_sub aBinI_lss aBinI_leq aBinI_gtr aBinI_geq aBinI_eql aBinI_neq index_str len_str len_slice Nat.beq_refl Nat.beq_refl
  opBox opLoad opFieldAddr opIndexAddr acells aAddr opExtract aExtract opUnOp opAlloc opStore opMakeInterface opNilCheck opBuild aParts opBuildSlice aValW
attribute [local simp] und2 und3 und4 und5 und9 und12 field13_0 field13_1 und21 und22 field23_0 field23_1 field24_0 field24_1 field25_0 field25_1 und28 und31 field34_0 field34_1 field34_2 field35_0 field35_1 field35_2 und46 field50_0 field50_1 field50_2 und55 und56 und58 und61 und62 und73 und75 und90 und94 und95 und96 field97_0 field97_1 field97_2 field97_3 field97_4 field97_5 field97_6 field98_0 field98_1 field98_2 field98_3 field98_4 field98_5 field98_6 und99 und106 field107_0 field107_1 field108_0 field108_1 und119 und122 field124_0 field124_1 field124_2 field125_0 field125_1 field125_2 field131_0 field131_1 field132_0 field132_1 und133 field134_0 field134_1 field135_0 field135_1 und148 und156 und160
set_option maxHeartbeats 4000000
set_option linter.unusedSimpArgs false
set_option linter.unusedVariables false
/-! ### the law PairPrices -/
theorem var_row62 {W : AW} {p n : Nat} {l : List Int} (h : Var W p 2 (vI l)) (hn : l.length = n) : IntR W (.slice (some ⟨p, 0, none⟩) n (2 * n)) l := by
  rw [vI_flat] at h
  have := Var.row (enc := encI .i64) (l := l) (c := 2 * n) encI_len h
  rw [hn] at this; exact this
end Go.Proofs.YtdpnplanohgecaaDoor

open Go Go.Eng
namespace Go.Proofs.YtdpnplanohgecaaDoor
attribute [local congr] undef_congr WpK.congr WpS.congr WpL.congr WpC.congr WpF.congr gotS.congr callS.congr nextS.congr wantS.congr condS.congr
attribute [local irreducible] WpK
attribute [local simp] WpDr_nil WpDr_cons atS_some dwantS_true dwantS_false kindS_light kindS_float kindS_heavy lightS_value floatS_some heavyS_value heavyS_skip heavyS_enter dcallS_some doneS_eq
  isLight isFloat isPlain dLook testBit_dec dChain dLights_nil dLights_skip dLights_one dLight_nil dLight_cons dFreshes_nil dFreshes_one oneF_none oneF_some dFresh_nil dFresh_cons oneL_some oneW_true oneW_false sameV_value dPut dMay valEq arrEq listEq List.getElem?_cons Tr.get_nil dEnd
attribute [local simp] WpS_nil WpS_cons isDefer undef_false wantS_true wantS_false nextS_value nextS_skip nextS_enter callS_some gotS_some aWanted aOp aEvalF aEval opMove opAssign opPick aVal flat flat1 AAct.put opBinOp opConvert opIndex Tr.get_set Tr.get_lay aBin aResults tupled
  aCall aVals aCallB blt_dec ble_dec beq_dec aBinI_add aBinI_sub aBinI_lss aBinI_leq aBinI_gtr aBinI_geq aBinI_eql aBinI_neq index_str len_str len_slice Nat.beq_refl Nat.beq_refl
  opBox opLoad opFieldAddr opIndexAddr acells aAddr opExtract aExtract opUnOp opAlloc opStore opMakeInterface opNilCheck opBuild aParts opBuildSlice aValW
attribute [local simp] und2 und3 und4 und5 und9 und12 field13_0 field13_1 und21 und22 field23_0 field23_1 field24_0 field24_1 field25_0 field25_1 und28 und31 field34_0 field34_1 field34_2 field35_0 field35_1 field35_2 und46 field50_0 field50_1 field50_2 und55 und56 und58 und61 und62 und73 und75 und90 und94 und95 und96 field97_0 field97_1 field97_2 field97_3 field97_4 field97_5 field97_6 field98_0 field98_1 field98_2 field98_3 field98_4 field98_5 field98_6 und99 und106 field107_0 field107_1 field108_0 field108_1 und119 und122 field124_0 field124_1 field124_2 field125_0 field125_1 field125_2 field131_0 field131_1 field132_0 field132_1 und133 field134_0 field134_1 field135_0 field135_1 und148 und156 und160
set_option maxHeartbeats 4000000
set_option linter.unusedSimpArgs false
set_option linter.unusedVariables false
/-! ### what an assignment is worth: tight prices -/
theorem sumN_tight {f g : Nat → Int} : ∀ {n : Nat}, (∀ i, i < n → f i ≤ g i) → sumN n g ≤ sumN n f → ∀ i, i < n → f i = g i
  | 0, _, _, i, hi => by omega
  | n + 1, h, e, i, hi => by
    have h1 := sumN_le (n := n) (f := f) (g := g) (fun i hi => h i (by omega))
    have h2 := h n (by omega)
    simp only [sumN] at e
    by_cases hin : i = n
    · subst hin; omega
    · exact sumN_tight (n := n) (fun i hi => h i (by omega)) (by omega) i (by omega)
theorem IsAssign.permN {ll : List (List Int)} {ps : List Nat} {B : Nat → Int} (h : IsAssign ll ps B) : PermN ll.length (pOf ps) := h.2.2.1.perm h.1
theorem IsAssign.worth {ll : List (List Int)} (hok : OffOk ll) {ps : List Nat} {B : Nat → Int} (h : IsAssign ll ps B) : worthN ll.length (mAt ll) (pOf ps) = B 0 := by
  have h12 := hok.2.1
  exact h.2.2.1.worth h.2.1 h.1 (by omega)
theorem IsAssign.most {ll : List (List Int)} (hok : OffOk ll) {ps : List Nat} {B : Nat → Int} (h : IsAssign ll ps B) {q : Nat → Nat} (hq : PermN ll.length q) : worthN ll.length (mAt ll) q ≤ B 0 := by
  have h12 := hok.2.1
  exact h.2.1.most (by omega) hq
theorem IsPrices.cover {ll : List (List Int)} (hok : OffOk ll) {ps : List Nat} {B : Nat → Int} {us vs : List Int} (h : IsPrices ll ps B us vs) {i j : Nat} (hi : i < ll.length) (hj : j < ll.length) : mAt ll i j ≤ gI us i + gI vs j := by
  have h1 := topV_closed hok h.asg hi hj
  have h2 := h.us i hi
  have hp := h.asg.permN
  have h3 := h.top j hj
  have h4 := h.top (pOf ps i) (hp.1 i hi)
  have hg : gain (mAt ll) (pOf ps) i j = mAt ll i j - mAt ll i (pOf ps i) := rfl
  omega
theorem IsPrices.sum {ll : List (List Int)} (hok : OffOk ll) {ps : List Nat} {B : Nat → Int} {us vs : List Int} (h : IsPrices ll ps B us vs) {q : Nat → Nat} (hq : PermN ll.length q) : sumN ll.length (fun i => gI us i + gI vs (q i)) = B 0 := by
  have hp := h.asg.permN
  have e1 : sumN ll.length (fun i => gI us i + gI vs (q i)) = sumN ll.length (gI us) + sumN ll.length (gI vs) := by
    rw [sumN_add (f := gI us) (g := fun i => gI vs (q i)), sumN_perm hq.1 hq.2 (gI vs)]
  have e2 : sumN ll.length (gI us) = sumN ll.length (fun i => mAt ll i (pOf ps i)) - sumN ll.length (fun i => gI vs (pOf ps i)) := by
    rw [← sumN_sub (f := fun i => mAt ll i (pOf ps i)) (g := fun i => gI vs (pOf ps i))]
    exact sumN_congr (fun i hi => h.us i hi)
  have e3 := sumN_perm hp.1 hp.2 (gI vs)
  have e4 : sumN ll.length (fun i => mAt ll i (pOf ps i)) = B 0 := h.asg.worth hok
  omega
theorem IsPrices.tight {ll : List (List Int)} (hok : OffOk ll) {ps ps' : List Nat} {B B' : Nat → Int} {us vs : List Int} (h : IsPrices ll ps' B' us vs) (ha : IsAssign ll ps B) {i : Nat} (hi : i < ll.length) : mAt ll i (pOf ps i) = gI us i + gI vs (pOf ps i) := by
  have hp := ha.permN
  have h1 := h.sum hok hp
  have h2 := ha.worth hok
  have h3 := ha.most hok h.asg.permN
  have h4 := h.asg.worth hok
  exact sumN_tight (f := fun i => mAt ll i (pOf ps i)) (g := fun i => gI us i + gI vs (pOf ps i)) (fun i hi => h.cover hok hi (hp.1 i hi)) (by
    have : sumN ll.length (fun i => mAt ll i (pOf ps i)) = B 0 := h2
    omega) i hi
theorem IsPrices.same {ll : List (List Int)} (hok : OffOk ll) {ps ps' : List Nat} {B B' : Nat → Int} {us vs : List Int} (h : IsPrices ll ps' B' us vs) (ha : IsAssign ll ps B) : B' 0 = B 0 := by
  have h3 := ha.most hok h.asg.permN
  have h4 := h.asg.worth hok
  have h5 := h.asg.most hok ha.permN
  have h6 := ha.worth hok
  omega
theorem permN_id (n : Nat) : PermN n (fun i => i) := ⟨fun i hi => hi, fun i j _ _ e => e⟩
theorem IsPrices.sumI {ll : List (List Int)} (hok : OffOk ll) {ps : List Nat} {B : Nat → Int} {us vs : List Int} (h : IsPrices ll ps B us vs) : sumN ll.length (fun i => gI us i + gI vs i) = B 0 := h.sum hok (permN_id _)
theorem IsPrices.bound {ll : List (List Int)} (hok : OffOk ll) {ps : List Nat} {B : Nat → Int} {us vs : List Int} (h : IsPrices ll ps B us vs) {i : Nat} (hi : i < ll.length) : (0 ≤ gI vs i ∧ gI vs i ≤ 22000000) ∧ -23000000 ≤ gI us i ∧ gI us i ≤ 1000000 := by
  have hp := h.asg.permN
  have v1 := fun j (hj : j < ll.length) => (h.top j hj ▸ ⟨topV_ge j, topV_le hok hp hj⟩ : 0 ≤ gI vs j ∧ gI vs j ≤ 22000000)
  have h2 := h.us i hi
  have h3 := v1 _ (hp.1 i hi)
  have h4 := hok.bound (i := i) (j := pOf ps i) hi (hp.1 i hi)
  exact ⟨v1 i hi, by omega, by omega⟩
theorem IsPrices.are {ll : List (List Int)} (hok : OffOk ll) {ps ps' : List Nat} {B B' : Nat → Int} {us vs : List Int} (h : IsPrices ll ps' B' us vs) (ha : IsAssign ll ps B) (w : Int) : ArePr ll us vs w ↔ w = B 0 := by
  have e := h.sumI hok
  have e2 := h.same hok ha
  constructor
  · intro hh
    have := hh.2.2.2.2.2.2
    omega
  · intro hw
    refine ⟨hok, h.ul, h.vl, within_of fun i hi => ?_, within_of fun i hi => ?_, fun i j hi hj => h.cover hok hi hj, by omega⟩
    · have := (h.bound hok (i := i) (by rw [← h.ul]; exact hi)).2; omega
    · have := (h.bound hok (i := i) (by rw [← h.vl]; exact hi)).1; omega
/-! ### a row of posts that is this function's own -/
theorem natsV_len (ps : List Nat) : (natsV ps).length = ps.length := by simp [natsV]
end Go.Proofs.YtdpnplanohgecaaDoor

open Go Go.Eng
namespace Go.Proofs.YtdpnplanohgecaaDoor
attribute [local congr] undef_congr WpK.congr WpS.congr WpL.congr WpC.congr WpF.congr gotS.congr callS.congr nextS.congr wantS.congr condS.congr
attribute [local irreducible] WpK
attribute [local simp] WpDr_nil WpDr_cons atS_some dwantS_true dwantS_false kindS_light kindS_float kindS_heavy lightS_value floatS_some heavyS_value heavyS_skip heavyS_enter dcallS_some doneS_eq
  isLight isFloat isPlain dLook testBit_dec dChain dLights_nil dLights_skip dLights_one dLight_nil dLight_cons dFreshes_nil dFreshes_one oneF_none oneF_some dFresh_nil dFresh_cons oneL_some oneW_true oneW_false sameV_value dPut dMay valEq arrEq listEq List.getElem?_cons Tr.get_nil dEnd
attribute [local simp] WpS_nil WpS_cons isDefer undef_false wantS_true wantS_false nextS_value nextS_skip nextS_enter callS_some gotS_some aWanted aOp aEvalF aEval opMove opAssign opPick aVal flat flat1 AAct.put opBinOp opConvert opIndex Tr.get_set Tr.get_lay aBin aResults tupled
  aCall aVals aCallB blt_dec ble_dec beq_dec aBinI_add aBinI_sub aBinI_lss aBinI_leq aBinI_gtr aBinI_geq aBinI_eql aBinI_neq index_str len_str len_slice Nat.beq_refl Nat.beq_refl
  opBox opLoad opFieldAddr opIndexAddr acells aAddr opExtract aExtract opUnOp opAlloc opStore opMakeInterface opNilCheck opBuild aParts opBuildSlice aValW
attribute [local simp] und2 und3 und4 und5 und9 und12 field13_0 field13_1 und21 und22 field23_0 field23_1 field24_0 field24_1 field25_0 field25_1 und28 und31 field34_0 field34_1 field34_2 field35_0 field35_1 field35_2 und46 field50_0 field50_1 field50_2 und55 und56 und58 und61 und62 und73 und75 und90 und94 und95 und96 field97_0 field97_1 field97_2 field97_3 field97_4 field97_5 field97_6 field98_0 field98_1 field98_2 field98_3 field98_4 field98_5 field98_6 und99 und106 field107_0 field107_1 field108_0 field108_1 und119 und122 field124_0 field124_1 field124_2 field125_0 field125_1 field125_2 field131_0 field131_1 field132_0 field132_1 und133 field134_0 field134_1 field135_0 field135_1 und148 und156 und160
set_option maxHeartbeats 4000000
set_option linter.unusedSimpArgs false
set_option linter.unusedVariables false
/-! ### the reference's assignment: what is first among the best -/
def ChoAt (n : Nat) (c : Nat → Nat → Int) (B : Nat → Int) (ps : List Nat) (k : Nat) : Prop := ps.getD k 0 < n ∧ (tk (fun i => ps.getD i 0) k).testBit (ps.getD k 0) = false ∧
  c k (ps.getD k 0) + B (tk (fun i => ps.getD i 0) (k + 1)) = B (tk (fun i => ps.getD i 0) k) ∧
  ∀ q, q < ps.getD k 0 → ¬ ((tk (fun i => ps.getD i 0) k).testBit q = false ∧ c k q + B (tk (fun i => ps.getD i 0) k ||| 1 <<< q) = B (tk (fun i => ps.getD i 0) k))
theorem chosen_unique {n : Nat} {c : Nat → Nat → Int} {B : Nat → Int} {p p' : List Nat} (h : Chosen n c B p) (h' : Chosen n c B p') (hl : p.length = p'.length) : p = p' := by
  have key : ∀ k, k ≤ p.length → ∀ i, i < k → p.getD i 0 = p'.getD i 0 := fun k => by
    induction k with
    | zero => intro _ i hi; omega
    | succ k ih =>
      intro hk i hi
      have ih := ih (by omega)
      by_cases e : i = k
      case neg => exact ih i (by omega)
      subst e
      have et := tk_congr (p := fun i => p.getD i 0) (p' := fun i => p'.getD i 0) (k := i) ih
      obtain ⟨a1, a2, a3, a4⟩ := h i (by omega)
      obtain ⟨b1, b2, b3, b4⟩ := h' i (by omega)
      simp only [tk] at a3 b3
      rw [et] at a2 a3 a4
      rcases Nat.lt_trichotomy (p.getD i 0) (p'.getD i 0) with g | g | g
      · exact absurd ⟨a2, a3⟩ (b4 _ g)
      · exact g
      · exact absurd ⟨b2, b3⟩ (a4 _ g)
  refine List.ext_getElem? fun i => ?_
  by_cases hi : i < p.length
  · have := key p.length (Nat.le_refl _) i hi
    rw [List.getD_eq_getElem?_getD, List.getD_eq_getElem?_getD, List.getElem?_eq_getElem hi, List.getElem?_eq_getElem (by omega)] at this
    rw [List.getElem?_eq_getElem hi, List.getElem?_eq_getElem (by omega)]
    exact congrArg some this
  · rw [List.getElem?_eq_none (by omega), List.getElem?_eq_none (by omega)]
def TS (ps : List Nat) : Nat := tk (fun i => ps.getD i 0) ps.length
theorem TS_snoc (ps : List Nat) (x : Nat) : TS (ps ++ [x]) = TS ps ||| 1 <<< x := by
  unfold TS
  rw [List.length_append]
  show tk (fun i => (ps ++ [x]).getD i 0) ps.length ||| 1 <<< (ps ++ [x]).getD ps.length 0 = _
  rw [tk_app (Nat.le_refl _), getD_last]
theorem TS_bit {ps : List Nat} {x : Nat} : (TS ps).testBit x = true ↔ ∃ i, i < ps.length ∧ pOf ps i = x := tk_bit
structure Pre (n : Nat) (ps : List Nat) : Prop where
  len : ps.length ≤ n
  lt : ∀ i, i < ps.length → pOf ps i < n
  dis : ∀ i j, i < j → j < ps.length → pOf ps i ≠ pOf ps j
theorem Pre.nil (n : Nat) : Pre n [] := ⟨by simp, fun i h => by simp at h, fun i j _ h => by simp at h⟩
theorem Pre.ts {n : Nat} {ps : List Nat} (h : Pre n ps) : TS ps < 2 ^ n := tk_lt h.lt
theorem Pre.pc {n : Nat} {ps : List Nat} (h : Pre n ps) (hn : n ≤ 40) : pc (TS ps) = ps.length := tk_cnt (n := n) hn h.lt h.dis
theorem Pre.full {n : Nat} {ps : List Nat} (h : Pre n ps) (hn : n ≤ 40) (e : ps.length = n) : TS ps = 2 ^ n - 1 := by
  subst e; exact tk_full hn h.lt h.dis
theorem Pre.snoc {n : Nat} {ps : List Nat} (h : Pre n ps) (hl : ps.length < n) {x : Nat} (hx : x < n) (hb : (TS ps).testBit x = false) : Pre n (ps ++ [x]) := by
  have g : ∀ i, i < ps.length → pOf (ps ++ [x]) i = pOf ps i := fun i hi => getD_app hi
  have g2 : pOf (ps ++ [x]) ps.length = x := getD_last
  refine ⟨by simp; omega, fun i hi => ?_, fun i j hij hj => ?_⟩
  · simp at hi
    by_cases e : i = ps.length
    · subst e; rw [g2]; exact hx
    · rw [g i (by omega)]; exact h.lt i (by omega)
  · simp at hj
    by_cases e : j = ps.length
    · subst e
      rw [g2, g i hij]
      intro he
      rw [TS_bit.2 ⟨i, hij, he⟩] at hb; cases hb
    · rw [g i (by omega), g j (by omega)]; exact h.dis i j hij (by omega)
theorem BestN.bound {n : Nat} {c : Nat → Nat → Int} {B : Nat → Int} (hB : BestN n c B) (hn : n ≤ 12) (hc : ∀ i j, i < n → j < n → -1000000 ≤ c i j ∧ c i j ≤ 1000000) : ∀ m t, t < 2 ^ n → pc t + m = n → -(1000000 * (m : Int)) ≤ B t ∧ B t ≤ 1000000 * (m : Int) := by
  intro m
  induction m with
  | zero =>
    intro t ht e
    by_cases hf : t = 2 ^ n - 1
    · subst hf; rw [hB.full]; omega
    · obtain ⟨q, h1, h2, h3⟩ := hB.is t ht hf
      have := (pc_or hn ht h1 h2).2; omega
  | succ m ih =>
    intro t ht e
    by_cases hf : t = 2 ^ n - 1
    · subst hf; rw [hB.full]; omega
    · obtain ⟨q, h1, h2, h3⟩ := hB.is t ht hf
      have hp := pc_or hn ht h1 h2
      have h4 := ih (t ||| 1 <<< q) (or_ltp ht h1) (by omega)
      have h5 := hc (pc t) q (by omega) h1
      omega
theorem ChoAt.here {n : Nat} {c : Nat → Nat → Int} {B : Nat → Int} {ps rs : List Nat} {x : Nat} (h1 : x < n) (h2 : (TS ps).testBit x = false) (h3 : c ps.length x + B (TS ps ||| 1 <<< x) = B (TS ps))
    (h4 : ∀ q, q < x → ¬ ((TS ps).testBit q = false ∧ c ps.length q + B (TS ps ||| 1 <<< q) = B (TS ps))) : ChoAt n c B (ps ++ x :: rs) ps.length := by
  have g : (ps ++ x :: rs).getD ps.length 0 = x := by
    rw [List.getD_eq_getElem?_getD, List.getElem?_append_right (Nat.le_refl _)]; simp
  have g2 : tk (fun i => (ps ++ x :: rs).getD i 0) ps.length = TS ps := tk_congr (fun i hi => by
    show (ps ++ x :: rs).getD i 0 = ps.getD i 0
    rw [List.getD_eq_getElem?_getD, List.getD_eq_getElem?_getD, List.getElem?_append_left hi])
  have g3 : tk (fun i => (ps ++ x :: rs).getD i 0) (ps.length + 1) = TS ps ||| 1 <<< x := by
    simp only [tk]; rw [g2, g]
  unfold ChoAt
  rw [g3, g2, g]
  exact ⟨h1, h2, h3, h4⟩
/-- the best that is known of the posts before j -/
def FarR (n : Nat) (c : Nat → Nat → Int) (B : Nat → Int) (ps : List Nat) (j : Nat) (W : AW) (bv : Value) (w : Int) : Prop :=
  (bv = .slice none 0 0 ∧ w = 0 ∧ ∀ q, q < j → (TS ps).testBit q = true) ∨
  ((∃ a n c, bv = .slice (some a) n c) ∧ ∃ x rs, x < j ∧ (TS ps).testBit x = false ∧ w = c ps.length x + B (TS ps ||| 1 <<< x) ∧ (∀ q, q < j → (TS ps).testBit q = false → c ps.length q + B (TS ps ||| 1 <<< q) ≤ w) ∧
    (∀ q, q < x → (TS ps).testBit q = false → c ps.length q + B (TS ps ||| 1 <<< q) < w) ∧ IntR W bv ((x :: rs).map Int.ofNat) ∧ (ps ++ x :: rs).length = n ∧ ∀ k, ps.length < k → k < n → ChoAt n c B (ps ++ x :: rs) k)
variable {n : Nat} {c : Nat → Nat → Int} {B : Nat → Int} {ps : List Nat} {j : Nat} {W W' : AW} {bv bv' : Value} {w w' : Int}
theorem FarR.start : FarR n c B ps 0 W (.slice none 0 0) 0 := .inl ⟨rfl, rfl, fun q hq => by omega⟩
theorem FarR.ext (h : FarR n c B ps j W bv w) (he : Ext W W') : FarR n c B ps j W' bv w := by
  rcases h with h | ⟨h0, x, rs, h1, h2, h3, h4, h5, h6, h7⟩
  · exact .inl h
  · exact .inr ⟨h0, x, rs, h1, h2, h3, h4, h5, h6.ext he, h7⟩
theorem FarR.skip (h : FarR n c B ps j W bv w) (hb : (TS ps).testBit j = true) : FarR n c B ps (j + 1) W bv w := by
  rcases h with ⟨h1, h2, h3⟩ | ⟨h0, x, rs, h1, h2, h3, h4, h5, h6, h7⟩
  · refine .inl ⟨h1, h2, fun q hq => ?_⟩
    by_cases e : q = j
    · subst e; exact hb
    · exact h3 q (by omega)
  · refine .inr ⟨h0, x, rs, by omega, h2, h3, fun q hq hf => ?_, h5, h6, h7⟩
    by_cases e : q = j
    · subst e; rw [hb] at hf; cases hf
    · exact h4 q (by omega) hf
theorem FarR.stay (h : FarR n c B ps j W bv w) (h0 : bv ≠ .slice none 0 0) (hw : c ps.length j + B (TS ps ||| 1 <<< j) ≤ w) : FarR n c B ps (j + 1) W bv w := by
  rcases h with ⟨h1, h2, h3⟩ | ⟨h0, x, rs, h1, h2, h3, h4, h5, h6, h7⟩
  · exact absurd h1 h0
  · refine .inr ⟨h0, x, rs, by omega, h2, h3, fun q hq hf => ?_, h5, h6, h7⟩
    by_cases e : q = j
    · subst e; exact hw
    · exact h4 q (by omega) hf
theorem FarR.new (h : FarR n c B ps j W bv w) (hb : (TS ps).testBit j = false) (hw : bv = .slice none 0 0 ∨ w < c ps.length j + B (TS ps ||| 1 <<< j)) {rs : List Nat} (h0 : ∃ a n c, bv' = .slice (some a) n c) (hr : IntR W' bv' ((j :: rs).map Int.ofNat))
    (hl : (ps ++ j :: rs).length = n) (hc : ∀ k, ps.length < k → k < n → ChoAt n c B (ps ++ j :: rs) k) : FarR n c B ps (j + 1) W' bv' (c ps.length j + B (TS ps ||| 1 <<< j)) := by
  have key : ∀ q, q < j → (TS ps).testBit q = false → c ps.length q + B (TS ps ||| 1 <<< q) < c ps.length j + B (TS ps ||| 1 <<< j) := fun q hq hf => by
    rcases h with ⟨h1, h2, h3⟩ | ⟨⟨a, m, e, g0⟩, x, rs, h1, h2, h3, h4, h5, h6, h7⟩
    · rw [h3 q hq] at hf; cases hf
    · rcases hw with hw | hw
      · rw [g0] at hw; cases hw
      · have := h4 q hq hf; omega
  refine .inr ⟨h0, j, rs, by omega, hb, rfl, fun q hq hf => ?_, key, hr, hl, hc⟩
  by_cases e : q = j
  · subst e; exact Int.le_refl _
  · exact Int.le_of_lt (key q (by omega) hf)
theorem FarR.end' (hB : BestN n c B) (hn : n ≤ 12) (hp : Pre n ps) (hl : ps.length < n) (h : FarR n c B ps n W bv w) : w = B (TS ps) ∧ ∃ rs, IntR W bv (rs.map Int.ofNat) ∧ (ps ++ rs).length = n ∧ ∀ k, ps.length ≤ k → k < n → ChoAt n c B (ps ++ rs) k := by
  have hpc := hp.pc (by omega)
  have hne : TS ps ≠ 2 ^ n - 1 := fun e => by
    have h1 : pc (2 ^ n - 1) = min 40 n := cntB_full n 40
    rw [← e, hpc] at h1; omega
  obtain ⟨q, q1, q2, q3⟩ := hB.is _ hp.ts hne
  rw [hpc] at q3
  rcases h with ⟨h1, h2, h3⟩ | ⟨h0, x, rs, h1, h2, h3, h4, h5, h6, h7, h8⟩
  · rw [h3 q q1] at q2; cases q2
  · have hle := hB.le _ hp.ts x h1 h2
    rw [hpc] at hle
    have hge := h4 q q1 q2
    have hw : w = B (TS ps) := by omega
    refine ⟨hw, x :: rs, h6, h7, fun k hk hkn => ?_⟩
    by_cases e : k = ps.length
    · subst e
      exact .here h1 h2 (by omega) (fun q hq hh => by have := h5 q hq hh.1; omega)
    · exact h8 k (by omega) hkn

end Go.Proofs.YtdpnplanohgecaaDoor

open Go Go.Eng
namespace Go.Proofs.YtdpnplanohgecaaDoor
attribute [local congr] undef_congr WpK.congr WpS.congr WpL.congr WpC.congr WpF.congr gotS.congr callS.congr nextS.congr wantS.congr condS.congr
attribute [local irreducible] WpK
attribute [local simp] WpDr_nil WpDr_cons atS_some dwantS_true dwantS_false kindS_light kindS_float kindS_heavy lightS_value floatS_some heavyS_value heavyS_skip heavyS_enter dcallS_some doneS_eq
  isLight isFloat isPlain dLook testBit_dec dChain dLights_nil dLights_skip dLights_one dLight_nil dLight_cons dFreshes_nil dFreshes_one oneF_none oneF_some dFresh_nil dFresh_cons oneL_some oneW_true oneW_false sameV_value dPut dMay valEq arrEq listEq List.getElem?_cons Tr.get_nil dEnd
attribute [local simp] WpS_nil WpS_cons isDefer undef_false wantS_true wantS_false nextS_value nextS_skip nextS_enter callS_some gotS_some aWanted aOp aEvalF aEval opMove opAssign opPick aVal flat flat1 AAct.put opBinOp opConvert opIndex Tr.get_set Tr.get_lay aBin aResults tupled
  aCall aVals aCallB blt_dec ble_dec beq_dec aBinI_add aBinI_sub aBinI_lss aBinI_leq aBinI_gtr aBinI_geq aBinI_eql aBinI_neq index_str len_str len_slice Nat.beq_refl Nat.beq_refl
  opBox opLoad opFieldAddr opIndexAddr acells aAddr opExtract aExtract opUnOp opAlloc opStore opMakeInterface opNilCheck opBuild aParts opBuildSlice aValW
attribute [local simp] und2 und3 und4 und5 und9 und12 field13_0 field13_1 und21 und22 field23_0 field23_1 field24_0 field24_1 field25_0 field25_1 und28 und31 field34_0 field34_1 field34_2 field35_0 field35_1 field35_2 und46 field50_0 field50_1 field50_2 und55 und56 und58 und61 und62 und73 und75 und90 und94 und95 und96 field97_0 field97_1 field97_2 field97_3 field97_4 field97_5 field97_6 field98_0 field98_1 field98_2 field98_3 field98_4 field98_5 field98_6 und99 und106 field107_0 field107_1 field108_0 field108_1 und119 und122 field124_0 field124_1 field124_2 field125_0 field125_1 field125_2 field131_0 field131_1 field132_0 field132_1 und133 field134_0 field134_1 field135_0 field135_1 und148 und156 und160
set_option maxHeartbeats 4000000
set_option linter.unusedSimpArgs false
set_option linter.unusedVariables false
/-! ### the reference's assignment: walks -/
theorem same_wp {W : AW} {u v : Value} {a b : List Int} (hU : RowIn 1 (encI .i64) W u a) (hV : RowIn 1 (encI .i64) W v b) (ha : a.length < 9223372036854775808) (hb : b.length < 9223372036854775808) (he : a = b) :
    WpF T0 29 [u, v] W (fun x W' => W' = W ∧ x = .bool true) := by
  subst he
  obtain ⟨A1, c1, hu1⟩ := hU.len
  obtain ⟨A2, c2, hv1⟩ := hV.len
  have lu : ∀ W', aLen T0 W' 31 u = some (.int .i64 a.length) := fun W' => by rw [hu1]; exact len_slice und31 _ _ _
  have lv : ∀ W', aLen T0 W' 31 v = some (.int .i64 a.length) := fun W' => by rw [hv1]; exact len_slice und31 _ _ _
  refine wpF fun29 rfl ?_
  try simp only [wpK_assoc]
  refine wpK_reg (fun R hR => by simp []; exact hR) ?_
  try simp only [wpK_assoc]
  refine wpK_reg (fun R hR => by simp [lu, lv]; exact hR) ?_
  try simp only [wpK_assoc]
  first | refine wpK_onF (by simp []) ?_ | refine wpK_out (by simp []) ?_ | refine wpK_condF (by simp []) ?_ | refine wpK_endF (by simp []) (wpK_skip ?_) | refine wpK_endF (by simp []) ?_
  try simp only [wpK_assoc]
  refine wpK_reg (fun R hR => by simp []; exact hR) ?_
  obtain ⟨n, hn⟩ : ∃ n, n = a.length := ⟨_, rfl⟩
  rw [← hn] at lu
  try simp only [wpK_assoc]
  refine wpK_while (I := fun k A' W' => A'.n = 26 ∧ A'.defers = [] ∧ A'.tmps.get 0 = some (u) ∧ A'.tmps.get 1 = some (v) ∧ W' = W ∧ ∃ i : Nat, A'.tmps.get 5 = some (.int .i64 (i : Int)) ∧ k = n - i ∧ i ≤ n)
    (J := fun A' W' => A'.n = 26 ∧ A'.defers = [] ∧ A'.tmps.get 0 = some (u) ∧ A'.tmps.get 1 = some (v) ∧ W' = W) (Rt := fun _ _ => False) (k := n) ?_ ?_ ?_ ?_
  · exact ⟨rfl, rfl, by simp, by simp, rfl, 0, by simp, rfl, by omega⟩
  · rintro k ⟨tm, n, ds⟩ Wa ⟨hn, hd, h0, h1, eW, i, h5, hk, hin⟩ Q' hJ hRt hI
    simp only at hn hd h0 h1
    subst hn; subst hd
    subst Wa
    simp only at h5
    by_cases hlt : i < n
    case neg =>
      have e : i = n := by omega
      subst e
      try simp only [wpK_assoc]
      refine wpK_reg (fun R hR => by simp [h0, h5, lu]; exact hR) ?_
      try simp only [wpK_assoc]
      first | refine wpK_onF (by simp []) ?_ | refine wpK_out (by simp []) ?_ | refine wpK_condF (by simp []) ?_ | refine wpK_endF (by simp []) (wpK_skip ?_) | refine wpK_endF (by simp []) ?_
      exact hJ _ _ ⟨rfl, rfl, by simp [h0, h1], by simp [h0, h1], rfl⟩
    have hlt' : (i : Int) < n := by omega
    try simp only [wpK_assoc]
    refine wpK_reg (fun R hR => by simp [h0, h5, lu, hlt']; exact hR) ?_
    try simp only [wpK_assoc]
    first | refine wpK_onT (by simp [hlt]) ?_ | refine wpK_outT (by simp [hlt]) ?_ | refine wpK_condT (by simp [hlt]) ?_ | refine wpK_endT (by simp [hlt]) ?_
    obtain ⟨bx, px, x1, x2, _⟩ := int_at31 hU (gI_some (l := a) (i := i) (by omega))
    obtain ⟨by', py, y1, y2, _⟩ := int_at31 hV (gI_some (l := a) (i := i) (by omega))
    generalize gI a i = z at x2 y2
    refine wpK_block ?_
    try simp only [wpK_assoc]
    refine wpK_dn (wr := Tr.nil |>.set 17 0 |>.set 18 1 |>.set 19 2 |>.set 20 3 |>.set 21 4 |>.set 22 5 |>.set 23 6 |>.set 24 7 |>.set 25 8) (bits := Tr.nil.lay 0 [0, 0, 3, 7, 0, 0, 48, 112, 255]) (ord := [0, 1, 2, 3, 4, 5, 6, 7, 8]) (by kernel_rfl) (by kernel_rfl) (by kernel_rfl) (fun G hG => by
      simp [h0, h1, h5, x1, x2, y1, y2]
      exact hG) ?_
    try simp only [wpK_assoc]
    first | refine wpK_onF (by simp []) ?_ | refine wpK_out (by simp []) ?_ | refine wpK_condF (by simp []) ?_ | refine wpK_endF (by simp []) (wpK_skip ?_) | refine wpK_endF (by simp []) ?_
    simp only [leaves_normal, behind_normal]
    try simp only [wpK_assoc]
    refine wpK_reg1 (fun R hR => by simp [h5]; exact hR) ?_
    exact hI (n - (i + 1)) _ _ (by omega) ⟨rfl, rfl, by simp [h0, h1], by simp [h0, h1], rfl, i + 1, by simp [i64_succ i (by omega)], rfl, by omega⟩
  · rintro A' W' hf; exact hf.elim
  · rintro ⟨tm, n, ds⟩ Wz ⟨hn, hd, h0, h1, eW⟩
    simp only at hn hd h0 h1
    subst hn; subst hd
    subst Wz
    try simp only [wpK_assoc]
    refine wpK_reg (fun R hR => by simp []; exact hR) ?_
    exact wpK_ret ⟨.inr rfl, rfl, [.bool true], by simp, rfl, rfl⟩
theorem refHas_wp {W : AW} {u : Value} {ps : List Nat} (hU : IntR W u (ps.map Int.ofNat)) (x : Nat) (ha : ps.length < 100000) :
    WpF T0 33 [u, .int .i64 (x : Int)] W (fun r W' => W' = W ∧ r = .bool ((TS ps).testBit x)) := by
  obtain ⟨A1, c1, hu1⟩ := hU.len
  obtain ⟨n, hn⟩ : ∃ n, n = ps.length := ⟨_, rfl⟩
  rw [List.length_map, ← hn] at hu1
  have lu : ∀ W', aLen T0 W' 31 u = some (.int .i64 (n : Int)) := fun W' => by rw [hu1]; exact len_slice und31 _ _ _
  refine wpF fun33 rfl ?_
  try simp only [wpK_assoc]
  refine wpK_reg (fun R hR => by simp []; exact hR) ?_
  try simp only [wpK_assoc]
  refine wpK_reg (fun R hR => by simp []; exact hR) ?_
  try simp only [wpK_assoc]
  refine wpK_while (I := fun k A' W' => A'.n = 18 ∧ A'.defers = [] ∧ A'.tmps.get 0 = some (u) ∧ A'.tmps.get 1 = some (.int .i64 (x : Int)) ∧ W' = W ∧ ∃ i : Nat, A'.tmps.get 5 = some (.int .i64 (i : Int)) ∧ k = n - i ∧ i ≤ n ∧ ∀ q, q < i → pOf ps q ≠ x)
    (J := fun A' W' => A'.n = 18 ∧ A'.defers = [] ∧ A'.tmps.get 0 = some (u) ∧ A'.tmps.get 1 = some (.int .i64 (x : Int)) ∧ W' = W ∧ ∀ q, q < n → pOf ps q ≠ x) (Rt := fun A' W' => W' = W ∧ A'.tmps.get 4 = some (.bool true) ∧ A'.n = 18 ∧ A'.defers = [] ∧ (TS ps).testBit x = true) (k := n) ?_ ?_ ?_ ?_
  · exact ⟨rfl, rfl, by simp, by simp, rfl, 0, by simp, rfl, by omega, fun q hq => by omega⟩
  · rintro k ⟨tm, n, ds⟩ Wa ⟨hn, hd, h0, h1, eW, i, h5, hk, hin, hno⟩ Q' hJ hRt hI
    simp only at hn hd h0 h1
    subst hn; subst hd
    subst Wa
    simp only at h5
    by_cases hlt : i < n
    case neg =>
      have e : i = n := by omega
      subst e
      try simp only [wpK_assoc]
      refine wpK_reg (fun R hR => by simp [h0, h5, lu]; exact hR) ?_
      try simp only [wpK_assoc]
      first | refine wpK_onF (by simp []) ?_ | refine wpK_out (by simp []) ?_ | refine wpK_condF (by simp []) ?_ | refine wpK_endF (by simp []) (wpK_skip ?_) | refine wpK_endF (by simp []) ?_
      exact hJ _ _ ⟨rfl, rfl, by simp [h0, h1], by simp [h0, h1], rfl, hno⟩
    have hlt' : (i : Int) < n := by omega
    try simp only [wpK_assoc]
    refine wpK_reg (fun R hR => by simp [h0, h5, lu, hlt']; exact hR) ?_
    try simp only [wpK_assoc]
    first | refine wpK_onT (by simp [hlt]) ?_ | refine wpK_outT (by simp [hlt]) ?_ | refine wpK_condT (by simp [hlt]) ?_ | refine wpK_endT (by simp [hlt]) ?_
    obtain ⟨bx, px, x1, x2, _⟩ := int_at31 hU (nat_some (ps := ps) (i := i) (by omega))
    refine wpK_block ?_
    by_cases he : pOf ps i = x
    · rw [he] at x2
      try simp only [wpK_assoc]
      refine wpK_reg (fun R hR => by simp [h0, h1, h5, x1, x2]; exact hR) ?_
      try simp only [wpK_assoc]
      first | refine wpK_onT (by simp []) ?_ | refine wpK_outT (by simp []) ?_ | refine wpK_condT (by simp []) ?_ | refine wpK_endT (by simp []) ?_
      try simp only [wpK_assoc]
      refine wpK_reg (fun R hR => by simp []; exact hR) ?_
      refine wpK_ret ?_
      simp only [leaves_ret, behind_ret]
      exact hRt _ _ ⟨rfl, by simp, rfl, rfl, TS_bit.2 ⟨i, by omega, he⟩⟩
    · have he' : ¬ ((pOf ps i : Nat) : Int) = (x : Int) := by omega
      try simp only [wpK_assoc]
      refine wpK_reg (fun R hR => by simp [h0, h1, h5, x1, x2, he']; exact hR) ?_
      try simp only [wpK_assoc]
      first | refine wpK_onF (by simp [he]) ?_ | refine wpK_out (by simp [he]) ?_ | refine wpK_condF (by simp [he]) ?_ | refine wpK_endF (by simp [he]) (wpK_skip ?_) | refine wpK_endF (by simp [he]) ?_
      simp only [leaves_normal, behind_normal]
      try simp only [wpK_assoc]
      refine wpK_reg1 (fun R hR => by simp [h5]; exact hR) ?_
      exact hI (n - (i + 1)) _ _ (by omega) ⟨rfl, rfl, by simp [h0, h1], by simp [h0, h1], rfl, i + 1, by simp [i64_succ i (by omega)], rfl, by omega, fun q hq => by
        by_cases e : q = i
        · subst e; exact he
        · exact hno q (by omega)⟩
  · rintro ⟨tm, m, ds⟩ W' ⟨e1, e2, e3, e4, e5⟩
    simp only at e2 e3 e4
    subst e1; subst e3; subst e4
    refine ⟨.inr rfl, rfl, [.bool true], by simp [e2], rfl, by rw [e5]; rfl⟩
  · rintro ⟨tm, n, ds⟩ Wz ⟨hn, hd, h0, h1, eW, hno⟩
    simp only at hn hd h0 h1
    subst hn; subst hd
    subst Wz
    try simp only [wpK_assoc]
    refine wpK_reg (fun R hR => by simp []; exact hR) ?_
    refine wpK_ret ⟨.inr rfl, rfl, [.bool false], by simp, rfl, ?_⟩
    cases hb : (TS ps).testBit x with
    | false => rfl
    | true => obtain ⟨i, h1, h2⟩ := TS_bit.1 hb; exact absurd h2 (hno i (by omega))

end Go.Proofs.YtdpnplanohgecaaDoor
