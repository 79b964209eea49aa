import Derived.Test.YtdpnplanohgecaaDoorPt1
import Derived.Test.YtdpnplanohgecaaDoorEngWy
import Derived.Test.YtdpnplanohgecaaDoorEngPm
import Derived.Test.YtdpnplanohgecaaDoorEngBt
import Derived.KernelRfl
import Derived.Test.YtdpnplanohgecaaDoorEngRw
import Derived.Test.YtdpnplanohgecaaDoorEngRf
import Derived.Test.YtdpnplanohgecaaDoorEngAt
import Derived.Test.YtdpnplanohgecaaDoorEngEm
import Derived.Test.YtdpnplanohgecaaDoorTie
import Derived.Test.YtdpnplanohgecaaDoorCards
import Derived.Test.YtdpnplanohgecaaDoorEngPq
import Derived.SevenTiedAt
import Derived.Lib.SmallJoins
set_option linter.unusedSimpArgs false
set_option linter.unusedVariables false
set_option linter.unusedSectionVars false
open Go Go.Eng
namespace Go.Proofs.YtdpnplanohgecaaDoor
theorem und2 : T0.und.get 2 = some (.int .i64) := by kernel_rfl
theorem z2 : Tryd.t2.zero = some (.int .i64 0) := by kernel_rfl
theorem und3 : T0.und.get 3 = some (.int .i64) := by kernel_rfl
theorem sz3 : aSize T0 3 = some 1 := by kernel_rfl
theorem inf3 : T0.info.get 3 = some Tryd.t3 := by kernel_rfl
theorem is3 : Tryd.t3.size = 1 := by kernel_rfl
theorem by3 : Tryd.t3.bytes = 8 := by kernel_rfl
theorem zero3 : aZero T0 3 = some (.int .i64 0) := by kernel_rfl
theorem z3 : Tryd.t3.zero = some (.int .i64 0) := by kernel_rfl
theorem und4 : T0.und.get 4 = some .bool := by kernel_rfl
theorem z4 : Tryd.t4.zero = some (.bool false) := by kernel_rfl
theorem und5 : T0.und.get 5 = some (.int .u8) := by kernel_rfl
theorem sz5 : aSize T0 5 = some 1 := by kernel_rfl
theorem z5 : Tryd.t5.zero = some (.int .u8 0) := by kernel_rfl
theorem und9 : T0.und.get 9 = some .string := by kernel_rfl
theorem und12 : T0.und.get 12 = some (.int .u64) := by kernel_rfl
theorem field13_0 (b o : Nat) : aField T0 13 (.pointer (some ⟨b, o, none⟩)) 0 = some (.pointer (some ⟨b, o, none⟩)) := by rfl
theorem field13_1 (b o : Nat) : aField T0 13 (.pointer (some ⟨b, o, none⟩)) 1 = some (.pointer (some ⟨b, o + 1, none⟩)) := by rfl
theorem und21 : T0.und.get 21 = some (.int .i32) := by kernel_rfl
theorem und22 : T0.und.get 22 = some (.slice 55) := by kernel_rfl
theorem inf22 : T0.info.get 22 = some Tryd.t22 := by kernel_rfl
theorem is22 : Tryd.t22.size = 1 := by kernel_rfl
theorem field23_0 (b o : Nat) : aField T0 23 (.pointer (some ⟨b, o, none⟩)) 0 = some (.pointer (some ⟨b, o, none⟩)) := by rfl
theorem field23_1 (b o : Nat) : aField T0 23 (.pointer (some ⟨b, o, none⟩)) 1 = some (.pointer (some ⟨b, o + 1, none⟩)) := by rfl
theorem und24 : T0.und.get 24 = some Tryd.t23.desc := by kernel_rfl
theorem inf24 : T0.info.get 24 = some Tryd.t24 := by kernel_rfl
theorem is24 : Tryd.t24.size = 2 := by kernel_rfl
theorem zero24 : aZero T0 24 = some (.agg ⟨[.int .i64 0, .slice none 0 0]⟩) := by kernel_rfl
theorem agg24 : isAggD Tryd.t23.desc = true := by kernel_rfl
theorem field24_0 (b o : Nat) : aField T0 24 (.pointer (some ⟨b, o, none⟩)) 0 = some (.pointer (some ⟨b, o, none⟩)) := by rfl
theorem field24_1 (b o : Nat) : aField T0 24 (.pointer (some ⟨b, o, none⟩)) 1 = some (.pointer (some ⟨b, o + 1, none⟩)) := by rfl
theorem und25 : T0.und.get 25 = some Tryd.t23.desc := by kernel_rfl
theorem inf25 : T0.info.get 25 = some Tryd.t25 := by kernel_rfl
theorem is25 : Tryd.t25.size = 2 := by kernel_rfl
theorem zero25 : aZero T0 25 = some (.agg ⟨[.int .i64 0, .slice none 0 0]⟩) := by kernel_rfl
theorem agg25 : isAggD Tryd.t23.desc = true := by kernel_rfl
theorem field25_0 (b o : Nat) : aField T0 25 (.pointer (some ⟨b, o, none⟩)) 0 = some (.pointer (some ⟨b, o, none⟩)) := by rfl
theorem field25_1 (b o : Nat) : aField T0 25 (.pointer (some ⟨b, o, none⟩)) 1 = some (.pointer (some ⟨b, o + 1, none⟩)) := by rfl
theorem und28 : T0.und.get 28 = some (.int .i64) := by kernel_rfl
theorem und31 : T0.und.get 31 = some (.slice 3) := by kernel_rfl
theorem sz31 : aSize T0 31 = some 1 := by kernel_rfl
theorem inf31 : T0.info.get 31 = some Tryd.t31 := by kernel_rfl
theorem is31 : Tryd.t31.size = 1 := by kernel_rfl
theorem by31 : Tryd.t31.bytes = 24 := by kernel_rfl
theorem z31 : Tryd.t31.zero = some (.slice none 0 0) := by kernel_rfl
theorem field34_0 (b o : Nat) : aField T0 34 (.pointer (some ⟨b, o, none⟩)) 0 = some (.pointer (some ⟨b, o, none⟩)) := by rfl
theorem field34_1 (b o : Nat) : aField T0 34 (.pointer (some ⟨b, o, none⟩)) 1 = some (.pointer (some ⟨b, o + 1, none⟩)) := by rfl
theorem field34_2 (b o : Nat) : aField T0 34 (.pointer (some ⟨b, o, none⟩)) 2 = some (.pointer (some ⟨b, o + 2, none⟩)) := by rfl
theorem field35_0 (b o : Nat) : aField T0 35 (.pointer (some ⟨b, o, none⟩)) 0 = some (.pointer (some ⟨b, o, none⟩)) := by rfl
theorem field35_1 (b o : Nat) : aField T0 35 (.pointer (some ⟨b, o, none⟩)) 1 = some (.pointer (some ⟨b, o + 1, none⟩)) := by rfl
theorem field35_2 (b o : Nat) : aField T0 35 (.pointer (some ⟨b, o, none⟩)) 2 = some (.pointer (some ⟨b, o + 2, none⟩)) := by rfl
theorem und46 : T0.und.get 46 = some (.slice 4) := by kernel_rfl
theorem field50_0 (b o : Nat) : aField T0 50 (.pointer (some ⟨b, o, none⟩)) 0 = some (.pointer (some ⟨b, o, none⟩)) := by rfl
theorem field50_1 (b o : Nat) : aField T0 50 (.pointer (some ⟨b, o, none⟩)) 1 = some (.pointer (some ⟨b, o + 1, none⟩)) := by rfl
theorem field50_2 (b o : Nat) : aField T0 50 (.pointer (some ⟨b, o, none⟩)) 2 = some (.pointer (some ⟨b, o + 2, none⟩)) := by rfl
theorem und55 : T0.und.get 55 = some (.array 2 3) := by kernel_rfl
theorem sz55 : aSize T0 55 = some 2 := by kernel_rfl
theorem inf55 : T0.info.get 55 = some Tryd.t55 := by kernel_rfl
theorem is55 : Tryd.t55.size = 2 := by kernel_rfl
theorem by55 : Tryd.t55.bytes = 16 := by kernel_rfl
theorem zero55 : aZero T0 55 = some (.agg ⟨[.int .i64 0, .int .i64 0]⟩) := by kernel_rfl
theorem z55 : Tryd.t55.zero = some (.agg ⟨[.int .i64 0, .int .i64 0]⟩) := by kernel_rfl
theorem und56 : T0.und.get 56 = some (.int .u64) := by kernel_rfl
theorem und58 : T0.und.get 58 = some (.slice 31) := by kernel_rfl
theorem und61 : T0.und.get 61 = some (.slice 62) := by kernel_rfl
theorem und62 : T0.und.get 62 = some (.slice 2) := by kernel_rfl
theorem und73 : T0.und.get 73 = some (.array 2 62) := by kernel_rfl
theorem und75 : T0.und.get 75 = some (.slice 46) := by kernel_rfl
theorem und90 : T0.und.get 90 = some (.pointer 108) := by kernel_rfl
theorem und94 : T0.und.get 94 = some (.array 40 3) := by kernel_rfl
theorem und95 : T0.und.get 95 = some (.int .u64) := by kernel_rfl
theorem und96 : T0.und.get 96 = some (.int .u64) := by kernel_rfl
theorem sz96 : aSize T0 96 = some 1 := by kernel_rfl
theorem inf96 : T0.info.get 96 = some Tryd.t96 := by kernel_rfl
theorem is96 : Tryd.t96.size = 1 := by kernel_rfl
theorem zero96 : aZero T0 96 = some (.int .u64 0) := by kernel_rfl
theorem field97_0 (b o : Nat) : aField T0 97 (.pointer (some ⟨b, o, none⟩)) 0 = some (.pointer (some ⟨b, o, none⟩)) := by rfl
theorem field97_1 (b o : Nat) : aField T0 97 (.pointer (some ⟨b, o, none⟩)) 1 = some (.pointer (some ⟨b, o + 1, none⟩)) := by rfl
theorem field97_2 (b o : Nat) : aField T0 97 (.pointer (some ⟨b, o, none⟩)) 2 = some (.pointer (some ⟨b, o + 41, none⟩)) := by rfl
theorem field97_3 (b o : Nat) : aField T0 97 (.pointer (some ⟨b, o, none⟩)) 3 = some (.pointer (some ⟨b, o + 81, none⟩)) := by rfl
theorem field97_4 (b o : Nat) : aField T0 97 (.pointer (some ⟨b, o, none⟩)) 4 = some (.pointer (some ⟨b, o + 121, none⟩)) := by rfl
theorem field97_5 (b o : Nat) : aField T0 97 (.pointer (some ⟨b, o, none⟩)) 5 = some (.pointer (some ⟨b, o + 122, none⟩)) := by rfl
theorem field97_6 (b o : Nat) : aField T0 97 (.pointer (some ⟨b, o, none⟩)) 6 = some (.pointer (some ⟨b, o + 123, none⟩)) := by rfl
theorem field98_0 (b o : Nat) : aField T0 98 (.pointer (some ⟨b, o, none⟩)) 0 = some (.pointer (some ⟨b, o, none⟩)) := by rfl
theorem field98_1 (b o : Nat) : aField T0 98 (.pointer (some ⟨b, o, none⟩)) 1 = some (.pointer (some ⟨b, o + 1, none⟩)) := by rfl
theorem field98_2 (b o : Nat) : aField T0 98 (.pointer (some ⟨b, o, none⟩)) 2 = some (.pointer (some ⟨b, o + 41, none⟩)) := by rfl
theorem field98_3 (b o : Nat) : aField T0 98 (.pointer (some ⟨b, o, none⟩)) 3 = some (.pointer (some ⟨b, o + 81, none⟩)) := by rfl
theorem field98_4 (b o : Nat) : aField T0 98 (.pointer (some ⟨b, o, none⟩)) 4 = some (.pointer (some ⟨b, o + 121, none⟩)) := by rfl
theorem field98_5 (b o : Nat) : aField T0 98 (.pointer (some ⟨b, o, none⟩)) 5 = some (.pointer (some ⟨b, o + 122, none⟩)) := by rfl
theorem field98_6 (b o : Nat) : aField T0 98 (.pointer (some ⟨b, o, none⟩)) 6 = some (.pointer (some ⟨b, o + 123, none⟩)) := by rfl
theorem und99 : T0.und.get 99 = some (.pointer 98) := by kernel_rfl
theorem und106 : T0.und.get 106 = some (.array 40 96) := by kernel_rfl
theorem field107_0 (b o : Nat) : aField T0 107 (.pointer (some ⟨b, o, none⟩)) 0 = some (.pointer (some ⟨b, o, none⟩)) := by rfl
theorem field107_1 (b o : Nat) : aField T0 107 (.pointer (some ⟨b, o, none⟩)) 1 = some (.pointer (some ⟨b, o + 1, none⟩)) := by rfl
theorem field108_0 (b o : Nat) : aField T0 108 (.pointer (some ⟨b, o, none⟩)) 0 = some (.pointer (some ⟨b, o, none⟩)) := by rfl
theorem field108_1 (b o : Nat) : aField T0 108 (.pointer (some ⟨b, o, none⟩)) 1 = some (.pointer (some ⟨b, o + 1, none⟩)) := by rfl
theorem und119 : T0.und.get 119 = some (.pointer 132) := by kernel_rfl
theorem und122 : T0.und.get 122 = some (.pointer 125) := by kernel_rfl
theorem field124_0 (b o : Nat) : aField T0 124 (.pointer (some ⟨b, o, none⟩)) 0 = some (.pointer (some ⟨b, o, none⟩)) := by rfl
theorem field124_1 (b o : Nat) : aField T0 124 (.pointer (some ⟨b, o, none⟩)) 1 = some (.pointer (some ⟨b, o + 40, none⟩)) := by rfl
theorem field124_2 (b o : Nat) : aField T0 124 (.pointer (some ⟨b, o, none⟩)) 2 = some (.pointer (some ⟨b, o + 80, none⟩)) := by rfl
theorem field125_0 (b o : Nat) : aField T0 125 (.pointer (some ⟨b, o, none⟩)) 0 = some (.pointer (some ⟨b, o, none⟩)) := by rfl
theorem field125_1 (b o : Nat) : aField T0 125 (.pointer (some ⟨b, o, none⟩)) 1 = some (.pointer (some ⟨b, o + 40, none⟩)) := by rfl
theorem field125_2 (b o : Nat) : aField T0 125 (.pointer (some ⟨b, o, none⟩)) 2 = some (.pointer (some ⟨b, o + 80, none⟩)) := by rfl
theorem field131_0 (b o : Nat) : aField T0 131 (.pointer (some ⟨b, o, none⟩)) 0 = some (.pointer (some ⟨b, o, none⟩)) := by rfl
theorem field131_1 (b o : Nat) : aField T0 131 (.pointer (some ⟨b, o, none⟩)) 1 = some (.pointer (some ⟨b, o + 1, none⟩)) := by rfl
theorem field132_0 (b o : Nat) : aField T0 132 (.pointer (some ⟨b, o, none⟩)) 0 = some (.pointer (some ⟨b, o, none⟩)) := by rfl
theorem field132_1 (b o : Nat) : aField T0 132 (.pointer (some ⟨b, o, none⟩)) 1 = some (.pointer (some ⟨b, o + 1, none⟩)) := by rfl
theorem und133 : T0.und.get 133 = some (.map 135 3) := by kernel_rfl
theorem field134_0 (b o : Nat) : aField T0 134 (.pointer (some ⟨b, o, none⟩)) 0 = some (.pointer (some ⟨b, o, none⟩)) := by rfl
theorem field134_1 (b o : Nat) : aField T0 134 (.pointer (some ⟨b, o, none⟩)) 1 = some (.pointer (some ⟨b, o + 1, none⟩)) := by rfl
theorem und135 : T0.und.get 135 = some Tryd.t134.desc := by kernel_rfl
theorem inf135 : T0.info.get 135 = some Tryd.t135 := by kernel_rfl
theorem is135 : Tryd.t135.size = 2 := by kernel_rfl
theorem zero135 : aZero T0 135 = some (.agg ⟨[.int .i64 0, .int .i64 0]⟩) := by kernel_rfl
theorem agg135 : isAggD Tryd.t134.desc = true := by kernel_rfl
theorem field135_0 (b o : Nat) : aField T0 135 (.pointer (some ⟨b, o, none⟩)) 0 = some (.pointer (some ⟨b, o, none⟩)) := by rfl
theorem field135_1 (b o : Nat) : aField T0 135 (.pointer (some ⟨b, o, none⟩)) 1 = some (.pointer (some ⟨b, o + 1, none⟩)) := by rfl
theorem und148 : T0.und.get 148 = some (.array 64 5) := by kernel_rfl
theorem und156 : T0.und.get 156 = some (.int .u32) := by kernel_rfl
theorem und160 : T0.und.get 160 = some (.pointer 5) := by kernel_rfl
theorem fun5 : T0.funcs.get 5 = some Tryd.f5 := by kernel_rfl
theorem fun13 : T0.funcs.get 13 = some Tryd.f13 := by kernel_rfl
theorem fun14 : T0.funcs.get 14 = some Tryd.f14 := by kernel_rfl
theorem fun16 : T0.funcs.get 16 = some Tryd.f16 := by kernel_rfl
theorem fun21 : T0.funcs.get 21 = some Tryd.f21 := by kernel_rfl
theorem fun22 : T0.funcs.get 22 = some Tryd.f22 := by kernel_rfl
theorem fun23 : T0.funcs.get 23 = some Tryd.f23 := by kernel_rfl
theorem fun26 : T0.funcs.get 26 = some Tryd.f26 := by kernel_rfl
theorem fun27 : T0.funcs.get 27 = some Tryd.f27 := by kernel_rfl
theorem fun32 : T0.funcs.get 32 = some Tryd.f32 := by kernel_rfl
theorem fun33 : T0.funcs.get 33 = some Tryd.f33 := by kernel_rfl
theorem fun34 : T0.funcs.get 34 = some Tryd.f34 := by kernel_rfl
theorem fun54 : T0.funcs.get 54 = some Tryd.f54 := by kernel_rfl
theorem fun60 : T0.funcs.get 60 = some Tryd.f60 := by kernel_rfl
theorem fun61 : T0.funcs.get 61 = some Tryd.f61 := by kernel_rfl
theorem fun62 : T0.funcs.get 62 = some Tryd.f62 := by kernel_rfl
theorem fun63 : T0.funcs.get 63 = some Tryd.f63 := by kernel_rfl
theorem fun64 : T0.funcs.get 64 = some Tryd.f64 := by kernel_rfl
theorem fun65 : T0.funcs.get 65 = some Tryd.f65 := by kernel_rfl
theorem fun68 : T0.funcs.get 68 = some Tryd.f68 := by kernel_rfl
theorem fun75 : T0.funcs.get 75 = some Tryd.f75 := by kernel_rfl
theorem fun77 : T0.funcs.get 77 = some Tryd.f77 := by kernel_rfl
theorem fun80 : T0.funcs.get 80 = some Tryd.f80 := by kernel_rfl
theorem fun81 : T0.funcs.get 81 = some Tryd.f81 := by kernel_rfl
theorem fun82 : T0.funcs.get 82 = some Tryd.f82 := by kernel_rfl
theorem fun86 : T0.funcs.get 86 = some Tryd.f86 := by kernel_rfl
theorem fun89 : T0.funcs.get 89 = some Tryd.f89 := by kernel_rfl
theorem fun90 : T0.funcs.get 90 = some Tryd.f90 := by kernel_rfl
theorem conv_3_56 (W : AW) (k : IntKind) (n : Int) : aConv T0 W 3 56 (.int k n) = some (.int .u64 (IntKind.u64.wrap n)) := by kernel_rfl
theorem conv_5_3 (W : AW) (k : IntKind) (n : Int) : aConv T0 W 5 3 (.int k n) = some (.int .i64 (IntKind.i64.wrap n)) := by kernel_rfl
theorem conv_56_3 (W : AW) (k : IntKind) (n : Int) : aConv T0 W 56 3 (.int k n) = some (.int .i64 (IntKind.i64.wrap n)) := by kernel_rfl
theorem conv_95_3 (W : AW) (k : IntKind) (n : Int) : aConv T0 W 95 3 (.int k n) = some (.int .i64 (IntKind.i64.wrap n)) := by kernel_rfl
end Go.Proofs.YtdpnplanohgecaaDoor

open Go Go.Eng
namespace Go.Proofs.YtdpnplanohgecaaDoor
attribute [local congr] undef_congr WpK.congr WpS.congr WpL.congr WpC.congr WpF.congr gotS.congr callS.congr nextS.congr wantS.congr condS.congr
attribute [local irreducible] WpK
attribute [local simp] WpDr_nil WpDr_cons atS_some dwantS_true dwantS_false kindS_light kindS_float kindS_heavy lightS_value floatS_some heavyS_value heavyS_skip heavyS_enter dcallS_some doneS_eq
  isLight isFloat isPlain dLook testBit_dec dChain dLights_nil dLights_skip dLights_one dLight_nil dLight_cons dFreshes_nil dFreshes_one oneF_none oneF_some dFresh_nil dFresh_cons oneL_some oneW_true oneW_false sameV_value dPut dMay valEq arrEq listEq List.getElem?_cons Tr.get_nil dEnd
attribute [local simp] WpS_nil WpS_cons isDefer undef_false wantS_true wantS_false nextS_value nextS_skip nextS_enter callS_some gotS_some aWanted aOp aEvalF aEval opMove opAssign opPick aVal flat flat1 AAct.put opBinOp opConvert opIndex Tr.get_set Tr.get_lay aBin aResults tupled
  aCall aVals aCallB blt_dec ble_dec beq_dec aBinI_add aBinI_sub aBinI_lss aBinI_leq aBinI_gtr aBinI_geq aBinI_eql aBinI_neq index_str len_str len_slice Nat.beq_refl Nat.beq_refl
  opBox opLoad opFieldAddr opIndexAddr acells aAddr opExtract aExtract opUnOp opAlloc opStore opMakeInterface opNilCheck opBuild aParts opBuildSlice aValW
attribute [local simp] und2 und3 und4 und5 und9 und12 field13_0 field13_1 und21 und22 field23_0 field23_1 field24_0 field24_1 field25_0 field25_1 und28 und31 field34_0 field34_1 field34_2 field35_0 field35_1 field35_2 und46 field50_0 field50_1 field50_2 und55 und56 und58 und61 und62 und73 und75 und90 und94 und95 und96 field97_0 field97_1 field97_2 field97_3 field97_4 field97_5 field97_6 field98_0 field98_1 field98_2 field98_3 field98_4 field98_5 field98_6 und99 und106 field107_0 field107_1 field108_0 field108_1 und119 und122 field124_0 field124_1 field124_2 field125_0 field125_1 field125_2 field131_0 field131_1 field132_0 field132_1 und133 field134_0 field134_1 field135_0 field135_1 und148 und156 und160
set_option maxHeartbeats 4000000
set_option linter.unusedSimpArgs false
set_option linter.unusedVariables false
@[simp] theorem nilck (a : Addr) : nilChecked T0 (.pointer (some a)) = true := rfl
@[simp] theorem aUn_not (b : Bool) : aUn .not (.bool b) = some (.bool (!b)) := by cases b <;> rfl
theorem load_of {W : AW} {t : TypeId} {d : TypeDesc} {b o : Nat} {v : Value} (hd : T0.und.get t = some d) (ha : isAggD d = false) (h : W.Has b o v) : aLoadVar T0 W t b o = some v := by
  rw [loadVar_cell hd ha]; exact h.2
theorem tabs_name : ∀ t ∈ T0.tabs, t.name = 0 := fun t h => by
  have h : t ∈ [_] := h
  rw [List.mem_singleton] at h; rw [h]
theorem tabs_ext {W W' : AW} (h : tabsIn T0 T0.tabs W = true) (h0 : 0 < W.next) (he : Ext W W') : tabsIn T0 T0.tabs W' = true := tabsIn_only h (fun t ht => he.2 t.name (by rw [tabs_name t ht]; exact h0) (fun x => x))
theorem freshB_var {W : AW} {p : Nat} {el : TypeId} {l : List Value} (h : Var W p el l) (hl : listEq l l = true) : freshB W p el l = true := by
  obtain ⟨h1, c, h2, h3⟩ := h
  have ht : c.take 0 l.length = some l := take_get c l.length 0 l rfl (fun j hj => by rw [Nat.zero_add]; exact h3 j hj)
  simp only [freshB, h2, Nat.beq_refl, blt_dec, h1, decide_true, ht, hl]
/-! ### the members of a set -/
def memb (P s : Nat) : List Int := ((List.range P).filter (s.testBit ·)).map Int.ofNat
theorem testBit_and1 (s p : Nat) : decide (((s >>> p &&& 1 : Nat) : Int) = 1) = s.testBit p := by
  rw [Nat.testBit, Bool.eq_iff_iff, Nat.and_comm]
  simp only [decide_eq_true_eq, bne_iff_ne, ne_eq]
  have : 1 &&& s >>> p = (s >>> p) % 2 := Nat.one_and_eq_mod_two _
  rw [this]; omega
theorem has_wp (s p : Nat) (hs : s < 18446744073709551616) (hp : p ≤ 64) (W : AW) : WpF T0 60 [.int .u64 s, .int .i64 p] W (fun v W' => W' = W ∧ v = .bool (s.testBit p)) := by
  refine wpF fun60 rfl ?_
  have h1 := aBinI_shr .u64 .i64 s p hp
  have hle : s >>> p < 18446744073709551616 := by rw [Nat.shiftRight_eq_div_pow]; exact Nat.lt_of_le_of_lt (Nat.div_le_self _ _) hs
  have h3 := testBit_and1 s p
  generalize s >>> p = q at h1 hle h3
  have h2 : aBinI .and .u64 (q : Int) .u64 1 = some (.int .u64 ((q &&& 1 : Nat) : Int)) := aBinI_and .u64 q 1 hle (by decide)
  generalize q &&& 1 = r at h2 h3
  try simp only [wpK_assoc]
  refine wpK_reg (fun R hR => by simp []; exact hR) ?_
  try simp only [wpK_assoc]
  refine wpK_reg (fun R hR => by simp [h1, h2, h3]; exact hR) ?_
  exact wpK_ret ⟨.inr rfl, rfl, [.bool (s.testBit p)], by simp, rfl, rfl⟩
theorem one_wp (p : Nat) (hp : p < 64) (W : AW) : WpF T0 68 [.int .i64 p] W (fun v W' => W' = W ∧ v = .int .u64 ((1 <<< p : Nat) : Int)) := by
  refine wpF fun68 rfl ?_
  have h1 : aBinI .shl .u64 1 .i64 (p : Int) = some (.int .u64 ((1 <<< p : Nat) : Int)) := aBinI_shl .u64 .i64 1 p (by show p ≤ 64; omega) (by
    rw [Nat.one_mul]; show 2 ^ p < 2 ^ 64; exact Nat.pow_lt_pow_right (by omega) hp)
  generalize 1 <<< p = r at h1
  try simp only [wpK_assoc]
  refine wpK_reg (fun R hR => by simp []; exact hR) ?_
  try simp only [wpK_assoc]
  refine wpK_reg (fun R hR => by simp [h1]; exact hR) ?_
  exact wpK_ret ⟨.inr rfl, rfl, [.int .u64 (r : Int)], by simp, rfl, rfl⟩
theorem u64_nat {n : Nat} (h : n < 18446744073709551616) : IntKind.u64.wrap (n : Int) = n := wrap_nat .u64 n h
theorem below_wp (p : Nat) (hp : p < 64) (W : AW) : WpF T0 75 [.int .i64 p] W (fun v W' => W' = W ∧ v = .int .u64 ((2 ^ p - 1 : Nat) : Int)) := by
  refine wpF fun75 rfl ?_
  have hlt : 2 ^ p < 2 ^ 64 := Nat.pow_lt_pow_right (by omega) hp
  have h0 := Nat.two_pow_pos p
  have h1 : aBinI .shl .u64 1 .i64 (p : Int) = some (.int .u64 ((2 ^ p : Nat) : Int)) := by
    have := aBinI_shl .u64 .i64 1 p (by show p ≤ 64; omega) (by rw [Nat.one_mul]; exact hlt)
    rw [Nat.shiftLeft_eq, Nat.one_mul] at this
    exact this
  generalize 2 ^ p = r at h1 hlt h0
  have h2 : IntKind.u64.wrap ((r : Int) - 1) = ((r - 1 : Nat) : Int) := by
    rw [show ((r : Int) - 1) = ((r - 1 : Nat) : Int) from by omega]; exact u64_nat (by have : r < 18446744073709551616 := hlt; omega)
  try simp only [wpK_assoc]
  refine wpK_reg (fun R hR => by simp []; exact hR) ?_
  try simp only [wpK_assoc]
  refine wpK_reg (fun R hR => by simp [h1, h2]; exact hR) ?_
  exact wpK_ret ⟨.inr rfl, rfl, [.int .u64 ((r - 1 : Nat) : Int)], by simp, rfl, rfl⟩

/-! ### the least member -/
def tabN : List Nat := [0, 1, 56, 2, 57, 49, 28, 3, 61, 58, 42, 50, 38, 29, 17, 4, 62, 47, 59, 36, 45, 43, 51, 22, 53, 39, 33, 30, 24, 18, 12, 5, 63, 55, 48, 27, 60, 41, 37, 16, 46, 35, 44, 21, 52, 32, 23, 11, 54, 26, 40, 15, 34, 20, 31, 10, 25, 14, 19, 9, 13, 8, 7, 6]
theorem ix148 (i : Nat) (hi : i < 64) (k : IntKind) : aIndexAddr T0 148 (.pointer (some ⟨0, 0, none⟩)) (.int k (i : Nat)) = some (.pointer (some ⟨0, i, none⟩)) := by
  show aIndexAddr T0 148 (.pointer (some ⟨0, 0, none⟩)) (.int k (Int.ofNat i)) = _
  simp only [aIndexAddr, und148, sz5, blt_dec, hi, decide_true, Nat.mul_one, Nat.zero_add]
theorem glob0 : T0.globs.get 0 = some () := by kernel_rfl
theorem tbl_load {W : AW} (h : tabsIn T0 T0.tabs W = true) (i : Nat) (hi : i < 64) : aLoadVar T0 W 5 0 i = some (.int .u8 ((tabN.getD i 0 : Nat) : Int)) := by
  have h : tabsIn T0 [⟨0, tabN.map fun n : Nat => Value.int .u8 (n : Int)⟩] W = true := h
  simp only [tabsIn, glob0] at h
  split at h
  case h_2 => cases h
  rename_i hu ht
  have hlen : (tabN.map fun n : Nat => Value.int .u8 (n : Int)).length = 64 := by decide
  have := tabIn_cell ht i (by show i < (tabN.map _).length; omega)
  rw [loadVar_cell und5 rfl]
  rw [this]
  simp only [List.getElem_map]
  rw [List.getD_eq_getElem?_getD, List.getElem?_eq_getElem (show i < tabN.length by simpa using (show i < (tabN.map fun n : Nat => Value.int .u8 (n : Int)).length by omega))]
  rfl
theorem low_ex {x : Nat} (h : x ≠ 0) : ∃ k, x.testBit k = true ∧ ∀ j, j < k → x.testBit j = false := by
  have hx : ∃ k, x.testBit k = true := by
    apply Classical.byContradiction
    intro hn
    apply h
    apply Nat.eq_of_testBit_eq
    intro i
    rw [Nat.zero_testBit]
    cases hb : x.testBit i with
    | false => rfl
    | true => exact absurd ⟨i, hb⟩ hn
  obtain ⟨k, hk⟩ := hx
  induction k using Nat.strongRecOn with
  | _ k ih =>
    by_cases hj : ∃ j, j < k ∧ x.testBit j = true
    · obtain ⟨j, h1, h2⟩ := hj
      exact ih j h1 h2
    · refine ⟨k, hk, fun j hjk => ?_⟩
      cases hb : x.testBit j with
      | false => rfl
      | true => exact absurd ⟨j, hjk, hb⟩ hj
theorem low_bits {x k : Nat} (h1 : x.testBit k = true) (h2 : ∀ j, j < k → x.testBit j = false) : x = 2 ^ (k + 1) * (x / 2 ^ (k + 1)) + 2 ^ k := by
  have : x % 2 ^ (k + 1) = 2 ^ k := by
    apply Nat.eq_of_testBit_eq
    intro i
    rw [Nat.testBit_mod_two_pow, Nat.testBit_two_pow]
    by_cases e : i = k
    · subst e; simp [-testBit_dec, h1]
    · by_cases hlt : i < k
      · rw [h2 i hlt, decide_eq_false (show ¬ k = i by omega), Bool.and_false]
      · rw [decide_eq_false (show ¬ i < k + 1 by omega), decide_eq_false (show ¬ k = i by omega), Bool.false_and]
  have := Nat.div_add_mod x (2 ^ (k + 1))
  omega
theorem pred_bits {x k : Nat} (h1 : x.testBit k = true) (h2 : ∀ j, j < k → x.testBit j = false) (i : Nat) : (x - 1).testBit i = if i < k then true else if i = k then false else x.testBit i := by
  have hx := low_bits h1 h2
  have hp : 0 < 2 ^ k := Nat.two_pow_pos k
  have hp1 : 2 ^ (k + 1) = 2 * 2 ^ k := by rw [Nat.pow_succ]; omega
  have e1 : x - 1 = 2 ^ (k + 1) * (x / 2 ^ (k + 1)) + (2 ^ k - 1) := by omega
  rw [e1, Nat.testBit_two_pow_mul_add _ (by omega), Nat.testBit_two_pow_sub_one]
  by_cases hlt : i < k
  · rw [if_pos (by omega), if_pos hlt, decide_eq_true hlt]
  · rw [if_neg hlt]
    by_cases e : i = k
    · rw [if_pos (by omega), if_pos e, decide_eq_false (by omega)]
    · rw [if_neg (by omega), if_neg e]
      have : x.testBit i = (2 ^ (k + 1) * (x / 2 ^ (k + 1)) + 2 ^ k).testBit i := by rw [← hx]
      rw [this, Nat.testBit_two_pow_mul_add _ (by omega), if_neg (by omega)]
theorem bit_lt {x k n : Nat} (hx : x < 2 ^ n) (h1 : x.testBit k = true) : k < n := by
  by_cases hk : k < n
  · exact hk
  · have : x.testBit k = false := Nat.testBit_lt_two_pow (Nat.lt_of_lt_of_le hx (Nat.pow_le_pow_right (by omega) (by omega)))
    rw [this] at h1; cases h1
theorem low_and {x k : Nat} (hx : x < 18446744073709551616) (h1 : x.testBit k = true) (h2 : ∀ j, j < k → x.testBit j = false) : x &&& (18446744073709551616 - x) = 2 ^ k := by
  have hx0 : 0 < x := Nat.pos_of_ne_zero (fun e => by subst e; simp [-testBit_dec] at h1)
  have hk : k < 64 := bit_lt hx h1
  apply Nat.eq_of_testBit_eq
  intro i
  rw [Nat.testBit_and, show 18446744073709551616 - x = 2 ^ 64 - ((x - 1) + 1) from by omega, Nat.testBit_two_pow_sub_succ (by show x - 1 < 18446744073709551616; omega), pred_bits h1 h2, Nat.testBit_two_pow]
  by_cases hlt : i < k
  · rw [if_pos hlt, h2 i hlt, decide_eq_false (show ¬ k = i by omega), Bool.false_and]
  · rw [if_neg hlt]
    by_cases e : i = k
    · rw [if_pos e, e, h1, decide_eq_true hk, decide_eq_true rfl]; rfl
    · rw [if_neg e, decide_eq_false (show ¬ k = i by omega)]
      cases x.testBit i <;> simp
theorem brujin : ∀ k, k < 64 → tabN.getD ((2 ^ k * 285870213051353865 % 18446744073709551616) >>> 58) 0 = k ∧ (2 ^ k * 285870213051353865 % 18446744073709551616) >>> 58 < 64 := by decide +kernel
theorem neg_u64 {x : Nat} (h0 : 0 < x) (hx : x < 18446744073709551616) : aUn .neg (.int .u64 (x : Nat)) = some (.int .u64 ((18446744073709551616 - x : Nat) : Int)) := by
  obtain ⟨n, hn⟩ : ∃ n, n = 18446744073709551616 - x := ⟨_, rfl⟩
  rw [← hn]
  have hw : IntKind.u64.wrap (0 - (x : Int)) = (n : Int) := by rw [IntKind.wrap_u64]; omega
  clear hn
  generalize hz : (0 - (x : Int)) = z at hw
  have hu : Op.unary .neg (.int .u64 (x : Nat)) = Op.intArith .sub .u64 0 (x : Nat) := rfl
  simp only [aUn, hu, Op.intArith, aPure, pure, hz, hw, flat1]
section
attribute [local irreducible] aBinI
theorem tz_wp {W : AW} (hT : tabsIn T0 T0.tabs W = true) {x k : Nat} (hx : x < 18446744073709551616) (h1 : x.testBit k = true) (h2 : ∀ j, j < k → x.testBit j = false) : WpF T0 89 [.int .u64 (x : Nat)] W (fun v W' => W' = W ∧ v = .int .i64 (k : Nat)) := by
  have hx0 : 0 < x := Nat.pos_of_ne_zero (fun e => by subst e; simp [-testBit_dec] at h1)
  have hk : k < 64 := bit_lt hx h1
  have hneg := neg_u64 hx0 hx
  have hand := aBinI_and .u64 x (18446744073709551616 - x) hx (by show 18446744073709551616 - x < 18446744073709551616; omega)
  rw [low_and hx h1 h2] at hand
  obtain ⟨hb1, hb2⟩ := brujin k hk
  have hmul : aBinI .mul .u64 ((2 ^ k : Nat) : Int) .u64 285870213051353865 = some (.int .u64 ((2 ^ k * 285870213051353865 % 18446744073709551616 : Nat) : Int)) := by
    have hw : ∀ q : Nat, IntKind.u64.wrap ((q : Int) * 285870213051353865) = ((q * 285870213051353865 % 18446744073709551616 : Nat) : Int) := fun q => by rw [IntKind.wrap_u64]; omega
    rw [aBinI_mul, hw]
  have hsh : aBinI .shr .u64 ((2 ^ k * 285870213051353865 % 18446744073709551616 : Nat) : Int) .u64 58 = some (.int .u64 (((2 ^ k * 285870213051353865 % 18446744073709551616) >>> 58 : Nat) : Int)) := aBinI_shr .u64 .u64 _ 58 (by decide)
  generalize 2 ^ k = pk at hand hmul hsh hb1 hb2
  generalize pk * 285870213051353865 % 18446744073709551616 = mm at hmul hsh hb1 hb2
  generalize mm >>> 58 = ii at hsh hb1 hb2
  have hld := tbl_load hT ii hb2
  rw [hb1] at hld
  have hixx := ix148 ii hb2 .u64
  generalize hxn : 18446744073709551616 - x = xn at hneg hand
  have hwk : IntKind.i64.wrap (k : Int) = k := IntWalk.i64_in _ (by omega)
  refine wpF fun89 rfl ?_
  try simp only [wpK_assoc]
  refine wpK_reg (fun R hR => by simp []; exact hR) ?_
  try simp only [wpK_assoc]
  refine wpK_reg (fun R hR => by simp []; exact hR) ?_
  refine wpK_onF (by simp; omega) ?_
  have haA : aBin T0 .and 95 (.tmp 5) (.tmp 7) (.int .u64 (x : Nat)) (.int .u64 (xn : Nat)) = some (.int .u64 (pk : Nat)) := hand
  have haM : aBin T0 .mul 95 (.tmp 8) (.const (.int .u64 285870213051353865)) (.int .u64 (pk : Nat)) (.int .u64 285870213051353865) = some (.int .u64 (mm : Nat)) := hmul
  have haS : aBin T0 .shr 95 (.tmp 9) (.const (.int .u64 58)) (.int .u64 (mm : Nat)) (.int .u64 58) = some (.int .u64 (ii : Nat)) := hsh
  clear hand hmul hsh
  try simp only [wpK_assoc]
  refine wpK_regc (J := fun A' W' => W' = W ∧ A'.defers = [] ∧ A'.tmps.get 2 = some (.int .i64 (k : Nat))) (fun R hR => ?_) ?_
  · refine wpS_step (v := .int .u64 (x : Nat)) rfl rfl (by simp) rfl ?_
    refine wpS_step (v := .int .u64 (x : Nat)) rfl rfl (by simp) rfl ?_
    refine wpS_step (v := .int .u64 (xn : Nat)) rfl rfl (by simp [hneg]) rfl ?_
    refine wpS_step (v := .int .u64 (pk : Nat)) rfl rfl (aOp_bin rfl (by simp) (by simp) haA) rfl ?_
    refine wpS_step (v := .int .u64 (mm : Nat)) rfl rfl (aOp_bin rfl (by simp) rfl haM) rfl ?_
    refine wpS_step (v := .int .u64 (ii : Nat)) rfl rfl (aOp_bin rfl (by simp) rfl haS) rfl ?_
    refine wpS_step (v := .pointer (some ⟨0, ii, none⟩)) rfl rfl (aOp_ix rfl (aEvalF_glob glob0) (by simp) hixx) rfl ?_
    clear haA haM haS hixx
    simp [hld, conv_5_3, hwk]
    apply hR
    exact ⟨rfl, rfl, by simp⟩
  rintro ⟨tm, n, ds⟩ W' ⟨rfl, hd, h2⟩
  simp only at hd h2
  subst hd
  exact wpK_ret ⟨.inr rfl, rfl, [.int .i64 (k : Nat)], by simp [h2], rfl, rfl⟩
end
theorem first_wp {W : AW} (hT : tabsIn T0 T0.tabs W = true) {x k : Nat} (hx : x < 18446744073709551616) (h1 : x.testBit k = true) (h2 : ∀ j, j < k → x.testBit j = false) : WpF T0 81 [.int .u64 (x : Nat)] W (fun v W' => W' = W ∧ v = .int .i64 (k : Nat)) := by
  refine wpF fun81 rfl ?_
  try simp only [wpK_assoc]
  refine wpK_reg (fun R hR => by simp []; exact hR) ?_
  try simp only [wpK_assoc]
  refine wpK_reg (fun R hR => by
      simp [aEnter, fun89, short_other, aCallV]; rw [callS_none]
      refine (tz_wp hT hx h1 h2).mono ?_
      rintro _ W9 ⟨e9, rfl⟩; subst W9
      simp []; exact hR) ?_
  exact wpK_ret ⟨.inr rfl, rfl, [.int .i64 (k : Nat)], by simp, rfl, rfl⟩

end Go.Proofs.YtdpnplanohgecaaDoor

open Go Go.Eng
namespace Go.Proofs.YtdpnplanohgecaaDoor
attribute [local congr] undef_congr WpK.congr WpS.congr WpL.congr WpC.congr WpF.congr gotS.congr callS.congr nextS.congr wantS.congr condS.congr
attribute [local irreducible] WpK
attribute [local simp] WpDr_nil WpDr_cons atS_some dwantS_true dwantS_false kindS_light kindS_float kindS_heavy lightS_value floatS_some heavyS_value heavyS_skip heavyS_enter dcallS_some doneS_eq
  isLight isFloat isPlain dLook testBit_dec dChain dLights_nil dLights_skip dLights_one dLight_nil dLight_cons dFreshes_nil dFreshes_one oneF_none oneF_some dFresh_nil dFresh_cons oneL_some oneW_true oneW_false sameV_value dPut dMay valEq arrEq listEq List.getElem?_cons Tr.get_nil dEnd
attribute [local simp] WpS_nil WpS_cons isDefer undef_false wantS_true wantS_false nextS_value nextS_skip nextS_enter callS_some gotS_some aWanted aOp aEvalF aEval opMove opAssign opPick aVal flat flat1 AAct.put opBinOp opConvert opIndex Tr.get_set Tr.get_lay aBin aResults tupled
  aCall aVals aCallB blt_dec ble_dec beq_dec aBinI_add aBinI_sub aBinI_lss aBinI_leq aBinI_gtr aBinI_geq aBinI_eql aBinI_neq index_str len_str len_slice Nat.beq_refl Nat.beq_refl
  opBox opLoad opFieldAddr opIndexAddr acells aAddr opExtract aExtract opUnOp opAlloc opStore opMakeInterface opNilCheck opBuild aParts opBuildSlice aValW
attribute [local simp] und2 und3 und4 und5 und9 und12 field13_0 field13_1 und21 und22 field23_0 field23_1 field24_0 field24_1 field25_0 field25_1 und28 und31 field34_0 field34_1 field34_2 field35_0 field35_1 field35_2 und46 field50_0 field50_1 field50_2 und55 und56 und58 und61 und62 und73 und75 und90 und94 und95 und96 field97_0 field97_1 field97_2 field97_3 field97_4 field97_5 field97_6 field98_0 field98_1 field98_2 field98_3 field98_4 field98_5 field98_6 und99 und106 field107_0 field107_1 field108_0 field108_1 und119 und122 field124_0 field124_1 field124_2 field125_0 field125_1 field125_2 field131_0 field131_1 field132_0 field132_1 und133 field134_0 field134_1 field135_0 field135_1 und148 und156 und160
set_option maxHeartbeats 4000000
set_option linter.unusedSimpArgs false
set_option linter.unusedVariables false
theorem bs31 (W : AW) (n : Int) : aBuildSlice T0 W 31 1 [(0, .int .i64 n)] = some (.slice (some ⟨W.next, 0, none⟩) 1 2, W.newCells 3 [.int .i64 n]) := by kernel_rfl
def intsV (l : List Int) : List Value := l.map (Value.int .i64)
/-! ### loops over the places of a set -/
/-- a loop over a function, the world at its beginning by what is to be known of it -/
theorem wpK_range2 {T : Tabs} {f₀ : FuncId} {A : AAct} {W : AW} {Q : AExit → AAct → AW → Prop} {id : Nat} {b : Code} {g : Operand} {ps : Array Tmp} {asn bd : Code} {f : FuncId} {first cap : Array Value} {fn : Func}
    (hg : aEval T A.tmps g = some (.func (.func f) first cap)) (hf : T.funcs.get f = some fn)
    (h : ∀ W5 : AW, W5.next = W.next + 2 → (∀ b, b < W.next → W5.blocks.get b = W.blocks.get b) → W5.blocks.get W.next = some ⟨.deferred (some []), []⟩ → W5.blocks.get (W.next + 1) = some ⟨.loop .ready none f₀ A.tmps A.n ps asn bd W.next, []⟩ →
      WpF T f (first.toList ++ .func (.yield (W.next + 1)) #[] #[] :: cap.toList) W5 (fun _ W₂ =>
      ∃ st p fn' t' n' ps' as' bd' df', W₂.blocks.get (W.next + 1) = some ⟨.loop st p fn' t' n' ps' as' bd' df', []⟩ ∧ st ≠ .busy ∧
        goOn (leaves id (behind Q fun A' W' => WpK T ⟨f₀, none⟩ b A' W' Q)) { A with defers := { target := .collected W.next, args := #[] } :: A.defers } (W₂.setObj (W.next + 1) (.loop .exhausted p fn' t' n' ps' as' bd' df')) p)) :
    WpK T ⟨f₀, none⟩ (.seq (.block id (.rangeFunc g ps asn bd)) b) A W Q := by
  try simp only [wpK_assoc]
  refine wpK_range hg hf (h _ rfl (fun b hb => ?_) ?_ ?_)
  · simp only [AW.beforeLoop, AW.new, Tr.get_set]; rw [if_neg (by omega), if_neg (by omega)]
  · simp only [AW.beforeLoop, AW.new, Tr.get_set]; rw [if_neg (by omega), if_true]
  · simp only [AW.beforeLoop, AW.new, Tr.get_set]; rw [if_true]
theorem setObj_get (W : AW) (r : Nat) (o : AObj) (b : Nat) : (W.setObj r o).blocks.get b = if b = r then some ⟨o, []⟩ else W.blocks.get b := by
  simp only [AW.setObj, Tr.get_set]
theorem setObj_next (W : AW) (r : Nat) (o : AObj) : (W.setObj r o).next = W.next := rfl
theorem setObj_only (W : AW) (r : Nat) (o : AObj) : Only (fun b => b = r) W (W.setObj r o) := ⟨Nat.le_refl _, fun b _ hb => by rw [setObj_get, if_neg hb]⟩
/-- a set without its least place -/
def dropLow (x : Nat) : Nat := x &&& (x - 1)
theorem dropLow_bit {x k : Nat} (h1 : x.testBit k = true) (h2 : ∀ j, j < k → x.testBit j = false) (i : Nat) : (dropLow x).testBit i = (x.testBit i && decide (i ≠ k)) := by
  rw [dropLow, Nat.testBit_and, pred_bits h1 h2]
  by_cases hlt : i < k
  · rw [if_pos hlt, h2 i hlt]; rfl
  · rw [if_neg hlt]
    by_cases e : i = k
    · subst e; simp
    · rw [if_neg e]; simp [-testBit_dec, e]
theorem dropLow_lt {x : Nat} (h : x ≠ 0) : dropLow x < x := by
  have := Nat.and_le_right (n := x) (m := x - 1)
  unfold dropLow; omega
/-- a loop over the places of x, that is never left -/
theorem places1_wp {l bx x : Nat} (C : Nat → AW → Prop) (hx : x < 18446744073709551616)
    (hC : ∀ left k W, C left W → left < 18446744073709551616 → left.testBit k = true → (∀ j, j < k → left.testBit j = false) → tabsIn T0 T0.tabs W = true ∧ ∃ st pd fn t n ps asn bd df kin t', W.blocks.get l = some ⟨.loop st pd fn t n ps asn bd df, kin⟩ ∧ aSetAll t n ps.toList [.int .i64 (k : Nat)] = some t' ∧
      WpR T0 l fn t' n asn bd W (fun v W' => v = .bool true ∧ C (dropLow left) W'))
    {W : AW} (h0 : C x W) (hb : W.Has bx 0 (.int .u64 (x : Nat))) : WpF T0 86 [.func (.yield l) #[] #[], .pointer (some ⟨bx, 0, none⟩)] W (fun _ W' => C 0 W') := by
  have hl := load_of und96 rfl hb
  refine wpF fun86 rfl ?_
  try simp only [wpK_assoc]
  refine wpK_reg (fun R hR => by simp [hl]; exact hR) ?_
  try simp only [wpK_assoc]
  refine wpK_while1 (I := fun k A W' => A.n = 16 ∧ A.defers = [] ∧ A.tmps.get 0 = some (.func (.yield l) #[] #[]) ∧ A.tmps.get 3 = some (.int .u64 (k : Nat)) ∧ k < 18446744073709551616 ∧ C k W')
    (J := fun A W' => A.defers = [] ∧ C 0 W') (Rt := fun _ _ => False) (k := x) ?_ ?_ ?_ ?_
  · exact ⟨rfl, rfl, by simp, by simp, hx, h0⟩
  · rintro k ⟨tm, n, ds⟩ W3 ⟨hn, hd, h0, h3, hk, hCk⟩ Q' hJ hRt hI
    simp only at hn hd h0
    subst hn; subst hd
    simp only at h3
    by_cases hz : k = 0
    · subst hz
      try simp only [wpK_assoc]
      refine wpK_reg (fun R hR => by simp [h3]; exact hR) ?_
      try simp only [wpK_assoc]
      first | refine wpK_onF (by simp []) ?_ | refine wpK_out (by simp []) ?_ | refine wpK_condF (by simp []) ?_ | refine wpK_endF (by simp []) (wpK_skip ?_) | refine wpK_endF (by simp []) ?_
      exact hJ _ _ ⟨rfl, hCk⟩
    have hz' : ¬ (k : Int) = 0 := by omega
    try simp only [wpK_assoc]
    refine wpK_reg (fun R hR => by simp [h3, hz', hz]; exact hR) ?_
    try simp only [wpK_assoc]
    first | refine wpK_onT (by simp []) ?_ | refine wpK_outT (by simp []) ?_ | refine wpK_condT (by simp []) ?_ | refine wpK_endT (by simp []) ?_
    obtain ⟨q, hq1, hq2⟩ := low_ex hz
    obtain ⟨hT, st, pd, fn, t', n', ps, asn, bd, df, kin, tt, hy1, hy2, hy3⟩ := hC k q W3 hCk hk hq1 hq2
    refine wpK_block ?_
    try simp only [wpK_assoc]
    refine wpK_x0 (fun R hR => by
      simp [h0, h3, aEnter, fun81, short_other, aCallV]; rw [callS_none]
      refine (first_wp hT hk hq1 hq2).mono ?_
      rintro _ W9 ⟨e9, rfl⟩; subst W9
      simp [aEnter, hy1, hy2, aCallV, nextS_round]
      refine hy3.mono ?_
      rintro _ W4 ⟨rfl, hC4⟩
      simp; exact hR W4 hC4) ?_
    rintro W4 hC4
    try simp only [wpK_assoc]
    first | refine wpK_onF (by simp []) ?_ | refine wpK_out (by simp []) ?_ | refine wpK_condF (by simp []) ?_ | refine wpK_endF (by simp []) (wpK_skip ?_) | refine wpK_endF (by simp []) ?_
    have w1 : IntKind.u64.wrap ((k : Int) - 1) = ((k - 1 : Nat) : Int) := by
      have : ((k : Int) - 1) = ((k - 1 : Nat) : Int) := by omega
      rw [this]; exact wrap_nat .u64 _ (by show k - 1 < 18446744073709551616; omega)
    have hand := aBinI_and .u64 k (k - 1) (by show k < 18446744073709551616; omega) (by show k - 1 < 18446744073709551616; omega)
    have hlt := dropLow_lt hz
    try simp only [wpK_assoc]
    refine wpK_reg1 (fun R hR => by simp [h3, w1, hand]; exact hR) ?_
    exact hI (dropLow k) _ _ hlt ⟨rfl, rfl, by simp [h0], by simp; rfl, by omega, hC4⟩
  · rintro A' W' hf; exact hf.elim
  · rintro A' W' ⟨h1, h2⟩
    exact ⟨.inl rfl, h1, [], by rfl, h2⟩
theorem places_wp {W : AW} (x : Nat) : WpF T0 77 [.int .u64 (x : Nat)] W (fun v W' => Ext W W' ∧ v = .func (.func 86) ⟨[]⟩ ⟨[.pointer (some ⟨W.next, 0, none⟩)]⟩ ∧ W'.Has W.next 0 (.int .u64 (x : Nat))) := by
  refine wpF fun77 rfl ?_
  try simp only [wpK_assoc]
  refine wpK_reg (fun R hR => by simp []; exact hR) ?_
  try simp only [wpK_assoc]
  refine wpK_reg (fun R hR => by simp [opMakeFunc]; exact hR) ?_
  exact wpK_ret ⟨.inr rfl, rfl, [.func (.func 86) ⟨[]⟩ ⟨[.pointer (some ⟨W.next, 0, none⟩)]⟩], by simp, .newCells _ _ _, rfl, (Var.new W 96 [.int .u64 (x : Nat)]).has rfl⟩
end Go.Proofs.YtdpnplanohgecaaDoor

open Go Go.Eng
namespace Go.Proofs.YtdpnplanohgecaaDoor
open Go.ChangeShapes Go.WideShapes Go.ChangeAt Go.RowKit

section
variable {H : Type} {enc : TypeId × Value → H} {P : Program} {w : World}

theorem add_block (a : Addr) (n : Nat) : (a.add n).block = a.block := by unfold Addr.add; split <;> rfl
theorem add_off (a : Addr) (n : Nat) : (a.add n).off = a.off + n := by unfold Addr.add; split <;> simp_all
end
theorem own : ownKnob Tryd.prog.godebug = none := by kernel_rfl
theorem laidOut : laidOutB Tryd.prog = true := by kernel_rfl
theorem T0_globs : ∀ g u, T0.globs.get g = some u → g = 0 := fun g u h => by
  have h : (Tr.set Tr.nil 0 ()).get g = some u := h
  rw [Tr.get_set] at h
  split at h
  · assumption
  · rw [Tr.get_nil] at h; cases h

def tabL : List Int := [0, 1, 56, 2, 57, 49, 28, 3, 61, 58, 42, 50, 38, 29, 17, 4, 62, 47, 59, 36, 45, 43, 51, 22, 53, 39, 33, 30, 24, 18, 12, 5, 63, 55, 48, 27, 60, 41, 37, 16, 46, 35, 44, 21, 52, 32, 23, 11, 54, 26, 40, 15, 34, 20, 31, 10, 25, 14, 19, 9, 13, 8, 7, 6]
/-- the variable of the library lies in the world -/
theorem tab_of_laid {W : World} (h : laidMet Tryd.prog [("math/bits.deBruijn64tab", Rows.laid_math_bits_deBruijn64tab)] W) : ∀ i (h : i < tabL.length), W.cell? ⟨0, i, none⟩ = some (.int .u8 tabL[i]) := by
  have hg : Tryd.prog.globalNamed "math/bits.deBruijn64tab" = some 0 := by kernel_rfl
  have ht := Lib.tabIs_of_head (P := Tryd.prog) (W := W) (k := .u8) (zs := tabL) (rest := []) (t := 148) (e := 5) (n := 64) hg (by kernel_rfl) Tryd.underlying148 Tryd.underlying5 (by kernel_rfl) (by kernel_rfl) h
  intro i hi
  have := ht.cell hg i hi
  rw [this, List.getD_eq_getElem?_getD, List.getElem?_eq_getElem hi]; rfl
theorem tab_cells {W : World} (h : ∀ i (h : i < tabL.length), W.cell? ⟨0, i, none⟩ = some (.int .u8 tabL[i])) : isCells W 0 = true ∧ 0 < (embW W).next ∧ tabsIn T0 T0.tabs (embW W) = true := by
  have h0 := h 0 (by decide)
  have hc := isCells_cell h0
  refine ⟨hc, isCells_lt hc, ?_⟩
  have key : tabIn ⟨0, tabL.map (Value.int .u8)⟩ (embW W) = true := by
    unfold isCells at hc
    split at hc
    case h_2 => cases hc
    rename_i c el fz ho
    unfold tabIn
    simp only [embW_get, ho, Option.map_some, embO]
    have hcell : ∀ i (hi : i < tabL.length), c[i]? = some (.int .u8 tabL[i]) := fun i hi => by
      have := h i hi
      simpa [World.cell?, ho] using this
    have hsz : tabL.length ≤ c.size := by
      have := (Array.getElem?_eq_some_iff.1 (hcell 63 (by decide))).1
      show 64 ≤ c.size; omega
    have htake : (Tr.nil.layO 0 (c.toList.map (absV W))).take 0 (tabL.map (Value.int .u8)).length = some (tabL.map (Value.int .u8)) := by
      refine take_get _ _ 0 _ rfl (fun j hj => ?_)
      have hj' : j < tabL.length := by simpa using hj
      rw [Nat.zero_add, Tr.get_layO _ _ _ _ (.inl (Tr.get_nil _)), if_pos (by simp; omega)]
      simp only [Nat.sub_zero, List.getElem?_map, Array.getElem?_toList, hcell j hj', Option.map_some, Option.getD_some, List.getElem?_eq_getElem hj']
      rfl
    rw [htake]
    simp only [ble_dec, List.length_map, hsz, decide_true]
    have hf : allB flat (tabL.map (Value.int .u8)) = true := by decide
    rw [hf]
    simp only
    have : ∀ l : List Int, listEq (l.map (Value.int .u8)) (l.map (Value.int .u8)) = true := fun l => by
      induction l with
      | nil => rfl
      | cons a l ih => simp only [List.map_cons]; exact listEq_cons (valEq_int _ _) ih
    exact this tabL
  show tabsIn T0 [⟨0, tabL.map (Value.int .u8)⟩] (embW W) = true
  simp only [tabsIn, key]
  rfl
/-- a world in which the variable lies -/
noncomputable def laidWorld (os : Os) : World :=
  let w0 := World.holding Tryd.prog os ⟨#[], #[], []⟩
  { w0 with heap := w0.heap.modify 0 fun
      | .cells _ t frozen => .cells (tabL.map (Value.int .u8)).toArray t frozen
      | o => o }
theorem laid_met (os : Os) (args : Array Value) : laidMet Tryd.prog [("math/bits.deBruijn64tab", Rows.laid_math_bits_deBruijn64tab)] ((laidWorld os).forCall (fun _ _ => 0) ⟨#[], args, []⟩).memory :=
  laidMet_of_run' 8 (by kernel_rfl) (by kernel_rfl)
theorem globs_cells {W : World} (h : isCells W 0 = true) : ∀ g u, T0.globs.get g = some u → isCells W g = true := fun g u hu => by
  rw [T0_globs g u hu]; exact h
end Go.Proofs.YtdpnplanohgecaaDoor

open Go Go.Eng
namespace Go.Proofs.YtdpnplanohgecaaDoor
attribute [local congr] undef_congr WpK.congr WpS.congr WpL.congr WpC.congr WpF.congr gotS.congr callS.congr nextS.congr wantS.congr condS.congr
attribute [local irreducible] WpK
attribute [local simp] WpDr_nil WpDr_cons atS_some dwantS_true dwantS_false kindS_light kindS_float kindS_heavy lightS_value floatS_some heavyS_value heavyS_skip heavyS_enter dcallS_some doneS_eq
  isLight isFloat isPlain dLook testBit_dec dChain dLights_nil dLights_skip dLights_one dLight_nil dLight_cons dFreshes_nil dFreshes_one oneF_none oneF_some dFresh_nil dFresh_cons oneL_some oneW_true oneW_false sameV_value dPut dMay valEq arrEq listEq List.getElem?_cons Tr.get_nil dEnd
attribute [local simp] WpS_nil WpS_cons isDefer undef_false wantS_true wantS_false nextS_value nextS_skip nextS_enter callS_some gotS_some aWanted aOp aEvalF aEval opMove opAssign opPick aVal flat flat1 AAct.put opBinOp opConvert opIndex Tr.get_set Tr.get_lay aBin aResults tupled
  aCall aVals aCallB blt_dec ble_dec beq_dec aBinI_add aBinI_sub aBinI_lss aBinI_leq aBinI_gtr aBinI_geq aBinI_eql aBinI_neq index_str len_str len_slice Nat.beq_refl Nat.beq_refl
  opBox opLoad opFieldAddr opIndexAddr acells aAddr opExtract aExtract opUnOp opAlloc opStore opMakeInterface opNilCheck opBuild aParts opBuildSlice aValW
attribute [local simp] und2 und3 und4 und5 und9 und12 field13_0 field13_1 und21 und22 field23_0 field23_1 field24_0 field24_1 field25_0 field25_1 und28 und31 field34_0 field34_1 field34_2 field35_0 field35_1 field35_2 und46 field50_0 field50_1 field50_2 und55 und56 und58 und61 und62 und73 und75 und90 und94 und95 und96 field97_0 field97_1 field97_2 field97_3 field97_4 field97_5 field97_6 field98_0 field98_1 field98_2 field98_3 field98_4 field98_5 field98_6 und99 und106 field107_0 field107_1 field108_0 field108_1 und119 und122 field124_0 field124_1 field124_2 field125_0 field125_1 field125_2 field131_0 field131_1 field132_0 field132_1 und133 field134_0 field134_1 field135_0 field135_1 und148 und156 und160
set_option maxHeartbeats 4000000
set_option linter.unusedSimpArgs false
set_option linter.unusedVariables false
/-! ### graphs -/
/-- a store into one cell of a variable -/
theorem var_store1 {W : AW} {p : Nat} {el t : TypeId} {l : List Value} (h : Var W p el l) {i : TypeInfo} {v : Value} {o : Nat} (hi : T0.info.get t = some i) (hs : i.size = 1) (hv : acells v = [v]) (hv1 : Value.oneCell' v = true) (ho : o < l.length) :
    ∃ W', aStoreVar T0 W t p o v = some W' ∧ W'.next = W.next ∧ Only (fun b => b = p) W W' ∧ Var W' p el (l.set o v) := by
  obtain ⟨W', h1, h2, h3, h4⟩ := h.store (T := T0) (t := t) (v := v) (o := o) hi (by rw [hv, hs]; rfl) (by rw [hv]; simp; omega) (by rw [hv]; simp only [allB, hv1])
  refine ⟨W', h1, h2, h3, ?_⟩
  rw [hv] at h4
  have e : l.take o ++ [v] ++ l.drop (o + [v].length) = l.set o v := by
    rw [List.set_eq_take_append_cons_drop, if_pos ho]; simp
  rw [e] at h4; exact h4
def pr (a b : Int) : Value := .agg ⟨[.int .i64 a, .int .i64 b]⟩
theorem keyEq_pr (a b c d : Int) : keyEq (pr a b) (pr c d) = (decide (a = c) && decide (b = d)) := by
  have h1 : ∀ x y : Int, key1Eq (.int .i64 x) (.int .i64 y) = decide (x = y) := fun x y => by
    cases x <;> cases y <;> simp [key1Eq] <;> omega
  simp only [pr, keyEq, keysEq, h1]
  cases decide (a = c) <;> cases decide (b = d) <;> rfl
theorem keyOk135 (a b : Int) : keyOk T0 135 (pr a b) = true := by kernel_rfl
theorem keyOk55 (a b : Int) : keyOk T0 55 (pr a b) = true := by kernel_rfl
theorem load55 {W : AW} {b p : Nat} {x y : Int} (h : ∀ j u, (encP (x, y))[j]? = some u → W.Has b (p + j) u) : aLoadVar T0 W 55 b p = some (pr x y) :=
  load_cells (l := encP (x, y)) und55 rfl inf55 (by rw [is55]; rfl) (by show 0 < 2; omega) h
theorem ix55 (p o q : Nat) (hq : q < 2) : aIndexAddr T0 55 (.pointer (some ⟨p, o, none⟩)) (.int .i64 (q : Nat)) = some (.pointer (some ⟨p, o + q, none⟩)) := by
  show aIndexAddr T0 55 (.pointer (some ⟨p, o, none⟩)) (.int .i64 (Int.ofNat q)) = _
  simp only [aIndexAddr, und55, sz3, blt_dec, hq, decide_true, Nat.mul_one]
theorem ix55_0 (p o : Nat) : aIndexAddr T0 55 (.pointer (some ⟨p, o, none⟩)) (.int .i64 0) = some (.pointer (some ⟨p, o, none⟩)) := ix55 p o 0 (by omega)
theorem ix55_1 (p o : Nat) : aIndexAddr T0 55 (.pointer (some ⟨p, o, none⟩)) (.int .i64 1) = some (.pointer (some ⟨p, o + 1, none⟩)) := ix55 p o 1 (by omega)
theorem ix106 (p o q : Nat) (hq : q < 40) : aIndexAddr T0 106 (.pointer (some ⟨p, o, none⟩)) (.int .i64 (q : Nat)) = some (.pointer (some ⟨p, o + q, none⟩)) := by
  show aIndexAddr T0 106 (.pointer (some ⟨p, o, none⟩)) (.int .i64 (Int.ofNat q)) = _
  simp only [aIndexAddr, und106, sz96, blt_dec, hq, decide_true, Nat.mul_one]
theorem build55 (a b : Int) : aBuild T0 55 [(0, .int .i64 a), (1, .int .i64 b)] = some (pr a b) := by kernel_rfl
theorem build135 (a b : Int) : aBuild T0 135 [(0, .int .i64 a), (1, .int .i64 b)] = some (pr a b) := by kernel_rfl
def zer40 : List Value := List.replicate 40 (.int .u64 0)
theorem build108 (P : Int) : aBuild T0 108 [(0, .int .i64 P)] = some (.agg ⟨.int .i64 P :: zer40⟩) := by kernel_rfl
theorem build25 (P : Int) (A : Option Addr) (n c : Nat) : aBuild T0 25 [(0, .int .i64 P), (1, .slice A n c)] = some (.agg ⟨[.int .i64 P, .slice A n c]⟩) := by kernel_rfl
theorem aAgg55 (a b c d : Int) : aAgg T0 .eql 55 (pr a b) (pr c d) = some (.bool (decide (a = c) && decide (b = d))) := by
  rw [← keyEq_pr]
  simp only [aAgg, und55, und3, keyOk55]

theorem row_eq {α : Type} {sz : Nat} {enc : α → List Value} {W : AW} {v : Value} {l : List α} (h : RowIn sz enc W v l) : valEq v v = true := by
  obtain ⟨A, c, rfl, _⟩ := h
  rcases A with _ | ⟨b, o, _ | x⟩ <;> simp
abbrev Edge := Int × Int
/-- the first k edges are as they should be -/
def GoodTo (P : Int) (es : List Edge) (k : Nat) : Prop := ∀ i, i < k → ∀ a b, es[i]? = some (a, b) → 0 ≤ a ∧ a < P ∧ 0 ≤ b ∧ b < P ∧ a ≠ b ∧ ∀ j, j < i → es[j]? ≠ some (a, b) ∧ es[j]? ≠ some (b, a)
def GraphOk (P : Int) (es : List Edge) : Prop := 1 ≤ P ∧ P ≤ 40 ∧ es.length ≤ 300 ∧ GoodTo P es es.length
open Classical in
noncomputable def chkG (P : Int) (es : List Edge) : Int := if GraphOk P es then 0 else 40
theorem chkG_ok {P : Int} {es : List Edge} (h : GraphOk P es) : chkG P es = 0 := if_pos h
theorem chkG_no {P : Int} {es : List Edge} (h : ¬ GraphOk P es) : chkG P es = 40 := if_neg h
theorem GoodTo.not {P : Int} {es : List Edge} {k : Nat} (h : ¬ GoodTo P es (k + 1)) (hk : k < es.length) : ¬ GraphOk P es := fun hg => h (fun i hi => hg.2.2.2 i (by omega))
theorem GoodTo.succ {P : Int} {es : List Edge} {k : Nat} {a b : Int} (h : GoodTo P es k) (ha : es[k]? = some (a, b)) (h1 : 0 ≤ a ∧ a < P ∧ 0 ≤ b ∧ b < P ∧ a ≠ b) (h2 : ∀ j, j < k → es[j]? ≠ some (a, b) ∧ es[j]? ≠ some (b, a)) : GoodTo P es (k + 1) := fun i hi x y hx => by
  by_cases e : i = k
  · subst e; rw [ha] at hx; cases hx
    exact ⟨h1.1, h1.2.1, h1.2.2.1, h1.2.2.2.1, h1.2.2.2.2, h2⟩
  · exact h i (by omega) x y hx

/-! the reference's check -/
theorem refCheck_wp {W : AW} {v : Value} (P : Int) {es : List Edge} (h : PairR W v es) (hl : es.length < 4611686018427387904) : WpF T0 14 [.agg ⟨[.int .i64 P, v]⟩] W (fun u W' => Ext W W' ∧ u = .int .i64 (chkG P es)) := by
  refine wpF fun14 rfl ?_
  obtain ⟨W1, hW1, hE1, hn1, hV⟩ : ∃ W1, W1 = W.newCells 24 [.int .i64 P, v] ∧ Ext W W1 ∧ W1.next = W.next + 1 ∧ Var W1 W.next 24 [.int .i64 P, v] := ⟨_, rfl, .newCells _ _ _, rfl, Var.new _ _ _⟩
  have hR := h.ext hE1
  obtain ⟨A, c, hv⟩ := h.len
  have l0 := hV.load1 (T := T0) und3 rfl (j := 0) (v := .int .i64 P) rfl
  have l1 := hV.load1 (T := T0) und22 rfl (j := 1) (v := v) rfl
  have ll : aLen T0 W1 22 v = some (.int .i64 es.length) := by rw [hv]; exact len_slice und22 _ _ _
  try simp only [wpK_assoc]
  refine wpK_reg (fun R hR => by simp [← hW1]; exact hR) ?_
  by_cases h1 : P < 1
  · try simp only [wpK_assoc]
    refine wpK_reg (fun R hR => by simp [l0, h1]; exact hR) ?_
    try simp only [wpK_assoc]
    first | refine wpK_onT (by simp []) ?_ | refine wpK_outT (by simp []) ?_ | refine wpK_condT (by simp []) ?_ | refine wpK_endT (by simp []) ?_
    try simp only [wpK_assoc]
    refine wpK_reg (fun R hR => by simp []; exact hR) ?_
    exact wpK_ret ⟨.inr rfl, rfl, [.int .i64 40], by simp, hE1, by rw [chkG_no (fun hg => by have := hg.1; omega)]; rfl⟩
  by_cases h2 : 40 < P
  · try simp only [wpK_assoc]
    refine wpK_reg (fun R hR => by simp [l0, h1, h2]; exact hR) ?_
    try simp only [wpK_assoc]
    first | refine wpK_onT (by simp []) ?_ | refine wpK_outT (by simp []) ?_ | refine wpK_condT (by simp []) ?_ | refine wpK_endT (by simp []) ?_
    try simp only [wpK_assoc]
    refine wpK_reg (fun R hR => by simp []; exact hR) ?_
    exact wpK_ret ⟨.inr rfl, rfl, [.int .i64 40], by simp, hE1, by rw [chkG_no (fun hg => by have := hg.2.1; omega)]; rfl⟩
  by_cases h3 : (300 : Int) < es.length
  · try simp only [wpK_assoc]
    refine wpK_reg (fun R hR => by simp [l0, l1, ll, h1, h2, h3]; exact hR) ?_
    try simp only [wpK_assoc]
    first | refine wpK_onT (by simp []) ?_ | refine wpK_outT (by simp []) ?_ | refine wpK_condT (by simp []) ?_ | refine wpK_endT (by simp []) ?_
    try simp only [wpK_assoc]
    refine wpK_reg (fun R hR => by simp []; exact hR) ?_
    exact wpK_ret ⟨.inr rfl, rfl, [.int .i64 40], by simp, hE1, by rw [chkG_no (fun hg => by have := hg.2.2.1; omega)]; rfl⟩
  try simp only [wpK_assoc]
  refine wpK_reg (fun R hR => by simp [l0, l1, ll, h1, h2, h3]; exact hR) ?_
  try simp only [wpK_assoc]
  first | refine wpK_onF (by simp []) ?_ | refine wpK_out (by simp []) ?_ | refine wpK_condF (by simp []) ?_ | refine wpK_endF (by simp []) (wpK_skip ?_) | refine wpK_endF (by simp []) ?_
  try simp only [wpK_assoc]
  refine wpK_reg (fun R hR => by simp []; exact hR) ?_
  try simp only [wpK_assoc]
  refine wpK_while (I := fun k A W' => A.n = 88 ∧ A.defers = [] ∧ A.tmps.get 1 = some (.pointer (some ⟨W.next, 0, none⟩)) ∧ W' = W1 ∧ ∃ i : Nat, A.tmps.get 3 = some (.int .i64 (i : Int)) ∧ k = es.length - i ∧ i ≤ es.length ∧ GoodTo P es i)
    (J := fun A W' => A.n = 88 ∧ A.defers = [] ∧ A.tmps.get 1 = some (.pointer (some ⟨W.next, 0, none⟩)) ∧ W' = W1 ∧ GoodTo P es es.length) (Rt := fun A W' => A.defers = [] ∧ W' = W1 ∧ A.tmps.get 2 = some (.int .i64 40) ∧ ¬ GraphOk P es) (k := es.length) ?_ ?_ ?_ ?_
  · exact ⟨rfl, rfl, by simp, rfl, 0, by simp, rfl, by omega, fun i hi => by omega⟩
  · rintro k ⟨tm, n, ds⟩ W2 ⟨hn, hd, h1, e2, i, h3', hk, hi, hg⟩ Q' hJ hRt hI
    simp only at hn hd h1
    subst hn; subst hd
    subst W2
    simp only at h3'
    by_cases hlt : i < es.length
    case neg =>
      have e : i = es.length := by omega
      subst e
      try simp only [wpK_assoc]
      refine wpK_reg (fun R hR => by simp [h1, h3', l1, ll]; exact hR) ?_
      try simp only [wpK_assoc]
      first | refine wpK_onF (by simp []) ?_ | refine wpK_out (by simp []) ?_ | refine wpK_condF (by simp []) ?_ | refine wpK_endF (by simp []) (wpK_skip ?_) | refine wpK_endF (by simp []) ?_
      exact hJ _ _ ⟨rfl, rfl, by simp [h1], rfl, hg⟩
    have hlt' : (i : Int) < es.length := by omega
    try simp only [wpK_assoc]
    refine wpK_reg (fun R hR => by simp [h1, h3', l1, ll, hlt']; exact hR) ?_
    try simp only [wpK_assoc]
    first | refine wpK_onT (by simp []) ?_ | refine wpK_outT (by simp []) ?_ | refine wpK_condT (by simp []) ?_ | refine wpK_endT (by simp []) ?_
    obtain ⟨⟨a, b⟩, hab⟩ : ∃ e : Edge, es[i] = e := ⟨_, rfl⟩
    have ha : es[i]? = some (a, b) := by rw [List.getElem?_eq_getElem hlt, hab]
    obtain ⟨q, o, hx, hh⟩ := hR.at (T := T0) ha und22 sz55 .i64
    have la := load_of und3 rfl (hh 0 (.int .i64 a) rfl)
    have lb := load_of und3 rfl (hh 1 (.int .i64 b) rfl)
    rw [Nat.add_zero] at la
    have vv := row_eq hR
    refine wpK_block ?_
    try simp only [wpK_assoc]
    refine wpK_dn (wr := Tr.nil |>.set 28 0 |>.set 29 1 |>.set 30 2 |>.set 31 3 |>.set 32 4 |>.set 33 5 |>.set 34 6 |>.set 35 7 |>.set 36 8 |>.set 37 9 |>.set 38 10 |>.set 39 11 |>.set 4 12 |>.set 5 13) (bits := Tr.nil.lay 0 [0, 1, 0, 7, 15, 31, 0, 64, 0, 448, 960, 1984, 63, 8191]) (ord := [0, 1, 2, 3, 4, 5, 6, 7, 8, 9, 10, 11, 12, 13]) (by kernel_rfl) (by kernel_rfl) (by kernel_rfl) (fun G hG => by
      simp [h1, h3', l1, hx, ix55_0, ix55_1, la, lb, vv]
      exact hG) ?_
    refine wpK_keep (fun tm' => tm'.get 1 = some (.pointer (some ⟨W.next, 0, none⟩)) ∧ tm'.get 3 = some (.int .i64 (i : Int)) ∧ tm'.get 4 = some (.int .i64 a) ∧ tm'.get 5 = some (.int .i64 b)) ⟨by simp [h1, h3'], by simp [h1, h3'], by simp [h1, h3'], by simp [h1, h3']⟩ ?_
    rintro tm ⟨h1, h3, h4, h5⟩
    have hno : ¬ (0 ≤ a ∧ a < P ∧ 0 ≤ b ∧ b < P ∧ a ≠ b) → ¬ GraphOk P es := fun hn hg => by
      have := hg.2.2.2 i hlt a b ha
      exact hn ⟨this.1, this.2.1, this.2.2.1, this.2.2.2.1, this.2.2.2.2.1⟩
    by_cases b1 : a < 0
    · try simp only [wpK_assoc]
      refine wpK_reg (fun R hR => by simp [h4, h5, h1, l0, b1]; exact hR) ?_
      try simp only [wpK_assoc]
      first | refine wpK_onT (by simp []) ?_ | refine wpK_outT (by simp []) ?_ | refine wpK_condT (by simp []) ?_ | refine wpK_endT (by simp []) ?_
      try simp only [wpK_assoc]
      refine wpK_reg (fun R hR => by simp []; exact hR) ?_
      exact wpK_ret (hRt _ _ ⟨rfl, rfl, by simp, hno (by omega)⟩)
    by_cases b2 : P ≤ a
    · try simp only [wpK_assoc]
      refine wpK_reg (fun R hR => by simp [h4, h5, h1, l0, b1, b2]; exact hR) ?_
      try simp only [wpK_assoc]
      first | refine wpK_onT (by simp []) ?_ | refine wpK_outT (by simp []) ?_ | refine wpK_condT (by simp []) ?_ | refine wpK_endT (by simp []) ?_
      try simp only [wpK_assoc]
      refine wpK_reg (fun R hR => by simp []; exact hR) ?_
      exact wpK_ret (hRt _ _ ⟨rfl, rfl, by simp, hno (by omega)⟩)
    by_cases b3 : b < 0
    · try simp only [wpK_assoc]
      refine wpK_reg (fun R hR => by simp [h4, h5, h1, l0, b1, b2, b3]; exact hR) ?_
      try simp only [wpK_assoc]
      first | refine wpK_onT (by simp []) ?_ | refine wpK_outT (by simp []) ?_ | refine wpK_condT (by simp []) ?_ | refine wpK_endT (by simp []) ?_
      try simp only [wpK_assoc]
      refine wpK_reg (fun R hR => by simp []; exact hR) ?_
      exact wpK_ret (hRt _ _ ⟨rfl, rfl, by simp, hno (by omega)⟩)
    by_cases b4 : P ≤ b
    · try simp only [wpK_assoc]
      refine wpK_reg (fun R hR => by simp [h4, h5, h1, l0, b1, b2, b3, b4]; exact hR) ?_
      try simp only [wpK_assoc]
      first | refine wpK_onT (by simp []) ?_ | refine wpK_outT (by simp []) ?_ | refine wpK_condT (by simp []) ?_ | refine wpK_endT (by simp []) ?_
      try simp only [wpK_assoc]
      refine wpK_reg (fun R hR => by simp []; exact hR) ?_
      exact wpK_ret (hRt _ _ ⟨rfl, rfl, by simp, hno (by omega)⟩)
    by_cases b5 : a = b
    · try simp only [wpK_assoc]
      refine wpK_reg (fun R hR => by simp [h4, h5, h1, l0, b1, b2, b3, b4, b5]; exact hR) ?_
      try simp only [wpK_assoc]
      first | refine wpK_onT (by simp []) ?_ | refine wpK_outT (by simp []) ?_ | refine wpK_condT (by simp []) ?_ | refine wpK_endT (by simp []) ?_
      try simp only [wpK_assoc]
      refine wpK_reg (fun R hR => by simp []; exact hR) ?_
      exact wpK_ret (hRt _ _ ⟨rfl, rfl, by simp, hno (by omega)⟩)
    try simp only [wpK_assoc]
    refine wpK_reg (fun R hR => by simp [h4, h5, h1, l0, b1, b2, b3, b4, b5]; exact hR) ?_
    try simp only [wpK_assoc]
    first | refine wpK_onF (by simp []) ?_ | refine wpK_out (by simp []) ?_ | refine wpK_condF (by simp []) ?_ | refine wpK_endF (by simp []) (wpK_skip ?_) | refine wpK_endF (by simp []) ?_
    try simp only [wpK_assoc]
    refine wpK_reg (fun R hR => by simp []; exact hR) ?_
    try simp only [wpK_assoc]
    refine wpK_while1 (I := fun k2 A W' => A.n = 88 ∧ A.defers = [] ∧ A.tmps.get 1 = some (.pointer (some ⟨W.next, 0, none⟩)) ∧ A.tmps.get 3 = some (.int .i64 (i : Int)) ∧ A.tmps.get 4 = some (.int .i64 a) ∧ A.tmps.get 5 = some (.int .i64 b) ∧ W' = W1 ∧ ∃ j : Nat, A.tmps.get 6 = some (.int .i64 (j : Int)) ∧ k2 = i - j ∧ j ≤ i ∧ ∀ j', j' < j → es[j']? ≠ some (a, b) ∧ es[j']? ≠ some (b, a))
      (J := fun A W' => A.n = 88 ∧ A.defers = [] ∧ A.tmps.get 1 = some (.pointer (some ⟨W.next, 0, none⟩)) ∧ A.tmps.get 3 = some (.int .i64 (i : Int)) ∧ A.tmps.get 4 = some (.int .i64 a) ∧ A.tmps.get 5 = some (.int .i64 b) ∧ W' = W1 ∧ ∀ j, j < i → es[j]? ≠ some (a, b) ∧ es[j]? ≠ some (b, a)) (Rt := fun A W' => A.defers = [] ∧ W' = W1 ∧ A.tmps.get 2 = some (.int .i64 40) ∧ ¬ GraphOk P es) (k := i) ?_ ?_ ?_ ?_
    · exact ⟨rfl, rfl, by simp [h1, h3, h4, h5], by simp [h1, h3, h4, h5], by simp [h1, h3, h4, h5], by simp [h1, h3, h4, h5], rfl, 0, by simp, by omega, by omega, fun j hj => by omega⟩
    · rintro k2 ⟨tm, n, ds⟩ W2 ⟨hn, hd, h1, h3, h4, h5, e2, j, h6, hk2, hj, hdiff⟩ Q3 hJ3 hRt3 hI3
      simp only at hn hd h1 h3 h4 h5
      subst hn; subst hd
      subst W2
      simp only at h6
      by_cases hji : j < i
      case neg =>
        have e : j = i := by omega
        subst e
        try simp only [wpK_assoc]
        refine wpK_reg (fun R hR => by simp [h1, h3, h6]; exact hR) ?_
        try simp only [wpK_assoc]
        first | refine wpK_onF (by simp []) ?_ | refine wpK_out (by simp []) ?_ | refine wpK_condF (by simp []) ?_ | refine wpK_endF (by simp []) (wpK_skip ?_) | refine wpK_endF (by simp []) ?_
        exact hJ3 _ _ ⟨rfl, rfl, by simp [h1, h3, h4, h5], by simp [h1, h3, h4, h5], by simp [h1, h3, h4, h5], by simp [h1, h3, h4, h5], rfl, hdiff⟩
      have hji' : (j : Int) < i := by omega
      try simp only [wpK_assoc]
      refine wpK_reg (fun R hR => by simp [h1, h3, h6, hji']; exact hR) ?_
      try simp only [wpK_assoc]
      first | refine wpK_onT (by simp []) ?_ | refine wpK_outT (by simp []) ?_ | refine wpK_condT (by simp []) ?_ | refine wpK_endT (by simp []) ?_
      obtain ⟨⟨x, y⟩, hxy⟩ : ∃ e : Edge, es[j] = e := ⟨_, rfl⟩
      have hxj : es[j]? = some (x, y) := by rw [List.getElem?_eq_getElem (by omega), hxy]
      obtain ⟨q2, o2, hx2, hh2⟩ := hR.at (T := T0) hxj und22 sz55 .i64
      have lxy := load55 hh2
      rw [pr] at lxy
      have eAB := aAgg55 x y a b
      have eBA := aAgg55 x y b a
      rw [pr, pr] at eAB eBA
      refine wpK_block ?_
      by_cases c1 : x = a ∧ y = b
      · rw [show (decide (x = a) && decide (y = b)) = true from by simp [c1.1, c1.2]] at eAB
        try simp only [wpK_assoc]
        refine wpK_reg (fun R hR => by simp [h1, h6, h4, h5, l1, hx2, lxy, build55, pr, eAB]; exact hR) ?_
        try simp only [wpK_assoc]
        first | refine wpK_onT (by simp []) ?_ | refine wpK_outT (by simp []) ?_ | refine wpK_condT (by simp []) ?_ | refine wpK_endT (by simp []) ?_
        try simp only [wpK_assoc]
        refine wpK_reg (fun R hR => by simp []; exact hR) ?_
        exact wpK_ret (hRt3 _ _ ⟨rfl, rfl, by simp, fun hg => ((hg.2.2.2 i hlt a b ha).2.2.2.2.2 j hji).1 (by rw [hxj, c1.1, c1.2])⟩)
      rw [show (decide (x = a) && decide (y = b)) = false from by simp only [Bool.and_eq_false_iff, decide_eq_false_iff_not]; omega] at eAB
      by_cases c2 : x = b ∧ y = a
      · rw [show (decide (x = b) && decide (y = a)) = true from by simp [c2.1, c2.2]] at eBA
        try simp only [wpK_assoc]
        refine wpK_reg (fun R hR => by simp [h1, h6, h4, h5, l1, hx2, lxy, build55, pr, eAB, eBA]; exact hR) ?_
        try simp only [wpK_assoc]
        first | refine wpK_onT (by simp []) ?_ | refine wpK_outT (by simp []) ?_ | refine wpK_condT (by simp []) ?_ | refine wpK_endT (by simp []) ?_
        try simp only [wpK_assoc]
        refine wpK_reg (fun R hR => by simp []; exact hR) ?_
        exact wpK_ret (hRt3 _ _ ⟨rfl, rfl, by simp, fun hg => ((hg.2.2.2 i hlt a b ha).2.2.2.2.2 j hji).2 (by rw [hxj, c2.1, c2.2])⟩)
      rw [show (decide (x = b) && decide (y = a)) = false from by simp only [Bool.and_eq_false_iff, decide_eq_false_iff_not]; omega] at eBA
      try simp only [wpK_assoc]
      refine wpK_reg (fun R hR => by simp [h1, h6, h4, h5, l1, hx2, lxy, build55, pr, eAB, eBA]; exact hR) ?_
      try simp only [wpK_assoc]
      first | refine wpK_onF (by simp []) ?_ | refine wpK_out (by simp []) ?_ | refine wpK_condF (by simp []) ?_ | refine wpK_endF (by simp []) (wpK_skip ?_) | refine wpK_endF (by simp []) ?_
      try simp only [wpK_assoc]
      refine wpK_reg1 (fun R hR => by simp [h6]; exact hR) ?_
      refine hI3 (i - (j + 1)) _ _ (by omega) ⟨rfl, rfl, by simp [h1, h3, h4, h5], by simp [h1, h3, h4, h5], by simp [h1, h3, h4, h5], by simp [h1, h3, h4, h5], rfl, j + 1, by simp [i64_succ j (by omega)], rfl, by omega, fun j' hj' => ?_⟩
      by_cases e : j' = j
      · subst e; rw [hxj]; exact ⟨fun e => by cases e; exact c1 ⟨rfl, rfl⟩, fun e => by cases e; exact c2 ⟨rfl, rfl⟩⟩
      · exact hdiff j' (by omega)
    · rintro A' W' ⟨g1, g2, g3, g4⟩
      exact hRt _ _ ⟨g1, g2, g3, g4⟩
    · rintro ⟨tm, n, ds⟩ W2 ⟨hn, hd, h1, h3, h4, h5, e2, hdiff⟩
      simp only at hn hd h1 h3 h4 h5
      subst hn; subst hd
      simp only [leaves_normal, behind_normal]
      subst W2
      try simp only [wpK_assoc]
      refine wpK_reg1 (fun R hR => by simp [h3]; exact hR) ?_
      exact hI (es.length - (i + 1)) _ _ (by omega) ⟨rfl, rfl, by simp [h1], rfl, i + 1, by simp [i64_succ i (by omega)], rfl, by omega, hg.succ ha ⟨by omega, by omega, by omega, by omega, b5⟩ hdiff⟩
  · rintro A' W' ⟨h1, rfl, h2, h3⟩
    exact ⟨.inr rfl, h1, [.int .i64 40], by simp [h2], hE1, by rw [chkG_no h3]; rfl⟩
  · rintro ⟨tm, n, ds⟩ W2 ⟨hn, hd, h1, e2, hg⟩
    simp only at hn hd h1
    subst hn; subst hd
    subst W2
    try simp only [wpK_assoc]
    refine wpK_reg (fun R hR => by simp []; exact hR) ?_
    exact wpK_ret ⟨.inr rfl, rfl, [.int .i64 0], by simp, hE1, by rw [chkG_ok ⟨by omega, by omega, by omega, hg⟩]; rfl⟩

end Go.Proofs.YtdpnplanohgecaaDoor

open Go Go.Eng
namespace Go.Proofs.YtdpnplanohgecaaDoor
attribute [local congr] undef_congr WpK.congr WpS.congr WpL.congr WpC.congr WpF.congr gotS.congr callS.congr nextS.congr wantS.congr condS.congr
attribute [local irreducible] WpK
attribute [local simp] WpDr_nil WpDr_cons atS_some dwantS_true dwantS_false kindS_light kindS_float kindS_heavy lightS_value floatS_some heavyS_value heavyS_skip heavyS_enter dcallS_some doneS_eq
  isLight isFloat isPlain dLook testBit_dec dChain dLights_nil dLights_skip dLights_one dLight_nil dLight_cons dFreshes_nil dFreshes_one oneF_none oneF_some dFresh_nil dFresh_cons oneL_some oneW_true oneW_false sameV_value dPut dMay valEq arrEq listEq List.getElem?_cons Tr.get_nil dEnd
attribute [local simp] WpS_nil WpS_cons isDefer undef_false wantS_true wantS_false nextS_value nextS_skip nextS_enter callS_some gotS_some aWanted aOp aEvalF aEval opMove opAssign opPick aVal flat flat1 AAct.put opBinOp opConvert opIndex Tr.get_set Tr.get_lay aBin aResults tupled
  aCall aVals aCallB blt_dec ble_dec beq_dec aBinI_add aBinI_sub aBinI_lss aBinI_leq aBinI_gtr aBinI_geq aBinI_eql aBinI_neq index_str len_str len_slice Nat.beq_refl Nat.beq_refl
  opBox opLoad opFieldAddr opIndexAddr acells aAddr opExtract aExtract opUnOp opAlloc opStore opMakeInterface opNilCheck opBuild aParts opBuildSlice aValW
attribute [local simp] und2 und3 und4 und5 und9 und12 field13_0 field13_1 und21 und22 field23_0 field23_1 field24_0 field24_1 field25_0 field25_1 und28 und31 field34_0 field34_1 field34_2 field35_0 field35_1 field35_2 und46 field50_0 field50_1 field50_2 und55 und56 und58 und61 und62 und73 und75 und90 und94 und95 und96 field97_0 field97_1 field97_2 field97_3 field97_4 field97_5 field97_6 field98_0 field98_1 field98_2 field98_3 field98_4 field98_5 field98_6 und99 und106 field107_0 field107_1 field108_0 field108_1 und119 und122 field124_0 field124_1 field124_2 field125_0 field125_1 field125_2 field131_0 field131_1 field132_0 field132_1 und133 field134_0 field134_1 field135_0 field135_1 und148 und156 und160
set_option maxHeartbeats 4000000
set_option linter.unusedSimpArgs false
set_option linter.unusedVariables false
/-! ### offers -/
def MatIn (W : AW) (v : Value) (ll : List (List Int)) : Prop := ∃ us : List Value, us.length = ll.length ∧ RowIn 1 encV W v us ∧ ∀ (i : Nat) u l, us[i]? = some u → ll[i]? = some l → IntR W u l
def within (m : Int) (l : List Int) : Prop := ∀ x ∈ l, -m ≤ x ∧ x ≤ m
end Go.Proofs.YtdpnplanohgecaaDoor

open Go Go.Eng
namespace Go.Proofs.YtdpnplanohgecaaDoor
open Go.ChangeShapes Go.WideShapes Go.ChangeAt Go.RowKit
/-! ### arguments that are sliced, arrays of two -/
theorem absV_row2 {w : World} {a : Addr} {n c : Nat} (h : 0 < c → ∃ v, w.cell? a = some v) (hn : n ≤ c) :
    ∃ a' c', absV w (.slice (some a) n c) = some (.slice a' n c') ∧ (0 < c → a' = some ⟨a.block, a.off, none⟩) ∧ SlOk (.slice a' n c') n := by
  by_cases hc : 0 < c
  · obtain ⟨v, hv⟩ := h hc
    have hs := cell_spot hv
    have hb := isCells_cell hv
    obtain ⟨b, o, s⟩ := a
    simp only at hs hb; subst hs
    exact ⟨some ⟨b, o, none⟩, 2 * c, by simp [absV, hb], fun _ => rfl, .inr (.inl ⟨b, o, c, rfl, hn⟩)⟩
  · obtain rfl : c = 0 := by omega
    obtain rfl : n = 0 := by omega
    obtain ⟨b, o, s⟩ := a
    cases s with
    | none =>
      by_cases hb : isCells w b = true
      · exact ⟨some ⟨b, o, none⟩, 0, by simp [absV, hb], fun x => absurd x hc, .inr (.inl ⟨b, o, 0, rfl, by omega⟩)⟩
      · exact ⟨some ⟨0, 0, some 1⟩, 0, by simp [absV, hb], fun x => absurd x hc, .inr (.inr ⟨rfl, rfl⟩)⟩
    | some s => exact ⟨some ⟨0, 0, some 1⟩, 0, rfl, fun x => absurd x hc, .inr (.inr ⟨rfl, rfl⟩)⟩
section
variable {H : Type} {enc : TypeId × Value → H} {P : Program} {w : World}
theorem wf_i64 {z : Int} (h : (Lit.int .i64 z).wf = true) : -9223372036854775808 ≤ z ∧ z < 9223372036854775808 := by
  have h1 : IntKind.i64.min = -9223372036854775808 := by decide
  simp [Lit.wf] at h; omega
/-- a slice of numbers -/
theorem ints_in2 {t e : TypeId} {fuel : Nat} {held : Bool} {v : Value} {x : DataW H × List MemPlace} (ht : P.underlying t = some (.slice e)) (he : P.underlying e = some (.int .i64)) (hc : P.cellsOf e = 1)
    (h : DataW.trod enc P w 0 (fun _ => true) held fuel t [v] = some x) : ∃ u l, absV w v = some u ∧ IntR (embW w) u l ∧ l.length < 9223372036854775808 ∧ SlOk u l.length ∧ ∀ z ∈ l, -9223372036854775808 ≤ z ∧ z < 9223372036854775808 := by
  rcases Deep.open_slice ht h with ⟨h1, _⟩ | ⟨a, len, cap, m, n, D, Pl, h1, _, h2, h3, hm, _, h4⟩
  · cases h1
    exact ⟨.slice none 0 0, [], rfl, .nil _, by simp, .inl ⟨rfl, rfl⟩, by simp⟩
  · cases h1
    simp only [if_true] at hm
    subst hm
    have each : ∀ i, i < m → ∃ z : Int, w.cell? (a.add i) = some (.int .i64 z) ∧ -9223372036854775808 ≤ z ∧ z < 9223372036854775808 := by
      intro i hi
      obtain ⟨cs', g1, g2⟩ := h4 i hi
      rw [hc, Nat.mul_one] at g1
      obtain ⟨_, hlen, hcell⟩ := World.cells?_some g1
      match cs', hlen with
      | [x0], _ =>
        obtain ⟨z0, e0, _, hz⟩ := DataW.trod_int he g2
        cases e0
        have k0 := hcell 0 (by omega)
        rw [Go.Deep.add_add] at k0
        exact ⟨z0, by simpa using k0, wf_i64 hz⟩
    obtain ⟨Z, hZ⟩ := Deep.choose_lt each
    obtain ⟨a', c', g4, g5, g6⟩ := absV_row2 (w := w) (a := a) (n := len) (c := m) (fun hc => ⟨_, by simpa [Addr.add] using (hZ 0 hc).1⟩) h2
    refine ⟨_, (List.range len).map Z, g4, ⟨a', c', by simp, fun h0 => ?_, fun i z hi => ?_⟩, by simp; unfold maxLen at h3; omega, by simpa using g6, fun z hz => ?_⟩
    · have h0 : len = 0 := by simpa using h0
      exact SlOk.emp (n := len) g6
    · have hi' : i < len := by
        have := (List.getElem?_eq_some_iff.1 hi).1
        simpa using this
      simp only [List.getElem?_map, List.getElem?_range hi', Option.map_some, Option.some.injEq] at hi
      subst hi
      have e0 := emb_has (hZ i (by omega)).1 (u := .int .i64 (Z i)) rfl
      rw [add_block, add_off] at e0
      refine ⟨a.block, a.off, g5 (by omega), fun j u hu => ?_⟩
      have hj : j = 0 := by have := (List.getElem?_eq_some_iff.1 hu).1; simp only [encI, List.length_cons, List.length_nil] at this; omega
      subst hj
      cases hu
      rw [Nat.mul_one, Nat.add_zero]; exact e0
    · simp only [List.mem_map, List.mem_range] at hz
      obtain ⟨i, hi, rfl⟩ := hz
      exact (hZ i (by omega)).2
/-- a slice of pairs of numbers -/
theorem pairs_in2 {t e e2 : TypeId} {fuel : Nat} {held : Bool} {v : Value} {x : DataW H × List MemPlace} (ht : P.underlying t = some (.slice e)) (he : P.underlying e = some (.array 2 e2)) (hc : P.cellsOf e = 2) (he2 : P.underlying e2 = some (.int .i64)) (hc2 : P.cellsOf e2 = 1)
    (h : DataW.trod enc P w 0 (fun _ => true) held fuel t [v] = some x) : ∃ u l, absV w v = some u ∧ PairR (embW w) u l ∧ l.length < 9223372036854775808 ∧ SlOk u l.length := by
  rcases Deep.open_slice ht h with ⟨h1, _⟩ | ⟨a, len, cap, m, n, D, Pl, h1, _, h2, h3, hm, _, h4⟩
  · cases h1
    exact ⟨.slice none 0 0, [], rfl, .nil _, by simp, .inl ⟨rfl, rfl⟩⟩
  · cases h1
    simp only [if_true] at hm
    subst hm
    have each : ∀ i, i < m → ∃ z : Int × Int, w.cell? (a.add (i * 2)) = some (.int .i64 z.1) ∧ w.cell? (a.add (i * 2 + 1)) = some (.int .i64 z.2) := by
      intro i hi
      obtain ⟨cs', g1, g2⟩ := h4 i hi
      rw [hc] at g1
      obtain ⟨_, hlen, hcell⟩ := World.cells?_some g1
      obtain ⟨xs, mm, _, _, _, hl, hel⟩ := DataW.trod_array he g2
      have h0 := hel 0 (by omega)
      have h1 := hel 1 (by omega)
      rw [List.getElem?_eq_getElem (by omega)] at h0 h1
      match cs', hlen with
      | [x0, x1], _ =>
        simp [hc2] at h0 h1
        obtain ⟨z0, e0, _⟩ := DataW.trod_int he2 h0
        obtain ⟨z1, e1, _⟩ := DataW.trod_int he2 h1
        cases e0; cases e1
        have k0 := hcell 0 (by omega)
        have k1 := hcell 1 (by omega)
        rw [Go.Deep.add_add] at k0 k1
        exact ⟨(z0, z1), by simpa using k0, by simpa using k1⟩
    obtain ⟨Z, hZ⟩ := Deep.choose_lt each
    obtain ⟨a', c', g4, g5, g6⟩ := absV_row2 (w := w) (a := a) (n := len) (c := m) (fun hc => ⟨_, by simpa [Addr.add] using (hZ 0 hc).1⟩) h2
    refine ⟨_, (List.range len).map Z, g4, ⟨a', c', by simp, fun h0 => SlOk.emp (n := len) g6, fun i z hi => ?_⟩, by simp; unfold maxLen at h3; omega, by simpa using g6⟩
    have hi' : i < len := by
      have := (List.getElem?_eq_some_iff.1 hi).1
      simpa using this
    simp only [List.getElem?_map, List.getElem?_range hi', Option.map_some, Option.some.injEq] at hi
    subst hi
    obtain ⟨k0, k1⟩ := hZ i (by omega)
    have e0 := emb_has k0 (u := .int .i64 (Z i).1) rfl
    have e1 := emb_has k1 (u := .int .i64 (Z i).2) rfl
    rw [add_block, add_off] at e0 e1
    refine ⟨a.block, a.off, g5 (by omega), fun j u hu => ?_⟩
    have hj : j < 2 := by have := (List.getElem?_eq_some_iff.1 hu).1; simpa [encP] using this
    match j, hj with
    | 0, _ => cases hu; exact e0
    | 1, _ => cases hu; rw [Nat.add_assoc]; exact e1
/-- rows of numbers -/
def MatS (W : AW) (v : Value) (ll : List (List Int)) : Prop := ∃ us : List Value, us.length = ll.length ∧ RowIn 1 encV W v us ∧ ∀ (i : Nat) u l, us[i]? = some u → ll[i]? = some l → IntR W u l ∧ SlOk u l.length
end
end Go.Proofs.YtdpnplanohgecaaDoor

open Go Go.Eng
namespace Go.Proofs.YtdpnplanohgecaaDoor
attribute [local congr] undef_congr WpK.congr WpS.congr WpL.congr WpC.congr WpF.congr gotS.congr callS.congr nextS.congr wantS.congr condS.congr
attribute [local irreducible] WpK
attribute [local simp] WpDr_nil WpDr_cons atS_some dwantS_true dwantS_false kindS_light kindS_float kindS_heavy lightS_value floatS_some heavyS_value heavyS_skip heavyS_enter dcallS_some doneS_eq
  isLight isFloat isPlain dLook testBit_dec dChain dLights_nil dLights_skip dLights_one dLight_nil dLight_cons dFreshes_nil dFreshes_one oneF_none oneF_some dFresh_nil dFresh_cons oneL_some oneW_true oneW_false sameV_value dPut dMay valEq arrEq listEq List.getElem?_cons Tr.get_nil dEnd
attribute [local simp] WpS_nil WpS_cons isDefer undef_false wantS_true wantS_false nextS_value nextS_skip nextS_enter callS_some gotS_some aWanted aOp aEvalF aEval opMove opAssign opPick aVal flat flat1 AAct.put opBinOp opConvert opIndex Tr.get_set Tr.get_lay aBin aResults tupled
  aCall aVals aCallB blt_dec ble_dec beq_dec aBinI_add aBinI_sub aBinI_lss aBinI_leq aBinI_gtr aBinI_geq aBinI_eql aBinI_neq index_str len_str len_slice Nat.beq_refl Nat.beq_refl
  opBox opLoad opFieldAddr opIndexAddr acells aAddr opExtract aExtract opUnOp opAlloc opStore opMakeInterface opNilCheck opBuild aParts opBuildSlice aValW
attribute [local simp] und2 und3 und4 und5 und9 und12 field13_0 field13_1 und21 und22 field23_0 field23_1 field24_0 field24_1 field25_0 field25_1 und28 und31 field34_0 field34_1 field34_2 field35_0 field35_1 field35_2 und46 field50_0 field50_1 field50_2 und55 und56 und58 und61 und62 und73 und75 und90 und94 und95 und96 field97_0 field97_1 field97_2 field97_3 field97_4 field97_5 field97_6 field98_0 field98_1 field98_2 field98_3 field98_4 field98_5 field98_6 und99 und106 field107_0 field107_1 field108_0 field108_1 und119 und122 field124_0 field124_1 field124_2 field125_0 field125_1 field125_2 field131_0 field131_1 field132_0 field132_1 und133 field134_0 field134_1 field135_0 field135_1 und148 und156 und160
set_option maxHeartbeats 4000000
set_option linter.unusedSimpArgs false
set_option linter.unusedVariables false
/-! ### is it an offer? -/
open Classical in
noncomputable def offE (ll : List (List Int)) : Int := if ll.length < 1 ∨ 12 < ll.length then 7 else if ∀ r ∈ ll, r.length = ll.length then (if ∀ r ∈ ll, within 1000000 r then 0 else 1) else 7
def OffOk (ll : List (List Int)) : Prop := 1 ≤ ll.length ∧ ll.length ≤ 12 ∧ (∀ r ∈ ll, r.length = ll.length) ∧ ∀ r ∈ ll, within 1000000 r
end Go.Proofs.YtdpnplanohgecaaDoor

open Go Go.Eng
namespace Go.Proofs.YtdpnplanohgecaaDoor
attribute [local congr] undef_congr WpK.congr WpS.congr WpL.congr WpC.congr WpF.congr gotS.congr callS.congr nextS.congr wantS.congr condS.congr
attribute [local irreducible] WpK
attribute [local simp] WpDr_nil WpDr_cons atS_some dwantS_true dwantS_false kindS_light kindS_float kindS_heavy lightS_value floatS_some heavyS_value heavyS_skip heavyS_enter dcallS_some doneS_eq
  isLight isFloat isPlain dLook testBit_dec dChain dLights_nil dLights_skip dLights_one dLight_nil dLight_cons dFreshes_nil dFreshes_one oneF_none oneF_some dFresh_nil dFresh_cons oneL_some oneW_true oneW_false sameV_value dPut dMay valEq arrEq listEq List.getElem?_cons Tr.get_nil dEnd
attribute [local simp] WpS_nil WpS_cons isDefer undef_false wantS_true wantS_false nextS_value nextS_skip nextS_enter callS_some gotS_some aWanted aOp aEvalF aEval opMove opAssign opPick aVal flat flat1 AAct.put opBinOp opConvert opIndex Tr.get_set Tr.get_lay aBin aResults tupled
  aCall aVals aCallB blt_dec ble_dec beq_dec aBinI_add aBinI_sub aBinI_lss aBinI_leq aBinI_gtr aBinI_geq aBinI_eql aBinI_neq index_str len_str len_slice Nat.beq_refl Nat.beq_refl
  opBox opLoad opFieldAddr opIndexAddr acells aAddr opExtract aExtract opUnOp opAlloc opStore opMakeInterface opNilCheck opBuild aParts opBuildSlice aValW
attribute [local simp] und2 und3 und4 und5 und9 und12 field13_0 field13_1 und21 und22 field23_0 field23_1 field24_0 field24_1 field25_0 field25_1 und28 und31 field34_0 field34_1 field34_2 field35_0 field35_1 field35_2 und46 field50_0 field50_1 field50_2 und55 und56 und58 und61 und62 und73 und75 und90 und94 und95 und96 field97_0 field97_1 field97_2 field97_3 field97_4 field97_5 field97_6 field98_0 field98_1 field98_2 field98_3 field98_4 field98_5 field98_6 und99 und106 field107_0 field107_1 field108_0 field108_1 und119 und122 field124_0 field124_1 field124_2 field125_0 field125_1 field125_2 field131_0 field131_1 field132_0 field132_1 und133 field134_0 field134_1 field135_0 field135_1 und148 und156 und160
set_option maxHeartbeats 4000000
set_option linter.unusedSimpArgs false
set_option linter.unusedVariables false
/-! ### the reference's check of an offer -/
end Go.Proofs.YtdpnplanohgecaaDoor

open Go Go.Eng
namespace Go.Proofs.YtdpnplanohgecaaDoor
attribute [local congr] undef_congr WpK.congr WpS.congr WpL.congr WpC.congr WpF.congr gotS.congr callS.congr nextS.congr wantS.congr condS.congr
attribute [local irreducible] WpK
attribute [local simp] WpDr_nil WpDr_cons atS_some dwantS_true dwantS_false kindS_light kindS_float kindS_heavy lightS_value floatS_some heavyS_value heavyS_skip heavyS_enter dcallS_some doneS_eq
  isLight isFloat isPlain dLook testBit_dec dChain dLights_nil dLights_skip dLights_one dLight_nil dLight_cons dFreshes_nil dFreshes_one oneF_none oneF_some dFresh_nil dFresh_cons oneL_some oneW_true oneW_false sameV_value dPut dMay valEq arrEq listEq List.getElem?_cons Tr.get_nil dEnd
attribute [local simp] WpS_nil WpS_cons isDefer undef_false wantS_true wantS_false nextS_value nextS_skip nextS_enter callS_some gotS_some aWanted aOp aEvalF aEval opMove opAssign opPick aVal flat flat1 AAct.put opBinOp opConvert opIndex Tr.get_set Tr.get_lay aBin aResults tupled
  aCall aVals aCallB blt_dec ble_dec beq_dec aBinI_add aBinI_sub aBinI_lss aBinI_leq aBinI_gtr aBinI_geq aBinI_eql aBinI_neq index_str len_str len_slice Nat.beq_refl Nat.beq_refl
  opBox opLoad opFieldAddr opIndexAddr acells aAddr opExtract aExtract opUnOp opAlloc opStore opMakeInterface opNilCheck opBuild aParts opBuildSlice aValW
attribute [local simp] und2 und3 und4 und5 und9 und12 field13_0 field13_1 und21 und22 field23_0 field23_1 field24_0 field24_1 field25_0 field25_1 und28 und31 field34_0 field34_1 field34_2 field35_0 field35_1 field35_2 und46 field50_0 field50_1 field50_2 und55 und56 und58 und61 und62 und73 und75 und90 und94 und95 und96 field97_0 field97_1 field97_2 field97_3 field97_4 field97_5 field97_6 field98_0 field98_1 field98_2 field98_3 field98_4 field98_5 field98_6 und99 und106 field107_0 field107_1 field108_0 field108_1 und119 und122 field124_0 field124_1 field124_2 field125_0 field125_1 field125_2 field131_0 field131_1 field132_0 field132_1 und133 field134_0 field134_1 field135_0 field135_1 und148 und156 und160
set_option maxHeartbeats 4000000
set_option linter.unusedSimpArgs false
set_option linter.unusedVariables false
/-! ### prices -/
def gI (l : List Int) (i : Nat) : Int := l.getD i 0
def mAt (ll : List (List Int)) (i j : Nat) : Int := gI (ll.getD i []) j
theorem gI_some {l : List Int} {i : Nat} (h : i < l.length) : l[i]? = some (gI l i) := by
  rw [gI, List.getD_eq_getElem?_getD, List.getElem?_eq_getElem h]; rfl
theorem row_some {ll : List (List Int)} {i : Nat} (h : i < ll.length) : ll[i]? = some (ll.getD i []) := by
  rw [List.getD_eq_getElem?_getD, List.getElem?_eq_getElem h]; rfl
theorem within_gI {m : Int} {l : List Int} (h : within m l) {i : Nat} (hi : i < l.length) : -m ≤ gI l i ∧ gI l i ≤ m := h _ (List.mem_of_getElem? (gI_some hi))
theorem within_of {m : Int} {l : List Int} (h : ∀ i, i < l.length → -m ≤ gI l i ∧ gI l i ≤ m) : within m l := fun x hx => by
  obtain ⟨i, hi, rfl⟩ := List.getElem_of_mem hx
  have := h i hi
  have e := gI_some hi
  rw [List.getElem?_eq_getElem hi] at e
  rw [Option.some.inj e]; exact this
def ArePr (ll : List (List Int)) (u v : List Int) (w : Int) : Prop := OffOk ll ∧ u.length = ll.length ∧ v.length = ll.length ∧ within 1000000000000000 u ∧ within 1000000000000000 v ∧
  (∀ i j, i < ll.length → j < ll.length → mAt ll i j ≤ gI u i + gI v j) ∧ sumN ll.length (fun i => gI u i + gI v i) = w
theorem i64_in {x : Int} (h : -9223372036854775808 ≤ x ∧ x < 9223372036854775808) : IntKind.i64.wrap x = x := IntWalk.i64_in _ (by omega)
end Go.Proofs.YtdpnplanohgecaaDoor

open Go Go.Eng
namespace Go.Proofs.YtdpnplanohgecaaDoor
attribute [local congr] undef_congr WpK.congr WpS.congr WpL.congr WpC.congr WpF.congr gotS.congr callS.congr nextS.congr wantS.congr condS.congr
attribute [local irreducible] WpK
attribute [local simp] WpDr_nil WpDr_cons atS_some dwantS_true dwantS_false kindS_light kindS_float kindS_heavy lightS_value floatS_some heavyS_value heavyS_skip heavyS_enter dcallS_some doneS_eq
  isLight isFloat isPlain dLook testBit_dec dChain dLights_nil dLights_skip dLights_one dLight_nil dLight_cons dFreshes_nil dFreshes_one oneF_none oneF_some dFresh_nil dFresh_cons oneL_some oneW_true oneW_false sameV_value dPut dMay valEq arrEq listEq List.getElem?_cons Tr.get_nil dEnd
attribute [local simp] WpS_nil WpS_cons isDefer undef_false wantS_true wantS_false nextS_value nextS_skip nextS_enter callS_some gotS_some aWanted aOp aEvalF aEval opMove opAssign opPick aVal flat flat1 AAct.put opBinOp opConvert opIndex Tr.get_set Tr.get_lay aBin aResults tupled
  aCall aVals aCallB blt_dec ble_dec beq_dec aBinI_add aBinI_sub aBinI_lss aBinI_leq aBinI_gtr aBinI_geq aBinI_eql aBinI_neq index_str len_str len_slice Nat.beq_refl Nat.beq_refl
  opBox opLoad opFieldAddr opIndexAddr acells aAddr opExtract aExtract opUnOp opAlloc opStore opMakeInterface opNilCheck opBuild aParts opBuildSlice aValW
attribute [local simp] und2 und3 und4 und5 und9 und12 field13_0 field13_1 und21 und22 field23_0 field23_1 field24_0 field24_1 field25_0 field25_1 und28 und31 field34_0 field34_1 field34_2 field35_0 field35_1 field35_2 und46 field50_0 field50_1 field50_2 und55 und56 und58 und61 und62 und73 und75 und90 und94 und95 und96 field97_0 field97_1 field97_2 field97_3 field97_4 field97_5 field97_6 field98_0 field98_1 field98_2 field98_3 field98_4 field98_5 field98_6 und99 und106 field107_0 field107_1 field108_0 field108_1 und119 und122 field124_0 field124_1 field124_2 field125_0 field125_1 field125_2 field131_0 field131_1 field132_0 field132_1 und133 field134_0 field134_1 field135_0 field135_1 und148 und156 und160
set_option maxHeartbeats 4000000
set_option linter.unusedSimpArgs false
set_option linter.unusedVariables false
/-! ### the reference's prices -/
end Go.Proofs.YtdpnplanohgecaaDoor

open Go Go.Eng
namespace Go.Proofs.YtdpnplanohgecaaDoor
attribute [local congr] undef_congr WpK.congr WpS.congr WpL.congr WpC.congr WpF.congr gotS.congr callS.congr nextS.congr wantS.congr condS.congr
attribute [local irreducible] WpK
attribute [local simp] WpDr_nil WpDr_cons atS_some dwantS_true dwantS_false kindS_light kindS_float kindS_heavy lightS_value floatS_some heavyS_value heavyS_skip heavyS_enter dcallS_some doneS_eq
  isLight isFloat isPlain dLook testBit_dec dChain dLights_nil dLights_skip dLights_one dLight_nil dLight_cons dFreshes_nil dFreshes_one oneF_none oneF_some dFresh_nil dFresh_cons oneL_some oneW_true oneW_false sameV_value dPut dMay valEq arrEq listEq List.getElem?_cons Tr.get_nil dEnd
attribute [local simp] WpS_nil WpS_cons isDefer undef_false wantS_true wantS_false nextS_value nextS_skip nextS_enter callS_some gotS_some aWanted aOp aEvalF aEval opMove opAssign opPick aVal flat flat1 AAct.put opBinOp opConvert opIndex Tr.get_set Tr.get_lay aBin aResults tupled
  aCall aVals aCallB blt_dec ble_dec beq_dec aBinI_add aBinI_sub aBinI_lss aBinI_leq aBinI_gtr aBinI_geq aBinI_eql aBinI_neq index_str len_str len_slice Nat.beq_refl Nat.beq_refl
  opBox opLoad opFieldAddr opIndexAddr acells aAddr opExtract aExtract opUnOp opAlloc opStore opMakeInterface opNilCheck opBuild aParts opBuildSlice aValW
attribute [local simp] und2 und3 und4 und5 und9 und12 field13_0 field13_1 und21 und22 field23_0 field23_1 field24_0 field24_1 field25_0 field25_1 und28 und31 field34_0 field34_1 field34_2 field35_0 field35_1 field35_2 und46 field50_0 field50_1 field50_2 und55 und56 und58 und61 und62 und73 und75 und90 und94 und95 und96 field97_0 field97_1 field97_2 field97_3 field97_4 field97_5 field97_6 field98_0 field98_1 field98_2 field98_3 field98_4 field98_5 field98_6 und99 und106 field107_0 field107_1 field108_0 field108_1 und119 und122 field124_0 field124_1 field124_2 field125_0 field125_1 field125_2 field131_0 field131_1 field132_0 field132_1 und133 field134_0 field134_1 field135_0 field135_1 und148 und156 und160
set_option maxHeartbeats 4000000
set_option linter.unusedSimpArgs false
set_option linter.unusedVariables false
/-! ### how many there are -/
def onesN (x : Nat) : Nat :=
  let a := ((x >>> 1) &&& 6148914691236517205) + (x &&& 6148914691236517205)
  let b := ((a >>> 2) &&& 3689348814741910323) + (a &&& 3689348814741910323)
  let c := ((b >>> 4) + b) &&& 1085102592571150095
  let d := c + (c >>> 8)
  let e := d + (d >>> 16)
  let f := e + (e >>> 32)
  f &&& 127
theorem ones_cnt2 : ∀ a, a < 64 → ∀ b, b < 64 → onesN (a * 64 + b) = cntB 12 (a * 64 + b) := by decide +kernel
theorem ones_cnt (x : Nat) (hx : x < 4096) : onesN x = cntB 12 x := by
  have := ones_cnt2 (x / 64) (by omega) (x % 64) (by omega)
  rwa [show x / 64 * 64 + x % 64 = x from by omega] at this
theorem cntB_more {x : Nat} (hx : x < 4096) : ∀ m : Nat, 12 ≤ m → cntB m x = cntB 12 x := by
  intro m hm
  induction hm with
  | refl => rfl
  | @step m hm ih =>
    show cntB m x + (if x.testBit m then 1 else 0) = cntB 12 x
    rw [ih, Nat.testBit_lt_two_pow (Nat.lt_of_lt_of_le (show x < 2 ^ 12 from hx) (Nat.pow_le_pow_right (by omega) (by omega : 12 ≤ m)))]
    simp
theorem shr_le (x k : Nat) : x >>> k ≤ x := by rw [Nat.shiftRight_eq_div_pow]; exact Nat.div_le_self _ _
section
attribute [local irreducible] aBinI
theorem ones_wp {W : AW} {x : Nat} (hx : x < 4096) : WpF T0 90 [.int .u64 (x : Nat)] W (fun v W' => W' = W ∧ v = .int .i64 (pc x : Nat)) := by
  have hpc : pc x = onesN x := by rw [ones_cnt x hx]; exact cntB_more hx 40 (by omega)
  have A1 : aBinI .shr .u64 (x : Int) .u64 1 = some (.int .u64 ((x >>> 1 : Nat) : Int)) := aBinI_shr .u64 .u64 x 1 (by decide)
  have A2 : aBinI .and .u64 ((x >>> 1 : Nat) : Int) .u64 6148914691236517205 = some (.int .u64 ((x >>> 1 &&& 6148914691236517205 : Nat) : Int)) := aBinI_and .u64 _ 6148914691236517205 (by have := shr_le x 1; show x >>> 1 < 18446744073709551616; omega) (by decide)
  have A3 : aBinI .and .u64 (x : Int) .u64 6148914691236517205 = some (.int .u64 ((x &&& 6148914691236517205 : Nat) : Int)) := aBinI_and .u64 _ 6148914691236517205 (by show x < 18446744073709551616; omega) (by decide)
  have a2 : x >>> 1 &&& 6148914691236517205 ≤ x := Nat.le_trans Nat.and_le_left (shr_le x 1)
  have a3 : x &&& 6148914691236517205 ≤ x := Nat.and_le_left
  simp only [onesN] at hpc
  generalize x >>> 1 = x1 at A1 A2 a2 hpc
  generalize x1 &&& 6148914691236517205 = x2 at A2 a2 hpc
  generalize x &&& 6148914691236517205 = x3 at A3 a3 hpc
  have A4 : IntKind.u64.wrap ((x2 : Int) + (x3 : Int)) = ((x2 + x3 : Nat) : Int) := by rw [← Int.natCast_add]; exact u64_nat (by omega)
  generalize hy : x2 + x3 = y at A4 hpc
  have hyl : y ≤ 8192 := by omega
  have B1 : aBinI .shr .u64 (y : Int) .u64 2 = some (.int .u64 ((y >>> 2 : Nat) : Int)) := aBinI_shr .u64 .u64 y 2 (by decide)
  have B2 : aBinI .and .u64 ((y >>> 2 : Nat) : Int) .u64 3689348814741910323 = some (.int .u64 ((y >>> 2 &&& 3689348814741910323 : Nat) : Int)) := aBinI_and .u64 _ 3689348814741910323 (by have := shr_le y 2; show y >>> 2 < 18446744073709551616; omega) (by decide)
  have B3 : aBinI .and .u64 (y : Int) .u64 3689348814741910323 = some (.int .u64 ((y &&& 3689348814741910323 : Nat) : Int)) := aBinI_and .u64 _ 3689348814741910323 (by show y < 18446744073709551616; omega) (by decide)
  have b2 : y >>> 2 &&& 3689348814741910323 ≤ y := Nat.le_trans Nat.and_le_left (shr_le y 2)
  have b3 : y &&& 3689348814741910323 ≤ y := Nat.and_le_left
  generalize y >>> 2 = y1 at B1 B2 b2 hpc
  generalize y1 &&& 3689348814741910323 = y2 at B2 b2 hpc
  generalize y &&& 3689348814741910323 = y3 at B3 b3 hpc
  have B4 : IntKind.u64.wrap ((y2 : Int) + (y3 : Int)) = ((y2 + y3 : Nat) : Int) := by rw [← Int.natCast_add]; exact u64_nat (by omega)
  generalize hz : y2 + y3 = z at B4 hpc
  have hzl : z ≤ 16384 := by omega
  have C1 : aBinI .shr .u64 (z : Int) .u64 4 = some (.int .u64 ((z >>> 4 : Nat) : Int)) := aBinI_shr .u64 .u64 z 4 (by decide)
  have c1 := shr_le z 4
  have C2 : IntKind.u64.wrap (((z >>> 4 : Nat) : Int) + (z : Int)) = ((z >>> 4 + z : Nat) : Int) := by rw [← Int.natCast_add]; exact u64_nat (by omega)
  have C3 : aBinI .and .u64 ((z >>> 4 + z : Nat) : Int) .u64 1085102592571150095 = some (.int .u64 (((z >>> 4 + z) &&& 1085102592571150095 : Nat) : Int)) := aBinI_and .u64 _ 1085102592571150095 (by show z >>> 4 + z < 18446744073709551616; omega) (by decide)
  have c3 : (z >>> 4 + z) &&& 1085102592571150095 ≤ z >>> 4 + z := Nat.and_le_left
  generalize z >>> 4 = z1 at C1 C2 C3 c1 c3 hpc
  generalize hw : z1 + z = z2 at C2 C3 c3 hpc
  generalize z2 &&& 1085102592571150095 = w at C3 c3 hpc
  have hwl : w ≤ 32768 := by omega
  have D1 : aBinI .shr .u64 (w : Int) .u64 8 = some (.int .u64 ((w >>> 8 : Nat) : Int)) := aBinI_shr .u64 .u64 w 8 (by decide)
  have d1 := shr_le w 8
  have D2 : IntKind.u64.wrap ((w : Int) + ((w >>> 8 : Nat) : Int)) = ((w + w >>> 8 : Nat) : Int) := by rw [← Int.natCast_add]; exact u64_nat (by omega)
  generalize w >>> 8 = w1 at D1 D2 d1 hpc
  generalize hp : w + w1 = p at D2 hpc
  have hpl : p ≤ 65536 := by omega
  have E1 : aBinI .shr .u64 (p : Int) .u64 16 = some (.int .u64 ((p >>> 16 : Nat) : Int)) := aBinI_shr .u64 .u64 p 16 (by decide)
  have e1 := shr_le p 16
  have E2 : IntKind.u64.wrap ((p : Int) + ((p >>> 16 : Nat) : Int)) = ((p + p >>> 16 : Nat) : Int) := by rw [← Int.natCast_add]; exact u64_nat (by omega)
  generalize p >>> 16 = p1 at E1 E2 e1 hpc
  generalize hq : p + p1 = q at E2 hpc
  have hql : q ≤ 131072 := by omega
  have F1 : aBinI .shr .u64 (q : Int) .u64 32 = some (.int .u64 ((q >>> 32 : Nat) : Int)) := aBinI_shr .u64 .u64 q 32 (by decide)
  have f1 := shr_le q 32
  have F2 : IntKind.u64.wrap ((q : Int) + ((q >>> 32 : Nat) : Int)) = ((q + q >>> 32 : Nat) : Int) := by rw [← Int.natCast_add]; exact u64_nat (by omega)
  generalize q >>> 32 = q1 at F1 F2 f1 hpc
  generalize hr : q + q1 = r at F2 hpc
  have hrl : r ≤ 262144 := by omega
  have G1 : IntKind.i64.wrap (r : Int) = (r : Int) := i64_nat r (by omega)
  have G2 : aBinI .and .i64 (r : Int) .i64 127 = some (.int .i64 ((r &&& 127 : Nat) : Int)) := aBinI_and .i64 r 127 (by show r < 9223372036854775808; omega) (by decide)
  generalize r &&& 127 = s at G2 hpc
  refine wpF fun90 rfl ?_
  try simp only [wpK_assoc]
  refine wpK_reg (fun R hR => by simp []; exact hR) ?_
  try simp only [wpK_assoc]
  refine wpK_reg (fun R hR => by simp [A1, A2, A3, A4]; exact hR) ?_
  try simp only [wpK_assoc]
  refine wpK_reg (fun R hR => by simp [B1, B2, B3, B4]; exact hR) ?_
  try simp only [wpK_assoc]
  refine wpK_reg (fun R hR => by simp [C1, C2, C3]; exact hR) ?_
  try simp only [wpK_assoc]
  refine wpK_reg (fun R hR => by simp [D1, D2]; exact hR) ?_
  try simp only [wpK_assoc]
  refine wpK_reg (fun R hR => by simp [E1, E2]; exact hR) ?_
  try simp only [wpK_assoc]
  refine wpK_reg (fun R hR => by simp [F1, F2]; exact hR) ?_
  try simp only [wpK_assoc]
  refine wpK_reg (fun R hR => by simp [conv_95_3, G1, G2]; exact hR) ?_
  exact wpK_ret ⟨.inr rfl, rfl, [.int .i64 (s : Nat)], by simp, rfl, by rw [hpc]; rfl⟩
end
theorem size_wp {W : AW} {x : Nat} (hx : x < 4096) : WpF T0 82 [.int .u64 (x : Nat)] W (fun v W' => W' = W ∧ v = .int .i64 (pc x : Nat)) := by
  refine wpF fun82 rfl ?_
  try simp only [wpK_assoc]
  refine wpK_reg (fun R hR => by simp []; exact hR) ?_
  try simp only [wpK_assoc]
  refine wpK_reg (fun R hR => by
      simp [aEnter, fun90, short_other, aCallV]; rw [callS_none]
      refine (ones_wp hx).mono ?_
      rintro _ W9 ⟨e9, rfl⟩; subst W9
      simp []; exact hR) ?_
  exact wpK_ret ⟨.inr rfl, rfl, [.int .i64 (pc x : Nat)], by simp, rfl, rfl⟩

end Go.Proofs.YtdpnplanohgecaaDoor

open Go Go.Eng
namespace Go.Proofs.YtdpnplanohgecaaDoor
attribute [local congr] undef_congr WpK.congr WpS.congr WpL.congr WpC.congr WpF.congr gotS.congr callS.congr nextS.congr wantS.congr condS.congr
attribute [local irreducible] WpK
attribute [local simp] WpDr_nil WpDr_cons atS_some dwantS_true dwantS_false kindS_light kindS_float kindS_heavy lightS_value floatS_some heavyS_value heavyS_skip heavyS_enter dcallS_some doneS_eq
  isLight isFloat isPlain dLook testBit_dec dChain dLights_nil dLights_skip dLights_one dLight_nil dLight_cons dFreshes_nil dFreshes_one oneF_none oneF_some dFresh_nil dFresh_cons oneL_some oneW_true oneW_false sameV_value dPut dMay valEq arrEq listEq List.getElem?_cons Tr.get_nil dEnd
attribute [local simp] WpS_nil WpS_cons isDefer undef_false wantS_true wantS_false nextS_value nextS_skip nextS_enter callS_some gotS_some aWanted aOp aEvalF aEval opMove opAssign opPick aVal flat flat1 AAct.put opBinOp opConvert opIndex Tr.get_set Tr.get_lay aBin aResults tupled
  aCall aVals aCallB blt_dec ble_dec beq_dec aBinI_add aBinI_sub aBinI_lss aBinI_leq aBinI_gtr aBinI_geq aBinI_eql aBinI_neq index_str len_str len_slice Nat.beq_refl Nat.beq_refl
  opBox opLoad opFieldAddr opIndexAddr acells aAddr opExtract aExtract opUnOp opAlloc opStore opMakeInterface opNilCheck opBuild aParts opBuildSlice aValW
attribute [local simp] und2 und3 und4 und5 und9 und12 field13_0 field13_1 und21 und22 field23_0 field23_1 field24_0 field24_1 field25_0 field25_1 und28 und31 field34_0 field34_1 field34_2 field35_0 field35_1 field35_2 und46 field50_0 field50_1 field50_2 und55 und56 und58 und61 und62 und73 und75 und90 und94 und95 und96 field97_0 field97_1 field97_2 field97_3 field97_4 field97_5 field97_6 field98_0 field98_1 field98_2 field98_3 field98_4 field98_5 field98_6 und99 und106 field107_0 field107_1 field108_0 field108_1 und119 und122 field124_0 field124_1 field124_2 field125_0 field125_1 field125_2 field131_0 field131_1 field132_0 field132_1 und133 field134_0 field134_1 field135_0 field135_1 und148 und156 und160
set_option maxHeartbeats 4000000
set_option linter.unusedSimpArgs false
set_option linter.unusedVariables false
/-! ### the most that is left -/
def vI (l : List Int) : List Value := l.map (Value.int .i64)
theorem vI_len (l : List Int) : (vI l).length = l.length := by simp [vI]
theorem rep_vI : ∀ n : Nat, rep [.int .i64 0] n = vI (List.replicate n 0)
  | 0 => rfl
  | n + 1 => by
    show [.int .i64 0] ++ rep [.int .i64 0] n = _
    rw [rep_vI n, List.replicate_succ]; rfl
theorem gI_set {l : List Int} {i : Nat} (hi : i < l.length) (x : Int) (j : Nat) : gI (l.set i x) j = if j = i then x else gI l j := by
  rw [gI, gI, List.getD_eq_getElem?_getD, List.getD_eq_getElem?_getD, List.getElem?_set]
  by_cases e : i = j
  · subst e; rw [if_pos rfl, if_pos hi, if_pos rfl]; rfl
  · rw [if_neg e, if_neg (fun h => e h.symm)]
/-- what is known of the sets from t on -/
def BestFrom (n : Nat) (c : Nat → Nat → Int) (B : Nat → Int) (t : Nat) : Prop := B (2 ^ n - 1) = 0 ∧ ∀ s, t ≤ s → s < 2 ^ n → (-(1000000 * ((n - pc s : Nat) : Int)) ≤ B s ∧ B s ≤ 1000000 * ((n - pc s : Nat) : Int)) ∧
  (s ≠ 2 ^ n - 1 → (∀ q, q < n → s.testBit q = false → c (pc s) q + B (s ||| 1 <<< q) ≤ B s) ∧ ∃ q, q < n ∧ s.testBit q = false ∧ c (pc s) q + B (s ||| 1 <<< q) = B s)
theorem BestFrom.best {n : Nat} {c : Nat → Nat → Int} {B : Nat → Int} (h : BestFrom n c B 0) (hn : n ≤ 40) : BestN n c B where
  full := h.1
  le := fun t ht q hq hb => (h.2 t (Nat.zero_le _) ht).2 (fun e => by subst e; rw [full_bit, decide_eq_true hq] at hb; cases hb) |>.1 q hq hb
  is := fun t ht hne => ((h.2 t (Nat.zero_le _) ht).2 hne).2
/-- of one set, the first j posts -/
def PartN (n : Nat) (c : Nat → Nat → Int) (B : Nat → Int) (t j : Nat) : Prop := (∀ q, q < j → t.testBit q = false → c (pc t) q + B (t ||| 1 <<< q) ≤ B t) ∧
  ((B t = -9223372036854775808 ∧ ∀ q, q < j → t.testBit q = true) ∨ ∃ q, q < j ∧ t.testBit q = false ∧ c (pc t) q + B (t ||| 1 <<< q) = B t)
theorem pc_or {n t q : Nat} (hn : n ≤ 12) (ht : t < 2 ^ n) (hq : q < n) (hb : t.testBit q = false) : pc (t ||| 1 <<< q) = pc t + 1 ∧ pc t < n := by
  have h1 := cntB_or hb (m := 40)
  rw [if_pos (by omega)] at h1
  exact ⟨h1, cntB_lt (m := 40) ht hq hb (by omega)⟩
theorem BestFrom.step {n : Nat} {c : Nat → Nat → Int} {B : Nat → Int} {t : Nat} (hn : n ≤ 12) (hc : ∀ i j, i < n → j < n → -1000000 ≤ c i j ∧ c i j ≤ 1000000) (ht : t < 2 ^ n - 1) (h : BestFrom n c B (t + 1)) (hp : PartN n c B t n) : BestFrom n c B t := by
  have htl : t < 2 ^ n := by omega
  refine ⟨h.1, fun s h1 h2 => ?_⟩
  by_cases e : s = t
  case neg => exact h.2 s (by omega) h2
  subst e
  have hex : ∃ q, q < n ∧ s.testBit q = false ∧ c (pc s) q + B (s ||| 1 <<< q) = B s := by
    rcases hp.2 with ⟨_, hall⟩ | hx
    · rcases full_or_free htl with e | ⟨k, hk, hb⟩
      · omega
      · rw [hall k hk] at hb; cases hb
    · exact hx
  obtain ⟨q, hq, hb, hv⟩ := hex
  refine ⟨?_, fun _ => ⟨hp.1, q, hq, hb, hv⟩⟩
  obtain ⟨p1, p2⟩ := pc_or hn htl hq hb
  have hx := (h.2 (s ||| 1 <<< q) (by have := or_gt hb; omega) (or_ltp htl hq)).1
  have hcc := hc (pc s) q p2 hq
  rw [p1] at hx
  omega
theorem BestFrom.keep {n : Nat} {c : Nat → Nat → Int} {B B' : Nat → Int} {t : Nat} (h : BestFrom n c B t) (ht : t ≤ 2 ^ n - 1) (he : ∀ s, t ≤ s → B' s = B s) : BestFrom n c B' t := by
  refine ⟨by rw [he _ ht]; exact h.1, fun s h1 h2 => ?_⟩
  rw [he s h1]
  refine ⟨(h.2 s h1 h2).1, fun hne => ?_⟩
  obtain ⟨g1, q, g2, g3, g4⟩ := (h.2 s h1 h2).2 hne
  refine ⟨fun q hq hb => ?_, q, g2, g3, ?_⟩
  · rw [he _ (by have := or_gt hb; omega)]; exact g1 q hq hb
  · rw [he _ (by have := or_gt g3; omega)]; exact g4

end Go.Proofs.YtdpnplanohgecaaDoor

open Go Go.Eng
namespace Go.Proofs.YtdpnplanohgecaaDoor
attribute [local congr] undef_congr WpK.congr WpS.congr WpL.congr WpC.congr WpF.congr gotS.congr callS.congr nextS.congr wantS.congr condS.congr
attribute [local irreducible] WpK
attribute [local simp] WpDr_nil WpDr_cons atS_some dwantS_true dwantS_false kindS_light kindS_float kindS_heavy lightS_value floatS_some heavyS_value heavyS_skip heavyS_enter dcallS_some doneS_eq
  isLight isFloat isPlain dLook testBit_dec dChain dLights_nil dLights_skip dLights_one dLight_nil dLight_cons dFreshes_nil dFreshes_one oneF_none oneF_some dFresh_nil dFresh_cons oneL_some oneW_true oneW_false sameV_value dPut dMay valEq arrEq listEq List.getElem?_cons Tr.get_nil dEnd
attribute [local simp] WpS_nil WpS_cons isDefer undef_false wantS_true wantS_false nextS_value nextS_skip nextS_enter callS_some gotS_some aWanted aOp aEvalF aEval opMove opAssign opPick aVal flat flat1 AAct.put opBinOp opConvert opIndex Tr.get_set Tr.get_lay aBin aResults tupled
  aCall aVals aCallB blt_dec ble_dec beq_dec aBinI_add aBinI_sub aBinI_lss aBinI_leq aBinI_gtr aBinI_geq aBinI_eql aBinI_neq index_str len_str len_slice Nat.beq_refl Nat.beq_refl
  opBox opLoad opFieldAddr opIndexAddr acells aAddr opExtract aExtract opUnOp opAlloc opStore opMakeInterface opNilCheck opBuild aParts opBuildSlice aValW
attribute [local simp] und2 und3 und4 und5 und9 und12 field13_0 field13_1 und21 und22 field23_0 field23_1 field24_0 field24_1 field25_0 field25_1 und28 und31 field34_0 field34_1 field34_2 field35_0 field35_1 field35_2 und46 field50_0 field50_1 field50_2 und55 und56 und58 und61 und62 und73 und75 und90 und94 und95 und96 field97_0 field97_1 field97_2 field97_3 field97_4 field97_5 field97_6 field98_0 field98_1 field98_2 field98_3 field98_4 field98_5 field98_6 und99 und106 field107_0 field107_1 field108_0 field108_1 und119 und122 field124_0 field124_1 field124_2 field125_0 field125_1 field125_2 field131_0 field131_1 field132_0 field132_1 und133 field134_0 field134_1 field135_0 field135_1 und148 und156 und160
set_option maxHeartbeats 4000000
set_option linter.unusedSimpArgs false
set_option linter.unusedVariables false
/-! ### the program's graph -/
/-- who is joined to whom by the edges -/
def JoinL (es : List Edge) (J : List Nat) : Prop := J.length = 40 ∧ ∀ (q x : Nat), J[q]? = some x → x < 1099511627776 ∧ ∀ r : Nat, x.testBit r = true ↔ ∃ i : Nat, es[i]? = some ((q : Int), (r : Int)) ∨ es[i]? = some ((r : Int), (q : Int))
def setV (x : Nat) : Value := .int .u64 (x : Int)
def Web (W : AW) (p : Nat) (P : Int) (es : List Edge) : Prop := ∃ J, JoinL es J ∧ Var W p 108 (.int .i64 P :: J.map setV)
def entsL (es : List Edge) (i : Nat) : List (Value × Value × Nat) := (List.range i).map fun j => (pr (min (es.getD j (0, 0)).1 (es.getD j (0, 0)).2) (max (es.getD j (0, 0)).1 (es.getD j (0, 0)).2), .int .i64 1, j)
theorem entsL_len (es : List Edge) (i : Nat) : (entsL es i).length = i := by simp [entsL]
theorem entsL_succ {es : List Edge} {i : Nat} {a b : Int} (h : es[i]? = some (a, b)) : entsL es (i + 1) = entsL es i ++ [(pr (min a b) (max a b), .int .i64 1, i)] := by
  simp [entsL, List.range_succ, List.getD_eq_getElem?_getD, h]
theorem entsL_get {es : List Edge} {i j : Nat} (hj : j < i) {a b : Int} (h : es[j]? = some (a, b)) : (entsL es i)[j]? = some (pr (min a b) (max a b), .int .i64 1, j) := by
  simp [entsL, List.getElem?_map, List.getElem?_range hj, List.getD_eq_getElem?_getD, h]
theorem entsL_mem {es : List Edge} {i : Nat} (hi : i ≤ es.length) {e : Value × Value × Nat} (h : e ∈ entsL es i) : ∃ j a b, j < i ∧ es[j]? = some (a, b) ∧ e = (pr (min a b) (max a b), .int .i64 1, j) := by
  simp only [entsL, List.mem_map, List.mem_range] at h
  obtain ⟨j, hj, rfl⟩ := h
  obtain ⟨⟨a, b⟩, hab⟩ : ∃ e : Edge, es[j] = e := ⟨_, rfl⟩
  have he : es[j]? = some (a, b) := by rw [List.getElem?_eq_getElem (by omega), hab]
  exact ⟨j, a, b, hj, he, by simp [List.getD_eq_getElem?_getD, he]⟩
theorem aFind_put {t : TypeId} {k v v' : Value} : ∀ {es : List (Value × Value × Nat)} {i j : Nat}, aFind T0 t k es i = some (some (i + j, v)) → aFind T0 t k (putAt es j v') i = some (some (i + j, v'))
  | [], _, _, h => by simp [aFind] at h
  | (k', w, c) :: es, i, 0, h => by
    simp only [aFind] at h
    simp only [putAt, aFind]
    split at h
    · cases h
    · rename_i h1
      split at h
      · rfl
      · have hge : ∀ (es : List (Value × Value × Nat)) (i m : Nat) (v : Value), aFind T0 t k es i = some (some (m, v)) → i ≤ m := by
          intro es
          induction es with
          | nil => intro i m v h; simp [aFind] at h
          | cons b es ih2 =>
            intro i m v h
            obtain ⟨k2, v2, c2⟩ := b
            simp only [aFind] at h
            split at h
            · cases h
            · split at h
              · simp at h; omega
              · have := ih2 _ _ _ h; omega
        have := hge _ _ _ _ h; omega
  | (k', w, c) :: es, i, j + 1, h => by
    simp only [aFind] at h
    simp only [putAt, aFind]
    split at h
    · cases h
    · rename_i h1
      split at h
      · simp at h
      · rename_i h2
        rw [show i + (j + 1) = i + 1 + j from by omega] at h ⊢
        exact aFind_put h
theorem bornAt_idx : ∀ {es : List (Value × Value × Nat)} {s i j : Nat}, (∀ (q : Nat) x, es[q]? = some x → x.2.2 = q + s) → j < es.length → bornAt (j + s) es i = some (i + j)
  | [], _, _, _, _, h => by simp at h
  | (k, v, c) :: es, s, i, 0, h, _ => by
    have := h 0 _ rfl
    simp only at this
    have hb : Nat.beq c (0 + s) = true := by rw [beq_dec]; exact decide_eq_true this
    simp only [bornAt, hb]; rfl
  | (k, v, c) :: es, s, i, j + 1, h, hl => by
    have := h 0 _ rfl
    simp only at this
    have hb : Nat.beq c (j + 1 + s) = false := by rw [beq_dec]; exact decide_eq_false (by omega)
    simp only [bornAt, hb]
    have := bornAt_idx (es := es) (s := s + 1) (i := i + 1) (j := j) (fun q x hx => by have := h (q + 1) x (by simpa using hx); omega) (by simpa using hl)
    rw [show j + 1 + s = j + (s + 1) from by omega, this]; congr 1; omega
theorem updAt_same {k v : Value} {c : Nat} : ∀ {es : List (Value × Value × Nat)} {j : Nat}, es[j]? = some (k, v, c) → updAt es j k v = es
  | [], _, h => by simp at h
  | _ :: es, 0, h => by simp at h; subst h; rfl
  | x :: es, j + 1, h => by simp only [updAt]; rw [updAt_same (by simpa using h)]
theorem putAt_last {k v v' : Value} {c : Nat} : ∀ (es : List (Value × Value × Nat)), putAt (es ++ [(k, v, c)]) es.length v' = es ++ [(k, v', c)]
  | [] => rfl
  | x :: es => by simp only [List.cons_append, List.length_cons, putAt]; rw [putAt_last es]
theorem entsL_key {es : List Edge} {i : Nat} (hi : i ≤ es.length) : ∀ e ∈ entsL es i, keyOk T0 135 e.1 = true := fun e he => by
  obtain ⟨j, a, b, _, _, rfl⟩ := entsL_mem hi he
  exact keyOk135 _ _
theorem one_bit (s r : Nat) : (1 <<< s).testBit r = decide (s = r) := by rw [Nat.one_shiftLeft, Nat.testBit_two_pow]
theorem or_bit (x s r : Nat) : (x ||| 1 <<< s).testBit r = (x.testBit r || decide (s = r)) := by rw [Nat.testBit_or, one_bit]
theorem or_lt {x s : Nat} (hx : x < 1099511627776) (hs : s < 40) : x ||| 1 <<< s < 1099511627776 := Nat.or_lt_two_pow (n := 40) hx (by rw [Nat.one_shiftLeft]; exact Nat.pow_lt_pow_right (by omega) hs)
theorem take_succ_ex {es : List Edge} {k : Nat} (p : Edge → Prop) : (∃ i : Nat, ∃ e, (es.take (k + 1))[i]? = some e ∧ p e) ↔ (∃ i : Nat, ∃ e, (es.take k)[i]? = some e ∧ p e) ∨ ∃ e, es[k]? = some e ∧ p e := by
  simp only [List.getElem?_take]
  constructor
  · rintro ⟨i, e, h1, h2⟩
    by_cases hi : i < k
    · exact .inl ⟨i, e, by rw [if_pos hi]; rw [if_pos (by omega)] at h1; exact h1, h2⟩
    · by_cases hk : i = k
      · subst hk; rw [if_pos (by omega)] at h1; exact .inr ⟨e, h1, h2⟩
      · rw [if_neg (by omega)] at h1; cases h1
  · rintro (⟨i, e, h1, h2⟩ | ⟨e, h1, h2⟩)
    · by_cases hi : i < k
      · rw [if_pos hi] at h1; exact ⟨i, e, by rw [if_pos (by omega)]; exact h1, h2⟩
      · rw [if_neg hi] at h1; cases h1
    · exact ⟨k, e, by rw [if_pos (by omega)]; exact h1, h2⟩
theorem join_ex {es : List Edge} {q r : Int} : (∃ i : Nat, es[i]? = some (q, r) ∨ es[i]? = some (r, q)) ↔ ∃ i : Nat, ∃ e, es[i]? = some e ∧ (e = (q, r) ∨ e = (r, q)) := by
  constructor
  · rintro ⟨i, h | h⟩
    · exact ⟨i, _, h, .inl rfl⟩
    · exact ⟨i, _, h, .inr rfl⟩
  · rintro ⟨i, e, h, rfl | rfl⟩
    · exact ⟨i, .inl h⟩
    · exact ⟨i, .inr h⟩
/-- the joined points, with one edge more -/
theorem joinL_add {es : List Edge} {k : Nat} {J : List Nat} (h : JoinL (es.take k) J) {a b : Nat} (he : es[k]? = some ((a : Int), (b : Int)) ∨ es[k]? = some ((b : Int), (a : Int))) (ha : a < 40) (hb : b < 40) (hab : a ≠ b) :
    JoinL (es.take (k + 1)) ((J.set a (J.getD a 0 ||| 1 <<< b)).set b (J.getD b 0 ||| 1 <<< a)) := by
  obtain ⟨hl, hh⟩ := h
  refine ⟨by simp [hl], fun q x hx => ?_⟩
  have hq : q < 40 := by have := (List.getElem?_eq_some_iff.1 hx).1; simp [hl] at this; exact this
  have hJ : ∀ i, i < 40 → J[i]? = some (J.getD i 0) := fun i hi => by
    rw [List.getD_eq_getElem?_getD, List.getElem?_eq_getElem (show i < J.length by omega)]; rfl
  have hx' : x = if q = b then J.getD b 0 ||| 1 <<< a else if q = a then J.getD a 0 ||| 1 <<< b else J.getD q 0 := by
    rw [List.getElem?_set, List.getElem?_set] at hx
    simp only [List.length_set, hl] at hx
    by_cases e1 : b = q
    · subst e1; rw [if_pos rfl, if_pos hb] at hx; rw [if_pos rfl]; exact (Option.some.inj hx).symm
    · rw [if_neg e1] at hx; rw [if_neg (fun e => e1 e.symm)]
      by_cases e2 : a = q
      · subst e2; rw [if_pos rfl, if_pos ha] at hx; rw [if_pos rfl]; exact (Option.some.inj hx).symm
      · rw [if_neg e2, hJ q hq] at hx
        rw [if_neg (fun e => e2 e.symm)]; exact (Option.some.inj hx).symm
  obtain ⟨g1, g2⟩ := hh q _ (hJ q hq)
  have hlt : x < 1099511627776 := by
    rw [hx']
    split
    · exact or_lt (hh b _ (hJ b hb)).1 ha
    · split
      · exact or_lt (hh a _ (hJ a ha)).1 hb
      · exact g1
  refine ⟨hlt, fun r => ?_⟩
  rw [join_ex, take_succ_ex, ← join_ex, ← g2 r]
  have hek : (∃ e, es[k]? = some e ∧ (e = ((q : Int), (r : Int)) ∨ e = ((r : Int), (q : Int)))) ↔ (q = a ∧ r = b) ∨ (q = b ∧ r = a) := by
    rcases he with he | he
    · rw [he]
      constructor
      · rintro ⟨e, h1, h2⟩
        cases h1
        rcases h2 with h2 | h2 <;> simp only [Prod.mk.injEq] at h2 <;> omega
      · rintro (⟨rfl, rfl⟩ | ⟨rfl, rfl⟩)
        · exact ⟨_, rfl, .inl rfl⟩
        · exact ⟨_, rfl, .inr rfl⟩
    · rw [he]
      constructor
      · rintro ⟨e, h1, h2⟩
        cases h1
        rcases h2 with h2 | h2 <;> simp only [Prod.mk.injEq] at h2 <;> omega
      · rintro (⟨rfl, rfl⟩ | ⟨rfl, rfl⟩)
        · exact ⟨_, rfl, .inr rfl⟩
        · exact ⟨_, rfl, .inl rfl⟩
  rw [hek, hx']
  by_cases e1 : q = b
  · subst e1
    rw [if_pos rfl, or_bit, Bool.or_eq_true, decide_eq_true_eq]
    constructor
    · rintro (h | h)
      · exact .inl h
      · exact .inr (.inr ⟨rfl, h.symm⟩)
    · rintro (h | ⟨h, _⟩ | ⟨_, h⟩)
      · exact .inl h
      · exact absurd h.symm hab
      · exact .inr h.symm
  · rw [if_neg e1]
    by_cases e2 : q = a
    · subst e2
      rw [if_pos rfl, or_bit, Bool.or_eq_true, decide_eq_true_eq]
      constructor
      · rintro (h | h)
        · exact .inl h
        · exact .inr (.inl ⟨rfl, h.symm⟩)
      · rintro (h | ⟨_, h⟩ | ⟨h, _⟩)
        · exact .inl h
        · exact .inr h.symm
        · exact absurd h e1
    · rw [if_neg e2]
      constructor
      · exact .inl
      · rintro (h | ⟨h, _⟩ | ⟨h, _⟩)
        · exact h
        · exact absurd h e2
        · exact absurd h e1

end Go.Proofs.YtdpnplanohgecaaDoor

open Go Go.Eng
namespace Go.Proofs.YtdpnplanohgecaaDoor
attribute [local congr] undef_congr WpK.congr WpS.congr WpL.congr WpC.congr WpF.congr gotS.congr callS.congr nextS.congr wantS.congr condS.congr
attribute [local irreducible] WpK
attribute [local simp] WpDr_nil WpDr_cons atS_some dwantS_true dwantS_false kindS_light kindS_float kindS_heavy lightS_value floatS_some heavyS_value heavyS_skip heavyS_enter dcallS_some doneS_eq
  isLight isFloat isPlain dLook testBit_dec dChain dLights_nil dLights_skip dLights_one dLight_nil dLight_cons dFreshes_nil dFreshes_one oneF_none oneF_some dFresh_nil dFresh_cons oneL_some oneW_true oneW_false sameV_value dPut dMay valEq arrEq listEq List.getElem?_cons Tr.get_nil dEnd
attribute [local simp] WpS_nil WpS_cons isDefer undef_false wantS_true wantS_false nextS_value nextS_skip nextS_enter callS_some gotS_some aWanted aOp aEvalF aEval opMove opAssign opPick aVal flat flat1 AAct.put opBinOp opConvert opIndex Tr.get_set Tr.get_lay aBin aResults tupled
  aCall aVals aCallB blt_dec ble_dec beq_dec aBinI_add aBinI_sub aBinI_lss aBinI_leq aBinI_gtr aBinI_geq aBinI_eql aBinI_neq index_str len_str len_slice Nat.beq_refl Nat.beq_refl
  opBox opLoad opFieldAddr opIndexAddr acells aAddr opExtract aExtract opUnOp opAlloc opStore opMakeInterface opNilCheck opBuild aParts opBuildSlice aValW
attribute [local simp] und2 und3 und4 und5 und9 und12 field13_0 field13_1 und21 und22 field23_0 field23_1 field24_0 field24_1 field25_0 field25_1 und28 und31 field34_0 field34_1 field34_2 field35_0 field35_1 field35_2 und46 field50_0 field50_1 field50_2 und55 und56 und58 und61 und62 und73 und75 und90 und94 und95 und96 field97_0 field97_1 field97_2 field97_3 field97_4 field97_5 field97_6 field98_0 field98_1 field98_2 field98_3 field98_4 field98_5 field98_6 und99 und106 field107_0 field107_1 field108_0 field108_1 und119 und122 field124_0 field124_1 field124_2 field125_0 field125_1 field125_2 field131_0 field131_1 field132_0 field132_1 und133 field134_0 field134_1 field135_0 field135_1 und148 und156 und160
set_option maxHeartbeats 4000000
set_option linter.unusedSimpArgs false
set_option linter.unusedVariables false
theorem w1 : IntKind.i64.wrap 1 = 1 := by decide
theorem w2 : IntKind.i64.wrap 2 = 2 := by decide
/-! ### laying a graph -/
theorem max_int (k : IntKind) (a b : Int) : aMinMax true (.int k a) [.int k b] = some (.int k (max a b)) := mm_max k k a b
theorem setBlk_get (W : AW) (r : Nat) (o : ABlk) (b : Nat) : (AW.mk (W.blocks.set r o) W.next).blocks.get b = if b = r then some o else W.blocks.get b := by simp only [Tr.get_set]
theorem setBlk_only (W : AW) (r : Nat) (o : ABlk) : Only (fun b => b = r) W ⟨W.blocks.set r o, W.next⟩ := ⟨Nat.le_refl _, fun b _ hb => by rw [setBlk_get, if_neg hb]⟩
theorem look135 {W : AW} {pm : Nat} {es : List (Value × Value × Nat)} {ck : Nat} (hm : W.blocks.get pm = some ⟨.map es ck, []⟩) (a b : Int) : aLookup T0 W 133 (.map (some pm)) (pr a b) false = match aFind T0 135 (pr a b) es 0 with
    | some (some (_, v)) => some v
    | some none => some (.int .i64 0)
    | none => none := by
  simp only [aLookup, und133, keyOk135, aEntries, hm]
  split
  · rename_i h; simp only [h, aOkd]
  · rename_i h; simp only [h, zero3, aOkd]
  · rename_i h; simp only [h]
theorem entry135_new {W : AW} {pm : Nat} {es : List (Value × Value × Nat)} {ck : Nat} (hm : W.blocks.get pm = some ⟨.map es ck, []⟩) (a b : Int) (hf : aFind T0 135 (pr a b) es 0 = some none) :
    aMapEntry T0 W 133 (.map (some pm)) (pr a b) = some (.tuple ⟨[.int .i64 0, .int .i64 ck]⟩, ⟨W.blocks.set pm ⟨.map (es ++ [(pr a b, .int .i64 0, ck)]) (ck + 1), []⟩, W.next⟩) := by
  simp only [aMapEntry, und133, keyOk135, hm, hf, zero3]
theorem entry135_old {W : AW} {pm : Nat} {es : List (Value × Value × Nat)} {ck : Nat} (hm : W.blocks.get pm = some ⟨.map es ck, []⟩) (a b : Int) {i n : Nat} {v : Value} (hf : aFind T0 135 (pr a b) es 0 = some (some (i, v))) (hi : es[i]? = some (pr a b, v, n)) :
    aMapEntry T0 W 133 (.map (some pm)) (pr a b) = some (.tuple ⟨[v, .int .i64 n]⟩, ⟨W.blocks.set pm ⟨.map es ck, []⟩, W.next⟩) := by
  simp only [aMapEntry, und133, keyOk135, hm, hf, hi, updAt_same hi]
theorem eStore {W : AW} {pm : Nat} {es : List (Value × Value × Nat)} {ck : Nat} (hm : W.blocks.get pm = some ⟨.map es ck, []⟩) (b i : Nat) (v : Value) (hb : bornAt b es 0 = some i) :
    aEntryStore W (.map (some pm)) (.int .i64 (b : Int)) v = some ⟨W.blocks.set pm ⟨.map (putAt es i v) ck, []⟩, W.next⟩ := by
  show aEntryStore W (.map (some pm)) (.int .i64 (Int.ofNat b)) v = _
  simp only [aEntryStore, hm, hb]
theorem getD_set_ne {J : List Nat} {a b x : Nat} (h : a ≠ b) : (J.set a x).getD b 0 = J.getD b 0 := by
  rw [List.getD_eq_getElem?_getD, List.getElem?_set, if_neg h, ← List.getD_eq_getElem?_getD]
theorem setV_set (P : Int) (J : List Nat) (a x : Nat) : (Value.int .i64 P :: J.map setV).set (1 + a) (setV x) = .int .i64 P :: (J.set a x).map setV := by
  rw [show 1 + a = a + 1 from by omega, List.set_cons_succ, List.map_set]
theorem setV_get (P : Int) {J : List Nat} {a : Nat} (h : a < J.length) : (Value.int .i64 P :: J.map setV)[1 + a]? = some (setV (J.getD a 0)) := by
  rw [show 1 + a = a + 1 from by omega, List.getElem?_cons_succ, List.getElem?_map, List.getD_eq_getElem?_getD, List.getElem?_eq_getElem h]; rfl
/-- w.joined[a] |= One(b) -/
theorem joined_or {W : AW} {p a b : Nat} {P : Int} {J : List Nat} (h : Var W p 108 (.int .i64 P :: J.map setV)) (hl : J.length = 40) (ha : a < 40) (hb : b < 40) (hJ : J.getD a 0 < 1099511627776) :
    aLoadVar T0 W 96 p (1 + a) = some (setV (J.getD a 0)) ∧ aBinI .or .u64 ((J.getD a 0 : Nat) : Int) .u64 ((1 <<< b : Nat) : Int) = some (.int .u64 ((J.getD a 0 ||| 1 <<< b : Nat) : Int)) ∧
      ∃ W', aStoreVar T0 W 96 p (1 + a) (setV (J.getD a 0 ||| 1 <<< b)) = some W' ∧ W'.next = W.next ∧ Only (fun x => x = p) W W' ∧ Var W' p 108 (.int .i64 P :: (J.set a (J.getD a 0 ||| 1 <<< b)).map setV) := by
  refine ⟨h.load1 (T := T0) und96 rfl (setV_get P (by omega)), aBinI_or .u64 _ _ (Nat.lt_trans hJ (by decide)) ?_, ?_⟩
  · rw [Nat.one_shiftLeft]; exact Nat.lt_trans (Nat.pow_lt_pow_right (by omega) hb) (by decide)
  · obtain ⟨W', g1, g2, g3, g4⟩ := var_store1 (t := 96) (v := setV (J.getD a 0 ||| 1 <<< b)) (o := 1 + a) h inf96 is96 rfl rfl (by simp [hl]; omega)
    rw [setV_set] at g4
    exact ⟨W', g1, g2, g3, g4⟩

theorem aFind_snoc {t : TypeId} {k k' v : Value} {c : Nat} (hk : keyOk T0 t k' = true) (hkk : keyEq k k' = true) : ∀ {es : List (Value × Value × Nat)} {i : Nat}, (∀ e ∈ es, keyOk T0 t e.1 = true) → (∀ e ∈ es, keyEq k e.1 = false) → aFind T0 t k (es ++ [(k', v, c)]) i = some (some (i + es.length, v))
  | [], i, _, _ => by simp only [List.nil_append, aFind, hk, hkk]; rfl
  | (k2, v2, c2) :: es, i, h1, h2 => by
    have a1 : keyOk T0 t k2 = true := h1 _ (List.mem_cons_self ..)
    have a2 : keyEq k k2 = false := h2 _ (List.mem_cons_self ..)
    simp only [List.cons_append, aFind, a1, a2]
    rw [aFind_snoc hk hkk (fun e he => h1 e (List.mem_cons_of_mem _ he)) (fun e he => h2 e (List.mem_cons_of_mem _ he))]
    simp only [List.length_cons]
    rw [show i + 1 + es.length = i + (es.length + 1) from by omega]

end Go.Proofs.YtdpnplanohgecaaDoor

open Go Go.Eng
namespace Go.Proofs.YtdpnplanohgecaaDoor
attribute [local congr] undef_congr WpK.congr WpS.congr WpL.congr WpC.congr WpF.congr gotS.congr callS.congr nextS.congr wantS.congr condS.congr
attribute [local irreducible] WpK
attribute [local simp] WpDr_nil WpDr_cons atS_some dwantS_true dwantS_false kindS_light kindS_float kindS_heavy lightS_value floatS_some heavyS_value heavyS_skip heavyS_enter dcallS_some doneS_eq
  isLight isFloat isPlain dLook testBit_dec dChain dLights_nil dLights_skip dLights_one dLight_nil dLight_cons dFreshes_nil dFreshes_one oneF_none oneF_some dFresh_nil dFresh_cons oneL_some oneW_true oneW_false sameV_value dPut dMay valEq arrEq listEq List.getElem?_cons Tr.get_nil dEnd
attribute [local simp] WpS_nil WpS_cons isDefer undef_false wantS_true wantS_false nextS_value nextS_skip nextS_enter callS_some gotS_some aWanted aOp aEvalF aEval opMove opAssign opPick aVal flat flat1 AAct.put opBinOp opConvert opIndex Tr.get_set Tr.get_lay aBin aResults tupled
  aCall aVals aCallB blt_dec ble_dec beq_dec aBinI_add aBinI_sub aBinI_lss aBinI_leq aBinI_gtr aBinI_geq aBinI_eql aBinI_neq index_str len_str len_slice Nat.beq_refl Nat.beq_refl
  opBox opLoad opFieldAddr opIndexAddr acells aAddr opExtract aExtract opUnOp opAlloc opStore opMakeInterface opNilCheck opBuild aParts opBuildSlice aValW
attribute [local simp] und2 und3 und4 und5 und9 und12 field13_0 field13_1 und21 und22 field23_0 field23_1 field24_0 field24_1 field25_0 field25_1 und28 und31 field34_0 field34_1 field34_2 field35_0 field35_1 field35_2 und46 field50_0 field50_1 field50_2 und55 und56 und58 und61 und62 und73 und75 und90 und94 und95 und96 field97_0 field97_1 field97_2 field97_3 field97_4 field97_5 field97_6 field98_0 field98_1 field98_2 field98_3 field98_4 field98_5 field98_6 und99 und106 field107_0 field107_1 field108_0 field108_1 und119 und122 field124_0 field124_1 field124_2 field125_0 field125_1 field125_2 field131_0 field131_1 field132_0 field132_1 und133 field134_0 field134_1 field135_0 field135_1 und148 und156 und160
set_option maxHeartbeats 4000000
set_option linter.unusedSimpArgs false
set_option linter.unusedVariables false
theorem OffOk.bound {ll : List (List Int)} (h : OffOk ll) {i j : Nat} (hi : i < ll.length) (hj : j < ll.length) : -1000000 ≤ mAt ll i j ∧ mAt ll i j ≤ 1000000 := by
  have hx := row_some hi
  have hm := List.mem_of_getElem? hx
  exact within_gI (h.2.2.2 _ hm) (by rw [h.2.2.1 _ hm]; exact hj)
end Go.Proofs.YtdpnplanohgecaaDoor

open Go Go.Eng
namespace Go.Proofs.YtdpnplanohgecaaDoor
attribute [local congr] undef_congr WpK.congr WpS.congr WpL.congr WpC.congr WpF.congr gotS.congr callS.congr nextS.congr wantS.congr condS.congr
attribute [local irreducible] WpK
attribute [local simp] WpDr_nil WpDr_cons atS_some dwantS_true dwantS_false kindS_light kindS_float kindS_heavy lightS_value floatS_some heavyS_value heavyS_skip heavyS_enter dcallS_some doneS_eq
  isLight isFloat isPlain dLook testBit_dec dChain dLights_nil dLights_skip dLights_one dLight_nil dLight_cons dFreshes_nil dFreshes_one oneF_none oneF_some dFresh_nil dFresh_cons oneL_some oneW_true oneW_false sameV_value dPut dMay valEq arrEq listEq List.getElem?_cons Tr.get_nil dEnd
attribute [local simp] WpS_nil WpS_cons isDefer undef_false wantS_true wantS_false nextS_value nextS_skip nextS_enter callS_some gotS_some aWanted aOp aEvalF aEval opMove opAssign opPick aVal flat flat1 AAct.put opBinOp opConvert opIndex Tr.get_set Tr.get_lay aBin aResults tupled
  aCall aVals aCallB blt_dec ble_dec beq_dec aBinI_add aBinI_sub aBinI_lss aBinI_leq aBinI_gtr aBinI_geq aBinI_eql aBinI_neq index_str len_str len_slice Nat.beq_refl Nat.beq_refl
  opBox opLoad opFieldAddr opIndexAddr acells aAddr opExtract aExtract opUnOp opAlloc opStore opMakeInterface opNilCheck opBuild aParts opBuildSlice aValW
attribute [local simp] und2 und3 und4 und5 und9 und12 field13_0 field13_1 und21 und22 field23_0 field23_1 field24_0 field24_1 field25_0 field25_1 und28 und31 field34_0 field34_1 field34_2 field35_0 field35_1 field35_2 und46 field50_0 field50_1 field50_2 und55 und56 und58 und61 und62 und73 und75 und90 und94 und95 und96 field97_0 field97_1 field97_2 field97_3 field97_4 field97_5 field97_6 field98_0 field98_1 field98_2 field98_3 field98_4 field98_5 field98_6 und99 und106 field107_0 field107_1 field108_0 field108_1 und119 und122 field124_0 field124_1 field124_2 field125_0 field125_1 field125_2 field131_0 field131_1 field132_0 field132_1 und133 field134_0 field134_1 field135_0 field135_1 und148 und156 und160
set_option maxHeartbeats 4000000
set_option linter.unusedSimpArgs false
set_option linter.unusedVariables false
/-! ### the best assignment -/
theorem grow_push {W : AW} {t el : TypeId} {i : TypeInfo} {z : Value} (ht : T0.und.get t = some (.slice el)) (hi : T0.info.get el = some i) (hs : i.size = 1) (hz : i.zero = some z) (hz1 : (acells z).length = 1) (hb : i.bytes ≤ 24)
    {v : Value} {m : Nat} {l : List Value} {K : Nat → Prop} (h : GrowsN W v m l el 1 K) (hK : ∀ b, K b → b < W.next ∨ W.next ≤ b) (hm : m ≤ 100000) (x : Value) (hx : oneCells [x] = true) :
    ∃ v' W', aAppend T0 (W.newCells el [x]) [t, t] [v, .slice (some ⟨W.next, 0, none⟩) 1 2] = some (v', W') ∧ W.next ≤ W'.next ∧ GrowsN W' v' (m + 1) (l ++ [x]) el 1 (fun b => K b ∨ W.next ≤ b) ∧ Only K W W' := by
  have hE : Ext W (W.newCells el [x]) := .newCells _ _ _
  have hV := Var.new W el [x]
  have hx' : (W.newCells el [x]).cellsAt W.next 0 1 = some [x] := by
    rw [hV.cellsAt 0 1 (by simp)]; rfl
  obtain ⟨v', W', g1, g2, g3, g4⟩ := append_growsN (T := T0) (t := t) (by omega) ht hi hs hz hz1 (h.only (K' := fun _ => False) hE (fun _ _ _ x => x)) (u := [x]) (bx := W.next) (c := 2) rfl hx' hx (by
    have : 2 * (m + 1) * i.bytes ≤ 2 * (m + 1) * 24 := Nat.mul_le_mul_left _ hb
    omega) (by omega)
  refine ⟨v', W', g1, by rw [g2, newCells_next]; omega, g3.mono (fun b hb => hb.elim .inl (fun e => .inr (by rw [newCells_next] at e; omega))), ⟨by rw [g2, newCells_next]; omega, fun b hb hk => ?_⟩⟩
  rw [g4.2 b (by rw [newCells_next]; omega) hk, newCells_get, if_neg (by omega)]
def natsV (ps : List Nat) : List Value := ps.map fun p : Nat => Value.int .i64 (p : Int)
theorem natsV_flat (ps : List Nat) : natsV ps = flatE (encI .i64) (ps.map Int.ofNat) := by
  induction ps with
  | nil => rfl
  | cons a l ih => simp only [natsV, flatE, List.map_cons, List.flatMap_cons] at ih ⊢; rw [ih]; rfl
theorem natsV_row {W : AW} {v : Value} {ps : List Nat} {K : Nat → Prop} (h : GrowsN W v ps.length (natsV ps) 3 1 K) : IntR W v (ps.map Int.ofNat) := by
  rw [natsV_flat] at h
  exact GrowsN.row (l := ps.map Int.ofNat) encI_len (by simpa using h)
/-- what an assignment is -/
def IsAssign (ll : List (List Int)) (ps : List Nat) (B : Nat → Int) : Prop := ps.length = ll.length ∧ BestN ll.length (mAt ll) B ∧ Chosen ll.length (mAt ll) B ps ∧ -12000000 ≤ B 0 ∧ B 0 ≤ 12000000
end Go.Proofs.YtdpnplanohgecaaDoor

open Go Go.Eng
namespace Go.Proofs.YtdpnplanohgecaaDoor
attribute [local congr] undef_congr WpK.congr WpS.congr WpL.congr WpC.congr WpF.congr gotS.congr callS.congr nextS.congr wantS.congr condS.congr
attribute [local irreducible] WpK
attribute [local simp] WpDr_nil WpDr_cons atS_some dwantS_true dwantS_false kindS_light kindS_float kindS_heavy lightS_value floatS_some heavyS_value heavyS_skip heavyS_enter dcallS_some doneS_eq
  isLight isFloat isPlain dLook testBit_dec dChain dLights_nil dLights_skip dLights_one dLight_nil dLight_cons dFreshes_nil dFreshes_one oneF_none oneF_some dFresh_nil dFresh_cons oneL_some oneW_true oneW_false sameV_value dPut dMay valEq arrEq listEq List.getElem?_cons Tr.get_nil dEnd
attribute [local simp] WpS_nil WpS_cons isDefer undef_false wantS_true wantS_false nextS_value nextS_skip nextS_enter callS_some gotS_some aWanted aOp aEvalF aEval opMove opAssign opPick aVal flat flat1 AAct.put opBinOp opConvert opIndex Tr.get_set Tr.get_lay aBin aResults tupled
  aCall aVals aCallB blt_dec ble_dec beq_dec aBinI_add aBinI_sub aBinI_lss aBinI_leq aBinI_gtr aBinI_geq aBinI_eql aBinI_neq index_str len_str len_slice Nat.beq_refl Nat.beq_refl
  opBox opLoad opFieldAddr opIndexAddr acells aAddr opExtract aExtract opUnOp opAlloc opStore opMakeInterface opNilCheck opBuild aParts opBuildSlice aValW
attribute [local simp] und2 und3 und4 und5 und9 und12 field13_0 field13_1 und21 und22 field23_0 field23_1 field24_0 field24_1 field25_0 field25_1 und28 und31 field34_0 field34_1 field34_2 field35_0 field35_1 field35_2 und46 field50_0 field50_1 field50_2 und55 und56 und58 und61 und62 und73 und75 und90 und94 und95 und96 field97_0 field97_1 field97_2 field97_3 field97_4 field97_5 field97_6 field98_0 field98_1 field98_2 field98_3 field98_4 field98_5 field98_6 und99 und106 field107_0 field107_1 field108_0 field108_1 und119 und122 field124_0 field124_1 field124_2 field125_0 field125_1 field125_2 field131_0 field131_1 field132_0 field132_1 und133 field134_0 field134_1 field135_0 field135_1 und148 und156 und160
set_option maxHeartbeats 4000000
set_option linter.unusedSimpArgs false
set_option linter.unusedVariables false
/-! ### prices: what they come to -/
theorem int_at31 {W : AW} {v : Value} {l : List Int} (h : IntR W v l) {i : Nat} {x : Int} (hi : l[i]? = some x) : ∃ b p, aIndexAddr T0 31 v (.int .i64 (i : Int)) = some (.pointer (some ⟨b, p, none⟩)) ∧ aLoadVar T0 W 3 b p = some (.int .i64 x) ∧ W.Has b p (.int .i64 x) := by
  obtain ⟨b, p, h1, h2, h3⟩ := h.int1 (T := T0) hi und31 sz3 und3 rfl
  exact ⟨b, p, h1, h3, h2⟩
def pOf (ps : List Nat) (i : Nat) : Nat := ps.getD i 0
theorem nat_some {ps : List Nat} {i : Nat} (h : i < ps.length) : (ps.map Int.ofNat)[i]? = some ((pOf ps i : Nat) : Int) := by
  rw [List.getElem?_map, pOf, List.getD_eq_getElem?_getD, List.getElem?_eq_getElem h]; rfl
/-- the greatest prices that there can be -/
noncomputable def topV (ll : List (List Int)) (ps : List Nat) (j : Nat) : Int := gainD ll.length (mAt ll) (pOf ps) (ll.length - 1) j
/-- within a round: persons before i are done, and person i for the posts before j -/
structure Rounds (ll : List (List Int)) (ps : List Nat) (vs : List Int) (r i j : Nat) : Prop where
  len : vs.length = ll.length
  low : ∀ q, q < ll.length → 0 ≤ gI vs q ∧ gI vs q ≤ topV ll ps q
  part : ∀ q, q < ll.length → gainM (mAt ll) (pOf ps) (gainD ll.length (mAt ll) (pOf ps) r) (if q < j then i + 1 else i) q ≤ gI vs q
theorem gain_le {ll : List (List Int)} (hok : OffOk ll) {ps : List Nat} (hp : PermN ll.length (pOf ps)) {i j : Nat} (hi : i < ll.length) (hj : j < ll.length) : gain (mAt ll) (pOf ps) i j ≤ 2000000 ∧ -2000000 ≤ gain (mAt ll) (pOf ps) i j := by
  have h1 := hok.bound hi hj
  have h2 := hok.bound hi (hp.1 i hi)
  simp only [gain]; omega
theorem topV_le {ll : List (List Int)} (hok : OffOk ll) {ps : List Nat} (hp : PermN ll.length (pOf ps)) {j : Nat} (hj : j < ll.length) : topV ll ps j ≤ 22000000 := by
  have := gainD_bound (n := ll.length) (c := mAt ll) (p := pOf ps) (B := 2000000) (fun i j hi hj => (gain_le hok hp hi hj).1) (by omega) hj (fun i hi => hp.1 i hi) (ll.length - 1)
  have h12 := hok.2.1
  have e : ((ll.length - 1 : Nat) : Int) ≤ 11 := by omega
  simp only [topV]; omega
theorem topV_closed {ll : List (List Int)} (hok : OffOk ll) {ps : List Nat} {B : Nat → Int} (ha : IsAssign ll ps B) {i j : Nat} (hi : i < ll.length) (hj : j < ll.length) : topV ll ps (pOf ps i) + gain (mAt ll) (pOf ps) i j ≤ topV ll ps j := by
  have h12 := hok.2.1
  have hp : PermN ll.length (pOf ps) := ha.2.2.1.perm ha.1
  exact gainD_closed (by omega) hp (fun q hq => by
    have h1 := ha.2.1.most (by omega) hq
    have h2 := ha.2.2.1.worth ha.2.1 ha.1 (by omega)
    show worthN ll.length (mAt ll) q ≤ worthN ll.length (mAt ll) (fun i => ps.getD i 0)
    omega) hi hj
theorem Rounds.start {ll : List (List Int)} {ps : List Nat} {vs : List Int} (h1 : vs.length = ll.length) (h2 : ∀ q, gI vs q = 0) : Rounds ll ps vs 0 0 0 where
  len := h1
  low := fun q hq => by rw [h2]; exact ⟨Int.le_refl _, gainD_mono (r := 0) (by omega) q⟩
  part := fun q hq => by rw [h2]; simp [gainM, gainD]
theorem Rounds.upd {ll : List (List Int)} (hok : OffOk ll) {ps : List Nat} {B : Nat → Int} (ha : IsAssign ll ps B) {vs : List Int} {r i j : Nat} (h : Rounds ll ps vs r i j) (hi : i < ll.length) (hj : j < ll.length) :
    Rounds ll ps (vs.set j (max (gI vs j) (gI vs (pOf ps i) + mAt ll i j - mAt ll i (pOf ps i)))) r i (j + 1) := by
  have hp : PermN ll.length (pOf ps) := ha.2.2.1.perm ha.1
  have hpi := hp.1 i hi
  have hcl := topV_closed hok ha hi hj
  have hg : gain (mAt ll) (pOf ps) i j = mAt ll i j - mAt ll i (pOf ps i) := rfl
  have hl := h.len
  refine ⟨by simp [h.len], fun q hq => ?_, fun q hq => ?_⟩
  · rw [gI_set (by omega)]
    by_cases e : q = j
    · rw [if_pos e, e]
      have a := h.low j hj
      have b := h.low (pOf ps i) hpi
      omega
    · rw [if_neg e]; exact h.low q hq
  · rw [gI_set (by omega)]
    by_cases e : q = j
    · subst e
      rw [if_pos rfl, if_pos (Nat.lt_succ_self _)]
      have a := h.part q hq
      rw [if_neg (Nat.lt_irrefl _)] at a
      have b := h.part (pOf ps i) hpi
      have b2 := gainM_ge (c := mAt ll) (p := pOf ps) (r := gainD ll.length (mAt ll) (pOf ps) r) (j := pOf ps i) (m := if pOf ps i < q then i + 1 else i)
      simp only [gainM]; omega
    · rw [if_neg e]
      have a := h.part q hq
      by_cases hlt : q < j
      · rw [if_pos hlt] at a; rw [if_pos (by omega)]; exact a
      · rw [if_neg hlt] at a; rw [if_neg (by omega)]; exact a
theorem Rounds.row {ll : List (List Int)} {ps : List Nat} {vs : List Int} {r i : Nat} (h : Rounds ll ps vs r i ll.length) : Rounds ll ps vs r (i + 1) 0 :=
  ⟨h.len, h.low, fun q hq => by have := h.part q hq; rw [if_pos hq] at this; rw [if_neg (by omega)]; exact this⟩
theorem Rounds.round {ll : List (List Int)} {ps : List Nat} {vs : List Int} {r : Nat} (h : Rounds ll ps vs r ll.length 0) : Rounds ll ps vs (r + 1) 0 0 :=
  ⟨h.len, h.low, fun q hq => by have := h.part q hq; rw [if_neg (by omega)] at this; rw [if_neg (by omega)]; exact this⟩
theorem Rounds.rest {ll : List (List Int)} {ps : List Nat} {vs : List Int} (h : Rounds ll ps vs ll.length 0 0) : ∀ q, q < ll.length → gI vs q = topV ll ps q := fun q hq => by
  have h1 := h.part q hq
  rw [if_neg (by omega)] at h1
  have h2 := (h.low q hq).2
  have h3 := gainD_mono (n := ll.length) (c := mAt ll) (p := pOf ps) (show ll.length - 1 ≤ ll.length by omega) q
  simp only [gainM] at h1
  simp only [topV] at h2 ⊢; omega

end Go.Proofs.YtdpnplanohgecaaDoor

open Go Go.Eng
namespace Go.Proofs.YtdpnplanohgecaaDoor
attribute [local congr] undef_congr WpK.congr WpS.congr WpL.congr WpC.congr WpF.congr gotS.congr callS.congr nextS.congr wantS.congr condS.congr
attribute [local irreducible] WpK
attribute [local simp] WpDr_nil WpDr_cons atS_some dwantS_true dwantS_false kindS_light kindS_float kindS_heavy lightS_value floatS_some heavyS_value heavyS_skip heavyS_enter dcallS_some doneS_eq
  isLight isFloat isPlain dLook testBit_dec dChain dLights_nil dLights_skip dLights_one dLight_nil dLight_cons dFreshes_nil dFreshes_one oneF_none oneF_some dFresh_nil dFresh_cons oneL_some oneW_true oneW_false sameV_value dPut dMay valEq arrEq listEq List.getElem?_cons Tr.get_nil dEnd
attribute [local simp] WpS_nil WpS_cons isDefer undef_false wantS_true wantS_false nextS_value nextS_skip nextS_enter callS_some gotS_some aWanted aOp aEvalF aEval opMove opAssign opPick aVal flat flat1 AAct.put opBinOp opConvert opIndex Tr.get_set Tr.get_lay aBin aResults tupled
  aCall aVals aCallB blt_dec ble_dec beq_dec aBinI_add aBinI_sub aBinI_lss aBinI_leq aBinI_gtr aBinI_geq aBinI_eql aBinI_neq index_str len_str len_slice Nat.beq_refl Nat.beq_refl
  opBox opLoad opFieldAddr opIndexAddr acells aAddr opExtract aExtract opUnOp opAlloc opStore opMakeInterface opNilCheck opBuild aParts opBuildSlice aValW
attribute [local simp] und2 und3 und4 und5 und9 und12 field13_0 field13_1 und21 und22 field23_0 field23_1 field24_0 field24_1 field25_0 field25_1 und28 und31 field34_0 field34_1 field34_2 field35_0 field35_1 field35_2 und46 field50_0 field50_1 field50_2 und55 und56 und58 und61 und62 und73 und75 und90 und94 und95 und96 field97_0 field97_1 field97_2 field97_3 field97_4 field97_5 field97_6 field98_0 field98_1 field98_2 field98_3 field98_4 field98_5 field98_6 und99 und106 field107_0 field107_1 field108_0 field108_1 und119 und122 field124_0 field124_1 field124_2 field125_0 field125_1 field125_2 field131_0 field131_1 field132_0 field132_1 und133 field134_0 field134_1 field135_0 field135_1 und148 und156 und160
set_option maxHeartbeats 4000000
set_option linter.unusedSimpArgs false
set_option linter.unusedVariables false
/-! ### prices: the walk -/
structure IsPrices (ll : List (List Int)) (ps : List Nat) (B : Nat → Int) (us vs : List Int) : Prop where
  asg : IsAssign ll ps B
  ul : us.length = ll.length
  vl : vs.length = ll.length
  top : ∀ q, q < ll.length → gI vs q = topV ll ps q
  us : ∀ i, i < ll.length → gI us i = mAt ll i (pOf ps i) - gI vs (pOf ps i)
theorem topV_ge {ll : List (List Int)} {ps : List Nat} (q : Nat) : 0 ≤ topV ll ps q := gainD_mono (r := 0) (by omega) q
end Go.Proofs.YtdpnplanohgecaaDoor

open Go Go.Eng
namespace Go.Proofs.YtdpnplanohgecaaDoor
attribute [local congr] undef_congr WpK.congr WpS.congr WpL.congr WpC.congr WpF.congr gotS.congr callS.congr nextS.congr wantS.congr condS.congr
attribute [local irreducible] WpK
attribute [local simp] WpDr_nil WpDr_cons atS_some dwantS_true dwantS_false kindS_light kindS_float kindS_heavy lightS_value floatS_some heavyS_value heavyS_skip heavyS_enter dcallS_some doneS_eq
  isLight isFloat isPlain dLook testBit_dec dChain dLights_nil dLights_skip dLights_one dLight_nil dLight_cons dFreshes_nil dFreshes_one oneF_none oneF_some dFresh_nil dFresh_cons oneL_some oneW_true oneW_false sameV_value dPut dMay valEq arrEq listEq List.getElem?_cons Tr.get_nil dEnd
attribute [local simp] WpS_nil WpS_cons isDefer undef_false wantS_true wantS_false nextS_value nextS_skip nextS_enter callS_some gotS_some aWanted aOp aEvalF aEval opMove opAssign opPick aVal flat flat1 AAct.put opBinOp opConvert opIndex Tr.get_set Tr.get_lay aBin aResults tupled
  aCall aVals aCallB blt_dec ble_dec beq_dec aBinI_add aBinI_sub aBinI_lss aBinI_leq aBinI_gtr aBinI_geq aBinI_eql aBinI_neq index_str len_str len_slice Nat.beq_refl Nat.beq_refl
  opBox opLoad opFieldAddr opIndexAddr acells aAddr opExtract aExtract opUnOp opAlloc opStore opMakeInterface opNilCheck opBuild aParts opBuildSlice aValW
attribute [local simp] und2 und3 und4 und5 und9 und12 field13_0 field13_1 und21 und22 field23_0 field23_1 field24_0 field24_1 field25_0 field25_1 und28 und31 field34_0 field34_1 field34_2 field35_0 field35_1 field35_2 und46 field50_0 field50_1 field50_2 und55 und56 und58 und61 und62 und73 und75 und90 und94 und95 und96 field97_0 field97_1 field97_2 field97_3 field97_4 field97_5 field97_6 field98_0 field98_1 field98_2 field98_3 field98_4 field98_5 field98_6 und99 und106 field107_0 field107_1 field108_0 field108_1 und119 und122 field124_0 field124_1 field124_2 field125_0 field125_1 field125_2 field131_0 field131_1 field132_0 field132_1 und133 field134_0 field134_1 field135_0 field135_1 und148 und156 und160
set_option maxHeartbeats 4000000
set_option linter.unusedSimpArgs false
set_option linter.unusedVariables false
/-! ### an offer of any numbers -/
theorem vI_flat (l : List Int) : vI l = flatE (encI .i64) l := by
  induction l with
  | nil => rfl
  | cons a l ih => simp only [vI, flatE, List.map_cons, List.flatMap_cons] at ih ⊢; rw [ih]; rfl
theorem vals_flat (us : List Value) : us = flatE encV us := by
  induction us with
  | nil => rfl
  | cons a l ih => simp only [flatE, List.flatMap_cons] at ih ⊢; rw [← ih]; rfl
theorem vals_row {W : AW} {v : Value} {us : List Value} {el : TypeId} {K : Nat → Prop} (h : GrowsN W v us.length us el 1 K) : RowIn 1 encV W v us := by
  have h' : GrowsN W v us.length (flatE encV us) el 1 K := by rw [← vals_flat]; exact h
  exact GrowsN.row (enc := encV) (l := us) (fun _ => rfl) h'
theorem grow_push2 {W : AW} {t el : TypeId} {i : TypeInfo} {z : Value} (ht : T0.und.get t = some (.slice el)) (hi : T0.info.get el = some i) (hs : i.size = 1) (hz : i.zero = some z) (hz1 : (acells z).length = 1) (hb : i.bytes ≤ 24)
    {v : Value} {m : Nat} {l : List Value} {K : Nat → Prop} (h : GrowsN W v m l el 1 K) (hm : m ≤ 100000) (x : Value) (hx : oneCells [x] = true) :
    ∃ v' W', aAppend T0 (W.newCells el [x]) [t, t] [v, .slice (some ⟨W.next, 0, none⟩) 1 2] = some (v', W') ∧ W'.next = W.next + 2 ∧ GrowsN W' v' (m + 1) (l ++ [x]) el 1 (fun b => K b ∨ b = W.next + 1) ∧ Only K W W' := by
  have hE : Ext W (W.newCells el [x]) := .newCells _ _ _
  have hV := Var.new W el [x]
  have hx' : (W.newCells el [x]).cellsAt W.next 0 1 = some [x] := by
    rw [hV.cellsAt 0 1 (by simp)]; rfl
  obtain ⟨v', W', g1, g2, g3, g4⟩ := append_growsN (T := T0) (t := t) (by omega) ht hi hs hz hz1 (h.only (K' := fun _ => False) hE (fun _ _ _ x => x)) (u := [x]) (bx := W.next) (c := 2) rfl hx' hx (by
    have : 2 * (m + 1) * i.bytes ≤ 2 * (m + 1) * 24 := Nat.mul_le_mul_left _ hb
    omega) (by omega)
  refine ⟨v', W', g1, by rw [g2, newCells_next], g3.mono (fun b hb => hb.elim .inl (fun e => .inr (by rw [newCells_next] at e; omega))), ⟨by rw [g2, newCells_next]; omega, fun b hb hk => ?_⟩⟩
  rw [g4.2 b (by rw [newCells_next]; omega) hk, newCells_get, if_neg (by omega)]
/-- rows that have been made, and the list of them -/
structure Made (W W0 : AW) (t : Value) (own : List (List Int)) (n : Nat) (K S : Nat → Prop) : Prop where
  kl : ∀ b, K b → b < W.next ∧ W0.next ≤ b
  sl : ∀ b, S b → b < W.next ∧ W0.next ≤ b ∧ ¬ K b
  ok : ∀ r ∈ own, r.length = n ∧ within 1000000 r
  rows : ∃ us : List Value, us.length = own.length ∧ GrowsN W t own.length us 62 1 K ∧ ∀ (i : Nat) u l, us[i]? = some u → own[i]? = some l → GrowsN W u l.length (vI l) 2 1 S
end Go.Proofs.YtdpnplanohgecaaDoor

open Go Go.Eng
namespace Go.Proofs.YtdpnplanohgecaaDoor
attribute [local congr] undef_congr WpK.congr WpS.congr WpL.congr WpC.congr WpF.congr gotS.congr callS.congr nextS.congr wantS.congr condS.congr
attribute [local irreducible] WpK
attribute [local simp] WpDr_nil WpDr_cons atS_some dwantS_true dwantS_false kindS_light kindS_float kindS_heavy lightS_value floatS_some heavyS_value heavyS_skip heavyS_enter dcallS_some doneS_eq
  isLight isFloat isPlain dLook testBit_dec dChain dLights_nil dLights_skip dLights_one dLight_nil dLight_cons dFreshes_nil dFreshes_one oneF_none oneF_some dFresh_nil dFresh_cons oneL_some oneW_true oneW_false sameV_value dPut dMay valEq arrEq listEq List.getElem?_cons Tr.get_nil dEnd
attribute [local simp] WpS_nil WpS_cons isDefer undef_false wantS_true wantS_false nextS_value nextS_skip nextS_enter callS_some gotS_some aWanted aOp aEvalF aEval opMove opAssign opPick aVal flat flat1 AAct.put opBinOp opConvert opIndex Tr.get_set Tr.get_lay aBin aResults tupled
  aCall aVals aCallB blt_dec ble_dec beq_dec aBinI_add aBinI_sub aBinI_lss aBinI_leq aBinI_gtr aBinI_geq aBinI_eql aBinI_neq index_str len_str len_slice Nat.beq_refl Nat.beq_refl
  opBox opLoad opFieldAddr opIndexAddr acells aAddr opExtract aExtract opUnOp opAlloc opStore opMakeInterface opNilCheck opBuild aParts opBuildSlice aValW
attribute [local simp] und2 und3 und4 und5 und9 und12 field13_0 field13_1 und21 und22 field23_0 field23_1 field24_0 field24_1 field25_0 field25_1 und28 und31 field34_0 field34_1 field34_2 field35_0 field35_1 field35_2 und46 field50_0 field50_1 field50_2 und55 und56 und58 und61 und62 und73 und75 und90 und94 und95 und96 field97_0 field97_1 field97_2 field97_3 field97_4 field97_5 field97_6 field98_0 field98_1 field98_2 field98_3 field98_4 field98_5 field98_6 und99 und106 field107_0 field107_1 field108_0 field108_1 und119 und122 field124_0 field124_1 field124_2 field125_0 field125_1 field125_2 field131_0 field131_1 field132_0 field132_1 und133 field134_0 field134_1 field135_0 field135_1 und148 und156 und160
set_option maxHeartbeats 4000000
set_option linter.unusedSimpArgs false
set_option linter.unusedVariables false
/-! ### the law PairPrices -/
end Go.Proofs.YtdpnplanohgecaaDoor

open Go Go.Eng
namespace Go.Proofs.YtdpnplanohgecaaDoor
attribute [local congr] undef_congr WpK.congr WpS.congr WpL.congr WpC.congr WpF.congr gotS.congr callS.congr nextS.congr wantS.congr condS.congr
attribute [local irreducible] WpK
attribute [local simp] WpDr_nil WpDr_cons atS_some dwantS_true dwantS_false kindS_light kindS_float kindS_heavy lightS_value floatS_some heavyS_value heavyS_skip heavyS_enter dcallS_some doneS_eq
  isLight isFloat isPlain dLook testBit_dec dChain dLights_nil dLights_skip dLights_one dLight_nil dLight_cons dFreshes_nil dFreshes_one oneF_none oneF_some dFresh_nil dFresh_cons oneL_some oneW_true oneW_false sameV_value dPut dMay valEq arrEq listEq List.getElem?_cons Tr.get_nil dEnd
attribute [local simp] WpS_nil WpS_cons isDefer undef_false wantS_true wantS_false nextS_value nextS_skip nextS_enter callS_some gotS_some aWanted aOp aEvalF aEval opMove opAssign opPick aVal flat flat1 AAct.put opBinOp opConvert opIndex Tr.get_set Tr.get_lay aBin aResults tupled
  aCall aVals aCallB blt_dec ble_dec beq_dec aBinI_add aBinI_sub aBinI_lss aBinI_leq aBinI_gtr aBinI_geq aBinI_eql aBinI_neq index_str len_str len_slice Nat.beq_refl Nat.beq_refl
  opBox opLoad opFieldAddr opIndexAddr acells aAddr opExtract aExtract opUnOp opAlloc opStore opMakeInterface opNilCheck opBuild aParts opBuildSlice aValW
attribute [local simp] und2 und3 und4 und5 und9 und12 field13_0 field13_1 und21 und22 field23_0 field23_1 field24_0 field24_1 field25_0 field25_1 und28 und31 field34_0 field34_1 field34_2 field35_0 field35_1 field35_2 und46 field50_0 field50_1 field50_2 und55 und56 und58 und61 und62 und73 und75 und90 und94 und95 und96 field97_0 field97_1 field97_2 field97_3 field97_4 field97_5 field97_6 field98_0 field98_1 field98_2 field98_3 field98_4 field98_5 field98_6 und99 und106 field107_0 field107_1 field108_0 field108_1 und119 und122 field124_0 field124_1 field124_2 field125_0 field125_1 field125_2 field131_0 field131_1 field132_0 field132_1 und133 field134_0 field134_1 field135_0 field135_1 und148 und156 und160
set_option maxHeartbeats 4000000
set_option linter.unusedSimpArgs false
set_option linter.unusedVariables false
/-! ### what an assignment is worth: tight prices -/
theorem sumN_tight {f g : Nat → Int} : ∀ {n : Nat}, (∀ i, i < n → f i ≤ g i) → sumN n g ≤ sumN n f → ∀ i, i < n → f i = g i
  | 0, _, _, i, hi => by omega
  | n + 1, h, e, i, hi => by
    have h1 := sumN_le (n := n) (f := f) (g := g) (fun i hi => h i (by omega))
    have h2 := h n (by omega)
    simp only [sumN] at e
    by_cases hin : i = n
    · subst hin; omega
    · exact sumN_tight (n := n) (fun i hi => h i (by omega)) (by omega) i (by omega)
theorem IsAssign.permN {ll : List (List Int)} {ps : List Nat} {B : Nat → Int} (h : IsAssign ll ps B) : PermN ll.length (pOf ps) := h.2.2.1.perm h.1
theorem IsAssign.worth {ll : List (List Int)} (hok : OffOk ll) {ps : List Nat} {B : Nat → Int} (h : IsAssign ll ps B) : worthN ll.length (mAt ll) (pOf ps) = B 0 := by
  have h12 := hok.2.1
  exact h.2.2.1.worth h.2.1 h.1 (by omega)
theorem IsAssign.most {ll : List (List Int)} (hok : OffOk ll) {ps : List Nat} {B : Nat → Int} (h : IsAssign ll ps B) {q : Nat → Nat} (hq : PermN ll.length q) : worthN ll.length (mAt ll) q ≤ B 0 := by
  have h12 := hok.2.1
  exact h.2.1.most (by omega) hq
theorem IsPrices.cover {ll : List (List Int)} (hok : OffOk ll) {ps : List Nat} {B : Nat → Int} {us vs : List Int} (h : IsPrices ll ps B us vs) {i j : Nat} (hi : i < ll.length) (hj : j < ll.length) : mAt ll i j ≤ gI us i + gI vs j := by
  have h1 := topV_closed hok h.asg hi hj
  have h2 := h.us i hi
  have hp := h.asg.permN
  have h3 := h.top j hj
  have h4 := h.top (pOf ps i) (hp.1 i hi)
  have hg : gain (mAt ll) (pOf ps) i j = mAt ll i j - mAt ll i (pOf ps i) := rfl
  omega
theorem IsPrices.sum {ll : List (List Int)} (hok : OffOk ll) {ps : List Nat} {B : Nat → Int} {us vs : List Int} (h : IsPrices ll ps B us vs) {q : Nat → Nat} (hq : PermN ll.length q) : sumN ll.length (fun i => gI us i + gI vs (q i)) = B 0 := by
  have hp := h.asg.permN
  have e1 : sumN ll.length (fun i => gI us i + gI vs (q i)) = sumN ll.length (gI us) + sumN ll.length (gI vs) := by
    rw [sumN_add (f := gI us) (g := fun i => gI vs (q i)), sumN_perm hq.1 hq.2 (gI vs)]
  have e2 : sumN ll.length (gI us) = sumN ll.length (fun i => mAt ll i (pOf ps i)) - sumN ll.length (fun i => gI vs (pOf ps i)) := by
    rw [← sumN_sub (f := fun i => mAt ll i (pOf ps i)) (g := fun i => gI vs (pOf ps i))]
    exact sumN_congr (fun i hi => h.us i hi)
  have e3 := sumN_perm hp.1 hp.2 (gI vs)
  have e4 : sumN ll.length (fun i => mAt ll i (pOf ps i)) = B 0 := h.asg.worth hok
  omega
theorem IsPrices.tight {ll : List (List Int)} (hok : OffOk ll) {ps ps' : List Nat} {B B' : Nat → Int} {us vs : List Int} (h : IsPrices ll ps' B' us vs) (ha : IsAssign ll ps B) {i : Nat} (hi : i < ll.length) : mAt ll i (pOf ps i) = gI us i + gI vs (pOf ps i) := by
  have hp := ha.permN
  have h1 := h.sum hok hp
  have h2 := ha.worth hok
  have h3 := ha.most hok h.asg.permN
  have h4 := h.asg.worth hok
  exact sumN_tight (f := fun i => mAt ll i (pOf ps i)) (g := fun i => gI us i + gI vs (pOf ps i)) (fun i hi => h.cover hok hi (hp.1 i hi)) (by
    have : sumN ll.length (fun i => mAt ll i (pOf ps i)) = B 0 := h2
    omega) i hi
theorem IsPrices.same {ll : List (List Int)} (hok : OffOk ll) {ps ps' : List Nat} {B B' : Nat → Int} {us vs : List Int} (h : IsPrices ll ps' B' us vs) (ha : IsAssign ll ps B) : B' 0 = B 0 := by
  have h3 := ha.most hok h.asg.permN
  have h4 := h.asg.worth hok
  have h5 := h.asg.most hok ha.permN
  have h6 := ha.worth hok
  omega
theorem permN_id (n : Nat) : PermN n (fun i => i) := ⟨fun i hi => hi, fun i j _ _ e => e⟩
theorem IsPrices.sumI {ll : List (List Int)} (hok : OffOk ll) {ps : List Nat} {B : Nat → Int} {us vs : List Int} (h : IsPrices ll ps B us vs) : sumN ll.length (fun i => gI us i + gI vs i) = B 0 := h.sum hok (permN_id _)
theorem IsPrices.bound {ll : List (List Int)} (hok : OffOk ll) {ps : List Nat} {B : Nat → Int} {us vs : List Int} (h : IsPrices ll ps B us vs) {i : Nat} (hi : i < ll.length) : (0 ≤ gI vs i ∧ gI vs i ≤ 22000000) ∧ -23000000 ≤ gI us i ∧ gI us i ≤ 1000000 := by
  have hp := h.asg.permN
  have v1 := fun j (hj : j < ll.length) => (h.top j hj ▸ ⟨topV_ge j, topV_le hok hp hj⟩ : 0 ≤ gI vs j ∧ gI vs j ≤ 22000000)
  have h2 := h.us i hi
  have h3 := v1 _ (hp.1 i hi)
  have h4 := hok.bound (i := i) (j := pOf ps i) hi (hp.1 i hi)
  exact ⟨v1 i hi, by omega, by omega⟩
theorem IsPrices.are {ll : List (List Int)} (hok : OffOk ll) {ps ps' : List Nat} {B B' : Nat → Int} {us vs : List Int} (h : IsPrices ll ps' B' us vs) (ha : IsAssign ll ps B) (w : Int) : ArePr ll us vs w ↔ w = B 0 := by
  have e := h.sumI hok
  have e2 := h.same hok ha
  constructor
  · intro hh
    have := hh.2.2.2.2.2.2
    omega
  · intro hw
    refine ⟨hok, h.ul, h.vl, within_of fun i hi => ?_, within_of fun i hi => ?_, fun i j hi hj => h.cover hok hi hj, by omega⟩
    · have := (h.bound hok (i := i) (by rw [← h.ul]; exact hi)).2; omega
    · have := (h.bound hok (i := i) (by rw [← h.vl]; exact hi)).1; omega
/-! ### a row of posts that is this function's own -/
theorem ixC (pb N c i : Nat) (k : IntKind) (hi : i < N) : aIndexAddr T0 31 (.slice (some ⟨pb, 0, none⟩) N c) (.int k (i : Nat)) = some (.pointer (some ⟨pb, i, none⟩)) := by
  have := indexAddr_slice (T := T0) und31 sz3 (b := pb) (o := 0) (c := c) (k := k) hi
  rw [Nat.mul_one, Nat.zero_add] at this; exact this
end Go.Proofs.YtdpnplanohgecaaDoor

open Go Go.Eng
namespace Go.Proofs.YtdpnplanohgecaaDoor
attribute [local congr] undef_congr WpK.congr WpS.congr WpL.congr WpC.congr WpF.congr gotS.congr callS.congr nextS.congr wantS.congr condS.congr
attribute [local irreducible] WpK
attribute [local simp] WpDr_nil WpDr_cons atS_some dwantS_true dwantS_false kindS_light kindS_float kindS_heavy lightS_value floatS_some heavyS_value heavyS_skip heavyS_enter dcallS_some doneS_eq
  isLight isFloat isPlain dLook testBit_dec dChain dLights_nil dLights_skip dLights_one dLight_nil dLight_cons dFreshes_nil dFreshes_one oneF_none oneF_some dFresh_nil dFresh_cons oneL_some oneW_true oneW_false sameV_value dPut dMay valEq arrEq listEq List.getElem?_cons Tr.get_nil dEnd
attribute [local simp] WpS_nil WpS_cons isDefer undef_false wantS_true wantS_false nextS_value nextS_skip nextS_enter callS_some gotS_some aWanted aOp aEvalF aEval opMove opAssign opPick aVal flat flat1 AAct.put opBinOp opConvert opIndex Tr.get_set Tr.get_lay aBin aResults tupled
  aCall aVals aCallB blt_dec ble_dec beq_dec aBinI_add aBinI_sub aBinI_lss aBinI_leq aBinI_gtr aBinI_geq aBinI_eql aBinI_neq index_str len_str len_slice Nat.beq_refl Nat.beq_refl
  opBox opLoad opFieldAddr opIndexAddr acells aAddr opExtract aExtract opUnOp opAlloc opStore opMakeInterface opNilCheck opBuild aParts opBuildSlice aValW
attribute [local simp] und2 und3 und4 und5 und9 und12 field13_0 field13_1 und21 und22 field23_0 field23_1 field24_0 field24_1 field25_0 field25_1 und28 und31 field34_0 field34_1 field34_2 field35_0 field35_1 field35_2 und46 field50_0 field50_1 field50_2 und55 und56 und58 und61 und62 und73 und75 und90 und94 und95 und96 field97_0 field97_1 field97_2 field97_3 field97_4 field97_5 field97_6 field98_0 field98_1 field98_2 field98_3 field98_4 field98_5 field98_6 und99 und106 field107_0 field107_1 field108_0 field108_1 und119 und122 field124_0 field124_1 field124_2 field125_0 field125_1 field125_2 field131_0 field131_1 field132_0 field132_1 und133 field134_0 field134_1 field135_0 field135_1 und148 und156 und160
set_option maxHeartbeats 4000000
set_option linter.unusedSimpArgs false
set_option linter.unusedVariables false
/-! ### the reference's assignment: what is first among the best -/
def ChoAt (n : Nat) (c : Nat → Nat → Int) (B : Nat → Int) (ps : List Nat) (k : Nat) : Prop := ps.getD k 0 < n ∧ (tk (fun i => ps.getD i 0) k).testBit (ps.getD k 0) = false ∧
  c k (ps.getD k 0) + B (tk (fun i => ps.getD i 0) (k + 1)) = B (tk (fun i => ps.getD i 0) k) ∧
  ∀ q, q < ps.getD k 0 → ¬ ((tk (fun i => ps.getD i 0) k).testBit q = false ∧ c k q + B (tk (fun i => ps.getD i 0) k ||| 1 <<< q) = B (tk (fun i => ps.getD i 0) k))
def TS (ps : List Nat) : Nat := tk (fun i => ps.getD i 0) ps.length
theorem TS_bit {ps : List Nat} {x : Nat} : (TS ps).testBit x = true ↔ ∃ i, i < ps.length ∧ pOf ps i = x := tk_bit
structure Pre (n : Nat) (ps : List Nat) : Prop where
  len : ps.length ≤ n
  lt : ∀ i, i < ps.length → pOf ps i < n
  dis : ∀ i j, i < j → j < ps.length → pOf ps i ≠ pOf ps j
theorem Pre.nil (n : Nat) : Pre n [] := ⟨by simp, fun i h => by simp at h, fun i j _ h => by simp at h⟩
theorem Pre.ts {n : Nat} {ps : List Nat} (h : Pre n ps) : TS ps < 2 ^ n := tk_lt h.lt
theorem Pre.pc {n : Nat} {ps : List Nat} (h : Pre n ps) (hn : n ≤ 40) : pc (TS ps) = ps.length := tk_cnt (n := n) hn h.lt h.dis
theorem Pre.full {n : Nat} {ps : List Nat} (h : Pre n ps) (hn : n ≤ 40) (e : ps.length = n) : TS ps = 2 ^ n - 1 := by
  subst e; exact tk_full hn h.lt h.dis
theorem Pre.snoc {n : Nat} {ps : List Nat} (h : Pre n ps) (hl : ps.length < n) {x : Nat} (hx : x < n) (hb : (TS ps).testBit x = false) : Pre n (ps ++ [x]) := by
  have g : ∀ i, i < ps.length → pOf (ps ++ [x]) i = pOf ps i := fun i hi => getD_app hi
  have g2 : pOf (ps ++ [x]) ps.length = x := getD_last
  refine ⟨by simp; omega, fun i hi => ?_, fun i j hij hj => ?_⟩
  · simp at hi
    by_cases e : i = ps.length
    · subst e; rw [g2]; exact hx
    · rw [g i (by omega)]; exact h.lt i (by omega)
  · simp at hj
    by_cases e : j = ps.length
    · subst e
      rw [g2, g i hij]
      intro he
      rw [TS_bit.2 ⟨i, hij, he⟩] at hb; cases hb
    · rw [g i (by omega), g j (by omega)]; exact h.dis i j hij (by omega)
theorem BestN.bound {n : Nat} {c : Nat → Nat → Int} {B : Nat → Int} (hB : BestN n c B) (hn : n ≤ 12) (hc : ∀ i j, i < n → j < n → -1000000 ≤ c i j ∧ c i j ≤ 1000000) : ∀ m t, t < 2 ^ n → pc t + m = n → -(1000000 * (m : Int)) ≤ B t ∧ B t ≤ 1000000 * (m : Int) := by
  intro m
  induction m with
  | zero =>
    intro t ht e
    by_cases hf : t = 2 ^ n - 1
    · subst hf; rw [hB.full]; omega
    · obtain ⟨q, h1, h2, h3⟩ := hB.is t ht hf
      have := (pc_or hn ht h1 h2).2; omega
  | succ m ih =>
    intro t ht e
    by_cases hf : t = 2 ^ n - 1
    · subst hf; rw [hB.full]; omega
    · obtain ⟨q, h1, h2, h3⟩ := hB.is t ht hf
      have hp := pc_or hn ht h1 h2
      have h4 := ih (t ||| 1 <<< q) (or_ltp ht h1) (by omega)
      have h5 := hc (pc t) q (by omega) h1
      omega
/-- the best that is known of the posts before j -/
def FarR (n : Nat) (c : Nat → Nat → Int) (B : Nat → Int) (ps : List Nat) (j : Nat) (W : AW) (bv : Value) (w : Int) : Prop :=
  (bv = .slice none 0 0 ∧ w = 0 ∧ ∀ q, q < j → (TS ps).testBit q = true) ∨
  ((∃ a n c, bv = .slice (some a) n c) ∧ ∃ x rs, x < j ∧ (TS ps).testBit x = false ∧ w = c ps.length x + B (TS ps ||| 1 <<< x) ∧ (∀ q, q < j → (TS ps).testBit q = false → c ps.length q + B (TS ps ||| 1 <<< q) ≤ w) ∧
    (∀ q, q < x → (TS ps).testBit q = false → c ps.length q + B (TS ps ||| 1 <<< q) < w) ∧ IntR W bv ((x :: rs).map Int.ofNat) ∧ (ps ++ x :: rs).length = n ∧ ∀ k, ps.length < k → k < n → ChoAt n c B (ps ++ x :: rs) k)
variable {n : Nat} {c : Nat → Nat → Int} {B : Nat → Int} {ps : List Nat} {j : Nat} {W W' : AW} {bv bv' : Value} {w w' : Int}
theorem FarR.start : FarR n c B ps 0 W (.slice none 0 0) 0 := .inl ⟨rfl, rfl, fun q hq => by omega⟩
theorem FarR.ext (h : FarR n c B ps j W bv w) (he : Ext W W') : FarR n c B ps j W' bv w := by
  rcases h with h | ⟨h0, x, rs, h1, h2, h3, h4, h5, h6, h7⟩
  · exact .inl h
  · exact .inr ⟨h0, x, rs, h1, h2, h3, h4, h5, h6.ext he, h7⟩
theorem FarR.skip (h : FarR n c B ps j W bv w) (hb : (TS ps).testBit j = true) : FarR n c B ps (j + 1) W bv w := by
  rcases h with ⟨h1, h2, h3⟩ | ⟨h0, x, rs, h1, h2, h3, h4, h5, h6, h7⟩
  · refine .inl ⟨h1, h2, fun q hq => ?_⟩
    by_cases e : q = j
    · subst e; exact hb
    · exact h3 q (by omega)
  · refine .inr ⟨h0, x, rs, by omega, h2, h3, fun q hq hf => ?_, h5, h6, h7⟩
    by_cases e : q = j
    · subst e; rw [hb] at hf; cases hf
    · exact h4 q (by omega) hf
theorem FarR.stay (h : FarR n c B ps j W bv w) (h0 : bv ≠ .slice none 0 0) (hw : c ps.length j + B (TS ps ||| 1 <<< j) ≤ w) : FarR n c B ps (j + 1) W bv w := by
  rcases h with ⟨h1, h2, h3⟩ | ⟨h0, x, rs, h1, h2, h3, h4, h5, h6, h7⟩
  · exact absurd h1 h0
  · refine .inr ⟨h0, x, rs, by omega, h2, h3, fun q hq hf => ?_, h5, h6, h7⟩
    by_cases e : q = j
    · subst e; exact hw
    · exact h4 q (by omega) hf
theorem FarR.new (h : FarR n c B ps j W bv w) (hb : (TS ps).testBit j = false) (hw : bv = .slice none 0 0 ∨ w < c ps.length j + B (TS ps ||| 1 <<< j)) {rs : List Nat} (h0 : ∃ a n c, bv' = .slice (some a) n c) (hr : IntR W' bv' ((j :: rs).map Int.ofNat))
    (hl : (ps ++ j :: rs).length = n) (hc : ∀ k, ps.length < k → k < n → ChoAt n c B (ps ++ j :: rs) k) : FarR n c B ps (j + 1) W' bv' (c ps.length j + B (TS ps ||| 1 <<< j)) := by
  have key : ∀ q, q < j → (TS ps).testBit q = false → c ps.length q + B (TS ps ||| 1 <<< q) < c ps.length j + B (TS ps ||| 1 <<< j) := fun q hq hf => by
    rcases h with ⟨h1, h2, h3⟩ | ⟨⟨a, m, e, g0⟩, x, rs, h1, h2, h3, h4, h5, h6, h7⟩
    · rw [h3 q hq] at hf; cases hf
    · rcases hw with hw | hw
      · rw [g0] at hw; cases hw
      · have := h4 q hq hf; omega
  refine .inr ⟨h0, j, rs, by omega, hb, rfl, fun q hq hf => ?_, key, hr, hl, hc⟩
  by_cases e : q = j
  · subst e; exact Int.le_refl _
  · exact Int.le_of_lt (key q (by omega) hf)
end Go.Proofs.YtdpnplanohgecaaDoor

open Go Go.Eng
namespace Go.Proofs.YtdpnplanohgecaaDoor
attribute [local congr] undef_congr WpK.congr WpS.congr WpL.congr WpC.congr WpF.congr gotS.congr callS.congr nextS.congr wantS.congr condS.congr
attribute [local irreducible] WpK
attribute [local simp] WpDr_nil WpDr_cons atS_some dwantS_true dwantS_false kindS_light kindS_float kindS_heavy lightS_value floatS_some heavyS_value heavyS_skip heavyS_enter dcallS_some doneS_eq
  isLight isFloat isPlain dLook testBit_dec dChain dLights_nil dLights_skip dLights_one dLight_nil dLight_cons dFreshes_nil dFreshes_one oneF_none oneF_some dFresh_nil dFresh_cons oneL_some oneW_true oneW_false sameV_value dPut dMay valEq arrEq listEq List.getElem?_cons Tr.get_nil dEnd
attribute [local simp] WpS_nil WpS_cons isDefer undef_false wantS_true wantS_false nextS_value nextS_skip nextS_enter callS_some gotS_some aWanted aOp aEvalF aEval opMove opAssign opPick aVal flat flat1 AAct.put opBinOp opConvert opIndex Tr.get_set Tr.get_lay aBin aResults tupled
  aCall aVals aCallB blt_dec ble_dec beq_dec aBinI_add aBinI_sub aBinI_lss aBinI_leq aBinI_gtr aBinI_geq aBinI_eql aBinI_neq index_str len_str len_slice Nat.beq_refl Nat.beq_refl
  opBox opLoad opFieldAddr opIndexAddr acells aAddr opExtract aExtract opUnOp opAlloc opStore opMakeInterface opNilCheck opBuild aParts opBuildSlice aValW
attribute [local simp] und2 und3 und4 und5 und9 und12 field13_0 field13_1 und21 und22 field23_0 field23_1 field24_0 field24_1 field25_0 field25_1 und28 und31 field34_0 field34_1 field34_2 field35_0 field35_1 field35_2 und46 field50_0 field50_1 field50_2 und55 und56 und58 und61 und62 und73 und75 und90 und94 und95 und96 field97_0 field97_1 field97_2 field97_3 field97_4 field97_5 field97_6 field98_0 field98_1 field98_2 field98_3 field98_4 field98_5 field98_6 und99 und106 field107_0 field107_1 field108_0 field108_1 und119 und122 field124_0 field124_1 field124_2 field125_0 field125_1 field125_2 field131_0 field131_1 field132_0 field132_1 und133 field134_0 field134_1 field135_0 field135_1 und148 und156 und160
set_option maxHeartbeats 4000000
set_option linter.unusedSimpArgs false
set_option linter.unusedVariables false
/-! ### the reference's assignment: walks -/
theorem refHas_wp {W : AW} {u : Value} {ps : List Nat} (hU : IntR W u (ps.map Int.ofNat)) (x : Nat) (ha : ps.length < 100000) :
    WpF T0 33 [u, .int .i64 (x : Int)] W (fun r W' => W' = W ∧ r = .bool ((TS ps).testBit x)) := by
  obtain ⟨A1, c1, hu1⟩ := hU.len
  obtain ⟨n, hn⟩ : ∃ n, n = ps.length := ⟨_, rfl⟩
  rw [List.length_map, ← hn] at hu1
  have lu : ∀ W', aLen T0 W' 31 u = some (.int .i64 (n : Int)) := fun W' => by rw [hu1]; exact len_slice und31 _ _ _
  refine wpF fun33 rfl ?_
  try simp only [wpK_assoc]
  refine wpK_reg (fun R hR => by simp []; exact hR) ?_
  try simp only [wpK_assoc]
  refine wpK_reg (fun R hR => by simp []; exact hR) ?_
  try simp only [wpK_assoc]
  refine wpK_while (I := fun k A' W' => A'.n = 18 ∧ A'.defers = [] ∧ A'.tmps.get 0 = some (u) ∧ A'.tmps.get 1 = some (.int .i64 (x : Int)) ∧ W' = W ∧ ∃ i : Nat, A'.tmps.get 5 = some (.int .i64 (i : Int)) ∧ k = n - i ∧ i ≤ n ∧ ∀ q, q < i → pOf ps q ≠ x)
    (J := fun A' W' => A'.n = 18 ∧ A'.defers = [] ∧ A'.tmps.get 0 = some (u) ∧ A'.tmps.get 1 = some (.int .i64 (x : Int)) ∧ W' = W ∧ ∀ q, q < n → pOf ps q ≠ x) (Rt := fun A' W' => W' = W ∧ A'.tmps.get 4 = some (.bool true) ∧ A'.n = 18 ∧ A'.defers = [] ∧ (TS ps).testBit x = true) (k := n) ?_ ?_ ?_ ?_
  · exact ⟨rfl, rfl, by simp, by simp, rfl, 0, by simp, rfl, by omega, fun q hq => by omega⟩
  · rintro k ⟨tm, n, ds⟩ Wa ⟨hn, hd, h0, h1, eW, i, h5, hk, hin, hno⟩ Q' hJ hRt hI
    simp only at hn hd h0 h1
    subst hn; subst hd
    subst Wa
    simp only at h5
    by_cases hlt : i < n
    case neg =>
      have e : i = n := by omega
      subst e
      try simp only [wpK_assoc]
      refine wpK_reg (fun R hR => by simp [h0, h5, lu]; exact hR) ?_
      try simp only [wpK_assoc]
      first | refine wpK_onF (by simp []) ?_ | refine wpK_out (by simp []) ?_ | refine wpK_condF (by simp []) ?_ | refine wpK_endF (by simp []) (wpK_skip ?_) | refine wpK_endF (by simp []) ?_
      exact hJ _ _ ⟨rfl, rfl, by simp [h0, h1], by simp [h0, h1], rfl, hno⟩
    have hlt' : (i : Int) < n := by omega
    try simp only [wpK_assoc]
    refine wpK_reg (fun R hR => by simp [h0, h5, lu, hlt']; exact hR) ?_
    try simp only [wpK_assoc]
    first | refine wpK_onT (by simp [hlt]) ?_ | refine wpK_outT (by simp [hlt]) ?_ | refine wpK_condT (by simp [hlt]) ?_ | refine wpK_endT (by simp [hlt]) ?_
    obtain ⟨bx, px, x1, x2, _⟩ := int_at31 hU (nat_some (ps := ps) (i := i) (by omega))
    refine wpK_block ?_
    by_cases he : pOf ps i = x
    · rw [he] at x2
      try simp only [wpK_assoc]
      refine wpK_reg (fun R hR => by simp [h0, h1, h5, x1, x2]; exact hR) ?_
      try simp only [wpK_assoc]
      first | refine wpK_onT (by simp []) ?_ | refine wpK_outT (by simp []) ?_ | refine wpK_condT (by simp []) ?_ | refine wpK_endT (by simp []) ?_
      try simp only [wpK_assoc]
      refine wpK_reg (fun R hR => by simp []; exact hR) ?_
      refine wpK_ret ?_
      simp only [leaves_ret, behind_ret]
      exact hRt _ _ ⟨rfl, by simp, rfl, rfl, TS_bit.2 ⟨i, by omega, he⟩⟩
    · have he' : ¬ ((pOf ps i : Nat) : Int) = (x : Int) := by omega
      try simp only [wpK_assoc]
      refine wpK_reg (fun R hR => by simp [h0, h1, h5, x1, x2, he']; exact hR) ?_
      try simp only [wpK_assoc]
      first | refine wpK_onF (by simp [he]) ?_ | refine wpK_out (by simp [he]) ?_ | refine wpK_condF (by simp [he]) ?_ | refine wpK_endF (by simp [he]) (wpK_skip ?_) | refine wpK_endF (by simp [he]) ?_
      simp only [leaves_normal, behind_normal]
      try simp only [wpK_assoc]
      refine wpK_reg1 (fun R hR => by simp [h5]; exact hR) ?_
      exact hI (n - (i + 1)) _ _ (by omega) ⟨rfl, rfl, by simp [h0, h1], by simp [h0, h1], rfl, i + 1, by simp [i64_succ i (by omega)], rfl, by omega, fun q hq => by
        by_cases e : q = i
        · subst e; exact he
        · exact hno q (by omega)⟩
  · rintro ⟨tm, m, ds⟩ W' ⟨e1, e2, e3, e4, e5⟩
    simp only at e2 e3 e4
    subst e1; subst e3; subst e4
    refine ⟨.inr rfl, rfl, [.bool true], by simp [e2], rfl, by rw [e5]; rfl⟩
  · rintro ⟨tm, n, ds⟩ Wz ⟨hn, hd, h0, h1, eW, hno⟩
    simp only at hn hd h0 h1
    subst hn; subst hd
    subst Wz
    try simp only [wpK_assoc]
    refine wpK_reg (fun R hR => by simp []; exact hR) ?_
    refine wpK_ret ⟨.inr rfl, rfl, [.bool false], by simp, rfl, ?_⟩
    cases hb : (TS ps).testBit x with
    | false => rfl
    | true => obtain ⟨i, h1, h2⟩ := TS_bit.1 hb; exact absurd h2 (hno i (by omega))

end Go.Proofs.YtdpnplanohgecaaDoor

open Go Go.Eng
namespace Go.Proofs.YtdpnplanohgecaaDoor
attribute [local congr] undef_congr WpK.congr WpS.congr WpL.congr WpC.congr WpF.congr gotS.congr callS.congr nextS.congr wantS.congr condS.congr
attribute [local irreducible] WpK
attribute [local simp] WpDr_nil WpDr_cons atS_some dwantS_true dwantS_false kindS_light kindS_float kindS_heavy lightS_value floatS_some heavyS_value heavyS_skip heavyS_enter dcallS_some doneS_eq
  isLight isFloat isPlain dLook testBit_dec dChain dLights_nil dLights_skip dLights_one dLight_nil dLight_cons dFreshes_nil dFreshes_one oneF_none oneF_some dFresh_nil dFresh_cons oneL_some oneW_true oneW_false sameV_value dPut dMay valEq arrEq listEq List.getElem?_cons Tr.get_nil dEnd
attribute [local simp] WpS_nil WpS_cons isDefer undef_false wantS_true wantS_false nextS_value nextS_skip nextS_enter callS_some gotS_some aWanted aOp aEvalF aEval opMove opAssign opPick aVal flat flat1 AAct.put opBinOp opConvert opIndex Tr.get_set Tr.get_lay aBin aResults tupled
  aCall aVals aCallB blt_dec ble_dec beq_dec aBinI_add aBinI_sub aBinI_lss aBinI_leq aBinI_gtr aBinI_geq aBinI_eql aBinI_neq index_str len_str len_slice Nat.beq_refl Nat.beq_refl
  opBox opLoad opFieldAddr opIndexAddr acells aAddr opExtract aExtract opUnOp opAlloc opStore opMakeInterface opNilCheck opBuild aParts opBuildSlice aValW
attribute [local simp] und2 und3 und4 und5 und9 und12 field13_0 field13_1 und21 und22 field23_0 field23_1 field24_0 field24_1 field25_0 field25_1 und28 und31 field34_0 field34_1 field34_2 field35_0 field35_1 field35_2 und46 field50_0 field50_1 field50_2 und55 und56 und58 und61 und62 und73 und75 und90 und94 und95 und96 field97_0 field97_1 field97_2 field97_3 field97_4 field97_5 field97_6 field98_0 field98_1 field98_2 field98_3 field98_4 field98_5 field98_6 und99 und106 field107_0 field107_1 field108_0 field108_1 und119 und122 field124_0 field124_1 field124_2 field125_0 field125_1 field125_2 field131_0 field131_1 field132_0 field132_1 und133 field134_0 field134_1 field135_0 field135_1 und148 und156 und160
set_option maxHeartbeats 4000000
set_option linter.unusedSimpArgs false
set_option linter.unusedVariables false
/-! ### the reference's assignment: the recursion -/
end Go.Proofs.YtdpnplanohgecaaDoor

open Go Go.Eng
namespace Go.Proofs.YtdpnplanohgecaaDoor
attribute [local congr] undef_congr WpK.congr WpS.congr WpL.congr WpC.congr WpF.congr gotS.congr callS.congr nextS.congr wantS.congr condS.congr
attribute [local irreducible] WpK
attribute [local simp] WpDr_nil WpDr_cons atS_some dwantS_true dwantS_false kindS_light kindS_float kindS_heavy lightS_value floatS_some heavyS_value heavyS_skip heavyS_enter dcallS_some doneS_eq
  isLight isFloat isPlain dLook testBit_dec dChain dLights_nil dLights_skip dLights_one dLight_nil dLight_cons dFreshes_nil dFreshes_one oneF_none oneF_some dFresh_nil dFresh_cons oneL_some oneW_true oneW_false sameV_value dPut dMay valEq arrEq listEq List.getElem?_cons Tr.get_nil dEnd
attribute [local simp] WpS_nil WpS_cons isDefer undef_false wantS_true wantS_false nextS_value nextS_skip nextS_enter callS_some gotS_some aWanted aOp aEvalF aEval opMove opAssign opPick aVal flat flat1 AAct.put opBinOp opConvert opIndex Tr.get_set Tr.get_lay aBin aResults tupled
  aCall aVals aCallB blt_dec ble_dec beq_dec aBinI_add aBinI_sub aBinI_lss aBinI_leq aBinI_gtr aBinI_geq aBinI_eql aBinI_neq index_str len_str len_slice Nat.beq_refl Nat.beq_refl
  opBox opLoad opFieldAddr opIndexAddr acells aAddr opExtract aExtract opUnOp opAlloc opStore opMakeInterface opNilCheck opBuild aParts opBuildSlice aValW
attribute [local simp] und2 und3 und4 und5 und9 und12 field13_0 field13_1 und21 und22 field23_0 field23_1 field24_0 field24_1 field25_0 field25_1 und28 und31 field34_0 field34_1 field34_2 field35_0 field35_1 field35_2 und46 field50_0 field50_1 field50_2 und55 und56 und58 und61 und62 und73 und75 und90 und94 und95 und96 field97_0 field97_1 field97_2 field97_3 field97_4 field97_5 field97_6 field98_0 field98_1 field98_2 field98_3 field98_4 field98_5 field98_6 und99 und106 field107_0 field107_1 field108_0 field108_1 und119 und122 field124_0 field124_1 field124_2 field125_0 field125_1 field125_2 field131_0 field131_1 field132_0 field132_1 und133 field134_0 field134_1 field135_0 field135_1 und148 und156 und160
set_option maxHeartbeats 4000000
set_option linter.unusedSimpArgs false
set_option linter.unusedVariables false
/-! ### laying a graph: the walk -/
theorem load25 {W : AW} {p : Nat} {x y : Value} (h : Var W p 25 [x, y]) : aLoadVar T0 W 25 p 0 = some (.agg ⟨[x, y]⟩) := h.load (T := T0) und25 agg25 inf25 is25
theorem load24 {W : AW} {p : Nat} {x y : Value} (h : Var W p 24 [x, y]) : aLoadVar T0 W 24 p 0 = some (.agg ⟨[x, y]⟩) := h.load (T := T0) und24 agg24 inf24 is24
theorem load135 {W : AW} {p : Nat} {x y : Int} (h : Var W p 135 [.int .i64 x, .int .i64 y]) : aLoadVar T0 W 135 p 0 = some (pr x y) := h.load (T := T0) und135 agg135 inf135 is135
/-- what stands while a graph is laid -/
structure Laying (W : AW) (pw pm : Nat) (P : Int) (es : List Edge) (i : Nat) : Prop where
  web : Web W pw P (es.take i)
  map : W.blocks.get pm = some ⟨.map (entsL es i) i, []⟩
  lt : pm < W.next
theorem Laying.keep {W W' : AW} {pw pm : Nat} {P : Int} {es : List Edge} {i : Nat} {K : Nat → Prop} (h : Laying W pw pm P es i) (hO : Only K W W') (h1 : ¬ K pw) (h2 : ¬ K pm) : Laying W' pw pm P es i where
  web := let ⟨J, g1, g2⟩ := h.web; ⟨J, g1, g2.only hO h1⟩
  map := (hO.2 pm h.lt h2).trans h.map
  lt := Nat.lt_of_lt_of_le h.lt hO.1
theorem lay_wp {W : AW} {v : Value} (P : Int) {es : List Edge} (h : PairR W v es) (hl : es.length < 4611686018427387904) :
    WpF T0 54 [.agg ⟨[.int .i64 P, v]⟩] W (fun u W' => Ext W W' ∧ ((GraphOk P es ∧ ∃ p, W.next ≤ p ∧ u = .tuple ⟨[.pointer (some ⟨p, 0, none⟩), .int .i64 0]⟩ ∧ Web W' p P es) ∨ (¬ GraphOk P es ∧ u = .tuple ⟨[.pointer none, .int .i64 40]⟩))) := by
  refine wpF fun54 rfl ?_
  obtain ⟨W1, hW1, hE1, hn1, hV⟩ : ∃ W1, W1 = W.newCells 25 [.int .i64 P, v] ∧ Ext W W1 ∧ W1.next = W.next + 1 ∧ Var W1 W.next 25 [.int .i64 P, v] := ⟨_, rfl, .newCells _ _ _, rfl, Var.new _ _ _⟩
  have hR := h.ext hE1
  obtain ⟨A, c, hv⟩ := h.len
  have l0 : ∀ W', Ext W1 W' → aLoadVar T0 W' 3 W.next 0 = some (.int .i64 P) := fun W' hE => (hV.ext hE).load1 (T := T0) und3 rfl (j := 0) (v := .int .i64 P) rfl
  have l1 : ∀ W', Ext W1 W' → aLoadVar T0 W' 22 W.next 1 = some v := fun W' hE => (hV.ext hE).load1 (T := T0) und22 rfl (j := 1) (v := v) rfl
  have ll : ∀ W', aLen T0 W' 22 v = some (.int .i64 es.length) := fun W' => by rw [hv]; exact len_slice und22 _ _ _
  have e11 : Ext W1 W1 := .refl _ _
  try simp only [wpK_assoc]
  refine wpK_reg (fun R hR => by simp [← hW1]; exact hR) ?_
  by_cases h1 : P < 1
  · try simp only [wpK_assoc]
    refine wpK_reg (fun R hR => by simp [l0, e11, h1]; exact hR) ?_
    try simp only [wpK_assoc]
    first | refine wpK_onT (by simp []) ?_ | refine wpK_outT (by simp []) ?_ | refine wpK_condT (by simp []) ?_ | refine wpK_endT (by simp []) ?_
    try simp only [wpK_assoc]
    refine wpK_reg (fun R hR => by simp []; exact hR) ?_
    exact wpK_ret ⟨.inr rfl, rfl, [.pointer none, .int .i64 40], by simp, hE1, .inr ⟨fun hg => by have := hg.1; omega, rfl⟩⟩
  by_cases h2 : 40 < P
  · try simp only [wpK_assoc]
    refine wpK_reg (fun R hR => by simp [l0, e11, h1, h2]; exact hR) ?_
    try simp only [wpK_assoc]
    first | refine wpK_onT (by simp []) ?_ | refine wpK_outT (by simp []) ?_ | refine wpK_condT (by simp []) ?_ | refine wpK_endT (by simp []) ?_
    try simp only [wpK_assoc]
    refine wpK_reg (fun R hR => by simp []; exact hR) ?_
    exact wpK_ret ⟨.inr rfl, rfl, [.pointer none, .int .i64 40], by simp, hE1, .inr ⟨fun hg => by have := hg.2.1; omega, rfl⟩⟩
  by_cases h3 : (300 : Int) < es.length
  · try simp only [wpK_assoc]
    refine wpK_reg (fun R hR => by simp [l0, l1, e11, ll, h1, h2, h3]; exact hR) ?_
    try simp only [wpK_assoc]
    first | refine wpK_onT (by simp []) ?_ | refine wpK_outT (by simp []) ?_ | refine wpK_condT (by simp []) ?_ | refine wpK_endT (by simp []) ?_
    try simp only [wpK_assoc]
    refine wpK_reg (fun R hR => by simp []; exact hR) ?_
    exact wpK_ret ⟨.inr rfl, rfl, [.pointer none, .int .i64 40], by simp, hE1, .inr ⟨fun hg => by have := hg.2.2.1; omega, rfl⟩⟩
  try simp only [wpK_assoc]
  refine wpK_reg (fun R hR => by simp [l0, l1, e11, ll, h1, h2, h3]; exact hR) ?_
  try simp only [wpK_assoc]
  first | refine wpK_onF (by simp []) ?_ | refine wpK_out (by simp []) ?_ | refine wpK_condF (by simp []) ?_ | refine wpK_endF (by simp []) (wpK_skip ?_) | refine wpK_endF (by simp []) ?_
  obtain ⟨W2, hW2, hE2, hn2, hV2⟩ : ∃ W2, W2 = W1.newCells 108 (.int .i64 P :: zer40) ∧ Ext W1 W2 ∧ W2.next = W1.next + 1 ∧ Var W2 W1.next 108 (.int .i64 P :: zer40) := ⟨_, rfl, .newCells _ _ _, rfl, Var.new _ _ _⟩
  try simp only [wpK_assoc]
  refine wpK_reg (fun R hR => by simp [l0, e11, build108, ← hW2]; exact hR) ?_
  obtain ⟨W3, hW3, hE3, hn3, hM3⟩ : ∃ W3, W3 = W2.new (.map [] 0) ∧ Ext W2 W3 ∧ W3.next = W2.next + 1 ∧ W3.blocks.get W2.next = some ⟨.map [] 0, []⟩ := ⟨_, rfl, ⟨Nat.le_succ _, fun b hb _ => by simp only [AW.new, Tr.get_set]; rw [if_neg (by omega)]⟩, rfl, by simp only [AW.new, Tr.get_set, if_true]⟩
  try simp only [wpK_assoc]
  refine wpK_reg (fun R hR => by simp [opMakeMap, aMakeMap, aOpt, ← hW3]; exact hR) ?_
  have hE13 := hE2.trans hE3
  have hL0 : Laying W3 W1.next W2.next P es 0 := ⟨⟨List.replicate 40 0, ⟨by simp, fun q x hx => by
      have := List.getElem?_replicate (a := 0) (n := 40) (i := q)
      rw [this] at hx
      split at hx
      · cases hx; exact ⟨by omega, fun r => by simp⟩
      · cases hx⟩, by
      have e : (List.replicate 40 0).map setV = zer40 := by rw [List.map_replicate]; rfl
      rw [e]; exact hV2.ext hE3⟩, hM3, by omega⟩
  try simp only [wpK_assoc]
  refine wpK_reg (fun R hR => by simp [l1, hE13, ll]; exact hR) ?_
  obtain ⟨pw, hpw⟩ : ∃ p, p = W1.next := ⟨_, rfl⟩
  obtain ⟨pm, hpm⟩ : ∃ p, p = W2.next := ⟨_, rfl⟩
  rw [← hpw, ← hpm] at hL0
  try simp only [wpK_assoc]
  refine wpK_while (I := fun k A W' => A.n = 105 ∧ A.defers = [] ∧ A.tmps.get 1 = some (.pointer (some ⟨W.next, 0, none⟩)) ∧ A.tmps.get 4 = some (.pointer (some ⟨pw, 0, none⟩)) ∧ A.tmps.get 5 = some (.map (some pm)) ∧ A.tmps.get 29 = some (v) ∧ A.tmps.get 30 = some (.int .i64 es.length) ∧ Ext W1 W' ∧ ∃ i : Nat, A.tmps.get 31 = some (.int .i64 (i : Int)) ∧ k = es.length - i ∧ i ≤ es.length ∧ GoodTo P es i ∧ Laying W' pw pm P es i)
    (J := fun A W' => A.n = 105 ∧ A.defers = [] ∧ A.tmps.get 1 = some (.pointer (some ⟨W.next, 0, none⟩)) ∧ A.tmps.get 4 = some (.pointer (some ⟨pw, 0, none⟩)) ∧ A.tmps.get 5 = some (.map (some pm)) ∧ A.tmps.get 29 = some (v) ∧ A.tmps.get 30 = some (.int .i64 es.length) ∧ Ext W1 W' ∧ GoodTo P es es.length ∧ Laying W' pw pm P es es.length) (Rt := fun A W' => A.defers = [] ∧ Ext W1 W' ∧ A.tmps.get 2 = some (.pointer none) ∧ A.tmps.get 3 = some (.int .i64 40) ∧ ¬ GraphOk P es) (k := es.length) ?_ ?_ ?_ ?_
  · exact ⟨rfl, rfl, by simp [hpw, hpm], by simp [hpw, hpm], by simp [hpw, hpm], by simp [hpw, hpm], by simp [hpw, hpm], hE13, 0, by simp, rfl, by omega, fun i hi => by omega, hL0⟩
  · rintro k ⟨tm, n, ds⟩ Wa ⟨hn, hd, h1, h4, h5, h29, h30, hEa, i, h31, hk, hi, hg, hLa⟩ Q' hJ hRt hI
    simp only at hn hd h1 h4 h5 h29 h30
    subst hn; subst hd
    simp only at h31
    by_cases hlt : i < es.length
    case neg =>
      have e : i = es.length := by omega
      subst e
      try simp only [wpK_assoc]
      refine wpK_reg (fun R hR => by simp [h30, h31]; exact hR) ?_
      try simp only [wpK_assoc]
      first | refine wpK_onF (by simp []) ?_ | refine wpK_out (by simp []) ?_ | refine wpK_condF (by simp []) ?_ | refine wpK_endF (by simp []) (wpK_skip ?_) | refine wpK_endF (by simp []) ?_
      exact hJ _ _ ⟨rfl, rfl, by simp [h1, h4, h5, h29, h30], by simp [h1, h4, h5, h29, h30], by simp [h1, h4, h5, h29, h30], by simp [h1, h4, h5, h29, h30], by simp [h1, h4, h5, h29, h30], hEa, hg, hLa⟩
    have hlt' : (i : Int) < es.length := by omega
    try simp only [wpK_assoc]
    refine wpK_reg (fun R hR => by simp [h30, h31, hlt']; exact hR) ?_
    try simp only [wpK_assoc]
    first | refine wpK_onT (by simp []) ?_ | refine wpK_outT (by simp []) ?_ | refine wpK_condT (by simp []) ?_ | refine wpK_endT (by simp []) ?_
    obtain ⟨⟨a, b⟩, hab⟩ : ∃ e : Edge, es[i] = e := ⟨_, rfl⟩
    have ha : es[i]? = some (a, b) := by rw [List.getElem?_eq_getElem hlt, hab]
    have hRa := hR.ext hEa
    obtain ⟨q, o, hx, hh⟩ := hRa.at (T := T0) ha und22 sz55 .i64
    have lab := load55 hh
    refine wpK_block ?_
    obtain ⟨Wb, hWb, hnb, hEb, hVb⟩ := storeVar_new (T := T0) (W := Wa) (t := 55) (v := pr a b) (z := [.int .i64 0, .int .i64 0]) inf55 (by rw [is55]; rfl) (by rw [is55]; rfl) rfl
    try simp only [wpK_assoc]
    refine wpK_reg (fun R hR => by simp [h29, h31, hx, lab, zero55, hWb]; exact hR) ?_
    have la := hVb.load1 (T := T0) und3 rfl (j := 0) (v := .int .i64 a) rfl
    have lb := hVb.load1 (T := T0) und3 rfl (j := 1) (v := .int .i64 b) rfl
    obtain ⟨Wc, hWc, hnc, hEc, hVc⟩ := storeVar_new (T := T0) (W := Wb) (t := 135) (v := pr (min a b) (max a b)) (z := [.int .i64 0, .int .i64 0]) inf135 (by rw [is135]; rfl) (by rw [is135]; rfl) rfl
    try simp only [wpK_assoc]
    refine wpK_reg (fun R hR => by simp [ix55_0, ix55_1, la, lb, min_int, max_int, build135, zero135, hWc]; exact hR) ?_
    have hLc := (hLa.keep hEb (fun x => x) (fun x => x)).keep hEc (fun x => x) (fun x => x)
    have hpmlt := hLc.lt
    have hVc' : Var Wc Wb.next 135 [.int .i64 (min a b), .int .i64 (max a b)] := hVc
    have lk := fun W' (hE : Only (fun x => x = pm) Wc W') => load135 (hVc'.only hE (by have := hLa.lt; omega))
    have hEac := hEb.trans hEc
    have hE1c := hEa.trans hEac
    have hMc := hLc.map
    have hbn := hLa.lt
    have l8a : ∀ W', Only (fun x => x = pm) Wc W' → aLoadVar T0 W' 3 Wb.next 0 = some (.int .i64 (min a b)) := fun W' hE => (hVc'.only hE (by omega)).load1 (T := T0) und3 rfl (j := 0) rfl
    have l8b : ∀ W', Only (fun x => x = pm) Wc W' → aLoadVar T0 W' 3 Wb.next 1 = some (.int .i64 (max a b)) := fun W' hE => (hVc'.only hE (by omega)).load1 (T := T0) und3 rfl (j := 1) rfl
    have hkl := entsL_len es i
    have hkeys := entsL_key (es := es) (i := i) (by omega)
    have hpw1 : pw < pm := by omega
    have lP : ∀ W', Only (fun x => x = pm) Wc W' → aLoadVar T0 W' 3 W.next 0 = some (.int .i64 P) := fun W' hE => (hV.only (K := fun x => x = pm) ⟨Nat.le_trans hE1c.1 hE.1, fun b hb hk => by rw [hE.2 b (by have := hE1c.1; omega) hk, hE1c.2 b hb (fun x => x)]⟩ (by omega)).load1 (T := T0) und3 rfl (j := 0) rfl
    have hE1' : ∀ W', Only (fun x => x = pm) Wc W' → Ext W1 W' := fun W' hE => ⟨Nat.le_trans hE1c.1 hE.1, fun b hb _ => by rw [hE.2 b (by have := hE1c.1; omega) (by omega), hE1c.2 b hb (fun x => x)]⟩
    by_cases hdup : ∃ j : Nat, j < i ∧ (es[j]? = some (a, b) ∨ es[j]? = some (b, a))
    · -- an edge that was there
      have hin : ∃ e ∈ entsL es i, keyEq (pr (min a b) (max a b)) e.1 = true := by
        obtain ⟨j, hj, hj2⟩ := hdup
        rcases hj2 with hj2 | hj2
        · exact ⟨_, List.mem_of_getElem? (entsL_get hj hj2), by rw [keyEq_pr]; simp⟩
        · exact ⟨_, List.mem_of_getElem? (entsL_get hj hj2), by rw [keyEq_pr]; simp only [Bool.and_eq_true, decide_eq_true_eq]; omega⟩
      obtain ⟨j, e, hf, hje, hke⟩ := aFind_some (T := T0) (t := 135) (i := 0) hkeys hin
      have hji : j < i := by have := (List.getElem?_eq_some_iff.1 hje).1; omega
      obtain ⟨⟨c', d'⟩, hcd⟩ : ∃ e : Edge, es[j] = e := ⟨_, rfl⟩
      have hcj : es[j]? = some (c', d') := by rw [List.getElem?_eq_getElem (by omega), hcd]
      have := entsL_get hji hcj
      rw [hje] at this
      cases this
      simp only [keyEq_pr, Bool.and_eq_true, decide_eq_true_eq] at hke
      rw [← hke.1, ← hke.2] at hje
      simp only [Nat.zero_add] at hf
      have hfe := entry135_old hMc (min a b) (max a b) hf hje
      obtain ⟨Wd, hWd, hOd, hMd, hnd⟩ : ∃ Wd, Wd = (⟨Wc.blocks.set pm ⟨.map (entsL es i) i, []⟩, Wc.next⟩ : AW) ∧ Only (fun x => x = pm) Wc Wd ∧ Wd.blocks.get pm = some ⟨.map (entsL es i) i, []⟩ ∧ Wd.next = Wc.next := ⟨_, rfl, setBlk_only _ _ _, by rw [setBlk_get, if_pos rfl], rfl⟩
      rw [← hWd] at hfe
      have hbo : bornAt j (entsL es i) 0 = some j := by
        have := bornAt_idx (es := entsL es i) (s := 0) (i := 0) (j := j) (fun q x hx => by
          have hq : q < i := by have := (List.getElem?_eq_some_iff.1 hx).1; omega
          obtain ⟨⟨c2, d2⟩, hcd2⟩ : ∃ e : Edge, es[q] = e := ⟨_, rfl⟩
          have := entsL_get hq (by rw [List.getElem?_eq_getElem (show q < es.length by omega), hcd2])
          rw [hx] at this; cases this; rfl) (by omega)
        simpa using this
      have hes := eStore hMd j j (.int .i64 2) hbo
      obtain ⟨We, hWe, hOe, hMe, hne'⟩ : ∃ We, We = (⟨Wd.blocks.set pm ⟨.map (putAt (entsL es i) j (.int .i64 2)) i, []⟩, Wd.next⟩ : AW) ∧ Only (fun x => x = pm) Wd We ∧ We.blocks.get pm = some ⟨.map (putAt (entsL es i) j (.int .i64 2)) i, []⟩ ∧ We.next = Wd.next := ⟨_, rfl, setBlk_only _ _ _, by rw [setBlk_get, if_pos rfl], rfl⟩
      rw [← hWe] at hes
      have k1 := look135 hMc (min a b) (max a b)
      have k2 := look135 hMd (min a b) (max a b)
      have k3 := look135 hMe (min a b) (max a b)
      rw [hf] at k1 k2
      have hf2 := aFind_put (i := 0) (j := j) (v' := .int .i64 2) (by rw [Nat.zero_add]; exact hf)
      rw [hf2] at k3
      simp only at k1 k2 k3
      have hOce := hOd.trans hOe
      have hr0 : Only (fun x => x = pm) Wc Wc := .refl _ _
      have lk0 := lk Wc hr0
      have lkd := lk Wd hOd
      have lke := lk We hOce
      rw [pr] at lk0 lkd lke k1 k2 k3 hfe
      try simp only [wpK_assoc]
      refine wpK_dn (wr := Tr.nil |>.set 46 0 |>.set 47 1 |>.set 48 2 |>.set 49 3 |>.set 50 4 |>.set 51 5) (bits := Tr.nil.lay 0 [0, 0, 3, 7, 3, 19, 63]) (ord := [0, 1, 2, 3, 4, 5, 6]) (by kernel_rfl) (by kernel_rfl) (by kernel_rfl) (fun G hG => by
        simp [h5, lk0, lkd, opLookup, k1, k2, opMapEntry, hfe, opEntryStore, hes, hnd, hne', w1, w2]
        exact hG) ?_
      refine wpK_keep (fun tm' => tm'.get 1 = some (.pointer (some ⟨W.next, 0, none⟩)) ∧ tm'.get 4 = some (.pointer (some ⟨pw, 0, none⟩)) ∧ tm'.get 5 = some (.map (some pm)) ∧ tm'.get 8 = some (.pointer (some ⟨Wb.next, 0, none⟩)) ∧ tm'.get 29 = some (v) ∧ tm'.get 30 = some (.int .i64 es.length) ∧ tm'.get 31 = some (.int .i64 (i : Int))) ⟨by simp [h1, h4, h5, h29, h30, h31], by simp [h1, h4, h5, h29, h30, h31], by simp [h1, h4, h5, h29, h30, h31], by simp [h1, h4, h5, h29, h30, h31], by simp [h1, h4, h5, h29, h30, h31], by simp [h1, h4, h5, h29, h30, h31], by simp [h1, h4, h5, h29, h30, h31]⟩ ?_
      rintro tm ⟨h1, h4, h5, h8, h29, h30, h31⟩
      have hE1e := hE1' We hOce
      have hbad : ¬ GraphOk P es := fun hG => by
        have hij := (hG.2.2.2 i hlt a b ha).2.2.2.2.2 j hji
        rw [hcj] at hij
        have : (c' = a ∧ d' = b) ∨ (c' = b ∧ d' = a) := by omega
        rcases this with ⟨rfl, rfl⟩ | ⟨rfl, rfl⟩
        · exact hij.1 rfl
        · exact hij.2 rfl
      obtain ⟨i1, i2, i3, i4, i5, _⟩ := hg j hji c' d' hcj
      have n1 : ¬ min a b < 0 := by omega
      have n2 : ¬ P ≤ max a b := by omega
      have n3 : ¬ min a b = max a b := by omega
      try simp only [wpK_assoc]
      refine wpK_reg (fun R hR => by simp [h1, h5, h8, l8a We hOce, l8b We hOce, lP We hOce, lke, opLookup, k3, n1, n2, n3]; exact hR) ?_
      try simp only [wpK_assoc]
      first | refine wpK_onT (by simp []) ?_ | refine wpK_outT (by simp []) ?_ | refine wpK_condT (by simp []) ?_ | refine wpK_endT (by simp []) ?_
      try simp only [wpK_assoc]
      refine wpK_reg (fun R hR => by simp []; exact hR) ?_
      exact wpK_ret (hRt _ _ ⟨rfl, hE1e, by simp, by simp, hbad⟩)
    · -- a new one
      have hnew : ∀ j, j < i → es[j]? ≠ some (a, b) ∧ es[j]? ≠ some (b, a) := fun j hj => ⟨fun e => hdup ⟨j, hj, .inl e⟩, fun e => hdup ⟨j, hj, .inr e⟩⟩
      have hne : ∀ e ∈ entsL es i, keyEq (pr (min a b) (max a b)) e.1 = false := fun e he => by
        obtain ⟨j, c', d', hj, hcd, rfl⟩ := entsL_mem (by omega) he
        have := hnew j hj
        rw [hcd] at this
        have e1 : ¬ (c' = a ∧ d' = b) := fun e => this.1 (by rw [e.1, e.2])
        have e2 : ¬ (c' = b ∧ d' = a) := fun e => this.2 (by rw [e.1, e.2])
        simp only [keyEq_pr, Bool.and_eq_false_iff, decide_eq_false_iff_not]
        omega
      have hf := aFind_none (T := T0) (t := 135) (i := 0) hkeys hne
      have hfe := entry135_new hMc (min a b) (max a b) hf
      obtain ⟨Wd, hWd, hOd, hMd, hnd⟩ : ∃ Wd, Wd = (⟨Wc.blocks.set pm ⟨.map (entsL es i ++ [(pr (min a b) (max a b), .int .i64 0, i)]) (i + 1), []⟩, Wc.next⟩ : AW) ∧ Only (fun x => x = pm) Wc Wd ∧ Wd.blocks.get pm = some ⟨.map (entsL es i ++ [(pr (min a b) (max a b), .int .i64 0, i)]) (i + 1), []⟩ ∧ Wd.next = Wc.next := ⟨_, rfl, setBlk_only _ _ _, by rw [setBlk_get, if_pos rfl], rfl⟩
      rw [← hWd] at hfe
      have hbo : bornAt i (entsL es i ++ [(pr (min a b) (max a b), .int .i64 0, i)]) 0 = some i := by
        have := bornAt_idx (es := entsL es i ++ [(pr (min a b) (max a b), .int .i64 0, i)]) (s := 0) (i := 0) (j := i) (fun q x hx => by
          by_cases hq : q < i
          · rw [List.getElem?_append_left (by omega)] at hx
            obtain ⟨⟨c2, d2⟩, hcd2⟩ : ∃ e : Edge, es[q] = e := ⟨_, rfl⟩
            have := entsL_get hq (by rw [List.getElem?_eq_getElem (show q < es.length by omega), hcd2])
            rw [hx] at this; cases this; rfl
          · rw [List.getElem?_append_right (by omega), hkl] at hx
            have hq0 : q - i = 0 := by have := (List.getElem?_eq_some_iff.1 hx).1; simp at this; omega
            rw [hq0] at hx; cases hx
            simp only; omega) (by simp [hkl])
        simpa using this
      have hes := eStore hMd i i (.int .i64 1) hbo
      have hput : putAt (entsL es i ++ [(pr (min a b) (max a b), .int .i64 0, i)]) i (.int .i64 1) = entsL es (i + 1) := by
        have := putAt_last (k := pr (min a b) (max a b)) (v := .int .i64 0) (v' := .int .i64 1) (c := i) (entsL es i)
        rw [hkl] at this
        rw [this, entsL_succ ha]
      rw [hput] at hes
      obtain ⟨We, hWe, hOe, hMe, hne'⟩ : ∃ We, We = (⟨Wd.blocks.set pm ⟨.map (entsL es (i + 1)) (i + 1), []⟩, Wd.next⟩ : AW) ∧ Only (fun x => x = pm) Wd We ∧ We.blocks.get pm = some ⟨.map (entsL es (i + 1)) (i + 1), []⟩ ∧ We.next = Wd.next := ⟨_, rfl, setBlk_only _ _ _, by rw [setBlk_get, if_pos rfl], rfl⟩
      rw [← hWe] at hes
      have k1 := look135 hMc (min a b) (max a b)
      have k2 := look135 hMd (min a b) (max a b)
      have k3 := look135 hMe (min a b) (max a b)
      have kself : keyEq (pr (min a b) (max a b)) (pr (min a b) (max a b)) = true := by rw [keyEq_pr]; simp
      have hfd := aFind_snoc (t := 135) (v := .int .i64 0) (c := i) (keyOk135 (min a b) (max a b)) kself (i := 0) hkeys hne
      have hfe3 := aFind_snoc (t := 135) (v := .int .i64 1) (c := i) (keyOk135 (min a b) (max a b)) kself (i := 0) hkeys hne
      rw [← entsL_succ ha] at hfe3
      rw [hf] at k1
      rw [hfd] at k2
      rw [hfe3] at k3
      simp only at k1 k2 k3
      have hOce := hOd.trans hOe
      have hr0 : Only (fun x => x = pm) Wc Wc := .refl _ _
      have lk0 := lk Wc hr0
      have lkd := lk Wd hOd
      have lke := lk We hOce
      rw [pr] at lk0 lkd lke k1 k2 k3 hfe
      try simp only [wpK_assoc]
      refine wpK_dn (wr := Tr.nil |>.set 46 0 |>.set 47 1 |>.set 48 2 |>.set 49 3 |>.set 50 4 |>.set 51 5) (bits := Tr.nil.lay 0 [0, 0, 3, 7, 3, 19, 63]) (ord := [0, 1, 2, 3, 4, 5, 6]) (by kernel_rfl) (by kernel_rfl) (by kernel_rfl) (fun G hG => by
        simp [h5, lk0, lkd, opLookup, k1, k2, opMapEntry, hfe, opEntryStore, hes, hnd, hne', w1, w2]
        exact hG) ?_
      refine wpK_keep (fun tm' => tm'.get 1 = some (.pointer (some ⟨W.next, 0, none⟩)) ∧ tm'.get 4 = some (.pointer (some ⟨pw, 0, none⟩)) ∧ tm'.get 5 = some (.map (some pm)) ∧ tm'.get 8 = some (.pointer (some ⟨Wb.next, 0, none⟩)) ∧ tm'.get 29 = some (v) ∧ tm'.get 30 = some (.int .i64 es.length) ∧ tm'.get 31 = some (.int .i64 (i : Int))) ⟨by simp [h1, h4, h5, h29, h30, h31], by simp [h1, h4, h5, h29, h30, h31], by simp [h1, h4, h5, h29, h30, h31], by simp [h1, h4, h5, h29, h30, h31], by simp [h1, h4, h5, h29, h30, h31], by simp [h1, h4, h5, h29, h30, h31], by simp [h1, h4, h5, h29, h30, h31]⟩ ?_
      rintro tm ⟨h1, h4, h5, h8, h29, h30, h31⟩
      have hE1e := hE1' We hOce
      have hbad : ¬ (0 ≤ a ∧ a < P ∧ 0 ≤ b ∧ b < P ∧ a ≠ b) → ¬ GraphOk P es := fun hn hG => by
        have := hG.2.2.2 i hlt a b ha
        exact hn ⟨this.1, this.2.1, this.2.2.1, this.2.2.2.1, this.2.2.2.2.1⟩
      by_cases n1 : min a b < 0
      · try simp only [wpK_assoc]
        refine wpK_reg (fun R hR => by simp [h1, h5, h8, l8a We hOce, l8b We hOce, lP We hOce, lke, opLookup, k3, n1]; exact hR) ?_
        try simp only [wpK_assoc]
        first | refine wpK_onT (by simp []) ?_ | refine wpK_outT (by simp []) ?_ | refine wpK_condT (by simp []) ?_ | refine wpK_endT (by simp []) ?_
        try simp only [wpK_assoc]
        refine wpK_reg (fun R hR => by simp []; exact hR) ?_
        exact wpK_ret (hRt _ _ ⟨rfl, hE1e, by simp, by simp, hbad (by omega)⟩)
      by_cases n2 : P ≤ max a b
      · try simp only [wpK_assoc]
        refine wpK_reg (fun R hR => by simp [h1, h5, h8, l8a We hOce, l8b We hOce, lP We hOce, lke, opLookup, k3, n1, n2]; exact hR) ?_
        try simp only [wpK_assoc]
        first | refine wpK_onT (by simp []) ?_ | refine wpK_outT (by simp []) ?_ | refine wpK_condT (by simp []) ?_ | refine wpK_endT (by simp []) ?_
        try simp only [wpK_assoc]
        refine wpK_reg (fun R hR => by simp []; exact hR) ?_
        exact wpK_ret (hRt _ _ ⟨rfl, hE1e, by simp, by simp, hbad (by omega)⟩)
      by_cases n3 : min a b = max a b
      · have n1' : ¬ max a b < 0 := by omega
        try simp only [wpK_assoc]
        refine wpK_reg (fun R hR => by simp [h1, h5, h8, l8a We hOce, l8b We hOce, lP We hOce, lke, opLookup, k3, n1, n1', n2, n3]; exact hR) ?_
        try simp only [wpK_assoc]
        first | refine wpK_onT (by simp []) ?_ | refine wpK_outT (by simp []) ?_ | refine wpK_condT (by simp []) ?_ | refine wpK_endT (by simp []) ?_
        try simp only [wpK_assoc]
        refine wpK_reg (fun R hR => by simp []; exact hR) ?_
        exact wpK_ret (hRt _ _ ⟨rfl, hE1e, by simp, by simp, hbad (by omega)⟩)
      try simp only [wpK_assoc]
      refine wpK_reg (fun R hR => by simp [h1, h5, h8, l8a We hOce, l8b We hOce, lP We hOce, lke, opLookup, k3, n1, n2, n3]; exact hR) ?_
      try simp only [wpK_assoc]
      first | refine wpK_onF (by simp []) ?_ | refine wpK_out (by simp []) ?_ | refine wpK_condF (by simp []) ?_ | refine wpK_endF (by simp []) (wpK_skip ?_) | refine wpK_endF (by simp []) ?_
      obtain ⟨x, hx'⟩ : ∃ x : Nat, min a b = x := ⟨(min a b).toNat, by omega⟩
      obtain ⟨y, hy'⟩ : ∃ y : Nat, max a b = y := ⟨(max a b).toNat, by omega⟩
      have hx40 : x < 40 := by omega
      have hy40 : y < 40 := by omega
      have hek : es[i]? = some ((x : Int), (y : Int)) ∨ es[i]? = some ((y : Int), (x : Int)) := by
        rw [ha]
        by_cases hle : a ≤ b
        · left; rw [← hx', ← hy', show min a b = a by omega, show max a b = b by omega]
        · right; rw [← hx', ← hy', show min a b = b by omega, show max a b = a by omega]
      have hLe : ∃ J, JoinL (es.take i) J ∧ Var We pw 108 (.int .i64 P :: J.map setV) := by
        obtain ⟨J, g1, g2⟩ := hLc.web
        exact ⟨J, g1, g2.only hOce (by omega)⟩
      obtain ⟨J, hJ0, hJV⟩ := hLe
      have hJl := hJ0.1
      have hJx : ∀ q, q < 40 → J.getD q 0 < 1099511627776 := fun q hq => (hJ0.2 q _ (by rw [List.getD_eq_getElem?_getD, List.getElem?_eq_getElem (show q < J.length by omega)]; rfl)).1
      have m8a := l8a We hOce
      have m8b := l8b We hOce
      rw [hx'] at m8a
      rw [hy'] at m8b
      -- the first point
      obtain ⟨j1, j2, Wf, hf1, hf2, hf3, hf4⟩ := joined_or hJV hJl hx40 hy40 (hJx x hx40)
      have hJl2 : (J.set x (J.getD x 0 ||| 1 <<< y)).length = 40 := by simp [hJl]
      have hyx : x ≠ y := by omega
      obtain ⟨j3, j4, Wg, hg1, hg2, hg3, hg4⟩ := joined_or hf4 hJl2 hy40 hx40 (by rw [getD_set_ne hyx]; exact hJx y hy40)
      rw [getD_set_ne hyx] at j3 j4 hg1 hg4
      have ix1 := ix106 pw 1 x hx40
      have ix2 := ix106 pw 1 y hy40
      have oy := one_wp y (by omega) We
      have ox := one_wp x (by omega) Wf
      have hadd := joinL_add hJ0 hek hx40 hy40 hyx
      have hno8 : ¬ (Wb.next = pw) := by omega
      have n8a : aLoadVar T0 Wf 3 Wb.next 0 = some (.int .i64 (x : Int)) := by rw [← m8a, loadVar_cell und3 rfl, loadVar_cell und3 rfl]; exact AW.cell_of_get (hf3.2 _ (by omega) hno8) 0
      have n8b : aLoadVar T0 Wf 3 Wb.next 1 = some (.int .i64 (y : Int)) := by rw [← m8b, loadVar_cell und3 rfl, loadVar_cell und3 rfl]; exact AW.cell_of_get (hf3.2 _ (by omega) hno8) 1
      generalize J.getD x 0 = jx at j1 j2 hf1 hf4 j3 j4 hg1 hg4 hadd
      generalize J.getD y 0 = jy at j3 j4 hg1 hg4 hadd
      generalize ejx : jx ||| 1 <<< y = kx at j2 hf1 hf4 j3 hg1 hg4 hadd
      generalize ejy : jy ||| 1 <<< x = ky at j4 hg1 hg4 hadd
      generalize 1 <<< y = oy1 at oy j2
      generalize 1 <<< x = ox1 at ox j4
      rw [setV] at j1 j3 hf1 hg1
      try simp only [wpK_assoc]
      refine wpK_dn (wr := Tr.nil |>.set 75 0 |>.set 76 1 |>.set 77 2 |>.set 78 3 |>.set 79 4 |>.set 80 5 |>.set 81 6 |>.set 82 7 |>.set 83 8 |>.set 84 9 |>.set 85 10 |>.set 86 11 |>.set 87 12 |>.set 88 13) (bits := Tr.nil.lay 0 [0, 0, 2, 1, 9, 31, 63, 0, 128, 384, 1023, 1, 2049, 8191, 16383]) (ord := [0, 1, 2, 3, 4, 5, 6, 7, 8, 9, 10, 11, 12, 13, 14]) (by kernel_rfl) (by kernel_rfl) (by kernel_rfl) (fun G hG => by
        simp [h4, h8, m8a, m8b, ix1, j1, aEnter, fun68, short_other, aCallV]
        rw [dcallS_none]
        refine oy.mono ?_
        rintro _ W9 ⟨e9, rfl⟩; subst W9
        simp [h4, h8, m8a, m8b, ix1, j1, j2, hf1, hf2]
        exact hG) ?_
      refine wpK_keep (fun tm' => tm'.get 1 = some (.pointer (some ⟨W.next, 0, none⟩)) ∧ tm'.get 4 = some (.pointer (some ⟨pw, 0, none⟩)) ∧ tm'.get 5 = some (.map (some pm)) ∧ tm'.get 8 = some (.pointer (some ⟨Wb.next, 0, none⟩)) ∧ tm'.get 29 = some (v) ∧ tm'.get 30 = some (.int .i64 es.length) ∧ tm'.get 31 = some (.int .i64 (i : Int))) ⟨by simp [h1, h4, h5, h8, h29, h30, h31], by simp [h1, h4, h5, h8, h29, h30, h31], by simp [h1, h4, h5, h8, h29, h30, h31], by simp [h1, h4, h5, h8, h29, h30, h31], by simp [h1, h4, h5, h8, h29, h30, h31], by simp [h1, h4, h5, h8, h29, h30, h31], by simp [h1, h4, h5, h8, h29, h30, h31]⟩ ?_
      rintro tm ⟨h1, h4, h5, h8, h29, h30, h31⟩
      try simp only [wpK_assoc]
      refine wpK_qn (wr := Tr.nil |>.set 89 0 |>.set 90 1 |>.set 91 2 |>.set 92 3 |>.set 93 4 |>.set 94 5 |>.set 95 6 |>.set 96 7 |>.set 97 8 |>.set 98 9 |>.set 99 10 |>.set 100 11 |>.set 101 12 |>.set 102 13) (bits := Tr.nil.lay 0 [0, 0, 2, 1, 9, 31, 63, 0, 128, 384, 1023, 1, 2049, 8191, 16383]) (ord := [0, 1, 2, 3, 4, 5, 6, 7, 8, 9, 10, 11, 12, 13, 14]) (by kernel_rfl) (by kernel_rfl) (by kernel_rfl) (fun G hG => by
        simp [h4, h8, n8a, n8b, ix2, j3, aEnter, fun68, short_other, aCallV]
        rw [dcallS_none]
        refine ox.mono ?_
        rintro _ W9 ⟨e9, rfl⟩; subst W9
        simp [h4, h8, n8a, n8b, ix2, j3, j4, hg1, hg2]
        exact hG) ?_
      simp only [leaves_normal, behind_normal]
      refine wpK_keep (fun tm' => tm'.get 1 = some (.pointer (some ⟨W.next, 0, none⟩)) ∧ tm'.get 4 = some (.pointer (some ⟨pw, 0, none⟩)) ∧ tm'.get 5 = some (.map (some pm)) ∧ tm'.get 8 = some (.pointer (some ⟨Wb.next, 0, none⟩)) ∧ tm'.get 29 = some (v) ∧ tm'.get 30 = some (.int .i64 es.length) ∧ tm'.get 31 = some (.int .i64 (i : Int))) ⟨by simp [h1, h4, h5, h8, h29, h30, h31], by simp [h1, h4, h5, h8, h29, h30, h31], by simp [h1, h4, h5, h8, h29, h30, h31], by simp [h1, h4, h5, h8, h29, h30, h31], by simp [h1, h4, h5, h8, h29, h30, h31], by simp [h1, h4, h5, h8, h29, h30, h31], by simp [h1, h4, h5, h8, h29, h30, h31]⟩ ?_
      rintro tm ⟨h1, h4, h5, h8, h29, h30, h31⟩
      try simp only [wpK_assoc]
      refine wpK_reg1 (fun R hR => by simp [h31]; exact hR) ?_
      refine hI (es.length - (i + 1)) _ _ (by omega) ⟨rfl, rfl, by simp [h1, h4, h5, h29, h30], by simp [h1, h4, h5, h29, h30], by simp [h1, h4, h5, h29, h30], by simp [h1, h4, h5, h29, h30], by simp [h1, h4, h5, h29, h30], ?_, i + 1, by simp [i64_succ i (by omega)], rfl, by omega, hg.succ ha ⟨by omega, by omega, by omega, by omega, by omega⟩ hnew, ⟨⟨_, hadd, hg4⟩, ?_, by omega⟩⟩
      · exact ⟨by have := hE1e.1; omega, fun b hb _ => by rw [hg3.2 b (by have := hE1e.1; omega) (by omega), hf3.2 b (by have := hE1e.1; omega) (by omega), hE1e.2 b hb (fun x => x)]⟩
      · rw [hg3.2 pm (by omega) (by omega), hf3.2 pm (by omega) (by omega)]; exact hMe
  · rintro A' W' ⟨g1, g2, g3, g4, g5⟩
    exact ⟨.inr rfl, g1, [.pointer none, .int .i64 40], by simp [g3, g4], hE1.trans g2, .inr ⟨g5, rfl⟩⟩
  · rintro ⟨tm, n, ds⟩ W9 ⟨hn, hd, h1, h4, h5, h29, h30, hE9, hg, hL9⟩
    simp only at hn hd h1 h4 h5 h29 h30
    subst hn; subst hd
    try simp only [wpK_assoc]
    refine wpK_reg (fun R hR => by simp [h4]; exact hR) ?_
    exact wpK_ret ⟨.inr rfl, rfl, [.pointer (some ⟨pw, 0, none⟩), .int .i64 0], by simp, hE1.trans hE9, .inl ⟨⟨by omega, by omega, by omega, hg⟩, pw, by omega, rfl, by
      have := hL9.web; rwa [List.take_length] at this⟩⟩

end Go.Proofs.YtdpnplanohgecaaDoor

open Go Go.Eng
namespace Go.Proofs.YtdpnplanohgecaaDoor
attribute [local congr] undef_congr WpK.congr WpS.congr WpL.congr WpC.congr WpF.congr gotS.congr callS.congr nextS.congr wantS.congr condS.congr
attribute [local irreducible] WpK
attribute [local simp] WpDr_nil WpDr_cons atS_some dwantS_true dwantS_false kindS_light kindS_float kindS_heavy lightS_value floatS_some heavyS_value heavyS_skip heavyS_enter dcallS_some doneS_eq
  isLight isFloat isPlain dLook testBit_dec dChain dLights_nil dLights_skip dLights_one dLight_nil dLight_cons dFreshes_nil dFreshes_one oneF_none oneF_some dFresh_nil dFresh_cons oneL_some oneW_true oneW_false sameV_value dPut dMay valEq arrEq listEq List.getElem?_cons Tr.get_nil dEnd
attribute [local simp] WpS_nil WpS_cons isDefer undef_false wantS_true wantS_false nextS_value nextS_skip nextS_enter callS_some gotS_some aWanted aOp aEvalF aEval opMove opAssign opPick aVal flat flat1 AAct.put opBinOp opConvert opIndex Tr.get_set Tr.get_lay aBin aResults tupled
  aCall aVals aCallB blt_dec ble_dec beq_dec aBinI_add aBinI_sub aBinI_lss aBinI_leq aBinI_gtr aBinI_geq aBinI_eql aBinI_neq index_str len_str len_slice Nat.beq_refl Nat.beq_refl
  opBox opLoad opFieldAddr opIndexAddr acells aAddr opExtract aExtract opUnOp opAlloc opStore opMakeInterface opNilCheck opBuild aParts opBuildSlice aValW
attribute [local simp] und2 und3 und4 und5 und9 und12 field13_0 field13_1 und21 und22 field23_0 field23_1 field24_0 field24_1 field25_0 field25_1 und28 und31 field34_0 field34_1 field34_2 field35_0 field35_1 field35_2 und46 field50_0 field50_1 field50_2 und55 und56 und58 und61 und62 und73 und75 und90 und94 und95 und96 field97_0 field97_1 field97_2 field97_3 field97_4 field97_5 field97_6 field98_0 field98_1 field98_2 field98_3 field98_4 field98_5 field98_6 und99 und106 field107_0 field107_1 field108_0 field108_1 und119 und122 field124_0 field124_1 field124_2 field125_0 field125_1 field125_2 field131_0 field131_1 field132_0 field132_1 und133 field134_0 field134_1 field135_0 field135_1 und148 und156 und160
set_option maxHeartbeats 4000000
set_option linter.unusedSimpArgs false
set_option linter.unusedVariables false
/-! ### the calls at no graph -/
theorem lay_ok {W : AW} {v : Value} {P : Int} {es : List Edge} (h : PairR W v es) (hl : es.length < 4611686018427387904) (hn : GraphOk P es) : WpF T0 54 [.agg ⟨[.int .i64 P, v]⟩] W (fun u W' => Ext W W' ∧ ∃ p, W.next ≤ p ∧ u = .tuple ⟨[.pointer (some ⟨p, 0, none⟩), .int .i64 0]⟩ ∧ Web W' p P es) :=
  (lay_wp P h hl).mono (fun u W' ⟨h1, h2⟩ => ⟨h1, by
    rcases h2 with ⟨_, h2⟩ | ⟨h2, _⟩
    · exact h2
    · exact absurd hn h2⟩)
theorem give_wp {W : AW} {v : Value} (P : Int) {es : List Edge} (h : PairR W v es) : WpF T0 13 [.agg ⟨[.int .i64 P, v]⟩] W (fun u W' => Ext W W' ∧ u = .agg ⟨[.int .i64 P, v]⟩) := by
  refine wpF fun13 rfl ?_
  obtain ⟨A, c, hv⟩ := h.len
  obtain ⟨W1, hW1, hE1, hV, hV2, hn1⟩ : ∃ W1, W1 = (W.newCells 24 [.int .i64 P, v]).newCells 25 [.int .i64 0, .slice none 0 0] ∧ Ext W W1 ∧ Var W1 W.next 24 [.int .i64 P, v] ∧ Var W1 (W.next + 1) 25 [.int .i64 0, .slice none 0 0] ∧ W1.next = W.next + 2 :=
    ⟨_, rfl, (Only.newCells _ _ _).trans (Only.newCells _ _ _), (Var.new _ _ _).ext (.newCells _ _ _), Var.new _ _ _, rfl⟩
  have l0 := hV.load1 (T := T0) und3 rfl (j := 0) (v := .int .i64 P) rfl
  have l1 := hV.load1 (T := T0) und22 rfl (j := 1) (v := v) rfl
  have bb : aBuild T0 25 [(0, .int .i64 P), (1, v)] = some (.agg ⟨[.int .i64 P, v]⟩) := by rw [hv]; exact build25 _ _ _ _
  obtain ⟨W3, g1, g2, g3, g4⟩ := hV2.store (T := T0) (t := 25) (v := .agg ⟨[.int .i64 P, v]⟩) (o := 0) inf25 (by rw [is25]; rfl) (by simp) (by rw [hv]; rfl)
  have hl3 := load25 (x := .int .i64 P) (y := v) (by simpa using g4)
  try simp only [wpK_assoc]
  refine wpK_reg (fun R hR => by simp [zero25, newCells_next, ← hW1]; exact hR) ?_
  try simp only [wpK_assoc]
  refine wpK_reg (fun R hR => by simp [l0, l1, bb, g1]; exact hR) ?_
  exact wpK_ret ⟨.inr rfl, rfl, [.agg ⟨[.int .i64 P, v]⟩], by simp [hl3], ⟨by omega, fun b hb hk => by rw [g3.2 b (by omega) (by omega), hE1.2 b hb hk]⟩, rfl⟩

end Go.Proofs.YtdpnplanohgecaaDoor

open Go Go.Eng
namespace Go.Proofs.YtdpnplanohgecaaDoor
attribute [local congr] undef_congr WpK.congr WpS.congr WpL.congr WpC.congr WpF.congr gotS.congr callS.congr nextS.congr wantS.congr condS.congr
attribute [local irreducible] WpK
attribute [local simp] WpDr_nil WpDr_cons atS_some dwantS_true dwantS_false kindS_light kindS_float kindS_heavy lightS_value floatS_some heavyS_value heavyS_skip heavyS_enter dcallS_some doneS_eq
  isLight isFloat isPlain dLook testBit_dec dChain dLights_nil dLights_skip dLights_one dLight_nil dLight_cons dFreshes_nil dFreshes_one oneF_none oneF_some dFresh_nil dFresh_cons oneL_some oneW_true oneW_false sameV_value dPut dMay valEq arrEq listEq List.getElem?_cons Tr.get_nil dEnd
attribute [local simp] WpS_nil WpS_cons isDefer undef_false wantS_true wantS_false nextS_value nextS_skip nextS_enter callS_some gotS_some aWanted aOp aEvalF aEval opMove opAssign opPick aVal flat flat1 AAct.put opBinOp opConvert opIndex Tr.get_set Tr.get_lay aBin aResults tupled
  aCall aVals aCallB blt_dec ble_dec beq_dec aBinI_add aBinI_sub aBinI_lss aBinI_leq aBinI_gtr aBinI_geq aBinI_eql aBinI_neq index_str len_str len_slice Nat.beq_refl Nat.beq_refl
  opBox opLoad opFieldAddr opIndexAddr acells aAddr opExtract aExtract opUnOp opAlloc opStore opMakeInterface opNilCheck opBuild aParts opBuildSlice aValW
attribute [local simp] und2 und3 und4 und5 und9 und12 field13_0 field13_1 und21 und22 field23_0 field23_1 field24_0 field24_1 field25_0 field25_1 und28 und31 field34_0 field34_1 field34_2 field35_0 field35_1 field35_2 und46 field50_0 field50_1 field50_2 und55 und56 und58 und61 und62 und73 und75 und90 und94 und95 und96 field97_0 field97_1 field97_2 field97_3 field97_4 field97_5 field97_6 field98_0 field98_1 field98_2 field98_3 field98_4 field98_5 field98_6 und99 und106 field107_0 field107_1 field108_0 field108_1 und119 und122 field124_0 field124_1 field124_2 field125_0 field125_1 field125_2 field131_0 field131_1 field132_0 field132_1 und133 field134_0 field134_1 field135_0 field135_1 und148 und156 und160
set_option maxHeartbeats 4000000
set_option linter.unusedSimpArgs false
set_option linter.unusedVariables false
/-! ### judging: lists, joins -/
abbrev IntN (W : AW) (v : Value) (l : List Int) : Prop := RowIn 1 (encI .i64) W v l
theorem raw_wp {W : AW} {v : Value} {l : List Int} (hS : SlOk v l.length) (h : IntN W v l) (hl : l.length < 9223372036854775808) (k : Nat) (hk : k ≤ 1000) :
    WpF T0 32 [v, .int .i64 (k : Int)] W (fun u W' => Ext W W' ∧ ∃ l', IntN W' u l' ∧ l'.length ≤ k) := by
  obtain ⟨A, c, hv⟩ := h.len
  have lv : ∀ W', aLen T0 W' 31 v = some (.int .i64 (l.length : Int)) := fun W' => by rw [hv]; exact len_slice und31 _ _ _
  obtain ⟨ka, hka⟩ : ∃ q : Nat, q = min l.length k := ⟨_, rfl⟩
  have mka : min (l.length : Int) (k : Int) = (ka : Int) := by omega
  obtain ⟨u', s1, s2, s3⟩ := RowIn.slice (T := T0) und31 sz3 hS h (k := ka) (by omega)
  have hlen : (l.take ka).length = ka := by rw [List.length_take]; omega
  obtain ⟨gv, W1, k1, k2, k3, k4, k5⟩ := (GrowsN.nil W 3 1 (fun _ => False)).appRow (T := T0) (t := 31) encI_len encI_one (by omega) und31 inf3 is3 z3 rfl s3 (by rw [hlen, by3]; omega) (by omega)
  rw [List.nil_append, Nat.zero_add] at k4
  refine wpF fun32 rfl ?_
  try simp only [wpK_assoc]
  refine wpK_reg (fun R hR => by simp []; exact hR) ?_
  try simp only [wpK_assoc]
  refine wpK_reg (fun R hR => by simp []; exact hR) ?_
  try simp only [wpK_assoc]
  refine wpK_reg (fun R hR => by simp [lv, min_int, mka, opSlice, aOpt, s1, k1]; exact hR) ?_
  exact wpK_ret ⟨.inr rfl, rfl, [gv], by simp, k5, l.take ka, k4.row encI_len, by omega⟩
/-- who is joined to whom -/
def Jn (es : List Edge) (a b : Int) : Prop := ∃ i : Nat, es[i]? = some (a, b) ∨ es[i]? = some (b, a)
theorem Jn.symm {es : List Edge} {a b : Int} (h : Jn es a b) : Jn es b a := let ⟨i, h⟩ := h; ⟨i, h.symm⟩
open Classical in
theorem refJoined_wp {W : AW} {v : Value} (P : Int) {es : List Edge} (h : PairR W v es) (hl : es.length < 4611686018427387904) (a b : Int) : WpF T0 64 [.agg ⟨[.int .i64 P, v]⟩, .int .i64 a, .int .i64 b] W (fun u W' => Ext W W' ∧ u = .bool (decide (Jn es a b))) := by
  refine wpF fun64 rfl ?_
  obtain ⟨W1, hW1, hE1, hn1, hV⟩ : ∃ W1, W1 = W.newCells 24 [.int .i64 P, v] ∧ Ext W W1 ∧ W1.next = W.next + 1 ∧ Var W1 W.next 24 [.int .i64 P, v] := ⟨_, rfl, .newCells _ _ _, rfl, Var.new _ _ _⟩
  have hR := h.ext hE1
  obtain ⟨A, c, hv⟩ := h.len
  have l1 := hV.load1 (T := T0) und22 rfl (j := 1) (v := v) rfl
  have ll : aLen T0 W1 22 v = some (.int .i64 es.length) := by rw [hv]; exact len_slice und22 _ _ _
  try simp only [wpK_assoc]
  refine wpK_reg (fun R hR => by simp [← hW1]; exact hR) ?_
  try simp only [wpK_assoc]
  refine wpK_reg (fun R hR => by simp []; exact hR) ?_
  try simp only [wpK_assoc]
  refine wpK_while (I := fun k A W' => A.n = 35 ∧ A.defers = [] ∧ A.tmps.get 1 = some (.int .i64 a) ∧ A.tmps.get 2 = some (.int .i64 b) ∧ A.tmps.get 3 = some (.pointer (some ⟨W.next, 0, none⟩)) ∧ W' = W1 ∧ ∃ i : Nat, A.tmps.get 7 = some (.int .i64 (i : Int)) ∧ k = es.length - i ∧ i ≤ es.length ∧ ∀ j, j < i → es[j]? ≠ some (a, b) ∧ es[j]? ≠ some (b, a))
    (J := fun A W' => A.n = 35 ∧ A.defers = [] ∧ A.tmps.get 1 = some (.int .i64 a) ∧ A.tmps.get 2 = some (.int .i64 b) ∧ A.tmps.get 3 = some (.pointer (some ⟨W.next, 0, none⟩)) ∧ W' = W1 ∧ ¬ Jn es a b) (Rt := fun A W' => A.n = 35 ∧ A.defers = [] ∧ W' = W1 ∧ A.tmps.get 6 = some (.bool true) ∧ Jn es a b) (k := es.length) ?_ ?_ ?_ ?_
  · exact ⟨rfl, rfl, by simp, by simp, by simp, rfl, 0, by simp, rfl, by omega, fun i hi => by omega⟩
  · rintro k ⟨tm, n, ds⟩ W2 ⟨hn, hd, h1, h2, h3, e2, j, h7, hk, hj, hdiff⟩ Q' hJ hRt hI
    simp only at hn hd h1 h2 h3
    subst hn; subst hd
    subst W2
    simp only at h7
    by_cases hlt : j < es.length
    case neg =>
      have e : j = es.length := by omega
      subst e
      try simp only [wpK_assoc]
      refine wpK_reg (fun R hR => by simp [h3, h7, l1, ll]; exact hR) ?_
      try simp only [wpK_assoc]
      first | refine wpK_onF (by simp []) ?_ | refine wpK_out (by simp []) ?_ | refine wpK_condF (by simp []) ?_ | refine wpK_endF (by simp []) (wpK_skip ?_) | refine wpK_endF (by simp []) ?_
      refine hJ _ _ ⟨rfl, rfl, by simp [h1, h2, h3], by simp [h1, h2, h3], by simp [h1, h2, h3], rfl, fun ⟨i, hi⟩ => ?_⟩
      have hlt : i < es.length := by
        rcases hi with hi | hi <;> exact (List.getElem?_eq_some_iff.1 hi).1
      rcases hi with hi | hi
      · exact (hdiff i hlt).1 hi
      · exact (hdiff i hlt).2 hi
    have hlt' : (j : Int) < es.length := by omega
    try simp only [wpK_assoc]
    refine wpK_reg (fun R hR => by simp [h3, h7, l1, ll, hlt']; exact hR) ?_
    try simp only [wpK_assoc]
    first | refine wpK_onT (by simp []) ?_ | refine wpK_outT (by simp []) ?_ | refine wpK_condT (by simp []) ?_ | refine wpK_endT (by simp []) ?_
    obtain ⟨⟨x, y⟩, hxy⟩ : ∃ e : Edge, es[j] = e := ⟨_, rfl⟩
    have hxj : es[j]? = some (x, y) := by rw [List.getElem?_eq_getElem (by omega), hxy]
    obtain ⟨q2, o2, hx2, hh2⟩ := hR.at (T := T0) hxj und22 sz55 .i64
    have lxy := load55 hh2
    rw [pr] at lxy
    have eAB := aAgg55 x y a b
    have eBA := aAgg55 x y b a
    rw [pr, pr] at eAB eBA
    refine wpK_block ?_
    by_cases c1 : x = a ∧ y = b
    · rw [show (decide (x = a) && decide (y = b)) = true from by simp [c1.1, c1.2]] at eAB
      try simp only [wpK_assoc]
      refine wpK_reg (fun R hR => by simp [h1, h2, h3, h7, l1, hx2, lxy, build55, pr, eAB]; exact hR) ?_
      try simp only [wpK_assoc]
      first | refine wpK_onT (by simp []) ?_ | refine wpK_outT (by simp []) ?_ | refine wpK_condT (by simp []) ?_ | refine wpK_endT (by simp []) ?_
      try simp only [wpK_assoc]
      refine wpK_reg (fun R hR => by simp []; exact hR) ?_
      exact wpK_ret (hRt _ _ ⟨rfl, rfl, rfl, by simp, j, .inl (by rw [hxj, c1.1, c1.2])⟩)
    rw [show (decide (x = a) && decide (y = b)) = false from by simp only [Bool.and_eq_false_iff, decide_eq_false_iff_not]; omega] at eAB
    by_cases c2 : x = b ∧ y = a
    · rw [show (decide (x = b) && decide (y = a)) = true from by simp [c2.1, c2.2]] at eBA
      try simp only [wpK_assoc]
      refine wpK_reg (fun R hR => by simp [h1, h2, h3, h7, l1, hx2, lxy, build55, pr, eAB, eBA]; exact hR) ?_
      try simp only [wpK_assoc]
      first | refine wpK_onT (by simp []) ?_ | refine wpK_outT (by simp []) ?_ | refine wpK_condT (by simp []) ?_ | refine wpK_endT (by simp []) ?_
      try simp only [wpK_assoc]
      refine wpK_reg (fun R hR => by simp []; exact hR) ?_
      exact wpK_ret (hRt _ _ ⟨rfl, rfl, rfl, by simp, j, .inr (by rw [hxj, c2.1, c2.2])⟩)
    rw [show (decide (x = b) && decide (y = a)) = false from by simp only [Bool.and_eq_false_iff, decide_eq_false_iff_not]; omega] at eBA
    try simp only [wpK_assoc]
    refine wpK_reg (fun R hR => by simp [h1, h2, h3, h7, l1, hx2, lxy, build55, pr, eAB, eBA]; exact hR) ?_
    try simp only [wpK_assoc]
    first | refine wpK_onF (by simp []) ?_ | refine wpK_out (by simp []) ?_ | refine wpK_condF (by simp []) ?_ | refine wpK_endF (by simp []) (wpK_skip ?_) | refine wpK_endF (by simp []) ?_
    simp only [leaves_normal, behind_normal]
    try simp only [wpK_assoc]
    refine wpK_reg1 (fun R hR => by simp [h7]; exact hR) ?_
    refine hI (es.length - (j + 1)) _ _ (by omega) ⟨rfl, rfl, by simp [h1, h2, h3], by simp [h1, h2, h3], by simp [h1, h2, h3], rfl, j + 1, by simp [i64_succ j (by omega)], rfl, by omega, fun j' hj' => ?_⟩
    by_cases e : j' = j
    · subst e; rw [hxj]; exact ⟨fun e => by cases e; exact c1 ⟨rfl, rfl⟩, fun e => by cases e; exact c2 ⟨rfl, rfl⟩⟩
    · exact hdiff j' (by omega)
  · rintro ⟨tm, m, ds⟩ W' ⟨h1, h2, h3, h4, h5⟩
    simp only at h1 h2 h4
    subst h1; subst h2; subst h3
    exact ⟨.inr rfl, rfl, [.bool true], by simp [h4], hE1, by rw [decide_eq_true h5]; rfl⟩
  · rintro ⟨tm, n, ds⟩ W2 ⟨hn, hd, h1, h2, h3, e2, hg⟩
    simp only at hn hd h1 h2 h3
    subst hn; subst hd
    subst W2
    try simp only [wpK_assoc]
    refine wpK_reg (fun R hR => by simp []; exact hR) ?_
    exact wpK_ret ⟨.inr rfl, rfl, [.bool false], by simp, hE1, by rw [decide_eq_false hg]; rfl⟩
/-- numbers that rise, each of them a point -/
def RisTo (P : Int) (s : List Int) (k : Nat) : Prop := ∀ q, q < k → 0 ≤ gI s q ∧ gI s q < P ∧ (0 < q → gI s (q - 1) < gI s q)
theorem RisTo.succ {P : Int} {s : List Int} {k : Nat} (h : RisTo P s k) (h1 : 0 ≤ gI s k ∧ gI s k < P ∧ (0 < k → gI s (k - 1) < gI s k)) : RisTo P s (k + 1) := fun q hq => by
  by_cases e : q = k
  · subst e; exact h1
  · exact h q (by omega)
open Classical in
theorem refRising_wp {W : AW} {v : Value} (P : Int) (g : Value) {s : List Int} (h : IntN W v s) (hl : s.length < 4611686018427387904) (hg1 : oneCells [g] = true) : WpF T0 65 [.agg ⟨[.int .i64 P, g]⟩, v] W (fun u W' => Ext W W' ∧ u = .bool (decide (RisTo P s s.length))) := by
  refine wpF fun65 rfl ?_
  obtain ⟨W1, hW1, hE1, hn1, hV⟩ : ∃ W1, W1 = W.newCells 24 [.int .i64 P, g] ∧ Ext W W1 ∧ W1.next = W.next + 1 ∧ Var W1 W.next 24 [.int .i64 P, g] := ⟨_, rfl, .newCells _ _ _, rfl, Var.new _ _ _⟩
  have hR := h.ext hE1
  obtain ⟨A, c, hv⟩ := h.len
  have l0 := hV.load1 (T := T0) und3 rfl (j := 0) (v := .int .i64 P) rfl
  obtain ⟨n, hn⟩ : ∃ n, n = s.length := ⟨_, rfl⟩
  have lv : ∀ W', aLen T0 W' 31 v = some (.int .i64 (n : Int)) := fun W' => by rw [hv, hn]; exact len_slice und31 _ _ _
  try simp only [wpK_assoc]
  refine wpK_reg (fun R hR => by simp [← hW1]; exact hR) ?_
  try simp only [wpK_assoc]
  refine wpK_reg (fun R hR => by simp []; exact hR) ?_
  rw [← hn]
  try simp only [wpK_assoc]
  refine wpK_while (I := fun k A W' => A.n = 42 ∧ A.defers = [] ∧ A.tmps.get 1 = some (v) ∧ A.tmps.get 2 = some (.pointer (some ⟨W.next, 0, none⟩)) ∧ W' = W1 ∧ ∃ i : Nat, A.tmps.get 5 = some (.int .i64 (i : Int)) ∧ k = n - i ∧ i ≤ n ∧ RisTo P s i)
    (J := fun A W' => A.n = 42 ∧ A.defers = [] ∧ A.tmps.get 1 = some (v) ∧ A.tmps.get 2 = some (.pointer (some ⟨W.next, 0, none⟩)) ∧ W' = W1 ∧ RisTo P s n) (Rt := fun A W' => A.n = 42 ∧ A.defers = [] ∧ W' = W1 ∧ A.tmps.get 4 = some (.bool false) ∧ ¬ RisTo P s n) (k := n) ?_ ?_ ?_ ?_
  · exact ⟨rfl, rfl, by simp, by simp, rfl, 0, by simp, rfl, by omega, fun i hi => by omega⟩
  · rintro k ⟨tm, n, ds⟩ W2 ⟨hn, hd, h1, h2, e2, i, h5, hk, hi, hg⟩ Q' hJ hRt hI
    simp only at hn hd h1 h2
    subst hn; subst hd
    subst W2
    simp only at h5
    by_cases hlt : i < n
    case neg =>
      have e : i = n := by omega
      subst e
      try simp only [wpK_assoc]
      refine wpK_reg (fun R hR => by simp [h1, h5, lv]; exact hR) ?_
      try simp only [wpK_assoc]
      first | refine wpK_onF (by simp []) ?_ | refine wpK_out (by simp []) ?_ | refine wpK_condF (by simp []) ?_ | refine wpK_endF (by simp []) (wpK_skip ?_) | refine wpK_endF (by simp []) ?_
      exact hJ _ _ ⟨rfl, rfl, by simp [h1, h2], by simp [h1, h2], rfl, hg⟩
    have hlt' : (i : Int) < n := by omega
    try simp only [wpK_assoc]
    refine wpK_reg (fun R hR => by simp [h1, h5, lv, hlt']; exact hR) ?_
    try simp only [wpK_assoc]
    first | refine wpK_onT (by simp [hlt]) ?_ | refine wpK_outT (by simp [hlt]) ?_ | refine wpK_condT (by simp [hlt]) ?_ | refine wpK_endT (by simp [hlt]) ?_
    obtain ⟨bx, px, x1, x2, _⟩ := int_at31 hR (gI_some (l := s) (i := i) (by omega))
    have vv := row_eq hR
    have hno : ¬ (0 ≤ gI s i ∧ gI s i < P ∧ (0 < i → gI s (i - 1) < gI s i)) → ¬ RisTo P s n := fun hh hr => hh (hr i hlt)
    have hyes := hg.succ
    refine wpK_block ?_
    by_cases h0 : i = 0
    · subst h0
      generalize gI s 0 = x at x2 hno hyes
      have x1' : aIndexAddr T0 31 v (.int .i64 0) = some (.pointer (some ⟨bx, px, none⟩)) := x1
      by_cases b1 : x < 0
      · try simp only [wpK_assoc]
        refine wpK_dn (wr := Tr.nil |>.set 12 0 |>.set 13 1 |>.set 14 2 |>.set 15 3 |>.set 16 4 |>.set 17 5 |>.set 18 6 |>.set 19 7 |>.set 20 8 |>.set 21 9 |>.set 22 10 |>.set 23 11 |>.set 24 12 |>.set 25 13 |>.set 26 14 |>.set 27 15 |>.set 28 16 |>.set 29 17 |>.set 30 18 |>.set 31 19 |>.set 32 20 |>.set 33 21 |>.set 34 22 |>.set 35 23 |>.set 36 24 |>.set 37 25 |>.set 38 26 |>.set 39 27 |>.set 40 28 |>.set 41 29) (bits := Tr.nil.lay 0 [0, 0, 3, 7, 15, 31, 63, 63, 255, 511, 63, 1087, 4095, 8191, 16383, 32767, 65535, 131071, 262143, 262143, 786431, 2097151, 4194303, 262143, 262143, 25427967, 58982399, 134217727, 268435455, 536870911]) (ord := [0, 1, 2, 3, 4, 5, 6, 7, 8, 9, 10, 11, 12, 13, 14, 15, 16, 17, 18, 19, 20, 21, 22, 23, 24, 25, 26, 27, 28, 29]) (by kernel_rfl) (by kernel_rfl) (by kernel_rfl) (fun G hG => by
          simp [h1, h2, h5, x1', x2, l0, b1, vv, undef]
          exact hG) ?_
        try simp only [wpK_assoc]
        first | refine wpK_onT (by simp []) ?_ | refine wpK_outT (by simp []) ?_ | refine wpK_condT (by simp []) ?_ | refine wpK_endT (by simp []) ?_
        try simp only [wpK_assoc]
        refine wpK_reg (fun R hR => by simp []; exact hR) ?_
        exact wpK_ret (hRt _ _ ⟨rfl, rfl, rfl, by simp, hno (by omega)⟩)
      by_cases b2 : P ≤ x
      · try simp only [wpK_assoc]
        refine wpK_dn (wr := Tr.nil |>.set 12 0 |>.set 13 1 |>.set 14 2 |>.set 15 3 |>.set 16 4 |>.set 17 5 |>.set 18 6 |>.set 19 7 |>.set 20 8 |>.set 21 9 |>.set 22 10 |>.set 23 11 |>.set 24 12 |>.set 25 13 |>.set 26 14 |>.set 27 15 |>.set 28 16 |>.set 29 17 |>.set 30 18 |>.set 31 19 |>.set 32 20 |>.set 33 21 |>.set 34 22 |>.set 35 23 |>.set 36 24 |>.set 37 25 |>.set 38 26 |>.set 39 27 |>.set 40 28 |>.set 41 29) (bits := Tr.nil.lay 0 [0, 0, 3, 7, 15, 31, 63, 63, 255, 511, 63, 1087, 4095, 8191, 16383, 32767, 65535, 131071, 262143, 262143, 786431, 2097151, 4194303, 262143, 262143, 25427967, 58982399, 134217727, 268435455, 536870911]) (ord := [0, 1, 2, 3, 4, 5, 6, 7, 8, 9, 10, 11, 12, 13, 14, 15, 16, 17, 18, 19, 20, 21, 22, 23, 24, 25, 26, 27, 28, 29]) (by kernel_rfl) (by kernel_rfl) (by kernel_rfl) (fun G hG => by
          simp [h1, h2, h5, x1', x2, l0, b1, b2, vv, undef]
          exact hG) ?_
        try simp only [wpK_assoc]
        first | refine wpK_onT (by simp []) ?_ | refine wpK_outT (by simp []) ?_ | refine wpK_condT (by simp []) ?_ | refine wpK_endT (by simp []) ?_
        try simp only [wpK_assoc]
        refine wpK_reg (fun R hR => by simp []; exact hR) ?_
        exact wpK_ret (hRt _ _ ⟨rfl, rfl, rfl, by simp, hno (by omega)⟩)
      try simp only [wpK_assoc]
      refine wpK_dn (wr := Tr.nil |>.set 12 0 |>.set 13 1 |>.set 14 2 |>.set 15 3 |>.set 16 4 |>.set 17 5 |>.set 18 6 |>.set 19 7 |>.set 20 8 |>.set 21 9 |>.set 22 10 |>.set 23 11 |>.set 24 12 |>.set 25 13 |>.set 26 14 |>.set 27 15 |>.set 28 16 |>.set 29 17 |>.set 30 18 |>.set 31 19 |>.set 32 20 |>.set 33 21 |>.set 34 22 |>.set 35 23 |>.set 36 24 |>.set 37 25 |>.set 38 26 |>.set 39 27 |>.set 40 28 |>.set 41 29) (bits := Tr.nil.lay 0 [0, 0, 3, 7, 15, 31, 63, 63, 255, 511, 63, 1087, 4095, 8191, 16383, 32767, 65535, 131071, 262143, 262143, 786431, 2097151, 4194303, 262143, 262143, 25427967, 58982399, 134217727, 268435455, 536870911]) (ord := [0, 1, 2, 3, 4, 5, 6, 7, 8, 9, 10, 11, 12, 13, 14, 15, 16, 17, 18, 19, 20, 21, 22, 23, 24, 25, 26, 27, 28, 29]) (by kernel_rfl) (by kernel_rfl) (by kernel_rfl) (fun G hG => by
        simp [h1, h2, h5, x1', x2, l0, b1, b2, vv, undef]
        exact hG) ?_
      try simp only [wpK_assoc]
      first | refine wpK_onF (by simp []) ?_ | refine wpK_out (by simp []) ?_ | refine wpK_condF (by simp []) ?_ | refine wpK_endF (by simp []) (wpK_skip ?_) | refine wpK_endF (by simp []) ?_
      simp only [leaves_normal, behind_normal]
      try simp only [wpK_assoc]
      refine wpK_reg1 (fun R hR => by simp [h5]; exact hR) ?_
      exact hI (n - (0 + 1)) _ _ (by omega) ⟨rfl, rfl, by simp [h1, h2], by simp [h1, h2], rfl, 0 + 1, by simp [show IntKind.i64.wrap 1 = 1 from by decide], rfl, by omega, hyes ⟨by omega, by omega, fun hh => by omega⟩⟩
    have hi0 : (0 : Int) < i := by omega
    have hsub : IntKind.i64.wrap ((i : Int) - 1) = ((i - 1 : Nat) : Int) := by rw [i64_in (by omega)]; omega
    obtain ⟨by', py, y1, y2, _⟩ := int_at31 hR (gI_some (l := s) (i := i - 1) (by omega))
    generalize i - 1 = i0 at hsub y1 y2 hno hyes
    generalize gI s i = x at x2 hno hyes
    generalize gI s i0 = y at y2 hno hyes
    by_cases b1 : x < 0
    · try simp only [wpK_assoc]
      refine wpK_dn (wr := Tr.nil |>.set 12 0 |>.set 13 1 |>.set 14 2 |>.set 15 3 |>.set 16 4 |>.set 17 5 |>.set 18 6 |>.set 19 7 |>.set 20 8 |>.set 21 9 |>.set 22 10 |>.set 23 11 |>.set 24 12 |>.set 25 13 |>.set 26 14 |>.set 27 15 |>.set 28 16 |>.set 29 17 |>.set 30 18 |>.set 31 19 |>.set 32 20 |>.set 33 21 |>.set 34 22 |>.set 35 23 |>.set 36 24 |>.set 37 25 |>.set 38 26 |>.set 39 27 |>.set 40 28 |>.set 41 29) (bits := Tr.nil.lay 0 [0, 0, 3, 7, 15, 31, 63, 63, 255, 511, 63, 1087, 4095, 8191, 16383, 32767, 65535, 131071, 262143, 262143, 786431, 2097151, 4194303, 262143, 262143, 25427967, 58982399, 134217727, 268435455, 536870911]) (ord := [0, 1, 2, 3, 4, 5, 6, 7, 8, 9, 10, 11, 12, 13, 14, 15, 16, 17, 18, 19, 20, 21, 22, 23, 24, 25, 26, 27, 28, 29]) (by kernel_rfl) (by kernel_rfl) (by kernel_rfl) (fun G hG => by
        simp [h1, h2, h5, x1, x2, l0, b1, vv, undef]
        exact hG) ?_
      try simp only [wpK_assoc]
      first | refine wpK_onT (by simp []) ?_ | refine wpK_outT (by simp []) ?_ | refine wpK_condT (by simp []) ?_ | refine wpK_endT (by simp []) ?_
      try simp only [wpK_assoc]
      refine wpK_reg (fun R hR => by simp []; exact hR) ?_
      exact wpK_ret (hRt _ _ ⟨rfl, rfl, rfl, by simp, hno (by omega)⟩)
    by_cases b2 : P ≤ x
    · try simp only [wpK_assoc]
      refine wpK_dn (wr := Tr.nil |>.set 12 0 |>.set 13 1 |>.set 14 2 |>.set 15 3 |>.set 16 4 |>.set 17 5 |>.set 18 6 |>.set 19 7 |>.set 20 8 |>.set 21 9 |>.set 22 10 |>.set 23 11 |>.set 24 12 |>.set 25 13 |>.set 26 14 |>.set 27 15 |>.set 28 16 |>.set 29 17 |>.set 30 18 |>.set 31 19 |>.set 32 20 |>.set 33 21 |>.set 34 22 |>.set 35 23 |>.set 36 24 |>.set 37 25 |>.set 38 26 |>.set 39 27 |>.set 40 28 |>.set 41 29) (bits := Tr.nil.lay 0 [0, 0, 3, 7, 15, 31, 63, 63, 255, 511, 63, 1087, 4095, 8191, 16383, 32767, 65535, 131071, 262143, 262143, 786431, 2097151, 4194303, 262143, 262143, 25427967, 58982399, 134217727, 268435455, 536870911]) (ord := [0, 1, 2, 3, 4, 5, 6, 7, 8, 9, 10, 11, 12, 13, 14, 15, 16, 17, 18, 19, 20, 21, 22, 23, 24, 25, 26, 27, 28, 29]) (by kernel_rfl) (by kernel_rfl) (by kernel_rfl) (fun G hG => by
        simp [h1, h2, h5, x1, x2, l0, b1, b2, vv, undef]
        exact hG) ?_
      try simp only [wpK_assoc]
      first | refine wpK_onT (by simp []) ?_ | refine wpK_outT (by simp []) ?_ | refine wpK_condT (by simp []) ?_ | refine wpK_endT (by simp []) ?_
      try simp only [wpK_assoc]
      refine wpK_reg (fun R hR => by simp []; exact hR) ?_
      exact wpK_ret (hRt _ _ ⟨rfl, rfl, rfl, by simp, hno (by omega)⟩)
    by_cases b3 : x ≤ y
    · try simp only [wpK_assoc]
      refine wpK_dn (wr := Tr.nil |>.set 12 0 |>.set 13 1 |>.set 14 2 |>.set 15 3 |>.set 16 4 |>.set 17 5 |>.set 18 6 |>.set 19 7 |>.set 20 8 |>.set 21 9 |>.set 22 10 |>.set 23 11 |>.set 24 12 |>.set 25 13 |>.set 26 14 |>.set 27 15 |>.set 28 16 |>.set 29 17 |>.set 30 18 |>.set 31 19 |>.set 32 20 |>.set 33 21 |>.set 34 22 |>.set 35 23 |>.set 36 24 |>.set 37 25 |>.set 38 26 |>.set 39 27 |>.set 40 28 |>.set 41 29) (bits := Tr.nil.lay 0 [0, 0, 3, 7, 15, 31, 63, 63, 255, 511, 63, 1087, 4095, 8191, 16383, 32767, 65535, 131071, 262143, 262143, 786431, 2097151, 4194303, 262143, 262143, 25427967, 58982399, 134217727, 268435455, 536870911]) (ord := [0, 1, 2, 3, 4, 5, 6, 7, 8, 9, 10, 11, 12, 13, 14, 15, 16, 17, 18, 19, 20, 21, 22, 23, 24, 25, 26, 27, 28, 29]) (by kernel_rfl) (by kernel_rfl) (by kernel_rfl) (fun G hG => by
        simp [h1, h2, h5, x1, x2, y1, y2, hi0, (show 0 < i from by omega), hsub, l0, b1, b2, b3, vv, undef]
        exact hG) ?_
      try simp only [wpK_assoc]
      first | refine wpK_onT (by simp []) ?_ | refine wpK_outT (by simp []) ?_ | refine wpK_condT (by simp []) ?_ | refine wpK_endT (by simp []) ?_
      try simp only [wpK_assoc]
      refine wpK_reg (fun R hR => by simp []; exact hR) ?_
      exact wpK_ret (hRt _ _ ⟨rfl, rfl, rfl, by simp, hno (fun hh => by have := hh.2.2 (by omega); omega)⟩)
    try simp only [wpK_assoc]
    refine wpK_dn (wr := Tr.nil |>.set 12 0 |>.set 13 1 |>.set 14 2 |>.set 15 3 |>.set 16 4 |>.set 17 5 |>.set 18 6 |>.set 19 7 |>.set 20 8 |>.set 21 9 |>.set 22 10 |>.set 23 11 |>.set 24 12 |>.set 25 13 |>.set 26 14 |>.set 27 15 |>.set 28 16 |>.set 29 17 |>.set 30 18 |>.set 31 19 |>.set 32 20 |>.set 33 21 |>.set 34 22 |>.set 35 23 |>.set 36 24 |>.set 37 25 |>.set 38 26 |>.set 39 27 |>.set 40 28 |>.set 41 29) (bits := Tr.nil.lay 0 [0, 0, 3, 7, 15, 31, 63, 63, 255, 511, 63, 1087, 4095, 8191, 16383, 32767, 65535, 131071, 262143, 262143, 786431, 2097151, 4194303, 262143, 262143, 25427967, 58982399, 134217727, 268435455, 536870911]) (ord := [0, 1, 2, 3, 4, 5, 6, 7, 8, 9, 10, 11, 12, 13, 14, 15, 16, 17, 18, 19, 20, 21, 22, 23, 24, 25, 26, 27, 28, 29]) (by kernel_rfl) (by kernel_rfl) (by kernel_rfl) (fun G hG => by
      simp [h1, h2, h5, x1, x2, y1, y2, hi0, (show 0 < i from by omega), hsub, l0, b1, b2, b3, vv, undef]
      exact hG) ?_
    try simp only [wpK_assoc]
    first | refine wpK_onF (by simp []) ?_ | refine wpK_out (by simp []) ?_ | refine wpK_condF (by simp []) ?_ | refine wpK_endF (by simp []) (wpK_skip ?_) | refine wpK_endF (by simp []) ?_
    simp only [leaves_normal, behind_normal]
    try simp only [wpK_assoc]
    refine wpK_reg1 (fun R hR => by simp [h5]; exact hR) ?_
    exact hI (n - (i + 1)) _ _ (by omega) ⟨rfl, rfl, by simp [h1, h2], by simp [h1, h2], rfl, i + 1, by simp [i64_succ i (by omega)], rfl, by omega, hyes ⟨by omega, by omega, fun hh => by omega⟩⟩
  · rintro ⟨tm, m, ds⟩ W' ⟨h1, h2, h3, h4, h5⟩
    simp only at h1 h2 h4
    subst h1; subst h2; subst h3
    exact ⟨.inr rfl, rfl, [.bool false], by simp [h4], hE1, by rw [decide_eq_false h5]; rfl⟩
  · rintro ⟨tm, n, ds⟩ W2 ⟨hn, hd, h1, h2, e2, hg⟩
    simp only at hn hd h1 h2
    subst hn; subst hd
    subst W2
    try simp only [wpK_assoc]
    refine wpK_reg (fun R hR => by simp []; exact hR) ?_
    exact wpK_ret ⟨.inr rfl, rfl, [.bool true], by simp, hE1, by rw [decide_eq_true hg]; rfl⟩
/-- the numbers of a list, as a set -/
def SetIs (S : Nat) (s : List Int) (k : Nat) : Prop := ∀ r : Nat, S.testBit r = true ↔ ∃ i, i < k ∧ gI s i = (r : Int)
theorem smallRising_wp {W : AW} {v : Value} (P : Int) {s : List Int} (h : IntN W v s) (hP : P ≤ 40) (hl : s.length < 4611686018427387904) :
    WpF T0 61 [v, .int .i64 P] W (fun u W' => W' = W ∧ ((RisTo P s s.length ∧ ∃ S : Nat, S < 1099511627776 ∧ SetIs S s s.length ∧ u = .tuple ⟨[.int .u64 (S : Int), .bool true]⟩) ∨ (¬ RisTo P s s.length ∧ u = .tuple ⟨[.int .u64 0, .bool false]⟩))) := by
  refine wpF fun61 rfl ?_
  obtain ⟨A, c, hv⟩ := h.len
  obtain ⟨n, hn⟩ : ∃ n, n = s.length := ⟨_, rfl⟩
  have lv : ∀ W', aLen T0 W' 31 v = some (.int .i64 (n : Int)) := fun W' => by rw [hv, hn]; exact len_slice und31 _ _ _
  rw [← hn]
  try simp only [wpK_assoc]
  refine wpK_reg (fun R hR => by simp []; exact hR) ?_
  try simp only [wpK_assoc]
  refine wpK_reg (fun R hR => by simp []; exact hR) ?_
  try simp only [wpK_assoc]
  refine wpK_reg (fun R hR => by simp [lv]; exact hR) ?_
  try simp only [wpK_assoc]
  refine wpK_while (I := fun k A W' => A.n = 31 ∧ A.defers = [] ∧ A.tmps.get 1 = some (.int .i64 P) ∧ A.tmps.get 10 = some (v) ∧ A.tmps.get 11 = some (.int .i64 (n : Int)) ∧ W' = W ∧ ∃ (i S : Nat) (last : Int), A.tmps.get 12 = some (.int .i64 (i : Int)) ∧ A.tmps.get 6 = some (.int .u64 (S : Int)) ∧ A.tmps.get 7 = some (.int .i64 last) ∧ k = n - i ∧ i ≤ n ∧ RisTo P s i ∧ S < 1099511627776 ∧ SetIs S s i ∧ ((i = 0 ∧ last = -1) ∨ (0 < i ∧ last = gI s (i - 1))))
    (J := fun A W' => A.n = 31 ∧ A.defers = [] ∧ A.tmps.get 1 = some (.int .i64 P) ∧ A.tmps.get 10 = some (v) ∧ A.tmps.get 11 = some (.int .i64 (n : Int)) ∧ W' = W ∧ RisTo P s n ∧ ∃ S : Nat, A.tmps.get 6 = some (.int .u64 (S : Int)) ∧ S < 1099511627776 ∧ SetIs S s n) (Rt := fun A W' => A.n = 31 ∧ A.defers = [] ∧ W' = W ∧ A.tmps.get 4 = some (.int .u64 0) ∧ A.tmps.get 5 = some (.bool false) ∧ ¬ RisTo P s n) (k := n) ?_ ?_ ?_ ?_
  · exact ⟨rfl, rfl, by simp, by simp, by simp, rfl, 0, 0, -1, by simp, by simp, by simp, rfl, by omega, fun i hi => by omega, by omega, fun r => ⟨fun h => by simp at h, fun ⟨i, hi, _⟩ => by omega⟩, .inl ⟨rfl, rfl⟩⟩
  · rintro k ⟨tm, n, ds⟩ W2 ⟨hn, hd, h1, h10, h11, e2, i, S, last, h12, h6, h7, hk, hi, hg, hS1, hS2, hlast⟩ Q' hJ hRt hI
    simp only at hn hd h1 h10 h11
    subst hn; subst hd
    subst W2
    simp only at h12 h6 h7
    by_cases hlt : i < n
    case neg =>
      have e : i = n := by omega
      subst e
      try simp only [wpK_assoc]
      refine wpK_reg (fun R hR => by simp [h11, h12]; exact hR) ?_
      try simp only [wpK_assoc]
      first | refine wpK_onF (by simp []) ?_ | refine wpK_out (by simp []) ?_ | refine wpK_condF (by simp []) ?_ | refine wpK_endF (by simp []) (wpK_skip ?_) | refine wpK_endF (by simp []) ?_
      exact hJ _ _ ⟨rfl, rfl, by simp [h1, h10, h11], by simp [h1, h10, h11], by simp [h1, h10, h11], rfl, hg, S, by simp [h6], hS1, hS2⟩
    have hlt' : (i : Int) < n := by omega
    try simp only [wpK_assoc]
    refine wpK_reg (fun R hR => by simp [h11, h12, hlt']; exact hR) ?_
    try simp only [wpK_assoc]
    first | refine wpK_onT (by simp [hlt]) ?_ | refine wpK_outT (by simp [hlt]) ?_ | refine wpK_condT (by simp [hlt]) ?_ | refine wpK_endT (by simp [hlt]) ?_
    obtain ⟨bx, px, x1, x2, _⟩ := int_at31 h (gI_some (l := s) (i := i) (by omega))
    have hno : ¬ (0 ≤ gI s i ∧ gI s i < P ∧ (0 < i → gI s (i - 1) < gI s i)) → ¬ RisTo P s n := fun hh hr => hh (hr i hlt)
    have hyes := hg.succ
    have hlow : -1 ≤ last := by
      rcases hlast with ⟨_, e⟩ | ⟨h0, e⟩
      · omega
      · have := hg (i - 1) (by omega); omega
    have hset : ∀ q : Nat, gI s i = (q : Int) → SetIs (S ||| 1 <<< q) s (i + 1) := fun q hq r => by
      rw [or_bit]
      constructor
      · intro hh
        rcases Bool.or_eq_true_iff.1 hh with hh | hh
        · obtain ⟨j, hj, e⟩ := (hS2 r).1 hh
          exact ⟨j, by omega, e⟩
        · have := of_decide_eq_true hh
          exact ⟨i, by omega, by omega⟩
      · rintro ⟨j, hj, e⟩
        by_cases ej : j = i
        · subst ej; rw [decide_eq_true (by omega)]; simp
        · rw [(hS2 r).2 ⟨j, by omega, e⟩]; rfl
    refine wpK_block ?_
    generalize hx : gI s i = x at x2 hno hyes hset
    try simp only [wpK_assoc]
    refine wpK_reg (fun R hR => by simp [h10, h12, x1, x2]; exact hR) ?_
    by_cases b1 : x ≤ last
    · try simp only [wpK_assoc]
      refine wpK_reg (fun R hR => by simp [h7, b1]; exact hR) ?_
      try simp only [wpK_assoc]
      first | refine wpK_onT (by simp []) ?_ | refine wpK_outT (by simp []) ?_ | refine wpK_condT (by simp []) ?_ | refine wpK_endT (by simp []) ?_
      try simp only [wpK_assoc]
      refine wpK_reg (fun R hR => by simp []; exact hR) ?_
      exact wpK_ret (hRt _ _ ⟨rfl, rfl, rfl, by simp, by simp, hno (fun hh => by
        rcases hlast with ⟨_, e⟩ | ⟨h0, e⟩
        · omega
        · have := hh.2.2 h0; omega)⟩)
    by_cases b2 : P ≤ x
    · try simp only [wpK_assoc]
      refine wpK_reg (fun R hR => by simp [h1, h7, b1, b2]; exact hR) ?_
      try simp only [wpK_assoc]
      first | refine wpK_onT (by simp []) ?_ | refine wpK_outT (by simp []) ?_ | refine wpK_condT (by simp []) ?_ | refine wpK_endT (by simp []) ?_
      try simp only [wpK_assoc]
      refine wpK_reg (fun R hR => by simp []; exact hR) ?_
      exact wpK_ret (hRt _ _ ⟨rfl, rfl, rfl, by simp, by simp, hno (by omega)⟩)
    try simp only [wpK_assoc]
    refine wpK_reg (fun R hR => by simp [h1, h7, b1, b2]; exact hR) ?_
    try simp only [wpK_assoc]
    first | refine wpK_onF (by simp []) ?_ | refine wpK_out (by simp []) ?_ | refine wpK_condF (by simp []) ?_ | refine wpK_endF (by simp []) (wpK_skip ?_) | refine wpK_endF (by simp []) ?_
    obtain ⟨q, hq⟩ : ∃ q : Nat, x = (q : Int) := ⟨x.toNat, by omega⟩
    subst hq
    have o1 := one_wp q (by omega) W
    have hor := aBinI_or .u64 S (1 <<< q) (by show S < 18446744073709551616; omega) (by rw [Nat.one_shiftLeft]; show 2 ^ q < 2 ^ 64; exact Nat.pow_lt_pow_right (by omega) (by omega))
    have hS3 := or_lt hS1 (s := q) (by omega)
    have hset := hset q rfl
    generalize S ||| 1 <<< q = S' at hor hS3 hset
    generalize 1 <<< q = oq at hor o1
    try simp only [wpK_assoc]
    refine wpK_reg1 (fun R hR => by
        simp [h6, hor, aEnter, fun68, short_other, aCallV]; rw [callS_none]
        refine (o1).mono ?_
        rintro _ W9 ⟨e9, rfl⟩; subst W9
        simp [h6, hor]; exact hR) ?_
    simp only [leaves_normal, behind_normal]
    refine wpK_keep (fun tm' => tm'.get 1 = some (.int .i64 P) ∧ tm'.get 6 = some (.int .u64 (S' : Int)) ∧ tm'.get 7 = some (.int .i64 (q : Int)) ∧ tm'.get 10 = some (v) ∧ tm'.get 11 = some (.int .i64 (n : Int)) ∧ tm'.get 12 = some (.int .i64 (i : Int))) ⟨by simp [h1, h10, h11, h12], by simp [h1, h10, h11, h12], by simp [h1, h10, h11, h12], by simp [h1, h10, h11, h12], by simp [h1, h10, h11, h12], by simp [h1, h10, h11, h12]⟩ ?_
    rintro tm ⟨h1, h6, h7, h10, h11, h12⟩
    try simp only [wpK_assoc]
    refine wpK_reg1 (fun R hR => by simp [h12]; exact hR) ?_
    exact hI (n - (i + 1)) _ _ (by omega) ⟨rfl, rfl, by simp [h1, h10, h11], by simp [h1, h10, h11], by simp [h1, h10, h11], rfl, i + 1, S', _, by simp [i64_succ i (by omega)], by simp [h6], by simp [h7]; rfl, rfl, by omega, hyes ⟨by omega, by omega, fun hh => by
        rcases hlast with ⟨e0, e⟩ | ⟨h0, e⟩ <;> omega⟩, hS3, hset, .inr ⟨by omega, by rw [Nat.add_sub_cancel]; exact hx.symm⟩⟩
  · rintro ⟨tm, m, ds⟩ W' ⟨h1, h2, h3, h4, h5, h6⟩
    simp only at h1 h2 h4 h5
    subst h1; subst h2; subst h3
    exact ⟨.inr rfl, rfl, [.int .u64 0, .bool false], by simp [h4, h5], rfl, .inr ⟨h6, rfl⟩⟩
  · rintro ⟨tm, n, ds⟩ W2 ⟨hn, hd, h1, h10, h11, e2, hg, S, h6, hS1, hS2⟩
    simp only at hn hd h1 h10 h11
    subst hn; subst hd
    subst W2
    simp only at h6
    try simp only [wpK_assoc]
    refine wpK_reg (fun R hR => by simp [h6]; exact hR) ?_
    exact wpK_ret ⟨.inr rfl, rfl, [.int .u64 (S : Int), .bool true], by simp, rfl, .inl ⟨hg, S, hS1, hS2, rfl⟩⟩

end Go.Proofs.YtdpnplanohgecaaDoor

open Go Go.Eng
namespace Go.Proofs.YtdpnplanohgecaaDoor
attribute [local congr] undef_congr WpK.congr WpS.congr WpL.congr WpC.congr WpF.congr gotS.congr callS.congr nextS.congr wantS.congr condS.congr
attribute [local irreducible] WpK
attribute [local simp] WpDr_nil WpDr_cons atS_some dwantS_true dwantS_false kindS_light kindS_float kindS_heavy lightS_value floatS_some heavyS_value heavyS_skip heavyS_enter dcallS_some doneS_eq
  isLight isFloat isPlain dLook testBit_dec dChain dLights_nil dLights_skip dLights_one dLight_nil dLight_cons dFreshes_nil dFreshes_one oneF_none oneF_some dFresh_nil dFresh_cons oneL_some oneW_true oneW_false sameV_value dPut dMay valEq arrEq listEq List.getElem?_cons Tr.get_nil dEnd
attribute [local simp] WpS_nil WpS_cons isDefer undef_false wantS_true wantS_false nextS_value nextS_skip nextS_enter callS_some gotS_some aWanted aOp aEvalF aEval opMove opAssign opPick aVal flat flat1 AAct.put opBinOp opConvert opIndex Tr.get_set Tr.get_lay aBin aResults tupled
  aCall aVals aCallB blt_dec ble_dec beq_dec aBinI_add aBinI_sub aBinI_lss aBinI_leq aBinI_gtr aBinI_geq aBinI_eql aBinI_neq index_str len_str len_slice Nat.beq_refl Nat.beq_refl
  opBox opLoad opFieldAddr opIndexAddr acells aAddr opExtract aExtract opUnOp opAlloc opStore opMakeInterface opNilCheck opBuild aParts opBuildSlice aValW
attribute [local simp] und2 und3 und4 und5 und9 und12 field13_0 field13_1 und21 und22 field23_0 field23_1 field24_0 field24_1 field25_0 field25_1 und28 und31 field34_0 field34_1 field34_2 field35_0 field35_1 field35_2 und46 field50_0 field50_1 field50_2 und55 und56 und58 und61 und62 und73 und75 und90 und94 und95 und96 field97_0 field97_1 field97_2 field97_3 field97_4 field97_5 field97_6 field98_0 field98_1 field98_2 field98_3 field98_4 field98_5 field98_6 und99 und106 field107_0 field107_1 field108_0 field108_1 und119 und122 field124_0 field124_1 field124_2 field125_0 field125_1 field125_2 field131_0 field131_1 field132_0 field132_1 und133 field134_0 field134_1 field135_0 field135_1 und148 und156 und160
set_option maxHeartbeats 4000000
set_option linter.unusedSimpArgs false
set_option linter.unusedVariables false
/-! ### judging a pairing -/
def PairOk (P : Int) (es : List Edge) (p : List Int) (k : Nat) : Prop := ∀ i, i < k → gI p i = -1 ∨ (0 ≤ gI p i ∧ gI p i < P ∧ gI p (gI p i).toNat = (i : Int) ∧ Jn es (i : Int) (gI p i))
theorem PairOk.succ {P : Int} {es : List Edge} {p : List Int} {k : Nat} (h : PairOk P es p k) (h1 : gI p k = -1 ∨ (0 ≤ gI p k ∧ gI p k < P ∧ gI p (gI p k).toNat = (k : Int) ∧ Jn es (k : Int) (gI p k))) : PairOk P es p (k + 1) := fun q hq => by
  by_cases e : q = k
  · subst e; exact h1
  · exact h q (by omega)
/-- how many have a partner, and how many have a later one -/
def cnt1 (p : List Int) (k : Nat) : Int := sumN k (fun i => if gI p i = -1 then 0 else 1)
def cnt2 (p : List Int) (k : Nat) : Int := sumN k (fun i => if gI p i = -1 then 0 else if (i : Int) < gI p i then 1 else 0)
theorem cnt_in {f : Nat → Int} (hf : ∀ i, 0 ≤ f i ∧ f i ≤ 1) : ∀ k : Nat, 0 ≤ sumN k f ∧ sumN k f ≤ (k : Int)
  | 0 => by simp [sumN]
  | k + 1 => by
    have := cnt_in hf k
    have := hf k
    simp only [sumN]; omega
theorem cnt1_in (p : List Int) (k : Nat) : 0 ≤ cnt1 p k ∧ cnt1 p k ≤ k := cnt_in (fun i => by split <;> omega) k
theorem cnt2_in (p : List Int) (k : Nat) : 0 ≤ cnt2 p k ∧ cnt2 p k ≤ k := cnt_in (fun i => by split; omega; split <;> omega) k
theorem cnt_twice {P : Int} {es : List Edge} (hg : GraphOk P es) {p : List Int} (hl : (p.length : Int) = P) (h : PairOk P es p p.length) : cnt1 p p.length = 2 * cnt2 p p.length := by
  obtain ⟨n, hn⟩ : ∃ n, n = p.length := ⟨_, rfl⟩
  rw [← hn] at h hl ⊢
  have hne : ∀ i, i < n → gI p i ≠ (i : Int) := fun i hi e => by
    rcases h i hi with h1 | ⟨h1, h2, h3, j, h4⟩
    · omega
    · rw [e] at h4
      rcases h4 with h4 | h4
      · have hj := (List.getElem?_eq_some_iff.1 h4).1
        exact (hg.2.2.2 j hj _ _ h4).2.2.2.2.1 rfl
      · have hj := (List.getElem?_eq_some_iff.1 h4).1
        exact (hg.2.2.2 j hj _ _ h4).2.2.2.2.1 rfl
  have e1 : cnt1 p n = cnt2 p n + sumN n (fun i => if gI p i = -1 then 0 else if gI p i < (i : Int) then 1 else 0) := by
    unfold cnt1 cnt2
    rw [← sumN_add (f := fun i => if gI p i = -1 then 0 else if (i : Int) < gI p i then 1 else 0) (g := fun i => if gI p i = -1 then 0 else if gI p i < (i : Int) then 1 else 0)]
    refine sumN_congr (fun i hi => ?_)
    have := hne i hi
    split
    · rfl
    · split <;> split <;> omega
  have e2 : cnt2 p n = sumN n (fun i => sumN n (fun j => if j = (gI p i).toNat then (if gI p i = -1 then 0 else if (i : Int) < gI p i then 1 else 0) else 0)) := by
    refine sumN_congr (fun i hi => ?_)
    rcases h i hi with h1 | ⟨h1, h2, h3, h4⟩
    · rw [if_pos h1]
      symm
      refine (sumN_congr (g := fun _ => 0) (fun j hj => ?_)).trans sumN_zero
      split <;> rfl
    · exact (sumN_one (n := n) (k := (gI p i).toNat) (x := fun _ => if gI p i = -1 then 0 else if (i : Int) < gI p i then 1 else 0) (by omega)).symm
  have e3 : sumN n (fun j => if gI p j = -1 then 0 else if gI p j < (j : Int) then 1 else 0) = sumN n (fun j => sumN n (fun i => if j = (gI p i).toNat then (if gI p i = -1 then 0 else if (i : Int) < gI p i then 1 else 0) else 0)) := by
    refine sumN_congr (fun j hj => ?_)
    rcases h j hj with h1 | ⟨h1, h2, h3, h4⟩
    · rw [if_pos h1]
      symm
      refine (sumN_congr (g := fun _ => 0) (fun i hi => ?_)).trans sumN_zero
      split
      · rename_i e
        rcases h i hi with g1 | ⟨g1, g2, g3, g4⟩
        · rw [if_pos g1]
        · rw [← e] at g3; omega
      · rfl
    · refine ((sumN_congr (fun i hi => ?_)).trans (sumN_one (n := n) (k := (gI p j).toNat) (x := fun _ => if gI p j = -1 then 0 else if gI p j < (j : Int) then 1 else 0) (by omega))).symm
      by_cases e : i = (gI p j).toNat
      · rw [if_pos e]
        subst e
        rw [h3]
        rw [if_pos (by omega), if_neg (by omega), if_neg (by omega : ¬ gI p j = -1)]
        have : (((gI p j).toNat : Nat) : Int) = gI p j := by omega
        rw [this]
      · rw [if_neg e]
        split
        · rename_i e2
          rcases h i hi with g1 | ⟨g1, g2, g3, g4⟩
          · rw [if_pos g1]
          · rw [← e2] at g3; exact absurd (by omega) e
        · rfl
  rw [sumN_swap] at e3
  omega
/-- what a judge of pairings answers -/
def PairingIs (P : Int) (es : List Edge) (p : List Int) (k : Int) (b : Bool) : Prop := (b = true ∧ (p.length : Int) = P ∧ PairOk P es p p.length ∧ k = cnt2 p p.length) ∨ (b = false ∧ k = 0 ∧ ¬ ((p.length : Int) = P ∧ PairOk P es p p.length))
theorem PairingIs.one {P : Int} {es : List Edge} {p : List Int} {k k' : Int} {b b' : Bool} (h : PairingIs P es p k b) (h' : PairingIs P es p k' b') : k = k' ∧ b = b' := by
  rcases h with ⟨h1, h2, h3, h4⟩ | ⟨h1, h2, h3⟩ <;> rcases h' with ⟨g1, g2, g3, g4⟩ | ⟨g1, g2, g3⟩
  · exact ⟨by omega, by rw [h1, g1]⟩
  · exact absurd ⟨h2, h3⟩ g3
  · exact absurd ⟨g2, g3⟩ h3
  · exact ⟨by omega, by rw [h1, g1]⟩
theorem join_bit {es : List Edge} {J : List Nat} (h : JoinL es J) {q r : Nat} (hq : q < 40) : J.getD q 0 < 1099511627776 ∧ ((J.getD q 0).testBit r = true ↔ Jn es (q : Int) (r : Int)) := by
  have e : J[q]? = some (J.getD q 0) := by rw [List.getD_eq_getElem?_getD, List.getElem?_eq_getElem (by rw [h.1]; exact hq)]; rfl
  exact ⟨(h.2 q _ e).1, (h.2 q _ e).2 r⟩
theorem web_load {W : AW} {p : Nat} {P : Int} {J : List Nat} (h : Var W p 108 (.int .i64 P :: J.map setV)) {i : Nat} (hi : i < J.length) : aLoadVar T0 W 96 p (1 + i) = some (.int .u64 ((J.getD i 0 : Nat) : Int)) :=
  h.load1 (T := T0) und96 rfl (j := 1 + i) (v := setV (J.getD i 0)) (setV_get P hi)

end Go.Proofs.YtdpnplanohgecaaDoor

open Go Go.Eng
namespace Go.Proofs.YtdpnplanohgecaaDoor
attribute [local congr] undef_congr WpK.congr WpS.congr WpL.congr WpC.congr WpF.congr gotS.congr callS.congr nextS.congr wantS.congr condS.congr
attribute [local irreducible] WpK
attribute [local simp] WpDr_nil WpDr_cons atS_some dwantS_true dwantS_false kindS_light kindS_float kindS_heavy lightS_value floatS_some heavyS_value heavyS_skip heavyS_enter dcallS_some doneS_eq
  isLight isFloat isPlain dLook testBit_dec dChain dLights_nil dLights_skip dLights_one dLight_nil dLight_cons dFreshes_nil dFreshes_one oneF_none oneF_some dFresh_nil dFresh_cons oneL_some oneW_true oneW_false sameV_value dPut dMay valEq arrEq listEq List.getElem?_cons Tr.get_nil dEnd
attribute [local simp] WpS_nil WpS_cons isDefer undef_false wantS_true wantS_false nextS_value nextS_skip nextS_enter callS_some gotS_some aWanted aOp aEvalF aEval opMove opAssign opPick aVal flat flat1 AAct.put opBinOp opConvert opIndex Tr.get_set Tr.get_lay aBin aResults tupled
  aCall aVals aCallB blt_dec ble_dec beq_dec aBinI_add aBinI_sub aBinI_lss aBinI_leq aBinI_gtr aBinI_geq aBinI_eql aBinI_neq index_str len_str len_slice Nat.beq_refl Nat.beq_refl
  opBox opLoad opFieldAddr opIndexAddr acells aAddr opExtract aExtract opUnOp opAlloc opStore opMakeInterface opNilCheck opBuild aParts opBuildSlice aValW
attribute [local simp] und2 und3 und4 und5 und9 und12 field13_0 field13_1 und21 und22 field23_0 field23_1 field24_0 field24_1 field25_0 field25_1 und28 und31 field34_0 field34_1 field34_2 field35_0 field35_1 field35_2 und46 field50_0 field50_1 field50_2 und55 und56 und58 und61 und62 und73 und75 und90 und94 und95 und96 field97_0 field97_1 field97_2 field97_3 field97_4 field97_5 field97_6 field98_0 field98_1 field98_2 field98_3 field98_4 field98_5 field98_6 und99 und106 field107_0 field107_1 field108_0 field108_1 und119 und122 field124_0 field124_1 field124_2 field125_0 field125_1 field125_2 field131_0 field131_1 field132_0 field132_1 und133 field134_0 field134_1 field135_0 field135_1 und148 und156 und160
set_option maxHeartbeats 4000000
set_option linter.unusedSimpArgs false
set_option linter.unusedVariables false
/-! ### judging a pairing: walks -/
theorem aBinI_quo (k : IntKind) (a b : Int) (hb : b ≠ 0) : aBinI .quo k a k b = some (.int k (k.wrap (a.tdiv b))) := by
  refine aBinI_all (fun x y u ha hb h => ?_) (fun _ _ => rfl) (by simp [aInts, aBinInt, aPure, Op.intDiv, flat1, pure, hb])
  subst ha; subst hb
  simp only [fastInt] at h
  split at h
  · rename_i h1 h2
    rw [Nat.blt_eq] at h2
    cases h
    have := wrap_lim k (x / y) (Nat.lt_of_le_of_lt (Nat.div_le_self _ _) h2)
    show Value.int k (Int.ofNat (x / y)) = Value.int k (k.wrap (Int.ofNat (x / y)))
    rw [this]
  · cases h
theorem isPairing_ok {W : AW} {v pv : Value} {P : Int} {es : List Edge} {p : List Int} (h : PairR W v es) (hl : es.length < 4611686018427387904) (hg : GraphOk P es) (hp : IntN W pv p) (hpl : p.length < 4611686018427387904) :
    WpF T0 21 [.agg ⟨[.int .i64 P, v]⟩, pv] W (fun u W' => Ext W W' ∧ ∃ k b, u = .tuple ⟨[.int .i64 k, .bool b]⟩ ∧ PairingIs P es p k b) := by
  have hP := hg.2.1
  refine wpF fun21 rfl ?_
  obtain ⟨W1, hW1, hE1, hV⟩ : ∃ W1, W1 = W.newCells 25 [.int .i64 P, v] ∧ Ext W W1 ∧ Var W1 W.next 25 [.int .i64 P, v] := ⟨_, rfl, .newCells _ _ _, Var.new _ _ _⟩
  have hl1 := load25 hV
  obtain ⟨n, hn⟩ : ∃ n, n = p.length := ⟨_, rfl⟩
  obtain ⟨A, c, hv⟩ := hp.len
  have lp : ∀ W', aLen T0 W' 31 pv = some (.int .i64 (n : Int)) := fun W' => by rw [hv, hn]; exact len_slice und31 _ _ _
  try simp only [wpK_assoc]
  refine wpK_reg (fun R hR => by simp [← hW1]; exact hR) ?_
  try simp only [wpK_assoc]
  refine wpK_x1 (fun R hR => by
      simp [hl1, opExtract, aExtract, aEnter, fun54, short_other, aCallV]; rw [callS_none]
      refine (lay_ok (h.ext hE1) hl hg).mono ?_
      rintro _ W2 ⟨hE2, pw, hpw, rfl, hWeb⟩
      simp [hl1, opExtract, aExtract]; exact hR pw W2 (And.intro hE2 hWeb)) ?_
  rintro pw W2 ⟨hE2, hWeb⟩
  obtain ⟨J, hJ, hVw⟩ := hWeb
  have l0 := (hV.ext hE2).load1 (T := T0) und3 rfl (j := 0) (v := .int .i64 P) rfl
  have hp2 := hp.ext (hE1.trans hE2)
  by_cases hnP : (n : Int) = P
  case neg =>
    try simp only [wpK_assoc]
    refine wpK_reg (fun R hR => by simp [lp, l0, hnP]; exact hR) ?_
    try simp only [wpK_assoc]
    first | refine wpK_onT (by simp []) ?_ | refine wpK_outT (by simp []) ?_ | refine wpK_condT (by simp []) ?_ | refine wpK_endT (by simp []) ?_
    try simp only [wpK_assoc]
    refine wpK_reg (fun R hR => by simp []; exact hR) ?_
    exact wpK_ret ⟨.inr rfl, rfl, [.int .i64 0, .bool false], by simp, hE1.trans hE2, 0, false, rfl, .inr ⟨rfl, rfl, fun hh => hnP (by rw [hn]; exact hh.1)⟩⟩
  try simp only [wpK_assoc]
  refine wpK_reg (fun R hR => by simp [lp, l0, hnP]; exact hR) ?_
  try simp only [wpK_assoc]
  first | refine wpK_onF (by simp []) ?_ | refine wpK_out (by simp []) ?_ | refine wpK_condF (by simp []) ?_ | refine wpK_endF (by simp []) (wpK_skip ?_) | refine wpK_endF (by simp []) ?_
  try simp only [wpK_assoc]
  refine wpK_reg (fun R hR => by simp []; exact hR) ?_
  try simp only [wpK_assoc]
  refine wpK_reg (fun R hR => by simp [lp]; exact hR) ?_
  have hn40 : n ≤ 40 := by omega
  try simp only [wpK_assoc]
  refine wpK_while (I := fun k A W' => A.n = 66 ∧ A.defers = [] ∧ A.tmps.get 1 = some (pv) ∧ A.tmps.get 2 = some (.pointer (some ⟨W.next, 0, none⟩)) ∧ A.tmps.get 6 = some (.pointer (some ⟨pw, 0, none⟩)) ∧ A.tmps.get 25 = some (pv) ∧ A.tmps.get 26 = some (.int .i64 (n : Int)) ∧ W' = W2 ∧ ∃ i : Nat, A.tmps.get 27 = some (.int .i64 (i : Int)) ∧ A.tmps.get 8 = some (.int .i64 (cnt1 p i)) ∧ k = n - i ∧ i ≤ n ∧ PairOk P es p i)
    (J := fun A W' => A.n = 66 ∧ A.defers = [] ∧ A.tmps.get 1 = some (pv) ∧ A.tmps.get 2 = some (.pointer (some ⟨W.next, 0, none⟩)) ∧ A.tmps.get 6 = some (.pointer (some ⟨pw, 0, none⟩)) ∧ A.tmps.get 25 = some (pv) ∧ A.tmps.get 26 = some (.int .i64 (n : Int)) ∧ W' = W2 ∧ A.tmps.get 8 = some (.int .i64 (cnt1 p n)) ∧ PairOk P es p n) (Rt := fun A W' => A.n = 66 ∧ A.defers = [] ∧ W' = W2 ∧ A.tmps.get 4 = some (.int .i64 0) ∧ A.tmps.get 5 = some (.bool false) ∧ ¬ PairOk P es p n) (k := n) ?_ ?_ ?_ ?_
  · exact ⟨rfl, rfl, by simp, by simp, by simp, by simp, by simp, rfl, 0, by simp, by simp [cnt1, sumN], rfl, by omega, fun i hi => by omega⟩
  · rintro k ⟨tm, n, ds⟩ W3 ⟨hn, hd, h1, h2, h6, h25, h26, e2, i, h27, h8, hk, hi, hok⟩ Q' hJ' hRt hI
    simp only at hn hd h1 h2 h6 h25 h26
    subst hn; subst hd
    subst W3
    simp only at h27 h8
    by_cases hlt : i < n
    case neg =>
      have e : i = n := by omega
      subst e
      try simp only [wpK_assoc]
      refine wpK_reg (fun R hR => by simp [h26, h27]; exact hR) ?_
      try simp only [wpK_assoc]
      first | refine wpK_onF (by simp []) ?_ | refine wpK_out (by simp []) ?_ | refine wpK_condF (by simp []) ?_ | refine wpK_endF (by simp []) (wpK_skip ?_) | refine wpK_endF (by simp []) ?_
      exact hJ' _ _ ⟨rfl, rfl, by simp [h1, h2, h6, h25, h26], by simp [h1, h2, h6, h25, h26], by simp [h1, h2, h6, h25, h26], by simp [h1, h2, h6, h25, h26], by simp [h1, h2, h6, h25, h26], rfl, by simp [h8], hok⟩
    have hlt' : (i : Int) < n := by omega
    try simp only [wpK_assoc]
    refine wpK_reg (fun R hR => by simp [h26, h27, hlt']; exact hR) ?_
    try simp only [wpK_assoc]
    first | refine wpK_onT (by simp [hlt]) ?_ | refine wpK_outT (by simp [hlt]) ?_ | refine wpK_condT (by simp [hlt]) ?_ | refine wpK_endT (by simp [hlt]) ?_
    obtain ⟨bx, px, x1, x2, _⟩ := int_at31 hp2 (gI_some (l := p) (i := i) (by omega))
    have hno : ¬ (gI p i = -1 ∨ (0 ≤ gI p i ∧ gI p i < P ∧ gI p (gI p i).toNat = (i : Int) ∧ Jn es (i : Int) (gI p i))) → ¬ PairOk P es p n := fun hh hr => hh (hr i hlt)
    have hyes := hok.succ
    have hc := cnt1_in p i
    have hcs : cnt1 p (i + 1) = cnt1 p i + if gI p i = -1 then 0 else 1 := rfl
    have hat := fun (q : Nat) (hq : q < n) => int_at31 hp2 (gI_some (l := p) (i := q) (by omega))
    generalize hx : gI p i = x at x2 hno hyes hcs
    generalize cnt1 p i = c0 at h8 hc hcs
    refine wpK_block ?_
    try simp only [wpK_assoc]
    refine wpK_reg (fun R hR => by simp [h25, h27, x1, x2]; exact hR) ?_
    by_cases b0 : x = -1
    · try simp only [wpK_assoc]
      refine wpK_reg (fun R hR => by simp [b0]; exact hR) ?_
      try simp only [wpK_assoc]
      first | refine wpK_onT (by simp []) ?_ | refine wpK_outT (by simp []) ?_ | refine wpK_condT (by simp []) ?_ | refine wpK_endT (by simp []) ?_
      simp only [leaves_exit, behind_normal, if_true]
      rw [if_pos b0, Int.add_zero] at hcs
      refine wpK_keep (fun tm' => tm'.get 1 = some (pv) ∧ tm'.get 2 = some (.pointer (some ⟨W.next, 0, none⟩)) ∧ tm'.get 6 = some (.pointer (some ⟨pw, 0, none⟩)) ∧ tm'.get 8 = some (.int .i64 c0) ∧ tm'.get 25 = some (pv) ∧ tm'.get 26 = some (.int .i64 (n : Int)) ∧ tm'.get 27 = some (.int .i64 (i : Int))) ⟨by simp [h1, h2, h6, h8, h25, h26, h27], by simp [h1, h2, h6, h8, h25, h26, h27], by simp [h1, h2, h6, h8, h25, h26, h27], by simp [h1, h2, h6, h8, h25, h26, h27], by simp [h1, h2, h6, h8, h25, h26, h27], by simp [h1, h2, h6, h8, h25, h26, h27], by simp [h1, h2, h6, h8, h25, h26, h27]⟩ ?_
      rintro tm ⟨h1, h2, h6, h8, h25, h26, h27⟩
      try simp only [wpK_assoc]
      refine wpK_reg1 (fun R hR => by simp [h27]; exact hR) ?_
      exact hI (n - (i + 1)) _ _ (by omega) ⟨rfl, rfl, by simp [h1, h2, h6, h25, h26], by simp [h1, h2, h6, h25, h26], by simp [h1, h2, h6, h25, h26], by simp [h1, h2, h6, h25, h26], by simp [h1, h2, h6, h25, h26], rfl, i + 1, by simp [i64_succ i (by omega)], by rw [hcs]; simp [h8], rfl, by omega, hyes (.inl b0)⟩
    try simp only [wpK_assoc]
    refine wpK_reg (fun R hR => by simp [b0]; exact hR) ?_
    try simp only [wpK_assoc]
    first | refine wpK_onF (by simp []) ?_ | refine wpK_out (by simp []) ?_ | refine wpK_condF (by simp []) ?_ | refine wpK_endF (by simp []) (wpK_skip ?_) | refine wpK_endF (by simp []) ?_
    by_cases b1 : x < 0
    · try simp only [wpK_assoc]
      refine wpK_reg (fun R hR => by simp [h2, l0, b1]; exact hR) ?_
      try simp only [wpK_assoc]
      first | refine wpK_onT (by simp []) ?_ | refine wpK_outT (by simp []) ?_ | refine wpK_condT (by simp []) ?_ | refine wpK_endT (by simp []) ?_
      try simp only [wpK_assoc]
      refine wpK_reg (fun R hR => by simp []; exact hR) ?_
      exact wpK_ret (hRt _ _ ⟨rfl, rfl, rfl, by simp, by simp, hno (by omega)⟩)
    by_cases b2 : P ≤ x
    · try simp only [wpK_assoc]
      refine wpK_reg (fun R hR => by simp [h2, l0, b1, b2]; exact hR) ?_
      try simp only [wpK_assoc]
      first | refine wpK_onT (by simp []) ?_ | refine wpK_outT (by simp []) ?_ | refine wpK_condT (by simp []) ?_ | refine wpK_endT (by simp []) ?_
      try simp only [wpK_assoc]
      refine wpK_reg (fun R hR => by simp []; exact hR) ?_
      exact wpK_ret (hRt _ _ ⟨rfl, rfl, rfl, by simp, by simp, hno (by omega)⟩)
    obtain ⟨q, hq⟩ : ∃ q : Nat, x = (q : Int) := ⟨x.toNat, by omega⟩
    subst hq
    have hqn : q < n := by omega
    obtain ⟨by', py, y1, y2, _⟩ := hat q hqn
    simp only [Int.toNat_natCast] at hno hyes
    by_cases b3 : gI p q = (i : Int)
    case neg =>
      generalize gI p q = y at y2 b3 hno hyes
      try simp only [wpK_assoc]
      refine wpK_reg (fun R hR => by simp [h1, h2, l0, b1, b2, y1, y2, b3]; exact hR) ?_
      try simp only [wpK_assoc]
      first | refine wpK_onT (by simp []) ?_ | refine wpK_outT (by simp []) ?_ | refine wpK_condT (by simp []) ?_ | refine wpK_endT (by simp []) ?_
      try simp only [wpK_assoc]
      refine wpK_reg (fun R hR => by simp []; exact hR) ?_
      exact wpK_ret (hRt _ _ ⟨rfl, rfl, rfl, by simp, by simp, hno (by omega)⟩)
    rw [b3] at y2 hno hyes
    obtain ⟨jb1, jb2⟩ := join_bit hJ (q := i) (r := q) (by omega)
    have i1 := ix106 pw 1 i (by omega)
    have w1 := web_load hVw (i := i) (by rw [hJ.1]; omega)
    generalize J.getD i 0 = S at w1 jb1 jb2
    have hh := fun W' => has_wp S q (by omega) (by omega) W'
    cases hb : S.testBit q with
    | false =>
      rw [hb] at hh jb2
      have hnj : ¬ Jn es (i : Int) (q : Int) := fun hj => by have := jb2.2 hj; cases this
      try simp only [wpK_assoc]
      refine wpK_reg (fun R hR => by
        simp [h1, h2, h6, l0, b1, b2, y1, y2, i1, w1, aEnter, fun60, short_other, aCallV]; rw [callS_none]
        refine (hh _).mono ?_
        rintro _ W9 ⟨e9, rfl⟩; subst W9
        simp; exact hR) ?_
      try simp only [wpK_assoc]
      first | refine wpK_onT (by simp []) ?_ | refine wpK_outT (by simp []) ?_ | refine wpK_condT (by simp []) ?_ | refine wpK_endT (by simp []) ?_
      try simp only [wpK_assoc]
      refine wpK_reg (fun R hR => by simp []; exact hR) ?_
      exact wpK_ret (hRt _ _ ⟨rfl, rfl, rfl, by simp, by simp, hno (fun ho => by
        rcases ho with ho | ho
        · omega
        · exact hnj ho.2.2.2)⟩)
    | true =>
      rw [hb] at hh jb2
      have hj := jb2.1 rfl
      try simp only [wpK_assoc]
      refine wpK_reg (fun R hR => by
        simp [h1, h2, h6, l0, b1, b2, y1, y2, i1, w1, aEnter, fun60, short_other, aCallV]; rw [callS_none]
        refine (hh _).mono ?_
        rintro _ W9 ⟨e9, rfl⟩; subst W9
        simp; exact hR) ?_
      try simp only [wpK_assoc]
      first | refine wpK_onF (by simp []) ?_ | refine wpK_out (by simp []) ?_ | refine wpK_condF (by simp []) ?_ | refine wpK_endF (by simp []) (wpK_skip ?_) | refine wpK_endF (by simp []) ?_
      rw [if_neg b0] at hcs
      have a1 : IntKind.i64.wrap (c0 + 1) = cnt1 p (i + 1) := by rw [hcs]; exact i64_in (by omega)
      try simp only [wpK_assoc]
      refine wpK_reg1 (fun R hR => by simp [h8, a1]; exact hR) ?_
      simp only [leaves_normal, behind_normal]
      refine wpK_keep (fun tm' => tm'.get 1 = some (pv) ∧ tm'.get 2 = some (.pointer (some ⟨W.next, 0, none⟩)) ∧ tm'.get 6 = some (.pointer (some ⟨pw, 0, none⟩)) ∧ tm'.get 8 = some (.int .i64 (cnt1 p (i + 1))) ∧ tm'.get 25 = some (pv) ∧ tm'.get 26 = some (.int .i64 (n : Int)) ∧ tm'.get 27 = some (.int .i64 (i : Int))) ⟨by simp [h1, h2, h6, h25, h26, h27], by simp [h1, h2, h6, h25, h26, h27], by simp [h1, h2, h6, h25, h26, h27], by simp [h1, h2, h6, h25, h26, h27], by simp [h1, h2, h6, h25, h26, h27], by simp [h1, h2, h6, h25, h26, h27], by simp [h1, h2, h6, h25, h26, h27]⟩ ?_
      rintro tm ⟨h1, h2, h6, h8, h25, h26, h27⟩
      try simp only [wpK_assoc]
      refine wpK_reg1 (fun R hR => by simp [h27]; exact hR) ?_
      exact hI (n - (i + 1)) _ _ (by omega) ⟨rfl, rfl, by simp [h1, h2, h6, h25, h26], by simp [h1, h2, h6, h25, h26], by simp [h1, h2, h6, h25, h26], by simp [h1, h2, h6, h25, h26], by simp [h1, h2, h6, h25, h26], rfl, i + 1, by simp [i64_succ i (by omega)], by simp [h8], rfl, by omega, hyes (.inr ⟨by omega, by omega, rfl, hj⟩)⟩
  · rintro ⟨tm, m, ds⟩ W' ⟨h1, h2, h3, h4, h5, h6⟩
    simp only at h1 h2 h4 h5
    subst h1; subst h2; subst h3
    exact ⟨.inr rfl, rfl, [.int .i64 0, .bool false], by simp [h4, h5], hE1.trans hE2, 0, false, rfl, .inr ⟨rfl, rfl, fun hh => h6 (by rw [hn]; exact hh.2)⟩⟩
  · rintro ⟨tm, n, ds⟩ W3 ⟨hn, hd, h1, h2, h6, h25, h26, e2, h8, hok⟩
    simp only at hn hd h1 h2 h6 h25 h26
    subst hn; subst hd
    subst W3
    simp only at h8
    rw [hn] at h8 hok
    have ht := cnt_twice hg (by rw [← hn]; exact hnP) hok
    have hc2 := cnt2_in p p.length
    rw [ht] at h8
    generalize hk : cnt2 p p.length = k at h8 hc2
    have hdiv : aBinI .quo .i64 (2 * k) .i64 2 = some (.int .i64 k) := by
      rw [aBinI_quo .i64 _ _ (by omega), Int.mul_comm, Int.mul_tdiv_cancel _ (by omega), i64_in (by omega)]
    try simp only [wpK_assoc]
    refine wpK_reg (fun R hR => by simp [h8, hdiv]; exact hR) ?_
    exact wpK_ret ⟨.inr rfl, rfl, [.int .i64 k, .bool true], by simp, hE1.trans hE2, k, true, rfl, .inl ⟨rfl, by rw [← hn]; exact hnP, hok, hk.symm⟩⟩
open Classical in
theorem refPairing_ok {W : AW} {v pv : Value} {P : Int} {es : List Edge} {p : List Int} (h : PairR W v es) (hl : es.length < 4611686018427387904) (hg : GraphOk P es) (hp : IntN W pv p) (hpl : p.length < 4611686018427387904) :
    WpF T0 26 [.agg ⟨[.int .i64 P, v]⟩, pv] W (fun u W' => Ext W W' ∧ ∃ k b, u = .tuple ⟨[.int .i64 k, .bool b]⟩ ∧ PairingIs P es p k b) := by
  have hP := hg.2.1
  refine wpF fun26 rfl ?_
  obtain ⟨W1, hW1, hE1, hV⟩ : ∃ W1, W1 = W.newCells 24 [.int .i64 P, v] ∧ Ext W W1 ∧ Var W1 W.next 24 [.int .i64 P, v] := ⟨_, rfl, .newCells _ _ _, Var.new _ _ _⟩
  have hl1 := load24 hV
  obtain ⟨n, hn⟩ : ∃ n, n = p.length := ⟨_, rfl⟩
  obtain ⟨A, c, hv⟩ := hp.len
  have lp : ∀ W', aLen T0 W' 31 pv = some (.int .i64 (n : Int)) := fun W' => by rw [hv, hn]; exact len_slice und31 _ _ _
  have l0 : ∀ W', Ext W1 W' → aLoadVar T0 W' 3 W.next 0 = some (.int .i64 P) := fun W' hE => (hV.ext hE).load1 (T := T0) und3 rfl (j := 0) (v := .int .i64 P) rfl
  have l24 : ∀ W', Ext W1 W' → aLoadVar T0 W' 24 W.next 0 = some (.agg ⟨[.int .i64 P, v]⟩) := fun W' hE => load24 (hV.ext hE)
  try simp only [wpK_assoc]
  refine wpK_reg (fun R hR => by simp [← hW1]; exact hR) ?_
  have hck := refCheck_wp P (h.ext hE1) hl
  rw [chkG_ok hg] at hck
  by_cases hnP : (n : Int) = P
  case neg =>
    try simp only [wpK_assoc]
    refine wpK_x0 (P := fun W' => Ext W1 W') (fun R hR => by
      simp [hl1, aEnter, fun14, short_other, aCallV]; rw [callS_none]
      refine hck.mono ?_
      rintro _ W2 ⟨hE2, rfl⟩
      simp [lp, l0, hE2, hnP]; exact hR W2 hE2) ?_
    rintro W2 hE2
    try simp only [wpK_assoc]
    first | refine wpK_onT (by simp []) ?_ | refine wpK_outT (by simp []) ?_ | refine wpK_condT (by simp []) ?_ | refine wpK_endT (by simp []) ?_
    try simp only [wpK_assoc]
    refine wpK_reg (fun R hR => by simp []; exact hR) ?_
    exact wpK_ret ⟨.inr rfl, rfl, [.int .i64 0, .bool false], by simp, hE1.trans hE2, 0, false, rfl, .inr ⟨rfl, rfl, fun hh => hnP (by rw [hn]; exact hh.1)⟩⟩
  try simp only [wpK_assoc]
  refine wpK_x0 (P := fun W' => Ext W1 W') (fun R hR => by
    simp [hl1, aEnter, fun14, short_other, aCallV]; rw [callS_none]
    refine hck.mono ?_
    rintro _ W2 ⟨hE2, rfl⟩
    simp [lp, l0, hE2, hnP]; exact hR W2 hE2) ?_
  rintro W2 hE2
  try simp only [wpK_assoc]
  first | refine wpK_onF (by simp []) ?_ | refine wpK_out (by simp []) ?_ | refine wpK_condF (by simp []) ?_ | refine wpK_endF (by simp []) (wpK_skip ?_) | refine wpK_endF (by simp []) ?_
  try simp only [wpK_assoc]
  refine wpK_reg (fun R hR => by simp []; exact hR) ?_
  try simp only [wpK_assoc]
  refine wpK_reg (fun R hR => by simp []; exact hR) ?_
  try simp only [wpK_assoc]
  refine wpK_while (I := fun k A W' => A.n = 60 ∧ A.defers = [] ∧ A.tmps.get 1 = some (pv) ∧ A.tmps.get 2 = some (.pointer (some ⟨W.next, 0, none⟩)) ∧ Ext W1 W' ∧ ∃ i : Nat, A.tmps.get 7 = some (.int .i64 (i : Int)) ∧ A.tmps.get 6 = some (.int .i64 (cnt2 p i)) ∧ k = n - i ∧ i ≤ n ∧ PairOk P es p i)
    (J := fun A W' => A.n = 60 ∧ A.defers = [] ∧ A.tmps.get 1 = some (pv) ∧ A.tmps.get 2 = some (.pointer (some ⟨W.next, 0, none⟩)) ∧ Ext W1 W' ∧ A.tmps.get 6 = some (.int .i64 (cnt2 p n)) ∧ PairOk P es p n) (Rt := fun A W' => A.n = 60 ∧ A.defers = [] ∧ Ext W1 W' ∧ A.tmps.get 4 = some (.int .i64 0) ∧ A.tmps.get 5 = some (.bool false) ∧ ¬ PairOk P es p n) (k := n) ?_ ?_ ?_ ?_
  · exact ⟨rfl, rfl, by simp, by simp, hE2, 0, by simp, by simp [cnt2, sumN], rfl, by omega, fun i hi => by omega⟩
  · rintro k ⟨tm, n, ds⟩ W3 ⟨hn, hd, h1, h2, hE3, i, h7, h6, hk, hi, hok⟩ Q' hJ' hRt hI
    simp only at hn hd h1 h2
    subst hn; subst hd
    simp only at h7 h6
    by_cases hlt : i < n
    case neg =>
      have e : i = n := by omega
      subst e
      try simp only [wpK_assoc]
      refine wpK_reg (fun R hR => by simp [h1, h7, lp]; exact hR) ?_
      try simp only [wpK_assoc]
      first | refine wpK_onF (by simp []) ?_ | refine wpK_out (by simp []) ?_ | refine wpK_condF (by simp []) ?_ | refine wpK_endF (by simp []) (wpK_skip ?_) | refine wpK_endF (by simp []) ?_
      exact hJ' _ _ ⟨rfl, rfl, by simp [h1, h2], by simp [h1, h2], hE3, by simp [h6], hok⟩
    have hlt' : (i : Int) < n := by omega
    try simp only [wpK_assoc]
    refine wpK_reg (fun R hR => by simp [h1, h7, lp, hlt']; exact hR) ?_
    try simp only [wpK_assoc]
    first | refine wpK_onT (by simp [hlt]) ?_ | refine wpK_outT (by simp [hlt]) ?_ | refine wpK_condT (by simp [hlt]) ?_ | refine wpK_endT (by simp [hlt]) ?_
    have hp3 := hp.ext (hE1.trans hE3)
    have hR3 := h.ext (hE1.trans hE3)
    obtain ⟨bx, px, x1, x2, _⟩ := int_at31 hp3 (gI_some (l := p) (i := i) (by omega))
    have hno : ¬ (gI p i = -1 ∨ (0 ≤ gI p i ∧ gI p i < P ∧ gI p (gI p i).toNat = (i : Int) ∧ Jn es (i : Int) (gI p i))) → ¬ PairOk P es p n := fun hh hr => hh (hr i hlt)
    have hyes := hok.succ
    have hc := cnt2_in p i
    have hcs : cnt2 p (i + 1) = cnt2 p i + if gI p i = -1 then 0 else if (i : Int) < gI p i then 1 else 0 := rfl
    have hat := fun (q : Nat) (hq : q < n) => int_at31 hp3 (gI_some (l := p) (i := q) (by omega))
    generalize hx : gI p i = x at x2 hno hyes hcs
    generalize cnt2 p i = c0 at h6 hc hcs
    refine wpK_block ?_
    try simp only [wpK_assoc]
    refine wpK_reg (fun R hR => by simp [h1, h7, x1, x2]; exact hR) ?_
    by_cases b0 : x = -1
    · try simp only [wpK_assoc]
      refine wpK_reg (fun R hR => by simp [b0]; exact hR) ?_
      try simp only [wpK_assoc]
      first | refine wpK_onT (by simp []) ?_ | refine wpK_outT (by simp []) ?_ | refine wpK_condT (by simp []) ?_ | refine wpK_endT (by simp []) ?_
      simp only [leaves_exit, behind_normal, if_true]
      rw [if_pos b0, Int.add_zero] at hcs
      refine wpK_keep (fun tm' => tm'.get 1 = some (pv) ∧ tm'.get 2 = some (.pointer (some ⟨W.next, 0, none⟩)) ∧ tm'.get 6 = some (.int .i64 c0) ∧ tm'.get 7 = some (.int .i64 (i : Int))) ⟨by simp [h1, h2, h6, h7], by simp [h1, h2, h6, h7], by simp [h1, h2, h6, h7], by simp [h1, h2, h6, h7]⟩ ?_
      rintro tm ⟨h1, h2, h6, h7⟩
      try simp only [wpK_assoc]
      refine wpK_reg1 (fun R hR => by simp [h7]; exact hR) ?_
      exact hI (n - (i + 1)) _ _ (by omega) ⟨rfl, rfl, by simp [h1, h2], by simp [h1, h2], hE3, i + 1, by simp [i64_succ i (by omega)], by rw [hcs]; simp [h6], rfl, by omega, hyes (.inl b0)⟩
    try simp only [wpK_assoc]
    refine wpK_reg (fun R hR => by simp [b0]; exact hR) ?_
    try simp only [wpK_assoc]
    first | refine wpK_onF (by simp []) ?_ | refine wpK_out (by simp []) ?_ | refine wpK_condF (by simp []) ?_ | refine wpK_endF (by simp []) (wpK_skip ?_) | refine wpK_endF (by simp []) ?_
    by_cases b1 : x < 0
    · try simp only [wpK_assoc]
      refine wpK_reg (fun R hR => by simp [h2, l0, hE3, b1]; exact hR) ?_
      try simp only [wpK_assoc]
      first | refine wpK_onT (by simp []) ?_ | refine wpK_outT (by simp []) ?_ | refine wpK_condT (by simp []) ?_ | refine wpK_endT (by simp []) ?_
      try simp only [wpK_assoc]
      refine wpK_reg (fun R hR => by simp []; exact hR) ?_
      exact wpK_ret (hRt _ _ ⟨rfl, rfl, hE3, by simp, by simp, hno (by omega)⟩)
    by_cases b2 : P ≤ x
    · try simp only [wpK_assoc]
      refine wpK_reg (fun R hR => by simp [h2, l0, hE3, b1, b2]; exact hR) ?_
      try simp only [wpK_assoc]
      first | refine wpK_onT (by simp []) ?_ | refine wpK_outT (by simp []) ?_ | refine wpK_condT (by simp []) ?_ | refine wpK_endT (by simp []) ?_
      try simp only [wpK_assoc]
      refine wpK_reg (fun R hR => by simp []; exact hR) ?_
      exact wpK_ret (hRt _ _ ⟨rfl, rfl, hE3, by simp, by simp, hno (by omega)⟩)
    obtain ⟨q, hq⟩ : ∃ q : Nat, x = (q : Int) := ⟨x.toNat, by omega⟩
    subst hq
    have hqn : q < n := by omega
    obtain ⟨by', py, y1, y2, _⟩ := hat q hqn
    simp only [Int.toNat_natCast] at hno hyes
    by_cases b3 : gI p q = (i : Int)
    case neg =>
      generalize gI p q = y at y2 b3 hno hyes
      try simp only [wpK_assoc]
      refine wpK_reg (fun R hR => by simp [h1, h2, h7, l0, hE3, b1, b2, y1, y2, b3]; exact hR) ?_
      try simp only [wpK_assoc]
      first | refine wpK_onT (by simp []) ?_ | refine wpK_outT (by simp []) ?_ | refine wpK_condT (by simp []) ?_ | refine wpK_endT (by simp []) ?_
      try simp only [wpK_assoc]
      refine wpK_reg (fun R hR => by simp []; exact hR) ?_
      exact wpK_ret (hRt _ _ ⟨rfl, rfl, hE3, by simp, by simp, hno (by omega)⟩)
    rw [b3] at y2 hno hyes
    have hjw := refJoined_wp P hR3 hl (i : Int) (q : Int)
    by_cases hj : Jn es (i : Int) (q : Int)
    case neg =>
      rw [decide_eq_false hj] at hjw
      try simp only [wpK_assoc]
      refine wpK_x0 (P := fun W' => Ext W3 W') (fun R hR => by
        simp [h1, h2, h7, l0, l24, hE3, b1, b2, y1, y2, aEnter, fun64, short_other, aCallV]; rw [callS_none]
        refine hjw.mono ?_
        rintro _ W4 ⟨hE4, rfl⟩
        simp; exact hR W4 hE4) ?_
      rintro W4 hE4
      try simp only [wpK_assoc]
      first | refine wpK_onT (by simp []) ?_ | refine wpK_outT (by simp []) ?_ | refine wpK_condT (by simp []) ?_ | refine wpK_endT (by simp []) ?_
      try simp only [wpK_assoc]
      refine wpK_reg (fun R hR => by simp []; exact hR) ?_
      exact wpK_ret (hRt _ _ ⟨rfl, rfl, hE3.trans hE4, by simp, by simp, hno (fun ho => by
        rcases ho with ho | ho
        · omega
        · exact hj ho.2.2.2)⟩)
    rw [decide_eq_true hj] at hjw
    try simp only [wpK_assoc]
    refine wpK_x0 (P := fun W' => Ext W3 W') (fun R hR => by
      simp [h1, h2, h7, l0, l24, hE3, b1, b2, y1, y2, aEnter, fun64, short_other, aCallV]; rw [callS_none]
      refine hjw.mono ?_
      rintro _ W4 ⟨hE4, rfl⟩
      simp; exact hR W4 hE4) ?_
    rintro W4 hE4
    try simp only [wpK_assoc]
    first | refine wpK_onF (by simp []) ?_ | refine wpK_out (by simp []) ?_ | refine wpK_condF (by simp []) ?_ | refine wpK_endF (by simp []) (wpK_skip ?_) | refine wpK_endF (by simp []) ?_
    rw [if_neg b0] at hcs
    have hy := hyes (.inr ⟨by omega, by omega, rfl, hj⟩)
    have a1 : IntKind.i64.wrap (c0 + 1) = c0 + 1 := i64_in (by omega)
    refine wpK_keep (fun tm' => tm'.get 1 = some (pv) ∧ tm'.get 2 = some (.pointer (some ⟨W.next, 0, none⟩)) ∧ tm'.get 6 = some (.int .i64 c0) ∧ tm'.get 7 = some (.int .i64 (i : Int)) ∧ tm'.get 8 = some (.int .i64 (q : Int))) ⟨by simp [h1, h2, h6, h7], by simp [h1, h2, h6, h7], by simp [h1, h2, h6, h7], by simp [h1, h2, h6, h7], by simp [h1, h2, h6, h7]⟩ ?_
    rintro tm ⟨h1, h2, h6, h7, h8⟩
    by_cases b4 : i < q
    · have b4' : (i : Int) < q := by omega
      rw [if_pos b4'] at hcs
      try simp only [wpK_assoc]
      refine wpK_reg (fun R hR => by simp [h7, h8, b4']; exact hR) ?_
      try simp only [wpK_assoc]
      first | refine wpK_onT (by simp [b4]) ?_ | refine wpK_outT (by simp [b4]) ?_ | refine wpK_condT (by simp [b4]) ?_ | refine wpK_endT (by simp [b4]) ?_
      try simp only [wpK_assoc]
      refine wpK_reg1 (fun R hR => by simp [h6, a1]; exact hR) ?_
      simp only [leaves_normal, behind_normal]
      refine wpK_keep (fun tm' => tm'.get 1 = some (pv) ∧ tm'.get 2 = some (.pointer (some ⟨W.next, 0, none⟩)) ∧ tm'.get 6 = some (.int .i64 (c0 + 1)) ∧ tm'.get 7 = some (.int .i64 (i : Int))) ⟨by simp [h1, h2, h7], by simp [h1, h2, h7], by simp [h1, h2, h7], by simp [h1, h2, h7]⟩ ?_
      rintro tm ⟨h1, h2, h6, h7⟩
      try simp only [wpK_assoc]
      refine wpK_reg1 (fun R hR => by simp [h7]; exact hR) ?_
      exact hI (n - (i + 1)) _ _ (by omega) ⟨rfl, rfl, by simp [h1, h2], by simp [h1, h2], hE3.trans hE4, i + 1, by simp [i64_succ i (by omega)], by rw [hcs]; simp [h6], rfl, by omega, hy⟩
    · have b4' : ¬ (i : Int) < q := by omega
      rw [if_neg b4', Int.add_zero] at hcs
      try simp only [wpK_assoc]
      refine wpK_reg (fun R hR => by simp [h7, h8, b4']; exact hR) ?_
      try simp only [wpK_assoc]
      first | refine wpK_onF (by simp [b4]) ?_ | refine wpK_out (by simp [b4]) ?_ | refine wpK_condF (by simp [b4]) ?_ | refine wpK_endF (by simp [b4]) (wpK_skip ?_) | refine wpK_endF (by simp [b4]) ?_
      simp only [leaves_normal, behind_normal]
      refine wpK_keep (fun tm' => tm'.get 1 = some (pv) ∧ tm'.get 2 = some (.pointer (some ⟨W.next, 0, none⟩)) ∧ tm'.get 6 = some (.int .i64 c0) ∧ tm'.get 7 = some (.int .i64 (i : Int))) ⟨by simp [h1, h2, h6, h7], by simp [h1, h2, h6, h7], by simp [h1, h2, h6, h7], by simp [h1, h2, h6, h7]⟩ ?_
      rintro tm ⟨h1, h2, h6, h7⟩
      try simp only [wpK_assoc]
      refine wpK_reg1 (fun R hR => by simp [h7]; exact hR) ?_
      exact hI (n - (i + 1)) _ _ (by omega) ⟨rfl, rfl, by simp [h1, h2], by simp [h1, h2], hE3.trans hE4, i + 1, by simp [i64_succ i (by omega)], by rw [hcs]; simp [h6], rfl, by omega, hy⟩
  · rintro ⟨tm, m, ds⟩ W' ⟨h1, h2, h3, h4, h5, h6⟩
    simp only at h1 h2 h4 h5
    subst h1; subst h2
    exact ⟨.inr rfl, rfl, [.int .i64 0, .bool false], by simp [h4, h5], hE1.trans h3, 0, false, rfl, .inr ⟨rfl, rfl, fun hh => h6 (by rw [hn]; exact hh.2)⟩⟩
  · rintro ⟨tm, n, ds⟩ W3 ⟨hn, hd, h1, h2, hE3, h6, hok⟩
    simp only at hn hd h1 h2
    subst hn; subst hd
    simp only at h6
    try simp only [wpK_assoc]
    refine wpK_reg (fun R hR => by simp [h6]; exact hR) ?_
    exact wpK_ret ⟨.inr rfl, rfl, [.int .i64 (cnt2 p n), .bool true], by simp, hE1.trans hE3, cnt2 p n, true, rfl, .inl ⟨rfl, by rw [← hn]; exact hnP, by rw [← hn]; exact hok, by rw [hn]⟩⟩

end Go.Proofs.YtdpnplanohgecaaDoor

open Go Go.Eng
namespace Go.Proofs.YtdpnplanohgecaaDoor
attribute [local congr] undef_congr WpK.congr WpS.congr WpL.congr WpC.congr WpF.congr gotS.congr callS.congr nextS.congr wantS.congr condS.congr
attribute [local irreducible] WpK
attribute [local simp] WpDr_nil WpDr_cons atS_some dwantS_true dwantS_false kindS_light kindS_float kindS_heavy lightS_value floatS_some heavyS_value heavyS_skip heavyS_enter dcallS_some doneS_eq
  isLight isFloat isPlain dLook testBit_dec dChain dLights_nil dLights_skip dLights_one dLight_nil dLight_cons dFreshes_nil dFreshes_one oneF_none oneF_some dFresh_nil dFresh_cons oneL_some oneW_true oneW_false sameV_value dPut dMay valEq arrEq listEq List.getElem?_cons Tr.get_nil dEnd
attribute [local simp] WpS_nil WpS_cons isDefer undef_false wantS_true wantS_false nextS_value nextS_skip nextS_enter callS_some gotS_some aWanted aOp aEvalF aEval opMove opAssign opPick aVal flat flat1 AAct.put opBinOp opConvert opIndex Tr.get_set Tr.get_lay aBin aResults tupled
  aCall aVals aCallB blt_dec ble_dec beq_dec aBinI_add aBinI_sub aBinI_lss aBinI_leq aBinI_gtr aBinI_geq aBinI_eql aBinI_neq index_str len_str len_slice Nat.beq_refl Nat.beq_refl
  opBox opLoad opFieldAddr opIndexAddr acells aAddr opExtract aExtract opUnOp opAlloc opStore opMakeInterface opNilCheck opBuild aParts opBuildSlice aValW
attribute [local simp] und2 und3 und4 und5 und9 und12 field13_0 field13_1 und21 und22 field23_0 field23_1 field24_0 field24_1 field25_0 field25_1 und28 und31 field34_0 field34_1 field34_2 field35_0 field35_1 field35_2 und46 field50_0 field50_1 field50_2 und55 und56 und58 und61 und62 und73 und75 und90 und94 und95 und96 field97_0 field97_1 field97_2 field97_3 field97_4 field97_5 field97_6 field98_0 field98_1 field98_2 field98_3 field98_4 field98_5 field98_6 und99 und106 field107_0 field107_1 field108_0 field108_1 und119 und122 field124_0 field124_1 field124_2 field125_0 field125_1 field125_2 field131_0 field131_1 field132_0 field132_1 und133 field134_0 field134_1 field135_0 field135_1 und148 und156 und160
set_option maxHeartbeats 4000000
set_option linter.unusedSimpArgs false
set_option linter.unusedVariables false
/-! ### the neighbours of a set -/
theorem around_wp {W : AW} {pw x : Nat} {P : Int} {J : List Nat} {es : List Edge} (hJ : JoinL es J) (hVw : Var W pw 108 (.int .i64 P :: J.map setV)) (hx : x < 1099511627776) (hT : tabsIn T0 T0.tabs W = true) (h0 : 0 < W.next) :
    WpF T0 80 [.pointer (some ⟨pw, 0, none⟩), .int .u64 (x : Nat)] W (fun v W' => Ext W W' ∧ ∃ R : Nat, v = .int .u64 (R : Nat) ∧ R < 1099511627776 ∧ ∀ r : Nat, R.testBit r = true ↔ ∃ q, x.testBit q = true ∧ (J.getD q 0).testBit r = true) := by
  refine wpFd fun80 rfl ?_
  obtain ⟨W0, hW0, hE0, hn0, hV0⟩ : ∃ W0, W0 = W.newCells 90 [.pointer (some ⟨pw, 0, none⟩)] ∧ Ext W W0 ∧ W0.next = W.next + 1 ∧ Var W0 W.next 90 [.pointer (some ⟨pw, 0, none⟩)] := ⟨_, rfl, .newCells _ _ _, rfl, Var.new _ _ _⟩
  obtain ⟨W1, hW1, hE1, hn1, hV1⟩ : ∃ W1, W1 = W0.newCells 96 [.int .u64 0] ∧ Ext W0 W1 ∧ W1.next = W0.next + 1 ∧ Var W1 W0.next 96 [.int .u64 0] := ⟨_, rfl, .newCells _ _ _, rfl, Var.new _ _ _⟩
  obtain ⟨Wq, g1, g2, g3, g4⟩ := var_store1 (t := 96) (v := .int .u64 0) (o := 0) hV1 inf96 is96 rfl rfl (by simp)
  try simp only [wpK_assoc]
  refine wpK_reg (fun R hR => by simp [← hW0]; exact hR) ?_
  try simp only [wpK_assoc]
  refine wpK_reg (fun R hR => by simp [zero96, ← hW1, g1]; exact hR) ?_
  have hE01 : Ext W Wq := ⟨by have := hE0.1; have := hE1.1; omega, fun b hb hk => by rw [g3.2 b (by omega) (by omega), hE1.2 b (by omega) hk, hE0.2 b hb hk]⟩
  have hVq : Var Wq W0.next 96 [.int .u64 0] := by simpa using g4
  have hV0q : Var Wq W.next 90 [.pointer (some ⟨pw, 0, none⟩)] := (hV0.ext hE1).only g3 (by omega)
  obtain ⟨p5, hp5⟩ : ∃ p, p = W0.next := ⟨_, rfl⟩
  rw [← hp5] at hVq
  have hpw := hVw.1
  try simp only [wpK_assoc]
  refine wpK_x0 (fun R hR => by
      simp [aEnter, fun77, short_other, aCallV]; rw [callS_none]
      refine (places_wp x).mono ?_
      rintro _ W2 ⟨hE2, rfl, hB2⟩
      simp []; exact hR W2 (And.intro hE2 hB2)) ?_
  rintro W2 ⟨hE2, hB2⟩
  refine wpK_keep (fun tm' => tm'.get 2 = some (.pointer (some ⟨W.next, 0, none⟩)) ∧ tm'.get 5 = some (.pointer (some ⟨p5, 0, none⟩)) ∧ tm'.get 8 = some (.func (.func 86) ⟨[]⟩ ⟨[.pointer (some ⟨Wq.next, 0, none⟩)]⟩)) ⟨by simp [hp5], by simp [hp5], by simp [hp5]⟩ ?_
  rintro tm ⟨h2, h5, h8⟩
  have n2 := hE2.1
  refine wpK_range2 (f := 86) (first := ⟨[]⟩) (cap := ⟨[.pointer (some ⟨Wq.next, 0, none⟩)]⟩) (by simp [h8]) fun86 (fun W5 hn5 hW5 hdf hlp => ?_)
  have hE25 : Ext W2 W5 := ⟨by omega, fun b hb _ => hW5 b hb⟩
  have hV5 := (hVq.ext hE2).ext hE25
  have hV05 := (hV0q.ext hE2).ext hE25
  have hE5 : Ext W W5 := (hE01.trans hE2).trans hE25
  refine (places1_wp (l := W2.next + 1) (bx := Wq.next) (x := x) (fun left W' => Ext W W' ∧ W5.next ≤ W'.next ∧ W'.blocks.get (W2.next + 1) = W5.blocks.get (W2.next + 1) ∧ W'.blocks.get W2.next = W5.blocks.get W2.next ∧ left < 1099511627776 ∧
    Var W' W.next 90 [.pointer (some ⟨pw, 0, none⟩)] ∧ (∀ q, left.testBit q = true → x.testBit q = true) ∧ ∃ R : Nat, Var W' p5 96 [.int .u64 (R : Nat)] ∧ R < 1099511627776 ∧ ∀ r : Nat, R.testBit r = true ↔ ∃ q, x.testBit q = true ∧ left.testBit q = false ∧ (J.getD q 0).testBit r = true) (by omega) (fun left k W' hC hl hb1 hb2 => ?_) ⟨hE5, Nat.le_refl _, rfl, rfl, hx, hV05, fun q h => h, 0, hV5, by omega, fun r => ⟨fun h => by simp at h, fun ⟨q, a, b, _⟩ => by rw [a] at b; cases b⟩⟩ (hB2.ext hE25)).mono ?_
  · obtain ⟨c1, c2, c3, c4, c5, c6, c7, R, c8, c9, c10⟩ := hC
    have hl := c3.trans hlp
    have hk40 : k < 40 := by
      apply Classical.byContradiction
      intro hk
      rw [Nat.testBit_lt_two_pow (Nat.lt_of_lt_of_le (show left < 2 ^ 40 from c5) (Nat.pow_le_pow_right (by omega) (by omega)))] at hb1
      cases hb1
    refine ⟨tabs_ext hT h0 c1, _, _, _, _, _, _, _, _, _, _, tm.set 9 (.int .i64 (k : Nat)), hl, rfl, ?_⟩
    refine wpR ?_
    try simp only [wpK_assoc]
    refine wpK_reg1 (fun R hR => by simp []; exact hR) ?_
    refine ⟨rfl, _, _, _, _, _, _, _, _, hl, ?_⟩
    generalize hbz : (AObj.loop LoopState.busy _ _ _ _ _ _ _ _) = bz
    obtain ⟨Wb, hWb, hOb, hnb⟩ : ∃ Wb, Wb = W'.setObj (W2.next + 1) bz ∧ Only (fun b => b = W2.next + 1) W' Wb ∧ Wb.next = W'.next := ⟨_, rfl, setObj_only _ _ _, rfl⟩
    rw [← hWb]
    have hlb : Wb.blocks.get (W2.next + 1) = some ⟨bz, []⟩ := by rw [hWb, setObj_get, if_pos rfl]
    have c6b := c6.only hOb (by omega)
    have c8b := c8.only hOb (by omega)
    have hwb := (hVw.ext c1).only hOb (by omega)
    have m1 := c6b.load1 (T := T0) und90 rfl (j := 0) (v := .pointer (some ⟨pw, 0, none⟩)) rfl
    have m2 := c8b.load1 (T := T0) und96 rfl (j := 0) (v := .int .u64 (R : Nat)) rfl
    have m3 := web_load hwb (i := k) (by rw [hJ.1]; exact hk40)
    have i1 := ix106 pw 1 k hk40
    obtain ⟨jb1, -⟩ := join_bit hJ (q := k) (r := 0) hk40
    have hor := aBinI_or .u64 R (J.getD k 0) (by show R < 18446744073709551616; omega) (by show J.getD k 0 < 18446744073709551616; omega)
    obtain ⟨Wd, s1, s2, s3, s4⟩ := var_store1 (t := 96) (v := .int .u64 ((R ||| J.getD k 0 : Nat) : Int)) (o := 0) c8b inf96 is96 rfl rfl (by simp)
    have hR2 : R ||| J.getD k 0 < 1099511627776 := Nat.or_lt_two_pow (n := 40) c9 jb1
    have hbit : ∀ r, (R ||| J.getD k 0).testBit r = true ↔ ∃ q, x.testBit q = true ∧ (dropLow left).testBit q = false ∧ (J.getD q 0).testBit r = true := fun r => by
      rw [Nat.testBit_or, Bool.or_eq_true, c10 r]
      constructor
      · rintro (⟨q, a, b, c⟩ | c)
        · exact ⟨q, a, by rw [dropLow_bit hb1 hb2, b]; rfl, c⟩
        · exact ⟨k, c7 k hb1, by rw [dropLow_bit hb1 hb2]; simp, c⟩
      · rintro ⟨q, a, b, c⟩
        rw [dropLow_bit hb1 hb2] at b
        by_cases e : q = k
        · subst e; exact .inr c
        · refine .inl ⟨q, a, ?_, c⟩
          rw [show decide (q ≠ k) = true from decide_eq_true e, Bool.and_true] at b; exact b
    generalize R ||| J.getD k 0 = R2 at hor s1 s4 hR2 hbit
    generalize J.getD k 0 = Jk at m3 hor
    refine wpK_block1 ?_
    try simp only [wpK_assoc]
    refine wpK_qn (wr := Tr.nil |>.set 10 0 |>.set 11 1 |>.set 12 2 |>.set 13 3 |>.set 14 4 |>.set 15 5 |>.set 16 6 |>.set 17 7) (bits := Tr.nil.lay 0 [0, 0, 0, 2, 10, 30, 62, 127, 255]) (ord := [0, 1, 2, 3, 4, 5, 6, 7, 8]) (by kernel_rfl) (by kernel_rfl) (by kernel_rfl) (fun G hG => by
      simp [h2, h5, m1, m2, m3, i1, hor, s1, s2]
      exact hG) ?_
    simp only [leaves_normal]
    have hdl : Wd.blocks.get (W2.next + 1) = some ⟨bz, []⟩ := by rw [s3.2 _ (by omega) (by omega)]; exact hlb
    subst hbz
    refine ⟨_, _, _, _, _, _, _, _, _, hdl, rfl, ?_⟩
    have hOz := fun o => setObj_only Wd (W2.next + 1) o
    refine ⟨⟨by rw [setObj_next]; have := c1.1; omega, fun b hb hk => ?_⟩, by rw [setObj_next]; omega, by rw [setObj_get, if_pos rfl]; exact hlp.symm, ?_, ?_, (c6b.only s3 (by omega)).only (hOz _) (by omega), fun q hq => ?_, R2, ?_, hR2, hbit⟩
    · rw [setObj_get, if_neg (by omega), s3.2 b (by have := c1.1; omega) (by omega), hOb.2 b (by have := c1.1; omega) (by omega)]
      exact c1.2 b hb hk
    · rw [setObj_get, if_neg (by omega), s3.2 _ (by omega) (by omega), hOb.2 _ (by omega) (by omega)]; exact c4
    · have := dropLow_lt (x := left) (fun e => by subst e; simp at hb1)
      omega
    · rw [dropLow_bit hb1 hb2] at hq
      exact c7 q (by simp only [Bool.and_eq_true] at hq; exact hq.1)
    · exact (by simpa using s4 : Var Wd p5 96 [.int .u64 (R2 : Nat)]).only (hOz _) (by omega)
  · rintro _ W6 ⟨c1, c2, c3, c4, c5, c6, c7, R, c8, c9, c10⟩
    have hl6 := c3.trans hlp
    refine ⟨_, _, _, _, _, _, _, _, _, hl6, (fun h => by cases h), ?_⟩
    show WpK T0 ⟨80, none⟩ _ _ _ _
    generalize hex : (AObj.loop LoopState.exhausted _ _ _ _ _ _ _ _) = ex
    obtain ⟨W7, hW7, hO7, hn7⟩ : ∃ W7, W7 = W6.setObj (W2.next + 1) ex ∧ Only (fun b => b = W2.next + 1) W6 W7 ∧ W7.next = W6.next := ⟨_, rfl, setObj_only _ _ _, rfl⟩
    rw [← hW7]
    clear hW7 hex
    have c88 := c8.only hO7 (by omega)
    have hld := c88.load1 (T := T0) und96 rfl (j := 0) (v := .int .u64 (R : Nat)) rfl
    try simp only [wpK_assoc]
    refine wpK_reg (fun R hR => by simp [h5, hld]; exact hR) ?_
    have hdf7 : W7.blocks.get W2.next = some ⟨.deferred (some []), []⟩ := by rw [hO7.2 _ (by omega) (by omega), c4]; exact hdf
    refine wpK_ret ⟨.inr rfl, W7.setObj W2.next (.deferred none), ⟨W2.next, rfl, hdf7, rfl⟩, [.int .u64 (R : Nat)], by simp, ⟨by rw [setObj_next]; have := c1.1; omega, fun b hb hk => ?_⟩, R, rfl, c9, fun r => ?_⟩
    · rw [setObj_get, if_neg (by omega), hO7.2 b (by have := c1.1; omega) (by omega)]; exact c1.2 b hb hk
    · rw [c10 r]
      exact ⟨fun ⟨q, a, _, c⟩ => ⟨q, a, c⟩, fun ⟨q, a, c⟩ => ⟨q, a, by simp, c⟩⟩

end Go.Proofs.YtdpnplanohgecaaDoor
