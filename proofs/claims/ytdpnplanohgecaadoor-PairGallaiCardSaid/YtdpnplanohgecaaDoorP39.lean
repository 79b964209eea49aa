import Derived.Test.YtdpnplanohgecaaDoorPt1
import Derived.Test.YtdpnplanohgecaaDoorEngVr
import Derived.Test.YtdpnplanohgecaaDoorEngPm
import Derived.Test.YtdpnplanohgecaaDoorEngBt
import Derived.KernelRfl
import Derived.Test.YtdpnplanohgecaaDoorEngRe
import Derived.Test.YtdpnplanohgecaaDoorEngSm
import Derived.Test.YtdpnplanohgecaaDoorTie
import Derived.Test.YtdpnplanohgecaaDoorCards
import Derived.SevenTiedAt
import Derived.Lib.SmallJoins
set_option linter.unusedSimpArgs false
set_option linter.unusedVariables false
set_option linter.unusedSectionVars false
open Go Go.Eng
namespace Go.Proofs.YtdpnplanohgecaaDoor
theorem und2 : T0.und.get 2 = some (.int .i64) := by kernel_rfl
theorem z2 : Tryd.t2.zero = some (.int .i64 0) := by kernel_rfl
theorem und3 : T0.und.get 3 = some (.int .i64) := by kernel_rfl
theorem sz3 : aSize T0 3 = some 1 := by kernel_rfl
theorem inf3 : T0.info.get 3 = some Tryd.t3 := by kernel_rfl
theorem is3 : Tryd.t3.size = 1 := by kernel_rfl
theorem by3 : Tryd.t3.bytes = 8 := by kernel_rfl
theorem zero3 : aZero T0 3 = some (.int .i64 0) := by kernel_rfl
theorem z3 : Tryd.t3.zero = some (.int .i64 0) := by kernel_rfl
theorem und4 : T0.und.get 4 = some .bool := by kernel_rfl
theorem z4 : Tryd.t4.zero = some (.bool false) := by kernel_rfl
theorem und5 : T0.und.get 5 = some (.int .u8) := by kernel_rfl
theorem sz5 : aSize T0 5 = some 1 := by kernel_rfl
theorem z5 : Tryd.t5.zero = some (.int .u8 0) := by kernel_rfl
theorem und9 : T0.und.get 9 = some .string := by kernel_rfl
theorem und12 : T0.und.get 12 = some (.int .u64) := by kernel_rfl
theorem field13_0 (b o : Nat) : aField T0 13 (.pointer (some ⟨b, o, none⟩)) 0 = some (.pointer (some ⟨b, o, none⟩)) := by rfl
theorem field13_1 (b o : Nat) : aField T0 13 (.pointer (some ⟨b, o, none⟩)) 1 = some (.pointer (some ⟨b, o + 1, none⟩)) := by rfl
theorem und21 : T0.und.get 21 = some (.int .i32) := by kernel_rfl
theorem und22 : T0.und.get 22 = some (.slice 55) := by kernel_rfl
theorem inf22 : T0.info.get 22 = some Tryd.t22 := by kernel_rfl
theorem is22 : Tryd.t22.size = 1 := by kernel_rfl
theorem field23_0 (b o : Nat) : aField T0 23 (.pointer (some ⟨b, o, none⟩)) 0 = some (.pointer (some ⟨b, o, none⟩)) := by rfl
theorem field23_1 (b o : Nat) : aField T0 23 (.pointer (some ⟨b, o, none⟩)) 1 = some (.pointer (some ⟨b, o + 1, none⟩)) := by rfl
theorem und24 : T0.und.get 24 = some Tryd.t23.desc := by kernel_rfl
theorem inf24 : T0.info.get 24 = some Tryd.t24 := by kernel_rfl
theorem is24 : Tryd.t24.size = 2 := by kernel_rfl
theorem zero24 : aZero T0 24 = some (.agg ⟨[.int .i64 0, .slice none 0 0]⟩) := by kernel_rfl
theorem agg24 : isAggD Tryd.t23.desc = true := by kernel_rfl
theorem field24_0 (b o : Nat) : aField T0 24 (.pointer (some ⟨b, o, none⟩)) 0 = some (.pointer (some ⟨b, o, none⟩)) := by rfl
theorem field24_1 (b o : Nat) : aField T0 24 (.pointer (some ⟨b, o, none⟩)) 1 = some (.pointer (some ⟨b, o + 1, none⟩)) := by rfl
theorem und25 : T0.und.get 25 = some Tryd.t23.desc := by kernel_rfl
theorem inf25 : T0.info.get 25 = some Tryd.t25 := by kernel_rfl
theorem is25 : Tryd.t25.size = 2 := by kernel_rfl
theorem zero25 : aZero T0 25 = some (.agg ⟨[.int .i64 0, .slice none 0 0]⟩) := by kernel_rfl
theorem agg25 : isAggD Tryd.t23.desc = true := by kernel_rfl
theorem field25_0 (b o : Nat) : aField T0 25 (.pointer (some ⟨b, o, none⟩)) 0 = some (.pointer (some ⟨b, o, none⟩)) := by rfl
theorem field25_1 (b o : Nat) : aField T0 25 (.pointer (some ⟨b, o, none⟩)) 1 = some (.pointer (some ⟨b, o + 1, none⟩)) := by rfl
theorem und28 : T0.und.get 28 = some (.int .i64) := by kernel_rfl
theorem und31 : T0.und.get 31 = some (.slice 3) := by kernel_rfl
theorem sz31 : aSize T0 31 = some 1 := by kernel_rfl
theorem inf31 : T0.info.get 31 = some Tryd.t31 := by kernel_rfl
theorem is31 : Tryd.t31.size = 1 := by kernel_rfl
theorem by31 : Tryd.t31.bytes = 24 := by kernel_rfl
theorem zero31 : aZero T0 31 = some (.slice none 0 0) := by kernel_rfl
theorem z31 : Tryd.t31.zero = some (.slice none 0 0) := by kernel_rfl
theorem field34_0 (b o : Nat) : aField T0 34 (.pointer (some ⟨b, o, none⟩)) 0 = some (.pointer (some ⟨b, o, none⟩)) := by rfl
theorem field34_1 (b o : Nat) : aField T0 34 (.pointer (some ⟨b, o, none⟩)) 1 = some (.pointer (some ⟨b, o + 1, none⟩)) := by rfl
theorem field34_2 (b o : Nat) : aField T0 34 (.pointer (some ⟨b, o, none⟩)) 2 = some (.pointer (some ⟨b, o + 2, none⟩)) := by rfl
theorem und35 : T0.und.get 35 = some Tryd.t34.desc := by kernel_rfl
theorem inf35 : T0.info.get 35 = some Tryd.t35 := by kernel_rfl
theorem is35 : Tryd.t35.size = 3 := by kernel_rfl
theorem zero35 : aZero T0 35 = some (.agg ⟨[.slice none 0 0, .slice none 0 0, .slice none 0 0]⟩) := by kernel_rfl
theorem agg35 : isAggD Tryd.t34.desc = true := by kernel_rfl
theorem field35_0 (b o : Nat) : aField T0 35 (.pointer (some ⟨b, o, none⟩)) 0 = some (.pointer (some ⟨b, o, none⟩)) := by rfl
theorem field35_1 (b o : Nat) : aField T0 35 (.pointer (some ⟨b, o, none⟩)) 1 = some (.pointer (some ⟨b, o + 1, none⟩)) := by rfl
theorem field35_2 (b o : Nat) : aField T0 35 (.pointer (some ⟨b, o, none⟩)) 2 = some (.pointer (some ⟨b, o + 2, none⟩)) := by rfl
theorem und46 : T0.und.get 46 = some (.slice 4) := by kernel_rfl
theorem field50_0 (b o : Nat) : aField T0 50 (.pointer (some ⟨b, o, none⟩)) 0 = some (.pointer (some ⟨b, o, none⟩)) := by rfl
theorem field50_1 (b o : Nat) : aField T0 50 (.pointer (some ⟨b, o, none⟩)) 1 = some (.pointer (some ⟨b, o + 1, none⟩)) := by rfl
theorem field50_2 (b o : Nat) : aField T0 50 (.pointer (some ⟨b, o, none⟩)) 2 = some (.pointer (some ⟨b, o + 2, none⟩)) := by rfl
theorem und55 : T0.und.get 55 = some (.array 2 3) := by kernel_rfl
theorem sz55 : aSize T0 55 = some 2 := by kernel_rfl
theorem inf55 : T0.info.get 55 = some Tryd.t55 := by kernel_rfl
theorem is55 : Tryd.t55.size = 2 := by kernel_rfl
theorem by55 : Tryd.t55.bytes = 16 := by kernel_rfl
theorem zero55 : aZero T0 55 = some (.agg ⟨[.int .i64 0, .int .i64 0]⟩) := by kernel_rfl
theorem z55 : Tryd.t55.zero = some (.agg ⟨[.int .i64 0, .int .i64 0]⟩) := by kernel_rfl
theorem und56 : T0.und.get 56 = some (.int .u64) := by kernel_rfl
theorem und58 : T0.und.get 58 = some (.slice 31) := by kernel_rfl
theorem und61 : T0.und.get 61 = some (.slice 62) := by kernel_rfl
theorem und62 : T0.und.get 62 = some (.slice 2) := by kernel_rfl
theorem und73 : T0.und.get 73 = some (.array 2 62) := by kernel_rfl
theorem und75 : T0.und.get 75 = some (.slice 46) := by kernel_rfl
theorem und90 : T0.und.get 90 = some (.pointer 108) := by kernel_rfl
theorem und94 : T0.und.get 94 = some (.array 40 3) := by kernel_rfl
theorem und95 : T0.und.get 95 = some (.int .u64) := by kernel_rfl
theorem und96 : T0.und.get 96 = some (.int .u64) := by kernel_rfl
theorem sz96 : aSize T0 96 = some 1 := by kernel_rfl
theorem inf96 : T0.info.get 96 = some Tryd.t96 := by kernel_rfl
theorem is96 : Tryd.t96.size = 1 := by kernel_rfl
theorem zero96 : aZero T0 96 = some (.int .u64 0) := by kernel_rfl
theorem field97_0 (b o : Nat) : aField T0 97 (.pointer (some ⟨b, o, none⟩)) 0 = some (.pointer (some ⟨b, o, none⟩)) := by rfl
theorem field97_1 (b o : Nat) : aField T0 97 (.pointer (some ⟨b, o, none⟩)) 1 = some (.pointer (some ⟨b, o + 1, none⟩)) := by rfl
theorem field97_2 (b o : Nat) : aField T0 97 (.pointer (some ⟨b, o, none⟩)) 2 = some (.pointer (some ⟨b, o + 41, none⟩)) := by rfl
theorem field97_3 (b o : Nat) : aField T0 97 (.pointer (some ⟨b, o, none⟩)) 3 = some (.pointer (some ⟨b, o + 81, none⟩)) := by rfl
theorem field97_4 (b o : Nat) : aField T0 97 (.pointer (some ⟨b, o, none⟩)) 4 = some (.pointer (some ⟨b, o + 121, none⟩)) := by rfl
theorem field97_5 (b o : Nat) : aField T0 97 (.pointer (some ⟨b, o, none⟩)) 5 = some (.pointer (some ⟨b, o + 122, none⟩)) := by rfl
theorem field97_6 (b o : Nat) : aField T0 97 (.pointer (some ⟨b, o, none⟩)) 6 = some (.pointer (some ⟨b, o + 123, none⟩)) := by rfl
theorem field98_0 (b o : Nat) : aField T0 98 (.pointer (some ⟨b, o, none⟩)) 0 = some (.pointer (some ⟨b, o, none⟩)) := by rfl
theorem field98_1 (b o : Nat) : aField T0 98 (.pointer (some ⟨b, o, none⟩)) 1 = some (.pointer (some ⟨b, o + 1, none⟩)) := by rfl
theorem field98_2 (b o : Nat) : aField T0 98 (.pointer (some ⟨b, o, none⟩)) 2 = some (.pointer (some ⟨b, o + 41, none⟩)) := by rfl
theorem field98_3 (b o : Nat) : aField T0 98 (.pointer (some ⟨b, o, none⟩)) 3 = some (.pointer (some ⟨b, o + 81, none⟩)) := by rfl
theorem field98_4 (b o : Nat) : aField T0 98 (.pointer (some ⟨b, o, none⟩)) 4 = some (.pointer (some ⟨b, o + 121, none⟩)) := by rfl
theorem field98_5 (b o : Nat) : aField T0 98 (.pointer (some ⟨b, o, none⟩)) 5 = some (.pointer (some ⟨b, o + 122, none⟩)) := by rfl
theorem field98_6 (b o : Nat) : aField T0 98 (.pointer (some ⟨b, o, none⟩)) 6 = some (.pointer (some ⟨b, o + 123, none⟩)) := by rfl
theorem und99 : T0.und.get 99 = some (.pointer 98) := by kernel_rfl
theorem und106 : T0.und.get 106 = some (.array 40 96) := by kernel_rfl
theorem field107_0 (b o : Nat) : aField T0 107 (.pointer (some ⟨b, o, none⟩)) 0 = some (.pointer (some ⟨b, o, none⟩)) := by rfl
theorem field107_1 (b o : Nat) : aField T0 107 (.pointer (some ⟨b, o, none⟩)) 1 = some (.pointer (some ⟨b, o + 1, none⟩)) := by rfl
theorem field108_0 (b o : Nat) : aField T0 108 (.pointer (some ⟨b, o, none⟩)) 0 = some (.pointer (some ⟨b, o, none⟩)) := by rfl
theorem field108_1 (b o : Nat) : aField T0 108 (.pointer (some ⟨b, o, none⟩)) 1 = some (.pointer (some ⟨b, o + 1, none⟩)) := by rfl
theorem und119 : T0.und.get 119 = some (.pointer 132) := by kernel_rfl
theorem und122 : T0.und.get 122 = some (.pointer 125) := by kernel_rfl
theorem field124_0 (b o : Nat) : aField T0 124 (.pointer (some ⟨b, o, none⟩)) 0 = some (.pointer (some ⟨b, o, none⟩)) := by rfl
theorem field124_1 (b o : Nat) : aField T0 124 (.pointer (some ⟨b, o, none⟩)) 1 = some (.pointer (some ⟨b, o + 40, none⟩)) := by rfl
theorem field124_2 (b o : Nat) : aField T0 124 (.pointer (some ⟨b, o, none⟩)) 2 = some (.pointer (some ⟨b, o + 80, none⟩)) := by rfl
theorem field125_0 (b o : Nat) : aField T0 125 (.pointer (some ⟨b, o, none⟩)) 0 = some (.pointer (some ⟨b, o, none⟩)) := by rfl
theorem field125_1 (b o : Nat) : aField T0 125 (.pointer (some ⟨b, o, none⟩)) 1 = some (.pointer (some ⟨b, o + 40, none⟩)) := by rfl
theorem field125_2 (b o : Nat) : aField T0 125 (.pointer (some ⟨b, o, none⟩)) 2 = some (.pointer (some ⟨b, o + 80, none⟩)) := by rfl
theorem field131_0 (b o : Nat) : aField T0 131 (.pointer (some ⟨b, o, none⟩)) 0 = some (.pointer (some ⟨b, o, none⟩)) := by rfl
theorem field131_1 (b o : Nat) : aField T0 131 (.pointer (some ⟨b, o, none⟩)) 1 = some (.pointer (some ⟨b, o + 1, none⟩)) := by rfl
theorem field132_0 (b o : Nat) : aField T0 132 (.pointer (some ⟨b, o, none⟩)) 0 = some (.pointer (some ⟨b, o, none⟩)) := by rfl
theorem field132_1 (b o : Nat) : aField T0 132 (.pointer (some ⟨b, o, none⟩)) 1 = some (.pointer (some ⟨b, o + 1, none⟩)) := by rfl
theorem und133 : T0.und.get 133 = some (.map 135 3) := by kernel_rfl
theorem field134_0 (b o : Nat) : aField T0 134 (.pointer (some ⟨b, o, none⟩)) 0 = some (.pointer (some ⟨b, o, none⟩)) := by rfl
theorem field134_1 (b o : Nat) : aField T0 134 (.pointer (some ⟨b, o, none⟩)) 1 = some (.pointer (some ⟨b, o + 1, none⟩)) := by rfl
theorem und135 : T0.und.get 135 = some Tryd.t134.desc := by kernel_rfl
theorem inf135 : T0.info.get 135 = some Tryd.t135 := by kernel_rfl
theorem is135 : Tryd.t135.size = 2 := by kernel_rfl
theorem zero135 : aZero T0 135 = some (.agg ⟨[.int .i64 0, .int .i64 0]⟩) := by kernel_rfl
theorem agg135 : isAggD Tryd.t134.desc = true := by kernel_rfl
theorem field135_0 (b o : Nat) : aField T0 135 (.pointer (some ⟨b, o, none⟩)) 0 = some (.pointer (some ⟨b, o, none⟩)) := by rfl
theorem field135_1 (b o : Nat) : aField T0 135 (.pointer (some ⟨b, o, none⟩)) 1 = some (.pointer (some ⟨b, o + 1, none⟩)) := by rfl
theorem und148 : T0.und.get 148 = some (.array 64 5) := by kernel_rfl
theorem und156 : T0.und.get 156 = some (.int .u32) := by kernel_rfl
theorem und160 : T0.und.get 160 = some (.pointer 5) := by kernel_rfl
theorem fun10 : T0.funcs.get 10 = some Tryd.f10 := by kernel_rfl
theorem fun13 : T0.funcs.get 13 = some Tryd.f13 := by kernel_rfl
theorem fun16 : T0.funcs.get 16 = some Tryd.f16 := by kernel_rfl
theorem fun17 : T0.funcs.get 17 = some Tryd.f17 := by kernel_rfl
theorem fun19 : T0.funcs.get 19 = some Tryd.f19 := by kernel_rfl
theorem fun21 : T0.funcs.get 21 = some Tryd.f21 := by kernel_rfl
theorem fun22 : T0.funcs.get 22 = some Tryd.f22 := by kernel_rfl
theorem fun23 : T0.funcs.get 23 = some Tryd.f23 := by kernel_rfl
theorem fun33 : T0.funcs.get 33 = some Tryd.f33 := by kernel_rfl
theorem fun34 : T0.funcs.get 34 = some Tryd.f34 := by kernel_rfl
theorem fun53 : T0.funcs.get 53 = some Tryd.f53 := by kernel_rfl
theorem fun54 : T0.funcs.get 54 = some Tryd.f54 := by kernel_rfl
theorem fun55 : T0.funcs.get 55 = some Tryd.f55 := by kernel_rfl
theorem fun56 : T0.funcs.get 56 = some Tryd.f56 := by kernel_rfl
theorem fun57 : T0.funcs.get 57 = some Tryd.f57 := by kernel_rfl
theorem fun58 : T0.funcs.get 58 = some Tryd.f58 := by kernel_rfl
theorem fun60 : T0.funcs.get 60 = some Tryd.f60 := by kernel_rfl
theorem fun61 : T0.funcs.get 61 = some Tryd.f61 := by kernel_rfl
theorem fun62 : T0.funcs.get 62 = some Tryd.f62 := by kernel_rfl
theorem fun63 : T0.funcs.get 63 = some Tryd.f63 := by kernel_rfl
theorem fun64 : T0.funcs.get 64 = some Tryd.f64 := by kernel_rfl
theorem fun68 : T0.funcs.get 68 = some Tryd.f68 := by kernel_rfl
theorem fun75 : T0.funcs.get 75 = some Tryd.f75 := by kernel_rfl
theorem fun77 : T0.funcs.get 77 = some Tryd.f77 := by kernel_rfl
theorem fun78 : T0.funcs.get 78 = some Tryd.f78 := by kernel_rfl
theorem fun79 : T0.funcs.get 79 = some Tryd.f79 := by kernel_rfl
theorem fun80 : T0.funcs.get 80 = some Tryd.f80 := by kernel_rfl
theorem fun81 : T0.funcs.get 81 = some Tryd.f81 := by kernel_rfl
theorem fun82 : T0.funcs.get 82 = some Tryd.f82 := by kernel_rfl
theorem fun86 : T0.funcs.get 86 = some Tryd.f86 := by kernel_rfl
theorem fun87 : T0.funcs.get 87 = some Tryd.f87 := by kernel_rfl
theorem fun88 : T0.funcs.get 88 = some Tryd.f88 := by kernel_rfl
theorem fun89 : T0.funcs.get 89 = some Tryd.f89 := by kernel_rfl
theorem fun90 : T0.funcs.get 90 = some Tryd.f90 := by kernel_rfl
theorem fun92 : T0.funcs.get 92 = some Tryd.f92 := by kernel_rfl
theorem fun93 : T0.funcs.get 93 = some Tryd.f93 := by kernel_rfl
theorem fun94 : T0.funcs.get 94 = some Tryd.f94 := by kernel_rfl
theorem fun95 : T0.funcs.get 95 = some Tryd.f95 := by kernel_rfl
theorem conv_3_56 (W : AW) (k : IntKind) (n : Int) : aConv T0 W 3 56 (.int k n) = some (.int .u64 (IntKind.u64.wrap n)) := by kernel_rfl
theorem conv_5_3 (W : AW) (k : IntKind) (n : Int) : aConv T0 W 5 3 (.int k n) = some (.int .i64 (IntKind.i64.wrap n)) := by kernel_rfl
theorem conv_56_3 (W : AW) (k : IntKind) (n : Int) : aConv T0 W 56 3 (.int k n) = some (.int .i64 (IntKind.i64.wrap n)) := by kernel_rfl
theorem conv_95_3 (W : AW) (k : IntKind) (n : Int) : aConv T0 W 95 3 (.int k n) = some (.int .i64 (IntKind.i64.wrap n)) := by kernel_rfl
end Go.Proofs.YtdpnplanohgecaaDoor

open Go Go.Eng
namespace Go.Proofs.YtdpnplanohgecaaDoor
attribute [local congr] undef_congr WpK.congr WpS.congr WpL.congr WpC.congr WpF.congr gotS.congr callS.congr nextS.congr wantS.congr condS.congr
attribute [local irreducible] WpK
attribute [local simp] WpDr_nil WpDr_cons atS_some dwantS_true dwantS_false kindS_light kindS_float kindS_heavy lightS_value floatS_some heavyS_value heavyS_skip heavyS_enter dcallS_some doneS_eq
 isLight isFloat isPlain dLook testBit_dec dChain dLights_nil dLights_skip dLights_one dLight_nil dLight_cons dFreshes_nil dFreshes_one oneF_none oneF_some dFresh_nil dFresh_cons oneL_some oneW_true oneW_false sameV_value dPut dMay valEq arrEq listEq List.getElem?_cons Tr.get_nil dEnd
attribute [local simp] WpS_nil WpS_cons isDefer undef_false wantS_true wantS_false nextS_value nextS_skip nextS_enter callS_some gotS_some aWanted aOp aEvalF aEval opMove opAssign opPick aVal flat flat1 AAct.put opBinOp opConvert opIndex Tr.get_set Tr.get_lay aBin aResults tupled
 aCall aVals aCallB blt_dec ble_dec beq_dec aBinI_add aBinI_sub aBinI_lss aBinI_leq aBinI_gtr aBinI_geq aBinI_eql aBinI_neq index_str len_str len_slice Nat.beq_refl Nat.beq_refl
 opBox opLoad opFieldAddr opIndexAddr acells aAddr opExtract aExtract opUnOp opAlloc opStore opMakeInterface opNilCheck opBuild aParts opBuildSlice aValW
attribute [local simp] und2 und3 und4 und5 und9 und12 field13_0 field13_1 und21 und22 field23_0 field23_1 field24_0 field24_1 field25_0 field25_1 und28 und31 field34_0 field34_1 field34_2 field35_0 field35_1 field35_2 und46 field50_0 field50_1 field50_2 und55 und56 und58 und61 und62 und73 und75 und90 und94 und95 und96 field97_0 field97_1 field97_2 field97_3 field97_4 field97_5 field97_6 field98_0 field98_1 field98_2 field98_3 field98_4 field98_5 field98_6 und99 und106 field107_0 field107_1 field108_0 field108_1 und119 und122 field124_0 field124_1 field124_2 field125_0 field125_1 field125_2 field131_0 field131_1 field132_0 field132_1 und133 field134_0 field134_1 field135_0 field135_1 und148 und156 und160
set_option maxHeartbeats 4000000
set_option linter.unusedSimpArgs false
set_option linter.unusedVariables false
@[simp] theorem nilck (a : Addr) : nilChecked T0 (.pointer (some a)) = true := rfl
@[simp] theorem aUn_not (b : Bool) : aUn .not (.bool b) = some (.bool (!b)) := by cases b <;> rfl
theorem load_of {W : AW} {t : TypeId} {d : TypeDesc} {b o : Nat} {v : Value} (hd : T0.und.get t = some d) (ha : isAggD d = false) (h : W.Has b o v) : aLoadVar T0 W t b o = some v := by
 rw [loadVar_cell hd ha]; exact h.2
theorem tabs_name : ∀ t ∈ T0.tabs, t.name = 0 := fun t h => by
 have h : t ∈ [_] := h
 rw [List.mem_singleton] at h; rw [h]
theorem tabs_ext {W W' : AW} (h : tabsIn T0 T0.tabs W = true) (h0 : 0 < W.next) (he : Ext W W') : tabsIn T0 T0.tabs W' = true := tabsIn_only h (fun t ht => he.2 t.name (by rw [tabs_name t ht]; exact h0) (fun x => x))
theorem tabs_only {W W' : AW} {K : Nat -> Prop} (h : tabsIn T0 T0.tabs W = true) (h0 : 0 < W.next) (he : Only K W W') (hk : ¬ K 0) : tabsIn T0 T0.tabs W' = true := tabsIn_only h (fun t ht => he.2 t.name (by rw [tabs_name t ht]; exact h0) (by rw [tabs_name t ht]; exact hk))
def memb (P s : Nat) : List Int := ((List.range P).filter (s.testBit ·)).map Int.ofNat
theorem memb_succ (P s : Nat) : memb (P + 1) s = memb P s ++ (if s.testBit P then [(P : Int)] else []) := by
 simp only [memb, List.range_succ, List.filter_append, List.map_append]
 cases h : s.testBit P <;> simp only [List.filter_cons, h, List.filter_nil] <;> rfl
theorem memb_len (P s : Nat) : (memb P s).length <= P := by
 simp only [memb, List.length_map]
 exact Nat.le_trans (List.length_filter_le _ _) (by simp)
theorem testBit_and1 (s p : Nat) : decide (((s >>> p &&& 1 : Nat) : Int) = 1) = s.testBit p := by
 rw [Nat.testBit, Bool.eq_iff_iff, Nat.and_comm]
 simp only [decide_eq_true_eq, bne_iff_ne, ne_eq]
 have : 1 &&& s >>> p = (s >>> p) % 2 := Nat.one_and_eq_mod_two _
 rw [this]; omega
theorem has_wp (s p : Nat) (hs : s < 18446744073709551616) (hp : p <= 64) (W : AW) : WpF T0 60 [.int .u64 s, .int .i64 p] W (fun v W' => W' = W /\ v = .bool (s.testBit p)) := by
 refine wpF fun60 rfl ?_
 have h1 := aBinI_shr .u64 .i64 s p hp
 have hle : s >>> p < 18446744073709551616 := by rw [Nat.shiftRight_eq_div_pow]; exact Nat.lt_of_le_of_lt (Nat.div_le_self _ _) hs
 have h3 := testBit_and1 s p
 generalize s >>> p = q at h1 hle h3
 have h2 : aBinI .and .u64 (q : Int) .u64 1 = some (.int .u64 ((q &&& 1 : Nat) : Int)) := aBinI_and .u64 q 1 hle (by decide)
 generalize q &&& 1 = r at h2 h3
 try simp only [zzA]
 refine wpK_reg (fun R hR => by simp []; exact hR) ?_
 try simp only [zzA]
 refine wpK_reg (fun R hR => by simp [h1, h2, h3]; exact hR) ?_
 exact wpK_ret ⟨.inr rfl, rfl, [.bool (s.testBit p)], by simp, rfl, rfl⟩
theorem one_wp (p : Nat) (hp : p < 64) (W : AW) : WpF T0 68 [.int .i64 p] W (fun v W' => W' = W /\ v = .int .u64 ((1 <<< p : Nat) : Int)) := by
 refine wpF fun68 rfl ?_
 have h1 : aBinI .shl .u64 1 .i64 (p : Int) = some (.int .u64 ((1 <<< p : Nat) : Int)) := aBinI_shl .u64 .i64 1 p (by show p <= 64; omega) (by
  rw [Nat.one_mul]; show 2 ^ p < 2 ^ 64; exact Nat.pow_lt_pow_right (by omega) hp)
 generalize 1 <<< p = r at h1
 try simp only [zzA]
 refine wpK_reg (fun R hR => by simp []; exact hR) ?_
 try simp only [zzA]
 refine wpK_reg (fun R hR => by simp [h1]; exact hR) ?_
 exact wpK_ret ⟨.inr rfl, rfl, [.int .u64 (r : Int)], by simp, rfl, rfl⟩
theorem u64_nat {n : Nat} (h : n < 18446744073709551616) : IntKind.u64.wrap (n : Int) = n := wrap_nat .u64 n h
theorem below_wp (p : Nat) (hp : p < 64) (W : AW) : WpF T0 75 [.int .i64 p] W (fun v W' => W' = W /\ v = .int .u64 ((2 ^ p - 1 : Nat) : Int)) := by
 refine wpF fun75 rfl ?_
 have hlt : 2 ^ p < 2 ^ 64 := Nat.pow_lt_pow_right (by omega) hp
 have h0 := Nat.two_pow_pos p
 have h1 : aBinI .shl .u64 1 .i64 (p : Int) = some (.int .u64 ((2 ^ p : Nat) : Int)) := by
  have := aBinI_shl .u64 .i64 1 p (by show p <= 64; omega) (by rw [Nat.one_mul]; exact hlt)
  rw [Nat.shiftLeft_eq, Nat.one_mul] at this
  exact this
 generalize 2 ^ p = r at h1 hlt h0
 have h2 : IntKind.u64.wrap ((r : Int) - 1) = ((r - 1 : Nat) : Int) := by
  rw [show ((r : Int) - 1) = ((r - 1 : Nat) : Int) from by omega]; exact u64_nat (by have : r < 18446744073709551616 := hlt; omega)
 try simp only [zzA]
 refine wpK_reg (fun R hR => by simp []; exact hR) ?_
 try simp only [zzA]
 refine wpK_reg (fun R hR => by simp [h1, h2]; exact hR) ?_
 exact wpK_ret ⟨.inr rfl, rfl, [.int .u64 ((r - 1 : Nat) : Int)], by simp, rfl, rfl⟩
def tabN : List Nat := [0, 1, 56, 2, 57, 49, 28, 3, 61, 58, 42, 50, 38, 29, 17, 4, 62, 47, 59, 36, 45, 43, 51, 22, 53, 39, 33, 30, 24, 18, 12, 5, 63, 55, 48, 27, 60, 41, 37, 16, 46, 35, 44, 21, 52, 32, 23, 11, 54, 26, 40, 15, 34, 20, 31, 10, 25, 14, 19, 9, 13, 8, 7, 6]
theorem ix148 (i : Nat) (hi : i < 64) (k : IntKind) : aIndexAddr T0 148 (.pointer (some ⟨0, 0, none⟩)) (.int k (i : Nat)) = some (.pointer (some ⟨0, i, none⟩)) := by
 show aIndexAddr T0 148 (.pointer (some ⟨0, 0, none⟩)) (.int k (Int.ofNat i)) = _
 simp only [aIndexAddr, und148, sz5, blt_dec, hi, decide_true, Nat.mul_one, Nat.zero_add]
theorem glob0 : T0.globs.get 0 = some () := by kernel_rfl
theorem tbl_load {W : AW} (h : tabsIn T0 T0.tabs W = true) (i : Nat) (hi : i < 64) : aLoadVar T0 W 5 0 i = some (.int .u8 ((tabN.getD i 0 : Nat) : Int)) := by
 have h : tabsIn T0 [⟨0, tabN.map fun n : Nat => Value.int .u8 (n : Int)⟩] W = true := h
 simp only [tabsIn, glob0] at h
 split at h
 case h_2 => cases h
 rename_i hu ht
 have hlen : (tabN.map fun n : Nat => Value.int .u8 (n : Int)).length = 64 := by decide
 have := tabIn_cell ht i (by show i < (tabN.map _).length; omega)
 rw [loadVar_cell und5 rfl]
 rw [this]
 simp only [List.getElem_map]
 rw [List.getD_eq_getElem?_getD, List.getElem?_eq_getElem (show i < tabN.length by simpa using (show i < (tabN.map fun n : Nat => Value.int .u8 (n : Int)).length by omega))]
 rfl
theorem low_ex {x : Nat} (h : x ≠ 0) : ∃ k, x.testBit k = true /\ ∀ j, j < k -> x.testBit j = false := by
 have hx : ∃ k, x.testBit k = true := by
  apply Classical.byContradiction
  intro hn
  apply h
  apply Nat.eq_of_testBit_eq
  intro i
  rw [Nat.zero_testBit]
  cases hb : x.testBit i with
  | false => rfl
  | true => exact absurd ⟨i, hb⟩ hn
 obtain ⟨k, hk⟩ := hx
 induction k using Nat.strongRecOn with
 | _ k ih =>
  by_cases hj : ∃ j, j < k /\ x.testBit j = true
  ·obtain ⟨j, h1, h2⟩ := hj
   exact ih j h1 h2
  ·refine ⟨k, hk, fun j hjk => ?_⟩
   cases hb : x.testBit j with
   | false => rfl
   | true => exact absurd ⟨j, hjk, hb⟩ hj
theorem low_bits {x k : Nat} (h1 : x.testBit k = true) (h2 : ∀ j, j < k -> x.testBit j = false) : x = 2 ^ (k + 1) * (x / 2 ^ (k + 1)) + 2 ^ k := by
 have : x % 2 ^ (k + 1) = 2 ^ k := by
  apply Nat.eq_of_testBit_eq
  intro i
  rw [Nat.testBit_mod_two_pow, Nat.testBit_two_pow]
  by_cases e : i = k
  ·subst e; simp [-testBit_dec, h1]
  ·by_cases hlt : i < k
   ·rw [h2 i hlt, decide_eq_false (show ¬ k = i by omega), Bool.and_false]
   ·rw [decide_eq_false (show ¬ i < k + 1 by omega), decide_eq_false (show ¬ k = i by omega), Bool.false_and]
 have := Nat.div_add_mod x (2 ^ (k + 1))
 omega
theorem pred_bits {x k : Nat} (h1 : x.testBit k = true) (h2 : ∀ j, j < k -> x.testBit j = false) (i : Nat) : (x - 1).testBit i = if i < k then true else if i = k then false else x.testBit i := by
 have hx := low_bits h1 h2
 have hp : 0 < 2 ^ k := Nat.two_pow_pos k
 have hp1 : 2 ^ (k + 1) = 2 * 2 ^ k := by rw [Nat.pow_succ]; omega
 have e1 : x - 1 = 2 ^ (k + 1) * (x / 2 ^ (k + 1)) + (2 ^ k - 1) := by omega
 rw [e1, Nat.testBit_two_pow_mul_add _ (by omega), Nat.testBit_two_pow_sub_one]
 by_cases hlt : i < k
 ·rw [if_pos (by omega), if_pos hlt, decide_eq_true hlt]
 ·rw [if_neg hlt]
  by_cases e : i = k
  ·rw [if_pos (by omega), if_pos e, decide_eq_false (by omega)]
  ·rw [if_neg (by omega), if_neg e]
   have : x.testBit i = (2 ^ (k + 1) * (x / 2 ^ (k + 1)) + 2 ^ k).testBit i := by rw [<- hx]
   rw [this, Nat.testBit_two_pow_mul_add _ (by omega), if_neg (by omega)]
theorem bit_lt {x k n : Nat} (hx : x < 2 ^ n) (h1 : x.testBit k = true) : k < n := by
 by_cases hk : k < n
 ·exact hk
 ·have : x.testBit k = false := Nat.testBit_lt_two_pow (Nat.lt_of_lt_of_le hx (Nat.pow_le_pow_right (by omega) (by omega)))
  rw [this] at h1; cases h1
theorem low_and {x k : Nat} (hx : x < 18446744073709551616) (h1 : x.testBit k = true) (h2 : ∀ j, j < k -> x.testBit j = false) : x &&& (18446744073709551616 - x) = 2 ^ k := by
 have hx0 : 0 < x := Nat.pos_of_ne_zero (fun e => by subst e; simp [-testBit_dec] at h1)
 have hk : k < 64 := bit_lt hx h1
 apply Nat.eq_of_testBit_eq
 intro i
 rw [Nat.testBit_and, show 18446744073709551616 - x = 2 ^ 64 - ((x - 1) + 1) from by omega, Nat.testBit_two_pow_sub_succ (by show x - 1 < 18446744073709551616; omega), pred_bits h1 h2, Nat.testBit_two_pow]
 by_cases hlt : i < k
 ·rw [if_pos hlt, h2 i hlt, decide_eq_false (show ¬ k = i by omega), Bool.false_and]
 ·rw [if_neg hlt]
  by_cases e : i = k
  ·rw [if_pos e, e, h1, decide_eq_true hk, decide_eq_true rfl]; rfl
  ·rw [if_neg e, decide_eq_false (show ¬ k = i by omega)]
   cases x.testBit i <;> simp
theorem brujin : ∀ k, k < 64 -> tabN.getD ((2 ^ k * 285870213051353865 % 18446744073709551616) >>> 58) 0 = k /\ (2 ^ k * 285870213051353865 % 18446744073709551616) >>> 58 < 64 := by decide +kernel
theorem neg_u64 {x : Nat} (h0 : 0 < x) (hx : x < 18446744073709551616) : aUn .neg (.int .u64 (x : Nat)) = some (.int .u64 ((18446744073709551616 - x : Nat) : Int)) := by
 obtain ⟨n, hn⟩ : ∃ n, n = 18446744073709551616 - x := ⟨_, rfl⟩
 rw [<- hn]
 have hw : IntKind.u64.wrap (0 - (x : Int)) = (n : Int) := by rw [IntKind.wrap_u64]; omega
 clear hn
 generalize hz : (0 - (x : Int)) = z at hw
 have hu : Op.unary .neg (.int .u64 (x : Nat)) = Op.intArith .sub .u64 0 (x : Nat) := rfl
 simp only [aUn, hu, Op.intArith, aPure, pure, hz, hw, flat1]
section
attribute [local irreducible] aBinI
theorem tz_wp {W : AW} (hT : tabsIn T0 T0.tabs W = true) {x k : Nat} (hx : x < 18446744073709551616) (h1 : x.testBit k = true) (h2 : ∀ j, j < k -> x.testBit j = false) : WpF T0 89 [.int .u64 (x : Nat)] W (fun v W' => W' = W /\ v = .int .i64 (k : Nat)) := by
 have hx0 : 0 < x := Nat.pos_of_ne_zero (fun e => by subst e; simp [-testBit_dec] at h1)
 have hk : k < 64 := bit_lt hx h1
 have hneg := neg_u64 hx0 hx
 have hand := aBinI_and .u64 x (18446744073709551616 - x) hx (by show 18446744073709551616 - x < 18446744073709551616; omega)
 rw [low_and hx h1 h2] at hand
 obtain ⟨hb1, hb2⟩ := brujin k hk
 have hmul : aBinI .mul .u64 ((2 ^ k : Nat) : Int) .u64 285870213051353865 = some (.int .u64 ((2 ^ k * 285870213051353865 % 18446744073709551616 : Nat) : Int)) := by
  have hw : ∀ q : Nat, IntKind.u64.wrap ((q : Int) * 285870213051353865) = ((q * 285870213051353865 % 18446744073709551616 : Nat) : Int) := fun q => by rw [IntKind.wrap_u64]; omega
  rw [aBinI_mul, hw]
 have hsh : aBinI .shr .u64 ((2 ^ k * 285870213051353865 % 18446744073709551616 : Nat) : Int) .u64 58 = some (.int .u64 (((2 ^ k * 285870213051353865 % 18446744073709551616) >>> 58 : Nat) : Int)) := aBinI_shr .u64 .u64 _ 58 (by decide)
 generalize 2 ^ k = pk at hand hmul hsh hb1 hb2
 generalize pk * 285870213051353865 % 18446744073709551616 = mm at hmul hsh hb1 hb2
 generalize mm >>> 58 = ii at hsh hb1 hb2
 have hld := tbl_load hT ii hb2
 rw [hb1] at hld
 have hixx := ix148 ii hb2 .u64
 generalize hxn : 18446744073709551616 - x = xn at hneg hand
 have hwk : IntKind.i64.wrap (k : Int) = k := IntWalk.i64_in _ (by omega)
 refine wpF fun89 rfl ?_
 try simp only [zzA]
 refine wpK_reg (fun R hR => by simp []; exact hR) ?_
 try simp only [zzA]
 refine wpK_reg (fun R hR => by simp []; exact hR) ?_
 refine wpK_onF (by simp; omega) ?_
 have haA : aBin T0 .and 95 (.tmp 5) (.tmp 7) (.int .u64 (x : Nat)) (.int .u64 (xn : Nat)) = some (.int .u64 (pk : Nat)) := hand
 have haM : aBin T0 .mul 95 (.tmp 8) (.const (.int .u64 285870213051353865)) (.int .u64 (pk : Nat)) (.int .u64 285870213051353865) = some (.int .u64 (mm : Nat)) := hmul
 have haS : aBin T0 .shr 95 (.tmp 9) (.const (.int .u64 58)) (.int .u64 (mm : Nat)) (.int .u64 58) = some (.int .u64 (ii : Nat)) := hsh
 clear hand hmul hsh
 try simp only [zzA]
 refine wpK_regc (J := fun A' W' => W' = W /\ A'.defers = [] /\ A'.tmps.get 2 = some (.int .i64 (k : Nat))) (fun R hR => ?_) ?_
 ·refine wpS_step (v := .int .u64 (x : Nat)) rfl rfl (by simp) rfl ?_
  refine wpS_step (v := .int .u64 (x : Nat)) rfl rfl (by simp) rfl ?_
  refine wpS_step (v := .int .u64 (xn : Nat)) rfl rfl (by simp [hneg]) rfl ?_
  refine wpS_step (v := .int .u64 (pk : Nat)) rfl rfl (aOp_bin rfl (by simp) (by simp) haA) rfl ?_
  refine wpS_step (v := .int .u64 (mm : Nat)) rfl rfl (aOp_bin rfl (by simp) rfl haM) rfl ?_
  refine wpS_step (v := .int .u64 (ii : Nat)) rfl rfl (aOp_bin rfl (by simp) rfl haS) rfl ?_
  refine wpS_step (v := .pointer (some ⟨0, ii, none⟩)) rfl rfl (aOp_ix rfl (aEvalF_glob glob0) (by simp) hixx) rfl ?_
  clear haA haM haS hixx
  simp [hld, conv_5_3, hwk]
  apply hR
  exact ⟨rfl, rfl, by simp⟩
 rintro ⟨tm, n, ds⟩ W' ⟨rfl, hd, h2⟩
 simp only at hd h2
 subst hd
 exact wpK_ret ⟨.inr rfl, rfl, [.int .i64 (k : Nat)], by simp [h2], rfl, rfl⟩
end
theorem first_wp {W : AW} (hT : tabsIn T0 T0.tabs W = true) {x k : Nat} (hx : x < 18446744073709551616) (h1 : x.testBit k = true) (h2 : ∀ j, j < k -> x.testBit j = false) : WpF T0 81 [.int .u64 (x : Nat)] W (fun v W' => W' = W /\ v = .int .i64 (k : Nat)) := by
 refine wpF fun81 rfl ?_
 try simp only [zzA]
 refine wpK_reg (fun R hR => by simp []; exact hR) ?_
 try simp only [zzA]
 refine wpK_reg (fun R hR => by
   simp [aEnter, fun89, zzC, aCallV]; rw [zzD]
   refine (tz_wp hT hx h1 h2).mono ?_
   rintro _ W9 ⟨e9, rfl⟩; subst W9
   simp []; exact hR) ?_
 exact wpK_ret ⟨.inr rfl, rfl, [.int .i64 (k : Nat)], by simp, rfl, rfl⟩
end Go.Proofs.YtdpnplanohgecaaDoor

open Go Go.Eng
namespace Go.Proofs.YtdpnplanohgecaaDoor
attribute [local congr] undef_congr WpK.congr WpS.congr WpL.congr WpC.congr WpF.congr gotS.congr callS.congr nextS.congr wantS.congr condS.congr
attribute [local irreducible] WpK
attribute [local simp] WpDr_nil WpDr_cons atS_some dwantS_true dwantS_false kindS_light kindS_float kindS_heavy lightS_value floatS_some heavyS_value heavyS_skip heavyS_enter dcallS_some doneS_eq
 isLight isFloat isPlain dLook testBit_dec dChain dLights_nil dLights_skip dLights_one dLight_nil dLight_cons dFreshes_nil dFreshes_one oneF_none oneF_some dFresh_nil dFresh_cons oneL_some oneW_true oneW_false sameV_value dPut dMay valEq arrEq listEq List.getElem?_cons Tr.get_nil dEnd
attribute [local simp] WpS_nil WpS_cons isDefer undef_false wantS_true wantS_false nextS_value nextS_skip nextS_enter callS_some gotS_some aWanted aOp aEvalF aEval opMove opAssign opPick aVal flat flat1 AAct.put opBinOp opConvert opIndex Tr.get_set Tr.get_lay aBin aResults tupled
 aCall aVals aCallB blt_dec ble_dec beq_dec aBinI_add aBinI_sub aBinI_lss aBinI_leq aBinI_gtr aBinI_geq aBinI_eql aBinI_neq index_str len_str len_slice Nat.beq_refl Nat.beq_refl
 opBox opLoad opFieldAddr opIndexAddr acells aAddr opExtract aExtract opUnOp opAlloc opStore opMakeInterface opNilCheck opBuild aParts opBuildSlice aValW
attribute [local simp] und2 und3 und4 und5 und9 und12 field13_0 field13_1 und21 und22 field23_0 field23_1 field24_0 field24_1 field25_0 field25_1 und28 und31 field34_0 field34_1 field34_2 field35_0 field35_1 field35_2 und46 field50_0 field50_1 field50_2 und55 und56 und58 und61 und62 und73 und75 und90 und94 und95 und96 field97_0 field97_1 field97_2 field97_3 field97_4 field97_5 field97_6 field98_0 field98_1 field98_2 field98_3 field98_4 field98_5 field98_6 und99 und106 field107_0 field107_1 field108_0 field108_1 und119 und122 field124_0 field124_1 field124_2 field125_0 field125_1 field125_2 field131_0 field131_1 field132_0 field132_1 und133 field134_0 field134_1 field135_0 field135_1 und148 und156 und160
set_option maxHeartbeats 4000000
set_option linter.unusedSimpArgs false
set_option linter.unusedVariables false
theorem bs31 (W : AW) (n : Int) : aBuildSlice T0 W 31 1 [(0, .int .i64 n)] = some (.slice (some ⟨W.next, 0, none⟩) 1 2, W.newCells 3 [.int .i64 n]) := by kernel_rfl
def intsV (l : List Int) : List Value := l.map (Value.int .i64)
theorem wpK_range2 {T : Tabs} {f₀ : FuncId} {A : AAct} {W : AW} {Q : AExit -> AAct -> AW -> Prop} {id : Nat} {b : Code} {g : Operand} {ps : Array Tmp} {asn bd : Code} {f : FuncId} {first cap : Array Value} {fn : Func}
  (hg : aEval T A.tmps g = some (.func (.func f) first cap)) (hf : T.funcs.get f = some fn)
  (h : ∀ W5 : AW, W5.next = W.next + 2 -> (∀ b, b < W.next -> W5.blocks.get b = W.blocks.get b) -> W5.blocks.get W.next = some ⟨.deferred (some []), []⟩ -> W5.blocks.get (W.next + 1) = some ⟨.loop .ready none f₀ A.tmps A.n ps asn bd W.next, []⟩ ->
   WpF T f (first.toList ++ .func (.yield (W.next + 1)) #[] #[] :: cap.toList) W5 (fun _ W₂ =>
   ∃ st p fn' t' n' ps' as' bd' df', W₂.blocks.get (W.next + 1) = some ⟨.loop st p fn' t' n' ps' as' bd' df', []⟩ /\ st ≠ .busy /\
    goOn (leaves id (behind Q fun A' W' => WpK T ⟨f₀, none⟩ b A' W' Q)) { A with defers := { target := .collected W.next, args := #[] } :: A.defers } (W₂.setObj (W.next + 1) (.loop .exhausted p fn' t' n' ps' as' bd' df')) p)) :
  WpK T ⟨f₀, none⟩ (.seq (.block id (.rangeFunc g ps asn bd)) b) A W Q := by
 try simp only [zzA]
 refine wpK_range hg hf (h _ rfl (fun b hb => ?_) ?_ ?_)
 ·simp only [AW.beforeLoop, AW.new, Tr.get_set]; rw [if_neg (by omega), if_neg (by omega)]
 ·simp only [AW.beforeLoop, AW.new, Tr.get_set]; rw [if_neg (by omega), if_true]
 ·simp only [AW.beforeLoop, AW.new, Tr.get_set]; rw [if_true]
theorem setObj_get (W : AW) (r : Nat) (o : AObj) (b : Nat) : (W.setObj r o).blocks.get b = if b = r then some ⟨o, []⟩ else W.blocks.get b := by
 simp only [AW.setObj, Tr.get_set]
theorem setObj_next (W : AW) (r : Nat) (o : AObj) : (W.setObj r o).next = W.next := rfl
theorem setObj_only (W : AW) (r : Nat) (o : AObj) : Only (fun b => b = r) W (W.setObj r o) := ⟨Nat.le_refl _, fun b _ hb => by rw [setObj_get, if_neg hb]⟩
def dropLow (x : Nat) : Nat := x &&& (x - 1)
theorem dropLow_bit {x k : Nat} (h1 : x.testBit k = true) (h2 : ∀ j, j < k -> x.testBit j = false) (i : Nat) : (dropLow x).testBit i = (x.testBit i && decide (i ≠ k)) := by
 rw [dropLow, Nat.testBit_and, pred_bits h1 h2]
 by_cases hlt : i < k
 ·rw [if_pos hlt, h2 i hlt]; rfl
 ·rw [if_neg hlt]
  by_cases e : i = k
  ·subst e; simp
  ·rw [if_neg e]; simp [-testBit_dec, e]
theorem dropLow_lt {x : Nat} (h : x ≠ 0) : dropLow x < x := by
 have := Nat.and_le_right (n := x) (m := x - 1)
 unfold dropLow; omega
theorem memb_empty : ∀ (P s : Nat), (∀ j, j < P -> s.testBit j = false) -> memb P s = []
 | 0, _, _ => by simp [memb]
 | P + 1, s, h => by rw [memb_succ, memb_empty P s (fun j hj => h j (by omega)), h P (by omega)]; rfl
theorem memb_low {x k : Nat} (h1 : x.testBit k = true) (h2 : ∀ j, j < k -> x.testBit j = false) : ∀ P, memb P x = (if k < P then [(k : Int)] else []) ++ memb P (dropLow x)
 | 0 => by simp [memb]
 | P + 1 => by
  rw [memb_succ, memb_succ, memb_low h1 h2 P, dropLow_bit h1 h2]
  by_cases e1 : P < k
  ·rw [h2 P e1]
   simp only [Bool.false_and, Bool.false_eq_true, if_false, List.append_nil, if_neg (show ¬ k < P by omega), if_neg (show ¬ k < P + 1 by omega)]
  ·by_cases e2 : P = k
   ·subst e2
    rw [h1, memb_empty P (dropLow x) (fun j hj => by rw [dropLow_bit h1 h2, h2 j hj]; rfl)]
    simp
   ·have : decide (P ≠ k) = true := by simp [e2]
    rw [this, Bool.and_true]
    simp only [if_pos (show k < P by omega), if_pos (show k < P + 1 by omega), List.append_assoc]
theorem places1_wp {l bx x : Nat} (C : Nat -> AW -> Prop) (hx : x < 18446744073709551616)
  (hC : ∀ left k W, C left W -> left < 18446744073709551616 -> left.testBit k = true -> (∀ j, j < k -> left.testBit j = false) -> tabsIn T0 T0.tabs W = true /\ ∃ st pd fn t n ps asn bd df kin t', W.blocks.get l = some ⟨.loop st pd fn t n ps asn bd df, kin⟩ /\ aSetAll t n ps.toList [.int .i64 (k : Nat)] = some t' /\
   WpR T0 l fn t' n asn bd W (fun v W' => v = .bool true /\ C (dropLow left) W'))
  {W : AW} (h0 : C x W) (hb : W.Has bx 0 (.int .u64 (x : Nat))) : WpF T0 86 [.func (.yield l) #[] #[], .pointer (some ⟨bx, 0, none⟩)] W (fun _ W' => C 0 W') := by
 have hl := load_of und96 rfl hb
 refine wpF fun86 rfl ?_
 try simp only [zzA]
 refine wpK_reg (fun R hR => by simp [hl]; exact hR) ?_
 try simp only [zzA]
 refine wpK_while1 (I := fun k A W' => A.n = 16 /\ A.defers = [] /\ A.tmps.get 0 = some (.func (.yield l) #[] #[]) /\ A.tmps.get 3 = some (.int .u64 (k : Nat)) /\ k < 18446744073709551616 /\ C k W')
  (J := fun A W' => A.defers = [] /\ C 0 W') (Rt := fun _ _ => False) (k := x) ?_ ?_ ?_ ?_
 ·exact ⟨rfl, rfl, by simp, by simp, hx, h0⟩
 ·rintro k ⟨tm, n, ds⟩ W3 ⟨hn, hd, h0, h3, hk, hCk⟩ Q' hJ hRt hI
  simp only at hn hd h0
  subst hn; subst hd
  simp only at h3
  by_cases hz : k = 0
  ·subst hz
   try simp only [zzA]
   refine wpK_reg (fun R hR => by simp [h3]; exact hR) ?_
   try simp only [zzA]
   first | refine wpK_onF (by simp []) ?_ | refine wpK_out (by simp []) ?_ | refine zzF (by simp []) ?_ | refine zzB (by simp []) (wpK_skip ?_) | refine zzB (by simp []) ?_
   exact hJ _ _ ⟨rfl, hCk⟩
  have hz' : ¬ (k : Int) = 0 := by omega
  try simp only [zzA]
  refine wpK_reg (fun R hR => by simp [h3, hz', hz]; exact hR) ?_
  try simp only [zzA]
  first | refine wpK_onT (by simp []) ?_ | refine wpK_outT (by simp []) ?_ | refine zzE (by simp []) ?_ | refine wpK_endT (by simp []) ?_
  obtain ⟨q, hq1, hq2⟩ := low_ex hz
  obtain ⟨hT, st, pd, fn, t', n', ps, asn, bd, df, kin, tt, hy1, hy2, hy3⟩ := hC k q W3 hCk hk hq1 hq2
  refine wpK_block ?_
  try simp only [zzA]
  refine wpK_x0 (fun R hR => by
   simp [h0, h3, aEnter, fun81, zzC, aCallV]; rw [zzD]
   refine (first_wp hT hk hq1 hq2).mono ?_
   rintro _ W9 ⟨e9, rfl⟩; subst W9
   simp [aEnter, hy1, hy2, aCallV, nextS_round]
   refine hy3.mono ?_
   rintro _ W4 ⟨rfl, hC4⟩
   simp; exact hR W4 hC4) ?_
  rintro W4 hC4
  try simp only [zzA]
  first | refine wpK_onF (by simp []) ?_ | refine wpK_out (by simp []) ?_ | refine zzF (by simp []) ?_ | refine zzB (by simp []) (wpK_skip ?_) | refine zzB (by simp []) ?_
  have w1 : IntKind.u64.wrap ((k : Int) - 1) = ((k - 1 : Nat) : Int) := by
   have : ((k : Int) - 1) = ((k - 1 : Nat) : Int) := by omega
   rw [this]; exact wrap_nat .u64 _ (by show k - 1 < 18446744073709551616; omega)
  have hand := aBinI_and .u64 k (k - 1) (by show k < 18446744073709551616; omega) (by show k - 1 < 18446744073709551616; omega)
  have hlt := dropLow_lt hz
  try simp only [zzA]
  refine wpK_reg1 (fun R hR => by simp [h3, w1, hand]; exact hR) ?_
  exact hI (dropLow k) _ _ hlt ⟨rfl, rfl, by simp [h0], by simp; rfl, by omega, hC4⟩
 ·rintro A' W' hf; exact hf.elim
 ·rintro A' W' ⟨h1, h2⟩
  exact ⟨.inl rfl, h1, [], by rfl, h2⟩
theorem places_wp {W : AW} (x : Nat) : WpF T0 77 [.int .u64 (x : Nat)] W (fun v W' => Ext W W' /\ v = .func (.func 86) ⟨[]⟩ ⟨[.pointer (some ⟨W.next, 0, none⟩)]⟩ /\ W'.Has W.next 0 (.int .u64 (x : Nat))) := by
 refine wpF fun77 rfl ?_
 try simp only [zzA]
 refine wpK_reg (fun R hR => by simp []; exact hR) ?_
 try simp only [zzA]
 refine wpK_reg (fun R hR => by simp [opMakeFunc]; exact hR) ?_
 exact wpK_ret ⟨.inr rfl, rfl, [.func (.func 86) ⟨[]⟩ ⟨[.pointer (some ⟨W.next, 0, none⟩)]⟩], by simp, .newCells _ _ _, rfl, (Var.new W 96 [.int .u64 (x : Nat)]).has rfl⟩
theorem list_wp {W : AW} {x : Nat} (hx : x < 1099511627776) (hT : tabsIn T0 T0.tabs W = true) (h0 : 0 < W.next) :
  WpF T0 58 [.int .u64 (x : Nat)] W (fun v W' => Ext W W' /\ GrowsN W' v (memb 40 x).length (intsV (memb 40 x)) 3 1 (fun b => W.next <= b)) := by
 refine wpFd fun58 rfl ?_
 obtain ⟨W1, hW1, hE1, hn1, hV1⟩ : ∃ W1, W1 = W.newCells 31 [.slice none 0 0] /\ Ext W W1 /\ W1.next = W.next + 1 /\ Var W1 W.next 31 [.slice none 0 0] := ⟨_, rfl, .newCells _ _ _, rfl, Var.new _ _ _⟩
 try simp only [zzA]
 refine wpK_reg (fun R hR => by simp []; exact hR) ?_
 try simp only [zzA]
 refine wpK_reg (fun R hR => by simp [zero31, <- hW1]; exact hR) ?_
 try simp only [zzA]
 refine wpK_x0 (fun R hR => by
   simp [aEnter, fun77, zzC, aCallV]; rw [zzD]
   refine (places_wp x).mono ?_
   rintro _ W2 ⟨hE2, rfl, hB2⟩
   simp []; exact hR W2 (And.intro hE2 hB2)) ?_
 rintro W2 ⟨hE2, hB2⟩
 refine wpK_keep (fun tm' => tm'.get 3 = some (.pointer (some ⟨W.next, 0, none⟩)) /\ tm'.get 6 = some (.func (.func 86) ⟨[]⟩ ⟨[.pointer (some ⟨W1.next, 0, none⟩)]⟩)) (by simp) ?_
 rintro tm ⟨h3, h6⟩
 have n2 := hE2.1
 refine wpK_range2 (f := 86) (first := ⟨[]⟩) (cap := ⟨[.pointer (some ⟨W1.next, 0, none⟩)]⟩) (by simp [h6]) fun86 (fun W5 hn5 hW5 hdf hlp => ?_)
 have hE25 : Ext W2 W5 := ⟨by omega, fun b hb _ => hW5 b hb⟩
 have hV5 := (hV1.ext hE2).ext hE25
 have hE5 : Ext W W5 := (hE1.trans hE2).trans hE25
 have hmw : (memb 40 x).length <= 40 := memb_len 40 x
 refine (places1_wp (l := W2.next + 1) (bx := W1.next) (x := x) (fun left W' => Ext W W' /\ W5.next <= W'.next /\ W'.blocks.get (W2.next + 1) = W5.blocks.get (W2.next + 1) /\ W'.blocks.get W2.next = W5.blocks.get W2.next /\ left < 1099511627776 /\
  ∃ v l0, memb 40 x = l0 ++ memb 40 left /\ Var W' W.next 31 [v] /\ GrowsN W' v l0.length (intsV l0) 3 1 (fun b => W5.next <= b)) (by omega) (fun left k W' hC hl hb1 hb2 => ?_) ⟨hE5, Nat.le_refl _, rfl, rfl, hx, _, [], rfl, hV5, .nil _ _ _ _⟩ (hB2.ext hE25)).mono ?_
 ·obtain ⟨c1, c2, c3, c4, c5, v, l0, c6, c7, c8⟩ := hC
  have hl := c3.trans hlp
  have hk40 : k < 40 := by
   apply Classical.byContradiction
   intro hk
   rw [Nat.testBit_lt_two_pow (Nat.lt_of_lt_of_le (show left < 2 ^ 40 from c5) (Nat.pow_le_pow_right (by omega) (by omega)))] at hb1
   cases hb1
  refine ⟨tabs_ext hT h0 c1, _, _, _, _, _, _, _, _, _, _, tm.set 7 (.int .i64 (k : Nat)), hl, rfl, ?_⟩
  refine wpR ?_
  try simp only [zzA]
  refine wpK_reg1 (fun R hR => by simp []; exact hR) ?_
  refine ⟨rfl, _, _, _, _, _, _, _, _, hl, ?_⟩
  generalize hbz : (AObj.loop LoopState.busy _ _ _ _ _ _ _ _) = bz
  obtain ⟨Wb, hWb, hOb, hnb⟩ : ∃ Wb, Wb = W'.setObj (W2.next + 1) bz /\ Only (fun b => b = W2.next + 1) W' Wb /\ Wb.next = W'.next := ⟨_, rfl, setObj_only _ _ _, rfl⟩
  rw [<- hWb]
  have hlb : Wb.blocks.get (W2.next + 1) = some ⟨bz, []⟩ := by rw [hWb, setObj_get, if_pos rfl]
  have c7b := c7.only hOb (by omega)
  have c8b := c8.only hOb (fun b _ hb e => by omega)
  have hl0 : l0.length <= 40 := by
   have := congrArg List.length c6
   rw [List.length_append] at this; omega
  obtain ⟨v', Wc, Wd, a1, a2, a3, a4, a5, a6, a7⟩ := Var.push (T := T0) (t := 31) (el := 3) (i := Tryd.t3) (it := Tryd.t31) (sz := 1) (by omega) und31 inf3 is3 z3 rfl inf31 is31 c8b c7b (o := 0) (by omega) (by simp) (u := [.int .i64 (k : Nat)]) rfl rfl (by rw [by3]; omega) (by omega)
  have a1 : aAppend T0 (Wb.newCells 3 [.int .i64 (k : Nat)]) [31, 31] [v, .slice (some ⟨Wb.next, 0, none⟩) 1 2] = some (v', Wc) := a1
  have hld := c7b.load1 (T := T0) und31 rfl (j := 0) (v := v) rfl
  refine wpK_block1 ?_
  try simp only [zzA]
  refine wpK_reg1 (fun R hR => by simp [h3, hld, bs31, a1, a2]; exact hR) ?_
  simp only [zzH]
  have hdl : Wd.blocks.get (W2.next + 1) = some ⟨bz, []⟩ := by rw [a7.2 _ (by omega) (by omega)]; exact hlb
  subst hbz
  refine ⟨_, _, _, _, _, _, _, _, _, hdl, rfl, ?_⟩
  have hOz := fun o => setObj_only Wd (W2.next + 1) o
  have hml := memb_low hb1 hb2 40
  rw [if_pos hk40] at hml
  refine ⟨⟨by rw [setObj_next]; have := c1.1; omega, fun b hb hk => ?_⟩, by rw [setObj_next]; omega, by rw [setObj_get, if_pos rfl]; exact hlp.symm, ?_, ?_, v', l0 ++ [(k : Int)], ?_, ?_, ?_⟩
  ·rw [setObj_get, if_neg (by omega), a7.2 b (by have := c1.1; omega) (by omega), hOb.2 b (by have := c1.1; omega) (by omega)]
   exact c1.2 b hb hk
  ·rw [setObj_get, if_neg (by omega), a7.2 _ (by omega) (by omega), hOb.2 _ (by omega) (by omega)]; exact c4
  ·have := dropLow_lt (x := left) (fun e => by subst e; simp at hb1)
   omega
  ·rw [c6, hml]; simp
  ·exact (by simpa using a5 : Var Wd W.next 31 [v']).only (hOz _) (by omega)
  ·have e1 : (l0 ++ [(k : Int)]).length = l0.length + 1 := by simp
   have e2 : intsV (l0 ++ [(k : Int)]) = intsV l0 ++ [.int .i64 (k : Nat)] := by simp [intsV]
   rw [e1, e2]
   exact (a6.only (K' := fun b => b = W2.next + 1) (hOz _) (fun b _ hb e => by omega)).mono (K' := fun b => W5.next <= b) (fun b hb => by omega)
 ·rintro _ W6 ⟨c1, c2, c3, c4, c5, v, l0, c6, c7, c8⟩
  have hl6 := c3.trans hlp
  rw [memb_empty 40 0 (fun j _ => by simp), List.append_nil] at c6
  subst c6
  refine ⟨_, _, _, _, _, _, _, _, _, hl6, (fun h => by cases h), ?_⟩
  show WpK T0 ⟨58, none⟩ _ _ _ _
  generalize hex : (AObj.loop LoopState.exhausted _ _ _ _ _ _ _ _) = ex
  obtain ⟨W7, hW7, hO7, hn7⟩ : ∃ W7, W7 = W6.setObj (W2.next + 1) ex /\ Only (fun b => b = W2.next + 1) W6 W7 /\ W7.next = W6.next := ⟨_, rfl, setObj_only _ _ _, rfl⟩
  rw [<- hW7]
  clear hW7 hex
  have c77 := c7.only hO7 (by omega)
  have hld := c77.load1 (T := T0) und31 rfl (j := 0) (v := v) rfl
  try simp only [zzA]
  refine wpK_reg (fun R hR => by simp [h3, hld]; exact hR) ?_
  have hdf7 : W7.blocks.get W2.next = some ⟨.deferred (some []), []⟩ := by rw [hO7.2 _ (by omega) (by omega), c4]; exact hdf
  refine wpK_ret ⟨.inr rfl, W7.setObj W2.next (.deferred none), ⟨W2.next, rfl, hdf7, rfl⟩, [v], by simp, ⟨by rw [setObj_next]; have := c1.1; omega, fun b hb hk => ?_⟩, ?_⟩
  ·rw [setObj_get, if_neg (by omega), hO7.2 b (by have := c1.1; omega) (by omega)]; exact c1.2 b hb hk
  ·exact ((c8.only hO7 (fun b _ hb e => by omega)).only (K' := fun b => b = W2.next) (setObj_only _ _ _) (fun b _ hb e => by omega)).mono (fun b hb => by omega)
end Go.Proofs.YtdpnplanohgecaaDoor
open Go Go.Eng
namespace Go.Proofs.YtdpnplanohgecaaDoor
open Go.ChangeShapes Go.WideShapes Go.ChangeAt Go.RowKit
section
variable {H : Type} {enc : TypeId × Value -> H} {P : Program} {w : World}
theorem add_block (a : Addr) (n : Nat) : (a.add n).block = a.block := by unfold Addr.add; split <;> rfl
theorem add_off (a : Addr) (n : Nat) : (a.add n).off = a.off + n := by unfold Addr.add; split <;> simp_all
end
theorem own : ownKnob Tryd.prog.godebug = none := by kernel_rfl
theorem laidOut : laidOutB Tryd.prog = true := by kernel_rfl
theorem T0_globs : ∀ g u, T0.globs.get g = some u -> g = 0 := fun g u h => by
 have h : (Tr.set Tr.nil 0 ()).get g = some u := h
 rw [Tr.get_set] at h
 split at h
 ·assumption
 ·rw [Tr.get_nil] at h; cases h
def tabL : List Int := [0, 1, 56, 2, 57, 49, 28, 3, 61, 58, 42, 50, 38, 29, 17, 4, 62, 47, 59, 36, 45, 43, 51, 22, 53, 39, 33, 30, 24, 18, 12, 5, 63, 55, 48, 27, 60, 41, 37, 16, 46, 35, 44, 21, 52, 32, 23, 11, 54, 26, 40, 15, 34, 20, 31, 10, 25, 14, 19, 9, 13, 8, 7, 6]
theorem tab_of_laid {W : World} (h : laidMet Tryd.prog [("math/bits.deBruijn64tab", Rows.laid_math_bits_deBruijn64tab)] W) : ∀ i (h : i < tabL.length), W.cell? ⟨0, i, none⟩ = some (.int .u8 tabL[i]) := by
 have hg : Tryd.prog.globalNamed "math/bits.deBruijn64tab" = some 0 := by kernel_rfl
 have ht := Lib.tabIs_of_head (P := Tryd.prog) (W := W) (k := .u8) (zs := tabL) (rest := []) (t := 148) (e := 5) (n := 64) hg (by kernel_rfl) Tryd.underlying148 Tryd.underlying5 (by kernel_rfl) (by kernel_rfl) h
 intro i hi
 have := ht.cell hg i hi
 rw [this, List.getD_eq_getElem?_getD, List.getElem?_eq_getElem hi]; rfl
theorem tab_cells {W : World} (h : ∀ i (h : i < tabL.length), W.cell? ⟨0, i, none⟩ = some (.int .u8 tabL[i])) : isCells W 0 = true /\ 0 < (embW W).next /\ tabsIn T0 T0.tabs (embW W) = true := by
 have h0 := h 0 (by decide)
 have hc := isCells_cell h0
 refine ⟨hc, isCells_lt hc, ?_⟩
 have key : tabIn ⟨0, tabL.map (Value.int .u8)⟩ (embW W) = true := by
  unfold isCells at hc
  split at hc
  case h_2 => cases hc
  rename_i c el fz ho
  unfold tabIn
  simp only [embW_get, ho, Option.map_some, embO]
  have hcell : ∀ i (hi : i < tabL.length), c[i]? = some (.int .u8 tabL[i]) := fun i hi => by
   have := h i hi
   simpa [World.cell?, ho] using this
  have hsz : tabL.length <= c.size := by
   have := (Array.getElem?_eq_some_iff.1 (hcell 63 (by decide))).1
   show 64 <= c.size; omega
  have htake : (Tr.nil.layO 0 (c.toList.map (absV W))).take 0 (tabL.map (Value.int .u8)).length = some (tabL.map (Value.int .u8)) := by
   refine take_get _ _ 0 _ rfl (fun j hj => ?_)
   have hj' : j < tabL.length := by simpa using hj
   rw [Nat.zero_add, Tr.get_layO _ _ _ _ (.inl (Tr.get_nil _)), if_pos (by simp; omega)]
   simp only [Nat.sub_zero, List.getElem?_map, Array.getElem?_toList, hcell j hj', Option.map_some, Option.getD_some, List.getElem?_eq_getElem hj']
   rfl
  rw [htake]
  simp only [ble_dec, List.length_map, hsz, decide_true]
  have hf : allB flat (tabL.map (Value.int .u8)) = true := by decide
  rw [hf]
  simp only
  have : ∀ l : List Int, listEq (l.map (Value.int .u8)) (l.map (Value.int .u8)) = true := fun l => by
   induction l with
   | nil => rfl
   | cons a l ih => simp only [List.map_cons]; exact listEq_cons (valEq_int _ _) ih
  exact this tabL
 show tabsIn T0 [⟨0, tabL.map (Value.int .u8)⟩] (embW W) = true
 simp only [tabsIn, key]
 rfl
noncomputable def laidWorld (os : Os) : World :=
 let w0 := World.holding Tryd.prog os ⟨#[], #[], []⟩
 { w0 with heap := w0.heap.modify 0 fun
   | .cells _ t frozen => .cells (tabL.map (Value.int .u8)).toArray t frozen
   | o => o }
theorem laid_met (os : Os) (args : Array Value) : laidMet Tryd.prog [("math/bits.deBruijn64tab", Rows.laid_math_bits_deBruijn64tab)] ((laidWorld os).forCall (fun _ _ => 0) ⟨#[], args, []⟩).memory :=
 laidMet_of_run' 8 (by kernel_rfl) (by kernel_rfl)
theorem globs_cells {W : World} (h : isCells W 0 = true) : ∀ g u, T0.globs.get g = some u -> isCells W g = true := fun g u hu => by
 rw [T0_globs g u hu]; exact h
end Go.Proofs.YtdpnplanohgecaaDoor

open Go Go.Eng
namespace Go.Proofs.YtdpnplanohgecaaDoor
attribute [local congr] undef_congr WpK.congr WpS.congr WpL.congr WpC.congr WpF.congr gotS.congr callS.congr nextS.congr wantS.congr condS.congr
attribute [local irreducible] WpK
attribute [local simp] WpDr_nil WpDr_cons atS_some dwantS_true dwantS_false kindS_light kindS_float kindS_heavy lightS_value floatS_some heavyS_value heavyS_skip heavyS_enter dcallS_some doneS_eq
 isLight isFloat isPlain dLook testBit_dec dChain dLights_nil dLights_skip dLights_one dLight_nil dLight_cons dFreshes_nil dFreshes_one oneF_none oneF_some dFresh_nil dFresh_cons oneL_some oneW_true oneW_false sameV_value dPut dMay valEq arrEq listEq List.getElem?_cons Tr.get_nil dEnd
attribute [local simp] WpS_nil WpS_cons isDefer undef_false wantS_true wantS_false nextS_value nextS_skip nextS_enter callS_some gotS_some aWanted aOp aEvalF aEval opMove opAssign opPick aVal flat flat1 AAct.put opBinOp opConvert opIndex Tr.get_set Tr.get_lay aBin aResults tupled
 aCall aVals aCallB blt_dec ble_dec beq_dec aBinI_add aBinI_sub aBinI_lss aBinI_leq aBinI_gtr aBinI_geq aBinI_eql aBinI_neq index_str len_str len_slice Nat.beq_refl Nat.beq_refl
 opBox opLoad opFieldAddr opIndexAddr acells aAddr opExtract aExtract opUnOp opAlloc opStore opMakeInterface opNilCheck opBuild aParts opBuildSlice aValW
attribute [local simp] und2 und3 und4 und5 und9 und12 field13_0 field13_1 und21 und22 field23_0 field23_1 field24_0 field24_1 field25_0 field25_1 und28 und31 field34_0 field34_1 field34_2 field35_0 field35_1 field35_2 und46 field50_0 field50_1 field50_2 und55 und56 und58 und61 und62 und73 und75 und90 und94 und95 und96 field97_0 field97_1 field97_2 field97_3 field97_4 field97_5 field97_6 field98_0 field98_1 field98_2 field98_3 field98_4 field98_5 field98_6 und99 und106 field107_0 field107_1 field108_0 field108_1 und119 und122 field124_0 field124_1 field124_2 field125_0 field125_1 field125_2 field131_0 field131_1 field132_0 field132_1 und133 field134_0 field134_1 field135_0 field135_1 und148 und156 und160
set_option maxHeartbeats 4000000
set_option linter.unusedSimpArgs false
set_option linter.unusedVariables false
theorem var_store1 {W : AW} {p : Nat} {el t : TypeId} {l : List Value} (h : Var W p el l) {i : TypeInfo} {v : Value} {o : Nat} (hi : T0.info.get t = some i) (hs : i.size = 1) (hv : acells v = [v]) (hv1 : Value.oneCell' v = true) (ho : o < l.length) :
  ∃ W', aStoreVar T0 W t p o v = some W' /\ W'.next = W.next /\ Only (fun b => b = p) W W' /\ Var W' p el (l.set o v) := by
 obtain ⟨W', h1, h2, h3, h4⟩ := h.store (T := T0) (t := t) (v := v) (o := o) hi (by rw [hv, hs]; rfl) (by rw [hv]; simp; omega) (by rw [hv]; simp only [allB, hv1])
 refine ⟨W', h1, h2, h3, ?_⟩
 rw [hv] at h4
 have e : l.take o ++ [v] ++ l.drop (o + [v].length) = l.set o v := by
  rw [List.set_eq_take_append_cons_drop, if_pos ho]; simp
 rw [e] at h4; exact h4
def pr (a b : Int) : Value := .agg ⟨[.int .i64 a, .int .i64 b]⟩
theorem keyEq_pr (a b c d : Int) : keyEq (pr a b) (pr c d) = (decide (a = c) && decide (b = d)) := by
 have h1 : ∀ x y : Int, key1Eq (.int .i64 x) (.int .i64 y) = decide (x = y) := fun x y => by
  cases x <;> cases y <;> simp [key1Eq] <;> omega
 simp only [pr, keyEq, keysEq, h1]
 cases decide (a = c) <;> cases decide (b = d) <;> rfl
theorem keyOk135 (a b : Int) : keyOk T0 135 (pr a b) = true := by kernel_rfl
theorem keyOk55 (a b : Int) : keyOk T0 55 (pr a b) = true := by kernel_rfl
theorem load55 {W : AW} {b p : Nat} {x y : Int} (h : ∀ j u, (encP (x, y))[j]? = some u -> W.Has b (p + j) u) : aLoadVar T0 W 55 b p = some (pr x y) :=
 load_cells (l := encP (x, y)) und55 rfl inf55 (by rw [is55]; rfl) (by show 0 < 2; omega) h
theorem ix55 (p o q : Nat) (hq : q < 2) : aIndexAddr T0 55 (.pointer (some ⟨p, o, none⟩)) (.int .i64 (q : Nat)) = some (.pointer (some ⟨p, o + q, none⟩)) := by
 show aIndexAddr T0 55 (.pointer (some ⟨p, o, none⟩)) (.int .i64 (Int.ofNat q)) = _
 simp only [aIndexAddr, und55, sz3, blt_dec, hq, decide_true, Nat.mul_one]
theorem ix55_0 (p o : Nat) : aIndexAddr T0 55 (.pointer (some ⟨p, o, none⟩)) (.int .i64 0) = some (.pointer (some ⟨p, o, none⟩)) := ix55 p o 0 (by omega)
theorem ix55_1 (p o : Nat) : aIndexAddr T0 55 (.pointer (some ⟨p, o, none⟩)) (.int .i64 1) = some (.pointer (some ⟨p, o + 1, none⟩)) := ix55 p o 1 (by omega)
theorem ix106 (p o q : Nat) (hq : q < 40) : aIndexAddr T0 106 (.pointer (some ⟨p, o, none⟩)) (.int .i64 (q : Nat)) = some (.pointer (some ⟨p, o + q, none⟩)) := by
 show aIndexAddr T0 106 (.pointer (some ⟨p, o, none⟩)) (.int .i64 (Int.ofNat q)) = _
 simp only [aIndexAddr, und106, sz96, blt_dec, hq, decide_true, Nat.mul_one]
theorem build55 (a b : Int) : aBuild T0 55 [(0, .int .i64 a), (1, .int .i64 b)] = some (pr a b) := by kernel_rfl
theorem build135 (a b : Int) : aBuild T0 135 [(0, .int .i64 a), (1, .int .i64 b)] = some (pr a b) := by kernel_rfl
def zer40 : List Value := List.replicate 40 (.int .u64 0)
theorem build108 (P : Int) : aBuild T0 108 [(0, .int .i64 P)] = some (.agg ⟨.int .i64 P :: zer40⟩) := by kernel_rfl
theorem build25 (P : Int) (A : Option Addr) (n c : Nat) : aBuild T0 25 [(0, .int .i64 P), (1, .slice A n c)] = some (.agg ⟨[.int .i64 P, .slice A n c]⟩) := by kernel_rfl
theorem aAgg55 (a b c d : Int) : aAgg T0 .eql 55 (pr a b) (pr c d) = some (.bool (decide (a = c) && decide (b = d))) := by
 rw [<- keyEq_pr]
 simp only [aAgg, und55, und3, keyOk55]
theorem row_eq {α : Type} {sz : Nat} {enc : α -> List Value} {W : AW} {v : Value} {l : List α} (h : RowIn sz enc W v l) : valEq v v = true := by
 obtain ⟨A, c, rfl, _⟩ := h
 rcases A with _ | ⟨b, o, _ | x⟩ <;> simp
abbrev Edge := Int × Int
def GoodTo (P : Int) (es : List Edge) (k : Nat) : Prop := ∀ i, i < k -> ∀ a b, es[i]? = some (a, b) -> 0 <= a /\ a < P /\ 0 <= b /\ b < P /\ a ≠ b /\ ∀ j, j < i -> es[j]? ≠ some (a, b) /\ es[j]? ≠ some (b, a)
def GraphOk (P : Int) (es : List Edge) : Prop := 1 <= P /\ P <= 40 /\ es.length <= 300 /\ GoodTo P es es.length
open Classical in
noncomputable def chkG (P : Int) (es : List Edge) : Int := if GraphOk P es then 0 else 40
theorem GoodTo.succ {P : Int} {es : List Edge} {k : Nat} {a b : Int} (h : GoodTo P es k) (ha : es[k]? = some (a, b)) (h1 : 0 <= a /\ a < P /\ 0 <= b /\ b < P /\ a ≠ b) (h2 : ∀ j, j < k -> es[j]? ≠ some (a, b) /\ es[j]? ≠ some (b, a)) : GoodTo P es (k + 1) := fun i hi x y hx => by
 by_cases e : i = k
 ·subst e; rw [ha] at hx; cases hx
  exact ⟨h1.1, h1.2.1, h1.2.2.1, h1.2.2.2.1, h1.2.2.2.2, h2⟩
 ·exact h i (by omega) x y hx
def MatIn (W : AW) (v : Value) (ll : List (List Int)) : Prop := ∃ us : List Value, us.length = ll.length /\ RowIn 1 encV W v us /\ ∀ (i : Nat) u l, us[i]? = some u -> ll[i]? = some l -> IntR W u l
def within (m : Int) (l : List Int) : Prop := ∀ x ∈ l, -m <= x /\ x <= m
end Go.Proofs.YtdpnplanohgecaaDoor
open Go Go.Eng
namespace Go.Proofs.YtdpnplanohgecaaDoor
open Go.ChangeShapes Go.WideShapes Go.ChangeAt Go.RowKit
theorem absV_row2 {w : World} {a : Addr} {n c : Nat} (h : 0 < c -> ∃ v, w.cell? a = some v) (hn : n <= c) :
  ∃ a' c', absV w (.slice (some a) n c) = some (.slice a' n c') /\ (0 < c -> a' = some ⟨a.block, a.off, none⟩) /\ SlOk (.slice a' n c') n := by
 by_cases hc : 0 < c
 ·obtain ⟨v, hv⟩ := h hc
  have hs := cell_spot hv
  have hb := isCells_cell hv
  obtain ⟨b, o, s⟩ := a
  simp only at hs hb; subst hs
  exact ⟨some ⟨b, o, none⟩, 2 * c, by simp [absV, hb], fun _ => rfl, .inr (.inl ⟨b, o, c, rfl, hn⟩)⟩
 ·obtain rfl : c = 0 := by omega
  obtain rfl : n = 0 := by omega
  obtain ⟨b, o, s⟩ := a
  cases s with
  | none =>
   by_cases hb : isCells w b = true
   ·exact ⟨some ⟨b, o, none⟩, 0, by simp [absV, hb], fun x => absurd x hc, .inr (.inl ⟨b, o, 0, rfl, by omega⟩)⟩
   ·exact ⟨some ⟨0, 0, some 1⟩, 0, by simp [absV, hb], fun x => absurd x hc, .inr (.inr ⟨rfl, rfl⟩)⟩
  | some s => exact ⟨some ⟨0, 0, some 1⟩, 0, rfl, fun x => absurd x hc, .inr (.inr ⟨rfl, rfl⟩)⟩
section
variable {H : Type} {enc : TypeId × Value -> H} {P : Program} {w : World}
theorem pairs_in2 {t e e2 : TypeId} {fuel : Nat} {held : Bool} {v : Value} {x : DataW H × List MemPlace} (ht : P.underlying t = some (.slice e)) (he : P.underlying e = some (.array 2 e2)) (hc : P.cellsOf e = 2) (he2 : P.underlying e2 = some (.int .i64)) (hc2 : P.cellsOf e2 = 1)
  (h : DataW.trod enc P w 0 (fun _ => true) held fuel t [v] = some x) : ∃ u l, absV w v = some u /\ PairR (embW w) u l /\ l.length < 9223372036854775808 /\ SlOk u l.length := by
 rcases Deep.open_slice ht h with ⟨h1, _⟩ | ⟨a, len, cap, m, n, D, Pl, h1, _, h2, h3, hm, _, h4⟩
 ·cases h1
  exact ⟨.slice none 0 0, [], rfl, .nil _, by simp, .inl ⟨rfl, rfl⟩⟩
 ·cases h1
  simp only [if_true] at hm
  subst hm
  have each : ∀ i, i < m -> ∃ z : Int × Int, w.cell? (a.add (i * 2)) = some (.int .i64 z.1) /\ w.cell? (a.add (i * 2 + 1)) = some (.int .i64 z.2) := by
   intro i hi
   obtain ⟨cs', g1, g2⟩ := h4 i hi
   rw [hc] at g1
   obtain ⟨_, hlen, hcell⟩ := World.cells?_some g1
   obtain ⟨xs, mm, _, _, _, hl, hel⟩ := DataW.trod_array he g2
   have h0 := hel 0 (by omega)
   have h1 := hel 1 (by omega)
   rw [List.getElem?_eq_getElem (by omega)] at h0 h1
   match cs', hlen with
   | [x0, x1], _ =>
    simp [hc2] at h0 h1
    obtain ⟨z0, e0, _⟩ := DataW.trod_int he2 h0
    obtain ⟨z1, e1, _⟩ := DataW.trod_int he2 h1
    cases e0; cases e1
    have k0 := hcell 0 (by omega)
    have k1 := hcell 1 (by omega)
    rw [Go.Deep.add_add] at k0 k1
    exact ⟨(z0, z1), by simpa using k0, by simpa using k1⟩
  obtain ⟨Z, hZ⟩ := Deep.choose_lt each
  obtain ⟨a', c', g4, g5, g6⟩ := absV_row2 (w := w) (a := a) (n := len) (c := m) (fun hc => ⟨_, by simpa [Addr.add] using (hZ 0 hc).1⟩) h2
  refine ⟨_, (List.range len).map Z, g4, ⟨a', c', by simp, fun h0 => SlOk.emp (n := len) g6, fun i z hi => ?_⟩, by simp; unfold maxLen at h3; omega, by simpa using g6⟩
  have hi' : i < len := by
   have := (List.getElem?_eq_some_iff.1 hi).1
   simpa using this
  simp only [List.getElem?_map, List.getElem?_range hi', Option.map_some, Option.some.injEq] at hi
  subst hi
  obtain ⟨k0, k1⟩ := hZ i (by omega)
  have e0 := emb_has k0 (u := .int .i64 (Z i).1) rfl
  have e1 := emb_has k1 (u := .int .i64 (Z i).2) rfl
  rw [add_block, add_off] at e0 e1
  refine ⟨a.block, a.off, g5 (by omega), fun j u hu => ?_⟩
  have hj : j < 2 := by have := (List.getElem?_eq_some_iff.1 hu).1; simpa [encP] using this
  match j, hj with
  | 0, _ => cases hu; exact e0
  | 1, _ => cases hu; rw [Nat.add_assoc]; exact e1
def MatS (W : AW) (v : Value) (ll : List (List Int)) : Prop := ∃ us : List Value, us.length = ll.length /\ RowIn 1 encV W v us /\ ∀ (i : Nat) u l, us[i]? = some u -> ll[i]? = some l -> IntR W u l /\ SlOk u l.length
end
end Go.Proofs.YtdpnplanohgecaaDoor

open Go Go.Eng
namespace Go.Proofs.YtdpnplanohgecaaDoor
attribute [local congr] undef_congr WpK.congr WpS.congr WpL.congr WpC.congr WpF.congr gotS.congr callS.congr nextS.congr wantS.congr condS.congr
attribute [local irreducible] WpK
attribute [local simp] WpDr_nil WpDr_cons atS_some dwantS_true dwantS_false kindS_light kindS_float kindS_heavy lightS_value floatS_some heavyS_value heavyS_skip heavyS_enter dcallS_some doneS_eq
 isLight isFloat isPlain dLook testBit_dec dChain dLights_nil dLights_skip dLights_one dLight_nil dLight_cons dFreshes_nil dFreshes_one oneF_none oneF_some dFresh_nil dFresh_cons oneL_some oneW_true oneW_false sameV_value dPut dMay valEq arrEq listEq List.getElem?_cons Tr.get_nil dEnd
attribute [local simp] WpS_nil WpS_cons isDefer undef_false wantS_true wantS_false nextS_value nextS_skip nextS_enter callS_some gotS_some aWanted aOp aEvalF aEval opMove opAssign opPick aVal flat flat1 AAct.put opBinOp opConvert opIndex Tr.get_set Tr.get_lay aBin aResults tupled
 aCall aVals aCallB blt_dec ble_dec beq_dec aBinI_add aBinI_sub aBinI_lss aBinI_leq aBinI_gtr aBinI_geq aBinI_eql aBinI_neq index_str len_str len_slice Nat.beq_refl Nat.beq_refl
 opBox opLoad opFieldAddr opIndexAddr acells aAddr opExtract aExtract opUnOp opAlloc opStore opMakeInterface opNilCheck opBuild aParts opBuildSlice aValW
attribute [local simp] und2 und3 und4 und5 und9 und12 field13_0 field13_1 und21 und22 field23_0 field23_1 field24_0 field24_1 field25_0 field25_1 und28 und31 field34_0 field34_1 field34_2 field35_0 field35_1 field35_2 und46 field50_0 field50_1 field50_2 und55 und56 und58 und61 und62 und73 und75 und90 und94 und95 und96 field97_0 field97_1 field97_2 field97_3 field97_4 field97_5 field97_6 field98_0 field98_1 field98_2 field98_3 field98_4 field98_5 field98_6 und99 und106 field107_0 field107_1 field108_0 field108_1 und119 und122 field124_0 field124_1 field124_2 field125_0 field125_1 field125_2 field131_0 field131_1 field132_0 field132_1 und133 field134_0 field134_1 field135_0 field135_1 und148 und156 und160
set_option maxHeartbeats 4000000
set_option linter.unusedSimpArgs false
set_option linter.unusedVariables false
def onesN (x : Nat) : Nat :=
 let a := ((x >>> 1) &&& 6148914691236517205) + (x &&& 6148914691236517205)
 let b := ((a >>> 2) &&& 3689348814741910323) + (a &&& 3689348814741910323)
 let c := ((b >>> 4) + b) &&& 1085102592571150095
 let d := c + (c >>> 8)
 let e := d + (d >>> 16)
 let f := e + (e >>> 32)
 f &&& 127
theorem shr_le (x k : Nat) : x >>> k <= x := by rw [Nat.shiftRight_eq_div_pow]; exact Nat.div_le_self _ _
section
attribute [local irreducible] aBinI
end
end Go.Proofs.YtdpnplanohgecaaDoor

open Go Go.Eng
namespace Go.Proofs.YtdpnplanohgecaaDoor
def wS (r : Nat -> Nat -> Bool) (k : Nat) : Nat -> Nat -> Bool := fun x y => r x y || (r x k && r k y)
def wR (r : Nat -> Nat -> Bool) : Nat -> Nat -> Nat -> Bool
 | 0 => r
 | k + 1 => wS (wR r k) k
structure Ord (n : Nat) (R : Nat -> Nat -> Bool) : Prop where
 lt : ∀ {a b}, R a b = true -> a < n /\ b < n
 irr : ∀ a, R a a = false
 tr : ∀ {a b c}, R a b = true -> R b c = true -> R a c = true
theorem filter_lt {l : List Nat} {p : Nat -> Bool} {x : Nat} (hx : x ∈ l) (hp : p x = false) : (l.filter p).length < l.length := by
 induction l with
 | nil => cases hx
 | cons y l ih =>
  rw [List.filter_cons]
  by_cases e : p y = true
  ·rw [if_pos e]
   rcases List.mem_cons.1 hx with h | h
   ·subst h; rw [hp] at e; cases e
   ·have := ih h; simp only [List.length_cons]; omega
  ·rw [if_neg e]
   have := List.length_filter_le p l
   simp only [List.length_cons]; omega
def IsH (n : Nat) (R : Nat -> Nat -> Bool) (H : Nat -> Nat) : Prop := ∀ a, a < n -> (∀ b, R a b = true -> H b < H a) /\ (H a = 0 \/ ∃ b, R a b = true /\ H b + 1 = H a)
theorem nodup_le : ∀ {l s : List Nat}, l.Nodup -> (∀ x ∈ l, x ∈ s) -> l.length <= s.length
 | [], _, _, _ => Nat.zero_le _
 | x :: l, s, hn, hs => by
  rw [List.nodup_cons] at hn
  have hx := hs x List.mem_cons_self
  have := nodup_le (l := l) (s := s.filter fun y => decide (y ≠ x)) hn.2 (fun y hy => List.mem_filter.2 ⟨hs y (List.mem_cons_of_mem _ hy), decide_eq_true fun e => hn.1 (e ▸ hy)⟩)
  have h2 := filter_lt (l := s) (p := fun y => decide (y ≠ x)) hx (by simp)
  simp only [List.length_cons]; omega
def IsLong (n : Nat) (R : Nat -> Nat -> Bool) (H : Nat -> Nat) (m : Nat) (c : List Nat) : Prop := ∀ j, j < c.length -> j <= m /\ c.getD j 0 < n /\ H (c.getD j 0) + j = m /\ (0 < j -> R (c.getD (j - 1) 0) (c.getD j 0) = true) /\ ∀ i, i < c.getD j 0 -> ¬ (H i + j = m /\ (0 < j -> R (c.getD (j - 1) 0) i = true))
end Go.Proofs.YtdpnplanohgecaaDoor

open Go Go.Eng
namespace Go.Proofs.YtdpnplanohgecaaDoor
structure Mt (n : Nat) (J : Nat -> Nat -> Prop) (mt : Nat -> Int) : Prop where
 rng : ∀ {a : Nat}, a < n -> mt a = -1 \/ ∃ b : Nat, b < n /\ mt a = (b : Int)
 sym : ∀ {a b : Nat}, a < n -> mt a = (b : Int) -> mt b = (a : Int)
 adj : ∀ {a b : Nat}, a < n -> mt a = (b : Int) -> J a b
theorem Mt.lt {n : Nat} {J : Nat -> Nat -> Prop} {mt : Nat -> Int} (h : Mt n J mt) {a b : Nat} (ha : a < n) (e : mt a = (b : Int)) : b < n := by
 rcases h.rng ha with e2 | ⟨c, hc, e2⟩
 ·omega
 ·omega
theorem Mt.inj {n : Nat} {J : Nat -> Nat -> Prop} {mt : Nat -> Int} (h : Mt n J mt) {a b c : Nat} (ha : a < n) (hb : b < n) (e : mt a = (c : Int)) (e2 : mt b = (c : Int)) : a = b := by
 have h1 := h.sym ha e
 have h2 := h.sym hb e2
 omega
inductive Ch (mt fr : Nat -> Int) (r : Nat) : Nat -> List Nat -> Prop
 | root : Ch mt fr r r [r]
 | step {v e w : Nat} {L : List Nat} : mt v = (e : Int) -> fr e = (w : Int) -> Ch mt fr r w L -> Ch mt fr r v (v :: L)
theorem Ch.head {mt fr : Nat -> Int} {r v : Nat} {L : List Nat} (h : Ch mt fr r v L) : ∃ M, L = v :: M := by
 cases h with
 | root => exact ⟨[], rfl⟩
 | step _ _ _ => exact ⟨_, rfl⟩
theorem Ch.mem {mt fr : Nat -> Int} {r v : Nat} {L : List Nat} (h : Ch mt fr r v L) : v ∈ L := by
 obtain ⟨M, e⟩ := h.head; rw [e]; exact List.mem_cons_self
theorem Ch.one {mt fr : Nat -> Int} {r : Nat} (hr : mt r = -1) {v : Nat} {L : List Nat} (h : Ch mt fr r v L) : ∀ {M : List Nat}, Ch mt fr r v M -> L = M := by
 induction h with
 | root =>
  intro M h2
  cases h2 with
  | root => rfl
  | step e _ _ => omega
 | step e1 e2 _ ih =>
  intro M h2
  cases h2 with
  | root => omega
  | step f1 f2 f3 =>
   have : _ = _ := Int.ofNat.inj (e1.symm.trans f1)
   subst this
   have : _ = _ := Int.ofNat.inj (e2.symm.trans f2)
   subst this
   rw [ih f3]
theorem Ch.sub {mt fr : Nat -> Int} {r v : Nat} {L : List Nat} (h : Ch mt fr r v L) : ∀ {y : Nat}, y ∈ L -> ∃ M, Ch mt fr r y M /\ (∀ x ∈ M, x ∈ L) /\ M.length <= L.length /\ (M.length = L.length -> M = L) := by
 induction h with
 | root =>
  intro y hy
  rw [List.mem_singleton] at hy; subst hy
  exact ⟨_, .root, fun x hx => hx, Nat.le_refl _, fun _ => rfl⟩
 | step e1 e2 h3 ih =>
  intro y hy
  rcases List.mem_cons.1 hy with hy | hy
  ·subst hy
   exact ⟨_, .step e1 e2 h3, fun x hx => hx, Nat.le_refl _, fun _ => rfl⟩
  ·obtain ⟨M, a1, a2, a3, a4⟩ := ih hy
   exact ⟨M, a1, fun x hx => List.mem_cons_of_mem _ (a2 x hx), by simp only [List.length_cons]; omega, fun e => by simp only [List.length_cons] at e; omega⟩
def Ind (mt : Nat -> Int) (L : List Nat) : Prop := ∀ x ∈ L, ∀ y ∈ L, mt x ≠ (y : Int)
structure Srch (n : Nat) (J : Nat -> Nat -> Prop) (mt : Nat -> Int) (r : Nat) (out : Nat -> Prop) (base : Nat -> Nat) (fr : Nat -> Int) : Prop where
 mat : Mt n J mt
 free : mt r = -1
 rout : out r
 rbase : base r = r
 lt : ∀ {v : Nat}, out v -> v < n
 frOut : ∀ {x w : Nat}, x < n -> fr x = (w : Int) -> out w /\ J x w
 frR : ∀ {x : Nat}, x < n -> fr x = -1 \/ ∃ w : Nat, fr x = (w : Int)
 bout : ∀ {v : Nat}, out v -> out (base v)
 bb : ∀ {v : Nat}, out v -> base (base v) = base v
 step : ∀ {v e w : Nat}, out v -> mt v = (e : Int) -> fr e = (w : Int) -> base w = base v \/ v = base v
 chain : ∀ {v : Nat}, out v -> ∃ L, Ch mt fr r v L /\ Ind mt L
 bnot : ∀ {v : Nat}, v < n -> ¬ out v -> base v = v
 pair : ∀ {x y : Nat}, out x -> out y -> mt x = (y : Int) -> base x = base y
variable {n : Nat} {J : Nat -> Nat -> Prop} {mt : Nat -> Int} {r : Nat} {out : Nat -> Prop} {base : Nat -> Nat} {fr : Nat -> Int}
theorem Srch.next (h : Srch n J mt r out base fr) {v e w : Nat} (hv : out v) (e1 : mt v = (e : Int)) (e2 : fr e = (w : Int)) : out w := (h.frOut (h.mat.lt (h.lt hv) e1) e2).1
theorem Srch.all (h : Srch n J mt r out base fr) {v : Nat} {L : List Nat} (hc : Ch mt fr r v L) (hv : out v) : ∀ x ∈ L, out x := by
 induction hc with
 | root => intro x hx; rw [List.mem_singleton] at hx; rw [hx]; exact hv
 | step e1 e2 _ ih =>
  intro x hx
  rcases List.mem_cons.1 hx with hx | hx
  ·rw [hx]; exact hv
  ·exact ih (h.next hv e1 e2) x hx
theorem Srch.pass (h : Srch n J mt r out base fr) {v : Nat} {L : List Nat} (hc : Ch mt fr r v L) (hv : out v) : base v ∈ L := by
 induction hc with
 | root => rw [h.rbase]; exact List.mem_singleton.2 rfl
 | step e1 e2 _ ih =>
  rcases h.step hv e1 e2 with e | e
  ·rw [<- e]; exact List.mem_cons_of_mem _ (ih (h.next hv e1 e2))
  ·rw [<- e]; exact List.mem_cons_self
def Bs (mt fr : Nat -> Int) (r : Nat) (base : Nat -> Nat) (v β : Nat) : Prop := ∃ L, Ch mt fr r v L /\ ∃ y ∈ L, base y = β
theorem Srch.self (h : Srch n J mt r out base fr) {v : Nat} (hv : out v) : Bs mt fr r base v (base v) := by
 obtain ⟨L, hc, _⟩ := h.chain hv
 exact ⟨L, hc, v, hc.mem, rfl⟩
theorem Srch.bw (h : Srch n J mt r out base fr) {v : Nat} {L : List Nat} (hc : Ch mt fr r v L) (hv : out v) : ∀ y ∈ L, base y = base v \/ ∃ M, Ch mt fr r (base v) M /\ y ∈ M := by
 induction hc with
 | root => intro y hy; rw [List.mem_singleton] at hy; rw [hy]; exact .inl rfl
 | step e1 e2 h3 ih =>
  intro y hy
  rcases List.mem_cons.1 hy with hy2 | hy2
  ·rw [hy2]; exact .inl rfl
  ·rcases h.step hv e1 e2 with e | e
   ·rcases ih (h.next hv e1 e2) y hy2 with g | g
    ·exact .inl (g.trans e)
    ·rw [e] at g; exact .inr g
   ·rw [<- e]; exact .inr ⟨_, .step e1 e2 h3, hy⟩
theorem Srch.bs_base (h : Srch n J mt r out base fr) {v β : Nat} (hv : out v) : Bs mt fr r base v β ↔ Bs mt fr r base (base v) β := by
 constructor
 ·rintro ⟨L, hc, y, hy, e⟩
  rcases h.bw hc hv y hy with g | ⟨M, g1, g2⟩
  ·have := h.self (h.bout hv)
   rw [h.bb hv, <- g, e] at this
   rw [<- g, e]; exact this
  ·exact ⟨M, g1, y, g2, e⟩
 ·rintro ⟨L, hc, y, hy, e⟩
  obtain ⟨L2, hc2, _⟩ := h.chain hv
  obtain ⟨M, g1, g2, _⟩ := hc2.sub (h.pass hc2 hv)
  have := g1.one h.free hc
  subst this
  exact ⟨L2, hc2, y, g2 y hy, e⟩
theorem Srch.bs_of (h : Srch n J mt r out base fr) {v y β : Nat} {L : List Nat} (hv : out v) (hc : Ch mt fr r v L) (hy : y ∈ L) (hb : Bs mt fr r base y β) : Bs mt fr r base v β := by
 obtain ⟨M, g1, g2, _⟩ := hc.sub hy
 obtain ⟨M2, k1, z, hz, e⟩ := hb
 have := g1.one h.free k1
 subst this
 exact ⟨L, hc, z, g2 z hz, e⟩
theorem Srch.trans (h : Srch n J mt r out base fr) {v β γ : Nat} (hv : out v) (h1 : Bs mt fr r base v β) (h2 : Bs mt fr r base β γ) : Bs mt fr r base v γ := by
 obtain ⟨L, hc, y, hy, e⟩ := h1
 have hyo := h.all hc hv y hy
 refine h.bs_of hv hc hy ?_
 rw [h.bs_base hyo, e]; exact h2
theorem Srch.bs_mem (h : Srch n J mt r out base fr) {v β : Nat} {L : List Nat} (hv : out v) (hc : Ch mt fr r v L) (hb : Bs mt fr r base v β) : β ∈ L := by
 obtain ⟨L2, hc2, y, hy, e⟩ := hb
 have := hc.one h.free hc2
 subst this
 obtain ⟨M, g1, g2, _⟩ := hc.sub hy
 have := h.pass g1 (h.all hc hv y hy)
 rw [e] at this; exact g2 _ this
theorem Srch.bs_out (h : Srch n J mt r out base fr) {v β : Nat} (hv : out v) (hb : Bs mt fr r base v β) : out β /\ base β = β := by
 obtain ⟨L, hc, y, hy, e⟩ := hb
 have hyo := h.all hc hv y hy
 rw [<- e]; exact ⟨h.bout hyo, h.bb hyo⟩
theorem Srch.anti (h : Srch n J mt r out base fr) {β γ : Nat} (hβ : out β) (hγ : out γ) (h1 : Bs mt fr r base β γ) (h2 : Bs mt fr r base γ β) : β = γ := by
 obtain ⟨L, hc, _⟩ := h.chain hβ
 obtain ⟨M, hd, _⟩ := h.chain hγ
 have m1 := h.bs_mem hβ hc h1
 have m2 := h.bs_mem hγ hd h2
 obtain ⟨M', a1, _, a3, a4⟩ := hc.sub m1
 obtain ⟨L', b1, _, b3, _⟩ := hd.sub m2
 have e1 := a1.one h.free hd
 have e2 := b1.one h.free hc
 subst e1; subst e2
 have e3 := a4 (by omega)
 obtain ⟨X, hX⟩ := a1.head
 obtain ⟨Y, hY⟩ := b1.head
 rw [hX, hY] at e3
 exact (List.cons.inj e3).1.symm
end Go.Proofs.YtdpnplanohgecaaDoor

open Go Go.Eng
namespace Go.Proofs.YtdpnplanohgecaaDoor
def RevL (mt fr : Nat -> Int) : Int -> List Nat -> Prop
 | _, [] => True
 | c, v :: L => fr v = c /\ RevL mt fr (mt v) L
theorem RevL.from {mt fr : Nat -> Int} : ∀ {L : List Nat} {c : Int}, RevL mt fr c L -> ∀ v ∈ L, fr v = c \/ ∃ u ∈ L, fr v = mt u
 | [], _, _, v, hv => by cases hv
 | x :: L, c, ⟨h1, h2⟩, v, hv => by
  rcases List.mem_cons.1 hv with e | e
  ·rw [e]; exact .inl h1
  ·rcases RevL.from h2 v e with g | ⟨u, hu, g⟩
   ·exact .inr ⟨x, List.mem_cons_self, g⟩
   ·exact .inr ⟨u, List.mem_cons_of_mem _ hu, g⟩
theorem RevL.chain {mt fr : Nat -> Int} {r : Nat} : ∀ {L : List Nat} {b : Nat} {Lb : List Nat}, Ch mt fr r b Lb -> RevL mt fr (b : Int) L -> (∀ v ∈ L, ∃ e : Nat, mt v = (e : Int) /\ mt e = (v : Int)) -> ∀ v ∈ L, ∀ e : Nat, mt v = (e : Int) -> ∃ M, Ch mt fr r e M /\ ∀ x ∈ M, x ∈ Lb \/ ∃ u ∈ L, mt u = (x : Int)
 | [], _, _, _, _, _, v, hv, _, _ => by cases hv
 | x :: L, b, Lb, hb, ⟨h1, h2⟩, hm, v, hv, e, he => by
  obtain ⟨ex, g1, g2⟩ := hm x List.mem_cons_self
  have hc : Ch mt fr r ex (ex :: Lb) := .step g2 h1 hb
  rcases List.mem_cons.1 hv with hv | hv
  ·subst hv
   have : ex = e := by omega
   subst this
   refine ⟨_, hc, fun y hy => ?_⟩
   rcases List.mem_cons.1 hy with hy | hy
   ·rw [hy]; exact .inr ⟨_, List.mem_cons_self, g1⟩
   ·exact .inl hy
  ·rw [g1] at h2
   obtain ⟨M, k1, k2⟩ := RevL.chain hc h2 (fun u hu => hm u (List.mem_cons_of_mem _ hu)) v hv e he
   refine ⟨M, k1, fun y hy => ?_⟩
   rcases k2 y hy with g | ⟨u, hu, g⟩
   ·rcases List.mem_cons.1 g with g | g
    ·rw [g]; exact .inr ⟨x, List.mem_cons_self, g1⟩
    ·exact .inl g
   ·exact .inr ⟨u, List.mem_cons_of_mem _ hu, g⟩
theorem Ch.same {mt fr fr' : Nat -> Int} {r v : Nat} {L : List Nat} (h : Ch mt fr r v L) : (∀ y ∈ L, ∀ e : Nat, mt y = (e : Int) -> fr' e = fr e) -> Ch mt fr' r v L := by
 induction h with
 | root => intro _; exact .root
 | step e1 e2 _ ih =>
  intro hs
  refine .step e1 ?_ (ih fun y hy => hs y (List.mem_cons_of_mem _ hy))
  rw [hs _ List.mem_cons_self _ e1]; exact e2
theorem Ch.before {mt fr : Nat -> Int} {r vp : Nat} {rest : List Nat} : ∀ {VA : List Nat} {a : Nat}, Ch mt fr r a (VA ++ vp :: rest) -> ∀ v ∈ VA, ∃ e w : Nat, ∃ M, mt v = (e : Int) /\ fr e = (w : Int) /\ Ch mt fr r w M /\ vp ∈ M /\ (w ∈ VA \/ w = vp)
 | [], _, _, v, hv => by cases hv
 | x :: VA, a, hc, v, hv => by
  have hex : ∃ e w : Nat, mt x = (e : Int) /\ fr e = (w : Int) /\ Ch mt fr r w (VA ++ vp :: rest) := by
   have hc' : Ch mt fr r a (x :: (VA ++ vp :: rest)) := hc
   generalize hL : VA ++ vp :: rest = L at hc'
   cases hc' with
   | root =>
    exfalso
    have := congrArg List.length hL
    simp at this
   | step e1 e2 h3 => exact ⟨_, _, e1, e2, h3⟩
  obtain ⟨e, w, e1, e2, h3⟩ := hex
  rcases List.mem_cons.1 hv with hv | hv
  ·subst hv
   refine ⟨e, w, _, e1, e2, h3, List.mem_append.2 (.inr List.mem_cons_self), ?_⟩
   obtain ⟨M, hM⟩ := h3.head
   cases VA with
   | nil => right; exact (List.cons.inj hM).1.symm
   | cons y VA =>
    left
    have hM' : y :: (VA ++ vp :: rest) = w :: M := hM
    rw [(List.cons.inj hM').1]; exact List.mem_cons_of_mem _ List.mem_cons_self
  ·obtain ⟨e', w', M, a1, a2, a3, a4, a5⟩ := Ch.before h3 v hv
   exact ⟨e', w', M, a1, a2, a3, a4, a5.imp (List.mem_cons_of_mem _) id⟩
structure Side (n : Nat) (J : Nat -> Nat -> Prop) (mt : Nat -> Int) (r : Nat) (out : Nat -> Prop) (base : Nat -> Nat) (fr fr' : Nat -> Int) (a b t : Nat) (VA : List Nat) : Prop where
 s : Srch n J mt r out base fr
 ha : out a
 hb : out b
 ta : Bs mt fr r base a t
 tb : Bs mt fr r base b t
 tm : ∀ β, Bs mt fr r base a β -> Bs mt fr r base b β -> Bs mt fr r base t β
 way : ∃ vp rest, Ch mt fr r a (VA ++ vp :: rest) /\ base vp = t
 ne : ∀ v ∈ VA, base v ≠ t
 rev : RevL mt fr' (b : Int) VA
variable {n : Nat} {J : Nat -> Nat -> Prop} {mt : Nat -> Int} {r : Nat} {out : Nat -> Prop} {base : Nat -> Nat} {fr fr' : Nat -> Int} {a b t : Nat} {VA VB : List Nat}
theorem Side.outs (h : Side n J mt r out base fr fr' a b t VA) : ∀ v ∈ VA, out v := by
 obtain ⟨vp, rest, h1, _⟩ := h.way
 exact fun v hv => h.s.all h1 h.ha v (List.mem_append.2 (.inl hv))
theorem Side.mate (h : Side n J mt r out base fr fr' a b t VA) : ∀ v ∈ VA, ∃ e : Nat, mt v = (e : Int) /\ mt e = (v : Int) := by
 obtain ⟨vp, rest, h1, _⟩ := h.way
 intro v hv
 obtain ⟨e, w, M, a1, _⟩ := h1.before v hv
 exact ⟨e, a1, h.s.mat.sym (h.s.lt (h.outs v hv)) a1⟩
theorem Side.to_t (h : Side n J mt r out base fr fr' a b t VA) {v : Nat} (hv : v ∈ VA) : Bs mt fr r base v t := by
 obtain ⟨vp, rest, h1, h2⟩ := h.way
 obtain ⟨e, w, M, a1, a2, a3, a4, _⟩ := h1.before v hv
 exact ⟨v :: M, .step a1 a2 a3, vp, List.mem_cons_of_mem _ a4, h2⟩
theorem Side.tout (h : Side n J mt r out base fr fr' a b t VA) : out t /\ base t = t := h.s.bs_out h.ha h.ta
theorem Side.dis (h : Side n J mt r out base fr fr' a b t VA) {v : Nat} (hv : v ∈ VA) : ¬ Bs mt fr r base b (base v) := by
 intro hB
 obtain ⟨vp, rest, h1, h2⟩ := h.way
 have ho := h.outs v hv
 have hA : Bs mt fr r base a (base v) := ⟨_, h1, v, List.mem_append.2 (.inl hv), rfl⟩
 have x1 := h.tm _ hA hB
 have x2 := (h.s.bs_base ho).1 (h.to_t hv)
 exact h.ne v hv (h.s.anti (h.s.bout ho) h.tout.1 x2 x1)
theorem Side.ind (h : Side n J mt r out base fr fr' a b t VA) {u v : Nat} (hu : u ∈ VA) (hv : v ∈ VA) : mt u ≠ (v : Int) := by
 obtain ⟨vp, rest, h1, _⟩ := h.way
 obtain ⟨L, h2, h3⟩ := h.s.chain h.ha
 have := h2.one h.s.free h1
 subst this
 exact h3 u (List.mem_append.2 (.inl hu)) v (List.mem_append.2 (.inl hv))
theorem Side.apart (h : Side n J mt r out base fr fr' a b t VA) {v y : Nat} {Lb : List Nat} (hb : Ch mt fr r b Lb) (hv : v ∈ VA) (hy : y ∈ Lb) : v ≠ y /\ mt y ≠ (v : Int) := by
 have hyo := h.s.all hb h.hb y hy
 refine ⟨fun e => ?_, fun e => ?_⟩
 ·subst e; exact h.dis hv ⟨Lb, hb, v, hy, rfl⟩
 ·have := h.s.pair hyo (h.outs v hv) e
  exact h.dis hv ⟨Lb, hb, y, hy, this⟩
structure Both (n : Nat) (J : Nat -> Nat -> Prop) (mt : Nat -> Int) (r : Nat) (out : Nat -> Prop) (base : Nat -> Nat) (fr fr' : Nat -> Int) (a b t : Nat) (VA VB : List Nat) : Prop where
 A : Side n J mt r out base fr fr' a b t VA
 B : Side n J mt r out base fr fr' b a t VB
 fo : ∀ x, x ∉ VA -> x ∉ VB -> fr' x = fr x
theorem Both.swap (h : Both n J mt r out base fr fr' a b t VA VB) : Both n J mt r out base fr fr' b a t VB VA := ⟨h.B, h.A, fun x h1 h2 => h.fo x h2 h1⟩
theorem Both.chB (h : Both n J mt r out base fr fr' a b t VA VB) {Lb : List Nat} (hb : Ch mt fr r b Lb) : Ch mt fr' r b Lb := by
 refine hb.same fun y hy e he => h.fo e (fun hv => (h.A.apart hb hv hy).2 he) (fun hv => ?_)
 obtain ⟨vp, rest, h1, _⟩ := h.B.way
 have := hb.one h.A.s.free h1
 subst this
 obtain ⟨L, h2, h3⟩ := h.A.s.chain h.A.hb
 have := h2.one h.A.s.free h1
 subst this
 exact h3 y hy e (List.mem_append.2 (.inl hv)) he
theorem Both.newA (h : Both n J mt r out base fr fr' a b t VA VB) {Lb : List Nat} (hb : Ch mt fr r b Lb) {v e : Nat} (hv : v ∈ VA) (he : mt v = (e : Int)) : ∃ M, Ch mt fr' r e M /\ Ind mt M /\ ∀ x ∈ M, x ∈ Lb \/ ∃ u ∈ VA, mt u = (x : Int) := by
 obtain ⟨M, h1, h2⟩ := RevL.chain (h.chB hb) h.A.rev h.A.mate v hv e he
 refine ⟨M, h1, fun x hx y hy hxy => ?_, h2⟩
 obtain ⟨Lb2, g1, g2⟩ := h.A.s.chain h.A.hb
 have := g1.one h.A.s.free hb
 subst this
 rcases h2 x hx with ex | ⟨u, hu, ex⟩
 ·rcases h2 y hy with ey | ⟨w, hw, ey⟩
  ·exact g2 x ex y ey hxy
  ·obtain ⟨e2, k1, k2⟩ := h.A.mate w hw
   have : e2 = y := by omega
   subst this
   have hxo := h.A.s.all hb h.A.hb x ex
   have hm := h.A.s.mat.sym (h.A.s.lt hxo) hxy
   have : w = x := by omega
   subst this
   exact (h.A.apart hb hw ex).1 rfl
 ·obtain ⟨e2, k1, k2⟩ := h.A.mate u hu
  have : e2 = x := by omega
  subst this
  have hyu : y = u := by omega
  subst hyu
  rcases h2 y hy with ey | ⟨w, hw, ey⟩
  ·exact (h.A.apart hb hu ey).1 rfl
  ·exact h.A.ind hw hu ey
theorem Both.old (h : Both n J mt r out base fr fr' a b t VA VB) {La Lb : List Nat} (ha : Ch mt fr r a La) (hb : Ch mt fr r b Lb) {w : Nat} {L : List Nat} (hc : Ch mt fr r w L) (hw : out w) : Ind mt L -> ∃ L', Ch mt fr' r w L' /\ Ind mt L' /\ (L' = L \/
  ((∃ y ∈ L, ∃ v ∈ VA, mt y = (v : Int)) /\ ∀ x ∈ L', x ∈ L \/ (∃ v ∈ VA, mt v = (x : Int)) \/ x ∈ Lb) \/ ((∃ y ∈ L, ∃ v ∈ VB, mt y = (v : Int)) /\ ∀ x ∈ L', x ∈ L \/ (∃ v ∈ VB, mt v = (x : Int)) \/ x ∈ La)) := by
 induction hc with
 | root =>
  intro hI
  exact ⟨_, .root, hI, .inl rfl⟩
 | step e1 e2 h3 ih =>
  rename_i w0 e w1 L0
  intro hI
  have hw1 := h.A.s.next hw e1 e2
  have hlt := h.A.s.lt hw
  have hme := h.A.s.mat.sym hlt e1
  by_cases hA : e ∈ VA
  ·obtain ⟨M, k1, k2, k3⟩ := h.newA hb hA hme
   exact ⟨M, k1, k2, .inr (.inl ⟨⟨w0, List.mem_cons_self, e, hA, e1⟩, fun x hx => (k3 x hx).elim (fun g => .inr (.inr g)) (fun g => .inr (.inl g))⟩)⟩
  by_cases hB : e ∈ VB
  ·obtain ⟨M, k1, k2, k3⟩ := h.swap.newA ha hB hme
   exact ⟨M, k1, k2, .inr (.inr ⟨⟨w0, List.mem_cons_self, e, hB, e1⟩, fun x hx => (k3 x hx).elim (fun g => .inr (.inr g)) (fun g => .inr (.inl g))⟩)⟩
  obtain ⟨L', k1, k2, k3⟩ := ih hw1 (fun x hx y hy => hI x (List.mem_cons_of_mem _ hx) y (List.mem_cons_of_mem _ hy))
  -- the mate of w0 is not in the new chain
  have key : ∀ (X : List Nat) (c : Nat) (Lc : List Nat) (a' : Nat), Side n J mt r out base fr fr' a' c t X -> Ch mt fr r c Lc -> (∃ y ∈ L0, ∃ v ∈ X, mt y = (v : Int)) -> (∀ x ∈ L', x ∈ L0 \/ (∃ v ∈ X, mt v = (x : Int)) \/ x ∈ Lc) -> ∀ x ∈ L', mt w0 ≠ (x : Int) := by
   intro X c Lc a' hS hLc ⟨y, hy, v, hv, hyv⟩ hcl x hx hwx
   have hchw : Ch mt fr r w0 (w0 :: L0) := .step e1 e2 h3
   rcases hcl x hx with g | ⟨u, hu, g⟩ | g
   ·exact hI w0 List.mem_cons_self x (List.mem_cons_of_mem _ g) hwx
   ·have huo := hS.outs u hu
    have : w0 = u := hS.s.mat.inj hlt (hS.s.lt huo) hwx g
    subst this
    obtain ⟨vp, rest, f1, _⟩ := hS.way
    obtain ⟨M, m1, m2, _⟩ := f1.sub (List.mem_append.2 (.inl hu))
    have := m1.one hS.s.free hchw
    subst this
    obtain ⟨L2, f2, f3⟩ := hS.s.chain hS.ha
    have := f2.one hS.s.free f1
    subst this
    exact f3 y (m2 y (List.mem_cons_of_mem _ hy)) v (List.mem_append.2 (.inl hv)) hyv
   ·have hxo := hS.s.all hLc hS.hb x g
    have hyo := hS.s.all h3 hw1 y hy
    have b1 := hS.s.pair hw hxo hwx
    have b2 := hS.s.pair hyo (hS.outs v hv) hyv
    have c1 : Bs mt fr r base c (base w0) := ⟨Lc, hLc, x, g, b1.symm⟩
    have c2 : Bs mt fr r base w0 (base v) := ⟨_, hchw, y, List.mem_cons_of_mem _ hy, b2⟩
    exact hS.dis hv (hS.s.trans hS.hb c1 ((hS.s.bs_base hw).1 c2))
  have hno : ∀ x ∈ L', mt w0 ≠ (x : Int) := by
   rcases k3 with g | ⟨g1, g2⟩ | ⟨g1, g2⟩
   ·intro x hx; rw [g] at hx
    exact hI w0 List.mem_cons_self x (List.mem_cons_of_mem _ hx)
   ·exact key VA b Lb a h.A hb g1 g2
   ·exact key VB a La b h.B ha g1 g2
  have hself : mt w0 ≠ (w0 : Int) := hI w0 List.mem_cons_self w0 List.mem_cons_self
  refine ⟨w0 :: L', .step e1 (by rw [h.fo e hA hB]; exact e2) k1, fun x hx y hy hxy => ?_, ?_⟩
  ·rcases List.mem_cons.1 hx with ex | ex <;> rcases List.mem_cons.1 hy with ey | ey
   ·rw [ex, ey] at hxy; exact hself hxy
   ·rw [ex] at hxy; exact hno y ey hxy
   ·rw [ey] at hxy
    -- x's mate is w0: so w0's mate is x
    have hxn : x < n := by
     have tail : ∀ (X : List Nat) (c : Nat) (Lc : List Nat) (a' : Nat), Side n J mt r out base fr fr' a' c t X -> Ch mt fr r c Lc -> (x ∈ L0 \/ (∃ v ∈ X, mt v = (x : Int)) \/ x ∈ Lc) -> x < n := by
      intro X c Lc a' hS hLc g
      rcases g with g | ⟨u, hu, g⟩ | g
      ·exact hS.s.lt (hS.s.all h3 hw1 x g)
      ·exact hS.s.mat.lt (hS.s.lt (hS.outs u hu)) g
      ·exact hS.s.lt (hS.s.all hLc hS.hb x g)
     rcases k3 with g | ⟨_, g2⟩ | ⟨_, g2⟩
     ·rw [g] at ex; exact h.A.s.lt (h.A.s.all h3 hw1 x ex)
     ·exact tail VA b Lb a h.A hb (g2 x ex)
     ·exact tail VB a La b h.B ha (g2 x ex)
    have hxe : (x : Int) = (e : Int) := by
     have := h.A.s.mat.sym hxn hxy
     omega
    exact hno x ex (by rw [e1, hxe])
   ·exact k2 x ex y ey hxy
  ·rcases k3 with g | ⟨⟨y, hy, v, hv, hyv⟩, g2⟩ | ⟨⟨y, hy, v, hv, hyv⟩, g2⟩
   ·rw [g]; exact .inl rfl
   ·refine .inr (.inl ⟨⟨y, List.mem_cons_of_mem _ hy, v, hv, hyv⟩, fun x hx => ?_⟩)
    rcases List.mem_cons.1 hx with ex | ex
    ·rw [ex]; exact .inl List.mem_cons_self
    ·exact (g2 x ex).imp (List.mem_cons_of_mem _) id
   ·refine .inr (.inr ⟨⟨y, List.mem_cons_of_mem _ hy, v, hv, hyv⟩, fun x hx => ?_⟩)
    rcases List.mem_cons.1 hx with ex | ex
    ·rw [ex]; exact .inl List.mem_cons_self
    ·exact (g2 x ex).imp (List.mem_cons_of_mem _) id
end Go.Proofs.YtdpnplanohgecaaDoor

open Go Go.Eng
namespace Go.Proofs.YtdpnplanohgecaaDoor
def Pet (mt : Nat -> Int) (base : Nat -> Nat) (VA VB : List Nat) (x : Nat) : Prop := ∃ v, (v ∈ VA \/ v ∈ VB) /\ (base x = base v \/ ∃ e : Nat, mt v = (e : Int) /\ base x = base e)
theorem Pet.same {mt : Nat -> Int} {base : Nat -> Nat} {VA VB : List Nat} {x y : Nat} (h : Pet mt base VA VB x) (e : base y = base x) : Pet mt base VA VB y := by
 obtain ⟨v, hv, h⟩ := h
 exact ⟨v, hv, by rw [e]; exact h⟩
structure Shrunk (n : Nat) (J : Nat -> Nat -> Prop) (mt : Nat -> Int) (r : Nat) (out out' : Nat -> Prop) (base base' : Nat -> Nat) (fr fr' : Nat -> Int) (a b t : Nat) (VA VB : List Nat) : Prop extends Both n J mt r out base fr fr' a b t VA VB where
 js : ∀ x y, J x y -> J y x
 jab : J a b
 b1 : ∀ x, Pet mt base VA VB x -> base' x = t
 b2 : ∀ x, ¬ Pet mt base VA VB x -> base' x = base x
 ou : ∀ x, out' x ↔ out x \/ ∃ v, (v ∈ VA \/ v ∈ VB) /\ mt v = (x : Int)
variable {n : Nat} {J : Nat -> Nat -> Prop} {mt : Nat -> Int} {r : Nat} {out out' : Nat -> Prop} {base base' : Nat -> Nat} {fr fr' : Nat -> Int} {a b t : Nat} {VA VB : List Nat}
theorem Pet.swap {x : Nat} (h : Pet mt base VA VB x) : Pet mt base VB VA x := by
 obtain ⟨v, hv, h⟩ := h
 exact ⟨v, hv.symm, h⟩
theorem Shrunk.swap (h : Shrunk n J mt r out out' base base' fr fr' a b t VA VB) : Shrunk n J mt r out out' base base' fr fr' b a t VB VA :=
 ⟨h.toBoth.swap, h.js, h.js _ _ h.jab, fun x hx => h.b1 x hx.swap, fun x hx => h.b2 x fun hh => hx hh.swap, fun x => by
  rw [h.ou]
  exact or_congr_right ⟨fun ⟨v, hv, e⟩ => ⟨v, hv.symm, e⟩, fun ⟨v, hv, e⟩ => ⟨v, hv.symm, e⟩⟩⟩
theorem Shrunk.pet_out (h : Shrunk n J mt r out out' base base' fr fr' a b t VA VB) {x : Nat} (hx : out x) (hp : Pet mt base VA VB x) : ∃ v, (v ∈ VA \/ v ∈ VB) /\ base x = base v := by
 obtain ⟨v, hv, e | ⟨e, he, hb⟩⟩ := hp
 ·exact ⟨v, hv, e⟩
 ·have hvo : out v := hv.elim (h.A.outs v) (h.B.outs v)
  by_cases heo : out e
  ·exact ⟨v, hv, by rw [hb, h.A.s.pair hvo heo he]⟩
  ·have h1 := h.A.s.bnot (h.A.s.mat.lt (h.A.s.lt hvo) he) heo
   rw [h1] at hb
   have h2 := h.A.s.bout hx
   rw [hb] at h2; exact absurd h2 heo
theorem Shrunk.out_of (h : Shrunk n J mt r out out' base base' fr fr' a b t VA VB) {x : Nat} (hx : out x) : out' x := (h.ou x).2 (.inl hx)
theorem Shrunk.bt (h : Shrunk n J mt r out out' base base' fr fr' a b t VA VB) {x : Nat} (hx : base x = t) : base' x = t := by
 by_cases hp : Pet mt base VA VB x
 ·exact h.b1 x hp
 ·rw [h.b2 x hp, hx]
theorem Shrunk.bmate (h : Shrunk n J mt r out out' base base' fr fr' a b t VA VB) {v e : Nat} (hv : v ∈ VA \/ v ∈ VB) (he : mt v = (e : Int)) : base' e = t := h.b1 e ⟨v, hv, .inr ⟨e, he, rfl⟩⟩
theorem Shrunk.bway (h : Shrunk n J mt r out out' base base' fr fr' a b t VA VB) {v : Nat} (hv : v ∈ VA \/ v ∈ VB) : base' v = t := h.b1 v ⟨v, hv, .inl rfl⟩
theorem Shrunk.bb' (h : Shrunk n J mt r out out' base base' fr fr' a b t VA VB) : base' b = t := by
 obtain ⟨vp, rest, h1, h2⟩ := h.B.way
 obtain ⟨M, hM⟩ := h1.head
 cases hVB : VB with
 | nil =>
  rw [hVB] at hM
  have : vp = b := (List.cons.inj hM).1
  rw [this] at h2; exact h.bt h2
 | cons y L =>
  rw [hVB] at hM
  have hM' : y :: (L ++ vp :: rest) = b :: M := hM
  have : y = b := (List.cons.inj hM').1
  exact h.bway (.inr (by rw [hVB, <- this]; exact List.mem_cons_self))
theorem rev_edge {X : List Nat} : ∀ {VA : List Nat} {a : Nat} {vp : Nat} {rest : List Nat} {b0 : Nat}, Ch mt fr r a (VA ++ vp :: rest) -> RevL mt fr' (b0 : Int) VA -> J a b0 -> (∀ x y, J x y -> J y x) -> (∀ v ∈ VA, v ∈ X) -> (∀ v ∈ VA, ∀ e w : Nat, mt v = (e : Int) -> fr e = (w : Int) -> J e w) -> ∀ v ∈ VA, ∀ w : Nat, fr' v = (w : Int) -> J v w /\ (w = b0 \/ ∃ u ∈ X, mt u = (w : Int))
 | [], _, _, _, _, _, _, _, _, _, _, v, hv, _, _ => by cases hv
 | x :: VA, a, vp, rest, b0, hc, hr, hJ, hs, hX, hE, v, hv, w, hw => by
  obtain ⟨M0, hM0⟩ := hc.head
  have hxa : x = a := by
   have hM' : x :: (VA ++ vp :: rest) = a :: M0 := hM0
   exact (List.cons.inj hM').1
  rcases List.mem_cons.1 hv with hv | hv
  ·subst hv
   have := hr.1
   have e : w = b0 := by omega
   rw [e, hxa]; exact ⟨hJ, .inl rfl⟩
  ·have hex : ∃ e w : Nat, mt x = (e : Int) /\ fr e = (w : Int) /\ Ch mt fr r w (VA ++ vp :: rest) := by
    have hc' : Ch mt fr r a (x :: (VA ++ vp :: rest)) := hc
    generalize hL : VA ++ vp :: rest = L at hc'
    cases hc' with
    | root =>
     exfalso
     have := congrArg List.length hL
     simp at this
    | step e1 e2 h3 => exact ⟨_, _, e1, e2, h3⟩
   obtain ⟨e, w1, e1, e2, h3⟩ := hex
   have hr2 := hr.2
   rw [e1] at hr2
   obtain ⟨g1, g2⟩ := rev_edge h3 hr2 (hs _ _ (hE x List.mem_cons_self e w1 e1 e2)) hs (fun u hu => hX u (List.mem_cons_of_mem _ hu)) (fun u hu => hE u (List.mem_cons_of_mem _ hu)) v hv w hw
   refine ⟨g1, .inr ?_⟩
   rcases g2 with g2 | g2
   ·exact ⟨x, hX x List.mem_cons_self, by rw [g2]; exact e1⟩
   ·exact g2
theorem Shrunk.backA (h : Shrunk n J mt r out out' base base' fr fr' a b t VA VB) {v w : Nat} (hv : v ∈ VA) (hw : fr' v = (w : Int)) : J v w /\ out' w /\ base' w = t := by
 obtain ⟨vp, rest, h1, h2⟩ := h.A.way
 obtain ⟨g1, g2⟩ := rev_edge (X := VA) (J := J) h1 h.A.rev h.jab h.js (fun v hv => hv) (fun v hv e w e1 e2 => (h.A.s.frOut (h.A.s.mat.lt (h.A.s.lt (h.A.outs v hv)) e1) e2).2) v hv w hw
 refine ⟨g1, ?_⟩
 rcases g2 with g2 | ⟨u, hu, g2⟩
 ·rw [g2]; exact ⟨h.out_of h.A.hb, h.bb'⟩
 ·exact ⟨(h.ou w).2 (.inr ⟨u, .inl hu, g2⟩), h.bmate (.inl hu) g2⟩
theorem Shrunk.back (h : Shrunk n J mt r out out' base base' fr fr' a b t VA VB) {v w : Nat} (hv : v ∈ VA \/ v ∈ VB) (hw : fr' v = (w : Int)) : J v w /\ out' w /\ base' w = t :=
 hv.elim (fun hv => h.backA hv hw) (fun hv => h.swap.backA hv hw)
theorem Shrunk.onA (h : Shrunk n J mt r out out' base base' fr fr' a b t VA VB) {v u e w : Nat} (hv : out v) (hb : v = base v) (hu : u ∈ VA) (hvu : base v = base u) (e1 : mt v = (e : Int)) (e2 : fr e = (w : Int)) : base' w = t := by
 obtain ⟨vp, rest, h1, h2⟩ := h.A.way
 have huo := h.A.outs u hu
 obtain ⟨M, m1, m2, _⟩ := h1.sub (List.mem_append.2 (.inl hu))
 have hvM := h.A.s.pass m1 huo
 rw [<- hvu, <- hb] at hvM
 have hvL := m2 v hvM
 rcases List.mem_append.1 hvL with g | g
 ·obtain ⟨e', w', M', a1, a2, _, _, a5⟩ := h1.before v g
  have : e' = e := by omega
  subst this
  have : w' = w := by omega
  subst this
  rcases a5 with a5 | a5
  ·exact h.bway (.inl a5)
  ·rw [a5]; exact h.bt h2
 ·-- behind the tip there is no such base
  exfalso
  obtain ⟨Mp, p1, _, _⟩ := h1.sub (List.mem_append.2 (.inr (List.mem_cons_self (a := vp) (l := rest))))
  have hvpo := h.A.s.all h1 h.A.ha vp (List.mem_append.2 (.inr List.mem_cons_self))
  have hvMp : v ∈ Mp := by
   have tail : ∀ {VA : List Nat} {a : Nat}, Ch mt fr r a (VA ++ vp :: rest) -> Ch mt fr r vp (vp :: rest) := by
    intro VA
    induction VA with
    | nil =>
     intro a hc
     obtain ⟨M0, hM0⟩ := hc.head
     have : vp = a := (List.cons.inj hM0).1
     rw [this] at hc ⊢; exact hc
    | cons x VA ih =>
     intro a hc
     have hc' : Ch mt fr r a (x :: (VA ++ vp :: rest)) := hc
     generalize hL : VA ++ vp :: rest = L at hc'
     cases hc' with
     | root =>
      exfalso
      have := congrArg List.length hL
      simp at this
     | step e1 e2 h3 => rw [<- hL] at h3; exact ih h3
   have := (tail h1).one h.A.s.free p1
   rw [<- this]; exact g
  have x1 : Bs mt fr r base t (base u) := by
   have : Bs mt fr r base vp (base u) := ⟨Mp, p1, v, hvMp, hvu⟩
   have := (h.A.s.bs_base hvpo).1 this
   rw [h2] at this; exact this
  have x2 := (h.A.s.bs_base huo).1 (h.A.to_t hu)
  exact h.A.ne u hu (h.A.s.anti (h.A.s.bout huo) h.A.tout.1 x2 x1)
theorem Shrunk.srch (h : Shrunk n J mt r out out' base base' fr fr' a b t VA VB) : Srch n J mt r out' base' fr' := by
 have s := h.A.s
 obtain ⟨La, ha1, ha2⟩ := s.chain h.A.ha
 obtain ⟨Lb, hb1, hb2⟩ := s.chain h.A.hb
 have hto := h.A.tout
 have new : ∀ {x : Nat}, out' x -> out x \/ (¬ out x /\ ∃ v, (v ∈ VA \/ v ∈ VB) /\ mt v = (x : Int)) := fun {x} hx => by
  by_cases ho : out x
  ·exact .inl ho
  ·exact .inr ⟨ho, ((h.ou x).1 hx).resolve_left ho⟩
 have wayo : ∀ {v : Nat}, (v ∈ VA \/ v ∈ VB) -> out v := fun {v} hv => hv.elim (h.A.outs v) (h.B.outs v)
 have lt' : ∀ {v : Nat}, out' v -> v < n := fun {v} hv => by
  rcases new hv with g | ⟨_, u, hu, e⟩
  ·exact s.lt g
  ·exact s.mat.lt (s.lt (wayo hu)) e
 refine ⟨s.mat, s.free, h.out_of s.rout, ?_, lt', ?_, ?_, ?_, ?_, ?_, ?_, ?_, ?_⟩
 ·-- the root
  by_cases hp : Pet mt base VA VB r
  ·exfalso
   obtain ⟨v, hv, e⟩ := h.pet_out s.rout hp
   rw [s.rbase] at e
   have hroot : ∀ {w : Nat} {L : List Nat}, Ch mt fr r w L -> r ∈ L := by
    intro w L hc
    induction hc with
    | root => exact List.mem_singleton.2 rfl
    | step _ _ _ ih => exact List.mem_cons_of_mem _ ih
   rcases hv with hv | hv
   ·exact h.A.dis hv ⟨Lb, hb1, r, hroot hb1, by rw [s.rbase, e]⟩
   ·exact h.B.dis hv ⟨La, ha1, r, hroot ha1, by rw [s.rbase, e]⟩
  ·rw [h.b2 r hp, s.rbase]
 ·intro x w hx hw
  by_cases hX : x ∈ VA \/ x ∈ VB
  ·have := h.back hX hw; exact ⟨this.2.1, this.1⟩
  ·rw [h.fo x (fun g => hX (.inl g)) (fun g => hX (.inr g))] at hw
   have := s.frOut hx hw
   exact ⟨h.out_of this.1, this.2⟩
 ·intro x hx
  by_cases hX : x ∈ VA \/ x ∈ VB
  ·right
   rcases hX with hX | hX
   ·rcases h.A.rev.from x hX with g | ⟨u, hu, g⟩
    ·exact ⟨b, g⟩
    ·obtain ⟨e, k1, _⟩ := h.A.mate u hu
     exact ⟨e, by rw [g, k1]⟩
   ·rcases h.B.rev.from x hX with g | ⟨u, hu, g⟩
    ·exact ⟨a, g⟩
    ·obtain ⟨e, k1, _⟩ := h.B.mate u hu
     exact ⟨e, by rw [g, k1]⟩
  ·rw [h.fo x (fun g => hX (.inl g)) (fun g => hX (.inr g))]; exact s.frR hx
 ·intro v hv
  by_cases hp : Pet mt base VA VB v
  ·rw [h.b1 v hp]; exact h.out_of hto.1
  ·rw [h.b2 v hp]
   rcases new hv with g | ⟨_, u, hu, e⟩
   ·exact h.out_of (s.bout g)
   ·exact absurd ⟨u, hu, .inr ⟨v, e, rfl⟩⟩ hp
 ·intro v hv
  by_cases hp : Pet mt base VA VB v
  ·rw [h.b1 v hp]; exact h.bt hto.2
  ·rw [h.b2 v hp]
   rcases new hv with g | ⟨_, u, hu, e⟩
   ·have hbb := s.bb g
    rw [h.b2 _ (fun hh => hp (hh.same hbb.symm)), hbb]
   ·exact absurd ⟨u, hu, .inr ⟨v, e, rfl⟩⟩ hp
 ·intro v e w hv he hw
  have hvn := lt' hv
  have hme := s.mat.sym hvn he
  by_cases hX : e ∈ VA \/ e ∈ VB
  ·left
   rw [(h.back hX hw).2.2, h.bmate hX hme]
  ·rw [h.fo e (fun g => hX (.inl g)) (fun g => hX (.inr g))] at hw
   rcases new hv with g | ⟨_, u, hu, eu⟩
   ·rcases s.step g he hw with k | k
    ·left
     by_cases hp : Pet mt base VA VB v
     ·rw [h.b1 v hp, h.b1 w (hp.same k)]
     ·rw [h.b2 v hp, h.b2 w (fun hh => hp (hh.same k.symm)), k]
    ·by_cases hp : Pet mt base VA VB v
     ·left
      rw [h.b1 v hp]
      obtain ⟨u, hu, eu⟩ := h.pet_out g hp
      rcases hu with hu | hu
      ·exact h.onA g k hu eu he hw
      ·exact h.swap.onA g k hu eu he hw
     ·right; rw [h.b2 v hp]; exact k
   ·exfalso
    have h1 := s.mat.sym (s.lt (wayo hu)) eu
    have : u = e := by omega
    subst this; exact hX hu
 ·intro v hv
  rcases new hv with g | ⟨_, u, hu, e⟩
  ·obtain ⟨L, l1, l2⟩ := s.chain g
   obtain ⟨L', k1, k2, _⟩ := h.toBoth.old ha1 hb1 l1 g l2
   exact ⟨L', k1, k2⟩
  ·rcases hu with hu | hu
   ·obtain ⟨M, k1, k2, _⟩ := h.toBoth.newA hb1 hu e
    exact ⟨M, k1, k2⟩
   ·obtain ⟨M, k1, k2, _⟩ := h.toBoth.swap.newA ha1 hu e
    exact ⟨M, k1, k2⟩
 ·intro v hvn hv
  have hno : ¬ out v := fun g => hv (h.out_of g)
  have hbv := s.bnot hvn hno
  by_cases hp : Pet mt base VA VB v
  ·exfalso
   obtain ⟨u, hu, e | ⟨e, he, hbe⟩⟩ := hp
   ·rw [hbv] at e
    have := s.bout (wayo hu)
    rw [<- e] at this; exact hno this
   ·rw [hbv] at hbe
    by_cases heo : out e
    ·have := s.bout heo
     rw [<- hbe] at this; exact hno this
    ·have := s.bnot (s.mat.lt (s.lt (wayo hu)) he) heo
     rw [this] at hbe
     exact hv ((h.ou v).2 (.inr ⟨u, hu, by rw [hbe]; exact he⟩))
  ·rw [h.b2 v hp, hbv]
 ·intro x y hx hy hxy
  have hxn := lt' hx
  have hyx := s.mat.sym hxn hxy
  rcases new hx with gx | ⟨_, u, hu, eu⟩
  ·rcases new hy with gy | ⟨_, u, hu, eu⟩
   ·have e := s.pair gx gy hxy
    by_cases hp : Pet mt base VA VB x
    ·rw [h.b1 x hp, h.b1 y (hp.same e.symm)]
    ·rw [h.b2 x hp, h.b2 y (fun hh => hp (hh.same e)), e]
   ·have h1 := s.mat.sym (s.lt (wayo hu)) eu
    have : u = x := by omega
    subst this
    rw [h.bway hu, h.bmate hu eu]
  ·have h1 := s.mat.sym (s.lt (wayo hu)) eu
   have : u = y := by omega
   subst this
   rw [h.bway hu, h.bmate hu eu]
end Go.Proofs.YtdpnplanohgecaaDoor

open Go Go.Eng
namespace Go.Proofs.YtdpnplanohgecaaDoor
def updI (f : Nat -> Int) (a : Nat) (v : Int) : Nat -> Int := fun i => if i = a then v else f i
theorem updI_eq (f : Nat -> Int) (a : Nat) (v : Int) : updI f a v a = v := if_pos rfl
theorem updI_ne (f : Nat -> Int) {a i : Nat} (v : Int) (h : i ≠ a) : updI f a v i = f i := if_neg h
structure LinkR (n : Nat) (R : Nat -> Nat -> Bool) (nx pr : Nat -> Int) : Prop where
 rel : ∀ {x y : Nat}, x < n -> nx x = (y : Int) -> R x y = true
 nxr : ∀ x, x < n -> nx x = -1 \/ ∃ y : Nat, y < n /\ nx x = (y : Int)
 prr : ∀ y, y < n -> pr y = -1 \/ ∃ x : Nat, x < n /\ pr y = (x : Int)
structure FolI (n : Nat) (R : Nat -> Nat -> Bool) (nx pr : Nat -> Int) (met a : Nat) : Prop extends LinkR n R nx pr where
 inv : ∀ {x y : Nat}, x < n -> y < n -> met.testBit y = false -> (nx x = (y : Int) ↔ pr y = (x : Int))
 own : ∀ {y : Nat}, y < n -> met.testBit y = false -> nx a ≠ (y : Int)
structure Vain (n : Nat) (R : Nat -> Nat -> Bool) (pr : Nat -> Int) (met met1 : Nat) : Prop where
 sub : ∀ {b : Nat}, met.testBit b = true -> met1.testBit b = true
 new : ∀ {b : Nat}, met1.testBit b = true -> met.testBit b = true \/ (b < n /\ ∃ x : Nat, x < n /\ pr b = (x : Int) /\ ∀ c, R x c = true -> met1.testBit c = true)
structure Found (n : Nat) (R : Nat -> Nat -> Bool) (nx pr nx' pr' : Nat -> Int) (met a : Nat) : Prop extends LinkR n R nx' pr' where
 inv : ∀ {x y : Nat}, x < n -> y < n -> met.testBit y = false -> (nx' x = (y : Int) ↔ pr' y = (x : Int))
 prs : ∀ {y : Nat}, y < n -> met.testBit y = true -> pr' y = pr y
 nxs : ∀ {x : Nat}, x < n -> x ≠ a -> (∀ y, y < n -> met.testBit y = false -> nx x ≠ (y : Int)) -> nx' x = nx x
 nxm : ∀ {x y : Nat}, x < n -> y < n -> met.testBit y = true -> nx' x = (y : Int) -> nx x = (y : Int)
 got : ∃ b : Nat, b < n /\ met.testBit b = false /\ nx' a = (b : Int)
 stay : ∀ {x : Nat}, x < n -> nx x ≠ -1 -> nx' x ≠ -1
theorem bit_add (met b r : Nat) : (met ||| 1 <<< b).testBit r = (met.testBit r || decide (r = b)) := by
 rw [Nat.testBit_or, Nat.one_shiftLeft, Nat.testBit_two_pow]
 congr 1
 rw [Bool.eq_iff_iff]; simp only [decide_eq_true_eq]; omega
structure LinkI (n : Nat) (R : Nat -> Nat -> Bool) (nx pr : Nat -> Int) (met a : Nat) : Prop extends LinkR n R nx pr where
 inv : ∀ {x y : Nat}, x < n -> y < n -> (nx x = (y : Int) ↔ pr y = (x : Int))
 vain : ∀ {b : Nat}, met.testBit b = true -> b < n /\ ∃ x : Nat, x < n /\ pr b = (x : Int) /\ ∀ c, R x c = true -> met.testBit c = true
 done : ∀ {x : Nat}, x < a -> x < n -> nx x = -1 -> ∀ c, R x c = true -> met.testBit c = true
 new : ∀ {x : Nat}, a <= x -> x < n -> nx x = -1
end Go.Proofs.YtdpnplanohgecaaDoor

open Go Go.Eng
namespace Go.Proofs.YtdpnplanohgecaaDoor
variable {n : Nat} {J : Nat -> Nat -> Prop} {mt : Nat -> Int} {r : Nat} {out out' : Nat -> Prop} {base base' : Nat -> Nat} {fr fr' : Nat -> Int} {a b t : Nat} {VA VB : List Nat}
theorem Srch.start (hm : Mt n J mt) (hr : r < n) (hf : mt r = -1) (hfr : ∀ x, x < n -> fr x = -1) (hb : ∀ x, x < n -> base x = x) (ho : ∀ x, out x ↔ x = r) : Srch n J mt r out base fr := by
 have hlt : ∀ {v}, out v -> v < n := fun {v} hv => by rw [(ho v).1 hv]; exact hr
 refine ⟨hm, hf, (ho r).2 rfl, hb r hr, hlt, fun {x w} hx e => by rw [hfr x hx] at e; omega, fun hx => .inl (hfr _ hx), fun {v} hv => ?_, fun {v} hv => ?_, fun {v e w} hv he => ?_, fun {v} hv => ?_, fun hv _ => hb _ hv, fun {x y} hx hy e => ?_⟩
 ·rw [hb v (hlt hv)]; exact hv
 ·rw [hb v (hlt hv), hb v (hlt hv)]
 ·rw [(ho v).1 hv, hf] at he; omega
 ·rw [(ho v).1 hv]
  exact ⟨_, .root, fun x hx y hy e => by rw [List.mem_singleton.1 hx, hf] at e; omega⟩
 ·rw [(ho x).1 hx, hf] at e; omega
def Inn (n : Nat) (mt fr : Nat -> Int) (out : Nat -> Prop) : Prop := ∀ x w : Nat, x < n -> ¬ out x -> fr x = (w : Int) -> ∃ y : Nat, mt x = (y : Int) /\ out y
theorem Inn.start (hfr : ∀ x, x < n -> fr x = -1) : Inn n mt fr out := fun x w hx _ e => by rw [hfr x hx] at e; omega
theorem Inn.shrunk (hi : Inn n mt fr out) (h : Shrunk n J mt r out out' base base' fr fr' a b t VA VB) : Inn n mt fr' out' := fun x w hx ho e => by
 have hno : ¬ out x := fun g => ho (h.out_of g)
 rw [h.fo x (fun g => hno (h.A.outs x g)) (fun g => hno (h.B.outs x g))] at e
 obtain ⟨y, h1, h2⟩ := hi x w hx hno e
 exact ⟨y, h1, h.out_of h2⟩
theorem Srch.grow (h : Srch n J mt r out base fr) (hJ : ∀ x, ¬ J x x) {at' x y : Nat} (ha : out at') (hx : x < n) (hxo : ¬ out x) (hfx : fr x = -1) (hJx : J x at') (hxy : mt x = (y : Int)) (hfr : ∀ z, fr' z = if z = x then (at' : Int) else fr z) (ho : ∀ z, out' z ↔ out z \/ z = y) :
  Srch n J mt r out' base fr' /\ ¬ out y /\ y < n := by
 have hyn := h.mat.lt hx hxy
 have hyx := h.mat.sym hx hxy
 have hne : x ≠ y := fun e => by
  have := h.mat.adj hx hxy
  rw [<- e] at this; exact hJ x this
 have hyo : ¬ out y := fun hy => by
  obtain ⟨L, hc, _⟩ := h.chain hy
  cases hc with
  | root => rw [h.free] at hyx; omega
  | step e1 e2 _ =>
   have := Int.ofNat.inj (e1.symm.trans hyx)
   subst this
   rw [hfx] at e2; omega
 have hby := h.bnot hyn hyo
 have old : ∀ {v e : Nat}, out v -> mt v = (e : Int) -> fr' e = fr e := fun {v e} hv he => by
  rw [hfr, if_neg]
  intro ee
  subst ee
  have := h.mat.inj (h.lt hv) hyn he hyx
  subst this; exact hyo hv
 have same : ∀ {v : Nat} {L : List Nat}, out v -> Ch mt fr r v L -> Ch mt fr' r v L := fun {v L} hv hc => hc.same fun z hz e he => old (h.all hc hv z hz) he
 have frx : fr' x = (at' : Int) := by rw [hfr, if_pos rfl]
 refine ⟨⟨h.mat, h.free, (ho r).2 (.inl h.rout), h.rbase, fun {v} hv => ?_, fun {z w} hz e => ?_, fun {z} hz => ?_, fun {v} hv => ?_, fun {v} hv => ?_, fun {v e w} hv he hw => ?_, fun {v} hv => ?_, fun {v} hv hvo => h.bnot hv fun g => hvo ((ho v).2 (.inl g)), fun {p q} hp hq e => ?_⟩, hyo, hyn⟩
 ·rcases (ho v).1 hv with g | g
  ·exact h.lt g
  ·rw [g]; exact hyn
 ·by_cases ez : z = x
  ·subst ez
   rw [frx] at e
   have : at' = w := by omega
   subst this; exact ⟨(ho _).2 (.inl ha), hJx⟩
  ·rw [hfr, if_neg ez] at e
   have := h.frOut hz e
   exact ⟨(ho _).2 (.inl this.1), this.2⟩
 ·by_cases ez : z = x
  ·right; subst ez; exact ⟨at', frx⟩
  ·rw [hfr, if_neg ez]; exact h.frR hz
 ·rcases (ho v).1 hv with g | g
  ·exact (ho _).2 (.inl (h.bout g))
  ·rw [g, hby]; exact (ho y).2 (.inr rfl)
 ·rcases (ho v).1 hv with g | g
  ·exact h.bb g
  ·rw [g, hby, hby]
 ·rcases (ho v).1 hv with g | g
  ·rw [old g he] at hw; exact h.step g he hw
  ·right; rw [g, hby]
 ·rcases (ho v).1 hv with g | g
  ·obtain ⟨L, l1, l2⟩ := h.chain g
   exact ⟨L, same g l1, l2⟩
  ·obtain ⟨L, l1, l2⟩ := h.chain ha
   rw [g]
   have hxL : x ∉ L := fun hm => hxo (h.all l1 ha x hm)
   refine ⟨y :: L, .step hyx frx (same ha l1), fun p hp q hq e => ?_⟩
   rcases List.mem_cons.1 hp with ep | ep <;> rcases List.mem_cons.1 hq with eq | eq
   ·rw [ep, eq, hyx] at e; omega
   ·rw [ep, hyx] at e
    have : x = q := by omega
    rw [this] at hxL; exact hxL eq
   ·rw [eq] at e
    have := h.mat.inj (h.lt (h.all l1 ha p ep)) hx e hxy
    rw [this] at ep; exact hxL ep
   ·exact l2 p ep q eq e
 ·have hpn : p < n := by
   rcases (ho p).1 hp with g | g
   ·exact h.lt g
   ·rw [g]; exact hyn
  rcases (ho p).1 hp with gp | gp <;> rcases (ho q).1 hq with gq | gq
  ·exact h.pair gp gq e
  ·exfalso
   rw [gq] at e
   have := h.mat.inj hpn hx e hxy
   rw [this] at gp; exact hxo gp
  ·exfalso
   rw [gp, hyx] at e
   have : x = q := by omega
   rw [this] at hxo; exact hxo gq
  ·rw [gp, gq]
theorem Inn.grow (hi : Inn n mt fr out) {at' x y : Nat} (hxy : mt x = (y : Int)) (hfr : ∀ z, fr' z = if z = x then (at' : Int) else fr z) (ho : ∀ z, out' z ↔ out z \/ z = y) : Inn n mt fr' out' := fun z w hz hzo e => by
 by_cases ez : z = x
 ·subst ez; exact ⟨y, hxy, (ho y).2 (.inr rfl)⟩
 ·rw [hfr, if_neg ez] at e
  obtain ⟨q, h1, h2⟩ := hi z w hz (fun g => hzo ((ho z).2 (.inl g))) e
  exact ⟨q, h1, (ho q).2 (.inl h2)⟩
def Ask (n : Nat) (fr : Nat -> Int) (out : Nat -> Prop) (base : Nat -> Nat) (done : Nat -> Prop) (x z : Nat) : Prop := z < n -> (out z /\ base z = base x) \/ (out z /\ ¬ done z) \/ (¬ out z /\ fr z ≠ -1)
theorem Ask.shrunk {done : Nat -> Prop} {x z : Nat} (hA : Ask n fr out base done x z) (hx : out x) (hd : ∀ v, done v -> out v) (h : Shrunk n J mt r out out' base base' fr fr' a b t VA VB) : Ask n fr' out' base' done x z := fun hz => by
 rcases hA hz with ⟨g1, g2⟩ | ⟨g1, g2⟩ | ⟨g1, g2⟩
 ·left
  refine ⟨h.out_of g1, ?_⟩
  by_cases hp : Pet mt base VA VB x
  ·rw [h.b1 x hp, h.b1 z (hp.same g2)]
  ·rw [h.b2 x hp, h.b2 z (fun hh => hp (hh.same g2.symm)), g2]
 ·exact .inr (.inl ⟨h.out_of g1, g2⟩)
 ·by_cases ho : out' z
  ·exact .inr (.inl ⟨ho, fun g => g1 (hd z g)⟩)
  ·refine .inr (.inr ⟨ho, ?_⟩)
   rw [h.fo z (fun g => g1 (h.A.outs z g)) (fun g => g1 (h.B.outs z g))]; exact g2
theorem Ask.grow {done : Nat -> Prop} {x z at' x' y : Nat} (hA : Ask n fr out base done x z) (hd : ∀ v, done v -> out v) (hyo : ¬ out y) (hfr : ∀ z, fr' z = if z = x' then (at' : Int) else fr z) (ho : ∀ z, out' z ↔ out z \/ z = y) : Ask n fr' out' base done x z := fun hz => by
 rcases hA hz with ⟨g1, g2⟩ | ⟨g1, g2⟩ | ⟨g1, g2⟩
 ·exact .inl ⟨(ho z).2 (.inl g1), g2⟩
 ·exact .inr (.inl ⟨(ho z).2 (.inl g1), g2⟩)
 ·by_cases ez : z = y
  ·exact .inr (.inl ⟨(ho z).2 (.inr ez), fun g => g1 (hd z g)⟩)
  ·refine .inr (.inr ⟨fun g => ((ho z).1 g).elim g1 ez, ?_⟩)
   rw [hfr]
   split
   ·omega
   ·exact g2
theorem Ask.done {done : Nat -> Prop} {at' : Nat} (hJ : ∀ x, ¬ J x x) (hs : ∀ x y, J x y -> J y x) (hd : ∀ v, done v -> out v) (hat : out at') (h1 : ∀ x, done x -> ∀ z, J x z -> Ask n fr out base done x z) (hlt : ∀ v, out v -> v < n) (h2 : ∀ z, J at' z -> Ask n fr out base done at' z) :
  ∀ x, (done x \/ x = at') -> ∀ z, J x z -> Ask n fr out base (fun v => done v \/ v = at') x z := by
 intro x hx z hJz hz
 by_cases exa : x = at'
 ·subst exa
  rcases h2 z hJz hz with g | ⟨g1, g2⟩ | g
  ·exact .inl g
  ·exact .inr (.inl ⟨g1, fun g => g.elim g2 (fun e => by subst e; exact hJ _ hJz)⟩)
  ·exact .inr (.inr g)
 ·have hxd := hx.resolve_right exa
  rcases h1 x hxd z hJz hz with g | ⟨g1, g2⟩ | g
  ·exact .inl g
  ·by_cases eza : z = at'
   ·subst eza
    left
    rcases h2 x (hs _ _ hJz) (hlt x (hd x hxd)) with k | ⟨_, k⟩ | ⟨k, _⟩
    ·exact ⟨g1, k.2.symm⟩
    ·exact absurd hxd k
    ·exact absurd (hd x hxd) k
   ·exact .inr (.inl ⟨g1, fun g => g.elim g2 eza⟩)
  ·exact .inr (.inr g)
theorem Ch.cong {mt mt' fr : Nat -> Int} {r v : Nat} {L : List Nat} (h : Ch mt fr r v L) : (∀ y ∈ L, mt' y = mt y) -> Ch mt' fr r v L := by
 induction h with
 | root => intro _; exact .root
 | step e1 e2 _ ih =>
  intro hs
  exact .step (by rw [hs _ List.mem_cons_self]; exact e1) e2 (ih fun y hy => hs y (List.mem_cons_of_mem _ hy))
theorem Ch.new {mt fr : Nat -> Int} {r v : Nat} {L : List Nat} (hr : mt r = -1) (h : Ch mt fr r v (v :: L)) : v ∉ L := by
 intro hv
 generalize hM : v :: L = M at h
 cases h with
 | root => rw [List.cons.injEq] at hM; rw [hM.2] at hv; cases hv
 | step e1 e2 h3 =>
  have hL := (List.cons.inj hM).2
  subst hL
  obtain ⟨M2, k1, _, k3, _⟩ := h3.sub hv
  have := k1.one hr (.step e1 e2 h3)
  rw [this] at k3; simp at k3; omega
def cutE (mt : Nat -> Int) (e : Nat) : Nat -> Int := updI mt e (-1)
structure Turn (n : Nat) (J : Nat -> Nat -> Prop) (fr mt0 mtc : Nat -> Int) (r e0 e b : Nat) (L : List Nat) (Z : Nat -> Prop) : Prop where
 mat : Mt n J (cutE mtc e)
 en : e < n
 rn : r < n
 free : cutE mtc e r = -1
 ch : Ch (cutE mtc e) fr r b L
 ind : Ind (cutE mtc e) L
 eL : e ∉ L
 bn : ∀ y ∈ L, y < n
 jeb : J e b
 fre : ∀ x : Nat, x < n -> (cutE mtc e x = -1 ↔ (mt0 x = -1 /\ x ≠ e0) \/ x = e)
 efr : e = e0 \/ mt0 e ≠ -1
 zk : ∀ z, Z z -> mtc z = mt0 z /\ z ≠ e
 zl : ∀ y ∈ L, ¬ Z y
 zm : ∀ y ∈ L, ∀ q : Nat, cutE mtc e y = (q : Int) -> ¬ Z q
theorem Turn.step {fr mt0 mtc : Nat -> Int} {e0 e b : Nat} {L : List Nat} {Z : Nat -> Prop} (h : Turn n J fr mt0 mtc r e0 e b L Z) (hs : ∀ x y, J x y -> J y x) (hfrJ : ∀ x w : Nat, x < n -> fr x = (w : Int) -> J x w) :
  b < n /\ b ≠ e /\ ((mtc b = -1 /\ b = r /\ Mt n J (updI (updI mtc e (b : Int)) b (e : Int)) /\ (∀ x : Nat, x < n -> (updI (updI mtc e (b : Int)) b (e : Int) x = -1 ↔ mt0 x = -1 /\ x ≠ e0 /\ x ≠ r)) /\ ∀ z, Z z -> updI (updI mtc e (b : Int)) b (e : Int) z = mt0 z) \/
   ∃ (e1 b1 : Nat) (L1 : List Nat), mtc b = (e1 : Int) /\ fr e1 = (b1 : Int) /\ L = b :: L1 /\ Turn n J fr mt0 (updI (updI mtc e (b : Int)) b (e : Int)) r e0 e1 b1 L1 Z) := by
 obtain ⟨M0, hM0⟩ := h.ch.head
 have hbL : b ∈ L := by rw [hM0]; exact List.mem_cons_self
 have hbn := h.bn b hbL
 have hbe : b ≠ e := fun g => h.eL (g ▸ hbL)
 have hcb : cutE mtc e b = mtc b := updI_ne _ _ hbe
 have hce : cutE mtc e e = -1 := updI_eq _ _ _
 refine ⟨hbn, hbe, ?_⟩
 have val : ∀ x, x ≠ b -> x ≠ e -> updI (updI mtc e (b : Int)) b (e : Int) x = cutE mtc e x := fun x h1 h2 => by
  rw [updI_ne _ _ h1, updI_ne _ _ h2]; exact (updI_ne _ _ h2).symm
 have vb : updI (updI mtc e (b : Int)) b (e : Int) b = (e : Int) := updI_eq _ _ _
 have ve : updI (updI mtc e (b : Int)) b (e : Int) e = (b : Int) := by rw [updI_ne _ _ (Ne.symm hbe)]; exact updI_eq _ _ _
 have zok : ∀ z, Z z -> updI (updI mtc e (b : Int)) b (e : Int) z = mt0 z := fun z hz => by
  obtain ⟨k1, k2⟩ := h.zk z hz
  have : z ≠ b := fun k => h.zl b hbL (k ▸ hz)
  rw [updI_ne _ _ this, updI_ne _ _ k2, k1]
 generalize updI (updI mtc e (b : Int)) b (e : Int) = m2 at val vb ve zok
 -- who points to e, or to b
 have noE : ∀ x : Nat, x < n -> cutE mtc e x ≠ (e : Int) := fun x hx g => by
  have := h.mat.sym hx g
  rw [hce] at this; omega
 have hch := h.ch
 generalize hLL : L = LL at hch
 cases hch with
 | root =>
  left
  have hrb : cutE mtc e r = -1 := h.free
  refine ⟨by rw [<- hcb]; exact hrb, rfl, ⟨fun {x} hx => ?_, fun {x y} hx g => ?_, fun {x y} hx g => ?_⟩, fun x hx => ?_, zok⟩
  ·by_cases x1 : x = r
   ·subst x1; right; exact ⟨e, h.en, vb⟩
   by_cases x2 : x = e
   ·subst x2; right; exact ⟨r, hbn, ve⟩
   ·rw [val x x1 x2]; exact h.mat.rng hx
  ·by_cases x1 : x = r
   ·subst x1
    rw [vb] at g
    have : e = y := by omega
    subst this; exact ve
   by_cases x2 : x = e
   ·subst x2
    rw [ve] at g
    have : r = y := by omega
    subst this; exact vb
   ·rw [val x x1 x2] at g
    have g2 := h.mat.sym hx g
    have y1 : y ≠ r := fun k => by subst k; rw [hrb] at g2; omega
    have y2 : y ≠ e := fun k => by subst k; exact noE x hx g
    rw [val y y1 y2]; exact g2
  ·by_cases x1 : x = r
   ·subst x1
    rw [vb] at g
    have : e = y := by omega
    subst this; exact hs _ _ h.jeb
   by_cases x2 : x = e
   ·subst x2
    rw [ve] at g
    have : r = y := by omega
    subst this; exact h.jeb
   ·rw [val x x1 x2] at g; exact h.mat.adj hx g
  ·by_cases x1 : x = r
   ·subst x1
    rw [vb]
    exact ⟨fun k => by omega, fun k => absurd rfl k.2.2⟩
   by_cases x2 : x = e
   ·subst x2
    rw [ve]
    refine ⟨fun k => by omega, fun k => ?_⟩
    exact absurd k.1 (h.efr.resolve_left k.2.1)
   ·rw [val x x1 x2, h.fre x hx]
    exact ⟨fun k => k.elim (fun k => ⟨k.1, k.2, x1⟩) (fun k => absurd k x2), fun k => .inl ⟨k.1, k.2.1⟩⟩
 | step e1 e2 h3 =>
  rename_i x1 w L1
  right
  subst hLL
  have hx1n := h.mat.lt hbn e1
  have hx1b : mtc b = (x1 : Int) := by rw [<- hcb]; exact e1
  have x1e : x1 ≠ e := fun k => by subst k; exact noE b hbn e1
  have x1b : x1 ≠ b := fun k => by subst k; exact h.ind _ hbL _ hbL e1
  have x1L : x1 ∉ L1 := fun k => h.ind b hbL x1 (List.mem_cons_of_mem _ k) e1
  have bL1 : b ∉ L1 := Ch.new h.free (.step e1 e2 h3)
  have hsym1 := h.mat.sym hbn e1
  have rL : r ∈ b :: L1 := by
   have hroot : ∀ {w : Nat} {L : List Nat}, Ch (cutE mtc e) fr r w L -> r ∈ L := by
    intro w L hc
    induction hc with
    | root => exact List.mem_singleton.2 rfl
    | step _ _ _ ih => exact List.mem_cons_of_mem _ ih
   exact List.mem_cons_of_mem _ (hroot h3)
  have re : r ≠ e := fun k => h.eL (k ▸ rL)
  have rb : r ≠ b := fun k => by have := h.free; rw [k, e1] at this; omega
  -- the values without x1's old pair
  have c1 : cutE m2 x1 x1 = -1 := updI_eq _ _ _
  have cb : cutE m2 x1 b = (e : Int) := by unfold cutE; rw [updI_ne _ _ (Ne.symm x1b)]; exact vb
  have ce : cutE m2 x1 e = (b : Int) := by unfold cutE; rw [updI_ne _ _ (Ne.symm x1e)]; exact ve
  have co : ∀ x, x ≠ x1 -> x ≠ b -> x ≠ e -> cutE m2 x1 x = cutE mtc e x := fun x k1 k2 k3 => by
   rw [<- val x k2 k3]; exact updI_ne _ _ k1
  have cL : ∀ y ∈ L1, cutE m2 x1 y = cutE mtc e y := fun y hy => co y (fun k => x1L (k ▸ hy)) (fun k => bL1 (k ▸ hy)) (fun k => h.eL (k ▸ List.mem_cons_of_mem _ hy))
  refine ⟨x1, w, L1, hx1b, e2, rfl, ⟨⟨fun {x} hx => ?_, fun {x y} hx g => ?_, fun {x y} hx g => ?_⟩, hx1n, h.rn, ?_, h3.cong cL, fun x hx y hy g => ?_, x1L, fun y hy => h.bn y (List.mem_cons_of_mem _ hy), hfrJ _ _ hx1n e2, fun x hx => ?_, ?_, fun z hz => ⟨zok z hz, fun k => ?_⟩, fun y hy => h.zl y (List.mem_cons_of_mem _ hy), fun y hy q g => ?_⟩⟩
  ·by_cases k1 : x = x1
   ·subst k1; exact .inl c1
   by_cases k2 : x = b
   ·subst k2; right; exact ⟨e, h.en, cb⟩
   by_cases k3 : x = e
   ·subst k3; right; exact ⟨b, hbn, ce⟩
   ·rw [co x k1 k2 k3]; exact h.mat.rng hx
  ·by_cases k1 : x = x1
   ·subst k1; rw [c1] at g; omega
   by_cases k2 : x = b
   ·subst k2
    rw [cb] at g
    have : e = y := by omega
    subst this; exact ce
   by_cases k3 : x = e
   ·subst k3
    rw [ce] at g
    have : b = y := by omega
    subst this; exact cb
   ·rw [co x k1 k2 k3] at g
    have g2 := h.mat.sym hx g
    have y1 : y ≠ x1 := fun k => by
     subst k
     rw [hsym1] at g2
     exact k2 (by omega)
    have y2 : y ≠ b := fun k => by
     subst k
     rw [e1] at g2
     exact k1 (by omega)
    have y3 : y ≠ e := fun k => by subst k; exact noE x hx g
    rw [co y y1 y2 y3]; exact g2
  ·by_cases k1 : x = x1
   ·subst k1; rw [c1] at g; omega
   by_cases k2 : x = b
   ·subst k2
    rw [cb] at g
    have : e = y := by omega
    subst this; exact hs _ _ h.jeb
   by_cases k3 : x = e
   ·subst k3
    rw [ce] at g
    have : b = y := by omega
    subst this; exact h.jeb
   ·rw [co x k1 k2 k3] at g; exact h.mat.adj hx g
  ·by_cases k1 : r = x1
   ·rw [k1]; exact c1
   ·rw [co r k1 rb re]; exact h.free
  ·rw [cL x hx] at g
   exact h.ind x (List.mem_cons_of_mem _ hx) y (List.mem_cons_of_mem _ hy) g
  ·by_cases k1 : x = x1
   ·subst k1; exact ⟨fun _ => .inr rfl, fun _ => c1⟩
   by_cases k2 : x = b
   ·subst k2
    rw [cb]
    refine ⟨fun g => by omega, fun g => ?_⟩
    rcases g with g | g
    ·have := (h.fre x hx).2 (.inl g)
     rw [e1] at this; omega
    ·exact absurd g k1
   by_cases k3 : x = e
   ·subst k3
    rw [ce]
    refine ⟨fun g => by omega, fun g => ?_⟩
    rcases g with g | g
    ·exact absurd g.1 (h.efr.resolve_left g.2)
    ·exact absurd g k1
   ·rw [co x k1 k2 k3, h.fre x hx]
    exact ⟨fun g => g.elim .inl (fun g => absurd g k3), fun g => g.elim .inl (fun g => absurd g k1)⟩
  ·by_cases k : x1 = e0
   ·exact .inl k
   ·right
    intro g
    have := (h.fre x1 hx1n).2 (.inl ⟨g, k⟩)
    rw [hsym1] at this; omega
  ·subst k; exact h.zm b hbL _ e1 hz
  ·rw [cL y hy] at g
   exact h.zm y (List.mem_cons_of_mem _ hy) q g
end Go.Proofs.YtdpnplanohgecaaDoor

open Go Go.Eng
namespace Go.Proofs.YtdpnplanohgecaaDoor
variable {n : Nat} {J : Nat -> Nat -> Prop} {mt : Nat -> Int} {r : Nat} {out out' : Nat -> Prop} {base base' : Nat -> Nat} {fr fr' : Nat -> Int} {a b t : Nat} {VA VB : List Nat}
def Mo (mt : Nat -> Int) (out : Nat -> Prop) (base : Nat -> Nat) : Prop := ∀ x, out x -> x ≠ base x -> ∃ e : Nat, mt x = (e : Int) /\ out e
theorem Mo.start (hb : base r = r) (ho : ∀ x, out x ↔ x = r) : Mo mt out base := fun x hx hne => by
 rw [(ho x).1 hx] at hne; exact absurd hb.symm hne
theorem Mo.grow (h : Mo mt out base) {y : Nat} (hy : base y = y) (ho : ∀ z, out' z ↔ out z \/ z = y) : Mo mt out' base := fun x hx hne => by
 rcases (ho x).1 hx with g | g
 ·obtain ⟨e, h1, h2⟩ := h x g hne
  exact ⟨e, h1, (ho e).2 (.inl h2)⟩
 ·rw [g] at hne; exact absurd hy.symm hne
theorem Ch.tail {mt fr : Nat -> Int} {r vp : Nat} {rest : List Nat} : ∀ {VA : List Nat} {a : Nat}, Ch mt fr r a (VA ++ vp :: rest) -> Ch mt fr r vp (vp :: rest) := by
 intro VA
 induction VA with
 | nil =>
  intro a hc
  obtain ⟨M0, hM0⟩ := hc.head
  have : vp = a := (List.cons.inj hM0).1
  rw [this] at hc ⊢; exact hc
 | cons x VA ih =>
  intro a hc
  have hc' : Ch mt fr r a (x :: (VA ++ vp :: rest)) := hc
  generalize hL : VA ++ vp :: rest = L at hc'
  cases hc' with
  | root =>
   exfalso
   have := congrArg List.length hL
   simp at this
  | step e1 e2 h3 => rw [<- hL] at h3; exact ih h3
theorem Side.base_on (h : Side n J mt r out base fr fr' a b t VA) {v u : Nat} (hb : v = base v) (hu : u ∈ VA) (hvu : base v = base u) : v ∈ VA := by
 obtain ⟨vp, rest, h1, h2⟩ := h.way
 have huo := h.outs u hu
 obtain ⟨M, m1, m2, _⟩ := h1.sub (List.mem_append.2 (.inl hu))
 have hvM := h.s.pass m1 huo
 rw [<- hvu, <- hb] at hvM
 rcases List.mem_append.1 (m2 v hvM) with g | g
 ·exact g
 ·exfalso
  have hvpo := h.s.all h1 h.ha vp (List.mem_append.2 (.inr List.mem_cons_self))
  have x1 : Bs mt fr r base t (base u) := by
   have : Bs mt fr r base vp (base u) := ⟨_, h1.tail, v, g, hvu⟩
   have := (h.s.bs_base hvpo).1 this
   rw [h2] at this; exact this
  have x2 := (h.s.bs_base huo).1 (h.to_t hu)
  exact h.ne u hu (h.s.anti (h.s.bout huo) h.tout.1 x2 x1)
theorem Mo.shrunk (hm : Mo mt out base) (h : Shrunk n J mt r out out' base base' fr fr' a b t VA VB) : Mo mt out' base' := fun x hx hne => by
 have wayo : ∀ {v : Nat}, (v ∈ VA \/ v ∈ VB) -> out v := fun {v} hv => hv.elim (h.A.outs v) (h.B.outs v)
 by_cases ho : out x
 ·by_cases hb : x = base x
  ·by_cases hp : Pet mt base VA VB x
   ·obtain ⟨v, hv, e⟩ := h.pet_out ho hp
    have hxw : x ∈ VA \/ x ∈ VB := hv.elim (fun hv => .inl (h.A.base_on hb hv e)) (fun hv => .inr (h.B.base_on hb hv e))
    obtain ⟨e, k1, _⟩ := hxw.elim (h.A.mate x) (h.B.mate x)
    exact ⟨e, k1, (h.ou e).2 (.inr ⟨x, hxw, k1⟩)⟩
   ·rw [h.b2 x hp] at hne; exact absurd hb hne
  ·obtain ⟨e, k1, k2⟩ := hm x ho hb
   exact ⟨e, k1, h.out_of k2⟩
 ·obtain ⟨v, hv, e⟩ := ((h.ou x).1 hx).resolve_left ho
  exact ⟨v, h.A.s.mat.sym (h.A.s.lt (wayo hv)) e, h.out_of (wayo hv)⟩
structure Dn (n : Nat) (J : Nat -> Nat -> Prop) (mt : Nat -> Int) (D A : Nat -> Prop) (cl : Nat -> Nat) : Prop where
 dlt : ∀ {x : Nat}, D x -> x < n
 alt : ∀ {x : Nat}, A x -> x < n
 dis : ∀ {x : Nat}, D x -> ¬ A x
 clD : ∀ {x : Nat}, D x -> D (cl x)
 clcl : ∀ {x : Nat}, D x -> cl (cl x) = cl x
 clo : ∀ {x z : Nat}, D x -> J x z -> z < n -> (D z /\ cl z = cl x) \/ A z
 inn : ∀ {x : Nat}, D x -> x ≠ cl x -> ∃ y : Nat, mt x = (y : Int) /\ D y /\ cl y = cl x
 bas : ∀ {x : Nat}, D x -> x = cl x -> mt x = -1 \/ ∃ y : Nat, mt x = (y : Int) /\ A y
 mA : ∀ {y : Nat}, A y -> ∃ x : Nat, mt y = (x : Int) /\ D x
 adjA : ∀ {y : Nat}, A y -> ∃ x, D x /\ J x y
 con : ∀ {x : Nat}, D x -> ∀ P : Nat -> Prop, P (cl x) -> (∀ y z, D y -> D z -> cl y = cl x -> cl z = cl x -> J y z -> P y -> P z) -> P x
theorem Dn.start : Dn n J mt (fun _ => False) (fun _ => False) id :=
 ⟨fun h => h.elim, fun h => h.elim, fun h => h.elim, fun h => h.elim, fun h => h.elim, fun h => h.elim, fun h => h.elim, fun h => h.elim, fun h => h.elim, fun h => h.elim, fun h => h.elim⟩
variable {D A : Nat -> Prop} {cl : Nat -> Nat}
theorem Dn.others (h : Dn n J mt D A cl) (hm : Mt n J mt) {x y : Nat} (hx : x < n) (h1 : ¬ D x) (h2 : ¬ A x) (e : mt x = (y : Int)) : ¬ D y /\ ¬ A y := by
 have e2 := hm.sym hx e
 refine ⟨fun hd => ?_, fun ha => ?_⟩
 ·by_cases hc : y = cl y
  ·rcases h.bas hd hc with g | ⟨z, g1, g2⟩
   ·omega
   ·have : z = x := by omega
    subst this; exact h2 g2
  ·obtain ⟨z, g1, g2, _⟩ := h.inn hd hc
   have : z = x := by omega
   subst this; exact h1 g2
 ·obtain ⟨z, g1, g2⟩ := h.mA ha
  have : z = x := by omega
  subst this; exact h1 g2
structure TI (mt : Nat -> Int) (D A : Nat -> Prop) (cl : Nat -> Nat) (r : Nat) (out : Nat -> Prop) (fr : Nat -> Int) : Prop where
 t1 : ∀ {x : Nat}, out x -> ¬ A x
 t2 : ∀ {x e w : Nat}, out x -> D x -> mt x = (e : Int) -> fr e = (w : Int) -> (D w /\ cl w = cl x) \/ x = cl x
 t4 : ¬ D r /\ ¬ A r
 t5 : ∀ {x : Nat}, D x -> (out x \/ fr x ≠ -1) -> out (cl x)
theorem TI.start (h1 : ¬ D r) (h2 : ¬ A r) (hd : ∀ x, D x -> x < n) (hfr : ∀ x, x < n -> fr x = -1) (ho : ∀ x, out x ↔ x = r) : TI mt D A cl r out fr :=
 ⟨fun {x} hx => by rw [(ho x).1 hx]; exact h2, fun {x e w} hx hxd => by rw [(ho x).1 hx] at hxd; exact absurd hxd h1, ⟨h1, h2⟩, fun {x} hx hf => by
  rcases hf with g | g
  ·rw [(ho x).1 g] at hx; exact absurd hx h1
  ·exact absurd (hfr x (hd x hx)) g⟩
theorem TI.outside (ht : TI mt D A cl r out fr) (h : Dn n J mt D A cl) (s : Srch n J mt r out base fr) (hs : ∀ x y, J x y -> J y x) {v : Nat} {L : List Nat} (hc : Ch mt fr r v L) (hv : out v) : ¬ D v -> (∀ y ∈ L, ¬ D y /\ ¬ A y) /\ ∀ y ∈ L, ∀ q : Nat, mt y = (q : Int) -> ¬ D q /\ ¬ A q := by
 induction hc with
 | root =>
  intro _
  refine ⟨fun y hy => by rw [List.mem_singleton.1 hy]; exact ht.t4, fun y hy q e => ?_⟩
  rw [List.mem_singleton.1 hy, s.free] at e; omega
 | step e1 e2 _ ih =>
  intro hd
  have hvn := s.lt hv
  have ha := ht.t1 hv
  have ho := h.others s.mat hvn hd ha e1
  have hen := s.mat.lt hvn e1
  obtain ⟨w1, w2⟩ := s.frOut hen e2
  have hwd : ¬ D _ := fun g => by
   rcases h.clo g (hs _ _ w2) hen with k | k
   ·exact ho.1 k.1
   ·exact ho.2 k
  obtain ⟨i1, i2⟩ := ih w1 hwd
  refine ⟨fun y hy => ?_, fun y hy q e => ?_⟩
  ·rcases List.mem_cons.1 hy with g | g
   ·rw [g]; exact ⟨hd, ha⟩
   ·exact i1 y g
  ·rcases List.mem_cons.1 hy with g | g
   ·rw [g] at e
    have : q = _ := Int.ofNat.inj (e.symm.trans e1)
    rw [this]; exact ho
   ·exact i2 y g q e
theorem TI.inside (ht : TI mt D A cl r out fr) (h : Dn n J mt D A cl) (s : Srch n J mt r out base fr) {v : Nat} {L : List Nat} (hc : Ch mt fr r v L) (hv : out v) : D v -> cl v ∈ L := by
 induction hc with
 | root => intro hd; exact absurd hd ht.t4.1
 | step e1 e2 _ ih =>
  intro hd
  rcases ht.t2 hv hd e1 e2 with ⟨g1, g2⟩ | g
  ·rw [<- g2]; exact List.mem_cons_of_mem _ (ih (s.next hv e1 e2) g1)
  ·rw [<- g]; exact List.mem_cons_self
end Go.Proofs.YtdpnplanohgecaaDoor

open Go Go.Eng
namespace Go.Proofs.YtdpnplanohgecaaDoor
variable {n : Nat} {J : Nat -> Nat -> Prop} {mt : Nat -> Int} {r : Nat} {out out' : Nat -> Prop} {base base' : Nat -> Nat} {fr fr' : Nat -> Int} {a b t : Nat} {VA VB : List Nat} {D A : Nat -> Prop} {cl : Nat -> Nat}
theorem TI.near (ht : TI mt D A cl r out fr) (h : Dn n J mt D A cl) (s : Srch n J mt r out base fr) {x v : Nat} (hx : D x) (hv : out v) (hJ : J x v) : D v /\ cl v = cl x /\ out (cl x) := by
 rcases h.clo hx hJ (s.lt hv) with g | g
 ·have := ht.t5 g.1 (.inl hv)
  rw [g.2] at this
  exact ⟨g.1, g.2, this⟩
 ·exact absurd g (ht.t1 hv)
theorem TI.grow (ht : TI mt D A cl r out fr) (h : Dn n J mt D A cl) (s : Srch n J mt r out base fr) {at' x y : Nat} (ha : out at') (hx : x < n) (hxo : ¬ out x) (hyo : ¬ out y) (hJx : J x at') (hxy : mt x = (y : Int)) (hfr : ∀ z, fr' z = if z = x then (at' : Int) else fr z) (ho : ∀ z, out' z ↔ out z \/ z = y) :
  TI mt D A cl r out' fr' := by
 have hyx := s.mat.sym hx hxy
 have hyn := s.mat.lt hx hxy
 have noD : D x -> out x -> False := fun _ g => hxo g
 refine ⟨fun {z} hz => ?_, fun {z e w} hz hzd he hw => ?_, ht.t4, fun {z} hz hf => ?_⟩
 ·rcases (ho z).1 hz with g | g
  ·exact ht.t1 g
  ·rw [g]
   intro hA
   obtain ⟨q, k1, k2⟩ := h.mA hA
   have : q = x := by omega
   subst this
   have hn := ht.near h s k2 ha hJx
   by_cases hc : q = cl q
   ·rw [<- hc] at hn; exact hxo hn.2.2
   ·obtain ⟨z', z1, z2, _⟩ := h.inn k2 hc
    have : z' = y := by omega
    subst this; exact h.dis z2 hA
 ·rcases (ho z).1 hz with g | g
  ·have : e ≠ x := fun k => by
    subst k
    have := s.mat.inj (s.lt g) hyn he hyx
    subst this; exact hyo g
   rw [hfr, if_neg this] at hw
   exact ht.t2 g hzd he hw
  ·subst g
   have : e = x := by omega
   subst this
   rw [hfr, if_pos rfl] at hw
   have : at' = w := by omega
   subst this
   by_cases hc : z = cl z
   ·exact .inr hc
   ·left
    obtain ⟨q, k1, k2, k3⟩ := h.inn hzd hc
    have : q = e := by omega
    subst this
    have hn := ht.near h s k2 ha hJx
    exact ⟨hn.1, hn.2.1.trans k3⟩
 ·have hxcase : D x -> out' (cl x) := fun hd => (ho _).2 (.inl (ht.near h s hd ha hJx).2.2)
  by_cases hzy : z = y
  ·subst hzy
   by_cases hc : z = cl z
   ·rw [<- hc]; exact (ho z).2 (.inr rfl)
   ·obtain ⟨q, k1, k2, k3⟩ := h.inn hz hc
    have : q = x := by omega
    subst this
    rw [<- k3]; exact hxcase k2
  ·by_cases hzx : z = x
   ·subst hzx; exact hxcase hz
   ·refine (ho _).2 (.inl (ht.t5 hz ?_))
    rcases hf with g | g
    ·exact .inl (((ho z).1 g).resolve_right hzy)
    ·rw [hfr, if_neg hzx] at g; exact .inr g
theorem way_in {c : Nat} (ht : TI mt D A cl r out fr) (s : Srch n J mt r out base fr) {vp : Nat} {rest : List Nat} : ∀ {VA : List Nat} {a : Nat}, Ch mt fr r a (VA ++ vp :: rest) -> out a -> D a -> cl a = c -> (∀ v ∈ VA, v ≠ c) -> ∀ v ∈ VA, D v /\ cl v = c
 | [], _, _, _, _, _, _, v, hv => by cases hv
 | x :: VA, a, hc, hao, hd, hcl, hne, v, hv => by
  obtain ⟨M0, hM0⟩ := hc.head
  have hxa : x = a := by
   have hM' : x :: (VA ++ vp :: rest) = a :: M0 := hM0
   exact (List.cons.inj hM').1
  subst hxa
  rcases List.mem_cons.1 hv with hv | hv
  ·rw [hv]; exact ⟨hd, hcl⟩
  ·have hc' : Ch mt fr r x (x :: (VA ++ vp :: rest)) := hc
   generalize hL : VA ++ vp :: rest = L at hc'
   cases hc' with
   | root =>
    exfalso
    have := congrArg List.length hL
    simp at this
   | step e1 e2 h3 =>
    rw [<- hL] at h3
    have hwo := s.next hao e1 e2
    rcases ht.t2 hao hd e1 e2 with ⟨g1, g2⟩ | g
    ·exact way_in ht s h3 hwo g1 (g2.trans hcl) (fun u hu => hne u (List.mem_cons_of_mem _ hu)) v hv
    ·exact absurd (g.trans hcl) (hne x List.mem_cons_self)
theorem TI.way (ht : TI mt D A cl r out fr) (h : Dn n J mt D A cl) (hs : ∀ x y, J x y -> J y x) (w : Side n J mt r out base fr fr' a b t VA) (hJ : J a b) :
  (D a /\ D b /\ cl b = cl a /\ out (cl a) /\ ∀ v ∈ VA, D v /\ cl v = cl a /\ ∀ e : Nat, mt v = (e : Int) -> D e /\ cl e = cl a) \/ (¬ D a /\ ¬ D b /\ ∀ v ∈ VA, (¬ D v /\ ¬ A v) /\ ∀ e : Nat, mt v = (e : Int) -> ¬ D e /\ ¬ A e) := by
 obtain ⟨vp, rest, h1, h2⟩ := w.way
 obtain ⟨Lb, hb1, _⟩ := w.s.chain w.hb
 by_cases hd : D a
 ·left
  have hn := ht.near h w.s hd w.hb hJ
  have i2 := ht.inside h w.s hb1 w.hb hn.1
  rw [hn.2.1] at i2
  have hne : ∀ v ∈ VA, v ≠ cl a := fun v hv e => by
   subst e
   exact w.dis hv ⟨Lb, hb1, _, i2, rfl⟩
  refine ⟨hd, hn.1, hn.2.1, hn.2.2, fun v hv => ?_⟩
  obtain ⟨k1, k2⟩ := way_in ht w.s h1 w.ha hd rfl hne v hv
  refine ⟨k1, k2, fun e he => ?_⟩
  obtain ⟨q, q1, q2, q3⟩ := h.inn k1 (fun g => hne v hv (g.trans k2))
  have : q = e := by omega
  subst this
  exact ⟨q2, q3.trans k2⟩
 ·right
  have hbd : ¬ D b := fun g => hd (ht.near h w.s g w.ha (hs _ _ hJ)).1
  have ho := ht.outside h w.s hs h1 w.ha hd
  exact ⟨hd, hbd, fun v hv => ⟨ho.1 v (List.mem_append.2 (.inl hv)), fun e he => ho.2 v (List.mem_append.2 (.inl hv)) e he⟩⟩
theorem TI.shrunk (ht : TI mt D A cl r out fr) (h : Dn n J mt D A cl) (w : Shrunk n J mt r out out' base base' fr fr' a b t VA VB) : TI mt D A cl r out' fr' := by
 have s := w.A.s
 have wA := ht.way h w.js w.A w.jab
 have wB := ht.way h w.js w.B (w.js _ _ w.jab)
 have wayo : ∀ {v : Nat}, (v ∈ VA \/ v ∈ VB) -> out v := fun {v} hv => hv.elim (w.A.outs v) (w.B.outs v)
 -- the mates of the way, in one or the other case
 have mates : ∀ v, (v ∈ VA \/ v ∈ VB) -> ∀ e : Nat, mt v = (e : Int) -> (D a /\ D e /\ cl e = cl a /\ out (cl a)) \/ (¬ D a /\ ¬ D e /\ ¬ A e) := by
  intro v hv e he
  rcases hv with hv | hv
  ·rcases wA with ⟨k1, _, _, k4, k5⟩ | ⟨k1, _, k5⟩
   ·have := (k5 v hv).2.2 e he
    exact .inl ⟨k1, this.1, this.2, k4⟩
   ·exact .inr ⟨k1, (k5 v hv).2 e he⟩
  ·rcases wB with ⟨k1, k2, k3, k4, k5⟩ | ⟨_, k1, k5⟩
   ·have := (k5 v hv).2.2 e he
    exact .inl ⟨k2, this.1, this.2.trans k3.symm, by rw [k3]; exact k4⟩
   ·exact .inr ⟨k1, (k5 v hv).2 e he⟩
 have new : ∀ {x : Nat}, out' x -> out x \/ (¬ out x /\ ∃ v, (v ∈ VA \/ v ∈ VB) /\ mt v = (x : Int)) := fun {x} hx => by
  by_cases ho : out x
  ·exact .inl ho
  ·exact .inr ⟨ho, ((w.ou x).1 hx).resolve_left ho⟩
 refine ⟨fun {x} hx => ?_, fun {x e q} hx hxd he hq => ?_, ht.t4, fun {x} hx hf => ?_⟩
 ·rcases new hx with g | ⟨_, v, hv, e⟩
  ·exact ht.t1 g
  ·rcases mates v hv x e with k | k
   ·exact h.dis k.2.1
   ·exact k.2.2
 ·have hxn : x < n := h.dlt hxd
  have hme := s.mat.sym hxn he
  by_cases hX : e ∈ VA \/ e ∈ VB
  ·left
   rcases mates e hX x hme with ⟨k1, k2, k3, _⟩ | k
   ·have hq2 : q = b \/ q = a \/ ∃ u, (u ∈ VA \/ u ∈ VB) /\ mt u = (q : Int) := by
     rcases hX with hX | hX
     ·rcases w.A.rev.from e hX with g | ⟨u, hu, g⟩
      ·left; omega
      ·right; right; exact ⟨u, .inl hu, by rw [<- g]; exact hq⟩
     ·rcases w.B.rev.from e hX with g | ⟨u, hu, g⟩
      ·right; left; omega
      ·right; right; exact ⟨u, .inr hu, by rw [<- g]; exact hq⟩
    rcases hq2 with g | g | ⟨u, hu, g⟩
    ·have hn := ht.near h s k1 w.A.hb w.jab
     rw [g]; exact ⟨hn.1, hn.2.1.trans k3.symm⟩
    ·rw [g]; exact ⟨k1, k3.symm⟩
    ·rcases mates u hu q g with k | k
     ·exact ⟨k.2.1, k.2.2.1.trans k3.symm⟩
     ·exact absurd k1 k.1
   ·exact absurd hxd k.2.1
  ·rw [w.fo e (fun g => hX (.inl g)) (fun g => hX (.inr g))] at hq
   rcases new hx with g | ⟨_, u, hu, eu⟩
   ·exact ht.t2 g hxd he hq
   ·exfalso
    have h1 := s.mat.sym (s.lt (wayo hu)) eu
    have : u = e := by omega
    subst this; exact hX hu
 ·have old : out x \/ fr x ≠ -1 -> out' (cl x) := fun g => w.out_of (ht.t5 hx g)
  by_cases hxo : out x
  ·exact old (.inl hxo)
  ·rcases hf with g | g
   ·rcases new g with g | ⟨_, v, hv, e⟩
    ·exact absurd g hxo
    ·rcases mates v hv x e with k | k
     ·rw [k.2.2.1]; exact w.out_of k.2.2.2
     ·exact absurd hx k.2.1
   ·rw [w.fo x (fun k => hxo (w.A.outs x k)) (fun k => hxo (w.B.outs x k))] at g
    exact old (.inr g)
theorem TI.found (ht : TI mt D A cl r out fr) (h : Dn n J mt D A cl) (s : Srch n J mt r out base fr) (hs : ∀ x y, J x y -> J y x) {at' x : Nat} (ha : out at') (hx : x < n) (hxo : ¬ out x) (hf : mt x = -1) (hJ : J x at') : ¬ D at' /\ ¬ D x /\ ¬ A x := by
 have hA : ¬ A x := fun g => by
  obtain ⟨q, k, _⟩ := h.mA g
  omega
 have hD : ¬ D x := fun g => by
  have hn := ht.near h s g ha hJ
  by_cases hc : x = cl x
  ·rw [<- hc] at hn; exact hxo hn.2.2
  ·obtain ⟨q, k, _⟩ := h.inn g hc
   omega
 refine ⟨fun g => ?_, hD, hA⟩
 rcases h.clo g (hs _ _ hJ) hx with k | k
 ·exact hD k.1
 ·exact hA k
theorem Dn.next (h : Dn n J mt D A cl) (s : Srch n J mt r out base fr) (ht : TI mt D A cl r out fr) (hm : Mo mt out base) (hi : Inn n mt fr out) (hs : ∀ x y, J x y -> J y x) (hask : ∀ x, out x -> ∀ z, J x z -> z < n -> (out z /\ base z = base x) \/ (¬ out z /\ fr z ≠ -1))
  {D' A' : Nat -> Prop} {cl' : Nat -> Nat} (hD : ∀ x, D' x ↔ D x \/ out x) (hA : ∀ x, A' x ↔ A x \/ (x < n /\ ¬ D x /\ ¬ out x /\ fr x ≠ -1)) (hc1 : ∀ x, D x -> cl' x = cl x) (hc2 : ∀ x, ¬ D x -> cl' x = base x) : Dn n J mt D' A' cl' := by
 -- no edge from a new point to an old one
 have apart : ∀ {x z : Nat}, out x -> ¬ D x -> J x z -> ¬ D z := fun {x z} hx hxd hJ hz => hxd (ht.near h s hz hx (hs _ _ hJ)).1
 have mate : ∀ {x e : Nat}, out x -> ¬ D x -> mt x = (e : Int) -> ¬ D e /\ ¬ A e := fun {x e} hx hxd he => h.others s.mat (s.lt hx) hxd (ht.t1 hx) he
 have bD : ∀ {x : Nat}, out x -> ¬ D x -> ¬ D (base x) := fun {x} hx hxd => by
  obtain ⟨L, hc, _⟩ := s.chain hx
  exact ((ht.outside h s hs hc hx hxd).1 _ (s.pass hc hx)).1
 have cut : ∀ {x : Nat}, D' x -> D x \/ (out x /\ ¬ D x) := fun {x} hx => by
  by_cases hd : D x
  ·exact .inl hd
  ·exact .inr ⟨((hD x).1 hx).resolve_left hd, hd⟩
 refine ⟨fun {x} hx => ?_, fun {x} hx => ?_, fun {x} hx ha => ?_, fun {x} hx => ?_, fun {x} hx => ?_, fun {x z} hx hJ hz => ?_, fun {x} hx hne => ?_, fun {x} hx he => ?_, fun {y} hy => ?_, fun {y} hy => ?_, fun {x} hx P hP hst => ?_⟩
 ·exact ((hD x).1 hx).elim h.dlt s.lt
 ·exact ((hA x).1 hx).elim h.alt (fun g => g.1)
 ·rcases (hA x).1 ha with g | g
  ·rcases (hD x).1 hx with k | k
   ·exact h.dis k g
   ·exact ht.t1 k g
  ·rcases (hD x).1 hx with k | k
   ·exact g.2.1 k
   ·exact g.2.2.1 k
 ·rcases cut hx with g | ⟨g, gd⟩
  ·rw [hc1 x g]; exact (hD _).2 (.inl (h.clD g))
  ·rw [hc2 x gd]; exact (hD _).2 (.inr (s.bout g))
 ·rcases cut hx with g | ⟨g, gd⟩
  ·rw [hc1 x g, hc1 _ (h.clD g), h.clcl g]
  ·rw [hc2 x gd, hc2 _ (bD g gd), s.bb g]
 ·rcases cut hx with g | ⟨g, gd⟩
  ·rcases h.clo g hJ hz with k | k
   ·exact .inl ⟨(hD z).2 (.inl k.1), by rw [hc1 x g, hc1 z k.1, k.2]⟩
   ·exact .inr ((hA z).2 (.inl k))
  ·have hzd := apart g gd hJ
   rcases hask x g z hJ hz with k | k
   ·exact .inl ⟨(hD z).2 (.inr k.1), by rw [hc2 x gd, hc2 z hzd, k.2]⟩
   ·exact .inr ((hA z).2 (.inr ⟨hz, hzd, k.1, k.2⟩))
 ·rcases cut hx with g | ⟨g, gd⟩
  ·rw [hc1 x g] at hne
   obtain ⟨y, k1, k2, k3⟩ := h.inn g hne
   exact ⟨y, k1, (hD y).2 (.inl k2), by rw [hc1 x g, hc1 y k2, k3]⟩
  ·rw [hc2 x gd] at hne
   obtain ⟨e, k1, k2⟩ := hm x g hne
   have hed := (mate g gd k1).1
   exact ⟨e, k1, (hD e).2 (.inr k2), by rw [hc2 x gd, hc2 e hed, s.pair g k2 k1]⟩
 ·rcases cut hx with g | ⟨g, gd⟩
  ·rw [hc1 x g] at he
   rcases h.bas g he with k | ⟨y, k1, k2⟩
   ·exact .inl k
   ·exact .inr ⟨y, k1, (hA y).2 (.inl k2)⟩
  ·rw [hc2 x gd] at he
   rcases s.mat.rng (s.lt g) with k | ⟨e, hen, k⟩
   ·exact .inl k
   ·right
    have hed := mate g gd k
    refine ⟨e, k, (hA e).2 (.inr ⟨hen, hed.1, fun heo => ?_, ?_⟩)⟩
    ·-- the mate of a base is not outer
     have hbe := s.pair g heo k
     rw [<- he] at hbe
     obtain ⟨L, hc, hind⟩ := s.chain heo
     have hp := s.pass hc heo
     rw [<- hbe] at hp
     exact hind x hp e hc.mem k
    ·obtain ⟨L, hc, _⟩ := s.chain g
     cases hc with
     | root => rw [s.free] at k; omega
     | step e1 e2 _ =>
      have := Int.ofNat.inj (e1.symm.trans k)
      subst this
      omega
 ·rcases (hA y).1 hy with g | ⟨g1, g2, g3, g4⟩
  ·obtain ⟨x, k1, k2⟩ := h.mA g
   exact ⟨x, k1, (hD x).2 (.inl k2)⟩
  ·rcases s.frR g1 with k | ⟨w, k⟩
   ·exact absurd k g4
   ·obtain ⟨x, x1, x2⟩ := hi y w g1 g3 k
    exact ⟨x, x1, (hD x).2 (.inr x2)⟩
 ·rcases (hA y).1 hy with g | ⟨g1, g2, g3, g4⟩
  ·obtain ⟨x, k1, k2⟩ := h.adjA g
   exact ⟨x, (hD x).2 (.inl k1), k2⟩
  ·rcases s.frR g1 with k | ⟨w, k⟩
   ·exact absurd k g4
   ·obtain ⟨w1, w2⟩ := s.frOut g1 k
    exact ⟨w, (hD w).2 (.inr w1), hs _ _ w2⟩
 ·rcases cut hx with g | ⟨g, gd⟩
  ·rw [hc1 x g] at hP hst
   refine h.con g P hP (fun y z hy hz e1 e2 hJ hp => hst y z ((hD y).2 (.inl hy)) ((hD z).2 (.inl hz)) (by rw [hc1 y hy, e1]) (by rw [hc1 z hz, e2]) hJ hp)
  ·rw [hc2 x gd] at hP hst
   obtain ⟨L, hc, _⟩ := s.chain g
   have main : ∀ {v : Nat} {L : List Nat}, Ch mt fr r v L -> out v -> ¬ D v -> base v = base x -> P v := by
    intro v L hc
    induction hc with
    | root =>
     intro _ _ e
     rw [s.rbase] at e; rw [e]; exact hP
    | step e1 e2 h3 ih =>
     rename_i v e w L
     intro hvo hvd hbv
     by_cases hvb : v = base v
     ·rw [hvb, hbv]; exact hP
     ·obtain ⟨e', k1, k2⟩ := hm v hvo hvb
      have : e' = e := by omega
      subst this
      have hed := (mate hvo hvd e1).1
      have hbe := s.pair hvo k2 e1
      obtain ⟨w1, w2⟩ := s.frOut (s.lt k2) e2
      have hwd := apart k2 hed w2
      have hbw := (s.step hvo e1 e2).resolve_right hvb
      have hPw := ih w1 hwd (hbw.trans hbv)
      have hPe := hst w e' ((hD w).2 (.inr w1)) ((hD e').2 (.inr k2)) (by rw [hc2 w hwd, hbw, hbv]) (by rw [hc2 e' hed, <- hbe, hbv]) (hs _ _ w2) hPw
      exact hst e' v ((hD e').2 (.inr k2)) ((hD v).2 (.inr hvo)) (by rw [hc2 e' hed, <- hbe, hbv]) (by rw [hc2 v hvd, hbv]) (hs _ _ (s.mat.adj (s.lt hvo) e1)) hPe
   exact main hc g gd rfl
end Go.Proofs.YtdpnplanohgecaaDoor

open Go Go.Eng
namespace Go.Proofs.YtdpnplanohgecaaDoor
attribute [local congr] undef_congr WpK.congr WpS.congr WpL.congr WpC.congr WpF.congr gotS.congr callS.congr nextS.congr wantS.congr condS.congr
attribute [local irreducible] WpK
attribute [local simp] WpDr_nil WpDr_cons atS_some dwantS_true dwantS_false kindS_light kindS_float kindS_heavy lightS_value floatS_some heavyS_value heavyS_skip heavyS_enter dcallS_some doneS_eq
 isLight isFloat isPlain dLook testBit_dec dChain dLights_nil dLights_skip dLights_one dLight_nil dLight_cons dFreshes_nil dFreshes_one oneF_none oneF_some dFresh_nil dFresh_cons oneL_some oneW_true oneW_false sameV_value dPut dMay valEq arrEq listEq List.getElem?_cons Tr.get_nil dEnd
attribute [local simp] WpS_nil WpS_cons isDefer undef_false wantS_true wantS_false nextS_value nextS_skip nextS_enter callS_some gotS_some aWanted aOp aEvalF aEval opMove opAssign opPick aVal flat flat1 AAct.put opBinOp opConvert opIndex Tr.get_set Tr.get_lay aBin aResults tupled
 aCall aVals aCallB blt_dec ble_dec beq_dec aBinI_add aBinI_sub aBinI_lss aBinI_leq aBinI_gtr aBinI_geq aBinI_eql aBinI_neq index_str len_str len_slice Nat.beq_refl Nat.beq_refl
 opBox opLoad opFieldAddr opIndexAddr acells aAddr opExtract aExtract opUnOp opAlloc opStore opMakeInterface opNilCheck opBuild aParts opBuildSlice aValW
attribute [local simp] und2 und3 und4 und5 und9 und12 field13_0 field13_1 und21 und22 field23_0 field23_1 field24_0 field24_1 field25_0 field25_1 und28 und31 field34_0 field34_1 field34_2 field35_0 field35_1 field35_2 und46 field50_0 field50_1 field50_2 und55 und56 und58 und61 und62 und73 und75 und90 und94 und95 und96 field97_0 field97_1 field97_2 field97_3 field97_4 field97_5 field97_6 field98_0 field98_1 field98_2 field98_3 field98_4 field98_5 field98_6 und99 und106 field107_0 field107_1 field108_0 field108_1 und119 und122 field124_0 field124_1 field124_2 field125_0 field125_1 field125_2 field131_0 field131_1 field132_0 field132_1 und133 field134_0 field134_1 field135_0 field135_1 und148 und156 und160
set_option maxHeartbeats 4000000
set_option linter.unusedSimpArgs false
set_option linter.unusedVariables false
theorem placesX_wp {l bx x : Nat} (C : Nat -> AW -> Prop) (D : AW -> Prop) (hx : x < 18446744073709551616)
  (hC : ∀ left k W, C left W -> left < 18446744073709551616 -> left.testBit k = true -> (∀ j, j < k -> left.testBit j = false) -> tabsIn T0 T0.tabs W = true /\ ∃ st pd fn t n ps asn bd df kin t', W.blocks.get l = some ⟨.loop st pd fn t n ps asn bd df, kin⟩ /\ aSetAll t n ps.toList [.int .i64 (k : Nat)] = some t' /\
   WpR T0 l fn t' n asn bd W (fun v W' => ∃ b : Bool, v = .bool b /\ (b = true -> C (dropLow left) W') /\ (b = false -> D W')))
  {W : AW} (h0 : C x W) (hb : W.Has bx 0 (.int .u64 (x : Nat))) : WpF T0 86 [.func (.yield l) #[] #[], .pointer (some ⟨bx, 0, none⟩)] W (fun _ W' => C 0 W' \/ D W') := by
 have hl := load_of und96 rfl hb
 refine wpF fun86 rfl ?_
 try simp only [zzA]
 refine wpK_reg (fun R hR => by simp [hl]; exact hR) ?_
 try simp only [zzA]
 refine wpK_while1 (I := fun k A W' => A.n = 16 /\ A.defers = [] /\ A.tmps.get 0 = some (.func (.yield l) #[] #[]) /\ A.tmps.get 3 = some (.int .u64 (k : Nat)) /\ k < 18446744073709551616 /\ C k W')
  (J := fun A W' => A.defers = [] /\ C 0 W') (Rt := fun A W' => A.defers = [] /\ D W') (k := x) ?_ ?_ ?_ ?_
 ·exact ⟨rfl, rfl, by simp, by simp, hx, h0⟩
 ·rintro k ⟨tm, n, ds⟩ W3 ⟨hn, hd, h0, h3, hk, hCk⟩ Q' hJ hRt hI
  simp only at hn hd h0
  subst hn; subst hd
  simp only at h3
  by_cases hz : k = 0
  ·subst hz
   try simp only [zzA]
   refine wpK_reg (fun R hR => by simp [h3]; exact hR) ?_
   try simp only [zzA]
   first | refine wpK_onF (by simp []) ?_ | refine wpK_out (by simp []) ?_ | refine zzF (by simp []) ?_ | refine zzB (by simp []) (wpK_skip ?_) | refine zzB (by simp []) ?_
   exact hJ _ _ ⟨rfl, hCk⟩
  have hz' : ¬ (k : Int) = 0 := by omega
  try simp only [zzA]
  refine wpK_reg (fun R hR => by simp [h3, hz', hz]; exact hR) ?_
  try simp only [zzA]
  first | refine wpK_onT (by simp []) ?_ | refine wpK_outT (by simp []) ?_ | refine zzE (by simp []) ?_ | refine wpK_endT (by simp []) ?_
  obtain ⟨q, hq1, hq2⟩ := low_ex hz
  obtain ⟨hT, st, pd, fn, t', n', ps, asn, bd, df, kin, tt, hy1, hy2, hy3⟩ := hC k q W3 hCk hk hq1 hq2
  refine wpK_block ?_
  try simp only [zzA]
  refine wpK_x1 (P := fun b W4 => (b = true -> C (dropLow k) W4) /\ (b = false -> D W4)) (fun R hR => by
   simp [h0, h3, aEnter, fun81, zzC, aCallV]; rw [zzD]
   refine (first_wp hT hk hq1 hq2).mono ?_
   rintro _ W9 ⟨e9, rfl⟩; subst W9
   simp [aEnter, hy1, hy2, aCallV, nextS_round]
   refine hy3.mono ?_
   rintro _ W4 ⟨b, rfl, hC4⟩
   simp; exact hR b W4 hC4) ?_
  rintro b W4 ⟨hC4, hD4⟩
  cases b with
  | false =>
   try simp only [zzA]
   first | refine wpK_onT (by simp []) ?_ | refine wpK_outT (by simp []) ?_ | refine zzE (by simp []) ?_ | refine wpK_endT (by simp []) ?_
   refine wpK_ret ?_
   exact hRt _ _ ⟨rfl, hD4 rfl⟩
  | true =>
  try simp only [zzA]
  first | refine wpK_onF (by simp []) ?_ | refine wpK_out (by simp []) ?_ | refine zzF (by simp []) ?_ | refine zzB (by simp []) (wpK_skip ?_) | refine zzB (by simp []) ?_
  have w1 : IntKind.u64.wrap ((k : Int) - 1) = ((k - 1 : Nat) : Int) := by
   have : ((k : Int) - 1) = ((k - 1 : Nat) : Int) := by omega
   rw [this]; exact wrap_nat .u64 _ (by show k - 1 < 18446744073709551616; omega)
  have hand := aBinI_and .u64 k (k - 1) (by show k < 18446744073709551616; omega) (by show k - 1 < 18446744073709551616; omega)
  have hlt := dropLow_lt hz
  simp only [zzH, zzG]
  try simp only [zzA]
  refine wpK_reg1 (fun R hR => by simp [h3, w1, hand]; exact hR) ?_
  exact hI (dropLow k) _ _ hlt ⟨rfl, rfl, by simp [h0], by simp; rfl, by omega, hC4 rfl⟩
 ·rintro A' W' ⟨h1, h2⟩
  exact ⟨.inr rfl, h1, [], by rfl, .inr h2⟩
 ·rintro A' W' ⟨h1, h2⟩
  exact ⟨.inl rfl, h1, [], by rfl, .inl h2⟩
def Marks (lo : Nat) : List Deferred -> AW -> Prop
 | [], _ => True
 | d :: ds, W => ∃ r, d.target = .collected r /\ lo <= r /\ r < W.next /\ W.blocks.get r = some ⟨.deferred (some []), []⟩ /\ (∀ d' ∈ ds, d'.target ≠ .collected r) /\ Marks lo ds W
theorem Marks.only {lo : Nat} {W W' : AW} {K : Nat -> Prop} (he : Only K W W') : ∀ {ds : List Deferred}, Marks lo ds W -> (∀ d ∈ ds, ∀ r, d.target = .collected r -> lo <= r -> r < W.next -> ¬ K r) -> Marks lo ds W'
 | [], _, _ => trivial
 | d :: ds, h, hk => by
  obtain ⟨r, h1, h2, h3, h4, h5, h6⟩ := h
  exact ⟨r, h1, h2, by have := he.1; omega, by rw [he.2 r h3 (hk d (List.mem_cons_self ..) r h1 h2 h3)]; exact h4, h5, h6.only he (fun d' hd => hk d' (List.mem_cons_of_mem _ hd))⟩
theorem Marks.ext {lo : Nat} {W W' : AW} {ds : List Deferred} (h : Marks lo ds W) (he : Ext W W') : Marks lo ds W' := h.only he (fun _ _ _ _ _ _ x => x)
theorem Marks.low {lo : Nat} {W : AW} : ∀ {ds : List Deferred}, Marks lo ds W -> ∀ d ∈ ds, ∀ r, d.target = .collected r -> r < W.next
 | d :: ds, h, d', hd, r, hr => by
  obtain ⟨r', h1, h2, h3, h4, h5, h6⟩ := h
  cases hd with
  | head => rw [h1] at hr; cases hr; exact h3
  | tail _ hd => exact h6.low d' hd r hr
def JoinL (es : List Edge) (J : List Nat) : Prop := J.length = 40 /\ ∀ (q x : Nat), J[q]? = some x -> x < 1099511627776 /\ ∀ r : Nat, x.testBit r = true ↔ ∃ i : Nat, es[i]? = some ((q : Int), (r : Int)) \/ es[i]? = some ((r : Int), (q : Int))
def setV (x : Nat) : Value := .int .u64 (x : Int)
def Web (W : AW) (p : Nat) (P : Int) (es : List Edge) : Prop := ∃ J, JoinL es J /\ Var W p 108 (.int .i64 P :: J.map setV)
def entsL (es : List Edge) (i : Nat) : List (Value × Value × Nat) := (List.range i).map fun j => (pr (min (es.getD j (0, 0)).1 (es.getD j (0, 0)).2) (max (es.getD j (0, 0)).1 (es.getD j (0, 0)).2), .int .i64 1, j)
theorem entsL_len (es : List Edge) (i : Nat) : (entsL es i).length = i := by simp [entsL]
theorem entsL_succ {es : List Edge} {i : Nat} {a b : Int} (h : es[i]? = some (a, b)) : entsL es (i + 1) = entsL es i ++ [(pr (min a b) (max a b), .int .i64 1, i)] := by
 simp [entsL, List.range_succ, List.getD_eq_getElem?_getD, h]
theorem entsL_get {es : List Edge} {i j : Nat} (hj : j < i) {a b : Int} (h : es[j]? = some (a, b)) : (entsL es i)[j]? = some (pr (min a b) (max a b), .int .i64 1, j) := by
 simp [entsL, List.getElem?_map, List.getElem?_range hj, List.getD_eq_getElem?_getD, h]
theorem entsL_mem {es : List Edge} {i : Nat} (hi : i <= es.length) {e : Value × Value × Nat} (h : e ∈ entsL es i) : ∃ j a b, j < i /\ es[j]? = some (a, b) /\ e = (pr (min a b) (max a b), .int .i64 1, j) := by
 simp only [entsL, List.mem_map, List.mem_range] at h
 obtain ⟨j, hj, rfl⟩ := h
 obtain ⟨⟨a, b⟩, hab⟩ : ∃ e : Edge, es[j] = e := ⟨_, rfl⟩
 have he : es[j]? = some (a, b) := by rw [List.getElem?_eq_getElem (by omega), hab]
 exact ⟨j, a, b, hj, he, by simp [List.getD_eq_getElem?_getD, he]⟩
theorem aFind_put {t : TypeId} {k v v' : Value} : ∀ {es : List (Value × Value × Nat)} {i j : Nat}, aFind T0 t k es i = some (some (i + j, v)) -> aFind T0 t k (putAt es j v') i = some (some (i + j, v'))
 | [], _, _, h => by simp [aFind] at h
 | (k', w, c) :: es, i, 0, h => by
  simp only [aFind] at h
  simp only [putAt, aFind]
  split at h
  ·cases h
  ·rename_i h1
   split at h
   ·rfl
   ·have hge : ∀ (es : List (Value × Value × Nat)) (i m : Nat) (v : Value), aFind T0 t k es i = some (some (m, v)) -> i <= m := by
     intro es
     induction es with
     | nil => intro i m v h; simp [aFind] at h
     | cons b es ih2 =>
      intro i m v h
      obtain ⟨k2, v2, c2⟩ := b
      simp only [aFind] at h
      split at h
      ·cases h
      ·split at h
       ·simp at h; omega
       ·have := ih2 _ _ _ h; omega
    have := hge _ _ _ _ h; omega
 | (k', w, c) :: es, i, j + 1, h => by
  simp only [aFind] at h
  simp only [putAt, aFind]
  split at h
  ·cases h
  ·rename_i h1
   split at h
   ·simp at h
   ·rename_i h2
    rw [show i + (j + 1) = i + 1 + j from by omega] at h ⊢
    exact aFind_put h
theorem bornAt_idx : ∀ {es : List (Value × Value × Nat)} {s i j : Nat}, (∀ (q : Nat) x, es[q]? = some x -> x.2.2 = q + s) -> j < es.length -> bornAt (j + s) es i = some (i + j)
 | [], _, _, _, _, h => by simp at h
 | (k, v, c) :: es, s, i, 0, h, _ => by
  have := h 0 _ rfl
  simp only at this
  have hb : Nat.beq c (0 + s) = true := by rw [beq_dec]; exact decide_eq_true this
  simp only [bornAt, hb]; rfl
 | (k, v, c) :: es, s, i, j + 1, h, hl => by
  have := h 0 _ rfl
  simp only at this
  have hb : Nat.beq c (j + 1 + s) = false := by rw [beq_dec]; exact decide_eq_false (by omega)
  simp only [bornAt, hb]
  have := bornAt_idx (es := es) (s := s + 1) (i := i + 1) (j := j) (fun q x hx => by have := h (q + 1) x (by simpa using hx); omega) (by simpa using hl)
  rw [show j + 1 + s = j + (s + 1) from by omega, this]; congr 1; omega
theorem updAt_same {k v : Value} {c : Nat} : ∀ {es : List (Value × Value × Nat)} {j : Nat}, es[j]? = some (k, v, c) -> updAt es j k v = es
 | [], _, h => by simp at h
 | _ :: es, 0, h => by simp at h; subst h; rfl
 | x :: es, j + 1, h => by simp only [updAt]; rw [updAt_same (by simpa using h)]
theorem putAt_last {k v v' : Value} {c : Nat} : ∀ (es : List (Value × Value × Nat)), putAt (es ++ [(k, v, c)]) es.length v' = es ++ [(k, v', c)]
 | [] => rfl
 | x :: es => by simp only [List.cons_append, List.length_cons, putAt]; rw [putAt_last es]
theorem entsL_key {es : List Edge} {i : Nat} (hi : i <= es.length) : ∀ e ∈ entsL es i, keyOk T0 135 e.1 = true := fun e he => by
 obtain ⟨j, a, b, _, _, rfl⟩ := entsL_mem hi he
 exact keyOk135 _ _
theorem one_bit (s r : Nat) : (1 <<< s).testBit r = decide (s = r) := by rw [Nat.one_shiftLeft, Nat.testBit_two_pow]
theorem or_bit (x s r : Nat) : (x ||| 1 <<< s).testBit r = (x.testBit r || decide (s = r)) := by rw [Nat.testBit_or, one_bit]
theorem or_lt {x s : Nat} (hx : x < 1099511627776) (hs : s < 40) : x ||| 1 <<< s < 1099511627776 := Nat.or_lt_two_pow (n := 40) hx (by rw [Nat.one_shiftLeft]; exact Nat.pow_lt_pow_right (by omega) hs)
theorem take_succ_ex {es : List Edge} {k : Nat} (p : Edge -> Prop) : (∃ i : Nat, ∃ e, (es.take (k + 1))[i]? = some e /\ p e) ↔ (∃ i : Nat, ∃ e, (es.take k)[i]? = some e /\ p e) \/ ∃ e, es[k]? = some e /\ p e := by
 simp only [List.getElem?_take]
 constructor
 ·rintro ⟨i, e, h1, h2⟩
  by_cases hi : i < k
  ·exact .inl ⟨i, e, by rw [if_pos hi]; rw [if_pos (by omega)] at h1; exact h1, h2⟩
  ·by_cases hk : i = k
   ·subst hk; rw [if_pos (by omega)] at h1; exact .inr ⟨e, h1, h2⟩
   ·rw [if_neg (by omega)] at h1; cases h1
 ·rintro (⟨i, e, h1, h2⟩ | ⟨e, h1, h2⟩)
  ·by_cases hi : i < k
   ·rw [if_pos hi] at h1; exact ⟨i, e, by rw [if_pos (by omega)]; exact h1, h2⟩
   ·rw [if_neg hi] at h1; cases h1
  ·exact ⟨k, e, by rw [if_pos (by omega)]; exact h1, h2⟩
theorem join_ex {es : List Edge} {q r : Int} : (∃ i : Nat, es[i]? = some (q, r) \/ es[i]? = some (r, q)) ↔ ∃ i : Nat, ∃ e, es[i]? = some e /\ (e = (q, r) \/ e = (r, q)) := by
 constructor
 ·rintro ⟨i, h | h⟩
  ·exact ⟨i, _, h, .inl rfl⟩
  ·exact ⟨i, _, h, .inr rfl⟩
 ·rintro ⟨i, e, h, rfl | rfl⟩
  ·exact ⟨i, .inl h⟩
  ·exact ⟨i, .inr h⟩
theorem joinL_add {es : List Edge} {k : Nat} {J : List Nat} (h : JoinL (es.take k) J) {a b : Nat} (he : es[k]? = some ((a : Int), (b : Int)) \/ es[k]? = some ((b : Int), (a : Int))) (ha : a < 40) (hb : b < 40) (hab : a ≠ b) :
  JoinL (es.take (k + 1)) ((J.set a (J.getD a 0 ||| 1 <<< b)).set b (J.getD b 0 ||| 1 <<< a)) := by
 obtain ⟨hl, hh⟩ := h
 refine ⟨by simp [hl], fun q x hx => ?_⟩
 have hq : q < 40 := by have := (List.getElem?_eq_some_iff.1 hx).1; simp [hl] at this; exact this
 have hJ : ∀ i, i < 40 -> J[i]? = some (J.getD i 0) := fun i hi => by
  rw [List.getD_eq_getElem?_getD, List.getElem?_eq_getElem (show i < J.length by omega)]; rfl
 have hx' : x = if q = b then J.getD b 0 ||| 1 <<< a else if q = a then J.getD a 0 ||| 1 <<< b else J.getD q 0 := by
  rw [List.getElem?_set, List.getElem?_set] at hx
  simp only [List.length_set, hl] at hx
  by_cases e1 : b = q
  ·subst e1; rw [if_pos rfl, if_pos hb] at hx; rw [if_pos rfl]; exact (Option.some.inj hx).symm
  ·rw [if_neg e1] at hx; rw [if_neg (fun e => e1 e.symm)]
   by_cases e2 : a = q
   ·subst e2; rw [if_pos rfl, if_pos ha] at hx; rw [if_pos rfl]; exact (Option.some.inj hx).symm
   ·rw [if_neg e2, hJ q hq] at hx
    rw [if_neg (fun e => e2 e.symm)]; exact (Option.some.inj hx).symm
 obtain ⟨g1, g2⟩ := hh q _ (hJ q hq)
 have hlt : x < 1099511627776 := by
  rw [hx']
  split
  ·exact or_lt (hh b _ (hJ b hb)).1 ha
  ·split
   ·exact or_lt (hh a _ (hJ a ha)).1 hb
   ·exact g1
 refine ⟨hlt, fun r => ?_⟩
 rw [join_ex, take_succ_ex, <- join_ex, <- g2 r]
 have hek : (∃ e, es[k]? = some e /\ (e = ((q : Int), (r : Int)) \/ e = ((r : Int), (q : Int)))) ↔ (q = a /\ r = b) \/ (q = b /\ r = a) := by
  rcases he with he | he
  ·rw [he]
   constructor
   ·rintro ⟨e, h1, h2⟩
    cases h1
    rcases h2 with h2 | h2 <;> simp only [Prod.mk.injEq] at h2 <;> omega
   ·rintro (⟨rfl, rfl⟩ | ⟨rfl, rfl⟩)
    ·exact ⟨_, rfl, .inl rfl⟩
    ·exact ⟨_, rfl, .inr rfl⟩
  ·rw [he]
   constructor
   ·rintro ⟨e, h1, h2⟩
    cases h1
    rcases h2 with h2 | h2 <;> simp only [Prod.mk.injEq] at h2 <;> omega
   ·rintro (⟨rfl, rfl⟩ | ⟨rfl, rfl⟩)
    ·exact ⟨_, rfl, .inr rfl⟩
    ·exact ⟨_, rfl, .inl rfl⟩
 rw [hek, hx']
 by_cases e1 : q = b
 ·subst e1
  rw [if_pos rfl, or_bit, Bool.or_eq_true, decide_eq_true_eq]
  constructor
  ·rintro (h | h)
   ·exact .inl h
   ·exact .inr (.inr ⟨rfl, h.symm⟩)
  ·rintro (h | ⟨h, _⟩ | ⟨_, h⟩)
   ·exact .inl h
   ·exact absurd h.symm hab
   ·exact .inr h.symm
 ·rw [if_neg e1]
  by_cases e2 : q = a
  ·subst e2
   rw [if_pos rfl, or_bit, Bool.or_eq_true, decide_eq_true_eq]
   constructor
   ·rintro (h | h)
    ·exact .inl h
    ·exact .inr (.inl ⟨rfl, h.symm⟩)
   ·rintro (h | ⟨_, h⟩ | ⟨h, _⟩)
    ·exact .inl h
    ·exact .inr h.symm
    ·exact absurd h e1
  ·rw [if_neg e2]
   constructor
   ·exact .inl
   ·rintro (h | ⟨h, _⟩ | ⟨h, _⟩)
    ·exact h
    ·exact absurd h e2
    ·exact absurd h e1
theorem w1 : IntKind.i64.wrap 1 = 1 := by decide
theorem w2 : IntKind.i64.wrap 2 = 2 := by decide
theorem max_int (k : IntKind) (a b : Int) : aMinMax true (.int k a) [.int k b] = some (.int k (max a b)) := mm_max k k a b
theorem setBlk_get (W : AW) (r : Nat) (o : ABlk) (b : Nat) : (AW.mk (W.blocks.set r o) W.next).blocks.get b = if b = r then some o else W.blocks.get b := by simp only [Tr.get_set]
theorem setBlk_only (W : AW) (r : Nat) (o : ABlk) : Only (fun b => b = r) W ⟨W.blocks.set r o, W.next⟩ := ⟨Nat.le_refl _, fun b _ hb => by rw [setBlk_get, if_neg hb]⟩
theorem look135 {W : AW} {pm : Nat} {es : List (Value × Value × Nat)} {ck : Nat} (hm : W.blocks.get pm = some ⟨.map es ck, []⟩) (a b : Int) : aLookup T0 W 133 (.map (some pm)) (pr a b) false = match aFind T0 135 (pr a b) es 0 with
  | some (some (_, v)) => some v
  | some none => some (.int .i64 0)
  | none => none := by
 simp only [aLookup, und133, keyOk135, aEntries, hm]
 split
 ·rename_i h; simp only [h, aOkd]
 ·rename_i h; simp only [h, zero3, aOkd]
 ·rename_i h; simp only [h]
theorem entry135_new {W : AW} {pm : Nat} {es : List (Value × Value × Nat)} {ck : Nat} (hm : W.blocks.get pm = some ⟨.map es ck, []⟩) (a b : Int) (hf : aFind T0 135 (pr a b) es 0 = some none) :
  aMapEntry T0 W 133 (.map (some pm)) (pr a b) = some (.tuple ⟨[.int .i64 0, .int .i64 ck]⟩, ⟨W.blocks.set pm ⟨.map (es ++ [(pr a b, .int .i64 0, ck)]) (ck + 1), []⟩, W.next⟩) := by
 simp only [aMapEntry, und133, keyOk135, hm, hf, zero3]
theorem entry135_old {W : AW} {pm : Nat} {es : List (Value × Value × Nat)} {ck : Nat} (hm : W.blocks.get pm = some ⟨.map es ck, []⟩) (a b : Int) {i n : Nat} {v : Value} (hf : aFind T0 135 (pr a b) es 0 = some (some (i, v))) (hi : es[i]? = some (pr a b, v, n)) :
  aMapEntry T0 W 133 (.map (some pm)) (pr a b) = some (.tuple ⟨[v, .int .i64 n]⟩, ⟨W.blocks.set pm ⟨.map es ck, []⟩, W.next⟩) := by
 simp only [aMapEntry, und133, keyOk135, hm, hf, hi, updAt_same hi]
theorem eStore {W : AW} {pm : Nat} {es : List (Value × Value × Nat)} {ck : Nat} (hm : W.blocks.get pm = some ⟨.map es ck, []⟩) (b i : Nat) (v : Value) (hb : bornAt b es 0 = some i) :
  aEntryStore W (.map (some pm)) (.int .i64 (b : Int)) v = some ⟨W.blocks.set pm ⟨.map (putAt es i v) ck, []⟩, W.next⟩ := by
 show aEntryStore W (.map (some pm)) (.int .i64 (Int.ofNat b)) v = _
 simp only [aEntryStore, hm, hb]
theorem getD_set_ne {J : List Nat} {a b x : Nat} (h : a ≠ b) : (J.set a x).getD b 0 = J.getD b 0 := by
 rw [List.getD_eq_getElem?_getD, List.getElem?_set, if_neg h, <- List.getD_eq_getElem?_getD]
theorem setV_set (P : Int) (J : List Nat) (a x : Nat) : (Value.int .i64 P :: J.map setV).set (1 + a) (setV x) = .int .i64 P :: (J.set a x).map setV := by
 rw [show 1 + a = a + 1 from by omega, List.set_cons_succ, List.map_set]
theorem setV_get (P : Int) {J : List Nat} {a : Nat} (h : a < J.length) : (Value.int .i64 P :: J.map setV)[1 + a]? = some (setV (J.getD a 0)) := by
 rw [show 1 + a = a + 1 from by omega, List.getElem?_cons_succ, List.getElem?_map, List.getD_eq_getElem?_getD, List.getElem?_eq_getElem h]; rfl
theorem joined_or {W : AW} {p a b : Nat} {P : Int} {J : List Nat} (h : Var W p 108 (.int .i64 P :: J.map setV)) (hl : J.length = 40) (ha : a < 40) (hb : b < 40) (hJ : J.getD a 0 < 1099511627776) :
  aLoadVar T0 W 96 p (1 + a) = some (setV (J.getD a 0)) /\ aBinI .or .u64 ((J.getD a 0 : Nat) : Int) .u64 ((1 <<< b : Nat) : Int) = some (.int .u64 ((J.getD a 0 ||| 1 <<< b : Nat) : Int)) /\
   ∃ W', aStoreVar T0 W 96 p (1 + a) (setV (J.getD a 0 ||| 1 <<< b)) = some W' /\ W'.next = W.next /\ Only (fun x => x = p) W W' /\ Var W' p 108 (.int .i64 P :: (J.set a (J.getD a 0 ||| 1 <<< b)).map setV) := by
 refine ⟨h.load1 (T := T0) und96 rfl (setV_get P (by omega)), aBinI_or .u64 _ _ (Nat.lt_trans hJ (by decide)) ?_, ?_⟩
 ·rw [Nat.one_shiftLeft]; exact Nat.lt_trans (Nat.pow_lt_pow_right (by omega) hb) (by decide)
 ·obtain ⟨W', g1, g2, g3, g4⟩ := var_store1 (t := 96) (v := setV (J.getD a 0 ||| 1 <<< b)) (o := 1 + a) h inf96 is96 rfl rfl (by simp [hl]; omega)
  rw [setV_set] at g4
  exact ⟨W', g1, g2, g3, g4⟩
theorem aFind_snoc {t : TypeId} {k k' v : Value} {c : Nat} (hk : keyOk T0 t k' = true) (hkk : keyEq k k' = true) : ∀ {es : List (Value × Value × Nat)} {i : Nat}, (∀ e ∈ es, keyOk T0 t e.1 = true) -> (∀ e ∈ es, keyEq k e.1 = false) -> aFind T0 t k (es ++ [(k', v, c)]) i = some (some (i + es.length, v))
 | [], i, _, _ => by simp only [List.nil_append, aFind, hk, hkk]; rfl
 | (k2, v2, c2) :: es, i, h1, h2 => by
  have a1 : keyOk T0 t k2 = true := h1 _ (List.mem_cons_self ..)
  have a2 : keyEq k k2 = false := h2 _ (List.mem_cons_self ..)
  simp only [List.cons_append, aFind, a1, a2]
  rw [aFind_snoc hk hkk (fun e he => h1 e (List.mem_cons_of_mem _ he)) (fun e he => h2 e (List.mem_cons_of_mem _ he))]
  simp only [List.length_cons]
  rw [show i + 1 + es.length = i + (es.length + 1) from by omega]
theorem load25 {W : AW} {p : Nat} {x y : Value} (h : Var W p 25 [x, y]) : aLoadVar T0 W 25 p 0 = some (.agg ⟨[x, y]⟩) := h.load (T := T0) und25 agg25 inf25 is25
theorem load24 {W : AW} {p : Nat} {x y : Value} (h : Var W p 24 [x, y]) : aLoadVar T0 W 24 p 0 = some (.agg ⟨[x, y]⟩) := h.load (T := T0) und24 agg24 inf24 is24
theorem load135 {W : AW} {p : Nat} {x y : Int} (h : Var W p 135 [.int .i64 x, .int .i64 y]) : aLoadVar T0 W 135 p 0 = some (pr x y) := h.load (T := T0) und135 agg135 inf135 is135
structure Laying (W : AW) (pw pm : Nat) (P : Int) (es : List Edge) (i : Nat) : Prop where
 web : Web W pw P (es.take i)
 map : W.blocks.get pm = some ⟨.map (entsL es i) i, []⟩
 lt : pm < W.next
theorem Laying.keep {W W' : AW} {pw pm : Nat} {P : Int} {es : List Edge} {i : Nat} {K : Nat -> Prop} (h : Laying W pw pm P es i) (hO : Only K W W') (h1 : ¬ K pw) (h2 : ¬ K pm) : Laying W' pw pm P es i where
 web := let ⟨J, g1, g2⟩ := h.web; ⟨J, g1, g2.only hO h1⟩
 map := (hO.2 pm h.lt h2).trans h.map
 lt := Nat.lt_of_lt_of_le h.lt hO.1
theorem lay_wp {W : AW} {v : Value} (P : Int) {es : List Edge} (h : PairR W v es) (hl : es.length < 4611686018427387904) :
  WpF T0 54 [.agg ⟨[.int .i64 P, v]⟩] W (fun u W' => Ext W W' /\ ((GraphOk P es /\ ∃ p, W.next <= p /\ u = .tuple ⟨[.pointer (some ⟨p, 0, none⟩), .int .i64 0]⟩ /\ Web W' p P es) \/ (¬ GraphOk P es /\ u = .tuple ⟨[.pointer none, .int .i64 40]⟩))) := by
 refine wpF fun54 rfl ?_
 obtain ⟨W1, hW1, hE1, hn1, hV⟩ : ∃ W1, W1 = W.newCells 25 [.int .i64 P, v] /\ Ext W W1 /\ W1.next = W.next + 1 /\ Var W1 W.next 25 [.int .i64 P, v] := ⟨_, rfl, .newCells _ _ _, rfl, Var.new _ _ _⟩
 have hR := h.ext hE1
 obtain ⟨A, c, hv⟩ := h.len
 have l0 : ∀ W', Ext W1 W' -> aLoadVar T0 W' 3 W.next 0 = some (.int .i64 P) := fun W' hE => (hV.ext hE).load1 (T := T0) und3 rfl (j := 0) (v := .int .i64 P) rfl
 have l1 : ∀ W', Ext W1 W' -> aLoadVar T0 W' 22 W.next 1 = some v := fun W' hE => (hV.ext hE).load1 (T := T0) und22 rfl (j := 1) (v := v) rfl
 have ll : ∀ W', aLen T0 W' 22 v = some (.int .i64 es.length) := fun W' => by rw [hv]; exact len_slice und22 _ _ _
 have e11 : Ext W1 W1 := .refl _ _
 try simp only [zzA]
 refine wpK_reg (fun R hR => by simp [<- hW1]; exact hR) ?_
 by_cases h1 : P < 1
 ·try simp only [zzA]
  refine wpK_reg (fun R hR => by simp [l0, e11, h1]; exact hR) ?_
  try simp only [zzA]
  first | refine wpK_onT (by simp []) ?_ | refine wpK_outT (by simp []) ?_ | refine zzE (by simp []) ?_ | refine wpK_endT (by simp []) ?_
  try simp only [zzA]
  refine wpK_reg (fun R hR => by simp []; exact hR) ?_
  exact wpK_ret ⟨.inr rfl, rfl, [.pointer none, .int .i64 40], by simp, hE1, .inr ⟨fun hg => by have := hg.1; omega, rfl⟩⟩
 by_cases h2 : 40 < P
 ·try simp only [zzA]
  refine wpK_reg (fun R hR => by simp [l0, e11, h1, h2]; exact hR) ?_
  try simp only [zzA]
  first | refine wpK_onT (by simp []) ?_ | refine wpK_outT (by simp []) ?_ | refine zzE (by simp []) ?_ | refine wpK_endT (by simp []) ?_
  try simp only [zzA]
  refine wpK_reg (fun R hR => by simp []; exact hR) ?_
  exact wpK_ret ⟨.inr rfl, rfl, [.pointer none, .int .i64 40], by simp, hE1, .inr ⟨fun hg => by have := hg.2.1; omega, rfl⟩⟩
 by_cases h3 : (300 : Int) < es.length
 ·try simp only [zzA]
  refine wpK_reg (fun R hR => by simp [l0, l1, e11, ll, h1, h2, h3]; exact hR) ?_
  try simp only [zzA]
  first | refine wpK_onT (by simp []) ?_ | refine wpK_outT (by simp []) ?_ | refine zzE (by simp []) ?_ | refine wpK_endT (by simp []) ?_
  try simp only [zzA]
  refine wpK_reg (fun R hR => by simp []; exact hR) ?_
  exact wpK_ret ⟨.inr rfl, rfl, [.pointer none, .int .i64 40], by simp, hE1, .inr ⟨fun hg => by have := hg.2.2.1; omega, rfl⟩⟩
 try simp only [zzA]
 refine wpK_reg (fun R hR => by simp [l0, l1, e11, ll, h1, h2, h3]; exact hR) ?_
 try simp only [zzA]
 first | refine wpK_onF (by simp []) ?_ | refine wpK_out (by simp []) ?_ | refine zzF (by simp []) ?_ | refine zzB (by simp []) (wpK_skip ?_) | refine zzB (by simp []) ?_
 obtain ⟨W2, hW2, hE2, hn2, hV2⟩ : ∃ W2, W2 = W1.newCells 108 (.int .i64 P :: zer40) /\ Ext W1 W2 /\ W2.next = W1.next + 1 /\ Var W2 W1.next 108 (.int .i64 P :: zer40) := ⟨_, rfl, .newCells _ _ _, rfl, Var.new _ _ _⟩
 try simp only [zzA]
 refine wpK_reg (fun R hR => by simp [l0, e11, build108, <- hW2]; exact hR) ?_
 obtain ⟨W3, hW3, hE3, hn3, hM3⟩ : ∃ W3, W3 = W2.new (.map [] 0) /\ Ext W2 W3 /\ W3.next = W2.next + 1 /\ W3.blocks.get W2.next = some ⟨.map [] 0, []⟩ := ⟨_, rfl, ⟨Nat.le_succ _, fun b hb _ => by simp only [AW.new, Tr.get_set]; rw [if_neg (by omega)]⟩, rfl, by simp only [AW.new, Tr.get_set, if_true]⟩
 try simp only [zzA]
 refine wpK_reg (fun R hR => by simp [opMakeMap, aMakeMap, aOpt, <- hW3]; exact hR) ?_
 have hE13 := hE2.trans hE3
 have hL0 : Laying W3 W1.next W2.next P es 0 := ⟨⟨List.replicate 40 0, ⟨by simp, fun q x hx => by
   have := List.getElem?_replicate (a := 0) (n := 40) (i := q)
   rw [this] at hx
   split at hx
   ·cases hx; exact ⟨by omega, fun r => by simp⟩
   ·cases hx⟩, by
   have e : (List.replicate 40 0).map setV = zer40 := by rw [List.map_replicate]; rfl
   rw [e]; exact hV2.ext hE3⟩, hM3, by omega⟩
 try simp only [zzA]
 refine wpK_reg (fun R hR => by simp [l1, hE13, ll]; exact hR) ?_
 obtain ⟨pw, hpw⟩ : ∃ p, p = W1.next := ⟨_, rfl⟩
 obtain ⟨pm, hpm⟩ : ∃ p, p = W2.next := ⟨_, rfl⟩
 rw [<- hpw, <- hpm] at hL0
 try simp only [zzA]
 refine wpK_while (I := fun k A W' => A.n = 105 /\ A.defers = [] /\ A.tmps.get 1 = some (.pointer (some ⟨W.next, 0, none⟩)) /\ A.tmps.get 4 = some (.pointer (some ⟨pw, 0, none⟩)) /\ A.tmps.get 5 = some (.map (some pm)) /\ A.tmps.get 29 = some (v) /\ A.tmps.get 30 = some (.int .i64 es.length) /\ Ext W1 W' /\ ∃ i : Nat, A.tmps.get 31 = some (.int .i64 (i : Int)) /\ k = es.length - i /\ i <= es.length /\ GoodTo P es i /\ Laying W' pw pm P es i)
  (J := fun A W' => A.n = 105 /\ A.defers = [] /\ A.tmps.get 1 = some (.pointer (some ⟨W.next, 0, none⟩)) /\ A.tmps.get 4 = some (.pointer (some ⟨pw, 0, none⟩)) /\ A.tmps.get 5 = some (.map (some pm)) /\ A.tmps.get 29 = some (v) /\ A.tmps.get 30 = some (.int .i64 es.length) /\ Ext W1 W' /\ GoodTo P es es.length /\ Laying W' pw pm P es es.length) (Rt := fun A W' => A.defers = [] /\ Ext W1 W' /\ A.tmps.get 2 = some (.pointer none) /\ A.tmps.get 3 = some (.int .i64 40) /\ ¬ GraphOk P es) (k := es.length) ?_ ?_ ?_ ?_
 ·exact ⟨rfl, rfl, by simp [hpw, hpm], by simp [hpw, hpm], by simp [hpw, hpm], by simp [hpw, hpm], by simp [hpw, hpm], hE13, 0, by simp, rfl, by omega, fun i hi => by omega, hL0⟩
 ·rintro k ⟨tm, n, ds⟩ Wa ⟨hn, hd, h1, h4, h5, h29, h30, hEa, i, h31, hk, hi, hg, hLa⟩ Q' hJ hRt hI
  simp only at hn hd h1 h4 h5 h29 h30
  subst hn; subst hd
  simp only at h31
  by_cases hlt : i < es.length
  case neg =>
   have e : i = es.length := by omega
   subst e
   try simp only [zzA]
   refine wpK_reg (fun R hR => by simp [h30, h31]; exact hR) ?_
   try simp only [zzA]
   first | refine wpK_onF (by simp []) ?_ | refine wpK_out (by simp []) ?_ | refine zzF (by simp []) ?_ | refine zzB (by simp []) (wpK_skip ?_) | refine zzB (by simp []) ?_
   exact hJ _ _ ⟨rfl, rfl, by simp [h1, h4, h5, h29, h30], by simp [h1, h4, h5, h29, h30], by simp [h1, h4, h5, h29, h30], by simp [h1, h4, h5, h29, h30], by simp [h1, h4, h5, h29, h30], hEa, hg, hLa⟩
  have hlt' : (i : Int) < es.length := by omega
  try simp only [zzA]
  refine wpK_reg (fun R hR => by simp [h30, h31, hlt']; exact hR) ?_
  try simp only [zzA]
  first | refine wpK_onT (by simp []) ?_ | refine wpK_outT (by simp []) ?_ | refine zzE (by simp []) ?_ | refine wpK_endT (by simp []) ?_
  obtain ⟨⟨a, b⟩, hab⟩ : ∃ e : Edge, es[i] = e := ⟨_, rfl⟩
  have ha : es[i]? = some (a, b) := by rw [List.getElem?_eq_getElem hlt, hab]
  have hRa := hR.ext hEa
  obtain ⟨q, o, hx, hh⟩ := hRa.at (T := T0) ha und22 sz55 .i64
  have lab := load55 hh
  refine wpK_block ?_
  obtain ⟨Wb, hWb, hnb, hEb, hVb⟩ := storeVar_new (T := T0) (W := Wa) (t := 55) (v := pr a b) (z := [.int .i64 0, .int .i64 0]) inf55 (by rw [is55]; rfl) (by rw [is55]; rfl) rfl
  try simp only [zzA]
  refine wpK_reg (fun R hR => by simp [h29, h31, hx, lab, zero55, hWb]; exact hR) ?_
  have la := hVb.load1 (T := T0) und3 rfl (j := 0) (v := .int .i64 a) rfl
  have lb := hVb.load1 (T := T0) und3 rfl (j := 1) (v := .int .i64 b) rfl
  obtain ⟨Wc, hWc, hnc, hEc, hVc⟩ := storeVar_new (T := T0) (W := Wb) (t := 135) (v := pr (min a b) (max a b)) (z := [.int .i64 0, .int .i64 0]) inf135 (by rw [is135]; rfl) (by rw [is135]; rfl) rfl
  try simp only [zzA]
  refine wpK_reg (fun R hR => by simp [ix55_0, ix55_1, la, lb, min_int, max_int, build135, zero135, hWc]; exact hR) ?_
  have hLc := (hLa.keep hEb (fun x => x) (fun x => x)).keep hEc (fun x => x) (fun x => x)
  have hpmlt := hLc.lt
  have hVc' : Var Wc Wb.next 135 [.int .i64 (min a b), .int .i64 (max a b)] := hVc
  have lk := fun W' (hE : Only (fun x => x = pm) Wc W') => load135 (hVc'.only hE (by have := hLa.lt; omega))
  have hEac := hEb.trans hEc
  have hE1c := hEa.trans hEac
  have hMc := hLc.map
  have hbn := hLa.lt
  have l8a : ∀ W', Only (fun x => x = pm) Wc W' -> aLoadVar T0 W' 3 Wb.next 0 = some (.int .i64 (min a b)) := fun W' hE => (hVc'.only hE (by omega)).load1 (T := T0) und3 rfl (j := 0) rfl
  have l8b : ∀ W', Only (fun x => x = pm) Wc W' -> aLoadVar T0 W' 3 Wb.next 1 = some (.int .i64 (max a b)) := fun W' hE => (hVc'.only hE (by omega)).load1 (T := T0) und3 rfl (j := 1) rfl
  have hkl := entsL_len es i
  have hkeys := entsL_key (es := es) (i := i) (by omega)
  have hpw1 : pw < pm := by omega
  have lP : ∀ W', Only (fun x => x = pm) Wc W' -> aLoadVar T0 W' 3 W.next 0 = some (.int .i64 P) := fun W' hE => (hV.only (K := fun x => x = pm) ⟨Nat.le_trans hE1c.1 hE.1, fun b hb hk => by rw [hE.2 b (by have := hE1c.1; omega) hk, hE1c.2 b hb (fun x => x)]⟩ (by omega)).load1 (T := T0) und3 rfl (j := 0) rfl
  have hE1' : ∀ W', Only (fun x => x = pm) Wc W' -> Ext W1 W' := fun W' hE => ⟨Nat.le_trans hE1c.1 hE.1, fun b hb _ => by rw [hE.2 b (by have := hE1c.1; omega) (by omega), hE1c.2 b hb (fun x => x)]⟩
  by_cases hdup : ∃ j : Nat, j < i /\ (es[j]? = some (a, b) \/ es[j]? = some (b, a))
  ·-- an edge that was there
   have hin : ∃ e ∈ entsL es i, keyEq (pr (min a b) (max a b)) e.1 = true := by
    obtain ⟨j, hj, hj2⟩ := hdup
    rcases hj2 with hj2 | hj2
    ·exact ⟨_, List.mem_of_getElem? (entsL_get hj hj2), by rw [keyEq_pr]; simp⟩
    ·exact ⟨_, List.mem_of_getElem? (entsL_get hj hj2), by rw [keyEq_pr]; simp only [Bool.and_eq_true, decide_eq_true_eq]; omega⟩
   obtain ⟨j, e, hf, hje, hke⟩ := aFind_some (T := T0) (t := 135) (i := 0) hkeys hin
   have hji : j < i := by have := (List.getElem?_eq_some_iff.1 hje).1; omega
   obtain ⟨⟨c', d'⟩, hcd⟩ : ∃ e : Edge, es[j] = e := ⟨_, rfl⟩
   have hcj : es[j]? = some (c', d') := by rw [List.getElem?_eq_getElem (by omega), hcd]
   have := entsL_get hji hcj
   rw [hje] at this
   cases this
   simp only [keyEq_pr, Bool.and_eq_true, decide_eq_true_eq] at hke
   rw [<- hke.1, <- hke.2] at hje
   simp only [Nat.zero_add] at hf
   have hfe := entry135_old hMc (min a b) (max a b) hf hje
   obtain ⟨Wd, hWd, hOd, hMd, hnd⟩ : ∃ Wd, Wd = (⟨Wc.blocks.set pm ⟨.map (entsL es i) i, []⟩, Wc.next⟩ : AW) /\ Only (fun x => x = pm) Wc Wd /\ Wd.blocks.get pm = some ⟨.map (entsL es i) i, []⟩ /\ Wd.next = Wc.next := ⟨_, rfl, setBlk_only _ _ _, by rw [setBlk_get, if_pos rfl], rfl⟩
   rw [<- hWd] at hfe
   have hbo : bornAt j (entsL es i) 0 = some j := by
    have := bornAt_idx (es := entsL es i) (s := 0) (i := 0) (j := j) (fun q x hx => by
     have hq : q < i := by have := (List.getElem?_eq_some_iff.1 hx).1; omega
     obtain ⟨⟨c2, d2⟩, hcd2⟩ : ∃ e : Edge, es[q] = e := ⟨_, rfl⟩
     have := entsL_get hq (by rw [List.getElem?_eq_getElem (show q < es.length by omega), hcd2])
     rw [hx] at this; cases this; rfl) (by omega)
    simpa using this
   have hes := eStore hMd j j (.int .i64 2) hbo
   obtain ⟨We, hWe, hOe, hMe, hne'⟩ : ∃ We, We = (⟨Wd.blocks.set pm ⟨.map (putAt (entsL es i) j (.int .i64 2)) i, []⟩, Wd.next⟩ : AW) /\ Only (fun x => x = pm) Wd We /\ We.blocks.get pm = some ⟨.map (putAt (entsL es i) j (.int .i64 2)) i, []⟩ /\ We.next = Wd.next := ⟨_, rfl, setBlk_only _ _ _, by rw [setBlk_get, if_pos rfl], rfl⟩
   rw [<- hWe] at hes
   have k1 := look135 hMc (min a b) (max a b)
   have k2 := look135 hMd (min a b) (max a b)
   have k3 := look135 hMe (min a b) (max a b)
   rw [hf] at k1 k2
   have hf2 := aFind_put (i := 0) (j := j) (v' := .int .i64 2) (by rw [Nat.zero_add]; exact hf)
   rw [hf2] at k3
   simp only at k1 k2 k3
   have hOce := hOd.trans hOe
   have hr0 : Only (fun x => x = pm) Wc Wc := .refl _ _
   have lk0 := lk Wc hr0
   have lkd := lk Wd hOd
   have lke := lk We hOce
   rw [pr] at lk0 lkd lke k1 k2 k3 hfe
   try simp only [zzA]
   refine wpK_dn (wr := Tr.nil |>.set 46 0 |>.set 47 1 |>.set 48 2 |>.set 49 3 |>.set 50 4 |>.set 51 5) (bits := Tr.nil.lay 0 [0, 0, 3, 7, 3, 19, 63]) (ord := [0, 1, 2, 3, 4, 5, 6]) (by kernel_rfl) (by kernel_rfl) (by kernel_rfl) (fun G hG => by
    simp [h5, lk0, lkd, opLookup, k1, k2, opMapEntry, hfe, opEntryStore, hes, hnd, hne', w1, w2]
    exact hG) ?_
   refine wpK_keep (fun tm' => tm'.get 1 = some (.pointer (some ⟨W.next, 0, none⟩)) /\ tm'.get 4 = some (.pointer (some ⟨pw, 0, none⟩)) /\ tm'.get 5 = some (.map (some pm)) /\ tm'.get 8 = some (.pointer (some ⟨Wb.next, 0, none⟩)) /\ tm'.get 29 = some (v) /\ tm'.get 30 = some (.int .i64 es.length) /\ tm'.get 31 = some (.int .i64 (i : Int))) (by simp [h1, h4, h5, h29, h30, h31]) ?_
   rintro tm ⟨h1, h4, h5, h8, h29, h30, h31⟩
   have hE1e := hE1' We hOce
   have hbad : ¬ GraphOk P es := fun hG => by
    have hij := (hG.2.2.2 i hlt a b ha).2.2.2.2.2 j hji
    rw [hcj] at hij
    have : (c' = a /\ d' = b) \/ (c' = b /\ d' = a) := by omega
    rcases this with ⟨rfl, rfl⟩ | ⟨rfl, rfl⟩
    ·exact hij.1 rfl
    ·exact hij.2 rfl
   obtain ⟨i1, i2, i3, i4, i5, _⟩ := hg j hji c' d' hcj
   have n1 : ¬ min a b < 0 := by omega
   have n2 : ¬ P <= max a b := by omega
   have n3 : ¬ min a b = max a b := by omega
   try simp only [zzA]
   refine wpK_reg (fun R hR => by simp [h1, h5, h8, l8a We hOce, l8b We hOce, lP We hOce, lke, opLookup, k3, n1, n2, n3]; exact hR) ?_
   try simp only [zzA]
   first | refine wpK_onT (by simp []) ?_ | refine wpK_outT (by simp []) ?_ | refine zzE (by simp []) ?_ | refine wpK_endT (by simp []) ?_
   try simp only [zzA]
   refine wpK_reg (fun R hR => by simp []; exact hR) ?_
   exact wpK_ret (hRt _ _ ⟨rfl, hE1e, by simp, by simp, hbad⟩)
  ·-- a new one
   have hnew : ∀ j, j < i -> es[j]? ≠ some (a, b) /\ es[j]? ≠ some (b, a) := fun j hj => ⟨fun e => hdup ⟨j, hj, .inl e⟩, fun e => hdup ⟨j, hj, .inr e⟩⟩
   have hne : ∀ e ∈ entsL es i, keyEq (pr (min a b) (max a b)) e.1 = false := fun e he => by
    obtain ⟨j, c', d', hj, hcd, rfl⟩ := entsL_mem (by omega) he
    have := hnew j hj
    rw [hcd] at this
    have e1 : ¬ (c' = a /\ d' = b) := fun e => this.1 (by rw [e.1, e.2])
    have e2 : ¬ (c' = b /\ d' = a) := fun e => this.2 (by rw [e.1, e.2])
    simp only [keyEq_pr, Bool.and_eq_false_iff, decide_eq_false_iff_not]
    omega
   have hf := aFind_none (T := T0) (t := 135) (i := 0) hkeys hne
   have hfe := entry135_new hMc (min a b) (max a b) hf
   obtain ⟨Wd, hWd, hOd, hMd, hnd⟩ : ∃ Wd, Wd = (⟨Wc.blocks.set pm ⟨.map (entsL es i ++ [(pr (min a b) (max a b), .int .i64 0, i)]) (i + 1), []⟩, Wc.next⟩ : AW) /\ Only (fun x => x = pm) Wc Wd /\ Wd.blocks.get pm = some ⟨.map (entsL es i ++ [(pr (min a b) (max a b), .int .i64 0, i)]) (i + 1), []⟩ /\ Wd.next = Wc.next := ⟨_, rfl, setBlk_only _ _ _, by rw [setBlk_get, if_pos rfl], rfl⟩
   rw [<- hWd] at hfe
   have hbo : bornAt i (entsL es i ++ [(pr (min a b) (max a b), .int .i64 0, i)]) 0 = some i := by
    have := bornAt_idx (es := entsL es i ++ [(pr (min a b) (max a b), .int .i64 0, i)]) (s := 0) (i := 0) (j := i) (fun q x hx => by
     by_cases hq : q < i
     ·rw [List.getElem?_append_left (by omega)] at hx
      obtain ⟨⟨c2, d2⟩, hcd2⟩ : ∃ e : Edge, es[q] = e := ⟨_, rfl⟩
      have := entsL_get hq (by rw [List.getElem?_eq_getElem (show q < es.length by omega), hcd2])
      rw [hx] at this; cases this; rfl
     ·rw [List.getElem?_append_right (by omega), hkl] at hx
      have hq0 : q - i = 0 := by have := (List.getElem?_eq_some_iff.1 hx).1; simp at this; omega
      rw [hq0] at hx; cases hx
      simp only; omega) (by simp [hkl])
    simpa using this
   have hes := eStore hMd i i (.int .i64 1) hbo
   have hput : putAt (entsL es i ++ [(pr (min a b) (max a b), .int .i64 0, i)]) i (.int .i64 1) = entsL es (i + 1) := by
    have := putAt_last (k := pr (min a b) (max a b)) (v := .int .i64 0) (v' := .int .i64 1) (c := i) (entsL es i)
    rw [hkl] at this
    rw [this, entsL_succ ha]
   rw [hput] at hes
   obtain ⟨We, hWe, hOe, hMe, hne'⟩ : ∃ We, We = (⟨Wd.blocks.set pm ⟨.map (entsL es (i + 1)) (i + 1), []⟩, Wd.next⟩ : AW) /\ Only (fun x => x = pm) Wd We /\ We.blocks.get pm = some ⟨.map (entsL es (i + 1)) (i + 1), []⟩ /\ We.next = Wd.next := ⟨_, rfl, setBlk_only _ _ _, by rw [setBlk_get, if_pos rfl], rfl⟩
   rw [<- hWe] at hes
   have k1 := look135 hMc (min a b) (max a b)
   have k2 := look135 hMd (min a b) (max a b)
   have k3 := look135 hMe (min a b) (max a b)
   have kself : keyEq (pr (min a b) (max a b)) (pr (min a b) (max a b)) = true := by rw [keyEq_pr]; simp
   have hfd := aFind_snoc (t := 135) (v := .int .i64 0) (c := i) (keyOk135 (min a b) (max a b)) kself (i := 0) hkeys hne
   have hfe3 := aFind_snoc (t := 135) (v := .int .i64 1) (c := i) (keyOk135 (min a b) (max a b)) kself (i := 0) hkeys hne
   rw [<- entsL_succ ha] at hfe3
   rw [hf] at k1
   rw [hfd] at k2
   rw [hfe3] at k3
   simp only at k1 k2 k3
   have hOce := hOd.trans hOe
   have hr0 : Only (fun x => x = pm) Wc Wc := .refl _ _
   have lk0 := lk Wc hr0
   have lkd := lk Wd hOd
   have lke := lk We hOce
   rw [pr] at lk0 lkd lke k1 k2 k3 hfe
   try simp only [zzA]
   refine wpK_dn (wr := Tr.nil |>.set 46 0 |>.set 47 1 |>.set 48 2 |>.set 49 3 |>.set 50 4 |>.set 51 5) (bits := Tr.nil.lay 0 [0, 0, 3, 7, 3, 19, 63]) (ord := [0, 1, 2, 3, 4, 5, 6]) (by kernel_rfl) (by kernel_rfl) (by kernel_rfl) (fun G hG => by
    simp [h5, lk0, lkd, opLookup, k1, k2, opMapEntry, hfe, opEntryStore, hes, hnd, hne', w1, w2]
    exact hG) ?_
   refine wpK_keep (fun tm' => tm'.get 1 = some (.pointer (some ⟨W.next, 0, none⟩)) /\ tm'.get 4 = some (.pointer (some ⟨pw, 0, none⟩)) /\ tm'.get 5 = some (.map (some pm)) /\ tm'.get 8 = some (.pointer (some ⟨Wb.next, 0, none⟩)) /\ tm'.get 29 = some (v) /\ tm'.get 30 = some (.int .i64 es.length) /\ tm'.get 31 = some (.int .i64 (i : Int))) (by simp [h1, h4, h5, h29, h30, h31]) ?_
   rintro tm ⟨h1, h4, h5, h8, h29, h30, h31⟩
   have hE1e := hE1' We hOce
   have hbad : ¬ (0 <= a /\ a < P /\ 0 <= b /\ b < P /\ a ≠ b) -> ¬ GraphOk P es := fun hn hG => by
    have := hG.2.2.2 i hlt a b ha
    exact hn ⟨this.1, this.2.1, this.2.2.1, this.2.2.2.1, this.2.2.2.2.1⟩
   by_cases n1 : min a b < 0
   ·try simp only [zzA]
    refine wpK_reg (fun R hR => by simp [h1, h5, h8, l8a We hOce, l8b We hOce, lP We hOce, lke, opLookup, k3, n1]; exact hR) ?_
    try simp only [zzA]
    first | refine wpK_onT (by simp []) ?_ | refine wpK_outT (by simp []) ?_ | refine zzE (by simp []) ?_ | refine wpK_endT (by simp []) ?_
    try simp only [zzA]
    refine wpK_reg (fun R hR => by simp []; exact hR) ?_
    exact wpK_ret (hRt _ _ ⟨rfl, hE1e, by simp, by simp, hbad (by omega)⟩)
   by_cases n2 : P <= max a b
   ·try simp only [zzA]
    refine wpK_reg (fun R hR => by simp [h1, h5, h8, l8a We hOce, l8b We hOce, lP We hOce, lke, opLookup, k3, n1, n2]; exact hR) ?_
    try simp only [zzA]
    first | refine wpK_onT (by simp []) ?_ | refine wpK_outT (by simp []) ?_ | refine zzE (by simp []) ?_ | refine wpK_endT (by simp []) ?_
    try simp only [zzA]
    refine wpK_reg (fun R hR => by simp []; exact hR) ?_
    exact wpK_ret (hRt _ _ ⟨rfl, hE1e, by simp, by simp, hbad (by omega)⟩)
   by_cases n3 : min a b = max a b
   ·have n1' : ¬ max a b < 0 := by omega
    try simp only [zzA]
    refine wpK_reg (fun R hR => by simp [h1, h5, h8, l8a We hOce, l8b We hOce, lP We hOce, lke, opLookup, k3, n1, n1', n2, n3]; exact hR) ?_
    try simp only [zzA]
    first | refine wpK_onT (by simp []) ?_ | refine wpK_outT (by simp []) ?_ | refine zzE (by simp []) ?_ | refine wpK_endT (by simp []) ?_
    try simp only [zzA]
    refine wpK_reg (fun R hR => by simp []; exact hR) ?_
    exact wpK_ret (hRt _ _ ⟨rfl, hE1e, by simp, by simp, hbad (by omega)⟩)
   try simp only [zzA]
   refine wpK_reg (fun R hR => by simp [h1, h5, h8, l8a We hOce, l8b We hOce, lP We hOce, lke, opLookup, k3, n1, n2, n3]; exact hR) ?_
   try simp only [zzA]
   first | refine wpK_onF (by simp []) ?_ | refine wpK_out (by simp []) ?_ | refine zzF (by simp []) ?_ | refine zzB (by simp []) (wpK_skip ?_) | refine zzB (by simp []) ?_
   obtain ⟨x, hx'⟩ : ∃ x : Nat, min a b = x := ⟨(min a b).toNat, by omega⟩
   obtain ⟨y, hy'⟩ : ∃ y : Nat, max a b = y := ⟨(max a b).toNat, by omega⟩
   have hx40 : x < 40 := by omega
   have hy40 : y < 40 := by omega
   have hek : es[i]? = some ((x : Int), (y : Int)) \/ es[i]? = some ((y : Int), (x : Int)) := by
    rw [ha]
    by_cases hle : a <= b
    ·left; rw [<- hx', <- hy', show min a b = a by omega, show max a b = b by omega]
    ·right; rw [<- hx', <- hy', show min a b = b by omega, show max a b = a by omega]
   have hLe : ∃ J, JoinL (es.take i) J /\ Var We pw 108 (.int .i64 P :: J.map setV) := by
    obtain ⟨J, g1, g2⟩ := hLc.web
    exact ⟨J, g1, g2.only hOce (by omega)⟩
   obtain ⟨J, hJ0, hJV⟩ := hLe
   have hJl := hJ0.1
   have hJx : ∀ q, q < 40 -> J.getD q 0 < 1099511627776 := fun q hq => (hJ0.2 q _ (by rw [List.getD_eq_getElem?_getD, List.getElem?_eq_getElem (show q < J.length by omega)]; rfl)).1
   have m8a := l8a We hOce
   have m8b := l8b We hOce
   rw [hx'] at m8a
   rw [hy'] at m8b
   -- the first point
   obtain ⟨j1, j2, Wf, hf1, hf2, hf3, hf4⟩ := joined_or hJV hJl hx40 hy40 (hJx x hx40)
   have hJl2 : (J.set x (J.getD x 0 ||| 1 <<< y)).length = 40 := by simp [hJl]
   have hyx : x ≠ y := by omega
   obtain ⟨j3, j4, Wg, hg1, hg2, hg3, hg4⟩ := joined_or hf4 hJl2 hy40 hx40 (by rw [getD_set_ne hyx]; exact hJx y hy40)
   rw [getD_set_ne hyx] at j3 j4 hg1 hg4
   have ix1 := ix106 pw 1 x hx40
   have ix2 := ix106 pw 1 y hy40
   have oy := one_wp y (by omega) We
   have ox := one_wp x (by omega) Wf
   have hadd := joinL_add hJ0 hek hx40 hy40 hyx
   have hno8 : ¬ (Wb.next = pw) := by omega
   have n8a : aLoadVar T0 Wf 3 Wb.next 0 = some (.int .i64 (x : Int)) := by rw [<- m8a, loadVar_cell und3 rfl, loadVar_cell und3 rfl]; exact AW.cell_of_get (hf3.2 _ (by omega) hno8) 0
   have n8b : aLoadVar T0 Wf 3 Wb.next 1 = some (.int .i64 (y : Int)) := by rw [<- m8b, loadVar_cell und3 rfl, loadVar_cell und3 rfl]; exact AW.cell_of_get (hf3.2 _ (by omega) hno8) 1
   generalize J.getD x 0 = jx at j1 j2 hf1 hf4 j3 j4 hg1 hg4 hadd
   generalize J.getD y 0 = jy at j3 j4 hg1 hg4 hadd
   generalize ejx : jx ||| 1 <<< y = kx at j2 hf1 hf4 j3 hg1 hg4 hadd
   generalize ejy : jy ||| 1 <<< x = ky at j4 hg1 hg4 hadd
   generalize 1 <<< y = oy1 at oy j2
   generalize 1 <<< x = ox1 at ox j4
   rw [setV] at j1 j3 hf1 hg1
   try simp only [zzA]
   refine wpK_dn (wr := Tr.nil |>.set 75 0 |>.set 76 1 |>.set 77 2 |>.set 78 3 |>.set 79 4 |>.set 80 5 |>.set 81 6 |>.set 82 7 |>.set 83 8 |>.set 84 9 |>.set 85 10 |>.set 86 11 |>.set 87 12 |>.set 88 13) (bits := Tr.nil.lay 0 [0, 0, 2, 1, 9, 31, 63, 0, 128, 384, 1023, 1, 2049, 8191, 16383]) (ord := [0, 1, 2, 3, 4, 5, 6, 7, 8, 9, 10, 11, 12, 13, 14]) (by kernel_rfl) (by kernel_rfl) (by kernel_rfl) (fun G hG => by
    simp [h4, h8, m8a, m8b, ix1, j1, aEnter, fun68, zzC, aCallV]
    rw [dcallS_none]
    refine oy.mono ?_
    rintro _ W9 ⟨e9, rfl⟩; subst W9
    simp [h4, h8, m8a, m8b, ix1, j1, j2, hf1, hf2]
    exact hG) ?_
   refine wpK_keep (fun tm' => tm'.get 1 = some (.pointer (some ⟨W.next, 0, none⟩)) /\ tm'.get 4 = some (.pointer (some ⟨pw, 0, none⟩)) /\ tm'.get 5 = some (.map (some pm)) /\ tm'.get 8 = some (.pointer (some ⟨Wb.next, 0, none⟩)) /\ tm'.get 29 = some (v) /\ tm'.get 30 = some (.int .i64 es.length) /\ tm'.get 31 = some (.int .i64 (i : Int))) (by simp [h1, h4, h5, h8, h29, h30, h31]) ?_
   rintro tm ⟨h1, h4, h5, h8, h29, h30, h31⟩
   try simp only [zzA]
   refine wpK_qn (wr := Tr.nil |>.set 89 0 |>.set 90 1 |>.set 91 2 |>.set 92 3 |>.set 93 4 |>.set 94 5 |>.set 95 6 |>.set 96 7 |>.set 97 8 |>.set 98 9 |>.set 99 10 |>.set 100 11 |>.set 101 12 |>.set 102 13) (bits := Tr.nil.lay 0 [0, 0, 2, 1, 9, 31, 63, 0, 128, 384, 1023, 1, 2049, 8191, 16383]) (ord := [0, 1, 2, 3, 4, 5, 6, 7, 8, 9, 10, 11, 12, 13, 14]) (by kernel_rfl) (by kernel_rfl) (by kernel_rfl) (fun G hG => by
    simp [h4, h8, n8a, n8b, ix2, j3, aEnter, fun68, zzC, aCallV]
    rw [dcallS_none]
    refine ox.mono ?_
    rintro _ W9 ⟨e9, rfl⟩; subst W9
    simp [h4, h8, n8a, n8b, ix2, j3, j4, hg1, hg2]
    exact hG) ?_
   simp only [zzH, zzG]
   refine wpK_keep (fun tm' => tm'.get 1 = some (.pointer (some ⟨W.next, 0, none⟩)) /\ tm'.get 4 = some (.pointer (some ⟨pw, 0, none⟩)) /\ tm'.get 5 = some (.map (some pm)) /\ tm'.get 8 = some (.pointer (some ⟨Wb.next, 0, none⟩)) /\ tm'.get 29 = some (v) /\ tm'.get 30 = some (.int .i64 es.length) /\ tm'.get 31 = some (.int .i64 (i : Int))) (by simp [h1, h4, h5, h8, h29, h30, h31]) ?_
   rintro tm ⟨h1, h4, h5, h8, h29, h30, h31⟩
   try simp only [zzA]
   refine wpK_reg1 (fun R hR => by simp [h31]; exact hR) ?_
   refine hI (es.length - (i + 1)) _ _ (by omega) ⟨rfl, rfl, by simp [h1, h4, h5, h29, h30], by simp [h1, h4, h5, h29, h30], by simp [h1, h4, h5, h29, h30], by simp [h1, h4, h5, h29, h30], by simp [h1, h4, h5, h29, h30], ?_, i + 1, by simp [i64_succ i (by omega)], rfl, by omega, hg.succ ha ⟨by omega, by omega, by omega, by omega, by omega⟩ hnew, ⟨⟨_, hadd, hg4⟩, ?_, by omega⟩⟩
   ·exact ⟨by have := hE1e.1; omega, fun b hb _ => by rw [hg3.2 b (by have := hE1e.1; omega) (by omega), hf3.2 b (by have := hE1e.1; omega) (by omega), hE1e.2 b hb (fun x => x)]⟩
   ·rw [hg3.2 pm (by omega) (by omega), hf3.2 pm (by omega) (by omega)]; exact hMe
 ·rintro A' W' ⟨g1, g2, g3, g4, g5⟩
  exact ⟨.inr rfl, g1, [.pointer none, .int .i64 40], by simp [g3, g4], hE1.trans g2, .inr ⟨g5, rfl⟩⟩
 ·rintro ⟨tm, n, ds⟩ W9 ⟨hn, hd, h1, h4, h5, h29, h30, hE9, hg, hL9⟩
  simp only at hn hd h1 h4 h5 h29 h30
  subst hn; subst hd
  try simp only [zzA]
  refine wpK_reg (fun R hR => by simp [h4]; exact hR) ?_
  exact wpK_ret ⟨.inr rfl, rfl, [.pointer (some ⟨pw, 0, none⟩), .int .i64 0], by simp, hE1.trans hE9, .inl ⟨⟨by omega, by omega, by omega, hg⟩, pw, by omega, rfl, by
   have := hL9.web; rwa [List.take_length] at this⟩⟩
open Classical in
noncomputable def offE (ll : List (List Int)) : Int := if ll.length < 1 \/ 12 < ll.length then 7 else if ∀ r ∈ ll, r.length = ll.length then (if ∀ r ∈ ll, within 1000000 r then 0 else 1) else 7
def OffOk (ll : List (List Int)) : Prop := 1 <= ll.length /\ ll.length <= 12 /\ (∀ r ∈ ll, r.length = ll.length) /\ ∀ r ∈ ll, within 1000000 r

def gI (l : List Int) (i : Nat) : Int := l.getD i 0
def mAt (ll : List (List Int)) (i j : Nat) : Int := gI (ll.getD i []) j
theorem gI_some {l : List Int} {i : Nat} (h : i < l.length) : l[i]? = some (gI l i) := by
 rw [gI, List.getD_eq_getElem?_getD, List.getElem?_eq_getElem h]; rfl
theorem row_some {ll : List (List Int)} {i : Nat} (h : i < ll.length) : ll[i]? = some (ll.getD i []) := by
 rw [List.getD_eq_getElem?_getD, List.getElem?_eq_getElem h]; rfl
theorem within_gI {m : Int} {l : List Int} (h : within m l) {i : Nat} (hi : i < l.length) : -m <= gI l i /\ gI l i <= m := h _ (List.mem_of_getElem? (gI_some hi))
def ArePr (ll : List (List Int)) (u v : List Int) (w : Int) : Prop := OffOk ll /\ u.length = ll.length /\ v.length = ll.length /\ within 1000000000000000 u /\ within 1000000000000000 v /\
 (∀ i j, i < ll.length -> j < ll.length -> mAt ll i j <= gI u i + gI v j) /\ sumN ll.length (fun i => gI u i + gI v i) = w
theorem i64_in {x : Int} (h : -9223372036854775808 <= x /\ x < 9223372036854775808) : IntKind.i64.wrap x = x := IntWalk.i64_in _ (by omega)

def vI (l : List Int) : List Value := l.map (Value.int .i64)
def BestFrom (n : Nat) (c : Nat -> Nat -> Int) (B : Nat -> Int) (t : Nat) : Prop := B (2 ^ n - 1) = 0 /\ ∀ s, t <= s -> s < 2 ^ n -> (-(1000000 * ((n - pc s : Nat) : Int)) <= B s /\ B s <= 1000000 * ((n - pc s : Nat) : Int)) /\
 (s ≠ 2 ^ n - 1 -> (∀ q, q < n -> s.testBit q = false -> c (pc s) q + B (s ||| 1 <<< q) <= B s) /\ ∃ q, q < n /\ s.testBit q = false /\ c (pc s) q + B (s ||| 1 <<< q) = B s)
def PartN (n : Nat) (c : Nat -> Nat -> Int) (B : Nat -> Int) (t j : Nat) : Prop := (∀ q, q < j -> t.testBit q = false -> c (pc t) q + B (t ||| 1 <<< q) <= B t) /\
 ((B t = -9223372036854775808 /\ ∀ q, q < j -> t.testBit q = true) \/ ∃ q, q < j /\ t.testBit q = false /\ c (pc t) q + B (t ||| 1 <<< q) = B t)
theorem OffOk.bound {ll : List (List Int)} (h : OffOk ll) {i j : Nat} (hi : i < ll.length) (hj : j < ll.length) : -1000000 <= mAt ll i j /\ mAt ll i j <= 1000000 := by
 have hx := row_some hi
 have hm := List.mem_of_getElem? hx
 exact within_gI (h.2.2.2 _ hm) (by rw [h.2.2.1 _ hm]; exact hj)
theorem has_is {s p : Nat} {b : Bool} (hb : s.testBit p = b) (hs : s < 18446744073709551616) (hp : p <= 64) (W : AW) : WpF T0 60 [.int .u64 s, .int .i64 p] W (fun v W' => W' = W /\ v = .bool b) := by
 have := has_wp s p hs hp W
 rwa [hb] at this
def natsV (ps : List Nat) : List Value := ps.map fun p : Nat => Value.int .i64 (p : Int)
theorem natsV_flat (ps : List Nat) : natsV ps = flatE (encI .i64) (ps.map Int.ofNat) := by
 induction ps with
 | nil => rfl
 | cons a l ih => simp only [natsV, flatE, List.map_cons, List.flatMap_cons] at ih ⊢; rw [ih]; rfl
theorem natsV_row {W : AW} {v : Value} {ps : List Nat} {K : Nat -> Prop} (h : GrowsN W v ps.length (natsV ps) 3 1 K) : IntR W v (ps.map Int.ofNat) := by
 rw [natsV_flat] at h
 exact GrowsN.row (l := ps.map Int.ofNat) encI_len (by simpa using h)
def IsAssign (ll : List (List Int)) (ps : List Nat) (B : Nat -> Int) : Prop := ps.length = ll.length /\ BestN ll.length (mAt ll) B /\ Chosen ll.length (mAt ll) B ps /\ -12000000 <= B 0 /\ B 0 <= 12000000
def setsL (g : Nat -> Nat) : List Value := (List.range 40).map fun j => Value.int .u64 (g j : Nat)
def updN (g : Nat -> Nat) (j x : Nat) : Nat -> Nat := fun i => if i = j then x else g i
abbrev OrdAt (W : AW) (o n : Nat) (f : Nat -> Nat) : Prop := Var W o 132 (.int .i64 (n : Int) :: setsL f)
theorem Only.wide {W W' : AW} {K : Nat -> Prop} (h : Ext W W') : Only K W W' := h.mono (fun _ _ x => x.elim)
structure PWalk (l b1 o n lo : Nat) (C : Nat -> Nat -> AW -> Prop) (E : Nat -> AW -> Prop) (Kx : Nat -> Prop) : Prop where
 stay : ∀ a x W W', C a x W -> Only (fun b => lo <= b) W W' -> C a x W'
 stayE : ∀ a W W', E a W -> Only (fun b => lo <= b) W W' -> E a W'
 base : ∀ a W, E a W -> lo <= W.next /\ 0 < lo /\ W.Has b1 0 (.pointer (some ⟨o, 0, none⟩)) /\ b1 < lo /\ o < lo /\ ∃ f : Nat -> Nat, OrdAt W o n f /\ (a < n -> f a < 1099511627776 /\ C a (f a) W)
 tabs : ∀ a x W, C a x W -> lo <= W.next /\ tabsIn T0 T0.tabs W = true
 next : ∀ a W, a < n -> C a 0 W -> E (a + 1) W
 low : ∀ b, Kx b -> b < lo
 ask : ∀ a left k W, a < n -> C a left W -> left < 18446744073709551616 -> left.testBit k = true -> (∀ j, j < k -> left.testBit j = false) -> ∃ st pd fn t n ps asn bd df kin t', W.blocks.get l = some ⟨.loop st pd fn t n ps asn bd df, kin⟩ /\
  aSetAll t n ps.toList [.int .i64 (a : Int), .int .i64 (k : Int)] = some t' /\ WpR T0 l fn t' n asn bd W (fun v W' => Only Kx W W' /\ v = .bool true /\ C a (dropLow left) W')
def bitR (f : Nat -> Nat) : Nat -> Nat -> Bool := fun a b => (f a).testBit b
theorem lt40 {x : Nat} (h : ∀ b, x.testBit b = true -> b < 40) : x < 1099511627776 := by
 apply Nat.lt_pow_two_of_testBit (n := 40)
 intro i hi
 cases e : x.testBit i with
 | false => rfl
 | true => have := h i e; omega
def rowV (b n : Nat) : Value := .slice (some ⟨b, 0, none⟩) n (2 * n)
def boolsL (n : Nat) (g : Nat -> Bool) : List Value := (List.range n).map fun j => .bool (g j)
def updB (g : Nat -> Bool) (j : Nat) (b : Bool) : Nat -> Bool := fun i => if i = j then b else g i
def outerL (n k : Nat) (f : Nat -> Nat) : List Value := (List.range n).map fun i => if i < k then rowV (f i) n else .slice none 0 0
structure PMat (W : AW) (m n k : Nat) (f : Nat -> Nat) (r : Nat -> Nat -> Bool) : Prop where
 outer : Var W m 46 (outerL n k f)
 row : ∀ i, i < k -> Var W (f i) 4 (boolsL n (r i))
 ne : ∀ i, i < k -> f i ≠ m
 inj : ∀ i j, i < k -> j < k -> f i = f j -> i = j
def BMat (W : AW) (v : Value) (n : Nat) (r : Nat -> Nat -> Bool) (K : Nat -> Prop) : Prop := ∃ m f, v = rowV m n /\ PMat W m n n f r /\ K m /\ ∀ i, i < n -> K (f i)
def adjB (es : List Edge) : Nat -> Nat -> Bool := fun a b => decide (((a : Int), (b : Int)) ∈ es)
def relO (n : Nat) (es : List Edge) : Nat -> Nat -> Bool := wR (adjB es) n
def OrdIn (n : Int) (es : List Edge) : Prop := 1 <= n /\ n <= 40 /\ es.length <= 400 /\ ∀ e ∈ es, 0 <= e.1 /\ e.1 < n /\ 0 <= e.2 /\ e.2 < n
def OrdOk (n : Int) (es : List Edge) : Prop := OrdIn n es /\ ∀ a, a < n.toNat -> relO n.toNat es a a = false

open Classical in
noncomputable def chkO (n : Int) (es : List Edge) : Int := if OrdOk n es then 0 else 41
def numL (n : Nat) (g : Nat -> Nat) : List Value := natsV ((List.range n).map g)
abbrev NumsAt (W : AW) (b n : Nat) (g : Nat -> Nat) : Prop := Var W b 3 (numL n g)

theorem vals_flat (us : List Value) : us = flatE encV us := by
 induction us with
 | nil => rfl
 | cons a l ih => simp only [flatE, List.flatMap_cons] at ih ⊢; rw [<- ih]; rfl
theorem vals_row {W : AW} {v : Value} {us : List Value} {el : TypeId} {K : Nat -> Prop} (h : GrowsN W v us.length us el 1 K) : RowIn 1 encV W v us := by
 have h' : GrowsN W v us.length (flatE encV us) el 1 K := by rw [<- vals_flat]; exact h
 exact GrowsN.row (enc := encV) (l := us) (fun _ => rfl) h'
theorem grow_push2 {W : AW} {t el : TypeId} {i : TypeInfo} {z : Value} (ht : T0.und.get t = some (.slice el)) (hi : T0.info.get el = some i) (hs : i.size = 1) (hz : i.zero = some z) (hz1 : (acells z).length = 1) (hb : i.bytes <= 24)
  {v : Value} {m : Nat} {l : List Value} {K : Nat -> Prop} (h : GrowsN W v m l el 1 K) (hm : m <= 100000) (x : Value) (hx : oneCells [x] = true) :
  ∃ v' W', aAppend T0 (W.newCells el [x]) [t, t] [v, .slice (some ⟨W.next, 0, none⟩) 1 2] = some (v', W') /\ W'.next = W.next + 2 /\ GrowsN W' v' (m + 1) (l ++ [x]) el 1 (fun b => K b \/ b = W.next + 1) /\ Only K W W' := by
 have hE : Ext W (W.newCells el [x]) := .newCells _ _ _
 have hV := Var.new W el [x]
 have hx' : (W.newCells el [x]).cellsAt W.next 0 1 = some [x] := by
  rw [hV.cellsAt 0 1 (by simp)]; rfl
 obtain ⟨v', W', g1, g2, g3, g4⟩ := append_growsN (T := T0) (t := t) (by omega) ht hi hs hz hz1 (h.only (K' := fun _ => False) hE (fun _ _ _ x => x)) (u := [x]) (bx := W.next) (c := 2) rfl hx' hx (by
  have : 2 * (m + 1) * i.bytes <= 2 * (m + 1) * 24 := Nat.mul_le_mul_left _ hb
  omega) (by omega)
 refine ⟨v', W', g1, by rw [g2, newCells_next], g3.mono (fun b hb => hb.elim .inl (fun e => .inr (by rw [newCells_next] at e; omega))), ⟨by rw [g2, newCells_next]; omega, fun b hb hk => ?_⟩⟩
 rw [g4.2 b (by rw [newCells_next]; omega) hk, newCells_get, if_neg (by omega)]
structure Made (W W0 : AW) (t : Value) (own : List (List Int)) (n : Nat) (K S : Nat -> Prop) : Prop where
 kl : ∀ b, K b -> b < W.next /\ W0.next <= b
 sl : ∀ b, S b -> b < W.next /\ W0.next <= b /\ ¬ K b
 ok : ∀ r ∈ own, r.length = n /\ within 1000000 r
 rows : ∃ us : List Value, us.length = own.length /\ GrowsN W t own.length us 62 1 K /\ ∀ (i : Nat) u l, us[i]? = some u -> own[i]? = some l -> GrowsN W u l.length (vI l) 2 1 S
theorem nat_at {W : AW} {v : Value} {c : List Nat} {K : Nat -> Prop} (h : GrowsN W v c.length (natsV c) 3 1 K) {i : Nat} (hi : i < c.length) : ∃ b p, aIndexAddr T0 31 v (.int .i64 (i : Int)) = some (.pointer (some ⟨b, p, none⟩)) /\ aLoadVar T0 W 3 b p = some (.int .i64 ((c.getD i 0 : Nat) : Int)) := by
 obtain ⟨b, p, h1, h2, h3⟩ := (natsV_row h).int1 (T := T0) (i := i) (x := ((c.getD i 0 : Nat) : Int)) (by rw [List.getElem?_map, List.getD_eq_getElem?_getD, List.getElem?_eq_getElem hi]; rfl) und31 sz3 und3 rfl
 exact ⟨b, p, h1, h3⟩
theorem grow_nat {W : AW} {v : Value} {c : List Nat} {K : Nat -> Prop} (h : GrowsN W v c.length (natsV c) 3 1 K) (hm : c.length <= 100000) (x : Nat) :
  ∃ v' W', aAppend T0 (W.newCells 3 [.int .i64 (x : Int)]) [31, 31] [v, .slice (some ⟨W.next, 0, none⟩) 1 2] = some (v', W') /\ W'.next = W.next + 2 /\ GrowsN W' v' (c ++ [x]).length (natsV (c ++ [x])) 3 1 (fun b => K b \/ b = W.next + 1) /\ Only K W W' := by
 obtain ⟨v', W', k1, k2, k3, k4⟩ := grow_push2 (t := 31) (el := 3) und31 inf3 is3 z3 rfl (by rw [by3]; omega) h hm (.int .i64 (x : Int)) rfl
 refine ⟨v', W', k1, k2, ?_, k4⟩
 have e : natsV (c ++ [x]) = natsV c ++ [.int .i64 (x : Int)] := by simp [natsV]
 rw [e, List.length_append, List.length_singleton]; exact k3

theorem Marks.collects2 {lo : Nat} : ∀ {ds : List Deferred} {W : AW}, Marks lo ds W -> ∃ W', Collects ds W W' /\ Only (fun b => ∃ d ∈ ds, d.target = .collected b) W W'
 | [], W, _ => ⟨W, rfl, .refl _ _⟩
 | d :: ds, W, h => by
  obtain ⟨r, h1, h2, h3, h4, h5, h6⟩ := h
  have h6' : Marks lo ds (W.setObj r (.deferred none)) := h6.only (setObj_only W r _) (fun d' hd r' hr _ _ e => h5 d' hd (by rw [hr, e]))
  obtain ⟨W', g1, g2⟩ := h6'.collects2
  exact ⟨W', ⟨r, h1, h4, g1⟩, Only.trans (Only.mono (setObj_only W r _) (fun b _ e => ⟨d, List.mem_cons_self .., by rw [e]; exact h1⟩)) (g2.mono (fun b _ ⟨d', hd, e⟩ => ⟨d', List.mem_cons_of_mem _ hd, e⟩))⟩
theorem Marks.above {lo : Nat} {W : AW} : ∀ {ds : List Deferred}, Marks lo ds W -> ∀ d ∈ ds, ∀ r, d.target = .collected r -> lo <= r
 | d :: ds, h, d', hd, r, hr => by
  obtain ⟨r', h1, h2, h3, h4, h5, h6⟩ := h
  cases hd with
  | head => rw [h1] at hr; cases hr; exact h2
  | tail _ hd => exact h6.above d' hd r hr
theorem ix94 (p o q : Nat) (hq : q < 40) : aIndexAddr T0 94 (.pointer (some ⟨p, o, none⟩)) (.int .i64 (q : Nat)) = some (.pointer (some ⟨p, o + q, none⟩)) := by
 show aIndexAddr T0 94 (.pointer (some ⟨p, o, none⟩)) (.int .i64 (Int.ofNat q)) = _
 simp only [aIndexAddr, und94, sz3, blt_dec, hq, decide_true, Nat.mul_one]
def lnkV (nx pr : Nat -> Int) (met j : Nat) : Value := if j < 40 then .int .i64 (nx j) else if j < 80 then .int .i64 (pr (j - 40)) else .int .u64 (met : Int)
def lnkL (nx pr : Nat -> Int) (met : Nat) : List Value := (List.range 81).map (lnkV nx pr met)
abbrev LinkAt (W : AW) (l : Nat) (nx pr : Nat -> Int) (met : Nat) : Prop := Var W l 125 (lnkL nx pr met)
structure Cap (W : AW) (o l c1 c2 c3 n : Nat) (g : Nat -> Nat) : Prop where
 h1 : W.Has c1 0 (.pointer (some ⟨o, 0, none⟩))
 h2 : W.Has c2 0 (.pointer (some ⟨l, 0, none⟩))
 h3 : W.Has c3 0 (.func (.func 84) ⟨[]⟩ ⟨[.pointer (some ⟨c1, 0, none⟩), .pointer (some ⟨c2, 0, none⟩), .pointer (some ⟨c3, 0, none⟩)]⟩)
 ord : OrdAt W o n g

structure PS where
 mt : Nat -> Int
 bs : Nat -> Int
 fr : Nat -> Int
 ot : Nat
 ln : Value
 fe : Nat
def psV (w : Nat) (s : PS) (j : Nat) : Value :=
 if j = 0 then .pointer (some ⟨w, 0, none⟩) else if j < 41 then .int .i64 (s.mt (j - 1)) else if j < 81 then .int .i64 (s.bs (j - 41)) else if j < 121 then .int .i64 (s.fr (j - 81)) else if j = 121 then .int .u64 (s.ot : Int) else if j = 122 then s.ln else .int .u64 (s.fe : Int)
def psL (w : Nat) (s : PS) : List Value := (List.range 124).map (psV w s)
theorem psL_len (w : Nat) (s : PS) : (psL w s).length = 124 := by simp [psL]
theorem psL_at (w : Nat) (s : PS) {j : Nat} (h : j < 124) : (psL w s)[j]? = some (psV w s j) := by
 simp only [psL, List.getElem?_map, List.getElem?_range h]; rfl
theorem psL_set {w : Nat} {s s' : PS} {j : Nat} {v : Value} (hv : psV w s' j = v) (ho : ∀ i, i < 124 -> i ≠ j -> psV w s' i = psV w s i) (hj : j < 124) : (psL w s).set j v = psL w s' := by
 apply List.ext_getElem?
 intro i
 rw [List.getElem?_set]
 by_cases hi : i < 124
 ·rw [psL_at _ _ hi, psL_at _ _ hi, psL_len]
  by_cases e : j = i
  ·subst e; rw [if_pos rfl, if_pos hi, hv]
  ·rw [if_neg e, ho i hi (Ne.symm e)]
 ·rw [List.getElem?_eq_none (by rw [psL_len]; omega), List.getElem?_eq_none (by rw [psL_len]; omega)]
  split
  ·rw [psL_len, if_neg (by omega)]
  ·rfl
abbrev PairAt (W : AW) (p w : Nat) (s : PS) : Prop := Var W p 98 (psL w s)
theorem psV_mt (w : Nat) (s : PS) {j : Nat} (h : j < 40) : psV w s (1 + j) = .int .i64 (s.mt j) := by
 unfold psV; rw [if_neg (by omega), if_pos (by omega), Nat.add_sub_cancel_left]
theorem psV_bs (w : Nat) (s : PS) {j : Nat} (h : j < 40) : psV w s (41 + j) = .int .i64 (s.bs j) := by
 unfold psV; rw [if_neg (by omega), if_neg (by omega), if_pos (by omega), Nat.add_sub_cancel_left]
theorem psV_fr (w : Nat) (s : PS) {j : Nat} (h : j < 40) : psV w s (81 + j) = .int .i64 (s.fr j) := by
 unfold psV; rw [if_neg (by omega), if_neg (by omega), if_neg (by omega), if_pos (by omega), Nat.add_sub_cancel_left]
theorem ps_web {W : AW} {p w : Nat} {s : PS} (h : PairAt W p w s) : aLoadVar T0 W 90 p 0 = some (.pointer (some ⟨w, 0, none⟩)) := h.load1 (T := T0) und90 rfl (j := 0) (by rw [psL_at _ _ (by omega)]; rfl)
theorem ps_mt {W : AW} {p w : Nat} {s : PS} (h : PairAt W p w s) {j : Nat} (hj : j < 40) : aLoadVar T0 W 3 p (1 + j) = some (.int .i64 (s.mt j)) := h.load1 (T := T0) und3 rfl (j := 1 + j) (by rw [psL_at _ _ (by omega), psV_mt _ _ hj])
theorem ps_bs {W : AW} {p w : Nat} {s : PS} (h : PairAt W p w s) {j : Nat} (hj : j < 40) : aLoadVar T0 W 3 p (41 + j) = some (.int .i64 (s.bs j)) := h.load1 (T := T0) und3 rfl (j := 41 + j) (by rw [psL_at _ _ (by omega), psV_bs _ _ hj])
theorem ps_fr {W : AW} {p w : Nat} {s : PS} (h : PairAt W p w s) {j : Nat} (hj : j < 40) : aLoadVar T0 W 3 p (81 + j) = some (.int .i64 (s.fr j)) := h.load1 (T := T0) und3 rfl (j := 81 + j) (by rw [psL_at _ _ (by omega), psV_fr _ _ hj])
theorem ps_ot {W : AW} {p w : Nat} {s : PS} (h : PairAt W p w s) : aLoadVar T0 W 96 p 121 = some (.int .u64 (s.ot : Int)) := h.load1 (T := T0) und96 rfl (j := 121) (by rw [psL_at _ _ (by omega)]; rfl)
theorem ps_ln {W : AW} {p w : Nat} {s : PS} (h : PairAt W p w s) : aLoadVar T0 W 31 p 122 = some s.ln := h.load1 (T := T0) und31 rfl (j := 122) (by rw [psL_at _ _ (by omega)]; rfl)
theorem ps_fe {W : AW} {p w : Nat} {s : PS} (h : PairAt W p w s) : aLoadVar T0 W 96 p 123 = some (.int .u64 (s.fe : Int)) := h.load1 (T := T0) und96 rfl (j := 123) (by rw [psL_at _ _ (by omega)]; rfl)
theorem ps_setMt {W : AW} {p w : Nat} {s : PS} (h : PairAt W p w s) {j : Nat} (hj : j < 40) (v : Int) :
  ∃ W', aStoreVar T0 W 3 p (1 + j) (.int .i64 v) = some W' /\ W'.next = W.next /\ Only (fun c => c = p) W W' /\ PairAt W' p w { s with mt := updI s.mt j v } := by
 obtain ⟨W', g1, g2, g3, g4⟩ := var_store1 (t := 3) (v := .int .i64 v) (o := 1 + j) h inf3 is3 rfl rfl (by rw [psL_len]; omega)
 rw [psL_set (s' := { s with mt := updI s.mt j v }) (by rw [psV_mt _ _ hj]; simp only [updI_eq]) (fun i hi e => by
  unfold psV
  by_cases h1 : i = 0
  ·rw [if_pos h1, if_pos h1]
  ·rw [if_neg h1, if_neg h1]
   by_cases h2 : i < 41
   ·rw [if_pos h2, if_pos h2]; simp only; rw [updI_ne _ _ (by omega)]
   ·rw [if_neg h2, if_neg h2]) (by omega)] at g4
 exact ⟨W', g1, g2, g3, g4⟩
theorem ps_setBs {W : AW} {p w : Nat} {s : PS} (h : PairAt W p w s) {j : Nat} (hj : j < 40) (v : Int) :
  ∃ W', aStoreVar T0 W 3 p (41 + j) (.int .i64 v) = some W' /\ W'.next = W.next /\ Only (fun c => c = p) W W' /\ PairAt W' p w { s with bs := updI s.bs j v } := by
 obtain ⟨W', g1, g2, g3, g4⟩ := var_store1 (t := 3) (v := .int .i64 v) (o := 41 + j) h inf3 is3 rfl rfl (by rw [psL_len]; omega)
 rw [psL_set (s' := { s with bs := updI s.bs j v }) (by rw [psV_bs _ _ hj]; simp only [updI_eq]) (fun i hi e => by
  unfold psV
  by_cases h1 : i = 0
  ·rw [if_pos h1, if_pos h1]
  ·rw [if_neg h1, if_neg h1]
   by_cases h2 : i < 41
   ·rw [if_pos h2, if_pos h2]
   ·rw [if_neg h2, if_neg h2]
    by_cases h3 : i < 81
    ·rw [if_pos h3, if_pos h3]; simp only; rw [updI_ne _ _ (by omega)]
    ·rw [if_neg h3, if_neg h3]) (by omega)] at g4
 exact ⟨W', g1, g2, g3, g4⟩
theorem ps_setFr {W : AW} {p w : Nat} {s : PS} (h : PairAt W p w s) {j : Nat} (hj : j < 40) (v : Int) :
  ∃ W', aStoreVar T0 W 3 p (81 + j) (.int .i64 v) = some W' /\ W'.next = W.next /\ Only (fun c => c = p) W W' /\ PairAt W' p w { s with fr := updI s.fr j v } := by
 obtain ⟨W', g1, g2, g3, g4⟩ := var_store1 (t := 3) (v := .int .i64 v) (o := 81 + j) h inf3 is3 rfl rfl (by rw [psL_len]; omega)
 rw [psL_set (s' := { s with fr := updI s.fr j v }) (by rw [psV_fr _ _ hj]; simp only [updI_eq]) (fun i hi e => by
  unfold psV
  by_cases h1 : i = 0
  ·rw [if_pos h1, if_pos h1]
  ·rw [if_neg h1, if_neg h1]
   by_cases h2 : i < 41
   ·rw [if_pos h2, if_pos h2]
   ·rw [if_neg h2, if_neg h2]
    by_cases h3 : i < 81
    ·rw [if_pos h3, if_pos h3]
    ·rw [if_neg h3, if_neg h3]
     by_cases h4 : i < 121
     ·rw [if_pos h4, if_pos h4]; simp only; rw [updI_ne _ _ (by omega)]
     ·rw [if_neg h4, if_neg h4]) (by omega)] at g4
 exact ⟨W', g1, g2, g3, g4⟩
theorem psV_low {w : Nat} {s s' : PS} {i : Nat} (h1 : s.mt = s'.mt) (h2 : s.bs = s'.bs) (h3 : s.fr = s'.fr) (hi : i < 121) : psV w s i = psV w s' i := by
 unfold psV
 rw [h1, h2, h3]
 by_cases a1 : i = 0
 ·rw [if_pos a1, if_pos a1]
 ·rw [if_neg a1, if_neg a1]
  by_cases a2 : i < 41
  ·rw [if_pos a2, if_pos a2]
  ·rw [if_neg a2, if_neg a2]
   by_cases a3 : i < 81
   ·rw [if_pos a3, if_pos a3]
   ·rw [if_neg a3, if_neg a3, if_pos hi, if_pos hi]
theorem ps_setOt {W : AW} {p w : Nat} {s : PS} (h : PairAt W p w s) (x : Nat) :
  ∃ W', aStoreVar T0 W 96 p 121 (.int .u64 (x : Int)) = some W' /\ W'.next = W.next /\ Only (fun c => c = p) W W' /\ PairAt W' p w { s with ot := x } := by
 obtain ⟨W', g1, g2, g3, g4⟩ := var_store1 (t := 96) (v := .int .u64 (x : Int)) (o := 121) h inf96 is96 rfl rfl (by rw [psL_len]; omega)
 rw [psL_set (j := 121) (v := .int .u64 (x : Int)) (s' := { s with ot := x }) (by rfl) (fun i hi e => by
  by_cases h1 : i < 121
  ·exact psV_low rfl rfl rfl h1
  ·rcases (show i = 122 \/ i = 123 by omega) with e2 | e2 <;> subst e2 <;> rfl) (by omega)] at g4
 exact ⟨W', g1, g2, g3, g4⟩
theorem ps_setLn {W : AW} {p w : Nat} {s : PS} (h : PairAt W p w s) (x : Value) (hx : ∃ A n c, x = .slice A n c) :
  ∃ W', aStoreVar T0 W 31 p 122 x = some W' /\ W'.next = W.next /\ Only (fun c => c = p) W W' /\ PairAt W' p w { s with ln := x } := by
 obtain ⟨A, m, c, rfl⟩ := hx
 obtain ⟨W', g1, g2, g3, g4⟩ := var_store1 (t := 31) (v := .slice A m c) (o := 122) h inf31 is31 rfl rfl (by rw [psL_len]; omega)
 rw [psL_set (j := 122) (v := .slice A m c) (s' := { s with ln := .slice A m c }) (by rfl) (fun i hi e => by
  by_cases h1 : i < 121
  ·exact psV_low rfl rfl rfl h1
  ·rcases (show i = 121 \/ i = 123 by omega) with e2 | e2 <;> subst e2 <;> rfl) (by omega)] at g4
 exact ⟨W', g1, g2, g3, g4⟩
theorem ps_setFe {W : AW} {p w : Nat} {s : PS} (h : PairAt W p w s) (x : Nat) :
  ∃ W', aStoreVar T0 W 96 p 123 (.int .u64 (x : Int)) = some W' /\ W'.next = W.next /\ Only (fun c => c = p) W W' /\ PairAt W' p w { s with fe := x } := by
 obtain ⟨W', g1, g2, g3, g4⟩ := var_store1 (t := 96) (v := .int .u64 (x : Int)) (o := 123) h inf96 is96 rfl rfl (by rw [psL_len]; omega)
 rw [psL_set (j := 123) (v := .int .u64 (x : Int)) (s' := { s with fe := x }) (by rfl) (fun i hi e => by
  by_cases h1 : i < 121
  ·exact psV_low rfl rfl rfl h1
  ·rcases (show i = 121 \/ i = 122 by omega) with e2 | e2 <;> subst e2 <;> rfl) (by omega)] at g4
 exact ⟨W', g1, g2, g3, g4⟩
theorem turn_wp {J : Nat -> Nat -> Prop} {n p w r e0 : Nat} {fr mt0 : Nat -> Int} {Z : Nat -> Prop} (hn : n <= 40) (hs : ∀ x y, J x y -> J y x) (hfrJ : ∀ x w : Nat, x < n -> fr x = (w : Int) -> J x w) {W : AW} {s : PS} (hP : PairAt W p w s) (hfr : ∀ x, x < n -> s.fr x = fr x) {b : Nat} {L : List Nat} (hT : Turn n J fr mt0 s.mt r e0 e0 b L Z) (hb : fr e0 = (b : Int)) :
  WpF T0 79 [.pointer (some ⟨p, 0, none⟩), .int .i64 (e0 : Int)] W (fun _ W' => Only (fun x => x = p) W W' /\ ∃ mt', PairAt W' p w { s with mt := mt' } /\ Mt n J mt' /\ (∀ x, x < n -> (mt' x = -1 ↔ mt0 x = -1 /\ x ≠ e0 /\ x ≠ r)) /\ ∀ z, Z z -> mt' z = mt0 z) := by
 refine wpF fun79 rfl ?_
 try simp only [zzA]
 refine wpK_while1 (I := fun q A' W' => A'.n = 33 /\ A'.defers = [] /\ A'.tmps.get 0 = some (.pointer (some ⟨p, 0, none⟩)) /\ Only (fun x => x = p) W W' /\ ∃ (en : Int) (mtc : Nat -> Int), A'.tmps.get 1 = some (.int .i64 en) /\ PairAt W' p w { s with mt := mtc } /\
   ((∃ (e b : Nat) (L : List Nat), en = (e : Int) /\ fr e = (b : Int) /\ q = L.length + 1 /\ Turn n J fr mt0 mtc r e0 e b L Z) \/ (en = -1 /\ q = 0 /\ Mt n J mtc /\ (∀ x, x < n -> (mtc x = -1 ↔ mt0 x = -1 /\ x ≠ e0 /\ x ≠ r)) /\ ∀ z, Z z -> mtc z = mt0 z)))
  (J := fun A' W' => A'.defers = [] /\ Only (fun x => x = p) W W' /\ ∃ mt', PairAt W' p w { s with mt := mt' } /\ Mt n J mt' /\ (∀ x, x < n -> (mt' x = -1 ↔ mt0 x = -1 /\ x ≠ e0 /\ x ≠ r)) /\ ∀ z, Z z -> mt' z = mt0 z) (Rt := fun _ _ => False) (k := L.length + 1) ?_ ?_ ?_ ?_
 ·exact ⟨rfl, rfl, rfl, .refl _ _, (e0 : Int), s.mt, rfl, hP, .inl ⟨e0, b, L, rfl, hb, rfl, hT⟩⟩
 ·rintro q ⟨tm, n, ds⟩ Wa ⟨hn, hd, h0, hOa, en, mtc, h1, hPa, hst⟩ Q' hJ hRt hI
  simp only at hn hd h0
  subst hn; subst hd
  simp only at h1
  rcases hst with ⟨e, b, L, hen, hfe, hq, hT⟩ | ⟨hen, hq, g1, g2, g3⟩
  case inr =>
   subst hen
   try simp only [zzA]
   refine wpK_reg (fun R hR => by simp [h1]; exact hR) ?_
   try simp only [zzA]
   first | refine wpK_onF (by simp []) ?_ | refine wpK_out (by simp []) ?_ | refine zzF (by simp []) ?_ | refine zzB (by simp []) (wpK_skip ?_) | refine zzB (by simp []) ?_
   exact hJ _ _ ⟨rfl, hOa, mtc, hPa, g1, g2, g3⟩
  subst hen
  have hen := hT.en
  have he1 : ¬ (e : Int) = -1 := by omega
  obtain ⟨hbn, hbe, hcase⟩ := hT.step hs hfrJ
  try simp only [zzA]
  refine wpK_reg (fun R hR => by simp [h1, he1]; exact hR) ?_
  try simp only [zzA]
  first | refine wpK_onT (by simp []) ?_ | refine wpK_outT (by simp []) ?_ | refine zzE (by simp []) ?_ | refine wpK_endT (by simp []) ?_
  have lf := ps_fr hPa (j := e) (by omega)
  simp only at lf
  rw [hfr e hen, hfe] at lf
  have lm := ps_mt hPa (j := b) (by omega)
  simp only at lm
  have i1 := ix94 p 81 e (by omega)
  have i2 := ix94 p 1 b (by omega)
  have i3 := ix94 p 1 e (by omega)
  obtain ⟨Wb, w1, w2, w3, w4⟩ := ps_setMt hPa (j := e) (by omega) (b : Int)
  obtain ⟨Wc, x1, x2, x3, x4⟩ := ps_setMt w4 (j := b) (by omega) (e : Int)
  have nb := w3.1
  have ncc := x3.1
  have nbc := Nat.le_trans nb ncc
  simp only at x4
  refine wpK_block1 ?_
  try simp only [zzA]
  refine wpK_reg (fun R hR => by simp [h0, h1, i1, lf]; exact hR) ?_
  try simp only [zzA]
  refine wpK_reg (fun R hR => by simp [h0, i2, lm]; exact hR) ?_
  try simp only [zzA]
  refine wpK_dn (wr := Tr.nil |>.set 20 0 |>.set 21 1 |>.set 22 2 |>.set 23 3 |>.set 24 4 |>.set 25 5 |>.set 26 6 |>.set 27 7 |>.set 28 8 |>.set 29 10 |>.set 30 11 |>.set 31 12) (bits := Tr.nil.lay 0 [0, 0, 0, 0, 0, 0, 1, 65, 211, 467, 4, 1028, 4095, 8191]) (ord := [0, 1, 2, 3, 4, 5, 6, 7, 8, 9, 10, 11, 12, 13]) (by kernel_rfl) (by kernel_rfl) (by kernel_rfl) (fun G hG => by
   simp [h0, h1, i2, i3, w1, x1, nb, ncc, nbc]
   exact hG) ?_
  try simp only [zzA]
  refine wpK_reg1 (fun R hR => by simp []; exact hR) ?_
  simp only [zzH, zzG]
  refine hI (match mtc b with | .ofNat _ => L.length | _ => 0) _ _ (by rw [hq]; split <;> omega) ⟨rfl, rfl, by simp [h0], (hOa.trans w3).trans x3, mtc b, _, by simp, x4, ?_⟩
  rcases hcase with ⟨c1, c2, c3, c4, c5⟩ | ⟨e1, b1, L1, c1, c2, c3, c4⟩
  ·right; rw [c1]; exact ⟨rfl, rfl, c3, c4, c5⟩
  ·left; rw [c1]; exact ⟨e1, b1, L1, rfl, c2, by rw [c3]; simp, c4⟩
 ·rintro A' W' hf; exact hf.elim
 ·rintro ⟨tm, n', ds⟩ W' ⟨h1, h2, h3⟩
  simp only at h1
  subst h1
  exact ⟨.inl rfl, rfl, [], by rfl, h2, h3⟩
end Go.Proofs.YtdpnplanohgecaaDoor