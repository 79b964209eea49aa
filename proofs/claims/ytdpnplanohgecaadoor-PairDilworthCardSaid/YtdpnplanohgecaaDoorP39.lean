import Derived.Test.YtdpnplanohgecaaDoorPt1
import Derived.Test.YtdpnplanohgecaaDoorEngVr
import Derived.Test.YtdpnplanohgecaaDoorEngPm
import Derived.Test.YtdpnplanohgecaaDoorEngBt
import Derived.KernelRfl
import Derived.Test.YtdpnplanohgecaaDoorEngRe
import Derived.Test.YtdpnplanohgecaaDoorEngSm
import Derived.Test.YtdpnplanohgecaaDoorTie
import Derived.Test.YtdpnplanohgecaaDoorCards
import Derived.SevenTiedAt
import Derived.Lib.SmallJoins
set_option linter.unusedSimpArgs false
set_option linter.unusedVariables false
set_option linter.unusedSectionVars false
open Go Go.Eng
namespace Go.Proofs.YtdpnplanohgecaaDoor
theorem und2 : T0.und.get 2 = some (.int .i64) := by kernel_rfl
theorem z2 : Tryd.t2.zero = some (.int .i64 0) := by kernel_rfl
theorem und3 : T0.und.get 3 = some (.int .i64) := by kernel_rfl
theorem sz3 : aSize T0 3 = some 1 := by kernel_rfl
theorem inf3 : T0.info.get 3 = some Tryd.t3 := by kernel_rfl
theorem is3 : Tryd.t3.size = 1 := by kernel_rfl
theorem by3 : Tryd.t3.bytes = 8 := by kernel_rfl
theorem zero3 : aZero T0 3 = some (.int .i64 0) := by kernel_rfl
theorem z3 : Tryd.t3.zero = some (.int .i64 0) := by kernel_rfl
theorem und4 : T0.und.get 4 = some .bool := by kernel_rfl
theorem sz4 : aSize T0 4 = some 1 := by kernel_rfl
theorem inf4 : T0.info.get 4 = some Tryd.t4 := by kernel_rfl
theorem is4 : Tryd.t4.size = 1 := by kernel_rfl
theorem by4 : Tryd.t4.bytes = 1 := by kernel_rfl
theorem zero4 : aZero T0 4 = some (.bool false) := by kernel_rfl
theorem z4 : Tryd.t4.zero = some (.bool false) := by kernel_rfl
theorem und5 : T0.und.get 5 = some (.int .u8) := by kernel_rfl
theorem sz5 : aSize T0 5 = some 1 := by kernel_rfl
theorem z5 : Tryd.t5.zero = some (.int .u8 0) := by kernel_rfl
theorem und9 : T0.und.get 9 = some .string := by kernel_rfl
theorem und12 : T0.und.get 12 = some (.int .u64) := by kernel_rfl
theorem field13_0 (b o : Nat) : aField T0 13 (.pointer (some ⟨b, o, none⟩)) 0 = some (.pointer (some ⟨b, o, none⟩)) := by rfl
theorem field13_1 (b o : Nat) : aField T0 13 (.pointer (some ⟨b, o, none⟩)) 1 = some (.pointer (some ⟨b, o + 1, none⟩)) := by rfl
theorem und21 : T0.und.get 21 = some (.int .i32) := by kernel_rfl
theorem und22 : T0.und.get 22 = some (.slice 55) := by kernel_rfl
theorem field23_0 (b o : Nat) : aField T0 23 (.pointer (some ⟨b, o, none⟩)) 0 = some (.pointer (some ⟨b, o, none⟩)) := by rfl
theorem field23_1 (b o : Nat) : aField T0 23 (.pointer (some ⟨b, o, none⟩)) 1 = some (.pointer (some ⟨b, o + 1, none⟩)) := by rfl
theorem field24_0 (b o : Nat) : aField T0 24 (.pointer (some ⟨b, o, none⟩)) 0 = some (.pointer (some ⟨b, o, none⟩)) := by rfl
theorem field24_1 (b o : Nat) : aField T0 24 (.pointer (some ⟨b, o, none⟩)) 1 = some (.pointer (some ⟨b, o + 1, none⟩)) := by rfl
theorem field25_0 (b o : Nat) : aField T0 25 (.pointer (some ⟨b, o, none⟩)) 0 = some (.pointer (some ⟨b, o, none⟩)) := by rfl
theorem field25_1 (b o : Nat) : aField T0 25 (.pointer (some ⟨b, o, none⟩)) 1 = some (.pointer (some ⟨b, o + 1, none⟩)) := by rfl
theorem und28 : T0.und.get 28 = some (.int .i64) := by kernel_rfl
theorem und31 : T0.und.get 31 = some (.slice 3) := by kernel_rfl
theorem sz31 : aSize T0 31 = some 1 := by kernel_rfl
theorem inf31 : T0.info.get 31 = some Tryd.t31 := by kernel_rfl
theorem is31 : Tryd.t31.size = 1 := by kernel_rfl
theorem by31 : Tryd.t31.bytes = 24 := by kernel_rfl
theorem zero31 : aZero T0 31 = some (.slice none 0 0) := by kernel_rfl
theorem z31 : Tryd.t31.zero = some (.slice none 0 0) := by kernel_rfl
theorem field34_0 (b o : Nat) : aField T0 34 (.pointer (some ⟨b, o, none⟩)) 0 = some (.pointer (some ⟨b, o, none⟩)) := by rfl
theorem field34_1 (b o : Nat) : aField T0 34 (.pointer (some ⟨b, o, none⟩)) 1 = some (.pointer (some ⟨b, o + 1, none⟩)) := by rfl
theorem field34_2 (b o : Nat) : aField T0 34 (.pointer (some ⟨b, o, none⟩)) 2 = some (.pointer (some ⟨b, o + 2, none⟩)) := by rfl
theorem field35_0 (b o : Nat) : aField T0 35 (.pointer (some ⟨b, o, none⟩)) 0 = some (.pointer (some ⟨b, o, none⟩)) := by rfl
theorem field35_1 (b o : Nat) : aField T0 35 (.pointer (some ⟨b, o, none⟩)) 1 = some (.pointer (some ⟨b, o + 1, none⟩)) := by rfl
theorem field35_2 (b o : Nat) : aField T0 35 (.pointer (some ⟨b, o, none⟩)) 2 = some (.pointer (some ⟨b, o + 2, none⟩)) := by rfl
theorem und46 : T0.und.get 46 = some (.slice 4) := by kernel_rfl
theorem sz46 : aSize T0 46 = some 1 := by kernel_rfl
theorem inf46 : T0.info.get 46 = some Tryd.t46 := by kernel_rfl
theorem is46 : Tryd.t46.size = 1 := by kernel_rfl
theorem by46 : Tryd.t46.bytes = 24 := by kernel_rfl
theorem z46 : Tryd.t46.zero = some (.slice none 0 0) := by kernel_rfl
theorem field50_0 (b o : Nat) : aField T0 50 (.pointer (some ⟨b, o, none⟩)) 0 = some (.pointer (some ⟨b, o, none⟩)) := by rfl
theorem field50_1 (b o : Nat) : aField T0 50 (.pointer (some ⟨b, o, none⟩)) 1 = some (.pointer (some ⟨b, o + 1, none⟩)) := by rfl
theorem field50_2 (b o : Nat) : aField T0 50 (.pointer (some ⟨b, o, none⟩)) 2 = some (.pointer (some ⟨b, o + 2, none⟩)) := by rfl
theorem und55 : T0.und.get 55 = some (.array 2 3) := by kernel_rfl
theorem sz55 : aSize T0 55 = some 2 := by kernel_rfl
theorem inf55 : T0.info.get 55 = some Tryd.t55 := by kernel_rfl
theorem is55 : Tryd.t55.size = 2 := by kernel_rfl
theorem by55 : Tryd.t55.bytes = 16 := by kernel_rfl
theorem zero55 : aZero T0 55 = some (.agg ⟨[.int .i64 0, .int .i64 0]⟩) := by kernel_rfl
theorem z55 : Tryd.t55.zero = some (.agg ⟨[.int .i64 0, .int .i64 0]⟩) := by kernel_rfl
theorem und56 : T0.und.get 56 = some (.int .u64) := by kernel_rfl
theorem und58 : T0.und.get 58 = some (.slice 31) := by kernel_rfl
theorem und61 : T0.und.get 61 = some (.slice 62) := by kernel_rfl
theorem und62 : T0.und.get 62 = some (.slice 2) := by kernel_rfl
theorem und73 : T0.und.get 73 = some (.array 2 62) := by kernel_rfl
theorem und75 : T0.und.get 75 = some (.slice 46) := by kernel_rfl
theorem und90 : T0.und.get 90 = some (.pointer 108) := by kernel_rfl
theorem und94 : T0.und.get 94 = some (.array 40 3) := by kernel_rfl
theorem und95 : T0.und.get 95 = some (.int .u64) := by kernel_rfl
theorem und96 : T0.und.get 96 = some (.int .u64) := by kernel_rfl
theorem sz96 : aSize T0 96 = some 1 := by kernel_rfl
theorem inf96 : T0.info.get 96 = some Tryd.t96 := by kernel_rfl
theorem is96 : Tryd.t96.size = 1 := by kernel_rfl
theorem zero96 : aZero T0 96 = some (.int .u64 0) := by kernel_rfl
theorem field97_0 (b o : Nat) : aField T0 97 (.pointer (some ⟨b, o, none⟩)) 0 = some (.pointer (some ⟨b, o, none⟩)) := by rfl
theorem field97_1 (b o : Nat) : aField T0 97 (.pointer (some ⟨b, o, none⟩)) 1 = some (.pointer (some ⟨b, o + 1, none⟩)) := by rfl
theorem field97_2 (b o : Nat) : aField T0 97 (.pointer (some ⟨b, o, none⟩)) 2 = some (.pointer (some ⟨b, o + 41, none⟩)) := by rfl
theorem field97_3 (b o : Nat) : aField T0 97 (.pointer (some ⟨b, o, none⟩)) 3 = some (.pointer (some ⟨b, o + 81, none⟩)) := by rfl
theorem field97_4 (b o : Nat) : aField T0 97 (.pointer (some ⟨b, o, none⟩)) 4 = some (.pointer (some ⟨b, o + 121, none⟩)) := by rfl
theorem field97_5 (b o : Nat) : aField T0 97 (.pointer (some ⟨b, o, none⟩)) 5 = some (.pointer (some ⟨b, o + 122, none⟩)) := by rfl
theorem field97_6 (b o : Nat) : aField T0 97 (.pointer (some ⟨b, o, none⟩)) 6 = some (.pointer (some ⟨b, o + 123, none⟩)) := by rfl
theorem field98_0 (b o : Nat) : aField T0 98 (.pointer (some ⟨b, o, none⟩)) 0 = some (.pointer (some ⟨b, o, none⟩)) := by rfl
theorem field98_1 (b o : Nat) : aField T0 98 (.pointer (some ⟨b, o, none⟩)) 1 = some (.pointer (some ⟨b, o + 1, none⟩)) := by rfl
theorem field98_2 (b o : Nat) : aField T0 98 (.pointer (some ⟨b, o, none⟩)) 2 = some (.pointer (some ⟨b, o + 41, none⟩)) := by rfl
theorem field98_3 (b o : Nat) : aField T0 98 (.pointer (some ⟨b, o, none⟩)) 3 = some (.pointer (some ⟨b, o + 81, none⟩)) := by rfl
theorem field98_4 (b o : Nat) : aField T0 98 (.pointer (some ⟨b, o, none⟩)) 4 = some (.pointer (some ⟨b, o + 121, none⟩)) := by rfl
theorem field98_5 (b o : Nat) : aField T0 98 (.pointer (some ⟨b, o, none⟩)) 5 = some (.pointer (some ⟨b, o + 122, none⟩)) := by rfl
theorem field98_6 (b o : Nat) : aField T0 98 (.pointer (some ⟨b, o, none⟩)) 6 = some (.pointer (some ⟨b, o + 123, none⟩)) := by rfl
theorem und99 : T0.und.get 99 = some (.pointer 98) := by kernel_rfl
theorem und106 : T0.und.get 106 = some (.array 40 96) := by kernel_rfl
theorem field107_0 (b o : Nat) : aField T0 107 (.pointer (some ⟨b, o, none⟩)) 0 = some (.pointer (some ⟨b, o, none⟩)) := by rfl
theorem field107_1 (b o : Nat) : aField T0 107 (.pointer (some ⟨b, o, none⟩)) 1 = some (.pointer (some ⟨b, o + 1, none⟩)) := by rfl
theorem field108_0 (b o : Nat) : aField T0 108 (.pointer (some ⟨b, o, none⟩)) 0 = some (.pointer (some ⟨b, o, none⟩)) := by rfl
theorem field108_1 (b o : Nat) : aField T0 108 (.pointer (some ⟨b, o, none⟩)) 1 = some (.pointer (some ⟨b, o + 1, none⟩)) := by rfl
theorem und119 : T0.und.get 119 = some (.pointer 132) := by kernel_rfl
theorem inf119 : T0.info.get 119 = some Tryd.t119 := by kernel_rfl
theorem is119 : Tryd.t119.size = 1 := by kernel_rfl
theorem zero119 : aZero T0 119 = some (.pointer none) := by kernel_rfl
theorem und122 : T0.und.get 122 = some (.pointer 125) := by kernel_rfl
theorem inf122 : T0.info.get 122 = some Tryd.t122 := by kernel_rfl
theorem is122 : Tryd.t122.size = 1 := by kernel_rfl
theorem zero122 : aZero T0 122 = some (.pointer none) := by kernel_rfl
theorem field124_0 (b o : Nat) : aField T0 124 (.pointer (some ⟨b, o, none⟩)) 0 = some (.pointer (some ⟨b, o, none⟩)) := by rfl
theorem field124_1 (b o : Nat) : aField T0 124 (.pointer (some ⟨b, o, none⟩)) 1 = some (.pointer (some ⟨b, o + 40, none⟩)) := by rfl
theorem field124_2 (b o : Nat) : aField T0 124 (.pointer (some ⟨b, o, none⟩)) 2 = some (.pointer (some ⟨b, o + 80, none⟩)) := by rfl
theorem field125_0 (b o : Nat) : aField T0 125 (.pointer (some ⟨b, o, none⟩)) 0 = some (.pointer (some ⟨b, o, none⟩)) := by rfl
theorem field125_1 (b o : Nat) : aField T0 125 (.pointer (some ⟨b, o, none⟩)) 1 = some (.pointer (some ⟨b, o + 40, none⟩)) := by rfl
theorem field125_2 (b o : Nat) : aField T0 125 (.pointer (some ⟨b, o, none⟩)) 2 = some (.pointer (some ⟨b, o + 80, none⟩)) := by rfl
theorem field131_0 (b o : Nat) : aField T0 131 (.pointer (some ⟨b, o, none⟩)) 0 = some (.pointer (some ⟨b, o, none⟩)) := by rfl
theorem field131_1 (b o : Nat) : aField T0 131 (.pointer (some ⟨b, o, none⟩)) 1 = some (.pointer (some ⟨b, o + 1, none⟩)) := by rfl
theorem field132_0 (b o : Nat) : aField T0 132 (.pointer (some ⟨b, o, none⟩)) 0 = some (.pointer (some ⟨b, o, none⟩)) := by rfl
theorem field132_1 (b o : Nat) : aField T0 132 (.pointer (some ⟨b, o, none⟩)) 1 = some (.pointer (some ⟨b, o + 1, none⟩)) := by rfl
theorem und133 : T0.und.get 133 = some (.map 135 3) := by kernel_rfl
theorem field134_0 (b o : Nat) : aField T0 134 (.pointer (some ⟨b, o, none⟩)) 0 = some (.pointer (some ⟨b, o, none⟩)) := by rfl
theorem field134_1 (b o : Nat) : aField T0 134 (.pointer (some ⟨b, o, none⟩)) 1 = some (.pointer (some ⟨b, o + 1, none⟩)) := by rfl
theorem field135_0 (b o : Nat) : aField T0 135 (.pointer (some ⟨b, o, none⟩)) 0 = some (.pointer (some ⟨b, o, none⟩)) := by rfl
theorem field135_1 (b o : Nat) : aField T0 135 (.pointer (some ⟨b, o, none⟩)) 1 = some (.pointer (some ⟨b, o + 1, none⟩)) := by rfl
theorem und148 : T0.und.get 148 = some (.array 64 5) := by kernel_rfl
theorem und156 : T0.und.get 156 = some (.int .u32) := by kernel_rfl
theorem und160 : T0.und.get 160 = some (.pointer 5) := by kernel_rfl
theorem fun12 : T0.funcs.get 12 = some Tryd.f12 := by kernel_rfl
theorem fun16 : T0.funcs.get 16 = some Tryd.f16 := by kernel_rfl
theorem fun42 : T0.funcs.get 42 = some Tryd.f42 := by kernel_rfl
theorem fun44 : T0.funcs.get 44 = some Tryd.f44 := by kernel_rfl
theorem fun45 : T0.funcs.get 45 = some Tryd.f45 := by kernel_rfl
theorem fun46 : T0.funcs.get 46 = some Tryd.f46 := by kernel_rfl
theorem fun47 : T0.funcs.get 47 = some Tryd.f47 := by kernel_rfl
theorem fun48 : T0.funcs.get 48 = some Tryd.f48 := by kernel_rfl
theorem fun49 : T0.funcs.get 49 = some Tryd.f49 := by kernel_rfl
theorem fun52 : T0.funcs.get 52 = some Tryd.f52 := by kernel_rfl
theorem fun58 : T0.funcs.get 58 = some Tryd.f58 := by kernel_rfl
theorem fun60 : T0.funcs.get 60 = some Tryd.f60 := by kernel_rfl
theorem fun68 : T0.funcs.get 68 = some Tryd.f68 := by kernel_rfl
theorem fun71 : T0.funcs.get 71 = some Tryd.f71 := by kernel_rfl
theorem fun72 : T0.funcs.get 72 = some Tryd.f72 := by kernel_rfl
theorem fun73 : T0.funcs.get 73 = some Tryd.f73 := by kernel_rfl
theorem fun74 : T0.funcs.get 74 = some Tryd.f74 := by kernel_rfl
theorem fun75 : T0.funcs.get 75 = some Tryd.f75 := by kernel_rfl
theorem fun76 : T0.funcs.get 76 = some Tryd.f76 := by kernel_rfl
theorem fun77 : T0.funcs.get 77 = some Tryd.f77 := by kernel_rfl
theorem fun81 : T0.funcs.get 81 = some Tryd.f81 := by kernel_rfl
theorem fun83 : T0.funcs.get 83 = some Tryd.f83 := by kernel_rfl
theorem fun84 : T0.funcs.get 84 = some Tryd.f84 := by kernel_rfl
theorem fun85 : T0.funcs.get 85 = some Tryd.f85 := by kernel_rfl
theorem fun86 : T0.funcs.get 86 = some Tryd.f86 := by kernel_rfl
theorem fun89 : T0.funcs.get 89 = some Tryd.f89 := by kernel_rfl
theorem fun91 : T0.funcs.get 91 = some Tryd.f91 := by kernel_rfl
theorem conv_3_56 (W : AW) (k : IntKind) (n : Int) : aConv T0 W 3 56 (.int k n) = some (.int .u64 (IntKind.u64.wrap n)) := by kernel_rfl
theorem conv_5_3 (W : AW) (k : IntKind) (n : Int) : aConv T0 W 5 3 (.int k n) = some (.int .i64 (IntKind.i64.wrap n)) := by kernel_rfl
theorem conv_56_3 (W : AW) (k : IntKind) (n : Int) : aConv T0 W 56 3 (.int k n) = some (.int .i64 (IntKind.i64.wrap n)) := by kernel_rfl
end Go.Proofs.YtdpnplanohgecaaDoor

open Go Go.Eng
namespace Go.Proofs.YtdpnplanohgecaaDoor
attribute [local congr] undef_congr WpK.congr WpS.congr WpL.congr WpC.congr WpF.congr gotS.congr callS.congr nextS.congr wantS.congr condS.congr
attribute [local irreducible] WpK
attribute [local simp] WpDr_nil WpDr_cons atS_some dwantS_true dwantS_false kindS_light kindS_float kindS_heavy lightS_value floatS_some heavyS_value heavyS_skip heavyS_enter dcallS_some doneS_eq
  isLight isFloat isPlain dLook testBit_dec dChain dLights_nil dLights_skip dLights_one dLight_nil dLight_cons dFreshes_nil dFreshes_one oneF_none oneF_some dFresh_nil dFresh_cons oneL_some oneW_true oneW_false sameV_value dPut dMay valEq arrEq listEq List.getElem?_cons Tr.get_nil dEnd
attribute [local simp] WpS_nil WpS_cons isDefer undef_false wantS_true wantS_false nextS_value nextS_skip nextS_enter callS_some gotS_some aWanted aOp aEvalF aEval opMove opAssign opPick aVal flat flat1 AAct.put opBinOp opConvert opIndex Tr.get_set Tr.get_lay aBin aResults tupled
  aCall aVals aCallB blt_dec ble_dec beq_dec aBinI_add aBinI_sub aBinI_lss aBinI_leq aBinI_gtr aBinI_geq aBinI_eql aBinI_neq index_str len_str len_slice Nat.beq_refl Nat.beq_refl
  opBox opLoad opFieldAddr opIndexAddr acells aAddr opExtract aExtract opUnOp opAlloc opStore opMakeInterface opNilCheck opBuild aParts opBuildSlice aValW
attribute [local simp] und2 und3 und4 und5 und9 und12 field13_0 field13_1 und21 und22 field23_0 field23_1 field24_0 field24_1 field25_0 field25_1 und28 und31 field34_0 field34_1 field34_2 field35_0 field35_1 field35_2 und46 field50_0 field50_1 field50_2 und55 und56 und58 und61 und62 und73 und75 und90 und94 und95 und96 field97_0 field97_1 field97_2 field97_3 field97_4 field97_5 field97_6 field98_0 field98_1 field98_2 field98_3 field98_4 field98_5 field98_6 und99 und106 field107_0 field107_1 field108_0 field108_1 und119 und122 field124_0 field124_1 field124_2 field125_0 field125_1 field125_2 field131_0 field131_1 field132_0 field132_1 und133 field134_0 field134_1 field135_0 field135_1 und148 und156 und160
set_option maxHeartbeats 4000000
set_option linter.unusedSimpArgs false
set_option linter.unusedVariables false
@[simp] theorem nilck (a : Addr) : nilChecked T0 (.pointer (some a)) = true := rfl
@[simp] theorem aUn_not (b : Bool) : aUn .not (.bool b) = some (.bool (!b)) := by cases b <;> rfl
theorem load_of {W : AW} {t : TypeId} {d : TypeDesc} {b o : Nat} {v : Value} (hd : T0.und.get t = some d) (ha : isAggD d = false) (h : W.Has b o v) : aLoadVar T0 W t b o = some v := by
  rw [loadVar_cell hd ha]; exact h.2
theorem tabs_name : ∀ t ∈ T0.tabs, t.name = 0 := fun t h => by
  have h : t ∈ [_] := h
  rw [List.mem_singleton] at h; rw [h]
theorem tabs_ext {W W' : AW} (h : tabsIn T0 T0.tabs W = true) (h0 : 0 < W.next) (he : Ext W W') : tabsIn T0 T0.tabs W' = true := tabsIn_only h (fun t ht => he.2 t.name (by rw [tabs_name t ht]; exact h0) (fun x => x))
theorem tabs_only {W W' : AW} {K : Nat → Prop} (h : tabsIn T0 T0.tabs W = true) (h0 : 0 < W.next) (he : Only K W W') (hk : ¬ K 0) : tabsIn T0 T0.tabs W' = true := tabsIn_only h (fun t ht => he.2 t.name (by rw [tabs_name t ht]; exact h0) (by rw [tabs_name t ht]; exact hk))
def memb (P s : Nat) : List Int := ((List.range P).filter (s.testBit ·)).map Int.ofNat
theorem memb_succ (P s : Nat) : memb (P + 1) s = memb P s ++ (if s.testBit P then [(P : Int)] else []) := by
  simp only [memb, List.range_succ, List.filter_append, List.map_append]
  cases h : s.testBit P <;> simp only [List.filter_cons, h, List.filter_nil] <;> rfl
theorem memb_len (P s : Nat) : (memb P s).length ≤ P := by
  simp only [memb, List.length_map]
  exact Nat.le_trans (List.length_filter_le _ _) (by simp)
theorem testBit_and1 (s p : Nat) : decide (((s >>> p &&& 1 : Nat) : Int) = 1) = s.testBit p := by
  rw [Nat.testBit, Bool.eq_iff_iff, Nat.and_comm]
  simp only [decide_eq_true_eq, bne_iff_ne, ne_eq]
  have : 1 &&& s >>> p = (s >>> p) % 2 := Nat.one_and_eq_mod_two _
  rw [this]; omega
theorem has_wp (s p : Nat) (hs : s < 18446744073709551616) (hp : p ≤ 64) (W : AW) : WpF T0 60 [.int .u64 s, .int .i64 p] W (fun v W' => W' = W ∧ v = .bool (s.testBit p)) := by
  refine wpF fun60 rfl ?_
  have h1 := aBinI_shr .u64 .i64 s p hp
  have hle : s >>> p < 18446744073709551616 := by rw [Nat.shiftRight_eq_div_pow]; exact Nat.lt_of_le_of_lt (Nat.div_le_self _ _) hs
  have h3 := testBit_and1 s p
  generalize s >>> p = q at h1 hle h3
  have h2 : aBinI .and .u64 (q : Int) .u64 1 = some (.int .u64 ((q &&& 1 : Nat) : Int)) := aBinI_and .u64 q 1 hle (by decide)
  generalize q &&& 1 = r at h2 h3
  try simp only [wpK_assoc]
  refine wpK_reg (fun R hR => by simp []; exact hR) ?_
  try simp only [wpK_assoc]
  refine wpK_reg (fun R hR => by simp [h1, h2, h3]; exact hR) ?_
  exact wpK_ret ⟨.inr rfl, rfl, [.bool (s.testBit p)], by simp, rfl, rfl⟩
theorem one_wp (p : Nat) (hp : p < 64) (W : AW) : WpF T0 68 [.int .i64 p] W (fun v W' => W' = W ∧ v = .int .u64 ((1 <<< p : Nat) : Int)) := by
  refine wpF fun68 rfl ?_
  have h1 : aBinI .shl .u64 1 .i64 (p : Int) = some (.int .u64 ((1 <<< p : Nat) : Int)) := aBinI_shl .u64 .i64 1 p (by show p ≤ 64; omega) (by
    rw [Nat.one_mul]; show 2 ^ p < 2 ^ 64; exact Nat.pow_lt_pow_right (by omega) hp)
  generalize 1 <<< p = r at h1
  try simp only [wpK_assoc]
  refine wpK_reg (fun R hR => by simp []; exact hR) ?_
  try simp only [wpK_assoc]
  refine wpK_reg (fun R hR => by simp [h1]; exact hR) ?_
  exact wpK_ret ⟨.inr rfl, rfl, [.int .u64 (r : Int)], by simp, rfl, rfl⟩
theorem u64_nat {n : Nat} (h : n < 18446744073709551616) : IntKind.u64.wrap (n : Int) = n := wrap_nat .u64 n h
theorem below_wp (p : Nat) (hp : p < 64) (W : AW) : WpF T0 75 [.int .i64 p] W (fun v W' => W' = W ∧ v = .int .u64 ((2 ^ p - 1 : Nat) : Int)) := by
  refine wpF fun75 rfl ?_
  have hlt : 2 ^ p < 2 ^ 64 := Nat.pow_lt_pow_right (by omega) hp
  have h0 := Nat.two_pow_pos p
  have h1 : aBinI .shl .u64 1 .i64 (p : Int) = some (.int .u64 ((2 ^ p : Nat) : Int)) := by
    have := aBinI_shl .u64 .i64 1 p (by show p ≤ 64; omega) (by rw [Nat.one_mul]; exact hlt)
    rw [Nat.shiftLeft_eq, Nat.one_mul] at this
    exact this
  generalize 2 ^ p = r at h1 hlt h0
  have h2 : IntKind.u64.wrap ((r : Int) - 1) = ((r - 1 : Nat) : Int) := by
    rw [show ((r : Int) - 1) = ((r - 1 : Nat) : Int) from by omega]; exact u64_nat (by have : r < 18446744073709551616 := hlt; omega)
  try simp only [wpK_assoc]
  refine wpK_reg (fun R hR => by simp []; exact hR) ?_
  try simp only [wpK_assoc]
  refine wpK_reg (fun R hR => by simp [h1, h2]; exact hR) ?_
  exact wpK_ret ⟨.inr rfl, rfl, [.int .u64 ((r - 1 : Nat) : Int)], by simp, rfl, rfl⟩
def tabN : List Nat := [0, 1, 56, 2, 57, 49, 28, 3, 61, 58, 42, 50, 38, 29, 17, 4, 62, 47, 59, 36, 45, 43, 51, 22, 53, 39, 33, 30, 24, 18, 12, 5, 63, 55, 48, 27, 60, 41, 37, 16, 46, 35, 44, 21, 52, 32, 23, 11, 54, 26, 40, 15, 34, 20, 31, 10, 25, 14, 19, 9, 13, 8, 7, 6]
theorem ix148 (i : Nat) (hi : i < 64) (k : IntKind) : aIndexAddr T0 148 (.pointer (some ⟨0, 0, none⟩)) (.int k (i : Nat)) = some (.pointer (some ⟨0, i, none⟩)) := by
  show aIndexAddr T0 148 (.pointer (some ⟨0, 0, none⟩)) (.int k (Int.ofNat i)) = _
  simp only [aIndexAddr, und148, sz5, blt_dec, hi, decide_true, Nat.mul_one, Nat.zero_add]
theorem glob0 : T0.globs.get 0 = some () := by kernel_rfl
theorem tbl_load {W : AW} (h : tabsIn T0 T0.tabs W = true) (i : Nat) (hi : i < 64) : aLoadVar T0 W 5 0 i = some (.int .u8 ((tabN.getD i 0 : Nat) : Int)) := by
  have h : tabsIn T0 [⟨0, tabN.map fun n : Nat => Value.int .u8 (n : Int)⟩] W = true := h
  simp only [tabsIn, glob0] at h
  split at h
  case h_2 => cases h
  rename_i hu ht
  have hlen : (tabN.map fun n : Nat => Value.int .u8 (n : Int)).length = 64 := by decide
  have := tabIn_cell ht i (by show i < (tabN.map _).length; omega)
  rw [loadVar_cell und5 rfl]
  rw [this]
  simp only [List.getElem_map]
  rw [List.getD_eq_getElem?_getD, List.getElem?_eq_getElem (show i < tabN.length by simpa using (show i < (tabN.map fun n : Nat => Value.int .u8 (n : Int)).length by omega))]
  rfl
theorem low_ex {x : Nat} (h : x ≠ 0) : ∃ k, x.testBit k = true ∧ ∀ j, j < k → x.testBit j = false := by
  have hx : ∃ k, x.testBit k = true := by
    apply Classical.byContradiction
    intro hn
    apply h
    apply Nat.eq_of_testBit_eq
    intro i
    rw [Nat.zero_testBit]
    cases hb : x.testBit i with
    | false => rfl
    | true => exact absurd ⟨i, hb⟩ hn
  obtain ⟨k, hk⟩ := hx
  induction k using Nat.strongRecOn with
  | _ k ih =>
    by_cases hj : ∃ j, j < k ∧ x.testBit j = true
    · obtain ⟨j, h1, h2⟩ := hj
      exact ih j h1 h2
    · refine ⟨k, hk, fun j hjk => ?_⟩
      cases hb : x.testBit j with
      | false => rfl
      | true => exact absurd ⟨j, hjk, hb⟩ hj
theorem low_bits {x k : Nat} (h1 : x.testBit k = true) (h2 : ∀ j, j < k → x.testBit j = false) : x = 2 ^ (k + 1) * (x / 2 ^ (k + 1)) + 2 ^ k := by
  have : x % 2 ^ (k + 1) = 2 ^ k := by
    apply Nat.eq_of_testBit_eq
    intro i
    rw [Nat.testBit_mod_two_pow, Nat.testBit_two_pow]
    by_cases e : i = k
    · subst e; simp [-testBit_dec, h1]
    · by_cases hlt : i < k
      · rw [h2 i hlt, decide_eq_false (show ¬ k = i by omega), Bool.and_false]
      · rw [decide_eq_false (show ¬ i < k + 1 by omega), decide_eq_false (show ¬ k = i by omega), Bool.false_and]
  have := Nat.div_add_mod x (2 ^ (k + 1))
  omega
theorem pred_bits {x k : Nat} (h1 : x.testBit k = true) (h2 : ∀ j, j < k → x.testBit j = false) (i : Nat) : (x - 1).testBit i = if i < k then true else if i = k then false else x.testBit i := by
  have hx := low_bits h1 h2
  have hp : 0 < 2 ^ k := Nat.two_pow_pos k
  have hp1 : 2 ^ (k + 1) = 2 * 2 ^ k := by rw [Nat.pow_succ]; omega
  have e1 : x - 1 = 2 ^ (k + 1) * (x / 2 ^ (k + 1)) + (2 ^ k - 1) := by omega
  rw [e1, Nat.testBit_two_pow_mul_add _ (by omega), Nat.testBit_two_pow_sub_one]
  by_cases hlt : i < k
  · rw [if_pos (by omega), if_pos hlt, decide_eq_true hlt]
  · rw [if_neg hlt]
    by_cases e : i = k
    · rw [if_pos (by omega), if_pos e, decide_eq_false (by omega)]
    · rw [if_neg (by omega), if_neg e]
      have : x.testBit i = (2 ^ (k + 1) * (x / 2 ^ (k + 1)) + 2 ^ k).testBit i := by rw [← hx]
      rw [this, Nat.testBit_two_pow_mul_add _ (by omega), if_neg (by omega)]
theorem bit_lt {x k n : Nat} (hx : x < 2 ^ n) (h1 : x.testBit k = true) : k < n := by
  by_cases hk : k < n
  · exact hk
  · have : x.testBit k = false := Nat.testBit_lt_two_pow (Nat.lt_of_lt_of_le hx (Nat.pow_le_pow_right (by omega) (by omega)))
    rw [this] at h1; cases h1
theorem low_and {x k : Nat} (hx : x < 18446744073709551616) (h1 : x.testBit k = true) (h2 : ∀ j, j < k → x.testBit j = false) : x &&& (18446744073709551616 - x) = 2 ^ k := by
  have hx0 : 0 < x := Nat.pos_of_ne_zero (fun e => by subst e; simp [-testBit_dec] at h1)
  have hk : k < 64 := bit_lt hx h1
  apply Nat.eq_of_testBit_eq
  intro i
  rw [Nat.testBit_and, show 18446744073709551616 - x = 2 ^ 64 - ((x - 1) + 1) from by omega, Nat.testBit_two_pow_sub_succ (by show x - 1 < 18446744073709551616; omega), pred_bits h1 h2, Nat.testBit_two_pow]
  by_cases hlt : i < k
  · rw [if_pos hlt, h2 i hlt, decide_eq_false (show ¬ k = i by omega), Bool.false_and]
  · rw [if_neg hlt]
    by_cases e : i = k
    · rw [if_pos e, e, h1, decide_eq_true hk, decide_eq_true rfl]; rfl
    · rw [if_neg e, decide_eq_false (show ¬ k = i by omega)]
      cases x.testBit i <;> simp
theorem brujin : ∀ k, k < 64 → tabN.getD ((2 ^ k * 285870213051353865 % 18446744073709551616) >>> 58) 0 = k ∧ (2 ^ k * 285870213051353865 % 18446744073709551616) >>> 58 < 64 := by decide +kernel
theorem neg_u64 {x : Nat} (h0 : 0 < x) (hx : x < 18446744073709551616) : aUn .neg (.int .u64 (x : Nat)) = some (.int .u64 ((18446744073709551616 - x : Nat) : Int)) := by
  obtain ⟨n, hn⟩ : ∃ n, n = 18446744073709551616 - x := ⟨_, rfl⟩
  rw [← hn]
  have hw : IntKind.u64.wrap (0 - (x : Int)) = (n : Int) := by rw [IntKind.wrap_u64]; omega
  clear hn
  generalize hz : (0 - (x : Int)) = z at hw
  have hu : Op.unary .neg (.int .u64 (x : Nat)) = Op.intArith .sub .u64 0 (x : Nat) := rfl
  simp only [aUn, hu, Op.intArith, aPure, pure, hz, hw, flat1]
section
attribute [local irreducible] aBinI
theorem tz_wp {W : AW} (hT : tabsIn T0 T0.tabs W = true) {x k : Nat} (hx : x < 18446744073709551616) (h1 : x.testBit k = true) (h2 : ∀ j, j < k → x.testBit j = false) : WpF T0 89 [.int .u64 (x : Nat)] W (fun v W' => W' = W ∧ v = .int .i64 (k : Nat)) := by
  have hx0 : 0 < x := Nat.pos_of_ne_zero (fun e => by subst e; simp [-testBit_dec] at h1)
  have hk : k < 64 := bit_lt hx h1
  have hneg := neg_u64 hx0 hx
  have hand := aBinI_and .u64 x (18446744073709551616 - x) hx (by show 18446744073709551616 - x < 18446744073709551616; omega)
  rw [low_and hx h1 h2] at hand
  obtain ⟨hb1, hb2⟩ := brujin k hk
  have hmul : aBinI .mul .u64 ((2 ^ k : Nat) : Int) .u64 285870213051353865 = some (.int .u64 ((2 ^ k * 285870213051353865 % 18446744073709551616 : Nat) : Int)) := by
    have hw : ∀ q : Nat, IntKind.u64.wrap ((q : Int) * 285870213051353865) = ((q * 285870213051353865 % 18446744073709551616 : Nat) : Int) := fun q => by rw [IntKind.wrap_u64]; omega
    rw [aBinI_mul, hw]
  have hsh : aBinI .shr .u64 ((2 ^ k * 285870213051353865 % 18446744073709551616 : Nat) : Int) .u64 58 = some (.int .u64 (((2 ^ k * 285870213051353865 % 18446744073709551616) >>> 58 : Nat) : Int)) := aBinI_shr .u64 .u64 _ 58 (by decide)
  generalize 2 ^ k = pk at hand hmul hsh hb1 hb2
  generalize pk * 285870213051353865 % 18446744073709551616 = mm at hmul hsh hb1 hb2
  generalize mm >>> 58 = ii at hsh hb1 hb2
  have hld := tbl_load hT ii hb2
  rw [hb1] at hld
  have hixx := ix148 ii hb2 .u64
  generalize hxn : 18446744073709551616 - x = xn at hneg hand
  have hwk : IntKind.i64.wrap (k : Int) = k := IntWalk.i64_in _ (by omega)
  refine wpF fun89 rfl ?_
  try simp only [wpK_assoc]
  refine wpK_reg (fun R hR => by simp []; exact hR) ?_
  try simp only [wpK_assoc]
  refine wpK_reg (fun R hR => by simp []; exact hR) ?_
  refine wpK_onF (by simp; omega) ?_
  have haA : aBin T0 .and 95 (.tmp 5) (.tmp 7) (.int .u64 (x : Nat)) (.int .u64 (xn : Nat)) = some (.int .u64 (pk : Nat)) := hand
  have haM : aBin T0 .mul 95 (.tmp 8) (.const (.int .u64 285870213051353865)) (.int .u64 (pk : Nat)) (.int .u64 285870213051353865) = some (.int .u64 (mm : Nat)) := hmul
  have haS : aBin T0 .shr 95 (.tmp 9) (.const (.int .u64 58)) (.int .u64 (mm : Nat)) (.int .u64 58) = some (.int .u64 (ii : Nat)) := hsh
  clear hand hmul hsh
  try simp only [wpK_assoc]
  refine wpK_regc (J := fun A' W' => W' = W ∧ A'.defers = [] ∧ A'.tmps.get 2 = some (.int .i64 (k : Nat))) (fun R hR => ?_) ?_
  · refine wpS_step (v := .int .u64 (x : Nat)) rfl rfl (by simp) rfl ?_
    refine wpS_step (v := .int .u64 (x : Nat)) rfl rfl (by simp) rfl ?_
    refine wpS_step (v := .int .u64 (xn : Nat)) rfl rfl (by simp [hneg]) rfl ?_
    refine wpS_step (v := .int .u64 (pk : Nat)) rfl rfl (aOp_bin rfl (by simp) (by simp) haA) rfl ?_
    refine wpS_step (v := .int .u64 (mm : Nat)) rfl rfl (aOp_bin rfl (by simp) rfl haM) rfl ?_
    refine wpS_step (v := .int .u64 (ii : Nat)) rfl rfl (aOp_bin rfl (by simp) rfl haS) rfl ?_
    refine wpS_step (v := .pointer (some ⟨0, ii, none⟩)) rfl rfl (aOp_ix rfl (aEvalF_glob glob0) (by simp) hixx) rfl ?_
    clear haA haM haS hixx
    simp [hld, conv_5_3, hwk]
    apply hR
    exact ⟨rfl, rfl, by simp⟩
  rintro ⟨tm, n, ds⟩ W' ⟨rfl, hd, h2⟩
  simp only at hd h2
  subst hd
  exact wpK_ret ⟨.inr rfl, rfl, [.int .i64 (k : Nat)], by simp [h2], rfl, rfl⟩
end
theorem first_wp {W : AW} (hT : tabsIn T0 T0.tabs W = true) {x k : Nat} (hx : x < 18446744073709551616) (h1 : x.testBit k = true) (h2 : ∀ j, j < k → x.testBit j = false) : WpF T0 81 [.int .u64 (x : Nat)] W (fun v W' => W' = W ∧ v = .int .i64 (k : Nat)) := by
  refine wpF fun81 rfl ?_
  try simp only [wpK_assoc]
  refine wpK_reg (fun R hR => by simp []; exact hR) ?_
  try simp only [wpK_assoc]
  refine wpK_reg (fun R hR => by
      simp [aEnter, fun89, short_other, aCallV]; rw [callS_none]
      refine (tz_wp hT hx h1 h2).mono ?_
      rintro _ W9 ⟨e9, rfl⟩; subst W9
      simp []; exact hR) ?_
  exact wpK_ret ⟨.inr rfl, rfl, [.int .i64 (k : Nat)], by simp, rfl, rfl⟩
end Go.Proofs.YtdpnplanohgecaaDoor

open Go Go.Eng
namespace Go.Proofs.YtdpnplanohgecaaDoor
attribute [local congr] undef_congr WpK.congr WpS.congr WpL.congr WpC.congr WpF.congr gotS.congr callS.congr nextS.congr wantS.congr condS.congr
attribute [local irreducible] WpK
attribute [local simp] WpDr_nil WpDr_cons atS_some dwantS_true dwantS_false kindS_light kindS_float kindS_heavy lightS_value floatS_some heavyS_value heavyS_skip heavyS_enter dcallS_some doneS_eq
  isLight isFloat isPlain dLook testBit_dec dChain dLights_nil dLights_skip dLights_one dLight_nil dLight_cons dFreshes_nil dFreshes_one oneF_none oneF_some dFresh_nil dFresh_cons oneL_some oneW_true oneW_false sameV_value dPut dMay valEq arrEq listEq List.getElem?_cons Tr.get_nil dEnd
attribute [local simp] WpS_nil WpS_cons isDefer undef_false wantS_true wantS_false nextS_value nextS_skip nextS_enter callS_some gotS_some aWanted aOp aEvalF aEval opMove opAssign opPick aVal flat flat1 AAct.put opBinOp opConvert opIndex Tr.get_set Tr.get_lay aBin aResults tupled
  aCall aVals aCallB blt_dec ble_dec beq_dec aBinI_add aBinI_sub aBinI_lss aBinI_leq aBinI_gtr aBinI_geq aBinI_eql aBinI_neq index_str len_str len_slice Nat.beq_refl Nat.beq_refl
  opBox opLoad opFieldAddr opIndexAddr acells aAddr opExtract aExtract opUnOp opAlloc opStore opMakeInterface opNilCheck opBuild aParts opBuildSlice aValW
attribute [local simp] und2 und3 und4 und5 und9 und12 field13_0 field13_1 und21 und22 field23_0 field23_1 field24_0 field24_1 field25_0 field25_1 und28 und31 field34_0 field34_1 field34_2 field35_0 field35_1 field35_2 und46 field50_0 field50_1 field50_2 und55 und56 und58 und61 und62 und73 und75 und90 und94 und95 und96 field97_0 field97_1 field97_2 field97_3 field97_4 field97_5 field97_6 field98_0 field98_1 field98_2 field98_3 field98_4 field98_5 field98_6 und99 und106 field107_0 field107_1 field108_0 field108_1 und119 und122 field124_0 field124_1 field124_2 field125_0 field125_1 field125_2 field131_0 field131_1 field132_0 field132_1 und133 field134_0 field134_1 field135_0 field135_1 und148 und156 und160
set_option maxHeartbeats 4000000
set_option linter.unusedSimpArgs false
set_option linter.unusedVariables false
theorem bs31 (W : AW) (n : Int) : aBuildSlice T0 W 31 1 [(0, .int .i64 n)] = some (.slice (some ⟨W.next, 0, none⟩) 1 2, W.newCells 3 [.int .i64 n]) := by kernel_rfl
def intsV (l : List Int) : List Value := l.map (Value.int .i64)
theorem wpK_range2 {T : Tabs} {f₀ : FuncId} {A : AAct} {W : AW} {Q : AExit → AAct → AW → Prop} {id : Nat} {b : Code} {g : Operand} {ps : Array Tmp} {asn bd : Code} {f : FuncId} {first cap : Array Value} {fn : Func}
    (hg : aEval T A.tmps g = some (.func (.func f) first cap)) (hf : T.funcs.get f = some fn)
    (h : ∀ W5 : AW, W5.next = W.next + 2 → (∀ b, b < W.next → W5.blocks.get b = W.blocks.get b) → W5.blocks.get W.next = some ⟨.deferred (some []), []⟩ → W5.blocks.get (W.next + 1) = some ⟨.loop .ready none f₀ A.tmps A.n ps asn bd W.next, []⟩ →
      WpF T f (first.toList ++ .func (.yield (W.next + 1)) #[] #[] :: cap.toList) W5 (fun _ W₂ =>
      ∃ st p fn' t' n' ps' as' bd' df', W₂.blocks.get (W.next + 1) = some ⟨.loop st p fn' t' n' ps' as' bd' df', []⟩ ∧ st ≠ .busy ∧
        goOn (leaves id (behind Q fun A' W' => WpK T ⟨f₀, none⟩ b A' W' Q)) { A with defers := { target := .collected W.next, args := #[] } :: A.defers } (W₂.setObj (W.next + 1) (.loop .exhausted p fn' t' n' ps' as' bd' df')) p)) :
    WpK T ⟨f₀, none⟩ (.seq (.block id (.rangeFunc g ps asn bd)) b) A W Q := by
  try simp only [wpK_assoc]
  refine wpK_range hg hf (h _ rfl (fun b hb => ?_) ?_ ?_)
  · simp only [AW.beforeLoop, AW.new, Tr.get_set]; rw [if_neg (by omega), if_neg (by omega)]
  · simp only [AW.beforeLoop, AW.new, Tr.get_set]; rw [if_neg (by omega), if_true]
  · simp only [AW.beforeLoop, AW.new, Tr.get_set]; rw [if_true]
theorem setObj_get (W : AW) (r : Nat) (o : AObj) (b : Nat) : (W.setObj r o).blocks.get b = if b = r then some ⟨o, []⟩ else W.blocks.get b := by
  simp only [AW.setObj, Tr.get_set]
theorem setObj_next (W : AW) (r : Nat) (o : AObj) : (W.setObj r o).next = W.next := rfl
theorem setObj_only (W : AW) (r : Nat) (o : AObj) : Only (fun b => b = r) W (W.setObj r o) := ⟨Nat.le_refl _, fun b _ hb => by rw [setObj_get, if_neg hb]⟩
def dropLow (x : Nat) : Nat := x &&& (x - 1)
theorem dropLow_bit {x k : Nat} (h1 : x.testBit k = true) (h2 : ∀ j, j < k → x.testBit j = false) (i : Nat) : (dropLow x).testBit i = (x.testBit i && decide (i ≠ k)) := by
  rw [dropLow, Nat.testBit_and, pred_bits h1 h2]
  by_cases hlt : i < k
  · rw [if_pos hlt, h2 i hlt]; rfl
  · rw [if_neg hlt]
    by_cases e : i = k
    · subst e; simp
    · rw [if_neg e]; simp [-testBit_dec, e]
theorem dropLow_lt {x : Nat} (h : x ≠ 0) : dropLow x < x := by
  have := Nat.and_le_right (n := x) (m := x - 1)
  unfold dropLow; omega
theorem memb_empty : ∀ (P s : Nat), (∀ j, j < P → s.testBit j = false) → memb P s = []
  | 0, _, _ => by simp [memb]
  | P + 1, s, h => by rw [memb_succ, memb_empty P s (fun j hj => h j (by omega)), h P (by omega)]; rfl
theorem memb_low {x k : Nat} (h1 : x.testBit k = true) (h2 : ∀ j, j < k → x.testBit j = false) : ∀ P, memb P x = (if k < P then [(k : Int)] else []) ++ memb P (dropLow x)
  | 0 => by simp [memb]
  | P + 1 => by
    rw [memb_succ, memb_succ, memb_low h1 h2 P, dropLow_bit h1 h2]
    by_cases e1 : P < k
    · rw [h2 P e1]
      simp only [Bool.false_and, Bool.false_eq_true, if_false, List.append_nil, if_neg (show ¬ k < P by omega), if_neg (show ¬ k < P + 1 by omega)]
    · by_cases e2 : P = k
      · subst e2
        rw [h1, memb_empty P (dropLow x) (fun j hj => by rw [dropLow_bit h1 h2, h2 j hj]; rfl)]
        simp
      · have : decide (P ≠ k) = true := by simp [e2]
        rw [this, Bool.and_true]
        simp only [if_pos (show k < P by omega), if_pos (show k < P + 1 by omega), List.append_assoc]
theorem places1_wp {l bx x : Nat} (C : Nat → AW → Prop) (hx : x < 18446744073709551616)
    (hC : ∀ left k W, C left W → left < 18446744073709551616 → left.testBit k = true → (∀ j, j < k → left.testBit j = false) → tabsIn T0 T0.tabs W = true ∧ ∃ st pd fn t n ps asn bd df kin t', W.blocks.get l = some ⟨.loop st pd fn t n ps asn bd df, kin⟩ ∧ aSetAll t n ps.toList [.int .i64 (k : Nat)] = some t' ∧
      WpR T0 l fn t' n asn bd W (fun v W' => v = .bool true ∧ C (dropLow left) W'))
    {W : AW} (h0 : C x W) (hb : W.Has bx 0 (.int .u64 (x : Nat))) : WpF T0 86 [.func (.yield l) #[] #[], .pointer (some ⟨bx, 0, none⟩)] W (fun _ W' => C 0 W') := by
  have hl := load_of und96 rfl hb
  refine wpF fun86 rfl ?_
  try simp only [wpK_assoc]
  refine wpK_reg (fun R hR => by simp [hl]; exact hR) ?_
  try simp only [wpK_assoc]
  refine wpK_while1 (I := fun k A W' => A.n = 16 ∧ A.defers = [] ∧ A.tmps.get 0 = some (.func (.yield l) #[] #[]) ∧ A.tmps.get 3 = some (.int .u64 (k : Nat)) ∧ k < 18446744073709551616 ∧ C k W')
    (J := fun A W' => A.defers = [] ∧ C 0 W') (Rt := fun _ _ => False) (k := x) ?_ ?_ ?_ ?_
  · exact ⟨rfl, rfl, by simp, by simp, hx, h0⟩
  · rintro k ⟨tm, n, ds⟩ W3 ⟨hn, hd, h0, h3, hk, hCk⟩ Q' hJ hRt hI
    simp only at hn hd h0
    subst hn; subst hd
    simp only at h3
    by_cases hz : k = 0
    · subst hz
      try simp only [wpK_assoc]
      refine wpK_reg (fun R hR => by simp [h3]; exact hR) ?_
      try simp only [wpK_assoc]
      first | refine wpK_onF (by simp []) ?_ | refine wpK_out (by simp []) ?_ | refine wpK_condF (by simp []) ?_ | refine wpK_endF (by simp []) (wpK_skip ?_) | refine wpK_endF (by simp []) ?_
      exact hJ _ _ ⟨rfl, hCk⟩
    have hz' : ¬ (k : Int) = 0 := by omega
    try simp only [wpK_assoc]
    refine wpK_reg (fun R hR => by simp [h3, hz', hz]; exact hR) ?_
    try simp only [wpK_assoc]
    first | refine wpK_onT (by simp []) ?_ | refine wpK_outT (by simp []) ?_ | refine wpK_condT (by simp []) ?_ | refine wpK_endT (by simp []) ?_
    obtain ⟨q, hq1, hq2⟩ := low_ex hz
    obtain ⟨hT, st, pd, fn, t', n', ps, asn, bd, df, kin, tt, hy1, hy2, hy3⟩ := hC k q W3 hCk hk hq1 hq2
    refine wpK_block ?_
    try simp only [wpK_assoc]
    refine wpK_x0 (fun R hR => by
      simp [h0, h3, aEnter, fun81, short_other, aCallV]; rw [callS_none]
      refine (first_wp hT hk hq1 hq2).mono ?_
      rintro _ W9 ⟨e9, rfl⟩; subst W9
      simp [aEnter, hy1, hy2, aCallV, nextS_round]
      refine hy3.mono ?_
      rintro _ W4 ⟨rfl, hC4⟩
      simp; exact hR W4 hC4) ?_
    rintro W4 hC4
    try simp only [wpK_assoc]
    first | refine wpK_onF (by simp []) ?_ | refine wpK_out (by simp []) ?_ | refine wpK_condF (by simp []) ?_ | refine wpK_endF (by simp []) (wpK_skip ?_) | refine wpK_endF (by simp []) ?_
    have w1 : IntKind.u64.wrap ((k : Int) - 1) = ((k - 1 : Nat) : Int) := by
      have : ((k : Int) - 1) = ((k - 1 : Nat) : Int) := by omega
      rw [this]; exact wrap_nat .u64 _ (by show k - 1 < 18446744073709551616; omega)
    have hand := aBinI_and .u64 k (k - 1) (by show k < 18446744073709551616; omega) (by show k - 1 < 18446744073709551616; omega)
    have hlt := dropLow_lt hz
    try simp only [wpK_assoc]
    refine wpK_reg1 (fun R hR => by simp [h3, w1, hand]; exact hR) ?_
    exact hI (dropLow k) _ _ hlt ⟨rfl, rfl, by simp [h0], by simp; rfl, by omega, hC4⟩
  · rintro A' W' hf; exact hf.elim
  · rintro A' W' ⟨h1, h2⟩
    exact ⟨.inl rfl, h1, [], by rfl, h2⟩
theorem places_wp {W : AW} (x : Nat) : WpF T0 77 [.int .u64 (x : Nat)] W (fun v W' => Ext W W' ∧ v = .func (.func 86) ⟨[]⟩ ⟨[.pointer (some ⟨W.next, 0, none⟩)]⟩ ∧ W'.Has W.next 0 (.int .u64 (x : Nat))) := by
  refine wpF fun77 rfl ?_
  try simp only [wpK_assoc]
  refine wpK_reg (fun R hR => by simp []; exact hR) ?_
  try simp only [wpK_assoc]
  refine wpK_reg (fun R hR => by simp [opMakeFunc]; exact hR) ?_
  exact wpK_ret ⟨.inr rfl, rfl, [.func (.func 86) ⟨[]⟩ ⟨[.pointer (some ⟨W.next, 0, none⟩)]⟩], by simp, .newCells _ _ _, rfl, (Var.new W 96 [.int .u64 (x : Nat)]).has rfl⟩
theorem list_wp {W : AW} {x : Nat} (hx : x < 1099511627776) (hT : tabsIn T0 T0.tabs W = true) (h0 : 0 < W.next) :
    WpF T0 58 [.int .u64 (x : Nat)] W (fun v W' => Ext W W' ∧ GrowsN W' v (memb 40 x).length (intsV (memb 40 x)) 3 1 (fun b => W.next ≤ b)) := by
  refine wpFd fun58 rfl ?_
  obtain ⟨W1, hW1, hE1, hn1, hV1⟩ : ∃ W1, W1 = W.newCells 31 [.slice none 0 0] ∧ Ext W W1 ∧ W1.next = W.next + 1 ∧ Var W1 W.next 31 [.slice none 0 0] := ⟨_, rfl, .newCells _ _ _, rfl, Var.new _ _ _⟩
  try simp only [wpK_assoc]
  refine wpK_reg (fun R hR => by simp []; exact hR) ?_
  try simp only [wpK_assoc]
  refine wpK_reg (fun R hR => by simp [zero31, ← hW1]; exact hR) ?_
  try simp only [wpK_assoc]
  refine wpK_x0 (fun R hR => by
      simp [aEnter, fun77, short_other, aCallV]; rw [callS_none]
      refine (places_wp x).mono ?_
      rintro _ W2 ⟨hE2, rfl, hB2⟩
      simp []; exact hR W2 (And.intro hE2 hB2)) ?_
  rintro W2 ⟨hE2, hB2⟩
  refine wpK_keep (fun tm' => tm'.get 3 = some (.pointer (some ⟨W.next, 0, none⟩)) ∧ tm'.get 6 = some (.func (.func 86) ⟨[]⟩ ⟨[.pointer (some ⟨W1.next, 0, none⟩)]⟩)) ⟨by simp, by simp⟩ ?_
  rintro tm ⟨h3, h6⟩
  have n2 := hE2.1
  refine wpK_range2 (f := 86) (first := ⟨[]⟩) (cap := ⟨[.pointer (some ⟨W1.next, 0, none⟩)]⟩) (by simp [h6]) fun86 (fun W5 hn5 hW5 hdf hlp => ?_)
  have hE25 : Ext W2 W5 := ⟨by omega, fun b hb _ => hW5 b hb⟩
  have hV5 := (hV1.ext hE2).ext hE25
  have hE5 : Ext W W5 := (hE1.trans hE2).trans hE25
  have hmw : (memb 40 x).length ≤ 40 := memb_len 40 x
  refine (places1_wp (l := W2.next + 1) (bx := W1.next) (x := x) (fun left W' => Ext W W' ∧ W5.next ≤ W'.next ∧ W'.blocks.get (W2.next + 1) = W5.blocks.get (W2.next + 1) ∧ W'.blocks.get W2.next = W5.blocks.get W2.next ∧ left < 1099511627776 ∧
    ∃ v l0, memb 40 x = l0 ++ memb 40 left ∧ Var W' W.next 31 [v] ∧ GrowsN W' v l0.length (intsV l0) 3 1 (fun b => W5.next ≤ b)) (by omega) (fun left k W' hC hl hb1 hb2 => ?_) ⟨hE5, Nat.le_refl _, rfl, rfl, hx, _, [], rfl, hV5, .nil _ _ _ _⟩ (hB2.ext hE25)).mono ?_
  · obtain ⟨c1, c2, c3, c4, c5, v, l0, c6, c7, c8⟩ := hC
    have hl := c3.trans hlp
    have hk40 : k < 40 := by
      apply Classical.byContradiction
      intro hk
      rw [Nat.testBit_lt_two_pow (Nat.lt_of_lt_of_le (show left < 2 ^ 40 from c5) (Nat.pow_le_pow_right (by omega) (by omega)))] at hb1
      cases hb1
    refine ⟨tabs_ext hT h0 c1, _, _, _, _, _, _, _, _, _, _, tm.set 7 (.int .i64 (k : Nat)), hl, rfl, ?_⟩
    refine wpR ?_
    try simp only [wpK_assoc]
    refine wpK_reg1 (fun R hR => by simp []; exact hR) ?_
    refine ⟨rfl, _, _, _, _, _, _, _, _, hl, ?_⟩
    generalize hbz : (AObj.loop LoopState.busy _ _ _ _ _ _ _ _) = bz
    obtain ⟨Wb, hWb, hOb, hnb⟩ : ∃ Wb, Wb = W'.setObj (W2.next + 1) bz ∧ Only (fun b => b = W2.next + 1) W' Wb ∧ Wb.next = W'.next := ⟨_, rfl, setObj_only _ _ _, rfl⟩
    rw [← hWb]
    have hlb : Wb.blocks.get (W2.next + 1) = some ⟨bz, []⟩ := by rw [hWb, setObj_get, if_pos rfl]
    have c7b := c7.only hOb (by omega)
    have c8b := c8.only hOb (fun b _ hb e => by omega)
    have hl0 : l0.length ≤ 40 := by
      have := congrArg List.length c6
      rw [List.length_append] at this; omega
    obtain ⟨v', Wc, Wd, a1, a2, a3, a4, a5, a6, a7⟩ := Var.push (T := T0) (t := 31) (el := 3) (i := Tryd.t3) (it := Tryd.t31) (sz := 1) (by omega) und31 inf3 is3 z3 rfl inf31 is31 c8b c7b (o := 0) (by omega) (by simp) (u := [.int .i64 (k : Nat)]) rfl rfl (by rw [by3]; omega) (by omega)
    have a1 : aAppend T0 (Wb.newCells 3 [.int .i64 (k : Nat)]) [31, 31] [v, .slice (some ⟨Wb.next, 0, none⟩) 1 2] = some (v', Wc) := a1
    have hld := c7b.load1 (T := T0) und31 rfl (j := 0) (v := v) rfl
    refine wpK_block1 ?_
    try simp only [wpK_assoc]
    refine wpK_reg1 (fun R hR => by simp [h3, hld, bs31, a1, a2]; exact hR) ?_
    simp only [leaves_normal]
    have hdl : Wd.blocks.get (W2.next + 1) = some ⟨bz, []⟩ := by rw [a7.2 _ (by omega) (by omega)]; exact hlb
    subst hbz
    refine ⟨_, _, _, _, _, _, _, _, _, hdl, rfl, ?_⟩
    have hOz := fun o => setObj_only Wd (W2.next + 1) o
    have hml := memb_low hb1 hb2 40
    rw [if_pos hk40] at hml
    refine ⟨⟨by rw [setObj_next]; have := c1.1; omega, fun b hb hk => ?_⟩, by rw [setObj_next]; omega, by rw [setObj_get, if_pos rfl]; exact hlp.symm, ?_, ?_, v', l0 ++ [(k : Int)], ?_, ?_, ?_⟩
    · rw [setObj_get, if_neg (by omega), a7.2 b (by have := c1.1; omega) (by omega), hOb.2 b (by have := c1.1; omega) (by omega)]
      exact c1.2 b hb hk
    · rw [setObj_get, if_neg (by omega), a7.2 _ (by omega) (by omega), hOb.2 _ (by omega) (by omega)]; exact c4
    · have := dropLow_lt (x := left) (fun e => by subst e; simp at hb1)
      omega
    · rw [c6, hml]; simp
    · exact (by simpa using a5 : Var Wd W.next 31 [v']).only (hOz _) (by omega)
    · have e1 : (l0 ++ [(k : Int)]).length = l0.length + 1 := by simp
      have e2 : intsV (l0 ++ [(k : Int)]) = intsV l0 ++ [.int .i64 (k : Nat)] := by simp [intsV]
      rw [e1, e2]
      exact (a6.only (K' := fun b => b = W2.next + 1) (hOz _) (fun b _ hb e => by omega)).mono (K' := fun b => W5.next ≤ b) (fun b hb => by omega)
  · rintro _ W6 ⟨c1, c2, c3, c4, c5, v, l0, c6, c7, c8⟩
    have hl6 := c3.trans hlp
    rw [memb_empty 40 0 (fun j _ => by simp), List.append_nil] at c6
    subst c6
    refine ⟨_, _, _, _, _, _, _, _, _, hl6, (fun h => by cases h), ?_⟩
    show WpK T0 ⟨58, none⟩ _ _ _ _
    generalize hex : (AObj.loop LoopState.exhausted _ _ _ _ _ _ _ _) = ex
    obtain ⟨W7, hW7, hO7, hn7⟩ : ∃ W7, W7 = W6.setObj (W2.next + 1) ex ∧ Only (fun b => b = W2.next + 1) W6 W7 ∧ W7.next = W6.next := ⟨_, rfl, setObj_only _ _ _, rfl⟩
    rw [← hW7]
    clear hW7 hex
    have c77 := c7.only hO7 (by omega)
    have hld := c77.load1 (T := T0) und31 rfl (j := 0) (v := v) rfl
    try simp only [wpK_assoc]
    refine wpK_reg (fun R hR => by simp [h3, hld]; exact hR) ?_
    have hdf7 : W7.blocks.get W2.next = some ⟨.deferred (some []), []⟩ := by rw [hO7.2 _ (by omega) (by omega), c4]; exact hdf
    refine wpK_ret ⟨.inr rfl, W7.setObj W2.next (.deferred none), ⟨W2.next, rfl, hdf7, rfl⟩, [v], by simp, ⟨by rw [setObj_next]; have := c1.1; omega, fun b hb hk => ?_⟩, ?_⟩
    · rw [setObj_get, if_neg (by omega), hO7.2 b (by have := c1.1; omega) (by omega)]; exact c1.2 b hb hk
    · exact ((c8.only hO7 (fun b _ hb e => by omega)).only (K' := fun b => b = W2.next) (setObj_only _ _ _) (fun b _ hb e => by omega)).mono (fun b hb => by omega)
end Go.Proofs.YtdpnplanohgecaaDoor
open Go Go.Eng
namespace Go.Proofs.YtdpnplanohgecaaDoor
open Go.ChangeShapes Go.WideShapes Go.ChangeAt Go.RowKit
section
variable {H : Type} {enc : TypeId × Value → H} {P : Program} {w : World}
theorem add_block (a : Addr) (n : Nat) : (a.add n).block = a.block := by unfold Addr.add; split <;> rfl
theorem add_off (a : Addr) (n : Nat) : (a.add n).off = a.off + n := by unfold Addr.add; split <;> simp_all
end
theorem own : ownKnob Tryd.prog.godebug = none := by kernel_rfl
theorem laidOut : laidOutB Tryd.prog = true := by kernel_rfl
theorem T0_globs : ∀ g u, T0.globs.get g = some u → g = 0 := fun g u h => by
  have h : (Tr.set Tr.nil 0 ()).get g = some u := h
  rw [Tr.get_set] at h
  split at h
  · assumption
  · rw [Tr.get_nil] at h; cases h
def tabL : List Int := [0, 1, 56, 2, 57, 49, 28, 3, 61, 58, 42, 50, 38, 29, 17, 4, 62, 47, 59, 36, 45, 43, 51, 22, 53, 39, 33, 30, 24, 18, 12, 5, 63, 55, 48, 27, 60, 41, 37, 16, 46, 35, 44, 21, 52, 32, 23, 11, 54, 26, 40, 15, 34, 20, 31, 10, 25, 14, 19, 9, 13, 8, 7, 6]
theorem tab_of_laid {W : World} (h : laidMet Tryd.prog [("math/bits.deBruijn64tab", Rows.laid_math_bits_deBruijn64tab)] W) : ∀ i (h : i < tabL.length), W.cell? ⟨0, i, none⟩ = some (.int .u8 tabL[i]) := by
  have hg : Tryd.prog.globalNamed "math/bits.deBruijn64tab" = some 0 := by kernel_rfl
  have ht := Lib.tabIs_of_head (P := Tryd.prog) (W := W) (k := .u8) (zs := tabL) (rest := []) (t := 148) (e := 5) (n := 64) hg (by kernel_rfl) Tryd.underlying148 Tryd.underlying5 (by kernel_rfl) (by kernel_rfl) h
  intro i hi
  have := ht.cell hg i hi
  rw [this, List.getD_eq_getElem?_getD, List.getElem?_eq_getElem hi]; rfl
theorem tab_cells {W : World} (h : ∀ i (h : i < tabL.length), W.cell? ⟨0, i, none⟩ = some (.int .u8 tabL[i])) : isCells W 0 = true ∧ 0 < (embW W).next ∧ tabsIn T0 T0.tabs (embW W) = true := by
  have h0 := h 0 (by decide)
  have hc := isCells_cell h0
  refine ⟨hc, isCells_lt hc, ?_⟩
  have key : tabIn ⟨0, tabL.map (Value.int .u8)⟩ (embW W) = true := by
    unfold isCells at hc
    split at hc
    case h_2 => cases hc
    rename_i c el fz ho
    unfold tabIn
    simp only [embW_get, ho, Option.map_some, embO]
    have hcell : ∀ i (hi : i < tabL.length), c[i]? = some (.int .u8 tabL[i]) := fun i hi => by
      have := h i hi
      simpa [World.cell?, ho] using this
    have hsz : tabL.length ≤ c.size := by
      have := (Array.getElem?_eq_some_iff.1 (hcell 63 (by decide))).1
      show 64 ≤ c.size; omega
    have htake : (Tr.nil.layO 0 (c.toList.map (absV W))).take 0 (tabL.map (Value.int .u8)).length = some (tabL.map (Value.int .u8)) := by
      refine take_get _ _ 0 _ rfl (fun j hj => ?_)
      have hj' : j < tabL.length := by simpa using hj
      rw [Nat.zero_add, Tr.get_layO _ _ _ _ (.inl (Tr.get_nil _)), if_pos (by simp; omega)]
      simp only [Nat.sub_zero, List.getElem?_map, Array.getElem?_toList, hcell j hj', Option.map_some, Option.getD_some, List.getElem?_eq_getElem hj']
      rfl
    rw [htake]
    simp only [ble_dec, List.length_map, hsz, decide_true]
    have hf : allB flat (tabL.map (Value.int .u8)) = true := by decide
    rw [hf]
    simp only
    have : ∀ l : List Int, listEq (l.map (Value.int .u8)) (l.map (Value.int .u8)) = true := fun l => by
      induction l with
      | nil => rfl
      | cons a l ih => simp only [List.map_cons]; exact listEq_cons (valEq_int _ _) ih
    exact this tabL
  show tabsIn T0 [⟨0, tabL.map (Value.int .u8)⟩] (embW W) = true
  simp only [tabsIn, key]
  rfl
noncomputable def laidWorld (os : Os) : World :=
  let w0 := World.holding Tryd.prog os ⟨#[], #[], []⟩
  { w0 with heap := w0.heap.modify 0 fun
      | .cells _ t frozen => .cells (tabL.map (Value.int .u8)).toArray t frozen
      | o => o }
theorem laid_met (os : Os) (args : Array Value) : laidMet Tryd.prog [("math/bits.deBruijn64tab", Rows.laid_math_bits_deBruijn64tab)] ((laidWorld os).forCall (fun _ _ => 0) ⟨#[], args, []⟩).memory :=
  laidMet_of_run' 8 (by kernel_rfl) (by kernel_rfl)
theorem globs_cells {W : World} (h : isCells W 0 = true) : ∀ g u, T0.globs.get g = some u → isCells W g = true := fun g u hu => by
  rw [T0_globs g u hu]; exact h
end Go.Proofs.YtdpnplanohgecaaDoor

open Go Go.Eng
namespace Go.Proofs.YtdpnplanohgecaaDoor
attribute [local congr] undef_congr WpK.congr WpS.congr WpL.congr WpC.congr WpF.congr gotS.congr callS.congr nextS.congr wantS.congr condS.congr
attribute [local irreducible] WpK
attribute [local simp] WpDr_nil WpDr_cons atS_some dwantS_true dwantS_false kindS_light kindS_float kindS_heavy lightS_value floatS_some heavyS_value heavyS_skip heavyS_enter dcallS_some doneS_eq
  isLight isFloat isPlain dLook testBit_dec dChain dLights_nil dLights_skip dLights_one dLight_nil dLight_cons dFreshes_nil dFreshes_one oneF_none oneF_some dFresh_nil dFresh_cons oneL_some oneW_true oneW_false sameV_value dPut dMay valEq arrEq listEq List.getElem?_cons Tr.get_nil dEnd
attribute [local simp] WpS_nil WpS_cons isDefer undef_false wantS_true wantS_false nextS_value nextS_skip nextS_enter callS_some gotS_some aWanted aOp aEvalF aEval opMove opAssign opPick aVal flat flat1 AAct.put opBinOp opConvert opIndex Tr.get_set Tr.get_lay aBin aResults tupled
  aCall aVals aCallB blt_dec ble_dec beq_dec aBinI_add aBinI_sub aBinI_lss aBinI_leq aBinI_gtr aBinI_geq aBinI_eql aBinI_neq index_str len_str len_slice Nat.beq_refl Nat.beq_refl
  opBox opLoad opFieldAddr opIndexAddr acells aAddr opExtract aExtract opUnOp opAlloc opStore opMakeInterface opNilCheck opBuild aParts opBuildSlice aValW
attribute [local simp] und2 und3 und4 und5 und9 und12 field13_0 field13_1 und21 und22 field23_0 field23_1 field24_0 field24_1 field25_0 field25_1 und28 und31 field34_0 field34_1 field34_2 field35_0 field35_1 field35_2 und46 field50_0 field50_1 field50_2 und55 und56 und58 und61 und62 und73 und75 und90 und94 und95 und96 field97_0 field97_1 field97_2 field97_3 field97_4 field97_5 field97_6 field98_0 field98_1 field98_2 field98_3 field98_4 field98_5 field98_6 und99 und106 field107_0 field107_1 field108_0 field108_1 und119 und122 field124_0 field124_1 field124_2 field125_0 field125_1 field125_2 field131_0 field131_1 field132_0 field132_1 und133 field134_0 field134_1 field135_0 field135_1 und148 und156 und160
set_option maxHeartbeats 4000000
set_option linter.unusedSimpArgs false
set_option linter.unusedVariables false
theorem var_store1 {W : AW} {p : Nat} {el t : TypeId} {l : List Value} (h : Var W p el l) {i : TypeInfo} {v : Value} {o : Nat} (hi : T0.info.get t = some i) (hs : i.size = 1) (hv : acells v = [v]) (hv1 : Value.oneCell' v = true) (ho : o < l.length) :
    ∃ W', aStoreVar T0 W t p o v = some W' ∧ W'.next = W.next ∧ Only (fun b => b = p) W W' ∧ Var W' p el (l.set o v) := by
  obtain ⟨W', h1, h2, h3, h4⟩ := h.store (T := T0) (t := t) (v := v) (o := o) hi (by rw [hv, hs]; rfl) (by rw [hv]; simp; omega) (by rw [hv]; simp only [allB, hv1])
  refine ⟨W', h1, h2, h3, ?_⟩
  rw [hv] at h4
  have e : l.take o ++ [v] ++ l.drop (o + [v].length) = l.set o v := by
    rw [List.set_eq_take_append_cons_drop, if_pos ho]; simp
  rw [e] at h4; exact h4
def pr (a b : Int) : Value := .agg ⟨[.int .i64 a, .int .i64 b]⟩
theorem load55 {W : AW} {b p : Nat} {x y : Int} (h : ∀ j u, (encP (x, y))[j]? = some u → W.Has b (p + j) u) : aLoadVar T0 W 55 b p = some (pr x y) :=
  load_cells (l := encP (x, y)) und55 rfl inf55 (by rw [is55]; rfl) (by show 0 < 2; omega) h
theorem ix55 (p o q : Nat) (hq : q < 2) : aIndexAddr T0 55 (.pointer (some ⟨p, o, none⟩)) (.int .i64 (q : Nat)) = some (.pointer (some ⟨p, o + q, none⟩)) := by
  show aIndexAddr T0 55 (.pointer (some ⟨p, o, none⟩)) (.int .i64 (Int.ofNat q)) = _
  simp only [aIndexAddr, und55, sz3, blt_dec, hq, decide_true, Nat.mul_one]
theorem ix55_0 (p o : Nat) : aIndexAddr T0 55 (.pointer (some ⟨p, o, none⟩)) (.int .i64 0) = some (.pointer (some ⟨p, o, none⟩)) := ix55 p o 0 (by omega)
theorem ix55_1 (p o : Nat) : aIndexAddr T0 55 (.pointer (some ⟨p, o, none⟩)) (.int .i64 1) = some (.pointer (some ⟨p, o + 1, none⟩)) := ix55 p o 1 (by omega)
theorem ix106 (p o q : Nat) (hq : q < 40) : aIndexAddr T0 106 (.pointer (some ⟨p, o, none⟩)) (.int .i64 (q : Nat)) = some (.pointer (some ⟨p, o + q, none⟩)) := by
  show aIndexAddr T0 106 (.pointer (some ⟨p, o, none⟩)) (.int .i64 (Int.ofNat q)) = _
  simp only [aIndexAddr, und106, sz96, blt_dec, hq, decide_true, Nat.mul_one]
theorem build55 (a b : Int) : aBuild T0 55 [(0, .int .i64 a), (1, .int .i64 b)] = some (pr a b) := by kernel_rfl
def zer40 : List Value := List.replicate 40 (.int .u64 0)
theorem row_eq {α : Type} {sz : Nat} {enc : α → List Value} {W : AW} {v : Value} {l : List α} (h : RowIn sz enc W v l) : valEq v v = true := by
  obtain ⟨A, c, rfl, _⟩ := h
  rcases A with _ | ⟨b, o, _ | x⟩ <;> simp
abbrev Edge := Int × Int
def GoodTo (P : Int) (es : List Edge) (k : Nat) : Prop := ∀ i, i < k → ∀ a b, es[i]? = some (a, b) → 0 ≤ a ∧ a < P ∧ 0 ≤ b ∧ b < P ∧ a ≠ b ∧ ∀ j, j < i → es[j]? ≠ some (a, b) ∧ es[j]? ≠ some (b, a)
def GraphOk (P : Int) (es : List Edge) : Prop := 1 ≤ P ∧ P ≤ 40 ∧ es.length ≤ 300 ∧ GoodTo P es es.length
open Classical in
noncomputable def chkG (P : Int) (es : List Edge) : Int := if GraphOk P es then 0 else 40
theorem GoodTo.not {P : Int} {es : List Edge} {k : Nat} (h : ¬ GoodTo P es (k + 1)) (hk : k < es.length) : ¬ GraphOk P es := fun hg => h (fun i hi => hg.2.2.2 i (by omega))
theorem GoodTo.succ {P : Int} {es : List Edge} {k : Nat} {a b : Int} (h : GoodTo P es k) (ha : es[k]? = some (a, b)) (h1 : 0 ≤ a ∧ a < P ∧ 0 ≤ b ∧ b < P ∧ a ≠ b) (h2 : ∀ j, j < k → es[j]? ≠ some (a, b) ∧ es[j]? ≠ some (b, a)) : GoodTo P es (k + 1) := fun i hi x y hx => by
  by_cases e : i = k
  · subst e; rw [ha] at hx; cases hx
    exact ⟨h1.1, h1.2.1, h1.2.2.1, h1.2.2.2.1, h1.2.2.2.2, h2⟩
  · exact h i (by omega) x y hx
def MatIn (W : AW) (v : Value) (ll : List (List Int)) : Prop := ∃ us : List Value, us.length = ll.length ∧ RowIn 1 encV W v us ∧ ∀ (i : Nat) u l, us[i]? = some u → ll[i]? = some l → IntR W u l
def within (m : Int) (l : List Int) : Prop := ∀ x ∈ l, -m ≤ x ∧ x ≤ m
end Go.Proofs.YtdpnplanohgecaaDoor
open Go Go.Eng
namespace Go.Proofs.YtdpnplanohgecaaDoor
open Go.ChangeShapes Go.WideShapes Go.ChangeAt Go.RowKit
theorem absV_row2 {w : World} {a : Addr} {n c : Nat} (h : 0 < c → ∃ v, w.cell? a = some v) (hn : n ≤ c) :
    ∃ a' c', absV w (.slice (some a) n c) = some (.slice a' n c') ∧ (0 < c → a' = some ⟨a.block, a.off, none⟩) ∧ SlOk (.slice a' n c') n := by
  by_cases hc : 0 < c
  · obtain ⟨v, hv⟩ := h hc
    have hs := cell_spot hv
    have hb := isCells_cell hv
    obtain ⟨b, o, s⟩ := a
    simp only at hs hb; subst hs
    exact ⟨some ⟨b, o, none⟩, 2 * c, by simp [absV, hb], fun _ => rfl, .inr (.inl ⟨b, o, c, rfl, hn⟩)⟩
  · obtain rfl : c = 0 := by omega
    obtain rfl : n = 0 := by omega
    obtain ⟨b, o, s⟩ := a
    cases s with
    | none =>
      by_cases hb : isCells w b = true
      · exact ⟨some ⟨b, o, none⟩, 0, by simp [absV, hb], fun x => absurd x hc, .inr (.inl ⟨b, o, 0, rfl, by omega⟩)⟩
      · exact ⟨some ⟨0, 0, some 1⟩, 0, by simp [absV, hb], fun x => absurd x hc, .inr (.inr ⟨rfl, rfl⟩)⟩
    | some s => exact ⟨some ⟨0, 0, some 1⟩, 0, rfl, fun x => absurd x hc, .inr (.inr ⟨rfl, rfl⟩)⟩
section
variable {H : Type} {enc : TypeId × Value → H} {P : Program} {w : World}
theorem wf_i64 {z : Int} (h : (Lit.int .i64 z).wf = true) : -9223372036854775808 ≤ z ∧ z < 9223372036854775808 := by
  have h1 : IntKind.i64.min = -9223372036854775808 := by decide
  simp [Lit.wf] at h; omega
theorem pairs_in2 {t e e2 : TypeId} {fuel : Nat} {held : Bool} {v : Value} {x : DataW H × List MemPlace} (ht : P.underlying t = some (.slice e)) (he : P.underlying e = some (.array 2 e2)) (hc : P.cellsOf e = 2) (he2 : P.underlying e2 = some (.int .i64)) (hc2 : P.cellsOf e2 = 1)
    (h : DataW.trod enc P w 0 (fun _ => true) held fuel t [v] = some x) : ∃ u l, absV w v = some u ∧ PairR (embW w) u l ∧ l.length < 9223372036854775808 ∧ SlOk u l.length := by
  rcases Deep.open_slice ht h with ⟨h1, _⟩ | ⟨a, len, cap, m, n, D, Pl, h1, _, h2, h3, hm, _, h4⟩
  · cases h1
    exact ⟨.slice none 0 0, [], rfl, .nil _, by simp, .inl ⟨rfl, rfl⟩⟩
  · cases h1
    simp only [if_true] at hm
    subst hm
    have each : ∀ i, i < m → ∃ z : Int × Int, w.cell? (a.add (i * 2)) = some (.int .i64 z.1) ∧ w.cell? (a.add (i * 2 + 1)) = some (.int .i64 z.2) := by
      intro i hi
      obtain ⟨cs', g1, g2⟩ := h4 i hi
      rw [hc] at g1
      obtain ⟨_, hlen, hcell⟩ := World.cells?_some g1
      obtain ⟨xs, mm, _, _, _, hl, hel⟩ := DataW.trod_array he g2
      have h0 := hel 0 (by omega)
      have h1 := hel 1 (by omega)
      rw [List.getElem?_eq_getElem (by omega)] at h0 h1
      match cs', hlen with
      | [x0, x1], _ =>
        simp [hc2] at h0 h1
        obtain ⟨z0, e0, _⟩ := DataW.trod_int he2 h0
        obtain ⟨z1, e1, _⟩ := DataW.trod_int he2 h1
        cases e0; cases e1
        have k0 := hcell 0 (by omega)
        have k1 := hcell 1 (by omega)
        rw [Go.Deep.add_add] at k0 k1
        exact ⟨(z0, z1), by simpa using k0, by simpa using k1⟩
    obtain ⟨Z, hZ⟩ := Deep.choose_lt each
    obtain ⟨a', c', g4, g5, g6⟩ := absV_row2 (w := w) (a := a) (n := len) (c := m) (fun hc => ⟨_, by simpa [Addr.add] using (hZ 0 hc).1⟩) h2
    refine ⟨_, (List.range len).map Z, g4, ⟨a', c', by simp, fun h0 => SlOk.emp (n := len) g6, fun i z hi => ?_⟩, by simp; unfold maxLen at h3; omega, by simpa using g6⟩
    have hi' : i < len := by
      have := (List.getElem?_eq_some_iff.1 hi).1
      simpa using this
    simp only [List.getElem?_map, List.getElem?_range hi', Option.map_some, Option.some.injEq] at hi
    subst hi
    obtain ⟨k0, k1⟩ := hZ i (by omega)
    have e0 := emb_has k0 (u := .int .i64 (Z i).1) rfl
    have e1 := emb_has k1 (u := .int .i64 (Z i).2) rfl
    rw [add_block, add_off] at e0 e1
    refine ⟨a.block, a.off, g5 (by omega), fun j u hu => ?_⟩
    have hj : j < 2 := by have := (List.getElem?_eq_some_iff.1 hu).1; simpa [encP] using this
    match j, hj with
    | 0, _ => cases hu; exact e0
    | 1, _ => cases hu; rw [Nat.add_assoc]; exact e1
def MatS (W : AW) (v : Value) (ll : List (List Int)) : Prop := ∃ us : List Value, us.length = ll.length ∧ RowIn 1 encV W v us ∧ ∀ (i : Nat) u l, us[i]? = some u → ll[i]? = some l → IntR W u l ∧ SlOk u l.length
end
end Go.Proofs.YtdpnplanohgecaaDoor

open Go Go.Eng
namespace Go.Proofs.YtdpnplanohgecaaDoor
attribute [local congr] undef_congr WpK.congr WpS.congr WpL.congr WpC.congr WpF.congr gotS.congr callS.congr nextS.congr wantS.congr condS.congr
attribute [local irreducible] WpK
attribute [local simp] WpDr_nil WpDr_cons atS_some dwantS_true dwantS_false kindS_light kindS_float kindS_heavy lightS_value floatS_some heavyS_value heavyS_skip heavyS_enter dcallS_some doneS_eq
  isLight isFloat isPlain dLook testBit_dec dChain dLights_nil dLights_skip dLights_one dLight_nil dLight_cons dFreshes_nil dFreshes_one oneF_none oneF_some dFresh_nil dFresh_cons oneL_some oneW_true oneW_false sameV_value dPut dMay valEq arrEq listEq List.getElem?_cons Tr.get_nil dEnd
attribute [local simp] WpS_nil WpS_cons isDefer undef_false wantS_true wantS_false nextS_value nextS_skip nextS_enter callS_some gotS_some aWanted aOp aEvalF aEval opMove opAssign opPick aVal flat flat1 AAct.put opBinOp opConvert opIndex Tr.get_set Tr.get_lay aBin aResults tupled
  aCall aVals aCallB blt_dec ble_dec beq_dec aBinI_add aBinI_sub aBinI_lss aBinI_leq aBinI_gtr aBinI_geq aBinI_eql aBinI_neq index_str len_str len_slice Nat.beq_refl Nat.beq_refl
  opBox opLoad opFieldAddr opIndexAddr acells aAddr opExtract aExtract opUnOp opAlloc opStore opMakeInterface opNilCheck opBuild aParts opBuildSlice aValW
attribute [local simp] und2 und3 und4 und5 und9 und12 field13_0 field13_1 und21 und22 field23_0 field23_1 field24_0 field24_1 field25_0 field25_1 und28 und31 field34_0 field34_1 field34_2 field35_0 field35_1 field35_2 und46 field50_0 field50_1 field50_2 und55 und56 und58 und61 und62 und73 und75 und90 und94 und95 und96 field97_0 field97_1 field97_2 field97_3 field97_4 field97_5 field97_6 field98_0 field98_1 field98_2 field98_3 field98_4 field98_5 field98_6 und99 und106 field107_0 field107_1 field108_0 field108_1 und119 und122 field124_0 field124_1 field124_2 field125_0 field125_1 field125_2 field131_0 field131_1 field132_0 field132_1 und133 field134_0 field134_1 field135_0 field135_1 und148 und156 und160
set_option maxHeartbeats 4000000
set_option linter.unusedSimpArgs false
set_option linter.unusedVariables false
theorem placesX_wp {l bx x : Nat} (C : Nat → AW → Prop) (D : AW → Prop) (hx : x < 18446744073709551616)
    (hC : ∀ left k W, C left W → left < 18446744073709551616 → left.testBit k = true → (∀ j, j < k → left.testBit j = false) → tabsIn T0 T0.tabs W = true ∧ ∃ st pd fn t n ps asn bd df kin t', W.blocks.get l = some ⟨.loop st pd fn t n ps asn bd df, kin⟩ ∧ aSetAll t n ps.toList [.int .i64 (k : Nat)] = some t' ∧
      WpR T0 l fn t' n asn bd W (fun v W' => ∃ b : Bool, v = .bool b ∧ (b = true → C (dropLow left) W') ∧ (b = false → D W')))
    {W : AW} (h0 : C x W) (hb : W.Has bx 0 (.int .u64 (x : Nat))) : WpF T0 86 [.func (.yield l) #[] #[], .pointer (some ⟨bx, 0, none⟩)] W (fun _ W' => C 0 W' ∨ D W') := by
  have hl := load_of und96 rfl hb
  refine wpF fun86 rfl ?_
  try simp only [wpK_assoc]
  refine wpK_reg (fun R hR => by simp [hl]; exact hR) ?_
  try simp only [wpK_assoc]
  refine wpK_while1 (I := fun k A W' => A.n = 16 ∧ A.defers = [] ∧ A.tmps.get 0 = some (.func (.yield l) #[] #[]) ∧ A.tmps.get 3 = some (.int .u64 (k : Nat)) ∧ k < 18446744073709551616 ∧ C k W')
    (J := fun A W' => A.defers = [] ∧ C 0 W') (Rt := fun A W' => A.defers = [] ∧ D W') (k := x) ?_ ?_ ?_ ?_
  · exact ⟨rfl, rfl, by simp, by simp, hx, h0⟩
  · rintro k ⟨tm, n, ds⟩ W3 ⟨hn, hd, h0, h3, hk, hCk⟩ Q' hJ hRt hI
    simp only at hn hd h0
    subst hn; subst hd
    simp only at h3
    by_cases hz : k = 0
    · subst hz
      try simp only [wpK_assoc]
      refine wpK_reg (fun R hR => by simp [h3]; exact hR) ?_
      try simp only [wpK_assoc]
      first | refine wpK_onF (by simp []) ?_ | refine wpK_out (by simp []) ?_ | refine wpK_condF (by simp []) ?_ | refine wpK_endF (by simp []) (wpK_skip ?_) | refine wpK_endF (by simp []) ?_
      exact hJ _ _ ⟨rfl, hCk⟩
    have hz' : ¬ (k : Int) = 0 := by omega
    try simp only [wpK_assoc]
    refine wpK_reg (fun R hR => by simp [h3, hz', hz]; exact hR) ?_
    try simp only [wpK_assoc]
    first | refine wpK_onT (by simp []) ?_ | refine wpK_outT (by simp []) ?_ | refine wpK_condT (by simp []) ?_ | refine wpK_endT (by simp []) ?_
    obtain ⟨q, hq1, hq2⟩ := low_ex hz
    obtain ⟨hT, st, pd, fn, t', n', ps, asn, bd, df, kin, tt, hy1, hy2, hy3⟩ := hC k q W3 hCk hk hq1 hq2
    refine wpK_block ?_
    try simp only [wpK_assoc]
    refine wpK_x1 (P := fun b W4 => (b = true → C (dropLow k) W4) ∧ (b = false → D W4)) (fun R hR => by
      simp [h0, h3, aEnter, fun81, short_other, aCallV]; rw [callS_none]
      refine (first_wp hT hk hq1 hq2).mono ?_
      rintro _ W9 ⟨e9, rfl⟩; subst W9
      simp [aEnter, hy1, hy2, aCallV, nextS_round]
      refine hy3.mono ?_
      rintro _ W4 ⟨b, rfl, hC4⟩
      simp; exact hR b W4 hC4) ?_
    rintro b W4 ⟨hC4, hD4⟩
    cases b with
    | false =>
      try simp only [wpK_assoc]
      first | refine wpK_onT (by simp []) ?_ | refine wpK_outT (by simp []) ?_ | refine wpK_condT (by simp []) ?_ | refine wpK_endT (by simp []) ?_
      refine wpK_ret ?_
      exact hRt _ _ ⟨rfl, hD4 rfl⟩
    | true =>
    try simp only [wpK_assoc]
    first | refine wpK_onF (by simp []) ?_ | refine wpK_out (by simp []) ?_ | refine wpK_condF (by simp []) ?_ | refine wpK_endF (by simp []) (wpK_skip ?_) | refine wpK_endF (by simp []) ?_
    have w1 : IntKind.u64.wrap ((k : Int) - 1) = ((k - 1 : Nat) : Int) := by
      have : ((k : Int) - 1) = ((k - 1 : Nat) : Int) := by omega
      rw [this]; exact wrap_nat .u64 _ (by show k - 1 < 18446744073709551616; omega)
    have hand := aBinI_and .u64 k (k - 1) (by show k < 18446744073709551616; omega) (by show k - 1 < 18446744073709551616; omega)
    have hlt := dropLow_lt hz
    simp only [leaves_normal, behind_normal]
    try simp only [wpK_assoc]
    refine wpK_reg1 (fun R hR => by simp [h3, w1, hand]; exact hR) ?_
    exact hI (dropLow k) _ _ hlt ⟨rfl, rfl, by simp [h0], by simp; rfl, by omega, hC4 rfl⟩
  · rintro A' W' ⟨h1, h2⟩
    exact ⟨.inr rfl, h1, [], by rfl, .inr h2⟩
  · rintro A' W' ⟨h1, h2⟩
    exact ⟨.inl rfl, h1, [], by rfl, .inl h2⟩
def Marks (lo : Nat) : List Deferred → AW → Prop
  | [], _ => True
  | d :: ds, W => ∃ r, d.target = .collected r ∧ lo ≤ r ∧ r < W.next ∧ W.blocks.get r = some ⟨.deferred (some []), []⟩ ∧ (∀ d' ∈ ds, d'.target ≠ .collected r) ∧ Marks lo ds W
theorem Marks.only {lo : Nat} {W W' : AW} {K : Nat → Prop} (he : Only K W W') : ∀ {ds : List Deferred}, Marks lo ds W → (∀ d ∈ ds, ∀ r, d.target = .collected r → lo ≤ r → r < W.next → ¬ K r) → Marks lo ds W'
  | [], _, _ => trivial
  | d :: ds, h, hk => by
    obtain ⟨r, h1, h2, h3, h4, h5, h6⟩ := h
    exact ⟨r, h1, h2, by have := he.1; omega, by rw [he.2 r h3 (hk d (List.mem_cons_self ..) r h1 h2 h3)]; exact h4, h5, h6.only he (fun d' hd => hk d' (List.mem_cons_of_mem _ hd))⟩
theorem Marks.ext {lo : Nat} {W W' : AW} {ds : List Deferred} (h : Marks lo ds W) (he : Ext W W') : Marks lo ds W' := h.only he (fun _ _ _ _ _ _ x => x)
theorem Marks.low {lo : Nat} {W : AW} : ∀ {ds : List Deferred}, Marks lo ds W → ∀ d ∈ ds, ∀ r, d.target = .collected r → r < W.next
  | d :: ds, h, d', hd, r, hr => by
    obtain ⟨r', h1, h2, h3, h4, h5, h6⟩ := h
    cases hd with
    | head => rw [h1] at hr; cases hr; exact h3
    | tail _ hd => exact h6.low d' hd r hr
theorem Marks.collects {lo : Nat} : ∀ {ds : List Deferred} {W : AW}, Marks lo ds W → ∃ W', Collects ds W W' ∧ Only (fun b => lo ≤ b) W W'
  | [], W, _ => ⟨W, rfl, .refl _ _⟩
  | d :: ds, W, h => by
    obtain ⟨r, h1, h2, h3, h4, h5, h6⟩ := h
    have h6' : Marks lo ds (W.setObj r (.deferred none)) := h6.only (setObj_only W r _) (fun d' hd r' hr _ _ e => h5 d' hd (by rw [hr, e]))
    obtain ⟨W', g1, g2⟩ := h6'.collects
    exact ⟨W', ⟨r, h1, h4, g1⟩, Only.trans (Only.mono (setObj_only W r _) (fun b _ e => by omega)) g2⟩
def JoinL (es : List Edge) (J : List Nat) : Prop := J.length = 40 ∧ ∀ (q x : Nat), J[q]? = some x → x < 1099511627776 ∧ ∀ r : Nat, x.testBit r = true ↔ ∃ i : Nat, es[i]? = some ((q : Int), (r : Int)) ∨ es[i]? = some ((r : Int), (q : Int))
def setV (x : Nat) : Value := .int .u64 (x : Int)
def Web (W : AW) (p : Nat) (P : Int) (es : List Edge) : Prop := ∃ J, JoinL es J ∧ Var W p 108 (.int .i64 P :: J.map setV)
def entsL (es : List Edge) (i : Nat) : List (Value × Value × Nat) := (List.range i).map fun j => (pr (min (es.getD j (0, 0)).1 (es.getD j (0, 0)).2) (max (es.getD j (0, 0)).1 (es.getD j (0, 0)).2), .int .i64 1, j)
theorem w1 : IntKind.i64.wrap 1 = 1 := by decide
theorem w2 : IntKind.i64.wrap 2 = 2 := by decide
theorem max_int (k : IntKind) (a b : Int) : aMinMax true (.int k a) [.int k b] = some (.int k (max a b)) := mm_max k k a b
theorem getD_set_ne {J : List Nat} {a b x : Nat} (h : a ≠ b) : (J.set a x).getD b 0 = J.getD b 0 := by
  rw [List.getD_eq_getElem?_getD, List.getElem?_set, if_neg h, ← List.getD_eq_getElem?_getD]
structure Laying (W : AW) (pw pm : Nat) (P : Int) (es : List Edge) (i : Nat) : Prop where
  web : Web W pw P (es.take i)
  map : W.blocks.get pm = some ⟨.map (entsL es i) i, []⟩
  lt : pm < W.next
theorem Laying.keep {W W' : AW} {pw pm : Nat} {P : Int} {es : List Edge} {i : Nat} {K : Nat → Prop} (h : Laying W pw pm P es i) (hO : Only K W W') (h1 : ¬ K pw) (h2 : ¬ K pm) : Laying W' pw pm P es i where
  web := let ⟨J, g1, g2⟩ := h.web; ⟨J, g1, g2.only hO h1⟩
  map := (hO.2 pm h.lt h2).trans h.map
  lt := Nat.lt_of_lt_of_le h.lt hO.1
open Classical in
noncomputable def offE (ll : List (List Int)) : Int := if ll.length < 1 ∨ 12 < ll.length then 7 else if ∀ r ∈ ll, r.length = ll.length then (if ∀ r ∈ ll, within 1000000 r then 0 else 1) else 7
def OffOk (ll : List (List Int)) : Prop := 1 ≤ ll.length ∧ ll.length ≤ 12 ∧ (∀ r ∈ ll, r.length = ll.length) ∧ ∀ r ∈ ll, within 1000000 r

def gI (l : List Int) (i : Nat) : Int := l.getD i 0
def mAt (ll : List (List Int)) (i j : Nat) : Int := gI (ll.getD i []) j
theorem gI_some {l : List Int} {i : Nat} (h : i < l.length) : l[i]? = some (gI l i) := by
  rw [gI, List.getD_eq_getElem?_getD, List.getElem?_eq_getElem h]; rfl
theorem row_some {ll : List (List Int)} {i : Nat} (h : i < ll.length) : ll[i]? = some (ll.getD i []) := by
  rw [List.getD_eq_getElem?_getD, List.getElem?_eq_getElem h]; rfl
theorem within_gI {m : Int} {l : List Int} (h : within m l) {i : Nat} (hi : i < l.length) : -m ≤ gI l i ∧ gI l i ≤ m := h _ (List.mem_of_getElem? (gI_some hi))
theorem within_of {m : Int} {l : List Int} (h : ∀ i, i < l.length → -m ≤ gI l i ∧ gI l i ≤ m) : within m l := fun x hx => by
  obtain ⟨i, hi, rfl⟩ := List.getElem_of_mem hx
  have := h i hi
  have e := gI_some hi
  rw [List.getElem?_eq_getElem hi] at e
  rw [Option.some.inj e]; exact this
def ArePr (ll : List (List Int)) (u v : List Int) (w : Int) : Prop := OffOk ll ∧ u.length = ll.length ∧ v.length = ll.length ∧ within 1000000000000000 u ∧ within 1000000000000000 v ∧
  (∀ i j, i < ll.length → j < ll.length → mAt ll i j ≤ gI u i + gI v j) ∧ sumN ll.length (fun i => gI u i + gI v i) = w
theorem i64_in {x : Int} (h : -9223372036854775808 ≤ x ∧ x < 9223372036854775808) : IntKind.i64.wrap x = x := IntWalk.i64_in _ (by omega)

end Go.Proofs.YtdpnplanohgecaaDoor
open Go Go.Eng
namespace Go.Proofs.YtdpnplanohgecaaDoor
attribute [local congr] undef_congr WpK.congr WpS.congr WpL.congr WpC.congr WpF.congr gotS.congr callS.congr nextS.congr wantS.congr condS.congr
attribute [local irreducible] WpK
attribute [local simp] WpDr_nil WpDr_cons atS_some dwantS_true dwantS_false kindS_light kindS_float kindS_heavy lightS_value floatS_some heavyS_value heavyS_skip heavyS_enter dcallS_some doneS_eq
  isLight isFloat isPlain dLook testBit_dec dChain dLights_nil dLights_skip dLights_one dLight_nil dLight_cons dFreshes_nil dFreshes_one oneF_none oneF_some dFresh_nil dFresh_cons oneL_some oneW_true oneW_false sameV_value dPut dMay valEq arrEq listEq List.getElem?_cons Tr.get_nil dEnd
attribute [local simp] WpS_nil WpS_cons isDefer undef_false wantS_true wantS_false nextS_value nextS_skip nextS_enter callS_some gotS_some aWanted aOp aEvalF aEval opMove opAssign opPick aVal flat flat1 AAct.put opBinOp opConvert opIndex Tr.get_set Tr.get_lay aBin aResults tupled
  aCall aVals aCallB blt_dec ble_dec beq_dec aBinI_add aBinI_sub aBinI_lss aBinI_leq aBinI_gtr aBinI_geq aBinI_eql aBinI_neq index_str len_str len_slice Nat.beq_refl Nat.beq_refl
  opBox opLoad opFieldAddr opIndexAddr acells aAddr opExtract aExtract opUnOp opAlloc opStore opMakeInterface opNilCheck opBuild aParts opBuildSlice aValW
attribute [local simp] und2 und3 und4 und5 und9 und12 field13_0 field13_1 und21 und22 field23_0 field23_1 field24_0 field24_1 field25_0 field25_1 und28 und31 field34_0 field34_1 field34_2 field35_0 field35_1 field35_2 und46 field50_0 field50_1 field50_2 und55 und56 und58 und61 und62 und73 und75 und90 und94 und95 und96 field97_0 field97_1 field97_2 field97_3 field97_4 field97_5 field97_6 field98_0 field98_1 field98_2 field98_3 field98_4 field98_5 field98_6 und99 und106 field107_0 field107_1 field108_0 field108_1 und119 und122 field124_0 field124_1 field124_2 field125_0 field125_1 field125_2 field131_0 field131_1 field132_0 field132_1 und133 field134_0 field134_1 field135_0 field135_1 und148 und156 und160
set_option maxHeartbeats 4000000
set_option linter.unusedSimpArgs false
set_option linter.unusedVariables false
def onesN (x : Nat) : Nat :=
  let a := ((x >>> 1) &&& 6148914691236517205) + (x &&& 6148914691236517205)
  let b := ((a >>> 2) &&& 3689348814741910323) + (a &&& 3689348814741910323)
  let c := ((b >>> 4) + b) &&& 1085102592571150095
  let d := c + (c >>> 8)
  let e := d + (d >>> 16)
  let f := e + (e >>> 32)
  f &&& 127
section
attribute [local irreducible] aBinI
end
end Go.Proofs.YtdpnplanohgecaaDoor

open Go Go.Eng
namespace Go.Proofs.YtdpnplanohgecaaDoor
attribute [local congr] undef_congr WpK.congr WpS.congr WpL.congr WpC.congr WpF.congr gotS.congr callS.congr nextS.congr wantS.congr condS.congr
attribute [local irreducible] WpK
attribute [local simp] WpDr_nil WpDr_cons atS_some dwantS_true dwantS_false kindS_light kindS_float kindS_heavy lightS_value floatS_some heavyS_value heavyS_skip heavyS_enter dcallS_some doneS_eq
  isLight isFloat isPlain dLook testBit_dec dChain dLights_nil dLights_skip dLights_one dLight_nil dLight_cons dFreshes_nil dFreshes_one oneF_none oneF_some dFresh_nil dFresh_cons oneL_some oneW_true oneW_false sameV_value dPut dMay valEq arrEq listEq List.getElem?_cons Tr.get_nil dEnd
attribute [local simp] WpS_nil WpS_cons isDefer undef_false wantS_true wantS_false nextS_value nextS_skip nextS_enter callS_some gotS_some aWanted aOp aEvalF aEval opMove opAssign opPick aVal flat flat1 AAct.put opBinOp opConvert opIndex Tr.get_set Tr.get_lay aBin aResults tupled
  aCall aVals aCallB blt_dec ble_dec beq_dec aBinI_add aBinI_sub aBinI_lss aBinI_leq aBinI_gtr aBinI_geq aBinI_eql aBinI_neq index_str len_str len_slice Nat.beq_refl Nat.beq_refl
  opBox opLoad opFieldAddr opIndexAddr acells aAddr opExtract aExtract opUnOp opAlloc opStore opMakeInterface opNilCheck opBuild aParts opBuildSlice aValW
attribute [local simp] und2 und3 und4 und5 und9 und12 field13_0 field13_1 und21 und22 field23_0 field23_1 field24_0 field24_1 field25_0 field25_1 und28 und31 field34_0 field34_1 field34_2 field35_0 field35_1 field35_2 und46 field50_0 field50_1 field50_2 und55 und56 und58 und61 und62 und73 und75 und90 und94 und95 und96 field97_0 field97_1 field97_2 field97_3 field97_4 field97_5 field97_6 field98_0 field98_1 field98_2 field98_3 field98_4 field98_5 field98_6 und99 und106 field107_0 field107_1 field108_0 field108_1 und119 und122 field124_0 field124_1 field124_2 field125_0 field125_1 field125_2 field131_0 field131_1 field132_0 field132_1 und133 field134_0 field134_1 field135_0 field135_1 und148 und156 und160
set_option maxHeartbeats 4000000
set_option linter.unusedSimpArgs false
set_option linter.unusedVariables false
def vI (l : List Int) : List Value := l.map (Value.int .i64)
theorem gI_set {l : List Int} {i : Nat} (hi : i < l.length) (x : Int) (j : Nat) : gI (l.set i x) j = if j = i then x else gI l j := by
  rw [gI, gI, List.getD_eq_getElem?_getD, List.getD_eq_getElem?_getD, List.getElem?_set]
  by_cases e : i = j
  · subst e; rw [if_pos rfl, if_pos hi, if_pos rfl]; rfl
  · rw [if_neg e, if_neg (fun h => e h.symm)]
def BestFrom (n : Nat) (c : Nat → Nat → Int) (B : Nat → Int) (t : Nat) : Prop := B (2 ^ n - 1) = 0 ∧ ∀ s, t ≤ s → s < 2 ^ n → (-(1000000 * ((n - pc s : Nat) : Int)) ≤ B s ∧ B s ≤ 1000000 * ((n - pc s : Nat) : Int)) ∧
  (s ≠ 2 ^ n - 1 → (∀ q, q < n → s.testBit q = false → c (pc s) q + B (s ||| 1 <<< q) ≤ B s) ∧ ∃ q, q < n ∧ s.testBit q = false ∧ c (pc s) q + B (s ||| 1 <<< q) = B s)
theorem BestFrom.best {n : Nat} {c : Nat → Nat → Int} {B : Nat → Int} (h : BestFrom n c B 0) (hn : n ≤ 40) : BestN n c B where
  full := h.1
  le := fun t ht q hq hb => (h.2 t (Nat.zero_le _) ht).2 (fun e => by subst e; rw [full_bit, decide_eq_true hq] at hb; cases hb) |>.1 q hq hb
  is := fun t ht hne => ((h.2 t (Nat.zero_le _) ht).2 hne).2
def PartN (n : Nat) (c : Nat → Nat → Int) (B : Nat → Int) (t j : Nat) : Prop := (∀ q, q < j → t.testBit q = false → c (pc t) q + B (t ||| 1 <<< q) ≤ B t) ∧
  ((B t = -9223372036854775808 ∧ ∀ q, q < j → t.testBit q = true) ∨ ∃ q, q < j ∧ t.testBit q = false ∧ c (pc t) q + B (t ||| 1 <<< q) = B t)
theorem pc_or {n t q : Nat} (hn : n ≤ 12) (ht : t < 2 ^ n) (hq : q < n) (hb : t.testBit q = false) : pc (t ||| 1 <<< q) = pc t + 1 ∧ pc t < n := by
  have h1 := cntB_or hb (m := 40)
  rw [if_pos (by omega)] at h1
  exact ⟨h1, cntB_lt (m := 40) ht hq hb (by omega)⟩
theorem BestFrom.step {n : Nat} {c : Nat → Nat → Int} {B : Nat → Int} {t : Nat} (hn : n ≤ 12) (hc : ∀ i j, i < n → j < n → -1000000 ≤ c i j ∧ c i j ≤ 1000000) (ht : t < 2 ^ n - 1) (h : BestFrom n c B (t + 1)) (hp : PartN n c B t n) : BestFrom n c B t := by
  have htl : t < 2 ^ n := by omega
  refine ⟨h.1, fun s h1 h2 => ?_⟩
  by_cases e : s = t
  case neg => exact h.2 s (by omega) h2
  subst e
  have hex : ∃ q, q < n ∧ s.testBit q = false ∧ c (pc s) q + B (s ||| 1 <<< q) = B s := by
    rcases hp.2 with ⟨_, hall⟩ | hx
    · rcases full_or_free htl with e | ⟨k, hk, hb⟩
      · omega
      · rw [hall k hk] at hb; cases hb
    · exact hx
  obtain ⟨q, hq, hb, hv⟩ := hex
  refine ⟨?_, fun _ => ⟨hp.1, q, hq, hb, hv⟩⟩
  obtain ⟨p1, p2⟩ := pc_or hn htl hq hb
  have hx := (h.2 (s ||| 1 <<< q) (by have := or_gt hb; omega) (or_ltp htl hq)).1
  have hcc := hc (pc s) q p2 hq
  rw [p1] at hx
  omega
theorem BestFrom.keep {n : Nat} {c : Nat → Nat → Int} {B B' : Nat → Int} {t : Nat} (h : BestFrom n c B t) (ht : t ≤ 2 ^ n - 1) (he : ∀ s, t ≤ s → B' s = B s) : BestFrom n c B' t := by
  refine ⟨by rw [he _ ht]; exact h.1, fun s h1 h2 => ?_⟩
  rw [he s h1]
  refine ⟨(h.2 s h1 h2).1, fun hne => ?_⟩
  obtain ⟨g1, q, g2, g3, g4⟩ := (h.2 s h1 h2).2 hne
  refine ⟨fun q hq hb => ?_, q, g2, g3, ?_⟩
  · rw [he _ (by have := or_gt hb; omega)]; exact g1 q hq hb
  · rw [he _ (by have := or_gt g3; omega)]; exact g4
theorem OffOk.bound {ll : List (List Int)} (h : OffOk ll) {i j : Nat} (hi : i < ll.length) (hj : j < ll.length) : -1000000 ≤ mAt ll i j ∧ mAt ll i j ≤ 1000000 := by
  have hx := row_some hi
  have hm := List.mem_of_getElem? hx
  exact within_gI (h.2.2.2 _ hm) (by rw [h.2.2.1 _ hm]; exact hj)
theorem has_is {s p : Nat} {b : Bool} (hb : s.testBit p = b) (hs : s < 18446744073709551616) (hp : p ≤ 64) (W : AW) : WpF T0 60 [.int .u64 s, .int .i64 p] W (fun v W' => W' = W ∧ v = .bool b) := by
  have := has_wp s p hs hp W
  rwa [hb] at this
def natsV (ps : List Nat) : List Value := ps.map fun p : Nat => Value.int .i64 (p : Int)
theorem natsV_flat (ps : List Nat) : natsV ps = flatE (encI .i64) (ps.map Int.ofNat) := by
  induction ps with
  | nil => rfl
  | cons a l ih => simp only [natsV, flatE, List.map_cons, List.flatMap_cons] at ih ⊢; rw [ih]; rfl
theorem natsV_row {W : AW} {v : Value} {ps : List Nat} {K : Nat → Prop} (h : GrowsN W v ps.length (natsV ps) 3 1 K) : IntR W v (ps.map Int.ofNat) := by
  rw [natsV_flat] at h
  exact GrowsN.row (l := ps.map Int.ofNat) encI_len (by simpa using h)
def IsAssign (ll : List (List Int)) (ps : List Nat) (B : Nat → Int) : Prop := ps.length = ll.length ∧ BestN ll.length (mAt ll) B ∧ Chosen ll.length (mAt ll) B ps ∧ -12000000 ≤ B 0 ∧ B 0 ≤ 12000000
def setsL (g : Nat → Nat) : List Value := (List.range 40).map fun j => Value.int .u64 (g j : Nat)
theorem setsL_len (g : Nat → Nat) : (setsL g).length = 40 := by simp [setsL]
theorem setsL_at (g : Nat → Nat) {j : Nat} (h : j < 40) : (setsL g)[j]? = some (.int .u64 (g j : Nat)) := by
  simp only [setsL, List.getElem?_map, List.getElem?_range h]; rfl
def updN (g : Nat → Nat) (j x : Nat) : Nat → Nat := fun i => if i = j then x else g i
theorem setsL_set (g : Nat → Nat) {j : Nat} (x : Nat) : (setsL g).set j (.int .u64 (x : Nat)) = setsL (updN g j x) := by
  apply List.ext_getElem?
  intro i
  rw [List.getElem?_set]
  by_cases hi : i < 40
  · rw [setsL_at _ hi, setsL_at _ hi, setsL_len]
    by_cases e : j = i
    · subst e; rw [if_pos rfl, if_pos hi]; simp [updN]
    · rw [if_neg e]; simp only [updN, if_neg (Ne.symm e)]
  · rw [List.getElem?_eq_none (by rw [setsL_len]; omega), List.getElem?_eq_none (by rw [setsL_len]; omega)]
    split
    · rw [setsL_len, if_neg (by omega)]
    · rfl
theorem setsL_congr {g g' : Nat → Nat} (h : ∀ j, j < 40 → g j = g' j) : setsL g = setsL g' := by
  apply List.map_congr_left
  intro j hj
  rw [List.mem_range] at hj
  rw [h j hj]
abbrev OrdAt (W : AW) (o n : Nat) (f : Nat → Nat) : Prop := Var W o 132 (.int .i64 (n : Int) :: setsL f)
theorem ord_n {W : AW} {o n : Nat} {f : Nat → Nat} (h : OrdAt W o n f) : aLoadVar T0 W 3 o 0 = some (.int .i64 (n : Int)) := h.load1 (T := T0) und3 rfl (j := 0) rfl
theorem ord_set {W : AW} {o n : Nat} {f : Nat → Nat} (h : OrdAt W o n f) {j : Nat} (hj : j < 40) : aLoadVar T0 W 96 o (1 + j) = some (.int .u64 (f j : Nat)) :=
  h.load1 (T := T0) und96 rfl (j := 1 + j) (by rw [show 1 + j = j + 1 from by omega, List.getElem?_cons_succ]; exact setsL_at f hj)
theorem ord_put {W : AW} {o n : Nat} {f : Nat → Nat} (h : OrdAt W o n f) {j : Nat} (hj : j < 40) (x : Nat) :
    ∃ W', aStoreVar T0 W 96 o (1 + j) (.int .u64 (x : Nat)) = some W' ∧ W'.next = W.next ∧ Only (fun b => b = o) W W' ∧ OrdAt W' o n (updN f j x) := by
  obtain ⟨W', g1, g2, g3, g4⟩ := var_store1 (t := 96) (v := .int .u64 (x : Nat)) (o := 1 + j) h inf96 is96 rfl rfl (by simp [setsL_len]; omega)
  refine ⟨W', g1, g2, g3, ?_⟩
  rw [show 1 + j = j + 1 from by omega, List.set_cons_succ, setsL_set] at g4
  exact g4
theorem OrdAt.congr {W : AW} {o n : Nat} {f g : Nat → Nat} (h : OrdAt W o n f) (hg : ∀ j, j < 40 → f j = g j) : OrdAt W o n g := by
  have := setsL_congr hg
  unfold OrdAt at *; rw [← this]; exact h
theorem Only.wide {W W' : AW} {K : Nat → Prop} (h : Ext W W') : Only K W W' := h.mono (fun _ _ x => x.elim)
theorem und145' : T0.und.get 145 = some Tryd.t145.desc := by kernel_rfl
theorem agg145 : isAggD Tryd.t145.desc = false := by kernel_rfl
structure PWalk (l b1 o n lo : Nat) (C : Nat → Nat → AW → Prop) (E : Nat → AW → Prop) (Kx : Nat → Prop) : Prop where
  stay : ∀ a x W W', C a x W → Only (fun b => lo ≤ b) W W' → C a x W'
  stayE : ∀ a W W', E a W → Only (fun b => lo ≤ b) W W' → E a W'
  base : ∀ a W, E a W → lo ≤ W.next ∧ 0 < lo ∧ W.Has b1 0 (.pointer (some ⟨o, 0, none⟩)) ∧ b1 < lo ∧ o < lo ∧ ∃ f : Nat → Nat, OrdAt W o n f ∧ (a < n → f a < 1099511627776 ∧ C a (f a) W)
  tabs : ∀ a x W, C a x W → lo ≤ W.next ∧ tabsIn T0 T0.tabs W = true
  next : ∀ a W, a < n → C a 0 W → E (a + 1) W
  low : ∀ b, Kx b → b < lo
  ask : ∀ a left k W, a < n → C a left W → left < 18446744073709551616 → left.testBit k = true → (∀ j, j < k → left.testBit j = false) → ∃ st pd fn t n ps asn bd df kin t', W.blocks.get l = some ⟨.loop st pd fn t n ps asn bd df, kin⟩ ∧
    aSetAll t n ps.toList [.int .i64 (a : Int), .int .i64 (k : Int)] = some t' ∧ WpR T0 l fn t' n asn bd W (fun v W' => Only Kx W W' ∧ v = .bool true ∧ C a (dropLow left) W')
theorem pairs1_wp {l b1 o n : Nat} {C : Nat → Nat → AW → Prop} {E : Nat → AW → Prop} {Kx : Nat → Prop} {W0 : AW} (hw : PWalk l b1 o n W0.next C E Kx) (hn : n ≤ 40) (h0 : E 0 W0) :
    WpF T0 91 [.func (.yield l) #[] #[], .pointer (some ⟨b1, 0, none⟩)] W0 (fun _ W' => E n W') := by
  refine wpFd fun91 rfl ?_
  obtain ⟨W1, hW1, hE1, hV1, hn1⟩ : ∃ W1, W1 = W0.newCells 145 [.func (.yield l) #[] #[]] ∧ Ext W0 W1 ∧ Var W1 W0.next 145 [.func (.yield l) #[] #[]] ∧ W1.next = W0.next + 1 := ⟨_, rfl, .newCells _ _ _, Var.new _ _ _, rfl⟩
  have hE01 := hw.stayE _ _ _ h0 (Only.wide hE1)
  obtain ⟨-, -, b3, -, -, f0, b6, -⟩ := hw.base _ _ hE01
  have q1 := load_of und119 rfl b3
  have q2 := ord_n b6
  try simp only [wpK_assoc]
  refine wpK_reg (fun R hR => by simp [← hW1]; exact hR) ?_
  try simp only [wpK_assoc]
  refine wpK_reg (fun R hR => by simp [q1, q2]; exact hR) ?_
  obtain ⟨lo, hlo⟩ : ∃ lo, lo = W0.next := ⟨_, rfl⟩
  rw [← hlo] at hw hV1 hn1
  try simp only [wpK_assoc]
  refine wpK_while1 (I := fun k A' W' => A'.n = 26 ∧ A'.tmps.get 1 = some (.pointer (some ⟨b1, 0, none⟩)) ∧ A'.tmps.get 2 = some (.pointer (some ⟨lo, 0, none⟩)) ∧ A'.tmps.get 8 = some (.int .i64 (n : Int)) ∧
      ∃ (a : Nat), A'.tmps.get 9 = some (.int .i64 (a : Int)) ∧ k = n - a ∧ a ≤ n ∧ Marks lo A'.defers W' ∧ lo + 1 ≤ W'.next ∧ Var W' lo 145 [.func (.yield l) #[] #[]] ∧ E a W')
    (J := fun A' W' => Marks lo A'.defers W' ∧ E n W') (Rt := fun A' W' => False) (k := n) ?_ ?_ ?_ ?_
  · exact ⟨rfl, by simp, by simp [hlo], by simp, 0, by simp, rfl, by omega, trivial, by omega, hV1, hE01⟩
  · rintro k ⟨tm, n', ds⟩ Wa ⟨hn', h1, h2, h8, a, h9, hk, han, hMk, hna, hVa, hEa⟩ Q' hJ hRt hI
    simp only at hn' h1 h2 h8 h9 hMk
    subst hn'
    by_cases hlt : a < n
    case neg =>
      have e : a = n := by omega
      subst e
      try simp only [wpK_assoc]
      refine wpK_reg (fun R hR => by simp [h9, h8]; exact hR) ?_
      try simp only [wpK_assoc]
      first | refine wpK_onF (by simp []) ?_ | refine wpK_out (by simp []) ?_ | refine wpK_condF (by simp []) ?_ | refine wpK_endF (by simp []) (wpK_skip ?_) | refine wpK_endF (by simp []) ?_
      exact hJ _ _ ⟨hMk, hEa⟩
    have hlt' : (a : Int) < n := by omega
    try simp only [wpK_assoc]
    refine wpK_reg (fun R hR => by simp [h9, h8, hlt']; exact hR) ?_
    try simp only [wpK_assoc]
    first | refine wpK_onT (by simp [hlt]) ?_ | refine wpK_outT (by simp [hlt]) ?_ | refine wpK_condT (by simp [hlt]) ?_ | refine wpK_endT (by simp [hlt]) ?_
    obtain ⟨Wb, s1, s2, s3, s4⟩ := storeVar_new (T := T0) (W := Wa) (t := 3) (z := [.int .i64 0]) (v := .int .i64 (a : Int)) inf3 (by rw [is3]; rfl) (by rw [is3]; rfl) rfl
    have s4 : Var Wb Wa.next 3 [.int .i64 (a : Int)] := s4
    refine wpK_block ?_
    try simp only [wpK_assoc]
    refine wpK_reg (fun R hR => by simp [h9, zero3, s1]; exact hR) ?_
    have hEb := hw.stayE _ _ _ hEa (Only.wide s3)
    obtain ⟨g1, g2, g3, g4, g5, f, g6, g7⟩ := hw.base _ _ hEb
    obtain ⟨g7, hCb⟩ := g7 hlt
    have l1 := load_of und119 rfl g3
    have l3 := s4.load1 (T := T0) und3 rfl (j := 0) (v := .int .i64 (a : Int)) rfl
    have l5 := ord_set g6 (j := a) (by omega)
    have i1 := ix106 o 1 a (by omega)
    generalize hx : f a = x at l5 g7 hCb
    try simp only [wpK_assoc]
    refine wpK_d0 (wr := Tr.nil |>.set 12 0 |>.set 13 1 |>.set 14 2 |>.set 15 3 |>.set 16 4 |>.set 17 5 |>.set 18 6) (bits := Tr.nil.lay 0 [0, 0, 1, 5, 15, 31, 63]) (ord := [0, 1, 2, 3, 4, 5, 6]) (by kernel_rfl) (by kernel_rfl) (by kernel_rfl) (fun G hG => by
      simp [h1, h2, l1, l3, l5, i1, aEnter, fun77, short_other, aCallV]
      rw [dcallS_none]
      refine (places_wp x).mono ?_
      rintro _ Wc ⟨hEc, rfl, hBc⟩
      simp [h1, h2, l1, l3, l5, i1, hEc.1]
      exact hG Wc (And.intro hEc hBc)) ?_
    rintro Wc ⟨hEc, hBc⟩
    refine wpK_keep (fun tm' => tm'.get 1 = some (.pointer (some ⟨b1, 0, none⟩)) ∧ tm'.get 2 = some (.pointer (some ⟨lo, 0, none⟩)) ∧ tm'.get 3 = some (.pointer (some ⟨Wa.next, 0, none⟩)) ∧ tm'.get 8 = some (.int .i64 (n : Int)) ∧ tm'.get 9 = some (.int .i64 (a : Int)) ∧ tm'.get 18 = some (.func (.func 86) ⟨[]⟩ ⟨[.pointer (some ⟨Wb.next, 0, none⟩)]⟩)) ⟨by simp [h1], by simp [h2], by simp, by simp [h8], by simp [h9], by simp⟩ ?_
    rintro tm ⟨h1, h2, h3, h8, h9, h18⟩
    have nb := s3.1
    have nc := hEc.1
    refine wpK_range3 (f := 86) (first := ⟨[]⟩) (cap := ⟨[.pointer (some ⟨Wb.next, 0, none⟩)]⟩) (by simp [h18]) fun86 (fun W5 hn5 hW5 hdf hlp => ?_)
    obtain ⟨q, hq⟩ : ∃ q, q = Wc.next := ⟨_, rfl⟩
    rw [← hq] at hn5 hdf hlp
    have hEc5 : Ext Wc W5 := ⟨by omega, fun b hb _ => hW5 b hb⟩
    have hEb5 := hEc.trans hEc5
    have hEa5 := s3.trans hEb5
    have own : ∀ {W W' : AW} {K : Nat → Prop}, (W5.next ≤ W.next ∧ Var W lo 145 [.func (.yield l) #[] #[]] ∧ Var W Wa.next 3 [.int .i64 (a : Int)] ∧ W.blocks.get q = some ⟨.deferred (some []), []⟩ ∧ Marks lo ds W) → Only K W W' → (∀ b, K b → b < lo ∨ b = q + 1) →
        (W5.next ≤ W'.next ∧ Var W' lo 145 [.func (.yield l) #[] #[]] ∧ Var W' Wa.next 3 [.int .i64 (a : Int)] ∧ W'.blocks.get q = some ⟨.deferred (some []), []⟩ ∧ Marks lo ds W') := by
      intro W W' K ⟨o1, o2, o3, o4, o5⟩ he hK
      have hlow := hMk.low
      refine ⟨Nat.le_trans o1 he.1, o2.only he (fun hk => by have := hK _ hk; omega), o3.only he (fun hk => by have := hK _ hk; omega), by rw [he.2 q (by omega) (fun hk => by have := hK _ hk; omega)]; exact o4, o5.only he (fun d hd r hr h1 _ hk => ?_)⟩
      have := hlow d hd r hr
      have := hK _ hk; omega
    have own5 : W5.next ≤ W5.next ∧ Var W5 lo 145 [.func (.yield l) #[] #[]] ∧ Var W5 Wa.next 3 [.int .i64 (a : Int)] ∧ W5.blocks.get q = some ⟨.deferred (some []), []⟩ ∧ Marks lo ds W5 :=
      ⟨Nat.le_refl _, hVa.ext hEa5, s4.ext hEb5, hdf, hMk.ext hEa5⟩
    refine (places1_wp (l := Wc.next + 1) (bx := Wb.next) (x := x)
      (fun left W' => (W5.next ≤ W'.next ∧ Var W' lo 145 [.func (.yield l) #[] #[]] ∧ Var W' Wa.next 3 [.int .i64 (a : Int)] ∧ W'.blocks.get q = some ⟨.deferred (some []), []⟩ ∧ Marks lo ds W') ∧ W'.blocks.get (q + 1) = W5.blocks.get (q + 1) ∧ C a left W')
      (by omega) (fun left k W' hC hl hb1 hb2 => ?_) ⟨own5, rfl, hw.stay _ _ _ _ hCb (Only.wide hEb5)⟩ (hBc.ext hEc5)).mono ?_
    · obtain ⟨c1, c2, c3⟩ := hC
      have hl' := c2.trans hlp
      obtain ⟨_, t3⟩ := hw.tabs _ _ _ c3
      rw [hq] at hl'
      refine ⟨t3, _, _, _, _, _, _, _, _, _, _, tm.set 19 (.int .i64 (k : Nat)), hl', rfl, ?_⟩
      refine wpR ?_
      try simp only [wpK_assoc]
      refine wpK_reg1 (fun R hR => by simp []; exact hR) ?_
      refine ⟨rfl, _, _, _, _, _, _, _, _, hl', ?_⟩
      rw [← hq] at hl' ⊢
      generalize hbz : (AObj.loop LoopState.busy _ _ _ _ _ _ _ _) = bz
      obtain ⟨Wy, hWy, hOy, hny⟩ : ∃ Wy, Wy = W'.setObj (q + 1) bz ∧ Only (fun b => b = q + 1) W' Wy ∧ Wy.next = W'.next := ⟨_, rfl, setObj_only _ _ _, rfl⟩
      rw [← hWy]
      have hly : Wy.blocks.get (q + 1) = some ⟨bz, []⟩ := by rw [hWy, setObj_get, if_pos rfl]
      have owny := own c1 hOy (fun b hb => .inr hb)
      have hCy := hw.stay _ _ _ _ c3 (hOy.mono (fun b _ hb => by omega))
      have e3 := owny.2.1.load1 (T := T0) und145' agg145 (j := 0) (v := .func (.yield l) #[] #[]) rfl
      have e4 := owny.2.2.1.load1 (T := T0) und3 rfl (j := 0) (v := .int .i64 (a : Int)) rfl
      obtain ⟨st, pd, fn, t', n'', ps, asn, bd, df, kin, tt, z1, z2, z3⟩ := hw.ask a left k Wy hlt hCy hl hb1 hb2
      refine wpK_block1 ?_
      try simp only [wpK_assoc]
      refine wpK_x0 (P := fun W4 => Only Kx Wy W4 ∧ C a (dropLow left) W4) (fun R hR => by
        simp [h2, h3, e3, e4, aEnter, aCallV, z1, z2, nextS_round]
        refine z3.mono ?_
        rintro _ W4 ⟨hO4, rfl, hC4⟩
        simp; exact hR W4 (And.intro hO4 hC4)) ?_
      rintro W4 ⟨hO4, hC4⟩
      have own4 := own owny hO4 (fun b hb => .inl (hw.low b hb))
      have hl4 : W4.blocks.get (q + 1) = some ⟨bz, []⟩ := by rw [hO4.2 (q + 1) (by omega) (fun hk => by have := hw.low _ hk; omega)]; exact hly
      try simp only [wpK_assoc]
      first | refine wpK_onF (by simp []) ?_ | refine wpK_out (by simp []) ?_ | refine wpK_condF (by simp []) ?_ | refine wpK_endF (by simp []) (wpK_skip ?_) | refine wpK_endF (by simp []) ?_
      simp only [leaves_normal]
      subst hbz
      exact ⟨_, _, _, _, _, _, _, _, _, hl4, rfl, own own4 (setObj_only W4 (q + 1) _) (fun b hb => .inr hb), by rw [setObj_get, if_pos rfl]; exact hlp.symm, hw.stay _ _ _ _ hC4 ((setObj_only W4 (q + 1) _).mono (fun b _ hb => by omega))⟩
    · rintro _ W6 ⟨c1, c2, c3⟩
      have hl6 := c2.trans hlp
      rw [hq] at hl6
      refine ⟨_, _, _, _, _, _, _, _, _, hl6, (fun h => by cases h), ?_⟩
      rw [← hq]
      generalize hex : (AObj.loop LoopState.exhausted _ _ _ _ _ _ _ _) = ex
      obtain ⟨W7, hW7, hO7⟩ : ∃ W7, W7 = W6.setObj (q + 1) ex ∧ Only (fun b => b = q + 1) W6 W7 := ⟨_, rfl, setObj_only _ _ _⟩
      rw [← hW7]
      have own7 := own c1 hO7 (fun b hb => .inr hb)
      have n7 := hO7.1
      simp only [goOn, leaves_normal, behind_normal]
      try simp only [wpK_assoc]
      refine wpK_reg1 (fun R hR => by simp [h9]; exact hR) ?_
      refine hI (n - (a + 1)) _ _ (by omega) ⟨rfl, by simp [h1], by simp [h2], by simp [h8], a + 1, by simp [i64_succ a (by omega)], rfl, by omega, ⟨q, rfl, by omega, by omega, own7.2.2.2.1, fun d hd e => ?_, own7.2.2.2.2⟩, by omega, own7.2.1, hw.next a _ hlt (hw.stay _ _ _ _ c3 (hO7.mono (fun b _ hb => by omega)))⟩
      have := hMk.low d hd q e
      omega
  · rintro A' W' hf; exact hf.elim
  · rintro A' W' ⟨h1, h2⟩
    obtain ⟨W'', g1, g2⟩ := h1.collects
    exact ⟨.inl rfl, W'', g1, [], by rfl, hw.stayE _ _ _ h2 g2⟩
end Go.Proofs.YtdpnplanohgecaaDoor
open Go Go.Eng
namespace Go.Proofs.YtdpnplanohgecaaDoor
def wS (r : Nat → Nat → Bool) (k : Nat) : Nat → Nat → Bool := fun x y => r x y || (r x k && r k y)
def wR (r : Nat → Nat → Bool) : Nat → Nat → Nat → Bool
  | 0 => r
  | k + 1 => wS (wR r k) k
theorem wS_col (r : Nat → Nat → Bool) (k x : Nat) : wS r k x k = r x k := by
  unfold wS; cases r x k <;> simp
theorem wS_row (r : Nat → Nat → Bool) (k y : Nat) : wS r k k y = r k y := by
  unfold wS; cases r k y <;> simp
theorem wR_through (r : Nat → Nat → Bool) : ∀ k j x y, j < k → wR r k x j = true → wR r k j y = true → wR r k x y = true
  | 0, j, _, _, hj, _, _ => by omega
  | k + 1, j, x, y, hj, h1, h2 => by
    have ih := wR_through r k j
    by_cases e : j = k
    · subst e
      have h1 : wS (wR r j) j x j = true := h1
      have h2 : wS (wR r j) j j y = true := h2
      rw [wS_col] at h1; rw [wS_row] at h2
      show wS (wR r j) j x y = true
      simp [wS, h1, h2]
    · show wS (wR r k) k x y = true
      have h1 : wS (wR r k) k x j = true := h1
      have h2 : wS (wR r k) k j y = true := h2
      simp only [wS, Bool.or_eq_true, Bool.and_eq_true] at h1 h2 ⊢
      rcases h1 with h1 | ⟨h1, h1'⟩ <;> rcases h2 with h2 | ⟨h2, h2'⟩
      · exact .inl (ih x y (by omega) h1 h2)
      · exact .inr ⟨ih x k (by omega) h1 h2, h2'⟩
      · exact .inr ⟨h1, ih k y (by omega) h1' h2⟩
      · exact .inr ⟨h1, h2'⟩
theorem wR_in {r : Nat → Nat → Bool} {n : Nat} (h : ∀ x y, r x y = true → x < n ∧ y < n) : ∀ k x y, wR r k x y = true → x < n ∧ y < n
  | 0, x, y, e => h x y e
  | k + 1, x, y, e => by
    have ih := wR_in h k
    have e : wS (wR r k) k x y = true := e
    simp only [wS, Bool.or_eq_true, Bool.and_eq_true] at e
    rcases e with e | ⟨e1, e2⟩
    · exact ih x y e
    · exact ⟨(ih _ _ e1).1, (ih _ _ e2).2⟩
structure Ord (n : Nat) (R : Nat → Nat → Bool) : Prop where
  lt : ∀ {a b}, R a b = true → a < n ∧ b < n
  irr : ∀ a, R a a = false
  tr : ∀ {a b c}, R a b = true → R b c = true → R a c = true
theorem Ord.rev {n : Nat} {R : Nat → Nat → Bool} (h : Ord n R) : Ord n (fun a b => R b a) :=
  ⟨fun e => ⟨(h.lt e).2, (h.lt e).1⟩, h.irr, fun e f => h.tr f e⟩
theorem ord_of {n : Nat} {r : Nat → Nat → Bool} (h : ∀ x y, r x y = true → x < n ∧ y < n) (hi : ∀ a, a < n → wR r n a a = false) : Ord n (wR r n) :=
  ⟨fun e => wR_in h n _ _ e, fun a => by
    by_cases ha : a < n
    · exact hi a ha
    · cases e : wR r n a a with
      | false => rfl
      | true => exact absurd (wR_in h n _ _ e).1 ha,
   fun {a b c} e f => wR_through r n b a c (wR_in h n _ _ e).2 e f⟩
theorem filter_lt {l : List Nat} {p : Nat → Bool} {x : Nat} (hx : x ∈ l) (hp : p x = false) : (l.filter p).length < l.length := by
  induction l with
  | nil => cases hx
  | cons y l ih =>
    rw [List.filter_cons]
    by_cases e : p y = true
    · rw [if_pos e]
      rcases List.mem_cons.1 hx with h | h
      · subst h; rw [hp] at e; cases e
      · have := ih h; simp only [List.length_cons]; omega
    · rw [if_neg e]
      have := List.length_filter_le p l
      simp only [List.length_cons]; omega
theorem Ord.min {n : Nat} {R : Nat → Nat → Bool} (h : Ord n R) : ∀ (m : Nat) (l : List Nat), l.length ≤ m → l ≠ [] → ∃ a ∈ l, ∀ b ∈ l, R a b = false
  | 0, l, hm, hl => absurd (List.length_eq_zero_iff.1 (by omega)) hl
  | m + 1, [], _, hl => absurd rfl hl
  | m + 1, k :: l, hm, _ => by
    by_cases e : ((k :: l).filter (R k)) = []
    · refine ⟨k, List.mem_cons_self, fun b hb => ?_⟩
      cases hR : R k b with
      | false => rfl
      | true =>
        have : b ∈ (k :: l).filter (R k) := List.mem_filter.2 ⟨hb, hR⟩
        rw [e] at this; cases this
    · have hlt := filter_lt (l := k :: l) (p := R k) List.mem_cons_self (h.irr k)
      obtain ⟨a, ha, hmin⟩ := h.min m _ (by omega) e
      have ha' := List.mem_filter.1 ha
      refine ⟨a, ha'.1, fun b hb => ?_⟩
      cases hR : R a b with
      | false => rfl
      | true => rw [← hR]; exact hmin b (List.mem_filter.2 ⟨hb, h.tr ha'.2 hR⟩)
def IsH (n : Nat) (R : Nat → Nat → Bool) (H : Nat → Nat) : Prop := ∀ a, a < n → (∀ b, R a b = true → H b < H a) ∧ (H a = 0 ∨ ∃ b, R a b = true ∧ H b + 1 = H a)
theorem hts_ex {n : Nat} {R : Nat → Nat → Bool} (h : Ord n R) : ∀ (m : Nat) (l : List Nat), l.length ≤ m → ∃ H : Nat → Nat, ∀ a ∈ l, (∀ b ∈ l, R a b = true → H b < H a) ∧ (H a = 0 ∨ ∃ b ∈ l, R a b = true ∧ H b + 1 = H a)
  | 0, l, hm => ⟨fun _ => 0, fun a ha => by rw [List.length_eq_zero_iff.1 (show l.length = 0 by omega)] at ha; cases ha⟩
  | m + 1, l, hm => by
    by_cases hl : l = []
    · exact ⟨fun _ => 0, fun a ha => by rw [hl] at ha; cases ha⟩
    -- those with none above them
    obtain ⟨M, hM⟩ : ∃ M : Nat → Bool, M = fun a => l.all fun b => !R a b := ⟨_, rfl⟩
    have hMi : ∀ a, M a = true ↔ ∀ b ∈ l, R a b = false := fun a => by
      rw [hM]; simp only [List.all_eq_true, Bool.not_eq_true']
    obtain ⟨k, hk, hmin⟩ := h.min _ l (Nat.le_refl _) hl
    have hlt := filter_lt (l := l) (p := fun a => !M a) hk (by rw [(hMi k).2 hmin]; rfl)
    obtain ⟨H', hH⟩ := hts_ex h m (l.filter fun a => !M a) (by omega)
    have hin : ∀ a, a ∈ l → M a = false → a ∈ l.filter fun a => !M a := fun a ha hm => List.mem_filter.2 ⟨ha, by rw [hm]; rfl⟩
    refine ⟨fun a => if M a = true then 0 else H' a + 1, fun a ha => ?_⟩
    by_cases hma : M a = true
    · simp only [if_pos hma]
      refine ⟨fun b hb hR => ?_, .inl trivial⟩
      rw [(hMi a).1 hma b hb] at hR; cases hR
    · have hma' : M a = false := by simpa using hma
      simp only [if_neg hma]
      obtain ⟨h1, h2⟩ := hH a (hin a ha hma')
      refine ⟨fun b hb hR => ?_, .inr ?_⟩
      · by_cases hmb : M b = true
        · rw [if_pos hmb]; omega
        · rw [if_neg hmb]
          have := h1 b (hin b hb (by simpa using hmb)) hR
          omega
      · rcases h2 with h2 | ⟨b, hb, hR, e⟩
        · -- one that has none above it follows
          have hne : l.filter (R a) ≠ [] := fun e => hma ((hMi a).2 fun b hb => by
            cases hR : R a b with
            | false => rfl
            | true =>
              have : b ∈ l.filter (R a) := List.mem_filter.2 ⟨hb, hR⟩
              rw [e] at this; cases this)
          obtain ⟨b, hb, hbm⟩ := h.min _ _ (Nat.le_refl _) hne
          have hb' := List.mem_filter.1 hb
          refine ⟨b, hb'.1, hb'.2, ?_⟩
          have : M b = true := (hMi b).2 fun c hc => by
            cases hR : R b c with
            | false => rfl
            | true => rw [← hR]; exact hbm c (List.mem_filter.2 ⟨hc, h.tr hb'.2 hR⟩)
          rw [if_pos this, h2]
        · have hb' := List.mem_filter.1 hb
          refine ⟨b, hb'.1, hR, ?_⟩
          have : M b ≠ true := by have := hb'.2; simpa using this
          rw [if_neg this, e]
theorem isH_ex {n : Nat} {R : Nat → Nat → Bool} (h : Ord n R) : ∃ H, IsH n R H := by
  obtain ⟨H, hH⟩ := hts_ex h _ (List.range n) (Nat.le_refl _)
  refine ⟨H, fun a ha => ?_⟩
  obtain ⟨h1, h2⟩ := hH a (List.mem_range.2 ha)
  refine ⟨fun b hR => h1 b (List.mem_range.2 (h.lt hR).2) hR, ?_⟩
  rcases h2 with h2 | ⟨b, _, h2⟩
  · exact .inl h2
  · exact .inr ⟨b, h2⟩
theorem IsH.one {n : Nat} {R : Nat → Nat → Bool} {H H' : Nat → Nat} (h : Ord n R) (h1 : IsH n R H) (h2 : IsH n R H') : ∀ m a, a < n → H a ≤ m → H a = H' a := by
  intro m
  induction m with
  | zero =>
    intro a ha hm
    rcases (h2 a ha).2 with e | ⟨b, hR, e⟩
    · omega
    · have := (h1 a ha).1 b hR; omega
  | succ m ih =>
    intro a ha hm
    have le1 : H' a ≤ H a := by
      rcases (h2 a ha).2 with e | ⟨b, hR, e⟩
      · omega
      · have := (h1 a ha).1 b hR
        have := ih b (h.lt hR).2 (by omega)
        omega
    have le2 : H a ≤ H' a := by
      rcases (h1 a ha).2 with e | ⟨b, hR, e⟩
      · omega
      · have := (h2 a ha).1 b hR
        have := ih b (h.lt hR).2 (by omega)
        omega
    omega
theorem IsH.down {n : Nat} {R : Nat → Nat → Bool} {H : Nat → Nat} (h : Ord n R) (h1 : IsH n R H) : ∀ m a, a < n → H a = m → ∀ j, j ≤ m → ∃ b, b < n ∧ H b = j := by
  intro m
  induction m with
  | zero => intro a ha e j hj; exact ⟨a, ha, by omega⟩
  | succ m ih =>
    intro a ha e j hj
    by_cases ej : j = m + 1
    · exact ⟨a, ha, by omega⟩
    · rcases (h1 a ha).2 with e0 | ⟨b, hR, eb⟩
      · omega
      · exact ih b (h.lt hR).2 (by omega) j (by omega)
theorem nodup_le : ∀ {l s : List Nat}, l.Nodup → (∀ x ∈ l, x ∈ s) → l.length ≤ s.length
  | [], _, _, _ => Nat.zero_le _
  | x :: l, s, hn, hs => by
    rw [List.nodup_cons] at hn
    have hx := hs x List.mem_cons_self
    have := nodup_le (l := l) (s := s.filter fun y => decide (y ≠ x)) hn.2 (fun y hy => List.mem_filter.2 ⟨hs y (List.mem_cons_of_mem _ hy), decide_eq_true fun e => hn.1 (e ▸ hy)⟩)
    have h2 := filter_lt (l := s) (p := fun y => decide (y ≠ x)) hx (by simp)
    simp only [List.length_cons]; omega
theorem IsH.lt {n : Nat} {R : Nat → Nat → Bool} {H : Nat → Nat} (h : Ord n R) (h1 : IsH n R H) {a : Nat} (ha : a < n) : H a < n := by
  obtain ⟨f, hf⟩ : ∃ f : Nat → Nat, ∀ j, j ≤ H a → f j < n ∧ H (f j) = j :=
    ⟨fun j => if hj : j ≤ H a then (h1.down h (H a) a ha rfl j hj).choose else 0, fun j hj => by
      simp only [dif_pos hj]; exact (h1.down h (H a) a ha rfl j hj).choose_spec⟩
  have hnd : ((List.range (H a + 1)).map f).Nodup := by
    rw [List.nodup_iff_pairwise_ne, List.pairwise_map]
    refine List.Pairwise.imp_of_mem ?_ List.nodup_range
    intro i j hi hj hne e
    rw [List.mem_range] at hi hj
    have h1 := (hf i (by omega)).2
    have h2 := (hf j (by omega)).2
    rw [e] at h1; omega
  have := nodup_le (s := List.range n) hnd (fun x hx => by
    obtain ⟨j, hj, rfl⟩ := List.mem_map.1 hx
    rw [List.mem_range] at hj ⊢
    exact (hf j (by omega)).1)
  simp at this; omega
def IsLong (n : Nat) (R : Nat → Nat → Bool) (H : Nat → Nat) (m : Nat) (c : List Nat) : Prop := ∀ j, j < c.length → j ≤ m ∧ c.getD j 0 < n ∧ H (c.getD j 0) + j = m ∧ (0 < j → R (c.getD (j - 1) 0) (c.getD j 0) = true) ∧ ∀ i, i < c.getD j 0 → ¬ (H i + j = m ∧ (0 < j → R (c.getD (j - 1) 0) i = true))
theorem IsLong.one {n : Nat} {R : Nat → Nat → Bool} {H : Nat → Nat} {m : Nat} {c d : List Nat} (h1 : IsLong n R H m c) (h2 : IsLong n R H m d) (hl : c.length = d.length) : c = d := by
  have key : ∀ j, j < c.length → c.getD j 0 = d.getD j 0 := by
    intro j
    induction j using Nat.strongRecOn with
    | ind j ih =>
    intro hj
    obtain ⟨_, _, a2, a3, a4⟩ := h1 j hj
    obtain ⟨_, _, b2, b3, b4⟩ := h2 j (by omega)
    have hp : 0 < j → c.getD (j - 1) 0 = d.getD (j - 1) 0 := fun h0 => ih (j - 1) (by omega) (by omega)
    rcases Nat.lt_trichotomy (c.getD j 0) (d.getD j 0) with h | h | h
    · exact absurd ⟨a2, fun h0 => by rw [← hp h0]; exact a3 h0⟩ (b4 _ h)
    · exact h
    · exact absurd ⟨b2, fun h0 => by rw [hp h0]; exact b3 h0⟩ (a4 _ h)
  apply List.ext_getElem hl
  intro j h1 h2
  have := key j h1
  rw [List.getD_eq_getElem?_getD, List.getD_eq_getElem?_getD, List.getElem?_eq_getElem h1, List.getElem?_eq_getElem h2] at this
  exact this
end Go.Proofs.YtdpnplanohgecaaDoor

open Go Go.Eng
namespace Go.Proofs.YtdpnplanohgecaaDoor
attribute [local congr] undef_congr WpK.congr WpS.congr WpL.congr WpC.congr WpF.congr gotS.congr callS.congr nextS.congr wantS.congr condS.congr
attribute [local irreducible] WpK
attribute [local simp] WpDr_nil WpDr_cons atS_some dwantS_true dwantS_false kindS_light kindS_float kindS_heavy lightS_value floatS_some heavyS_value heavyS_skip heavyS_enter dcallS_some doneS_eq
  isLight isFloat isPlain dLook testBit_dec dChain dLights_nil dLights_skip dLights_one dLight_nil dLight_cons dFreshes_nil dFreshes_one oneF_none oneF_some dFresh_nil dFresh_cons oneL_some oneW_true oneW_false sameV_value dPut dMay valEq arrEq listEq List.getElem?_cons Tr.get_nil dEnd
attribute [local simp] WpS_nil WpS_cons isDefer undef_false wantS_true wantS_false nextS_value nextS_skip nextS_enter callS_some gotS_some aWanted aOp aEvalF aEval opMove opAssign opPick aVal flat flat1 AAct.put opBinOp opConvert opIndex Tr.get_set Tr.get_lay aBin aResults tupled
  aCall aVals aCallB blt_dec ble_dec beq_dec aBinI_add aBinI_sub aBinI_lss aBinI_leq aBinI_gtr aBinI_geq aBinI_eql aBinI_neq index_str len_str len_slice Nat.beq_refl Nat.beq_refl
  opBox opLoad opFieldAddr opIndexAddr acells aAddr opExtract aExtract opUnOp opAlloc opStore opMakeInterface opNilCheck opBuild aParts opBuildSlice aValW
attribute [local simp] und2 und3 und4 und5 und9 und12 field13_0 field13_1 und21 und22 field23_0 field23_1 field24_0 field24_1 field25_0 field25_1 und28 und31 field34_0 field34_1 field34_2 field35_0 field35_1 field35_2 und46 field50_0 field50_1 field50_2 und55 und56 und58 und61 und62 und73 und75 und90 und94 und95 und96 field97_0 field97_1 field97_2 field97_3 field97_4 field97_5 field97_6 field98_0 field98_1 field98_2 field98_3 field98_4 field98_5 field98_6 und99 und106 field107_0 field107_1 field108_0 field108_1 und119 und122 field124_0 field124_1 field124_2 field125_0 field125_1 field125_2 field131_0 field131_1 field132_0 field132_1 und133 field134_0 field134_1 field135_0 field135_1 und148 und156 und160
set_option maxHeartbeats 4000000
set_option linter.unusedSimpArgs false
set_option linter.unusedVariables false
theorem pairs_wp {W : AW} (o : Nat) : WpF T0 85 [.pointer (some ⟨o, 0, none⟩)] W (fun v W' => Ext W W' ∧ v = .func (.func 91) ⟨[]⟩ ⟨[.pointer (some ⟨W.next, 0, none⟩)]⟩ ∧ W'.next = W.next + 1 ∧ W'.Has W.next 0 (.pointer (some ⟨o, 0, none⟩))) := by
  refine wpF fun85 rfl ?_
  obtain ⟨W1, hW1, hE1, hn1, hV1⟩ : ∃ W1, W1 = W.newCells 119 [.pointer (some ⟨o, 0, none⟩)] ∧ Ext W W1 ∧ W1.next = W.next + 1 ∧ Var W1 W.next 119 [.pointer (some ⟨o, 0, none⟩)] := ⟨_, rfl, .newCells _ _ _, rfl, Var.new _ _ _⟩
  try simp only [wpK_assoc]
  refine wpK_reg (fun R hR => by simp [← hW1]; exact hR) ?_
  try simp only [wpK_assoc]
  refine wpK_reg (fun R hR => by simp [opMakeFunc]; exact hR) ?_
  exact wpK_ret ⟨.inr rfl, rfl, [.func (.func 91) ⟨[]⟩ ⟨[.pointer (some ⟨W.next, 0, none⟩)]⟩], by simp, hE1, rfl, hn1, hV1.has rfl⟩
def bitR (f : Nat → Nat) : Nat → Nat → Bool := fun a b => (f a).testBit b
theorem lt40 {x : Nat} (h : ∀ b, x.testBit b = true → b < 40) : x < 1099511627776 := by
  apply Nat.lt_pow_two_of_testBit (n := 40)
  intro i hi
  cases e : x.testBit i with
  | false => rfl
  | true => have := h i e; omega
theorem close_wp {W : AW} {o n : Nat} {f : Nat → Nat} (h : OrdAt W o n f) (hn : n ≤ 40) (hf : ∀ a b, bitR f a b = true → a < n ∧ b < n) (hT : tabsIn T0 T0.tabs W = true) (h0 : 0 < o) :
    WpF T0 83 [.pointer (some ⟨o, 0, none⟩)] W (fun _ W' => Only (fun b => b = o) W W' ∧ ∃ g, OrdAt W' o n g ∧ ∀ a b, (g a).testBit b = wR (bitR f) n a b) := by
  refine wpFd fun83 rfl ?_
  obtain ⟨c1, hc1⟩ : ∃ c, c = W.next := ⟨_, rfl⟩
  obtain ⟨W1, hW1, hE1, hV1, hn1⟩ : ∃ W1, W1 = W.newCells 119 [.pointer (some ⟨o, 0, none⟩)] ∧ Ext W W1 ∧ Var W1 c1 119 [.pointer (some ⟨o, 0, none⟩)] ∧ W1.next = W.next + 1 := ⟨_, rfl, .newCells _ _ _, by rw [hc1]; exact Var.new _ _ _, rfl⟩
  have ho : o < W.next := h.1
  have h1' := h.ext hE1
  have q1 := hV1.load1 (T := T0) und119 rfl (j := 0) (v := .pointer (some ⟨o, 0, none⟩)) rfl
  have q2 := ord_n h1'
  rw [hc1] at q1
  try simp only [wpK_assoc]
  refine wpK_reg (fun R hR => by simp [← hW1]; exact hR) ?_
  try simp only [wpK_assoc]
  refine wpK_reg (fun R hR => by simp [q1, q2]; exact hR) ?_
  rw [← hc1] at q1
  have hrow : ∀ k a b, wR (bitR f) k a b = true → a < n ∧ b < n := fun k => wR_in hf k
  try simp only [wpK_assoc]
  refine wpK_while1 (I := fun q A' W' => A'.n = 36 ∧ A'.tmps.get 1 = some (.pointer (some ⟨c1, 0, none⟩)) ∧ A'.tmps.get 8 = some (.int .i64 (n : Int)) ∧
      ∃ (k : Nat), A'.tmps.get 9 = some (.int .i64 (k : Int)) ∧ q = n - k ∧ k ≤ n ∧ Marks c1 A'.defers W' ∧ Only (fun b => b = o ∨ c1 ≤ b) W W' ∧ c1 < W'.next ∧ Var W' c1 119 [.pointer (some ⟨o, 0, none⟩)] ∧ ∃ g, OrdAt W' o n g ∧ ∀ a b, (g a).testBit b = wR (bitR f) k a b)
    (J := fun A' W' => Marks c1 A'.defers W' ∧ Only (fun b => b = o ∨ c1 ≤ b) W W' ∧ ∃ g, OrdAt W' o n g ∧ ∀ a b, (g a).testBit b = wR (bitR f) n a b) (Rt := fun A' W' => False) (k := n) ?_ ?_ ?_ ?_
  · exact ⟨rfl, by simp [hc1], by simp, 0, by simp, rfl, by omega, trivial, Only.wide hE1, by omega, hV1, f, h1', fun a b => rfl⟩
  · rintro q ⟨tm, n', ds⟩ Wa ⟨hn', h1, h8, k, h9, hq, hkn, hMk, hOa, hna, hVa, g, hga, hgb⟩ Q' hJ hRt hI
    simp only at hn' h1 h8 h9 hMk
    subst hn'
    by_cases hlt : k < n
    case neg =>
      have e : k = n := by omega
      subst e
      try simp only [wpK_assoc]
      refine wpK_reg (fun R hR => by simp [h9, h8]; exact hR) ?_
      try simp only [wpK_assoc]
      first | refine wpK_onF (by simp []) ?_ | refine wpK_out (by simp []) ?_ | refine wpK_condF (by simp []) ?_ | refine wpK_endF (by simp []) (wpK_skip ?_) | refine wpK_endF (by simp []) ?_
      exact hJ _ _ ⟨hMk, hOa, g, hga, hgb⟩
    have hlt' : (k : Int) < n := by omega
    try simp only [wpK_assoc]
    refine wpK_reg (fun R hR => by simp [h9, h8, hlt']; exact hR) ?_
    try simp only [wpK_assoc]
    first | refine wpK_onT (by simp [hlt]) ?_ | refine wpK_outT (by simp [hlt]) ?_ | refine wpK_condT (by simp [hlt]) ?_ | refine wpK_endT (by simp [hlt]) ?_
    obtain ⟨Wb, s1, s2, s3, s4⟩ := storeVar_new (T := T0) (W := Wa) (t := 3) (z := [.int .i64 0]) (v := .int .i64 (k : Int)) inf3 (by rw [is3]; rfl) (by rw [is3]; rfl) rfl
    have s4 : Var Wb Wa.next 3 [.int .i64 (k : Int)] := s4
    refine wpK_block ?_
    try simp only [wpK_assoc]
    refine wpK_reg (fun R hR => by simp [h9, zero3, s1]; exact hR) ?_
    have nb := s3.1
    have l1 := (hVa.ext s3).load1 (T := T0) und119 rfl (j := 0) (v := .pointer (some ⟨o, 0, none⟩)) rfl
    try simp only [wpK_assoc]
    refine wpK_x0 (P := fun Wc => Ext Wb Wc ∧ Wc.next = Wb.next + 1 ∧ Wc.Has Wb.next 0 (.pointer (some ⟨o, 0, none⟩))) (fun R hR => by
      simp [h1, l1, aEnter, fun85, short_other, aCallV]; rw [callS_none]
      refine (pairs_wp o).mono ?_
      rintro _ Wc ⟨hEc, rfl, hnc, hBc⟩
      simp; exact hR Wc (And.intro hEc (And.intro hnc hBc))) ?_
    rintro Wc ⟨hEc, hnc, hBc⟩
    obtain ⟨p2, hp2⟩ : ∃ p, p = Wa.next := ⟨_, rfl⟩
    rw [← hp2] at s4
    refine wpK_keep (fun tm' => tm'.get 1 = some (.pointer (some ⟨c1, 0, none⟩)) ∧ tm'.get 2 = some (.pointer (some ⟨p2, 0, none⟩)) ∧ tm'.get 8 = some (.int .i64 (n : Int)) ∧ tm'.get 9 = some (.int .i64 (k : Int)) ∧ tm'.get 13 = some (.func (.func 91) ⟨[]⟩ ⟨[.pointer (some ⟨Wb.next, 0, none⟩)]⟩)) ⟨by simp [h1], by simp [hp2], by simp [h8], by simp [h9], by simp⟩ ?_
    rintro tm ⟨h1, h2, h8, h9, h13⟩
    refine wpK_range3 (f := 91) (first := ⟨[]⟩) (cap := ⟨[.pointer (some ⟨Wb.next, 0, none⟩)]⟩) (by simp [h13]) fun91 (fun W5 hn5 hW5 hdf hlp => ?_)
    obtain ⟨z, hz⟩ : ∃ z, z = Wc.next := ⟨_, rfl⟩
    rw [← hz] at hn5 hdf hlp
    have hEc5 : Ext Wc W5 := ⟨by omega, fun b hb _ => hW5 b hb⟩
    have hEb5 := hEc.trans hEc5
    have hEa5 := s3.trans hEb5
    have nc := hEc.1
    -- what stands
    obtain ⟨S, hS⟩ : ∃ S : AW → Prop, S = fun V => W5.next ≤ V.next ∧ Only (fun b => b = o ∨ c1 ≤ b) W V ∧ Var V c1 119 [.pointer (some ⟨o, 0, none⟩)] ∧ Var V p2 3 [.int .i64 (k : Int)] ∧ V.Has Wb.next 0 (.pointer (some ⟨o, 0, none⟩)) ∧ V.blocks.get z = some ⟨.deferred (some []), []⟩ ∧ Marks c1 ds V := ⟨_, rfl⟩
    have own : ∀ {V V' : AW} {K : Nat → Prop}, S V → Only K V V' → (∀ b, K b → b = o ∨ b = z + 1 ∨ W5.next ≤ b) → S V' := by
      intro V V' K hV he hK
      rw [hS] at hV ⊢
      obtain ⟨o1, o2, o3, o4, o5, o6, o7⟩ := hV
      have hlow := hMk.low
      have hk : ∀ b, b ≠ o → b ≠ z + 1 → b < W5.next → ¬ K b := fun b x1 x2 x3 x4 => by have := hK b x4; omega
      refine ⟨Nat.le_trans o1 he.1, o2.trans (he.mono (fun b _ hb => by have := hK b hb; omega)), o3.only he (hk _ (by omega) (by omega) (by omega)), o4.only he (hk _ (by omega) (by omega) (by omega)), o5.only he (hk _ (by omega) (by omega) (by omega)), by rw [he.2 z (by omega) (hk _ (by omega) (by omega) (by omega))]; exact o6, o7.only he (fun d hd r hr x1 x2 x3 => ?_)⟩
      have := hlow d hd r hr
      exact hk r (by omega) (by omega) (by omega) x3
    have own5 : S W5 := by
      rw [hS]
      exact ⟨Nat.le_refl _, hOa.trans (Only.wide hEa5), hVa.ext hEa5, s4.ext hEb5, hBc.ext hEc5, hdf, hMk.ext hEa5⟩
    obtain ⟨r, hr⟩ : ∃ r, r = wR (bitR f) k := ⟨_, rfl⟩
    have hri : ∀ a b, r a b = true → a < n ∧ b < n := by rw [hr]; exact hrow k
    rw [← hr] at hgb
    have lt5 : ∀ (g : Nat → Nat), (∀ a b, (g a).testBit b = r a b ∨ (g a).testBit b = wS r k a b) → ∀ a, g a < 1099511627776 := fun g hg a => lt40 fun b hb => by
      rcases hg a b with e | e
      · rw [e] at hb; have := (hri _ _ hb).2; omega
      · rw [e] at hb
        simp only [wS, Bool.or_eq_true, Bool.and_eq_true] at hb
        rcases hb with hb | ⟨_, hb⟩
        · have := (hri _ _ hb).2; omega
        · have := (hri _ _ hb).2; omega
    refine (pairs1_wp (l := Wc.next + 1) (b1 := Wb.next) (o := o) (n := n) (W0 := W5)
      (C := fun a x V => S V ∧ V.blocks.get (z + 1) = W5.blocks.get (z + 1) ∧ (∀ j, x.testBit j = true → r a j = true) ∧ ∃ g, OrdAt V o n g ∧ ∀ a' b, (g a').testBit b = if a' < a ∨ (a' = a ∧ x.testBit k = false) then wS r k a' b else r a' b)
      (E := fun a V => S V ∧ V.blocks.get (z + 1) = W5.blocks.get (z + 1) ∧ ∃ g, OrdAt V o n g ∧ ∀ a' b, (g a').testBit b = if a' < a then wS r k a' b else r a' b)
      (Kx := fun b => b = o ∨ b = z + 1) ⟨?_, ?_, ?_, ?_, ?_, ?_, ?_⟩ hn ⟨own5, rfl, g, hga.ext hEa5, fun a' b => by rw [if_neg (by omega)]; exact hgb a' b⟩).mono ?_
    · rintro a x V V' ⟨d1, d2, d3, g', d4, d5⟩ he
      have d1' := d1; rw [hS] at d1'
      exact ⟨own d1 he (fun b hb => .inr (.inr hb)), by rw [he.2 (z + 1) (by have := d1'.1; omega) (by omega)]; exact d2, d3, g', d4.only he (by omega), d5⟩
    · rintro a V V' ⟨d1, d2, g', d4, d5⟩ he
      have d1' := d1; rw [hS] at d1'
      exact ⟨own d1 he (fun b hb => .inr (.inr hb)), by rw [he.2 (z + 1) (by have := d1'.1; omega) (by omega)]; exact d2, g', d4.only he (by omega), d5⟩
    · rintro a V ⟨d1, d2, g', d4, d5⟩
      have d1' := d1; rw [hS] at d1'
      refine ⟨d1'.1, by omega, d1'.2.2.2.2.1, by omega, by omega, g', d4, fun ha => ⟨lt5 g' (fun a' b => by rw [d5]; split; exact .inr rfl; exact .inl rfl) a, d1, d2, fun j hj => ?_, g', d4, fun a' b => ?_⟩⟩
      · rw [d5, if_neg (by omega)] at hj; exact hj
      · rw [d5]
        by_cases e : a' < a
        · rw [if_pos e, if_pos (.inl e)]
        · rw [if_neg e]
          by_cases e2 : a' = a ∧ (g' a).testBit k = false
          · rw [if_pos (.inr e2)]
            have e3 := e2.2
            rw [d5, if_neg (by omega)] at e3
            unfold wS; rw [e2.1, e3]; simp
          · rw [if_neg (fun hh => hh.elim e e2)]
    · rintro a x V ⟨d1, _⟩
      rw [hS] at d1
      exact ⟨d1.1, tabs_only hT (by omega) d1.2.1 (by omega)⟩
    · rintro a V ha ⟨d1, d2, d3, g', d4, d5⟩
      refine ⟨d1, d2, g', d4, fun a' b => ?_⟩
      rw [d5]
      by_cases e : a' < a + 1
      · rw [if_pos e, if_pos]
        by_cases e2 : a' < a
        · exact .inl e2
        · exact .inr ⟨by omega, by simp⟩
      · rw [if_neg e, if_neg (by omega)]
    · intro b hb; omega
    · rintro a left kk V ha ⟨d1, d2, d3, g', d4, d5⟩ hl hb1 hb2
      have d1' := d1; rw [hS] at d1'
      obtain ⟨y1, y2, y3, y4, y5, y6, y7⟩ := d1'
      have hl' := d2.trans hlp
      rw [hz] at hl'
      have nv := y2.1
      refine ⟨_, _, _, _, _, _, _, _, _, _, (tm.set 14 (.int .i64 (a : Int))).set 15 (.int .i64 (kk : Int)), hl', rfl, ?_⟩
      refine wpR ?_
      try simp only [wpK_assoc]
      refine wpK_reg (fun R hR => by simp []; exact hR) ?_
      try simp only [wpK_assoc]
      refine wpK_reg1 (fun R hR => by simp []; exact hR) ?_
      refine ⟨rfl, _, _, _, _, _, _, _, _, hl', ?_⟩
      rw [← hz] at hl' ⊢
      generalize hbz : (AObj.loop LoopState.busy _ _ _ _ _ _ _ _) = bz
      obtain ⟨Vy, hVy, hOy, hny⟩ : ∃ Vy, Vy = V.setObj (z + 1) bz ∧ Only (fun b => b = z + 1) V Vy ∧ Vy.next = V.next := ⟨_, rfl, setObj_only _ _ _, rfl⟩
      rw [← hVy]
      have hly : Vy.blocks.get (z + 1) = some ⟨bz, []⟩ := by rw [hVy, setObj_get, if_pos rfl]
      have own1 := own d1 hOy (fun b hb => .inr (.inl hb))
      have d4y := d4.only hOy (by omega)
      have d1y := own1; rw [hS] at d1y
      obtain ⟨u1, u2, u3, u4, u5, u6, u7⟩ := d1y
      have e2 := u4.load1 (T := T0) und3 rfl (j := 0) (v := .int .i64 (k : Int)) rfl
      have e1 := u3.load1 (T := T0) und119 rfl (j := 0) (v := .pointer (some ⟨o, 0, none⟩)) rfl
      have m1 := ord_set d4y (j := a) (by omega)
      have m2 := ord_set d4y (j := k) (by omega)
      have i1 := ix106 o 1 a (by omega)
      have i2 := ix106 o 1 k (by omega)
      have hg5 := lt5 g' (fun a' b => by rw [d5]; split; exact .inr rfl; exact .inl rfl)
      have hor := aBinI_or .u64 (g' a) (g' k) (by have := hg5 a; show g' a < 18446744073709551616; omega) (by have := hg5 k; show g' k < 18446744073709551616; omega)
      obtain ⟨Vz, w1, w2, w3, w4⟩ := ord_put d4y (j := a) (by omega) (g' a ||| g' k)
      generalize hx : g' a ||| g' k = x at hor w1 w4
      refine wpK_block1 ?_
      by_cases ek : kk = k
      · subst ek
        try simp only [wpK_assoc]
        refine wpK_reg (fun R hR => by simp [h2, e2]; exact hR) ?_
        try simp only [wpK_assoc]
        first | refine wpK_onT (by simp []) ?_ | refine wpK_outT (by simp []) ?_ | refine wpK_condT (by simp []) ?_ | refine wpK_endT (by simp []) ?_
        have nw := w3.1
        try simp only [wpK_assoc]
        refine wpK_qn (wr := Tr.nil |>.set 19 0 |>.set 20 1 |>.set 21 2 |>.set 22 3 |>.set 23 4 |>.set 24 5 |>.set 25 6 |>.set 26 7 |>.set 27 8 |>.set 28 9 |>.set 29 10 |>.set 30 11 |>.set 31 12 |>.set 32 13 |>.set 33 14 |>.set 34 15) (bits := Tr.nil.lay 0 [0, 0, 1, 5, 15, 31, 0, 0, 64, 320, 960, 1984, 4095, 1, 8193, 32767, 65535]) (ord := [0, 1, 2, 3, 4, 5, 6, 7, 8, 9, 10, 11, 12, 13, 14, 15, 16]) (by kernel_rfl) (by kernel_rfl) (by kernel_rfl) (fun G hG => by
          simp [h1, h2, e1, e2, m1, m2, i1, i2, hor, w1, nw]
          exact hG) ?_
        simp only [leaves_normal]
        have hlz : Vz.blocks.get (z + 1) = some ⟨bz, []⟩ := by rw [w3.2 (z + 1) (by omega) (by omega)]; exact hly
        have ownz := own own1 w3 (fun b hb => .inl hb)
        subst hbz
        refine ⟨_, _, _, _, _, _, _, _, _, hlz, ⟨by rw [setObj_next]; omega, fun b hb hk => by rw [setObj_get, if_neg (by omega), w3.2 b (by omega) (by omega), hOy.2 b hb (by omega)]⟩, rfl, own ownz (setObj_only Vz (z + 1) _) (fun b hb => .inr (.inl hb)), by rw [setObj_get, if_pos rfl]; exact hlp.symm, fun j hj => ?_, updN g' a x, w4.only (setObj_only Vz (z + 1) _) (by omega), fun a' b => ?_⟩
        · rw [dropLow_bit hb1 hb2] at hj
          simp only [Bool.and_eq_true] at hj
          exact d3 j hj.1
        · have hdk : (dropLow left).testBit kk = false := by rw [dropLow_bit hb1 hb2]; simp
          rw [hdk]
          by_cases e : a' = a
          · subst e
            rw [if_pos (.inr ⟨rfl, rfl⟩)]
            simp only [updN, if_true]
            rw [← hx, Nat.testBit_or, d5, d5, if_neg (by rw [hb1]; simp)]
            have hrk : (if kk < a' ∨ (kk = a' ∧ left.testBit kk = false) then wS r kk kk b else r kk b) = r kk b := by rw [wS_row]; split <;> rfl
            rw [hrk]
            unfold wS
            rw [d3 kk hb1]; simp
          · simp only [updN, if_neg e]
            rw [d5]
            by_cases e2 : a' < a
            · rw [if_pos (.inl e2), if_pos (.inl e2)]
            · rw [if_neg (by omega), if_neg (by omega)]
      · have ek' : ¬ (kk : Int) = (k : Int) := by omega
        try simp only [wpK_assoc]
        refine wpK_reg (fun R hR => by simp [h2, e2, ek', ek]; exact hR) ?_
        try simp only [wpK_assoc]
        first | refine wpK_onF (by simp [ek', ek]) ?_ | refine wpK_out (by simp [ek', ek]) ?_ | refine wpK_condF (by simp [ek', ek]) ?_ | refine wpK_endF (by simp [ek', ek]) (wpK_skip ?_) | refine wpK_endF (by simp [ek', ek]) ?_
        simp only [leaves_normal]
        subst hbz
        refine ⟨_, _, _, _, _, _, _, _, _, hly, ⟨by rw [setObj_next]; omega, fun b hb hk => by rw [setObj_get, if_neg (by omega), hOy.2 b hb (by omega)]⟩, rfl, own own1 (setObj_only Vy (z + 1) _) (fun b hb => .inr (.inl hb)), by rw [setObj_get, if_pos rfl]; exact hlp.symm, fun j hj => ?_, g', d4y.only (setObj_only Vy (z + 1) _) (by omega), fun a' b => ?_⟩
        · rw [dropLow_bit hb1 hb2] at hj
          simp only [Bool.and_eq_true] at hj
          exact d3 j hj.1
        · have hdk : (dropLow left).testBit k = left.testBit k := by rw [dropLow_bit hb1 hb2, decide_eq_true (show k ≠ kk from fun e => ek e.symm), Bool.and_true]
          rw [hdk]; exact d5 a' b
    · rintro _ W6 ⟨d1, d2, g', d4, d5⟩
      have hl6 := d2.trans hlp
      rw [hz] at hl6
      refine ⟨_, _, _, _, _, _, _, _, _, hl6, (fun h => by cases h), ?_⟩
      rw [← hz]
      generalize hex : (AObj.loop LoopState.exhausted _ _ _ _ _ _ _ _) = ex
      obtain ⟨W7, hW7, hO7⟩ : ∃ W7, W7 = W6.setObj (z + 1) ex ∧ Only (fun b => b = z + 1) W6 W7 := ⟨_, rfl, setObj_only _ _ _⟩
      rw [← hW7]
      have own7 := own d1 hO7 (fun b hb => .inr (.inl hb))
      have n7 := hO7.1
      rw [hS] at own7
      obtain ⟨u1, u2, u3, u4, u5, u6, u7⟩ := own7
      simp only [goOn, leaves_normal, behind_normal]
      try simp only [wpK_assoc]
      refine wpK_reg1 (fun R hR => by simp [h9]; exact hR) ?_
      refine hI (n - (k + 1)) _ _ (by omega) ⟨rfl, by simp [h1], by simp [h8], k + 1, by simp [i64_succ k (by omega)], rfl, by omega, ⟨z, rfl, by omega, by omega, u6, fun d hd e => ?_, u7⟩, u2, by omega, u3, g', d4.only hO7 (by omega), fun a b => ?_⟩
      · have := hMk.low d hd z e
        omega
      · rw [d5]
        show _ = wS (wR (bitR f) k) k a b
        rw [← hr]
        by_cases e : a < n
        · rw [if_pos e]
        · rw [if_neg e]
          unfold wS
          have : r a k = false := by
            cases e2 : r a k with
            | false => rfl
            | true => exact absurd (hri _ _ e2).1 e
          rw [this]; simp
  · rintro A' W' hf; exact hf.elim
  · rintro A' W' ⟨h1, h2, g, h3, h4⟩
    obtain ⟨W'', g1, g2⟩ := h1.collects
    refine ⟨.inl rfl, W'', g1, [], by rfl, ⟨by have := h2.1; have := g2.1; omega, fun b hb hk => ?_⟩, g, h3.only g2 (by omega), h4⟩
    rw [g2.2 b (by have := h2.1; omega) (by omega), h2.2 b hb (by omega)]
def rowV (b n : Nat) : Value := .slice (some ⟨b, 0, none⟩) n (2 * n)
def boolsL (n : Nat) (g : Nat → Bool) : List Value := (List.range n).map fun j => .bool (g j)
theorem boolsL_len (n : Nat) (g : Nat → Bool) : (boolsL n g).length = n := by simp [boolsL]
theorem boolsL_at {n j : Nat} (g : Nat → Bool) (h : j < n) : (boolsL n g)[j]? = some (.bool (g j)) := by
  simp only [boolsL, List.getElem?_map, List.getElem?_range h]; rfl
def updB (g : Nat → Bool) (j : Nat) (b : Bool) : Nat → Bool := fun i => if i = j then b else g i
theorem boolsL_set {n j : Nat} (g : Nat → Bool) (b : Bool) : (boolsL n g).set j (.bool b) = boolsL n (updB g j b) := by
  apply List.ext_getElem?
  intro i
  rw [List.getElem?_set]
  by_cases hi : i < n
  · rw [boolsL_at _ hi, boolsL_at _ hi, boolsL_len]
    by_cases e : j = i
    · subst e; rw [if_pos rfl, if_pos hi]; simp [updB]
    · rw [if_neg e]; simp only [updB, if_neg (Ne.symm e)]
  · rw [List.getElem?_eq_none (by rw [boolsL_len]; omega), List.getElem?_eq_none (by rw [boolsL_len]; omega)]
    split
    · rw [boolsL_len, if_neg (by omega)]
    · rfl
theorem boolsL_congr {n : Nat} {g g' : Nat → Bool} (h : ∀ j, j < n → g j = g' j) : boolsL n g = boolsL n g' := by
  apply List.map_congr_left
  intro j hj
  rw [List.mem_range] at hj
  rw [h j hj]
def outerL (n k : Nat) (f : Nat → Nat) : List Value := (List.range n).map fun i => if i < k then rowV (f i) n else .slice none 0 0
theorem outerL_len (n k : Nat) (f : Nat → Nat) : (outerL n k f).length = n := by simp [outerL]
theorem outerL_at {n k i : Nat} (f : Nat → Nat) (h : i < n) : (outerL n k f)[i]? = some (if i < k then rowV (f i) n else .slice none 0 0) := by
  simp only [outerL, List.getElem?_map, List.getElem?_range h]; rfl
structure PMat (W : AW) (m n k : Nat) (f : Nat → Nat) (r : Nat → Nat → Bool) : Prop where
  outer : Var W m 46 (outerL n k f)
  row : ∀ i, i < k → Var W (f i) 4 (boolsL n (r i))
  ne : ∀ i, i < k → f i ≠ m
  inj : ∀ i j, i < k → j < k → f i = f j → i = j
theorem PMat.only {W W' : AW} {m n k : Nat} {f : Nat → Nat} {r : Nat → Nat → Bool} {K : Nat → Prop} (h : PMat W m n k f r) (he : Only K W W') (hm : ¬ K m) (hf : ∀ i, i < k → ¬ K (f i)) : PMat W' m n k f r :=
  ⟨h.outer.only he hm, fun i hi => (h.row i hi).only he (hf i hi), h.ne, h.inj⟩
theorem PMat.ext {W W' : AW} {m n k : Nat} {f : Nat → Nat} {r : Nat → Nat → Bool} (h : PMat W m n k f r) (he : Ext W W') : PMat W' m n k f r := h.only he (fun x => x) (fun _ _ x => x)
theorem PMat.congr {W : AW} {m n k : Nat} {f : Nat → Nat} {r r' : Nat → Nat → Bool} (h : PMat W m n k f r) (hr : ∀ i j, i < k → j < n → r i j = r' i j) : PMat W m n k f r' :=
  ⟨h.outer, fun i hi => by rw [← boolsL_congr (fun j hj => hr i j hi hj)]; exact h.row i hi, h.ne, h.inj⟩
theorem PMat.at {W : AW} {m n k : Nat} {f : Nat → Nat} {r : Nat → Nat → Bool} (h : PMat W m n k f r) {i : Nat} (hi : i < k) (hk : k ≤ n) : aIndexAddr T0 75 (rowV m n) (.int .i64 (i : Int)) = some (.pointer (some ⟨m, i, none⟩)) ∧ aLoadVar T0 W 46 m i = some (rowV (f i) n) := by
  refine ⟨?_, ?_⟩
  · have := indexAddr_slice (T := T0) (t := 75) (e := 46) (sz := 1) und75 sz46 (b := m) (o := 0) (len := n) (c := 2 * n) (i := i) (k := .i64) (by omega)
    rw [Nat.zero_add, Nat.mul_one] at this; exact this
  · have := h.outer.load1 (T := T0) und46 rfl (outerL_at f (show i < n by omega))
    rw [if_pos hi] at this; exact this
theorem row_ix {b n j : Nat} (hj : j < n) : aIndexAddr T0 46 (rowV b n) (.int .i64 (j : Int)) = some (.pointer (some ⟨b, j, none⟩)) := by
  have := indexAddr_slice (T := T0) (t := 46) (e := 4) (sz := 1) und46 sz4 (b := b) (o := 0) (len := n) (c := 2 * n) (i := j) (k := .i64) hj
  rw [Nat.zero_add, Nat.mul_one] at this; exact this
theorem outer_ix {m n i : Nat} (hi : i < n) : aIndexAddr T0 75 (rowV m n) (.int .i64 (i : Int)) = some (.pointer (some ⟨m, i, none⟩)) := by
  have := indexAddr_slice (T := T0) (t := 75) (e := 46) (sz := 1) und75 sz46 (b := m) (o := 0) (len := n) (c := 2 * n) (i := i) (k := .i64) hi
  rw [Nat.zero_add, Nat.mul_one] at this; exact this
theorem PMat.cell {W : AW} {m n k : Nat} {f : Nat → Nat} {r : Nat → Nat → Bool} (h : PMat W m n k f r) {i j : Nat} (hi : i < k) (hj : j < n) : aLoadVar T0 W 4 (f i) j = some (.bool (r i j)) :=
  (h.row i hi).load1 (T := T0) und4 rfl (boolsL_at (r i) hj)
theorem PMat.put {W : AW} {m n k : Nat} {f : Nat → Nat} {r : Nat → Nat → Bool} (h : PMat W m n k f r) {i j : Nat} (hi : i < k) (hj : j < n) (b : Bool) :
    ∃ W', aStoreVar T0 W 4 (f i) j (.bool b) = some W' ∧ W'.next = W.next ∧ Only (fun c => c = f i) W W' ∧ PMat W' m n k f (fun p => if p = i then updB (r i) j b else r p) := by
  obtain ⟨W', g1, g2, g3, g4⟩ := (h.row i hi).store (T := T0) (t := 4) (v := .bool b) (o := j) inf4 (by rw [is4]; rfl) (by rw [boolsL_len]; show j + 1 ≤ n; omega) rfl
  refine ⟨W', g1, g2, g3, h.outer.only g3 (fun e => h.ne i hi e.symm), fun p hp => ?_, h.ne, h.inj⟩
  by_cases e : p = i
  · subst e
    rw [if_pos rfl, ← boolsL_set]
    have e2 : (boolsL n (r p)).take j ++ acells (.bool b) ++ (boolsL n (r p)).drop (j + (acells (.bool b)).length) = (boolsL n (r p)).set j (.bool b) := by
      rw [List.set_eq_take_append_cons_drop, if_pos (by rw [boolsL_len]; omega)]
      simp [acells]
    rw [e2] at g4; exact g4
  · rw [if_neg e]
    exact (h.row p hp).only g3 (fun x => e (h.inj p i hp hi x))
theorem outerL_set {n k : Nat} (f : Nat → Nat) (x : Nat) : (outerL n k f).set k (rowV x n) = outerL n (k + 1) (fun i => if i = k then x else f i) := by
  apply List.ext_getElem?
  intro i
  rw [List.getElem?_set]
  by_cases hi : i < n
  · rw [outerL_at _ hi, outerL_at _ hi, outerL_len]
    by_cases e : k = i
    · subst e; rw [if_pos rfl, if_pos hi, if_pos (by omega)]; simp
    · rw [if_neg e]
      by_cases hk : i < k
      · rw [if_pos hk, if_pos (by omega), if_neg (by omega)]
      · rw [if_neg hk, if_neg (by omega)]
  · rw [List.getElem?_eq_none (by rw [outerL_len]; omega), List.getElem?_eq_none (by rw [outerL_len]; omega)]
    split
    · rw [outerL_len, if_neg (by omega)]
    · rfl
def BMat (W : AW) (v : Value) (n : Nat) (r : Nat → Nat → Bool) (K : Nat → Prop) : Prop := ∃ m f, v = rowV m n ∧ PMat W m n n f r ∧ K m ∧ ∀ i, i < n → K (f i)
theorem BMat.only {W W' : AW} {v : Value} {n : Nat} {r : Nat → Nat → Bool} {K K' : Nat → Prop} (h : BMat W v n r K) (he : Only K' W W') (hk : ∀ b, b < W.next → K b → ¬ K' b) : BMat W' v n r K :=
  let ⟨m, f, h1, h2, h3, h4⟩ := h
  ⟨m, f, h1, h2.only he (hk m h2.outer.1 h3) (fun i hi => hk _ (h2.row i hi).1 (h4 i hi)), h3, h4⟩
theorem BMat.ext {W W' : AW} {v : Value} {n : Nat} {r : Nat → Nat → Bool} {K : Nat → Prop} (h : BMat W v n r K) (he : Ext W W') : BMat W' v n r K := h.only he (fun _ _ _ x => x)
theorem BMat.mono {W : AW} {v : Value} {n : Nat} {r : Nat → Nat → Bool} {K K' : Nat → Prop} (h : BMat W v n r K) (hk : ∀ b, K b → K' b) : BMat W v n r K' :=
  let ⟨m, f, h1, h2, h3, h4⟩ := h
  ⟨m, f, h1, h2, hk _ h3, fun i hi => hk _ (h4 i hi)⟩
theorem BMat.congr {W : AW} {v : Value} {n : Nat} {r r' : Nat → Nat → Bool} {K : Nat → Prop} (h : BMat W v n r K) (hr : ∀ i j, i < n → j < n → r i j = r' i j) : BMat W v n r' K :=
  let ⟨m, f, h1, h2, h3, h4⟩ := h
  ⟨m, f, h1, h2.congr hr, h3, h4⟩
theorem rep_one (z : Value) (hz : acells z = [z]) : ∀ n : Nat, rep (acells z) n = List.replicate n z
  | 0 => rfl
  | n + 1 => by rw [rep, rep_one z hz n, hz]; rfl
theorem mk75 (W : AW) (n : Nat) (hn : n ≤ 64) : aMakeSlice T0 W 75 (.int .i64 (n : Int)) (.int .i64 (n : Int)) = some (rowV W.next n, W.newCells 46 (outerL n 0 (fun _ => 0))) := by
  show aMakeSlice T0 W 75 (.int .i64 (Int.ofNat n)) (.int .i64 (Int.ofNat n)) = _
  have h1 : n ≤ 4611686018427387904 := by omega
  have h2 : Tryd.t46.bytes * n ≤ 281474976710656 := by rw [by46]; omega
  have e : outerL n 0 (fun _ => 0) = List.replicate n (.slice none 0 0) := by
    apply List.ext_getElem?
    intro i
    by_cases hi : i < n
    · rw [outerL_at _ hi, if_neg (by omega), List.getElem?_replicate, if_pos hi]
    · rw [List.getElem?_eq_none (by rw [outerL_len]; omega), List.getElem?_eq_none (by simp; omega)]
  rw [e, ← rep_one _ rfl n]
  simp only [aMakeSlice, und75, inf46, z46, h1, h2, is46, ble_dec, acells, List.length_cons, List.length_nil, Nat.beq_refl, Nat.le_refl, decide_true]
  rfl
theorem mk46 (W : AW) (n : Nat) (hn : n ≤ 64) : aMakeSlice T0 W 46 (.int .i64 (n : Int)) (.int .i64 (n : Int)) = some (rowV W.next n, W.newCells 4 (boolsL n (fun _ => false))) := by
  show aMakeSlice T0 W 46 (.int .i64 (Int.ofNat n)) (.int .i64 (Int.ofNat n)) = _
  have h1 : n ≤ 4611686018427387904 := by omega
  have h2 : Tryd.t4.bytes * n ≤ 281474976710656 := by rw [by4]; omega
  have e : boolsL n (fun _ => false) = List.replicate n (.bool false) := by
    apply List.ext_getElem?
    intro i
    by_cases hi : i < n
    · rw [boolsL_at _ hi, List.getElem?_replicate, if_pos hi]
    · rw [List.getElem?_eq_none (by rw [boolsL_len]; omega), List.getElem?_eq_none (by simp; omega)]
  rw [e, ← rep_one _ rfl n]
  simp only [aMakeSlice, und46, inf4, z4, h1, h2, is4, ble_dec, acells, List.length_cons, List.length_nil, Nat.beq_refl, Nat.le_refl, decide_true]
  rfl
theorem PMat.nil (W : AW) (n : Nat) (r : Nat → Nat → Bool) : PMat (W.newCells 46 (outerL n 0 (fun _ => 0))) W.next n 0 (fun _ => 0) r :=
  ⟨Var.new _ _ _, fun i hi => by omega, fun i hi => by omega, fun i j hi => by omega⟩
theorem PMat.row1 {W : AW} {m n k : Nat} {f : Nat → Nat} {r : Nat → Nat → Bool} (h : PMat W m n k f r) (hk : k < n) :
    ∃ W', aStoreVar T0 (W.newCells 4 (boolsL n (fun _ => false))) 46 m k (rowV W.next n) = some W' ∧ W'.next = W.next + 1 ∧ Only (fun c => c = m) W W' ∧ PMat W' m n (k + 1) (fun i => if i = k then W.next else f i) (fun p => if p = k then fun _ => false else r p) := by
  have hE : Ext W (W.newCells 4 (boolsL n (fun _ => false))) := .newCells _ _ _
  have h' := h.ext hE
  have hm := h.outer.1
  obtain ⟨W', g1, g2, g3, g4⟩ := h'.outer.store (T := T0) (t := 46) (v := rowV W.next n) (o := k) inf46 (by rw [is46]; rfl) (by rw [outerL_len]; show k + 1 ≤ n; omega) rfl
  have e2 : (outerL n k f).take k ++ acells (rowV W.next n) ++ (outerL n k f).drop (k + (acells (rowV W.next n)).length) = outerL n (k + 1) (fun i => if i = k then W.next else f i) := by
    rw [← outerL_set, List.set_eq_take_append_cons_drop, if_pos (by rw [outerL_len]; omega)]
    simp [acells, rowV]
  rw [e2] at g4
  refine ⟨W', g1, by rw [g2]; rfl, ⟨by rw [g2, newCells_next]; omega, fun b hb hk => by rw [g3.2 b (by rw [newCells_next]; omega) hk, hE.2 b hb (fun x => x)]⟩, g4, fun i hi => ?_, fun i hi => ?_, fun i j hi hj => ?_⟩
  · by_cases e : i = k
    · subst e
      simp only [if_true]
      exact (Var.new W 4 _).only g3 (by omega)
    · simp only [if_neg e]
      exact (h'.row i (by omega)).only g3 (h.ne i (by omega))
  · by_cases e : i = k
    · simp only [if_pos e]; omega
    · simp only [if_neg e]; exact h.ne i (by omega)
  · have lt : ∀ i, i < k → f i < W.next := fun i hi => (h.row i hi).1
    by_cases e : i = k
    · by_cases e' : j = k
      · omega
      · simp only [if_pos e, if_neg e']
        have := lt j (by omega); omega
    · by_cases e' : j = k
      · simp only [if_neg e, if_pos e']
        have := lt i (by omega); omega
      · simp only [if_neg e, if_neg e']
        exact h.inj i j (by omega) (by omega)
theorem rowV_eq (b n : Nat) : valEq (rowV b n) (rowV b n) = true := by simp [rowV]
def adjB (es : List Edge) : Nat → Nat → Bool := fun a b => decide (((a : Int), (b : Int)) ∈ es)
def relO (n : Nat) (es : List Edge) : Nat → Nat → Bool := wR (adjB es) n
def OrdIn (n : Int) (es : List Edge) : Prop := 1 ≤ n ∧ n ≤ 40 ∧ es.length ≤ 400 ∧ ∀ e ∈ es, 0 ≤ e.1 ∧ e.1 < n ∧ 0 ≤ e.2 ∧ e.2 < n
def OrdOk (n : Int) (es : List Edge) : Prop := OrdIn n es ∧ ∀ a, a < n.toNat → relO n.toNat es a a = false
theorem OrdIn.adj {n : Nat} {es : List Edge} (h : OrdIn (n : Int) es) {a b : Nat} (e : adjB es a b = true) : a < n ∧ b < n := by
  have := h.2.2.2 _ (of_decide_eq_true e)
  simp only at this; omega
theorem OrdOk.ord {n : Nat} {es : List Edge} (h : OrdOk (n : Int) es) : Ord n (relO n es) := ord_of (fun _ _ e => h.1.adj e) h.2
theorem tk_snoc {es : List Edge} {i : Nat} {e : Edge} (h : es[i]? = some e) : es.take (i + 1) = es.take i ++ [e] := by
  rw [List.take_add_one, h]; rfl
theorem refOrder_wp {W : AW} {v : Value} (n : Int) {es : List Edge} (h : PairR W v es) (hl : es.length < 4611686018427387904) :
    WpF T0 42 [.int .i64 n, v] W (fun u W' => Ext W W' ∧ ((OrdOk n es ∧ ∃ x, u = .tuple ⟨[x, .bool true]⟩ ∧ BMat W' x n.toNat (relO n.toNat es) (fun b => W.next ≤ b)) ∨ (¬ OrdOk n es ∧ u = .tuple ⟨[.slice none 0 0, .bool false]⟩))) := by
  refine wpF fun42 rfl ?_
  obtain ⟨A, c, hv⟩ := h.len
  have ll : ∀ W', aLen T0 W' 22 v = some (.int .i64 es.length) := fun W' => by rw [hv]; exact len_slice und22 _ _ _
  have vv := row_eq h
  try simp only [wpK_assoc]
  refine wpK_reg (fun R hR => by simp []; exact hR) ?_
  by_cases b1 : n < 1
  · try simp only [wpK_assoc]
    refine wpK_reg (fun R hR => by simp [b1]; exact hR) ?_
    try simp only [wpK_assoc]
    first | refine wpK_onT (by simp [b1]) ?_ | refine wpK_outT (by simp [b1]) ?_ | refine wpK_condT (by simp [b1]) ?_ | refine wpK_endT (by simp [b1]) ?_
    try simp only [wpK_assoc]
    refine wpK_reg (fun R hR => by simp []; exact hR) ?_
    exact wpK_ret ⟨.inr rfl, rfl, [.slice none 0 0, .bool false], by simp, .refl _ _, .inr ⟨fun hg => by have := hg.1.1; omega, rfl⟩⟩
  by_cases b2 : 40 < n
  · try simp only [wpK_assoc]
    refine wpK_reg (fun R hR => by simp [b1, b2]; exact hR) ?_
    try simp only [wpK_assoc]
    first | refine wpK_onT (by simp [b2]) ?_ | refine wpK_outT (by simp [b2]) ?_ | refine wpK_condT (by simp [b2]) ?_ | refine wpK_endT (by simp [b2]) ?_
    try simp only [wpK_assoc]
    refine wpK_reg (fun R hR => by simp []; exact hR) ?_
    exact wpK_ret ⟨.inr rfl, rfl, [.slice none 0 0, .bool false], by simp, .refl _ _, .inr ⟨fun hg => by have := hg.1.2.1; omega, rfl⟩⟩
  by_cases b3 : (400 : Int) < es.length
  · try simp only [wpK_assoc]
    refine wpK_reg (fun R hR => by simp [b1, b2, ll, b3]; exact hR) ?_
    try simp only [wpK_assoc]
    first | refine wpK_onT (by simp [b3]) ?_ | refine wpK_outT (by simp [b3]) ?_ | refine wpK_condT (by simp [b3]) ?_ | refine wpK_endT (by simp [b3]) ?_
    try simp only [wpK_assoc]
    refine wpK_reg (fun R hR => by simp []; exact hR) ?_
    exact wpK_ret ⟨.inr rfl, rfl, [.slice none 0 0, .bool false], by simp, .refl _ _, .inr ⟨fun hg => by have := hg.1.2.2.1; omega, rfl⟩⟩
  try simp only [wpK_assoc]
  refine wpK_reg (fun R hR => by simp [b1, b2, ll, b3]; exact hR) ?_
  try simp only [wpK_assoc]
  first | refine wpK_onF (by simp [b3]) ?_ | refine wpK_out (by simp [b3]) ?_ | refine wpK_condF (by simp [b3]) ?_ | refine wpK_endF (by simp [b3]) (wpK_skip ?_) | refine wpK_endF (by simp [b3]) ?_
  obtain ⟨N, hN⟩ : ∃ N : Nat, n = (N : Int) := ⟨n.toNat, by omega⟩
  subst hN
  have hn40 : N ≤ 40 := by omega
  have hn1 : 1 ≤ N := by omega
  rw [show ((N : Int)).toNat = N from by omega]
  have mk := mk75 W N (by omega)
  obtain ⟨W1, hW1, hE1, hM1, hn1'⟩ : ∃ W1, W1 = W.newCells 46 (outerL N 0 (fun _ => 0)) ∧ Ext W W1 ∧ PMat W1 W.next N 0 (fun _ => 0) (fun _ _ => false) ∧ W1.next = W.next + 1 := ⟨_, rfl, .newCells _ _ _, .nil _ _ _, rfl⟩
  rw [← hW1] at mk
  try simp only [wpK_assoc]
  refine wpK_reg (fun R hR => by simp [opMakeSlice, mk]; exact hR) ?_
  try simp only [wpK_assoc]
  refine wpK_reg (fun R hR => by simp []; exact hR) ?_
  obtain ⟨m, hm⟩ : ∃ p, p = W.next := ⟨_, rfl⟩
  rw [← hm] at hM1
  refine wpK_keep (fun tm' => tm'.get 0 = some (.int .i64 (N : Int)) ∧ tm'.get 1 = some (v) ∧ tm'.get 6 = some (rowV m N) ∧ tm'.get 7 = some (.int .i64 0)) ⟨by simp [hm], by simp [hm], by simp [hm], by simp [hm]⟩ ?_
  rintro tm ⟨h0, h1, h6, h7⟩
  try simp only [wpK_assoc]
  refine wpK_while (I := fun q A' W' => A'.n = 135 ∧ A'.defers = [] ∧ A'.tmps.get 0 = some (.int .i64 (N : Int)) ∧ A'.tmps.get 1 = some (v) ∧ A'.tmps.get 6 = some (rowV m N) ∧ Ext W W' ∧ ∃ (i : Nat) (f : Nat → Nat), A'.tmps.get 7 = some (.int .i64 (i : Int)) ∧ q = N - i ∧ i ≤ N ∧ PMat W' m N i f (fun _ _ => false) ∧ (∀ p, p < i → W.next ≤ f p))
    (J := fun A' W' => A'.n = 135 ∧ A'.defers = [] ∧ A'.tmps.get 0 = some (.int .i64 (N : Int)) ∧ A'.tmps.get 1 = some (v) ∧ A'.tmps.get 6 = some (rowV m N) ∧ Ext W W' ∧ ∃ f, PMat W' m N N f (fun _ _ => false) ∧ (∀ p, p < N → W.next ≤ f p)) (Rt := fun _ _ => False) (k := N) ?_ ?_ ?_ ?_
  · exact ⟨rfl, rfl, by simp [h0, h1, h6], by simp [h0, h1, h6], by simp [h0, h1, h6], hE1, 0, _, by simp [h7], rfl, by omega, hM1, fun p hp => by omega⟩
  · rintro q ⟨tm, n, ds⟩ Wa ⟨hn, hd, h0, h1, h6, hEa, i, f, h7, hk, hil, hMa, hfa⟩ Q' hJ' hRt hI
    simp only at hn hd h0 h1 h6
    subst hn; subst hd
    simp only at h7
    have na := hEa.1
    by_cases hlt : i < N
    case neg =>
      have e : i = N := by omega
      subst e
      try simp only [wpK_assoc]
      refine wpK_reg (fun R hR => by simp [h0, h7]; exact hR) ?_
      try simp only [wpK_assoc]
      first | refine wpK_onF (by simp []) ?_ | refine wpK_out (by simp []) ?_ | refine wpK_condF (by simp []) ?_ | refine wpK_endF (by simp []) (wpK_skip ?_) | refine wpK_endF (by simp []) ?_
      exact hJ' _ _ ⟨rfl, rfl, by simp [h0, h1, h6], by simp [h0, h1, h6], by simp [h0, h1, h6], hEa, f, hMa, hfa⟩
    have hlt' : (i : Int) < N := by omega
    try simp only [wpK_assoc]
    refine wpK_reg (fun R hR => by simp [h0, h7, hlt']; exact hR) ?_
    try simp only [wpK_assoc]
    first | refine wpK_onT (by simp [hlt]) ?_ | refine wpK_outT (by simp [hlt]) ?_ | refine wpK_condT (by simp [hlt]) ?_ | refine wpK_endT (by simp [hlt]) ?_
    have mkr := mk46 Wa N (by omega)
    obtain ⟨Wb, s1, s2, s3, s4⟩ := hMa.row1 hlt
    have ox := outer_ix (m := m) hlt
    generalize Wa.newCells 4 (boolsL N (fun _ => false)) = Wn at mkr s1
    refine wpK_block ?_
    try simp only [wpK_assoc]
    refine wpK_reg1 (fun R hR => by simp [h0, h6, h7, opMakeSlice, mkr, ox, s1]; exact hR) ?_
    simp only [leaves_normal, behind_normal]
    try simp only [wpK_assoc]
    refine wpK_reg1 (fun R hR => by simp [h7]; exact hR) ?_
    exact hI (N - (i + 1)) _ _ (by omega) ⟨rfl, rfl, by simp [h0, h1, h6], by simp [h0, h1, h6], by simp [h0, h1, h6], ⟨by omega, fun b hb hk => by rw [s3.2 b (by omega) (by omega), hEa.2 b hb (fun x => x)]⟩, i + 1, _, by simp [i64_succ i (by omega)], rfl, by omega, s4.congr (fun p c hp hc => by by_cases e : p = i <;> simp [e]), fun p hp => by
      by_cases e : p = i
      · rw [if_pos e]; exact na
      · rw [if_neg e]; exact hfa p (by omega)⟩
  · rintro A' W' hf; exact hf.elim
  rintro ⟨tm, n, ds⟩ W2 ⟨hn, hd, h0, h1, h6, hE2, f, hM2, hf2⟩
  simp only at hn hd h0 h1 h6
  subst hn; subst hd
  -- the rows stand
  obtain ⟨Km, hKm⟩ : ∃ K : Nat → Prop, K = fun b => ∃ i, i < N ∧ b = f i := ⟨_, rfl⟩
  have hKw : ∀ i, i < N → Km (f i) := fun i hi => by rw [hKm]; exact ⟨i, hi, rfl⟩
  have hK1 : ∀ b, Km b → W.next ≤ b := fun b hb => by rw [hKm] at hb; obtain ⟨i, hi, e⟩ := hb; rw [e]; exact hf2 i hi
  have hmv : ∀ (r : Nat → Nat → Bool) W', PMat W' m N N f r → ∀ {i j : Nat}, i < N → j < N → aIndexAddr T0 75 (rowV m N) (.int .i64 (i : Int)) = some (.pointer (some ⟨m, i, none⟩)) ∧ aLoadVar T0 W' 46 m i = some (rowV (f i) N) ∧ aIndexAddr T0 46 (rowV (f i) N) (.int .i64 (j : Int)) = some (.pointer (some ⟨f i, j, none⟩)) ∧ aLoadVar T0 W' 4 (f i) j = some (.bool (r i j)) := fun r W' hM i j hi hj => by
    obtain ⟨a1, a2⟩ := hM.at hi (Nat.le_refl _)
    exact ⟨a1, a2, row_ix hj, hM.cell hi hj⟩
  obtain ⟨mv, hmvE⟩ : ∃ mv, mv = rowV m N := ⟨_, rfl⟩
  have vmv : valEq mv mv = true := by rw [hmvE]; exact rowV_eq _ _
  rw [← hmvE] at hmv h6
  have n2 := hE2.1
  have hOW : ∀ {V}, Only Km W2 V → Ext W V := fun {V} ho => ⟨by have := ho.1; omega, fun b hb hk => by rw [ho.2 b (by omega) (fun hx => by have := hK1 b hx; omega), hE2.2 b hb (fun x => x)]⟩
  try simp only [wpK_assoc]
  refine wpK_reg (fun R hR => by simp []; exact hR) ?_
  refine wpK_keep (fun tm' => tm'.get 0 = some (.int .i64 (N : Int)) ∧ tm'.get 1 = some (v) ∧ tm'.get 6 = some (mv) ∧ tm'.get 8 = some (.int .i64 0)) ⟨by simp [h0, h1, h6], by simp [h0, h1, h6], by simp [h0, h1, h6], by simp [h0, h1, h6]⟩ ?_
  rintro tm ⟨h0, h1, h6, h8⟩
  try simp only [wpK_assoc]
  refine wpK_while (I := fun q A' W' => A'.n = 135 ∧ A'.defers = [] ∧ A'.tmps.get 0 = some (.int .i64 (N : Int)) ∧ A'.tmps.get 1 = some (v) ∧ A'.tmps.get 6 = some (mv) ∧ Only Km W2 W' ∧ ∃ (i : Nat), A'.tmps.get 8 = some (.int .i64 (i : Int)) ∧ q = es.length - i ∧ i ≤ es.length ∧ (∀ e ∈ es.take i, 0 ≤ e.1 ∧ e.1 < (N : Int) ∧ 0 ≤ e.2 ∧ e.2 < (N : Int)) ∧ PMat W' m N N f (adjB (es.take i)))
    (J := fun A' W' => A'.n = 135 ∧ A'.defers = [] ∧ A'.tmps.get 0 = some (.int .i64 (N : Int)) ∧ A'.tmps.get 1 = some (v) ∧ A'.tmps.get 6 = some (mv) ∧ Only Km W2 W' ∧ OrdIn (N : Int) es ∧ PMat W' m N N f (adjB es)) (Rt := fun A' W' => A'.defers = [] ∧ Ext W W' ∧ A'.tmps.get 4 = some (.slice none 0 0) ∧ A'.tmps.get 5 = some (.bool false) ∧ ¬ OrdOk (N : Int) es) (k := es.length) ?_ ?_ ?_ ?_
  · exact ⟨rfl, rfl, by simp [h0, h1, h6], by simp [h0, h1, h6], by simp [h0, h1, h6], .refl _ _, 0, by simp [h8], rfl, by omega, fun e he => by simp at he, hM2.congr (fun x y _ _ => by simp [adjB])⟩
  · rintro q ⟨tm, n, ds⟩ Wa ⟨hn, hd, h0, h1, h6, hOa, i, h8, hk, hil, hga, hMa⟩ Q' hJ' hRt hI
    simp only at hn hd h0 h1 h6
    subst hn; subst hd
    simp only at h8
    by_cases hlt : i < es.length
    case neg =>
      have hlt' : ¬ (i : Int) < es.length := by omega
      rw [List.take_of_length_le (by omega)] at hMa hga
      try simp only [wpK_assoc]
      refine wpK_reg (fun R hR => by simp [h1, h8, ll, hlt']; exact hR) ?_
      try simp only [wpK_assoc]
      first | refine wpK_onF (by simp [hlt]) ?_ | refine wpK_out (by simp [hlt]) ?_ | refine wpK_condF (by simp [hlt]) ?_ | refine wpK_endF (by simp [hlt]) (wpK_skip ?_) | refine wpK_endF (by simp [hlt]) ?_
      exact hJ' _ _ ⟨rfl, rfl, by simp [h0, h1, h6], by simp [h0, h1, h6], by simp [h0, h1, h6], hOa, ⟨by omega, by omega, by omega, hga⟩, hMa⟩
    have hlt' : (i : Int) < es.length := by omega
    try simp only [wpK_assoc]
    refine wpK_reg (fun R hR => by simp [h1, h8, ll, hlt']; exact hR) ?_
    try simp only [wpK_assoc]
    first | refine wpK_onT (by simp [hlt]) ?_ | refine wpK_outT (by simp [hlt]) ?_ | refine wpK_condT (by simp [hlt]) ?_ | refine wpK_endT (by simp [hlt]) ?_
    obtain ⟨⟨a, b⟩, hab⟩ : ∃ e : Edge, es[i] = e := ⟨_, rfl⟩
    have ha : es[i]? = some (a, b) := by rw [List.getElem?_eq_getElem hlt, hab]
    have hmem : (a, b) ∈ es := List.mem_of_getElem? ha
    obtain ⟨q0, o, hx, hh⟩ := (h.ext (hOW hOa)).at (T := T0) ha und22 sz55 .i64
    have la := load_of und3 rfl (hh 0 (.int .i64 a) rfl)
    have lb := load_of und3 rfl (hh 1 (.int .i64 b) rfl)
    rw [Nat.add_zero] at la
    refine wpK_block ?_
    try simp only [wpK_assoc]
    refine wpK_dn (wr := Tr.nil |>.set 44 0 |>.set 45 1 |>.set 46 2 |>.set 47 3 |>.set 48 4 |>.set 49 5 |>.set 50 6 |>.set 51 7 |>.set 52 8 |>.set 53 9 |>.set 9 10 |>.set 10 11) (bits := Tr.nil.lay 0 [0, 0, 3, 7, 15, 0, 0, 96, 224, 480, 31, 2047]) (ord := [0, 1, 2, 3, 4, 5, 6, 7, 8, 9, 10, 11]) (by kernel_rfl) (by kernel_rfl) (by kernel_rfl) (fun G hG => by
      simp [h1, h8, hx, ix55_0, ix55_1, la, lb, vv]
      exact hG) ?_
    refine wpK_keep (fun tm' => tm'.get 0 = some (.int .i64 (N : Int)) ∧ tm'.get 1 = some (v) ∧ tm'.get 6 = some (mv) ∧ tm'.get 8 = some (.int .i64 (i : Int)) ∧ tm'.get 9 = some (.int .i64 a) ∧ tm'.get 10 = some (.int .i64 b)) ⟨by simp [h0, h1, h6, h8], by simp [h0, h1, h6, h8], by simp [h0, h1, h6, h8], by simp [h0, h1, h6, h8], by simp [h0, h1, h6, h8], by simp [h0, h1, h6, h8]⟩ ?_
    rintro tm ⟨h0, h1, h6, h8, h9, h10⟩
    have hno : ¬ (0 ≤ a ∧ a < (N : Int) ∧ 0 ≤ b ∧ b < (N : Int)) → ¬ OrdOk (N : Int) es := fun hn hg => hn (hg.1.2.2.2 _ hmem)
    by_cases b1 : a < 0
    · try simp only [wpK_assoc]
      refine wpK_reg (fun R hR => by simp [h9, h10, h0, b1]; exact hR) ?_
      try simp only [wpK_assoc]
      first | refine wpK_onT (by simp [b1]) ?_ | refine wpK_outT (by simp [b1]) ?_ | refine wpK_condT (by simp [b1]) ?_ | refine wpK_endT (by simp [b1]) ?_
      try simp only [wpK_assoc]
      refine wpK_reg (fun R hR => by simp []; exact hR) ?_
      exact wpK_ret (hRt _ _ ⟨rfl, hOW hOa, by simp, by simp, hno (by omega)⟩)
    by_cases b2 : (N : Int) ≤ a
    · try simp only [wpK_assoc]
      refine wpK_reg (fun R hR => by simp [h9, h10, h0, b1, b2]; exact hR) ?_
      try simp only [wpK_assoc]
      first | refine wpK_onT (by simp [b2]) ?_ | refine wpK_outT (by simp [b2]) ?_ | refine wpK_condT (by simp [b2]) ?_ | refine wpK_endT (by simp [b2]) ?_
      try simp only [wpK_assoc]
      refine wpK_reg (fun R hR => by simp []; exact hR) ?_
      exact wpK_ret (hRt _ _ ⟨rfl, hOW hOa, by simp, by simp, hno (by omega)⟩)
    by_cases b3 : b < 0
    · try simp only [wpK_assoc]
      refine wpK_reg (fun R hR => by simp [h9, h10, h0, b1, b2, b3]; exact hR) ?_
      try simp only [wpK_assoc]
      first | refine wpK_onT (by simp [b3]) ?_ | refine wpK_outT (by simp [b3]) ?_ | refine wpK_condT (by simp [b3]) ?_ | refine wpK_endT (by simp [b3]) ?_
      try simp only [wpK_assoc]
      refine wpK_reg (fun R hR => by simp []; exact hR) ?_
      exact wpK_ret (hRt _ _ ⟨rfl, hOW hOa, by simp, by simp, hno (by omega)⟩)
    by_cases b4 : (N : Int) ≤ b
    · try simp only [wpK_assoc]
      refine wpK_reg (fun R hR => by simp [h9, h10, h0, b1, b2, b3, b4]; exact hR) ?_
      try simp only [wpK_assoc]
      first | refine wpK_onT (by simp [b4]) ?_ | refine wpK_outT (by simp [b4]) ?_ | refine wpK_condT (by simp [b4]) ?_ | refine wpK_endT (by simp [b4]) ?_
      try simp only [wpK_assoc]
      refine wpK_reg (fun R hR => by simp []; exact hR) ?_
      exact wpK_ret (hRt _ _ ⟨rfl, hOW hOa, by simp, by simp, hno (by omega)⟩)
    try simp only [wpK_assoc]
    refine wpK_reg (fun R hR => by simp [h9, h10, h0, b1, b2, b3, b4]; exact hR) ?_
    try simp only [wpK_assoc]
    first | refine wpK_onF (by simp [b4]) ?_ | refine wpK_out (by simp [b4]) ?_ | refine wpK_condF (by simp [b4]) ?_ | refine wpK_endF (by simp [b4]) (wpK_skip ?_) | refine wpK_endF (by simp [b4]) ?_
    obtain ⟨x, hx'⟩ : ∃ x : Nat, a = (x : Int) := ⟨a.toNat, by omega⟩
    obtain ⟨y, hy'⟩ : ∃ y : Nat, b = (y : Int) := ⟨b.toNat, by omega⟩
    subst hx'; subst hy'
    have hxN : x < N := by omega
    have hyN : y < N := by omega
    obtain ⟨a1, a2, a3, _⟩ := hmv _ Wa hMa hxN hyN
    obtain ⟨Wc, w1, w2, w3, w4⟩ := hMa.put hxN hyN true
    try simp only [wpK_assoc]
    refine wpK_reg1 (fun R hR => by simp [h6, h9, h10, a1, a2, a3, w1]; exact hR) ?_
    simp only [leaves_normal, behind_normal]
    try simp only [wpK_assoc]
    refine wpK_reg1 (fun R hR => by simp [h8]; exact hR) ?_
    exact hI (es.length - (i + 1)) _ _ (by omega) ⟨rfl, rfl, by simp [h0, h1, h6], by simp [h0, h1, h6], by simp [h0, h1, h6], hOa.trans (w3.mono (fun b _ e => by rw [e]; exact hKw x hxN)), i + 1, by simp [i64_succ i (by omega)], rfl, by omega, fun e he => by
      rw [tk_snoc ha, List.mem_append, List.mem_singleton] at he
      rcases he with he | he
      · exact hga e he
      · subst he; simp only; omega, w4.congr (fun p c hp hc => by
        unfold adjB
        rw [tk_snoc ha, Bool.eq_iff_iff]
        by_cases e : p = x
        · subst e
          rw [if_pos rfl]; unfold updB
          by_cases e2 : c = y
          · subst e2; rw [if_pos rfl]; simp
          · rw [if_neg e2]
            simp only [decide_eq_true_eq, List.mem_append, List.mem_singleton, Prod.mk.injEq]
            exact ⟨.inl, fun hh => hh.elim id (fun e3 => absurd (by omega) e2)⟩
        · rw [if_neg e]
          simp only [decide_eq_true_eq, List.mem_append, List.mem_singleton, Prod.mk.injEq]
          exact ⟨.inl, fun hh => hh.elim id (fun e3 => absurd (by omega) e)⟩)⟩
  · rintro A' W' ⟨r1, r2, r3, r4, r5⟩
    exact ⟨.inr rfl, r1, [.slice none 0 0, .bool false], by simp [r3, r4], r2, .inr ⟨r5, rfl⟩⟩
  rintro ⟨tm, n, ds⟩ W3 ⟨hn, hd, h0, h1, h6, hO3, hIn, hM3⟩
  simp only at hn hd h0 h1 h6
  subst hn; subst hd
  -- what follows
  try simp only [wpK_assoc]
  refine wpK_reg (fun R hR => by simp []; exact hR) ?_
  refine wpK_keep (fun tm' => tm'.get 0 = some (.int .i64 (N : Int)) ∧ tm'.get 6 = some (mv) ∧ tm'.get 11 = some (.int .i64 0)) ⟨by simp [h0, h6], by simp [h0, h6], by simp [h0, h6]⟩ ?_
  rintro tm ⟨h0, h6, h11⟩
  try simp only [wpK_assoc]
  refine wpK_while (I := fun q A' W' => A'.n = 135 ∧ A'.defers = [] ∧ A'.tmps.get 0 = some (.int .i64 (N : Int)) ∧ A'.tmps.get 6 = some (mv) ∧ Only Km W2 W' ∧ ∃ (k : Nat), A'.tmps.get 11 = some (.int .i64 (k : Int)) ∧ q = N - k ∧ k ≤ N ∧ PMat W' m N N f (wR (adjB es) k))
    (J := fun A' W' => A'.n = 135 ∧ A'.defers = [] ∧ A'.tmps.get 0 = some (.int .i64 (N : Int)) ∧ A'.tmps.get 6 = some (mv) ∧ Only Km W2 W' ∧ PMat W' m N N f (wR (adjB es) N)) (Rt := fun _ _ => False) (k := N) ?_ ?_ ?_ ?_
  · exact ⟨rfl, rfl, by simp [h0, h6], by simp [h0, h6], hO3, 0, by simp [h11], rfl, by omega, hM3⟩
  · rintro q ⟨tm, n, ds⟩ Wa ⟨hn, hd, h0, h6, hOa, k, h11, hq, hkl, hMa⟩ Q' hJ' hRt hI
    simp only at hn hd h0 h6
    subst hn; subst hd
    simp only at h11
    by_cases hlt : k < N
    case neg =>
      have hlt' : ¬ (k : Int) < N := by omega
      have e : k = N := by omega
      rw [e] at hMa
      try simp only [wpK_assoc]
      refine wpK_reg (fun R hR => by simp [h0, h11, hlt']; exact hR) ?_
      try simp only [wpK_assoc]
      first | refine wpK_onF (by simp [hlt]) ?_ | refine wpK_out (by simp [hlt]) ?_ | refine wpK_condF (by simp [hlt]) ?_ | refine wpK_endF (by simp [hlt]) (wpK_skip ?_) | refine wpK_endF (by simp [hlt]) ?_
      exact hJ' _ _ ⟨rfl, rfl, by simp [h0, h6], by simp [h0, h6], hOa, hMa⟩
    have hlt' : (k : Int) < N := by omega
    try simp only [wpK_assoc]
    refine wpK_reg (fun R hR => by simp [h0, h11, hlt']; exact hR) ?_
    try simp only [wpK_assoc]
    first | refine wpK_onT (by simp [hlt]) ?_ | refine wpK_outT (by simp [hlt]) ?_ | refine wpK_condT (by simp [hlt]) ?_ | refine wpK_endT (by simp [hlt]) ?_
    obtain ⟨r, hr⟩ : ∃ r, r = wR (adjB es) k := ⟨_, rfl⟩
    rw [← hr] at hMa
    refine wpK_block ?_
    try simp only [wpK_assoc]
    refine wpK_reg (fun R hR => by simp []; exact hR) ?_
    refine wpK_keep (fun tm' => tm'.get 0 = some (.int .i64 (N : Int)) ∧ tm'.get 6 = some (mv) ∧ tm'.get 11 = some (.int .i64 (k : Int)) ∧ tm'.get 12 = some (.int .i64 0)) ⟨by simp [h0, h6, h11], by simp [h0, h6, h11], by simp [h0, h6, h11], by simp [h0, h6, h11]⟩ ?_
    rintro tm ⟨h0, h6, h11, h12⟩
    try simp only [wpK_assoc]
    refine wpK_while1 (I := fun q A' W' => A'.n = 135 ∧ A'.defers = [] ∧ A'.tmps.get 0 = some (.int .i64 (N : Int)) ∧ A'.tmps.get 6 = some (mv) ∧ A'.tmps.get 11 = some (.int .i64 (k : Int)) ∧ Only Km W2 W' ∧ ∃ (i : Nat), A'.tmps.get 12 = some (.int .i64 (i : Int)) ∧ q = N - i ∧ i ≤ N ∧ PMat W' m N N f (fun x y => if x < i then wS r k x y else r x y))
      (J := fun A' W' => A'.n = 135 ∧ A'.defers = [] ∧ A'.tmps.get 0 = some (.int .i64 (N : Int)) ∧ A'.tmps.get 6 = some (mv) ∧ A'.tmps.get 11 = some (.int .i64 (k : Int)) ∧ Only Km W2 W' ∧ PMat W' m N N f (wS r k)) (Rt := fun _ _ => False) (k := N) ?_ ?_ ?_ ?_
    · exact ⟨rfl, rfl, by simp [h0, h6, h11], by simp [h0, h6, h11], by simp [h0, h6, h11], hOa, 0, by simp [h12], rfl, by omega, hMa.congr (fun x y _ _ => by rw [if_neg (by omega)])⟩
    · rintro q2 ⟨tm, n, ds⟩ Wb ⟨hn, hd, h0, h6, h11, hOb, i, h12, hq2, hil, hMb⟩ Q2 hJ2 hRt2 hI2
      simp only at hn hd h0 h6 h11
      subst hn; subst hd
      simp only at h12
      by_cases hit : i < N
      case neg =>
        have hit' : ¬ (i : Int) < N := by omega
        try simp only [wpK_assoc]
        refine wpK_reg (fun R hR => by simp [h0, h12, hit']; exact hR) ?_
        try simp only [wpK_assoc]
        first | refine wpK_onF (by simp [hit]) ?_ | refine wpK_out (by simp [hit]) ?_ | refine wpK_condF (by simp [hit]) ?_ | refine wpK_endF (by simp [hit]) (wpK_skip ?_) | refine wpK_endF (by simp [hit]) ?_
        exact hJ2 _ _ ⟨rfl, rfl, by simp [h0, h6, h11], by simp [h0, h6, h11], by simp [h0, h6, h11], hOb, hMb.congr (fun x y hx _ => by rw [if_pos (by omega)])⟩
      have hit' : (i : Int) < N := by omega
      try simp only [wpK_assoc]
      refine wpK_reg (fun R hR => by simp [h0, h12, hit']; exact hR) ?_
      try simp only [wpK_assoc]
      first | refine wpK_onT (by simp [hit]) ?_ | refine wpK_outT (by simp [hit]) ?_ | refine wpK_condT (by simp [hit]) ?_ | refine wpK_endT (by simp [hit]) ?_
      refine wpK_block ?_
      try simp only [wpK_assoc]
      refine wpK_reg (fun R hR => by simp []; exact hR) ?_
      refine wpK_keep (fun tm' => tm'.get 0 = some (.int .i64 (N : Int)) ∧ tm'.get 6 = some (mv) ∧ tm'.get 11 = some (.int .i64 (k : Int)) ∧ tm'.get 12 = some (.int .i64 (i : Int)) ∧ tm'.get 13 = some (.int .i64 0)) ⟨by simp [h0, h6, h11, h12], by simp [h0, h6, h11, h12], by simp [h0, h6, h11, h12], by simp [h0, h6, h11, h12], by simp [h0, h6, h11, h12]⟩ ?_
      rintro tm ⟨h0, h6, h11, h12, h13⟩
      try simp only [wpK_assoc]
      refine wpK_while1 (I := fun q A' W' => A'.n = 135 ∧ A'.defers = [] ∧ A'.tmps.get 0 = some (.int .i64 (N : Int)) ∧ A'.tmps.get 6 = some (mv) ∧ A'.tmps.get 11 = some (.int .i64 (k : Int)) ∧ A'.tmps.get 12 = some (.int .i64 (i : Int)) ∧ Only Km W2 W' ∧ ∃ (j : Nat), A'.tmps.get 13 = some (.int .i64 (j : Int)) ∧ q = N - j ∧ j ≤ N ∧ PMat W' m N N f (fun x y => if x < i ∨ (x = i ∧ y < j) then wS r k x y else r x y))
        (J := fun A' W' => A'.n = 135 ∧ A'.defers = [] ∧ A'.tmps.get 0 = some (.int .i64 (N : Int)) ∧ A'.tmps.get 6 = some (mv) ∧ A'.tmps.get 11 = some (.int .i64 (k : Int)) ∧ A'.tmps.get 12 = some (.int .i64 (i : Int)) ∧ Only Km W2 W' ∧ PMat W' m N N f (fun x y => if x < i + 1 then wS r k x y else r x y)) (Rt := fun _ _ => False) (k := N) ?_ ?_ ?_ ?_
      · exact ⟨rfl, rfl, by simp [h0, h6, h11, h12], by simp [h0, h6, h11, h12], by simp [h0, h6, h11, h12], by simp [h0, h6, h11, h12], hOb, 0, by simp [h13], rfl, by omega, hMb.congr (fun x y _ _ => by
          by_cases e : x < i
          · rw [if_pos e, if_pos (.inl e)]
          · rw [if_neg e, if_neg (by omega)])⟩
      · rintro q3 ⟨tm, n, ds⟩ Wd ⟨hn, hd, h0, h6, h11, h12, hOd, j, h13, hq3, hjl, hMd⟩ Q3 hJ3 hRt3 hI3
        simp only at hn hd h0 h6 h11 h12
        subst hn; subst hd
        simp only at h13
        by_cases hjt : j < N
        case neg =>
          have hjt' : ¬ (j : Int) < N := by omega
          try simp only [wpK_assoc]
          refine wpK_reg (fun R hR => by simp [h0, h13, hjt']; exact hR) ?_
          try simp only [wpK_assoc]
          first | refine wpK_onF (by simp [hjt]) ?_ | refine wpK_out (by simp [hjt]) ?_ | refine wpK_condF (by simp [hjt]) ?_ | refine wpK_endF (by simp [hjt]) (wpK_skip ?_) | refine wpK_endF (by simp [hjt]) ?_
          exact hJ3 _ _ ⟨rfl, rfl, by simp [h0, h6, h11, h12], by simp [h0, h6, h11, h12], by simp [h0, h6, h11, h12], by simp [h0, h6, h11, h12], hOd, hMd.congr (fun x y _ hy => by
            by_cases e : x < i + 1
            · rw [if_pos e, if_pos (by omega)]
            · rw [if_neg e, if_neg (by omega)])⟩
        have hjt' : (j : Int) < N := by omega
        try simp only [wpK_assoc]
        refine wpK_reg (fun R hR => by simp [h0, h13, hjt']; exact hR) ?_
        try simp only [wpK_assoc]
        first | refine wpK_onT (by simp [hjt]) ?_ | refine wpK_outT (by simp [hjt]) ?_ | refine wpK_condT (by simp [hjt]) ?_ | refine wpK_endT (by simp [hjt]) ?_
        obtain ⟨a1, a2, a3, a4⟩ := hmv _ Wd hMd hit hjt
        obtain ⟨-, -, c3, c4⟩ := hmv _ Wd hMd hit hlt
        obtain ⟨d1, d2, d3, d4⟩ := hmv _ Wd hMd hlt hjt
        obtain ⟨bv, hbv⟩ : ∃ bv, bv = wS r k i j := ⟨_, rfl⟩
        obtain ⟨We, w1, w2, w3, w4⟩ := hMd.put hit hjt bv
        have nw := w3.1
        have k1 : (if i < i ∨ i = i ∧ j < j then wS r k i j else r i j) = r i j := if_neg (by omega)
        have k2 : (if i < i ∨ i = i ∧ k < j then wS r k i k else r i k) = r i k := by rw [wS_col]; split <;> rfl
        have k3 : (if k < i ∨ k = i ∧ j < j then wS r k k j else r k j) = r k j := by rw [wS_row]; split <;> rfl
        rw [k1] at a4; rw [k2] at c4; rw [k3] at d4
        have fin : PMat We m N N f (fun x y => if x < i ∨ (x = i ∧ y < j + 1) then wS r k x y else r x y) := w4.congr (fun x y hx hy => by
          by_cases e : x = i
          · subst e
            rw [if_pos rfl]; unfold updB
            by_cases e2 : y = j
            · subst e2; rw [if_pos rfl, if_pos (by omega)]; exact hbv
            · rw [if_neg e2]
              show (if x < x ∨ x = x ∧ y < j then wS r k x y else r x y) = _
              by_cases e3 : y < j
              · rw [if_pos (by omega), if_pos (by omega)]
              · rw [if_neg (by omega), if_neg (by omega)]
          · rw [if_neg e]
            by_cases e3 : x < i
            · rw [if_pos (.inl e3), if_pos (.inl e3)]
            · rw [if_neg (by omega), if_neg (by omega)])
        clear w4
        have hO' := hOd.trans (w3.mono (fun b _ e => by rw [e]; exact hKw i hit))
        unfold wS at hbv
        refine wpK_block ?_
        generalize r i j = x1 at a4 hbv
        generalize r i k = x2 at c4 hbv
        generalize r k j = x3 at d4 hbv
        cases x1 with
        | true =>
          have e : bv = true := hbv
          subst e
          try simp only [wpK_assoc]
          refine wpK_qn (wr := Tr.nil |>.set 91 0 |>.set 92 1 |>.set 93 2 |>.set 94 3 |>.set 95 4 |>.set 96 5 |>.set 97 6 |>.set 98 7 |>.set 99 8 |>.set 100 9 |>.set 101 10 |>.set 102 11 |>.set 103 12 |>.set 104 13 |>.set 105 14 |>.set 106 15 |>.set 107 16 |>.set 108 17 |>.set 109 18 |>.set 110 19 |>.set 111 20 |>.set 112 21 |>.set 113 22 |>.set 114 23 |>.set 115 24 |>.set 116 25 |>.set 117 26 |>.set 118 27 |>.set 119 28 |>.set 120 29 |>.set 121 30) (bits := Tr.nil.lay 0 [0, 0, 3, 7, 0, 0, 0, 96, 224, 0, 992, 2016, 4064, 8160, 8160, 32736, 65504, 8160, 262112, 524256, 1048544, 2097120, 2097120, 8388576, 16777184, 2097120, 67108832, 134217696, 268435424, 536870880, 1073741823, 2147483647]) (ord := [0, 1, 2, 3, 4, 5, 6, 7, 8, 9, 10, 11, 12, 13, 14, 15, 16, 17, 18, 19, 20, 21, 22, 23, 24, 25, 26, 27, 28, 29, 30, 31]) (by kernel_rfl) (by kernel_rfl) (by kernel_rfl) (fun G hG => by
            simp [h6, h11, h12, h13, a1, a2, a3, a4, c3, c4, d1, d2, d3, d4, vmv, undef, rowV_eq, w1, nw]
            exact hG) ?_
          simp only [leaves_normal, behind_normal]
          try simp only [wpK_assoc]
          refine wpK_reg1 (fun R hR => by simp [h13]; exact hR) ?_
          exact hI3 (N - (j + 1)) _ _ (by omega) ⟨rfl, rfl, by simp [h0, h6, h11, h12], by simp [h0, h6, h11, h12], by simp [h0, h6, h11, h12], by simp [h0, h6, h11, h12], hO', j + 1, by simp [i64_succ j (by omega)], rfl, by omega, fin⟩
        | false =>
          cases x2 with
          | false =>
            have e : bv = false := hbv
            subst e
            try simp only [wpK_assoc]
            refine wpK_qn (wr := Tr.nil |>.set 91 0 |>.set 92 1 |>.set 93 2 |>.set 94 3 |>.set 95 4 |>.set 96 5 |>.set 97 6 |>.set 98 7 |>.set 99 8 |>.set 100 9 |>.set 101 10 |>.set 102 11 |>.set 103 12 |>.set 104 13 |>.set 105 14 |>.set 106 15 |>.set 107 16 |>.set 108 17 |>.set 109 18 |>.set 110 19 |>.set 111 20 |>.set 112 21 |>.set 113 22 |>.set 114 23 |>.set 115 24 |>.set 116 25 |>.set 117 26 |>.set 118 27 |>.set 119 28 |>.set 120 29 |>.set 121 30) (bits := Tr.nil.lay 0 [0, 0, 3, 7, 0, 0, 0, 96, 224, 0, 992, 2016, 4064, 8160, 8160, 32736, 65504, 8160, 262112, 524256, 1048544, 2097120, 2097120, 8388576, 16777184, 2097120, 67108832, 134217696, 268435424, 536870880, 1073741823, 2147483647]) (ord := [0, 1, 2, 3, 4, 5, 6, 7, 8, 9, 10, 11, 12, 13, 14, 15, 16, 17, 18, 19, 20, 21, 22, 23, 24, 25, 26, 27, 28, 29, 30, 31]) (by kernel_rfl) (by kernel_rfl) (by kernel_rfl) (fun G hG => by
              simp [h6, h11, h12, h13, a1, a2, a3, a4, c3, c4, d1, d2, d3, d4, vmv, undef, rowV_eq, w1, nw]
              exact hG) ?_
            simp only [leaves_normal, behind_normal]
            try simp only [wpK_assoc]
            refine wpK_reg1 (fun R hR => by simp [h13]; exact hR) ?_
            exact hI3 (N - (j + 1)) _ _ (by omega) ⟨rfl, rfl, by simp [h0, h6, h11, h12], by simp [h0, h6, h11, h12], by simp [h0, h6, h11, h12], by simp [h0, h6, h11, h12], hO', j + 1, by simp [i64_succ j (by omega)], rfl, by omega, fin⟩
          | true =>
            have e : bv = x3 := by rw [hbv]; cases x3 <;> rfl
            subst e
            try simp only [wpK_assoc]
            refine wpK_qn (wr := Tr.nil |>.set 91 0 |>.set 92 1 |>.set 93 2 |>.set 94 3 |>.set 95 4 |>.set 96 5 |>.set 97 6 |>.set 98 7 |>.set 99 8 |>.set 100 9 |>.set 101 10 |>.set 102 11 |>.set 103 12 |>.set 104 13 |>.set 105 14 |>.set 106 15 |>.set 107 16 |>.set 108 17 |>.set 109 18 |>.set 110 19 |>.set 111 20 |>.set 112 21 |>.set 113 22 |>.set 114 23 |>.set 115 24 |>.set 116 25 |>.set 117 26 |>.set 118 27 |>.set 119 28 |>.set 120 29 |>.set 121 30) (bits := Tr.nil.lay 0 [0, 0, 3, 7, 0, 0, 0, 96, 224, 0, 992, 2016, 4064, 8160, 8160, 32736, 65504, 8160, 262112, 524256, 1048544, 2097120, 2097120, 8388576, 16777184, 2097120, 67108832, 134217696, 268435424, 536870880, 1073741823, 2147483647]) (ord := [0, 1, 2, 3, 4, 5, 6, 7, 8, 9, 10, 11, 12, 13, 14, 15, 16, 17, 18, 19, 20, 21, 22, 23, 24, 25, 26, 27, 28, 29, 30, 31]) (by kernel_rfl) (by kernel_rfl) (by kernel_rfl) (fun G hG => by
              simp [h6, h11, h12, h13, a1, a2, a3, a4, c3, c4, d1, d2, d3, d4, vmv, undef, rowV_eq, w1, nw]
              exact hG) ?_
            simp only [leaves_normal, behind_normal]
            try simp only [wpK_assoc]
            refine wpK_reg1 (fun R hR => by simp [h13]; exact hR) ?_
            exact hI3 (N - (j + 1)) _ _ (by omega) ⟨rfl, rfl, by simp [h0, h6, h11, h12], by simp [h0, h6, h11, h12], by simp [h0, h6, h11, h12], by simp [h0, h6, h11, h12], hO', j + 1, by simp [i64_succ j (by omega)], rfl, by omega, fin⟩
      · rintro A' W' hf; exact hf.elim
      · rintro ⟨tm, n, ds⟩ Wd ⟨hn, hd, h0, h6, h11, h12, hOd, hMd⟩
        simp only at hn hd h0 h6 h11 h12
        subst hn; subst hd
        simp only [leaves_normal, behind_normal]
        try simp only [wpK_assoc]
        refine wpK_reg1 (fun R hR => by simp [h12]; exact hR) ?_
        exact hI2 (N - (i + 1)) _ _ (by omega) ⟨rfl, rfl, by simp [h0, h6, h11], by simp [h0, h6, h11], by simp [h0, h6, h11], hOd, i + 1, by simp [i64_succ i (by omega)], rfl, by omega, hMd⟩
    · rintro A' W' hf; exact hf.elim
    · rintro ⟨tm, n, ds⟩ Wb ⟨hn, hd, h0, h6, h11, hOb, hMb⟩
      simp only at hn hd h0 h6 h11
      subst hn; subst hd
      simp only [leaves_normal, behind_normal]
      try simp only [wpK_assoc]
      refine wpK_reg1 (fun R hR => by simp [h11]; exact hR) ?_
      exact hI (N - (k + 1)) _ _ (by omega) ⟨rfl, rfl, by simp [h0, h6], by simp [h0, h6], hOb, k + 1, by simp [i64_succ k (by omega)], rfl, by omega, by show PMat Wb m N N f (wS (wR (adjB es) k) k); rw [← hr]; exact hMb⟩
  · rintro A' W' hf; exact hf.elim
  rintro ⟨tm, n, ds⟩ W4 ⟨hn, hd, h0, h6, hO4, hM4⟩
  simp only at hn hd h0 h6
  subst hn; subst hd
  -- nothing before itself
  try simp only [wpK_assoc]
  refine wpK_reg (fun R hR => by simp []; exact hR) ?_
  refine wpK_keep (fun tm' => tm'.get 0 = some (.int .i64 (N : Int)) ∧ tm'.get 6 = some (mv) ∧ tm'.get 14 = some (.int .i64 0)) ⟨by simp [h0, h6], by simp [h0, h6], by simp [h0, h6]⟩ ?_
  rintro tm ⟨h0, h6, h14⟩
  try simp only [wpK_assoc]
  refine wpK_while (I := fun q A' W' => A'.n = 135 ∧ A'.defers = [] ∧ A'.tmps.get 0 = some (.int .i64 (N : Int)) ∧ A'.tmps.get 6 = some (mv) ∧ W' = W4 ∧ ∃ (i : Nat), A'.tmps.get 14 = some (.int .i64 (i : Int)) ∧ q = N - i ∧ i ≤ N ∧ ∀ a, a < i → relO N es a a = false)
    (J := fun A' W' => A'.n = 135 ∧ A'.defers = [] ∧ A'.tmps.get 0 = some (.int .i64 (N : Int)) ∧ A'.tmps.get 6 = some (mv) ∧ W' = W4 ∧ ∀ a, a < N → relO N es a a = false) (Rt := fun A' W' => A'.defers = [] ∧ Ext W W' ∧ A'.tmps.get 4 = some (.slice none 0 0) ∧ A'.tmps.get 5 = some (.bool false) ∧ ¬ OrdOk (N : Int) es) (k := N) ?_ ?_ ?_ ?_
  · exact ⟨rfl, rfl, by simp [h0, h6], by simp [h0, h6], rfl, 0, by simp [h14], rfl, by omega, fun a ha => by omega⟩
  · rintro q ⟨tm, n, ds⟩ Wa ⟨hn, hd, h0, h6, hWa, i, h14, hq, hil, hir⟩ Q' hJ' hRt hI
    simp only at hn hd h0 h6
    subst hn; subst hd
    subst hWa
    simp only at h14
    by_cases hlt : i < N
    case neg =>
      have hlt' : ¬ (i : Int) < N := by omega
      try simp only [wpK_assoc]
      refine wpK_reg (fun R hR => by simp [h0, h14, hlt']; exact hR) ?_
      try simp only [wpK_assoc]
      first | refine wpK_onF (by simp [hlt]) ?_ | refine wpK_out (by simp [hlt]) ?_ | refine wpK_condF (by simp [hlt]) ?_ | refine wpK_endF (by simp [hlt]) (wpK_skip ?_) | refine wpK_endF (by simp [hlt]) ?_
      exact hJ' _ _ ⟨rfl, rfl, by simp [h0, h6], by simp [h0, h6], rfl, fun a ha => hir a (by omega)⟩
    have hlt' : (i : Int) < N := by omega
    try simp only [wpK_assoc]
    refine wpK_reg (fun R hR => by simp [h0, h14, hlt']; exact hR) ?_
    try simp only [wpK_assoc]
    first | refine wpK_onT (by simp [hlt]) ?_ | refine wpK_outT (by simp [hlt]) ?_ | refine wpK_condT (by simp [hlt]) ?_ | refine wpK_endT (by simp [hlt]) ?_
    obtain ⟨a1, a2, a3, a4⟩ := hmv _ _ hM4 hlt hlt
    have a4 : aLoadVar T0 Wa 4 (f i) i = some (.bool (relO N es i i)) := a4
    refine wpK_block ?_
    cases hb : relO N es i i with
    | true =>
      rw [hb] at a4
      try simp only [wpK_assoc]
      refine wpK_reg (fun R hR => by simp [h6, h14, a1, a2, a3, a4]; exact hR) ?_
      try simp only [wpK_assoc]
      first | refine wpK_onT (by simp []) ?_ | refine wpK_outT (by simp []) ?_ | refine wpK_condT (by simp []) ?_ | refine wpK_endT (by simp []) ?_
      try simp only [wpK_assoc]
      refine wpK_reg (fun R hR => by simp []; exact hR) ?_
      exact wpK_ret (hRt _ _ ⟨rfl, hOW hO4, by simp, by simp, fun hg => by
        have := hg.2 i (by omega)
        rw [show ((N : Int)).toNat = N from by omega, hb] at this; cases this⟩)
    | false =>
      rw [hb] at a4
      try simp only [wpK_assoc]
      refine wpK_reg (fun R hR => by simp [h6, h14, a1, a2, a3, a4]; exact hR) ?_
      try simp only [wpK_assoc]
      first | refine wpK_onF (by simp []) ?_ | refine wpK_out (by simp []) ?_ | refine wpK_condF (by simp []) ?_ | refine wpK_endF (by simp []) (wpK_skip ?_) | refine wpK_endF (by simp []) ?_
      simp only [leaves_normal, behind_normal]
      try simp only [wpK_assoc]
      refine wpK_reg1 (fun R hR => by simp [h14]; exact hR) ?_
      exact hI (N - (i + 1)) _ _ (by omega) ⟨rfl, rfl, by simp [h0, h6], by simp [h0, h6], rfl, i + 1, by simp [i64_succ i (by omega)], rfl, by omega, fun a ha => by
        by_cases e : a = i
        · rw [e]; exact hb
        · exact hir a (by omega)⟩
  · rintro A' W' ⟨r1, r2, r3, r4, r5⟩
    exact ⟨.inr rfl, r1, [.slice none 0 0, .bool false], by simp [r3, r4], r2, .inr ⟨r5, rfl⟩⟩
  rintro ⟨tm, n, ds⟩ W5 ⟨hn, hd, h0, h6, hW5, hir⟩
  simp only at hn hd h0 h6
  subst hn; subst hd
  subst hW5
  try simp only [wpK_assoc]
  refine wpK_reg (fun R hR => by simp [h6]; exact hR) ?_
  exact wpK_ret ⟨.inr rfl, rfl, [mv, .bool true], by simp, hOW hO4, .inl ⟨⟨hIn, fun a ha => by rw [show ((N : Int)).toNat = N from by omega] at ha ⊢; exact hir a ha⟩, mv, rfl, m, f, hmvE, hM4, by show W.next ≤ m; omega, hf2⟩⟩
end Go.Proofs.YtdpnplanohgecaaDoor
open Go Go.Eng
namespace Go.Proofs.YtdpnplanohgecaaDoor
def updI (f : Nat → Int) (a : Nat) (v : Int) : Nat → Int := fun i => if i = a then v else f i
theorem updI_eq (f : Nat → Int) (a : Nat) (v : Int) : updI f a v a = v := if_pos rfl
theorem updI_ne (f : Nat → Int) {a i : Nat} (v : Int) (h : i ≠ a) : updI f a v i = f i := if_neg h
structure LinkR (n : Nat) (R : Nat → Nat → Bool) (nx pr : Nat → Int) : Prop where
  rel : ∀ {x y : Nat}, x < n → nx x = (y : Int) → R x y = true
  nxr : ∀ x, x < n → nx x = -1 ∨ ∃ y : Nat, y < n ∧ nx x = (y : Int)
  prr : ∀ y, y < n → pr y = -1 ∨ ∃ x : Nat, x < n ∧ pr y = (x : Int)
structure FolI (n : Nat) (R : Nat → Nat → Bool) (nx pr : Nat → Int) (met a : Nat) : Prop extends LinkR n R nx pr where
  inv : ∀ {x y : Nat}, x < n → y < n → met.testBit y = false → (nx x = (y : Int) ↔ pr y = (x : Int))
  own : ∀ {y : Nat}, y < n → met.testBit y = false → nx a ≠ (y : Int)
structure Vain (n : Nat) (R : Nat → Nat → Bool) (pr : Nat → Int) (met met1 : Nat) : Prop where
  sub : ∀ {b : Nat}, met.testBit b = true → met1.testBit b = true
  new : ∀ {b : Nat}, met1.testBit b = true → met.testBit b = true ∨ (b < n ∧ ∃ x : Nat, x < n ∧ pr b = (x : Int) ∧ ∀ c, R x c = true → met1.testBit c = true)
theorem Vain.refl (n : Nat) (R : Nat → Nat → Bool) (pr : Nat → Int) (met : Nat) : Vain n R pr met met := ⟨fun h => h, fun h => .inl h⟩
structure Found (n : Nat) (R : Nat → Nat → Bool) (nx pr nx' pr' : Nat → Int) (met a : Nat) : Prop extends LinkR n R nx' pr' where
  inv : ∀ {x y : Nat}, x < n → y < n → met.testBit y = false → (nx' x = (y : Int) ↔ pr' y = (x : Int))
  prs : ∀ {y : Nat}, y < n → met.testBit y = true → pr' y = pr y
  nxs : ∀ {x : Nat}, x < n → x ≠ a → (∀ y, y < n → met.testBit y = false → nx x ≠ (y : Int)) → nx' x = nx x
  nxm : ∀ {x y : Nat}, x < n → y < n → met.testBit y = true → nx' x = (y : Int) → nx x = (y : Int)
  got : ∃ b : Nat, b < n ∧ met.testBit b = false ∧ nx' a = (b : Int)
  stay : ∀ {x : Nat}, x < n → nx x ≠ -1 → nx' x ≠ -1
theorem bit_add (met b r : Nat) : (met ||| 1 <<< b).testBit r = (met.testBit r || decide (r = b)) := by
  rw [Nat.testBit_or, Nat.one_shiftLeft, Nat.testBit_two_pow]
  congr 1
  rw [Bool.eq_iff_iff]; simp only [decide_eq_true_eq]; omega
theorem Found.free {n : Nat} {R : Nat → Nat → Bool} {nx pr : Nat → Int} {met met1 a b : Nat} (h : FolI n R nx pr met a) (hV : Vain n R pr met met1) (ha : a < n) (hb : b < n) (hR : R a b = true) (hm : met1.testBit b = false) (hp : pr b = -1) :
    Found n R nx pr (updI nx a b) (updI pr b a) met a := by
  have hmb : met.testBit b = false := by
    cases e : met.testBit b with
    | false => rfl
    | true => rw [hV.sub e] at hm; cases hm
  refine ⟨⟨fun {x y} hx e => ?_, fun x hx => ?_, fun y hy => ?_⟩, fun {x y} hx hy hmy => ?_, fun {y} hy hmy => ?_, fun {x} hx hxa hn => updI_ne _ _ hxa, fun {x y} hx hy hmy e => ?_, ⟨b, hb, hmb, updI_eq _ _ _⟩, fun {x} hx hne => ?_⟩
  · by_cases e2 : x = a
    · subst e2; rw [updI_eq] at e
      have : b = y := by omega
      subst this; exact hR
    · rw [updI_ne _ _ e2] at e; exact h.rel hx e
  · by_cases e2 : x = a
    · subst e2; rw [updI_eq]; exact .inr ⟨b, hb, rfl⟩
    · rw [updI_ne _ _ e2]; exact h.nxr x hx
  · by_cases e2 : y = b
    · subst e2; rw [updI_eq]; exact .inr ⟨a, ha, rfl⟩
    · rw [updI_ne _ _ e2]; exact h.prr y hy
  · by_cases ey : y = b
    · subst ey
      rw [updI_eq]
      by_cases ex : x = a
      · subst ex; rw [updI_eq]; simp
      · rw [updI_ne _ _ ex]
        constructor
        · intro e; rw [h.inv hx hy hmb, hp] at e; omega
        · intro e; omega
    · rw [updI_ne _ _ ey]
      by_cases ex : x = a
      · subst ex
        rw [updI_eq]
        constructor
        · intro e; omega
        · intro e; exact absurd ((h.inv hx hy hmy).2 e) (h.own hy hmy)
      · rw [updI_ne _ _ ex]; exact h.inv hx hy hmy
  · have : y ≠ b := fun e => by subst e; rw [hmy] at hmb; cases hmb
    exact updI_ne _ _ this
  · by_cases ex : x = a
    · subst ex; rw [updI_eq] at e
      have : b = y := by omega
      subst this; rw [hmy] at hmb; cases hmb
    · rw [updI_ne _ _ ex] at e; exact e
  · by_cases ex : x = a
    · subst ex; rw [updI_eq]; omega
    · rw [updI_ne _ _ ex]; exact hne
theorem FolI.next {n : Nat} {R : Nat → Nat → Bool} {nx pr : Nat → Int} {met met1 a b a1 : Nat} (h : FolI n R nx pr met a) (hV : Vain n R pr met met1) (hb : b < n) (hm : met1.testBit b = false) (ha1 : a1 < n) (hp : pr b = (a1 : Int)) :
    FolI n R nx pr (met1 ||| 1 <<< b) a1 := by
  have un : ∀ {y : Nat}, (met1 ||| 1 <<< b).testBit y = false → met.testBit y = false ∧ y ≠ b := fun {y} hy => by
    rw [bit_add, Bool.or_eq_false_iff] at hy
    refine ⟨?_, of_decide_eq_false hy.2⟩
    cases e : met.testBit y with
    | false => rfl
    | true => rw [hV.sub e] at hy; cases hy.1
  have hmb : met.testBit b = false := by
    cases e : met.testBit b with
    | false => rfl
    | true => rw [hV.sub e] at hm; cases hm
  refine ⟨h.toLinkR, fun hx hy hmy => h.inv hx hy (un hmy).1, fun {y} hy hmy e => ?_⟩
  have := (h.inv ha1 hb hmb).2 hp
  exact (un hmy).2 (by omega)
theorem Vain.next {n : Nat} {R : Nat → Nat → Bool} {pr : Nat → Int} {met met1 met3 b a1 : Nat} (hV : Vain n R pr met met1) (hb : b < n) (ha1 : a1 < n) (hp : pr b = (a1 : Int)) (hV2 : Vain n R pr (met1 ||| 1 <<< b) met3) (hall : ∀ c, R a1 c = true → met3.testBit c = true) : Vain n R pr met met3 := by
  have s13 : ∀ {r}, met1.testBit r = true → met3.testBit r = true := fun {r} e => hV2.sub (by rw [bit_add, e]; rfl)
  refine ⟨fun e => s13 (hV.sub e), fun {r} e => ?_⟩
  rcases hV2.new e with e | e
  · rw [bit_add, Bool.or_eq_true, decide_eq_true_eq] at e
    rcases e with e | e
    · rcases hV.new e with e | ⟨h1, x, h2, h3, h4⟩
      · exact .inl e
      · exact .inr ⟨h1, x, h2, h3, fun c hc => s13 (h4 c hc)⟩
    · subst e; exact .inr ⟨hb, a1, ha1, hp, hall⟩
  · exact .inr e
theorem Found.next {n : Nat} {R : Nat → Nat → Bool} {nx pr nx1 pr1 : Nat → Int} {met met1 a b a1 : Nat} (h : FolI n R nx pr met a) (hV : Vain n R pr met met1) (ha : a < n) (hb : b < n) (hR : R a b = true) (hm : met1.testBit b = false) (ha1 : a1 < n) (hp : pr b = (a1 : Int))
    (hF : Found n R nx pr nx1 pr1 (met1 ||| 1 <<< b) a1) : Found n R nx pr (updI nx1 a b) (updI pr1 b a) met a := by
  have hmb : met.testBit b = false := by
    cases e : met.testBit b with
    | false => rfl
    | true => rw [hV.sub e] at hm; cases hm
  have hb2 : (met1 ||| 1 <<< b).testBit b = true := by rw [bit_add]; simp
  have up : ∀ {y : Nat}, met.testBit y = true → (met1 ||| 1 <<< b).testBit y = true := fun {y} e => by rw [bit_add, hV.sub e]; rfl
  have un : ∀ {y : Nat}, (met1 ||| 1 <<< b).testBit y = false → met.testBit y = false := fun {y} e => by
    cases e2 : met.testBit y with
    | false => rfl
    | true => rw [up e2] at e; cases e
  have n1 := (h.inv ha1 hb hmb).2 hp
  have haa : a ≠ a1 := fun e => h.own hb hmb (by rw [e]; exact n1)
  obtain ⟨b', hb', hmb', g1⟩ := hF.got
  refine ⟨⟨fun {x y} hx e => ?_, fun x hx => ?_, fun y hy => ?_⟩, fun {x y} hx hy hmy => ?_, fun {y} hy hmy => ?_, fun {x} hx hxa hn => ?_, fun {x y} hx hy hmy e => ?_, ⟨b, hb, hmb, updI_eq _ _ _⟩, fun {x} hx hne => ?_⟩
  · by_cases e2 : x = a
    · subst e2; rw [updI_eq] at e
      have : b = y := by omega
      subst this; exact hR
    · rw [updI_ne _ _ e2] at e; exact hF.rel hx e
  · by_cases e2 : x = a
    · subst e2; rw [updI_eq]; exact .inr ⟨b, hb, rfl⟩
    · rw [updI_ne _ _ e2]; exact hF.nxr x hx
  · by_cases e2 : y = b
    · subst e2; rw [updI_eq]; exact .inr ⟨a, ha, rfl⟩
    · rw [updI_ne _ _ e2]; exact hF.prr y hy
  · by_cases ey : y = b
    · subst ey
      rw [updI_eq]
      by_cases ex : x = a
      · subst ex; rw [updI_eq]; simp
      · rw [updI_ne _ _ ex]
        constructor
        · intro e
          have e2 := hF.nxm hx hy hb2 e
          have e3 := (h.inv hx hy hmb).1 e2
          have : x = a1 := by omega
          subst this
          have : b' = y := by omega
          subst this; rw [hb2] at hmb'; cases hmb'
        · intro e; omega
    · rw [updI_ne _ _ ey]
      by_cases ex : x = a
      · subst ex
        rw [updI_eq]
        refine ⟨fun e => by omega, fun e => ?_⟩
        exfalso
        cases e2 : (met1 ||| 1 <<< b).testBit y with
        | true =>
          rw [hF.prs hy e2] at e
          exact h.own hy hmy ((h.inv hx hy hmy).2 e)
        | false =>
          have e3 := (hF.inv hx hy e2).2 e
          rw [hF.nxs hx haa (fun z hz hmz => h.own hz (un hmz))] at e3
          exact h.own hy hmy e3
      · rw [updI_ne _ _ ex]
        cases e2 : (met1 ||| 1 <<< b).testBit y with
        | false => exact hF.inv hx hy e2
        | true =>
          rw [hF.prs hy e2]
          constructor
          · intro e; exact (h.inv hx hy hmy).1 (hF.nxm hx hy e2 e)
          · intro e
            have e3 := (h.inv hx hy hmy).2 e
            have hx1 : x ≠ a1 := fun ee => by subst ee; omega
            rw [hF.nxs hx hx1 (fun z hz hmz e4 => by
              have : z = y := by omega
              subst this; rw [e2] at hmz; cases hmz)]
            exact e3
  · have : y ≠ b := fun e => by subst e; rw [hmy] at hmb; cases hmb
    rw [updI_ne _ _ this]; exact hF.prs hy (up hmy)
  · rw [updI_ne _ _ hxa]
    exact hF.nxs hx (fun e => hn b hb hmb (by rw [e]; exact n1)) (fun y hy hmy => hn y hy (un hmy))
  · by_cases ex : x = a
    · subst ex; rw [updI_eq] at e
      have : b = y := by omega
      subst this; rw [hmy] at hmb; cases hmb
    · rw [updI_ne _ _ ex] at e; exact hF.nxm hx hy (up hmy) e
  · by_cases ex : x = a
    · subst ex; rw [updI_eq]; omega
    · rw [updI_ne _ _ ex]; exact hF.stay hx hne
structure LinkI (n : Nat) (R : Nat → Nat → Bool) (nx pr : Nat → Int) (met a : Nat) : Prop extends LinkR n R nx pr where
  inv : ∀ {x y : Nat}, x < n → y < n → (nx x = (y : Int) ↔ pr y = (x : Int))
  vain : ∀ {b : Nat}, met.testBit b = true → b < n ∧ ∃ x : Nat, x < n ∧ pr b = (x : Int) ∧ ∀ c, R x c = true → met.testBit c = true
  done : ∀ {x : Nat}, x < a → x < n → nx x = -1 → ∀ c, R x c = true → met.testBit c = true
  new : ∀ {x : Nat}, a ≤ x → x < n → nx x = -1
theorem LinkI.start (n : Nat) (R : Nat → Nat → Bool) {nx pr : Nat → Int} (h1 : ∀ x, x < n → nx x = -1) (h2 : ∀ x, x < n → pr x = -1) : LinkI n R nx pr 0 0 :=
  ⟨⟨fun {x y} hx e => by rw [h1 x hx] at e; omega, fun x hx => .inl (h1 x hx), fun x hx => .inl (h2 x hx)⟩, fun {x y} hx hy => by rw [h1 x hx, h2 y hy]; omega, fun {b} e => by simp at e, fun {x} e => by omega, fun {x} _ hx => h1 x hx⟩
theorem LinkI.fol {n : Nat} {R : Nat → Nat → Bool} {nx pr : Nat → Int} {met a : Nat} (h : LinkI n R nx pr met a) (ha : a < n) : FolI n R nx pr met a :=
  ⟨h.toLinkR, fun hx hy _ => h.inv hx hy, fun {y} hy _ e => by rw [h.new (Nat.le_refl _) ha] at e; omega⟩
theorem LinkI.no {n : Nat} {R : Nat → Nat → Bool} {nx pr : Nat → Int} {met met1 a : Nat} (h : LinkI n R nx pr met a) (hV : Vain n R pr met met1) (hall : ∀ c, R a c = true → met1.testBit c = true) : LinkI n R nx pr met1 (a + 1) := by
  refine ⟨h.toLinkR, h.inv, fun {b} e => ?_, fun {x} hx hxn hn c hc => ?_, fun hx hxn => h.new (by omega) hxn⟩
  · rcases hV.new e with e | e
    · obtain ⟨h1, x, h2, h3, h4⟩ := h.vain e
      exact ⟨h1, x, h2, h3, fun c hc => hV.sub (h4 c hc)⟩
    · exact e
  · by_cases e : x = a
    · subst e; exact hall c hc
    · exact hV.sub (h.done (by omega) hxn hn c hc)
theorem LinkI.yes {n : Nat} {R : Nat → Nat → Bool} {nx pr nx1 pr1 : Nat → Int} {met a : Nat} (h : LinkI n R nx pr met a) (ha : a < n) (hF : Found n R nx pr nx1 pr1 met a) : LinkI n R nx1 pr1 met (a + 1) := by
  have hna := h.new (Nat.le_refl _) ha
  refine ⟨hF.toLinkR, fun {x y} hx hy => ?_, fun {b} e => ?_, fun {x} hx hxn hn c hc => ?_, fun {x} hx hxn => ?_⟩
  · cases e : met.testBit y with
    | false => exact hF.inv hx hy e
    | true =>
      rw [hF.prs hy e]
      constructor
      · intro e2; exact (h.inv hx hy).1 (hF.nxm hx hy e e2)
      · intro e2
        have e3 := (h.inv hx hy).2 e2
        rw [hF.nxs hx (fun e4 => by subst e4; rw [hna] at e3; omega) (fun z hz hmz e4 => by
          have : z = y := by omega
          subst this; rw [e] at hmz; cases hmz)]
        exact e3
  · obtain ⟨h1, x, h2, h3, h4⟩ := h.vain e
    exact ⟨h1, x, h2, by rw [hF.prs h1 e]; exact h3, h4⟩
  · by_cases e : x = a
    · subst e
      obtain ⟨b, _, _, g⟩ := hF.got
      omega
    · refine h.done (by omega) hxn ?_ c hc
      apply Classical.byContradiction
      intro hne
      exact hF.stay hxn hne hn
  · have e := h.new (show a ≤ x by omega) hxn
    rw [hF.nxs hxn (by omega) (fun z hz _ e4 => by omega), e]
end Go.Proofs.YtdpnplanohgecaaDoor

open Go Go.Eng
namespace Go.Proofs.YtdpnplanohgecaaDoor
attribute [local congr] undef_congr WpK.congr WpS.congr WpL.congr WpC.congr WpF.congr gotS.congr callS.congr nextS.congr wantS.congr condS.congr
attribute [local irreducible] WpK
attribute [local simp] WpDr_nil WpDr_cons atS_some dwantS_true dwantS_false kindS_light kindS_float kindS_heavy lightS_value floatS_some heavyS_value heavyS_skip heavyS_enter dcallS_some doneS_eq
  isLight isFloat isPlain dLook testBit_dec dChain dLights_nil dLights_skip dLights_one dLight_nil dLight_cons dFreshes_nil dFreshes_one oneF_none oneF_some dFresh_nil dFresh_cons oneL_some oneW_true oneW_false sameV_value dPut dMay valEq arrEq listEq List.getElem?_cons Tr.get_nil dEnd
attribute [local simp] WpS_nil WpS_cons isDefer undef_false wantS_true wantS_false nextS_value nextS_skip nextS_enter callS_some gotS_some aWanted aOp aEvalF aEval opMove opAssign opPick aVal flat flat1 AAct.put opBinOp opConvert opIndex Tr.get_set Tr.get_lay aBin aResults tupled
  aCall aVals aCallB blt_dec ble_dec beq_dec aBinI_add aBinI_sub aBinI_lss aBinI_leq aBinI_gtr aBinI_geq aBinI_eql aBinI_neq index_str len_str len_slice Nat.beq_refl Nat.beq_refl
  opBox opLoad opFieldAddr opIndexAddr acells aAddr opExtract aExtract opUnOp opAlloc opStore opMakeInterface opNilCheck opBuild aParts opBuildSlice aValW
attribute [local simp] und2 und3 und4 und5 und9 und12 field13_0 field13_1 und21 und22 field23_0 field23_1 field24_0 field24_1 field25_0 field25_1 und28 und31 field34_0 field34_1 field34_2 field35_0 field35_1 field35_2 und46 field50_0 field50_1 field50_2 und55 und56 und58 und61 und62 und73 und75 und90 und94 und95 und96 field97_0 field97_1 field97_2 field97_3 field97_4 field97_5 field97_6 field98_0 field98_1 field98_2 field98_3 field98_4 field98_5 field98_6 und99 und106 field107_0 field107_1 field108_0 field108_1 und119 und122 field124_0 field124_1 field124_2 field125_0 field125_1 field125_2 field131_0 field131_1 field132_0 field132_1 und133 field134_0 field134_1 field135_0 field135_1 und148 und156 und160
set_option maxHeartbeats 4000000
set_option linter.unusedSimpArgs false
set_option linter.unusedVariables false
theorem order_ok {W : AW} {v : Value} {n : Nat} {es : List Edge} (h : PairR W v es) (hl : es.length < 4611686018427387904) (hok : OrdOk (n : Int) es) : WpF T0 42 [.int .i64 (n : Int), v] W (fun u W' => Ext W W' ∧ ∃ x, u = .tuple ⟨[x, .bool true]⟩ ∧ BMat W' x n (relO n es) (fun b => W.next ≤ b)) :=
  (refOrder_wp (n : Int) h hl).mono (fun u W' ⟨h1, h2⟩ => ⟨h1, by
    rcases h2 with ⟨_, h2⟩ | ⟨h2, _⟩
    · exact h2
    · exact absurd hok h2⟩)
theorem order_no {W : AW} {v : Value} {n : Int} {es : List Edge} (h : PairR W v es) (hl : es.length < 4611686018427387904) (hno : ¬ OrdOk n es) : WpF T0 42 [.int .i64 n, v] W (fun u W' => Ext W W' ∧ u = .tuple ⟨[.slice none 0 0, .bool false]⟩) :=
  (refOrder_wp n h hl).mono (fun u W' ⟨h1, h2⟩ => ⟨h1, by
    rcases h2 with ⟨h2, _⟩ | ⟨_, h2⟩
    · exact absurd h2 hno
    · exact h2⟩)
theorem zer_sets : zer40 = setsL (fun _ => 0) := by
  show zer40 = (List.range 40).map fun _ => Value.int .u64 ((0 : Nat) : Int)
  unfold zer40; rfl
theorem build132 (n : Int) : aBuild T0 132 [(0, .int .i64 n)] = some (.agg ⟨.int .i64 n :: zer40⟩) := by kernel_rfl
theorem arrange_wp {W : AW} {v : Value} (n : Int) {es : List Edge} (h : PairR W v es) (hl : es.length < 4611686018427387904) (hT : tabsIn T0 T0.tabs W = true) (h0 : 0 < W.next) :
    WpF T0 71 [.int .i64 n, v] W (fun u W' => Ext W W' ∧ ((OrdOk n es ∧ ∃ o g, W.next ≤ o ∧ u = .tuple ⟨[.pointer (some ⟨o, 0, none⟩), .int .i64 0]⟩ ∧ OrdAt W' o n.toNat g ∧ ∀ a b, (g a).testBit b = relO n.toNat es a b) ∨ (¬ OrdOk n es ∧ u = .tuple ⟨[.pointer none, .int .i64 41]⟩))) := by
  have h0W := h0
  clear h0
  refine wpF fun71 rfl ?_
  obtain ⟨A, c, hv⟩ := h.len
  have ll : ∀ W', aLen T0 W' 22 v = some (.int .i64 es.length) := fun W' => by rw [hv]; exact len_slice und22 _ _ _
  have vv := row_eq h
  try simp only [wpK_assoc]
  refine wpK_reg (fun R hR => by simp []; exact hR) ?_
  by_cases b1 : n < 1
  · try simp only [wpK_assoc]
    refine wpK_reg (fun R hR => by simp [b1]; exact hR) ?_
    try simp only [wpK_assoc]
    first | refine wpK_onT (by simp [b1]) ?_ | refine wpK_outT (by simp [b1]) ?_ | refine wpK_condT (by simp [b1]) ?_ | refine wpK_endT (by simp [b1]) ?_
    try simp only [wpK_assoc]
    refine wpK_reg (fun R hR => by simp []; exact hR) ?_
    exact wpK_ret ⟨.inr rfl, rfl, [.pointer none, .int .i64 41], by simp, .refl _ _, .inr ⟨fun hg => by have := hg.1.1; omega, rfl⟩⟩
  by_cases b2 : 40 < n
  · try simp only [wpK_assoc]
    refine wpK_reg (fun R hR => by simp [b1, b2]; exact hR) ?_
    try simp only [wpK_assoc]
    first | refine wpK_onT (by simp [b2]) ?_ | refine wpK_outT (by simp [b2]) ?_ | refine wpK_condT (by simp [b2]) ?_ | refine wpK_endT (by simp [b2]) ?_
    try simp only [wpK_assoc]
    refine wpK_reg (fun R hR => by simp []; exact hR) ?_
    exact wpK_ret ⟨.inr rfl, rfl, [.pointer none, .int .i64 41], by simp, .refl _ _, .inr ⟨fun hg => by have := hg.1.2.1; omega, rfl⟩⟩
  by_cases b3 : (400 : Int) < es.length
  · try simp only [wpK_assoc]
    refine wpK_reg (fun R hR => by simp [b1, b2, ll, b3]; exact hR) ?_
    try simp only [wpK_assoc]
    first | refine wpK_onT (by simp [b3]) ?_ | refine wpK_outT (by simp [b3]) ?_ | refine wpK_condT (by simp [b3]) ?_ | refine wpK_endT (by simp [b3]) ?_
    try simp only [wpK_assoc]
    refine wpK_reg (fun R hR => by simp []; exact hR) ?_
    exact wpK_ret ⟨.inr rfl, rfl, [.pointer none, .int .i64 41], by simp, .refl _ _, .inr ⟨fun hg => by have := hg.1.2.2.1; omega, rfl⟩⟩
  try simp only [wpK_assoc]
  refine wpK_reg (fun R hR => by simp [b1, b2, ll, b3]; exact hR) ?_
  try simp only [wpK_assoc]
  first | refine wpK_onF (by simp [b3]) ?_ | refine wpK_out (by simp [b3]) ?_ | refine wpK_condF (by simp [b3]) ?_ | refine wpK_endF (by simp [b3]) (wpK_skip ?_) | refine wpK_endF (by simp [b3]) ?_
  obtain ⟨N, hN⟩ : ∃ N : Nat, n = (N : Int) := ⟨n.toNat, by omega⟩
  subst hN
  have hn40 : N ≤ 40 := by omega
  have hn1 : 1 ≤ N := by omega
  rw [show ((N : Int)).toNat = N from by omega]
  obtain ⟨o, hoE⟩ : ∃ o, o = W.next := ⟨_, rfl⟩
  obtain ⟨W1, hW1, hE1, hn1', hV1⟩ : ∃ W1, W1 = W.newCells 132 (.int .i64 (N : Int) :: zer40) ∧ Ext W W1 ∧ W1.next = W.next + 1 ∧ Var W1 W.next 132 (.int .i64 (N : Int) :: zer40) := ⟨_, rfl, .newCells _ _ _, rfl, Var.new _ _ _⟩
  rw [zer_sets, ← hoE] at hV1
  have hV1 : OrdAt W1 o N (fun _ => 0) := hV1
  try simp only [wpK_assoc]
  refine wpK_reg (fun R hR => by simp [build132, ← hW1]; exact hR) ?_
  try simp only [wpK_assoc]
  refine wpK_reg (fun R hR => by simp [ll]; exact hR) ?_
  have n1 := hE1.1
  have hOW : ∀ {V}, Only (fun b => b = o ∨ W1.next ≤ b) W1 V → Ext W V := fun {V} ho => ⟨by have := ho.1; omega, fun b hb hk => by rw [ho.2 b (by omega) (by omega), hE1.2 b hb (fun x => x)]⟩
  refine wpK_keep (fun tm' => tm'.get 0 = some (.int .i64 (N : Int)) ∧ tm'.get 6 = some (.pointer (some ⟨o, 0, none⟩)) ∧ tm'.get 24 = some (v) ∧ tm'.get 25 = some (.int .i64 es.length) ∧ tm'.get 26 = some (.int .i64 0)) ⟨by simp [hoE], by simp [hoE], by simp [hoE], by simp [hoE], by simp [hoE]⟩ ?_
  rintro tm ⟨h0, h6, h24, h25, h26⟩
  try simp only [wpK_assoc]
  refine wpK_while (I := fun q A' W' => A'.n = 76 ∧ A'.defers = [] ∧ A'.tmps.get 0 = some (.int .i64 (N : Int)) ∧ A'.tmps.get 6 = some (.pointer (some ⟨o, 0, none⟩)) ∧ A'.tmps.get 24 = some (v) ∧ A'.tmps.get 25 = some (.int .i64 es.length) ∧ Only (fun b => b = o ∨ W1.next ≤ b) W1 W' ∧ ∃ (i : Nat), A'.tmps.get 26 = some (.int .i64 (i : Int)) ∧ q = es.length - i ∧ i ≤ es.length ∧ (∀ e ∈ es.take i, 0 ≤ e.1 ∧ e.1 < (N : Int) ∧ 0 ≤ e.2 ∧ e.2 < (N : Int)) ∧ ∃ g, OrdAt W' o N g ∧ ∀ a b, (g a).testBit b = adjB (es.take i) a b)
    (J := fun A' W' => A'.n = 76 ∧ A'.defers = [] ∧ A'.tmps.get 0 = some (.int .i64 (N : Int)) ∧ A'.tmps.get 6 = some (.pointer (some ⟨o, 0, none⟩)) ∧ A'.tmps.get 24 = some (v) ∧ A'.tmps.get 25 = some (.int .i64 es.length) ∧ Only (fun b => b = o ∨ W1.next ≤ b) W1 W' ∧ OrdIn (N : Int) es ∧ ∃ g, OrdAt W' o N g ∧ ∀ a b, (g a).testBit b = adjB es a b) (Rt := fun A' W' => A'.defers = [] ∧ Ext W W' ∧ A'.tmps.get 4 = some (.pointer none) ∧ A'.tmps.get 5 = some (.int .i64 41) ∧ ¬ OrdOk (N : Int) es) (k := es.length) ?_ ?_ ?_ ?_
  · exact ⟨rfl, rfl, by simp [h0, h6, h24, h25], by simp [h0, h6, h24, h25], by simp [h0, h6, h24, h25], by simp [h0, h6, h24, h25], .refl _ _, 0, by simp [h26], rfl, by omega, fun e he => by simp at he, _, hV1, fun a b => by simp [adjB]⟩
  · rintro q ⟨tm, n, ds⟩ Wa ⟨hn, hd, h0, h6, h24, h25, hOa, i, h26, hk, hil, hga, g, hg, hgb⟩ Q' hJ' hRt hI
    simp only at hn hd h0 h6 h24 h25
    subst hn; subst hd
    simp only at h26
    by_cases hlt : i < es.length
    case neg =>
      have hlt' : ¬ (i : Int) < es.length := by omega
      rw [List.take_of_length_le (by omega)] at hga hgb
      try simp only [wpK_assoc]
      refine wpK_reg (fun R hR => by simp [h25, h26, hlt']; exact hR) ?_
      try simp only [wpK_assoc]
      first | refine wpK_onF (by simp [hlt]) ?_ | refine wpK_out (by simp [hlt]) ?_ | refine wpK_condF (by simp [hlt]) ?_ | refine wpK_endF (by simp [hlt]) (wpK_skip ?_) | refine wpK_endF (by simp [hlt]) ?_
      exact hJ' _ _ ⟨rfl, rfl, by simp [h0, h6, h24, h25], by simp [h0, h6, h24, h25], by simp [h0, h6, h24, h25], by simp [h0, h6, h24, h25], hOa, ⟨by omega, by omega, by omega, hga⟩, g, hg, hgb⟩
    have hlt' : (i : Int) < es.length := by omega
    try simp only [wpK_assoc]
    refine wpK_reg (fun R hR => by simp [h25, h26, hlt']; exact hR) ?_
    try simp only [wpK_assoc]
    first | refine wpK_onT (by simp [hlt]) ?_ | refine wpK_outT (by simp [hlt]) ?_ | refine wpK_condT (by simp [hlt]) ?_ | refine wpK_endT (by simp [hlt]) ?_
    obtain ⟨⟨a, b⟩, hab⟩ : ∃ e : Edge, es[i] = e := ⟨_, rfl⟩
    have ha : es[i]? = some (a, b) := by rw [List.getElem?_eq_getElem hlt, hab]
    have hmem : (a, b) ∈ es := List.mem_of_getElem? ha
    have na := hOa.1
    obtain ⟨q0, o', hx, hh⟩ := (h.ext (hOW hOa)).at (T := T0) ha und22 sz55 .i64
    have lab := load55 hh
    obtain ⟨Wb, hWb, hnb, hEb, hVb⟩ := storeVar_new (T := T0) (W := Wa) (t := 55) (v := pr a b) (z := [.int .i64 0, .int .i64 0]) inf55 (by rw [is55]; rfl) (by rw [is55]; rfl) rfl
    refine wpK_block ?_
    try simp only [wpK_assoc]
    refine wpK_reg (fun R hR => by simp [h24, h26, hx, lab, zero55, hWb]; exact hR) ?_
    obtain ⟨p8, hp8⟩ : ∃ p, p = Wa.next := ⟨_, rfl⟩
    rw [← hp8] at hVb
    have nb := hEb.1
    refine wpK_keep (fun tm' => tm'.get 0 = some (.int .i64 (N : Int)) ∧ tm'.get 6 = some (.pointer (some ⟨o, 0, none⟩)) ∧ tm'.get 8 = some (.pointer (some ⟨p8, 0, none⟩)) ∧ tm'.get 24 = some (v) ∧ tm'.get 25 = some (.int .i64 es.length) ∧ tm'.get 26 = some (.int .i64 (i : Int))) ⟨by simp [h0, h6, h24, h25, h26, hp8], by simp [h0, h6, h24, h25, h26, hp8], by simp [h0, h6, h24, h25, h26, hp8], by simp [h0, h6, h24, h25, h26, hp8], by simp [h0, h6, h24, h25, h26, hp8], by simp [h0, h6, h24, h25, h26, hp8]⟩ ?_
    rintro tm ⟨h0, h6, h8, h24, h25, h26⟩
    have la := hVb.load1 (T := T0) und3 rfl (j := 0) (v := .int .i64 a) rfl
    have lb := hVb.load1 (T := T0) und3 rfl (j := 1) (v := .int .i64 b) rfl
    have hOb := hOa.trans (Only.wide (K := fun b => b = o ∨ W1.next ≤ b) hEb)
    have hno : ¬ (0 ≤ a ∧ a < (N : Int) ∧ 0 ≤ b ∧ b < (N : Int)) → ¬ OrdOk (N : Int) es := fun hn hg => hn (hg.1.2.2.2 _ hmem)
    by_cases b1 : min a b < 0
    · try simp only [wpK_assoc]
      refine wpK_reg (fun R hR => by simp [h8, ix55_0, ix55_1, la, lb, min_int, max_int, h0, b1]; exact hR) ?_
      try simp only [wpK_assoc]
      first | refine wpK_onT (by simp [b1]) ?_ | refine wpK_outT (by simp [b1]) ?_ | refine wpK_condT (by simp [b1]) ?_ | refine wpK_endT (by simp [b1]) ?_
      try simp only [wpK_assoc]
      refine wpK_reg (fun R hR => by simp []; exact hR) ?_
      exact wpK_ret (hRt _ _ ⟨rfl, hOW hOb, by simp, by simp, hno (by omega)⟩)
    by_cases b2 : (N : Int) ≤ max a b
    · try simp only [wpK_assoc]
      refine wpK_reg (fun R hR => by simp [h8, ix55_0, ix55_1, la, lb, min_int, max_int, h0, b1, b2]; exact hR) ?_
      try simp only [wpK_assoc]
      first | refine wpK_onT (by simp [b2]) ?_ | refine wpK_outT (by simp [b2]) ?_ | refine wpK_condT (by simp [b2]) ?_ | refine wpK_endT (by simp [b2]) ?_
      try simp only [wpK_assoc]
      refine wpK_reg (fun R hR => by simp []; exact hR) ?_
      exact wpK_ret (hRt _ _ ⟨rfl, hOW hOb, by simp, by simp, hno (by omega)⟩)
    try simp only [wpK_assoc]
    refine wpK_reg (fun R hR => by simp [h8, ix55_0, ix55_1, la, lb, min_int, max_int, h0, b1, b2]; exact hR) ?_
    try simp only [wpK_assoc]
    first | refine wpK_onF (by simp [b2]) ?_ | refine wpK_out (by simp [b2]) ?_ | refine wpK_condF (by simp [b2]) ?_ | refine wpK_endF (by simp [b2]) (wpK_skip ?_) | refine wpK_endF (by simp [b2]) ?_
    refine wpK_keep (fun tm' => tm'.get 0 = some (.int .i64 (N : Int)) ∧ tm'.get 6 = some (.pointer (some ⟨o, 0, none⟩)) ∧ tm'.get 8 = some (.pointer (some ⟨p8, 0, none⟩)) ∧ tm'.get 24 = some (v) ∧ tm'.get 25 = some (.int .i64 es.length) ∧ tm'.get 26 = some (.int .i64 (i : Int))) ⟨by simp [h0, h6, h8, h24, h25, h26], by simp [h0, h6, h8, h24, h25, h26], by simp [h0, h6, h8, h24, h25, h26], by simp [h0, h6, h8, h24, h25, h26], by simp [h0, h6, h8, h24, h25, h26], by simp [h0, h6, h8, h24, h25, h26]⟩ ?_
    rintro tm ⟨h0, h6, h8, h24, h25, h26⟩
    obtain ⟨x, hx'⟩ : ∃ x : Nat, a = (x : Int) := ⟨a.toNat, by omega⟩
    obtain ⟨y, hy'⟩ : ∃ y : Nat, b = (y : Int) := ⟨b.toNat, by omega⟩
    subst hx'; subst hy'
    have hxN : x < N := by omega
    have hyN : y < N := by omega
    have hgB := hg.ext hEb
    have lt5 : ∀ a, g a < 1099511627776 := fun a => lt40 fun b hb => by
      rw [hgb] at hb
      have := hga _ (of_decide_eq_true hb)
      simp only at this; omega
    have hpo : o < p8 := by have : o < Wa.next := hg.1; omega
    obtain ⟨Wc, w1, w2, w3, w4⟩ := ord_put hgB (j := x) (by omega) (g x ||| 1 <<< y)
    have m1 := ord_set hgB (j := x) (by omega)
    have i1 := ix106 o 1 x (by omega)
    have h64 : (1 <<< y : Nat) < 18446744073709551616 := by rw [Nat.one_shiftLeft]; exact Nat.lt_trans (Nat.pow_lt_pow_right (by omega) (show y < 40 by omega)) (by decide)
    have hor := aBinI_or .u64 (g x) (1 <<< y) (by have := lt5 x; show g x < 18446744073709551616; omega) h64
    have nw := w3.1
    generalize hgx : g x ||| 1 <<< y = z at hor w1 w4
    have ho1 := one_wp y (by omega) Wb
    generalize hg1 : (1 <<< y : Nat) = y1 at hor ho1
    try simp only [wpK_assoc]
    refine wpK_qn (wr := Tr.nil |>.set 45 0 |>.set 46 1 |>.set 47 2 |>.set 48 3 |>.set 49 4 |>.set 50 5 |>.set 51 6 |>.set 52 7 |>.set 53 8 |>.set 54 9 |>.set 55 10 |>.set 56 11 |>.set 57 12 |>.set 58 13) (bits := Tr.nil.lay 0 [0, 0, 2, 1, 9, 31, 63, 0, 128, 384, 1023, 1, 2049, 8191, 16383]) (ord := [0, 1, 2, 3, 4, 5, 6, 7, 8, 9, 10, 11, 12, 13, 14]) (by kernel_rfl) (by kernel_rfl) (by kernel_rfl) (fun G hG => by
      simp [h6, h8, ix55_0, ix55_1, la, lb, m1, i1, aEnter, fun68, short_other, aCallV]
      rw [dcallS_none]
      refine ho1.mono ?_
      rintro _ W9 ⟨e9, rfl⟩; subst W9
      simp [h6, h8, ix55_0, ix55_1, la, lb, m1, i1, hor, w1, nw]
      exact hG) ?_
    simp only [leaves_normal, behind_normal]
    try simp only [wpK_assoc]
    refine wpK_reg1 (fun R hR => by simp [h26]; exact hR) ?_
    exact hI (es.length - (i + 1)) _ _ (by omega) ⟨rfl, rfl, by simp [h0, h6, h24, h25], by simp [h0, h6, h24, h25], by simp [h0, h6, h24, h25], by simp [h0, h6, h24, h25], hOb.trans (w3.mono (fun b _ e => .inl e)), i + 1, by simp [i64_succ i (by omega)], rfl, by omega, fun e he => by
      rw [tk_snoc ha, List.mem_append, List.mem_singleton] at he
      rcases he with he | he
      · exact hga e he
      · subst he; simp only; omega, updN g x z, w4, fun p c => by
        unfold adjB updN
        rw [tk_snoc ha]
        by_cases e : p = x
        · subst e
          rw [if_pos rfl, ← hgx, bit_add, hgb]
          unfold adjB
          rw [Bool.eq_iff_iff]
          simp only [Bool.or_eq_true, decide_eq_true_eq, List.mem_append, List.mem_singleton, Prod.mk.injEq]
          constructor
          · rintro (e2 | e2)
            · exact .inl e2
            · exact .inr ⟨trivial, by rw [e2]⟩
          · rintro (e2 | e2)
            · exact .inl e2
            · exact .inr (Int.ofNat.inj e2.2)
        · rw [if_neg e, hgb]
          unfold adjB
          rw [Bool.eq_iff_iff]
          simp only [decide_eq_true_eq, List.mem_append, List.mem_singleton, Prod.mk.injEq]
          exact ⟨.inl, fun hh => hh.elim id (fun e3 => absurd (by omega) e)⟩⟩
  · rintro A' W' ⟨r1, r2, r3, r4, r5⟩
    exact ⟨.inr rfl, r1, [.pointer none, .int .i64 41], by simp [r3, r4], r2, .inr ⟨r5, rfl⟩⟩
  rintro ⟨tm, n, ds⟩ W3 ⟨hn, hd, h0, h6, h24, h25, hO3, hIn, g, hg, hgb⟩
  simp only at hn hd h0 h6 h24 h25
  subst hn; subst hd
  -- what follows
  have hEW3 := hOW hO3
  have n3 := hEW3.1
  try simp only [wpK_assoc]
  refine wpK_x1 (P := fun (_ : Value) W4 => Only (fun b => b = o) W3 W4 ∧ ∃ g, OrdAt W4 o N g ∧ ∀ a b, (g a).testBit b = relO N es a b) (fun R hR => by
    simp [h6, aEnter, fun83, short_other, aCallV]; rw [callS_none]
    refine (close_wp hg hn40 (fun a b e => hIn.adj (by rw [← hgb]; exact e)) (tabs_ext hT h0W hEW3) (by omega)).mono ?_
    rintro vc W4 ⟨hO4, g', hg', hgb'⟩
    simp
    refine hR vc W4 (And.intro hO4 ⟨g', hg', fun a b => ?_⟩)
    rw [hgb', show bitR g = adjB es from funext fun a => funext fun b => hgb a b]; rfl) ?_
  rintro vc W4 ⟨hO4, g', hg4, hgb4⟩
  have hEW4 : Ext W W4 := ⟨by have := hO4.1; omega, fun b hb hk => by rw [hO4.2 b (by omega) (by omega), hEW3.2 b hb hk]⟩
  try simp only [wpK_assoc]
  refine wpK_reg (fun R hR => by simp [h0]; exact hR) ?_
  refine wpK_keep (fun tm' => tm'.get 6 = some (.pointer (some ⟨o, 0, none⟩)) ∧ tm'.get 62 = some (.int .i64 (N : Int)) ∧ tm'.get 63 = some (.int .i64 0)) ⟨by simp [h6], by simp [h6], by simp [h6]⟩ ?_
  rintro tm ⟨h6, h62, h63⟩
  try simp only [wpK_assoc]
  refine wpK_while (I := fun q A' W' => A'.n = 76 ∧ A'.defers = [] ∧ A'.tmps.get 6 = some (.pointer (some ⟨o, 0, none⟩)) ∧ A'.tmps.get 62 = some (.int .i64 (N : Int)) ∧ W' = W4 ∧ ∃ (i : Nat), A'.tmps.get 63 = some (.int .i64 (i : Int)) ∧ q = N - i ∧ i ≤ N ∧ ∀ a, a < i → relO N es a a = false)
    (J := fun A' W' => A'.n = 76 ∧ A'.defers = [] ∧ A'.tmps.get 6 = some (.pointer (some ⟨o, 0, none⟩)) ∧ A'.tmps.get 62 = some (.int .i64 (N : Int)) ∧ W' = W4 ∧ ∀ a, a < N → relO N es a a = false) (Rt := fun A' W' => A'.defers = [] ∧ Ext W W' ∧ A'.tmps.get 4 = some (.pointer none) ∧ A'.tmps.get 5 = some (.int .i64 41) ∧ ¬ OrdOk (N : Int) es) (k := N) ?_ ?_ ?_ ?_
  · exact ⟨rfl, rfl, by simp [h6, h62], by simp [h6, h62], rfl, 0, by simp [h63], rfl, by omega, fun a ha => by omega⟩
  · rintro q ⟨tm, n, ds⟩ Wa ⟨hn, hd, h6, h62, hWa, i, h63, hq, hil, hir⟩ Q' hJ' hRt hI
    simp only at hn hd h6 h62
    subst hn; subst hd
    subst hWa
    simp only at h63
    by_cases hlt : i < N
    case neg =>
      have hlt' : ¬ (i : Int) < N := by omega
      try simp only [wpK_assoc]
      refine wpK_reg (fun R hR => by simp [h62, h63, hlt']; exact hR) ?_
      try simp only [wpK_assoc]
      first | refine wpK_onF (by simp [hlt]) ?_ | refine wpK_out (by simp [hlt]) ?_ | refine wpK_condF (by simp [hlt]) ?_ | refine wpK_endF (by simp [hlt]) (wpK_skip ?_) | refine wpK_endF (by simp [hlt]) ?_
      exact hJ' _ _ ⟨rfl, rfl, by simp [h6, h62], by simp [h6, h62], rfl, fun a ha => hir a (by omega)⟩
    have hlt' : (i : Int) < N := by omega
    try simp only [wpK_assoc]
    refine wpK_reg (fun R hR => by simp [h62, h63, hlt']; exact hR) ?_
    try simp only [wpK_assoc]
    first | refine wpK_onT (by simp [hlt]) ?_ | refine wpK_outT (by simp [hlt]) ?_ | refine wpK_condT (by simp [hlt]) ?_ | refine wpK_endT (by simp [hlt]) ?_
    have m1 := ord_set hg4 (j := i) (by omega)
    have i1 := ix106 o 1 i (by omega)
    have hgl : g' i < 18446744073709551616 := by
      have := lt40 (x := g' i) fun b hb => by
        rw [hgb4] at hb
        have := (wR_in (fun a b e => hIn.adj e) N i b hb).2; omega
      omega
    refine wpK_block ?_
    try simp only [wpK_assoc]
    refine wpK_reg (fun R hR => by simp [h63]; exact hR) ?_
    cases hb : relO N es i i with
    | true =>
      try simp only [wpK_assoc]
      refine wpK_reg (fun R hR => by
          simp [h6, h63, m1, i1, aEnter, fun60, short_other, aCallV]; rw [callS_none]
          refine (has_is (b := true) (by rw [hgb4]; exact hb) hgl (by omega) _).mono ?_
          rintro _ W9 ⟨e9, rfl⟩; subst W9
          simp [h6, h63, m1, i1]; exact hR) ?_
      try simp only [wpK_assoc]
      first | refine wpK_onT (by simp []) ?_ | refine wpK_outT (by simp []) ?_ | refine wpK_condT (by simp []) ?_ | refine wpK_endT (by simp []) ?_
      try simp only [wpK_assoc]
      refine wpK_reg (fun R hR => by simp []; exact hR) ?_
      exact wpK_ret (hRt _ _ ⟨rfl, hEW4, by simp, by simp, fun hg => by
        have := hg.2 i (by omega)
        rw [show ((N : Int)).toNat = N from by omega, hb] at this; cases this⟩)
    | false =>
      try simp only [wpK_assoc]
      refine wpK_reg (fun R hR => by
          simp [h6, h63, m1, i1, aEnter, fun60, short_other, aCallV]; rw [callS_none]
          refine (has_is (b := false) (by rw [hgb4]; exact hb) hgl (by omega) _).mono ?_
          rintro _ W9 ⟨e9, rfl⟩; subst W9
          simp [h6, h63, m1, i1]; exact hR) ?_
      try simp only [wpK_assoc]
      first | refine wpK_onF (by simp []) ?_ | refine wpK_out (by simp []) ?_ | refine wpK_condF (by simp []) ?_ | refine wpK_endF (by simp []) (wpK_skip ?_) | refine wpK_endF (by simp []) ?_
      simp only [leaves_normal, behind_normal]
      try simp only [wpK_assoc]
      refine wpK_reg1 (fun R hR => by simp [h63]; exact hR) ?_
      exact hI (N - (i + 1)) _ _ (by omega) ⟨rfl, rfl, by simp [h6, h62], by simp [h6, h62], rfl, i + 1, by simp [i64_succ i (by omega)], rfl, by omega, fun a ha => by
        by_cases e : a = i
        · rw [e]; exact hb
        · exact hir a (by omega)⟩
  · rintro A' W' ⟨r1, r2, r3, r4, r5⟩
    exact ⟨.inr rfl, r1, [.pointer none, .int .i64 41], by simp [r3, r4], r2, .inr ⟨r5, rfl⟩⟩
  rintro ⟨tm, n, ds⟩ W5 ⟨hn, hd, h6, h62, hW5, hir⟩
  simp only at hn hd h6 h62
  subst hn; subst hd
  subst hW5
  try simp only [wpK_assoc]
  refine wpK_reg (fun R hR => by simp [h6]; exact hR) ?_
  exact wpK_ret ⟨.inr rfl, rfl, [.pointer (some ⟨o, 0, none⟩), .int .i64 0], by simp, hEW4, .inl ⟨⟨hIn, fun a ha => by rw [show ((N : Int)).toNat = N from by omega] at ha ⊢; exact hir a ha⟩, o, g', by omega, rfl, hg4, hgb4⟩⟩
theorem arrange_ok {W : AW} {v : Value} {n : Nat} {es : List Edge} (h : PairR W v es) (hl : es.length < 4611686018427387904) (hT : tabsIn T0 T0.tabs W = true) (h0 : 0 < W.next) (hok : OrdOk (n : Int) es) :
    WpF T0 71 [.int .i64 (n : Int), v] W (fun u W' => Ext W W' ∧ ∃ o g, W.next ≤ o ∧ u = .tuple ⟨[.pointer (some ⟨o, 0, none⟩), .int .i64 0]⟩ ∧ OrdAt W' o n g ∧ ∀ a b, (g a).testBit b = relO n es a b) :=
  (arrange_wp (n : Int) h hl hT h0).mono (fun u W' ⟨h1, h2⟩ => ⟨h1, by
    rcases h2 with ⟨_, h2⟩ | ⟨h2, _⟩
    · exact h2
    · exact absurd hok h2⟩)
open Classical in
noncomputable def chkO (n : Int) (es : List Edge) : Int := if OrdOk n es then 0 else 41
theorem reverse_wp {W : AW} {o n : Nat} {f : Nat → Nat} (h : OrdAt W o n f) (hn : n ≤ 40) (hf : ∀ a b, (f a).testBit b = true → a < n ∧ b < n) (hT : tabsIn T0 T0.tabs W = true) (h0 : 0 < o) :
    WpF T0 73 [.pointer (some ⟨o, 0, none⟩)] W (fun v W' => Ext W W' ∧ ∃ o2 g, W.next ≤ o2 ∧ v = .pointer (some ⟨o2, 0, none⟩) ∧ OrdAt W' o2 n g ∧ ∀ a b, (g a).testBit b = (f b).testBit a) := by
  refine wpFd fun73 rfl ?_
  have ho : o < W.next := h.1
  have q2 := ord_n h
  obtain ⟨o2, ho2⟩ : ∃ o, o = W.next := ⟨_, rfl⟩
  obtain ⟨W1, hW1, hE1, hn1, hV1⟩ : ∃ W1, W1 = W.newCells 132 (.int .i64 (n : Int) :: zer40) ∧ Ext W W1 ∧ W1.next = W.next + 1 ∧ Var W1 W.next 132 (.int .i64 (n : Int) :: zer40) := ⟨_, rfl, .newCells _ _ _, rfl, Var.new _ _ _⟩
  rw [zer_sets, ← ho2] at hV1
  have hV1 : OrdAt W1 o2 n (fun _ => 0) := hV1
  obtain ⟨Wb, s1, s2, s3, s4⟩ := storeVar_new (T := T0) (W := W1) (t := 119) (z := [.pointer none]) (v := .pointer (some ⟨o2, 0, none⟩)) inf119 (by rw [is119]; rfl) (by rw [is119]; rfl) rfl
  have s4 : Var Wb W1.next 119 [.pointer (some ⟨o2, 0, none⟩)] := s4
  have nb := s3.1
  rw [ho2] at s1
  try simp only [wpK_assoc]
  refine wpK_reg (fun R hR => by simp []; exact hR) ?_
  try simp only [wpK_assoc]
  refine wpK_reg (fun R hR => by simp [q2, build132, ← hW1, zero119, s1]; exact hR) ?_
  try simp only [wpK_assoc]
  refine wpK_x0 (P := fun Wc => Ext Wb Wc ∧ Wc.next = Wb.next + 1 ∧ Wc.Has Wb.next 0 (.pointer (some ⟨o, 0, none⟩))) (fun R hR => by
    simp [aEnter, fun85, short_other, aCallV]; rw [callS_none]
    refine (pairs_wp o).mono ?_
    rintro _ Wc ⟨hEc, rfl, hnc, hBc⟩
    simp; exact hR Wc (And.intro hEc (And.intro hnc hBc))) ?_
  rintro Wc ⟨hEc, hnc, hBc⟩
  obtain ⟨p3, hp3⟩ : ∃ p, p = W1.next := ⟨_, rfl⟩
  rw [← hp3] at s4
  refine wpK_keep (fun tm' => tm'.get 3 = some (.pointer (some ⟨p3, 0, none⟩)) ∧ tm'.get 13 = some (.func (.func 91) ⟨[]⟩ ⟨[.pointer (some ⟨Wb.next, 0, none⟩)]⟩)) ⟨by simp [hp3], by simp⟩ ?_
  rintro tm ⟨h3, h13⟩
  refine wpK_range2 (f := 91) (first := ⟨[]⟩) (cap := ⟨[.pointer (some ⟨Wb.next, 0, none⟩)]⟩) (by simp [h13]) fun91 (fun W5 hn5 hW5 hdf hlp => ?_)
  obtain ⟨z, hz⟩ : ∃ z, z = Wc.next := ⟨_, rfl⟩
  rw [← hz] at hn5 hdf hlp
  have hEc5 : Ext Wc W5 := ⟨by omega, fun b hb _ => hW5 b hb⟩
  have hEb5 := hEc.trans hEc5
  have hE15 := s3.trans hEb5
  have hE05 := hE1.trans hE15
  have nc := hEc.1
  obtain ⟨S, hS⟩ : ∃ S : AW → Prop, S = fun V => W5.next ≤ V.next ∧ Only (fun b => W.next ≤ b) W V ∧ Var V p3 119 [.pointer (some ⟨o2, 0, none⟩)] ∧ V.Has Wb.next 0 (.pointer (some ⟨o, 0, none⟩)) ∧ V.blocks.get z = some ⟨.deferred (some []), []⟩ := ⟨_, rfl⟩
  have own : ∀ {V V' : AW} {K : Nat → Prop}, S V → Only K V V' → (∀ b, K b → b = o2 ∨ b = z + 1 ∨ W5.next ≤ b) → S V' := by
    intro V V' K hV he hK
    rw [hS] at hV ⊢
    obtain ⟨o1, o2', o3, o5, o6⟩ := hV
    have hk : ∀ b, b ≠ o2 → b ≠ z + 1 → b < W5.next → ¬ K b := fun b x1 x2 x3 x4 => by have := hK b x4; omega
    exact ⟨Nat.le_trans o1 he.1, o2'.trans (he.mono (fun b _ hb => by have := hK b hb; omega)), o3.only he (hk _ (by omega) (by omega) (by omega)), o5.only he (hk _ (by omega) (by omega) (by omega)), by rw [he.2 z (by omega) (hk _ (by omega) (by omega) (by omega))]; exact o6⟩
  have own5 : S W5 := by
    rw [hS]
    exact ⟨Nat.le_refl _, Only.wide hE05, s4.ext hEb5, hBc.ext hEc5, hdf⟩
  have lt5 : ∀ (g : Nat → Nat) (P : Nat → Nat → Prop) [∀ p c, Decidable (P p c)], (∀ p c, (g p).testBit c = ((f c).testBit p && decide (P p c))) → ∀ p, g p < 1099511627776 := fun g P _ hg p => lt40 fun b hb => by
    rw [hg] at hb
    simp only [Bool.and_eq_true] at hb
    have := (hf _ _ hb.1).1; omega
  have hfl : ∀ a, f a < 1099511627776 := fun a => lt40 fun b hb => by have := (hf _ _ hb).2; omega
  have hsrc : ∀ V, S V → OrdAt V o n f := fun V hV => by rw [hS] at hV; exact h.only hV.2.1 (by omega)
  refine (pairs1_wp (l := Wc.next + 1) (b1 := Wb.next) (o := o) (n := n) (W0 := W5)
    (C := fun a x V => S V ∧ V.blocks.get (z + 1) = W5.blocks.get (z + 1) ∧ (∀ j, x.testBit j = true → (f a).testBit j = true) ∧ ∃ g, OrdAt V o2 n g ∧ ∀ p c, (g p).testBit c = ((f c).testBit p && decide (c < a ∨ (c = a ∧ x.testBit p = false))))
    (E := fun a V => S V ∧ V.blocks.get (z + 1) = W5.blocks.get (z + 1) ∧ ∃ g, OrdAt V o2 n g ∧ ∀ p c, (g p).testBit c = ((f c).testBit p && decide (c < a)))
    (Kx := fun b => b = o2 ∨ b = z + 1) ⟨?_, ?_, ?_, ?_, ?_, ?_, ?_⟩ hn ⟨own5, rfl, _, hV1.ext hE15, fun p c => by simp⟩).mono ?_
  · rintro a x V V' ⟨d1, d2, d3, g', d4, d5⟩ he
    have d1' := d1; rw [hS] at d1'
    exact ⟨own d1 he (fun b hb => .inr (.inr hb)), by rw [he.2 (z + 1) (by have := d1'.1; omega) (by omega)]; exact d2, d3, g', d4.only he (by omega), d5⟩
  · rintro a V V' ⟨d1, d2, g', d4, d5⟩ he
    have d1' := d1; rw [hS] at d1'
    exact ⟨own d1 he (fun b hb => .inr (.inr hb)), by rw [he.2 (z + 1) (by have := d1'.1; omega) (by omega)]; exact d2, g', d4.only he (by omega), d5⟩
  · rintro a V ⟨d1, d2, g', d4, d5⟩
    have d1' := d1; rw [hS] at d1'
    refine ⟨d1'.1, by omega, d1'.2.2.2.1, by omega, by omega, f, hsrc V d1, fun ha => ⟨hfl a, d1, d2, fun j hj => hj, g', d4, fun p c => ?_⟩⟩
    rw [d5]
    by_cases e : c = a
    · rw [e]
      cases (f a).testBit p <;> simp
    · congr 1
      rw [Bool.eq_iff_iff]
      simp only [decide_eq_true_eq]
      exact ⟨.inl, fun hh => hh.elim id (fun e2 => absurd e2.1 e)⟩
  · rintro a x V ⟨d1, _⟩
    rw [hS] at d1
    exact ⟨d1.1, tabs_only hT (by omega) d1.2.1 (by omega)⟩
  · rintro a V ha ⟨d1, d2, d3, g', d4, d5⟩
    refine ⟨d1, d2, g', d4, fun p c => ?_⟩
    rw [d5]
    congr 1
    rw [Bool.eq_iff_iff]
    simp only [decide_eq_true_eq, Nat.zero_testBit, and_true]
    omega
  · intro b hb; omega
  · rintro a left kk V ha ⟨d1, d2, d3, g', d4, d5⟩ hl hb1 hb2
    have d1' := d1; rw [hS] at d1'
    obtain ⟨y1, y2, y3, y5, y6⟩ := d1'
    have hl' := d2.trans hlp
    rw [hz] at hl'
    have nv := y2.1
    have hkn := (hf _ _ (d3 kk hb1)).2
    refine ⟨_, _, _, _, _, _, _, _, _, _, (tm.set 14 (.int .i64 (a : Int))).set 15 (.int .i64 (kk : Int)), hl', rfl, ?_⟩
    refine wpR ?_
    try simp only [wpK_assoc]
    refine wpK_reg (fun R hR => by simp []; exact hR) ?_
    try simp only [wpK_assoc]
    refine wpK_reg1 (fun R hR => by simp []; exact hR) ?_
    refine ⟨rfl, _, _, _, _, _, _, _, _, hl', ?_⟩
    rw [← hz] at hl' ⊢
    generalize hbz : (AObj.loop LoopState.busy _ _ _ _ _ _ _ _) = bz
    obtain ⟨Vy, hVy, hOy, hny⟩ : ∃ Vy, Vy = V.setObj (z + 1) bz ∧ Only (fun b => b = z + 1) V Vy ∧ Vy.next = V.next := ⟨_, rfl, setObj_only _ _ _, rfl⟩
    rw [← hVy]
    have hly : Vy.blocks.get (z + 1) = some ⟨bz, []⟩ := by rw [hVy, setObj_get, if_pos rfl]
    have own1 := own d1 hOy (fun b hb => .inr (.inl hb))
    have d4y := d4.only hOy (by omega)
    have d1y := own1; rw [hS] at d1y
    obtain ⟨u1, u2, u3, u5, u6⟩ := d1y
    have e1 := u3.load1 (T := T0) und119 rfl (j := 0) (v := .pointer (some ⟨o2, 0, none⟩)) rfl
    have m1 := ord_set d4y (j := kk) (by omega)
    have i1 := ix106 o2 1 kk (by omega)
    have hg5 := lt5 g' _ d5
    have h64 : (1 <<< a : Nat) < 18446744073709551616 := by rw [Nat.one_shiftLeft]; exact Nat.lt_trans (Nat.pow_lt_pow_right (by omega) (show a < 40 by omega)) (by decide)
    have hor := aBinI_or .u64 (g' kk) (1 <<< a) (by have := hg5 kk; show g' kk < 18446744073709551616; omega) h64
    obtain ⟨Vz, w1, w2, w3, w4⟩ := ord_put d4y (j := kk) (by omega) (g' kk ||| 1 <<< a)
    generalize hx : g' kk ||| 1 <<< a = x at hor w1 w4
    have nw := w3.1
    have ho1 := one_wp a (by omega) Vy
    generalize hg1 : (1 <<< a : Nat) = a1 at hor ho1
    refine wpK_block1 ?_
    try simp only [wpK_assoc]
    refine wpK_qn (wr := Tr.nil |>.set 16 0 |>.set 17 1 |>.set 18 2 |>.set 19 3 |>.set 20 4 |>.set 21 5 |>.set 22 6 |>.set 23 7 |>.set 24 8 |>.set 25 9 |>.set 26 10 |>.set 27 11) (bits := Tr.nil.lay 0 [0, 0, 1, 5, 15, 31, 0, 64, 255, 1, 513, 2047, 4095]) (ord := [0, 1, 2, 3, 4, 5, 6, 7, 8, 9, 10, 11, 12]) (by kernel_rfl) (by kernel_rfl) (by kernel_rfl) (fun G hG => by
      simp [h3, e1, m1, i1, aEnter, fun68, short_other, aCallV]
      rw [dcallS_none]
      refine ho1.mono ?_
      rintro _ W9 ⟨e9, rfl⟩; subst W9
      simp [h3, e1, m1, i1, hor, w1, nw]
      exact hG) ?_
    simp only [leaves_normal]
    have hlz : Vz.blocks.get (z + 1) = some ⟨bz, []⟩ := by rw [w3.2 (z + 1) (by omega) (by omega)]; exact hly
    have ownz := own own1 w3 (fun b hb => .inl hb)
    subst hbz
    refine ⟨_, _, _, _, _, _, _, _, _, hlz, ⟨by rw [setObj_next]; omega, fun b hb hk => by rw [setObj_get, if_neg (by omega), w3.2 b (by omega) (by omega), hOy.2 b hb (by omega)]⟩, rfl, own ownz (setObj_only Vz (z + 1) _) (fun b hb => .inr (.inl hb)), by rw [setObj_get, if_pos rfl]; exact hlp.symm, fun j hj => ?_, updN g' kk x, w4.only (setObj_only Vz (z + 1) _) (by omega), fun p c => ?_⟩
    · rw [dropLow_bit hb1 hb2] at hj
      simp only [Bool.and_eq_true] at hj
      exact d3 j hj.1
    · have hd := dropLow_bit hb1 hb2 p
      rw [hd]
      by_cases e : p = kk
      · subst e
        simp only [updN, if_true]
        rw [← hx, bit_add, d5, hb1]
        by_cases e2 : c = a
        · subst e2
          rw [d3 p hb1]; simp
        · congr 1
          simp [e2]
      · simp only [updN, if_neg e]
        rw [d5, decide_eq_true (show p ≠ kk from e), Bool.and_true]
  · rintro _ W6 ⟨d1, d2, g', d4, d5⟩
    have hl6 := d2.trans hlp
    rw [hz] at hl6
    refine ⟨_, _, _, _, _, _, _, _, _, hl6, (fun h => by cases h), ?_⟩
    rw [← hz]
    show WpK T0 ⟨73, none⟩ _ _ _ _
    generalize hex : (AObj.loop LoopState.exhausted _ _ _ _ _ _ _ _) = ex
    obtain ⟨W7, hW7, hO7⟩ : ∃ W7, W7 = W6.setObj (z + 1) ex ∧ Only (fun b => b = z + 1) W6 W7 := ⟨_, rfl, setObj_only _ _ _⟩
    rw [← hW7]
    have own7 := own d1 hO7 (fun b hb => .inr (.inl hb))
    rw [hS] at own7
    obtain ⟨u1, u2, u3, u5, u6⟩ := own7
    have e1 := u3.load1 (T := T0) und119 rfl (j := 0) (v := .pointer (some ⟨o2, 0, none⟩)) rfl
    try simp only [wpK_assoc]
    refine wpK_reg (fun R hR => by simp [h3, e1]; exact hR) ?_
    refine wpK_ret ⟨.inr rfl, W7.setObj z (.deferred none), ⟨z, by simp [hz], u6, rfl⟩, [.pointer (some ⟨o2, 0, none⟩)], by simp, ⟨by rw [setObj_next]; have := u2.1; omega, fun b hb _ => by rw [setObj_get, if_neg (by omega)]; exact u2.2 b hb (by omega)⟩, o2, g', by omega, rfl, (d4.only hO7 (by omega)).only (setObj_only _ _ _) (by omega), fun p c => ?_⟩
    rw [d5]
    cases e : (f c).testBit p with
    | false => rfl
    | true => rw [decide_eq_true (hf _ _ e).1]; rfl
def numL (n : Nat) (g : Nat → Nat) : List Value := natsV ((List.range n).map g)
theorem numL_len (n : Nat) (g : Nat → Nat) : (numL n g).length = n := by simp [numL, natsV]
theorem numL_at {n : Nat} (g : Nat → Nat) {j : Nat} (h : j < n) : (numL n g)[j]? = some (.int .i64 (g j : Nat)) := by
  simp only [numL, natsV, List.getElem?_map, List.getElem?_range h]; rfl
theorem numL_set {n : Nat} (g : Nat → Nat) {j : Nat} (x : Nat) : (numL n g).set j (.int .i64 (x : Nat)) = numL n (updN g j x) := by
  apply List.ext_getElem?
  intro i
  rw [List.getElem?_set]
  by_cases hi : i < n
  · rw [numL_at _ hi, numL_at _ hi, numL_len]
    by_cases e : j = i
    · subst e; rw [if_pos rfl, if_pos hi]; simp [updN]
    · rw [if_neg e]; simp only [updN, if_neg (Ne.symm e)]
  · rw [List.getElem?_eq_none (by rw [numL_len]; omega), List.getElem?_eq_none (by rw [numL_len]; omega)]
    split
    · rw [numL_len, if_neg (by omega)]
    · rfl
theorem numL_congr {n : Nat} {g g' : Nat → Nat} (h : ∀ j, j < n → g j = g' j) : numL n g = numL n g' := by
  unfold numL
  congr 1
  apply List.map_congr_left
  intro j hj
  rw [List.mem_range] at hj
  exact h j hj
abbrev NumsAt (W : AW) (b n : Nat) (g : Nat → Nat) : Prop := Var W b 3 (numL n g)
theorem NumsAt.congr {W : AW} {b n : Nat} {g g' : Nat → Nat} (h : NumsAt W b n g) (hg : ∀ j, j < n → g j = g' j) : NumsAt W b n g' := by
  unfold NumsAt at *; rw [← numL_congr hg]; exact h
theorem nums_load {W : AW} {b n : Nat} {g : Nat → Nat} (h : NumsAt W b n g) {j : Nat} (hj : j < n) : aLoadVar T0 W 3 b j = some (.int .i64 (g j : Nat)) := h.load1 (T := T0) und3 rfl (numL_at g hj)
theorem nums_put {W : AW} {b n : Nat} {g : Nat → Nat} (h : NumsAt W b n g) {j : Nat} (hj : j < n) (x : Nat) :
    ∃ W', aStoreVar T0 W 3 b j (.int .i64 (x : Nat)) = some W' ∧ W'.next = W.next ∧ Only (fun c => c = b) W W' ∧ NumsAt W' b n (updN g j x) := by
  obtain ⟨W', g1, g2, g3, g4⟩ := var_store1 (t := 3) (v := .int .i64 (x : Nat)) (o := j) h inf3 is3 rfl rfl (by rw [numL_len]; exact hj)
  rw [numL_set] at g4
  exact ⟨W', g1, g2, g3, g4⟩
theorem num_ix {b n j : Nat} (hj : j < n) : aIndexAddr T0 31 (rowV b n) (.int .i64 (j : Int)) = some (.pointer (some ⟨b, j, none⟩)) := by
  have := indexAddr_slice (T := T0) (t := 31) (e := 3) (sz := 1) und31 sz3 (b := b) (o := 0) (len := n) (c := 2 * n) (i := j) (k := .i64) hj
  rw [Nat.zero_add, Nat.mul_one] at this; exact this
theorem NumsAt.row {W : AW} {b n : Nat} {g : Nat → Nat} (h : NumsAt W b n g) : IntR W (rowV b n) (((List.range n).map g).map Int.ofNat) := by
  have e : numL n g = flatE (encI .i64) (((List.range n).map g).map Int.ofNat) := natsV_flat _
  unfold NumsAt at h
  rw [e] at h
  have := Var.row (c := 2 * n) encI_len h
  simpa [rowV] using this
theorem mkNums (W : AW) (n : Nat) (hn : n ≤ 64) : aMakeSlice T0 W 31 (.int .i64 (n : Int)) (.int .i64 (n : Int)) = some (rowV W.next n, W.newCells 3 (numL n (fun _ => 0))) := by
  show aMakeSlice T0 W 31 (.int .i64 (Int.ofNat n)) (.int .i64 (Int.ofNat n)) = _
  have h1 : n ≤ 4611686018427387904 := by omega
  have h2 : Tryd.t3.bytes * n ≤ 281474976710656 := by rw [by3]; omega
  have e : numL n (fun _ => 0) = List.replicate n (.int .i64 0) := by
    apply List.ext_getElem?
    intro i
    by_cases hi : i < n
    · rw [numL_at _ hi, List.getElem?_replicate, if_pos hi]; rfl
    · rw [List.getElem?_eq_none (by rw [numL_len]; omega), List.getElem?_eq_none (by simp; omega)]
  rw [e, ← rep_one _ rfl n]
  simp only [aMakeSlice, und31, inf3, z3, h1, h2, is3, ble_dec, acells, List.length_cons, List.length_nil, Nat.beq_refl, Nat.le_refl, decide_true]
  rfl
theorem heights_wp {W : AW} {o n : Nat} {g : Nat → Nat} {R : Nat → Nat → Bool} {H : Nat → Nat} (h : OrdAt W o n g) (hn : n ≤ 40) (hg : ∀ a b, (g a).testBit b = R a b) (hR : Ord n R) (hH : IsH n R H) (hT : tabsIn T0 T0.tabs W = true) (h0 : 0 < o) :
    WpF T0 74 [.pointer (some ⟨o, 0, none⟩)] W (fun v W' => Ext W W' ∧ ∃ b, W.next ≤ b ∧ v = rowV b n ∧ NumsAt W' b n H) := by
  refine wpFd fun74 rfl ?_
  have ho : o < W.next := h.1
  obtain ⟨c1, hc1⟩ : ∃ c, c = W.next := ⟨_, rfl⟩
  obtain ⟨W1, hW1, hE1, hV1, hn1⟩ : ∃ W1, W1 = W.newCells 119 [.pointer (some ⟨o, 0, none⟩)] ∧ Ext W W1 ∧ Var W1 c1 119 [.pointer (some ⟨o, 0, none⟩)] ∧ W1.next = W.next + 1 := ⟨_, rfl, .newCells _ _ _, by rw [hc1]; exact Var.new _ _ _, rfl⟩
  have q1 := hV1.load1 (T := T0) und119 rfl (j := 0) (v := .pointer (some ⟨o, 0, none⟩)) rfl
  have q2 := ord_n (h.ext hE1)
  have mk := mkNums W1 n (by omega)
  obtain ⟨bx, hbx⟩ : ∃ b, b = W1.next := ⟨_, rfl⟩
  obtain ⟨W2, hW2, hE2, hN2, hn2⟩ : ∃ W2, W2 = W1.newCells 3 (numL n (fun _ => 0)) ∧ Ext W1 W2 ∧ NumsAt W2 bx n (fun _ => 0) ∧ W2.next = W1.next + 1 := ⟨_, rfl, .newCells _ _ _, by rw [hbx]; exact Var.new _ _ _, rfl⟩
  rw [← hW2] at mk
  obtain ⟨W3, s1, s2, s3, s4⟩ := storeVar_new (T := T0) (W := W2) (t := 31) (z := [.slice none 0 0]) (v := rowV bx n) inf31 (by rw [is31]; rfl) (by rw [is31]; rfl) rfl
  have s4 : Var W3 W2.next 31 [rowV bx n] := s4
  rw [hbx] at s1
  rw [hc1] at q1
  try simp only [wpK_assoc]
  refine wpK_reg (fun R hR => by simp [← hW1]; exact hR) ?_
  try simp only [wpK_assoc]
  refine wpK_reg (fun R hR => by simp [q1, q2, opMakeSlice, mk, zero31, s1]; exact hR) ?_
  rw [← hc1] at q1
  have q13 := ((hV1.ext hE2).ext s3).load1 (T := T0) und119 rfl (j := 0) (v := .pointer (some ⟨o, 0, none⟩)) rfl
  have q23 := ord_n (((h.ext hE1).ext hE2).ext s3)
  obtain ⟨W4, x1, x2, x3, x4⟩ := storeVar_new (T := T0) (W := W3) (t := 96) (z := [.int .u64 0]) (v := .int .u64 ((2 ^ n - 1 : Nat) : Int)) inf96 (by rw [is96]; rfl) (by rw [is96]; rfl) rfl
  have x4 : Var W4 W3.next 96 [.int .u64 ((2 ^ n - 1 : Nat) : Int)] := x4
  have n3 := s3.1
  have n4 := x3.1
  rw [hc1] at q13
  have hbw := below_wp n (by omega) W3
  generalize hM : 2 ^ n - 1 = M at hbw x1 x4
  try simp only [wpK_assoc]
  refine wpK_reg (fun R hR => by
    simp [q13, q23, aEnter, fun75, short_other, aCallV]; rw [callS_none]
    refine hbw.mono ?_
    rintro _ W9 ⟨e9, rfl⟩; subst W9
    simp [zero96, x1]; exact hR) ?_
  obtain ⟨W5, y1, y2, y3, y4⟩ := storeVar_new (T := T0) (W := W4) (t := 3) (z := [.int .i64 0]) (v := .int .i64 0) inf3 (by rw [is3]; rfl) (by rw [is3]; rfl) rfl
  have y4 : Var W5 W4.next 3 [.int .i64 0] := y4
  have n5 := y3.1
  try simp only [wpK_assoc]
  refine wpK_reg (fun R hR => by simp [zero3, y1]; exact hR) ?_
  obtain ⟨p3, hp3⟩ : ∃ p, p = W2.next := ⟨_, rfl⟩
  obtain ⟨p4, hp4⟩ : ∃ p, p = W3.next := ⟨_, rfl⟩
  obtain ⟨p5, hp5⟩ : ∃ p, p = W4.next := ⟨_, rfl⟩
  rw [← hp3] at s4
  rw [← hp4] at x4
  rw [← hp5] at y4
  have hMb : ∀ r, M.testBit r = decide (r < n) := fun r => by rw [← hM, Nat.testBit_two_pow_sub_one]
  refine wpK_keep (fun tm' => tm'.get 1 = some (.pointer (some ⟨c1, 0, none⟩)) ∧ tm'.get 3 = some (.pointer (some ⟨p3, 0, none⟩)) ∧ tm'.get 4 = some (.pointer (some ⟨p4, 0, none⟩)) ∧ tm'.get 5 = some (.pointer (some ⟨p5, 0, none⟩))) ⟨by simp [hc1], by simp [hp3], by simp [hp4], by simp [hp5]⟩ ?_
  rintro tm ⟨h1, h3, h4, h5⟩
  have hE05 : Ext W W5 := ((((hE1.trans hE2).trans s3).trans x3).trans y3)
  -- what stands between the rounds: the heights below hh are known
  try simp only [wpK_assoc]
  refine wpK_while (I := fun q A' W' => A'.n = 45 ∧ A'.tmps.get 1 = some (.pointer (some ⟨c1, 0, none⟩)) ∧ A'.tmps.get 3 = some (.pointer (some ⟨p3, 0, none⟩)) ∧ A'.tmps.get 4 = some (.pointer (some ⟨p4, 0, none⟩)) ∧
      ∃ (hh pe L : Nat), A'.tmps.get 5 = some (.pointer (some ⟨pe, 0, none⟩)) ∧ q = n - hh ∧ hh ≤ n ∧ p4 < pe ∧ Marks p5 A'.defers W' ∧ Only (fun b => c1 ≤ b) W W' ∧ Var W' c1 119 [.pointer (some ⟨o, 0, none⟩)] ∧ Var W' p3 31 [rowV bx n] ∧ Var W' pe 3 [.int .i64 (hh : Int)] ∧ Var W' p4 96 [.int .u64 (L : Int)] ∧
        (∀ r, L.testBit r = true ↔ r < n ∧ hh ≤ H r) ∧ NumsAt W' bx n (fun r => if H r < hh then H r else 0))
    (J := fun A' W' => A'.n = 45 ∧ A'.tmps.get 3 = some (.pointer (some ⟨p3, 0, none⟩)) ∧ Marks p5 A'.defers W' ∧ Only (fun b => c1 ≤ b) W W' ∧ Var W' p3 31 [rowV bx n] ∧ NumsAt W' bx n H) (Rt := fun _ _ => False) (k := n) ?_ ?_ ?_ ?_
  · exact ⟨rfl, by simp [h1], by simp [h3], by simp [h4], 0, p5, M, by simp [h5], rfl, by omega, by omega, trivial, Only.wide hE05, hV1.ext (((hE2.trans s3).trans x3).trans y3), s4.ext (x3.trans y3), y4, x4.ext y3, fun r => by rw [hMb]; simp, NumsAt.congr (hN2.ext ((s3.trans x3).trans y3)) (fun j _ => by simp)⟩
  · rintro q ⟨tm, n', ds⟩ Wa ⟨hn', h1, h3, h4, hh, pe, L, h5, hq, hhn, hpe, hMk, hOa, va1, va3, va5, va4, hL, hNa⟩ Q' hJ hRt hI
    simp only at hn' h1 h3 h4 h5 hMk
    subst hn'
    have e4 := va4.load1 (T := T0) und96 rfl (j := 0) (v := .int .u64 (L : Int)) rfl
    have na := hOa.1
    by_cases hz : L = 0
    · subst hz
      try simp only [wpK_assoc]
      refine wpK_reg (fun R hR => by simp [h4, e4]; exact hR) ?_
      try simp only [wpK_assoc]
      first | refine wpK_onF (by simp []) ?_ | refine wpK_out (by simp []) ?_ | refine wpK_condF (by simp []) ?_ | refine wpK_endF (by simp []) (wpK_skip ?_) | refine wpK_endF (by simp []) ?_
      refine hJ _ _ ⟨rfl, by simp [h3], hMk, hOa, va3, NumsAt.congr hNa (fun r hr => ?_)⟩
      rw [if_pos]
      apply Classical.byContradiction
      intro hx
      have := (hL r).2 ⟨hr, by omega⟩
      simp at this
    have hz' : ¬ (L : Int) = 0 := by omega
    try simp only [wpK_assoc]
    refine wpK_reg (fun R hR => by simp [h4, e4, hz', hz]; exact hR) ?_
    try simp only [wpK_assoc]
    first | refine wpK_onT (by simp [hz]) ?_ | refine wpK_outT (by simp [hz]) ?_ | refine wpK_condT (by simp [hz]) ?_ | refine wpK_endT (by simp [hz]) ?_
    have hL40 : L < 1099511627776 := lt40 fun b hb => by have := ((hL b).1 hb).1; omega
    obtain ⟨kz, kz1, -⟩ := low_ex hz
    have hkz := (hL kz).1 kz1
    have hhlt : hh < n := by have := hH.lt hR hkz.1; omega
    refine wpK_block ?_
    -- those that are left, once more
    obtain ⟨Wb, t1, t2, t3, t4⟩ := storeVar_new (T := T0) (W := Wa) (t := 96) (z := [.int .u64 0]) (v := .int .u64 (L : Int)) inf96 (by rw [is96]; rfl) (by rw [is96]; rfl) rfl
    have t4 : Var Wb Wa.next 96 [.int .u64 (L : Int)] := t4
    try simp only [wpK_assoc]
    refine wpK_reg (fun R hR => by simp [h4, e4, zero96, t1]; exact hR) ?_
    have e6 := t4.load1 (T := T0) und96 rfl (j := 0) (v := .int .u64 (L : Int)) rfl
    try simp only [wpK_assoc]
    refine wpK_x0 (P := fun Wc => Ext Wb Wc ∧ Wc.Has Wb.next 0 (.int .u64 (L : Int))) (fun R hR => by
      simp [e6, aEnter, fun77, short_other, aCallV]; rw [callS_none]
      refine (places_wp L).mono ?_
      rintro _ Wc ⟨hEc, rfl, hBc⟩
      simp; exact hR Wc (And.intro hEc hBc)) ?_
    rintro Wc ⟨hEc, hBc⟩
    obtain ⟨p6, hp6⟩ : ∃ p, p = Wa.next := ⟨_, rfl⟩
    rw [← hp6] at t4
    refine wpK_keep (fun tm' => tm'.get 1 = some (.pointer (some ⟨c1, 0, none⟩)) ∧ tm'.get 3 = some (.pointer (some ⟨p3, 0, none⟩)) ∧ tm'.get 4 = some (.pointer (some ⟨p4, 0, none⟩)) ∧ tm'.get 5 = some (.pointer (some ⟨pe, 0, none⟩)) ∧ tm'.get 6 = some (.pointer (some ⟨p6, 0, none⟩)) ∧ tm'.get 24 = some (.func (.func 86) ⟨[]⟩ ⟨[.pointer (some ⟨Wb.next, 0, none⟩)]⟩)) ⟨by simp [h1], by simp [h3], by simp [h4], by simp [h5], by simp [hp6], by simp⟩ ?_
    rintro tm ⟨h1, h3, h4, h5, h6, h24⟩
    have nb := t3.1
    have nc := hEc.1
    have npe : pe < Wa.next := va5.1
    refine wpK_range3 (f := 86) (first := ⟨[]⟩) (cap := ⟨[.pointer (some ⟨Wb.next, 0, none⟩)]⟩) (by simp [h24]) fun86 (fun W6 hn6 hW6 hdf hlp => ?_)
    obtain ⟨z, hz9⟩ : ∃ z, z = Wc.next := ⟨_, rfl⟩
    rw [← hz9] at hn6 hdf hlp
    have hEc6 : Ext Wc W6 := ⟨by omega, fun b hb _ => hW6 b hb⟩
    have hEb6 := hEc.trans hEc6
    have hEa6 := t3.trans hEb6
    have hlow := hMk.low
    obtain ⟨S, hS⟩ : ∃ S : AW → Prop, S = fun V => W6.next ≤ V.next ∧ Only (fun b => c1 ≤ b) W V ∧ Var V c1 119 [.pointer (some ⟨o, 0, none⟩)] ∧ Var V p3 31 [rowV bx n] ∧ Var V pe 3 [.int .i64 (hh : Int)] ∧ Var V p6 96 [.int .u64 (L : Int)] ∧ V.blocks.get z = some ⟨.deferred (some []), []⟩ ∧ Marks p5 ds V := ⟨_, rfl⟩
    have own : ∀ {V V' : AW} {K : Nat → Prop}, S V → Only K V V' → (∀ b, K b → b = z + 1 ∨ W6.next ≤ b ∨ b = p4 ∨ b = bx) → S V' := by
      intro V V' K hV he hK
      rw [hS] at hV ⊢
      obtain ⟨o1, o2, o3, o4, o5, o6, o7, o8⟩ := hV
      have hk : ∀ b, b ≠ z + 1 → b < W6.next → b ≠ p4 → b ≠ bx → ¬ K b := fun b x1 x2 x3 x4 x5 => by have := hK b x5; omega
      refine ⟨Nat.le_trans o1 he.1, o2.trans (he.mono (fun b _ hb => by have := hK b hb; omega)), o3.only he (hk _ (by omega) (by omega) (by omega) (by omega)), o4.only he (hk _ (by omega) (by omega) (by omega) (by omega)), o5.only he (hk _ (by omega) (by omega) (by omega) (by omega)), o6.only he (hk _ (by omega) (by omega) (by omega) (by omega)), by rw [he.2 z (by omega) (hk _ (by omega) (by omega) (by omega) (by omega))]; exact o7, o8.only he (fun d hd r hr x1 x2 x3 => ?_)⟩
      have := hlow d hd r hr
      exact hk r (by omega) (by omega) (by omega) (by omega) x3
    have own6 : S W6 := by
      rw [hS]
      exact ⟨Nat.le_refl _, hOa.trans (Only.wide hEa6), va1.ext hEa6, va3.ext hEa6, va5.ext hEa6, t4.ext hEb6, hdf, hMk.ext hEa6⟩
    refine (places1_wp (l := Wc.next + 1) (bx := Wb.next) (x := L)
      (fun x V => S V ∧ V.blocks.get (z + 1) = W6.blocks.get (z + 1) ∧ (∀ r, x.testBit r = true → r < n ∧ hh ≤ H r) ∧ ∃ L', Var V p4 96 [.int .u64 ((L' : Nat) : Int)] ∧ (∀ r, L'.testBit r = true ↔ r < n ∧ hh ≤ H r ∧ ¬ (H r = hh ∧ x.testBit r = false)) ∧ NumsAt V bx n (fun r => if H r < hh ∨ (H r = hh ∧ x.testBit r = false) then H r else 0))
      (by omega) (fun left k V hC hl hb1 hb2 => ?_) ⟨own6, rfl, fun r hr => (hL r).1 hr, L, va4.ext hEa6, fun r => ?_, NumsAt.congr (hNa.ext hEa6) (fun r hr => ?_)⟩ (hBc.ext hEc6)).mono ?_
    · obtain ⟨d1, d2, d3, L', d4, d5, d6⟩ := hC
      have d1' := d1; rw [hS] at d1'
      obtain ⟨y1, y2, y3, y4, y5, y6, y7, y8⟩ := d1'
      have hl' := d2.trans hlp
      rw [hz9] at hl'
      have nv := y2.1
      have hkn := d3 k hb1
      refine ⟨tabs_only hT (by omega) y2 (by omega), _, _, _, _, _, _, _, _, _, _, tm.set 25 (.int .i64 (k : Nat)), hl', rfl, ?_⟩
      refine wpR ?_
      try simp only [wpK_assoc]
      refine wpK_reg1 (fun R hR => by simp []; exact hR) ?_
      refine ⟨rfl, _, _, _, _, _, _, _, _, hl', ?_⟩
      rw [← hz9] at hl' ⊢
      generalize hbz : (AObj.loop LoopState.busy _ _ _ _ _ _ _ _) = bz
      obtain ⟨Vy, hVy, hOy, hny⟩ : ∃ Vy, Vy = V.setObj (z + 1) bz ∧ Only (fun b => b = z + 1) V Vy ∧ Vy.next = V.next := ⟨_, rfl, setObj_only _ _ _, rfl⟩
      rw [← hVy]
      have hly : Vy.blocks.get (z + 1) = some ⟨bz, []⟩ := by rw [hVy, setObj_get, if_pos rfl]
      have own1 := own d1 hOy (fun b hb => .inl hb)
      have d4y := d4.only hOy (by omega)
      have d6y := d6.only hOy (by omega)
      have d1y := own1; rw [hS] at d1y
      obtain ⟨u1, u2, u3, u4, u5, u6, u7, u8⟩ := d1y
      have hoy := h.only u2 (by omega)
      have e1 := u3.load1 (T := T0) und119 rfl (j := 0) (v := .pointer (some ⟨o, 0, none⟩)) rfl
      have e3 := u4.load1 (T := T0) und31 rfl (j := 0) (v := rowV bx n) rfl
      have e5 := u5.load1 (T := T0) und3 rfl (j := 0) (v := .int .i64 (hh : Int)) rfl
      have e6 := u6.load1 (T := T0) und96 rfl (j := 0) (v := .int .u64 (L : Int)) rfl
      have m1 := ord_set hoy (j := k) (by omega)
      have i1 := ix106 o 1 k (by omega)
      have hg40 : g k < 1099511627776 := lt40 fun b hb => by rw [hg] at hb; have := (hR.lt hb).2; omega
      have hand := aBinI_and .u64 (g k) L (by show g k < 18446744073709551616; omega) (by show L < 18446744073709551616; omega)
      have hzero : g k &&& L = 0 ↔ H k = hh := by
        constructor
        · intro e
          rcases (hH k hkn.1).2 with e0 | ⟨b, hRb, eb⟩
          · omega
          · apply Classical.byContradiction
            intro hne
            have hb3 : (g k &&& L).testBit b = true := by
              rw [Nat.testBit_and, hg, hRb, (hL b).2 ⟨(hR.lt hRb).2, by omega⟩]; rfl
            rw [e] at hb3; simp at hb3
        · intro e
          apply Nat.eq_of_testBit_eq
          intro b
          rw [Nat.testBit_and, hg, Nat.zero_testBit]
          cases hRb : R k b with
          | false => rfl
          | true =>
            have h1 := (hH k hkn.1).1 b hRb
            cases hLb : L.testBit b with
            | false => rfl
            | true => have := ((hL b).1 hLb).2; omega
      generalize hx : g k &&& L = x at hand hzero
      refine wpK_block1 ?_
      by_cases hk : H k = hh
      · have hx0 : x = 0 := hzero.2 hk
        have hx1 : (x : Int) = 0 := by omega
        try simp only [wpK_assoc]
        refine wpK_dn (wr := Tr.nil |>.set 26 0 |>.set 27 1 |>.set 28 2 |>.set 29 3 |>.set 30 4 |>.set 31 5 |>.set 32 6 |>.set 33 7 |>.set 34 8) (bits := Tr.nil.lay 0 [0, 0, 1, 5, 15, 31, 0, 127, 255]) (ord := [0, 1, 2, 3, 4, 5, 6, 7, 8]) (by kernel_rfl) (by kernel_rfl) (by kernel_rfl) (fun G hG => by
          simp [h1, h6, e1, e6, m1, i1, hand, hx1]
          exact hG) ?_
        try simp only [wpK_assoc]
        first | refine wpK_onT (by simp [hx1]) ?_ | refine wpK_outT (by simp [hx1]) ?_ | refine wpK_condT (by simp [hx1]) ?_ | refine wpK_endT (by simp [hx1]) ?_
        obtain ⟨Vz, w1, w2, w3, w4⟩ := nums_put d6y (j := k) hkn.1 hh
        have ni := num_ix (b := bx) (n := n) hkn.1
        have ownz := own own1 w3 (fun b hb => .inr (.inr (.inr hb)))
        try simp only [wpK_assoc]
        refine wpK_reg (fun R hR => by simp [h3, h5, e3, e5, ni, w1]; exact hR) ?_
        have d4z := d4y.only w3 (by omega)
        have e4 := d4z.load1 (T := T0) und96 rfl (j := 0) (v := .int .u64 ((L' : Nat) : Int)) rfl
        have hL'40 : L' < 1099511627776 := lt40 fun b hb => by have := ((d5 b).1 hb).1; omega
        have h64 : (1 <<< k : Nat) < 18446744073709551616 := by rw [Nat.one_shiftLeft]; exact Nat.lt_trans (Nat.pow_lt_pow_right (by omega) (show k < 40 by omega)) (by decide)
        obtain ⟨L2, n1, n2, n3'⟩ := aBinI_andNot .u64 L' (1 <<< k) (by show L' < 18446744073709551616; omega) h64
        have n3k : ∀ i, L2.testBit i = (L'.testBit i && !decide (i = k)) := fun i => by
          rw [n3', Nat.one_shiftLeft, Nat.testBit_two_pow]
          congr 2
          rw [Bool.eq_iff_iff]; simp only [decide_eq_true_eq]; omega
        clear n3'
        obtain ⟨Vq, r1, r2, r3, r4⟩ := var_store1 (t := 96) (v := .int .u64 ((L2 : Nat) : Int)) (o := 0) d4z inf96 is96 rfl rfl (by simp)
        have r4 : Var Vq p4 96 [.int .u64 ((L2 : Nat) : Int)] := by simpa using r4
        have nq := r3.1
        have ho1 := one_wp k (by omega) Vz
        generalize hg1 : (1 <<< k : Nat) = k1 at n2 ho1
        try simp only [wpK_assoc]
        refine wpK_qn (wr := Tr.nil |>.set 39 0 |>.set 40 1 |>.set 41 2 |>.set 42 3) (bits := Tr.nil.lay 0 [0, 0, 2, 7, 15]) (ord := [0, 1, 2, 3, 4]) (by kernel_rfl) (by kernel_rfl) (by kernel_rfl) (fun G hG => by
          simp [h4, e4, aEnter, fun68, short_other, aCallV]
          rw [dcallS_none]
          refine ho1.mono ?_
          rintro _ W9 ⟨e9, rfl⟩; subst W9
          simp [h4, e4, n2, r1, nq]
          exact hG) ?_
        simp only [leaves_normal]
        have hlq : Vq.blocks.get (z + 1) = some ⟨bz, []⟩ := by rw [r3.2 (z + 1) (by have := w3.1; omega) (by omega), w3.2 (z + 1) (by omega) (by omega)]; exact hly
        have ownq := own ownz r3 (fun b hb => .inr (.inr (.inl hb)))
        subst hbz
        have hset := setObj_only Vq (z + 1)
        refine ⟨_, _, _, _, _, _, _, _, _, hlq, rfl, own ownq (hset _) (fun b hb => .inl hb), by rw [setObj_get, if_pos rfl]; exact hlp.symm, fun r hr => ?_, L2, r4.only (hset _) (by omega), fun r => ?_, NumsAt.congr ((w4.only r3 (by omega)).only (hset _) (by omega)) (fun r hr => ?_)⟩
        · rw [dropLow_bit hb1 hb2] at hr
          simp only [Bool.and_eq_true] at hr
          exact d3 r hr.1
        · have hd := dropLow_bit hb1 hb2 r
          rw [n3k, hd]
          simp only [Bool.and_eq_true, d5, Bool.not_eq_true', decide_eq_false_iff_not, Bool.and_eq_false_iff, ne_eq, Decidable.not_not]
          by_cases e : r = k
          · subst e; simp [hk]
          · simp [e]
        · simp only [updN]
          have hd := dropLow_bit hb1 hb2 r
          by_cases e : r = k
          · subst e
            rw [if_pos rfl, if_pos (.inr ⟨hk, by rw [hd]; simp⟩), hk]
          · rw [if_neg e, hd, decide_eq_true (show r ≠ k from e), Bool.and_true]
      · have hx0 : x ≠ 0 := fun e => hk (hzero.1 e)
        have hx1 : ¬ (x : Int) = 0 := by omega
        try simp only [wpK_assoc]
        refine wpK_dn (wr := Tr.nil |>.set 26 0 |>.set 27 1 |>.set 28 2 |>.set 29 3 |>.set 30 4 |>.set 31 5 |>.set 32 6 |>.set 33 7 |>.set 34 8) (bits := Tr.nil.lay 0 [0, 0, 1, 5, 15, 31, 0, 127, 255]) (ord := [0, 1, 2, 3, 4, 5, 6, 7, 8]) (by kernel_rfl) (by kernel_rfl) (by kernel_rfl) (fun G hG => by
          simp [h1, h6, e1, e6, m1, i1, hand, hx1, hx0]
          exact hG) ?_
        try simp only [wpK_assoc]
        first | refine wpK_onF (by simp [hx1, hx0]) ?_ | refine wpK_out (by simp [hx1, hx0]) ?_ | refine wpK_condF (by simp [hx1, hx0]) ?_ | refine wpK_endF (by simp [hx1, hx0]) (wpK_skip ?_) | refine wpK_endF (by simp [hx1, hx0]) ?_
        simp only [leaves_normal]
        subst hbz
        have hset := setObj_only Vy (z + 1)
        refine ⟨_, _, _, _, _, _, _, _, _, hly, rfl, own own1 (hset _) (fun b hb => .inl hb), by rw [setObj_get, if_pos rfl]; exact hlp.symm, fun r hr => ?_, L', d4y.only (hset _) (by omega), fun r => ?_, NumsAt.congr (d6y.only (hset _) (by omega)) (fun r hr => ?_)⟩
        · rw [dropLow_bit hb1 hb2] at hr
          simp only [Bool.and_eq_true] at hr
          exact d3 r hr.1
        · rw [d5, dropLow_bit hb1 hb2]
          by_cases e : r = k
          · subst e; simp [hk]
          · simp [e]
        · show (if _ then _ else _) = (if _ then _ else _)
          rw [dropLow_bit hb1 hb2]
          by_cases e : r = k
          · subst e; simp [hk]
          · simp [e]
    · rw [hL]
      constructor
      · rintro ⟨a1, a2⟩
        refine ⟨a1, a2, fun hh2 => ?_⟩
        rw [(hL r).2 ⟨a1, a2⟩] at hh2; cases hh2.2
      · rintro ⟨a1, a2, _⟩; exact ⟨a1, a2⟩
    · show (if _ then _ else _) = (if _ then _ else _)
      by_cases e : H r < hh
      · rw [if_pos e, if_pos (.inl e)]
      · rw [if_neg e, if_neg]
        rintro (e2 | ⟨e2, e3⟩)
        · exact e e2
        · rw [(hL r).2 ⟨hr, by omega⟩] at e3; cases e3
    · rintro _ W7 ⟨d1, d2, d3, L', d4, d5, d6⟩
      have hl7 := d2.trans hlp
      rw [hz9] at hl7
      refine ⟨_, _, _, _, _, _, _, _, _, hl7, (fun h => by cases h), ?_⟩
      rw [← hz9]
      generalize hex : (AObj.loop LoopState.exhausted _ _ _ _ _ _ _ _) = ex
      obtain ⟨W8, hW8, hO8⟩ : ∃ W8, W8 = W7.setObj (z + 1) ex ∧ Only (fun b => b = z + 1) W7 W8 := ⟨_, rfl, setObj_only _ _ _⟩
      rw [← hW8]
      have own8 := own d1 hO8 (fun b hb => .inl hb)
      have n8 := hO8.1
      rw [hS] at own8
      obtain ⟨u1, u2, u3, u4, u5, u6, u7, u8⟩ := own8
      have d4z := d4.only hO8 (by omega)
      have d6z := d6.only hO8 (by omega)
      simp only [goOn, leaves_normal, behind_normal]
      have e5 := u5.load1 (T := T0) und3 rfl (j := 0) (v := .int .i64 (hh : Int)) rfl
      obtain ⟨W9, g1, g2, g3, g4⟩ := storeVar_new (T := T0) (W := W8) (t := 3) (z := [.int .i64 0]) (v := .int .i64 (hh : Int)) inf3 (by rw [is3]; rfl) (by rw [is3]; rfl) rfl
      have g4 : Var W9 W8.next 3 [.int .i64 (hh : Int)] := g4
      have e59 := g4.load1 (T := T0) und3 rfl (j := 0) (v := .int .i64 (hh : Int)) rfl
      obtain ⟨W10, k1, k2, k3, k4⟩ := var_store1 (t := 3) (v := .int .i64 ((hh : Int) + 1)) (o := 0) g4 inf3 is3 rfl rfl (by simp)
      have k4 : Var W10 W8.next 3 [.int .i64 ((hh + 1 : Nat) : Int)] := by rw [show ((hh + 1 : Nat) : Int) = (hh : Int) + 1 from by omega]; simpa using k4
      have hw1 := i64_succ hh (by omega)
      have n9 := g3.1
      try simp only [wpK_assoc]
      refine wpK_reg (fun R hR => by simp [h5, e5]; exact hR) ?_
      try simp only [wpK_assoc]
      refine wpK_reg (fun R hR => by simp [zero3, g1]; exact hR) ?_
      try simp only [wpK_assoc]
      refine wpK_reg1 (fun R hR => by simp [e59, hw1, k1]; exact hR) ?_
      have hE810 : Only (fun b => W8.next ≤ b) W8 W10 := (Only.wide g3).trans (k3.mono (fun b _ e => by omega))
      have u8' := u8.only hE810 (fun d hd r hr _ hlt hk => by omega)
      have := u2.1
      refine hI (n - (hh + 1)) _ _ (by omega) ⟨rfl, by simp [h1], by simp [h3], by simp [h4], hh + 1, W8.next, L', by simp, rfl, by omega, by omega, ⟨z, rfl, by omega, by have := hE810.1; omega, by rw [hE810.2 z (by omega) (by omega)]; exact u7, fun d hd e => ?_, u8'⟩, u2.trans (hE810.mono (fun b _ e => by omega)), u3.only hE810 (by omega), u4.only hE810 (by omega), k4, d4z.only hE810 (by omega), fun r => ?_, NumsAt.congr (d6z.only hE810 (by omega)) (fun r hr => ?_)⟩
      · have := hlow d hd z e; omega
      · rw [d5]; simp; omega
      · show (if _ then _ else _) = (if _ then _ else _)
        simp only [Nat.zero_testBit, and_true]
        by_cases e : H r < hh + 1
        · rw [if_pos e, if_pos (by omega)]
        · rw [if_neg e, if_neg (by omega)]
  · rintro A' W' hf; exact hf.elim
  · rintro ⟨tm, n', ds⟩ W' ⟨j1, j2, j3, j4, j5, j6⟩
    simp only at j1 j2 j3
    subst j1
    have e3 := j5.load1 (T := T0) und31 rfl (j := 0) (v := rowV bx n) rfl
    try simp only [wpK_assoc]
    refine wpK_reg (fun R hR => by simp [j2, e3]; exact hR) ?_
    obtain ⟨W'', g1, g2⟩ := j3.collects
    refine wpK_ret ⟨.inr rfl, W'', g1, [rowV bx n], by simp, ⟨by have := j4.1; have := g2.1; omega, fun b hb hk => ?_⟩, bx, by omega, rfl, j6.only g2 (by omega)⟩
    rw [g2.2 b (by have := j4.1; omega) (by omega), j4.2 b hb (by omega)]
theorem levels_ok {W : AW} {v : Value} {n : Nat} {es : List Edge} {H : Nat → Nat} (h : PairR W v es) (hl : es.length < 4611686018427387904) (hT : tabsIn T0 T0.tabs W = true) (h0 : 0 < W.next) (hok : OrdOk (n : Int) es) (hH : IsH n (fun a b => relO n es b a) H) :
    WpF T0 46 [.int .i64 (n : Int), v] W (fun u W' => Ext W W' ∧ ∃ b, W.next ≤ b ∧ u = .tuple ⟨[rowV b n, .int .i64 0]⟩ ∧ NumsAt W' b n H) := by
  refine wpF fun46 rfl ?_
  have hn := hok.1.2.1
  have hord := hok.ord
  try simp only [wpK_assoc]
  refine wpK_reg (fun R hR => by simp []; exact hR) ?_
  try simp only [wpK_assoc]
  refine wpK_x2 (fun R hR => by
      simp [opExtract, aExtract, aEnter, fun71, short_other, aCallV]; rw [callS_none]
      refine (arrange_ok h hl hT h0 hok).mono ?_
      rintro _ W2 ⟨hE2, o, g, ho, rfl, hOr, hgb⟩
      simp [opExtract, aExtract]; exact hR o g W2 (And.intro hE2 (And.intro ho (And.intro hOr hgb)))) ?_
  rintro o g W2 ⟨hE2, ho, hOr, hgb⟩
  have n2 := hE2.1
  try simp only [wpK_assoc]
  refine wpK_reg (fun R hR => by simp []; exact hR) ?_
  try simp only [wpK_assoc]
  first | refine wpK_onF (by simp []) ?_ | refine wpK_out (by simp []) ?_ | refine wpK_condF (by simp []) ?_ | refine wpK_endF (by simp []) (wpK_skip ?_) | refine wpK_endF (by simp []) ?_
  try simp only [wpK_assoc]
  refine wpK_x2 (P := fun (o2 b : Nat) W4 => Ext W2 W4 ∧ W2.next ≤ b ∧ NumsAt W4 b n H) (fun R hR => by
    simp [aEnter, fun73, short_other, aCallV]; rw [callS_none]
    refine (reverse_wp hOr (by omega) (fun a b e => hord.lt (by rw [← hgb]; exact e)) (tabs_ext hT h0 hE2) (by omega)).mono ?_
    rintro _ W3 ⟨hE3, o2, g2, ho2, rfl, hOr2, hgb2⟩
    simp [aEnter, fun74, short_other, aCallV]; rw [callS_none]
    have n3 := hE3.1
    refine (heights_wp hOr2 (by omega) (fun a b => (hgb2 a b).trans (hgb b a)) hord.rev hH (tabs_ext (tabs_ext hT h0 hE2) (by omega) hE3) (by omega)).mono ?_
    rintro _ W4 ⟨hE4, b, hb, rfl, hN⟩
    simp
    exact hR o2 b W4 (And.intro (hE3.trans hE4) (And.intro (by omega) hN))) ?_
  rintro o2 b W4 ⟨hE4, hb, hN⟩
  exact wpK_ret ⟨.inr rfl, rfl, [rowV b n, .int .i64 0], by simp, hE2.trans hE4, b, by omega, rfl, hN⟩
end Go.Proofs.YtdpnplanohgecaaDoor