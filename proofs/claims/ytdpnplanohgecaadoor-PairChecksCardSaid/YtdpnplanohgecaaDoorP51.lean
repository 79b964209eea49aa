import Derived.Test.YtdpnplanohgecaaDoorPt1
import Derived.Test.YtdpnplanohgecaaDoorEngWy
import Derived.Test.YtdpnplanohgecaaDoorEngPm
import Derived.Test.YtdpnplanohgecaaDoorEngBt
import Derived.KernelRfl
import Derived.Test.YtdpnplanohgecaaDoorEngRw
import Derived.Test.YtdpnplanohgecaaDoorEngRf
import Derived.Test.YtdpnplanohgecaaDoorEngAt
import Derived.Test.YtdpnplanohgecaaDoorEngEm
import Derived.Test.YtdpnplanohgecaaDoorTie
import Derived.Test.YtdpnplanohgecaaDoorCards
import Derived.SevenTiedAt
import Derived.Lib.SmallJoins
set_option linter.unusedSimpArgs false
set_option linter.unusedVariables false
set_option linter.unusedSectionVars false
open Go Go.Eng
namespace Go.Proofs.YtdpnplanohgecaaDoor
theorem und2 : T0.und.get 2 = some (.int .i64) := by kernel_rfl
theorem z2 : Tryd.t2.zero = some (.int .i64 0) := by kernel_rfl
theorem und3 : T0.und.get 3 = some (.int .i64) := by kernel_rfl
theorem sz3 : aSize T0 3 = some 1 := by kernel_rfl
theorem inf3 : T0.info.get 3 = some Tryd.t3 := by kernel_rfl
theorem is3 : Tryd.t3.size = 1 := by kernel_rfl
theorem by3 : Tryd.t3.bytes = 8 := by kernel_rfl
theorem zero3 : aZero T0 3 = some (.int .i64 0) := by kernel_rfl
theorem z3 : Tryd.t3.zero = some (.int .i64 0) := by kernel_rfl
theorem und4 : T0.und.get 4 = some .bool := by kernel_rfl
theorem z4 : Tryd.t4.zero = some (.bool false) := by kernel_rfl
theorem und5 : T0.und.get 5 = some (.int .u8) := by kernel_rfl
theorem z5 : Tryd.t5.zero = some (.int .u8 0) := by kernel_rfl
theorem und9 : T0.und.get 9 = some .string := by kernel_rfl
theorem und12 : T0.und.get 12 = some (.int .u64) := by kernel_rfl
theorem field13_0 (b o : Nat) : aField T0 13 (.pointer (some ⟨b, o, none⟩)) 0 = some (.pointer (some ⟨b, o, none⟩)) := by rfl
theorem field13_1 (b o : Nat) : aField T0 13 (.pointer (some ⟨b, o, none⟩)) 1 = some (.pointer (some ⟨b, o + 1, none⟩)) := by rfl
theorem und21 : T0.und.get 21 = some (.int .i32) := by kernel_rfl
theorem und22 : T0.und.get 22 = some (.slice 55) := by kernel_rfl
theorem field23_0 (b o : Nat) : aField T0 23 (.pointer (some ⟨b, o, none⟩)) 0 = some (.pointer (some ⟨b, o, none⟩)) := by rfl
theorem field23_1 (b o : Nat) : aField T0 23 (.pointer (some ⟨b, o, none⟩)) 1 = some (.pointer (some ⟨b, o + 1, none⟩)) := by rfl
theorem und24 : T0.und.get 24 = some Tryd.t23.desc := by kernel_rfl
theorem inf24 : T0.info.get 24 = some Tryd.t24 := by kernel_rfl
theorem is24 : Tryd.t24.size = 2 := by kernel_rfl
theorem zero24 : aZero T0 24 = some (.agg ⟨[.int .i64 0, .slice none 0 0]⟩) := by kernel_rfl
theorem agg24 : isAggD Tryd.t23.desc = true := by kernel_rfl
theorem field24_0 (b o : Nat) : aField T0 24 (.pointer (some ⟨b, o, none⟩)) 0 = some (.pointer (some ⟨b, o, none⟩)) := by rfl
theorem field24_1 (b o : Nat) : aField T0 24 (.pointer (some ⟨b, o, none⟩)) 1 = some (.pointer (some ⟨b, o + 1, none⟩)) := by rfl
theorem und25 : T0.und.get 25 = some Tryd.t23.desc := by kernel_rfl
theorem inf25 : T0.info.get 25 = some Tryd.t25 := by kernel_rfl
theorem is25 : Tryd.t25.size = 2 := by kernel_rfl
theorem zero25 : aZero T0 25 = some (.agg ⟨[.int .i64 0, .slice none 0 0]⟩) := by kernel_rfl
theorem agg25 : isAggD Tryd.t23.desc = true := by kernel_rfl
theorem field25_0 (b o : Nat) : aField T0 25 (.pointer (some ⟨b, o, none⟩)) 0 = some (.pointer (some ⟨b, o, none⟩)) := by rfl
theorem field25_1 (b o : Nat) : aField T0 25 (.pointer (some ⟨b, o, none⟩)) 1 = some (.pointer (some ⟨b, o + 1, none⟩)) := by rfl
theorem und28 : T0.und.get 28 = some (.int .i64) := by kernel_rfl
theorem und31 : T0.und.get 31 = some (.slice 3) := by kernel_rfl
theorem field34_0 (b o : Nat) : aField T0 34 (.pointer (some ⟨b, o, none⟩)) 0 = some (.pointer (some ⟨b, o, none⟩)) := by rfl
theorem field34_1 (b o : Nat) : aField T0 34 (.pointer (some ⟨b, o, none⟩)) 1 = some (.pointer (some ⟨b, o + 1, none⟩)) := by rfl
theorem field34_2 (b o : Nat) : aField T0 34 (.pointer (some ⟨b, o, none⟩)) 2 = some (.pointer (some ⟨b, o + 2, none⟩)) := by rfl
theorem und35 : T0.und.get 35 = some Tryd.t34.desc := by kernel_rfl
theorem inf35 : T0.info.get 35 = some Tryd.t35 := by kernel_rfl
theorem is35 : Tryd.t35.size = 3 := by kernel_rfl
theorem zero35 : aZero T0 35 = some (.agg ⟨[.slice none 0 0, .slice none 0 0, .slice none 0 0]⟩) := by kernel_rfl
theorem agg35 : isAggD Tryd.t34.desc = true := by kernel_rfl
theorem field35_0 (b o : Nat) : aField T0 35 (.pointer (some ⟨b, o, none⟩)) 0 = some (.pointer (some ⟨b, o, none⟩)) := by rfl
theorem field35_1 (b o : Nat) : aField T0 35 (.pointer (some ⟨b, o, none⟩)) 1 = some (.pointer (some ⟨b, o + 1, none⟩)) := by rfl
theorem field35_2 (b o : Nat) : aField T0 35 (.pointer (some ⟨b, o, none⟩)) 2 = some (.pointer (some ⟨b, o + 2, none⟩)) := by rfl
theorem und46 : T0.und.get 46 = some (.slice 4) := by kernel_rfl
theorem field50_0 (b o : Nat) : aField T0 50 (.pointer (some ⟨b, o, none⟩)) 0 = some (.pointer (some ⟨b, o, none⟩)) := by rfl
theorem field50_1 (b o : Nat) : aField T0 50 (.pointer (some ⟨b, o, none⟩)) 1 = some (.pointer (some ⟨b, o + 1, none⟩)) := by rfl
theorem field50_2 (b o : Nat) : aField T0 50 (.pointer (some ⟨b, o, none⟩)) 2 = some (.pointer (some ⟨b, o + 2, none⟩)) := by rfl
theorem und55 : T0.und.get 55 = some (.array 2 3) := by kernel_rfl
theorem sz55 : aSize T0 55 = some 2 := by kernel_rfl
theorem inf55 : T0.info.get 55 = some Tryd.t55 := by kernel_rfl
theorem is55 : Tryd.t55.size = 2 := by kernel_rfl
theorem by55 : Tryd.t55.bytes = 16 := by kernel_rfl
theorem zero55 : aZero T0 55 = some (.agg ⟨[.int .i64 0, .int .i64 0]⟩) := by kernel_rfl
theorem z55 : Tryd.t55.zero = some (.agg ⟨[.int .i64 0, .int .i64 0]⟩) := by kernel_rfl
theorem und56 : T0.und.get 56 = some (.int .u64) := by kernel_rfl
theorem und58 : T0.und.get 58 = some (.slice 31) := by kernel_rfl
theorem und61 : T0.und.get 61 = some (.slice 62) := by kernel_rfl
theorem und62 : T0.und.get 62 = some (.slice 2) := by kernel_rfl
theorem und73 : T0.und.get 73 = some (.array 2 62) := by kernel_rfl
theorem und75 : T0.und.get 75 = some (.slice 46) := by kernel_rfl
theorem und90 : T0.und.get 90 = some (.pointer 108) := by kernel_rfl
theorem und94 : T0.und.get 94 = some (.array 40 3) := by kernel_rfl
theorem und95 : T0.und.get 95 = some (.int .u64) := by kernel_rfl
theorem und96 : T0.und.get 96 = some (.int .u64) := by kernel_rfl
theorem sz96 : aSize T0 96 = some 1 := by kernel_rfl
theorem inf96 : T0.info.get 96 = some Tryd.t96 := by kernel_rfl
theorem is96 : Tryd.t96.size = 1 := by kernel_rfl
theorem field97_0 (b o : Nat) : aField T0 97 (.pointer (some ⟨b, o, none⟩)) 0 = some (.pointer (some ⟨b, o, none⟩)) := by rfl
theorem field97_1 (b o : Nat) : aField T0 97 (.pointer (some ⟨b, o, none⟩)) 1 = some (.pointer (some ⟨b, o + 1, none⟩)) := by rfl
theorem field97_2 (b o : Nat) : aField T0 97 (.pointer (some ⟨b, o, none⟩)) 2 = some (.pointer (some ⟨b, o + 41, none⟩)) := by rfl
theorem field97_3 (b o : Nat) : aField T0 97 (.pointer (some ⟨b, o, none⟩)) 3 = some (.pointer (some ⟨b, o + 81, none⟩)) := by rfl
theorem field97_4 (b o : Nat) : aField T0 97 (.pointer (some ⟨b, o, none⟩)) 4 = some (.pointer (some ⟨b, o + 121, none⟩)) := by rfl
theorem field97_5 (b o : Nat) : aField T0 97 (.pointer (some ⟨b, o, none⟩)) 5 = some (.pointer (some ⟨b, o + 122, none⟩)) := by rfl
theorem field97_6 (b o : Nat) : aField T0 97 (.pointer (some ⟨b, o, none⟩)) 6 = some (.pointer (some ⟨b, o + 123, none⟩)) := by rfl
theorem field98_0 (b o : Nat) : aField T0 98 (.pointer (some ⟨b, o, none⟩)) 0 = some (.pointer (some ⟨b, o, none⟩)) := by rfl
theorem field98_1 (b o : Nat) : aField T0 98 (.pointer (some ⟨b, o, none⟩)) 1 = some (.pointer (some ⟨b, o + 1, none⟩)) := by rfl
theorem field98_2 (b o : Nat) : aField T0 98 (.pointer (some ⟨b, o, none⟩)) 2 = some (.pointer (some ⟨b, o + 41, none⟩)) := by rfl
theorem field98_3 (b o : Nat) : aField T0 98 (.pointer (some ⟨b, o, none⟩)) 3 = some (.pointer (some ⟨b, o + 81, none⟩)) := by rfl
theorem field98_4 (b o : Nat) : aField T0 98 (.pointer (some ⟨b, o, none⟩)) 4 = some (.pointer (some ⟨b, o + 121, none⟩)) := by rfl
theorem field98_5 (b o : Nat) : aField T0 98 (.pointer (some ⟨b, o, none⟩)) 5 = some (.pointer (some ⟨b, o + 122, none⟩)) := by rfl
theorem field98_6 (b o : Nat) : aField T0 98 (.pointer (some ⟨b, o, none⟩)) 6 = some (.pointer (some ⟨b, o + 123, none⟩)) := by rfl
theorem und99 : T0.und.get 99 = some (.pointer 98) := by kernel_rfl
theorem und106 : T0.und.get 106 = some (.array 40 96) := by kernel_rfl
theorem field107_0 (b o : Nat) : aField T0 107 (.pointer (some ⟨b, o, none⟩)) 0 = some (.pointer (some ⟨b, o, none⟩)) := by rfl
theorem field107_1 (b o : Nat) : aField T0 107 (.pointer (some ⟨b, o, none⟩)) 1 = some (.pointer (some ⟨b, o + 1, none⟩)) := by rfl
theorem field108_0 (b o : Nat) : aField T0 108 (.pointer (some ⟨b, o, none⟩)) 0 = some (.pointer (some ⟨b, o, none⟩)) := by rfl
theorem field108_1 (b o : Nat) : aField T0 108 (.pointer (some ⟨b, o, none⟩)) 1 = some (.pointer (some ⟨b, o + 1, none⟩)) := by rfl
theorem und119 : T0.und.get 119 = some (.pointer 132) := by kernel_rfl
theorem und122 : T0.und.get 122 = some (.pointer 125) := by kernel_rfl
theorem field124_0 (b o : Nat) : aField T0 124 (.pointer (some ⟨b, o, none⟩)) 0 = some (.pointer (some ⟨b, o, none⟩)) := by rfl
theorem field124_1 (b o : Nat) : aField T0 124 (.pointer (some ⟨b, o, none⟩)) 1 = some (.pointer (some ⟨b, o + 40, none⟩)) := by rfl
theorem field124_2 (b o : Nat) : aField T0 124 (.pointer (some ⟨b, o, none⟩)) 2 = some (.pointer (some ⟨b, o + 80, none⟩)) := by rfl
theorem field125_0 (b o : Nat) : aField T0 125 (.pointer (some ⟨b, o, none⟩)) 0 = some (.pointer (some ⟨b, o, none⟩)) := by rfl
theorem field125_1 (b o : Nat) : aField T0 125 (.pointer (some ⟨b, o, none⟩)) 1 = some (.pointer (some ⟨b, o + 40, none⟩)) := by rfl
theorem field125_2 (b o : Nat) : aField T0 125 (.pointer (some ⟨b, o, none⟩)) 2 = some (.pointer (some ⟨b, o + 80, none⟩)) := by rfl
theorem field131_0 (b o : Nat) : aField T0 131 (.pointer (some ⟨b, o, none⟩)) 0 = some (.pointer (some ⟨b, o, none⟩)) := by rfl
theorem field131_1 (b o : Nat) : aField T0 131 (.pointer (some ⟨b, o, none⟩)) 1 = some (.pointer (some ⟨b, o + 1, none⟩)) := by rfl
theorem field132_0 (b o : Nat) : aField T0 132 (.pointer (some ⟨b, o, none⟩)) 0 = some (.pointer (some ⟨b, o, none⟩)) := by rfl
theorem field132_1 (b o : Nat) : aField T0 132 (.pointer (some ⟨b, o, none⟩)) 1 = some (.pointer (some ⟨b, o + 1, none⟩)) := by rfl
theorem und133 : T0.und.get 133 = some (.map 135 3) := by kernel_rfl
theorem field134_0 (b o : Nat) : aField T0 134 (.pointer (some ⟨b, o, none⟩)) 0 = some (.pointer (some ⟨b, o, none⟩)) := by rfl
theorem field134_1 (b o : Nat) : aField T0 134 (.pointer (some ⟨b, o, none⟩)) 1 = some (.pointer (some ⟨b, o + 1, none⟩)) := by rfl
theorem und135 : T0.und.get 135 = some Tryd.t134.desc := by kernel_rfl
theorem inf135 : T0.info.get 135 = some Tryd.t135 := by kernel_rfl
theorem is135 : Tryd.t135.size = 2 := by kernel_rfl
theorem zero135 : aZero T0 135 = some (.agg ⟨[.int .i64 0, .int .i64 0]⟩) := by kernel_rfl
theorem agg135 : isAggD Tryd.t134.desc = true := by kernel_rfl
theorem field135_0 (b o : Nat) : aField T0 135 (.pointer (some ⟨b, o, none⟩)) 0 = some (.pointer (some ⟨b, o, none⟩)) := by rfl
theorem field135_1 (b o : Nat) : aField T0 135 (.pointer (some ⟨b, o, none⟩)) 1 = some (.pointer (some ⟨b, o + 1, none⟩)) := by rfl
theorem und148 : T0.und.get 148 = some (.array 64 5) := by kernel_rfl
theorem und156 : T0.und.get 156 = some (.int .u32) := by kernel_rfl
theorem und160 : T0.und.get 160 = some (.pointer 5) := by kernel_rfl
theorem fun3 : T0.funcs.get 3 = some Tryd.f3 := by kernel_rfl
theorem fun13 : T0.funcs.get 13 = some Tryd.f13 := by kernel_rfl
theorem fun14 : T0.funcs.get 14 = some Tryd.f14 := by kernel_rfl
theorem fun15 : T0.funcs.get 15 = some Tryd.f15 := by kernel_rfl
theorem fun16 : T0.funcs.get 16 = some Tryd.f16 := by kernel_rfl
theorem fun17 : T0.funcs.get 17 = some Tryd.f17 := by kernel_rfl
theorem fun18 : T0.funcs.get 18 = some Tryd.f18 := by kernel_rfl
theorem fun19 : T0.funcs.get 19 = some Tryd.f19 := by kernel_rfl
theorem fun20 : T0.funcs.get 20 = some Tryd.f20 := by kernel_rfl
theorem fun21 : T0.funcs.get 21 = some Tryd.f21 := by kernel_rfl
theorem fun22 : T0.funcs.get 22 = some Tryd.f22 := by kernel_rfl
theorem fun54 : T0.funcs.get 54 = some Tryd.f54 := by kernel_rfl
theorem fun68 : T0.funcs.get 68 = some Tryd.f68 := by kernel_rfl
end Go.Proofs.YtdpnplanohgecaaDoor

open Go Go.Eng
namespace Go.Proofs.YtdpnplanohgecaaDoor
attribute [local congr] undef_congr WpK.congr WpS.congr WpL.congr WpC.congr WpF.congr gotS.congr callS.congr nextS.congr wantS.congr condS.congr
attribute [local irreducible] WpK
attribute [local simp] WpDr_nil WpDr_cons atS_some dwantS_true dwantS_false kindS_light kindS_float kindS_heavy lightS_value floatS_some heavyS_value heavyS_skip heavyS_enter dcallS_some doneS_eq
  isLight isFloat isPlain dLook testBit_dec dChain dLights_nil dLights_skip dLights_one dLight_nil dLight_cons dFreshes_nil dFreshes_one oneF_none oneF_some dFresh_nil dFresh_cons oneL_some oneW_true oneW_false sameV_value dPut dMay valEq arrEq listEq List.getElem?_cons Tr.get_nil dEnd
attribute [local simp] WpS_nil WpS_cons isDefer undef_false wantS_true wantS_false nextS_value nextS_skip nextS_enter callS_some gotS_some aWanted aOp aEvalF aEval opMove opAssign opPick aVal flat flat1 AAct.put opBinOp opConvert opIndex Tr.get_set Tr.get_lay aBin aResults tupled
  aCall aVals aCallB blt_dec ble_dec beq_dec aBinI_add aBinI_sub aBinI_lss aBinI_leq aBinI_gtr aBinI_geq aBinI_eql aBinI_neq index_str len_str len_slice Nat.beq_refl Nat.beq_refl
  opBox opLoad opFieldAddr opIndexAddr acells aAddr opExtract aExtract opUnOp opAlloc opStore opMakeInterface opNilCheck opBuild aParts opBuildSlice aValW
attribute [local simp] und2 und3 und4 und5 und9 und12 field13_0 field13_1 und21 und22 field23_0 field23_1 field24_0 field24_1 field25_0 field25_1 und28 und31 field34_0 field34_1 field34_2 field35_0 field35_1 field35_2 und46 field50_0 field50_1 field50_2 und55 und56 und58 und61 und62 und73 und75 und90 und94 und95 und96 field97_0 field97_1 field97_2 field97_3 field97_4 field97_5 field97_6 field98_0 field98_1 field98_2 field98_3 field98_4 field98_5 field98_6 und99 und106 field107_0 field107_1 field108_0 field108_1 und119 und122 field124_0 field124_1 field124_2 field125_0 field125_1 field125_2 field131_0 field131_1 field132_0 field132_1 und133 field134_0 field134_1 field135_0 field135_1 und148 und156 und160
set_option maxHeartbeats 4000000
set_option linter.unusedSimpArgs false
set_option linter.unusedVariables false
@[simp] theorem nilck (a : Addr) : nilChecked T0 (.pointer (some a)) = true := rfl
@[simp] theorem aUn_not (b : Bool) : aUn .not (.bool b) = some (.bool (!b)) := by cases b <;> rfl
theorem load_of {W : AW} {t : TypeId} {d : TypeDesc} {b o : Nat} {v : Value} (hd : T0.und.get t = some d) (ha : isAggD d = false) (h : W.Has b o v) : aLoadVar T0 W t b o = some v := by
  rw [loadVar_cell hd ha]; exact h.2
theorem tabs_name : ∀ t ∈ T0.tabs, t.name = 0 := fun t h => by
  have h : t ∈ [_] := h
  rw [List.mem_singleton] at h; rw [h]
theorem tabs_ext {W W' : AW} (h : tabsIn T0 T0.tabs W = true) (h0 : 0 < W.next) (he : Ext W W') : tabsIn T0 T0.tabs W' = true := tabsIn_only h (fun t ht => he.2 t.name (by rw [tabs_name t ht]; exact h0) (fun x => x))
theorem freshB_var {W : AW} {p : Nat} {el : TypeId} {l : List Value} (h : Var W p el l) (hl : listEq l l = true) : freshB W p el l = true := by
  obtain ⟨h1, c, h2, h3⟩ := h
  have ht : c.take 0 l.length = some l := take_get c l.length 0 l rfl (fun j hj => by rw [Nat.zero_add]; exact h3 j hj)
  simp only [freshB, h2, Nat.beq_refl, blt_dec, h1, decide_true, ht, hl]
theorem freshB_new (W : AW) (el : TypeId) (l : List Value) (h : listEq l l = true) : freshB (W.newCells el l) W.next el l = true := freshB_var (Var.new W el l) h

/-! ### the members of a set -/
def memb (P s : Nat) : List Int := ((List.range P).filter (s.testBit ·)).map Int.ofNat
theorem one_wp (p : Nat) (hp : p < 64) (W : AW) : WpF T0 68 [.int .i64 p] W (fun v W' => W' = W ∧ v = .int .u64 ((1 <<< p : Nat) : Int)) := by
  refine wpF fun68 rfl ?_
  have h1 : aBinI .shl .u64 1 .i64 (p : Int) = some (.int .u64 ((1 <<< p : Nat) : Int)) := aBinI_shl .u64 .i64 1 p (by show p ≤ 64; omega) (by
    rw [Nat.one_mul]; show 2 ^ p < 2 ^ 64; exact Nat.pow_lt_pow_right (by omega) hp)
  generalize 1 <<< p = r at h1
  try simp only [wpK_assoc]
  refine wpK_reg (fun R hR => by simp []; exact hR) ?_
  try simp only [wpK_assoc]
  refine wpK_reg (fun R hR => by simp [h1]; exact hR) ?_
  exact wpK_ret ⟨.inr rfl, rfl, [.int .u64 (r : Int)], by simp, rfl, rfl⟩
/-! ### the least member -/
def tabN : List Nat := [0, 1, 56, 2, 57, 49, 28, 3, 61, 58, 42, 50, 38, 29, 17, 4, 62, 47, 59, 36, 45, 43, 51, 22, 53, 39, 33, 30, 24, 18, 12, 5, 63, 55, 48, 27, 60, 41, 37, 16, 46, 35, 44, 21, 52, 32, 23, 11, 54, 26, 40, 15, 34, 20, 31, 10, 25, 14, 19, 9, 13, 8, 7, 6]
section
attribute [local irreducible] aBinI
end
end Go.Proofs.YtdpnplanohgecaaDoor

open Go Go.Eng
namespace Go.Proofs.YtdpnplanohgecaaDoor
attribute [local congr] undef_congr WpK.congr WpS.congr WpL.congr WpC.congr WpF.congr gotS.congr callS.congr nextS.congr wantS.congr condS.congr
attribute [local irreducible] WpK
attribute [local simp] WpDr_nil WpDr_cons atS_some dwantS_true dwantS_false kindS_light kindS_float kindS_heavy lightS_value floatS_some heavyS_value heavyS_skip heavyS_enter dcallS_some doneS_eq
  isLight isFloat isPlain dLook testBit_dec dChain dLights_nil dLights_skip dLights_one dLight_nil dLight_cons dFreshes_nil dFreshes_one oneF_none oneF_some dFresh_nil dFresh_cons oneL_some oneW_true oneW_false sameV_value dPut dMay valEq arrEq listEq List.getElem?_cons Tr.get_nil dEnd
attribute [local simp] WpS_nil WpS_cons isDefer undef_false wantS_true wantS_false nextS_value nextS_skip nextS_enter callS_some gotS_some aWanted aOp aEvalF aEval opMove opAssign opPick aVal flat flat1 AAct.put opBinOp opConvert opIndex Tr.get_set Tr.get_lay aBin aResults tupled
  aCall aVals aCallB blt_dec ble_dec beq_dec aBinI_add aBinI_sub aBinI_lss aBinI_leq aBinI_gtr aBinI_geq aBinI_eql aBinI_neq index_str len_str len_slice Nat.beq_refl Nat.beq_refl
  opBox opLoad opFieldAddr opIndexAddr acells aAddr opExtract aExtract opUnOp opAlloc opStore opMakeInterface opNilCheck opBuild aParts opBuildSlice aValW
attribute [local simp] und2 und3 und4 und5 und9 und12 field13_0 field13_1 und21 und22 field23_0 field23_1 field24_0 field24_1 field25_0 field25_1 und28 und31 field34_0 field34_1 field34_2 field35_0 field35_1 field35_2 und46 field50_0 field50_1 field50_2 und55 und56 und58 und61 und62 und73 und75 und90 und94 und95 und96 field97_0 field97_1 field97_2 field97_3 field97_4 field97_5 field97_6 field98_0 field98_1 field98_2 field98_3 field98_4 field98_5 field98_6 und99 und106 field107_0 field107_1 field108_0 field108_1 und119 und122 field124_0 field124_1 field124_2 field125_0 field125_1 field125_2 field131_0 field131_1 field132_0 field132_1 und133 field134_0 field134_1 field135_0 field135_1 und148 und156 und160
set_option maxHeartbeats 4000000
set_option linter.unusedSimpArgs false
set_option linter.unusedVariables false
theorem bs31 (W : AW) (n : Int) : aBuildSlice T0 W 31 1 [(0, .int .i64 n)] = some (.slice (some ⟨W.next, 0, none⟩) 1 2, W.newCells 3 [.int .i64 n]) := by kernel_rfl
def intsV (l : List Int) : List Value := l.map (Value.int .i64)
/-! ### loops over the places of a set -/
/-- a set without its least place -/
def dropLow (x : Nat) : Nat := x &&& (x - 1)
end Go.Proofs.YtdpnplanohgecaaDoor

open Go Go.Eng
namespace Go.Proofs.YtdpnplanohgecaaDoor
attribute [local congr] undef_congr WpK.congr WpS.congr WpL.congr WpC.congr WpF.congr gotS.congr callS.congr nextS.congr wantS.congr condS.congr
attribute [local irreducible] WpK
attribute [local simp] WpDr_nil WpDr_cons atS_some dwantS_true dwantS_false kindS_light kindS_float kindS_heavy lightS_value floatS_some heavyS_value heavyS_skip heavyS_enter dcallS_some doneS_eq
  isLight isFloat isPlain dLook testBit_dec dChain dLights_nil dLights_skip dLights_one dLight_nil dLight_cons dFreshes_nil dFreshes_one oneF_none oneF_some dFresh_nil dFresh_cons oneL_some oneW_true oneW_false sameV_value dPut dMay valEq arrEq listEq List.getElem?_cons Tr.get_nil dEnd
attribute [local simp] WpS_nil WpS_cons isDefer undef_false wantS_true wantS_false nextS_value nextS_skip nextS_enter callS_some gotS_some aWanted aOp aEvalF aEval opMove opAssign opPick aVal flat flat1 AAct.put opBinOp opConvert opIndex Tr.get_set Tr.get_lay aBin aResults tupled
  aCall aVals aCallB blt_dec ble_dec beq_dec aBinI_add aBinI_sub aBinI_lss aBinI_leq aBinI_gtr aBinI_geq aBinI_eql aBinI_neq index_str len_str len_slice Nat.beq_refl Nat.beq_refl
  opBox opLoad opFieldAddr opIndexAddr acells aAddr opExtract aExtract opUnOp opAlloc opStore opMakeInterface opNilCheck opBuild aParts opBuildSlice aValW
attribute [local simp] und2 und3 und4 und5 und9 und12 field13_0 field13_1 und21 und22 field23_0 field23_1 field24_0 field24_1 field25_0 field25_1 und28 und31 field34_0 field34_1 field34_2 field35_0 field35_1 field35_2 und46 field50_0 field50_1 field50_2 und55 und56 und58 und61 und62 und73 und75 und90 und94 und95 und96 field97_0 field97_1 field97_2 field97_3 field97_4 field97_5 field97_6 field98_0 field98_1 field98_2 field98_3 field98_4 field98_5 field98_6 und99 und106 field107_0 field107_1 field108_0 field108_1 und119 und122 field124_0 field124_1 field124_2 field125_0 field125_1 field125_2 field131_0 field131_1 field132_0 field132_1 und133 field134_0 field134_1 field135_0 field135_1 und148 und156 und160
set_option maxHeartbeats 4000000
set_option linter.unusedSimpArgs false
set_option linter.unusedVariables false
/-! ### graphs -/
/-- a store into one cell of a variable -/
theorem var_store1 {W : AW} {p : Nat} {el t : TypeId} {l : List Value} (h : Var W p el l) {i : TypeInfo} {v : Value} {o : Nat} (hi : T0.info.get t = some i) (hs : i.size = 1) (hv : acells v = [v]) (hv1 : Value.oneCell' v = true) (ho : o < l.length) :
    ∃ W', aStoreVar T0 W t p o v = some W' ∧ W'.next = W.next ∧ Only (fun b => b = p) W W' ∧ Var W' p el (l.set o v) := by
  obtain ⟨W', h1, h2, h3, h4⟩ := h.store (T := T0) (t := t) (v := v) (o := o) hi (by rw [hv, hs]; rfl) (by rw [hv]; simp; omega) (by rw [hv]; simp only [allB, hv1])
  refine ⟨W', h1, h2, h3, ?_⟩
  rw [hv] at h4
  have e : l.take o ++ [v] ++ l.drop (o + [v].length) = l.set o v := by
    rw [List.set_eq_take_append_cons_drop, if_pos ho]; simp
  rw [e] at h4; exact h4
def pr (a b : Int) : Value := .agg ⟨[.int .i64 a, .int .i64 b]⟩
theorem keyEq_pr (a b c d : Int) : keyEq (pr a b) (pr c d) = (decide (a = c) && decide (b = d)) := by
  have h1 : ∀ x y : Int, key1Eq (.int .i64 x) (.int .i64 y) = decide (x = y) := fun x y => by
    cases x <;> cases y <;> simp [key1Eq] <;> omega
  simp only [pr, keyEq, keysEq, h1]
  cases decide (a = c) <;> cases decide (b = d) <;> rfl
theorem keyOk135 (a b : Int) : keyOk T0 135 (pr a b) = true := by kernel_rfl
theorem keyOk55 (a b : Int) : keyOk T0 55 (pr a b) = true := by kernel_rfl
theorem load55 {W : AW} {b p : Nat} {x y : Int} (h : ∀ j u, (encP (x, y))[j]? = some u → W.Has b (p + j) u) : aLoadVar T0 W 55 b p = some (pr x y) :=
  load_cells (l := encP (x, y)) und55 rfl inf55 (by rw [is55]; rfl) (by show 0 < 2; omega) h
theorem ix55 (p o q : Nat) (hq : q < 2) : aIndexAddr T0 55 (.pointer (some ⟨p, o, none⟩)) (.int .i64 (q : Nat)) = some (.pointer (some ⟨p, o + q, none⟩)) := by
  show aIndexAddr T0 55 (.pointer (some ⟨p, o, none⟩)) (.int .i64 (Int.ofNat q)) = _
  simp only [aIndexAddr, und55, sz3, blt_dec, hq, decide_true, Nat.mul_one]
theorem ix55_0 (p o : Nat) : aIndexAddr T0 55 (.pointer (some ⟨p, o, none⟩)) (.int .i64 0) = some (.pointer (some ⟨p, o, none⟩)) := ix55 p o 0 (by omega)
theorem ix55_1 (p o : Nat) : aIndexAddr T0 55 (.pointer (some ⟨p, o, none⟩)) (.int .i64 1) = some (.pointer (some ⟨p, o + 1, none⟩)) := ix55 p o 1 (by omega)
theorem ix106 (p o q : Nat) (hq : q < 40) : aIndexAddr T0 106 (.pointer (some ⟨p, o, none⟩)) (.int .i64 (q : Nat)) = some (.pointer (some ⟨p, o + q, none⟩)) := by
  show aIndexAddr T0 106 (.pointer (some ⟨p, o, none⟩)) (.int .i64 (Int.ofNat q)) = _
  simp only [aIndexAddr, und106, sz96, blt_dec, hq, decide_true, Nat.mul_one]
theorem build55 (a b : Int) : aBuild T0 55 [(0, .int .i64 a), (1, .int .i64 b)] = some (pr a b) := by kernel_rfl
theorem build135 (a b : Int) : aBuild T0 135 [(0, .int .i64 a), (1, .int .i64 b)] = some (pr a b) := by kernel_rfl
def zer40 : List Value := List.replicate 40 (.int .u64 0)
theorem build108 (P : Int) : aBuild T0 108 [(0, .int .i64 P)] = some (.agg ⟨.int .i64 P :: zer40⟩) := by kernel_rfl
theorem build25 (P : Int) (A : Option Addr) (n c : Nat) : aBuild T0 25 [(0, .int .i64 P), (1, .slice A n c)] = some (.agg ⟨[.int .i64 P, .slice A n c]⟩) := by kernel_rfl
theorem build24 (P : Int) (A : Option Addr) (n c : Nat) : aBuild T0 24 [(0, .int .i64 P), (1, .slice A n c)] = some (.agg ⟨[.int .i64 P, .slice A n c]⟩) := by kernel_rfl
theorem aAgg55 (a b c d : Int) : aAgg T0 .eql 55 (pr a b) (pr c d) = some (.bool (decide (a = c) && decide (b = d))) := by
  rw [← keyEq_pr]
  simp only [aAgg, und55, und3, keyOk55]

theorem row_eq {α : Type} {sz : Nat} {enc : α → List Value} {W : AW} {v : Value} {l : List α} (h : RowIn sz enc W v l) : valEq v v = true := by
  obtain ⟨A, c, rfl, _⟩ := h
  rcases A with _ | ⟨b, o, _ | x⟩ <;> simp
abbrev Edge := Int × Int
/-- the first k edges are as they should be -/
def GoodTo (P : Int) (es : List Edge) (k : Nat) : Prop := ∀ i, i < k → ∀ a b, es[i]? = some (a, b) → 0 ≤ a ∧ a < P ∧ 0 ≤ b ∧ b < P ∧ a ≠ b ∧ ∀ j, j < i → es[j]? ≠ some (a, b) ∧ es[j]? ≠ some (b, a)
def GraphOk (P : Int) (es : List Edge) : Prop := 1 ≤ P ∧ P ≤ 40 ∧ es.length ≤ 300 ∧ GoodTo P es es.length
open Classical in
noncomputable def chkG (P : Int) (es : List Edge) : Int := if GraphOk P es then 0 else 40
theorem chkG_ok {P : Int} {es : List Edge} (h : GraphOk P es) : chkG P es = 0 := if_pos h
theorem chkG_no {P : Int} {es : List Edge} (h : ¬ GraphOk P es) : chkG P es = 40 := if_neg h
theorem GoodTo.not {P : Int} {es : List Edge} {k : Nat} (h : ¬ GoodTo P es (k + 1)) (hk : k < es.length) : ¬ GraphOk P es := fun hg => h (fun i hi => hg.2.2.2 i (by omega))
theorem GoodTo.succ {P : Int} {es : List Edge} {k : Nat} {a b : Int} (h : GoodTo P es k) (ha : es[k]? = some (a, b)) (h1 : 0 ≤ a ∧ a < P ∧ 0 ≤ b ∧ b < P ∧ a ≠ b) (h2 : ∀ j, j < k → es[j]? ≠ some (a, b) ∧ es[j]? ≠ some (b, a)) : GoodTo P es (k + 1) := fun i hi x y hx => by
  by_cases e : i = k
  · subst e; rw [ha] at hx; cases hx
    exact ⟨h1.1, h1.2.1, h1.2.2.1, h1.2.2.2.1, h1.2.2.2.2, h2⟩
  · exact h i (by omega) x y hx

/-! the reference's check -/
theorem refCheck_wp {W : AW} {v : Value} (P : Int) {es : List Edge} (h : PairR W v es) (hl : es.length < 4611686018427387904) : WpF T0 14 [.agg ⟨[.int .i64 P, v]⟩] W (fun u W' => Ext W W' ∧ u = .int .i64 (chkG P es)) := by
  refine wpF fun14 rfl ?_
  obtain ⟨W1, hW1, hE1, hn1, hV⟩ : ∃ W1, W1 = W.newCells 24 [.int .i64 P, v] ∧ Ext W W1 ∧ W1.next = W.next + 1 ∧ Var W1 W.next 24 [.int .i64 P, v] := ⟨_, rfl, .newCells _ _ _, rfl, Var.new _ _ _⟩
  have hR := h.ext hE1
  obtain ⟨A, c, hv⟩ := h.len
  have l0 := hV.load1 (T := T0) und3 rfl (j := 0) (v := .int .i64 P) rfl
  have l1 := hV.load1 (T := T0) und22 rfl (j := 1) (v := v) rfl
  have ll : aLen T0 W1 22 v = some (.int .i64 es.length) := by rw [hv]; exact len_slice und22 _ _ _
  try simp only [wpK_assoc]
  refine wpK_reg (fun R hR => by simp [← hW1]; exact hR) ?_
  by_cases h1 : P < 1
  · try simp only [wpK_assoc]
    refine wpK_reg (fun R hR => by simp [l0, h1]; exact hR) ?_
    try simp only [wpK_assoc]
    first | refine wpK_onT (by simp []) ?_ | refine wpK_outT (by simp []) ?_ | refine wpK_condT (by simp []) ?_ | refine wpK_endT (by simp []) ?_
    try simp only [wpK_assoc]
    refine wpK_reg (fun R hR => by simp []; exact hR) ?_
    exact wpK_ret ⟨.inr rfl, rfl, [.int .i64 40], by simp, hE1, by rw [chkG_no (fun hg => by have := hg.1; omega)]; rfl⟩
  by_cases h2 : 40 < P
  · try simp only [wpK_assoc]
    refine wpK_reg (fun R hR => by simp [l0, h1, h2]; exact hR) ?_
    try simp only [wpK_assoc]
    first | refine wpK_onT (by simp []) ?_ | refine wpK_outT (by simp []) ?_ | refine wpK_condT (by simp []) ?_ | refine wpK_endT (by simp []) ?_
    try simp only [wpK_assoc]
    refine wpK_reg (fun R hR => by simp []; exact hR) ?_
    exact wpK_ret ⟨.inr rfl, rfl, [.int .i64 40], by simp, hE1, by rw [chkG_no (fun hg => by have := hg.2.1; omega)]; rfl⟩
  by_cases h3 : (300 : Int) < es.length
  · try simp only [wpK_assoc]
    refine wpK_reg (fun R hR => by simp [l0, l1, ll, h1, h2, h3]; exact hR) ?_
    try simp only [wpK_assoc]
    first | refine wpK_onT (by simp []) ?_ | refine wpK_outT (by simp []) ?_ | refine wpK_condT (by simp []) ?_ | refine wpK_endT (by simp []) ?_
    try simp only [wpK_assoc]
    refine wpK_reg (fun R hR => by simp []; exact hR) ?_
    exact wpK_ret ⟨.inr rfl, rfl, [.int .i64 40], by simp, hE1, by rw [chkG_no (fun hg => by have := hg.2.2.1; omega)]; rfl⟩
  try simp only [wpK_assoc]
  refine wpK_reg (fun R hR => by simp [l0, l1, ll, h1, h2, h3]; exact hR) ?_
  try simp only [wpK_assoc]
  first | refine wpK_onF (by simp []) ?_ | refine wpK_out (by simp []) ?_ | refine wpK_condF (by simp []) ?_ | refine wpK_endF (by simp []) (wpK_skip ?_) | refine wpK_endF (by simp []) ?_
  try simp only [wpK_assoc]
  refine wpK_reg (fun R hR => by simp []; exact hR) ?_
  try simp only [wpK_assoc]
  refine wpK_while (I := fun k A W' => A.n = 88 ∧ A.defers = [] ∧ A.tmps.get 1 = some (.pointer (some ⟨W.next, 0, none⟩)) ∧ W' = W1 ∧ ∃ i : Nat, A.tmps.get 3 = some (.int .i64 (i : Int)) ∧ k = es.length - i ∧ i ≤ es.length ∧ GoodTo P es i)
    (J := fun A W' => A.n = 88 ∧ A.defers = [] ∧ A.tmps.get 1 = some (.pointer (some ⟨W.next, 0, none⟩)) ∧ W' = W1 ∧ GoodTo P es es.length) (Rt := fun A W' => A.defers = [] ∧ W' = W1 ∧ A.tmps.get 2 = some (.int .i64 40) ∧ ¬ GraphOk P es) (k := es.length) ?_ ?_ ?_ ?_
  · exact ⟨rfl, rfl, by simp, rfl, 0, by simp, rfl, by omega, fun i hi => by omega⟩
  · rintro k ⟨tm, n, ds⟩ W2 ⟨hn, hd, h1, e2, i, h3', hk, hi, hg⟩ Q' hJ hRt hI
    simp only at hn hd h1
    subst hn; subst hd
    subst W2
    simp only at h3'
    by_cases hlt : i < es.length
    case neg =>
      have e : i = es.length := by omega
      subst e
      try simp only [wpK_assoc]
      refine wpK_reg (fun R hR => by simp [h1, h3', l1, ll]; exact hR) ?_
      try simp only [wpK_assoc]
      first | refine wpK_onF (by simp []) ?_ | refine wpK_out (by simp []) ?_ | refine wpK_condF (by simp []) ?_ | refine wpK_endF (by simp []) (wpK_skip ?_) | refine wpK_endF (by simp []) ?_
      exact hJ _ _ ⟨rfl, rfl, by simp [h1], rfl, hg⟩
    have hlt' : (i : Int) < es.length := by omega
    try simp only [wpK_assoc]
    refine wpK_reg (fun R hR => by simp [h1, h3', l1, ll, hlt']; exact hR) ?_
    try simp only [wpK_assoc]
    first | refine wpK_onT (by simp []) ?_ | refine wpK_outT (by simp []) ?_ | refine wpK_condT (by simp []) ?_ | refine wpK_endT (by simp []) ?_
    obtain ⟨⟨a, b⟩, hab⟩ : ∃ e : Edge, es[i] = e := ⟨_, rfl⟩
    have ha : es[i]? = some (a, b) := by rw [List.getElem?_eq_getElem hlt, hab]
    obtain ⟨q, o, hx, hh⟩ := hR.at (T := T0) ha und22 sz55 .i64
    have la := load_of und3 rfl (hh 0 (.int .i64 a) rfl)
    have lb := load_of und3 rfl (hh 1 (.int .i64 b) rfl)
    rw [Nat.add_zero] at la
    have vv := row_eq hR
    refine wpK_block ?_
    try simp only [wpK_assoc]
    refine wpK_dn (wr := Tr.nil |>.set 28 0 |>.set 29 1 |>.set 30 2 |>.set 31 3 |>.set 32 4 |>.set 33 5 |>.set 34 6 |>.set 35 7 |>.set 36 8 |>.set 37 9 |>.set 38 10 |>.set 39 11 |>.set 4 12 |>.set 5 13) (bits := Tr.nil.lay 0 [0, 1, 0, 7, 15, 31, 0, 64, 0, 448, 960, 1984, 63, 8191]) (ord := [0, 1, 2, 3, 4, 5, 6, 7, 8, 9, 10, 11, 12, 13]) (by kernel_rfl) (by kernel_rfl) (by kernel_rfl) (fun G hG => by
      simp [h1, h3', l1, hx, ix55_0, ix55_1, la, lb, vv]
      exact hG) ?_
    refine wpK_keep (fun tm' => tm'.get 1 = some (.pointer (some ⟨W.next, 0, none⟩)) ∧ tm'.get 3 = some (.int .i64 (i : Int)) ∧ tm'.get 4 = some (.int .i64 a) ∧ tm'.get 5 = some (.int .i64 b)) ⟨by simp [h1, h3'], by simp [h1, h3'], by simp [h1, h3'], by simp [h1, h3']⟩ ?_
    rintro tm ⟨h1, h3, h4, h5⟩
    have hno : ¬ (0 ≤ a ∧ a < P ∧ 0 ≤ b ∧ b < P ∧ a ≠ b) → ¬ GraphOk P es := fun hn hg => by
      have := hg.2.2.2 i hlt a b ha
      exact hn ⟨this.1, this.2.1, this.2.2.1, this.2.2.2.1, this.2.2.2.2.1⟩
    by_cases b1 : a < 0
    · try simp only [wpK_assoc]
      refine wpK_reg (fun R hR => by simp [h4, h5, h1, l0, b1]; exact hR) ?_
      try simp only [wpK_assoc]
      first | refine wpK_onT (by simp []) ?_ | refine wpK_outT (by simp []) ?_ | refine wpK_condT (by simp []) ?_ | refine wpK_endT (by simp []) ?_
      try simp only [wpK_assoc]
      refine wpK_reg (fun R hR => by simp []; exact hR) ?_
      exact wpK_ret (hRt _ _ ⟨rfl, rfl, by simp, hno (by omega)⟩)
    by_cases b2 : P ≤ a
    · try simp only [wpK_assoc]
      refine wpK_reg (fun R hR => by simp [h4, h5, h1, l0, b1, b2]; exact hR) ?_
      try simp only [wpK_assoc]
      first | refine wpK_onT (by simp []) ?_ | refine wpK_outT (by simp []) ?_ | refine wpK_condT (by simp []) ?_ | refine wpK_endT (by simp []) ?_
      try simp only [wpK_assoc]
      refine wpK_reg (fun R hR => by simp []; exact hR) ?_
      exact wpK_ret (hRt _ _ ⟨rfl, rfl, by simp, hno (by omega)⟩)
    by_cases b3 : b < 0
    · try simp only [wpK_assoc]
      refine wpK_reg (fun R hR => by simp [h4, h5, h1, l0, b1, b2, b3]; exact hR) ?_
      try simp only [wpK_assoc]
      first | refine wpK_onT (by simp []) ?_ | refine wpK_outT (by simp []) ?_ | refine wpK_condT (by simp []) ?_ | refine wpK_endT (by simp []) ?_
      try simp only [wpK_assoc]
      refine wpK_reg (fun R hR => by simp []; exact hR) ?_
      exact wpK_ret (hRt _ _ ⟨rfl, rfl, by simp, hno (by omega)⟩)
    by_cases b4 : P ≤ b
    · try simp only [wpK_assoc]
      refine wpK_reg (fun R hR => by simp [h4, h5, h1, l0, b1, b2, b3, b4]; exact hR) ?_
      try simp only [wpK_assoc]
      first | refine wpK_onT (by simp []) ?_ | refine wpK_outT (by simp []) ?_ | refine wpK_condT (by simp []) ?_ | refine wpK_endT (by simp []) ?_
      try simp only [wpK_assoc]
      refine wpK_reg (fun R hR => by simp []; exact hR) ?_
      exact wpK_ret (hRt _ _ ⟨rfl, rfl, by simp, hno (by omega)⟩)
    by_cases b5 : a = b
    · try simp only [wpK_assoc]
      refine wpK_reg (fun R hR => by simp [h4, h5, h1, l0, b1, b2, b3, b4, b5]; exact hR) ?_
      try simp only [wpK_assoc]
      first | refine wpK_onT (by simp []) ?_ | refine wpK_outT (by simp []) ?_ | refine wpK_condT (by simp []) ?_ | refine wpK_endT (by simp []) ?_
      try simp only [wpK_assoc]
      refine wpK_reg (fun R hR => by simp []; exact hR) ?_
      exact wpK_ret (hRt _ _ ⟨rfl, rfl, by simp, hno (by omega)⟩)
    try simp only [wpK_assoc]
    refine wpK_reg (fun R hR => by simp [h4, h5, h1, l0, b1, b2, b3, b4, b5]; exact hR) ?_
    try simp only [wpK_assoc]
    first | refine wpK_onF (by simp []) ?_ | refine wpK_out (by simp []) ?_ | refine wpK_condF (by simp []) ?_ | refine wpK_endF (by simp []) (wpK_skip ?_) | refine wpK_endF (by simp []) ?_
    try simp only [wpK_assoc]
    refine wpK_reg (fun R hR => by simp []; exact hR) ?_
    try simp only [wpK_assoc]
    refine wpK_while1 (I := fun k2 A W' => A.n = 88 ∧ A.defers = [] ∧ A.tmps.get 1 = some (.pointer (some ⟨W.next, 0, none⟩)) ∧ A.tmps.get 3 = some (.int .i64 (i : Int)) ∧ A.tmps.get 4 = some (.int .i64 a) ∧ A.tmps.get 5 = some (.int .i64 b) ∧ W' = W1 ∧ ∃ j : Nat, A.tmps.get 6 = some (.int .i64 (j : Int)) ∧ k2 = i - j ∧ j ≤ i ∧ ∀ j', j' < j → es[j']? ≠ some (a, b) ∧ es[j']? ≠ some (b, a))
      (J := fun A W' => A.n = 88 ∧ A.defers = [] ∧ A.tmps.get 1 = some (.pointer (some ⟨W.next, 0, none⟩)) ∧ A.tmps.get 3 = some (.int .i64 (i : Int)) ∧ A.tmps.get 4 = some (.int .i64 a) ∧ A.tmps.get 5 = some (.int .i64 b) ∧ W' = W1 ∧ ∀ j, j < i → es[j]? ≠ some (a, b) ∧ es[j]? ≠ some (b, a)) (Rt := fun A W' => A.defers = [] ∧ W' = W1 ∧ A.tmps.get 2 = some (.int .i64 40) ∧ ¬ GraphOk P es) (k := i) ?_ ?_ ?_ ?_
    · exact ⟨rfl, rfl, by simp [h1, h3, h4, h5], by simp [h1, h3, h4, h5], by simp [h1, h3, h4, h5], by simp [h1, h3, h4, h5], rfl, 0, by simp, by omega, by omega, fun j hj => by omega⟩
    · rintro k2 ⟨tm, n, ds⟩ W2 ⟨hn, hd, h1, h3, h4, h5, e2, j, h6, hk2, hj, hdiff⟩ Q3 hJ3 hRt3 hI3
      simp only at hn hd h1 h3 h4 h5
      subst hn; subst hd
      subst W2
      simp only at h6
      by_cases hji : j < i
      case neg =>
        have e : j = i := by omega
        subst e
        try simp only [wpK_assoc]
        refine wpK_reg (fun R hR => by simp [h1, h3, h6]; exact hR) ?_
        try simp only [wpK_assoc]
        first | refine wpK_onF (by simp []) ?_ | refine wpK_out (by simp []) ?_ | refine wpK_condF (by simp []) ?_ | refine wpK_endF (by simp []) (wpK_skip ?_) | refine wpK_endF (by simp []) ?_
        exact hJ3 _ _ ⟨rfl, rfl, by simp [h1, h3, h4, h5], by simp [h1, h3, h4, h5], by simp [h1, h3, h4, h5], by simp [h1, h3, h4, h5], rfl, hdiff⟩
      have hji' : (j : Int) < i := by omega
      try simp only [wpK_assoc]
      refine wpK_reg (fun R hR => by simp [h1, h3, h6, hji']; exact hR) ?_
      try simp only [wpK_assoc]
      first | refine wpK_onT (by simp []) ?_ | refine wpK_outT (by simp []) ?_ | refine wpK_condT (by simp []) ?_ | refine wpK_endT (by simp []) ?_
      obtain ⟨⟨x, y⟩, hxy⟩ : ∃ e : Edge, es[j] = e := ⟨_, rfl⟩
      have hxj : es[j]? = some (x, y) := by rw [List.getElem?_eq_getElem (by omega), hxy]
      obtain ⟨q2, o2, hx2, hh2⟩ := hR.at (T := T0) hxj und22 sz55 .i64
      have lxy := load55 hh2
      rw [pr] at lxy
      have eAB := aAgg55 x y a b
      have eBA := aAgg55 x y b a
      rw [pr, pr] at eAB eBA
      refine wpK_block ?_
      by_cases c1 : x = a ∧ y = b
      · rw [show (decide (x = a) && decide (y = b)) = true from by simp [c1.1, c1.2]] at eAB
        try simp only [wpK_assoc]
        refine wpK_reg (fun R hR => by simp [h1, h6, h4, h5, l1, hx2, lxy, build55, pr, eAB]; exact hR) ?_
        try simp only [wpK_assoc]
        first | refine wpK_onT (by simp []) ?_ | refine wpK_outT (by simp []) ?_ | refine wpK_condT (by simp []) ?_ | refine wpK_endT (by simp []) ?_
        try simp only [wpK_assoc]
        refine wpK_reg (fun R hR => by simp []; exact hR) ?_
        exact wpK_ret (hRt3 _ _ ⟨rfl, rfl, by simp, fun hg => ((hg.2.2.2 i hlt a b ha).2.2.2.2.2 j hji).1 (by rw [hxj, c1.1, c1.2])⟩)
      rw [show (decide (x = a) && decide (y = b)) = false from by simp only [Bool.and_eq_false_iff, decide_eq_false_iff_not]; omega] at eAB
      by_cases c2 : x = b ∧ y = a
      · rw [show (decide (x = b) && decide (y = a)) = true from by simp [c2.1, c2.2]] at eBA
        try simp only [wpK_assoc]
        refine wpK_reg (fun R hR => by simp [h1, h6, h4, h5, l1, hx2, lxy, build55, pr, eAB, eBA]; exact hR) ?_
        try simp only [wpK_assoc]
        first | refine wpK_onT (by simp []) ?_ | refine wpK_outT (by simp []) ?_ | refine wpK_condT (by simp []) ?_ | refine wpK_endT (by simp []) ?_
        try simp only [wpK_assoc]
        refine wpK_reg (fun R hR => by simp []; exact hR) ?_
        exact wpK_ret (hRt3 _ _ ⟨rfl, rfl, by simp, fun hg => ((hg.2.2.2 i hlt a b ha).2.2.2.2.2 j hji).2 (by rw [hxj, c2.1, c2.2])⟩)
      rw [show (decide (x = b) && decide (y = a)) = false from by simp only [Bool.and_eq_false_iff, decide_eq_false_iff_not]; omega] at eBA
      try simp only [wpK_assoc]
      refine wpK_reg (fun R hR => by simp [h1, h6, h4, h5, l1, hx2, lxy, build55, pr, eAB, eBA]; exact hR) ?_
      try simp only [wpK_assoc]
      first | refine wpK_onF (by simp []) ?_ | refine wpK_out (by simp []) ?_ | refine wpK_condF (by simp []) ?_ | refine wpK_endF (by simp []) (wpK_skip ?_) | refine wpK_endF (by simp []) ?_
      try simp only [wpK_assoc]
      refine wpK_reg1 (fun R hR => by simp [h6]; exact hR) ?_
      refine hI3 (i - (j + 1)) _ _ (by omega) ⟨rfl, rfl, by simp [h1, h3, h4, h5], by simp [h1, h3, h4, h5], by simp [h1, h3, h4, h5], by simp [h1, h3, h4, h5], rfl, j + 1, by simp [i64_succ j (by omega)], rfl, by omega, fun j' hj' => ?_⟩
      by_cases e : j' = j
      · subst e; rw [hxj]; exact ⟨fun e => by cases e; exact c1 ⟨rfl, rfl⟩, fun e => by cases e; exact c2 ⟨rfl, rfl⟩⟩
      · exact hdiff j' (by omega)
    · rintro A' W' ⟨g1, g2, g3, g4⟩
      exact hRt _ _ ⟨g1, g2, g3, g4⟩
    · rintro ⟨tm, n, ds⟩ W2 ⟨hn, hd, h1, h3, h4, h5, e2, hdiff⟩
      simp only at hn hd h1 h3 h4 h5
      subst hn; subst hd
      simp only [leaves_normal, behind_normal]
      subst W2
      try simp only [wpK_assoc]
      refine wpK_reg1 (fun R hR => by simp [h3]; exact hR) ?_
      exact hI (es.length - (i + 1)) _ _ (by omega) ⟨rfl, rfl, by simp [h1], rfl, i + 1, by simp [i64_succ i (by omega)], rfl, by omega, hg.succ ha ⟨by omega, by omega, by omega, by omega, b5⟩ hdiff⟩
  · rintro A' W' ⟨h1, rfl, h2, h3⟩
    exact ⟨.inr rfl, h1, [.int .i64 40], by simp [h2], hE1, by rw [chkG_no h3]; rfl⟩
  · rintro ⟨tm, n, ds⟩ W2 ⟨hn, hd, h1, e2, hg⟩
    simp only at hn hd h1
    subst hn; subst hd
    subst W2
    try simp only [wpK_assoc]
    refine wpK_reg (fun R hR => by simp []; exact hR) ?_
    exact wpK_ret ⟨.inr rfl, rfl, [.int .i64 0], by simp, hE1, by rw [chkG_ok ⟨by omega, by omega, by omega, hg⟩]; rfl⟩

end Go.Proofs.YtdpnplanohgecaaDoor

open Go Go.Eng
namespace Go.Proofs.YtdpnplanohgecaaDoor
attribute [local congr] undef_congr WpK.congr WpS.congr WpL.congr WpC.congr WpF.congr gotS.congr callS.congr nextS.congr wantS.congr condS.congr
attribute [local irreducible] WpK
attribute [local simp] WpDr_nil WpDr_cons atS_some dwantS_true dwantS_false kindS_light kindS_float kindS_heavy lightS_value floatS_some heavyS_value heavyS_skip heavyS_enter dcallS_some doneS_eq
  isLight isFloat isPlain dLook testBit_dec dChain dLights_nil dLights_skip dLights_one dLight_nil dLight_cons dFreshes_nil dFreshes_one oneF_none oneF_some dFresh_nil dFresh_cons oneL_some oneW_true oneW_false sameV_value dPut dMay valEq arrEq listEq List.getElem?_cons Tr.get_nil dEnd
attribute [local simp] WpS_nil WpS_cons isDefer undef_false wantS_true wantS_false nextS_value nextS_skip nextS_enter callS_some gotS_some aWanted aOp aEvalF aEval opMove opAssign opPick aVal flat flat1 AAct.put opBinOp opConvert opIndex Tr.get_set Tr.get_lay aBin aResults tupled
  aCall aVals aCallB blt_dec ble_dec beq_dec aBinI_add aBinI_sub aBinI_lss aBinI_leq aBinI_gtr aBinI_geq aBinI_eql aBinI_neq index_str len_str len_slice Nat.beq_refl Nat.beq_refl
  opBox opLoad opFieldAddr opIndexAddr acells aAddr opExtract aExtract opUnOp opAlloc opStore opMakeInterface opNilCheck opBuild aParts opBuildSlice aValW
attribute [local simp] und2 und3 und4 und5 und9 und12 field13_0 field13_1 und21 und22 field23_0 field23_1 field24_0 field24_1 field25_0 field25_1 und28 und31 field34_0 field34_1 field34_2 field35_0 field35_1 field35_2 und46 field50_0 field50_1 field50_2 und55 und56 und58 und61 und62 und73 und75 und90 und94 und95 und96 field97_0 field97_1 field97_2 field97_3 field97_4 field97_5 field97_6 field98_0 field98_1 field98_2 field98_3 field98_4 field98_5 field98_6 und99 und106 field107_0 field107_1 field108_0 field108_1 und119 und122 field124_0 field124_1 field124_2 field125_0 field125_1 field125_2 field131_0 field131_1 field132_0 field132_1 und133 field134_0 field134_1 field135_0 field135_1 und148 und156 und160
set_option maxHeartbeats 4000000
set_option linter.unusedSimpArgs false
set_option linter.unusedVariables false
/-! ### the program's graph -/
/-- who is joined to whom by the edges -/
def JoinL (es : List Edge) (J : List Nat) : Prop := J.length = 40 ∧ ∀ (q x : Nat), J[q]? = some x → x < 1099511627776 ∧ ∀ r : Nat, x.testBit r = true ↔ ∃ i : Nat, es[i]? = some ((q : Int), (r : Int)) ∨ es[i]? = some ((r : Int), (q : Int))
def setV (x : Nat) : Value := .int .u64 (x : Int)
def Web (W : AW) (p : Nat) (P : Int) (es : List Edge) : Prop := ∃ J, JoinL es J ∧ Var W p 108 (.int .i64 P :: J.map setV)
def entsL (es : List Edge) (i : Nat) : List (Value × Value × Nat) := (List.range i).map fun j => (pr (min (es.getD j (0, 0)).1 (es.getD j (0, 0)).2) (max (es.getD j (0, 0)).1 (es.getD j (0, 0)).2), .int .i64 1, j)
theorem entsL_len (es : List Edge) (i : Nat) : (entsL es i).length = i := by simp [entsL]
theorem entsL_succ {es : List Edge} {i : Nat} {a b : Int} (h : es[i]? = some (a, b)) : entsL es (i + 1) = entsL es i ++ [(pr (min a b) (max a b), .int .i64 1, i)] := by
  simp [entsL, List.range_succ, List.getD_eq_getElem?_getD, h]
theorem entsL_get {es : List Edge} {i j : Nat} (hj : j < i) {a b : Int} (h : es[j]? = some (a, b)) : (entsL es i)[j]? = some (pr (min a b) (max a b), .int .i64 1, j) := by
  simp [entsL, List.getElem?_map, List.getElem?_range hj, List.getD_eq_getElem?_getD, h]
theorem entsL_mem {es : List Edge} {i : Nat} (hi : i ≤ es.length) {e : Value × Value × Nat} (h : e ∈ entsL es i) : ∃ j a b, j < i ∧ es[j]? = some (a, b) ∧ e = (pr (min a b) (max a b), .int .i64 1, j) := by
  simp only [entsL, List.mem_map, List.mem_range] at h
  obtain ⟨j, hj, rfl⟩ := h
  obtain ⟨⟨a, b⟩, hab⟩ : ∃ e : Edge, es[j] = e := ⟨_, rfl⟩
  have he : es[j]? = some (a, b) := by rw [List.getElem?_eq_getElem (by omega), hab]
  exact ⟨j, a, b, hj, he, by simp [List.getD_eq_getElem?_getD, he]⟩
theorem aFind_put {t : TypeId} {k v v' : Value} : ∀ {es : List (Value × Value × Nat)} {i j : Nat}, aFind T0 t k es i = some (some (i + j, v)) → aFind T0 t k (putAt es j v') i = some (some (i + j, v'))
  | [], _, _, h => by simp [aFind] at h
  | (k', w, c) :: es, i, 0, h => by
    simp only [aFind] at h
    simp only [putAt, aFind]
    split at h
    · cases h
    · rename_i h1
      split at h
      · rfl
      · have hge : ∀ (es : List (Value × Value × Nat)) (i m : Nat) (v : Value), aFind T0 t k es i = some (some (m, v)) → i ≤ m := by
          intro es
          induction es with
          | nil => intro i m v h; simp [aFind] at h
          | cons b es ih2 =>
            intro i m v h
            obtain ⟨k2, v2, c2⟩ := b
            simp only [aFind] at h
            split at h
            · cases h
            · split at h
              · simp at h; omega
              · have := ih2 _ _ _ h; omega
        have := hge _ _ _ _ h; omega
  | (k', w, c) :: es, i, j + 1, h => by
    simp only [aFind] at h
    simp only [putAt, aFind]
    split at h
    · cases h
    · rename_i h1
      split at h
      · simp at h
      · rename_i h2
        rw [show i + (j + 1) = i + 1 + j from by omega] at h ⊢
        exact aFind_put h
theorem bornAt_idx : ∀ {es : List (Value × Value × Nat)} {s i j : Nat}, (∀ (q : Nat) x, es[q]? = some x → x.2.2 = q + s) → j < es.length → bornAt (j + s) es i = some (i + j)
  | [], _, _, _, _, h => by simp at h
  | (k, v, c) :: es, s, i, 0, h, _ => by
    have := h 0 _ rfl
    simp only at this
    have hb : Nat.beq c (0 + s) = true := by rw [beq_dec]; exact decide_eq_true this
    simp only [bornAt, hb]; rfl
  | (k, v, c) :: es, s, i, j + 1, h, hl => by
    have := h 0 _ rfl
    simp only at this
    have hb : Nat.beq c (j + 1 + s) = false := by rw [beq_dec]; exact decide_eq_false (by omega)
    simp only [bornAt, hb]
    have := bornAt_idx (es := es) (s := s + 1) (i := i + 1) (j := j) (fun q x hx => by have := h (q + 1) x (by simpa using hx); omega) (by simpa using hl)
    rw [show j + 1 + s = j + (s + 1) from by omega, this]; congr 1; omega
theorem updAt_same {k v : Value} {c : Nat} : ∀ {es : List (Value × Value × Nat)} {j : Nat}, es[j]? = some (k, v, c) → updAt es j k v = es
  | [], _, h => by simp at h
  | _ :: es, 0, h => by simp at h; subst h; rfl
  | x :: es, j + 1, h => by simp only [updAt]; rw [updAt_same (by simpa using h)]
theorem putAt_last {k v v' : Value} {c : Nat} : ∀ (es : List (Value × Value × Nat)), putAt (es ++ [(k, v, c)]) es.length v' = es ++ [(k, v', c)]
  | [] => rfl
  | x :: es => by simp only [List.cons_append, List.length_cons, putAt]; rw [putAt_last es]
theorem entsL_key {es : List Edge} {i : Nat} (hi : i ≤ es.length) : ∀ e ∈ entsL es i, keyOk T0 135 e.1 = true := fun e he => by
  obtain ⟨j, a, b, _, _, rfl⟩ := entsL_mem hi he
  exact keyOk135 _ _
theorem one_bit (s r : Nat) : (1 <<< s).testBit r = decide (s = r) := by rw [Nat.one_shiftLeft, Nat.testBit_two_pow]
theorem or_bit (x s r : Nat) : (x ||| 1 <<< s).testBit r = (x.testBit r || decide (s = r)) := by rw [Nat.testBit_or, one_bit]
theorem or_lt {x s : Nat} (hx : x < 1099511627776) (hs : s < 40) : x ||| 1 <<< s < 1099511627776 := Nat.or_lt_two_pow (n := 40) hx (by rw [Nat.one_shiftLeft]; exact Nat.pow_lt_pow_right (by omega) hs)
theorem take_succ_ex {es : List Edge} {k : Nat} (p : Edge → Prop) : (∃ i : Nat, ∃ e, (es.take (k + 1))[i]? = some e ∧ p e) ↔ (∃ i : Nat, ∃ e, (es.take k)[i]? = some e ∧ p e) ∨ ∃ e, es[k]? = some e ∧ p e := by
  simp only [List.getElem?_take]
  constructor
  · rintro ⟨i, e, h1, h2⟩
    by_cases hi : i < k
    · exact .inl ⟨i, e, by rw [if_pos hi]; rw [if_pos (by omega)] at h1; exact h1, h2⟩
    · by_cases hk : i = k
      · subst hk; rw [if_pos (by omega)] at h1; exact .inr ⟨e, h1, h2⟩
      · rw [if_neg (by omega)] at h1; cases h1
  · rintro (⟨i, e, h1, h2⟩ | ⟨e, h1, h2⟩)
    · by_cases hi : i < k
      · rw [if_pos hi] at h1; exact ⟨i, e, by rw [if_pos (by omega)]; exact h1, h2⟩
      · rw [if_neg hi] at h1; cases h1
    · exact ⟨k, e, by rw [if_pos (by omega)]; exact h1, h2⟩
theorem join_ex {es : List Edge} {q r : Int} : (∃ i : Nat, es[i]? = some (q, r) ∨ es[i]? = some (r, q)) ↔ ∃ i : Nat, ∃ e, es[i]? = some e ∧ (e = (q, r) ∨ e = (r, q)) := by
  constructor
  · rintro ⟨i, h | h⟩
    · exact ⟨i, _, h, .inl rfl⟩
    · exact ⟨i, _, h, .inr rfl⟩
  · rintro ⟨i, e, h, rfl | rfl⟩
    · exact ⟨i, .inl h⟩
    · exact ⟨i, .inr h⟩
/-- the joined points, with one edge more -/
theorem joinL_add {es : List Edge} {k : Nat} {J : List Nat} (h : JoinL (es.take k) J) {a b : Nat} (he : es[k]? = some ((a : Int), (b : Int)) ∨ es[k]? = some ((b : Int), (a : Int))) (ha : a < 40) (hb : b < 40) (hab : a ≠ b) :
    JoinL (es.take (k + 1)) ((J.set a (J.getD a 0 ||| 1 <<< b)).set b (J.getD b 0 ||| 1 <<< a)) := by
  obtain ⟨hl, hh⟩ := h
  refine ⟨by simp [hl], fun q x hx => ?_⟩
  have hq : q < 40 := by have := (List.getElem?_eq_some_iff.1 hx).1; simp [hl] at this; exact this
  have hJ : ∀ i, i < 40 → J[i]? = some (J.getD i 0) := fun i hi => by
    rw [List.getD_eq_getElem?_getD, List.getElem?_eq_getElem (show i < J.length by omega)]; rfl
  have hx' : x = if q = b then J.getD b 0 ||| 1 <<< a else if q = a then J.getD a 0 ||| 1 <<< b else J.getD q 0 := by
    rw [List.getElem?_set, List.getElem?_set] at hx
    simp only [List.length_set, hl] at hx
    by_cases e1 : b = q
    · subst e1; rw [if_pos rfl, if_pos hb] at hx; rw [if_pos rfl]; exact (Option.some.inj hx).symm
    · rw [if_neg e1] at hx; rw [if_neg (fun e => e1 e.symm)]
      by_cases e2 : a = q
      · subst e2; rw [if_pos rfl, if_pos ha] at hx; rw [if_pos rfl]; exact (Option.some.inj hx).symm
      · rw [if_neg e2, hJ q hq] at hx
        rw [if_neg (fun e => e2 e.symm)]; exact (Option.some.inj hx).symm
  obtain ⟨g1, g2⟩ := hh q _ (hJ q hq)
  have hlt : x < 1099511627776 := by
    rw [hx']
    split
    · exact or_lt (hh b _ (hJ b hb)).1 ha
    · split
      · exact or_lt (hh a _ (hJ a ha)).1 hb
      · exact g1
  refine ⟨hlt, fun r => ?_⟩
  rw [join_ex, take_succ_ex, ← join_ex, ← g2 r]
  have hek : (∃ e, es[k]? = some e ∧ (e = ((q : Int), (r : Int)) ∨ e = ((r : Int), (q : Int)))) ↔ (q = a ∧ r = b) ∨ (q = b ∧ r = a) := by
    rcases he with he | he
    · rw [he]
      constructor
      · rintro ⟨e, h1, h2⟩
        cases h1
        rcases h2 with h2 | h2 <;> simp only [Prod.mk.injEq] at h2 <;> omega
      · rintro (⟨rfl, rfl⟩ | ⟨rfl, rfl⟩)
        · exact ⟨_, rfl, .inl rfl⟩
        · exact ⟨_, rfl, .inr rfl⟩
    · rw [he]
      constructor
      · rintro ⟨e, h1, h2⟩
        cases h1
        rcases h2 with h2 | h2 <;> simp only [Prod.mk.injEq] at h2 <;> omega
      · rintro (⟨rfl, rfl⟩ | ⟨rfl, rfl⟩)
        · exact ⟨_, rfl, .inr rfl⟩
        · exact ⟨_, rfl, .inl rfl⟩
  rw [hek, hx']
  by_cases e1 : q = b
  · subst e1
    rw [if_pos rfl, or_bit, Bool.or_eq_true, decide_eq_true_eq]
    constructor
    · rintro (h | h)
      · exact .inl h
      · exact .inr (.inr ⟨rfl, h.symm⟩)
    · rintro (h | ⟨h, _⟩ | ⟨_, h⟩)
      · exact .inl h
      · exact absurd h.symm hab
      · exact .inr h.symm
  · rw [if_neg e1]
    by_cases e2 : q = a
    · subst e2
      rw [if_pos rfl, or_bit, Bool.or_eq_true, decide_eq_true_eq]
      constructor
      · rintro (h | h)
        · exact .inl h
        · exact .inr (.inl ⟨rfl, h.symm⟩)
      · rintro (h | ⟨_, h⟩ | ⟨h, _⟩)
        · exact .inl h
        · exact .inr h.symm
        · exact absurd h e1
    · rw [if_neg e2]
      constructor
      · exact .inl
      · rintro (h | ⟨h, _⟩ | ⟨h, _⟩)
        · exact h
        · exact absurd h e2
        · exact absurd h e1

end Go.Proofs.YtdpnplanohgecaaDoor

open Go Go.Eng
namespace Go.Proofs.YtdpnplanohgecaaDoor
attribute [local congr] undef_congr WpK.congr WpS.congr WpL.congr WpC.congr WpF.congr gotS.congr callS.congr nextS.congr wantS.congr condS.congr
attribute [local irreducible] WpK
attribute [local simp] WpDr_nil WpDr_cons atS_some dwantS_true dwantS_false kindS_light kindS_float kindS_heavy lightS_value floatS_some heavyS_value heavyS_skip heavyS_enter dcallS_some doneS_eq
  isLight isFloat isPlain dLook testBit_dec dChain dLights_nil dLights_skip dLights_one dLight_nil dLight_cons dFreshes_nil dFreshes_one oneF_none oneF_some dFresh_nil dFresh_cons oneL_some oneW_true oneW_false sameV_value dPut dMay valEq arrEq listEq List.getElem?_cons Tr.get_nil dEnd
attribute [local simp] WpS_nil WpS_cons isDefer undef_false wantS_true wantS_false nextS_value nextS_skip nextS_enter callS_some gotS_some aWanted aOp aEvalF aEval opMove opAssign opPick aVal flat flat1 AAct.put opBinOp opConvert opIndex Tr.get_set Tr.get_lay aBin aResults tupled
  aCall aVals aCallB blt_dec ble_dec beq_dec aBinI_add aBinI_sub aBinI_lss aBinI_leq aBinI_gtr aBinI_geq aBinI_eql aBinI_neq index_str len_str len_slice Nat.beq_refl Nat.beq_refl
  opBox opLoad opFieldAddr opIndexAddr acells aAddr opExtract aExtract opUnOp opAlloc opStore opMakeInterface opNilCheck opBuild aParts opBuildSlice aValW
attribute [local simp] und2 und3 und4 und5 und9 und12 field13_0 field13_1 und21 und22 field23_0 field23_1 field24_0 field24_1 field25_0 field25_1 und28 und31 field34_0 field34_1 field34_2 field35_0 field35_1 field35_2 und46 field50_0 field50_1 field50_2 und55 und56 und58 und61 und62 und73 und75 und90 und94 und95 und96 field97_0 field97_1 field97_2 field97_3 field97_4 field97_5 field97_6 field98_0 field98_1 field98_2 field98_3 field98_4 field98_5 field98_6 und99 und106 field107_0 field107_1 field108_0 field108_1 und119 und122 field124_0 field124_1 field124_2 field125_0 field125_1 field125_2 field131_0 field131_1 field132_0 field132_1 und133 field134_0 field134_1 field135_0 field135_1 und148 und156 und160
set_option maxHeartbeats 4000000
set_option linter.unusedSimpArgs false
set_option linter.unusedVariables false
theorem w1 : IntKind.i64.wrap 1 = 1 := by decide
theorem w2 : IntKind.i64.wrap 2 = 2 := by decide
/-! ### laying a graph -/
theorem max_int (k : IntKind) (a b : Int) : aMinMax true (.int k a) [.int k b] = some (.int k (max a b)) := mm_max k k a b
theorem setBlk_get (W : AW) (r : Nat) (o : ABlk) (b : Nat) : (AW.mk (W.blocks.set r o) W.next).blocks.get b = if b = r then some o else W.blocks.get b := by simp only [Tr.get_set]
theorem setBlk_only (W : AW) (r : Nat) (o : ABlk) : Only (fun b => b = r) W ⟨W.blocks.set r o, W.next⟩ := ⟨Nat.le_refl _, fun b _ hb => by rw [setBlk_get, if_neg hb]⟩
theorem look135 {W : AW} {pm : Nat} {es : List (Value × Value × Nat)} {ck : Nat} (hm : W.blocks.get pm = some ⟨.map es ck, []⟩) (a b : Int) : aLookup T0 W 133 (.map (some pm)) (pr a b) false = match aFind T0 135 (pr a b) es 0 with
    | some (some (_, v)) => some v
    | some none => some (.int .i64 0)
    | none => none := by
  simp only [aLookup, und133, keyOk135, aEntries, hm]
  split
  · rename_i h; simp only [h, aOkd]
  · rename_i h; simp only [h, zero3, aOkd]
  · rename_i h; simp only [h]
theorem entry135_new {W : AW} {pm : Nat} {es : List (Value × Value × Nat)} {ck : Nat} (hm : W.blocks.get pm = some ⟨.map es ck, []⟩) (a b : Int) (hf : aFind T0 135 (pr a b) es 0 = some none) :
    aMapEntry T0 W 133 (.map (some pm)) (pr a b) = some (.tuple ⟨[.int .i64 0, .int .i64 ck]⟩, ⟨W.blocks.set pm ⟨.map (es ++ [(pr a b, .int .i64 0, ck)]) (ck + 1), []⟩, W.next⟩) := by
  simp only [aMapEntry, und133, keyOk135, hm, hf, zero3]
theorem entry135_old {W : AW} {pm : Nat} {es : List (Value × Value × Nat)} {ck : Nat} (hm : W.blocks.get pm = some ⟨.map es ck, []⟩) (a b : Int) {i n : Nat} {v : Value} (hf : aFind T0 135 (pr a b) es 0 = some (some (i, v))) (hi : es[i]? = some (pr a b, v, n)) :
    aMapEntry T0 W 133 (.map (some pm)) (pr a b) = some (.tuple ⟨[v, .int .i64 n]⟩, ⟨W.blocks.set pm ⟨.map es ck, []⟩, W.next⟩) := by
  simp only [aMapEntry, und133, keyOk135, hm, hf, hi, updAt_same hi]
theorem eStore {W : AW} {pm : Nat} {es : List (Value × Value × Nat)} {ck : Nat} (hm : W.blocks.get pm = some ⟨.map es ck, []⟩) (b i : Nat) (v : Value) (hb : bornAt b es 0 = some i) :
    aEntryStore W (.map (some pm)) (.int .i64 (b : Int)) v = some ⟨W.blocks.set pm ⟨.map (putAt es i v) ck, []⟩, W.next⟩ := by
  show aEntryStore W (.map (some pm)) (.int .i64 (Int.ofNat b)) v = _
  simp only [aEntryStore, hm, hb]
theorem getD_set_ne {J : List Nat} {a b x : Nat} (h : a ≠ b) : (J.set a x).getD b 0 = J.getD b 0 := by
  rw [List.getD_eq_getElem?_getD, List.getElem?_set, if_neg h, ← List.getD_eq_getElem?_getD]
theorem setV_set (P : Int) (J : List Nat) (a x : Nat) : (Value.int .i64 P :: J.map setV).set (1 + a) (setV x) = .int .i64 P :: (J.set a x).map setV := by
  rw [show 1 + a = a + 1 from by omega, List.set_cons_succ, List.map_set]
theorem setV_get (P : Int) {J : List Nat} {a : Nat} (h : a < J.length) : (Value.int .i64 P :: J.map setV)[1 + a]? = some (setV (J.getD a 0)) := by
  rw [show 1 + a = a + 1 from by omega, List.getElem?_cons_succ, List.getElem?_map, List.getD_eq_getElem?_getD, List.getElem?_eq_getElem h]; rfl
/-- w.joined[a] |= One(b) -/
theorem joined_or {W : AW} {p a b : Nat} {P : Int} {J : List Nat} (h : Var W p 108 (.int .i64 P :: J.map setV)) (hl : J.length = 40) (ha : a < 40) (hb : b < 40) (hJ : J.getD a 0 < 1099511627776) :
    aLoadVar T0 W 96 p (1 + a) = some (setV (J.getD a 0)) ∧ aBinI .or .u64 ((J.getD a 0 : Nat) : Int) .u64 ((1 <<< b : Nat) : Int) = some (.int .u64 ((J.getD a 0 ||| 1 <<< b : Nat) : Int)) ∧
      ∃ W', aStoreVar T0 W 96 p (1 + a) (setV (J.getD a 0 ||| 1 <<< b)) = some W' ∧ W'.next = W.next ∧ Only (fun x => x = p) W W' ∧ Var W' p 108 (.int .i64 P :: (J.set a (J.getD a 0 ||| 1 <<< b)).map setV) := by
  refine ⟨h.load1 (T := T0) und96 rfl (setV_get P (by omega)), aBinI_or .u64 _ _ (Nat.lt_trans hJ (by decide)) ?_, ?_⟩
  · rw [Nat.one_shiftLeft]; exact Nat.lt_trans (Nat.pow_lt_pow_right (by omega) hb) (by decide)
  · obtain ⟨W', g1, g2, g3, g4⟩ := var_store1 (t := 96) (v := setV (J.getD a 0 ||| 1 <<< b)) (o := 1 + a) h inf96 is96 rfl rfl (by simp [hl]; omega)
    rw [setV_set] at g4
    exact ⟨W', g1, g2, g3, g4⟩

theorem aFind_snoc {t : TypeId} {k k' v : Value} {c : Nat} (hk : keyOk T0 t k' = true) (hkk : keyEq k k' = true) : ∀ {es : List (Value × Value × Nat)} {i : Nat}, (∀ e ∈ es, keyOk T0 t e.1 = true) → (∀ e ∈ es, keyEq k e.1 = false) → aFind T0 t k (es ++ [(k', v, c)]) i = some (some (i + es.length, v))
  | [], i, _, _ => by simp only [List.nil_append, aFind, hk, hkk]; rfl
  | (k2, v2, c2) :: es, i, h1, h2 => by
    have a1 : keyOk T0 t k2 = true := h1 _ (List.mem_cons_self ..)
    have a2 : keyEq k k2 = false := h2 _ (List.mem_cons_self ..)
    simp only [List.cons_append, aFind, a1, a2]
    rw [aFind_snoc hk hkk (fun e he => h1 e (List.mem_cons_of_mem _ he)) (fun e he => h2 e (List.mem_cons_of_mem _ he))]
    simp only [List.length_cons]
    rw [show i + 1 + es.length = i + (es.length + 1) from by omega]

end Go.Proofs.YtdpnplanohgecaaDoor

open Go Go.Eng
namespace Go.Proofs.YtdpnplanohgecaaDoor
attribute [local congr] undef_congr WpK.congr WpS.congr WpL.congr WpC.congr WpF.congr gotS.congr callS.congr nextS.congr wantS.congr condS.congr
attribute [local irreducible] WpK
attribute [local simp] WpDr_nil WpDr_cons atS_some dwantS_true dwantS_false kindS_light kindS_float kindS_heavy lightS_value floatS_some heavyS_value heavyS_skip heavyS_enter dcallS_some doneS_eq
  isLight isFloat isPlain dLook testBit_dec dChain dLights_nil dLights_skip dLights_one dLight_nil dLight_cons dFreshes_nil dFreshes_one oneF_none oneF_some dFresh_nil dFresh_cons oneL_some oneW_true oneW_false sameV_value dPut dMay valEq arrEq listEq List.getElem?_cons Tr.get_nil dEnd
attribute [local simp] WpS_nil WpS_cons isDefer undef_false wantS_true wantS_false nextS_value nextS_skip nextS_enter callS_some gotS_some aWanted aOp aEvalF aEval opMove opAssign opPick aVal flat flat1 AAct.put opBinOp opConvert opIndex Tr.get_set Tr.get_lay aBin aResults tupled
  aCall aVals aCallB blt_dec ble_dec beq_dec aBinI_add aBinI_sub aBinI_lss aBinI_leq aBinI_gtr aBinI_geq aBinI_eql aBinI_neq index_str len_str len_slice Nat.beq_refl Nat.beq_refl
  opBox opLoad opFieldAddr opIndexAddr acells aAddr opExtract aExtract opUnOp opAlloc opStore opMakeInterface opNilCheck opBuild aParts opBuildSlice aValW
attribute [local simp] und2 und3 und4 und5 und9 und12 field13_0 field13_1 und21 und22 field23_0 field23_1 field24_0 field24_1 field25_0 field25_1 und28 und31 field34_0 field34_1 field34_2 field35_0 field35_1 field35_2 und46 field50_0 field50_1 field50_2 und55 und56 und58 und61 und62 und73 und75 und90 und94 und95 und96 field97_0 field97_1 field97_2 field97_3 field97_4 field97_5 field97_6 field98_0 field98_1 field98_2 field98_3 field98_4 field98_5 field98_6 und99 und106 field107_0 field107_1 field108_0 field108_1 und119 und122 field124_0 field124_1 field124_2 field125_0 field125_1 field125_2 field131_0 field131_1 field132_0 field132_1 und133 field134_0 field134_1 field135_0 field135_1 und148 und156 und160
set_option maxHeartbeats 4000000
set_option linter.unusedSimpArgs false
set_option linter.unusedVariables false
/-! ### laying a graph: the walk -/
theorem load25 {W : AW} {p : Nat} {x y : Value} (h : Var W p 25 [x, y]) : aLoadVar T0 W 25 p 0 = some (.agg ⟨[x, y]⟩) := h.load (T := T0) und25 agg25 inf25 is25
theorem load24 {W : AW} {p : Nat} {x y : Value} (h : Var W p 24 [x, y]) : aLoadVar T0 W 24 p 0 = some (.agg ⟨[x, y]⟩) := h.load (T := T0) und24 agg24 inf24 is24
theorem load135 {W : AW} {p : Nat} {x y : Int} (h : Var W p 135 [.int .i64 x, .int .i64 y]) : aLoadVar T0 W 135 p 0 = some (pr x y) := h.load (T := T0) und135 agg135 inf135 is135
/-- what stands while a graph is laid -/
structure Laying (W : AW) (pw pm : Nat) (P : Int) (es : List Edge) (i : Nat) : Prop where
  web : Web W pw P (es.take i)
  map : W.blocks.get pm = some ⟨.map (entsL es i) i, []⟩
  lt : pm < W.next
theorem Laying.keep {W W' : AW} {pw pm : Nat} {P : Int} {es : List Edge} {i : Nat} {K : Nat → Prop} (h : Laying W pw pm P es i) (hO : Only K W W') (h1 : ¬ K pw) (h2 : ¬ K pm) : Laying W' pw pm P es i where
  web := let ⟨J, g1, g2⟩ := h.web; ⟨J, g1, g2.only hO h1⟩
  map := (hO.2 pm h.lt h2).trans h.map
  lt := Nat.lt_of_lt_of_le h.lt hO.1
theorem lay_wp {W : AW} {v : Value} (P : Int) {es : List Edge} (h : PairR W v es) (hl : es.length < 4611686018427387904) :
    WpF T0 54 [.agg ⟨[.int .i64 P, v]⟩] W (fun u W' => Ext W W' ∧ ((GraphOk P es ∧ ∃ p, W.next ≤ p ∧ u = .tuple ⟨[.pointer (some ⟨p, 0, none⟩), .int .i64 0]⟩ ∧ Web W' p P es) ∨ (¬ GraphOk P es ∧ u = .tuple ⟨[.pointer none, .int .i64 40]⟩))) := by
  refine wpF fun54 rfl ?_
  obtain ⟨W1, hW1, hE1, hn1, hV⟩ : ∃ W1, W1 = W.newCells 25 [.int .i64 P, v] ∧ Ext W W1 ∧ W1.next = W.next + 1 ∧ Var W1 W.next 25 [.int .i64 P, v] := ⟨_, rfl, .newCells _ _ _, rfl, Var.new _ _ _⟩
  have hR := h.ext hE1
  obtain ⟨A, c, hv⟩ := h.len
  have l0 : ∀ W', Ext W1 W' → aLoadVar T0 W' 3 W.next 0 = some (.int .i64 P) := fun W' hE => (hV.ext hE).load1 (T := T0) und3 rfl (j := 0) (v := .int .i64 P) rfl
  have l1 : ∀ W', Ext W1 W' → aLoadVar T0 W' 22 W.next 1 = some v := fun W' hE => (hV.ext hE).load1 (T := T0) und22 rfl (j := 1) (v := v) rfl
  have ll : ∀ W', aLen T0 W' 22 v = some (.int .i64 es.length) := fun W' => by rw [hv]; exact len_slice und22 _ _ _
  have e11 : Ext W1 W1 := .refl _ _
  try simp only [wpK_assoc]
  refine wpK_reg (fun R hR => by simp [← hW1]; exact hR) ?_
  by_cases h1 : P < 1
  · try simp only [wpK_assoc]
    refine wpK_reg (fun R hR => by simp [l0, e11, h1]; exact hR) ?_
    try simp only [wpK_assoc]
    first | refine wpK_onT (by simp []) ?_ | refine wpK_outT (by simp []) ?_ | refine wpK_condT (by simp []) ?_ | refine wpK_endT (by simp []) ?_
    try simp only [wpK_assoc]
    refine wpK_reg (fun R hR => by simp []; exact hR) ?_
    exact wpK_ret ⟨.inr rfl, rfl, [.pointer none, .int .i64 40], by simp, hE1, .inr ⟨fun hg => by have := hg.1; omega, rfl⟩⟩
  by_cases h2 : 40 < P
  · try simp only [wpK_assoc]
    refine wpK_reg (fun R hR => by simp [l0, e11, h1, h2]; exact hR) ?_
    try simp only [wpK_assoc]
    first | refine wpK_onT (by simp []) ?_ | refine wpK_outT (by simp []) ?_ | refine wpK_condT (by simp []) ?_ | refine wpK_endT (by simp []) ?_
    try simp only [wpK_assoc]
    refine wpK_reg (fun R hR => by simp []; exact hR) ?_
    exact wpK_ret ⟨.inr rfl, rfl, [.pointer none, .int .i64 40], by simp, hE1, .inr ⟨fun hg => by have := hg.2.1; omega, rfl⟩⟩
  by_cases h3 : (300 : Int) < es.length
  · try simp only [wpK_assoc]
    refine wpK_reg (fun R hR => by simp [l0, l1, e11, ll, h1, h2, h3]; exact hR) ?_
    try simp only [wpK_assoc]
    first | refine wpK_onT (by simp []) ?_ | refine wpK_outT (by simp []) ?_ | refine wpK_condT (by simp []) ?_ | refine wpK_endT (by simp []) ?_
    try simp only [wpK_assoc]
    refine wpK_reg (fun R hR => by simp []; exact hR) ?_
    exact wpK_ret ⟨.inr rfl, rfl, [.pointer none, .int .i64 40], by simp, hE1, .inr ⟨fun hg => by have := hg.2.2.1; omega, rfl⟩⟩
  try simp only [wpK_assoc]
  refine wpK_reg (fun R hR => by simp [l0, l1, e11, ll, h1, h2, h3]; exact hR) ?_
  try simp only [wpK_assoc]
  first | refine wpK_onF (by simp []) ?_ | refine wpK_out (by simp []) ?_ | refine wpK_condF (by simp []) ?_ | refine wpK_endF (by simp []) (wpK_skip ?_) | refine wpK_endF (by simp []) ?_
  obtain ⟨W2, hW2, hE2, hn2, hV2⟩ : ∃ W2, W2 = W1.newCells 108 (.int .i64 P :: zer40) ∧ Ext W1 W2 ∧ W2.next = W1.next + 1 ∧ Var W2 W1.next 108 (.int .i64 P :: zer40) := ⟨_, rfl, .newCells _ _ _, rfl, Var.new _ _ _⟩
  try simp only [wpK_assoc]
  refine wpK_reg (fun R hR => by simp [l0, e11, build108, ← hW2]; exact hR) ?_
  obtain ⟨W3, hW3, hE3, hn3, hM3⟩ : ∃ W3, W3 = W2.new (.map [] 0) ∧ Ext W2 W3 ∧ W3.next = W2.next + 1 ∧ W3.blocks.get W2.next = some ⟨.map [] 0, []⟩ := ⟨_, rfl, ⟨Nat.le_succ _, fun b hb _ => by simp only [AW.new, Tr.get_set]; rw [if_neg (by omega)]⟩, rfl, by simp only [AW.new, Tr.get_set, if_true]⟩
  try simp only [wpK_assoc]
  refine wpK_reg (fun R hR => by simp [opMakeMap, aMakeMap, aOpt, ← hW3]; exact hR) ?_
  have hE13 := hE2.trans hE3
  have hL0 : Laying W3 W1.next W2.next P es 0 := ⟨⟨List.replicate 40 0, ⟨by simp, fun q x hx => by
      have := List.getElem?_replicate (a := 0) (n := 40) (i := q)
      rw [this] at hx
      split at hx
      · cases hx; exact ⟨by omega, fun r => by simp⟩
      · cases hx⟩, by
      have e : (List.replicate 40 0).map setV = zer40 := by rw [List.map_replicate]; rfl
      rw [e]; exact hV2.ext hE3⟩, hM3, by omega⟩
  try simp only [wpK_assoc]
  refine wpK_reg (fun R hR => by simp [l1, hE13, ll]; exact hR) ?_
  obtain ⟨pw, hpw⟩ : ∃ p, p = W1.next := ⟨_, rfl⟩
  obtain ⟨pm, hpm⟩ : ∃ p, p = W2.next := ⟨_, rfl⟩
  rw [← hpw, ← hpm] at hL0
  try simp only [wpK_assoc]
  refine wpK_while (I := fun k A W' => A.n = 105 ∧ A.defers = [] ∧ A.tmps.get 1 = some (.pointer (some ⟨W.next, 0, none⟩)) ∧ A.tmps.get 4 = some (.pointer (some ⟨pw, 0, none⟩)) ∧ A.tmps.get 5 = some (.map (some pm)) ∧ A.tmps.get 29 = some (v) ∧ A.tmps.get 30 = some (.int .i64 es.length) ∧ Ext W1 W' ∧ ∃ i : Nat, A.tmps.get 31 = some (.int .i64 (i : Int)) ∧ k = es.length - i ∧ i ≤ es.length ∧ GoodTo P es i ∧ Laying W' pw pm P es i)
    (J := fun A W' => A.n = 105 ∧ A.defers = [] ∧ A.tmps.get 1 = some (.pointer (some ⟨W.next, 0, none⟩)) ∧ A.tmps.get 4 = some (.pointer (some ⟨pw, 0, none⟩)) ∧ A.tmps.get 5 = some (.map (some pm)) ∧ A.tmps.get 29 = some (v) ∧ A.tmps.get 30 = some (.int .i64 es.length) ∧ Ext W1 W' ∧ GoodTo P es es.length ∧ Laying W' pw pm P es es.length) (Rt := fun A W' => A.defers = [] ∧ Ext W1 W' ∧ A.tmps.get 2 = some (.pointer none) ∧ A.tmps.get 3 = some (.int .i64 40) ∧ ¬ GraphOk P es) (k := es.length) ?_ ?_ ?_ ?_
  · exact ⟨rfl, rfl, by simp [hpw, hpm], by simp [hpw, hpm], by simp [hpw, hpm], by simp [hpw, hpm], by simp [hpw, hpm], hE13, 0, by simp, rfl, by omega, fun i hi => by omega, hL0⟩
  · rintro k ⟨tm, n, ds⟩ Wa ⟨hn, hd, h1, h4, h5, h29, h30, hEa, i, h31, hk, hi, hg, hLa⟩ Q' hJ hRt hI
    simp only at hn hd h1 h4 h5 h29 h30
    subst hn; subst hd
    simp only at h31
    by_cases hlt : i < es.length
    case neg =>
      have e : i = es.length := by omega
      subst e
      try simp only [wpK_assoc]
      refine wpK_reg (fun R hR => by simp [h30, h31]; exact hR) ?_
      try simp only [wpK_assoc]
      first | refine wpK_onF (by simp []) ?_ | refine wpK_out (by simp []) ?_ | refine wpK_condF (by simp []) ?_ | refine wpK_endF (by simp []) (wpK_skip ?_) | refine wpK_endF (by simp []) ?_
      exact hJ _ _ ⟨rfl, rfl, by simp [h1, h4, h5, h29, h30], by simp [h1, h4, h5, h29, h30], by simp [h1, h4, h5, h29, h30], by simp [h1, h4, h5, h29, h30], by simp [h1, h4, h5, h29, h30], hEa, hg, hLa⟩
    have hlt' : (i : Int) < es.length := by omega
    try simp only [wpK_assoc]
    refine wpK_reg (fun R hR => by simp [h30, h31, hlt']; exact hR) ?_
    try simp only [wpK_assoc]
    first | refine wpK_onT (by simp []) ?_ | refine wpK_outT (by simp []) ?_ | refine wpK_condT (by simp []) ?_ | refine wpK_endT (by simp []) ?_
    obtain ⟨⟨a, b⟩, hab⟩ : ∃ e : Edge, es[i] = e := ⟨_, rfl⟩
    have ha : es[i]? = some (a, b) := by rw [List.getElem?_eq_getElem hlt, hab]
    have hRa := hR.ext hEa
    obtain ⟨q, o, hx, hh⟩ := hRa.at (T := T0) ha und22 sz55 .i64
    have lab := load55 hh
    refine wpK_block ?_
    obtain ⟨Wb, hWb, hnb, hEb, hVb⟩ := storeVar_new (T := T0) (W := Wa) (t := 55) (v := pr a b) (z := [.int .i64 0, .int .i64 0]) inf55 (by rw [is55]; rfl) (by rw [is55]; rfl) rfl
    try simp only [wpK_assoc]
    refine wpK_reg (fun R hR => by simp [h29, h31, hx, lab, zero55, hWb]; exact hR) ?_
    have la := hVb.load1 (T := T0) und3 rfl (j := 0) (v := .int .i64 a) rfl
    have lb := hVb.load1 (T := T0) und3 rfl (j := 1) (v := .int .i64 b) rfl
    obtain ⟨Wc, hWc, hnc, hEc, hVc⟩ := storeVar_new (T := T0) (W := Wb) (t := 135) (v := pr (min a b) (max a b)) (z := [.int .i64 0, .int .i64 0]) inf135 (by rw [is135]; rfl) (by rw [is135]; rfl) rfl
    try simp only [wpK_assoc]
    refine wpK_reg (fun R hR => by simp [ix55_0, ix55_1, la, lb, min_int, max_int, build135, zero135, hWc]; exact hR) ?_
    have hLc := (hLa.keep hEb (fun x => x) (fun x => x)).keep hEc (fun x => x) (fun x => x)
    have hpmlt := hLc.lt
    have hVc' : Var Wc Wb.next 135 [.int .i64 (min a b), .int .i64 (max a b)] := hVc
    have lk := fun W' (hE : Only (fun x => x = pm) Wc W') => load135 (hVc'.only hE (by have := hLa.lt; omega))
    have hEac := hEb.trans hEc
    have hE1c := hEa.trans hEac
    have hMc := hLc.map
    have hbn := hLa.lt
    have l8a : ∀ W', Only (fun x => x = pm) Wc W' → aLoadVar T0 W' 3 Wb.next 0 = some (.int .i64 (min a b)) := fun W' hE => (hVc'.only hE (by omega)).load1 (T := T0) und3 rfl (j := 0) rfl
    have l8b : ∀ W', Only (fun x => x = pm) Wc W' → aLoadVar T0 W' 3 Wb.next 1 = some (.int .i64 (max a b)) := fun W' hE => (hVc'.only hE (by omega)).load1 (T := T0) und3 rfl (j := 1) rfl
    have hkl := entsL_len es i
    have hkeys := entsL_key (es := es) (i := i) (by omega)
    have hpw1 : pw < pm := by omega
    have lP : ∀ W', Only (fun x => x = pm) Wc W' → aLoadVar T0 W' 3 W.next 0 = some (.int .i64 P) := fun W' hE => (hV.only (K := fun x => x = pm) ⟨Nat.le_trans hE1c.1 hE.1, fun b hb hk => by rw [hE.2 b (by have := hE1c.1; omega) hk, hE1c.2 b hb (fun x => x)]⟩ (by omega)).load1 (T := T0) und3 rfl (j := 0) rfl
    have hE1' : ∀ W', Only (fun x => x = pm) Wc W' → Ext W1 W' := fun W' hE => ⟨Nat.le_trans hE1c.1 hE.1, fun b hb _ => by rw [hE.2 b (by have := hE1c.1; omega) (by omega), hE1c.2 b hb (fun x => x)]⟩
    by_cases hdup : ∃ j : Nat, j < i ∧ (es[j]? = some (a, b) ∨ es[j]? = some (b, a))
    · -- an edge that was there
      have hin : ∃ e ∈ entsL es i, keyEq (pr (min a b) (max a b)) e.1 = true := by
        obtain ⟨j, hj, hj2⟩ := hdup
        rcases hj2 with hj2 | hj2
        · exact ⟨_, List.mem_of_getElem? (entsL_get hj hj2), by rw [keyEq_pr]; simp⟩
        · exact ⟨_, List.mem_of_getElem? (entsL_get hj hj2), by rw [keyEq_pr]; simp only [Bool.and_eq_true, decide_eq_true_eq]; omega⟩
      obtain ⟨j, e, hf, hje, hke⟩ := aFind_some (T := T0) (t := 135) (i := 0) hkeys hin
      have hji : j < i := by have := (List.getElem?_eq_some_iff.1 hje).1; omega
      obtain ⟨⟨c', d'⟩, hcd⟩ : ∃ e : Edge, es[j] = e := ⟨_, rfl⟩
      have hcj : es[j]? = some (c', d') := by rw [List.getElem?_eq_getElem (by omega), hcd]
      have := entsL_get hji hcj
      rw [hje] at this
      cases this
      simp only [keyEq_pr, Bool.and_eq_true, decide_eq_true_eq] at hke
      rw [← hke.1, ← hke.2] at hje
      simp only [Nat.zero_add] at hf
      have hfe := entry135_old hMc (min a b) (max a b) hf hje
      obtain ⟨Wd, hWd, hOd, hMd, hnd⟩ : ∃ Wd, Wd = (⟨Wc.blocks.set pm ⟨.map (entsL es i) i, []⟩, Wc.next⟩ : AW) ∧ Only (fun x => x = pm) Wc Wd ∧ Wd.blocks.get pm = some ⟨.map (entsL es i) i, []⟩ ∧ Wd.next = Wc.next := ⟨_, rfl, setBlk_only _ _ _, by rw [setBlk_get, if_pos rfl], rfl⟩
      rw [← hWd] at hfe
      have hbo : bornAt j (entsL es i) 0 = some j := by
        have := bornAt_idx (es := entsL es i) (s := 0) (i := 0) (j := j) (fun q x hx => by
          have hq : q < i := by have := (List.getElem?_eq_some_iff.1 hx).1; omega
          obtain ⟨⟨c2, d2⟩, hcd2⟩ : ∃ e : Edge, es[q] = e := ⟨_, rfl⟩
          have := entsL_get hq (by rw [List.getElem?_eq_getElem (show q < es.length by omega), hcd2])
          rw [hx] at this; cases this; rfl) (by omega)
        simpa using this
      have hes := eStore hMd j j (.int .i64 2) hbo
      obtain ⟨We, hWe, hOe, hMe, hne'⟩ : ∃ We, We = (⟨Wd.blocks.set pm ⟨.map (putAt (entsL es i) j (.int .i64 2)) i, []⟩, Wd.next⟩ : AW) ∧ Only (fun x => x = pm) Wd We ∧ We.blocks.get pm = some ⟨.map (putAt (entsL es i) j (.int .i64 2)) i, []⟩ ∧ We.next = Wd.next := ⟨_, rfl, setBlk_only _ _ _, by rw [setBlk_get, if_pos rfl], rfl⟩
      rw [← hWe] at hes
      have k1 := look135 hMc (min a b) (max a b)
      have k2 := look135 hMd (min a b) (max a b)
      have k3 := look135 hMe (min a b) (max a b)
      rw [hf] at k1 k2
      have hf2 := aFind_put (i := 0) (j := j) (v' := .int .i64 2) (by rw [Nat.zero_add]; exact hf)
      rw [hf2] at k3
      simp only at k1 k2 k3
      have hOce := hOd.trans hOe
      have hr0 : Only (fun x => x = pm) Wc Wc := .refl _ _
      have lk0 := lk Wc hr0
      have lkd := lk Wd hOd
      have lke := lk We hOce
      rw [pr] at lk0 lkd lke k1 k2 k3 hfe
      try simp only [wpK_assoc]
      refine wpK_dn (wr := Tr.nil |>.set 46 0 |>.set 47 1 |>.set 48 2 |>.set 49 3 |>.set 50 4 |>.set 51 5) (bits := Tr.nil.lay 0 [0, 0, 3, 7, 3, 19, 63]) (ord := [0, 1, 2, 3, 4, 5, 6]) (by kernel_rfl) (by kernel_rfl) (by kernel_rfl) (fun G hG => by
        simp [h5, lk0, lkd, opLookup, k1, k2, opMapEntry, hfe, opEntryStore, hes, hnd, hne', w1, w2]
        exact hG) ?_
      refine wpK_keep (fun tm' => tm'.get 1 = some (.pointer (some ⟨W.next, 0, none⟩)) ∧ tm'.get 4 = some (.pointer (some ⟨pw, 0, none⟩)) ∧ tm'.get 5 = some (.map (some pm)) ∧ tm'.get 8 = some (.pointer (some ⟨Wb.next, 0, none⟩)) ∧ tm'.get 29 = some (v) ∧ tm'.get 30 = some (.int .i64 es.length) ∧ tm'.get 31 = some (.int .i64 (i : Int))) ⟨by simp [h1, h4, h5, h29, h30, h31], by simp [h1, h4, h5, h29, h30, h31], by simp [h1, h4, h5, h29, h30, h31], by simp [h1, h4, h5, h29, h30, h31], by simp [h1, h4, h5, h29, h30, h31], by simp [h1, h4, h5, h29, h30, h31], by simp [h1, h4, h5, h29, h30, h31]⟩ ?_
      rintro tm ⟨h1, h4, h5, h8, h29, h30, h31⟩
      have hE1e := hE1' We hOce
      have hbad : ¬ GraphOk P es := fun hG => by
        have hij := (hG.2.2.2 i hlt a b ha).2.2.2.2.2 j hji
        rw [hcj] at hij
        have : (c' = a ∧ d' = b) ∨ (c' = b ∧ d' = a) := by omega
        rcases this with ⟨rfl, rfl⟩ | ⟨rfl, rfl⟩
        · exact hij.1 rfl
        · exact hij.2 rfl
      obtain ⟨i1, i2, i3, i4, i5, _⟩ := hg j hji c' d' hcj
      have n1 : ¬ min a b < 0 := by omega
      have n2 : ¬ P ≤ max a b := by omega
      have n3 : ¬ min a b = max a b := by omega
      try simp only [wpK_assoc]
      refine wpK_reg (fun R hR => by simp [h1, h5, h8, l8a We hOce, l8b We hOce, lP We hOce, lke, opLookup, k3, n1, n2, n3]; exact hR) ?_
      try simp only [wpK_assoc]
      first | refine wpK_onT (by simp []) ?_ | refine wpK_outT (by simp []) ?_ | refine wpK_condT (by simp []) ?_ | refine wpK_endT (by simp []) ?_
      try simp only [wpK_assoc]
      refine wpK_reg (fun R hR => by simp []; exact hR) ?_
      exact wpK_ret (hRt _ _ ⟨rfl, hE1e, by simp, by simp, hbad⟩)
    · -- a new one
      have hnew : ∀ j, j < i → es[j]? ≠ some (a, b) ∧ es[j]? ≠ some (b, a) := fun j hj => ⟨fun e => hdup ⟨j, hj, .inl e⟩, fun e => hdup ⟨j, hj, .inr e⟩⟩
      have hne : ∀ e ∈ entsL es i, keyEq (pr (min a b) (max a b)) e.1 = false := fun e he => by
        obtain ⟨j, c', d', hj, hcd, rfl⟩ := entsL_mem (by omega) he
        have := hnew j hj
        rw [hcd] at this
        have e1 : ¬ (c' = a ∧ d' = b) := fun e => this.1 (by rw [e.1, e.2])
        have e2 : ¬ (c' = b ∧ d' = a) := fun e => this.2 (by rw [e.1, e.2])
        simp only [keyEq_pr, Bool.and_eq_false_iff, decide_eq_false_iff_not]
        omega
      have hf := aFind_none (T := T0) (t := 135) (i := 0) hkeys hne
      have hfe := entry135_new hMc (min a b) (max a b) hf
      obtain ⟨Wd, hWd, hOd, hMd, hnd⟩ : ∃ Wd, Wd = (⟨Wc.blocks.set pm ⟨.map (entsL es i ++ [(pr (min a b) (max a b), .int .i64 0, i)]) (i + 1), []⟩, Wc.next⟩ : AW) ∧ Only (fun x => x = pm) Wc Wd ∧ Wd.blocks.get pm = some ⟨.map (entsL es i ++ [(pr (min a b) (max a b), .int .i64 0, i)]) (i + 1), []⟩ ∧ Wd.next = Wc.next := ⟨_, rfl, setBlk_only _ _ _, by rw [setBlk_get, if_pos rfl], rfl⟩
      rw [← hWd] at hfe
      have hbo : bornAt i (entsL es i ++ [(pr (min a b) (max a b), .int .i64 0, i)]) 0 = some i := by
        have := bornAt_idx (es := entsL es i ++ [(pr (min a b) (max a b), .int .i64 0, i)]) (s := 0) (i := 0) (j := i) (fun q x hx => by
          by_cases hq : q < i
          · rw [List.getElem?_append_left (by omega)] at hx
            obtain ⟨⟨c2, d2⟩, hcd2⟩ : ∃ e : Edge, es[q] = e := ⟨_, rfl⟩
            have := entsL_get hq (by rw [List.getElem?_eq_getElem (show q < es.length by omega), hcd2])
            rw [hx] at this; cases this; rfl
          · rw [List.getElem?_append_right (by omega), hkl] at hx
            have hq0 : q - i = 0 := by have := (List.getElem?_eq_some_iff.1 hx).1; simp at this; omega
            rw [hq0] at hx; cases hx
            simp only; omega) (by simp [hkl])
        simpa using this
      have hes := eStore hMd i i (.int .i64 1) hbo
      have hput : putAt (entsL es i ++ [(pr (min a b) (max a b), .int .i64 0, i)]) i (.int .i64 1) = entsL es (i + 1) := by
        have := putAt_last (k := pr (min a b) (max a b)) (v := .int .i64 0) (v' := .int .i64 1) (c := i) (entsL es i)
        rw [hkl] at this
        rw [this, entsL_succ ha]
      rw [hput] at hes
      obtain ⟨We, hWe, hOe, hMe, hne'⟩ : ∃ We, We = (⟨Wd.blocks.set pm ⟨.map (entsL es (i + 1)) (i + 1), []⟩, Wd.next⟩ : AW) ∧ Only (fun x => x = pm) Wd We ∧ We.blocks.get pm = some ⟨.map (entsL es (i + 1)) (i + 1), []⟩ ∧ We.next = Wd.next := ⟨_, rfl, setBlk_only _ _ _, by rw [setBlk_get, if_pos rfl], rfl⟩
      rw [← hWe] at hes
      have k1 := look135 hMc (min a b) (max a b)
      have k2 := look135 hMd (min a b) (max a b)
      have k3 := look135 hMe (min a b) (max a b)
      have kself : keyEq (pr (min a b) (max a b)) (pr (min a b) (max a b)) = true := by rw [keyEq_pr]; simp
      have hfd := aFind_snoc (t := 135) (v := .int .i64 0) (c := i) (keyOk135 (min a b) (max a b)) kself (i := 0) hkeys hne
      have hfe3 := aFind_snoc (t := 135) (v := .int .i64 1) (c := i) (keyOk135 (min a b) (max a b)) kself (i := 0) hkeys hne
      rw [← entsL_succ ha] at hfe3
      rw [hf] at k1
      rw [hfd] at k2
      rw [hfe3] at k3
      simp only at k1 k2 k3
      have hOce := hOd.trans hOe
      have hr0 : Only (fun x => x = pm) Wc Wc := .refl _ _
      have lk0 := lk Wc hr0
      have lkd := lk Wd hOd
      have lke := lk We hOce
      rw [pr] at lk0 lkd lke k1 k2 k3 hfe
      try simp only [wpK_assoc]
      refine wpK_dn (wr := Tr.nil |>.set 46 0 |>.set 47 1 |>.set 48 2 |>.set 49 3 |>.set 50 4 |>.set 51 5) (bits := Tr.nil.lay 0 [0, 0, 3, 7, 3, 19, 63]) (ord := [0, 1, 2, 3, 4, 5, 6]) (by kernel_rfl) (by kernel_rfl) (by kernel_rfl) (fun G hG => by
        simp [h5, lk0, lkd, opLookup, k1, k2, opMapEntry, hfe, opEntryStore, hes, hnd, hne', w1, w2]
        exact hG) ?_
      refine wpK_keep (fun tm' => tm'.get 1 = some (.pointer (some ⟨W.next, 0, none⟩)) ∧ tm'.get 4 = some (.pointer (some ⟨pw, 0, none⟩)) ∧ tm'.get 5 = some (.map (some pm)) ∧ tm'.get 8 = some (.pointer (some ⟨Wb.next, 0, none⟩)) ∧ tm'.get 29 = some (v) ∧ tm'.get 30 = some (.int .i64 es.length) ∧ tm'.get 31 = some (.int .i64 (i : Int))) ⟨by simp [h1, h4, h5, h29, h30, h31], by simp [h1, h4, h5, h29, h30, h31], by simp [h1, h4, h5, h29, h30, h31], by simp [h1, h4, h5, h29, h30, h31], by simp [h1, h4, h5, h29, h30, h31], by simp [h1, h4, h5, h29, h30, h31], by simp [h1, h4, h5, h29, h30, h31]⟩ ?_
      rintro tm ⟨h1, h4, h5, h8, h29, h30, h31⟩
      have hE1e := hE1' We hOce
      have hbad : ¬ (0 ≤ a ∧ a < P ∧ 0 ≤ b ∧ b < P ∧ a ≠ b) → ¬ GraphOk P es := fun hn hG => by
        have := hG.2.2.2 i hlt a b ha
        exact hn ⟨this.1, this.2.1, this.2.2.1, this.2.2.2.1, this.2.2.2.2.1⟩
      by_cases n1 : min a b < 0
      · try simp only [wpK_assoc]
        refine wpK_reg (fun R hR => by simp [h1, h5, h8, l8a We hOce, l8b We hOce, lP We hOce, lke, opLookup, k3, n1]; exact hR) ?_
        try simp only [wpK_assoc]
        first | refine wpK_onT (by simp []) ?_ | refine wpK_outT (by simp []) ?_ | refine wpK_condT (by simp []) ?_ | refine wpK_endT (by simp []) ?_
        try simp only [wpK_assoc]
        refine wpK_reg (fun R hR => by simp []; exact hR) ?_
        exact wpK_ret (hRt _ _ ⟨rfl, hE1e, by simp, by simp, hbad (by omega)⟩)
      by_cases n2 : P ≤ max a b
      · try simp only [wpK_assoc]
        refine wpK_reg (fun R hR => by simp [h1, h5, h8, l8a We hOce, l8b We hOce, lP We hOce, lke, opLookup, k3, n1, n2]; exact hR) ?_
        try simp only [wpK_assoc]
        first | refine wpK_onT (by simp []) ?_ | refine wpK_outT (by simp []) ?_ | refine wpK_condT (by simp []) ?_ | refine wpK_endT (by simp []) ?_
        try simp only [wpK_assoc]
        refine wpK_reg (fun R hR => by simp []; exact hR) ?_
        exact wpK_ret (hRt _ _ ⟨rfl, hE1e, by simp, by simp, hbad (by omega)⟩)
      by_cases n3 : min a b = max a b
      · have n1' : ¬ max a b < 0 := by omega
        try simp only [wpK_assoc]
        refine wpK_reg (fun R hR => by simp [h1, h5, h8, l8a We hOce, l8b We hOce, lP We hOce, lke, opLookup, k3, n1, n1', n2, n3]; exact hR) ?_
        try simp only [wpK_assoc]
        first | refine wpK_onT (by simp []) ?_ | refine wpK_outT (by simp []) ?_ | refine wpK_condT (by simp []) ?_ | refine wpK_endT (by simp []) ?_
        try simp only [wpK_assoc]
        refine wpK_reg (fun R hR => by simp []; exact hR) ?_
        exact wpK_ret (hRt _ _ ⟨rfl, hE1e, by simp, by simp, hbad (by omega)⟩)
      try simp only [wpK_assoc]
      refine wpK_reg (fun R hR => by simp [h1, h5, h8, l8a We hOce, l8b We hOce, lP We hOce, lke, opLookup, k3, n1, n2, n3]; exact hR) ?_
      try simp only [wpK_assoc]
      first | refine wpK_onF (by simp []) ?_ | refine wpK_out (by simp []) ?_ | refine wpK_condF (by simp []) ?_ | refine wpK_endF (by simp []) (wpK_skip ?_) | refine wpK_endF (by simp []) ?_
      obtain ⟨x, hx'⟩ : ∃ x : Nat, min a b = x := ⟨(min a b).toNat, by omega⟩
      obtain ⟨y, hy'⟩ : ∃ y : Nat, max a b = y := ⟨(max a b).toNat, by omega⟩
      have hx40 : x < 40 := by omega
      have hy40 : y < 40 := by omega
      have hek : es[i]? = some ((x : Int), (y : Int)) ∨ es[i]? = some ((y : Int), (x : Int)) := by
        rw [ha]
        by_cases hle : a ≤ b
        · left; rw [← hx', ← hy', show min a b = a by omega, show max a b = b by omega]
        · right; rw [← hx', ← hy', show min a b = b by omega, show max a b = a by omega]
      have hLe : ∃ J, JoinL (es.take i) J ∧ Var We pw 108 (.int .i64 P :: J.map setV) := by
        obtain ⟨J, g1, g2⟩ := hLc.web
        exact ⟨J, g1, g2.only hOce (by omega)⟩
      obtain ⟨J, hJ0, hJV⟩ := hLe
      have hJl := hJ0.1
      have hJx : ∀ q, q < 40 → J.getD q 0 < 1099511627776 := fun q hq => (hJ0.2 q _ (by rw [List.getD_eq_getElem?_getD, List.getElem?_eq_getElem (show q < J.length by omega)]; rfl)).1
      have m8a := l8a We hOce
      have m8b := l8b We hOce
      rw [hx'] at m8a
      rw [hy'] at m8b
      -- the first point
      obtain ⟨j1, j2, Wf, hf1, hf2, hf3, hf4⟩ := joined_or hJV hJl hx40 hy40 (hJx x hx40)
      have hJl2 : (J.set x (J.getD x 0 ||| 1 <<< y)).length = 40 := by simp [hJl]
      have hyx : x ≠ y := by omega
      obtain ⟨j3, j4, Wg, hg1, hg2, hg3, hg4⟩ := joined_or hf4 hJl2 hy40 hx40 (by rw [getD_set_ne hyx]; exact hJx y hy40)
      rw [getD_set_ne hyx] at j3 j4 hg1 hg4
      have ix1 := ix106 pw 1 x hx40
      have ix2 := ix106 pw 1 y hy40
      have oy := one_wp y (by omega) We
      have ox := one_wp x (by omega) Wf
      have hadd := joinL_add hJ0 hek hx40 hy40 hyx
      have hno8 : ¬ (Wb.next = pw) := by omega
      have n8a : aLoadVar T0 Wf 3 Wb.next 0 = some (.int .i64 (x : Int)) := by rw [← m8a, loadVar_cell und3 rfl, loadVar_cell und3 rfl]; exact AW.cell_of_get (hf3.2 _ (by omega) hno8) 0
      have n8b : aLoadVar T0 Wf 3 Wb.next 1 = some (.int .i64 (y : Int)) := by rw [← m8b, loadVar_cell und3 rfl, loadVar_cell und3 rfl]; exact AW.cell_of_get (hf3.2 _ (by omega) hno8) 1
      generalize J.getD x 0 = jx at j1 j2 hf1 hf4 j3 j4 hg1 hg4 hadd
      generalize J.getD y 0 = jy at j3 j4 hg1 hg4 hadd
      generalize ejx : jx ||| 1 <<< y = kx at j2 hf1 hf4 j3 hg1 hg4 hadd
      generalize ejy : jy ||| 1 <<< x = ky at j4 hg1 hg4 hadd
      generalize 1 <<< y = oy1 at oy j2
      generalize 1 <<< x = ox1 at ox j4
      rw [setV] at j1 j3 hf1 hg1
      try simp only [wpK_assoc]
      refine wpK_dn (wr := Tr.nil |>.set 75 0 |>.set 76 1 |>.set 77 2 |>.set 78 3 |>.set 79 4 |>.set 80 5 |>.set 81 6 |>.set 82 7 |>.set 83 8 |>.set 84 9 |>.set 85 10 |>.set 86 11 |>.set 87 12 |>.set 88 13) (bits := Tr.nil.lay 0 [0, 0, 2, 1, 9, 31, 63, 0, 128, 384, 1023, 1, 2049, 8191, 16383]) (ord := [0, 1, 2, 3, 4, 5, 6, 7, 8, 9, 10, 11, 12, 13, 14]) (by kernel_rfl) (by kernel_rfl) (by kernel_rfl) (fun G hG => by
        simp [h4, h8, m8a, m8b, ix1, j1, aEnter, fun68, short_other, aCallV]
        rw [dcallS_none]
        refine oy.mono ?_
        rintro _ W9 ⟨e9, rfl⟩; subst W9
        simp [h4, h8, m8a, m8b, ix1, j1, j2, hf1, hf2]
        exact hG) ?_
      refine wpK_keep (fun tm' => tm'.get 1 = some (.pointer (some ⟨W.next, 0, none⟩)) ∧ tm'.get 4 = some (.pointer (some ⟨pw, 0, none⟩)) ∧ tm'.get 5 = some (.map (some pm)) ∧ tm'.get 8 = some (.pointer (some ⟨Wb.next, 0, none⟩)) ∧ tm'.get 29 = some (v) ∧ tm'.get 30 = some (.int .i64 es.length) ∧ tm'.get 31 = some (.int .i64 (i : Int))) ⟨by simp [h1, h4, h5, h8, h29, h30, h31], by simp [h1, h4, h5, h8, h29, h30, h31], by simp [h1, h4, h5, h8, h29, h30, h31], by simp [h1, h4, h5, h8, h29, h30, h31], by simp [h1, h4, h5, h8, h29, h30, h31], by simp [h1, h4, h5, h8, h29, h30, h31], by simp [h1, h4, h5, h8, h29, h30, h31]⟩ ?_
      rintro tm ⟨h1, h4, h5, h8, h29, h30, h31⟩
      try simp only [wpK_assoc]
      refine wpK_qn (wr := Tr.nil |>.set 89 0 |>.set 90 1 |>.set 91 2 |>.set 92 3 |>.set 93 4 |>.set 94 5 |>.set 95 6 |>.set 96 7 |>.set 97 8 |>.set 98 9 |>.set 99 10 |>.set 100 11 |>.set 101 12 |>.set 102 13) (bits := Tr.nil.lay 0 [0, 0, 2, 1, 9, 31, 63, 0, 128, 384, 1023, 1, 2049, 8191, 16383]) (ord := [0, 1, 2, 3, 4, 5, 6, 7, 8, 9, 10, 11, 12, 13, 14]) (by kernel_rfl) (by kernel_rfl) (by kernel_rfl) (fun G hG => by
        simp [h4, h8, n8a, n8b, ix2, j3, aEnter, fun68, short_other, aCallV]
        rw [dcallS_none]
        refine ox.mono ?_
        rintro _ W9 ⟨e9, rfl⟩; subst W9
        simp [h4, h8, n8a, n8b, ix2, j3, j4, hg1, hg2]
        exact hG) ?_
      simp only [leaves_normal, behind_normal]
      refine wpK_keep (fun tm' => tm'.get 1 = some (.pointer (some ⟨W.next, 0, none⟩)) ∧ tm'.get 4 = some (.pointer (some ⟨pw, 0, none⟩)) ∧ tm'.get 5 = some (.map (some pm)) ∧ tm'.get 8 = some (.pointer (some ⟨Wb.next, 0, none⟩)) ∧ tm'.get 29 = some (v) ∧ tm'.get 30 = some (.int .i64 es.length) ∧ tm'.get 31 = some (.int .i64 (i : Int))) ⟨by simp [h1, h4, h5, h8, h29, h30, h31], by simp [h1, h4, h5, h8, h29, h30, h31], by simp [h1, h4, h5, h8, h29, h30, h31], by simp [h1, h4, h5, h8, h29, h30, h31], by simp [h1, h4, h5, h8, h29, h30, h31], by simp [h1, h4, h5, h8, h29, h30, h31], by simp [h1, h4, h5, h8, h29, h30, h31]⟩ ?_
      rintro tm ⟨h1, h4, h5, h8, h29, h30, h31⟩
      try simp only [wpK_assoc]
      refine wpK_reg1 (fun R hR => by simp [h31]; exact hR) ?_
      refine hI (es.length - (i + 1)) _ _ (by omega) ⟨rfl, rfl, by simp [h1, h4, h5, h29, h30], by simp [h1, h4, h5, h29, h30], by simp [h1, h4, h5, h29, h30], by simp [h1, h4, h5, h29, h30], by simp [h1, h4, h5, h29, h30], ?_, i + 1, by simp [i64_succ i (by omega)], rfl, by omega, hg.succ ha ⟨by omega, by omega, by omega, by omega, by omega⟩ hnew, ⟨⟨_, hadd, hg4⟩, ?_, by omega⟩⟩
      · exact ⟨by have := hE1e.1; omega, fun b hb _ => by rw [hg3.2 b (by have := hE1e.1; omega) (by omega), hf3.2 b (by have := hE1e.1; omega) (by omega), hE1e.2 b hb (fun x => x)]⟩
      · rw [hg3.2 pm (by omega) (by omega), hf3.2 pm (by omega) (by omega)]; exact hMe
  · rintro A' W' ⟨g1, g2, g3, g4, g5⟩
    exact ⟨.inr rfl, g1, [.pointer none, .int .i64 40], by simp [g3, g4], hE1.trans g2, .inr ⟨g5, rfl⟩⟩
  · rintro ⟨tm, n, ds⟩ W9 ⟨hn, hd, h1, h4, h5, h29, h30, hE9, hg, hL9⟩
    simp only at hn hd h1 h4 h5 h29 h30
    subst hn; subst hd
    try simp only [wpK_assoc]
    refine wpK_reg (fun R hR => by simp [h4]; exact hR) ?_
    exact wpK_ret ⟨.inr rfl, rfl, [.pointer (some ⟨pw, 0, none⟩), .int .i64 0], by simp, hE1.trans hE9, .inl ⟨⟨by omega, by omega, by omega, hg⟩, pw, by omega, rfl, by
      have := hL9.web; rwa [List.take_length] at this⟩⟩

end Go.Proofs.YtdpnplanohgecaaDoor

open Go Go.Eng
namespace Go.Proofs.YtdpnplanohgecaaDoor
attribute [local congr] undef_congr WpK.congr WpS.congr WpL.congr WpC.congr WpF.congr gotS.congr callS.congr nextS.congr wantS.congr condS.congr
attribute [local irreducible] WpK
attribute [local simp] WpDr_nil WpDr_cons atS_some dwantS_true dwantS_false kindS_light kindS_float kindS_heavy lightS_value floatS_some heavyS_value heavyS_skip heavyS_enter dcallS_some doneS_eq
  isLight isFloat isPlain dLook testBit_dec dChain dLights_nil dLights_skip dLights_one dLight_nil dLight_cons dFreshes_nil dFreshes_one oneF_none oneF_some dFresh_nil dFresh_cons oneL_some oneW_true oneW_false sameV_value dPut dMay valEq arrEq listEq List.getElem?_cons Tr.get_nil dEnd
attribute [local simp] WpS_nil WpS_cons isDefer undef_false wantS_true wantS_false nextS_value nextS_skip nextS_enter callS_some gotS_some aWanted aOp aEvalF aEval opMove opAssign opPick aVal flat flat1 AAct.put opBinOp opConvert opIndex Tr.get_set Tr.get_lay aBin aResults tupled
  aCall aVals aCallB blt_dec ble_dec beq_dec aBinI_add aBinI_sub aBinI_lss aBinI_leq aBinI_gtr aBinI_geq aBinI_eql aBinI_neq index_str len_str len_slice Nat.beq_refl Nat.beq_refl
  opBox opLoad opFieldAddr opIndexAddr acells aAddr opExtract aExtract opUnOp opAlloc opStore opMakeInterface opNilCheck opBuild aParts opBuildSlice aValW
attribute [local simp] und2 und3 und4 und5 und9 und12 field13_0 field13_1 und21 und22 field23_0 field23_1 field24_0 field24_1 field25_0 field25_1 und28 und31 field34_0 field34_1 field34_2 field35_0 field35_1 field35_2 und46 field50_0 field50_1 field50_2 und55 und56 und58 und61 und62 und73 und75 und90 und94 und95 und96 field97_0 field97_1 field97_2 field97_3 field97_4 field97_5 field97_6 field98_0 field98_1 field98_2 field98_3 field98_4 field98_5 field98_6 und99 und106 field107_0 field107_1 field108_0 field108_1 und119 und122 field124_0 field124_1 field124_2 field125_0 field125_1 field125_2 field131_0 field131_1 field132_0 field132_1 und133 field134_0 field134_1 field135_0 field135_1 und148 und156 und160
set_option maxHeartbeats 4000000
set_option linter.unusedSimpArgs false
set_option linter.unusedVariables false
/-! ### the calls at no graph -/
theorem lay_no {W : AW} {v : Value} {P : Int} {es : List Edge} (h : PairR W v es) (hl : es.length < 4611686018427387904) (hn : ¬ GraphOk P es) : WpF T0 54 [.agg ⟨[.int .i64 P, v]⟩] W (fun u W' => Ext W W' ∧ u = .tuple ⟨[.pointer none, .int .i64 40]⟩) :=
  (lay_wp P h hl).mono (fun u W' ⟨h1, h2⟩ => ⟨h1, by
    rcases h2 with ⟨h2, _⟩ | ⟨_, h2⟩
    · exact absurd h2 hn
    · exact h2⟩)
theorem lay_ok {W : AW} {v : Value} {P : Int} {es : List Edge} (h : PairR W v es) (hl : es.length < 4611686018427387904) (hn : GraphOk P es) : WpF T0 54 [.agg ⟨[.int .i64 P, v]⟩] W (fun u W' => Ext W W' ∧ ∃ p, W.next ≤ p ∧ u = .tuple ⟨[.pointer (some ⟨p, 0, none⟩), .int .i64 0]⟩ ∧ Web W' p P es) :=
  (lay_wp P h hl).mono (fun u W' ⟨h1, h2⟩ => ⟨h1, by
    rcases h2 with ⟨_, h2⟩ | ⟨h2, _⟩
    · exact h2
    · exact absurd hn h2⟩)
theorem pcheck_wp {W : AW} {v : Value} (P : Int) {es : List Edge} (h : PairR W v es) (hl : es.length < 4611686018427387904) : WpF T0 15 [.agg ⟨[.int .i64 P, v]⟩] W (fun u W' => Ext W W' ∧ u = .int .i64 (chkG P es)) := by
  refine wpF fun15 rfl ?_
  obtain ⟨W1, hW1, hE1, hV⟩ : ∃ W1, W1 = W.newCells 25 [.int .i64 P, v] ∧ Ext W W1 ∧ Var W1 W.next 25 [.int .i64 P, v] := ⟨_, rfl, .newCells _ _ _, Var.new _ _ _⟩
  have hl1 := load25 hV
  try simp only [wpK_assoc]
  refine wpK_reg (fun R hR => by simp [← hW1]; exact hR) ?_
  by_cases hg : GraphOk P es
  · try simp only [wpK_assoc]
    refine wpK_x1 (fun R hR => by
        simp [hl1, opExtract, aExtract, aEnter, fun54, short_other, aCallV]; rw [callS_none]
        refine (lay_ok (h.ext hE1) hl hg).mono ?_
        rintro _ W2 ⟨hE2, p, _, rfl, _⟩
        simp [hl1, opExtract, aExtract]; exact hR p W2 hE2) ?_
    rintro p W2 hE2
    try simp only [wpK_assoc]
    refine wpK_reg (fun R hR => by simp []; exact hR) ?_
    exact wpK_ret ⟨.inr rfl, rfl, [.int .i64 0], by simp, hE1.trans hE2, by rw [chkG_ok hg]; rfl⟩
  · try simp only [wpK_assoc]
    refine wpK_x0 (fun R hR => by
        simp [hl1, opExtract, aExtract, aEnter, fun54, short_other, aCallV]; rw [callS_none]
        refine (lay_no (h.ext hE1) hl hg).mono ?_
        rintro _ W2 ⟨hE2, rfl⟩
        simp [hl1, opExtract, aExtract]; exact hR W2 hE2) ?_
    rintro W2 hE2
    try simp only [wpK_assoc]
    refine wpK_reg (fun R hR => by simp []; exact hR) ?_
    exact wpK_ret ⟨.inr rfl, rfl, [.int .i64 40], by simp, hE1.trans hE2, by rw [chkG_no hg]; rfl⟩
theorem match_no {W : AW} {v : Value} {P : Int} {es : List Edge} (h : PairR W v es) (hl : es.length < 4611686018427387904) (hg : ¬ GraphOk P es) : WpF T0 17 [.agg ⟨[.int .i64 P, v]⟩] W (fun u W' => Ext W W' ∧ u = .tuple ⟨[.slice none 0 0, .int .i64 40]⟩) := by
  refine wpF fun17 rfl ?_
  obtain ⟨W1, hW1, hE1, hV⟩ : ∃ W1, W1 = W.newCells 25 [.int .i64 P, v] ∧ Ext W W1 ∧ Var W1 W.next 25 [.int .i64 P, v] := ⟨_, rfl, .newCells _ _ _, Var.new _ _ _⟩
  have hl1 := load25 hV
  try simp only [wpK_assoc]
  refine wpK_reg (fun R hR => by simp [← hW1]; exact hR) ?_
  try simp only [wpK_assoc]
  refine wpK_x0 (fun R hR => by
      simp [hl1, opExtract, aExtract, aEnter, fun54, short_other, aCallV]; rw [callS_none]
      refine (lay_no (h.ext hE1) hl hg).mono ?_
      rintro _ W2 ⟨hE2, rfl⟩
      simp [hl1, opExtract, aExtract]; exact hR W2 hE2) ?_
  rintro W2 hE2
  try simp only [wpK_assoc]
  refine wpK_reg (fun R hR => by simp []; exact hR) ?_
  try simp only [wpK_assoc]
  first | refine wpK_onT (by simp []) ?_ | refine wpK_outT (by simp []) ?_ | refine wpK_condT (by simp []) ?_ | refine wpK_endT (by simp []) ?_
  try simp only [wpK_assoc]
  refine wpK_reg (fun R hR => by simp []; exact hR) ?_
  exact wpK_ret ⟨.inr rfl, rfl, [.slice none 0 0, .int .i64 40], by simp, hE1.trans hE2, rfl⟩
theorem build35_nil : aBuild T0 35 [] = some (.agg ⟨[.slice none 0 0, .slice none 0 0, .slice none 0 0]⟩) := by kernel_rfl
theorem load35 {W : AW} {p : Nat} {x y z : Value} (h : Var W p 35 [x, y, z]) : aLoadVar T0 W 35 p 0 = some (.agg ⟨[x, y, z]⟩) := h.load (T := T0) und35 agg35 inf35 is35
theorem divide_no {W : AW} {v : Value} {P : Int} {es : List Edge} (h : PairR W v es) (hl : es.length < 4611686018427387904) (hg : ¬ GraphOk P es) : WpF T0 19 [.agg ⟨[.int .i64 P, v]⟩] W (fun u W' => Ext W W' ∧ u = .tuple ⟨[.agg ⟨[.slice none 0 0, .slice none 0 0, .slice none 0 0]⟩, .int .i64 40]⟩) := by
  refine wpF fun19 rfl ?_
  obtain ⟨W1, hW1, hE1, hV, hV2, hn1⟩ : ∃ W1, W1 = (W.newCells 25 [.int .i64 P, v]).newCells 35 [.slice none 0 0, .slice none 0 0, .slice none 0 0] ∧ Ext W W1 ∧ Var W1 W.next 25 [.int .i64 P, v] ∧ Var W1 (W.next + 1) 35 [.slice none 0 0, .slice none 0 0, .slice none 0 0] ∧ W1.next = W.next + 2 :=
    ⟨_, rfl, (Only.newCells _ _ _).trans (Only.newCells _ _ _), (Var.new _ _ _).ext (.newCells _ _ _), Var.new _ _ _, rfl⟩
  have hl1 := load25 hV
  try simp only [wpK_assoc]
  refine wpK_reg (fun R hR => by simp [zero35, newCells_next, ← hW1]; exact hR) ?_
  try simp only [wpK_assoc]
  refine wpK_x0 (fun R hR => by
      simp [hl1, opExtract, aExtract, aEnter, fun54, short_other, aCallV]; rw [callS_none]
      refine (lay_no (h.ext hE1) hl hg).mono ?_
      rintro _ W2 ⟨hE2, rfl⟩
      simp [hl1, opExtract, aExtract]; exact hR W2 hE2) ?_
  rintro W2 hE2
  try simp only [wpK_assoc]
  refine wpK_reg (fun R hR => by simp []; exact hR) ?_
  try simp only [wpK_assoc]
  first | refine wpK_onT (by simp []) ?_ | refine wpK_outT (by simp []) ?_ | refine wpK_condT (by simp []) ?_ | refine wpK_endT (by simp []) ?_
  obtain ⟨W3, g1, g2, g3, g4⟩ := (hV2.ext hE2).store (T := T0) (t := 35) (v := .agg ⟨[.slice none 0 0, .slice none 0 0, .slice none 0 0]⟩) (o := 0) inf35 (by rw [is35]; rfl) (by simp) rfl
  have hl3 := load35 (x := .slice none 0 0) (y := .slice none 0 0) (z := .slice none 0 0) (by simpa using g4)
  try simp only [wpK_assoc]
  refine wpK_reg (fun R hR => by simp [build35_nil, g1]; exact hR) ?_
  exact wpK_ret ⟨.inr rfl, rfl, [.agg ⟨[.slice none 0 0, .slice none 0 0, .slice none 0 0]⟩, .int .i64 40], by simp [hl3], ⟨by have := hE2.1; omega, fun b hb hk => by rw [g3.2 b (by have := hE2.1; omega) (by omega), hE2.2 b (by omega) hk, hE1.2 b hb hk]⟩, rfl⟩
theorem barrier_no {W : AW} {v : Value} {P : Int} {es : List Edge} (h : PairR W v es) (hl : es.length < 4611686018427387904) (hg : ¬ GraphOk P es) : WpF T0 18 [.agg ⟨[.int .i64 P, v]⟩] W (fun u W' => Ext W W' ∧ u = .tuple ⟨[.slice none 0 0, .int .i64 40]⟩) := by
  refine wpF fun18 rfl ?_
  obtain ⟨W1, hW1, hE1, hV⟩ : ∃ W1, W1 = W.newCells 25 [.int .i64 P, v] ∧ Ext W W1 ∧ Var W1 W.next 25 [.int .i64 P, v] := ⟨_, rfl, .newCells _ _ _, Var.new _ _ _⟩
  have hl1 := load25 hV
  try simp only [wpK_assoc]
  refine wpK_reg (fun R hR => by simp [← hW1]; exact hR) ?_
  try simp only [wpK_assoc]
  refine wpK_x1 (P := fun p W' => Ext W1 W' ∧ Var W' p 35 [.slice none 0 0, .slice none 0 0, .slice none 0 0]) (fun R hR => by
    simp [hl1, aEnter, fun19, short_other, aCallV]; rw [callS_none]
    refine (divide_no (h.ext hE1) hl hg).mono ?_
    rintro _ W2 ⟨hE2, rfl⟩
    obtain ⟨W3, g1, g2, g3, g4⟩ := storeVar_new (T := T0) (W := W2) (t := 35) (v := .agg ⟨[.slice none 0 0, .slice none 0 0, .slice none 0 0]⟩) (z := [.slice none 0 0, .slice none 0 0, .slice none 0 0]) inf35 (by rw [is35]; rfl) (by rw [is35]; rfl) rfl
    obtain ⟨pn, hpn⟩ : ∃ p, W2.next = p := ⟨_, rfl⟩
    rw [hpn] at g1 g4
    simp [hl1, opExtract, aExtract, zero35, hpn, g1]
    exact hR pn W3 (And.intro (hE2.trans g3) g4)) ?_
  rintro p W3 ⟨hE3, hV3⟩
  have l3 := hV3.load1 (T := T0) und31 rfl (j := 1) (v := .slice none 0 0) rfl
  try simp only [wpK_assoc]
  refine wpK_reg (fun R hR => by simp [l3]; exact hR) ?_
  exact wpK_ret ⟨.inr rfl, rfl, [.slice none 0 0, .int .i64 40], by simp, hE1.trans hE3, rfl⟩
theorem cover_no {W : AW} {v : Value} {P : Int} {es : List Edge} (h : PairR W v es) (hl : es.length < 4611686018427387904) (hg : ¬ GraphOk P es) : WpF T0 20 [.agg ⟨[.int .i64 P, v]⟩] W (fun u W' => Ext W W' ∧ u = .tuple ⟨[.slice none 0 0, .bool false, .int .i64 40]⟩) := by
  refine wpF fun20 rfl ?_
  obtain ⟨W1, hW1, hE1, hV⟩ : ∃ W1, W1 = W.newCells 25 [.int .i64 P, v] ∧ Ext W W1 ∧ Var W1 W.next 25 [.int .i64 P, v] := ⟨_, rfl, .newCells _ _ _, Var.new _ _ _⟩
  have hl1 := load25 hV
  try simp only [wpK_assoc]
  refine wpK_reg (fun R hR => by simp [← hW1]; exact hR) ?_
  try simp only [wpK_assoc]
  refine wpK_x0 (fun R hR => by
      simp [hl1, opExtract, aExtract, aEnter, fun54, short_other, aCallV]; rw [callS_none]
      refine (lay_no (h.ext hE1) hl hg).mono ?_
      rintro _ W2 ⟨hE2, rfl⟩
      simp [hl1, opExtract, aExtract]; exact hR W2 hE2) ?_
  rintro W2 hE2
  try simp only [wpK_assoc]
  refine wpK_reg (fun R hR => by simp []; exact hR) ?_
  try simp only [wpK_assoc]
  first | refine wpK_onT (by simp []) ?_ | refine wpK_outT (by simp []) ?_ | refine wpK_condT (by simp []) ?_ | refine wpK_endT (by simp []) ?_
  try simp only [wpK_assoc]
  refine wpK_reg (fun R hR => by simp []; exact hR) ?_
  exact wpK_ret ⟨.inr rfl, rfl, [.slice none 0 0, .bool false, .int .i64 40], by simp, hE1.trans hE2, rfl⟩
theorem isPairing_no {W : AW} {v m : Value} {P : Int} {es : List Edge} (h : PairR W v es) (hl : es.length < 4611686018427387904) (hg : ¬ GraphOk P es) : WpF T0 21 [.agg ⟨[.int .i64 P, v]⟩, m] W (fun u W' => Ext W W' ∧ u = .tuple ⟨[.int .i64 0, .bool false]⟩) := by
  refine wpF fun21 rfl ?_
  obtain ⟨W1, hW1, hE1, hV⟩ : ∃ W1, W1 = W.newCells 25 [.int .i64 P, v] ∧ Ext W W1 ∧ Var W1 W.next 25 [.int .i64 P, v] := ⟨_, rfl, .newCells _ _ _, Var.new _ _ _⟩
  have hl1 := load25 hV
  try simp only [wpK_assoc]
  refine wpK_reg (fun R hR => by simp [← hW1]; exact hR) ?_
  try simp only [wpK_assoc]
  refine wpK_x0 (fun R hR => by
      simp [hl1, opExtract, aExtract, aEnter, fun54, short_other, aCallV]; rw [callS_none]
      refine (lay_no (h.ext hE1) hl hg).mono ?_
      rintro _ W2 ⟨hE2, rfl⟩
      simp [hl1, opExtract, aExtract]; exact hR W2 hE2) ?_
  rintro W2 hE2
  try simp only [wpK_assoc]
  refine wpK_reg (fun R hR => by simp []; exact hR) ?_
  try simp only [wpK_assoc]
  first | refine wpK_onT (by simp []) ?_ | refine wpK_outT (by simp []) ?_ | refine wpK_condT (by simp []) ?_ | refine wpK_endT (by simp []) ?_
  try simp only [wpK_assoc]
  refine wpK_reg (fun R hR => by simp []; exact hR) ?_
  exact wpK_ret ⟨.inr rfl, rfl, [.int .i64 0, .bool false], by simp, hE1.trans hE2, rfl⟩
theorem isBarrier_no {W : AW} {v m : Value} {P : Int} {es : List Edge} (h : PairR W v es) (hl : es.length < 4611686018427387904) (hg : ¬ GraphOk P es) (k : Int) : WpF T0 22 [.agg ⟨[.int .i64 P, v]⟩, m, .int .i64 k] W (fun u W' => Ext W W' ∧ u = .bool false) := by
  refine wpF fun22 rfl ?_
  obtain ⟨W1, hW1, hE1, hV⟩ : ∃ W1, W1 = W.newCells 25 [.int .i64 P, v] ∧ Ext W W1 ∧ Var W1 W.next 25 [.int .i64 P, v] := ⟨_, rfl, .newCells _ _ _, Var.new _ _ _⟩
  have hl1 := load25 hV
  try simp only [wpK_assoc]
  refine wpK_reg (fun R hR => by simp [← hW1]; exact hR) ?_
  try simp only [wpK_assoc]
  refine wpK_x0 (fun R hR => by
      simp [hl1, opExtract, aExtract, aEnter, fun54, short_other, aCallV]; rw [callS_none]
      refine (lay_no (h.ext hE1) hl hg).mono ?_
      rintro _ W2 ⟨hE2, rfl⟩
      simp [hl1, opExtract, aExtract]; exact hR W2 hE2) ?_
  rintro W2 hE2
  try simp only [wpK_assoc]
  refine wpK_reg (fun R hR => by simp []; exact hR) ?_
  try simp only [wpK_assoc]
  first | refine wpK_onT (by simp []) ?_ | refine wpK_outT (by simp []) ?_ | refine wpK_condT (by simp []) ?_ | refine wpK_endT (by simp []) ?_
  try simp only [wpK_assoc]
  refine wpK_reg (fun R hR => by simp []; exact hR) ?_
  exact wpK_ret ⟨.inr rfl, rfl, [.bool false], by simp, hE1.trans hE2, rfl⟩
theorem give_wp {W : AW} {v : Value} (P : Int) {es : List Edge} (h : PairR W v es) : WpF T0 13 [.agg ⟨[.int .i64 P, v]⟩] W (fun u W' => Ext W W' ∧ u = .agg ⟨[.int .i64 P, v]⟩) := by
  refine wpF fun13 rfl ?_
  obtain ⟨A, c, hv⟩ := h.len
  obtain ⟨W1, hW1, hE1, hV, hV2, hn1⟩ : ∃ W1, W1 = (W.newCells 24 [.int .i64 P, v]).newCells 25 [.int .i64 0, .slice none 0 0] ∧ Ext W W1 ∧ Var W1 W.next 24 [.int .i64 P, v] ∧ Var W1 (W.next + 1) 25 [.int .i64 0, .slice none 0 0] ∧ W1.next = W.next + 2 :=
    ⟨_, rfl, (Only.newCells _ _ _).trans (Only.newCells _ _ _), (Var.new _ _ _).ext (.newCells _ _ _), Var.new _ _ _, rfl⟩
  have l0 := hV.load1 (T := T0) und3 rfl (j := 0) (v := .int .i64 P) rfl
  have l1 := hV.load1 (T := T0) und22 rfl (j := 1) (v := v) rfl
  have bb : aBuild T0 25 [(0, .int .i64 P), (1, v)] = some (.agg ⟨[.int .i64 P, v]⟩) := by rw [hv]; exact build25 _ _ _ _
  obtain ⟨W3, g1, g2, g3, g4⟩ := hV2.store (T := T0) (t := 25) (v := .agg ⟨[.int .i64 P, v]⟩) (o := 0) inf25 (by rw [is25]; rfl) (by simp) (by rw [hv]; rfl)
  have hl3 := load25 (x := .int .i64 P) (y := v) (by simpa using g4)
  try simp only [wpK_assoc]
  refine wpK_reg (fun R hR => by simp [zero25, newCells_next, ← hW1]; exact hR) ?_
  try simp only [wpK_assoc]
  refine wpK_reg (fun R hR => by simp [l0, l1, bb, g1]; exact hR) ?_
  exact wpK_ret ⟨.inr rfl, rfl, [.agg ⟨[.int .i64 P, v]⟩], by simp [hl3], ⟨by omega, fun b hb hk => by rw [g3.2 b (by omega) (by omega), hE1.2 b hb hk]⟩, rfl⟩

end Go.Proofs.YtdpnplanohgecaaDoor

open Go Go.Eng
namespace Go.Proofs.YtdpnplanohgecaaDoor
attribute [local congr] undef_congr WpK.congr WpS.congr WpL.congr WpC.congr WpF.congr gotS.congr callS.congr nextS.congr wantS.congr condS.congr
attribute [local irreducible] WpK
attribute [local simp] WpDr_nil WpDr_cons atS_some dwantS_true dwantS_false kindS_light kindS_float kindS_heavy lightS_value floatS_some heavyS_value heavyS_skip heavyS_enter dcallS_some doneS_eq
  isLight isFloat isPlain dLook testBit_dec dChain dLights_nil dLights_skip dLights_one dLight_nil dLight_cons dFreshes_nil dFreshes_one oneF_none oneF_some dFresh_nil dFresh_cons oneL_some oneW_true oneW_false sameV_value dPut dMay valEq arrEq listEq List.getElem?_cons Tr.get_nil dEnd
attribute [local simp] WpS_nil WpS_cons isDefer undef_false wantS_true wantS_false nextS_value nextS_skip nextS_enter callS_some gotS_some aWanted aOp aEvalF aEval opMove opAssign opPick aVal flat flat1 AAct.put opBinOp opConvert opIndex Tr.get_set Tr.get_lay aBin aResults tupled
  aCall aVals aCallB blt_dec ble_dec beq_dec aBinI_add aBinI_sub aBinI_lss aBinI_leq aBinI_gtr aBinI_geq aBinI_eql aBinI_neq index_str len_str len_slice Nat.beq_refl Nat.beq_refl
  opBox opLoad opFieldAddr opIndexAddr acells aAddr opExtract aExtract opUnOp opAlloc opStore opMakeInterface opNilCheck opBuild aParts opBuildSlice aValW
attribute [local simp] und2 und3 und4 und5 und9 und12 field13_0 field13_1 und21 und22 field23_0 field23_1 field24_0 field24_1 field25_0 field25_1 und28 und31 field34_0 field34_1 field34_2 field35_0 field35_1 field35_2 und46 field50_0 field50_1 field50_2 und55 und56 und58 und61 und62 und73 und75 und90 und94 und95 und96 field97_0 field97_1 field97_2 field97_3 field97_4 field97_5 field97_6 field98_0 field98_1 field98_2 field98_3 field98_4 field98_5 field98_6 und99 und106 field107_0 field107_1 field108_0 field108_1 und119 und122 field124_0 field124_1 field124_2 field125_0 field125_1 field125_2 field131_0 field131_1 field132_0 field132_1 und133 field134_0 field134_1 field135_0 field135_1 und148 und156 und160
set_option maxHeartbeats 4000000
set_option linter.unusedSimpArgs false
set_option linter.unusedVariables false
/-! ### the law PairChecks -/
theorem flt_mk31 {ρ : Operand → Option Value} {l c : Operand} (hl : ρ l = some (.int .i64 5)) (hc : ρ c = some (.int .i64 5)) : aFlt T0 ρ (.makeSlice 31 l c) = some ⟨3, [.int .i64 0, .int .i64 0, .int .i64 0, .int .i64 0, .int .i64 0], false, 5, 5⟩ := by
  have hl : ρ l = some (.int .i64 (Int.ofNat 5)) := hl
  have hc : ρ c = some (.int .i64 (Int.ofNat 5)) := hc
  simp only [aFlt, hl, hc, und31, inf3, z3, is3, by3]
  rfl
/-- copying a row, of which so much is taken -/
theorem copy_pairs {W : AW} {v : Value} {es : List Edge} (hS : SlOk v es.length) (h : PairR W v es) {k : Nat} (hk : k ≤ es.length) (hk2 : k ≤ 1000) :
    ∃ u', (∀ W', aSliceOp T0 W' 22 v none (some (.int .i64 (k : Nat))) none = some u') ∧ valEq u' u' = true ∧ ∀ Wz, Ext W Wz → ∃ v' W', aAppend T0 Wz [22, 22] [.slice none 0 0, u'] = some (v', W') ∧ Ext Wz W' ∧ GrowsN W' v' (es.take k).length (flatE encP (es.take k)) 55 2 (fun b => b = Wz.next) := by
  obtain ⟨u', h1, h2, h3⟩ := RowIn.slice (T := T0) und22 sz55 hS h hk
  refine ⟨u', h1, row_eq h3, fun Wz hE => ?_⟩
  have hlen : (es.take k).length = k := by rw [List.length_take]; omega
  obtain ⟨v', W', g1, g2, g3, g4, g5⟩ := (GrowsN.nil Wz 55 2 (fun _ => False)).appRow (T := T0) (t := 22) encP_len encP_one (by omega) und22 inf55 is55 z55 rfl (h3.ext hE) (by rw [hlen, by55]; omega) (by omega)
  exact ⟨v', W', g1, g5, by simpa using g4⟩
set_option maxRecDepth 20000 in
theorem pairChecks_wp {W : AW} {v : Value} (P : Int) {es : List Edge} (h : PairR W v es) (hS : SlOk v es.length) (hl : es.length < 9223372036854775808) (htb : tabsIn T0 T0.tabs W = true) (hW0 : 0 < W.next) :
    WpF T0 3 [.agg ⟨[.int .i64 P, v]⟩] W (fun u _ => u = .bool true) := by
  refine wpF fun3 rfl ?_
  obtain ⟨W1, hW1, hE1, hn1, hV⟩ : ∃ W1, W1 = W.newCells 24 [.int .i64 P, v] ∧ Ext W W1 ∧ W1.next = W.next + 1 ∧ Var W1 W.next 24 [.int .i64 P, v] := ⟨_, rfl, .newCells _ _ _, rfl, Var.new _ _ _⟩
  obtain ⟨A, c, hv⟩ := h.len
  obtain ⟨k, hk⟩ : ∃ k : Nat, k = min es.length 301 := ⟨_, rfl⟩
  have mk : min (es.length : Int) 301 = (k : Int) := by omega
  obtain ⟨u', hs1, hs2, hs3⟩ := copy_pairs hS (h.ext hE1) (k := k) (by omega) (by omega)
  have l0 : ∀ W', Ext W1 W' → aLoadVar T0 W' 3 W.next 0 = some (.int .i64 P) := fun W' hE => (hV.ext hE).load1 (T := T0) und3 rfl (j := 0) (v := .int .i64 P) rfl
  have l1 : ∀ W', Ext W1 W' → aLoadVar T0 W' 22 W.next 1 = some v := fun W' hE => (hV.ext hE).load1 (T := T0) und22 rfl (j := 1) (v := v) rfl
  have ll : ∀ W', aLen T0 W' 22 v = some (.int .i64 es.length) := fun W' => by rw [hv]; exact len_slice und22 _ _ _
  have vv := row_eq h
  have e11 : Ext W1 W1 := .refl _ _
  obtain ⟨Wz, hWz, hEz, hnz, hVz⟩ : ∃ Wz, Wz = W1.newCells 24 [.int .i64 0, .slice none 0 0] ∧ Ext W1 Wz ∧ Wz.next = W1.next + 1 ∧ Var Wz W1.next 24 [.int .i64 0, .slice none 0 0] := ⟨_, rfl, .newCells _ _ _, rfl, Var.new _ _ _⟩
  obtain ⟨w', W2, ha1, ha2, ha0⟩ := hs3 Wz hEz
  have ha3 : PairR W2 w' (es.take k) := ha0.row encP_len
  have hVz2 := hVz.ext ha2
  obtain ⟨B, c2, hw⟩ := ha3.len
  obtain ⟨W3, t1, t2, t3, t4⟩ := hVz2.store (T := T0) (t := 24) (v := .agg ⟨[.int .i64 P, w']⟩) (o := 0) inf24 (by rw [is24]; rfl) (by simp) (by rw [hw]; rfl)
  have hEz2 := hEz.trans ha2
  have hE13 : Ext W1 W3 := ⟨by have := hEz2.1; omega, fun b hb hk => by rw [t3.2 b (by have := hEz2.1; omega) (by omega)]; exact hEz2.2 b hb hk⟩
  have bw : aBuild T0 24 [(0, .int .i64 P), (1, w')] = some (.agg ⟨[.int .i64 P, w']⟩) := by rw [hw]; exact build24 _ _ _ _
  have fr1 : freshB Wz W1.next 24 [.int .i64 0, .slice none 0 0] = true := freshB_var hVz rfl
  have fr2 : freshB W2 W1.next 24 [.int .i64 0, .slice none 0 0] = true := freshB_var hVz2 rfl
  have hn12 := ha2.1
  have w2v := row_eq ha3
  have t4' : Var W3 W1.next 24 [.int .i64 P, w'] := by simpa using t4
  have hR3 : PairR W3 w' (es.take k) := (ha0.only t3 (fun b hb e => by omega)).row encP_len
  try simp only [wpK_assoc]
  refine wpK_reg (fun R hR => by simp [← hW1]; exact hR) ?_
  try simp only [wpK_assoc]
  refine wpK_reg (fun R hR => by simp []; exact hR) ?_
  try simp only [wpK_assoc]
  refine wpK_dn (wr := Tr.nil |>.set 18 0 |>.set 19 1 |>.set 20 2 |>.set 21 3 |>.set 22 4 |>.set 23 5 |>.set 24 6 |>.set 25 7 |>.set 26 8 |>.set 27 9 |>.set 28 10 |>.set 29 11 |>.set 4 12) (bits := Tr.nil.lay 0 [0, 1, 0, 0, 8, 0, 32, 96, 224, 504, 1020, 2047, 0, 8191]) (ord := [0, 1, 2, 3, 4, 5, 6, 7, 8, 9, 12, 10, 11, 13]) (by kernel_rfl) (by kernel_rfl) (by kernel_rfl) (fun G hG => by
    simp [opSlice, aOpt, l0, l1, e11, hEz, hEz2, hE13, ll, min_int, mk, hs1, hs2, vv, zero24, aFlt, AFlt.val, ← hWz, ha1, bw, t1, t2, hn12, fr1, fr2, newCells_next, w2v]
    exact hG) ?_
  have hE3 : Ext W W3 := hE1.trans hE13
  have htb3 := tabs_ext htb hW0 hE3
  have h03 : 0 < W3.next := by have := hE3.1; omega
  obtain ⟨b4, hb4⟩ : ∃ b, b = W1.next := ⟨_, rfl⟩
  rw [← hb4] at t4'
  have hlen : (es.take k).length < 4611686018427387904 := by rw [List.length_take]; omega
  generalize es.take k = xs at hR3 hlen
  refine wpK_keep (fun tm' => tm'.get 4 = some (.pointer (some ⟨b4, 0, none⟩))) (by simp [hb4]) ?_
  rintro tm h4
  have l4 : ∀ W', Ext W3 W' → aLoadVar T0 W' 24 b4 0 = some (.agg ⟨[.int .i64 P, w']⟩) := fun W' hE => load24 (t4'.ext hE)
  have e33 : Ext W3 W3 := .refl _ _
  clear hs1 hs3 l0 l1 ll ha1 ha2 ha0 ha3 t1 t2 t3 t4 hV hVz hVz2 fr1 fr2 h hS hWz hEz hEz2
  -- the program's graph
  try simp only [wpK_assoc]
  refine wpK_x1 (P := fun p W' => Ext W3 W' ∧ Var W' p 25 [.int .i64 P, w']) (fun R hR => by
    simp [h4, l4, e33, aEnter, fun13, short_other, aCallV]; rw [callS_none]
    refine (give_wp P hR3).mono ?_
    rintro _ W4 ⟨hE4, rfl⟩
    obtain ⟨W5, g1, g2, g3, g4⟩ := storeVar_new (T := T0) (W := W4) (t := 25) (v := .agg ⟨[.int .i64 P, w']⟩) (z := [.int .i64 0, .slice none 0 0]) inf25 (by rw [is25]; rfl) (by rw [is25]; rfl) (by rw [hw]; rfl)
    obtain ⟨pn, hpn⟩ : ∃ p, W4.next = p := ⟨_, rfl⟩
    rw [hpn] at g1 g4
    simp [zero25, hpn, g1]
    exact hR pn W5 (And.intro (hE4.trans g3) g4)) ?_
  rintro b5 W5 ⟨hE5, hV5⟩
  have l5 : ∀ W', Ext W5 W' → aLoadVar T0 W' 25 b5 0 = some (.agg ⟨[.int .i64 P, w']⟩) := fun W' hE => load25 (hV5.ext hE)
  have e55 : Ext W5 W5 := .refl _ _
  have hR5 := hR3.ext hE5
  try simp only [wpK_assoc]
  refine wpK_x0 (fun R hR => by
      simp [h4, l4, hE5, aEnter, fun14, short_other, aCallV]; rw [callS_none]
      refine (refCheck_wp P hR5 hlen).mono ?_
      rintro _ W6 ⟨hE6, rfl⟩
      simp [h4, l4, hE5]; exact hR W6 hE6) ?_
  rintro W6 hE6
  try simp only [wpK_assoc]
  refine wpK_x0 (fun R hR => by
      simp [l5, hE6, aEnter, fun15, short_other, aCallV]; rw [callS_none]
      refine (pcheck_wp P (hR5.ext hE6) hlen).mono ?_
      rintro _ W7 ⟨hE7, rfl⟩
      simp [l5, hE6]; exact hR W7 hE7) ?_
  rintro W7 hE7
  have hE57 := hE6.trans hE7
  try simp only [wpK_assoc]
  first | refine wpK_onF (by simp []) ?_ | refine wpK_out (by simp []) ?_ | refine wpK_condF (by simp []) ?_ | refine wpK_endF (by simp []) (wpK_skip ?_) | refine wpK_endF (by simp []) ?_
  by_cases hg : GraphOk P xs
  · rw [chkG_ok hg]
    try simp only [wpK_assoc]
    refine wpK_reg (fun R hR => by simp []; exact hR) ?_
    try simp only [wpK_assoc]
    first | refine wpK_onT (by simp []) ?_ | refine wpK_outT (by simp []) ?_ | refine wpK_condT (by simp []) ?_ | refine wpK_endT (by simp []) ?_
    have htb7 := tabs_ext htb3 h03 (hE5.trans hE57)
    try simp only [wpK_assoc]
    refine wpK_reg (fun R hR => by simp [short_awake, htb7, aEnter, aCallV, fun16]; exact hR) ?_
    exact wpK_ret ⟨.inr rfl, rfl, [.bool true], by simp, rfl⟩
  rw [chkG_no hg]
  try simp only [wpK_assoc]
  refine wpK_reg (fun R hR => by simp []; exact hR) ?_
  try simp only [wpK_assoc]
  first | refine wpK_onF (by simp []) ?_ | refine wpK_out (by simp []) ?_ | refine wpK_condF (by simp []) ?_ | refine wpK_endF (by simp []) (wpK_skip ?_) | refine wpK_endF (by simp []) ?_
  try simp only [wpK_assoc]
  refine wpK_x0 (fun R hR => by
      simp [l5, hE57, opExtract, aExtract, aEnter, fun17, short_other, aCallV]; rw [callS_none]
      refine (match_no (hR5.ext hE57) hlen hg).mono ?_
      rintro _ W8 ⟨hE8, rfl⟩
      simp [l5, hE57, opExtract, aExtract]; exact hR W8 hE8) ?_
  rintro W8 hE8
  have hE58 := hE57.trans hE8
  try simp only [wpK_assoc]
  refine wpK_x0 (fun R hR => by
      simp [l5, hE58, opExtract, aExtract, aEnter, fun18, short_other, aCallV]; rw [callS_none]
      refine (barrier_no (hR5.ext hE58) hlen hg).mono ?_
      rintro _ W9 ⟨hE9, rfl⟩
      simp [l5, hE58, opExtract, aExtract]; exact hR W9 hE9) ?_
  rintro W9 hE9
  have hE59 := hE58.trans hE9
  try simp only [wpK_assoc]
  refine wpK_x1 (P := fun p W' => Ext W5 W' ∧ Var W' p 35 [.slice none 0 0, .slice none 0 0, .slice none 0 0]) (fun R hR => by
    simp [l5, hE59, aEnter, fun19, short_other, aCallV]; rw [callS_none]
    refine (divide_no (hR5.ext hE59) hlen hg).mono ?_
    rintro _ Wa ⟨hEa, rfl⟩
    obtain ⟨Wb, g1, g2, g3, g4⟩ := storeVar_new (T := T0) (W := Wa) (t := 35) (v := .agg ⟨[.slice none 0 0, .slice none 0 0, .slice none 0 0]⟩) (z := [.slice none 0 0, .slice none 0 0, .slice none 0 0]) inf35 (by rw [is35]; rfl) (by rw [is35]; rfl) rfl
    obtain ⟨pn, hpn⟩ : ∃ p, Wa.next = p := ⟨_, rfl⟩
    rw [hpn] at g1 g4
    simp [opExtract, aExtract, zero35, hpn, g1]
    exact hR pn Wb (And.intro (hE59.trans (hEa.trans g3)) g4)) ?_
  rintro b11 Wb ⟨hE5b, hVb⟩
  try simp only [wpK_assoc]
  refine wpK_x0 (fun R hR => by
      simp [l5, hE5b, opExtract, aExtract, aEnter, fun20, short_other, aCallV]; rw [callS_none]
      refine (cover_no (hR5.ext hE5b) hlen hg).mono ?_
      rintro _ Wc ⟨hEc, rfl⟩
      simp [l5, hE5b, opExtract, aExtract]; exact hR Wc hEc) ?_
  rintro Wc hEc
  have hE5c := hE5b.trans hEc
  have hVc := hVb.ext hEc
  obtain ⟨Wd, hWd, hEd⟩ : ∃ Wd, Wd = Wc.newCells 3 [.int .i64 0, .int .i64 0, .int .i64 0, .int .i64 0, .int .i64 0] ∧ Ext Wc Wd := ⟨_, rfl, .newCells _ _ _⟩
  have hE5d := hE5c.trans hEd
  have frd : freshB Wd Wc.next 3 [.int .i64 0, .int .i64 0, .int .i64 0, .int .i64 0, .int .i64 0] = true := by rw [hWd]; exact freshB_new _ _ _ rfl
  have hmk := fun f => flt_mk31 (ρ := aEvalF T0 f) (l := .const (.int .i64 5)) (c := .const (.int .i64 5)) rfl rfl
  refine wpK_keep (fun tm' => tm'.get 5 = some (.pointer (some ⟨b5, 0, none⟩)) ∧ tm'.get 6 = some (.int .i64 40) ∧ tm'.get 7 = some (.slice none 0 0) ∧ tm'.get 8 = some (.int .i64 40) ∧ tm'.get 9 = some (.slice none 0 0) ∧ tm'.get 10 = some (.int .i64 40) ∧ tm'.get 11 = some (.pointer (some ⟨b11, 0, none⟩)) ∧ tm'.get 12 = some (.int .i64 40) ∧ tm'.get 13 = some (.slice none 0 0) ∧ tm'.get 14 = some (.bool false) ∧ tm'.get 15 = some (.int .i64 40)) ⟨by simp, by simp, by simp, by simp, by simp, by simp, by simp, by simp, by simp, by simp, by simp⟩ ?_
  rintro tm ⟨h5, h6, h7, h8, h9, h10, h11, h12, h13, h14, h15⟩
  try simp only [wpK_assoc]
  refine wpK_d0 (wr := Tr.nil |>.set 63 0 |>.set 64 1 |>.set 65 2 |>.set 62 3 |>.set 66 4 |>.set 67 5 |>.set 16 6 |>.set 17 7) (bits := Tr.nil.lay 0 [0, 0, 3, 7, 15, 15, 31, 127]) (ord := [0, 1, 2, 3, 4, 5, 6, 7]) (by kernel_rfl) (by kernel_rfl) (by kernel_rfl) (fun G hG => by
    simp [h5, l5, hE5c, hE5d, hmk, AFlt.val, ← hWd, aEnter, fun21, short_other, aCallV]
    rw [dcallS_none]
    refine (isPairing_no (hR5.ext hE5d) hlen hg).mono ?_
    rintro _ We ⟨hEe, rfl⟩
    have fre : freshB We Wc.next 3 [.int .i64 0, .int .i64 0, .int .i64 0, .int .i64 0, .int .i64 0] = true := by
      refine freshB_var (Var.ext ?_ hEe) rfl
      rw [hWd]; exact Var.new _ _ _
    simp [hEe.1, h5, l5, hE5c, hE5d, hE5d.trans hEe, frd, fre, hmk, AFlt.val, opExtract, aExtract, w2v]
    exact hG We (hEd.trans hEe)) ?_
  rintro We hEce
  have hE5e := hE5c.trans hEce
  have hVe := hVc.ext hEce
  have m0 := hVe.load1 (T := T0) und31 rfl (j := 0) (v := .slice none 0 0) rfl
  have m1 := hVe.load1 (T := T0) und31 rfl (j := 1) (v := .slice none 0 0) rfl
  have m2 := hVe.load1 (T := T0) und31 rfl (j := 2) (v := .slice none 0 0) rfl
  have z0 : IntKind.i64.wrap 0 = 0 := by decide
  try simp only [wpK_assoc]
  refine wpK_x0 (P := fun W' => True) (fun R hR => by
    simp [h5, h6, h7, h8, h9, h10, h11, h12, h13, h14, h15, m0, m1, m2, z0, l5, hE5e, aEnter, fun22, short_other, aCallV]; rw [callS_none]
    refine (isBarrier_no (hR5.ext hE5e) hlen hg 0).mono ?_
    rintro _ Wf ⟨hEf, rfl⟩
    have htbf := tabs_ext htb3 h03 ((hE5.trans hE5e).trans hEf)
    simp [short_awake, htbf, aEnter, aCallV, fun16]
    exact hR Wf trivial) ?_
  rintro Wf -
  exact wpK_ret ⟨.inr rfl, rfl, [.bool true], by simp, rfl⟩

end Go.Proofs.YtdpnplanohgecaaDoor

open Go Go.Eng
namespace Go.Proofs.YtdpnplanohgecaaDoor
open Go.ChangeShapes Go.WideShapes Go.ChangeAt Go.RowKit

section
variable {H : Type} {enc : TypeId × Value → H} {P : Program} {w : World}

theorem add_block (a : Addr) (n : Nat) : (a.add n).block = a.block := by unfold Addr.add; split <;> rfl
theorem add_off (a : Addr) (n : Nat) : (a.add n).off = a.off + n := by unfold Addr.add; split <;> simp_all
end
theorem own : ownKnob Tryd.prog.godebug = none := by kernel_rfl
theorem laidOut : laidOutB Tryd.prog = true := by kernel_rfl
theorem T0_globs : ∀ g u, T0.globs.get g = some u → g = 0 := fun g u h => by
  have h : (Tr.set Tr.nil 0 ()).get g = some u := h
  rw [Tr.get_set] at h
  split at h
  · assumption
  · rw [Tr.get_nil] at h; cases h

def tabL : List Int := [0, 1, 56, 2, 57, 49, 28, 3, 61, 58, 42, 50, 38, 29, 17, 4, 62, 47, 59, 36, 45, 43, 51, 22, 53, 39, 33, 30, 24, 18, 12, 5, 63, 55, 48, 27, 60, 41, 37, 16, 46, 35, 44, 21, 52, 32, 23, 11, 54, 26, 40, 15, 34, 20, 31, 10, 25, 14, 19, 9, 13, 8, 7, 6]
/-- the variable of the library lies in the world -/
theorem tab_of_laid {W : World} (h : laidMet Tryd.prog [("math/bits.deBruijn64tab", Rows.laid_math_bits_deBruijn64tab)] W) : ∀ i (h : i < tabL.length), W.cell? ⟨0, i, none⟩ = some (.int .u8 tabL[i]) := by
  have hg : Tryd.prog.globalNamed "math/bits.deBruijn64tab" = some 0 := by kernel_rfl
  have ht := Lib.tabIs_of_head (P := Tryd.prog) (W := W) (k := .u8) (zs := tabL) (rest := []) (t := 148) (e := 5) (n := 64) hg (by kernel_rfl) Tryd.underlying148 Tryd.underlying5 (by kernel_rfl) (by kernel_rfl) h
  intro i hi
  have := ht.cell hg i hi
  rw [this, List.getD_eq_getElem?_getD, List.getElem?_eq_getElem hi]; rfl
theorem tab_cells {W : World} (h : ∀ i (h : i < tabL.length), W.cell? ⟨0, i, none⟩ = some (.int .u8 tabL[i])) : isCells W 0 = true ∧ 0 < (embW W).next ∧ tabsIn T0 T0.tabs (embW W) = true := by
  have h0 := h 0 (by decide)
  have hc := isCells_cell h0
  refine ⟨hc, isCells_lt hc, ?_⟩
  have key : tabIn ⟨0, tabL.map (Value.int .u8)⟩ (embW W) = true := by
    unfold isCells at hc
    split at hc
    case h_2 => cases hc
    rename_i c el fz ho
    unfold tabIn
    simp only [embW_get, ho, Option.map_some, embO]
    have hcell : ∀ i (hi : i < tabL.length), c[i]? = some (.int .u8 tabL[i]) := fun i hi => by
      have := h i hi
      simpa [World.cell?, ho] using this
    have hsz : tabL.length ≤ c.size := by
      have := (Array.getElem?_eq_some_iff.1 (hcell 63 (by decide))).1
      show 64 ≤ c.size; omega
    have htake : (Tr.nil.layO 0 (c.toList.map (absV W))).take 0 (tabL.map (Value.int .u8)).length = some (tabL.map (Value.int .u8)) := by
      refine take_get _ _ 0 _ rfl (fun j hj => ?_)
      have hj' : j < tabL.length := by simpa using hj
      rw [Nat.zero_add, Tr.get_layO _ _ _ _ (.inl (Tr.get_nil _)), if_pos (by simp; omega)]
      simp only [Nat.sub_zero, List.getElem?_map, Array.getElem?_toList, hcell j hj', Option.map_some, Option.getD_some, List.getElem?_eq_getElem hj']
      rfl
    rw [htake]
    simp only [ble_dec, List.length_map, hsz, decide_true]
    have hf : allB flat (tabL.map (Value.int .u8)) = true := by decide
    rw [hf]
    simp only
    have : ∀ l : List Int, listEq (l.map (Value.int .u8)) (l.map (Value.int .u8)) = true := fun l => by
      induction l with
      | nil => rfl
      | cons a l ih => simp only [List.map_cons]; exact listEq_cons (valEq_int _ _) ih
    exact this tabL
  show tabsIn T0 [⟨0, tabL.map (Value.int .u8)⟩] (embW W) = true
  simp only [tabsIn, key]
  rfl
/-- a world in which the variable lies -/
noncomputable def laidWorld (os : Os) : World :=
  let w0 := World.holding Tryd.prog os ⟨#[], #[], []⟩
  { w0 with heap := w0.heap.modify 0 fun
      | .cells _ t frozen => .cells (tabL.map (Value.int .u8)).toArray t frozen
      | o => o }
theorem laid_met (os : Os) (args : Array Value) : laidMet Tryd.prog [("math/bits.deBruijn64tab", Rows.laid_math_bits_deBruijn64tab)] ((laidWorld os).forCall (fun _ _ => 0) ⟨#[], args, []⟩).memory :=
  laidMet_of_run' 8 (by kernel_rfl) (by kernel_rfl)
theorem globs_cells {W : World} (h : isCells W 0 = true) : ∀ g u, T0.globs.get g = some u → isCells W g = true := fun g u hu => by
  rw [T0_globs g u hu]; exact h
end Go.Proofs.YtdpnplanohgecaaDoor

open Go Go.Eng
namespace Go.Proofs.YtdpnplanohgecaaDoor
open Go.ChangeShapes Go.WideShapes Go.ChangeAt Go.RowKit
/-! ### arguments that are sliced, arrays of two -/
theorem absV_row2 {w : World} {a : Addr} {n c : Nat} (h : 0 < c → ∃ v, w.cell? a = some v) (hn : n ≤ c) :
    ∃ a' c', absV w (.slice (some a) n c) = some (.slice a' n c') ∧ (0 < c → a' = some ⟨a.block, a.off, none⟩) ∧ SlOk (.slice a' n c') n := by
  by_cases hc : 0 < c
  · obtain ⟨v, hv⟩ := h hc
    have hs := cell_spot hv
    have hb := isCells_cell hv
    obtain ⟨b, o, s⟩ := a
    simp only at hs hb; subst hs
    exact ⟨some ⟨b, o, none⟩, 2 * c, by simp [absV, hb], fun _ => rfl, .inr (.inl ⟨b, o, c, rfl, hn⟩)⟩
  · obtain rfl : c = 0 := by omega
    obtain rfl : n = 0 := by omega
    obtain ⟨b, o, s⟩ := a
    cases s with
    | none =>
      by_cases hb : isCells w b = true
      · exact ⟨some ⟨b, o, none⟩, 0, by simp [absV, hb], fun x => absurd x hc, .inr (.inl ⟨b, o, 0, rfl, by omega⟩)⟩
      · exact ⟨some ⟨0, 0, some 1⟩, 0, by simp [absV, hb], fun x => absurd x hc, .inr (.inr ⟨rfl, rfl⟩)⟩
    | some s => exact ⟨some ⟨0, 0, some 1⟩, 0, rfl, fun x => absurd x hc, .inr (.inr ⟨rfl, rfl⟩)⟩
section
variable {H : Type} {enc : TypeId × Value → H} {P : Program} {w : World}
/-- a slice of pairs of numbers -/
theorem pairs_in2 {t e e2 : TypeId} {fuel : Nat} {held : Bool} {v : Value} {x : DataW H × List MemPlace} (ht : P.underlying t = some (.slice e)) (he : P.underlying e = some (.array 2 e2)) (hc : P.cellsOf e = 2) (he2 : P.underlying e2 = some (.int .i64)) (hc2 : P.cellsOf e2 = 1)
    (h : DataW.trod enc P w 0 (fun _ => true) held fuel t [v] = some x) : ∃ u l, absV w v = some u ∧ PairR (embW w) u l ∧ l.length < 9223372036854775808 ∧ SlOk u l.length := by
  rcases Deep.open_slice ht h with ⟨h1, _⟩ | ⟨a, len, cap, m, n, D, Pl, h1, _, h2, h3, hm, _, h4⟩
  · cases h1
    exact ⟨.slice none 0 0, [], rfl, .nil _, by simp, .inl ⟨rfl, rfl⟩⟩
  · cases h1
    simp only [if_true] at hm
    subst hm
    have each : ∀ i, i < m → ∃ z : Int × Int, w.cell? (a.add (i * 2)) = some (.int .i64 z.1) ∧ w.cell? (a.add (i * 2 + 1)) = some (.int .i64 z.2) := by
      intro i hi
      obtain ⟨cs', g1, g2⟩ := h4 i hi
      rw [hc] at g1
      obtain ⟨_, hlen, hcell⟩ := World.cells?_some g1
      obtain ⟨xs, mm, _, _, _, hl, hel⟩ := DataW.trod_array he g2
      have h0 := hel 0 (by omega)
      have h1 := hel 1 (by omega)
      rw [List.getElem?_eq_getElem (by omega)] at h0 h1
      match cs', hlen with
      | [x0, x1], _ =>
        simp [hc2] at h0 h1
        obtain ⟨z0, e0, _⟩ := DataW.trod_int he2 h0
        obtain ⟨z1, e1, _⟩ := DataW.trod_int he2 h1
        cases e0; cases e1
        have k0 := hcell 0 (by omega)
        have k1 := hcell 1 (by omega)
        rw [Go.Deep.add_add] at k0 k1
        exact ⟨(z0, z1), by simpa using k0, by simpa using k1⟩
    obtain ⟨Z, hZ⟩ := Deep.choose_lt each
    obtain ⟨a', c', g4, g5, g6⟩ := absV_row2 (w := w) (a := a) (n := len) (c := m) (fun hc => ⟨_, by simpa [Addr.add] using (hZ 0 hc).1⟩) h2
    refine ⟨_, (List.range len).map Z, g4, ⟨a', c', by simp, fun h0 => SlOk.emp (n := len) g6, fun i z hi => ?_⟩, by simp; unfold maxLen at h3; omega, by simpa using g6⟩
    have hi' : i < len := by
      have := (List.getElem?_eq_some_iff.1 hi).1
      simpa using this
    simp only [List.getElem?_map, List.getElem?_range hi', Option.map_some, Option.some.injEq] at hi
    subst hi
    obtain ⟨k0, k1⟩ := hZ i (by omega)
    have e0 := emb_has k0 (u := .int .i64 (Z i).1) rfl
    have e1 := emb_has k1 (u := .int .i64 (Z i).2) rfl
    rw [add_block, add_off] at e0 e1
    refine ⟨a.block, a.off, g5 (by omega), fun j u hu => ?_⟩
    have hj : j < 2 := by have := (List.getElem?_eq_some_iff.1 hu).1; simpa [encP] using this
    match j, hj with
    | 0, _ => cases hu; exact e0
    | 1, _ => cases hu; rw [Nat.add_assoc]; exact e1
end
end Go.Proofs.YtdpnplanohgecaaDoor
