import Derived.Test.YtkgfjfkgmpeobaaDoorFt1
import Derived.Test.YtkgfjfkgmpeobaaDoorEngVr
import Derived.KernelRfl
import Derived.Test.YtkgfjfkgmpeobaaDoorEngSm
import Derived.Test.YtkgfjfkgmpeobaaDoorEngBt
import Derived.Test.YtkgfjfkgmpeobaaDoorTie
import Derived.Test.YtkgfjfkgmpeobaaDoorCards
import Derived.SevenTiedAt
import Derived.Lib.SmallJoins
import Derived.Test.YtkgfjfkgmpeobaaDoorEngRe
set_option linter.unusedSimpArgs false
set_option linter.unusedVariables false
set_option linter.unusedSectionVars false
open Go Go.Eng
namespace Go.Proofs.YtkgfjfkgmpeobaaDoor
theorem und2 : T0.und.get 2 = some (.int .i64) := by kernel_rfl
theorem und3 : T0.und.get 3 = some (.int .i64) := by kernel_rfl
theorem und4 : T0.und.get 4 = some .bool := by kernel_rfl
theorem und5 : T0.und.get 5 = some (.int .u8) := by kernel_rfl
theorem und22 : T0.und.get 22 = some (.slice 78) := by kernel_rfl
theorem und25 : T0.und.get 25 = some (.slice 109) := by kernel_rfl
theorem und29 : T0.und.get 29 = some (.slice 106) := by kernel_rfl
theorem und33 : T0.und.get 33 = some (.slice 108) := by kernel_rfl
theorem und39 : T0.und.get 39 = some (.int .i64) := by kernel_rfl
theorem und43 : T0.und.get 43 = some (.slice 2) := by kernel_rfl
theorem und46 : T0.und.get 46 = some (.slice 3) := by kernel_rfl
theorem und49 : T0.und.get 49 = some (.slice 46) := by kernel_rfl
theorem und76 : T0.und.get 76 = some (.int .u64) := by kernel_rfl
theorem und82 : T0.und.get 82 = some (.int .u64) := by kernel_rfl
theorem und111 : T0.und.get 111 = some (.pointer 31) := by kernel_rfl
theorem und115 : T0.und.get 115 = some (.int .u64) := by kernel_rfl
theorem sz2 : aSize T0 2 = some 1 := by kernel_rfl
theorem sz3 : aSize T0 3 = some 1 := by kernel_rfl
theorem sz5 : aSize T0 5 = some 1 := by kernel_rfl
theorem sz46 : aSize T0 46 = some 1 := by kernel_rfl
theorem sz43 : aSize T0 43 = some 1 := by kernel_rfl
theorem sz78 : aSize T0 78 = some 3 := by kernel_rfl
theorem field78 (b o f : Nat) (hf : f < 3) : aField T0 78 (.pointer (some ⟨b, o, none⟩)) f = some (.pointer (some ⟨b, o + f, none⟩)) := by
  match f, hf with
  | 0, _ => rfl
  | 1, _ => rfl
  | 2, _ => rfl
theorem und78 : T0.und.get 78 = some Tryd.t77.desc := by kernel_rfl
theorem agg78 : isAggD Tryd.t77.desc = true := by kernel_rfl
theorem inf78 : T0.info.get 78 = some Tryd.t78 := by kernel_rfl
theorem is78 : Tryd.t78.size = 3 := by kernel_rfl
theorem sz106 : aSize T0 106 = some 3 := by kernel_rfl
theorem field106 (b o f : Nat) (hf : f < 3) : aField T0 106 (.pointer (some ⟨b, o, none⟩)) f = some (.pointer (some ⟨b, o + f, none⟩)) := by
  match f, hf with
  | 0, _ => rfl
  | 1, _ => rfl
  | 2, _ => rfl
theorem sz109 : aSize T0 109 = some 3 := by kernel_rfl
theorem field109 (b o f : Nat) (hf : f < 3) : aField T0 109 (.pointer (some ⟨b, o, none⟩)) f = some (.pointer (some ⟨b, o + f, none⟩)) := by
  match f, hf with
  | 0, _ => rfl
  | 1, _ => rfl
  | 2, _ => rfl
theorem und109 : T0.und.get 109 = some Tryd.t107.desc := by kernel_rfl
theorem agg109 : isAggD Tryd.t107.desc = true := by kernel_rfl
theorem inf109 : T0.info.get 109 = some Tryd.t109 := by kernel_rfl
theorem is109 : Tryd.t109.size = 3 := by kernel_rfl
theorem sz108 : aSize T0 108 = some 3 := by kernel_rfl
theorem field108 (b o f : Nat) (hf : f < 3) : aField T0 108 (.pointer (some ⟨b, o, none⟩)) f = some (.pointer (some ⟨b, o + f, none⟩)) := by
  match f, hf with
  | 0, _ => rfl
  | 1, _ => rfl
  | 2, _ => rfl
theorem und108 : T0.und.get 108 = some Tryd.t107.desc := by kernel_rfl
theorem agg108 : isAggD Tryd.t107.desc = true := by kernel_rfl
theorem inf108 : T0.info.get 108 = some Tryd.t108 := by kernel_rfl
theorem is108 : Tryd.t108.size = 3 := by kernel_rfl
theorem field24 (b o f : Nat) (hf : f < 2) : aField T0 24 (.pointer (some ⟨b, o, none⟩)) f = some (.pointer (some ⟨b, o + f, none⟩)) := by
  match f, hf with
  | 0, _ => rfl
  | 1, _ => rfl
theorem und24 : T0.und.get 24 = some Tryd.t23.desc := by kernel_rfl
theorem agg24 : isAggD Tryd.t23.desc = true := by kernel_rfl
theorem inf24 : T0.info.get 24 = some Tryd.t24 := by kernel_rfl
theorem is24 : Tryd.t24.size = 2 := by kernel_rfl
theorem field31 (b o f : Nat) (hf : f < 2) : aField T0 31 (.pointer (some ⟨b, o, none⟩)) f = some (.pointer (some ⟨b, o + f, none⟩)) := by
  match f, hf with
  | 0, _ => rfl
  | 1, _ => rfl
theorem field27 (b o f : Nat) (hf : f < 2) : aField T0 27 (.pointer (some ⟨b, o, none⟩)) f = some (.pointer (some ⟨b, o + f, none⟩)) := by
  match f, hf with
  | 0, _ => rfl
  | 1, _ => rfl
theorem und27 : T0.und.get 27 = some Tryd.t26.desc := by kernel_rfl
theorem agg27 : isAggD Tryd.t26.desc = true := by kernel_rfl
theorem inf27 : T0.info.get 27 = some Tryd.t27 := by kernel_rfl
theorem is27 : Tryd.t27.size = 2 := by kernel_rfl
theorem field35 (b o f : Nat) (hf : f < 2) : aField T0 35 (.pointer (some ⟨b, o, none⟩)) f = some (.pointer (some ⟨b, o + f, none⟩)) := by
  match f, hf with
  | 0, _ => rfl
  | 1, _ => rfl
theorem und35 : T0.und.get 35 = some Tryd.t34.desc := by kernel_rfl
theorem agg35 : isAggD Tryd.t34.desc = true := by kernel_rfl
theorem inf35 : T0.info.get 35 = some Tryd.t35 := by kernel_rfl
theorem is35 : Tryd.t35.size = 2 := by kernel_rfl
theorem inf2 : T0.info.get 2 = some Tryd.t2 := by kernel_rfl
theorem is2 : Tryd.t2.size = 1 := by kernel_rfl
theorem inf3 : T0.info.get 3 = some Tryd.t3 := by kernel_rfl
theorem is3 : Tryd.t3.size = 1 := by kernel_rfl
theorem inf46 : T0.info.get 46 = some Tryd.t46 := by kernel_rfl
theorem is46 : Tryd.t46.size = 1 := by kernel_rfl
theorem inf43 : T0.info.get 43 = some Tryd.t43 := by kernel_rfl
theorem is43 : Tryd.t43.size = 1 := by kernel_rfl
theorem inf22 : T0.info.get 22 = some Tryd.t22 := by kernel_rfl
theorem is22 : Tryd.t22.size = 1 := by kernel_rfl
theorem inf25 : T0.info.get 25 = some Tryd.t25 := by kernel_rfl
theorem is25 : Tryd.t25.size = 1 := by kernel_rfl
theorem inf33 : T0.info.get 33 = some Tryd.t33 := by kernel_rfl
theorem is33 : Tryd.t33.size = 1 := by kernel_rfl
theorem zero78 : aZero T0 78 = some (.agg ⟨[.int .i64 0, .int .i64 0, .int .i64 0]⟩) := by kernel_rfl
theorem z78 : Tryd.t78.zero = some (.agg ⟨[.int .i64 0, .int .i64 0, .int .i64 0]⟩) := by kernel_rfl
theorem zero109 : aZero T0 109 = some (.agg ⟨[.int .i64 0, .int .i64 0, .int .i64 0]⟩) := by kernel_rfl
theorem z109 : Tryd.t109.zero = some (.agg ⟨[.int .i64 0, .int .i64 0, .int .i64 0]⟩) := by kernel_rfl
theorem zero108 : aZero T0 108 = some (.agg ⟨[.int .i64 0, .int .i64 0, .int .i64 0]⟩) := by kernel_rfl
theorem z108 : Tryd.t108.zero = some (.agg ⟨[.int .i64 0, .int .i64 0, .int .i64 0]⟩) := by kernel_rfl
theorem zero24 : aZero T0 24 = some (.agg ⟨[.int .i64 0, .slice none 0 0]⟩) := by kernel_rfl
theorem zero27 : aZero T0 27 = some (.agg ⟨[.int .i64 0, .slice none 0 0]⟩) := by kernel_rfl
theorem zero35 : aZero T0 35 = some (.agg ⟨[.int .i64 0, .slice none 0 0]⟩) := by kernel_rfl
theorem by78 : Tryd.t78.bytes = 24 := by kernel_rfl
theorem by109 : Tryd.t109.bytes = 24 := by kernel_rfl
theorem by108 : Tryd.t108.bytes = 24 := by kernel_rfl
theorem by3 : Tryd.t3.bytes = 8 := by kernel_rfl
theorem z3 : Tryd.t3.zero = some (.int .i64 0) := by kernel_rfl
theorem build24 (P : Int) : aBuild T0 24 [(0, .int .i64 P)] = some (.agg ⟨[.int .i64 P, .slice none 0 0]⟩) := by kernel_rfl
theorem build27 (P : Int) : aBuild T0 27 [(0, .int .i64 P)] = some (.agg ⟨[.int .i64 P, .slice none 0 0]⟩) := by kernel_rfl
theorem build35 (P : Int) : aBuild T0 35 [(0, .int .i64 P)] = some (.agg ⟨[.int .i64 P, .slice none 0 0]⟩) := by kernel_rfl
theorem conv_3_82 (W : AW) (k : IntKind) (n : Int) : aConv T0 W 3 82 (.int k n) = some (.int .u64 (IntKind.u64.wrap n)) := by kernel_rfl
theorem conv_82_3 (W : AW) (k : IntKind) (n : Int) : aConv T0 W 82 3 (.int k n) = some (.int .i64 (IntKind.i64.wrap n)) := by kernel_rfl
theorem conv_2_76 (W : AW) (k : IntKind) (n : Int) : aConv T0 W 2 76 (.int k n) = some (.int .u64 (IntKind.u64.wrap n)) := by kernel_rfl
theorem conv_76_2 (W : AW) (k : IntKind) (n : Int) : aConv T0 W 76 2 (.int k n) = some (.int .i64 (IntKind.i64.wrap n)) := by kernel_rfl
theorem conv_5_3 (W : AW) (k : IntKind) (n : Int) : aConv T0 W 5 3 (.int k n) = some (.int .i64 (IntKind.i64.wrap n)) := by kernel_rfl
theorem bs22 (W : AW) (x y z : Value) : aBuildSlice T0 W 22 1 [(0, .agg ⟨[x, y, z]⟩)] = some (.slice (some ⟨W.next, 0, none⟩) 1 2, W.newCells 78 [x, y, z]) := by kernel_rfl
theorem bs33 (W : AW) (x y z : Value) : aBuildSlice T0 W 33 1 [(0, .agg ⟨[x, y, z]⟩)] = some (.slice (some ⟨W.next, 0, none⟩) 1 2, W.newCells 108 [x, y, z]) := by kernel_rfl
theorem bs46 (W : AW) (n : Int) : aBuildSlice T0 W 46 1 [(0, .int .i64 n)] = some (.slice (some ⟨W.next, 0, none⟩) 1 2, W.newCells 3 [.int .i64 n]) := by kernel_rfl
theorem fun10 : T0.funcs.get 10 = some Tryd.f10 := by kernel_rfl
theorem fun13 : T0.funcs.get 13 = some Tryd.f13 := by kernel_rfl
theorem fun25 : T0.funcs.get 25 = some Tryd.f25 := by kernel_rfl
theorem fun27 : T0.funcs.get 27 = some Tryd.f27 := by kernel_rfl
theorem fun28 : T0.funcs.get 28 = some Tryd.f28 := by kernel_rfl
theorem fun30 : T0.funcs.get 30 = some Tryd.f30 := by kernel_rfl
theorem fun36 : T0.funcs.get 36 = some Tryd.f36 := by kernel_rfl
theorem fun42 : T0.funcs.get 42 = some Tryd.f42 := by kernel_rfl
theorem fun43 : T0.funcs.get 43 = some Tryd.f43 := by kernel_rfl
theorem fun47 : T0.funcs.get 47 = some Tryd.f47 := by kernel_rfl
theorem fun50 : T0.funcs.get 50 = some Tryd.f50 := by kernel_rfl
theorem fun51 : T0.funcs.get 51 = some Tryd.f51 := by kernel_rfl
theorem fun52 : T0.funcs.get 52 = some Tryd.f52 := by kernel_rfl
theorem fun53 : T0.funcs.get 53 = some Tryd.f53 := by kernel_rfl
theorem fun54 : T0.funcs.get 54 = some Tryd.f54 := by kernel_rfl
theorem fun55 : T0.funcs.get 55 = some Tryd.f55 := by kernel_rfl
theorem fun57 : T0.funcs.get 57 = some Tryd.f57 := by kernel_rfl
theorem fun58 : T0.funcs.get 58 = some Tryd.f58 := by kernel_rfl
theorem fun61 : T0.funcs.get 61 = some Tryd.f61 := by kernel_rfl
theorem fun62 : T0.funcs.get 62 = some Tryd.f62 := by kernel_rfl
theorem fun63 : T0.funcs.get 63 = some Tryd.f63 := by kernel_rfl
theorem fun65 : T0.funcs.get 65 = some Tryd.f65 := by kernel_rfl
theorem fun66 : T0.funcs.get 66 = some Tryd.f66 := by kernel_rfl
theorem fun67 : T0.funcs.get 67 = some Tryd.f67 := by kernel_rfl
theorem fun68 : T0.funcs.get 68 = some Tryd.f68 := by kernel_rfl
theorem fun69 : T0.funcs.get 69 = some Tryd.f69 := by kernel_rfl
theorem fun74 : T0.funcs.get 74 = some Tryd.f74 := by kernel_rfl
theorem fun75 : T0.funcs.get 75 = some Tryd.f75 := by kernel_rfl
theorem fun76 : T0.funcs.get 76 = some Tryd.f76 := by kernel_rfl
theorem fun77 : T0.funcs.get 77 = some Tryd.f77 := by kernel_rfl
theorem fun78 : T0.funcs.get 78 = some Tryd.f78 := by kernel_rfl
theorem fun81 : T0.funcs.get 81 = some Tryd.f81 := by kernel_rfl
theorem fun82 : T0.funcs.get 82 = some Tryd.f82 := by kernel_rfl
theorem fun83 : T0.funcs.get 83 = some Tryd.f83 := by kernel_rfl
theorem fun84 : T0.funcs.get 84 = some Tryd.f84 := by kernel_rfl
theorem fun100 : T0.funcs.get 100 = some Tryd.f100 := by kernel_rfl
theorem fun101 : T0.funcs.get 101 = some Tryd.f101 := by kernel_rfl
theorem meth35 : T0.meths.get 35 = some [("minikin/flow.size", 100), ("minikin/flow.step", 101)] := by kernel_rfl
end Go.Proofs.YtkgfjfkgmpeobaaDoor

open Go Go.Eng
namespace Go.Proofs.YtkgfjfkgmpeobaaDoor
attribute [local congr] undef_congr WpK.congr WpS.congr WpL.congr WpC.congr WpF.congr gotS.congr callS.congr nextS.congr wantS.congr condS.congr
attribute [local irreducible] WpK
attribute [local simp] WpDr_nil WpDr_cons atS_some dwantS_true dwantS_false kindS_light kindS_float kindS_heavy lightS_value floatS_some heavyS_value heavyS_skip heavyS_enter dcallS_some doneS_eq
  isLight isFloat isPlain dLook testBit_dec dChain dLights_nil dLights_skip dLights_one dLight_nil dLight_cons dFreshes_nil dFreshes_one oneF_none oneF_some dFresh_nil dFresh_cons oneL_some oneW_true oneW_false sameV_value dPut dMay valEq arrEq listEq List.getElem?_cons Tr.get_nil dEnd
attribute [local simp] WpS_nil WpS_cons isDefer undef_false wantS_true wantS_false nextS_value nextS_skip nextS_enter callS_some gotS_some aWanted aOp aEvalF aEval opMove opAssign opPick aVal flat flat1 AAct.put opBinOp opConvert opIndex Tr.get_set Tr.get_lay aBin aResults tupled
  aCall aVals aCallB blt_dec ble_dec beq_dec aBinI_add aBinI_sub aBinI_lss aBinI_leq aBinI_gtr aBinI_geq aBinI_eql aBinI_neq index_str len_str len_slice Nat.beq_refl und2 und3 und4 und5 und39 und76 und82 und115 und22 und29 und25 und33 und46 und43 und49 und111
  field78 field106 field24 field31 field27 field35 field108 field109 opBox opLoad opFieldAddr opIndexAddr acells aAddr opExtract aExtract opUnOp opAlloc opStore opMakeInterface opNilCheck opBuild aParts opBuildSlice aValW
set_option maxHeartbeats 4000000
@[simp] theorem aUn_not (b : Bool) : aUn .not (.bool b) = some (.bool (!b)) := by cases b <;> rfl
def two? (a b n : Int) : Bool := decide (0 ≤ a) && decide (a < n) && decide (0 ≤ b) && decide (b < n) && decide (a ≠ b)
theorem areTwo_wp (a b n : Int) (W : AW) : WpF T0 74 [.int .i64 a, .int .i64 b, .int .i64 n] W (fun v W' => W' = W ∧ v = .bool (two? a b n)) := by
  refine wpF fun74 rfl ?_
  try simp only [wpK_assoc]
  refine wpK_reg (fun R hR => by simp; exact hR) ?_
  by_cases h1 : 0 ≤ a
  · by_cases h2 : a < n
    · by_cases h3 : 0 ≤ b
      · by_cases h4 : b < n
        · try simp only [wpK_assoc]
          refine wpK_reg (fun R hR => by simp [h1, h2, h3, h4]; exact hR) ?_
          exact wpK_ret ⟨.inr rfl, rfl, [.bool (two? a b n)], by simp [two?, h1, h2, h3, h4], rfl, rfl⟩
        · try simp only [wpK_assoc]
          refine wpK_reg (fun R hR => by simp [h1, h2, h3, h4]; exact hR) ?_
          exact wpK_ret ⟨.inr rfl, rfl, [.bool (two? a b n)], by simp [two?, h1, h2, h3, h4], rfl, rfl⟩
      · try simp only [wpK_assoc]
        refine wpK_reg (fun R hR => by simp [h1, h2, h3]; exact hR) ?_
        exact wpK_ret ⟨.inr rfl, rfl, [.bool (two? a b n)], by simp [two?, h1, h2, h3], rfl, rfl⟩
    · try simp only [wpK_assoc]
      refine wpK_reg (fun R hR => by simp [h1, h2]; exact hR) ?_
      exact wpK_ret ⟨.inr rfl, rfl, [.bool (two? a b n)], by simp [two?, h1, h2], rfl, rfl⟩
  · try simp only [wpK_assoc]
    refine wpK_reg (fun R hR => by simp [h1]; exact hR) ?_
    exact wpK_ret ⟨.inr rfl, rfl, [.bool (two? a b n)], by simp [two?, h1], rfl, rfl⟩
theorem testBit_and1 (s p : Nat) : decide (((s >>> p &&& 1 : Nat) : Int) = 1) = s.testBit p := by
  rw [Nat.testBit, Bool.eq_iff_iff, Nat.and_comm]
  simp only [decide_eq_true_eq, bne_iff_ne, ne_eq]
  have : 1 &&& s >>> p = (s >>> p) % 2 := Nat.one_and_eq_mod_two _
  rw [this]; omega
theorem has_wp (s p : Nat) (hs : s < 18446744073709551616) (hp : p ≤ 64) (W : AW) : WpF T0 62 [.int .u64 s, .int .i64 p] W (fun v W' => W' = W ∧ v = .bool (s.testBit p)) := by
  refine wpF fun62 rfl ?_
  have h1 := aBinI_shr .u64 .i64 s p hp
  have hle : s >>> p < 18446744073709551616 := by rw [Nat.shiftRight_eq_div_pow]; exact Nat.lt_of_le_of_lt (Nat.div_le_self _ _) hs
  have h3 := testBit_and1 s p
  generalize s >>> p = q at h1 hle h3
  have h2 : aBinI .and .u64 (q : Int) .u64 1 = some (.int .u64 ((q &&& 1 : Nat) : Int)) := aBinI_and .u64 q 1 hle (by decide)
  generalize q &&& 1 = r at h2 h3
  try simp only [wpK_assoc]
  refine wpK_reg (fun R hR => by simp; exact hR) ?_
  try simp only [wpK_assoc]
  refine wpK_reg (fun R hR => by simp [h1, h2, h3]; exact hR) ?_
  exact wpK_ret ⟨.inr rfl, rfl, [.bool (s.testBit p)], by simp, rfl, rfl⟩
theorem one_wp (p : Nat) (hp : p < 64) (W : AW) : WpF T0 54 [.int .i64 p] W (fun v W' => W' = W ∧ v = .int .u64 ((1 <<< p : Nat) : Int)) := by
  refine wpF fun54 rfl ?_
  have h1 : aBinI .shl .u64 1 .i64 (p : Int) = some (.int .u64 ((1 <<< p : Nat) : Int)) := aBinI_shl .u64 .i64 1 p (by show p ≤ 64; omega) (by
    rw [Nat.one_mul]; show 2 ^ p < 2 ^ 64; exact Nat.pow_lt_pow_right (by omega) hp)
  generalize 1 <<< p = r at h1
  try simp only [wpK_assoc]
  refine wpK_reg (fun R hR => by simp; exact hR) ?_
  try simp only [wpK_assoc]
  refine wpK_reg (fun R hR => by simp [h1]; exact hR) ?_
  exact wpK_ret ⟨.inr rfl, rfl, [.int .u64 (r : Int)], by simp, rfl, rfl⟩
@[simp] theorem nilck (a : Addr) : nilChecked T0 (.pointer (some a)) = true := rfl
theorem load_of {W : AW} {t : TypeId} {d : TypeDesc} {b o : Nat} {v : Value} (hd : T0.und.get t = some d) (ha : isAggD d = false) (h : W.Has b o v) : aLoadVar T0 W t b o = some v := by
  rw [loadVar_cell hd ha]; exact h.2
def NetAt (W : AW) (b : Nat) (P : Int) (l : List Tri) : Prop := ∃ v, W.Has b 0 (.int .i64 P) ∧ W.Has b 1 v ∧ TriIn W v l
theorem NetAt.only {W W' : AW} {b : Nat} {P : Int} {l : List Tri} {K : Nat → Prop} (h : NetAt W b P l) (he : Only K W W') (hk : ∀ b, b < W.next → ¬ K b) : NetAt W' b P l := by
  obtain ⟨v, h1, h2, h3⟩ := h
  exact ⟨v, h1.only he (hk _ h1.1), h2.only he (hk _ h1.1), h3.only he hk⟩
theorem NetAt.ext {W W' : AW} {b : Nat} {P : Int} {l : List Tri} (h : NetAt W b P l) (he : Ext W W') : NetAt W' b P l := h.only he (fun _ _ x => x)
@[simp] theorem valEq_slice (A : Option Addr) (n c : Nat) : valEq (.slice A n c) (.slice A n c) = true := by
  cases A with
  | none => simp [valEq]
  | some a => obtain ⟨b, o, s⟩ := a; simp [valEq]
theorem size100_wp {W : AW} {v : Value} {P : Int} {l : List Tri} (h : TriIn W v l) : WpF T0 100 [.agg ⟨[.int .i64 P, v]⟩] W (fun v W' => Ext W W' ∧ v = .tuple ⟨[.int .i64 P, .int .i64 l.length]⟩) := by
  obtain ⟨A, c, rfl, h3⟩ := h
  refine wpF fun100 rfl ?_
  have hV := Var.new W 35 [.int .i64 P, .slice A l.length c]
  have hl1 := hV.load1 (T := T0) und3 rfl (j := 0) (v := .int .i64 P) rfl
  have hl2 := hV.load1 (T := T0) und33 rfl (j := 1) (v := .slice A l.length c) rfl
  try simp only [wpK_assoc]
  refine wpK_reg (fun R hR => by simp; exact hR) ?_
  try simp only [wpK_assoc]
  refine wpK_dr (wr := Tr.nil |>.set 4 0 |>.set 5 1 |>.set 6 2 |>.set 7 3 |>.set 8 4 |>.set 2 5 |>.set 3 6) (bits := Tr.nil.lay 0 [0, 1, 0, 4, 12, 3, 63]) (ord := [0, 1, 2, 3, 4, 5, 6])
    (J := fun A W' => Ext W W' ∧ A.n = 9 ∧ A.defers = [] ∧ A.tmps.get 2 = some (.int .i64 P) ∧ A.tmps.get 3 = some (.int .i64 l.length))
    (by kernel_rfl) (by kernel_rfl) (by kernel_rfl) (fun G hG => ?_) ?_
  · simp [hl1, hl2, len_slice und33]
    apply hG
    exact ⟨.newCells _ _ _, rfl, rfl, by simp, by simp⟩
  rintro ⟨t, n, ds⟩ W' ⟨hE, hn, hd, h2, h3⟩
  simp only at hn hd h2 h3
  subst hn; subst hd
  exact wpK_ret ⟨.inr rfl, rfl, [.int .i64 P, .int .i64 l.length], by simp [h2, h3], hE, rfl⟩
theorem step101_wp {W : AW} {v : Value} {P : Int} {l : List Tri} (h : TriIn W v l) {i : Nat} {a : Tri} (hi : l[i]? = some a) : WpF T0 101 [.agg ⟨[.int .i64 P, v]⟩, .int .i64 i] W (fun v W' => Ext W W' ∧ v = .tuple ⟨[.int .i64 a.1, .int .i64 a.2.1, .int .i64 a.2.2, .int .i64 a.2.2]⟩) := by
  obtain ⟨A, c, rfl, h3⟩ := h
  refine wpF fun101 rfl ?_
  have hlt : i < l.length := (List.getElem?_eq_some_iff.1 hi).1
  obtain ⟨b', o, rfl, q1, q2, q3⟩ := h3 i a hi
  have hV := Var.new W 35 [.int .i64 P, .slice (some ⟨b', o, none⟩) l.length c]
  have hE : Ext W (W.newCells 35 [.int .i64 P, .slice (some ⟨b', o, none⟩) l.length c]) := .newCells _ _ _
  have hl2 := hV.load1 (T := T0) und33 rfl (j := 1) (v := .slice (some ⟨b', o, none⟩) l.length c) rfl
  have hx := indexAddr_tri (T := T0) und33 sz108 (b := b') (o := o) (c := c) (k := .i64) hlt
  have hl3 := load3 (T := T0) und108 agg108 inf108 is108 (q1.ext hE) (q2.ext hE) (q3.ext hE)
  generalize hW1 : W.newCells 35 [.int .i64 P, .slice (some ⟨b', o, none⟩) l.length c] = W1 at hE hl2 hl3
  obtain ⟨W2, s1, s2, s3, s4⟩ := storeVar_new (T := T0) (W := W1) (t := 108) (v := .agg ⟨[.int .i64 a.1, .int .i64 a.2.1, .int .i64 a.2.2]⟩) (z := [.int .i64 0, .int .i64 0, .int .i64 0]) inf108 (by rw [is108]; rfl) (by rw [is108]; rfl) rfl
  have hf0 := s4.load1 (T := T0) und3 rfl (j := 0) (v := .int .i64 a.1) rfl
  have hf1 := s4.load1 (T := T0) und3 rfl (j := 1) (v := .int .i64 a.2.1) rfl
  have hf2 := s4.load1 (T := T0) und2 rfl (j := 2) (v := .int .i64 a.2.2) rfl
  try simp only [wpK_assoc]
  refine wpK_reg (fun R hR => by simp; exact hR) ?_
  rw [hW1]
  try simp only [wpK_assoc]
  refine wpK_reg (fun R hR => by simp [hl2, hx, hl3, zero108, s1]; exact hR) ?_
  try simp only [wpK_assoc]
  refine wpK_dr (wr := Tr.nil |>.set 14 0 |>.set 15 1 |>.set 16 2 |>.set 17 3 |>.set 18 4 |>.set 19 5 |>.set 20 6 |>.set 21 7 |>.set 4 8 |>.set 5 9 |>.set 6 10 |>.set 7 11) (bits := Tr.nil.lay 0 [0, 1, 0, 4, 0, 16, 0, 64, 3, 271, 831, 2047]) (ord := [0, 1, 2, 3, 4, 5, 6, 7, 8, 9, 10, 11])
    (J := fun A W' => W' = W2 ∧ A.n = 22 ∧ A.defers = [] ∧ A.tmps.get 4 = some (.int .i64 a.1) ∧ A.tmps.get 5 = some (.int .i64 a.2.1) ∧ A.tmps.get 6 = some (.int .i64 a.2.2) ∧ A.tmps.get 7 = some (.int .i64 a.2.2))
    (by kernel_rfl) (by kernel_rfl) (by kernel_rfl) (fun G hG => ?_) ?_
  · simp [hf0, hf1, hf2]
    apply hG
    exact ⟨rfl, rfl, rfl, by simp, by simp, by simp, by simp⟩
  rintro ⟨t, n, ds⟩ W' ⟨rfl, hn, hd, h4, h5, h6, h7⟩
  simp only at hn hd h4 h5 h6 h7
  subst hn; subst hd
  exact wpK_ret ⟨.inr rfl, rfl, [.int .i64 a.1, .int .i64 a.2.1, .int .i64 a.2.2, .int .i64 a.2.2], by simp [h4, h5, h6, h7], hE.trans s3, rfl⟩
abbrev Quad := Int × Int × Int × Int
def tupQ (a : Quad) : Value := .tuple ⟨[.int .i64 a.1, .int .i64 a.2.1, .int .i64 a.2.2.1, .int .i64 a.2.2.2]⟩
structure PlanOf (W0 : AW) (t : TypeId) (r : Value) (fz fs : FuncId) (P : Int) (l : List Quad) : Prop where
  meth : T0.meths.get t = some [("minikin/flow.size", fz), ("minikin/flow.step", fs)]
  hfz : ∃ fn, T0.funcs.get fz = some fn
  hfs : ∃ fn, T0.funcs.get fs = some fn
  nz : fz ≠ 26
  ns : fs ≠ 26
  size : ∀ W, Ext W0 W → WpF T0 fz [r] W (fun v W' => Ext W W' ∧ v = .tuple ⟨[.int .i64 P, .int .i64 l.length]⟩)
  step : ∀ W, Ext W0 W → ∀ (i : Nat) a, l[i]? = some a → WpF T0 fs [r, .int .i64 i] W (fun v W' => Ext W W' ∧ v = tupQ a)
theorem PlanOf.ext {W0 W1 : AW} {t : TypeId} {r : Value} {fz fs : FuncId} {P : Int} {l : List Quad} (h : PlanOf W0 t r fz fs P l) (he : Ext W0 W1) : PlanOf W1 t r fz fs P l :=
  ⟨h.meth, h.hfz, h.hfs, h.nz, h.ns, fun W hW => h.size W (he.trans hW), fun W hW => h.step W (he.trans hW)⟩
def arcsQ (l : List Tri) : List Quad := l.map fun a => (a.1, a.2.1, a.2.2, 0)
def linksQ (l : List Tri) : List Quad := l.map fun a => (a.1, a.2.1, a.2.2, a.2.2)
theorem boardPlan {W : AW} {v : Value} {P : Int} {l : List Tri} (h : TriIn W v l) : PlanOf W 35 (.agg ⟨[.int .i64 P, v]⟩) 100 101 P (linksQ l) where
  meth := meth35
  hfz := ⟨_, fun100⟩
  hfs := ⟨_, fun101⟩
  nz := by decide
  ns := by decide
  size := fun W' hW => by
    have := size100_wp (P := P) (h.ext hW)
    simpa [linksQ] using this
  step := fun W' hW i a ha => by
    simp only [linksQ, List.getElem?_map, Option.map_eq_some_iff] at ha
    obtain ⟨x, hx, rfl⟩ := ha
    exact step101_wp (h.ext hW) hx
def okStep (P : Int) (a : Quad) : Bool := two? a.1 a.2.1 P && decide (0 ≤ a.2.2.1) && decide (a.2.2.1 ≤ 1000000000)
def planOk (P : Int) (l : List Quad) : Bool := decide (2 ≤ P) && decide (P ≤ 24) && decide (l.length ≤ 200) && l.all (okStep P)
def chk (P : Int) (l : List Quad) : Int := if planOk P l = true then 0 else 30
theorem check_wp {W : AW} {t : TypeId} {r : Value} {fz fs : FuncId} {P : Int} {l : List Quad} (h : PlanOf W t r fz fs P l) :
    WpF T0 51 [.iface t r] W (fun v W' => Ext W W' ∧ v = .int .i64 (chk P l)) := by
  obtain ⟨fnz, hfz⟩ := h.hfz
  obtain ⟨fns, hfs⟩ := h.hfs
  have hnz := h.nz
  have hns := h.ns
  refine wpF fun51 rfl ?_
  try simp only [wpK_assoc]
  refine wpK_reg (fun R hR => by simp; exact hR) ?_
  try simp only [wpK_assoc]
  refine wpK_regc (J := fun A W' => Ext W W' ∧ A.n = 51 ∧ A.defers = [] ∧ A.tmps.get 0 = some (.iface t r) ∧ A.tmps.get 3 = some (.int .i64 P) ∧ A.tmps.get 4 = some (.int .i64 l.length)) (fun R hR => ?_) ?_
  · simp [aCallI, h.meth, aMeth, hfz, short_other hnz]
    rw [callS_none]
    refine (h.size W (.refl _ _)).mono ?_
    rintro _ W' ⟨hE, rfl⟩
    simp
    apply hR
    exact ⟨hE, rfl, rfl, by simp, by simp, by simp⟩
  rintro ⟨tm, n, ds⟩ W1 ⟨hE1, hn, hd, h0, h3, h4⟩
  simp only at hn hd h0 h3 h4
  subst hn; subst hd
  have fin30 : ∀ (A : AAct) (W' : AW), Ext W W' → planOk P l = false → A.defers = [] → A.tmps.get 2 = some (.int .i64 30) → (AExit.ret = .normal ∨ AExit.ret = .ret) ∧ A.defers = [] ∧ ∃ l1, aResults T0 W' A.tmps Tryd.f51.results.toList = some l1 ∧ Ext W W' ∧ tupled l1 = .int .i64 (chk P l) := by
    intro A W' hE hbad hd h2
    exact ⟨.inr rfl, hd, [.int .i64 30], by simp [h2], hE, by simp [chk, hbad]⟩
  try simp only [wpK_assoc]
  by_cases hP2 : P < 2
  · try simp only [wpK_assoc]
    refine wpK_reg (fun R hR => by simp [h3, h4, hP2]; exact hR) ?_
    refine wpK_condT (by simp) ?_
    try simp only [wpK_assoc]
    refine wpK_reg (fun R hR => by simp; exact hR) ?_
    exact wpK_ret (fin30 _ _ hE1 (by simp [planOk]; omega) rfl (by simp))
  by_cases hP24 : 24 < P
  · try simp only [wpK_assoc]
    refine wpK_reg (fun R hR => by simp [h3, h4, hP2, hP24]; exact hR) ?_
    refine wpK_condT (by simp) ?_
    try simp only [wpK_assoc]
    refine wpK_reg (fun R hR => by simp; exact hR) ?_
    exact wpK_ret (fin30 _ _ hE1 (by simp [planOk]; omega) rfl (by simp))
  by_cases hl200 : (200 : Int) < (l.length : Int)
  · try simp only [wpK_assoc]
    refine wpK_reg (fun R hR => by simp [h3, h4, hP2, hP24, hl200]; exact hR) ?_
    refine wpK_condT (by simp) ?_
    try simp only [wpK_assoc]
    refine wpK_reg (fun R hR => by simp; exact hR) ?_
    exact wpK_ret (fin30 _ _ hE1 (by simp [planOk]; omega) rfl (by simp))
  try simp only [wpK_assoc]
  refine wpK_reg (fun R hR => by simp [h3, h4, hP2, hP24, hl200]; exact hR) ?_
  refine wpK_onF (by simp) ?_
  try simp only [wpK_assoc]
  refine wpK_reg (fun R hR => by simp [h4]; exact hR) ?_
  try simp only [wpK_assoc]
  refine wpK_while (I := fun k A W' => Ext W W' ∧ A.n = 51 ∧ A.defers = [] ∧ A.tmps.get 0 = some (.iface t r) ∧ A.tmps.get 3 = some (.int .i64 P) ∧ A.tmps.get 25 = some (.int .i64 l.length) ∧
      ∃ i : Nat, k = l.length - i ∧ i ≤ l.length ∧ A.tmps.get 26 = some (.int .i64 i) ∧ ∀ j a, j < i → l[j]? = some a → okStep P a = true)
    (J := fun A W' => Ext W W' ∧ A.n = 51 ∧ A.defers = [] ∧ l.all (okStep P) = true)
    (Rt := fun A W' => Ext W W' ∧ A.defers = [] ∧ A.tmps.get 2 = some (.int .i64 30) ∧ planOk P l = false) (k := l.length) ?_ ?_ ?_ ?_
  · exact ⟨hE1, rfl, rfl, by simp [h0], by simp [h3], by simp, 0, by simp, by simp, by simp, fun j a hj => by omega⟩
  · rintro k ⟨tm, n, ds⟩ W2 ⟨hE2, hn, hd, h0, h3, h25, i, hk, hi, h26, hgood⟩ Q' hJ hRt hI
    simp only at hn hd h0 h3 h25 h26
    subst hn; subst hd
    try simp only [wpK_assoc]
    refine wpK_reg (fun R hR => by simp [h25, h26]; exact hR) ?_
    by_cases hlt : i < l.length
    · refine wpK_onT (by simp [hlt]) ?_
      have ha : l[i]? = some l[i] := List.getElem?_eq_getElem hlt
      have hm : l[i] ∈ l := List.getElem_mem hlt
      generalize l[i] = a at ha hm
      refine wpK_block ?_
      try simp only [wpK_assoc]
      refine wpK_reg (fun R hR => by simp [h26]; exact hR) ?_
      try simp only [wpK_assoc]
      refine wpK_regc (J := fun A W' => Ext W W' ∧ A.n = 51 ∧ A.defers = [] ∧ A.tmps.get 0 = some (.iface t r) ∧ A.tmps.get 3 = some (.int .i64 P) ∧ A.tmps.get 25 = some (.int .i64 l.length) ∧ A.tmps.get 26 = some (.int .i64 i) ∧ A.tmps.get 6 = some (.int .i64 a.1) ∧ A.tmps.get 7 = some (.int .i64 a.2.1) ∧ A.tmps.get 8 = some (.int .i64 a.2.2.1)) (fun R hR => ?_) ?_
      · simp [h0, aCallI, h.meth, aMeth, hfs, short_other hns]
        rw [callS_none]
        refine (h.step W2 hE2 i a ha).mono ?_
        rintro _ W' ⟨hE, rfl⟩
        simp [tupQ]
        apply hR
        exact ⟨hE2.trans hE, rfl, rfl, by simp [h0], by simp [h3], by simp [h25], by simp [h26], by simp, by simp, by simp⟩
      rintro ⟨tm, n, ds⟩ W3 ⟨hE3, hn, hd, h0, h3, h25, h26, h6, h7, h8⟩
      simp only at hn hd h0 h3 h25 h26 h6 h7 h8
      subst hn; subst hd
      try simp only [wpK_assoc]
      refine wpK_regc (J := fun A W' => W' = W3 ∧ A.n = 51 ∧ A.defers = [] ∧ A.tmps.get 0 = some (.iface t r) ∧ A.tmps.get 3 = some (.int .i64 P) ∧ A.tmps.get 25 = some (.int .i64 l.length) ∧ A.tmps.get 26 = some (.int .i64 i) ∧ A.tmps.get 49 = some (.bool (!okStep P a))) (fun R hR => ?_) ?_
      · simp [h3, h6, h7, aEnter, fun74, short_other, aCallV]
        rw [callS_none]
        refine (areTwo_wp a.1 a.2.1 P W3).mono ?_
        rintro _ W' ⟨rfl, rfl⟩
        cases h2 : two? a.1 a.2.1 P with
        | false =>
          simp [h8, h2]
          apply hR
          exact ⟨rfl, rfl, rfl, by simp [h0], by simp [h3], by simp [h25], by simp [h26], by simp [okStep, h2]⟩
        | true =>
          by_cases hc : a.2.2.1 < 0
          · simp [h8, h2, hc]
            apply hR
            exact ⟨rfl, rfl, rfl, by simp [h0], by simp [h3], by simp [h25], by simp [h26], by simp [okStep, h2]; omega⟩
          · by_cases hc2 : 1000000000 < a.2.2.1
            · simp [h8, h2, hc, hc2]
              apply hR
              exact ⟨rfl, rfl, rfl, by simp [h0], by simp [h3], by simp [h25], by simp [h26], by simp [okStep, h2]; omega⟩
            · simp [h8, h2, hc, hc2]
              apply hR
              exact ⟨rfl, rfl, rfl, by simp [h0], by simp [h3], by simp [h25], by simp [h26], by simp [okStep, h2]; omega⟩
      rintro ⟨tm, n, ds⟩ W4 ⟨rfl, hn, hd, h0, h3, h25, h26, h49⟩
      simp only at hn hd h0 h3 h25 h26 h49
      subst hn; subst hd
      cases hok : okStep P a with
      | false =>
        refine wpK_endT (by simp [h49, hok]) ?_
        try simp only [wpK_assoc]
        refine wpK_reg (fun R hR => by simp; exact hR) ?_
        refine wpK_ret (hRt _ _ ⟨hE3, rfl, by simp, ?_⟩)
        have : l.all (okStep P) = false := by
          rw [List.all_eq_false]; exact ⟨a, hm, by simp [hok]⟩
        simp [planOk, this]
      | true =>
        refine wpK_endF (by simp [h49, hok]) (wpK_skip ?_)
        try simp only [wpK_assoc]
        refine wpK_reg1 (fun R hR => by simp [h26]; exact hR) ?_
        refine hI (k - 1) _ _ (by omega) ⟨hE3, rfl, rfl, by simp [h0], by simp [h3], by simp [h25], i + 1, by omega, by omega, by simp; exact i64_succ i (by omega), fun j d hj hd => ?_⟩
        by_cases hji : j = i
        · subst hji; rw [ha] at hd; cases hd; exact hok
        · exact hgood j d (by omega) hd
    · refine wpK_out (by simp [hlt]) (hJ _ _ ⟨hE2, rfl, rfl, ?_⟩)
      rw [List.all_eq_true]
      intro x hx
      obtain ⟨j, hj, rfl⟩ := List.getElem_of_mem hx
      exact hgood j l[j] (by omega) (List.getElem?_eq_getElem hj)
  · rintro A' W' ⟨hE, h1, h2, h3⟩
    exact ⟨.inr rfl, h1, [.int .i64 30], by simp [h2], hE, by simp [chk, h3]⟩
  · rintro ⟨tm, n, ds⟩ W' ⟨hE, hn, hd, hall⟩
    simp only at hn hd
    subst hn; subst hd
    try simp only [wpK_assoc]
    refine wpK_reg (fun R hR => by simp; exact hR) ?_
    refine wpK_ret ⟨.inr rfl, rfl, [.int .i64 0], by simp, hE, ?_⟩
    have : planOk P l = true := by simp only [planOk, hall, Bool.and_true]; simp; omega
    simp [chk, this]
def IntL (W : AW) (v : Value) (l : List Int) : Prop := ∃ A c, v = .slice A l.length c ∧ ∀ (i : Nat) x, l[i]? = some x → ∃ b o, A = some ⟨b, o, none⟩ ∧ W.Has b (o + i) (.int .i64 x)
theorem IntL.only {W W' : AW} {v : Value} {l : List Int} {K : Nat → Prop} (h : IntL W v l) (he : Only K W W') (hk : ∀ b, b < W.next → ¬ K b) : IntL W' v l := by
  obtain ⟨A, c, h1, h2⟩ := h
  refine ⟨A, c, h1, fun i a hi => ?_⟩
  obtain ⟨b, o, g1, g2⟩ := h2 i a hi
  exact ⟨b, o, g1, g2.only he (hk b g2.1)⟩
theorem IntL.ext {W W' : AW} {v : Value} {l : List Int} (h : IntL W v l) (he : Ext W W') : IntL W' v l := h.only he (fun _ _ x => x)
def intsV (l : List Int) : List Value := l.map (Value.int .i64)
theorem GrowsN.ints {W : AW} {v : Value} {l : List Int} {el : TypeId} {K : Nat → Prop} (h : GrowsN W v l.length (intsV l) el 1 K) : IntL W v l := by
  by_cases hl : l.length = 0
  · obtain ⟨a, c, rfl⟩ := h.len
    exact ⟨a, c, rfl, fun i x hx => by
      have := (List.getElem?_eq_some_iff.1 hx).1; omega⟩
  · obtain ⟨b, rfl, _, _, _, hh⟩ := h.has (by omega)
    refine ⟨_, _, rfl, fun i a hi => ⟨b, 0, rfl, ?_⟩⟩
    exact hh _ _ (by rw [Nat.zero_add, intsV, List.getElem?_map, hi]; rfl)
def prevAt (l : List Int) (i : Nat) : Int := if i = 0 then -1 else (l[i - 1]?).getD 0
def RiseOk (n : Int) (l : List Int) : Prop := ∀ (i : Nat) x, l[i]? = some x → x < n ∧ prevAt l i < x
def orAll (l : List Int) : Nat := l.foldl (fun s p => s ||| 1 <<< p.toNat) 0
theorem one_lt {p : Nat} (h : p < 64) : 1 <<< p < 18446744073709551616 := by
  rw [Nat.shiftLeft_eq, Nat.one_mul]; exact Nat.pow_lt_pow_right (a := 2) (by omega) h
def out1 (s : Nat) (a : Quad) : Int := (if s.testBit a.1.toNat && !s.testBit a.2.1.toNat then a.2.2.1 else 0) + (if s.testBit a.2.1.toNat && !s.testBit a.1.toNat then a.2.2.2 else 0)
def capQ (s : Nat) (l : List Quad) : Int := (l.map (out1 s)).sum
theorem capQ_take {s : Nat} {l : List Quad} {i : Nat} {a : Quad} (h : l[i]? = some a) : capQ s (l.take (i + 1)) = capQ s (l.take i) + out1 s a := by
  rw [List.take_add_one, h, Option.toList_some, capQ, List.map_append, List.sum_append]; simp [capQ]
structure PlanIn (P : Int) (l : List Quad) : Prop where
  ok : planOk P l = true
  back : ∀ a ∈ l, 0 ≤ a.2.2.2 ∧ a.2.2.2 ≤ 1000000000
theorem PlanIn.step {P : Int} {l : List Quad} (h : PlanIn P l) {a : Quad} (ha : a ∈ l) : 0 ≤ a.1 ∧ a.1 < P ∧ 0 ≤ a.2.1 ∧ a.2.1 < P ∧ a.1 ≠ a.2.1 ∧ 0 ≤ a.2.2.1 ∧ a.2.2.1 ≤ 1000000000 ∧ 0 ≤ a.2.2.2 ∧ a.2.2.2 ≤ 1000000000 := by
  have h1 := h.ok
  simp only [planOk, Bool.and_eq_true, List.all_eq_true] at h1
  have h2 := h1.2 a ha
  simp only [okStep, two?, Bool.and_eq_true, decide_eq_true_eq] at h2
  have h3 := h.back a ha
  omega
theorem PlanIn.size {P : Int} {l : List Quad} (h : PlanIn P l) : 2 ≤ P ∧ P ≤ 24 ∧ l.length ≤ 200 := by
  have h1 := h.ok
  simp only [planOk, Bool.and_eq_true, decide_eq_true_eq] at h1
  omega
theorem out1_le {P : Int} {l : List Quad} (h : PlanIn P l) (s : Nat) {a : Quad} (ha : a ∈ l) : 0 ≤ out1 s a ∧ out1 s a ≤ 1000000000 := by
  have := h.step ha
  unfold out1
  cases s.testBit a.1.toNat <;> cases s.testBit a.2.1.toNat <;> simp <;> omega
theorem capQ_le {P : Int} {l : List Quad} (h : PlanIn P l) (s : Nat) (i : Nat) (hi : i ≤ l.length) : 0 ≤ capQ s (l.take i) ∧ capQ s (l.take i) ≤ i * 1000000000 := by
  induction i with
  | zero => simp [capQ]
  | succ i ih =>
    have ha : l[i]? = some l[i] := List.getElem?_eq_getElem (by omega)
    rw [capQ_take ha]
    have := ih (by omega)
    have := out1_le h s (List.getElem_mem (show i < l.length from by omega))
    omega
theorem across_wp {W : AW} {t : TypeId} {r : Value} {fz fs : FuncId} {P : Int} {l : List Quad} (h : PlanOf W t r fz fs P l) (hP : PlanIn P l) (s : Nat) (hs : s < 18446744073709551616) :
    WpF T0 65 [.iface t r, .int .u64 s] W (fun v W' => Ext W W' ∧ v = .int .i64 (capQ s l)) := by
  obtain ⟨fnz, hfz⟩ := h.hfz
  obtain ⟨fns, hfs⟩ := h.hfs
  have hnz := h.nz
  have hns := h.ns
  obtain ⟨hP2, hP24, hl200⟩ := hP.size
  refine wpF fun65 rfl ?_
  try simp only [wpK_assoc]
  refine wpK_reg (fun R hR => by simp; exact hR) ?_
  try simp only [wpK_assoc]
  refine wpK_reg (fun R hR => by simp; exact hR) ?_
  try simp only [wpK_assoc]
  refine wpK_regc (J := fun A W' => Ext W W' ∧ A.n = 56 ∧ A.defers = [] ∧ A.tmps.get 0 = some (.iface t r) ∧ A.tmps.get 1 = some (.int .u64 s) ∧ A.tmps.get 5 = some (.int .i64 0) ∧ A.tmps.get 7 = some (.int .i64 l.length)) (fun R hR => ?_) ?_
  · simp [aCallI, h.meth, aMeth, hfz, short_other hnz]
    rw [callS_none]
    refine (h.size W (.refl _ _)).mono ?_
    rintro _ W' ⟨hE, rfl⟩
    simp
    apply hR
    exact ⟨hE, rfl, rfl, by simp, by simp, by simp, by simp⟩
  rintro ⟨tm, n, ds⟩ W1 ⟨hE1, hn, hd, h0, h1, h5, h7⟩
  simp only at hn hd h0 h1 h5 h7
  subst hn; subst hd
  try simp only [wpK_assoc]
  refine wpK_reg (fun R hR => by simp [h7]; exact hR) ?_
  try simp only [wpK_assoc]
  refine wpK_while (I := fun k A W' => Ext W W' ∧ A.n = 56 ∧ A.defers = [] ∧ A.tmps.get 0 = some (.iface t r) ∧ A.tmps.get 1 = some (.int .u64 s) ∧ A.tmps.get 18 = some (.int .i64 l.length) ∧
      ∃ i : Nat, k = l.length - i ∧ i ≤ l.length ∧ A.tmps.get 19 = some (.int .i64 i) ∧ A.tmps.get 5 = some (.int .i64 (capQ s (l.take i))))
    (J := fun A W' => Ext W W' ∧ A.n = 56 ∧ A.defers = [] ∧ A.tmps.get 5 = some (.int .i64 (capQ s l)))
    (Rt := fun _ _ => False) (k := l.length) ?_ ?_ ?_ ?_
  · exact ⟨hE1, rfl, rfl, by simp [h0], by simp [h1], by simp, 0, by simp, by simp, by simp, by simp [h5, capQ]⟩
  · rintro k ⟨tm, n, ds⟩ W2 ⟨hE2, hn, hd, h0, h1, h18, i, hk, hi, h19, h5⟩ Q' hJ hRt hI
    simp only at hn hd h0 h1 h18 h19 h5
    subst hn; subst hd
    try simp only [wpK_assoc]
    refine wpK_reg (fun R hR => by simp [h18, h19]; exact hR) ?_
    by_cases hlt : i < l.length
    · refine wpK_onT (by simp [hlt]) ?_
      have ha : l[i]? = some l[i] := List.getElem?_eq_getElem hlt
      have hm : l[i] ∈ l := List.getElem_mem hlt
      generalize l[i] = a at ha hm
      have hst := hP.step hm
      obtain ⟨p, q, c, d⟩ := a
      simp only at hst
      obtain ⟨p, rfl⟩ : ∃ p' : Nat, p = p' := ⟨p.toNat, by omega⟩
      obtain ⟨q, rfl⟩ : ∃ q' : Nat, q = q' := ⟨q.toNat, by omega⟩
      have hc := capQ_le hP s i hi
      have hnext := capQ_take (s := s) ha
      obtain ⟨bp, hbp⟩ : ∃ b, s.testBit p = b := ⟨_, rfl⟩
      obtain ⟨bq, hbq⟩ : ∃ b, s.testBit q = b := ⟨_, rfl⟩
      have hasp : ∀ W, WpF T0 62 [.int .u64 s, .int .i64 p] W (fun v W' => W' = W ∧ v = .bool bp) := fun W => hbp ▸ has_wp s p hs (by omega) W
      have hasq : ∀ W, WpF T0 62 [.int .u64 s, .int .i64 q] W (fun v W' => W' = W ∧ v = .bool bq) := fun W => hbq ▸ has_wp s q hs (by omega) W
      refine wpK_block ?_
      try simp only [wpK_assoc]
      refine wpK_reg (fun R hR => by simp [h19]; exact hR) ?_
      try simp only [wpK_assoc]
      refine wpK_regc (J := fun A W' => Ext W W' ∧ A.n = 56 ∧ A.defers = [] ∧ A.tmps.get 0 = some (.iface t r) ∧ A.tmps.get 1 = some (.int .u64 s) ∧ A.tmps.get 18 = some (.int .i64 l.length) ∧ A.tmps.get 19 = some (.int .i64 i) ∧ A.tmps.get 5 = some (.int .i64 (capQ s (l.take i))) ∧ A.tmps.get 9 = some (.int .i64 p) ∧ A.tmps.get 10 = some (.int .i64 q) ∧ A.tmps.get 11 = some (.int .i64 c) ∧ A.tmps.get 12 = some (.int .i64 d)) (fun R hR => ?_) ?_
      · simp [h0, aCallI, h.meth, aMeth, hfs, short_other hns]
        rw [callS_none]
        refine (h.step W2 hE2 i _ ha).mono ?_
        rintro _ W' ⟨hE, rfl⟩
        simp [tupQ]
        apply hR
        exact ⟨hE2.trans hE, rfl, rfl, by simp [h0], by simp [h1], by simp [h18], by simp [h19], by simp [h5], by simp, by simp, by simp, by simp⟩
      rintro ⟨tm, n, ds⟩ W3 ⟨hE3, hn, hd, h0, h1, h18, h19, h5, h9, h10, h11, h12⟩
      simp only at hn hd h0 h1 h18 h19 h5 h9 h10 h11 h12
      subst hn; subst hd
      try simp only [wpK_assoc]
      -- there
      try simp only [wpK_assoc]
      refine wpK_regc (J := fun A W' => W' = W3 ∧ A.n = 56 ∧ A.defers = [] ∧ A.tmps.get 0 = some (.iface t r) ∧ A.tmps.get 1 = some (.int .u64 s) ∧ A.tmps.get 18 = some (.int .i64 l.length) ∧ A.tmps.get 19 = some (.int .i64 i) ∧ A.tmps.get 5 = some (.int .i64 (capQ s (l.take i))) ∧ A.tmps.get 9 = some (.int .i64 p) ∧ A.tmps.get 10 = some (.int .i64 q) ∧ A.tmps.get 11 = some (.int .i64 c) ∧ A.tmps.get 12 = some (.int .i64 d) ∧ A.tmps.get 38 = some (.bool (bp && !bq))) (fun R hR => ?_) ?_
      · simp [h1, h9, aEnter, fun62, short_other, aCallV]
        rw [callS_none]
        refine (hasp W3).mono ?_
        rintro _ W' ⟨rfl, rfl⟩
        cases bp with
        | false =>
          simp
          apply hR
          exact ⟨rfl, rfl, rfl, by simp [h0], by simp [h1], by simp [h18], by simp [h19], by simp [h5], by simp [h9], by simp [h10], by simp [h11], by simp [h12], by simp⟩
        | true =>
          simp [h1, h10, aEnter, fun62, short_other, aCallV]
          rw [callS_none]
          refine (hasq W').mono ?_
          rintro _ W'' ⟨rfl, rfl⟩
          simp
          apply hR
          exact ⟨rfl, rfl, rfl, by simp [h0], by simp [h1], by simp [h18], by simp [h19], by simp [h5], by simp [h9], by simp [h10], by simp [h11], by simp [h12], by simp⟩
      rintro ⟨tm, n, ds⟩ W4 ⟨rfl, hn, hd, h0, h1, h18, h19, h5, h9, h10, h11, h12, h38⟩
      simp only at hn hd h0 h1 h18 h19 h5 h9 h10 h11 h12 h38
      subst hn; subst hd
      try simp only [wpK_assoc]
      obtain ⟨x, hx⟩ : ∃ x : Int, x = (if bp && !bq then c else 0) := ⟨_, rfl⟩
      have hxb : 0 ≤ x ∧ x ≤ 1000000000 := by rw [hx]; split <;> omega
      have hw1 : IntKind.i64.wrap (capQ s (l.take i) + c) = capQ s (l.take i) + c := IntWalk.i64_in _ (by omega)
      try simp only [wpK_assoc]
      refine wpK_cut (J := fun A W' => W' = W4 ∧ A.n = 56 ∧ A.defers = [] ∧ A.tmps.get 0 = some (.iface t r) ∧ A.tmps.get 1 = some (.int .u64 s) ∧ A.tmps.get 18 = some (.int .i64 l.length) ∧ A.tmps.get 19 = some (.int .i64 i) ∧ A.tmps.get 5 = some (.int .i64 (capQ s (l.take i) + x)) ∧ A.tmps.get 9 = some (.int .i64 p) ∧ A.tmps.get 10 = some (.int .i64 q) ∧ A.tmps.get 12 = some (.int .i64 d)) (fun Q2 hQ2 => ?_) ?_
      · cases hb : (bp && !bq) with
        | true =>
          rw [hb] at h38 hx
          refine wpK_endT (by simp [h38]) ?_
          try simp only [wpK_assoc]
          refine wpK_reg1 (fun R hR => by simp [h5, h11, hw1]; exact hR) ?_
          refine hQ2 _ _ ⟨rfl, rfl, rfl, by simp [h0], by simp [h1], by simp [h18], by simp [h19], by simp [hx], by simp [h9], by simp [h10], by simp [h12]⟩
        | false =>
          rw [hb] at h38 hx
          refine wpK_endF (by simp [h38]) (wpK_skip ?_)
          refine hQ2 _ _ ⟨rfl, rfl, rfl, by simp [h0], by simp [h1], by simp [h18], by simp [h19], by simp [h5, hx], by simp [h9], by simp [h10], by simp [h12]⟩
      rintro ⟨tm, n, ds⟩ W5 ⟨rfl, hn, hd, h0, h1, h18, h19, h5, h9, h10, h12⟩
      simp only at hn hd h0 h1 h18 h19 h5 h9 h10 h12
      subst hn; subst hd
      try simp only [wpK_assoc]
      -- back
      try simp only [wpK_assoc]
      refine wpK_regc (J := fun A W' => W' = W5 ∧ A.n = 56 ∧ A.defers = [] ∧ A.tmps.get 0 = some (.iface t r) ∧ A.tmps.get 1 = some (.int .u64 s) ∧ A.tmps.get 18 = some (.int .i64 l.length) ∧ A.tmps.get 19 = some (.int .i64 i) ∧ A.tmps.get 5 = some (.int .i64 (capQ s (l.take i) + x)) ∧ A.tmps.get 12 = some (.int .i64 d) ∧ A.tmps.get 50 = some (.bool (bq && !bp))) (fun R hR => ?_) ?_
      · simp [h1, h10, aEnter, fun62, short_other, aCallV]
        rw [callS_none]
        refine (hasq W5).mono ?_
        rintro _ W' ⟨rfl, rfl⟩
        cases bq with
        | false =>
          simp
          apply hR
          exact ⟨rfl, rfl, rfl, by simp [h0], by simp [h1], by simp [h18], by simp [h19], by simp [h5], by simp [h12], by simp⟩
        | true =>
          simp [h1, h9, aEnter, fun62, short_other, aCallV]
          rw [callS_none]
          refine (hasp W').mono ?_
          rintro _ W'' ⟨rfl, rfl⟩
          simp
          apply hR
          exact ⟨rfl, rfl, rfl, by simp [h0], by simp [h1], by simp [h18], by simp [h19], by simp [h5], by simp [h12], by simp⟩
      rintro ⟨tm, n, ds⟩ W6 ⟨rfl, hn, hd, h0, h1, h18, h19, h5, h12, h50⟩
      simp only at hn hd h0 h1 h18 h19 h5 h12 h50
      subst hn; subst hd
      try simp only [wpK_assoc]
      have hw2 : IntKind.i64.wrap (capQ s (l.take i) + x + d) = capQ s (l.take i) + x + d := IntWalk.i64_in _ (by omega)
      have hout : out1 s ((p : Int), (q : Int), c, d) = x + (if bq && !bp then d else 0) := by
        simp only [out1, Int.toNat_natCast, hx, hbp, hbq]
      cases hb : (bq && !bp) with
      | true =>
        rw [hb] at h50 hout
        refine wpK_endT (by simp [h50]) ?_
        try simp only [wpK_assoc]
        refine wpK_reg1 (fun R hR => by simp [h5, h12, hw2]; exact hR) ?_
        try simp only [wpK_assoc]
        refine wpK_reg1 (fun R hR => by simp [h19]; exact hR) ?_
        refine hI (k - 1) _ _ (by omega) ⟨hE3, rfl, rfl, by simp [h0], by simp [h1], by simp [h18], i + 1, by omega, by omega, by simp; exact i64_succ i (by omega), by simp; rw [hnext, hout]; simp; omega⟩
      | false =>
        rw [hb] at h50 hout
        refine wpK_endF (by simp [h50]) (wpK_skip ?_)
        try simp only [wpK_assoc]
        refine wpK_reg1 (fun R hR => by simp [h19]; exact hR) ?_
        refine hI (k - 1) _ _ (by omega) ⟨hE3, rfl, rfl, by simp [h0], by simp [h1], by simp [h18], i + 1, by omega, by omega, by simp; exact i64_succ i (by omega), by simp [h5]; rw [hnext, hout]; simp⟩
    · have e : i = l.length := by omega
      subst e
      rw [List.take_length] at h5
      exact wpK_out (by simp) (hJ _ _ ⟨hE2, rfl, rfl, by simp [h5]⟩)
  · rintro A' W' hf; exact hf.elim
  · rintro ⟨tm, n, ds⟩ W' ⟨hE, hn, hd, h5⟩
    simp only at hn hd h5
    subst hn; subst hd
    try simp only [wpK_assoc]
    refine wpK_reg (fun R hR => by simp [h5]; exact hR) ?_
    exact wpK_ret ⟨.inr rfl, rfl, [.int .i64 (capQ s l)], by simp, hE, rfl⟩
theorem netIn {W : AW} {v : Value} {P : Int} {l : List Tri} (h : TriIn W v l) : NetAt (W.newCells 31 [.int .i64 P, v]) W.next P l :=
  ⟨v, Has.newCells rfl, Has.newCells rfl, h.ext (.newCells _ _ _)⟩
theorem arcsQ_in {P : Int} {l : List Tri} (h : planOk P (arcsQ l) = true) : PlanIn P (arcsQ l) :=
  ⟨h, fun a ha => by simp only [arcsQ, List.mem_map] at ha; obtain ⟨x, _, rfl⟩ := ha; simp⟩
def memb (P s : Nat) : List Int := ((List.range P).filter (s.testBit ·)).map Int.ofNat
theorem memb_succ (P s : Nat) : memb (P + 1) s = memb P s ++ (if s.testBit P then [(P : Int)] else []) := by
  simp only [memb, List.range_succ, List.filter_append, List.map_append]
  cases h : s.testBit P <;> simp only [List.filter_cons, h, List.filter_nil] <;> rfl
theorem memb_len (P s : Nat) : (memb P s).length ≤ P := by
  simp only [memb, List.length_map]
  exact Nat.le_trans (List.length_filter_le _ _) (by simp)
theorem newCells_cellsAt (W : AW) (el : TypeId) (l : List Value) (n : Nat) (hn : l.length = n) : (W.newCells el l).cellsAt W.next 0 n = some l := by
  subst hn
  rw [(Var.new W el l).cellsAt 0 l.length (by omega)]; simp
theorem oneCells_tri (a : Tri) : oneCells (cells3 a) = true := rfl
structure TameOk (P pl m : Nat) (l : List Tri) : Prop where
  P2 : 2 ≤ P
  Ple : P ≤ pl
  len : l.length ≤ m
  arc : ∀ a ∈ l, 0 ≤ a.1 ∧ a.1 < P ∧ 0 ≤ a.2.1 ∧ a.2.1 < P ∧ a.1 ≠ a.2.1 ∧ 0 ≤ a.2.2 ∧ a.2.2 ≤ 1000000000
theorem u64_range (x : Int) : 0 ≤ IntKind.u64.wrap x ∧ IntKind.u64.wrap x < 18446744073709551616 := by
  rw [IntKind.wrap_u64]; omega
theorem u64_mod (x : Int) (n : Nat) (hn : 0 < n) : ∃ y : Nat, (IntKind.u64.wrap x).tmod n = y ∧ y < n := by
  have hr := u64_range x
  refine ⟨((IntKind.u64.wrap x).tmod n).toNat, by rw [Int.toNat_of_nonneg (Int.tmod_nonneg _ hr.1)], ?_⟩
  have := Int.tmod_lt_of_pos (IntKind.u64.wrap x) (show (0 : Int) < n by omega)
  have := Int.tmod_nonneg (n : Int) hr.1
  omega
theorem freshB_new (W : AW) (el : TypeId) (l : List Value) (h : listEq l l = true) : freshB (W.newCells el l) W.next el l = true := by
  simp only [freshB, newCells_get, if_pos, newCells_next, blt_dec, Nat.beq_refl, Nat.lt_succ_self, decide_true]
  rw [take_get (Tr.nil.lay 0 l) l.length 0 l rfl (fun j hj => by rw [Tr.get_lay, if_pos (by omega)]; simp)]
  exact h
theorem build78' (x y z : Int) : aBuild T0 78 [(0, .int .i64 x), (1, .int .i64 y), (2, .int .i64 z)] = some (.agg ⟨[.int .i64 x, .int .i64 y, .int .i64 z]⟩) := by kernel_rfl
theorem tame_wp (pl m : Nat) (hpl : 2 ≤ pl) (hpl2 : pl ≤ 24) (hm : m ≤ 1000) {W : AW} {v : Value} (N0 : Int) {l : List Tri} (h : TriIn W v l) (hlen : l.length < 9223372036854775808) :
    WpF T0 30 [.agg ⟨[.int .i64 N0, v]⟩, .int .i64 pl, .int .i64 m] W (fun u W' => Ext W W' ∧ ∃ (P : Nat) (l' : List Tri) (v' : Value), TameOk P pl m l' ∧ u = .agg ⟨[.int .i64 P, v']⟩ ∧ GrowsN W' v' l'.length (flat3 l') 78 3 (fun b => W.next ≤ b)) := by
  obtain ⟨A, c, rfl, hA⟩ := h
  refine wpF fun30 rfl ?_
  obtain ⟨W1, hW1, hE1, hn1, hV0, hV1⟩ : ∃ W1, W1 = (W.newCells 24 [.int .i64 N0, .slice A l.length c]).newCells 24 [.int .i64 0, .slice none 0 0] ∧ Ext W W1 ∧ W1.next = W.next + 2 ∧ Var W1 W.next 24 [.int .i64 N0, .slice A l.length c] ∧ Var W1 (W.next + 1) 24 [.int .i64 0, .slice none 0 0] :=
    ⟨_, rfl, (Only.newCells _ _ _).trans (Only.newCells _ _ _), rfl, (Var.new _ _ _).ext (.newCells _ _ _), Var.new _ _ _⟩
  obtain ⟨y0, hy0, hy0l⟩ := u64_mod (IntKind.i64.wrap (N0 - 2)) (pl - 1) (by omega)
  have hrem0 := aBinI_rem .u64 (IntKind.u64.wrap (IntKind.i64.wrap (N0 - 2))) ((pl - 1 : Nat) : Int) (by omega)
  rw [hy0] at hrem0
  have hw1 : IntKind.i64.wrap ((pl : Int) - 1) = ((pl - 1 : Nat) : Int) := by rw [IntWalk.i64_in _ (by omega)]; omega
  have hw2 : IntKind.u64.wrap ((pl - 1 : Nat) : Int) = ((pl - 1 : Nat) : Int) := IntWalk.u64_in _ (by omega)
  have hw3 : IntKind.i64.wrap (y0 : Int) = y0 := IntWalk.i64_in _ (by omega)
  have hw4 : IntKind.i64.wrap (2 + (y0 : Int)) = ((2 + y0 : Nat) : Int) := by rw [IntWalk.i64_in _ (by omega)]; omega
  generalize pl - 1 = pl1 at hrem0 hw1 hw2
  obtain ⟨P, hP⟩ : ∃ P, P = 2 + y0 := ⟨_, rfl⟩
  rw [← hP] at hw4
  have hP2 : 2 ≤ P := by omega
  have hPpl : P ≤ pl := by omega
  obtain ⟨W2, s1, s2, hE2, hV2⟩ := storeVar_new (T := T0) (W := W1) (t := 24) (v := .agg ⟨[.int .i64 P, .slice none 0 0]⟩) (z := [.int .i64 0, .slice none 0 0]) inf24 (by rw [is24]; rfl) (by rw [is24]; rfl) rfl
  have hl0 := hV0.load1 (T := T0) und3 rfl (j := 0) (v := .int .i64 N0) rfl
  try simp only [wpK_assoc]
  refine wpK_reg (fun R hR => by simp [zero24, newCells_next]; rw [← hW1]; exact hR) ?_
  try simp only [wpK_assoc]
  refine wpK_reg (fun R hR => by simp [hl0, conv_3_82, conv_82_3, hw1, hw2, hrem0, hw3, hw4, build24, zero24, s1]; exact hR) ?_
  try simp only [wpK_assoc]
  refine wpK_reg (fun R hR => by simp; exact hR) ?_
  have hV02 := hV0.ext hE2
  have hV12 := hV1.ext hE2
  rw [hn1] at hV2
  clear hl0 hrem0 hw1 hw2 hw3 hw4
  try simp only [wpK_assoc]
  refine wpK_while (I := fun k A' W' => A'.n = 82 ∧ A'.defers = [] ∧ A'.tmps.get 2 = some (.int .i64 m) ∧ A'.tmps.get 3 = some (.pointer (some ⟨W.next, 0, none⟩)) ∧ A'.tmps.get 6 = some (.pointer (some ⟨W.next + 1, 0, none⟩)) ∧ A'.tmps.get 7 = some (.pointer (some ⟨W.next + 2, 0, none⟩)) ∧
      Ext W W' ∧ Var W' W.next 24 [.int .i64 N0, .slice A l.length c] ∧ Var W' (W.next + 1) 24 [.int .i64 0, .slice none 0 0] ∧
      ∃ (i : Nat) (v : Value) (l' : List Tri), k = l.length - i ∧ i ≤ l.length ∧ i ≤ m ∧ A'.tmps.get 8 = some (.int .i64 i) ∧ Var W' (W.next + 2) 24 [.int .i64 P, v] ∧ GrowsN W' v l'.length (flat3 l') 78 3 (fun b => W.next + 3 ≤ b) ∧ l'.length = i ∧ TameOk P pl m l')
    (J := fun A' W' => A'.n = 82 ∧ A'.defers = [] ∧ A'.tmps.get 6 = some (.pointer (some ⟨W.next + 1, 0, none⟩)) ∧ A'.tmps.get 7 = some (.pointer (some ⟨W.next + 2, 0, none⟩)) ∧ Ext W W' ∧ Var W' (W.next + 1) 24 [.int .i64 0, .slice none 0 0] ∧
      ∃ (v : Value) (l' : List Tri), Var W' (W.next + 2) 24 [.int .i64 P, v] ∧ GrowsN W' v l'.length (flat3 l') 78 3 (fun b => W.next + 3 ≤ b) ∧ TameOk P pl m l')
    (Rt := fun _ _ => False) (k := l.length) ?_ ?_ ?_ ?_
  · exact ⟨rfl, rfl, by simp, by simp, by simp, by simp [hn1], hE1.trans hE2, hV02, hV12, 0, .slice none 0 0, [], by simp, by simp, by simp, by simp, hV2, .nil _ _ _ _, rfl, ⟨hP2, hPpl, by simp, by simp⟩⟩
  · rintro k ⟨tm, n, ds⟩ W3 ⟨hn, hd, h2, h3, h6, h7, hE3, hV0, hV1, i, v, l', hk, hi, him, h8, hV2, hG, hl'i, hT⟩ Q' hJ hRt hI
    simp only at hn hd h2 h3 h6 h7 h8
    subst hn; subst hd
    have hl1 := hV0.load1 (T := T0) und22 rfl (j := 1) (v := .slice A l.length c) rfl
    have hlP := hV2.load1 (T := T0) und3 rfl (j := 0) (v := .int .i64 P) rfl
    by_cases hlt : i < l.length
    · by_cases hltm : i < m
      · try simp only [wpK_assoc]
        refine wpK_reg (fun R hR => by simp [h2, h3, h8, hl1, len_slice und22, hlt]; exact hR) ?_
        refine wpK_onT (by simp [hltm]) ?_
        have ha : l[i]? = some l[i] := List.getElem?_eq_getElem hlt
        generalize l[i] = a at ha
        obtain ⟨b', o, rfl, q1, q2, q3⟩ := hA i a ha
        have hx := indexAddr_tri (T := T0) und22 sz78 (b := b') (o := o) (c := c) (k := .i64) hlt
        have hl3 := load3 (T := T0) und78 agg78 inf78 is78 (q1.ext hE3) (q2.ext hE3) (q3.ext hE3)
        -- a := n.Arcs[i]
        obtain ⟨Wa, sa1, sa2, hEa, hVa⟩ := storeVar_new (T := T0) (W := W3) (t := 78) (v := .agg ⟨[.int .i64 a.1, .int .i64 a.2.1, .int .i64 a.2.2]⟩) (z := [.int .i64 0, .int .i64 0, .int .i64 0]) inf78 (by rw [is78]; rfl) (by rw [is78]; rfl) rfl
        refine wpK_block ?_
        try simp only [wpK_assoc]
        refine wpK_reg (fun R hR => by simp [h3, h8, hl1, hx, hl3, zero78, sa1]; exact hR) ?_
        -- x := ..
        obtain ⟨x, hx1, hx2⟩ := u64_mod a.1 P (by omega)
        obtain ⟨y, hy1, hy2⟩ := u64_mod a.2.1 P (by omega)
        obtain ⟨z, hz1, hz2⟩ := u64_mod a.2.2 1000000001 (by omega)
        have r1 := aBinI_rem .u64 (IntKind.u64.wrap a.1) (P : Int) (by omega)
        have r2 := aBinI_rem .u64 (IntKind.u64.wrap a.2.1) (P : Int) (by omega)
        have r3 := aBinI_rem .u64 (IntKind.u64.wrap a.2.2) (1000000001 : Int) (by omega)
        rw [hx1] at r1
        rw [hy1] at r2
        rw [show ((1000000001 : Int)) = ((1000000001 : Nat) : Int) from rfl, hz1] at r3
        have wP : IntKind.u64.wrap (P : Int) = P := IntWalk.u64_in _ (by omega)
        have wx : IntKind.i64.wrap (x : Int) = x := IntWalk.i64_in _ (by omega)
        have wy : IntKind.i64.wrap (y : Int) = y := IntWalk.i64_in _ (by omega)
        have wz : IntKind.i64.wrap (z : Int) = z := IntWalk.i64_in _ (by omega)
        have r3 : aBinI .rem .u64 (IntKind.u64.wrap a.2.2) .u64 1000000001 = some (.int .u64 (z : Int)) := r3
        obtain ⟨Wb, sb1, sb2, hEb, hVb⟩ := storeVar_new (T := T0) (W := Wa) (t := 78) (v := .agg ⟨[.int .i64 x, .int .i64 y, .int .i64 z]⟩) (z := [.int .i64 0, .int .i64 0, .int .i64 0]) inf78 (by rw [is78]; rfl) (by rw [is78]; rfl) rfl
        have hEn : Ext Wa (Wa.newCells 78 [.int .i64 0, .int .i64 0, .int .i64 0]) := .newCells _ _ _
        have hVn := hVa.ext hEn
        have hV2a := hV2.ext hEa
        have hV2n := hV2a.ext hEn
        have la0 := hVa.load1 (T := T0) und3 rfl (j := 0) (v := .int .i64 a.1) rfl
        have la1 := hVa.load1 (T := T0) und3 rfl (j := 1) (v := .int .i64 a.2.1) rfl
        have la2 := hVa.load1 (T := T0) und2 rfl (j := 2) (v := .int .i64 a.2.2) rfl
        have ln0 := hVn.load1 (T := T0) und3 rfl (j := 0) (v := .int .i64 a.1) rfl
        have ln1 := hVn.load1 (T := T0) und3 rfl (j := 1) (v := .int .i64 a.2.1) rfl
        have ln2 := hVn.load1 (T := T0) und2 rfl (j := 2) (v := .int .i64 a.2.2) rfl
        have lP := hV2a.load1 (T := T0) und3 rfl (j := 0) (v := .int .i64 P) rfl
        have lPn := hV2n.load1 (T := T0) und3 rfl (j := 0) (v := .int .i64 P) rfl
        have hfr := freshB_new Wa 78 [.int .i64 0, .int .i64 0, .int .i64 0] rfl
        try simp only [wpK_assoc]
        refine wpK_dr (wr := Tr.nil |>.set 40 0 |>.set 41 1 |>.set 42 2 |>.set 43 3 |>.set 44 4 |>.set 45 5 |>.set 46 6 |>.set 47 7 |>.set 48 8 |>.set 49 9 |>.set 50 10 |>.set 51 11 |>.set 52 12 |>.set 53 13 |>.set 54 14 |>.set 55 15 |>.set 56 16 |>.set 57 17 |>.set 58 18 |>.set 59 19 |>.set 60 20 |>.set 61 21 |>.set 10 22) (bits := Tr.nil.lay 0 [0, 1, 3, 0, 8, 24, 63, 127, 0, 256, 768, 0, 2048, 6144, 16128, 32512, 0, 65536, 196608, 458752, 983040, 2097151, 0, 8388607]) (ord := [0, 1, 2, 3, 4, 5, 6, 7, 8, 9, 10, 11, 12, 13, 14, 15, 16, 17, 18, 19, 20, 21, 22, 23])
          (J := fun A' W' => W' = Wb ∧ A'.n = 82 ∧ A'.defers = [] ∧ A'.tmps.get 2 = some (.int .i64 m) ∧ A'.tmps.get 3 = some (.pointer (some ⟨W.next, 0, none⟩)) ∧ A'.tmps.get 6 = some (.pointer (some ⟨W.next + 1, 0, none⟩)) ∧ A'.tmps.get 7 = some (.pointer (some ⟨W.next + 2, 0, none⟩)) ∧ A'.tmps.get 8 = some (.int .i64 i) ∧ A'.tmps.get 10 = some (.pointer (some ⟨Wa.next, 0, none⟩)))
          (by kernel_rfl) (by kernel_rfl) (by kernel_rfl) (fun G hGG => ?_) ?_
        · simp [h7, la0, la1, la2, lP, ln0, ln1, ln2, lPn, conv_3_82, conv_82_3, conv_2_76, conv_76_2, wP, wx, wy, wz, r1, r2, r3, build78', aFlt, zero78, AFlt.val, sb1, sb2, hfr, newCells_next]
          apply hGG
          exact ⟨rfl, rfl, rfl, by simp [h2], by simp [h3], by simp [h6], by simp [h7], by simp [h8], by simp⟩
        rintro ⟨tm, n, ds⟩ Wb' ⟨rfl, hn, hd, h2, h3, h6, h7, h8, h10⟩
        simp only at hn hd h2 h3 h6 h7 h8 h10
        subst hn; subst hd
        have lb0 := hVb.load1 (T := T0) und3 rfl (j := 0) (v := .int .i64 x) rfl
        have lb1 := hVb.load1 (T := T0) und3 rfl (j := 1) (v := .int .i64 y) rfl
        have hV2b := hV2a.ext hEb
        have lPb := hV2b.load1 (T := T0) und3 rfl (j := 0) (v := .int .i64 P) rfl
        try simp only [wpK_assoc]
        refine wpK_reg (fun R hR => by simp [h10, lb0, lb1]; exact hR) ?_
        try simp only [wpK_assoc]
        refine wpK_cut (J := fun A' W' => Ext Wa W' ∧ A'.n = 82 ∧ A'.defers = [] ∧ A'.tmps.get 2 = some (.int .i64 m) ∧ A'.tmps.get 3 = some (.pointer (some ⟨W.next, 0, none⟩)) ∧ A'.tmps.get 6 = some (.pointer (some ⟨W.next + 1, 0, none⟩)) ∧ A'.tmps.get 7 = some (.pointer (some ⟨W.next + 2, 0, none⟩)) ∧ A'.tmps.get 8 = some (.int .i64 i) ∧ A'.tmps.get 10 = some (.pointer (some ⟨Wa.next, 0, none⟩)) ∧
          ∃ y' : Nat, y' < P ∧ x ≠ y' ∧ Var W' Wa.next 78 [.int .i64 x, .int .i64 y', .int .i64 z]) (fun Q2 hQ2 => ?_) ?_
        · by_cases hxy : x = y
          · subst hxy
            have r4 := aBinI_rem .i64 ((x : Int) + 1) (P : Int) (by omega)
            have wx1 : IntKind.i64.wrap ((x : Int) + 1) = (x : Int) + 1 := IntWalk.i64_in _ (by omega)
            obtain ⟨y', hy', hy'P, hy'x⟩ : ∃ y' : Nat, ((x : Int) + 1).tmod P = y' ∧ y' < P ∧ x ≠ y' := by
              refine ⟨(x + 1) % P, by rw [show ((x : Int) + 1) = ((x + 1 : Nat) : Int) from rfl, ← Int.ofNat_tmod], Nat.mod_lt _ (by omega), ?_⟩
              by_cases e : x + 1 = P
              · rw [e, Nat.mod_self]; omega
              · rw [Nat.mod_eq_of_lt (by omega)]; omega
            rw [hy'] at r4
            obtain ⟨Wc, sc1, sc2, sc3, sc4⟩ := hVb.store (T := T0) (t := 3) (v := .int .i64 y') (o := 1) inf3 (by rw [is3]; rfl) (by simp) rfl
            refine wpK_endT (by simp) ?_
            try simp only [wpK_assoc]
            refine wpK_reg1 (fun R hR => by simp [h7, h10, lb0, lPb, wx1, r4, sc1]; exact hR) ?_
            refine hQ2 _ _ ⟨⟨by have := hEb.1; omega, fun b hb hk => by rw [sc3.2 b (by have := hEb.1; omega) (by omega)]; exact hEb.2 b hb hk⟩, rfl, rfl, by simp [h2], by simp [h3], by simp [h6], by simp [h7], by simp [h8], by simp [h10], y', hy'P, hy'x, by simpa using sc4⟩
          · refine wpK_endF (by simp; omega) (wpK_skip ?_)
            refine hQ2 _ _ ⟨hEb, rfl, rfl, by simp [h2], by simp [h3], by simp [h6], by simp [h7], by simp [h8], by simp [h10], y, hy2, hxy, hVb⟩
        rintro ⟨tm, n, ds⟩ W5 ⟨hE5, hn, hd, h2, h3, h6, h7, h8, h10, y', hy'P, hy'x, hVx⟩
        simp only at hn hd h2 h3 h6 h7 h8 h10
        subst hn; subst hd
        have hEW5 : Ext W3 W5 := hEa.trans hE5
        have hV25 := hV2.ext hEW5
        have hG5 := hG.only (K' := fun _ => False) hEW5 (fun _ _ _ x => x)
        have lo1 := hV25.load1 (T := T0) und22 rfl (j := 1) (v := v) rfl
        have lx := hVx.load (T := T0) und78 agg78 inf78 is78
        have hn3 := hE3.1
        have hna := hEa.1
        have hn5 := hE5.1
        have hlt2 := hV2.1
        obtain ⟨v', W6, W7, a1, a2, a3, a4, a5, a6, a7⟩ := Var.push (T := T0) (t := 22) (el := 78) (i := Tryd.t78) (it := Tryd.t22) (sz := 3) (by omega) und22 inf78 is78 z78 rfl inf22 is22 hG5 hV25 (o := 1) (by omega) (by simp) (u := [.int .i64 x, .int .i64 y', .int .i64 z]) rfl rfl (by rw [by78]; omega) (by omega)
        have a1 : aAppend T0 (W5.newCells 78 [.int .i64 x, .int .i64 y', .int .i64 z]) [22, 22] [v, .slice (some ⟨W5.next, 0, none⟩) 1 2] = some (v', W6) := a1
        try simp only [wpK_assoc]
        refine wpK_reg (fun R hR => by simp [h7, lo1]; exact hR) ?_
        try simp only [wpK_assoc]
        refine wpK_reg1 (fun R hR => by simp [h7, h10, lx, bs22, a1, a2]; exact hR) ?_
        try simp only [wpK_assoc]
        refine wpK_reg1 (fun R hR => by simp [h8]; exact hR) ?_
        have hO : Ext W W7 := ⟨by omega, fun b hb hk => by rw [a7.2 b (by omega) (by omega), hEW5.2 b (by omega) (fun x => x)]; exact hE3.2 b hb hk⟩
        refine hI (k - 1) _ _ (by omega) ⟨rfl, rfl, by simp [h2], by simp [h3], by simp [h6], by simp [h7], hO, (hV0.ext hEW5).only a7 (by omega), (hV1.ext hEW5).only a7 (by omega), i + 1, v', l' ++ [((x : Int), (y' : Int), (z : Int))], by omega, by omega, by omega, by simp; exact i64_succ i (by omega), by simpa using a5, ?_, by simp [hl'i], ⟨hP2, hPpl, by simp; omega, fun a ha => ?_⟩⟩
        · rw [flat3_append, List.length_append]
          have : flat3 [((x : Int), (y' : Int), (z : Int))] = [.int .i64 x, .int .i64 y', .int .i64 z] := by simp [flat3, cells3]
          rw [this]
          exact a6.mono (fun b hb => by
            rcases hb with hb | hb
            · exact hb
            · omega)
        · rcases List.mem_append.1 ha with ha | ha
          · exact hT.arc a ha
          · rw [List.mem_singleton] at ha; subst ha
            simp only; omega
      · try simp only [wpK_assoc]
        refine wpK_reg (fun R hR => by simp [h2, h3, h8, hl1, len_slice und22, hlt]; exact hR) ?_
        refine wpK_out (by simp [hltm]) (hJ _ _ ⟨rfl, rfl, by simp [h6], by simp [h7], hE3, hV1, v, l', hV2, hG, hT⟩)
    · try simp only [wpK_assoc]
      refine wpK_reg (fun R hR => by simp [h2, h3, h8, hl1, len_slice und22, hlt]; exact hR) ?_
      refine wpK_out (by simp) (hJ _ _ ⟨rfl, rfl, by simp [h6], by simp [h7], hE3, hV1, v, l', hV2, hG, hT⟩)
  · rintro A' W' hf; exact hf.elim
  · rintro ⟨tm, n, ds⟩ W3 ⟨hn, hd, h6, h7, hE3, hV1, v, l', hV2, hG, hT⟩
    simp only at hn hd h6 h7
    subst hn; subst hd
    obtain ⟨av, cv, hvs⟩ := hG.len
    have hl := hV2.load (T := T0) und24 agg24 inf24 is24
    obtain ⟨W4, t1, t2, t3, t4⟩ := hV1.store (T := T0) (t := 24) (v := .agg ⟨[.int .i64 P, v]⟩) (o := 0) inf24 (by rw [is24]; rfl) (by simp) (by rw [hvs]; rfl)
    have hl4 := t4.load (T := T0) und24 agg24 inf24 (by rw [is24]; rfl)
    simp at hl4
    try simp only [wpK_assoc]
    refine wpK_reg (fun R hR => by simp [h6, h7, hl, t1]; exact hR) ?_
    refine wpK_ret ⟨.inr rfl, rfl, [.agg ⟨[.int .i64 P, v]⟩], by simp [h6, hl4], ?_, P, l', v, hT, rfl, ?_⟩
    · exact ⟨by have := hE3.1; omega, fun b hb hk => by rw [t3.2 b (by have := hE3.1; omega) (by omega)]; exact hE3.2 b hb hk⟩
    · exact (hG.only t3 (fun b _ hb e => by omega)).mono (fun b hb => by omega)
theorem RiseOk.snoc {n n' : Int} {L : List Int} {y : Int} (h : RiseOk n L) (hn : n ≤ n') (hy : ∀ x ∈ L, x < y) (h0 : 0 ≤ y) (hyn : y < n') : RiseOk n' (L ++ [y]) := by
  intro i x hx
  by_cases hi : i < L.length
  · rw [List.getElem?_append_left hi] at hx
    have := h i x hx
    refine ⟨by omega, ?_⟩
    have e : prevAt (L ++ [y]) i = prevAt L i := by
      unfold prevAt
      split
      · rfl
      · rw [List.getElem?_append_left (by omega)]
    rw [e]; exact this.2
  · have hi' : i = L.length := by
      have := (List.getElem?_eq_some_iff.1 hx).1
      simp at this; omega
    subst hi'
    rw [List.getElem?_append_right (by omega)] at hx
    simp at hx; subst hx
    refine ⟨hyn, ?_⟩
    unfold prevAt
    split
    · omega
    · rename_i h1
      rw [List.getElem?_append_left (by omega), List.getElem?_eq_getElem (show L.length - 1 < L.length by omega)]
      exact hy _ (List.getElem_mem _)
theorem one_bit (p i : Nat) : (1 <<< p).testBit i = decide (p = i) := by
  rw [Nat.shiftLeft_eq, Nat.one_mul]; exact Nat.testBit_two_pow
theorem TameOk.plan {P pl m : Nat} {l : List Tri} (h : TameOk P pl m l) (hpl : pl ≤ 24) (hm : m ≤ 200) : planOk (P : Int) (arcsQ l) = true := by
  have h1 := h.P2
  have h2 := h.Ple
  have h3 := h.len
  simp only [planOk, Bool.and_eq_true, decide_eq_true_eq, List.all_eq_true]
  refine ⟨⟨⟨by omega, by omega⟩, by simp [arcsQ]; omega⟩, fun a ha => ?_⟩
  simp only [arcsQ, List.mem_map] at ha
  obtain ⟨x, hx, rfl⟩ := ha
  have := h.arc x hx
  simp only [okStep, two?, Bool.and_eq_true, decide_eq_true_eq]
  omega
theorem load24 {W : AW} {p : Nat} {x y : Value} (h : Var W p 24 [x, y]) : aLoadVar T0 W 24 p 0 = some (.agg ⟨[x, y]⟩) := h.load (T := T0) und24 agg24 inf24 is24
theorem fun26 : T0.funcs.get 26 = some Tryd.f26 := by kernel_rfl
theorem tabs_name : ∀ t ∈ T0.tabs, t.name = 0 := fun t ht => by
  have e : T0.tabs.map (·.name) = [0] := by kernel_rfl
  have := List.mem_map_of_mem (f := (·.name)) ht
  rw [e] at this
  simpa using this
theorem und113 : T0.und.get 113 = some (.pointer 155) := by kernel_rfl
theorem und152 : T0.und.get 152 = some (.array 400 151) := by kernel_rfl
theorem und153 : T0.und.get 153 = some (.array 24 46) := by kernel_rfl
theorem und132 : T0.und.get 132 = some (.array 24 3) := by kernel_rfl
theorem und159 : T0.und.get 159 = some (.func #[3, 2] #[2] false) := by kernel_rfl
theorem und151 : T0.und.get 151 = some Tryd.t150.desc := by kernel_rfl
theorem agg151 : isAggD Tryd.t150.desc = true := by kernel_rfl
theorem inf151 : T0.info.get 151 = some Tryd.t151 := by kernel_rfl
theorem is151 : Tryd.t151.size = 2 := by kernel_rfl
theorem sz151 : aSize T0 151 = some 2 := by kernel_rfl
theorem zero151 : aZero T0 151 = some (.agg ⟨[.int .i64 0, .int .i64 0]⟩) := by kernel_rfl
theorem inf113 : T0.info.get 113 = some Tryd.t113 := by kernel_rfl
theorem is113 : Tryd.t113.size = 1 := by kernel_rfl
theorem zero113 : aZero T0 113 = some (.pointer none) := by kernel_rfl
theorem inf132 : T0.info.get 132 = some Tryd.t132 := by kernel_rfl
theorem is132 : Tryd.t132.size = 24 := by kernel_rfl
theorem agg132 : isAggD (.array 24 3) = true := rfl
theorem inf159 : T0.info.get 159 = some Tryd.t159 := by kernel_rfl
theorem is159 : Tryd.t159.size = 1 := by kernel_rfl
theorem zero159 : aZero T0 159 = some .nilFunc := by kernel_rfl
theorem field151 (b o f : Nat) (hf : f < 2) : aField T0 151 (.pointer (some ⟨b, o, none⟩)) f = some (.pointer (some ⟨b, o + f, none⟩)) := by
  match f, hf with
  | 0, _ => rfl
  | 1, _ => rfl
theorem field155_0 (b o : Nat) : aField T0 155 (.pointer (some ⟨b, o, none⟩)) 0 = some (.pointer (some ⟨b, o, none⟩)) := by kernel_rfl
theorem field155_1 (b o : Nat) : aField T0 155 (.pointer (some ⟨b, o, none⟩)) 1 = some (.pointer (some ⟨b, o + 800, none⟩)) := by kernel_rfl
theorem field155_2 (b o : Nat) : aField T0 155 (.pointer (some ⟨b, o, none⟩)) 2 = some (.pointer (some ⟨b, o + 824, none⟩)) := by kernel_rfl
theorem field155_3 (b o : Nat) : aField T0 155 (.pointer (some ⟨b, o, none⟩)) 3 = some (.pointer (some ⟨b, o + 825, none⟩)) := by kernel_rfl
theorem field155_4 (b o : Nat) : aField T0 155 (.pointer (some ⟨b, o, none⟩)) 4 = some (.pointer (some ⟨b, o + 826, none⟩)) := by kernel_rfl
theorem ix152 (p o h : Nat) (hh : h < 400) : aIndexAddr T0 152 (.pointer (some ⟨p, o, none⟩)) (.int .i64 (h : Nat)) = some (.pointer (some ⟨p, o + h * 2, none⟩)) := by
  show aIndexAddr T0 152 (.pointer (some ⟨p, o, none⟩)) (.int .i64 (Int.ofNat h)) = _
  simp only [aIndexAddr, und152, sz151, blt_dec, hh, decide_true]
theorem ix153 (p o q : Nat) (hq : q < 24) : aIndexAddr T0 153 (.pointer (some ⟨p, o, none⟩)) (.int .i64 (q : Nat)) = some (.pointer (some ⟨p, o + q, none⟩)) := by
  show aIndexAddr T0 153 (.pointer (some ⟨p, o, none⟩)) (.int .i64 (Int.ofNat q)) = _
  simp only [aIndexAddr, und153, sz46, blt_dec, hq, decide_true, Nat.mul_one]
theorem ix132 (p o q : Nat) (hq : q < 24) : aIndexAddr T0 132 (.pointer (some ⟨p, o, none⟩)) (.int .i64 (q : Nat)) = some (.pointer (some ⟨p, o + q, none⟩)) := by
  show aIndexAddr T0 132 (.pointer (some ⟨p, o, none⟩)) (.int .i64 (Int.ofNat q)) = _
  simp only [aIndexAddr, und132, sz3, blt_dec, hq, decide_true, Nat.mul_one]
structure Stp where
  a : Nat
  b : Nat
  c : Int
  d : Int
def stp (L : List Stp) (i : Nat) : Stp := (L[i]?).getD ⟨0, 0, 0, 0⟩
def hTo (L : List Stp) (h : Nat) : Nat := if h % 2 = 0 then (stp L (h / 2)).b else (stp L (h / 2)).a
def hFrom (L : List Stp) (h : Nat) : Nat := if h % 2 = 0 then (stp L (h / 2)).a else (stp L (h / 2)).b
def hCap (L : List Stp) (h : Nat) : Int := if h % 2 = 0 then (stp L (h / 2)).c else (stp L (h / 2)).d
def outs1 (x : Stp) (i q : Nat) : List Nat := (if x.a = q then [2 * i] else []) ++ (if x.b = q then [2 * i + 1] else [])
def outsL (L : List Stp) (q : Nat) : Nat → List Nat
  | 0 => []
  | i + 1 => outsL L q i ++ outs1 (stp L i) i q
structure StpsOk (L : List Stp) : Prop where
  len : L.length ≤ 200
  ok : ∀ i, i < L.length → (stp L i).a < 24 ∧ (stp L i).b < 24 ∧ 0 ≤ (stp L i).c ∧ (stp L i).c ≤ 1000000000 ∧ 0 ≤ (stp L i).d ∧ (stp L i).d ≤ 1000000000
theorem StpsOk.to {L : List Stp} (h : StpsOk L) {x : Nat} (hx : x < 2 * L.length) : hTo L x < 24 ∧ hFrom L x < 24 ∧ 0 ≤ hCap L x ∧ hCap L x ≤ 1000000000 := by
  have := h.ok (x / 2) (by omega)
  unfold hTo hFrom hCap
  split <;> omega
theorem outsL_mem (L : List Stp) (q : Nat) : ∀ (i h : Nat), h ∈ outsL L q i ↔ h < 2 * i ∧ hFrom L h = q
  | 0, h => by simp [outsL]
  | i + 1, h => by
    rw [outsL, List.mem_append, outsL_mem L q i h, outs1, List.mem_append]
    constructor
    · rintro (⟨h1, h2⟩ | h1 | h1)
      · exact ⟨by omega, h2⟩
      · split at h1
        · simp at h1; subst h1
          exact ⟨by omega, by unfold hFrom; rw [if_pos (by omega), show 2 * i / 2 = i from by omega]; assumption⟩
        · cases h1
      · split at h1
        · simp at h1; subst h1
          exact ⟨by omega, by unfold hFrom; rw [if_neg (by omega), show (2 * i + 1) / 2 = i from by omega]; assumption⟩
        · cases h1
    · rintro ⟨h1, h2⟩
      by_cases hlt : h < 2 * i
      · exact .inl ⟨hlt, h2⟩
      · right
        by_cases e : h = 2 * i
        · subst e
          left
          unfold hFrom at h2
          rw [if_pos (by omega), show 2 * i / 2 = i from by omega] at h2
          rw [if_pos h2]; simp
        · obtain rfl : h = 2 * i + 1 := by omega
          right
          unfold hFrom at h2
          rw [if_neg (by omega), show (2 * i + 1) / 2 = i from by omega] at h2
          rw [if_pos h2]; simp
theorem outsL_len (L : List Stp) (q : Nat) : ∀ i, (outsL L q i).length ≤ 2 * i
  | 0 => by simp [outsL]
  | i + 1 => by
    have := outsL_len L q i
    have h1 : (outs1 (stp L i) i q).length ≤ 2 := by unfold outs1; split <;> split <;> simp
    rw [outsL, List.length_append]; omega
def natsV (l : List Nat) : List Value := l.map fun h : Nat => Value.int .i64 (h : Int)
def OutL (W : AW) (p B : Nat) (v : Value) (l : List Nat) : Prop := ∃ A c, v = .slice A l.length c ∧ ∀ (i : Nat) x, l[i]? = some x → ∃ b o, A = some ⟨b, o, none⟩ ∧ b < B ∧ b ≠ p ∧ W.Has b (o + i) (.int .i64 (x : Nat))
structure Wk (W : AW) (p B : Nat) (L : List Stp) (s t : Nat) (rm : Nat → Int) (lv : Nat → Nat) : Prop where
  lt : p < B
  Ble : B ≤ W.next
  cells : ∃ c, W.blocks.get p = some ⟨.cells c 850 155, []⟩ ∧ (∀ h, h < 2 * L.length → c.get (2 * h) = some (.int .i64 (hTo L h : Nat)) ∧ c.get (2 * h + 1) = some (.int .i64 (rm h))) ∧
    (∀ q, q < 24 → ∃ v, c.get (800 + q) = some v ∧ OutL W p B v (outsL L q L.length)) ∧ c.get 824 = some (.int .i64 (s : Nat)) ∧ c.get 825 = some (.int .i64 (t : Nat)) ∧ ∀ q, q < 24 → c.get (826 + q) = some (.int .i64 (lv q : Nat))
theorem OutL.only {W W' : AW} {p B : Nat} {v : Value} {l : List Nat} {K : Nat → Prop} (h : OutL W p B v l) (he : Only K W W') (hk : ∀ b, b < B → b ≠ p → ¬ K b) : OutL W' p B v l := by
  obtain ⟨A, c, h1, h2⟩ := h
  refine ⟨A, c, h1, fun i a hi => ?_⟩
  obtain ⟨b, o, g1, g2, g3, g4⟩ := h2 i a hi
  exact ⟨b, o, g1, g2, g3, g4.only he (hk b g2 g3)⟩
theorem Wk.only {W W' : AW} {p B : Nat} {L : List Stp} {s t : Nat} {rm : Nat → Int} {lv : Nat → Nat} {K : Nat → Prop} (h : Wk W p B L s t rm lv) (he : Only K W W') (hk : ∀ b, b < B → ¬ K b) : Wk W' p B L s t rm lv := by
  obtain ⟨h1, h2, c, h3, h4, h5, h6⟩ := h
  refine ⟨h1, Nat.le_trans h2 he.1, c, by rw [he.2 p (by omega) (hk p h1)]; exact h3, h4, fun q hq => ?_, h6⟩
  obtain ⟨v, g1, g2⟩ := h5 q hq
  exact ⟨v, g1, g2.only he (fun b hb _ => hk b hb)⟩
theorem Wk.ext {W W' : AW} {p B : Nat} {L : List Stp} {s t : Nat} {rm : Nat → Int} {lv : Nat → Nat} (h : Wk W p B L s t rm lv) (he : Ext W W') : Wk W' p B L s t rm lv := h.only he (fun _ _ x => x)
theorem Wk.has {W : AW} {p B : Nat} {L : List Stp} {s t : Nat} {rm : Nat → Int} {lv : Nat → Nat} (h : Wk W p B L s t rm lv) :
    (∀ x, x < 2 * L.length → 2 * L.length ≤ 400 → W.Has p (2 * x) (.int .i64 (hTo L x : Nat)) ∧ W.Has p (2 * x + 1) (.int .i64 (rm x))) ∧ (∀ q, q < 24 → ∃ v, W.Has p (800 + q) v ∧ OutL W p B v (outsL L q L.length)) ∧
      W.Has p 824 (.int .i64 (s : Nat)) ∧ W.Has p 825 (.int .i64 (t : Nat)) ∧ ∀ q, q < 24 → W.Has p (826 + q) (.int .i64 (lv q : Nat)) := by
  obtain ⟨h1, h2, c, h3, h4, h5, h6, h7, h8⟩ := h
  have key : ∀ o v, o < 850 → c.get o = some v → W.Has p o v := fun o v ho hv => ⟨by omega, by simp only [AW.cell, h3, blt_dec, ho, decide_true]; exact hv⟩
  refine ⟨fun x hx hx2 => ⟨key _ _ (by omega) (h4 x hx).1, key _ _ (by omega) (h4 x hx).2⟩, fun q hq => ?_, key _ _ (by omega) h6, key _ _ (by omega) h7, fun q hq => key _ _ (by omega) (h8 q hq)⟩
  obtain ⟨v, g1, g2⟩ := h5 q hq
  exact ⟨v, key _ _ (by omega) g1, g2⟩
def upd {α : Type} (f : Nat → α) (k : Nat) (v : α) : Nat → α := fun x => if x = k then v else f x
theorem Wk.store {W : AW} {p B : Nat} {L : List Stp} {s t : Nat} {rm : Nat → Int} {lv : Nat → Nat} (h : Wk W p B L s t rm lv) {ty : TypeId} {i : TypeInfo} {o : Nat} {x : Int} (hi : T0.info.get ty = some i) (hs : i.size = 1) (ho : o < 850) {rm' : Nat → Int} {lv' : Nat → Nat}
    (hr : ∀ x', x' < 2 * L.length → (2 * x' ≠ o) ∧ (2 * x' + 1 = o → rm' x' = x) ∧ (2 * x' + 1 ≠ o → rm' x' = rm x')) (hq : ∀ q, q < 24 → (800 + q ≠ o) ∧ (826 + q = o → (lv' q : Int) = x) ∧ (826 + q ≠ o → lv' q = lv q)) (h4 : o ≠ 824) (h5 : o ≠ 825) :
    ∃ W', aStoreVar T0 W ty p o (.int .i64 x) = some W' ∧ W'.next = W.next ∧ Only (fun b => b = p) W W' ∧ Wk W' p B L s t rm' lv' := by
  obtain ⟨h1, h2, c, h3, g4, g5, g6, g7, g8⟩ := h
  obtain ⟨W', a1, a2, a3, a4⟩ := storeVar_own (T := T0) (t := ty) (v := .int .i64 x) (o := o) hi (by rw [hs]; rfl) h3 (by show o + 1 ≤ 850; omega) rfl
  have hO : Only (fun b => b = p) W W' := ⟨by omega, fun b _ hb => a3 b hb⟩
  refine ⟨W', a1, a2, hO, h1, by omega, c.set o (.int .i64 x), by rw [a4]; rfl, fun y hy => ?_, fun q hq' => ?_, ?_, ?_, fun q hq' => ?_⟩
  · obtain ⟨k1, k2, k3⟩ := hr y hy
    obtain ⟨m1, m2⟩ := g4 y hy
    refine ⟨by rw [Tr.get_set, if_neg k1]; exact m1, ?_⟩
    rw [Tr.get_set]
    by_cases e : 2 * y + 1 = o
    · rw [if_pos e, k2 e]
    · rw [if_neg e, k3 e]; exact m2
  · obtain ⟨v, m1, m2⟩ := g5 q hq'
    exact ⟨v, by rw [Tr.get_set, if_neg (hq q hq').1]; exact m1, m2.only hO (fun b _ hb e => hb e)⟩
  · rw [Tr.get_set, if_neg (fun e => h4 e.symm)]; exact g6
  · rw [Tr.get_set, if_neg (fun e => h5 e.symm)]; exact g7
  · obtain ⟨_, k2, k3⟩ := hq q hq'
    rw [Tr.get_set]
    by_cases e : 826 + q = o
    · rw [if_pos e, ← k2 e]
    · rw [if_neg e, k3 e]; exact g8 q hq'
theorem Wk.setRoom {W : AW} {p B : Nat} {L : List Stp} {s t : Nat} {rm : Nat → Int} {lv : Nat → Nat} (h : Wk W p B L s t rm lv) (h200 : L.length ≤ 200) {y : Nat} (hy : y < 2 * L.length) (x : Int) :
    ∃ W', aStoreVar T0 W 2 p (2 * y + 1) (.int .i64 x) = some W' ∧ W'.next = W.next ∧ Only (fun b => b = p) W W' ∧ Wk W' p B L s t (upd rm y x) lv :=
  h.store (ty := 2) inf2 is2 (by omega) (fun x' hx' => ⟨by omega, fun e => by unfold upd; rw [if_pos (by omega)], fun e => by unfold upd; rw [if_neg (by omega)]⟩) (fun q hq => ⟨by omega, fun e => by omega, fun _ => rfl⟩) (by omega) (by omega)
theorem Wk.setLevel {W : AW} {p B : Nat} {L : List Stp} {s t : Nat} {rm : Nat → Int} {lv : Nat → Nat} (h : Wk W p B L s t rm lv) (h200 : L.length ≤ 200) {q : Nat} (hq : q < 24) (x : Nat) :
    ∃ W', aStoreVar T0 W 3 p (826 + q) (.int .i64 (x : Nat)) = some W' ∧ W'.next = W.next ∧ Only (fun b => b = p) W W' ∧ Wk W' p B L s t rm (upd lv q x) :=
  h.store (ty := 3) inf3 is3 (by omega) (fun x' hx' => ⟨by omega, fun e => by omega, fun _ => rfl⟩) (fun q' hq' => ⟨by omega, fun e => by unfold upd; rw [if_pos (by omega)], fun e => by unfold upd; rw [if_neg (by omega)]⟩) (by omega) (by omega)
theorem rep_get (v : Value) : ∀ (n q : Nat), q < n → (rep [v] n)[q]? = some v
  | 0, _, h => by omega
  | n + 1, 0, _ => rfl
  | n + 1, q + 1, h => by
    show ([v] ++ rep [v] n)[q + 1]? = _
    rw [List.getElem?_append_right (by simp)]
    simpa using rep_get v n q (by omega)
theorem build132 : aBuild T0 132 [] = some (.agg ⟨rep [.int .i64 0] 24⟩) := by kernel_rfl
theorem Wk.clear {W : AW} {p B : Nat} {L : List Stp} {s t : Nat} {rm : Nat → Int} {lv : Nat → Nat} (h : Wk W p B L s t rm lv) (h200 : L.length ≤ 200) :
    ∃ W', aStoreVar T0 W 132 p 826 (.agg ⟨rep [.int .i64 0] 24⟩) = some W' ∧ W'.next = W.next ∧ Only (fun b => b = p) W W' ∧ Wk W' p B L s t rm (fun _ => 0) := by
  obtain ⟨h1, h2, c, h3, g4, g5, g6, g7, g8⟩ := h
  have hlen : (acells (.agg ⟨rep [.int .i64 0] 24⟩)).length = 24 := by decide
  obtain ⟨W', a1, a2, a3, a4⟩ := storeVar_own (T := T0) (t := 132) (v := .agg ⟨rep [.int .i64 0] 24⟩) (o := 826) inf132 (by rw [is132]; exact hlen) h3 (by rw [hlen]; omega) (by decide)
  have hO : Only (fun b => b = p) W W' := ⟨by omega, fun b _ hb => a3 b hb⟩
  have hget : ∀ j, (c.lay 826 (acells (.agg ⟨rep [.int .i64 0] 24⟩))).get j = if 826 ≤ j ∧ j < 826 + 24 then (rep [Value.int .i64 0] 24)[j - 826]? else c.get j := fun j => by
    rw [Tr.get_lay, hlen]; rfl
  refine ⟨W', a1, a2, hO, h1, by omega, _, a4, fun y hy => ?_, fun q hq' => ?_, ?_, ?_, fun q hq' => ?_⟩
  · rw [hget, hget, if_neg (by omega), if_neg (by omega)]; exact g4 y hy
  · obtain ⟨v, m1, m2⟩ := g5 q hq'
    exact ⟨v, by rw [hget, if_neg (by omega)]; exact m1, m2.only hO (fun b _ hb e => hb e)⟩
  · rw [hget, if_neg (by omega)]; exact g6
  · rw [hget, if_neg (by omega)]; exact g7
  · rw [hget, if_pos (by omega), show 826 + q - 826 = q from by omega]
    exact rep_get _ 24 q hq'
end Go.Proofs.YtkgfjfkgmpeobaaDoor
open Go Go.Eng
namespace Go.Proofs.YtkgfjfkgmpeobaaDoor
attribute [local congr] undef_congr WpK.congr WpS.congr WpL.congr WpC.congr WpF.congr gotS.congr callS.congr nextS.congr wantS.congr condS.congr
attribute [local irreducible] WpK
attribute [local simp] WpDr_nil WpDr_cons atS_some dwantS_true dwantS_false kindS_light kindS_float kindS_heavy lightS_value floatS_some heavyS_value heavyS_skip heavyS_enter dcallS_some doneS_eq
  isLight isFloat isPlain dLook testBit_dec dChain dLights_nil dLights_skip dLights_one dLight_nil dLight_cons dFreshes_nil dFreshes_one oneF_none oneF_some dFresh_nil dFresh_cons oneL_some oneW_true oneW_false sameV_value dPut dMay valEq arrEq listEq List.getElem?_cons Tr.get_nil dEnd
attribute [local simp] WpS_nil WpS_cons isDefer undef_false wantS_true wantS_false nextS_value nextS_skip nextS_enter callS_some gotS_some aWanted aOp aEvalF aEval opMove opAssign opPick aVal flat flat1 AAct.put opBinOp opConvert opIndex Tr.get_set Tr.get_lay aBin aResults tupled
  aCall aVals aCallB blt_dec ble_dec beq_dec aBinI_add aBinI_sub aBinI_lss aBinI_leq aBinI_gtr aBinI_geq aBinI_eql aBinI_neq index_str len_str len_slice Nat.beq_refl und2 und3 und4 und5 und39 und76 und82 und115 und22 und29 und25 und33 und46 und43 und49 und111 und113 field151 field155_0 field155_1 field155_2 field155_3 field155_4
  field78 field106 field24 field31 field27 field35 field108 field109 opBox opLoad opFieldAddr opIndexAddr acells aAddr opExtract aExtract opUnOp opAlloc opStore opMakeInterface opNilCheck opBuild aParts opBuildSlice aValW
set_option maxHeartbeats 4000000
set_option linter.unusedSimpArgs false
set_option linter.unusedVariables false
structure Lev (L : List Stp) (s : Nat) (rm : Nat → Int) (lv : Nat → Nat) : Prop where
  src : lv s = 1
  le : ∀ q, q < 24 → lv q ≤ 25
  pre : ∀ q, q < 24 → 0 < lv q → q = s ∨ ∃ h, h < 2 * L.length ∧ hTo L h = q ∧ rm h ≠ 0 ∧ 0 < lv (hFrom L h) ∧ lv (hFrom L h) + 1 = lv q
def Closed (L : List Stp) (rm : Nat → Int) (lv : Nat → Nat) : Prop := ∀ h, h < 2 * L.length → 0 < lv (hFrom L h) → rm h ≠ 0 → 0 < lv (hTo L h)
structure Line (L : List Stp) (s t : Nat) (rm : Nat → Int) (lv : Nat → Nat) (ln : List Nat) : Prop where
  lev : Lev L s rm lv
  mem : ∀ q, q < 24 → (0 < lv q ↔ q ∈ ln)
  nd : ln.Nodup
  lt : ∀ q ∈ ln, q < 24
  ix : ∀ (j : Nat) x, ln[j]? = some x → lv x ≤ j + 1
  snk : lv t = 0
theorem nodup_le {l : List Nat} (h : l.Nodup) (hl : ∀ q ∈ l, q < 24) : l.length ≤ 24 := by
  have := h.length_le_of_subset (l₂ := List.range 24) (fun q hq => List.mem_range.2 (hl q hq))
  simpa using this
theorem Line.len {L : List Stp} {s t : Nat} {rm : Nat → Int} {lv : Nat → Nat} {ln : List Nat} (h : Line L s t rm lv ln) : ln.length ≤ 24 := nodup_le h.nd h.lt
theorem Line.add {L : List Stp} {s t : Nat} {rm : Nat → Int} {lv : Nat → Nat} {ln : List Nat} (h : Line L s t rm lv ln) {i x y : Nat} (hi : ln[i]? = some x) (hy : y < 2 * L.length) (hf : hFrom L y = x) (hr : rm y ≠ 0) (h0 : lv (hTo L y) = 0) (hto : hTo L y < 24) (ht : t < 24) :
    Lev L s rm (upd lv (hTo L y) (lv x + 1)) ∧ (hTo L y ≠ t → Line L s t rm (upd lv (hTo L y) (lv x + 1)) (ln ++ [hTo L y])) := by
  have hxm : x ∈ ln := List.mem_of_getElem? hi
  have hxl := h.lt x hxm
  have hx0 := (h.mem x hxl).2 hxm
  have hilt := (List.getElem?_eq_some_iff.1 hi).1
  have hlen := h.len
  have hxi := h.ix i x hi
  have hLev : Lev L s rm (upd lv (hTo L y) (lv x + 1)) := by
    refine ⟨?_, fun q hq => ?_, fun q hq hpos => ?_⟩
    · unfold upd; rw [if_neg (fun e => by rw [← e, h.lev.src] at h0; omega)]; exact h.lev.src
    · unfold upd; split
      · omega
      · exact h.lev.le q hq
    · by_cases e : q = hTo L y
      · subst e
        right
        refine ⟨y, hy, rfl, hr, ?_, ?_⟩
        · rw [hf]; unfold upd; rw [if_neg (fun e => by rw [e] at hx0; omega)]; exact hx0
        · rw [hf]; unfold upd; rw [if_neg (fun e => by rw [e] at hx0; omega), if_pos rfl]
      · have hq0 : 0 < lv q := by unfold upd at hpos; rw [if_neg e] at hpos; exact hpos
        rcases h.lev.pre q hq hq0 with h1 | ⟨z, z1, z2, z3, z4, z5⟩
        · exact .inl h1
        · right
          have hz : hFrom L z ≠ hTo L y := fun e => by rw [e] at z4; omega
          refine ⟨z, z1, z2, z3, ?_, ?_⟩
          · unfold upd; rw [if_neg hz]; exact z4
          · unfold upd; rw [if_neg hz, if_neg e]; exact z5
  refine ⟨hLev, fun hne => ⟨hLev, fun q hq => ?_, ?_, fun q hq => ?_, fun j z hz => ?_, ?_⟩⟩
  · rw [List.mem_append, List.mem_singleton]
    unfold upd
    by_cases e : q = hTo L y
    · rw [if_pos e]; simp [e]
    · rw [if_neg e, h.mem q hq]; simp [e]
  · rw [List.nodup_append]
    refine ⟨h.nd, by simp, fun a ha b hb => ?_⟩
    rw [List.mem_singleton] at hb; subst hb
    intro e; subst e
    have := (h.mem _ hto).2 ha
    omega
  · rcases List.mem_append.1 hq with hq | hq
    · exact h.lt q hq
    · rw [List.mem_singleton] at hq; subst hq; exact hto
  · by_cases hj : j < ln.length
    · rw [List.getElem?_append_left hj] at hz
      have hzm : z ∈ ln := List.mem_of_getElem? hz
      have : z ≠ hTo L y := fun e => by subst e; have := (h.mem _ hto).2 hzm; omega
      unfold upd; rw [if_neg this]; exact h.ix j z hz
    · rw [List.getElem?_append_right (by omega)] at hz
      have hj' : j - ln.length = 0 := by
        have := (List.getElem?_eq_some_iff.1 hz).1
        simp at this; omega
      rw [hj'] at hz
      simp at hz; subst hz
      unfold upd; rw [if_pos rfl]; omega
  · unfold upd; rw [if_neg (fun e => hne e.symm)]; exact h.snk
theorem natsV_get {l : List Nat} {i x : Nat} (h : l[i]? = some x) : (natsV l)[i]? = some (.int .i64 (x : Nat)) := by
  rw [natsV, List.getElem?_map, h]; rfl
def Measured (L : List Stp) (s t : Nat) (rm : Nat → Int) (v : Value) (lv : Nat → Nat) : Prop := Lev L s rm lv ∧ ((v = .bool true ∧ 0 < lv t) ∨ (v = .bool false ∧ lv t = 0 ∧ Closed L rm lv))
theorem measure_wp {W : AW} {p B : Nat} {L : List Stp} {s t : Nat} {rm : Nat → Int} {lv0 : Nat → Nat} (h : Wk W p B L s t rm lv0) (hL : StpsOk L) (hs : s < 24) (ht : t < 24) (hst : s ≠ t) :
    WpF T0 77 [.pointer (some ⟨p, 0, none⟩)] W (fun v W' => ∃ lv, Only (fun b => b = p) W W' ∧ Wk W' p B L s t rm lv ∧ Measured L s t rm v lv) := by
  have h200 := hL.len
  obtain ⟨_, _, hs0, ht0, _⟩ := h.has
  obtain ⟨W1, c1, c2, c3, hW1⟩ := h.clear h200
  have hs1 := hW1.has.2.2.1
  obtain ⟨W2, d1, d2, d3, hW2⟩ := hW1.setLevel h200 hs 1
  have ls0 := load_of und3 rfl hs1
  have i1 := ix132 p 826 s hs
  have hpW := h.lt
  have hBW := h.Ble
  refine wpF fun77 rfl ?_
  try simp only [wpK_assoc]
  refine wpK_reg (fun R hR => by simp; exact hR) ?_
  refine wpK_scope ?_
  try simp only [wpK_assoc]
  refine wpK_reg (fun R hR => by simp [nilck, build132, c1]; exact hR) ?_
  try simp only [wpK_assoc]
  refine wpK_dr (wr := Tr.nil |>.set 12 0 |>.set 13 1 |>.set 14 2 |>.set 15 3 |>.set 16 4 |>.set 17 5 |>.set 18 6 |>.set 19 7) (bits := Tr.nil.lay 0 [0, 0, 2, 6, 14, 1, 33, 127, 255]) (ord := [0, 1, 2, 3, 4, 5, 6, 7, 8])
    (J := fun A' W' => W' = W2 ∧ A'.n = 105 ∧ A'.defers = [] ∧ A'.tmps.get 0 = some (.pointer (some ⟨p, 0, none⟩)))
    (by kernel_rfl) (by kernel_rfl) (by kernel_rfl) (fun G hGG => ?_) ?_
  · have d1 : aStoreVar T0 W1 3 p (826 + s) (.int .i64 1) = some W2 := d1
    simp [nilck, ls0, i1, d1, d2]
    apply hGG
    exact ⟨rfl, rfl, rfl, by simp⟩
  rintro ⟨tm, n, ds⟩ W2' ⟨rfl, hn, hd, h0⟩
  simp only at hn hd h0
  subst hn; subst hd
  have hs2 := hW2.has.2.2.1
  have ls2 := load_of und3 rfl hs2
  try simp only [wpK_assoc]
  refine wpK_reg (fun R hR => by simp [h0, nilck, ls2, bs46]; exact hR) ?_
  refine wpK_label ?_
  try simp only [wpK_assoc]
  refine wpK_reg (fun R hR => by simp; exact hR) ?_
  have hLine0 : Line L s t rm (upd (fun _ => 0) s 1) [s] := by
    refine ⟨⟨by simp [upd], fun q hq => by simp only [upd]; split <;> omega, fun q hq hpos => .inl ?_⟩, fun q hq => ?_, by simp, fun q hq => ?_, fun j x hx => ?_, ?_⟩
    · simp only [upd] at hpos; split at hpos
      · assumption
      · omega
    · simp only [upd, List.mem_singleton]
      by_cases e : q = s
      · simp [e]
      · simp [e]
    · simp at hq; subst hq; exact hs
    · have := (List.getElem?_eq_some_iff.1 hx).1
      simp at this; subst this
      simp at hx; subst hx; simp [upd]
    · unfold upd; rw [if_neg (fun e => hst e.symm)]
  have hO2 : Only (fun b => b = p) W W2' := c3.trans d3
  have hH0 : HeldN (W2'.newCells 3 [.int .i64 s]) (.slice (some ⟨W2'.next, 0, none⟩) 1 2) [s].length (natsV [s]) 3 1 (fun b => W.next ≤ b) := by
    refine .inl ⟨rfl, W2'.next, Tr.nil.lay 0 [.int .i64 s], [], rfl, by simp, ?_, Nat.lt_succ_self _, ?_, fun j hj => ?_, fun x hx => by cases hx⟩
    · show W.next ≤ W2'.next; omega
    · rw [newCells_get, if_pos rfl]; rfl
    · rw [Tr.get_lay, if_pos (by simp [natsV] at hj; simp; omega)]; simp [natsV]
  have hEn : Ext W2' (W2'.newCells 3 [.int .i64 s]) := .newCells _ _ _
  have hOn : Only (fun b => b = p) W (W2'.newCells 3 [.int .i64 s]) := hO2.trans (hEn.mono (fun _ _ x => x.elim))
  try simp only [wpK_assoc]
  refine wpK_while (I := fun k A' W' => A'.n = 105 ∧ A'.defers = [] ∧ A'.tmps.get 0 = some (.pointer (some ⟨p, 0, none⟩)) ∧ Only (fun b => b = p) W W' ∧
      ∃ (i : Nat) (ln : List Nat) (v : Value) (lv : Nat → Nat), k = 25 - i ∧ i ≤ ln.length ∧ A'.tmps.get 4 = some (.int .i64 i) ∧ A'.tmps.get 3 = some v ∧ HeldN W' v ln.length (natsV ln) 3 1 (fun b => W.next ≤ b) ∧ Wk W' p B L s t rm lv ∧ Line L s t rm lv ln ∧
        ∀ j x, j < i → ln[j]? = some x → ∀ y, y < 2 * L.length → hFrom L y = x → rm y ≠ 0 → 0 < lv (hTo L y))
    (J := fun A' W' => A'.n = 105 ∧ A'.defers = [] ∧ A'.tmps.get 0 = some (.pointer (some ⟨p, 0, none⟩)) ∧ Only (fun b => b = p) W W' ∧ ∃ lv, Wk W' p B L s t rm lv ∧ Lev L s rm lv ∧ (0 < lv t ∨ (lv t = 0 ∧ Closed L rm lv)))
    (Rt := fun _ _ => False) (k := 25) ?_ ?_ ?_ ?_
  · exact ⟨rfl, rfl, by simp [h0], hOn, 0, [s], _, _, rfl, by simp, by simp, by simp, hH0, hW2.ext hEn, hLine0, fun j x hj => by omega⟩
  · rintro k ⟨tm, n, ds⟩ W3 ⟨hn, hd, h0, hO3, i, ln, v, lv, hk, hi, h4, h3, hH, hWk, hLn, hcl⟩ Q' hJ hRt hI
    simp only at hn hd h0 h4 h3
    subst hn; subst hd
    have hpos : 0 < ln.length := List.length_pos_iff.2 (fun e => by
      have := (hLn.mem s hs).1 (by rw [hLn.lev.src]; omega)
      rw [e] at this; cases this)
    obtain ⟨bl, cl, rfl, hbl, hbl2, hhas⟩ := hH.has hpos
    try simp only [wpK_assoc]
    refine wpK_reg (fun R hR => by simp [h3, h4, len_slice und46]; exact hR) ?_
    by_cases hlt : i < ln.length
    · refine wpK_onT (by simp [hlt]) ?_
      have hx : ln[i]? = some ln[i] := List.getElem?_eq_getElem hlt
      generalize ln[i] = x at hx
      have hx24 := hLn.lt x (List.mem_of_getElem? hx)
      have hlen24 := hLn.len
      have lx := load_of und3 rfl (hhas i _ (natsV_get hx))
      have ixl := indexAddr_slice (T := T0) und46 sz3 (b := bl) (o := 0) (c := cl) (k := .i64) hlt
      simp only [Nat.mul_one, Nat.zero_add] at ixl
      obtain ⟨vo, hvo, hOut⟩ := hWk.has.2.1 x hx24
      have lvo := load_of und46 rfl hvo
      have ix2 := ix153 p 800 x hx24
      have hOut' := hOut
      obtain ⟨A0, c0, rfl, hel⟩ := hOut'
      have hol := outsL_len L x L.length
      refine wpK_block ?_
      try simp only [wpK_assoc]
      refine wpK_dr (wr := Tr.nil |>.set 31 0 |>.set 32 1 |>.set 33 2 |>.set 34 3 |>.set 35 4 |>.set 36 5 |>.set 37 6 |>.set 38 7 |>.set 39 8 |>.set 40 9 |>.set 41 10) (bits := Tr.nil.lay 0 [0, 0, 0, 6, 14, 1, 33, 127, 255, 511, 0]) (ord := [0, 1, 2, 3, 4, 5, 6, 7, 8, 9, 10])
        (J := fun A' W' => W' = W3 ∧ A'.n = 105 ∧ A'.defers = [] ∧ A'.tmps.get 0 = some (.pointer (some ⟨p, 0, none⟩)) ∧ A'.tmps.get 4 = some (.int .i64 i) ∧ A'.tmps.get 3 = some (.slice (some ⟨bl, 0, none⟩) ln.length cl) ∧ A'.tmps.get 39 = some (.slice A0 (outsL L x L.length).length c0) ∧ A'.tmps.get 40 = some (.int .i64 (outsL L x L.length).length) ∧ A'.tmps.get 41 = some (.int .i64 0))
        (by kernel_rfl) (by kernel_rfl) (by kernel_rfl) (fun G hGG => ?_) ?_
      · simp [h0, h3, h4, nilck, ixl, lx, ix2, lvo, len_slice und46]
        apply hGG
        exact ⟨rfl, rfl, rfl, by simp [h0], by simp [h4], by simp [h3], by simp, by simp, by simp⟩
      rintro ⟨tm, n, ds⟩ W3' ⟨rfl, hn, hd, h0, h4, h3, h39, h40, h41⟩
      simp only at hn hd h0 h4 h3 h39 h40 h41
      subst hn; subst hd
      clear lx ixl hhas hbl hbl2 lvo ix2 hvo
      refine wpK_whileX1 (id := 2) (jd := 0) (by decide) (I := fun k A' W' => A'.n = 105 ∧ A'.defers = [] ∧ A'.tmps.get 0 = some (.pointer (some ⟨p, 0, none⟩)) ∧ A'.tmps.get 4 = some (.int .i64 i) ∧ A'.tmps.get 39 = some (.slice A0 (outsL L x L.length).length c0) ∧ A'.tmps.get 40 = some (.int .i64 (outsL L x L.length).length) ∧ Only (fun b => b = p) W W' ∧ OutL W' p B (.slice A0 (outsL L x L.length).length c0) (outsL L x L.length) ∧
          ∃ (m : Nat) (ln : List Nat) (v : Value) (lv : Nat → Nat), k = (outsL L x L.length).length - m ∧ m ≤ (outsL L x L.length).length ∧ A'.tmps.get 41 = some (.int .i64 m) ∧ ln[i]? = some x ∧ A'.tmps.get 3 = some v ∧ HeldN W' v ln.length (natsV ln) 3 1 (fun b => W.next ≤ b) ∧ Wk W' p B L s t rm lv ∧ Line L s t rm lv ln ∧
            (∀ j x, j < i → ln[j]? = some x → ∀ y, y < 2 * L.length → hFrom L y = x → rm y ≠ 0 → 0 < lv (hTo L y)) ∧ ∀ j y, j < m → (outsL L x L.length)[j]? = some y → rm y ≠ 0 → 0 < lv (hTo L y))
        (J := fun A' W' => A'.n = 105 ∧ A'.defers = [] ∧ A'.tmps.get 0 = some (.pointer (some ⟨p, 0, none⟩)) ∧ A'.tmps.get 4 = some (.int .i64 i) ∧ Only (fun b => b = p) W W' ∧
          ∃ (ln : List Nat) (v : Value) (lv : Nat → Nat), ln[i]? = some x ∧ A'.tmps.get 3 = some v ∧ HeldN W' v ln.length (natsV ln) 3 1 (fun b => W.next ≤ b) ∧ Wk W' p B L s t rm lv ∧ Line L s t rm lv ln ∧
            (∀ j x, j < i + 1 → ln[j]? = some x → ∀ y, y < 2 * L.length → hFrom L y = x → rm y ≠ 0 → 0 < lv (hTo L y)))
        (X := fun A' W' => A'.n = 105 ∧ A'.defers = [] ∧ A'.tmps.get 0 = some (.pointer (some ⟨p, 0, none⟩)) ∧ Only (fun b => b = p) W W' ∧ ∃ lv, Wk W' p B L s t rm lv ∧ Lev L s rm lv ∧ 0 < lv t)
        (Rt := fun _ _ => False) (k := (outsL L x L.length).length) ?_ ?_ ?_ ?_ ?_
      · exact ⟨rfl, rfl, by simp [h0], by simp [h4], by simp [h39], by simp [h40], hO3, hOut, 0, ln, _, lv, by simp, by simp, by simp [h41], hx, by simp [h3], hH, hWk, hLn, hcl, fun j y hj => by omega⟩
      · clear h0 h4 h3 h39 h40 h41 hO3 hOut hel hH hWk hLn hcl hi hlt hx hpos hlen24 hI hJ hRt
        rintro k' ⟨tm, n, ds⟩ W4 ⟨hn, hd, h0, h4, h39, h40, hO4, hOut, m, ln, v, lv, hk', hm, h41, hx, h3, hH, hWk, hLn, hcl, hclm⟩ Q2 hJ2 hX2 hRt2 hI2
        simp only at hn hd h0 h4 h39 h40 h41 h3
        subst hn; subst hd
        try simp only [wpK_assoc]
        refine wpK_reg (fun R hR => by simp [h40, h41]; exact hR) ?_
        by_cases hmlt : m < (outsL L x L.length).length
        · refine wpK_onT (by simp [hmlt]) ?_
          have hy : (outsL L x L.length)[m]? = some (outsL L x L.length)[m] := List.getElem?_eq_getElem hmlt
          have hym := (outsL_mem L x L.length _).1 (List.getElem_mem hmlt)
          generalize (outsL L x L.length)[m] = y at hy hym
          obtain ⟨hy2, hyf⟩ := hym
          have hOut' := hOut
          obtain ⟨A0', c0', hA, hel⟩ := hOut'
          cases hA
          obtain ⟨bo, oo, rfl, hbo1, hbo2, hbo3⟩ := hel m y hy
          have ly := load_of und3 rfl hbo3
          have ixo := indexAddr_slice (T := T0) und46 sz3 (b := bo) (o := oo) (c := c0) (k := .i64) hmlt
          simp only [Nat.mul_one] at ixo
          obtain ⟨k1, k2, k3, k4, k5⟩ := hWk.has
          obtain ⟨r1, r2⟩ := k1 y hy2 (by omega)
          have lto := load_of und3 rfl r1
          have lrm := load_of und2 rfl r2
          have ixh := ix152 p 0 y (by omega)
          simp only [Nat.zero_add, Nat.mul_comm y 2] at ixh
          obtain ⟨hto24, _⟩ := hL.to hy2
          have llv := load_of und3 rfl (k5 (hTo L y) hto24)
          have ixv := ix132 p 826 (hTo L y) hto24
          refine wpK_block ?_
          try simp only [wpK_assoc]
          refine wpK_reg (fun R hR => by simp [h39, h41, ixo, ly]; exact hR) ?_
          try simp only [wpK_assoc]
          refine wpK_reg (fun R hR => by simp [h0, nilck, ixh, lto]; exact hR) ?_
          have done : ∀ tm' : Tr Value, tm'.get 0 = some (.pointer (some ⟨p, 0, none⟩)) → tm'.get 4 = some (.int .i64 i) → tm'.get 39 = some (.slice (some ⟨bo, oo, none⟩) (outsL L x L.length).length c0) → tm'.get 40 = some (.int .i64 (outsL L x L.length).length) → tm'.get 41 = some (.int .i64 ((m + 1 : Nat) : Int)) → tm'.get 3 = some v → (rm y ≠ 0 → 0 < lv (hTo L y)) → Q2 .normal ⟨tm', 105, []⟩ W4 := by
            intro tm' g0 g4 g39 g40 g41 g3 hg
            refine hI2 (k' - 1) _ _ (by omega) ⟨rfl, rfl, g0, g4, g39, g40, hO4, hOut, m + 1, ln, v, lv, by omega, by omega, g41, hx, g3, hH, hWk, hLn, hcl, fun j z hj hz hrz => ?_⟩
            by_cases e : j = m
            · subst e; rw [hy] at hz; cases hz; exact hg hrz
            · exact hclm j z (by omega) hz hrz
          have hws : IntKind.i64.wrap ((m : Int) + 1) = ((m + 1 : Nat) : Int) := i64_succ m (by omega)
          by_cases hr0 : rm y = 0
          · try simp only [wpK_assoc]
            refine wpK_reg (fun R hR => by simp [h0, nilck, ixh, lrm, hr0]; exact hR) ?_
            refine wpK_outT (by simp) ?_
            try simp only [wpK_assoc]
            refine wpK_reg1 (fun R hR => by simp [h41, hws]; exact hR) ?_
            exact done _ (by simp [h0]) (by simp [h4]) (by simp [h39]) (by simp [h40]) (by simp) (by simp [h3]) (fun e => absurd hr0 e)
          · by_cases hl0 : 0 < lv (hTo L y)
            · try simp only [wpK_assoc]
              refine wpK_reg (fun R hR => by simp [h0, nilck, ixh, lrm, hr0, ixv, llv, hl0]; exact hR) ?_
              refine wpK_outT (by simp) ?_
              try simp only [wpK_assoc]
              refine wpK_reg1 (fun R hR => by simp [h41, hws]; exact hR) ?_
              exact done _ (by simp [h0]) (by simp [h4]) (by simp [h39]) (by simp [h40]) (by simp) (by simp [h3]) (fun _ => hl0)
            · have hl0' : lv (hTo L y) = 0 := by omega
              obtain ⟨hLev', hLine'⟩ := hLn.add hx hy2 hyf hr0 hl0' hto24 ht
              have hx24 := hLn.lt x (List.mem_of_getElem? hx)
              have hlvx := hLn.lev.le x hx24
              have llx := load_of und3 rfl (k5 x hx24)
              have ixx := ix132 p 826 x hx24
              have hilt := (List.getElem?_eq_some_iff.1 hx).1
              obtain ⟨bl, cl, rfl, hbl, hbl2, hhas⟩ := hH.has (by omega)
              have lx := load_of und3 rfl (hhas i _ (natsV_get hx))
              have ixl := indexAddr_slice (T := T0) und46 sz3 (b := bl) (o := 0) (c := cl) (k := .i64) hilt
              simp only [Nat.mul_one, Nat.zero_add] at ixl
              obtain ⟨W5, e1, e2, e3, hW5⟩ := hWk.setLevel h200 hto24 (lv x + 1)
              have e1 : aStoreVar T0 W4 3 p (826 + hTo L y) (.int .i64 ((lv x : Int) + 1)) = some W5 := e1
              have hwl : IntKind.i64.wrap ((lv x : Int) + 1) = ((lv x + 1 : Nat) : Int) := i64_succ _ (by omega)
              try simp only [wpK_assoc]
              refine wpK_reg (fun R hR => by simp [h0, nilck, ixh, lrm, hr0, ixv, llv, hl0]; exact hR) ?_
              refine wpK_onF (by simp) ?_
              try simp only [wpK_assoc]
              refine wpK_dr (wr := Tr.nil |>.set 69 0 |>.set 70 1 |>.set 71 2 |>.set 72 3 |>.set 73 4 |>.set 74 5 |>.set 75 6 |>.set 76 7 |>.set 77 8 |>.set 78 9 |>.set 79 10 |>.set 80 11 |>.set 81 12 |>.set 82 13 |>.set 83 14) (bits := Tr.nil.lay 0 [0, 0, 0, 0, 0, 24, 56, 4, 132, 508, 1020, 2044, 1, 4097, 16383, 32767]) (ord := [0, 1, 2, 3, 4, 5, 6, 7, 8, 9, 10, 11, 12, 13, 14, 15])
                (J := fun A' W' => W' = W5 ∧ A'.n = 105 ∧ A'.defers = [] ∧ A'.tmps.get 0 = some (.pointer (some ⟨p, 0, none⟩)) ∧ A'.tmps.get 4 = some (.int .i64 i) ∧ A'.tmps.get 3 = some (.slice (some ⟨bl, 0, none⟩) ln.length cl) ∧ A'.tmps.get 39 = some (.slice (some ⟨bo, oo, none⟩) (outsL L x L.length).length c0) ∧ A'.tmps.get 40 = some (.int .i64 (outsL L x L.length).length) ∧ A'.tmps.get 41 = some (.int .i64 m) ∧ A'.tmps.get 7 = some (.int .i64 (hTo L y : Nat)))
                (by kernel_rfl) (by kernel_rfl) (by kernel_rfl) (fun G hGG => ?_) ?_
              · simp [h0, h3, h4, nilck, ixl, lx, ixx, llx, hwl, ixv, e1, e2]
                apply hGG
                exact ⟨rfl, rfl, rfl, by simp [h0], by simp [h4], by simp [h3], by simp [h39], by simp [h40], by simp [h41], by simp⟩
              rintro ⟨tm, n, ds⟩ W5' ⟨rfl, hn, hd, h0, h4, h3, h39, h40, h41, h7⟩
              simp only at hn hd h0 h4 h3 h39 h40 h41 h7
              subst hn; subst hd
              have lt5 := load_of und3 rfl hW5.has.2.2.2.1
              have hO5 : Only (fun b => b = p) W W5' := hO4.trans e3
              by_cases het : hTo L y = t
              · try simp only [wpK_assoc]
                refine wpK_reg (fun R hR => by simp [h0, h7, nilck, lt5, het]; exact hR) ?_
                refine wpK_outT (by simp) ?_
                refine hX2 _ _ ⟨rfl, rfl, by simp [h0], hO5, _, hW5, hLev', ?_⟩
                unfold upd; rw [if_pos het.symm]; omega
              · have hpW' : p < W.next := by omega
                have hH5 : HeldN W5' (.slice (some ⟨bl, 0, none⟩) ln.length cl) ln.length (natsV ln) 3 1 (fun b => W.next ≤ b) := hH.only e3 (fun b _ hb e => by subst e; omega)
                have hEn : Ext W5' (W5'.newCells 3 [.int .i64 (hTo L y : Nat)]) := .newCells _ _ _
                have hll := hLn.len
                obtain ⟨v', W6, a1, a2, a3, a4⟩ := append_heldN (T := T0) (t := 46) (i := Tryd.t3) (z := .int .i64 0) (sz := 1) (by omega) und46 inf3 is3 z3 rfl (hH5.only (K' := fun _ => False) hEn (fun _ _ _ x => x)) (u := [.int .i64 (hTo L y : Nat)]) (c := 2) rfl (newCells_cellsAt W5' 3 [.int .i64 (hTo L y : Nat)] 1 rfl) rfl (by rw [by3]; omega) (by omega)
                rw [newCells_next] at a2
                have hO56 : Only (fun b => W.next ≤ b) W5' W6 := (hEn.mono (fun _ _ x => x.elim)).trans a4
                have hO6 : Only (fun b => b = p) W W6 := ⟨by have := hO5.1; omega, fun b hb hk => by rw [hO56.2 b (by have := hO5.1; omega) (by omega)]; exact hO5.2 b hb hk⟩
                try simp only [wpK_assoc]
                refine wpK_reg (fun R hR => by simp [h0, h7, nilck, lt5, het]; exact hR) ?_
                refine wpK_onF (by simp; omega) ?_
                try simp only [wpK_assoc]
                refine wpK_reg1 (fun R hR => by simp [h3, h7, bs46, a1]; exact hR) ?_
                try simp only [wpK_assoc]
                refine wpK_reg1 (fun R hR => by simp [h41, hws]; exact hR) ?_
                have hWk6 : Wk W6 p B L s t rm (upd lv (hTo L y) (lv x + 1)) := hW5.only hO56 (fun b hb hk => by omega)
                have hOut6 : OutL W6 p B (.slice (some ⟨bo, oo, none⟩) (outsL L x L.length).length c0) (outsL L x L.length) := (hOut.only e3 (fun b _ hb e => hb e)).only hO56 (fun b hb _ hk => by omega)
                have hup : ∀ q, 0 < lv q → 0 < upd lv (hTo L y) (lv x + 1) q := fun q hq => by unfold upd; split <;> omega
                refine hI2 (k' - 1) _ _ (by omega) ⟨rfl, rfl, by simp [h0], by simp [h4], by simp [h39], by simp [h40], hO6, hOut6, m + 1, ln ++ [hTo L y], v', _, by omega, by omega, by simp, by rw [List.getElem?_append_left hilt]; exact hx, by simp, ?_, hWk6, hLine' het, fun j z hj hz w hw hwf hwr => ?_, fun j z hj hz hrz => ?_⟩
                · rw [List.length_append]
                  have e : natsV (ln ++ [hTo L y]) = natsV ln ++ [.int .i64 (hTo L y : Nat)] := by simp [natsV]
                  rw [e]
                  exact a3.mono (fun b hb => hb.elim (fun x => x) (fun e => by rw [newCells_next] at e; have := hO5.1; omega))
                · rw [List.getElem?_append_left (by omega)] at hz
                  exact hup _ (hcl j z hj hz w hw hwf hwr)
                · by_cases e : j = m
                  · subst e; rw [hy] at hz; cases hz
                    unfold upd; rw [if_pos rfl]; omega
                  · exact hup _ (hclm j z (by omega) hz hrz)
        · have e : m = (outsL L x L.length).length := by omega
          refine wpK_out (by simp [hmlt]) (hJ2 _ _ ⟨rfl, rfl, by simp [h0], by simp [h4], hO4, ln, v, lv, hx, by simp [h3], hH, hWk, hLn, fun j z hj hz w hw hwf hwr => ?_⟩)
          by_cases ej : j = i
          · subst ej; rw [hx] at hz; cases hz
            obtain ⟨j', hj', hw'⟩ := List.getElem_of_mem ((outsL_mem L x L.length w).2 ⟨hw, hwf⟩)
            exact hclm j' w (by omega) (by rw [List.getElem?_eq_getElem hj', hw']) hwr
          · exact hcl j z (by omega) hz w hw hwf hwr
      · rintro A' W' hf; exact hf.elim
      · rintro ⟨tm, n, ds⟩ W' ⟨hn, hd, h0, hO, lv', g1, g2, g3⟩
        exact hJ _ _ ⟨hn, hd, h0, hO, lv', g1, g2, .inl g3⟩
      · rintro ⟨tm, n, ds⟩ W' ⟨hn, hd, h0, h4, hO, ln', v', lv', g1, g2, g3, g4, g5, g6⟩
        simp only at hn hd h0 h4 g2
        subst hn; subst hd
        have hilt := (List.getElem?_eq_some_iff.1 g1).1
        have := g5.len
        try simp only [wpK_assoc]
        refine wpK_reg1 (fun R hR => by simp [h4]; exact hR) ?_
        exact hI (k - 1) _ _ (by omega) ⟨rfl, rfl, by simp [h0], hO, i + 1, ln', v', lv', by omega, by omega, by simp; exact i64_succ i (by omega), by simp [g2], g3, g4, g5, g6⟩
    · have e : i = ln.length := by omega
      refine wpK_out (by simp [hlt]) (hJ _ _ ⟨rfl, rfl, by simp [h0], hO3, lv, hWk, hLn.lev, .inr ⟨hLn.snk, fun y hy hpos' hr => ?_⟩⟩)
      have hm := (hLn.mem (hFrom L y) (hL.to hy).2.1).1 hpos'
      obtain ⟨j, hj, hjx⟩ := List.getElem_of_mem hm
      exact hcl j (hFrom L y) (by omega) (by rw [List.getElem?_eq_getElem hj, hjx]) y hy rfl hr
  · rintro A' W' hf; exact hf.elim
  · rintro ⟨tm, n, ds⟩ W3 ⟨hn, hd, h0, hO3, lv, hWk, hLev, hcase⟩
    simp only at hn hd h0
    subst hn; subst hd
    obtain ⟨k1, k2, k3, k4, k5⟩ := hWk.has
    have lt3 := load_of und3 rfl k4
    have llt := load_of und3 rfl (k5 t ht)
    have ixt := ix132 p 826 t ht
    try simp only [wpK_assoc]
    refine wpK_dr (wr := Tr.nil |>.set 95 0 |>.set 96 1 |>.set 97 2 |>.set 98 3 |>.set 99 4 |>.set 100 5 |>.set 101 6 |>.set 102 7 |>.set 103 8 |>.set 104 9 |>.set 2 10) (bits := Tr.nil.lay 0 [0, 0, 2, 6, 14, 1, 33, 127, 255, 511, 1023]) (ord := [0, 1, 2, 3, 4, 5, 6, 7, 8, 9, 10])
      (J := fun A' W' => W' = W3 ∧ A'.n = 105 ∧ A'.defers = [] ∧ A'.tmps.get 2 = some (.bool (decide (0 < lv t))))
      (by kernel_rfl) (by kernel_rfl) (by kernel_rfl) (fun G hGG => ?_) ?_
    · simp [h0, nilck, lt3, llt, ixt]
      apply hGG
      exact ⟨rfl, rfl, rfl, by simp⟩
    rintro ⟨tm, n, ds⟩ W3' ⟨rfl, hn, hd, h2⟩
    simp only at hn hd h2
    subst hn; subst hd
    refine wpK_ret ⟨.inr rfl, rfl, [.bool (decide (0 < lv t))], by simp [h2], lv, hO3, hWk, hLev, ?_⟩
    rcases hcase with hc | ⟨hc, hcl⟩
    · exact .inl ⟨by simp [hc], hc⟩
    · exact .inr ⟨by simp [hc], hc, hcl⟩
def flip (y : Nat) : Nat := if y % 2 = 0 then y + 1 else y - 1
theorem flip_xor (y : Nat) : y ^^^ 1 = flip y := by
  have h1 : (y ^^^ 1) % 2 = (y + 1) % 2 := by
    have h := Nat.xor_mod_two_pow (a := y) (b := 1) (n := 1)
    rw [show 2 ^ 1 = 2 from rfl] at h
    rw [h]
    rcases Nat.mod_two_eq_zero_or_one y with e | e
    · rw [e, show (y + 1) % 2 = 1 from by omega]; decide
    · rw [e, show (y + 1) % 2 = 0 from by omega]; decide
  have h2 : (y ^^^ 1) / 2 = y / 2 := by
    rw [Nat.xor_div_two, show 1 / 2 = 0 from rfl, Nat.xor_zero]
  unfold flip; split <;> omega
theorem flip_from (L : List Stp) (y : Nat) : hFrom L (flip y) = hTo L y ∧ hTo L (flip y) = hFrom L y := by
  unfold flip hFrom hTo
  split
  · rename_i h
    rw [if_neg (by omega), if_neg (by omega), show (y + 1) / 2 = y / 2 from by omega]
    exact ⟨rfl, rfl⟩
  · rename_i h
    rw [if_pos (by omega), if_pos (by omega), show (y - 1) / 2 = y / 2 from by omega]
    exact ⟨rfl, rfl⟩
theorem flip_lt {y m : Nat} (h : y < 2 * m) : flip y < 2 * m ∧ flip y ≠ y := by unfold flip; split <;> omega
def outN (L : List Stp) (rm : Nat → Int) (q : Nat) : Nat → Int
  | 0 => 0
  | i + 1 => outN L rm q i + ((if (stp L i).a = q then rm (2 * i) else 0) + (if (stp L i).b = q then rm (2 * i + 1) else 0))
theorem outN_congr {L : List Stp} {rm rm' : Nat → Int} {q : Nat} : ∀ {i : Nat}, (∀ y, y < 2 * i → rm' y = rm y) → outN L rm' q i = outN L rm q i
  | 0, _ => rfl
  | i + 1, h => by
    rw [outN, outN, outN_congr (fun y hy => h y (by omega)), h (2 * i) (by omega), h (2 * i + 1) (by omega)]
theorem outN_upd {L : List Stp} {rm : Nat → Int} {q y : Nat} {x : Int} : ∀ {i : Nat}, y < 2 * i → outN L (upd rm y x) q i = outN L rm q i + (if hFrom L y = q then x - rm y else 0)
  | 0, h => by omega
  | i + 1, h => by
    rw [outN, outN]
    by_cases hlt : y < 2 * i
    · rw [outN_upd hlt]
      have e1 : upd rm y x (2 * i) = rm (2 * i) := by unfold upd; rw [if_neg (by omega)]
      have e2 : upd rm y x (2 * i + 1) = rm (2 * i + 1) := by unfold upd; rw [if_neg (by omega)]
      rw [e1, e2]; omega
    · rw [outN_congr (rm := rm) (rm' := upd rm y x) (fun z hz => by unfold upd; rw [if_neg (by omega)])]
      by_cases e : y = 2 * i
      · subst e
        have e1 : upd rm (2 * i) x (2 * i) = x := by unfold upd; rw [if_pos rfl]
        have e2 : upd rm (2 * i) x (2 * i + 1) = rm (2 * i + 1) := by unfold upd; rw [if_neg (by omega)]
        have e3 : hFrom L (2 * i) = (stp L i).a := by unfold hFrom; rw [if_pos (by omega), show 2 * i / 2 = i from by omega]
        rw [e1, e2, e3]
        split <;> split <;> omega
      · obtain rfl : y = 2 * i + 1 := by omega
        have e1 : upd rm (2 * i + 1) x (2 * i) = rm (2 * i) := by unfold upd; rw [if_neg (by omega)]
        have e2 : upd rm (2 * i + 1) x (2 * i + 1) = x := by unfold upd; rw [if_pos rfl]
        have e3 : hFrom L (2 * i + 1) = (stp L i).b := by unfold hFrom; rw [if_neg (by omega), show (2 * i + 1) / 2 = i from by omega]
        rw [e1, e2, e3]
        split <;> split <;> omega
structure Rooms (L : List Stp) (rm : Nat → Int) : Prop where
  nn : ∀ y, y < 2 * L.length → 0 ≤ rm y
  sum : ∀ y, y < 2 * L.length → rm y + rm (flip y) = hCap L y + hCap L (flip y)
theorem flip_flip (y : Nat) : flip (flip y) = y := by unfold flip; split <;> split <;> omega
theorem Rooms.le {L : List Stp} {rm : Nat → Int} (h : Rooms L rm) (hL : StpsOk L) {y : Nat} (hy : y < 2 * L.length) : rm y ≤ 2000000000 := by
  have h1 := h.sum y hy
  have h2 := h.nn _ (flip_lt hy).1
  have h3 := (hL.to hy).2.2.2
  have h4 := (hL.to (flip_lt hy).1).2.2.2
  omega
def send (rm : Nat → Int) (y : Nat) (g : Int) : Nat → Int := upd (upd rm y (rm y - g)) (flip y) (rm (flip y) + g)
theorem send_at (rm : Nat → Int) (y : Nat) (g : Int) : send rm y g y = rm y - g ∧ send rm y g (flip y) = rm (flip y) + g ∧ ∀ z, z ≠ y → z ≠ flip y → send rm y g z = rm z := by
  have hne : flip y ≠ y := by unfold flip; split <;> omega
  refine ⟨by unfold send upd; rw [if_neg (fun e => hne e.symm), if_pos rfl], by unfold send upd; rw [if_pos rfl], fun z h1 h2 => by unfold send upd; rw [if_neg h2, if_neg h1]⟩
theorem rooms_send {L : List Stp} {rm : Nat → Int} (h : Rooms L rm) {y : Nat} (hy : y < 2 * L.length) {g : Int} (hg : 0 ≤ g) (hg2 : g ≤ rm y) : Rooms L (send rm y g) := by
  obtain ⟨s1, s2, s3⟩ := send_at rm y g
  have key : ∀ z, z < 2 * L.length → (z = y ∧ send rm y g z = rm y - g ∧ send rm y g (flip z) = rm (flip y) + g) ∨ (z = flip y ∧ send rm y g z = rm (flip y) + g ∧ send rm y g (flip z) = rm y - g) ∨ (z ≠ y ∧ z ≠ flip y ∧ send rm y g z = rm z ∧ send rm y g (flip z) = rm (flip z)) := by
    intro z hz
    by_cases e1 : z = y
    · subst e1; exact .inl ⟨rfl, s1, s2⟩
    · by_cases e2 : z = flip y
      · subst e2; exact .inr (.inl ⟨rfl, s2, by rw [flip_flip]; exact s1⟩)
      · refine .inr (.inr ⟨e1, e2, s3 z e1 e2, s3 _ (fun e => e2 (by rw [← e, flip_flip])) (fun e => e1 ?_)⟩)
        have := congrArg flip e
        rwa [flip_flip, flip_flip] at this
  refine ⟨fun z hz => ?_, fun z hz => ?_⟩
  · rcases key z hz with ⟨rfl, k1, _⟩ | ⟨rfl, k1, _⟩ | ⟨_, _, k1, _⟩
    · rw [k1]; omega
    · rw [k1]; have := h.nn _ hz; omega
    · rw [k1]; exact h.nn z hz
  · rcases key z hz with ⟨rfl, k1, k2⟩ | ⟨rfl, k1, k2⟩ | ⟨_, _, k1, k2⟩
    · rw [k1, k2]; have := h.sum z hz; omega
    · rw [k1, k2, flip_flip]; have := h.sum y hy; omega
    · rw [k1, k2]; exact h.sum z hz
theorem outN_send {L : List Stp} {rm : Nat → Int} {y : Nat} {g : Int} {q i : Nat} (hy : y < 2 * i) : outN L (send rm y g) q i = outN L rm q i - (if hFrom L y = q then g else 0) + (if hTo L y = q then g else 0) := by
  have hf := flip_lt hy
  unfold send
  rw [outN_upd hf.1, outN_upd hy, (flip_from L y).1]
  have : upd rm y (rm y - g) (flip y) = rm (flip y) := by unfold upd; rw [if_neg hf.2]
  rw [this]
  split <;> split <;> omega
def Dead (L : List Stp) (t : Nat) (rm : Nat → Int) (lv tr : Nat → Nat) : Prop := ∀ q, q < 24 → ∀ (j y : Nat), j < tr q → (outsL L q L.length)[j]? = some y → rm y = 0 ∨ lv (hTo L y) ≠ lv q + 1 ∨ (hTo L y ≠ t ∧ tr (hTo L y) = (outsL L (hTo L y) L.length).length)
theorem Dead.step {L : List Stp} {t : Nat} {rm : Nat → Int} {lv tr : Nat → Nat} (h : Dead L t rm lv tr) {x y : Nat} (hlt : tr x < (outsL L x L.length).length) (hy : (outsL L x L.length)[tr x]? = some y)
    (hu : rm y = 0 ∨ lv (hTo L y) ≠ lv x + 1 ∨ (hTo L y ≠ t ∧ tr (hTo L y) = (outsL L (hTo L y) L.length).length)) : Dead L t rm lv (upd tr x (tr x + 1)) := by
  have stay : ∀ z, tr z = (outsL L z L.length).length → upd tr x (tr x + 1) z = (outsL L z L.length).length := fun z hz => by
    unfold upd; split
    · rename_i e; subst e; omega
    · exact hz
  intro q hq j z hj hz
  have key : rm z = 0 ∨ lv (hTo L z) ≠ lv q + 1 ∨ (hTo L z ≠ t ∧ tr (hTo L z) = (outsL L (hTo L z) L.length).length) := by
    by_cases e : q = x
    · subst e
      unfold upd at hj; rw [if_pos rfl] at hj
      by_cases e2 : j = tr q
      · subst e2; rw [hy] at hz; cases hz; exact hu
      · exact h q hq j z (by omega) hz
    · unfold upd at hj; rw [if_neg e] at hj
      exact h q hq j z hj hz
  rcases key with k | k | ⟨k1, k2⟩
  · exact .inl k
  · exact .inr (.inl k)
  · exact .inr (.inr ⟨k1, stay _ k2⟩)
theorem dead_all {L : List Stp} {s t : Nat} {rm : Nat → Int} {lv tr : Nat → Nat} (hL : StpsOk L) (hLev : Lev L s rm lv) (hD : Dead L t rm lv tr) (hst : s ≠ t) (hs : tr s = (outsL L s L.length).length) : ∀ n q, q < 24 → 0 < lv q → lv q ≤ n → q ≠ t ∧ tr q = (outsL L q L.length).length := by
  intro n
  induction n with
  | zero => intro q hq h1 h2; omega
  | succ n ih =>
    intro q hq h1 h2
    rcases hLev.pre q hq h1 with rfl | ⟨y, y1, y2, y3, y4, y5⟩
    · exact ⟨hst, hs⟩
    · have hy24 := (hL.to y1).2.1
      obtain ⟨_, ht⟩ := ih (hFrom L y) hy24 y4 (by omega)
      obtain ⟨j, hj, hjy⟩ := List.getElem_of_mem ((outsL_mem L (hFrom L y) L.length y).2 ⟨y1, rfl⟩)
      have := hD (hFrom L y) hy24 j y (by omega) (by rw [List.getElem?_eq_getElem hj, hjy])
      rw [y2] at this
      rcases this with k | k | k
      · exact absurd k y3
      · omega
      · exact k
def TrV (W : AW) (bt : Nat) (tr : Nat → Nat) : Prop := bt < W.next ∧ ∃ c, W.blocks.get bt = some ⟨.cells c 24 132, []⟩ ∧ ∀ q, q < 24 → c.get q = some (.int .i64 (tr q : Nat))
theorem TrV.only {W W' : AW} {bt : Nat} {tr : Nat → Nat} {K : Nat → Prop} (h : TrV W bt tr) (ho : Only K W W') (hk : ¬ K bt) : TrV W' bt tr := by
  obtain ⟨h1, c, h2, h3⟩ := h
  exact ⟨Nat.lt_of_lt_of_le h1 ho.1, c, by rw [ho.2 bt h1 hk]; exact h2, h3⟩
theorem TrV.has {W : AW} {bt : Nat} {tr : Nat → Nat} (h : TrV W bt tr) {q : Nat} (hq : q < 24) : W.Has bt q (.int .i64 (tr q : Nat)) := by
  obtain ⟨h1, c, h2, h3⟩ := h
  exact ⟨h1, by simp only [AW.cell, h2, blt_dec, hq, decide_true]; exact h3 q hq⟩
theorem TrV.set {W : AW} {bt : Nat} {tr : Nat → Nat} (h : TrV W bt tr) {q : Nat} (hq : q < 24) (x : Nat) :
    ∃ W', aStoreVar T0 W 3 bt q (.int .i64 (x : Nat)) = some W' ∧ W'.next = W.next ∧ Only (fun b => b = bt) W W' ∧ TrV W' bt (upd tr q x) := by
  obtain ⟨h1, c, h2, h3⟩ := h
  obtain ⟨W', a1, a2, a3, a4⟩ := storeVar_own (T := T0) (t := 3) (v := .int .i64 (x : Nat)) (o := q) inf3 (by rw [is3]; rfl) h2 (by show q + 1 ≤ 24; omega) rfl
  refine ⟨W', a1, a2, ⟨by omega, fun b _ hb => a3 b hb⟩, by omega, c.set q (.int .i64 (x : Nat)), by rw [a4]; rfl, fun z hz => ?_⟩
  rw [Tr.get_set]; unfold upd
  by_cases e : z = q
  · rw [if_pos e, if_pos e]
  · rw [if_neg e, if_neg e]; exact h3 z hz
theorem load2 {W : AW} {t : TypeId} {d : TypeDesc} {i : TypeInfo} (hd : T0.und.get t = some d) (ha : isAggD d = true) (hi : T0.info.get t = some i) (hs : i.size = 2) {b o : Nat} {x y : Value} (h1 : W.Has b o x) (h2 : W.Has b (o + 1) y) :
    aLoadVar T0 W t b o = some (.agg ⟨[x, y]⟩) := by
  refine loadVar_agg hd ha hi ?_
  rw [hs]
  refine cellsAt_of_cells rfl (has_blk h1) (fun j hj => ?_) (by omega)
  match j, hj with
  | 0, _ => exact h1.2
  | 1, _ => exact h2.2
structure PCx (W : AW) (p B b1 bt b4 : Nat) : Prop where
  h1 : W.Has b1 0 (.pointer (some ⟨p, 0, none⟩))
  h4 : W.Has b4 0 (.func (.func 84) ⟨[]⟩ ⟨[.pointer (some ⟨b1, 0, none⟩), .pointer (some ⟨bt, 0, none⟩), .pointer (some ⟨b4, 0, none⟩)]⟩)
  pB : p < B
  B1 : B ≤ b1
  Bt : B ≤ bt
  B4 : B ≤ b4
  n1 : b1 ≠ bt
  n4 : b4 ≠ bt
theorem PCx.only {W W' : AW} {p B b1 bt b4 : Nat} {K : Nat → Prop} (h : PCx W p B b1 bt b4) (ho : Only K W W') (hk1 : ¬ K b1) (hk4 : ¬ K b4) : PCx W' p B b1 bt b4 :=
  ⟨h.h1.only ho hk1, h.h4.only ho hk4, h.pB, h.B1, h.Bt, h.B4, h.n1, h.n4⟩
structure Pushed (L : List Stp) (t : Nat) (lv : Nat → Nat) (x : Nat) (most : Int) (rm : Nat → Int) (tr : Nat → Nat) (got : Int) (rm' : Nat → Int) (tr' : Nat → Nat) : Prop where
  nn : 0 ≤ got
  le : got ≤ most
  rooms : Rooms L rm'
  trle : ∀ q, q < 24 → tr' q ≤ (outsL L q L.length).length
  trs : ∀ q, q < 24 → q ≠ x → lv q ≤ lv x → tr' q = tr q
  none : got = 0 → rm' = rm ∧ x ≠ t ∧ tr' x = (outsL L x L.length).length ∧ (Dead L t rm lv tr → Dead L t rm lv tr')
  some : 0 < got → ∀ q, outN L rm' q L.length = outN L rm q L.length - (if x = q then got else 0) + (if t = q then got else 0)
  keep : ∀ y, y < 2 * L.length → rm' y ≠ rm y → lv x ≤ lv (hFrom L y) ∧ lv x ≤ lv (hTo L y)
theorem push_wp {p B b1 bt b4 s t : Nat} {L : List Stp} {lv : Nat → Nat} (hL : StpsOk L) (ht : t < 24) (hlv : ∀ q, q < 24 → lv q ≤ 25) : ∀ (k x : Nat), 26 ≤ lv x + k → x < 24 → 0 < lv x → ∀ (most : Int), 0 < most → most ≤ 9223372036854775807 → ∀ (W : AW) (rm : Nat → Int) (tr : Nat → Nat),
    PCx W p B b1 bt b4 → Wk W p B L s t rm lv → TrV W bt tr → Rooms L rm → (∀ q, q < 24 → tr q ≤ (outsL L q L.length).length) →
    WpF T0 84 [.int .i64 (x : Nat), .int .i64 most, .pointer (some ⟨b1, 0, none⟩), .pointer (some ⟨bt, 0, none⟩), .pointer (some ⟨b4, 0, none⟩)] W (fun v W' => ∃ got rm' tr', v = .int .i64 got ∧ Only (fun b => b = p ∨ b = bt) W W' ∧ Wk W' p B L s t rm' lv ∧ TrV W' bt tr' ∧ Pushed L t lv x most rm tr got rm' tr') := by
  intro k
  induction k with
  | zero => intro x hk hx; have := hlv x hx; omega
  | succ k ih =>
    intro x hk hx hx0 most hm0 hmm W rm tr hC hWk hT hRm htr
    have h200 := hL.len
    have hlvx := hlv x hx
    have hpB := hC.pB
    have hB1 := hC.B1
    have hBt := hC.Bt
    have hB4 := hC.B4
    have l1 := load_of und113 rfl hC.h1
    have lt := load_of und3 rfl hWk.has.2.2.2.1
    refine wpF fun84 rfl ?_
    try simp only [wpK_assoc]
    refine wpK_reg (fun R hR => by simp; exact hR) ?_
    try simp only [wpK_assoc]
    refine wpK_reg (fun R hR => by simp [nilck, l1, lt]; exact hR) ?_
    by_cases hxt : x = t
    · refine wpK_condT (by simp [hxt]) ?_
      try simp only [wpK_assoc]
      refine wpK_reg (fun R hR => by simp; exact hR) ?_
      refine wpK_ret ⟨.inr rfl, rfl, [.int .i64 most], by simp, most, rm, tr, rfl, .refl _ _, hWk, hT, ⟨by omega, by omega, hRm, htr, fun _ _ _ _ => rfl, fun e => by omega, fun _ q => by rw [hxt]; omega, fun y _ hy => absurd rfl hy⟩⟩
    · refine wpK_onF (by simp; omega) ?_
      have hoff : ∀ {W' : AW}, Only (fun b => b = p ∨ b = bt) W W' → PCx W' p B b1 bt b4 := fun hO => hC.only hO (fun e => e.elim (fun e => by omega) (fun e => hC.n1 e)) (fun e => e.elim (fun e => by omega) (fun e => hC.n4 e))
      try simp only [wpK_assoc]
      refine wpK_while (I := fun k' A' W' => A'.n = 109 ∧ A'.defers = [] ∧ A'.tmps.get 0 = some (.int .i64 (x : Nat)) ∧ A'.tmps.get 1 = some (.int .i64 most) ∧ A'.tmps.get 2 = some (.pointer (some ⟨b1, 0, none⟩)) ∧ A'.tmps.get 3 = some (.pointer (some ⟨bt, 0, none⟩)) ∧ A'.tmps.get 4 = some (.pointer (some ⟨b4, 0, none⟩)) ∧
          Only (fun b => b = p ∨ b = bt) W W' ∧ Wk W' p B L s t rm lv ∧ ∃ tr', k' = (outsL L x L.length).length - tr' x ∧ TrV W' bt tr' ∧ (∀ q, q < 24 → tr' q ≤ (outsL L q L.length).length) ∧ (∀ q, q < 24 → q ≠ x → lv q ≤ lv x → tr' q = tr q) ∧ (Dead L t rm lv tr → Dead L t rm lv tr'))
        (J := fun A' W' => A'.n = 109 ∧ A'.defers = [] ∧ Only (fun b => b = p ∨ b = bt) W W' ∧ Wk W' p B L s t rm lv ∧ ∃ tr', tr' x = (outsL L x L.length).length ∧ TrV W' bt tr' ∧ (∀ q, q < 24 → tr' q ≤ (outsL L q L.length).length) ∧ (∀ q, q < 24 → q ≠ x → lv q ≤ lv x → tr' q = tr q) ∧ (Dead L t rm lv tr → Dead L t rm lv tr'))
        (Rt := fun A' W' => A'.defers = [] ∧ ∃ got rm' tr', A'.tmps.get 7 = some (.int .i64 got) ∧ Only (fun b => b = p ∨ b = bt) W W' ∧ Wk W' p B L s t rm' lv ∧ TrV W' bt tr' ∧ Pushed L t lv x most rm tr got rm' tr') (k := (outsL L x L.length).length - tr x) ?_ ?_ ?_ ?_
      · exact ⟨rfl, rfl, by simp, by simp, by simp, by simp, by simp, .refl _ _, hWk, tr, rfl, hT, htr, fun _ _ _ _ => rfl, fun h => h⟩
      · clear l1 lt hWk hT htr
        rintro k' ⟨tm, n, ds⟩ W1 ⟨hn, hd, h0, h1, h2, h3, h4, hO1, hWk, tr1, hk', hT, htr1, htrs, hD⟩ Q' hJ hRt hI
        simp only at hn hd h0 h1 h2 h3 h4
        subst hn; subst hd
        have hC1 := hoff hO1
        have l1 := load_of und113 rfl hC1.h1
        have ltr := load_of und3 rfl (hT.has hx)
        have ixt := ix132 bt 0 x hx
        simp only [Nat.zero_add] at ixt
        obtain ⟨k1, k2, k3, k4, k5⟩ := hWk.has
        obtain ⟨vo, hvo, hOut⟩ := k2 x hx
        have lvo := load_of und46 rfl hvo
        have ixo := ix153 p 800 x hx
        obtain ⟨A0, c0, rfl, hel⟩ := hOut
        try simp only [wpK_assoc]
        refine wpK_dr (wr := Tr.nil |>.set 18 0 |>.set 19 1 |>.set 20 2 |>.set 21 3 |>.set 22 4 |>.set 23 5 |>.set 24 6 |>.set 25 7 |>.set 26 8 |>.set 27 9 |>.set 28 10) (bits := Tr.nil.lay 0 [0, 1, 3, 0, 0, 8, 40, 120, 248, 504, 1023]) (ord := [0, 1, 2, 3, 4, 5, 6, 7, 8, 9, 10])
          (J := fun A' W' => W' = W1 ∧ A'.n = 109 ∧ A'.defers = [] ∧ A'.tmps.get 0 = some (.int .i64 (x : Nat)) ∧ A'.tmps.get 1 = some (.int .i64 most) ∧ A'.tmps.get 2 = some (.pointer (some ⟨b1, 0, none⟩)) ∧ A'.tmps.get 3 = some (.pointer (some ⟨bt, 0, none⟩)) ∧ A'.tmps.get 4 = some (.pointer (some ⟨b4, 0, none⟩)) ∧ A'.tmps.get 28 = some (.bool (decide ((tr1 x : Int) < (outsL L x L.length).length))))
          (by kernel_rfl) (by kernel_rfl) (by kernel_rfl) (fun G hGG => ?_) ?_
        · simp [h0, h2, h3, nilck, l1, ltr, ixt, lvo, ixo, len_slice und46]
          apply hGG
          exact ⟨rfl, rfl, rfl, by simp [h0], by simp [h1], by simp [h2], by simp [h3], by simp [h4], by simp⟩
        rintro ⟨tm, n, ds⟩ W1' ⟨rfl, hn, hd, h0, h1, h2, h3, h4, h28⟩
        simp only at hn hd h0 h1 h2 h3 h4 h28
        subst hn; subst hd
        by_cases hlt : tr1 x < (outsL L x L.length).length
        · refine wpK_onT (by simp [h28]; omega) ?_
          have hy : (outsL L x L.length)[tr1 x]? = some (outsL L x L.length)[tr1 x] := List.getElem?_eq_getElem hlt
          have hym := (outsL_mem L x L.length _).1 (List.getElem_mem hlt)
          generalize (outsL L x L.length)[tr1 x] = y at hy hym
          obtain ⟨hy2, hyf⟩ := hym
          obtain ⟨bo, oo, rfl, hbo1, hbo2, hbo3⟩ := hel (tr1 x) y hy
          have ly := load_of und3 rfl hbo3
          have ixy := indexAddr_slice (T := T0) und46 sz3 (b := bo) (o := oo) (c := c0) (k := .i64) hlt
          simp only [Nat.mul_one] at ixy
          obtain ⟨r1, r2⟩ := k1 y hy2 (by omega)
          have l2 := load2 und151 agg151 inf151 is151 r1 r2
          have ixh := ix152 p 0 y (by omega)
          simp only [Nat.zero_add, Nat.mul_comm y 2] at ixh
          obtain ⟨hto24, _⟩ := hL.to hy2
          refine wpK_block ?_
          try simp only [wpK_assoc]
          refine wpK_dr (wr := Tr.nil |>.set 34 0 |>.set 35 1 |>.set 36 2 |>.set 37 3 |>.set 38 4 |>.set 39 5 |>.set 40 6 |>.set 41 7 |>.set 42 8 |>.set 43 9 |>.set 44 10 |>.set 8 11) (bits := Tr.nil.lay 0 [0, 0, 1, 5, 15, 31, 0, 64, 192, 511, 1023, 2047]) (ord := [0, 1, 2, 3, 4, 5, 6, 7, 8, 9, 10, 11])
            (J := fun A' W' => W' = W1' ∧ A'.n = 109 ∧ A'.defers = [] ∧ A'.tmps.get 0 = some (.int .i64 (x : Nat)) ∧ A'.tmps.get 1 = some (.int .i64 most) ∧ A'.tmps.get 2 = some (.pointer (some ⟨b1, 0, none⟩)) ∧ A'.tmps.get 3 = some (.pointer (some ⟨bt, 0, none⟩)) ∧ A'.tmps.get 4 = some (.pointer (some ⟨b4, 0, none⟩)) ∧ A'.tmps.get 8 = some (.int .i64 (y : Nat)))
            (by kernel_rfl) (by kernel_rfl) (by kernel_rfl) (fun G hGG => ?_) ?_
          · simp [h0, h2, h3, nilck, l1, ltr, ixt, lvo, ixo, ixy, ly]
            apply hGG
            exact ⟨rfl, rfl, rfl, by simp [h0], by simp [h1], by simp [h2], by simp [h3], by simp [h4], by simp⟩
          rintro ⟨tm, n, ds⟩ W2 ⟨rfl, hn, hd, h0, h1, h2, h3, h4, h8⟩
          simp only at hn hd h0 h1 h2 h3 h4 h8
          subst hn; subst hd
          obtain ⟨Wa, s1, s2, hEa, hVa⟩ := storeVar_new (T := T0) (W := W2) (t := 151) (v := .agg ⟨[.int .i64 (hTo L y : Nat), .int .i64 (rm y)]⟩) (z := [.int .i64 0, .int .i64 0]) inf151 (by rw [is151]; rfl) (by rw [is151]; rfl) rfl
          try simp only [wpK_assoc]
          refine wpK_reg (fun R hR => by simp [h2, h8, nilck, l1, ixh, l2, zero151, s1]; exact hR) ?_
          have hOa : Only (fun b => b = p ∨ b = bt) W Wa := hO1.trans (hEa.mono (fun _ _ x => x.elim))
          have hCa := hoff hOa
          have hWka := hWk.ext hEa
          have hTa := hT.only hEa (fun x => x)
          have la1 := load_of und113 rfl hCa.h1
          obtain ⟨_, _, _, _, q5⟩ := hWka.has
          have hv0 := hVa.load1 (T := T0) und3 rfl (j := 0) (v := .int .i64 (hTo L y : Nat)) rfl
          have hv1 := hVa.load1 (T := T0) und2 rfl (j := 1) (v := .int .i64 (rm y)) rfl
          have ll1 := load_of und3 rfl (q5 (hTo L y) hto24)
          have ll2 := load_of und3 rfl (q5 x hx)
          have ixa := ix132 p 826 (hTo L y) hto24
          have ixb := ix132 p 826 x hx
          have hwl : IntKind.i64.wrap ((lv x : Int) + 1) = (lv x : Int) + 1 := IntWalk.i64_in _ (by omega)
          have hwt : IntKind.i64.wrap ((tr1 x : Int) + 1) = (tr1 x : Int) + 1 := by
            have := outsL_len L x L.length
            exact IntWalk.i64_in _ (by omega)
          -- the half leads no farther: on to the next one
          have nextOne : ∀ (tm' : Tr Value) (W3 : AW) (tr2 : Nat → Nat), tm'.get 0 = some (.int .i64 (x : Nat)) → tm'.get 1 = some (.int .i64 most) → tm'.get 2 = some (.pointer (some ⟨b1, 0, none⟩)) → tm'.get 3 = some (.pointer (some ⟨bt, 0, none⟩)) → tm'.get 4 = some (.pointer (some ⟨b4, 0, none⟩)) →
              Only (fun b => b = p ∨ b = bt) W W3 → Wk W3 p B L s t rm lv → TrV W3 bt tr2 → (∀ q, q < 24 → tr2 q ≤ (outsL L q L.length).length) → (∀ q, q < 24 → q ≠ x → lv q ≤ lv x → tr2 q = tr q) → tr2 x = tr1 x → (Dead L t rm lv tr → Dead L t rm lv tr2) →
              (rm y = 0 ∨ lv (hTo L y) ≠ lv x + 1 ∨ (hTo L y ≠ t ∧ tr2 (hTo L y) = (outsL L (hTo L y) L.length).length)) →
              ∃ W4, aLoadVar T0 W3 3 bt x = some (.int .i64 (tr1 x : Nat)) ∧ aStoreVar T0 W3 3 bt x (.int .i64 ((tr1 x : Int) + 1)) = some W4 ∧ ∀ tm'' : Tr Value, tm''.get 0 = some (.int .i64 (x : Nat)) → tm''.get 1 = some (.int .i64 most) → tm''.get 2 = some (.pointer (some ⟨b1, 0, none⟩)) → tm''.get 3 = some (.pointer (some ⟨bt, 0, none⟩)) → tm''.get 4 = some (.pointer (some ⟨b4, 0, none⟩)) → Q' .normal ⟨tm'', 109, []⟩ W4 := by
            intro tm' W3 tr2 g0 g1 g2 g3 g4 hO3 hWk3 hT3 htr3 htrs3 hx3 hD3 hu
            obtain ⟨W4, a1, a2, a3, a4⟩ := hT3.set hx (tr1 x + 1)
            refine ⟨W4, by rw [← hx3]; exact load_of und3 rfl (hT3.has hx), a1, fun tm'' f0 f1 f2 f3 f4 => ?_⟩
            have hO4 : Only (fun b => b = p ∨ b = bt) W W4 := hO3.trans (a3.mono (fun b _ hb => .inr hb))
            refine hI _ _ _ ?_ ⟨rfl, rfl, f0, f1, f2, f3, f4, hO4, hWk3.only a3 (fun b hb e => by omega), upd tr2 x (tr1 x + 1), rfl, a4, fun q hq => ?_, fun q hq hne hle => ?_, fun hd => ?_⟩
            · have : upd tr2 x (tr1 x + 1) x = tr1 x + 1 := by unfold upd; rw [if_pos rfl]
              rw [this]; omega
            · unfold upd; split
              · rename_i e; subst e; omega
              · exact htr3 q hq
            · unfold upd; rw [if_neg hne]; exact htrs3 q hq hne hle
            · rw [← hx3]
              exact (hD3 hd).step (by rw [hx3]; exact hlt) (by rw [hx3]; exact hy) hu
          by_cases hr0 : rm y = 0
          · obtain ⟨W4, n1, n2, n3⟩ := nextOne tm Wa tr1 h0 h1 h2 h3 h4 hOa hWka hTa htr1 htrs rfl hD (.inl hr0)
            try simp only [wpK_assoc]
            refine wpK_dr (wr := Tr.nil |>.set 51 0 |>.set 52 1 |>.set 53 2 |>.set 54 3 |>.set 55 4 |>.set 56 5 |>.set 57 6 |>.set 58 7 |>.set 59 8 |>.set 60 9 |>.set 61 10 |>.set 62 11 |>.set 63 12 |>.set 64 13 |>.set 65 14 |>.set 66 15 |>.set 67 16 |>.set 68 17 |>.set 69 18 |>.set 70 19) (bits := Tr.nil.lay 0 [0, 1, 3, 7, 15, 15, 47, 31, 159, 511, 1023, 15, 15, 2063, 10255, 30735, 63503, 129039, 262143, 524287]) (ord := [0, 1, 2, 3, 4, 5, 6, 7, 8, 9, 10, 11, 12, 13, 14, 15, 16, 17, 18, 19])
              (J := fun A' W' => W' = Wa ∧ A'.n = 109 ∧ A'.defers = [] ∧ A'.tmps.get 0 = some (.int .i64 (x : Nat)) ∧ A'.tmps.get 1 = some (.int .i64 most) ∧ A'.tmps.get 2 = some (.pointer (some ⟨b1, 0, none⟩)) ∧ A'.tmps.get 3 = some (.pointer (some ⟨bt, 0, none⟩)) ∧ A'.tmps.get 4 = some (.pointer (some ⟨b4, 0, none⟩)) ∧ A'.tmps.get 70 = some (.bool true))
              (by kernel_rfl) (by kernel_rfl) (by kernel_rfl) (fun G hGG => ?_) ?_
            · simp [h0, h2, hv1, hr0]
              apply hGG
              exact ⟨rfl, rfl, rfl, by simp [h0], by simp [h1], by simp [h2], by simp [h3], by simp [h4], by simp⟩
            rintro ⟨tm, n, ds⟩ Wa' ⟨rfl, hn, hd, h0, h1, h2, h3, h4, h70⟩
            simp only at hn hd h0 h1 h2 h3 h4 h70
            subst hn; subst hd
            refine wpK_outT (by simp [h70]) ?_
            try simp only [wpK_assoc]
            refine wpK_reg1 (fun R hR => by simp [h0, h3, ixt, n1, hwt, n2]; exact hR) ?_
            exact n3 _ (by simp [h0]) (by simp [h1]) (by simp [h2]) (by simp [h3]) (by simp [h4])
          · have hdec : (decide (¬ ((lv (hTo L y) : Int) = (lv x : Int) + 1))) = decide (lv (hTo L y) ≠ lv x + 1) := by
              by_cases e : lv (hTo L y) = lv x + 1
              · rw [decide_eq_false (by omega), decide_eq_false (by omega)]
              · rw [decide_eq_true (by omega), decide_eq_true (by omega)]
            try simp only [wpK_assoc]
            refine wpK_dr (wr := Tr.nil |>.set 51 0 |>.set 52 1 |>.set 53 2 |>.set 54 3 |>.set 55 4 |>.set 56 5 |>.set 57 6 |>.set 58 7 |>.set 59 8 |>.set 60 9 |>.set 61 10 |>.set 62 11 |>.set 63 12 |>.set 64 13 |>.set 65 14 |>.set 66 15 |>.set 67 16 |>.set 68 17 |>.set 69 18 |>.set 70 19) (bits := Tr.nil.lay 0 [0, 1, 3, 7, 15, 15, 47, 31, 159, 511, 1023, 15, 15, 2063, 10255, 30735, 63503, 129039, 262143, 524287]) (ord := [0, 1, 2, 3, 4, 5, 6, 7, 8, 9, 10, 11, 12, 13, 14, 15, 16, 17, 18, 19])
              (J := fun A' W' => W' = Wa ∧ A'.n = 109 ∧ A'.defers = [] ∧ A'.tmps.get 0 = some (.int .i64 (x : Nat)) ∧ A'.tmps.get 1 = some (.int .i64 most) ∧ A'.tmps.get 2 = some (.pointer (some ⟨b1, 0, none⟩)) ∧ A'.tmps.get 3 = some (.pointer (some ⟨bt, 0, none⟩)) ∧ A'.tmps.get 4 = some (.pointer (some ⟨b4, 0, none⟩)) ∧ A'.tmps.get 8 = some (.int .i64 (y : Nat)) ∧ A'.tmps.get 9 = some (.pointer (some ⟨W2.next, 0, none⟩)) ∧ A'.tmps.get 70 = some (.bool (decide (lv (hTo L y) ≠ lv x + 1))))
              (by kernel_rfl) (by kernel_rfl) (by kernel_rfl) (fun G hGG => ?_) ?_
            · simp [h0, h2, hv0, hv1, hr0, nilck, la1, ixa, ixb, ll1, ll2, hwl, -decide_not]
              apply hGG
              refine ⟨rfl, rfl, rfl, by simp [h0], by simp [h1], by simp [h2], by simp [h3], by simp [h4], by simp [h8], by simp, ?_⟩
              simp [-decide_not]
              omega
            rintro ⟨tm, n, ds⟩ Wa' ⟨rfl, hn, hd, h0, h1, h2, h3, h4, h8, h9, h70⟩
            simp only at hn hd h0 h1 h2 h3 h4 h8 h9 h70
            subst hn; subst hd
            by_cases hlev : lv (hTo L y) = lv x + 1
            · refine wpK_onF (by simp [h70, hlev]) ?_
              have hcall := ih (hTo L y) (by omega) hto24 (by omega) (min most (rm y)) (by have := hRm.nn y hy2; omega) (by omega) Wa' rm tr1 hCa hWka hTa hRm htr1
              have l4 := load_of und159 rfl hCa.h4
              try simp only [wpK_assoc]
              refine wpK_regc (J := fun A' W' => A'.n = 109 ∧ A'.defers = [] ∧ A'.tmps.get 0 = some (.int .i64 (x : Nat)) ∧ A'.tmps.get 1 = some (.int .i64 most) ∧ A'.tmps.get 2 = some (.pointer (some ⟨b1, 0, none⟩)) ∧ A'.tmps.get 3 = some (.pointer (some ⟨bt, 0, none⟩)) ∧ A'.tmps.get 4 = some (.pointer (some ⟨b4, 0, none⟩)) ∧ A'.tmps.get 8 = some (.int .i64 (y : Nat)) ∧
                ∃ got rm' tr', A'.tmps.get 10 = some (.int .i64 got) ∧ Only (fun b => b = p ∨ b = bt) Wa' W' ∧ Wk W' p B L s t rm' lv ∧ TrV W' bt tr' ∧ Pushed L t lv (hTo L y) (min most (rm y)) rm tr1 got rm' tr') (fun R hR => ?_) ?_
              · simp [h1, h4, h9, l4, hv0, hv1, mm_min, aEnter, fun84, short_other, aCallV]
                rw [callS_none]
                refine hcall.mono ?_
                rintro _ W' ⟨got, rm', tr', rfl, g1, g2, g3, g4⟩
                simp
                apply hR
                exact ⟨rfl, rfl, by simp [h0], by simp [h1], by simp [h2], by simp [h3], by simp [h4], by simp [h8], got, rm', tr', by simp, g1, g2, g3, g4⟩
              rintro ⟨tm, n, ds⟩ W5 ⟨hn, hd, h0, h1, h2, h3, h4, h8, got, rm', tr', h10, hO5, hWk5, hT5, hPu⟩
              simp only at hn hd h0 h1 h2 h3 h4 h8 h10
              subst hn; subst hd
              have hOw : Only (fun b => b = p ∨ b = bt) W W5 := hOa.trans hO5
              have hC5 := hoff hOw
              try simp only [wpK_assoc]
              refine wpK_reg (fun R hR => by simp [h10]; exact hR) ?_
              by_cases hg : 0 < got
              · -- it went through
                refine wpK_endT (by simp [hg]) ?_
                have l51 := load_of und113 rfl hC5.h1
                obtain ⟨m1, _⟩ := hWk5.has
                obtain ⟨_, m2⟩ := m1 y hy2 (by omega)
                have lr := load_of und2 rfl m2
                have hkp : rm' y = rm y := by
                  by_cases e : rm' y = rm y
                  · exact e
                  · have := (hPu.keep y hy2 e).1
                    rw [hyf] at this; omega
                have hle1 := hPu.le
                have hR5 := hPu.rooms
                have hb1 := hR5.nn y hy2
                have hb2 := hR5.le hL hy2
                have hfl := flip_lt hy2
                have hb3 := hR5.nn _ hfl.1
                have hb4 := hR5.le hL hfl.1
                have hws : IntKind.i64.wrap (rm' y - got) = rm' y - got := IntWalk.i64_in _ (by omega)
                obtain ⟨W6, a1, a2, a3, hWk6⟩ := hWk5.setRoom h200 hy2 (rm' y - got)
                have hC6 := hC5.only a3 (show ¬ b1 = p by omega) (show ¬ b4 = p by omega)
                have l61 := load_of und113 rfl hC6.h1
                obtain ⟨m3, _⟩ := hWk6.has
                obtain ⟨_, m4⟩ := m3 (flip y) hfl.1 (by omega)
                have e6 : upd rm' y (rm' y - got) (flip y) = rm' (flip y) := by unfold upd; rw [if_neg hfl.2]
                rw [e6] at m4
                have lr2 := load_of und2 rfl m4
                have hwa : IntKind.i64.wrap (rm' (flip y) + got) = rm' (flip y) + got := IntWalk.i64_in _ (by omega)
                obtain ⟨W7, b1', b2', b3', hWk7⟩ := hWk6.setRoom h200 hfl.1 (rm' (flip y) + got)
                have hxor : aBinI .xor .i64 (y : Int) .i64 1 = some (.int .i64 (flip y : Nat)) := by
                  have := aBinI_xor .i64 y 1 (by show y < 9223372036854775808; omega) (by decide)
                  rw [flip_xor] at this; exact this
                have ixf := ix152 p 0 (flip y) (by omega)
                simp only [Nat.zero_add, Nat.mul_comm (flip y) 2] at ixf
                try simp only [wpK_assoc]
                refine wpK_dr (wr := Tr.nil |>.set 81 0 |>.set 82 1 |>.set 83 2 |>.set 84 3 |>.set 85 4 |>.set 86 5 |>.set 87 6 |>.set 88 7 |>.set 89 8 |>.set 90 9 |>.set 91 10 |>.set 92 11 |>.set 93 12) (bits := Tr.nil.lay 0 [0, 0, 1, 5, 15, 31, 63, 0, 255, 1, 513, 2047, 4095, 8191]) (ord := [0, 1, 2, 3, 4, 5, 6, 7, 8, 9, 10, 11, 12, 13])
                  (J := fun A' W' => W' = W6 ∧ A'.n = 109 ∧ A'.defers = [] ∧ A'.tmps.get 2 = some (.pointer (some ⟨b1, 0, none⟩)) ∧ A'.tmps.get 8 = some (.int .i64 (y : Nat)) ∧ A'.tmps.get 10 = some (.int .i64 got))
                  (by kernel_rfl) (by kernel_rfl) (by kernel_rfl) (fun G hGG => ?_) ?_
                · simp [h2, h8, h10, nilck, l51, ixh, lr, hws, a1, a2]
                  apply hGG
                  exact ⟨rfl, rfl, rfl, by simp [h2], by simp [h8], by simp [h10]⟩
                rintro ⟨tm, n, ds⟩ W6' ⟨rfl, hn, hd, h2, h8, h10⟩
                simp only at hn hd h2 h8 h10
                subst hn; subst hd
                try simp only [wpK_assoc]
                refine wpK_dr (wr := Tr.nil |>.set 94 0 |>.set 95 1 |>.set 96 2 |>.set 97 3 |>.set 98 4 |>.set 99 5 |>.set 100 6 |>.set 101 7 |>.set 102 8 |>.set 103 9 |>.set 104 10 |>.set 105 11 |>.set 106 12 |>.set 107 13) (bits := Tr.nil.lay 0 [0, 0, 2, 1, 9, 31, 63, 127, 0, 511, 1, 1025, 4095, 8191, 16383]) (ord := [0, 1, 2, 3, 4, 5, 6, 7, 8, 9, 10, 11, 12, 13, 14])
                  (J := fun A' W' => W' = W7 ∧ A'.n = 109 ∧ A'.defers = [] ∧ A'.tmps.get 10 = some (.int .i64 got))
                  (by kernel_rfl) (by kernel_rfl) (by kernel_rfl) (fun G hGG => ?_) ?_
                · simp [h2, h8, h10, nilck, l61, hxor, ixf, lr2, hwa, b1', b2']
                  apply hGG
                  exact ⟨rfl, rfl, rfl, by simp [h10]⟩
                rintro ⟨tm, n, ds⟩ W7' ⟨rfl, hn, hd, h10⟩
                simp only at hn hd h10
                subst hn; subst hd
                try simp only [wpK_assoc]
                refine wpK_reg (fun R hR => by simp [h10]; exact hR) ?_
                have hsnd : upd (upd rm' y (rm' y - got)) (flip y) (rm' (flip y) + got) = send rm' y got := rfl
                rw [hsnd] at hWk7
                obtain ⟨sd1, sd2, sd3⟩ := send_at rm' y got
                refine wpK_ret (hRt _ _ ⟨rfl, got, send rm' y got, tr', by simp, (hOw.trans (a3.mono (fun b _ hb => .inl hb))).trans (b3'.mono (fun b _ hb => .inl hb)), hWk7, (hT5.only a3 (show ¬ bt = p by omega)).only b3' (show ¬ bt = p by omega), ⟨by omega, by omega, rooms_send hR5 hy2 (by omega) (by omega), hPu.trle, fun q hq hne hle => ?_, fun e => by omega, fun _ q => ?_, fun z hz hzr => ?_⟩⟩)
                · rw [hPu.trs q hq (fun e => by subst e; omega) (by omega)]
                  exact htrs q hq hne hle
                · rw [outN_send hy2, hPu.some hg q, hyf]
                  omega
                · by_cases e1 : z = y
                  · subst e1; rw [hyf]; exact ⟨Nat.le_refl _, by omega⟩
                  · by_cases e2 : z = flip y
                    · subst e2
                      obtain ⟨f1, f2⟩ := flip_from L y
                      rw [f1, f2, hyf]; exact ⟨by omega, Nat.le_refl _⟩
                    · rw [sd3 z e1 e2] at hzr
                      have := hPu.keep z hz hzr
                      omega
              · have hg0 : got = 0 := by have := hPu.nn; omega
                obtain ⟨rfl, f1, f2, f3⟩ := hPu.none hg0
                have hxne : x ≠ hTo L y := fun e => by rw [← e] at hlev; omega
                have htx : tr' x = tr1 x := hPu.trs x hx hxne (by omega)
                obtain ⟨W4, n1, n2, n3⟩ := nextOne tm W5 tr' h0 h1 h2 h3 h4 hOw hWk5 hT5 hPu.trle (fun q hq hne hle => by
                  rw [hPu.trs q hq (fun e => by subst e; omega) (by omega)]; exact htrs q hq hne hle) htx (fun hd => f3 (hD hd)) (.inr (.inr ⟨f1, f2⟩))
                refine wpK_endF (by simp [hg]) (wpK_skip ?_)
                try simp only [wpK_assoc]
                refine wpK_reg1 (fun R hR => by simp [h0, h3, ixt, n1, hwt, n2]; exact hR) ?_
                exact n3 _ (by simp [h0]) (by simp [h1]) (by simp [h2]) (by simp [h3]) (by simp [h4])
            · obtain ⟨W4, n1, n2, n3⟩ := nextOne tm Wa' tr1 h0 h1 h2 h3 h4 hOa hWka hTa htr1 htrs rfl hD (.inr (.inl hlev))
              refine wpK_outT (by simp [h70, hlev]) ?_
              try simp only [wpK_assoc]
              refine wpK_reg1 (fun R hR => by simp [h0, h3, ixt, n1, hwt, n2]; exact hR) ?_
              exact n3 _ (by simp [h0]) (by simp [h1]) (by simp [h2]) (by simp [h3]) (by simp [h4])
        · have hlen := htr1 x hx
          refine wpK_out (by simp [h28]; omega) (hJ _ _ ⟨rfl, rfl, hO1, hWk, tr1, by omega, hT, htr1, htrs, hD⟩)
      · rintro A' W' ⟨hd, got, rm', tr', g1, g2, g3, g4, g5⟩
        exact ⟨.inr rfl, hd, [.int .i64 got], by simp [g1], got, rm', tr', rfl, g2, g3, g4, g5⟩
      · rintro ⟨tm, n, ds⟩ W' ⟨hn, hd, hO, hWk', tr', g1, g2, g3, g4, g5⟩
        simp only at hn hd
        subst hn; subst hd
        try simp only [wpK_assoc]
        refine wpK_reg (fun R hR => by simp; exact hR) ?_
        refine wpK_ret ⟨.inr rfl, rfl, [.int .i64 0], by simp, 0, rm, tr', rfl, hO, hWk', g2, ⟨by omega, by omega, hRm, g3, g4, fun _ => ⟨rfl, hxt, g1, g5⟩, fun e => by omega, fun y _ hy => absurd rfl hy⟩⟩
theorem zero132 : aZero T0 132 = some (.agg ⟨rep [.int .i64 0] 24⟩) := by kernel_rfl
theorem outN_nn {L : List Stp} {rm : Nat → Int} (q : Nat) : ∀ (i : Nat), (∀ y, y < 2 * i → 0 ≤ rm y ∧ rm y ≤ 2000000000) → 0 ≤ outN L rm q i ∧ outN L rm q i ≤ i * 4000000000
  | 0, _ => by simp [outN]
  | i + 1, h => by
    have h1 := outN_nn (L := L) q i (fun y hy => h y (by omega))
    have h2 := h (2 * i) (by omega)
    have h3 := h (2 * i + 1) (by omega)
    rw [outN]
    split <;> split <;> omega
theorem Rooms.outN {L : List Stp} {rm : Nat → Int} (h : Rooms L rm) (hL : StpsOk L) (q : Nat) : 0 ≤ outN L rm q L.length ∧ outN L rm q L.length ≤ 800000000000 := by
  have h1 := outN_nn (L := L) q L.length (fun y hy => ⟨h.nn y hy, h.le hL hy⟩)
  have := hL.len
  omega
def Gone (L : List Stp) (s t : Nat) (rm rm' : Nat → Int) (x : Int) : Prop := ∀ q, outN L rm' q L.length = outN L rm q L.length - (if s = q then x else 0) + (if t = q then x else 0)
theorem Gone.trans {L : List Stp} {s t : Nat} {rm rm1 rm2 : Nat → Int} {x y : Int} (h : Gone L s t rm rm1 x) (h' : Gone L s t rm1 rm2 y) : Gone L s t rm rm2 (x + y) := fun q => by
  rw [h' q, h q]
  split <;> split <;> omega
theorem Gone.le {L : List Stp} {s t : Nat} {rm rm' : Nat → Int} {x : Int} (h : Gone L s t rm rm' x) (hst : s ≠ t) : outN L rm' s L.length = outN L rm s L.length - x := by
  rw [h s, if_pos rfl, if_neg (fun e => hst e.symm)]; omega
theorem widen_wp {W : AW} {p B : Nat} {L : List Stp} {s t : Nat} {rm : Nat → Int} {lv : Nat → Nat} (h : Wk W p B L s t rm lv) (hL : StpsOk L) (hs : s < 24) (ht : t < 24) (hst : s ≠ t) (hR : Rooms L rm) (hLev : Lev L s rm lv) (hlt : 0 < lv t) :
    WpF T0 78 [.pointer (some ⟨p, 0, none⟩)] W (fun v W' => ∃ sum rm', v = .int .i64 sum ∧ 0 < sum ∧ Only (fun b => b = p) W W' ∧ Wk W' p B L s t rm' lv ∧ Rooms L rm' ∧ Gone L s t rm rm' sum) := by
  have hpB := h.lt
  have hBW := h.Ble
  refine wpF fun78 rfl ?_
  try simp only [wpK_assoc]
  refine wpK_reg (fun R hR => by simp; exact hR) ?_
  try simp only [wpK_assoc]
  refine wpK_reg (fun R hR => by simp [zero132]; exact hR) ?_
  try simp only [wpK_assoc]
  refine wpK_reg (fun R hR => by simp [zero159]; exact hR) ?_
  obtain ⟨W1, hW1, hE1, hn1, hb1, hb4, hT1⟩ : ∃ W1, W1 = ((W.newCells 113 [.pointer (some ⟨p, 0, none⟩)]).newCells 132 (rep [.int .i64 0] 24)).newCells 159 [.nilFunc] ∧ Ext W W1 ∧ W1.next = W.next + 3 ∧ Var W1 W.next 113 [.pointer (some ⟨p, 0, none⟩)] ∧ Var W1 (W.next + 2) 159 [.nilFunc] ∧ TrV W1 (W.next + 1) (fun _ => 0) := by
    refine ⟨_, rfl, ((Only.newCells _ _ _).trans (Only.newCells _ _ _)).trans (Only.newCells _ _ _), rfl, ((Var.new _ _ _).ext (.newCells _ _ _)).ext (.newCells _ _ _), Var.new _ _ _, ?_⟩
    refine TrV.only (K := fun _ => False) (W := (W.newCells 113 [.pointer (some ⟨p, 0, none⟩)]).newCells 132 (rep [.int .i64 0] 24)) ⟨by simp [newCells_next], Tr.nil.lay 0 (rep [.int .i64 0] 24), by rw [newCells_get, if_pos (newCells_next _ _ _).symm]; rfl, fun q hq => ?_⟩ (.newCells _ _ _) (fun x => x)
    rw [Tr.get_lay]
    have : (rep [Value.int .i64 0] 24).length = 24 := by decide
    rw [if_pos (by omega), Nat.sub_zero]; exact rep_get _ 24 q hq
  rw [← hW1]
  obtain ⟨W2, s1, s2, s3, hV4⟩ := hb4.store (T := T0) (t := 159) (v := .func (.func 84) ⟨[]⟩ ⟨[.pointer (some ⟨W.next, 0, none⟩), .pointer (some ⟨W.next + 1, 0, none⟩), .pointer (some ⟨W.next + 2, 0, none⟩)]⟩) (o := 0) inf159 (by rw [is159]; rfl) (by simp) rfl
  try simp only [wpK_assoc]
  refine wpK_reg (fun R hR => by simp [opMakeFunc, newCells_next, s1]; exact hR) ?_
  try simp only [wpK_assoc]
  refine wpK_reg (fun R hR => by simp; exact hR) ?_
  have hO2 : Ext W W2 := ⟨by omega, fun b hb hk => by rw [s3.2 b (by omega) (by omega)]; exact hE1.2 b hb hk⟩
  have hV1 := hb1.only s3 (by omega)
  have hT2 := hT1.only s3 (by omega)
  have hWk2 := h.ext hO2
  have hC2 : PCx W2 p B W.next (W.next + 1) (W.next + 2) := ⟨hV1.has rfl, hV4.has rfl, hpB, by omega, by omega, by omega, by omega, by omega⟩
  have hDead0 : Dead L t rm lv (fun _ => 0) := fun q hq j y hj => absurd hj (Nat.not_lt_zero _)
  have hsrc := hLev.src
  -- a call of push, in a drawn region
  have call : ∀ (W' : AW) (rm1 : Nat → Int) (tr1 : Nat → Nat), PCx W' p B W.next (W.next + 1) (W.next + 2) → Wk W' p B L s t rm1 lv → TrV W' (W.next + 1) tr1 → Rooms L rm1 → (∀ q, q < 24 → tr1 q ≤ (outsL L q L.length).length) →
      WpF T0 84 [.int .i64 (s : Nat), .int .i64 9223372036854775807, .pointer (some ⟨W.next, 0, none⟩), .pointer (some ⟨W.next + 1, 0, none⟩), .pointer (some ⟨W.next + 2, 0, none⟩)] W' (fun v W'' => ∃ got rm' tr', v = .int .i64 got ∧ Only (fun b => b = p ∨ b = W.next + 1) W' W'' ∧ Wk W'' p B L s t rm' lv ∧ TrV W'' (W.next + 1) tr' ∧ Pushed L t lv s 9223372036854775807 rm1 tr1 got rm' tr') :=
    fun W' rm1 tr1 g1 g2 g3 g4 g5 => push_wp hL ht hLev.le 26 s (by omega) hs (by omega) _ (by omega) (by omega) W' rm1 tr1 g1 g2 g3 g4 g5
  have hkeep : ∀ {Wa Wb : AW}, PCx Wa p B W.next (W.next + 1) (W.next + 2) → Only (fun b => b = p ∨ b = W.next + 1) Wa Wb → PCx Wb p B W.next (W.next + 1) (W.next + 2) := fun hC hO => hC.only hO (fun e => by omega) (fun e => by omega)
  have l4 := load_of und159 rfl hC2.h4
  have l1 := load_of und113 rfl hC2.h1
  have ls := load_of und3 rfl hWk2.has.2.2.1
  try simp only [wpK_assoc]
  refine wpK_dr (wr := Tr.nil |>.set 8 0 |>.set 9 1 |>.set 10 2 |>.set 11 3 |>.set 12 4 |>.set 13 5 |>.set 6 6) (bits := Tr.nil.lay 0 [0, 0, 2, 6, 14, 31, 63]) (ord := [0, 1, 2, 3, 4, 5, 6])
    (J := fun A' W' => A'.n = 26 ∧ A'.defers = [] ∧ A'.tmps.get 1 = some (.pointer (some ⟨W.next, 0, none⟩)) ∧ A'.tmps.get 4 = some (.pointer (some ⟨W.next + 2, 0, none⟩)) ∧ A'.tmps.get 5 = some (.int .i64 0) ∧
      ∃ got rm' tr', A'.tmps.get 6 = some (.int .i64 got) ∧ Only (fun b => b = p ∨ b = W.next + 1) W2 W' ∧ Wk W' p B L s t rm' lv ∧ TrV W' (W.next + 1) tr' ∧ Pushed L t lv s 9223372036854775807 rm (fun _ => 0) got rm' tr')
    (by kernel_rfl) (by kernel_rfl) (by kernel_rfl) (fun G hGG => ?_) ?_
  · simp [hn1, nilck, l4, l1, ls, aEnter, fun84, short_other, aCallV]
    rw [dcallS_none]
    refine (call W2 rm (fun _ => 0) hC2 hWk2 hT2 hR (fun q hq => Nat.zero_le _)).mono ?_
    rintro _ W3 ⟨got, rm', tr', rfl, g1, g2, g3, g4⟩
    simp [hn1, nilck, l4, l1, ls, g1.1]
    apply hGG
    exact ⟨rfl, rfl, by simp, by simp [hn1], by simp, got, rm', tr', by simp, g1, g2, g3, g4⟩
  rintro ⟨tm, n, ds⟩ W3 ⟨hn, hd, h1, h4, h5, got, rm1, tr1, h6, hO3, hWk3, hT3, hPu⟩
  simp only at hn hd h1 h4 h5 h6
  subst hn; subst hd
  have hgot : 0 < got := by
    by_cases hg : 0 < got
    · exact hg
    · have hg0 : got = 0 := by have := hPu.nn; omega
      obtain ⟨e1, e2, e3, e4⟩ := hPu.none hg0
      have := dead_all hL hLev (e4 hDead0) hst e3 (lv t) t ht hlt (Nat.le_refl _)
      exact absurd rfl this.1
  have hGone1 : Gone L s t rm rm1 got := hPu.some hgot
  try simp only [wpK_assoc]
  refine wpK_while (I := fun k A' W' => A'.n = 26 ∧ A'.defers = [] ∧ A'.tmps.get 1 = some (.pointer (some ⟨W.next, 0, none⟩)) ∧ A'.tmps.get 4 = some (.pointer (some ⟨W.next + 2, 0, none⟩)) ∧
      ∃ (sum got : Int) (rm1 : Nat → Int) (tr1 : Nat → Nat), k = (outN L rm1 s L.length).toNat + (if 0 < got then 1 else 0) ∧ A'.tmps.get 5 = some (.int .i64 sum) ∧ A'.tmps.get 6 = some (.int .i64 got) ∧ Only (fun b => b = p ∨ b = W.next + 1) W2 W' ∧ Wk W' p B L s t rm1 lv ∧ TrV W' (W.next + 1) tr1 ∧ Rooms L rm1 ∧ (∀ q, q < 24 → tr1 q ≤ (outsL L q L.length).length) ∧ 0 ≤ sum ∧ 0 ≤ got ∧ 0 < sum + got ∧ Gone L s t rm rm1 (sum + got))
    (J := fun A' W' => A'.n = 26 ∧ A'.defers = [] ∧ ∃ (sum : Int) (rm1 : Nat → Int), A'.tmps.get 5 = some (.int .i64 sum) ∧ Only (fun b => b = p ∨ b = W.next + 1) W2 W' ∧ Wk W' p B L s t rm1 lv ∧ Rooms L rm1 ∧ 0 < sum ∧ Gone L s t rm rm1 sum)
    (Rt := fun _ _ => False) (k := (outN L rm1 s L.length).toNat + (if 0 < got then 1 else 0)) ?_ ?_ ?_ ?_
  · exact ⟨rfl, rfl, by simp [h1], by simp [h4], 0, got, rm1, tr1, rfl, by simp [h5], by simp [h6], hO3, hWk3, hT3, hPu.rooms, hPu.trle, by omega, by omega, by omega, by rw [Int.zero_add]; exact hGone1⟩
  · clear h1 h4 h5 h6 hO3 hWk3 hT3 hPu hgot hGone1 got rm1 tr1
    rintro k ⟨tm, n, ds⟩ W4 ⟨hn, hd, h1, h4, sum, got, rm1, tr1, hk, h5, h6, hO4, hWk4, hT4, hR4, htr4, hs0, hg0, hsg, hGo⟩ Q' hJ hRt hI
    simp only at hn hd h1 h4 h5 h6
    subst hn; subst hd
    try simp only [wpK_assoc]
    refine wpK_reg (fun R hR => by simp [h6]; exact hR) ?_
    by_cases hg : 0 < got
    · refine wpK_onT (by simp [hg]) ?_
      have hC4 := hkeep hC2 hO4
      have l4 := load_of und159 rfl hC4.h4
      have l1 := load_of und113 rfl hC4.h1
      have ls := load_of und3 rfl hWk4.has.2.2.1
      have hb0 := hR.outN hL s
      have hb1 := hR4.outN hL s
      have hle := hGo.le hst
      have hws : IntKind.i64.wrap (sum + got) = sum + got := IntWalk.i64_in _ (by omega)
      refine wpK_block ?_
      try simp only [wpK_assoc]
      refine wpK_reg1 (fun R hR => by simp [h5, h6, hws]; exact hR) ?_
      try simp only [wpK_assoc]
      refine wpK_dr1 (wr := Tr.nil |>.set 16 0 |>.set 17 1 |>.set 18 2 |>.set 19 3 |>.set 20 4 |>.set 21 5 |>.set 6 6) (bits := Tr.nil.lay 0 [0, 0, 2, 6, 14, 31, 63]) (ord := [0, 1, 2, 3, 4, 5, 6])
        (J := fun A' W' => A'.n = 26 ∧ A'.defers = [] ∧ A'.tmps.get 1 = some (.pointer (some ⟨W.next, 0, none⟩)) ∧ A'.tmps.get 4 = some (.pointer (some ⟨W.next + 2, 0, none⟩)) ∧ A'.tmps.get 5 = some (.int .i64 (sum + got)) ∧
          ∃ got' rm' tr', A'.tmps.get 6 = some (.int .i64 got') ∧ Only (fun b => b = p ∨ b = W.next + 1) W4 W' ∧ Wk W' p B L s t rm' lv ∧ TrV W' (W.next + 1) tr' ∧ Pushed L t lv s 9223372036854775807 rm1 tr1 got' rm' tr')
        (by kernel_rfl) (by kernel_rfl) (by kernel_rfl) (fun G hGG => ?_) ?_
      · simp [h1, h4, nilck, l4, l1, ls, aEnter, fun84, short_other, aCallV]
        rw [dcallS_none]
        refine (call W4 rm1 tr1 hC4 hWk4 hT4 hR4 htr4).mono ?_
        rintro _ W5 ⟨got', rm', tr', rfl, g1, g2, g3, g4⟩
        simp [h1, h4, nilck, l4, l1, ls, g1.1]
        apply hGG
        exact ⟨rfl, rfl, by simp [h1], by simp [h4], by simp, got', rm', tr', by simp, g1, g2, g3, g4⟩
      rintro ⟨tm, n, ds⟩ W5 ⟨hn, hd, h1, h4, h5, got', rm', tr', h6, hO5, hWk5, hT5, hPu⟩
      simp only at hn hd h1 h4 h5 h6
      subst hn; subst hd
      have hnn := hPu.nn
      have hb2 := hPu.rooms.outN hL s
      by_cases hg' : 0 < got'
      · have hGo' : Gone L s t rm1 rm' got' := hPu.some hg'
        have hle' := hGo'.le hst
        refine hI _ _ _ (by rw [hk, if_pos hg]; exact Nat.lt_of_lt_of_le (Nat.lt_succ_self _) (by rw [if_pos hg']; omega)) ⟨rfl, rfl, by simp [h1], by simp [h4], sum + got, got', rm', tr', rfl, by simp [h5], by simp [h6], hO4.trans hO5, hWk5, hT5, hPu.rooms, hPu.trle, by omega, hnn, by omega, hGo.trans hGo'⟩
      · have e0 : got' = 0 := by omega
        obtain ⟨e1, _⟩ := hPu.none e0
        subst e1
        refine hI _ _ _ (by rw [hk, if_pos hg]; exact Nat.lt_of_lt_of_le (Nat.lt_succ_self _) (by rw [if_neg hg']; omega)) ⟨rfl, rfl, by simp [h1], by simp [h4], sum + got, got', rm', tr', rfl, by simp [h5], by simp [h6], hO4.trans hO5, hWk5, hT5, hPu.rooms, hPu.trle, by omega, hnn, by omega, by rw [e0, Int.add_zero]; exact hGo⟩
    · have e0 : got = 0 := by omega
      subst e0
      rw [Int.add_zero] at hsg hGo
      exact wpK_out (by simp) (hJ _ _ ⟨rfl, rfl, sum, rm1, by simp [h5], hO4, hWk4, hR4, hsg, hGo⟩)
  · rintro A' W' hf; exact hf.elim
  · rintro ⟨tm, n, ds⟩ W4 ⟨hn, hd, sum, rm2, h5, hO4, hWk4, hR4, hs0, hGo⟩
    simp only at hn hd h5
    subst hn; subst hd
    try simp only [wpK_assoc]
    refine wpK_reg (fun R hR => by simp [h5]; exact hR) ?_
    refine wpK_ret ⟨.inr rfl, rfl, [.int .i64 sum], by simp, sum, rm2, rfl, hs0, ⟨by have := hO2.1; have := hO4.1; omega, fun b hb hk => by rw [hO4.2 b (by have := hO2.1; omega) (by omega)]; exact hO2.2 b hb (fun x => x)⟩, hWk4, hR4, hGo⟩
structure Filled (L : List Stp) (s t : Nat) (rm : Nat → Int) (x : Int) (rm' : Nat → Int) (lv : Nat → Nat) : Prop where
  nn : 0 ≤ x
  rooms : Rooms L rm'
  gone : Gone L s t rm rm' x
  lev : Lev L s rm' lv
  snk : lv t = 0
  closed : Closed L rm' lv
theorem fill_wp {W : AW} {p B : Nat} {L : List Stp} {s t : Nat} {rm : Nat → Int} {lv0 : Nat → Nat} (h : Wk W p B L s t rm lv0) (hL : StpsOk L) (hs : s < 24) (ht : t < 24) (hst : s ≠ t) (hR : Rooms L rm) :
    WpF T0 55 [.pointer (some ⟨p, 0, none⟩)] W (fun v W' => ∃ x rm' lv, v = .int .i64 x ∧ Only (fun b => b = p) W W' ∧ Wk W' p B L s t rm' lv ∧ Filled L s t rm x rm' lv) := by
  refine wpF fun55 rfl ?_
  try simp only [wpK_assoc]
  refine wpK_reg (fun R hR => by simp; exact hR) ?_
  try simp only [wpK_assoc]
  refine wpK_reg (fun R hR => by simp; exact hR) ?_
  try simp only [wpK_assoc]
  refine wpK_while (I := fun k A' W' => A'.n = 11 ∧ A'.defers = [] ∧ A'.tmps.get 0 = some (.pointer (some ⟨p, 0, none⟩)) ∧ Only (fun b => b = p) W W' ∧ ∃ (x : Int) (rm1 : Nat → Int) (lv1 : Nat → Nat), k = (outN L rm1 s L.length).toNat ∧ A'.tmps.get 3 = some (.int .i64 x) ∧ 0 ≤ x ∧ Wk W' p B L s t rm1 lv1 ∧ Rooms L rm1 ∧ Gone L s t rm rm1 x)
    (J := fun A' W' => A'.n = 11 ∧ A'.defers = [] ∧ Only (fun b => b = p) W W' ∧ ∃ (x : Int) (rm1 : Nat → Int) (lv1 : Nat → Nat), A'.tmps.get 3 = some (.int .i64 x) ∧ Wk W' p B L s t rm1 lv1 ∧ Filled L s t rm x rm1 lv1)
    (Rt := fun _ _ => False) (k := (outN L rm s L.length).toNat) ?_ ?_ ?_ ?_
  · exact ⟨rfl, rfl, by simp, .refl _ _, 0, rm, lv0, rfl, by simp, by omega, h, hR, fun q => by simp⟩
  · rintro k ⟨tm, n, ds⟩ W1 ⟨hn, hd, h0, hO1, x, rm1, lv1, hk, h3, hx0, hWk1, hR1, hG1⟩ Q' hJ hRt hI
    simp only at hn hd h0 h3
    subst hn; subst hd
    try simp only [wpK_assoc]
    refine wpK_regc (J := fun A' W' => A'.n = 11 ∧ A'.defers = [] ∧ A'.tmps.get 0 = some (.pointer (some ⟨p, 0, none⟩)) ∧ A'.tmps.get 3 = some (.int .i64 x) ∧ Only (fun b => b = p) W W' ∧ ∃ b lv, A'.tmps.get 5 = some b ∧ Wk W' p B L s t rm1 lv ∧ Measured L s t rm1 b lv) (fun R hR => ?_) ?_
    · simp [h0, aEnter, fun77, short_other, aCallV]
      rw [callS_none]
      refine (measure_wp hWk1 hL hs ht hst).mono ?_
      rintro v W' ⟨lv, g1, g2, g3⟩
      simp
      apply hR
      exact ⟨rfl, rfl, by simp [h0], by simp [h3], hO1.trans g1, v, lv, by simp, g2, g3⟩
    rintro ⟨tm, n, ds⟩ W2 ⟨hn, hd, h0, h3, hO2, b, lv, h5, hWk2, hLev, hcase⟩
    simp only at hn hd h0 h3 h5
    subst hn; subst hd
    rcases hcase with ⟨rfl, hpos⟩ | ⟨rfl, hz, hcl⟩
    · refine wpK_onT (by simp [h5]) ?_
      refine wpK_block1 ?_
      try simp only [wpK_assoc]
      refine wpK_regc1 (J := fun A' W' => A'.n = 11 ∧ A'.defers = [] ∧ A'.tmps.get 0 = some (.pointer (some ⟨p, 0, none⟩)) ∧ Only (fun b => b = p) W W' ∧ ∃ sum rm', A'.tmps.get 3 = some (.int .i64 (x + sum)) ∧ 0 < sum ∧ Wk W' p B L s t rm' lv ∧ Rooms L rm' ∧ Gone L s t rm1 rm' sum) (fun R hR2 => ?_) ?_
      · simp [h0, h3, aEnter, fun78, short_other, aCallV]
        rw [callS_none]
        refine (widen_wp hWk2 hL hs ht hst hR1 hLev hpos).mono ?_
        rintro _ W' ⟨sum, rm', rfl, g1, g2, g3, g4, g5⟩
        have hb0 := hR.outN hL s
        have hb1 := hR1.outN hL s
        have hb2 := g4.outN hL s
        have hl1 := hG1.le hst
        have hl2 := g5.le hst
        have hws : IntKind.i64.wrap (x + sum) = x + sum := IntWalk.i64_in _ (by omega)
        simp [hws]
        apply hR2
        exact ⟨rfl, rfl, by simp [h0], hO2.trans g2, sum, rm', by simp, g1, g3, g4, g5⟩
      rintro ⟨tm, n, ds⟩ W3 ⟨hn, hd, h0, hO3, sum, rm', h3, hs0, hWk3, hR3, hG3⟩
      simp only at hn hd h0 h3
      subst hn; subst hd
      have hb1 := hR1.outN hL s
      have hb2 := hR3.outN hL s
      have hl2 := hG3.le hst
      exact hI _ _ _ (by rw [hk]; omega) ⟨rfl, rfl, h0, hO3, x + sum, rm', lv, rfl, h3, by omega, hWk3, hR3, hG1.trans hG3⟩
    · exact wpK_out (by simp [h5]) (hJ _ _ ⟨rfl, rfl, hO2, x, rm1, lv, h3, hWk2, ⟨hx0, hR1, hG1, hLev, hz, hcl⟩⟩)
  · rintro A' W' hf; exact hf.elim
  · rintro ⟨tm, n, ds⟩ W1 ⟨hn, hd, hO1, x, rm1, lv1, h3, hWk1, hF⟩
    simp only at hn hd h3
    subst hn; subst hd
    try simp only [wpK_assoc]
    refine wpK_reg (fun R hR => by simp [h3]; exact hR) ?_
    exact wpK_ret ⟨.inr rfl, rfl, [.int .i64 x], by simp, x, rm1, lv1, rfl, hO1, hWk1, hF⟩
end Go.Proofs.YtkgfjfkgmpeobaaDoor
open Go Go.Eng
namespace Go.Proofs.YtkgfjfkgmpeobaaDoor
attribute [local congr] undef_congr WpK.congr WpS.congr WpL.congr WpC.congr WpF.congr gotS.congr callS.congr nextS.congr wantS.congr condS.congr
attribute [local irreducible] WpK
attribute [local simp] WpDr_nil WpDr_cons atS_some dwantS_true dwantS_false kindS_light kindS_float kindS_heavy lightS_value floatS_some heavyS_value heavyS_skip heavyS_enter dcallS_some doneS_eq
  isLight isFloat isPlain dLook testBit_dec dChain dLights_nil dLights_skip dLights_one dLight_nil dLight_cons dFreshes_nil dFreshes_one oneF_none oneF_some dFresh_nil dFresh_cons oneL_some oneW_true oneW_false sameV_value dPut dMay valEq arrEq listEq List.getElem?_cons Tr.get_nil dEnd
attribute [local simp] WpS_nil WpS_cons isDefer undef_false wantS_true wantS_false nextS_value nextS_skip nextS_enter callS_some gotS_some aWanted aOp aEvalF aEval opMove opAssign opPick aVal flat flat1 AAct.put opBinOp opConvert opIndex Tr.get_set Tr.get_lay aBin aResults tupled
  aCall aVals aCallB blt_dec ble_dec beq_dec aBinI_add aBinI_sub aBinI_lss aBinI_leq aBinI_gtr aBinI_geq aBinI_eql aBinI_neq index_str len_str len_slice Nat.beq_refl und2 und3 und4 und5 und39 und76 und82 und115 und22 und29 und25 und33 und46 und43 und49 und111 und113 field151 field155_0 field155_1 field155_2 field155_3 field155_4
  field78 field106 field24 field31 field27 field35 field108 field109 opBox opLoad opFieldAddr opIndexAddr acells aAddr opExtract aExtract opUnOp opAlloc opStore opMakeInterface opNilCheck opBuild aParts opBuildSlice aValW
set_option maxHeartbeats 4000000
set_option linter.unusedSimpArgs false
set_option linter.unusedVariables false
def tabN : List Nat := [0, 1, 56, 2, 57, 49, 28, 3, 61, 58, 42, 50, 38, 29, 17, 4, 62, 47, 59, 36, 45, 43, 51, 22, 53, 39, 33, 30, 24, 18, 12, 5, 63, 55, 48, 27, 60, 41, 37, 16, 46, 35, 44, 21, 52, 32, 23, 11, 54, 26, 40, 15, 34, 20, 31, 10, 25, 14, 19, 9, 13, 8, 7, 6]
theorem und160 : T0.und.get 160 = some (.array 64 5) := by kernel_rfl
theorem ix160 (i : Nat) (hi : i < 64) (k : IntKind) : aIndexAddr T0 160 (.pointer (some ⟨0, 0, none⟩)) (.int k (i : Nat)) = some (.pointer (some ⟨0, i, none⟩)) := by
  show aIndexAddr T0 160 (.pointer (some ⟨0, 0, none⟩)) (.int k (Int.ofNat i)) = _
  simp only [aIndexAddr, und160, sz5, blt_dec, hi, decide_true, Nat.mul_one, Nat.zero_add]
theorem glob0 : T0.globs.get 0 = some () := by kernel_rfl
theorem tbl_load {W : AW} (h : tabsIn T0 T0.tabs W = true) (i : Nat) (hi : i < 64) : aLoadVar T0 W 5 0 i = some (.int .u8 ((tabN.getD i 0 : Nat) : Int)) := by
  have h : tabsIn T0 [⟨0, tabN.map fun n : Nat => Value.int .u8 (n : Int)⟩] W = true := h
  simp only [tabsIn, glob0] at h
  split at h
  case h_2 => cases h
  rename_i hu ht
  have hlen : (tabN.map fun n : Nat => Value.int .u8 (n : Int)).length = 64 := by decide
  have := tabIn_cell ht i (by show i < (tabN.map _).length; omega)
  rw [loadVar_cell und5 rfl]
  rw [this]
  simp only [List.getElem_map]
  rw [List.getD_eq_getElem?_getD, List.getElem?_eq_getElem (show i < tabN.length by simpa using (show i < (tabN.map fun n : Nat => Value.int .u8 (n : Int)).length by omega))]
  rfl
theorem low_ex {x : Nat} (h : x ≠ 0) : ∃ k, x.testBit k = true ∧ ∀ j, j < k → x.testBit j = false := by
  have hx : ∃ k, x.testBit k = true := by
    apply Classical.byContradiction
    intro hn
    apply h
    apply Nat.eq_of_testBit_eq
    intro i
    rw [Nat.zero_testBit]
    cases hb : x.testBit i with
    | false => rfl
    | true => exact absurd ⟨i, hb⟩ hn
  obtain ⟨k, hk⟩ := hx
  induction k using Nat.strongRecOn with
  | _ k ih =>
    by_cases hj : ∃ j, j < k ∧ x.testBit j = true
    · obtain ⟨j, h1, h2⟩ := hj
      exact ih j h1 h2
    · refine ⟨k, hk, fun j hjk => ?_⟩
      cases hb : x.testBit j with
      | false => rfl
      | true => exact absurd ⟨j, hjk, hb⟩ hj
theorem low_bits {x k : Nat} (h1 : x.testBit k = true) (h2 : ∀ j, j < k → x.testBit j = false) : x = 2 ^ (k + 1) * (x / 2 ^ (k + 1)) + 2 ^ k := by
  have : x % 2 ^ (k + 1) = 2 ^ k := by
    apply Nat.eq_of_testBit_eq
    intro i
    rw [Nat.testBit_mod_two_pow, Nat.testBit_two_pow]
    by_cases e : i = k
    · subst e; simp [-testBit_dec, h1]
    · by_cases hlt : i < k
      · rw [h2 i hlt, decide_eq_false (show ¬ k = i by omega), Bool.and_false]
      · rw [decide_eq_false (show ¬ i < k + 1 by omega), decide_eq_false (show ¬ k = i by omega), Bool.false_and]
  have := Nat.div_add_mod x (2 ^ (k + 1))
  omega
theorem pred_bits {x k : Nat} (h1 : x.testBit k = true) (h2 : ∀ j, j < k → x.testBit j = false) (i : Nat) : (x - 1).testBit i = if i < k then true else if i = k then false else x.testBit i := by
  have hx := low_bits h1 h2
  have hp : 0 < 2 ^ k := Nat.two_pow_pos k
  have hp1 : 2 ^ (k + 1) = 2 * 2 ^ k := by rw [Nat.pow_succ]; omega
  have e1 : x - 1 = 2 ^ (k + 1) * (x / 2 ^ (k + 1)) + (2 ^ k - 1) := by omega
  rw [e1, Nat.testBit_two_pow_mul_add _ (by omega), Nat.testBit_two_pow_sub_one]
  by_cases hlt : i < k
  · rw [if_pos (by omega), if_pos hlt, decide_eq_true hlt]
  · rw [if_neg hlt]
    by_cases e : i = k
    · rw [if_pos (by omega), if_pos e, decide_eq_false (by omega)]
    · rw [if_neg (by omega), if_neg e]
      have : x.testBit i = (2 ^ (k + 1) * (x / 2 ^ (k + 1)) + 2 ^ k).testBit i := by rw [← hx]
      rw [this, Nat.testBit_two_pow_mul_add _ (by omega), if_neg (by omega)]
theorem low_and {x k : Nat} (hx : x < 18446744073709551616) (h1 : x.testBit k = true) (h2 : ∀ j, j < k → x.testBit j = false) : x &&& (18446744073709551616 - x) = 2 ^ k := by
  have hx0 : 0 < x := Nat.pos_of_ne_zero (fun e => by subst e; simp [-testBit_dec] at h1)
  have hk : k < 64 := by
    by_cases hk : k < 64
    · exact hk
    · have : x.testBit k = false := Nat.testBit_lt_two_pow (Nat.lt_of_lt_of_le hx (show 2 ^ 64 ≤ 2 ^ k from Nat.pow_le_pow_right (by omega) (by omega)))
      rw [this] at h1; cases h1
  apply Nat.eq_of_testBit_eq
  intro i
  rw [Nat.testBit_and, show 18446744073709551616 - x = 2 ^ 64 - ((x - 1) + 1) from by omega, Nat.testBit_two_pow_sub_succ (by show x - 1 < 18446744073709551616; omega), pred_bits h1 h2, Nat.testBit_two_pow]
  by_cases hlt : i < k
  · rw [if_pos hlt, h2 i hlt, decide_eq_false (show ¬ k = i by omega), Bool.false_and]
  · rw [if_neg hlt]
    by_cases e : i = k
    · rw [if_pos e, e, h1, decide_eq_true hk, decide_eq_true rfl]; rfl
    · rw [if_neg e, decide_eq_false (show ¬ k = i by omega)]
      cases x.testBit i <;> simp
theorem brujin : ∀ k, k < 64 → tabN.getD ((2 ^ k * 285870213051353865 % 18446744073709551616) >>> 58) 0 = k ∧ (2 ^ k * 285870213051353865 % 18446744073709551616) >>> 58 < 64 := by decide +kernel
theorem neg_u64 {x : Nat} (h0 : 0 < x) (hx : x < 18446744073709551616) : aUn .neg (.int .u64 (x : Nat)) = some (.int .u64 ((18446744073709551616 - x : Nat) : Int)) := by
  obtain ⟨n, hn⟩ : ∃ n, n = 18446744073709551616 - x := ⟨_, rfl⟩
  rw [← hn]
  have hw : IntKind.u64.wrap (0 - (x : Int)) = (n : Int) := by rw [IntKind.wrap_u64]; omega
  clear hn
  generalize hz : (0 - (x : Int)) = z at hw
  have hu : Op.unary .neg (.int .u64 (x : Nat)) = Op.intArith .sub .u64 0 (x : Nat) := rfl
  simp only [aUn, hu, Op.intArith, aPure, pure, hz, hw, flat1]
section
attribute [local irreducible] aBinI
theorem tz_wp {W : AW} (hT : tabsIn T0 T0.tabs W = true) {x k : Nat} (hx : x < 18446744073709551616) (h1 : x.testBit k = true) (h2 : ∀ j, j < k → x.testBit j = false) : WpF T0 83 [.int .u64 (x : Nat)] W (fun v W' => W' = W ∧ v = .int .i64 (k : Nat)) := by
  have hx0 : 0 < x := Nat.pos_of_ne_zero (fun e => by subst e; simp [-testBit_dec] at h1)
  have hk : k < 64 := by
    by_cases hk : k < 64
    · exact hk
    · have : x.testBit k = false := Nat.testBit_lt_two_pow (Nat.lt_of_lt_of_le hx (show 2 ^ 64 ≤ 2 ^ k from Nat.pow_le_pow_right (by omega) (by omega)))
      rw [this] at h1; cases h1
  have hneg := neg_u64 hx0 hx
  have hand := aBinI_and .u64 x (18446744073709551616 - x) hx (by show 18446744073709551616 - x < 18446744073709551616; omega)
  rw [low_and hx h1 h2] at hand
  have hpk : 2 ^ k < 18446744073709551616 := by show 2 ^ k < 2 ^ 64; exact Nat.pow_lt_pow_right (by omega) hk
  obtain ⟨hb1, hb2⟩ := brujin k hk
  have hmul : aBinI .mul .u64 ((2 ^ k : Nat) : Int) .u64 285870213051353865 = some (.int .u64 ((2 ^ k * 285870213051353865 % 18446744073709551616 : Nat) : Int)) := by
    have hw : ∀ q : Nat, IntKind.u64.wrap ((q : Int) * 285870213051353865) = ((q * 285870213051353865 % 18446744073709551616 : Nat) : Int) := fun q => by rw [IntKind.wrap_u64]; omega
    rw [aBinI_mul, hw]
  have hsh : aBinI .shr .u64 ((2 ^ k * 285870213051353865 % 18446744073709551616 : Nat) : Int) .u64 58 = some (.int .u64 (((2 ^ k * 285870213051353865 % 18446744073709551616) >>> 58 : Nat) : Int)) := aBinI_shr .u64 .u64 _ 58 (by decide)
  generalize 2 ^ k = pk at hand hmul hsh hb1 hb2
  generalize pk * 285870213051353865 % 18446744073709551616 = mm at hmul hsh hb1 hb2
  generalize mm >>> 58 = ii at hsh hb1 hb2
  have hld := tbl_load hT ii hb2
  rw [hb1] at hld
  have hixx := ix160 ii hb2 .u64
  generalize hxn : 18446744073709551616 - x = xn at hneg hand
  have hwk : IntKind.i64.wrap (k : Int) = k := IntWalk.i64_in _ (by omega)
  refine wpF fun83 rfl ?_
  try simp only [wpK_assoc]
  refine wpK_reg (fun R hR => by simp; exact hR) ?_
  try simp only [wpK_assoc]
  refine wpK_reg (fun R hR => by simp; exact hR) ?_
  refine wpK_onF (by simp; omega) ?_
  have haA : aBin T0 .and 76 (.tmp 5) (.tmp 7) (.int .u64 (x : Nat)) (.int .u64 (xn : Nat)) = some (.int .u64 (pk : Nat)) := hand
  have haM : aBin T0 .mul 76 (.tmp 8) (.const (.int .u64 285870213051353865)) (.int .u64 (pk : Nat)) (.int .u64 285870213051353865) = some (.int .u64 (mm : Nat)) := hmul
  have haS : aBin T0 .shr 76 (.tmp 9) (.const (.int .u64 58)) (.int .u64 (mm : Nat)) (.int .u64 58) = some (.int .u64 (ii : Nat)) := hsh
  clear hand hmul hsh
  try simp only [wpK_assoc]
  refine wpK_regc (J := fun A' W' => W' = W ∧ A'.defers = [] ∧ A'.tmps.get 2 = some (.int .i64 (k : Nat))) (fun R hR => ?_) ?_
  · refine wpS_step (v := .int .u64 (x : Nat)) rfl rfl (by simp) rfl ?_
    refine wpS_step (v := .int .u64 (x : Nat)) rfl rfl (by simp) rfl ?_
    refine wpS_step (v := .int .u64 (xn : Nat)) rfl rfl (by simp [hneg]) rfl ?_
    refine wpS_step (v := .int .u64 (pk : Nat)) rfl rfl (aOp_bin rfl (by simp) (by simp) haA) rfl ?_
    refine wpS_step (v := .int .u64 (mm : Nat)) rfl rfl (aOp_bin rfl (by simp) rfl haM) rfl ?_
    refine wpS_step (v := .int .u64 (ii : Nat)) rfl rfl (aOp_bin rfl (by simp) rfl haS) rfl ?_
    refine wpS_step (v := .pointer (some ⟨0, ii, none⟩)) rfl rfl (aOp_ix rfl (aEvalF_glob glob0) (by simp) hixx) rfl ?_
    clear haA haM haS hixx
    simp [hld, conv_5_3, hwk]
    apply hR
    exact ⟨rfl, rfl, by simp⟩
  rintro ⟨tm, n, ds⟩ W' ⟨rfl, hd, h2⟩
  simp only at hd h2
  subst hd
  exact wpK_ret ⟨.inr rfl, rfl, [.int .i64 (k : Nat)], by simp [h2], rfl, rfl⟩
end
theorem first_wp {W : AW} (hT : tabsIn T0 T0.tabs W = true) {x k : Nat} (hx : x < 18446744073709551616) (h1 : x.testBit k = true) (h2 : ∀ j, j < k → x.testBit j = false) : WpF T0 75 [.int .u64 (x : Nat)] W (fun v W' => W' = W ∧ v = .int .i64 (k : Nat)) := by
  refine wpF fun75 rfl ?_
  try simp only [wpK_assoc]
  refine wpK_reg (fun R hR => by simp; exact hR) ?_
  try simp only [wpK_assoc]
  refine wpK_regc (J := fun A' W' => W' = W ∧ A'.n = 5 ∧ A'.defers = [] ∧ A'.tmps.get 2 = some (.int .i64 (k : Nat))) (fun R hR => ?_) ?_
  · simp [aEnter, fun83, short_other, aCallV]
    rw [callS_none]
    refine (tz_wp hT hx h1 h2).mono ?_
    rintro _ W' ⟨rfl, rfl⟩
    simp
    apply hR
    exact ⟨rfl, rfl, rfl, by simp⟩
  rintro ⟨tm, n, ds⟩ W' ⟨rfl, hn, hd, h2⟩
  simp only at hn hd h2
  subst hn; subst hd
  exact wpK_ret ⟨.inr rfl, rfl, [.int .i64 (k : Nat)], by simp [h2], rfl, rfl⟩
def atP (from_ src q : Nat) : Nat := if from_.testBit q then src else q
theorem at_wp {W : AW} {bF bW p from_ src q : Nat} (hf : from_ < 18446744073709551616) (hq : q < 24) (hF : W.Has bF 0 (.int .u64 (from_ : Nat))) (hW : W.Has bW 0 (.pointer (some ⟨p, 0, none⟩))) (hS : W.Has p 824 (.int .i64 (src : Nat))) :
    WpF T0 76 [.int .i64 (q : Nat), .pointer (some ⟨bF, 0, none⟩), .pointer (some ⟨bW, 0, none⟩)] W (fun v W' => W' = W ∧ v = .int .i64 (atP from_ src q : Nat)) := by
  have lF := load_of und115 rfl hF
  have lW := load_of und113 rfl hW
  have lS := load_of und3 rfl hS
  refine wpF fun76 rfl ?_
  try simp only [wpK_assoc]
  refine wpK_reg (fun R hR => by simp; exact hR) ?_
  try simp only [wpK_assoc]
  refine wpK_regc (J := fun A' W' => W' = W ∧ A'.n = 13 ∧ A'.defers = [] ∧ A'.tmps.get 0 = some (.int .i64 (q : Nat)) ∧ A'.tmps.get 2 = some (.pointer (some ⟨bW, 0, none⟩)) ∧ A'.tmps.get 7 = some (.bool (from_.testBit q))) (fun R hR => ?_) ?_
  · simp [lF, aEnter, fun62, short_other, aCallV]
    rw [callS_none]
    refine (has_wp from_ q hf (by omega) W).mono ?_
    rintro _ W' ⟨rfl, rfl⟩
    simp [-testBit_dec]
    apply hR
    exact ⟨rfl, rfl, rfl, by simp, by simp, by simp [-testBit_dec]⟩
  rintro ⟨tm, n, ds⟩ W' ⟨rfl, hn, hd, h0, h2, h7⟩
  simp only at hn hd h0 h2 h7
  subst hn; subst hd
  cases hb : from_.testBit q with
  | true =>
    rw [hb] at h7
    refine wpK_condT (by simp [h7]) ?_
    try simp only [wpK_assoc]
    refine wpK_reg (fun R hR => by simp [h2, lW, nilck, lS]; exact hR) ?_
    exact wpK_ret ⟨.inr rfl, rfl, [.int .i64 (src : Nat)], by simp, rfl, by rw [atP, hb]; rfl⟩
  | false =>
    rw [hb] at h7
    refine wpK_onF (by simp [h7]) ?_
    try simp only [wpK_assoc]
    refine wpK_reg (fun R hR => by simp [h0]; exact hR) ?_
    exact wpK_ret ⟨.inr rfl, rfl, [.int .i64 (q : Nat)], by simp, rfl, by rw [atP, hb]; rfl⟩
end Go.Proofs.YtkgfjfkgmpeobaaDoor

open Go Go.Eng
namespace Go.Proofs.YtkgfjfkgmpeobaaDoor
attribute [local congr] undef_congr WpK.congr WpS.congr WpL.congr WpC.congr WpF.congr gotS.congr callS.congr nextS.congr wantS.congr condS.congr
attribute [local irreducible] WpK
attribute [local simp] WpDr_nil WpDr_cons atS_some dwantS_true dwantS_false kindS_light kindS_float kindS_heavy lightS_value floatS_some heavyS_value heavyS_skip heavyS_enter dcallS_some doneS_eq
  isLight isFloat isPlain dLook testBit_dec dChain dLights_nil dLights_skip dLights_one dLight_nil dLight_cons dFreshes_nil dFreshes_one oneF_none oneF_some dFresh_nil dFresh_cons oneL_some oneW_true oneW_false sameV_value dPut dMay valEq arrEq listEq List.getElem?_cons Tr.get_nil dEnd
attribute [local simp] WpS_nil WpS_cons isDefer undef_false wantS_true wantS_false nextS_value nextS_skip nextS_enter callS_some gotS_some aWanted aOp aEvalF aEval opMove opAssign opPick aVal flat flat1 AAct.put opBinOp opConvert opIndex Tr.get_set Tr.get_lay aBin aResults tupled
  aCall aVals aCallB blt_dec ble_dec beq_dec aBinI_add aBinI_sub aBinI_lss aBinI_leq aBinI_gtr aBinI_geq aBinI_eql aBinI_neq index_str len_str len_slice Nat.beq_refl und2 und3 und4 und5 und39 und76 und82 und115 und22 und29 und25 und33 und46 und43 und49 und111 und113 field151 field155_0 field155_1 field155_2 field155_3 field155_4
  field78 field106 field24 field31 field27 field35 field108 field109 opBox opLoad opFieldAddr opIndexAddr acells aAddr opExtract aExtract opUnOp opAlloc opStore opMakeInterface opNilCheck opBuild aParts opBuildSlice aValW
set_option maxHeartbeats 4000000
set_option linter.unusedSimpArgs false
set_option linter.unusedVariables false
def initW (s t : Nat) : List Value := rep [.int .i64 0] 800 ++ (rep [.slice none 0 0] 24 ++ ([.int .i64 (s : Nat), .int .i64 (t : Nat)] ++ rep [.int .i64 0] 24))
theorem rep_len (v : Value) : ∀ n, (rep [v] n).length = n
  | 0 => rfl
  | n + 1 => by show ([v] ++ rep [v] n).length = _; rw [List.length_append, rep_len v n]; simp; omega
theorem initW_get (s t : Nat) : (initW s t).length = 850 ∧ (∀ q, q < 24 → (initW s t)[800 + q]? = some (.slice none 0 0)) ∧ (initW s t)[824]? = some (.int .i64 (s : Nat)) ∧ (initW s t)[825]? = some (.int .i64 (t : Nat)) ∧ ∀ q, q < 24 → (initW s t)[826 + q]? = some (.int .i64 ((0 : Nat) : Int)) := by
  have h1 := rep_len (.int .i64 0) 800
  have h2 := rep_len (.slice none 0 0) 24
  have h3 := rep_len (.int .i64 0) 24
  unfold initW
  refine ⟨by simp only [List.length_append, h1, h2, h3]; rfl, fun q hq => ?_, ?_, ?_, fun q hq => ?_⟩
  · rw [List.getElem?_append_right (by omega), h1, List.getElem?_append_left (by omega), show 800 + q - 800 = q from by omega]
    exact rep_get _ 24 q hq
  · rw [List.getElem?_append_right (by omega), h1, List.getElem?_append_right (by omega), h2]; rfl
  · rw [List.getElem?_append_right (by omega), h1, List.getElem?_append_right (by omega), h2]; rfl
  · rw [List.getElem?_append_right (by omega), h1, List.getElem?_append_right (by omega), h2, List.getElem?_append_right (by simp; omega)]
    simp only [List.length_cons, List.length_nil]
    rw [show 826 + q - 800 - 24 - (0 + 1 + 1) = q from by omega]
    exact rep_get _ 24 q hq
theorem build155 (s t : Nat) : aBuild T0 155 [(2, .int .i64 (s : Nat)), (3, .int .i64 (t : Nat))] = some (.agg ⟨initW s t⟩) := by kernel_rfl
def Fg (G : Nat → List Nat) : Nat → Option Fld := fun o => if 800 ≤ o ∧ o < 824 then some ⟨(G (o - 800)).length, natsV (G (o - 800)), 3, 1⟩ else none
structure LayW (W : AW) (p : Nat) (col : Nat → Nat) (G : Nat → List Nat) (L : List Stp) (m s t : Nat) : Prop where
  ex : ∃ c, GObj W p 850 155 col (Fg G) c ∧ (∀ h, h < m → c.get (2 * h) = some (.int .i64 (hTo L h : Nat)) ∧ c.get (2 * h + 1) = some (.int .i64 (hCap L h))) ∧
    c.get 824 = some (.int .i64 (s : Nat)) ∧ c.get 825 = some (.int .i64 (t : Nat)) ∧ ∀ q, q < 24 → c.get (826 + q) = some (.int .i64 ((0 : Nat) : Int))
theorem gobj_congr {W : AW} {p N : Nat} {ST : TypeId} {col : Nat → Nat} {F F' : Nat → Option Fld} {c : Tr Value} (h : GObj W p N ST col F c) (he : ∀ o, F' o = F o) : GObj W p N ST col F' c :=
  ⟨h.blk, fun o fl hf => h.fld o fl (by rw [← he]; exact hf), h.cp, h.lt⟩
theorem LayW.only {W W' : AW} {p : Nat} {col : Nat → Nat} {G : Nat → List Nat} {L : List Stp} {m s t : Nat} {K : Nat → Prop} (h : LayW W p col G L m s t) (ho : Only K W W') (hk : ∀ b, b < W.next → col b ≠ 0 → ¬ K b) : LayW W' p col G L m s t := by
  obtain ⟨c, h1, h2⟩ := h.ex
  exact ⟨c, h1.only ho hk, h2⟩
theorem LayW.src {W : AW} {p : Nat} {col : Nat → Nat} {G : Nat → List Nat} {L : List Stp} {m s t : Nat} (h : LayW W p col G L m s t) : W.Has p 824 (.int .i64 (s : Nat)) := by
  obtain ⟨c, h1, _, h3, _⟩ := h.ex
  exact ⟨h1.lt p (by rw [h1.cp]; omega), by simp only [AW.cell, h1.blk, blt_dec]; exact h3⟩
theorem LayW.half {W : AW} {p : Nat} {col : Nat → Nat} {G : Nat → List Nat} {L : List Stp} {m s t : Nat} (h : LayW W p col G L m s t) (hm : m < 400) :
    ∃ W', aStoreVar T0 W 151 p (2 * m) (.agg ⟨[.int .i64 (hTo L m : Nat), .int .i64 (hCap L m)]⟩) = some W' ∧ W'.next = W.next ∧ Only (fun b => b = p) W W' ∧ LayW W' p col G L (m + 1) s t := by
  obtain ⟨c, h1, h2, h3, h4, h5⟩ := h.ex
  have hpl := h1.lt p (by rw [h1.cp]; omega)
  obtain ⟨W', a1, a2, a3, a4⟩ := storeVar_own (T := T0) (t := 151) (v := .agg ⟨[.int .i64 (hTo L m : Nat), .int .i64 (hCap L m)]⟩) (o := 2 * m) inf151 (by rw [is151]; rfl) h1.blk (by show 2 * m + 2 ≤ 850; omega) rfl
  have hO : Only (fun b => b = p) W W' := ⟨by omega, fun b _ hb => a3 b hb⟩
  have hg : ∀ j, (c.lay (2 * m) (acells (.agg ⟨[.int .i64 (hTo L m : Nat), .int .i64 (hCap L m)]⟩))).get j = if 2 * m ≤ j ∧ j < 2 * m + 2 then [Value.int .i64 (hTo L m : Nat), .int .i64 (hCap L m)][j - 2 * m]? else c.get j := fun j => by
    rw [Tr.get_lay]; rfl
  refine ⟨W', a1, a2, hO, ⟨_, ⟨a4, fun o fl hf => ?_, h1.cp, fun b hb => by rw [a2]; exact h1.lt b hb⟩, fun y hy => ?_, ?_, ?_, fun q hq => ?_⟩⟩
  · obtain ⟨g1, v, g2, g3⟩ := h1.fld o fl hf
    have ho : 800 ≤ o := by unfold Fg at hf; split at hf; omega; cases hf
    refine ⟨g1, v, by rw [hg, if_neg (by omega)]; exact g2, g3.only hO (fun b _ hc e => by subst e; rw [h1.cp] at hc; omega)⟩
  · by_cases e : y = m
    · subst e
      rw [hg, hg, if_pos (by omega), if_pos (by omega), Nat.sub_self, show 2 * y + 1 - 2 * y = 1 from by omega]
      exact ⟨rfl, rfl⟩
    · rw [hg, hg, if_neg (by omega), if_neg (by omega)]
      exact h2 y (by omega)
  · rw [hg, if_neg (by omega)]; exact h3
  · rw [hg, if_neg (by omega)]; exact h4
  · rw [hg, if_neg (by omega)]; exact h5 q hq
theorem LayW.push {W : AW} {p : Nat} {col : Nat → Nat} {G : Nat → List Nat} {L : List Stp} {m s t : Nat} (h : LayW W p col G L m s t) {q x : Nat} (hq : q < 24) (hn : (G q).length ≤ 1000) (hm : m ≤ 400) :
    ∃ v v' W4 W5, W.Has p (800 + q) v ∧ aAppend T0 (W.newCells 3 [.int .i64 (x : Nat)]) [46, 46] [v, .slice (some ⟨W.next, 0, none⟩) 1 2] = some (v', W4) ∧ aStoreVar T0 W4 46 p (800 + q) v' = some W5 ∧ W4.next = W.next + 2 ∧ W5.next = W.next + 2 ∧ Only (fun b => col b ≠ 0 ∧ b ≠ p) W W4 ∧ Only (fun b => col b ≠ 0) W W5 ∧
      (∃ A c, v = .slice A (G q).length c) ∧ LayW W5 p (fun b => if b = W.next + 1 then (800 + q) + 1 else col b) (upd G q (G q ++ [x])) L m s t := by
  obtain ⟨c, h1, h2, h3, h4, h5⟩ := h.ex
  have hF : Fg G (800 + q) = some ⟨(G q).length, natsV (G q), 3, 1⟩ := by unfold Fg; rw [if_pos (by omega), show 800 + q - 800 = q from by omega]
  obtain ⟨g1, v, g2, g3⟩ := h1.fld _ _ hF
  obtain ⟨v', W4, W5, a1, a2, a3, a4, a5, a6, a7⟩ := h1.push (T := T0) (t := 46) (i := Tryd.t3) (it := Tryd.t46) (z := .int .i64 0) (o := 800 + q) hF Nat.zero_lt_one und46 inf3 is3 z3 rfl inf46 is46 (u := [.int .i64 (x : Nat)]) rfl rfl (by rw [by3]; show 2 * ((G q).length + 1) * 8 ≤ _; omega) (by show (G q).length + 1 ≤ _; omega) g2
  have a1 : aAppend T0 (W.newCells 3 [.int .i64 (x : Nat)]) [46, 46] [v, .slice (some ⟨W.next, 0, none⟩) 1 2] = some (v', W4) := a1
  have hpl := h1.lt p (by rw [h1.cp]; omega)
  refine ⟨v, v', W4, W5, ⟨hpl, by simp only [AW.cell, h1.blk, blt_dec, show 800 + q < 850 from by omega, decide_true]; exact g2⟩, a1, a2, a3, a4, a5, a7.mono (fun b _ hb => ?_), g3.len, ⟨c.set (800 + q) v', gobj_congr a6 (fun o => ?_), fun y hy => ?_, ?_, ?_, fun z hz => ?_⟩⟩
  · rcases hb with hb | hb
    · omega
    · subst hb; rw [h1.cp]; omega
  · unfold Fg
    by_cases e : o = 800 + q
    · subst e
      rw [if_pos (by omega), if_pos rfl, show 800 + q - 800 = q from by omega]
      have : upd G q (G q ++ [x]) q = G q ++ [x] := by unfold upd; rw [if_pos rfl]
      rw [this, List.length_append]
      simp [natsV]
    · rw [if_neg e]
      by_cases e2 : 800 ≤ o ∧ o < 824
      · rw [if_pos e2, if_pos e2]
        have : upd G q (G q ++ [x]) (o - 800) = G (o - 800) := by unfold upd; rw [if_neg (by omega)]
        rw [this]
      · rw [if_neg e2, if_neg e2]
  · rw [Tr.get_set, Tr.get_set, if_neg (by omega), if_neg (by omega)]; exact h2 y hy
  · rw [Tr.get_set, if_neg (by omega)]; exact h3
  · rw [Tr.get_set, if_neg (by omega)]; exact h4
  · rw [Tr.get_set, if_neg (by omega)]; exact h5 z hz
def layL (from_ src : Nat) (l : List Quad) : List Stp := l.map fun a => ⟨atP from_ src a.1.toNat, atP from_ src a.2.1.toNat, a.2.2.1, a.2.2.2⟩
theorem stp_lay {from_ src : Nat} {l : List Quad} {i : Nat} {a : Quad} (h : l[i]? = some a) : stp (layL from_ src l) i = ⟨atP from_ src a.1.toNat, atP from_ src a.2.1.toNat, a.2.2.1, a.2.2.2⟩ := by
  unfold stp layL; rw [List.getElem?_map, h]; rfl
theorem atP_lt {from_ src q : Nat} (hs : src < 24) (hq : q < 24) : atP from_ src q < 24 := by unfold atP; split <;> assumption
theorem layL_ok {P : Int} {l : List Quad} (h : PlanIn P l) {from_ src : Nat} (hs : src < 24) : StpsOk (layL from_ src l) := by
  obtain ⟨h2, h24, h200⟩ := h.size
  refine ⟨by simp [layL]; omega, fun i hi => ?_⟩
  have hi' : i < l.length := by simpa [layL] using hi
  rw [stp_lay (List.getElem?_eq_getElem hi')]
  have := h.step (List.getElem_mem hi')
  generalize l[i] = a at this
  obtain ⟨a1, a2, c, d⟩ := a
  simp only at this ⊢
  exact ⟨atP_lt hs (by omega), atP_lt hs (by omega), by omega, by omega, by omega, by omega⟩
theorem cap_rooms {L : List Stp} (h : StpsOk L) : Rooms L (hCap L) := ⟨fun y hy => (h.to hy).2.2.1, fun _ _ => rfl⟩
theorem tabs_ext {W W' : AW} (h : tabsIn T0 T0.tabs W = true) (h0 : 0 < W.next) (he : Ext W W') : tabsIn T0 T0.tabs W' = true := tabsIn_only h (fun t ht => he.2 t.name (by rw [tabs_name t ht]; exact h0) (fun x => x))
theorem build151 (x y : Int) : aBuild T0 151 [(0, .int .i64 x), (1, .int .i64 y)] = some (.agg ⟨[.int .i64 x, .int .i64 y]⟩) := by kernel_rfl
theorem fill46 (x : Int) : aFill (fun j => some (j, 1)) [.int .i64 0] [(0, .int .i64 x)] = some [.int .i64 x] := by kernel_rfl
theorem rep3 : rep [Value.int .i64 0] 1 = [.int .i64 0] := rfl
theorem lay_wp {W : AW} {t : TypeId} {r : Value} {fz fs : FuncId} {P : Int} {l : List Quad} (h : PlanOf W t r fz fs P l) (hP : PlanIn P l) {from_ src to : Nat} (hf : from_ < 18446744073709551616) (hs1 : from_.testBit src = true) (hs2 : ∀ j, j < src → from_.testBit j = false) (hs : src < 24) (hto : to < 24)
    (hT : tabsIn T0 T0.tabs W = true) (h0 : 0 < W.next) :
    WpF T0 53 [.iface t r, .int .u64 (from_ : Nat), .int .i64 (to : Nat)] W (fun v W' => Ext W W' ∧ ∃ p B, v = .pointer (some ⟨p, 0, none⟩) ∧ W.next ≤ p ∧ Wk W' p B (layL from_ src l) src to (hCap (layL from_ src l)) (fun _ => 0)) := by
  obtain ⟨fnz, hfz⟩ := h.hfz
  obtain ⟨fns, hfs⟩ := h.hfs
  have hnz := h.nz
  have hns := h.ns
  obtain ⟨hP2, hP24, hl200⟩ := hP.size
  have hL := layL_ok hP (from_ := from_) hs
  have hLlen : (layL from_ src l).length = l.length := by simp [layL]
  refine wpF fun53 rfl ?_
  obtain ⟨W1, hW1, hE1, hn1, hVF⟩ : ∃ W1, W1 = W.newCells 115 [.int .u64 (from_ : Nat)] ∧ Ext W W1 ∧ W1.next = W.next + 1 ∧ Var W1 W.next 115 [.int .u64 (from_ : Nat)] := ⟨_, rfl, .newCells _ _ _, rfl, Var.new _ _ _⟩
  have lF := hVF.load1 (T := T0) und115 rfl (j := 0) (v := .int .u64 (from_ : Nat)) rfl
  obtain ⟨i1, i2, i3, i4, i5⟩ := initW_get src to
  obtain ⟨W2, hW2, hE2, hn2, hV2⟩ : ∃ W2, W2 = W1.newCells 155 (initW src to) ∧ Ext W1 W2 ∧ W2.next = W.next + 2 ∧ Var W2 (W.next + 1) 155 (initW src to) := ⟨_, rfl, .newCells _ _ _, by rw [newCells_next, hn1], by rw [← hn1]; exact Var.new _ _ _⟩
  obtain ⟨W3, s1, s2, hE3, hVW⟩ := storeVar_new (T := T0) (W := W2) (t := 113) (v := .pointer (some ⟨W.next + 1, 0, none⟩)) (z := [.pointer none]) inf113 (by rw [is113]; rfl) (by rw [is113]; rfl) rfl
  have hVW : Var W3 (W.next + 2) 113 [.pointer (some ⟨W.next + 1, 0, none⟩)] := by rw [← hn2]; exact hVW
  try simp only [wpK_assoc]
  refine wpK_reg (fun R hR => by simp; rw [← hW1]; exact hR) ?_
  try simp only [wpK_assoc]
  refine wpK_regc (J := fun A' W' => W' = W3 ∧ A'.n = 97 ∧ A'.defers = [] ∧ A'.tmps.get 0 = some (.iface t r) ∧ A'.tmps.get 4 = some (.pointer (some ⟨W.next, 0, none⟩)) ∧ A'.tmps.get 7 = some (.pointer (some ⟨W.next + 2, 0, none⟩))) (fun R hR => ?_) ?_
  · simp [lF, aEnter, fun75, short_other, aCallV]
    rw [callS_none]
    refine (first_wp (tabs_ext hT h0 hE1) hf hs1 hs2).mono ?_
    rintro _ W' ⟨rfl, rfl⟩
    simp [build155, zero113]
    rw [← hW2]
    simp [hn1, hn2] at s1 ⊢
    simp [s1]
    apply hR
    exact ⟨rfl, rfl, rfl, by simp, by simp, by simp⟩
  rintro ⟨tm, n, ds⟩ W3' ⟨rfl, hn, hd, t0, t4, t7⟩
  simp only at hn hd t0 t4 t7
  subst hn; subst hd
  try simp only [wpK_assoc]
  refine wpK_reg (fun R hR => by simp [t4, t7, opMakeFunc]; exact hR) ?_
  have hE03 : Ext W W3' := (hE1.trans hE2).trans hE3
  try simp only [wpK_assoc]
  refine wpK_regc (J := fun A' W' => Ext W3' W' ∧ A'.n = 97 ∧ A'.defers = [] ∧ A'.tmps.get 0 = some (.iface t r) ∧ A'.tmps.get 4 = some (.pointer (some ⟨W.next, 0, none⟩)) ∧ A'.tmps.get 7 = some (.pointer (some ⟨W.next + 2, 0, none⟩)) ∧ A'.tmps.get 8 = some (.func (.func 76) ⟨[]⟩ ⟨[.pointer (some ⟨W.next, 0, none⟩), .pointer (some ⟨W.next + 2, 0, none⟩)]⟩) ∧ A'.tmps.get 10 = some (.int .i64 l.length)) (fun R hR => ?_) ?_
  · simp [t0, aCallI, h.meth, aMeth, hfz, short_other hnz]
    rw [callS_none]
    refine (h.size W3' hE03).mono ?_
    rintro _ W' ⟨hE, rfl⟩
    simp
    apply hR
    exact ⟨hE, rfl, rfl, by simp [t0], by simp [t4], by simp [t7], by simp, by simp⟩
  rintro ⟨tm, n, ds⟩ W4 ⟨hE4, hn, hd, t0, t4, t7, t8, t10⟩
  simp only at hn hd t0 t4 t7 t8 t10
  subst hn; subst hd
  try simp only [wpK_assoc]
  refine wpK_reg (fun R hR => by simp [t10]; exact hR) ?_
  have hn3 : W3'.next = W.next + 3 := by omega
  have hLay0 : LayW W4 (W.next + 1) (fun b => if b = W.next + 1 then 851 else 0) (fun q => outsL (layL from_ src l) q 0) (layL from_ src l) 0 src to := by
    have hV4 := (hV2.ext hE3).ext hE4
    obtain ⟨v1, c, v2, v3⟩ := hV4
    rw [i1] at v2 v3
    refine ⟨c, ⟨v2, fun o fl hf => ?_, by simp, fun b hb => ?_⟩, fun y hy => by omega, by rw [v3 _ (by omega)]; exact i3, by rw [v3 _ (by omega)]; exact i4, fun q hq => by rw [v3 _ (by omega)]; exact i5 q hq⟩
    · unfold Fg at hf
      split at hf
      · rename_i ho
        cases hf
        refine ⟨by omega, .slice none 0 0, ?_, ?_⟩
        · rw [v3 _ (by omega)]
          have := i2 (o - 800) (by omega)
          rwa [show 800 + (o - 800) = o from by omega] at this
        · exact .nil _ _ _ _
      · cases hf
    · have hb : (if b = W.next + 1 then 851 else 0) ≠ 0 := hb
      split at hb
      · have := hE4.1; omega
      · exact absurd rfl hb
  try simp only [wpK_assoc]
  refine wpK_while (I := fun k A' W' => A'.n = 97 ∧ A'.defers = [] ∧ A'.tmps.get 0 = some (.iface t r) ∧ A'.tmps.get 7 = some (.pointer (some ⟨W.next + 2, 0, none⟩)) ∧ A'.tmps.get 8 = some (.func (.func 76) ⟨[]⟩ ⟨[.pointer (some ⟨W.next, 0, none⟩), .pointer (some ⟨W.next + 2, 0, none⟩)]⟩) ∧ A'.tmps.get 27 = some (.int .i64 l.length) ∧
      Ext W W' ∧ Var W' W.next 115 [.int .u64 (from_ : Nat)] ∧ Var W' (W.next + 2) 113 [.pointer (some ⟨W.next + 1, 0, none⟩)] ∧ ∃ (i : Nat) (col : Nat → Nat), k = l.length - i ∧ i ≤ l.length ∧ A'.tmps.get 28 = some (.int .i64 i) ∧ (∀ b, col b ≠ 0 → W.next ≤ b) ∧ col W.next = 0 ∧ col (W.next + 2) = 0 ∧ LayW W' (W.next + 1) col (fun q => outsL (layL from_ src l) q i) (layL from_ src l) (2 * i) src to)
    (J := fun A' W' => A'.n = 97 ∧ A'.defers = [] ∧ A'.tmps.get 7 = some (.pointer (some ⟨W.next + 2, 0, none⟩)) ∧ Ext W W' ∧ Var W' (W.next + 2) 113 [.pointer (some ⟨W.next + 1, 0, none⟩)] ∧ ∃ col, LayW W' (W.next + 1) col (fun q => outsL (layL from_ src l) q l.length) (layL from_ src l) (2 * l.length) src to)
    (Rt := fun _ _ => False) (k := l.length) ?_ ?_ ?_ ?_
  · exact ⟨rfl, rfl, by simp [t0], by simp [t7], by simp [t8], by simp, hE03.trans hE4, ((hVF.ext hE2).ext hE3).ext hE4, hVW.ext hE4, 0, _, by simp, by simp, by simp, fun b hb => by
      have hb : (if b = W.next + 1 then 851 else 0) ≠ 0 := hb
      split at hb
      · omega
      · exact absurd rfl hb, by simp, by simp, hLay0⟩
  · clear hLay0 hE4 t0 t4 t7 t8 t10 hE03 hVW hE3 s1 s2 hV2 hE2 hVF hE1 lF hW1 hW2
    rintro k ⟨tm, n, ds⟩ W5 ⟨hn, hd, t0, t7, t8, t27, hE5, hVF, hVW, i, col, hk, hi, t28, hcol, hc1, hc2, hLay⟩ Q' hJ hRt hI
    simp only at hn hd t0 t7 t8 t27 t28
    subst hn; subst hd
    try simp only [wpK_assoc]
    refine wpK_reg (fun R hR => by simp [t27, t28]; exact hR) ?_
    by_cases hlt : i < l.length
    · refine wpK_onT (by simp [hlt]) ?_
      have ha : l[i]? = some l[i] := List.getElem?_eq_getElem hlt
      have hm : l[i] ∈ l := List.getElem_mem hlt
      generalize l[i] = a at ha hm
      have hst := hP.step hm
      have hstp := stp_lay (from_ := from_) (src := src) ha
      obtain ⟨a1, a2, c, d⟩ := a
      simp only at hst hstp
      obtain ⟨a1, rfl⟩ : ∃ a' : Nat, a1 = a' := ⟨a1.toNat, by omega⟩
      obtain ⟨a2, rfl⟩ : ∃ a' : Nat, a2 = a' := ⟨a2.toNat, by omega⟩
      simp only [Int.toNat_natCast] at hstp
      have hx24 := atP_lt (from_ := from_) hs (show a1 < 24 by omega)
      have hy24 := atP_lt (from_ := from_) hs (show a2 < 24 by omega)
      have hat1 : ∀ W', W'.Has W.next 0 (.int .u64 (from_ : Nat)) → W'.Has (W.next + 2) 0 (.pointer (some ⟨W.next + 1, 0, none⟩)) → W'.Has (W.next + 1) 824 (.int .i64 (src : Nat)) → WpF T0 76 [.int .i64 (a1 : Nat), .pointer (some ⟨W.next, 0, none⟩), .pointer (some ⟨W.next + 2, 0, none⟩)] W' (fun v W'' => W'' = W' ∧ v = .int .i64 (atP from_ src a1 : Nat)) := fun W' g1 g2 g3 => at_wp hf (by omega) g1 g2 g3
      have hat2 : ∀ W', W'.Has W.next 0 (.int .u64 (from_ : Nat)) → W'.Has (W.next + 2) 0 (.pointer (some ⟨W.next + 1, 0, none⟩)) → W'.Has (W.next + 1) 824 (.int .i64 (src : Nat)) → WpF T0 76 [.int .i64 (a2 : Nat), .pointer (some ⟨W.next, 0, none⟩), .pointer (some ⟨W.next + 2, 0, none⟩)] W' (fun v W'' => W'' = W' ∧ v = .int .i64 (atP from_ src a2 : Nat)) := fun W' g1 g2 g3 => at_wp hf (by omega) g1 g2 g3
      generalize atP from_ src a1 = x at hstp hx24 hat1
      generalize atP from_ src a2 = y at hstp hy24 hat2
      generalize hLL : layL from_ src l = L at hstp hLay hJ hI hL hLlen
      have hto0 : hTo L (2 * i) = y ∧ hCap L (2 * i) = c := by unfold hTo hCap; rw [if_pos (by omega), if_pos (by omega), show 2 * i / 2 = i from by omega, hstp]; exact ⟨rfl, rfl⟩
      have hto1 : hTo L (2 * i + 1) = x ∧ hCap L (2 * i + 1) = d := by unfold hTo hCap; rw [if_neg (by omega), if_neg (by omega), show (2 * i + 1) / 2 = i from by omega, hstp]; exact ⟨rfl, rfl⟩
      have hGG : ∀ q, outsL L q (i + 1) = upd (upd (fun q => outsL L q i) x (outsL L x i ++ [2 * i])) y (upd (fun q => outsL L q i) x (outsL L x i ++ [2 * i]) y ++ [2 * i + 1]) q := by
        intro q
        rw [outsL, hstp]
        unfold outs1 upd
        by_cases e1 : q = y
        · by_cases e2 : y = x
          · subst e1; subst e2; simp
          · subst e1
            simp only [if_true, if_neg e2, if_neg (fun e : x = q => e2 e.symm), List.nil_append]
        · by_cases e2 : q = x
          · subst e2; simp only [if_true, if_neg e1, if_neg (fun e : y = q => e1 e.symm), List.append_nil]
          · simp only [if_neg e1, if_neg e2, if_neg (fun e : x = q => e2 e.symm), if_neg (fun e : y = q => e1 e.symm), List.append_nil]
      obtain ⟨y0, hy0⟩ : ∃ y0, y0 = 2 * i := ⟨_, rfl⟩
      rw [← hy0] at hto0 hto1 hGG hLay
      have hwm : IntKind.i64.wrap (2 * (i : Int)) = (y0 : Int) := by rw [IntWalk.i64_in _ (by omega)]; omega
      have hwa : IntKind.i64.wrap ((y0 : Int) + 1) = ((y0 + 1 : Nat) : Int) := i64_succ _ (by omega)
      refine wpK_block ?_
      try simp only [wpK_assoc]
      refine wpK_reg (fun R hR => by simp [t28]; exact hR) ?_
      try simp only [wpK_assoc]
      refine wpK_regc (J := fun A' W' => Ext W5 W' ∧ A'.n = 97 ∧ A'.defers = [] ∧ A'.tmps.get 0 = some (.iface t r) ∧ A'.tmps.get 7 = some (.pointer (some ⟨W.next + 2, 0, none⟩)) ∧ A'.tmps.get 8 = some (.func (.func 76) ⟨[]⟩ ⟨[.pointer (some ⟨W.next, 0, none⟩), .pointer (some ⟨W.next + 2, 0, none⟩)]⟩) ∧ A'.tmps.get 27 = some (.int .i64 l.length) ∧ A'.tmps.get 28 = some (.int .i64 i) ∧ A'.tmps.get 11 = some (.int .i64 i) ∧
        A'.tmps.get 12 = some (.int .i64 (a1 : Nat)) ∧ A'.tmps.get 13 = some (.int .i64 (a2 : Nat)) ∧ A'.tmps.get 14 = some (.int .i64 c) ∧ A'.tmps.get 15 = some (.int .i64 d)) (fun R hR => ?_) ?_
      · simp [t0, aCallI, h.meth, aMeth, hfs, short_other hns]
        rw [callS_none]
        refine (h.step W5 hE5 i _ ha).mono ?_
        rintro _ W' ⟨hE, rfl⟩
        simp [tupQ]
        apply hR
        exact ⟨hE, rfl, rfl, by simp [t0], by simp [t7], by simp [t8], by simp [t27], by simp [t28], by simp, by simp, by simp, by simp, by simp⟩
      rintro ⟨tm, n, ds⟩ W6 ⟨hE6, hn, hd, t0, t7, t8, t27, t28, t11, t12, t13, t14, t15⟩
      simp only at hn hd t0 t7 t8 t27 t28 t11 t12 t13 t14 t15
      subst hn; subst hd
      have hVF6 := hVF.ext hE6
      have hVW6 := hVW.ext hE6
      have hLay6 := hLay.only hE6 (fun _ _ _ x => x)
      try simp only [wpK_assoc]
      refine wpK_regc (J := fun A' W' => W' = W6 ∧ A'.n = 97 ∧ A'.defers = [] ∧ A'.tmps.get 0 = some (.iface t r) ∧ A'.tmps.get 7 = some (.pointer (some ⟨W.next + 2, 0, none⟩)) ∧ A'.tmps.get 8 = some (.func (.func 76) ⟨[]⟩ ⟨[.pointer (some ⟨W.next, 0, none⟩), .pointer (some ⟨W.next + 2, 0, none⟩)]⟩) ∧ A'.tmps.get 27 = some (.int .i64 l.length) ∧ A'.tmps.get 28 = some (.int .i64 i) ∧ A'.tmps.get 11 = some (.int .i64 i) ∧
        A'.tmps.get 12 = some (.int .i64 (x : Nat)) ∧ A'.tmps.get 13 = some (.int .i64 (y : Nat)) ∧ A'.tmps.get 14 = some (.int .i64 c) ∧ A'.tmps.get 15 = some (.int .i64 d)) (fun R hR => ?_) ?_
      · simp [t8, t12, aEnter, fun76, short_other, aCallV]
        rw [callS_none]
        refine (hat1 W6 (hVF6.has rfl) (hVW6.has rfl) hLay6.src).mono ?_
        rintro _ W' ⟨rfl, rfl⟩
        simp [t8, t13, aEnter, fun76, short_other, aCallV]
        rw [callS_none]
        refine (hat2 W' (hVF6.has rfl) (hVW6.has rfl) hLay6.src).mono ?_
        rintro _ W'' ⟨rfl, rfl⟩
        simp
        apply hR
        exact ⟨rfl, rfl, rfl, by simp [t0], by simp [t7], by simp [t8], by simp [t27], by simp [t28], by simp [t11], by simp, by simp, by simp [t14], by simp [t15]⟩
      rintro ⟨tm, n, ds⟩ W6' ⟨rfl, hn, hd, t0, t7, t8, t27, t28, t11, t12, t13, t14, t15⟩
      simp only at hn hd t0 t7 t8 t27 t28 t11 t12 t13 t14 t15
      subst hn; subst hd
      -- the halves
      have lW6 := hVW6.load1 (T := T0) und113 rfl (j := 0) (v := .pointer (some ⟨W.next + 1, 0, none⟩)) rfl
      obtain ⟨W7, b1, b2, b3, hLay7⟩ := hLay6.half (by omega)
      rw [hto0.1, hto0.2] at b1
      have hVF7 := hVF6.only b3 (show ¬ W.next = W.next + 1 by omega)
      have hVW7 := hVW6.only b3 (show ¬ W.next + 2 = W.next + 1 by omega)
      have lW7 := hVW7.load1 (T := T0) und113 rfl (j := 0) (v := .pointer (some ⟨W.next + 1, 0, none⟩)) rfl
      obtain ⟨W8, d1, d2, d3, hLay8⟩ := hLay7.half (by omega)
      rw [hto1.1, hto1.2] at d1
      have hVF8 := hVF7.only d3 (show ¬ W.next = W.next + 1 by omega)
      have hVW8 := hVW7.only d3 (show ¬ W.next + 2 = W.next + 1 by omega)
      have ixa := ix152 (W.next + 1) 0 y0 (by omega)
      have ixb := ix152 (W.next + 1) 0 (y0 + 1) (by omega)
      simp only [Nat.zero_add, Nat.mul_comm _ 2] at ixa ixb
      generalize hy1 : y0 + 1 = y1 at hwa ixb d1 hLay7 hLay8 hGG
      try simp only [wpK_assoc]
      refine wpK_reg (fun R hR => by simp [t7, t11, t13, t14, lW6, nilck, aBinI_mul, hwm, build151, ixa, b1]; exact hR) ?_
      try simp only [wpK_assoc]
      refine wpK_reg (fun R hR => by simp [t7, t11, t12, t15, lW7, nilck, aBinI_mul, hwm, hwa, build151, ixb, d1]; exact hR) ?_
      -- out[x]
      have hol1 := outsL_len L x i
      obtain ⟨v, v', W9, W10, p1, p2, p3, p4, p5, p6, p7, ⟨Av, cv, rfl⟩, hLay10⟩ := hLay8.push (x := y0) hx24 (by show (outsL L x i).length ≤ 1000; omega) (by omega)
      have lW8 := hVW8.load1 (T := T0) und113 rfl (j := 0) (v := .pointer (some ⟨W.next + 1, 0, none⟩)) rfl
      have lW8n := (hVW8.ext (.newCells W8 3 [.int .i64 (y0 : Nat)])).load1 (T := T0) und113 rfl (j := 0) (v := .pointer (some ⟨W.next + 1, 0, none⟩)) rfl
      have lW9 := (hVW8.only p6 (fun e => e.1 hc2)).load1 (T := T0) und113 rfl (j := 0) (v := .pointer (some ⟨W.next + 1, 0, none⟩)) rfl
      have lv8 := load_of und46 rfl p1
      have lv8n := load_of und46 rfl (p1.ext (.newCells W8 3 [.int .i64 (y0 : Nat)]))
      have ixx := ix153 (W.next + 1) 800 x hx24
      have hfr := freshB_new W8 3 [.int .i64 (y0 : Nat)] (by simp [listEq, valEq])
      have hVF10 := hVF8.only p7 (fun e => e hc1)
      have hVW10 := hVW8.only p7 (fun e => e hc2)
      try simp only [wpK_assoc]
      refine wpK_dr (wr := Tr.nil |>.set 64 0 |>.set 65 1 |>.set 66 2 |>.set 67 3 |>.set 68 4 |>.set 69 5 |>.set 70 6 |>.set 71 7 |>.set 72 8 |>.set 73 9 |>.set 74 10 |>.set 75 11 |>.set 76 12 |>.set 77 13 |>.set 78 14) (bits := Tr.nil.lay 0 [0, 0, 0, 0, 4, 20, 60, 124, 0, 256, 768, 2044, 1, 4097, 16383, 32767]) (ord := [0, 1, 2, 3, 4, 5, 6, 7, 8, 9, 10, 12, 13, 11, 14, 15])
        (J := fun A' W' => W' = W10 ∧ A'.n = 97 ∧ A'.defers = [] ∧ A'.tmps.get 0 = some (.iface t r) ∧ A'.tmps.get 7 = some (.pointer (some ⟨W.next + 2, 0, none⟩)) ∧ A'.tmps.get 8 = some (.func (.func 76) ⟨[]⟩ ⟨[.pointer (some ⟨W.next, 0, none⟩), .pointer (some ⟨W.next + 2, 0, none⟩)]⟩) ∧ A'.tmps.get 27 = some (.int .i64 l.length) ∧ A'.tmps.get 28 = some (.int .i64 i) ∧ A'.tmps.get 11 = some (.int .i64 i) ∧ A'.tmps.get 13 = some (.int .i64 (y : Nat)))
        (by kernel_rfl) (by kernel_rfl) (by kernel_rfl) (fun G hGG => ?_) ?_
      · simp [t7, t11, t12, lW8, lW8n, lW9, nilck, aBinI_mul, hwm, ixx, lv8, lv8n, aFlt, inf3, z3, is3, rep3, fill46, AFlt.val, p2, p3, p4, p5, hfr, newCells_next]
        apply hGG
        exact ⟨rfl, rfl, rfl, by simp [t0], by simp [t7], by simp [t8], by simp [t27], by simp [t28], by simp [t11], by simp [t13]⟩
      rintro ⟨tm, n, ds⟩ W10' ⟨rfl, hn, hd, t0, t7, t8, t27, t28, t11, t13⟩
      simp only at hn hd t0 t7 t8 t27 t28 t11 t13
      subst hn; subst hd
      -- out[y]
      have hc10 : (fun b => if b = W8.next + 1 then (800 + x) + 1 else col b) (W.next + 2) = 0 ∧ (fun b => if b = W8.next + 1 then (800 + x) + 1 else col b) W.next = 0 := by
        have := hVW8.1
        exact ⟨by simp only [if_neg (show ¬ W.next + 2 = W8.next + 1 by omega)]; exact hc2, by simp only [if_neg (show ¬ W.next = W8.next + 1 by omega)]; exact hc1⟩
      have hcol10 : ∀ b, (fun b => if b = W8.next + 1 then (800 + x) + 1 else col b) b ≠ 0 → W.next ≤ b := fun b hb => by
        have := hVW8.1
        simp only at hb
        split at hb
        · omega
        · exact hcol b hb
      have hO610 : ∀ b, b < W.next → W10'.blocks.get b = W6'.blocks.get b := fun b hb => by
        have := hVW8.1
        have := hVW7.1
        have := hVW6.1
        rw [p7.2 b (by omega) (fun e => by have := hcol b e; omega), d3.2 b (by omega) (by omega), b3.2 b (by omega) (by omega)]
      clear lW8 lW8n lW9 lv8 lv8n hfr lW6 lW7 hLay8 hLay7 hLay6
      generalize (fun b => if b = W8.next + 1 then (800 + x) + 1 else col b) = col2 at hLay10 hc10 hcol10
      have hol2 : (upd (fun q => outsL L q i) x (outsL L x i ++ [y0]) y).length ≤ 1000 := by
        have := outsL_len L y i
        unfold upd; split
        · simp; omega
        · show (outsL L y i).length ≤ 1000; omega
      obtain ⟨v2, v2', W11, W12, q1, q2, q3, q4, q5, q6, q7, ⟨Aw, cw, rfl⟩, hLay12⟩ := hLay10.push (x := y1) hy24 hol2 (by omega)
      have lX8 := hVW10.load1 (T := T0) und113 rfl (j := 0) (v := .pointer (some ⟨W.next + 1, 0, none⟩)) rfl
      have lX8n := (hVW10.ext (.newCells W10' 3 [.int .i64 (y1 : Nat)])).load1 (T := T0) und113 rfl (j := 0) (v := .pointer (some ⟨W.next + 1, 0, none⟩)) rfl
      have lX9 := (hVW10.only q6 (fun e => e.1 hc10.1)).load1 (T := T0) und113 rfl (j := 0) (v := .pointer (some ⟨W.next + 1, 0, none⟩)) rfl
      have lw8 := load_of und46 rfl q1
      have lw8n := load_of und46 rfl (q1.ext (.newCells W10' 3 [.int .i64 (y1 : Nat)]))
      have ixy := ix153 (W.next + 1) 800 y hy24
      have hfr2 := freshB_new W10' 3 [.int .i64 (y1 : Nat)] (by simp [listEq, valEq])
      have hVF12 := hVF10.only q7 (fun e => e hc10.2)
      have hVW12 := hVW10.only q7 (fun e => e hc10.1)
      try simp only [wpK_assoc]
      refine wpK_dr1 (wr := Tr.nil |>.set 79 0 |>.set 80 1 |>.set 81 2 |>.set 82 3 |>.set 83 4 |>.set 84 5 |>.set 85 6 |>.set 86 7 |>.set 87 8 |>.set 88 9 |>.set 89 10 |>.set 90 11 |>.set 91 12 |>.set 92 13 |>.set 93 14 |>.set 94 15) (bits := Tr.nil.lay 0 [0, 0, 0, 0, 4, 20, 60, 124, 0, 256, 768, 1792, 4092, 1, 8193, 32767, 65535]) (ord := [0, 1, 2, 3, 4, 5, 6, 7, 8, 9, 10, 11, 13, 14, 12, 15, 16])
        (J := fun A' W' => W' = W12 ∧ A'.n = 97 ∧ A'.defers = [] ∧ A'.tmps.get 0 = some (.iface t r) ∧ A'.tmps.get 7 = some (.pointer (some ⟨W.next + 2, 0, none⟩)) ∧ A'.tmps.get 8 = some (.func (.func 76) ⟨[]⟩ ⟨[.pointer (some ⟨W.next, 0, none⟩), .pointer (some ⟨W.next + 2, 0, none⟩)]⟩) ∧ A'.tmps.get 27 = some (.int .i64 l.length) ∧ A'.tmps.get 28 = some (.int .i64 i))
        (by kernel_rfl) (by kernel_rfl) (by kernel_rfl) (fun G hGG => ?_) ?_
      · simp [t7, t11, t13, lX8, lX8n, lX9, nilck, aBinI_mul, hwm, hwa, ixy, lw8, lw8n, aFlt, inf3, z3, is3, rep3, fill46, AFlt.val, q2, q3, q4, q5, hfr2, newCells_next]
        apply hGG
        exact ⟨rfl, rfl, rfl, by simp [t0], by simp [t7], by simp [t8], by simp [t27], by simp [t28]⟩
      rintro ⟨tm, n, ds⟩ W12' ⟨rfl, hn, hd, t0, t7, t8, t27, t28⟩
      simp only at hn hd t0 t7 t8 t27 t28
      subst hn; subst hd
      try simp only [wpK_assoc]
      refine wpK_reg1 (fun R hR => by simp [t28]; exact hR) ?_
      have hE12 : Ext W W12' := ⟨by have := hE5.1; have := hE6.1; omega, fun b hb _ => by
        have := hE5.1
        have := hE6.1
        rw [q7.2 b (by omega) (fun e => by have := hcol10 b e; omega), hO610 b hb, hE6.2 b (by omega) (fun x => x), hE5.2 b hb (fun x => x)]⟩
      refine hI (k - 1) _ _ (by omega) ⟨rfl, rfl, by simp [t0], by simp [t7], by simp [t8], by simp [t27], hE12, hVF12, hVW12, i + 1, (fun b => if b = W10'.next + 1 then (800 + y) + 1 else col2 b), by omega, by omega, by simp; exact i64_succ i (by omega), fun b hb => ?_, ?_, ?_, ?_⟩
      · have := hVW10.1
        simp only at hb
        split at hb
        · omega
        · exact hcol10 b hb
      · have := hVW10.1
        simp only [if_neg (show ¬ W.next = W10'.next + 1 by omega)]; exact hc10.2
      · have := hVW10.1
        simp only [if_neg (show ¬ W.next + 2 = W10'.next + 1 by omega)]; exact hc10.1
      · have e : (fun q => outsL L q (i + 1)) = upd (upd (fun q => outsL L q i) x (outsL L x i ++ [y0])) y (upd (fun q => outsL L q i) x (outsL L x i ++ [y0]) y ++ [y1]) := funext hGG
        rw [e, show 2 * (i + 1) = y1 + 1 from by omega]
        exact hLay12
    · have e : i = l.length := by omega
      subst e
      exact wpK_out (by simp) (hJ _ _ ⟨rfl, rfl, by simp [t7], hE5, hVW, col, hLay⟩)
  · rintro A' W' hf; exact hf.elim
  · rintro ⟨tm, n, ds⟩ W5 ⟨hn, hd, t7, hE5, hVW, col, hLay⟩
    simp only at hn hd t7
    subst hn; subst hd
    have lW := hVW.load1 (T := T0) und113 rfl (j := 0) (v := .pointer (some ⟨W.next + 1, 0, none⟩)) rfl
    try simp only [wpK_assoc]
    refine wpK_reg (fun R hR => by simp [t7, lW]; exact hR) ?_
    refine wpK_ret ⟨.inr rfl, rfl, [.pointer (some ⟨W.next + 1, 0, none⟩)], by simp, hE5, W.next + 1, W5.next, rfl, by omega, ?_⟩
    obtain ⟨c, g1, g2, g3, g4, g5⟩ := hLay.ex
    have hpl := g1.lt (W.next + 1) (by rw [g1.cp]; omega)
    refine ⟨hpl, Nat.le_refl _, c, g1.blk, fun y hy => g2 y (by rw [hLlen] at hy; exact hy), fun q hq => ?_, g3, g4, g5⟩
    have hF : Fg (fun q => outsL (layL from_ src l) q l.length) (800 + q) = some ⟨(outsL (layL from_ src l) q l.length).length, natsV (outsL (layL from_ src l) q l.length), 3, 1⟩ := by unfold Fg; rw [if_pos (by omega), show 800 + q - 800 = q from by omega]
    obtain ⟨_, v, f1, f2⟩ := g1.fld _ _ hF
    refine ⟨v, f1, ?_⟩
    rw [hLlen]
    by_cases hl : (outsL (layL from_ src l) q l.length).length = 0
    · obtain ⟨A, cc, hv⟩ := f2.len
      exact ⟨A, cc, hv, fun i x hx => by
        have := (List.getElem?_eq_some_iff.1 hx).1; omega⟩
    · obtain ⟨b, hv, hKb, hb, _, hh⟩ := f2.has (Nat.pos_of_ne_zero hl)
      refine ⟨_, _, hv, fun i x hx => ⟨b, 0, rfl, hb, fun e => ?_, ?_⟩⟩
      · have hKb : col b = 800 + q + 1 := hKb
        rw [e, g1.cp] at hKb; omega
      · rw [Nat.zero_add]; exact hh i _ (natsV_get hx)
theorem board_wp {W : AW} {v : Value} {P : Int} {l : List Tri} (h : TriIn W v l) (hlen : l.length ≤ 1000) :
    WpF T0 13 [.agg ⟨[.int .i64 P, v]⟩] W (fun u W' => Ext W W' ∧ ∃ v', u = .agg ⟨[.int .i64 P, v']⟩ ∧ GrowsN W' v' l.length (flat3 l) 108 3 (fun b => W.next ≤ b)) := by
  obtain ⟨A, c, rfl, hA⟩ := h
  refine wpF fun13 rfl ?_
  obtain ⟨W1, hW1, hE1, hn1, hV0, hV1⟩ : ∃ W1, W1 = (W.newCells 27 [.int .i64 P, .slice A l.length c]).newCells 35 [.int .i64 0, .slice none 0 0] ∧ Ext W W1 ∧ W1.next = W.next + 2 ∧ Var W1 W.next 27 [.int .i64 P, .slice A l.length c] ∧ Var W1 (W.next + 1) 35 [.int .i64 0, .slice none 0 0] :=
    ⟨_, rfl, (Only.newCells _ _ _).trans (Only.newCells _ _ _), rfl, (Var.new _ _ _).ext (.newCells _ _ _), Var.new _ _ _⟩
  obtain ⟨W2, s1, s2, hE2, hV2⟩ := storeVar_new (T := T0) (W := W1) (t := 35) (v := .agg ⟨[.int .i64 P, .slice none 0 0]⟩) (z := [.int .i64 0, .slice none 0 0]) inf35 (by rw [is35]; rfl) (by rw [is35]; rfl) rfl
  have hl0 := hV0.load1 (T := T0) und3 rfl (j := 0) (v := .int .i64 P) rfl
  try simp only [wpK_assoc]
  refine wpK_reg (fun R hR => by simp [zero35, newCells_next]; rw [← hW1]; exact hR) ?_
  try simp only [wpK_assoc]
  refine wpK_reg (fun R hR => by simp [hl0, build35, zero35, s1]; exact hR) ?_
  try simp only [wpK_assoc]
  refine wpK_reg (fun R hR => by simp; exact hR) ?_
  have hV02 := hV0.ext hE2
  have hV12 := hV1.ext hE2
  rw [hn1] at hV2
  try simp only [wpK_assoc]
  refine wpK_while (I := fun k A' W' => A'.n = 28 ∧ A'.defers = [] ∧ A'.tmps.get 1 = some (.pointer (some ⟨W.next, 0, none⟩)) ∧ A'.tmps.get 2 = some (.pointer (some ⟨W.next + 1, 0, none⟩)) ∧ A'.tmps.get 3 = some (.pointer (some ⟨W.next + 2, 0, none⟩)) ∧
      Ext W W' ∧ Var W' W.next 27 [.int .i64 P, .slice A l.length c] ∧ Var W' (W.next + 1) 35 [.int .i64 0, .slice none 0 0] ∧
      ∃ (i : Nat) (v : Value), k = l.length - i ∧ i ≤ l.length ∧ A'.tmps.get 4 = some (.int .i64 i) ∧ Var W' (W.next + 2) 35 [.int .i64 P, v] ∧ GrowsN W' v i (flat3 (l.take i)) 108 3 (fun b => W.next + 3 ≤ b))
    (J := fun A' W' => A'.n = 28 ∧ A'.defers = [] ∧ A'.tmps.get 2 = some (.pointer (some ⟨W.next + 1, 0, none⟩)) ∧ A'.tmps.get 3 = some (.pointer (some ⟨W.next + 2, 0, none⟩)) ∧ Ext W W' ∧ Var W' (W.next + 1) 35 [.int .i64 0, .slice none 0 0] ∧
      ∃ v, Var W' (W.next + 2) 35 [.int .i64 P, v] ∧ GrowsN W' v l.length (flat3 l) 108 3 (fun b => W.next + 3 ≤ b))
    (Rt := fun _ _ => False) (k := l.length) ?_ ?_ ?_ ?_
  · exact ⟨rfl, rfl, by simp, by simp, by simp [hn1], hE1.trans hE2, hV02, hV12, 0, .slice none 0 0, by simp, by simp, by simp, hV2, .nil _ _ _ _⟩
  · rintro k ⟨tm, n, ds⟩ W3 ⟨hn, hd, h1, h2, h3, hE3, hV0, hV1, i, v, hk, hi, h4, hV2, hG⟩ Q' hJ hRt hI
    simp only at hn hd h1 h2 h3 h4
    subst hn; subst hd
    have hl1 := hV0.load1 (T := T0) und25 rfl (j := 1) (v := .slice A l.length c) rfl
    have hl2 := hV2.load1 (T := T0) und33 rfl (j := 1) (v := v) rfl
    try simp only [wpK_assoc]
    refine wpK_reg (fun R hR => by simp [h1, h4, hl1, len_slice und25]; exact hR) ?_
    by_cases hlt : i < l.length
    · refine wpK_onT (by simp [hlt]) ?_
      have ha : l[i]? = some l[i] := List.getElem?_eq_getElem hlt
      generalize l[i] = a at ha
      obtain ⟨b', o, rfl, q1, q2, q3⟩ := hA i a ha
      have hx := indexAddr_tri (T := T0) und25 sz109 (b := b') (o := o) (c := c) (k := .i64) hlt
      have hl3 := load3 (T := T0) und109 agg109 inf109 is109 (q1.ext hE3) (q2.ext hE3) (q3.ext hE3)
      have hp3 := hV2.1
      obtain ⟨v', W4, W5, a1, a2, a3, a4, a5, a6, a7⟩ := Var.push (T := T0) (t := 33) (el := 108) (i := Tryd.t108) (it := Tryd.t33) (sz := 3) (by omega) und33 inf108 is108 z108 rfl inf33 is33 hG hV2 (o := 1) (by omega) (by simp) (u := cells3 a) rfl (oneCells_tri a) (by rw [by108]; omega) (by omega)
      have a1 : aAppend T0 (W3.newCells 108 [.int .i64 a.1, .int .i64 a.2.1, .int .i64 a.2.2]) [33, 33] [v, .slice (some ⟨W3.next, 0, none⟩) 1 2] = some (v', W4) := a1
      refine wpK_block ?_
      try simp only [wpK_assoc]
      refine wpK_reg (fun R hR => by simp [h3, hl2]; exact hR) ?_
      try simp only [wpK_assoc]
      refine wpK_reg1 (fun R hR => by simp [h1, h3, h4, hl1, hx, hl3, bs33, a1, a2]; exact hR) ?_
      try simp only [wpK_assoc]
      refine wpK_reg1 (fun R hR => by simp [h4]; exact hR) ?_
      have hO : Ext W W5 := ⟨by have := hE3.1; omega, fun b hb hk => by rw [a7.2 b (by have := hE3.1; omega) (by omega)]; exact hE3.2 b hb hk⟩
      refine hI (k - 1) _ _ (by omega) ⟨rfl, rfl, by simp [h1], by simp [h2], by simp [h3], hO, hV0.only a7 (by omega), hV1.only a7 (by omega), i + 1, v', by omega, by omega, by simp; exact i64_succ i (by omega), by simpa using a5, ?_⟩
      rw [List.take_add_one, ha, Option.toList_some, flat3_append]
      have : flat3 [a] = cells3 a := by simp [flat3]
      rw [this]
      exact a6.mono (fun b hb => by
        rcases hb with hb | hb
        · exact hb
        · omega)
    · have e : i = l.length := by omega
      subst e
      rw [List.take_length] at hG
      exact wpK_out (by simp) (hJ _ _ ⟨rfl, rfl, by simp [h2], by simp [h3], hE3, hV1, v, hV2, hG⟩)
  · rintro A' W' hf; exact hf.elim
  · rintro ⟨tm, n, ds⟩ W3 ⟨hn, hd, h2, h3, hE3, hV1, v, hV2, hG⟩
    simp only at hn hd h2 h3
    subst hn; subst hd
    obtain ⟨av, cv, hvs⟩ := hG.len
    have hl := hV2.load (T := T0) und35 agg35 inf35 is35
    obtain ⟨W4, t1, t2, t3, t4⟩ := hV1.store (T := T0) (t := 35) (v := .agg ⟨[.int .i64 P, v]⟩) (o := 0) inf35 (by rw [is35]; rfl) (by simp) (by rw [hvs]; rfl)
    have hl4 := t4.load (T := T0) und35 agg35 inf35 (by rw [is35]; rfl)
    try simp only [wpK_assoc]
    refine wpK_reg (fun R hR => by simp [h2, h3, hl, t1]; exact hR) ?_
    refine wpK_ret ⟨.inr rfl, rfl, [.agg ⟨[.int .i64 P, v]⟩], by simp at hl4; simp [h2, hl4], ?_, v, rfl, ?_⟩
    · exact ⟨by have := hE3.1; omega, fun b hb hk => by rw [t3.2 b (by have := hE3.1; omega) (by omega)]; exact hE3.2 b hb hk⟩
    · exact (hG.only t3 (fun b _ hb e => by omega)).mono (fun b hb => by omega)
theorem planOk_links (P : Int) (l : List Tri) : planOk P (linksQ l) = planOk P (arcsQ l) := by
  have e : (linksQ l).all (okStep P) = (arcsQ l).all (okStep P) := by
    simp only [linksQ, arcsQ, List.all_map]
    congr 1
  have e2 : (linksQ l).length = (arcsQ l).length := by simp [linksQ, arcsQ]
  simp only [planOk, e, e2]
theorem links_in {P : Int} {l : List Tri} (h : planOk P (arcsQ l) = true) : PlanIn P (linksQ l) := by
  refine ⟨by rw [planOk_links]; exact h, fun a ha => ?_⟩
  have hin := arcsQ_in h
  simp only [linksQ, List.mem_map] at ha
  obtain ⟨x, hx, rfl⟩ := ha
  have := hin.step (a := (x.1, x.2.1, x.2.2, 0)) (by simp only [arcsQ, List.mem_map]; exact ⟨x, hx, rfl⟩)
  simp only at this ⊢
  omega
def endE (P a b : Int) : Int := if two? a b P = true then 0 else 1
def chkE (P : Int) (l : List Quad) (a b : Int) : Int := if planOk P l = true then endE P a b else 30
theorem checkEnds_wp {W : AW} {t : TypeId} {r : Value} {fz fs : FuncId} {P : Int} {l : List Quad} (h : PlanOf W t r fz fs P l) (a b : Int) :
    WpF T0 52 [.iface t r, .int .i64 a, .int .i64 b] W (fun v W' => Ext W W' ∧ v = .int .i64 (chkE P l a b)) := by
  obtain ⟨fnz, hfz⟩ := h.hfz
  have hnz := h.nz
  refine wpF fun52 rfl ?_
  try simp only [wpK_assoc]
  refine wpK_reg (fun R hR => by simp; exact hR) ?_
  try simp only [wpK_assoc]
  refine wpK_regc (J := fun A W' => Ext W W' ∧ A.n = 25 ∧ A.defers = [] ∧ A.tmps.get 0 = some (.iface t r) ∧ A.tmps.get 1 = some (.int .i64 a) ∧ A.tmps.get 2 = some (.int .i64 b) ∧ A.tmps.get 7 = some (.int .i64 (chk P l))) (fun R hR => ?_) ?_
  · simp [aEnter, fun51, short_other, aCallV]
    rw [callS_none]
    refine (check_wp h).mono ?_
    rintro _ W' ⟨hE, rfl⟩
    simp
    apply hR
    exact ⟨hE, rfl, rfl, by simp, by simp, by simp, by simp⟩
  rintro ⟨tm, n, ds⟩ W1 ⟨hE1, hn, hd, h0, h1, h2, h7⟩
  simp only at hn hd h0 h1 h2 h7
  subst hn; subst hd
  cases hok : planOk P l with
  | false =>
    rw [chk, hok] at h7
    try simp only [wpK_assoc]
    refine wpK_reg (fun R hR => by simp [h7]; exact hR) ?_
    refine wpK_condT (by simp) ?_
    try simp only [wpK_assoc]
    refine wpK_reg (fun R hR => by simp [h7]; exact hR) ?_
    exact wpK_ret ⟨.inr rfl, rfl, [.int .i64 30], by simp, hE1, by simp [chkE, hok]⟩
  | true =>
    rw [chk, hok] at h7
    try simp only [wpK_assoc]
    refine wpK_reg (fun R hR => by simp [h7]; exact hR) ?_
    refine wpK_onF (by simp) ?_
    try simp only [wpK_assoc]
    refine wpK_regc (J := fun A W' => Ext W W' ∧ A.n = 25 ∧ A.defers = [] ∧ A.tmps.get 1 = some (.int .i64 a) ∧ A.tmps.get 2 = some (.int .i64 b) ∧ A.tmps.get 8 = some (.int .i64 P)) (fun R hR => ?_) ?_
    · simp [h0, aCallI, h.meth, aMeth, hfz, short_other hnz]
      rw [callS_none]
      refine (h.size W1 hE1).mono ?_
      rintro _ W' ⟨hE, rfl⟩
      simp
      apply hR
      exact ⟨hE1.trans hE, rfl, rfl, by simp [h1], by simp [h2], by simp⟩
    rintro ⟨tm, n, ds⟩ W2 ⟨hE2, hn, hd, h1, h2, h8⟩
    simp only at hn hd h1 h2 h8
    subst hn; subst hd
    try simp only [wpK_assoc]
    refine wpK_regc (J := fun A W' => W' = W2 ∧ A.n = 25 ∧ A.defers = [] ∧ A.tmps.get 24 = some (.bool (!two? a b P))) (fun R hR => ?_) ?_
    · simp [h1, h2, h8, aEnter, fun74, short_other, aCallV]
      rw [callS_none]
      refine (areTwo_wp a b P W2).mono ?_
      rintro _ W' ⟨rfl, rfl⟩
      simp
      apply hR
      exact ⟨rfl, rfl, rfl, by simp⟩
    rintro ⟨tm, n, ds⟩ W3 ⟨rfl, hn, hd, h24⟩
    simp only at hn hd h24
    subst hn; subst hd
    cases h2 : two? a b P with
    | false =>
      rw [h2] at h24
      refine wpK_condT (by simp [h24]) ?_
      try simp only [wpK_assoc]
      refine wpK_reg (fun R hR => by simp; exact hR) ?_
      exact wpK_ret ⟨.inr rfl, rfl, [.int .i64 1], by simp, hE2, by simp [chkE, hok, endE, h2]⟩
    | true =>
      rw [h2] at h24
      refine wpK_onF (by simp [h24]) ?_
      try simp only [wpK_assoc]
      refine wpK_reg (fun R hR => by simp; exact hR) ?_
      exact wpK_ret ⟨.inr rfl, rfl, [.int .i64 0], by simp, hE2, by simp [chkE, hok, endE, h2]⟩
def SlOk (u : Value) (n : Nat) : Prop := (u = .slice none 0 0 ∧ n = 0) ∨ (∃ b o c, u = .slice (some ⟨b, o, none⟩) n (2 * c) ∧ n ≤ c) ∨ (u = .slice (some ⟨0, 0, some 1⟩) 0 0 ∧ n = 0)
theorem opMI35 (W : AW) (ρ : Operand → Option Value) (x : Operand) : opMakeInterface T0 W ρ 35 x = match ρ x with | some v => some (.value (.iface 35 v), W) | none => none := by
  simp only [opMakeInterface, und35]
  cases ρ x <;> rfl
theorem load35 {W : AW} {p : Nat} {x y : Value} (h : Var W p 35 [x, y]) : aLoadVar T0 W 35 p 0 = some (.agg ⟨[x, y]⟩) := h.load (T := T0) und35 agg35 inf35 is35
theorem tri_eq {W : AW} {v : Value} {l : List Tri} (h : TriIn W v l) : valEq v v = true := by
  obtain ⟨A, c, rfl, _⟩ := h
  rcases A with _ | ⟨b, o, _ | x⟩ <;> simp
theorem one_low {s : Nat} : (1 <<< s).testBit s = true ∧ ∀ j, j < s → (1 <<< s).testBit j = false := by
  refine ⟨by rw [one_bit]; simp, fun j hj => by rw [one_bit]; simp; omega⟩
theorem least_ok {W : AW} {v : Value} {P : Int} {l : List Tri} (h : TriIn W v l) {s t : Nat} (hP : PlanIn P (linksQ l)) (hst : two? s t P = true) (hT : tabsIn T0 T0.tabs W = true) (h0 : 0 < W.next) :
    WpF T0 25 [.agg ⟨[.int .i64 P, v]⟩, .int .i64 s, .int .i64 t] W (fun u W' => Ext W W' ∧ ∃ x rm lv, u = .tuple ⟨[.int .i64 x, .int .i64 0]⟩ ∧ Filled (layL (1 <<< s) s (linksQ l)) s t (hCap (layL (1 <<< s) s (linksQ l))) x rm lv) := by
  refine wpF fun25 rfl ?_
  have hE0 : Ext W (W.newCells 35 [.int .i64 P, v]) := .newCells _ _ _
  have hN := boardPlan (P := P) (h.ext hE0)
  have hV := Var.new W 35 [.int .i64 P, v]
  have hl := load35 hV
  have hT0 := tabs_ext hT h0 hE0
  have h00 : 0 < (W.newCells 35 [.int .i64 P, v]).next := by rw [newCells_next]; omega
  generalize hW0 : W.newCells 35 [.int .i64 P, v] = W0 at hN hE0 hl hT0 h00 hV
  obtain ⟨hP2, hP24, _⟩ := hP.size
  have hok : planOk P (linksQ l) = true := hP.ok
  have hee : chkE P (linksQ l) s t = 0 := by simp only [chkE, hok, endE, hst, if_true]
  simp only [two?, Bool.and_eq_true, decide_eq_true_eq] at hst
  have hc := checkEnds_wp hN s t
  rw [hee] at hc
  try simp only [wpK_assoc]
  refine wpK_reg (fun R hR => by simp [hW0]; exact hR) ?_
  try simp only [wpK_assoc]
  refine wpK_x0 (fun R hR => by
      simp [hl, opMI35, -opMakeInterface, aEnter, fun52, short_other, aCallV]; rw [callS_none]
      refine (hc).mono ?_
      rintro _ W1 ⟨hE1, rfl⟩
      simp [hl, opMI35, -opMakeInterface]; exact hR W1 hE1) ?_
  rintro W1 hE1
  try simp only [wpK_assoc]
  refine wpK_reg (fun R hR => by simp []; exact hR) ?_
  try simp only [wpK_assoc]
  first | refine wpK_onF (by simp []) ?_ | refine wpK_out (by simp []) ?_ | refine wpK_condF (by simp []) ?_ | refine wpK_endF (by simp []) (wpK_skip ?_) | refine wpK_endF (by simp []) ?_
  have hN1 := hN.ext hE1
  have hT1 := tabs_ext hT0 h00 hE1
  have hl1 := load35 (hV.ext hE1)
  have h10 : 0 < W1.next := Nat.lt_of_lt_of_le h00 hE1.1
  have hvv := tri_eq h
  try simp only [wpK_assoc]
  refine wpK_d4 (wr := Tr.nil |>.set 17 0 |>.set 18 1 |>.set 19 2 |>.set 20 3 |>.set 21 4 |>.set 22 5 |>.set 23 6 |>.set 6 7 |>.set 7 8) (bits := Tr.nil.lay 0 [0, 1, 0, 4, 0, 31, 63, 127, 255]) (ord := [0, 1, 2, 3, 4, 5, 6, 7, 8]) (by kernel_rfl) (by kernel_rfl) (by kernel_rfl) (fun G hG => by
    simp [hl1, opMI35, -opMakeInterface, aEnter, fun54, short_other, aCallV]
    rw [dcallS_none]
    refine (one_wp s (by omega) W1).mono ?_
    rintro _ W2 ⟨hW2, rfl⟩
    subst W2
    simp [hl1, opMI35, -opMakeInterface, aEnter, fun53, short_other, aCallV]
    rw [dcallS_none]
    refine (lay_wp hN1 hP (by exact one_lt (by omega)) one_low.1 one_low.2 (by omega) (by omega) hT1 h10).mono ?_
    rintro _ W3 ⟨hE3, p, B, rfl, hp, hWk⟩
    simp [hE3.1, hl1, opMI35, -opMakeInterface, aEnter, fun55, short_other, aCallV]
    rw [dcallS_none]
    refine (fill_wp hWk (layL_ok hP (by omega)) (by omega) (by omega) (by omega) (cap_rooms (layL_ok hP (by omega)))).mono ?_
    rintro _ W4 ⟨x, rm', lv, rfl, hO4, hWk4, hF⟩
    simp [hO4.1, hl1, hvv]
    have hE4 : Ext W1 W4 := ⟨Nat.le_trans hE3.1 hO4.1, fun b hb hk => by rw [hO4.2 b (Nat.lt_of_lt_of_le hb hE3.1) (fun e => by omega)]; exact hE3.2 b hb hk⟩
    exact hG p x rm' lv W4 (And.intro hE4 hF)) ?_
  rintro _ x rm lv W4 ⟨hE4, hF⟩
  exact wpK_ret ⟨.inr rfl, rfl, [.int .i64 x, .int .i64 0], by simp, (hE0.trans hE1).trans hE4, x, rm, lv, rfl, hF⟩
theorem z2' : Tryd.t2.zero = some (.int .i64 0) := by kernel_rfl
theorem by2 : Tryd.t2.bytes = 8 := by kernel_rfl
theorem und59 : T0.und.get 59 = some (.slice 66) := by kernel_rfl
theorem load27 {W : AW} {p : Nat} {x y : Value} (h : Var W p 27 [x, y]) : aLoadVar T0 W 27 p 0 = some (.agg ⟨[x, y]⟩) := h.load (T := T0) und27 agg27 inf27 is27
end Go.Proofs.YtkgfjfkgmpeobaaDoor
open Go Go.Eng
namespace Go.Proofs.YtkgfjfkgmpeobaaDoor
open Go.ChangeShapes Go.WideShapes Go.ChangeAt Go.RowKit
section
variable {H : Type} {enc : TypeId × Value → H} {P : Program} {w : World}
theorem add_block (a : Addr) (n : Nat) : (a.add n).block = a.block := by unfold Addr.add; split <;> rfl
theorem add_off (a : Addr) (n : Nat) : (a.add n).off = a.off + n := by unfold Addr.add; split <;> simp_all
end
theorem own : ownKnob Tryd.prog.godebug = none := by kernel_rfl
theorem laidOut : laidOutB Tryd.prog = true := by kernel_rfl
theorem T0_globs : ∀ g u, T0.globs.get g = some u → g = 0 := fun g u h => by
  have h : (Tr.set Tr.nil 0 ()).get g = some u := h
  rw [Tr.get_set] at h
  split at h
  · assumption
  · rw [Tr.get_nil] at h; cases h
def tabL : List Int := [0, 1, 56, 2, 57, 49, 28, 3, 61, 58, 42, 50, 38, 29, 17, 4, 62, 47, 59, 36, 45, 43, 51, 22, 53, 39, 33, 30, 24, 18, 12, 5, 63, 55, 48, 27, 60, 41, 37, 16, 46, 35, 44, 21, 52, 32, 23, 11, 54, 26, 40, 15, 34, 20, 31, 10, 25, 14, 19, 9, 13, 8, 7, 6]
theorem tab_of_laid {W : World} (h : laidMet Tryd.prog [("math/bits.deBruijn64tab", Rows.laid_math_bits_deBruijn64tab)] W) : ∀ i (h : i < tabL.length), W.cell? ⟨0, i, none⟩ = some (.int .u8 tabL[i]) := by
  have hg : Tryd.prog.globalNamed "math/bits.deBruijn64tab" = some 0 := by kernel_rfl
  have ht := Lib.tabIs_of_head (P := Tryd.prog) (W := W) (k := .u8) (zs := tabL) (rest := []) (t := 160) (e := 5) (n := 64) hg (by kernel_rfl) Tryd.underlying160 Tryd.underlying5 (by kernel_rfl) (by kernel_rfl) h
  intro i hi
  have := ht.cell hg i hi
  rw [this, List.getD_eq_getElem?_getD, List.getElem?_eq_getElem hi]; rfl
theorem tab_cells {W : World} (h : ∀ i (h : i < tabL.length), W.cell? ⟨0, i, none⟩ = some (.int .u8 tabL[i])) : isCells W 0 = true ∧ 0 < (embW W).next ∧ tabsIn T0 T0.tabs (embW W) = true := by
  have h0 := h 0 (by decide)
  have hc := isCells_cell h0
  refine ⟨hc, isCells_lt hc, ?_⟩
  have key : tabIn ⟨0, tabL.map (Value.int .u8)⟩ (embW W) = true := by
    unfold isCells at hc
    split at hc
    case h_2 => cases hc
    rename_i c el fz ho
    unfold tabIn
    simp only [embW_get, ho, Option.map_some, embO]
    have hcell : ∀ i (hi : i < tabL.length), c[i]? = some (.int .u8 tabL[i]) := fun i hi => by
      have := h i hi
      simpa [World.cell?, ho] using this
    have hsz : tabL.length ≤ c.size := by
      have := (Array.getElem?_eq_some_iff.1 (hcell 63 (by decide))).1
      show 64 ≤ c.size; omega
    have htake : (Tr.nil.layO 0 (c.toList.map (absV W))).take 0 (tabL.map (Value.int .u8)).length = some (tabL.map (Value.int .u8)) := by
      refine take_get _ _ 0 _ rfl (fun j hj => ?_)
      have hj' : j < tabL.length := by simpa using hj
      rw [Nat.zero_add, Tr.get_layO _ _ _ _ (.inl (Tr.get_nil _)), if_pos (by simp; omega)]
      simp only [Nat.sub_zero, List.getElem?_map, Array.getElem?_toList, hcell j hj', Option.map_some, Option.getD_some, List.getElem?_eq_getElem hj']
      rfl
    rw [htake]
    simp only [ble_dec, List.length_map, hsz, decide_true]
    have hf : allB flat (tabL.map (Value.int .u8)) = true := by decide
    rw [hf]
    simp only
    have : ∀ l : List Int, listEq (l.map (Value.int .u8)) (l.map (Value.int .u8)) = true := fun l => by
      induction l with
      | nil => rfl
      | cons a l ih => simp only [List.map_cons]; exact listEq_cons (valEq_int _ _) ih
    exact this tabL
  show tabsIn T0 [⟨0, tabL.map (Value.int .u8)⟩] (embW W) = true
  simp only [tabsIn, key]
  rfl
noncomputable def laidWorld (os : Os) : World :=
  let w0 := World.holding Tryd.prog os ⟨#[], #[], []⟩
  { w0 with heap := w0.heap.modify 0 fun
      | .cells _ t frozen => .cells (tabL.map (Value.int .u8)).toArray t frozen
      | o => o }
theorem laid_met (os : Os) (args : Array Value) : laidMet Tryd.prog [("math/bits.deBruijn64tab", Rows.laid_math_bits_deBruijn64tab)] ((laidWorld os).forCall (fun _ _ => 0) ⟨#[], args, []⟩).memory :=
  laidMet_of_run' 8 (by kernel_rfl) (by kernel_rfl)
theorem globs_cells {W : World} (h : isCells W 0 = true) : ∀ g u, T0.globs.get g = some u → isCells W g = true := fun g u hu => by
  rw [T0_globs g u hu]; exact h
end Go.Proofs.YtkgfjfkgmpeobaaDoor

open Go Go.Eng
namespace Go.Proofs.YtkgfjfkgmpeobaaDoor
open Go.ChangeShapes Go.WideShapes Go.ChangeAt Go.RowKit
theorem absV_row2 {w : World} {a : Addr} {n c : Nat} (h : 0 < c → ∃ v, w.cell? a = some v) (hn : n ≤ c) :
    ∃ a' c', absV w (.slice (some a) n c) = some (.slice a' n c') ∧ (0 < c → a' = some ⟨a.block, a.off, none⟩) ∧ SlOk (.slice a' n c') n := by
  by_cases hc : 0 < c
  · obtain ⟨v, hv⟩ := h hc
    have hs := cell_spot hv
    have hb := isCells_cell hv
    obtain ⟨b, o, s⟩ := a
    simp only at hs hb; subst hs
    exact ⟨some ⟨b, o, none⟩, 2 * c, by simp [absV, hb], fun _ => rfl, .inr (.inl ⟨b, o, c, rfl, hn⟩)⟩
  · obtain rfl : c = 0 := by omega
    obtain rfl : n = 0 := by omega
    obtain ⟨b, o, s⟩ := a
    cases s with
    | none =>
      by_cases hb : isCells w b = true
      · exact ⟨some ⟨b, o, none⟩, 0, by simp [absV, hb], fun x => absurd x hc, .inr (.inl ⟨b, o, 0, rfl, by omega⟩)⟩
      · exact ⟨some ⟨0, 0, some 1⟩, 0, by simp [absV, hb], fun x => absurd x hc, .inr (.inr ⟨rfl, rfl⟩)⟩
    | some s => exact ⟨some ⟨0, 0, some 1⟩, 0, rfl, fun x => absurd x hc, .inr (.inr ⟨rfl, rfl⟩)⟩
section
variable {H : Type} {enc : TypeId × Value → H} {P : Program} {w : World}
theorem tris_in2 {t e : TypeId} {f0 f1 f2 : Field} {fuel : Nat} {held : Bool} {v : Value} {x : DataW H × List MemPlace} (ht : P.underlying t = some (.slice e)) (he : P.underlying e = some (.struct #[f0, f1, f2])) (hc : P.cellsOf e = 3)
    (o0 : f0.offset = 0) (o1 : f1.offset = 1) (o2 : f2.offset = 2) (c0 : P.cellsOf f0.type = 1) (c1 : P.cellsOf f1.type = 1) (c2 : P.cellsOf f2.type = 1) (u0 : P.underlying f0.type = some (.int .i64)) (u1 : P.underlying f1.type = some (.int .i64)) (u2 : P.underlying f2.type = some (.int .i64))
    (h : DataW.trod enc P w 0 (fun _ => true) held fuel t [v] = some x) : ∃ u l, absV w v = some u ∧ TriIn (embW w) u l ∧ l.length < 9223372036854775808 ∧ SlOk u l.length := by
  rcases Deep.open_slice ht h with ⟨h1, _⟩ | ⟨a, len, cap, m, n, D, Pl, h1, _, h2, h3, hm, _, h4⟩
  · cases h1
    exact ⟨.slice none 0 0, [], rfl, ⟨none, 0, rfl, fun i a hi => by simp at hi⟩, by simp, .inl ⟨rfl, rfl⟩⟩
  · cases h1
    simp only [if_true] at hm
    subst hm
    have each : ∀ i, i < m → ∃ z : Tri, w.cell? (a.add (i * 3)) = some (.int .i64 z.1) ∧ w.cell? (a.add (i * 3 + 1)) = some (.int .i64 z.2.1) ∧ w.cell? (a.add (i * 3 + 2)) = some (.int .i64 z.2.2) := by
      intro i hi
      obtain ⟨cs', g1, g2⟩ := h4 i hi
      rw [hc] at g1
      obtain ⟨_, hlen, hcell⟩ := World.cells?_some g1
      obtain ⟨y0, y1, y2, k, _, _, q0, q1, q2⟩ := Deep.trod_struct3 he g2
      match cs', hlen with
      | [x0, x1, x2], _ =>
        simp [o0, o1, o2, c0, c1, c2] at q0 q1 q2
        obtain ⟨z0, e0, _⟩ := DataW.trod_int u0 q0
        obtain ⟨z1, e1, _⟩ := DataW.trod_int u1 q1
        obtain ⟨z2, e2, _⟩ := DataW.trod_int u2 q2
        cases e0; cases e1; cases e2
        have k0 := hcell 0 (by omega)
        have k1 := hcell 1 (by omega)
        have k2 := hcell 2 (by omega)
        rw [Go.Deep.add_add] at k0 k1 k2
        exact ⟨(z0, z1, z2), by simpa using k0, by simpa using k1, by simpa using k2⟩
    obtain ⟨Z, hZ⟩ := Deep.choose_lt each
    obtain ⟨a', c', g4, g5, g6⟩ := absV_row2 (w := w) (a := a) (n := len) (c := m) (fun hc => ⟨_, by simpa [Addr.add] using (hZ 0 hc).1⟩) h2
    refine ⟨_, (List.range len).map Z, g4, ⟨a', c', by simp, fun i z hi => ?_⟩, by simp; unfold maxLen at h3; omega, by simpa using g6⟩
    have hi' : i < len := by
      have := (List.getElem?_eq_some_iff.1 hi).1
      simpa using this
    simp only [List.getElem?_map, List.getElem?_range hi', Option.map_some, Option.some.injEq] at hi
    subst hi
    obtain ⟨k0, k1, k2⟩ := hZ i (by omega)
    have e0 := emb_has k0 (u := .int .i64 (Z i).1) rfl
    have e1 := emb_has k1 (u := .int .i64 (Z i).2.1) rfl
    have e2 := emb_has k2 (u := .int .i64 (Z i).2.2) rfl
    rw [add_block, add_off] at e0 e1 e2
    refine ⟨a.block, a.off, g5 (by omega), ?_, ?_, ?_⟩
    · rw [Nat.mul_comm]; exact e0
    · rw [Nat.mul_comm, Nat.add_assoc]; exact e1
    · rw [Nat.mul_comm, Nat.add_assoc]; exact e2
end
end Go.Proofs.YtkgfjfkgmpeobaaDoor

open Go Go.Eng
namespace Go.Proofs.YtkgfjfkgmpeobaaDoor
attribute [local congr] undef_congr WpK.congr WpS.congr WpL.congr WpC.congr WpF.congr gotS.congr callS.congr nextS.congr wantS.congr condS.congr
attribute [local irreducible] WpK
attribute [local simp] WpDr_nil WpDr_cons atS_some dwantS_true dwantS_false kindS_light kindS_float kindS_heavy lightS_value floatS_some heavyS_value heavyS_skip heavyS_enter dcallS_some doneS_eq
  isLight isFloat isPlain dLook testBit_dec dChain dLights_nil dLights_skip dLights_one dLight_nil dLight_cons dFreshes_nil dFreshes_one oneF_none oneF_some dFresh_nil dFresh_cons oneL_some oneW_true oneW_false sameV_value dPut dMay valEq arrEq listEq List.getElem?_cons Tr.get_nil dEnd
attribute [local simp] WpS_nil WpS_cons isDefer undef_false wantS_true wantS_false nextS_value nextS_skip nextS_enter callS_some gotS_some aWanted aOp aEvalF aEval opMove opAssign opPick aVal flat flat1 AAct.put opBinOp opConvert opIndex Tr.get_set Tr.get_lay aBin aResults tupled
  aCall aVals aCallB blt_dec ble_dec beq_dec aBinI_add aBinI_sub aBinI_lss aBinI_leq aBinI_gtr aBinI_geq aBinI_eql aBinI_neq index_str len_str len_slice Nat.beq_refl und2 und3 und4 und5 und39 und76 und82 und115 und22 und29 und25 und33 und46 und43 und49 und111 und113 field151 field155_0 field155_1 field155_2 field155_3 field155_4
  field78 field106 field24 field31 field27 field35 field108 field109 opBox opLoad opFieldAddr opIndexAddr acells aAddr opExtract aExtract opUnOp opAlloc opStore opMakeInterface opNilCheck opBuild aParts opBuildSlice aValW
set_option maxHeartbeats 4000000
set_option linter.unusedSimpArgs false
set_option linter.unusedVariables false
theorem und126 : T0.und.get 126 = some (.array 24 2) := by kernel_rfl
def zeros24 : List Int := List.replicate 24 0
theorem zero126 : aZero T0 126 = some (.agg ⟨intsV (zeros24)⟩) := by kernel_rfl
theorem ix126 (p o q : Nat) (hq : q < 24) : aIndexAddr T0 126 (.pointer (some ⟨p, o, none⟩)) (.int .i64 (q : Nat)) = some (.pointer (some ⟨p, o + q, none⟩)) := by
  show aIndexAddr T0 126 (.pointer (some ⟨p, o, none⟩)) (.int .i64 (Int.ofNat q)) = _
  simp only [aIndexAddr, und126, sz2, blt_dec, hq, decide_true, Nat.mul_one]
def net1 (p : Nat) (q : Tri × Int) : Int := (if q.1.1 = p then q.2 else 0) - (if q.1.2.1 = p then q.2 else 0)
def netZ (z : List (Tri × Int)) (p : Nat) : Int := (z.map (net1 p)).sum
def capsOk (z : List (Tri × Int)) : Prop := ∀ q ∈ z, 0 ≤ q.2 ∧ q.2 ≤ q.1.2.2
def isFl (P s t : Nat) (l : List Tri) (fl : List Int) : Prop := fl.length = l.length ∧ capsOk (l.zip fl) ∧ ∀ p : Nat, p < P → p ≠ s → p ≠ t → netZ (l.zip fl) p = 0
def netL (z : List (Tri × Int)) : List Int := (List.range 24).map (netZ z)
theorem Only_refl {K : Nat → Prop} (W : AW) : Only K W W := ⟨Nat.le_refl _, fun _ _ _ => rfl⟩
def nearS (lv : Nat → Nat) : Nat → Nat
  | 0 => 0
  | n + 1 => if 0 < lv n then nearS lv n ||| 1 <<< n else nearS lv n
theorem nearS_bit (lv : Nat → Nat) (q : Nat) : ∀ n, (nearS lv n).testBit q = (decide (q < n) && decide (0 < lv q))
  | 0 => by simp [nearS]
  | n + 1 => by
    rw [nearS]
    by_cases h : 0 < lv n
    · rw [if_pos h, Nat.testBit_or, nearS_bit lv q n, one_bit]
      by_cases e : n = q
      · subst e; simp [-testBit_dec, h]
      · have : (q < n + 1) = (q < n) := propext ⟨fun _ => by omega, fun _ => by omega⟩
        simp only [this, decide_eq_false e, Bool.or_false]
    · rw [if_neg h, nearS_bit lv q n]
      by_cases e : n = q
      · subst e; simp [h]
      · have : (q < n + 1) = (q < n) := propext ⟨fun _ => by omega, fun _ => by omega⟩
        simp only [this]
theorem nearS_lt (lv : Nat → Nat) : ∀ n, nearS lv n < 2 ^ n
  | 0 => by simp [nearS]
  | n + 1 => by
    have := nearS_lt lv n
    have h2 : 2 ^ (n + 1) = 2 * 2 ^ n := by rw [Nat.pow_succ]; omega
    rw [nearS]
    split
    · refine Nat.or_lt_two_pow (by omega) ?_
      rw [Nat.shiftLeft_eq, Nat.one_mul]; exact Nat.pow_lt_pow_right (by omega) (by omega)
    · omega
theorem idx132 (l : List Int) (q : Nat) (hq : q < 24) (x : Int) (h : l[q]? = some x) : aIndex T0 132 (.agg ⟨intsV l⟩) (.int .i64 (q : Nat)) = some (.int .i64 x) := by
  show aIndex T0 132 (.agg ⟨intsV l⟩) (.int .i64 (Int.ofNat q)) = _
  simp only [aIndex, und132, sz3, blt_dec, hq, decide_true, Nat.mul_one]
  simp only [aPart, und3, sz3]
  simp only [intsV, List.getElem?_map, h]
  rfl
theorem wpK_cut1 {T : Tabs} {cx : Cx} {c : Code} {A : AAct} {W : AW} {Q : AExit → AAct → AW → Prop} (J : AAct → AW → Prop) (h : ∀ Q' : AExit → AAct → AW → Prop, (∀ A' W', J A' W' → Q' .normal A' W') → WpK T cx c A W Q') (h2 : ∀ A' W', J A' W' → Q .normal A' W') : WpK T cx c A W Q := h Q h2
theorem near_wp {W : AW} {p B : Nat} {L : List Stp} {s t : Nat} {rm : Nat → Int} {lv : Nat → Nat} (h : Wk W p B L s t rm lv) :
    WpF T0 61 [.pointer (some ⟨p, 0, none⟩)] W (fun v W' => W' = W ∧ v = .int .u64 (nearS lv 24 : Nat)) := by
  refine wpF fun61 rfl ?_
  obtain ⟨_, _, _, _, hlv⟩ := h.has
  have hld : aLoadVar T0 W 132 p 826 = some (.agg ⟨intsV ((List.range 24).map fun q => (lv q : Int))⟩) := by
    refine loadVar_agg und132 agg132 inf132 ?_
    rw [is132]
    refine cellsAt_of_cells (by simp [intsV]) (has_blk (hlv 0 (by omega))) (fun j hj => ?_) (by omega)
    rw [(hlv j hj).2]
    simp [intsV, List.getElem?_range hj]
  generalize hL : (List.range 24).map (fun q => (lv q : Int)) = LL at hld
  have hget : ∀ q, q < 24 → LL[q]? = some (lv q : Int) := fun q hq => by rw [← hL]; simp [List.getElem?_range hq]
  try simp only [wpK_assoc]
  refine wpK_reg (fun R hR => by simp []; exact hR) ?_
  try simp only [wpK_assoc]
  refine wpK_reg (fun R hR => by simp []; exact hR) ?_
  try simp only [wpK_assoc]
  refine wpK_reg (fun R hR => by simp [nilck, hld]; exact hR) ?_
  try simp only [wpK_assoc]
  refine wpK_while (I := fun k A W' => A.n = 22 ∧ A.defers = [] ∧ A.tmps.get 9 = some (.agg ⟨intsV LL⟩) ∧ W' = W ∧ ∃ i : Nat, k = 24 - i ∧ i ≤ 24 ∧ A.tmps.get 10 = some (.int .i64 i) ∧ A.tmps.get 3 = some (.int .u64 (nearS lv i : Nat)))
    (J := fun A W' => A.n = 22 ∧ A.defers = [] ∧ A.tmps.get 9 = some (.agg ⟨intsV LL⟩) ∧ W' = W ∧ A.tmps.get 3 = some (.int .u64 (nearS lv 24 : Nat)))
    (Rt := fun _ _ => False) (k := 24) ?_ ?_ ?_ ?_
  · exact ⟨rfl, rfl, by simp, rfl, 0, rfl, by omega, by simp, by simp [nearS]⟩
  · rintro k ⟨tm, n, ds⟩ W3 ⟨hn, hd, h9, rfl, i, hk, hi, h10, h3⟩ Q' hJ hRt hI
    simp only at hn hd h9
    subst hn; subst hd
    simp only at h10 h3
    try simp only [wpK_assoc]
    refine wpK_reg (fun R hR => by simp [h10]; exact hR) ?_
    by_cases hlt : i < 24
    · have hlt' : (i : Int) < 24 := by omega
      try simp only [wpK_assoc]
      first | refine wpK_onT (by simp [hlt']) ?_ | refine wpK_outT (by simp [hlt']) ?_ | refine wpK_condT (by simp [hlt']) ?_ | refine wpK_endT (by simp [hlt']) ?_
      have hx := idx132 LL i hlt _ (hget i hlt)
      have hlti := nearS_lt lv i
      have hpi : 2 ^ i ≤ 2 ^ 24 := Nat.pow_le_pow_right (by omega) hi
      refine wpK_block ?_
      try simp only [wpK_assoc]
      refine wpK_reg (fun R hR => by simp [h9, h10, hx, opIndex]; exact hR) ?_
      try simp only [wpK_assoc]
      refine wpK_reg (fun R hR => by simp []; exact hR) ?_
      refine wpK_cut1 (J := fun A W' => A.n = 22 ∧ A.defers = [] ∧ A.tmps.get 9 = some (.agg ⟨intsV LL⟩) ∧ W' = W3 ∧ A.tmps.get 10 = some (.int .i64 i) ∧ A.tmps.get 3 = some (.int .u64 (nearS lv (i + 1) : Nat))) (fun Q2 hQ2 => ?_) ?_
      · by_cases hp : 0 < lv i
        · have hor := aBinI_or .u64 (nearS lv i) (1 <<< i) (by show _ < 18446744073709551616; omega) (one_lt (by omega))
          refine wpK_endT (by simp [hp]) ?_
          have e : nearS lv i ||| 1 <<< i = nearS lv (i + 1) := by rw [nearS, if_pos hp]
          rw [e] at hor
          have h1p := one_wp i (by omega) W3
          generalize 1 <<< i = q at hor h1p
          try simp only [wpK_assoc]
          refine wpK_reg1 (fun R hR => by
              simp [h3, aEnter, fun54, short_other, aCallV]; rw [callS_none]
              refine (h1p).mono ?_
              rintro _ W9 ⟨e9, rfl⟩; subst W9
              simp [h3, hor]; exact hR) ?_
          exact hQ2 _ _ ⟨rfl, rfl, by simp [h9], rfl, by simp [h10], by simp⟩
        · refine wpK_endF (by simp [hp]) (wpK_skip (hQ2 _ _ ⟨rfl, rfl, by simp [h9], rfl, by simp [h10], by simp [h3, nearS, hp]⟩))
      rintro ⟨tm, n, ds⟩ W4 ⟨hn, hd, h9, rfl, h10, h3⟩
      simp only at hn hd h9
      subst hn; subst hd
      simp only at h10 h3
      try simp only [wpK_assoc]
      refine wpK_reg1 (fun R hR => by simp [h10]; exact hR) ?_
      exact hI (k - 1) _ _ (by omega) ⟨rfl, rfl, by simp [h9], rfl, i + 1, by omega, by omega, by simp; exact i64_succ i (by omega), by simp [h3]⟩
    · obtain rfl : i = 24 := by omega
      try simp only [wpK_assoc]
      first | refine wpK_onF (by simp []) ?_ | refine wpK_out (by simp []) ?_ | refine wpK_condF (by simp []) ?_ | refine wpK_endF (by simp []) (wpK_skip ?_) | refine wpK_endF (by simp []) ?_
      exact hJ _ _ ⟨rfl, rfl, by simp [h9], rfl, by simp [h3]⟩
  · rintro A' W' hf; exact hf.elim
  · rintro ⟨tm, n, ds⟩ W3 ⟨hn, hd, h9, rfl, h3⟩
    simp only at hn hd h9
    subst hn; subst hd
    simp only at h3
    try simp only [wpK_assoc]
    refine wpK_reg (fun R hR => by simp [h3]; exact hR) ?_
    exact wpK_ret ⟨.inr rfl, rfl, [.int .u64 (nearS lv 24 : Nat)], by simp, rfl, rfl⟩
theorem firstCut_wp {W : AW} {ty : TypeId} {r : Value} {fz fs : FuncId} {P : Int} {l : List Quad} (h : PlanOf W ty r fz fs P l) (hP : PlanIn P l) {s t : Nat} (hst : two? s t P = true) (hT : tabsIn T0 T0.tabs W = true) (h0 : 0 < W.next) :
    WpF T0 57 [.iface ty r, .int .i64 s, .int .i64 t] W (fun u W' => Ext W W' ∧ ∃ x rm lv, u = .tuple ⟨[.int .u64 (nearS lv 24 : Nat), .int .i64 x]⟩ ∧ Filled (layL (1 <<< s) s l) s t (hCap (layL (1 <<< s) s l)) x rm lv) := by
  obtain ⟨hP2, hP24, _⟩ := hP.size
  simp only [two?, Bool.and_eq_true, decide_eq_true_eq] at hst
  refine wpF fun57 rfl ?_
  try simp only [wpK_assoc]
  refine wpK_reg (fun R hR => by simp []; exact hR) ?_
  try simp only [wpK_assoc]
  refine wpK_x2 (fun R hR => by
    simp [aEnter, fun54, short_other, aCallV]; rw [callS_none]
    refine (one_wp s (by omega) W).mono ?_
    rintro _ W2 ⟨hW2, rfl⟩
    subst W2
    simp [aEnter, fun53, short_other, aCallV]; rw [callS_none]
    refine (lay_wp h hP (by exact one_lt (by omega)) one_low.1 one_low.2 (by omega) (by omega) hT h0).mono ?_
    rintro _ W3 ⟨hE3, p, B, rfl, hp, hWk⟩
    simp; exact hR p B W3 (And.intro hE3 (And.intro hp hWk))) ?_
  rintro p B W3 ⟨hE3, hp, hWk⟩
  try simp only [wpK_assoc]
  refine wpK_x3 (fun R hR => by
      simp [aEnter, fun55, short_other, aCallV]; rw [callS_none]
      refine (fill_wp hWk (layL_ok hP (by omega)) (by omega) (by omega) (by omega) (cap_rooms (layL_ok hP (by omega)))).mono ?_
      rintro _ W4 ⟨x, rm', lv, rfl, hO4, hWk4, hF⟩
      simp []; exact hR x rm' lv W4 (And.intro hO4 (And.intro hWk4 hF))) ?_
  rintro x rm' lv W4 ⟨hO4, hWk4, hF⟩
  try simp only [wpK_assoc]
  refine wpK_reg (fun R hR => by
      simp [aEnter, fun61, short_other, aCallV]; rw [callS_none]
      refine (near_wp hWk4).mono ?_
      rintro _ W9 ⟨e9, rfl⟩; subst W9
      simp []; exact hR) ?_
  have hE4 : Ext W W4 := ⟨Nat.le_trans hE3.1 hO4.1, fun b hb hk => by rw [hO4.2 b (Nat.lt_of_lt_of_le hb hE3.1) (fun e => by omega)]; exact hE3.2 b hb hk⟩
  exact wpK_ret ⟨.inr rfl, rfl, [.int .u64 (nearS lv 24 : Nat), .int .i64 x], by simp, hE4, x, rm', lv, rfl, hF⟩
theorem wpK_range2 {T : Tabs} {f₀ : FuncId} {A : AAct} {W : AW} {Q : AExit → AAct → AW → Prop} {id : Nat} {b : Code} {g : Operand} {ps : Array Tmp} {asn bd : Code} {f : FuncId} {first cap : Array Value} {fn : Func}
    (hg : aEval T A.tmps g = some (.func (.func f) first cap)) (hf : T.funcs.get f = some fn)
    (h : ∀ W5 : AW, W5.next = W.next + 2 → (∀ b, b < W.next → W5.blocks.get b = W.blocks.get b) → W5.blocks.get W.next = some ⟨.deferred (some []), []⟩ → W5.blocks.get (W.next + 1) = some ⟨.loop .ready none f₀ A.tmps A.n ps asn bd W.next, []⟩ →
      WpF T f (first.toList ++ .func (.yield (W.next + 1)) #[] #[] :: cap.toList) W5 (fun _ W₂ =>
      ∃ st p fn' t' n' ps' as' bd' df', W₂.blocks.get (W.next + 1) = some ⟨.loop st p fn' t' n' ps' as' bd' df', []⟩ ∧ st ≠ .busy ∧
        goOn (leaves id (behind Q fun A' W' => WpK T ⟨f₀, none⟩ b A' W' Q)) { A with defers := { target := .collected W.next, args := #[] } :: A.defers } (W₂.setObj (W.next + 1) (.loop .exhausted p fn' t' n' ps' as' bd' df')) p)) :
    WpK T ⟨f₀, none⟩ (.seq (.block id (.rangeFunc g ps asn bd)) b) A W Q := by
  try simp only [wpK_assoc]
  refine wpK_range hg hf (h _ rfl (fun b hb => ?_) ?_ ?_)
  · simp only [AW.beforeLoop, AW.new, Tr.get_set]; rw [if_neg (by omega), if_neg (by omega)]
  · simp only [AW.beforeLoop, AW.new, Tr.get_set]; rw [if_neg (by omega), if_true]
  · simp only [AW.beforeLoop, AW.new, Tr.get_set]; rw [if_true]
theorem setObj_get (W : AW) (r : Nat) (o : AObj) (b : Nat) : (W.setObj r o).blocks.get b = if b = r then some ⟨o, []⟩ else W.blocks.get b := by
  simp only [AW.setObj, Tr.get_set]
theorem setObj_next (W : AW) (r : Nat) (o : AObj) : (W.setObj r o).next = W.next := rfl
theorem setObj_only (W : AW) (r : Nat) (o : AObj) : Only (fun b => b = r) W (W.setObj r o) := ⟨Nat.le_refl _, fun b _ hb => by rw [setObj_get, if_neg hb]⟩
def dropLow (x : Nat) : Nat := x &&& (x - 1)
theorem dropLow_bit {x k : Nat} (h1 : x.testBit k = true) (h2 : ∀ j, j < k → x.testBit j = false) (i : Nat) : (dropLow x).testBit i = (x.testBit i && decide (i ≠ k)) := by
  rw [dropLow, Nat.testBit_and, pred_bits h1 h2]
  by_cases hlt : i < k
  · rw [if_pos hlt, h2 i hlt]; rfl
  · rw [if_neg hlt]
    by_cases e : i = k
    · subst e; simp
    · rw [if_neg e]; simp [-testBit_dec, e]
theorem dropLow_lt {x : Nat} (h : x ≠ 0) : dropLow x < x := by
  have := Nat.and_le_right (n := x) (m := x - 1)
  unfold dropLow; omega
theorem memb_empty : ∀ (P s : Nat), (∀ j, j < P → s.testBit j = false) → memb P s = []
  | 0, _, _ => by simp [memb]
  | P + 1, s, h => by rw [memb_succ, memb_empty P s (fun j hj => h j (by omega)), h P (by omega)]; rfl
theorem memb_low {x k : Nat} (h1 : x.testBit k = true) (h2 : ∀ j, j < k → x.testBit j = false) : ∀ P, memb P x = (if k < P then [(k : Int)] else []) ++ memb P (dropLow x)
  | 0 => by simp [memb]
  | P + 1 => by
    rw [memb_succ, memb_succ, memb_low h1 h2 P, dropLow_bit h1 h2]
    by_cases e1 : P < k
    · rw [h2 P e1]
      simp only [Bool.false_and, Bool.false_eq_true, if_false, List.append_nil, if_neg (show ¬ k < P by omega), if_neg (show ¬ k < P + 1 by omega)]
    · by_cases e2 : P = k
      · subst e2
        rw [h1, memb_empty P (dropLow x) (fun j hj => by rw [dropLow_bit h1 h2, h2 j hj]; rfl)]
        simp
      · have : decide (P ≠ k) = true := by simp [e2]
        rw [this, Bool.and_true]
        simp only [if_pos (show k < P by omega), if_pos (show k < P + 1 by omega), List.append_assoc]
theorem places1_wp {l bx x : Nat} (C : Nat → AW → Prop) (hx : x < 18446744073709551616)
    (hC : ∀ left k W, C left W → left < 18446744073709551616 → left.testBit k = true → (∀ j, j < k → left.testBit j = false) → tabsIn T0 T0.tabs W = true ∧ ∃ st pd fn t n ps asn bd df kin t', W.blocks.get l = some ⟨.loop st pd fn t n ps asn bd df, kin⟩ ∧ aSetAll t n ps.toList [.int .i64 (k : Nat)] = some t' ∧
      WpR T0 l fn t' n asn bd W (fun v W' => v = .bool true ∧ C (dropLow left) W'))
    {W : AW} (h0 : C x W) (hb : W.Has bx 0 (.int .u64 (x : Nat))) : WpF T0 81 [.func (.yield l) #[] #[], .pointer (some ⟨bx, 0, none⟩)] W (fun _ W' => C 0 W') := by
  have hl := load_of und115 rfl hb
  refine wpF fun81 rfl ?_
  try simp only [wpK_assoc]
  refine wpK_reg (fun R hR => by simp [hl]; exact hR) ?_
  try simp only [wpK_assoc]
  refine wpK_while1 (I := fun k A W' => A.n = 16 ∧ A.defers = [] ∧ A.tmps.get 0 = some (.func (.yield l) #[] #[]) ∧ A.tmps.get 3 = some (.int .u64 (k : Nat)) ∧ k < 18446744073709551616 ∧ C k W')
    (J := fun A W' => A.defers = [] ∧ C 0 W') (Rt := fun _ _ => False) (k := x) ?_ ?_ ?_ ?_
  · exact ⟨rfl, rfl, by simp, by simp, hx, h0⟩
  · rintro k ⟨tm, n, ds⟩ W3 ⟨hn, hd, h0, h3, hk, hCk⟩ Q' hJ hRt hI
    simp only at hn hd h0
    subst hn; subst hd
    simp only at h3
    by_cases hz : k = 0
    · subst hz
      try simp only [wpK_assoc]
      refine wpK_reg (fun R hR => by simp [h3]; exact hR) ?_
      try simp only [wpK_assoc]
      first | refine wpK_onF (by simp []) ?_ | refine wpK_out (by simp []) ?_ | refine wpK_condF (by simp []) ?_ | refine wpK_endF (by simp []) (wpK_skip ?_) | refine wpK_endF (by simp []) ?_
      exact hJ _ _ ⟨rfl, hCk⟩
    have hz' : ¬ (k : Int) = 0 := by omega
    try simp only [wpK_assoc]
    refine wpK_reg (fun R hR => by simp [h3, hz', hz]; exact hR) ?_
    try simp only [wpK_assoc]
    first | refine wpK_onT (by simp []) ?_ | refine wpK_outT (by simp []) ?_ | refine wpK_condT (by simp []) ?_ | refine wpK_endT (by simp []) ?_
    obtain ⟨q, hq1, hq2⟩ := low_ex hz
    obtain ⟨hT, st, pd, fn, t', n', ps, asn, bd, df, kin, tt, hy1, hy2, hy3⟩ := hC k q W3 hCk hk hq1 hq2
    refine wpK_block ?_
    try simp only [wpK_assoc]
    refine wpK_x0 (fun R hR => by
      simp [h0, h3, aEnter, fun75, short_other, aCallV]; rw [callS_none]
      refine (first_wp hT hk hq1 hq2).mono ?_
      rintro _ W9 ⟨e9, rfl⟩; subst W9
      simp [aEnter, hy1, hy2, aCallV, nextS_round]
      refine hy3.mono ?_
      rintro _ W4 ⟨rfl, hC4⟩
      simp; exact hR W4 hC4) ?_
    rintro W4 hC4
    try simp only [wpK_assoc]
    first | refine wpK_onF (by simp []) ?_ | refine wpK_out (by simp []) ?_ | refine wpK_condF (by simp []) ?_ | refine wpK_endF (by simp []) (wpK_skip ?_) | refine wpK_endF (by simp []) ?_
    have w1 : IntKind.u64.wrap ((k : Int) - 1) = ((k - 1 : Nat) : Int) := by
      have : ((k : Int) - 1) = ((k - 1 : Nat) : Int) := by omega
      rw [this]; exact wrap_nat .u64 _ (by show k - 1 < 18446744073709551616; omega)
    have hand := aBinI_and .u64 k (k - 1) (by show k < 18446744073709551616; omega) (by show k - 1 < 18446744073709551616; omega)
    have hlt := dropLow_lt hz
    try simp only [wpK_assoc]
    refine wpK_reg1 (fun R hR => by simp [h3, w1, hand]; exact hR) ?_
    exact hI (dropLow k) _ _ hlt ⟨rfl, rfl, by simp [h0], by simp; rfl, by omega, hC4⟩
  · rintro A' W' hf; exact hf.elim
  · rintro A' W' ⟨h1, h2⟩
    exact ⟨.inl rfl, h1, [], by rfl, h2⟩
theorem zero46 : aZero T0 46 = some (.slice none 0 0) := by kernel_rfl
theorem places_wp {W : AW} (x : Nat) : WpF T0 66 [.int .u64 (x : Nat)] W (fun v W' => Ext W W' ∧ v = .func (.func 81) ⟨[]⟩ ⟨[.pointer (some ⟨W.next, 0, none⟩)]⟩ ∧ W'.Has W.next 0 (.int .u64 (x : Nat))) := by
  refine wpF fun66 rfl ?_
  try simp only [wpK_assoc]
  refine wpK_reg (fun R hR => by simp []; exact hR) ?_
  try simp only [wpK_assoc]
  refine wpK_reg (fun R hR => by simp [opMakeFunc]; exact hR) ?_
  exact wpK_ret ⟨.inr rfl, rfl, [.func (.func 81) ⟨[]⟩ ⟨[.pointer (some ⟨W.next, 0, none⟩)]⟩], by simp, .newCells _ _ _, rfl, (Var.new W 115 [.int .u64 (x : Nat)]).has rfl⟩
theorem list_wp {W : AW} {x : Nat} (hx : x < 16777216) (hT : tabsIn T0 T0.tabs W = true) (h0 : 0 < W.next) :
    WpF T0 58 [.int .u64 (x : Nat)] W (fun v W' => Ext W W' ∧ GrowsN W' v (memb 24 x).length (intsV (memb 24 x)) 3 1 (fun b => W.next ≤ b)) := by
  refine wpFd fun58 rfl ?_
  obtain ⟨W1, hW1, hE1, hn1, hV1⟩ : ∃ W1, W1 = W.newCells 46 [.slice none 0 0] ∧ Ext W W1 ∧ W1.next = W.next + 1 ∧ Var W1 W.next 46 [.slice none 0 0] := ⟨_, rfl, .newCells _ _ _, rfl, Var.new _ _ _⟩
  try simp only [wpK_assoc]
  refine wpK_reg (fun R hR => by simp []; exact hR) ?_
  try simp only [wpK_assoc]
  refine wpK_reg (fun R hR => by simp [zero46, ← hW1]; exact hR) ?_
  try simp only [wpK_assoc]
  refine wpK_x0 (fun R hR => by
      simp [aEnter, fun66, short_other, aCallV]; rw [callS_none]
      refine (places_wp x).mono ?_
      rintro _ W2 ⟨hE2, rfl, hB2⟩
      simp []; exact hR W2 (And.intro hE2 hB2)) ?_
  rintro W2 ⟨hE2, hB2⟩
  refine wpK_keep (fun tm' => tm'.get 3 = some (.pointer (some ⟨W.next, 0, none⟩)) ∧ tm'.get 6 = some (.func (.func 81) ⟨[]⟩ ⟨[.pointer (some ⟨W1.next, 0, none⟩)]⟩)) ⟨by simp, by simp⟩ ?_
  rintro tm ⟨h3, h6⟩
  have n2 := hE2.1
  refine wpK_range2 (f := 81) (first := ⟨[]⟩) (cap := ⟨[.pointer (some ⟨W1.next, 0, none⟩)]⟩) (by simp [h6]) fun81 (fun W5 hn5 hW5 hdf hlp => ?_)
  have hE25 : Ext W2 W5 := ⟨by omega, fun b hb _ => hW5 b hb⟩
  have hV5 := (hV1.ext hE2).ext hE25
  have hE5 : Ext W W5 := (hE1.trans hE2).trans hE25
  have hmw : (memb 24 x).length ≤ 24 := memb_len 24 x
  refine (places1_wp (l := W2.next + 1) (bx := W1.next) (x := x) (fun left W' => Ext W W' ∧ W5.next ≤ W'.next ∧ W'.blocks.get (W2.next + 1) = W5.blocks.get (W2.next + 1) ∧ W'.blocks.get W2.next = W5.blocks.get W2.next ∧ left < 16777216 ∧
    ∃ v l0, memb 24 x = l0 ++ memb 24 left ∧ Var W' W.next 46 [v] ∧ GrowsN W' v l0.length (intsV l0) 3 1 (fun b => W5.next ≤ b)) (by omega) (fun left k W' hC hl hb1 hb2 => ?_) ⟨hE5, Nat.le_refl _, rfl, rfl, hx, _, [], rfl, hV5, .nil _ _ _ _⟩ (hB2.ext hE25)).mono ?_
  · obtain ⟨c1, c2, c3, c4, c5, v, l0, c6, c7, c8⟩ := hC
    have hl := c3.trans hlp
    have hk24 : k < 24 := by
      apply Classical.byContradiction
      intro hk
      rw [Nat.testBit_lt_two_pow (Nat.lt_of_lt_of_le (show left < 2 ^ 24 from c5) (Nat.pow_le_pow_right (by omega) (by omega)))] at hb1
      cases hb1
    refine ⟨tabs_ext hT h0 c1, _, _, _, _, _, _, _, _, _, _, tm.set 7 (.int .i64 (k : Nat)), hl, rfl, ?_⟩
    refine wpR ?_
    try simp only [wpK_assoc]
    refine wpK_reg1 (fun R hR => by simp []; exact hR) ?_
    refine ⟨rfl, _, _, _, _, _, _, _, _, hl, ?_⟩
    generalize hbz : (AObj.loop LoopState.busy _ _ _ _ _ _ _ _) = bz
    obtain ⟨Wb, hWb, hOb, hnb⟩ : ∃ Wb, Wb = W'.setObj (W2.next + 1) bz ∧ Only (fun b => b = W2.next + 1) W' Wb ∧ Wb.next = W'.next := ⟨_, rfl, setObj_only _ _ _, rfl⟩
    rw [← hWb]
    have hlb : Wb.blocks.get (W2.next + 1) = some ⟨bz, []⟩ := by rw [hWb, setObj_get, if_pos rfl]
    have c7b := c7.only hOb (by omega)
    have c8b := c8.only hOb (fun b _ hb e => by omega)
    have hl0 : l0.length ≤ 24 := by
      have := congrArg List.length c6
      rw [List.length_append] at this; omega
    obtain ⟨v', Wc, Wd, a1, a2, a3, a4, a5, a6, a7⟩ := Var.push (T := T0) (t := 46) (el := 3) (i := Tryd.t3) (it := Tryd.t46) (sz := 1) (by omega) und46 inf3 is3 z3 rfl inf46 is46 c8b c7b (o := 0) (by omega) (by simp) (u := [.int .i64 (k : Nat)]) rfl rfl (by rw [by3]; omega) (by omega)
    have a1 : aAppend T0 (Wb.newCells 3 [.int .i64 (k : Nat)]) [46, 46] [v, .slice (some ⟨Wb.next, 0, none⟩) 1 2] = some (v', Wc) := a1
    have hld := c7b.load1 (T := T0) und46 rfl (j := 0) (v := v) rfl
    refine wpK_block1 ?_
    try simp only [wpK_assoc]
    refine wpK_reg1 (fun R hR => by simp [h3, hld, bs46, a1, a2]; exact hR) ?_
    simp only [leaves_normal]
    have hdl : Wd.blocks.get (W2.next + 1) = some ⟨bz, []⟩ := by rw [a7.2 _ (by omega) (by omega)]; exact hlb
    subst hbz
    refine ⟨_, _, _, _, _, _, _, _, _, hdl, rfl, ?_⟩
    have hOz := fun o => setObj_only Wd (W2.next + 1) o
    have hml := memb_low hb1 hb2 24
    rw [if_pos hk24] at hml
    refine ⟨⟨by rw [setObj_next]; have := c1.1; omega, fun b hb hk => ?_⟩, by rw [setObj_next]; omega, by rw [setObj_get, if_pos rfl]; exact hlp.symm, ?_, ?_, v', l0 ++ [(k : Int)], ?_, ?_, ?_⟩
    · rw [setObj_get, if_neg (by omega), a7.2 b (by have := c1.1; omega) (by omega), hOb.2 b (by have := c1.1; omega) (by omega)]
      exact c1.2 b hb hk
    · rw [setObj_get, if_neg (by omega), a7.2 _ (by omega) (by omega), hOb.2 _ (by omega) (by omega)]; exact c4
    · have := dropLow_lt (x := left) (fun e => by subst e; simp at hb1)
      omega
    · rw [c6, hml]; simp
    · exact (by simpa using a5 : Var Wd W.next 46 [v']).only (hOz _) (by omega)
    · have e1 : (l0 ++ [(k : Int)]).length = l0.length + 1 := by simp
      have e2 : intsV (l0 ++ [(k : Int)]) = intsV l0 ++ [.int .i64 (k : Nat)] := by simp [intsV]
      rw [e1, e2]
      exact (a6.only (K' := fun b => b = W2.next + 1) (hOz _) (fun b _ hb e => by omega)).mono (K' := fun b => W5.next ≤ b) (fun b hb => by omega)
  · rintro _ W6 ⟨c1, c2, c3, c4, c5, v, l0, c6, c7, c8⟩
    have hl6 := c3.trans hlp
    rw [memb_empty 24 0 (fun j _ => by simp), List.append_nil] at c6
    subst c6
    refine ⟨_, _, _, _, _, _, _, _, _, hl6, (fun h => by cases h), ?_⟩
    show WpK T0 ⟨58, none⟩ _ _ _ _
    generalize hex : (AObj.loop LoopState.exhausted _ _ _ _ _ _ _ _) = ex
    obtain ⟨W7, hW7, hO7, hn7⟩ : ∃ W7, W7 = W6.setObj (W2.next + 1) ex ∧ Only (fun b => b = W2.next + 1) W6 W7 ∧ W7.next = W6.next := ⟨_, rfl, setObj_only _ _ _, rfl⟩
    rw [← hW7]
    clear hW7 hex
    have c77 := c7.only hO7 (by omega)
    have hld := c77.load1 (T := T0) und46 rfl (j := 0) (v := v) rfl
    try simp only [wpK_assoc]
    refine wpK_reg (fun R hR => by simp [h3, hld]; exact hR) ?_
    have hdf7 : W7.blocks.get W2.next = some ⟨.deferred (some []), []⟩ := by rw [hO7.2 _ (by omega) (by omega), c4]; exact hdf
    refine wpK_ret ⟨.inr rfl, W7.setObj W2.next (.deferred none), ⟨W2.next, rfl, hdf7, rfl⟩, [v], by simp, ⟨by rw [setObj_next]; have := c1.1; omega, fun b hb hk => ?_⟩, ?_⟩
    · rw [setObj_get, if_neg (by omega), hO7.2 b (by have := c1.1; omega) (by omega)]; exact c1.2 b hb hk
    · exact ((c8.only hO7 (fun b _ hb e => by omega)).only (K' := fun b => b = W2.next) (setObj_only _ _ _) (fun b _ hb e => by omega)).mono (fun b hb => by omega)
end Go.Proofs.YtkgfjfkgmpeobaaDoor