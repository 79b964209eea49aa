import Derived.Test.YtdpnplanohgecaaDoorEngRd
import Derived.IntWalk
set_option linter.unusedSimpArgs false
set_option linter.unusedVariables false
set_option linter.unusedSectionVars false
namespace Go.Eng

/-! ### what the operations come to at numbers that are not known -/
theorem blt_dec (a b : Nat) : Nat.blt a b = decide (a < b) := by rw [Bool.eq_iff_iff]; simp [Nat.blt_eq]
theorem ble_dec (a b : Nat) : Nat.ble a b = decide (a ≤ b) := by rw [Bool.eq_iff_iff]; simp
theorem beq_dec (a b : Nat) : Nat.beq a b = decide (a = b) := by rw [Bool.eq_iff_iff]; simp

theorem aQuick_spec {op : BinOp} {k : IntKind} {x y : Nat} {v : Value} (hf : ∀ u, fastInt op k x y = some u → u = v) (hs : fastShift op k x y = none) (hi : aInts op k (.ofNat x) k (.ofNat y) = some v) : aQuick op k x k y = some v := by
  unfold aQuick
  have : ikEq k k = true := by simp [ikEq, Nat.beq_refl]
  rw [this]
  simp only
  cases h : fastInt op k x y with
  | some u => rw [hf u h]
  | none => simp only [hs, hi]
theorem aBinI_all {op : BinOp} {k : IntKind} {a b : Int} {v : Value} (hf : ∀ x y u, a = .ofNat x → b = .ofNat y → fastInt op k x y = some u → u = v) (hs : ∀ x y, fastShift op k x y = none) (hi : aInts op k a k b = some v) : aBinI op k a k b = some v := by
  unfold aBinI
  split
  · rename_i x y; exact aQuick_spec (fun u => hf x y u rfl rfl) (hs x y) hi
  · exact hi

theorem aBinI_add (k : IntKind) (a b : Int) : aBinI .add k a k b = some (.int k (k.wrap (a + b))) := by
  refine aBinI_all (fun x y u ha hb h => ?_) (fun _ _ => rfl) (by simp [aInts, aBinInt, aPure, Op.intArith, flat1, pure])
  subst ha; subst hb
  simp only [fastInt] at h
  split at h
  · rename_i hlt
    rw [Nat.blt_eq] at hlt
    cases h
    have := wrap_lim k (x + y) hlt
    rw [← show (Int.ofNat x + Int.ofNat y) = Int.ofNat (x + y) from rfl] at this
    rw [this]; rfl
  · cases h
theorem aBinI_sub (k : IntKind) (a b : Int) : aBinI .sub k a k b = some (.int k (k.wrap (a - b))) := by
  refine aBinI_all (fun x y u ha hb h => ?_) (fun _ _ => rfl) (by simp [aInts, aBinInt, aPure, Op.intArith, flat1, pure])
  subst ha; subst hb
  simp only [fastInt] at h
  split at h
  · rename_i h1 h2
    have h1 := Nat.le_of_ble_eq_true h1
    rw [Nat.blt_eq] at h2
    cases h
    have := wrap_lim k (x - y) (by omega)
    have e : (Int.ofNat x - Int.ofNat y) = Int.ofNat (x - y) := by simp only [Int.ofNat_eq_natCast]; omega
    rw [e, this]; rfl
  · cases h
theorem aBinI_mul (k : IntKind) (a b : Int) : aBinI .mul k a k b = some (.int k (k.wrap (a * b))) := by
  refine aBinI_all (fun x y u ha hb h => ?_) (fun _ _ => rfl) (by simp [aInts, aBinInt, aPure, Op.intArith, flat1, pure])
  subst ha; subst hb
  simp only [fastInt] at h
  split at h
  · rename_i hlt
    rw [Nat.blt_eq] at hlt
    cases h
    have := wrap_lim k (x * y) hlt
    rw [← show (Int.ofNat x * Int.ofNat y) = Int.ofNat (x * y) from rfl] at this
    rw [this]; rfl
  · cases h
theorem aBinI_rem (k : IntKind) (a b : Int) (hb : b ≠ 0) : aBinI .rem k a k b = some (.int k (a.tmod b)) := by
  refine aBinI_all (fun x y u ha hb h => ?_) (fun _ _ => rfl) (by simp [aInts, aBinInt, aPure, Op.intDiv, flat1, pure, hb])
  subst ha; subst hb
  simp only [fastInt] at h
  split at h
  · cases h; rfl
  · cases h
theorem aBinI_lss (k : IntKind) (a b : Int) : aBinI .lss k a k b = some (.bool (decide (a < b))) := by
  refine aBinI_all (fun x y u ha hb h => ?_) (fun _ _ => rfl) (by simp [aInts, aBinInt, aPure, Op.intCmp, flat1, pure])
  subst ha; subst hb
  simp only [fastInt] at h
  cases h
  rw [blt_dec]; congr 1; simp [Int.ofNat_lt]
theorem aBinI_leq (k : IntKind) (a b : Int) : aBinI .leq k a k b = some (.bool (decide (a ≤ b))) := by
  refine aBinI_all (fun x y u ha hb h => ?_) (fun _ _ => rfl) (by simp [aInts, aBinInt, aPure, Op.intCmp, flat1, pure])
  subst ha; subst hb
  simp only [fastInt] at h
  cases h
  rw [ble_dec]; congr 1; simp [Int.ofNat_le]
theorem aBinI_gtr (k : IntKind) (a b : Int) : aBinI .gtr k a k b = some (.bool (decide (b < a))) := by
  refine aBinI_all (fun x y u ha hb h => ?_) (fun _ _ => rfl) (by simp [aInts, aBinInt, aPure, Op.intCmp, flat1, pure])
  subst ha; subst hb
  simp only [fastInt] at h
  cases h
  rw [blt_dec]; congr 1; simp [Int.ofNat_lt]
theorem aBinI_geq (k : IntKind) (a b : Int) : aBinI .geq k a k b = some (.bool (decide (b ≤ a))) := by
  refine aBinI_all (fun x y u ha hb h => ?_) (fun _ _ => rfl) (by simp [aInts, aBinInt, aPure, Op.intCmp, flat1, pure])
  subst ha; subst hb
  simp only [fastInt] at h
  cases h
  rw [ble_dec]; congr 1; simp [Int.ofNat_le]
theorem aBinI_eql (k : IntKind) (a b : Int) : aBinI .eql k a k b = some (.bool (decide (a = b))) := by
  refine aBinI_all (fun x y u ha hb h => ?_) (fun _ _ => rfl) (by simp [aInts, aBinInt, aPure, Op.intCmp, flat1, pure]; rfl)
  subst ha; subst hb
  simp only [fastInt] at h
  cases h
  rw [beq_dec]; congr 1; simp; omega
theorem aBinI_neq (k : IntKind) (a b : Int) : aBinI .neq k a k b = some (.bool (decide (a ≠ b))) := by
  refine aBinI_all (fun x y u ha hb h => ?_) (fun _ _ => rfl) (by simp [aInts, aBinInt, aPure, Op.intCmp, flat1, pure]; rw [Bool.eq_iff_iff]; simp)
  subst ha; subst hb
  simp only [fastInt] at h
  cases h
  rw [beq_dec]; congr 1; simp; omega

theorem nat_lor (a b : Nat) : Nat.lor a b = a ||| b := rfl
theorem nat_land (a b : Nat) : Nat.land a b = a &&& b := rfl
theorem nat_pow (a b : Nat) : Nat.pow a b = a ^ b := rfl
theorem testBit_dec (m i : Nat) : Nat.testBit m i = decide (m / 2 ^ i % 2 = 1) := by
  rw [Nat.testBit_eq_decide_div_mod_eq]

/-- the same values are the same -/
theorem valEq_int (k : IntKind) (a : Int) : valEq (.int k a) (.int k a) = true := by simp [valEq]
theorem listEq_nil : listEq [] [] = true := rfl
theorem listEq_cons {a b : Value} {l m : List Value} (h : valEq a b = true) (h' : listEq l m = true) : listEq (a :: l) (b :: m) = true := by simp [listEq, h, h']
end Go.Eng
