import Derived.Test.YtdpnplanohgecaaDoorEngD
import Derived.IntWalk
set_option linter.unusedSimpArgs false
set_option linter.unusedVariables false
set_option linter.unusedSectionVars false
namespace Go.Eng
def aStr (op : BinOp) (x y : ByteArray) : Option Value :=
 match op with
 | .add => match Nat.ble (x.data.toList.length + y.data.toList.length) 4611686018427387904 with
  | true => some (.string ⟨⟨x.data.toList ++ y.data.toList⟩⟩)
  | false => none
 | .eql => some (.bool (x.data.toList == y.data.toList))
 | .neq => some (.bool (!(x.data.toList == y.data.toList)))
 | .lss => some (.bool (Op.bytesLess x.data.toList y.data.toList))
 | .leq => some (.bool (Op.bytesLess x.data.toList y.data.toList || x.data.toList == y.data.toList))
 | .gtr => some (.bool (!(Op.bytesLess x.data.toList y.data.toList || x.data.toList == y.data.toList)))
 | .geq => some (.bool (!(Op.bytesLess x.data.toList y.data.toList)))
 | _ => none
theorem aStr_spec {op : BinOp} {x y : ByteArray} {v : Value} (h : aStr op x y = some v) (P : Program) (w : World) (η : Env) :
  (Op.stringOp op x y).run P w = .ok v w /\ VR η v v := by
 unfold aStr at h
 unfold Op.stringOp
 simp only [Lib.toList_data]
 split at h
 ·split at h
  ·rename_i hle
   cases h
   have hle : x.data.toList.length + y.data.toList.length <= 4611686018427387904 := by simpa using hle
   have hx : x.size = x.data.toList.length := rfl
   have hy : y.size = y.data.toList.length := rfl
   have : ¬ (((x.size + y.size : Nat) : Int) > IntKind.i64.max) := by
    rw [hx, hy]; simp only [IntKind.max]; simp [IntKind.bits, IntKind.signed]; omega
   have e : (x ++ y) = ⟨⟨x.data.toList ++ y.data.toList⟩⟩ := ByteArray.ext (Array.toList_inj.1 (by simp [ByteArray.data_append]))
   refine ⟨?_, .string _⟩
   simp only [this, if_false, Sem.run_pure, e]
  ·cases h
 all_goals first | (cases h; exact ⟨rfl, .bool _⟩) | cases h
def aBinInt (op : BinOp) (k : IntKind) (a : Int) (k' : IntKind) (b : Int) : Option Value :=
 match op with
 | .shl | .shr => aPure (Op.shift op k a k' b)
 | _ => match decide (k = k') with
  | false => none
  | true => match op with
   | .add | .sub | .mul => aPure (Op.intArith op k a b)
   | .quo | .rem => aPure (Op.intDiv op k a b)
   | .and | .or | .xor | .andNot => aPure (Op.intBits op k a b)
   | _ => aPure (Op.intCmp op a b)
def aEq (T : Tabs) (t : TypeId) (x y : Value) : Option Bool :=
 match T.und.get t with
 | none => none
 | some d => match d, x, y with
  | .bool, .bool a, .bool b => some (a == b)
  | .pointer _, .pointer none, .pointer b => some b.isNone
  | .pointer _, .pointer (some _), .pointer none => some false
  | .pointer elem, .pointer (some ⟨b, o, none⟩), .pointer (some ⟨b', o', none⟩) => match Nat.beq b b' with
   | true => match aSize T elem with
    | some n => match n with
     | 0 => none
     | _ + 1 => some (Nat.beq o o')
    | none => none
   | false => none
  | .interface _, .nilIface, .nilIface => some true
  | .interface _, .nilIface, .iface _ _ => some false
  | .interface _, .iface _ _, .nilIface => some false
  | .slice _, .slice none _ _, .slice b _ _ => some b.isNone
  | .slice _, .slice (some _) _ _, .slice none _ _ => some false
  | .map _ _, .map none, .map b => some b.isNone
  | .map _ _, .map (some _), .map none => some false
  | .func _ _ _, .nilFunc, .nilFunc => some true
  | .func _ _ _, .nilFunc, .func _ _ _ => some false
  | .func _ _ _, .func _ _ _, .nilFunc => some false
  | _, _, _ => none
theorem beq_addr (r o o' : Nat) : ((⟨r, o, none⟩ : Addr) == ⟨r, o', none⟩) = (o == o') := by
 rw [Bool.eq_iff_iff]; simp
theorem aEq_spec {T : Tabs} {P : Program} (hT : T.Ok P) {η : Env} {t : TypeId} {x y x' y' : Value} {r : Bool} (h : aEq T t x y = some r) (hx : VR η x x') (hy : VR η y y') (w : World) :
  (Op.equal t x' y').run P w = .ok r w := by
 unfold aEq at h
 split at h
 ·cases h
 rename_i d hd
 have hu := run_under (w := w) (hT.und _ _ hd)
 unfold Op.equal
 rw [show Op.maxDepth = 9999 + 1 from rfl, Op.equalIn]
 simp only [Sem.run_bind, hu, Result.andThen_ok]
 split at h
 ·cases hx; cases hy; cases h; rfl
 ·rename_i b
  cases hx
  cases hy with
  | ptrNil => cases h; rfl
  | ptr => cases h; rfl
 ·cases hx; cases hy; cases h; rfl
 ·rename_i elem b o b' o'
  split at h
  ·rename_i hb
   have hb := Nat.eq_of_beq_eq_true hb
   subst hb
   split at h
   ·rename_i n hn
    split at h
    ·cases h
    ·cases h
     cases hx with
     | ptr _ _ e he =>
      cases hy with
      | ptr _ _ e' he' =>
       rw [he] at he'; cases he'
       simp only [Sem.run_bind, aSize_spec hT hn, Result.andThen_ok]
       simp [sameAddr, beq_addr]
       rw [Bool.eq_iff_iff]; simp
   ·cases h
  ·cases h
 ·cases hx; cases hy; cases h; rfl
 ·cases hx; cases hy; cases h; rfl
 ·cases hx; cases hy; cases h; rfl
 ·cases hx; cases hy <;> (cases h; rfl)
 ·cases hx <;> (cases hy; cases h; rfl)
 ·cases hx; cases hy <;> (cases h; rfl)
 ·cases hx <;> (cases hy; cases h; rfl)
 ·cases hx; cases hy; cases h; rfl
 ·cases hx; cases hy; cases h; rfl
 ·cases hx; cases hy; cases h; rfl
 ·cases h
def isConstO : Operand -> Bool
 | .const _ => true
 | _ => false
def aGuard (op : BinOp) (xo yo : Operand) (x y : Value) : Bool :=
 match op with
 | .eql | .neq => match x, y with
  | .nilIface, .nilIface => isConstO xo || isConstO yo
  | .agg _, .agg _ => false
  | _, _ => true
 | _ => true
theorem aGuard_spec {op : BinOp} {t : TypeId} {xo yo : Operand} {η : Env} {x y x' y' : Value} (h : aGuard op xo yo x y = true) (hx : VR η x x') (hy : VR η y y') (P : Program) (w : World) :
    (eqGuard op t xo yo x' y').run P w = .ok () w := by
  cases op <;> first
    | rfl
    | (cases hx <;> first
         | rfl
         | (cases hy <;> first
             | rfl
             | (simp [aGuard] at h; done)
             | (cases xo <;> cases yo <;> first | rfl | (simp [aGuard, isConstO] at h; done))))
def ikIdx : IntKind -> Nat
 | .i8 => 0 | .i16 => 1 | .i32 => 2 | .i64 => 3 | .u8 => 4 | .u16 => 5 | .u32 => 6 | .u64 => 7
def ikEq (a b : IntKind) : Bool := Nat.beq (ikIdx a) (ikIdx b)
theorem ikEq_spec {a b : IntKind} (h : ikEq a b = true) : a = b := by
 have h := Nat.eq_of_beq_eq_true h
 cases a <;> cases b <;> first | rfl | (simp [ikIdx] at h)
def ikLim : IntKind -> Nat
 | .i8 => 128 | .i16 => 32768 | .i32 => 2147483648 | .i64 => 9223372036854775808 | .u8 => 256 | .u16 => 65536 | .u32 => 4294967296 | .u64 => 18446744073709551616
theorem wrap_lim (k : IntKind) (n : Nat) (h : n < ikLim k) : k.wrap (Int.ofNat n) = Int.ofNat n := by
 cases k <;> simp only [ikLim] at h
 ·exact IntWalk.i8_in _ (by rw [Int.ofNat_eq_natCast]; omega)
 ·exact IntWalk.i16_in _ (by rw [Int.ofNat_eq_natCast]; omega)
 ·exact IntWalk.i32_in _ (by rw [Int.ofNat_eq_natCast]; omega)
 ·exact IntWalk.i64_in _ (by rw [Int.ofNat_eq_natCast]; omega)
 ·exact IntWalk.u8_in _ (by rw [Int.ofNat_eq_natCast]; omega)
 ·exact IntWalk.u16_in _ (by rw [Int.ofNat_eq_natCast]; omega)
 ·exact IntWalk.u32_in _ (by rw [Int.ofNat_eq_natCast]; omega)
 ·exact IntWalk.u64_in _ (by rw [Int.ofNat_eq_natCast]; omega)
def ikPow : IntKind -> Nat
 | .i8 => 7 | .i16 => 15 | .i32 => 31 | .i64 => 63 | .u8 => 8 | .u16 => 16 | .u32 => 32 | .u64 => 64
theorem ikLim_pow (k : IntKind) : ikLim k = 2 ^ ikPow k := by cases k <;> rfl
theorem ikPow_le (k : IntKind) : ikPow k <= k.bits := by cases k <;> decide
theorem ofInt_lim (k : IntKind) (n : Nat) (h : n < ikLim k) : (BitVec.ofInt k.bits (Int.ofNat n)).toNat = n := by
 rw [BitVec.toNat_ofInt]
 have h1 : n < 2 ^ k.bits := Nat.lt_of_lt_of_le (ikLim_pow k ▸ h) (Nat.pow_le_pow_right (by omega) (ikPow_le k))
 have e : (Int.ofNat n) % ((2 ^ k.bits : Nat) : Int) = ((n % 2 ^ k.bits : Nat) : Int) := rfl
 rw [e, Int.toNat_natCast, Nat.mod_eq_of_lt h1]
def fastInt (op : BinOp) (k : IntKind) (x y : Nat) : Option Value :=
 match op with
 | .add => match Nat.blt (Nat.add x y) (ikLim k) with
  | true => some (.int k (.ofNat (Nat.add x y)))
  | false => none
 | .sub => match Nat.ble y x, Nat.blt x (ikLim k) with
  | true, true => some (.int k (.ofNat (Nat.sub x y)))
  | _, _ => none
 | .mul => match Nat.blt (Nat.mul x y) (ikLim k) with
  | true => some (.int k (.ofNat (Nat.mul x y)))
  | false => none
 | .quo => match Nat.blt 0 y, Nat.blt x (ikLim k) with
  | true, true => some (.int k (.ofNat (Nat.div x y)))
  | _, _ => none
 | .rem => match Nat.blt 0 y with
  | true => some (.int k (.ofNat (Nat.mod x y)))
  | false => none
 | .and => match Nat.blt x (ikLim k), Nat.blt y (ikLim k) with
  | true, true => some (.int k (.ofNat (Nat.land x y)))
  | _, _ => none
 | .or => match Nat.blt x (ikLim k), Nat.blt y (ikLim k) with
  | true, true => some (.int k (.ofNat (Nat.lor x y)))
  | _, _ => none
 | .xor => match Nat.blt x (ikLim k), Nat.blt y (ikLim k) with
  | true, true => some (.int k (.ofNat (Nat.xor x y)))
  | _, _ => none
 | .eql => some (.bool (Nat.beq x y))
 | .neq => some (.bool (!(Nat.beq x y)))
 | .lss => some (.bool (Nat.blt x y))
 | .leq => some (.bool (Nat.ble x y))
 | .gtr => some (.bool (Nat.blt y x))
 | .geq => some (.bool (Nat.ble y x))
 | _ => none
theorem fastInt_spec {op : BinOp} {t : TypeId} {k : IntKind} {x y : Nat} {v : Value} (h : fastInt op k x y = some v) (P : Program) (w : World) :
  (binOp op t (.int k (.ofNat x)) (.int k (.ofNat y))).run P w = .ok v w /\ flat1 v = true := by
 unfold fastInt at h
 cases op <;> simp only at h <;> try (cases h; done)
 case add =>
  split at h
  ·rename_i hl; rw [Nat.blt_eq] at hl; cases h
   refine ⟨?_, rfl⟩
   simp only [binOp, ne_eq, not_true_eq_false, if_false, Op.intArith, Sem.run_pure]
   congr 2
   exact wrap_lim k (x + y) hl
  ·cases h
 case sub =>
  split at h
  ·rename_i h1 h2; rw [Nat.blt_eq] at h2; have h1 := Nat.le_of_ble_eq_true h1; cases h
   refine ⟨?_, rfl⟩
   simp only [binOp, ne_eq, not_true_eq_false, if_false, Op.intArith, Sem.run_pure]
   congr 2
   have e : (Int.ofNat x - Int.ofNat y) = Int.ofNat (x - y) := by rw [Int.ofNat_eq_natCast, Int.ofNat_eq_natCast, Int.ofNat_eq_natCast]; omega
   rw [e]
   exact wrap_lim k (x - y) (by omega)
  ·cases h
 case mul =>
  split at h
  ·rename_i hl; rw [Nat.blt_eq] at hl; cases h
   refine ⟨?_, rfl⟩
   simp only [binOp, ne_eq, not_true_eq_false, if_false, Op.intArith, Sem.run_pure]
   congr 2
   exact wrap_lim k (x * y) hl
  ·cases h
 case quo =>
  split at h
  ·rename_i h1 h2; rw [Nat.blt_eq] at h1 h2; cases h
   refine ⟨?_, rfl⟩
   have hy : (Int.ofNat y) ≠ 0 := by rw [Int.ofNat_eq_natCast]; omega
   simp only [binOp, ne_eq, not_true_eq_false, if_false, Op.intDiv, hy, Sem.run_pure]
   congr 2
   exact wrap_lim k (x / y) (Nat.lt_of_le_of_lt (Nat.div_le_self _ _) h2)
  ·cases h
 case rem =>
  split at h
  ·rename_i h1; rw [Nat.blt_eq] at h1; cases h
   refine ⟨?_, rfl⟩
   have hy : (Int.ofNat y) ≠ 0 := by rw [Int.ofNat_eq_natCast]; omega
   simp only [binOp, ne_eq, not_true_eq_false, if_false, Op.intDiv, hy, Sem.run_pure]
   rfl
  ·cases h
 case and =>
  split at h
  ·rename_i h1 h2; rw [Nat.blt_eq] at h1 h2; cases h
   refine ⟨?_, rfl⟩
   simp only [binOp, ne_eq, not_true_eq_false, if_false, Op.intBits, Sem.run_pure, BitVec.toNat_and, ofInt_lim k x h1, ofInt_lim k y h2]
   congr 2
   exact wrap_lim k (x &&& y) (Nat.lt_of_le_of_lt Nat.and_le_left h1)
  ·cases h
 case or =>
  split at h
  ·rename_i h1 h2; rw [Nat.blt_eq] at h1 h2; cases h
   refine ⟨?_, rfl⟩
   simp only [binOp, ne_eq, not_true_eq_false, if_false, Op.intBits, Sem.run_pure, BitVec.toNat_or, ofInt_lim k x h1, ofInt_lim k y h2]
   congr 2
   refine wrap_lim k (x ||| y) ?_
   rw [ikLim_pow] at *
   exact Nat.or_lt_two_pow h1 h2
  ·cases h
 case xor =>
  split at h
  ·rename_i h1 h2; rw [Nat.blt_eq] at h1 h2; cases h
   refine ⟨?_, rfl⟩
   simp only [binOp, ne_eq, not_true_eq_false, if_false, Op.intBits, Sem.run_pure, BitVec.toNat_xor, ofInt_lim k x h1, ofInt_lim k y h2]
   congr 2
   refine wrap_lim k (x ^^^ y) ?_
   rw [ikLim_pow] at *
   exact Nat.xor_lt_two_pow h1 h2
  ·cases h
 case eql =>
  cases h
  refine ⟨?_, rfl⟩
  simp only [binOp, ne_eq, not_true_eq_false, if_false, Op.intCmp, Sem.run_pure]
  congr 2
  rw [Bool.eq_iff_iff]
  simp only [beq_iff_eq, Nat.beq_eq]
  exact ⟨fun h => by injection h, fun h => by rw [h]⟩
 case neq =>
  cases h
  refine ⟨?_, rfl⟩
  simp only [binOp, ne_eq, not_true_eq_false, if_false, Op.intCmp, Sem.run_pure]
  congr 2
  rw [Bool.eq_iff_iff]
  cases hb : Nat.beq x y
  ·have := Nat.ne_of_beq_eq_false hb
   have h2 : ¬ (Int.ofNat x = Int.ofNat y) := fun h => this (by injection h)
   simp only [bne_iff_ne, ne_eq, h2]; simp
  ·have := Nat.eq_of_beq_eq_true hb
   subst this; simp
 all_goals
  cases h
  refine ⟨?_, rfl⟩
  simp only [binOp, ne_eq, not_true_eq_false, if_false, Op.intCmp, Sem.run_pure]
  congr 2
  rw [Bool.eq_iff_iff]
  simp [Int.ofNat_eq_natCast, Nat.blt_eq]
def fastShift (op : BinOp) (k : IntKind) (x y : Nat) : Option Value :=
 match op with
 | .shr => match Nat.ble y k.bits with
  | true => some (.int k (.ofNat (Nat.div x (Nat.pow 2 y))))
  | false => none
 | .shl => match Nat.ble y k.bits with
  | true => match Nat.blt (Nat.mul x (Nat.pow 2 y)) (ikLim k) with
   | true => some (.int k (.ofNat (Nat.mul x (Nat.pow 2 y))))
   | false => none
  | false => none
 | _ => none
theorem fastShift_spec {op : BinOp} {t : TypeId} {k k' : IntKind} {x y : Nat} {v : Value} (h : fastShift op k x y = some v) (P : Program) (w : World) :
  (binOp op t (.int k (.ofNat x)) (.int k' (.ofNat y))).run P w = .ok v w /\ flat1 v = true := by
 unfold fastShift at h
 have hp : ∀ n : Nat, ((2 : Int) ^ n) = ((2 ^ n : Nat) : Int) := fun n => by simp
 split at h
 ·split at h
  ·rename_i hy; have hy := Nat.le_of_ble_eq_true hy
   cases h
   refine ⟨?_, rfl⟩
   have h0 : ¬ (Int.ofNat y < 0) := by rw [Int.ofNat_eq_natCast]; omega
   have hm : min (Int.ofNat y).toNat k.bits = y := by simp; omega
   simp only [binOp, Op.shift, h0, if_false, hm, Sem.run_pure, hp]
   congr 2
   rw [Int.fdiv_eq_ediv_of_nonneg _ (Int.natCast_nonneg _)]
   rfl
  ·cases h
 ·split at h
  ·rename_i hy; have hy := Nat.le_of_ble_eq_true hy
   split at h
   ·rename_i hl; rw [Nat.blt_eq] at hl
    cases h
    refine ⟨?_, rfl⟩
    have h0 : ¬ (Int.ofNat y < 0) := by rw [Int.ofNat_eq_natCast]; omega
    have hm : min (Int.ofNat y).toNat k.bits = y := by simp; omega
    simp only [binOp, Op.shift, h0, if_false, hm, Sem.run_pure, hp]
    congr 2
    exact wrap_lim k (x * 2 ^ y) hl
   ·cases h
  ·cases h
 ·cases h
def aInts (op : BinOp) (k : IntKind) (a : Int) (k' : IntKind) (b : Int) : Option Value :=
 match aBinInt op k a k' b with
 | some v => match flat1 v with
  | true => some v
  | false => none
 | none => none
def aQuick (op : BinOp) (k : IntKind) (x : Nat) (k' : IntKind) (y : Nat) : Option Value :=
 match ikEq k k' with
 | true => match fastInt op k x y with
  | some v => some v
  | none => match fastShift op k x y with
   | some v => some v
   | none => aInts op k (.ofNat x) k' (.ofNat y)
 | false => match fastShift op k x y with
  | some v => some v
  | none => aInts op k (.ofNat x) k' (.ofNat y)
def aBinI (op : BinOp) (k : IntKind) (a : Int) (k' : IntKind) (b : Int) : Option Value :=
 match a, b with
 | .ofNat x, .ofNat y => aQuick op k x k' y
 | a, b => aInts op k a k' b
def aBinO (T : Tabs) (op : BinOp) (t : TypeId) (x y : Value) : Option Value :=
 match op with
 | .eql => match aEq T t x y with
  | some b => some (.bool b)
  | none => none
 | .neq => match aEq T t x y with
  | some b => some (.bool (!b))
  | none => none
 | _ => none
def aBin (T : Tabs) (op : BinOp) (t : TypeId) (xo yo : Operand) (x y : Value) : Option Value :=
 match x, y with
 | .int k a, .int k' b => aBinI op k a k' b
 | .string a, .string b => aStr op a b
 | x, y => match aGuard op xo yo x y with
  | false => none
  | true => aBinO T op t x y
theorem aBinInt_spec {op : BinOp} {t : TypeId} {k k' : IntKind} {a b : Int} {v : Value} (h : aBinInt op k a k' b = some v) (P : Program) (w : World) :
  (binOp op t (.int k a) (.int k' b)).run P w = .ok v w := by
 unfold aBinInt at h
 split at h
 ·have := aPure_spec h; simp only [binOp]; rw [this]; rfl
 ·have := aPure_spec h; simp only [binOp]; rw [this]; rfl
 ·rename_i hns1 hns2
  split at h
  ·cases h
  ·rename_i hk
   have hk := of_decide_eq_true hk
   subst hk
   cases op <;> first
    | exact absurd rfl hns1
    | exact absurd rfl hns2
    | (have := aPure_spec h; simp only [binOp, ne_eq, not_true_eq_false, if_false]; rw [this]; rfl)
theorem binOp_eql_other {t : TypeId} {η : Env} {x y x' y' : Value} (hx : VR η x x') (hy : VR η y y')
  (hi : ∀ k a k' b, ¬ (x = .int k a /\ y = .int k' b)) (hs : ∀ a b, ¬ (x = .string a /\ y = .string b)) :
  binOp .eql t x' y' = (do pure (.bool (<- Op.equal t x' y'))) /\ binOp .neq t x' y' = (do pure (.bool (!(<- Op.equal t x' y')))) := by
 cases hx <;> cases hy <;> first
  | exact ⟨rfl, rfl⟩
  | exact absurd ⟨rfl, rfl⟩ (hi _ _ _ _)
  | exact absurd ⟨rfl, rfl⟩ (hs _ _)
theorem aInts_spec {op : BinOp} {t : TypeId} {k k' : IntKind} {a b : Int} {v : Value} (h : aInts op k a k' b = some v) (P : Program) (w : World) :
  (binOp op t (.int k a) (.int k' b)).run P w = .ok v w /\ flat1 v = true := by
 unfold aInts at h
 split at h
 ·rename_i u hu
  split at h
  ·rename_i hf; cases h; exact ⟨aBinInt_spec hu P w, hf⟩
  ·cases h
 ·cases h
theorem aBinI_spec {op : BinOp} {t : TypeId} {k k' : IntKind} {a b : Int} {v : Value} (h : aBinI op k a k' b = some v) (P : Program) (w : World) :
  (binOp op t (.int k a) (.int k' b)).run P w = .ok v w /\ flat1 v = true := by
 unfold aBinI at h
 split at h
 ·unfold aQuick at h
  split at h
  ·rename_i hk
   have hk := ikEq_spec hk
   subst hk
   split at h
   ·rename_i u hu; cases h; exact fastInt_spec hu P w
   ·split at h
    ·rename_i u hu; cases h; exact fastShift_spec hu P w
    ·exact aInts_spec h P w
  ·split at h
   ·rename_i u hu; cases h; exact fastShift_spec hu P w
   ·exact aInts_spec h P w
 ·exact aInts_spec h P w
theorem aBin_spec {T : Tabs} {P : Program} (hT : T.Ok P) {η : Env} {op : BinOp} {t : TypeId} {xo yo : Operand} {x y x' y' v : Value} (h : aBin T op t xo yo x y = some v)
  (hx : VR η x x') (hy : VR η y y') (w : World) : (do eqGuard op t xo yo x' y'; binOp op t x' y').run P w = .ok v w /\ VR η v v := by
 unfold aBin at h
 split at h
 ·rename_i k a k' b
  cases hx; cases hy
  have hg : aGuard op xo yo (.int k a) (.int k' b) = true := by cases op <;> rfl
  simp only [Sem.run_bind, aGuard_spec hg (VR.int (η := η) k a) (.int k' b), Result.andThen_ok]
  obtain ⟨h1, h2⟩ := aBinI_spec (t := t) h P w
  exact ⟨h1, flat1_vr η _ h2⟩
 ·rename_i a b
  cases hx; cases hy
  have hg : aGuard op xo yo (.string a) (.string b) = true := by cases op <;> rfl
  simp only [Sem.run_bind, aGuard_spec hg (VR.string (η := η) a) (.string b), Result.andThen_ok]
  rw [show binOp op t (.string a) (.string b) = Op.stringOp op a b from by cases op <;> rfl]
  exact aStr_spec h P w η
 ·rename_i hni hns
  split at h
  ·cases h
  rename_i hg
  simp only [Sem.run_bind, aGuard_spec hg hx hy, Result.andThen_ok]
  have hb := binOp_eql_other (t := t) hx hy (fun k a k' b hh => hni k a k' b hh.1 hh.2) (fun a b hh => hns a b hh.1 hh.2)
  unfold aBinO at h
  split at h
  ·split at h
   ·rename_i b hb'
    cases h
    rw [hb.1]
    simp only [Sem.run_bind, aEq_spec hT hb' hx hy, Result.andThen_ok, Sem.run_pure]
    exact ⟨trivial, .bool _⟩
   ·cases h
  ·split at h
   ·rename_i b hb'
    cases h
    rw [hb.2]
    simp only [Sem.run_bind, aEq_spec hT hb' hx hy, Result.andThen_ok, Sem.run_pure]
    exact ⟨trivial, .bool _⟩
   ·cases h
  ·cases h
def aUn (op : UnOp) (x : Value) : Option Value :=
 match x with
 | .int k n => match aPure (Op.unary op (.int k n)) with
  | some v => match flat1 v with
   | true => some v
   | false => none
  | none => none
 | .bool b => match op with
  | .not => some (.bool (!b))
  | _ => none
 | _ => none
theorem aUn_spec {op : UnOp} {η : Env} {x x' v : Value} (h : aUn op x = some v) (hx : VR η x x') (P : Program) (w : World) : (Op.unary op x').run P w = .ok v w /\ VR η v v := by
 unfold aUn at h
 split at h
 ·cases hx
  split at h
  ·rename_i u hu
   split at h
   ·rename_i hf; cases h; rw [aPure_spec hu]; exact ⟨rfl, flat1_vr η _ hf⟩
   ·cases h
  ·cases h
 ·cases hx
  split at h
  ·cases h; exact ⟨rfl, .bool _⟩
  ·cases h
 ·cases h
def bytesOf : List Value -> Option (List UInt8)
 | [] => some []
 | .int .u8 n :: l => match bytesOf l with
  | some r => some (UInt8.ofNat n.toNat :: r)
  | none => none
 | _ :: _ => none
theorem bytesOf_spec {η : Env} : ∀ {l l' : List Value} {r : List UInt8}, bytesOf l = some r -> LR η l l' -> ∃ ns : List Int, l' = ns.map (Value.int .u8) /\ r = ns.map (fun n => UInt8.ofNat n.toNat)
 | [], l', r, h, hl => by simp [bytesOf] at h; subst h; rw [hl.of_nil]; exact ⟨[], rfl, rfl⟩
 | v :: l, l', r, h, hl => by
  obtain ⟨v', t, rfl, hv, ht⟩ := hl.uncons
  cases v <;> try (simp [bytesOf] at h; done)
  rename_i k n
  cases k <;> try (simp [bytesOf] at h; done)
  cases hv
  simp only [bytesOf] at h
  split at h
  ·rename_i r' hr
   cases h
   obtain ⟨ns, rfl, rfl⟩ := bytesOf_spec hr ht
   exact ⟨n :: ns, rfl, rfl⟩
  ·cases h
theorem foldl_push (ns : List Int) : ∀ (b : ByteArray), (ns.foldl (fun r n => r.push (UInt8.ofNat n.toNat)) b).data.toList = b.data.toList ++ ns.map (fun n => UInt8.ofNat n.toNat) := by
 induction ns with
 | nil => intro b; simp
 | cons n ns ih => intro b; simp only [List.foldl_cons, ih, List.map_cons]; simp [ByteArray.push]
def aConv (T : Tabs) (W : AW) (src dst : TypeId) (x : Value) : Option Value :=
 match T.und.get src, T.und.get dst with
 | some s, some d => match s, d, x with
  | _, .int k, .int _ n => some (.int k (k.wrap n))
  | _, .string, .string b => some (.string b)
  | .slice e, .string, .slice none 0 0 => match T.und.get e with
   | some (.int .u8) => some (.string ⟨⟨[]⟩⟩)
   | _ => none
  | .slice e, .string, .slice (some ⟨b, o, none⟩) n _ => match T.und.get e with
   | some (.int .u8) => match W.cellsAt b o n with
    | some l => match bytesOf l with
     | some r => some (.string ⟨⟨r⟩⟩)
     | none => none
    | none => none
   | _ => none
  | _, _, _ => none
 | _, _ => none
theorem aConv_spec {T : Tabs} {P : Program} (hT : T.Ok P) {η : Env} {W : AW} {w : World} (hw : WRel η W w) {src dst : TypeId} {x x' v : Value} (h : aConv T W src dst x = some v) (hx : VR η x x') :
  (convert src dst x').run P w = .ok v w /\ VR η v v := by
 unfold aConv at h
 split at h
 ·rename_i s d hs hd
  have hs1 := run_under (w := w) (hT.und _ _ hs)
  have hd1 := run_under (w := w) (hT.und _ _ hd)
  simp only [convert, Sem.run_bind, hs1, hd1, Result.andThen_ok]
  clear hs hd
  split at h
  ·cases hx; cases h; exact ⟨by simp [Conv.intToInt], .int _ _⟩
  ·cases hx; cases h
   exact ⟨by cases s <;> rfl, .string _⟩
  ·rename_i e
   cases hx
   split at h
   ·rename_i he
    cases h
    have he := run_under (w := w) (hT.und _ _ he)
    refine ⟨?_, .string _⟩
    simp only [Sem.run_bind, he, Result.andThen_ok, Conv.bytesToString, Sem.run_pure]
    rfl
   ·cases h
  ·rename_i e b o n c
   split at h
   ·rename_i he
    have he := run_under (w := w) (hT.und _ _ he)
    split at h
    ·rename_i l hl
     split at h
     ·rename_i r hr
      cases h
      have fin : ∀ (e : Nat × Nat × Nat) (c' : Nat), η b = some e ->
        (Conv.bytesToString (.slice (some ⟨e.1, e.2.1 + o, none⟩) n c')).run P w = .ok (.string ⟨⟨r⟩⟩) w := by
       intro e c' hbe
       obtain ⟨l', g1, g2⟩ := hw.loadCells (P := P) hl hbe
       obtain ⟨ns, rfl, rfl⟩ := bytesOf_spec hr g2
       rw [run_bytesToString w _ n c' ns g1]
       congr 1
       congr 1
       apply ByteArray.ext
       apply Array.toList_inj.1
       rw [foldl_push]; simp
      refine ⟨?_, .string _⟩
      cases hx with
      | sliceAt _ _ _ c e hbe => simp only [Sem.run_bind, he, Result.andThen_ok]; exact fin e _ hbe
      | sliceEnd _ _ _ sz c e hbe => simp only [Sem.run_bind, he, Result.andThen_ok]; exact fin e _ hbe
     ·cases h
    ·cases h
   ·cases h
  ·cases h
 ·cases h
end Go.Eng
