import Derived.Test.YtdpnplanohgecaaDoorEngMt
import Derived.Test.YtdpnplanohgecaaDoorEngSm
set_option linter.unusedSimpArgs false
set_option linter.unusedVariables false
set_option linter.unusedSectionVars false
namespace Go.Eng
theorem ikEq_self (k : IntKind) : ikEq k k = true := by simp [ikEq, Nat.beq_refl]
theorem aBinI_and (k : IntKind) (x y : Nat) (hx : x < ikLim k) (hy : y < ikLim k) : aBinI .and k (x : Int) k (y : Int) = some (.int k ((x &&& y : Nat) : Int)) := by
 show aQuick .and k x k y = _
 simp only [aQuick, ikEq_self, fastInt, blt_dec, hx, hy, decide_true]; rfl
theorem aBinI_or (k : IntKind) (x y : Nat) (hx : x < ikLim k) (hy : y < ikLim k) : aBinI .or k (x : Int) k (y : Int) = some (.int k ((x ||| y : Nat) : Int)) := by
 show aQuick .or k x k y = _
 simp only [aQuick, ikEq_self, fastInt, blt_dec, hx, hy, decide_true]; rfl
theorem aBinI_shr (k k' : IntKind) (x y : Nat) (hy : y <= k.bits) : aBinI .shr k (x : Int) k' (y : Int) = some (.int k ((x >>> y : Nat) : Int)) := by
 show aQuick .shr k x k' y = _
 rw [Nat.shiftRight_eq_div_pow]
 cases h : ikEq k k' <;> simp only [aQuick, h, fastInt, fastShift, ble_dec, hy, decide_true] <;> rfl
theorem aBinI_shl (k k' : IntKind) (x y : Nat) (hy : y <= k.bits) (hl : x * 2 ^ y < ikLim k) : aBinI .shl k (x : Int) k' (y : Int) = some (.int k ((x <<< y : Nat) : Int)) := by
 show aQuick .shl k x k' y = _
 rw [Nat.shiftLeft_eq]
 have hl' : Nat.blt (Nat.mul x (Nat.pow 2 y)) (ikLim k) = true := by rw [Nat.blt_eq]; exact hl
 cases h : ikEq k k' <;> simp only [aQuick, h, fastInt, fastShift, ble_dec, hy, decide_true, hl'] <;> rfl
theorem wrap_nat (k : IntKind) (n : Nat) (h : n < ikLim k) : k.wrap (n : Int) = (n : Int) := wrap_lim k n h
theorem aBinI_andNot (k : IntKind) (x y : Nat) (hx : x < ikLim k) (hy : y < ikLim k) : ∃ m : Nat, m <= x /\ aBinI .andNot k (x : Int) k (y : Int) = some (.int k (m : Int)) /\ ∀ i, m.testBit i = (x.testBit i && !y.testBit i) := by
 have hxb : x < 2 ^ k.bits := Nat.lt_of_lt_of_le (ikLim_pow k ▸ hx) (Nat.pow_le_pow_right (by omega) (ikPow_le k))
 have hle : (BitVec.ofInt k.bits (x : Int) &&& ~~~BitVec.ofInt k.bits (y : Int)).toNat <= x := by
  rw [BitVec.toNat_and, show ((x : Int)) = Int.ofNat x from rfl, ofInt_lim k x hx]; exact Nat.and_le_left
 refine ⟨(BitVec.ofInt k.bits (x : Int) &&& ~~~BitVec.ofInt k.bits (y : Int)).toNat, hle, ?_, fun i => ?_⟩
 ·show aQuick .andNot k x k y = _
  simp only [aQuick, ikEq_self, fastInt, fastShift, aInts, aBinInt, decide_true, aPure, Op.intBits]
  simp only [pure, Int.ofNat_eq_natCast, wrap_nat k _ (Nat.lt_of_le_of_lt hle hx), flat1]
 ·rw [BitVec.toNat_and, show ((x : Int)) = Int.ofNat x from rfl, ofInt_lim k x hx, BitVec.toNat_not, show ((y : Int)) = Int.ofNat y from rfl, ofInt_lim k y hy]
  rw [Nat.testBit_and]
  by_cases hi : i < k.bits
  ·rw [show 2 ^ k.bits - 1 - y = 2 ^ k.bits - (y + 1) from by omega, Nat.testBit_two_pow_sub_succ (Nat.lt_of_lt_of_le (ikLim_pow k ▸ hy) (Nat.pow_le_pow_right (by omega) (ikPow_le k)))]
   simp [hi]
  ·have : x.testBit i = false := Nat.testBit_lt_two_pow (Nat.lt_of_lt_of_le hxb (Nat.pow_le_pow_right (by omega) (by omega)))
   simp [this]
theorem tabIn_only {t : Table} {W W' : AW} (h : tabIn t W = true) (e : W'.blocks.get t.name = W.blocks.get t.name) : tabIn t W' = true := by
 unfold tabIn at *; rw [e]; exact h
theorem tabsIn_only {T : Tabs} {W W' : AW} : ∀ {ts : List Table}, tabsIn T ts W = true -> (∀ t ∈ ts, W'.blocks.get t.name = W.blocks.get t.name) -> tabsIn T ts W' = true
 | [], _, _ => rfl
 | t :: ts, h, he => by
  simp only [tabsIn] at *
  split at h
  case h_2 => cases h
  rename_i u hu ht
  rw [hu, tabIn_only ht (he t (List.mem_cons_self ..))]
  exact tabsIn_only h (fun t' ht' => he t' (List.mem_cons_of_mem _ ht'))
theorem tabIn_cell {t : Table} {W : AW} (h : tabIn t W = true) (i : Nat) (hi : i < t.cells.length) : W.cell t.name i = some t.cells[i] := by
 unfold tabIn at h
 split at h
 case h_2 => cases h
 rename_i c n el kin hb
 split at h
 case h_2 => cases h
 rename_i l h2 h3 h4
 have h2 : t.cells.length <= n := by simpa using h2
 have hl := listEq_sound _ _ h
 subst hl
 obtain ⟨t1, t2⟩ := Tr.take_spec c t.cells.length 0 t.cells h3
 have := t2 i hi
 rw [Nat.zero_add] at this
 simp only [AW.cell, hb, blt_dec, show i < n from by omega, decide_true, this]
 exact List.getElem?_eq_getElem hi
end Go.Eng
