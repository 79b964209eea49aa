import Derived.Test.YtdpnplanohgecaaDoorEngRd
import Derived.IntWalk
set_option linter.unusedSimpArgs false
set_option linter.unusedVariables false
set_option linter.unusedSectionVars false
section
namespace Go.Eng
theorem blt_dec (a b : Nat) : Nat.blt a b = decide (a < b) := by rw [Bool.eq_iff_iff]; simp [Nat.blt_eq]
theorem ble_dec (a b : Nat) : Nat.ble a b = decide (a <= b) := by rw [Bool.eq_iff_iff]; simp
theorem beq_dec (a b : Nat) : Nat.beq a b = decide (a = b) := by rw [Bool.eq_iff_iff]; simp
theorem aQuick_spec {op : BinOp} {k : IntKind} {x y : Nat} {v : Value} (hf : ∀ u, fastInt op k x y = some u -> u = v) (hs : fastShift op k x y = none) (hi : aInts op k (.ofNat x) k (.ofNat y) = some v) : aQuick op k x k y = some v := by
 unfold aQuick
 have : ikEq k k = true := by simp [ikEq, Nat.beq_refl]
 rw [this]
 simp only
 cases h : fastInt op k x y with
 | some u => rw [hf u h]
 | none => simp only [hs, hi]
theorem aBinI_all {op : BinOp} {k : IntKind} {a b : Int} {v : Value} (hf : ∀ x y u, a = .ofNat x -> b = .ofNat y -> fastInt op k x y = some u -> u = v) (hs : ∀ x y, fastShift op k x y = none) (hi : aInts op k a k b = some v) : aBinI op k a k b = some v := by
 unfold aBinI
 split
 ·rename_i x y; exact aQuick_spec (fun u => hf x y u rfl rfl) (hs x y) hi
 ·exact hi
theorem aBinI_add (k : IntKind) (a b : Int) : aBinI .add k a k b = some (.int k (k.wrap (a + b))) := by
 refine aBinI_all (fun x y u ha hb h => ?_) (fun _ _ => rfl) (by simp [aInts, aBinInt, aPure, Op.intArith, flat1, pure])
 subst ha; subst hb
 simp only [fastInt] at h
 split at h
 ·rename_i hlt
  rw [Nat.blt_eq] at hlt
  cases h
  have := wrap_lim k (x + y) hlt
  rw [<- show (Int.ofNat x + Int.ofNat y) = Int.ofNat (x + y) from rfl] at this
  rw [this]; rfl
 ·cases h
theorem aBinI_sub (k : IntKind) (a b : Int) : aBinI .sub k a k b = some (.int k (k.wrap (a - b))) := by
 refine aBinI_all (fun x y u ha hb h => ?_) (fun _ _ => rfl) (by simp [aInts, aBinInt, aPure, Op.intArith, flat1, pure])
 subst ha; subst hb
 simp only [fastInt] at h
 split at h
 ·rename_i h1 h2
  have h1 := Nat.le_of_ble_eq_true h1
  rw [Nat.blt_eq] at h2
  cases h
  have := wrap_lim k (x - y) (by omega)
  have e : (Int.ofNat x - Int.ofNat y) = Int.ofNat (x - y) := by simp only [Int.ofNat_eq_natCast]; omega
  rw [e, this]; rfl
 ·cases h
theorem aBinI_mul (k : IntKind) (a b : Int) : aBinI .mul k a k b = some (.int k (k.wrap (a * b))) := by
 refine aBinI_all (fun x y u ha hb h => ?_) (fun _ _ => rfl) (by simp [aInts, aBinInt, aPure, Op.intArith, flat1, pure])
 subst ha; subst hb
 simp only [fastInt] at h
 split at h
 ·rename_i hlt
  rw [Nat.blt_eq] at hlt
  cases h
  have := wrap_lim k (x * y) hlt
  rw [<- show (Int.ofNat x * Int.ofNat y) = Int.ofNat (x * y) from rfl] at this
  rw [this]; rfl
 ·cases h
theorem aBinI_rem (k : IntKind) (a b : Int) (hb : b ≠ 0) : aBinI .rem k a k b = some (.int k (a.tmod b)) := by
 refine aBinI_all (fun x y u ha hb h => ?_) (fun _ _ => rfl) (by simp [aInts, aBinInt, aPure, Op.intDiv, flat1, pure, hb])
 subst ha; subst hb
 simp only [fastInt] at h
 split at h
 ·cases h; rfl
 ·cases h
theorem aBinI_lss (k : IntKind) (a b : Int) : aBinI .lss k a k b = some (.bool (decide (a < b))) := by
 refine aBinI_all (fun x y u ha hb h => ?_) (fun _ _ => rfl) (by simp [aInts, aBinInt, aPure, Op.intCmp, flat1, pure])
 subst ha; subst hb
 simp only [fastInt] at h
 cases h
 rw [blt_dec]; congr 1; simp [Int.ofNat_lt]
theorem aBinI_leq (k : IntKind) (a b : Int) : aBinI .leq k a k b = some (.bool (decide (a <= b))) := by
 refine aBinI_all (fun x y u ha hb h => ?_) (fun _ _ => rfl) (by simp [aInts, aBinInt, aPure, Op.intCmp, flat1, pure])
 subst ha; subst hb
 simp only [fastInt] at h
 cases h
 rw [ble_dec]; congr 1; simp [Int.ofNat_le]
theorem aBinI_gtr (k : IntKind) (a b : Int) : aBinI .gtr k a k b = some (.bool (decide (b < a))) := by
 refine aBinI_all (fun x y u ha hb h => ?_) (fun _ _ => rfl) (by simp [aInts, aBinInt, aPure, Op.intCmp, flat1, pure])
 subst ha; subst hb
 simp only [fastInt] at h
 cases h
 rw [blt_dec]; congr 1; simp [Int.ofNat_lt]
theorem aBinI_geq (k : IntKind) (a b : Int) : aBinI .geq k a k b = some (.bool (decide (b <= a))) := by
 refine aBinI_all (fun x y u ha hb h => ?_) (fun _ _ => rfl) (by simp [aInts, aBinInt, aPure, Op.intCmp, flat1, pure])
 subst ha; subst hb
 simp only [fastInt] at h
 cases h
 rw [ble_dec]; congr 1; simp [Int.ofNat_le]
theorem aBinI_eql (k : IntKind) (a b : Int) : aBinI .eql k a k b = some (.bool (decide (a = b))) := by
 refine aBinI_all (fun x y u ha hb h => ?_) (fun _ _ => rfl) (by simp [aInts, aBinInt, aPure, Op.intCmp, flat1, pure]; rfl)
 subst ha; subst hb
 simp only [fastInt] at h
 cases h
 rw [beq_dec]; congr 1; simp; omega
theorem aBinI_neq (k : IntKind) (a b : Int) : aBinI .neq k a k b = some (.bool (decide (a ≠ b))) := by
 refine aBinI_all (fun x y u ha hb h => ?_) (fun _ _ => rfl) (by simp [aInts, aBinInt, aPure, Op.intCmp, flat1, pure]; rw [Bool.eq_iff_iff]; simp)
 subst ha; subst hb
 simp only [fastInt] at h
 cases h
 rw [beq_dec]; congr 1; simp; omega
theorem testBit_dec (m i : Nat) : Nat.testBit m i = decide (m / 2 ^ i % 2 = 1) := by
 rw [Nat.testBit_eq_decide_div_mod_eq]
theorem valEq_int (k : IntKind) (a : Int) : valEq (.int k a) (.int k a) = true := by simp [valEq]
theorem listEq_cons {a b : Value} {l m : List Value} (h : valEq a b = true) (h' : listEq l m = true) : listEq (a :: l) (b :: m) = true := by simp [listEq, h, h']
end Go.Eng

end
section
namespace Go.Eng
def AW.Has (W : AW) (b o : Nat) (v : Value) : Prop := b < W.next /\ W.cell b o = some v
def Only (K : Nat -> Prop) (W W' : AW) : Prop := W.next <= W'.next /\ ∀ b, b < W.next -> ¬ K b -> W'.blocks.get b = W.blocks.get b
abbrev Ext (W W' : AW) : Prop := Only (fun _ => False) W W'
theorem Only.refl (K : Nat -> Prop) (W : AW) : Only K W W := ⟨Nat.le_refl _, fun _ _ _ => rfl⟩
theorem Only.trans {K : Nat -> Prop} {W W₁ W₂ : AW} (h : Only K W W₁) (h' : Only K W₁ W₂) : Only K W W₂ :=
 ⟨Nat.le_trans h.1 h'.1, fun b hb hk => (h'.2 b (Nat.lt_of_lt_of_le hb h.1) hk).trans (h.2 b hb hk)⟩
theorem Only.mono {K K' : Nat -> Prop} {W W' : AW} (h : Only K W W') (hk : ∀ b, b < W.next -> K b -> K' b) : Only K' W W' := ⟨h.1, fun b hb hn => h.2 b hb (fun x => hn (hk b hb x))⟩
theorem AW.cell_of_get {W W' : AW} {b : Nat} (h : W'.blocks.get b = W.blocks.get b) (o : Nat) : W'.cell b o = W.cell b o := by simp only [AW.cell, h]
theorem AW.Has.only {K : Nat -> Prop} {W W' : AW} {b o : Nat} {v : Value} (h : W.Has b o v) (he : Only K W W') (hk : ¬ K b) : W'.Has b o v :=
 ⟨Nat.lt_of_lt_of_le h.1 he.1, (AW.cell_of_get (he.2 b h.1 hk) o).trans h.2⟩
theorem AW.Has.ext {W W' : AW} {b o : Nat} {v : Value} (h : W.Has b o v) (he : Ext W W') : W'.Has b o v := h.only he (fun x => x)
theorem newCells_next (W : AW) (el : TypeId) (l : List Value) : (W.newCells el l).next = W.next + 1 := rfl
theorem newCells_get (W : AW) (el : TypeId) (l : List Value) (b : Nat) : (W.newCells el l).blocks.get b = if b = W.next then some ⟨.cells (Tr.nil.lay 0 l) l.length el, []⟩ else W.blocks.get b := by
 simp only [AW.newCells, AW.new, Tr.get_set]
theorem Only.newCells {K : Nat -> Prop} (W : AW) (el : TypeId) (l : List Value) : Only K W (W.newCells el l) :=
 ⟨Nat.le_succ _, fun b hb _ => by rw [newCells_get, if_neg (by omega)]⟩
theorem take_get {α : Type} (t : Tr α) : ∀ (n i : Nat) (l : List α), l.length = n -> (∀ j, j < n -> t.get (i + j) = l[j]?) -> t.take i n = some l
 | 0, i, l, h, _ => by cases l with
  | nil => rfl
  | cons a l => simp at h
 | n + 1, i, l, h, hg => by
  cases l with
  | nil => simp at h
  | cons a l =>
   have h0 := hg 0 (by omega)
   simp at h0
   have := take_get t n (i + 1) l (by simpa using h) (fun j hj => by have := hg (j + 1) (by omega); rw [show i + 1 + j = i + (j + 1) from by omega]; simpa using this)
   simp only [Tr.take, h0, this]
theorem cellsAt_of_cells {W : AW} {b o n : Nat} {l : List Value} (hl : l.length = n) (hb : ∃ k, W.blocks.get b = some k) (h : ∀ j, j < n -> W.cell b (o + j) = l[j]?) (hn : 0 < n) : W.cellsAt b o n = some l := by
 obtain ⟨⟨ob, kin⟩, hb⟩ := hb
 have key : ∀ (c : Tr Value) (m : Nat), (∀ j, j < n -> (match Nat.blt (o + j) m with | true => c.get (o + j) | false => none) = l[j]?) -> (match Nat.ble (o + n) m with | true => c.take o n | false => none) = some l := by
  intro c m hc
  have hlast := hc (n - 1) (by omega)
  have hlt : o + (n - 1) < m := by
   by_cases x : o + (n - 1) < m
   ·exact x
   ·rw [blt_dec, decide_eq_false x] at hlast
    rw [List.getElem?_eq_getElem (by omega)] at hlast
    cases hlast
  rw [ble_dec, decide_eq_true (by omega)]
  exact take_get c n o l hl (fun j hj => by
   have := hc j hj
   rw [blt_dec, decide_eq_true (by omega)] at this
   exact this)
 cases ob with
 | cells c m el =>
  simp only [AW.cellsAt, hb]
  exact key c m (fun j hj => by have := h j hj; simp only [AW.cell, hb] at this; exact this)
 | ro c m el =>
  simp only [AW.cellsAt, hb]
  exact key c m (fun j hj => by have := h j hj; simp only [AW.cell, hb] at this; exact this)
 | _ =>
  have := h 0 hn
  simp only [AW.cell, hb] at this
  rw [List.getElem?_eq_getElem (by omega)] at this
  cases this
theorem loadVar_cell {T : Tabs} {W : AW} {t : TypeId} {d : TypeDesc} (hd : T.und.get t = some d) (ha : isAggD d = false) (b o : Nat) : aLoadVar T W t b o = W.cell b o := by simp only [aLoadVar, hd, ha]
theorem loadVar_agg {T : Tabs} {W : AW} {t : TypeId} {d : TypeDesc} {i : TypeInfo} (hd : T.und.get t = some d) (ha : isAggD d = true) (hi : T.info.get t = some i) {b o : Nat} {l : List Value} (h : W.cellsAt b o i.size = some l) : aLoadVar T W t b o = some (.agg ⟨l⟩) := by
 simp only [aLoadVar, hd, ha, hi, h]
theorem indexAddr_slice {T : Tabs} {t e : TypeId} {sz : Nat} (hd : T.und.get t = some (.slice e)) (hs : aSize T e = some sz) {b o len c i : Nat} {k : IntKind} (hi : i < len) :
  aIndexAddr T t (.slice (some ⟨b, o, none⟩) len c) (.int k (i : Int)) = some (.pointer (some ⟨b, o + i * sz, none⟩)) := by
 show aIndexAddr T t (.slice (some ⟨b, o, none⟩) len c) (.int k (Int.ofNat i)) = _
 simp only [aIndexAddr, hd, hs, blt_dec, hi, decide_true]
theorem len_slice {T : Tabs} {W : AW} {t e : TypeId} (hd : T.und.get t = some (.slice e)) (a : Option Addr) (n c : Nat) : aLen T W t (.slice a n c) = some (.int .i64 n) := by simp only [aLen, hd]
theorem index_str {T : Tabs} {t : TypeId} (h : T.und.get t = some .string) (s : ByteArray) (k : IntKind) (i : Nat) : aIndex T t (.string s) (.int k (i : Int)) = match s.data.toList[i]? with | some b => some (.int .u8 b.toNat) | none => none := by
 show aIndex T t (.string s) (.int k (Int.ofNat i)) = _
 simp only [aIndex, h]
 cases s.data.toList[i]? <;> rfl
theorem len_str {T : Tabs} {W : AW} {t : TypeId} (h : T.und.get t = some .string) (s : ByteArray) : aLen T W t (.string s) = some (.int .i64 s.data.toList.length) := by
 simp only [aLen, h]
theorem i64_succ (i : Nat) (h : i + 1 < 9223372036854775808) : IntKind.i64.wrap ((i : Int) + 1) = ((i + 1 : Nat) : Int) := by
 rw [IntWalk.i64_in _ (by omega)]; rfl
theorem i64_nat (i : Nat) (h : i < 9223372036854775808) : IntKind.i64.wrap (i : Int) = i := IntWalk.i64_in _ (by omega)
theorem storeList_own {b : Nat} {n : Nat} {el : TypeId} : ∀ (l : List Value) (W : AW) (c : Tr Value) (o : Nat), W.blocks.get b = some ⟨.cells c n el, []⟩ -> o + l.length <= n -> allB Value.oneCell' l = true ->
  ∃ W', W.storeList b o l = some W' /\ W'.next = W.next /\ (∀ x, x ≠ b -> W'.blocks.get x = W.blocks.get x) /\ W'.blocks.get b = some ⟨.cells (c.lay o l) n el, []⟩
 | [], W, c, o, hb, _, _ => ⟨W, rfl, rfl, fun _ _ => rfl, hb⟩
 | v :: l, W, c, o, hb, hle, hone => by
  simp only [List.length_cons] at hle
  simp only [allB] at hone
  split at hone
  ·rename_i hv
   have hst : W.store b o v = some ⟨W.blocks.set b ⟨.cells (c.set o v) n el, []⟩, W.next⟩ := by
    have hlt : Nat.blt o n = true := by rw [blt_dec]; exact decide_eq_true (by omega)
    simp only [AW.store, hb, hlt, AW.kill]
   obtain ⟨W', h1, h2, h3, h4⟩ := storeList_own (b := b) (n := n) (el := el) l ⟨W.blocks.set b ⟨.cells (c.set o v) n el, []⟩, W.next⟩ (c.set o v) (o + 1) (by simp [Tr.get_set]) (by omega) hone
   refine ⟨W', by simp only [AW.storeList, hv, hst]; exact h1, h2, fun x hx => ?_, h4⟩
   rw [h3 x hx]; simp [Tr.get_set, hx]
  ·cases hone
theorem storeVar_own {T : Tabs} {t : TypeId} {i : TypeInfo} {v : Value} {b o n : Nat} {el : TypeId} {W : AW} {c : Tr Value} (hi : T.info.get t = some i) (hs : (acells v).length = i.size) (hb : W.blocks.get b = some ⟨.cells c n el, []⟩) (hle : o + (acells v).length <= n)
  (hone : allB Value.oneCell' (acells v) = true) :
  ∃ W', aStoreVar T W t b o v = some W' /\ W'.next = W.next /\ (∀ x, x ≠ b -> W'.blocks.get x = W.blocks.get x) /\ W'.blocks.get b = some ⟨.cells (c.lay o (acells v)) n el, []⟩ := by
 obtain ⟨W', h1, h2⟩ := storeList_own (acells v) W c o hb hle hone
 refine ⟨W', ?_, h2⟩
 simp only [aStoreVar, hi, hs, Nat.beq_refl, h1]
theorem mm_max (k k' : IntKind) (x y : Int) : aMinMax true (.int k x) [.int k' y] = some (.int k (max x y)) := by
 simp only [aMinMax]
 by_cases h : y > x
 ·rw [decide_eq_true h]; simp only [aMinMax, show max x y = y from by omega]
 ·rw [decide_eq_false h]; simp only [aMinMax, show max x y = x from by omega]
end Go.Eng

end
section
namespace Go.Eng
def isCells (w : World) (b : Nat) : Bool := match w.heap[b]? with
 | some (.cells _ _ _) => true
 | _ => false
def embE (w : World) : Env := fun b => if isCells w b = true then some (b, 0, 0) else none
theorem embE_self {w : World} {b : Nat} {e : Nat × Nat × Nat} (h : embE w b = some e) : e = (b, 0, 0) /\ isCells w b = true := by
 unfold embE at h
 split at h
 ·cases h; exact ⟨rfl, by assumption⟩
 ·cases h
theorem isCells_lt {w : World} {b : Nat} (h : isCells w b = true) : b < w.heap.size := by
 unfold isCells at h
 split at h
 ·rename_i h1; exact (Array.getElem?_eq_some_iff.1 h1).1
 ·cases h
theorem isCells_cell {w : World} {a : Addr} {v : Value} (h : w.cell? a = some v) : isCells w a.block = true := by
 unfold World.cell? at h
 unfold isCells
 split at h
 ·rename_i h1; rw [h1]
 ·cases h
def absV (w : World) : Value -> Option Value
 | .bool b => some (.bool b)
 | .int k n => some (.int k n)
 | .string s => some (.string s)
 | .pointer none => some (.pointer none)
 | .pointer (some ⟨b, o, none⟩) => if isCells w b = true then some (.pointer (some ⟨b, o, none⟩)) else none
 | .slice none 0 0 => some (.slice none 0 0)
 | .slice (some ⟨b, o, none⟩) n c => if isCells w b = true then some (.slice (some ⟨b, o, none⟩) n (2 * c)) else if n = 0 /\ c = 0 then some (.slice (some ⟨0, 0, some 1⟩) 0 0) else none
 | .slice (some ⟨_, _, some _⟩) 0 0 => some (.slice (some ⟨0, 0, some 1⟩) 0 0)
 | _ => none
theorem absV_vr {w : World} {v u : Value} (h : absV w v = some u) : VR (embE w) u v := by
 unfold absV at h
 split at h
 ·cases h; exact .bool _
 ·cases h; exact .int _ _
 ·cases h; exact .string _
 ·cases h; exact .ptrNil
 ·split at h
  ·cases h
   rename_i b o hb
   have := VR.ptr (η := embE w) b o (b, 0, 0) (by simp [embE, hb])
   simpa using this
  ·cases h
 ·cases h; exact .sliceNil
 ·split at h
  ·cases h
   rename_i b o n c hb
   have := VR.sliceAt (η := embE w) b o n c (b, 0, 0) (by simp [embE, hb])
   simpa using this
  ·split at h
   ·rename_i hc; obtain ⟨rfl, rfl⟩ := hc; cases h; exact .sliceVoid _
   ·cases h
 ·cases h; exact .sliceVoid _
 ·cases h
def Tr.layO {α : Type} : Tr α -> Nat -> List (Option α) -> Tr α
 | t, _, [] => t
 | t, n, none :: l => t.layO (n + 1) l
 | t, n, some v :: l => (t.set n v).layO (n + 1) l
theorem Tr.get_layO {α : Type} : ∀ (l : List (Option α)) (t : Tr α) (n k : Nat), t.get k = none \/ k < n -> (t.layO n l).get k = if n <= k /\ k < n + l.length then l[k - n]?.getD none else t.get k
 | [], t, n, k, _ => by simp [Tr.layO]; omega
 | none :: l, t, n, k, h => by
  rw [Tr.layO, Tr.get_layO l t (n + 1) k (h.imp id fun x => by omega)]
  by_cases h1 : n + 1 <= k /\ k < n + 1 + l.length
  ·rw [if_pos h1, if_pos (by simp only [List.length_cons]; omega), show k - n = (k - (n + 1)) + 1 from by omega]; rfl
  ·rw [if_neg h1]
   by_cases e : k = n
   ·subst e
    simp only [Nat.le_refl, List.length_cons, true_and, Nat.sub_self]
    rw [if_pos (by omega)]
    rcases h with h | h
    ·simpa using h
    ·omega
   ·rw [if_neg (by simp only [List.length_cons]; omega)]
 | some v :: l, t, n, k, h => by
  by_cases e : k = n
  ·subst e
   rw [Tr.layO, Tr.get_layO l _ (k + 1) k (by omega), if_neg (by omega), if_pos (by simp only [List.length_cons]; omega), Tr.get_set, if_pos rfl]; simp
  ·rw [Tr.layO, Tr.get_layO l _ (n + 1) k (by rw [Tr.get_set, if_neg e]; exact h.imp id fun x => by omega), Tr.get_set, if_neg e]
   by_cases h1 : n + 1 <= k /\ k < n + 1 + l.length
   ·rw [if_pos h1, if_pos (by simp only [List.length_cons]; omega), show k - n = (k - (n + 1)) + 1 from by omega]; rfl
   ·rw [if_neg h1, if_neg (by simp only [List.length_cons]; omega)]
def embO (w : World) : Obj -> AObj
 | .cells c el _ => .ro (Tr.nil.layO 0 (c.toList.map (absV w))) c.size el
 | _ => .ro .nil 0 0
def embW (w : World) : AW := ⟨Tr.nil.layO 0 (w.heap.toList.map fun o => some ⟨embO w o, []⟩), w.heap.size⟩
theorem embW_get (w : World) (b : Nat) : (embW w).blocks.get b = (w.heap[b]?).map fun o => ⟨embO w o, []⟩ := by
 show (Tr.nil.layO 0 _).get b = _
 rw [Tr.get_layO _ _ _ _ (.inl (Tr.get_nil _))]
 simp only [Nat.zero_le, Nat.zero_add, true_and, Nat.sub_zero, List.length_map, Array.length_toList, List.getElem?_map, Array.getElem?_toList]
 by_cases h : b < w.heap.size
 ·rw [if_pos h, Array.getElem?_eq_getElem h]; rfl
 ·rw [if_neg h, Tr.get_nil, Array.getElem?_eq_none (by omega)]; rfl
theorem embW_rel (w : World) : WRel (embE w) (embW w) w := by
 refine ⟨fun b k e hb he => ?_, fun b₁ b₂ k₁ k₂ e₁ e₂ _ _ h3 h4 h5 h6 => ?_, fun b e he => ?_, fun b e he => ?_⟩
 ·obtain ⟨rfl, hc⟩ := embE_self he
  rw [embW_get] at hb
  have hl := isCells_lt hc
  rw [Array.getElem?_eq_getElem hl] at hb
  simp only [Option.map_some, Option.some.injEq] at hb
  subst hb
  refine ⟨w.heap[b], Array.getElem?_eq_getElem hl, ?_⟩
  unfold isCells at hc
  rw [Array.getElem?_eq_getElem hl] at hc
  cases ho : w.heap[b] with
  | cells c el fz =>
   refine ⟨rfl, by simp, fun i v hi hv => ?_⟩
   rw [Tr.get_layO _ _ _ _ (.inl (Tr.get_nil _))] at hv
   simp only [Nat.zero_le, Nat.zero_add, true_and, Nat.sub_zero, List.length_map, Array.length_toList, List.getElem?_map, Array.getElem?_toList] at hv
   rw [if_pos hi, Array.getElem?_eq_getElem hi] at hv
   simp only [Option.map_some, Option.getD_some] at hv
   exact ⟨c[i], by simp, absV_vr hv⟩
  | _ => rw [ho] at hc; cases hc
 ·obtain ⟨rfl, _⟩ := embE_self h3
  obtain ⟨rfl, _⟩ := embE_self h4
  exact absurd h5 h6
 ·obtain ⟨rfl, hc⟩ := embE_self he; exact isCells_lt hc
 ·obtain ⟨rfl, hc⟩ := embE_self he; exact isCells_lt hc
theorem emb_has {w : World} {a : Addr} {v u : Value} (h : w.cell? a = some v) (hu : absV w v = some u) : (embW w).Has a.block a.off u := by
 have hc := isCells_lt (isCells_cell h)
 refine ⟨hc, ?_⟩
 unfold AW.cell
 rw [embW_get, Array.getElem?_eq_getElem hc]
 unfold World.cell? at h
 rw [Array.getElem?_eq_getElem hc] at h
 cases ho : w.heap[a.block] with
 | cells c el fz =>
  rw [ho] at h
  simp only at h
  split at h
  ·cases h
  ·have hi := (Array.getElem?_eq_some_iff.1 h).1
   simp only [Option.map_some, embO]
   have : Nat.blt a.off c.size = true := by rw [Nat.blt_eq]; exact hi
   rw [this]
   simp only
   rw [Tr.get_layO _ _ _ _ (.inl (Tr.get_nil _))]
   simp only [Nat.zero_le, Nat.zero_add, true_and, Nat.sub_zero, List.length_map, Array.length_toList, List.getElem?_map, Array.getElem?_toList]
   rw [if_pos hi, h]
   simpa using hu
 | _ => rw [ho] at h; cases h
theorem cell_spot {w : World} {a : Addr} {v : Value} (h : w.cell? a = some v) : a.spot = none := by
 unfold World.cell? at h
 split at h
 ·split at h
  ·cases h
  ·rename_i hs; simpa using hs
 ·cases h
theorem emb_calls {T : Tabs} {P : Program} (hT : T.Ok P) (hg : ∀ g, T.globs.get g = none) {f : FuncId} {args : List Value} {args' : Array Value} {Q : Value -> AW -> Prop} {w : World} (h : WpF T f args (embW w) Q) (ha : LR (embE w) args args'.toList) :
  Calls P f args' w fun e w' => ∃ η v v' W', e = .returned v' /\ VR η v v' /\ WRel η W' w' /\ Q v W' /\ Onto w w' := by
 obtain ⟨v, W', ⟨N, hN⟩, hQ⟩ := h
 intro cs
 obtain ⟨e, w', fr, ⟨η', v', rfl, q1, q2, q3⟩, r1, r2⟩ := ev_calls hT (hN N (Nat.le_refl _)) (embW_rel w) (fun g u hu => by rw [hg g] at hu; cases hu) ha cs
 exact ⟨_, w', fr, ⟨η', v, v', W', rfl, q3, q2, hQ, ⟨q1.size, fun r hr => q1.keep r hr (fun b e he hz => by
  obtain ⟨rfl, _⟩ := embE_self he; exact absurd rfl hz), q1.froz, q1.tape, q1.os, q1.output⟩⟩, r1, r2⟩
theorem emb_callsG {T : Tabs} {P : Program} (hT : T.Ok P) {w : World} (hg : ∀ g u, T.globs.get g = some u -> isCells w g = true) {f : FuncId} {args : List Value} {args' : Array Value} {Q : Value -> AW -> Prop} (h : WpF T f args (embW w) Q) (ha : LR (embE w) args args'.toList) :
  Calls P f args' w fun e w' => ∃ η v v' W', e = .returned v' /\ VR η v v' /\ WRel η W' w' /\ Q v W' /\ Onto w w' := by
 obtain ⟨v, W', ⟨N, hN⟩, hQ⟩ := h
 intro cs
 obtain ⟨e, w', fr, ⟨η', v', rfl, q1, q2, q3⟩, r1, r2⟩ := ev_calls hT (hN N (Nat.le_refl _)) (embW_rel w) (fun g u hu => ⟨0, by simp [embE, hg g u hu]⟩) ha cs
 exact ⟨_, w', fr, ⟨η', v, v', W', rfl, q3, q2, hQ, ⟨q1.size, fun r hr => q1.keep r hr (fun b e he hz => by
  obtain ⟨rfl, _⟩ := embE_self he; exact absurd rfl hz), q1.froz, q1.tape, q1.os, q1.output⟩⟩, r1, r2⟩
end Go.Eng

end