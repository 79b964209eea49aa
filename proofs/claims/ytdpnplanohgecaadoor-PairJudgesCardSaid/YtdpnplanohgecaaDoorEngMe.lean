import Derived.Test.YtdpnplanohgecaaDoorEngSm
set_option linter.unusedSimpArgs false
set_option linter.unusedVariables false
set_option linter.unusedSectionVars false
namespace Go.Eng

/-! ### memory: what a world holds, and what it becomes -/
def AW.Has (W : AW) (b o : Nat) (v : Value) : Prop := b < W.next ∧ W.cell b o = some v
/-- W' is W but for names in K, and new ones -/
def Only (K : Nat → Prop) (W W' : AW) : Prop := W.next ≤ W'.next ∧ ∀ b, b < W.next → ¬ K b → W'.blocks.get b = W.blocks.get b
abbrev Ext (W W' : AW) : Prop := Only (fun _ => False) W W'
theorem Only.refl (K : Nat → Prop) (W : AW) : Only K W W := ⟨Nat.le_refl _, fun _ _ _ => rfl⟩
theorem Only.trans {K : Nat → Prop} {W W₁ W₂ : AW} (h : Only K W W₁) (h' : Only K W₁ W₂) : Only K W W₂ :=
  ⟨Nat.le_trans h.1 h'.1, fun b hb hk => (h'.2 b (Nat.lt_of_lt_of_le hb h.1) hk).trans (h.2 b hb hk)⟩
theorem Only.mono {K K' : Nat → Prop} {W W' : AW} (h : Only K W W') (hk : ∀ b, b < W.next → K b → K' b) : Only K' W W' := ⟨h.1, fun b hb hn => h.2 b hb (fun x => hn (hk b hb x))⟩
theorem AW.cell_of_get {W W' : AW} {b : Nat} (h : W'.blocks.get b = W.blocks.get b) (o : Nat) : W'.cell b o = W.cell b o := by simp only [AW.cell, h]
theorem AW.cellsAt_of_get {W W' : AW} {b : Nat} (h : W'.blocks.get b = W.blocks.get b) (o n : Nat) : W'.cellsAt b o n = W.cellsAt b o n := by simp only [AW.cellsAt, h]
theorem AW.Has.only {K : Nat → Prop} {W W' : AW} {b o : Nat} {v : Value} (h : W.Has b o v) (he : Only K W W') (hk : ¬ K b) : W'.Has b o v :=
  ⟨Nat.lt_of_lt_of_le h.1 he.1, (AW.cell_of_get (he.2 b h.1 hk) o).trans h.2⟩
theorem AW.Has.ext {W W' : AW} {b o : Nat} {v : Value} (h : W.Has b o v) (he : Ext W W') : W'.Has b o v := h.only he (fun x => x)

theorem newCells_next (W : AW) (el : TypeId) (l : List Value) : (W.newCells el l).next = W.next + 1 := rfl
theorem newCells_get (W : AW) (el : TypeId) (l : List Value) (b : Nat) : (W.newCells el l).blocks.get b = if b = W.next then some ⟨.cells (Tr.nil.lay 0 l) l.length el, []⟩ else W.blocks.get b := by
  simp only [AW.newCells, AW.new, Tr.get_set]
theorem Only.newCells {K : Nat → Prop} (W : AW) (el : TypeId) (l : List Value) : Only K W (W.newCells el l) :=
  ⟨Nat.le_succ _, fun b hb _ => by rw [newCells_get, if_neg (by omega)]⟩
theorem newCells_cell (W : AW) (el : TypeId) (l : List Value) (b o : Nat) : (W.newCells el l).cell b o = if b = W.next then l[o]? else W.cell b o := by
  by_cases h : b = W.next
  · rw [if_pos h]
    simp only [AW.cell, newCells_get, if_pos h, Tr.get_lay]
    by_cases ho : o < l.length
    · simp [blt_dec, ho]
    · simp only [blt_dec, ho, decide_false]
      rw [List.getElem?_eq_none (by omega)]
  · rw [if_neg h]
    exact AW.cell_of_get (by rw [newCells_get, if_neg h]) o
theorem Has.newCells {W : AW} {el : TypeId} {l : List Value} {o : Nat} {v : Value} (h : l[o]? = some v) : (W.newCells el l).Has W.next o v :=
  ⟨Nat.lt_succ_self _, by rw [newCells_cell, if_pos rfl]; exact h⟩
theorem Has.ne {W : AW} {b o : Nat} {v : Value} (h : W.Has b o v) : b ≠ W.next := Nat.ne_of_lt h.1

/-! the operations on cells -/
theorem take_get {α : Type} (t : Tr α) : ∀ (n i : Nat) (l : List α), l.length = n → (∀ j, j < n → t.get (i + j) = l[j]?) → t.take i n = some l
  | 0, i, l, h, _ => by cases l with
    | nil => rfl
    | cons a l => simp at h
  | n + 1, i, l, h, hg => by
    cases l with
    | nil => simp at h
    | cons a l =>
      have h0 := hg 0 (by omega)
      simp at h0
      have := take_get t n (i + 1) l (by simpa using h) (fun j hj => by have := hg (j + 1) (by omega); rw [show i + 1 + j = i + (j + 1) from by omega]; simpa using this)
      simp only [Tr.take, h0, this]
theorem cellsAt_of_cells {W : AW} {b o n : Nat} {l : List Value} (hl : l.length = n) (hb : ∃ k, W.blocks.get b = some k) (h : ∀ j, j < n → W.cell b (o + j) = l[j]?) (hn : 0 < n) : W.cellsAt b o n = some l := by
  obtain ⟨⟨ob, kin⟩, hb⟩ := hb
  have key : ∀ (c : Tr Value) (m : Nat), (∀ j, j < n → (match Nat.blt (o + j) m with | true => c.get (o + j) | false => none) = l[j]?) → (match Nat.ble (o + n) m with | true => c.take o n | false => none) = some l := by
    intro c m hc
    have hlast := hc (n - 1) (by omega)
    have hlt : o + (n - 1) < m := by
      by_cases x : o + (n - 1) < m
      · exact x
      · rw [blt_dec, decide_eq_false x] at hlast
        rw [List.getElem?_eq_getElem (by omega)] at hlast
        cases hlast
    rw [ble_dec, decide_eq_true (by omega)]
    exact take_get c n o l hl (fun j hj => by
      have := hc j hj
      rw [blt_dec, decide_eq_true (by omega)] at this
      exact this)
  cases ob with
  | cells c m el =>
    simp only [AW.cellsAt, hb]
    exact key c m (fun j hj => by have := h j hj; simp only [AW.cell, hb] at this; exact this)
  | ro c m el =>
    simp only [AW.cellsAt, hb]
    exact key c m (fun j hj => by have := h j hj; simp only [AW.cell, hb] at this; exact this)
  | _ =>
    have := h 0 hn
    simp only [AW.cell, hb] at this
    rw [List.getElem?_eq_getElem (by omega)] at this
    cases this

theorem loadVar_cell {T : Tabs} {W : AW} {t : TypeId} {d : TypeDesc} (hd : T.und.get t = some d) (ha : isAggD d = false) (b o : Nat) : aLoadVar T W t b o = W.cell b o := by simp only [aLoadVar, hd, ha]
theorem loadVar_agg {T : Tabs} {W : AW} {t : TypeId} {d : TypeDesc} {i : TypeInfo} (hd : T.und.get t = some d) (ha : isAggD d = true) (hi : T.info.get t = some i) {b o : Nat} {l : List Value} (h : W.cellsAt b o i.size = some l) : aLoadVar T W t b o = some (.agg ⟨l⟩) := by
  simp only [aLoadVar, hd, ha, hi, h]
theorem indexAddr_slice {T : Tabs} {t e : TypeId} {sz : Nat} (hd : T.und.get t = some (.slice e)) (hs : aSize T e = some sz) {b o len c i : Nat} {k : IntKind} (hi : i < len) :
    aIndexAddr T t (.slice (some ⟨b, o, none⟩) len c) (.int k (i : Int)) = some (.pointer (some ⟨b, o + i * sz, none⟩)) := by
  show aIndexAddr T t (.slice (some ⟨b, o, none⟩) len c) (.int k (Int.ofNat i)) = _
  simp only [aIndexAddr, hd, hs, blt_dec, hi, decide_true]
theorem len_slice {T : Tabs} {W : AW} {t e : TypeId} (hd : T.und.get t = some (.slice e)) (a : Option Addr) (n c : Nat) : aLen T W t (.slice a n c) = some (.int .i64 n) := by simp only [aLen, hd]
theorem index_str {T : Tabs} {t : TypeId} (h : T.und.get t = some .string) (s : ByteArray) (k : IntKind) (i : Nat) : aIndex T t (.string s) (.int k (i : Int)) = match s.data.toList[i]? with | some b => some (.int .u8 b.toNat) | none => none := by
  show aIndex T t (.string s) (.int k (Int.ofNat i)) = _
  simp only [aIndex, h]
  cases s.data.toList[i]? <;> rfl
theorem len_str {T : Tabs} {W : AW} {t : TypeId} (h : T.und.get t = some .string) (s : ByteArray) : aLen T W t (.string s) = some (.int .i64 s.data.toList.length) := by
  simp only [aLen, h]
theorem i64_succ (i : Nat) (h : i + 1 < 9223372036854775808) : IntKind.i64.wrap ((i : Int) + 1) = ((i + 1 : Nat) : Int) := by
  rw [IntWalk.i64_in _ (by omega)]; rfl
theorem i64_nat (i : Nat) (h : i < 9223372036854775808) : IntKind.i64.wrap (i : Int) = i := IntWalk.i64_in _ (by omega)

/-! stores into a variable of one's own -/
theorem storeList_own {b : Nat} {n : Nat} {el : TypeId} : ∀ (l : List Value) (W : AW) (c : Tr Value) (o : Nat), W.blocks.get b = some ⟨.cells c n el, []⟩ → o + l.length ≤ n → allB Value.oneCell' l = true →
    ∃ W', W.storeList b o l = some W' ∧ W'.next = W.next ∧ (∀ x, x ≠ b → W'.blocks.get x = W.blocks.get x) ∧ W'.blocks.get b = some ⟨.cells (c.lay o l) n el, []⟩
  | [], W, c, o, hb, _, _ => ⟨W, rfl, rfl, fun _ _ => rfl, hb⟩
  | v :: l, W, c, o, hb, hle, hone => by
    simp only [List.length_cons] at hle
    simp only [allB] at hone
    split at hone
    · rename_i hv
      have hst : W.store b o v = some ⟨W.blocks.set b ⟨.cells (c.set o v) n el, []⟩, W.next⟩ := by
        have hlt : Nat.blt o n = true := by rw [blt_dec]; exact decide_eq_true (by omega)
        simp only [AW.store, hb, hlt, AW.kill]
      obtain ⟨W', h1, h2, h3, h4⟩ := storeList_own (b := b) (n := n) (el := el) l ⟨W.blocks.set b ⟨.cells (c.set o v) n el, []⟩, W.next⟩ (c.set o v) (o + 1) (by simp [Tr.get_set]) (by omega) hone
      refine ⟨W', by simp only [AW.storeList, hv, hst]; exact h1, h2, fun x hx => ?_, h4⟩
      rw [h3 x hx]; simp [Tr.get_set, hx]
    · cases hone
theorem storeVar_own {T : Tabs} {t : TypeId} {i : TypeInfo} {v : Value} {b o n : Nat} {el : TypeId} {W : AW} {c : Tr Value} (hi : T.info.get t = some i) (hs : (acells v).length = i.size) (hb : W.blocks.get b = some ⟨.cells c n el, []⟩) (hle : o + (acells v).length ≤ n)
    (hone : allB Value.oneCell' (acells v) = true) :
    ∃ W', aStoreVar T W t b o v = some W' ∧ W'.next = W.next ∧ (∀ x, x ≠ b → W'.blocks.get x = W.blocks.get x) ∧ W'.blocks.get b = some ⟨.cells (c.lay o (acells v)) n el, []⟩ := by
  obtain ⟨W', h1, h2⟩ := storeList_own (acells v) W c o hb hle hone
  refine ⟨W', ?_, h2⟩
  simp only [aStoreVar, hi, hs, Nat.beq_refl, h1]
theorem mm_min (k k' : IntKind) (x y : Int) : aMinMax false (.int k x) [.int k' y] = some (.int k (min x y)) := by
  simp only [aMinMax]
  by_cases h : y < x
  · rw [decide_eq_true h]; simp only [aMinMax, show min x y = y from by omega]
  · rw [decide_eq_false h]; simp only [aMinMax, show min x y = x from by omega]
theorem mm_max (k k' : IntKind) (x y : Int) : aMinMax true (.int k x) [.int k' y] = some (.int k (max x y)) := by
  simp only [aMinMax]
  by_cases h : y > x
  · rw [decide_eq_true h]; simp only [aMinMax, show max x y = y from by omega]
  · rw [decide_eq_false h]; simp only [aMinMax, show max x y = x from by omega]
end Go.Eng
