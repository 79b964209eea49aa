import Derived.Test.YtdpnplanohgecaaDoorEngMe
set_option linter.unusedSimpArgs false
set_option linter.unusedVariables false
set_option linter.unusedSectionVars false
namespace Go.Eng

/-! ### a world that is read -/
def isCells (w : World) (b : Nat) : Bool := match w.heap[b]? with
  | some (.cells _ _ _) => true
  | _ => false
def embE (w : World) : Env := fun b => if isCells w b = true then some (b, 0, 0) else none
theorem embE_self {w : World} {b : Nat} {e : Nat × Nat × Nat} (h : embE w b = some e) : e = (b, 0, 0) ∧ isCells w b = true := by
  unfold embE at h
  split at h
  · cases h; exact ⟨rfl, by assumption⟩
  · cases h
theorem isCells_lt {w : World} {b : Nat} (h : isCells w b = true) : b < w.heap.size := by
  unfold isCells at h
  split at h
  · rename_i h1; exact (Array.getElem?_eq_some_iff.1 h1).1
  · cases h
theorem isCells_cell {w : World} {a : Addr} {v : Value} (h : w.cell? a = some v) : isCells w a.block = true := by
  unfold World.cell? at h
  unfold isCells
  split at h
  · rename_i h1; rw [h1]
  · cases h

/-- a cell's value, by the names that embE gives -/
def absV (w : World) : Value → Option Value
  | .bool b => some (.bool b)
  | .int k n => some (.int k n)
  | .string s => some (.string s)
  | .pointer none => some (.pointer none)
  | .pointer (some ⟨b, o, none⟩) => if isCells w b = true then some (.pointer (some ⟨b, o, none⟩)) else none
  | .slice none 0 0 => some (.slice none 0 0)
  | .slice (some ⟨b, o, none⟩) n c => if isCells w b = true then some (.slice (some ⟨b, o, none⟩) n (2 * c)) else if n = 0 ∧ c = 0 then some (.slice (some ⟨0, 0, some 1⟩) 0 0) else none
  | .slice (some ⟨_, _, some _⟩) 0 0 => some (.slice (some ⟨0, 0, some 1⟩) 0 0)
  | _ => none
theorem absV_vr {w : World} {v u : Value} (h : absV w v = some u) : VR (embE w) u v := by
  unfold absV at h
  split at h
  · cases h; exact .bool _
  · cases h; exact .int _ _
  · cases h; exact .string _
  · cases h; exact .ptrNil
  · split at h
    · cases h
      rename_i b o hb
      have := VR.ptr (η := embE w) b o (b, 0, 0) (by simp [embE, hb])
      simpa using this
    · cases h
  · cases h; exact .sliceNil
  · split at h
    · cases h
      rename_i b o n c hb
      have := VR.sliceAt (η := embE w) b o n c (b, 0, 0) (by simp [embE, hb])
      simpa using this
    · split at h
      · rename_i hc; obtain ⟨rfl, rfl⟩ := hc; cases h; exact .sliceVoid _
      · cases h
  · cases h; exact .sliceVoid _
  · cases h

/-- a list laid with holes -/
def Tr.layO {α : Type} : Tr α → Nat → List (Option α) → Tr α
  | t, _, [] => t
  | t, n, none :: l => t.layO (n + 1) l
  | t, n, some v :: l => (t.set n v).layO (n + 1) l
theorem Tr.get_layO {α : Type} : ∀ (l : List (Option α)) (t : Tr α) (n k : Nat), t.get k = none ∨ k < n → (t.layO n l).get k = if n ≤ k ∧ k < n + l.length then l[k - n]?.getD none else t.get k
  | [], t, n, k, _ => by simp [Tr.layO]; omega
  | none :: l, t, n, k, h => by
    rw [Tr.layO, Tr.get_layO l t (n + 1) k (h.imp id fun x => by omega)]
    by_cases h1 : n + 1 ≤ k ∧ k < n + 1 + l.length
    · rw [if_pos h1, if_pos (by simp only [List.length_cons]; omega), show k - n = (k - (n + 1)) + 1 from by omega]; rfl
    · rw [if_neg h1]
      by_cases e : k = n
      · subst e
        simp only [Nat.le_refl, List.length_cons, true_and, Nat.sub_self]
        rw [if_pos (by omega)]
        rcases h with h | h
        · simpa using h
        · omega
      · rw [if_neg (by simp only [List.length_cons]; omega)]
  | some v :: l, t, n, k, h => by
    by_cases e : k = n
    · subst e
      rw [Tr.layO, Tr.get_layO l _ (k + 1) k (by omega), if_neg (by omega), if_pos (by simp only [List.length_cons]; omega), Tr.get_set, if_pos rfl]; simp
    · rw [Tr.layO, Tr.get_layO l _ (n + 1) k (by rw [Tr.get_set, if_neg e]; exact h.imp id fun x => by omega), Tr.get_set, if_neg e]
      by_cases h1 : n + 1 ≤ k ∧ k < n + 1 + l.length
      · rw [if_pos h1, if_pos (by simp only [List.length_cons]; omega), show k - n = (k - (n + 1)) + 1 from by omega]; rfl
      · rw [if_neg h1, if_neg (by simp only [List.length_cons]; omega)]

def embO (w : World) : Obj → AObj
  | .cells c el _ => .ro (Tr.nil.layO 0 (c.toList.map (absV w))) c.size el
  | _ => .ro .nil 0 0
def embW (w : World) : AW := ⟨Tr.nil.layO 0 (w.heap.toList.map fun o => some ⟨embO w o, []⟩), w.heap.size⟩
theorem embW_get (w : World) (b : Nat) : (embW w).blocks.get b = (w.heap[b]?).map fun o => ⟨embO w o, []⟩ := by
  show (Tr.nil.layO 0 _).get b = _
  rw [Tr.get_layO _ _ _ _ (.inl (Tr.get_nil _))]
  simp only [Nat.zero_le, Nat.zero_add, true_and, Nat.sub_zero, List.length_map, Array.length_toList, List.getElem?_map, Array.getElem?_toList]
  by_cases h : b < w.heap.size
  · rw [if_pos h, Array.getElem?_eq_getElem h]; rfl
  · rw [if_neg h, Tr.get_nil, Array.getElem?_eq_none (by omega)]; rfl

theorem embW_rel (w : World) : WRel (embE w) (embW w) w := by
  refine ⟨fun b k e hb he => ?_, fun b₁ b₂ k₁ k₂ e₁ e₂ _ _ h3 h4 h5 h6 => ?_, fun b e he => ?_, fun b e he => ?_⟩
  · obtain ⟨rfl, hc⟩ := embE_self he
    rw [embW_get] at hb
    have hl := isCells_lt hc
    rw [Array.getElem?_eq_getElem hl] at hb
    simp only [Option.map_some, Option.some.injEq] at hb
    subst hb
    refine ⟨w.heap[b], Array.getElem?_eq_getElem hl, ?_⟩
    unfold isCells at hc
    rw [Array.getElem?_eq_getElem hl] at hc
    cases ho : w.heap[b] with
    | cells c el fz =>
      refine ⟨rfl, by simp, fun i v hi hv => ?_⟩
      rw [Tr.get_layO _ _ _ _ (.inl (Tr.get_nil _))] at hv
      simp only [Nat.zero_le, Nat.zero_add, true_and, Nat.sub_zero, List.length_map, Array.length_toList, List.getElem?_map, Array.getElem?_toList] at hv
      rw [if_pos hi, Array.getElem?_eq_getElem hi] at hv
      simp only [Option.map_some, Option.getD_some] at hv
      exact ⟨c[i], by simp, absV_vr hv⟩
    | _ => rw [ho] at hc; cases hc
  · obtain ⟨rfl, _⟩ := embE_self h3
    obtain ⟨rfl, _⟩ := embE_self h4
    exact absurd h5 h6
  · obtain ⟨rfl, hc⟩ := embE_self he; exact isCells_lt hc
  · obtain ⟨rfl, hc⟩ := embE_self he; exact isCells_lt hc

/-- a cell is found -/
theorem emb_has {w : World} {a : Addr} {v u : Value} (h : w.cell? a = some v) (hu : absV w v = some u) : (embW w).Has a.block a.off u := by
  have hc := isCells_lt (isCells_cell h)
  refine ⟨hc, ?_⟩
  unfold AW.cell
  rw [embW_get, Array.getElem?_eq_getElem hc]
  unfold World.cell? at h
  rw [Array.getElem?_eq_getElem hc] at h
  cases ho : w.heap[a.block] with
  | cells c el fz =>
    rw [ho] at h
    simp only at h
    split at h
    · cases h
    · have hi := (Array.getElem?_eq_some_iff.1 h).1
      simp only [Option.map_some, embO]
      have : Nat.blt a.off c.size = true := by rw [Nat.blt_eq]; exact hi
      rw [this]
      simp only
      rw [Tr.get_layO _ _ _ _ (.inl (Tr.get_nil _))]
      simp only [Nat.zero_le, Nat.zero_add, true_and, Nat.sub_zero, List.length_map, Array.length_toList, List.getElem?_map, Array.getElem?_toList]
      rw [if_pos hi, h]
      simpa using hu
  | _ => rw [ho] at h; cases h
theorem cell_spot {w : World} {a : Addr} {v : Value} (h : w.cell? a = some v) : a.spot = none := by
  unfold World.cell? at h
  split at h
  · split at h
    · cases h
    · rename_i hs; simpa using hs
  · cases h
/-- a row of which there is a first cell, or none is asked for -/
theorem absV_row {w : World} {a : Addr} {n c : Nat} (h : 0 < c → ∃ v, w.cell? a = some v) (hn : n ≤ c) :
    ∃ a' c', absV w (.slice (some a) n c) = some (.slice a' n c') ∧ (0 < c → a' = some ⟨a.block, a.off, none⟩) := by
  by_cases hc : 0 < c
  · obtain ⟨v, hv⟩ := h hc
    have hs := cell_spot hv
    have hb := isCells_cell hv
    obtain ⟨b, o, s⟩ := a
    simp only at hs hb; subst hs
    exact ⟨some ⟨b, o, none⟩, 2 * c, by simp [absV, hb], fun _ => rfl⟩
  · obtain rfl : c = 0 := by omega
    obtain rfl : n = 0 := by omega
    obtain ⟨b, o, s⟩ := a
    cases s with
    | none =>
      by_cases hb : isCells w b = true
      · exact ⟨some ⟨b, o, none⟩, 0, by simp [absV, hb], fun x => absurd x hc⟩
      · exact ⟨some ⟨0, 0, some 1⟩, 0, by simp [absV, hb], fun x => absurd x hc⟩
    | some s => exact ⟨some ⟨0, 0, some 1⟩, 0, rfl, fun x => absurd x hc⟩

/-- a run over a world of which cells are read -/
theorem emb_calls {T : Tabs} {P : Program} (hT : T.Ok P) (hg : ∀ g, T.globs.get g = none) {f : FuncId} {args : List Value} {args' : Array Value} {Q : Value → AW → Prop} {w : World} (h : WpF T f args (embW w) Q) (ha : LR (embE w) args args'.toList) :
    Calls P f args' w fun e w' => ∃ η v v' W', e = .returned v' ∧ VR η v v' ∧ WRel η W' w' ∧ Q v W' ∧ Onto w w' := by
  obtain ⟨v, W', ⟨N, hN⟩, hQ⟩ := h
  intro cs
  obtain ⟨e, w', fr, ⟨η', v', rfl, q1, q2, q3⟩, r1, r2⟩ := ev_calls hT (hN N (Nat.le_refl _)) (embW_rel w) (fun g u hu => by rw [hg g] at hu; cases hu) ha cs
  exact ⟨_, w', fr, ⟨η', v, v', W', rfl, q3, q2, hQ, ⟨q1.size, fun r hr => q1.keep r hr (fun b e he hz => by
    obtain ⟨rfl, _⟩ := embE_self he; exact absurd rfl hz), q1.froz, q1.tape, q1.os, q1.output⟩⟩, r1, r2⟩
/-- .. a world with variables that are named -/
theorem emb_callsG {T : Tabs} {P : Program} (hT : T.Ok P) {w : World} (hg : ∀ g u, T.globs.get g = some u → isCells w g = true) {f : FuncId} {args : List Value} {args' : Array Value} {Q : Value → AW → Prop} (h : WpF T f args (embW w) Q) (ha : LR (embE w) args args'.toList) :
    Calls P f args' w fun e w' => ∃ η v v' W', e = .returned v' ∧ VR η v v' ∧ WRel η W' w' ∧ Q v W' ∧ Onto w w' := by
  obtain ⟨v, W', ⟨N, hN⟩, hQ⟩ := h
  intro cs
  obtain ⟨e, w', fr, ⟨η', v', rfl, q1, q2, q3⟩, r1, r2⟩ := ev_calls hT (hN N (Nat.le_refl _)) (embW_rel w) (fun g u hu => ⟨0, by simp [embE, hg g u hu]⟩) ha cs
  exact ⟨_, w', fr, ⟨η', v, v', W', rfl, q3, q2, hQ, ⟨q1.size, fun r hr => q1.keep r hr (fun b e he hz => by
    obtain ⟨rfl, _⟩ := embE_self he; exact absurd rfl hz), q1.froz, q1.tape, q1.os, q1.output⟩⟩, r1, r2⟩
end Go.Eng
