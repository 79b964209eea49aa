import Derived.Test.YtdpnplanohgecaaDoorEngV
set_option linter.unusedSimpArgs false
set_option linter.unusedVariables false
set_option linter.unusedSectionVars false
namespace Go.Eng
theorem aFlt_run {T : Tabs} {P : Program} (hT : T.Ok P) {η : Env} {ρ : Operand -> Option Value} {ρ' : Operand -> Value} (hρ : ∀ x v, ρ x = some v -> VR η v (ρ' x)) {o : Oper} {F : AFlt} (h : aFlt T ρ o.op = some F) (w : World) :
  ∃ l' v', (execOp ρ' o).run P w = .ok (.value v') { w with heap := w.heap.push (.cells l'.toArray F.elem) } /\ LR η F.cells l' /\ ∀ (η' : Env) b e, η' b = some (w.heap.size, 0, e) -> VR η' (F.val b) v' := by
 unfold aFlt at h
 unfold execOp
 cases hop : o.op <;> simp only [hop] at h ⊢ <;> try (cases h; done)
 case alloc elem =>
  split at h
  ·rename_i z hz
   cases h
   obtain ⟨z1, z2⟩ := aZero_spec hT hz w η
   refine ⟨z.cells.toList, .pointer (some ⟨w.heap.size, 0, none⟩), ?_, acells_vr z2, fun η' b e he => .ptr b 0 _ he⟩
   simp [Instr.alloc, z1, newVar, newRow]
  ·cases h
 case box elem x =>
  split at h
  ·rename_i v hv
   cases h
   refine ⟨(ρ' x).cells.toList, .pointer (some ⟨w.heap.size, 0, none⟩), ?_, acells_vr (hρ _ _ hv), fun η' b e he => .ptr b 0 _ he⟩
   simp [Instr.box, newVar, newRow]
  ·cases h
 case buildSlice t len parts =>
  split at h
  case h_2 => cases h
  rename_i ps hps
  have hp := aParts_spec hρ hps
  rw [<- Array.toList_map] at hp
  split at h
  ·rename_i elem hu
   split at h
   ·rename_i i hi
    split at h
    ·rename_i z hz
     split at h
     ·rename_i h1 h4
      split at h
      ·rename_i c hc
       cases h
       have h1 : len * i.size <= 16777216 := Nat.le_of_ble_eq_true h1
       have h4 := Nat.eq_of_beq_eq_true h4
       have zz := flat_vr η z (hT.zero _ _ _ hi hz)
       have hzl := acells_vr zz
       have hzs : z.cells.size = i.size := by rw [<- h4, hzl.1]; simp
       obtain ⟨r', g1, g2⟩ := sound_fill ps _ _ (rep z.cells.toList len).toArray c hc hp (by simpa using hzl.rep len)
       refine ⟨r'.toList, .slice (some ⟨w.heap.size, 0, none⟩) len len, ?_, by simpa using g2, fun η' b e he => .sliceAt b 0 len len _ he⟩
       simp only [Instr.buildSlice, Sem.run_bind, run_under (hT.und _ _ hu), Result.andThen_ok, run_sizeOf (hT.info _ _ hi)]
       rw [if_neg (by omega)]
       by_cases h0 : len * i.size = 0
       ·have e : rep z.cells.toList len = [] := List.length_eq_zero_iff.1 (by rw [rep_length]; simp [hzs, h0])
        rw [e] at g1
        rw [if_pos h0]
        have g1' : Instr.fill (fun j => some (j * i.size, i.size)) ((Array.range 0).map fun x => (#[] : Array Value)[x % (#[] : Array Value).size]!) (parts.map fun (i, x) => (i, ρ' x)).toList = some r' := by rw [map_range_zero]; exact g1
        simp only [Sem.run_bind, Sem.run_pure, Result.andThen_ok, newRow, run_newObj, h0, g1', Array.toArray_toList]
       ·rw [if_neg h0]
        have g1' : Instr.fill (fun j => some (j * i.size, i.size)) ((Array.range (len * i.size)).map fun x => z.cells[x % z.cells.size]!) (parts.map fun (i, x) => (i, ρ' x)).toList = some r' := by
         rw [<- hzs, rep_range]; rw [hzs]; exact g1
        simp only [Sem.run_bind, run_zeroValue (hT.info _ _ hi) hz, Result.andThen_ok, Sem.run_pure, newRow, run_newObj, g1', Array.toArray_toList]
      ·cases h
     ·cases h
    ·cases h
   ·cases h
  ·cases h
 case makeSlice t l c =>
  split at h
  ·rename_i k1 l₀ k2 c₀ hl hc
   have hl' := hρ _ _ hl
   have hc' := hρ _ _ hc
   generalize ρ' l = lv at hl' ⊢
   generalize ρ' c = cv at hc' ⊢
   cases hl'; cases hc'
   split at h
   ·rename_i elem hu
    split at h
    ·rename_i i hi
     split at h
     ·rename_i z hz
      split at h
      ·rename_i h1 h2 h3 h4
       cases h
       have h1 : l₀ <= c₀ := Nat.le_of_ble_eq_true h1
       have h2 : c₀ <= 4611686018427387904 := Nat.le_of_ble_eq_true h2
       have h3 : i.bytes * c₀ <= 281474976710656 := Nat.le_of_ble_eq_true h3
       have h4 := Nat.eq_of_beq_eq_true h4
       have zz := flat_vr η z (hT.zero _ _ _ hi hz)
       have hzl := acells_vr zz
       have hzs : z.cells.size = i.size := by rw [<- h4, hzl.1]; simp
       refine ⟨rep z.cells.toList c₀, .slice (some ⟨w.heap.size, 0, none⟩) l₀ c₀, ?_, hzl.rep c₀, fun η' b e he => .sliceAt b 0 l₀ c₀ _ he⟩
       have hbig : ((i.bytes : Int) * (c₀ : Int)) <= 281474976710656 := by have := Int.ofNat_le.2 h3; rw [Int.natCast_mul] at this; exact this
       simp only [Instr.makeSlice, Sem.run_bind, run_under (hT.und _ _ hu), Result.andThen_ok, asInt, asIntOf, Sem.run_pure, run_typeInfo (hT.info _ _ hi), wrap64_id h2, wrap64_id (Nat.le_trans h1 h2), run_sizeOf (hT.info _ _ hi)]
       have hcond : ((decide ((c₀ : Int) < 0) || decide ((i.bytes : Int) * (c₀ : Int) > 2 ^ 48)) || decide ((l₀ : Int) < 0) || decide ((l₀ : Int) > (c₀ : Int))) = false := by
        simp; omega
       rw [if_neg (by rw [hcond]; simp)]
       simp only [Sem.run_bind, run_askRoom, Result.andThen_ok, Int.toNat_natCast, run_sizeOf (hT.info _ _ hi)]
       by_cases h0 : c₀ * i.size = 0
       ·have e : rep z.cells.toList c₀ = [] := List.length_eq_zero_iff.1 (by rw [rep_length]; simp [hzs, h0])
        rw [if_pos h0]
        simp only [Sem.run_bind, Sem.run_pure, Result.andThen_ok, newRow, run_newObj, h0, e, map_range_zero]
       ·rw [if_neg h0]
        simp only [Sem.run_bind, run_zeroValue (hT.info _ _ hi) hz, Result.andThen_ok, Sem.run_pure, newRow, run_newObj]
        rw [<- hzs, rep_range]
      ·cases h
     ·cases h
    ·cases h
   ·cases h
  ·cases h
theorem Fr.weak {η η' : Env} {W W' X : AW} {w w' : World} (h : Fr η W w η' W' w') (hx : X.next <= W.next) : Fr η X w η' X w' :=
 ⟨h.le, h.size, h.keep, h.new, h.froz, h.tape, h.os, h.output, Nat.le_refl _, fun b e he => (h.fresh b e he).imp id fun x => Nat.le_trans hx x, h.sort⟩
theorem Fr.to {η η' : Env} {W W' X : AW} {w w' : World} (h : Fr η W w η' W' w') (hx : W.next <= X.next) : Fr η W w η' X w' :=
 ⟨h.le, h.size, h.keep, h.new, h.froz, h.tape, h.os, h.output, hx, h.fresh, h.sort⟩
theorem WRel.late {η : Env} {W : AW} {w : World} (h : WRel η W w) {b : Nat} {elem : TypeId} {l l' : List Value} (hfr : freshB W b elem l = true) (hb : η b = none) (hl : LR η l l') :
  let η' := η.add b (w.heap.size, 0, l'.length)
  WRel η' W { w with heap := w.heap.push (.cells l'.toArray elem) } /\ ∀ X : AW, X.next <= b -> Fr η X w η' X { w with heap := w.heap.push (.cells l'.toArray elem) } := by
 intro η'
 obtain ⟨hlt, c, hc, hcs⟩ := freshB_spec hfr
 have hle : η.Le η' := Env.le_add _ hb
 have hin : ∀ b' e, η' b' = some e -> (b' = b /\ e = (w.heap.size, 0, l'.length)) \/ (b' ≠ b /\ η b' = some e) := by
  intro b' e he
  by_cases hbb : b' = b
  ·subst hbb; have he : η.add b' (w.heap.size, 0, l'.length) b' = some e := he; rw [Env.add_self] at he; cases he; exact .inl ⟨rfl, rfl⟩
  ·exact .inr ⟨hbb, by simpa [η', Env.add, hbb] using he⟩
 refine ⟨⟨fun b' k e hg he => ?_, fun b₁ b₂ k₁ k₂ e₁ e₂ h1 h2 h3 h4 h5 h6 => ?_, fun b' e he => ?_, fun b' e he => ?_⟩, fun X hX => ⟨hle, by simp, fun r hr hn => ?_, fun b' e he _ => ?_, frozen?_pushObj w _ (fun c el fz x => by cases x; rfl), rfl, rfl, rfl, Nat.le_refl _, fun b' e he => ?_, fun r c el fz x => ⟨c, by
  have hr := (Array.getElem?_eq_some_iff.1 x).1
  simp only [Array.getElem?_push]; rw [if_neg (Nat.ne_of_lt hr)]; exact x, rfl⟩⟩⟩
 ·rcases hin _ _ he with ⟨rfl, rfl⟩ | ⟨hne, he'⟩
  ·rw [hc] at hg; cases hg
   refine ⟨.cells l'.toArray elem, by simp, rfl, by simp, by simp [hl.1], fun i _ _ hh => by simp at hh, fun i v hi hv => ?_⟩
   rw [hcs i hi] at hv
   have hi' : i < l'.length := by rw [<- hl.1]; exact hi
   exact ⟨l'[i], by simp [hi'], (hl.2 i v _ hv (List.getElem?_eq_getElem hi')).mono hle⟩
  ·obtain ⟨o, h1, h2⟩ := h.obj b' k e hg he'
   have := h.inHeap _ _ he'
   exact ⟨o, by rw [<- h1]; exact Array.getElem?_push_lt this ▸ (by simp [this]), h2.mono hle⟩
 ·rcases hin _ _ h3 with ⟨rfl, rfl⟩ | ⟨hne1, h3'⟩
  ·rcases hin _ _ h4 with ⟨rfl, rfl⟩ | ⟨hne2, h4'⟩
   ·exact absurd rfl h6
   ·have := h.inHeap _ _ h4'
    simp only at h5; omega
  ·rcases hin _ _ h4 with ⟨rfl, rfl⟩ | ⟨hne2, h4'⟩
   ·have := h.inHeap _ _ h3'
    simp only at h5; omega
   ·exact h.apart _ _ _ _ _ _ h1 h2 h3' h4' h5 h6
 ·rcases hin _ _ he with ⟨rfl, rfl⟩ | ⟨hne, he'⟩
  ·exact hlt
  ·exact h.next _ _ he'
 ·rcases hin _ _ he with ⟨rfl, rfl⟩ | ⟨hne, he'⟩
  ·simp
  ·have := h.inHeap _ _ he'
   simp; omega
 ·simp only; rw [Array.getElem?_push]; rw [if_neg (by omega)]
 ·rcases hin _ _ he with ⟨rfl, rfl⟩ | ⟨hne, he'⟩
  ·exact .inr (.inl (Nat.le_refl _))
  ·exact .inl he'
 ·rcases hin _ _ he with ⟨rfl, rfl⟩ | ⟨hne, he'⟩
  ·exact .inr hX
  ·exact .inl he'
end Go.Eng
