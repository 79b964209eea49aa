import Derived.Test.YtdpnplanohgecaaDoorEngR
import Derived.Orders
set_option linter.unusedSimpArgs false
set_option linter.unusedVariables false
set_option linter.unusedSectionVars false
namespace Go.Eng
section
variable {T : Tabs} {P : Program} (hT : T.Ok P) {ih : Ih} (hih : IhOk T P ih) (hdraw : DrawOk T P ih)
theorem stepR_scope {P : Program} {b : Frame} {a : Act} {k : List Item} {cs : List Frame} {w : World} {c : Code} : step P (lone (b.atR a (.code (.scope c) :: k)) cs w) = .next (lone (b.atR a (.code c :: .inScope c :: k)) cs w) :=
 step_lone_go (by simp [stepG, stepG.exec, Frame.atR])
theorem stepR_inScope {P : Program} {b : Frame} {a : Act} {k : List Item} {cs : List Frame} {w : World} {c : Code} : step P (lone (b.atR a (.inScope c :: k)) cs w) = .next (lone (b.atR a k) cs w) :=
 step_lone_go (by simp [stepG, stepG.exec, Frame.atR])
include hT hih hdraw in
theorem code_ok : CodeOk T P (evStep T ih).code (fun c k => .code c :: k) := by
 constructor
 intro cx c A W e A' W' h η w a b k cs hw hG ha hf hro hk
 cases c with
 | skip =>
  simp only [evStep, Option.some.injEq, Prod.mk.injEq] at h
  obtain ⟨rfl, rfl, rfl⟩ := h
  exact ⟨η, a, w, .refl _ _ _, hw, ha, .one stepR_skip⟩
 | label l =>
  simp only [evStep, Option.some.injEq, Prod.mk.injEq] at h
  obtain ⟨rfl, rfl, rfl⟩ := h
  exact ⟨η, a, w, .refl _ _ _, hw, ha, .one stepR_label⟩
 | exit id =>
  simp only [evStep, Option.some.injEq, Prod.mk.injEq] at h
  obtain ⟨rfl, rfl, rfl⟩ := h
  exact ⟨η, a, w, .refl _ _ _, hw, ha, k, rfl, .refl _ _⟩
 | ret =>
  simp only [evStep, Option.some.injEq, Prod.mk.injEq] at h
  obtain ⟨rfl, rfl, rfl⟩ := h
  exact ⟨η, a, w, .refl _ _ _, hw, ha, k, .refl _ _⟩
 | seq x y =>
  simp only [evStep] at h
  split at h
  ·rename_i A₁ W₁ hc
   obtain ⟨η₁, a₁, w₁, g1, g2, g3, g4⟩ := hih.code.run _ _ _ _ _ _ _ hc η w a b (.code y :: k) cs hw hG ha hf hro hk
   obtain ⟨η₂, a₂, w₂, q1, q2, q3, q4⟩ := hih.code.run _ _ _ _ _ _ _ h η₁ w₁ a₁ b k cs g2 (hG.mono g1.le) g3 hf (hro.mono g1.le) hk
   exact ⟨η₂, a₂, w₂, g1.trans q1, q2, q3, .of_steps (.head stepR_seq g4) q4⟩
  ·rename_i hn
   obtain ⟨η₁, a₁, w₁, g1, g2, g3, g4⟩ := hih.code.run _ _ _ _ _ _ _ h η w a b (.code y :: k) cs hw hG ha hf hro hk
   refine ⟨η₁, a₁, w₁, g1, g2, g3, .of_steps (.one stepR_seq) ?_⟩
   cases e with
   | normal => exact absurd h (hn A' W')
   | exit id => obtain ⟨k₁, x, y⟩ := g4; exact ⟨k₁, by simpa [exitTo] using x, y⟩
   | ret => exact g4
 | cond c x y =>
  simp only [evStep] at h
  split at h
  ·rename_i hc
   have hv := aEval_spec (a := a) hG ha.1 hc
   have hv' : a.eval c = .bool true := by generalize a.eval c = u at hv; cases hv; rfl
   obtain ⟨η₁, a₁, w₁, g1, g2, g3, g4⟩ := hih.code.run _ _ _ _ _ _ _ h η w a b k cs hw hG ha hf hro hk
   exact ⟨η₁, a₁, w₁, g1, g2, g3, .of_steps (.one (stepR_cond hv')) g4⟩
  ·rename_i hc
   have hv := aEval_spec (a := a) hG ha.1 hc
   have hv' : a.eval c = .bool false := by generalize a.eval c = u at hv; cases hv; rfl
   obtain ⟨η₁, a₁, w₁, g1, g2, g3, g4⟩ := hih.code.run _ _ _ _ _ _ _ h η w a b k cs hw hG ha hf hro hk
   exact ⟨η₁, a₁, w₁, g1, g2, g3, .of_steps (.one (stepR_cond hv')) g4⟩
  ·cases h
 | block id c =>
  simp only [evStep] at h
  split at h
  ·rename_i id' A₁ W₁ hc
   obtain ⟨η₁, a₁, w₁, g1, g2, g3, k₁, x, y⟩ := hih.code.run _ _ _ _ _ _ _ hc η w a b (.inBlock id :: k) cs hw hG ha hf hro hk
   split at h
   ·rename_i hid
    cases h
    have hid' : id' = id := Nat.eq_of_beq_eq_true hid
    subst hid'
    have hx : exitTo id' k₁ = some k := by rw [x]; simp [exitTo]
    exact ⟨η₁, a₁, w₁, g1, g2, g3, .head stepR_block (y.trans (.one (stepR_exit hx)))⟩
   ·rename_i hid
    cases h
    have hid' : id' ≠ id := fun x => by subst x; simp at hid
    refine ⟨η₁, a₁, w₁, g1, g2, g3, k₁, ?_, .head stepR_block y⟩
    rw [x]; simp [exitTo, Ne.symm hid']
  ·rename_i hn
   obtain ⟨η₁, a₁, w₁, g1, g2, g3, g4⟩ := hih.code.run _ _ _ _ _ _ _ h η w a b (.inBlock id :: k) cs hw hG ha hf hro hk
   refine ⟨η₁, a₁, w₁, g1, g2, g3, .of_steps (.one stepR_block) ?_⟩
   cases e with
   | normal => exact Steps.trans g4 (.one stepR_inBlock)
   | exit id => exact absurd h (hn _ _ _)
   | ret => exact g4
 | loop c =>
  simp only [evStep] at h
  obtain ⟨η₁, a₁, w₁, g1, g2, g3, g4⟩ := hih.loop.run _ _ _ _ _ _ _ h η w a b k cs hw hG ha hf hro hk
  exact ⟨η₁, a₁, w₁, g1, g2, g3, .of_steps (.one stepR_loop) g4⟩
 | region id ops mix =>
  cases mix with
  | false =>
   simp only [evStep] at h
   split at h
   case h_2 => cases h
   rename_i A₁ W₁ ho
   cases h
   obtain ⟨η₁, a₁, w₁, g1, g2, g3, g4⟩ := aOps_spec (ops := ops) hT hih ops.toList 0 A W A' W' η w a b k cs (fun j => by simp) ho hw hG ha hro hk
   refine ⟨η₁, a₁, w₁, g1, g2, g3, .head stepR_region ?_⟩
   have : List.range ops.size = upFrom 0 ops.toList.length := by
    rw [<- range_upFrom, List.range_eq_range']; simp
   rw [this]
   exact g4.trans (.one stepR_region_end)
  | true =>
   simp only [evStep] at h
   split at h
   case h_2 => cases h
   rename_i A₁ W₁ ho
   cases h
   obtain ⟨η₁, a₁, w₁, g1, g2, g3, g4⟩ := hdraw cx.ro ops A W A' W' ho η { w with drawn := w.drawn + 1 } a b k cs (w.tape w.drawn (.order b.fn id)) (hw.drawn _) hG ha hro hk
   have hfr : Fr η W w η W { w with drawn := w.drawn + 1 } := (Fr.refl η W w).drawn _
   refine ⟨η₁, a₁, w₁, hfr.trans g1, g2, g3, .head stepR_region_draw ?_⟩
   have : Region.schedule (P.follows .mixedOrders) ops (w.tape w.drawn (.order b.fn id)) = Region.linearise .any ops (w.tape w.drawn (.order b.fn id)) := by
    simp [Region.schedule, hT.mixed]
   rw [this]
   exact g4.trans (.one stepR_region_end)
 | scope c =>
  simp only [evStep] at h
  obtain ⟨η₁, a₁, w₁, g1, g2, g3, g4⟩ := hih.code.run _ _ _ _ _ _ _ h η w a b (.inScope c :: k) cs hw hG ha hf hro hk
  refine ⟨η₁, a₁, w₁, g1, g2, g3, .of_steps (.one stepR_scope) ?_⟩
  cases e with
  | normal => exact Steps.trans g4 (.one stepR_inScope)
  | exit id => obtain ⟨k₁, x, y⟩ := g4; exact ⟨k₁, by simpa [exitTo] using x, y⟩
  | ret => exact g4
 | rangeFunc g ps as bd =>
  simp only [evStep] at h
  exact range_ok hT hih h hw hG ha hf hro
 | _ => cases h
end
end Go.Eng
