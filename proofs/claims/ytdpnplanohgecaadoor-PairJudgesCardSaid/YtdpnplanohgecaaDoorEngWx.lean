import Derived.Test.YtdpnplanohgecaaDoorEngVr
set_option linter.unusedSimpArgs false
set_option linter.unusedVariables false
set_option linter.unusedSectionVars false
namespace Go.Eng
section
variable {T : Tabs} {cx : Cx} {A : AAct} {W : AW} {Q : AExit → AAct → AW → Prop}
/-- a loop that may be left for a block further out -/
theorem wpK_whileX {id jd : Nat} {body b : Code} (hne : jd ≠ id) (I : Nat → AAct → AW → Prop) (J X Rt : AAct → AW → Prop) {k : Nat} (h : I k A W)
    (hI : ∀ k A W, I k A W → ∀ Q' : AExit → AAct → AW → Prop, (∀ A' W', J A' W' → Q' (.exit id) A' W') → (∀ A' W', X A' W' → Q' (.exit jd) A' W') → (∀ A' W', Rt A' W' → Q' .ret A' W') → (∀ k' A' W', k' < k → I k' A' W' → Q' .normal A' W') → WpK T cx body A W Q')
    (hR : ∀ A' W', Rt A' W' → Q .ret A' W') (hX : ∀ A' W', X A' W' → Q (.exit jd) A' W') (hJ : ∀ A' W', J A' W' → WpK T cx b A' W' Q) : WpK T cx (.seq (.block id (.loop body)) b) A W Q := by
  show WpL T cx body A W (leaves id (behind Q _))
  refine wpL_of_K (I := I) (fun k A W hi => hI k A W hi _ (fun A' W' hj => ?_) (fun A' W' hx => ?_) (fun A' W' hr => hR A' W' hr) (fun k' A' W' hk hi' => ⟨k', hk, hi'⟩)) h
  · show leaves id _ (.exit id) A' W'
    rw [leaves_exit, if_pos rfl]
    exact hJ A' W' hj
  · show leaves id _ (.exit jd) A' W'
    rw [leaves_exit, if_neg hne]
    exact hX A' W' hx
theorem wpK_whileX1 {id jd : Nat} {body : Code} (hne : jd ≠ id) (I : Nat → AAct → AW → Prop) (J X Rt : AAct → AW → Prop) {k : Nat} (h : I k A W)
    (hI : ∀ k A W, I k A W → ∀ Q' : AExit → AAct → AW → Prop, (∀ A' W', J A' W' → Q' (.exit id) A' W') → (∀ A' W', X A' W' → Q' (.exit jd) A' W') → (∀ A' W', Rt A' W' → Q' .ret A' W') → (∀ k' A' W', k' < k → I k' A' W' → Q' .normal A' W') → WpK T cx body A W Q')
    (hR : ∀ A' W', Rt A' W' → Q .ret A' W') (hX : ∀ A' W', X A' W' → Q (.exit jd) A' W') (hJ : ∀ A' W', J A' W' → Q .normal A' W') : WpK T cx (.block id (.loop body)) A W Q := by
  show WpL T cx body A W (leaves id Q)
  refine wpL_of_K (I := I) (fun k A W hi => hI k A W hi _ (fun A' W' hj => ?_) (fun A' W' hx => ?_) (fun A' W' hr => hR A' W' hr) (fun k' A' W' hk hi' => ⟨k', hk, hi'⟩)) h
  · show leaves id _ (.exit id) A' W'
    rw [leaves_exit, if_pos rfl]
    exact hJ A' W' hj
  · show leaves id _ (.exit jd) A' W'
    rw [leaves_exit, if_neg hne]
    exact hX A' W' hx
/-- a scope -/
theorem wpK_scope {b : Code} (h : WpK T cx b A W Q) : WpK T cx (.scope b) A W Q := h
theorem wpK_scopeS {b c : Code} (h : WpK T cx (.seq b c) A W Q) : WpK T cx (.seq (.scope b) c) A W Q := h
theorem wpK_label {l : Nat} {b : Code} (h : WpK T cx b A W Q) : WpK T cx (.seq (.label l) b) A W Q := h
end
end Go.Eng
