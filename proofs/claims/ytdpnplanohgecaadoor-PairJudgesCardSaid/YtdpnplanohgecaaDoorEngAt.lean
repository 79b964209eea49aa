import Derived.Test.YtdpnplanohgecaaDoorEngAs
set_option linter.unusedSimpArgs false
set_option linter.unusedVariables false
set_option linter.unusedSectionVars false
namespace Go.Eng
theorem wpK_exit {T : Tabs} {cx : Cx} {id : Nat} {A : AAct} {W : AW} {Q : AExit → AAct → AW → Prop} (h : Q (.exit id) A W) : WpK T cx (.exit id) A W Q := h
theorem wpK_outT {T : Tabs} {cx : Cx} {c : Operand} {id : Nat} {y b : Code} {A : AAct} {W : AW} {Q : AExit → AAct → AW → Prop} (hc : aEval T A.tmps c = some (.bool true)) (h : Q (.exit id) A W) : WpK T cx (.seq (.cond c (.exit id) y) b) A W Q := wpK_condT hc h
/-- parts of a block that meet again -/
theorem wpK_cut {T : Tabs} {cx : Cx} {a b : Code} {A : AAct} {W : AW} {Q : AExit → AAct → AW → Prop} (J : AAct → AW → Prop) (h : ∀ Q' : AExit → AAct → AW → Prop, (∀ A' W', J A' W' → Q' .normal A' W') → WpK T cx a A W Q') (h2 : ∀ A' W', J A' W' → WpK T cx b A' W' Q) : WpK T cx (.seq a b) A W Q :=
  wpK_then (h (behind Q fun A' W' => WpK T cx b A' W' Q) (fun A' W' hj => h2 A' W' hj))
end Go.Eng
