import Derived.Test.YtnnfobmfffbhaaaWt0
set_option linter.unusedSimpArgs false
set_option linter.unusedVariables false
set_option linter.unusedSectionVars false
open Go Go.Eng
namespace Go.Proofs.Ytnnfobmfffbhaaa
set_option maxRecDepth 100000
theorem awake_run : memoRun Tb 3000 ⟨17, [], .bool true⟩ = true := by kernel_rfl
/-- the tables, with what awake answers -/
noncomputable def T0 : Tabs := Tb.memo 17 [⟨17, [], .bool true⟩]
theorem T0_ok : T0.Ok Try.prog := Tb_ok.memo (fun x hx => by
  simp only [List.mem_singleton] at hx
  subst hx
  exact Memo.holds_of_run Tb_ok awake_run)
theorem short_awake : shortOf T0 17 [] = some (.bool true) := by kernel_rfl
theorem short_other {g : FuncId} (h : g ≠ 17) (args : List Value) : shortOf T0 g args = none := by
  have : T0.short.get g = none := by
    show (Tr.set Tb.short 17 _).get g = none
    rw [Tr.get_set, if_neg h]
    show Tr.nil.get g = none
    exact Tr.get_nil g
  simp only [shortOf, this]
end Go.Proofs.Ytnnfobmfffbhaaa
