import Derived.Test.YtdpnplanohgecaaDoorPt0
set_option linter.unusedSimpArgs false
set_option linter.unusedVariables false
set_option linter.unusedSectionVars false
open Go Go.Eng
namespace Go.Proofs.YtdpnplanohgecaaDoor
set_option maxRecDepth 100000
theorem awake_run : memoRun Tb 1 3000 ⟨16, [], .bool true⟩ = true := by kernel_rfl
theorem Tb_globs : globsIn Tb.tabs Tb.globs := fun g u h => by
 show ∃ t, tableOf Tb.tabs g = some t
 have h : (Tr.set Tr.nil 0 ()).get g = some u := h
 rw [Tr.get_set] at h
 split at h
 ·rename_i e; subst e; exact ⟨_, rfl⟩
 ·rw [Tr.get_nil] at h; cases h
noncomputable def T0 : Tabs := Tb.memo 16 [⟨16, [], .bool true⟩]
theorem T0_ok : T0.Ok Tryd.prog := Tb_ok.memo (fun x hx => by
 simp only [List.mem_singleton] at hx
 subst hx
 exact Memo.holds_of_run Tb_ok Tb_globs awake_run)
theorem short_awake : shortOf T0 16 [] = some (.bool true) := by kernel_rfl
theorem zzC {g : FuncId} (h : g ≠ 16) (args : List Value) : shortOf T0 g args = none := by
 have : T0.short.get g = none := by
  show (Tr.set Tb.short 16 _).get g = none
  rw [Tr.get_set, if_neg h]
  show Tr.nil.get g = none
  exact Tr.get_nil g
 simp only [shortOf, this]
end Go.Proofs.YtdpnplanohgecaaDoor
