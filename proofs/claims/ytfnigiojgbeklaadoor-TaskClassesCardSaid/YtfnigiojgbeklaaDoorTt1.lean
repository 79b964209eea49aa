import Derived.Test.YtfnigiojgbeklaaDoorTtp0
import Derived.Test.YtfnigiojgbeklaaDoorTtp1
import Derived.Test.YtfnigiojgbeklaaDoorTtp2
import Derived.Test.YtfnigiojgbeklaaDoorTtp3
import Derived.Test.YtfnigiojgbeklaaDoorTtp4
import Derived.Test.YtfnigiojgbeklaaDoorTtp5
set_option linter.unusedSimpArgs false
set_option linter.unusedVariables false
set_option linter.unusedSectionVars false
open Go Go.Eng
namespace Go.Proofs.YtfnigiojgbeklaaDoor
set_option maxRecDepth 100000
theorem Tb_globs : globsIn Tb.tabs Tb.globs := fun g u h => by
  show ∃ t, tableOf Tb.tabs g = some t
  have h : (Tr.set Tr.nil 0 ()).get g = some u := h
  rw [Tr.get_set] at h
  split at h
  · rename_i e; subst e; exact ⟨_, rfl⟩
  · rw [Tr.get_nil] at h; cases h
theorem funAwake : Tb.funcs.get 19 = some Tryd.f19 := by kernel_rfl
theorem awake_memo : Memo.Holds Tryd.prog Tb.tabs ⟨19, [], .bool true⟩ := by
  refine Memo.holds_of_pieces (m := 3000) (N := 1) (L := L0) Tb_ok Tb_globs funAwake body_eq (by kernel_rfl) (by kernel_rfl) (by kernel_rfl) rfl ?_
  exact piece Tb_ok run0 (piece Tb_ok run1 (piece Tb_ok run2 (piece Tb_ok run3 (piece Tb_ok run4 (lastPiece Tb_ok run5)))))
noncomputable def T0 : Tabs := Tb.memo 19 [⟨19, [], .bool true⟩]
theorem T0_ok : T0.Ok Tryd.prog := Tb_ok.memo (fun x hx => by
  simp only [List.mem_singleton] at hx
  subst hx
  exact awake_memo)
theorem short_awake : shortOf T0 19 [] = some (.bool true) := by kernel_rfl
theorem short_other {g : FuncId} (h : g ≠ 19) (args : List Value) : shortOf T0 g args = none := by
  have : T0.short.get g = none := by
    show (Tr.set Tb.short 19 _).get g = none
    rw [Tr.get_set, if_neg h]
    show Tr.nil.get g = none
    exact Tr.get_nil g
  simp only [shortOf, this]
end Go.Proofs.YtfnigiojgbeklaaDoor
