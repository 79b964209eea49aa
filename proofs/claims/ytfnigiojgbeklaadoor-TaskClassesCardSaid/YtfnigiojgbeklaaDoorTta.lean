import Derived.Test.YtfnigiojgbeklaaDoorTt0
import Derived.Test.YtfnigiojgbeklaaDoorEngNd
set_option linter.unusedSimpArgs false
set_option linter.unusedVariables false
set_option linter.unusedSectionVars false
open Go Go.Eng
namespace Go.Proofs.YtfnigiojgbeklaaDoor
set_option maxRecDepth 100000
noncomputable def Dr : Tr Unit := (Tr.set (Tr.set (Tr.set (Tr.set Tr.nil 19 ()) 34 ()) 64 ()) 82 ())
def seqL : Code → Code | .seq a _ => a | c => c
def seqR : Code → Code | .seq _ a => a | c => c
def bodyOf (f : Func) : Code := match f.body with | some c => c | none => .skip
noncomputable def C0 : Code := seqL (bodyOf Tryd.f19)
noncomputable def C1 : Code := seqL (seqR (bodyOf Tryd.f19))
noncomputable def C2 : Code := seqL (seqR (seqR (bodyOf Tryd.f19)))
noncomputable def C3 : Code := seqL (seqR (seqR (seqR (bodyOf Tryd.f19))))
noncomputable def C4 : Code := seqL (seqR (seqR (seqR (seqR (bodyOf Tryd.f19)))))
noncomputable def C5 : Code := (seqR (seqR (seqR (seqR (seqR (bodyOf Tryd.f19))))))
noncomputable def L0 : Joint := ⟨[], 89, [], 1⟩
noncomputable def L1 : Joint := ⟨[(0, .bool false)], 89, [], 1⟩
noncomputable def L2 : Joint := ⟨[(0, .bool false), (1, .pointer (some ⟨2, 0, none⟩))], 89, [(2, [.int .i64 9, .slice (some ⟨1, 0, none⟩) 7 14], 28), (1, [.int .i64 0, .int .i64 1, .int .i64 1, .int .i64 1, .int .i64 2, .int .i64 2, .int .i64 1, .int .i64 3, .int .i64 3, .int .i64 4, .int .i64 1, .int .i64 5, .int .i64 4, .int .i64 1, .int .i64 6, .int .i64 5, .int .i64 2, .int .i64 7, .int .i64 6, .int .i64 3, .int .i64 8], 72)], 3⟩
noncomputable def L3 : Joint := ⟨[(0, .bool false), (1, .pointer (some ⟨2, 0, none⟩)), (2, .string ⟨⟨[33, 60, 49, 62, 33, 60, 51, 62, 84]⟩⟩), (3, .bool true), (4, .int .i64 0)], 89, [(2, [.int .i64 9, .slice (some ⟨1, 0, none⟩) 7 14], 28), (1, [.int .i64 0, .int .i64 1, .int .i64 1, .int .i64 1, .int .i64 2, .int .i64 2, .int .i64 1, .int .i64 3, .int .i64 3, .int .i64 4, .int .i64 1, .int .i64 5, .int .i64 4, .int .i64 1, .int .i64 6, .int .i64 5, .int .i64 2, .int .i64 7, .int .i64 6, .int .i64 3, .int .i64 8], 72)], 2668⟩
noncomputable def L4 : Joint := ⟨[(0, .bool false), (1, .pointer (some ⟨2, 0, none⟩)), (2, .string ⟨⟨[33, 60, 49, 62, 33, 60, 51, 62, 84]⟩⟩), (3, .bool true), (4, .int .i64 0), (5, .int .i64 2), (6, .int .i64 0)], 89, [(2, [.int .i64 9, .slice (some ⟨1, 0, none⟩) 7 14], 28), (1, [.int .i64 0, .int .i64 1, .int .i64 1, .int .i64 1, .int .i64 2, .int .i64 2, .int .i64 1, .int .i64 3, .int .i64 3, .int .i64 4, .int .i64 1, .int .i64 5, .int .i64 4, .int .i64 1, .int .i64 6, .int .i64 5, .int .i64 2, .int .i64 7, .int .i64 6, .int .i64 3, .int .i64 8], 72)], 2675⟩
noncomputable def L5 : Joint := ⟨[(0, .bool false), (1, .pointer (some ⟨2, 0, none⟩)), (2, .string ⟨⟨[33, 60, 49, 62, 33, 60, 51, 62, 84]⟩⟩), (3, .bool true), (4, .int .i64 0), (5, .int .i64 2), (6, .int .i64 0), (7, .slice (some ⟨3115, 0, none⟩) 9 18), (8, .int .i64 0)], 89, [(2, [.int .i64 9, .slice (some ⟨1, 0, none⟩) 7 14], 28), (1, [.int .i64 0, .int .i64 1, .int .i64 1, .int .i64 1, .int .i64 2, .int .i64 2, .int .i64 1, .int .i64 3, .int .i64 3, .int .i64 4, .int .i64 1, .int .i64 5, .int .i64 4, .int .i64 1, .int .i64 6, .int .i64 5, .int .i64 2, .int .i64 7, .int .i64 6, .int .i64 3, .int .i64 8], 72), (3115, [.int .i64 0, .int .i64 1, .int .i64 2, .int .i64 2, .int .i64 3, .int .i64 4, .int .i64 5, .int .i64 2, .int .i64 2], 3)], 3963⟩
theorem body_eq : Tryd.f19.body = some (.seq C0 (.seq C1 (.seq C2 (.seq C3 (.seq C4 C5))))) := by kernel_rfl
end Go.Proofs.YtfnigiojgbeklaaDoor
