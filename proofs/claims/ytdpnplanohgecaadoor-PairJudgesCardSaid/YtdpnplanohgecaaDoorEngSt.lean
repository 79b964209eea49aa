import Derived.Test.YtdpnplanohgecaaDoorEngWx
set_option linter.unusedSimpArgs false
set_option linter.unusedVariables false
set_option linter.unusedSectionVars false
namespace Go.Eng
section
variable {T : Tabs} {all rest : List Oper} {o : Oper} {A A' : AAct} {W : AW} {R : AAct → AW → Prop} {v : Value}
/-- one operation that only makes a value, by hand -/
theorem wpS_step (hd : isDefer o.op = false) (hg : o.guard = none) (hop : aOp T W (aEvalF T A.tmps.get) o = some (.value v, W)) (hput : A.put o.dst v = some A') (h : WpS T all rest A' W R) : WpS T all (o :: rest) A W R := by
  rw [WpS_cons, hd]
  show wantS T (WpS T all rest) o A W R (aWanted all o A.tmps.get)
  have : aWanted all o A.tmps.get = some true := by simp only [aWanted, hg]
  rw [this, wantS_true, hop, nextS_value, hput, gotS_some]
  exact h
theorem aOp_bin {ρ : Operand → Option Value} {op : BinOp} {t u : TypeId} {x y : Operand} {a b : Value} (ho : o.op = .binOp op t x y u) (hx : ρ x = some a) (hy : ρ y = some b) (hv : aBin T op t x y a b = some v) : aOp T W ρ o = some (.value v, W) := by
  unfold aOp
  rw [ho]
  simp only [opBinOp, hx, hy]
  split
  · rename_i h1 h2
    cases h1; cases h2
    cases op <;> simp [aBin, aGuard, aBinO] at hv
  · rename_i h1 h2
    cases h1; cases h2
    rw [hv]; rfl
  · rename_i h1
    exact (h1 _ _ rfl rfl).elim
theorem aOp_ix {ρ : Operand → Option Value} {t : TypeId} {x y : Operand} {a b : Value} (ho : o.op = .indexAddr t x y) (hx : ρ x = some a) (hy : ρ y = some b) (hv : aIndexAddr T t a b = some v) : aOp T W ρ o = some (.value v, W) := by
  unfold aOp
  rw [ho]
  simp only [opIndexAddr, hx, hy, hv, aVal]
theorem aEvalF_glob {f : Tmp → Option Value} {g : Nat} {u : Unit} (h : T.globs.get g = some u) : aEvalF T f (.global g) = some (.pointer (some ⟨g, 0, none⟩)) := by
  simp only [aEvalF, h]
end
end Go.Eng
