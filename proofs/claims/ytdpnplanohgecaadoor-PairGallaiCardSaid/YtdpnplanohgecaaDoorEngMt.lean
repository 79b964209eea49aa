import Derived.Test.YtdpnplanohgecaaDoorEngRn
set_option linter.unusedSimpArgs false
set_option linter.unusedVariables false
set_option linter.unusedSectionVars false
namespace Go.Eng
def methB (P : Program) (t : TypeId) (name : String) (f : FuncId) : Bool :=
 match P.info? t, P.underlying t with
 | some i, some d => match i.methods.find? (·.name == name) with
  | some m => match m.path.toList, m.func, d with
   | [], some (g, true), .pointer _ => Nat.beq g f
   | [], some (g, false), .struct _ => Nat.beq g f
   | _, _, _ => false
  | none => false
 | _, _ => false
def MethOk (P : Program) (t : TypeId) (l : List (String × FuncId)) : Prop :=
 ∀ x ∈ l, (∀ v w, (method (P.types.size + Made.depth) t v x.1).run P w = .ok (x.2, v) w) /\ ∀ v w, (nilAhead (P.types.size + Made.depth) t v x.1).run P w = .ok (some false) w
def zeroB (i : TypeInfo) : Bool := match i.zero with
 | some z => flat z
 | none => true
theorem zeroB_spec {i : TypeInfo} (h : zeroB i = true) : ∀ z, i.zero = some z -> flat z = true := fun z hz => by
 unfold zeroB at h; rw [hz] at h; exact h
end Go.Eng
