import Derived.Test.YtkgfjfkgmpeobaaDoorEngRn
set_option linter.unusedSimpArgs false
set_option linter.unusedVariables false
set_option linter.unusedSectionVars false
namespace Go.Eng
def methB (P : Program) (t : TypeId) (name : String) (f : FuncId) : Bool :=
  match P.info? t, P.underlying t with
  | some i, some d => match i.methods.find? (·.name == name) with
    | some m => match m.path.toList, m.func, d with
      | [], some (g, true), .pointer _ => Nat.beq g f
      | [], some (g, false), .struct _ => Nat.beq g f
      | _, _, _ => false
    | none => false
  | _, _ => false
def MethOk (P : Program) (t : TypeId) (l : List (String × FuncId)) : Prop :=
  ∀ x ∈ l, (∀ v w, (method (P.types.size + Made.depth) t v x.1).run P w = .ok (x.2, v) w) ∧ ∀ v w, (nilAhead (P.types.size + Made.depth) t v x.1).run P w = .ok (some false) w
theorem methB_spec {P : Program} {t : TypeId} {name : String} {f : FuncId} (h : methB P t name f = true) (v : Value) (w : World) :
    (method (P.types.size + Made.depth) t v name).run P w = .ok (f, v) w ∧ (nilAhead (P.types.size + Made.depth) t v name).run P w = .ok (some false) w := by
  have h0 : 0 < Made.depth := by decide
  obtain ⟨n, hn⟩ : ∃ n, P.types.size + Made.depth = n + 1 := ⟨P.types.size + Made.depth - 1, by omega⟩
  rw [hn]
  unfold methB at h
  split at h
  case h_2 => cases h
  rename_i i d hi hd
  split at h
  case h_2 => cases h
  rename_i m hm
  split at h
  · rename_i g e hp hf
    obtain rfl := Nat.eq_of_beq_eq_true h
    constructor
    · simp [method, run_typeInfo hi, hm, hp, hf, follow, receiverAt, run_under hd, Place.get]
    · simp [nilAhead, run_typeInfo hi, hm, hp, hf, followBlind]
  · rename_i g e hp hf
    obtain rfl := Nat.eq_of_beq_eq_true h
    constructor
    · simp [method, run_typeInfo hi, hm, hp, hf, follow, receiverAt, run_under hd, Place.get]
    · simp [nilAhead, run_typeInfo hi, hm, hp, hf, followBlind, run_under hd]
  · cases h
theorem methOk_of {P : Program} {t : TypeId} {l : List (String × FuncId)} (h : allB (fun x => methB P t x.1 x.2) l = true) : MethOk P t l := fun x hx =>
  ⟨fun v w => (methB_spec (allB_mem h x hx) v w).1, fun v w => (methB_spec (allB_mem h x hx) v w).2⟩
def zeroB (i : TypeInfo) : Bool := match i.zero with
  | some z => flat z
  | none => true
theorem zeroB_spec {i : TypeInfo} (h : zeroB i = true) : ∀ z, i.zero = some z → flat z = true := fun z hz => by
  unfold zeroB at h; rw [hz] at h; exact h
end Go.Eng
