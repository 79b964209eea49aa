import Derived.Test.YtdpnplanohgecaaDoorEngSt
set_option linter.unusedSimpArgs false
set_option linter.unusedVariables false
set_option linter.unusedSectionVars false
namespace Go.Eng
/-! ### steps whose outcome is a family: what is found there, and what holds of it -/
section
variable {T : Tabs} {cx : Cx} {A : AAct} {W : AW} {Q : AExit → AAct → AW → Prop}
theorem wpK_x0  {P : AW → Prop} {A' : AW → AAct} {V : AW → AW} {i : Nat} {ops : Array Oper} {b : Code} (h : ∀ R : AAct → AW → Prop, (∀ W', P W' → R (A' W') (V W')) → WpS T ops.toList ops.toList A W R) (h2 : ∀ W', P W' → WpK T cx b (A' W') (V W') Q) : WpK T cx (.seq (.region i ops false) b) A W Q :=
  h (fun A W => WpK T cx b A W Q) h2
theorem wpK_y0  {P : AW → Prop} {A' : AW → AAct} {V : AW → AW} {i : Nat} {ops : Array Oper} (h : ∀ R : AAct → AW → Prop, (∀ W', P W' → R (A' W') (V W')) → WpS T ops.toList ops.toList A W R) (h2 : ∀ W', P W' → Q .normal (A' W') (V W')) : WpK T cx (.region i ops false) A W Q :=
  h (Q .normal) h2
theorem wpK_d0  {P : AW → Prop} {A' : AW → AAct} {V : AW → AW} {id : Nat} {ops : Array Oper} {b : Code} (wr bits : Tr Nat) (ord : List Nat)
    (hwr : dWr ops.toList 0 .nil = some wr) (hbits : dBitsAll ops.toList 0 .nil = some bits)
    (hord : (match anyFloat ops.toList with | true => dOrder (ops.toList.length + 1) (dIdx bits ops.toList 0) 0 [] | false => upFrom 0 ops.toList.length) = ord)
    (h : ∀ G : AAct → AW → Prop, (∀ W', P W' → G (A' W') (V W')) → WpDr T ops.toList wr bits A.tmps ord W ⟨.nil, .nil, [], [], .nil⟩ (dEnd T ops.toList wr bits A G))
    (h2 : ∀ W', P W' → WpK T cx b (A' W') (V W') Q) : WpK T cx (.seq (.region id ops true) b) A W Q :=
  wpK_dr wr bits ord (fun A₁ W₁ => ∃ W', P W' ∧ A₁ = A' W' ∧ W₁ = V W') hwr hbits hord (fun G hG => h G (fun W' hp => hG _ _ ⟨W', hp, rfl, rfl⟩)) (fun A₁ W₁ ⟨W', hp, e1, e2⟩ => by subst e1; subst e2; exact h2 W' hp)
theorem wpK_q0  {P : AW → Prop} {A' : AW → AAct} {V : AW → AW} {id : Nat} {ops : Array Oper} (wr bits : Tr Nat) (ord : List Nat)
    (hwr : dWr ops.toList 0 .nil = some wr) (hbits : dBitsAll ops.toList 0 .nil = some bits)
    (hord : (match anyFloat ops.toList with | true => dOrder (ops.toList.length + 1) (dIdx bits ops.toList 0) 0 [] | false => upFrom 0 ops.toList.length) = ord)
    (h : ∀ G : AAct → AW → Prop, (∀ W', P W' → G (A' W') (V W')) → WpDr T ops.toList wr bits A.tmps ord W ⟨.nil, .nil, [], [], .nil⟩ (dEnd T ops.toList wr bits A G))
    (h2 : ∀ W', P W' → Q .normal (A' W') (V W')) : WpK T cx (.region id ops true) A W Q :=
  wpK_dr1 wr bits ord (fun A₁ W₁ => ∃ W', P W' ∧ A₁ = A' W' ∧ W₁ = V W') hwr hbits hord (fun G hG => h G (fun W' hp => hG _ _ ⟨W', hp, rfl, rfl⟩)) (fun A₁ W₁ ⟨W', hp, e1, e2⟩ => by subst e1; subst e2; exact h2 W' hp)
theorem wpK_x1 {α : Type} {P : α → AW → Prop} {A' : α → AW → AAct} {V : α → AW → AW} {i : Nat} {ops : Array Oper} {b : Code} (h : ∀ R : AAct → AW → Prop, (∀ x1 W', P x1 W' → R (A' x1 W') (V x1 W')) → WpS T ops.toList ops.toList A W R) (h2 : ∀ x1 W', P x1 W' → WpK T cx b (A' x1 W') (V x1 W') Q) : WpK T cx (.seq (.region i ops false) b) A W Q :=
  h (fun A W => WpK T cx b A W Q) h2
theorem wpK_y1 {α : Type} {P : α → AW → Prop} {A' : α → AW → AAct} {V : α → AW → AW} {i : Nat} {ops : Array Oper} (h : ∀ R : AAct → AW → Prop, (∀ x1 W', P x1 W' → R (A' x1 W') (V x1 W')) → WpS T ops.toList ops.toList A W R) (h2 : ∀ x1 W', P x1 W' → Q .normal (A' x1 W') (V x1 W')) : WpK T cx (.region i ops false) A W Q :=
  h (Q .normal) h2
theorem wpK_d1 {α : Type} {P : α → AW → Prop} {A' : α → AW → AAct} {V : α → AW → AW} {id : Nat} {ops : Array Oper} {b : Code} (wr bits : Tr Nat) (ord : List Nat)
    (hwr : dWr ops.toList 0 .nil = some wr) (hbits : dBitsAll ops.toList 0 .nil = some bits)
    (hord : (match anyFloat ops.toList with | true => dOrder (ops.toList.length + 1) (dIdx bits ops.toList 0) 0 [] | false => upFrom 0 ops.toList.length) = ord)
    (h : ∀ G : AAct → AW → Prop, (∀ x1 W', P x1 W' → G (A' x1 W') (V x1 W')) → WpDr T ops.toList wr bits A.tmps ord W ⟨.nil, .nil, [], [], .nil⟩ (dEnd T ops.toList wr bits A G))
    (h2 : ∀ x1 W', P x1 W' → WpK T cx b (A' x1 W') (V x1 W') Q) : WpK T cx (.seq (.region id ops true) b) A W Q :=
  wpK_dr wr bits ord (fun A₁ W₁ => ∃ x1 W', P x1 W' ∧ A₁ = A' x1 W' ∧ W₁ = V x1 W') hwr hbits hord (fun G hG => h G (fun x1 W' hp => hG _ _ ⟨x1, W', hp, rfl, rfl⟩)) (fun A₁ W₁ ⟨x1, W', hp, e1, e2⟩ => by subst e1; subst e2; exact h2 x1 W' hp)
theorem wpK_q1 {α : Type} {P : α → AW → Prop} {A' : α → AW → AAct} {V : α → AW → AW} {id : Nat} {ops : Array Oper} (wr bits : Tr Nat) (ord : List Nat)
    (hwr : dWr ops.toList 0 .nil = some wr) (hbits : dBitsAll ops.toList 0 .nil = some bits)
    (hord : (match anyFloat ops.toList with | true => dOrder (ops.toList.length + 1) (dIdx bits ops.toList 0) 0 [] | false => upFrom 0 ops.toList.length) = ord)
    (h : ∀ G : AAct → AW → Prop, (∀ x1 W', P x1 W' → G (A' x1 W') (V x1 W')) → WpDr T ops.toList wr bits A.tmps ord W ⟨.nil, .nil, [], [], .nil⟩ (dEnd T ops.toList wr bits A G))
    (h2 : ∀ x1 W', P x1 W' → Q .normal (A' x1 W') (V x1 W')) : WpK T cx (.region id ops true) A W Q :=
  wpK_dr1 wr bits ord (fun A₁ W₁ => ∃ x1 W', P x1 W' ∧ A₁ = A' x1 W' ∧ W₁ = V x1 W') hwr hbits hord (fun G hG => h G (fun x1 W' hp => hG _ _ ⟨x1, W', hp, rfl, rfl⟩)) (fun A₁ W₁ ⟨x1, W', hp, e1, e2⟩ => by subst e1; subst e2; exact h2 x1 W' hp)
theorem wpK_x2 {α : Type} {β : Type} {P : α → β → AW → Prop} {A' : α → β → AW → AAct} {V : α → β → AW → AW} {i : Nat} {ops : Array Oper} {b : Code} (h : ∀ R : AAct → AW → Prop, (∀ x1 x2 W', P x1 x2 W' → R (A' x1 x2 W') (V x1 x2 W')) → WpS T ops.toList ops.toList A W R) (h2 : ∀ x1 x2 W', P x1 x2 W' → WpK T cx b (A' x1 x2 W') (V x1 x2 W') Q) : WpK T cx (.seq (.region i ops false) b) A W Q :=
  h (fun A W => WpK T cx b A W Q) h2
theorem wpK_y2 {α : Type} {β : Type} {P : α → β → AW → Prop} {A' : α → β → AW → AAct} {V : α → β → AW → AW} {i : Nat} {ops : Array Oper} (h : ∀ R : AAct → AW → Prop, (∀ x1 x2 W', P x1 x2 W' → R (A' x1 x2 W') (V x1 x2 W')) → WpS T ops.toList ops.toList A W R) (h2 : ∀ x1 x2 W', P x1 x2 W' → Q .normal (A' x1 x2 W') (V x1 x2 W')) : WpK T cx (.region i ops false) A W Q :=
  h (Q .normal) h2
theorem wpK_d2 {α : Type} {β : Type} {P : α → β → AW → Prop} {A' : α → β → AW → AAct} {V : α → β → AW → AW} {id : Nat} {ops : Array Oper} {b : Code} (wr bits : Tr Nat) (ord : List Nat)
    (hwr : dWr ops.toList 0 .nil = some wr) (hbits : dBitsAll ops.toList 0 .nil = some bits)
    (hord : (match anyFloat ops.toList with | true => dOrder (ops.toList.length + 1) (dIdx bits ops.toList 0) 0 [] | false => upFrom 0 ops.toList.length) = ord)
    (h : ∀ G : AAct → AW → Prop, (∀ x1 x2 W', P x1 x2 W' → G (A' x1 x2 W') (V x1 x2 W')) → WpDr T ops.toList wr bits A.tmps ord W ⟨.nil, .nil, [], [], .nil⟩ (dEnd T ops.toList wr bits A G))
    (h2 : ∀ x1 x2 W', P x1 x2 W' → WpK T cx b (A' x1 x2 W') (V x1 x2 W') Q) : WpK T cx (.seq (.region id ops true) b) A W Q :=
  wpK_dr wr bits ord (fun A₁ W₁ => ∃ x1 x2 W', P x1 x2 W' ∧ A₁ = A' x1 x2 W' ∧ W₁ = V x1 x2 W') hwr hbits hord (fun G hG => h G (fun x1 x2 W' hp => hG _ _ ⟨x1, x2, W', hp, rfl, rfl⟩)) (fun A₁ W₁ ⟨x1, x2, W', hp, e1, e2⟩ => by subst e1; subst e2; exact h2 x1 x2 W' hp)
theorem wpK_q2 {α : Type} {β : Type} {P : α → β → AW → Prop} {A' : α → β → AW → AAct} {V : α → β → AW → AW} {id : Nat} {ops : Array Oper} (wr bits : Tr Nat) (ord : List Nat)
    (hwr : dWr ops.toList 0 .nil = some wr) (hbits : dBitsAll ops.toList 0 .nil = some bits)
    (hord : (match anyFloat ops.toList with | true => dOrder (ops.toList.length + 1) (dIdx bits ops.toList 0) 0 [] | false => upFrom 0 ops.toList.length) = ord)
    (h : ∀ G : AAct → AW → Prop, (∀ x1 x2 W', P x1 x2 W' → G (A' x1 x2 W') (V x1 x2 W')) → WpDr T ops.toList wr bits A.tmps ord W ⟨.nil, .nil, [], [], .nil⟩ (dEnd T ops.toList wr bits A G))
    (h2 : ∀ x1 x2 W', P x1 x2 W' → Q .normal (A' x1 x2 W') (V x1 x2 W')) : WpK T cx (.region id ops true) A W Q :=
  wpK_dr1 wr bits ord (fun A₁ W₁ => ∃ x1 x2 W', P x1 x2 W' ∧ A₁ = A' x1 x2 W' ∧ W₁ = V x1 x2 W') hwr hbits hord (fun G hG => h G (fun x1 x2 W' hp => hG _ _ ⟨x1, x2, W', hp, rfl, rfl⟩)) (fun A₁ W₁ ⟨x1, x2, W', hp, e1, e2⟩ => by subst e1; subst e2; exact h2 x1 x2 W' hp)
theorem wpK_x3 {α : Type} {β : Type} {γ : Type} {P : α → β → γ → AW → Prop} {A' : α → β → γ → AW → AAct} {V : α → β → γ → AW → AW} {i : Nat} {ops : Array Oper} {b : Code} (h : ∀ R : AAct → AW → Prop, (∀ x1 x2 x3 W', P x1 x2 x3 W' → R (A' x1 x2 x3 W') (V x1 x2 x3 W')) → WpS T ops.toList ops.toList A W R) (h2 : ∀ x1 x2 x3 W', P x1 x2 x3 W' → WpK T cx b (A' x1 x2 x3 W') (V x1 x2 x3 W') Q) : WpK T cx (.seq (.region i ops false) b) A W Q :=
  h (fun A W => WpK T cx b A W Q) h2
theorem wpK_y3 {α : Type} {β : Type} {γ : Type} {P : α → β → γ → AW → Prop} {A' : α → β → γ → AW → AAct} {V : α → β → γ → AW → AW} {i : Nat} {ops : Array Oper} (h : ∀ R : AAct → AW → Prop, (∀ x1 x2 x3 W', P x1 x2 x3 W' → R (A' x1 x2 x3 W') (V x1 x2 x3 W')) → WpS T ops.toList ops.toList A W R) (h2 : ∀ x1 x2 x3 W', P x1 x2 x3 W' → Q .normal (A' x1 x2 x3 W') (V x1 x2 x3 W')) : WpK T cx (.region i ops false) A W Q :=
  h (Q .normal) h2
theorem wpK_d3 {α : Type} {β : Type} {γ : Type} {P : α → β → γ → AW → Prop} {A' : α → β → γ → AW → AAct} {V : α → β → γ → AW → AW} {id : Nat} {ops : Array Oper} {b : Code} (wr bits : Tr Nat) (ord : List Nat)
    (hwr : dWr ops.toList 0 .nil = some wr) (hbits : dBitsAll ops.toList 0 .nil = some bits)
    (hord : (match anyFloat ops.toList with | true => dOrder (ops.toList.length + 1) (dIdx bits ops.toList 0) 0 [] | false => upFrom 0 ops.toList.length) = ord)
    (h : ∀ G : AAct → AW → Prop, (∀ x1 x2 x3 W', P x1 x2 x3 W' → G (A' x1 x2 x3 W') (V x1 x2 x3 W')) → WpDr T ops.toList wr bits A.tmps ord W ⟨.nil, .nil, [], [], .nil⟩ (dEnd T ops.toList wr bits A G))
    (h2 : ∀ x1 x2 x3 W', P x1 x2 x3 W' → WpK T cx b (A' x1 x2 x3 W') (V x1 x2 x3 W') Q) : WpK T cx (.seq (.region id ops true) b) A W Q :=
  wpK_dr wr bits ord (fun A₁ W₁ => ∃ x1 x2 x3 W', P x1 x2 x3 W' ∧ A₁ = A' x1 x2 x3 W' ∧ W₁ = V x1 x2 x3 W') hwr hbits hord (fun G hG => h G (fun x1 x2 x3 W' hp => hG _ _ ⟨x1, x2, x3, W', hp, rfl, rfl⟩)) (fun A₁ W₁ ⟨x1, x2, x3, W', hp, e1, e2⟩ => by subst e1; subst e2; exact h2 x1 x2 x3 W' hp)
theorem wpK_q3 {α : Type} {β : Type} {γ : Type} {P : α → β → γ → AW → Prop} {A' : α → β → γ → AW → AAct} {V : α → β → γ → AW → AW} {id : Nat} {ops : Array Oper} (wr bits : Tr Nat) (ord : List Nat)
    (hwr : dWr ops.toList 0 .nil = some wr) (hbits : dBitsAll ops.toList 0 .nil = some bits)
    (hord : (match anyFloat ops.toList with | true => dOrder (ops.toList.length + 1) (dIdx bits ops.toList 0) 0 [] | false => upFrom 0 ops.toList.length) = ord)
    (h : ∀ G : AAct → AW → Prop, (∀ x1 x2 x3 W', P x1 x2 x3 W' → G (A' x1 x2 x3 W') (V x1 x2 x3 W')) → WpDr T ops.toList wr bits A.tmps ord W ⟨.nil, .nil, [], [], .nil⟩ (dEnd T ops.toList wr bits A G))
    (h2 : ∀ x1 x2 x3 W', P x1 x2 x3 W' → Q .normal (A' x1 x2 x3 W') (V x1 x2 x3 W')) : WpK T cx (.region id ops true) A W Q :=
  wpK_dr1 wr bits ord (fun A₁ W₁ => ∃ x1 x2 x3 W', P x1 x2 x3 W' ∧ A₁ = A' x1 x2 x3 W' ∧ W₁ = V x1 x2 x3 W') hwr hbits hord (fun G hG => h G (fun x1 x2 x3 W' hp => hG _ _ ⟨x1, x2, x3, W', hp, rfl, rfl⟩)) (fun A₁ W₁ ⟨x1, x2, x3, W', hp, e1, e2⟩ => by subst e1; subst e2; exact h2 x1 x2 x3 W' hp)
theorem wpK_x4 {α : Type} {β : Type} {γ : Type} {δ : Type} {P : α → β → γ → δ → AW → Prop} {A' : α → β → γ → δ → AW → AAct} {V : α → β → γ → δ → AW → AW} {i : Nat} {ops : Array Oper} {b : Code} (h : ∀ R : AAct → AW → Prop, (∀ x1 x2 x3 x4 W', P x1 x2 x3 x4 W' → R (A' x1 x2 x3 x4 W') (V x1 x2 x3 x4 W')) → WpS T ops.toList ops.toList A W R) (h2 : ∀ x1 x2 x3 x4 W', P x1 x2 x3 x4 W' → WpK T cx b (A' x1 x2 x3 x4 W') (V x1 x2 x3 x4 W') Q) : WpK T cx (.seq (.region i ops false) b) A W Q :=
  h (fun A W => WpK T cx b A W Q) h2
theorem wpK_y4 {α : Type} {β : Type} {γ : Type} {δ : Type} {P : α → β → γ → δ → AW → Prop} {A' : α → β → γ → δ → AW → AAct} {V : α → β → γ → δ → AW → AW} {i : Nat} {ops : Array Oper} (h : ∀ R : AAct → AW → Prop, (∀ x1 x2 x3 x4 W', P x1 x2 x3 x4 W' → R (A' x1 x2 x3 x4 W') (V x1 x2 x3 x4 W')) → WpS T ops.toList ops.toList A W R) (h2 : ∀ x1 x2 x3 x4 W', P x1 x2 x3 x4 W' → Q .normal (A' x1 x2 x3 x4 W') (V x1 x2 x3 x4 W')) : WpK T cx (.region i ops false) A W Q :=
  h (Q .normal) h2
theorem wpK_d4 {α : Type} {β : Type} {γ : Type} {δ : Type} {P : α → β → γ → δ → AW → Prop} {A' : α → β → γ → δ → AW → AAct} {V : α → β → γ → δ → AW → AW} {id : Nat} {ops : Array Oper} {b : Code} (wr bits : Tr Nat) (ord : List Nat)
    (hwr : dWr ops.toList 0 .nil = some wr) (hbits : dBitsAll ops.toList 0 .nil = some bits)
    (hord : (match anyFloat ops.toList with | true => dOrder (ops.toList.length + 1) (dIdx bits ops.toList 0) 0 [] | false => upFrom 0 ops.toList.length) = ord)
    (h : ∀ G : AAct → AW → Prop, (∀ x1 x2 x3 x4 W', P x1 x2 x3 x4 W' → G (A' x1 x2 x3 x4 W') (V x1 x2 x3 x4 W')) → WpDr T ops.toList wr bits A.tmps ord W ⟨.nil, .nil, [], [], .nil⟩ (dEnd T ops.toList wr bits A G))
    (h2 : ∀ x1 x2 x3 x4 W', P x1 x2 x3 x4 W' → WpK T cx b (A' x1 x2 x3 x4 W') (V x1 x2 x3 x4 W') Q) : WpK T cx (.seq (.region id ops true) b) A W Q :=
  wpK_dr wr bits ord (fun A₁ W₁ => ∃ x1 x2 x3 x4 W', P x1 x2 x3 x4 W' ∧ A₁ = A' x1 x2 x3 x4 W' ∧ W₁ = V x1 x2 x3 x4 W') hwr hbits hord (fun G hG => h G (fun x1 x2 x3 x4 W' hp => hG _ _ ⟨x1, x2, x3, x4, W', hp, rfl, rfl⟩)) (fun A₁ W₁ ⟨x1, x2, x3, x4, W', hp, e1, e2⟩ => by subst e1; subst e2; exact h2 x1 x2 x3 x4 W' hp)
theorem wpK_q4 {α : Type} {β : Type} {γ : Type} {δ : Type} {P : α → β → γ → δ → AW → Prop} {A' : α → β → γ → δ → AW → AAct} {V : α → β → γ → δ → AW → AW} {id : Nat} {ops : Array Oper} (wr bits : Tr Nat) (ord : List Nat)
    (hwr : dWr ops.toList 0 .nil = some wr) (hbits : dBitsAll ops.toList 0 .nil = some bits)
    (hord : (match anyFloat ops.toList with | true => dOrder (ops.toList.length + 1) (dIdx bits ops.toList 0) 0 [] | false => upFrom 0 ops.toList.length) = ord)
    (h : ∀ G : AAct → AW → Prop, (∀ x1 x2 x3 x4 W', P x1 x2 x3 x4 W' → G (A' x1 x2 x3 x4 W') (V x1 x2 x3 x4 W')) → WpDr T ops.toList wr bits A.tmps ord W ⟨.nil, .nil, [], [], .nil⟩ (dEnd T ops.toList wr bits A G))
    (h2 : ∀ x1 x2 x3 x4 W', P x1 x2 x3 x4 W' → Q .normal (A' x1 x2 x3 x4 W') (V x1 x2 x3 x4 W')) : WpK T cx (.region id ops true) A W Q :=
  wpK_dr1 wr bits ord (fun A₁ W₁ => ∃ x1 x2 x3 x4 W', P x1 x2 x3 x4 W' ∧ A₁ = A' x1 x2 x3 x4 W' ∧ W₁ = V x1 x2 x3 x4 W') hwr hbits hord (fun G hG => h G (fun x1 x2 x3 x4 W' hp => hG _ _ ⟨x1, x2, x3, x4, W', hp, rfl, rfl⟩)) (fun A₁ W₁ ⟨x1, x2, x3, x4, W', hp, e1, e2⟩ => by subst e1; subst e2; exact h2 x1 x2 x3 x4 W' hp)
theorem wpK_x5 {α : Type} {β : Type} {γ : Type} {δ : Type} {ε : Type} {P : α → β → γ → δ → ε → AW → Prop} {A' : α → β → γ → δ → ε → AW → AAct} {V : α → β → γ → δ → ε → AW → AW} {i : Nat} {ops : Array Oper} {b : Code} (h : ∀ R : AAct → AW → Prop, (∀ x1 x2 x3 x4 x5 W', P x1 x2 x3 x4 x5 W' → R (A' x1 x2 x3 x4 x5 W') (V x1 x2 x3 x4 x5 W')) → WpS T ops.toList ops.toList A W R) (h2 : ∀ x1 x2 x3 x4 x5 W', P x1 x2 x3 x4 x5 W' → WpK T cx b (A' x1 x2 x3 x4 x5 W') (V x1 x2 x3 x4 x5 W') Q) : WpK T cx (.seq (.region i ops false) b) A W Q :=
  h (fun A W => WpK T cx b A W Q) h2
theorem wpK_y5 {α : Type} {β : Type} {γ : Type} {δ : Type} {ε : Type} {P : α → β → γ → δ → ε → AW → Prop} {A' : α → β → γ → δ → ε → AW → AAct} {V : α → β → γ → δ → ε → AW → AW} {i : Nat} {ops : Array Oper} (h : ∀ R : AAct → AW → Prop, (∀ x1 x2 x3 x4 x5 W', P x1 x2 x3 x4 x5 W' → R (A' x1 x2 x3 x4 x5 W') (V x1 x2 x3 x4 x5 W')) → WpS T ops.toList ops.toList A W R) (h2 : ∀ x1 x2 x3 x4 x5 W', P x1 x2 x3 x4 x5 W' → Q .normal (A' x1 x2 x3 x4 x5 W') (V x1 x2 x3 x4 x5 W')) : WpK T cx (.region i ops false) A W Q :=
  h (Q .normal) h2
theorem wpK_d5 {α : Type} {β : Type} {γ : Type} {δ : Type} {ε : Type} {P : α → β → γ → δ → ε → AW → Prop} {A' : α → β → γ → δ → ε → AW → AAct} {V : α → β → γ → δ → ε → AW → AW} {id : Nat} {ops : Array Oper} {b : Code} (wr bits : Tr Nat) (ord : List Nat)
    (hwr : dWr ops.toList 0 .nil = some wr) (hbits : dBitsAll ops.toList 0 .nil = some bits)
    (hord : (match anyFloat ops.toList with | true => dOrder (ops.toList.length + 1) (dIdx bits ops.toList 0) 0 [] | false => upFrom 0 ops.toList.length) = ord)
    (h : ∀ G : AAct → AW → Prop, (∀ x1 x2 x3 x4 x5 W', P x1 x2 x3 x4 x5 W' → G (A' x1 x2 x3 x4 x5 W') (V x1 x2 x3 x4 x5 W')) → WpDr T ops.toList wr bits A.tmps ord W ⟨.nil, .nil, [], [], .nil⟩ (dEnd T ops.toList wr bits A G))
    (h2 : ∀ x1 x2 x3 x4 x5 W', P x1 x2 x3 x4 x5 W' → WpK T cx b (A' x1 x2 x3 x4 x5 W') (V x1 x2 x3 x4 x5 W') Q) : WpK T cx (.seq (.region id ops true) b) A W Q :=
  wpK_dr wr bits ord (fun A₁ W₁ => ∃ x1 x2 x3 x4 x5 W', P x1 x2 x3 x4 x5 W' ∧ A₁ = A' x1 x2 x3 x4 x5 W' ∧ W₁ = V x1 x2 x3 x4 x5 W') hwr hbits hord (fun G hG => h G (fun x1 x2 x3 x4 x5 W' hp => hG _ _ ⟨x1, x2, x3, x4, x5, W', hp, rfl, rfl⟩)) (fun A₁ W₁ ⟨x1, x2, x3, x4, x5, W', hp, e1, e2⟩ => by subst e1; subst e2; exact h2 x1 x2 x3 x4 x5 W' hp)
theorem wpK_q5 {α : Type} {β : Type} {γ : Type} {δ : Type} {ε : Type} {P : α → β → γ → δ → ε → AW → Prop} {A' : α → β → γ → δ → ε → AW → AAct} {V : α → β → γ → δ → ε → AW → AW} {id : Nat} {ops : Array Oper} (wr bits : Tr Nat) (ord : List Nat)
    (hwr : dWr ops.toList 0 .nil = some wr) (hbits : dBitsAll ops.toList 0 .nil = some bits)
    (hord : (match anyFloat ops.toList with | true => dOrder (ops.toList.length + 1) (dIdx bits ops.toList 0) 0 [] | false => upFrom 0 ops.toList.length) = ord)
    (h : ∀ G : AAct → AW → Prop, (∀ x1 x2 x3 x4 x5 W', P x1 x2 x3 x4 x5 W' → G (A' x1 x2 x3 x4 x5 W') (V x1 x2 x3 x4 x5 W')) → WpDr T ops.toList wr bits A.tmps ord W ⟨.nil, .nil, [], [], .nil⟩ (dEnd T ops.toList wr bits A G))
    (h2 : ∀ x1 x2 x3 x4 x5 W', P x1 x2 x3 x4 x5 W' → Q .normal (A' x1 x2 x3 x4 x5 W') (V x1 x2 x3 x4 x5 W')) : WpK T cx (.region id ops true) A W Q :=
  wpK_dr1 wr bits ord (fun A₁ W₁ => ∃ x1 x2 x3 x4 x5 W', P x1 x2 x3 x4 x5 W' ∧ A₁ = A' x1 x2 x3 x4 x5 W' ∧ W₁ = V x1 x2 x3 x4 x5 W') hwr hbits hord (fun G hG => h G (fun x1 x2 x3 x4 x5 W' hp => hG _ _ ⟨x1, x2, x3, x4, x5, W', hp, rfl, rfl⟩)) (fun A₁ W₁ ⟨x1, x2, x3, x4, x5, W', hp, e1, e2⟩ => by subst e1; subst e2; exact h2 x1 x2 x3 x4 x5 W' hp)
theorem wpK_x6 {α : Type} {β : Type} {γ : Type} {δ : Type} {ε : Type} {ζ : Type} {P : α → β → γ → δ → ε → ζ → AW → Prop} {A' : α → β → γ → δ → ε → ζ → AW → AAct} {V : α → β → γ → δ → ε → ζ → AW → AW} {i : Nat} {ops : Array Oper} {b : Code} (h : ∀ R : AAct → AW → Prop, (∀ x1 x2 x3 x4 x5 x6 W', P x1 x2 x3 x4 x5 x6 W' → R (A' x1 x2 x3 x4 x5 x6 W') (V x1 x2 x3 x4 x5 x6 W')) → WpS T ops.toList ops.toList A W R) (h2 : ∀ x1 x2 x3 x4 x5 x6 W', P x1 x2 x3 x4 x5 x6 W' → WpK T cx b (A' x1 x2 x3 x4 x5 x6 W') (V x1 x2 x3 x4 x5 x6 W') Q) : WpK T cx (.seq (.region i ops false) b) A W Q :=
  h (fun A W => WpK T cx b A W Q) h2
theorem wpK_y6 {α : Type} {β : Type} {γ : Type} {δ : Type} {ε : Type} {ζ : Type} {P : α → β → γ → δ → ε → ζ → AW → Prop} {A' : α → β → γ → δ → ε → ζ → AW → AAct} {V : α → β → γ → δ → ε → ζ → AW → AW} {i : Nat} {ops : Array Oper} (h : ∀ R : AAct → AW → Prop, (∀ x1 x2 x3 x4 x5 x6 W', P x1 x2 x3 x4 x5 x6 W' → R (A' x1 x2 x3 x4 x5 x6 W') (V x1 x2 x3 x4 x5 x6 W')) → WpS T ops.toList ops.toList A W R) (h2 : ∀ x1 x2 x3 x4 x5 x6 W', P x1 x2 x3 x4 x5 x6 W' → Q .normal (A' x1 x2 x3 x4 x5 x6 W') (V x1 x2 x3 x4 x5 x6 W')) : WpK T cx (.region i ops false) A W Q :=
  h (Q .normal) h2
theorem wpK_d6 {α : Type} {β : Type} {γ : Type} {δ : Type} {ε : Type} {ζ : Type} {P : α → β → γ → δ → ε → ζ → AW → Prop} {A' : α → β → γ → δ → ε → ζ → AW → AAct} {V : α → β → γ → δ → ε → ζ → AW → AW} {id : Nat} {ops : Array Oper} {b : Code} (wr bits : Tr Nat) (ord : List Nat)
    (hwr : dWr ops.toList 0 .nil = some wr) (hbits : dBitsAll ops.toList 0 .nil = some bits)
    (hord : (match anyFloat ops.toList with | true => dOrder (ops.toList.length + 1) (dIdx bits ops.toList 0) 0 [] | false => upFrom 0 ops.toList.length) = ord)
    (h : ∀ G : AAct → AW → Prop, (∀ x1 x2 x3 x4 x5 x6 W', P x1 x2 x3 x4 x5 x6 W' → G (A' x1 x2 x3 x4 x5 x6 W') (V x1 x2 x3 x4 x5 x6 W')) → WpDr T ops.toList wr bits A.tmps ord W ⟨.nil, .nil, [], [], .nil⟩ (dEnd T ops.toList wr bits A G))
    (h2 : ∀ x1 x2 x3 x4 x5 x6 W', P x1 x2 x3 x4 x5 x6 W' → WpK T cx b (A' x1 x2 x3 x4 x5 x6 W') (V x1 x2 x3 x4 x5 x6 W') Q) : WpK T cx (.seq (.region id ops true) b) A W Q :=
  wpK_dr wr bits ord (fun A₁ W₁ => ∃ x1 x2 x3 x4 x5 x6 W', P x1 x2 x3 x4 x5 x6 W' ∧ A₁ = A' x1 x2 x3 x4 x5 x6 W' ∧ W₁ = V x1 x2 x3 x4 x5 x6 W') hwr hbits hord (fun G hG => h G (fun x1 x2 x3 x4 x5 x6 W' hp => hG _ _ ⟨x1, x2, x3, x4, x5, x6, W', hp, rfl, rfl⟩)) (fun A₁ W₁ ⟨x1, x2, x3, x4, x5, x6, W', hp, e1, e2⟩ => by subst e1; subst e2; exact h2 x1 x2 x3 x4 x5 x6 W' hp)
theorem wpK_q6 {α : Type} {β : Type} {γ : Type} {δ : Type} {ε : Type} {ζ : Type} {P : α → β → γ → δ → ε → ζ → AW → Prop} {A' : α → β → γ → δ → ε → ζ → AW → AAct} {V : α → β → γ → δ → ε → ζ → AW → AW} {id : Nat} {ops : Array Oper} (wr bits : Tr Nat) (ord : List Nat)
    (hwr : dWr ops.toList 0 .nil = some wr) (hbits : dBitsAll ops.toList 0 .nil = some bits)
    (hord : (match anyFloat ops.toList with | true => dOrder (ops.toList.length + 1) (dIdx bits ops.toList 0) 0 [] | false => upFrom 0 ops.toList.length) = ord)
    (h : ∀ G : AAct → AW → Prop, (∀ x1 x2 x3 x4 x5 x6 W', P x1 x2 x3 x4 x5 x6 W' → G (A' x1 x2 x3 x4 x5 x6 W') (V x1 x2 x3 x4 x5 x6 W')) → WpDr T ops.toList wr bits A.tmps ord W ⟨.nil, .nil, [], [], .nil⟩ (dEnd T ops.toList wr bits A G))
    (h2 : ∀ x1 x2 x3 x4 x5 x6 W', P x1 x2 x3 x4 x5 x6 W' → Q .normal (A' x1 x2 x3 x4 x5 x6 W') (V x1 x2 x3 x4 x5 x6 W')) : WpK T cx (.region id ops true) A W Q :=
  wpK_dr1 wr bits ord (fun A₁ W₁ => ∃ x1 x2 x3 x4 x5 x6 W', P x1 x2 x3 x4 x5 x6 W' ∧ A₁ = A' x1 x2 x3 x4 x5 x6 W' ∧ W₁ = V x1 x2 x3 x4 x5 x6 W') hwr hbits hord (fun G hG => h G (fun x1 x2 x3 x4 x5 x6 W' hp => hG _ _ ⟨x1, x2, x3, x4, x5, x6, W', hp, rfl, rfl⟩)) (fun A₁ W₁ ⟨x1, x2, x3, x4, x5, x6, W', hp, e1, e2⟩ => by subst e1; subst e2; exact h2 x1 x2 x3 x4 x5 x6 W' hp)
theorem wpK_dn {A' : AAct} {V : AW} {id : Nat} {ops : Array Oper} {b : Code} (wr bits : Tr Nat) (ord : List Nat)
    (hwr : dWr ops.toList 0 .nil = some wr) (hbits : dBitsAll ops.toList 0 .nil = some bits)
    (hord : (match anyFloat ops.toList with | true => dOrder (ops.toList.length + 1) (dIdx bits ops.toList 0) 0 [] | false => upFrom 0 ops.toList.length) = ord)
    (h : ∀ G : AAct → AW → Prop, G A' V → WpDr T ops.toList wr bits A.tmps ord W ⟨.nil, .nil, [], [], .nil⟩ (dEnd T ops.toList wr bits A G))
    (h2 : WpK T cx b A' V Q) : WpK T cx (.seq (.region id ops true) b) A W Q :=
  wpK_dr wr bits ord (fun A₁ W₁ => A₁ = A' ∧ W₁ = V) hwr hbits hord (fun G hG => h G (hG _ _ ⟨rfl, rfl⟩)) (fun A₁ W₁ ⟨e1, e2⟩ => by subst e1; subst e2; exact h2)
theorem wpK_qn {A' : AAct} {V : AW} {id : Nat} {ops : Array Oper} (wr bits : Tr Nat) (ord : List Nat)
    (hwr : dWr ops.toList 0 .nil = some wr) (hbits : dBitsAll ops.toList 0 .nil = some bits)
    (hord : (match anyFloat ops.toList with | true => dOrder (ops.toList.length + 1) (dIdx bits ops.toList 0) 0 [] | false => upFrom 0 ops.toList.length) = ord)
    (h : ∀ G : AAct → AW → Prop, G A' V → WpDr T ops.toList wr bits A.tmps ord W ⟨.nil, .nil, [], [], .nil⟩ (dEnd T ops.toList wr bits A G))
    (h2 : Q .normal A' V) : WpK T cx (.region id ops true) A W Q :=
  wpK_dr1 wr bits ord (fun A₁ W₁ => A₁ = A' ∧ W₁ = V) hwr hbits hord (fun G hG => h G (hG _ _ ⟨rfl, rfl⟩)) (fun A₁ W₁ ⟨e1, e2⟩ => by subst e1; subst e2; exact h2)
/-- what is kept of the temporaries -/
theorem wpK_keep {c : Code} {tm : Tr Value} {n : Nat} {ds : List Deferred} (J : Tr Value → Prop) (hJ : J tm) (h : ∀ tm', J tm' → WpK T cx c ⟨tm', n, ds⟩ W Q) : WpK T cx c ⟨tm, n, ds⟩ W Q := h tm hJ
end
theorem min_int (k : IntKind) (a b : Int) : aMinMax false (.int k a) [.int k b] = some (.int k (min a b)) := by
  simp only [aMinMax]
  by_cases h : b < a
  · simp only [h, decide_true]; rw [Int.min_eq_right (by omega)]
  · simp only [h, decide_false]; rw [Int.min_eq_left (by omega)]
end Go.Eng
