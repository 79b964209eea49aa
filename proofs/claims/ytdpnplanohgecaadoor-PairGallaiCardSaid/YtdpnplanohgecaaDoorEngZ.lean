import Derived.Test.YtdpnplanohgecaaDoorEngY
set_option linter.unusedSimpArgs false
set_option linter.unusedVariables false
set_option linter.unusedSectionVars false
namespace Go.Eng
theorem ev_calls {T : Tabs} {P : Program} (hT : T.Ok P) {n : Nat} {f : FuncId} {args : List Value} {W W' : AW} {v : Value} (h : (ev T n).call f args W = some (v, W')) {η : Env} {w : World} {args' : Array Value}
  (hw : WRel η W w) (hG : GRel T η) (ha : LR η args args'.toList) : Calls P f args' w fun e w' => ∃ η' v', e = .returned v' /\ Fr η W w η' W' w' /\ WRel η' W' w' /\ VR η' v v' := by
 intro cs
 obtain ⟨η', w', fr, v', q1, q2, q3, q4, d1, d2, d3, d4, fn, d5, d6⟩ := (ev_ok hT n).call _ _ _ _ _ h η w args' .normal cs hw hG ha (.inl rfl)
 exact ⟨.returned v', w', fr, ⟨η', v', rfl, q1, q2, q3⟩, q4, d4, d1, d2, d3, fn, d4 ▸ d5, d6⟩
def tableOf : List Table -> Nat -> Option Table
 | [], _ => none
 | t :: l, g => match Nat.beq t.name g with
  | true => some t
  | false => tableOf l g
theorem tableOf_spec : ∀ {l : List Table} {g : Nat} {t : Table}, tableOf l g = some t -> t ∈ l /\ t.name = g
 | x :: l, g, t, h => by
  simp only [tableOf] at h
  split at h
  ·rename_i hb; cases h; exact ⟨List.mem_cons_self .., Nat.eq_of_beq_eq_true hb⟩
  ·obtain ⟨h1, h2⟩ := tableOf_spec h; exact ⟨List.mem_cons_of_mem _ h1, h2⟩
def tabWorld : List Table -> Tr ABlk
 | [] => .nil
 | t :: l => (tabWorld l).set t.name ⟨.ro (Tr.nil.lay 0 t.cells) t.cells.length 0, []⟩
theorem tabWorld_spec : ∀ (l : List Table) (g : Nat) (k : ABlk), (tabWorld l).get g = some k -> ∃ t, tableOf l g = some t /\ k = ⟨.ro (Tr.nil.lay 0 t.cells) t.cells.length 0, []⟩
 | [], g, k, h => by simp [tabWorld, Tr.get_nil] at h
 | t :: l, g, k, h => by
  simp only [tabWorld, Tr.get_set] at h
  split at h
  ·rename_i e; cases h; subst e; exact ⟨t, by simp [tableOf], rfl⟩
  ·rename_i e
   obtain ⟨t', h1, h2⟩ := tabWorld_spec l g k h
   refine ⟨t', ?_, h2⟩
   simp only [tableOf]
   have : Nat.beq t.name g = false := by
    cases hx : Nat.beq t.name g with
    | false => rfl
    | true => exact absurd (Nat.eq_of_beq_eq_true hx).symm e
   rw [this]; exact h1
theorem ev_tables {T : Tabs} {P : Program} (hT : T.Ok P) {ts : List Table} {N : Nat} (hN : allB (fun t => Nat.blt t.name N) ts = true) (hfl : allB (fun t : Table => allB flat t.cells) ts = true) (hg : ∀ g u, T.globs.get g = some u -> ∃ t, tableOf ts g = some t) {n : Nat} {f : FuncId} {args : List Value} {v : Value} {W' : AW}
  (h : (ev T n).call f args ⟨tabWorld ts, N⟩ = some (v, W')) (hargs : allB flat args = true) (hv : flat v = true) {w : World} (hl : TabsRead ts w) :
  Calls P f args.toArray w fun e w' => e = .returned v /\ Onto w w' := by
 let η : Env := fun g => match tableOf ts g with | some t => some (g, 0, 0) | none => none
 have hη : ∀ g e, η g = some e -> ∃ t, tableOf ts g = some t /\ e = (g, 0, 0) := by
  intro g e he
  simp only [η] at he
  split at he
  ·rename_i t ht; cases he; exact ⟨t, ht, rfl⟩
  ·cases he
 have hw : WRel η ⟨tabWorld ts, N⟩ w := by
  refine ⟨fun b k e hb he => ?_, fun b₁ b₂ k₁ k₂ e₁ e₂ h1 h2 h3 h4 h5 h6 => ?_, fun b e he => ?_, fun b e he => ?_⟩
  ·obtain ⟨t, ht, rfl⟩ := hη b e he
   obtain ⟨t', ht', rfl⟩ := tabWorld_spec ts b k hb
   rw [ht] at ht'; cases ht'
   obtain ⟨hm, rfl⟩ := tableOf_spec ht
   obtain ⟨c, el, fz, g1, g2, g3⟩ := hl t hm
   refine ⟨_, g1, rfl, by simpa using g2, fun i u hi hu => ?_⟩
   rw [Tr.get_lay] at hu
   simp only [Nat.zero_le, Nat.zero_add, true_and, Nat.sub_zero] at hu
   rw [if_pos hi] at hu
   have hu' : t.cells[i] = u := by rw [List.getElem?_eq_getElem hi] at hu; exact Option.some.inj hu
   refine ⟨u, by simpa [hu'] using g3 i hi, flat_vr _ _ (allB_mem (allB_mem hfl t hm) u (List.mem_of_getElem? hu))⟩
  ·obtain ⟨t, _, rfl⟩ := hη _ _ h3
   obtain ⟨t', _, rfl⟩ := hη _ _ h4
   exact absurd h5 h6
  ·obtain ⟨t, ht, rfl⟩ := hη b e he
   obtain ⟨hm, rfl⟩ := tableOf_spec ht
   have := allB_mem hN t hm
   rwa [Nat.blt_eq] at this
  ·obtain ⟨t, ht, rfl⟩ := hη b e he
   obtain ⟨hm, rfl⟩ := tableOf_spec ht
   obtain ⟨c, el, fz, g1, _⟩ := hl t hm
   exact (Array.getElem?_eq_some_iff.1 g1).1
 have hG : GRel T η := fun g u hu => by
  obtain ⟨t, ht⟩ := hg g u hu
  exact ⟨0, by simp only [η, ht]⟩
 have ha : LR η args args := ⟨rfl, fun i x x' h1 h2 => by
  rw [h1] at h2; cases h2
  exact flat_vr _ _ (allB_mem hargs x (List.mem_of_getElem? h1))⟩
 intro cs
 obtain ⟨e, w', fr, ⟨η', v', rfl, q1, q2, q3⟩, r1, r2⟩ := ev_calls hT h hw hG (args' := args.toArray) (by simpa using ha) cs
 have hv' := flat_eq hv q3
 subst hv'
 refine ⟨_, w', fr, ⟨rfl, q1.size, fun r hr => q1.keep r hr (fun b e he hz => ?_), q1.froz, q1.tape, q1.os, q1.output⟩, r1, r2⟩
 obtain ⟨t, _, rfl⟩ := hη b e he
 exact absurd rfl hz
structure Memo where
 f : FuncId
 args : List Value
 ans : Value
def memoAt : List Memo -> FuncId -> List Value -> Option Value
 | [], _, _ => none
 | x :: l, f, args => match Nat.beq x.f f, listEq x.args args with
  | true, true => some x.ans
  | _, _ => memoAt l f args
theorem memoAt_spec : ∀ {l : List Memo} {f : FuncId} {args : List Value} {v : Value}, memoAt l f args = some v -> ∃ x ∈ l, x.f = f /\ x.args = args /\ x.ans = v
 | x :: l, f, args, v, h => by
  simp only [memoAt] at h
  split at h
  ·rename_i h1 h2
   cases h
   exact ⟨x, List.mem_cons_self .., Nat.eq_of_beq_eq_true h1, listEq_sound _ _ h2, rfl⟩
  ·obtain ⟨y, h1, h2⟩ := memoAt_spec h
   exact ⟨y, List.mem_cons_of_mem _ h1, h2⟩
def Memo.Holds (P : Program) (ts : List Table) (x : Memo) : Prop := allB flat x.args = true /\ flat x.ans = true /\ ∀ w, TabsRead ts w -> Calls P x.f x.args.toArray w fun e w' => e = .returned x.ans /\ Onto w w'
def Tabs.memo (T : Tabs) (f : FuncId) (l : List Memo) : Tabs := { T with short := T.short.set f (fun args => memoAt l f args) }
theorem Tabs.Ok.memo {T : Tabs} {P : Program} (h : T.Ok P) {f : FuncId} {l : List Memo} (hl : ∀ x ∈ l, x.Holds P T.tabs) : (T.memo f l).Ok P := by
 refine ⟨h.info, h.und, h.func, h.call, h.meth, h.ahead, h.zero, h.mixed, h.plain, fun g s hs args v hv => ?_⟩
 simp only [Tabs.memo, Tr.get_set] at hs
 split at hs
 ·rename_i e
  cases hs
  obtain ⟨x, h1, h2, h3, h4⟩ := memoAt_spec hv
  subst h3; subst h4; subst e; subst h2
  exact hl x h1
 ·exact h.short g s hs args v hv
def globsIn (ts : List Table) : Tr Unit -> Prop := fun T => ∀ g u, T.get g = some u -> ∃ t, tableOf ts g = some t
def memoRun (T : Tabs) (N n : Nat) (x : Memo) : Bool :=
 match allB (fun t => Nat.blt t.name N) T.tabs, allB (fun t : Table => allB flat t.cells) T.tabs, allB flat x.args, flat x.ans, (ev T n).call x.f x.args ⟨tabWorld T.tabs, N⟩ with
 | true, true, true, true, some (v, _) => valEq v x.ans
 | _, _, _, _, _ => false
theorem Memo.holds_of_run {T : Tabs} {P : Program} (hT : T.Ok P) (hg : globsIn T.tabs T.globs) {N n : Nat} {x : Memo} (h : memoRun T N n x = true) : x.Holds P T.tabs := by
 unfold memoRun at h
 split at h
 ·rename_i v W' h4 h5 h1 h2 h3
  rw [valEq_sound _ _ h] at h3
  exact ⟨h1, h2, fun w hw => ev_tables hT h4 h5 hg h3 h1 h2 hw⟩
 ·cases h
end Go.Eng
