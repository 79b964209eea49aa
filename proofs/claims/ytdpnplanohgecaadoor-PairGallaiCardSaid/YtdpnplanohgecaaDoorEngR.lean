import Derived.Test.YtdpnplanohgecaaDoorEngQ
set_option linter.unusedSimpArgs false
set_option linter.unusedVariables false
set_option linter.unusedSectionVars false
namespace Go.Eng
section
variable {T : Tabs} {P : Program} (hT : T.Ok P) {ih : Ih} (hih : IhOk T P ih)
theorem run_enterLoop_none {w : World} (fn : FuncId) (tmps : Array Value) (ps : Array Tmp) (as bd : Code) :
  (Instr.enterLoop fn tmps ps as bd none).run P w = .ok (w.heap.size + 1, [{ target := .collected w.heap.size, args := #[] }])
   { w with heap := (w.heap.push (.deferred (some []))).push (.loop { state := .ready, pending := none, fn, tmps, params := ps, assign := as, body := bd, defers := w.heap.size }) } := by
 simp only [Instr.enterLoop, Sem.run_bind, run_newObj, Result.andThen_ok, Sem.run_pure, Array.size_push]
theorem run_enterLoop_some {w : World} {l : Nat} {lp : Loop} (h : w.heap[l]? = some (.loop lp)) (fn : FuncId) (tmps : Array Value) (ps : Array Tmp) (as bd : Code) :
  (Instr.enterLoop fn tmps ps as bd (some l)).run P w = .ok (w.heap.size, [])
   { w with heap := w.heap.push (.loop { state := .ready, pending := none, fn, tmps, params := ps, assign := as, body := bd, defers := lp.defers }) } := by
 simp only [Instr.enterLoop, Sem.run_bind, run_getLoop h, Result.andThen_ok, Sem.run_pure, run_newObj]
theorem range_rest (hT : T.Ok P) (hih : IhOk T P ih) {cx : Cx} {g : Operand} {ps : Array Tmp} {as bd : Code} {A A₁ A' : AAct} {W W₁ W' : AW} {e : AExit} {f : FuncId} {fn₀ : Func} {first cap : Array Value} {df : Nat}
    (hfn : T.funcs.get f = some fn₀) (hg : aEval T A.tmps g = some (.func (.func f) first cap))
    (h : (match ih.call f (first.toList ++ .func (.yield W₁.next) #[] #[] :: cap.toList) (W₁.new (.loop .ready none cx.fn A.tmps A.n ps as bd df)) with
        | none => none
        | some (_, W₂) => match W₂.blocks.get W₁.next with
          | some ⟨.loop st p fn' t' n' ps' as' bd' df', []⟩ => match st with
            | .busy => none
            | _ =>
              let W₃ := W₂.setObj W₁.next (.loop .exhausted p fn' t' n' ps' as' bd' df')
              match p with
              | none => some (.normal, A₁, W₃)
              | some .ret => some (.ret, A₁, W₃)
              | some (.exit id) => some (.exit id, A₁, W₃)
              | some _ => none
          | _ => none) = some (e, A', W'))
    {η η₁ : Env} {w w₁ : World} {a : Act} {b : Frame} {k : List Item} {cs : List Frame} {mark : List Deferred} {db : Nat} {ed : Nat × Nat × Nat} (hw₁ : WRel η₁ W₁ w₁) (hfr₁ : Fr η W w η₁ W₁ w₁) (hG : GRel T η) (ha : ARel η A a)
    (hdf : η₁ df = some ed) (hed : ed.1 = db) (hA₁ : ARel η₁ A₁ { a with defers := mark ++ a.defers }) (hcx : b.fn = cx.fn)
    (he : (Instr.enterLoop b.fn a.tmps ps as bd b.roundOf).run P w = .ok (w₁.heap.size, mark) { w₁ with heap := w₁.heap.push (.loop { state := .ready, pending := none, fn := b.fn, tmps := a.tmps, params := ps, assign := as, body := bd, defers := db }) }) :
    ∃ η' a' w', Fr η W w η' W' w' /\ WRel η' W' w' /\ ARel η' A' a' /\ Arr P (lone (b.atR a (.code (.rangeFunc g ps as bd) :: k)) cs w) b k cs e a' w' := by
  split at h
  case h_1 => cases h
  rename_i v W₂ hcall
  obtain ⟨hw₂, hfr₂⟩ := hw₁.new (o := .loop .ready none cx.fn A.tmps A.n ps as bd df) (o' := .loop { state := .ready, pending := none, fn := b.fn, tmps := a.tmps, params := ps, assign := as, body := bd, defers := db }) (base := 0) (size := 1)
    ⟨by simp, rfl, rfl, hcx, (ha.1.mono hfr₁.le).mono (Env.le_add _ (by
      cases hn : η₁ W₁.next with
      | none => rfl
      | some e => exact absurd (hw₁.next _ e hn) (Nat.lt_irrefl _))), rfl, rfl, rfl, ed, by
        have : df ≠ W₁.next := fun x => absurd (hw₁.next _ _ (x ▸ hdf)) (Nat.lt_irrefl _)
        simpa [Env.add, this] using hdf, hed⟩ (fun c el fz x => by cases x)
  generalize hη₂ : η₁.add W₁.next (w₁.heap.size, 0, 1) = η₂ at hw₂ hfr₂
  have hself : η₂ W₁.next = some (w₁.heap.size, 0, 1) := by rw [<- hη₂]; exact Env.add_self _ _ _
  have hG₂ := (hG.mono hfr₁.le).mono hfr₂.le
  have hfv := aEval_spec (a := a) hG ha.1 hg
  generalize hav : a.eval g = fv at hfv
  have hfv' := (hfv.mono hfr₁.le).mono hfr₂.le
  cases hfv' with
  | func _ f' _ first' _ cap' hff hfs hcs hfe hce =>
    have hf' : f' = .func f := by cases f' <;> exact (show Fn.func f = _ from hff).symm
    subst hf'
    have hargs : LR η₂ (first.toList ++ Value.func (.yield W₁.next) #[] #[] :: cap.toList) (first' ++ #[Value.func (.yield w₁.heap.size) #[] #[]] ++ cap').toList := by
      simp only [Array.toList_append, List.append_assoc]
      refine (AR.toList ⟨hfs, hfe⟩).append (.cons ?_ (AR.toList ⟨hcs, hce⟩))
      exact .func _ _ _ _ _ _ ⟨_, hself, rfl⟩ rfl rfl (fun i v v' x => by simp at x) (fun i v v' x => by simp at x)
    have hres : (resolve a.eval (rangeCall g w₁.heap.size) 0).run P { w₁ with heap := w₁.heap.push (.loop { state := .ready, pending := none, fn := b.fn, tmps := a.tmps, params := ps, assign := as, body := bd, defers := db }) } = .ok { target := .fn (.func f) cap', args := first' ++ #[.func (.yield w₁.heap.size) #[] #[]] } { w₁ with heap := w₁.heap.push (.loop { state := .ready, pending := none, fn := b.fn, tmps := a.tmps, params := ps, assign := as, body := bd, defers := db }) } := by
      simp only [resolve, hav, Deferred.ofValue, Sem.run_bind, Sem.run_pure, Result.andThen_ok]
      have : Array.map a.eval #[Operand.const (Value.func (Fn.yield w₁.heap.size) #[] #[])] = #[Value.func (Fn.yield w₁.heap.size) #[] #[]] := by simp [Act.eval]
      rw [this]
    have henter := stepR_rangeFunc (P := P) (b := b) (a := a) (k := k) (cs := cs) (w := w) he hres (by simp only [invoke]; exact hT.call f fn₀ hfn _ _)
    obtain ⟨η₃, w₃, fr, v', q1, q2, q3, q4, q5⟩ := hih.call _ _ _ _ _ hcall η₂ _ _ .normal (b.atR { a with defers := mark ++ a.defers } (.inRangeFunc w₁.heap.size :: k) :: cs) hw₂ hG₂ hargs (.inl rfl)
    obtain ⟨d1, d2, d3, d4, fn, d5, d6⟩ := q5
    have hleave := step_leave_returned (P := P) (cs := cs) (c := b.atR { a with defers := mark ++ a.defers } (.inRangeFunc w₁.heap.size :: k)) (⟨d1, d2, d3, fn, d4 ▸ d5, d6⟩ : fr.leaving P w₃ (.returned v'))
    rw [finish_atR_inRangeFunc] at hleave
    split at h
    case h_2 => cases h
    rename_i st p fn' t' n' ps' as' bd' df' hl
    have hself₃ := q1.le _ _ hself
    obtain ⟨lp, y1, y2, y3, y4, y5, y6, y7, y8, y9, y0⟩ := q2.loopAt hl hself₃
    have hnb : st ≠ .busy := by
      intro x; subst x; cases h
    have hend := run_endLoop (P := P) y1 (by rw [y2]; exact hnb)
    obtain ⟨hw₄, hfr₄⟩ := q2.setLoop hl hself₃ rfl (by intro _ _ _ x; cases x) (o := .loop .exhausted p fn' t' n' ps' as' bd' df') (o' := .loop { lp with state := .exhausted }) ⟨y0, rfl, y3, y4, y5, y6, y7, y8, y9⟩
    have hall : Steps P (lone (b.atR a (.code (.rangeFunc g ps as bd) :: k)) cs w) (lone (b.atR { a with defers := mark ++ a.defers } ((p.map Item.code).toList ++ k)) cs { w₃ with heap := w₃.heap.setIfInBounds w₁.heap.size (.loop { lp with state := .exhausted }) }) := by
      refine .head henter (q4.trans (.head hleave (.one ?_)))
      have := stepR_endRangeFunc (P := P) (b := b) (a := { a with defers := mark ++ a.defers }) (k := k) (cs := cs) hend
      subst y3
      exact this
    have hfr := ((hfr₁.trans hfr₂).trans q1).trans hfr₄
    have hA := (hA₁.mono hfr₂.le).mono q1.le
    have fin : ∀ e', (match p with
              | none => some (AExit.normal, A₁, W₂.setObj W₁.next (.loop .exhausted p fn' t' n' ps' as' bd' df'))
              | some .ret => some (.ret, A₁, W₂.setObj W₁.next (.loop .exhausted p fn' t' n' ps' as' bd' df'))
              | some (.exit id) => some (.exit id, A₁, W₂.setObj W₁.next (.loop .exhausted p fn' t' n' ps' as' bd' df'))
              | some _ => none) = some (e', A', W') ->
        ∃ η' a' w', Fr η W w η' W' w' /\ WRel η' W' w' /\ ARel η' A' a' /\ Arr P (lone (b.atR a (.code (.rangeFunc g ps as bd) :: k)) cs w) b k cs e' a' w' := by
      intro e' h
      split at h
      · cases h; exact ⟨η₃, _, _, hfr, hw₄, hA, hall⟩
      · cases h; exact ⟨η₃, _, _, hfr, hw₄, hA, k, hall⟩
      · cases h; exact ⟨η₃, _, _, hfr, hw₄, hA, k, rfl, hall⟩
      · cases h
    cases st with
    | busy => exact absurd rfl hnb
    | ready => exact fin e h
    | done => exact fin e h
    | exhausted => exact fin e h
include hT hih in
theorem range_ok {cx : Cx} {g : Operand} {ps : Array Tmp} {as bd : Code} {A A' : AAct} {W W' : AW} {e : AExit} (h : aRange ih T cx g ps as bd A W = some (e, A', W'))
  {η : Env} {w : World} {a : Act} {b : Frame} {k : List Item} {cs : List Frame} (hw : WRel η W w) (hG : GRel T η) (ha : ARel η A a) (hcx : b.fn = cx.fn) (hro : RoRel η cx.ro b.roundOf) :
  ∃ η' a' w', Fr η W w η' W' w' /\ WRel η' W' w' /\ ARel η' A' a' /\ Arr P (lone (b.atR a (.code (.rangeFunc g ps as bd) :: k)) cs w) b k cs e a' w' := by
 unfold aRange at h
 split at h
 case h_2 => cases h
 rename_i f first cap hg
 split at h
 case h_1 => cases h
 rename_i fn₀ hfn
 simp only at h
 split at h
 case h_1 => cases h
 rename_i df W₁ A₁ hs
 split at hs
 ·rename_i hro0
  cases hs
  have hr0 : b.roundOf = none := by
   cases hr : b.roundOf with
   | none => rfl
   | some l => rw [hro0, hr] at hro; exact hro.elim
  obtain ⟨hw₁, hfr₁⟩ := hw.new (o := .deferred (some [])) (o' := .deferred (some [])) (base := 0) (size := 1) ⟨trivial, by simp⟩ (fun c el fz x => by cases x)
  refine range_rest hT hih (db := w.heap.size) (mark := [{ target := .collected w.heap.size, args := #[] }]) hfn hg h hw₁ hfr₁ hG ha (Env.add_self _ _ _) rfl ⟨ha.1.mono hfr₁.le, ⟨⟨_, Env.add_self _ _ _, rfl⟩, rfl, fun i v v' x => by simp at x⟩, ha.2.mono hfr₁.le⟩ hcx ?_
  rw [hr0, run_enterLoop_none]
  simp
 ·rename_i l hro1
  split at hs
  case h_2 => cases hs
  rename_i st p fn' t n ps' as' bd' df' kin hl
  cases hs
  cases hr : b.roundOf with
  | none => rw [hro1, hr] at hro; exact hro.elim
  | some l' =>
   rw [hro1, hr] at hro
   obtain ⟨e0, he0, rfl⟩ := hro
   obtain ⟨lp, y1, y2, y3, y4, y5, y6, y7, y8, ⟨ed, y9, y10⟩, _⟩ := hw.loopAt hl he0
   refine range_rest hT hih (db := lp.defers) (mark := []) hfn hg h hw (.refl _ _ _) hG ha y9 y10 ha hcx ?_
   rw [hr, run_enterLoop_some y1]
end
end Go.Eng
