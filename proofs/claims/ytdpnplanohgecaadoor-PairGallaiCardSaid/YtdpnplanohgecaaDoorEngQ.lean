import Derived.Test.YtdpnplanohgecaaDoorEngP
set_option linter.unusedSimpArgs false
set_option linter.unusedVariables false
set_option linter.unusedSectionVars false
namespace Go.Eng
section
variable {T : Tabs} {P : Program} (hT : T.Ok P) {ih : Ih} (hih : IhOk T P ih)
include hT in
theorem aResults_spec {η : Env} {W : AW} {w : World} (hw : WRel η W w) {t : Tr Value} {n : Nat} {tmps : Array Value} (ht : TR η t n tmps) {f : ResultVar -> Sem Value}
  (h1 : ∀ i, f (.tmp i) = pure (tmps.getD i undef)) (h2 : ∀ a ty, f (.cell a ty) = (do loadVar ty (<- asAddr (tmps.getD a undef)))) :
  ∀ {l : List ResultVar} {r : List Value}, aResults T W t l = some r -> ∃ r', (l.mapM f).run P w = .ok r' w /\ LR η r r'
 | [], r, h => by
  cases h
  exact ⟨[], by simp, .nil η⟩
 | .tmp i :: l, r, h => by
  simp only [aResults] at h
  split at h
  ·rename_i v r₁ hv hr
   cases h
   obtain ⟨r', g1, g2⟩ := aResults_spec hw ht h1 h2 hr
   have hv' := ARel.look (A := ⟨t, n, []⟩) (a := { tmps := tmps, defers := [] }) ⟨ht, trivial⟩ i v hv
   refine ⟨tmps.getD i undef :: r', ?_, .cons hv' g2⟩
   simp [List.mapM_cons, h1, g1]
  ·cases h
 | .cell a ty :: l, r, h => by
  simp only [aResults] at h
  split at h
  ·rename_i p hp
   split at h
   ·rename_i b o ha
    split at h
    ·rename_i v r₁ hv hr
     cases h
     obtain ⟨r', g1, g2⟩ := aResults_spec hw ht h1 h2 hr
     have hp' := ARel.look (A := ⟨t, n, []⟩) (a := { tmps := tmps, defers := [] }) ⟨ht, trivial⟩ a p hp
     obtain ⟨e, he, hpe⟩ := aAddr_spec ha hp'
     obtain ⟨v', q1, q2⟩ := sound_loadVar hT hw hv he
     refine ⟨v' :: r', ?_, .cons q2 g2⟩
     have hpe' : tmps.getD a undef = _ := hpe
     simp only [List.mapM_cons, h2, hpe', asAddr, Sem.run_bind, Sem.run_pure, Result.andThen_ok, q1, g1]
    ·cases h
   ·cases h
  ·cases h
include hT in
theorem results_ok {η : Env} {W : AW} {w : World} (hw : WRel η W w) {t : Tr Value} {n : Nat} {tmps : Array Value} (ht : TR η t n tmps) {fn : Func} {l : List Value} (h : aResults T W t fn.results.toList = some l) :
  ∃ v', (results fn tmps).run P w = .ok v' w /\ VR η (tupled l) v' := by
 unfold results
 obtain ⟨r', g1, g2⟩ := aResults_spec hT hw ht (f := fun | .tmp t => pure (tmps.getD t undef) | .cell a t => do loadVar t (<- asAddr (tmps.getD a undef))) (fun _ => rfl) (fun _ _ => rfl) h
 refine ⟨if h : r'.toArray.size = 1 then r'.toArray[0] else .tuple r'.toArray, ?_, ?_⟩
 ·rw [Array.mapM_eq_mapM_toList]
  simp only [map_eq_pure_bind, Sem.run_bind, Sem.run_pure]
  exact congrArg (fun r : Result (List Value) => (r.andThen fun a w' => Result.ok a.toArray w').andThen fun a w' => Result.ok (if h : a.size = 1 then a[0] else Value.tuple a) w') g1
 ·unfold tupled
  split
  ·obtain ⟨v', l', rfl, h1, h2⟩ := g2.uncons
   obtain rfl := h2.of_nil
   simpa using h1
  ·rename_i hne
   have : ¬ r'.toArray.size = 1 := by
    intro hs
    have := g2.1
    simp at hs
    rw [hs] at this
    match l, this with
    | [v], _ => exact hne v rfl
   rw [dif_neg this]
   have := g2.toArray
   exact .tuple _ _ this.1 this.2
theorem step_collected {fr : Frame} {cs : List Frame} {w w' : World} {block : Nat} {args : Array Value} {ds calls : List Deferred} (hm : fr.mode ≠ .run) (hd : fr.defers = { target := .collected block, args } :: ds)
  (h : (Instr.takeDeferred block).run P w = .ok calls w') : step P (lone fr cs w) = .next (lone { fr with defers := calls ++ ds } cs w') := by
 refine step_lone_go ?_
 cases hmode : fr.mode with
 | run => exact absurd hmode hm
 | returning => simp [stepG, unwind, hmode, hd, Sem.runT_eq, h, GStep.bare_after]
 | panicking chain => simp [stepG, unwind, hmode, hd, Sem.runT_eq, h, GStep.bare_after]
theorem run_takeDeferred {w : World} {r : Nat} {l : List Deferred} (h : w.heap[r]? = some (.deferred (some l))) :
  (Instr.takeDeferred r).run P w = .ok l { w with heap := w.heap.setIfInBounds r (.deferred none) } := by
 simp [Instr.takeDeferred, getObj, setObj, Sem.run, h]
include hT hih in
theorem defers_ok : ∀ ds W W', (evStep T ih).defers ds W = some W' -> ∀ (η : Env) (w : World) (ds' : List Deferred) (fr : Frame) (cs : List Frame), WRel η W w -> GRel T η -> DsRel η ds ds' -> fr.mode = .returning -> fr.defers = ds' ->
  ∃ η' w', Fr η W w η' W' w' /\ WRel η' W' w' /\ Steps P (lone fr cs w) (lone { fr with defers := [] } cs w') := by
 intro ds W W' h η w ds' fr cs hw hG hd hm hfd
 simp only [evStep] at h
 match ds, ds', hd with
 | [], [], _ =>
  simp only [aDefers, Option.some.injEq] at h; subst h
  refine ⟨η, w, .refl _ _ _, hw, ?_⟩
  rw [<- hfd]; exact .refl _ _
 | d :: ds, d' :: ds', hd =>
  obtain ⟨⟨htg, hargs⟩, hds⟩ := hd
  simp only [aDefers] at h
  split at h
  ·rename_i f cap htar
   rw [htar] at htg
   split at h
   case h_2 => cases h
   rename_i g args hen
   split at h
   case h_2 => cases h
   rename_i v W₁ hcall
   cases hd't : d'.target <;> rw [hd't] at htg <;> try exact htg.elim
   rename_i f' cap'
   obtain ⟨hf, hc⟩ := htg
   obtain ⟨r', g1, g2⟩ := aEnter_spec hT hw hen hf hargs.toList hc.toList
   cases r' <;> try exact g2.elim
   rename_i g' args'
   obtain ⟨rfl, ha⟩ := g2
   rw [Array.toArray_toList, Array.toArray_toList] at g1
   have s1 := step_defer (P := P) (fr := fr) (cs := cs) (by simp [hm]) hfd hd't (by rw [hd't]; exact g1)
   obtain ⟨η₁, w₁, fr₁, v', q1, q2, q3, q4, q5⟩ := hih.call _ _ _ _ _ hcall η w args' .deferred ({ fr with defers := ds' } :: cs) hw hG ha (.inr ⟨rfl, _, _, rfl, hm⟩)
   obtain ⟨d1, d2, d3, d4, fn, d5, d6⟩ := q5
   have s2 := step_going_returned (P := P) (c := { fr with defers := ds' }) (cs := cs) d3 (⟨d1, d2, fn, d4 ▸ d5, d6⟩ : fr₁.going P w₁ (.returned v'))
   have hset : ({ { fr with defers := ds' } with mode := settle ({ fr with defers := ds' } : Frame).mode } : Frame) = { fr with defers := ds' } := by
    simp [hm, settle]
   rw [hset] at s2
   obtain ⟨η₂, w₂, x1, x2, x3⟩ := hih.defers _ _ _ h η₁ w₁ ds' { fr with defers := ds' } cs q2 (hG.mono q1.le) (hds.mono q1.le) hm rfl
   exact ⟨η₂, w₂, q1.trans x1, x2, .head s1 (q4.trans (.head s2 x3))⟩
  ·rename_i r htar
   rw [htar] at htg
   split at h
   case h_2 => cases h
   rename_i l hblk
   cases hd't : d'.target <;> rw [hd't] at htg <;> try exact htg.elim
   rename_i r'
   obtain ⟨e, he, rfl⟩ := htg
   obtain ⟨o, h2, h3⟩ := hw.obj r _ e hblk he
   cases o <;> try exact h3.elim
   rename_i ol
   cases ol
   ·exact h3.elim
   rename_i l'
   have hl : DsRel η l l' := h3.1
   obtain ⟨hw₁, hfr₁⟩ := hw.setLoop hblk he rfl (by intro _ _ _ x; cases x) (o := .deferred none) (o' := .deferred none) h3.2
   have s1 := step_collected (P := P) (fr := fr) (cs := cs) (block := e.1) (args := d'.args) (ds := ds') (by simp [hm]) (by rw [hfd, <- hd't]) (run_takeDeferred h2)
   obtain ⟨η₂, w₂, x1, x2, x3⟩ := hih.defers _ _ _ h η _ (l' ++ ds') { fr with defers := l' ++ ds' } cs hw₁ hG (hl.append hds) hm rfl
   exact ⟨η₂, w₂, hfr₁.trans x1, x2, .head s1 x3⟩
  ·cases h
include hT hih in
theorem call_ok : ∀ f args W v W', (evStep T ih).call f args W = some (v, W') -> ∀ (η : Env) (w : World) (args' : Array Value) (kind : CallKind) (cs : List Frame), WRel η W w -> GRel T η -> LR η args args'.toList -> Ctx kind cs ->
    ∃ η' w' fr v', Fr η W w η' W' w' /\ WRel η' W' w' /\ VR η' v v' /\ Steps P (lone (Frame.enter P f args' kind) cs w) (lone fr cs w') /\ Done P fr f kind w' v' := by
  intro f args W v W' h η w args' kind cs hw hG ha hk
  simp only [evStep, aBody] at h
  split at h
  case h_1 => cases h
  rename_i fn hfn
  have hfn' := hT.func _ _ hfn
  split at h
  case h_1 => cases h
  rename_i c hc
  let b : Frame := { (default : Frame) with fn := f, kind := kind, roundOf := none }
  have henter : Frame.enter P f args' kind = b.atR { tmps := args' ++ Array.replicate (fn.ntmps - args'.size) undef, defers := [] } [.code c] := by
    simp [Frame.enter, Frame.atR, hfn', hc, b]
  rw [henter]
  have hlen := ha.1
  have ht : TR η (Tr.nil.lay 0 args) (max fn.ntmps args.length) (args' ++ Array.replicate (fn.ntmps - args'.size) undef) := by
    refine ⟨?_, fun i u hu => ?_⟩
    · have : args.length = args'.size := by simpa using hlen
      simp; omega
    · rw [Tr.get_lay] at hu
      split at hu
      · rename_i hi
        have hi' : i < args'.toList.length := by omega
        have hi2 : i < args'.size := by simpa using hi'
        refine ⟨args'[i], ?_, ha.2 i u _ (by simpa using hu) (by simp [hi2])⟩
        rw [Array.getElem?_append_left hi2]; simp
      · simp [Tr.get] at hu
  have main : ∀ (a : Act) (fr : Frame) (A : AAct) (η₁ : Env) (w₁ : World) (W₁ : AW), (match ih.defers A.defers W₁ with
        | none => none
        | some W₂ => match aResults T W₂ A.tmps fn.results.toList with
          | none => none
          | some l => some (tupled l, W₂)) = some (v, W') -> Fr η W w η₁ W₁ w₁ -> WRel η₁ W₁ w₁ -> ARel η₁ A a -> fr.mode = .returning -> fr.tmps = a.tmps -> fr.defers = a.defers -> fr.fn = f -> fr.kind = kind ->
      Steps P (lone (b.atR { tmps := args' ++ Array.replicate (fn.ntmps - args'.size) undef, defers := [] } [.code c]) cs w) (lone fr cs w₁) ->
      ∃ η' w' fr v', Fr η W w η' W' w' /\ WRel η' W' w' /\ VR η' v v' /\ Steps P (lone (b.atR { tmps := args' ++ Array.replicate (fn.ntmps - args'.size) undef, defers := [] } [.code c]) cs w) (lone fr cs w') /\ Done P fr f kind w' v' := by
    intro a fr A η₁ w₁ W₁ h hfr hw₁ hA hm ht hd hff hkk hs
    split at h
    · cases h
    · rename_i W₂ hdf
      split at h
      · cases h
      · rename_i l hl
        cases h
        obtain ⟨η₂, w₂, x1, x2, x3⟩ := hih.defers _ _ _ hdf η₁ w₁ a.defers fr cs hw₁ (hG.mono hfr.le) hA.2 hm hd
        obtain ⟨v', y1, y2⟩ := results_ok hT x2 (hA.1.mono x1.le) hl
        exact ⟨η₂, w₂, { fr with defers := [] }, v', hfr.trans x1, x2, y2, hs.trans x3, hm, rfl, hkk, hff, fn, hfn', by rw [<- ht] at y1; exact y1⟩
  split at h
  · cases h
  · rename_i e A W₁ hne hcode
    obtain ⟨η₁, a, w₁, g1, g2, g3, g4⟩ := hih.code.run _ _ _ _ _ _ _ hcode η w { tmps := args' ++ Array.replicate (fn.ntmps - args'.size) undef, defers := [] } b [] cs hw hG ⟨ht, trivial⟩ rfl trivial hk
    cases e with
    | exit id => exact (hne _ rfl).elim
    | normal => exact main a _ A η₁ w₁ W₁ h g1 g2 g3 rfl rfl rfl rfl rfl (g4.trans (.one (stepR_end rfl)))
    | ret =>
      obtain ⟨k₁, g4⟩ := g4
      exact main a _ A η₁ w₁ W₁ h g1 g2 g3 rfl rfl rfl rfl rfl (g4.trans (.one (stepR_ret rfl)))
  · cases h
end
end Go.Eng
