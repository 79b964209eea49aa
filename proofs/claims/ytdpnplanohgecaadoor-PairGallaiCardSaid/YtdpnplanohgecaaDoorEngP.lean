import Derived.Test.YtdpnplanohgecaaDoorEngO
import Derived.RangeFuncIn
set_option linter.unusedSimpArgs false
set_option linter.unusedVariables false
set_option linter.unusedSectionVars false
namespace Go.Eng
section
variable {T : Tabs} {P : Program} (hT : T.Ok P) {ih : Ih} (hih : IhOk T P ih)
def DrawOk (T : Tabs) (P : Program) (ih : Ih) : Prop :=
 ∀ (ro : Option Nat) (ops : Array Oper) (A : AAct) (W : AW) (A' : AAct) (W' : AW), aDraw ih T ro ops.toList A W = some (A', W') ->
  ∀ (η : Env) (w : World) (a : Act) (b : Frame) (k : List Item) (cs : List Frame) (t : Nat), WRel η W w -> GRel T η -> ARel η A a -> RoRel η ro b.roundOf -> Ctx b.kind cs ->
  ∃ η' a' w', Fr η W w η' W' w' /\ WRel η' W' w' /\ ARel η' A' a' /\
   Steps P (lone (b.atR a (.inRegion ops (Region.linearise .any ops t) :: k)) cs w) (lone (b.atR a' (.inRegion ops [] :: k)) cs w')
include hT hih in
theorem loop_ok : CodeOk T P (evStep T ih).loop (fun c k => .code c :: .inLoop c :: k) := by
 constructor
 intro cx c A W e A' W' h η w a b k cs hw hG ha hf hro hk
 simp only [evStep] at h
 split at h
 ·rename_i A₁ W₁ hc
  obtain ⟨η₁, a₁, w₁, g1, g2, g3, g4⟩ := hih.code.run _ _ _ _ _ _ _ hc η w a b (.inLoop c :: k) cs hw hG ha hf hro hk
  obtain ⟨η₂, a₂, w₂, q1, q2, q3, q4⟩ := hih.loop.run _ _ _ _ _ _ _ h η₁ w₁ a₁ b k cs g2 (hG.mono g1.le) g3 hf (hro.mono g1.le) hk
  exact ⟨η₂, a₂, w₂, g1.trans q1, q2, q3, .of_steps (Steps.trans g4 (.one stepR_inLoop)) q4⟩
 ·rename_i hn
  obtain ⟨η₁, a₁, w₁, g1, g2, g3, g4⟩ := hih.code.run _ _ _ _ _ _ _ h η w a b (.inLoop c :: k) cs hw hG ha hf hro hk
  refine ⟨η₁, a₁, w₁, g1, g2, g3, ?_⟩
  cases e with
  | normal => exact absurd h (hn A' W')
  | exit id => obtain ⟨k₁, x, y⟩ := g4; exact ⟨k₁, by simpa [exitTo] using x, y⟩
  | ret => exact g4
theorem WRel.setLoop {η : Env} {W : AW} {w : World} (hw : WRel η W w) {l : Nat} {kn : ABlk} {e : Nat × Nat × Nat} (hg : W.blocks.get l = some kn) (he : η l = some e) (hkin : kn.kin = []) (hnc : ∀ c n el, kn.obj ≠ .cells c n el) {o : AObj} {o' : Obj} (hr : ORel η o e o') (hnr : ∀ c n el, kn.obj ≠ .ro c n el := by intro _ _ _ x; cases x) (ho' : ∀ c el fz, o' ≠ .cells c el fz := by intro _ _ _ x; cases x) :
  WRel η (W.setObj l o) { w with heap := w.heap.setIfInBounds e.1 o' } /\ Fr η W w η (W.setObj l o) { w with heap := w.heap.setIfInBounds e.1 o' } := by
 have hlt := hw.inHeap l e he
 have h1 : ({ w with heap := w.heap.setIfInBounds e.1 o' } : World).heap[e.1]? = some o' := by simp [hlt]
 have h2 : ∀ r, r ≠ e.1 -> ({ w with heap := w.heap.setIfInBounds e.1 o' } : World).heap[r]? = w.heap[r]? := fun r hr => by
  simp only; rw [Array.getElem?_setIfInBounds_ne (Ne.symm hr)]
 have h3 : ({ w with heap := w.heap.setIfInBounds e.1 o' } : World).heap.size = w.heap.size := by simp
 have := hw.turn (w' := { w with heap := w.heap.setIfInBounds e.1 o' }) (k' := ⟨o, []⟩) hg he rfl o' h1 hr h3 h2
 rw [hkin] at this
 obtain ⟨o₀, h4, h5⟩ := hw.obj l kn e hg he
 have hnz : e.2.2 ≠ 0 /\ ∀ c el fz, o₀ ≠ .cells c el fz := by
  cases hko : kn.obj with
  | cells c' n' el' => exact absurd hko (hnc _ _ _)
  | ro c' n' el' => exact absurd hko (hnr _ _ _)
  | deferred d =>
   rw [hko] at h5
   cases d <;> cases o₀ <;> first | exact False.elim h5 | skip
   ·rename_i x; cases x <;> first | exact False.elim h5 | exact ⟨h5, fun _ _ _ x => by cases x⟩
   ·rename_i x; cases x <;> first | exact False.elim h5 | exact ⟨h5.2, fun _ _ _ x => by cases x⟩
  | iter s p => rw [hko] at h5; cases o₀ <;> first | exact False.elim h5 | exact ⟨h5.2.2.2, fun _ _ _ x => by cases x⟩
  | map es k => rw [hko] at h5; cases o₀ <;> first | exact False.elim h5 | exact ⟨h5.2.2, fun _ _ _ x => by cases x⟩
  | loop => rw [hko] at h5; cases o₀ <;> first | exact False.elim h5 | exact ⟨h5.1, fun _ _ _ x => by cases x⟩
  | miter m s l k =>
   rw [hko] at h5
   cases m <;> cases o₀ <;> first | exact False.elim h5 | skip
   ·rename_i m' _ _ _; cases m' <;> first | exact False.elim h5 | exact ⟨h5.2, fun _ _ _ x => by cases x⟩
   ·rename_i m' _ _ _; cases m' <;> first | exact False.elim h5 | exact ⟨h5.2.2.2.2.2, fun _ _ _ x => by cases x⟩
 refine ⟨this, Fr.turn rfl he hnz.1 (frozen?_other h4 h1 h2 hnz.2 ho') h3 h2 rfl rfl rfl (fun c el fz hc => ?_)⟩
 rw [h4] at hc; cases hc
 exact absurd rfl (hnz.2 _ _ _)
theorem run_setObj_loop {P : Program} {w : World} {r : Nat} {lp lp' : Loop} (h : w.heap[r]? = some (.loop lp)) : (setObj r (.loop lp')).run P w = .ok () { w with heap := w.heap.setIfInBounds r (.loop lp') } := by
 simp [setObj, Sem.run, h]
theorem run_beginRound {P : Program} {w : World} {r : Nat} {lp : Loop} (h : w.heap[r]? = some (.loop lp)) (hs : lp.state = .ready) :
  (Instr.beginRound r).run P w = .ok () { w with heap := w.heap.setIfInBounds r (.loop { lp with state := .busy }) } := by
 simp only [Instr.beginRound, Sem.run_bind, run_getLoop h, Result.andThen_ok, run_setObj_loop h, hs]
 rfl
theorem run_endRound {P : Program} {w : World} {r : Nat} {lp : Loop} (h : w.heap[r]? = some (.loop lp)) (j : Option Code) :
  (Instr.endRound r j).run P w = .ok (.bool j.isNone) { w with heap := w.heap.setIfInBounds r (.loop { lp with state := if j.isNone then .ready else .done, pending := j }) } := by
 simp only [Instr.endRound, Sem.run_bind, run_getLoop h, Result.andThen_ok, run_setObj_loop h]
 rfl
theorem run_endLoop {P : Program} {w : World} {r : Nat} {lp : Loop} (h : w.heap[r]? = some (.loop lp)) (hs : lp.state ≠ .busy) :
  (Instr.endLoop r).run P w = .ok lp.pending { w with heap := w.heap.setIfInBounds r (.loop { lp with state := .exhausted }) } := by
 simp only [Instr.endLoop, Sem.run_bind, run_getLoop h, Result.andThen_ok]
 have hb : (lp.state == LoopState.busy) = false := by
  cases hx : lp.state <;> first | rfl | exact absurd hx hs
 simp [hb, run_setObj_loop h]
include hT hih in
theorem round_ok : ∀ l fn t n as bd W v W', (evStep T ih).round l fn t n as bd W = some (v, W') -> ∀ (η : Env) (w : World) (e : Nat × Nat × Nat) (tmps : Array Value) (c : Frame) (cs : List Frame), WRel η W w -> GRel T η -> η l = some e -> TR η t n tmps ->
  ∃ η' w' v', Fr η W w η' W' w' /\ WRel η' W' w' /\ VR η' v v' /\ Steps P (lone (Frame.round e.1 fn tmps as bd .normal) (c :: cs) w) (lone (c.finish v') cs w') := by
 intro l fn t n as bd W v W' h η w e tmps c cs hw hG he ht
 simp only [evStep, aRound] at h
 let b : Frame := { (default : Frame) with fn := fn, kind := .normal, roundOf := some e.1 }
 have hb0 : Frame.round e.1 fn tmps as bd .normal = b.atR { tmps := tmps, defers := [] } [.code as, .beginRound, .code bd] := by
  simp [Frame.round, Frame.atR, b]
 rw [hb0]
 split at h
 case h_2 => cases h
 rename_i A₁ W₁ hc
 obtain ⟨η₁, a₁, w₁, g1, g2, g3, g4⟩ := hih.code.run _ _ _ _ _ _ _ hc η w { tmps := tmps, defers := [] } b [.beginRound, .code bd] (c :: cs) hw hG ⟨ht, trivial⟩ rfl ⟨e, he, rfl⟩ (.inl rfl)
 split at h
 case h_2 => cases h
 rename_i p fn' t' n' ps as' bd' df hl
 have he₁ := g1.le _ _ he
 obtain ⟨lp, y1, y2, y3, y4, y5, y6, y7, y8, y9, y0⟩ := g2.loopAt hl he₁
 have hb1 := run_beginRound (P := P) y1 y2
 obtain ⟨hw₂, hfr₂⟩ := g2.setLoop hl he₁ rfl (by intro _ _ _ x; cases x) (o := .loop .busy p fn' t' n' ps as' bd' df) (o' := .loop { lp with state := .busy }) ⟨y0, rfl, y3, y4, y5, y6, y7, y8, y9⟩
 split at h
 case h_2 => cases h
 rename_i ex A₂ W₂ hc₂
 obtain ⟨η₂, a₂, w₂, q1, q2, q3, q4⟩ := hih.code.run _ _ _ _ _ _ _ hc₂ η₁ _ a₁ b [] (c :: cs) hw₂ (hG.mono g1.le) g3 rfl ⟨e, he₁, rfl⟩ (.inl rfl)
 split at h
 case h_2 => cases h
 rename_i st2 p2 fn2 t2 n2 ps2 as2 bd2 df2 hl2
 have he₂ := q1.le _ _ he₁
 obtain ⟨lp2, z1, z2, z3, z4, z5, z6, z7, z8, z9, z0⟩ := q2.loopAt hl2 he₂
 have hstart : Steps P (lone (b.atR { tmps := tmps, defers := [] } [.code as, .beginRound, .code bd]) (c :: cs) w) (lone (b.atR a₁ [.code bd]) (c :: cs) { w₁ with heap := w₁.heap.setIfInBounds e.1 (.loop { lp with state := .busy }) }) :=
  Steps.trans g4 (.one (stepR_beginRound rfl hb1))
 cases ex with
 | normal =>
  cases h
  obtain ⟨hw₃, hfr₃⟩ := q2.setLoop hl2 he₂ rfl (by intro _ _ _ x; cases x) (o := .loop .ready none fn2 t2 n2 ps2 as2 bd2 df2) (o' := .loop { lp2 with state := .ready, pending := none }) ⟨z0, rfl, rfl, z4, z5, z6, z7, z8, z9⟩
  exact ⟨η₂, _, .bool true, (g1.trans hfr₂).trans (q1.trans hfr₃), hw₃, .bool _, (hstart.trans q4).trans (.one (stepR_round_end rfl rfl (run_endRound z1 none)))⟩
 | ret =>
  cases h
  obtain ⟨k₁, q4⟩ := q4
  obtain ⟨hw₃, hfr₃⟩ := q2.setLoop hl2 he₂ rfl (by intro _ _ _ x; cases x) (o := .loop .done (some .ret) fn2 t2 n2 ps2 as2 bd2 df2) (o' := .loop { lp2 with state := .done, pending := some .ret }) ⟨z0, rfl, rfl, z4, z5, z6, z7, z8, z9⟩
  exact ⟨η₂, _, .bool false, (g1.trans hfr₂).trans (q1.trans hfr₃), hw₃, .bool _, (hstart.trans q4).trans (.one (stepR_round_ret rfl rfl (run_endRound z1 (some .ret))))⟩
 | exit id =>
  cases h
  obtain ⟨k₁, hx, q4⟩ := q4
  obtain ⟨hw₃, hfr₃⟩ := q2.setLoop hl2 he₂ rfl (by intro _ _ _ x; cases x) (o := .loop .done (some (.exit id)) fn2 t2 n2 ps2 as2 bd2 df2) (o' := .loop { lp2 with state := .done, pending := some (.exit id) }) ⟨z0, rfl, rfl, z4, z5, z6, z7, z8, z9⟩
  exact ⟨η₂, _, .bool false, (g1.trans hfr₂).trans (q1.trans hfr₃), hw₃, .bool _, (hstart.trans q4).trans (.one (stepR_round_exit rfl rfl (hx.trans rfl) (run_endRound z1 (some (.exit id)))))⟩
end
end Go.Eng
