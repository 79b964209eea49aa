import Derived.Test.YtdpnplanohgecaaDoorEngEm
import Derived.Test.YtdpnplanohgecaaDoorEngAp
set_option linter.unusedSimpArgs false
set_option linter.unusedVariables false
set_option linter.unusedSectionVars false
namespace Go.Eng

/-! ### loops over functions -/
theorem WpR.mono {T : Tabs} {l : Nat} {fn : FuncId} {t : Tr Value} {n : Nat} {as bd : Code} {W : AW} {Q Q' : Value → AW → Prop} (h : WpR T l fn t n as bd W Q) (hq : ∀ v W', Q v W' → Q' v W') : WpR T l fn t n as bd W Q' :=
  let ⟨v, W', h1, h2⟩ := h
  ⟨v, W', h1, hq _ _ h2⟩

/-- what becomes of a loop by how its round is left -/
def leftBy : AExit → LoopState × Option Code × Bool
  | .normal => (.ready, none, true)
  | .ret => (.done, some .ret, false)
  | .exit id => (.done, some (.exit id), false)
theorem wpR {T : Tabs} {l : Nat} {fn : FuncId} {t : Tr Value} {n : Nat} {as bd : Code} {W : AW} {Q : Value → AW → Prop}
    (h : WpK T ⟨fn, some l⟩ as ⟨t, n, []⟩ W (fun e A₁ W₁ => e = .normal ∧ ∃ p fn' t' n' ps as' bd' df, W₁.blocks.get l = some ⟨.loop .ready p fn' t' n' ps as' bd' df, []⟩ ∧
      WpK T ⟨fn, some l⟩ bd A₁ (W₁.setObj l (.loop .busy p fn' t' n' ps as' bd' df)) (fun e _ W₂ => ∃ st p fn' t' n' ps as' bd' df, W₂.blocks.get l = some ⟨.loop st p fn' t' n' ps as' bd' df, []⟩ ∧
        Q (.bool (leftBy e).2.2) (W₂.setObj l (.loop (leftBy e).1 (leftBy e).2.1 fn' t' n' ps as' bd' df))))) : WpR T l fn t n as bd W Q := by
  obtain ⟨_, A₁, W₁, ⟨N, h1⟩, rfl, p, fn', t', n', ps, as', bd', df, h2, h3⟩ := wpC_of_K h
  obtain ⟨e, A₂, W₂, ⟨M, h4⟩, st, p2, fn2, t2, n2, ps2, as2, bd2, df2, h5, h6⟩ := wpC_of_K h3
  refine ⟨_, _, Evt.shift (N := max N M) (fun m hm => ?_), h6⟩
  show (evStep T (ev T m)).round l fn t n as bd W = _
  simp only [evStep, aRound, h1 m (by omega), h2, h4 m (by omega), h5]
  cases e <;> rfl

/-- what is deferred by the loops over functions alone: nothing -/
def Collects : List Deferred → AW → AW → Prop
  | [], W, W' => W' = W
  | d :: ds, W, W' => ∃ r, d.target = .collected r ∧ W.blocks.get r = some ⟨.deferred (some []), []⟩ ∧ Collects ds (W.setObj r (.deferred none)) W'
theorem Collects.evt {T : Tabs} : ∀ {ds : List Deferred} {W W' : AW}, Collects ds W W' → Evt (fun n => (ev T n).defers ds W) W'
  | [], W, W', h => by
    have h : W' = W := h
    subst h
    exact Evt.shift (N := 0) (fun _ _ => rfl)
  | d :: ds, W, W', h => by
    obtain ⟨r, h1, h2, h3⟩ := h
    obtain ⟨N, h4⟩ := Collects.evt (T := T) h3
    refine Evt.shift (N := N) (fun n hn => ?_)
    show (evStep T (ev T n)).defers (d :: ds) W = _
    simp only [evStep, aDefers, h1, h2, List.nil_append]
    exact h4 n hn

/-- a function in which there are loops over functions -/
theorem wpFd {T : Tabs} {W : AW} {f : FuncId} {fn : Func} {c : Code} {args : List Value} {R : Value → AW → Prop} (hf : T.funcs.get f = some fn) (hb : fn.body = some c)
    (h : WpK T ⟨f, none⟩ c ⟨Tr.nil.lay 0 args, max fn.ntmps args.length, []⟩ W (fun e A' W' => (e = .normal ∨ e = .ret) ∧ ∃ W'', Collects A'.defers W' W'' ∧ ∃ l, aResults T W'' A'.tmps fn.results.toList = some l ∧ R (tupled l) W'')) :
    WpF T f args W R := by
  obtain ⟨e, A', W', ⟨N, h1⟩, h2, W'', h3, l, h4, h5⟩ := wpC_of_K h
  obtain ⟨M, h6⟩ := Collects.evt (T := T) h3
  refine ⟨tupled l, W'', Evt.shift (N := max N M) (fun n hn => ?_), h5⟩
  show (evStep T (ev T n)).call f args W = _
  simp only [evStep, aBody, hf, hb, h1 n (by omega)]
  rcases h2 with rfl | rfl <;> simp only [h6 n (by omega), h4]

/-- where a loop over a function goes on -/
def goOn (Q : AExit → AAct → AW → Prop) (A : AAct) (W : AW) : Option Code → Prop
  | none => Q .normal A W
  | some .ret => Q .ret A W
  | some (.exit id) => Q (.exit id) A W
  | some _ => False
def ranOut (A : AAct) (W : AW) : Option Code → Option (AExit × AAct × AW)
  | none => some (.normal, A, W)
  | some .ret => some (.ret, A, W)
  | some (.exit id) => some (.exit id, A, W)
  | some _ => none
def AW.beforeLoop (W : AW) (fn : FuncId) (A : AAct) (ps : Array Tmp) (as bd : Code) : AW :=
  (W.new (.deferred (some []))).new (.loop .ready none fn A.tmps A.n ps as bd W.next)
theorem wpC_range {T : Tabs} {f₀ : FuncId} {A : AAct} {W : AW} {Q : AExit → AAct → AW → Prop} {g : Operand} {ps : Array Tmp} {as bd : Code} {f : FuncId} {first cap : Array Value} {fn : Func}
    (hg : aEval T A.tmps g = some (.func (.func f) first cap)) (hf : T.funcs.get f = some fn)
    (h : WpF T f (first.toList ++ .func (.yield (W.next + 1)) #[] #[] :: cap.toList) (W.beforeLoop f₀ A ps as bd) (fun _ W₂ =>
      ∃ st p fn' t' n' ps' as' bd' df', W₂.blocks.get (W.next + 1) = some ⟨.loop st p fn' t' n' ps' as' bd' df', []⟩ ∧ st ≠ .busy ∧
        goOn Q { A with defers := { target := .collected W.next, args := #[] } :: A.defers } (W₂.setObj (W.next + 1) (.loop .exhausted p fn' t' n' ps' as' bd' df')) p)) : WpC T ⟨f₀, none⟩ (.rangeFunc g ps as bd) A W Q := by
  obtain ⟨v, W₂, ⟨N, h1⟩, st, p, fn', t', n', ps', as', bd', df', h2, h3, h4⟩ := h
  have key : ∀ m, N ≤ m → ∀ r, ranOut { A with defers := { target := .collected W.next, args := #[] } :: A.defers } (W₂.setObj (W.next + 1) (.loop .exhausted p fn' t' n' ps' as' bd' df')) p = r → (ev T (m + 1)).code ⟨f₀, none⟩ (.rangeFunc g ps as bd) A W = r := by
    intro m hm r hr
    show (evStep T (ev T m)).code ⟨f₀, none⟩ (.rangeFunc g ps as bd) A W = _
    have h1' : (ev T m).call f (first.toList ++ .func (.yield (W.new (.deferred (some []))).next) #[] #[] :: cap.toList) ((W.new (.deferred (some []))).new (.loop .ready none f₀ A.tmps A.n ps as bd W.next)) = some (v, W₂) := h1 m hm
    have h2' : W₂.blocks.get (W.new (.deferred (some []))).next = some ⟨.loop st p fn' t' n' ps' as' bd' df', []⟩ := h2
    simp only [evStep, aRange, hg, hf, h1', h2']
    cases st with
    | busy => exact absurd rfl h3
    | _ => rw [← hr]; rfl
  unfold goOn at h4
  split at h4
  · exact ⟨_, _, _, Evt.shift (N := N) (fun m hm => key m hm _ rfl), h4⟩
  · exact ⟨_, _, _, Evt.shift (N := N) (fun m hm => key m hm _ rfl), h4⟩
  · exact ⟨_, _, _, Evt.shift (N := N) (fun m hm => key m hm _ rfl), h4⟩
  · exact h4.elim
/-- in a block, with what follows -/
theorem wpK_range {T : Tabs} {f₀ : FuncId} {A : AAct} {W : AW} {Q : AExit → AAct → AW → Prop} {id : Nat} {b : Code} {g : Operand} {ps : Array Tmp} {as bd : Code} {f : FuncId} {first cap : Array Value} {fn : Func}
    (hg : aEval T A.tmps g = some (.func (.func f) first cap)) (hf : T.funcs.get f = some fn)
    (h : WpF T f (first.toList ++ .func (.yield (W.next + 1)) #[] #[] :: cap.toList) (W.beforeLoop f₀ A ps as bd) (fun _ W₂ =>
      ∃ st p fn' t' n' ps' as' bd' df', W₂.blocks.get (W.next + 1) = some ⟨.loop st p fn' t' n' ps' as' bd' df', []⟩ ∧ st ≠ .busy ∧
        goOn (leaves id (behind Q fun A' W' => WpK T ⟨f₀, none⟩ b A' W' Q)) { A with defers := { target := .collected W.next, args := #[] } :: A.defers } (W₂.setObj (W.next + 1) (.loop .exhausted p fn' t' n' ps' as' bd' df')) p)) :
    WpK T ⟨f₀, none⟩ (.seq (.block id (.rangeFunc g ps as bd)) b) A W Q :=
  wpC_range hg hf h
end Go.Eng
