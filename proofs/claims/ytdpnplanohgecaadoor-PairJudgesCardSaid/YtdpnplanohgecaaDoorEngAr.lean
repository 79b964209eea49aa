import Derived.Test.YtdpnplanohgecaaDoorEngAq
set_option linter.unusedSimpArgs false
set_option linter.unusedVariables false
set_option linter.unusedSectionVars false
namespace Go.Eng

/-! ### a variable of the call's own, some of whose fields are slices that grow by append -/
structure Fld where
  n : Nat
  l : List Value
  el : TypeId
  sz : Nat

structure GObj (W : AW) (p N : Nat) (ST : TypeId) (col : Nat → Nat) (F : Nat → Option Fld) (c : Tr Value) : Prop where
  blk : W.blocks.get p = some ⟨.cells c N ST, []⟩
  fld : ∀ o fl, F o = some fl → o < N ∧ ∃ v, c.get o = some v ∧ GrowsN W v fl.n fl.l fl.el fl.sz (fun b => col b = o + 1)
  cp : col p = N + 1
  lt : ∀ b, col b ≠ 0 → b < W.next

theorem GObj.only {W W' : AW} {p N : Nat} {ST : TypeId} {col : Nat → Nat} {F : Nat → Option Fld} {c : Tr Value} {K : Nat → Prop} (h : GObj W p N ST col F c) (ho : Only K W W') (hk : ∀ b, b < W.next → col b ≠ 0 → ¬ K b) : GObj W' p N ST col F c where
  blk := by rw [ho.2 p (h.lt p (by rw [h.cp]; omega)) (hk p (h.lt p (by rw [h.cp]; omega)) (by rw [h.cp]; omega))]; exact h.blk
  fld := fun o fl hf => by
    obtain ⟨h1, v, h2, h3⟩ := h.fld o fl hf
    exact ⟨h1, v, h2, h3.only ho (fun b hb hc => hk b hb (by rw [hc]; omega))⟩
  cp := h.cp
  lt := fun b hb => Nat.lt_of_lt_of_le (h.lt b hb) ho.1

theorem GObj.load {W : AW} {p N : Nat} {ST : TypeId} {col : Nat → Nat} {F : Nat → Option Fld} {c : Tr Value} (h : GObj W p N ST col F c) {T : Tabs} {t : TypeId} {d : TypeDesc} (hd : T.und.get t = some d) (ha : isAggD d = false) {o : Nat} (ho : o < N) {v : Value} (hv : c.get o = some v) : aLoadVar T W t p o = some v := by
  rw [loadVar_cell hd ha]
  simp only [AW.cell, h.blk, blt_dec, ho, decide_true]
  exact hv

/-- x.f = append(x.f, u) -/
theorem GObj.push {T : Tabs} {W : AW} {p N : Nat} {ST : TypeId} {col : Nat → Nat} {F : Nat → Option Fld} {c : Tr Value} (h : GObj W p N ST col F c) {t : TypeId} {i it : TypeInfo} {z : Value} {o : Nat} {fl : Fld} (hF : F o = some fl)
    (hsz : 0 < fl.sz) (ht : T.und.get t = some (.slice fl.el)) (hi : T.info.get fl.el = some i) (hs : i.size = fl.sz) (hz : i.zero = some z) (hz1 : (acells z).length = fl.sz) (hit : T.info.get t = some it) (hits : it.size = 1)
    {u : List Value} (hul : u.length = fl.sz) (hu : oneCells u = true) (hby : (2 * (fl.n + 1)) * i.bytes ≤ 281474976710656) (hsm : fl.n + 1 ≤ 4611686018427387904) {v : Value} (hv : c.get o = some v) :
    ∃ v' W4 W5, aAppend T (W.newCells fl.el u) [t, t] [v, .slice (some ⟨W.next, 0, none⟩) 1 (2 * 1)] = some (v', W4) ∧ aStoreVar T W4 t p o v' = some W5 ∧ W4.next = W.next + 2 ∧ W5.next = W.next + 2 ∧ Only (fun b => col b ≠ 0 ∧ b ≠ p) W W4 ∧
      GObj W5 p N ST (fun b => if b = W.next + 1 then o + 1 else col b) (fun x => if x = o then some ⟨fl.n + 1, fl.l ++ u, fl.el, fl.sz⟩ else F x) (c.set o v') ∧ Only (fun b => col b = o + 1 ∨ b = p) W W5 := by
  obtain ⟨h1, v0, h2, h3⟩ := h.fld o fl hF
  rw [hv] at h2; cases h2
  have hpl := h.lt p (by rw [h.cp]; omega)
  obtain ⟨v', W4, W5, a1, a2, a3, a4, a5, a6, a7, a8⟩ := push_ownN hsz ht hi hs hz hz1 hit hits h3 h.blk hpl (show ¬ col p = o + 1 from by rw [h.cp]; omega) (show o + 1 ≤ N from by omega) hul hu hby hsm
  refine ⟨v', W4, W5, a1, a2, a3, a4, a7.mono (fun b _ hb => ⟨by rw [hb]; omega, fun e => by subst e; have := h.cp; omega⟩), ⟨a5, fun x fx hx => ?_, ?_, fun b hb => ?_⟩, a8⟩
  · by_cases e : x = o
    · subst e
      simp only [if_true, Option.some.injEq] at hx
      subst hx
      refine ⟨h1, v', by rw [Tr.get_set, if_pos rfl], a6.mono (fun b hb => ?_)⟩
      show (if b = W.next + 1 then x + 1 else col b) = x + 1
      rcases hb with hb | hb
      · split
        · rfl
        · exact hb
      · rw [if_pos hb]
    · simp only [if_neg e] at hx
      obtain ⟨g1, v1, g2, g3⟩ := h.fld x fx hx
      refine ⟨g1, v1, by rw [Tr.get_set, if_neg e]; exact g2, (g3.only a8 (fun b hb hc hk => ?_)).mono (fun b hb => ?_)⟩
      · rcases hk with hk | hk
        · exact e (by omega)
        · subst hk; rw [h.cp] at hc; omega
      · show (if b = W.next + 1 then o + 1 else col b) = x + 1
        have hb' : col b = x + 1 := hb
        have := h.lt b (by rw [hb']; omega)
        rw [if_neg (by omega)]; exact hb'
  · show (if p = W.next + 1 then o + 1 else col p) = N + 1
    rw [if_neg (by omega)]; exact h.cp
  · show b < W5.next
    have hb : (if b = W.next + 1 then o + 1 else col b) ≠ 0 := hb
    split at hb
    · omega
    · have := h.lt b hb; omega
end Go.Eng
