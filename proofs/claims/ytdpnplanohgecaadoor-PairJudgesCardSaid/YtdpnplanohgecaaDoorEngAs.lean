import Derived.Test.YtdpnplanohgecaaDoorEngAr
set_option linter.unusedSimpArgs false
set_option linter.unusedVariables false
set_option linter.unusedSectionVars false
namespace Go.Eng

/-! ### a slice that a literal made, which then grows by append -/
/-- made of n things, just as many as there is room for -/
def MadeN (W : AW) (v : Value) (n : Nat) (l : List Value) (el : TypeId) (sz : Nat) (K : Nat → Prop) : Prop :=
  l.length = n * sz ∧ ∃ b c kin, v = .slice (some ⟨b, 0, none⟩) n (2 * n) ∧ 0 < n ∧ K b ∧ b < W.next ∧ W.blocks.get b = some ⟨.cells c l.length el, kin⟩ ∧ (∀ i, i < l.length → c.get i = l[i]?) ∧ ∀ p ∈ kin, K p.1
/-- made or grown -/
def HeldN (W : AW) (v : Value) (n : Nat) (l : List Value) (el : TypeId) (sz : Nat) (K : Nat → Prop) : Prop := MadeN W v n l el sz K ∨ GrowsN W v n l el sz K
theorem HeldN.only {W W' : AW} {v : Value} {n : Nat} {l : List Value} {el : TypeId} {sz : Nat} {K K' : Nat → Prop} (h : HeldN W v n l el sz K) (ho : Only K' W W') (hd : ∀ b, b < W.next → K b → ¬ K' b) : HeldN W' v n l el sz K := by
  rcases h with ⟨h0, b, c, kin, h1, h2, h3, h4, h5, h6, h7⟩ | h
  · exact .inl ⟨h0, b, c, kin, h1, h2, h3, Nat.lt_of_lt_of_le h4 ho.1, by rw [ho.2 b h4 (hd b h4 h3)]; exact h5, h6, h7⟩
  · exact .inr (h.only ho hd)
theorem HeldN.mono {W : AW} {v : Value} {n : Nat} {l : List Value} {el : TypeId} {sz : Nat} {K K' : Nat → Prop} (h : HeldN W v n l el sz K) (hk : ∀ b, K b → K' b) : HeldN W v n l el sz K' := by
  rcases h with ⟨h0, b, c, kin, h1, h2, h3, h4, h5, h6, h7⟩ | h
  · exact .inl ⟨h0, b, c, kin, h1, h2, hk b h3, h4, h5, h6, fun p hp => hk _ (h7 p hp)⟩
  · exact .inr (h.mono hk)
theorem HeldN.has {W : AW} {v : Value} {n : Nat} {l : List Value} {el : TypeId} {sz : Nat} {K : Nat → Prop} (h : HeldN W v n l el sz K) (hn : 0 < n) :
    ∃ b c, v = .slice (some ⟨b, 0, none⟩) n c ∧ K b ∧ b < W.next ∧ ∀ i u, l[i]? = some u → W.Has b i u := by
  rcases h with ⟨h0, b, c, kin, h1, h2, h3, h4, h5, h6, h7⟩ | h
  · refine ⟨b, _, h1, h3, h4, fun i u hu => ⟨h4, ?_⟩⟩
    have hi : i < l.length := (List.getElem?_eq_some_iff.1 hu).1
    simp only [AW.cell, h5, blt_dec, hi, decide_true]
    rw [h6 i hi]; exact hu
  · obtain ⟨b, h1, h2, h3, _, h4⟩ := h.has hn
    exact ⟨b, _, h1, h2, h3, h4⟩
theorem append_heldN {T : Tabs} {W : AW} {t el : TypeId} {i : TypeInfo} {z : Value} {sz : Nat} (hsz : 0 < sz) (ht : T.und.get t = some (.slice el)) (hi : T.info.get el = some i) (hs : i.size = sz) (hz : i.zero = some z) (hz1 : (acells z).length = sz)
    {v : Value} {n : Nat} {l : List Value} {K : Nat → Prop} (h : HeldN W v n l el sz K) {bx c : Nat} {u : List Value} (hul : u.length = sz) (hx : W.cellsAt bx 0 sz = some u) (hu : oneCells u = true)
    (hby : (2 * (n + 1)) * i.bytes ≤ 281474976710656) (hsm : n + 1 ≤ 4611686018427387904) :
    ∃ v' W', aAppend T W [t, t] [v, .slice (some ⟨bx, 0, none⟩) 1 c] = some (v', W') ∧ W'.next = W.next + 1 ∧ HeldN W' v' (n + 1) (l ++ u) el sz (fun b => K b ∨ b = W.next) ∧ Only K W W' := by
  rcases h with ⟨h0, b, cc, kin, rfl, h2, h3, h4, h5, h6, h7⟩ | h
  · have hhead : aAppend T W [t, t] [.slice (some ⟨b, 0, none⟩) n (2 * n), .slice (some ⟨bx, 0, none⟩) 1 c] = aApp1 W el sz i.bytes 1 u (.slice (some ⟨b, 0, none⟩) n (2 * n)) := by
      simp only [aAppend, ht, hi, hs, hz, notInt, aSrc, Nat.one_mul, hx, hz1, beq_dec, hul, hu, decide_true]
      first | done | rfl
    have hold : W.cellsAt b 0 (n * sz) = some l := by
      simp only [AW.cellsAt, h5, ble_dec]
      rw [decide_eq_true (by omega)]
      exact take_get cc _ 0 l h0 (fun j hj => by rw [Nat.zero_add]; exact h6 j (by omega))
    have e1 : (2 * n) % 2 = 0 := by omega
    have e2 : (2 * n) / 2 = n := by omega
    have e3 : ¬ (n + 1 ≤ n) := by omega
    have happ : aApp1 W el sz i.bytes 1 u (.slice (some ⟨b, 0, none⟩) n (2 * n)) = some (.slice (some ⟨W.next, 0, none⟩) (n + 1) (2 * sz + 1), W.newCells el (l ++ u)) := by
      simp only [aApp1, ble_dec, hby, hsm, decide_true, beq_dec, e1, e2, e3, decide_false, hold]
    rw [hhead]
    refine ⟨_, _, happ, rfl, .inr ⟨by rw [List.length_append, h0, hul, Nat.add_mul, Nat.one_mul], .inr ⟨W.next, Tr.nil.lay 0 (l ++ u), [], rfl, by omega, .inr rfl, Nat.lt_succ_self _, by rw [newCells_get, if_pos rfl], fun j hj => ?_, by simp⟩⟩, .newCells _ _ _⟩
    rw [Tr.get_lay, if_pos (by omega)]; simp
  · obtain ⟨v', W', a1, a2, a3, a4⟩ := append_growsN hsz ht hi hs hz hz1 h hul hx hu hby hsm
    exact ⟨v', W', a1, a2, .inr a3, a4⟩
end Go.Eng
