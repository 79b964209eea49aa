import Derived.Test.YtdpnplanohgecaaDoorEngRe
set_option linter.unusedSimpArgs false
set_option linter.unusedVariables false
set_option linter.unusedSectionVars false
namespace Go.Eng

/-! ### a slice that the call makes itself, and appends to -/
theorem growKin_other (t : Tr ABlk) (nb next : Nat) : ∀ (l : List (Nat × Bool)) (x : Nat), (∀ f, (x, f) ∉ l) → (growKin t nb next l).1.get x = t.get x
  | [], _, _ => rfl
  | (m, f) :: l, x, h => by
    have hx : x ≠ m := fun e => h f (by rw [e]; exact List.mem_cons_self ..)
    have ih := growKin_other t nb next l x (fun g hg => h g (List.mem_cons_of_mem _ hg))
    simp only [growKin]
    split
    · split
      · simp only [Tr.get_set, if_neg hx]; exact ih
      · simp only [Tr.get_del, if_neg hx]; exact ih
    · simp only [Tr.get_del, if_neg hx]; exact ih

/-- v is a slice of the cells l, in a row of its own with room behind it that is not known; K has the names that may share the row -/
def Grows (W : AW) (v : Value) (l : List Value) (el : TypeId) (K : Nat → Prop) : Prop :=
  (l = [] ∧ v = .slice none 0 0) ∨
  ∃ b c kin, v = .slice (some ⟨b, 0, none⟩) l.length 3 ∧ l ≠ [] ∧ K b ∧ b < W.next ∧ W.blocks.get b = some ⟨.cells c l.length el, kin⟩ ∧ (∀ i, i < l.length → c.get i = l[i]?) ∧ ∀ p ∈ kin, K p.1
theorem Grows.only {W W' : AW} {v : Value} {l : List Value} {el : TypeId} {K K' : Nat → Prop} (h : Grows W v l el K) (ho : Only K' W W') (hd : ∀ b, b < W.next → K b → ¬ K' b) : Grows W' v l el K := by
  rcases h with h | ⟨b, c, kin, h1, h2, h3, h4, h5, h6, h7⟩
  · exact .inl h
  · exact .inr ⟨b, c, kin, h1, h2, h3, Nat.lt_of_lt_of_le h4 ho.1, by rw [ho.2 b h4 (hd b h4 h3)]; exact h5, h6, h7⟩
theorem Grows.mono {W : AW} {v : Value} {l : List Value} {el : TypeId} {K K' : Nat → Prop} (h : Grows W v l el K) (hk : ∀ b, K b → K' b) : Grows W v l el K' := by
  rcases h with h | ⟨b, c, kin, h1, h2, h3, h4, h5, h6, h7⟩
  · exact .inl h
  · exact .inr ⟨b, c, kin, h1, h2, hk b h3, h4, h5, h6, fun p hp => hk _ (h7 p hp)⟩
theorem Grows.has {W : AW} {v : Value} {l : List Value} {el : TypeId} {K : Nat → Prop} (h : Grows W v l el K) (hl : l ≠ []) :
    ∃ b, v = .slice (some ⟨b, 0, none⟩) l.length 3 ∧ K b ∧ ∀ i u, l[i]? = some u → W.Has b i u := by
  rcases h with ⟨h, _⟩ | ⟨b, c, kin, h1, h2, h3, h4, h5, h6, h7⟩
  · exact absurd h hl
  · refine ⟨b, h1, h3, fun i u hu => ⟨h4, ?_⟩⟩
    have hi : i < l.length := (List.getElem?_eq_some_iff.1 hu).1
    simp only [AW.cell, h5, blt_dec, hi, decide_true]
    rw [h6 i hi]; exact hu

theorem append_grows {T : Tabs} {W : AW} {t el : TypeId} {i : TypeInfo} {z : Value} (ht : T.und.get t = some (.slice el)) (hi : T.info.get el = some i) (hs : i.size = 1) (hz : i.zero = some z) (hz1 : (acells z).length = 1)
    {v : Value} {l : List Value} {K : Nat → Prop} (h : Grows W v l el K) {bx c : Nat} {u : Value} (hx : W.cellsAt bx 0 1 = some [u]) (hu : u.oneCell' = true)
    (hby : (2 * (l.length + 1)) * i.bytes ≤ 281474976710656) (hsm : l.length + 1 ≤ 4611686018427387904) :
    ∃ v' W', aAppend T W [t, t] [v, .slice (some ⟨bx, 0, none⟩) 1 c] = some (v', W') ∧ W'.next = W.next + 1 ∧ Grows W' v' (l ++ [u]) el (fun b => K b ∨ b = W.next) ∧ Only K W W' := by
  have hhead : aAppend T W [t, t] [v, .slice (some ⟨bx, 0, none⟩) 1 c] = aApp1 W el 1 i.bytes 1 [u] v := by
    simp only [aAppend, ht, hi, hs, hz, notInt, aSrc, Nat.mul_one, hx, hz1, beq_dec, List.length_cons, List.length_nil, oneCells, allB, hu]
    rfl
  rw [hhead]
  rcases h with ⟨rfl, rfl⟩ | ⟨b, cc, kin, rfl, h2, h3, h4, h5, h6, h7⟩
  · simp only [List.length_nil, Nat.zero_add, Nat.mul_one] at hby
    refine ⟨.slice (some ⟨W.next, 0, none⟩) 1 3, W.newCells el [u], ?_, rfl, .inr ⟨W.next, Tr.nil.lay 0 [u], [], rfl, by simp, .inr rfl, Nat.lt_succ_self _, by rw [newCells_get, if_pos rfl]; rfl, ?_, by simp⟩, .newCells _ _ _⟩
    · simp only [aApp1, ble_dec]
      rw [decide_eq_true (by omega : (2 * (0 + 1)) * i.bytes ≤ 281474976710656), decide_eq_true (by omega)]
      rfl
    · intro j hj
      rw [Tr.get_lay]
      simp only [List.nil_append, List.length_cons, List.length_nil] at hj ⊢
      rw [if_pos (by omega)]; simp
  · have hold : W.cellsAt b 0 l.length = some l := by
      simp only [AW.cellsAt, h5, ble_dec]
      rw [decide_eq_true (by omega)]
      exact take_get cc l.length 0 l rfl (fun j hj => by rw [Nat.zero_add]; exact h6 j hj)
    have happ : aApp1 W el 1 i.bytes 1 [u] (.slice (some ⟨b, 0, none⟩) l.length 3) = some (.slice (some ⟨W.next, 0, none⟩) (l.length + 1) 3, aGrow W b W.next cc l.length el kin 0 (l ++ [u])) := by
      simp only [aApp1, ble_dec, hby, hsm, decide_true, beq_dec, h5, blt_dec, Nat.mul_one, Nat.zero_add, hold]
      simp
      rw [decide_eq_false (by omega)]
    refine ⟨_, _, happ, aGrow_next .., .inr ?_, ?_, ?_⟩
    · simp only [aGrow]
      refine ⟨W.next, Tr.nil.lay 0 (l ++ [u]), (b, true) :: (growKin W.blocks l.length W.next kin).2, by simp, by simp, .inr rfl, Nat.lt_succ_self _, by simp [Tr.get_set], fun j hj => ?_, fun p hp => ?_⟩
      · rw [Tr.get_lay, if_pos (by omega)]; simp
      · rcases List.mem_cons.1 hp with rfl | hp
        · exact .inl h3
        · exact .inl (h7 p ((growKin_spec W.blocks l.length W.next kin).sub p hp).1)
    · rw [aGrow_next]; exact Nat.le_succ _
    · intro x hx hk
      simp only [aGrow, Tr.get_set]
      rw [if_neg (by omega), if_neg (fun e : x = b => hk (by rw [e]; exact h3))]
      exact growKin_other _ _ _ _ _ (fun f hf => hk (h7 _ hf))

/-- .. kept in a variable of the call's own: x.f = append(x.f, u) -/
theorem push_own {T : Tabs} {W : AW} {t el : TypeId} {i it : TypeInfo} {z : Value} (ht : T.und.get t = some (.slice el)) (hi : T.info.get el = some i) (hs : i.size = 1) (hz : i.zero = some z) (hz1 : (acells z).length = 1) (hit : T.info.get t = some it) (hits : it.size = 1)
    {v : Value} {l : List Value} {K : Nat → Prop} (h : Grows W v l el K) {p o n : Nat} {elp : TypeId} {c8 : Tr Value} (hp : W.blocks.get p = some ⟨.cells c8 n elp, []⟩) (hpn : p < W.next) (hpK : ¬ K p) (hnK : ¬ K W.next) (ho : o + 1 ≤ n) {u : Value} (hu : u.oneCell' = true)
    (hby : (2 * (l.length + 1)) * i.bytes ≤ 281474976710656) (hsm : l.length + 1 ≤ 4611686018427387904) :
    ∃ v' W4 W5, aAppend T (W.newCells el [u]) [t, t] [v, .slice (some ⟨W.next, 0, none⟩) 1 2] = some (v', W4) ∧ aStoreVar T W4 t p o v' = some W5 ∧ W5.next = W.next + 2 ∧ W5.blocks.get p = some ⟨.cells (c8.set o v') n elp, []⟩ ∧
      Grows W5 v' (l ++ [u]) el (fun b => K b ∨ b = W.next + 1) ∧ Only (fun b => K b ∨ b = p) W W5 := by
  have h1 : Grows (W.newCells el [u]) v l el K := h.only (K' := fun _ => False) (.newCells _ _ _) (fun _ _ _ x => x)
  have hx : (W.newCells el [u]).cellsAt W.next 0 1 = some [u] := by
    simp only [AW.cellsAt, newCells_get, if_pos, ble_dec]
    rw [decide_eq_true (by simp)]
    exact take_get _ 1 0 [u] rfl (fun j hj => by rw [Tr.get_lay, if_pos (by simp; omega)]; simp)
  obtain ⟨v', W4, a1, a2, a3, a4⟩ := append_grows ht hi hs hz hz1 h1 hx hu hby hsm (c := 2)
  rw [newCells_next] at a2
  have hp4 : W4.blocks.get p = some ⟨.cells c8 n elp, []⟩ := by
    rw [a4.2 p (by rw [newCells_next]; omega) hpK, newCells_get, if_neg (by omega)]; exact hp
  obtain ⟨bv, hv', hkv, _⟩ := a3.has (by simp)
  have hac : acells v' = [v'] := by rw [hv']; rfl
  obtain ⟨W5, b1, b2, b3, b4⟩ := storeVar_own (T := T) (v := v') (o := o) hit (by rw [hac, hits]; rfl) hp4 (by rw [hac]; exact ho) (by rw [hac, hv']; rfl)
  have hO : Only (fun b => b = p) W4 W5 := ⟨by rw [b2]; exact Nat.le_refl _, fun b _ hb => b3 b hb⟩
  refine ⟨v', W4, W5, a1, b1, by omega, by rw [b4, hac]; rfl, ?_, ?_⟩
  · refine (a3.only hO ?_).mono (fun b hb => hb.elim .inl (fun e => .inr (by rw [newCells_next] at e; exact e)))
    intro b hb hk e
    rcases hk with hk | hk
    · exact hpK (e ▸ hk)
    · rw [newCells_next] at hk; omega
  · refine ⟨by omega, fun b hb hk => ?_⟩
    have hb1 : b ≠ p := fun e => hk (.inr e)
    have hb2 : ¬ K b := fun e => hk (.inl e)
    rw [b3 b hb1, a4.2 b (by rw [newCells_next]; omega) hb2, newCells_get, if_neg (by omega)]
end Go.Eng
