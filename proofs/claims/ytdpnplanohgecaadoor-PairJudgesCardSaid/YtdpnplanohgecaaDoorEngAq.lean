import Derived.Test.YtdpnplanohgecaaDoorEngRf
set_option linter.unusedSimpArgs false
set_option linter.unusedVariables false
set_option linter.unusedSectionVars false
namespace Go.Eng

/-! ### as EngAp, where an element has several cells -/
def GrowsN (W : AW) (v : Value) (n : Nat) (l : List Value) (el : TypeId) (sz : Nat) (K : Nat → Prop) : Prop :=
  l.length = n * sz ∧ ((n = 0 ∧ v = .slice none 0 0) ∨
  ∃ b c kin, v = .slice (some ⟨b, 0, none⟩) n (2 * sz + 1) ∧ 0 < n ∧ K b ∧ b < W.next ∧ W.blocks.get b = some ⟨.cells c l.length el, kin⟩ ∧ (∀ i, i < l.length → c.get i = l[i]?) ∧ ∀ p ∈ kin, K p.1)
theorem GrowsN.only {W W' : AW} {v : Value} {n : Nat} {l : List Value} {el : TypeId} {sz : Nat} {K K' : Nat → Prop} (h : GrowsN W v n l el sz K) (ho : Only K' W W') (hd : ∀ b, b < W.next → K b → ¬ K' b) : GrowsN W' v n l el sz K := by
  obtain ⟨h0, h | ⟨b, c, kin, h1, h2, h3, h4, h5, h6, h7⟩⟩ := h
  · exact ⟨h0, .inl h⟩
  · exact ⟨h0, .inr ⟨b, c, kin, h1, h2, h3, Nat.lt_of_lt_of_le h4 ho.1, by rw [ho.2 b h4 (hd b h4 h3)]; exact h5, h6, h7⟩⟩
theorem GrowsN.mono {W : AW} {v : Value} {n : Nat} {l : List Value} {el : TypeId} {sz : Nat} {K K' : Nat → Prop} (h : GrowsN W v n l el sz K) (hk : ∀ b, K b → K' b) : GrowsN W v n l el sz K' := by
  obtain ⟨h0, h | ⟨b, c, kin, h1, h2, h3, h4, h5, h6, h7⟩⟩ := h
  · exact ⟨h0, .inl h⟩
  · exact ⟨h0, .inr ⟨b, c, kin, h1, h2, hk b h3, h4, h5, h6, fun p hp => hk _ (h7 p hp)⟩⟩
theorem GrowsN.nil (W : AW) (el : TypeId) (sz : Nat) (K : Nat → Prop) : GrowsN W (.slice none 0 0) 0 [] el sz K := ⟨by simp, .inl ⟨rfl, rfl⟩⟩
theorem GrowsN.has {W : AW} {v : Value} {n : Nat} {l : List Value} {el : TypeId} {sz : Nat} {K : Nat → Prop} (h : GrowsN W v n l el sz K) (hn : 0 < n) :
    ∃ b, v = .slice (some ⟨b, 0, none⟩) n (2 * sz + 1) ∧ K b ∧ b < W.next ∧ (∃ k, W.blocks.get b = some k) ∧ ∀ i u, l[i]? = some u → W.Has b i u := by
  obtain ⟨h0, ⟨h, _⟩ | ⟨b, c, kin, h1, h2, h3, h4, h5, h6, h7⟩⟩ := h
  · omega
  · refine ⟨b, h1, h3, h4, ⟨_, h5⟩, fun i u hu => ⟨h4, ?_⟩⟩
    have hi : i < l.length := (List.getElem?_eq_some_iff.1 hu).1
    simp only [AW.cell, h5, blt_dec, hi, decide_true]
    rw [h6 i hi]; exact hu
theorem GrowsN.len {W : AW} {v : Value} {n : Nat} {l : List Value} {el : TypeId} {sz : Nat} {K : Nat → Prop} (h : GrowsN W v n l el sz K) : ∃ a c, v = .slice a n c := by
  obtain ⟨_, ⟨rfl, rfl⟩ | ⟨b, c, kin, rfl, _⟩⟩ := h
  · exact ⟨_, _, rfl⟩
  · exact ⟨_, _, rfl⟩

theorem append_growsN {T : Tabs} {W : AW} {t el : TypeId} {i : TypeInfo} {z : Value} {sz : Nat} (hsz : 0 < sz) (ht : T.und.get t = some (.slice el)) (hi : T.info.get el = some i) (hs : i.size = sz) (hz : i.zero = some z) (hz1 : (acells z).length = sz)
    {v : Value} {n : Nat} {l : List Value} {K : Nat → Prop} (h : GrowsN W v n l el sz K) {bx c : Nat} {u : List Value} (hul : u.length = sz) (hx : W.cellsAt bx 0 sz = some u) (hu : oneCells u = true)
    (hby : (2 * (n + 1)) * i.bytes ≤ 281474976710656) (hsm : n + 1 ≤ 4611686018427387904) :
    ∃ v' W', aAppend T W [t, t] [v, .slice (some ⟨bx, 0, none⟩) 1 c] = some (v', W') ∧ W'.next = W.next + 1 ∧ GrowsN W' v' (n + 1) (l ++ u) el sz (fun b => K b ∨ b = W.next) ∧ Only K W W' := by
  have hhead : aAppend T W [t, t] [v, .slice (some ⟨bx, 0, none⟩) 1 c] = aApp1 W el sz i.bytes 1 u v := by
    simp only [aAppend, ht, hi, hs, hz, notInt, aSrc, Nat.one_mul, hx, hz1, beq_dec, hul, hu, decide_true]
    first | done | rfl
  rw [hhead]
  obtain ⟨h0, ⟨rfl, rfl⟩ | ⟨b, cc, kin, rfl, h2, h3, h4, h5, h6, h7⟩⟩ := h
  · have hl : l = [] := List.length_eq_zero_iff.1 (by omega)
    subst hl
    refine ⟨.slice (some ⟨W.next, 0, none⟩) 1 (2 * sz + 1), W.newCells el u, ?_, rfl, ⟨by simp [hul], .inr ⟨W.next, Tr.nil.lay 0 u, [], rfl, by omega, .inr rfl, Nat.lt_succ_self _, by rw [newCells_get, if_pos rfl]; rfl, ?_, by simp⟩⟩, .newCells _ _ _⟩
    · have hby' : (2 * (0 + 1)) * i.bytes ≤ 281474976710656 := hby
      simp only [aApp1, ble_dec]
      rw [decide_eq_true hby', decide_eq_true (by omega)]
      rfl
    · intro j hj
      rw [Tr.get_lay]
      simp only [List.nil_append] at hj ⊢
      rw [if_pos (by omega)]; simp
  · have hold : W.cellsAt b 0 (n * sz) = some l := by
      simp only [AW.cellsAt, h5, ble_dec]
      rw [decide_eq_true (by omega)]
      exact take_get cc _ 0 l h0 (fun j hj => by rw [Nat.zero_add]; exact h6 j (by omega))
    have hnb : ¬ ((n + 1) * sz ≤ n * sz) := by
      have : (n + 1) * sz = n * sz + sz := by rw [Nat.add_mul, Nat.one_mul]
      omega
    have happ : aApp1 W el sz i.bytes 1 u (.slice (some ⟨b, 0, none⟩) n (2 * sz + 1)) = some (.slice (some ⟨W.next, 0, none⟩) (n + 1) (2 * sz + 1), aGrow W b W.next cc l.length el kin 0 (l ++ u)) := by
      have e1 : (2 * sz + 1) % 2 = 1 := by omega
      have e2 : (2 * sz + 1) / 2 = sz := by omega
      simp only [aApp1, ble_dec, hby, hsm, decide_true, beq_dec, h5, blt_dec, e1, e2, hsz, Nat.zero_add, hold, h0]
      rw [decide_eq_false hnb]
      rfl
    refine ⟨_, _, happ, aGrow_next .., ⟨by rw [List.length_append, h0, hul, Nat.add_mul, Nat.one_mul], .inr ?_⟩, ?_, ?_⟩
    · simp only [aGrow]
      refine ⟨W.next, Tr.nil.lay 0 (l ++ u), (b, true) :: (growKin W.blocks l.length W.next kin).2, rfl, by omega, .inr rfl, Nat.lt_succ_self _, by simp [Tr.get_set], fun j hj => ?_, fun p hp => ?_⟩
      · rw [Tr.get_lay, if_pos (by omega)]; simp
      · rcases List.mem_cons.1 hp with rfl | hp
        · exact .inl h3
        · exact .inl (h7 p ((growKin_spec W.blocks l.length W.next kin).sub p hp).1)
    · rw [aGrow_next]; exact Nat.le_succ _
    · intro x hx hk
      simp only [aGrow, Tr.get_set]
      rw [if_neg (by omega), if_neg (fun e : x = b => hk (by rw [e]; exact h3))]
      exact growKin_other _ _ _ _ _ (fun f hf => hk (h7 _ hf))

/-- x.f = append(x.f, u), the slice in a variable of the call's own -/
theorem push_ownN {T : Tabs} {W : AW} {t el : TypeId} {i it : TypeInfo} {z : Value} {sz : Nat} (hsz : 0 < sz) (ht : T.und.get t = some (.slice el)) (hi : T.info.get el = some i) (hs : i.size = sz) (hz : i.zero = some z) (hz1 : (acells z).length = sz) (hit : T.info.get t = some it) (hits : it.size = 1)
    {v : Value} {m : Nat} {l : List Value} {K : Nat → Prop} (h : GrowsN W v m l el sz K) {p o n : Nat} {elp : TypeId} {c8 : Tr Value} (hp : W.blocks.get p = some ⟨.cells c8 n elp, []⟩) (hpn : p < W.next) (hpK : ¬ K p) (ho : o + 1 ≤ n) {u : List Value} (hul : u.length = sz) (hu : oneCells u = true)
    (hby : (2 * (m + 1)) * i.bytes ≤ 281474976710656) (hsm : m + 1 ≤ 4611686018427387904) :
    ∃ v' W4 W5, aAppend T (W.newCells el u) [t, t] [v, .slice (some ⟨W.next, 0, none⟩) 1 (2 * 1)] = some (v', W4) ∧ aStoreVar T W4 t p o v' = some W5 ∧ W4.next = W.next + 2 ∧ W5.next = W.next + 2 ∧ W5.blocks.get p = some ⟨.cells (c8.set o v') n elp, []⟩ ∧
      GrowsN W5 v' (m + 1) (l ++ u) el sz (fun b => K b ∨ b = W.next + 1) ∧ Only K W W4 ∧ Only (fun b => K b ∨ b = p) W W5 := by
  have h1 : GrowsN (W.newCells el u) v m l el sz K := h.only (K' := fun _ => False) (.newCells _ _ _) (fun _ _ _ x => x)
  have hx : (W.newCells el u).cellsAt W.next 0 sz = some u := by
    simp only [AW.cellsAt, newCells_get, if_pos, ble_dec]
    rw [decide_eq_true (by omega)]
    exact take_get _ sz 0 u hul (fun j hj => by rw [Tr.get_lay, if_pos (by omega)]; simp)
  obtain ⟨v', W4, a1, a2, a3, a4⟩ := append_growsN hsz ht hi hs hz hz1 h1 hul hx hu hby hsm (c := 2 * 1)
  rw [newCells_next] at a2
  have hp4 : W4.blocks.get p = some ⟨.cells c8 n elp, []⟩ := by
    rw [a4.2 p (by rw [newCells_next]; omega) hpK, newCells_get, if_neg (by omega)]; exact hp
  obtain ⟨bv, hv', hkv, _⟩ := a3.has (by omega)
  have hac : acells v' = [v'] := by rw [hv']; rfl
  obtain ⟨W5, b1, b2, b3, b4⟩ := storeVar_own (T := T) (v := v') (o := o) hit (by rw [hac, hits]; rfl) hp4 (by rw [hac]; exact ho) (by rw [hac, hv']; rfl)
  have hO : Only (fun b => b = p) W4 W5 := ⟨by rw [b2]; exact Nat.le_refl _, fun b _ hb => b3 b hb⟩
  have hO4 : Only K W W4 := ⟨by omega, fun b hb hk => by rw [a4.2 b (by rw [newCells_next]; omega) hk, newCells_get, if_neg (by omega)]⟩
  refine ⟨v', W4, W5, a1, b1, by omega, by omega, by rw [b4, hac]; rfl, ?_, hO4, ?_⟩
  · refine (a3.only hO ?_).mono (fun b hb => hb.elim .inl (fun e => .inr (by rw [newCells_next] at e; exact e)))
    intro b hb hk e
    rcases hk with hk | hk
    · exact hpK (e ▸ hk)
    · rw [newCells_next] at hk; omega
  · refine ⟨by omega, fun b hb hk => ?_⟩
    rw [b3 b (fun e => hk (.inr e)), hO4.2 b hb (fun e => hk (.inl e))]

/-! ### maps: the keys that are there, by number -/
theorem aFind_none {T : Tabs} {t : TypeId} {k : Value} : ∀ {es : List (Value × Value × Nat)} {i : Nat}, (∀ e ∈ es, keyOk T t e.1 = true) → (∀ e ∈ es, keyEq k e.1 = false) → aFind T t k es i = some none
  | [], _, _, _ => rfl
  | (k', v, c) :: es, i, h1, h2 => by
    have a1 : keyOk T t k' = true := h1 _ (List.mem_cons_self ..)
    have a2 : keyEq k k' = false := h2 _ (List.mem_cons_self ..)
    simp only [aFind, a1, a2]
    exact aFind_none (fun e he => h1 e (List.mem_cons_of_mem _ he)) (fun e he => h2 e (List.mem_cons_of_mem _ he))
theorem aFind_some {T : Tabs} {t : TypeId} {k : Value} : ∀ {es : List (Value × Value × Nat)} {i : Nat}, (∀ e ∈ es, keyOk T t e.1 = true) → (∃ e ∈ es, keyEq k e.1 = true) → ∃ j e, aFind T t k es i = some (some (i + j, e.2.1)) ∧ es[j]? = some e ∧ keyEq k e.1 = true
  | [], _, _, h => by obtain ⟨e, he, _⟩ := h; cases he
  | (k', v, c) :: es, i, h1, h2 => by
    have a1 : keyOk T t k' = true := h1 _ (List.mem_cons_self ..)
    cases a2 : keyEq k k' with
    | true => exact ⟨0, (k', v, c), by simp only [aFind, a1, a2]; rfl, rfl, a2⟩
    | false =>
      have h3 : ∃ e ∈ es, keyEq k e.1 = true := by
        obtain ⟨e, he, hk⟩ := h2
        rcases List.mem_cons.1 he with rfl | he
        · rw [a2] at hk; cases hk
        · exact ⟨e, he, hk⟩
      obtain ⟨j, e, g1, g2, g3⟩ := aFind_some (i := i + 1) (fun e he => h1 e (List.mem_cons_of_mem _ he)) h3
      refine ⟨j + 1, e, ?_, g2, g3⟩
      simp only [aFind, a1, a2]
      rw [g1, show i + (j + 1) = i + 1 + j from by omega]
end Go.Eng
