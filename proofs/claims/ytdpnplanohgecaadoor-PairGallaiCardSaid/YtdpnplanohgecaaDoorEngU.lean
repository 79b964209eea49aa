import Derived.Test.YtdpnplanohgecaaDoorEngT
set_option linter.unusedSimpArgs false
set_option linter.unusedVariables false
set_option linter.unusedSectionVars false
namespace Go.Eng
theorem dWr_spec : ∀ (l : List Oper) (i : Nat) (wr wr' : Tr Nat), dWr l i wr = some wr' ->
  (∀ d q, wr'.get d = some q -> wr.get d = some q \/ ∃ o, i <= q /\ l[q - i]? = some o /\ o.dst = some d) /\ (∀ d q, wr.get d = some q -> wr'.get d = some q) /\ (∀ (j : Nat) (o : Oper) d, l[j]? = some o -> o.dst = some d -> wr'.get d = some (i + j))
 | [], i, wr, wr', h => by
  cases h
  exact ⟨fun d q h => .inl h, fun d q h => h, fun j o d h => by simp at h⟩
 | o :: l, i, wr, wr', h => by
  have shift : ∀ (wr₁ : Tr Nat), dWr l (i + 1) wr₁ = some wr' -> (∀ d q, wr'.get d = some q -> wr₁.get d = some q \/ ∃ o', i <= q /\ (o :: l)[q - i]? = some o' /\ o'.dst = some d) := by
   intro wr₁ h₁ d q hq
   rcases (dWr_spec l (i + 1) wr₁ wr' h₁).1 d q hq with h2 | ⟨o', h2, h3, h4⟩
   ·exact .inl h2
   ·refine .inr ⟨o', by omega, ?_, h4⟩
    rw [show q - i = (q - (i + 1)) + 1 from by omega]; exact h3
  simp only [dWr] at h
  split at h
  ·rename_i hd
   obtain ⟨g1, g2, g3⟩ := dWr_spec l (i + 1) wr wr' h
   refine ⟨shift wr h, g2, fun j o' d hj hd' => ?_⟩
   cases j with
   | zero => simp at hj; subst hj; rw [hd] at hd'; cases hd'
   | succ j => rw [show i + (j + 1) = i + 1 + j from by omega]; exact g3 j o' d (by simpa using hj) hd'
  ·rename_i d₀ hd
   split at h
   ·cases h
   ·rename_i hnone
    obtain ⟨g1, g2, g3⟩ := dWr_spec l (i + 1) _ wr' h
    refine ⟨fun d q hq => ?_, fun d q hq => g2 d q ?_, fun j o' d hj hd' => ?_⟩
    ·rcases shift _ h d q hq with h2 | h2
     ·rw [Tr.get_set] at h2
      split at h2
      ·rename_i e
       cases h2; subst e
       exact .inr ⟨o, Nat.le_refl _, by simp, hd⟩
      ·exact .inl h2
     ·exact .inr h2
    ·rw [Tr.get_set]
     split
     ·rename_i e; subst e; rw [hnone] at hq; cases hq
     ·exact hq
    ·cases j with
     | zero => simp at hj; subst hj; rw [hd] at hd'; cases hd'; exact g2 _ _ (by rw [Tr.get_set]; simp)
     | succ j => rw [show i + (j + 1) = i + 1 + j from by omega]; exact g3 j o' d (by simpa using hj) hd'
theorem dBits_spec (bits : Tr Nat) : ∀ (l : List Edge) (m : Nat), dBits bits l = some m ->
  (∀ e ∈ l, bindsAny e.ground = true -> ∃ k, bits.get e.on = some k) /\ (∀ q, Nat.testBit m q = true -> ∃ e ∈ l, bindsAny e.ground = true /\ (q = e.on \/ ∃ k, bits.get e.on = some k /\ Nat.testBit k q = true))
 | [], m, h => by
  cases h
  exact ⟨fun e he => (by cases he), fun q hq => by simp at hq⟩
 | e :: l, m, h => by
  simp only [dBits] at h
  split at h
  ·cases h
  ·rename_i m₀ hm
   obtain ⟨g1, g2⟩ := dBits_spec bits l m₀ hm
   split at h
   ·rename_i hb
    cases h
    refine ⟨fun e' he' hb' => ?_, fun q hq => ?_⟩
    ·cases he' with
     | head => rw [hb] at hb'; cases hb'
     | tail _ he' => exact g1 e' he' hb'
    ·obtain ⟨e', he', x⟩ := g2 q hq; exact ⟨e', List.mem_cons_of_mem _ he', x⟩
   ·rename_i hb
    split at h
    ·rename_i k hk
     cases h
     refine ⟨fun e' he' hb' => ?_, fun q hq => ?_⟩
     ·cases he' with
      | head => exact ⟨k, hk⟩
      | tail _ he' => exact g1 e' he' hb'
     ·have hq' : Nat.testBit ((m₀ ||| k) ||| 2 ^ e.on) q = true := hq
      rw [Nat.testBit_or, Nat.testBit_or, Nat.testBit_two_pow] at hq'
      simp only [Bool.or_eq_true, decide_eq_true_eq] at hq'
      rcases hq' with (hq' | hq') | hq'
      ·obtain ⟨e', he', x⟩ := g2 q hq'; exact ⟨e', List.mem_cons_of_mem _ he', x⟩
      ·exact ⟨e, List.mem_cons_self .., hb, .inr ⟨k, hk, hq'⟩⟩
      ·exact ⟨e, List.mem_cons_self .., hb, .inl hq'.symm⟩
    ·cases h
def BitsOk (bits : Tr Nat) (o : Oper) (i m : Nat) : Prop :=
 (∀ e ∈ o.after.toList, bindsAny e.ground = true -> e.on < i) /\ (∀ q, Nat.testBit m q = true -> ∃ e ∈ o.after.toList, bindsAny e.ground = true /\ (q = e.on \/ ∃ k, bits.get e.on = some k /\ Nat.testBit k q = true))
theorem dBitsAll_spec : ∀ (l : List Oper) (i : Nat) (bits bits' : Tr Nat), dBitsAll l i bits = some bits' -> (∀ j k, bits.get j = some k -> j < i) ->
  (∀ j k, bits.get j = some k -> bits'.get j = some k) /\ (∀ j k, bits'.get j = some k -> j < i + l.length) /\ ∀ (j : Nat) (o : Oper), l[j]? = some o -> ∃ m, bits'.get (i + j) = some m /\ BitsOk bits' o (i + j) m
 | [], i, bits, bits', h, hlt => by
  cases h
  exact ⟨fun j k h => h, fun j k h => by simpa using hlt j k h, fun j o h => by simp at h⟩
 | o :: l, i, bits, bits', h, hlt => by
  simp only [dBitsAll] at h
  split at h
  ·rename_i m hm
   obtain ⟨b1, b2⟩ := dBits_spec bits _ _ hm
   obtain ⟨g1, g2, g3⟩ := dBitsAll_spec l (i + 1) _ bits' h (fun j k hj => by
    rw [Tr.get_set] at hj
    split at hj
    ·omega
    ·have := hlt j k hj; omega)
   have keep : ∀ j k, bits.get j = some k -> bits'.get j = some k := fun j k hj => g1 j k (by
    rw [Tr.get_set, if_neg (by have := hlt j k hj; omega)]; exact hj)
   refine ⟨keep, fun j k hj => by have := g2 j k hj; simp only [List.length_cons]; omega, fun j o' hj => ?_⟩
   cases j with
   | zero =>
    simp at hj; subst hj
    refine ⟨m, g1 _ _ (by rw [Tr.get_set]; simp), fun e he hb => ?_, fun q hq => ?_⟩
    ·obtain ⟨k, hk⟩ := b1 e he hb; exact hlt _ _ hk
    ·obtain ⟨e, he, hb, x⟩ := b2 q hq
     refine ⟨e, he, hb, x.imp id fun ⟨k, hk, y⟩ => ⟨k, keep _ _ hk, y⟩⟩
   | succ j => rw [show i + (j + 1) = i + 1 + j from by omega]; exact g3 j o' (by simpa using hj)
  ·cases h
theorem dChain_spec (bits : Tr Nat) : ∀ (hs : List Nat), dChain bits hs = true -> ∀ (r a b : Nat), hs[r]? = some a -> hs[r + 1]? = some b -> ∃ m, bits.get b = some m /\ Nat.testBit m a = true
 | [], _, r, a, b, h1, _ => by simp at h1
 | [x], _, r, a, b, _, h2 => by simp at h2
 | x :: y :: l, h, r, a, b, h1, h2 => by
  simp only [dChain] at h
  split at h
  ·rename_i m hm
   split at h
   ·rename_i hb
    cases r with
    | zero => simp at h1 h2; subst h1; subst h2; exact ⟨m, hm, hb⟩
    | succ r => exact dChain_spec bits (y :: l) h r a b (by simpa using h1) (by simpa using h2)
   ·cases h
  ·cases h
theorem dMay_spec (bits : Tr Nat) (i m j : Nat) : ∀ (hs : List Nat) (q : Nat), dMay bits i m j q hs = false ->
  ∃ (r h mh : Nat), hs[r]? = some h /\ bits.get h = some mh /\ ((Nat.testBit m h = true /\ ¬ q + r < j) \/ (q + r < j /\ Nat.testBit mh i = true))
 | [], q, h => by simp [dMay] at h
 | x :: hs, q, h => by
  simp only [dMay] at h
  split at h
  ·cases h
  ·rename_i mh hmh
   have rest : dMay bits i m j (q + 1) hs = false -> ∃ (r h mh : Nat), (x :: hs)[r]? = some h /\ bits.get h = some mh /\ ((Nat.testBit m h = true /\ ¬ q + r < j) \/ (q + r < j /\ Nat.testBit mh i = true)) := by
    intro h
    obtain ⟨r, h', mh', g1, g2, g3⟩ := dMay_spec bits i m j hs (q + 1) h
    refine ⟨r + 1, h', mh', by simpa using g1, g2, ?_⟩
    rw [show q + (r + 1) = q + 1 + r from by omega]; exact g3
   split at h
   ·rename_i e1 e2
    refine ⟨0, x, mh, rfl, hmh, .inl ⟨e1, ?_⟩⟩
    intro hlt
    rw [<- Nat.blt_eq] at hlt
    simp only [Nat.add_zero] at hlt
    rw [hlt] at e2; cases e2
   ·rename_i e2 e3
    refine ⟨0, x, mh, rfl, hmh, .inr ⟨?_, e3⟩⟩
    rw [Nat.blt_eq] at e2; simpa using e2
   ·exact rest h
theorem dLight_spec (T : Tabs) (o : Oper) (f : Tmp -> Option Value) (v : Value) (bits : Tr Nat) (i m : Nat) (hs : List Nat) : ∀ (ws : List AW) (j : Nat), dLight T o f v bits i m hs j ws = true ->
  ∀ (r : Nat) (W : AW), ws[r]? = some W -> dMay bits i m (j + r) 0 hs = true -> ∃ W', aOp T W (aEvalF T f) o = some (.value v, W')
 | [], j, h, r, W, hr, _ => by simp at hr
 | X :: ws, j, h, r, W, hr, hm => by
  have rest : dLight T o f v bits i m hs (j + 1) ws = true -> ∀ r', r = r' + 1 -> ∃ W', aOp T W (aEvalF T f) o = some (.value v, W') := by
   intro h r' e
   subst e
   exact dLight_spec T o f v bits i m hs ws (j + 1) h r' W (by simpa using hr) (by rw [show j + 1 + r' = j + (r' + 1) from by omega]; exact hm)
  simp only [dLight] at h
  split at h
  ·rename_i hm'
   cases r with
   | zero => simp only [Nat.add_zero] at hm; rw [hm] at hm'; cases hm'
   | succ r => exact rest h r rfl
  ·split at h
   ·rename_i u W' hop
    split at h
    ·rename_i heq
     cases r with
     | zero =>
      simp at hr; subst hr
      rw [valEq_sound _ _ heq] at hop
      exact ⟨W', hop⟩
     | succ r => exact rest h r rfl
    ·cases h
   ·cases h
theorem dLights_spec (T : Tabs) (all : List Oper) (wr bits : Tr Nat) (t : Tr Value) (S : DSt) : ∀ (l : List Oper) (i : Nat), dLights T all wr bits t S l i = true ->
  ∀ (j : Nat) (o : Oper), l[j]? = some o -> isLight o.op = true -> isPlain o.op = false -> ∃ m v, bits.get (i + j) = some m /\ S.vals.get (i + j) = some v /\
   (aWanted all o (dLook wr bits S.vals t (i + j) m) = some true -> dLight T o (dLook wr bits S.vals t (i + j) m) v bits (i + j) m S.hs 0 S.ws = true)
 | [], i, h, j, o, hj, _, _ => by simp at hj
 | x :: l, i, h, j, o, hj, hl, hp => by
  have rest : dLights T all wr bits t S l (i + 1) = true -> ∀ j', j = j' + 1 -> ∃ m v, bits.get (i + j) = some m /\ S.vals.get (i + j) = some v /\
   (aWanted all o (dLook wr bits S.vals t (i + j) m) = some true -> dLight T o (dLook wr bits S.vals t (i + j) m) v bits (i + j) m S.hs 0 S.ws = true) := by
   intro h j' e
   subst e
   have := dLights_spec T all wr bits t S l (i + 1) h j' o (by simpa using hj) hl hp
   rw [show i + 1 + j' = i + (j' + 1) from by omega] at this
   exact this
  simp only [dLights] at h
  split at h
  ·rename_i hl' hp'
   split at h
   ·rename_i m v hm hv
    cases j with
    | zero =>
     simp at hj; subst hj
     refine ⟨m, v, hm, hv, fun hw => ?_⟩
     simp only [Nat.add_zero] at hw ⊢
     rw [hw] at h
     simp only at h
     split at h
     ·assumption
     ·cases h
    | succ j =>
     refine rest ?_ j rfl
     split at h
     ·split at h
      ·exact h
      ·cases h
     ·exact h
   ·cases h
  ·rename_i hne
   cases j with
   | zero => simp at hj; subst hj; exact absurd hp (fun hp => hne hl hp)
   | succ j => exact rest h j rfl
theorem dFresh_spec (bits : Tr Nat) (i m : Nat) (hs : List Nat) (b : Nat) (elem : TypeId) (l : List Value) : ∀ (ws : List AW) (j : Nat), dFresh bits i m hs b elem l j ws = true ->
  ∀ (r : Nat) (W : AW), ws[r]? = some W -> dMay bits i m (j + r) 0 hs = true -> freshB W b elem l = true
 | [], j, h, r, W, hr, _ => by simp at hr
 | X :: ws, j, h, r, W, hr, hm => by
  have rest : dFresh bits i m hs b elem l (j + 1) ws = true -> ∀ r', r = r' + 1 -> freshB W b elem l = true := by
   intro h r' e
   subst e
   exact dFresh_spec bits i m hs b elem l ws (j + 1) h r' W (by simpa using hr) (by rw [show j + 1 + r' = j + (r' + 1) from by omega]; exact hm)
  simp only [dFresh] at h
  split at h
  ·rename_i hm'
   cases r with
   | zero => simp only [Nat.add_zero] at hm; rw [hm] at hm'; cases hm'
   | succ r => exact rest h r rfl
  ·split at h
   ·rename_i hf
    cases r with
    | zero => simp at hr; subst hr; exact hf
    | succ r => exact rest h r rfl
   ·cases h
theorem dFreshes_spec (bits : Tr Nat) (S : DSt) : ∀ (l : List Oper) (i : Nat), dFreshes bits S l i = true ->
  ∀ (j : Nat) (o : Oper), l[j]? = some o -> ∀ b F, S.flts.get (i + j) = some (b, F) -> ∃ m, bits.get (i + j) = some m /\ dFresh bits (i + j) m S.hs b F.elem F.cells 0 S.ws = true
 | [], i, h, j, o, hj, _, _, _ => by simp at hj
 | x :: l, i, h, j, o, hj, b, F, hF => by
  have rest : dFreshes bits S l (i + 1) = true -> ∀ j', j = j' + 1 -> ∃ m, bits.get (i + j) = some m /\ dFresh bits (i + j) m S.hs b F.elem F.cells 0 S.ws = true := by
   intro h j' e
   subst e
   have := dFreshes_spec bits S l (i + 1) h j' o (by simpa using hj) b F (by rw [show i + 1 + j' = i + (j' + 1) from by omega]; exact hF)
   rw [show i + 1 + j' = i + (j' + 1) from by omega] at this
   exact this
  simp only [dFreshes] at h
  split at h
  ·rename_i hn
   cases j with
   | zero => simp only [Nat.add_zero] at hF; rw [hn] at hF; cases hF
   | succ j => exact rest h j rfl
  ·rename_i b' F' m hF' hm
   split at h
   ·rename_i hd
    cases j with
    | zero => simp only [Nat.add_zero] at hF ⊢; rw [hF'] at hF; cases hF; exact ⟨m, hm, hd⟩
    | succ j => exact rest h j rfl
   ·cases h
  ·cases h
theorem freshB_spec {W : AW} {b : Nat} {elem : TypeId} {l : List Value} (h : freshB W b elem l = true) : b < W.next /\ ∃ c, W.blocks.get b = some ⟨.cells c l.length elem, []⟩ /\ ∀ i, i < l.length -> c.get i = l[i]? := by
 unfold freshB at h
 split at h
 ·rename_i c n el hb
  split at h
  ·rename_i m h1 h2 h3 h4
   have h1 := Nat.eq_of_beq_eq_true h1
   have h2 := Nat.eq_of_beq_eq_true h2
   rw [Nat.blt_eq] at h3
   subst h1; subst h2
   have e := listEq_sound _ _ h
   subst e
   obtain ⟨g1, g2⟩ := Tr.take_spec _ _ _ _ h4
   exact ⟨h3, c, hb, fun i hi => by have := g2 i hi; simpa using this⟩
  ·cases h
 ·cases h
end Go.Eng
