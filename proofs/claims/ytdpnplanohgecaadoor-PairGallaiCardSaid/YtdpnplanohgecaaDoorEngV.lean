import Derived.Test.YtdpnplanohgecaaDoorEngU
set_option linter.unusedSimpArgs false
set_option linter.unusedVariables false
set_option linter.unusedSectionVars false
namespace Go.Eng
theorem dLook_mono {wr bits : Tr Nat} {vals vals' t : Tr Value} (hv : ∀ i v, vals.get i = some v -> vals'.get i = some v) {i m d : Nat} {u : Value} (h : dLook wr bits vals t i m d = some u) : dLook wr bits vals' t i m d = some u := by
 unfold dLook at h ⊢
 split at h
 ·assumption
 ·rename_i q hq
  (try simp only [hq])
  split at h
  ·rename_i hb; (try simp only [hb]); exact hv _ _ h
  ·rename_i hb
   (try simp only [hb])
   split at h
   ·rename_i hb2; (try simp only [hb2]); exact h
   ·rename_i hb2; (try simp only [hb2]); exact h
theorem aWanted_mono {all : List Oper} {o : Oper} {f f' : Tmp -> Option Value} (hf : ∀ d u, f d = some u -> f' d = some u) {r : Bool} (h : aWanted all o f = some r) : aWanted all o f' = some r := by
 unfold aWanted at h ⊢
 split at h
 ·assumption
 ·rename_i j want hg
  (try simp only [hg])
  split at h
  ·rename_i hj; (try simp only [hj]); exact h
  ·rename_i oj hj
   (try simp only [hj])
   split at h
   ·rename_i hd; (try simp only [hd]); exact h
   ·rename_i d hd
    (try simp only [hd])
    split at h
    ·cases h
    ·rename_i b hb; first | exact h | (rw [hf _ _ hb]; exact h)
    ·rename_i v hnb hv
     rw [hf _ _ hv]
     cases v <;> first | exact h | exact absurd rfl (hnb _)
def Grow (W W' : AW) : Prop := W.next <= W'.next /\ ∀ b, b < W.next -> W'.blocks.get b = W.blocks.get b
theorem Grow.refl (W : AW) : Grow W W := ⟨Nat.le_refl _, fun _ _ => rfl⟩
theorem Grow.trans {W W₁ W₂ : AW} (h : Grow W W₁) (h' : Grow W₁ W₂) : Grow W W₂ := ⟨Nat.le_trans h.1 h'.1, fun b hb => (h'.2 b (Nat.lt_of_lt_of_le hb h.1)).trans (h.2 b hb)⟩
theorem Grow.newCells (W : AW) (elem : TypeId) (l : List Value) : Grow W (W.newCells elem l) :=
 ⟨Nat.le_succ _, fun b hb => by
  simp only [AW.newCells, AW.new, Tr.get_set]
  rw [if_neg (Nat.ne_of_lt hb)]⟩
theorem WRel.grow {η : Env} {W W' : AW} {w : World} (h : WRel η W w) (hg : Grow W W') : WRel η W' w := by
 refine ⟨fun b k e hb he => ?_, fun b₁ b₂ k₁ k₂ e₁ e₂ h1 h2 h3 h4 h5 h6 => ?_, fun b e he => Nat.lt_of_lt_of_le (h.next b e he) hg.1, h.inHeap⟩
 ·rw [hg.2 b (h.next b e he)] at hb; exact h.obj b k e hb he
 ·rw [hg.2 _ (h.next _ _ h3)] at h1
  rw [hg.2 _ (h.next _ _ h4)] at h2
  exact h.apart _ _ _ _ _ _ h1 h2 h3 h4 h5 h6
section
variable (ih : Ih) (T : Tabs) (ro : Option Nat) (all : List Oper) (wr bits : Tr Nat) (t : Tr Value)
inductive DStep (i : Nat) (W : AW) (S : DSt) : AW -> DSt -> Prop
 | skip (o m) (ho : all[i]? = some o) (hm : bits.get i = some m) (hv : S.vals.get i = none) (hw : aWanted all o (dLook wr bits S.vals t i m) = some false) :
   DStep i W S W { S with vals := S.vals.set i undef }
 | light (o m v W') (ho : all[i]? = some o) (hm : bits.get i = some m) (hv : S.vals.get i = none) (hw : aWanted all o (dLook wr bits S.vals t i m) = some true) (hl : isLight o.op = true)
   (hop : aOp T W (aEvalF T (dLook wr bits S.vals t i m)) o = some (.value v, W')) : DStep i W S W { S with vals := S.vals.set i v }
 | float (o m F) (ho : all[i]? = some o) (hm : bits.get i = some m) (hv : S.vals.get i = none) (hw : aWanted all o (dLook wr bits S.vals t i m) = some true) (hl : isLight o.op = false) (hfl : isFloat o.op = true)
   (hop : aFlt T (aEvalF T (dLook wr bits S.vals t i m)) o.op = some F) :
   DStep i W S (W.newCells F.elem F.cells) { S with vals := S.vals.set i (F.val W.next), flts := S.flts.set i (W.next, F), iv := S.iv.set i (W.next, W.next + 1) }
 | heavy (o m v W') (ho : all[i]? = some o) (hm : bits.get i = some m) (hv : S.vals.get i = none) (hw : aWanted all o (dLook wr bits S.vals t i m) = some true) (hl : isLight o.op = false) (hfl : isFloat o.op = false)
   (hop : aOper ih T ro o (dLook wr bits S.vals t i m) W = some (v, [], W')) (hn : W.next <= W'.next) :
   DStep i W S W' { S with vals := S.vals.set i v, hs := S.hs ++ [i], ws := S.ws ++ [W], iv := S.iv.set i (W.next, W'.next) }
theorem dRun_cons {i : Nat} {rest : List Nat} {W : AW} {S : DSt} {R : AW × DSt} (h : dRun ih T ro all wr bits t (i :: rest) W S = some R) :
  ∃ W₁ S₁, DStep ih T ro all wr bits t i W S W₁ S₁ /\ dRun ih T ro all wr bits t rest W₁ S₁ = some R := by
 simp only [dRun] at h
 split at h
 ·rename_i o m ho hm hv
  split at h
  ·cases h
  ·rename_i hw; exact ⟨_, _, .skip o m ho hm hv hw, h⟩
  ·rename_i hw
   split at h
   ·rename_i hl
    split at h
    ·rename_i v W' hop; exact ⟨_, _, .light o m v W' ho hm hv hw hl hop, h⟩
    ·cases h
   ·rename_i hl hfl
    split at h
    ·rename_i F hop; exact ⟨_, _, .float o m F ho hm hv hw hl hfl hop, h⟩
    ·cases h
   ·rename_i hl hfl
    split at h
    ·rename_i v W' hop
     split at h
     ·rename_i hn; exact ⟨_, _, .heavy o m v W' ho hm hv hw hl hfl hop (Nat.le_of_ble_eq_true hn), h⟩
     ·cases h
    ·cases h
 ·cases h
structure DInv (S : DSt) : Prop where
 no : ∀ i, S.vals.get i = none -> S.flts.get i = none /\ S.iv.get i = none
 len : S.ws.length = S.hs.length
 hs : ∀ h ∈ S.hs, S.vals.get h ≠ none
 dup : S.hs.Nodup
structure RunOk (W : AW) (S : DSt) (W' : AW) (S' : DSt) : Prop where
 vals : ∀ i v, S.vals.get i = some v -> S'.vals.get i = some v
 flts : ∀ i x, S.flts.get i = some x -> S'.flts.get i = some x
 iv : ∀ i x, S.iv.get i = some x -> S'.iv.get i = some x
 hs : ∃ r, S'.hs = S.hs ++ r
 ws : ∃ Wn r, S'.ws = S.ws ++ Wn :: r /\ Grow W Wn
 len : S'.ws.length = S'.hs.length + 1
 last : ∃ r, S'.ws = r ++ [W']
 next : W.next <= W'.next
 late : ∀ h ∈ S'.hs, h ∈ S.hs \/ S.vals.get h = none
 dup : S'.hs.Nodup
 hv : ∀ h ∈ S'.hs, S'.vals.get h ≠ none
variable {ih T ro all wr bits t}
theorem set_keep {α : Type} {tr : Tr α} {i : Nat} (hn : tr.get i = none) (x : α) (j : Nat) (y : α) (h : tr.get j = some y) : (tr.set i x).get j = some y := by
 rw [Tr.get_set, if_neg (fun e => by subst e; rw [hn] at h; cases h)]; exact h
theorem set_none {α : Type} {tr : Tr α} {i : Nat} {x : α} {j : Nat} (h : (tr.set i x).get j = none) : j ≠ i /\ tr.get j = none := by
 rw [Tr.get_set] at h
 split at h
 ·cases h
 ·rename_i e; exact ⟨e, h⟩
theorem set_some {α : Type} {tr : Tr α} {i : Nat} {x : α} {j : Nat} (h : tr.get j ≠ none) : (tr.set i x).get j ≠ none := fun e => h (set_none e).2
theorem DStep.inv {i : Nat} {W : AW} {S : DSt} {W₁ : AW} {S₁ : DSt} (h : DStep ih T ro all wr bits t i W S W₁ S₁) (hS : DInv S) : DInv S₁ := by
 obtain ⟨h1, h2, h3, h4⟩ := hS
 cases h with
 | skip o m ho hm hv hw => exact ⟨fun j hj => h1 j (set_none hj).2, h2, fun h hh => set_some (h3 h hh), h4⟩
 | light o m v W' ho hm hv hw hl hop => exact ⟨fun j hj => h1 j (set_none hj).2, h2, fun h hh => set_some (h3 h hh), h4⟩
 | float o m F ho hm hv hw hl hfl hop =>
  refine ⟨fun j hj => ?_, h2, fun h hh => set_some (h3 h hh), h4⟩
  obtain ⟨g1, g2⟩ := set_none hj
  obtain ⟨g3, g4⟩ := h1 j g2
  exact ⟨by simp only [Tr.get_set]; rw [if_neg g1]; exact g3, by simp only [Tr.get_set]; rw [if_neg g1]; exact g4⟩
 | heavy o m v W' ho hm hv hw hl hfl hop hn =>
  refine ⟨fun j hj => ?_, by simp [h2], fun h hh => ?_, ?_⟩
  ·obtain ⟨g1, g2⟩ := set_none hj
   obtain ⟨g3, g4⟩ := h1 j g2
   exact ⟨g3, by simp only [Tr.get_set]; rw [if_neg g1]; exact g4⟩
  ·rcases List.mem_append.1 hh with hh | hh
   ·exact set_some (h3 h hh)
   ·simp at hh; subst hh; simp [Tr.get_set]
  ·rw [List.nodup_append]
   exact ⟨h4, by simp, fun a ha b hb => by simp at hb; subst hb; intro e; subst e; exact h3 a ha hv⟩
theorem dRun_ok : ∀ (l : List Nat) (W : AW) (S : DSt) (W' : AW) (S' : DSt), dRun ih T ro all wr bits t l W S = some (W', S') -> DInv S -> RunOk W S W' S'
 | [], W, S, W', S', h, hS => by
  simp only [dRun, Option.some.injEq, Prod.mk.injEq] at h
  obtain ⟨rfl, rfl⟩ := h
  exact ⟨fun _ _ h => h, fun _ _ h => h, fun _ _ h => h, ⟨[], by simp⟩, ⟨W, [], rfl, .refl W⟩, by simp [hS.len], ⟨S.ws, rfl⟩, Nat.le_refl _, fun h hh => .inl hh, hS.dup, hS.hs⟩
 | i :: l, W, S, W', S', h, hS => by
  obtain ⟨W₁, S₁, hst, h⟩ := dRun_cons _ _ _ _ _ _ _ h
  have g := dRun_ok l W₁ S₁ W' S' h (hst.inv hS)
  cases hst with
  | skip o m ho hm hv hw => exact ⟨fun j v hj => g.vals j v (set_keep hv _ j v hj), g.flts, g.iv, g.hs, g.ws, g.len, g.last, g.next, fun h hh => (g.late h hh).imp id fun x => (set_none x).2, g.dup, g.hv⟩
  | light o m v W'' ho hm hv hw hl hop => exact ⟨fun j v hj => g.vals j v (set_keep hv _ j v hj), g.flts, g.iv, g.hs, g.ws, g.len, g.last, g.next, fun h hh => (g.late h hh).imp id fun x => (set_none x).2, g.dup, g.hv⟩
  | float o m F ho hm hv hw hl hfl hop =>
   obtain ⟨n1, n2⟩ := hS.no i hv
   obtain ⟨Wn, r, e1, e2⟩ := g.ws
   exact ⟨fun j v hj => g.vals j v (set_keep hv _ j v hj), fun j v hj => g.flts j v (set_keep n1 _ j v hj), fun j v hj => g.iv j v (set_keep n2 _ j v hj), g.hs, ⟨Wn, r, e1, (Grow.newCells W _ _).trans e2⟩, g.len, g.last, Nat.le_trans (Nat.le_succ _) g.next, fun h hh => (g.late h hh).imp id fun x => (set_none x).2, g.dup, g.hv⟩
  | heavy o m v W'' ho hm hv hw hl hfl hop hn =>
   obtain ⟨n1, n2⟩ := hS.no i hv
   obtain ⟨Wn, r, e1, e2⟩ := g.ws
   obtain ⟨rh, e3⟩ := g.hs
   refine ⟨fun j v hj => g.vals j v (set_keep hv _ j v hj), g.flts, fun j v hj => g.iv j v (set_keep n2 _ j v hj), ⟨[i] ++ rh, by rw [e3]; simp⟩, ⟨W, Wn :: r, by rw [e1]; simp, .refl W⟩, g.len, g.last, Nat.le_trans hn g.next, fun h hh => ?_, g.dup, g.hv⟩
   rcases g.late h hh with x | x
   ·rcases List.mem_append.1 x with x | x
    ·exact .inl x
    ·simp at x; subst x; exact .inr hv
   ·exact .inr (set_none x).2
def OpFact (ih : Ih) (T : Tabs) (ro : Option Nat) (all : List Oper) (wr bits : Tr Nat) (t : Tr Value) (S : DSt) (i : Nat) (v : Value) : Prop :=
  ∃ o m f, all[i]? = some o /\ bits.get i = some m /\ (∀ d u, f d = some u -> dLook wr bits S.vals t i m d = some u) /\
    ((aWanted all o f = some false /\ v = undef /\ i ∉ S.hs) \/ (aWanted all o f = some true /\
      ((isLight o.op = true /\ i ∉ S.hs /\ ∃ W₁ W₂, aOp T W₁ (aEvalF T f) o = some (.value v, W₂)) \/
       (isLight o.op = false /\ isFloat o.op = true /\ i ∉ S.hs /\ ∃ F b, aFlt T (aEvalF T f) o.op = some F /\ v = F.val b /\ S.flts.get i = some (b, F) /\ S.iv.get i = some (b, b + 1)) \/
       (isLight o.op = false /\ isFloat o.op = false /\ ∃ j Wj W' Wn, S.hs[j]? = some i /\ S.ws[j]? = some Wj /\ S.ws[j + 1]? = some Wn /\ aOper ih T ro o f Wj = some (v, [], W') /\ Grow W' Wn /\ S.iv.get i = some (Wj.next, W'.next)))))
theorem dRun_fact : ∀ (l : List Nat) (W : AW) (S : DSt) (W' : AW) (S' : DSt), dRun ih T ro all wr bits t l W S = some (W', S') -> DInv S -> ∀ i v, S'.vals.get i = some v -> S.vals.get i = some v \/ OpFact ih T ro all wr bits t S' i v
 | [], W, S, W', S', h, hS, i, v, hv => by
  simp only [dRun, Option.some.injEq, Prod.mk.injEq] at h
  obtain ⟨rfl, rfl⟩ := h
  exact .inl hv
 | x :: l, W, S, W', S', h, hS, i, v, hv => by
  obtain ⟨W₁, S₁, hst, h⟩ := dRun_cons _ _ _ _ _ _ _ h
  have hS₁ := hst.inv hS
  have g := dRun_ok l W₁ S₁ W' S' h hS₁
  rcases dRun_fact l W₁ S₁ W' S' h hS₁ i v hv with h1 | h1
  case inr => exact .inr h1
  -- the mark of x
  have hnot : x ∉ S.hs := fun hx => hS.hs x hx (by cases hst <;> assumption)
  have hx1 : S₁.vals.get x ≠ none := by cases hst <;> simp [Tr.get_set]
  have hmono : ∀ (m : Nat) d u, dLook wr bits S.vals t x m d = some u -> dLook wr bits S'.vals t x m d = some u := fun m d u hu =>
   dLook_mono (fun j y hj => g.vals j y (by cases hst <;> exact set_keep (by assumption) _ j y hj)) hu
  have split : ∀ (v₀ : Value), S₁.vals = S.vals.set x v₀ -> S.vals.get i = some v \/ (i = x /\ v = v₀) := by
   intro v₀ e
   rw [e, Tr.get_set] at h1
   split at h1
   ·rename_i ex; cases h1; exact .inr ⟨ex, rfl⟩
   ·exact .inl h1
  cases hst with
  | skip o m ho hm hv' hw =>
   rcases split _ rfl with h2 | ⟨rfl, rfl⟩
   ·exact .inl h2
   ·exact .inr ⟨o, m, _, ho, hm, hmono m, .inl ⟨hw, rfl, fun hx => (g.late _ hx).elim hnot hx1⟩⟩
  | light o m v' W'' ho hm hv' hw hl hop =>
   rcases split _ rfl with h2 | ⟨rfl, rfl⟩
   ·exact .inl h2
   ·exact .inr ⟨o, m, _, ho, hm, hmono m, .inr ⟨hw, .inl ⟨hl, fun hx => (g.late _ hx).elim hnot hx1, _, _, hop⟩⟩⟩
  | float o m F ho hm hv' hw hl hfl hop =>
   rcases split _ rfl with h2 | ⟨rfl, rfl⟩
   ·exact .inl h2
   ·exact .inr ⟨o, m, _, ho, hm, hmono m, .inr ⟨hw, .inr (.inl ⟨hl, hfl, fun hx => (g.late _ hx).elim hnot hx1, F, W.next, hop, rfl, g.flts _ _ (by simp [Tr.get_set]), g.iv _ _ (by simp [Tr.get_set])⟩)⟩⟩
  | heavy o m v' W'' ho hm hv' hw hl hfl hop hn =>
   rcases split _ rfl with h2 | ⟨rfl, rfl⟩
   ·exact .inl h2
   ·obtain ⟨rh, e3⟩ := g.hs
    obtain ⟨Wn, r, e1, e2⟩ := g.ws
    simp only at e3 e1
    refine .inr ⟨o, m, _, ho, hm, hmono m, .inr ⟨hw, .inr (.inr ⟨hl, hfl, S.hs.length, W, _, Wn, ?_, ?_, ?_, hop, e2, g.iv _ _ (by simp [Tr.get_set])⟩)⟩⟩
    ·rw [e3]; simp
    ·rw [e1, <- hS.len]; simp
    ·rw [e1, <- hS.len]; simp
def Disj (iv : Tr (Nat × Nat)) : Prop := ∀ i i' lo hi lo' hi', i ≠ i' -> iv.get i = some (lo, hi) -> iv.get i' = some (lo', hi') -> hi <= lo' \/ hi' <= lo
theorem dRun_disj : ∀ (l : List Nat) (W : AW) (S : DSt) (W' : AW) (S' : DSt), dRun ih T ro all wr bits t l W S = some (W', S') -> (∀ i lo hi, S.iv.get i = some (lo, hi) -> hi <= W.next) -> Disj S.iv -> Disj S'.iv
 | [], W, S, W', S', h, h1, h2 => by
  simp only [dRun, Option.some.injEq, Prod.mk.injEq] at h
  obtain ⟨rfl, rfl⟩ := h
  exact h2
 | x :: l, W, S, W', S', h, h1, h2 => by
  obtain ⟨W₁, S₁, hst, h⟩ := dRun_cons _ _ _ _ _ _ _ h
  have add : ∀ n, W.next <= n -> (∀ i lo hi, (S.iv.set x (W.next, n)).get i = some (lo, hi) -> hi <= n) /\ Disj (S.iv.set x (W.next, n)) := by
   intro n hn
   refine ⟨fun i lo hi hi' => ?_, fun i i' lo hi lo' hi' hne g1 g2 => ?_⟩
   ·rw [Tr.get_set] at hi'
    split at hi'
    ·cases hi'; exact Nat.le_refl _
    ·exact Nat.le_trans (h1 _ _ _ hi') hn
   ·rw [Tr.get_set] at g1 g2
    split at g1
    ·rename_i e1
     split at g2
     ·rename_i e2; exact absurd (e1.trans e2.symm) hne
     ·cases g1; exact .inr (h1 _ _ _ g2)
    ·split at g2
     ·cases g2; exact .inl (h1 _ _ _ g1)
     ·exact h2 _ _ _ _ _ _ hne g1 g2
  cases hst with
  | skip o m ho hm hv' hw => exact dRun_disj l _ _ W' S' h h1 h2
  | light o m v' W'' ho hm hv' hw hl hop => exact dRun_disj l _ _ W' S' h h1 h2
  | float o m F ho hm hv' hw hl hfl hop => exact dRun_disj l _ _ W' S' h (add _ (Nat.le_succ _)).1 (add _ (Nat.le_succ _)).2
  | heavy o m v' W'' ho hm hv' hw hl hfl hop hn => exact dRun_disj l _ _ W' S' h (add _ hn).1 (add _ hn).2
theorem dRun_low : ∀ (l : List Nat) (W : AW) (S : DSt) (W' : AW) (S' : DSt), dRun ih T ro all wr bits t l W S = some (W', S') -> ∀ N, N <= W.next -> (∀ i lo hi, S.iv.get i = some (lo, hi) -> N <= lo) -> (∀ i lo hi, S'.iv.get i = some (lo, hi) -> N <= lo)
 | [], W, S, W', S', h, N, hN, h1 => by
  simp only [dRun, Option.some.injEq, Prod.mk.injEq] at h
  obtain ⟨rfl, rfl⟩ := h
  exact h1
 | x :: l, W, S, W', S', h, N, hN, h1 => by
  obtain ⟨W₁, S₁, hst, h⟩ := dRun_cons _ _ _ _ _ _ _ h
  have add : ∀ n, ∀ i lo hi, (S.iv.set x (W.next, n)).get i = some (lo, hi) -> N <= lo := by
   intro n i lo hi hi'
   rw [Tr.get_set] at hi'
   split at hi'
   ·cases hi'; exact hN
   ·exact h1 _ _ _ hi'
  cases hst with
  | skip o m ho hm hv' hw => exact dRun_low l _ _ W' S' h N hN h1
  | light o m v' W'' ho hm hv' hw hl hop => exact dRun_low l _ _ W' S' h N (Nat.le_trans hN (by cases aOp_light hl hop; exact Nat.le_refl _)) h1
  | float o m F ho hm hv' hw hl hfl hop => exact dRun_low l _ _ W' S' h N (Nat.le_trans hN (Nat.le_succ _)) (add _)
  | heavy o m v' W'' ho hm hv' hw hl hfl hop hn => exact dRun_low l _ _ W' S' h N (Nat.le_trans hN hn) (add _)
theorem dPut_spec {wr : Tr Nat} (h1 : ∀ d q, wr.get d = some q -> ∃ o, all[q]? = some o /\ o.dst = some d) (h2 : ∀ (j : Nat) (o : Oper) d, all[j]? = some o -> o.dst = some d -> wr.get d = some j) {vals : Tr Value} :
  ∀ (l : List Oper) (i : Nat) (A A' : AAct), (∀ j, l[j]? = all[i + j]?) -> dPut l i vals A = some A' ->
   A'.n = A.n /\ A'.defers = A.defers /\ (∀ j o, l[j]? = some o -> ∃ v, vals.get (i + j) = some v) /\ (∀ (j : Nat) (o : Oper) d, l[j]? = some o -> o.dst = some d -> d < A.n) /\
   ∀ d, A'.tmps.get d = match wr.get d with
    | some q => if i <= q then vals.get q else A.tmps.get d
    | none => A.tmps.get d
 | [], i, A, A', hl, h => by
  cases h
  refine ⟨rfl, rfl, fun j o hj => by simp at hj, fun j o d hj => by simp at hj, fun d => ?_⟩
  split
  ·rename_i q hq
   obtain ⟨o, ho, _⟩ := h1 _ _ hq
   rw [if_neg]
   intro hle
   have := hl (q - i)
   rw [show i + (q - i) = q from by omega, ho] at this
   simp at this
  ·rfl
 | o :: l, i, A, A', hl, h => by
  simp only [dPut] at h
  split at h
  ·cases h
  ·rename_i v hv
   split at h
   ·cases h
   ·rename_i A₁ hput
    have ho : all[i]? = some o := by simpa using (hl 0).symm
    have hl' : ∀ j, l[j]? = all[i + 1 + j]? := fun j => by have := hl (j + 1); simpa [Nat.add_assoc, Nat.add_comm 1 j] using this
    obtain ⟨g1, g2, g3, g4, g5⟩ := dPut_spec h1 h2 l (i + 1) A₁ A' hl' h
    have hA₁ : A₁.n = A.n /\ A₁.defers = A.defers /\ (∀ d, o.dst = some d -> d < A.n) /\ ∀ d, A₁.tmps.get d = if o.dst = some d then some v else A.tmps.get d := by
     unfold AAct.put at hput
     split at hput
     ·rename_i hd; cases hput
      exact ⟨rfl, rfl, fun d hd' => (by rw [hd] at hd'; cases hd'), fun d => by simp [hd]⟩
     ·rename_i d₀ hd
      split at hput
      ·rename_i hlt
       cases hput
       rw [Nat.blt_eq] at hlt
       refine ⟨rfl, rfl, fun d hd' => (by rw [hd] at hd'; cases hd'; exact hlt), fun d => ?_⟩
       simp only [Tr.get_set, hd, Option.some.injEq]
       by_cases e : d = d₀
       ·simp [e]
       ·rw [if_neg e, if_neg (Ne.symm e)]
      ·cases hput
    obtain ⟨k1, k2, k3, k4⟩ := hA₁
    refine ⟨g1.trans k1, g2.trans k2, fun j o' hj => ?_, fun j o' d hj hd => ?_, fun d => ?_⟩
    ·cases j with
     | zero => exact ⟨v, hv⟩
     | succ j => rw [show i + (j + 1) = i + 1 + j from by omega]; exact g3 j o' (by simpa using hj)
    ·cases j with
     | zero => simp at hj; subst hj; exact k3 d hd
     | succ j => rw [<- k1]; exact g4 j o' d (by simpa using hj) hd
    ·rw [g5 d]
     split
     ·rename_i q hq
      by_cases hle : i + 1 <= q
      ·rw [if_pos hle, if_pos (by omega)]
      ·rw [if_neg hle, k4 d]
       by_cases e : q = i
       ·subst e
        obtain ⟨o', ho', hd'⟩ := h1 _ _ hq
        rw [ho] at ho'; cases ho'
        rw [if_pos hd', if_pos (Nat.le_refl _), hv]
       ·rw [if_neg (show ¬ i <= q by omega), if_neg]
        intro hd
        have := h2 i o d ho hd
        rw [hq] at this; cases this; exact e rfl
     ·rename_i hn
      rw [k4 d, if_neg]
      intro hd
      have := h2 i o d ho hd
      rw [hn] at this; cases this
end
end Go.Eng
