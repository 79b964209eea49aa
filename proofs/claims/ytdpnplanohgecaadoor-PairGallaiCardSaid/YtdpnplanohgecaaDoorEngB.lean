import Derived.Test.YtdpnplanohgecaaDoorEngA
import Derived.Laws.Sem
import Derived.Laws.Cells
set_option linter.unusedSimpArgs false
set_option linter.unusedVariables false
set_option linter.unusedSectionVars false
namespace Go.Eng
abbrev Env := Nat -> Option (Nat × Nat × Nat)
def Env.Le (η η' : Env) : Prop := ∀ b e, η b = some e -> η' b = some e
theorem Env.Le.refl (η : Env) : η.Le η := fun _ _ h => h
theorem Env.Le.trans {η η₁ η₂ : Env} (h : η.Le η₁) (h' : η₁.Le η₂) : η.Le η₂ := fun b e x => h' b e (h b e x)
def Env.add (η : Env) (n : Nat) (e : Nat × Nat × Nat) : Env := fun b => if b = n then some e else η b
theorem Env.le_add {η : Env} {n : Nat} (e : Nat × Nat × Nat) (h : η n = none) : η.Le (η.add n e) := fun b x hb => by
 unfold Env.add; split
 ·rename_i hn; subst hn; rw [h] at hb; cases hb
 ·exact hb
theorem Env.add_self (η : Env) (n : Nat) (e : Nat × Nat × Nat) : η.add n e n = some e := by simp [Env.add]
def FnRel (η : Env) : Fn -> Fn -> Prop
 | .yield l, .yield l' => ∃ e, η l = some e /\ e.1 = l'
 | .yield _, _ => False
 | f, f' => f = f'
inductive VR (η : Env) : Value -> Value -> Prop
 | bool (b : Bool) : VR η (.bool b) (.bool b)
 | int (k : IntKind) (n : Int) : VR η (.int k n) (.int k n)
 | string (s : ByteArray) : VR η (.string s) (.string s)
 | ptrNil : VR η (.pointer none) (.pointer none)
 | ptr (b o : Nat) (e : Nat × Nat × Nat) (h : η b = some e) : VR η (.pointer (some ⟨b, o, none⟩)) (.pointer (some ⟨e.1, e.2.1 + o, none⟩))
 | sliceNil : VR η (.slice none 0 0) (.slice none 0 0)
 | sliceAt (b o n c : Nat) (e : Nat × Nat × Nat) (h : η b = some e) :
   VR η (.slice (some ⟨b, o, none⟩) n (2 * c)) (.slice (some ⟨e.1, e.2.1 + o, none⟩) n c)
 | sliceEnd (b o n sz c : Nat) (e : Nat × Nat × Nat) (h : η b = some e) (hn : n <= c) (hc : e.2.1 + o + c * sz = e.2.2) :
   VR η (.slice (some ⟨b, o, none⟩) n (2 * sz + 1)) (.slice (some ⟨e.1, e.2.1 + o, none⟩) n c)
 | sliceDead (b o sz c : Nat) (a : Addr) (e : Nat × Nat × Nat) (h : η b = some e) (hc : c = 0 \/ (a = ⟨e.1, e.2.1 + o, none⟩ /\ e.2.1 + o + c * sz = e.2.2)) :
   VR η (.slice (some ⟨b, o, some 0⟩) 0 (2 * sz + 1)) (.slice (some a) 0 c)
 | sliceVoid (a : Addr) : VR η (.slice (some ⟨0, 0, some 1⟩) 0 0) (.slice (some a) 0 0)
 | mapNil : VR η (.map none) (.map none)
 | map (r : Nat) (e : Nat × Nat × Nat) (h : η r = some e) : VR η (.map (some r)) (.map (some e.1))
 | func (f f' : Fn) (a a' c c' : Array Value) (hf : FnRel η f f') (ha : a.size = a'.size) (hc : c.size = c'.size)
   (hav : ∀ (i : Nat) (v v' : Value), a[i]? = some v -> a'[i]? = some v' -> VR η v v') (hcv : ∀ (i : Nat) (v v' : Value), c[i]? = some v -> c'[i]? = some v' -> VR η v v') :
   VR η (.func f a c) (.func f' a' c')
 | nilFunc : VR η .nilFunc .nilFunc
 | iface (t : TypeId) (v v' : Value) (h : VR η v v') : VR η (.iface t v) (.iface t v')
 | nilIface : VR η .nilIface .nilIface
 | agg (c c' : Array Value) (hs : c.size = c'.size) (h : ∀ (i : Nat) (v v' : Value), c[i]? = some v -> c'[i]? = some v' -> VR η v v') : VR η (.agg c) (.agg c')
 | tuple (c c' : Array Value) (hs : c.size = c'.size) (h : ∀ (i : Nat) (v v' : Value), c[i]? = some v -> c'[i]? = some v' -> VR η v v') : VR η (.tuple c) (.tuple c')
theorem FnRel.mono {η η' : Env} (hη : η.Le η') {f f' : Fn} (h : FnRel η f f') : FnRel η' f f' := by
 unfold FnRel at *
 split at h
 ·obtain ⟨e, he, h1⟩ := h; exact ⟨e, hη _ _ he, h1⟩
 ·exact h.elim
 ·exact h
theorem VR.mono {η η' : Env} (hη : η.Le η') {v v' : Value} (h : VR η v v') : VR η' v v' := by
 induction h with
 | bool b => exact .bool b
 | int k n => exact .int k n
 | string s => exact .string s
 | ptrNil => exact .ptrNil
 | ptr b o e h => exact .ptr b o e (hη _ _ h)
 | sliceNil => exact .sliceNil
 | sliceAt b o n c e h => exact .sliceAt b o n c e (hη _ _ h)
 | sliceEnd b o n sz c e h hn hc => exact .sliceEnd b o n sz c e (hη _ _ h) hn hc
 | sliceDead b o sz c a e h hc => exact .sliceDead b o sz c a e (hη _ _ h) hc
 | sliceVoid a => exact .sliceVoid a
 | mapNil => exact .mapNil
 | map r e h => exact .map r e (hη _ _ h)
 | func f f' a a' c c' hf ha hc hav hcv ih1 ih2 => exact .func f f' a a' c c' (hf.mono hη) ha hc ih1 ih2
 | nilFunc => exact .nilFunc
 | iface t v v' h ih => exact .iface t v v' ih
 | nilIface => exact .nilIface
 | agg c c' hs h ih => exact .agg c c' hs ih
 | tuple c c' hs h ih => exact .tuple c c' hs ih
def LR (η : Env) (l l' : List Value) : Prop := l.length = l'.length /\ ∀ (i : Nat) (v v' : Value), l[i]? = some v -> l'[i]? = some v' -> VR η v v'
def AR (η : Env) (c c' : Array Value) : Prop := c.size = c'.size /\ ∀ (i : Nat) (v v' : Value), c[i]? = some v -> c'[i]? = some v' -> VR η v v'
theorem AR.toList {η : Env} {c c' : Array Value} (h : AR η c c') : LR η c.toList c'.toList := ⟨by simpa using h.1, by simpa using h.2⟩
theorem LR.toArray {η : Env} {l l' : List Value} (h : LR η l l') : AR η l.toArray l'.toArray := ⟨by simpa using h.1, by simpa using h.2⟩
theorem AR.mono {η η' : Env} (hη : η.Le η') {c c' : Array Value} (h : AR η c c') : AR η' c c' := ⟨h.1, fun i v v' a b => (h.2 i v v' a b).mono hη⟩
theorem LR.nil (η : Env) : LR η [] [] := ⟨rfl, fun i v v' a => by simp at a⟩
theorem LR.cons {η : Env} {v v' : Value} {l l' : List Value} (h : VR η v v') (hl : LR η l l') : LR η (v :: l) (v' :: l') :=
 ⟨by simp [hl.1], fun i x x' a b => by
  cases i with
  | zero => simp at a b; subst a; subst b; exact h
  | succ i => exact hl.2 i x x' (by simpa using a) (by simpa using b)⟩
theorem LR.uncons {η : Env} {v : Value} {l l' : List Value} (h : LR η (v :: l) l') : ∃ v' t, l' = v' :: t /\ VR η v v' /\ LR η l t := by
 cases l' with
 | nil => have := h.1; simp at this
 | cons v' t => exact ⟨v', t, rfl, h.2 0 v v' rfl rfl, ⟨by have := h.1; simpa using this, fun i x x' a b => h.2 (i + 1) x x' (by simpa using a) (by simpa using b)⟩⟩
theorem LR.of_nil {η : Env} {l' : List Value} (h : LR η [] l') : l' = [] := by cases l' with
 | nil => rfl
 | cons a b => have := h.1; simp at this
theorem LR.append {η : Env} {l₁ l₁' l₂ l₂' : List Value} (h₁ : LR η l₁ l₁') (h₂ : LR η l₂ l₂') : LR η (l₁ ++ l₂) (l₁' ++ l₂') := by
 refine ⟨by simp [h₁.1, h₂.1], fun i v v' a b => ?_⟩
 by_cases hi : i < l₁.length
 ·rw [List.getElem?_append_left hi] at a
  rw [List.getElem?_append_left (h₁.1 ▸ hi)] at b
  exact h₁.2 i v v' a b
 ·rw [List.getElem?_append_right (by omega)] at a
  rw [List.getElem?_append_right (by have := h₁.1; omega), <- h₁.1] at b
  exact h₂.2 _ v v' a b
def TgRel (η : Env) : Target -> Target -> Prop
 | .fn f c, .fn f' c' => FnRel η f f' /\ AR η c c'
 | .collected r, .collected r' => ∃ e, η r = some e /\ e.1 = r'
 | .builtin b a t k, .builtin b' a' t' k' => b = b' /\ a = a' /\ t = t' /\ k = k'
 | _, _ => False
def DRel (η : Env) (d d' : Deferred) : Prop := TgRel η d.target d'.target /\ AR η d.args d'.args
theorem DRel.mono {η η' : Env} (hη : η.Le η') {d d' : Deferred} (h : DRel η d d') : DRel η' d d' := by
 refine ⟨?_, h.2.mono hη⟩
 have h1 := h.1
 unfold TgRel at *
 split at h1
 ·exact ⟨h1.1.mono hη, h1.2.mono hη⟩
 ·obtain ⟨e, he, h1⟩ := h1; exact ⟨e, hη _ _ he, h1⟩
 ·exact h1
 ·exact h1.elim
def DsRel (η : Env) : List Deferred -> List Deferred -> Prop
 | [], [] => True
 | d :: l, d' :: l' => DRel η d d' /\ DsRel η l l'
 | _, _ => False
theorem DsRel.mono {η η' : Env} (hη : η.Le η') : ∀ {l l' : List Deferred}, DsRel η l l' -> DsRel η' l l'
 | [], [], _ => trivial
 | _ :: _, _ :: _, h => ⟨h.1.mono hη, DsRel.mono hη h.2⟩
 | [], _ :: _, h => h.elim
 | _ :: _, [], h => h.elim
theorem DsRel.append {η : Env} : ∀ {a a' b b' : List Deferred}, DsRel η a a' -> DsRel η b b' -> DsRel η (a ++ b) (a' ++ b')
 | [], [], _, _, _, h => h
 | _ :: _, _ :: _, _, _, h, h2 => ⟨h.1, DsRel.append h.2 h2⟩
 | [], _ :: _, _, _, h, _ => h.elim
 | _ :: _, [], _, _, h, _ => h.elim
def TR (η : Env) (t : Tr Value) (n : Nat) (tmps : Array Value) : Prop :=
 tmps.size = n /\ ∀ i v, t.get i = some v -> ∃ v', tmps[i]? = some v' /\ VR η v v'
theorem TR.mono {η η' : Env} (hη : η.Le η') {t : Tr Value} {n : Nat} {tmps : Array Value} (h : TR η t n tmps) : TR η' t n tmps :=
 ⟨h.1, fun i v x => let ⟨v', a, b⟩ := h.2 i v x; ⟨v', a, b.mono hη⟩⟩
theorem TR.set {η : Env} {t : Tr Value} {n : Nat} {tmps : Array Value} (h : TR η t n tmps) {d : Nat} (hd : d < n) {v v' : Value} (hv : VR η v v') :
  TR η (t.set d v) n (tmps.setIfInBounds d v') := by
 refine ⟨by simp [h.1], fun i u hu => ?_⟩
 rw [Tr.get_set] at hu
 by_cases e : i = d
 ·subst e; simp at hu; subst hu
  exact ⟨v', by simp [h.1, hd], hv⟩
 ·rw [if_neg e] at hu
  obtain ⟨u', a, b⟩ := h.2 i u hu
  exact ⟨u', by rw [Array.getElem?_setIfInBounds_ne (Ne.symm e)]; exact a, b⟩
inductive AObj where
 | cells (c : Tr Value) (n : Nat) (elem : TypeId)
 | iter (s : ByteArray) (pos : Nat)
 | deferred (ds : Option (List Deferred))
 | loop (state : LoopState) (pending : Option Code) (fn : FuncId) (tmps : Tr Value) (n : Nat) (params : Array Tmp) (assign body : Code) (defers : Nat)
 | map (entries : List (Value × Value × Nat)) (clock : Nat)
 | ro (c : Tr Value) (n : Nat) (elem : TypeId)
 | miter (m : Option Nat) (since : Nat) (seen : List Nat) (stepped : Nat)
def EsRel (η : Env) : List (Value × Value × Nat) -> List MapEntry -> Prop
 | [], [] => True
 | (k, v, n) :: l, e :: l' => VR η k e.key /\ VR η v e.val /\ n = e.born /\ EsRel η l l'
 | _, _ => False
theorem EsRel.mono {η η' : Env} (hη : η.Le η') : ∀ {l : List (Value × Value × Nat)} {l' : List MapEntry}, EsRel η l l' -> EsRel η' l l'
 | [], [], _ => trivial
 | (_, _, _) :: _, _ :: _, h => ⟨h.1.mono hη, h.2.1.mono hη, h.2.2.1, EsRel.mono hη h.2.2.2⟩
 | [], _ :: _, h => h.elim
 | _ :: _, [], h => h.elim
def ORel (η : Env) : AObj -> (Nat × Nat × Nat) -> Obj -> Prop
 | .cells c n el, e, .cells c' el' fz => el = el' /\ c'.size = e.2.2 /\ e.2.1 + n <= c'.size /\ (∀ i, e.2.1 <= i -> i < c'.size -> ¬ (fz.1 <= i /\ i < fz.2)) /\
   ∀ i v, i < n -> c.get i = some v -> ∃ v', c'[e.2.1 + i]? = some v' /\ VR η v v'
 | .iter s pos, e, .stringIter s' pos' => s = s' /\ pos = pos' /\ e.2.1 = 0 /\ e.2.2 ≠ 0
 | .deferred none, e, .deferred none => e.2.2 ≠ 0
 | .deferred (some ds), e, .deferred (some ds') => DsRel η ds ds' /\ e.2.2 ≠ 0
 | .loop st p fn t n ps as bd df, e0, .loop l => e0.2.2 ≠ 0 /\ l.state = st /\ l.pending = p /\ l.fn = fn /\ TR η t n l.tmps /\ l.params = ps /\ l.assign = as /\ l.body = bd /\ ∃ e, η df = some e /\ e.1 = l.defers
 | .map es k, e, .map es' k' => EsRel η es es'.toList /\ k = k' /\ e.2.2 ≠ 0
 | .miter none _ _ _, e, .mapIter none _ _ _ => e.2.1 = 0 /\ e.2.2 ≠ 0
 | .miter (some m) s l k, e0, .mapIter (some m') s' l' k' => (∃ e, η m = some e /\ e.1 = m') /\ s = s' /\ l = l'.toList /\ k = k' /\ e0.2.1 = 0 /\ e0.2.2 ≠ 0
 | .ro c n _, e, .cells c' _ _ => e.2.2 = 0 /\ e.2.1 + n <= c'.size /\ ∀ i v, i < n -> c.get i = some v -> ∃ v', c'[e.2.1 + i]? = some v' /\ VR η v v'
 | _, _, _ => False
theorem ORel.mono {η η' : Env} (hη : η.Le η') {a : AObj} {e : Nat × Nat × Nat} {o : Obj} (h : ORel η a e o) : ORel η' a e o := by
 unfold ORel at *
 split at h
 ·exact ⟨h.1, h.2.1, h.2.2.1, h.2.2.2.1, fun i v a b => let ⟨v', x, y⟩ := h.2.2.2.2 i v a b; ⟨v', x, y.mono hη⟩⟩
 ·exact h
 ·exact h
 ·exact ⟨h.1.mono hη, h.2⟩
 ·obtain ⟨h0, h1, h2, h3, h4, h5, h6, h7, e, h8, h9⟩ := h
  exact ⟨h0, h1, h2, h3, h4.mono hη, h5, h6, h7, e, hη _ _ h8, h9⟩
 ·exact ⟨h.1.mono hη, h.2⟩
 ·exact h
 ·obtain ⟨⟨e, h1, h2⟩, h3⟩ := h
  exact ⟨⟨e, hη _ _ h1, h2⟩, h3⟩
 ·exact ⟨h.1, h.2.1, fun i v a b => let ⟨v', x, y⟩ := h.2.2 i v a b; ⟨v', x, y.mono hη⟩⟩
 ·exact h.elim
structure ABlk where
 obj : AObj
 kin : List (Nat × Bool)
structure AW where
 blocks : Tr ABlk
 next : Nat
structure WRel (η : Env) (W : AW) (w : World) : Prop where
 obj : ∀ b k e, W.blocks.get b = some k -> η b = some e -> ∃ o, w.heap[e.1]? = some o /\ ORel η k.obj e o
 apart : ∀ b₁ b₂ k₁ k₂ e₁ e₂, W.blocks.get b₁ = some k₁ -> W.blocks.get b₂ = some k₂ -> η b₁ = some e₁ -> η b₂ = some e₂ -> e₁.1 = e₂.1 -> b₁ ≠ b₂ -> ∃ f, (b₂, f) ∈ k₁.kin /\ (f = true -> e₁.2.1 = e₂.2.1)
 next : ∀ b e, η b = some e -> b < W.next
 inHeap : ∀ b e, η b = some e -> e.1 < w.heap.size
structure Fr (η : Env) (W : AW) (w : World) (η' : Env) (W' : AW) (w' : World) : Prop where
 le : η.Le η'
 size : w.heap.size <= w'.heap.size
 keep : ∀ r, r < w.heap.size -> (∀ b e, η b = some e -> e.2.2 ≠ 0 -> e.1 ≠ r) -> w'.heap[r]? = w.heap[r]?
 new : ∀ b e, η' b = some e -> e.2.2 ≠ 0 -> η b = some e \/ w.heap.size <= e.1 \/ ∃ b₀ e₀, η b₀ = some e₀ /\ e₀.2.2 ≠ 0 /\ e₀.1 = e.1
 froz : ∀ a, w'.frozen? a = w.frozen? a
 tape : w'.tape = w.tape
 os : w'.os = w.os
 output : w'.output = w.output
 next : W.next <= W'.next
 fresh : ∀ b e, η' b = some e -> η b = some e \/ W.next <= b
 sort : ∀ (r : Nat) (c : Array Value) (el : TypeId) (fz : Nat × Nat), w.heap[r]? = some (.cells c el fz) -> ∃ c', w'.heap[r]? = some (.cells c' el fz) /\ c'.size = c.size
theorem Fr.refl (η : Env) (W : AW) (w : World) : Fr η W w η W w := ⟨.refl η, Nat.le_refl _, fun _ _ _ => rfl, fun _ _ h _ => .inl h, fun _ => rfl, rfl, rfl, rfl, Nat.le_refl _, fun _ _ h => .inl h, fun _ c _ _ h => ⟨c, h, rfl⟩⟩
theorem Fr.trans {η η₁ η₂ : Env} {W W₁ W₂ : AW} {w w₁ w₂ : World} (h : Fr η W w η₁ W₁ w₁) (h' : Fr η₁ W₁ w₁ η₂ W₂ w₂) : Fr η W w η₂ W₂ w₂ := by
 refine ⟨h.le.trans h'.le, Nat.le_trans h.size h'.size, fun r hr hn => ?_, fun b e he hz => ?_, fun a => (h'.froz a).trans (h.froz a), h'.tape.trans h.tape, h'.os.trans h.os, h'.output.trans h.output, Nat.le_trans h.next h'.next,
  fun b e he => (h'.fresh b e he).elim (h.fresh b e) (fun x => .inr (Nat.le_trans h.next x)),
  fun r c el fz x => let ⟨c1, a, b⟩ := h.sort r c el fz x; let ⟨c2, a2, b2⟩ := h'.sort r c1 el fz a; ⟨c2, a2, b2.trans b⟩⟩
 ·rw [h'.keep r (Nat.lt_of_lt_of_le hr h.size) (fun b e he hz => ?_), h.keep r hr hn]
  rcases h.new b e he hz with h1 | h1 | ⟨b₀, e₀, h1, h0, h2⟩
  ·exact hn b e h1 hz
  ·omega
  ·exact h2 ▸ hn b₀ e₀ h1 h0
 ·rcases h'.new b e he hz with h1 | h1 | ⟨b₀, e₀, h1, h0, h2⟩
  ·exact h.new b e h1 hz
  ·exact .inr (.inl (Nat.le_trans h.size h1))
  ·rcases h.new b₀ e₀ h1 h0 with h3 | h3 | ⟨b₁, e₁, h3, h30, h4⟩
   ·exact .inr (.inr ⟨b₀, e₀, h3, h0, h2⟩)
   ·exact .inr (.inl (h2 ▸ h3))
   ·exact .inr (.inr ⟨b₁, e₁, h3, h30, h4.trans h2⟩)
theorem Fr.drawn {η η' : Env} {W W' : AW} {w w' : World} (h : Fr η W w η' W' w') (n : Nat) : Fr η W w η' W' { w' with drawn := n } := ⟨h.le, h.size, h.keep, h.new, h.froz, h.tape, h.os, h.output, h.next, h.fresh, h.sort⟩
theorem WRel.drawn {η : Env} {W : AW} {w : World} (h : WRel η W w) (n : Nat) : WRel η W { w with drawn := n } := ⟨h.obj, h.apart, h.next, h.inHeap⟩
structure Onto (w w' : World) : Prop where
 size : w.heap.size <= w'.heap.size
 keep : ∀ r, r < w.heap.size -> w'.heap[r]? = w.heap[r]?
 froz : ∀ a, w'.frozen? a = w.frozen? a
 tape : w'.tape = w.tape
 os : w'.os = w.os
 output : w'.output = w.output
theorem Onto.at {w w' : World} (h : Onto w w') {r : Nat} {o : Obj} (ho : w.heap[r]? = some o) : w'.heap[r]? = some o := by
 rw [h.keep r (Array.getElem?_eq_some_iff.1 ho).1]; exact ho
theorem WRel.onto {η : Env} {W : AW} {w w' : World} (h : WRel η W w) (ho : Onto w w') : WRel η W w' :=
 ⟨fun b k e hb he => let ⟨o, h1, h2⟩ := h.obj b k e hb he; ⟨o, ho.at h1, h2⟩, h.apart, h.next, fun b e he => Nat.lt_of_lt_of_le (h.inHeap b e he) ho.size⟩
theorem Fr.onto {η η' : Env} {W W' : AW} {w w' w'' : World} (h : Fr η W w η' W' w') (ho : Onto w' w'') : Fr η W w η' W' w'' :=
 ⟨h.le, Nat.le_trans h.size ho.size, fun r hr hn => by rw [ho.keep r (Nat.lt_of_lt_of_le hr h.size)]; exact h.keep r hr hn, h.new, fun a => (ho.froz a).trans (h.froz a), ho.tape.trans h.tape, ho.os.trans h.os, ho.output.trans h.output, h.next, h.fresh,
  fun r c el fz x => let ⟨c', a, b⟩ := h.sort r c el fz x; ⟨c', ho.at a, b⟩⟩
def AW.cell (W : AW) (b o : Nat) : Option Value :=
 match W.blocks.get b with
 | some ⟨.cells c n _, _⟩ => match Nat.blt o n with
  | true => c.get o
  | false => none
 | some ⟨.ro c n _, _⟩ => match Nat.blt o n with
  | true => c.get o
  | false => none
 | _ => none
theorem WRel.cells {η : Env} {W : AW} {w : World} (h : WRel η W w) {b : Nat} {c : Tr Value} {n : Nat} {el : TypeId} {kin : List (Nat × Bool)}
  (hg : W.blocks.get b = some ⟨.cells c n el, kin⟩) {e : Nat × Nat × Nat} (he : η b = some e) : ∃ c' fz, w.heap[e.1]? = some (.cells c' el fz) /\ c'.size = e.2.2 /\ e.2.1 + n <= c'.size /\
   (∀ i, e.2.1 <= i -> i < c'.size -> ¬ (fz.1 <= i /\ i < fz.2)) /\ ∀ i v, i < n -> c.get i = some v -> ∃ v', c'[e.2.1 + i]? = some v' /\ VR η v v' := by
 obtain ⟨o, h2, h3⟩ := h.obj b _ e hg he
 cases o with
 | cells c' el' fz => obtain ⟨rfl, h4⟩ := h3; exact ⟨c', fz, h2, h4⟩
 | _ => exact h3.elim
theorem WRel.ros {η : Env} {W : AW} {w : World} (h : WRel η W w) {b : Nat} {c : Tr Value} {n : Nat} {el : TypeId} {kin : List (Nat × Bool)}
  (hg : W.blocks.get b = some ⟨.ro c n el, kin⟩) {e : Nat × Nat × Nat} (he : η b = some e) : ∃ c' el' fz, w.heap[e.1]? = some (.cells c' el' fz) /\ e.2.1 + n <= c'.size /\
   ∀ i v, i < n -> c.get i = some v -> ∃ v', c'[e.2.1 + i]? = some v' /\ VR η v v' := by
 obtain ⟨o, h2, h3⟩ := h.obj b _ e hg he
 cases o with
 | cells c' el' fz => obtain ⟨_, h4⟩ := h3; exact ⟨c', el', fz, h2, h4⟩
 | _ => exact h3.elim
theorem cell?_of {w : World} {r i : Nat} {c : Array Value} {el : TypeId} {fz : Nat × Nat} (h : w.heap[r]? = some (.cells c el fz)) : w.cell? ⟨r, i, none⟩ = c[i]? := by
 simp [World.cell?, h]
theorem WRel.load {η : Env} {W : AW} {w : World} (h : WRel η W w) {b o : Nat} {v : Value} {e : Nat × Nat × Nat} (hg : W.cell b o = some v) (he : η b = some e) :
  ∃ v', w.cell? ⟨e.1, e.2.1 + o, none⟩ = some v' /\ VR η v v' := by
 unfold AW.cell at hg
 split at hg
 ·rename_i c n el kin hb
  split at hg
  ·rename_i hlt
   have hlt : o < n := by simpa [Nat.blt_eq] using hlt
   obtain ⟨c', fz, h2, h3, h4, h5, h6⟩ := h.cells hb he
   obtain ⟨v', h7, h8⟩ := h6 o v hlt hg
   exact ⟨v', by rw [cell?_of h2]; exact h7, h8⟩
  ·cases hg
 ·rename_i c n el kin hb
  split at hg
  ·rename_i hlt
   have hlt : o < n := by simpa [Nat.blt_eq] using hlt
   obtain ⟨c', el', fz, h2, h4, h6⟩ := h.ros hb he
   obtain ⟨v', h7, h8⟩ := h6 o v hlt hg
   exact ⟨v', by rw [cell?_of h2]; exact h7, h8⟩
  ·cases hg
 ·cases hg
def AW.kill (t : Tr ABlk) : List (Nat × Bool) -> Tr ABlk
 | [] => t
 | (b, _) :: l => (AW.kill t l).del b
def AW.store (W : AW) (b o : Nat) (v : Value) : Option AW :=
 match W.blocks.get b with
 | some ⟨.cells c n el, kin⟩ => match Nat.blt o n with
  | true => some ⟨(AW.kill W.blocks kin).set b ⟨.cells (c.set o v) n el, []⟩, W.next⟩
  | false => none
 | _ => none
theorem AW.get_kill {t : Tr ABlk} : ∀ {kin : List (Nat × Bool)} {b : Nat} {k : ABlk}, (AW.kill t kin).get b = some k -> t.get b = some k /\ ∀ f, (b, f) ∉ kin
 | [], _, _, h => ⟨h, fun f x => by simp at x⟩
 | (c, g) :: l, b, k, h => by
  simp only [AW.kill, Tr.get_del] at h
  split at h
  ·cases h
  ·rename_i hne
   obtain ⟨h1, h2⟩ := AW.get_kill h
   refine ⟨h1, fun f x => ?_⟩
   rcases List.mem_cons.1 x with x | x
   ·cases x; exact hne rfl
   ·exact h2 f x
theorem WRel.turn {η : Env} {W : AW} {w w' : World} (h : WRel η W w) {b : Nat} {k k' : ABlk} {e : Nat × Nat × Nat} (hb : W.blocks.get b = some k) (he : η b = some e)
  (hk : k'.kin = []) (o' : Obj) (ho' : w'.heap[e.1]? = some o') (hr : ORel η k'.obj e o')
  (hsize : w'.heap.size = w.heap.size) (hrest : ∀ r, r ≠ e.1 -> w'.heap[r]? = w.heap[r]?) :
  WRel η ⟨(AW.kill W.blocks k.kin).set b k', W.next⟩ w' := by
 constructor
 ·intro b₁ k₁ e₁ hg x1
  simp only [Tr.get_set] at hg
  by_cases hbb : b₁ = b
  ·subst hbb; rw [he] at x1; cases x1; simp at hg; subst hg; exact ⟨o', ho', hr⟩
  ·rw [if_neg hbb] at hg
   obtain ⟨hg1, hg2⟩ := AW.get_kill hg
   obtain ⟨o₁, x2, x3⟩ := h.obj b₁ k₁ e₁ hg1 x1
   refine ⟨o₁, ?_, x3⟩
   rw [hrest _ (fun hh => let ⟨f, y, _⟩ := h.apart b b₁ k k₁ e e₁ hb hg1 he x1 hh.symm (Ne.symm hbb); hg2 f y), x2]
 ·intro b₁ b₂ k₁ k₂ e₁ e₂ g1 g2 x1 x2 hee hne
  simp only [Tr.get_set] at g1 g2
  by_cases h1 : b₁ = b
  ·subst h1
   rw [if_neg (Ne.symm hne)] at g2
   obtain ⟨g3, g4⟩ := AW.get_kill g2
   exact let ⟨f, y, _⟩ := h.apart b₁ b₂ k k₂ e₁ e₂ hb g3 x1 x2 hee hne; absurd y (g4 f)
  ·rw [if_neg h1] at g1
   obtain ⟨g3, g4⟩ := AW.get_kill g1
   by_cases h2 : b₂ = b
   ·subst h2
    exact let ⟨f, y, _⟩ := h.apart b₂ b₁ k k₁ e₂ e₁ hb g3 x2 x1 hee.symm (Ne.symm hne); absurd y (g4 f)
   ·rw [if_neg h2] at g2
    exact h.apart b₁ b₂ k₁ k₂ e₁ e₂ g3 (AW.get_kill g2).1 x1 x2 hee hne
 ·exact h.next
 ·intro b e he; rw [hsize]; exact h.inHeap b e he
theorem Fr.turn {η : Env} {W W' : AW} {w w' : World} (hW : W.next = W'.next) {b : Nat} {e : Nat × Nat × Nat} (he : η b = some e) (hz : e.2.2 ≠ 0) (hfz : ∀ a, w'.frozen? a = w.frozen? a) (hsize : w'.heap.size = w.heap.size)
  (hrest : ∀ r, r ≠ e.1 -> w'.heap[r]? = w.heap[r]?) (ht : w'.tape = w.tape) (ho : w'.os = w.os) (hx : w'.output = w.output)
  (hsort : ∀ (c : Array Value) (el : TypeId) (fz : Nat × Nat), w.heap[e.1]? = some (.cells c el fz) -> ∃ c', w'.heap[e.1]? = some (.cells c' el fz) /\ c'.size = c.size) : Fr η W w η W' w' :=
 ⟨.refl η, by omega, fun r _ hn => hrest r (fun hh => hn b e he hz hh.symm), fun _ _ h _ => .inl h, hfz, ht, ho, hx, Nat.le_of_eq hW, fun _ _ h => .inl h,
  fun r c el fz x => by
   by_cases hr : r = e.1
   ·subst hr; exact hsort c el fz x
   ·exact ⟨c, by rw [hrest r hr]; exact x, rfl⟩⟩
theorem setCell_heap (w : World) (r i : Nat) (v : Value) (c : Array Value) (el : TypeId) (fz : Nat × Nat) (h : w.heap[r]? = some (.cells c el fz)) :
  (w.setCell ⟨r, i, none⟩ v).heap[r]? = some (.cells (c.setIfInBounds i v) el fz) := by
 simp [World.setCell, Array.getElem?_modify, h]
theorem setCell_heap_ne (w : World) (r i r' : Nat) (v : Value) (h : r' ≠ r) : (w.setCell ⟨r, i, none⟩ v).heap[r']? = w.heap[r']? := by
 simp [World.setCell, Array.getElem?_modify, Ne.symm h]
theorem frozen?_setCell' (w : World) (p : Addr) (v : Value) (a : Addr) : (w.setCell p v).frozen? a = w.frozen? a := by
 simp only [World.frozen?, World.setCell, Array.getElem?_modify]
 by_cases h : p.block = a.block
 ·rw [if_pos h]
  cases w.heap[a.block]? with
  | none => rfl
  | some o => cases o <;> rfl
 ·rw [if_neg h]
theorem frozen?_other {w w' : World} {r : Nat} {o o' : Obj} (h : w.heap[r]? = some o) (h' : w'.heap[r]? = some o') (hr : ∀ x, x ≠ r -> w'.heap[x]? = w.heap[x]?) (ho : ∀ c el fz, o ≠ .cells c el fz) (ho' : ∀ c el fz, o' ≠ .cells c el fz) (a : Addr) : w'.frozen? a = w.frozen? a := by
 by_cases hb : a.block = r
 ·simp only [World.frozen?, hb, h, h']
  cases o <;> cases o' <;> first | rfl | exact (ho _ _ _ rfl).elim | exact (ho' _ _ _ rfl).elim
 ·simp only [World.frozen?, hr _ hb]
theorem frozen?_cells {w w' : World} {r : Nat} {c c' : Array Value} {el : TypeId} {fz : Nat × Nat} (h : w.heap[r]? = some (.cells c el fz)) (h' : w'.heap[r]? = some (.cells c' el fz)) (hr : ∀ x, x ≠ r -> w'.heap[x]? = w.heap[x]?) (a : Addr) : w'.frozen? a = w.frozen? a := by
 by_cases hb : a.block = r
 ·simp only [World.frozen?, hb, h, h']
 ·simp only [World.frozen?, hr _ hb]
theorem frozen?_pushObj (w : World) (o : Obj) (ho : ∀ c el fz, o = .cells c el fz -> fz = (0, 0)) (a : Addr) : ({ w with heap := w.heap.push o } : World).frozen? a = w.frozen? a := by
 simp only [World.frozen?, Array.getElem?_push]
 by_cases h : a.block = w.heap.size
 ·rw [if_pos h]
  have : w.heap[a.block]? = none := by rw [h]; simp
  rw [this]
  cases o with
  | cells c el fz => have := ho c el fz rfl; subst this; simp
  | _ => rfl
 ·rw [if_neg h]
theorem setCell_size (w : World) (a : Addr) (v : Value) : (w.setCell a v).heap.size = w.heap.size := by simp [World.setCell]
theorem WRel.store {η : Env} {W W' : AW} {w : World} (h : WRel η W w) {b o : Nat} {v v' : Value} {e : Nat × Nat × Nat} (hg : W.store b o v = some W') (he : η b = some e)
  (hv : VR η v v') : (∃ u, w.cell? ⟨e.1, e.2.1 + o, none⟩ = some u) /\ w.frozen? ⟨e.1, e.2.1 + o, none⟩ = false /\
   WRel η W' (w.setCell ⟨e.1, e.2.1 + o, none⟩ v') /\ Fr η W w η W' (w.setCell ⟨e.1, e.2.1 + o, none⟩ v') := by
 unfold AW.store at hg
 split at hg
 ·rename_i c n el kin hb
  split at hg
  ·rename_i hlt
   have hlt : o < n := by simpa [Nat.blt_eq] using hlt
   cases hg
   obtain ⟨c', fz, h2, h3, h4, h5, h6⟩ := h.cells hb he
   refine ⟨⟨c'[e.2.1 + o]'(by omega), by rw [cell?_of h2]; exact Array.getElem?_eq_getElem _⟩, ?_, ?_, ?_⟩
   ·simp only [World.frozen?, h2]
    have := h5 (e.2.1 + o) (by omega) (by omega)
    simp only [Bool.and_eq_false_iff, decide_eq_false_iff_not]
    by_cases hf : fz.1 <= e.2.1 + o
    ·exact .inr (fun x => this ⟨hf, x⟩)
    ·exact .inl hf
   ·refine h.turn (k := ⟨.cells c n el, kin⟩) (k' := ⟨.cells (c.set o v) n el, []⟩) hb he rfl (.cells (c'.setIfInBounds (e.2.1 + o) v') el fz) (setCell_heap _ _ _ _ _ _ _ h2) ?_ (setCell_size _ _ _) (fun r hr => setCell_heap_ne _ _ _ _ _ hr)
    refine ⟨rfl, by simpa using h3, by simpa using h4, by simpa using h5, fun i u hi hu => ?_⟩
    rw [Tr.get_set] at hu
    by_cases hio : i = o
    ·subst hio; simp at hu; subst hu; exact ⟨v', by rw [Array.getElem?_setIfInBounds_self_of_lt (by omega)], hv⟩
    ·rw [if_neg hio] at hu
     obtain ⟨u', x, y⟩ := h6 i u hi hu
     exact ⟨u', by rw [Array.getElem?_setIfInBounds_ne (by omega)]; exact x, y⟩
   ·exact Fr.turn rfl he (by omega) (fun a => frozen?_setCell' w _ _ a) (setCell_size _ _ _) (fun r hr => setCell_heap_ne _ _ _ _ _ hr) rfl rfl rfl (fun c0 el0 fz0 hc0 => ⟨_, setCell_heap _ _ _ _ _ _ _ hc0, by simp⟩)
  ·cases hg
 ·cases hg
def AW.new (W : AW) (o : AObj) : AW := ⟨W.blocks.set W.next ⟨o, []⟩, W.next + 1⟩
theorem WRel.new {η : Env} {W : AW} {w : World} (h : WRel η W w) {o : AObj} {o' : Obj} {base size : Nat}
  (ho : ORel (η.add W.next (w.heap.size, base, size)) o (w.heap.size, base, size) o') (hnz : ∀ c el fz, o' = .cells c el fz -> fz = (0, 0)) :
  WRel (η.add W.next (w.heap.size, base, size)) (W.new o) { w with heap := w.heap.push o' } /\
   Fr η W w (η.add W.next (w.heap.size, base, size)) (W.new o) { w with heap := w.heap.push o' } := by
 have hfresh : η W.next = none := by
  cases hn : η W.next with
  | none => rfl
  | some e => exact absurd (h.next _ e hn) (Nat.lt_irrefl _)
 have hle := Env.le_add (w.heap.size, base, size) hfresh
 refine ⟨⟨?_, ?_, ?_, ?_⟩, ⟨hle, by simp, ?_, ?_, frozen?_pushObj w o' hnz, rfl, rfl, rfl, Nat.le_succ _, ?_, fun r c el fz x => ⟨c, by
  have hr := (Array.getElem?_eq_some_iff.1 x).1
  simp only [Array.getElem?_push]; rw [if_neg (Nat.ne_of_lt hr)]; exact x, rfl⟩⟩⟩
 ·intro b k e hg x0
  simp only [AW.new, Tr.get_set] at hg
  by_cases hb : b = W.next
  ·subst hb; simp at hg; subst hg
   rw [Env.add_self] at x0; cases x0
   exact ⟨o', by simp, ho⟩
  ·rw [if_neg hb] at hg
   have x1 : η b = some e := by simpa [Env.add, hb] using x0
   obtain ⟨o₁, x2, x3⟩ := h.obj b k e hg x1
   have := h.inHeap b e x1
   exact ⟨o₁, by simp [Array.getElem?_push, Nat.ne_of_lt this]; exact x2, x3.mono hle⟩
 ·intro b₁ b₂ k₁ k₂ e₁ e₂ g1 g2 x1 x2 hee hne
  simp only [AW.new, Tr.get_set] at g1 g2
  have old : ∀ b e, b ≠ W.next -> (η.add W.next (w.heap.size, base, size)) b = some e -> η b = some e := fun b e hb hx => by
   simpa [Env.add, hb] using hx
  by_cases h1 : b₁ = W.next
  ·have h2 : b₂ ≠ W.next := fun x => hne (h1.trans x.symm)
   subst h1
   rw [Env.add_self] at x1; cases x1
   have := h.inHeap b₂ e₂ (old _ _ h2 x2)
   omega
  ·by_cases h2 : b₂ = W.next
   ·subst h2
    rw [Env.add_self] at x2; cases x2
    have := h.inHeap b₁ e₁ (old _ _ h1 x1)
    omega
   ·rw [if_neg h1] at g1; rw [if_neg h2] at g2
    exact h.apart b₁ b₂ k₁ k₂ e₁ e₂ g1 g2 (old _ _ h1 x1) (old _ _ h2 x2) hee hne
 ·intro b e hx
  by_cases hb : b = W.next
  ·subst hb; simp [AW.new]
  ·have : η b = some e := by simpa [Env.add, hb] using hx
   have := h.next b e this
   simp only [AW.new]; omega
 ·intro b e hx
  by_cases hb : b = W.next
  ·subst hb; rw [Env.add_self] at hx; cases hx; simp
  ·have : η b = some e := by simpa [Env.add, hb] using hx
   have := h.inHeap b e this
   simp; omega
 ·intro r hr _
  simp [Array.getElem?_push, Nat.ne_of_lt hr]
 ·intro b e hx _
  by_cases hb : b = W.next
  ·subst hb; rw [Env.add_self] at hx; cases hx; exact .inr (.inl (Nat.le_refl _))
  ·exact .inl (by simpa [Env.add, hb] using hx)
 ·intro b e hx
  by_cases hb : b = W.next
  ·exact .inr (Nat.le_of_eq hb.symm)
  ·exact .inl (by simpa [Env.add, hb] using hx)
end Go.Eng
