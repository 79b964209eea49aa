import Derived.Test.YtdpnplanohgecaaDoorEngX
set_option linter.unusedSimpArgs false
set_option linter.unusedVariables false
set_option linter.unusedSectionVars false
namespace Go.Eng
section
variable {T : Tabs} {P : Program} (hT : T.Ok P) {ih : Ih} (hih : IhOk T P ih) {ro : Option Nat} {ops : Array Oper} {wr bits : Tr Nat} {A : AAct} {W₀ W' : AW} {S : DSt} (hp : Plan T ih ro ops wr bits A W₀ W' S)
def unlisted (listed : Array Bool) : Nat := listed.toList.countP (fun x => !x)
theorem unlisted_set {listed : Array Bool} {i : Nat} (hi : i < listed.size) (h : listed.getD i false = false) : unlisted (listed.setIfInBounds i true) + 1 = unlisted listed := by
 unfold unlisted
 have hv : listed[i] = false := by simpa [hi] using h
 have hi' : i < listed.toList.length := by simpa using hi
 rw [Array.toList_setIfInBounds, List.countP_set hi']
 have hg : listed.toList[i] = false := by simpa using hv
 have hpos : 0 < listed.toList.countP (fun x => !x) := List.countP_pos_iff.2 ⟨listed.toList[i], List.getElem_mem hi', by rw [hg]; rfl⟩
 rw [hg]
 simp only [Bool.not_false, if_true, Bool.not_true, Bool.false_eq_true, if_false]
 omega
theorem unlisted_zero {listed : Array Bool} (h : unlisted listed = 0) (i : Nat) (hi : i < listed.size) : listed.getD i false = true := by
 unfold unlisted at h
 rw [List.countP_eq_zero] at h
 have := h listed[i] (by simp)
 simpa [hi] using this
include hp in
theorem ready_exists {listed : Array Bool} (hsz : listed.size = ops.size) (h : ∃ i, i < ops.size /\ listed.getD i false = false) : Region.ready .any ops listed ≠ [] := by
 have key : ∀ n, ∀ i, i < n -> i < ops.size -> listed.getD i false = false -> Region.ready .any ops listed ≠ [] := by
  intro n
  induction n with
  | zero => intro i hi; exact absurd hi (Nat.not_lt_zero _)
  | succ n ihn =>
   intro i hin hi hl
   by_cases hex : ∃ i', i' < i /\ listed.getD i' false = false
   ·obtain ⟨i', h1, h2⟩ := hex
    exact ihn i' (by omega) (by omega) h2
   ·have ho : ops[i]? = some ops[i] := Array.getElem?_eq_getElem hi
    obtain ⟨m, hm, hb, _⟩ := hp.bitsOk i _ ho
    have : i ∈ Region.ready .any ops listed := by
     rw [mem_ready]
     refine ⟨?_, _, ho, fun e he hbd => ?_⟩
     ·have hlt : i < listed.size := by omega
      simp [hlt] at hl ⊢; exact hl
     ·have hlt := hb e (Array.mem_toList_iff.2 he) (by
       unfold Region.binds at hbd
       unfold bindsAny
       split at hbd <;> simp_all)
      cases hx : listed.getD e.on false with
      | true => rfl
      | false => exact absurd ⟨_, hlt, hx⟩ hex
    intro hnil
    rw [hnil] at this; cases this
 obtain ⟨i, h1, h2⟩ := h
 exact key (i + 1) i (Nat.lt_succ_self _) h1 h2
include hT hih hp in
theorem draw_go {η₀ : Env} {w₀ : World} (hG : GRel T η₀) {b : Frame} (hro : RoRel η₀ ro b.roundOf) {cs : List Frame} (hk : Ctx b.kind cs) (k : List Item) :
  ∀ (fuel t : Nat) (listed : Array Bool) (j : Nat) (η : Env) (a : Act) (w : World), Mid wr bits ops A W₀ S η₀ w₀ listed j η a w -> unlisted listed <= fuel ->
   ∃ listed' j' η' a' w', Mid wr bits ops A W₀ S η₀ w₀ listed' j' η' a' w' /\ (∀ i, i < ops.size -> listed'.getD i false = true) /\
    Steps P (lone (b.atR a (.inRegion ops (Region.linearise.go .any ops fuel t listed []) :: k)) cs w) (lone (b.atR a' (.inRegion ops [] :: k)) cs w') := by
 intro fuel
 induction fuel with
 | zero =>
  intro t listed j η a w hm hu
  exact ⟨listed, j, η, a, w, hm, fun i hi => unlisted_zero (Nat.le_zero.1 hu) i (by rw [hm.size]; exact hi), by simp [Region.linearise.go]; exact .refl _ _⟩
 | succ fuel ihf =>
  intro t listed j η a w hm hu
  have hgo : Region.linearise.go .any ops (fuel + 1) t listed [] = (match (Region.ready .any ops listed)[t % (Region.ready .any ops listed).length]? with
   | some i => Region.linearise.go .any ops fuel (t / (Region.ready .any ops listed).length) (listed.setIfInBounds i true) [i]
   | none => []) := by
   simp only [Region.linearise.go]; rfl
  rw [hgo]
  cases hr : (Region.ready .any ops listed)[t % (Region.ready .any ops listed).length]? with
  | none =>
   have hnil : Region.ready .any ops listed = [] := by
    cases hrd : Region.ready .any ops listed with
    | nil => rfl
    | cons x l =>
     rw [hrd] at hr
     have := List.getElem?_eq_none_iff.1 hr
     have h2 := Nat.mod_lt t (show 0 < (x :: l).length by simp)
     omega
   refine ⟨listed, j, η, a, w, hm, fun i hi => ?_, .refl _ _⟩
   cases hx : listed.getD i false with
   | true => rfl
   | false => exact absurd hnil (ready_exists hp hm.size ⟨i, hi, hx⟩)
  | some i =>
   have hi := List.mem_of_getElem? hr
   have hlt : i < listed.size := by
    obtain ⟨_, o, ho, _⟩ := mem_ready.1 hi
    rw [hm.size]; exact (Array.getElem?_eq_some_iff.1 ho).1
   have hni : listed.getD i false = false := by
    have h1 := (mem_ready.1 hi).1
    simp [hlt] at h1 ⊢; exact h1
   have hus := unlisted_set hlt hni
   simp only
   rw [linearise_go_acc, List.reverse_singleton, List.singleton_append]
   obtain ⟨j', η', a', w', q1, q2⟩ := mid_step hT hih hp hm hi hG hro hk (Region.linearise.go .any ops fuel (t / (Region.ready .any ops listed).length) (listed.setIfInBounds i true) []) k
   obtain ⟨listed'', j'', η'', a'', w'', g1, g2, g3⟩ := ihf (t / (Region.ready .any ops listed).length) _ j' η' a' w' q1 (by omega)
   exact ⟨listed'', j'', η'', a'', w'', g1, g2, q2.trans g3⟩
end
theorem draw_ok {T : Tabs} {P : Program} (hT : T.Ok P) {ih : Ih} (hih : IhOk T P ih) : DrawOk T P ih := by
 intro ro ops A W A' W' h η w a b k cs t hw hG ha hro hk
 unfold aDraw at h
 split at h
 case h_2 => cases h
 rename_i wr bits hwr hbits
 split at h
 case h_1 => cases h
 rename_i W₁ S hrun
 split at h
 case h_2 => cases h
 rename_i hch hli hfr
 split at h
 case h_2 => cases h
 rename_i A₁ hput
 cases h
 have hinv : DInv (⟨.nil, .nil, [], [], .nil⟩ : DSt) := ⟨fun i _ => ⟨Tr.get_nil _, Tr.get_nil _⟩, rfl, fun h hh => (by cases hh), List.nodup_nil⟩
 have hok := dRun_ok _ _ _ _ _ hrun hinv
 obtain ⟨w1, _, w3⟩ := dWr_spec ops.toList 0 _ wr hwr
 have wr1 : ∀ d q, wr.get d = some q -> ∃ o, ops.toList[q]? = some o /\ o.dst = some d := by
  intro d q hq
  rcases w1 d q hq with h1 | ⟨o, _, h2, h3⟩
  ·rw [Tr.get_nil] at h1; cases h1
  ·exact ⟨o, by simpa using h2, h3⟩
 have wr2 : ∀ (j : Nat) (o : Oper) d, ops.toList[j]? = some o -> o.dst = some d -> wr.get d = some j := by
  intro j o d h1 h2; have := w3 j o d h1 h2; rwa [Nat.zero_add] at this
 obtain ⟨_, b2, b3⟩ := dBitsAll_spec ops.toList 0 _ bits hbits (fun j k hj => by rw [Tr.get_nil] at hj; cases hj)
 obtain ⟨p1, p2, p3, p4, p5⟩ := dPut_spec wr1 wr2 ops.toList 0 A A' (fun j => by rw [Nat.zero_add]) hput
 have hp : Plan T ih ro ops wr bits A W W' S := by
  refine ⟨fun d q hq => ?_, fun j o d h1 h2 => wr2 j o d (by simpa using h1) h2, fun i o ho => ?_, fun i o ho => ?_, fun i o d ho hd => p4 i o d (by simpa using ho) hd, fun i v hv => ?_, hch, hli, hfr, ?_, ?_, hok.len, hok.last, hok.dup, hok.hv⟩
  ·obtain ⟨o, h1, h2⟩ := wr1 d q hq; exact ⟨o, by simpa using h1, h2⟩
  ·have := b3 i o (by simpa using ho); rwa [Nat.zero_add] at this
  ·have := p3 i o (by simpa using ho); rwa [Nat.zero_add] at this
  ·rcases dRun_fact _ _ _ _ _ hrun hinv i v hv with h1 | h1
   ·rw [Tr.get_nil] at h1; cases h1
   ·exact h1
  ·exact dRun_disj _ _ _ _ _ hrun (fun i lo hi h => by rw [Tr.get_nil] at h; cases h) (fun i i' lo hi lo' hi' _ h => by rw [Tr.get_nil] at h; cases h)
  ·exact dRun_low _ _ _ _ _ hrun _ (Nat.le_refl _) (fun i lo hi h => by rw [Tr.get_nil] at h; cases h)
 have hrep : ∀ i, (Array.replicate ops.size false).getD i false = false := by
  intro i
  by_cases hi : i < ops.size
  ·simp [hi]
  ·simp [hi]
 have hmid : Mid wr bits ops A W S η w (Array.replicate ops.size false) 0 η a w := by
  obtain ⟨Wn, r, e1, e2⟩ := hok.ws
  simp only [List.nil_append] at e1
  refine ⟨by simp, fun i m q h => ?_, fun r h hr => ?_, ⟨Wn, by rw [e1]; rfl, hw.grow e2, e2.1⟩, .refl _ _ _, fun b e he => .inl (hw.next b e he), ⟨ha.1.1, fun d v hv => ?_⟩, ha.2⟩
  ·rw [hrep] at h; cases h
  ·rw [hrep]; simp
  ·have : A.tmps.get d = some v := by
    unfold curD at hv
    split at hv
    ·rw [if_neg (by rw [hrep]; simp)] at hv; exact hv
    ·exact hv
   exact ha.1.2 d v this
 obtain ⟨listed, j, η', a', w', hm, hall, hs⟩ := draw_go hT hih hp hG hro hk k ops.size t _ _ _ _ _ hmid (by
  unfold unlisted
  exact Nat.le_trans List.countP_le_length (by simp))
 have hj : S.hs.length <= j := by
  cases Nat.lt_or_ge j S.hs.length with
  | inr h => exact h
  | inl h =>
   have hr : S.hs[j]? = some S.hs[j] := List.getElem?_eq_getElem h
   have hmem := List.mem_of_getElem? hr
   cases hv : S.vals.get S.hs[j] with
   | none => exact absurd hv (hp.hv _ hmem)
   | some v =>
    obtain ⟨o, _, _, ho, _⟩ := hp.fact _ _ hv
    have hlt : S.hs[j] < ops.size := by
     have := (List.getElem?_eq_some_iff.1 ho).1; simpa using this
    exact absurd ((hm.heavy j _ hr).1 (hall _ hlt)) (Nat.lt_irrefl _)
 obtain ⟨Wj, hWj, hwj, hW0⟩ := hm.world
 have hWe : Wj = W' := by
  obtain ⟨r, hr⟩ := hp.last
  have hlen := hp.len
  have hjlt := (List.getElem?_eq_some_iff.1 hWj).1
  rw [hr] at hWj hlen hjlt
  simp at hlen hjlt
  rw [List.getElem?_append_right (by omega), show j - r.length = 0 from by omega] at hWj
  simpa using hWj.symm
 subst hWe
 refine ⟨η', a', w', hm.frame.to hW0, hwj, ⟨⟨by rw [hm.slots.1, p1], fun d v hv => ?_⟩, by rw [p2]; exact hm.defers⟩, hs⟩
 refine hm.slots.2 d v ?_
 rw [p5 d] at hv
 unfold curD
 split at hv
 ·rename_i q hq
  rw [hq]
  obtain ⟨o, h1, h2⟩ := wr1 d q hq
  have hlt : q < ops.size := by have := (List.getElem?_eq_some_iff.1 h1).1; simpa using this
  simp only [hall q hlt, if_true]
  rw [if_pos (Nat.zero_le _)] at hv
  exact hv
 ·rename_i hq
  rw [hq]; exact hv
theorem ev_ok {T : Tabs} {P : Program} (hT : T.Ok P) : ∀ n, IhOk T P (ev T n)
 | 0 => ⟨⟨fun _ _ _ _ _ _ _ h => (by cases h)⟩, ⟨fun _ _ _ _ _ _ _ h => (by cases h)⟩, fun _ _ _ _ _ h => (by cases h), fun _ _ _ _ _ _ _ _ _ h => (by cases h), fun _ _ _ h => (by cases h)⟩
 | n + 1 => by
  have hih := ev_ok hT n
  exact ⟨code_ok hT hih (draw_ok hT hih), loop_ok hT hih, call_ok hT hih, round_ok hT hih, defers_ok hT hih⟩
end Go.Eng
