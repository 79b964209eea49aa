/-
  PAIRASSIGNS: for every list of rows of numbers, whatever their sizes, the law PairAssigns of the package pair answers true, and the input reads as it did. The card: the variable math/bits.deBruijn64tab, which the law PairAssigns comes to, holds what the program's text lays there (the tie is given). No other condition.
-/
import Derived.Test.YtdpnplanohgecaaDoorP52
import Derived.Test.YtdpnplanohgecaaDoorP53
import Derived.Test.YtdpnplanohgecaaDoorTie
import Derived.Test.YtdpnplanohgecaaDoorCards
import Derived.SevenTiedAt
set_option linter.unusedSimpArgs false
set_option linter.unusedVariables false
set_option linter.unusedSectionVars false
open Go Go.Eng
namespace Go.Proofs.YtdpnplanohgecaaDoor
open Go.ChangeShapes Go.WideShapes Go.ChangeAt Go.RowKit
/-- the call, from any world in which the table lies -/
theorem pairAssigns_any (v0 u0 : Value) (l0 : List (List Int)) (hl0 : l0.length < 9223372036854775808) (W : World) (hv0 : absV W v0 = some u0) (hx0 : MatS (embW W) u0 l0) (hs0 : SlOk u0 l0.length) (hb0 : ∀ r ∈ l0, r.length < 9223372036854775808 ∧ ∀ z ∈ r, -9223372036854775808 ≤ z ∧ z < 9223372036854775808) (hT : ∀ i (h : i < tabL.length), W.cell? ⟨0, i, none⟩ = some (.int .u8 tabL[i])) :
    Calls Tryd.prog 6 #[v0] W fun e W' => e = .returned (.bool true) ∧ Below W.heap.size W W' ∧ ∀ a, W'.frozen? a = W.frozen? a := by
  obtain ⟨t1, t2, t3⟩ := tab_cells hT
  refine (emb_callsG T0_ok (globs_cells t1) (pairAssigns_wp hx0 hl0 (fun r hr => (hb0 r hr).1) t3 t2) (args' := #[v0]) ?_).mono ?_
  · exact (.cons (absV_vr hv0) (.nil _))
  · rintro e W' ⟨η, v, v', W2, rfl, hv, _, rfl, hO⟩
    cases hv
    exact ⟨rfl, ⟨hO.os, hO.tape, hO.output, hO.size, fun k hk => hO.keep k hk⟩, hO.froz⟩

set_option maxRecDepth 100000 in
theorem pairAssigns_lifted (os : Os) (started : os.Started) (H : Type) (enc : TypeId × Value → H) :
    ReturnsInHanded {} Tryd.checked os 6 .any (fun w args => (Rows.pairAssignsSpec.pre enc Tryd.prog Tryd.f6 Rows.pairAssignsRow.domain false w args ∧ laidMet Tryd.prog Rows.pairAssignsRow.laid w) ∧ sizedMet enc Tryd.prog Tryd.f6 (OpenSpec.ofChange Rows.pairAssignsSpec) false w args)
      (Rows.pairAssignsSpec.post enc Tryd.prog Tryd.f6 false true false false) := by
  refine returnsInHanded_of_change_and (C := Tryd.checked) (X := fun w _ => laidMet Tryd.prog Rows.pairAssignsRow.laid w) (fun _ _ _ hh h => h.of_heap hh) own started (by kernel_rfl) Tryd.func6
    (ChangeSpec.witness_at (enc := enc) (C := Tryd.checked) (os := os) (X := fun w _ => laidMet Tryd.prog Rows.pairAssignsRow.laid w) false (laidWorld os) #[.slice none 0 0] 8 rfl (by kernel_rfl) (by kernel_rfl) (by kernel_rfl) (by kernel_rfl) (by kernel_rfl) (laid_met os _)) ?_
  intro W base args ds gs before hval0 hW hcnd _ hL _
  have hval : ∀ (j : Nat) t v, Tryd.f6.params[j]? = some t → args[j]? = some v → Value.okWide Tryd.prog W .any base t v := hval0
  have hW' := hW
  obtain ⟨p, q, hA0, hV, rfl, hfz, hnd⟩ := hW
  have hA : DataW.TrodAll enc Tryd.prog W 0 (fun _ => true) true Tryd.f6.params.toList args.toList ds p := hA0
  rw [Tryd.params6] at hA hval
  obtain ⟨v0, d0, rfl, rfl, h0⟩ := trodAll_one hA
  obtain ⟨rfl, rfl⟩ := trodVars_none hV
  have h0k := h0
  obtain ⟨sa0, sn0, sc0, rfl⟩ := okWide_slice Tryd.underlying61 (hval 0 61 v0 rfl rfl)
  obtain ⟨fu0, hf0⟩ := h0
  obtain ⟨u0, l0, hv0, hx0, hl0, hs0, hb0⟩ := mat_in2 (v := .slice sa0 sn0 sc0) Tryd.underlying61 Tryd.underlying62 (by kernel_rfl) Tryd.underlying2 (by kernel_rfl) hf0
  clear hA0 hval0
  have hlt0 : ∀ x ∈ p, x.block < W.heap.size := fun x hx => by simpa using hW'.lt x (by simp [hx])
  refine (pairAssigns_any _ u0 l0 hl0 W hv0 hx0 hs0 hb0 (tab_of_laid hL)).mono fun e W' ⟨he, hB, hfr⟩ => ?_
  subst he
  exact ⟨_, rfl, post_of_same (pa := p) (pv := []) hW' (fun _ _ _ => trodAll_mk1 (shut_bool Tryd.underlying4 true))
    (fun sp hsp => trodAll_mk1 (WideElems.Trod_stays laidOut (by kernel_rfl) (of_decide_eq_true (by kernel_rfl)) h0k (fun x hx => hB.same (hlt0 x hx)) (fun x hx => hsp x (by simp [hx]))))
    (fun _ _ => rfl) rfl (hB.frame _) hfr (ok_one (by kernel_rfl) rfl (okWide_bool_mk Tryd.underlying4 true))⟩

theorem pairAssigns_said : Rows.PairAssignsSaid :=
  OpenClaim.holds_of_wide 6 Tryd.f6 rfl rfl rfl rfl rfl rfl rfl ⟨rfl, rfl, rfl, rfl, rfl⟩ rfl rfl rfl rfl rfl (by kernel_rfl) Tryd.func6 (by kernel_rfl)
    (of_decide_eq_true (by kernel_rfl)) (by unfold Func.isWrapper; first | (rw [if_pos (by decide +kernel)]; kernel_rfl) | (rw [if_neg (by decide +kernel)]; exact ⟨rfl, rfl⟩))
    (fun os started H enc _ => pairAssigns_lifted os started H enc)

theorem pairAssigns_proved : Rows.PairAssignsCardSaid :=
  Claim7.holds_tied_plain_at .later [] [.data] true (true, "7f6964510d47deaea9a1009d04b6850565883c9b4f56f6d462bfa309cf94d134") false
    pairAssigns_said (fun _ h => by cases h) (by kernel_rfl) (fun _ h => by cases h) pairAssigns_row_tie rfl ⟨rfl, rfl⟩ (by kernel_rfl) rfl
    (fun f fn hf hfn => by
      obtain rfl : f = 6 := Option.some.inj ((show Tryd.prog.funcNamed "minikin/minikinlaw04.PairAssigns" = some 6 by kernel_rfl).symm.trans hf) |>.symm
      obtain rfl : fn = Tryd.f6 := (Option.some.inj (Tryd.func6.symm.trans hfn)).symm
      exact ⟨by kernel_rfl, fun j t ht => by
        rw [Tryd.params6] at ht
        have h3 : t = 61 := by
          rcases j with _ | j
          · simpa using ht.symm
          · simp at ht
        rcases h3 with rfl
        exact (show Tryd.prog.wantsStandIn 61 = false by kernel_rfl)⟩)
    (by kernel_rfl)
end Go.Proofs.YtdpnplanohgecaaDoor
