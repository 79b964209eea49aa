/-
  PAIRPRICES: for every list of rows of numbers, every two lists of numbers and every number, whatever their sizes, the law PairPrices of the package pair answers true, and the input reads as it did. The card: the variable math/bits.deBruijn64tab, which the law PairPrices comes to, holds what the program's text lays there (the tie is given). No other condition.
-/
import Derived.Test.YtdpnplanohgecaaDoorP52
import Derived.Test.YtdpnplanohgecaaDoorTie
import Derived.Test.YtdpnplanohgecaaDoorCards
import Derived.SevenTiedAt
set_option linter.unusedSimpArgs false
set_option linter.unusedVariables false
set_option linter.unusedSectionVars false
open Go Go.Eng
namespace Go.Proofs.YtdpnplanohgecaaDoor
open Go.ChangeShapes Go.WideShapes Go.ChangeAt Go.RowKit
/-- the call, from any world in which the table lies -/
theorem pairPrices_any (v0 u0 : Value) (l0 : List (List Int)) (hl0 : l0.length < 9223372036854775808) (v1a u1a : Value) (l1a : List Int) (hl1a : l1a.length < 9223372036854775808) (v1b u1b : Value) (l1b : List Int) (hl1b : l1b.length < 9223372036854775808) (a2 : Int) (W : World) (hv0 : absV W v0 = some u0) (hx0 : MatS (embW W) u0 l0) (hs0 : SlOk u0 l0.length) (hb0 : ∀ r ∈ l0, r.length < 9223372036854775808 ∧ ∀ z ∈ r, -9223372036854775808 ≤ z ∧ z < 9223372036854775808) (hv1a : absV W v1a = some u1a) (hx1a : IntR (embW W) u1a l1a) (hs1a : SlOk u1a l1a.length) (hb1a : ∀ z ∈ l1a, -9223372036854775808 ≤ z ∧ z < 9223372036854775808) (hv1b : absV W v1b = some u1b) (hx1b : IntR (embW W) u1b l1b) (hs1b : SlOk u1b l1b.length) (hb1b : ∀ z ∈ l1b, -9223372036854775808 ≤ z ∧ z < 9223372036854775808) (hb2 : -9223372036854775808 ≤ a2 ∧ a2 < 9223372036854775808) (hT : ∀ i (h : i < tabL.length), W.cell? ⟨0, i, none⟩ = some (.int .u8 tabL[i])) :
    Calls Tryd.prog 7 #[v0, .agg #[v1a, v1b], .int .i64 a2] W fun e W' => e = .returned (.bool true) ∧ Below W.heap.size W W' ∧ ∀ a, W'.frozen? a = W.frozen? a := by
  obtain ⟨t1, t2, t3⟩ := tab_cells hT
  refine (emb_callsG T0_ok (globs_cells t1) (pairPrices_wp (mats_in hx0) hx1a hx1b hs1a hs1b a2 hl0 (fun r hr => (hb0 r hr).1) hl1a hl1b t3 t2) (args' := #[v0, .agg #[v1a, v1b], .int .i64 a2]) ?_).mono ?_
  · exact (.cons (absV_vr hv0) (.cons (.agg _ _ rfl ((LR.toArray (.cons (absV_vr hv1a) (.cons (absV_vr hv1b) (.nil _)))).2)) (.cons (.int _ _) (.nil _))))
  · rintro e W' ⟨η, v, v', W2, rfl, hv, _, rfl, hO⟩
    cases hv
    exact ⟨rfl, ⟨hO.os, hO.tape, hO.output, hO.size, fun k hk => hO.keep k hk⟩, hO.froz⟩

set_option maxRecDepth 100000 in
theorem pairPrices_lifted (os : Os) (started : os.Started) (H : Type) (enc : TypeId × Value → H) :
    ReturnsInHanded {} Tryd.checked os 7 .any (fun w args => (Rows.pairPricesSpec.pre enc Tryd.prog Tryd.f7 Rows.pairPricesRow.domain false w args ∧ laidMet Tryd.prog Rows.pairPricesRow.laid w) ∧ sizedMet enc Tryd.prog Tryd.f7 (OpenSpec.ofChange Rows.pairPricesSpec) false w args)
      (Rows.pairPricesSpec.post enc Tryd.prog Tryd.f7 false true false false) := by
  refine returnsInHanded_of_change_and (C := Tryd.checked) (X := fun w _ => laidMet Tryd.prog Rows.pairPricesRow.laid w) (fun _ _ _ hh h => h.of_heap hh) own started (by kernel_rfl) Tryd.func7
    (ChangeSpec.witness_at (enc := enc) (C := Tryd.checked) (os := os) (X := fun w _ => laidMet Tryd.prog Rows.pairPricesRow.laid w) false (laidWorld os) #[.slice none 0 0, .agg #[.slice none 0 0, .slice none 0 0], .int .i64 0] 8 rfl (by kernel_rfl) (by kernel_rfl) (by kernel_rfl) (by kernel_rfl) (by kernel_rfl) (laid_met os _)) ?_
  intro W base args ds gs before hval0 hW hcnd _ hL _
  have hval : ∀ (j : Nat) t v, Tryd.f7.params[j]? = some t → args[j]? = some v → Value.okWide Tryd.prog W .any base t v := hval0
  have hW' := hW
  obtain ⟨p, q, hA0, hV, rfl, hfz, hnd⟩ := hW
  have hA : DataW.TrodAll enc Tryd.prog W 0 (fun _ => true) true Tryd.f7.params.toList args.toList ds p := hA0
  rw [Tryd.params7] at hA hval
  obtain ⟨v0, v1, v2, d0, d1, d2, p0, p1, p2, rfl, rfl, rfl, h0, h1, h2⟩ := trodAll_three hA
  obtain ⟨rfl, rfl⟩ := trodVars_none hV
  have h0k := h0
  have h1k := h1
  have h2k := h2
  obtain ⟨sa0, sn0, sc0, rfl⟩ := okWide_slice Tryd.underlying61 (hval 0 61 v0 rfl rfl)
  obtain ⟨fu0, hf0⟩ := h0
  obtain ⟨u0, l0, hv0, hx0, hl0, hs0, hb0⟩ := mat_in2 (v := .slice sa0 sn0 sc0) Tryd.underlying61 Tryd.underlying62 (by kernel_rfl) Tryd.underlying2 (by kernel_rfl) hf0
  obtain ⟨c1a, c1b, u1a, u1b, l1a, l1b, rfl, hv1a, hx1a, hl1a, hs1a, hb1a, hv1b, hx1b, hl1b, hs1b, hb1b⟩ := two64_in Tryd.underlying73 Tryd.underlying62 (by kernel_rfl) (by kernel_rfl) Tryd.underlying2 (by kernel_rfl) (hval 1 73 v1 rfl rfl) h1
  obtain ⟨a2, rfl, _, _, hz2⟩ := open_int Tryd.underlying2 (hval 2 2 v2 rfl rfl) h2
  clear hA0 hval0
  have hlt0 : ∀ x ∈ p0, x.block < W.heap.size := fun x hx => by simpa using hW'.lt x (by simp [hx])
  have hlt1 : ∀ x ∈ p1, x.block < W.heap.size := fun x hx => by simpa using hW'.lt x (by simp [hx])
  have hlt2 : ∀ x ∈ p2, x.block < W.heap.size := fun x hx => by simpa using hW'.lt x (by simp [hx])
  refine (pairPrices_any _ u0 l0 hl0 _ u1a l1a hl1a _ u1b l1b hl1b a2 W hv0 hx0 hs0 hb0 hv1a hx1a hs1a hb1a hv1b hx1b hs1b hb1b (wf_i64 hz2) (tab_of_laid hL)).mono fun e W' ⟨he, hB, hfr⟩ => ?_
  subst he
  exact ⟨_, rfl, post_of_same (pa := p0 ++ p1 ++ p2) (pv := []) hW' (fun _ _ _ => trodAll_mk1 (shut_bool Tryd.underlying4 true))
    (fun sp hsp => by
      rw [List.append_assoc]
      exact trodAll_mk3 (WideElems.Trod_stays laidOut (by kernel_rfl) (of_decide_eq_true (by kernel_rfl)) h0k (fun x hx => hB.same (hlt0 x hx)) (fun x hx => hsp x (by simp [hx]))) (WideElems.Trod_stays laidOut (by kernel_rfl) (of_decide_eq_true (by kernel_rfl)) h1k (fun x hx => hB.same (hlt1 x hx)) (fun x hx => hsp x (by simp [hx]))) (WideElems.Trod_stays laidOut (by kernel_rfl) (of_decide_eq_true (by kernel_rfl)) h2k (fun x hx => hB.same (hlt2 x hx)) (fun x hx => hsp x (by simp [hx]))))
    (fun _ _ => rfl) rfl (hB.frame _) hfr (ok_one (by kernel_rfl) rfl (okWide_bool_mk Tryd.underlying4 true))⟩

theorem pairPrices_said : Rows.PairPricesSaid :=
  OpenClaim.holds_of_wide 7 Tryd.f7 rfl rfl rfl rfl rfl rfl rfl ⟨rfl, rfl, rfl, rfl, rfl⟩ rfl rfl rfl rfl rfl (by kernel_rfl) Tryd.func7 (by kernel_rfl)
    (of_decide_eq_true (by kernel_rfl)) (by unfold Func.isWrapper; first | (rw [if_pos (by decide +kernel)]; kernel_rfl) | (rw [if_neg (by decide +kernel)]; exact ⟨rfl, rfl⟩))
    (fun os started H enc _ => pairPrices_lifted os started H enc)

theorem pairPrices_proved : Rows.PairPricesCardSaid :=
  Claim7.holds_tied_plain_at .later [] [.data] true (true, "7f6964510d47deaea9a1009d04b6850565883c9b4f56f6d462bfa309cf94d134") false
    pairPrices_said (fun _ h => by cases h) (by kernel_rfl) (fun _ h => by cases h) pairPrices_row_tie rfl ⟨rfl, rfl⟩ (by kernel_rfl) rfl
    (fun f fn hf hfn => by
      obtain rfl : f = 7 := Option.some.inj ((show Tryd.prog.funcNamed "minikin/minikinlaw04.PairPrices" = some 7 by kernel_rfl).symm.trans hf) |>.symm
      obtain rfl : fn = Tryd.f7 := (Option.some.inj (Tryd.func7.symm.trans hfn)).symm
      exact ⟨by kernel_rfl, fun j t ht => by
        rw [Tryd.params7] at ht
        have h3 : t = 2 ∨ t = 61 ∨ t = 73 := by
          rcases j with _ | _ | _ | j
          · right; left; simpa using ht.symm
          · right; right; simpa using ht.symm
          · left; simpa using ht.symm
          · simp at ht
        rcases h3 with rfl | rfl | rfl
        · exact (show Tryd.prog.wantsStandIn 2 = false by kernel_rfl)
        · exact (show Tryd.prog.wantsStandIn 61 = false by kernel_rfl)
        · exact (show Tryd.prog.wantsStandIn 73 = false by kernel_rfl)⟩)
    (by kernel_rfl)
end Go.Proofs.YtdpnplanohgecaaDoor
