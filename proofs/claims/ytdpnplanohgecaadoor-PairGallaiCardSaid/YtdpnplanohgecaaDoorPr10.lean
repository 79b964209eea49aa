/-
  PAIRGALLAI: for every graph, whatever its size, the law PairGallai of the package pair answers true, and the input reads as it did. The card: the variable math/bits.deBruijn64tab, which the law PairGallai comes to, holds what the program's text lays there (the tie is given). No other condition.
-/
import Derived.Test.YtdpnplanohgecaaDoorP39
import Derived.Test.YtdpnplanohgecaaDoorP41
import Derived.Test.YtdpnplanohgecaaDoorTie
import Derived.Test.YtdpnplanohgecaaDoorCards
import Derived.SevenTiedAt
set_option linter.unusedSimpArgs false
set_option linter.unusedVariables false
set_option linter.unusedSectionVars false
open Go Go.Eng
namespace Go.Proofs.YtdpnplanohgecaaDoor
open Go.ChangeShapes Go.WideShapes Go.ChangeAt Go.RowKit
/-- the call, from any world in which the table lies -/
theorem pairGallai_any (P0 : Int) (v0 u0 : Value) (l0 : List Edge) (hl0 : l0.length < 9223372036854775808) (W : World) (hv0 : absV W v0 = some u0) (hx0 : PairR (embW W) u0 l0) (hs0 : SlOk u0 l0.length) (hT : ∀ i (h : i < tabL.length), W.cell? ⟨0, i, none⟩ = some (.int .u8 tabL[i])) :
  Calls Tryd.prog 10 #[.agg #[.int .i64 P0, v0]] W fun e W' => e = .returned (.bool true) /\ Below W.heap.size W W' /\ ∀ a, W'.frozen? a = W.frozen? a := by
 obtain ⟨t1, t2, t3⟩ := tab_cells hT
 refine (emb_callsG T0_ok (globs_cells t1) (pairGallai_wp P0 hx0 hl0 t3 t2) (args' := #[.agg #[.int .i64 P0, v0]]) ?_).mono ?_
 ·exact (.cons (.agg _ _ rfl ((LR.toArray (.cons (.int _ _) (.cons (absV_vr hv0) (.nil _)))).2)) (.nil _))
 ·rintro e W' ⟨η, v, v', W2, rfl, hv, _, rfl, hO⟩
  cases hv
  exact ⟨rfl, ⟨hO.os, hO.tape, hO.output, hO.size, fun k hk => hO.keep k hk⟩, hO.froz⟩

set_option maxRecDepth 100000 in
theorem pairGallai_lifted (os : Os) (started : os.Started) (H : Type) (enc : TypeId × Value -> H) :
  ReturnsInHanded {} Tryd.checked os 10 .any (fun w args => (Rows.pairGallaiSpec.pre enc Tryd.prog Tryd.f10 Rows.pairGallaiRow.domain false w args /\ laidMet Tryd.prog Rows.pairGallaiRow.laid w) /\ sizedMet enc Tryd.prog Tryd.f10 (OpenSpec.ofChange Rows.pairGallaiSpec) false w args)
   (Rows.pairGallaiSpec.post enc Tryd.prog Tryd.f10 false true false false) := by
 refine returnsInHanded_of_change_and (C := Tryd.checked) (X := fun w _ => laidMet Tryd.prog Rows.pairGallaiRow.laid w) (fun _ _ _ hh h => h.of_heap hh) own started (by kernel_rfl) Tryd.func10
  (ChangeSpec.witness_at (enc := enc) (C := Tryd.checked) (os := os) (X := fun w _ => laidMet Tryd.prog Rows.pairGallaiRow.laid w) false (laidWorld os) #[.agg #[.int .i64 0, .slice none 0 0]] 8 rfl (by kernel_rfl) (by kernel_rfl) (by kernel_rfl) (by kernel_rfl) (by kernel_rfl) (laid_met os _)) ?_
 intro W base args ds gs before hval0 hW hcnd _ hL _
 have hval : ∀ (j : Nat) t v, Tryd.f10.params[j]? = some t -> args[j]? = some v -> Value.okWide Tryd.prog W .any base t v := hval0
 have hW' := hW
 obtain ⟨p, q, hA0, hV, rfl, hfz, hnd⟩ := hW
 have hA : DataW.TrodAll enc Tryd.prog W 0 (fun _ => true) true Tryd.f10.params.toList args.toList ds p := hA0
 rw [Tryd.params10] at hA hval
 obtain ⟨v0, d0, rfl, rfl, h0⟩ := trodAll_one hA
 obtain ⟨rfl, rfl⟩ := trodVars_none hV
 have h0k := h0
 obtain ⟨c0a, c0, y0a, y0, m0, rfl, _, hp0, hy0a, hy0⟩ := Joins.open_agg2 Tryd.underlying24 (by kernel_rfl) (by kernel_rfl) (hval 0 24 v0 rfl rfl) h0
 obtain ⟨P0, e0, _, _⟩ := DataW.trod_int Tryd.underlying3 hy0a
 cases e0
 obtain ⟨u0, l0, hv0, hx0, hl0, hs0⟩ := pairs_in2 Tryd.underlying22 Tryd.underlying55 (by kernel_rfl) Tryd.underlying3 (by kernel_rfl) hy0
 clear hA0 hval0
 have hlt0 : ∀ x ∈ p, x.block < W.heap.size := fun x hx => by simpa using hW'.lt x (by simp [hx])
 refine (pairGallai_any P0 c0 u0 l0 hl0 W hv0 hx0 hs0 (tab_of_laid hL)).mono fun e W' ⟨he, hB, hfr⟩ => ?_
 subst he
 exact ⟨_, rfl, post_of_same (pa := p) (pv := []) hW' (fun _ _ _ => trodAll_mk1 (shut_bool Tryd.underlying4 true))
  (fun sp hsp => trodAll_mk1 (WideElems.Trod_stays laidOut (by kernel_rfl) (of_decide_eq_true (by kernel_rfl)) h0k (fun x hx => hB.same (hlt0 x hx)) (fun x hx => hsp x (by simp [hx]))))
  (fun _ _ => rfl) rfl (hB.frame _) hfr (ok_one (by kernel_rfl) rfl (okWide_bool_mk Tryd.underlying4 true))⟩

theorem pairGallai_said : Rows.PairGallaiSaid :=
 OpenClaim.holds_of_wide 10 Tryd.f10 rfl rfl rfl rfl rfl rfl rfl ⟨rfl, rfl, rfl, rfl, rfl⟩ rfl rfl rfl rfl rfl (by kernel_rfl) Tryd.func10 (by kernel_rfl)
  (of_decide_eq_true (by kernel_rfl)) (by unfold Func.isWrapper; first | (rw [if_pos (by decide +kernel)]; kernel_rfl) | (rw [if_neg (by decide +kernel)]; exact ⟨rfl, rfl⟩))
  (fun os started H enc _ => pairGallai_lifted os started H enc)

theorem pairGallai_proved : Rows.PairGallaiCardSaid :=
 Claim7.holds_tied_plain_at .later [] [.data] true (true, "7f6964510d47deaea9a1009d04b6850565883c9b4f56f6d462bfa309cf94d134") false
  pairGallai_said (fun _ h => by cases h) (by kernel_rfl) (fun _ h => by cases h) pairGallai_row_tie rfl ⟨rfl, rfl⟩ (by kernel_rfl) rfl
  (fun f fn hf hfn => by
   obtain rfl : f = 10 := Option.some.inj ((show Tryd.prog.funcNamed "minikin/minikinlaw04.PairGallai" = some 10 by kernel_rfl).symm.trans hf) |>.symm
   obtain rfl : fn = Tryd.f10 := (Option.some.inj (Tryd.func10.symm.trans hfn)).symm
   exact ⟨by kernel_rfl, fun j t ht => by
    rw [Tryd.params10] at ht
    have h3 : t = 24 := by
     rcases j with _ | j
     ·simpa using ht.symm
     ·simp at ht
    rcases h3 with rfl
    exact (show Tryd.prog.wantsStandIn 24 = false by kernel_rfl)⟩)
  (by kernel_rfl)
end Go.Proofs.YtdpnplanohgecaaDoor
