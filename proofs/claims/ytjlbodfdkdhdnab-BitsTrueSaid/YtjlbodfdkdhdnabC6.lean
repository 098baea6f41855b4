/- BitsTrue answers true and leaves its two knowledges and its lists alone, in every memory. -/
import Derived.Test.YtjlbodfdkdhdnabRows
import Derived.Test.YtjlbodfdkdhdnabFr
import Derived.Test.YtjlbodfdkdhdnabL6
import Derived.Test.YtjlbodfdkdhdnabOp2
import Derived.WalkKit
import Derived.ProofKit
import Derived.OpenShut
import Derived.ShutString
import Derived.ChangeOld
import Derived.Below
import Derived.Carry
namespace Go.Proofs.Ytjlbodfdkdhdnab.bitsTrue
open Go.ChangeShapes Go.WideShapes Go.ChangeAt Go.RowKit Go.Joins
set_option linter.unusedVariables false

set_option maxRecDepth 100000 in
theorem lifted (os : Os) (started : os.Started) (H : Type) (enc : TypeId × Value → H) :
    ReturnsInHanded {} Try.checked os 6 .any (Rows.bitsTrueSpec.pre6 enc Try.prog Try.f6 Rows.bitsTrueRow.domain false) (Rows.bitsTrueSpec.post enc Try.prog Try.f6 false true false false) := by
  refine returnsInHanded_of_change (C := Try.checked) own started (by kernel_rfl) Try.func6
    (ChangeSpec.witness6 (enc := enc) (C := Try.checked) false ⟨#[], #[.agg #[.slice none 0 0, .slice none 0 0, .slice none 0 0, .slice none 0 0], .slice none 0 0, .slice none 0 0], []⟩ 8 (by kernel_rfl) (by kernel_rfl) (by kernel_rfl) (by kernel_rfl)) ?_
  intro W base args ds gs before hval0 hW hcnd _
  have hval : ∀ (j : Nat) t v, Try.f6.params[j]? = some t → args[j]? = some v → Value.okWide Try.prog W .any base t v := hval0
  have hW' := hW
  obtain ⟨p, q, hA0, hV, rfl, hfz, hnd⟩ := hW
  have hA : DataW.TrodAll enc Try.prog W 0 (fun _ => true) true Try.f6.params.toList args.toList ds p := hA0
  rw [Try.params6] at hA hval
  obtain ⟨v0, vs0, d0, ds0, p0, q0, hargs, rfl, rfl, h0, r0⟩ := trodAll_cons hA
  obtain ⟨v1, vs1, d1, ds1, p1, q1, rfl, rfl, rfl, h1, r1⟩ := trodAll_cons r0
  obtain ⟨v2, vs2, d2, ds2, p2, q2, rfl, rfl, rfl, h2, r2⟩ := trodAll_cons r1
  obtain ⟨rfl, rfl, rfl⟩ := trodAll_nil r2
  obtain rfl : args = #[v0, v1, v2] := by cases args; simp_all
  obtain ⟨rfl, rfl⟩ := trodVars_none hV
  clear hA0
  have k0 := h0
  have lt0 : ∀ x ∈ p0, x.block < W.heap.size := by obtain ⟨m, hm⟩ := k0; exact DataW.trod_lt m _ _ _ hm
  obtain ⟨u0, t0, r0u, r0t, yu0, yt0, zu0, zt0, n0, n'0, rfl, hu0, ht0, hU0, hT0⟩ := open_two Try.underlying36 Try.underlying24 (by kernel_rfl) (by kernel_rfl) (by kernel_rfl) (hval 0 36 v0 rfl rfl) h0
  obtain ⟨A0, x0, e0, rfl, rd0, ln0, cp0, wf0⟩ := open_list Try.underlying22 Try.underlying3 (by kernel_rfl) hu0
  obtain ⟨A'0, x'0, e'0, rfl, rd'0, ln'0, cp'0, wf'0⟩ := open_list Try.underlying22 Try.underlying3 (by kernel_rfl) ht0
  obtain ⟨B0, X0, E0, rfl, Rd0, Ln0, Cp0, Wf0⟩ := open_list Try.underlying22 Try.underlying3 (by kernel_rfl) hU0
  obtain ⟨B'0, X'0, E'0, rfl, Rd'0, Ln'0, Cp'0, Wf'0⟩ := open_list Try.underlying22 Try.underlying3 (by kernel_rfl) hT0
  have k1 := h1
  have lt1 : ∀ x ∈ p1, x.block < W.heap.size := by obtain ⟨m, hm⟩ := k1; exact DataW.trod_lt m _ _ _ hm
  obtain ⟨a1, l1, c1, rfl⟩ := okWide_slice Try.underlying22 (hval 1 22 v1 rfl rfl)
  obtain ⟨A1, x1, e1, he1, rd1, ln1, cp1, wf1⟩ : ∃ (A : Option Addr) (xs : List Int) (c : Nat), Value.slice a1 l1 c1 = .slice A xs.length c ∧ Rd W W.heap.size .i64 A xs ∧ xs.length ≤ c ∧ c ≤ maxLen ∧ ∀ z ∈ xs, (Lit.int .i64 z).wf = true := by
    obtain ⟨fuel, hf⟩ := h1
    exact open_list Try.underlying22 Try.underlying3 (by kernel_rfl) (by simpa [Value.cells] using hf)
  obtain ⟨rfl, rfl, rfl⟩ : a1 = A1 ∧ l1 = x1.length ∧ c1 = e1 := by simpa using he1
  clear he1
  have k2 := h2
  have lt2 : ∀ x ∈ p2, x.block < W.heap.size := by obtain ⟨m, hm⟩ := k2; exact DataW.trod_lt m _ _ _ hm
  obtain ⟨a2, l2, c2, rfl⟩ := okWide_slice Try.underlying22 (hval 2 22 v2 rfl rfl)
  obtain ⟨A2, x2, e2, he2, rd2, ln2, cp2, wf2⟩ : ∃ (A : Option Addr) (xs : List Int) (c : Nat), Value.slice a2 l2 c2 = .slice A xs.length c ∧ Rd W W.heap.size .i64 A xs ∧ xs.length ≤ c ∧ c ≤ maxLen ∧ ∀ z ∈ xs, (Lit.int .i64 z).wf = true := by
    obtain ⟨fuel, hf⟩ := h2
    exact open_list Try.underlying22 Try.underlying3 (by kernel_rfl) (by simpa [Value.cells] using hf)
  obtain ⟨rfl, rfl, rfl⟩ : a2 = A2 ∧ l2 = x2.length ∧ c2 = e2 := by simpa using he2
  clear he2
  clear hval0
  refine (bitsTrue_any _ _ _ _ _ _ _ _ _ _ _ _ _ _ _ _ _ _ W (In.of rd0 ln0 cp0 wf0) (In.of rd'0 ln'0 cp'0 wf'0) (In.of Rd0 Ln0 Cp0 Wf0) (In.of Rd'0 Ln'0 Cp'0 Wf'0) (In.of rd1 ln1 cp1 wf1) (In.of rd2 ln2 cp2 wf2)).mono fun e W' ⟨he, bel⟩ => ?_
  subst he
  exact ⟨_, rfl, _, _, _, [], _, [], hW', trodAll_mk1 (shut_bool Try.underlying4 _), (trodAll_cons_mk (Below.trod laidOut (by kernel_rfl) (of_decide_eq_true (by kernel_rfl)) k0 bel lt0) (trodAll_cons_mk (Below.trod laidOut (by kernel_rfl) (of_decide_eq_true (by kernel_rfl)) k1 bel lt1) (trodAll_cons_mk (Below.trod laidOut (by kernel_rfl) (of_decide_eq_true (by kernel_rfl)) k2 bel lt2) trodAll_mk0))), rfl, bel.frame _, fun h => by cases h⟩

theorem holds : Rows.BitsTrueSaid :=
  OpenClaim.holds_of_wide 6 Try.f6 rfl rfl rfl rfl rfl rfl rfl ⟨rfl, rfl, rfl, rfl, rfl⟩ rfl rfl rfl rfl rfl (by kernel_rfl) Try.func6 (by kernel_rfl)
    (of_decide_eq_true (by kernel_rfl)) (by unfold Func.isWrapper; first | (rw [if_pos (by decide +kernel)]; kernel_rfl) | (rw [if_neg (by decide +kernel)]; exact ⟨rfl, rfl⟩))
    (fun os started H enc _ => lifted os started H enc)
end Go.Proofs.Ytjlbodfdkdhdnab.bitsTrue
