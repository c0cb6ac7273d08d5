/-
  'Rows.FnExactFamilyOfPowersSaid' is proved: at every argument that can be read the law returns true and the arguments read as they did; no condition beyond the row's own.
  The frame is written by a program of ours after the guide's template; the walk lies in YthomkmbobaehkaaLawPw.
-/
import Derived.Test.YthomkmbobaehkaaRows
import Derived.Test.YthomkmbobaehkaaLawPw
import Derived.WalkKit
import Derived.ProofKit
import Derived.OpenShut
import Derived.ShutString
import Derived.ChangeOld
import Derived.Below
import Derived.Lib.SmallJoins
namespace Go.Proofs.Ythomkmbobaehkaa.fnExactFamilyOfPowers
open Go.ChangeShapes Go.WideShapes Go.ChangeAt Go.RowKit
open Go.ChangeMaps (open_string shut_string)
set_option linter.unusedVariables false

theorem own : ownKnob Try.prog.godebug = none := by kernel_rfl
theorem laidOut : laidOutB Try.prog = true := by kernel_rfl

set_option maxRecDepth 100000 in
theorem lifted (os : Os) (started : os.Started) (H : Type) (enc : TypeId × Value → H) :
    ReturnsInHanded {} Try.checked os 8 .any (Rows.fnExactFamilyOfPowersSpec.pre6 enc Try.prog Try.f8 Rows.fnExactFamilyOfPowersRow.domain false) (Rows.fnExactFamilyOfPowersSpec.post enc Try.prog Try.f8 false true false false) := by
  refine returnsInHanded_of_change (C := Try.checked) own started (by kernel_rfl) Try.func8
    (ChangeSpec.witness6 (enc := enc) (C := Try.checked) false ⟨#[], #[.agg #[.string ByteArray.empty, .string ByteArray.empty, .int .i64 0]], []⟩ 8 (by kernel_rfl) (by kernel_rfl) (by kernel_rfl) (by kernel_rfl)) ?_
  intro W base args ds gs before hval0 hW hcnd _
  have hval : ∀ (j : Nat) t v, Try.f8.params[j]? = some t → args[j]? = some v → Value.okWide Try.prog W .any base t v := hval0
  have hW' := hW
  obtain ⟨p, q, hA0, hV, rfl, hfz, hnd⟩ := hW
  have hA : DataW.TrodAll enc Try.prog W 0 (fun _ => true) true Try.f8.params.toList args.toList ds p := hA0
  rw [Try.params8] at hA hval
  obtain ⟨v0, vs0, d0, ds0, p0, q0, hargs, rfl, rfl, h0, r0⟩ := trodAll_cons hA
  obtain ⟨rfl, rfl, rfl⟩ := trodAll_nil r0
  obtain rfl : args = #[v0] := by cases args; simp_all
  obtain ⟨rfl, rfl⟩ := trodVars_none hV
  have k0 := h0
  have lt0 : ∀ x ∈ p0, x.block < W.heap.size := by obtain ⟨m, hm⟩ := k0; exact DataW.trod_lt m _ _ _ hm
  obtain ⟨u0, x0, j0, y0, z0, q90, n0, rfl, _, _, hu0, hx0, hj0⟩ := Go.Joins.open_agg3 Try.underlying59 (by kernel_rfl) (by kernel_rfl) (hval 0 59 v0 rfl rfl) h0
  obtain ⟨sl0, hls0, _, wl0⟩ := DataW.trod_string Try.underlying9 hu0
  obtain rfl : u0 = .string sl0 := by simpa using hls0
  obtain ⟨sr0, hrs0, _, wr0⟩ := DataW.trod_string Try.underlying9 hx0
  obtain rfl : x0 = .string sr0 := by simpa using hrs0
  obtain ⟨sn0, hns0, _, wn0⟩ := DataW.trod_int Try.underlying2 hj0
  obtain rfl : j0 = .int .i64 sn0 := by simpa using hns0
  clear hA0 hval0
  refine (law_FnExactFamilyOfPowers sl0 sr0 sn0 W wl0 wr0 wn0).mono fun e W' ⟨he, bel⟩ => ?_
  subst he
  exact ⟨_, rfl, _, _, _, [], _, [], hW', trodAll_mk1 (shut_bool Try.underlying4 _), (trodAll_cons_mk (Below.trod laidOut (by kernel_rfl) (of_decide_eq_true (by kernel_rfl)) k0 bel lt0) trodAll_mk0), rfl, bel.frame _, fun h => by cases h⟩


theorem over : Rows.fnExactFamilyOfPowersRow.holds Try.pinned (OpenSpec.ofChange Rows.fnExactFamilyOfPowersSpec) :=
  OpenClaim.holds_of_wide 8 Try.f8 rfl rfl rfl rfl rfl rfl rfl ⟨rfl, rfl, rfl, rfl, rfl⟩ rfl rfl rfl rfl rfl (by kernel_rfl) Try.func8 (by kernel_rfl)
    (of_decide_eq_true (by kernel_rfl)) (by unfold Func.isWrapper; first | (rw [if_pos (by decide +kernel)]; kernel_rfl) | (rw [if_neg (by decide +kernel)]; exact ⟨rfl, rfl⟩))
    (fun os started H enc _ => lifted os started H enc)

theorem proved : Rows.FnExactFamilyOfPowersSaid := over
#print axioms proved
end Go.Proofs.Ythomkmbobaehkaa.fnExactFamilyOfPowers
