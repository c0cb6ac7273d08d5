/-
  EqualTo, of the model: a contract.
-/
import Derived.Test.YtpjidcfdcpjafaaEqS
namespace Go.Proofs.Ytpjidcfdcpjafaa
open Go.RowKit Go
set_option linter.unusedVariables false

theorem specEq_any (vf vg : Value) (f g : List ByteArray) (l n : Int) (B C : Nat) (w : World) (hf : Row w B vf (f.map Value.string)) (hB : B ≤ w.heap.size) (hg : Row w C vg (g.map Value.string)) (hC : C ≤ w.heap.size) (hfl : f.length ≤ 1048576) (hgl : g.length ≤ 1048576) (hfz : ∀ s ∈ f, s.size ≤ maxLen) (hgz : ∀ s ∈ g, s.size ≤ maxLen) (L : List ByteArray) (c : Int) (hd : EqR false f g l n L c) :
    Calls Try.prog 29 #[vf, vg, .int .i64 l, .int .i64 n] w fun e w' => ∃ u, e = .returned (.tuple #[u, .int .i64 c]) ∧ Strs w' w.heap.size u L ∧ Below w.heap.size w w' := by
  have C1 := hidv (l07Equal_any vf vg f g l n false B C w hf hB hg hC hfl hgl hfz hgz L c hd)
  clear hf hg hfz hgz hd
  go_enter Try.func29, Try.ntmps29
  go_wp2_with fail
  refine C1.out.mono ?_
  rintro e w1 ⟨u, rfl, hu, hb⟩
  have HU := hidv hu
  have HB := hidv hb
  clear hu hb
  go_wp2_with fail
  go_ret2
  exact ⟨_, rfl, HU.out, HB.out⟩

end Go.Proofs.Ytpjidcfdcpjafaa
