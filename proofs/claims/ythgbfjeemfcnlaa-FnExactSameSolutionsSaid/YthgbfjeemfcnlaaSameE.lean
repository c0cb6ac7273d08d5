/-
  SameSolutions, of the program and of the model: contracts.
-/
import Derived.Test.YthgbfjeemfcnlaaSameD
namespace Go.Proofs.Ythgbfjeemfcnlaa
open Go.RowKit Go
set_option linter.unusedVariables false

def sameB (e f : Bool) (xs ys : List ByteArray) (ps qs : List Pw) : Bool := decide (e = f) && (decide (xs = ys) && decide (ps = qs))

set_option maxRecDepth 100000 in
set_option maxHeartbeats 800000 in
theorem implSame_any (v u : Value) (e f : Bool) (xs ys : List ByteArray) (ps qs : List Pw) (B C : Nat) (w : World) (hv : Desc w B v e xs ps) (hu : Desc w C u f ys qs) (hB : B ≤ w.heap.size) (hC : C ≤ w.heap.size) (hx : xs.length ≤ 1048576) (hy : ys.length ≤ 1048576) (hp : ps.length ≤ 1048576) (hq : qs.length ≤ 1048576) (r : Bool) (hr : sameB e f xs ys ps qs = r) :
    Calls Try.prog 12 #[v, u] w fun e w' => e = .returned (.bool r) ∧ Below w.heap.size w w' := by
  obtain ⟨va, vb, rfl, ha, hb⟩ := hv
  obtain ⟨ua, ub, rfl, ha', hb'⟩ := hu
  have HA := hidv ha
  have HB := hidv hb
  have HA' := hidv ha'
  have HB' := hidv hb'
  unfold sameB at hr
  obtain ⟨s, hs⟩ : ∃ s, decide (xs = ys) = s := ⟨_, rfl⟩
  obtain ⟨t, ht⟩ : ∃ s, decide (ps = qs) = s := ⟨_, rfl⟩
  rw [hs, ht] at hr
  have hbx : Below w.heap.size w ((w.alloc (.cells #[.bool e, va, vb] 30)).alloc (.cells #[.bool f, ua, ub] 30)) := ((Below.refl _ _).alloc (Nat.le_refl _) _).alloc (by simp) _
  have C1 := hidv (fun W (hW : Below w.heap.size w W) => equalS_any va ua xs ys B C W (HA.out.below (hW.mono hB)) (HA'.out.below (hW.mono hC)) hx hy s hs)
  have C2 := hidv (fun W (hW : Below w.heap.size w W) => equalP_any vb ub ps qs B C W (HB.out.below (hW.mono hB)) (HB'.out.below (hW.mono hC)) hp hq t ht)
  have HBX := hidv hbx
  have HX := hidv ((Bx.new w 30 #[.bool e, va, vb]).alloc (.cells #[.bool f, ua, ub] 30))
  have hy0 := Bx.new (w.alloc (.cells #[.bool e, va, vb] 30)) 30 #[.bool f, ua, ub]
  rw [World.size_alloc] at hy0
  have HY := hidv hy0
  clear ha hb ha' hb' hs ht hbx hy0
  by_cases hef : e = f
  · subst hef
    have hee : (e == e) = true := by simp
    rw [decide_eq_true rfl, Bool.true_and] at hr
    go_enter Try.func12, Try.ntmps12
    go_wp2_with fail
    refine (C1.out _ HBX.out).mono ?_
    rintro e1 w1 ⟨rfl, hb1⟩
    have hx1 := HX.out.below hb1
    have hy1 := HY.out.below hb1
    obtain ⟨x0, x1, x2⟩ := hx1.three
    obtain ⟨y0, y1, y2⟩ := hy1.three
    have HB1 := hidv (below_on HBX.out hb1)
    clear hb1 hx1 hy1
    cases s
    · rw [Bool.false_and] at hr
      subst hr
      go_wp2_with fail
      go_ret
      exact ⟨rfl, HB1.out⟩
    · rw [Bool.true_and] at hr
      subst hr
      go_wp2_with fail
      refine (C2.out _ HB1.out).mono ?_
      rintro e2 w2 ⟨rfl, hb2⟩
      have HB2 := hidv (below_on HB1.out hb2)
      clear hb2
      go_wp2_with fail
      go_ret
      exact ⟨rfl, HB2.out⟩
  · have hee : (e == f) = false := by simpa using hef
    rw [decide_eq_false hef, Bool.false_and] at hr
    subst hr
    go_enter Try.func12, Try.ntmps12
    go_wp2_with fail
    go_ret
    exact ⟨rfl, HBX.out⟩

end Go.Proofs.Ythgbfjeemfcnlaa
