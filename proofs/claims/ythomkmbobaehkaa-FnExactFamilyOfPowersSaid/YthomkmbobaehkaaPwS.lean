/-
  The laws' own functions on powers, slices of them and descriptions of solutions (bulk; copy; equal): contracts.
-/
import Derived.Test.YthomkmbobaehkaaPwR
import Derived.Test.YthomkmbobaehkaaStrA
import Derived.Deep.RegionHeld3
namespace Go.Proofs.Ythomkmbobaehkaa
open Go.RowKit Go
set_option linter.unusedVariables false

theorem szPw_any (r t : ByteArray) (f m : Int) (w : World) (hr : r.size ≤ maxLen) (ht : t.size ≤ maxLen) (hm0 : 0 ≤ m) (hm1 : m ≤ 1048576) :
    Calls Try.prog 35 #[.agg #[.string r, .string t, .int .i64 f], .int .i64 m] w fun e w' => ∃ q, e = .returned (.int .i64 q) ∧ q ≤ m ∧ Below w.heap.size w w' := by
  unfold maxLen at hr ht
  by_cases h1 : m < (r.size : Int)
  · go_enter Try.func35, Try.ntmps35
    go_wp2
    go_ret
    exact ⟨_, rfl, by omega, (Below.refl _ _).alloc (Nat.le_refl _) _⟩
  by_cases h2 : m - (r.size : Int) < (t.size : Int)
  · go_enter Try.func35, Try.ntmps35
    go_wp2
    go_ret
    exact ⟨_, rfl, by omega, (Below.refl _ _).alloc (Nat.le_refl _) _⟩
  · go_enter Try.func35, Try.ntmps35
    go_wp2
    go_ret
    exact ⟨_, rfl, by omega, (Below.refl _ _).alloc (Nat.le_refl _) _⟩

set_option maxHeartbeats 400000 in
theorem toPw_any (r t : ByteArray) (f : Int) (w : World) :
    Calls Try.prog 37 #[.agg #[.string r, .string t, .int .i64 f]] w fun e w' => e = .returned (.agg #[.string r, .string t, .int .i64 f]) ∧ Below w.heap.size w w' := by
  go_enter Try.func37, Try.ntmps37
  go_wp2
  exact bodyPost_ret (v := .agg #[.string r, .string t, .int .i64 f]) (by simp [results, Try.results37, go_sem]) rfl ⟨rfl, (((Below.refl _ _).alloc (Nat.le_refl _) _).alloc (by simp) _).alloc (by simp; omega) _⟩

theorem Try.infoP : (Try.prog.info? 63).map (fun i => (i.zero, i.size, i.bytes)) = some (some (.agg #[.string ⟨#[]⟩, .string ⟨#[]⟩, .int .i64 0]), 3, 40) := by kernel_rfl

/-- A description of solutions, by value, reads, below block B, so. -/
def Desc (w : World) (B : Nat) (v : Value) (e : Bool) (xs : List ByteArray) (ps : List Pw) : Prop :=
  ∃ a b, v = .agg #[.bool e, a, b] ∧ Row w B a (xs.map Value.string) ∧ PRow w B b ps
theorem Desc.below {w w' : World} {B : Nat} {v : Value} {e : Bool} {xs : List ByteArray} {ps : List Pw} (h : Desc w B v e xs ps) (hb : Below B w w') : Desc w' B v e xs ps := by
  obtain ⟨a, b, hv, h1, h2⟩ := h
  exact ⟨a, b, hv, h1.below hb, h2.below hb⟩
theorem Desc.more {w : World} {B B' : Nat} {v : Value} {e : Bool} {xs : List ByteArray} {ps : List Pw} (h : Desc w B v e xs ps) (hB : B ≤ B') : Desc w B' v e xs ps := by
  obtain ⟨a, b, hv, h1, h2⟩ := h
  exact ⟨a, b, hv, h1.more hB, h2.more hB⟩

end Go.Proofs.Ythomkmbobaehkaa
