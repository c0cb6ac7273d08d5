/-
  CommutingFamily, of the program and of the model: contracts.
-/
import Derived.Test.YthomkmbobaehkaaQB
import Derived.Test.YthomkmbobaehkaaFv
namespace Go.Proofs.Ythomkmbobaehkaa
open Go.RowKit Go
set_option linter.unusedVariables false

theorem row_two (w : World) (e : TypeId) (i j : Int) : Row (w.alloc (.cells #[.int .i64 i, .int .i64 j] e)) (w.heap.size + 1) (.slice (some ⟨w.heap.size, 0, none⟩) 2 2) (ints [i, j]) := by
  refine ⟨_, 2, rfl, fun _ => ⟨w.heap.size, 0, rfl, by omega, fun n x hx => ?_⟩⟩
  have hb := Bx.new w e #[.int .i64 i, .int .i64 j]
  rcases n with _ | _ | n
  · simp [ints] at hx; subst hx; exact hb.cell 0
  · simp [ints] at hx; subst hx; exact hb.cell 1
  · simp [ints] at hx
theorem row_twoN (w : World) (e : TypeId) (i j : Int) (n : Nat) (hn : w.heap.size = n) : Row (w.alloc (.cells #[.int .i64 i, .int .i64 j] e)) (n + 1) (.slice (some ⟨n, 0, none⟩) 2 2) (ints [i, j]) := by
  subst hn; exact row_two w e i j
theorem sizeF {u : ByteArray} (h : Wd.wordB u.data.toList = true) : u.size ≤ 60 := by
  have := Wd.wordB_len h
  simpa using this

/-- A family's list is built of four rows of the call's own. -/
theorem qb_four {W : World} {base n : Nat} {u0 u1 u2 u3 : Value} {r0 r1 r2 r3 : List Pc} (hn : W.heap.size = n) (hb : base ≤ n) (h0 : Qws W base u0 r0) (h1 : Qws W base u1 r1) (h2 : Qws W base u2 r2) (h3 : Qws W base u3 r3) (ha : AptQ [u0, u1, u2, u3]) :
    QB (W.alloc (.cells #[u0, u1, u2, u3] 83)) base (.slice (some ⟨n, 0, none⟩) 4 4) [r0, r1, r2, r3] := by
  subst hn
  refine ⟨[u0, u1, u2, u3], World.ownsRow_lit W #[u0, u1, u2, u3] 4 hb (by unfold maxLen; omega) rfl, rfl, fun i hi => ?_, ha⟩
  have al : ∀ u r, Qws W base u r → Qws (W.alloc (.cells #[u0, u1, u2, u3] 83)) base u r := fun u r h => World.ownsRow.alloc (show W.ownsRow _ _ _ _ _ _ from h) _
  refine ⟨hi, ?_⟩
  rcases i with _ | _ | _ | _ | i
  · exact al _ _ h0
  · exact al _ _ h1
  · exact al _ _ h2
  · exact al _ _ h3
  · exact absurd hi (by simp)
theorem qws_nil (W : World) (base : Nat) : Qws W base (.slice none 0 0) [] := World.ownsRow_nil _ _ _ _
theorem qws_lit {W : World} {base n : Nat} (hn : W.heap.size = n) (hb : base ≤ n) (x : ByteArray) (f s : Int) : Qws (W.alloc (.cells #[.string x, .int .i64 f, .int .i64 s] 104)) base (.slice (some ⟨n, 0, none⟩) 1 1) [(x, f, s)] := by
  subst hn
  exact World.ownsRow_lit W #[.string x, .int .i64 f, .int .i64 s] 1 hb (by unfold maxLen; omega) rfl
theorem Qws.alloc {W : World} {base : Nat} {u : Value} {r : List Pc} (h : Qws W base u r) (o : Obj) : Qws (W.alloc o) base u r := World.ownsRow.alloc (show W.ownsRow _ _ _ _ _ _ from h) o
theorem apt_four {u0 u1 u2 u3 : Value} (h01 : ∀ a, u0.ownBlock = some a → u1.ownBlock ≠ some a) (h02 : ∀ a, u0.ownBlock = some a → u2.ownBlock ≠ some a) (h03 : ∀ a, u0.ownBlock = some a → u3.ownBlock ≠ some a) (h12 : ∀ a, u1.ownBlock = some a → u2.ownBlock ≠ some a) (h13 : ∀ a, u1.ownBlock = some a → u3.ownBlock ≠ some a) (h23 : ∀ a, u2.ownBlock = some a → u3.ownBlock ≠ some a) : AptQ [u0, u1, u2, u3] := by
  intro i j hi hj hij a ha
  rcases i with _ | _ | _ | _ | i
  · rcases j with _ | _ | _ | _ | j
    · omega
    · exact h01 a ha
    · exact h02 a ha
    · exact h03 a ha
    · exact absurd hj (by simp)
  · rcases j with _ | _ | _ | _ | j
    · omega
    · omega
    · exact h12 a ha
    · exact h13 a ha
    · exact absurd hj (by simp)
  · rcases j with _ | _ | _ | _ | j
    · omega
    · omega
    · omega
    · exact h23 a ha
    · exact absurd hj (by simp)
  · rcases j with _ | _ | _ | _ | j
    · omega
    · omega
    · omega
    · omega
    · exact absurd hj (by simp)
  · exact absurd hi (by simp)

/-- The family with no lists. -/
theorem fb_none (W : World) (base : Nat) : FB W base (.agg #[.slice none 0 0]) [] := ⟨_, rfl, [], World.ownsRow_nil _ _ _ _, rfl, fun i hi => absurd hi (by simp), fun i j hi => absurd hi (by simp)⟩
theorem qws_lit0 {W : World} {base n : Nat} (hn : W.heap.size = n) (hb : base ≤ n) : Qws (W.alloc (.cells #[] 104)) base (.slice (some ⟨n, 0, none⟩) 0 0) [] := by
  subst hn
  exact World.ownsRow_lit W #[] 0 hb (by unfold maxLen; omega) rfl
theorem in4 {a b : Int} : InN 4 [a, b] ↔ (0 ≤ a ∧ a ≤ 3) ∧ (0 ≤ b ∧ b ≤ 3) := by
  constructor
  · intro h
    have h1 := h 0 (by simp)
    have h2 := h 1 (by simp)
    simp only [List.getElem_cons_zero, List.getElem_cons_succ] at h1 h2
    omega
  · intro h j hj
    rcases j with _ | _ | j
    · show (0 : Int) ≤ a ∧ a < 4; omega
    · show (0 : Int) ≤ b ∧ b < 4; omega
    · exfalso; have hj2 : j + 1 + 1 < 2 := hj; omega
end Go.Proofs.Ythomkmbobaehkaa
