/-
  More on slices of the call's own: kept where another block turns; a wider base.
-/
import Derived.Test.YtpjidcfdcpjafaaRow
namespace Go.Proofs.Ytpjidcfdcpjafaa
open Go.RowKit Go

theorem grown_setCell (w : World) (g j : Nat) (v : Value) : w.grownBy (w.setCell ⟨g, j, none⟩ v) (some g) :=
  ⟨rfl, rfl, rfl, Nat.le_of_eq (by simp [World.setCell]), fun i _ hne => Below.heap_setCell _ _ _ _ (fun e => hne (by rw [e]))⟩
theorem grown_below {w w' : World} {row : Option Nat} (h : Below w.heap.size w w') : w.grownBy w' row := ⟨h.os, h.tape, h.output, h.size, fun i hi _ => h.block i hi⟩
theorem own_wider {w : World} {base base' e size n : Nat} {v : Value} {xs : List Value} (h : w.ownsRow base e size v n xs) (hb : base' ≤ base) : w.ownsRow base' e size v n xs := by
  refine ⟨h.1, ?_⟩
  rcases h.2 with h0 | ⟨g, cap, cur, hv, hg, rest⟩
  · exact .inl h0
  · exact .inr ⟨g, cap, cur, hv, Nat.le_trans hb hg, rest⟩
theorem own_other {w w' : World} {base e size n : Nat} {v : Value} {xs : List Value} {row : Option Nat} (h : w.ownsRow base e size v n xs) (hg : w.grownBy w' row) (hr : ∀ k, row = some k → k < base) : w'.ownsRow base e size v n xs := by
  refine h.kept hg ?_
  rcases hv : v.ownBlock with _ | k
  · exact .inl rfl
  · right
    intro e1
    have h1 := (h.lt k hv).1
    have h2 := hr k e1.symm
    omega
theorem own_below {w w' : World} {base e size n : Nat} {v : Value} {xs : List Value} (h : w.ownsRow base e size v n xs) (hb : Below w.heap.size w w') : w'.ownsRow base e size v n xs :=
  own_other (row := none) h (grown_below hb) (fun k hk => by cases hk)

theorem Ints.wider {w : World} {base base' : Nat} {v : Value} {xs : List Int} (h : Ints w base v xs) (hb : base' ≤ base) : Ints w base' v xs := own_wider h hb
theorem Ints.other {w w' : World} {base : Nat} {v : Value} {xs : List Int} {row : Option Nat} (h : Ints w base v xs) (hg : w.grownBy w' row) (hr : ∀ k, row = some k → k < base) : Ints w' base v xs := own_other h hg hr
theorem Ints.cellAt {w : World} {base g n : Nat} {xs : List Int} {k : Nat} {x : Int} (h : Ints w base (.slice (some ⟨g, 0, none⟩) n n) xs) (hn : xs.length = n) (hk : xs[k]? = some x) : w.cell? ⟨g, k, none⟩ = some (.int .i64 x) := by
  have h' : w.ownsRow base 2 1 (.slice (some ⟨g, 0, none⟩) n n) xs.length (xs.map (Value.int .i64)) := h
  rw [hn] at h'
  have hlt : k < xs.length := by
    rcases Nat.lt_or_ge k xs.length with h1 | h1
    · exact h1
    · rw [List.getElem?_eq_none h1] at hk; cases hk
  rw [h'.cellAt k (by omega), List.getElem?_map, hk]
  rfl
theorem Ints.setAt {w : World} {base g n : Nat} {xs : List Int} (k : Nat) (x : Int) (h : Ints w base (.slice (some ⟨g, 0, none⟩) n n) xs) (hn : xs.length = n) : Ints (w.setCell ⟨g, k, none⟩ (.int .i64 x)) base (.slice (some ⟨g, 0, none⟩) n n) (xs.set k x) := by
  have h' : w.ownsRow base 2 1 (.slice (some ⟨g, 0, none⟩) n n) xs.length (xs.map (Value.int .i64)) := h
  rw [hn] at h'
  have h2 := (h'.stored k (.int .i64 x)).1
  unfold Ints
  rw [List.length_set, hn, List.map_set]
  exact h2
theorem Ints.frozenAt {w : World} {base g n : Nat} {xs : List Int} (h : Ints w base (.slice (some ⟨g, 0, none⟩) n n) xs) (hn : xs.length = n) (k : Nat) : w.frozen? ⟨g, k, none⟩ = false := by
  have h' : w.ownsRow base 2 1 (.slice (some ⟨g, 0, none⟩) n n) xs.length (xs.map (Value.int .i64)) := h
  rw [hn] at h'
  exact h'.frozenAt k
theorem Ints.blk {w : World} {base g n : Nat} {xs : List Int} (h : Ints w base (.slice (some ⟨g, 0, none⟩) n n) xs) : base ≤ g ∧ g < w.heap.size := by
  have h' : w.ownsRow base 2 1 (.slice (some ⟨g, 0, none⟩) n n) xs.length (xs.map (Value.int .i64)) := h
  exact h'.lt g rfl
theorem Ints.drewN {w : World} {base : Nat} {v : Value} {xs : List Int} (h : Ints w base v xs) (n : Nat) : Ints (w.drewN n) base v xs := h

end Go.Proofs.Ytpjidcfdcpjafaa
