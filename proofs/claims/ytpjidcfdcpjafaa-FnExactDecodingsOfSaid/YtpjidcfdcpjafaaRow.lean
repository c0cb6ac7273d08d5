/-
  Slices in memory: a slice value that reads as a row of cells; slices of numbers of the call's own.
-/
import Derived.Test.YtpjidcfdcpjafaaWalkW
import Derived.Deep.QuietTactic
import Derived.BigQuiet
import Derived.Laws.OwnMore
namespace Go.Proofs.Ytpjidcfdcpjafaa
open Go.RowKit Go

/-- A slice value that reads, below block B, as the cells xs (one cell an element). -/
def Row (w : World) (B : Nat) (v : Value) (xs : List Value) : Prop :=
  ∃ A c, v = .slice A xs.length c ∧ (0 < xs.length → ∃ g o, A = some ⟨g, o, none⟩ ∧ g < B ∧ ∀ i x, xs[i]? = some x → w.cell? ⟨g, o + i, none⟩ = some x)

theorem Row.of_own {w : World} {base e n : Nat} {v : Value} {xs : List Value} (h : w.ownsRow base e 1 v n xs) : Row w w.heap.size v xs := by
  have hl : xs.length = n := by have := h.1; omega
  have hall := h
  rcases h.2 with ⟨rfl, h0⟩ | ⟨g, cap, cur, rfl, hb, hg, hnc, hm, hs, ht⟩
  · exact ⟨none, 0, by rw [hl, h0], fun hp => by omega⟩
  · refine ⟨_, cap, by rw [hl], fun _ => ⟨g, 0, rfl, (hall.lt g rfl).2, fun i x hx => ?_⟩⟩
    have hi : i < xs.length := by
      rcases Nat.lt_or_ge i xs.length with h | h
      · exact h
      · rw [List.getElem?_eq_none h] at hx; cases hx
    rw [Nat.zero_add, hall.cellAt i (by omega)]
    exact hx

theorem Row.keep {w w' : World} {B : Nat} {v : Value} {xs : List Value} (h : Row w B v xs) (hk : ∀ p : Addr, p.block < B → w'.cell? p = w.cell? p) : Row w' B v xs := by
  obtain ⟨A, c, hv, hc⟩ := h
  refine ⟨A, c, hv, fun hp => ?_⟩
  obtain ⟨g, o, hA, hg, hcell⟩ := hc hp
  exact ⟨g, o, hA, hg, fun i x hx => (hk _ hg).trans (hcell i x hx)⟩
theorem Row.below {w w' : World} {B : Nat} {v : Value} {xs : List Value} (h : Row w B v xs) (hb : Below B w w') : Row w' B v xs := h.keep fun _ hp => hb.cell hp
theorem Row.more {w : World} {B B' : Nat} {v : Value} {xs : List Value} (h : Row w B v xs) (hB : B ≤ B') : Row w B' v xs := by
  obtain ⟨A, c, hv, hc⟩ := h
  refine ⟨A, c, hv, fun hp => ?_⟩
  obtain ⟨g, o, hA, hg, hcell⟩ := hc hp
  exact ⟨g, o, hA, by omega, hcell⟩

theorem below_grown {w w' : World} {row : Option Nat} {B : Nat} (hg : w.grownBy w' row) (hB : B ≤ w.heap.size) (hr : ∀ k, row = some k → B ≤ k) : Below B w w' :=
  (Below.refl B w).grown hg hB hr

theorem grown_trans {a b c : World} {row : Option Nat} (h : a.grownBy b row) (k : b.grownBy c row) : a.grownBy c row :=
  ⟨k.os.trans h.os, k.tape.trans h.tape, k.output.trans h.output, Nat.le_trans h.size k.size, fun i hi hr => (k.block i (Nat.lt_of_lt_of_le hi h.size) hr).trans (h.block i hi hr)⟩

theorem take_eq_succ {xs ys : List Int} {k : Nat} (hx : k < xs.length) (hy : k < ys.length) (h : xs.take k = ys.take k) (he : xs[k] = ys[k]) : xs.take (k + 1) = ys.take (k + 1) := by
  rw [List.take_succ_eq_append_getElem hx, List.take_succ_eq_append_getElem hy, h, he]

theorem map_int_at {xs : List Int} {k : Nat} (h : k < xs.length) : (xs.map (Value.int .i64))[k]? = some (.int .i64 xs[k]) := by
  rw [List.getElem?_map, List.getElem?_eq_getElem h]; rfl

theorem below_on {w wx w' : World} (h1 : Below w.heap.size w wx) (h2 : Below wx.heap.size wx w') : Below w.heap.size w w' := h1.trans (h2.mono h1.size)

/-- The numbers from m on. -/
def marks (m n : Nat) : List Int := (List.range n).map fun i => ((m + i : Nat) : Int)
theorem marks_length (m n : Nat) : (marks m n).length = n := by simp [marks]
theorem marks_succ (m n : Nat) : marks m (n + 1) = marks m n ++ [((m + n : Nat) : Int)] := by simp [marks, List.range_succ]
theorem marks_at {m n i : Nat} (h : i < n) : (marks m n)[i]? = some ((m + i : Nat) : Int) := by
  simp [marks, h]

theorem set_marks (xs : List Int) (m k : Nat) (h : k < xs.length) :
    ((marks m k ++ xs.drop k).map (Value.int .i64)).set k (.int .i64 ((m + k : Nat) : Int)) = (marks m (k + 1) ++ xs.drop (k + 1)).map (Value.int .i64) := by
  rw [List.map_append, List.set_append_right _ _ (by simp [marks_length]), List.length_map, marks_length, Nat.sub_self]
  rw [List.drop_eq_getElem_cons h, List.map_cons, List.set_cons_zero, marks_succ]
  simp

/-- A slice of numbers in memory of the call's own, from block 'base' on. -/
def Ints (w : World) (base : Nat) (v : Value) (xs : List Int) : Prop := w.ownsRow base 2 1 v xs.length (xs.map (Value.int .i64))
theorem Ints.nil (w : World) (base : Nat) : Ints w base (.slice none 0 0) [] := World.ownsRow_nil _ _ _ _
theorem Ints.row {w : World} {base : Nat} {v : Value} {xs : List Int} (h : Ints w base v xs) : Row w w.heap.size v (xs.map (Value.int .i64)) := Row.of_own (show w.ownsRow base 2 1 v xs.length (xs.map (Value.int .i64)) from h)
theorem Ints.below {w w' : World} {base : Nat} {v : Value} {xs : List Int} (h : Ints w base v xs) (hb : Below w.heap.size w w') : Ints w' base v xs := by
  have h' : w.ownsRow base 2 1 v xs.length (xs.map (Value.int .i64)) := h
  exact h'.kept (row := none) ⟨hb.os, hb.tape, hb.output, hb.size, fun k hk _ => hb.block k hk⟩ (by
    rcases hv : v.ownBlock with _ | k
    · exact .inl rfl
    · exact .inr (by simp))

/-- The same, whatever type's number the block bears (an array's, say). -/
def IntsT (e : TypeId) (w : World) (base : Nat) (v : Value) (xs : List Int) : Prop := w.ownsRow base e 1 v xs.length (xs.map (Value.int .i64))
theorem IntsT.row {e : TypeId} {w : World} {base : Nat} {v : Value} {xs : List Int} (h : IntsT e w base v xs) : Row w w.heap.size v (xs.map (Value.int .i64)) := Row.of_own (show w.ownsRow base e 1 v xs.length (xs.map (Value.int .i64)) from h)
theorem IntsT.below {e : TypeId} {w w' : World} {base : Nat} {v : Value} {xs : List Int} (h : IntsT e w base v xs) (hb : Below w.heap.size w w') : IntsT e w' base v xs := by
  have h' : w.ownsRow base e 1 v xs.length (xs.map (Value.int .i64)) := h
  exact h'.kept (row := none) ⟨hb.os, hb.tape, hb.output, hb.size, fun k hk _ => hb.block k hk⟩ (by
    rcases hv : v.ownBlock with _ | k
    · exact .inl rfl
    · exact .inr (by simp))

theorem below_al {w wr : World} (h : Below w.heap.size w wr) (o : Obj) : Below w.heap.size w (wr.alloc o) := h.alloc h.size o
theorem below_st0 {w wx wr : World} (h : Below w.heap.size w wr) (hx : Below w.heap.size w wx) (j : Nat) (u : Value) : Below w.heap.size w (wr.setCell ⟨wx.heap.size, j, none⟩ u) := h.setCell hx.size u
theorem below_dr (w : World) : Below w.heap.size w w.drew := Below.drew (Below.refl _ _)
theorem ret_int2 {k j : IntKind} {a b c d : Int} (h1 : a = b) (h2 : c = d) : Ending.returned (.tuple #[.int k a, .int j c]) = .returned (.tuple #[.int k b, .int j d]) := by rw [h1, h2]

/-- Block g is just these cells, none of them frozen. -/
def Bx (w : World) (g : Nat) (t : TypeId) (cs : Array Value) : Prop := w.heap[g]? = some (.cells cs t (0, 0))
theorem Bx.new (w : World) (t : TypeId) (cs : Array Value) : Bx (w.alloc (.cells cs t)) w.heap.size t cs := heap_alloc_new w _
theorem Bx.lt {w : World} {g : Nat} {t : TypeId} {cs : Array Value} (h : Bx w g t cs) : g < w.heap.size := by
  rcases Nat.lt_or_ge g w.heap.size with h1 | h1
  · exact h1
  · unfold Bx at h
    rw [Array.getElem?_eq_none h1] at h
    cases h
theorem Bx.cell {w : World} {g : Nat} {t : TypeId} {cs : Array Value} (h : Bx w g t cs) (i : Nat) : w.cell? ⟨g, i, none⟩ = cs[i]? := cell_of_row w g i cs t (0, 0) h
theorem Bx.frozen {w : World} {g : Nat} {t : TypeId} {cs : Array Value} (h : Bx w g t cs) (i : Nat) : w.frozen? ⟨g, i, none⟩ = false := frozen_of_row w g i cs t h
theorem Bx.below {w w' : World} {g : Nat} {t : TypeId} {cs : Array Value} (h : Bx w g t cs) (hb : Below w.heap.size w w') : Bx w' g t cs := (hb.block g h.lt).trans h
theorem Bx.belowB {w w' : World} {B g : Nat} {t : TypeId} {cs : Array Value} (h : Bx w g t cs) (hb : Below B w w') (hg : g < B) : Bx w' g t cs := (hb.block g hg).trans h
theorem Bx.alloc {w : World} {g : Nat} {t : TypeId} {cs : Array Value} (h : Bx w g t cs) (o : Obj) : Bx (w.alloc o) g t cs := (Below.heap_alloc w o g h.lt).trans h
theorem Bx.set {w : World} {g : Nat} {t : TypeId} {cs : Array Value} (h : Bx w g t cs) (i : Nat) (u : Value) : Bx (w.setCell ⟨g, i, none⟩ u) g t (cs.setIfInBounds i u) := by
  unfold Bx at h ⊢
  show (w.heap.modify g _)[g]? = _
  rw [Array.getElem?_modify, if_pos rfl, h]
  rfl
theorem Bx.far {w : World} {g : Nat} {t : TypeId} {cs : Array Value} (h : Bx w g t cs) (p : Addr) (hp : p.block ≠ g) (u : Value) : Bx (w.setCell p u) g t cs := (Below.heap_setCell w p u g (fun e => hp e.symm)).trans h
theorem Bx.grown {w w' : World} {g : Nat} {t : TypeId} {cs : Array Value} {row : Option Nat} (h : Bx w g t cs) (hg : w.grownBy w' row) (hne : some g ≠ row) : Bx w' g t cs := (hg.block g h.lt hne).trans h
theorem Bx.two {w : World} {g : Nat} {t : TypeId} {a b : Value} (h : Bx w g t #[a, b]) : w.cell? ⟨g, 0, none⟩ = some a ∧ w.cell? ⟨g, 1, none⟩ = some b := ⟨h.cell 0, h.cell 1⟩

def ints (xs : List Int) : List Value := xs.map (Value.int .i64)

end Go.Proofs.Ytpjidcfdcpjafaa
