/-
  A fact of every world that the row speaks of: the library's own variable holds a number.
-/
import Derived.Test.YtamhhgcghjhifaaDoorRow
namespace Go.Proofs.YtamhhgcghjhifaaDoor
open Go.RowKit Go

def ML (w : World) : Prop := ∃ m, w.cell? ⟨0, 0, none⟩ = some (.int .i64 m)
theorem ML.below {w w' : World} (h : ML w) (hb : Below w.heap.size w w') : ML w' := by
  obtain ⟨m, hm⟩ := h
  exact ⟨m, (hb.cell (p := ⟨_, 0, none⟩) (World.block_lt_of_cell? _ _ hm)).trans hm⟩

end Go.Proofs.YtamhhgcghjhifaaDoor
