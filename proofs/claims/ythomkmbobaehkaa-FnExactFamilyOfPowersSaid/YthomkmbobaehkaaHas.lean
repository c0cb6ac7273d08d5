/-
  Whether a word is a power of a root with a tail: the model's l04Start and l04In, the program's Powers.has: contracts.
-/
import Derived.Test.YthomkmbobaehkaaPwS
import Derived.Test.YthomkmbobaehkaaPow
import Derived.Deep.QuietTactic
import Derived.BigQuiet
import Derived.Deep.RegionHeld3
import Derived.Laws.OwnMore
import Derived.OwnWalk
namespace Go.Proofs.Ythomkmbobaehkaa
open Go.RowKit Go
set_option linter.unusedVariables false

theorem Try.infoU8 : (Try.prog.info? 5).map (fun i => (i.zero, i.size, i.bytes)) = some (some (.int .u8 0), 1, 1) := by kernel_rfl

/-- A slice of bytes of the call's own. -/
def BytO (w : World) (base : Nat) (v : Value) (l : List UInt8) : Prop := w.ownsRow base 5 1 v l.length (l.map fun b => Value.int .u8 (b.toNat : Int))
theorem strOfNums_bytes (l : List UInt8) : strOfNums (l.map fun b => (b.toNat : Int)) = ⟨⟨l⟩⟩ := by
  have h : (l.map fun b => (b.toNat : Int)).map (fun n => UInt8.ofNat n.toNat) = l := by
    rw [List.map_map]
    conv => rhs; rw [← List.map_id l]
    apply List.map_congr_left
    intro b _
    simp
  unfold strOfNums
  simp only [h]
theorem BytO.conv {w : World} {base : Nat} {v : Value} {l : List UInt8} (h : BytO w base v l) : (convert 119 9 v).run Try.prog w = .ok (.string ⟨⟨l⟩⟩) w := by
  have h' : w.ownsRow base 5 1 v l.length (l.map fun b => Value.int .u8 (b.toNat : Int)) := h
  rcases h'.2 with ⟨rfl, h0⟩ | ⟨g, cap, cur, rfl, hbg, hg, hnc, hcm, hcs, ht⟩
  · have : l = [] := List.length_eq_zero_iff.1 h0
    subst this
    exact run_convert_bytes_nil w 119 5 Try.underlying119 Try.underlying5 _ _ 9 Try.underlying9
  · rw [← strOfNums_bytes l]
    refine run_convert_bytes_arg w 119 5 Try.underlying119 Try.underlying5 g 0 l.length cap (l.map fun b => (b.toNat : Int)) (by simp) (fun i hi => ?_) 9 Try.underlying9
    rw [Nat.zero_add, h'.cellAt i (by omega), List.getElem?_map, List.getElem?_eq_getElem (by omega)]
    simp [List.getD_eq_getElem?_getD, hi]
theorem one_new8 (w : World) (x : Value) (t : TypeId) : ∀ (j : Nat) (u : Value), [x][j]? = some u → (w.alloc (.cells #[x] t)).cell? ((⟨w.heap.size, 0, none⟩ : Addr).add j) = some u := by
  intro j u hu
  cases j with
  | zero =>
    obtain rfl : x = u := by simpa using hu
    show (w.alloc (.cells #[x] t)).cell? ⟨w.heap.size, 0, none⟩ = some x
    rw [cell_of_row _ _ _ _ _ _ (heap_alloc_new w _)]
    rfl
  | succ j => simp at hu
theorem one_cell8 (n : Int) : ∀ u : Value, u ∈ [Value.int .u8 n] → u.oneCell' = true := by
  intro u hu
  obtain rfl : u = _ := by simpa using hu
  rfl
theorem grow_below8 {w wr w1 : World} {e : TypeId} {n : Nat} {v : Value} {xs : List Value} {o : Obj} (hb : Below w.heap.size w wr) (hown : wr.ownsRow w.heap.size e 1 v n xs)
    (hg : (wr.alloc o).grownBy w1 v.ownBlock) : Below w.heap.size w w1 := by
  have h1 : Below w.heap.size w (wr.alloc o) := hb.alloc hb.size o
  exact h1.grown hg h1.size (fun k hk => (hown.lt k hk).1)

theorem rem_nat (n k : Nat) : ((n : Int).tmod (k : Int)) = ((n % k : Nat) : Int) := by
  rw [Int.tmod_eq_emod_of_nonneg (by omega)]; rfl

theorem eqB_list (x : ByteArray) (l : List UInt8) : (x.toList == (⟨⟨l⟩⟩ : ByteArray).toList) = decide (x.data.toList = l) := by
  rw [ByteArray.toList_eq, ByteArray.toList_eq, Bool.eq_iff_iff]
  simp

theorem suffix_cut {s t : ByteArray} (h : t.data.toList.isSuffixOf s.data.toList = true) : t.size ≤ s.size := by
  rw [List.isSuffixOf_iff_suffix] at h
  have := h.length_le
  simpa using this

end Go.Proofs.Ythomkmbobaehkaa
