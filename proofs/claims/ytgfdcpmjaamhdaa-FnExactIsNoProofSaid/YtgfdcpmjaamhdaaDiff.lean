/-
  The numbers of letters and unknowns of the left term less those of the right one, of the model: a contract.
-/
import Derived.Test.YtgfdcpmjaamhdaaCounts
import Derived.Test.YtgfdcpmjaamhdaaLenR
import Derived.Test.YtgfdcpmjaamhdaaRow2
namespace Go.Proofs.Ytgfdcpmjaamhdaa
open Go.RowKit Go
set_option linter.unusedVariables false

set_option maxRecDepth 100000 in
set_option maxHeartbeats 800000 in
theorem differ_any (l r : ByteArray) (w : World) (h : eqnB l r = true) :
    Calls Try.prog 22 #[.agg #[.string l, .string r]] w fun e w' => ∃ g, e = .returned (.slice (some ⟨g, 0, none⟩) 8 8) ∧ Ints w' w.heap.size (.slice (some ⟨g, 0, none⟩) 8 8) (surL l r) ∧ Below w.heap.size w w' := by
  obtain ⟨hl, hr, ht1, ht2⟩ := eqnB_sz h
  have C1 := hidv (fun W => specCounts_any l W hl ht1)
  have C2 := hidv (fun W => specCounts_any r W hr ht2)
  have hll : l.data.toList.length ≤ 24 := by simpa using hl
  have hrl : r.data.toList.length ≤ 24 := by simpa using hr
  clear h ht1 ht2
  go_enter Try.func22, Try.ntmps22
  go_wp2_with fail
  refine (C1.out _).mono ?_
  rintro e w1 ⟨g, rfl, hi1, hb1⟩
  have hE := (Bx.new w 41 #[.string l, .string r]).below hb1
  have HB1 := hidv (((Below.refl w.heap.size w).alloc (Nat.le_refl _) _).trans (hb1.mono (by simp)))
  have HI1 := hidv hi1
  obtain ⟨e0, e1⟩ := hE.two
  clear hE hb1 hi1
  go_wp2_with fail
  refine (C2.out _).mono ?_
  rintro e w2 ⟨g2, rfl, hi2, hb2⟩
  have HL := hidv (HI1.out.below hb2)
  have HR := hidv hi2
  have HB2 := hidv (below_on HB1.out hb2)
  have hg1 := HI1.out.blk
  have hg2 := hi2.blk
  rw [World.size_alloc] at hg1
  clear hi2 hb2 e0 e1
  go_wp2_with fail
  go_loopw [5] (fun i wr => ∃ k : Nat, k ≤ 8 ∧ i = .int .i64 k ∧ Hid (Ints wr (w.heap.size + 1) (.slice (some ⟨g, 0, none⟩) 8 8) (surTo l r k)) ∧ Hid (Ints wr w1.heap.size (.slice (some ⟨g2, 0, none⟩) 8 8) (cntL r.data.toList)) ∧ Hid (Below w.heap.size w wr)) (fun i _ => 8 - (intOf i).toNat)
  case atStart => exact ⟨0, by omega, rfl, hidv (by have := HL.out; rw [World.size_alloc] at this; exact this), HR, HB2⟩
  case round =>
    obtain ⟨k, hk, rfl, hI, hJ, hbe⟩ := hrel
    by_cases hlt : k < 8
    · obtain ⟨x, hx1, hx2, hx3⟩ := cntL_get l.data.toList k hlt
      obtain ⟨y, hy1, hy2, hy3⟩ := cntL_get r.data.toList k hlt
      have c1 : wr.cell? ⟨g, k, none⟩ = some (.int .i64 x) := hI.out.cellAt (surTo_length l r k (by omega)) (by rw [surTo_at l r k hlt]; exact hx1)
      have c2 : wr.cell? ⟨g2, k, none⟩ = some (.int .i64 y) := hJ.out.cellAt (cntL_length _) hy1
      have f1 : wr.frozen? ⟨g, k, none⟩ = false := hI.out.frozenAt (surTo_length l r k (by omega)) k
      have HN := hidv (surTo_set l r k hlt (surL_get l r k hx1 hy1))
      have i1 : (0 : Int) ≤ (k : Int) := by omega
      have i2 : (k : Int) < 8 := by omega
      clear hx1 hy1
      go_wp2
      go_region
      go_wp2
      go_roundw
      case rel =>
        refine ⟨k + 1, by omega, by go_num, hidv ?_, hidv ?_, hidv (Below.drew (hbe.out.setCell (by simp; omega) _))⟩
        · rw [← HN.out]
          exact hI.out.setAt k _ (surTo_length l r k (by omega))
        · exact (show Ints (wr.setCell ⟨g, k, none⟩ (.int .i64 (x - y))) w1.heap.size _ _ from hJ.out.other (grown_setCell wr g k _) (fun j e => by cases e; exact hg1.2))
      case measure => simp [intOf]; omega
    · obtain rfl : k = 8 := by omega
      have hfin : surTo l r 8 = surL l r := by
        unfold surTo
        rw [List.take_of_length_le (by rw [surL_length]; omega), List.drop_eq_nil_of_le (by rw [cntL_length]; omega), List.append_nil]
      rw [hfin] at hI
      go_wp2
      go_ret
      refine ⟨g, rfl, ?_, hbe.out⟩
      exact hI.out.wider (by omega)

end Go.Proofs.Ytgfdcpmjaamhdaa
