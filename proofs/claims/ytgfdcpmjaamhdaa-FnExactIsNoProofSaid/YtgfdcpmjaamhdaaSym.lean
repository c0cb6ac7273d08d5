/-
  The symbols of a term, as the program makes them: a slice of letters and unknowns behind an interface. Contracts.
-/
import Derived.Test.YtgfdcpmjaamhdaaRow
import Derived.OwnWalk
namespace Go.Proofs.Ytgfdcpmjaamhdaa
open Go.RowKit Go

/-- What stands in memory for one letter or unknown of a term. -/
def symV (c : UInt8) : Value := if Wd.isL c then .iface 64 (.int .i64 ((c.toNat : Int) - 97)) else .iface 65 (.int .i64 (Wd.unkI c))

theorem indexByte_letters (c : UInt8) : Lib.indexByte [97, 98, 99, 100] c = if Wd.isL c then (c.toNat : Int) - 97 else -1 := by
  by_cases h1 : c = 97
  · subst h1; decide
  by_cases h2 : c = 98
  · subst h2; decide
  by_cases h3 : c = 99
  · subst h3; decide
  by_cases h4 : c = 100
  · subst h4; decide
  have hl : Wd.isL c = false := by
    refine isL_false fun h => ?_
    have e1 : c.toNat ≠ 97 := fun e => h1 (by rw [← UInt8.toNat_inj]; exact e)
    have e2 : c.toNat ≠ 98 := fun e => h2 (by rw [← UInt8.toNat_inj]; exact e)
    have e3 : c.toNat ≠ 99 := fun e => h3 (by rw [← UInt8.toNat_inj]; exact e)
    have e4 : c.toNat ≠ 100 := fun e => h4 (by rw [← UInt8.toNat_inj]; exact e)
    omega
  rw [hl]
  simp [Lib.indexByte, Ne.symm h1, Ne.symm h2, Ne.symm h3, Ne.symm h4]

theorem indexByte_unknowns (c : UInt8) : Lib.indexByte [88, 89, 90, 87] c = Wd.unkI c := by
  unfold Wd.unkI
  by_cases h1 : c = 88
  · subst h1; decide
  by_cases h2 : c = 89
  · subst h2; decide
  by_cases h3 : c = 90
  · subst h3; decide
  by_cases h4 : c = 87
  · subst h4; decide
  rw [if_neg h1, if_neg h2, if_neg h3, if_neg h4]
  simp [Lib.indexByte, Ne.symm h1, Ne.symm h2, Ne.symm h3, Ne.symm h4]

theorem Try.infoSym : (Try.prog.info? 61).map (fun i => (i.zero, i.size, i.bytes)) = some (some .nilIface, 1, 16) := by kernel_rfl

theorem one_newS (w : World) (x : Value) (t : TypeId) : ∀ (j : Nat) (u : Value), [x][j]? = some u → (w.alloc (.cells #[x] t)).cell? ((⟨w.heap.size, 0, none⟩ : Addr).add j) = some u := by
  intro j u hu
  cases j with
  | zero =>
    obtain rfl : x = u := by simpa using hu
    show (w.alloc (.cells #[x] t)).cell? ⟨w.heap.size, 0, none⟩ = some x
    rw [cell_of_row _ _ _ _ _ _ (heap_alloc_new w _)]
    rfl
  | succ j => simp at hu

theorem one_cellS (t : TypeId) (x : Value) : ∀ u : Value, u ∈ [Value.iface t x] → u.oneCell' = true := by
  intro u hu
  obtain rfl : u = _ := by simpa using hu
  rfl

def Syms (w : World) (base : Nat) (v : Value) (l : List UInt8) : Prop := w.ownsRow base 61 1 v l.length (l.map symV)

theorem indexByte_call (s : ByteArray) (c : Int) (w : World) :
    Calls Try.prog 34 #[.string s, .int .u8 c] w fun e w' => e = .returned (.int .i64 (Lib.indexByte s.data.toList c.toNat.toUInt8)) ∧ w = w' :=
  (Try.strings_IndexByte s c w).mono fun _ _ h => ⟨h.1, h.2.symm⟩

theorem grow_below0 {w wr w1 : World} {e : TypeId} {n : Nat} {v : Value} {xs : List Value} {o : Obj} (hb : Below w.heap.size w wr) (hown : wr.ownsRow w.heap.size e 1 v n xs)
    (hg : (wr.alloc o).grownBy w1 v.ownBlock) : Below w.heap.size w w1 := by
  have h1 : Below w.heap.size w (wr.alloc o) := hb.alloc hb.size o
  exact h1.grown hg h1.size (fun k hk => (hown.lt k hk).1)

set_option maxRecDepth 100000 in
set_option maxHeartbeats 800000 in
theorem symbols_any (s : ByteArray) (w : World) (hs : s.size ≤ 24) :
    Calls Try.prog 33 #[.string s] w fun e w' => ∃ v, e = .returned v ∧ Syms w' w.heap.size v s.data.toList ∧ Below w.heap.size w w' := by
  obtain ⟨i0, hi, hz0, hz1, hz2⟩ := info_parts Try.infoSym
  go_enter Try.func33, Try.ntmps33
  go_wp2_with (at_make; refine wpList_make_own _ rfl _ _ 58 rfl w.heap.size 61 i0 .nilIface 1 Try.underlying58 hi hz0 hz1 _ _ _ s.size rfl rfl rfl (by rw [hz2]; omega) (by unfold maxLen; omega) (Nat.le_refl _) ?_; intro w0 hown0 hgr0)
  have hb0 : Below w.heap.size w w0 := below_grown hgr0 (Nat.le_refl _) (fun k hk => by cases hk)
  have HO0 := hidv hown0
  clear hown0 hgr0
  go_loopw [3, 11] (fun v i wr => ∃ k : Nat, k ≤ s.size ∧ i = .int .i64 k ∧ wr.ownsRow w.heap.size 61 1 v k ((s.data.toList.take k).map symV) ∧ Below w.heap.size w wr) (fun _ i _ => s.size - (intOf i).toNat)
  case atStart => exact ⟨0, Nat.zero_le _, rfl, HO0.out, hb0⟩
  case round =>
    obtain ⟨k, hk, rfl, hown, hb⟩ := hrel
    have HO := hidv hown
    clear hown
    by_cases hlt : k < s.size
    · have hts : (s.data.toList.take (k + 1)).map symV = (s.data.toList.take k).map symV ++ [symV s[k]] := by
        rw [List.take_succ_eq_append_getElem (by simpa using hlt), List.map_append]
        rfl
      have HT := hidv hts
      clear hts
      by_cases hl : Wd.isL s[k] = true
      · have e1 : Lib.indexByte [97, 98, 99, 100] s[k] = (s[k].toNat : Int) - 97 := by rw [indexByte_letters, hl]; rfl
        have hsv : symV s[k] = .iface 64 (.int .i64 ((s[k].toNat : Int) - 97)) := by unfold symV; rw [hl]; rfl
        have h97 : (97 : Int) ≤ s[k].toNat := by
          have := hl
          unfold Wd.isL at this
          simp at this
          omega
        obtain ⟨x, hx⟩ : ∃ x : Int, (s[k].toNat : Int) - 97 = x := ⟨_, rfl⟩
        rw [hx] at e1 hsv
        have hx0 : 0 ≤ x := by omega
        have HSV := hidv hsv
        clear hsv hx hl h97
        go_wp2_with (first | (go_at_call 34; refine (indexByte_call _ _ _).mono ?_; rintro e w' ⟨rfl, rfl⟩) | (at_builtin; refine wpList_append_own _ rfl (.tmp 20) (.tmp 23) 58 rfl w.heap.size 61 i0 .nilIface 1 16 Try.underlying58 hi hz0 hz1 hz2 rfl (by decide) _ _ _ rfl (HO.out.alloc _) ⟨wr.heap.size, 0, none⟩ 1 1 [.iface 64 (.int .i64 x)] rfl rfl (one_newS wr _ _) (one_cellS _ _) ?_ ?_ ?_ ?_; (unfold maxLen; omega); omega; exact Nat.le_trans hb.size (by simp); intro v1 w1 hown1 hgr1 _))
        go_roundw
        case rel =>
          refine ⟨k + 1, by omega, by go_num, ?_, grow_below0 hb HO.out hgr1⟩
          rw [HT.out, HSV.out]
          exact hown1
        case measure => simp [intOf]; omega
      · have hl' : Wd.isL s[k] = false := by simpa using hl
        have e1 : Lib.indexByte [97, 98, 99, 100] s[k] = -1 := by rw [indexByte_letters, hl']; rfl
        have e2 : Lib.indexByte [88, 89, 90, 87] s[k] = Wd.unkI s[k] := indexByte_unknowns _
        have hsv : symV s[k] = .iface 65 (.int .i64 (Wd.unkI s[k])) := by unfold symV; rw [hl']; rfl
        obtain ⟨x, hx⟩ : ∃ x : Int, Wd.unkI s[k] = x := ⟨_, rfl⟩
        rw [hx] at e2 hsv
        have HSV := hidv hsv
        clear hsv hx hl hl'
        go_wp2_with (first | (go_at_call 34; refine (indexByte_call _ _ _).mono ?_; rintro e w' ⟨rfl, rfl⟩) | (at_builtin; refine wpList_append_own _ rfl (.tmp 25) (.tmp 31) 58 rfl w.heap.size 61 i0 .nilIface 1 16 Try.underlying58 hi hz0 hz1 hz2 rfl (by decide) _ _ _ rfl (HO.out.alloc _) ⟨wr.heap.size, 0, none⟩ 1 1 [.iface 65 (.int .i64 x)] rfl rfl (one_newS wr _ _) (one_cellS _ _) ?_ ?_ ?_ ?_; (unfold maxLen; omega); omega; exact Nat.le_trans hb.size (by simp); intro v1 w1 hown1 hgr1 _))
        go_roundw
        case rel =>
          refine ⟨k + 1, by omega, by go_num, ?_, grow_below0 hb HO.out hgr1⟩
          rw [HT.out, HSV.out]
          exact hown1
        case measure => simp [intOf]; omega
    · obtain rfl : k = s.size := by omega
      go_wp2
      go_ret
      refine ⟨_, rfl, ?_, hb⟩
      have h := HO.out
      rw [List.take_of_length_le (by simp)] at h
      unfold Syms
      simpa using h


theorem assertLL (x : Int) (w : World) : (Instr.typeAssert (.iface 64 (.int .i64 x)) 61 64 true).run Try.prog w = .ok (.tuple #[.int .i64 x, .bool true]) w := by kernel_rfl
theorem assertLU (x : Int) (w : World) : (Instr.typeAssert (.iface 64 (.int .i64 x)) 61 65 true).run Try.prog w = .ok (.tuple #[.int .i64 0, .bool false]) w := by kernel_rfl
theorem assertUL (x : Int) (w : World) : (Instr.typeAssert (.iface 65 (.int .i64 x)) 61 64 true).run Try.prog w = .ok (.tuple #[.int .i64 0, .bool false]) w := by kernel_rfl
theorem assertUU (x : Int) (w : World) : (Instr.typeAssert (.iface 65 (.int .i64 x)) 61 65 true).run Try.prog w = .ok (.tuple #[.int .i64 x, .bool true]) w := by kernel_rfl

/-- The symbols of a text lie from one address on. -/
def SymAt (w : World) (base : Nat) (A : Option Addr) (s : ByteArray) : Prop :=
  0 < s.size → ∃ g, A = some ⟨g, 0, none⟩ ∧ base ≤ g ∧ g < w.heap.size ∧ ∀ i (h : i < s.size), w.cell? ⟨g, i, none⟩ = some (symV s[i])
theorem SymAt.keep {w w' : World} {base : Nat} {A : Option Addr} {s : ByteArray} (h : SymAt w base A s) (hs : w.heap.size ≤ w'.heap.size) (hk : ∀ p : Addr, base ≤ p.block → p.block < w.heap.size → w'.cell? p = w.cell? p) : SymAt w' base A s := by
  intro h0
  obtain ⟨g, hA, hb, hlt, hc⟩ := h h0
  exact ⟨g, hA, hb, by omega, fun i hi => (hk _ hb hlt).trans (hc i hi)⟩

theorem symbols_at (s : ByteArray) (w : World) (hs : s.size ≤ 24) :
    Calls Try.prog 33 #[.string s] w fun e w' => ∃ A c, e = .returned (.slice A s.size c) ∧ SymAt w' w.heap.size A s ∧ Below w.heap.size w w' := by
  refine (symbols_any s w hs).mono ?_
  rintro e w' ⟨v, rfl, hown, hb⟩
  have hl : s.data.toList.length = s.size := by simp
  have hown' : w'.ownsRow w.heap.size 61 1 v s.size (s.data.toList.map symV) := by
    have := hown
    unfold Syms at this
    rw [hl] at this
    exact this
  rcases hown'.2 with ⟨rfl, h0⟩ | ⟨g, cap, cur, rfl, hbg, hg, hnc, hcm, hcs, ht⟩
  · exact ⟨none, 0, by rw [h0], fun h => by omega, hb⟩
  · refine ⟨_, cap, rfl, fun h0 => ⟨g, rfl, hbg, (hown'.lt g rfl).2, fun i hi => ?_⟩, hb⟩
    rw [hown'.cellAt i (by omega), List.getElem?_map, List.getElem?_eq_getElem (by omega)]
    rfl


/-- The symbols of a text lie in one block, from its beginning on. -/
def SymBlk (w : World) (base : Nat) (A : Option Addr) (s : ByteArray) : Prop :=
  0 < s.size → ∃ g cur, A = some ⟨g, 0, none⟩ ∧ base ≤ g ∧ w.heap[g]? = some (.cells cur 61 (0, 0)) ∧ ∀ i (h : i < s.size), cur[i]? = some (symV s[i])
theorem SymBlk.cell {w : World} {base : Nat} {A : Option Addr} {s : ByteArray} (h : SymBlk w base A s) (h0 : 0 < s.size) : ∃ g, A = some ⟨g, 0, none⟩ ∧ base ≤ g ∧ ∀ i (h : i < s.size), w.cell? ⟨g, i, none⟩ = some (symV s[i]) := by
  obtain ⟨g, cur, hA, hb, hg, hc⟩ := h h0
  exact ⟨g, hA, hb, fun i hi => by rw [cell_of_row _ _ _ _ _ _ hg]; exact hc i hi⟩

theorem symbols_blk (s : ByteArray) (w : World) (hs : s.size ≤ 24) :
    Calls Try.prog 33 #[.string s] w fun e w' => ∃ A c, e = .returned (.slice A s.size c) ∧ SymBlk w' w.heap.size A s ∧ Below w.heap.size w w' := by
  refine (symbols_any s w hs).mono ?_
  rintro e w' ⟨v, rfl, hown, hb⟩
  have hl : s.data.toList.length = s.size := by simp
  have hown' : w'.ownsRow w.heap.size 61 1 v s.size (s.data.toList.map symV) := by
    have := hown
    unfold Syms at this
    rw [hl] at this
    exact this
  rcases hown'.2 with ⟨rfl, h0⟩ | ⟨g, cap, cur, rfl, hbg, hg, hnc, hcm, hcs, ht⟩
  · exact ⟨none, 0, by rw [h0], fun h => by omega, hb⟩
  · refine ⟨_, cap, rfl, fun h0 => ⟨g, cur, rfl, hbg, hg, fun i hi => ?_⟩, hb⟩
    have h1 := hown'.cellAt i (by omega)
    rw [cell_of_row _ _ _ _ _ _ hg, List.getElem?_map, List.getElem?_eq_getElem (by omega)] at h1
    exact h1

end Go.Proofs.Ytgfdcpmjaamhdaa
