/-
  Whether a word is a power of a root with a tail: the model's l04Start and l04In, the program's Powers.has: contracts.
-/
import Derived.Test.YthgbfjeemfcnlaaPwS
import Derived.Test.YthgbfjeemfcnlaaPow
import Derived.Deep.QuietTactic
import Derived.BigQuiet
import Derived.Deep.RegionHeld3
import Derived.Laws.OwnMore
import Derived.OwnWalk
namespace Go.Proofs.Ythgbfjeemfcnlaa
open Go.RowKit Go
set_option linter.unusedVariables false

theorem Try.infoU8 : (Try.prog.info? 5).map (fun i => (i.zero, i.size, i.bytes)) = some (some (.int .u8 0), 1, 1) := by kernel_rfl

/-- A slice of bytes of the call's own. -/
def BytO (w : World) (base : Nat) (v : Value) (l : List UInt8) : Prop := w.ownsRow base 5 1 v l.length (l.map fun b => Value.int .u8 (b.toNat : Int))
theorem strOfNums_bytes (l : List UInt8) : strOfNums (l.map fun b => (b.toNat : Int)) = ⟨⟨l⟩⟩ := by
  have h : (l.map fun b => (b.toNat : Int)).map (fun n => UInt8.ofNat n.toNat) = l := by
    rw [List.map_map]
    conv => rhs; rw [← List.map_id l]
    apply List.map_congr_left
    intro b _
    simp
  unfold strOfNums
  simp only [h]
theorem BytO.conv {w : World} {base : Nat} {v : Value} {l : List UInt8} (h : BytO w base v l) : (convert 82 9 v).run Try.prog w = .ok (.string ⟨⟨l⟩⟩) w := by
  have h' : w.ownsRow base 5 1 v l.length (l.map fun b => Value.int .u8 (b.toNat : Int)) := h
  rcases h'.2 with ⟨rfl, h0⟩ | ⟨g, cap, cur, rfl, hbg, hg, hnc, hcm, hcs, ht⟩
  · have : l = [] := List.length_eq_zero_iff.1 h0
    subst this
    exact run_convert_bytes_nil w 82 5 Try.underlying82 Try.underlying5 _ _ 9 Try.underlying9
  · rw [← strOfNums_bytes l]
    refine run_convert_bytes_arg w 82 5 Try.underlying82 Try.underlying5 g 0 l.length cap (l.map fun b => (b.toNat : Int)) (by simp) (fun i hi => ?_) 9 Try.underlying9
    rw [Nat.zero_add, h'.cellAt i (by omega), List.getElem?_map, List.getElem?_eq_getElem (by omega)]
    simp [List.getD_eq_getElem?_getD, hi]
theorem one_new8 (w : World) (x : Value) (t : TypeId) : ∀ (j : Nat) (u : Value), [x][j]? = some u → (w.alloc (.cells #[x] t)).cell? ((⟨w.heap.size, 0, none⟩ : Addr).add j) = some u := by
  intro j u hu
  cases j with
  | zero =>
    obtain rfl : x = u := by simpa using hu
    show (w.alloc (.cells #[x] t)).cell? ⟨w.heap.size, 0, none⟩ = some x
    rw [cell_of_row _ _ _ _ _ _ (heap_alloc_new w _)]
    rfl
  | succ j => simp at hu
theorem one_cell8 (n : Int) : ∀ u : Value, u ∈ [Value.int .u8 n] → u.oneCell' = true := by
  intro u hu
  obtain rfl : u = _ := by simpa using hu
  rfl
theorem grow_below8 {w wr w1 : World} {e : TypeId} {n : Nat} {v : Value} {xs : List Value} {o : Obj} (hb : Below w.heap.size w wr) (hown : wr.ownsRow w.heap.size e 1 v n xs)
    (hg : (wr.alloc o).grownBy w1 v.ownBlock) : Below w.heap.size w w1 := by
  have h1 : Below w.heap.size w (wr.alloc o) := hb.alloc hb.size o
  exact h1.grown hg h1.size (fun k hk => (hown.lt k hk).1)

theorem rem_nat (n k : Nat) : ((n : Int).tmod (k : Int)) = ((n % k : Nat) : Int) := by
  rw [Int.tmod_eq_emod_of_nonneg (by omega)]; rfl

set_option maxRecDepth 100000 in
set_option maxHeartbeats 800000 in
theorem start_any (r : ByteArray) (n : Nat) (w : World) (h0 : 0 < r.size) (hr : r.size ≤ 1000) (hn : n ≤ 1000) :
    Calls Try.prog 50 #[.string r, .int .i64 (n : Int)] w fun e w' => e = .returned (.string ⟨⟨Wd.startL r.data.toList n⟩⟩) ∧ Below w.heap.size w w' := by
  obtain ⟨i0, hi, hz0, hz1, hz2⟩ := info_parts Try.infoU8
  go_enter Try.func50, Try.ntmps50
  go_wp2
  have hlit := World.ownsRow_lit (e := 5) (size := 1) (base := w.heap.size) w #[] 0 (Nat.le_refl _) (Nat.zero_le _) rfl
  have HLIT := hidv hlit
  clear hlit
  go_loopw [5, 6] (fun v i wr => ∃ k : Nat, k ≤ n ∧ i = .int .i64 k ∧ Hid (BytO wr w.heap.size v (Wd.startL r.data.toList k)) ∧ Hid (Below w.heap.size w wr)) (fun _ i _ => n - (intOf i).toNat)
  case atStart => exact ⟨0, Nat.zero_le _, rfl, HLIT, hidv (below_al (Below.refl _ _) _)⟩
  case round =>
    obtain ⟨k, hk, rfl, hown, hb⟩ := hrel
    by_cases hlt : k < n
    · obtain ⟨q, hq⟩ : ∃ q, k % r.size = q := ⟨_, rfl⟩
      have hql : q < r.size := by rw [← hq]; exact Nat.mod_lt _ h0
      have hrm : ((k : Int).tmod (r.size : Int)) = (q : Int) := by rw [rem_nat, hq]
      have hsu := Wd.startL_succ r.data.toList k
      rw [show r.data.toList.length = r.size by simp, hq, List.getD_eq_getElem?_getD, List.getElem?_eq_getElem (by simpa using hql), show (some (r.data.toList[q]'(by simpa using hql))).getD 0 = r[q] from rfl] at hsu
      have HSU := hidv hsu
      have hlen := Wd.startL_length r.data.toList k
      obtain ⟨l, hl⟩ : ∃ l, Wd.startL r.data.toList k = l := ⟨_, rfl⟩
      rw [hl] at hown hsu HSU hlen
      have hrz : ((r.size : Int) == 0) = false := by rw [beq_eq_false_iff_ne]; omega
      clear hsu hq hl
      have hown' : wr.ownsRow w.heap.size 5 1 _ l.length (l.map fun b => Value.int .u8 (b.toNat : Int)) := hown.out
      have hsz := hb.out.size
      go_wp2_with (at_builtin; refine wpList_append_own _ rfl (.tmp 13) (.tmp 20) 82 rfl w.heap.size 5 i0 (.int .u8 0) 1 1 Try.underlying82 hi hz0 hz1 hz2 rfl (by decide) _ _ _ rfl (hown'.alloc _) ⟨wr.heap.size, 0, none⟩ 1 1 [.int .u8 r[q].toNat] rfl rfl (one_new8 wr _ _) (one_cell8 _) ?_ ?_ ?_ ?_; (unfold maxLen; omega); omega; exact Nat.le_trans hsz (by simp); intro v1 w1 hown1 hgr1 _)
      go_roundw
      case rel =>
        refine ⟨k + 1, by omega, by go_num, hidv ?_, hidv (grow_below8 hb.out hown' hgr1)⟩
        unfold BytO
        rw [HSU.out, List.length_append, List.map_append]
        exact hown1
      case measure => simp [intOf]; omega
    · obtain rfl : k = n := by omega
      have hcv := BytO.conv hown.out
      go_wp2
      go_ret
      exact ⟨rfl, hb.out⟩


theorem eqB_list (x : ByteArray) (l : List UInt8) : (x.toList == (⟨⟨l⟩⟩ : ByteArray).toList) = decide (x.data.toList = l) := by
  rw [ByteArray.toList_eq, ByteArray.toList_eq, Bool.eq_iff_iff]
  simp

set_option maxRecDepth 100000 in
set_option maxHeartbeats 800000 in
theorem in_any (b : Nat) (r t s : ByteArray) (c : Int) (w : World) (c0 : w.cell? ⟨b, 0, none⟩ = some (.string r)) (c1 : w.cell? ⟨b, 1, none⟩ = some (.string t)) (h0 : 0 < r.size) (hr : r.size ≤ 1000) (ht : t.size < r.size) (hs : s.size ≤ 1000) :
    Calls Try.prog 37 #[.pointer (some ⟨b, 0, none⟩), .string s, .int .i64 c] w fun e w' => e = .returned (.bool (Wd.inL r.data.toList t.data.toList s.data.toList c)) ∧ Below w.heap.size w w' := by
  unfold Wd.inL
  rw [show t.data.toList.length = t.size by simp, show s.data.toList.length = s.size by simp, show r.data.toList.length = r.size by simp]
  by_cases h1 : t.size ≤ s.size
  · obtain ⟨n, hn⟩ : ∃ n, s.size - t.size = n := ⟨_, rfl⟩
    have hni : (s.size : Int) - (t.size : Int) = (n : Int) := by omega
    rw [decide_eq_true h1, Bool.true_and, hn]
    have hrz : ((r.size : Int) == 0) = false := by rw [beq_eq_false_iff_ne]; omega
    have hge : decide ((0 : Int) ≤ (n : Int)) = true := decide_eq_true (by omega)
    by_cases h2 : n % r.size = 0
    · have hrm : ((n : Int).tmod (r.size : Int)) = 0 := by rw [rem_nat, h2]; rfl
      obtain ⟨q, hq⟩ : ∃ q, n / r.size = q := ⟨_, rfl⟩
      have hqm : ((n : Int).tdiv (r.size : Int)) = (q : Int) := by rw [Int.tdiv_eq_ediv_of_nonneg (by omega), ← hq]; rfl
      have hql : q ≤ n := by rw [← hq]; exact Nat.div_le_self _ _
      rw [decide_eq_true h2, Bool.true_and, hq]
      by_cases h3 : c ≤ (q : Int)
      · rw [decide_eq_true h3, Bool.true_and]
        have C1 := hidv (fun W => start_any r s.size W h0 hr hs)
        have heq := eqB_list s (Wd.startL r.data.toList s.size)
        obtain ⟨y, hy⟩ : ∃ y : ByteArray, ⟨⟨Wd.startL r.data.toList s.size⟩⟩ = y := ⟨_, rfl⟩
        obtain ⟨d, hd⟩ : ∃ d, decide (s.data.toList = Wd.startL r.data.toList s.size) = d := ⟨_, rfl⟩
        rw [hy] at C1 heq
        rw [hd] at heq ⊢
        clear hy hd hq hn h1 h2
        go_enter Try.func37, Try.ntmps37
        go_wp2_with fail
        refine (C1.out _).mono ?_
        rintro e w1 ⟨rfl, hb1⟩
        go_wp2_with fail
        go_ret
        exact ⟨rfl, hb1⟩
      · rw [decide_eq_false h3, Bool.false_and]
        clear hq hn h1 h2
        go_enter Try.func37, Try.ntmps37
        go_wp2_with fail
        go_ret
        exact ⟨rfl, Below.refl _ _⟩
    · have hrm : ((n : Int).tmod (r.size : Int)) = ((n % r.size : Nat) : Int) := rem_nat _ _
      obtain ⟨m, hm⟩ : ∃ m, n % r.size = m := ⟨_, rfl⟩
      rw [hm] at hrm h2
      have hmz : ((m : Int) == 0) = false := by rw [beq_eq_false_iff_ne]; omega
      rw [hm, decide_eq_false h2, Bool.false_and]
      clear hm hn h1
      go_enter Try.func37, Try.ntmps37
      go_wp2_with fail
      go_ret
      exact ⟨rfl, Below.refl _ _⟩
  · have hge : decide ((0 : Int) ≤ (s.size : Int) - (t.size : Int)) = false := decide_eq_false (by omega)
    rw [decide_eq_false h1, Bool.false_and]
    go_enter Try.func37, Try.ntmps37
    go_wp2_with fail
    go_ret
    exact ⟨rfl, Below.refl _ _⟩


theorem suffix_cut {s t : ByteArray} (h : t.data.toList.isSuffixOf s.data.toList = true) : t.size ≤ s.size := by
  rw [List.isSuffixOf_iff_suffix] at h
  have := h.length_le
  simpa using this

theorem cutLite_any (s t : ByteArray) (w : World) (hs : s.size ≤ maxLen) :
    Calls Try.prog 56 #[.string s, .string t] w fun e w' => e = .returned (if t.data.toList.isSuffixOf s.data.toList then .tuple #[.string (s.extract 0 (s.size - t.size)), .bool true] else .tuple #[.string s, .bool false]) ∧ w' = w := by
  have c1 := fun W => Try.stringslite_HasSuffix s t W (by unfold maxLen at hs; omega)
  unfold Lib.hasSuffix at c1
  unfold maxLen at hs
  cases hb : t.data.toList.isSuffixOf s.data.toList
  · rw [hb] at c1
    have C1 := hidv c1
    clear c1 hb
    go_enter Try.func56, Try.ntmps56
    go_wp2_with (go_at_call 66; refine (C1.out _).mono ?_; rintro e w' ⟨rfl, rfl⟩)
    go_ret2
    exact ⟨rfl, rfl⟩
  · have hle := suffix_cut hb
    rw [hb] at c1
    have C1 := hidv c1
    have hsub : (s.size : Int) - (t.size : Int) = ((s.size - t.size : Nat) : Int) := by omega
    clear c1 hb
    go_enter Try.func56, Try.ntmps56
    go_wp2_with (go_at_call 66; refine (C1.out _).mono ?_; rintro e w' ⟨rfl, rfl⟩)
    go_ret2
    exact ⟨rfl, rfl⟩

theorem cut_any (s t : ByteArray) (w : World) (hs : s.size ≤ maxLen) :
    Calls Try.prog 42 #[.string s, .string t] w fun e w' => e = .returned (if t.data.toList.isSuffixOf s.data.toList then .tuple #[.string (s.extract 0 (s.size - t.size)), .bool true] else .tuple #[.string s, .bool false]) ∧ w' = w := by
  have c1 := fun W => cutLite_any s t W hs
  cases hb : t.data.toList.isSuffixOf s.data.toList
  · rw [hb] at c1
    have C1 := hidv c1
    clear c1 hb
    go_enter Try.func42, Try.ntmps42
    go_wp2_with (go_at_call 56; refine (C1.out _).mono ?_; rintro e w' ⟨rfl, rfl⟩)
    go_ret2
    exact ⟨rfl, rfl⟩
  · rw [hb] at c1
    have C1 := hidv c1
    clear c1 hb
    go_enter Try.func42, Try.ntmps42
    go_wp2_with (go_at_call 56; refine (C1.out _).mono ?_; rintro e w' ⟨rfl, rfl⟩)
    go_ret2
    exact ⟨rfl, rfl⟩

end Go.Proofs.Ythgbfjeemfcnlaa
