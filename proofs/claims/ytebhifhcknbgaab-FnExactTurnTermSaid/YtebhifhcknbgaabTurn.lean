/-
  TurnTerm: the model's contract; the ways of the program's that give no term; the library's iterator backwards.
-/
import Derived.Test.YtebhifhcknbgaabWalkN
import Derived.RangeFuncBox
import Derived.RangeFuncFrom
import Derived.RangeFuncLeaves
import Derived.RangeFuncCalls
import Derived.Shelf.Abstract
import Derived.OwnWalkIn
import Derived.TacticsInMore
import Derived.LoopNIn
import Derived.LoopIn
namespace Go.Proofs.Ytebhifhcknbgaab
open Go.RowKit Go.Shelf Go

set_option maxRecDepth 100000 in
set_option maxHeartbeats 400000 in
theorem specTurned_any (s : ByteArray) (w : World) (hs : s.size ≤ 24) :
    Calls Try.prog 63 #[.string s] w fun e w' => e = .returned (.string ⟨s.data.toList.reverse.toArray⟩) ∧ w = w' := by
  go_enter Try.func63, Try.ntmps63
  go_wp2
  go_loop [3, 4] (fun q i => ∃ k : Nat, k ≤ s.size ∧ i = .int .i64 ((k : Int) - 1) ∧ ∃ b : ByteArray, q = .string b ∧ Hid (b.data.toList = (s.data.toList.drop k).reverse) ∧ b.size ≤ 24) (fun _ i => (intOf i + 1).toNat)
  case atStart =>
    refine ⟨s.size, Nat.le_refl _, rfl, _, rfl, hidv ?_, Nat.zero_le _⟩
    rw [List.drop_of_length_le (by simp)]
    rfl
  case round =>
    obtain ⟨k, hk, rfl, b, rfl, hq, hbs⟩ := hrel
    cases k with
    | zero =>
      have he : b = ⟨s.data.toList.reverse.toArray⟩ := by
        have h1 := hq.out
        rw [List.drop_zero] at h1
        rw [← h1]
      subst he
      go_wp2
      go_ret
      exact ⟨rfl, rfl⟩
    | succ j =>
      have e1 : (((j + 1 : Nat) : Int) - 1) = (j : Int) := by omega
      rw [e1]
      have hsl := slice_one s (show j < s.size by omega)
      have hes : (s.extract j (j + 1)).size = 1 := by simp; omega
      have hbz : b.size ≤ 23 := by
        have h1 := congrArg List.length hq.out
        rw [List.length_reverse, List.length_drop] at h1
        have h2 : b.data.toList.length = b.size := by simp
        have h3 : s.data.toList.length = s.size := by simp
        omega
      have HN : Hid ((b ++ s.extract j (j + 1)).data.toList = (s.data.toList.drop j).reverse) := by
        refine hidv ?_
        rw [ByteArray.data_append, Array.toList_append, hq.out, extract_one (by omega), List.drop_eq_getElem_cons (i := j) (by simpa using (show j < s.size by omega)), List.reverse_cons]
        rfl
      have hn2 : (b ++ s.extract j (j + 1)).size ≤ 24 := by simp only [ByteArray.size_append]; omega
      go_wp2
      go_round
      case rel => exact ⟨j, by omega, rfl, _, rfl, HN, hn2⟩
      case measure => simp [intOf]

theorem specTurn_bad (s : ByteArray) (w : World) (hs : s.size ≤ maxLen) (h : Wd.termB s.data.toList = false) :
    Calls Try.prog 32 #[.string s] w fun e w' => e = .returned (.tuple #[.string ⟨#[]⟩, .int .i64 1]) ∧ Below w.heap.size w w' := by
  have c1 := specTerm_any s w hs
  rw [h] at c1
  clear h
  go_enter Try.func32, Try.ntmps32
  go_wp2_with fail
  refine c1.mono ?_
  rintro e w' ⟨rfl, rfl⟩
  go_wp2_with fail
  go_ret2
  exact ⟨rfl, Below.refl _ _⟩

theorem specTurn_ok (s : ByteArray) (w : World) (hs : s.size ≤ 24) (h : Wd.termB s.data.toList = true) :
    Calls Try.prog 32 #[.string s] w fun e w' => e = .returned (.tuple #[.string ⟨s.data.toList.reverse.toArray⟩, .int .i64 0]) ∧ Below w.heap.size w w' := by
  have c1 := specTerm_any s w (by unfold maxLen; omega)
  have c2 := specTurned_any s w hs
  rw [h] at c1
  obtain ⟨r, hr⟩ : ∃ r : ByteArray, ⟨s.data.toList.reverse.toArray⟩ = r := ⟨_, rfl⟩
  rw [hr] at c2 ⊢
  clear h hr
  go_enter Try.func32, Try.ntmps32
  go_wp2_with fail
  refine c1.mono ?_
  rintro e w' ⟨rfl, rfl⟩
  go_wp2_with fail
  refine c2.mono ?_
  rintro e w' ⟨rfl, rfl⟩
  go_wp2_with fail
  go_ret2
  exact ⟨rfl, Below.refl _ _⟩

theorem lt_of_heapT {w : World} {g : Nat} {o : Obj} (h : w.heap[g]? = some o) : g < w.heap.size := by
  rcases Nat.lt_or_ge g w.heap.size with h' | h'
  · exact h'
  · simp [Array.getElem?_eq_none h'] at h

attribute [local go_sem] Oper.semAt_some

/-- What comes of a term, from its end on: the place, and a letter or an unknown. -/
abbrev Sy := Nat × { c : UInt8 // Wd.isL c = true ∨ Wd.isL c = false ∧ Wd.isU c = true }
def encSy (x : Sy) : Array Value := #[.int .i64 (x.1 : Int), symV x.2.1]
/-- What the loop's body keeps: each row of cells but the builder's own block and the rows of bytes. -/
def KC (b : Nat) (W W' : World) : Prop := ∀ k c T fz, W.heap[k]? = some (.cells c T fz) → k ≠ b → T ≠ 5 → W'.heap[k]? = some (.cells c T fz)
theorem KC.refl (b : Nat) (W : World) : KC b W W := fun _ _ _ _ h _ _ => h
theorem KC.trans {b : Nat} {X Y Z : World} (h : KC b X Y) (k : KC b Y Z) : KC b X Z := fun i c T fz hi hb hT => k i c T fz (h i c T fz hi hb hT) hb hT
theorem KC.of_others {b : Nat} {W W' : World} (h : Lib.OthersKept 5 (some b) W W') : KC b W W' := fun k c T fz hk hb hT => h k _ hk (by simpa using hb) (fun c' fz' e => by simp only [Obj.cells.injEq] at e; exact hT e.2.1)
theorem keeps_of_others {b : Nat} {W W' : World} {c : Array Value} {T : TypeId} {fz : Nat × Nat} (h : Lib.OthersKept 5 (some b) W W') (hs : W.heap.size ≤ W'.heap.size) (hb : W.heap[b]? = some (.cells c T fz)) : KeepsOthers W W' :=
  ⟨hs, fun k o hk ho => h k o hk (fun e => by obtain rfl : k = b := Option.some.inj e; rw [hb] at hk; cases hk; cases ho) (fun c' fz' e => by subst e; cases ho)⟩

/-- The slice value holds them, from its end on. -/
def Backs (b : Nat) (W : World) (A : Option Addr) (rv : List Sy) : Prop :=
  0 < rv.length → ∃ g cur, A = some ⟨g, 0, none⟩ ∧ g ≠ b ∧ W.heap[g]? = some (.cells cur 63 (0, 0)) ∧ ∀ k (h : k < rv.length), rv[k].1 = rv.length - 1 - k ∧ cur[rv.length - 1 - k]? = some (symV rv[k].2.1)

set_option maxRecDepth 100000 in
set_option maxHeartbeats 2000000 in
theorem back1_in (F : Fence) (n : Nat) (h7 : F.fn 83) (hro : F.round = none) (hn : 1 ≤ n) (l Bs b cap : Nat) (A : Option Addr) (rv : List Sy) (hlen : rv.length ≤ 24) (J Jx : List Sy → World → Prop)
    (hY : ∀ pre x W, J pre W → pre.length < rv.length → YieldAt F (n - 1) Try.prog l #[.int .i64 (x.1 : Int), symV x.2.1] W fun e W' =>
      (e = .returned (.bool true) ∧ J (pre ++ [x]) W' ∧ KC b W W') ∨ (e = .returned (.bool false) ∧ Jx (pre ++ [x]) W'))
    (W : World) (hBs : W.heap[Bs]? = some (.cells #[.slice A rv.length cap] 60 (0, 0))) (hBn : Bs ≠ b) (hc : Backs b W A rv) (h0 : J [] W) :
    CallsIn F n Try.prog 83 #[.func (.yield l) #[] #[], .pointer (some ⟨Bs, 0, none⟩)] W fun e W' => (∃ v, e = .returned v) ∧
      ((∃ ys, ys = rv ∧ J ys W') ∨ (∃ pre, pre <+: rv ∧ Jx pre W')) := by
  have hBs0 : W.cell? ⟨Bs, 0, none⟩ = some (.slice A rv.length cap) := by rw [cell_of_row _ _ _ _ _ _ hBs]; rfl
  refine callsIn_of_wp Try.func83 rfl h7 ?_ hro
  simp only [Try.ntmps83, List.size_toArray, List.length_cons, List.length_nil, Nat.reduceAdd, Nat.reduceSub, Array.replicate_succ, Array.replicate_zero, List.push_toArray, List.append_toArray, List.nil_append, List.cons_append]
  gi_wp2
  clear hBs0
  gi_loopw [3] (fun i wr => ∃ k j : Nat, k + j = rv.length ∧ i = .int .i64 ((j : Int) - 1) ∧ J (rv.take k) wr ∧ KC b W wr)
    (fun i _ => (intOf i + 1).toNat)
  case atStart => exact ⟨0, rv.length, by omega, rfl, h0, KC.refl _ _⟩
  case round =>
    obtain ⟨k, j, hkj, rfl, hJs, hnx⟩ := hrel
    have hbs : wr.cell? ⟨Bs, 0, none⟩ = some (.slice A rv.length cap) := by rw [cell_of_row _ _ _ _ _ _ (hnx Bs _ _ _ hBs hBn (by decide))]; rfl
    cases j with
    | zero =>
      have hk : k = rv.length := by omega
      gi_wp2
      go_end0
      refine ⟨⟨_, rfl⟩, .inl ⟨_, rfl, ?_⟩⟩
      rw [List.take_of_length_le (by omega)] at hJs
      exact hJs
    | succ j =>
      have e1 : (((j + 1 : Nat) : Int) - 1) = (j : Int) := by omega
      rw [e1]
      have hkl : k < rv.length := by omega
      obtain ⟨g, cur, rfl, hgb, hg, hcs⟩ := hc (by omega)
      obtain ⟨hx1, hx2⟩ := hcs k hkl
      have ej : rv.length - 1 - k = j := by omega
      rw [ej] at hx1 hx2
      have hx3 : wr.cell? ⟨g, j, none⟩ = some (symV rv[k].2.1) := by rw [cell_of_row _ _ _ _ _ _ (hnx g _ _ _ hg hgb (by decide))]; exact hx2
      obtain ⟨fn, tmps, assign, body, hy, hR⟩ := hY _ rv[k] wr hJs (by rw [List.length_take]; omega)
      rw [hx1] at hy
      have ht : rv.take k ++ [rv[k]] = rv.take (k + 1) := (List.take_succ_eq_append_getElem hkl).symm
      rw [ht] at hR
      generalize symV rv[k].2.1 = sv at hx3 hy
      clear hcs hx1 hx2 ht
      gi_wp2
      refine hR.mono ?_
      rintro e W3 (⟨rfl, hJ3, hk3⟩ | ⟨rfl, hJx3⟩)
      · gi_wp2
        go_roundw
        case rel => exact ⟨k + 1, j, by omega, rfl, hJ3, hnx.trans hk3⟩
        case measure => simp [intOf]
      · gi_wp2
        refine bodyPost_ret (results_none rfl _ _ _) rfl ?_
        exact ⟨⟨_, rfl⟩, .inr ⟨_, List.take_prefix _ _, hJx3⟩⟩

theorem back_in (F : Fence) (n : Nat) (h5 : F.fn 64) (hro : F.round = none) (a : Option Addr) (len cap : Nat) (w : World) :
    CallsIn F n Try.prog 64 #[.slice a len cap] w fun e w' => e = .returned (.func (.func 83) #[] #[.pointer (some ⟨w.heap.size, 0, none⟩)]) ∧ w' = w.alloc (.cells #[.slice a len cap] 60) := by
  refine callsIn_of_wp Try.func64 rfl h5 ?_ hro
  simp only [Try.ntmps64, List.size_toArray, List.length_cons, List.length_nil, Nat.reduceAdd, Nat.reduceSub, Array.replicate_succ, Array.replicate_zero, List.push_toArray, List.append_toArray, List.nil_append, List.cons_append]
  gi_wp2
  go_ret
  exact ⟨rfl, rfl⟩

theorem back_stops (F : Fence) (n : Nat) (h7 : F.fn 83) (hro : F.round = none) (hn : 1 ≤ n) (Bs b cap : Nat) (A : Option Addr) (rv : List Sy) (hlen : rv.length ≤ 24) (w : World)
    (hBs : w.heap[Bs]? = some (.cells #[.slice A rv.length cap] 60 (0, 0))) (hBn : Bs ≠ b) (hc : Backs b w A rv) :
    SeqStopsK F n Try.prog 83 #[.pointer (some ⟨Bs, 0, none⟩)] (fun x : Sy => #[.int .i64 (x.1 : Int), symV x.2.1]) (KC b) (fun ys => ys = rv) (fun pre => pre <+: rv) rv.length w := fun l J Jx W hW _ _ hY h0 => by
  refine back1_in F n h7 hro hn l Bs b cap A rv hlen J Jx hY W ?_ hBn ?_ h0
  · exact (hW.block Bs (lt_of_heapT hBs)).trans hBs
  · intro hp
    obtain ⟨g, cur, h1, h2, h3, h4⟩ := hc hp
    exact ⟨g, cur, h1, h2, (hW.block g (lt_of_heapT h3)).trans h3, h4⟩

theorem kc_put (b : Nat) (w : World) : ∀ (W : World) (l : Nat) (o o' : Obj), w.heap.size ≤ l → W.heap[l]? = some o → o.isCells = false → o.isWalk = false → KC b W (W.putObj l o') := by
  intro W l o o' _ hl ho _ k c T fz hk _ _
  have hne : k ≠ l := fun e => by subst e; rw [hl] at hk; cases hk; cases ho
  rw [World.putObj_heap_other (fun e => hne e)]
  exact hk
theorem builderAt_own {T e : TypeId} {B b : Nat} {p : Value} {bs : List Value} {W W' : World} {row : Option Nat} (h : Lib.BuilderAt T e B b p bs W) (hg : W.grownBy W' row) (hr : ∀ r, row = some r → ∃ o : Obj, W.heap[r]? = some o ∧ o.isCells = false) : Lib.BuilderAt T e B b p bs W' := by
  obtain ⟨hB, v, hv, hown, hne⟩ := h
  have hbr : row ≠ some b := fun e => by obtain ⟨o, h1, h2⟩ := hr b e; rw [hv] at h1; cases h1; cases h2
  refine ⟨hB, v, (hg.block b (lt_of_heapT hv) (fun e => hbr e.symm)).trans hv, hown.kept hg ?_, hne⟩
  rcases hown.2 with ⟨rfl, _⟩ | ⟨g, cap, cur, rfl, _, hh, _⟩
  · exact .inl rfl
  · exact .inr (fun e => by obtain ⟨o, h1, h2⟩ := hr g e.symm; rw [hh] at h1; cases h1; cases h2)
theorem builder_own {T e : TypeId} {B b : Nat} {bs : List Value} {W W' : World} {row : Option Nat} (h : Lib.IsBuilder T e B b bs W) (hg : W.grownBy W' row) (hr : ∀ r, row = some r → ∃ o : Obj, W.heap[r]? = some o ∧ o.isCells = false) : Lib.IsBuilder T e B b bs W' :=
  h.imp (fun h => builderAt_own h hg hr) (fun h => builderAt_own h hg hr)

theorem turned_own (b : Nat) : Own (fun (pre : List Sy) W => Lib.IsBuilder 69 5 b b (Lib.byteCells (pre.map (·.2.1))) W) := fun _ _ _ _ hs hg hr => builder_own hs hg hr
theorem backs_of {s : ByteArray} {w : World} {base b : Nat} {A : Option Addr} (hv : Wd.termB s.data.toList = true) (h : SymBlk w base A s) (hb : b < base) :
    ∃ rv : List Sy, rv.length = s.size ∧ rv.map (·.2.1) = s.data.toList.reverse ∧ Backs b w A rv := by
  refine ⟨List.ofFn (fun k : Fin s.size => (s.size - 1 - k.val, ⟨s[s.size - 1 - k.val]'(by have := k.isLt; omega), term_at hv _ (by have := k.isLt; omega)⟩)), by simp, ?_, ?_⟩
  · apply List.ext_getElem
    · simp
    · intro i h1 h2
      simp
      rfl
  · intro h0
    rw [List.length_ofFn] at h0
    obtain ⟨g, cur, hA, hbg, hg, hc⟩ := h h0
    refine ⟨g, cur, hA, by omega, hg, fun k hk => ?_⟩
    simp only [List.length_ofFn, List.getElem_ofFn]
    exact ⟨trivial, hc _ (by rw [List.length_ofFn] at hk; omega)⟩

theorem uTxt_of {c : UInt8} {x : Nat} (h : Wd.isL c = false) (hu : Wd.isU c = true) (hx : Wd.unkI c = x) : (uTxt x).data.toList = [c] := by
  unfold Wd.isU at hu
  simp only [Bool.or_eq_true, beq_iff_eq] at hu
  rcases hu with ((rfl | rfl) | rfl) | rfl
  · obtain rfl : x = 0 := by have : Wd.unkI 88 = 0 := rfl; omega
    rfl
  · obtain rfl : x = 1 := by have : Wd.unkI 89 = 1 := rfl; omega
    rfl
  · obtain rfl : x = 2 := by have : Wd.unkI 90 = 2 := rfl; omega
    rfl
  · obtain rfl : x = 3 := by have : Wd.unkI 87 = 3 := rfl; omega
    rfl

theorem implTurn_bad (s : ByteArray) (w : World) (hs : s.size ≤ maxLen) (h : Wd.termB s.data.toList = false) :
    Calls Try.prog 33 #[.string s] w fun e w' => e = .returned (.tuple #[.string ⟨#[]⟩, .int .i64 1]) ∧ Below w.heap.size w w' := by
  have c1 := implValidTerm_any s w hs
  rw [h] at c1
  clear h
  refine (callsIn_wide (n := 5)).1 ?_
  refine callsIn_of_wp_marks Try.func33 rfl trivial ?_ rfl
  simp only [Try.ntmps33, List.size_toArray, List.length_cons, List.length_nil, Nat.reduceAdd, Nat.reduceSub, Array.replicate_succ, Array.replicate_zero, List.push_toArray, List.append_toArray, List.nil_append, List.cons_append]
  gi_wp2_with (refine ⟨trivial, ?_⟩; gi_at_call 47; refine (callsIn_wide.2 c1).mono ?_; rintro e w' ⟨rfl, rfl⟩)
  exact ⟨_, results_tmp2 rfl _ _ _, rfl, Below.refl _ _⟩

set_option maxRecDepth 100000 in
set_option maxHeartbeats 2000000 in
theorem implTurn_ok (s : ByteArray) (w : World) (hs : s.size ≤ 24) (h : Wd.termB s.data.toList = true) :
    Calls Try.prog 33 #[.string s] w fun e w' => e = .returned (.tuple #[.string ⟨s.data.toList.reverse.toArray⟩, .int .i64 0]) ∧ Below w.heap.size w w' := by
  have c1 := implValidTerm_any s w (by unfold maxLen; omega)
  have HV := hidv h
  rw [h] at c1
  clear h
  refine (callsIn_wide (n := 5)).1 ?_
  refine callsIn_of_wp_marks Try.func33 rfl trivial ?_ rfl
  simp only [Try.ntmps33, List.size_toArray, List.length_cons, List.length_nil, Nat.reduceAdd, Nat.reduceSub, Array.replicate_succ, Array.replicate_zero, List.push_toArray, List.append_toArray, List.nil_append, List.cons_append]
  gi_wp2_with (refine ⟨trivial, ?_⟩; gi_at_call 47; refine (callsIn_wide.2 c1).mono ?_; rintro e w' ⟨rfl, rfl⟩)
  obtain ⟨w0, hw0⟩ : ∃ w0, w0 = w.alloc (.cells #[.pointer none, .slice none 0 0] 69) := ⟨_, rfl⟩
  rw [← hw0]
  have hb0 : Below w.heap.size w w0 := by rw [hw0]; exact (Below.refl _ _).alloc (Nat.le_refl _) _
  have hz0 : w0.heap.size = w.heap.size + 1 := by rw [hw0]; simp
  have hk0 : w0.heap[w.heap.size]? = some (.cells #[.pointer none, .slice none 0 0] 69 (0, 0)) := by rw [hw0]; exact heap_alloc_new w _
  clear hw0
  refine ⟨trivial, (callsIn_wide.2 (symbols_blk s w0 hs)).mono ?_⟩
  rintro e w1 ⟨A, c', rfl, hsym, hb1⟩
  gi_wp2_with (refine ⟨trivial, ?_⟩; gi_at_call 64; refine (back_in Fence.wide _ trivial rfl _ _ _ _).mono ?_; rintro e w' ⟨rfl, rfl⟩)
  obtain ⟨rv, hrl, hrs, hrb⟩ := backs_of HV.out hsym (b := w.heap.size) (by omega)
  have hsz1 := hb1.size
  have hbd1 : Lib.IsBuilder 69 5 w.heap.size w.heap.size (Lib.byteCells (([] : List Sy).map (·.2.1))) (w1.alloc (.cells #[.slice A s.size c'] 60)) :=
    .inl ⟨Nat.le_refl _, .slice none 0 0, (heap_alloc_old w1 _ (by omega)).trans ((hb1.block w.heap.size (by omega)).trans hk0), World.ownsRow_nil _ _ _ _, by simp [Value.ownBlock]⟩
  have hbb1 : Below w.heap.size w (w1.alloc (.cells #[.slice A s.size c'] 60)) := (hb0.trans (hb1.mono (by omega))).alloc (by omega) _
  have hbx : (w1.alloc (.cells #[.slice A s.size c'] 60)).heap[w1.heap.size]? = some (.cells #[.slice A rv.length c'] 60 (0, 0)) := by rw [hrl]; exact heap_alloc_new w1 _
  have hbk : Backs w.heap.size (w1.alloc (.cells #[.slice A s.size c'] 60)) A rv := by
    intro hp
    obtain ⟨g, cur, k1, k2, k3, k4⟩ := hrb hp
    exact ⟨g, cur, k1, k2, (heap_alloc_old w1 _ (lt_of_heapT k3)).trans k3, k4⟩
  have hsz2 : (w1.alloc (.cells #[.slice A s.size c'] 60)).heap.size = w1.heap.size + 1 := by simp
  refine wpIn_rangeFunc_ownF (F := Fence.wide) rfl (by decide) (gf := 83) (lb := #[.pointer (some ⟨w1.heap.size, 0, none⟩)]) rfl trivial (enters_of Try.func83 (by kernel_rfl) rfl)
    (back_stops Fence.wide _ trivial rfl (by omega) w1.heap.size w.heap.size c' A rv (by omega) _ hbx (by omega) hbk) KC.trans (kc_put w.heap.size _) (Below.refl _ _) (fun _ => rfl)
    (fun pre W => Lib.IsBuilder 69 5 w.heap.size w.heap.size (Lib.byteCells (pre.map (·.2.1))) W ∧ Below w.heap.size w W)
    (fun _ _ _ => False)
    (OwnFrom.and (Own.from (turned_own w.heap.size) _) (ownFrom_below (Nat.le_refl _) (by omega)))
    (fun _ _ _ _ _ hs _ _ => hs)
    ⟨hbd1, hbb1⟩
    (fun x => { tmps := #[.string s, undef, .string ⟨#[]⟩, .int .i64 0, .pointer (some ⟨w.heap.size, 0, none⟩), undef, symV x.2.1, .string s, .bool true, .bool false, .string s, .slice A s.size c', .func (.func 83) #[] #[.pointer (some ⟨w1.heap.size, 0, none⟩)], .int .i64 (x.1 : Int), symV x.2.1, undef, undef, undef, undef], defers := [] }) ?assign ?body ?done ?stop
  case assign =>
    intro l x W K hK
    gi_wp2
    exact hK
  case body =>
    rintro l pre ⟨i, c, hc⟩ W ⟨hbl, hB⟩ hlen
    dsimp only
    have hpl : (Lib.byteCells (pre.map (·.2.1))).length ≤ 24 := by rw [Lib.byteCells_length, List.length_map]; omega
    have hsw := hB.size
    have hbc : ∃ cc, W.heap[w.heap.size]? = some (.cells cc 69 (0, 0)) := by
      rcases hbl with ⟨_, v, hv, _⟩ | ⟨_, v, hv, _⟩
      · exact ⟨_, hv⟩
      · exact ⟨_, hv⟩
    obtain ⟨cc, hcc⟩ := hbc
    rcases hc with hl | ⟨hl, hu⟩
    · obtain ⟨he, hj⟩ := symV_letter hl
      rw [he]
      have HLB := hidv (letterText_bytes hl)
      obtain ⟨r, hr⟩ : ∃ r, (⟨#[97, 98, 99, 100]⟩ : ByteArray).extract (kindN c) (kindN c + 1) = r := ⟨_, rfl⟩
      have hlt' := fun wx => letterText_any (kindN c) hj wx
      rw [hr] at HLB hlt'
      have hrs : r.size = 1 := by
        have := congrArg List.length HLB.out
        simpa using this
      have HLT := hidv hlt'
      clear he hr hlt' hj
      obtain ⟨j, hjn⟩ : ∃ j, kindN c = j := ⟨_, rfl⟩
      rw [hjn] at HLT ⊢
      clear hjn
      have hmk := fun (wx : World) => method_textL (j : Int) wx
      gi_wp2_with (first | (refine ⟨trivial, ?_⟩; gi_at_call 77; refine (CallsIn.inRound l (callsIn_wide.2 (HLT.out _))).mono ?_; rintro e w' ⟨rfl, rfl⟩) | (refine ⟨trivial, ?_⟩; gi_at_call 61; refine (CallsIn.inRound l (callsIn_wide.2 (writeString_any _ _ _ _ _ hbl (by omega) (by omega)))).mono ?_; rintro e w' ⟨rfl, hbl2, hbw2, hok2⟩))
      refine ⟨keeps_of_others hok2 hbw2.size hcc, KC.of_others hok2, ?_, hB.trans hbw2⟩
      rw [List.map_append, List.map_cons, List.map_nil, ← HLB.out, ← cells_app]
      exact .inr hbl2
    · obtain ⟨x, hx4, hxu, he, _⟩ := symV_unknown hl hu
      rw [he]
      have HLT := hidv (unknownText_any x hx4)
      have HLB := hidv (uTxt_of hl hu hxu)
      obtain ⟨r, hr⟩ : ∃ r, uTxt x = r := ⟨_, rfl⟩
      have hrs := uTxt_size hx4
      rw [hr] at HLB HLT hrs
      clear he hr hxu
      have hmk := fun (wx : World) => method_textU (x : Int) wx
      gi_wp2_with (first | (refine ⟨trivial, ?_⟩; gi_at_call 131; refine (CallsIn.inRound l (callsIn_wide.2 (HLT.out _))).mono ?_; rintro e w' ⟨rfl, rfl⟩) | (refine ⟨trivial, ?_⟩; gi_at_call 61; refine (CallsIn.inRound l (callsIn_wide.2 (writeString_any _ _ _ _ _ hbl (by omega) (by omega)))).mono ?_; rintro e w' ⟨rfl, hbl2, hbw2, hok2⟩))
      refine ⟨keeps_of_others hok2 hbw2.size hcc, KC.of_others hok2, ?_, hB.trans hbw2⟩
      rw [List.map_append, List.map_cons, List.map_nil, ← HLB.out, ← cells_app]
      exact .inr hbl2
  case done =>
    rintro D ys W hD rfl ⟨hbl, hB⟩ hK
    have hsw := hB.size
    have hbl' := Lib.IsBuilderF.of hbl
    rw [hrs] at hbl'
    obtain ⟨t, ht⟩ : ∃ t : ByteArray, ⟨s.data.toList.reverse.toArray⟩ = t := ⟨_, rfl⟩
    have hst := Try.Builder_String_any_k _ _ _ _ hbl' hsw
    rw [ht] at hst
    have hDb : D ≠ w.heap.size := by omega
    gi_wp2_with (refine ⟨trivial, ?_⟩; gi_at_call 62; refine (callsIn_wide.2 hst).mono ?_; rintro e w3 ⟨rfl, _, hbw2, hok2⟩)
    have hK2 : w3.heap[D]? = some (.deferred (some [])) := hok2 D _ hK (by simpa using hDb) (fun c fz e => by cases e)
    refine ⟨by simp, .inl ⟨_, _, rfl, run_takeDeferred hK2, ?_⟩⟩
    exact ⟨_, results_tmp2 rfl _ _ _, by rw [ht]; rfl, (hB.trans hbw2).trans (belowK_b (w := w) (Nat.le_refl _) w3 D _ _ (by omega) hK2 rfl rfl)⟩
  case stop =>
    rintro D c pre W _ _ h _
    exact h.elim

end Go.Proofs.Ytebhifhcknbgaab
