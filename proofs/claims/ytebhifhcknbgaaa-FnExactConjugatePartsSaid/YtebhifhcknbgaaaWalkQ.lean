/-
  ConjugateParts, of the program: a contract.
-/
import Derived.Test.YtebhifhcknbgaaaWalkH
import Derived.Deep.RegionHeld3
import Derived.Deep.RegionHeldLaw
import Derived.Deep.AppendLies
namespace Go.Proofs.Ytebhifhcknbgaaa
open Go.RowKit Go

theorem intRow_atQ {w : World} {B : Nat} {v : Value} {xs : List Int} (h : Row w B v (xs.map (Value.int .i64))) : ∃ A c, v = .slice A xs.length c ∧ (0 < xs.length → ∃ g o, A = some ⟨g, o, none⟩ ∧ g < B ∧ ∀ i (hi : i < xs.length), w.cell? ⟨g, o + i, none⟩ = some (.int .i64 xs[i])) := by
  obtain ⟨A, c, rfl, hA⟩ := h
  rw [List.length_map] at hA ⊢
  refine ⟨A, c, rfl, fun h0 => ?_⟩
  obtain ⟨g, o, hA1, hg, hc⟩ := hA h0
  exact ⟨g, o, hA1, hg, fun i hi => hc i _ (map_int_at hi)⟩

theorem slice_u0 (s : ByteArray) {k : Nat} (hk : k ≤ s.size) (w : World) : (Instr.slice 9 (.string s) none (some (.int .i64 (k : Int))) none).run Try.prog w = .ok (.string (s.extract 0 k)) w := by
  rw [run_slice_string_h w 9 s Try.underlying9 .i64 _ (by omega) (by omega), Int.toNat_natCast]
theorem slice_u1 (s : ByteArray) {k : Nat} (hk : k ≤ s.size) (w : World) : (Instr.slice 9 (.string s) (some (.int .i64 (k : Int))) none none).run Try.prog w = .ok (.string (s.extract k s.size)) w := by
  rw [run_slice_string_l w 9 s Try.underlying9 .i64 _ (by omega) (by omega), Int.toNat_natCast]
/-- The places at which u is shifted into t. -/
def shK (u t : ByteArray) : List Nat := (List.range (max u.size 1)).filter (shB u t)
theorem shiftsTo_K (u t : ByteArray) : shiftsTo u t (max u.size 1) = (shK u t).map Int.ofNat := rfl
theorem shK_bound (u t : ByteArray) : ∀ k ∈ shK u t, k ≤ u.size := by
  intro k hk
  have h1 := (List.mem_filter.1 hk).1
  rw [List.mem_range] at h1
  omega
theorem shK_len (u t : ByteArray) : (shK u t).length ≤ max u.size 1 := by
  unfold shK
  exact Nat.le_trans (List.length_filter_le _ _) (by simp)

theorem Try.infoSS : (Try.prog.info? 38).map (fun i => (i.zero, i.size, i.bytes)) = some (some (.slice none 0 0), 1, 24) := by kernel_rfl

/-- The values vs are slices of two texts each: u parted at the places ks, each in a block of its own from B on. -/
def PartsV (u : ByteArray) (B : Nat) (w : World) (ks : List Nat) (vs : List Value) : Prop :=
  vs.length = ks.length ∧ (∀ j (h : j < ks.length), ∃ g, vs[j]? = some (.slice (some ⟨g, 0, none⟩) 2 2) ∧ B ≤ g ∧ w.heap[g]? = some (.cells #[.string (u.extract 0 ks[j]), .string (u.extract ks[j] u.size)] 9 (0, 0))) ∧
    ∀ (i j gi gj : Nat), i < j → vs[i]? = some (Value.slice (some ⟨gi, 0, none⟩) 2 2) → vs[j]? = some (Value.slice (some ⟨gj, 0, none⟩) 2 2) → gi ≠ gj
theorem PartsV.nil (u : ByteArray) (B : Nat) (w : World) : PartsV u B w [] [] := ⟨rfl, fun j h => by simp at h, fun i j gi gj _ h => by simp at h⟩
theorem lt_of_heap {w : World} {g : Nat} {o : Obj} (h : w.heap[g]? = some o) : g < w.heap.size := by
  rcases Nat.lt_or_ge g w.heap.size with h' | h'
  · exact h'
  · simp [Array.getElem?_eq_none h'] at h
theorem PartsV.step {u : ByteArray} {B n q : Nat} {w w1 : World} {ks : List Nat} {vs : List Value} {v : Value} (h : PartsV u B w ks vs) (hown : w.ownsRow B 38 1 v n vs) (hB : B ≤ w.heap.size)
    (hg : ((w.alloc (Obj.cells #[.string (u.extract 0 q), .string (u.extract q u.size)] 9)).alloc (Obj.cells #[.slice (some ⟨w.heap.size, 0, none⟩) 2 2] 38)).grownBy w1 v.ownBlock) :
    PartsV u B w1 (ks ++ [q]) (vs ++ [.slice (some ⟨w.heap.size, 0, none⟩) 2 2]) := by
  have hkeep : ∀ (g : Nat) (c : Array Value), ((w.alloc (Obj.cells #[.string (u.extract 0 q), .string (u.extract q u.size)] 9)).alloc (Obj.cells #[.slice (some ⟨w.heap.size, 0, none⟩) 2 2] 38)).heap[g]? = some (Obj.cells c 9 (0, 0)) → w1.heap[g]? = some (Obj.cells c 9 (0, 0)) := by
    intro g c hc
    rw [hg.block g (lt_of_heap hc) ?_]
    · exact hc
    · intro e
      rcases hown.2 with ⟨rfl, _⟩ | ⟨g', cap, cur, rfl, _, hh, _⟩
      · simp [Value.ownBlock] at e
      · simp only [Value.ownBlock, Option.some.injEq] at e
        subst e
        have h1 := heap_alloc_old w (Obj.cells #[.string (u.extract 0 q), .string (u.extract q u.size)] 9) (lt_of_heap hh)
        have hlt2 : g < (w.alloc (Obj.cells #[.string (u.extract 0 q), .string (u.extract q u.size)] 9)).heap.size := by have := lt_of_heap hh; simp; omega
        have h2 := heap_alloc_old (w.alloc (Obj.cells #[.string (u.extract 0 q), .string (u.extract q u.size)] 9)) (Obj.cells #[.slice (some ⟨w.heap.size, 0, none⟩) 2 2] 38) hlt2
        rw [h2, h1, hh] at hc
        simp at hc
  refine ⟨by rw [List.length_append, List.length_append, h.1]; rfl, fun j hj => ?_, fun i j gi gj hij e1 e2 => ?_⟩
  · rw [List.length_append] at hj
    rcases Nat.lt_or_ge j ks.length with hlt | hge
    · obtain ⟨g, h1, h2, h3⟩ := h.2.1 j hlt
      refine ⟨g, ?_, h2, ?_⟩
      · rw [List.getElem?_append_left (by rw [h.1]; exact hlt)]; exact h1
      · rw [List.getElem_append_left hlt]
        refine hkeep g _ ?_
        rw [heap_alloc_old _ _ (by have := lt_of_heap h3; simp; omega), heap_alloc_old _ _ (lt_of_heap h3)]
        exact h3
    · obtain rfl : j = ks.length := by simp at hj; omega
      refine ⟨w.heap.size, ?_, hB, ?_⟩
      · rw [List.getElem?_append_right (by rw [h.1]; exact Nat.le_refl _), h.1, Nat.sub_self]; rfl
      · rw [List.getElem_append_right (Nat.le_refl _)]
        simp only [Nat.sub_self, List.getElem_cons_zero]
        refine hkeep _ _ ?_
        rw [heap_alloc_old _ _ (by simp)]
        exact heap_alloc_new w _
  · rcases Nat.lt_or_ge j ks.length with hlt | hge
    · rw [List.getElem?_append_left (by rw [h.1]; omega)] at e1
      rw [List.getElem?_append_left (by rw [h.1]; exact hlt)] at e2
      exact h.2.2 i j gi gj hij e1 e2
    · have hjl : j = ks.length := by
        rcases Nat.lt_or_ge ks.length j with h1 | h1
        · rw [List.getElem?_eq_none (by rw [List.length_append, h.1]; simp; omega)] at e2; cases e2
        · omega
      subst hjl
      rw [List.getElem?_append_right (by rw [h.1]; exact Nat.le_refl _), h.1, Nat.sub_self] at e2
      rw [List.getElem?_append_left (by rw [h.1]; exact hij)] at e1
      obtain ⟨g, h1, h2, h3⟩ := h.2.1 i hij
      rw [h1] at e1
      have hlt := lt_of_heap h3
      simp at e1 e2
      omega
theorem ownsRow_mono {w : World} {B B' : Nat} {e : TypeId} {n s : Nat} {v : Value} {vs : List Value} (h : w.ownsRow B e s v n vs) (hb : B' ≤ B) : w.ownsRow B' e s v n vs :=
  ⟨h.1, h.2.imp id (fun ⟨g, cap, cur, h1, h2, h3⟩ => ⟨g, cap, cur, h1, Nat.le_trans hb h2, h3⟩)⟩
theorem PartsV.mono {u : ByteArray} {B B' : Nat} {w : World} {ks : List Nat} {vs : List Value} (h : PartsV u B w ks vs) (hb : B' ≤ B) : PartsV u B' w ks vs :=
  ⟨h.1, fun j hj => by obtain ⟨g, h1, h2, h3⟩ := h.2.1 j hj; exact ⟨g, h1, Nat.le_trans hb h2, h3⟩, h.2.2⟩
/-- The parts as a value. -/
def Parts (w : World) (B : Nat) (v : Value) (u : ByteArray) (ks : List Nat) : Prop := ∃ vs, w.ownsRow B 38 1 v ks.length vs ∧ PartsV u B w ks vs
theorem one_newP (w : World) (o : Obj) (x : Value) (t : TypeId) : ∀ (j : Nat) (y : Value), [x][j]? = some y → ((w.alloc o).alloc (.cells #[x] t)).cell? ((⟨w.heap.size + 1, 0, none⟩ : Addr).add j) = some y := by
  intro j y hu
  have := one_new (w.alloc o) x t j y hu
  rw [World.size_alloc] at this
  exact this
theorem one_cellP (a : Option Addr) (n c : Nat) : ∀ y : Value, y ∈ [Value.slice a n c] → y.oneCell' = true := by
  intro y hu
  obtain rfl : y = _ := by simpa using hu
  rfl

set_option maxRecDepth 100000 in
set_option maxHeartbeats 800000 in
theorem implParts_ok (u t : ByteArray) (w : World) (hu : u.size ≤ 60) (ht : t.size ≤ 60) (h1 : Wd.wordB u.data.toList = true) (h2 : Wd.wordB t.data.toList = true) (ks : List Nat) (hks : shK u t = ks) :
    Calls Try.prog 21 #[.string u, .string t] w fun e w' => ∃ v, e = .returned (.tuple #[v, .int .i64 0]) ∧ Parts w' w.heap.size v u ks ∧ Below w.heap.size w w' := by
  obtain ⟨i0, hi, hi0, hi1, hi2⟩ := info_parts Try.infoSS
  have c1 := hidv (implShifts_ok u t w hu ht h1 h2)
  clear h1 h2
  go_enter Try.func21, Try.ntmps21
  go_wp2_with fail
  refine c1.out.mono ?_
  rintro e w1 ⟨v, rfl, hv, hb1⟩
  have hlen := shK_len u t
  have hbd := shK_bound u t
  rw [shiftsTo_K] at hv
  rw [hks] at hv hlen hbd
  obtain ⟨A, c, rfl, hA⟩ := intRow_atQ hv.row
  have HA := hidv hA
  have HBD := hidv hbd
  have HK := hidv hks
  have HB1 := hidv hb1
  have hz1 := hb1.size
  clear hA hbd hks hb1 hv c1
  rw [List.length_map] at *
  obtain ⟨n, hn⟩ : ∃ n, ks.length = n := ⟨_, rfl⟩
  rw [hn] at hlen ⊢
  have HN := hidv hn
  have hn60 : n ≤ 60 := by omega
  clear hn hlen
  go_wp2_with fail
  go_loopw [8, 22] (fun v i wr => ∃ (k : Nat) (vs : List Value), k ≤ n ∧ i = .int .i64 k ∧ Hid (wr.ownsRow w1.heap.size 38 1 v k vs) ∧ Hid (PartsV u w1.heap.size wr (ks.take k) vs) ∧ Hid (Below w.heap.size w wr) ∧ Hid (Below w1.heap.size w1 wr)) (fun _ i _ => n - (intOf i).toNat)
  case atStart => exact ⟨0, [], Nat.zero_le _, rfl, hidv (World.ownsRow_nil _ _ _ _), hidv (PartsV.nil _ _ _), HB1, hidv (Below.refl _ _)⟩
  case round =>
    obtain ⟨k, vs, hk, rfl, hown, hpv, hb, hbe⟩ := hrel
    have hzr := hb.out.size
    by_cases hlt : k < n
    · obtain ⟨g, o, rfl, hg, hce⟩ := HA.out (by rw [List.length_map]; have := HN.out; omega)
      have c1 : wr.cell? ⟨g, o + k, none⟩ = some (.int .i64 ((ks[k]'(by have := HN.out; omega) : Nat) : Int)) := by
        rw [hbe.out.cell (p := ⟨g, o + k, none⟩) hg, hce k (by rw [List.length_map]; have := HN.out; omega), List.getElem_map]
        rfl
      have hq := HBD.out (ks[k]'(by have := HN.out; omega)) (List.getElem_mem _)
      have HT := hidv (List.take_succ_eq_append_getElem (show k < ks.length by have := HN.out; omega))
      obtain ⟨q, hq1⟩ : ∃ q, ks[k]'(by have := HN.out; omega) = q := ⟨_, rfl⟩
      rw [hq1] at c1 hq HT
      clear hce hq1
      have hs1 := slice_u0 u hq
      have hs2 := slice_u1 u hq
      go_wp2_with fail
      have hown2 : Hid (wr.drew.ownsRow w1.heap.size 38 1 _ k vs) := hown
      have hpv2 : Hid (PartsV u w1.heap.size wr.drew (ks.take k) vs) := hpv
      have hb2 : Hid (Below w.heap.size w wr.drew) := hidv (hb.out.drew)
      have hbe2 : Hid (Below w1.heap.size w1 wr.drew) := hidv (hbe.out.drew)
      have hzr2 : w.heap.size ≤ wr.drew.heap.size := hzr
      have hz12 : w1.heap.size ≤ wr.drew.heap.size := hbe.out.size
      have hsz2 : w1.heap.size ≤ ((wr.drew.alloc (Obj.cells #[.string (u.extract 0 q), .string (u.extract q u.size)] 9)).alloc (Obj.cells #[.slice (some ⟨wr.heap.size, 0, none⟩) 2 2] 38)).heap.size := by
        simp only [World.size_alloc]
        omega
      go_region_held_law (fun _ => True) (trivial) (first | (refine step_append_lies _ rfl (.tmp 26) (.tmp 34) 35 rfl w1.heap.size 38 i0 (.slice none 0 0) 1 24 Try.underlying35 hi hi0 hi1 hi2 rfl (by decide) _ _ _ rfl ((hown2.out.alloc _).alloc _) ⟨wr.heap.size + 1, 0, none⟩ 1 1 [.slice (some ⟨wr.heap.size, 0, none⟩) 2 2] rfl rfl (one_newP wr.drew _ _ _) (one_cellP _ _ _) (by decide) (by unfold maxLen; omega) (by omega) hsz2 _ rfl ?_; intro g3 cap3 w3 hown1 hgr1 hat3 hlt3))
      go_wp2
      have hpv3 := hpv2.out.step hown2.out hz12 hgr1
      have hbw3 : Below wr.drew.heap.size wr.drew ((wr.drew.alloc (Obj.cells #[.string (u.extract 0 q), .string (u.extract q u.size)] 9)).alloc (.cells #[.slice (some ⟨wr.drew.heap.size, 0, none⟩) 2 2] 38)) := ((Below.refl _ _).alloc (Nat.le_refl _) _).alloc (by simp) _
      go_roundw
      case rel =>
        refine ⟨k + 1, _, by omega, by go_num, hidv hown1, hidv ?_, hidv ?_, hidv ?_⟩
        · rw [HT.out]; exact hpv3
        · exact (hb2.out.trans (hbw3.mono hzr2)).grown hgr1 (Nat.le_trans hz1 hsz2) (fun j hj => Nat.le_trans hz1 (hown2.out.lt j hj).1)
        · exact (hbe2.out.trans (hbw3.mono hz12)).grown hgr1 hsz2 (fun j hj => (hown2.out.lt j hj).1)
      case measure => simp [intOf]; omega
    · obtain rfl : k = n := by omega
      go_wp2
      go_ret2
      refine ⟨_, rfl, ⟨vs, ?_, ?_⟩, hb.out⟩
      · rw [HN.out]; exact ownsRow_mono hown.out hz1
      · have h := hpv.out
        rw [List.take_of_length_le (by rw [HN.out]; exact Nat.le_refl _)] at h
        exact h.mono hz1

end Go.Proofs.Ytebhifhcknbgaaa
