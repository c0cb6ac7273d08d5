/-
  The text of a mark: a contract.
-/
import Derived.Test.YtebhifhcknbgaaaWalkQ2
import Derived.Laws.BytesArg
import Derived.Deep.RegionHeld3
import Derived.Test.YtebhifhcknbgaaaWalkR
namespace Go.Proofs.Ytebhifhcknbgaaa
open Go.RowKit Go

def dig : Nat → List UInt8
  | 0 => []
  | n + 1 => dig ((n + 1) / 10) ++ [UInt8.ofNat (48 + (n + 1) % 10)]
decreasing_by omega
def mT (k : Nat) : ByteArray := ⟨#[109]⟩ ++ ⟨(dig k).toArray⟩

theorem dig_step {j : Nat} (h : 0 < j) : dig j = dig (j / 10) ++ [UInt8.ofNat (48 + j % 10)] := by
  cases j with
  | zero => omega
  | succ n => rw [dig]

theorem dig_len (k : Nat) : (dig k).length ≤ k := by
  induction k using Nat.strongRecOn with
  | _ k ih =>
    rcases Nat.eq_zero_or_pos k with rfl | h
    · rw [dig]; exact Nat.le_refl _
    · have := ih (k / 10) (by omega)
      rw [dig_step h, List.length_append, List.length_singleton]
      omega

theorem byte_conv (W : World) (y : Int) : (convert 22 9 (.slice (some ⟨W.heap.size, 0, none⟩) 1 1)).run Try.prog (W.alloc (.cells #[.int .u8 y] 5)) = .ok (.string (strOfNums [y])) (W.alloc (.cells #[.int .u8 y] 5)) :=
  run_convert_bytes_arg (W.alloc (.cells #[.int .u8 y] 5)) 22 5 Try.underlying22 Try.underlying5 W.heap.size 0 1 1 [y] rfl (fun i hi => by
    obtain rfl : i = 0 := by omega
    rw [cell_of_row _ _ _ _ _ _ (heap_alloc_new W _)]
    rfl) 9 Try.underlying9

theorem u8_digit (d : Nat) (h : d < 10) : IntKind.u8.wrap (48 + (d : Int)) = 48 + (d : Int) := by
  have h1 : ∀ x : Int, IntKind.u8.wrap x = x % 256 := fun x => by kernel_rfl
  rw [h1]
  omega

set_option maxHeartbeats 800000 in
theorem markText_any (k : Nat) (w : World) (hk : 1 ≤ k) (hk2 : k ≤ 1000) :
    Calls Try.prog 90 #[.int .i64 (k : Int)] w fun e w' => e = .returned (.string (mT k)) ∧ Below w.heap.size w w' := by
  have hcv := byte_conv
  go_enter Try.func90, Try.ntmps90
  go_wp2
  go_loopw [0, 3] (fun i q wr => ∃ (j : Nat) (o : ByteArray), i = .int .i64 (j : Int) ∧ q = .string o ∧ j ≤ 1000 ∧ Hid (dig j ++ o.data.toList = dig k) ∧ Hid (Below w.heap.size w wr)) (fun i _ _ => (intOf i).toNat)
  case atStart => exact ⟨k, ⟨#[]⟩, rfl, rfl, hk2, hidv (by simp), hidv (Below.refl _ _)⟩
  case round =>
    obtain ⟨j, o, rfl, rfl, hj, hd, hb⟩ := hrel
    have hos : o.size ≤ 1000 := by
      have h1 := congrArg List.length hd.out
      have h2 := dig_len k
      have h3 : o.data.toList.length = o.size := by simp
      rw [List.length_append] at h1
      omega
    by_cases hlt : 0 < j
    · have hdg := dig_step hlt
      have hr1 : (j : Int) % 10 = ((j % 10 : Nat) : Int) := by omega
      have hr2 : (j : Int).tmod 10 = ((j % 10 : Nat) : Int) := by rw [Int.tmod_eq_emod_of_nonneg (by omega)]; omega
      have hq1 : (j : Int) / 10 = ((j / 10 : Nat) : Int) := by omega
      have hq2 : (j : Int).tdiv 10 = ((j / 10 : Nat) : Int) := by rw [Int.tdiv_eq_ediv_of_nonneg (by omega)]; omega
      have hdl : j % 10 < 10 := Nat.mod_lt _ (by omega)
      have hql : j / 10 < j := by omega
      obtain ⟨d, hd1⟩ : ∃ d, j % 10 = d := ⟨_, rfl⟩
      obtain ⟨m, hm1⟩ : ∃ m, j / 10 = m := ⟨_, rfl⟩
      rw [hd1] at hr1 hr2 hdl hdg
      rw [hm1] at hq1 hq2 hql hdg
      have hu8 := u8_digit d hdl
      have HDG := hidv hdg
      have hss : (strOfNums [48 + (d : Int)]).size = 1 := rfl
      have hsd : (strOfNums [48 + (d : Int)]).data.toList = [UInt8.ofNat (48 + d)] := by
        show [UInt8.ofNat (48 + (d : Int)).toNat] = _
        rw [show (48 + (d : Int)).toNat = 48 + d by omega]
      have HSD := hidv hsd
      clear hdg hd1 hm1 hsd
      have hb2 : Hid (Below w.heap.size w (wr.alloc (.cells #[.int .u8 (48 + (d : Int))] 5))) := hidv (hb.out.alloc hb.out.size _)
      go_wp2
      go_roundw
      case rel =>
        refine ⟨m, _, rfl, rfl, by omega, hidv ?_, hb2⟩
        rw [ByteArray.data_append, Array.toList_append, HSD.out, ← List.append_assoc, ← HDG.out]
        exact hd.out
      case measure => simp [intOf]; omega
    · obtain rfl : j = 0 := by omega
      have he : (⟨#[109]⟩ : ByteArray) ++ o = mT k := by
        unfold mT
        rw [← hd.out, show dig 0 = [] by rw [dig], List.nil_append]
      go_wp2
      go_ret
      exact ⟨by rw [← he]; rfl, hb.out⟩

/-- An inner row of two texts, in block g. -/
def Two (w : World) (g : Nat) (a b : ByteArray) : Prop := w.heap[g]? = some (.cells #[.string a, .string b] 9 (0, 0))

theorem Two.set0 {w : World} {g : Nat} {a b : ByteArray} (h : Two w g a b) (c : ByteArray) : Two (w.setCell ⟨g, 0, none⟩ (.string c)) g c b := by
  show (w.heap.modify g _)[g]? = _
  rw [Array.getElem?_modify, if_pos rfl, show w.heap[g]? = _ from h]
  rfl
theorem Two.set1 {w : World} {g : Nat} {a b : ByteArray} (h : Two w g a b) (c : ByteArray) : Two (w.setCell ⟨g, 1, none⟩ (.string c)) g a c := by
  show (w.heap.modify g _)[g]? = _
  rw [Array.getElem?_modify, if_pos rfl, show w.heap[g]? = _ from h]
  rfl
theorem Two.below {w w' : World} {g : Nat} {a b : ByteArray} (h : Two w g a b) (hb : Below w.heap.size w w') : Two w' g a b :=
  (hb.block g (lt_of_heap (show w.heap[g]? = _ from h))).trans h
theorem grown_set (w : World) (g j : Nat) (v : Value) : w.grownBy (w.setCell ⟨g, j, none⟩ v) (some g) :=
  ⟨rfl, rfl, rfl, Nat.le_of_eq (by simp [World.setCell]), fun i _ hne => Below.heap_setCell _ _ _ _ (fun e => hne (by rw [e]))⟩
theorem grown_of_below {w w' : World} {row : Option Nat} (h : Below w.heap.size w w') : w.grownBy w' row := ⟨h.os, h.tape, h.output, h.size, fun i hi _ => h.block i hi⟩

set_option maxRecDepth 100000 in
set_option maxHeartbeats 800000 in
theorem markS_any (g k : Nat) (a b : ByteArray) (w : World) (h : Two w g a b) (hk : 1 ≤ k) (hk2 : k + 2 ≤ 1000) :
    Calls Try.prog 73 #[.slice (some ⟨g, 0, none⟩) 2 2, .int .i64 (k : Int)] w fun e w' => e = .returned (.int .i64 ((k : Int) + 2)) ∧ Two w' g (mT k) (mT (k + 1)) ∧ w.grownBy w' (some g) := by
  have m1 := fun wx => markText_any k wx hk (by omega)
  have m2 := fun wx => markText_any (k + 1) wx (by omega) (by omega)
  have M1 := hidv m1
  rw [show (((k + 1 : Nat)) : Int) = (k : Int) + 1 by omega] at m2
  have M2 := hidv m2
  clear m1 m2
  go_enter Try.func73, Try.ntmps73
  go_wp2
  go_loopw [1, 5] (fun q i wr => ∃ j : Nat, j ≤ 2 ∧ i = .int .i64 (j : Int) ∧ q = .int .i64 ((k : Int) + (j : Int)) ∧ Hid (w.grownBy wr (some g)) ∧ Hid (Two wr g (if 0 < j then mT k else a) (if 1 < j then mT (k + 1) else b))) (fun _ i _ => 2 - (intOf i).toNat)
  case atStart => exact ⟨0, by omega, rfl, by simp, hidv (World.grownBy.refl _ _), hidv h⟩
  case round =>
    obtain ⟨j, hj, rfl, rfl, hg, ht⟩ := hrel
    rcases (show j = 0 ∨ j = 1 ∨ j = 2 by omega) with rfl | rfl | rfl
    · have ht' : Hid (Two wr g a b) := ht
      go_wp2_with fail
      refine (M1.out _).mono ?_
      rintro e w2 ⟨rfl, hb2⟩
      have h2 := ht'.out.below hb2
      have c0 : w2.cell? ⟨g, 0, none⟩ = some (.string a) := by rw [cell_of_row _ _ _ _ _ _ h2]; rfl
      have f0 : w2.frozen? ⟨g, 0, none⟩ = false := frozen_of_row _ _ _ _ _ h2
      have h3 := hidv (h2.set0 (mT k))
      have hg3 := hidv (grown_trans hg.out (grown_trans (grown_of_below hb2) (grown_set w2 g 0 (.string (mT k)))))
      go_wp2_with fail
      go_roundw
      case rel => exact ⟨1, by omega, by go_num, by go_num, hg3, h3⟩
      case measure => simp [intOf]
    · have ht' : Hid (Two wr g (mT k) b) := ht
      go_wp2_with fail
      refine (M2.out _).mono ?_
      rintro e w2 ⟨rfl, hb2⟩
      have h2 := ht'.out.below hb2
      have c0 : w2.cell? ⟨g, 1, none⟩ = some (.string b) := by rw [cell_of_row _ _ _ _ _ _ h2]; rfl
      have f0 : w2.frozen? ⟨g, 1, none⟩ = false := frozen_of_row _ _ _ _ _ h2
      have h3 := hidv (h2.set1 (mT (k + 1)))
      have hg3 := hidv (grown_trans hg.out (grown_trans (grown_of_below hb2) (grown_set w2 g 1 (.string (mT (k + 1))))))
      go_wp2_with fail
      go_roundw
      case rel => exact ⟨2, by omega, by go_num, by go_num, hg3, h3⟩
      case measure => simp [intOf]
    · have ht' : Hid (Two wr g (mT k) (mT (k + 1))) := ht
      go_wp2_with fail
      go_ret
      exact ⟨rfl, ht'.out, hg.out⟩

set_option maxRecDepth 100000 in
set_option maxHeartbeats 800000 in
theorem heldS_any (g k : Nat) (w : World) (h : Two w g (mT k) (mT (k + 1))) (hk : 1 ≤ k) (hk2 : k + 2 ≤ 1000) :
    Calls Try.prog 74 #[.slice (some ⟨g, 0, none⟩) 2 2, .int .i64 (k : Int)] w fun e w' => e = .returned (.int .i64 ((k : Int) + 2)) ∧ Below w.heap.size w w' := by
  have m1 := fun wx => markText_any k wx hk (by omega)
  have m2 := fun wx => markText_any (k + 1) wx (by omega) (by omega)
  have M1 := hidv m1
  rw [show (((k + 1 : Nat)) : Int) = (k : Int) + 1 by omega] at m2
  have M2 := hidv m2
  have HT := hidv h
  clear m1 m2
  go_enter Try.func74, Try.ntmps74
  go_wp2
  go_loopw [1, 5] (fun q i wr => ∃ j : Nat, j ≤ 2 ∧ i = .int .i64 (j : Int) ∧ q = .int .i64 ((k : Int) + (j : Int)) ∧ Hid (Below w.heap.size w wr)) (fun _ i _ => 2 - (intOf i).toNat)
  case atStart => exact ⟨0, by omega, rfl, by simp, hidv (Below.refl _ _)⟩
  case round =>
    obtain ⟨j, hj, rfl, rfl, hb⟩ := hrel
    have h2 := HT.out.below hb.out
    have c0 : wr.cell? ⟨g, 0, none⟩ = some (.string (mT k)) := by rw [cell_of_row _ _ _ _ _ _ h2]; rfl
    have c1 : wr.cell? ⟨g, 1, none⟩ = some (.string (mT (k + 1))) := by rw [cell_of_row _ _ _ _ _ _ h2]; rfl
    have hc0 : ∀ w', Below w.heap.size w w' → w'.cell? ⟨g, 0, none⟩ = some (.string (mT k)) := fun w' hw => by rw [cell_of_row _ _ _ _ _ _ (HT.out.below hw)]; rfl
    have hc1 : ∀ w', Below w.heap.size w w' → w'.cell? ⟨g, 1, none⟩ = some (.string (mT (k + 1))) := fun w' hw => by rw [cell_of_row _ _ _ _ _ _ (HT.out.below hw)]; rfl
    have hb' := hb.out
    rcases (show j = 0 ∨ j = 1 ∨ j = 2 by omega) with rfl | rfl | rfl
    · have e0 : (k : Int) + ((0 : Nat) : Int) = (k : Int) := by omega
      rw [e0]
      go_wp2_with fail
      go_region_held3 (fun w' => w'.cell? ⟨g, 0, none⟩ = some (.string (mT k)) ∧ Below w.heap.size w w') (first | exact ⟨hc0 _ (Below.drew hb'), Below.drew hb'⟩ | exact ⟨hc0 _ (below_on (Below.drew hb') hbw), below_on (Below.drew hb') hbw⟩) (first | (go_at_call 90; refine (M1.out _).mono ?_; rintro e w2 ⟨rfl, hbw⟩))
      go_wp2
      have hbe : Below w.heap.size w w2 := below_on (Below.drew hb') hbw
      go_roundw
      case rel => exact ⟨1, by omega, by go_num, by go_num, hidv hbe⟩
      case measure => simp [intOf]
    · have e0 : (k : Int) + ((1 : Nat) : Int) = (k : Int) + 1 := by omega
      rw [e0]
      go_wp2_with fail
      go_region_held3 (fun w' => w'.cell? ⟨g, 1, none⟩ = some (.string (mT (k + 1))) ∧ Below w.heap.size w w') (first | exact ⟨hc1 _ (Below.drew hb'), Below.drew hb'⟩ | exact ⟨hc1 _ (below_on (Below.drew hb') hbw), below_on (Below.drew hb') hbw⟩) (first | (go_at_call 90; refine (M2.out _).mono ?_; rintro e w2 ⟨rfl, hbw⟩))
      go_wp2
      have hbe : Below w.heap.size w w2 := below_on (Below.drew hb') hbw
      go_roundw
      case rel => exact ⟨2, by omega, by go_num, by go_num, hidv hbe⟩
      case measure => simp [intOf]
    · go_wp2_with fail
      go_ret
      exact ⟨rfl, hb.out⟩

/-- The outer slice's cells are the inner slices in the blocks gs. -/
def OuterAt (w : World) (a o : Nat) (gs : List Nat) : Prop := ∀ j (h : j < gs.length), w.cell? ⟨a, o + j, none⟩ = some (.slice (some ⟨gs[j], 0, none⟩) 2 2)
/-- The first n inner slices bear the marks from m on. -/
def MarkedTo (w : World) (gs : List Nat) (m n : Nat) : Prop := ∀ j (h : j < gs.length), j < n → Two w gs[j] (mT (m + 2 * j)) (mT (m + 2 * j + 1))

theorem Two.grown {w w' : World} {g h : Nat} {a b : ByteArray} (ht : Two w g a b) (hg : w.grownBy w' (some h)) (hne : g ≠ h) : Two w' g a b :=
  (hg.block g (lt_of_heap (show w.heap[g]? = _ from ht)) (fun e => hne (Option.some.inj e))).trans ht

def OutKeep (gs : List Nat) (w w' : World) : Prop := ∀ a o, (∀ j (h : j < gs.length), gs[j] ≠ a) → OuterAt w a o gs → OuterAt w' a o gs
theorem OutKeep.step {gs : List Nat} {w wr w2 : World} {g : Nat} (h : OutKeep gs w wr) (hg : wr.grownBy w2 (some g)) (hj : ∃ j, ∃ h : j < gs.length, gs[j] = g) : OutKeep gs w w2 := by
  intro a o ha ho j hjl
  obtain ⟨j', hj', e⟩ := hj
  exact hg.cell (h a o ha ho j hjl) (fun e2 => ha j' hj' (e.trans (Option.some.inj e2).symm))
theorem MarkedTo.step {gs : List Nat} {m j g : Nat} {wr w2 : World} (h : MarkedTo wr gs m j) (hg : wr.grownBy w2 (some g)) (hj : j < gs.length) (e : gs[j] = g) (hne : ∀ i (hi : i < gs.length), i ≠ j → gs[i] ≠ g) (ht : Two w2 g (mT (m + 2 * j)) (mT (m + 2 * j + 1))) : MarkedTo w2 gs m (j + 1) := by
  intro i hi hlt
  rcases Nat.lt_or_ge i j with h1 | h1
  · exact (h i hi h1).grown hg (hne i hi (by omega))
  · obtain rfl : i = j := by omega
    rw [e]
    exact ht

set_option maxRecDepth 100000 in
set_option maxHeartbeats 1600000 in
theorem markSS_any (A : Option Addr) (c m base n : Nat) (gs : List Nat) (w : World) (hn : gs.length = n) (hA : 0 < n → ∃ a o, A = some ⟨a, o, none⟩ ∧ OuterAt w a o gs ∧ ∀ j (h : j < gs.length), gs[j] ≠ a)
    (ht : ∀ j (h : j < gs.length), ∃ x y, Two w gs[j] x y) (hd : ∀ i j (hi : i < gs.length) (hj : j < gs.length), i ≠ j → gs[i] ≠ gs[j]) (hb : ∀ j (h : j < gs.length), base ≤ gs[j]) (hbw : base ≤ w.heap.size) (hm : 1 ≤ m) (hm2 : m + 2 * n ≤ 900) :
    Calls Try.prog 46 #[.slice A n c, .int .i64 (m : Int)] w fun e w' => e = .returned (.int .i64 ((m + 2 * n : Nat) : Int)) ∧ MarkedTo w' gs m n ∧ OutKeep gs w w' ∧ Below base w w' := by
  have HA := hidv hA
  have HT := hidv ht
  have HD := hidv hd
  have HB := hidv hb
  have HN := hidv hn
  clear hA ht hd hb hn
  go_enter Try.func46, Try.ntmps46
  go_wp2
  go_loopw [1, 5] (fun q i wr => ∃ j : Nat, j ≤ n ∧ i = .int .i64 (j : Int) ∧ q = .int .i64 ((m + 2 * j : Nat) : Int) ∧ Hid (MarkedTo wr gs m j) ∧ Hid (∀ i (h : i < gs.length), ∃ x y, Two wr gs[i] x y) ∧ Hid (OutKeep gs w wr) ∧ Hid (Below base w wr)) (fun _ i _ => n - (intOf i).toNat)
  case atStart => exact ⟨0, Nat.zero_le _, rfl, rfl, hidv (fun j _ h => by omega), HT, hidv (fun _ _ _ h => h), hidv (Below.refl _ _)⟩
  case round =>
    obtain ⟨j, hj, rfl, rfl, hmk, htw, hou, hbe⟩ := hrel
    by_cases hlt : j < n
    · have hjl : j < gs.length := by have := HN.out; omega
      obtain ⟨a, o, rfl, ho, hoa⟩ := HA.out (by omega)
      have c1 := hou.out a o hoa ho j hjl
      obtain ⟨x, y, hxy⟩ := htw.out j hjl
      have hcall := markS_any gs[j] (m + 2 * j) x y wr hxy (by omega) (by omega)
      have hgb := HB.out j hjl
      have HGJ := hidv (fun i (hi : i < gs.length) (hne : i ≠ j) => HD.out i j hi hjl hne)
      obtain ⟨g, hg⟩ : ∃ g, gs[j] = g := ⟨_, rfl⟩
      rw [hg] at c1 hcall hgb HGJ
      obtain ⟨p, hp⟩ : ∃ p, m + 2 * j = p := ⟨_, rfl⟩
      rw [hp] at hcall ⊢
      have HC := hidv hcall
      have HG := hidv hg
      have HP := hidv hp
      clear hg hxy hcall hp
      have hbs := hbe.out.size
      go_wp2_with fail
      refine HC.out.mono ?_
      rintro e w2 ⟨rfl, ht2, hg2⟩
      have hmk2 := hidv (hmk.out.step hg2 hjl HG.out HGJ.out (by rw [HP.out]; exact ht2))
      have hou2 := hidv (hou.out.step hg2 ⟨j, hjl, HG.out⟩)
      have hbe2 : Hid (Below base w w2) := hidv (hbe.out.grown hg2 (by omega) (fun k e => by cases e; exact hgb))
      have htw2 : Hid (∀ i (h : i < gs.length), ∃ x y, Two w2 gs[i] x y) := hidv fun i hi => by
        by_cases hij : i = j
        · subst hij; exact ⟨_, _, by rw [HG.out]; exact ht2⟩
        · obtain ⟨x', y', h'⟩ := htw.out i hi
          exact ⟨x', y', h'.grown hg2 (HGJ.out i hi hij)⟩
      clear ht2
      go_wp2_with fail
      go_roundw
      case rel => exact ⟨j + 1, by omega, by go_num, by congr 1; have := HP.out; omega, hmk2, htw2, hou2, hbe2⟩
      case measure => simp [intOf]; omega
    · obtain rfl : j = n := by omega
      go_wp2
      go_ret
      exact ⟨rfl, hmk.out, hou.out, hbe.out⟩

set_option maxRecDepth 100000 in
set_option maxHeartbeats 1600000 in
theorem heldSS_any (A : Option Addr) (c m n : Nat) (gs : List Nat) (w : World) (hn : gs.length = n) (hA : 0 < n → ∃ a o, A = some ⟨a, o, none⟩ ∧ OuterAt w a o gs)
    (ht : MarkedTo w gs m n) (hm : 1 ≤ m) (hm2 : m + 2 * n ≤ 900) :
    Calls Try.prog 47 #[.slice A n c, .int .i64 (m : Int)] w fun e w' => e = .returned (.int .i64 ((m + 2 * n : Nat) : Int)) ∧ Below w.heap.size w w' := by
  have HA := hidv hA
  have HT := hidv ht
  have HN := hidv hn
  clear hA ht hn
  go_enter Try.func47, Try.ntmps47
  go_wp2
  go_loopw [1, 5] (fun q i wr => ∃ j : Nat, j ≤ n ∧ i = .int .i64 (j : Int) ∧ q = .int .i64 ((m + 2 * j : Nat) : Int) ∧ Hid (Below w.heap.size w wr)) (fun _ i _ => n - (intOf i).toNat)
  case atStart => exact ⟨0, Nat.zero_le _, rfl, rfl, hidv (Below.refl _ _)⟩
  case round =>
    obtain ⟨j, hj, rfl, rfl, hbe⟩ := hrel
    by_cases hlt : j < n
    · have hjl : j < gs.length := by have := HN.out; omega
      obtain ⟨a, o, rfl, ho⟩ := HA.out (by omega)
      have hlt1 : a < w.heap.size := World.block_lt_of_cell? _ _ (ho j hjl)
      have c1 : wr.cell? ⟨a, o + j, none⟩ = some (.slice (some ⟨gs[j], 0, none⟩) 2 2) := (hbe.out.cell (p := ⟨a, o + j, none⟩) hlt1).trans (ho j hjl)
      have hxy : Two wr gs[j] (mT (m + 2 * j)) (mT (m + 2 * j + 1)) := (HT.out j hjl hlt).below hbe.out
      have hcall := heldS_any gs[j] (m + 2 * j) wr hxy (by omega) (by omega)
      obtain ⟨g, hg⟩ : ∃ g, gs[j] = g := ⟨_, rfl⟩
      rw [hg] at c1 hcall
      obtain ⟨p, hp⟩ : ∃ p, m + 2 * j = p := ⟨_, rfl⟩
      rw [hp] at hcall ⊢
      have HC := hidv hcall
      have HP := hidv hp
      clear hg hxy hcall hp
      have hbs := hbe.out.size
      go_wp2_with fail
      refine HC.out.mono ?_
      rintro e w2 ⟨rfl, hb2⟩
      have hbe2 := hidv (hbe.out.trans (hb2.mono hbs))
      go_wp2_with fail
      go_roundw
      case rel => exact ⟨j + 1, by omega, by go_num, by congr 1; have := HP.out; omega, hbe2⟩
      case measure => simp [intOf]; omega
    · obtain rfl : j = n := by omega
      go_wp2
      go_ret
      exact ⟨rfl, hbe.out⟩

end Go.Proofs.Ytebhifhcknbgaaa
