/-
  ConjugateParts: the ways that give no parts; the model's contract.
-/
import Derived.Test.YtebhifhcknbgaaaWalkQ
namespace Go.Proofs.Ytebhifhcknbgaaa
open Go.RowKit Go

theorem Parts.nil (w : World) (B : Nat) (u : ByteArray) : Parts w B (.slice none 0 0) u [] := ⟨[], World.ownsRow_nil _ _ _ _, PartsV.nil _ _ _⟩

set_option maxHeartbeats 400000 in
theorem implParts_bad (u t : ByteArray) (w : World) (hu : u.size ≤ maxLen) (ht : t.size ≤ maxLen) (h : (Wd.wordB u.data.toList && Wd.wordB t.data.toList) = false) :
    Calls Try.prog 21 #[.string u, .string t] w fun e w' => ∃ v, e = .returned (.tuple #[v, .int .i64 1]) ∧ Parts w' w.heap.size v u [] ∧ Below w.heap.size w w' := by
  have c1 := hidv (implShifts_bad u t w hu ht h)
  clear h
  go_enter Try.func21, Try.ntmps21
  go_wp2_with fail
  refine c1.out.mono ?_
  rintro e w1 ⟨v, rfl, hv, hb1⟩
  go_wp2_with fail
  go_ret2
  exact ⟨_, rfl, Parts.nil _ _ _, hb1⟩

set_option maxHeartbeats 400000 in
theorem specParts_bad (u t : ByteArray) (w : World) (hu : u.size ≤ maxLen) (ht : t.size ≤ maxLen) (h : (Wd.wordB u.data.toList && Wd.wordB t.data.toList) = false) :
    Calls Try.prog 44 #[.string u, .string t] w fun e w' => ∃ v, e = .returned (.tuple #[v, .int .i64 1]) ∧ Parts w' w.heap.size v u [] ∧ Below w.heap.size w w' := by
  have c1 := specWord_any u w hu
  have c2 := specWord_any t w ht
  have hl2 : Parts (w.alloc (.cells #[] 38)) w.heap.size (.slice (some ⟨w.heap.size, 0, none⟩) 0 0) u [] := ⟨[], World.ownsRow_lit w #[] 0 (Nat.le_refl _) (Nat.zero_le _) rfl, PartsV.nil _ _ _⟩
  have hb2 : Below w.heap.size w (w.alloc (.cells #[] 38)) := (Below.refl _ _).alloc (Nat.le_refl _) _
  cases h1 : Wd.wordB u.data.toList
  · rw [h1] at c1
    clear h h1 c2
    go_enter Try.func44, Try.ntmps44
    go_wp2_with fail
    refine c1.mono ?_
    rintro e w' ⟨rfl, rfl⟩
    go_wp2_with fail
    go_ret2
    exact ⟨_, rfl, hl2, hb2⟩
  · rw [h1, Bool.true_and] at h
    rw [h1] at c1
    rw [h] at c2
    clear h h1
    go_enter Try.func44, Try.ntmps44
    go_wp2_with fail
    refine c1.mono ?_
    rintro e w' ⟨rfl, rfl⟩
    go_wp2_with fail
    refine c2.mono ?_
    rintro e w' ⟨rfl, rfl⟩
    go_wp2_with fail
    go_ret2
    exact ⟨_, rfl, hl2, hb2⟩

set_option maxRecDepth 100000 in
set_option maxHeartbeats 1600000 in
theorem specParts_ok (u t : ByteArray) (w : World) (hu : u.size ≤ 60) (ht : t.size ≤ 60) (h1 : Wd.wordB u.data.toList = true) (h2 : Wd.wordB t.data.toList = true) (ks : List Nat) (hks : shK u t = ks) :
    Calls Try.prog 44 #[.string u, .string t] w fun e w' => ∃ v, e = .returned (.tuple #[v, .int .i64 0]) ∧ Parts w' w.heap.size v u ks ∧ Below w.heap.size w w' := by
  obtain ⟨i0, hi, hi0, hi1, hi2⟩ := info_parts Try.infoSS
  have k1 := specWord_any u w (by unfold maxLen; omega)
  have k2 := specWord_any t w (by unfold maxLen; omega)
  have c1 := hidv (specShifts_any u t w hu)
  rw [h1] at k1
  rw [h2] at k2
  clear h1 h2
  go_enter Try.func44, Try.ntmps44
  go_wp2_with fail
  refine k1.mono ?_
  rintro e w' ⟨rfl, rfl⟩
  go_wp2_with fail
  refine k2.mono ?_
  rintro e w' ⟨rfl, rfl⟩
  go_wp2_with fail
  refine c1.out.mono ?_
  rintro e w1 ⟨v, rfl, hv, hb1⟩
  have hlen := shK_len u t
  have hbd := shK_bound u t
  rw [shiftsTo_K] at hv
  rw [hks] at hv hlen hbd
  obtain ⟨A, c, rfl, hA⟩ := intRow_atQ hv.row
  have HA := hidv hA
  have HBD := hidv hbd
  have HK := hidv hks
  have HB1 := hidv hb1
  have hz1 := hb1.size
  clear hA hbd hks hb1 hv c1 k1 k2
  rw [List.length_map] at *
  obtain ⟨n, hn⟩ : ∃ n, ks.length = n := ⟨_, rfl⟩
  rw [hn] at hlen ⊢
  have HN := hidv hn
  have hn60 : n ≤ 60 := by omega
  clear hn hlen
  go_wp2_with fail
  go_loopw [7, 8] (fun v i wr => ∃ (k : Nat) (vs : List Value), k ≤ n ∧ i = .int .i64 k ∧ Hid (wr.ownsRow w1.heap.size 38 1 v k vs) ∧ Hid (PartsV u w1.heap.size wr (ks.take k) vs) ∧ Hid (Below w.heap.size w wr) ∧ Hid (Below w1.heap.size w1 wr)) (fun _ i _ => n - (intOf i).toNat)
  case atStart => exact ⟨0, [], Nat.zero_le _, rfl, hidv (World.ownsRow_lit w1 #[] 0 (Nat.le_refl _) (Nat.zero_le _) rfl), hidv (PartsV.nil _ _ _), hidv (HB1.out.alloc hz1 _), hidv ((Below.refl _ _).alloc (Nat.le_refl _) _)⟩
  case round =>
    obtain ⟨k, vs, hk, rfl, hown, hpv, hb, hbe⟩ := hrel
    have hzr := hb.out.size
    by_cases hlt : k < n
    · obtain ⟨g, o, rfl, hg, hce⟩ := HA.out (by rw [List.length_map]; have := HN.out; omega)
      have c1 : wr.cell? ⟨g, o + k, none⟩ = some (.int .i64 ((ks[k]'(by have := HN.out; omega) : Nat) : Int)) := by
        rw [hbe.out.cell (p := ⟨g, o + k, none⟩) hg, hce k (by rw [List.length_map]; have := HN.out; omega), List.getElem_map]
        rfl
      have hq := HBD.out (ks[k]'(by have := HN.out; omega)) (List.getElem_mem _)
      have HT := hidv (List.take_succ_eq_append_getElem (show k < ks.length by have := HN.out; omega))
      obtain ⟨q, hq1⟩ : ∃ q, ks[k]'(by have := HN.out; omega) = q := ⟨_, rfl⟩
      rw [hq1] at c1 hq HT
      clear hce hq1
      have hs1 := slice_u0 u hq
      have hs2 := slice_u1 u hq
      go_wp2_with fail
      have hown2 : Hid (wr.drew.ownsRow w1.heap.size 38 1 _ k vs) := hown
      have hpv2 : Hid (PartsV u w1.heap.size wr.drew (ks.take k) vs) := hpv
      have hb2 : Hid (Below w.heap.size w wr.drew) := hidv (hb.out.drew)
      have hbe2 : Hid (Below w1.heap.size w1 wr.drew) := hidv (hbe.out.drew)
      have hzr2 : w.heap.size ≤ wr.drew.heap.size := hzr
      have hz12 : w1.heap.size ≤ wr.drew.heap.size := hbe.out.size
      have hgw : g < wr.drew.heap.size := by omega
      have d0 : wr.drew.cell? ⟨g, o + k, none⟩ = some (.int .i64 (q : Int)) := c1
      have d1 : ∀ o1, (wr.drew.alloc o1).cell? ⟨g, o + k, none⟩ = some (.int .i64 (q : Int)) := fun o1 => (((Below.refl (g + 1) wr.drew).alloc (by omega) o1).cell (p := ⟨g, o + k, none⟩) (by show g < g + 1; omega)).trans d0
      have d2 : ∀ o1 o2, ((wr.drew.alloc o1).alloc o2).cell? ⟨g, o + k, none⟩ = some (.int .i64 (q : Int)) := fun o1 o2 => ((((Below.refl (g + 1) wr.drew).alloc (by omega) o1).alloc (by simp only [World.size_alloc]; omega) o2).cell (p := ⟨g, o + k, none⟩) (by show g < g + 1; omega)).trans d0
      have hsz2 : w1.heap.size ≤ ((wr.drew.alloc (Obj.cells #[.string (u.extract 0 q), .string (u.extract q u.size)] 9)).alloc (Obj.cells #[.slice (some ⟨wr.heap.size, 0, none⟩) 2 2] 38)).heap.size := by
        simp only [World.size_alloc]
        omega
      go_region_held_law (fun w' => w'.cell? ⟨g, o + k, none⟩ = some (.int .i64 (q : Int))) (first | exact d0 | exact d1 _ | exact d2 _ _ | exact hgr1.cell (d2 _ _) (fun e => by have := (hown2.out.lt g e.symm).1; omega)) (first | (refine step_append_lies _ rfl _ _ 35 rfl w1.heap.size 38 i0 (.slice none 0 0) 1 24 Try.underlying35 hi hi0 hi1 hi2 rfl (by decide) _ _ _ rfl ((hown2.out.alloc _).alloc _) ⟨wr.heap.size + 1, 0, none⟩ 1 1 [.slice (some ⟨wr.heap.size, 0, none⟩) 2 2] rfl rfl (one_newP wr.drew _ _ _) (one_cellP _ _ _) (by decide) (by unfold maxLen; omega) (by omega) hsz2 _ rfl ?_; intro g3 cap3 w3 hown1 hgr1 hat3 hlt3))
      go_wp2
      have hpv3 := hpv2.out.step hown2.out hz12 hgr1
      have hbw3 : Below wr.drew.heap.size wr.drew ((wr.drew.alloc (Obj.cells #[.string (u.extract 0 q), .string (u.extract q u.size)] 9)).alloc (Obj.cells #[.slice (some ⟨wr.drew.heap.size, 0, none⟩) 2 2] 38)) := ((Below.refl _ _).alloc (Nat.le_refl _) _).alloc (by simp) _
      go_roundw
      case rel =>
        refine ⟨k + 1, _, by omega, by go_num, hidv hown1, hidv ?_, hidv ?_, hidv ?_⟩
        · rw [HT.out]; exact hpv3
        · exact (hb2.out.trans (hbw3.mono hzr2)).grown hgr1 (Nat.le_trans hz1 hsz2) (fun j hj => Nat.le_trans hz1 (hown2.out.lt j hj).1)
        · exact (hbe2.out.trans (hbw3.mono hz12)).grown hgr1 hsz2 (fun j hj => (hown2.out.lt j hj).1)
      case measure => simp [intOf]; omega
    · obtain rfl : k = n := by omega
      go_wp2
      go_ret2
      refine ⟨_, rfl, ⟨vs, ?_, ?_⟩, hb.out⟩
      · rw [HN.out]; exact ownsRow_mono hown.out hz1
      · have h := hpv.out
        rw [List.take_of_length_le (by rw [HN.out]; exact Nat.le_refl _)] at h
        exact h.mono hz1

end Go.Proofs.Ytebhifhcknbgaaa
