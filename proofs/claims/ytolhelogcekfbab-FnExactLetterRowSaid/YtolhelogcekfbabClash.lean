/-
  ClashOf, of the program and of the model: contracts of what they are made of.
-/
import Derived.Test.YtolhelogcekfbabStripI
import Derived.Test.YtolhelogcekfbabLawSE
namespace Go.Proofs.Ytolhelogcekfbab
open Go.RowKit Go

theorem any_take_succ (l : List UInt8) (k : Nat) (h : k < l.length) : (l.take (k + 1)).any Wd.isL = ((l.take k).any Wd.isL || Wd.isL l[k]) := by
  rw [List.take_succ_eq_append_getElem h, List.any_append]
  simp
theorem any_true_of (l : List UInt8) (k : Nat) (h : k < l.length) (hf : Wd.isL l[k] = true) : l.any Wd.isL = true := by
  rw [List.any_eq_true]
  exact ⟨l[k], List.getElem_mem h, hf⟩

set_option maxHeartbeats 400000 in
theorem specLetters_any (s : ByteArray) (w : World) (hs : s.size ≤ 1000) :
    Calls Try.prog 104 #[.string s] w fun e w' => e = .returned (.bool (s.data.toList.any Wd.isL)) ∧ w = w' := by
  obtain ⟨v, hv⟩ : ∃ v, s.data.toList.any Wd.isL = v := ⟨_, rfl⟩
  rw [hv]
  have HV := hidv hv
  clear hv
  go_enter Try.func104, Try.ntmps104
  go_wp2
  go_loop [3] (fun i => ∃ k : Nat, k ≤ s.size ∧ i = .int .i64 k ∧ Hid ((s.data.toList.take k).any Wd.isL = false)) (fun i => s.size - (intOf i).toNat)
  case atStart => exact ⟨0, Nat.zero_le _, rfl, hidv (by simp)⟩
  case round =>
    obtain ⟨k, hk, rfl, hall⟩ := hrel
    by_cases hlt : k < s.size
    · go_wp2_with (go_at_call 78; refine (letter_any s[k] _).mono ?_; rintro e w' ⟨rfl, rfl⟩)
      · have hf : Wd.isL s[k] = true := by assumption
        go_ret
        exact ⟨ret_bool (by rw [← HV.out]; exact (any_true_of s.data.toList k (by simpa using hlt) hf).symm), rfl⟩
      · have hf : Wd.isL s[k] = false := by assumption
        go_round
        case rel =>
          refine ⟨k + 1, by omega, by go_num, hidv ?_⟩
          rw [any_take_succ _ k (by simpa using hlt), hall.out, Bool.false_or]
          exact hf
        case measure => simp [intOf]; omega
    · go_wp2
      go_ret
      refine ⟨ret_bool ?_, rfl⟩
      have h2 := hall.out
      rw [List.take_of_length_le (by simp; omega)] at h2
      rw [← HV.out, h2]

/-- The first symbols, or the last ones, are both letters. -/
def bothL (x y : ByteArray) (i j : Nat) : Bool := Wd.isL (x.data.toList.getD i 0) && Wd.isL (y.data.toList.getD j 0)
def clashK (x y : ByteArray) : Int :=
  if 0 < x.size ∧ 0 < y.size then (if bothL x y 0 0 then 1 else if bothL x y (x.size - 1) (y.size - 1) then 2 else 0)
  else if (x.data.toList ++ y.data.toList).any Wd.isL then 3 else 0

theorem isL_getD {x : ByteArray} {i : Nat} (h : i < x.size) : Wd.isL (x.data.toList.getD i 0) = Wd.isL x[i] := by
  rw [List.getD_eq_getElem?_getD, List.getElem?_eq_getElem (by simpa using h)]
  rfl

theorem byte_letter_any (x : ByteArray) (i : Nat) (h : i < x.size) (p : Bool) (hp : Wd.isL (x.data.toList.getD i 0) = p) (w : World) :
    Calls Try.prog 78 #[.int .u8 x[i].toNat] w fun e w' => e = .returned (.bool p) ∧ w = w' := by
  have := letter_any x[i] w
  rw [← isL_getD h, hp] at this
  exact this

set_option maxHeartbeats 800000 in
theorem specClash_any (x y : ByteArray) (w : World) (hx : x.size ≤ 100) (hy : y.size ≤ 100) :
    Calls Try.prog 72 #[.agg #[.string x, .string y]] w fun e w' => e = .returned (.int .i64 (clashK x y)) ∧ Below w.heap.size w w' := by
  by_cases hxp : 0 < x.size
  · by_cases hyp : 0 < y.size
    · obtain ⟨p1, hp1⟩ : ∃ p, Wd.isL (x.data.toList.getD 0 0) = p := ⟨_, rfl⟩
      obtain ⟨p2, hp2⟩ : ∃ p, Wd.isL (y.data.toList.getD 0 0) = p := ⟨_, rfl⟩
      obtain ⟨p3, hp3⟩ : ∃ p, Wd.isL (x.data.toList.getD (x.size - 1) 0) = p := ⟨_, rfl⟩
      obtain ⟨p4, hp4⟩ : ∃ p, Wd.isL (y.data.toList.getD (y.size - 1) 0) = p := ⟨_, rfl⟩
      have hk : clashK x y = if p1 && p2 then 1 else if p3 && p4 then 2 else 0 := by
        unfold clashK bothL
        rw [if_pos ⟨hxp, hyp⟩, hp1, hp2, hp3, hp4]
      obtain ⟨m1, hm1⟩ : ∃ m, x.size = m + 1 := ⟨x.size - 1, by omega⟩
      obtain ⟨m2, hm2⟩ : ∃ m, y.size = m + 1 := ⟨y.size - 1, by omega⟩
      have l1 : m1 < x.size := by omega
      have l2 : m2 < y.size := by omega
      rw [show x.size - 1 = m1 by omega] at hp3
      rw [show y.size - 1 = m2 by omega] at hp4
      have C1 := hidv (fun W => byte_letter_any x 0 hxp p1 hp1 W)
      have C2 := hidv (fun W => byte_letter_any y 0 hyp p2 hp2 W)
      have C3 := hidv (fun W => byte_letter_any x m1 l1 p3 hp3 W)
      have C4 := hidv (fun W => byte_letter_any y m2 l2 p4 hp4 W)
      have hw1 : (x.size : Int) - 1 = (m1 : Int) := by omega
      have hw2 : (y.size : Int) - 1 = (m2 : Int) := by omega
      have hz1 : ((x.size : Int) == 0) = false := by rw [beq_eq_false_iff_ne]; omega
      have hz2 : ((y.size : Int) == 0) = false := by rw [beq_eq_false_iff_ne]; omega
      rw [hk]
      clear hk hp1 hp2 hp3 hp4 hm1 hm2
      go_enter Try.func72, Try.ntmps72
      go_wp2_with fail
      refine (C1.out _).mono ?_
      rintro e w' ⟨rfl, rfl⟩
      cases p1
      · go_wp2_with fail
        refine (C3.out _).mono ?_
        rintro e w' ⟨rfl, rfl⟩
        cases p3
        · go_wp2_with fail
          go_ret
          exact ⟨rfl, (Below.refl _ _).alloc (Nat.le_refl _) _⟩
        · go_wp2_with fail
          refine (C4.out _).mono ?_
          rintro e w' ⟨rfl, rfl⟩
          cases p4
          · go_wp2_with fail
            go_ret
            exact ⟨rfl, (Below.refl _ _).alloc (Nat.le_refl _) _⟩
          · go_wp2_with fail
            go_ret
            exact ⟨rfl, (Below.refl _ _).alloc (Nat.le_refl _) _⟩
      · go_wp2_with fail
        refine (C2.out _).mono ?_
        rintro e w' ⟨rfl, rfl⟩
        cases p2
        · go_wp2_with fail
          refine (C3.out _).mono ?_
          rintro e w' ⟨rfl, rfl⟩
          cases p3
          · go_wp2_with fail
            go_ret
            exact ⟨rfl, (Below.refl _ _).alloc (Nat.le_refl _) _⟩
          · go_wp2_with fail
            refine (C4.out _).mono ?_
            rintro e w' ⟨rfl, rfl⟩
            cases p4
            · go_wp2_with fail
              go_ret
              exact ⟨rfl, (Below.refl _ _).alloc (Nat.le_refl _) _⟩
            · go_wp2_with fail
              go_ret
              exact ⟨rfl, (Below.refl _ _).alloc (Nat.le_refl _) _⟩
        · go_wp2_with fail
          go_ret
          exact ⟨rfl, (Below.refl _ _).alloc (Nat.le_refl _) _⟩
    · have hy0 : y.size = 0 := by omega
      have hk : clashK x y = if x.data.toList.any Wd.isL then 3 else 0 := by
        unfold clashK
        rw [if_neg (by omega), data_nil hy0, List.append_nil]
      have c1 := fun W => specLetters_any x W (by omega)
      obtain ⟨p, hp⟩ : ∃ p, x.data.toList.any Wd.isL = p := ⟨_, rfl⟩
      rw [hk]
      rw [hp] at c1 ⊢
      have C1 := hidv c1
      have hz1 : ((x.size : Int) == 0) = false := by rw [beq_eq_false_iff_ne]; omega
      clear hk hp c1 hyp
      go_enter Try.func72, Try.ntmps72
      go_wp2_with fail
      refine (C1.out _).mono ?_
      rintro e w' ⟨rfl, rfl⟩
      cases p
      · go_wp2_with fail
        go_ret
        exact ⟨rfl, (Below.refl _ _).alloc (Nat.le_refl _) _⟩
      · go_wp2_with fail
        go_ret
        exact ⟨rfl, (Below.refl _ _).alloc (Nat.le_refl _) _⟩
  · have hx0 : x.size = 0 := by omega
    have hk : clashK x y = if y.data.toList.any Wd.isL then 3 else 0 := by
      unfold clashK
      rw [if_neg (by omega), data_nil hx0, List.nil_append]
    have c1 := fun W => specLetters_any y W (by omega)
    have c2 := fun W => specLetters_any x W (by omega)
    rw [data_nil hx0] at c2
    obtain ⟨p, hp⟩ : ∃ p, y.data.toList.any Wd.isL = p := ⟨_, rfl⟩
    rw [hk]
    rw [hp] at c1 ⊢
    have C1 := hidv c1
    have C2 : Hid (∀ W, Calls Try.prog 104 #[.string x] W fun e w' => e = .returned (.bool false) ∧ W = w') := hidv c2
    have HP := hidv hp
    clear hk hp c1 hxp c2
    by_cases hyp : 0 < y.size
    · have hz2 : ((y.size : Int) == 0) = false := by rw [beq_eq_false_iff_ne]; omega
      go_enter Try.func72, Try.ntmps72
      go_wp2_with fail
      refine (C1.out _).mono ?_
      rintro e w' ⟨rfl, rfl⟩
      cases p
      · go_wp2_with fail
        go_ret
        exact ⟨rfl, (Below.refl _ _).alloc (Nat.le_refl _) _⟩
      · go_wp2_with fail
        go_ret
        exact ⟨rfl, (Below.refl _ _).alloc (Nat.le_refl _) _⟩
    · obtain rfl : p = false := by
        rw [← HP.out, data_nil (by omega)]
        rfl
      have hy0 : y.size = 0 := by omega
      clear hyp
      go_enter Try.func72, Try.ntmps72
      go_wp2_with fail
      refine (C1.out _).mono ?_
      rintro e w' ⟨rfl, rfl⟩
      go_wp2_with fail
      refine (C2.out _).mono ?_
      rintro e w' ⟨rfl, rfl⟩
      go_wp2_with fail
      go_ret
      exact ⟨rfl, (Below.refl _ _).alloc (Nat.le_refl _) _⟩

end Go.Proofs.Ytolhelogcekfbab
