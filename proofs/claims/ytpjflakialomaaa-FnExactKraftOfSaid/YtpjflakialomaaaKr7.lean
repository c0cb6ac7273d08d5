/-
  KraftOf, of the program and of the model: contracts.
-/
import Derived.Test.YtpjflakialomaaaSt7
import Derived.Test.YtpjflakialomaaaAp7L
import Derived.IntWalk
namespace Go.Proofs.Ytpjflakialomaaa
open Go.RowKit Go
set_option linter.unusedVariables false

theorem wrap_mul (a b : Nat) (h : a * b ≤ 1000000000) : IntKind.i64.wrap ((a : Int) * (b : Int)) = ((a * b : Nat) : Int) := by
  have e : (a : Int) * (b : Int) = ((a * b : Nat) : Int) := by push_cast; rfl
  rw [e]
  exact IntWalk.i64_in _ (by omega)
theorem pow_le (l n : Nat) (hl : l ≤ 4) (hn : n ≤ 12) : l ^ n ≤ 16777216 :=
  Nat.le_trans (Nat.pow_le_pow_left hl n) (Nat.le_trans (Nat.pow_le_pow_right (by omega) hn) (by decide))

set_option maxHeartbeats 400000 in
theorem cntLen_any (l n : Nat) (w : World) (hl : l ≤ 4) (hn : n ≤ 12) :
    Calls Try.prog 58 #[.int .i64 (l : Int), .int .i64 (n : Int)] w fun e w' => e = .returned (.int .i64 ((l ^ n : Nat) : Int)) ∧ w = w' := by
  obtain ⟨v, hv⟩ : ∃ v, l ^ n = v := ⟨_, rfl⟩
  rw [hv]
  have HV := hidv hv
  clear hv
  go_enter Try.func58, Try.ntmps58
  go_wp2_with fail
  go_loop [5, 7] (fun p i => ∃ (k P : Nat), k ≤ n ∧ i = .int .i64 (k : Int) ∧ p = .int .i64 (P : Int) ∧ Hid (l ^ k = P)) (fun _ i => n - (intOf i).toNat)
  case atStart => exact ⟨0, 1, Nat.zero_le _, rfl, rfl, hidv rfl⟩
  case round =>
    obtain ⟨k, P, hk, rfl, rfl, hp⟩ := hrel
    by_cases hlt : k < n
    · have h1 := pow_le l (k + 1) hl (by omega)
      have hP2 : l ^ (k + 1) = P * l := by rw [Nat.pow_succ, hp.out]
      rw [hP2] at h1
      have hw := wrap_mul P l (by omega)
      obtain ⟨R, hR⟩ : ∃ R, P * l = R := ⟨_, rfl⟩
      rw [hR] at hw hP2
      have HP2 := hidv hP2
      clear hP2 hR h1
      go_wp2_with fail
      go_round
      case rel => exact ⟨k + 1, R, by omega, by go_num, by first | rfl | rw [hw], HP2⟩
      case measure => simp [intOf]; omega
    · obtain rfl : k = n := by omega
      obtain rfl : P = v := by rw [← HV.out, hp.out]
      go_wp2_with fail
      go_ret
      exact ⟨rfl, rfl⟩

set_option maxHeartbeats 400000 in
theorem power_any (l n : Nat) (w : World) (hl : l ≤ 4) (hn : n ≤ 12) :
    Calls Try.prog 55 #[.int .i64 (l : Int), .int .i64 (n : Int)] w fun e w' => e = .returned (.int .i64 ((l ^ n : Nat) : Int)) ∧ w = w' := by
  obtain ⟨v, hv⟩ : ∃ v, l ^ n = v := ⟨_, rfl⟩
  rw [hv]
  have HV := hidv hv
  clear hv
  go_enter Try.func55, Try.ntmps55
  go_wp2_with fail
  go_loop [5, 6] (fun p i => ∃ (k P : Nat), k ≤ n ∧ i = .int .i64 (k : Int) ∧ p = .int .i64 (P : Int) ∧ Hid (l ^ k = P)) (fun _ i => n - (intOf i).toNat)
  case atStart => exact ⟨0, 1, Nat.zero_le _, rfl, rfl, hidv rfl⟩
  case round =>
    obtain ⟨k, P, hk, rfl, rfl, hp⟩ := hrel
    by_cases hlt : k < n
    · have h1 := pow_le l (k + 1) hl (by omega)
      have hP2 : l ^ (k + 1) = P * l := by rw [Nat.pow_succ, hp.out]
      rw [hP2] at h1
      have hw := wrap_mul P l (by omega)
      obtain ⟨R, hR⟩ : ∃ R, P * l = R := ⟨_, rfl⟩
      rw [hR] at hw hP2
      have HP2 := hidv hP2
      clear hP2 hR h1
      go_wp2_with fail
      go_round
      case rel => exact ⟨k + 1, R, by omega, by go_num, by first | rfl | rw [hw], HP2⟩
      case measure => simp [intOf]; omega
    · obtain rfl : k = n := by omega
      obtain rfl : P = v := by rw [← HV.out, hp.out]
      go_wp2_with fail
      go_ret
      exact ⟨rfl, rfl⟩

theorem isCount_any (l : Int) (w : World) (v : Bool) (hv : (decide (1 ≤ l) && decide (l ≤ 4)) = v) :
    Calls Try.prog 56 #[.int .i64 l] w fun e w' => e = .returned (.bool v) ∧ w = w' := by
  by_cases h1 : 1 ≤ l
  · by_cases h2 : l ≤ 4
    · obtain rfl : v = true := by rw [← hv]; simp [h1, h2]
      clear hv
      go_enter Try.func56, Try.ntmps56
      go_wp2
      go_ret
      exact ⟨rfl, rfl⟩
    · obtain rfl : v = false := by rw [← hv]; simp [h2]
      clear hv
      go_enter Try.func56, Try.ntmps56
      go_wp2
      go_ret
      exact ⟨rfl, rfl⟩
  · obtain rfl : v = false := by rw [← hv]; simp [h1]
    clear hv
    go_enter Try.func56, Try.ntmps56
    go_wp2
    go_ret
    exact ⟨rfl, rfl⟩

/-- A word is over the first so many letters. -/
def OverL (l : Nat) (x : ByteArray) : Prop := ∀ k (h : k < x.size), x[k].toNat < 97 + l
def AlphOk (l : Nat) (xs : List ByteArray) : Prop := ∀ i (h : i < xs.length), OverL l xs[i]
/-- The numerator of the measure. -/
def krN (l L : Nat) (xs : List ByteArray) : Nat := (xs.map fun x => l ^ (L - x.size)).sum
theorem krN_succ (l L : Nat) (xs : List ByteArray) (k : Nat) (h : k < xs.length) : krN l L (xs.take (k + 1)) = krN l L (xs.take k) + l ^ (L - xs[k].size) := by
  rw [List.take_succ_eq_append_getElem h]
  unfold krN
  simp only [List.map_append, List.sum_append, List.map_cons, List.map_nil, List.sum_cons, List.sum_nil, Nat.add_zero]
theorem krN_le (l L : Nat) (hl : l ≤ 4) (hL : L ≤ 12) : ∀ xs : List ByteArray, krN l L xs ≤ 16777216 * xs.length
  | [] => by simp [krN]
  | x :: xs => by
    have h1 := krN_le l L hl hL xs
    have h2 := pow_le l (L - x.size) hl (by omega)
    unfold krN at h1 ⊢
    simp only [List.map_cons, List.sum_cons, List.length_cons]
    omega
def lastLen (xs : List ByteArray) : Nat := (xs.getD (xs.length - 1) ⟨#[]⟩).size
/-- What KraftOf answers. -/
def KrR (xs : List ByteArray) (l a b c : Int) : Prop :=
  (SetOk xs → (1 ≤ l ∧ l ≤ 4 → (AlphOk l.toNat xs → a = (krN l.toNat (lastLen xs) xs : Nat) ∧ b = ((l.toNat ^ lastLen xs : Nat) : Int) ∧ c = 0) ∧ (¬ AlphOk l.toNat xs → a = 0 ∧ b = 0 ∧ c = 2)) ∧ (¬ (1 ≤ l ∧ l ≤ 4) → a = 0 ∧ b = 0 ∧ c = 2)) ∧
  (¬ SetOk xs → a = 0 ∧ b = 0 ∧ c = 1)
theorem krR_ex (xs : List ByteArray) (l : Int) : ∃ a b c, KrR xs l a b c := by
  unfold KrR
  by_cases h : SetOk xs
  · by_cases h2 : 1 ≤ l ∧ l ≤ 4
    · by_cases h3 : AlphOk l.toNat xs
      · exact ⟨_, _, 0, fun _ => ⟨fun _ => ⟨fun _ => ⟨rfl, rfl, rfl⟩, fun hn => absurd h3 hn⟩, fun hn => absurd h2 hn⟩, fun hn => absurd h hn⟩
      · exact ⟨0, 0, 2, fun _ => ⟨fun _ => ⟨fun hy => absurd hy h3, fun _ => ⟨rfl, rfl, rfl⟩⟩, fun hn => absurd h2 hn⟩, fun hn => absurd h hn⟩
    · exact ⟨0, 0, 2, fun _ => ⟨fun hy => absurd hy h2, fun _ => ⟨rfl, rfl, rfl⟩⟩, fun hn => absurd h hn⟩
  · exact ⟨0, 0, 1, fun hy => absurd hy h, fun _ => ⟨rfl, rfl, rfl⟩⟩

theorem lets_iff (l : Nat) (hl : 1 ≤ l ∧ l ≤ 4) (c : UInt8) (hc : Wd.isL c = true) : ((({ data := #[97, 98, 99, 100] } : ByteArray).extract 0 l).data.toList.contains c) = decide (c.toNat < 97 + l) := by
  obtain ⟨j, hj, hcj, _⟩ := let_at hc
  have hc2 : c = UInt8.ofNat (97 + j) := by rw [← UInt8.toNat_inj, hcj, UInt8.toNat_ofNat']; omega
  subst hc2
  rcases (show l = 1 ∨ l = 2 ∨ l = 3 ∨ l = 4 by omega) with rfl | rfl | rfl | rfl <;> rcases (show j = 0 ∨ j = 1 ∨ j = 2 ∨ j = 3 by omega) with rfl | rfl | rfl | rfl <;> decide
theorem made_iff (l : Nat) (hl : 1 ≤ l ∧ l ≤ 4) (x : ByteArray) (hx : Wd.wordB x.data.toList = true) (h12 : x.size ≤ 12) (q : Bool) (hq : q = true ↔ OverL l x) : Wd.madeB x.data.toList (({ data := #[97, 98, 99, 100] } : ByteArray).extract 0 l).data.toList 12 = q := by
  unfold Wd.madeB
  have e1 : decide ((x.data.toList.length : Int) ≤ 12) = true := by simp; omega
  rw [e1, Bool.true_and, Bool.eq_iff_iff, hq, List.all_eq_true]
  have hw := (word_all hx).2
  constructor
  · intro h k hk
    have hm : x[k] ∈ x.data.toList := List.getElem_mem (l := x.data.toList) (n := k) (by simpa using hk)
    have h1 := h x[k] hm
    rw [lets_iff l hl _ (hw _ hm)] at h1
    exact of_decide_eq_true h1
  · intro h c hc
    rw [lets_iff l hl c (hw c hc)]
    obtain ⟨k, hk, rfl⟩ := List.getElem_of_mem hc
    exact decide_eq_true (h k (by simpa using hk))

set_option maxRecDepth 100000 in
set_option maxHeartbeats 3200000 in
theorem implKr_any (vx : Value) (xs : List ByteArray) (l : Int) (B : Nat) (w : World) (hv : Row w B vx (xs.map Value.string)) (hB : B ≤ w.heap.size) (hx : xs.length ≤ 1048576) (hs : ∀ s ∈ xs, s.size ≤ maxLen) (a b c : Int) (hd : KrR xs l a b c) :
    Calls Try.prog 29 #[vx, .int .i64 l] w fun e w' => e = .returned (.tuple #[.int .i64 a, .int .i64 b, .int .i64 c]) ∧ Below w.heap.size w w' := by
  obtain ⟨q, hq⟩ := iffB (SetOk xs)
  have CS := hidv (implSet_any vx xs B w hv hB hx hs q hq)
  obtain ⟨A, cx, rfl, hA⟩ := strRow_at hv
  obtain ⟨n, hnn⟩ : ∃ n, xs.length = n := ⟨_, rfl⟩
  have HA := hidv hA
  have HD := hidv hd
  rw [hnn] at CS hx ⊢
  have HN := hidv hnn
  have HQ := hidv hq
  have HS := hidv hs
  clear hv hA hd hs hnn hq
  cases q
  · obtain ⟨rfl, rfl, rfl⟩ := HD.out.2 (fun h => absurd (HQ.out.mpr h) (by decide))
    go_enter Try.func29, Try.ntmps29
    go_wp2_with fail
    refine CS.out.mono ?_
    rintro e w1 ⟨rfl, hb1⟩
    have HB1 := hidv hb1
    clear hb1
    go_wp2_with fail
    go_ret3
    exact ⟨rfl, HB1.out⟩
  have HR := hidv (HD.out.1 (HQ.out.mp rfl))
  have HSET := hidv (HQ.out.mp rfl)
  clear HD HQ
  by_cases hl : ¬ (1 ≤ l ∧ l ≤ 4)
  · obtain ⟨rfl, rfl, rfl⟩ := HR.out.2 hl
    have CL := hidv (fun W => isCount_any l W false (by simp; omega))
    clear hl
    go_enter Try.func29, Try.ntmps29
    go_wp2_with fail
    refine CS.out.mono ?_
    rintro e w1 ⟨rfl, hb1⟩
    have HB1 := hidv hb1
    clear hb1
    go_wp2_with fail
    refine (CL.out _).mono ?_
    rintro e w' ⟨rfl, rfl⟩
    go_wp2_with fail
    go_ret3
    exact ⟨rfl, HB1.out⟩
  have hl' : 1 ≤ l ∧ l ≤ 4 := Classical.byContradiction hl
  have HR2 := HR.out.1 hl'
  have CL := hidv (fun W => isCount_any l W true (by simp; omega))
  obtain ⟨hl1, hl4⟩ := hl'
  clear hl HR
  obtain ⟨l, rfl⟩ := Int.eq_ofNat_of_zero_le (show 0 ≤ l by omega)
  simp only [Int.toNat_natCast] at HR2
  have l1 : 1 ≤ l := by omega
  have l4 : l ≤ 4 := by omega
  have HR3 := hidv HR2
  clear HR2
  have hn1 : 1 ≤ n := by have := HSET.out.1; have := HN.out; omega
  have hn8 : n ≤ 8 := by have := HSET.out.2.1; have := HN.out; omega
  obtain ⟨g, o, rfl, hg, hce⟩ := HA.out (by have := HN.out; omega)
  have hx0 : 0 < xs.length := by have := HN.out; omega
  have HLL : Hid (lastLen xs = xs[xs.length - 1].size) := hidv (by unfold lastLen; rw [str_at (show xs.length - 1 < xs.length by have := HN.out; omega)])
  have dl := hce (xs.length - 1) (by have := HN.out; omega)
  have hL12 := (HSET.out.2.2.1 (xs.length - 1) (by have := HN.out; omega)).2.2
  obtain ⟨y, hy⟩ : ∃ y, xs[xs.length - 1] = y := ⟨_, rfl⟩
  have hmono : ∀ k (h : k < xs.length), xs[k].size ≤ y.size := fun k h => by
    have := soon_mono HSET.out.2.2.2 k (xs.length - 1 - k) (by omega)
    have e : k + (xs.length - 1 - k) = xs.length - 1 := by omega
    simp only [e] at this
    rw [← hy]
    exact this
  rw [hy] at dl hL12 HLL
  have dl2 : w.cell? ⟨g, o + (n - 1), none⟩ = some (.string y) := by rw [← HN.out]; exact dl
  obtain ⟨L, hL⟩ : ∃ L, y.size = L := ⟨_, rfl⟩
  rw [hL] at hL12 hmono HLL
  have HMO := hidv hmono
  have HYL := hidv hL
  have HCE := hidv hce
  have HDL := hidv dl2
  clear hy dl dl2 hmono hce hL hx0
  rw [HLL.out] at HR3
  have HR4 : Hid ((AlphOk l xs → a = (krN l L xs : Nat) ∧ b = ((l ^ L : Nat) : Int) ∧ c = 0) ∧ (¬ AlphOk l xs → a = 0 ∧ b = 0 ∧ c = 2)) := HR3
  obtain ⟨S0, hS0⟩ : ∃ S, krN l L xs = S := ⟨_, rfl⟩
  obtain ⟨R0, hR0⟩ : ∃ R, l ^ L = R := ⟨_, rfl⟩
  rw [hS0, hR0] at HR4
  have HS0 := hidv hS0
  have HPL := hidv (fun W => cntLen_any l L W l4 hL12)
  rw [hR0] at HPL
  clear HR3 HLL hS0 hR0
  go_enter Try.func29, Try.ntmps29
  go_wp2_with fail
  refine CS.out.mono ?_
  rintro e w1 ⟨rfl, hb1⟩
  have HB1 := hidv hb1
  clear hb1
  go_wp2_with fail
  refine (CL.out _).mono ?_
  rintro e w' ⟨rfl, rfl⟩
  have hsz1 := HB1.out.size
  have cl := (HB1.out.cell (p := ⟨g, o + (n - 1), none⟩) (by show g < _; omega)).trans HDL.out
  have i0 : (0 : Int) ≤ (n : Int) - 1 := by omega
  have i1 : (n : Int) - 1 < (n : Int) := by omega
  have hyn : y.size ≤ 12 := by have := HYL.out; omega
  go_wp2_with fail
  have hyL : Hid ((y.size : Int) = (L : Int)) := hidv (by have := HYL.out; omega)
  rw [hyL.out]
  go_loop [8, 26] (fun p i => ∃ (k P : Nat), k ≤ n ∧ i = .int .i64 (k : Int) ∧ p = .int .i64 (P : Int) ∧ Hid (krN l L (xs.take k) = P) ∧ Hid (∀ j (h : j < xs.length), j < k → OverL l xs[j])) (fun _ i => n - (intOf i).toNat)
  case atStart => exact ⟨0, 0, Nat.zero_le _, rfl, rfl, hidv rfl, hidv (fun j h hj => by omega)⟩
  case round =>
    obtain ⟨k, P, hk, rfl, rfl, hp, hall⟩ := hrel
    by_cases hlt : k < n
    · have hkx : k < xs.length := by have := HN.out; omega
      have c1 := (HB1.out.cell (p := ⟨g, o + k, none⟩) (by show g < _; omega)).trans (HCE.out k hkx)
      have hset := HSET.out.2.2.1 k hkx
      have hmo := HMO.out k hkx
      have hsu := krN_succ l L xs k hkx
      have hle := krN_le l L l4 hL12 (xs.take (k + 1))
      have hle2 : (xs.take (k + 1)).length ≤ 8 := by rw [List.length_take]; omega
      rw [hp.out] at hsu
      obtain ⟨x, hx1⟩ : ∃ x, xs[k] = x := ⟨_, rfl⟩
      rw [hx1] at c1 hset hmo hsu
      have HX1 := hidv hx1
      obtain ⟨q, hq⟩ := iffB (OverL l x)
      have hmd := made_iff l ⟨l1, l4⟩ x hset.1 hset.2.2 q hq
      have CM := fun W => madeOf_any x (({ data := #[97, 98, 99, 100] } : ByteArray).extract 0 l) 12 W (by unfold maxLen; omega)
      rw [hmd] at CM
      have HCM := hidv CM
      have HQ := hidv hq
      have hx12 := hset.2.2
      have hP : P ≤ 200000000 := by omega
      have hpw := pow_le l (L - x.size) l4 (by omega)
      have HPW := hidv (fun W => cntLen_any l (L - x.size) W l4 (by omega))
      obtain ⟨R, hR⟩ : ∃ R, l ^ (L - x.size) = R := ⟨_, rfl⟩
      rw [hR] at HPW hsu hpw
      have HSU := hidv hsu
      have hsub : ((L - x.size : Nat) : Int) = (L : Int) - (x.size : Int) := by omega
      rw [hsub] at HPW
      clear hx1 hset hmd CM hq hR hle hle2 hsu hsub
      cases q
      · obtain ⟨rfl, rfl, rfl⟩ := HR4.out.2 (fun h => absurd (HQ.out.mpr (by rw [← HX1.out]; exact h k hkx)) (by decide))
        go_wp2_with fail
        refine (HCM.out _).mono ?_
        rintro e w' ⟨rfl, rfl⟩
        go_wp2_with fail
        go_ret3
        exact ⟨rfl, HB1.out⟩
      · have HALL := hidv (show ∀ j (h : j < xs.length), j < k + 1 → OverL l xs[j] from fun j h hj => by
          rcases Nat.lt_or_ge j k with h2 | h2
          · exact hall.out j h h2
          · obtain rfl : j = k := by omega
            rw [HX1.out]
            exact HQ.out.mp rfl)
        go_wp2_with fail
        refine (HCM.out _).mono ?_
        rintro e w' ⟨rfl, rfl⟩
        go_wp2_with fail
        refine (HPW.out _).mono ?_
        rintro e w' ⟨rfl, rfl⟩
        go_wp2_with fail
        go_round
        case rel => exact ⟨k + 1, P + R, by omega, by go_num, by go_num, HSU, HALL⟩
        case measure => simp [intOf]; omega
    · obtain rfl : k = n := by omega
      have hte : xs.take k = xs := List.take_of_length_le (by have := HN.out; omega)
      obtain ⟨rfl, rfl, rfl⟩ := HR4.out.1 (fun j h => hall.out j h (by have := HN.out; omega))
      obtain rfl : P = S0 := by rw [← HS0.out, ← hp.out, hte]
      clear hte
      go_wp2_with fail
      refine (HPL.out _).mono ?_
      rintro e w' ⟨rfl, rfl⟩
      go_wp2_with fail
      go_ret3
      exact ⟨rfl, HB1.out⟩

set_option maxRecDepth 100000 in
set_option maxHeartbeats 3200000 in
theorem specKr_any (vx : Value) (xs : List ByteArray) (l : Int) (B : Nat) (w : World) (hv : Row w B vx (xs.map Value.string)) (hB : B ≤ w.heap.size) (hx : xs.length ≤ 1048576) (hs : ∀ s ∈ xs, s.size ≤ maxLen) (a b c : Int) (hd : KrR xs l a b c) :
    Calls Try.prog 28 #[vx, .int .i64 l] w fun e w' => e = .returned (.tuple #[.int .i64 a, .int .i64 b, .int .i64 c]) ∧ Below w.heap.size w w' := by
  obtain ⟨q, hq⟩ := iffB (SetOk xs)
  have CS := hidv (l07Ok_any vx xs B w hv hB hx hs q hq)
  obtain ⟨A, cx, rfl, hA⟩ := strRow_at hv
  obtain ⟨n, hnn⟩ : ∃ n, xs.length = n := ⟨_, rfl⟩
  have HA := hidv hA
  have HD := hidv hd
  rw [hnn] at CS hx ⊢
  have HN := hidv hnn
  have HQ := hidv hq
  have HS := hidv hs
  clear hv hA hd hs hnn hq
  cases q
  · obtain ⟨rfl, rfl, rfl⟩ := HD.out.2 (fun h => absurd (HQ.out.mpr h) (by decide))
    go_enter Try.func28, Try.ntmps28
    go_wp2_with fail
    refine CS.out.mono ?_
    rintro e w1 ⟨rfl, m1, hm1⟩
    have HB1 := hidv (below_q hm1)
    clear hm1
    go_wp2_with fail
    go_ret3
    exact ⟨rfl, HB1.out⟩
  have HR := hidv (HD.out.1 (HQ.out.mp rfl))
  have HSET := hidv (HQ.out.mp rfl)
  clear HD HQ
  by_cases hl : ¬ (1 ≤ l ∧ l ≤ 4)
  · obtain ⟨rfl, rfl, rfl⟩ := HR.out.2 hl
    have CL := hidv (fun W => l00In_any l 1 4 W false (by simp; omega))
    clear hl
    go_enter Try.func28, Try.ntmps28
    go_wp2_with fail
    refine CS.out.mono ?_
    rintro e w1 ⟨rfl, m1, hm1⟩
    have HB1 := hidv (below_q hm1)
    clear hm1
    go_wp2_with fail
    refine (CL.out _).mono ?_
    rintro e w' ⟨rfl, rfl⟩
    go_wp2_with fail
    go_ret3
    exact ⟨rfl, HB1.out⟩
  have hl' : 1 ≤ l ∧ l ≤ 4 := Classical.byContradiction hl
  have HR2 := HR.out.1 hl'
  have CL := hidv (fun W => l00In_any l 1 4 W true (by simp; omega))
  obtain ⟨hl1, hl4⟩ := hl'
  clear hl HR
  obtain ⟨l, rfl⟩ := Int.eq_ofNat_of_zero_le (show 0 ≤ l by omega)
  simp only [Int.toNat_natCast] at HR2
  have l1 : 1 ≤ l := by omega
  have l4 : l ≤ 4 := by omega
  have HR3 := hidv HR2
  clear HR2
  have hn1 : 1 ≤ n := by have := HSET.out.1; have := HN.out; omega
  have hn8 : n ≤ 8 := by have := HSET.out.2.1; have := HN.out; omega
  obtain ⟨g, o, rfl, hg, hce⟩ := HA.out (by have := HN.out; omega)
  have hx0 : 0 < xs.length := by have := HN.out; omega
  have HLL : Hid (lastLen xs = xs[xs.length - 1].size) := hidv (by unfold lastLen; rw [str_at (show xs.length - 1 < xs.length by have := HN.out; omega)])
  have dl := hce (xs.length - 1) (by have := HN.out; omega)
  have hL12 := (HSET.out.2.2.1 (xs.length - 1) (by have := HN.out; omega)).2.2
  obtain ⟨y, hy⟩ : ∃ y, xs[xs.length - 1] = y := ⟨_, rfl⟩
  have hmono : ∀ k (h : k < xs.length), xs[k].size ≤ y.size := fun k h => by
    have := soon_mono HSET.out.2.2.2 k (xs.length - 1 - k) (by omega)
    have e : k + (xs.length - 1 - k) = xs.length - 1 := by omega
    simp only [e] at this
    rw [← hy]
    exact this
  rw [hy] at dl hL12 HLL
  have dl2 : w.cell? ⟨g, o + (n - 1), none⟩ = some (.string y) := by rw [← HN.out]; exact dl
  obtain ⟨L, hL⟩ : ∃ L, y.size = L := ⟨_, rfl⟩
  rw [hL] at hL12 hmono HLL
  have HMO := hidv hmono
  have HYL := hidv hL
  have HCE := hidv hce
  have HDL := hidv dl2
  clear hy dl dl2 hmono hce hL hx0
  rw [HLL.out] at HR3
  have HR4 : Hid ((AlphOk l xs → a = (krN l L xs : Nat) ∧ b = ((l ^ L : Nat) : Int) ∧ c = 0) ∧ (¬ AlphOk l xs → a = 0 ∧ b = 0 ∧ c = 2)) := HR3
  obtain ⟨S0, hS0⟩ : ∃ S, krN l L xs = S := ⟨_, rfl⟩
  obtain ⟨R0, hR0⟩ : ∃ R, l ^ L = R := ⟨_, rfl⟩
  rw [hS0, hR0] at HR4
  have HS0 := hidv hS0
  have HPL := hidv (fun W => power_any l L W l4 hL12)
  rw [hR0] at HPL
  clear HR3 HLL hS0 hR0
  go_enter Try.func28, Try.ntmps28
  go_wp2_with fail
  refine CS.out.mono ?_
  rintro e w1 ⟨rfl, m1, hm1⟩
  have HB1 := hidv (below_q hm1)
  clear hm1
  go_wp2_with fail
  refine (CL.out _).mono ?_
  rintro e w' ⟨rfl, rfl⟩
  have hsz1 := HB1.out.size
  have cl := (HB1.out.cell (p := ⟨g, o + (n - 1), none⟩) (by show g < _; omega)).trans HDL.out
  have i0 : (0 : Int) ≤ (n : Int) - 1 := by omega
  have i1 : (n : Int) - 1 < (n : Int) := by omega
  have hyn : y.size ≤ 12 := by have := HYL.out; omega
  go_wp2_with fail
  have hyL : Hid ((y.size : Int) = (L : Int)) := hidv (by have := HYL.out; omega)
  rw [hyL.out]
  go_loop [8, 9] (fun p i => ∃ (k P : Nat), k ≤ n ∧ i = .int .i64 (k : Int) ∧ p = .int .i64 (P : Int) ∧ Hid (krN l L (xs.take k) = P) ∧ Hid (∀ j (h : j < xs.length), j < k → OverL l xs[j])) (fun _ i => n - (intOf i).toNat)
  case atStart => exact ⟨0, 0, Nat.zero_le _, rfl, rfl, hidv rfl, hidv (fun j h hj => by omega)⟩
  case round =>
    obtain ⟨k, P, hk, rfl, rfl, hp, hall⟩ := hrel
    by_cases hlt : k < n
    · have hkx : k < xs.length := by have := HN.out; omega
      have c1 := (HB1.out.cell (p := ⟨g, o + k, none⟩) (by show g < _; omega)).trans (HCE.out k hkx)
      have hset := HSET.out.2.2.1 k hkx
      have hmo := HMO.out k hkx
      have hsu := krN_succ l L xs k hkx
      have hle := krN_le l L l4 hL12 (xs.take (k + 1))
      have hle2 : (xs.take (k + 1)).length ≤ 8 := by rw [List.length_take]; omega
      rw [hp.out] at hsu
      obtain ⟨x, hx1⟩ : ∃ x, xs[k] = x := ⟨_, rfl⟩
      rw [hx1] at c1 hset hmo hsu
      have HX1 := hidv hx1
      have hx12 := hset.2.2
      have hP : P ≤ 200000000 := by omega
      have hpw := pow_le l (L - x.size) l4 (by omega)
      have HPW := hidv (fun W => power_any l (L - x.size) W l4 (by omega))
      obtain ⟨R, hR⟩ : ∃ R, l ^ (L - x.size) = R := ⟨_, rfl⟩
      rw [hR] at HPW hsu hpw
      have HSU := hidv hsu
      have hsub : ((L - x.size : Nat) : Int) = (L : Int) - (x.size : Int) := by omega
      rw [hsub] at HPW
      have HWD := hidv hset.1
      clear hx1 hset hR hle hle2 hsu hsub
      go_wp2_with fail
      go_loop [10] (fun i => ∃ j : Nat, j ≤ x.size ∧ i = .int .i64 (j : Int) ∧ Hid (∀ m (h : m < x.size), m < j → x[m].toNat < 97 + l)) (fun i => x.size - (intOf i).toNat)
      case atStart => exact ⟨0, Nat.zero_le _, rfl, hidv (fun m h hm => by omega)⟩
      case round =>
        obtain ⟨j, hj, rfl, hal2⟩ := hrel
        by_cases hlj : j < x.size
        · obtain ⟨m, hm4, hcm, _⟩ := let_at (word_at HWD.out j hlj)
          have hcz : (x[j].toNat : Int) = 97 + (m : Int) := by omega
          have HCM := hidv hcm
          clear hcm
          by_cases hml : l ≤ m
          · obtain ⟨rfl, rfl, rfl⟩ := HR4.out.2 (fun h => by
              have h1 := h k hkx
              rw [HX1.out] at h1
              have h2 := h1 j hlj
              have := HCM.out
              omega)
            go_wp2_with fail
            go_ret3
            exact ⟨rfl, HB1.out⟩
          · have HALL := hidv (show ∀ m (h : m < x.size), m < j + 1 → x[m].toNat < 97 + l from fun m2 h hm => by
              rcases Nat.lt_or_ge m2 j with h2 | h2
              · exact hal2.out m2 h h2
              · obtain rfl : m2 = j := by omega
                have := HCM.out
                omega)
            go_wp2_with fail
            go_round
            case rel => exact ⟨j + 1, by omega, by go_num, HALL⟩
            case measure => simp [intOf]; omega
        · obtain rfl : j = x.size := by omega
          have HALL := hidv (show ∀ j (h : j < xs.length), j < k + 1 → OverL l xs[j] from fun j h hj => by
            rcases Nat.lt_or_ge j k with h2 | h2
            · exact hall.out j h h2
            · obtain rfl : j = k := by omega
              rw [HX1.out]
              exact fun m hm => hal2.out m hm hm)
          go_wp2_with fail
          refine (HPW.out _).mono ?_
          rintro e w' ⟨rfl, rfl⟩
          go_wp2_with fail
          go_round
          case rel => exact ⟨k + 1, P + R, by omega, by go_num, by go_num, HSU, HALL⟩
          case measure => simp [intOf]; omega
    · obtain rfl : k = n := by omega
      have hte : xs.take k = xs := List.take_of_length_le (by have := HN.out; omega)
      obtain ⟨rfl, rfl, rfl⟩ := HR4.out.1 (fun j h => hall.out j h (by have := HN.out; omega))
      obtain rfl : P = S0 := by rw [← HS0.out, ← hp.out, hte]
      clear hte
      go_wp2_with fail
      refine (HPL.out _).mono ?_
      rintro e w' ⟨rfl, rfl⟩
      go_wp2_with fail
      go_ret3
      exact ⟨rfl, HB1.out⟩

end Go.Proofs.Ytpjflakialomaaa
