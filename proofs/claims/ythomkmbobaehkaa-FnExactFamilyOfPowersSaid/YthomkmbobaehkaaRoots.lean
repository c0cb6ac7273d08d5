/-
  Plain words on lists of bytes: two words commute just if the root of both together divides both. No Go in sight, no condition.
-/
import Derived.Test.YthomkmbobaehkaaWords
namespace Go.Proofs.Ythomkmbobaehkaa.Wd

/-- Turned by k places the list is what it is. -/
def Turns (s : List UInt8) (k : Nat) : Prop := ∀ i, s[(i + k) % s.length]? = s[i % s.length]?

theorem turns_zero (s : List UInt8) : Turns s 0 := fun _ => rfl
theorem turns_len (s : List UInt8) : Turns s s.length := fun i => by rw [Nat.add_mod_right]
theorem turns_add {s : List UInt8} {a b : Nat} (ha : Turns s a) (hb : Turns s b) : Turns s (a + b) := fun i => by
  rw [← Nat.add_assoc, hb (i + a), ha i]
theorem turns_mul {s : List UInt8} {b : Nat} (hb : Turns s b) : ∀ q, Turns s (b * q)
  | 0 => turns_zero s
  | q + 1 => by rw [Nat.mul_succ]; exact turns_add (turns_mul hb q) hb
theorem turns_sub {s : List UInt8} {a b : Nat} (hab : Turns s (a + b)) (hb : Turns s b) : Turns s a := fun i => by
  rw [← hb (i + a), Nat.add_assoc, hab i]
theorem turns_mod {s : List UInt8} {a b : Nat} (ha : Turns s a) (hb : Turns s b) : Turns s (a % b) := by
  have h : Turns s (a % b + b * (a / b)) := by rw [Nat.mod_add_div]; exact ha
  exact turns_sub h (turns_mul hb _)
theorem turns_gcd (s : List UInt8) (a b : Nat) : Turns s a → Turns s b → Turns s (Nat.gcd a b) := by
  induction a, b using Nat.gcd.induction with
  | H0 n => intro _ h; rw [Nat.gcd_zero_left]; exact h
  | H1 m n _ ih => intro hm hn; rw [Nat.gcd_rec]; exact ih (turns_mod hn hm) hm

theorem period_up {s : List UInt8} {n : Nat} (h : ∀ i, i + n < s.length → s[i + n]? = s[i]?) (x : Nat) : ∀ j, x + j * n < s.length → s[x + j * n]? = s[x]?
  | 0, _ => by simp
  | j + 1, hlt => by
    have e : x + (j + 1) * n = (x + j * n) + n := by rw [Nat.succ_mul]; omega
    rw [e] at hlt ⊢
    rw [h _ hlt, period_up h x j (by omega)]

theorem rootAt_period {s : List UInt8} {n : Nat} (h : rootAt s n = true) : ∀ i, i + n < s.length → s[i + n]? = s[i]? := by
  unfold rootAt at h
  simp only [Bool.and_eq_true, decide_eq_true_eq, beq_iff_eq] at h
  intro i hi
  have := congrArg (fun l => l[i]?) h.2
  simp only [List.getElem?_drop, List.getElem?_take] at this
  rw [if_pos (by omega)] at this
  rw [Nat.add_comm]; exact this

theorem rootAt_turns {s : List UInt8} {n : Nat} (_h1 : 1 ≤ n) (h : rootAt s n = true) : Turns s n := by
  have hp := rootAt_period h
  have hd : s.length % n = 0 := by
    unfold rootAt at h
    simp only [Bool.and_eq_true, decide_eq_true_eq] at h
    exact h.1
  intro i
  rcases Nat.eq_zero_or_pos s.length with h0 | h0
  · have : s = [] := List.eq_nil_of_length_eq_zero h0
    subst this
    simp
  · have hr := Nat.mod_lt i h0
    have hs : (i + n) % s.length = (i % s.length + n) % s.length := by rw [Nat.mod_add_mod]
    obtain ⟨r, hri⟩ : ∃ r, i % s.length = r := ⟨_, rfl⟩
    rw [hs, hri]
    rw [hri] at hr
    by_cases hlt : r + n < s.length
    · rw [Nat.mod_eq_of_lt hlt, hp r hlt]
    · obtain ⟨q, hq⟩ : ∃ q, s.length = n * q := ⟨s.length / n, by rw [Nat.mul_div_cancel' (Nat.dvd_of_mod_eq_zero hd)]⟩
      have hq1 : 1 ≤ q := by
        rcases Nat.eq_zero_or_pos q with h | h
        · subst h; omega
        · exact h
      obtain ⟨p, rfl⟩ : ∃ p, q = p + 1 := ⟨q - 1, by omega⟩
      have hqs : s.length = p * n + n := by rw [hq, Nat.mul_succ, Nat.mul_comm]
      have hnle : n ≤ s.length := by omega
      have hm : (r + n) % s.length = r + n - s.length := by
        rw [Nat.mod_eq_sub_mod (by omega), Nat.mod_eq_of_lt (by omega)]
      rw [hm]
      have hx : r + n - s.length + p * n = r := by omega
      have := period_up hp (r + n - s.length) p (by omega)
      rw [hx] at this
      exact this.symm

theorem turns_rootAt {s : List UInt8} {n : Nat} (hd : s.length % n = 0) (hn : n ≤ s.length) (h : Turns s n) : rootAt s n = true := by
  unfold rootAt
  simp only [hd, Bool.and_eq_true, decide_eq_true_eq, beq_iff_eq, true_and]
  refine List.ext_getElem? fun i => ?_
  rw [List.getElem?_drop, List.getElem?_take]
  by_cases hi : i < s.length - n
  · rw [if_pos hi]
    have := h i
    rw [Nat.mod_eq_of_lt (by omega), Nat.mod_eq_of_lt (by omega)] at this
    rw [Nat.add_comm]; exact this
  · rw [if_neg hi]
    exact List.getElem?_eq_none (by omega)

theorem commute_turns {u w : List UInt8} (h : u ++ w = w ++ u) : Turns (u ++ w) u.length := by
  intro i
  obtain ⟨N, hN⟩ : ∃ N, (u ++ w).length = N := ⟨_, rfl⟩
  have hl : u.length + w.length = N := by rw [← hN, List.length_append]
  rw [hN]
  rcases Nat.eq_zero_or_pos N with h0 | h0
  · have hu : u.length = 0 := by omega
    rw [hu, Nat.add_zero]
  · have hr := Nat.mod_lt i h0
    have hs : (i + u.length) % N = (i % N + u.length) % N := by rw [Nat.mod_add_mod]
    obtain ⟨r, hri⟩ : ∃ r, i % N = r := ⟨_, rfl⟩
    rw [hs, hri]
    rw [hri] at hr
    by_cases hlt : r + u.length < N
    · rw [Nat.mod_eq_of_lt hlt, List.getElem?_append_right (by omega), h, List.getElem?_append_left (by omega)]
      congr 1; omega
    · have hm : (r + u.length) % N = r + u.length - N := by
        rw [Nat.mod_eq_sub_mod (by omega), Nat.mod_eq_of_lt (by omega)]
      rw [hm, List.getElem?_append_left (by omega), h, List.getElem?_append_right (by omega)]
      congr 1; omega

theorem rootLen_turns {s : List UInt8} (h : 0 < s.length) : s.length % rootLen s = 0 ∧ Turns s (rootLen s) := by
  obtain ⟨h1, h2, h3, _⟩ := rootLen_spec s h
  rcases h3 with h3 | h3
  · rw [h3]; exact ⟨Nat.mod_self _, turns_len s⟩
  · refine ⟨?_, rootAt_turns h1 h3⟩
    have h4 := h3
    unfold rootAt at h4
    simp only [Bool.and_eq_true, decide_eq_true_eq] at h4
    exact h4.1

theorem rootLen_dvd {s : List UInt8} (h : 0 < s.length) {k : Nat} (hk : Turns s k) : rootLen s ∣ k := by
  obtain ⟨h1, h2, _, h4⟩ := rootLen_spec s h
  obtain ⟨hd, ht⟩ := rootLen_turns h
  have hg := turns_gcd s (rootLen s) k ht hk
  have hgd : Nat.gcd (rootLen s) k ∣ rootLen s := Nat.gcd_dvd_left _ _
  have hg1 : 1 ≤ Nat.gcd (rootLen s) k := Nat.gcd_pos_of_pos_left _ (by omega)
  have hgle : Nat.gcd (rootLen s) k ≤ rootLen s := Nat.le_of_dvd (by omega) hgd
  have hgs : s.length % Nat.gcd (rootLen s) k = 0 := Nat.mod_eq_zero_of_dvd (Nat.dvd_trans hgd (Nat.dvd_of_mod_eq_zero hd))
  have hra := turns_rootAt hgs (by omega) hg
  rcases Nat.lt_or_ge (Nat.gcd (rootLen s) k) (rootLen s) with hlt | hge
  · rw [h4 _ hg1 hlt] at hra; cases hra
  · have : Nat.gcd (rootLen s) k = rootLen s := by omega
    rw [← this]; exact Nat.gcd_dvd_right _ _

theorem rootLen_power {s : List UInt8} (h : 0 < s.length) : Lib.repeatL (s.take (rootLen s)) (s.length / rootLen s) = s := by
  obtain ⟨h1, h2, h3, _⟩ := rootLen_spec s h
  obtain ⟨hd, _⟩ := rootLen_turns h
  rcases Nat.lt_or_ge (rootLen s) s.length with hlt | hge
  · have := repeat_iff s (rootLen s) h1 hlt hd
    rcases h3 with h3 | h3
    · omega
    · rw [h3] at this; simpa using this
  · have e : rootLen s = s.length := by omega
    rw [e, Nat.div_self h, List.take_length]
    exact Lib.repeatL_one s

theorem commute_roots {u w : List UInt8} (h : u ++ w = w ++ u) (h0 : 0 < (u ++ w).length) :
    Lib.repeatL ((u ++ w).take (rootLen (u ++ w))) (u.length / rootLen (u ++ w)) = u ∧
    Lib.repeatL ((u ++ w).take (rootLen (u ++ w))) (w.length / rootLen (u ++ w)) = w ∧
    u.length / rootLen (u ++ w) + w.length / rootLen (u ++ w) = (u ++ w).length / rootLen (u ++ w) := by
  obtain ⟨h1, h2, _, _⟩ := rootLen_spec (u ++ w) h0
  have hdu := rootLen_dvd h0 (commute_turns h)
  have hds := Nat.dvd_of_mod_eq_zero (rootLen_turns h0).1
  have hp := rootLen_power h0
  obtain ⟨n, hn⟩ : ∃ n, rootLen (u ++ w) = n := ⟨_, rfl⟩
  rw [hn] at h1 h2 hdu hds hp ⊢
  obtain ⟨a, ha⟩ := hdu
  obtain ⟨c, hc⟩ := hds
  have hl : u.length + w.length = (u ++ w).length := by simp
  have hac : a ≤ c := by
    have : n * a ≤ n * c := by omega
    exact Nat.le_of_mul_le_mul_left this (by omega)
  have hw : w.length = n * (c - a) := by rw [Nat.mul_sub]; omega
  have ea : u.length / n = a := by rw [ha, Nat.mul_div_cancel_left _ (by omega)]
  have ec : (u ++ w).length / n = c := by rw [hc, Nat.mul_div_cancel_left _ (by omega)]
  have eb : w.length / n = c - a := by rw [hw, Nat.mul_div_cancel_left _ (by omega)]
  rw [ec] at hp
  rw [ea, eb, ec]
  obtain ⟨r, hr⟩ : ∃ r, (u ++ w).take n = r := ⟨_, rfl⟩
  have hrl : r.length = n := by rw [← hr, List.length_take]; omega
  rw [hr] at hp ⊢
  have hadd := Lib.repeatL_add r a (c - a)
  rw [show a + (c - a) = c from by omega, hp] at hadd
  have hul : u.length = (Lib.repeatL r a).length := by rw [Lib.repeatL_length, hrl, ha, Nat.mul_comm]
  have := List.append_inj hadd hul
  exact ⟨this.1.symm, this.2.symm, by omega⟩

theorem rootLen_root {s : List UInt8} (h : 0 < s.length) : rootLen (s.take (rootLen s)) = rootLen s := by
  obtain ⟨h1, h2, _, h4⟩ := rootLen_spec s h
  obtain ⟨hd, ht⟩ := rootLen_turns h
  have hp := rootAt_turns (s := s) (n := rootLen s) h1 (turns_rootAt hd h2 ht)
  have hrl : (s.take (rootLen s)).length = rootLen s := by rw [List.length_take]; omega
  have hq := rootLen_turns (s := s.take (rootLen s)) (by omega)
  obtain ⟨k1, k2, _, _⟩ := rootLen_spec (s.take (rootLen s)) (by omega)
  rw [hrl] at hq k2
  rcases Nat.lt_or_ge (rootLen (s.take (rootLen s))) (rootLen s) with hlt | hge
  · exfalso
    obtain ⟨m, hm⟩ : ∃ m, rootLen (s.take (rootLen s)) = m := ⟨_, rfl⟩
    obtain ⟨n, hn⟩ : ∃ n, rootLen s = n := ⟨_, rfl⟩
    rw [hm] at hq k1 k2 hlt
    rw [hn] at hq k2 hlt h1 h2 h4 hd hp hrl
    have hmn : m ∣ n := Nat.dvd_of_mod_eq_zero hq.1
    have hms : s.length % m = 0 := Nat.mod_eq_zero_of_dvd (Nat.dvd_trans hmn (Nat.dvd_of_mod_eq_zero hd))
    -- s turned by m: through the place within the root
    have key : ∀ j, j < s.length → s[j]? = (s.take n)[j % n]? := by
      intro j hj
      have hx := turns_mul hp (j / n) (j % n)
      rw [Nat.mod_add_div, Nat.mod_eq_of_lt hj] at hx
      have hjn := Nat.mod_lt j (show 0 < n by omega)
      rw [hx, Nat.mod_eq_of_lt (by omega), List.getElem?_take, if_pos hjn]
    have hsn : s.length % n = 0 := hd
    have htm : Turns s m := by
      intro i
      have hN : 0 < s.length := h
      have a1 := Nat.mod_lt (i + m) hN
      have a2 := Nat.mod_lt i hN
      rw [key _ a1, key _ a2]
      have e1 : (i + m) % s.length % n = (i + m) % n := Nat.mod_mod_of_dvd _ (Nat.dvd_of_mod_eq_zero hsn)
      have e2 : i % s.length % n = i % n := Nat.mod_mod_of_dvd _ (Nat.dvd_of_mod_eq_zero hsn)
      rw [e1, e2]
      have := hq.2 i
      rw [hrl] at this
      exact this
    have := turns_rootAt hms (by omega) htm
    rw [h4 m k1 hlt] at this
    cases this
  · omega

end Go.Proofs.Ythomkmbobaehkaa.Wd
