/-
  Plain words on powers of a root with a tail: the model's way and the program's way to ask for them are one. No Go in sight.
-/
import Derived.Test.YtpjidcfdcpjafaaWords
import Derived.Lib.Strings
namespace Go.Proofs.Ytpjidcfdcpjafaa.Wd
set_option linter.unusedVariables false

/-- The first n letters of a word said again and again. -/
def startL (r : List UInt8) (n : Nat) : List UInt8 := (List.range n).map fun i => r.getD (i % r.length) 0

theorem startL_length (r : List UInt8) (n : Nat) : (startL r n).length = n := by simp [startL]
theorem startL_succ (r : List UInt8) (n : Nat) : startL r (n + 1) = startL r n ++ [r.getD (n % r.length) 0] := by simp [startL, List.range_succ]

theorem startL_small (r : List UInt8) (n : Nat) (h : n ≤ r.length) : startL r n = r.take n := by
  apply List.ext_getElem
  · simp [startL_length]; omega
  · intro i h1 h2
    rw [startL_length] at h1
    simp only [startL, List.getElem_map, List.getElem_range, List.getElem_take]
    rw [Nat.mod_eq_of_lt (by omega), List.getD_eq_getElem?_getD, List.getElem?_eq_getElem (by omega)]
    rfl

theorem startL_more (r : List UInt8) (n : Nat) (h0 : 0 < r.length) : startL r (r.length + n) = r ++ startL r n := by
  apply List.ext_getElem
  · simp [startL_length]
  · intro i h1 h2
    rw [startL_length] at h1
    by_cases hi : i < r.length
    · rw [List.getElem_append_left hi]
      simp only [startL, List.getElem_map, List.getElem_range]
      rw [Nat.mod_eq_of_lt hi, List.getD_eq_getElem?_getD, List.getElem?_eq_getElem hi]
      rfl
    · rw [List.getElem_append_right (by omega)]
      simp only [startL, List.getElem_map, List.getElem_range]
      rw [Nat.mod_eq_sub_mod (by omega)]

theorem startL_power (r : List UInt8) (h0 : 0 < r.length) (n : Nat) (h : n ≤ r.length) : ∀ k, startL r (k * r.length + n) = Lib.repeatL r k ++ r.take n
  | 0 => by rw [Nat.zero_mul, Nat.zero_add, startL_small r n h]; rfl
  | k + 1 => by
    rw [show (k + 1) * r.length + n = r.length + (k * r.length + n) by rw [Nat.succ_mul]; omega, startL_more _ _ h0, startL_power r h0 n h k]
    simp [Lib.repeatL]

/-- The program's question: the tail stands at the end, in front of it the root just so often. -/
def hasL (r t w : List UInt8) (c : Int) : Bool :=
  t.isSuffixOf w && (decide (c ≤ (((w.length - t.length) / r.length : Nat) : Int)) && decide (w.take (w.length - t.length) = Lib.repeatL r ((w.length - t.length) / r.length)))
/-- The model's question. -/
def inL (r t w : List UInt8) (c : Int) : Bool :=
  decide (t.length ≤ w.length) && (decide ((w.length - t.length) % r.length = 0) && (decide (c ≤ (((w.length - t.length) / r.length : Nat) : Int)) && decide (w = startL r w.length)))

theorem repeatL_len (r : List UInt8) (k : Nat) : (Lib.repeatL r k).length = k * r.length := Lib.repeatL_length r k

theorem has_in (r t w : List UInt8) (c : Int) (h0 : 0 < r.length) (ht : t.length < r.length) (hp : t = r.take t.length) : inL r t w c = hasL r t w c := by
  have key : (t.length ≤ w.length ∧ (w.length - t.length) % r.length = 0 ∧ w = startL r w.length) ↔ (t <:+ w ∧ w.take (w.length - t.length) = Lib.repeatL r ((w.length - t.length) / r.length)) := by
    constructor
    · rintro ⟨h1, h2, h3⟩
      have hl : w.length = (w.length - t.length) / r.length * r.length + t.length := by
        have h4 := Nat.div_add_mod (w.length - t.length) r.length
        have h5 : (w.length - t.length) / r.length * r.length = r.length * ((w.length - t.length) / r.length) := Nat.mul_comm _ _
        omega
      obtain ⟨k, hk⟩ : ∃ k, (w.length - t.length) / r.length = k := ⟨_, rfl⟩
      rw [hk] at hl ⊢
      have hw : w = Lib.repeatL r k ++ t := by
        rw [h3, hl, startL_power r h0 _ (by omega), ← hp]
      have hrl : (Lib.repeatL r k).length = w.length - t.length := by rw [repeatL_len]; omega
      refine ⟨⟨Lib.repeatL r k, hw.symm⟩, ?_⟩
      rw [← hrl]
      conv => lhs; rw [hw]
      exact List.take_left
    · rintro ⟨⟨p, hpw⟩, h2⟩
      have hlen : w.length = p.length + t.length := by rw [← hpw, List.length_append]
      have hwt : w.length - t.length = p.length := by omega
      rw [hwt] at h2 ⊢
      have hp2 : p = Lib.repeatL r (p.length / r.length) := by
        rw [← h2, ← hpw]; simp
      have hpl : p.length = p.length / r.length * r.length := by
        have := congrArg List.length hp2
        rw [repeatL_len] at this
        exact this
      refine ⟨by omega, ?_, ?_⟩
      · have h4 := Nat.div_add_mod p.length r.length
        have h5 : p.length / r.length * r.length = r.length * (p.length / r.length) := Nat.mul_comm _ _
        omega
      · rw [hlen]
        conv => rhs; rw [hpl]
        rw [startL_power r h0 _ (by omega), ← hp, ← hp2, hpw]
  unfold inL hasL
  rw [Bool.eq_iff_iff]
  simp only [Bool.and_eq_true, decide_eq_true_eq, List.isSuffixOf_iff_suffix]
  constructor
  · rintro ⟨h1, h2, h3, h4⟩
    obtain ⟨k1, k2⟩ := key.1 ⟨h1, h2, h4⟩
    exact ⟨k1, h3, k2⟩
  · rintro ⟨h1, h2, h3⟩
    obtain ⟨k1, k2, k3⟩ := key.2 ⟨h1, h3⟩
    exact ⟨k1, k2, h2, k3⟩

/-- For all numbers below n. -/
def allN (n : Nat) (f : Nat → Bool) : Bool := (List.range n).all f
theorem allN_zero (f : Nat → Bool) : allN 0 f = true := rfl
theorem allN_succ (n : Nat) (f : Nat → Bool) : allN (n + 1) f = (allN n f && f n) := by
  unfold allN
  rw [List.range_succ, List.all_append]
  simp
theorem allN_false {n : Nat} {f : Nat → Bool} (k : Nat) (hk : k < n) (hf : f k = false) : allN n f = false := by
  unfold allN
  rw [List.all_eq_false]
  exact ⟨k, List.mem_range.2 hk, by simp [hf]⟩
theorem allN_true {n : Nat} {f : Nat → Bool} (h : allN n f = true) (k : Nat) (hk : k < n) : f k = true := by
  unfold allN at h
  rw [List.all_eq_true] at h
  exact h k (List.mem_range.2 hk)
theorem allN_and (n : Nat) (f g : Nat → Bool) : allN n (fun i => f i && g i) = (allN n f && allN n g) := by
  induction n with
  | zero => rfl
  | succ n ih => rw [allN_succ, allN_succ, allN_succ, ih]; cases allN n f <;> cases allN n g <;> cases f n <;> cases g n <;> rfl

end Go.Proofs.Ytpjidcfdcpjafaa.Wd
