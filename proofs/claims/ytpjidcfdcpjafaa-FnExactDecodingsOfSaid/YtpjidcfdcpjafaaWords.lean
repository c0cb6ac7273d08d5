/-
  Plain words on lists of bytes: what a letter, a word, a term and the root of a word are. No Go in sight, no condition.
-/
import Derived.Lib.Repeat
import Derived.Lib.IndexLaws
namespace Go.Proofs.Ytpjidcfdcpjafaa.Wd

def isL (c : UInt8) : Bool := decide (97 ≤ c.toNat) && decide (c.toNat ≤ 100)
def isU (c : UInt8) : Bool := c == 88 || c == 89 || c == 90 || c == 87
def wordB (l : List UInt8) : Bool := decide (l.length ≤ 60) && l.all isL
def termB (l : List UInt8) : Bool := decide (l.length ≤ 24) && l.all (fun c => isL c || isU c)

theorem wordB_len {l : List UInt8} (h : wordB l = true) : l.length ≤ 60 := by
  unfold wordB at h; simp at h; exact h.1
theorem termB_len {l : List UInt8} (h : termB l = true) : l.length ≤ 24 := by
  unfold termB at h; simp at h; exact h.1

/-- The first n letters, taken again and again, are the whole. -/
def rootAt (l : List UInt8) (n : Nat) : Bool := decide (l.length % n = 0) && (l.drop n == l.take (l.length - n))

/-- The least length from 1 on at which it is so; the whole length where there is none below. -/
def rootLen (l : List UInt8) : Nat := ((List.range' 1 (l.length - 1)).find? (rootAt l)).getD l.length

theorem rootLen_at (l : List UInt8) (n : Nat) (h1 : 1 ≤ n) (hn : n < l.length) (hr : rootAt l n = true)
    (hm : ∀ m, 1 ≤ m → m < n → rootAt l m = false) : rootLen l = n := by
  unfold rootLen
  have : (List.range' 1 (l.length - 1)).find? (rootAt l) = some n := by
    rw [List.find?_range'_eq_some]
    refine ⟨hr, by simp; omega, ?_⟩
    intro j hj hlt
    simp [hm j hj hlt]
  simp [this]

theorem rootLen_none (l : List UInt8) (hm : ∀ m, 1 ≤ m → m < l.length → rootAt l m = false) : rootLen l = l.length := by
  unfold rootLen
  have : (List.range' 1 (l.length - 1)).find? (rootAt l) = none := by
    rw [List.find?_range'_eq_none]
    intro i hi hlt
    simp [hm i hi (by omega)]
  simp [this]

theorem rootLen_spec (l : List UInt8) (h : 0 < l.length) :
    1 ≤ rootLen l ∧ rootLen l ≤ l.length ∧ (rootLen l = l.length ∨ rootAt l (rootLen l) = true) ∧ ∀ m, 1 ≤ m → m < rootLen l → rootAt l m = false := by
  unfold rootLen
  cases hf : (List.range' 1 (l.length - 1)).find? (rootAt l) with
  | none =>
    rw [List.find?_range'_eq_none] at hf
    refine ⟨by simp; omega, by simp, Or.inl (by simp), ?_⟩
    intro m h1 h2
    simp at h2
    have := hf m h1 (by omega)
    simpa using this
  | some n =>
    rw [List.find?_range'_eq_some] at hf
    obtain ⟨ha, hb, hc⟩ := hf
    simp at hb
    refine ⟨by simp; omega, by simp; omega, Or.inr (by simpa using ha), ?_⟩
    intro m h1 h2
    simp at h2
    have := hc m h1 h2
    simpa using this


theorem repeatL_root (n : Nat) (hn : 0 < n) : ∀ (c : Nat) (l : List UInt8), l.length = (c + 1) * n →
    (Lib.repeatL (l.take n) (c + 1) = l ↔ l.drop n = l.take (l.length - n))
  | 0, l, h => by
    have h1 : l.length = n := by omega
    have e1 : l.take n = l := List.take_of_length_le (by omega)
    have e2 : l.drop n = [] := List.drop_eq_nil_of_le (by omega)
    rw [e1, e2, h1]
    simp [Lib.repeatL]
  | c + 1, l, h => by
    have hm : (c + 1 + 1) * n = (c + 1) * n + n := Nat.succ_mul _ _
    have hmn : n ≤ (c + 1) * n := Nat.le_mul_of_pos_left n (by omega)
    have hl' : (l.drop n).length = (c + 1) * n := by rw [List.length_drop]; omega
    have e0 : Lib.repeatL (l.take n) (c + 1 + 1) = l.take n ++ Lib.repeatL (l.take n) (c + 1) := rfl
    constructor
    · intro hr
      have h2 : Lib.repeatL (l.take n) (c + 1) = l.drop n := by
        have : l.take n ++ Lib.repeatL (l.take n) (c + 1) = l.take n ++ l.drop n := by rw [← e0, hr, List.take_append_drop]
        exact List.append_cancel_left this
      have h3 := Lib.repeatL_take (l.take n) (c + 1 + 1) (c + 1) (by omega)
      rw [hr, h2] at h3
      rw [← h3]
      congr 1
      rw [List.length_take]
      rw [Nat.min_eq_left (by omega)]
      omega
    · intro hd
      have ht : (l.drop n).take n = l.take n := by
        rw [hd, List.take_take, Nat.min_eq_left (by omega)]
      have hd2 : (l.drop n).drop n = (l.drop n).take ((l.drop n).length - n) := by
        have e1 : (l.drop n).drop n = (l.take (l.length - n)).drop n := congrArg (List.drop n) hd
        rw [e1, List.drop_take, hl']
        congr 1
        omega
      have ih := (repeatL_root n hn c (l.drop n) hl').2 hd2
      rw [e0, ← ht, ih, ht, List.take_append_drop]

theorem repeat_iff (l : List UInt8) (n : Nat) (h1 : 1 ≤ n) (hn : n < l.length) (hm : l.length % n = 0) :
    (Lib.repeatL (l.take n) (l.length / n) == l) = rootAt l n := by
  have hd : l.length / n * n = l.length := Nat.div_mul_cancel (Nat.dvd_of_mod_eq_zero hm)
  obtain ⟨c, hc⟩ : ∃ c, l.length / n = c + 1 := by
    refine ⟨l.length / n - 1, ?_⟩
    have : 0 < l.length / n := Nat.div_pos (by omega) (by omega)
    omega
  have h := repeatL_root n (by omega) c l (by rw [← hc, hd])
  unfold rootAt
  rw [hc, Bool.eq_iff_iff]
  simp [hm, h]

theorem indexByte_neg (l : List UInt8) (c : UInt8) : decide (Lib.indexByte l c < 0) = !(l.contains c) := by
  rw [Bool.eq_iff_iff]
  simp only [decide_eq_true_eq, Bool.not_eq_true', List.contains_eq_mem, decide_eq_false_iff_not]
  have hge := Lib.indexByte_ge l c
  constructor
  · intro h hm
    have h1 : Lib.indexByte l c = -1 := by omega
    obtain ⟨k, hk, he⟩ := List.getElem_of_mem hm
    exact Lib.indexByte_none h1 k (by rw [List.getElem?_eq_getElem hk, he])
  · intro h
    rcases (show Lib.indexByte l c < 0 ∨ 0 ≤ Lib.indexByte l c by omega) with hlt | hle
    · exact hlt
    · exfalso
      obtain ⟨o, ho⟩ := Int.eq_ofNat_of_zero_le hle
      have := (Lib.indexByte_some ho).1
      exact h (List.mem_of_getElem? this)

/-- A text of at most so many bytes, all of them among some signs. -/
def madeB (t s : List UInt8) (most : Int) : Bool := decide ((t.length : Int) ≤ most) && t.all (fun c => s.contains c)

theorem madeB_word (t : List UInt8) : madeB t [97, 98, 99, 100] 60 = wordB t := by
  unfold madeB wordB
  congr 1
  · rw [Bool.eq_iff_iff]; simp; omega
  · refine congrArg (fun f => t.all f) (funext fun c => ?_)
    unfold isL
    rw [Bool.eq_iff_iff]
    simp [← UInt8.toNat_inj]
    omega

theorem madeB_term (t : List UInt8) : madeB t [97, 98, 99, 100, 88, 89, 90, 87] 24 = termB t := by
  unfold madeB termB
  congr 1
  · rw [Bool.eq_iff_iff]; simp; omega
  · refine congrArg (fun f => t.all f) (funext fun c => ?_)
    unfold isL isU
    rw [Bool.eq_iff_iff]
    simp [← UInt8.toNat_inj]
    omega

end Go.Proofs.Ytpjidcfdcpjafaa.Wd
