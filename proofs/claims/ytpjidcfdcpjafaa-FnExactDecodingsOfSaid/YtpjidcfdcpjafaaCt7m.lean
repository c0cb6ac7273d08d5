/-
  How many ways there are to divide a word into words of a list: by the first word, or by the last one. No Go in sight.
-/
import Derived.Test.YtpjidcfdcpjafaaWords
import Derived.Lib.Strings
namespace Go.Proofs.Ytpjidcfdcpjafaa.Wd
set_option linter.unusedVariables false

/-- By the first word. -/
def fcN (xs : List (List UInt8)) : Nat → List UInt8 → Nat
  | 0, l => if l = [] then 1 else 0
  | n + 1, l => if l = [] then 1 else (xs.map fun x => if x.isPrefixOf l then fcN xs n (l.drop x.length) else 0).sum
/-- By the last word. -/
def lcN (xs : List (List UInt8)) : Nat → List UInt8 → Nat
  | 0, l => if l = [] then 1 else 0
  | n + 1, l => if l = [] then 1 else (xs.map fun x => if x.isSuffixOf l then lcN xs n (l.take (l.length - x.length)) else 0).sum
def fc (xs : List (List UInt8)) (l : List UInt8) : Nat := fcN xs l.length l
def lc (xs : List (List UInt8)) (l : List UInt8) : Nat := lcN xs l.length l
/-- No word of the list is empty. -/
def NoE (xs : List (List UInt8)) : Prop := ∀ x ∈ xs, 1 ≤ x.length

theorem sum_congr {α : Type} {f g : α → Nat} : ∀ {xs : List α}, (∀ x ∈ xs, f x = g x) → (xs.map f).sum = (xs.map g).sum
  | [], _ => rfl
  | x :: xs, h => by
    rw [List.map_cons, List.map_cons, List.sum_cons, List.sum_cons, h x (by simp), sum_congr (fun y hy => h y (by simp [hy]))]
theorem sum_add {α : Type} (f g : α → Nat) : ∀ xs : List α, (xs.map fun x => f x + g x).sum = (xs.map f).sum + (xs.map g).sum
  | [] => rfl
  | x :: xs => by
    rw [List.map_cons, List.map_cons, List.map_cons, List.sum_cons, List.sum_cons, List.sum_cons, sum_add f g xs]
    omega
theorem sum_zero {α : Type} : ∀ xs : List α, (xs.map fun _ => 0).sum = 0
  | [] => rfl
  | x :: xs => by rw [List.map_cons, List.sum_cons, sum_zero xs]
theorem sum_swap {α β : Type} (a : α → β → Nat) (ys : List β) : ∀ xs : List α, (xs.map fun x => (ys.map fun y => a x y).sum).sum = (ys.map fun y => (xs.map fun x => a x y).sum).sum
  | [] => by rw [List.map_nil, List.sum_nil]; exact (sum_zero ys).symm
  | x :: xs => by
    rw [List.map_cons, List.sum_cons, sum_swap a ys xs, ← sum_add]
    exact sum_congr fun y _ => by rw [List.map_cons, List.sum_cons]
theorem fcN_more {xs : List (List UInt8)} (hx : NoE xs) : ∀ (n m : Nat) (l : List UInt8), l.length ≤ n → l.length ≤ m → fcN xs n l = fcN xs m l
  | 0, m, l, h1, h2 => by
    obtain rfl : l = [] := List.eq_nil_of_length_eq_zero (by omega)
    cases m <;> simp [fcN]
  | n + 1, 0, l, h1, h2 => by
    obtain rfl : l = [] := List.eq_nil_of_length_eq_zero (by omega)
    simp [fcN]
  | n + 1, m + 1, l, h1, h2 => by
    unfold fcN
    by_cases hl : l = []
    · rw [if_pos hl, if_pos hl]
    · rw [if_neg hl, if_neg hl]
      refine sum_congr fun x hxm => ?_
      have := hx x hxm
      have hll : 0 < l.length := List.length_pos_iff.2 hl
      rw [fcN_more hx n m _ (by rw [List.length_drop]; omega) (by rw [List.length_drop]; omega)]
theorem lcN_more {xs : List (List UInt8)} (hx : NoE xs) : ∀ (n m : Nat) (l : List UInt8), l.length ≤ n → l.length ≤ m → lcN xs n l = lcN xs m l
  | 0, m, l, h1, h2 => by
    obtain rfl : l = [] := List.eq_nil_of_length_eq_zero (by omega)
    cases m <;> simp [lcN]
  | n + 1, 0, l, h1, h2 => by
    obtain rfl : l = [] := List.eq_nil_of_length_eq_zero (by omega)
    simp [lcN]
  | n + 1, m + 1, l, h1, h2 => by
    unfold lcN
    by_cases hl : l = []
    · rw [if_pos hl, if_pos hl]
    · rw [if_neg hl, if_neg hl]
      refine sum_congr fun x hxm => ?_
      have := hx x hxm
      have hll : 0 < l.length := List.length_pos_iff.2 hl
      rw [lcN_more hx n m _ (by rw [List.length_take]; omega) (by rw [List.length_take]; omega)]
theorem fc_nil (xs : List (List UInt8)) : fc xs [] = 1 := by simp [fc, fcN]
theorem lc_nil (xs : List (List UInt8)) : lc xs [] = 1 := by simp [lc, lcN]
theorem fc_step {xs : List (List UInt8)} (hx : NoE xs) {l : List UInt8} (hl : l ≠ []) : fc xs l = (xs.map fun x => if x.isPrefixOf l then fc xs (l.drop x.length) else 0).sum := by
  have hll : 0 < l.length := List.length_pos_iff.2 hl
  obtain ⟨n, hn⟩ : ∃ n, l.length = n + 1 := ⟨l.length - 1, by omega⟩
  have e : fc xs l = fcN xs (n + 1) l := by unfold fc; rw [hn]
  rw [e, fcN, if_neg hl]
  refine sum_congr fun x hxm => ?_
  have := hx x hxm
  unfold fc
  rw [fcN_more hx n _ _ (by rw [List.length_drop]; omega) (Nat.le_refl _)]
theorem lc_step {xs : List (List UInt8)} (hx : NoE xs) {l : List UInt8} (hl : l ≠ []) : lc xs l = (xs.map fun x => if x.isSuffixOf l then lc xs (l.take (l.length - x.length)) else 0).sum := by
  have hll : 0 < l.length := List.length_pos_iff.2 hl
  obtain ⟨n, hn⟩ : ∃ n, l.length = n + 1 := ⟨l.length - 1, by omega⟩
  have e : lc xs l = lcN xs (n + 1) l := by unfold lc; rw [hn]
  rw [e, lcN, if_neg hl]
  refine sum_congr fun x hxm => ?_
  have := hx x hxm
  unfold lc
  rw [lcN_more hx n _ _ (by rw [List.length_take]; omega) (Nat.le_refl _)]

theorem suf_drop {y l : List UInt8} {k : Nat} (hk : k + y.length ≤ l.length) : y.isSuffixOf (l.drop k) = y.isSuffixOf l := by
  rw [Bool.eq_iff_iff, List.isSuffixOf_iff_suffix, List.isSuffixOf_iff_suffix]
  constructor
  · intro h; exact h.trans (List.drop_suffix _ _)
  · intro h
    rw [List.suffix_iff_eq_drop] at h ⊢
    rw [List.length_drop, List.drop_drop]
    have e : k + (l.length - k - y.length) = l.length - y.length := by omega
    rw [e]
    exact h
theorem pre_take {x l : List UInt8} {k : Nat} (hk : x.length ≤ k) : x.isPrefixOf (l.take k) = x.isPrefixOf l := by
  rw [Bool.eq_iff_iff, List.isPrefixOf_iff_prefix, List.isPrefixOf_iff_prefix]
  constructor
  · intro h; exact h.trans (List.take_prefix _ _)
  · intro h
    rw [List.prefix_iff_eq_take] at h ⊢
    rw [List.take_take, Nat.min_eq_left hk]
    exact h
/-- What is between a first and a last word. -/
def mid (l : List UInt8) (a b : Nat) : List UInt8 := (l.drop a).take (l.length - a - b)
def both (xs : List (List UInt8)) (l x y : List UInt8) : Nat := if x.isPrefixOf l then (if y.isSuffixOf l then (if x.length + y.length ≤ l.length then fc xs (mid l x.length y.length) else 0) else 0) else 0
def whole (l x : List UInt8) : Nat := if x = l then 1 else 0
theorem pre_whole {x l : List UInt8} (h : x.isPrefixOf l = true) (hl : l.length ≤ x.length) : x = l := by
  rw [List.isPrefixOf_iff_prefix] at h
  exact h.eq_of_length_le hl
theorem suf_whole {x l : List UInt8} (h : x.isSuffixOf l = true) (hl : l.length ≤ x.length) : x = l := by
  rw [List.isSuffixOf_iff_suffix] at h
  exact h.eq_of_length_le hl
theorem pre_len {x l : List UInt8} (h : x.isPrefixOf l = true) : x.length ≤ l.length := by
  rw [List.isPrefixOf_iff_prefix] at h
  exact h.length_le
theorem suf_len {x l : List UInt8} (h : x.isSuffixOf l = true) : x.length ≤ l.length := by
  rw [List.isSuffixOf_iff_suffix] at h
  exact h.length_le

theorem fc_lc {xs : List (List UInt8)} (hx : NoE xs) : ∀ (n : Nat) (l : List UInt8), l.length ≤ n → fc xs l = lc xs l
  | 0, l, h => by
    obtain rfl : l = [] := List.eq_nil_of_length_eq_zero (by omega)
    rw [fc_nil, lc_nil]
  | n + 1, l, h => by
    by_cases hl : l = []
    · subst hl; rw [fc_nil, lc_nil]
    have hll : 0 < l.length := List.length_pos_iff.2 hl
    have e1 : fc xs l = (xs.map fun x => whole l x + (xs.map fun y => both xs l x y).sum).sum := by
      rw [fc_step hx hl]
      refine sum_congr fun x hxm => ?_
      have hx1 := hx x hxm
      by_cases hp : x.isPrefixOf l = true
      · have hpl := pre_len hp
        rw [if_pos hp]
        by_cases hw : x = l
        · subst hw
          rw [List.drop_length, fc_nil]
          unfold whole
          rw [if_pos rfl]
          have : (xs.map fun y => both xs x x y).sum = 0 := by
            rw [← sum_zero xs]
            refine sum_congr fun y hy => ?_
            have := hx y hy
            unfold both
            rw [if_pos hp, if_neg (show ¬ x.length + y.length ≤ x.length by omega)]
            split <;> rfl
          rw [this]
        · have hlt : x.length < l.length := by
            rcases Nat.lt_or_ge x.length l.length with h2 | h2
            · exact h2
            · exact absurd (pre_whole hp h2) hw
          have hne : l.drop x.length ≠ [] := by
            intro hh
            have := congrArg List.length hh
            rw [List.length_drop] at this
            simp at this; omega
          rw [fc_lc hx n (l.drop x.length) (by rw [List.length_drop]; omega), lc_step hx hne]
          unfold whole
          rw [if_neg hw, Nat.zero_add]
          refine sum_congr fun y hy => ?_
          have hy1 := hx y hy
          unfold both
          rw [if_pos hp]
          by_cases hs : x.length + y.length ≤ l.length
          · rw [suf_drop hs, if_pos hs]
            split
            · rw [List.length_drop]
              unfold mid
              rw [fc_lc hx n _ (by rw [List.length_take, List.length_drop]; omega)]
            · rfl
          · have : y.isSuffixOf (l.drop x.length) = false := by
              rw [Bool.eq_false_iff]
              intro hh
              have := suf_len hh
              rw [List.length_drop] at this
              omega
            rw [this, if_neg hs]
            simp
      · have hpf : x.isPrefixOf l = false := Bool.eq_false_iff.mpr hp
        rw [hpf]
        unfold whole
        have hw : x ≠ l := by
          rintro rfl
          rw [Bool.eq_false_iff, Ne, List.isPrefixOf_iff_prefix] at hpf
          exact hpf (List.prefix_refl _)
        rw [if_neg hw]
        have : (xs.map fun y => both xs l x y).sum = 0 := by
          rw [← sum_zero xs]
          exact sum_congr fun y hy => by unfold both; rw [hpf]; rfl
        rw [this]
        rfl
    have e2 : lc xs l = (xs.map fun y => whole l y + (xs.map fun x => both xs l x y).sum).sum := by
      rw [lc_step hx hl]
      refine sum_congr fun y hym => ?_
      have hy1 := hx y hym
      by_cases hp : y.isSuffixOf l = true
      · have hpl := suf_len hp
        rw [if_pos hp]
        by_cases hw : y = l
        · subst hw
          rw [Nat.sub_self, List.take_zero, lc_nil]
          unfold whole
          rw [if_pos rfl]
          have : (xs.map fun x => both xs y x y).sum = 0 := by
            rw [← sum_zero xs]
            refine sum_congr fun x hx2 => ?_
            have := hx x hx2
            unfold both
            rw [if_pos hp, if_neg (show ¬ x.length + y.length ≤ y.length by omega)]
            split <;> rfl
          rw [this]
        · have hlt : y.length < l.length := by
            rcases Nat.lt_or_ge y.length l.length with h2 | h2
            · exact h2
            · exact absurd (suf_whole hp h2) hw
          have hne : l.take (l.length - y.length) ≠ [] := by
            intro hh
            have := congrArg List.length hh
            rw [List.length_take] at this
            simp at this; omega
          rw [← fc_lc hx n (l.take (l.length - y.length)) (by rw [List.length_take]; omega), fc_step hx hne]
          unfold whole
          rw [if_neg hw, Nat.zero_add]
          refine sum_congr fun x hx2 => ?_
          have hx1 := hx x hx2
          unfold both
          rw [if_pos hp]
          by_cases hs : x.length + y.length ≤ l.length
          · rw [pre_take (show x.length ≤ l.length - y.length by omega), if_pos hs]
            split
            · unfold mid
              congr 1
              rw [List.drop_take]
              congr 1
              omega
            · rfl
          · have : x.isPrefixOf (l.take (l.length - y.length)) = false := by
              rw [Bool.eq_false_iff]
              intro hh
              have := pre_len hh
              rw [List.length_take] at this
              omega
            rw [this, if_neg hs]
            simp
      · have hpf : y.isSuffixOf l = false := Bool.eq_false_iff.mpr hp
        rw [hpf]
        unfold whole
        have hw : y ≠ l := by
          rintro rfl
          rw [Bool.eq_false_iff, Ne, List.isSuffixOf_iff_suffix] at hpf
          exact hpf (List.suffix_refl _)
        rw [if_neg hw]
        have : (xs.map fun x => both xs l x y).sum = 0 := by
          rw [← sum_zero xs]
          exact sum_congr fun x hx2 => by unfold both; rw [hpf]; simp
        rw [this]
        rfl
    rw [e1, e2, sum_add, sum_add, sum_swap]

/-- Where the words stand in order, and none twice, there are fewer ways than 2 to the length. -/
def Ord (xs : List (List UInt8)) : Prop := xs.Pairwise fun a b => a.length ≤ b.length ∧ a ≠ b
theorem pre_same {x y l : List UInt8} (hx : x.isPrefixOf l = true) (hy : y.isPrefixOf l = true) (h : x.length = y.length) : x = y := by
  rw [List.isPrefixOf_iff_prefix, List.prefix_iff_eq_take] at hx hy
  rw [hx, hy, h]
theorem pow_sum {l : List UInt8} : ∀ (xs : List (List UInt8)) (m : Nat), Ord xs → m ≤ l.length → (∀ x ∈ xs, x.isPrefixOf l = true → m < x.length) →
    (xs.map fun x => if x.isPrefixOf l then 2 ^ (l.length - x.length) else 0).sum < 2 ^ (l.length - m)
  | [], m, _, _, _ => by simp; exact Nat.pos_of_ne_zero (by simp)
  | x :: xs, m, ho, hm, hp => by
    rw [List.map_cons, List.sum_cons]
    unfold Ord at ho
    rw [List.pairwise_cons] at ho
    by_cases hx : x.isPrefixOf l = true
    · have h1 := hp x (by simp) hx
      have h2 := pre_len hx
      have ih := pow_sum xs x.length ho.2 h2 (fun y hy hyp => by
        have h3 := ho.1 y hy
        rcases Nat.lt_or_ge x.length y.length with h4 | h4
        · exact h4
        · exact absurd (pre_same hx hyp (by omega)) h3.2)
      rw [if_pos hx]
      have h5 : 2 ^ (l.length - x.length) + 2 ^ (l.length - x.length) = 2 ^ (l.length - x.length + 1) := by rw [Nat.pow_succ]; omega
      have h6 : 2 ^ (l.length - x.length + 1) ≤ 2 ^ (l.length - m) := Nat.pow_le_pow_right (by omega) (by omega)
      omega
    · have ih := pow_sum xs m ho.2 hm (fun y hy => hp y (by simp [hy]))
      rw [if_neg hx, Nat.zero_add]
      exact ih
theorem sum_le {α : Type} {f g : α → Nat} : ∀ {xs : List α}, (∀ x ∈ xs, f x ≤ g x) → (xs.map f).sum ≤ (xs.map g).sum
  | [], _ => Nat.le_refl _
  | x :: xs, h => by
    rw [List.map_cons, List.map_cons, List.sum_cons, List.sum_cons]
    have h1 := h x (by simp)
    have h2 := sum_le (xs := xs) (fun y hy => h y (by simp [hy]))
    omega
theorem fc_bound {xs : List (List UInt8)} (hx : NoE xs) (ho : Ord xs) : ∀ (n : Nat) (l : List UInt8), l.length ≤ n → fc xs l ≤ 2 ^ l.length
  | 0, l, h => by
    obtain rfl : l = [] := List.eq_nil_of_length_eq_zero (by omega)
    rw [fc_nil]; decide
  | n + 1, l, h => by
    by_cases hl : l = []
    · subst hl; rw [fc_nil]; decide
    rw [fc_step hx hl]
    have h1 := pow_sum (l := l) xs 0 ho (Nat.zero_le _) (fun x hxm _ => hx x hxm)
    have h2 : (xs.map fun x => if x.isPrefixOf l then fc xs (l.drop x.length) else 0).sum ≤ (xs.map fun x => if x.isPrefixOf l then 2 ^ (l.length - x.length) else 0).sum := sum_le fun x hxm => by
      have hx1 := hx x hxm
      have hll : 0 < l.length := List.length_pos_iff.2 hl
      split
      · have := fc_bound hx ho n (l.drop x.length) (by rw [List.length_drop]; omega)
        rw [List.length_drop] at this
        exact this
      · exact Nat.le_refl _
    rw [Nat.sub_zero] at h1
    omega

end Go.Proofs.Ytpjidcfdcpjafaa.Wd
