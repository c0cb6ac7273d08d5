/-
  How many words lead to each state: lists of numbers, their sums and bounds.
-/
import Derived.Test.YtncjfafailefoaaMw
namespace Go.Proofs.Ytncjfafailefoaa
open Go.RowKit Go
set_option linter.unusedVariables false

theorem getD_app (L M : List Nat) (t : Nat) (h : t < L.length) : (L ++ M).getD t 0 = L.getD t 0 := by
  rw [List.getD_eq_getElem?_getD, List.getD_eq_getElem?_getD, List.getElem?_append_left h]

def addAt (L : List Nat) (t x : Nat) : List Nat := L.set t (L.getD t 0 + x)
theorem addAt_len (L : List Nat) (t x : Nat) : (addAt L t x).length = L.length := by simp [addAt]
theorem sum_set (L : List Nat) : ∀ (t y : Nat), t < L.length → (L.set t y).sum + L.getD t 0 = L.sum + y := by
  induction L with
  | nil => intro t y h; simp at h
  | cons a L ih =>
    intro t y h
    cases t with
    | zero => simp; omega
    | succ t =>
      have h2 := ih t y (by simpa using h)
      simp only [List.set_cons_succ, List.sum_cons, List.getD_cons_succ]
      omega
theorem getD_le_sum (L : List Nat) : ∀ t, L.getD t 0 ≤ L.sum := by
  induction L with
  | nil => intro t; simp
  | cons a L ih =>
    intro t
    cases t with
    | zero => simp
    | succ t => have := ih t; simp only [List.getD_cons_succ, List.sum_cons]; omega
theorem addAt_sum (L : List Nat) (t x : Nat) (h : t < L.length) : (addAt L t x).sum = L.sum + x := by
  have := sum_set L t (L.getD t 0 + x) h
  unfold addAt
  omega
/-- For the first l letters of a state's row. -/
def rowAdd (L : List Nat) (c : Nat) (row : List Int) (l : Nat) : List Nat := (row.take l).foldl (fun L t => addAt L t.toNat c) L
theorem rowAdd_succ (L : List Nat) (c : Nat) (row : List Int) (l : Nat) (h : l < row.length) : rowAdd L c row (l + 1) = addAt (rowAdd L c row l) (row[l]).toNat c := by
  unfold rowAdd
  rw [List.take_succ_eq_append_getElem h, List.foldl_append]
  rfl
theorem rowAdd_zero (L : List Nat) (c : Nat) (row : List Int) : rowAdd L c row 0 = L := rfl
theorem foldAdd_len (ts : List Int) (c : Nat) : ∀ L : List Nat, (ts.foldl (fun L t => addAt L t.toNat c) L).length = L.length := by
  induction ts with
  | nil => intro L; rfl
  | cons t ts ih => intro L; rw [List.foldl_cons, ih, addAt_len]
theorem rowAdd_len (L : List Nat) (c : Nat) (row : List Int) (l : Nat) : (rowAdd L c row l).length = L.length := foldAdd_len _ _ _
theorem rowAdd_sum (L : List Nat) (c : Nat) (row : List Int) (hr : InN L.length row) : ∀ l, l ≤ row.length → (rowAdd L c row l).sum = L.sum + l * c := by
  intro l
  induction l with
  | zero => intro _; rw [rowAdd_zero]; omega
  | succ l ih =>
    intro hl
    have h1 := hr l (by omega)
    rw [rowAdd_succ L c row l (by omega), addAt_sum _ _ _ (by rw [rowAdd_len]; omega), ih (by omega), Nat.succ_mul]
    omega
/-- For the first s states. -/
def allAdd (ns : List (List Int)) (C : List Nat) (m s : Nat) : List Nat := (List.range s).foldl (fun L q => rowAdd L (C.getD q 0) (ns.getD q []) 4) (List.replicate m 0)
theorem allAdd_zero (ns : List (List Int)) (C : List Nat) (m : Nat) : allAdd ns C m 0 = List.replicate m 0 := rfl
theorem allAdd_succ (ns : List (List Int)) (C : List Nat) (m s : Nat) : allAdd ns C m (s + 1) = rowAdd (allAdd ns C m s) (C.getD s 0) (ns.getD s []) 4 := by
  unfold allAdd
  rw [List.range_succ, List.foldl_append]
  rfl
theorem allAdd_len (ns : List (List Int)) (C : List Nat) (m s : Nat) : (allAdd ns C m s).length = m := by
  induction s with
  | zero => simp [allAdd_zero]
  | succ s ih => rw [allAdd_succ, rowAdd_len, ih]
/-- The sum of the first s numbers. -/
def psum (C : List Nat) (s : Nat) : Nat := (C.take s).sum
theorem psum_succ (C : List Nat) (s : Nat) : psum C (s + 1) = psum C s + C.getD s 0 := by
  unfold psum
  rcases Nat.lt_or_ge s C.length with h | h
  · rw [List.take_succ_eq_append_getElem h, List.sum_append, List.getD_eq_getElem?_getD, List.getElem?_eq_getElem h]
    simp
  · rw [List.take_of_length_le h, List.take_of_length_le (by omega), List.getD_eq_getElem?_getD, List.getElem?_eq_none h]
    simp
theorem psum_le (C : List Nat) (s : Nat) : psum C s ≤ C.sum := by
  unfold psum
  have h := congrArg List.sum (List.take_append_drop s C)
  rw [List.sum_append] at h
  omega
theorem row_at {s : Int} {ns es : List (List Int)} (hok : BndOk s ns es) (q : Nat) (hq : q < ns.length) : (ns.getD q []) = ns[q] ∧ ns[q].length = 4 ∧ InN ns.length ns[q] := by
  obtain ⟨_, _, _, hr, _⟩ := hok
  exact ⟨by rw [List.getD_eq_getElem?_getD, List.getElem?_eq_getElem hq]; rfl, hr q hq⟩
theorem allAdd_sum {st : Int} {ns es : List (List Int)} (hok : BndOk st ns es) (C : List Nat) (m : Nat) (hm : ns.length ≤ m) : ∀ s, s ≤ ns.length → (allAdd ns C m s).sum = 4 * psum C s := by
  intro s
  induction s with
  | zero => intro _; rw [allAdd_zero]; simp [psum]
  | succ s ih =>
    intro hs
    obtain ⟨h1, h2, h3⟩ := row_at hok s (by omega)
    rw [allAdd_succ, rowAdd_sum _ _ _ (by rw [allAdd_len, h1]; exact fun j hj => by have := h3 j hj; omega) 4 (by rw [h1]; omega), ih (by omega), psum_succ]
    omega
/-- After i rounds, from the start st on. -/
def cntC (ns : List (List Int)) (m st : Nat) : Nat → List Nat
  | 0 => addAt (List.replicate m 0) st 1
  | i + 1 => allAdd ns (cntC ns m st i) m ns.length
theorem cntC_len (ns : List (List Int)) (m st i : Nat) : (cntC ns m st i).length = m := by
  cases i with
  | zero => simp [cntC, addAt_len]
  | succ i => exact allAdd_len _ _ _ _
theorem cntC_sum {s : Int} {ns es : List (List Int)} (hok : BndOk s ns es) (m st : Nat) (hm : ns.length ≤ m) (hst : st < m) : ∀ i, (cntC ns m st i).sum ≤ 4 ^ i := by
  intro i
  induction i with
  | zero => simp only [cntC]; rw [addAt_sum _ _ _ (by simpa using hst)]; simp
  | succ i ih =>
    simp only [cntC]
    rw [allAdd_sum hok _ m hm _ (Nat.le_refl _)]
    have := psum_le (cntC ns m st i) ns.length
    rw [Nat.pow_succ]
    omega
/-- More zeros behind change nothing. -/
theorem addAt_app (L : List Nat) (t x z : Nat) (h : t < L.length) : addAt (L ++ List.replicate z 0) t x = addAt L t x ++ List.replicate z 0 := by
  unfold addAt
  rw [List.set_append_left _ _ h, getD_app _ _ _ h]
theorem rowAdd_app (L : List Nat) (c : Nat) (row : List Int) (z : Nat) (hr : InN L.length row) : ∀ l, l ≤ row.length → rowAdd (L ++ List.replicate z 0) c row l = rowAdd L c row l ++ List.replicate z 0 := by
  intro l
  induction l with
  | zero => intro _; rfl
  | succ l ih =>
    intro hl
    have h1 := hr l (by omega)
    rw [rowAdd_succ _ c row l (by omega), rowAdd_succ _ c row l (by omega), ih (by omega), addAt_app _ _ _ _ (by rw [rowAdd_len]; omega)]
theorem allAdd_app {st : Int} {ns es : List (List Int)} (hok : BndOk st ns es) (C : List Nat) (z : Nat) (hC : C.length = ns.length) : ∀ s, s ≤ ns.length → allAdd ns (C ++ List.replicate z 0) (ns.length + z) s = allAdd ns C ns.length s ++ List.replicate z 0 := by
  intro s
  induction s with
  | zero => intro _; rw [allAdd_zero, allAdd_zero, List.replicate_append_replicate]
  | succ s ih =>
    intro hs
    obtain ⟨h1, h2, h3⟩ := row_at hok s (by omega)
    rw [allAdd_succ, allAdd_succ, ih (by omega), getD_app _ _ _ (by omega), rowAdd_app _ _ _ _ (by rw [allAdd_len, h1]; exact h3) 4 (by rw [h1]; omega)]
theorem cntC_app {s : Int} {ns es : List (List Int)} (hok : BndOk s ns es) (st z : Nat) (hst : st < ns.length) : ∀ i, cntC ns (ns.length + z) st i = cntC ns ns.length st i ++ List.replicate z 0 := by
  intro i
  induction i with
  | zero =>
    simp only [cntC]
    rw [← List.replicate_append_replicate, addAt_app _ _ _ _ (by simpa using hst)]
  | succ i ih =>
    simp only [cntC]
    rw [ih, allAdd_app hok _ z (cntC_len _ _ _ _) _ (Nat.le_refl _)]
/-- The sum over the first k of the states. -/
def esum (C : List Nat) (ends : List Int) (k : Nat) : Nat := ((ends.take k).map fun e => C.getD e.toNat 0).sum
theorem esum_succ (C : List Nat) (ends : List Int) (k : Nat) (h : k < ends.length) : esum C ends (k + 1) = esum C ends k + C.getD (ends[k]).toNat 0 := by
  unfold esum
  rw [List.take_succ_eq_append_getElem h, List.map_append, List.sum_append]
  simp
theorem esum_le (C : List Nat) (ends : List Int) (k : Nat) : k ≤ ends.length → esum C ends k ≤ k * C.sum := by
  induction k with
  | zero => intro _; simp [esum]
  | succ k ih =>
    intro h
    rw [esum_succ C ends k (by omega), Nat.succ_mul]
    have := ih (by omega)
    have := getD_le_sum C (ends[k]).toNat
    omega
theorem esum_app (C : List Nat) (ends : List Int) (z : Nat) : esum (C ++ List.replicate z 0) ends ends.length = esum C ends ends.length := by
  unfold esum
  congr 1
  apply List.map_congr_left
  intro e _
  rcases Nat.lt_or_ge e.toNat C.length with h | h
  · rw [getD_app _ _ _ h]
  · rw [List.getD_eq_getElem?_getD, List.getD_eq_getElem?_getD, List.getElem?_append_right h, List.getElem?_eq_none h, List.getElem?_replicate]
    split <;> rfl
theorem rising_at {xs : List Int} {n : Int} (h : InN n xs) (hr : Rising xs) : ∀ j (hj : j < xs.length), (j : Int) ≤ xs[j] := by
  intro j
  induction j with
  | zero => intro hj; exact (h 0 hj).1
  | succ j ih =>
    intro hj
    have h1 := ih (by omega)
    have h2 := hr j hj
    omega
theorem rising_len {xs : List Int} {n : Nat} (h : InN n xs) (hr : Rising xs) : xs.length ≤ n := by
  rcases Nat.eq_zero_or_pos xs.length with h0 | h0
  · omega
  · have h1 := rising_at h hr (xs.length - 1) (by omega)
    have h2 := (h (xs.length - 1) (by omega)).2
    omega

end Go.Proofs.Ytncjfafailefoaa
