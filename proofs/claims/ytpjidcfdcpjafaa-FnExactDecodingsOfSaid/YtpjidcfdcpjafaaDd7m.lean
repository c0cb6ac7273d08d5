/-
  All decodings of a word by a list of words, in order. Hardly any Go in sight.
-/
import Derived.Test.YtpjidcfdcpjafaaCt7i
namespace Go.Proofs.Ytpjidcfdcpjafaa.Wd
set_option linter.unusedVariables false

/-- The word at a place. -/
def at' (xs : List (List UInt8)) (i : Nat) : List UInt8 := xs.getD i []
def decsN (xs : List (List UInt8)) : Nat → List UInt8 → List (List Int)
  | 0, l => if l = [] then [[]] else []
  | n + 1, l => if l = [] then [[]] else (List.range xs.length).flatMap fun i => if (at' xs i).isPrefixOf l then (decsN xs n (l.drop (at' xs i).length)).map ((i : Int) :: ·) else []
def decs (xs : List (List UInt8)) (l : List UInt8) : List (List Int) := decsN xs l.length l

theorem at_mem {xs : List (List UInt8)} {i : Nat} (h : i < xs.length) : at' xs i ∈ xs := by
  unfold at'
  rw [List.getD_eq_getElem?_getD, List.getElem?_eq_getElem h]
  exact List.getElem_mem _
theorem range_at (xs : List (List UInt8)) : (List.range xs.length).map (at' xs) = xs := by
  apply List.ext_getElem?
  intro j
  rw [List.getElem?_map]
  rcases Nat.lt_or_ge j xs.length with h | h
  · rw [List.getElem?_eq_getElem (show j < (List.range xs.length).length by rw [List.length_range]; exact h), List.getElem_range]
    show some (at' xs j) = xs[j]?
    unfold at'
    rw [List.getD_eq_getElem?_getD, List.getElem?_eq_getElem h]
    rfl
  · rw [List.getElem?_eq_none (show (List.range xs.length).length ≤ j by rw [List.length_range]; exact h), List.getElem?_eq_none h]
    rfl
theorem flat_congr {α β : Type} {f g : α → List β} : ∀ {xs : List α}, (∀ x ∈ xs, f x = g x) → xs.flatMap f = xs.flatMap g
  | [], _ => rfl
  | x :: xs, h => by rw [List.flatMap_cons, List.flatMap_cons, h x (by simp), flat_congr fun y hy => h y (by simp [hy])]
theorem decsN_more {xs : List (List UInt8)} (hx : NoE xs) : ∀ (n m : Nat) (l : List UInt8), l.length ≤ n → l.length ≤ m → decsN xs n l = decsN xs m l
  | 0, m, l, h1, h2 => by
    obtain rfl : l = [] := List.eq_nil_of_length_eq_zero (by omega)
    cases m <;> simp [decsN]
  | n + 1, 0, l, h1, h2 => by
    obtain rfl : l = [] := List.eq_nil_of_length_eq_zero (by omega)
    simp [decsN]
  | n + 1, m + 1, l, h1, h2 => by
    unfold decsN
    by_cases hl : l = []
    · rw [if_pos hl, if_pos hl]
    · rw [if_neg hl, if_neg hl]
      refine flat_congr fun i hi => ?_
      have := hx _ (at_mem (List.mem_range.1 hi))
      have hll : 0 < l.length := List.length_pos_iff.2 hl
      rw [decsN_more hx n m _ (by rw [List.length_drop]; omega) (by rw [List.length_drop]; omega)]
theorem decs_nil (xs : List (List UInt8)) : decs xs [] = [[]] := by simp [decs, decsN]
theorem decs_step {xs : List (List UInt8)} (hx : NoE xs) {l : List UInt8} (hl : l ≠ []) : decs xs l = (List.range xs.length).flatMap fun i => if (at' xs i).isPrefixOf l then (decs xs (l.drop (at' xs i).length)).map ((i : Int) :: ·) else [] := by
  have hll : 0 < l.length := List.length_pos_iff.2 hl
  obtain ⟨n, hn⟩ : ∃ n, l.length = n + 1 := ⟨l.length - 1, by omega⟩
  have e : decs xs l = decsN xs (n + 1) l := by unfold decs; rw [hn]
  rw [e, decsN, if_neg hl]
  refine flat_congr fun i hi => ?_
  have := hx _ (at_mem (List.mem_range.1 hi))
  unfold decs
  rw [decsN_more hx n _ _ (by rw [List.length_drop]; omega) (Nat.le_refl _)]
theorem decsN_count {xs : List (List UInt8)} : ∀ (n : Nat) (l : List UInt8), (decsN xs n l).length = fcN xs n l
  | 0, l => by unfold decsN fcN; split <;> rfl
  | n + 1, l => by
    unfold decsN fcN
    split
    · rfl
    · rw [List.length_flatMap]
      have e : (xs.map fun x => if x.isPrefixOf l then fcN xs n (l.drop x.length) else 0) = (List.range xs.length).map fun i => if (at' xs i).isPrefixOf l then fcN xs n (l.drop (at' xs i).length) else 0 := by
        have h : xs.map (fun x => if x.isPrefixOf l then fcN xs n (l.drop x.length) else 0) = ((List.range xs.length).map (at' xs)).map (fun x => if x.isPrefixOf l then fcN xs n (l.drop x.length) else 0) := by rw [range_at]
        rw [h, List.map_map]
        rfl
      rw [e]
      refine sum_congr fun i _ => ?_
      split
      · rw [List.length_map, decsN_count n]
      · rfl
theorem decs_count (xs : List (List UInt8)) (l : List UInt8) : (decs xs l).length = fc xs l := decsN_count _ _
theorem decs_none {xs : List (List UInt8)} {l : List UInt8} (h : fc xs l = 0) : decs xs l = [] := List.eq_nil_of_length_eq_zero (by rw [decs_count]; exact h)
theorem decsN_len {xs : List (List UInt8)} (hx : NoE xs) : ∀ (n : Nat) (l : List UInt8), ∀ d ∈ decsN xs n l, d.length ≤ l.length
  | 0, l, d, hd => by
    unfold decsN at hd
    split at hd
    · simp at hd; subst hd; simp
    · cases hd
  | n + 1, l, d, hd => by
    unfold decsN at hd
    split at hd
    · simp at hd; subst hd; simp
    · obtain ⟨i, hi, h2⟩ := List.mem_flatMap.1 hd
      have h1 := hx _ (at_mem (List.mem_range.1 hi))
      split at h2
      · rename_i hp
        obtain ⟨d', hd', rfl⟩ := List.mem_map.1 h2
        have h3 := decsN_len hx n _ d' hd'
        have h4 := pre_len hp
        rw [List.length_drop] at h3
        rw [List.length_cons]
        omega
      · cases h2
theorem decs_len {xs : List (List UInt8)} (hx : NoE xs) {l : List UInt8} : ∀ d ∈ decs xs l, d.length ≤ l.length := decsN_len hx _ _

theorem take_app {α : Type} (R A B : List α) (m : Nat) : ((R ++ A).take m ++ B).take m = (R ++ (A ++ B)).take m := by
  rw [← List.append_assoc]
  generalize R ++ A = X
  rcases Nat.le_total X.length m with h | h
  · rw [List.take_of_length_le h]
  · rw [List.take_append_of_le_length (by rw [List.length_take]; omega), List.take_take, Nat.min_self, List.take_append_of_le_length h]

end Go.Proofs.Ytpjidcfdcpjafaa.Wd
namespace Go.Proofs.Ytpjidcfdcpjafaa
open Go.RowKit Go
set_option linter.unusedVariables false

/-- All decodings of a text behind what has begun. -/
def dcB (xs : List ByteArray) (pre : List Int) (s : ByteArray) : List (List Int) := (Wd.decs (Wl xs) s.data.toList).map (pre ++ ·)
/-- Those that begin with one of the first k words. -/
def dcP (xs : List ByteArray) (pre : List Int) (s : ByteArray) (k : Nat) : List (List Int) :=
  (List.range k).flatMap fun i => if Lib.hasPrefix s.data.toList (Wd.at' (Wl xs) i) then dcB xs (pre ++ [(i : Int)]) (s.extract (Wd.at' (Wl xs) i).length s.size) else []
theorem dcP_zero (xs : List ByteArray) (pre : List Int) (s : ByteArray) : dcP xs pre s 0 = [] := rfl
theorem at_get {xs : List ByteArray} {k : Nat} (h : k < xs.length) : Wd.at' (Wl xs) k = xs[k].data.toList := by
  unfold Wd.at' Wl
  rw [List.getD_eq_getElem?_getD, List.getElem?_map, List.getElem?_eq_getElem h]
  rfl
theorem dcP_succ (xs : List ByteArray) (pre : List Int) (s : ByteArray) (k : Nat) (h : k < xs.length) :
    dcP xs pre s (k + 1) = dcP xs pre s k ++ if Lib.hasPrefix s.data.toList xs[k].data.toList then dcB xs (pre ++ [(k : Int)]) (s.extract xs[k].size s.size) else [] := by
  unfold dcP
  rw [List.range_succ, List.flatMap_append, List.flatMap_cons, List.flatMap_nil, List.append_nil, at_get h]
  have e : xs[k].data.toList.length = xs[k].size := by simp
  rw [e]
theorem dcP_all {xs : List ByteArray} (h : WsOk xs) (pre : List Int) {s : ByteArray} (hs : 0 < s.size) : dcP xs pre s xs.length = dcB xs pre s := by
  have hne : s.data.toList ≠ [] := by
    intro hh
    have e : s.data.toList.length = s.size := by simp
    rw [hh, List.length_nil] at e
    omega
  unfold dcP dcB
  rw [Wd.decs_step h.2.2.1 hne, List.map_flatMap]
  have el : (Wl xs).length = xs.length := by simp [Wl]
  rw [el]
  refine Wd.flat_congr fun i hi => ?_
  show (if _ then _ else _) = List.map _ (if _ then _ else _)
  unfold Lib.hasPrefix
  split
  · rw [Lib.extract_data, List.take_of_length_le (by rw [List.length_drop]; simp), List.map_map]
    refine List.map_congr_left fun d _ => ?_
    show pre ++ [(i : Int)] ++ d = pre ++ ((i : Int) :: d)
    rw [List.append_assoc]
    rfl
  · rfl
theorem dcB_nil (xs : List ByteArray) (pre : List Int) {s : ByteArray} (hs : s.size = 0) : dcB xs pre s = [pre] := by
  have e : s.data.toList = [] := List.eq_nil_of_length_eq_zero (by simpa using hs)
  unfold dcB
  rw [e, Wd.decs_nil]
  simp
theorem dcB_count (xs : List ByteArray) (pre : List Int) (s : ByteArray) : (dcB xs pre s).length = fcB xs s := by
  unfold dcB fcB
  rw [List.length_map, Wd.decs_count]
theorem dcB_none (xs : List ByteArray) (pre : List Int) (s : ByteArray) (h : fcB xs s = 0) : dcB xs pre s = [] := List.eq_nil_of_length_eq_zero (by rw [dcB_count]; exact h)
theorem dcB_len {xs : List ByteArray} (h : WsOk xs) (pre : List Int) (s : ByteArray) : ∀ d ∈ dcB xs pre s, d.length ≤ pre.length + s.size := by
  intro d hd
  obtain ⟨e, he, rfl⟩ := List.mem_map.1 hd
  have h1 := Wd.decs_len h.2.2.1 e he
  have e2 : s.data.toList.length = s.size := by simp
  rw [List.length_append]
  omega

end Go.Proofs.Ytpjidcfdcpjafaa
