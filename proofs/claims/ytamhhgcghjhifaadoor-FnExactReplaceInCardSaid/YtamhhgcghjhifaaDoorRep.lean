/-
  What stands where a sign is replaced by a text: plain words, and the library's own function at a sign.
-/
import Derived.Test.YtamhhgcghjhifaaDoorRow
import Derived.Lib.Replace
namespace Go.Proofs.YtamhhgcghjhifaaDoor
open Go.RowKit Go
set_option linter.unusedVariables false

def repL (c : UInt8) (new s : List UInt8) : List UInt8 := s.flatMap fun b => if b = c then new else [b]
theorem repL_nil (c : UInt8) (new : List UInt8) : repL c new [] = [] := rfl
theorem repL_cons (c : UInt8) (new : List UInt8) (b : UInt8) (s : List UInt8) : repL c new (b :: s) = (if b = c then new else [b]) ++ repL c new s := rfl
theorem repL_app (c : UInt8) (new s t : List UInt8) : repL c new (s ++ t) = repL c new s ++ repL c new t := List.flatMap_append
theorem repL_none {c : UInt8} (new : List UInt8) : ∀ {s : List UInt8}, c ∉ s → repL c new s = s
  | [], _ => rfl
  | b :: s, h => by
    rw [repL_cons, if_neg (fun e => h (by rw [e]; exact List.mem_cons_self)), repL_none new (fun e => h (List.mem_cons_of_mem _ e))]
    rfl
theorem repL_same (c : UInt8) : ∀ s : List UInt8, repL c [c] s = s
  | [] => rfl
  | b :: s => by
    rw [repL_cons, repL_same c s]
    by_cases h : b = c
    · rw [if_pos h, h]; rfl
    · rw [if_neg h]; rfl
theorem ridx_none (c : UInt8) : ∀ l : List UInt8, c ∉ l → Lib.index l [c] = -1
  | [], _ => rfl
  | b :: l, h => by
    have hb : b ≠ c := fun e => h (by rw [e]; exact List.mem_cons_self)
    have ih := ridx_none c l (fun e => h (List.mem_cons_of_mem _ e))
    unfold Lib.index
    rw [ih, if_neg (by simp [List.isPrefixOf]; exact fun e => hb e.symm)]
    rfl
theorem ridx_at (c : UInt8) (b : List UInt8) : ∀ a : List UInt8, c ∉ a → Lib.index (a ++ c :: b) [c] = (a.length : Int)
  | [], _ => by
    show Lib.index (c :: b) [c] = 0
    unfold Lib.index
    rw [if_pos (by simp [List.isPrefixOf])]
  | x :: a, h => by
    have hx : x ≠ c := fun e => h (by rw [e]; exact List.mem_cons_self)
    have ih := ridx_at c b a (fun e => h (List.mem_cons_of_mem _ e))
    show Lib.index (x :: (a ++ c :: b)) [c] = _
    unfold Lib.index
    rw [ih, if_neg (by simp [List.isPrefixOf]; exact fun e => hx e.symm), if_neg (by rw [beq_iff_eq]; omega)]
    simp
theorem rsplit_at (c : UInt8) : ∀ l : List UInt8, c ∈ l → ∃ a b, l = a ++ c :: b ∧ c ∉ a
  | x :: l, h => by
    by_cases hx : x = c
    · exact ⟨[], l, by rw [hx]; rfl, by simp⟩
    · obtain ⟨a, b, h1, h2⟩ := rsplit_at c l (by
        rcases List.mem_cons.1 h with h | h
        · exact absurd h.symm hx
        · exact h)
      exact ⟨x :: a, b, by rw [h1]; rfl, by
        intro hm
        rcases List.mem_cons.1 hm with h | h
        · exact hx h.symm
        · exact h2 h⟩
theorem countFrom_one (c : UInt8) : ∀ (fuel : Nat) (s : List UInt8), s.length < fuel → Lib.countFrom [c] fuel s = s.count c
  | fuel + 1, s, h => by
    by_cases hm : c ∈ s
    · obtain ⟨a, b, rfl, ha⟩ := rsplit_at c s hm
      rw [Lib.countFrom, ridx_at c b a ha, if_neg (by rw [beq_iff_eq]; omega)]
      have e : (a ++ c :: b).drop ((a.length : Int).toNat + [c].length) = b := by simp
      rw [e, countFrom_one c fuel b (by simp at h; omega), List.count_append, List.count_eq_zero.2 ha, List.count_cons_self]
      omega
    · rw [Lib.countFrom, ridx_none c s hm, List.count_eq_zero.2 hm]
      rfl
theorem count_one (c : UInt8) (s : List UInt8) : Lib.count s [c] = s.count c := countFrom_one c _ s (Nat.lt_succ_self _)
theorem replaceK_one (c : UInt8) (new : List UInt8) : ∀ (k : Nat) (s : List UInt8), s.count c ≤ k → Lib.replaceK [c] new k s = repL c new s
  | 0, s, h => by rw [Lib.replaceK, repL_none new (List.count_eq_zero.1 (by omega))]
  | k + 1, s, h => by
    by_cases hm : c ∈ s
    · obtain ⟨a, b, rfl, ha⟩ := rsplit_at c s hm
      rw [Lib.replaceK_hit _ _ _ _ _ (ridx_at c b a ha)]
      have e : (a ++ c :: b).drop (a.length + [c].length) = b := by simp
      rw [e, replaceK_one c new k b (by rw [List.count_append, List.count_cons_self] at h; omega), repL_app, repL_none new ha, repL_cons, if_pos rfl]
      simp
    · rw [Lib.replaceK, ridx_none c s hm, repL_none new hm]
      rfl
theorem replaceAll_one (c : UInt8) (new s : List UInt8) : Lib.replaceAll s [c] new = repL c new s := by
  unfold Lib.replaceAll Lib.replace
  by_cases h : [c] = new
  · rw [if_pos (by rw [h]; simp), ← h, repL_same]
  · rw [if_neg (by simpa using h)]
    have : Lib.replaceNum s [c] (-1) = s.count c := by
      unfold Lib.replaceNum
      rw [if_pos (.inl (by omega)), count_one]
    rw [this]
    exact replaceK_one c new _ s (Nat.le_refl _)
theorem repL_bound (c : UInt8) (new : List UInt8) : ∀ s : List UInt8, (repL c new s).length ≤ s.length * (new.length + 1)
  | [] => by simp [repL_nil]
  | b :: s => by
    have ih := repL_bound c new s
    rw [repL_cons, List.length_append, List.length_cons, Nat.add_mul]
    split
    · omega
    · simp; omega

end Go.Proofs.YtamhhgcghjhifaaDoor
