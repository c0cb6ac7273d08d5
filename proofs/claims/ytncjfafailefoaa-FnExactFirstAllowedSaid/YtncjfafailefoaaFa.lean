/-
  FirstAllowed: what it tells, and the steps to it.
-/
import Derived.Test.YtncjfafailefoaaCa
import Derived.Test.YtncjfafailefoaaL5
namespace Go.Proofs.Ytncjfafailefoaa
open Go.RowKit Go
set_option linter.unusedVariables false

/-- The text of a letter. -/
def ltr (l : Nat) : ByteArray := ⟨#[UInt8.ofNat (97 + l)]⟩
theorem ltr_size (l : Nat) : (ltr l).size = 1 := rfl
/-- States that were met, each with the word that leads to it; one letter more. -/
def metA (row : List Int) (x : ByteArray) (M : List (Int × ByteArray)) (l : Nat) : List (Int × ByteArray) :=
  if row.getD l 0 ∈ M.map Prod.fst then M else M ++ [(row.getD l 0, x ++ ltr l)]
def rowA (row : List Int) (x : ByteArray) (M : List (Int × ByteArray)) : Nat → List (Int × ByteArray)
  | 0 => M
  | l + 1 => metA row x (rowA row x M l) l
/-- What the search tells from the i-th state on. -/
def resA (ns : List (List Int)) (e : List Int) : Nat → Nat → List (Int × ByteArray) → ByteArray × Int
  | 0, _, _ => (⟨#[]⟩, 6)
  | f + 1, i, M => match M[i]? with
    | none => (⟨#[]⟩, 6)
    | some a => if a.1 ∈ e then (a.2, 0) else resA ns e f (i + 1) (rowA (ns.getD a.1.toNat []) a.2 M 4)
theorem resA_end {ns : List (List Int)} {e : List Int} {f i : Nat} {M : List (Int × ByteArray)} (h : M.length ≤ i) : resA ns e f i M = (⟨#[]⟩, 6) := by
  cases f with
  | zero => rfl
  | succ f => rw [resA, List.getElem?_eq_none h]
theorem resA_hit {ns : List (List Int)} {e : List Int} {f i : Nat} {M : List (Int × ByteArray)} (h : i < M.length) (he : M[i].1 ∈ e) : resA ns e (f + 1) i M = (M[i].2, 0) := by
  rw [resA, List.getElem?_eq_getElem h]
  exact if_pos he
theorem resA_on {ns : List (List Int)} {e : List Int} {f i : Nat} {M : List (Int × ByteArray)} (h : i < M.length) (he : M[i].1 ∉ e) : resA ns e (f + 1) i M = resA ns e f (i + 1) (rowA (ns.getD M[i].1.toNat []) M[i].2 M 4) := by
  rw [resA, List.getElem?_eq_getElem h]
  exact if_neg he

theorem nodup_len : ∀ (n : Nat) (L : List Int), L.Nodup → (∀ a ∈ L, 0 ≤ a ∧ a < (n : Int)) → L.length ≤ n
  | 0, L, _, h => by
    cases L with
    | nil => simp
    | cons a L => have := h a List.mem_cons_self; omega
  | n + 1, L, hd, h => by
    have h1 := nodup_len n (L.erase (n : Int)) (hd.erase _) (fun a ha => by
      have h2 := (hd.mem_erase_iff).1 ha
      have h3 := h a h2.2
      have h4 := h2.1
      omega)
    have h2 := List.length_erase (a := (n : Int)) (l := L)
    split at h2 <;> omega
/-- The states are apart and below n; no word is longer than there are states. -/
structure MOk (n : Nat) (M : List (Int × ByteArray)) : Prop where
  nd : (M.map Prod.fst).Nodup
  ins : ∀ a ∈ M, 0 ≤ a.1 ∧ a.1 < (n : Int) ∧ a.2.size ≤ M.length
theorem MOk.len {n : Nat} {M : List (Int × ByteArray)} (h : MOk n M) : M.length ≤ n := by
  have := nodup_len n (M.map Prod.fst) h.nd (fun a ha => by
    obtain ⟨b, hb, rfl⟩ := List.mem_map.1 ha
    exact ⟨(h.ins b hb).1, (h.ins b hb).2.1⟩)
  simpa using this
theorem MOk.one {n : Nat} {s : Int} (h0 : 0 ≤ s) (h1 : s < (n : Int)) : MOk n [(s, ⟨#[]⟩)] := ⟨by simp, fun a ha => by
  simp at ha
  subst ha
  exact ⟨h0, h1, by show 0 ≤ _; omega⟩⟩
theorem metA_len (row : List Int) (x : ByteArray) (M : List (Int × ByteArray)) (l : Nat) : M.length ≤ (metA row x M l).length := by
  unfold metA
  split <;> simp
theorem MOk.met {n : Nat} {M : List (Int × ByteArray)} (h : MOk n M) {row : List Int} {x : ByteArray} {l : Nat} (hx : x.size ≤ M.length) (hr : 0 ≤ row.getD l 0 ∧ row.getD l 0 < (n : Int)) : MOk n (metA row x M l) := by
  unfold metA
  split
  · exact h
  next hm =>
    refine ⟨?_, fun a ha => ?_⟩
    · rw [List.map_append, List.nodup_append]
      refine ⟨h.nd, by simp, fun a ha b hb => ?_⟩
      have hb2 := List.mem_singleton.1 (show b ∈ [row.getD l 0] from hb)
      exact fun he => hm (by rw [← hb2, ← he]; exact ha)
    · rw [List.length_append, List.length_singleton]
      rcases List.mem_append.1 ha with ha | ha
      · have := h.ins a ha
        exact ⟨this.1, this.2.1, by omega⟩
      · obtain rfl := List.mem_singleton.1 ha
        refine ⟨hr.1, hr.2, ?_⟩
        show (x ++ ltr l).size ≤ _
        rw [ByteArray.size_append, ltr_size]
        omega
theorem rowA_len (row : List Int) (x : ByteArray) (M : List (Int × ByteArray)) : ∀ l, M.length ≤ (rowA row x M l).length
  | 0 => Nat.le_refl _
  | l + 1 => Nat.le_trans (rowA_len row x M l) (metA_len _ _ _ _)
theorem MOk.row {n : Nat} {M : List (Int × ByteArray)} (h : MOk n M) {row : List Int} {x : ByteArray} (hx : x.size ≤ M.length) : ∀ {l : Nat}, (∀ j, j < l → 0 ≤ row.getD j 0 ∧ row.getD j 0 < (n : Int)) → MOk n (rowA row x M l)
  | 0, _ => h
  | l + 1, hr => (MOk.row h hx (fun j hj => hr j (by omega))).met (Nat.le_trans hx (rowA_len _ _ _ _)) (hr l (by omega))
theorem metA_at {row : List Int} {x : ByteArray} {M : List (Int × ByteArray)} {l i : Nat} (h : i < M.length) : (metA row x M l)[i]? = some M[i] := by
  unfold metA
  split
  · exact List.getElem?_eq_getElem h
  · rw [List.getElem?_append_left h, List.getElem?_eq_getElem h]
theorem rowA_at {row : List Int} {x : ByteArray} {M : List (Int × ByteArray)} {i : Nat} (h : i < M.length) : ∀ l, (rowA row x M l)[i]? = some M[i]
  | 0 => List.getElem?_eq_getElem h
  | l + 1 => by
    have h1 := rowA_at (row := row) (x := x) h l
    have h2 := Nat.lt_of_lt_of_le h (rowA_len row x M l)
    rw [rowA, metA_at h2, ← List.getElem?_eq_getElem h2, h1]
theorem metA_old {row : List Int} {x : ByteArray} {M : List (Int × ByteArray)} {l : Nat} (h : row.getD l 0 ∈ M.map Prod.fst) : metA row x M l = M := if_pos h
theorem metA_new {row : List Int} {x : ByteArray} {M : List (Int × ByteArray)} {l : Nat} (h : row.getD l 0 ∉ M.map Prod.fst) : metA row x M l = M ++ [(row.getD l 0, x ++ ltr l)] := if_neg h

/-- What FirstAllowed tells: a word and a code. -/
def FirstR (s : Int) (ns es : List (List Int)) (k : Int) (v : ByteArray) (c : Int) : Prop :=
  (¬ BndOk s ns es → v = ⟨#[]⟩ ∧ c = 1) ∧ (BndOk s ns es → ¬ (0 ≤ k ∧ k < 4) → v = ⟨#[]⟩ ∧ c = 2) ∧
  (BndOk s ns es → (0 ≤ k ∧ k < 4) → resA ns (es.getD k.toNat []) 5 0 [(s, ⟨#[]⟩)] = (v, c))
theorem firstR_ex (s : Int) (ns es : List (List Int)) (k : Int) : ∃ v c, FirstR s ns es k v c := by
  by_cases h1 : BndOk s ns es
  · by_cases h2 : 0 ≤ k ∧ k < 4
    · exact ⟨_, _, fun h => absurd h1 h, fun _ h => absurd h2 h, fun _ _ => rfl⟩
    · exact ⟨⟨#[]⟩, 2, fun h => absurd h1 h, fun _ _ => ⟨rfl, rfl⟩, fun _ h => absurd h h2⟩
  · exact ⟨⟨#[]⟩, 1, fun _ => ⟨rfl, rfl⟩, fun h => absurd h h1, fun h => absurd h h1⟩
/-- Two rows of different kinds: one stays where the other one grows. -/
theorem own_kinds {w w' : World} {b1 b2 e1 e2 s1 s2 n1 n2 : Nat} {v1 v2 : Value} {x1 x2 : List Value} (h1 : w.ownsRow b1 e1 s1 v1 n1 x1) (h2 : w.ownsRow b2 e2 s2 v2 n2 x2) (he : e1 ≠ e2) (hg : w.grownBy w' v1.ownBlock) : w'.ownsRow b2 e2 s2 v2 n2 x2 :=
  h2.kept (row := v1.ownBlock) hg (by
    rcases h2.2 with ⟨rfl, _⟩ | ⟨g, cap, cur, rfl, hb, hh, _⟩
    · exact .inl rfl
    · right
      intro hq
      rcases h1.2 with ⟨rfl, _⟩ | ⟨g1, cap1, cur1, rfl, hb1, hh1, _⟩
      · cases hq
      · have h3 : g = g1 := by simpa [Value.ownBlock] using hq
        subst h3
        rw [hh] at hh1
        simp at hh1
        exact he hh1.2.symm)

end Go.Proofs.Ytncjfafailefoaa
