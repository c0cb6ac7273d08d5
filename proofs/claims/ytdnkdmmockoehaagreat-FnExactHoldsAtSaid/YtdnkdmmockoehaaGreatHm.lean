/-
  What it means that a family holds at a number: values of the unknowns that occur, their terms' lengths.
-/
import Derived.Test.YtdnkdmmockoehaaGreatSz
import Derived.Test.YtdnkdmmockoehaaGreatTs
import Derived.Test.YtdnkdmmockoehaaGreatOu
namespace Go.Proofs.YtdnkdmmockoehaaGreat
open Go.RowKit Go
set_option linter.unusedVariables false

theorem ukB_of {c : UInt8} {x : Nat} (hu : Wd.isU c = true) (hx : Wd.unkI c = (x : Int)) : c = ukB x := by
  unfold Wd.isU at hu
  simp only [Bool.or_eq_true, beq_iff_eq] at hu
  rcases hu with ((rfl | rfl) | rfl) | rfl
  · have : x = 0 := by have h : Wd.unkI 88 = 0 := by decide
                       omega
    subst this; rfl
  · have : x = 1 := by have h : Wd.unkI 89 = 1 := by decide
                       omega
    subst this; rfl
  · have : x = 2 := by have h : Wd.unkI 90 = 2 := by decide
                       omega
    subst this; rfl
  · have : x = 3 := by have h : Wd.unkI 87 = 3 := by decide
                       omega
    subst this; rfl
theorem ukB_unk {x : Nat} (hx : x < 4) : Wd.isL (ukB x) = false ∧ Wd.unkI (ukB x) = (x : Int) := by
  rcases uk_four hx with rfl | rfl | rfl | rfl <;> decide
/-- The values for a number, of the unknowns that occur. -/
def valsQ (es : List Eqn) (rs : List (List Pc)) (k : Int) : List ByteArray := (List.range 4).map fun x => if occ es x then wordV k (rs.getD x []) else ⟨#[]⟩
theorem valsQ_get {es : List Eqn} {rs : List (List Pc)} {k : Int} {x : Nat} (hx : x < 4) (h : x < (valsQ es rs k).length) : (valsQ es rs k)[x] = if occ es x then wordV k (rs.getD x []) else ⟨#[]⟩ := by
  simp [valsQ]
theorem valsQ_len (es : List Eqn) (rs : List (List Pc)) (k : Int) : (valsQ es rs k).length = 4 := by simp [valsQ]
theorem symLen_le {M : Int} {xs : List Int} (h : LensM M xs) (hM : 1 ≤ M) : ∀ (l : List UInt8), (∀ c ∈ l, Wd.isL c = true ∨ Wd.isL c = false ∧ Wd.isU c = true) → ∀ c ∈ l, symLen xs c ≤ termLen l xs
  | [], _, c, hc => by simp at hc
  | d :: l, hl, c, hc => by
    have e : termLen (d :: l) xs = symLen xs d + termLen l xs := by unfold termLen; simp
    have h1 := (symLen_boundM h hM (hl d (by simp))).1
    have h2 := (termLen_boundM h hM l (fun q hq => hl q (by simp [hq]))).1
    rw [e]
    rcases List.mem_cons.mp hc with rfl | hc
    · omega
    · have := symLen_le h hM l (fun q hq => hl q (by simp [hq])) c hc
      omega
theorem occ_small {es : List Eqn} {rs : List (List Pc)} {k : Int} (hs : sysB es = true) (hok : FamOk rs) (hk : 0 ≤ k ∧ k ≤ 1000000) (hz : ∀ z ∈ tLens es (rs.map (gsum (pcLen k))), z ≤ 200000) {x : Nat} (hx : x < 4) (ho : occ es x = true) : ∃ hr : x < rs.length, gsum (pcLen k) rs[x] ≤ 200000 := by
  have hxr : x < rs.length := by rw [hok.1]; exact hx
  refine ⟨hxr, ?_⟩
  unfold occ at ho
  rw [List.any_eq_true] at ho
  obtain ⟨e, he, hi⟩ := ho
  have hm1 : termLen e.1.data.toList (rs.map (gsum (pcLen k))) ∈ tLens es (rs.map (gsum (pcLen k))) := by
    unfold tLens; rw [List.mem_flatMap]; exact ⟨e, he, by simp⟩
  have hm2 : termLen e.2.data.toList (rs.map (gsum (pcLen k))) ∈ tLens es (rs.map (gsum (pcLen k))) := by
    unfold tLens; rw [List.mem_flatMap]; exact ⟨e, he, by simp⟩
  obtain ⟨j, hj, rfl⟩ := List.getElem_of_mem he
  have htm := eqnB_terms (sysB_at hs j hj)
  obtain ⟨u1, u2⟩ := ukB_unk hx
  have hsl : symLen (rs.map (gsum (pcLen k))) (ukB x) = gsum (pcLen k) rs[x] := by
    unfold symLen
    rw [u1, u2]
    simp [hxr]
  unfold inE at hi
  rw [Bool.or_eq_true] at hi
  rcases hi with hi | hi
  · have := symLen_le (lensL hok hk) (by omega) _ (term_all htm.1) (ukB x) (by simpa using hi)
    have := hz _ hm1
    omega
  · have := symLen_le (lensL hok hk) (by omega) _ (term_all htm.2) (ukB x) (by simpa using hi)
    have := hz _ hm2
    omega
theorem valsQ_M {es : List Eqn} {rs : List (List Pc)} {k : Int} (hs : sysB es = true) (hok : FamOk rs) (hk : 0 ≤ k ∧ k ≤ 1000000) (hz : ∀ z ∈ tLens es (rs.map (gsum (pcLen k))), z ≤ 200000) : ValsM 1000000 (valsQ es rs k) := by
  refine ⟨valsQ_len _ _ _, fun s hs2 => ?_⟩
  obtain ⟨x, hx, rfl⟩ := List.getElem_of_mem hs2
  have hx4 : x < 4 := by rw [valsQ_len] at hx; exact hx
  rw [valsQ_get hx4]
  cases ho : occ es x
  · simp [ByteArray.size]
  · obtain ⟨hr, h1⟩ := occ_small hs hok hk hz hx4 ho
    have h2 := wordQ_len hk rs[x] (hok.at x hr).2
    simp only [if_true]
    rw [show rs.getD x [] = rs[x] by simp [hr], wordV_size]
    omega
theorem putL_len {es : List Eqn} {rs : List (List Pc)} {k : Int} (hok : FamOk rs) (hk : 0 ≤ k ∧ k ≤ 1000000) : ∀ (l : List UInt8), (∀ c ∈ l, (Wd.isL c = true ∨ Wd.isL c = false ∧ Wd.isU c = true) ∧ (∀ x : Nat, Wd.isL c = false → c = ukB x → occ es x = true)) → ((putL l (valsQ es rs k)).length : Int) = termLen l (rs.map (gsum (pcLen k)))
  | [], _ => by simp [putL, termLen]
  | c :: l, h => by
    have ih := putL_len (es := es) hok hk l (fun d hd => h d (by simp [hd]))
    have e1 : putL (c :: l) (valsQ es rs k) = symTxt (valsQ es rs k) c ++ putL l (valsQ es rs k) := by unfold putL; simp
    have e2 : termLen (c :: l) (rs.map (gsum (pcLen k))) = symLen (rs.map (gsum (pcLen k))) c + termLen l (rs.map (gsum (pcLen k))) := by unfold termLen; simp
    rw [e1, e2, List.length_append, ← ih]
    have hc : ((symTxt (valsQ es rs k) c).length : Int) = symLen (rs.map (gsum (pcLen k))) c := by
      obtain ⟨h1, h2⟩ := h c (by simp)
      rcases h1 with hl | ⟨hl, hu⟩
      · rw [symTxt_letter _ hl]
        unfold symLen
        rw [hl]
        rfl
      · obtain ⟨x, hx4, hxu, _, _⟩ := symV_unknown hl hu
        have ho := h2 x hl (ukB_of hu hxu)
        have hxr : x < rs.length := by rw [hok.1]; exact hx4
        rw [symTxt_unknown hl hxu (by rw [valsQ_len]; exact hx4), valsQ_get hx4, ho]
        simp only [if_true]
        rw [show rs.getD x [] = rs[x] by simp [hxr]]
        unfold symLen
        rw [hl, hxu]
        have h3 := wordQ_len hk rs[x] (hok.at x hxr).2
        have h4 : (wordV k rs[x]).data.toList.length = (wordQ k rs[x]).length := by simp [wordV]
        rw [h4, h3]
        simp [hxr]
    push_cast
    omega
theorem put_len {es : List Eqn} {rs : List (List Pc)} {k : Int} (hs : sysB es = true) (hok : FamOk rs) (hk : 0 ≤ k ∧ k ≤ 1000000) (j : Nat) (hj : j < es.length) :
    ((putL es[j].1.data.toList (valsQ es rs k)).length : Int) = termLen es[j].1.data.toList (rs.map (gsum (pcLen k))) ∧ ((putL es[j].2.data.toList (valsQ es rs k)).length : Int) = termLen es[j].2.data.toList (rs.map (gsum (pcLen k))) := by
  have htm := eqnB_terms (sysB_at hs j hj)
  refine ⟨putL_len hok hk _ (fun c hc => ⟨term_all htm.1 c hc, fun x _ he => ?_⟩), putL_len hok hk _ (fun c hc => ⟨term_all htm.2 c hc, fun x _ he => ?_⟩)⟩
  · unfold occ
    rw [List.any_eq_true]
    exact ⟨es[j], List.getElem_mem _, by unfold inE; subst he; rw [Bool.or_eq_true]; exact .inl (by simpa using hc)⟩
  · unfold occ
    rw [List.any_eq_true]
    exact ⟨es[j], List.getElem_mem _, by unfold inE; subst he; rw [Bool.or_eq_true]; exact .inr (by simpa using hc)⟩

/-- What HoldsAt gives: whether a family holds at a number, and a code. -/
def HtR (es : List Eqn) (rs : List (List Pc)) (k : Int) (d : Bool) (c : Int) : Prop :=
  (¬ (sysB es = true ∧ FamOk rs) → d = false ∧ c = 1) ∧ (sysB es = true ∧ FamOk rs → k < 0 → d = false ∧ c = 2) ∧
  (sysB es = true ∧ FamOk rs → 0 ≤ k → (∃ z ∈ tLens es (rs.map (gsum (pcLen (min k 200001)))), 200000 < z) → d = false ∧ c = 3) ∧
  (sysB es = true ∧ FamOk rs → 0 ≤ k → ¬ (∃ z ∈ tLens es (rs.map (gsum (pcLen (min k 200001)))), 200000 < z) → d = holdsB es (valsQ es rs (min k 200001)) ∧ c = 0)
theorem htR_ex (es : List Eqn) (rs : List (List Pc)) (k : Int) : ∃ d c, HtR es rs k d c := by
  by_cases h1 : sysB es = true ∧ FamOk rs
  · by_cases h2 : k < 0
    · exact ⟨false, 2, fun h => absurd h1 h, fun _ _ => ⟨rfl, rfl⟩, fun _ h => by omega, fun _ h => by omega⟩
    · by_cases h3 : ∃ z ∈ tLens es (rs.map (gsum (pcLen (min k 200001)))), 200000 < z
      · exact ⟨false, 3, fun h => absurd h1 h, fun _ h => absurd h h2, fun _ _ _ => ⟨rfl, rfl⟩, fun _ _ h => absurd h3 h⟩
      · exact ⟨_, 0, fun h => absurd h1 h, fun _ h => absurd h h2, fun _ _ h => absurd h h3, fun _ _ _ => ⟨rfl, rfl⟩⟩
  · exact ⟨false, 1, fun _ => ⟨rfl, rfl⟩, fun h => absurd h h1, fun h => absurd h h1, fun h => absurd h h1⟩

end Go.Proofs.YtdnkdmmockoehaaGreat
