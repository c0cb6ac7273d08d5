/-
  Powers.has of the program, at a word of some length: a contract; the search in a list of families: contracts.
-/
import Derived.Test.YthgbfjeemfcnlaaHas
namespace Go.Proofs.Ythgbfjeemfcnlaa
open Go.RowKit Go
set_option linter.unusedVariables false

theorem extract_list (s : ByteArray) (n : Nat) (h : n ≤ s.size) : (s.extract 0 n).data.toList = s.data.toList.take n ∧ (s.extract 0 n).size = n := by
  constructor
  · rw [Lib.extract_data, List.drop_zero, Nat.sub_zero]
  · simp; omega

set_option maxRecDepth 100000 in
set_option maxHeartbeats 800000 in
theorem has_any (r t s : ByteArray) (f c : Int) (w : World) (h0 : 0 < r.size) (hr : r.size ≤ 1000) (hs : s.size ≤ 1000) (ht : t.size ≤ maxLen) :
    Calls Try.prog 24 #[.agg #[.string r, .string t, .int .i64 f], .string s, .int .i64 c] w fun e w' => e = .returned (.bool (Wd.hasL r.data.toList t.data.toList s.data.toList c)) ∧ Below w.heap.size w w' := by
  have c1 := fun W => cut_any s t W (by unfold maxLen; omega)
  unfold Wd.hasL
  rw [show t.data.toList.length = t.size by simp, show s.data.toList.length = s.size by simp, show r.data.toList.length = r.size by simp]
  have hrz : ((r.size : Int) == 0) = false := by rw [beq_eq_false_iff_ne]; omega
  unfold maxLen at ht
  cases hb : t.data.toList.isSuffixOf s.data.toList
  · rw [hb] at c1
    simp only [Bool.false_eq_true, if_false] at c1
    have C1 := hidv c1
    obtain ⟨q, hq⟩ : ∃ q, s.size / r.size = q := ⟨_, rfl⟩
    have hqm : ((s.size : Int).tdiv (r.size : Int)) = (q : Int) := by rw [Int.tdiv_eq_ediv_of_nonneg (by omega), ← hq]; rfl
    have hql : q ≤ s.size := by rw [← hq]; exact Nat.div_le_self _ _
    rw [Bool.false_and]
    clear c1 hb hq
    go_enter Try.func24, Try.ntmps24
    go_wp2_with fail
    refine (C1.out _).mono ?_
    rintro e w1 ⟨rfl, rfl⟩
    go_wp2_with fail
    go_ret
    exact ⟨rfl, below_al (Below.refl _ _) _⟩
  · have hle := suffix_cut hb
    rw [hb] at c1
    simp only [if_true] at c1
    obtain ⟨n, hn⟩ : ∃ n, s.size - t.size = n := ⟨_, rfl⟩
    rw [hn] at c1 ⊢
    obtain ⟨e1, e2⟩ := extract_list s n (by omega)
    obtain ⟨p, hp⟩ : ∃ p, s.extract 0 n = p := ⟨_, rfl⟩
    rw [hp] at c1 e1 e2
    have C1 := hidv c1
    obtain ⟨q, hq⟩ : ∃ q, n / r.size = q := ⟨_, rfl⟩
    have hqm : ((n : Int).tdiv (r.size : Int)) = (q : Int) := by rw [Int.tdiv_eq_ediv_of_nonneg (by omega), ← hq]; rfl
    have hql : q ≤ n := by rw [← hq]; exact Nat.div_le_self _ _
    have hqr : r.size * q ≤ n := by rw [← hq]; exact Nat.mul_div_le _ _
    have hn1 : n ≤ 1000 := by omega
    rw [hq, Bool.true_and, ← e1]
    have hpz : (p.size : Int) = (n : Int) := by rw [e2]
    clear c1 hb hq hle hn hp e1 hs
    by_cases h3 : c ≤ (q : Int)
    · rw [decide_eq_true h3, Bool.true_and]
      have c2 := fun W => Try.strings_Repeat r q W (by omega) (by omega)
      have heq := eqB_list p (Lib.repeatL r.data.toList q)
      obtain ⟨y, hy⟩ : ∃ y : ByteArray, ⟨(Lib.repeatL r.data.toList q).toArray⟩ = y := ⟨_, rfl⟩
      have hy2 : (⟨⟨Lib.repeatL r.data.toList q⟩⟩ : ByteArray) = y := hy
      obtain ⟨d, hd⟩ : ∃ d, decide (p.data.toList = Lib.repeatL r.data.toList q) = d := ⟨_, rfl⟩
      rw [hy] at c2
      rw [hy2, hd] at heq
      rw [hd]
      have C2 := hidv c2
      clear c2 hy hy2 hd e2
      go_enter Try.func24, Try.ntmps24
      go_wp2_with fail
      refine (C1.out _).mono ?_
      rintro e w1 ⟨rfl, rfl⟩
      go_wp2_with fail
      refine (C2.out _).mono ?_
      rintro e w2 ⟨rfl, hb2⟩
      go_wp2_with fail
      go_ret
      exact ⟨rfl, below_on (below_al (Below.refl _ _) _) hb2⟩
    · rw [decide_eq_false h3, Bool.false_and]
      clear e2
      go_enter Try.func24, Try.ntmps24
      go_wp2_with fail
      refine (C1.out _).mono ?_
      rintro e w1 ⟨rfl, rfl⟩
      go_wp2_with fail
      go_ret
      exact ⟨rfl, below_al (Below.refl _ _) _⟩

end Go.Proofs.Ythgbfjeemfcnlaa
