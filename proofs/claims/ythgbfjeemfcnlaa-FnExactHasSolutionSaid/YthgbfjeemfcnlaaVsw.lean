/-
  ValidSolutions of the model, at every description: contracts.
-/
import Derived.Test.YthgbfjeemfcnlaaVss
namespace Go.Proofs.Ythgbfjeemfcnlaa
open Go.RowKit Go
set_option linter.unusedVariables false

set_option maxRecDepth 100000 in
set_option maxHeartbeats 1600000 in
theorem specOk_any (b : Nat) (e : Bool) (va vb : Value) (xs : List ByteArray) (ps : List Pw) (B : Nat) (w : World) (hb0 : w.cell? ⟨b, 0, none⟩ = some (.bool e)) (hb1 : w.cell? ⟨b, 1, none⟩ = some va) (hb2 : w.cell? ⟨b, 2, none⟩ = some vb)
    (ha : Row w B va (xs.map Value.string)) (hb : PRow w B vb ps) (hB : B ≤ w.heap.size) (hs : DescSz xs ps) (hx : xs.length ≤ 1048576) (hp : ps.length ≤ 1048576) :
    Calls Try.prog 17 #[.pointer (some ⟨b, 0, none⟩)] w fun e1 w' => e1 = .returned (.bool (validB e xs ps)) ∧ Below w.heap.size w w' := by
  cases e
  · exact specValid_any b va vb xs ps B w hb0 hb1 hb2 ha hb hB hs hx hp
  · obtain ⟨A, ca, rfl, hA⟩ := strRow_at ha
    obtain ⟨Q, cp, rfl, hQ⟩ := hb
    unfold validB
    rw [if_pos rfl]
    obtain ⟨n, hn⟩ : ∃ n, xs.length = n := ⟨_, rfl⟩
    obtain ⟨m, hm⟩ : ∃ n, ps.length = n := ⟨_, rfl⟩
    rw [hn] at hb1 hx ⊢
    rw [hm] at hb2 hp ⊢
    clear ha hA hQ hs hn hm
    by_cases h1 : n = 0
    · by_cases h2 : m = 0
      · have d1 : ((n : Int) == 0) = true := by rw [beq_iff_eq]; omega
        have d2 : ((m : Int) == 0) = true := by rw [beq_iff_eq]; omega
        rw [decide_eq_true h1, decide_eq_true h2]
        clear h1 h2
        go_enter Try.func17, Try.ntmps17
        go_wp2_with fail
        go_ret
        exact ⟨rfl, Below.refl _ _⟩
      · have d1 : ((n : Int) == 0) = true := by rw [beq_iff_eq]; omega
        have d2 : ((m : Int) == 0) = false := by rw [beq_eq_false_iff_ne]; omega
        rw [decide_eq_true h1, decide_eq_false h2]
        clear h1 h2
        go_enter Try.func17, Try.ntmps17
        go_wp2_with fail
        go_ret
        exact ⟨rfl, Below.refl _ _⟩
    · have d1 : ((n : Int) == 0) = false := by rw [beq_eq_false_iff_ne]; omega
      rw [decide_eq_false h1, Bool.false_and]
      clear h1
      go_enter Try.func17, Try.ntmps17
      go_wp2_with fail
      go_ret
      exact ⟨rfl, Below.refl _ _⟩

set_option maxHeartbeats 400000 in
theorem specValidS_any (v : Value) (e : Bool) (xs : List ByteArray) (ps : List Pw) (B : Nat) (w : World) (hv : Desc w B v e xs ps) (hB : B ≤ w.heap.size) (hs : DescSz xs ps) (hx : xs.length ≤ 1048576) (hp : ps.length ≤ 1048576) :
    Calls Try.prog 7 #[v] w fun e1 w' => e1 = .returned (.bool (validB e xs ps)) ∧ Below w.heap.size w w' := by
  obtain ⟨va, vb, rfl, ha, hb⟩ := hv
  have hbx0 : Below w.heap.size w (w.alloc (.cells #[.bool e, va, vb] 30)) := below_al (Below.refl _ _) _
  have hx0 := Bx.new w 30 #[.bool e, va, vb]
  have C1 := hidv (specOk_any w.heap.size e va vb xs ps B _ (hx0.cell 0) (hx0.cell 1) (hx0.cell 2) (ha.below (hbx0.mono hB)) (hb.below (hbx0.mono hB)) (Nat.le_trans hB hbx0.size) hs hx hp)
  obtain ⟨r, hr⟩ : ∃ r, validB e xs ps = r := ⟨_, rfl⟩
  rw [hr] at C1 ⊢
  have HBX := hidv hbx0
  clear ha hb hs hx0 hbx0 hr
  go_enter Try.func7, Try.ntmps7
  go_wp2_with fail
  refine C1.out.mono ?_
  rintro e1 w1 ⟨rfl, hb1⟩
  go_wp2_with fail
  go_ret
  exact ⟨rfl, below_on HBX.out hb1⟩

end Go.Proofs.Ythgbfjeemfcnlaa
