/-
  The heads of a stripped equation, of the program: contracts of what makes steps.
-/
import Derived.Test.YtfnlikjdfihggaaLU
import Derived.Test.YtfnlikjdfihggaaStpR
import Derived.Test.YtfnlikjdfihggaaEq
import Derived.Deep.RegionHeld3
namespace Go.Proofs.Ytfnlikjdfihggaa
open Go.RowKit Go
set_option linter.unusedVariables false

/-- What a text begins with. -/
def hd (s : ByteArray) : ByteArray := s.extract 0 (min s.size 1)

set_option maxHeartbeats 400000 in
theorem headsOf_any (l r : ByteArray) (w : World) (hl : l.size ≤ 24) (hr : r.size ≤ 24) :
    Calls Try.prog 63 #[.agg #[.string l, .string r]] w fun e w' => e = .returned (.agg #[.string (hd l), .string (hd r)]) ∧ Below w.heap.size w w' := by
  unfold hd
  obtain ⟨m, hm⟩ : ∃ m, min l.size 1 = m := ⟨_, rfl⟩
  obtain ⟨n, hn⟩ : ∃ m, min r.size 1 = m := ⟨_, rfl⟩
  rw [hm, hn]
  have a1 : min (l.size : Int) 1 = (m : Int) := by omega
  have a2 : min (r.size : Int) 1 = (n : Int) := by omega
  have b1 : (m : Int) ≤ (l.size : Int) := by omega
  have b2 : (n : Int) ≤ (r.size : Int) := by omega
  have b3 : (0 : Int) ≤ (m : Int) := by omega
  have b4 : (0 : Int) ≤ (n : Int) := by omega
  clear hm hn
  go_enter Try.func63, Try.ntmps63
  go_wp2_with fail
  obtain ⟨w0, hw0⟩ : ∃ w0, w0 = ((w.alloc (.cells #[.string l, .string r] 28)).alloc (.cells #[.string ⟨#[]⟩, .string ⟨#[]⟩] 81)) := ⟨_, rfl⟩
  rw [← hw0]
  have hE : Bx w0 w.heap.size 28 #[.string l, .string r] := by rw [hw0]; exact (Bx.new _ _ _).alloc _
  have hR : Bx w0 (w.heap.size + 1) 81 #[.string ⟨#[]⟩, .string ⟨#[]⟩] := by
    rw [hw0]
    have := Bx.new (w.alloc (.cells #[.string l, .string r] 28)) 81 #[.string ⟨#[]⟩, .string ⟨#[]⟩]
    rw [World.size_alloc] at this
    exact this
  have hB0 : Below w.heap.size w w0 := by rw [hw0]; exact ((Below.refl _ _).alloc (Nat.le_refl _) _).alloc (by simp) _
  clear hw0
  obtain ⟨e0, e1⟩ := hE.two
  obtain ⟨x0, x1⟩ := hR.two
  have z0 := hR.frozen 0
  have z1 := hR.frozen 1
  have HR := hidv hR
  have HB0 := hidv hB0
  clear hE hR hB0
  go_region
  have F0 := hidv (((HR.out.set 0 (.string (l.extract 0 m))).set 1 (.string (r.extract 0 n))).cell 0)
  have F1 := hidv (((HR.out.set 0 (.string (l.extract 0 m))).set 1 (.string (r.extract 0 n))).cell 1)
  go_wp2_with fail
  refine bodyPost_ret (v := .agg #[.string (l.extract 0 m), .string (r.extract 0 n)]) ?_ rfl ⟨rfl, ?_⟩
  · simp [results, Try.results63, go_sem, F0.out, F1.out]
  · exact Below.drew ((HB0.out.setCell (by simp) _).setCell (by simp) _)

/-- The number of the unknown that a text is. -/
def unN (s : ByteArray) : Int := Wd.unkI (s.data.toList.headD 0)
/-- What a maker of steps answers. -/
def mkV (x y : ByteArray) (b : Bool) : Value := if (b && uB x.data.toList) = true then .tuple #[.agg #[.int .i64 (unN x), .string y], .bool true] else .tuple #[.agg #[.int .i64 0, .string ⟨#[]⟩], .bool false]

theorem idx_unknowns (c : UInt8) : Lib.indexByte [88, 89, 90, 87] c = Wd.unkI c := by
  simp only [Lib.indexByte, Wd.unkI]
  by_cases h0 : c = 88
  · subst h0; rfl
  by_cases h1 : c = 89
  · subst h1; rfl
  by_cases h2 : c = 90
  · subst h2; rfl
  by_cases h3 : c = 87
  · subst h3; rfl
  have g0 : ¬ (88 : UInt8) = c := fun e => h0 e.symm
  have g1 : ¬ (89 : UInt8) = c := fun e => h1 e.symm
  have g2 : ¬ (90 : UInt8) = c := fun e => h2 e.symm
  have g3 : ¬ (87 : UInt8) = c := fun e => h3 e.symm
  simp [h0, h1, h2, h3, g0, g1, g2, g3]

set_option maxHeartbeats 400000 in
theorem replacing_any (x y : ByteArray) (b : Bool) (w : World) (hx : x.size ≤ maxLen) :
    Calls Try.prog 83 #[.string x, .string y, .bool b] w fun e w' => e = .returned (mkV x y b) ∧ Below w.heap.size w w' := by
  have c1 := fun W => isU_any x W hx
  unfold mkV
  cases b
  · rw [show (false && uB x.data.toList) = false from rfl]
    rw [if_neg (by decide)]
    clear c1
    go_enter Try.func83, Try.ntmps83
    go_wp2_with fail
    refine bodyPost_ret (v := .tuple #[.agg #[.int .i64 0, .string ⟨#[]⟩], .bool false]) ?_ rfl ⟨rfl, ?_⟩
    · simp [results, Try.results83, go_sem]
    · exact (Below.refl _ _).alloc (Nat.le_refl _) _
  rw [Bool.true_and]
  cases hu : uB x.data.toList
  · rw [hu] at c1
    rw [if_neg (by decide)]
    have C1 := hidv c1
    clear c1 hu
    go_enter Try.func83, Try.ntmps83
    go_wp2_with fail
    refine (C1.out _).mono ?_
    rintro e w1 ⟨rfl, rfl⟩
    go_wp2_with fail
    refine bodyPost_ret (v := .tuple #[.agg #[.int .i64 0, .string ⟨#[]⟩], .bool false]) ?_ rfl ⟨rfl, ?_⟩
    · simp [results, Try.results83, go_sem]
    · exact (Below.refl _ _).alloc (Nat.le_refl _) _
  · rw [hu] at c1
    rw [if_pos rfl]
    have h1 : x.size = 1 := by
      by_cases h : x.data.toList.length = 1
      · simpa using h
      · rw [uB_not h] at hu; cases hu
    obtain ⟨c, rfl⟩ := lu_one h1
    have c2 : ∀ W, Calls Try.prog 45 #[.string ⟨#[88, 89, 90, 87]⟩, .string ⟨#[c]⟩] W fun e w' => e = .returned (.int .i64 (Wd.unkI c)) ∧ w' = W := by
      intro W
      have := Try.strings_Index_one ⟨#[88, 89, 90, 87]⟩ c W
      rw [show Lib.indexByte (⟨#[88, 89, 90, 87]⟩ : ByteArray).data.toList c = Wd.unkI c from idx_unknowns c] at this
      exact this
    rw [show unN ⟨#[c]⟩ = Wd.unkI c from rfl]
    obtain ⟨s, hs⟩ : ∃ s : ByteArray, ⟨#[c]⟩ = s := ⟨_, rfl⟩
    obtain ⟨q, hq⟩ : ∃ q, Wd.unkI c = q := ⟨_, rfl⟩
    rw [hs] at c1 c2 ⊢
    rw [hq] at c2 ⊢
    have C1 := hidv c1
    have C2 := hidv c2
    clear c1 c2 hu h1 hs hq hx
    go_enter Try.func83, Try.ntmps83
    go_wp2_with fail
    refine (C1.out _).mono ?_
    rintro e w1 ⟨rfl, rfl⟩
    go_wp2_with fail
    refine (C2.out _).mono ?_
    rintro e w1 ⟨rfl, rfl⟩
    go_wp2_with fail
    refine bodyPost_ret (v := .tuple #[.agg #[.int .i64 q, .string y], .bool true]) ?_ rfl ⟨rfl, ?_⟩
    · simp [results, Try.results83, go_sem]
    · exact (Below.refl _ _).alloc (Nat.le_refl _) _

end Go.Proofs.Ytfnlikjdfihggaa
