/-
  Whether terms have another unknown than X: the program's sideOf, check and codeOfTerms: contracts.
-/
import Derived.Test.YthgbfjeemfcnlaaDoorAs2
import Derived.Test.YthgbfjeemfcnlaaDoorSym
namespace Go.Proofs.YthgbfjeemfcnlaaDoor
open Go.RowKit Go
set_option linter.unusedVariables false

/-- The cell of the package errors' own variable. -/
def EL (w : World) : Prop := w.cell? ⟨0, 0, none⟩ = some (.iface 82 (.agg #[.pointer (some ⟨2, 47, none⟩)]))
theorem EL.lt {w : World} (h : EL w) : 0 < w.heap.size := World.block_lt_of_cell? _ _ h
theorem EL.below {w w' : World} (h : EL w) (hb : Below w.heap.size w w') : EL w' := (hb.cell (p := ⟨0, 0, none⟩) h.lt).trans h
theorem EL.belowB {w w' : World} {B : Nat} (h : EL w) (hb : Below B w w') (hB : 0 < B) : EL w' := (hb.cell (p := ⟨0, 0, none⟩) hB).trans h

/-- Letters and X alone. -/
def aloneB (l : List UInt8) : Bool := l.all fun c => Wd.isL c || c == 88

theorem sideOf_any (s : ByteArray) (w : World) (hs : s.size ≤ 24) :
    Calls Tryd.prog 19 #[.string s] w fun e w' => ∃ A c b, e = .returned (.pointer (some ⟨b, 0, none⟩)) ∧ w'.cell? ⟨b, 0, none⟩ = some (.slice A s.size c) ∧ SymAt w' w.heap.size A s ∧ Below w.heap.size w w' := by
  have C1 := hidv (symbols_at s w hs)
  go_enter Tryd.func19, Tryd.ntmps19
  go_wp2_with fail
  refine C1.out.mono ?_
  rintro e w1 ⟨A, c, rfl, hsy, hb1⟩
  have hs1 := hb1.size
  go_wp2_with fail
  go_ret
  refine ⟨A, c, _, rfl, (Bx.new _ _ _).cell 0, ?_, below_al hb1 _⟩
  exact hsy.keep (by simp) (fun p h1 h2 => World.cell?_alloc_lt _ _ _ h2)

theorem unk_zero (c : UInt8) (h : Wd.isU c = true) : (Wd.unkI c == 0) = (c == 88) := by
  have : c = 88 ∨ c = 89 ∨ c = 90 ∨ c = 87 := by
    unfold Wd.isU at h
    simp at h
    rcases h with ((h | h) | h) | h <;> simp [h]
  rcases this with rfl | rfl | rfl | rfl <;> decide

theorem termC {s : ByteArray} (hv : Wd.termB s.data.toList = true) (k : Nat) (hk : k < s.size) : Wd.isL s[k] = true ∨ Wd.isL s[k] = false ∧ Wd.isU s[k] = true := by
  unfold Wd.termB at hv
  rw [Bool.and_eq_true, List.all_eq_true] at hv
  have := hv.2 s[k] (by
    have : s.data.toList[k]'(by simpa using hk) ∈ s.data.toList := List.getElem_mem _
    exact this)
  cases h : Wd.isL s[k]
  · rw [h, Bool.false_or] at this
    exact .inr ⟨rfl, this⟩
  · exact .inl rfl

def ChkP (r : Bool) (e : Ending) : Prop := (r = true → e = .returned .nilIface) ∧ (r = false → ∃ x : Int, e = .returned (.iface 44 (.agg #[.int .i64 x])))

set_option maxRecDepth 100000 in
set_option maxHeartbeats 800000 in
theorem check_any (s : ByteArray) (A : Option Addr) (c b B : Nat) (w : World) (hc : w.cell? ⟨b, 0, none⟩ = some (.slice A s.size c)) (hsy : SymAt w B A s) (hs : s.size ≤ 24) (hv : Wd.termB s.data.toList = true) :
    Calls Tryd.prog 20 #[.pointer (some ⟨b, 0, none⟩)] w fun e w' => ChkP (aloneB s.data.toList) e ∧ w = w' := by
  have HSY := hidv hsy
  have HV := hidv hv
  obtain ⟨r, hr⟩ : ∃ r, aloneB s.data.toList = r := ⟨_, rfl⟩
  have HR : Hid ((s.data.toList.all fun c => Wd.isL c || c == 88) = r) := hidv hr
  rw [hr]
  clear hsy hv hr
  go_enter Tryd.func20, Tryd.ntmps20
  go_wp2
  go_loop [11] (fun i => ∃ k : Nat, k ≤ s.size ∧ i = .int .i64 k ∧ Hid ((s.data.toList.take k).all (fun c => Wd.isL c || c == 88) = true)) (fun i => s.size - (intOf i).toNat)
  case atStart => exact ⟨0, Nat.zero_le _, rfl, hidv (by simp)⟩
  case round =>
    obtain ⟨k, hk, rfl, hall⟩ := hrel
    by_cases hlt : k < s.size
    · obtain ⟨g, rfl, hbg, hgl, hce⟩ := HSY.out (by omega)
      have c1 : w.cell? ⟨g, k, none⟩ = some (symV s[k]) := hce k hlt
      have hsu := all_take_succ s.data.toList (fun c => Wd.isL c || c == 88) k (by simpa using hlt)
      have hfa := all_false_of s.data.toList (fun c => Wd.isL c || c == 88) k (by simpa using hlt)
      rw [hall.out, Bool.true_and] at hsu
      rw [HR.out] at hfa
      have hsk : s.data.toList[k]'(by simpa using hlt) = s[k] := rfl
      rw [hsk] at hsu hfa
      have HSU := hidv hsu
      have HFA := hidv hfa
      clear hce hsu hfa
      rcases termC HV.out k hlt with hl | ⟨hl, hu⟩
      · have hsv : symV s[k] = .iface 94 (.int .i64 ((s[k].toNat : Int) - 97)) := by unfold symV; rw [hl]; rfl
        rw [hsv] at c1
        obtain ⟨x, hx⟩ : ∃ x : Int, (s[k].toNat : Int) - 97 = x := ⟨_, rfl⟩
        rw [hx] at c1
        have HSU2 : Hid ((s.data.toList.take (k + 1)).all (fun c => Wd.isL c || c == 88) = true) := hidv (HSU.out.trans (by show (Wd.isL s[k] || s[k] == 88) = true; rw [hl]; rfl))
        have hta := assertLU x w
        clear hl hx hsv hsk
        go_wp2
        go_round
        case rel => exact ⟨k + 1, by omega, by go_num, HSU2⟩
        case measure => simp [intOf]; omega
      · have hsv : symV s[k] = .iface 40 (.int .i64 (Wd.unkI s[k])) := by unfold symV; rw [hl]; rfl
        rw [hsv] at c1
        have hz := unk_zero s[k] hu
        obtain ⟨x, hx⟩ : ∃ x : Int, Wd.unkI s[k] = x := ⟨_, rfl⟩
        rw [hx] at c1 hz
        have hta := assertUU x w
        cases h88 : (s[k] == 88)
        · rw [h88] at hz
          have hr0 : r = false := HFA.out (by show (Wd.isL s[k] || s[k] == 88) = false; rw [hl, h88]; rfl)
          have hne : (x != 0) = true := by rw [bne, hz]; rfl
          clear hl hu hx hsv hsk h88 hz
          go_wp2
          go_ret
          exact ⟨⟨fun h => absurd (by first | exact hr0.symm.trans h | exact h) (by decide), fun _ => ⟨_, rfl⟩⟩, rfl⟩
        · rw [h88] at hz
          have HSU2 : Hid ((s.data.toList.take (k + 1)).all (fun c => Wd.isL c || c == 88) = true) := hidv (HSU.out.trans (by show (Wd.isL s[k] || s[k] == 88) = true; rw [hl, h88]; rfl))
          have hne : (x != 0) = false := by rw [bne, hz]; rfl
          clear hl hu hx hsv hsk h88 hz
          go_wp2
          go_round
          case rel => exact ⟨k + 1, by omega, by go_num, HSU2⟩
          case measure => simp [intOf]; omega
    · have hr1 : r = true := by
        have h2 := hall.out
        rw [List.take_of_length_le (by simp; omega)] at h2
        rw [← HR.out]; exact h2
      go_wp2
      go_ret
      exact ⟨⟨fun _ => rfl, fun h => absurd (by first | exact hr1.symm.trans h | exact h) (by decide)⟩, rfl⟩

end Go.Proofs.YthgbfjeemfcnlaaDoor
