/-
  Holds of the program: contracts; and of the model.
-/
import Derived.Test.YtdnkdmmockoehaaGreatHolds
namespace Go.Proofs.YtdnkdmmockoehaaGreat
open Go.RowKit Go
set_option linter.unusedVariables false

/-- What Holds gives: whether values are a solution, and the code. -/
def holdsV (es : List Eqn) (xs : List ByteArray) : Bool := if sysB es && valsB xs then holdsB es xs else false
def holdsC (es : List Eqn) (xs : List ByteArray) : Int := if sysB es && valsB xs then 0 else 1
theorem ret_boolint {a b : Bool} {c d : Int} (h1 : a = b) (h2 : c = d) : Ending.returned (.tuple #[.bool a, .int .i64 c]) = .returned (.tuple #[.bool b, .int .i64 d]) := by rw [h1, h2]

set_option maxRecDepth 100000 in
set_option maxHeartbeats 1600000 in
theorem implSolves_any (v u : Value) (es : List Eqn) (xs : List ByteArray) (B C : Nat) (w : World) (hv : ERow w B v es) (hB : B ≤ w.heap.size) (hr : Row w C u (xs.map Value.string)) (hC : C ≤ w.heap.size) (h1 : sysB es = true) (h2 : ValsM 1000000 xs) :
    Calls Tryz.prog 45 #[v, u] w fun e w' => e = .returned (.bool (holdsB es xs)) ∧ Below w.heap.size w w' := by
  obtain ⟨A, c, rfl, hA⟩ := hv
  obtain ⟨n, hn⟩ : ∃ n, es.length = n := ⟨_, rfl⟩
  have HA := hidv hA
  rw [hn]
  have h4 : n ≤ 4 := by rw [← hn]; exact sysB_len h1
  have HN := hidv hn
  have HSB := hidv h1
  have HR := hidv hr
  have HX := hidv h2
  obtain ⟨b, hb⟩ : ∃ b, holdsB es xs = b := ⟨_, rfl⟩
  rw [hb]
  have HB := hidv hb
  clear hA hn h1 h2 hr hb
  go_enter Tryz.func45, Tryz.ntmps45
  go_wp2_with fail
  go_loopw [9] (fun i wr => ∃ k : Nat, k ≤ n ∧ i = .int .i64 k ∧ Hid ((es.take k).all (evenB xs) = true) ∧ Hid (Below w.heap.size w wr)) (fun i _ => n - (intOf i).toNat)
  case atStart => exact ⟨0, Nat.zero_le _, rfl, hidv (by simp), hidv (Below.refl _ _)⟩
  case round =>
    obtain ⟨k, hk, rfl, hall, hbe⟩ := hrel
    by_cases hlt : k < n
    · have hkx : k < es.length := by have := HN.out; omega
      obtain ⟨g, o, rfl, hg, hce⟩ := HA.out (by omega)
      have c1 : wr.cell? ⟨g, o + k * 2, none⟩ = some (.string es[k].1) := (hbe.out.cell (p := ⟨g, _, none⟩) (by show g < _; omega)).trans (hce k hkx).1
      have c2 : wr.cell? ⟨g, o + k * 2 + 1, none⟩ = some (.string es[k].2) := (hbe.out.cell (p := ⟨g, _, none⟩) (by show g < _; omega)).trans (hce k hkx).2
      have hsz := sysB_szAt HSB.out k hkx
      have htm := eqnB_terms (sysB_at HSB.out k hkx)
      have hsu := all_succG es (evenB xs) k hkx
      have hfa := all_falseG es (evenB xs) k hkx
      rw [hall.out, Bool.true_and] at hsu
      obtain ⟨⟨x, y⟩, hxy⟩ : ∃ x, es[k] = x := ⟨_, rfl⟩
      rw [hxy] at c1 c2 hsz htm hsu hfa
      dsimp only at c1 c2 hsz htm
      obtain ⟨W0, hW0⟩ : ∃ W0, wr.alloc (.cells #[.string x, .string y] 48) = W0 := ⟨_, rfl⟩
      have hbx : Bx W0 wr.heap.size 48 #[.string x, .string y] := by rw [← hW0]; exact Bx.new _ _ _
      have hb0 : Below w.heap.size w W0 := by rw [← hW0]; exact below_al hbe.out _
      have C3 := hidv (fun W (hb : Below w.heap.size w W) => textByM_any x u xs C W hsz.1 htm.1 (HR.out.below (hb.mono hC)) (by have := hb.size; omega) HX.out)
      have C4 := hidv (fun W (hb : Below w.heap.size w W) => textByM_any y u xs C W hsz.2 htm.2 (HR.out.below (hb.mono hC)) (by have := hb.size; omega) HX.out)
      have HS := hidv (fun w' (hw : Below W0.heap.size W0 w') => (show w'.cell? ⟨wr.heap.size, 0, none⟩ = some (.string x) ∧ w'.cell? ⟨wr.heap.size, 1, none⟩ = some (.string y) ∧ Below w.heap.size w w' ∧ Below W0.heap.size W0 w' from
        ⟨(hbx.below hw).two.1, (hbx.below hw).two.2, below_on hb0 hw, hw⟩))
      have HK := hidv (fun w' (hw : Below W0.heap.size W0 w') => below_on hb0 hw)
      by_cases hpq : putL x.data.toList xs = putL y.data.toList xs
      · rw [hpq] at C3
        have HSU := hidv (hsu.trans (decide_eq_true hpq))
        obtain ⟨p, hp⟩ : ∃ p : ByteArray, ⟨⟨putL y.data.toList xs⟩⟩ = p := ⟨_, rfl⟩
        rw [hp] at C3 C4
        clear hce hxy hsz htm hsu hfa hpq hp hbx hb0
        go_wp2_with fail
        clear hW0
        go_region_held3 (fun w' => w'.cell? ⟨wr.heap.size, 0, none⟩ = some (.string x) ∧ w'.cell? ⟨wr.heap.size, 1, none⟩ = some (.string y) ∧ Below w.heap.size w w' ∧ Below W0.heap.size W0 w') (first | exact HS.out _ (below_dr _) | exact HS.out _ (by assumption)) (first | (go_at_call 73; (first | with_reducible refine (C3.out _ ?_).mono ?_ | with_reducible refine (C4.out _ ?_).mono ?_); exact HK.out _ (by first | assumption | exact below_dr _); rintro e w3 ⟨rfl, hbw⟩; replace hbw := below_on (show Below W0.heap.size W0 _ from by first | assumption | exact below_dr _) hbw))
        go_wp2
        have HBE := hidv (HK.out _ hbw)
        go_roundw
        case rel => exact ⟨k + 1, by omega, by go_num, HSU, HBE⟩
        case measure => simp [intOf]; omega
      · have HFA := hidv (hfa (decide_eq_false hpq))
        have hne := ba_ne hpq
        obtain ⟨p, hp⟩ : ∃ p : ByteArray, ⟨⟨putL x.data.toList xs⟩⟩ = p := ⟨_, rfl⟩
        obtain ⟨q, hq⟩ : ∃ p : ByteArray, ⟨⟨putL y.data.toList xs⟩⟩ = p := ⟨_, rfl⟩
        rw [hp] at C3 hne
        rw [hq] at C4 hne
        have hb1 := toList_ne hne
        clear hce hxy hsz htm hsu hfa hpq hp hq hne hbx hb0
        go_wp2_with fail
        clear hW0
        go_region_held3 (fun w' => w'.cell? ⟨wr.heap.size, 0, none⟩ = some (.string x) ∧ w'.cell? ⟨wr.heap.size, 1, none⟩ = some (.string y) ∧ Below w.heap.size w w' ∧ Below W0.heap.size W0 w') (first | exact HS.out _ (below_dr _) | exact HS.out _ (by assumption)) (first | (go_at_call 73; (first | with_reducible refine (C3.out _ ?_).mono ?_ | with_reducible refine (C4.out _ ?_).mono ?_); exact HK.out _ (by first | assumption | exact below_dr _); rintro e w3 ⟨rfl, hbw⟩; replace hbw := below_on (show Below W0.heap.size W0 _ from by first | assumption | exact below_dr _) hbw))
        go_wp2
        have HBE := hidv (HK.out _ hbw)
        go_ret
        exact ⟨ret_bool (by rw [← HB.out]; exact HFA.out.symm), HBE.out⟩
    · go_wp2
      go_ret
      refine ⟨ret_bool ?_, hbe.out⟩
      have h2 := hall.out
      rw [List.take_of_length_le (by have := HN.out; omega)] at h2
      rw [← HB.out]
      exact h2.symm

end Go.Proofs.YtdnkdmmockoehaaGreat
