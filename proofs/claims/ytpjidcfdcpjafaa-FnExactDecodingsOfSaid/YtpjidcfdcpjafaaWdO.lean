/-
  Whether words stand in order: the program's areWordsInOrder: a contract.
-/
import Derived.Test.YtpjidcfdcpjafaaCmp
import Derived.Test.YtpjidcfdcpjafaaStr
import Derived.Test.YtpjidcfdcpjafaaPow
namespace Go.Proofs.Ytpjidcfdcpjafaa
open Go.RowKit Go
set_option linter.unusedVariables false

def okW (xs : List ByteArray) (i : Nat) : Bool := Wd.wordB (xs.getD i ⟨#[]⟩).data.toList && (decide (i = 0) || soonB (xs.getD (i - 1) ⟨#[]⟩) (xs.getD i ⟨#[]⟩))
def wordsB (xs : List ByteArray) : Bool := Wd.allN xs.length (okW xs)
theorem str_at {xs : List ByteArray} {k : Nat} (h : k < xs.length) : xs.getD k ⟨#[]⟩ = xs[k] := by
  rw [List.getD_eq_getElem?_getD, List.getElem?_eq_getElem h]; rfl

set_option maxRecDepth 100000 in
set_option maxHeartbeats 800000 in
theorem inOrder_any (v : Value) (xs : List ByteArray) (B : Nat) (w : World) (hv : Row w B v (xs.map Value.string)) (hB : B ≤ w.heap.size) (hx : xs.length ≤ 1048576) (hs : ∀ s ∈ xs, s.size ≤ maxLen) :
    Calls Try.prog 87 #[v] w fun e w' => e = .returned (.bool (wordsB xs)) ∧ Below w.heap.size w w' := by
  obtain ⟨A, c, rfl, hA⟩ := strRow_at hv
  obtain ⟨n, hn⟩ : ∃ n, xs.length = n := ⟨_, rfl⟩
  have HR : Hid (Wd.allN n (okW xs) = wordsB xs) := hidv (by rw [← hn]; rfl)
  obtain ⟨r, hr⟩ : ∃ r, wordsB xs = r := ⟨_, rfl⟩
  rw [hr] at HR ⊢
  have HA := hidv hA
  rw [hn] at hx ⊢
  have HN := hidv hn
  have HS := hidv hs
  clear hn hr hA hv hs
  go_enter Try.func87, Try.ntmps87
  go_wp2
  go_loopw [7] (fun i wr => ∃ k : Nat, k ≤ n ∧ i = .int .i64 k ∧ Hid (Wd.allN k (okW xs) = true) ∧ Hid (Below w.heap.size w wr)) (fun i _ => n - (intOf i).toNat)
  case atStart => exact ⟨0, Nat.zero_le _, rfl, hidv rfl, hidv (Below.refl _ _)⟩
  case round =>
    obtain ⟨k, hk, rfl, hall, hbe⟩ := hrel
    by_cases hlt : k < n
    · have hkx : k < xs.length := by have := HN.out; omega
      obtain ⟨g, o, rfl, hg, hce⟩ := HA.out (by have := HN.out; omega)
      have c1 : wr.cell? ⟨g, o + k, none⟩ = some (.string xs[k]) := (hbe.out.cell (p := ⟨g, _, none⟩) (by show g < _; omega)).trans (hce k hkx)
      have hsz := HS.out xs[k] (List.getElem_mem _)
      have hcall := fun W => implValidWord_any xs[k] W hsz
      have hsu := Wd.allN_succ k (okW xs)
      have hfa := Wd.allN_false (f := okW xs) k hlt
      rw [hall.out, Bool.true_and] at hsu
      rw [HR.out] at hfa
      unfold okW at hsu hfa
      rw [str_at hkx] at hsu hfa
      rcases Nat.eq_zero_or_pos k with h0 | h0
      · subst h0
        rw [Nat.add_zero] at c1
        obtain ⟨x, hx1⟩ : ∃ x, xs[0] = x := ⟨_, rfl⟩
        rw [hx1] at c1 hsz hcall hsu hfa
        obtain ⟨q, hq⟩ : ∃ q, Wd.wordB x.data.toList = q := ⟨_, rfl⟩
        rw [hq] at hcall hsu hfa
        rw [decide_eq_true rfl, Bool.true_or, Bool.and_true] at hsu hfa
        have HC := hidv hcall
        have HSU := hidv hsu
        have HFA := hidv hfa
        clear hx1 hce hcall hsu hfa hq hsz
        cases q
        · go_wp2_with (go_at_call 55; refine (HC.out _).mono ?_; rintro e w' ⟨rfl, rfl⟩)
          go_ret
          exact ⟨ret_bool (HFA.out (by trivial)).symm, hbe.out⟩
        · go_wp2_with (go_at_call 55; refine (HC.out _).mono ?_; rintro e w' ⟨rfl, rfl⟩)
          go_roundw
          case rel => exact ⟨1, by omega, by go_num, HSU, hbe⟩
          case measure => simp [intOf]; omega
      · obtain ⟨j, rfl⟩ : ∃ j, k = j + 1 := ⟨k - 1, by omega⟩
        have c2 : wr.cell? ⟨g, o + j, none⟩ = some (.string xs[j]) := (hbe.out.cell (p := ⟨g, _, none⟩) (by show g < _; omega)).trans (hce j (by omega))
        have hsy := HS.out xs[j] (List.getElem_mem _)
        have hcmp := fun W => compareWords_any xs[j] xs[j + 1] W hsy hsz
        rw [decide_eq_false (by omega), Bool.false_or, Nat.add_sub_cancel, str_at (show j < xs.length by omega)] at hsu hfa
        obtain ⟨x, hx1⟩ : ∃ x, xs[j + 1] = x := ⟨_, rfl⟩
        obtain ⟨y, hy1⟩ : ∃ x, xs[j] = x := ⟨_, rfl⟩
        rw [hx1] at c1 hsz hcall hsu hfa hcmp
        rw [hy1] at c2 hsy hsu hfa hcmp
        obtain ⟨q, hq⟩ : ∃ q, Wd.wordB x.data.toList = q := ⟨_, rfl⟩
        rw [hq] at hcall hsu hfa
        have hcn := cmpW_neg y x
        have hcr := cmpW_range y x
        obtain ⟨z, hz⟩ : ∃ z, cmpW y x = z := ⟨_, rfl⟩
        rw [hz] at hcmp hcn hcr
        have HC := hidv hcall
        have HCM := hidv hcmp
        have HSU := hidv hsu
        have HFA := hidv hfa
        clear hx1 hy1 hce hcall hsu hfa hq hsz hsy hcmp hz
        cases q
        · go_wp2_with (go_at_call 55; refine (HC.out _).mono ?_; rintro e w' ⟨rfl, rfl⟩)
          go_ret
          exact ⟨ret_bool (HFA.out (by rw [Bool.false_and])).symm, hbe.out⟩
        · go_wp2_with (first | (go_at_call 55; refine (HC.out _).mono ?_; rintro e w' ⟨rfl, rfl⟩))
          refine (HCM.out _).mono ?_
          rintro e w2 ⟨rfl, hb2⟩
          have HB2 := hidv (below_on hbe.out hb2)
          clear hb2
          cases hsb : soonB y x
          · rw [hsb] at hcn
            have hz0 : 0 ≤ z := of_decide_eq_true hcn
            have hr0 : r = false := (HFA.out (by rw [hsb]; rfl)).symm.symm
            clear hcn
            go_wp2_with fail
            go_ret
            exact ⟨ret_bool hr0.symm, HB2.out⟩
          · rw [hsb] at hcn
            have hz0 : ¬ 0 ≤ z := of_decide_eq_false hcn
            have hsu2 : Wd.allN (j + 1 + 1) (okW xs) = true := HSU.out.trans (by rw [hsb]; rfl)
            clear hcn
            go_wp2_with fail
            go_roundw
            case rel => exact ⟨j + 1 + 1, by omega, by go_num, hidv hsu2, HB2⟩
            case measure => simp [intOf]; omega
    · obtain rfl : k = n := by omega
      go_wp2
      go_ret
      exact ⟨ret_bool (hall.out.symm.trans HR.out), hbe.out⟩

end Go.Proofs.Ytpjidcfdcpjafaa
