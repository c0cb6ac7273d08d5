/-
  The code of some terms: the program's codeOfTerms: a contract.
-/
import Derived.Test.YthgbfjeemfcnlaaDoorCode
import Derived.Test.YthgbfjeemfcnlaaDoorPow
import Derived.Test.YthgbfjeemfcnlaaDoorStr
namespace Go.Proofs.YthgbfjeemfcnlaaDoor
open Go.RowKit Go
set_option linter.unusedVariables false

def tmI (xs : List ByteArray) (i : Nat) : Bool := Wd.termB (xs.getD i ⟨#[]⟩).data.toList
def alI (xs : List ByteArray) (i : Nat) : Bool := aloneB (xs.getD i ⟨#[]⟩).data.toList
def codeT (xs : List ByteArray) : Int := if Wd.allN xs.length (tmI xs) then (if Wd.allN xs.length (alI xs) then 0 else 4) else 1
theorem str_at {xs : List ByteArray} {k : Nat} (h : k < xs.length) : xs.getD k ⟨#[]⟩ = xs[k] := by
  rw [List.getD_eq_getElem?_getD, List.getElem?_eq_getElem h]; rfl
theorem codeT_term {xs : List ByteArray} (k : Nat) (hk : k < xs.length) (h : tmI xs k = false) : codeT xs = 1 := by
  unfold codeT
  rw [Wd.allN_false k hk h, if_neg (by decide)]
theorem codeT_alone {xs : List ByteArray} (h1 : Wd.allN xs.length (tmI xs) = true) (k : Nat) (hk : k < xs.length) (h : alI xs k = false) : codeT xs = 4 := by
  unfold codeT
  rw [h1, if_pos rfl, Wd.allN_false k hk h, if_neg (by decide)]
theorem codeT_ok {xs : List ByteArray} (h1 : Wd.allN xs.length (tmI xs) = true) (h2 : Wd.allN xs.length (alI xs) = true) : codeT xs = 0 := by
  unfold codeT
  rw [h1, h2, if_pos rfl, if_pos rfl]

set_option maxRecDepth 100000 in
set_option maxHeartbeats 1600000 in
theorem code_any (v : Value) (xs : List ByteArray) (B : Nat) (w : World) (he : EL w) (hv : Row w B v (xs.map Value.string)) (hB : B ≤ w.heap.size) (hx : xs.length ≤ 1048576) (hs : ∀ s ∈ xs, s.size ≤ maxLen) :
    Calls Tryd.prog 11 #[v] w fun e w' => e = .returned (.int .i64 (codeT xs)) ∧ Below w.heap.size w w' := by
  obtain ⟨A, c, rfl, hA⟩ := strRow_at hv
  obtain ⟨n, hn⟩ : ∃ n, xs.length = n := ⟨_, rfl⟩
  obtain ⟨r, hr⟩ : ∃ r, codeT xs = r := ⟨_, rfl⟩
  have HT := hidv (fun k hk h => (by rw [← hr]; exact codeT_term k hk h : r = 1))
  have HL := hidv (fun h1 k hk h => (by rw [← hr]; exact codeT_alone h1 k hk h : r = 4))
  have HO := hidv (fun h1 h2 => (by rw [← hr]; exact codeT_ok h1 h2 : r = 0))
  have HA := hidv hA
  have HS := hidv hs
  have HE := hidv he
  rw [hr]
  rw [hn] at hx ⊢
  have HN := hidv hn
  clear hn hr hA hv hs he
  go_enter Tryd.func11, Tryd.ntmps11
  go_wp2
  go_loop [10] (fun i => ∃ k : Nat, k ≤ n ∧ i = .int .i64 k ∧ Hid (Wd.allN k (tmI xs) = true)) (fun i => n - (intOf i).toNat)
  case atStart => exact ⟨0, Nat.zero_le _, rfl, hidv rfl⟩
  case round =>
    obtain ⟨k, hk, rfl, hall⟩ := hrel
    by_cases hlt : k < n
    · have hkx : k < xs.length := by have := HN.out; omega
      obtain ⟨g, o, rfl, hg, hce⟩ := HA.out (by have := HN.out; omega)
      have c1 := hce k hkx
      have hsz := HS.out xs[k] (List.getElem_mem _)
      have hcall := fun W => implValidTerm_any xs[k] W hsz
      have hsu := Wd.allN_succ k (tmI xs)
      have hfa := HT.out k hkx
      rw [hall.out, Bool.true_and] at hsu
      rw [show tmI xs k = Wd.termB (xs.getD k ⟨#[]⟩).data.toList from rfl, str_at hkx] at hsu hfa
      obtain ⟨y, hy⟩ : ∃ y, xs[k] = y := ⟨_, rfl⟩
      rw [hy] at c1 hcall hsu hfa
      obtain ⟨q, hq⟩ : ∃ q, Wd.termB y.data.toList = q := ⟨_, rfl⟩
      rw [hq] at hcall hsu hfa
      have HC := hidv hcall
      have HSU := hidv hsu
      have HFA := hidv hfa
      clear hce hcall hsu hfa hy hq hsz
      cases q
      · obtain rfl : r = 1 := HFA.out rfl
        go_wp2_with (go_at_call 17; refine (HC.out _).mono ?_; rintro e w' ⟨rfl, rfl⟩)
        go_ret
        exact ⟨rfl, Below.refl _ _⟩
      · go_wp2_with (go_at_call 17; refine (HC.out _).mono ?_; rintro e w' ⟨rfl, rfl⟩)
        go_round
        case rel => exact ⟨k + 1, by omega, by go_num, HSU⟩
        case measure => simp [intOf]; omega
    · have HTM : Hid (Wd.allN xs.length (tmI xs) = true) := hidv (by
        obtain rfl : k = n := by omega
        rw [HN.out]; exact hall.out)
      clear hall
      go_wp2
      go_loopw [20] (fun i wr => ∃ k : Nat, k ≤ n ∧ i = .int .i64 k ∧ Hid (Wd.allN k (alI xs) = true) ∧ Hid (Below w.heap.size w wr)) (fun i _ => n - (intOf i).toNat)
      case atStart => exact ⟨0, Nat.zero_le _, rfl, hidv rfl, hidv (Below.refl _ _)⟩
      case round =>
        obtain ⟨k, hk2, rfl, hall, hbe⟩ := hrel
        by_cases hlt2 : k < n
        · have hkx : k < xs.length := by have := HN.out; omega
          obtain ⟨g, o, rfl, hg, hce⟩ := HA.out (by have := HN.out; omega)
          have c1 := (hbe.out.cell (p := ⟨g, _, none⟩) (by show g < _; omega)).trans (hce k hkx)
          have htm := Wd.allN_true HTM.out k hkx
          have hsu := Wd.allN_succ k (alI xs)
          have hfa := HL.out HTM.out k hkx
          rw [hall.out, Bool.true_and] at hsu
          rw [show alI xs k = aloneB (xs.getD k ⟨#[]⟩).data.toList from rfl, str_at hkx] at hsu hfa
          rw [show tmI xs k = Wd.termB (xs.getD k ⟨#[]⟩).data.toList from rfl, str_at hkx] at htm
          obtain ⟨y, hy⟩ : ∃ y, xs[k] = y := ⟨_, rfl⟩
          rw [hy] at c1 htm hsu hfa
          have h24 : y.size ≤ 24 := by have := Wd.termB_len htm; simpa using this
          obtain ⟨q, hq⟩ : ∃ q, aloneB y.data.toList = q := ⟨_, rfl⟩
          rw [hq] at hsu hfa
          have HSU := hidv hsu
          have HFA := hidv hfa
          have HQ := hidv hq
          have HTY := hidv htm
          have hs1 := hbe.out.size
          have hE := HE.out.belowB hbe.out HE.out.lt
          have hE2 : EL (wr.alloc (.cells #[.int .i64 0] 44)) := hE.below (below_al (Below.refl _ _) _)
          have HE2 := hidv hE2
          have HB2 := hidv (below_al hbe.out (.cells #[.int .i64 0] 44))
          have HO2 := hidv (Bx.new wr 44 #[.int .i64 0])
          have C1 := hidv (fun W => sideOf_any y W h24)
          clear hce hsu hfa hq hy htm hE hE2
          go_wp2_with fail
          refine (C1.out _).mono ?_
          rintro e w2 ⟨A2, c2, b2, rfl, hb2, hsy2, hbw2⟩
          have HB3 := hidv (below_on HB2.out hbw2)
          have HE3 := hidv (HE2.out.below hbw2)
          have HO3 := hidv (HO2.out.below hbw2)
          have C2 := hidv (check_any y A2 c2 b2 _ w2 hb2 hsy2 h24 HTY.out)
          clear hbw2 hsy2 hb2 C1
          go_wp2_with fail
          refine C2.out.mono ?_
          rintro e w3 ⟨hch, rfl⟩
          rw [HQ.out] at hch
          cases q
          · obtain ⟨x, rfl⟩ := hch.2 rfl
            obtain rfl : r = 4 := HFA.out rfl
            have C3 := hidv (as_hit x ⟨wr.heap.size, 0, none⟩ (.int .i64 0) w2 HE3.out (HO3.out.cell 0) (HO3.out.frozen 0))
            clear hch
            go_wp2_with fail
            refine C3.out.mono ?_
            rintro e w4 ⟨rfl, hw4⟩
            have hs3 := HB3.out.size
            have hb4 : Below w.heap.size w w4 := by
              rw [hw4]
              refine Below.setCell ?_ (by show w.heap.size ≤ wr.heap.size; exact hs1) _
              exact below_al (below_al (below_al (below_al HB3.out _) _) _) _
            clear hw4
            go_wp2_with fail
            go_ret
            exact ⟨rfl, hb4⟩
          · obtain rfl := hch.1 rfl
            clear hch
            go_wp2_with fail
            refine (as_nil _ _).mono ?_
            rintro e w4 ⟨rfl, rfl⟩
            go_wp2_with fail
            go_roundw
            case rel => exact ⟨k + 1, by omega, by go_num, HSU, HB3⟩
            case measure => simp [intOf]; omega
        · have hr0 : r = 0 := HO.out HTM.out (by
            obtain rfl : k = n := by omega
            rw [HN.out]; exact hall.out)
          subst hr0
          go_wp2
          go_ret
          exact ⟨rfl, hbe.out⟩

end Go.Proofs.YthgbfjeemfcnlaaDoor
