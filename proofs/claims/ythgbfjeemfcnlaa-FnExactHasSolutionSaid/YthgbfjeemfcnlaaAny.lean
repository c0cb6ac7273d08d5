/-
  slices.ContainsFunc over a list of families, by any predicate that is told by a closure: contracts.
-/
import Derived.Test.YthgbfjeemfcnlaaHasI
namespace Go.Proofs.Ythgbfjeemfcnlaa
open Go.RowKit Go
set_option linter.unusedVariables false

/-- No family of the list is so. -/
def noneP (ps : List Pw) (g : Pw → Bool) : Bool := Wd.allN ps.length fun k => !(g (ps.getD k pw0))
theorem noneP_at {ps : List Pw} {k : Nat} (h : k < ps.length) : ps.getD k pw0 = ps[k] := by
  rw [List.getD_eq_getElem?_getD, List.getElem?_eq_getElem h]; rfl
def pwV (p : Pw) : Value := .agg #[.string p.1, .string p.2.1, .int .i64 p.2.2]

set_option maxRecDepth 100000 in
set_option maxHeartbeats 800000 in
theorem indexPV_any (v : Value) (ps : List Pw) (b B : Nat) (g : Pw → Bool) (w : World) (hv : PRow w B v ps) (hB : B ≤ w.heap.size) (hp : ps.length ≤ 1048576)
    (hF : ∀ (p : Pw) (W : World), p ∈ ps → Below w.heap.size w W → Calls Try.prog 23 #[pwV p, .pointer (some ⟨b, 0, none⟩)] W fun e w' => e = .returned (.bool (g p)) ∧ Below W.heap.size W w') :
    Calls Try.prog 41 #[v, .func (.func 23) #[] #[.pointer (some ⟨b, 0, none⟩)]] w fun e w' => ∃ i : Int, e = .returned (.int .i64 i) ∧ decide (0 ≤ i) = !(noneP ps g) ∧ -1 ≤ i ∧ i ≤ 1048576 ∧ Below w.heap.size w w' := by
  obtain ⟨A, c, rfl, hA⟩ := hv
  have HA := hidv hA
  have HF := hidv hF
  obtain ⟨n, hn⟩ : ∃ n, ps.length = n := ⟨_, rfl⟩
  have HR : Hid (Wd.allN n (fun k => !(g (ps.getD k pw0))) = noneP ps g) := hidv (by rw [← hn]; rfl)
  obtain ⟨r, hr⟩ : ∃ r, noneP ps g = r := ⟨_, rfl⟩
  rw [hr] at HR ⊢
  rw [hn] at hp ⊢
  have HN := hidv hn
  clear hA hF hn hr
  go_enter Try.func41, Try.ntmps41
  go_wp2
  go_loopw [8] (fun i wr => ∃ k : Nat, k ≤ n ∧ i = .int .i64 k ∧ Hid (Wd.allN k (fun k => !(g (ps.getD k pw0))) = true) ∧ Hid (Below w.heap.size w wr)) (fun i _ => n - (intOf i).toNat)
  case atStart => exact ⟨0, Nat.zero_le _, rfl, hidv rfl, hidv (Below.refl _ _)⟩
  case round =>
    obtain ⟨k, hk, rfl, hall, hbe⟩ := hrel
    by_cases hlt : k < n
    · have hkx : k < ps.length := by have := HN.out; omega
      obtain ⟨gb, o, rfl, hg, hce⟩ := HA.out (by have := HN.out; omega)
      have c1 := (hbe.out.cell (p := ⟨gb, _, none⟩) (by show gb < _; omega)).trans (hce k hkx).1
      have c2 := (hbe.out.cell (p := ⟨gb, _, none⟩) (by show gb < _; omega)).trans (hce k hkx).2.1
      have c3 := (hbe.out.cell (p := ⟨gb, _, none⟩) (by show gb < _; omega)).trans (hce k hkx).2.2
      have hcall := fun W hW => HF.out ps[k] W (List.getElem_mem _) hW
      have hsu := Wd.allN_succ k (fun k => !(g (ps.getD k pw0)))
      rw [hall.out, Bool.true_and, noneP_at hkx] at hsu
      have hfa := fun h => Wd.allN_false (f := fun k => !(g (ps.getD k pw0))) k hlt (by rw [noneP_at hkx]; exact h)
      obtain ⟨⟨x, y, z⟩, hx1⟩ : ∃ x, ps[k] = x := ⟨_, rfl⟩
      rw [hx1] at c1 c2 c3 hcall hsu hfa
      unfold pwV at hcall
      obtain ⟨q, hq⟩ : ∃ q, g (x, y, z) = q := ⟨_, rfl⟩
      rw [hq] at hcall hsu hfa
      dsimp only at c1 c2 c3 hcall
      have HC := hidv hcall
      have HSU := hidv hsu
      have HFA := hidv hfa
      clear hx1 hce hcall hsu hfa hq
      go_wp2_with fail
      refine (HC.out _ hbe.out).mono ?_
      rintro e w2 ⟨rfl, hb2⟩
      have HB2 := hidv (below_on hbe.out hb2)
      clear hb2
      cases q
      · go_wp2_with fail
        go_roundw
        case rel => exact ⟨k + 1, by omega, by go_num, hidv (HSU.out.trans rfl), HB2⟩
        case measure => simp [intOf]; omega
      · obtain rfl : r = false := by rw [← HR.out]; exact HFA.out rfl
        go_wp2_with fail
        go_ret
        exact ⟨_, rfl, by rw [decide_eq_true (by omega)]; rfl, by omega, by omega, HB2.out⟩
    · obtain rfl : k = n := by omega
      obtain rfl : r = true := by rw [← HR.out]; exact hall.out
      go_wp2
      go_ret
      exact ⟨_, rfl, rfl, by omega, by omega, hbe.out⟩

theorem containsPV_any (v : Value) (ps : List Pw) (b B : Nat) (g : Pw → Bool) (w : World) (hv : PRow w B v ps) (hB : B ≤ w.heap.size) (hp : ps.length ≤ 1048576)
    (hF : ∀ (p : Pw) (W : World), p ∈ ps → Below w.heap.size w W → Calls Try.prog 23 #[pwV p, .pointer (some ⟨b, 0, none⟩)] W fun e w' => e = .returned (.bool (g p)) ∧ Below W.heap.size W w') :
    Calls Try.prog 22 #[v, .func (.func 23) #[] #[.pointer (some ⟨b, 0, none⟩)]] w fun e w' => e = .returned (.bool !(noneP ps g)) ∧ Below w.heap.size w w' := by
  have C1 := hidv (indexPV_any v ps b B g w hv hB hp hF)
  have hvv : ∃ A c, v = .slice A ps.length c := by obtain ⟨A, c, hv, _⟩ := hv; exact ⟨A, c, hv⟩
  obtain ⟨A, c, rfl⟩ := hvv
  obtain ⟨r, hr⟩ : ∃ r, (!(noneP ps g)) = r := ⟨_, rfl⟩
  rw [hr] at C1 ⊢
  clear hv hF hr
  go_enter Try.func22, Try.ntmps22
  go_wp2_with fail
  refine C1.out.mono ?_
  rintro e w1 ⟨i, rfl, hi, hi1, hi2, hb⟩
  cases r
  · have h0 : ¬ (0 ≤ i) := of_decide_eq_false hi
    go_wp2_with fail
    go_ret
    exact ⟨rfl, hb⟩
  · have h0 : 0 ≤ i := of_decide_eq_true hi
    go_wp2_with fail
    go_ret
    exact ⟨rfl, hb⟩

set_option maxRecDepth 100000 in
set_option maxHeartbeats 800000 in
theorem indexPH_any (v : Value) (ps : List Pw) (b B : Nat) (g : Pw → Bool) (w : World) (hv : PRow w B v ps) (hB : B ≤ w.heap.size) (hp : ps.length ≤ 1048576)
    (hF : ∀ (p : Pw) (W : World), p ∈ ps → Below w.heap.size w W → Calls Try.prog 32 #[pwV p, .pointer (some ⟨b, 0, none⟩)] W fun e w' => e = .returned (.bool (g p)) ∧ Below W.heap.size W w') :
    Calls Try.prog 41 #[v, .func (.func 32) #[] #[.pointer (some ⟨b, 0, none⟩)]] w fun e w' => ∃ i : Int, e = .returned (.int .i64 i) ∧ decide (0 ≤ i) = !(noneP ps g) ∧ -1 ≤ i ∧ i ≤ 1048576 ∧ Below w.heap.size w w' := by
  obtain ⟨A, c, rfl, hA⟩ := hv
  have HA := hidv hA
  have HF := hidv hF
  obtain ⟨n, hn⟩ : ∃ n, ps.length = n := ⟨_, rfl⟩
  have HR : Hid (Wd.allN n (fun k => !(g (ps.getD k pw0))) = noneP ps g) := hidv (by rw [← hn]; rfl)
  obtain ⟨r, hr⟩ : ∃ r, noneP ps g = r := ⟨_, rfl⟩
  rw [hr] at HR ⊢
  rw [hn] at hp ⊢
  have HN := hidv hn
  clear hA hF hn hr
  go_enter Try.func41, Try.ntmps41
  go_wp2
  go_loopw [8] (fun i wr => ∃ k : Nat, k ≤ n ∧ i = .int .i64 k ∧ Hid (Wd.allN k (fun k => !(g (ps.getD k pw0))) = true) ∧ Hid (Below w.heap.size w wr)) (fun i _ => n - (intOf i).toNat)
  case atStart => exact ⟨0, Nat.zero_le _, rfl, hidv rfl, hidv (Below.refl _ _)⟩
  case round =>
    obtain ⟨k, hk, rfl, hall, hbe⟩ := hrel
    by_cases hlt : k < n
    · have hkx : k < ps.length := by have := HN.out; omega
      obtain ⟨gb, o, rfl, hg, hce⟩ := HA.out (by have := HN.out; omega)
      have c1 := (hbe.out.cell (p := ⟨gb, _, none⟩) (by show gb < _; omega)).trans (hce k hkx).1
      have c2 := (hbe.out.cell (p := ⟨gb, _, none⟩) (by show gb < _; omega)).trans (hce k hkx).2.1
      have c3 := (hbe.out.cell (p := ⟨gb, _, none⟩) (by show gb < _; omega)).trans (hce k hkx).2.2
      have hcall := fun W hW => HF.out ps[k] W (List.getElem_mem _) hW
      have hsu := Wd.allN_succ k (fun k => !(g (ps.getD k pw0)))
      rw [hall.out, Bool.true_and, noneP_at hkx] at hsu
      have hfa := fun h => Wd.allN_false (f := fun k => !(g (ps.getD k pw0))) k hlt (by rw [noneP_at hkx]; exact h)
      obtain ⟨⟨x, y, z⟩, hx1⟩ : ∃ x, ps[k] = x := ⟨_, rfl⟩
      rw [hx1] at c1 c2 c3 hcall hsu hfa
      unfold pwV at hcall
      obtain ⟨q, hq⟩ : ∃ q, g (x, y, z) = q := ⟨_, rfl⟩
      rw [hq] at hcall hsu hfa
      dsimp only at c1 c2 c3 hcall
      have HC := hidv hcall
      have HSU := hidv hsu
      have HFA := hidv hfa
      clear hx1 hce hcall hsu hfa hq
      go_wp2_with fail
      refine (HC.out _ hbe.out).mono ?_
      rintro e w2 ⟨rfl, hb2⟩
      have HB2 := hidv (below_on hbe.out hb2)
      clear hb2
      cases q
      · go_wp2_with fail
        go_roundw
        case rel => exact ⟨k + 1, by omega, by go_num, hidv (HSU.out.trans rfl), HB2⟩
        case measure => simp [intOf]; omega
      · obtain rfl : r = false := by rw [← HR.out]; exact HFA.out rfl
        go_wp2_with fail
        go_ret
        exact ⟨_, rfl, by rw [decide_eq_true (by omega)]; rfl, by omega, by omega, HB2.out⟩
    · obtain rfl : k = n := by omega
      obtain rfl : r = true := by rw [← HR.out]; exact hall.out
      go_wp2
      go_ret
      exact ⟨_, rfl, rfl, by omega, by omega, hbe.out⟩

theorem containsPH_any (v : Value) (ps : List Pw) (b B : Nat) (g : Pw → Bool) (w : World) (hv : PRow w B v ps) (hB : B ≤ w.heap.size) (hp : ps.length ≤ 1048576)
    (hF : ∀ (p : Pw) (W : World), p ∈ ps → Below w.heap.size w W → Calls Try.prog 32 #[pwV p, .pointer (some ⟨b, 0, none⟩)] W fun e w' => e = .returned (.bool (g p)) ∧ Below W.heap.size W w') :
    Calls Try.prog 22 #[v, .func (.func 32) #[] #[.pointer (some ⟨b, 0, none⟩)]] w fun e w' => e = .returned (.bool !(noneP ps g)) ∧ Below w.heap.size w w' := by
  have C1 := hidv (indexPH_any v ps b B g w hv hB hp hF)
  have hvv : ∃ A c, v = .slice A ps.length c := by obtain ⟨A, c, hv, _⟩ := hv; exact ⟨A, c, hv⟩
  obtain ⟨A, c, rfl⟩ := hvv
  obtain ⟨r, hr⟩ : ∃ r, (!(noneP ps g)) = r := ⟨_, rfl⟩
  rw [hr] at C1 ⊢
  clear hv hF hr
  go_enter Try.func22, Try.ntmps22
  go_wp2_with fail
  refine C1.out.mono ?_
  rintro e w1 ⟨i, rfl, hi, hi1, hi2, hb⟩
  cases r
  · have h0 : ¬ (0 ≤ i) := of_decide_eq_false hi
    go_wp2_with fail
    go_ret
    exact ⟨rfl, hb⟩
  · have h0 : 0 ≤ i := of_decide_eq_true hi
    go_wp2_with fail
    go_ret
    exact ⟨rfl, hb⟩

end Go.Proofs.Ythgbfjeemfcnlaa
