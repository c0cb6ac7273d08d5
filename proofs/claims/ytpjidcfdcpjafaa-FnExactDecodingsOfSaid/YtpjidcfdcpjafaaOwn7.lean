/-
  The model's own copy of numbers: a contract.
-/
import Derived.Test.YtpjidcfdcpjafaaCopy
import Derived.Test.YtpjidcfdcpjafaaRow2
import Derived.Laws.AppendOwnNone
namespace Go.Proofs.Ytpjidcfdcpjafaa
open Go.RowKit Go
set_option linter.unusedVariables false

theorem Row.cells {w : World} {B : Nat} {v : Value} {xs : List Value} (h : Row w B v xs) : ∃ A c, v = .slice A xs.length c ∧ (A = none → xs = []) ∧ ∀ ad, A = some ad → 0 < xs.length → ad.block < B ∧ ∀ j u, xs[j]? = some u → w.cell? (ad.add j) = some u := by
  obtain ⟨A, c, hv, hc⟩ := h
  refine ⟨A, c, hv, ?_, ?_⟩
  · rintro rfl
    rcases Nat.eq_zero_or_pos xs.length with h0 | h0
    · exact List.eq_nil_of_length_eq_zero h0
    · obtain ⟨g, o, hA, _⟩ := hc h0
      cases hA
  · rintro ad rfl h0
    obtain ⟨g, o, hA, hg, hcell⟩ := hc h0
    injection hA with hA
    subst hA
    exact ⟨hg, fun j u hu => by rw [show (⟨g, o, none⟩ : Addr).add j = ⟨g, o + j, none⟩ by unfold Addr.add; split <;> simp_all]; exact hcell j u hu⟩

set_option maxRecDepth 100000 in
set_option maxHeartbeats 800000 in
theorem own_any (v : Value) (xs : List Int) (B : Nat) (w : World) (hv : Row w B v (xs.map (Value.int .i64))) (hB : B ≤ w.heap.size) (hn : xs.length ≤ 1000000) :
    Calls Try.prog 109 #[v] w fun e w' => ∃ u, e = .returned u ∧ Ints w' w.heap.size u xs ∧ Below w.heap.size w w' := by
  obtain ⟨i0, hi, hz0, hz1, hz2⟩ := info_parts Try.infoN
  obtain ⟨A, c, rfl, hA0, hA⟩ := hv.cells
  rw [List.length_map] at hA ⊢
  have hlit := World.ownsRow_lit (e := 2) (size := 1) (base := w.heap.size) w #[] 0 (Nat.le_refl _) (Nat.zero_le _) rfl
  have HLIT := hidv hlit
  have HA := hidv hA
  clear hlit hA hv
  cases A with
  | none =>
    obtain rfl : xs = [] := by simpa using hA0 rfl
    have hc0 : (.slice none 0 c : Value) = .slice none 0 c := rfl
    clear hA0 hn hc0 HA
    go_enter Try.func109, Try.ntmps109
    go_wp2_with fail
    go_ret
    exact ⟨_, rfl, HLIT.out, (Below.refl _ _).alloc (Nat.le_refl _) _⟩
  | some ad =>
    have hnews : ∀ j u, (xs.map (Value.int .i64))[j]? = some u → (w.alloc (.cells #[] 2)).cell? (ad.add j) = some u := by
      intro j u hu
      have h0 : 0 < xs.length := by
        rcases Nat.eq_zero_or_pos xs.length with h1 | h1
        · rw [List.eq_nil_of_length_eq_zero h1] at hu; simp at hu
        · exact h1
      obtain ⟨hb, hc⟩ := HA.out ad rfl (by simpa using h0)
      rw [World.cell?_alloc_lt w _ _ (by rw [show (ad.add j).block = ad.block by unfold Addr.add; split <;> rfl]; omega)]
      exact hc j u hu
    have HN := hidv hnews
    clear hnews hA0
    go_enter Try.func109, Try.ntmps109
    go_wp2_with (at_builtin; refine wpList_append_own _ rfl (.tmp 3) (.tmp 4) 26 rfl w.heap.size 2 i0 (.int .i64 0) 1 8 Try.underlying26 hi hz0 hz1 hz2 rfl (by decide) _ 0 [] rfl HLIT.out ad xs.length c (xs.map (Value.int .i64)) rfl (by simp) HN.out (by intro u hu; simp at hu; obtain ⟨x, _, rfl⟩ := hu; rfl) ?_ ?_ ?_ ?_; (unfold maxLen; omega); omega; simp; intro v1 w1 hown1 hgr1 _)
    have HO := hidv hown1
    have HB1 := hidv (((Below.refl w.heap.size w).alloc (Nat.le_refl _) (.cells #[] 2)).grown hgr1 (by simp) (fun k hk => by have h1 : some w.heap.size = some k := hk; injection h1 with h1; omega))
    clear hown1 hgr1
    go_wp2_with fail
    go_ret
    refine ⟨v1, rfl, ?_, HB1.out⟩
    have := HO.out
    simp only [Nat.zero_add, List.nil_append] at this
    exact this

end Go.Proofs.Ytpjidcfdcpjafaa
