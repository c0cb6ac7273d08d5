/-
  KraftOf, of the program and of the model: contracts.
-/
import Derived.Test.YtpjidcfdcpjafaaSt7
import Derived.Test.YtpjidcfdcpjafaaAp7L
import Derived.IntWalk
namespace Go.Proofs.Ytpjidcfdcpjafaa
open Go.RowKit Go
set_option linter.unusedVariables false

theorem wrap_mul (a b : Nat) (h : a * b ≤ 1000000000) : IntKind.i64.wrap ((a : Int) * (b : Int)) = ((a * b : Nat) : Int) := by
  have e : (a : Int) * (b : Int) = ((a * b : Nat) : Int) := by push_cast; rfl
  rw [e]
  exact IntWalk.i64_in _ (by omega)
theorem pow_le (l n : Nat) (hl : l ≤ 4) (hn : n ≤ 12) : l ^ n ≤ 16777216 :=
  Nat.le_trans (Nat.pow_le_pow_left hl n) (Nat.le_trans (Nat.pow_le_pow_right (by omega) hn) (by decide))

theorem isCount_any (l : Int) (w : World) (v : Bool) (hv : (decide (1 ≤ l) && decide (l ≤ 4)) = v) :
    Calls Try.prog 62 #[.int .i64 l] w fun e w' => e = .returned (.bool v) ∧ w = w' := by
  by_cases h1 : 1 ≤ l
  · by_cases h2 : l ≤ 4
    · obtain rfl : v = true := by rw [← hv]; simp [h1, h2]
      clear hv
      go_enter Try.func62, Try.ntmps62
      go_wp2
      go_ret
      exact ⟨rfl, rfl⟩
    · obtain rfl : v = false := by rw [← hv]; simp [h2]
      clear hv
      go_enter Try.func62, Try.ntmps62
      go_wp2
      go_ret
      exact ⟨rfl, rfl⟩
  · obtain rfl : v = false := by rw [← hv]; simp [h1]
    clear hv
    go_enter Try.func62, Try.ntmps62
    go_wp2
    go_ret
    exact ⟨rfl, rfl⟩

/-- A word is over the first so many letters. -/
def OverL (l : Nat) (x : ByteArray) : Prop := ∀ k (h : k < x.size), x[k].toNat < 97 + l
def AlphOk (l : Nat) (xs : List ByteArray) : Prop := ∀ i (h : i < xs.length), OverL l xs[i]
/-- The numerator of the measure. -/
def krN (l L : Nat) (xs : List ByteArray) : Nat := (xs.map fun x => l ^ (L - x.size)).sum
theorem krN_succ (l L : Nat) (xs : List ByteArray) (k : Nat) (h : k < xs.length) : krN l L (xs.take (k + 1)) = krN l L (xs.take k) + l ^ (L - xs[k].size) := by
  rw [List.take_succ_eq_append_getElem h]
  unfold krN
  simp only [List.map_append, List.sum_append, List.map_cons, List.map_nil, List.sum_cons, List.sum_nil, Nat.add_zero]
theorem krN_le (l L : Nat) (hl : l ≤ 4) (hL : L ≤ 12) : ∀ xs : List ByteArray, krN l L xs ≤ 16777216 * xs.length
  | [] => by simp [krN]
  | x :: xs => by
    have h1 := krN_le l L hl hL xs
    have h2 := pow_le l (L - x.size) hl (by omega)
    unfold krN at h1 ⊢
    simp only [List.map_cons, List.sum_cons, List.length_cons]
    omega
def lastLen (xs : List ByteArray) : Nat := (xs.getD (xs.length - 1) ⟨#[]⟩).size
/-- What KraftOf answers. -/
def KrR (xs : List ByteArray) (l a b c : Int) : Prop :=
  (SetOk xs → (1 ≤ l ∧ l ≤ 4 → (AlphOk l.toNat xs → a = (krN l.toNat (lastLen xs) xs : Nat) ∧ b = ((l.toNat ^ lastLen xs : Nat) : Int) ∧ c = 0) ∧ (¬ AlphOk l.toNat xs → a = 0 ∧ b = 0 ∧ c = 2)) ∧ (¬ (1 ≤ l ∧ l ≤ 4) → a = 0 ∧ b = 0 ∧ c = 2)) ∧
  (¬ SetOk xs → a = 0 ∧ b = 0 ∧ c = 1)
theorem krR_ex (xs : List ByteArray) (l : Int) : ∃ a b c, KrR xs l a b c := by
  unfold KrR
  by_cases h : SetOk xs
  · by_cases h2 : 1 ≤ l ∧ l ≤ 4
    · by_cases h3 : AlphOk l.toNat xs
      · exact ⟨_, _, 0, fun _ => ⟨fun _ => ⟨fun _ => ⟨rfl, rfl, rfl⟩, fun hn => absurd h3 hn⟩, fun hn => absurd h2 hn⟩, fun hn => absurd h hn⟩
      · exact ⟨0, 0, 2, fun _ => ⟨fun _ => ⟨fun hy => absurd hy h3, fun _ => ⟨rfl, rfl, rfl⟩⟩, fun hn => absurd h2 hn⟩, fun hn => absurd h hn⟩
    · exact ⟨0, 0, 2, fun _ => ⟨fun hy => absurd hy h2, fun _ => ⟨rfl, rfl, rfl⟩⟩, fun hn => absurd h hn⟩
  · exact ⟨0, 0, 1, fun hy => absurd hy h, fun _ => ⟨rfl, rfl, rfl⟩⟩

theorem lets_iff (l : Nat) (hl : 1 ≤ l ∧ l ≤ 4) (c : UInt8) (hc : Wd.isL c = true) : ((({ data := #[97, 98, 99, 100] } : ByteArray).extract 0 l).data.toList.contains c) = decide (c.toNat < 97 + l) := by
  obtain ⟨j, hj, hcj, _⟩ := let_at hc
  have hc2 : c = UInt8.ofNat (97 + j) := by rw [← UInt8.toNat_inj, hcj, UInt8.toNat_ofNat']; omega
  subst hc2
  rcases (show l = 1 ∨ l = 2 ∨ l = 3 ∨ l = 4 by omega) with rfl | rfl | rfl | rfl <;> rcases (show j = 0 ∨ j = 1 ∨ j = 2 ∨ j = 3 by omega) with rfl | rfl | rfl | rfl <;> decide
theorem made_iff (l : Nat) (hl : 1 ≤ l ∧ l ≤ 4) (x : ByteArray) (hx : Wd.wordB x.data.toList = true) (h12 : x.size ≤ 12) (q : Bool) (hq : q = true ↔ OverL l x) : Wd.madeB x.data.toList (({ data := #[97, 98, 99, 100] } : ByteArray).extract 0 l).data.toList 12 = q := by
  unfold Wd.madeB
  have e1 : decide ((x.data.toList.length : Int) ≤ 12) = true := by simp; omega
  rw [e1, Bool.true_and, Bool.eq_iff_iff, hq, List.all_eq_true]
  have hw := (word_all hx).2
  constructor
  · intro h k hk
    have hm : x[k] ∈ x.data.toList := List.getElem_mem (l := x.data.toList) (n := k) (by simpa using hk)
    have h1 := h x[k] hm
    rw [lets_iff l hl _ (hw _ hm)] at h1
    exact of_decide_eq_true h1
  · intro h c hc
    rw [lets_iff l hl c (hw c hc)]
    obtain ⟨k, hk, rfl⟩ := List.getElem_of_mem hc
    exact decide_eq_true (h k (by simpa using hk))

end Go.Proofs.Ytpjidcfdcpjafaa
