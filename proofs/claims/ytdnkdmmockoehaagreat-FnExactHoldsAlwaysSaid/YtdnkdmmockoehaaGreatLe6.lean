/-
  The length of a list of pieces, in the model; FamilyLengths, of the program and of the model: contracts.
-/
import Derived.Test.YtdnkdmmockoehaaGreatSu
import Derived.Test.YtdnkdmmockoehaaGreatFo
import Derived.Test.YtdnkdmmockoehaaGreatRow2
import Derived.Lib.OwnKind
namespace Go.Proofs.YtdnkdmmockoehaaGreat
open Go.RowKit Go
set_option linter.unusedVariables false

set_option maxRecDepth 100000 in
set_option maxHeartbeats 800000 in
theorem l06Length_any (v : Value) (ps : List Pc) (B : Nat) (k : Int) (w : World) (hv : QRow w B v ps) (hB : B ≤ w.heap.size) (hok : RowOk ps) (hk : 0 ≤ k ∧ k ≤ 1000000) :
    Calls Tryz.prog 54 #[v, .int .i64 k] w fun e w' => e = .returned (.int .i64 (gsum (pcLen k) ps)) ∧ ∃ q, w' = w.drewN q := by
  obtain ⟨A, c, rfl, hA⟩ := hv
  have hl := hok.1
  obtain ⟨n, hn⟩ : ∃ n, ps.length = n := ⟨_, rfl⟩
  have HA := hidv hA
  have HOK := hidv hok
  rw [hn] at hl ⊢
  have HN := hidv hn
  clear hA hok hn
  go_enter Tryz.func54, Tryz.ntmps54
  go_wp2
  go_loopw [5, 6] (fun q i wr => ∃ j : Nat, j ≤ n ∧ i = .int .i64 j ∧ q = .int .i64 (gsum (pcLen k) (ps.take j)) ∧ ∃ m, wr = w.drewN m) (fun _ i _ => n - (intOf i).toNat)
  case atStart => exact ⟨0, Nat.zero_le _, rfl, by simp [gsum], 0, rfl⟩
  case round =>
    obtain ⟨j, hj, rfl, rfl, m, rfl⟩ := hrel
    by_cases hlt : j < n
    · have hjx : j < ps.length := by have := HN.out; omega
      obtain ⟨g, o, rfl, hg, hce⟩ := HA.out (by omega)
      obtain ⟨c1, c2, c3⟩ := hce j hjx
      have hpo := HOK.out.2 ps[j] (List.getElem_mem _)
      have hbd := pcLen_bound hpo hk
      have hm3 := mul3 hpo.2.2.2 hk
      have hf := hpo.2.2.1
      have hlq : (ps.take j).length ≤ 4 := by rw [List.length_take]; omega
      have hbs := gsum_bound (pcLen k) 180003600 (ps.take j) (fun p hp => pcLen_bound (HOK.out.2 p (List.mem_of_mem_take hp)) hk)
      have hsu := gsum_succ (pcLen k) ps j hjx
      have hxs : ps[j].1.size ≤ 60 := by have := Wd.wordB_len hpo.2.1; simpa using this
      obtain ⟨⟨x, f, s⟩, hxy⟩ : ∃ p, ps[j] = p := ⟨_, rfl⟩
      rw [hxy] at c1 c2 c3 hbd hm3 hf hsu hxs
      unfold pcLen at hbd
      rw [show pcLen k (x, f, s) = (x.size : Int) * (f + s * k) from rfl] at hsu
      dsimp only at c1 c2 c3 hbd hm3 hf hxs
      obtain ⟨acc, hacc⟩ : ∃ a, gsum (pcLen k) (ps.take j) = a := ⟨_, rfl⟩
      rw [hacc] at hbs hsu ⊢
      obtain ⟨hb0, hb1⟩ := hbs
      have hb2 : acc ≤ 800000000 := by omega
      obtain ⟨hm0, hm1⟩ := hm3
      obtain ⟨hf0, hf1⟩ := hf
      obtain ⟨hp0, hp1⟩ := hbd
      have e1 : IntKind.i64.wrap (s * k) = s * k := IntWalk.i64_in _ (by omega)
      have e2 : IntKind.i64.wrap ((x.size : Int) * (f + s * k)) = (x.size : Int) * (f + s * k) := IntWalk.i64_in _ (by omega)
      have HSU := hidv hsu
      have i1 : (0 : Int) ≤ (j : Int) := by omega
      have i2 : (j : Int) < (n : Int) := by omega
      clear hxy hce hpo hsu hacc hb1
      go_wp2_with fail
      go_quiet (fail)
      go_wp2_with fail
      go_roundw
      case rel => exact ⟨j + 1, by omega, by go_num, by rw [HSU.out], _, rfl⟩
      case measure => simp [intOf]; omega
    · obtain rfl : j = n := by omega
      have he : ps.take j = ps := List.take_of_length_le (by have := HN.out; omega)
      rw [he]
      go_wp2
      go_ret
      exact ⟨rfl, _, rfl⟩

/-- What FamilyLengths gives: lengths and a code. -/
def FlR (rs : List (List Pc)) (k : Int) (L : List Int) (c : Int) : Prop :=
  (¬ FamOk rs → L = [] ∧ c = 1) ∧ (FamOk rs → ¬ (0 ≤ k ∧ k ≤ 1000000) → L = [] ∧ c = 2) ∧ (FamOk rs → (0 ≤ k ∧ k ≤ 1000000) → L = rs.map (gsum (pcLen k)) ∧ c = 0)
theorem flR_ex (rs : List (List Pc)) (k : Int) : ∃ L c, FlR rs k L c ∧ L.length ≤ 4 := by
  by_cases h1 : FamOk rs
  · by_cases h2 : 0 ≤ k ∧ k ≤ 1000000
    · exact ⟨rs.map (gsum (pcLen k)), 0, ⟨fun h => absurd h1 h, fun _ h => absurd h2 h, fun _ _ => ⟨rfl, rfl⟩⟩, by rw [List.length_map]; have := h1.1; omega⟩
    · exact ⟨[], 2, ⟨fun h => absurd h1 h, fun _ _ => ⟨rfl, rfl⟩, fun _ h => absurd h h2⟩, by simp⟩
  · exact ⟨[], 1, ⟨fun _ => ⟨rfl, rfl⟩, fun h => absurd h h1, fun h => absurd h h1⟩, by simp⟩

end Go.Proofs.YtdnkdmmockoehaaGreat
