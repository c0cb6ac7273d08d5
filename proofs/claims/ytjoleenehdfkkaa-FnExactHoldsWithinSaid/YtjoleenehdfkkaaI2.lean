/-
  Slices of slices of numbers in memory; the laws' own functions on them (bulk; copy; equal): contracts.
-/
import Derived.Test.YtjoleenehdfkkaaRow
import Derived.Test.YtjoleenehdfkkaaRow2
import Derived.Test.YtjoleenehdfkkaaMem
import Derived.OwnWalk
import Derived.Deep.RegionHeld3
namespace Go.Proofs.Ytjoleenehdfkkaa
open Go.RowKit Go
set_option linter.unusedVariables false

/-- A slice value that reads, below block B, as these lists of numbers. -/
def IRows (w : World) (B : Nat) (v : Value) (rs : List (List Int)) : Prop :=
  ∃ vs : List Value, Row w B v vs ∧ vs.length = rs.length ∧ ∀ i (h : i < rs.length), ∃ x, vs[i]? = some x ∧ Row w B x (ints rs[i])
theorem IRows.below {w w' : World} {B : Nat} {v : Value} {rs : List (List Int)} (h : IRows w B v rs) (hb : Below B w w') : IRows w' B v rs := by
  obtain ⟨vs, h1, h2, h3⟩ := h
  refine ⟨vs, h1.below hb, h2, fun i hi => ?_⟩
  obtain ⟨x, hx, hr⟩ := h3 i hi
  exact ⟨x, hx, hr.below hb⟩
theorem IRows.more {w : World} {B B' : Nat} {v : Value} {rs : List (List Int)} (h : IRows w B v rs) (hB : B ≤ B') : IRows w B' v rs := by
  obtain ⟨vs, h1, h2, h3⟩ := h
  refine ⟨vs, h1.more hB, h2, fun i hi => ?_⟩
  obtain ⟨x, hx, hr⟩ := h3 i hi
  exact ⟨x, hx, hr.more hB⟩
/-- In the walk's words: the slice, and at each place a slice that reads as the numbers. -/
theorem IRows.at {w : World} {B : Nat} {v : Value} {rs : List (List Int)} (h : IRows w B v rs) : ∃ A c, v = .slice A rs.length c ∧ (0 < rs.length → ∃ g o, A = some ⟨g, o, none⟩ ∧ g < B ∧
    ∀ i (hi : i < rs.length), ∃ a cp, w.cell? ⟨g, o + i, none⟩ = some (.slice a rs[i].length cp) ∧ Row w B (.slice a rs[i].length cp) (ints rs[i])) := by
  obtain ⟨vs, h1, h2, h3⟩ := h
  obtain ⟨A, c, rfl, hA⟩ := h1
  rw [h2] at hA ⊢
  refine ⟨A, c, rfl, fun hp => ?_⟩
  obtain ⟨g, o, hA1, hg, hc⟩ := hA hp
  refine ⟨g, o, hA1, hg, fun i hi => ?_⟩
  obtain ⟨x, hx, hr⟩ := h3 i hi
  obtain ⟨a, cp, hxe, _⟩ := id hr
  rw [show (ints rs[i]).length = rs[i].length by simp [ints]] at hxe
  subst hxe
  exact ⟨a, cp, hc i _ hx, hr⟩

theorem szI_any (a : Option Addr) (n c : Nat) (m : Int) (w : World) (hn : n ≤ maxLen) (hm0 : 0 ≤ m) (hm1 : m ≤ 1048576) :
    Calls Try.prog 36 #[.slice a n c, .int .i64 m] w fun e w' => ∃ r, e = .returned (.int .i64 r) ∧ (0 ≤ r → n ≤ m) ∧ r ≤ m ∧ w = w' := by
  unfold maxLen at hn
  by_cases h : m < (n : Int)
  · go_enter Try.func36, Try.ntmps36
    go_wp2
    go_ret
    first | exact ⟨_, rfl, fun h => by omega, by omega, rfl⟩ | exact ⟨_, rfl, by omega, rfl⟩
  · go_enter Try.func36, Try.ntmps36
    go_wp2
    go_ret
    first | exact ⟨_, rfl, fun h => by omega, by omega, rfl⟩ | exact ⟨_, rfl, by omega, rfl⟩

set_option maxHeartbeats 400000 in
theorem szIS_any (v : Value) (rs : List (List Int)) (B : Nat) (w : World) (hv : IRows w B v rs) (hx : rs.length ≤ maxLen) (hs : ∀ r ∈ rs, r.length ≤ maxLen) (m : Int) (hm0 : 0 ≤ m) (hm1 : m ≤ 1048576) :
    Calls Try.prog 19 #[v, .int .i64 m] w fun e w' => ∃ q, e = .returned (.int .i64 q) ∧ (0 ≤ q → rs.length ≤ m ∧ ∀ r ∈ rs, r.length ≤ 1048576) ∧ q ≤ m ∧ w = w' := by
  obtain ⟨A, c, rfl, hA⟩ := hv.at
  unfold maxLen at hx
  obtain ⟨n, hn⟩ : ∃ n, rs.length = n := ⟨_, rfl⟩
  have HA := hidv hA
  rw [hn] at hx ⊢
  have HN := hidv hn
  have HS := hidv hs
  clear hn hA hs hv
  by_cases hnm : m < (n : Int)
  · go_enter Try.func19, Try.ntmps19
    go_wp2
    go_ret
    first | exact ⟨_, rfl, fun h => by omega, by omega, rfl⟩ | exact ⟨_, rfl, by omega, rfl⟩
  · go_enter Try.func19, Try.ntmps19
    go_wp2
    go_loop [1, 5] (fun l i => ∃ (k : Nat) (q : Int), k ≤ n ∧ i = .int .i64 k ∧ l = .int .i64 q ∧ 0 ≤ q ∧ q ≤ m ∧ Hid (∀ j (hj : j < rs.length), j < k → rs[j].length ≤ 1048576)) (fun _ i => n - (intOf i).toNat)
    case atStart => exact ⟨0, _, Nat.zero_le _, rfl, rfl, by omega, by omega, hidv (fun j _ hj => by omega)⟩
    case round =>
      obtain ⟨k, q, hk, rfl, rfl, hq0, hq1, hall⟩ := hrel
      by_cases hlt : k < n
      · have hkx : k < rs.length := by have := HN.out; omega
        obtain ⟨g, o, rfl, hg, hce⟩ := HA.out (by omega)
        obtain ⟨a, cp, c1, _⟩ := hce k hkx
        have hsz := HS.out rs[k] (List.getElem_mem _)
        obtain ⟨l, hl⟩ : ∃ l, rs[k].length = l := ⟨_, rfl⟩
        rw [hl] at c1 hsz
        have HC := hidv (fun W => szI_any a l cp q W hsz hq0 (by omega))
        have HL := hidv hl
        clear hl hce hsz
        go_wp2_with fail
        refine (HC.out _).mono ?_
        rintro e w2 ⟨r, rfl, hr1, hr2, rfl⟩
        have HR1 := hidv hr1
        clear hr1
        by_cases hr : r < 0
        · go_wp2_with fail
          go_ret
          first | exact ⟨_, rfl, fun h => by omega, by omega, rfl⟩ | exact ⟨_, rfl, by omega, rfl⟩
        · have hall2 : ∀ j (hj : j < rs.length), j < k + 1 → rs[j].length ≤ 1048576 := fun j hj hjk => by
            rcases Nat.lt_or_ge j k with h | h
            · exact hall.out j hj h
            · obtain rfl : j = k := by omega
              have h1 := HL.out
              have h2 := HR1.out (by omega)
              omega
          have HALL := hidv hall2
          clear hall2
          go_wp2_with fail
          go_round
          case rel => exact ⟨k + 1, r, by omega, by go_num, rfl, by omega, by omega, HALL⟩
          case measure => simp [intOf]; omega
      · have hall2 : ∀ r ∈ rs, r.length ≤ 1048576 := fun r hr => by
          obtain ⟨j, hj, rfl⟩ := List.getElem_of_mem hr
          exact hall.out j hj (by have := HN.out; omega)
        have HALL := hidv hall2
        clear hall2
        go_wp2
        go_ret
        first | exact ⟨_, rfl, fun h => ⟨by omega, HALL.out⟩, by omega, rfl⟩ | exact ⟨_, rfl, ⟨by omega, HALL.out⟩, by omega, rfl⟩ | exact ⟨_, rfl, HALL.out, by omega, rfl⟩ | exact ⟨_, rfl, fun _ => HALL.out, by omega, rfl⟩

end Go.Proofs.Ytjoleenehdfkkaa
