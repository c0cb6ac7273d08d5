/-
  Images of letters: what images are; ValidImages, of the program and of the model: contracts.
-/
import Derived.Test.YtpjidcfdcpjafaaWalkVV
import Derived.Test.YtpjidcfdcpjafaaStr
import Derived.Test.YtpjidcfdcpjafaaIff
namespace Go.Proofs.Ytpjidcfdcpjafaa
open Go.RowKit Go
set_option linter.unusedVariables false

def imB (s : ByteArray) : Bool := Wd.wordB s.data.toList && decide (s.size ≤ 8)
/-- A list of words is one of images. -/
def ImgOk (f : List ByteArray) : Prop := f.length = 4 ∧ ∀ i (h : i < f.length), imB f[i] = true
theorem imB_made (s : ByteArray) : Wd.madeB s.data.toList [97, 98, 99, 100] 8 = imB s := by
  unfold imB
  rw [← Wd.madeB_word]
  unfold Wd.madeB
  cases h : s.data.toList.all (fun c => [97, 98, 99, 100].contains c)
  · simp
  · rw [Bool.and_true, Bool.and_true, Bool.eq_iff_iff]
    simp
    omega

theorem closV_any (x : ByteArray) (w : World) (hx : x.size ≤ maxLen) :
    Calls Try.prog 66 #[.string x] w fun e w' => e = .returned (.bool (!imB x)) ∧ w = w' := by
  have C := madeOf_any x { data := #[97, 98, 99, 100] } 8 w hx
  rw [show Wd.madeB x.data.toList ({ data := #[97, 98, 99, 100] } : ByteArray).data.toList 8 = imB x from imB_made x] at C
  obtain ⟨q, hq⟩ : ∃ q, imB x = q := ⟨_, rfl⟩
  rw [hq] at C ⊢
  have HC := hidv C
  clear hq C
  go_enter Try.func66, Try.ntmps66
  go_wp2_with fail
  refine HC.out.mono ?_
  rintro e w' ⟨rfl, rfl⟩
  go_wp2_with fail
  go_ret
  exact ⟨rfl, rfl⟩

set_option maxRecDepth 100000 in
set_option maxHeartbeats 800000 in
theorem indexV_any (L : List ByteArray) (v : Value) (B : Nat) (w : World) (hv : Row w B v (L.map Value.string)) (hl : L.length ≤ 1048576) (hs : ∀ s ∈ L, s.size ≤ maxLen) :
    Calls Try.prog 102 #[v, .func (.func 66) #[] #[]] w fun e w' => ∃ i : Int, e = .returned (.int .i64 i) ∧ (0 ≤ i ↔ ∃ z ∈ L, imB z = false) ∧ -1 ≤ i ∧ i ≤ 1048576 ∧ w = w' := by
  obtain ⟨A, c, rfl, hA⟩ := strRow_at hv
  obtain ⟨n, hn⟩ : ∃ n, L.length = n := ⟨_, rfl⟩
  have HA := hidv hA
  have HS := hidv hs
  rw [hn] at hl ⊢
  have HN := hidv hn
  clear hA hs hn hv
  go_enter Try.func102, Try.ntmps102
  go_wp2
  go_loop [8] (fun i => ∃ k : Nat, k ≤ n ∧ i = .int .i64 k ∧ Hid (∀ j (h : j < L.length), j < k → imB L[j] = true)) (fun i => n - (intOf i).toNat)
  case atStart => exact ⟨0, Nat.zero_le _, rfl, hidv (fun j h hj => by omega)⟩
  case round =>
    obtain ⟨k, hk, rfl, hall⟩ := hrel
    by_cases hlt : k < n
    · have hkx : k < L.length := by have := HN.out; omega
      obtain ⟨g, o, rfl, hg, hce⟩ := HA.out (by have := HN.out; omega)
      have c1 := hce k hkx
      have hsz := HS.out L[k] (List.getElem_mem _)
      have hmem := List.getElem_mem hkx
      obtain ⟨y, hy⟩ : ∃ a, L[k] = a := ⟨_, rfl⟩
      rw [hy] at c1 hsz hmem
      have HC := hidv (fun W => closV_any y W hsz)
      obtain ⟨q, hq⟩ : ∃ q, imB y = q := ⟨_, rfl⟩
      rw [hq] at HC
      have HQ := hidv hq
      have HME := hidv hmem
      have HYX := hidv hy
      clear hq hy hmem hce hsz
      go_wp2_with fail
      refine (HC.out _).mono ?_
      rintro e w2 ⟨rfl, rfl⟩
      cases q
      · go_wp2_with fail
        go_ret
        exact ⟨_, rfl, ⟨fun _ => ⟨y, HME.out, HQ.out⟩, fun _ => by omega⟩, by omega, by omega, rfl⟩
      · have HALL := hidv (show ∀ j (h : j < L.length), j < k + 1 → imB L[j] = true from fun j h hj => by
          rcases Nat.lt_or_ge j k with h2 | h2
          · exact hall.out j h h2
          · obtain rfl : j = k := by omega
            rw [HYX.out]
            exact HQ.out)
        go_wp2_with fail
        go_round
        case rel => exact ⟨k + 1, by omega, by go_num, HALL⟩
        case measure => simp [intOf]; omega
    · obtain rfl : k = n := by omega
      have hno : ¬ ∃ z ∈ L, imB z = false := fun ⟨z, hz, h⟩ => by
        obtain ⟨j, hj, rfl⟩ := List.getElem_of_mem hz
        have := hall.out j hj (by have := HN.out; omega)
        rw [h] at this; cases this
      have HNO := hidv hno
      clear hno
      go_wp2
      go_ret
      exact ⟨_, rfl, ⟨fun h => by omega, fun h => absurd h HNO.out⟩, by omega, by omega, rfl⟩

set_option maxHeartbeats 800000 in
theorem containsV_any (L : List ByteArray) (v : Value) (B : Nat) (w : World) (hv : Row w B v (L.map Value.string)) (hl : L.length ≤ 1048576) (hs : ∀ s ∈ L, s.size ≤ maxLen) (d : Bool) (hd : d = true ↔ ∃ z ∈ L, imB z = false) :
    Calls Try.prog 65 #[v, .func (.func 66) #[] #[]] w fun e w' => e = .returned (.bool d) ∧ w = w' := by
  obtain ⟨A, c, rfl, _⟩ := strRow_at hv
  have C := hidv (fun W (hW : w = W) => (show Calls Try.prog 102 #[.slice A L.length c, .func (.func 66) #[] #[]] W fun e w' => ∃ i : Int, e = .returned (.int .i64 i) ∧ (0 ≤ i ↔ ∃ z ∈ L, imB z = false) ∧ -1 ≤ i ∧ i ≤ 1048576 ∧ W = w' from by subst hW; exact indexV_any L _ B w hv hl hs))
  have HD := hidv hd
  clear hv hs hd
  go_enter Try.func65, Try.ntmps65
  go_wp2_with fail
  refine (C.out _ rfl).mono ?_
  rintro e w2 ⟨i, rfl, hi, hm, hM, rfl⟩
  have HI := hidv hi
  clear hi
  by_cases h : 0 ≤ i
  · obtain rfl : d = true := HD.out.mpr (HI.out.mp h)
    go_wp2_with fail
    go_ret
    exact ⟨by simp, rfl⟩
  · obtain rfl : d = false := iff_no HD.out (fun hh => h (HI.out.mpr hh))
    go_wp2_with fail
    go_ret
    exact ⟨by simp [h], rfl⟩

set_option maxHeartbeats 800000 in
theorem implImg_any (v : Value) (xs : List ByteArray) (B : Nat) (w : World) (hv : Row w B v (xs.map Value.string)) (hB : B ≤ w.heap.size) (hx : xs.length ≤ 1048576) (hs : ∀ s ∈ xs, s.size ≤ maxLen) (d : Bool) (hd : d = true ↔ ImgOk xs) :
    Calls Try.prog 24 #[v] w fun e w' => e = .returned (.bool d) ∧ Below w.heap.size w w' := by
  obtain ⟨A, c, rfl, _⟩ := strRow_at hv
  obtain ⟨n, hn⟩ : ∃ n, xs.length = n := ⟨_, rfl⟩
  have HD := hidv hd
  by_cases h4 : xs.length = 4
  · obtain ⟨q, hq⟩ := iffB (∃ z ∈ xs, imB z = false)
    have C := hidv (containsV_any xs _ B w hv hx hs q hq)
    have he : d = !q := by
      cases q
      · exact iff_yes HD.out ⟨h4, fun i hi => by
          cases h : imB xs[i]
          · exact absurd (hq.mpr ⟨xs[i], List.getElem_mem _, h⟩) (by decide)
          · rfl⟩
      · refine iff_no HD.out (fun h => ?_)
        obtain ⟨z, hz, hf⟩ := hq.mp rfl
        obtain ⟨j, hj, rfl⟩ := List.getElem_of_mem hz
        have := h.2 j hj
        rw [hf] at this; cases this
    subst he
    rw [h4] at C ⊢
    clear hd hv hs hq hn h4 HD
    go_enter Try.func24, Try.ntmps24
    go_wp2_with fail
    refine C.out.mono ?_
    rintro e w' ⟨rfl, rfl⟩
    go_wp2_with fail
    go_ret
    exact ⟨rfl, Below.refl _ _⟩
  · obtain rfl : d = false := iff_no HD.out (fun h => h4 h.1)
    have hne : ((n : Int) == 4) = false := by rw [beq_eq_false_iff_ne]; omega
    rw [hn] at hx ⊢
    clear hd hv hs hn h4 HD
    go_enter Try.func24, Try.ntmps24
    go_wp2_with fail
    go_ret
    exact ⟨rfl, Below.refl _ _⟩

set_option maxRecDepth 100000 in
set_option maxHeartbeats 1600000 in
theorem specImg_any (v : Value) (xs : List ByteArray) (B : Nat) (w : World) (hv : Row w B v (xs.map Value.string)) (hB : B ≤ w.heap.size) (hx : xs.length ≤ 1048576) (hs : ∀ s ∈ xs, s.size ≤ maxLen) (d : Bool) (hd : d = true ↔ ImgOk xs) :
    Calls Try.prog 70 #[v] w fun e w' => e = .returned (.bool d) ∧ Below w.heap.size w w' := by
  obtain ⟨A, c, rfl, hA⟩ := strRow_at hv
  obtain ⟨n, hn⟩ : ∃ n, xs.length = n := ⟨_, rfl⟩
  have HD := hidv hd
  have HA := hidv hA
  have HS := hidv hs
  rw [hn] at hx ⊢
  have HN := hidv hn
  clear hd hv hA hs hn
  go_enter Try.func70, Try.ntmps70
  go_wp2
  go_loop [3] (fun i => ∃ k : Nat, k ≤ n ∧ i = .int .i64 k ∧ Hid (∀ j (h : j < xs.length), j < k → imB xs[j] = true)) (fun i => n - (intOf i).toNat)
  case atStart => exact ⟨0, Nat.zero_le _, rfl, hidv (fun j h hj => by omega)⟩
  case round =>
    obtain ⟨k, hk, rfl, hall⟩ := hrel
    by_cases hlt : k < n
    · have hkx : k < xs.length := by have := HN.out; omega
      obtain ⟨g, o, rfl, hg, hce⟩ := HA.out (by have := HN.out; omega)
      have c1 := hce k hkx
      have hsz := HS.out xs[k] (List.getElem_mem _)
      have hC1 := fun W => specWord_any xs[k] W hsz
      obtain ⟨x, hx1⟩ : ∃ x, xs[k] = x := ⟨_, rfl⟩
      have HX1 := hidv hx1
      rw [hx1] at c1 hC1 hsz
      obtain ⟨q, hq⟩ : ∃ q, Wd.wordB x.data.toList = q := ⟨_, rfl⟩
      have HQ := hidv hq
      rw [hq] at hC1
      have C1 := hidv hC1
      unfold maxLen at hsz
      clear hx1 hq hC1 hce
      have hno : imB x = false → d = false := fun h => iff_no HD.out (fun hh => by have h1 := hh.2 k hkx; rw [HX1.out, h] at h1; cases h1)
      cases q
      · obtain rfl : d = false := hno (by unfold imB; rw [HQ.out, Bool.false_and])
        clear hno
        go_wp2_with fail
        refine (C1.out _).mono ?_
        rintro e w' ⟨rfl, rfl⟩
        go_wp2_with fail
        go_ret
        exact ⟨rfl, Below.refl _ _⟩
      · by_cases h8 : 8 < x.size
        · obtain rfl : d = false := hno (by unfold imB; rw [HQ.out, Bool.true_and]; simp; omega)
          clear hno
          go_wp2_with fail
          refine (C1.out _).mono ?_
          rintro e w' ⟨rfl, rfl⟩
          go_wp2_with fail
          go_ret
          exact ⟨rfl, Below.refl _ _⟩
        · have HALL := hidv (show ∀ j (h : j < xs.length), j < k + 1 → imB xs[j] = true from fun j h hj => by
            rcases Nat.lt_or_ge j k with h2 | h2
            · exact hall.out j h h2
            · obtain rfl : j = k := by omega
              rw [HX1.out]
              unfold imB
              rw [HQ.out, Bool.true_and]; simp; omega)
          clear hno
          go_wp2_with fail
          refine (C1.out _).mono ?_
          rintro e w' ⟨rfl, rfl⟩
          go_wp2_with fail
          go_round
          case rel => exact ⟨k + 1, by omega, by go_num, HALL⟩
          case measure => simp [intOf]; omega
    · obtain rfl : k = n := by omega
      by_cases h4 : k = 4
      · obtain rfl : d = true := iff_yes HD.out ⟨by have := HN.out; omega, fun i hi => hall.out i hi (by have := HN.out; omega)⟩
        subst h4
        go_wp2_with fail
        go_ret
        exact ⟨rfl, Below.refl _ _⟩
      · obtain rfl : d = false := iff_no HD.out (fun h => h4 (by have := HN.out; have := h.1; omega))
        have hne : ((k : Int) == 4) = false := by rw [beq_eq_false_iff_ne]; omega
        clear h4
        go_wp2_with fail
        go_ret
        exact ⟨rfl, Below.refl _ _⟩

end Go.Proofs.Ytpjidcfdcpjafaa
