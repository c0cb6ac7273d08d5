/-
  Sets in which no word begins, or ends, with another one; IsPrefixFree, IsSuffixFree, of the program and of the model: contracts.
-/
import Derived.Test.YtpjflakialomaaaSt7
namespace Go.Proofs.Ytpjflakialomaaa
open Go.RowKit Go
set_option linter.unusedVariables false

/-- A function's answer where it asks first whether its argument is valid: a Bool of a proposition with OK, or false with ErrInvalid. -/
def IfOk (V P : Prop) (b : Bool) (c : Int) : Prop := (V → c = 0 ∧ (b = true ↔ P)) ∧ (¬ V → b = false ∧ c = 1)
theorem ifOk_ex (V P : Prop) : ∃ b c, IfOk V P b c := by
  by_cases h : V
  · obtain ⟨d, hd⟩ := iffB P
    exact ⟨d, 0, fun _ => ⟨rfl, hd⟩, fun hn => absurd h hn⟩
  · exact ⟨false, 1, fun hy => absurd hy h, fun _ => ⟨rfl, rfl⟩⟩

/-- No word of a list is such a part of another one. -/
def NonePre (xs : List ByteArray) : Prop := ∀ i (hi : i < xs.length) j (hj : j < xs.length), i ≠ j → Lib.hasPrefix xs[i].data.toList xs[j].data.toList = false
/-- What is found behind i rows and j words of the next one. -/
def UptoPre (xs : List ByteArray) (i0 j0 : Nat) : Prop := ∀ i (hi : i < xs.length) j (hj : j < xs.length), i ≠ j → (i < i0 ∨ i = i0 ∧ j < j0) → Lib.hasPrefix xs[i].data.toList xs[j].data.toList = false
theorem UptoPre.same {xs : List ByteArray} {i j : Nat} (h : UptoPre xs i j) (he : i = j) : UptoPre xs i (j + 1) := fun a ha b hb hab hh => h a ha b hb hab (by omega)
theorem UptoPre.next {xs : List ByteArray} {i j : Nat} (h : UptoPre xs i j) (hi : i < xs.length) (hj : j < xs.length) (hf : Lib.hasPrefix xs[i].data.toList xs[j].data.toList = false) : UptoPre xs i (j + 1) := fun a ha b hb hab hh => by
  rcases Decidable.em (a = i ∧ b = j) with ⟨rfl, rfl⟩ | hne
  · exact hf
  · exact h a ha b hb hab (by omega)
theorem UptoPre.row {xs : List ByteArray} {i n : Nat} (h : UptoPre xs i n) (hn : xs.length = n) : UptoPre xs (i + 1) 0 := fun a ha b hb hab hh => h a ha b hb hab (by omega)
theorem UptoPre.all {xs : List ByteArray} {n m : Nat} (h : UptoPre xs n m) (hn : xs.length = n) : NonePre xs := fun a ha b hb hab => h a ha b hb hab (by omega)

set_option maxRecDepth 100000 in
set_option maxHeartbeats 1600000 in
theorem nonePre_any (v : Value) (xs : List ByteArray) (B : Nat) (w : World) (hv : Row w B v (xs.map Value.string)) (hx : xs.length ≤ 1048576) (hs : ∀ s ∈ xs, s.size ≤ maxLen) (d : Bool) (hd : d = true ↔ NonePre xs) :
    Calls Try.prog 46 #[v, .func (.func 47) #[] #[]] w fun e w' => e = .returned (.bool d) ∧ w = w' := by
  obtain ⟨A, c, rfl, hA⟩ := strRow_at hv
  obtain ⟨n, hn⟩ : ∃ n, xs.length = n := ⟨_, rfl⟩
  have HD := hidv hd
  have HA := hidv hA
  have HS := hidv hs
  rw [hn] at hx ⊢
  have HN := hidv hn
  clear hd hv hA hs hn
  go_enter Try.func46, Try.ntmps46
  go_wp2
  go_loop [11] (fun i => ∃ k : Nat, k ≤ n ∧ i = .int .i64 k ∧ Hid (UptoPre xs k 0)) (fun i => n - (intOf i).toNat)
  case atStart => exact ⟨0, Nat.zero_le _, rfl, hidv (fun a ha b hb hab hh => by omega)⟩
  case round =>
    obtain ⟨k, hk, rfl, hall⟩ := hrel
    by_cases hlt : k < n
    · have hkx : k < xs.length := by have := HN.out; omega
      obtain ⟨g, o, rfl, hg, hce⟩ := HA.out (by have := HN.out; omega)
      have c1 := hce k hkx
      obtain ⟨x, hx1⟩ : ∃ x, xs[k] = x := ⟨_, rfl⟩
      have HX1 := hidv hx1
      have hsz := HS.out xs[k] (List.getElem_mem _)
      unfold maxLen at hsz
      rw [hx1] at c1 hsz
      have HCE := hidv hce
      clear hx1 hce
      go_wp2_with fail
      clear c1
      go_loop [18] (fun i => ∃ j : Nat, j ≤ n ∧ i = .int .i64 j ∧ Hid (UptoPre xs k j)) (fun i => n - (intOf i).toNat)
      case atStart => exact ⟨0, Nat.zero_le _, rfl, hall⟩
      case round =>
        obtain ⟨j, hj, rfl, hall2⟩ := hrel
        by_cases hlj : j < n
        · have hjx : j < xs.length := by have := HN.out; omega
          have c2 := HCE.out j hjx
          obtain ⟨y, hy1⟩ : ∃ x, xs[j] = x := ⟨_, rfl⟩
          have HY1 := hidv hy1
          rw [hy1] at c2
          clear hy1
          by_cases hkj : k = j
          · have hne : ((k : Int) != (j : Int)) = false := by rw [hkj]; simp
            have HU := hidv (hall2.out.same hkj)
            clear hkj
            go_wp2_with fail
            go_round
            case rel => exact ⟨j + 1, by omega, by go_num, HU⟩
            case measure => simp [intOf]; omega
          · have hne : ((k : Int) != (j : Int)) = true := by rw [bne_iff_ne]; omega
            have C := fun W => Try.strings_HasPrefix x y W
            obtain ⟨q, hq⟩ : ∃ q, Lib.hasPrefix x.data.toList y.data.toList = q := ⟨_, rfl⟩
            rw [hq] at C
            have HQ := hidv hq
            have HC := hidv C
            clear hq C
            cases q
            · have HU := hidv (hall2.out.next hkx hjx (by rw [HX1.out, HY1.out]; exact HQ.out))
              go_wp2_with fail
              refine (HC.out _).mono ?_
              rintro e w' ⟨rfl, rfl⟩
              go_wp2_with fail
              go_round
              case rel => exact ⟨j + 1, by omega, by go_num, HU⟩
              case measure => simp [intOf]; omega
            · obtain rfl : d = false := iff_no HD.out (fun h => by have h1 := h k hkx j hjx hkj; rw [HX1.out, HY1.out, HQ.out] at h1; cases h1)
              go_wp2_with fail
              refine (HC.out _).mono ?_
              rintro e w' ⟨rfl, rfl⟩
              go_wp2_with fail
              go_ret
              exact ⟨rfl, rfl⟩
        · obtain rfl : j = n := by omega
          have HU := hidv (hall2.out.row HN.out)
          go_wp2_with fail
          go_round
          case rel => exact ⟨k + 1, by omega, by go_num, HU⟩
          case measure => simp [intOf]; omega
    · obtain rfl : k = n := by omega
      obtain rfl : d = true := iff_yes HD.out (hall.out.all HN.out)
      go_wp2
      go_ret
      exact ⟨rfl, rfl⟩

theorem implFreePre_any (v : Value) (xs : List ByteArray) (B : Nat) (w : World) (hv : Row w B v (xs.map Value.string)) (hB : B ≤ w.heap.size) (hx : xs.length ≤ 1048576) (hs : ∀ s ∈ xs, s.size ≤ maxLen) (b : Bool) (c : Int) (hd : IfOk (SetOk xs) (NonePre xs) b c) :
    Calls Try.prog 21 #[v] w fun e w' => e = .returned (.tuple #[.bool b, .int .i64 c]) ∧ Below w.heap.size w w' := by
  obtain ⟨q, hq⟩ := iffB (SetOk xs)
  have C1 := hidv (implSet_any v xs B w hv hB hx hs q hq)
  have C2 := hidv (fun W (h : Below w.heap.size w W) => nonePre_any v xs B W (hv.below (h.mono hB)) hx hs)
  obtain ⟨A, cc, rfl, _⟩ := id hv
  rw [List.length_map] at C1 C2 ⊢
  have HD := hidv hd
  have HQ := hidv hq
  clear hv hs hd hq
  cases q
  · obtain ⟨rfl, rfl⟩ := HD.out.2 (fun h => absurd (HQ.out.mpr h) (by decide))
    go_enter Try.func21, Try.ntmps21
    go_wp2_with fail
    refine C1.out.mono ?_
    rintro e w2 ⟨rfl, hb2⟩
    have HB := hidv hb2
    clear hb2
    go_wp2_with fail
    go_ret2
    exact ⟨rfl, HB.out⟩
  · obtain ⟨rfl, hb⟩ := HD.out.1 (HQ.out.mp rfl)
    have HBB := hidv hb
    clear hb
    go_enter Try.func21, Try.ntmps21
    go_wp2_with fail
    refine C1.out.mono ?_
    rintro e w2 ⟨rfl, hb2⟩
    have HB := hidv hb2
    clear hb2
    go_wp2_with fail
    refine (C2.out _ HB.out b HBB.out).mono ?_
    rintro e w' ⟨rfl, rfl⟩
    go_wp2_with fail
    go_ret2
    exact ⟨rfl, HB.out⟩

/-- No word of a list is such a part of another one. -/
def NoneSuf (xs : List ByteArray) : Prop := ∀ i (hi : i < xs.length) j (hj : j < xs.length), i ≠ j → Lib.hasSuffix xs[i].data.toList xs[j].data.toList = false
/-- What is found behind i rows and j words of the next one. -/
def UptoSuf (xs : List ByteArray) (i0 j0 : Nat) : Prop := ∀ i (hi : i < xs.length) j (hj : j < xs.length), i ≠ j → (i < i0 ∨ i = i0 ∧ j < j0) → Lib.hasSuffix xs[i].data.toList xs[j].data.toList = false
theorem UptoSuf.same {xs : List ByteArray} {i j : Nat} (h : UptoSuf xs i j) (he : i = j) : UptoSuf xs i (j + 1) := fun a ha b hb hab hh => h a ha b hb hab (by omega)
theorem UptoSuf.next {xs : List ByteArray} {i j : Nat} (h : UptoSuf xs i j) (hi : i < xs.length) (hj : j < xs.length) (hf : Lib.hasSuffix xs[i].data.toList xs[j].data.toList = false) : UptoSuf xs i (j + 1) := fun a ha b hb hab hh => by
  rcases Decidable.em (a = i ∧ b = j) with ⟨rfl, rfl⟩ | hne
  · exact hf
  · exact h a ha b hb hab (by omega)
theorem UptoSuf.row {xs : List ByteArray} {i n : Nat} (h : UptoSuf xs i n) (hn : xs.length = n) : UptoSuf xs (i + 1) 0 := fun a ha b hb hab hh => h a ha b hb hab (by omega)
theorem UptoSuf.all {xs : List ByteArray} {n m : Nat} (h : UptoSuf xs n m) (hn : xs.length = n) : NoneSuf xs := fun a ha b hb hab => h a ha b hb hab (by omega)

set_option maxRecDepth 100000 in
set_option maxHeartbeats 1600000 in
theorem noneSuf_any (v : Value) (xs : List ByteArray) (B : Nat) (w : World) (hv : Row w B v (xs.map Value.string)) (hx : xs.length ≤ 1048576) (hs : ∀ s ∈ xs, s.size ≤ maxLen) (d : Bool) (hd : d = true ↔ NoneSuf xs) :
    Calls Try.prog 46 #[v, .func (.func 49) #[] #[]] w fun e w' => e = .returned (.bool d) ∧ w = w' := by
  obtain ⟨A, c, rfl, hA⟩ := strRow_at hv
  obtain ⟨n, hn⟩ : ∃ n, xs.length = n := ⟨_, rfl⟩
  have HD := hidv hd
  have HA := hidv hA
  have HS := hidv hs
  rw [hn] at hx ⊢
  have HN := hidv hn
  clear hd hv hA hs hn
  go_enter Try.func46, Try.ntmps46
  go_wp2
  go_loop [11] (fun i => ∃ k : Nat, k ≤ n ∧ i = .int .i64 k ∧ Hid (UptoSuf xs k 0)) (fun i => n - (intOf i).toNat)
  case atStart => exact ⟨0, Nat.zero_le _, rfl, hidv (fun a ha b hb hab hh => by omega)⟩
  case round =>
    obtain ⟨k, hk, rfl, hall⟩ := hrel
    by_cases hlt : k < n
    · have hkx : k < xs.length := by have := HN.out; omega
      obtain ⟨g, o, rfl, hg, hce⟩ := HA.out (by have := HN.out; omega)
      have c1 := hce k hkx
      obtain ⟨x, hx1⟩ : ∃ x, xs[k] = x := ⟨_, rfl⟩
      have HX1 := hidv hx1
      have hsz := HS.out xs[k] (List.getElem_mem _)
      unfold maxLen at hsz
      rw [hx1] at c1 hsz
      have HCE := hidv hce
      clear hx1 hce
      go_wp2_with fail
      clear c1
      go_loop [18] (fun i => ∃ j : Nat, j ≤ n ∧ i = .int .i64 j ∧ Hid (UptoSuf xs k j)) (fun i => n - (intOf i).toNat)
      case atStart => exact ⟨0, Nat.zero_le _, rfl, hall⟩
      case round =>
        obtain ⟨j, hj, rfl, hall2⟩ := hrel
        by_cases hlj : j < n
        · have hjx : j < xs.length := by have := HN.out; omega
          have c2 := HCE.out j hjx
          obtain ⟨y, hy1⟩ : ∃ x, xs[j] = x := ⟨_, rfl⟩
          have HY1 := hidv hy1
          rw [hy1] at c2
          clear hy1
          by_cases hkj : k = j
          · have hne : ((k : Int) != (j : Int)) = false := by rw [hkj]; simp
            have HU := hidv (hall2.out.same hkj)
            clear hkj
            go_wp2_with fail
            go_round
            case rel => exact ⟨j + 1, by omega, by go_num, HU⟩
            case measure => simp [intOf]; omega
          · have hne : ((k : Int) != (j : Int)) = true := by rw [bne_iff_ne]; omega
            have C := fun W => Try.strings_HasSuffix x y W hsz
            obtain ⟨q, hq⟩ : ∃ q, Lib.hasSuffix x.data.toList y.data.toList = q := ⟨_, rfl⟩
            rw [hq] at C
            have HQ := hidv hq
            have HC := hidv C
            clear hq C
            cases q
            · have HU := hidv (hall2.out.next hkx hjx (by rw [HX1.out, HY1.out]; exact HQ.out))
              go_wp2_with fail
              refine (HC.out _).mono ?_
              rintro e w' ⟨rfl, rfl⟩
              go_wp2_with fail
              go_round
              case rel => exact ⟨j + 1, by omega, by go_num, HU⟩
              case measure => simp [intOf]; omega
            · obtain rfl : d = false := iff_no HD.out (fun h => by have h1 := h k hkx j hjx hkj; rw [HX1.out, HY1.out, HQ.out] at h1; cases h1)
              go_wp2_with fail
              refine (HC.out _).mono ?_
              rintro e w' ⟨rfl, rfl⟩
              go_wp2_with fail
              go_ret
              exact ⟨rfl, rfl⟩
        · obtain rfl : j = n := by omega
          have HU := hidv (hall2.out.row HN.out)
          go_wp2_with fail
          go_round
          case rel => exact ⟨k + 1, by omega, by go_num, HU⟩
          case measure => simp [intOf]; omega
    · obtain rfl : k = n := by omega
      obtain rfl : d = true := iff_yes HD.out (hall.out.all HN.out)
      go_wp2
      go_ret
      exact ⟨rfl, rfl⟩

theorem implFreeSuf_any (v : Value) (xs : List ByteArray) (B : Nat) (w : World) (hv : Row w B v (xs.map Value.string)) (hB : B ≤ w.heap.size) (hx : xs.length ≤ 1048576) (hs : ∀ s ∈ xs, s.size ≤ maxLen) (b : Bool) (c : Int) (hd : IfOk (SetOk xs) (NoneSuf xs) b c) :
    Calls Try.prog 23 #[v] w fun e w' => e = .returned (.tuple #[.bool b, .int .i64 c]) ∧ Below w.heap.size w w' := by
  obtain ⟨q, hq⟩ := iffB (SetOk xs)
  have C1 := hidv (implSet_any v xs B w hv hB hx hs q hq)
  have C2 := hidv (fun W (h : Below w.heap.size w W) => noneSuf_any v xs B W (hv.below (h.mono hB)) hx hs)
  obtain ⟨A, cc, rfl, _⟩ := id hv
  rw [List.length_map] at C1 C2 ⊢
  have HD := hidv hd
  have HQ := hidv hq
  clear hv hs hd hq
  cases q
  · obtain ⟨rfl, rfl⟩ := HD.out.2 (fun h => absurd (HQ.out.mpr h) (by decide))
    go_enter Try.func23, Try.ntmps23
    go_wp2_with fail
    refine C1.out.mono ?_
    rintro e w2 ⟨rfl, hb2⟩
    have HB := hidv hb2
    clear hb2
    go_wp2_with fail
    go_ret2
    exact ⟨rfl, HB.out⟩
  · obtain ⟨rfl, hb⟩ := HD.out.1 (HQ.out.mp rfl)
    have HBB := hidv hb
    clear hb
    go_enter Try.func23, Try.ntmps23
    go_wp2_with fail
    refine C1.out.mono ?_
    rintro e w2 ⟨rfl, hb2⟩
    have HB := hidv hb2
    clear hb2
    go_wp2_with fail
    refine (C2.out _ HB.out b HBB.out).mono ?_
    rintro e w' ⟨rfl, rfl⟩
    go_wp2_with fail
    go_ret2
    exact ⟨rfl, HB.out⟩

end Go.Proofs.Ytpjflakialomaaa
