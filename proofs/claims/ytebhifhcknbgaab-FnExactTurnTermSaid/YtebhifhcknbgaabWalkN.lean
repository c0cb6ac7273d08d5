/-
  RenameTerm, of the program and of the model: contracts.
-/
import Derived.Test.YtebhifhcknbgaabWalkP
import Derived.Test.YtebhifhcknbgaabWalkT
namespace Go.Proofs.Ytebhifhcknbgaab
open Go.RowKit Go

def ordB (xs : List Int) : Bool := decide (xs.length = 4) && (xs.contains 0 && xs.contains 1 && xs.contains 2 && xs.contains 3)
/-- The first k numbers are each in range and different from those before. -/
def OrdTo (xs : List Int) (k : Nat) : Prop := ∀ j (h : j < xs.length), j < k → (0 ≤ xs[j] ∧ xs[j] ≤ 3) ∧ ∀ i (hi : i < j), xs[i] ≠ xs[j]
theorem ord_len {xs : List Int} (h : xs.length = 4) : ∃ a b c d, xs = [a, b, c, d] := by
  match xs, h with
  | [a, b, c, d], _ => exact ⟨a, b, c, d, rfl⟩
theorem ordB_of {xs : List Int} (h : xs.length = 4) (ho : OrdTo xs 4) : ordB xs = true := by
  obtain ⟨a, b, c, d, rfl⟩ := ord_len h
  have h0 := ho 0 (by simp) (by omega)
  have h1 := ho 1 (by simp) (by omega)
  have h2 := ho 2 (by simp) (by omega)
  have h3 := ho 3 (by simp) (by omega)
  have n10 := h1.2 0 (by omega)
  have n20 := h2.2 0 (by omega)
  have n21 := h2.2 1 (by omega)
  have n30 := h3.2 0 (by omega)
  have n31 := h3.2 1 (by omega)
  have n32 := h3.2 2 (by omega)
  have r0 := h0.1
  have r1 := h1.1
  have r2 := h2.1
  have r3 := h3.1
  simp only [List.getElem_cons_zero, List.getElem_cons_succ] at *
  clear h0 h1 h2 h3 ho h
  unfold ordB
  simp only [List.length_cons, List.length_nil, Nat.zero_add, Nat.reduceAdd, decide_true, Bool.true_and, Bool.and_eq_true, List.contains_iff_mem, List.mem_cons, List.not_mem_nil, or_false]
  omega
theorem ordB_to {xs : List Int} (h : ordB xs = true) : xs.length = 4 ∧ OrdTo xs 4 := by
  unfold ordB at h
  rw [Bool.and_eq_true, decide_eq_true_eq] at h
  obtain ⟨h4, h⟩ := h
  refine ⟨h4, ?_⟩
  obtain ⟨a, b, c, d, rfl⟩ := ord_len h4
  simp only [Bool.and_eq_true, List.contains_iff_mem, List.mem_cons, List.not_mem_nil, or_false] at h
  intro j hj _
  simp only [List.length_cons, List.length_nil] at hj
  rcases (show j = 0 ∨ j = 1 ∨ j = 2 ∨ j = 3 by omega) with rfl | rfl | rfl | rfl
  · refine ⟨by simp only [List.getElem_cons_zero]; omega, fun i hi => by omega⟩
  · refine ⟨by simp only [List.getElem_cons_zero, List.getElem_cons_succ]; omega, fun i hi => ?_⟩
    obtain rfl : i = 0 := by omega
    simp only [List.getElem_cons_zero, List.getElem_cons_succ]; omega
  · refine ⟨by simp only [List.getElem_cons_zero, List.getElem_cons_succ]; omega, fun i hi => ?_⟩
    rcases (show i = 0 ∨ i = 1 by omega) with rfl | rfl <;> simp only [List.getElem_cons_zero, List.getElem_cons_succ] <;> omega
  · refine ⟨by simp only [List.getElem_cons_zero, List.getElem_cons_succ]; omega, fun i hi => ?_⟩
    rcases (show i = 0 ∨ i = 1 ∨ i = 2 by omega) with rfl | rfl | rfl <;> simp only [List.getElem_cons_zero, List.getElem_cons_succ] <;> omega
theorem ordB_get {xs : List Int} (h : ordB xs = true) (k : Nat) (hk : k < 4) : ∃ hk' : k < xs.length, 0 ≤ xs[k] ∧ xs[k] ≤ 3 := by
  obtain ⟨h4, h⟩ := ordB_to h
  exact ⟨by omega, (h k (by omega) hk).1⟩

theorem contains_take {xs : List Int} {x : Int} {k : Nat} (hk : k < xs.length) : (xs.take (k + 1)).contains x = ((xs.take k).contains x || x == xs[k]) := by
  rw [List.take_succ_eq_append_getElem hk, List.contains_eq_any_beq, List.any_append, ← List.contains_eq_any_beq]
  simp

def IdxOk (xs : List Int) (x r : Int) : Prop := decide (0 ≤ r) = xs.contains x

set_option maxHeartbeats 800000 in
theorem index_any (v : Value) (xs : List Int) (x : Int) (B : Nat) (w : World) (hv : Row w B v (xs.map (Value.int .i64))) (hx : xs.length ≤ 1048576) :
    Calls Try.prog 92 #[v, .int .i64 x] w fun e w' => (∃ r : Int, e = .returned (.int .i64 r) ∧ IdxOk xs x r) ∧ w = w' := by
  obtain ⟨A, c, rfl, hA⟩ := intRow_at hv
  obtain ⟨n, hn⟩ : ∃ n, xs.length = n := ⟨_, rfl⟩
  have HA := hidv hA
  rw [hn] at hx ⊢
  have HN := hidv hn
  clear hn hA hv
  go_enter Try.func92, Try.ntmps92
  go_wp2
  go_loop [8] (fun i => ∃ k : Nat, k ≤ n ∧ i = .int .i64 k ∧ Hid ((xs.take k).contains x = false)) (fun i => n - (intOf i).toNat)
  case atStart => exact ⟨0, Nat.zero_le _, rfl, hidv (by simp)⟩
  case round =>
    obtain ⟨k, hk, rfl, hall⟩ := hrel
    by_cases hlt : k < n
    · have hkx : k < xs.length := by have := HN.out; omega
      obtain ⟨g, o, rfl, hg, hce⟩ := HA.out (by omega)
      have c1 := hce k hkx
      obtain ⟨y, hx1⟩ : ∃ y, xs[k] = y := ⟨_, rfl⟩
      rw [hx1] at c1
      have HX := hidv hx1
      clear hx1 hce
      by_cases hxy : x = y
      · subst hxy
        go_wp2
        go_ret
        refine ⟨⟨k, rfl, ?_⟩, rfl⟩
        unfold IdxOk
        rw [decide_eq_true (by omega), eq_comm, List.contains_iff_mem, ← HX.out]
        exact List.getElem_mem _
      · go_wp2
        go_round
        case rel =>
          refine ⟨k + 1, by omega, by go_num, hidv ?_⟩
          rw [contains_take hkx, hall.out, HX.out]
          simpa using hxy
        case measure => simp [intOf]; omega
    · go_wp2
      go_ret
      refine ⟨⟨-1, rfl, ?_⟩, rfl⟩
      have h2 := hall.out
      rw [List.take_of_length_le (by have := HN.out; omega)] at h2
      unfold IdxOk
      rw [h2]
      rfl

set_option maxHeartbeats 400000 in
theorem contains_any (v : Value) (xs : List Int) (x : Int) (B : Nat) (w : World) (hv : Row w B v (xs.map (Value.int .i64))) (hx : xs.length ≤ 1048576) :
    Calls Try.prog 81 #[v, .int .i64 x] w fun e w' => e = .returned (.bool (xs.contains x)) ∧ w = w' := by
  have c1 := index_any v xs x B w hv hx
  clear hv
  go_enter Try.func81, Try.ntmps81
  go_wp2_with (go_at_call 92; refine c1.mono ?_; rintro e w' ⟨⟨r, rfl, hr⟩, rfl⟩)
  go_ret
  refine ⟨ret_bool ?_, rfl⟩
  rw [← show decide (0 ≤ r) = xs.contains x from hr]

set_option maxHeartbeats 800000 in
theorem implOrder_any (v : Value) (xs : List Int) (B : Nat) (w : World) (hv : Row w B v (xs.map (Value.int .i64))) (hx : xs.length ≤ 1048576) :
    Calls Try.prog 60 #[v] w fun e w' => e = .returned (.bool (ordB xs)) ∧ w = w' := by
  obtain ⟨A, c, rfl, hA⟩ := intRow_at hv
  obtain ⟨n, hn⟩ : ∃ n, xs.length = n := ⟨_, rfl⟩
  have hc := fun x => contains_any _ xs x B w hv hx
  obtain ⟨r, hr⟩ : ∃ r, ordB xs = r := ⟨_, rfl⟩
  have HC := hidv hc
  have HR := hidv hr
  rw [hr]
  have HN := hidv hn
  rw [hn] at hx ⊢ HC
  clear hn hr hA hv hc
  by_cases h4 : n = 4
  · subst h4
    go_enter Try.func60, Try.ntmps60
    go_wp2
    go_loop [7] (fun i => ∃ k : Nat, k ≤ 4 ∧ i = .int .i64 k ∧ Hid (∀ j : Nat, j < k → xs.contains (j : Int) = true)) (fun i => 4 - (intOf i).toNat)
    case atStart => exact ⟨0, Nat.zero_le _, rfl, hidv (by simp)⟩
    case round =>
      obtain ⟨k, hk, rfl, hall⟩ := hrel
      by_cases hlt : k < 4
      · obtain ⟨b, hb⟩ : ∃ b, xs.contains (k : Int) = b := ⟨_, rfl⟩
        have hck := HC.out (k : Int)
        rw [hb] at hck
        have HCK := hidv hck
        have HB := hidv hb
        clear hck hb
        cases b
        · go_wp2_with (go_at_call 81; refine HCK.out.mono ?_; rintro e w' ⟨rfl, rfl⟩)
          go_ret
          refine ⟨ret_bool ?_, rfl⟩
          rw [← HR.out]
          have hb := HB.out
          unfold ordB
          rcases (show k = 0 ∨ k = 1 ∨ k = 2 ∨ k = 3 by omega) with rfl | rfl | rfl | rfl
          · rw [show xs.contains 0 = false from hb]; simp
          · rw [show xs.contains 1 = false from hb]; simp
          · rw [show xs.contains 2 = false from hb]; simp
          · rw [show xs.contains 3 = false from hb]; simp
        · go_wp2_with (go_at_call 81; refine HCK.out.mono ?_; rintro e w' ⟨rfl, rfl⟩)
          go_round
          case rel =>
            refine ⟨k + 1, by omega, by go_num, hidv fun j hj => ?_⟩
            rcases Nat.lt_or_ge j k with h | h
            · exact hall.out j h
            · obtain rfl : j = k := by omega
              exact HB.out
          case measure => simp [intOf]; omega
      · obtain rfl : k = 4 := by omega
        go_wp2
        go_ret
        refine ⟨ret_bool ?_, rfl⟩
        rw [← HR.out]
        unfold ordB
        rw [HN.out, show xs.contains 0 = true from hall.out 0 (by omega), show xs.contains 1 = true from hall.out 1 (by omega), show xs.contains 2 = true from hall.out 2 (by omega), show xs.contains 3 = true from hall.out 3 (by omega)]
        rfl
  · have hne : ((n : Int) != 4) = true := by rw [bne_iff_ne]; omega
    obtain rfl : r = false := by
      rw [← HR.out]
      unfold ordB
      rw [HN.out, decide_eq_false h4, Bool.false_and]
    go_enter Try.func60, Try.ntmps60
    go_wp2
    go_ret
    exact ⟨rfl, rfl⟩

set_option maxHeartbeats 1600000 in
theorem specOrder_any (v : Value) (xs : List Int) (B : Nat) (w : World) (hv : Row w B v (xs.map (Value.int .i64))) (hx : xs.length ≤ 1048576) :
    Calls Try.prog 58 #[v] w fun e w' => e = .returned (.bool (ordB xs)) ∧ Below w.heap.size w w' := by
  obtain ⟨A, c, rfl, hA⟩ := intRow_at hv
  obtain ⟨n, hn⟩ : ∃ n, xs.length = n := ⟨_, rfl⟩
  obtain ⟨r, hr⟩ : ∃ r, ordB xs = r := ⟨_, rfl⟩
  have HA := hidv hA
  have HR := hidv hr
  rw [hr]
  rw [hn] at hx ⊢
  have HN := hidv hn
  clear hn hr hA hv
  go_enter Try.func58, Try.ntmps58
  go_wp2
  go_loopw [3] (fun i wr => ∃ k : Nat, k ≤ n ∧ i = .int .i64 k ∧ Hid (OrdTo xs k) ∧ ∃ m, wr = w.drewN m) (fun i _ => n - (intOf i).toNat)
  case atStart => exact ⟨0, Nat.zero_le _, rfl, hidv (fun j _ h => by omega), 0, rfl⟩
  case round =>
    obtain ⟨k, hk, rfl, hall, m0, rfl⟩ := hrel
    by_cases hlt : k < n
    · have hkx : k < xs.length := by have := HN.out; omega
      obtain ⟨g, o, rfl, hg, hce⟩ := HA.out (by omega)
      have HCE := hidv hce
      have c1 := hce k hkx
      obtain ⟨x, hx1⟩ : ∃ x, xs[k] = x := ⟨_, rfl⟩
      rw [hx1] at c1
      obtain ⟨b, hb⟩ : ∃ b, (decide (0 ≤ x) && decide (x ≤ 3)) = b := ⟨_, rfl⟩
      have hin := fun wx => l00In_any x 0 3 wx b hb
      have HIN := hidv hin
      have HB := hidv hb
      have HX := hidv hx1
      clear hin hb hx1 hce
      cases b
      · go_wp2_with (go_at_call 78; refine (HIN.out _).mono ?_; rintro e w' ⟨rfl, rfl⟩)
        go_ret
        refine ⟨ret_bool ?_, below_drewN (Below.refl _ _) _⟩
        rw [← HR.out]
        cases hq : ordB xs
        · rfl
        · exfalso
          obtain ⟨h4, ho⟩ := ordB_to hq
          have h1 := (ho k hkx (by omega)).1
          have h2 := HB.out
          rw [HX.out] at h1
          simp at h2
          omega
      · go_wp2_with (go_at_call 78; refine (HIN.out _).mono ?_; rintro e w' ⟨rfl, rfl⟩)
        go_loopw [4] (fun i wr => ∃ j : Nat, j ≤ k ∧ i = .int .i64 j ∧ Hid (∀ i (hi : i < j) (hl : i < xs.length), xs[i] ≠ x) ∧ ∃ m, wr = w.drewN m) (fun i _ => k - (intOf i).toNat)
        case atStart => exact ⟨0, Nat.zero_le _, rfl, hidv (fun i h => by omega), _, rfl⟩
        case round =>
          obtain ⟨j, hj, rfl, hdif, m1, rfl⟩ := hrel
          by_cases hjk : j < k
          · have c2 := HCE.out j (by have := HN.out; omega)
            obtain ⟨y, hy1⟩ : ∃ y, xs[j]'(by omega) = y := ⟨_, rfl⟩
            rw [hy1] at c2
            have HY := hidv hy1
            clear hy1
            go_wp2
            go_quiet (fail)
            go_wp2
            · have hxy : (y == x) = true := by assumption
              go_ret
              refine ⟨ret_bool ?_, below_drewN (below_drewN (Below.refl _ _) _) _⟩
              rw [← HR.out]
              cases hq : ordB xs
              · rfl
              · exfalso
                obtain ⟨h4, ho⟩ := ordB_to hq
                exact (ho k hkx (by omega)).2 j hjk (HY.out.trans ((by simpa using hxy : y = x).trans HX.out.symm))
            · have hxy : (y == x) = false := by assumption
              go_roundw
              case rel =>
                refine ⟨j + 1, by omega, by go_num, hidv fun i hi hl => ?_, _, rfl⟩
                rcases Nat.lt_or_ge i j with h | h
                · exact hdif.out i h hl
                · obtain rfl : i = j := by omega
                  rw [HY.out]
                  simpa using hxy
              case measure => simp [intOf]; omega
          · obtain rfl : j = k := by omega
            go_wp2
            go_roundw
            case rel =>
              refine ⟨j + 1, by omega, by go_num, hidv fun i hi hl => ?_, _, rfl⟩
              rcases Nat.lt_or_ge i j with h | h
              · exact hall.out i hi h
              · obtain rfl : i = j := by omega
                have h2 := HB.out
                simp at h2
                exact ⟨by rw [HX.out]; exact h2, fun q hq => by rw [HX.out]; exact hdif.out q hq (by omega)⟩
            case measure => simp [intOf]; omega
    · obtain rfl : k = n := by omega
      go_wp2
      go_ret
      refine ⟨ret_bool ?_, below_drewN (Below.refl _ _) _⟩
      rw [← HR.out]
      by_cases h4 : k = 4
      · subst h4
        rw [ordB_of HN.out hall.out]
        rfl
      · unfold ordB
        rw [HN.out, decide_eq_false h4, Bool.false_and]
        simp
        omega

def uTexts : ByteArray := ⟨#[88, 89, 90, 87]⟩
def uTxt (j : Nat) : ByteArray := uTexts.extract j (j + 1)
def renTxt (xs : List Int) (c : UInt8) : List UInt8 := if Wd.isL c then [c] else (uTxt (xs.getD (Wd.unkI c).toNat 0).toNat).data.toList
def renL (l : List UInt8) (xs : List Int) : List UInt8 := l.flatMap (renTxt xs)
theorem renL_next {s : ByteArray} (xs : List Int) {k : Nat} (hk : k < s.size) : renL (s.data.toList.take (k + 1)) xs = renL (s.data.toList.take k) xs ++ renTxt xs s[k] := by
  rw [List.take_succ_eq_append_getElem (by simpa using hk)]
  unfold renL
  simp [List.flatMap_append]
  rfl
theorem uTxt_size {j : Nat} (h : j < 4) : (uTxt j).size = 1 := by
  rcases (show j = 0 ∨ j = 1 ∨ j = 2 ∨ j = 3 by omega) with rfl | rfl | rfl | rfl <;> rfl
theorem renTxt_letter (xs : List Int) {c : UInt8} (h : Wd.isL c = true) : renTxt xs c = [c] := by
  unfold renTxt
  rw [h]
  rfl
theorem renTxt_unknown {xs : List Int} {c : UInt8} {x j : Nat} (h : Wd.isL c = false) (hx : Wd.unkI c = x) (hk : x < xs.length) (hj : xs[x] = j) : renTxt xs c = (uTxt j).data.toList := by
  unfold renTxt
  rw [h, hx]
  simp [hk, hj]
theorem renTxt_one {xs : List Int} (h : ordB xs = true) {c : UInt8} (hc : Wd.isL c = true ∨ Wd.isL c = false ∧ Wd.isU c = true) : (renTxt xs c).length = 1 := by
  rcases hc with hl | ⟨hl, hu⟩
  · rw [renTxt_letter xs hl]; rfl
  · obtain ⟨x, hx4, hxu, _, _⟩ := symV_unknown hl hu
    obtain ⟨hk, hb⟩ := ordB_get h x hx4
    rw [renTxt_unknown (j := xs[x].toNat) hl hxu hk (by omega)]
    have := uTxt_size (j := xs[x].toNat) (by omega)
    simpa using this
theorem renL_len {xs : List Int} (h : ordB xs = true) : ∀ l : List UInt8, (∀ c ∈ l, Wd.isL c = true ∨ Wd.isL c = false ∧ Wd.isU c = true) → (renL l xs).length = l.length
  | [], _ => by simp [renL]
  | c :: l, hl => by
    have h1 := renTxt_one h (hl c (by simp))
    have h2 := renL_len h l (fun d hd => hl d (by simp [hd]))
    have e : renL (c :: l) xs = renTxt xs c ++ renL l xs := by unfold renL; simp
    rw [e, List.length_cons, List.length_append]
    omega
theorem renL_upto {s : ByteArray} {xs : List Int} (hs : s.size ≤ 24) (hv : Wd.termB s.data.toList = true) (h : ordB xs = true) (k : Nat) : (renL (s.data.toList.take k) xs).length ≤ 24 := by
  have h1 := renL_len h (s.data.toList.take k) (fun c hc => term_allP hv c (List.mem_of_mem_take hc))
  have h2 : (s.data.toList.take k).length ≤ 24 := Nat.le_trans (List.length_take_le' _ _) (by simpa using hs)
  omega

theorem name_any (j : Nat) (h : j < 4) (w : World) :
    Calls Try.prog 80 #[.int .i64 (j : Int)] w fun e w' => e = .returned (.string (uTxt j)) ∧ w = w' := by
  have hsl := slice_one ⟨#[88, 89, 90, 87]⟩ (k := j) (show j < 4 from h)
  go_enter Try.func80, Try.ntmps80
  go_wp2
  go_ret
  exact ⟨rfl, rfl⟩
theorem unknownText_any (j : Nat) (h : j < 4) (w : World) :
    Calls Try.prog 131 #[.int .i64 (j : Int)] w fun e w' => e = .returned (.string (uTxt j)) ∧ w = w' := by
  have hsl := slice_one ⟨#[88, 89, 90, 87]⟩ (k := j) (show j < 4 from h)
  go_enter Try.func131, Try.ntmps131
  go_wp2
  go_ret
  exact ⟨rfl, rfl⟩
theorem method_textU (x : Int) (w : World) : (method 250 55 (.int .i64 x) "loop.example/g01143/impl.text").run Try.prog w = .ok (131, .int .i64 x) w := by kernel_rfl

set_option maxRecDepth 100000 in
set_option maxHeartbeats 800000 in
theorem specRenamed_any (s : ByteArray) (v : Value) (xs : List Int) (B : Nat) (w : World) (hs : s.size ≤ 24) (hv : Wd.termB s.data.toList = true) (hr : Row w B v (xs.map (Value.int .i64))) (hx : ordB xs = true) :
    Calls Try.prog 59 #[.string s, v] w fun e w' => e = .returned (.string ⟨(renL s.data.toList xs).toArray⟩) ∧ Below w.heap.size w w' := by
  obtain ⟨A, c, rfl, hA⟩ := intRow_at hr
  have h4 : xs.length = 4 := (ordB_to hx).1
  obtain ⟨g, o, rfl, hg, hce⟩ := hA (by omega)
  rw [h4]
  have HCE := hidv hce
  have H4 := hidv h4
  have HX := hidv hx
  have HV := hidv hv
  clear hce h4 hx hA hr hv
  go_enter Try.func59, Try.ntmps59
  go_wp2
  go_loopw [5, 6] (fun q i wr => ∃ k : Nat, k ≤ s.size ∧ i = .int .i64 k ∧ ∃ b : ByteArray, q = .string b ∧ Hid (b.data.toList = renL (s.data.toList.take k) xs) ∧ ∃ m, wr = w.drewN m) (fun _ i _ => s.size - (intOf i).toNat)
  case atStart => exact ⟨0, Nat.zero_le _, rfl, _, rfl, hidv rfl, 0, rfl⟩
  case round =>
    obtain ⟨k, hk, rfl, b, rfl, hq, m, rfl⟩ := hrel
    have hbs : b.size ≤ 24 := by
      have h1 := renL_upto hs HV.out HX.out k
      rw [← hq.out] at h1
      simpa using h1
    by_cases hlt : k < s.size
    · have HN := hidv (renL_next xs hlt)
      rcases term_at HV.out k hlt with hl | ⟨hl, hu⟩
      · have hun : Wd.unkI s[k] = -1 := unkI_letterT hl
        have HSL := hidv (renTxt_letter xs hl)
        clear hl
        have hes : (s.extract k (k + 1)).size = 1 := by simp; omega
        have hsl := slice_one s hlt
        go_wp2_with (go_at_call 75; refine (unknown_any s[k] _).mono ?_; rintro e w' ⟨rfl, rfl⟩)
        go_roundw
        case rel => exact ⟨k + 1, by omega, by go_num, _, rfl, hidv (by rw [ByteArray.data_append, Array.toList_append, hq.out, extract_one hlt, HN.out, HSL.out]), _, rfl⟩
        case measure => simp [intOf]; omega
      · obtain ⟨x, hx4, hxu, _, _⟩ := symV_unknown hl hu
        obtain ⟨hk4, hy0⟩ := ordB_get HX.out x hx4
        have c1 := HCE.out x (by have := H4.out; omega)
        obtain ⟨j, hj⟩ : ∃ j : Nat, xs[x] = (j : Int) := ⟨xs[x].toNat, by omega⟩
        have hsl := renTxt_unknown (xs := xs) hl hxu hk4 hj
        rw [hj] at c1
        have hj4 : j < 4 := by omega
        have hus := uTxt_size hj4
        have HSL := hidv hsl
        have HNA := hidv (name_any j hj4)
        obtain ⟨y, hy⟩ : ∃ y, uTxt j = y := ⟨_, rfl⟩
        rw [hy] at hus HSL HNA
        clear hsl hl hu hy hk4 hy0 hj
        go_wp2_with (first | (go_at_call 75; refine (unknown_any s[k] _).mono ?_; rintro e w' ⟨rfl, rfl⟩) | (go_at_call 80; refine (HNA.out _).mono ?_; rintro e w' ⟨rfl, rfl⟩))
        go_roundw
        case rel => exact ⟨k + 1, by omega, by go_num, _, rfl, hidv (by rw [ByteArray.data_append, Array.toList_append, hq.out, HN.out, HSL.out]), _, rfl⟩
        case measure => simp [intOf]; omega
    · obtain rfl : k = s.size := by omega
      have he : b = ⟨(renL s.data.toList xs).toArray⟩ := by
        have h1 := hq.out
        rw [List.take_of_length_le (by simp)] at h1
        rw [← h1]
      subst he
      go_wp2
      go_ret
      exact ⟨rfl, below_drewN (Below.refl _ _) _⟩

set_option maxRecDepth 100000 in
set_option maxHeartbeats 800000 in
theorem implRename_ok (s : ByteArray) (v : Value) (xs : List Int) (B : Nat) (w : World) (hs : s.size ≤ 24) (hv : Wd.termB s.data.toList = true) (hr : Row w B v (xs.map (Value.int .i64))) (hB : B ≤ w.heap.size) (hx : ordB xs = true) :
    Calls Try.prog 31 #[.string s, v] w fun e w' => e = .returned (.tuple #[.string ⟨(renL s.data.toList xs).toArray⟩, .int .i64 0]) ∧ Below w.heap.size w w' := by
  have h4 : xs.length = 4 := (ordB_to hx).1
  have c1 := implValidTerm_any s w (by unfold maxLen; omega)
  have c2 := implOrder_any v xs B w hr (by omega)
  rw [hv] at c1
  rw [hx] at c2
  obtain ⟨A, c, rfl, hA⟩ := intRow_at hr
  obtain ⟨g, o, rfl, hg, hce⟩ := hA (by omega)
  rw [h4] at c2 ⊢
  have HCE := hidv hce
  have H4 := hidv h4
  have HX := hidv hx
  have HV := hidv hv
  clear hce h4 hx hA hr hv
  go_enter Try.func31, Try.ntmps31
  go_wp2_with fail
  refine c1.mono ?_
  rintro e w' ⟨rfl, rfl⟩
  go_wp2_with fail
  refine c2.mono ?_
  rintro e w' ⟨rfl, rfl⟩
  clear c1 c2
  go_wp2_with fail
  obtain ⟨w0, hw0⟩ : ∃ w0, w0 = w.alloc (.cells #[.pointer none, .slice none 0 0] 69) := ⟨_, rfl⟩
  rw [← hw0]
  have hb0 : Below w.heap.size w w0 := by rw [hw0]; exact (Below.refl _ _).alloc (Nat.le_refl _) _
  have hz0 : w0.heap.size = w.heap.size + 1 := by rw [hw0]; simp
  have hk0 : w0.heap[w.heap.size]? = some (.cells #[.pointer none, .slice none 0 0] 69 (0, 0)) := by rw [hw0]; exact heap_alloc_new w _
  clear hw0
  refine (symbols_blk s w0 hs).mono ?_
  rintro e w1 ⟨A, c', rfl, hsym, hb1⟩
  have hbd1 : Lib.IsBuilder 69 5 w.heap.size w.heap.size (Lib.byteCells (renL (s.data.toList.take 0) xs)) w1 :=
    .inl ⟨Nat.le_refl _, .slice none 0 0, (hb1.block w.heap.size (by omega)).trans hk0, World.ownsRow_nil _ _ _ _, by simp [Value.ownBlock]⟩
  have hbb1 : Below w.heap.size w w1 := hb0.trans (hb1.mono (by omega))
  have HZ := hidv hz0
  have HS := hidv hsym
  have HD := hidv hbd1
  have HB1 := hidv hbb1
  clear hb0 hk0 hsym hb1 hbd1 hbb1 hz0
  go_wp2_with fail
  go_loopw [20] (fun i wr => ∃ k : Nat, k ≤ s.size ∧ i = .int .i64 k ∧ Hid (SymBlk wr w0.heap.size A s) ∧ Hid (Lib.IsBuilder 69 5 w.heap.size w.heap.size (Lib.byteCells (renL (s.data.toList.take k) xs)) wr) ∧ Hid (Below w.heap.size w wr)) (fun i _ => s.size - (intOf i).toNat)
  case atStart => exact ⟨0, Nat.zero_le _, rfl, HS, HD, HB1⟩
  case round =>
    obtain ⟨k, hk, rfl, hsy, hbl, hbw⟩ := hrel
    have hsw := hbw.out.size
    have hpl : (Lib.byteCells (renL (s.data.toList.take k) xs)).length ≤ 24 := by
      rw [Lib.byteCells_length]
      exact renL_upto hs HV.out HX.out k
    by_cases hlt : k < s.size
    · have HN := hidv (renL_next xs hlt)
      obtain ⟨gs, rfl, hbg, hcs⟩ := hsy.out.cell (by omega)
      have c2 := hcs k hlt
      clear hcs hbg
      rcases term_at HV.out k hlt with hl | ⟨hl, hu⟩
      · obtain ⟨he, hj⟩ := symV_letter hl
        rw [he] at c2
        have HSL := hidv (renTxt_letter xs hl)
        have HLB := hidv (letterText_bytes hl)
        obtain ⟨r, hr⟩ : ∃ r, (⟨#[97, 98, 99, 100]⟩ : ByteArray).extract (kindN s[k]) (kindN s[k] + 1) = r := ⟨_, rfl⟩
        have hlt' := fun wx => letterText_any (kindN s[k]) hj wx
        rw [hr] at HLB hlt'
        have hrs : r.size = 1 := by
          have := congrArg List.length HLB.out
          simpa using this
        have HLT := hidv hlt'
        clear hl he hr hlt' hj
        obtain ⟨j, hjn⟩ : ∃ j, kindN s[k] = j := ⟨_, rfl⟩
        rw [hjn] at c2 HLT
        clear hjn
        have ta := assertLU (j : Nat)
        have hmk := fun (wx : World) => method_textL (j : Int) wx
        go_wp2_with (first | (go_at_call 77; refine (HLT.out _).mono ?_; rintro e w' ⟨rfl, rfl⟩) | (go_at_call 61; refine (writeString_any _ _ _ _ _ hbl.out (by omega) (by omega)).mono ?_; rintro e w' ⟨rfl, hbl2, hbw2, hok2⟩))
        go_roundw
        case rel =>
          refine ⟨k + 1, by omega, by go_num, hidv (hsy.out.kept hok2 (by have := HZ.out; omega) (by decide)), hidv ?_, hidv (hbw.out.trans hbw2)⟩
          rw [HN.out, HSL.out, ← HLB.out, ← cells_app]
          exact .inr hbl2
        case measure => simp [intOf]; omega
      · obtain ⟨x, hx4, hxu, he, _⟩ := symV_unknown hl hu
        rw [he] at c2
        obtain ⟨hk4, hy0⟩ := ordB_get HX.out x hx4
        obtain ⟨j, hj⟩ : ∃ j : Nat, xs[x] = (j : Int) := ⟨xs[x].toNat, by omega⟩
        have c1 : wr.cell? ⟨g, o + x, none⟩ = some (.int .i64 (j : Int)) := by
          rw [hbw.out.cell (p := ⟨g, o + x, none⟩) (by show g < w.heap.size; omega), ← hj]
          exact HCE.out x (by have := H4.out; omega)
        have hsl := renTxt_unknown (xs := xs) hl hxu hk4 hj
        have hj4 : j < 4 := by omega
        have hus := uTxt_size hj4
        have HSL := hidv hsl
        have HNA := hidv (unknownText_any j hj4)
        obtain ⟨y, hy⟩ : ∃ y, uTxt j = y := ⟨_, rfl⟩
        rw [hy] at hus HSL HNA
        clear hsl hl hu hy hk4 hy0 hj he hxu
        have tb := assertUU (x : Nat)
        have hmk := fun (wx : World) => method_textU (j : Int) wx
        go_wp2_with (first | (go_at_call 131; refine (HNA.out _).mono ?_; rintro e w' ⟨rfl, rfl⟩) | (go_at_call 61; refine (writeString_any _ _ _ _ _ hbl.out (by omega) (by omega)).mono ?_; rintro e w' ⟨rfl, hbl2, hbw2, hok2⟩))
        go_roundw
        case rel =>
          refine ⟨k + 1, by omega, by go_num, hidv (hsy.out.kept hok2 (by have := HZ.out; omega) (by decide)), hidv ?_, hidv (hbw.out.trans hbw2)⟩
          rw [HN.out, HSL.out, ← cells_app]
          exact .inr hbl2
        case measure => simp [intOf]; omega
    · obtain rfl : k = s.size := by omega
      have he : renL (s.data.toList.take s.size) xs = renL s.data.toList xs := by rw [List.take_of_length_le (by simp)]
      rw [he] at hbl
      go_wp2_with (first | (go_at_call 62; refine (Try.Builder_String_any _ _ _ _ hbl.out hsw).mono ?_; rintro e w' ⟨rfl, hbw2⟩))
      go_ret2
      exact ⟨rfl, hbw.out.trans hbw2⟩

theorem implRename_badT (s : ByteArray) (v : Value) (w : World) (hs : s.size ≤ maxLen) (h : Wd.termB s.data.toList = false) :
    Calls Try.prog 31 #[.string s, v] w fun e w' => e = .returned (.tuple #[.string ⟨#[]⟩, .int .i64 1]) ∧ Below w.heap.size w w' := by
  have c1 := implValidTerm_any s w hs
  rw [h] at c1
  clear h
  go_enter Try.func31, Try.ntmps31
  go_wp2_with fail
  refine c1.mono ?_
  rintro e w' ⟨rfl, rfl⟩
  go_wp2_with fail
  go_ret2
  exact ⟨rfl, Below.refl _ _⟩

theorem implRename_badO (s : ByteArray) (v : Value) (xs : List Int) (B : Nat) (w : World) (hs : s.size ≤ maxLen) (h : Wd.termB s.data.toList = true) (hv : Row w B v (xs.map (Value.int .i64))) (hx : xs.length ≤ 1048576) (hl : ordB xs = false) :
    Calls Try.prog 31 #[.string s, v] w fun e w' => e = .returned (.tuple #[.string ⟨#[]⟩, .int .i64 2]) ∧ Below w.heap.size w w' := by
  have c1 := implValidTerm_any s w hs
  have c2 := implOrder_any v xs B w hv hx
  rw [h] at c1
  rw [hl] at c2
  clear h hl hv hx
  go_enter Try.func31, Try.ntmps31
  go_wp2_with fail
  refine c1.mono ?_
  rintro e w' ⟨rfl, rfl⟩
  go_wp2_with fail
  refine c2.mono ?_
  rintro e w' ⟨rfl, rfl⟩
  go_wp2_with fail
  go_ret2
  exact ⟨rfl, Below.refl _ _⟩

theorem specRename_badT (s : ByteArray) (v : Value) (w : World) (hs : s.size ≤ maxLen) (h : Wd.termB s.data.toList = false) :
    Calls Try.prog 30 #[.string s, v] w fun e w' => e = .returned (.tuple #[.string ⟨#[]⟩, .int .i64 1]) ∧ Below w.heap.size w w' := by
  have c1 := specTerm_any s w hs
  rw [h] at c1
  clear h
  go_enter Try.func30, Try.ntmps30
  go_wp2_with fail
  refine c1.mono ?_
  rintro e w' ⟨rfl, rfl⟩
  go_wp2_with fail
  go_ret2
  exact ⟨rfl, Below.refl _ _⟩

theorem specRename_badO (s : ByteArray) (v : Value) (xs : List Int) (B : Nat) (w : World) (hs : s.size ≤ maxLen) (h : Wd.termB s.data.toList = true) (hv : Row w B v (xs.map (Value.int .i64))) (hx : xs.length ≤ 1048576) (hl : ordB xs = false) :
    Calls Try.prog 30 #[.string s, v] w fun e w' => e = .returned (.tuple #[.string ⟨#[]⟩, .int .i64 2]) ∧ Below w.heap.size w w' := by
  have c1 := specTerm_any s w hs
  have c2 := specOrder_any v xs B w hv hx
  rw [h] at c1
  rw [hl] at c2
  clear h hl hv hx
  go_enter Try.func30, Try.ntmps30
  go_wp2_with fail
  refine c1.mono ?_
  rintro e w' ⟨rfl, rfl⟩
  go_wp2_with fail
  refine c2.mono ?_
  rintro e w2 ⟨rfl, hb⟩
  go_wp2_with fail
  go_ret2
  exact ⟨rfl, hb⟩

set_option maxHeartbeats 400000 in
theorem specRename_ok (s : ByteArray) (v : Value) (xs : List Int) (B : Nat) (w : World) (hs : s.size ≤ 24) (h : Wd.termB s.data.toList = true) (hv : Row w B v (xs.map (Value.int .i64))) (hB : B ≤ w.heap.size) (hl : ordB xs = true) :
    Calls Try.prog 30 #[.string s, v] w fun e w' => e = .returned (.tuple #[.string ⟨(renL s.data.toList xs).toArray⟩, .int .i64 0]) ∧ Below w.heap.size w w' := by
  have h4 : xs.length = 4 := (ordB_to hl).1
  have c1 := specTerm_any s w (by unfold maxLen; omega)
  have c2 := specOrder_any v xs B w hv (by omega)
  have c3 := fun w2 (hb : Below w.heap.size w w2) => specRenamed_any s v xs B w2 hs h (hv.below (hb.mono hB)) hl
  rw [h] at c1
  rw [hl] at c2
  obtain ⟨r, hr⟩ : ∃ r : ByteArray, ⟨(renL s.data.toList xs).toArray⟩ = r := ⟨_, rfl⟩
  simp only [hr] at c3 ⊢
  clear h hl hv h4 hr
  go_enter Try.func30, Try.ntmps30
  go_wp2_with fail
  refine c1.mono ?_
  rintro e w' ⟨rfl, rfl⟩
  go_wp2_with fail
  refine c2.mono ?_
  rintro e w2 ⟨rfl, hb⟩
  go_wp2_with fail
  refine (c3 w2 hb).mono ?_
  rintro e w3 ⟨rfl, hb3⟩
  go_wp2_with fail
  go_ret2
  exact ⟨rfl, hb.trans (hb3.mono hb.size)⟩

theorem rename_both (s : ByteArray) (xs : List Int) (hs : s.size ≤ maxLen) (hx : xs.length ≤ 1048576) : ∃ (a : ByteArray) (c : Int),
    (∀ v B w, Row w B v (xs.map (Value.int .i64)) → B ≤ w.heap.size → Calls Try.prog 31 #[.string s, v] w fun e w' => e = .returned (.tuple #[.string a, .int .i64 c]) ∧ Below w.heap.size w w') ∧
    ∀ v B w, Row w B v (xs.map (Value.int .i64)) → B ≤ w.heap.size → Calls Try.prog 30 #[.string s, v] w fun e w' => e = .returned (.tuple #[.string a, .int .i64 c]) ∧ Below w.heap.size w w' := by
  cases h : Wd.termB s.data.toList
  · exact ⟨⟨#[]⟩, 1, fun v B w _ _ => implRename_badT s v w hs h, fun v B w _ _ => specRename_badT s v w hs h⟩
  · have hs0 : s.size ≤ 24 := by have := Wd.termB_len h; simpa using this
    cases hl : ordB xs
    · exact ⟨⟨#[]⟩, 2, fun v B w hv _ => implRename_badO s v xs B w hs h hv hx hl, fun v B w hv _ => specRename_badO s v xs B w hs h hv hx hl⟩
    · exact ⟨_, 0, fun v B w hv hB => implRename_ok s v xs B w hs0 h hv hB hl, fun v B w hv hB => specRename_ok s v xs B w hs0 h hv hB hl⟩

set_option maxHeartbeats 800000 in
theorem law_FnExactRenameTerm (s : ByteArray) (v : Value) (xs : List Int) (w : World) (hs : s.size ≤ maxLen) (hv : Row w w.heap.size v (xs.map (Value.int .i64))) (hx : xs.length ≤ maxLen) :
    Calls Try.prog 8 #[.string s, v] w fun e w' => e = .returned (.bool true) ∧ Below w.heap.size w w' := by
  obtain ⟨A, c, rfl⟩ := hv.len
  have HV := hidv hv
  rw [List.length_map] at hv ⊢
  clear hv
  have hs' := hs
  unfold maxLen at hs' hx
  by_cases hl0 : (1048576 : Int) < s.size
  · go_enter Try.func8, Try.ntmps8
    go_wp2
    go_ret
    exact ⟨rfl, Below.refl _ _⟩
  by_cases hl1 : (1048576 : Int) < xs.length
  · go_enter Try.func8, Try.ntmps8
    go_wp2
    go_ret
    exact ⟨rfl, Below.refl _ _⟩
  · have hxl : xs.length ≤ 1048576 := by omega
    obtain ⟨a, cc, h1, h2⟩ := rename_both s xs hs hxl
    have H1 := hidv h1
    have H2 := hidv h2
    have HVV : Hid (Row w w.heap.size (.slice A xs.length c) (xs.map (Value.int .i64))) := by
      have := HV.out
      rw [List.length_map] at this
      exact this
    clear h1 h2 hs HV
    go_enter Try.func8, Try.ntmps8
    go_wp2_with fail
    refine (toInts_any _ xs w.heap.size w HVV.out (Nat.le_refl _) hxl).mono ?_
    rintro e wa ⟨ua, rfl, hua, hba⟩
    have HUA := hidv hua
    have HBA := hidv hba
    have sa := hba.size
    clear hua hba
    go_wp2_with fail
    refine (H2.out _ _ _ HUA.out.row (Nat.le_refl _)).mono ?_
    rintro e wb ⟨rfl, hbb⟩
    have HBB := hidv hbb
    have sb := hbb.size
    clear hbb
    go_wp2_with fail
    refine (toInts_any _ xs w.heap.size wb ((HVV.out.below HBA.out).below (HBB.out.mono sa)) (by omega) hxl).mono ?_
    rintro e wc ⟨uc, rfl, huc, hbc⟩
    have HUC := hidv huc
    have HBC := hidv hbc
    have sc := hbc.size
    clear huc hbc
    go_wp2_with fail
    refine (H1.out _ _ _ HUC.out.row (Nat.le_refl _)).mono ?_
    rintro e wd ⟨rfl, hbd⟩
    have HBD := hidv hbd
    have sd := hbd.size
    clear hbd
    go_wp2_with fail
    refine (toInts_any _ xs w.heap.size wd ((((HVV.out.below HBA.out).below (HBB.out.mono sa)).below (HBC.out.mono (by omega))).below (HBD.out.mono (by omega))) (by omega) hxl).mono ?_
    rintro e we ⟨ue, rfl, hue, hbe⟩
    have HUE := hidv hue
    have HBE := hidv hbe
    have se := hbe.size
    clear hue hbe
    go_wp2_with fail
    refine (eqInts_same ((HUC.out.row.below HBD.out).below (HBE.out.mono (by omega))) HUE.out.row (by omega)).mono ?_
    rintro e wf ⟨rfl, hbf⟩
    go_wp2_with fail
    go_ret
    exact ⟨rfl, ((((HBA.out.trans (HBB.out.mono (by omega))).trans (HBC.out.mono (by omega))).trans (HBD.out.mono (by omega))).trans (HBE.out.mono (by omega))).trans (hbf.mono (by omega))⟩

end Go.Proofs.Ytebhifhcknbgaab
