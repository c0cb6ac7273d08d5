/-
  TermLength, of the program and of the model: contracts, and the law over them.
-/
import Derived.Test.YthomkmbobaehkaaKind
import Derived.Test.YthomkmbobaehkaaMem
import Derived.Test.YthomkmbobaehkaaCopy
namespace Go.Proofs.Ythomkmbobaehkaa
open Go.RowKit Go

def lenOk (n : Int) : Bool := decide (0 ≤ n) && decide (n ≤ 60)
def lensB (xs : List Int) : Bool := decide (xs.length = 4) && xs.all lenOk
def symLen (xs : List Int) (c : UInt8) : Int := if Wd.isL c then 1 else xs.getD (Wd.unkI c).toNat 0
def termLen (l : List UInt8) (xs : List Int) : Int := (l.map (symLen xs)).sum
theorem termLen_snoc (l : List UInt8) (c : UInt8) (xs : List Int) : termLen (l ++ [c]) xs = termLen l xs + symLen xs c := by
  unfold termLen
  rw [List.map_append, List.sum_append]
  simp
theorem unkI_letterT {c : UInt8} (h : Wd.isL c = true) : Wd.unkI c = -1 := by
  unfold Wd.isL at h
  simp at h
  unfold Wd.unkI
  rw [if_neg, if_neg, if_neg, if_neg]
  all_goals rintro rfl
  all_goals revert h; decide
theorem lensB_get {xs : List Int} (h : lensB xs = true) (k : Nat) (hk : k < 4) : ∃ hk' : k < xs.length, 0 ≤ xs[k] ∧ xs[k] ≤ 60 := by
  unfold lensB at h
  rw [Bool.and_eq_true, decide_eq_true_eq, List.all_eq_true] at h
  refine ⟨by omega, ?_⟩
  have := h.2 xs[k] (List.getElem_mem _)
  unfold lenOk at this
  simpa using this

theorem intRow_at {w : World} {B : Nat} {v : Value} {xs : List Int} (h : Row w B v (xs.map (Value.int .i64))) : ∃ A c, v = .slice A xs.length c ∧ (0 < xs.length → ∃ g o, A = some ⟨g, o, none⟩ ∧ g < B ∧ ∀ i (hi : i < xs.length), w.cell? ⟨g, o + i, none⟩ = some (.int .i64 xs[i])) := by
  obtain ⟨A, c, rfl, hA⟩ := h
  rw [List.length_map] at hA ⊢
  refine ⟨A, c, rfl, fun h0 => ?_⟩
  obtain ⟨g, o, hA1, hg, hc⟩ := hA h0
  exact ⟨g, o, hA1, hg, fun i hi => hc i _ (map_int_at hi)⟩

theorem all_take_succI (l : List Int) (f : Int → Bool) (k : Nat) (h : k < l.length) : (l.take (k + 1)).all f = ((l.take k).all f && f l[k]) := by
  rw [List.take_succ_eq_append_getElem h, List.all_append]
  simp
theorem all_false_ofI (l : List Int) (f : Int → Bool) (k : Nat) (h : k < l.length) (hf : f l[k] = false) : l.all f = false := by
  rw [List.all_eq_false]
  exact ⟨l[k], List.getElem_mem h, by simp [hf]⟩

set_option maxHeartbeats 800000 in
theorem specLens_any (v : Value) (xs : List Int) (B : Nat) (w : World) (hv : Row w B v (xs.map (Value.int .i64))) (hx : xs.length ≤ 1048576) :
    Calls Try.prog 41 #[v] w fun e w' => e = .returned (.bool (lensB xs)) ∧ w = w' := by
  obtain ⟨A, c, rfl, hA⟩ := intRow_at hv
  obtain ⟨n, hn⟩ : ∃ n, xs.length = n := ⟨_, rfl⟩
  obtain ⟨r, hr⟩ : ∃ r, lensB xs = r := ⟨_, rfl⟩
  have HA := hidv hA
  have HR := hidv hr
  rw [hr]
  rw [hn] at hx ⊢
  have HN := hidv hn
  clear hn hr hA hv
  go_enter Try.func41, Try.ntmps41
  go_wp2
  go_loop [3] (fun i => ∃ k : Nat, k ≤ n ∧ i = .int .i64 k ∧ Hid ((xs.take k).all lenOk = true)) (fun i => n - (intOf i).toNat)
  case atStart => exact ⟨0, Nat.zero_le _, rfl, hidv (by simp)⟩
  case round =>
    obtain ⟨k, hk, rfl, hall⟩ := hrel
    by_cases hlt : k < n
    · have hkx : k < xs.length := by have := HN.out; omega
      obtain ⟨g, o, rfl, hg, hce⟩ := HA.out (by omega)
      have c1 := hce k hkx
      obtain ⟨x, hx1⟩ : ∃ x, xs[k] = x := ⟨_, rfl⟩
      rw [hx1] at c1
      obtain ⟨b, hb⟩ : ∃ b, lenOk x = b := ⟨_, rfl⟩
      have hin := fun wx => l00In_any x 0 60 wx b hb
      have HIN := hidv hin
      have HB := hidv hb
      have HX := hidv hx1
      clear hin hb hx1 hce
      cases b
      · go_wp2_with (go_at_call 68; refine (HIN.out _).mono ?_; rintro e w' ⟨rfl, rfl⟩)
        go_ret
        refine ⟨ret_bool ?_, rfl⟩
        rw [← HR.out]
        unfold lensB
        rw [all_false_ofI xs lenOk k hkx (by rw [HX.out, HB.out]), Bool.and_false]
      · go_wp2_with (go_at_call 68; refine (HIN.out _).mono ?_; rintro e w' ⟨rfl, rfl⟩)
        go_round
        case rel =>
          refine ⟨k + 1, by omega, by go_num, hidv ?_⟩
          rw [all_take_succI _ _ k hkx, hall.out, HX.out, HB.out]
          rfl
        case measure => simp [intOf]; omega
    · go_wp2
      go_ret
      refine ⟨ret_bool ?_, rfl⟩
      have h2 := hall.out
      rw [List.take_of_length_le (by have := HN.out; omega)] at h2
      rw [← HR.out]
      unfold lensB
      rw [h2, Bool.and_true, HN.out, Bool.eq_iff_iff]
      simp
      omega

set_option maxHeartbeats 800000 in
theorem implLens_any (v : Value) (xs : List Int) (B : Nat) (w : World) (hv : Row w B v (xs.map (Value.int .i64))) (hx : xs.length ≤ 1048576) :
    Calls Try.prog 44 #[v] w fun e w' => e = .returned (.bool (lensB xs)) ∧ w = w' := by
  obtain ⟨A, c, rfl, hA⟩ := intRow_at hv
  obtain ⟨n, hn⟩ : ∃ n, xs.length = n := ⟨_, rfl⟩
  obtain ⟨r, hr⟩ : ∃ r, lensB xs = r := ⟨_, rfl⟩
  have HA := hidv hA
  have HR := hidv hr
  rw [hr]
  rw [hn] at hx ⊢
  have HN := hidv hn
  clear hn hr hA hv
  by_cases h4 : n = 4
  · subst h4
    go_enter Try.func44, Try.ntmps44
    go_wp2
    go_loop [10] (fun i => ∃ k : Nat, k ≤ 4 ∧ i = .int .i64 k ∧ Hid ((xs.take k).all lenOk = true)) (fun i => 4 - (intOf i).toNat)
    case atStart => exact ⟨0, Nat.zero_le _, rfl, hidv (by simp)⟩
    case round =>
      obtain ⟨k, hk, rfl, hall⟩ := hrel
      by_cases hlt : k < 4
      · have hkx : k < xs.length := by have := HN.out; omega
        obtain ⟨g, o, rfl, hg, hce⟩ := HA.out (by omega)
        have c1 := hce k hkx
        obtain ⟨x, hx1⟩ : ∃ x, xs[k] = x := ⟨_, rfl⟩
        rw [hx1] at c1
        have HX := hidv hx1
        clear hx1 hce
        by_cases h0 : x < 0
        · go_wp2
          go_ret
          refine ⟨ret_bool ?_, rfl⟩
          rw [← HR.out]
          unfold lensB
          rw [all_false_ofI xs lenOk k hkx (by rw [HX.out]; unfold lenOk; simp; omega), Bool.and_false]
        · by_cases h6 : 60 < x
          · go_wp2
            go_ret
            refine ⟨ret_bool ?_, rfl⟩
            rw [← HR.out]
            unfold lensB
            rw [all_false_ofI xs lenOk k hkx (by rw [HX.out]; unfold lenOk; simp; omega), Bool.and_false]
          · go_wp2
            go_round
            case rel =>
              refine ⟨k + 1, by omega, by go_num, hidv ?_⟩
              rw [all_take_succI _ _ k hkx, hall.out, HX.out]
              unfold lenOk
              simp
              omega
            case measure => simp [intOf]; omega
      · go_wp2
        go_ret
        refine ⟨ret_bool ?_, rfl⟩
        have h2 := hall.out
        rw [List.take_of_length_le (by have := HN.out; omega)] at h2
        rw [← HR.out]
        unfold lensB
        rw [h2, Bool.and_true, HN.out]
        rfl
  · have hne : ((n : Int) != 4) = true := by rw [bne_iff_ne]; omega
    obtain rfl : r = false := by
      rw [← HR.out]
      unfold lensB
      rw [HN.out, decide_eq_false h4, Bool.false_and]
    go_enter Try.func44, Try.ntmps44
    go_wp2
    go_ret
    exact ⟨rfl, rfl⟩


theorem symLen_bound {xs : List Int} (h : lensB xs = true) {c : UInt8} (hc : Wd.isL c = true ∨ Wd.isL c = false ∧ Wd.isU c = true) : 0 ≤ symLen xs c ∧ symLen xs c ≤ 60 := by
  unfold symLen
  rcases hc with hl | ⟨hl, hu⟩
  · rw [hl]; simp
  · obtain ⟨x, hx4, hxu, _, _⟩ := symV_unknown hl hu
    rw [hl, hxu]
    obtain ⟨hk, hb⟩ := lensB_get h x hx4
    simp only [Bool.false_eq_true, if_false, Int.toNat_natCast, List.getD_eq_getElem?_getD, List.getElem?_eq_getElem hk, Option.getD_some]
    exact hb

theorem termLen_bound {xs : List Int} (h : lensB xs = true) : ∀ l : List UInt8, (∀ c ∈ l, Wd.isL c = true ∨ Wd.isL c = false ∧ Wd.isU c = true) → 0 ≤ termLen l xs ∧ termLen l xs ≤ 60 * l.length
  | [], _ => by simp [termLen]
  | c :: l, hl => by
    have h1 := symLen_bound h (hl c (by simp))
    have h2 := termLen_bound h l (fun d hd => hl d (by simp [hd]))
    have e : termLen (c :: l) xs = symLen xs c + termLen l xs := by unfold termLen; simp
    rw [e, List.length_cons]
    omega

theorem term_all {s : ByteArray} (hv : Wd.termB s.data.toList = true) : ∀ c ∈ s.data.toList, Wd.isL c = true ∨ Wd.isL c = false ∧ Wd.isU c = true := by
  unfold Wd.termB at hv
  rw [Bool.and_eq_true, List.all_eq_true] at hv
  intro c hc
  have := hv.2 c hc
  cases h : Wd.isL c
  · rw [h, Bool.false_or] at this
    exact .inr ⟨rfl, this⟩
  · exact .inl rfl

theorem termLen_upto {s : ByteArray} {xs : List Int} (hs : s.size ≤ 24) (hv : Wd.termB s.data.toList = true) (h : lensB xs = true) (k : Nat) : 0 ≤ termLen (s.data.toList.take k) xs ∧ termLen (s.data.toList.take k) xs ≤ 1440 := by
  have h1 := termLen_bound h (s.data.toList.take k) (fun c hc => term_all hv c (List.mem_of_mem_take hc))
  have h2 : (s.data.toList.take k).length ≤ 24 := Nat.le_trans (List.length_take_le' _ _) (by simpa using hs)
  omega

/-- Four lengths of 0 to M. -/
def LensM (M : Int) (xs : List Int) : Prop := xs.length = 4 ∧ ∀ x ∈ xs, 0 ≤ x ∧ x ≤ M
theorem lensM_of {xs : List Int} (h : lensB xs = true) : LensM 100000000000 xs := by
  unfold lensB at h
  rw [Bool.and_eq_true, decide_eq_true_eq, List.all_eq_true] at h
  refine ⟨h.1, fun x hx => ?_⟩
  have := h.2 x hx
  unfold lenOk at this
  simp at this
  omega
theorem LensM.get {M : Int} {xs : List Int} (h : LensM M xs) (k : Nat) (hk : k < 4) : ∃ hk' : k < xs.length, 0 ≤ xs[k] ∧ xs[k] ≤ M :=
  ⟨by have := h.1; omega, h.2 _ (List.getElem_mem _)⟩
theorem symLen_boundM {M : Int} {xs : List Int} (h : LensM M xs) (hM : 1 ≤ M) {c : UInt8} (hc : Wd.isL c = true ∨ Wd.isL c = false ∧ Wd.isU c = true) : 0 ≤ symLen xs c ∧ symLen xs c ≤ M := by
  unfold symLen
  rcases hc with hl | ⟨hl, hu⟩
  · rw [hl]; simp; omega
  · obtain ⟨x, hx4, hxu, _, _⟩ := symV_unknown hl hu
    obtain ⟨hk, hb⟩ := h.get x hx4
    rw [hl, hxu]
    simp [hk]
    exact hb
theorem termLen_boundM {M : Int} {xs : List Int} (h : LensM M xs) (hM : 1 ≤ M) : ∀ l : List UInt8, (∀ c ∈ l, Wd.isL c = true ∨ Wd.isL c = false ∧ Wd.isU c = true) → 0 ≤ termLen l xs ∧ termLen l xs ≤ M * l.length
  | [], _ => by simp [termLen]
  | c :: l, hl => by
    have h1 := symLen_boundM h hM (hl c (by simp))
    have h2 := termLen_boundM h hM l (fun d hd => hl d (by simp [hd]))
    have e : termLen (c :: l) xs = symLen xs c + termLen l xs := by unfold termLen; simp
    have e2 : M * ((c :: l).length : Int) = M * (l.length : Int) + M := by rw [List.length_cons]; push_cast; rw [Int.mul_add, Int.mul_one]
    rw [e, e2]
    omega
theorem termLen_uptoM {s : ByteArray} {xs : List Int} (hs : s.size ≤ 24) (hv : Wd.termB s.data.toList = true) (h : LensM 100000000000 xs) (k : Nat) : 0 ≤ termLen (s.data.toList.take k) xs ∧ termLen (s.data.toList.take k) xs ≤ 2400000000000 := by
  have h1 := termLen_boundM h (by omega) (s.data.toList.take k) (fun c hc => term_all hv c (List.mem_of_mem_take hc))
  have h2 : (s.data.toList.take k).length ≤ 24 := Nat.le_trans (List.length_take_le' _ _) (by simpa using hs)
  omega
theorem termLen_next {s : ByteArray} (xs : List Int) {k : Nat} (hk : k < s.size) : termLen (s.data.toList.take (k + 1)) xs = termLen (s.data.toList.take k) xs + symLen xs s[k] := by
  rw [List.take_succ_eq_append_getElem (by simpa using hk), termLen_snoc]
  rfl

set_option maxRecDepth 100000 in
set_option maxHeartbeats 800000 in
theorem specLength_any (s : ByteArray) (v : Value) (xs : List Int) (B : Nat) (w : World) (hs : s.size ≤ 24) (hv : Wd.termB s.data.toList = true) (hr : Row w B v (xs.map (Value.int .i64))) (hx : lensB xs = true) :
    Calls Try.prog 42 #[.string s, v] w fun e w' => e = .returned (.int .i64 (termLen s.data.toList xs)) ∧ w = w' := by
  obtain ⟨A, c, rfl, hA⟩ := intRow_at hr
  have h4 : xs.length = 4 := by have := hx; unfold lensB at this; simp at this; exact this.1
  obtain ⟨g, o, rfl, hg, hce⟩ := hA (by omega)
  rw [h4]
  have HCE := hidv hce
  have H4 := hidv h4
  have HX := hidv hx
  have HV := hidv hv
  clear hce h4 hx hA hr hv
  go_enter Try.func42, Try.ntmps42
  go_wp2
  go_loop [5, 6] (fun q i => ∃ k : Nat, k ≤ s.size ∧ i = .int .i64 k ∧ q = .int .i64 (termLen (s.data.toList.take k) xs)) (fun _ i => s.size - (intOf i).toNat)
  case atStart => exact ⟨0, Nat.zero_le _, rfl, rfl⟩
  case round =>
    obtain ⟨k, hk, rfl, rfl⟩ := hrel
    have hbd := termLen_upto hs HV.out HX.out k
    by_cases hlt : k < s.size
    · have HN := hidv (termLen_next xs hlt)
      obtain ⟨t, ht⟩ : ∃ t, termLen (s.data.toList.take k) xs = t := ⟨_, rfl⟩
      rw [ht] at hbd HN ⊢
      obtain ⟨ht0, ht1⟩ := hbd
      have HT := hidv ht
      clear ht
      rcases term_at HV.out k hlt with hl | ⟨hl, hu⟩
      · have hun := unkI_letterT hl
        have hsl : symLen xs s[k] = 1 := by unfold symLen; rw [hl]; rfl
        have HSL := hidv hsl
        clear hsl hl
        go_wp2_with (go_at_call 79; refine (unknown_any s[k] _).mono ?_; rintro e w' ⟨rfl, rfl⟩)
        go_round
        case rel => exact ⟨k + 1, by omega, by go_num, by rw [HN.out, HSL.out]⟩
        case measure => simp [intOf]; omega
      · obtain ⟨x, hx4, hxu, _, _⟩ := symV_unknown hl hu
        obtain ⟨hk4, hy0, hy1⟩ := lensB_get HX.out x hx4
        have c1 := HCE.out x (by have := H4.out; omega)
        have hsl : symLen xs s[k] = xs[x] := by
          unfold symLen
          rw [hl, hxu]
          simp [hk4]
        obtain ⟨y, hy⟩ : ∃ y, xs[x] = y := ⟨_, rfl⟩
        rw [hy] at hsl c1 hy0 hy1
        have HSL := hidv hsl
        clear hsl hl hu hy hk4
        go_wp2_with (go_at_call 79; refine (unknown_any s[k] _).mono ?_; rintro e w' ⟨rfl, rfl⟩)
        go_round
        case rel => exact ⟨k + 1, by omega, by go_num, by rw [HN.out, HSL.out]⟩
        case measure => simp [intOf]; omega
    · obtain rfl : k = s.size := by omega
      go_wp2
      go_ret
      exact ⟨ret_int (by rw [List.take_of_length_le (by simp)]), rfl⟩


theorem implTermLength_badT (s : ByteArray) (v : Value) (w : World) (hs : s.size ≤ maxLen) (h : Wd.termB s.data.toList = false) :
    Calls Try.prog 11 #[.string s, v] w fun e w' => e = .returned (.tuple #[.int .i64 0, .int .i64 1]) ∧ Below w.heap.size w w' := by
  have c1 := implValidTerm_any s w hs
  rw [h] at c1
  clear h
  go_enter Try.func11, Try.ntmps11
  go_wp2_with fail
  refine c1.mono ?_
  rintro e w' ⟨rfl, rfl⟩
  go_wp2_with fail
  go_ret2
  exact ⟨rfl, Below.refl _ _⟩

theorem implTermLength_badL (s : ByteArray) (v : Value) (xs : List Int) (B : Nat) (w : World) (hs : s.size ≤ maxLen) (h : Wd.termB s.data.toList = true) (hv : Row w B v (xs.map (Value.int .i64))) (hx : xs.length ≤ 1048576) (hl : lensB xs = false) :
    Calls Try.prog 11 #[.string s, v] w fun e w' => e = .returned (.tuple #[.int .i64 0, .int .i64 2]) ∧ Below w.heap.size w w' := by
  have c1 := implValidTerm_any s w hs
  have c2 := implLens_any v xs B w hv hx
  rw [h] at c1
  rw [hl] at c2
  clear h hl hv hx
  go_enter Try.func11, Try.ntmps11
  go_wp2_with fail
  refine c1.mono ?_
  rintro e w' ⟨rfl, rfl⟩
  go_wp2_with fail
  refine c2.mono ?_
  rintro e w' ⟨rfl, rfl⟩
  go_wp2_with fail
  go_ret2
  exact ⟨rfl, Below.refl _ _⟩

theorem specTermLength_badT (s : ByteArray) (v : Value) (w : World) (hs : s.size ≤ maxLen) (h : Wd.termB s.data.toList = false) :
    Calls Try.prog 9 #[.string s, v] w fun e w' => e = .returned (.tuple #[.int .i64 0, .int .i64 1]) ∧ Below w.heap.size w w' := by
  have c1 := specTerm_any s w hs
  rw [h] at c1
  clear h
  go_enter Try.func9, Try.ntmps9
  go_wp2_with fail
  refine c1.mono ?_
  rintro e w' ⟨rfl, rfl⟩
  go_wp2_with fail
  go_ret2
  exact ⟨rfl, Below.refl _ _⟩

theorem specTermLength_badL (s : ByteArray) (v : Value) (xs : List Int) (B : Nat) (w : World) (hs : s.size ≤ maxLen) (h : Wd.termB s.data.toList = true) (hv : Row w B v (xs.map (Value.int .i64))) (hx : xs.length ≤ 1048576) (hl : lensB xs = false) :
    Calls Try.prog 9 #[.string s, v] w fun e w' => e = .returned (.tuple #[.int .i64 0, .int .i64 2]) ∧ Below w.heap.size w w' := by
  have c1 := specTerm_any s w hs
  have c2 := specLens_any v xs B w hv hx
  rw [h] at c1
  rw [hl] at c2
  clear h hl hv hx
  go_enter Try.func9, Try.ntmps9
  go_wp2_with fail
  refine c1.mono ?_
  rintro e w' ⟨rfl, rfl⟩
  go_wp2_with fail
  refine c2.mono ?_
  rintro e w' ⟨rfl, rfl⟩
  go_wp2_with fail
  go_ret2
  exact ⟨rfl, Below.refl _ _⟩

theorem specTermLength_ok (s : ByteArray) (v : Value) (xs : List Int) (B : Nat) (w : World) (hs : s.size ≤ 24) (h : Wd.termB s.data.toList = true) (hv : Row w B v (xs.map (Value.int .i64))) (hl : lensB xs = true) :
    Calls Try.prog 9 #[.string s, v] w fun e w' => e = .returned (.tuple #[.int .i64 (termLen s.data.toList xs), .int .i64 0]) ∧ Below w.heap.size w w' := by
  have h4 : xs.length = 4 := by have := hl; unfold lensB at this; simp at this; exact this.1
  have c1 := specTerm_any s w (by unfold maxLen; omega)
  have c2 := specLens_any v xs B w hv (by omega)
  have c3 := specLength_any s v xs B w hs h hv hl
  rw [h] at c1
  rw [hl] at c2
  obtain ⟨t, ht⟩ : ∃ t, termLen s.data.toList xs = t := ⟨_, rfl⟩
  rw [ht] at c3 ⊢
  clear h hl hv h4 ht
  go_enter Try.func9, Try.ntmps9
  go_wp2_with fail
  refine c1.mono ?_
  rintro e w' ⟨rfl, rfl⟩
  go_wp2_with fail
  refine c2.mono ?_
  rintro e w' ⟨rfl, rfl⟩
  go_wp2_with fail
  refine c3.mono ?_
  rintro e w' ⟨rfl, rfl⟩
  go_wp2_with fail
  go_ret2
  exact ⟨rfl, Below.refl _ _⟩

set_option maxRecDepth 100000 in
set_option maxHeartbeats 800000 in
theorem lengthBy_any (s : ByteArray) (v : Value) (xs : List Int) (B : Nat) (w : World) (hs : s.size ≤ 24) (h : Wd.termB s.data.toList = true) (hv : Row w B v (xs.map (Value.int .i64))) (hB : B ≤ w.heap.size) (hx : LensM 100000000000 xs) :
    Calls Try.prog 45 #[.string s, v] w fun e w' => e = .returned (.int .i64 (termLen s.data.toList xs)) ∧ Below w.heap.size w w' := by
  have h4 : xs.length = 4 := hx.1
  have c3 := symbols_at s w hs
  obtain ⟨A, c, rfl, hA⟩ := intRow_at hv
  obtain ⟨g, o, rfl, hg, hce⟩ := hA (by omega)
  rw [h4]
  have HCE := hidv hce
  have H4 := hidv h4
  have HX := hidv hx
  have HV := hidv h
  clear hce h4 hx hA hv h
  go_enter Try.func45, Try.ntmps45
  go_wp2_with fail
  refine c3.mono ?_
  rintro e w1 ⟨A, c, rfl, hsym, hb1⟩
  have HS := hidv hsym
  have HB1 := hidv hb1
  clear hsym hb1
  go_wp2_with fail
  go_loop [5, 13] (fun q i => ∃ k : Nat, k ≤ s.size ∧ i = .int .i64 k ∧ q = .int .i64 (termLen (s.data.toList.take k) xs)) (fun _ i => s.size - (intOf i).toNat)
  case atStart => exact ⟨0, Nat.zero_le _, rfl, rfl⟩
  case round =>
    obtain ⟨k, hk, rfl, rfl⟩ := hrel
    have hbd := termLen_uptoM hs HV.out HX.out k
    by_cases hlt : k < s.size
    · have HN := hidv (termLen_next xs hlt)
      obtain ⟨t, ht⟩ : ∃ t, termLen (s.data.toList.take k) xs = t := ⟨_, rfl⟩
      rw [ht] at hbd HN ⊢
      obtain ⟨ht0, ht1⟩ := hbd
      have HT := hidv ht
      clear ht
      obtain ⟨gs, rfl, hbg, hgl, hcs⟩ := HS.out (by omega)
      have c2 := hcs k hlt
      have HCS := hidv hcs
      clear hcs
      rcases term_at HV.out k hlt with hl | ⟨hl, hu⟩
      · obtain ⟨he, hj⟩ := symV_letter hl
        rw [he] at c2
        have hsl : symLen xs s[k] = 1 := by unfold symLen; rw [hl]; rfl
        have HSL := hidv hsl
        clear hsl hl he hj
        have ta := assertLL (kindN s[k] : Nat)
        go_wp2
        go_round
        case rel => exact ⟨k + 1, by omega, by go_num, by rw [HN.out, HSL.out]⟩
        case measure => simp [intOf]; omega
      · obtain ⟨x, hx4, hxu, he, _⟩ := symV_unknown hl hu
        rw [he] at c2
        obtain ⟨hk4, hy0, hy1⟩ := HX.out.get x hx4
        have c1 : w1.cell? ⟨g, o + x, none⟩ = some (.int .i64 xs[x]) := by
          rw [HB1.out.cell (p := ⟨g, o + x, none⟩) (by show g < w.heap.size; omega)]
          exact HCE.out x (by have := H4.out; omega)
        have hsl : symLen xs s[k] = xs[x] := by
          unfold symLen
          rw [hl, hxu]
          simp [hk4]
        obtain ⟨y, hy⟩ : ∃ y, xs[x] = y := ⟨_, rfl⟩
        rw [hy] at hsl c1 hy0 hy1
        have HSL := hidv hsl
        clear hsl hl hu hy hk4 he hxu
        have ta := assertUL (x : Nat)
        have tb := assertUU (x : Nat)
        go_wp2
        go_round
        case rel => exact ⟨k + 1, by omega, by go_num, by rw [HN.out, HSL.out]⟩
        case measure => simp [intOf]; omega
    · obtain rfl : k = s.size := by omega
      have he : termLen (s.data.toList.take s.size) xs = termLen s.data.toList xs := by rw [List.take_of_length_le (by simp)]
      go_wp2
      go_ret
      exact ⟨rfl, HB1.out⟩

set_option maxHeartbeats 400000 in
theorem implTermLength_ok (s : ByteArray) (v : Value) (xs : List Int) (B : Nat) (w : World) (hs : s.size ≤ 24) (h : Wd.termB s.data.toList = true) (hv : Row w B v (xs.map (Value.int .i64))) (hB : B ≤ w.heap.size) (hx : lensB xs = true) :
    Calls Try.prog 11 #[.string s, v] w fun e w' => e = .returned (.tuple #[.int .i64 (termLen s.data.toList xs), .int .i64 0]) ∧ Below w.heap.size w w' := by
  have h4 : xs.length = 4 := by have := hx; unfold lensB at this; simp at this; exact this.1
  have c1 := implValidTerm_any s w (by unfold maxLen; omega)
  have c2 := implLens_any v xs B w hv (by omega)
  have c3 := lengthBy_any s v xs B w hs h hv hB (lensM_of hx)
  rw [h] at c1
  rw [hx] at c2
  obtain ⟨t, ht⟩ : ∃ t, termLen s.data.toList xs = t := ⟨_, rfl⟩
  rw [ht] at c3 ⊢
  clear h hx hv h4 ht
  go_enter Try.func11, Try.ntmps11
  go_wp2_with fail
  refine c1.mono ?_
  rintro e w' ⟨rfl, rfl⟩
  go_wp2_with fail
  refine c2.mono ?_
  rintro e w' ⟨rfl, rfl⟩
  go_wp2_with fail
  refine c3.mono ?_
  rintro e w1 ⟨rfl, hb1⟩
  go_wp2_with fail
  go_ret2
  exact ⟨rfl, hb1⟩

theorem termLength_both (s : ByteArray) (xs : List Int) (hs : s.size ≤ maxLen) (hx : xs.length ≤ 1048576) : ∃ a c : Int,
    (∀ v B w, Row w B v (xs.map (Value.int .i64)) → B ≤ w.heap.size → Calls Try.prog 11 #[.string s, v] w fun e w' => e = .returned (.tuple #[.int .i64 a, .int .i64 c]) ∧ Below w.heap.size w w') ∧
    ∀ v B w, Row w B v (xs.map (Value.int .i64)) → Calls Try.prog 9 #[.string s, v] w fun e w' => e = .returned (.tuple #[.int .i64 a, .int .i64 c]) ∧ Below w.heap.size w w' := by
  cases h : Wd.termB s.data.toList
  · exact ⟨0, 1, fun v B w _ _ => implTermLength_badT s v w hs h, fun v B w _ => specTermLength_badT s v w hs h⟩
  · have hs0 : s.size ≤ 24 := by have := Wd.termB_len h; simpa using this
    cases hl : lensB xs
    · exact ⟨0, 2, fun v B w hv _ => implTermLength_badL s v xs B w hs h hv hx hl, fun v B w hv => specTermLength_badL s v xs B w hs h hv hx hl⟩
    · exact ⟨_, 0, fun v B w hv hB => implTermLength_ok s v xs B w hs0 h hv hB hl, fun v B w hv => specTermLength_ok s v xs B w hs0 h hv hl⟩

theorem Row.len {w : World} {B : Nat} {v : Value} {xs : List Value} (h : Row w B v xs) : ∃ A c, v = .slice A xs.length c := by
  obtain ⟨A, c, hv, _⟩ := h
  exact ⟨A, c, hv⟩

set_option maxHeartbeats 800000 in
theorem law_FnExactTermLength (s : ByteArray) (v : Value) (xs : List Int) (w : World) (hs : s.size ≤ maxLen) (hv : Row w w.heap.size v (xs.map (Value.int .i64))) (hx : xs.length ≤ maxLen) :
    Calls Try.prog 3 #[.string s, v] w fun e w' => e = .returned (.bool true) ∧ Below w.heap.size w w' := by
  obtain ⟨A, c, rfl⟩ := hv.len
  have HV := hidv hv
  rw [List.length_map] at hv ⊢
  clear hv
  have hs' := hs
  unfold maxLen at hs' hx
  by_cases hl0 : (1048576 : Int) < s.size
  · go_enter Try.func3, Try.ntmps3
    go_wp2
    go_ret
    exact ⟨rfl, Below.refl _ _⟩
  by_cases hl1 : (1048576 : Int) < xs.length
  · go_enter Try.func3, Try.ntmps3
    go_wp2
    go_ret
    exact ⟨rfl, Below.refl _ _⟩
  · have hxl : xs.length ≤ 1048576 := by omega
    obtain ⟨a, cc, h1, h2⟩ := termLength_both s xs hs hxl
    have H1 := hidv h1
    have H2 := hidv h2
    have HVV : Hid (Row w w.heap.size (.slice A xs.length c) (xs.map (Value.int .i64))) := by
      have := HV.out
      rw [List.length_map] at this
      exact this
    clear h1 h2 hs HV
    go_enter Try.func3, Try.ntmps3
    go_wp2_with fail
    refine (toInts_any _ xs w.heap.size w HVV.out (Nat.le_refl _) hxl).mono ?_
    rintro e wa ⟨ua, rfl, hua, hba⟩
    have HUA := hidv hua
    have HBA := hidv hba
    have sa := hba.size
    clear hua hba
    go_wp2_with fail
    refine (H2.out _ _ _ HUA.out.row).mono ?_
    rintro e wb ⟨rfl, hbb⟩
    have HBB := hidv hbb
    have sb := hbb.size
    clear hbb
    go_wp2_with fail
    refine (toInts_any _ xs w.heap.size wb ((HVV.out.below HBA.out).below (HBB.out.mono sa)) (by omega) hxl).mono ?_
    rintro e wc ⟨uc, rfl, huc, hbc⟩
    have HUC := hidv huc
    have HBC := hidv hbc
    have sc := hbc.size
    clear huc hbc
    go_wp2_with fail
    refine (H1.out _ _ _ HUC.out.row (Nat.le_refl _)).mono ?_
    rintro e wd ⟨rfl, hbd⟩
    have HBD := hidv hbd
    have sd := hbd.size
    clear hbd
    go_wp2_with fail
    refine (toInts_any _ xs w.heap.size wd ((((HVV.out.below HBA.out).below (HBB.out.mono sa)).below (HBC.out.mono (by omega))).below (HBD.out.mono (by omega))) (by omega) hxl).mono ?_
    rintro e we ⟨ue, rfl, hue, hbe⟩
    have HUE := hidv hue
    have HBE := hidv hbe
    have se := hbe.size
    clear hue hbe
    go_wp2_with fail
    refine (eqInts_same ((HUC.out.row.below HBD.out).below (HBE.out.mono (by omega))) HUE.out.row (by omega)).mono ?_
    rintro e wf ⟨rfl, hbf⟩
    go_wp2_with fail
    go_ret
    exact ⟨rfl, ((((HBA.out.trans (HBB.out.mono (by omega))).trans (HBC.out.mono (by omega))).trans (HBD.out.mono (by omega))).trans (HBE.out.mono (by omega))).trans (hbf.mono (by omega))⟩

end Go.Proofs.Ythomkmbobaehkaa
