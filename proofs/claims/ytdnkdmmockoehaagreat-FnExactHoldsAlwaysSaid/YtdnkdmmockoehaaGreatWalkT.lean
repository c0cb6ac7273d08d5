/-
  TermLength, of the program and of the model: contracts, and the law over them.
-/
import Derived.Test.YtdnkdmmockoehaaGreatKind
import Derived.Test.YtdnkdmmockoehaaGreatMem
import Derived.Test.YtdnkdmmockoehaaGreatCopy
namespace Go.Proofs.YtdnkdmmockoehaaGreat
open Go.RowKit Go

def lenOk (n : Int) : Bool := decide (0 ≤ n) && decide (n ≤ 60)
def lensB (xs : List Int) : Bool := decide (xs.length = 4) && xs.all lenOk
def symLen (xs : List Int) (c : UInt8) : Int := if Wd.isL c then 1 else xs.getD (Wd.unkI c).toNat 0
def termLen (l : List UInt8) (xs : List Int) : Int := (l.map (symLen xs)).sum
theorem termLen_snoc (l : List UInt8) (c : UInt8) (xs : List Int) : termLen (l ++ [c]) xs = termLen l xs + symLen xs c := by
  unfold termLen
  rw [List.map_append, List.sum_append]
  simp
theorem unkI_letterT {c : UInt8} (h : Wd.isL c = true) : Wd.unkI c = -1 := by
  unfold Wd.isL at h
  simp at h
  unfold Wd.unkI
  rw [if_neg, if_neg, if_neg, if_neg]
  all_goals rintro rfl
  all_goals revert h; decide
theorem lensB_get {xs : List Int} (h : lensB xs = true) (k : Nat) (hk : k < 4) : ∃ hk' : k < xs.length, 0 ≤ xs[k] ∧ xs[k] ≤ 60 := by
  unfold lensB at h
  rw [Bool.and_eq_true, decide_eq_true_eq, List.all_eq_true] at h
  refine ⟨by omega, ?_⟩
  have := h.2 xs[k] (List.getElem_mem _)
  unfold lenOk at this
  simpa using this

theorem intRow_at {w : World} {B : Nat} {v : Value} {xs : List Int} (h : Row w B v (xs.map (Value.int .i64))) : ∃ A c, v = .slice A xs.length c ∧ (0 < xs.length → ∃ g o, A = some ⟨g, o, none⟩ ∧ g < B ∧ ∀ i (hi : i < xs.length), w.cell? ⟨g, o + i, none⟩ = some (.int .i64 xs[i])) := by
  obtain ⟨A, c, rfl, hA⟩ := h
  rw [List.length_map] at hA ⊢
  refine ⟨A, c, rfl, fun h0 => ?_⟩
  obtain ⟨g, o, hA1, hg, hc⟩ := hA h0
  exact ⟨g, o, hA1, hg, fun i hi => hc i _ (map_int_at hi)⟩

theorem all_take_succI (l : List Int) (f : Int → Bool) (k : Nat) (h : k < l.length) : (l.take (k + 1)).all f = ((l.take k).all f && f l[k]) := by
  rw [List.take_succ_eq_append_getElem h, List.all_append]
  simp
theorem all_false_ofI (l : List Int) (f : Int → Bool) (k : Nat) (h : k < l.length) (hf : f l[k] = false) : l.all f = false := by
  rw [List.all_eq_false]
  exact ⟨l[k], List.getElem_mem h, by simp [hf]⟩

theorem symLen_bound {xs : List Int} (h : lensB xs = true) {c : UInt8} (hc : Wd.isL c = true ∨ Wd.isL c = false ∧ Wd.isU c = true) : 0 ≤ symLen xs c ∧ symLen xs c ≤ 60 := by
  unfold symLen
  rcases hc with hl | ⟨hl, hu⟩
  · rw [hl]; simp
  · obtain ⟨x, hx4, hxu, _, _⟩ := symV_unknown hl hu
    rw [hl, hxu]
    obtain ⟨hk, hb⟩ := lensB_get h x hx4
    simp only [Bool.false_eq_true, if_false, Int.toNat_natCast, List.getD_eq_getElem?_getD, List.getElem?_eq_getElem hk, Option.getD_some]
    exact hb

theorem termLen_bound {xs : List Int} (h : lensB xs = true) : ∀ l : List UInt8, (∀ c ∈ l, Wd.isL c = true ∨ Wd.isL c = false ∧ Wd.isU c = true) → 0 ≤ termLen l xs ∧ termLen l xs ≤ 60 * l.length
  | [], _ => by simp [termLen]
  | c :: l, hl => by
    have h1 := symLen_bound h (hl c (by simp))
    have h2 := termLen_bound h l (fun d hd => hl d (by simp [hd]))
    have e : termLen (c :: l) xs = symLen xs c + termLen l xs := by unfold termLen; simp
    rw [e, List.length_cons]
    omega

theorem term_all {s : ByteArray} (hv : Wd.termB s.data.toList = true) : ∀ c ∈ s.data.toList, Wd.isL c = true ∨ Wd.isL c = false ∧ Wd.isU c = true := by
  unfold Wd.termB at hv
  rw [Bool.and_eq_true, List.all_eq_true] at hv
  intro c hc
  have := hv.2 c hc
  cases h : Wd.isL c
  · rw [h, Bool.false_or] at this
    exact .inr ⟨rfl, this⟩
  · exact .inl rfl

theorem termLen_upto {s : ByteArray} {xs : List Int} (hs : s.size ≤ 24) (hv : Wd.termB s.data.toList = true) (h : lensB xs = true) (k : Nat) : 0 ≤ termLen (s.data.toList.take k) xs ∧ termLen (s.data.toList.take k) xs ≤ 1440 := by
  have h1 := termLen_bound h (s.data.toList.take k) (fun c hc => term_all hv c (List.mem_of_mem_take hc))
  have h2 : (s.data.toList.take k).length ≤ 24 := Nat.le_trans (List.length_take_le' _ _) (by simpa using hs)
  omega

/-- Four lengths of 0 to M. -/
def LensM (M : Int) (xs : List Int) : Prop := xs.length = 4 ∧ ∀ x ∈ xs, 0 ≤ x ∧ x ≤ M
theorem lensM_of {xs : List Int} (h : lensB xs = true) : LensM 100000000000 xs := by
  unfold lensB at h
  rw [Bool.and_eq_true, decide_eq_true_eq, List.all_eq_true] at h
  refine ⟨h.1, fun x hx => ?_⟩
  have := h.2 x hx
  unfold lenOk at this
  simp at this
  omega
theorem LensM.get {M : Int} {xs : List Int} (h : LensM M xs) (k : Nat) (hk : k < 4) : ∃ hk' : k < xs.length, 0 ≤ xs[k] ∧ xs[k] ≤ M :=
  ⟨by have := h.1; omega, h.2 _ (List.getElem_mem _)⟩
theorem symLen_boundM {M : Int} {xs : List Int} (h : LensM M xs) (hM : 1 ≤ M) {c : UInt8} (hc : Wd.isL c = true ∨ Wd.isL c = false ∧ Wd.isU c = true) : 0 ≤ symLen xs c ∧ symLen xs c ≤ M := by
  unfold symLen
  rcases hc with hl | ⟨hl, hu⟩
  · rw [hl]; simp; omega
  · obtain ⟨x, hx4, hxu, _, _⟩ := symV_unknown hl hu
    obtain ⟨hk, hb⟩ := h.get x hx4
    rw [hl, hxu]
    simp [hk]
    exact hb
theorem termLen_boundM {M : Int} {xs : List Int} (h : LensM M xs) (hM : 1 ≤ M) : ∀ l : List UInt8, (∀ c ∈ l, Wd.isL c = true ∨ Wd.isL c = false ∧ Wd.isU c = true) → 0 ≤ termLen l xs ∧ termLen l xs ≤ M * l.length
  | [], _ => by simp [termLen]
  | c :: l, hl => by
    have h1 := symLen_boundM h hM (hl c (by simp))
    have h2 := termLen_boundM h hM l (fun d hd => hl d (by simp [hd]))
    have e : termLen (c :: l) xs = symLen xs c + termLen l xs := by unfold termLen; simp
    have e2 : M * ((c :: l).length : Int) = M * (l.length : Int) + M := by rw [List.length_cons]; push_cast; rw [Int.mul_add, Int.mul_one]
    rw [e, e2]
    omega
theorem termLen_uptoM {s : ByteArray} {xs : List Int} (hs : s.size ≤ 24) (hv : Wd.termB s.data.toList = true) (h : LensM 100000000000 xs) (k : Nat) : 0 ≤ termLen (s.data.toList.take k) xs ∧ termLen (s.data.toList.take k) xs ≤ 2400000000000 := by
  have h1 := termLen_boundM h (by omega) (s.data.toList.take k) (fun c hc => term_all hv c (List.mem_of_mem_take hc))
  have h2 : (s.data.toList.take k).length ≤ 24 := Nat.le_trans (List.length_take_le' _ _) (by simpa using hs)
  omega
theorem termLen_next {s : ByteArray} (xs : List Int) {k : Nat} (hk : k < s.size) : termLen (s.data.toList.take (k + 1)) xs = termLen (s.data.toList.take k) xs + symLen xs s[k] := by
  rw [List.take_succ_eq_append_getElem (by simpa using hk), termLen_snoc]
  rfl

set_option maxRecDepth 100000 in
set_option maxHeartbeats 800000 in
theorem lengthBy_any (s : ByteArray) (v : Value) (xs : List Int) (B : Nat) (w : World) (hs : s.size ≤ 24) (h : Wd.termB s.data.toList = true) (hv : Row w B v (xs.map (Value.int .i64))) (hB : B ≤ w.heap.size) (hx : LensM 100000000000 xs) :
    Calls Tryz.prog 63 #[.string s, v] w fun e w' => e = .returned (.int .i64 (termLen s.data.toList xs)) ∧ Below w.heap.size w w' := by
  have h4 : xs.length = 4 := hx.1
  have c3 := symbols_at s w hs
  obtain ⟨A, c, rfl, hA⟩ := intRow_at hv
  obtain ⟨g, o, rfl, hg, hce⟩ := hA (by omega)
  rw [h4]
  have HCE := hidv hce
  have H4 := hidv h4
  have HX := hidv hx
  have HV := hidv h
  clear hce h4 hx hA hv h
  go_enter Tryz.func63, Tryz.ntmps63
  go_wp2_with fail
  refine c3.mono ?_
  rintro e w1 ⟨A, c, rfl, hsym, hb1⟩
  have HS := hidv hsym
  have HB1 := hidv hb1
  clear hsym hb1
  go_wp2_with fail
  go_loop [5, 13] (fun q i => ∃ k : Nat, k ≤ s.size ∧ i = .int .i64 k ∧ q = .int .i64 (termLen (s.data.toList.take k) xs)) (fun _ i => s.size - (intOf i).toNat)
  case atStart => exact ⟨0, Nat.zero_le _, rfl, rfl⟩
  case round =>
    obtain ⟨k, hk, rfl, rfl⟩ := hrel
    have hbd := termLen_uptoM hs HV.out HX.out k
    by_cases hlt : k < s.size
    · have HN := hidv (termLen_next xs hlt)
      obtain ⟨t, ht⟩ : ∃ t, termLen (s.data.toList.take k) xs = t := ⟨_, rfl⟩
      rw [ht] at hbd HN ⊢
      obtain ⟨ht0, ht1⟩ := hbd
      have HT := hidv ht
      clear ht
      obtain ⟨gs, rfl, hbg, hgl, hcs⟩ := HS.out (by omega)
      have c2 := hcs k hlt
      have HCS := hidv hcs
      clear hcs
      rcases term_at HV.out k hlt with hl | ⟨hl, hu⟩
      · obtain ⟨he, hj⟩ := symV_letter hl
        rw [he] at c2
        have hsl : symLen xs s[k] = 1 := by unfold symLen; rw [hl]; rfl
        have HSL := hidv hsl
        clear hsl hl he hj
        have ta := assertLL (kindN s[k] : Nat)
        go_wp2
        go_round
        case rel => exact ⟨k + 1, by omega, by go_num, by rw [HN.out, HSL.out]⟩
        case measure => simp [intOf]; omega
      · obtain ⟨x, hx4, hxu, he, _⟩ := symV_unknown hl hu
        rw [he] at c2
        obtain ⟨hk4, hy0, hy1⟩ := HX.out.get x hx4
        have c1 : w1.cell? ⟨g, o + x, none⟩ = some (.int .i64 xs[x]) := by
          rw [HB1.out.cell (p := ⟨g, o + x, none⟩) (by show g < w.heap.size; omega)]
          exact HCE.out x (by have := H4.out; omega)
        have hsl : symLen xs s[k] = xs[x] := by
          unfold symLen
          rw [hl, hxu]
          simp [hk4]
        obtain ⟨y, hy⟩ : ∃ y, xs[x] = y := ⟨_, rfl⟩
        rw [hy] at hsl c1 hy0 hy1
        have HSL := hidv hsl
        clear hsl hl hu hy hk4 he hxu
        have ta := assertUL (x : Nat)
        have tb := assertUU (x : Nat)
        go_wp2
        go_round
        case rel => exact ⟨k + 1, by omega, by go_num, by rw [HN.out, HSL.out]⟩
        case measure => simp [intOf]; omega
    · obtain rfl : k = s.size := by omega
      have he : termLen (s.data.toList.take s.size) xs = termLen s.data.toList xs := by rw [List.take_of_length_le (by simp)]
      go_wp2
      go_ret
      exact ⟨rfl, HB1.out⟩

theorem Row.len {w : World} {B : Nat} {v : Value} {xs : List Value} (h : Row w B v xs) : ∃ A c, v = .slice A xs.length c := by
  obtain ⟨A, c, hv, _⟩ := h
  exact ⟨A, c, hv⟩

end Go.Proofs.YtdnkdmmockoehaaGreat
