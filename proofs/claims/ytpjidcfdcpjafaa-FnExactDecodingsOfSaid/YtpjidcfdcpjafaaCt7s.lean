/-
  The number of decodings, as the model counts it (by the last word, over all beginnings): a contract.
-/
import Derived.Test.YtpjidcfdcpjafaaCt7f
import Derived.Test.YtpjidcfdcpjafaaBe7
import Derived.Test.YtpjidcfdcpjafaaCopy
import Derived.Test.YtpjidcfdcpjafaaRow2
import Derived.RegionTactic
namespace Go.Proofs.Ytpjidcfdcpjafaa
open Go.RowKit Go
set_option linter.unusedVariables false

def lcT (xs : List ByteArray) (s : ByteArray) (k : Nat) : Nat := Wd.lc (Wl xs) (s.data.toList.take k)
def part (xs : List ByteArray) (s : ByteArray) (a i : Nat) : Nat := ((xs.take i).map fun x => if Lib.hasSuffix (s.data.toList.take a) x.data.toList then lcT xs s (a - x.size) else 0).sum
theorem part_zero (xs : List ByteArray) (s : ByteArray) (a : Nat) : part xs s a 0 = 0 := rfl
theorem part_succ (xs : List ByteArray) (s : ByteArray) (a i : Nat) (h : i < xs.length) : part xs s a (i + 1) = part xs s a i + if Lib.hasSuffix (s.data.toList.take a) xs[i].data.toList then lcT xs s (a - xs[i].size) else 0 := by
  unfold part
  rw [List.take_succ_eq_append_getElem h, List.map_append, List.sum_append]
  simp only [List.map_cons, List.map_nil, List.sum_cons, List.sum_nil, Nat.add_zero]
theorem part_all {xs : List ByteArray} (h : WsOk xs) (s : ByteArray) (a : Nat) (h1 : 1 ≤ a) (ha : a ≤ s.size) : part xs s a xs.length = lcT xs s a := by
  have hla : (s.data.toList.take a).length = a := by rw [List.length_take]; have e : s.data.toList.length = s.size := by simp
                                                     omega
  have hne : s.data.toList.take a ≠ [] := by
    intro hh
    rw [hh, List.length_nil] at hla
    omega
  unfold part
  rw [List.take_length]
  have e : lcT xs s a = ((Wl xs).map fun x => if x.isSuffixOf (s.data.toList.take a) then Wd.lc (Wl xs) ((s.data.toList.take a).take ((s.data.toList.take a).length - x.length)) else 0).sum := Wd.lc_step h.2.2.1 hne
  rw [e]
  unfold Wl
  rw [List.map_map]
  refine Wd.sum_congr fun x hx => ?_
  show (if _ then _ else _) = (if _ then _ else _)
  unfold Lib.hasSuffix lcT Wl
  split
  · rw [List.take_take, hla]
    have e2 : x.data.toList.length = x.size := by simp
    rw [e2, Nat.min_eq_left (by omega)]
  · rfl
theorem part_le (xs : List ByteArray) (s : ByteArray) (a i : Nat) : part xs s a i ≤ part xs s a xs.length := by
  unfold part
  rw [List.take_length]
  have e2 : (xs.map fun x => if Lib.hasSuffix (s.data.toList.take a) x.data.toList then lcT xs s (a - x.size) else 0).sum = ((xs.take i).map fun x => if Lib.hasSuffix (s.data.toList.take a) x.data.toList then lcT xs s (a - x.size) else 0).sum + ((xs.drop i).map fun x => if Lib.hasSuffix (s.data.toList.take a) x.data.toList then lcT xs s (a - x.size) else 0).sum := by
    rw [← List.sum_append, ← List.map_append, List.take_append_drop]
  omega
theorem lcT_bound {xs : List ByteArray} (h : WsOk xs) {s : ByteArray} (hs : s.size ≤ 60) (k : Nat) : lcT xs s k ≤ 2 ^ 60 := by
  have h1 := Wd.fc_bound h.2.2.1 h.2.2.2 _ (s.data.toList.take k) (Nat.le_refl _)
  rw [Wd.fc_lc h.2.2.1 _ _ (Nat.le_refl _)] at h1
  have e : (s.data.toList.take k).length ≤ 60 := by rw [List.length_take]; have e : s.data.toList.length = s.size := by simp
                                                    omega
  exact Nat.le_trans h1 (Nat.pow_le_pow_right (by omega) e)
theorem lcT_all {xs : List ByteArray} (h : WsOk xs) (s : ByteArray) : lcT xs s s.size = fcB xs s := by
  unfold lcT fcB
  rw [List.take_of_length_le (by simp), Wd.fc_lc h.2.2.1 _ _ (Nat.le_refl _)]
theorem lcT_zero (xs : List ByteArray) (s : ByteArray) : lcT xs s 0 = 1 := by
  unfold lcT
  rw [List.take_zero, Wd.lc_nil]
/-- The list of counts, at the beginning of length a, behind i words. -/
def dpL (xs : List ByteArray) (s : ByteArray) (m a i : Nat) : List Int := (List.range m).map fun j => if j < a then (lcT xs s j : Int) else if j = a then (part xs s a i : Int) else 0
theorem dpL_length (xs : List ByteArray) (s : ByteArray) (m a i : Nat) : (dpL xs s m a i).length = m := by simp [dpL]
theorem dpL_at (xs : List ByteArray) (s : ByteArray) (m a i j : Nat) (hj : j < m) : (dpL xs s m a i)[j]? = some (if j < a then (lcT xs s j : Int) else if j = a then (part xs s a i : Int) else 0) := by
  simp [dpL, hj]
theorem dpL_set (xs : List ByteArray) (s : ByteArray) (m a i : Nat) (ha : a < m) (v : Int) (hv : v = (part xs s a (i + 1) : Nat)) : (dpL xs s m a i).set a v = dpL xs s m a (i + 1) := by
  apply List.ext_getElem?
  intro j
  rw [List.getElem?_set, dpL_length]
  rcases Nat.lt_or_ge j m with hj | hj
  · by_cases haj : a = j
    · subst haj
      rw [if_pos rfl, if_pos ha, dpL_at _ _ _ _ _ _ hj, if_neg (by omega), if_pos rfl, hv]
    · rw [if_neg haj, dpL_at _ _ _ _ _ _ hj, dpL_at _ _ _ _ _ _ hj]
      by_cases hlt : j < a
      · rw [if_pos hlt, if_pos hlt]
      · rw [if_neg hlt, if_neg hlt, if_neg (by omega), if_neg (by omega)]
  · rw [List.getElem?_eq_none (by rw [dpL_length]; exact hj), if_neg (by omega)]
    exact (List.getElem?_eq_none (by rw [dpL_length]; exact hj)).symm
theorem dpL_next {xs : List ByteArray} (h : WsOk xs) (s : ByteArray) (m a : Nat) (h1 : 1 ≤ a) (ha : a ≤ s.size) : dpL xs s m a xs.length = dpL xs s m (a + 1) 0 := by
  unfold dpL
  refine List.map_congr_left fun j hj => ?_
  rcases Nat.lt_trichotomy j a with h2 | h2 | h2
  · rw [if_pos h2, if_pos (by omega)]
  · subst h2
    rw [if_neg (by omega), if_pos rfl, if_pos (by omega), part_all h s j h1 ha]
  · rw [if_neg (by omega), if_neg (by omega), if_neg (by omega)]
    split
    · rw [part_zero]; rfl
    · rfl
theorem dpL_start (xs : List ByteArray) (s : ByteArray) (m : Nat) (hm : 0 < m) : (List.replicate m (0 : Int)).set 0 1 = dpL xs s m 1 0 := by
  apply List.ext_getElem?
  intro j
  rw [List.getElem?_set, List.length_replicate]
  rcases Nat.lt_or_ge j m with hj | hj
  · rw [dpL_at _ _ _ _ _ _ hj, List.getElem?_replicate, if_pos hj]
    by_cases h0 : 0 = j
    · subst h0
      rw [if_pos rfl, if_pos hm, if_pos (by omega), lcT_zero]; rfl
    · rw [if_neg h0, if_neg (by omega)]
      split
      · rw [part_zero]; rfl
      · rfl
  · rw [List.getElem?_eq_none (show (List.replicate m (0 : Int)).length ≤ j by rw [List.length_replicate]; exact hj), if_neg (by omega), List.getElem?_eq_none (show (dpL xs s m 1 0).length ≤ j by rw [dpL_length]; exact hj)]

set_option maxRecDepth 100000 in
set_option maxHeartbeats 3200000 in
theorem l07Count_any (vx : Value) (xs : List ByteArray) (s : ByteArray) (B : Nat) (w : World) (hv : Row w B vx (xs.map Value.string)) (hB : B ≤ w.heap.size) (hx : WsOk xs) (hs : s.size ≤ 60) :
    Calls Try.prog 78 #[vx, .string s] w fun e w' => e = .returned (.int .i64 (fcB xs s : Nat)) ∧ Below w.heap.size w w' := by
  obtain ⟨i0, hi, hz0, hz1, hz2⟩ := info_parts Try.infoN
  obtain ⟨A, c, rfl, hA⟩ := strRow_at hv
  obtain ⟨n, hn⟩ : ∃ n, xs.length = n := ⟨_, rfl⟩
  have HA := hidv hA
  have HX := hidv hx
  have hn1000 : n ≤ 1000 := by rw [← hn]; exact hx.1
  have HLB := hidv (fun k => lcT_bound hx hs k)
  have HALL := hidv (lcT_all hx s)
  have HNX := hidv (fun a h1 h2 => dpL_next hx s (s.size + 1) a h1 h2)
  have HPA := hidv (fun a h1 h2 => part_all hx s a h1 h2)
  obtain ⟨T, hT⟩ : ∃ T, fcB xs s = T := ⟨_, rfl⟩
  rw [hT] at HALL ⊢
  rw [hn] at HNX HPA ⊢
  have HN := hidv hn
  clear hv hA hx hn hT
  go_enter Try.func78, Try.ntmps78
  go_wp2_with (at_make; refine wpList_make_full _ rfl _ _ 26 rfl w.heap.size 2 i0 (.int .i64 0) 1 Try.underlying26 hi hz0 hz1 _ _ _ _ (s.size + 1) rfl rfl rfl rfl (by rw [hz2]; omega) (by unfold maxLen; omega) (Nat.le_refl _) ?_; intro w0 hown0 hgr0; have hmc : (madeCells (Value.int IntKind.i64 0).cells ((s.size + 1) * 1)).toList = (List.replicate (s.size + 1) (0 : Int)).map (Value.int .i64) := (by rw [List.map_replicate, Nat.mul_one]; exact toList_madeCells_one _ _); rw [hmc] at hown0; have hin0 : Ints w0 w.heap.size (.slice (some ⟨w.heap.size, 0, none⟩) (s.size + 1) (s.size + 1)) (List.replicate (s.size + 1) (0 : Int)) := (by unfold Ints; rw [List.length_replicate]; exact hown0); have hb0 : Below w.heap.size w w0 := below_grown hgr0 (Nat.le_refl _) (fun k hk => by cases hk); have z0 := hin0.cellAt (List.length_replicate) (k := 0) (x := 0) rfl; have f0 := hin0.frozenAt (List.length_replicate) 0; have hs0 := hin0.setAt 0 1 (List.length_replicate); rw [dpL_start xs s (s.size + 1) (Nat.succ_pos _)] at hs0; have HI0 := hidv hs0; have HB0 := hidv (hb0.setCell (p := ⟨w.heap.size, 0, none⟩) (Nat.le_refl _) (.int .i64 1)); clear hown0 hgr0 hmc hin0 hb0 hs0)
  go_loopw [6] (fun i wr => ∃ a : Nat, 1 ≤ a ∧ a ≤ s.size + 1 ∧ i = .int .i64 (a : Int) ∧ Hid (Ints wr w.heap.size (.slice (some ⟨w.heap.size, 0, none⟩) (s.size + 1) (s.size + 1)) (dpL xs s (s.size + 1) a 0)) ∧ Hid (Below w.heap.size w wr)) (fun i _ => s.size + 1 - (intOf i).toNat)
  case atStart => exact ⟨1, by omega, by omega, rfl, HI0, HB0⟩
  case round =>
    obtain ⟨a, ha1, ha, rfl, hin, hbe⟩ := hrel
    by_cases hlt : a ≤ s.size
    · have HN2 := hidv (HNX.out a ha1 hlt)
      have HP2 := hidv (HPA.out a ha1 hlt)
      have hlb := HLB.out a
      obtain ⟨wo, hwo⟩ : ∃ wo : World, wo = wr := ⟨_, rfl⟩
      go_wp2_with fail
      subst hwo
      go_loopw [7] (fun i wr => ∃ k : Nat, k ≤ n ∧ i = .int .i64 (k : Int) ∧ Hid (Ints wr w.heap.size (.slice (some ⟨w.heap.size, 0, none⟩) (s.size + 1) (s.size + 1)) (dpL xs s (s.size + 1) a k)) ∧ Hid (Below w.heap.size w wr)) (fun i _ => n - (intOf i).toNat)
      case atStart => exact ⟨0, Nat.zero_le _, rfl, hin, hbe⟩
      case round =>
        obtain ⟨k, hk, rfl, hin2, hbe2⟩ := hrel
        obtain ⟨wq, hwq⟩ : ∃ W, wr = W := ⟨_, rfl⟩
        rw [hwq] at hin2 hbe2 ⊢
        clear hwq
        by_cases hltk : k < n
        · have hkx : k < xs.length := by have := HN.out; omega
          obtain ⟨g, o, rfl, hg, hce⟩ := HA.out (by have := HN.out; omega)
          have hx60 := HX.out.2.1 xs[k] (List.getElem_mem _)
          have hx1 : 1 ≤ xs[k].size := by
            have h1 := HX.out.2.2.1 xs[k].data.toList (by unfold Wl; exact List.mem_map_of_mem (List.getElem_mem _))
            simpa using h1
          have d1 := hce k hkx
          have hsu := part_succ xs s a k hkx
          have hpl := part_le xs s a (k + 1)
          rw [HN.out, HP2.out] at hpl
          obtain ⟨x, hx⟩ : ∃ x, xs[k] = x := ⟨_, rfl⟩
          rw [hx] at hx60 hx1 d1 hsu
          have c1 := (hbe2.out.cell (p := ⟨g, o + k, none⟩) (by show g < _; omega)).trans d1
          have hC := fun W => ends_any (s.extract 0 a) x W (by rw [ByteArray.size_extract]; unfold maxLen; omega) (by unfold maxLen; omega)
          rw [show (s.extract 0 a).data.toList = s.data.toList.take a by rw [Lib.extract_data, List.drop_zero, Nat.sub_zero]] at hC
          obtain ⟨q, hq⟩ : ∃ q, Lib.hasSuffix (s.data.toList.take a) x.data.toList = q := ⟨_, rfl⟩
          rw [hq] at hC hsu
          have HC := hidv hC
          have i1 : (0 : Int) ≤ (k : Int) := by omega
          have i2 : (k : Int) < (n : Int) := by omega
          have i3 : (0 : Int) ≤ (a : Int) := by omega
          have i4 : (a : Int) ≤ (s.size : Int) := by omega
          obtain ⟨P, hP⟩ : ∃ P, part xs s a k = P := ⟨_, rfl⟩
          have HPX := hidv hP
          rw [hP] at hsu
          cases q
          · have hsu2 : part xs s a (k + 1) = P := by rw [hsu]; rfl
            have hde : dpL xs s (s.size + 1) a (k + 1) = dpL xs s (s.size + 1) a k := by
              unfold dpL
              rw [hsu2, hP]
            have HDE := hidv hde
            clear hce hC hsu hq hx hP hsu2 hde d1
            go_wp2_with fail
            go_quiet (first | (go_at_call 108; exact Calls.quiet_of_same ((HC.out _).mono fun _ _ h => ⟨h.1, h.2.symm⟩)))
            go_wp2_with fail
            go_roundw
            case rel => exact ⟨k + 1, by omega, by go_num, hidv (by rw [HDE.out]; exact hin2.out), hidv (below_drewN hbe2.out _)⟩
            case measure => simp [intOf]; omega
          · have hxa : x.size ≤ a := by
              have h1 := List.isSuffixOf_iff_suffix.1 hq
              have h2 := h1.length_le
              rw [List.length_take] at h2
              have e : s.data.toList.length = s.size := by simp
              have e2 : x.data.toList.length = x.size := by simp
              omega
            rw [if_pos rfl] at hsu
            obtain ⟨R, hR⟩ : ∃ R, lcT xs s (a - x.size) = R := ⟨_, rfl⟩
            rw [hR] at hsu
            have hz1' := fun (W : World) (h : Ints W w.heap.size (.slice (some ⟨w.heap.size, 0, none⟩) (s.size + 1) (s.size + 1)) (dpL xs s (s.size + 1) a k)) => (show W.cell? ⟨w.heap.size, a, none⟩ = some (.int .i64 (P : Int)) ∧ W.cell? ⟨w.heap.size, a - x.size, none⟩ = some (.int .i64 (R : Int)) from
              ⟨h.cellAt (dpL_length _ _ _ _ _) (by rw [dpL_at _ _ _ _ _ _ (by omega), if_neg (by omega), if_pos rfl, hP]), h.cellAt (dpL_length _ _ _ _ _) (by rw [dpL_at _ _ _ _ _ _ (by omega), if_pos (by omega), hR])⟩)
            obtain ⟨z1, z2⟩ := hz1' wq hin2.out
            have f1 := hin2.out.frozenAt (dpL_length _ _ _ _ _) a
            have hst := hin2.out.setAt a ((P : Int) + (R : Int)) (dpL_length _ _ _ _ _)
            rw [dpL_set xs s (s.size + 1) a k (by omega) _ (by rw [hsu]; push_cast; rfl)] at hst
            have HST := hidv hst
            have hPR : P + R ≤ 1152921504606846976 := by have h1 : 2 ^ 60 = 1152921504606846976 := by decide
                                                         omega
            have HBS := hidv (hbe2.out.setCell (p := ⟨w.heap.size, a, none⟩) (Nat.le_refl _) (.int .i64 ((P : Int) + (R : Int))))
            have hwr : IntKind.i64.wrap ((P : Int) + (R : Int)) = (P : Int) + (R : Int) := IntWalk.i64_in _ (by omega)
            have i5 : (0 : Int) ≤ (a : Int) - (x.size : Int) := by omega
            have i6 : (a : Int) - (x.size : Int) < (s.size : Int) + 1 := by omega
            have i7 : (a : Int) < (s.size : Int) + 1 := by omega
            have i8 : ((a : Int) - (x.size : Int)).toNat = a - x.size := by omega
            clear hce hC hsu hq hx hP d1 hR hz1' hst hpl hlb
            go_wp2_with fail
            go_quiet (first | (go_at_call 108; exact Calls.quiet_of_same ((HC.out _).mono fun _ _ h => ⟨h.1, h.2.symm⟩)))
            go_wp2_with fail
            go_region
            go_wp2_with fail
            go_roundw
            case rel => exact ⟨k + 1, by omega, by go_num, hidv HST.out, hidv ((below_drewN hbe2.out _).setCell (p := ⟨w.heap.size, a, none⟩) (Nat.le_refl _) _)⟩
            case measure => simp [intOf]; omega
        · obtain rfl : k = n := by omega
          have HI2 := hidv (show Ints wq w.heap.size (.slice (some ⟨w.heap.size, 0, none⟩) (s.size + 1) (s.size + 1)) (dpL xs s (s.size + 1) (a + 1) 0) from by rw [← HN2.out]; exact hin2.out)
          go_wp2_with fail
          go_roundw
          case rel => exact ⟨a + 1, by omega, by omega, by go_num, HI2, hbe2⟩
          case measure => simp [intOf]; omega
    · obtain rfl : a = s.size + 1 := by omega
      have z1 := hin.out.cellAt (dpL_length _ _ _ _ _) (k := s.size) (by rw [dpL_at _ _ _ _ _ _ (by omega), if_pos (by omega), HALL.out])
      have i1 : (0 : Int) ≤ (s.size : Int) := by omega
      have i2 : (s.size : Int) < (s.size : Int) + 1 := by omega
      go_wp2_with fail
      go_ret
      exact ⟨rfl, hbe.out⟩

/-- The same, of a valid word by a valid set. -/
theorem specCd_any (vx : Value) (xs : List ByteArray) (s : ByteArray) (B : Nat) (w : World) (hv : Row w B vx (xs.map Value.string)) (hB : B ≤ w.heap.size) (hl : xs.length ≤ 1048576) (hz : ∀ s ∈ xs, s.size ≤ maxLen) (hs : s.size ≤ maxLen) (a c : Int) (hd : CdR xs s a c) :
    Calls Try.prog 36 #[vx, .string s] w fun e w' => e = .returned (.tuple #[.int .i64 a, .int .i64 c]) ∧ Below w.heap.size w w' := by
  obtain ⟨q, hq⟩ := iffB (SetOk xs)
  obtain ⟨p, hp⟩ : ∃ p, Wd.wordB s.data.toList = p := ⟨_, rfl⟩
  have CS := hidv (l07Ok_any vx xs B w hv hB hl hz q hq)
  have CW := hidv (fun W => specWord_any s W hs)
  rw [hp] at CW
  have HC := hidv (fun W (h : Below w.heap.size w W) (hx : WsOk xs) (h60 : s.size ≤ 60) => l07Count_any vx xs s B W (hv.below (h.mono hB)) (Nat.le_trans hB h.size) hx h60)
  have HD := hidv hd
  have HQ := hidv hq
  have HP := hidv hp
  have hvx : ∃ A n c, vx = .slice A n c := by obtain ⟨A, c, hh, _⟩ := hv; exact ⟨A, _, c, hh⟩
  obtain ⟨A, n, cx, rfl⟩ := hvx
  clear hv hz hs hd hq hp
  cases q
  · obtain ⟨rfl, rfl⟩ := HD.out.2 (fun h => absurd (HQ.out.mpr h.1) (by decide))
    go_enter Try.func36, Try.ntmps36
    go_wp2_with fail
    refine CS.out.mono ?_
    rintro e w1 ⟨rfl, m1, hm1⟩
    have HB1 := hidv (below_q hm1)
    clear hm1
    go_wp2_with fail
    go_ret2
    exact ⟨rfl, HB1.out⟩
  cases p
  · obtain ⟨rfl, rfl⟩ := HD.out.2 (fun h => by have h1 := h.2; rw [HP.out] at h1; cases h1)
    go_enter Try.func36, Try.ntmps36
    go_wp2_with fail
    refine CS.out.mono ?_
    rintro e w1 ⟨rfl, m1, hm1⟩
    have HB1 := hidv (below_q hm1)
    clear hm1
    go_wp2_with fail
    refine (CW.out _).mono ?_
    rintro e w' ⟨rfl, rfl⟩
    go_wp2_with fail
    go_ret2
    exact ⟨rfl, HB1.out⟩
  have hok := HQ.out.mp rfl
  obtain ⟨rfl, rfl⟩ := HD.out.1 ⟨hok, HP.out⟩
  have HC2 := hidv (fun W h => HC.out W h (setOk_ws hok) (by have := Wd.wordB_len HP.out; simpa using this))
  obtain ⟨T, hT⟩ : ∃ T, fcB xs s = T := ⟨_, rfl⟩
  rw [hT] at HC2 ⊢
  clear hok hT HD HQ HP HC
  go_enter Try.func36, Try.ntmps36
  go_wp2_with fail
  refine CS.out.mono ?_
  rintro e w1 ⟨rfl, m1, hm1⟩
  have HB1 := hidv (below_q hm1)
  clear hm1
  go_wp2_with fail
  refine (CW.out _).mono ?_
  rintro e w' ⟨rfl, rfl⟩
  go_wp2_with fail
  refine (HC2.out _ HB1.out).mono ?_
  rintro e w2 ⟨rfl, hb2⟩
  have HB2 := hidv (below_on HB1.out hb2)
  clear hb2
  go_wp2_with fail
  go_ret2
  exact ⟨rfl, HB2.out⟩

end Go.Proofs.Ytpjidcfdcpjafaa
