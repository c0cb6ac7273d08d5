/-
  The length of a term for a number, and what a term becomes by values of any length, in the model: contracts.
-/
import Derived.Test.YtdnkdmmockoehaaGreatWo
import Derived.Test.YtdnkdmmockoehaaGreatTn
import Derived.Test.YtdnkdmmockoehaaGreatFo
namespace Go.Proofs.YtdnkdmmockoehaaGreat
open Go.RowKit Go
set_option linter.unusedVariables false

theorem lensL {rs : List (List Pc)} {k : Int} (hok : FamOk rs) (hk : 0 ≤ k ∧ k ≤ 1000000) : LensM 100000000000 (rs.map (gsum (pcLen k))) := by
  refine ⟨by rw [List.length_map]; exact hok.1, fun x hx => ?_⟩
  obtain ⟨r, hr, rfl⟩ := List.mem_map.1 hx
  have h1 := hok.2 r hr
  have := gsum_bound (pcLen k) 180003600 r (fun p hp => pcLen_bound (h1.2 p hp) hk)
  have h2 := h1.1
  omega
theorem drewN_of2 {w wr : World} {m q : Nat} (h : wr = w.drewN m) : wr.drewN q = w.drewN (m + q) := by rw [h, World.drewN_drewN]

set_option maxRecDepth 100000 in
set_option maxHeartbeats 3200000 in
theorem l06Size_any (s : ByteArray) (b : Nat) (rs : List (List Pc)) (k : Int) (A : Option Addr) (cA B : Nat) (w : World) (hs : s.size ≤ 24) (hv : Wd.termB s.data.toList = true) (hb : w.cell? ⟨b, 0, none⟩ = some (.slice A rs.length cA)) (hr : QRows w B (.slice A rs.length cA) rs) (hB : B ≤ w.heap.size) (hok : FamOk rs) (hk : 0 ≤ k ∧ k ≤ 1000000) :
    Calls Tryz.prog 32 #[.string s, .pointer (some ⟨b, 0, none⟩), .int .i64 k] w fun e w' => e = .returned (.int .i64 (termLen s.data.toList (rs.map (gsum (pcLen k))))) ∧ ∃ m, w' = w.drewN m := by
  obtain ⟨A', c', he, hA⟩ := hr.at
  injection he with he1 _ he2
  subst he1 he2
  have hx := lensL hok hk
  have h4 := hok.1
  have HA := hidv hA
  have HOK := hidv hok
  have HK := hidv hk
  rw [h4] at hb
  have HN := hidv h4
  have HX := hidv hx
  have HV := hidv hv
  clear hA hok hr h4 hx hv hk
  go_enter Tryz.func32, Tryz.ntmps32
  go_wp2
  go_loopw [7, 8] (fun q i wr => ∃ j : Nat, j ≤ s.size ∧ i = .int .i64 j ∧ q = .int .i64 (termLen (s.data.toList.take j) (rs.map (gsum (pcLen k)))) ∧ ∃ m, wr = w.drewN m) (fun _ i _ => s.size - (intOf i).toNat)
  case atStart => exact ⟨0, Nat.zero_le _, rfl, rfl, 0, rfl⟩
  case round =>
    obtain ⟨j, hj, rfl, rfl, m, hwr⟩ := hrel
    have HWR := hidv hwr
    have b1 : wr.cell? ⟨b, 0, none⟩ = some (.slice A 4 cA) := by rw [hwr]; exact hb
    have HBW := hidv (show Below w.heap.size w wr from by rw [hwr]; exact below_drewN (Below.refl _ _) _)
    clear hwr
    have hbd := termLen_uptoM hs HV.out HX.out j
    by_cases hlt : j < s.size
    · have HNX := hidv (termLen_next (rs.map (gsum (pcLen k))) hlt)
      obtain ⟨t, ht⟩ : ∃ t, termLen (s.data.toList.take j) (rs.map (gsum (pcLen k))) = t := ⟨_, rfl⟩
      rw [ht] at hbd HNX ⊢
      obtain ⟨ht0, ht1⟩ := hbd
      have HT := hidv ht
      clear ht
      rcases term_at HV.out j hlt with hl | ⟨hl, hu⟩
      · have hsl : symLen (rs.map (gsum (pcLen k))) s[j] = 1 := by unfold symLen; rw [hl]; rfl
        have HSL := hidv hsl
        have HLE := hidv (fun W => letter_any s[j] W)
        rw [hl] at HLE
        clear hsl hl
        go_wp2_with fail
        refine (HLE.out _).mono ?_
        rintro e w' ⟨rfl, rfl⟩
        go_wp2_with fail
        go_roundw
        case rel => exact ⟨j + 1, by omega, by go_num, by rw [HNX.out, HSL.out], _, HWR.out⟩
        case measure => simp [intOf]; omega
      · obtain ⟨x, hx4, hxu, _, _⟩ := symV_unknown hl hu
        have hxr : x < rs.length := by have := HN.out; omega
        have hsl : symLen (rs.map (gsum (pcLen k))) s[j] = gsum (pcLen k) rs[x] := by
          unfold symLen
          rw [hl, hxu]
          simp [hxr]
        obtain ⟨g, o, rfl, hg, hce⟩ := HA.out (by have := HN.out; omega)
        obtain ⟨a, cq, e0, r1⟩ := hce x hxr
        have hro := HOK.out.at x hxr
        have hbs := gsum_bound (pcLen k) 180003600 rs[x] (fun p hp => pcLen_bound (hro.2 p hp) HK.out)
        have hl4 := hro.1
        have HLN := hidv (fun q => l06Length_any _ rs[x] w.heap.size k (wr.drewN q) ((r1.more hB).below (below_drewN HBW.out q)) (below_drewN HBW.out q).size hro HK.out)
        obtain ⟨l, hl2⟩ : ∃ l, rs[x].length = l := ⟨_, rfl⟩
        obtain ⟨gs, hgs⟩ : ∃ z, gsum (pcLen k) rs[x] = z := ⟨_, rfl⟩
        rw [hl2] at e0 HLN
        rw [hgs] at HLN hsl hbs
        obtain ⟨hb0, hb1⟩ := hbs
        have hb2 : gs ≤ 800000000 := by rw [hl2] at hb1 hl4; omega
        have e1 := (HBW.out.cell (p := ⟨g, o + x, none⟩) (by show g < w.heap.size; omega)).trans e0
        have HSL := hidv hsl
        have HLE := hidv (fun W => letter_any s[j] W)
        have HUN := hidv (fun W => unknown_any s[j] W)
        rw [hl] at HLE
        rw [hxu] at HUN
        have i1 : (0 : Int) ≤ (x : Int) := by omega
        have i2 : (x : Int) < 4 := by omega
        have j1 : (0 : Int) ≤ (j : Int) := by omega
        have j2 : (j : Int) < (s.size : Int) := by omega
        clear hce hro hsl hl hu hl2 e0 hgs hb1 hl4
        go_wp2_with fail
        refine (HLE.out _).mono ?_
        rintro e w' ⟨rfl, rfl⟩
        go_wp2_with fail
        go_quiet (first | (go_at_call 55; exact Calls.quiet_of_same ((HUN.out _).mono fun _ _ h => ⟨h.1, h.2.symm⟩)) | (go_at_call 54; exact Calls.quiet_of (HLN.out _)))
        go_wp2_with fail
        go_roundw
        case rel => exact ⟨j + 1, by omega, by go_num, by rw [HNX.out, HSL.out], _, drewN_of2 HWR.out⟩
        case measure => simp [intOf]; omega
    · obtain rfl : j = s.size := by omega
      go_wp2
      go_ret
      exact ⟨ret_int (by rw [List.take_of_length_le (by simp)]), _, HWR.out⟩

theorem one_new6 (w : World) (x : Value) (t : TypeId) : ∀ (j : Nat) (u : Value), [x][j]? = some u → (w.alloc (.cells #[x] t)).cell? ((⟨w.heap.size, 0, none⟩ : Addr).add j) = some u := one_newL w x t
theorem one_cell6 (n : Int) : ∀ u : Value, u ∈ [Value.int .u8 n] → u.oneCell' = true := by
  intro u hu
  simp only [List.mem_cons, List.not_mem_nil, or_false] at hu
  subst hu; rfl

set_option maxRecDepth 100000 in
set_option maxHeartbeats 3200000 in
theorem l06Put_any (s : ByteArray) (v : Value) (xs : List ByteArray) (B : Nat) (w : World) (hs : s.size ≤ 24) (hv : Wd.termB s.data.toList = true) (hr : Row w B v (xs.map Value.string)) (hB : B ≤ w.heap.size) (hx : ValsM 1000000 xs) :
    Calls Tryz.prog 35 #[.string s, v] w fun e w' => e = .returned (.string ⟨(putL s.data.toList xs).toArray⟩) ∧ Below w.heap.size w w' := by
  obtain ⟨i0, hi, hz0, hz1, hz2⟩ := info_parts Tryz.infoU8
  obtain ⟨A, c, rfl, hA⟩ := strRow_at hr
  have h4 : xs.length = 4 := hx.1
  obtain ⟨g, o, rfl, hg, hce⟩ := hA (by omega)
  rw [h4]
  have HCE := hidv hce
  have H4 := hidv h4
  have HX := hidv hx
  have HV := hidv hv
  clear hce h4 hx hA hr hv
  have hlit : BytO (w.alloc (.cells #[] 5)) w.heap.size (.slice (some ⟨w.heap.size, 0, none⟩) 0 0) [] := World.ownsRow_lit (e := 5) (size := 1) (base := w.heap.size) w #[] 0 (Nat.le_refl _) (Nat.zero_le _) rfl
  have HLIT := hidv hlit
  clear hlit
  go_enter Tryz.func35, Tryz.ntmps35
  go_wp2
  go_loopw [5, 6] (fun q i wr => ∃ k : Nat, k ≤ s.size ∧ i = .int .i64 k ∧ Hid (BytO wr w.heap.size q (putL (s.data.toList.take k) xs)) ∧ Hid (Below w.heap.size w wr)) (fun _ i _ => s.size - (intOf i).toNat)
  case atStart => exact ⟨0, Nat.zero_le _, rfl, HLIT, hidv (below_al (Below.refl _ _) _)⟩
  case round =>
    obtain ⟨k, hk, rfl, hown, hbe⟩ := hrel
    have hlen := putL_uptoM hs HV.out HX.out k
    have hsz := hbe.out.size
    by_cases hlt : k < s.size
    · have HN := hidv (putL_next xs hlt)
      obtain ⟨l, hlq⟩ : ∃ l, putL (s.data.toList.take k) xs = l := ⟨_, rfl⟩
      rw [hlq] at HN hown hlen
      clear hlq
      have hown' : World.ownsRow wr w.heap.size 5 1 _ l.length (l.map fun b => Value.int .u8 (b.toNat : Int)) := hown.out
      rcases term_at HV.out k hlt with hl | ⟨hl, hu⟩
      · have HSL := hidv (symTxt_letter xs hl)
        have HLE := hidv (fun W => letter_any s[k] W)
        rw [hl] at HLE
        clear hl
        go_wp2_with fail
        refine (HLE.out _).mono ?_
        rintro e w' ⟨rfl, rfl⟩
        go_wp2_with (at_builtin; refine wpList_append_own _ rfl (.tmp 18) (.tmp 22) 95 rfl w.heap.size 5 i0 (.int .u8 0) 1 1 Tryz.underlying95 hi hz0 hz1 hz2 rfl (by decide) _ _ _ rfl (hown'.alloc _) ⟨wr.heap.size, 0, none⟩ 1 1 [.int .u8 s[k].toNat] rfl rfl (one_new6 wr _ _) (one_cell6 _) ?_ ?_ ?_ ?_; (unfold maxLen; omega); omega; exact Nat.le_trans hsz (by simp); intro v1 w1 hown1 hgr1 _)
        go_roundw
        case rel =>
          refine ⟨k + 1, by omega, by go_num, hidv ?_, hidv (growL hbe.out (Nat.le_refl _) hown' hgr1)⟩
          unfold BytO
          rw [HN.out, HSL.out, List.length_append, List.map_append]
          exact hown1
        case measure => simp [intOf]; omega
      · obtain ⟨x, hx4, hxu, _, _⟩ := symV_unknown hl hu
        obtain ⟨hk4, hy0⟩ := HX.out.get x hx4
        have c1 := (hbe.out.cell (p := ⟨g, o + x, none⟩) (by show g < w.heap.size; omega)).trans (HCE.out x (by have := H4.out; omega))
        have hsl := symTxt_unknown (xs := xs) hl hxu hk4
        obtain ⟨y, hy⟩ : ∃ y, xs[x] = y := ⟨_, rfl⟩
        rw [hy] at hsl c1 hy0
        have HSL := hidv hsl
        have HLE := hidv (fun W => letter_any s[k] W)
        have HUN := hidv (fun W => unknown_any s[k] W)
        rw [hl] at HLE
        rw [hxu] at HUN
        clear hsl hl hu hy hk4
        go_wp2_with fail
        refine (HLE.out _).mono ?_
        rintro e w' ⟨rfl, rfl⟩
        go_wp2_with fail
        refine (HUN.out _).mono ?_
        rintro e w' ⟨rfl, rfl⟩
        go_wp2_with (at_builtin; refine Lib.wpList_append_own_string _ rfl _ _ 95 9 rfl w.heap.size 5 i0 Tryz.underlying95 Tryz.underlying9 hi hz0 hz1 hz2 _ _ _ rfl hown' y rfl ?c3 ?c4 ?c5 ?_)
        case c3 => unfold maxLen; omega
        case c4 => omega
        case c5 => omega
        intro v' w2 hown2 hgrow _
        have HBY := hidv (BytO.app hown2 rfl)
        have HB2 := hidv (hbe.out.grown hgrow hsz (fun k hk => (World.ownsRow.lt hown' k hk).1))
        clear hown2 hgrow c1
        go_wp2_with fail
        go_roundw
        case rel =>
          refine ⟨k + 1, by omega, by go_num, hidv ?_, HB2⟩
          rw [HN.out, HSL.out]
          exact HBY.out
        case measure => simp [intOf]; omega
    · obtain rfl : k = s.size := by omega
      have he : putL (s.data.toList.take s.size) xs = putL s.data.toList xs := by rw [List.take_of_length_le (by simp)]
      rw [he] at hown
      have hcv := BytO.conv hown.out
      go_wp2
      go_ret
      exact ⟨rfl, hbe.out⟩

end Go.Proofs.YtdnkdmmockoehaaGreat
