/-
  The law on DecodedWord, walked.
-/
import Derived.Test.YtpjflakialomaaaDw7
import Derived.Test.YtpjflakialomaaaStr2
import Derived.Test.YtpjflakialomaaaMem
import Derived.Test.YtpjflakialomaaaRow2
import Derived.Test.YtpjflakialomaaaCopy
namespace Go.Proofs.Ytpjflakialomaaa
open Go.RowKit Go
set_option linter.unusedVariables false

set_option maxRecDepth 100000 in
set_option maxHeartbeats 1600000 in
theorem law_FnExactDecodedWord (v_xs : Value) (xs : List ByteArray) (v_ns : Value) (ns : List Int) (w : World) (hv_xs : Row w w.heap.size v_xs (xs.map Value.string)) (hw_xs : xs.length ≤ maxLen) (hs_xs : ∀ s ∈ xs, s.size ≤ maxLen) (hv_ns : Row w w.heap.size v_ns (ns.map (Value.int .i64))) (hw_ns : ns.length ≤ maxLen) :
    Calls Try.prog 7 #[v_xs, v_ns] w fun e w' => e = .returned (.bool true) ∧ Below w.heap.size w w' := by
  have HV_xs := hidv hv_xs
  have HL_xs := hidv hw_xs
  have HS_xs := hidv hs_xs
  have HV_ns := hidv hv_ns
  have HL_ns := hidv hw_ns
  obtain ⟨y, c, hd⟩ := dwR_ex xs ns
  have HD := hidv hd
  clear hd
  clear hv_xs hw_xs hs_xs hv_ns hw_ns
  obtain ⟨n_ns, hn_ns⟩ : ∃ n, ns.length = n := ⟨_, rfl⟩
  have hlo_ns : ∃ A c, v_ns = .slice A n_ns c := by obtain ⟨A, c, hvv, _⟩ := HV_ns.out; rw [List.length_map, hn_ns] at hvv; exact ⟨A, c, hvv⟩
  obtain ⟨A_ns, c_ns, rfl⟩ := hlo_ns
  have HN_ns := hidv hn_ns
  clear hn_ns
  by_cases hbig_ns : (1048576 : Int) < (n_ns : Int)
  · go_enter Try.func7, Try.ntmps7
    go_wp2_with fail
    go_ret
    exact ⟨rfl, Below.refl _ _⟩
  go_enter Try.func7, Try.ntmps7
  have BL0 : Hid (Below w.heap.size w w) := hidv (Below.refl _ _)
  go_wp2_with fail
  refine (szStrs2_any _ xs _ _ HV_xs.out HL_xs.out HS_xs.out 1048576 (by omega) (by omega)).mono ?_
  rintro e9 w1 ⟨r0, rfl, hr0, hb1⟩
  have s1 := hb1.size
  have BL1 := hidv (below_on BL0.out hb1)
  have HVxs1 := hidv (HV_xs.out.below (hb1.mono (by omega)))
  have HVns1 := hidv (HV_ns.out.below (hb1.mono (by omega)))
  clear hb1
  have HRR0 := hidv hr0
  clear hr0
  by_cases hr00 : r0 < 0
  · go_wp2_with fail
    go_ret
    exact ⟨rfl, BL1.out⟩
  have hrb0 := HRR0.out (by omega)
  have hl_xs : xs.length ≤ 1048576 := by omega
  have hl_ns : ns.length ≤ 1048576 := by have := HN_ns.out; omega
  go_wp2_with fail
  refine (toStrs_any _ xs _ _ HVxs1.out (by omega) (by omega)).mono ?_
  rintro e9 w2 ⟨uAxs, rfl, hAxs, hb2⟩
  have s2 := hb2.size
  have BL2 := hidv (below_on BL1.out hb2)
  have HVxs2 := hidv (HVxs1.out.below (hb2.mono (by omega)))
  have HVns2 := hidv (HVns1.out.below (hb2.mono (by omega)))
  have HAxs2 := hidv (hAxs)
  clear hb2 hAxs
  go_wp2_with fail
  refine (toInts_any _ ns _ _ HVns2.out (by omega) (by omega)).mono ?_
  rintro e9 w3 ⟨uAns, rfl, hAns, hb3⟩
  have s3 := hb3.size
  have BL3 := hidv (below_on BL2.out hb3)
  have HVxs3 := hidv (HVxs2.out.below (hb3.mono (by omega)))
  have HVns3 := hidv (HVns2.out.below (hb3.mono (by omega)))
  have HAxs3 := hidv (HAxs2.out.below hb3)
  have HAns3 := hidv (hAns)
  clear hb3 hAns
  go_wp2_with fail
  refine (specDw_any _ _ xs ns _ _ _ HAxs3.out.row (by omega) HAns3.out.row (by omega) hl_xs hl_ns HS_xs.out y c HD.out).mono ?_
  rintro e9 w4 ⟨rfl, hb4⟩
  have s4 := hb4.size
  have BL4 := hidv (below_on BL3.out hb4)
  have HVxs4 := hidv (HVxs3.out.below (hb4.mono (by omega)))
  have HVns4 := hidv (HVns3.out.below (hb4.mono (by omega)))
  clear hb4
  go_wp2_with fail
  refine (toStrs_any _ xs _ _ HVxs4.out (by omega) (by omega)).mono ?_
  rintro e9 w5 ⟨uXxs, rfl, hXxs, hb5⟩
  have s5 := hb5.size
  have BL5 := hidv (below_on BL4.out hb5)
  have HVxs5 := hidv (HVxs4.out.below (hb5.mono (by omega)))
  have HVns5 := hidv (HVns4.out.below (hb5.mono (by omega)))
  have HXxs5 := hidv (hXxs)
  clear hb5 hXxs
  go_wp2_with fail
  refine (toInts_any _ ns _ _ HVns5.out (by omega) (by omega)).mono ?_
  rintro e9 w6 ⟨uXns, rfl, hXns, hb6⟩
  have s6 := hb6.size
  have BL6 := hidv (below_on BL5.out hb6)
  have HVxs6 := hidv (HVxs5.out.below (hb6.mono (by omega)))
  have HVns6 := hidv (HVns5.out.below (hb6.mono (by omega)))
  have HXxs6 := hidv (HXxs5.out.below hb6)
  have HXns6 := hidv (hXns)
  clear hb6 hXns
  go_wp2_with fail
  refine (implDw_any _ _ xs ns _ _ _ HXxs6.out.row (by omega) HXns6.out.row (by omega) hl_xs hl_ns HS_xs.out y c HD.out).mono ?_
  rintro e9 w7 ⟨rfl, hb7⟩
  have s7 := hb7.size
  have BL7 := hidv (below_on BL6.out hb7)
  have HVxs7 := hidv (HVxs6.out.below (hb7.mono (by omega)))
  have HVns7 := hidv (HVns6.out.below (hb7.mono (by omega)))
  have HXxs7 := hidv (HXxs6.out.below hb7)
  have HXns7 := hidv (HXns6.out.below hb7)
  clear hb7
  go_wp2_with fail
  refine (toStrs_any _ xs _ _ HVxs7.out (by omega) (by omega)).mono ?_
  rintro e9 w8 ⟨uExs, rfl, hExs, hb8⟩
  have s8 := hb8.size
  have BL8 := hidv (below_on BL7.out hb8)
  have HVxs8 := hidv (HVxs7.out.below (hb8.mono (by omega)))
  have HVns8 := hidv (HVns7.out.below (hb8.mono (by omega)))
  have HXxs8 := hidv (HXxs7.out.below hb8)
  have HXns8 := hidv (HXns7.out.below hb8)
  have HExs8 := hidv (hExs)
  clear hb8 hExs
  go_wp2_with fail
  refine (eqStrs_same HXxs8.out.row HExs8.out.row (by omega)).mono ?_
  rintro e9 w9 ⟨rfl, hb9⟩
  have s9 := hb9.size
  have BL9 := hidv (below_on BL8.out hb9)
  have HVxs9 := hidv (HVxs8.out.below (hb9.mono (by omega)))
  have HVns9 := hidv (HVns8.out.below (hb9.mono (by omega)))
  have HXxs9 := hidv (HXxs8.out.below hb9)
  have HXns9 := hidv (HXns8.out.below hb9)
  clear hb9
  go_wp2_with fail
  refine (toInts_any _ ns _ _ HVns9.out (by omega) (by omega)).mono ?_
  rintro e9 w10 ⟨uEns, rfl, hEns, hb10⟩
  have s10 := hb10.size
  have BL10 := hidv (below_on BL9.out hb10)
  have HVxs10 := hidv (HVxs9.out.below (hb10.mono (by omega)))
  have HVns10 := hidv (HVns9.out.below (hb10.mono (by omega)))
  have HXxs10 := hidv (HXxs9.out.below hb10)
  have HXns10 := hidv (HXns9.out.below hb10)
  have HEns10 := hidv (hEns)
  clear hb10 hEns
  go_wp2_with fail
  refine (eqInts_same HXns10.out.row HEns10.out.row (by omega)).mono ?_
  rintro e9 w11 ⟨rfl, hb11⟩
  have s11 := hb11.size
  have BL11 := hidv (below_on BL10.out hb11)
  have HVxs11 := hidv (HVxs10.out.below (hb11.mono (by omega)))
  have HVns11 := hidv (HVns10.out.below (hb11.mono (by omega)))
  have HXxs11 := hidv (HXxs10.out.below hb11)
  have HXns11 := hidv (HXns10.out.below hb11)
  clear hb11
  go_wp2_with fail
  go_ret
  exact ⟨rfl, BL11.out⟩

end Go.Proofs.Ytpjflakialomaaa
