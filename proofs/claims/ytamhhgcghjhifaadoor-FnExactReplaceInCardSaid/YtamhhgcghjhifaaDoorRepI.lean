/-
  Replace, of the program, at a sign: a contract; and the model's own replacing.
-/
import Derived.Test.YtamhhgcghjhifaaDoorRep
import Derived.Test.YtamhhgcghjhifaaDoorMl
import Derived.Test.YtamhhgcghjhifaaDoorLU
namespace Go.Proofs.YtamhhgcghjhifaaDoor
open Go.RowKit Go
set_option linter.unusedVariables false

theorem termB_24 {s : ByteArray} (h : Wd.termB s.data.toList = true) : s.size ≤ 24 := by
  have := Wd.termB_len h
  simpa using this

theorem replaceAll_any (t y : ByteArray) (c : UInt8) (w : World) (ml : ML w) (ht : t.size ≤ 24) (hy : y.size ≤ 24) :
    Calls Tryd.prog 19 #[.string t, .string ⟨#[c]⟩, .string y] w fun e w' => e = .returned (.string ⟨⟨repL c y.data.toList t.data.toList⟩⟩) ∧ Below w.heap.size w w' := by
  obtain ⟨m, hm⟩ := ml
  have hcnt : Lib.countB t ⟨#[c]⟩ ≤ 24 := by
    have h1 := Lib.countB_mul_le ⟨#[c]⟩ (Nat.le_refl 1) t.size t (Nat.le_refl _)
    have h2 : (⟨#[c]⟩ : ByteArray).size = 1 := rfl
    rw [h2] at h1
    omega
  have hb : t.size + Lib.countB t ⟨#[c]⟩ * y.size ≤ 140737488355328 := by
    have := Nat.mul_le_mul hcnt hy
    omega
  have h := Tryd.strings_ReplaceAll t ⟨#[c]⟩ y m w (by omega) hm (Nat.le_refl 1) hb
  refine h.mono ?_
  rintro e w' ⟨rfl, hbw⟩
  refine ⟨?_, hbw⟩
  rw [show (⟨#[c]⟩ : ByteArray).data.toList = [c] from rfl, replaceAll_one]

/-- What a replacement comes to: a term, or too long a one. -/
def repV (t y : ByteArray) (c : UInt8) : ByteArray := if (repL c y.data.toList t.data.toList).length ≤ 24 then ⟨⟨repL c y.data.toList t.data.toList⟩⟩ else ⟨#[]⟩
def repC (t y : ByteArray) (c : UInt8) : Int := if (repL c y.data.toList t.data.toList).length ≤ 24 then 0 else 3

set_option maxHeartbeats 400000 in
theorem implReplace_any (t y : ByteArray) (c : UInt8) (w : World) (ml : ML w) (ht : Wd.termB t.data.toList = true) (hy : Wd.termB y.data.toList = true) (hc : Wd.isU c = true) :
    Calls Tryd.prog 6 #[.string t, .string ⟨#[c]⟩, .string y] w fun e w' => e = .returned (.tuple #[.string (repV t y c), .int .i64 (repC t y c)]) ∧ Below w.heap.size w w' := by
  have hts := termB_24 ht
  have hys := termB_24 hy
  have c1 := fun W => implValidTerm_any t W (by unfold maxLen; omega)
  have c2 := fun W => implValidTerm_any y W (by unfold maxLen; omega)
  have c3 := fun W => isU_any ⟨#[c]⟩ W (by have : (⟨#[c]⟩ : ByteArray).size = 1 := rfl; unfold maxLen; omega)
  have c4 := fun W hW => replaceAll_any t y c W hW hts hys
  rw [ht] at c1
  rw [hy] at c2
  rw [show uB (⟨#[c]⟩ : ByteArray).data.toList = true from hc] at c3
  have hbd := repL_bound c y.data.toList t.data.toList
  unfold repV repC
  obtain ⟨r, hr⟩ : ∃ r : ByteArray, ⟨⟨repL c y.data.toList t.data.toList⟩⟩ = r := ⟨_, rfl⟩
  have hrl : (repL c y.data.toList t.data.toList).length = r.size := by rw [← hr]; rfl
  rw [hrl] at hbd ⊢
  rw [hr] at c4 ⊢
  have hr6 : r.size ≤ 600 := by
    have h1 : t.data.toList.length = t.size := by simp
    have h2 : y.data.toList.length = y.size := by simp
    rw [h1, h2] at hbd
    have := Nat.mul_le_mul hts (show y.size + 1 ≤ 25 by omega)
    omega
  obtain ⟨s, hs⟩ : ∃ s : ByteArray, ⟨#[c]⟩ = s := ⟨_, rfl⟩
  rw [hs] at c3 c4 ⊢
  have C1 := hidv c1
  have C2 := hidv c2
  have C3 := hidv c3
  have C4 := hidv c4
  clear c1 c2 c3 c4 ht hy hc hbd hrl hr hs
  by_cases h24 : r.size ≤ 24
  · rw [if_pos h24, if_pos h24]
    go_enter Tryd.func6, Tryd.ntmps6
    go_wp2_with fail
    refine (C1.out _).mono ?_
    rintro e w' ⟨rfl, rfl⟩
    go_wp2_with fail
    refine (C2.out _).mono ?_
    rintro e w' ⟨rfl, rfl⟩
    go_wp2_with fail
    refine (C3.out _).mono ?_
    rintro e w' ⟨rfl, rfl⟩
    go_wp2_with fail
    refine (C4.out _ ml).mono ?_
    rintro e w1 ⟨rfl, hb1⟩
    go_wp2_with fail
    go_ret2
    exact ⟨rfl, hb1⟩
  · rw [if_neg h24, if_neg h24]
    go_enter Tryd.func6, Tryd.ntmps6
    go_wp2_with fail
    refine (C1.out _).mono ?_
    rintro e w' ⟨rfl, rfl⟩
    go_wp2_with fail
    refine (C2.out _).mono ?_
    rintro e w' ⟨rfl, rfl⟩
    go_wp2_with fail
    refine (C3.out _).mono ?_
    rintro e w' ⟨rfl, rfl⟩
    go_wp2_with fail
    refine (C4.out _ ml).mono ?_
    rintro e w1 ⟨rfl, hb1⟩
    go_wp2_with fail
    go_ret2
    exact ⟨rfl, hb1⟩

theorem repL_next {t : ByteArray} (c : UInt8) (new : List UInt8) {k : Nat} (hk : k < t.size) : repL c new (t.data.toList.take (k + 1)) = repL c new (t.data.toList.take k) ++ (if t[k] = c then new else [t[k]]) := by
  rw [List.take_succ_eq_append_getElem (by simpa using hk), repL_app, repL_cons, repL_nil, List.append_nil]
  rfl
theorem extract_oneR {s : ByteArray} {k : Nat} (hk : k < s.size) : (s.extract k (k + 1)).data.toList = [s[k]] := by
  rw [Lib.extract_data, List.drop_eq_getElem_cons (by simpa using hk), show k + 1 - k = 1 by omega]
  rfl
theorem slice_oneR (s : ByteArray) {k : Nat} (hk : k < s.size) (w : World) : (Instr.slice 9 (.string s) (some (.int .i64 (k : Int))) (some (.int .i64 ((k : Int) + 1))) none).run Tryd.prog w = .ok (.string (s.extract k (k + 1))) w := by
  rw [run_slice_string w 9 s .i64 .i64 _ _ Tryd.underlying9 (by omega) (by omega) (by omega), show ((k : Int) + 1).toNat = k + 1 by omega, Int.toNat_natCast]

set_option maxHeartbeats 800000 in
theorem specReplace_any (t y : ByteArray) (c : UInt8) (w : World) (ht : t.size ≤ 24) (hy : y.size ≤ 24) :
    Calls Tryd.prog 16 #[.string t, .int .u8 (c.toNat : Int), .string y] w fun e w' => e = .returned (.string ⟨⟨repL c y.data.toList t.data.toList⟩⟩) ∧ w' = w := by
  have hsl := fun k hk W => slice_oneR t (k := k) hk W
  have HSL := hidv hsl
  have hbd := fun k => repL_bound c y.data.toList (t.data.toList.take k)
  have HBD := hidv hbd
  have hyl : y.data.toList.length = y.size := by simp
  obtain ⟨R, hR⟩ : ∃ R : ByteArray, ⟨⟨repL c y.data.toList t.data.toList⟩⟩ = R := ⟨_, rfl⟩
  rw [hR]
  have HR := hidv hR
  clear hsl hbd hR
  go_enter Tryd.func16, Tryd.ntmps16
  go_wp2
  go_loop [7, 8] (fun o i => ∃ (k : Nat) (x : ByteArray), k ≤ t.size ∧ i = .int .i64 (k : Int) ∧ o = .string x ∧ Hid (x.data.toList = repL c y.data.toList (t.data.toList.take k))) (fun _ i => t.size - (intOf i).toNat)
  case atStart => exact ⟨0, ⟨#[]⟩, Nat.zero_le _, rfl, rfl, hidv (by rw [List.take_zero]; rfl)⟩
  case round =>
    obtain ⟨k, x, hk, rfl, rfl, hx⟩ := hrel
    by_cases hlt : k < t.size
    · have hxs : x.size ≤ 600 := by
        have h1 : x.data.toList.length = x.size := by simp
        have h2 := HBD.out k
        rw [← hx.out, h1, hyl, List.length_take] at h2
        have := Nat.mul_le_mul (show min k t.data.toList.length ≤ 24 by omega) (show y.size + 1 ≤ 25 by omega)
        omega
      have hn := repL_next c y.data.toList hlt
      by_cases he : t[k] = c
      · rw [if_pos he] at hn
        have HN := hidv hn
        have hb1 : ((t[k].toNat : Int) == (c.toNat : Int)) = true := by rw [he]; simp
        have k1 : ¬ (9223372036854775807 < x.size + y.size) := by omega
        clear hn
        go_wp2
        go_round
        case rel => exact ⟨k + 1, _, by omega, by go_num, rfl, hidv (by rw [HN.out, ← hx.out, ByteArray.data_append, Array.toList_append])⟩
        case measure => simp [intOf]; omega
      · rw [if_neg he] at hn
        have HN := hidv hn
        have hb1 : ((t[k].toNat : Int) == (c.toNat : Int)) = false := by
          rw [beq_eq_false_iff_ne]
          intro h
          exact he (UInt8.toNat_inj.1 (by omega))
        have hsl := HSL.out k hlt
        have hes : (t.extract k (k + 1)).size = 1 := by rw [ByteArray.size_extract]; omega
        have heb := extract_oneR hlt
        obtain ⟨z, hz⟩ : ∃ z, t.extract k (k + 1) = z := ⟨_, rfl⟩
        rw [hz] at hsl hes heb
        have HE := hidv heb
        have k1 : ¬ (9223372036854775807 < x.size + z.size) := by omega
        have k2 : ¬ (9223372036854775807 < x.size + 1) := by omega
        clear hn heb hz
        go_wp2
        go_round
        case rel => exact ⟨k + 1, _, by omega, by go_num, rfl, hidv (by rw [HN.out, ← hx.out, ByteArray.data_append, Array.toList_append, HE.out])⟩
        case measure => simp [intOf]; omega
    · obtain rfl : k = t.size := by omega
      have hfin : (⟨⟨repL c y.data.toList t.data.toList⟩⟩ : ByteArray) = x := by
        have h := hx.out
        rw [List.take_of_length_le (by simp)] at h
        rw [← h]
      have hRx : R = x := HR.out.symm.trans hfin
      subst hRx
      go_wp2
      go_ret
      exact ⟨rfl, rfl⟩

end Go.Proofs.YtamhhgcghjhifaaDoor
