/-
  The steps of a stripped equation, as the model has them: a contract.
-/
import Derived.Test.YtfnlikjdfihggaaSt2
import Derived.Deep.QuietTactic
import Derived.BigQuiet
import Derived.Laws.OwnMore
namespace Go.Proofs.Ytfnlikjdfihggaa
open Go.RowKit Go
set_option linter.unusedVariables false

theorem hd_none {s : ByteArray} (h : s.size = 0) : hd s = ⟨#[]⟩ := by
  have h1 : (hd s).data.toList = [] := by
    unfold hd
    rw [Lib.extract_data]
    rw [show s.data.toList = [] from List.eq_nil_of_length_eq_zero (by simpa using h)]
    simp
  exact lu_ba h1
theorem hd_some {s : ByteArray} (h : 0 < s.size) : hd s = ⟨#[s[0]]⟩ := by
  have h1 : (hd s).data.toList = [s[0]] := by
    unfold hd
    rw [Lib.extract_data, List.drop_zero, Nat.sub_zero, show min s.size 1 = 1 by omega]
    match hs : s.data.toList, (show s.data.toList.length = s.size by simp) with
    | [], h2 => simp at h2; omega
    | a :: l, _ =>
      have := lu_ba hs
      subst this
      rfl
  exact lu_ba h1
theorem emp_none : (⟨#[]⟩ : ByteArray).toList.isEmpty = true := by rw [ByteArray.toList_eq]; rfl
theorem emp_some (c : UInt8) : (⟨#[c]⟩ : ByteArray).toList.isEmpty = false := by rw [ByteArray.toList_eq]; rfl
theorem uB_nil : uB [] = false := rfl
theorem uB_one (c : UInt8) : uB [c] = Wd.isU c := rfl
theorem unN_some (c : UInt8) : unN ⟨#[c]⟩ = Wd.unkI c := rfl
theorem stK_five (a b : ByteArray) : stK a b 5 = (((mkO a ⟨#[]⟩ true ++ mkO b ⟨#[]⟩ true) ++ mkO a b (uB b.data.toList)) ++ mkO a (b ++ a) (!b.toList.isEmpty)) ++ mkO b (a ++ b) (!a.toList.isEmpty) := rfl
theorem stK_nn : stK ⟨#[]⟩ ⟨#[]⟩ 5 = [] := by
  rw [stK_five, emp_none]
  rfl
theorem stK_ns (c : UInt8) : stK ⟨#[]⟩ ⟨#[c]⟩ 5 = if Wd.isU c then [(Wd.unkI c, ⟨#[]⟩)] else [] := by
  rw [stK_five, emp_none, emp_some]
  simp only [mkO, uB_nil, uB_one, unN_some]
  by_cases h : Wd.isU c = true <;> simp [h]
theorem stK_sn (c : UInt8) : stK ⟨#[c]⟩ ⟨#[]⟩ 5 = if Wd.isU c then [(Wd.unkI c, ⟨#[]⟩)] else [] := by
  rw [stK_five, emp_none, emp_some]
  simp only [mkO, uB_nil, uB_one, unN_some]
  by_cases h : Wd.isU c = true <;> simp [h]
theorem stK_ss (c d : UInt8) : stK ⟨#[c]⟩ ⟨#[d]⟩ 5 =
    if Wd.isU c then (if Wd.isU d then [(Wd.unkI c, ⟨#[]⟩), (Wd.unkI d, ⟨#[]⟩), (Wd.unkI c, ⟨#[d]⟩), (Wd.unkI c, ⟨#[d]⟩ ++ ⟨#[c]⟩), (Wd.unkI d, ⟨#[c]⟩ ++ ⟨#[d]⟩)] else [(Wd.unkI c, ⟨#[]⟩), (Wd.unkI c, ⟨#[d]⟩ ++ ⟨#[c]⟩)])
    else (if Wd.isU d then [(Wd.unkI d, ⟨#[]⟩), (Wd.unkI d, ⟨#[c]⟩ ++ ⟨#[d]⟩)] else []) := by
  rw [stK_five, emp_some, emp_some]
  simp only [mkO, uB_one, unN_some]
  by_cases h : Wd.isU c = true <;> by_cases h2 : Wd.isU d = true <;> simp [h, h2]

theorem newN (w : World) (cs : List Value) (t : TypeId) : ∀ (j : Nat) (u : Value), cs[j]? = some u → (w.alloc (.cells cs.toArray t)).cell? ((⟨w.heap.size, 0, none⟩ : Addr).add j) = some u := by
  intro j u hu
  rw [show ((⟨w.heap.size, 0, none⟩ : Addr).add j) = ⟨w.heap.size, j, none⟩ from by unfold Addr.add; simp; intro h; exact h.symm]
  rw [cell_of_row _ _ _ _ _ _ (heap_alloc_new w _), List.getElem?_toArray]
  exact hu

set_option maxRecDepth 100000 in
set_option maxHeartbeats 3200000 in
theorem specSteps_any (l r : ByteArray) (w : World) (hl : l.size ≤ 24) (hr : r.size ≤ 24) :
    Calls Try.prog 33 #[.agg #[.string l, .string r]] w fun e w' => ∃ v, e = .returned v ∧ Stps w' w.heap.size v (stK (hd l) (hd r) 5) ∧ Below w.heap.size w w' := by
  obtain ⟨i0, hi, hz0, hz1, hz2⟩ := info_parts Try.infoSt
  by_cases hl0 : l.size = 0
  · rw [hd_none hl0]
    obtain rfl : l = ⟨#[]⟩ := by
      have h1 : l.data.toList = [] := List.eq_nil_of_length_eq_zero (by simpa using hl0)
      exact lu_ba h1
    have hlr : (⟨#[]⟩ : ByteArray) ++ r = r := by apply ByteArray.ext; rw [ByteArray.data_append]; simp
    by_cases hr0 : r.size = 0
    · rw [hd_none hr0, stK_nn]
      go_enter Try.func33, Try.ntmps33
      go_wp2_with fail
      obtain ⟨w0, hw0⟩ : ∃ w0, w0 = ((w.alloc (.cells #[.string ⟨#[]⟩, .string r] 28)).alloc (.cells #[] 37)) := ⟨_, rfl⟩
      rw [← hw0]
      have hE : Bx w0 w.heap.size 28 #[.string ⟨#[]⟩, .string r] := by rw [hw0]; exact (Bx.new _ _ _).alloc _
      have hO : w0.ownsRow w.heap.size 37 2 (.slice (some ⟨w.heap.size + 1, 0, none⟩) 0 0) 0 [] := by
        rw [hw0]
        have := World.ownsRow_lit (base := w.heap.size) (e := 37) (size := 2) (w.alloc (.cells #[.string ⟨#[]⟩, .string r] 28)) #[] 0 (by simp) (Nat.zero_le _) rfl
        rw [World.size_alloc] at this
        exact this
      have HB0 := hidv (show Below w.heap.size w w0 by rw [hw0]; exact ((Below.refl _ _).alloc (Nat.le_refl _) _).alloc (by simp) _)
      have HO := hidv hO
      obtain ⟨e0, e1⟩ := hE.two
      clear hw0 hE hO
      go_wp2_with fail
      go_ret
      refine ⟨_, rfl, ?_, HB0.out⟩
      exact HO.out
    · have hp : 0 < r.size := by omega
      rw [hd_some hp, stK_ns]
      have cu : ∀ W, Calls Try.prog 43 #[.int .u8 (r[0].toNat : Int)] W fun e w' => e = .returned (.int .i64 (Wd.unkI r[0])) ∧ w' = W := fun W => (unknown_any r[0] W).mono fun e w' ⟨h1, h2⟩ => ⟨h1, h2.symm⟩
      have hneg := unkI_neg r[0]
      obtain ⟨q, hq⟩ : ∃ q, Wd.unkI r[0] = q := ⟨_, rfl⟩
      obtain ⟨u, hu⟩ : ∃ u, Wd.isU r[0] = u := ⟨_, rfl⟩
      rw [hq] at cu hneg ⊢
      rw [hu] at hneg ⊢
      have CU := hidv cu
      clear cu hq hu
      cases u
      · have hqn : q < 0 := by simpa using hneg
        clear hneg
        go_enter Try.func33, Try.ntmps33
        go_wp2_with fail
        obtain ⟨w0, hw0⟩ : ∃ w0, w0 = ((w.alloc (.cells #[.string ⟨#[]⟩, .string r] 28)).alloc (.cells #[] 37)) := ⟨_, rfl⟩
        rw [← hw0]
        have hE : Bx w0 w.heap.size 28 #[.string ⟨#[]⟩, .string r] := by rw [hw0]; exact (Bx.new _ _ _).alloc _
        have hO : w0.ownsRow w.heap.size 37 2 (.slice (some ⟨w.heap.size + 1, 0, none⟩) 0 0) 0 [] := by
          rw [hw0]
          have := World.ownsRow_lit (base := w.heap.size) (e := 37) (size := 2) (w.alloc (.cells #[.string ⟨#[]⟩, .string r] 28)) #[] 0 (by simp) (Nat.zero_le _) rfl
          rw [World.size_alloc] at this
          exact this
        have HB0 := hidv (show Below w.heap.size w w0 by rw [hw0]; exact ((Below.refl _ _).alloc (Nat.le_refl _) _).alloc (by simp) _)
        have HO := hidv hO
        obtain ⟨e0, e1⟩ := hE.two
        clear hw0 hE hO
        refine (CU.out _).mono ?_
        rintro e w0 ⟨rfl, rfl⟩
        go_wp2_with fail
        go_ret
        refine ⟨_, rfl, ?_, HB0.out⟩
        exact HO.out
      · have hqn : ¬ q < 0 := by simpa using hneg
        have hq0 : 0 ≤ q := by omega
        clear hneg
        go_enter Try.func33, Try.ntmps33
        go_wp2_with fail
        obtain ⟨w0, hw0⟩ : ∃ w0, w0 = ((w.alloc (.cells #[.string ⟨#[]⟩, .string r] 28)).alloc (.cells #[] 37)) := ⟨_, rfl⟩
        rw [← hw0]
        have hE : Bx w0 w.heap.size 28 #[.string ⟨#[]⟩, .string r] := by rw [hw0]; exact (Bx.new _ _ _).alloc _
        have hO : w0.ownsRow w.heap.size 37 2 (.slice (some ⟨w.heap.size + 1, 0, none⟩) 0 0) 0 [] := by
          rw [hw0]
          have := World.ownsRow_lit (base := w.heap.size) (e := 37) (size := 2) (w.alloc (.cells #[.string ⟨#[]⟩, .string r] 28)) #[] 0 (by simp) (Nat.zero_le _) rfl
          rw [World.size_alloc] at this
          exact this
        have HB0 := hidv (show Below w.heap.size w w0 by rw [hw0]; exact ((Below.refl _ _).alloc (Nat.le_refl _) _).alloc (by simp) _)
        have HO := hidv hO
        obtain ⟨e0, e1⟩ := hE.two
        clear hw0 hE hO
        refine (CU.out _).mono ?_
        rintro e w0 ⟨rfl, rfl⟩
        go_wp2_with (first | (go_at_call 43; refine (CU.out _).mono ?_; rintro e w0 ⟨rfl, rfl⟩) | (at_builtin; refine wpList_append_own _ rfl (.tmp 34) (.tmp 39) 25 rfl w.heap.size 37 i0 (.agg #[.int .i64 0, .string ⟨#[]⟩]) 2 24 Try.underlying25 hi hz0 hz1 hz2 rfl (by decide) _ _ _ rfl (HO.out.alloc _) ⟨w0.heap.size, 0, none⟩ 1 1 [.int .i64 q, .string ⟨#[]⟩] rfl rfl (newN w0 _ _) (by intro u hu; simp only [List.mem_cons, List.not_mem_nil, or_false] at hu; rcases hu with rfl | rfl <;> rfl) ?_ ?_ ?_ ?_; (unfold maxLen; omega); omega; exact Nat.le_trans HB0.out.size (by simp); intro v1 w4 hown4 hgr4 _))
        go_wp2_with fail
        go_ret
        refine ⟨_, rfl, ?_, ?_⟩
        · exact hown4
        · exact (below_al HB0.out _).grown hgr4 (below_al HB0.out _).size (fun k hk => (HO.out.lt k hk).1)
  · have hlp : 0 < l.size := by omega
    by_cases hr0 : r.size = 0
    · rw [hd_none hr0]
      obtain rfl : r = ⟨#[]⟩ := by
        have h1 : r.data.toList = [] := List.eq_nil_of_length_eq_zero (by simpa using hr0)
        exact lu_ba h1
      have hlr : l ++ (⟨#[]⟩ : ByteArray) = l := by apply ByteArray.ext; rw [ByteArray.data_append]; simp
      have hp : 0 < l.size := by omega
      rw [hd_some hp, stK_sn]
      have cu : ∀ W, Calls Try.prog 43 #[.int .u8 (l[0].toNat : Int)] W fun e w' => e = .returned (.int .i64 (Wd.unkI l[0])) ∧ w' = W := fun W => (unknown_any l[0] W).mono fun e w' ⟨h1, h2⟩ => ⟨h1, h2.symm⟩
      have hneg := unkI_neg l[0]
      obtain ⟨q, hq⟩ : ∃ q, Wd.unkI l[0] = q := ⟨_, rfl⟩
      obtain ⟨u, hu⟩ : ∃ u, Wd.isU l[0] = u := ⟨_, rfl⟩
      rw [hq] at cu hneg ⊢
      rw [hu] at hneg ⊢
      have CU := hidv cu
      clear cu hq hu
      cases u
      · have hqn : q < 0 := by simpa using hneg
        clear hneg
        go_enter Try.func33, Try.ntmps33
        go_wp2_with fail
        obtain ⟨w0, hw0⟩ : ∃ w0, w0 = ((w.alloc (.cells #[.string l, .string ⟨#[]⟩] 28)).alloc (.cells #[] 37)) := ⟨_, rfl⟩
        rw [← hw0]
        have hE : Bx w0 w.heap.size 28 #[.string l, .string ⟨#[]⟩] := by rw [hw0]; exact (Bx.new _ _ _).alloc _
        have hO : w0.ownsRow w.heap.size 37 2 (.slice (some ⟨w.heap.size + 1, 0, none⟩) 0 0) 0 [] := by
          rw [hw0]
          have := World.ownsRow_lit (base := w.heap.size) (e := 37) (size := 2) (w.alloc (.cells #[.string l, .string ⟨#[]⟩] 28)) #[] 0 (by simp) (Nat.zero_le _) rfl
          rw [World.size_alloc] at this
          exact this
        have HB0 := hidv (show Below w.heap.size w w0 by rw [hw0]; exact ((Below.refl _ _).alloc (Nat.le_refl _) _).alloc (by simp) _)
        have HO := hidv hO
        obtain ⟨e0, e1⟩ := hE.two
        clear hw0 hE hO
        refine (CU.out _).mono ?_
        rintro e w0 ⟨rfl, rfl⟩
        go_wp2_with fail
        go_ret
        refine ⟨_, rfl, ?_, HB0.out⟩
        exact HO.out
      · have hqn : ¬ q < 0 := by simpa using hneg
        have hq0 : 0 ≤ q := by omega
        clear hneg
        go_enter Try.func33, Try.ntmps33
        go_wp2_with fail
        obtain ⟨w0, hw0⟩ : ∃ w0, w0 = ((w.alloc (.cells #[.string l, .string ⟨#[]⟩] 28)).alloc (.cells #[] 37)) := ⟨_, rfl⟩
        rw [← hw0]
        have hE : Bx w0 w.heap.size 28 #[.string l, .string ⟨#[]⟩] := by rw [hw0]; exact (Bx.new _ _ _).alloc _
        have hO : w0.ownsRow w.heap.size 37 2 (.slice (some ⟨w.heap.size + 1, 0, none⟩) 0 0) 0 [] := by
          rw [hw0]
          have := World.ownsRow_lit (base := w.heap.size) (e := 37) (size := 2) (w.alloc (.cells #[.string l, .string ⟨#[]⟩] 28)) #[] 0 (by simp) (Nat.zero_le _) rfl
          rw [World.size_alloc] at this
          exact this
        have HB0 := hidv (show Below w.heap.size w w0 by rw [hw0]; exact ((Below.refl _ _).alloc (Nat.le_refl _) _).alloc (by simp) _)
        have HO := hidv hO
        obtain ⟨e0, e1⟩ := hE.two
        clear hw0 hE hO
        refine (CU.out _).mono ?_
        rintro e w0 ⟨rfl, rfl⟩
        go_wp2_with (first | (go_at_call 43; refine (CU.out _).mono ?_; rintro e w0 ⟨rfl, rfl⟩) | (at_builtin; refine wpList_append_own _ rfl (.tmp 34) (.tmp 39) 25 rfl w.heap.size 37 i0 (.agg #[.int .i64 0, .string ⟨#[]⟩]) 2 24 Try.underlying25 hi hz0 hz1 hz2 rfl (by decide) _ _ _ rfl (HO.out.alloc _) ⟨w0.heap.size, 0, none⟩ 1 1 [.int .i64 q, .string ⟨#[]⟩] rfl rfl (newN w0 _ _) (by intro u hu; simp only [List.mem_cons, List.not_mem_nil, or_false] at hu; rcases hu with rfl | rfl <;> rfl) ?_ ?_ ?_ ?_; (unfold maxLen; omega); omega; exact Nat.le_trans HB0.out.size (by simp); intro v1 w4 hown4 hgr4 _))
        go_wp2_with fail
        go_ret
        refine ⟨_, rfl, ?_, ?_⟩
        · exact hown4
        · exact (below_al HB0.out _).grown hgr4 (below_al HB0.out _).size (fun k hk => (HO.out.lt k hk).1)
    · have hrp : 0 < r.size := by omega
      rw [hd_some hlp, hd_some hrp, stK_ss]
      have hlb : ((l.size : Int) == 0) = false := by rw [beq_eq_false_iff_ne]; omega
      have hrb : ((r.size : Int) == 0) = false := by rw [beq_eq_false_iff_ne]; omega
      have i1 : (1 : Int) ≤ (l.size : Int) := by omega
      have i2 : (1 : Int) ≤ (r.size : Int) := by omega
      have xa : l.extract 0 1 = ⟨#[l[0]]⟩ := by have := hd_some hlp; unfold hd at this; rw [show min l.size 1 = 1 by omega] at this; exact this
      have xb : r.extract 0 1 = ⟨#[r[0]]⟩ := by have := hd_some hrp; unfold hd at this; rw [show min r.size 1 = 1 by omega] at this; exact this
      obtain ⟨c, hc⟩ : ∃ c, l[0] = c := ⟨_, rfl⟩
      obtain ⟨d, hd⟩ : ∃ c, r[0] = c := ⟨_, rfl⟩
      rw [hc] at xa ⊢
      rw [hd] at xb ⊢
      have hnc := unkI_neg c
      have hnd := unkI_neg d
      obtain ⟨A, hA⟩ : ∃ A : ByteArray, ⟨#[c]⟩ = A := ⟨_, rfl⟩
      obtain ⟨B, hB⟩ : ∃ A : ByteArray, ⟨#[d]⟩ = A := ⟨_, rfl⟩
      have sA : A.size = 1 := by rw [← hA]; rfl
      have sB : B.size = 1 := by rw [← hB]; rfl
      have jA : (0 : Int) < (A.size : Int) := by omega
      have jB : (0 : Int) < (B.size : Int) := by omega
      have pA : 0 < A.size := by omega
      have pB : 0 < B.size := by omega
      have gA : A[0] = c := by subst hA; rfl
      have gB : B[0] = d := by subst hB; rfl
      have cu : ∀ W, Calls Try.prog 43 #[.int .u8 (A[0].toNat : Int)] W fun e w' => e = .returned (.int .i64 (Wd.unkI c)) ∧ w' = W := fun W => by rw [gA]; exact (unknown_any c W).mono fun e w' ⟨h1, h2⟩ => ⟨h1, h2.symm⟩
      have cv : ∀ W, Calls Try.prog 43 #[.int .u8 (B[0].toNat : Int)] W fun e w' => e = .returned (.int .i64 (Wd.unkI d)) ∧ w' = W := fun W => by rw [gB]; exact (unknown_any d W).mono fun e w' ⟨h1, h2⟩ => ⟨h1, h2.symm⟩
      rw [hA, hB]
      rw [hA] at xa
      rw [hB] at xb
      obtain ⟨q, hq⟩ : ∃ q, Wd.unkI c = q := ⟨_, rfl⟩
      obtain ⟨p, hp⟩ : ∃ q, Wd.unkI d = q := ⟨_, rfl⟩
      obtain ⟨u, hu⟩ : ∃ u, Wd.isU c = u := ⟨_, rfl⟩
      obtain ⟨v, hv⟩ : ∃ u, Wd.isU d = u := ⟨_, rfl⟩
      rw [hq] at cu hnc ⊢
      rw [hp] at cv hnd ⊢
      rw [hu] at hnc ⊢
      rw [hv] at hnd ⊢
      have CU := hidv cu
      have CV := hidv cv
      clear cu cv hq hp hu hv hA hB gA gB hc hd
      have k1 : ¬ (9223372036854775807 < B.size + A.size) := by omega
      have k2 : ¬ (9223372036854775807 < A.size + B.size) := by omega
      cases u
      · cases v
        · have qn : q < 0 := by simpa using hnc
          clear hnc
          have pn : p < 0 := by simpa using hnd
          clear hnd
          go_enter Try.func33, Try.ntmps33
          go_wp2_with fail
          obtain ⟨w0, hw0⟩ : ∃ w0, w0 = ((w.alloc (.cells #[.string l, .string r] 28)).alloc (.cells #[] 37)) := ⟨_, rfl⟩
          rw [← hw0]
          have hE : Bx w0 w.heap.size 28 #[.string l, .string r] := by rw [hw0]; exact (Bx.new _ _ _).alloc _
          have hO : w0.ownsRow w.heap.size 37 2 (.slice (some ⟨w.heap.size + 1, 0, none⟩) 0 0) 0 [] := by
            rw [hw0]
            have := World.ownsRow_lit (base := w.heap.size) (e := 37) (size := 2) (w.alloc (.cells #[.string l, .string r] 28)) #[] 0 (by simp) (Nat.zero_le _) rfl
            rw [World.size_alloc] at this
            exact this
          have HB0 := hidv (show Below w.heap.size w w0 by rw [hw0]; exact ((Below.refl _ _).alloc (Nat.le_refl _) _).alloc (by simp) _)
          have HO := hidv hO
          obtain ⟨e0, e1⟩ := hE.two
          clear hw0 hE hO
          refine (CU.out _).mono ?_
          rintro e w0 ⟨rfl, rfl⟩
          go_wp2_with fail
          refine (CV.out _).mono ?_
          rintro e w0 ⟨rfl, rfl⟩
          go_wp2_with fail
          go_ret
          refine ⟨_, rfl, ?_, HB0.out⟩
          exact HO.out
          
        · have qn : q < 0 := by simpa using hnc
          clear hnc
          have pn : ¬ p < 0 := by simpa using hnd
          clear hnd
          have p0 : 0 ≤ p := by omega
          go_enter Try.func33, Try.ntmps33
          go_wp2_with fail
          obtain ⟨w0, hw0⟩ : ∃ w0, w0 = ((w.alloc (.cells #[.string l, .string r] 28)).alloc (.cells #[] 37)) := ⟨_, rfl⟩
          rw [← hw0]
          have hE : Bx w0 w.heap.size 28 #[.string l, .string r] := by rw [hw0]; exact (Bx.new _ _ _).alloc _
          have hO : w0.ownsRow w.heap.size 37 2 (.slice (some ⟨w.heap.size + 1, 0, none⟩) 0 0) 0 [] := by
            rw [hw0]
            have := World.ownsRow_lit (base := w.heap.size) (e := 37) (size := 2) (w.alloc (.cells #[.string l, .string r] 28)) #[] 0 (by simp) (Nat.zero_le _) rfl
            rw [World.size_alloc] at this
            exact this
          have HB0 := hidv (show Below w.heap.size w w0 by rw [hw0]; exact ((Below.refl _ _).alloc (Nat.le_refl _) _).alloc (by simp) _)
          have HO := hidv hO
          obtain ⟨e0, e1⟩ := hE.two
          clear hw0 hE hO
          refine (CU.out _).mono ?_
          rintro e w0 ⟨rfl, rfl⟩
          go_wp2_with fail
          refine (CV.out _).mono ?_
          rintro e w0 ⟨rfl, rfl⟩
          go_wp2_with (first |  (at_builtin; refine wpList_append_own _ rfl (.tmp 78) (.tmp 86) 25 rfl w.heap.size 37 i0 (.agg #[.int .i64 0, .string ⟨#[]⟩]) 2 24 Try.underlying25 hi hz0 hz1 hz2 rfl (by decide) _ _ _ rfl (HO.out.alloc _) ⟨w0.heap.size, 0, none⟩ 2 2 [.int .i64 p, .string ⟨#[]⟩, .int .i64 p, .string (A ++ B)] rfl rfl (newN w0 _ _) (by intro u hu; simp only [List.mem_cons, List.not_mem_nil, or_false] at hu; rcases hu with rfl | rfl | rfl | rfl <;> rfl) ?_ ?_ ?_ ?_; (unfold maxLen; omega); omega; exact Nat.le_trans HB0.out.size (by simp); intro v1 w4 hown4 hgr4 _))
          go_wp2_with fail
          go_ret
          refine ⟨_, rfl, ?_, ?_⟩
          · exact hown4
          · exact (below_al HB0.out _).grown hgr4 (below_al HB0.out _).size (fun k hk => (HO.out.lt k hk).1)
          
      · cases v
        · have qn : ¬ q < 0 := by simpa using hnc
          clear hnc
          have q0 : 0 ≤ q := by omega
          have pn : p < 0 := by simpa using hnd
          clear hnd
          go_enter Try.func33, Try.ntmps33
          go_wp2_with fail
          obtain ⟨w0, hw0⟩ : ∃ w0, w0 = ((w.alloc (.cells #[.string l, .string r] 28)).alloc (.cells #[] 37)) := ⟨_, rfl⟩
          rw [← hw0]
          have hE : Bx w0 w.heap.size 28 #[.string l, .string r] := by rw [hw0]; exact (Bx.new _ _ _).alloc _
          have hO : w0.ownsRow w.heap.size 37 2 (.slice (some ⟨w.heap.size + 1, 0, none⟩) 0 0) 0 [] := by
            rw [hw0]
            have := World.ownsRow_lit (base := w.heap.size) (e := 37) (size := 2) (w.alloc (.cells #[.string l, .string r] 28)) #[] 0 (by simp) (Nat.zero_le _) rfl
            rw [World.size_alloc] at this
            exact this
          have HB0 := hidv (show Below w.heap.size w w0 by rw [hw0]; exact ((Below.refl _ _).alloc (Nat.le_refl _) _).alloc (by simp) _)
          have HO := hidv hO
          obtain ⟨e0, e1⟩ := hE.two
          clear hw0 hE hO
          refine (CU.out _).mono ?_
          rintro e w0 ⟨rfl, rfl⟩
          go_wp2_with fail
          refine (CV.out _).mono ?_
          rintro e w0 ⟨rfl, rfl⟩
          go_wp2_with (first |  (at_builtin; refine wpList_append_own _ rfl (.tmp 61) (.tmp 69) 25 rfl w.heap.size 37 i0 (.agg #[.int .i64 0, .string ⟨#[]⟩]) 2 24 Try.underlying25 hi hz0 hz1 hz2 rfl (by decide) _ _ _ rfl (HO.out.alloc _) ⟨w0.heap.size, 0, none⟩ 2 2 [.int .i64 q, .string ⟨#[]⟩, .int .i64 q, .string (B ++ A)] rfl rfl (newN w0 _ _) (by intro u hu; simp only [List.mem_cons, List.not_mem_nil, or_false] at hu; rcases hu with rfl | rfl | rfl | rfl <;> rfl) ?_ ?_ ?_ ?_; (unfold maxLen; omega); omega; exact Nat.le_trans HB0.out.size (by simp); intro v1 w4 hown4 hgr4 _))
          go_wp2_with fail
          go_ret
          refine ⟨_, rfl, ?_, ?_⟩
          · exact hown4
          · exact (below_al HB0.out _).grown hgr4 (below_al HB0.out _).size (fun k hk => (HO.out.lt k hk).1)
          
        · have qn : ¬ q < 0 := by simpa using hnc
          clear hnc
          have q0 : 0 ≤ q := by omega
          have pn : ¬ p < 0 := by simpa using hnd
          clear hnd
          have p0 : 0 ≤ p := by omega
          go_enter Try.func33, Try.ntmps33
          go_wp2_with fail
          obtain ⟨w0, hw0⟩ : ∃ w0, w0 = ((w.alloc (.cells #[.string l, .string r] 28)).alloc (.cells #[] 37)) := ⟨_, rfl⟩
          rw [← hw0]
          have hE : Bx w0 w.heap.size 28 #[.string l, .string r] := by rw [hw0]; exact (Bx.new _ _ _).alloc _
          have hO : w0.ownsRow w.heap.size 37 2 (.slice (some ⟨w.heap.size + 1, 0, none⟩) 0 0) 0 [] := by
            rw [hw0]
            have := World.ownsRow_lit (base := w.heap.size) (e := 37) (size := 2) (w.alloc (.cells #[.string l, .string r] 28)) #[] 0 (by simp) (Nat.zero_le _) rfl
            rw [World.size_alloc] at this
            exact this
          have HB0 := hidv (show Below w.heap.size w w0 by rw [hw0]; exact ((Below.refl _ _).alloc (Nat.le_refl _) _).alloc (by simp) _)
          have HO := hidv hO
          obtain ⟨e0, e1⟩ := hE.two
          clear hw0 hE hO
          refine (CU.out _).mono ?_
          rintro e w0 ⟨rfl, rfl⟩
          go_wp2_with fail
          refine (CV.out _).mono ?_
          rintro e w0 ⟨rfl, rfl⟩
          go_wp2_with (first |  (at_builtin; refine wpList_append_own _ rfl (.tmp 91) (.tmp 109) 25 rfl w.heap.size 37 i0 (.agg #[.int .i64 0, .string ⟨#[]⟩]) 2 24 Try.underlying25 hi hz0 hz1 hz2 rfl (by decide) _ _ _ rfl (HO.out.alloc _) ⟨w0.heap.size, 0, none⟩ 5 5 [.int .i64 q, .string ⟨#[]⟩, .int .i64 p, .string ⟨#[]⟩, .int .i64 q, .string B, .int .i64 q, .string (B ++ A), .int .i64 p, .string (A ++ B)] rfl rfl (newN w0 _ _) (by intro u hu; simp only [List.mem_cons, List.not_mem_nil, or_false] at hu; rcases hu with rfl | rfl | rfl | rfl | rfl | rfl | rfl | rfl | rfl | rfl <;> rfl) ?_ ?_ ?_ ?_; (unfold maxLen; omega); omega; exact Nat.le_trans HB0.out.size (by simp); intro v1 w4 hown4 hgr4 _))
          go_wp2_with fail
          go_ret
          refine ⟨_, rfl, ?_, ?_⟩
          · exact hown4
          · exact (below_al HB0.out _).grown hgr4 (below_al HB0.out _).size (fun k hk => (HO.out.lt k hk).1)
          

end Go.Proofs.Ytfnlikjdfihggaa
