/-
  A word that the laws draw: a contract.
-/
import Derived.Test.YtebhifhcknbgaaaSrc
import Derived.Laws.BytesArg
namespace Go.Proofs.Ytebhifhcknbgaaa
open Go.RowKit Go

theorem Try.infoU8 : (Try.prog.info? 5).map (fun i => (i.zero, i.size, i.bytes)) = some (some (.int .u8 0), 1, 1) := by kernel_rfl

def txtOf : Value → ByteArray
  | .string s => s
  | _ => ⟨#[]⟩
/-- The letters that have been drawn. -/
def LetR (w : World) (base : Nat) (v : Value) (xs : List Int) : Prop := w.ownsRow base 5 1 v xs.length (xs.map (Value.int .u8))

theorem ne_of_src {w : World} {base b k : Nat} {v cv : Value} {xs : List Value} {n : Nat} (h : w.ownsRow base 5 1 v n xs) (hs : SrcAt w b cv k) : v.ownBlock ≠ some b := by
  obtain ⟨seed, _, _, hb⟩ := hs
  rcases h.2 with ⟨rfl, _⟩ | ⟨g, cap, cur, rfl, _, hg, _⟩
  · simp [Value.ownBlock]
  · intro e
    simp only [Value.ownBlock, Option.some.injEq] at e
    subst e
    rw [hg] at hb
    simp at hb
theorem LetR.kept {w w' : World} {base b : Nat} {v : Value} {xs : List Int} (h : LetR w base v xs) (hg : w.grownBy w' (some b)) (hne : v.ownBlock ≠ some b) : LetR w' base v xs := by
  have h' : w.ownsRow base 5 1 v xs.length (xs.map (Value.int .u8)) := h
  exact h'.kept hg (.inr hne)
theorem SrcAt.grown {w w' : World} {b k : Nat} {v : Value} {row : Option Nat} (h : SrcAt w b v k) (hg : w.grownBy w' row) (hne : row ≠ some b) : SrcAt w' b v k := by
  obtain ⟨seed, h0, h1, hb⟩ := h
  have hlt : b < w.heap.size := by
    rcases Nat.lt_or_ge b w.heap.size with h' | h'
    · exact h'
    · simp [Array.getElem?_eq_none h'] at hb
  exact ⟨seed, h0, h1, (hg.block b hlt (fun e => hne e.symm)).trans hb⟩

theorem SrcAt.lt {w : World} {b k : Nat} {v : Value} (h : SrcAt w b v k) : b < w.heap.size := by
  obtain ⟨seed, _, _, hb⟩ := h
  rcases Nat.lt_or_ge b w.heap.size with h' | h'
  · exact h'
  · simp [Array.getElem?_eq_none h'] at hb
theorem below_src {w w' : World} {b B k : Nat} {v : Value} (hg : w.grownBy w' (some b)) (hB : B ≤ b) (hs : SrcAt w b v k) : Below B w w' :=
  below_grown hg (by have := hs.lt; omega) (fun k e => by cases e; exact hB)

/-- The letters drawn so far. -/
def AB (ys : List Int) : Prop := ∀ y ∈ ys, y = 97 ∨ y = 98
theorem AB.snoc {ys : List Int} {y : Int} (h : AB ys) (hy : y = 97 ∨ y = 98) : AB (ys ++ [y]) := by
  intro z hz
  rcases List.mem_append.1 hz with h1 | h1
  · exact h z h1
  · rw [List.mem_singleton.1 h1]; exact hy
theorem strOfNums_let {ys : List Int} (h : AB ys) : (strOfNums ys).data.toList.all Wd.isL = true ∧ (strOfNums ys).size = ys.length := by
  constructor
  · rw [List.all_eq_true]
    intro c hc
    simp [strOfNums] at hc
    obtain ⟨y, hy, rfl⟩ := hc
    rcases h y hy with rfl | rfl <;> rfl
  · simp [strOfNums, ByteArray.size]
theorem LetR.conv {w : World} {base : Nat} {v : Value} {ys : List Int} (h : LetR w base v ys) : (convert 22 9 v).run Try.prog w = .ok (.string (strOfNums ys)) w := by
  have h' : w.ownsRow base 5 1 v ys.length (ys.map (Value.int .u8)) := h
  rcases h'.2 with ⟨rfl, h0⟩ | ⟨g, cap, cur, rfl, hbg, hg, hnc, hcm, hcs, ht⟩
  · have : ys = [] := List.length_eq_zero_iff.1 h0
    subst this
    exact run_convert_bytes_nil w 22 5 Try.underlying22 Try.underlying5 _ _ 9 Try.underlying9
  · refine run_convert_bytes_arg w 22 5 Try.underlying22 Try.underlying5 g 0 ys.length cap ys rfl (fun i hi => ?_) 9 Try.underlying9
    rw [Nat.zero_add, h'.cellAt i (by omega), List.getElem?_map, List.getElem?_eq_getElem (by omega)]
    simp [List.getD_eq_getElem?_getD, hi]
theorem slice_to (s : ByteArray) {k : Nat} (hk : k < s.size) (w : World) : (Instr.slice 9 (.string s) none (some (.int .i64 (1 + (k : Int)))) none).run Try.prog w = .ok (.string (s.extract 0 (k + 1))) w := by
  rw [run_slice_string_h w 9 s Try.underlying9 .i64 _ (by omega) (by omega), show (1 + (k : Int)).toNat = k + 1 by omega]
theorem all_extract {s : ByteArray} (h : s.data.toList.all Wd.isL = true) (k : Nat) : (s.extract 0 k).data.toList.all Wd.isL = true := by
  rw [Lib.extract_data, List.drop_zero, Nat.sub_zero, List.all_eq_true]
  rw [List.all_eq_true] at h
  exact fun c hc => h c (List.mem_of_mem_take hc)
def Drew (B b k0 : Nat) (most : Int) (v : Value) (w w' : World) (t : ByteArray) : Prop :=
  ∃ k' : Nat, t.data.toList.all Wd.isL = true ∧ (t.size : Int) ≤ most ∧ k' ≤ k0 + 200 ∧ SrcAt w' b v k' ∧ Below B w w'
theorem LetR.snoc {w : World} {base : Nat} {v : Value} {ys : List Int} {y : Int} (h : w.ownsRow base 5 1 v (ys.length + 1) (ys.map (Value.int .u8) ++ [.int .u8 y])) : LetR w base v (ys ++ [y]) := by
  unfold LetR
  rw [List.length_append, List.map_append]
  exact h
theorem one_new8 (w : World) (x : Value) (t : TypeId) : ∀ (j : Nat) (u : Value), [x][j]? = some u → (w.alloc (.cells #[x] t)).cell? ((⟨w.heap.size, 0, none⟩ : Addr).add j) = some u := by
  intro j u hu
  cases j with
  | zero =>
    obtain rfl : x = u := by simpa using hu
    show (w.alloc (.cells #[x] t)).cell? ⟨w.heap.size, 0, none⟩ = some x
    rw [cell_of_row _ _ _ _ _ _ (heap_alloc_new w _)]
    rfl
  | succ j => simp at hu
theorem one_cell8 (n : Int) : ∀ u : Value, u ∈ [Value.int .u8 n] → u.oneCell' = true := by
  intro u hu
  obtain rfl : u = _ := by simpa using hu
  rfl

theorem row_step {w w4 w5 : World} {o : Obj} {B b k n : Nat} {cv v : Value} {xs : List Value} (hb : Below B w w4) (hown : w4.ownsRow B 5 1 v n xs) (hsz : B ≤ w4.heap.size) (hs : SrcAt w4 b cv k)
    (hg : (w4.alloc o).grownBy w5 v.ownBlock) : Below B w w5 ∧ SrcAt w5 b cv k ∧ ∀ p : Addr, p.block < B → w5.cell? p = w4.cell? p := by
  have h1 : Below B w4 (w4.alloc o) := (Below.refl _ _).alloc hsz o
  have h2 : Below B w4 w5 := h1.grown hg (by have := h1.size; omega) (fun k hk => (hown.lt k hk).1)
  exact ⟨hb.trans h2, (hs.grown (World.grownBy_alloc w4 o none) (by simp)).grown hg (ne_of_src hown hs), fun p hp => h2.cell hp⟩

set_option maxRecDepth 100000 in
set_option maxHeartbeats 800000 in
theorem drawn_any (b k0 B : Nat) (v : Value) (xs : List Int) (w : World) (most : Int) (hs : SrcAt w b v k0) (hv : Byts w B v xs) (hB : B ≤ b) (hk : k0 ≤ 900000) (hx : xs.length ≤ 1000000) (hm0 : 0 ≤ most) (hm : most ≤ 60) :
    Calls Try.prog 50 #[.pointer (some ⟨b, 0, none⟩), .int .i64 most] w fun e w' => ∃ t : ByteArray, e = .returned (.string t) ∧ Drew B b k0 most v w w' t := by
  obtain ⟨i0, hi, hz0, hz1, hz2⟩ := info_parts Try.infoU8
  have hp := pick_any b k0 B v xs w 2 hs hv (by omega) hx (by omega)
  have HS := hidv hs
  have HV := hidv hv
  have HP := hidv hp
  clear hs hv hp
  go_enter Try.func50, Try.ntmps50
  go_wp2_with fail
  refine HP.out.mono ?_
  rintro e w1 ⟨r, k1, rfl, hr0, hr1, hk1, hs1, hg1⟩
  clear HP
  have hb1 : Below B w w1 := below_src hg1 hB HS.out
  have hsz1 : b < w1.heap.size := hs1.lt
  have hb2 : Below B w (w1.alloc (.cells #[] 5)) := hb1.alloc (by omega) _
  have HV2 := hidv (HV.out.below hb2)
  have hs2 : SrcAt (w1.alloc (.cells #[] 5)) b v k1 := hs1.grown (World.grownBy_alloc w1 _ none) (by simp)
  have hl2 : LetR (w1.alloc (.cells #[] 5)) B (.slice (some ⟨w1.heap.size, 0, none⟩) 0 0) [] := World.ownsRow_lit w1 #[] 0 (by omega) (Nat.zero_le _) rfl
  have hne2 : (Value.slice (some ⟨w1.heap.size, 0, none⟩) 0 0).ownBlock ≠ some b := by simp [Value.ownBlock]; omega
  obtain ⟨w2, hw2⟩ : ∃ w2, w2 = w1.alloc (.cells #[] 5) := ⟨_, rfl⟩
  have hsz2 : w1.heap.size < w2.heap.size := by rw [hw2]; simp
  rw [← hw2] at hb2 HV2 hs2 hl2
  have hp2 := pick_any b k1 B v xs w2 (most + 1) hs2 HV2.out (by omega) hx (by omega)
  have HS2 := hidv hs2
  have HB2 := hidv hb2
  have HL2 := hidv hl2
  have HN2 := hidv hne2
  have HP2 := hidv hp2
  clear hs1 hg1 hb1 HS HV hs2 hb2 hl2 hne2 hp2
  go_wp2_with fail
  rw [← hw2]
  clear hw2
  refine HP2.out.mono ?_
  rintro e w3 ⟨q, k3, rfl, hq0, hq1, hk3, hs3, hg3⟩
  have hb3 : Below B w w3 := HB2.out.trans (below_src hg3 hB HS2.out)
  have hl3 : LetR w3 B (.slice (some ⟨w1.heap.size, 0, none⟩) 0 0) [] := HL2.out.kept hg3 HN2.out
  have HB3 := hidv hb3
  have HS3 := hidv hs3
  have HL3 := hidv hl3
  have HV3 := hidv (HV2.out.grown hg3 hB)
  clear hb3 hs3 hl3 hg3 HP2
  obtain ⟨J, hJ⟩ : ∃ J : Nat, q = (J : Int) := ⟨q.toNat, by omega⟩
  subst hJ
  have hJm : J ≤ most := by omega
  go_wp2_with fail
  go_loopw [6, 7] (fun vo i wr => ∃ (j kk : Nat) (ys : List Int), j ≤ J ∧ i = .int .i64 j ∧ ys.length + j = J ∧ Hid (AB ys) ∧ Hid (LetR wr B vo ys) ∧ Hid (SrcAt wr b v kk) ∧ kk ≤ k3 + ys.length ∧ Hid (Below B w wr) ∧ Hid (Byts wr B v xs) ∧ Hid (vo.ownBlock ≠ some b)) (fun _ i _ => (intOf i).toNat)
  case atStart => exact ⟨J, k3, [], Nat.le_refl _, rfl, by simp, hidv (fun y hy => by simp at hy), HL3, HS3, by simp, HB3, HV3, HN2⟩
  case round =>
    obtain ⟨j, kk, ys, hj, rfl, hyl, hab, hlet, hsrc, hkk, hbw, hvw, hnb⟩ := hrel
    by_cases hlt : 0 < j
    · have hp := hidv (pick_any b kk B v xs wr (1 + r) hsrc.out hvw.out (by omega) hx (by omega))
      go_wp2_with fail
      refine hp.out.mono ?_
      rintro e w4 ⟨y, k4, rfl, hy0, hy1, hk4, hs4, hg4⟩
      have hb4 : Below B w w4 := hbw.out.trans (below_src hg4 hB hsrc.out)
      have hl4 := hlet.out.kept hg4 hnb.out
      have HB4 := hidv hb4
      have HS4 := hidv hs4
      have HL4 : Hid (w4.ownsRow B 5 1 _ ys.length (ys.map (Value.int .u8))) := hl4
      have HV4 := hidv (hvw.out.grown hg4 hB)
      have hsz4 : B ≤ w4.heap.size := by have := hs4.lt; omega
      clear hb4 hs4 hl4 hg4 hp hbw hvw hlet hsrc
      rcases (show y = 0 ∨ y = 1 by omega) with rfl | rfl
      · go_wp2_with (at_builtin; refine wpList_append_own _ rfl (.tmp 22) (.tmp 28) 22 rfl B 5 i0 (.int .u8 0) 1 1 Try.underlying22 hi hz0 hz1 hz2 rfl (by decide) _ _ _ rfl (HL4.out.alloc _) ⟨w4.heap.size, 0, none⟩ 1 1 [.int .u8 97] rfl rfl (one_new8 w4 _ _) (one_cell8 _) ?_ ?_ ?_ ?_; (unfold maxLen; omega); omega; exact Nat.le_trans hsz4 (by simp); intro v1 w5 hown1 hgr1 _)
        have hbb := row_step HB4.out HL4.out hsz4 HS4.out hgr1
        go_roundw
        case rel =>
          refine ⟨j - 1, k4, ys ++ [97], by omega, by go_num, by simp; omega, hidv (hab.out.snoc (by omega)), hidv (LetR.snoc hown1), hidv hbb.2.1, by simp; omega, hidv hbb.1, hidv (HV4.out.keep fun p hp => hbb.2.2 p hp), hidv (ne_of_src hown1 hbb.2.1)⟩
        case measure => simp [intOf]; omega
      · go_wp2_with (at_builtin; refine wpList_append_own _ rfl (.tmp 22) (.tmp 28) 22 rfl B 5 i0 (.int .u8 0) 1 1 Try.underlying22 hi hz0 hz1 hz2 rfl (by decide) _ _ _ rfl (HL4.out.alloc _) ⟨w4.heap.size, 0, none⟩ 1 1 [.int .u8 98] rfl rfl (one_new8 w4 _ _) (one_cell8 _) ?_ ?_ ?_ ?_; (unfold maxLen; omega); omega; exact Nat.le_trans hsz4 (by simp); intro v1 w5 hown1 hgr1 _)
        have hbb := row_step HB4.out HL4.out hsz4 HS4.out hgr1
        go_roundw
        case rel =>
          refine ⟨j - 1, k4, ys ++ [98], by omega, by go_num, by simp; omega, hidv (hab.out.snoc (by omega)), hidv (LetR.snoc hown1), hidv hbb.2.1, by simp; omega, hidv hbb.1, hidv (HV4.out.keep fun p hp => hbb.2.2 p hp), hidv (ne_of_src hown1 hbb.2.1)⟩
        case measure => simp [intOf]; omega
    · obtain rfl : j = 0 := by omega
      have hconv := hlet.out.conv
      obtain ⟨ht1, ht2⟩ := strOfNums_let hab.out
      obtain ⟨t, ht⟩ : ∃ t, strOfNums ys = t := ⟨_, rfl⟩
      rw [ht] at hconv ht1 ht2
      have HT := hidv ht1
      have ho := hidv (one_any b kk B v xs wr 3 hsrc.out hvw.out (by omega) hx (by omega))
      have hnil := hnb
      have htJ : t.size ≤ J := by omega
      clear ht ht1 ht2 hlet hab
      go_wp2_with fail
      refine ho.out.mono ?_
      rintro e w4 ⟨r4, k4, rfl, hk4, hs4, hg4⟩
      have HB4 := hidv (hbw.out.trans (below_src hg4 hB hsrc.out))
      have HS4 := hidv hs4
      have HV4 := hidv (hvw.out.grown hg4 hB)
      clear hs4 hg4 ho hbw hvw hsrc
      cases r4
      · go_wp2
        go_ret
        exact ⟨t, rfl, k4, HT.out, by omega, by omega, HS4.out, HB4.out⟩
      by_cases h0 : 0 < t.size
      · have ho := hidv (pick_any b k4 B v xs w4 (t.size : Int) HS4.out HV4.out (by omega) hx (by omega))
        go_wp2_with fail
        refine ho.out.mono ?_
        rintro e w5 ⟨r5, k5, rfl, hr50, hr51, hk5, hs5, hg5⟩
        have HB5 := hidv (HB4.out.trans (below_src hg5 hB HS4.out))
        have HS5 := hidv hs5
        have HV5 := hidv (HV4.out.grown hg5 hB)
        clear hs5 hg5 ho
        obtain ⟨q5, hq5⟩ : ∃ q : Nat, r5 = (q : Int) := ⟨r5.toNat, by omega⟩
        subst hq5
        have hq5 : q5 < t.size := by omega
        have hsl := slice_to t hq5
        have hel := all_extract HT.out (q5 + 1)
        have hes : (t.extract 0 (q5 + 1)).size = q5 + 1 := by simp; omega
        obtain ⟨u, hu⟩ : ∃ u, t.extract 0 (q5 + 1) = u := ⟨_, rfl⟩
        simp only [hu] at hsl hel hes
        have HU := hidv hel
        clear hu hel
        go_wp2_with fail
        go_loopw [9] (fun q wr => ∃ (kk' : Nat) (s : ByteArray), q = .string s ∧ 1 ≤ s.size ∧ (s.size : Int) ≤ most ∧ Hid (s.data.toList.all Wd.isL = true) ∧ Hid (SrcAt wr b v kk') ∧ kk' ≤ k5 + s.size ∧ Hid (Below B w wr) ∧ Hid (Byts wr B v xs)) (fun q _ => 61 - (txtOf q).size)
        case atStart => exact ⟨k5, u, rfl, by omega, by omega, HU, HS5, by omega, HB5, HV5⟩
        case round =>
          obtain ⟨k6, s, rfl, h1s, hsm, hsl6, hs6, hk6, hb6, hv6⟩ := hrel
          by_cases hdb : 2 * (s.size : Int) ≤ most
          · have ho := hidv (one_any b k6 B v xs _ 2 hs6.out hv6.out (by omega) hx (by omega))
            go_wp2_with fail
            refine ho.out.mono ?_
            rintro e w7 ⟨r7, k7, rfl, hk7, hs7, hg7⟩
            have HB7 := hidv (hb6.out.trans (below_src hg7 hB hs6.out))
            have HS7 := hidv hs7
            have HV7 := hidv (hv6.out.grown hg7 hB)
            clear hs7 hg7 ho hb6 hs6 hv6
            have hss : (s ++ s).size = s.size + s.size := by simp
            cases r7
            · go_wp2
              go_ret
              exact ⟨s, rfl, k7, hsl6.out, by omega, by omega, HS7.out, HB7.out⟩
            · go_wp2
              go_roundw
              case rel =>
                refine ⟨k7, s ++ s, rfl, by omega, by omega, hidv ?_, HS7, by omega, HB7, HV7⟩
                rw [ByteArray.data_append, Array.toList_append, List.all_append, hsl6.out]
                rfl
              case measure =>
                simp only [txtOf]
                simp
                omega
          · go_wp2
            go_ret
            exact ⟨s, rfl, k6, hsl6.out, by omega, by omega, hs6.out, hb6.out⟩
      · go_wp2
        go_ret
        exact ⟨t, rfl, k4, HT.out, by omega, by omega, HS4.out, HB4.out⟩

end Go.Proofs.Ytebhifhcknbgaaa
