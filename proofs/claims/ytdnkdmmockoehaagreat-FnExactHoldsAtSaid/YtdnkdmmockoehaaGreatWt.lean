/-
  The weights of a family's values for the test number, in the program: contracts.
-/
import Derived.Test.YtdnkdmmockoehaaGreatSu
namespace Go.Proofs.YtdnkdmmockoehaaGreat
open Go.RowKit Go
set_option linter.unusedVariables false

/-- What a piece adds to the sum of a test number at each place of its unknown. -/
def pcW (p : Pc) : Int := (p.1.size : Int) * (p.2.1 + min p.2.2 1)
theorem pcW_bound {p : Pc} (h : PcOk p) : 0 ≤ pcW p ∧ pcW p ≤ (3660 : Nat) := by
  have h1 := h.2.2.2
  have h2 := h.2.2.1
  have h3 : p.1.size ≤ 60 := by have := Wd.wordB_len h.2.1; simpa using this
  unfold pcW
  obtain ⟨t, ht⟩ : ∃ t, p.2.1 + min p.2.2 1 = t := ⟨_, rfl⟩
  rw [ht]
  have h4 : 0 ≤ t ∧ t ≤ 61 := by omega
  obtain ⟨t, rfl⟩ := Int.eq_ofNat_of_zero_le h4.1
  have h5 : p.1.size * t ≤ 60 * 61 := Nat.mul_le_mul h3 (by omega)
  have h6 : ((p.1.size : Int) * (t : Int)) = ((p.1.size * t : Nat) : Int) := by push_cast; rfl
  rw [h6]
  omega

set_option maxHeartbeats 400000 in
theorem weight_any (x : ByteArray) (f s : Int) (w : World) (hp : PcOk (x, f, s)) :
    Calls Tryz.prog 75 #[.agg #[.string x, .int .i64 f, .int .i64 s]] w fun e w' => e = .returned (.int .i64 (pcW (x, f, s))) ∧ Below w.heap.size w w' := by
  have hb := pcW_bound hp
  have h1 := hp.2.2.2
  have h2 := hp.2.2.1
  have hxs : x.size ≤ 60 := by have := Wd.wordB_len hp.2.1; simpa using this
  unfold pcW at hb ⊢
  dsimp only at hb h1 h2 ⊢
  obtain ⟨h10, h11⟩ := h1
  obtain ⟨h20, h21⟩ := h2
  obtain ⟨hb0, hb1⟩ := hb
  have hwr : IntKind.i64.wrap ((x.size : Int) * (f + min s 1)) = (x.size : Int) * (f + min s 1) := IntWalk.i64_in _ (by omega)
  have hbl : Below w.heap.size w (w.alloc (.cells #[.string x, .int .i64 f, .int .i64 s] 88)) := (Below.refl _ _).alloc (Nat.le_refl _) _
  clear hp
  go_enter Tryz.func75, Tryz.ntmps75
  go_wp2
  go_ret
  exact ⟨by first | rfl | exact ret_int hwr, hbl⟩

set_option maxHeartbeats 400000 in
theorem closSumW_any (acc : Int) (x : ByteArray) (f s : Int) (bo : Nat) (w : World) (ha : 0 ≤ acc ∧ acc ≤ 100000000000) (hp : PcOk (x, f, s)) (c1 : w.cell? ⟨bo, 0, none⟩ = some (.func (.func 75) #[] #[])) :
    Calls Tryz.prog 85 #[.int .i64 acc, .agg #[.string x, .int .i64 f, .int .i64 s], .pointer (some ⟨bo, 0, none⟩)] w fun e w' => e = .returned (.int .i64 (acc + pcW (x, f, s))) ∧ Below w.heap.size w w' := by
  have hlt : bo < w.heap.size := World.block_lt_of_cell? _ _ c1
  have hbd := pcW_bound hp
  have hbl : Below w.heap.size w (w.alloc (.cells #[.string x, .int .i64 f, .int .i64 s] 88)) := (Below.refl _ _).alloc (Nat.le_refl _) _
  have C := hidv (weight_any x f s (w.alloc (.cells #[.string x, .int .i64 f, .int .i64 s] 88)) hp)
  obtain ⟨t, ht⟩ : ∃ t, pcW (x, f, s) = t := ⟨_, rfl⟩
  rw [ht] at C hbd ⊢
  obtain ⟨hb0, hb1⟩ := hbd
  obtain ⟨ha0, ha1⟩ := ha
  have HB := hidv hbl
  clear hp hbl ht
  go_enter Tryz.func85, Tryz.ntmps85
  go_wp2_with fail
  refine C.out.mono ?_
  rintro e w1 ⟨rfl, hb1'⟩
  have HB1 := hidv (below_on HB.out hb1')
  clear hb1'
  go_wp2_with fail
  go_ret
  exact ⟨rfl, HB1.out⟩

set_option maxRecDepth 100000 in
set_option maxHeartbeats 1600000 in
theorem sumsW_any (v : Value) (rs : List (List Pc)) (B : Nat) (w : World) (hv : Fam w B v rs) (hB : B ≤ w.heap.size) (hok : FamOk rs) :
    Calls Tryz.prog 64 #[v, .func (.func 75) #[] #[]] w fun e w' => ∃ u, e = .returned u ∧ Ints w' w.heap.size u (rs.map (gsum pcW)) ∧ Below w.heap.size w w' := by
  obtain ⟨i0, hi, hz0, hz1, hz2⟩ := info_parts Tryz.infoN
  obtain ⟨va, rfl, hr⟩ := hv
  obtain ⟨A, c, rfl, hA⟩ := hr.at
  have h4 : rs.length = 4 := hok.1
  rw [h4]
  have HA := hidv hA
  have HOK := hidv hok
  have HN := hidv h4
  have hbw : Below w.heap.size w ((w.alloc (.cells #[.slice A 4 c] 34)).alloc (.cells #[.func (.func 75) #[] #[]] 103)) := ((Below.refl _ _).alloc (Nat.le_refl _) _).alloc (by simp) _
  clear hA hok hr h4
  go_enter Tryz.func64, Tryz.ntmps64
  go_wp2_with fail
  have hbo := Bx.new (w.alloc (.cells #[.slice A 4 c] 34)) 103 #[.func (.func 75) #[] #[]]
  rw [World.size_alloc] at hbo
  have hz0' : ((w.alloc (.cells #[.slice A 4 c] 34)).alloc (.cells #[.func (.func 75) #[] #[]] 103)).heap.size = w.heap.size + 2 := by simp
  obtain ⟨W0, hW0⟩ : ∃ W, (w.alloc (.cells #[.slice A 4 c] 34)).alloc (.cells #[.func (.func 75) #[] #[]] 103) = W := ⟨_, rfl⟩
  rw [hW0] at hbw hbo hz0' ⊢
  clear hW0
  have HBO := hidv hbo
  have HBW := hidv hbw
  clear hbo hbw
  go_loopw [5, 11] (fun v i wr => ∃ j : Nat, j ≤ 4 ∧ i = .int .i64 j ∧ Hid (World.ownsRow wr W0.heap.size 2 1 v j (((rs.take j).map (gsum pcW)).map (Value.int .i64))) ∧ Hid (Below W0.heap.size W0 wr)) (fun _ i _ => 4 - (intOf i).toNat)
  case atStart => exact ⟨0, by omega, rfl, hidv (World.ownsRow_nil _ _ _ _), hidv (Below.refl _ _)⟩
  case round =>
    obtain ⟨j, hj, rfl, hown, hbe⟩ := hrel
    have hbt := HBW.out.trans (hbe.out.mono HBW.out.size)
    by_cases hlt4 : j < 4
    · have hjx : j < rs.length := by have := HN.out; omega
      obtain ⟨g, o, rfl, hg, hce⟩ := HA.out (by have := HN.out; omega)
      obtain ⟨a, cq, e0, r1⟩ := hce j hjx
      have c1 := (hbt.cell (p := ⟨g, o + j, none⟩) (by show g < w.heap.size; omega)).trans e0
      have hro := HOK.out.at j hjx
      have hsu : (rs.take (j + 1)).map (gsum pcW) = (rs.take j).map (gsum pcW) ++ [gsum pcW rs[j]] := by
        rw [List.take_succ_eq_append_getElem hjx, List.map_append]
        rfl
      have HC := hidv (foldP_any pcW rs[j] (.slice a rs[j].length cq) B (w.heap.size + 1) _ (r1.below (hbt.mono hB)) (Nat.le_trans hB hbt.size) (by have := hro.1; omega) (fun q hq W hW => by
        have hbW := hbe.out.trans (hW.mono hbe.out.size)
        have hbd := gsum_bound pcW 3660 (rs[j].take q) (fun p hp => pcW_bound (hro.2 p (List.mem_of_mem_take hp)))
        have hlq : (rs[j].take q).length ≤ 4 := by rw [List.length_take]; have := hro.1; omega
        exact closSumW_any _ _ _ _ (w.heap.size + 1) W ⟨hbd.1, by omega⟩ (hro.2 _ (List.getElem_mem _)) ((HBO.out.below hbW).one)))
      obtain ⟨l, hl⟩ : ∃ l, rs[j].length = l := ⟨_, rfl⟩
      obtain ⟨t, ht⟩ : ∃ t, gsum pcW rs[j] = t := ⟨_, rfl⟩
      rw [hl] at c1 HC
      rw [ht] at HC hsu
      have HSU := hidv hsu
      clear hce e0 r1 hro hsu hl ht
      go_wp2_with fail
      refine HC.out.mono ?_
      rintro e w2 ⟨rfl, hb2⟩
      have HB2 := hidv (below_on hbe.out hb2)
      have HO2 := hidv (own_below hown.out hb2)
      have hsz := HB2.out.size
      clear hb2
      go_wp2_with (at_builtin; refine wpList_append_own _ rfl (.tmp 15) (.tmp 19) 75 rfl W0.heap.size 2 i0 (.int .i64 0) 1 8 Tryz.underlying75 hi hz0 hz1 hz2 rfl (by decide) _ _ _ rfl (HO2.out.alloc _) ⟨w2.heap.size, 0, none⟩ 1 1 [.int .i64 t] rfl rfl (one_newL w2 _ _) (one_cellL _) ?_ ?_ ?_ ?_; (unfold maxLen; omega); omega; (simp; omega); intro v1 w3 hown1 hgr1 _)
      go_roundw
      case rel =>
        refine ⟨j + 1, by omega, by go_num, hidv ?_, hidv (growL HB2.out (Nat.le_refl _) HO2.out hgr1)⟩
        rw [HSU.out, List.map_append]
        exact hown1
      case measure => simp [intOf]; omega
    · obtain rfl : j = 4 := by omega
      have he : rs.take 4 = rs := List.take_of_length_le (by have := HN.out; omega)
      have HH := hidv hbt
      clear hbt
      go_wp2_with fail
      go_ret
      refine ⟨_, rfl, ?_, HH.out⟩
      have h := hown.out
      rw [he] at h
      unfold Ints
      rw [List.length_map, HN.out]
      exact own_wider h (by omega)

end Go.Proofs.YtdnkdmmockoehaaGreat
