/-
  The lengths of a family's values, in the program: contracts.
-/
import Derived.Test.YtdnkdmmockoehaaGreatFl
import Derived.Test.YtdnkdmmockoehaaGreatCopy
namespace Go.Proofs.YtdnkdmmockoehaaGreat
open Go.RowKit Go
set_option linter.unusedVariables false

theorem one_newL (w : World) (x : Value) (t : TypeId) : ∀ (j : Nat) (u : Value), [x][j]? = some u → (w.alloc (.cells #[x] t)).cell? ((⟨w.heap.size, 0, none⟩ : Addr).add j) = some u := by
  intro j u hu
  match j, hu with
  | 0, hu =>
    obtain rfl : x = u := by simpa using hu
    exact (Bx.new w t #[x]).cell 0
theorem one_cellL (n : Int) : ∀ u : Value, u ∈ [Value.int .i64 n] → u.oneCell' = true := by
  intro u hu
  simp only [List.mem_cons, List.not_mem_nil, or_false] at hu
  subst hu; rfl
theorem growL {base : Nat} {w w1 w2 : World} {e size n : Nat} {v : Value} {xs : List Value} {o : Obj} (hb : Below base w w1) (hbase : base ≤ w.heap.size) (h : w1.ownsRow base e size v n xs) (hg : (w1.alloc o).grownBy w2 v.ownBlock) : Below base w w2 :=
  (hb.alloc (Nat.le_trans hbase hb.size) o).grown hg (by have := hb.size; simp; omega) (fun k hk => (World.ownsRow.lt h k hk).1)

set_option maxRecDepth 100000 in
set_option maxHeartbeats 1600000 in
theorem sumsL_any (v : Value) (rs : List (List Pc)) (B b : Nat) (k : Int) (w : World) (hv : Fam w B v rs) (hB : B ≤ w.heap.size) (hok : FamOk rs) (hk : 0 ≤ k ∧ k ≤ 1000000) (c0 : w.cell? ⟨b, 0, none⟩ = some (.int .i64 k)) :
    Calls Tryz.prog 64 #[v, .func (.func 65) #[] #[.pointer (some ⟨b, 0, none⟩)]] w fun e w' => ∃ u, e = .returned u ∧ Ints w' w.heap.size u (rs.map (gsum (pcLen k))) ∧ Below w.heap.size w w' := by
  obtain ⟨i0, hi, hz0, hz1, hz2⟩ := info_parts Tryz.infoN
  obtain ⟨va, rfl, hr⟩ := hv
  obtain ⟨A, c, rfl, hA⟩ := hr.at
  have hlt : b < w.heap.size := World.block_lt_of_cell? _ _ c0
  have h4 : rs.length = 4 := hok.1
  rw [h4]
  have HA := hidv hA
  have HOK := hidv hok
  have HN := hidv h4
  have hbw : Below w.heap.size w ((w.alloc (.cells #[.slice A 4 c] 34)).alloc (.cells #[.func (.func 65) #[] #[.pointer (some ⟨b, 0, none⟩)]] 103)) := ((Below.refl _ _).alloc (Nat.le_refl _) _).alloc (by simp) _
  clear hA hok hr h4
  go_enter Tryz.func64, Tryz.ntmps64
  go_wp2_with fail
  have hbo := Bx.new (w.alloc (.cells #[.slice A 4 c] 34)) 103 #[.func (.func 65) #[] #[.pointer (some ⟨b, 0, none⟩)]]
  rw [World.size_alloc] at hbo
  have hz0' : ((w.alloc (.cells #[.slice A 4 c] 34)).alloc (.cells #[.func (.func 65) #[] #[.pointer (some ⟨b, 0, none⟩)]] 103)).heap.size = w.heap.size + 2 := by simp
  obtain ⟨W0, hW0⟩ : ∃ W, (w.alloc (.cells #[.slice A 4 c] 34)).alloc (.cells #[.func (.func 65) #[] #[.pointer (some ⟨b, 0, none⟩)]] 103) = W := ⟨_, rfl⟩
  rw [hW0] at hbw hbo hz0' ⊢
  clear hW0
  have HBO := hidv hbo
  have HBW := hidv hbw
  clear hbo hbw
  go_loopw [5, 11] (fun v i wr => ∃ j : Nat, j ≤ 4 ∧ i = .int .i64 j ∧ Hid (World.ownsRow wr W0.heap.size 2 1 v j (((rs.take j).map (gsum (pcLen k))).map (Value.int .i64))) ∧ Hid (Below W0.heap.size W0 wr)) (fun _ i _ => 4 - (intOf i).toNat)
  case atStart => exact ⟨0, by omega, rfl, hidv (World.ownsRow_nil _ _ _ _), hidv (Below.refl _ _)⟩
  case round =>
    obtain ⟨j, hj, rfl, hown, hbe⟩ := hrel
    have hbt := HBW.out.trans (hbe.out.mono HBW.out.size)
    by_cases hlt4 : j < 4
    · have hjx : j < rs.length := by have := HN.out; omega
      obtain ⟨g, o, rfl, hg, hce⟩ := HA.out (by have := HN.out; omega)
      obtain ⟨a, cq, e0, r1⟩ := hce j hjx
      have c1 := (hbt.cell (p := ⟨g, o + j, none⟩) (by show g < w.heap.size; omega)).trans e0
      have hro := HOK.out.at j hjx
      have hsu : (rs.take (j + 1)).map (gsum (pcLen k)) = (rs.take j).map (gsum (pcLen k)) ++ [gsum (pcLen k) rs[j]] := by
        rw [List.take_succ_eq_append_getElem hjx, List.map_append]
        rfl
      have HC := hidv (foldP_any (pcLen k) rs[j] (.slice a rs[j].length cq) B (w.heap.size + 1) _ (r1.below (hbt.mono hB)) (Nat.le_trans hB hbt.size) (by have := hro.1; omega) (fun q hq W hW => by
        have hbW := hbe.out.trans (hW.mono hbe.out.size)
        have hbd := gsum_bound (pcLen k) 180003600 (rs[j].take q) (fun p hp => pcLen_bound (hro.2 p (List.mem_of_mem_take hp)) hk)
        have hlq : (rs[j].take q).length ≤ 4 := by rw [List.length_take]; have := hro.1; omega
        exact closSumL_any _ _ _ _ k (w.heap.size + 1) b W ⟨hbd.1, by omega⟩ (hro.2 _ (List.getElem_mem _)) hk (((HBW.out.trans (hbW.mono HBW.out.size)).cell (p := ⟨b, 0, none⟩) hlt).trans c0) ((HBO.out.below hbW).one)))
      obtain ⟨l, hl⟩ : ∃ l, rs[j].length = l := ⟨_, rfl⟩
      obtain ⟨t, ht⟩ : ∃ t, gsum (pcLen k) rs[j] = t := ⟨_, rfl⟩
      rw [hl] at c1 HC
      rw [ht] at HC hsu
      have HSU := hidv hsu
      clear hce e0 r1 hro hsu hl ht
      go_wp2_with fail
      refine HC.out.mono ?_
      rintro e w2 ⟨rfl, hb2⟩
      have HB2 := hidv (below_on hbe.out hb2)
      have HO2 := hidv (own_below hown.out hb2)
      have hsz := HB2.out.size
      clear hb2
      go_wp2_with (at_builtin; refine wpList_append_own _ rfl (.tmp 15) (.tmp 19) 75 rfl W0.heap.size 2 i0 (.int .i64 0) 1 8 Tryz.underlying75 hi hz0 hz1 hz2 rfl (by decide) _ _ _ rfl (HO2.out.alloc _) ⟨w2.heap.size, 0, none⟩ 1 1 [.int .i64 t] rfl rfl (one_newL w2 _ _) (one_cellL _) ?_ ?_ ?_ ?_; (unfold maxLen; omega); omega; (simp; omega); intro v1 w3 hown1 hgr1 _)
      go_roundw
      case rel =>
        refine ⟨j + 1, by omega, by go_num, hidv ?_, hidv (growL HB2.out (Nat.le_refl _) HO2.out hgr1)⟩
        rw [HSU.out, List.map_append]
        exact hown1
      case measure => simp [intOf]; omega
    · obtain rfl : j = 4 := by omega
      have he : rs.take 4 = rs := List.take_of_length_le (by have := HN.out; omega)
      have HH := hidv hbt
      clear hbt
      go_wp2_with fail
      go_ret
      refine ⟨_, rfl, ?_, HH.out⟩
      have h := hown.out
      rw [he] at h
      unfold Ints
      rw [List.length_map, HN.out]
      exact own_wider h (by omega)

theorem lengthsAt_any (v : Value) (rs : List (List Pc)) (B : Nat) (k : Int) (w : World) (hv : Fam w B v rs) (hB : B ≤ w.heap.size) (hok : FamOk rs) (hk : 0 ≤ k ∧ k ≤ 1000000) :
    Calls Tryz.prog 41 #[v, .int .i64 k] w fun e w' => ∃ u, e = .returned u ∧ Ints w' w.heap.size u (rs.map (gsum (pcLen k))) ∧ Below w.heap.size w w' := by
  obtain ⟨A, c, rfl⟩ := hv.form
  have hbl : Below w.heap.size w ((w.alloc (.cells #[.slice A rs.length c] 34)).alloc (.cells #[.int .i64 k] 2)) := ((Below.refl _ _).alloc (Nat.le_refl _) _).alloc (by simp) _
  have hbx := Bx.new (w.alloc (.cells #[.slice A rs.length c] 34)) 2 #[.int .i64 k]
  rw [World.size_alloc] at hbx
  obtain ⟨n, hn⟩ : ∃ n, rs.length = n := ⟨_, rfl⟩
  have C := hidv (fun W (hW : Below w.heap.size w W) (hx : Bx W (w.heap.size + 1) 2 #[.int .i64 k]) => sumsL_any (.agg #[.slice A rs.length c]) rs B (w.heap.size + 1) k W (hv.below (hW.mono hB)) (Nat.le_trans hB hW.size) hok hk hx.one)
  rw [hn] at hbl hbx C ⊢
  clear hok hv hn
  go_enter Tryz.func41, Tryz.ntmps41
  go_wp2_with fail
  refine (C.out _ hbl hbx).mono ?_
  rintro e w1 ⟨u, rfl, hu, hb1⟩
  have HU := hidv (Ints.wider hu (base' := w.heap.size) hbl.size)
  have HB1 := hidv (below_on hbl hb1)
  obtain ⟨A2, c2, rfl, _⟩ := hu.row
  clear hu hb1
  go_wp2_with fail
  go_ret
  refine ⟨_, rfl, ?_, HB1.out⟩
  have h := HU.out
  rw [List.length_map, List.length_map] at h
  exact h

end Go.Proofs.YtdnkdmmockoehaaGreat
