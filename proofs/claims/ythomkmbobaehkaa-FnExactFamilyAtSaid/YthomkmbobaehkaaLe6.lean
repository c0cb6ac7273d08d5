/-
  The length of a list of pieces, in the model; FamilyLengths, of the program and of the model: contracts.
-/
import Derived.Test.YthomkmbobaehkaaSu
import Derived.Test.YthomkmbobaehkaaFo
import Derived.Test.YthomkmbobaehkaaRow2
import Derived.Lib.OwnKind
namespace Go.Proofs.Ythomkmbobaehkaa
open Go.RowKit Go
set_option linter.unusedVariables false

set_option maxRecDepth 100000 in
set_option maxHeartbeats 800000 in
theorem l06Length_any (v : Value) (ps : List Pc) (B : Nat) (k : Int) (w : World) (hv : QRow w B v ps) (hB : B ≤ w.heap.size) (hok : RowOk ps) (hk : 0 ≤ k ∧ k ≤ 1000000) :
    Calls Try.prog 58 #[v, .int .i64 k] w fun e w' => e = .returned (.int .i64 (gsum (pcLen k) ps)) ∧ ∃ q, w' = w.drewN q := by
  obtain ⟨A, c, rfl, hA⟩ := hv
  have hl := hok.1
  obtain ⟨n, hn⟩ : ∃ n, ps.length = n := ⟨_, rfl⟩
  have HA := hidv hA
  have HOK := hidv hok
  rw [hn] at hl ⊢
  have HN := hidv hn
  clear hA hok hn
  go_enter Try.func58, Try.ntmps58
  go_wp2
  go_loopw [5, 6] (fun q i wr => ∃ j : Nat, j ≤ n ∧ i = .int .i64 j ∧ q = .int .i64 (gsum (pcLen k) (ps.take j)) ∧ ∃ m, wr = w.drewN m) (fun _ i _ => n - (intOf i).toNat)
  case atStart => exact ⟨0, Nat.zero_le _, rfl, by simp [gsum], 0, rfl⟩
  case round =>
    obtain ⟨j, hj, rfl, rfl, m, rfl⟩ := hrel
    by_cases hlt : j < n
    · have hjx : j < ps.length := by have := HN.out; omega
      obtain ⟨g, o, rfl, hg, hce⟩ := HA.out (by omega)
      obtain ⟨c1, c2, c3⟩ := hce j hjx
      have hpo := HOK.out.2 ps[j] (List.getElem_mem _)
      have hbd := pcLen_bound hpo hk
      have hm3 := mul3 hpo.2.2.2 hk
      have hf := hpo.2.2.1
      have hlq : (ps.take j).length ≤ 4 := by rw [List.length_take]; omega
      have hbs := gsum_bound (pcLen k) 180003600 (ps.take j) (fun p hp => pcLen_bound (HOK.out.2 p (List.mem_of_mem_take hp)) hk)
      have hsu := gsum_succ (pcLen k) ps j hjx
      have hxs : ps[j].1.size ≤ 60 := by have := Wd.wordB_len hpo.2.1; simpa using this
      obtain ⟨⟨x, f, s⟩, hxy⟩ : ∃ p, ps[j] = p := ⟨_, rfl⟩
      rw [hxy] at c1 c2 c3 hbd hm3 hf hsu hxs
      unfold pcLen at hbd
      rw [show pcLen k (x, f, s) = (x.size : Int) * (f + s * k) from rfl] at hsu
      dsimp only at c1 c2 c3 hbd hm3 hf hxs
      obtain ⟨acc, hacc⟩ : ∃ a, gsum (pcLen k) (ps.take j) = a := ⟨_, rfl⟩
      rw [hacc] at hbs hsu ⊢
      obtain ⟨hb0, hb1⟩ := hbs
      have hb2 : acc ≤ 800000000 := by omega
      obtain ⟨hm0, hm1⟩ := hm3
      obtain ⟨hf0, hf1⟩ := hf
      obtain ⟨hp0, hp1⟩ := hbd
      have e1 : IntKind.i64.wrap (s * k) = s * k := IntWalk.i64_in _ (by omega)
      have e2 : IntKind.i64.wrap ((x.size : Int) * (f + s * k)) = (x.size : Int) * (f + s * k) := IntWalk.i64_in _ (by omega)
      have HSU := hidv hsu
      have i1 : (0 : Int) ≤ (j : Int) := by omega
      have i2 : (j : Int) < (n : Int) := by omega
      clear hxy hce hpo hsu hacc hb1
      go_wp2_with fail
      go_quiet (fail)
      go_wp2_with fail
      go_roundw
      case rel => exact ⟨j + 1, by omega, by go_num, by rw [HSU.out], _, rfl⟩
      case measure => simp [intOf]; omega
    · obtain rfl : j = n := by omega
      have he : ps.take j = ps := List.take_of_length_le (by have := HN.out; omega)
      rw [he]
      go_wp2
      go_ret
      exact ⟨rfl, _, rfl⟩

/-- What FamilyLengths gives: lengths and a code. -/
def FlR (rs : List (List Pc)) (k : Int) (L : List Int) (c : Int) : Prop :=
  (¬ FamOk rs → L = [] ∧ c = 1) ∧ (FamOk rs → ¬ (0 ≤ k ∧ k ≤ 1000000) → L = [] ∧ c = 2) ∧ (FamOk rs → (0 ≤ k ∧ k ≤ 1000000) → L = rs.map (gsum (pcLen k)) ∧ c = 0)
theorem flR_ex (rs : List (List Pc)) (k : Int) : ∃ L c, FlR rs k L c ∧ L.length ≤ 4 := by
  by_cases h1 : FamOk rs
  · by_cases h2 : 0 ≤ k ∧ k ≤ 1000000
    · exact ⟨rs.map (gsum (pcLen k)), 0, ⟨fun h => absurd h1 h, fun _ h => absurd h2 h, fun _ _ => ⟨rfl, rfl⟩⟩, by rw [List.length_map]; have := h1.1; omega⟩
    · exact ⟨[], 2, ⟨fun h => absurd h1 h, fun _ _ => ⟨rfl, rfl⟩, fun _ h => absurd h h2⟩, by simp⟩
  · exact ⟨[], 1, ⟨fun _ => ⟨rfl, rfl⟩, fun h => absurd h h1, fun h => absurd h h1⟩, by simp⟩

set_option maxHeartbeats 800000 in
theorem implFl_any (v : Value) (rs : List (List Pc)) (B : Nat) (k : Int) (w : World) (hv : Fam w B v rs) (hB : B ≤ w.heap.size) (hz : FamSz rs) (hm : FamMax rs) (L : List Int) (c : Int) (hR : FlR rs k L c) :
    Calls Try.prog 30 #[v, .int .i64 k] w fun e w' => ∃ u, e = .returned (.tuple #[u, .int .i64 c]) ∧ Ints w' w.heap.size u L ∧ Below w.heap.size w w' := by
  obtain ⟨d, hd⟩ := iffB (FamOk rs)
  obtain ⟨A, cA, rfl⟩ := hv.form
  have hbl : Below w.heap.size w (w.alloc (.cells #[.slice A rs.length cA] 48)) := (Below.refl _ _).alloc (Nat.le_refl _) _
  have hbx := Bx.new w 48 #[.slice A rs.length cA]
  have C1 := hidv (fun W (hW : Below w.heap.size w W) => implVF_any (.agg #[.slice A rs.length cA]) rs B W (hv.below (hW.mono hB)) (Nat.le_trans hB hW.size) hz hm d hd)
  have C2 := hidv (fun W (hW : Below w.heap.size w W) (hok : FamOk rs) (hk : 0 ≤ k ∧ k ≤ 1000000) => lengthsAt_any (.agg #[.slice A rs.length cA]) rs B k W (hv.below (hW.mono hB)) (Nat.le_trans hB hW.size) hok hk)
  have HD := hidv hd
  have HR := hidv hR
  obtain ⟨n, hn⟩ : ∃ n, rs.length = n := ⟨_, rfl⟩
  rw [hn] at hbl hbx C1 C2 ⊢
  clear hv hd hz hm hR hn
  obtain ⟨W, hW⟩ : ∃ W, w.alloc (.cells #[.slice A n cA] 48) = W := ⟨_, rfl⟩
  go_enter Try.func30, Try.ntmps30
  rw [hW] at hbl hbx
  have x0 := hbx.one
  go_wp2_with fail
  clear hW x0
  refine (C1.out _ hbl).mono ?_
  rintro e w1 ⟨rfl, hb1⟩
  have hbx1 := hbx.below hb1
  have hbl1 := below_on hbl hb1
  clear hb1 hbx hbl
  cases d
  · obtain ⟨rfl, rfl⟩ := HR.out.1 (fun h => by have := HD.out.mpr h; cases this)
    go_wp2_with fail
    go_ret2
    exact ⟨_, rfl, Ints.nil _ _, hbl1⟩
  · have hok : FamOk rs := HD.out.mp rfl
    by_cases hk : 0 ≤ k ∧ k ≤ 1000000
    · obtain ⟨rfl, rfl⟩ := HR.out.2.2 hok hk
      have C3 := hidv (fun W hW => C2.out W hW hok hk)
      obtain ⟨k0, k1⟩ := hk
      have q0 := hbx1.one
      have HBL := hidv hbl1
      clear hok C2
      go_wp2_with fail
      refine (C3.out _ HBL.out).mono ?_
      rintro e w2 ⟨u, rfl, hu, hb2⟩
      have HU := hidv (Ints.wider hu (base' := w.heap.size) HBL.out.size)
      have HB := hidv (below_on HBL.out hb2)
      obtain ⟨A2, c2, rfl, _⟩ := hu.row
      clear hu hb2
      go_wp2_with fail
      go_ret2
      refine ⟨_, rfl, ?_, HB.out⟩
      have h := HU.out
      rw [List.length_map, List.length_map] at h
      exact h
    · obtain ⟨rfl, rfl⟩ := HR.out.2.1 hok hk
      clear hok
      by_cases k0 : k < 0
      · go_wp2_with fail
        go_ret2
        exact ⟨_, rfl, Ints.nil _ _, hbl1⟩
      · have k1 : 1000000 < k := by omega
        clear hk
        go_wp2_with fail
        go_ret2
        exact ⟨_, rfl, Ints.nil _ _, hbl1⟩

set_option maxRecDepth 100000 in
set_option maxHeartbeats 1600000 in
theorem specFl_any (v : Value) (rs : List (List Pc)) (B : Nat) (k : Int) (w : World) (hv : Fam w B v rs) (hB : B ≤ w.heap.size) (hz : FamSz rs) (L : List Int) (c : Int) (hR : FlR rs k L c) :
    Calls Try.prog 29 #[v, .int .i64 k] w fun e w' => ∃ u, e = .returned (.tuple #[u, .int .i64 c]) ∧ Ints w' w.heap.size u L ∧ Below w.heap.size w w' := by
  obtain ⟨d, hd⟩ := iffB (FamOk rs)
  obtain ⟨i0, hi, hz0, hz1, hz2⟩ := info_parts Try.infoN
  obtain ⟨va, rfl, hr⟩ := hv.more hB
  obtain ⟨A, cA, rfl, hA⟩ := hr.at
  have hbl : Below w.heap.size w (w.alloc (.cells #[.slice A rs.length cA] 48)) := (Below.refl _ _).alloc (Nat.le_refl _) _
  have hbx := Bx.new w 48 #[.slice A rs.length cA]
  have C1 := hidv (fun W (hW : Below w.heap.size w W) (hx : Bx W w.heap.size 48 #[.slice A rs.length cA]) => l06Ok_any w.heap.size rs A cA w.heap.size W hx.one (hr.below hW) hW.size hz d hd)
  have C2 := hidv (fun W (hW : Below w.heap.size w W) j (hj : j < rs.length) (a : Option Addr) (cq : Nat) (hrow : QRow w w.heap.size (.slice a rs[j].length cq) rs[j]) (hok : RowOk rs[j]) (hk : 0 ≤ k ∧ k ≤ 1000000) => l06Length_any _ rs[j] w.heap.size k W (hrow.below hW) hW.size hok hk)
  have HD := hidv hd
  have HR := hidv hR
  have HA := hidv hA
  obtain ⟨n, hn⟩ : ∃ n, rs.length = n := ⟨_, rfl⟩
  rw [hn] at hbl hbx C1 ⊢
  have HN := hidv hn
  clear hv hd hz hR hn hA hr
  obtain ⟨W, hW⟩ : ∃ W, w.alloc (.cells #[.slice A n cA] 48) = W := ⟨_, rfl⟩
  go_enter Try.func29, Try.ntmps29
  rw [hW] at hbl hbx
  go_wp2_with fail
  clear hW
  refine (C1.out _ hbl hbx).mono ?_
  rintro e w1 ⟨rfl, hb1⟩
  have hbx1 := hbx.below hb1
  have hbl1 := below_on hbl hb1
  clear hb1 hbx hbl
  have hlit := World.ownsRow_lit (e := 2) (size := 1) (base := w.heap.size) w1 #[] 0 hbl1.size (Nat.zero_le _) rfl
  have hlb := below_al hbl1 (.cells #[] 2)
  cases d
  · obtain ⟨rfl, rfl⟩ := HR.out.1 (fun h => by have := HD.out.mpr h; cases this)
    have HLIT := hidv hlit
    clear hlit
    go_wp2_with fail
    go_ret2
    exact ⟨_, rfl, HLIT.out, hlb⟩
  · have hok : FamOk rs := HD.out.mp rfl
    obtain ⟨dk, hdk⟩ : ∃ dk, (decide (0 ≤ k) && decide (k ≤ 1000000)) = dk := ⟨_, rfl⟩
    have C3 := hidv (fun W => l00In_any k 0 1000000 W dk hdk)
    by_cases hk : 0 ≤ k ∧ k ≤ 1000000
    · obtain ⟨rfl, rfl⟩ := HR.out.2.2 hok hk
      obtain rfl : dk = true := by rw [← hdk]; simp [hk]
      have HOK := hidv hok
      have HK := hidv hk
      have hxl := hbx1.alloc (.cells #[] 2)
      have HLIT := hidv hlit
      have h4 := hok.1
      rw [HN.out] at h4
      subst h4
      clear hok hk hdk hlit hbx1
      go_wp2_with fail
      refine (C3.out _).mono ?_
      rintro e w' ⟨rfl, rfl⟩
      go_wp2_with fail
      obtain ⟨W0, hW0⟩ : ∃ W, w1.alloc (.cells #[] 2) = W := ⟨_, rfl⟩
      rw [hW0] at hlb hxl HLIT ⊢
      clear hW0
      have HBX := hidv hxl
      have HLB := hidv hlb
      clear hxl hlb hbl1
      go_loopw [6, 7] (fun v i wr => ∃ j : Nat, j ≤ 4 ∧ i = .int .i64 j ∧ Hid (World.ownsRow wr w.heap.size 2 1 v j (((rs.take j).map (gsum (pcLen k))).map (Value.int .i64))) ∧ Hid (Bx wr w.heap.size 48 #[.slice A 4 cA]) ∧ Hid (Below w.heap.size w wr)) (fun _ i _ => 4 - (intOf i).toNat)
      case atStart => exact ⟨0, by omega, rfl, HLIT, HBX, HLB⟩
      case round =>
        obtain ⟨j, hj, rfl, hown, hbx, hbe⟩ := hrel
        by_cases hlt4 : j < 4
        · have hjx : j < rs.length := by have := HN.out; omega
          obtain ⟨g, o, rfl, hg, hce⟩ := HA.out (by have := HN.out; omega)
          obtain ⟨a, cq, e0, r1⟩ := hce j hjx
          have x0 := hbx.out.one
          have c1 := (hbe.out.cell (p := ⟨g, o + j, none⟩) (by show g < w.heap.size; omega)).trans e0
          have hsu : (rs.take (j + 1)).map (gsum (pcLen k)) = (rs.take j).map (gsum (pcLen k)) ++ [gsum (pcLen k) rs[j]] := by
            rw [List.take_succ_eq_append_getElem hjx, List.map_append]
            rfl
          have HC := hidv (C2.out _ hbe.out j hjx a cq r1 (HOK.out.at j hjx) HK.out)
          obtain ⟨l, hl⟩ : ∃ l, rs[j].length = l := ⟨_, rfl⟩
          obtain ⟨t, ht⟩ : ∃ t, gsum (pcLen k) rs[j] = t := ⟨_, rfl⟩
          rw [hl] at c1 HC
          rw [ht] at HC hsu
          have HSU := hidv hsu
          have hlk := hbx.out.lt
          clear hce e0 r1 hsu hl ht
          go_wp2_with fail
          refine HC.out.mono ?_
          rintro e w2 ⟨rfl, q, rfl⟩
          have HO2 := hidv (show World.ownsRow (wr.drewN q) w.heap.size 2 1 _ _ _ from hown.out)
          have HBD := hidv (below_drewN hbe.out q)
          have HXD := hidv (show Bx (wr.drewN q) w.heap.size 48 #[.slice (some ⟨g, o, none⟩) 4 cA] from hbx.out)
          have hsz := hbe.out.size
          go_wp2_with (at_builtin; refine wpList_append_own _ rfl (.tmp 20) (.tmp 28) 22 rfl w.heap.size 2 i0 (.int .i64 0) 1 8 Try.underlying22 hi hz0 hz1 hz2 rfl (by decide) _ _ _ rfl (HO2.out.alloc _) ⟨wr.heap.size, 0, none⟩ 1 1 [.int .i64 t] rfl rfl (one_newL (wr.drewN q) _ _) (one_cellL _) ?_ ?_ ?_ ?_; (unfold maxLen; omega); omega; exact Nat.le_trans hsz (by simp); intro v1 w3 hown1 hgr1 _)
          go_roundw
          case rel =>
            refine ⟨j + 1, by omega, by go_num, hidv ?_, hidv ?_, hidv (growL HBD.out (Nat.le_refl _) HO2.out hgr1)⟩
            · rw [HSU.out, List.map_append]
              exact hown1
            · refine (HXD.out.alloc _).grown hgr1 (fun he => ?_)
              obtain ⟨_, _, e1⟩ := Go.Lib.ownsRow_kind HO2.out _ he.symm
              have e2 : (wr.drewN q).heap[w.heap.size]? = some (.cells #[.slice (some ⟨g, o, none⟩) 4 cA] 48 (0, 0)) := HXD.out
              rw [e1] at e2
              simp at e2
          case measure => simp [intOf]; omega
        · obtain rfl : j = 4 := by omega
          have he : rs.take 4 = rs := List.take_of_length_le (by have := HN.out; omega)
          go_wp2_with fail
          go_ret2
          refine ⟨_, rfl, ?_, hbe.out⟩
          have h := hown.out
          rw [he] at h
          unfold Ints
          rw [List.length_map, HN.out]
          exact h
    · obtain ⟨rfl, rfl⟩ := HR.out.2.1 hok hk
      obtain rfl : dk = false := by rw [← hdk, ← Bool.not_eq_true, Bool.and_eq_true, decide_eq_true_eq, decide_eq_true_eq]; exact hk
      have HLIT := hidv hlit
      clear hok hdk hk hlit
      go_wp2_with fail
      refine (C3.out _).mono ?_
      rintro e w' ⟨rfl, rfl⟩
      go_wp2_with fail
      go_ret2
      exact ⟨_, rfl, HLIT.out, hlb⟩

end Go.Proofs.Ythomkmbobaehkaa
