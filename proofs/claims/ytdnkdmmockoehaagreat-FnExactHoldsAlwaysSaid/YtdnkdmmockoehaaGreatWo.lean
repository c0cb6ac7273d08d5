/-
  The word that a list of pieces is for a number, in the program (a fold by a closure) and in the model: contracts.
-/
import Derived.Test.YtdnkdmmockoehaaGreatLe6
import Derived.Test.YtdnkdmmockoehaaGreatByO
namespace Go.Proofs.YtdnkdmmockoehaaGreat
open Go.RowKit Go
set_option linter.unusedVariables false

def pcTimes (k : Int) (p : Pc) : Nat := (p.2.1 + p.2.2 * k).toNat
def wordQ (k : Int) (ps : List Pc) : List UInt8 := ps.flatMap fun p => Lib.repeatL p.1.data.toList (pcTimes k p)
theorem wordQ_succ (k : Int) (ps : List Pc) (j : Nat) (h : j < ps.length) : wordQ k (ps.take (j + 1)) = wordQ k (ps.take j) ++ Lib.repeatL ps[j].1.data.toList (pcTimes k ps[j]) := by
  unfold wordQ
  rw [List.take_succ_eq_append_getElem h, List.flatMap_append]
  simp
theorem pcTimes_val {k : Int} {p : Pc} (h : PcOk p) (hk : 0 ≤ k ∧ k ≤ 1000000) : ((pcTimes k p : Nat) : Int) = p.2.1 + p.2.2 * k ∧ pcTimes k p ≤ 3000060 := by
  have h1 := mul3 h.2.2.2 hk
  have h2 := h.2.2.1
  unfold pcTimes
  obtain ⟨t, ht⟩ : ∃ t, p.2.1 + p.2.2 * k = t := ⟨_, rfl⟩
  rw [ht]
  omega
theorem pcLen_nat {k : Int} {p : Pc} (h : PcOk p) (hk : 0 ≤ k ∧ k ≤ 1000000) : pcLen k p = ((p.1.size * pcTimes k p : Nat) : Int) := by
  unfold pcLen
  rw [← (pcTimes_val h hk).1]
  push_cast
  rfl
theorem wordQ_len {k : Int} (hk : 0 ≤ k ∧ k ≤ 1000000) : ∀ (ps : List Pc), (∀ p ∈ ps, PcOk p) → ((wordQ k ps).length : Int) = gsum (pcLen k) ps
  | [], _ => by simp [wordQ, gsum]
  | p :: ps, h => by
    have h1 := wordQ_len hk ps (fun q hq => h q (by simp [hq]))
    have e : gsum (pcLen k) (p :: ps) = pcLen k p + gsum (pcLen k) ps := by unfold gsum; simp
    have e2 : wordQ k (p :: ps) = Lib.repeatL p.1.data.toList (pcTimes k p) ++ wordQ k ps := by unfold wordQ; simp
    rw [e, e2, List.length_append, Lib.repeatL_length, ← h1, pcLen_nat (h p (by simp)) hk]
    have : p.1.data.toList.length = p.1.size := by simp
    rw [this, Nat.mul_comm]
    push_cast
    rfl
theorem gsum_take_le {k : Int} (hk : 0 ≤ k ∧ k ≤ 1000000) {ps : List Pc} (h : ∀ p ∈ ps, PcOk p) (j : Nat) : gsum (pcLen k) (ps.take j) ≤ gsum (pcLen k) ps := by
  have e : gsum (pcLen k) ps = gsum (pcLen k) (ps.take j) + gsum (pcLen k) (ps.drop j) := by
    unfold gsum
    rw [← List.sum_append, ← List.map_append, List.take_append_drop]
  have := (gsum_bound (pcLen k) 180003600 (ps.drop j) (fun p hp => pcLen_bound (h p (List.mem_of_mem_drop hp)) hk)).1
  omega

set_option maxHeartbeats 800000 in
theorem closW_any (o x : ByteArray) (f s k : Int) (b : Nat) (w : World) (ho : o.size ≤ 1000000) (hp : PcOk (x, f, s)) (hk : 0 ≤ k ∧ k ≤ 1000000) (hl : x.size * pcTimes k (x, f, s) ≤ 1000000) (c0 : w.cell? ⟨b, 0, none⟩ = some (.int .i64 k)) :
    Calls Tryz.prog 70 #[.string o, .agg #[.string x, .int .i64 f, .int .i64 s], .pointer (some ⟨b, 0, none⟩)] w fun e w' => e = .returned (.string (o ++ ⟨(Lib.repeatL x.data.toList (pcTimes k (x, f, s))).toArray⟩)) ∧ Below w.heap.size w w' := by
  have hlt : b < w.heap.size := World.block_lt_of_cell? _ _ c0
  have hv := pcTimes_val hp hk
  have C1 := fun W => timesP_any x f s k W hp.2.2.1 hp.2.2.2 hk
  obtain ⟨t, ht⟩ : ∃ t, pcTimes k (x, f, s) = t := ⟨_, rfl⟩
  rw [ht] at hv hl ⊢
  dsimp only at hv
  rw [← hv.1] at C1
  have C2 := fun W => Tryz.strings_Repeat x t W (by omega) (by omega)
  have hrs : (⟨(Lib.repeatL x.data.toList t).toArray⟩ : ByteArray).size ≤ 1000000 := by
    show (Lib.repeatL x.data.toList t).toArray.size ≤ _
    simp [Lib.repeatL_length]
    rw [Nat.mul_comm]
    exact hl
  obtain ⟨r, hr⟩ : ∃ r : ByteArray, ⟨(Lib.repeatL x.data.toList t).toArray⟩ = r := ⟨_, rfl⟩
  have hr2 : (({ data := (Lib.repeatL x.data.toList t).toArray } : ByteArray)) = r := hr
  rw [hr2] at C2
  rw [hr] at hrs ⊢
  have hcat : ¬ (9223372036854775807 < o.size + r.size) := by omega
  have hbl : Below w.heap.size w (w.alloc (.cells #[.string x, .int .i64 f, .int .i64 s] 88)) := (Below.refl _ _).alloc (Nat.le_refl _) _
  have hbx := Bx.new w 88 #[.string x, .int .i64 f, .int .i64 s]
  have HC1 := hidv C1
  have HC2 := hidv C2
  clear ht hp hk hv C1 C2 hr hr2 hl hrs
  go_enter Tryz.func70, Tryz.ntmps70
  obtain ⟨W, hW⟩ : ∃ W, w.alloc (.cells #[.string x, .int .i64 f, .int .i64 s] 88) = W := ⟨_, rfl⟩
  rw [hW] at hbl hbx
  have c0' := (hbl.cell (p := ⟨b, 0, none⟩) hlt).trans c0
  have hbW : b < W.heap.size := by have := hbl.size; omega
  have HS := hidv (fun w' (hw : Below W.heap.size W w') => (show w'.cell? ⟨w.heap.size, 0, none⟩ = some (.string x) ∧ w'.cell? ⟨w.heap.size, 1, none⟩ = some (.int .i64 f) ∧ w'.cell? ⟨w.heap.size, 2, none⟩ = some (.int .i64 s) ∧ w'.cell? ⟨b, 0, none⟩ = some (.int .i64 k) ∧ Below W.heap.size W w' from ⟨(hbx.below hw).cell 0, (hbx.below hw).cell 1, (hbx.below hw).cell 2, (hw.cell (p := ⟨b, 0, none⟩) hbW).trans c0', hw⟩))
  have HB := hidv hbl
  clear hbx hbl c0' c0
  go_wp2_with fail
  clear hW
  have rf0 : Below W.heap.size W W := Below.refl _ _
  go_region_held3 (fun w' => w'.cell? ⟨w.heap.size, 0, none⟩ = some (.string x) ∧ w'.cell? ⟨w.heap.size, 1, none⟩ = some (.int .i64 f) ∧ w'.cell? ⟨w.heap.size, 2, none⟩ = some (.int .i64 s) ∧ w'.cell? ⟨b, 0, none⟩ = some (.int .i64 k) ∧ Below W.heap.size W w') (exact HS.out _ (by repeat (first | with_reducible assumption | with_reducible exact Below.refl _ _ | with_reducible refine Below.drew ?_ | with_reducible refine below_al ?_ _))) (first | (go_at_call 72; refine (HC1.out _).mono ?_; rintro e w2 ⟨rfl, hbw⟩; have hbw1 := below_on (show Below W.heap.size W _ from by repeat (first | with_reducible assumption | with_reducible exact Below.refl _ _ | with_reducible refine Below.drew ?_ | with_reducible refine below_al ?_ _)) hbw) | (go_at_call 71; refine (HC2.out _).mono ?_; rintro e w3 ⟨rfl, hbz⟩; have hbw2 := below_on hbw1 hbz))
  have hbe := HB.out.trans (hbw2.mono HB.out.size)
  go_wp2
  go_ret
  exact ⟨rfl, hbe⟩

/-- The word of a list of pieces, as a text. -/
def wordV (k : Int) (ps : List Pc) : ByteArray := ⟨(wordQ k ps).toArray⟩
theorem wordV_size (k : Int) (ps : List Pc) : (wordV k ps).size = (wordQ k ps).length := by
  show (wordQ k ps).toArray.size = _
  simp
theorem wordV_succ (k : Int) (ps : List Pc) (j : Nat) (h : j < ps.length) : wordV k (ps.take j) ++ ⟨(Lib.repeatL ps[j].1.data.toList (pcTimes k ps[j])).toArray⟩ = wordV k (ps.take (j + 1)) := by
  apply ByteArray.ext
  apply Array.toList_inj.mp
  unfold wordV
  rw [wordQ_succ k ps j h]
  simp

set_option maxRecDepth 100000 in
set_option maxHeartbeats 800000 in
theorem foldW_any (ps : List Pc) (k : Int) (v : Value) (B b : Nat) (w : World) (hv : QRow w B v ps) (hB : B ≤ w.heap.size) (hok : RowOk ps) (hk : 0 ≤ k ∧ k ≤ 1000000) (htot : gsum (pcLen k) ps ≤ 1000000) (c0 : w.cell? ⟨b, 0, none⟩ = some (.int .i64 k)) :
    Calls Tryz.prog 69 #[v, .string ⟨#[]⟩, .func (.func 70) #[] #[.pointer (some ⟨b, 0, none⟩)]] w fun e w' => e = .returned (.string (wordV k ps)) ∧ Below w.heap.size w w' := by
  obtain ⟨A, c, rfl, hA⟩ := hv
  obtain ⟨n, hn⟩ : ∃ n, ps.length = n := ⟨_, rfl⟩
  have hlt0 : b < w.heap.size := World.block_lt_of_cell? _ _ c0
  have hl : ps.length ≤ 4 := hok.1
  have HA := hidv hA
  have HOK := hidv hok
  have HTOT := hidv htot
  rw [hn] at hl ⊢
  have HN := hidv hn
  clear hA hok htot hn
  go_enter Tryz.func69, Tryz.ntmps69
  go_wp2
  go_loopw [1, 11] (fun q i wr => ∃ j : Nat, j ≤ n ∧ i = .int .i64 j ∧ q = .string (wordV k (ps.take j)) ∧ Hid (Below w.heap.size w wr)) (fun _ i _ => n - (intOf i).toNat)
  case atStart => exact ⟨0, Nat.zero_le _, rfl, by simp [wordV, wordQ], hidv (Below.refl _ _)⟩
  case round =>
    obtain ⟨j, hj, rfl, rfl, hbe⟩ := hrel
    by_cases hlt : j < n
    · have hkx : j < ps.length := by have := HN.out; omega
      obtain ⟨gg, o, rfl, hg, hce⟩ := HA.out (by omega)
      obtain ⟨e1, e2, e3⟩ := hce j hkx
      have c1 := (hbe.out.cell (p := ⟨gg, o + j * 3, none⟩) (by show gg < w.heap.size; omega)).trans e1
      have c2 := (hbe.out.cell (p := ⟨gg, o + j * 3 + 1, none⟩) (by show gg < w.heap.size; omega)).trans e2
      have c3 := (hbe.out.cell (p := ⟨gg, o + j * 3 + 2, none⟩) (by show gg < w.heap.size; omega)).trans e3
      have hpo := HOK.out.2 ps[j] (List.getElem_mem _)
      have hlen := wordQ_len hk (ps.take j) (fun p hp => HOK.out.2 p (List.mem_of_mem_take hp))
      have hle := gsum_take_le hk HOK.out.2 j
      have hle2 := gsum_take_le hk HOK.out.2 (j + 1)
      have hsu0 := gsum_succ (pcLen k) ps j hkx
      have hnn := (gsum_bound (pcLen k) 180003600 (ps.take j) (fun p hp => pcLen_bound (HOK.out.2 p (List.mem_of_mem_take hp)) hk)).1
      have htt := HTOT.out
      rw [pcLen_nat hpo hk] at hsu0
      have hsz := wordV_size k (ps.take j)
      have hsu := wordV_succ k ps j hkx
      have hbl := below_al hbe.out (.cells #[.string ps[j].1, .int .i64 ps[j].2.1, .int .i64 ps[j].2.2] 88)
      have HC := hidv (closW_any (wordV k (ps.take j)) ps[j].1 ps[j].2.1 ps[j].2.2 k b _ (by omega) hpo hk (by show ps[j].1.size * pcTimes k ps[j] ≤ _; omega) ((hbl.cell (p := ⟨b, 0, none⟩) hlt0).trans c0))
      rw [show (ps[j].1, ps[j].2.1, ps[j].2.2) = ps[j] from rfl, hsu] at HC
      obtain ⟨⟨x, f, s⟩, hxy⟩ : ∃ p, ps[j] = p := ⟨_, rfl⟩
      rw [hxy] at c1 c2 c3 HC hbl
      dsimp only at c1 c2 c3 HC hbl
      obtain ⟨t, ht⟩ : ∃ t, wordV k (ps.take j) = t := ⟨_, rfl⟩
      rw [ht] at HC ⊢
      have HB := hidv hbl
      clear hxy hce e1 e2 e3 hsu hbl ht hsz hsu0 hnn htt hle hle2 hlen hpo
      go_wp2_with fail
      refine HC.out.mono ?_
      rintro e w2 ⟨rfl, hb2⟩
      have HB2 := hidv (below_on HB.out hb2)
      clear hb2
      go_wp2_with fail
      go_roundw
      case rel => exact ⟨j + 1, by omega, by go_num, rfl, HB2⟩
      case measure => simp [intOf]; omega
    · obtain rfl : j = n := by omega
      have he : ps.take j = ps := List.take_of_length_le (by have := HN.out; omega)
      rw [he]
      go_wp2
      go_ret
      exact ⟨rfl, hbe.out⟩

theorem valueAt_any (ps : List Pc) (k : Int) (v : Value) (B : Nat) (w : World) (hv : QRow w B v ps) (hB : B ≤ w.heap.size) (hok : RowOk ps) (hk : 0 ≤ k ∧ k ≤ 1000000) (htot : gsum (pcLen k) ps ≤ 1000000) :
    Calls Tryz.prog 44 #[v, .int .i64 k] w fun e w' => e = .returned (.string (wordV k ps)) ∧ Below w.heap.size w w' := by
  have hbl : Below w.heap.size w (w.alloc (.cells #[.int .i64 k] 2)) := (Below.refl _ _).alloc (Nat.le_refl _) _
  have hbx := Bx.new w 2 #[.int .i64 k]
  have C := hidv (foldW_any ps k v B w.heap.size _ (hv.below (hbl.mono hB)) (Nat.le_trans hB hbl.size) hok hk htot hbx.one)
  obtain ⟨A, c, rfl, _⟩ := hv
  have HB := hidv hbl
  clear hok htot hbl hbx
  go_enter Tryz.func44, Tryz.ntmps44
  go_wp2_with fail
  refine C.out.mono ?_
  rintro e w1 ⟨rfl, hb1⟩
  have HB1 := hidv (below_on HB.out hb1)
  clear hb1
  go_wp2_with fail
  go_ret
  exact ⟨rfl, HB1.out⟩

set_option maxRecDepth 100000 in
set_option maxHeartbeats 1600000 in
theorem l06Word_any (ps : List Pc) (k : Int) (v : Value) (B : Nat) (w : World) (hv : QRow w B v ps) (hB : B ≤ w.heap.size) (hok : RowOk ps) (hk : 0 ≤ k ∧ k ≤ 1000000) (htot : gsum (pcLen k) ps ≤ 1000000) :
    Calls Tryz.prog 34 #[v, .int .i64 k] w fun e w' => e = .returned (.string (wordV k ps)) ∧ Below w.heap.size w w' := by
  obtain ⟨i0, hi, hz0, hz1, hz2⟩ := info_parts Tryz.infoU8
  obtain ⟨A, c, rfl, hA⟩ := hv
  obtain ⟨n, hn⟩ : ∃ n, ps.length = n := ⟨_, rfl⟩
  have hl : ps.length ≤ 4 := hok.1
  have HA := hidv hA
  have HOK := hidv hok
  have HTOT := hidv htot
  rw [hn] at hl ⊢
  have HN := hidv hn
  clear hA hok htot hn
  have hlit : BytO (w.alloc (.cells #[] 5)) w.heap.size (.slice (some ⟨w.heap.size, 0, none⟩) 0 0) [] := World.ownsRow_lit (e := 5) (size := 1) (base := w.heap.size) w #[] 0 (Nat.le_refl _) (Nat.zero_le _) rfl
  have HLIT := hidv hlit
  clear hlit
  go_enter Tryz.func34, Tryz.ntmps34
  go_wp2
  go_loopw [5, 6] (fun q i wr => ∃ j : Nat, j ≤ n ∧ i = .int .i64 j ∧ Hid (BytO wr w.heap.size q (wordQ k (ps.take j))) ∧ Hid (Below w.heap.size w wr)) (fun _ i _ => n - (intOf i).toNat)
  case atStart => exact ⟨0, Nat.zero_le _, rfl, hidv (by simpa [wordQ] using HLIT.out), hidv (below_al (Below.refl _ _) _)⟩
  case round =>
    obtain ⟨j, hj, rfl, hown, hbe⟩ := hrel
    by_cases hlt : j < n
    · have hkx : j < ps.length := by have := HN.out; omega
      obtain ⟨gg, o, rfl, hg, hce⟩ := HA.out (by omega)
      obtain ⟨e1, e2, e3⟩ := hce j hkx
      have c2 := (hbe.out.cell (p := ⟨gg, o + j * 3 + 1, none⟩) (by show gg < w.heap.size; omega)).trans e2
      have c3 := (hbe.out.cell (p := ⟨gg, o + j * 3 + 2, none⟩) (by show gg < w.heap.size; omega)).trans e3
      have hpo := HOK.out.2 ps[j] (List.getElem_mem _)
      have hm3 := mul3 hpo.2.2.2 hk
      have hf := hpo.2.2.1
      have htv := pcTimes_val hpo hk
      have hlen := wordQ_len hk (ps.take j) (fun p hp => HOK.out.2 p (List.mem_of_mem_take hp))
      have hle2 := gsum_take_le hk HOK.out.2 (j + 1)
      have hsu0 := gsum_succ (pcLen k) ps j hkx
      have htt := HTOT.out
      rw [pcLen_nat hpo hk] at hsu0
      have hws := wordQ_succ k ps j hkx
      obtain ⟨T, hT⟩ : ∃ T, pcTimes k ps[j] = T := ⟨_, rfl⟩
      rw [hT] at htv hsu0 hws
      obtain ⟨⟨x, f, s⟩, hxy⟩ : ∃ p, ps[j] = p := ⟨_, rfl⟩
      rw [hxy] at e1 c2 c3 hm3 hf htv hsu0 hws
      dsimp only at e1 c2 c3 hm3 hf htv hsu0 hws
      obtain ⟨l, hlq⟩ : ∃ l, wordQ k (ps.take j) = l := ⟨_, rfl⟩
      rw [hlq] at hown hlen hws
      have hbnd : l.length + x.size * T ≤ 1000000 := by omega
      have hsk : s * k = (T : Int) - f := by omega
      have hT2 := htv.2
      obtain ⟨hm0, hm1⟩ := hm3
      obtain ⟨hf0, hf1⟩ := hf
      have ew : IntKind.i64.wrap (s * k) = s * k := IntWalk.i64_in _ (by omega)
      have HWS := hidv hws
      have E1 := hidv e1
      have htf : f + s * k = (T : Int) := htv.1.symm
      have HTF := hidv htf
      have i1 : (0 : Int) ≤ (j : Int) := by omega
      have i2 : (j : Int) < (n : Int) := by omega
      have HBND := hidv hbnd
      clear hxy hce e1 e2 e3 hT hpo hlen hle2 hsu0 htt hws hlq htv hsk htf hbnd
      go_wp2_with fail
      go_quiet (fail)
      go_wp2_with fail
      rw [HTF.out]
      clear c2 c3
      go_loopw [5, 7] (fun q t wq => ∃ r : Nat, r ≤ T ∧ t = .int .i64 (r : Int) ∧ Hid (BytO wq w.heap.size q (l ++ Lib.repeatL x.data.toList (T - r))) ∧ Hid (Below w.heap.size w wq)) (fun _ t _ => (intOf t).toNat)
      case atStart => exact ⟨T, Nat.le_refl _, rfl, hidv (by rw [Nat.sub_self, Lib.repeatL, List.append_nil]; exact hown.out), hidv (below_drewN hbe.out _)⟩
      case round =>
        obtain ⟨r, hr, rfl, hbo, hbq⟩ := hrel
        by_cases hr0 : 0 < r
        · have c1 := (hbq.out.cell (p := ⟨gg, o + j * 3, none⟩) (by show gg < w.heap.size; omega)).trans E1.out
          have hrl : Lib.repeatL x.data.toList (T - (r - 1)) = Lib.repeatL x.data.toList (T - r) ++ x.data.toList := by
            rw [show T - (r - 1) = (T - r) + 1 by omega, Lib.repeatL_add, Lib.repeatL_one]
          have hlen : (l ++ Lib.repeatL x.data.toList (T - r)).length + x.size ≤ 1000000 := by
            have h1 := HBND.out
            have h2 : x.data.toList.length = x.size := by simp
            rw [List.length_append, Lib.repeatL_length, h2]
            have h3 : (T - r) * x.size + x.size ≤ x.size * T := by
              rw [show (T - r) * x.size + x.size = (T - r + 1) * x.size by rw [Nat.add_mul, Nat.one_mul], Nat.mul_comm]
              exact Nat.mul_le_mul_left _ (by omega)
            omega
          obtain ⟨m, hm⟩ : ∃ m, l ++ Lib.repeatL x.data.toList (T - r) = m := ⟨_, rfl⟩
          rw [hm] at hbo hlen
          have hbo' : World.ownsRow wr w.heap.size 5 1 _ m.length (m.map fun b => Value.int .u8 (b.toNat : Int)) := hbo.out
          have hsz := hbq.out.size
          have HM := hidv hm
          have HRL := hidv hrl
          clear hm hrl
          go_wp2_with (at_builtin; refine Lib.wpList_append_own_string _ rfl _ _ 95 9 rfl w.heap.size 5 i0 Tryz.underlying95 Tryz.underlying9 hi hz0 hz1 hz2 _ _ _ rfl hbo' x rfl ?c3 ?c4 ?c5 ?_)
          case c3 => unfold maxLen; omega
          case c4 => omega
          case c5 => omega
          intro v' w2 hown' hgrow _
          have HBY := hidv (BytO.app hown' rfl)
          have HB2 := hidv (hbq.out.grown hgrow hsz (fun k hk => (World.ownsRow.lt hbo' k hk).1))
          clear hown' hgrow c1
          go_wp2_with fail
          go_roundw
          case rel =>
            refine ⟨r - 1, by omega, by go_num, hidv ?_, HB2⟩
            rw [HRL.out, ← List.append_assoc, HM.out]
            exact HBY.out
          case measure => simp [intOf]; omega
        · obtain rfl : r = 0 := by omega
          rw [Nat.sub_zero, ← HWS.out] at hbo
          go_wp2_with fail
          go_roundw
          case rel => exact ⟨j + 1, by omega, by go_num, hbo, hbq⟩
          case measure => simp [intOf]; omega
    · obtain rfl : j = n := by omega
      have he : ps.take j = ps := List.take_of_length_le (by have := HN.out; omega)
      rw [he] at hown
      have hcv := BytO.conv hown.out
      go_wp2
      go_ret
      exact ⟨rfl, hbe.out⟩

end Go.Proofs.YtdnkdmmockoehaaGreat
