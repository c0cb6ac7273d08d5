/-
  Lengths of pieces and of lists of them for a number, in the program (a fold by a closure) and in the model: contracts.
-/
import Derived.Test.YtdnkdmmockoehaaGreatFv
import Derived.Test.YtdnkdmmockoehaaGreatMem
import Derived.BigQuiet
import Derived.Deep.QuietTactic
import Derived.Deep.RegionHeld3
namespace Go.Proofs.YtdnkdmmockoehaaGreat
open Go.RowKit Go
set_option linter.unusedVariables false

/-- How many letters a piece has for k. -/
def pcLen (k : Int) (p : Pc) : Int := (p.1.size : Int) * (p.2.1 + p.2.2 * k)
def gsum (g : Pc → Int) (ps : List Pc) : Int := (ps.map g).sum
theorem gsum_succ (g : Pc → Int) (ps : List Pc) (k : Nat) (h : k < ps.length) : gsum g (ps.take (k + 1)) = gsum g (ps.take k) + g ps[k] := by
  unfold gsum
  rw [List.take_succ_eq_append_getElem h, List.map_append, List.sum_append]
  simp
theorem gsum_bound (g : Pc → Int) (M : Nat) : ∀ (ps : List Pc), (∀ p ∈ ps, 0 ≤ g p ∧ g p ≤ M) → 0 ≤ gsum g ps ∧ gsum g ps ≤ M * ps.length
  | [], _ => by simp [gsum]
  | p :: ps, h => by
    have h1 := h p (by simp)
    have h2 := gsum_bound g M ps (fun q hq => h q (by simp [hq]))
    have e : gsum g (p :: ps) = g p + gsum g ps := by unfold gsum; simp
    have e2 : (M : Int) * ((p :: ps).length : Int) = M * (ps.length : Int) + M := by rw [List.length_cons]; push_cast; rw [Int.mul_add, Int.mul_one]
    rw [e, e2]
    omega
theorem mul3 {s k : Int} (hs : 0 ≤ s ∧ s ≤ 3) (hk : 0 ≤ k ∧ k ≤ 1000000) : 0 ≤ s * k ∧ s * k ≤ 3000000 := by
  obtain ⟨h1, h2⟩ := hs
  rcases (show s = 0 ∨ s = 1 ∨ s = 2 ∨ s = 3 by omega) with rfl | rfl | rfl | rfl <;> omega
theorem pcLen_bound {k : Int} {p : Pc} (h : PcOk p) (hk : 0 ≤ k ∧ k ≤ 1000000) : 0 ≤ pcLen k p ∧ pcLen k p ≤ (180003600 : Nat) := by
  have h1 := mul3 h.2.2.2 hk
  have h2 := h.2.2.1
  have h3 : p.1.size ≤ 60 := by have := Wd.wordB_len h.2.1; simpa using this
  unfold pcLen
  obtain ⟨t, ht⟩ : ∃ t, p.2.1 + p.2.2 * k = t := ⟨_, rfl⟩
  rw [ht]
  have h4 : 0 ≤ t ∧ t ≤ 3000060 := by omega
  obtain ⟨t, rfl⟩ := Int.eq_ofNat_of_zero_le h4.1
  have h5 : p.1.size * t ≤ 60 * 3000060 := Nat.mul_le_mul h3 (by omega)
  have h6 : ((p.1.size : Int) * (t : Int)) = ((p.1.size * t : Nat) : Int) := by push_cast; rfl
  rw [h6]
  omega

theorem timesP_any (x : ByteArray) (f s k : Int) (w : World) (hf : 0 ≤ f ∧ f ≤ 60) (hs : 0 ≤ s ∧ s ≤ 3) (hk : 0 ≤ k ∧ k ≤ 1000000) :
    Calls Tryz.prog 72 #[.agg #[.string x, .int .i64 f, .int .i64 s], .int .i64 k] w fun e w' => e = .returned (.int .i64 (f + s * k)) ∧ Below w.heap.size w w' := by
  have h1 := mul3 hs hk
  obtain ⟨h2, h3⟩ := h1
  obtain ⟨h4, h5⟩ := hf
  have hb1 : Below w.heap.size w (w.alloc (.cells #[.string x, .int .i64 f, .int .i64 s] 88)) := (Below.refl _ _).alloc (Nat.le_refl _) _
  go_enter Tryz.func72, Tryz.ntmps72
  go_wp2
  go_ret
  exact ⟨rfl, hb1⟩

set_option maxHeartbeats 800000 in
theorem lengthAt_any (x : ByteArray) (f s k : Int) (w : World) (hp : PcOk (x, f, s)) (hk : 0 ≤ k ∧ k ≤ 1000000) :
    Calls Tryz.prog 66 #[.agg #[.string x, .int .i64 f, .int .i64 s], .int .i64 k] w fun e w' => e = .returned (.int .i64 (pcLen k (x, f, s))) ∧ Below w.heap.size w w' := by
  have hb := pcLen_bound hp hk
  have C := hidv (fun W => timesP_any x f s k W hp.2.2.1 hp.2.2.2 hk)
  have hxs : x.size ≤ 60 := by have := Wd.wordB_len hp.2.1; simpa using this
  unfold pcLen at hb ⊢
  dsimp only at hb ⊢
  obtain ⟨t, ht⟩ : ∃ t, f + s * k = t := ⟨_, rfl⟩
  rw [ht] at hb C ⊢
  obtain ⟨hb0, hb1⟩ := hb
  have hbl : Below w.heap.size w (w.alloc (.cells #[.string x, .int .i64 f, .int .i64 s] 88)) := (Below.refl _ _).alloc (Nat.le_refl _) _
  have hbx := Bx.new w 88 #[.string x, .int .i64 f, .int .i64 s]
  clear ht hp hk
  go_enter Tryz.func66, Tryz.ntmps66
  obtain ⟨W, hW⟩ : ∃ W, w.alloc (.cells #[.string x, .int .i64 f, .int .i64 s] 88) = W := ⟨_, rfl⟩
  rw [hW] at hbl hbx
  have HS := hidv (fun w' (hw : Below W.heap.size W w') => (show w'.cell? ⟨w.heap.size, 0, none⟩ = some (.string x) ∧ w'.cell? ⟨w.heap.size, 1, none⟩ = some (.int .i64 f) ∧ w'.cell? ⟨w.heap.size, 2, none⟩ = some (.int .i64 s) ∧ Below W.heap.size W w' from ⟨(hbx.below hw).cell 0, (hbx.below hw).cell 1, (hbx.below hw).cell 2, hw⟩))
  have HB := hidv hbl
  clear hbx hbl
  go_wp2_with fail
  clear hW
  go_region_held3 (fun w' => w'.cell? ⟨w.heap.size, 0, none⟩ = some (.string x) ∧ w'.cell? ⟨w.heap.size, 1, none⟩ = some (.int .i64 f) ∧ w'.cell? ⟨w.heap.size, 2, none⟩ = some (.int .i64 s) ∧ Below W.heap.size W w') (first | exact HS.out _ (below_dr _) | exact HS.out _ (below_on (below_dr _) hbw)) (first | (go_at_call 72; refine (C.out _).mono ?_; rintro e w2 ⟨rfl, hbw⟩))
  have hbe := HB.out.trans ((below_on (below_dr _) hbw).mono HB.out.size)
  have hwr : IntKind.i64.wrap ((x.size : Int) * t) = (x.size : Int) * t := IntWalk.i64_in _ (by omega)
  go_wp2
  go_ret
  exact ⟨ret_int hwr, hbe⟩

set_option maxHeartbeats 400000 in
theorem closLen_any (x : ByteArray) (f s k : Int) (b : Nat) (w : World) (hp : PcOk (x, f, s)) (hk : 0 ≤ k ∧ k ≤ 1000000) (c0 : w.cell? ⟨b, 0, none⟩ = some (.int .i64 k)) :
    Calls Tryz.prog 65 #[.agg #[.string x, .int .i64 f, .int .i64 s], .pointer (some ⟨b, 0, none⟩)] w fun e w' => e = .returned (.int .i64 (pcLen k (x, f, s))) ∧ Below w.heap.size w w' := by
  have hlt : b < w.heap.size := World.block_lt_of_cell? _ _ c0
  have hbl : Below w.heap.size w (w.alloc (.cells #[.string x, .int .i64 f, .int .i64 s] 88)) := (Below.refl _ _).alloc (Nat.le_refl _) _
  have C := hidv (fun W => lengthAt_any x f s k W hp hk)
  have HB := hidv hbl
  clear hp hbl
  go_enter Tryz.func65, Tryz.ntmps65
  go_wp2_with fail
  refine (C.out _).mono ?_
  rintro e w1 ⟨rfl, hb1⟩
  have HB1 := hidv (below_on HB.out hb1)
  clear hb1
  go_wp2_with fail
  go_ret
  exact ⟨rfl, HB1.out⟩

set_option maxHeartbeats 400000 in
theorem closSumL_any (acc : Int) (x : ByteArray) (f s k : Int) (bo b : Nat) (w : World) (ha : 0 ≤ acc ∧ acc ≤ 100000000000) (hp : PcOk (x, f, s)) (hk : 0 ≤ k ∧ k ≤ 1000000) (c0 : w.cell? ⟨b, 0, none⟩ = some (.int .i64 k)) (c1 : w.cell? ⟨bo, 0, none⟩ = some (.func (.func 65) #[] #[.pointer (some ⟨b, 0, none⟩)])) :
    Calls Tryz.prog 85 #[.int .i64 acc, .agg #[.string x, .int .i64 f, .int .i64 s], .pointer (some ⟨bo, 0, none⟩)] w fun e w' => e = .returned (.int .i64 (acc + pcLen k (x, f, s))) ∧ Below w.heap.size w w' := by
  have hlt : bo < w.heap.size := World.block_lt_of_cell? _ _ c1
  have hlt2 : b < w.heap.size := World.block_lt_of_cell? _ _ c0
  have hbd := pcLen_bound hp hk
  have hbl : Below w.heap.size w (w.alloc (.cells #[.string x, .int .i64 f, .int .i64 s] 88)) := (Below.refl _ _).alloc (Nat.le_refl _) _
  have c0' := (hbl.cell (p := ⟨b, 0, none⟩) hlt2).trans c0
  have C := hidv (closLen_any x f s k b _ hp hk c0')
  obtain ⟨t, ht⟩ : ∃ t, pcLen k (x, f, s) = t := ⟨_, rfl⟩
  rw [ht] at C hbd ⊢
  obtain ⟨hb0, hb1⟩ := hbd
  obtain ⟨ha0, ha1⟩ := ha
  have HB := hidv hbl
  clear hp hbl ht c0' c0
  go_enter Tryz.func85, Tryz.ntmps85
  go_wp2_with fail
  refine C.out.mono ?_
  rintro e w1 ⟨rfl, hb1'⟩
  have HB1 := hidv (below_on HB.out hb1')
  clear hb1'
  go_wp2_with fail
  go_ret
  exact ⟨rfl, HB1.out⟩

set_option maxRecDepth 100000 in
set_option maxHeartbeats 800000 in
theorem foldP_any (g : Pc → Int) (ps : List Pc) (v : Value) (B bo : Nat) (w : World) (hv : QRow w B v ps) (hB : B ≤ w.heap.size) (hl : ps.length ≤ 1000)
    (hF : ∀ (j : Nat) (hj : j < ps.length) W, Below w.heap.size w W → Calls Tryz.prog 85 #[.int .i64 (gsum g (ps.take j)), .agg #[.string ps[j].1, .int .i64 ps[j].2.1, .int .i64 ps[j].2.2], .pointer (some ⟨bo, 0, none⟩)] W fun e w' => e = .returned (.int .i64 (gsum g (ps.take j) + g ps[j])) ∧ Below W.heap.size W w') :
    Calls Tryz.prog 84 #[v, .int .i64 0, .func (.func 85) #[] #[.pointer (some ⟨bo, 0, none⟩)]] w fun e w' => e = .returned (.int .i64 (gsum g ps)) ∧ Below w.heap.size w w' := by
  obtain ⟨A, c, rfl, hA⟩ := hv
  obtain ⟨n, hn⟩ : ∃ n, ps.length = n := ⟨_, rfl⟩
  have HA := hidv hA
  have HF := hidv hF
  rw [hn] at hl ⊢
  have HN := hidv hn
  clear hA hF hn
  go_enter Tryz.func84, Tryz.ntmps84
  go_wp2
  go_loopw [1, 11] (fun q i wr => ∃ k : Nat, k ≤ n ∧ i = .int .i64 k ∧ q = .int .i64 (gsum g (ps.take k)) ∧ Hid (Below w.heap.size w wr)) (fun _ i _ => n - (intOf i).toNat)
  case atStart => exact ⟨0, Nat.zero_le _, rfl, by simp [gsum], hidv (Below.refl _ _)⟩
  case round =>
    obtain ⟨k, hk, rfl, rfl, hbe⟩ := hrel
    by_cases hlt : k < n
    · have hkx : k < ps.length := by have := HN.out; omega
      obtain ⟨gg, o, rfl, hg, hce⟩ := HA.out (by omega)
      obtain ⟨e1, e2, e3⟩ := hce k hkx
      have c1 := (hbe.out.cell (p := ⟨gg, o + k * 3, none⟩) (by show gg < w.heap.size; omega)).trans e1
      have c2 := (hbe.out.cell (p := ⟨gg, o + k * 3 + 1, none⟩) (by show gg < w.heap.size; omega)).trans e2
      have c3 := (hbe.out.cell (p := ⟨gg, o + k * 3 + 2, none⟩) (by show gg < w.heap.size; omega)).trans e3
      have hsu := gsum_succ g ps k hkx
      have hbl := below_al hbe.out (.cells #[.string ps[k].1, .int .i64 ps[k].2.1, .int .i64 ps[k].2.2] 88)
      have HC := hidv (HF.out k hkx _ hbl)
      obtain ⟨⟨x, f, s⟩, hxy⟩ : ∃ p, ps[k] = p := ⟨_, rfl⟩
      rw [hxy] at c1 c2 c3 hsu HC hbl
      dsimp only at c1 c2 c3 HC hbl
      obtain ⟨t, ht⟩ : ∃ t, gsum g (ps.take k) = t := ⟨_, rfl⟩
      rw [ht] at hsu HC ⊢
      obtain ⟨t2, ht2⟩ : ∃ t2, t + g (x, f, s) = t2 := ⟨_, rfl⟩
      rw [ht2] at hsu HC
      have HSU := hidv hsu
      have HB := hidv hbl
      clear hxy hce e1 e2 e3 hsu hbl ht ht2
      go_wp2_with fail
      refine HC.out.mono ?_
      rintro e w2 ⟨rfl, hb2⟩
      have HB2 := hidv (below_on HB.out hb2)
      clear hb2
      go_wp2_with fail
      go_roundw
      case rel => exact ⟨k + 1, by omega, by go_num, by rw [HSU.out], HB2⟩
      case measure => simp [intOf]; omega
    · obtain rfl : k = n := by omega
      have he : ps.take k = ps := List.take_of_length_le (by have := HN.out; omega)
      rw [he]
      go_wp2
      go_ret
      exact ⟨rfl, hbe.out⟩

end Go.Proofs.YtdnkdmmockoehaaGreat
