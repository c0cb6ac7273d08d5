/-
  The model's map of a word: a contract.
-/
import Derived.Test.YtjoleenehdfkkaaL5
namespace Go.Proofs.Ytjoleenehdfkkaa
open Go.RowKit Go
set_option linter.unusedVariables false

/-- Where a word leads, for each of the first k states. -/
def mapI (ns : List (List Int)) (w : List UInt8) (k : Nat) : List Int := (List.range k).map fun s => (runM ns w s : Int)
theorem mapI_len (ns : List (List Int)) (w : List UInt8) (k : Nat) : (mapI ns w k).length = k := by simp [mapI]
theorem mapI_succ (ns : List (List Int)) (w : List UInt8) (k : Nat) : mapI ns w (k + 1) = mapI ns w k ++ [(runM ns w k : Int)] := by simp [mapI, List.range_succ]
theorem runM_snoc (ns : List (List Int)) (w : List UInt8) (c : UInt8) (s : Nat) : runM ns (w ++ [c]) s = ((ns.getD (runM ns w s) []).getD (c.toNat - 97) 0).toNat := by simp [runM]

theorem app5 {w : World} {base : Nat} {v : Value} {xs : List Int} {x : Int} {n : Nat} (h : w.ownsRow base 2 1 v (n + 1) (xs.map (Value.int .i64) ++ [.int .i64 x])) (hn : n = xs.length) : Ints w base v (xs ++ [x]) := by
  subst hn
  unfold Ints
  rw [List.length_append, List.map_append]
  exact h

set_option maxRecDepth 100000 in
set_option maxHeartbeats 3200000 in
theorem l05Map_any (b : Nat) (s : Int) (ns es : List (List Int)) (A P : Option Addr) (ca cp B : Nat) (x : ByteArray) (w : World) (c0 : w.cell? ⟨b, 0, none⟩ = some (.int .i64 s)) (c1 : w.cell? ⟨b, 1, none⟩ = some (.slice A ns.length ca)) (c2 : w.cell? ⟨b, 2, none⟩ = some (.slice P es.length cp))
    (hv : IRows w B (.slice A ns.length ca) ns) (hB : B ≤ w.heap.size) (hb : b < w.heap.size) (hok : BndOk s ns es) (hx : Wd.wordB x.data.toList = true) :
    Calls Try.prog 67 #[.pointer (some ⟨b, 0, none⟩), .string x] w fun e w' => ∃ v, e = .returned v ∧ Ints w' w.heap.size v (mapI ns x.data.toList ns.length) ∧ Below w.heap.size w w' := by
  obtain ⟨i0, hi, hz0, hz1, hz2⟩ := info_parts Try.infoI5
  obtain ⟨_, _, hve, hA⟩ := hv.at
  simp only [Value.slice.injEq] at hve
  obtain ⟨rfl, -, rfl⟩ := hve
  have hlen : x.size ≤ 60 := by simpa using Wd.wordB_len hx
  have HW := hidv (wordOk_of hx)
  have HOK := hidv hok
  have hn4 := hok.1
  obtain ⟨n, hn⟩ : ∃ n, ns.length = n := ⟨_, rfl⟩
  have HROWS := hidv (show ∀ i (h : i < ns.length), ns[i].length = 4 from fun i h => (hok.2.2.2.1 i h).1)
  have HA := hidv hA
  rw [hn] at c1 hn4 ⊢
  obtain ⟨hn1, hn2⟩ := hn4
  have HN := hidv hn
  have HC1 := hidv c1
  clear hA hok hx hn hv c0 c2 c1
  have hlit := World.ownsRow_lit (e := 2) (size := 1) (base := w.heap.size) w #[] 0 (Nat.le_refl _) (Nat.zero_le _) rfl
  have HLIT := hidv hlit
  clear hlit
  have HB0 := hidv (show Below w.heap.size w (w.alloc (.cells #[] 2)) from (Below.refl _ _).alloc (Nat.le_refl _) _)
  go_enter Try.func67, Try.ntmps67
  go_wp2_with fail
  go_loopw [5, 6] (fun v i wr => ∃ k : Nat, k ≤ n ∧ i = .int .i64 k ∧ Hid (World.ownsRow wr w.heap.size 2 1 v k ((mapI ns x.data.toList k).map (Value.int .i64))) ∧ Hid (Below w.heap.size w wr)) (fun _ i _ => n - (intOf i).toNat)
  case atStart => exact ⟨0, by omega, rfl, HLIT, HB0⟩
  case round =>
    obtain ⟨k, hk, rfl, hown, hbe⟩ := hrel
    have e1 := (hbe.out.cell (p := ⟨b, 1, none⟩) hb).trans HC1.out
    by_cases hlt : k < n
    · obtain ⟨WO, hWO⟩ : ∃ W, wr = W := ⟨_, rfl⟩
      rw [hWO] at hown hbe e1 ⊢
      clear hWO
      have i1 : (0 : Int) ≤ (k : Int) := by omega
      have i2 : (k : Int) < (n : Int) := by omega
      go_wp2_with fail
      go_loopw [7, 8] (fun t i wq => ∃ (q T : Nat), q ≤ x.size ∧ i = .int .i64 q ∧ t = .int .i64 (T : Int) ∧ T < n ∧ Hid (runM ns (x.data.toList.take q) k = T) ∧ ∃ m, wq = WO.drewN m) (fun _ i _ => x.size - (intOf i).toNat)
      case atStart => exact ⟨0, k, by omega, rfl, rfl, hlt, hidv rfl, 0, rfl⟩
      case round =>
        obtain ⟨q, T, hq, rfl, rfl, hT, hrun, mm, rfl⟩ := hrel
        by_cases hql : q < x.size
        · have hqx : q < x.data.toList.length := by simpa using hql
          have hTn : T < ns.length := by have := HN.out; omega
          obtain ⟨c, hc⟩ : ∃ c, x.data.toList[q] = c := ⟨_, rfl⟩
          obtain ⟨hc1, hc2⟩ := HW.out c (by rw [← hc]; exact List.getElem_mem _)
          have hix : x[q]'hql = c := by
            rw [← hc]
            simp [ByteArray.getElem_eq_getElem_data]
          obtain ⟨p, hp⟩ : ∃ p, c.toNat - 97 = p := ⟨_, rfl⟩
          have hp4 : p < 4 := by omega
          have j5 : (c.toNat : Int) - 97 = (p : Int) := by omega
          have j6 : (0 : Int) ≤ (p : Int) := by omega
          have j7 : (p : Int) < 4 := by omega
          have j1 : (0 : Int) ≤ (q : Int) := by omega
          have j2 : (q : Int) < (x.size : Int) := by omega
          have j3 : (0 : Int) ≤ (T : Int) := by omega
          have j4 : (T : Int) < (n : Int) := by omega
          obtain ⟨g, o, rfl, hg, hce⟩ := HA.out (by omega)
          obtain ⟨a, cq, e0, r0⟩ := hce T hTn
          have hl4 := HROWS.out T hTn
          have e2 := (hbe.out.cell (p := ⟨g, o + T, none⟩) (by show g < w.heap.size; omega)).trans e0
          obtain ⟨Ar, cr, hre, hrc⟩ := r0.below (hbe.out.mono hB)
          simp only [Value.slice.injEq] at hre
          obtain ⟨rfl, -, rfl⟩ := hre
          obtain ⟨gr, og, rfl, hgr, hcr⟩ := hrc (by simp [ints]; omega)
          have hpl : p < ns[T].length := by rw [hl4]; exact hp4
          have e3 := hcr p _ (map_int_at hpl)
          have hstep := step_lt HOK.out hTn hp4
          have hsn : runM ns (x.data.toList.take (q + 1)) k = ((ns.getD T []).getD p 0).toNat := by
            rw [List.take_succ_eq_append_getElem hqx, hc, runM_snoc, hrun.out, hp]
          have hval : (ns.getD T []).getD p 0 = ns[T][p]'hpl := by
            have h1 : ns.getD T [] = ns[T] := by rw [List.getD_eq_getElem?_getD, List.getElem?_eq_getElem hTn]; rfl
            rw [h1, List.getD_eq_getElem?_getD, List.getElem?_eq_getElem hpl]; rfl
          have hpos := (HOK.out.2.2.2.1 T hTn).2 p hpl
          obtain ⟨U, hU⟩ : ∃ U : Nat, ns[T][p]'hpl = (U : Int) := ⟨(ns[T][p]'hpl).toNat, by omega⟩
          rw [hval, hU] at hstep hsn
          rw [hU] at e3
          rw [hl4] at e2
          simp only [Int.toNat_natCast] at hstep hsn
          have HSN := hidv hsn
          have j0 : U < n := by have := HN.out; omega
          clear hce e0 r0 hl4 hrc hcr hstep hsn hval hpos hU hp hc
          go_wp2_with fail
          go_quiet (fail)
          go_wp2_with fail
          go_roundw
          case rel => exact ⟨q + 1, U, by omega, by go_num, rfl, j0, HSN, _, rfl⟩
          case measure => simp [intOf]; omega
        · have hfin := hrun.out
          rw [List.take_of_length_le (by simp; omega)] at hfin
          have HFIN := hidv hfin
          clear hfin
          have HO := hidv (show World.ownsRow (WO.drewN mm) w.heap.size 2 1 _ _ _ from hown.out)
          have HBD := hidv (below_drewN hbe.out mm)
          go_wp2_with (at_builtin; refine wpList_append_own _ rfl (.tmp 39) (.tmp 41) 71 rfl w.heap.size 2 i0 (.int .i64 0) 1 8 Try.underlying71 hi hz0 hz1 hz2 rfl (by decide) _ _ _ rfl (HO.out.alloc _) ⟨WO.heap.size, 0, none⟩ 1 1 [.int .i64 (T : Int)] rfl rfl (one_new5 (WO.drewN mm) _ _) (one_cell5 _) ?_ ?_ ?_ ?_; (unfold maxLen; omega); omega; exact Nat.le_trans hbe.out.size (by simp); intro v1 w1 hown1 hgr1 _)
          go_roundw
          case rel =>
            refine ⟨k + 1, by omega, by go_num, hidv ?_, hidv (grow5 HBD.out HO.out hgr1)⟩
            rw [mapI_succ, HFIN.out, List.map_append]
            exact hown1
          case measure => simp [intOf]; omega
    · obtain rfl : k = n := by omega
      go_wp2_with fail
      go_ret
      refine ⟨_, rfl, ?_, hbe.out⟩
      unfold Ints
      rw [mapI_len]
      exact hown.out

end Go.Proofs.Ytjoleenehdfkkaa
