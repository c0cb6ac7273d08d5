/-
  The test number in the model: contracts.
-/
import Derived.Test.YtdnkdmmockoehaaGreatTs
namespace Go.Proofs.YtdnkdmmockoehaaGreat
open Go.RowKit Go
set_option linter.unusedVariables false

theorem pcW_pos {x : ByteArray} {f s : Int} (h : 0 < s) : pcW (x, f, s) = (x.size : Int) * f + (x.size : Int) := by
  unfold pcW
  dsimp only
  rw [show min s 1 = 1 by omega, Int.mul_add, Int.mul_one]
theorem pcW_zero {x : ByteArray} {f s : Int} (h : ¬ 0 < s) (h0 : 0 ≤ s) : pcW (x, f, s) = (x.size : Int) * f := by
  unfold pcW
  dsimp only
  rw [show min s 1 = 0 by omega, Int.add_zero]

theorem drewN_of {w wr : World} {m q : Nat} (h : wr = w.drewN m) : wr.drewN q = w.drewN (m + q) := by rw [h, World.drewN_drewN]

set_option maxRecDepth 100000 in
set_option maxHeartbeats 3200000 in
theorem l06Weight_any (s : ByteArray) (b : Nat) (rs : List (List Pc)) (A : Option Addr) (cA B : Nat) (w : World) (hs : s.size ≤ 24) (hv : Wd.termB s.data.toList = true) (hb : w.cell? ⟨b, 0, none⟩ = some (.slice A rs.length cA)) (hr : QRows w B (.slice A rs.length cA) rs) (hB : B ≤ w.heap.size) (hok : FamOk rs) :
    Calls Tryz.prog 47 #[.string s, .pointer (some ⟨b, 0, none⟩)] w fun e w' => e = .returned (.int .i64 (termLen s.data.toList (rs.map (gsum pcW)))) ∧ ∃ m, w' = w.drewN m := by
  obtain ⟨A', c', he, hA⟩ := hr.at
  injection he with he1 _ he2
  subst he1 he2
  have hx := lensW hok
  have h4 := hok.1
  have HA := hidv hA
  have HOK := hidv hok
  rw [h4] at hb
  have HN := hidv h4
  have HX := hidv hx
  have HV := hidv hv
  clear hA hok hr h4 hx hv
  go_enter Tryz.func47, Tryz.ntmps47
  go_wp2
  go_loopw [5, 6] (fun q i wr => ∃ k : Nat, k ≤ s.size ∧ i = .int .i64 k ∧ q = .int .i64 (termLen (s.data.toList.take k) (rs.map (gsum pcW))) ∧ ∃ m, wr = w.drewN m) (fun _ i _ => s.size - (intOf i).toNat)
  case atStart => exact ⟨0, Nat.zero_le _, rfl, rfl, 0, rfl⟩
  case round =>
    obtain ⟨k, hk, rfl, rfl, m, hwr⟩ := hrel
    have HWR := hidv hwr
    have b1 : wr.cell? ⟨b, 0, none⟩ = some (.slice A 4 cA) := by rw [hwr]; exact hb
    have HBW := hidv (show Below w.heap.size w wr from by rw [hwr]; exact below_drewN (Below.refl _ _) _)
    clear hwr
    have hbd := termLen_uptoM hs HV.out HX.out k
    by_cases hlt : k < s.size
    · have HNX := hidv (termLen_next (rs.map (gsum pcW)) hlt)
      obtain ⟨t, ht⟩ : ∃ t, termLen (s.data.toList.take k) (rs.map (gsum pcW)) = t := ⟨_, rfl⟩
      rw [ht] at hbd HNX ⊢
      obtain ⟨ht0, ht1⟩ := hbd
      have HT := hidv ht
      clear ht
      rcases term_at HV.out k hlt with hl | ⟨hl, hu⟩
      · have hsl : symLen (rs.map (gsum pcW)) s[k] = 1 := by unfold symLen; rw [hl]; rfl
        have HSL := hidv hsl
        have HLE := hidv (fun W => letter_any s[k] W)
        rw [hl] at HLE
        clear hsl hl
        go_wp2_with fail
        refine (HLE.out _).mono ?_
        rintro e w' ⟨rfl, rfl⟩
        go_wp2_with fail
        go_roundw
        case rel => exact ⟨k + 1, by omega, by go_num, by rw [HNX.out, HSL.out], _, HWR.out⟩
        case measure => simp [intOf]; omega
      · obtain ⟨x, hx4, hxu, _, _⟩ := symV_unknown hl hu
        have hxr : x < rs.length := by have := HN.out; omega
        have hsl : symLen (rs.map (gsum pcW)) s[k] = gsum pcW rs[x] := by
          unfold symLen
          rw [hl, hxu]
          simp [hxr]
        obtain ⟨g, o, rfl, hg, hce⟩ := HA.out (by have := HN.out; omega)
        obtain ⟨a, cq, e0, r1⟩ := hce x hxr
        have hro := HOK.out.at x hxr
        obtain ⟨row, hrw⟩ : ∃ row, rs[x] = row := ⟨_, rfl⟩
        rw [hrw] at e0 r1 hro hsl
        have hl4 := hro.1
        obtain ⟨aq, cz, hae, hrow⟩ := r1
        injection hae with ha1 _ ha2
        subst ha1 ha2
        obtain ⟨l, hl2⟩ : ∃ l, row.length = l := ⟨_, rfl⟩
        rw [hl2] at e0 hl4
        have e1 := (HBW.out.cell (p := ⟨g, o + x, none⟩) (by show g < w.heap.size; omega)).trans e0
        clear e0
        have HROW := hidv hrow
        have HL := hidv hl2
        have HSL := hidv hsl
        have HRO := hidv hro
        have HLE := hidv (fun W => letter_any s[k] W)
        have HUN := hidv (fun W => unknown_any s[k] W)
        rw [hl] at HLE
        rw [hxu] at HUN
        have i1 : (0 : Int) ≤ (x : Int) := by omega
        have i2 : (x : Int) < 4 := by omega
        have j1 : (0 : Int) ≤ (k : Int) := by omega
        have j2 : (k : Int) < (s.size : Int) := by omega
        clear hce hro hrow hsl hl hu hl2 hrw
        go_wp2_with fail
        refine (HLE.out _).mono ?_
        rintro e w' ⟨rfl, rfl⟩
        go_wp2_with fail
        go_quiet (first | (go_at_call 55; exact Calls.quiet_of_same ((HUN.out _).mono fun _ _ h => ⟨h.1, h.2.symm⟩)))
        go_wp2_with fail
        go_loopw [5, 8] (fun q i wr => ∃ m : Nat, m ≤ l ∧ i = .int .i64 (m : Int) ∧ q = .int .i64 (t + gsum pcW (row.take m)) ∧ ∃ z, wr = w.drewN z) (fun _ i _ => l - (intOf i).toNat)
        case atStart => exact ⟨0, Nat.zero_le _, rfl, by simp [gsum], _, drewN_of HWR.out⟩
        case round =>
          obtain ⟨m, hm, rfl, rfl, z, rfl⟩ := hrel
          by_cases hlq : m < l
          · have hmx : m < row.length := by have := HL.out; omega
            obtain ⟨g2, o2, rfl, hg2, hce2⟩ := HROW.out (by have := HL.out; omega)
            obtain ⟨u0, u1, u2⟩ := hce2 m hmx
            have hpo := HRO.out.2 row[m] (List.getElem_mem _)
            have hbp := pcW_bound hpo
            have hsg := gsum_succ pcW row m hmx
            have hbs := gsum_bound pcW 3660 (row.take m) (fun p hp => pcW_bound (HRO.out.2 p (List.mem_of_mem_take hp)))
            have hlm : (row.take m).length ≤ 4 := by rw [List.length_take]; omega
            have hxs : row[m].1.size ≤ 60 := by have := Wd.wordB_len hpo.2.1; simpa using this
            have hf := hpo.2.2.1
            have hs3 := hpo.2.2.2
            obtain ⟨⟨y, f, d⟩, hp⟩ : ∃ p, row[m] = p := ⟨_, rfl⟩
            rw [hp] at u0 u1 u2 hbp hsg hxs hf hs3
            dsimp only at u0 u1 u2 hxs hf hs3
            obtain ⟨acc, hacc⟩ : ∃ a, gsum pcW (row.take m) = a := ⟨_, rfl⟩
            rw [hacc] at hsg hbs ⊢
            obtain ⟨hb0, hb1⟩ := hbs
            have hb2 : acc ≤ 20000 := by omega
            obtain ⟨f0, f1⟩ := hf
            obtain ⟨d0, d1⟩ := hs3
            obtain ⟨p0, p1⟩ := hbp
            have n1 : (0 : Int) ≤ (m : Int) := by omega
            have n2 : (m : Int) < (l : Int) := by omega
            have HSG := hidv hsg
            by_cases hd : 0 < d
            · rw [pcW_pos hd] at p0 p1
              have HPW := hidv (pcW_pos (x := y) (f := f) hd)
              have ew : IntKind.i64.wrap ((y.size : Int) * f) = (y.size : Int) * f := IntWalk.i64_in _ (by omega)
              have e0' : 0 ≤ (y.size : Int) * f := Int.mul_nonneg (by omega) f0
              clear hce2 hp hpo hsg hacc hb1
              go_wp2_with fail
              go_quiet (fail)
              go_wp2_with fail
              go_roundw
              case rel => exact ⟨m + 1, by omega, by go_num, by rw [HSG.out, HPW.out]; congr 1; omega, _, rfl⟩
              case measure => simp [intOf]; omega
            · rw [pcW_zero hd d0] at p0 p1
              have HPW := hidv (pcW_zero (x := y) (f := f) hd d0)
              have ew : IntKind.i64.wrap ((y.size : Int) * f) = (y.size : Int) * f := IntWalk.i64_in _ (by omega)
              clear hce2 hp hpo hsg hacc hb1
              go_wp2_with fail
              go_quiet (fail)
              go_wp2_with fail
              go_roundw
              case rel => exact ⟨m + 1, by omega, by go_num, by rw [HSG.out, HPW.out]; congr 1; omega, _, rfl⟩
              case measure => simp [intOf]; omega
          · have hml : m = l := by omega
            have hte : gsum pcW (row.take m) = gsum pcW row := by rw [List.take_of_length_le (by have := HL.out; omega)]
            rw [hte]
            go_wp2_with fail
            go_roundw
            case rel => exact ⟨k + 1, by omega, by go_num, by rw [HNX.out, HSL.out], _, rfl⟩
            case measure => simp [intOf]; omega
    · obtain rfl : k = s.size := by omega
      go_wp2
      go_ret
      exact ⟨ret_int (by rw [List.take_of_length_le (by simp)]), _, HWR.out⟩

set_option maxRecDepth 100000 in
set_option maxHeartbeats 3200000 in
theorem l06Test_any (v : Value) (es : List Eqn) (b : Nat) (rs : List (List Pc)) (A : Option Addr) (cA B C : Nat) (w : World) (hv : ERow w C v es) (hs : sysB es = true) (hb : w.cell? ⟨b, 0, none⟩ = some (.slice A rs.length cA)) (hr : QRows w B (.slice A rs.length cA) rs) (hB : B ≤ w.heap.size) (hok : FamOk rs) :
    Calls Tryz.prog 26 #[v, .pointer (some ⟨b, 0, none⟩)] w fun e w' => e = .returned (.int .i64 (tnum es rs)) ∧ ∃ m, w' = w.drewN m := by
  have hx := lensW hok
  have C1 := hidv (fun (s : ByteArray) q r (h1 : s.size ≤ 24) (h2 : Wd.termB s.data.toList = true) => l06Weight_any s b rs A cA B ((w.drewN q).drewN r) h1 h2 hb hr hB hok)
  obtain ⟨Av, cv, rfl, hA⟩ := hv
  obtain ⟨n, hn⟩ : ∃ n, es.length = n := ⟨_, rfl⟩
  have h4 : es.length ≤ 4 := sysB_len hs
  unfold tnum
  obtain ⟨xs, hxs⟩ : ∃ xs, rs.map (gsum pcW) = xs := ⟨_, rfl⟩
  rw [hxs] at hx C1 ⊢
  have hbd := tLens_bound hs hx
  have hall := isum_bound 10000000000000 _ hbd
  have hlen := tLens_length es xs
  have HA := hidv hA
  have HS := hidv hs
  have HX := hidv hx
  have HALL := hidv (show 0 ≤ (tLens es xs).sum ∧ (tLens es xs).sum ≤ 100000000000000 from ⟨hall.1, by have := hall.2; omega⟩)
  have HPART := hidv (show ∀ k, 0 ≤ (tLens (es.take k) xs).sum ∧ (tLens (es.take k) xs).sum ≤ 100000000000000 from fun k => by
    have h1 := isum_bound 10000000000000 (tLens (es.take k) xs) (fun z hz => hbd z (by
      unfold tLens at hz ⊢
      rw [List.mem_flatMap] at hz ⊢
      obtain ⟨e, he, hz⟩ := hz
      exact ⟨e, List.mem_of_mem_take he, hz⟩))
    have h2 := tLens_length (es.take k) xs
    have h3 : (es.take k).length ≤ 4 := by rw [List.length_take]; omega
    exact ⟨h1.1, by have := h1.2; omega⟩)
  rw [hn] at h4 ⊢
  have HN := hidv hn
  clear hA hs hx hn hxs hbd hall hlen hr hok
  go_enter Tryz.func26, Tryz.ntmps26
  go_wp2
  go_loopw [5, 6] (fun q i wr => ∃ k : Nat, k ≤ n ∧ i = .int .i64 k ∧ q = .int .i64 (tLens (es.take k) xs).sum ∧ ∃ m, wr = w.drewN m) (fun _ i _ => n - (intOf i).toNat)
  case atStart => exact ⟨0, Nat.zero_le _, rfl, rfl, 0, rfl⟩
  case round =>
    obtain ⟨k, hk, rfl, rfl, m, hwr⟩ := hrel
    have HWR := hidv hwr
    have HBW := hidv (show Below w.heap.size w wr from by rw [hwr]; exact below_drewN (Below.refl _ _) _)
    have hbs := HPART.out k
    by_cases hlt : k < n
    · have hkx : k < es.length := by have := HN.out; omega
      obtain ⟨g, o, rfl, hg, hce⟩ := HA.out (by have := HN.out; omega)
      obtain ⟨u1, u2⟩ := hce k hkx
      have c1 : wr.cell? ⟨g, o + k * 2, none⟩ = some (.string es[k].1) := by rw [hwr]; exact u1
      have c2 : wr.cell? ⟨g, o + k * 2 + 1, none⟩ = some (.string es[k].2) := by rw [hwr]; exact u2
      have hsz := sysB_szAt HS.out k hkx
      have htm := eqnB_terms (sysB_at HS.out k hkx)
      have hsu := tLens_succ es xs k hkx
      have b1 := termLen_uptoM hsz.1 htm.1 HX.out es[k].1.size
      have b2 := termLen_uptoM hsz.2 htm.2 HX.out es[k].2.size
      rw [List.take_of_length_le (by simp)] at b1 b2
      obtain ⟨⟨x, y⟩, hxy⟩ : ∃ x, es[k] = x := ⟨_, rfl⟩
      rw [hxy] at c1 c2 hsz htm hsu b1 b2
      dsimp only at c1 c2 hsz htm hsu b1 b2
      have D1 := fun q => C1.out x m q hsz.1 htm.1
      have D2 := fun q => C1.out y m q hsz.2 htm.2
      rw [← hwr] at D1 D2
      obtain ⟨a, ha⟩ : ∃ a, termLen x.data.toList xs = a := ⟨_, rfl⟩
      obtain ⟨b', hb'⟩ : ∃ b, termLen y.data.toList xs = b := ⟨_, rfl⟩
      rw [ha] at D1 hsu b1
      rw [hb'] at D2 hsu b2
      have hss : (tLens (es.take (k + 1)) xs).sum = (tLens (es.take k) xs).sum + (a + b') := by
        rw [hsu, List.sum_append]
        simp
      obtain ⟨t, ht⟩ : ∃ t, (tLens (es.take k) xs).sum = t := ⟨_, rfl⟩
      rw [ht] at hss hbs ⊢
      have HD1 := hidv D1
      have HD2 := hidv D2
      have HSS := hidv hss
      obtain ⟨a0, a1⟩ := b1
      obtain ⟨b0, b1'⟩ := b2
      obtain ⟨t0, t1⟩ := hbs
      have i1 : (0 : Int) ≤ (k : Int) := by omega
      have i2 : (k : Int) < (n : Int) := by omega
      clear hce hxy hsz htm hsu D1 D2 ha hb' hss ht u1 u2 hwr
      go_wp2_with fail
      go_quiet (first | (go_at_call 47; first | (with_reducible exact Calls.quiet_of (HD1.out _)) | (with_reducible exact Calls.quiet_of (HD2.out _))))
      go_wp2_with fail
      go_roundw
      case rel => exact ⟨k + 1, by omega, by go_num, by rw [HSS.out], _, drewN_of HWR.out⟩
      case measure => simp [intOf]; omega
    · obtain rfl : k = n := by omega
      have he : es.take k = es := List.take_of_length_le (by have := HN.out; omega)
      rw [he]
      rw [he] at hbs
      obtain ⟨t, ht⟩ : ∃ t, (tLens es xs).sum = t := ⟨_, rfl⟩
      rw [ht] at hbs ⊢
      obtain ⟨t0, t1⟩ := hbs
      have HT := hidv ht
      clear ht
      clear hwr
      go_wp2
      go_ret
      exact ⟨ret_int (by rw [HT.out]), _, HWR.out⟩

set_option maxHeartbeats 800000 in
theorem asked_any (v : Value) (es : List Eqn) (b : Nat) (rs : List (List Pc)) (A : Option Addr) (cA B C : Nat) (w : World) (hv : ERow w C v es) (hC : C ≤ w.heap.size) (hx : es.length ≤ 1048576) (hs : ∀ e ∈ es, e.1.size ≤ maxLen ∧ e.2.size ≤ maxLen) (hb : w.cell? ⟨b, 0, none⟩ = some (.slice A rs.length cA)) (hr : QRows w B (.slice A rs.length cA) rs) (hB : B ≤ w.heap.size) (hz : FamSz rs) (d : Bool) (hd : d = true ↔ FamOk rs) :
    Calls Tryz.prog 17 #[v, .pointer (some ⟨b, 0, none⟩)] w fun e w' => e = .returned (.int .i64 (askC es rs d)) ∧ Below w.heap.size w w' := by
  have hbl : b < w.heap.size := World.block_lt_of_cell? _ _ hb
  have C1 := hidv (specSys_any v es C w hv hC hx hs)
  have C2 := hidv (fun W (hW : Below w.heap.size w W) => l06Ok_any b rs A cA B W ((hW.cell (p := ⟨b, 0, none⟩) hbl).trans hb) (hr.below (hW.mono hB)) (Nat.le_trans hB hW.size) hz d hd)
  obtain ⟨Av, cv, rfl, _⟩ := id hv
  obtain ⟨a, ha⟩ : ∃ a, sysB es = a := ⟨_, rfl⟩
  unfold askC
  rw [ha] at C1 ⊢
  clear hv hs hr hz hd ha hb
  cases a
  · go_enter Tryz.func17, Tryz.ntmps17
    go_wp2_with fail
    refine C1.out.mono ?_
    rintro e w1 ⟨rfl, hb1⟩
    go_wp2_with fail
    go_ret
    exact ⟨rfl, hb1⟩
  · cases d
    · go_enter Tryz.func17, Tryz.ntmps17
      go_wp2_with fail
      refine C1.out.mono ?_
      rintro e w1 ⟨rfl, hb1⟩
      go_wp2_with fail
      refine (C2.out _ hb1).mono ?_
      rintro e w2 ⟨rfl, hb2⟩
      have HB := hidv (below_on hb1 hb2)
      clear hb1 hb2
      go_wp2_with fail
      go_ret
      exact ⟨rfl, HB.out⟩
    · go_enter Tryz.func17, Tryz.ntmps17
      go_wp2_with fail
      refine C1.out.mono ?_
      rintro e w1 ⟨rfl, hb1⟩
      go_wp2_with fail
      refine (C2.out _ hb1).mono ?_
      rintro e w2 ⟨rfl, hb2⟩
      have HB := hidv (below_on hb1 hb2)
      clear hb1 hb2
      go_wp2_with fail
      go_ret
      exact ⟨rfl, HB.out⟩

end Go.Proofs.YtdnkdmmockoehaaGreat
