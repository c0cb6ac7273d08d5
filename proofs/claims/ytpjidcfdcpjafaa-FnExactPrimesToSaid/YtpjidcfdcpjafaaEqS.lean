/-
  The model's search for words with equal images: a contract.
-/
import Derived.Test.YtpjidcfdcpjafaaEqI
import Derived.RegionTactic
import Derived.Laws.BytesArg
namespace Go.Proofs.Ytpjidcfdcpjafaa
open Go.RowKit Go
set_option linter.unusedVariables false

theorem byte_conv7 (W : World) (y : Int) : (convert 22 9 (.slice (some ⟨W.heap.size, 0, none⟩) 1 1)).run Try.prog (W.alloc (.cells #[.int .u8 y] 5)) = .ok (.string (strOfNums [y])) (W.alloc (.cells #[.int .u8 y] 5)) :=
  run_convert_bytes_arg (W.alloc (.cells #[.int .u8 y] 5)) 22 5 Try.underlying22 Try.underlying5 W.heap.size 0 1 1 [y] rfl (fun i hi => by
    obtain rfl : i = 0 := by omega
    rw [cell_of_row _ _ _ _ _ _ (heap_alloc_new W _)]
    rfl) 9 Try.underlying9
theorem strOf_ltr {m : Nat} (h : m < 4) : strOfNums [97 + (m : Int)] = ltr m := by
  rcases (show m = 0 ∨ m = 1 ∨ m = 2 ∨ m = 3 by omega) with rfl | rfl | rfl | rfl <;> rfl
theorem u8_let {m : Nat} (h : m < 4) : IntKind.u8.wrap (97 + (m : Int)) = 97 + (m : Int) := by
  rcases (show m = 0 ∨ m = 1 ∨ m = 2 ∨ m = 3 by omega) with rfl | rfl | rfl | rfl <;> rfl
/-- A third row is laid, an empty one. -/
theorem Own3.lit {w : World} {base : Nat} {a b : Value} {na nb : Nat} {A B : List ByteArray} (h : Own3 w base a b (.slice none 0 0) na nb 0 A B []) (hb : base ≤ w.heap.size) :
    Own3 (w.alloc (.cells #[] 9)) base a b (.slice (some ⟨w.heap.size, 0, none⟩) 0 0) na nb 0 A B [] := by
  have hl := World.ownsRow_lit (e := 9) (size := 1) (base := base) w #[] 0 hb (Nat.zero_le _) rfl
  have ha : Rw (w.alloc (.cells #[] 9)) base a na A := h.1.1.below ((Below.refl _ _).alloc (Nat.le_refl _) _)
  have hbb : Rw (w.alloc (.cells #[] 9)) base b nb B := h.1.2.1.below ((Below.refl _ _).alloc (Nat.le_refl _) _)
  exact ⟨⟨ha, hbb, hl⟩, h.2.1, h.1.1.ap_new h.2.2.1 (.inr (Nat.le_refl _)), h.1.2.1.ap_new h.2.2.2 (.inr (Nat.le_refl _))⟩
theorem keep_not (p : Bool) (f g : List ByteArray) (x : ByteArray) (h : fitW f g x = false) : keepW p f g x = false ∧ eqW f g x = false := by
  unfold keepW eqW
  rw [h]
  exact ⟨rfl, rfl⟩

set_option maxRecDepth 100000 in
set_option maxHeartbeats 6400000 in
theorem l07Equal_any (vf vg : Value) (f g : List ByteArray) (l n : Int) (p : Bool) (B C : Nat) (w : World) (hf : Row w B vf (f.map Value.string)) (hB : B ≤ w.heap.size) (hg : Row w C vg (g.map Value.string)) (hC : C ≤ w.heap.size) (hfl : f.length ≤ 1048576) (hgl : g.length ≤ 1048576) (hfz : ∀ s ∈ f, s.size ≤ maxLen) (hgz : ∀ s ∈ g, s.size ≤ maxLen) (L : List ByteArray) (c : Int) (hd : EqR p f g l n L c) :
    Calls Try.prog 72 #[vf, vg, .int .i64 l, .int .i64 n, .bool p] w fun e w' => ∃ u, e = .returned (.tuple #[u, .int .i64 c]) ∧ Strs w' w.heap.size u L ∧ Below w.heap.size w w' := by
  obtain ⟨i0, hi, hz0, hz1, hz2⟩ := info_parts Try.infoS
  obtain ⟨q, hq⟩ := iffB (ImgOk f)
  obtain ⟨q2, hq2⟩ := iffB (ImgOk g)
  have CF := hidv (fun W (h : Below w.heap.size w W) => specImg_any vf f B W (hf.below (h.mono hB)) (Nat.le_trans hB h.size) hfl hfz q hq)
  have CG := hidv (fun W (h : Below w.heap.size w W) => specImg_any vg g C W (hg.below (h.mono hC)) (Nat.le_trans hC h.size) hgl hgz q2 hq2)
  have HD := hidv hd
  have hvf : ∃ A n c, vf = .slice A n c := by obtain ⟨A, c, hh, _⟩ := hf; exact ⟨A, _, c, hh⟩
  have hvg : ∃ A n c, vg = .slice A n c := by obtain ⟨A, c, hh, _⟩ := hg; exact ⟨A, _, c, hh⟩
  obtain ⟨Af, nf, cf, hvf⟩ := hvf
  obtain ⟨Ag, ng, cg, hvg⟩ := hvg
  have HQ := hidv hq
  have HQ2 := hidv hq2
  have HF := hidv hf
  have HG := hidv hg
  clear hd hq hq2 hf hg hfz hgz
  subst hvf hvg
  cases q
  · obtain ⟨rfl, rfl⟩ := HD.out.2 (fun h => absurd (HQ.out.mpr h.1) (by decide))
    go_enter Try.func72, Try.ntmps72
    go_wp2_with fail
    refine (CF.out _ (Below.refl _ _)).mono ?_
    rintro e w1 ⟨rfl, hb1⟩
    have HB1 := hidv hb1
    clear hb1
    have hl2 := World.ownsRow_lit (e := 9) (size := 1) (base := w.heap.size) _ #[] 0 HB1.out.size (Nat.zero_le _) rfl
    have HL2 := hidv hl2
    clear hl2
    go_wp2_with fail
    go_ret2
    exact ⟨_, rfl, HL2.out, below_al HB1.out _⟩
  cases q2
  · obtain ⟨rfl, rfl⟩ := HD.out.2 (fun h => absurd (HQ2.out.mpr h.2) (by decide))
    go_enter Try.func72, Try.ntmps72
    go_wp2_with fail
    refine (CF.out _ (Below.refl _ _)).mono ?_
    rintro e w1 ⟨rfl, hb1⟩
    have HB1 := hidv hb1
    clear hb1
    go_wp2_with fail
    refine (CG.out _ HB1.out).mono ?_
    rintro e w2 ⟨rfl, hb2⟩
    have HB2 := hidv (below_on HB1.out hb2)
    clear hb2
    have hl2 := World.ownsRow_lit (e := 9) (size := 1) (base := w.heap.size) _ #[] 0 HB2.out.size (Nat.zero_le _) rfl
    have HL2 := hidv hl2
    clear hl2
    go_wp2_with fail
    go_ret2
    exact ⟨_, rfl, HL2.out, below_al HB2.out _⟩
  have HOF := hidv (HQ.out.mp rfl)
  have HOG := hidv (HQ2.out.mp rfl)
  have HR := hidv (HD.out.1 ⟨HOF.out, HOG.out⟩)
  clear HQ HQ2 HD
  obtain ⟨ql, hql⟩ : ∃ q, (decide (1 ≤ l) && decide (l ≤ 4)) = q := ⟨_, rfl⟩
  have CL := hidv (fun W => l00In_any l 1 4 W ql hql)
  have HQL := hidv hql
  clear hql
  cases ql
  · obtain ⟨rfl, rfl⟩ := HR.out.2 (fun h => by have h1 := HQL.out; rw [decide_eq_true h.1.1, decide_eq_true h.1.2] at h1; cases h1)
    go_enter Try.func72, Try.ntmps72
    go_wp2_with fail
    refine (CF.out _ (Below.refl _ _)).mono ?_
    rintro e w1 ⟨rfl, hb1⟩
    have HB1 := hidv hb1
    clear hb1
    go_wp2_with fail
    refine (CG.out _ HB1.out).mono ?_
    rintro e w2 ⟨rfl, hb2⟩
    have HB2 := hidv (below_on HB1.out hb2)
    clear hb2
    go_wp2_with fail
    refine (CL.out _).mono ?_
    rintro e w' ⟨rfl, rfl⟩
    have hl2 := World.ownsRow_lit (e := 9) (size := 1) (base := w.heap.size) _ #[] 0 HB2.out.size (Nat.zero_le _) rfl
    have HL2 := hidv hl2
    clear hl2
    go_wp2_with fail
    go_ret2
    exact ⟨_, rfl, HL2.out, below_al HB2.out _⟩
  have hl14 : 1 ≤ l ∧ l ≤ 4 := by have h1 := HQL.out; rw [Bool.and_eq_true, decide_eq_true_eq, decide_eq_true_eq] at h1; exact h1
  obtain ⟨hl1, hl4⟩ := hl14
  obtain ⟨qn, hqn⟩ : ∃ q, (decide (0 ≤ n) && decide (n ≤ 7)) = q := ⟨_, rfl⟩
  have CN := hidv (fun W => l00In_any n 0 7 W qn hqn)
  have HQN := hidv hqn
  clear hqn HQL
  cases qn
  · obtain ⟨rfl, rfl⟩ := HR.out.2 (fun h => by have h1 := HQN.out; rw [decide_eq_true h.2.1, decide_eq_true h.2.2] at h1; cases h1)
    go_enter Try.func72, Try.ntmps72
    go_wp2_with fail
    refine (CF.out _ (Below.refl _ _)).mono ?_
    rintro e w1 ⟨rfl, hb1⟩
    have HB1 := hidv hb1
    clear hb1
    go_wp2_with fail
    refine (CG.out _ HB1.out).mono ?_
    rintro e w2 ⟨rfl, hb2⟩
    have HB2 := hidv (below_on HB1.out hb2)
    clear hb2
    go_wp2_with fail
    refine (CL.out _).mono ?_
    rintro e w' ⟨rfl, rfl⟩
    go_wp2_with fail
    refine (CN.out _).mono ?_
    rintro e w' ⟨rfl, rfl⟩
    have hl2 := World.ownsRow_lit (e := 9) (size := 1) (base := w.heap.size) _ #[] 0 HB2.out.size (Nat.zero_le _) rfl
    have HL2 := hidv hl2
    clear hl2
    go_wp2_with fail
    go_ret2
    exact ⟨_, rfl, HL2.out, below_al HB2.out _⟩
  have hn07 : 0 ≤ n ∧ n ≤ 7 := by have h1 := HQN.out; rw [Bool.and_eq_true, decide_eq_true_eq, decide_eq_true_eq] at h1; exact h1
  obtain ⟨hn0, hn8⟩ := hn07
  have HR2 := HR.out.1 ⟨⟨hl1, hl4⟩, hn0, by omega⟩
  clear HQN HR
  obtain ⟨l, rfl⟩ := Int.eq_ofNat_of_zero_le (show 0 ≤ l by omega)
  obtain ⟨n, rfl⟩ := Int.eq_ofNat_of_zero_le hn0
  simp only [Int.toNat_natCast] at HR2
  have HR3 := hidv HR2
  have l4 : l ≤ 4 := by omega
  have n7 : n ≤ 7 := by omega
  clear HR2 hn0 hn8 hl1 hl4
  have CI := hidv (fun y W (h : Below w.heap.size w W) (hx : Wd.wordB y.data.toList = true) => l07Image_any y (.slice Af nf cf) f B W hx (HF.out.below (h.mono hB)) HOF.out)
  have CJ := hidv (fun y W (h : Below w.heap.size w W) (hx : Wd.wordB y.data.toList = true) => l07Image_any y (.slice Ag ng cg) g C W hx (HG.out.below (h.mono hC)) HOG.out)
  have HLW := hidv (fun k w hw => lev_word (p := p) (f := f) (g := g) l4 k w hw)
  have HLL := hidv (fun k => lev_length (p := p) (f := f) (g := g) l4 k)
  have HEL := hidv (fun k => eqs_length (p := p) (f := f) (g := g) l4 k)
  go_enter Try.func72, Try.ntmps72
  go_wp2_with fail
  refine (CF.out _ (Below.refl _ _)).mono ?_
  rintro e w1 ⟨rfl, hb1⟩
  have HB1 := hidv hb1
  clear hb1
  go_wp2_with fail
  refine (CG.out _ HB1.out).mono ?_
  rintro e w2 ⟨rfl, hb2⟩
  have HB2 := hidv (below_on HB1.out hb2)
  clear hb2
  go_wp2_with fail
  refine (CL.out _).mono ?_
  rintro e w' ⟨rfl, rfl⟩
  go_wp2_with fail
  refine (CN.out _).mono ?_
  rintro e w' ⟨rfl, rfl⟩
  have hz2s := HB2.out.size
  have hE := (Own3.lit (w := w2) (base := w.heap.size) (a := .slice none 0 0) (b := .slice none 0 0) (na := 0) (nb := 0) (A := []) (B := []) ⟨⟨Rw.nil _ _, Rw.nil _ _, Rw.nil _ _⟩, AP.nil _, AP.nil _, AP.nil _⟩ hz2s)
  have hlit := World.ownsRow_lit (e := 9) (size := 1) (base := w.heap.size) (w2.alloc (.cells #[] 9)) #[.string ⟨#[]⟩] 1 (by simp; omega) (by decide) rfl
  have hrE : Rw ((w2.alloc (.cells #[] 9)).alloc (.cells #[.string ⟨#[]⟩] 9)) w.heap.size (.slice (some ⟨w2.heap.size, 0, none⟩) 0 0) 0 [] := hE.1.2.2.below ((Below.refl _ _).alloc (Nat.le_refl _) _)
  have hap : AP (.slice (some ⟨w2.heap.size, 0, none⟩) 0 0) (.slice (some ⟨(w2.alloc (.cells #[] 9)).heap.size, 0, none⟩) 1 1) := hE.1.2.2.ap_new (AP.nil _) (.inr (Nat.le_refl _))
  have hown0 : Own3 ((w2.alloc (.cells #[] 9)).alloc (.cells #[.string ⟨#[]⟩] 9)) w.heap.size (.slice (some ⟨w2.heap.size, 0, none⟩) 0 0) (.slice (some ⟨(w2.alloc (.cells #[] 9)).heap.size, 0, none⟩) 1 1) (.slice none 0 0) 0 1 0 [] [⟨#[]⟩] [] := ⟨⟨hrE, hlit, Rw.nil _ _⟩, hap, AP.nil _, AP.nil _⟩
  rw [World.size_alloc] at hown0
  have HO0 := hidv hown0
  have HB5 := hidv (below_al (below_al HB2.out (.cells #[] 9)) (.cells #[.string ⟨#[]⟩] 9))
  clear hE hlit hrE hap hown0
  go_wp2_with fail
  obtain ⟨w5, hw5⟩ : ∃ W, (w2.alloc (.cells #[] 9)).alloc (.cells #[.string ⟨#[]⟩] 9) = W := ⟨_, rfl⟩
  rw [hw5] at HO0 HB5 ⊢
  clear hw5
  go_loopw [12, 13, 14] (fun e v i wr => ∃ (k nE nF : Nat), k ≤ n ∧ i = .int .i64 ((k : Int) + 1) ∧ Hid (Own3 wr w.heap.size e v (.slice none 0 0) nE nF 0 (eqs p f g l k) (lev p f g l k) []) ∧ Hid (Below w.heap.size w wr)) (fun _ _ i _ => n + 1 - (intOf i).toNat)
  case atStart => exact ⟨0, 0, 1, by omega, rfl, HO0, HB5⟩
  case round =>
    obtain ⟨k, nE, nF, hk, rfl, hown, hbe⟩ := hrel
    by_cases hlt : k < n
    · have hkd : decide ((k : Int) + 1 ≤ (n : Int)) = true := decide_eq_true (by omega)
      have HLWk := hidv (HLW.out k)
      have hll := HLL.out k
      have hel := HEL.out k
      have hp47 : 4 ^ k ≤ 4096 := Nat.le_trans (Nat.pow_le_pow_right (by omega) (show k ≤ 6 by omega)) (by decide)
      have HSL := hidv (show lev p f g l (k + 1) = (candL (lev p f g l k) l).filter (keepW p f g) from rfl)
      have HSE := hidv (show eqs p f g l (k + 1) = eqs p f g l k ++ (candL (lev p f g l k) l).filter (eqW f g) from rfl)
      obtain ⟨F, hF⟩ : ∃ F, lev p f g l k = F := ⟨_, rfl⟩
      obtain ⟨E0, hE0⟩ : ∃ F, eqs p f g l k = F := ⟨_, rfl⟩
      rw [hF] at hown HLWk hll HSL HSE
      rw [hE0] at hown hel HSE
      have hlF := hown.out.1.2.1.len
      have hlE := hown.out.1.1.len
      rw [hlF] at hll
      rw [hlE] at hel
      have HNF := hidv hlF
      obtain ⟨AF, cF, hvF, hcF⟩ := strRow_at hown.out.1.2.1.strs.row
      rw [hlF] at hvF
      obtain ⟨wo, hwo⟩ : ∃ wo : World, wo = wr := ⟨_, rfl⟩
      have HFC := hidv (fun (W : World) (h : Rw W w.heap.size (.slice AF nF cF) nF F) j (hj : j < F.length) => (show ∃ gF, AF = some ⟨gF, 0, none⟩ ∧ gF < W.heap.size ∧ W.cell? ⟨gF, j, none⟩ = some (.string F[j]) from by
        rcases id h.2 with ⟨h1, h2⟩ | ⟨gF, cap, cur, h1, _⟩
        · omega
        · injection h1 with h3 h4 h5
          subst h3 h5
          refine ⟨gF, rfl, (World.ownsRow.lt (show W.ownsRow _ _ _ _ _ _ from h) gF rfl).2, ?_⟩
          rw [World.ownsRow.cellAt (show W.ownsRow _ _ _ _ _ _ from h) j (by omega)]
          exact map_str_at hj))
      have nE1 : nE ≤ 16384 := by omega
      have nF1 : nF ≤ 4096 := by omega
      clear hF hE0 hcF hll hel hlF hlE hp47
      subst hvF
      have hzr := hbe.out.size
      have HOL := hidv (hown.out.lit hzr)
      have HBL := hidv (below_al hbe.out (.cells #[] 9))
      go_wp2_with fail
      subst hwo
      obtain ⟨w6, hw6⟩ : ∃ W, wo.alloc (.cells #[] 9) = W := ⟨_, rfl⟩
      rw [hw6] at HOL HBL ⊢
      clear hw6
      go_loopw [12, 15, 16] (fun e lo i wr => ∃ (j mE mL : Nat), j ≤ nF ∧ i = .int .i64 (j : Int) ∧ mE ≤ 16384 + 4 * j ∧ mL ≤ 4 * j ∧ Hid (Own3 wr w.heap.size e (.slice AF nF cF) lo mE nF mL (E0 ++ (candL (F.take j) l).filter (eqW f g)) F ((candL (F.take j) l).filter (keepW p f g))) ∧ Hid (Below w.heap.size w wr)) (fun _ _ i _ => nF - (intOf i).toNat)
      case atStart => exact ⟨0, nE, 0, by omega, rfl, by omega, by omega, hidv (by simpa [candL] using HOL.out), HBL⟩
      case round =>
        obtain ⟨j, mE, mL, hj, rfl, hmE, hmL, hown2, hbe2⟩ := hrel
        by_cases hltj : j < nF
        · have hjx : j < F.length := by have := HNF.out; omega
          obtain ⟨gF, rfl, _, c1⟩ := HFC.out _ hown2.out.1.2.1 j hjx
          have hwn := HLWk.out F[j] (List.getElem_mem _)
          have hsu := candL_succ F l j hjx
          have HFJ := hidv (fun W h => (HFC.out W h j hjx).choose_spec)
          clear HFJ
          have HFX := hidv (fun (W : World) (h : Rw W w.heap.size (.slice (some ⟨gF, 0, none⟩) nF cF) nF F) => (show gF < W.heap.size ∧ W.cell? ⟨gF, j, none⟩ = some (.string F[j]) from by
            obtain ⟨g2, h1, h2, h3⟩ := HFC.out W h j hjx
            injection h1 with h4
            injection h4 with h5
            subst h5
            exact ⟨h2, h3⟩))
          obtain ⟨x, hx1⟩ : ∃ x, F[j] = x := ⟨_, rfl⟩
          rw [hx1] at hwn hsu HFX
          have HSU := hidv hsu
          have HWN := hidv hwn
          have hxs : x.size = k := hwn.1
          have hxs7 : x.size ≤ 7 := by omega
          clear hx1 hsu hwn hxs c1
          obtain ⟨EJ, hEJ⟩ : ∃ E, E0 ++ (candL (F.take j) l).filter (eqW f g) = E := ⟨_, rfl⟩
          obtain ⟨LJ, hLJ⟩ : ∃ E, (candL (F.take j) l).filter (keepW p f g) = E := ⟨_, rfl⟩
          rw [hEJ, hLJ] at hown2
          have HEJ := hidv hEJ
          have HLJ := hidv hLJ
          clear hEJ hLJ
          obtain ⟨wo2, hwo2⟩ : ∃ wo : World, wo = wr := ⟨_, rfl⟩
          go_wp2_with fail
          subst hwo2
          go_loopw [12, 15, 17] (fun e lo i wr => ∃ (m pE pL : Nat), m ≤ l ∧ i = .int .i64 (m : Int) ∧ pE ≤ 16384 + 4 * j + m ∧ pL ≤ 4 * j + m ∧ Hid (Own3 wr w.heap.size e (.slice (some ⟨gF, 0, none⟩) nF cF) lo pE nF pL (EJ ++ (candW x m).filter (eqW f g)) F (LJ ++ (candW x m).filter (keepW p f g))) ∧ Hid (Below w.heap.size w wr)) (fun _ _ i _ => l - (intOf i).toNat)
          case atStart => exact ⟨0, mE, mL, by omega, rfl, by omega, by omega, hidv (by simpa [candW] using hown2.out), hbe2⟩
          case round =>
            obtain ⟨m, pE, pL, hm, rfl, hpE, hpL, hown3, hbe3⟩ := hrel
            obtain ⟨wq, hwq⟩ : ∃ W, wr = W := ⟨_, rfl⟩
            rw [hwq] at hown3 hbe3 ⊢
            clear hwq
            by_cases hltm : m < l
            · have hwn2 := HWN.out.snoc (show m < 4 by omega)
              have hw60 := hwn2.word (by omega)
              have hse := filter_snoc (eqW f g) (candW x m) (x ++ ltr m)
              have hsl2 := filter_snoc (keepW p f g) (candW x m) (x ++ ltr m)
              rw [← candW_succ] at hse hsl2
              have hCI := fun W (h : Below w.heap.size w W) => CI.out (x ++ ltr m) W h hw60
              have hCJ := fun W (h : Below w.heap.size w W) => CJ.out (x ++ ltr m) W h hw60
              have hu480 := imgV_size hw60 HOF.out
              have hv480 := imgV_size hw60 HOG.out
              have hCO := fun W => l07Over_any (imgV (x ++ ltr m) f) (imgV (x ++ ltr m) g) W (by unfold maxLen; omega) (by unfold maxLen; omega)
              obtain ⟨hgF, c1⟩ := HFX.out wq hown3.out.1.2.1
              have c2 := (HFX.out (wq.alloc (.cells #[.int .u8 (97 + (m : Int))] 5)) (hown3.out.1.2.1.below ((Below.refl _ _).alloc (Nat.le_refl _) _))).2
              have hcv := fun (W : World) (y : Int) => show (convert 22 9 (.slice (some ⟨W.heap.size, 0, none⟩) 1 1)).run Try.prog (W.alloc (.cells #[.int .u8 y] 5)).drew = .ok (.string (strOfNums [y])) (W.alloc (.cells #[.int .u8 y] 5)).drew from byte_conv7 W.drew y
              have hw64 : IntKind.i64.wrap (97 + (m : Int)) = 97 + (m : Int) := IntWalk.i64_in _ (by omega)
              have hu8 := u8_let (show m < 4 by omega)
              have hbig : ¬ (9223372036854775807 < x.size + 1) := by omega
              have hss : (strOfNums [97 + (m : Int)]).size = 1 := rfl
              have HST := hidv (strOf_ltr (show m < 4 by omega))
              have hzq := hbe3.out.size
              have HO2 := hidv (hown3.out.below ((Below.refl _ _).alloc (Nat.le_refl _) (.cells #[.int .u8 (97 + (m : Int))] 5)))
              have HBA := hidv (below_al hbe3.out (.cells #[.int .u8 (97 + (m : Int))] 5))
              go_wp2_with fail
              go_region
              have HO4 := hidv (show Own3 (wq.alloc (.cells #[.int .u8 (97 + (m : Int))] 5)).drew w.heap.size _ (.slice (some ⟨gF, 0, none⟩) nF cF) _ pE nF pL _ F _ from HO2.out)
              have HBD := hidv (show Below w.heap.size w (wq.alloc (.cells #[.int .u8 (97 + (m : Int))] 5)).drew from Below.drew HBA.out)
              obtain ⟨wz, hwz⟩ : ∃ W, (wq.alloc (.cells #[.int .u8 (97 + (m : Int))] 5)).drew = W := ⟨_, rfl⟩
              rw [hwz] at HO4 HBD ⊢
              rw [HST.out]
              clear hwz HO2 HBA c1 c2 hcv hw64 hu8 hbig hss HST hgF hzq
              obtain ⟨t, ht⟩ : ∃ t, ltr m = t := ⟨_, rfl⟩
              rw [ht] at hse hsl2 hCI hCJ hCO hu480 hv480 ⊢
              have hkn := keep_not p f g (x ++ t)
              have hkq : ∀ b, eqW f g (x ++ t) = b → fitW f g (x ++ t) = true → keepW p f g (x ++ t) = !(p && b) := fun b h1 h2 => by unfold keepW; rw [h1, h2, Bool.true_and]
              have heq : fitW f g (x ++ t) = true → eqW f g (x ++ t) = decide (ovS (imgV (x ++ t) f) (imgV (x ++ t) g) = 0) := fun h => by
                unfold eqW
                rw [h, Bool.true_and]
                congr 1
                unfold ovS
                rw [eq_iff_iff]
                constructor
                · intro h; rw [if_neg (by omega), if_neg (by omega)]
                · intro h
                  split at h
                  · cases h
                  · split at h
                    · cases h
                    · omega
              unfold fitW at hkn hkq heq
              obtain ⟨u, hu⟩ : ∃ u, imgV (x ++ t) f = u := ⟨_, rfl⟩
              obtain ⟨v, hv⟩ : ∃ u, imgV (x ++ t) g = u := ⟨_, rfl⟩
              rw [hu] at hCI hCO hkn hkq heq hu480
              rw [hv] at hCJ hCO hkn hkq heq hv480
              have HCI := hidv hCI
              have HCJ := hidv hCJ
              have HCO := hidv hCO
              have HSE2 := hidv hse
              have HSL2 := hidv hsl2
              have HKN := hidv hkn
              have HKQ := hidv hkq
              have HEQ := hidv heq
              clear hse hsl2 hCI hCJ hCO ht hu hv hwn2 hw60 hkn hkq heq
              go_wp2_with fail
              refine (HCI.out _ HBD.out).mono ?_
              rintro e w' ⟨rfl, rfl⟩
              go_wp2_with fail
              refine (HCJ.out _ HBD.out).mono ?_
              rintro e w' ⟨rfl, rfl⟩
              clear HCI HCJ
              cases hb : ovF u v
              · have HKN2 := hidv (HKN.out hb)
                have HCO2 := hidv (HCO.out wz 0 ⟨#[]⟩ false ⟨fun h => by rw [hb] at h; (cases h), fun _ => ⟨rfl, rfl, rfl⟩⟩)
                clear HCO hb HKN HKQ HEQ
                go_wp2_with fail
                refine HCO2.out.mono ?_
                rintro e wb ⟨rfl, mq, hmq⟩
                have hbb := below_q hmq
                have HBE := hidv (below_on HBD.out hbb)
                have HO3 := hidv (HO4.out.below hbb)
                have HO5 := hidv (show Own3 wb w.heap.size _ (.slice (some ⟨gF, 0, none⟩) nF cF) _ pE nF pL (EJ ++ (candW x (m + 1)).filter (eqW f g)) F (LJ ++ (candW x (m + 1)).filter (keepW p f g)) from by rw [HSE2.out, HSL2.out, HKN2.out.1, HKN2.out.2]; simpa using HO3.out)
                clear HO3 hmq hbb
                go_wp2_with fail
                go_roundw
                case rel => exact ⟨m + 1, pE, pL, by omega, by go_num, by omega, by omega, HO5, HBE⟩
                case measure => simp [intOf]; omega
              · obtain ⟨sd, hsd⟩ : ∃ s, ovS u v = s := ⟨_, rfl⟩
                have HCO2 := hidv (HCO.out wz sd (ovR u v) true ⟨fun _ => ⟨hsd.symm, rfl, rfl⟩, fun h => by rw [hb] at h; cases h⟩)
                obtain ⟨rr, hrr⟩ : ∃ s, ovR u v = s := ⟨_, rfl⟩
                rw [hrr] at HCO2
                have heq2 := HEQ.out hb
                rw [hsd] at heq2
                have HKQ2 := hidv (fun b h => HKQ.out b h hb)
                have HEQ2 := hidv heq2
                clear HCO hb HKN HKQ HEQ hsd hrr heq2
                go_wp2_with fail
                refine HCO2.out.mono ?_
                rintro e wb ⟨rfl, mq, hmq⟩
                have hbb := below_q hmq
                have HBE := hidv (below_on HBD.out hbb)
                have HO3 := hidv (HO4.out.below hbb)
                have hzb := HBE.out.size
                clear hmq hbb HO4 HBD
                by_cases hs0 : sd = 0
                · have he1 : eqW f g (x ++ t) = true := by rw [HEQ2.out]; exact decide_eq_true hs0
                  have hk1 := HKQ2.out _ he1
                  have HE1 := hidv he1
                  have HK1 := hidv hk1
                  subst hs0
                  clear he1 hk1
                  cases p
                  · go_wp2_with (first | ((at_builtin; refine wpList_append_lies _ rfl (.tmp 84) (.tmp 86) 24 rfl w.heap.size 9 i0 (.string ⟨#[]⟩) 1 16 Try.underlying24 hi hz0 hz1 hz2 rfl (by decide) _ _ _ rfl (World.ownsRow.alloc HO3.out.rot.1.2.2 _) ⟨wb.heap.size, 0, none⟩ 1 1 [.string (x ++ t)] rfl rfl (one_newS wb _ _) (one_cell7 _) (by decide) ?_ ?_ ?_ (wb.heap.size + 1) (by simp) ?_; (unfold maxLen; omega); omega; (simp; omega); intro g6 cap6 w6 hown6 hgr6 hor6 hlt6); have HB6 := hidv (grow7 HBE.out (Nat.le_refl _) HO3.out.rot.1.2.2 hgr6); have HO6 := hidv (HO3.out.rot.app hown6 hgr6 hor6).rot.rot; have hz6 := HB6.out.size) | (at_builtin; refine wpList_append_lies _ rfl (.tmp 89) (.tmp 91) 24 rfl w.heap.size 9 i0 (.string ⟨#[]⟩) 1 16 Try.underlying24 hi hz0 hz1 hz2 rfl (by decide) _ _ _ rfl (World.ownsRow.alloc HO6.out.1.2.2 _) ⟨w6.heap.size, 0, none⟩ 1 1 [.string (x ++ t)] rfl rfl (one_newS w6 _ _) (one_cell7 _) (by decide) ?_ ?_ ?_ (w6.heap.size + 1) (by simp) ?_; (unfold maxLen; omega); omega; (simp; omega); intro g7 cap7 w7 hown7 hgr7 hor7 hlt7))
                    have HO8 := hidv (HO6.out.app hown7 hgr7 hor7)
                    have HO9 := hidv (show Own3 w7 w.heap.size _ (.slice (some ⟨gF, 0, none⟩) nF cF) _ (pE + 1) nF (pL + 1) (EJ ++ (candW x (m + 1)).filter (eqW f g)) F (LJ ++ (candW x (m + 1)).filter (keepW false f g)) from by rw [HSE2.out, HSL2.out, HE1.out, HK1.out]; simpa using HO8.out)
                    have HB9 := hidv (grow7 HB6.out (Nat.le_refl _) HO6.out.1.2.2 hgr7)
                    go_roundw
                    case rel => exact ⟨m + 1, pE + 1, pL + 1, by omega, by go_num, by omega, by omega, HO9, HB9⟩
                    case measure => simp [intOf]; omega
                  · go_wp2_with (at_builtin; refine wpList_append_lies _ rfl (.tmp 84) (.tmp 86) 24 rfl w.heap.size 9 i0 (.string ⟨#[]⟩) 1 16 Try.underlying24 hi hz0 hz1 hz2 rfl (by decide) _ _ _ rfl (World.ownsRow.alloc HO3.out.rot.1.2.2 _) ⟨wb.heap.size, 0, none⟩ 1 1 [.string (x ++ t)] rfl rfl (one_newS wb _ _) (one_cell7 _) (by decide) ?_ ?_ ?_ (wb.heap.size + 1) (by simp) ?_; (unfold maxLen; omega); omega; (simp; omega); intro g6 cap6 w6 hown6 hgr6 hor6 hlt6)
                    have HB6 := hidv (grow7 HBE.out (Nat.le_refl _) HO3.out.rot.1.2.2 hgr6)
                    have HO6 := hidv (HO3.out.rot.app hown6 hgr6 hor6).rot.rot
                    have HO9 := hidv (show Own3 w6 w.heap.size _ (.slice (some ⟨gF, 0, none⟩) nF cF) _ (pE + 1) nF pL (EJ ++ (candW x (m + 1)).filter (eqW f g)) F (LJ ++ (candW x (m + 1)).filter (keepW true f g)) from by rw [HSE2.out, HSL2.out, HE1.out, HK1.out]; simpa using HO6.out)
                    go_roundw
                    case rel => exact ⟨m + 1, pE + 1, pL, by omega, by go_num, by omega, by omega, HO9, HB6⟩
                    case measure => simp [intOf]; omega
                · have he1 : eqW f g (x ++ t) = false := by rw [HEQ2.out]; exact decide_eq_false hs0
                  have hk1 := HKQ2.out _ he1
                  have HE1 := hidv he1
                  have HK1 := hidv hk1
                  have hs1 : (sd == 0) = false := by rw [beq_eq_false_iff_ne]; exact hs0
                  clear he1 hk1
                  go_wp2_with (at_builtin; refine wpList_append_lies _ rfl (.tmp 89) (.tmp 91) 24 rfl w.heap.size 9 i0 (.string ⟨#[]⟩) 1 16 Try.underlying24 hi hz0 hz1 hz2 rfl (by decide) _ _ _ rfl (World.ownsRow.alloc HO3.out.1.2.2 _) ⟨wb.heap.size, 0, none⟩ 1 1 [.string (x ++ t)] rfl rfl (one_newS wb _ _) (one_cell7 _) (by decide) ?_ ?_ ?_ (wb.heap.size + 1) (by simp) ?_; (unfold maxLen; omega); omega; (simp; omega); intro g6 cap6 w6 hown6 hgr6 hor6 hlt6)
                  have HB6 := hidv (grow7 HBE.out (Nat.le_refl _) HO3.out.1.2.2 hgr6)
                  have HO6 := hidv (HO3.out.app hown6 hgr6 hor6)
                  have HO9 := hidv (show Own3 w6 w.heap.size _ (.slice (some ⟨gF, 0, none⟩) nF cF) _ pE nF (pL + 1) (EJ ++ (candW x (m + 1)).filter (eqW f g)) F (LJ ++ (candW x (m + 1)).filter (keepW p f g)) from by rw [HSE2.out, HSL2.out, HE1.out, HK1.out]; simpa using HO6.out)
                  go_roundw
                  case rel => exact ⟨m + 1, pE, pL + 1, by omega, by go_num, by omega, by omega, HO9, HB6⟩
                  case measure => simp [intOf]; omega
            · obtain rfl : m = l := by omega
              have HO8 := hidv (show Own3 wq w.heap.size _ (.slice (some ⟨gF, 0, none⟩) nF cF) _ pE nF pL (E0 ++ (candL (F.take (j + 1)) m).filter (eqW f g)) F ((candL (F.take (j + 1)) m).filter (keepW p f g)) from by rw [HSU.out, List.filter_append, List.filter_append, ← List.append_assoc, HEJ.out, HLJ.out]; exact hown3.out)
              go_wp2_with fail
              go_roundw
              case rel => exact ⟨j + 1, pE, pL, by omega, by go_num, by omega, by omega, HO8, hbe3⟩
              case measure => simp [intOf]; omega
        · obtain rfl : j = nF := by omega
          have hte : F.take j = F := List.take_of_length_le (by have := HNF.out; omega)
          rw [hte] at hown2
          have HO9 := hidv (show Own3 wr w.heap.size _ _ (.slice none 0 0) mE mL 0 (eqs p f g l (k + 1)) (lev p f g l (k + 1)) [] from by
            rw [HSE.out, HSL.out]
            exact ⟨⟨hown2.out.1.1, hown2.out.1.2.2, Rw.nil _ _⟩, hown2.out.2.2.1, AP.nil _, AP.nil _⟩)
          go_wp2_with fail
          go_roundw
          case rel => exact ⟨k + 1, mE, mL, by omega, by go_num, HO9, hbe2⟩
          case measure => simp [intOf]; omega
    · obtain rfl : k = n := by omega
      have hkd : decide ((k : Int) + 1 ≤ (k : Int)) = false := decide_eq_false (by omega)
      have HST := hidv hown.out.1.1.strs
      have hlE := hown.out.1.1.len
      have hrow := hown.out.1.1.strs.row
      obtain ⟨AE, cE, hvE, _⟩ := hrow
      rw [List.length_map, hlE] at hvE
      subst hvE
      rw [hlE] at HR3
      by_cases h200 : 200 < nE
      · obtain ⟨rfl, rfl⟩ := HR3.out.1 h200
        clear hlE
        have hl2 := World.ownsRow_lit (e := 9) (size := 1) (base := w.heap.size) _ #[] 0 hbe.out.size (Nat.zero_le _) rfl
        have HL2 := hidv hl2
        clear hl2
        go_wp2_with fail
        go_ret2
        exact ⟨_, rfl, HL2.out, below_al hbe.out _⟩
      · obtain ⟨rfl, rfl⟩ := HR3.out.2 (by omega)
        clear hlE
        go_wp2_with fail
        go_ret2
        exact ⟨_, rfl, HST.out, hbe.out⟩

end Go.Proofs.Ytpjidcfdcpjafaa
