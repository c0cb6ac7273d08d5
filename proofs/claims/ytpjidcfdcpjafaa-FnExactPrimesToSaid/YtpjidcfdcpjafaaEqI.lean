/-
  EqualTo, of the program: a contract.
-/
import Derived.Test.YtpjidcfdcpjafaaEq7
import Derived.Test.YtpjidcfdcpjafaaKr7
import Derived.Test.YtpjidcfdcpjafaaAb
import Derived.Test.YtpjidcfdcpjafaaStrA
namespace Go.Proofs.Ytpjidcfdcpjafaa
open Go.RowKit Go
set_option linter.unusedVariables false

theorem letTxt {l : Nat} (h : l < 4) : (({ data := #[97, 98, 99, 100] } : ByteArray).extract l (l + 1)) = ltr l := by
  rcases (show l = 0 ∨ l = 1 ∨ l = 2 ∨ l = 3 by omega) with rfl | rfl | rfl | rfl <;> rfl
theorem slice_let {l : Nat} (h : l < 4) (w : World) : (Instr.slice 9 (.string { data := #[97, 98, 99, 100] }) (some (.int .i64 (l : Int))) (some (.int .i64 ((l : Int) + 1))) none).run Try.prog w = .ok (.string (ltr l)) w := by
  rw [run_slice_string w 9 { data := #[97, 98, 99, 100] } .i64 .i64 _ _ Try.underlying9 (by omega) (by omega) (by show (l : Int) + 1 ≤ 4; omega), show ((l : Int) + 1).toNat = l + 1 by omega, Int.toNat_natCast, letTxt h]

/-- The numbers that are asked for are right. -/
def EqIn (l n : Int) : Prop := (1 ≤ l ∧ l ≤ 4) ∧ 0 ≤ n ∧ n ≤ 7
/-- What EqualTo answers (where p is false), or the search for prime ones (where it is true). -/
def EqR (p : Bool) (f g : List ByteArray) (l n : Int) (L : List ByteArray) (c : Int) : Prop :=
  (ImgOk f ∧ ImgOk g → (EqIn l n → (200 < (eqs p f g l.toNat n.toNat).length → L = [] ∧ c = 3) ∧ ((eqs p f g l.toNat n.toNat).length ≤ 200 → L = eqs p f g l.toNat n.toNat ∧ c = 0)) ∧ (¬ EqIn l n → L = [] ∧ c = 2)) ∧
  (¬ (ImgOk f ∧ ImgOk g) → L = [] ∧ c = 1)
theorem eqR_ex (p : Bool) (f g : List ByteArray) (l n : Int) : ∃ L c, EqR p f g l n L c ∧ L.length ≤ 200 := by
  unfold EqR
  by_cases h : ImgOk f ∧ ImgOk g
  · by_cases h2 : EqIn l n
    · by_cases h3 : 200 < (eqs p f g l.toNat n.toNat).length
      · exact ⟨[], 3, ⟨fun _ => ⟨fun _ => ⟨fun _ => ⟨rfl, rfl⟩, fun h4 => by omega⟩, fun hn => absurd h2 hn⟩, fun hn => absurd h hn⟩, by simp⟩
      · exact ⟨_, 0, ⟨fun _ => ⟨fun _ => ⟨fun h4 => absurd h4 h3, fun _ => ⟨rfl, rfl⟩⟩, fun hn => absurd h2 hn⟩, fun hn => absurd h hn⟩, by omega⟩
    · exact ⟨[], 2, ⟨fun _ => ⟨fun hy => absurd hy h2, fun _ => ⟨rfl, rfl⟩⟩, fun hn => absurd h hn⟩, by simp⟩
  · exact ⟨[], 1, ⟨fun hy => absurd hy h, fun _ => ⟨rfl, rfl⟩⟩, by simp⟩

theorem ovR_size (u v : ByteArray) : (ovR u v).size = if v.size ≤ u.size then u.size - v.size else v.size - u.size := by
  unfold ovR
  split <;> simp [ByteArray.size_extract]
/-- The rest is empty just if the images are of one length. -/
theorem eqW_rest (f g : List ByteArray) (w : ByteArray) (h : fitW f g w = true) : eqW f g w = (ovR (imgV w f) (imgV w g)).toList.isEmpty := by
  unfold eqW
  rw [h, Bool.true_and]
  have h1 := ovR_size (imgV w f) (imgV w g)
  by_cases h2 : (imgV w f).size = (imgV w g).size
  · rw [decide_eq_true h2, toList_empty (x := ovR (imgV w f) (imgV w g)) (by rw [h1]; split <;> omega)]
    rfl
  · rw [decide_eq_false h2, toList_nonempty (x := ovR (imgV w f) (imgV w g)) (by rw [h1]; split <;> omega)]

set_option maxRecDepth 100000 in
set_option maxHeartbeats 6400000 in
theorem implEq_any (vf vg : Value) (f g : List ByteArray) (l n : Int) (B C : Nat) (w : World) (hf : Row w B vf (f.map Value.string)) (hB : B ≤ w.heap.size) (hg : Row w C vg (g.map Value.string)) (hC : C ≤ w.heap.size) (hfl : f.length ≤ 1048576) (hgl : g.length ≤ 1048576) (hfz : ∀ s ∈ f, s.size ≤ maxLen) (hgz : ∀ s ∈ g, s.size ≤ maxLen) (L : List ByteArray) (c : Int) (hd : EqR false f g l n L c) :
    Calls Try.prog 28 #[vf, vg, .int .i64 l, .int .i64 n] w fun e w' => ∃ u, e = .returned (.tuple #[u, .int .i64 c]) ∧ Strs w' w.heap.size u L ∧ Below w.heap.size w w' := by
  obtain ⟨i0, hi, hz0, hz1, hz2⟩ := info_parts Try.infoS
  obtain ⟨q, hq⟩ := iffB (ImgOk f)
  obtain ⟨q2, hq2⟩ := iffB (ImgOk g)
  have CF := hidv (fun W (h : Below w.heap.size w W) => implImg_any vf f B W (hf.below (h.mono hB)) (Nat.le_trans hB h.size) hfl hfz q hq)
  have CG := hidv (fun W (h : Below w.heap.size w W) => implImg_any vg g C W (hg.below (h.mono hC)) (Nat.le_trans hC h.size) hgl hgz q2 hq2)
  have HD := hidv hd
  have hvf : ∃ A n c, vf = .slice A n c := by obtain ⟨A, c, hh, _⟩ := hf; exact ⟨A, _, c, hh⟩
  have hvg : ∃ A n c, vg = .slice A n c := by obtain ⟨A, c, hh, _⟩ := hg; exact ⟨A, _, c, hh⟩
  obtain ⟨Af, nf, cf, hvf⟩ := hvf
  obtain ⟨Ag, ng, cg, hvg⟩ := hvg
  have HQ := hidv hq
  have HQ2 := hidv hq2
  have HF := hidv hf
  have HG := hidv hg
  clear hd hq hq2 hf hg hfz hgz
  subst hvf hvg
  cases q
  · obtain ⟨rfl, rfl⟩ := HD.out.2 (fun h => absurd (HQ.out.mpr h.1) (by decide))
    go_enter Try.func28, Try.ntmps28
    go_wp2_with fail
    refine (CF.out _ (Below.refl _ _)).mono ?_
    rintro e w1 ⟨rfl, hb1⟩
    have HB1 := hidv hb1
    clear hb1
    go_wp2_with fail
    go_ret2
    exact ⟨_, rfl, World.ownsRow_nil _ _ _ _, HB1.out⟩
  cases q2
  · obtain ⟨rfl, rfl⟩ := HD.out.2 (fun h => absurd (HQ2.out.mpr h.2) (by decide))
    go_enter Try.func28, Try.ntmps28
    go_wp2_with fail
    refine (CF.out _ (Below.refl _ _)).mono ?_
    rintro e w1 ⟨rfl, hb1⟩
    have HB1 := hidv hb1
    clear hb1
    go_wp2_with fail
    refine (CG.out _ HB1.out).mono ?_
    rintro e w2 ⟨rfl, hb2⟩
    have HB2 := hidv (below_on HB1.out hb2)
    clear hb2
    go_wp2_with fail
    go_ret2
    exact ⟨_, rfl, World.ownsRow_nil _ _ _ _, HB2.out⟩
  have HOF := hidv (HQ.out.mp rfl)
  have HOG := hidv (HQ2.out.mp rfl)
  have HR := hidv (HD.out.1 ⟨HOF.out, HOG.out⟩)
  clear HQ HQ2 HD
  obtain ⟨ql, hql⟩ : ∃ q, (decide (1 ≤ l) && decide (l ≤ 4)) = q := ⟨_, rfl⟩
  have CL := hidv (fun W => isCount_any l W ql hql)
  have HQL := hidv hql
  clear hql
  cases ql
  · obtain ⟨rfl, rfl⟩ := HR.out.2 (fun h => by have h1 := HQL.out; rw [decide_eq_true h.1.1, decide_eq_true h.1.2] at h1; cases h1)
    go_enter Try.func28, Try.ntmps28
    go_wp2_with fail
    refine (CF.out _ (Below.refl _ _)).mono ?_
    rintro e w1 ⟨rfl, hb1⟩
    have HB1 := hidv hb1
    clear hb1
    go_wp2_with fail
    refine (CG.out _ HB1.out).mono ?_
    rintro e w2 ⟨rfl, hb2⟩
    have HB2 := hidv (below_on HB1.out hb2)
    clear hb2
    go_wp2_with fail
    refine (CL.out _).mono ?_
    rintro e w' ⟨rfl, rfl⟩
    go_wp2_with fail
    go_ret2
    exact ⟨_, rfl, World.ownsRow_nil _ _ _ _, HB2.out⟩
  have hl14 : 1 ≤ l ∧ l ≤ 4 := by have h1 := HQL.out; rw [Bool.and_eq_true, decide_eq_true_eq, decide_eq_true_eq] at h1; exact h1
  obtain ⟨hl1, hl4⟩ := hl14
  obtain ⟨qn, hqn⟩ := iffB (InN 8 [n])
  have CA := hidv (fun (W : World) => areBelow_any (.slice (some ⟨W.heap.size, 0, none⟩) 1 1) [n] (W.heap.size + 1) 8 (W.alloc (.cells #[.int .i64 n] 2)) ⟨_, 1, rfl, fun _ => ⟨W.heap.size, 0, rfl, by omega, fun i x hx => by
    match i, hx with
    | 0, hx =>
      obtain rfl : Value.int .i64 n = x := by simpa [ints] using hx
      exact (Bx.new W 2 #[.int .i64 n]).cell 0⟩⟩ (by unfold maxLen; simp) qn hqn)
  have HQN := hidv hqn
  clear hqn HQL
  cases qn
  · obtain ⟨rfl, rfl⟩ := HR.out.2 (fun h => by
      have h1 := HQN.out.mpr (fun j hj => by
        obtain rfl : j = 0 := by simp at hj; omega
        exact ⟨h.2.1, by have := h.2.2; show n < 8; omega⟩)
      cases h1)
    go_enter Try.func28, Try.ntmps28
    go_wp2_with fail
    refine (CF.out _ (Below.refl _ _)).mono ?_
    rintro e w1 ⟨rfl, hb1⟩
    have HB1 := hidv hb1
    clear hb1
    go_wp2_with fail
    refine (CG.out _ HB1.out).mono ?_
    rintro e w2 ⟨rfl, hb2⟩
    have HB2 := hidv (below_on HB1.out hb2)
    clear hb2
    go_wp2_with fail
    refine (CL.out _).mono ?_
    rintro e w' ⟨rfl, rfl⟩
    have hb3 := below_al HB2.out (.cells #[.int .i64 n] 2)
    have HB3 := hidv hb3
    clear hb3
    go_wp2_with fail
    refine (CA.out _).mono ?_
    rintro e w3 ⟨rfl, hw3⟩
    subst hw3
    go_wp2_with fail
    go_ret2
    exact ⟨_, rfl, World.ownsRow_nil _ _ _ _, HB3.out⟩
  have hn07 : 0 ≤ n ∧ n < 8 := by have h1 := HQN.out.mp rfl 0 (by simp); simpa using h1
  obtain ⟨hn0, hn8⟩ := hn07
  have HR2 := HR.out.1 ⟨⟨hl1, hl4⟩, hn0, by omega⟩
  clear HQN HR
  obtain ⟨l, rfl⟩ := Int.eq_ofNat_of_zero_le (show 0 ≤ l by omega)
  obtain ⟨n, rfl⟩ := Int.eq_ofNat_of_zero_le hn0
  simp only [Int.toNat_natCast] at HR2
  have HR3 := hidv HR2
  have l4 : l ≤ 4 := by omega
  have n7 : n ≤ 7 := by omega
  clear HR2 hn0 hn8 hl1 hl4
  have CI := hidv (fun y b W (h : Below w.heap.size w W) (hx : Wd.wordB y.data.toList = true) (hc : W.cell? ⟨b, 0, none⟩ = some (.slice Af nf cf)) => closI_any y b (.slice Af nf cf) f B W hx hc (HF.out.below (h.mono hB)) (Nat.le_trans hB h.size) HOF.out)
  have CJ := hidv (fun y b W (h : Below w.heap.size w W) (hx : Wd.wordB y.data.toList = true) (hc : W.cell? ⟨b, 0, none⟩ = some (.slice Ag ng cg)) => closI_any y b (.slice Ag ng cg) g C W hx hc (HG.out.below (h.mono hC)) (Nat.le_trans hC h.size) HOG.out)
  have HLW := hidv (fun k w hw => lev_word (p := false) (f := f) (g := g) l4 k w hw)
  have HLL := hidv (fun k => lev_length (p := false) (f := f) (g := g) l4 k)
  have HEL := hidv (fun k => eqs_length (p := false) (f := f) (g := g) l4 k)
  go_enter Try.func28, Try.ntmps28
  go_wp2_with fail
  refine (CF.out _ (Below.refl _ _)).mono ?_
  rintro e w1 ⟨rfl, hb1⟩
  have HB1 := hidv hb1
  clear hb1
  go_wp2_with fail
  refine (CG.out _ HB1.out).mono ?_
  rintro e w2 ⟨rfl, hb2⟩
  have HB2 := hidv (below_on HB1.out hb2)
  clear hb2
  go_wp2_with fail
  refine (CL.out _).mono ?_
  rintro e w' ⟨rfl, rfl⟩
  have hb3 := below_al HB2.out (.cells #[.int .i64 (n : Int)] 2)
  have HB3 := hidv hb3
  clear hb3
  go_wp2_with fail
  refine (CA.out _).mono ?_
  rintro e w3 ⟨rfl, hw3⟩
  subst hw3
  obtain ⟨w3, hw3⟩ : ∃ W, w2.alloc (.cells #[.int .i64 (n : Int)] 2) = W := ⟨_, rfl⟩
  rw [hw3] at HB3 ⊢
  clear hw3
  go_wp2_with fail
  refine (imageBy_any _ _ ⟨_, _, _, rfl⟩).mono ?_
  rintro e wf ⟨rfl, hbf, hxf⟩
  have HBF := hidv (below_on HB3.out hbf)
  have HXF := hidv hxf
  have hlf := hxf.lt
  have hzf := hbf.size
  clear hbf hxf
  go_wp2_with fail
  refine (imageBy_any _ _ ⟨_, _, _, rfl⟩).mono ?_
  rintro e w4 ⟨rfl, hbg, hxg⟩
  have HB4 := hidv (below_on HBF.out hbg)
  have HXF4 := hidv (HXF.out.below hbg)
  have HXG4 := hidv hxg
  have hlg := hxg.lt
  have hzg := hbg.size
  have hz4 := HB4.out.size
  clear hbg hxg HXF
  have hlf4 : w3.heap.size < w4.heap.size := by omega
  have hlit := World.ownsRow_lit (e := 9) (size := 1) (base := w4.heap.size) w4 #[.string ⟨#[]⟩] 1 (Nat.le_refl _) (by decide) rfl
  have hb5 : Below w4.heap.size w4 (w4.alloc (.cells #[.string ⟨#[]⟩] 9)) := below_al (Below.refl _ _) _
  have HLIT := hidv hlit
  have HB5 := hidv hb5
  clear hlit hb5
  go_wp2_with fail
  obtain ⟨w5, hw5⟩ : ∃ W, w4.alloc (.cells #[.string ⟨#[]⟩] 9) = W := ⟨_, rfl⟩
  rw [hw5] at HLIT HB5 ⊢
  clear hw5
  go_loopw [12, 13, 44] (fun e v i wr => ∃ (k nE nF : Nat), k ≤ n ∧ i = .int .i64 (k : Int) ∧ Hid (Own3 wr w4.heap.size e v (.slice none 0 0) nE nF 0 (eqs false f g l k) (lev false f g l k) []) ∧ Hid (Below w4.heap.size w4 wr)) (fun _ _ i _ => n - (intOf i).toNat)
  case atStart => exact ⟨0, 0, 1, by omega, rfl, hidv ⟨⟨Rw.nil _ _, HLIT.out, Rw.nil _ _⟩, (AP.nil _).symm, AP.nil _, AP.nil _⟩, HB5⟩
  case round =>
    obtain ⟨k, nE, nF, hk, rfl, hown, hbe⟩ := hrel
    by_cases hlt : k < n
    · have hbw := HB4.out.trans (hbe.out.mono hz4)
      have HBW := hidv hbw
      clear hbw
      have HLWk := hidv (HLW.out k)
      have hll := HLL.out k
      have hel := HEL.out k
      have hp47 : 4 ^ k ≤ 4096 := Nat.le_trans (Nat.pow_le_pow_right (by omega) (show k ≤ 6 by omega)) (by decide)
      have HSL := hidv (show lev false f g l (k + 1) = (candL (lev false f g l k) l).filter (keepW false f g) from rfl)
      have HSE := hidv (show eqs false f g l (k + 1) = eqs false f g l k ++ (candL (lev false f g l k) l).filter (eqW f g) from rfl)
      obtain ⟨F, hF⟩ : ∃ F, lev false f g l k = F := ⟨_, rfl⟩
      obtain ⟨E0, hE0⟩ : ∃ F, eqs false f g l k = F := ⟨_, rfl⟩
      rw [hF] at hown HLWk hll HSL HSE
      rw [hE0] at hown hel HSE
      have hlF := hown.out.1.2.1.len
      have hlE := hown.out.1.1.len
      rw [hlF] at hll
      rw [hlE] at hel
      have HNF := hidv hlF
      obtain ⟨AF, cF, hvF, hcF⟩ := strRow_at hown.out.1.2.1.strs.row
      rw [hlF] at hvF
      have HVF := hidv hvF
      obtain ⟨wo, hwo⟩ : ∃ wo : World, wo = wr := ⟨_, rfl⟩
      have HFC := hidv (fun (W : World) (h : Rw W w4.heap.size (.slice AF nF cF) nF F) j (hj : j < F.length) => (show ∃ gF, AF = some ⟨gF, 0, none⟩ ∧ W.cell? ⟨gF, j, none⟩ = some (.string F[j]) from by
        rcases h.2 with ⟨h1, h2⟩ | ⟨gF, cap, cur, h1, _⟩
        · omega
        · injection h1 with h3 h4 h5
          subst h3 h5
          refine ⟨gF, rfl, ?_⟩
          rw [World.ownsRow.cellAt (show W.ownsRow _ _ _ _ _ _ from h) j (by omega)]
          exact map_str_at hj))
      have nE1 : nE ≤ 16384 := by omega
      have nF1 : nF ≤ 4096 := by omega
      clear hF hE0 hcF hll hel hlF hlE hp47
      subst hvF
      go_wp2_with fail
      subst hwo
      go_loopw [12, 14, 48] (fun e lo i wr => ∃ (j mE mL : Nat), j ≤ nF ∧ i = .int .i64 (j : Int) ∧ mE ≤ 16384 + 4 * j ∧ mL ≤ 4 * j ∧ Hid (Own3 wr w4.heap.size e (.slice AF nF cF) lo mE nF mL (E0 ++ (candL (F.take j) l).filter (eqW f g)) F ((candL (F.take j) l).filter (keepW false f g))) ∧ Hid (Below w4.heap.size w4 wr)) (fun _ _ i _ => nF - (intOf i).toNat)
      case atStart => exact ⟨0, nE, 0, by omega, rfl, by omega, by omega, hidv (by simpa [candL] using hown.out), hbe⟩
      case round =>
        obtain ⟨j, mE, mL, hj, rfl, hmE, hmL, hown2, hbe2⟩ := hrel
        by_cases hltj : j < nF
        · have hjx : j < F.length := by have := HNF.out; omega
          obtain ⟨gF, rfl, c1⟩ := HFC.out _ hown2.out.1.2.1 j hjx
          have hwn := HLWk.out F[j] (List.getElem_mem _)
          have hsu := candL_succ F l j hjx
          obtain ⟨x, hx1⟩ : ∃ x, F[j] = x := ⟨_, rfl⟩
          rw [hx1] at c1 hwn hsu
          have HSU := hidv hsu
          have HWN := hidv hwn
          have hxs : x.size = k := hwn.1
          have hxs7 : x.size ≤ 7 := by omega
          clear hx1 hsu hwn hxs
          obtain ⟨EJ, hEJ⟩ : ∃ E, E0 ++ (candL (F.take j) l).filter (eqW f g) = E := ⟨_, rfl⟩
          obtain ⟨LJ, hLJ⟩ : ∃ E, (candL (F.take j) l).filter (keepW false f g) = E := ⟨_, rfl⟩
          rw [hEJ, hLJ] at hown2
          have HEJ := hidv hEJ
          have HLJ := hidv hLJ
          clear hEJ hLJ
          obtain ⟨wo2, hwo2⟩ : ∃ wo : World, wo = wr := ⟨_, rfl⟩
          go_wp2_with fail
          subst hwo2
          go_loopw [12, 14, 53] (fun e lo i wr => ∃ (m pE pL : Nat), m ≤ l ∧ i = .int .i64 (m : Int) ∧ pE ≤ 16384 + 4 * j + m ∧ pL ≤ 4 * j + m ∧ Hid (Own3 wr w4.heap.size e (.slice (some ⟨gF, 0, none⟩) nF cF) lo pE nF pL (EJ ++ (candW x m).filter (eqW f g)) F (LJ ++ (candW x m).filter (keepW false f g))) ∧ Hid (Below w4.heap.size w4 wr)) (fun _ _ i _ => l - (intOf i).toNat)
          case atStart => exact ⟨0, mE, mL, by omega, rfl, by omega, by omega, hidv (by simpa [candW] using hown2.out), hbe2⟩
          case round =>
            obtain ⟨m, pE, pL, hm, rfl, hpE, hpL, hown3, hbe3⟩ := hrel
            obtain ⟨wq, hwq⟩ : ∃ W, wr = W := ⟨_, rfl⟩
            rw [hwq] at hown3 hbe3 ⊢
            clear hwq
            by_cases hltm : m < l
            · have hbw3 := HB4.out.trans (hbe3.out.mono hz4)
              have HBW3 := hidv hbw3
              clear hbw3
              have hwn2 := HWN.out.snoc (show m < 4 by omega)
              have hw60 := hwn2.word (by omega)
              have hse := filter_snoc (eqW f g) (candW x m) (x ++ ltr m)
              have hsl2 := filter_snoc (keepW false f g) (candW x m) (x ++ ltr m)
              rw [← candW_succ] at hse hsl2
              have hkp : keepW false f g (x ++ ltr m) = fitW f g (x ++ ltr m) := by unfold keepW; rw [Bool.false_and, Bool.not_false, Bool.and_true]
              rw [hkp] at hsl2
              have hrest := eqW_rest f g (x ++ ltr m)
              have hslc := slice_let (show m < 4 by omega)
              have hCI := CI.out (x ++ ltr m) w3.heap.size wq HBW3.out hw60 ((HXF4.out.belowB hbe3.out hlf4).cell 0)
              have hCJ := fun W (h : Below wq.heap.size wq W) => CJ.out (x ++ ltr m) wf.heap.size W (below_on HBW3.out h) hw60 ((HXG4.out.belowB (hbe3.out.trans (h.mono hbe3.out.size)) hlg).cell 0)
              have hu480 := imgV_size hw60 HOF.out
              have hv480 := imgV_size hw60 HOG.out
              have hCR := fun W => restB_any (imgV (x ++ ltr m) f) (imgV (x ++ ltr m) g) W (by unfold maxLen; omega) (by unfold maxLen; omega)
              unfold fitW at hsl2 hrest
              obtain ⟨t, ht⟩ : ∃ t, ltr m = t := ⟨_, rfl⟩
              have hts : t.size = 1 := by rw [← ht]; rfl
              have HTS := hidv hts
              have hcat : ¬ (9223372036854775807 < x.size + t.size) := by omega
              rw [ht] at hse hsl2 hrest hslc hCI hCJ hCR hu480 hv480
              obtain ⟨u, hu⟩ : ∃ u, imgV (x ++ t) f = u := ⟨_, rfl⟩
              obtain ⟨v, hv⟩ : ∃ u, imgV (x ++ t) g = u := ⟨_, rfl⟩
              rw [hu] at hCI hCR hsl2 hrest hu480
              rw [hv] at hCJ hCR hsl2 hrest hv480
              obtain ⟨b, hb⟩ : ∃ b, ovF u v = b := ⟨_, rfl⟩
              obtain ⟨rr, hrr⟩ : ∃ b, ovR u v = b := ⟨_, rfl⟩
              obtain ⟨be, hbe4⟩ : ∃ b, eqW f g (x ++ t) = b := ⟨_, rfl⟩
              rw [hb, hrr] at hCR
              rw [hb] at hsl2
              rw [hb, hrr, hbe4] at hrest
              rw [hbe4] at hse
              have heqf : be = true → b = true := fun h => by
                have h2 := hbe4
                unfold eqW fitW at h2
                rw [hu, hv, hb, h] at h2
                rw [Bool.and_eq_true] at h2
                exact h2.1
              have HCI := hidv hCI
              have HCJ := hidv hCJ
              have HCR := hidv hCR
              have HRE := hidv hrest
              have HSE2 := hidv hse
              have HSL2 := hidv hsl2
              have HEF := hidv heqf
              clear hse hsl2 hkp hrest hCI hCJ hCR ht hts hu hv hb hrr hbe4 hwn2 hw60 heqf
              go_wp2_with fail
              refine HCI.out.mono ?_
              rintro e wa ⟨rfl, hba⟩
              have HBA := hidv hba
              clear hba
              go_wp2_with fail
              refine (HCJ.out _ HBA.out).mono ?_
              rintro e wb ⟨rfl, hbb⟩
              have HBB := hidv (below_on HBA.out hbb)
              clear hbb
              have HO3 := hidv (hown3.out.below HBB.out)
              have HBE := hidv (below_on hbe3.out HBB.out)
              have hzb := HBE.out.size
              clear HCI HCJ
              go_wp2_with fail
              refine (HCR.out _).mono ?_
              rintro e w' ⟨⟨r, rfl, hr⟩, rfl⟩
              have HRR := hidv hr
              clear hr HCR HBA HBB
              cases b
              · have be0 : be = false := by cases be; rfl; exact absurd (HEF.out rfl) (by decide)
                subst be0
                have HO4 := hidv (show Own3 wb w4.heap.size _ (.slice (some ⟨gF, 0, none⟩) nF cF) _ pE nF pL (EJ ++ (candW x (m + 1)).filter (eqW f g)) F (LJ ++ (candW x (m + 1)).filter (keepW false f g)) from by rw [HSE2.out, HSL2.out]; simpa using HO3.out)
                clear HO3
                go_wp2_with fail
                go_roundw
                case rel => exact ⟨m + 1, pE, pL, by omega, by go_num, by omega, by omega, HO4, HBE⟩
                case measure => simp [intOf]; omega
              · obtain rfl := HRR.out rfl
                have hre := HRE.out rfl
                cases be
                · have hemp : r.toList.isEmpty = false := hre.symm
                  clear hre
                  go_wp2_with (at_builtin; refine wpList_append_lies _ rfl (.tmp 74) (.tmp 76) 24 rfl w4.heap.size 9 i0 (.string ⟨#[]⟩) 1 16 Try.underlying24 hi hz0 hz1 hz2 rfl (by decide) _ _ _ rfl (World.ownsRow.alloc HO3.out.1.2.2 _) ⟨wb.heap.size, 0, none⟩ 1 1 [.string (x ++ t)] rfl rfl (one_newS wb _ _) (one_cell7 _) (by decide) ?_ ?_ ?_ (wb.heap.size + 1) (by simp) ?_; (unfold maxLen; omega); omega; (simp; omega); intro g6 cap6 w6 hown6 hgr6 hor6 hlt6)
                  have HO6 := hidv (HO3.out.app hown6 hgr6 hor6)
                  have HO7 := hidv (show Own3 w6 w4.heap.size _ (.slice (some ⟨gF, 0, none⟩) nF cF) _ pE nF (pL + 1) (EJ ++ (candW x (m + 1)).filter (eqW f g)) F (LJ ++ (candW x (m + 1)).filter (keepW false f g)) from by rw [HSE2.out, HSL2.out]; simpa using HO6.out)
                  have HB7 := hidv (grow7 HBE.out (Nat.le_refl _) HO3.out.1.2.2 hgr6)
                  go_roundw
                  case rel => exact ⟨m + 1, pE, pL + 1, by omega, by go_num, by omega, by omega, HO7, HB7⟩
                  case measure => simp [intOf]; omega
                · have hemp : r.toList.isEmpty = true := hre.symm
                  clear hre
                  have hsz0 : r.toList = [] := List.isEmpty_iff.mp hemp
                  go_wp2_with (first | ((at_builtin; refine wpList_append_lies _ rfl (.tmp 74) (.tmp 76) 24 rfl w4.heap.size 9 i0 (.string ⟨#[]⟩) 1 16 Try.underlying24 hi hz0 hz1 hz2 rfl (by decide) _ _ _ rfl (World.ownsRow.alloc HO3.out.1.2.2 _) ⟨wb.heap.size, 0, none⟩ 1 1 [.string (x ++ t)] rfl rfl (one_newS wb _ _) (one_cell7 _) (by decide) ?_ ?_ ?_ (wb.heap.size + 1) (by simp) ?_; (unfold maxLen; omega); omega; (simp; omega); intro g6 cap6 w6 hown6 hgr6 hor6 hlt6); have HB6 := hidv (grow7 HBE.out (Nat.le_refl _) HO3.out.1.2.2 hgr6); have HO6 := hidv (HO3.out.app hown6 hgr6 hor6).rot; have hz6 := HB6.out.size) | (at_builtin; refine wpList_append_lies _ rfl (.tmp 80) (.tmp 82) 24 rfl w4.heap.size 9 i0 (.string ⟨#[]⟩) 1 16 Try.underlying24 hi hz0 hz1 hz2 rfl (by decide) _ _ _ rfl (World.ownsRow.alloc HO6.out.1.2.2 _) ⟨w6.heap.size, 0, none⟩ 1 1 [.string (x ++ t)] rfl rfl (one_newS w6 _ _) (one_cell7 _) (by decide) ?_ ?_ ?_ (w6.heap.size + 1) (by simp) ?_; (unfold maxLen; omega); omega; (simp; omega); intro g7 cap7 w7 hown7 hgr7 hor7 hlt7))
                  have HO8 := hidv (HO6.out.app hown7 hgr7 hor7).rot.rot
                  have HO9 := hidv (show Own3 w7 w4.heap.size _ (.slice (some ⟨gF, 0, none⟩) nF cF) _ (pE + 1) nF (pL + 1) (EJ ++ (candW x (m + 1)).filter (eqW f g)) F (LJ ++ (candW x (m + 1)).filter (keepW false f g)) from by rw [HSE2.out, HSL2.out]; simpa using HO8.out)
                  have HB9 := hidv (grow7 HB6.out (Nat.le_refl _) HO6.out.1.2.2 hgr7)
                  go_roundw
                  case rel => exact ⟨m + 1, pE + 1, pL + 1, by omega, by go_num, by omega, by omega, HO9, HB9⟩
                  case measure => simp [intOf]; omega
            · obtain rfl : m = l := by omega
              have hcw : candW x m = candW x m := rfl
              have HO8 := hidv (show Own3 wq w4.heap.size _ (.slice (some ⟨gF, 0, none⟩) nF cF) _ pE nF pL (E0 ++ (candL (F.take (j + 1)) m).filter (eqW f g)) F ((candL (F.take (j + 1)) m).filter (keepW false f g)) from by rw [HSU.out, List.filter_append, List.filter_append, ← List.append_assoc, HEJ.out, HLJ.out]; exact hown3.out)
              go_wp2_with fail
              go_roundw
              case rel => exact ⟨j + 1, pE, pL, by omega, by go_num, by omega, by omega, HO8, hbe3⟩
              case measure => simp [intOf]; omega
        · obtain rfl : j = nF := by omega
          have hte : F.take j = F := List.take_of_length_le (by have := HNF.out; omega)
          rw [hte] at hown2
          have HO9 := hidv (show Own3 wr w4.heap.size _ _ (.slice none 0 0) mE mL 0 (eqs false f g l (k + 1)) (lev false f g l (k + 1)) [] from by
            rw [HSE.out, HSL.out]
            exact ⟨⟨hown2.out.1.1, hown2.out.1.2.2, Rw.nil _ _⟩, hown2.out.2.2.1, AP.nil _, AP.nil _⟩)
          go_wp2_with fail
          go_roundw
          case rel => exact ⟨k + 1, mE, mL, by omega, by go_num, HO9, hbe2⟩
          case measure => simp [intOf]; omega
    · obtain rfl : k = n := by omega
      have HST := hidv hown.out.1.1.strs
      have hlE := hown.out.1.1.len
      have HBW := hidv (HB4.out.trans (hbe.out.mono hz4))
      have hrow := hown.out.1.1.strs.row
      obtain ⟨AE, cE, hvE, _⟩ := hrow
      rw [List.length_map, hlE] at hvE
      subst hvE
      rw [hlE] at HR3
      have hzz := HB4.out.size
      by_cases h200 : 200 < nE
      · obtain ⟨rfl, rfl⟩ := HR3.out.1 h200
        clear hlE
        go_wp2_with fail
        go_ret2
        exact ⟨_, rfl, World.ownsRow_nil _ _ _ _, HBW.out⟩
      · obtain ⟨rfl, rfl⟩ := HR3.out.2 (by omega)
        clear hlE
        go_wp2_with fail
        go_ret2
        exact ⟨_, rfl, own_wider HST.out hzz, HBW.out⟩

end Go.Proofs.Ytpjidcfdcpjafaa
