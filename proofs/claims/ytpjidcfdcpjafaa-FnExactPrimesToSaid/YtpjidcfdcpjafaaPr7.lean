/-
  PrimesTo, of the program and of the model: contracts.
-/
import Derived.Test.YtpjidcfdcpjafaaPr7m
import Derived.Test.YtpjidcfdcpjafaaEqT
namespace Go.Proofs.Ytpjidcfdcpjafaa
open Go.RowKit Go
set_option linter.unusedVariables false

theorem closP_any (x y : ByteArray) (b : Nat) (w : World) (hb : w.cell? ⟨b, 0, none⟩ = some (.string x)) :
    Calls Try.prog 73 #[.string y, .pointer (some ⟨b, 0, none⟩)] w fun e w' => e = .returned (.bool (Lib.hasPrefix x.data.toList y.data.toList)) ∧ w = w' := by
  have C := hidv (Try.strings_HasPrefix x y w)
  obtain ⟨q, hq⟩ : ∃ q, Lib.hasPrefix x.data.toList y.data.toList = q := ⟨_, rfl⟩
  rw [hq] at C ⊢
  clear hq
  go_enter Try.func73, Try.ntmps73
  go_wp2_with fail
  refine C.out.mono ?_
  rintro e w' ⟨rfl, rfl⟩
  go_wp2_with fail
  go_ret
  exact ⟨rfl, rfl⟩

set_option maxRecDepth 100000 in
set_option maxHeartbeats 800000 in
theorem indexP_any (L : List ByteArray) (v : Value) (x : ByteArray) (b B : Nat) (w : World) (hb : w.cell? ⟨b, 0, none⟩ = some (.string x)) (hv : Row w B v (L.map Value.string)) (hl : L.length ≤ 1048576) :
    Calls Try.prog 102 #[v, .func (.func 73) #[] #[.pointer (some ⟨b, 0, none⟩)]] w fun e w' => ∃ i : Int, e = .returned (.int .i64 i) ∧ (0 ≤ i ↔ ∃ z ∈ L, Lib.hasPrefix x.data.toList z.data.toList = true) ∧ -1 ≤ i ∧ i ≤ 1048576 ∧ w = w' := by
  obtain ⟨A, c, rfl, hA⟩ := strRow_at hv
  obtain ⟨n, hn⟩ : ∃ n, L.length = n := ⟨_, rfl⟩
  have HA := hidv hA
  rw [hn] at hl ⊢
  have HN := hidv hn
  have HC := hidv (fun y => closP_any x y b w hb)
  clear hA hn hv hb
  go_enter Try.func102, Try.ntmps102
  go_wp2
  go_loop [8] (fun i => ∃ k : Nat, k ≤ n ∧ i = .int .i64 k ∧ Hid (∀ j (h : j < L.length), j < k → Lib.hasPrefix x.data.toList L[j].data.toList = false)) (fun i => n - (intOf i).toNat)
  case atStart => exact ⟨0, Nat.zero_le _, rfl, hidv (fun j h hj => by omega)⟩
  case round =>
    obtain ⟨k, hk, rfl, hall⟩ := hrel
    by_cases hlt : k < n
    · have hkx : k < L.length := by have := HN.out; omega
      obtain ⟨g, o, rfl, hg, hce⟩ := HA.out (by have := HN.out; omega)
      have c1 := hce k hkx
      have hmem := List.getElem_mem hkx
      obtain ⟨y, hy⟩ : ∃ a, L[k] = a := ⟨_, rfl⟩
      rw [hy] at c1 hmem
      have hc := HC.out y
      obtain ⟨q, hq⟩ : ∃ q, Lib.hasPrefix x.data.toList y.data.toList = q := ⟨_, rfl⟩
      rw [hq] at hc
      have HCC := hidv hc
      have HQ := hidv hq
      have HME := hidv hmem
      have HYX := hidv hy
      clear hq hy hmem hce hc
      go_wp2_with fail
      refine HCC.out.mono ?_
      rintro e w2 ⟨rfl, rfl⟩
      cases q
      · have HALL := hidv (show ∀ j (h : j < L.length), j < k + 1 → Lib.hasPrefix x.data.toList L[j].data.toList = false from fun j h hj => by
          rcases Nat.lt_or_ge j k with h2 | h2
          · exact hall.out j h h2
          · obtain rfl : j = k := by omega
            rw [HYX.out]
            exact HQ.out)
        go_wp2_with fail
        go_round
        case rel => exact ⟨k + 1, by omega, by go_num, HALL⟩
        case measure => simp [intOf]; omega
      · go_wp2_with fail
        go_ret
        exact ⟨_, rfl, ⟨fun _ => ⟨y, HME.out, HQ.out⟩, fun _ => by omega⟩, by omega, by omega, rfl⟩
    · obtain rfl : k = n := by omega
      have hno : ¬ ∃ z ∈ L, Lib.hasPrefix x.data.toList z.data.toList = true := fun ⟨z, hz, h⟩ => by
        obtain ⟨j, hj, rfl⟩ := List.getElem_of_mem hz
        have := hall.out j hj (by have := HN.out; omega)
        rw [h] at this; cases this
      have HNO := hidv hno
      clear hno
      go_wp2
      go_ret
      exact ⟨_, rfl, ⟨fun h => by omega, fun h => absurd h HNO.out⟩, by omega, by omega, rfl⟩

set_option maxHeartbeats 800000 in
theorem containsP_any (L : List ByteArray) (v : Value) (x : ByteArray) (b B : Nat) (w : World) (hb : w.cell? ⟨b, 0, none⟩ = some (.string x)) (hv : Row w B v (L.map Value.string)) (hl : L.length ≤ 1048576) (d : Bool) (hd : d = true ↔ ∃ z ∈ L, Lib.hasPrefix x.data.toList z.data.toList = true) :
    Calls Try.prog 65 #[v, .func (.func 73) #[] #[.pointer (some ⟨b, 0, none⟩)]] w fun e w' => e = .returned (.bool d) ∧ w = w' := by
  have C := hidv (indexP_any L v x b B w hb hv hl)
  have hvv : ∃ A n c, v = .slice A n c := by obtain ⟨A, c, hh, _⟩ := hv; exact ⟨A, _, c, hh⟩
  obtain ⟨A, n, c, rfl⟩ := hvv
  have HD := hidv hd
  clear hv hd hb
  go_enter Try.func65, Try.ntmps65
  go_wp2_with fail
  refine C.out.mono ?_
  rintro e w2 ⟨i, rfl, hi, hm, hM, rfl⟩
  have HI := hidv hi
  clear hi
  by_cases h : 0 ≤ i
  · obtain rfl : d = true := HD.out.mpr (HI.out.mp h)
    go_wp2_with fail
    go_ret
    exact ⟨by simp, rfl⟩
  · obtain rfl : d = false := iff_no HD.out (fun hh => h (HI.out.mpr hh))
    go_wp2_with fail
    go_ret
    exact ⟨by simp [h], rfl⟩

/-- What PrimesTo answers. -/
def PrR (f g : List ByteArray) (l n : Int) (L : List ByteArray) (c : Int) : Prop := ∃ E, EqR false f g l n E c ∧ L = E.filter (prW f g)
theorem prR_ex (f g : List ByteArray) (l n : Int) : ∃ L c, PrR f g l n L c ∧ L.length ≤ 200 := by
  obtain ⟨E, c, h, hl⟩ := eqR_ex false f g l n
  exact ⟨_, c, ⟨E, h, rfl⟩, Nat.le_trans (List.length_filter_le _ _) hl⟩
theorem eqR_cases {p : Bool} {f g : List ByteArray} {l n : Int} {E : List ByteArray} {c : Int} (h : EqR p f g l n E c) : (E = [] ∧ (c = 1 ∨ c = 2 ∨ c = 3)) ∨ (c = 0 ∧ (ImgOk f ∧ ImgOk g) ∧ EqIn l n ∧ (eqs p f g l.toNat n.toNat).length ≤ 200 ∧ E = eqs p f g l.toNat n.toNat) := by
  by_cases h1 : ImgOk f ∧ ImgOk g
  · by_cases h2 : EqIn l n
    · by_cases h3 : 200 < (eqs p f g l.toNat n.toNat).length
      · have := ((h.1 h1).1 h2).1 h3
        exact .inl ⟨this.1, .inr (.inr this.2)⟩
      · have := ((h.1 h1).1 h2).2 (by omega)
        exact .inr ⟨this.2, h1, h2, by omega, this.1⟩
    · have := (h.1 h1).2 h2
      exact .inl ⟨this.1, .inr (.inl this.2)⟩
  · have := h.2 h1
    exact .inl ⟨this.1, .inl this.2⟩
theorem eqR_len {p : Bool} {f g : List ByteArray} {l n : Int} {E : List ByteArray} {c : Int} (h : EqR p f g l n E c) : E.length ≤ 200 := by
  rcases eqR_cases h with ⟨rfl, _⟩ | ⟨_, _, _, h1, rfl⟩
  · simp
  · exact h1
/-- The sieve's step, at each word of what EqualTo tells. -/
def SvOk (f g E : List ByteArray) : Prop := ∀ j (hj : j < E.length), (∃ q ∈ (E.take j).filter (prW f g), Lib.hasPrefix E[j].data.toList q.data.toList = true) ↔ prW f g E[j] = false
theorem eqR_sv {f g : List ByteArray} {l n : Int} {E : List ByteArray} {c : Int} (h : EqR false f g l n E c) : SvOk f g E := by
  rcases eqR_cases h with ⟨rfl, _⟩ | ⟨_, _, h2, _, rfl⟩
  · intro j hj; simp at hj
  · intro j hj
    exact sieve (by have := h2.1; omega) j hj
theorem filt_succ (P : ByteArray → Bool) (E : List ByteArray) (j : Nat) (hj : j < E.length) : (E.take (j + 1)).filter P = (E.take j).filter P ++ (if P E[j] then [E[j]] else []) := by
  rw [List.take_succ_eq_append_getElem hj, filter_snoc]

set_option maxRecDepth 100000 in
set_option maxHeartbeats 3200000 in
theorem implPr_any (vf vg : Value) (f g : List ByteArray) (l n : Int) (B C : Nat) (w : World) (hf : Row w B vf (f.map Value.string)) (hB : B ≤ w.heap.size) (hg : Row w C vg (g.map Value.string)) (hC : C ≤ w.heap.size) (hfl : f.length ≤ 1048576) (hgl : g.length ≤ 1048576) (hfz : ∀ s ∈ f, s.size ≤ maxLen) (hgz : ∀ s ∈ g, s.size ≤ maxLen) (L : List ByteArray) (c : Int) (hd : PrR f g l n L c) :
    Calls Try.prog 30 #[vf, vg, .int .i64 l, .int .i64 n] w fun e w' => ∃ u, e = .returned (.tuple #[u, .int .i64 c]) ∧ Strs w' w.heap.size u L ∧ Below w.heap.size w w' := by
  obtain ⟨i0, hi, hz0, hz1, hz2⟩ := info_parts Try.infoS
  obtain ⟨E, hE, hL⟩ := hd
  have C1 := hidv (implEq_any vf vg f g l n B C w hf hB hg hC hfl hgl hfz hgz E c hE)
  have HSV := hidv (eqR_sv hE)
  have hEl := eqR_len hE
  obtain ⟨m, hm⟩ : ∃ m, E.length = m := ⟨_, rfl⟩
  rw [hm] at hEl
  have HM := hidv hm
  have HL := hidv hL
  clear hf hg hfz hgz hE hm hL
  go_enter Try.func30, Try.ntmps30
  go_wp2_with fail
  refine C1.out.mono ?_
  rintro e w1 ⟨u, rfl, hu, hb⟩
  have HB1 := hidv hb
  have hz1s := hb.size
  obtain ⟨A, cA, hvA, hA⟩ := strRow_at hu.row
  rw [HM.out] at hvA
  have HA := hidv hA
  subst hvA
  clear hu hb hA
  go_wp2_with fail
  go_loopw [12, 25] (fun v i wr => ∃ (j k : Nat), j ≤ m ∧ i = .int .i64 (j : Int) ∧ k ≤ j ∧ Hid (Rw wr w1.heap.size v k ((E.take j).filter (prW f g))) ∧ Hid (Below w1.heap.size w1 wr)) (fun _ i _ => m - (intOf i).toNat)
  case atStart => exact ⟨0, 0, by omega, rfl, by omega, hidv (Rw.nil _ _), hidv (Below.refl _ _)⟩
  case round =>
    obtain ⟨j, k, hj, rfl, hkj, hown, hbe⟩ := hrel
    by_cases hlt : j < m
    · have hjx : j < E.length := by have := HM.out; omega
      obtain ⟨g0, o, rfl, hg0, hce⟩ := HA.out (by omega)
      have c1 := (hbe.out.cell (p := ⟨g0, o + j, none⟩) (by show g0 < _; omega)).trans (hce j hjx)
      have hsv := HSV.out j hjx
      have hfs := filt_succ (prW f g) E j hjx
      obtain ⟨x, hx1⟩ : ∃ x, E[j] = x := ⟨_, rfl⟩
      rw [hx1] at c1 hsv hfs
      obtain ⟨P, hP⟩ : ∃ P, (E.take j).filter (prW f g) = P := ⟨_, rfl⟩
      rw [hP] at hsv hfs hown
      obtain ⟨d, hd⟩ := iffB (∃ z ∈ P, Lib.hasPrefix x.data.toList z.data.toList = true)
      have hPk := hown.out.len
      obtain ⟨W, hW⟩ : ∃ W, wr.alloc (.cells #[.string x] 9) = W := ⟨_, rfl⟩
      have hbw : Below wr.heap.size wr W := by rw [← hW]; exact below_al (Below.refl _ _) _
      have hbx : W.cell? ⟨wr.heap.size, 0, none⟩ = some (.string x) := by rw [← hW]; exact (Bx.new wr 9 #[.string x]).cell 0
      have hownW := hown.out.below hbw
      have CC := hidv (containsP_any P _ x wr.heap.size W.heap.size W hbx hownW.strs.row (by omega) d hd)
      have HOW := hidv hownW
      have HBW := hidv (below_on hbe.out hbw)
      have hdp : d = !(prW f g x) := by
        cases hp : prW f g x
        · exact iff_yes hd (hsv.mpr hp)
        · exact iff_no hd (fun h => by have := hsv.mp h; rw [hp] at this; cases this)
      have HFS := hidv hfs
      have hszr := hbe.out.size
      have hszW := HBW.out.size
      clear hce hsv hfs hx1 hP hd hPk hownW hbw
      cases hp : prW f g x
      · rw [hp] at HFS hdp
        subst hdp
        clear hp
        have HO2 := hidv (show Rw W w1.heap.size _ k ((E.take (j + 1)).filter (prW f g)) from by rw [HFS.out]; simpa using HOW.out)
        go_wp2_with fail
        refine CC.out.mono ?_
        rintro e w' ⟨rfl, rfl⟩
        go_wp2_with fail
        go_roundw
        case rel => exact ⟨j + 1, k, by omega, by go_num, by omega, HO2, HBW⟩
        case measure => simp [intOf]; omega
      · rw [hp] at HFS hdp
        subst hdp
        clear hp
        go_wp2_with fail
        refine CC.out.mono ?_
        rintro e w' ⟨rfl, rfl⟩
        clear hW
        go_wp2_with (at_builtin; refine wpList_append_own _ rfl (.tmp 33) (.tmp 35) 24 rfl w1.heap.size 9 i0 (.string ⟨#[]⟩) 1 16 Try.underlying24 hi hz0 hz1 hz2 rfl (by decide) _ _ _ rfl (World.ownsRow.alloc HOW.out _) ⟨W.heap.size, 0, none⟩ 1 1 [.string x] rfl rfl (one_newS W _ _) (one_cell7 _) ?_ ?_ ?_ ?_; (unfold maxLen; omega); omega; (simp; omega); intro v1 w5 hown1 hgr1 _)
        go_roundw
        case rel =>
          refine ⟨j + 1, k + 1, by omega, by go_num, by omega, hidv ?_, hidv (grow7 HBW.out (Nat.le_refl _) HOW.out hgr1)⟩
          rw [HFS.out]
          show World.ownsRow _ _ _ _ _ _ _
          rw [List.map_append]
          exact hown1
        case measure => simp [intOf]; omega
    · obtain rfl : j = m := by omega
      have hte : E.take j = E := List.take_of_length_le (by have := HM.out; omega)
      rw [hte, ← HL.out] at hown
      go_wp2_with fail
      go_ret2
      exact ⟨_, rfl, own_wider hown.out.strs hz1s, HB1.out.trans (hbe.out.mono hz1s)⟩

theorem specPr_any (vf vg : Value) (f g : List ByteArray) (l n : Int) (B C : Nat) (w : World) (hf : Row w B vf (f.map Value.string)) (hB : B ≤ w.heap.size) (hg : Row w C vg (g.map Value.string)) (hC : C ≤ w.heap.size) (hfl : f.length ≤ 1048576) (hgl : g.length ≤ 1048576) (hfz : ∀ s ∈ f, s.size ≤ maxLen) (hgz : ∀ s ∈ g, s.size ≤ maxLen) (L : List ByteArray) (c : Int) (hd : PrR f g l n L c) :
    Calls Try.prog 31 #[vf, vg, .int .i64 l, .int .i64 n] w fun e w' => ∃ u, e = .returned (.tuple #[u, .int .i64 c]) ∧ Strs w' w.heap.size u L ∧ Below w.heap.size w w' := by
  obtain ⟨E, hE, hL⟩ := hd
  have C1 := hidv (l07Equal_any vf vg f g l n false B C w hf hB hg hC hfl hgl hfz hgz E c hE)
  rcases eqR_cases hE with ⟨rfl, hc⟩ | ⟨rfl, h1, h2, h3, hEe⟩
  · obtain rfl : L = [] := hL
    have hne : (c != 0) = true := by rw [bne_iff_ne]; omega
    clear hf hg hfz hgz hE hc
    go_enter Try.func31, Try.ntmps31
    go_wp2_with fail
    refine C1.out.mono ?_
    rintro e w1 ⟨u, rfl, hu, hb⟩
    have HU := hidv hu
    have HB := hidv hb
    clear hu hb
    go_wp2_with fail
    go_ret2
    exact ⟨_, rfl, HU.out, HB.out⟩
  · have h5 : eqs true f g l.toNat n.toNat = L := by rw [eqs_true, ← hEe]; exact hL.symm
    have h6 : L.length ≤ 200 := by rw [hL]; exact Nat.le_trans (List.length_filter_le _ _) (eqR_len hE)
    have h7 : EqR true f g l n L 0 := ⟨fun _ => ⟨fun _ => ⟨fun h => by rw [h5] at h; omega, fun _ => ⟨h5.symm, rfl⟩⟩, fun hn => absurd h2 hn⟩, fun hn => absurd h1 hn⟩
    have C2 := hidv (fun W (h : Below w.heap.size w W) => l07Equal_any vf vg f g l n true B C W (hf.below (h.mono hB)) (Nat.le_trans hB h.size) (hg.below (h.mono hC)) (Nat.le_trans hC h.size) hfl hgl hfz hgz L 0 h7)
    clear hf hg hfz hgz hE hEe h1 h2 h3 h5 h6 h7 hL
    go_enter Try.func31, Try.ntmps31
    go_wp2_with fail
    refine C1.out.mono ?_
    rintro e w1 ⟨u, rfl, hu, hb⟩
    have HB := hidv hb
    have hzs := hb.size
    clear hu hb
    go_wp2_with fail
    refine (C2.out _ HB.out).mono ?_
    rintro e w2 ⟨u2, rfl, hu2, hb2⟩
    have HU := hidv hu2
    have HB2 := hidv (below_on HB.out hb2)
    clear hu2 hb2
    go_wp2_with fail
    go_ret2
    exact ⟨_, rfl, own_wider HU.out hzs, HB2.out⟩

end Go.Proofs.Ytpjidcfdcpjafaa
