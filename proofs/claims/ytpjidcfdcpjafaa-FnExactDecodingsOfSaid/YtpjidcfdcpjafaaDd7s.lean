/-
  All decodings, as the model lists them: a contract.
-/
import Derived.Test.YtpjidcfdcpjafaaDd7m
import Derived.Test.YtpjidcfdcpjafaaCt7s
import Derived.Test.YtpjidcfdcpjafaaCopy
import Derived.Test.YtpjidcfdcpjafaaOwn7
import Derived.Test.YtpjidcfdcpjafaaI2
import Derived.Deep.AppendLies
import Derived.Deep.RegionHeld3
import Derived.Lib.OwnKind
namespace Go.Proofs.Ytpjidcfdcpjafaa
open Go.RowKit Go
set_option linter.unusedVariables false

theorem Try.infoDd : (Try.prog.info? 26).map (fun i => (i.zero, i.size, i.bytes)) = some (some (.slice none 0 0), 1, 24) := by kernel_rfl
theorem own_kindsD {w w' : World} {b1 b2 e1 e2 s1 s2 n1 n2 : Nat} {v1 v2 : Value} {x1 x2 : List Value} (h1 : w.ownsRow b1 e1 s1 v1 n1 x1) (h2 : w.ownsRow b2 e2 s2 v2 n2 x2) (he : e1 ≠ e2) (hg : w.grownBy w' v1.ownBlock) : w'.ownsRow b2 e2 s2 v2 n2 x2 :=
  h2.kept (row := v1.ownBlock) hg (by
    rcases h2.2 with ⟨rfl, _⟩ | ⟨g, cap, cur, rfl, hb, hh, _⟩
    · exact .inl rfl
    · right
      intro hq
      rcases h1.2 with ⟨rfl, _⟩ | ⟨g1, cap1, cur1, rfl, hb1, hh1, _⟩
      · cases hq
      · have h3 : g = g1 := by simpa [Value.ownBlock] using hq
        subst h3
        rw [hh] at hh1
        simp at hh1
        exact he hh1.2.symm)
/-- Rows of numbers, each in a block of its own. -/
def CopD (w : World) (B : Nat) (rs : List (List Int)) (us : List Value) : Prop :=
  us.length = rs.length ∧ ∀ i (h : i < us.length), ∃ hr : i < rs.length, w.ownsRow B 2 1 us[i] rs[i].length (rs[i].map (Value.int .i64))
theorem CopD.below {w w' : World} {B : Nat} {rs : List (List Int)} {us : List Value} (h : CopD w B rs us) (hb : Below w.heap.size w w') : CopD w' B rs us := ⟨h.1, fun i hi => by
  obtain ⟨hr, h1⟩ := h.2 i hi
  exact ⟨hr, own_below h1 hb⟩⟩
theorem CopD.snoc {w : World} {B : Nat} {rs : List (List Int)} {r : List Int} {us : List Value} {u : Value} (h : CopD w B rs us) (hu : w.ownsRow B 2 1 u r.length (r.map (Value.int .i64))) : CopD w B (rs ++ [r]) (us ++ [u]) := ⟨by simp [h.1], fun i hi => by
  have hl := h.1
  rcases Nat.lt_or_ge i us.length with h1 | h1
  · obtain ⟨hr, h2⟩ := h.2 i h1
    refine ⟨by simp; omega, ?_⟩
    rw [List.getElem_append_left h1, List.getElem_append_left hr]
    exact h2
  · obtain rfl : i = us.length := by simp at hi; omega
    refine ⟨by simp; omega, ?_⟩
    have e1 : (us ++ [u])[us.length] = u := by simp
    have e2 : (rs ++ [r])[us.length]'(by simp; omega) = r := by
      rw [List.getElem_append_right (by omega)]; simp [hl]
    rw [e1, e2]
    exact hu⟩
theorem CopD.grown {w w' : World} {B base n : Nat} {v : Value} {xs : List Value} {rs : List (List Int)} {us : List Value} (h : CopD w B rs us) (h1 : w.ownsRow base 26 1 v n xs) (hg : w.grownBy w' v.ownBlock) : CopD w' B rs us := ⟨h.1, fun i hi => by
  obtain ⟨hr, h2⟩ := h.2 i hi
  exact ⟨hr, own_kindsD h1 h2 (by decide) hg⟩⟩
/-- A slice of slices of numbers of the call's own: the outer one and the inner ones from block 'base' on. -/
def IG (w : World) (base : Nat) (v : Value) (rs : List (List Int)) : Prop := ∃ us, w.ownsRow base 26 1 v rs.length us ∧ CopD w base rs us
theorem IG.below {w w' : World} {base : Nat} {v : Value} {rs : List (List Int)} (h : IG w base v rs) (hb : Below w.heap.size w w') : IG w' base v rs := by
  obtain ⟨us, h1, h2⟩ := h
  exact ⟨us, own_below h1 hb, h2.below hb⟩
theorem IG.row {w : World} {base : Nat} {v : Value} {rs : List (List Int)} (h : IG w base v rs) : IRows w w.heap.size v rs := by
  obtain ⟨us, h1, h2⟩ := h
  refine ⟨us, Row.of_own h1, h2.1, fun i hi => ?_⟩
  obtain ⟨hr, h3⟩ := h2.2 i (by rw [h2.1]; exact hi)
  exact ⟨us[i]'(by rw [h2.1]; exact hi), List.getElem?_eq_getElem _, Row.of_own h3⟩
theorem IG.form {w : World} {base : Nat} {v : Value} {rs : List (List Int)} (h : IG w base v rs) : ∃ A c, v = .slice A rs.length c := by
  obtain ⟨A, c, hv, _⟩ := h.row.at
  exact ⟨A, c, hv⟩
/-- What grows: the block of v alone, or one that is new; then u. -/
def GrD (w w' : World) (v u : Value) : Prop := w.grownBy w' v.ownBlock ∧ ∀ k, u.ownBlock = some k → v.ownBlock = some k ∨ w.heap.size ≤ k
theorem GrD.refl (w : World) (v : Value) : GrD w w v v := ⟨World.grownBy.refl _ _, fun k h => .inl h⟩
theorem grown_thenD {a b c : World} {r s : Option Nat} (h : a.grownBy b r) (k : b.grownBy c s) (hs : ∀ q, s = some q → r = some q ∨ a.heap.size ≤ q) : a.grownBy c r :=
  ⟨k.os.trans h.os, k.tape.trans h.tape, k.output.trans h.output, Nat.le_trans h.size k.size, fun i hi hr => by
    refine (k.block i (Nat.lt_of_lt_of_le hi h.size) ?_).trans (h.block i hi hr)
    intro e
    rcases hs i e.symm with h1 | h1
    · exact hr h1.symm
    · omega⟩
theorem GrD.trans {a b c : World} {v u x : Value} (h : GrD a b v u) (k : GrD b c u x) : GrD a c v x :=
  ⟨grown_thenD h.1 k.1 h.2, fun q hq => by
    rcases k.2 q hq with h1 | h1
    · exact h.2 q h1
    · exact .inr (Nat.le_trans h.1.size h1)⟩
theorem GrD.before {a b c : World} {v u : Value} (h : Below a.heap.size a b) (k : GrD b c v u) : GrD a c v u :=
  ⟨grown_trans (grown_below h) k.1, fun q hq => by
    rcases k.2 q hq with h1 | h1
    · exact .inl h1
    · exact .inr (Nat.le_trans h.size h1)⟩
theorem GrD.below {w w' : World} {v u : Value} {base : Nat} {rs : List (List Int)} (h : GrD w w' v u) (hv : IG w base v rs) (hb : base ≤ w.heap.size) : Below base w w' := by
  obtain ⟨us, h1, _⟩ := hv
  exact below_grown h.1 hb (fun k hk => (World.ownsRow.lt h1 k hk).1)
theorem news_keptD {w w' : World} {B b : Nat} {news : List Value} (h : ∀ j u, news[j]? = some u → w.cell? ((⟨b, 0, none⟩ : Addr).add j) = some u) (hb : Below B w w') (hlt : b < B) : ∀ j u, news[j]? = some u → w'.cell? ((⟨b, 0, none⟩ : Addr).add j) = some u :=
  fun j u hu => (hb.cell (p := (⟨b, 0, none⟩ : Addr).add j) (by show ((⟨b, 0, none⟩ : Addr).add j).block < B; rw [show ((⟨b, 0, none⟩ : Addr).add j).block = b by unfold Addr.add; split <;> rfl]; exact hlt)).trans (h j u hu)
theorem own_snocD {w : World} {base e : Nat} {v : Value} {pre : List Int} {x : Int} (h : w.ownsRow base e 1 v (pre.length + 1) (pre.map (Value.int .i64) ++ [.int .i64 x])) : w.ownsRow base e 1 v (pre ++ [x]).length ((pre ++ [x]).map (Value.int .i64)) := by
  rw [List.length_append, List.map_append]
  exact h
theorem one_newD (w : World) (x : Value) (t : TypeId) : ∀ (j : Nat) (u : Value), [x][j]? = some u → (w.alloc (.cells #[x] t)).cell? ((⟨w.heap.size, 0, none⟩ : Addr).add j) = some u := by
  intro j u hu
  match j, hu with
  | 0, hu =>
    obtain rfl : x = u := by simpa using hu
    exact (Bx.new w t #[x]).cell 0
theorem one_cellD (a : Option Addr) (n c : Nat) : ∀ u : Value, u ∈ [Value.slice a n c] → u.oneCell' = true := by
  intro u hu
  simp only [List.mem_cons, List.not_mem_nil, or_false] at hu
  subst hu; rfl
theorem one_intD (x : Int) : ∀ u : Value, u ∈ [Value.int .i64 x] → u.oneCell' = true := by
  intro u hu
  simp only [List.mem_cons, List.not_mem_nil, or_false] at hu
  subst hu; rfl

set_option maxRecDepth 100000 in
set_option maxHeartbeats 3200000 in
theorem decode_step (vx : Value) (xs : List ByteArray) (B most : Nat) (hx : WsOk xs) (hmost : most ≤ 1000000) (base : Nat) (hBb : B ≤ base) (n : Nat)
    (ih : ∀ (s : ByteArray) (vb : Value) (pre : List Int) (vo : Value) (rs : List (List Int)) (w : World), s.size < n → Row w B vx (xs.map Value.string) → base ≤ w.heap.size → w.ownsRow base 2 1 vb pre.length (pre.map (Value.int .i64)) → pre.length + s.size ≤ 60 → IG w base vo rs → rs.length ≤ most →
      Calls Try.prog 79 #[vx, .string s, vb, vo, .int .i64 (most : Int)] w fun e w' => ∃ u, e = .returned u ∧ IG w' base u ((rs ++ dcB xs pre s).take most) ∧ GrD w w' vo u)
    (s : ByteArray) (vb : Value) (pre : List Int) (vo : Value) (rs : List (List Int)) (w : World) (hsn : s.size = n) (hr : Row w B vx (xs.map Value.string)) (hbw : base ≤ w.heap.size) (hpre : w.ownsRow base 2 1 vb pre.length (pre.map (Value.int .i64))) (hps : pre.length + s.size ≤ 60) (ho : IG w base vo rs) (hrs : rs.length ≤ most) :
    Calls Try.prog 79 #[vx, .string s, vb, vo, .int .i64 (most : Int)] w fun e w' => ∃ u, e = .returned u ∧ IG w' base u ((rs ++ dcB xs pre s).take most) ∧ GrD w w' vo u := by
  subst hsn
  obtain ⟨i0, hi, hz0, hz1, hz2⟩ := info_parts Try.infoDd
  obtain ⟨j0, hj, hy0, hy1, hy2⟩ := info_parts Try.infoN
  obtain ⟨Ao, co, rfl⟩ := ho.form
  obtain ⟨R, hR⟩ : ∃ R, rs.length = R := ⟨_, rfl⟩
  obtain ⟨Ab, np, cb, rfl⟩ : ∃ A n c, vb = .slice A n c := by
    obtain ⟨A, c, h, _⟩ := Row.of_own hpre
    exact ⟨A, _, c, h⟩
  have HO := hidv ho
  have HP := hidv hpre
  have HIH := hidv ih
  have HRW := hidv hr
  have HX := hidv hx
  rw [hR] at hrs HO ⊢
  have HRL := hidv hR
  clear ho hpre ih hr hx hR
  by_cases hfull : most ≤ R
  · obtain rfl : R = most := by omega
    clear hfull
    have he : (rs ++ dcB xs pre s).take R = rs := by
      rw [List.take_append_of_le_length (by rw [HRL.out]; exact Nat.le_refl _), List.take_of_length_le (by rw [HRL.out]; exact Nat.le_refl _)]
    have HE := hidv he
    clear he
    go_enter Try.func79, Try.ntmps79
    go_wp2_with fail
    go_ret
    exact ⟨_, rfl, by rw [HE.out]; exact HO.out, GrD.refl _ _⟩
  by_cases hs0 : s.size = 0
  · obtain rfl : s = ⟨#[]⟩ := ba_ext2 (by rw [show s.data.toList = [] from List.eq_nil_of_length_eq_zero (by simpa using hs0)])
    have HD := hidv (show (rs ++ dcB xs pre ⟨#[]⟩).take most = rs ++ [pre] from by
      rw [dcB_nil xs pre rfl, List.take_of_length_le (by simp; have := HRL.out; omega)])
    have HC := hidv (own_any _ pre w.heap.size w (Row.of_own HP.out) (Nat.le_refl _) (by omega))
    clear hs0
    go_enter Try.func79, Try.ntmps79
    go_wp2_with fail
    refine HC.out.mono ?_
    rintro e w2 ⟨u, rfl, hu, hb2⟩
    obtain ⟨Au, nu, cu, rfl⟩ : ∃ A n c, u = .slice A n c := by
      obtain ⟨A, c, h, _⟩ := hu.row
      exact ⟨A, _, c, h⟩
    obtain ⟨us, hu1, hu2⟩ := HO.out
    rw [HRL.out] at hu1
    have HU1 := hidv (own_below hu1 hb2)
    have HU2 := hidv ((hu2.below hb2).snoc (r := pre) (own_wider (show w2.ownsRow w.heap.size 2 1 _ _ _ from hu) hbw))
    have HB2 := hidv hb2
    have hsz2 := hb2.size
    clear hu hu1 hu2 hb2
    go_wp2_with (at_builtin; refine wpList_append_lies _ rfl (.tmp 19) (.tmp 22) 30 rfl base 26 i0 (.slice none 0 0) 1 24 Try.underlying30 hi hz0 hz1 hz2 rfl (by decide) _ _ _ rfl (World.ownsRow.alloc HU1.out _) ⟨w2.heap.size, 0, none⟩ 1 1 [.slice Au nu cu] rfl rfl (one_newD w2 _ _) (one_cellD _ _ _) (by decide) ?_ ?_ ?_ (w2.heap.size + 1) (by simp) ?_; (unfold maxLen; omega); omega; (simp; omega); intro g3 cap3 w3 hown3 hgr3 hor3 hlt3)
    go_wp2_with fail
    go_ret
    refine ⟨_, rfl, ?_, ?_⟩
    · rw [HD.out]
      refine ⟨_, ?_, (HU2.out.below (below_al (Below.refl _ _) _)).grown (World.ownsRow.alloc HU1.out _) hgr3⟩
      rw [List.length_append, HRL.out]
      exact hown3
    · refine ⟨grown_trans (grown_below (below_al HB2.out _)) hgr3, fun k hk => ?_⟩
      have hk2 : g3 = k := by simpa [Value.ownBlock] using hk
      subst hk2
      rcases hor3 with h | h
      · exact .inl h
      · right; omega
  obtain ⟨A, c, rfl, hA⟩ := strRow_at HRW.out
  obtain ⟨m, hm⟩ : ∃ m, xs.length = m := ⟨_, rfl⟩
  have hm1000 : m ≤ 1000 := by rw [← hm]; exact HX.out.1
  have HA := hidv hA
  have hend := dcP_all HX.out pre (s := s) (by omega)
  have HIH2 := hidv (HIH.out)
  rw [hm] at hend HRW HIH2 ⊢
  have HEN := hidv hend
  have HM := hidv hm
  have HCN := hidv (fun (t : ByteArray) (W : World) (h : Below base w W) (ht : t.size ≤ 60) => l07Count_any (.slice A m c) xs t B W (HRW.out.below (h.mono hBb)) (Nat.le_trans hBb (Nat.le_trans hbw h.size)) HX.out ht)
  have h0 := HO.out
  have hq0 : rs = (rs ++ dcP xs pre s 0).take most := by rw [dcP_zero, List.append_nil, List.take_of_length_le (by have := HRL.out; omega)]
  have HQ0 := hidv hq0
  have hse : s.toList.isEmpty = false := toList_nonempty (x := s) (by omega)
  clear hA hend hm hq0 HIH
  go_enter Try.func79, Try.ntmps79
  go_wp2_with fail
  go_loopw [3, 11] (fun q i wr => ∃ (k l : Nat) (Q : List (List Int)) (A1 : Option Addr) (c1 : Nat), k ≤ m ∧ i = .int .i64 (k : Int) ∧ q = .slice A1 l c1 ∧ Hid (l = Q.length) ∧ Hid (Q = (rs ++ dcP xs pre s k).take most) ∧ Hid (IG wr base (.slice A1 l c1) Q) ∧ Hid (GrD w wr (.slice Ao R co) (.slice A1 l c1))) (fun _ i _ => m - (intOf i).toNat)
  case atStart => exact ⟨0, R, rs, Ao, co, Nat.zero_le _, rfl, rfl, hidv HRL.out.symm, HQ0, hidv h0, hidv (GrD.refl _ _)⟩
  case round =>
    obtain ⟨k, l, Q, A1, c1, hk, rfl, rfl, hl, hQ, hio, hgd⟩ := hrel
    have hbe := hgd.out.below HO.out hbw
    have HBE := hidv hbe
    have hbr : base ≤ wr.heap.size := Nat.le_trans hbw hbe.size
    clear hbe
    by_cases hlt : k < m
    · have hkx : k < xs.length := by have := HM.out; omega
      obtain ⟨g, o, rfl, hg, hce⟩ := HA.out (by have := HM.out; omega)
      have d1 := hce k hkx
      have hx60 := HX.out.2.1 xs[k] (List.getElem_mem _)
      have hx1 : 1 ≤ xs[k].size := by
        have h1 := HX.out.2.2.1 xs[k].data.toList (by unfold Wl; exact List.mem_map_of_mem (List.getElem_mem _))
        simpa using h1
      have hsu := dcP_succ xs pre s k hkx
      obtain ⟨x, hx⟩ : ∃ x, xs[k] = x := ⟨_, rfl⟩
      rw [hx] at d1 hx60 hx1 hsu
      have c1x := (HBE.out.cell (p := ⟨g, o + k, none⟩) (by show g < _; omega)).trans d1
      have hC := fun W => begins_any s x W (by unfold maxLen; omega) (by unfold maxLen; omega)
      obtain ⟨q, hq⟩ : ∃ q, Lib.hasPrefix s.data.toList x.data.toList = q := ⟨_, rfl⟩
      rw [hq] at hC hsu
      have HC := hidv hC
      have i1 : (0 : Int) ≤ (k : Int) := by omega
      have i2 : (k : Int) < (m : Int) := by omega
      cases q
      · have HSU := hidv (show Q = (rs ++ dcP xs pre s (k + 1)).take most from by rw [hsu]; simpa using hQ.out)
        clear hce hC hsu hq hx d1
        go_wp2_with fail
        refine (HC.out _).mono ?_
        rintro e w2 ⟨rfl, rfl⟩
        go_wp2_with fail
        go_roundw
        case rel => exact ⟨k + 1, l, Q, A1, c1, by omega, by go_num, rfl, hl, HSU, hio, hgd⟩
        case measure => simp [intOf]; omega
      · have hpl : x.size ≤ s.size := by
          rcases Nat.lt_or_ge s.size x.size with h2 | h2
          · rw [begins_no s x h2] at hq; cases hq
          · exact h2
        rw [if_pos rfl] at hsu
        obtain ⟨t, ht⟩ : ∃ t, s.extract x.size s.size = t := ⟨_, rfl⟩
        have htz : t.size + x.size = s.size := by rw [← ht, ByteArray.size_extract]; omega
        rw [ht] at hsu
        have hcn := HCN.out t wr HBE.out (by omega)
        obtain ⟨T, hT⟩ : ∃ T, fcB xs t = T := ⟨_, rfl⟩
        rw [hT] at hcn
        have HTE := hidv ht
        rw [← ht] at hcn
        have HCT := hidv hcn
        clear ht
        have HTT := hidv hT
        have HSU := hidv hsu
        have i3 : (x.size : Int) ≤ (s.size : Int) := by omega
        have hT60 : T ≤ 1152921504606846976 := by rw [← hT]; exact fcB_bound HX.out (by omega)
        clear hce hC hsu hq hx hcn hT
        go_wp2_with fail
        refine (HC.out _).mono ?_
        rintro e w2 ⟨rfl, rfl⟩
        go_wp2_with fail
        refine HCT.out.mono ?_
        rintro e w2 ⟨rfl, hb2⟩
        have hio2 := hio.out.below hb2
        have HG2 := hidv (hgd.out.trans (GrD.before hb2 (GrD.refl w2 _)))
        have hbe2 : Below base w w2 := HBE.out.trans (hb2.mono hbr)
        have HBE2 := hidv hbe2
        have hbr2 : base ≤ w2.heap.size := Nat.le_trans hbr hb2.size
        have HIO2 := hidv hio2
        clear hio2 hb2 hbe2 hgd hio HBE c1x hbr HCT
        obtain ⟨wr, hwr⟩ : ∃ W, w2 = W := ⟨_, rfl⟩
        rw [hwr] at HG2 HBE2 HIO2 hbr2 ⊢
        clear hwr
        rcases Nat.eq_zero_or_pos T with hT0 | hT0
        · subst hT0
          have HSV := hidv (show Q = (rs ++ dcP xs pre s (k + 1)).take most from by rw [HSU.out, dcB_none xs _ t HTT.out, List.append_nil]; exact hQ.out)
          go_wp2_with fail
          go_roundw
          case rel => exact ⟨k + 1, l, Q, A1, c1, by omega, by go_num, rfl, hl, HSV, HIO2, HG2⟩
          case measure => simp [intOf]; omega
        · have hbr := hbr2
          have HPR := hidv (fun W (h : Below wr.heap.size wr W) => (show Row W wr.heap.size (.slice Ab np cb) (pre.map (Value.int .i64)) from (Row.of_own (own_kindsD (HO.out.choose_spec.1) HP.out (by decide) (HG2.out.1))).below h))
          have HS := hidv (fun W (h : Below wr.heap.size wr W) => (show W.cell? ⟨g, o + k, none⟩ = some (.string x) from ((h.mono hbr).cell (p := ⟨g, o + k, none⟩) (by show g < _; omega)).trans ((HBE2.out.cell (p := ⟨g, o + k, none⟩) (by show g < _; omega)).trans d1)))
          have HIX := hidv (fun (W : World) (g4 cap4 : Nat) (h : Below wr.heap.size wr W) (h4 : W.ownsRow base 2 1 (.slice (some ⟨g4, 0, none⟩) (pre.length + 1) cap4) (pre ++ [(k : Int)]).length ((pre ++ [(k : Int)]).map (Value.int .i64))) => (show Calls Try.prog 79 #[.slice (some ⟨g, o, none⟩) m c, .string (s.extract x.size s.size), .slice (some ⟨g4, 0, none⟩) (pre.length + 1) cap4, .slice A1 l c1, .int .i64 (most : Int)] W fun e w5 => ∃ u, e = .returned u ∧ IG w5 base u ((Q ++ dcB xs (pre ++ [(k : Int)]) t).take most) ∧ GrD W w5 (.slice A1 l c1) u ∧ w5.cell? ⟨g, o + k, none⟩ = some (.string x) from by
            rw [HTE.out]
            refine (HIH2.out t _ (pre ++ [(k : Int)]) (.slice A1 l c1) Q W (by omega) ((HRW.out.below (HBE2.out.mono hBb)).below (h.mono (Nat.le_trans hBb hbr))) (Nat.le_trans hbr h.size) h4 (by simp; omega) (HIO2.out.below h) (by rw [hQ.out, List.length_take]; omega)).mono ?_
            rintro e w5 ⟨u, h1, h2, h3⟩
            exact ⟨u, h1, h2, h3, ((h3.below (HIO2.out.below h) (Nat.le_trans hbr h.size)).cell (p := ⟨g, o + k, none⟩) (by show g < _; omega)).trans (HS.out _ h)⟩))
          clear d1
          go_wp2_with fail
          go_region_held3 (fun w' => w'.cell? ⟨g, o + k, none⟩ = some (.string x)) (first | assumption | exact HS.out _ (below_dr _) | exact HS.out _ (by assumption) | exact HS.out _ (below_al (by assumption) _) | exact HS.out _ (below_al (below_dr _) _)) (first | (go_at_call 109; refine (own_any _ pre wr.heap.size _ (HPR.out _ (by first | assumption | exact below_dr _ | exact below_al (below_dr _) _)) (Below.size (show Below wr.heap.size wr _ from by first | assumption | exact below_dr _ | exact below_al (below_dr _) _)) (by omega)).mono ?_; rintro e w3 ⟨v3, rfl, hown3, hbw⟩; have hbw0 := hbw; replace hbw := below_on (show Below wr.heap.size wr _ from by first | assumption | exact below_dr _ | exact below_al (below_dr _) _) hbw) | (refine step_append_lies (o := ⟨some 60, _, _, _, _, _⟩) _ (by rfl) (.tmp 57) (.tmp 59) 26 (by rfl) base 2 j0 (.int .i64 0) 1 8 Try.underlying26 hj hy0 hy1 hy2 rfl (by decide) v3 _ _ (by rfl) (own_wider (own_below hown3 ((Below.refl _ _).alloc (Nat.le_refl _) _)) (by first | exact Nat.le_trans hbr (Below.size (by assumption)) | exact hbr | (simp; omega))) ⟨w3.heap.size, 0, none⟩ 1 1 [.int .i64 (k : Int)] (by rfl) rfl (one_newD w3 _ _) (one_intD _) (by decide) (by unfold maxLen; omega) (by omega) (by have h2 : wr.heap.size ≤ w3.heap.size := Below.size hbw; simp; omega) (w3.heap.size + 1) (by simp) ?_; intro g4 cap4 w4 hown4 hgr4 hat4 hlt4; replace hbw := (show Below wr.heap.size wr _ from by first | exact below_al hbw _ | exact hbw).grown hgr4 (by have h2 : wr.heap.size ≤ w3.heap.size := Below.size hbw; first | exact h2 | (simp; omega)) (fun k hk => by have h := (World.ownsRow.lt hown3 k hk).1; first | exact h | (simp at h; omega))) | (refine step_append_lies (o := ⟨some 60, _, _, _, _, _⟩) _ (by rfl) (.tmp 57) (.tmp 59) 26 (by rfl) base 2 j0 (.int .i64 0) 1 8 Try.underlying26 hj hy0 hy1 hy2 rfl (by decide) v3 _ _ (by rfl) (own_wider (hown3) (by first | exact Nat.le_trans hbr (Below.size (by assumption)) | exact hbr | (simp; omega))) ⟨wr.heap.size, 0, none⟩ 1 1 [.int .i64 (k : Int)] (by rfl) rfl (news_keptD (one_newD wr.drew _ _) hbw0 (by simp)) (one_intD _) (by decide) (by unfold maxLen; omega) (by omega) (by have h2 : wr.heap.size ≤ w3.heap.size := Below.size hbw; omega) (w3.heap.size) (rfl) ?_; intro g4 cap4 w4 hown4 hgr4 hat4 hlt4; replace hbw := (show Below wr.heap.size wr _ from by first | exact below_al hbw _ | exact hbw).grown hgr4 (by have h2 : wr.heap.size ≤ w3.heap.size := Below.size hbw; first | exact h2 | (simp; omega)) (fun k hk => by have h := (World.ownsRow.lt hown3 k hk).1; first | exact h | (simp at h; omega))) | (go_at_call 79; refine (HIX.out _ _ _ hbw (own_snocD hown4)).mono ?_; rintro e w5 ⟨u5, rfl, hu5, hg5, hc5⟩))
          all_goals
            obtain ⟨Q5, hQ5⟩ : ∃ Z, (Q ++ dcB xs (pre ++ [(k : Int)]) t).take most = Z := ⟨_, rfl⟩
            rw [hQ5] at hu5
            obtain ⟨A5, c5, rfl⟩ := hu5.form
            obtain ⟨l5, hl5⟩ : ∃ z, Q5.length = z := ⟨_, rfl⟩
            rw [hl5] at hu5 hg5 ⊢
            have HSW := hidv (show Q5 = (rs ++ dcP xs pre s (k + 1)).take most from by rw [← hQ5, HSU.out, hQ.out, Wd.take_app])
            have HU5 := hidv hu5
            have HG5 := hidv (HG2.out.trans (GrD.before hbw hg5))
            have HL5 := hidv hl5.symm
            clear hQ5 hu5 hg5 hl5 hbw hown4 hown3 hbw0 hc5
            go_wp2_with fail
            go_roundw
            case rel => exact ⟨k + 1, l5, Q5, A5, c5, by omega, by go_num, rfl, HL5, HSW, HU5, HG5⟩
            case measure => simp [intOf]; omega
    · obtain rfl : k = m := by omega
      go_wp2_with fail
      go_ret
      exact ⟨_, rfl, by rw [← HEN.out, ← hQ.out]; exact hio.out, hgd.out⟩

theorem decode_any (vx : Value) (xs : List ByteArray) (B most : Nat) (hx : WsOk xs) (hmost : most ≤ 1000000) (base : Nat) (hBb : B ≤ base) : ∀ (n : Nat) (s : ByteArray) (vb : Value) (pre : List Int) (vo : Value) (rs : List (List Int)) (w : World), s.size < n → Row w B vx (xs.map Value.string) → base ≤ w.heap.size → w.ownsRow base 2 1 vb pre.length (pre.map (Value.int .i64)) → pre.length + s.size ≤ 60 → IG w base vo rs → rs.length ≤ most →
      Calls Try.prog 79 #[vx, .string s, vb, vo, .int .i64 (most : Int)] w fun e w' => ∃ u, e = .returned u ∧ IG w' base u ((rs ++ dcB xs pre s).take most) ∧ GrD w w' vo u
  | 0, s, vb, pre, vo, rs, w, hn, _, _, _, _, _, _ => absurd hn (Nat.not_lt_zero _)
  | n + 1, s, vb, pre, vo, rs, w, hn, hr, hbw, hp, hps, ho, hrs =>
    decode_step vx xs B most hx hmost base hBb s.size (fun s' vb' pre' vo' rs' w' hs' => decode_any vx xs B most hx hmost base hBb n s' vb' pre' vo' rs' w' (by omega)) s vb pre vo rs w rfl hr hbw hp hps ho hrs

end Go.Proofs.Ytpjidcfdcpjafaa
