/-
  ComposeImages, of the program and of the model: contracts.
-/
import Derived.Test.YtpjflakialomaaaAp7
import Derived.Test.YtpjflakialomaaaStrA
import Derived.Test.YtpjflakialomaaaRow2
namespace Go.Proofs.Ytpjflakialomaaa
open Go.RowKit Go
set_option linter.unusedVariables false

theorem one_newS (w : World) (x : Value) (t : TypeId) : ∀ (j : Nat) (u : Value), [x][j]? = some u → (w.alloc (.cells #[x] t)).cell? ((⟨w.heap.size, 0, none⟩ : Addr).add j) = some u := by
  intro j u hu
  match j, hu with
  | 0, hu =>
    obtain rfl : x = u := by simpa using hu
    exact (Bx.new w t #[x]).cell 0
theorem one_cell7 (x : ByteArray) : ∀ u : Value, u ∈ [Value.string x] → u.oneCell' = true := by
  intro u hu
  simp only [List.mem_cons, List.not_mem_nil, or_false] at hu
  subst hu; rfl
theorem grow7 {base : Nat} {w w1 w2 : World} {e size n : Nat} {v : Value} {xs : List Value} {o : Obj} (hb : Below base w w1) (hbase : base ≤ w.heap.size) (h : w1.ownsRow base e size v n xs) (hg : (w1.alloc o).grownBy w2 v.ownBlock) : Below base w w2 :=
  (hb.alloc (Nat.le_trans hbase hb.size) o).grown hg (by have := hb.size; simp; omega) (fun k hk => (World.ownsRow.lt h k hk).1)

theorem strs_of {w : World} {base n : Nat} {v : Value} {xs : List ByteArray} (h : w.ownsRow base 9 1 v n (xs.map Value.string)) (hn : xs.length = n) : Strs w base v xs := by subst hn; exact h
/-- The images by g of all words of a list. -/
def imgM (f g : List ByteArray) : List ByteArray := f.map fun x => imgV x g
theorem imgM_succ (f g : List ByteArray) (k : Nat) (h : k < f.length) : imgM (f.take (k + 1)) g = imgM (f.take k) g ++ [imgV f[k] g] := by
  rw [List.take_succ_eq_append_getElem h]
  unfold imgM
  rw [List.map_append]
  rfl
theorem imgL_letters {xs : List ByteArray} (h : ImgOk xs) : ∀ l : List UInt8, (∀ c ∈ l, Wd.isL c = true) → ∀ c ∈ imgL l xs, Wd.isL c = true := by
  intro l hl c hc
  unfold imgL at hc
  obtain ⟨d, hd, hcd⟩ := List.mem_flatMap.1 hc
  obtain ⟨j, hj, hdj, _⟩ := let_at (hl d hd)
  obtain ⟨hj', _⟩ := img_size h j hj
  rw [imgS_at hdj hj'] at hcd
  have := h.2 j hj'
  unfold imB at this
  rw [Bool.and_eq_true] at this
  exact (word_all this.1).2 c hcd
theorem imB_img {x : ByteArray} {g : List ByteArray} (hx : Wd.wordB x.data.toList = true) (hg : ImgOk g) : imB (imgV x g) = decide ((imgV x g).size ≤ 8) := by
  have h1 := imgL_letters hg x.data.toList (word_all hx).2
  have e : (imgL x.data.toList g).length = (imgV x g).size := by rw [← imgV_data]; simp
  unfold imB Wd.wordB
  rw [imgV_data, e]
  have h2 : (imgL x.data.toList g).all Wd.isL = true := List.all_eq_true.2 h1
  rw [h2, Bool.and_true]
  by_cases h8 : (imgV x g).size ≤ 8
  · rw [decide_eq_true h8, decide_eq_true (show (imgV x g).size ≤ 60 by omega)]; rfl
  · rw [decide_eq_false h8, Bool.and_false]
theorem word_of_im {f : List ByteArray} (h : ImgOk f) (k : Nat) (hk : k < f.length) : Wd.wordB f[k].data.toList = true := by
  have := h.2 k hk
  unfold imB at this
  rw [Bool.and_eq_true] at this
  exact this.1
/-- All images of the words of f are short. -/
def CoS (f g : List ByteArray) : Prop := ∀ i (h : i < f.length), (imgV f[i] g).size ≤ 8
theorem img_iff {f g : List ByteArray} (hf : ImgOk f) (hg : ImgOk g) : ImgOk (imgM f g) ↔ CoS f g := by
  unfold ImgOk CoS
  constructor
  · rintro ⟨_, h⟩ i hi
    have h1 := h i (by unfold imgM; rw [List.length_map]; exact hi)
    unfold imgM at h1
    rw [List.getElem_map, imB_img (word_of_im hf i hi) hg] at h1
    exact of_decide_eq_true h1
  · intro h
    refine ⟨by unfold imgM; rw [List.length_map]; exact hf.1, fun i hi => ?_⟩
    unfold imgM at hi ⊢
    rw [List.length_map] at hi
    rw [List.getElem_map, imB_img (word_of_im hf i hi) hg]
    exact decide_eq_true (h i hi)
/-- What ComposeImages answers. -/
def CoR (f g L : List ByteArray) (c : Int) : Prop :=
  (ImgOk f ∧ ImgOk g → (CoS f g → L = imgM f g ∧ c = 0) ∧ (¬ CoS f g → L = [] ∧ c = 3)) ∧ (¬ (ImgOk f ∧ ImgOk g) → L = [] ∧ c = 1)
theorem coR_ex (f g : List ByteArray) : ∃ L c, CoR f g L c ∧ L.length ≤ 4 := by
  unfold CoR
  by_cases h : ImgOk f ∧ ImgOk g
  · by_cases h2 : CoS f g
    · exact ⟨_, 0, ⟨fun _ => ⟨fun _ => ⟨rfl, rfl⟩, fun hn => absurd h2 hn⟩, fun hn => absurd h hn⟩, by unfold imgM; rw [List.length_map]; have := h.1.1; omega⟩
    · exact ⟨[], 3, ⟨fun _ => ⟨fun hy => absurd hy h2, fun _ => ⟨rfl, rfl⟩⟩, fun hn => absurd h hn⟩, by simp⟩
  · exact ⟨[], 1, ⟨fun hy => absurd hy h, fun _ => ⟨rfl, rfl⟩⟩, by simp⟩

set_option maxRecDepth 100000 in
set_option maxHeartbeats 1600000 in
theorem implCo_any (vf vg : Value) (f g : List ByteArray) (B C : Nat) (w : World) (hf : Row w B vf (f.map Value.string)) (hB : B ≤ w.heap.size) (hg : Row w C vg (g.map Value.string)) (hC : C ≤ w.heap.size) (hfl : f.length ≤ 1048576) (hgl : g.length ≤ 1048576) (hfz : ∀ s ∈ f, s.size ≤ maxLen) (hgz : ∀ s ∈ g, s.size ≤ maxLen) (L : List ByteArray) (c : Int) (hd : CoR f g L c) :
    Calls Try.prog 35 #[vf, vg] w fun e w' => ∃ u, e = .returned (.tuple #[u, .int .i64 c]) ∧ Strs w' w.heap.size u L ∧ Below w.heap.size w w' := by
  obtain ⟨i0, hi, hz0, hz1, hz2⟩ := info_parts Try.infoS
  obtain ⟨q, hq⟩ := iffB (ImgOk f)
  obtain ⟨q2, hq2⟩ := iffB (ImgOk g)
  have CF := hidv (fun W (h : Below w.heap.size w W) => implImg_any vf f B W (hf.below (h.mono hB)) (Nat.le_trans hB h.size) hfl hfz q hq)
  have CG := hidv (fun W (h : Below w.heap.size w W) => implImg_any vg g C W (hg.below (h.mono hC)) (Nat.le_trans hC h.size) hgl hgz q2 hq2)
  have HD := hidv hd
  obtain ⟨A, cf, rfl, hA⟩ := strRow_at hf
  have hvg : ∃ A n c, vg = .slice A n c := by obtain ⟨A, c, hh, _⟩ := hg; exact ⟨A, _, c, hh⟩
  obtain ⟨Ag, ng, cg, hvg⟩ := hvg
  obtain ⟨n, hn⟩ : ∃ n, f.length = n := ⟨_, rfl⟩
  rw [hn] at CF hfl ⊢
  have HN := hidv hn
  have HA := hidv hA
  have HQ := hidv hq
  have HQ2 := hidv hq2
  have HG := hidv hg
  clear hd hq hq2 hf hfz hgz hn hA hg
  subst hvg
  cases q
  · obtain ⟨rfl, rfl⟩ := HD.out.2 (fun h => absurd (HQ.out.mpr h.1) (by decide))
    go_enter Try.func35, Try.ntmps35
    go_wp2_with fail
    refine (CF.out _ (Below.refl _ _)).mono ?_
    rintro e w1 ⟨rfl, hb1⟩
    have HB1 := hidv hb1
    clear hb1
    go_wp2_with fail
    go_ret2
    exact ⟨_, rfl, World.ownsRow_nil _ _ _ _, HB1.out⟩
  cases q2
  · obtain ⟨rfl, rfl⟩ := HD.out.2 (fun h => absurd (HQ2.out.mpr h.2) (by decide))
    go_enter Try.func35, Try.ntmps35
    go_wp2_with fail
    refine (CF.out _ (Below.refl _ _)).mono ?_
    rintro e w1 ⟨rfl, hb1⟩
    have HB1 := hidv hb1
    clear hb1
    go_wp2_with fail
    refine (CG.out _ HB1.out).mono ?_
    rintro e w2 ⟨rfl, hb2⟩
    have HB2 := hidv (below_on HB1.out hb2)
    clear hb2
    go_wp2_with fail
    go_ret2
    exact ⟨_, rfl, World.ownsRow_nil _ _ _ _, HB2.out⟩
  have hokf := HQ.out.mp rfl
  have hokg := HQ2.out.mp rfl
  have HR := hidv (HD.out.1 ⟨hokf, hokg⟩)
  have HIF := hidv (img_iff hokf hokg)
  have h4 : n = 4 := by have := HN.out; have := hokf.1; omega
  subst h4
  have CI := hidv (fun x b W (h : Below w.heap.size w W) (hx : Wd.wordB x.data.toList = true) (hc : W.cell? ⟨b, 0, none⟩ = some (.slice Ag ng cg)) => closI_any x b (.slice Ag ng cg) g C W hx hc (HG.out.below (h.mono hC)) (Nat.le_trans hC h.size) hokg)
  have HSZ := hidv (fun x (hx : Wd.wordB x.data.toList = true) => imgV_size (s := x) hx hokg)
  have HWD := hidv (word_of_im hokf)
  clear hokf hokg HQ HQ2 HD
  go_enter Try.func35, Try.ntmps35
  go_wp2_with fail
  refine (CF.out _ (Below.refl _ _)).mono ?_
  rintro e w1 ⟨rfl, hb1⟩
  have HB1 := hidv hb1
  clear hb1
  go_wp2_with fail
  refine (CG.out _ HB1.out).mono ?_
  rintro e w2 ⟨rfl, hb2⟩
  have HB2 := hidv (below_on HB1.out hb2)
  clear hb2
  go_wp2_with fail
  refine (imageBy_any _ _ ⟨_, _, _, rfl⟩).mono ?_
  rintro e w3 ⟨rfl, hb3, hbx⟩
  have HB3 := hidv (below_on HB2.out hb3)
  have HBX := hidv hbx
  have hlx := hbx.lt
  have hz2s := HB2.out.size
  have hz3 := hb3.size
  clear hb3 hbx
  go_wp2_with fail
  go_loopw [7, 22] (fun v i wr => ∃ j : Nat, j ≤ 4 ∧ i = .int .i64 j ∧ Hid (World.ownsRow wr w3.heap.size 9 1 v j ((imgM (f.take j) g).map Value.string)) ∧ Hid (Below w3.heap.size w3 wr)) (fun _ i _ => 4 - (intOf i).toNat)
  case atStart => exact ⟨0, by omega, rfl, hidv (World.ownsRow_nil _ _ _ _), hidv (Below.refl _ _)⟩
  case round =>
    obtain ⟨j, hj, rfl, hown, hbe⟩ := hrel
    have hbw := HB3.out.trans (hbe.out.mono (by omega))
    have HBW := hidv hbw
    clear hbw
    by_cases hlt4 : j < 4
    · have hjx : j < f.length := by have := HN.out; omega
      obtain ⟨gf, o, rfl, hg, hce⟩ := HA.out (by have := HN.out; omega)
      have c1 := (HBW.out.cell (p := ⟨gf, o + j, none⟩) (by show gf < w.heap.size; omega)).trans (hce j hjx)
      have hsu := imgM_succ f g j hjx
      have hwd := HWD.out j hjx
      have hcb := (HBX.out.belowB hbe.out hlx).cell 0
      have HC := hidv (CI.out f[j] w2.heap.size wr HBW.out hwd hcb)
      have hz60 := HSZ.out f[j] hwd
      obtain ⟨x, hx1⟩ : ∃ x, f[j] = x := ⟨_, rfl⟩
      rw [hx1] at c1 hsu HC hz60
      obtain ⟨t, ht⟩ : ∃ t, imgV x g = t := ⟨_, rfl⟩
      rw [ht] at hsu HC hz60
      have HSU := hidv hsu
      clear hce hsu ht hwd hcb hx1
      go_wp2_with fail
      refine HC.out.mono ?_
      rintro e w4 ⟨rfl, hb4⟩
      have HB4 := hidv (below_on hbe.out hb4)
      have HO4 := hidv (own_below hown.out hb4)
      have hsz := HB4.out.size
      clear hb4
      go_wp2_with (at_builtin; refine wpList_append_own _ rfl (.tmp 26) (.tmp 30) 25 rfl w3.heap.size 9 i0 (.string ⟨#[]⟩) 1 16 Try.underlying25 hi hz0 hz1 hz2 rfl (by decide) _ _ _ rfl (HO4.out.alloc _) ⟨w4.heap.size, 0, none⟩ 1 1 [.string t] rfl rfl (one_newS w4 _ _) (one_cell7 _) ?_ ?_ ?_ ?_; (unfold maxLen; omega); omega; (simp; omega); intro v1 w5 hown1 hgr1 _)
      go_roundw
      case rel =>
        refine ⟨j + 1, by omega, by go_num, hidv ?_, hidv (grow7 HB4.out (Nat.le_refl _) HO4.out hgr1)⟩
        rw [HSU.out, List.map_append]
        exact hown1
      case measure => simp [intOf]; omega
    · obtain rfl : j = 4 := by omega
      have he : f.take 4 = f := List.take_of_length_le (by have := HN.out; omega)
      rw [he] at hown
      have hlm : (imgM f g).length = 4 := by unfold imgM; rw [List.length_map, HN.out]
      have hstr := strs_of hown.out hlm
      have hrow := hstr.row
      obtain ⟨q, hq⟩ := iffB (CoS f g)
      have hmz : ∀ s ∈ imgM f g, s.size ≤ maxLen := fun s hs => by
        unfold imgM at hs
        obtain ⟨x, hx, rfl⟩ := List.mem_map.1 hs
        obtain ⟨k, hk, rfl⟩ := List.getElem_of_mem hx
        have := HSZ.out f[k] (HWD.out k hk)
        unfold maxLen; omega
      have CV := hidv (implImg_any _ (imgM f g) wr.heap.size wr hrow (Nat.le_refl _) (by omega) hmz q (hq.trans HIF.out.symm))
      have HSTR := hidv hstr
      have HQQ := hidv hq
      clear hstr hrow hmz hq hlm he
      go_wp2_with fail
      refine CV.out.mono ?_
      rintro e w4 ⟨rfl, hb4⟩
      have HB4 := hidv (below_on HBW.out hb4)
      have HS4 := hidv (HSTR.out.below hb4)
      clear hb4
      cases q
      · obtain ⟨rfl, rfl⟩ := HR.out.2 (fun h => absurd (HQQ.out.mpr h) (by decide))
        go_wp2_with fail
        go_ret2
        exact ⟨_, rfl, World.ownsRow_nil _ _ _ _, HB4.out⟩
      · obtain ⟨rfl, rfl⟩ := HR.out.1 (HQQ.out.mp rfl)
        go_wp2_with fail
        go_ret2
        exact ⟨_, rfl, own_wider HS4.out (by omega), HB4.out⟩

set_option maxRecDepth 100000 in
set_option maxHeartbeats 1600000 in
theorem specCo_any (vf vg : Value) (f g : List ByteArray) (B C : Nat) (w : World) (hf : Row w B vf (f.map Value.string)) (hB : B ≤ w.heap.size) (hg : Row w C vg (g.map Value.string)) (hC : C ≤ w.heap.size) (hfl : f.length ≤ 1048576) (hgl : g.length ≤ 1048576) (hfz : ∀ s ∈ f, s.size ≤ maxLen) (hgz : ∀ s ∈ g, s.size ≤ maxLen) (L : List ByteArray) (c : Int) (hd : CoR f g L c) :
    Calls Try.prog 34 #[vf, vg] w fun e w' => ∃ u, e = .returned (.tuple #[u, .int .i64 c]) ∧ Strs w' w.heap.size u L ∧ Below w.heap.size w w' := by
  obtain ⟨i0, hi, hz0, hz1, hz2⟩ := info_parts Try.infoS
  obtain ⟨q, hq⟩ := iffB (ImgOk f)
  obtain ⟨q2, hq2⟩ := iffB (ImgOk g)
  have CF := hidv (fun W (h : Below w.heap.size w W) => specImg_any vf f B W (hf.below (h.mono hB)) (Nat.le_trans hB h.size) hfl hfz q hq)
  have CG := hidv (fun W (h : Below w.heap.size w W) => specImg_any vg g C W (hg.below (h.mono hC)) (Nat.le_trans hC h.size) hgl hgz q2 hq2)
  have HD := hidv hd
  obtain ⟨A, cf, rfl, hA⟩ := strRow_at hf
  have hvg : ∃ A n c, vg = .slice A n c := by obtain ⟨A, c, hh, _⟩ := hg; exact ⟨A, _, c, hh⟩
  obtain ⟨Ag, ng, cg, hvg⟩ := hvg
  obtain ⟨n, hn⟩ : ∃ n, f.length = n := ⟨_, rfl⟩
  rw [hn] at CF hfl ⊢
  have HN := hidv hn
  have HA := hidv hA
  have HQ := hidv hq
  have HQ2 := hidv hq2
  have HG := hidv hg
  clear hd hq hq2 hf hfz hgz hn hA hg
  subst hvg
  cases q
  · obtain ⟨rfl, rfl⟩ := HD.out.2 (fun h => absurd (HQ.out.mpr h.1) (by decide))
    go_enter Try.func34, Try.ntmps34
    go_wp2_with fail
    refine (CF.out _ (Below.refl _ _)).mono ?_
    rintro e w1 ⟨rfl, hb1⟩
    have HB1 := hidv hb1
    clear hb1
    have hl2 := World.ownsRow_lit (e := 9) (size := 1) (base := w.heap.size) _ #[] 0 HB1.out.size (Nat.zero_le _) rfl
    have HL2 := hidv hl2
    clear hl2
    go_wp2_with fail
    go_ret2
    exact ⟨_, rfl, HL2.out, below_al HB1.out _⟩
  cases q2
  · obtain ⟨rfl, rfl⟩ := HD.out.2 (fun h => absurd (HQ2.out.mpr h.2) (by decide))
    go_enter Try.func34, Try.ntmps34
    go_wp2_with fail
    refine (CF.out _ (Below.refl _ _)).mono ?_
    rintro e w1 ⟨rfl, hb1⟩
    have HB1 := hidv hb1
    clear hb1
    go_wp2_with fail
    refine (CG.out _ HB1.out).mono ?_
    rintro e w2 ⟨rfl, hb2⟩
    have HB2 := hidv (below_on HB1.out hb2)
    clear hb2
    have hl2 := World.ownsRow_lit (e := 9) (size := 1) (base := w.heap.size) _ #[] 0 HB2.out.size (Nat.zero_le _) rfl
    have HL2 := hidv hl2
    clear hl2
    go_wp2_with fail
    go_ret2
    exact ⟨_, rfl, HL2.out, below_al HB2.out _⟩
  have hokf := HQ.out.mp rfl
  have hokg := HQ2.out.mp rfl
  have HR := hidv (HD.out.1 ⟨hokf, hokg⟩)
  have HIF := hidv (img_iff hokf hokg)
  have h4 : n = 4 := by have := HN.out; have := hokf.1; omega
  subst h4
  have CI := hidv (fun x W (h : Below w.heap.size w W) (hx : Wd.wordB x.data.toList = true) => l07Image_any x (.slice Ag ng cg) g C W hx (HG.out.below (h.mono hC)) hokg)
  have HSZ := hidv (fun x (hx : Wd.wordB x.data.toList = true) => imgV_size (s := x) hx hokg)
  have HWD := hidv (word_of_im hokf)
  clear hokf hokg HQ HQ2 HD
  go_enter Try.func34, Try.ntmps34
  go_wp2_with fail
  refine (CF.out _ (Below.refl _ _)).mono ?_
  rintro e w1 ⟨rfl, hb1⟩
  have HB1 := hidv hb1
  clear hb1
  go_wp2_with fail
  refine (CG.out _ HB1.out).mono ?_
  rintro e w2 ⟨rfl, hb2⟩
  have HB2 := hidv (below_on HB1.out hb2)
  clear hb2
  have hlit := World.ownsRow_lit (e := 9) (size := 1) (base := w.heap.size) w2 #[] 0 HB2.out.size (Nat.zero_le _) rfl
  have hlb := below_al HB2.out (.cells #[] 9)
  have HLIT := hidv hlit
  clear hlit
  go_wp2_with fail
  obtain ⟨W0, hW0⟩ : ∃ W, w2.alloc (.cells #[] 9) = W := ⟨_, rfl⟩
  rw [hW0] at hlb HLIT ⊢
  clear hW0
  have HLB := hidv hlb
  clear hlb
  go_loopw [6, 7] (fun v i wr => ∃ j : Nat, j ≤ 4 ∧ i = .int .i64 j ∧ Hid (World.ownsRow wr w.heap.size 9 1 v j ((imgM (f.take j) g).map Value.string)) ∧ Hid (∀ q (hq : q < f.length), q < j → (imgV f[q] g).size ≤ 8) ∧ Hid (Below w.heap.size w wr)) (fun _ i _ => 4 - (intOf i).toNat)
  case atStart => exact ⟨0, by omega, rfl, HLIT, hidv (fun q hq h => by omega), HLB⟩
  case round =>
    obtain ⟨j, hj, rfl, hown, hsm, hbe⟩ := hrel
    by_cases hlt4 : j < 4
    · have hjx : j < f.length := by have := HN.out; omega
      obtain ⟨gf, o, rfl, hg, hce⟩ := HA.out (by have := HN.out; omega)
      have c1 := (hbe.out.cell (p := ⟨gf, o + j, none⟩) (by show gf < w.heap.size; omega)).trans (hce j hjx)
      have hsu := imgM_succ f g j hjx
      have hwd := HWD.out j hjx
      have HC := hidv (CI.out f[j] wr hbe.out hwd)
      have hz60 := HSZ.out f[j] hwd
      obtain ⟨x, hx1⟩ : ∃ x, f[j] = x := ⟨_, rfl⟩
      rw [hx1] at c1 hsu HC hz60
      obtain ⟨t, ht⟩ : ∃ t, imgV x g = t := ⟨_, rfl⟩
      rw [ht] at hsu HC hz60
      have HSU := hidv hsu
      have HXT := hidv (show imgV f[j] g = t by rw [hx1, ht])
      have hsz := hbe.out.size
      clear hce hsu ht hwd hx1
      go_wp2_with fail
      refine HC.out.mono ?_
      rintro e w4 ⟨rfl, rfl⟩
      by_cases h8 : 8 < t.size
      · obtain ⟨rfl, rfl⟩ := HR.out.2 (fun h => by have h1 := h j hjx; rw [HXT.out] at h1; omega)
        have hl2 := World.ownsRow_lit (e := 9) (size := 1) (base := w.heap.size) _ #[] 0 hbe.out.size (Nat.zero_le _) rfl
        have HL2 := hidv hl2
        clear hl2
        go_wp2_with fail
        go_ret2
        exact ⟨_, rfl, HL2.out, below_al hbe.out _⟩
      · have HSM := hidv (show ∀ q (hq : q < f.length), q < j + 1 → (imgV f[q] g).size ≤ 8 from fun q hq h => by
          rcases Nat.lt_or_ge q j with h2 | h2
          · exact hsm.out q hq h2
          · obtain rfl : q = j := by omega
            rw [HXT.out]; omega)
        go_wp2_with (at_builtin; refine wpList_append_own _ rfl (.tmp 33) (.tmp 35) 25 rfl w.heap.size 9 i0 (.string ⟨#[]⟩) 1 16 Try.underlying25 hi hz0 hz1 hz2 rfl (by decide) _ _ _ rfl (hown.out.alloc _) ⟨wr.heap.size, 0, none⟩ 1 1 [.string t] rfl rfl (one_newS wr _ _) (one_cell7 _) ?_ ?_ ?_ ?_; (unfold maxLen; omega); omega; (simp; omega); intro v1 w5 hown1 hgr1 _)
        go_roundw
        case rel =>
          refine ⟨j + 1, by omega, by go_num, hidv ?_, HSM, hidv (grow7 hbe.out (Nat.le_refl _) hown.out hgr1)⟩
          rw [HSU.out, List.map_append]
          exact hown1
        case measure => simp [intOf]; omega
    · obtain rfl : j = 4 := by omega
      have he : f.take 4 = f := List.take_of_length_le (by have := HN.out; omega)
      obtain ⟨rfl, rfl⟩ := HR.out.1 (fun q hq => hsm.out q hq (by have := HN.out; omega))
      rw [he] at hown
      have hlm : (imgM f g).length = 4 := by unfold imgM; rw [List.length_map, HN.out]
      have hstr := hidv (strs_of hown.out hlm)
      clear hlm he
      go_wp2_with fail
      go_ret2
      exact ⟨_, rfl, hstr.out, hbe.out⟩

end Go.Proofs.Ytpjflakialomaaa
