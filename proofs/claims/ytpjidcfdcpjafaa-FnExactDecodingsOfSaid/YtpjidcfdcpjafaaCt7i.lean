/-
  The number of decodings, as the program counts it (by the first word, with what has been counted kept in a map): a contract.
-/
import Derived.Test.YtpjidcfdcpjafaaCt7m
import Derived.Test.YtpjidcfdcpjafaaOv7
import Derived.Test.YtpjidcfdcpjafaaStr
import Derived.Test.YtpjidcfdcpjafaaIff
import Derived.Maps.OwnSet
import Derived.IntWalk
namespace Go.Proofs.Ytpjidcfdcpjafaa
open Go.RowKit Go Go.Maps Go.WideMaps
set_option linter.unusedVariables false

theorem keyS : Keyed Try.prog 9 := string_keyed Try.underlying9
theorem zeroI (w : World) : (zeroValue 2).run Try.prog w = .ok (.int .i64 0) w := by kernel_rfl
def Wl (xs : List ByteArray) : List (List UInt8) := xs.map fun x => x.data.toList
def sfx (s : ByteArray) (i : Nat) : ByteArray := s.extract i s.size
def kyS (s : ByteArray) : Lit := .string s.data.toList
theorem ky_key (s : ByteArray) : WideAt.IsKeyLit (kyS s) := trivial
def nI (n : Nat) : DataW Unit := .lit (.int .i64 (n : Int))
theorem sfx_data (s : ByteArray) (i : Nat) : (sfx s i).data.toList = s.data.toList.drop i := by
  unfold sfx
  rw [Lib.extract_data, List.take_of_length_le (by rw [List.length_drop]; simp)]
theorem sfx_size (s : ByteArray) (i : Nat) : (sfx s i).size = s.size - i := by
  have h := congrArg List.length (sfx_data s i)
  rw [List.length_drop] at h
  simpa using h
theorem ba_ext2 {a b : ByteArray} (h : a.data.toList = b.data.toList) : a = b := ByteArray.ext (Array.toList_inj.mp h)
theorem sfx_ext (s : ByteArray) (i a : Nat) : (sfx s i).extract a (sfx s i).size = sfx s (i + a) := by
  apply ba_ext2
  rw [Lib.extract_data, sfx_data, sfx_data, List.drop_drop, List.take_of_length_le (by rw [List.length_drop, sfx_size]; simp; omega)]
theorem sfx_zero (s : ByteArray) : sfx s 0 = s := by
  apply ba_ext2
  rw [sfx_data, List.drop_zero]
theorem ky_ne {s : ByteArray} {i j : Nat} (hi : i ≤ s.size) (hj : j ≤ s.size) (h : i ≠ j) : kyS (sfx s i) ≠ kyS (sfx s j) := by
  intro he
  unfold kyS at he
  injection he with h2
  have := congrArg List.length h2
  rw [sfx_data, sfx_data, List.length_drop, List.length_drop] at this
  have e : s.data.toList.length = s.size := by simp
  omega

/-- Words as a list of them is asked to be, so that decodings can be counted. -/
def WsOk (xs : List ByteArray) : Prop := xs.length ≤ 1000 ∧ (∀ x ∈ xs, x.size ≤ 60) ∧ Wd.NoE (Wl xs) ∧ Wd.Ord (Wl xs)
def fcB (xs : List ByteArray) (s : ByteArray) : Nat := Wd.fc (Wl xs) s.data.toList
theorem fcB_bound {xs : List ByteArray} (h : WsOk xs) {s : ByteArray} (hs : s.size ≤ 60) : fcB xs s ≤ 2 ^ 60 := by
  have h1 := Wd.fc_bound h.2.2.1 h.2.2.2 _ s.data.toList (Nat.le_refl _)
  have e : s.data.toList.length = s.size := by simp
  rw [e] at h1
  exact Nat.le_trans h1 (Nat.pow_le_pow_right (by omega) hs)
/-- What the first k words add. -/
def psum (xs : List ByteArray) (s : ByteArray) (k : Nat) : Nat := ((xs.take k).map fun x => if Lib.hasPrefix s.data.toList x.data.toList then fcB xs (s.extract x.size s.size) else 0).sum
theorem psum_succ (xs : List ByteArray) (s : ByteArray) (k : Nat) (h : k < xs.length) : psum xs s (k + 1) = psum xs s k + if Lib.hasPrefix s.data.toList xs[k].data.toList then fcB xs (s.extract xs[k].size s.size) else 0 := by
  unfold psum
  rw [List.take_succ_eq_append_getElem h, List.map_append, List.sum_append]
  simp only [List.map_cons, List.map_nil, List.sum_cons, List.sum_nil, Nat.add_zero]
theorem psum_le (xs : List ByteArray) (s : ByteArray) (k : Nat) : psum xs s k ≤ psum xs s xs.length := by
  unfold psum
  rw [List.take_length]
  have e : xs = xs.take k ++ xs.drop k := (List.take_append_drop k xs).symm
  have e2 : (xs.map fun x => if Lib.hasPrefix s.data.toList x.data.toList then fcB xs (s.extract x.size s.size) else 0).sum = ((xs.take k).map fun x => if Lib.hasPrefix s.data.toList x.data.toList then fcB xs (s.extract x.size s.size) else 0).sum + ((xs.drop k).map fun x => if Lib.hasPrefix s.data.toList x.data.toList then fcB xs (s.extract x.size s.size) else 0).sum := by
    rw [← List.sum_append, ← List.map_append, List.take_append_drop]
  omega
theorem psum_all {xs : List ByteArray} (h : WsOk xs) {s : ByteArray} (hs : 0 < s.size) : psum xs s xs.length = fcB xs s := by
  unfold psum
  have hne : s.data.toList ≠ [] := by
    intro hh
    have e : s.data.toList.length = s.size := by simp
    rw [hh, List.length_nil] at e
    omega
  have e : fcB xs s = ((Wl xs).map fun x => if x.isPrefixOf s.data.toList then Wd.fc (Wl xs) (s.data.toList.drop x.length) else 0).sum := Wd.fc_step h.2.2.1 hne
  rw [e, List.take_length]
  unfold Wl
  rw [List.map_map]
  refine Wd.sum_congr fun x hx => ?_
  show (if _ then _ else _) = (if _ then _ else _)
  unfold Lib.hasPrefix fcB Wl
  split
  · rw [Lib.extract_data, List.take_of_length_le (by rw [List.length_drop]; simp)]
    have e2 : x.data.toList.length = x.size := by simp
    rw [e2]
  · rfl

def missN (s : ByteArray) (D : DataW Unit) : Nat := ((List.range (s.size + 1)).filter fun i => !Maps.has D (kyS (sfx s i))).length
/-- What the map holds: right counts, that of the empty rest among them, and no more entries than there are rests. -/
def CInv (xs : List ByteArray) (s : ByteArray) (D : DataW Unit) : Prop :=
  (∀ i ≤ s.size, Maps.has D (kyS (sfx s i)) = true → D.atKey (kyS (sfx s i)) (nI 0) = nI (fcB xs (sfx s i))) ∧ Maps.has D (kyS (sfx s s.size)) = true ∧ Maps.size D + missN s D ≤ s.size + 1
theorem miss_put {s : ByteArray} {D : DataW Unit} (hm : IsMap D) (i : Nat) (hi : i ≤ s.size) (h : Maps.has D (kyS (sfx s i)) = false) (d : DataW Unit) : missN s (D.put (kyS (sfx s i)) d) + 1 ≤ missN s D := by
  unfold missN
  have e : ((List.range (s.size + 1)).filter fun j => !Maps.has (D.put (kyS (sfx s i)) d) (kyS (sfx s j))) = ((List.range (s.size + 1)).filter fun j => !Maps.has D (kyS (sfx s j))).erase i := by
    rw [List.Nodup.erase_eq_filter (List.nodup_range.filter _), List.filter_filter]
    refine List.filter_congr fun j hj => ?_
    have hj2 := List.mem_range.1 hj
    by_cases hij : j = i
    · subst hij
      rw [has_put_same hm (ky_key _)]
      simp
    · rw [has_put_other (ky_ne (by omega) hi hij)]
      have : (j != i) = true := by rw [bne_iff_ne]; exact hij
      rw [this, Bool.true_and]
  rw [e]
  have hmem : i ∈ (List.range (s.size + 1)).filter fun j => !Maps.has D (kyS (sfx s j)) := List.mem_filter.2 ⟨List.mem_range.2 (by omega), by rw [h]; rfl⟩
  have h1 := List.length_erase_of_mem hmem
  have h2 : 0 < ((List.range (s.size + 1)).filter fun j => !Maps.has D (kyS (sfx s j))).length := List.length_pos_of_mem hmem
  omega
theorem own_tight {w : World} {M n : Nat} {D : DataW Unit} (h : w.ownsMap Try.prog 9 (plainElem Try.prog 2) M n D) : w.ownsMap Try.prog 9 (plainElem Try.prog 2) M (Maps.size D) D := by
  obtain ⟨es, clock, hb, hf, hn, rfl⟩ := h
  refine ⟨es, clock, hb, hf, ?_, rfl⟩
  rw [size_eq, length_read]
  exact Nat.le_refl _
abbrev OwnC (w : World) (M : Nat) (D : DataW Unit) : Prop := w.ownsMap Try.prog 9 (plainElem Try.prog 2) M (Maps.size D) D
/-- What has become of the map and the world behind a count. -/
def CAft (w w' : World) (M : Nat) (xs : List ByteArray) (s : ByteArray) (i : Nat) (D : DataW Unit) : Prop :=
  ∃ D' : DataW Unit, w'.ownsMap Try.prog 9 (plainElem Try.prog 2) M (Maps.size D') D' ∧ CInv xs s D' ∧ (∀ j < i, Maps.has D' (kyS (sfx s j)) = Maps.has D (kyS (sfx s j))) ∧ w.grownBy w' (some M)
theorem grown_comp {a b c : World} {row : Option Nat} (h : a.grownBy b row) (k : b.grownBy c row) : a.grownBy c row := grown_trans h k
theorem below_gr {w w' : World} {B M : Nat} (h : w.grownBy w' (some M)) (hB : B ≤ w.heap.size) (hM : B ≤ M) : Below B w w' := below_grown h hB (fun k hk => by cases hk; exact hM)

set_option maxRecDepth 100000 in
set_option maxHeartbeats 3200000 in
theorem count_step (vx : Value) (xs : List ByteArray) (B M : Nat) (s : ByteArray) (hs : s.size ≤ 60) (hx : WsOk xs) (hBM : B ≤ M) (i : Nat) (hi : i ≤ s.size)
    (ih : ∀ (k : Nat) (w : World) (D : DataW Unit), i < k → k ≤ s.size → Row w B vx (xs.map Value.string) → w.ownsMap Try.prog 9 (plainElem Try.prog 2) M (Maps.size D) D → CInv xs s D →
      Calls Try.prog 58 #[.agg #[vx, .map (some M)], .string (sfx s k)] w fun e w' => e = .returned (.int .i64 (fcB xs (sfx s k) : Nat)) ∧ CAft w w' M xs s k D)
    (w : World) (D : DataW Unit) (hr : Row w B vx (xs.map Value.string)) (hown : w.ownsMap Try.prog 9 (plainElem Try.prog 2) M (Maps.size D) D) (hinv : CInv xs s D) :
    Calls Try.prog 58 #[.agg #[vx, .map (some M)], .string (sfx s i)] w fun e w' => e = .returned (.int .i64 (fcB xs (sfx s i) : Nat)) ∧ CAft w w' M xs s i D := by
  have hlt := hown.lt
  obtain ⟨A, c, rfl, hA⟩ := strRow_at hr
  obtain ⟨n, hn⟩ : ∃ n, xs.length = n := ⟨_, rfl⟩
  have hksz : (sfx s i).size ≤ maxLen := by rw [sfx_size]; unfold maxLen; omega
  have htsz : (sfx s i).size = s.size - i := sfx_size s i
  have hkey := keyOf_string_mk Try.underlying9 hksz
  have hex := fun a => sfx_ext s i a
  have hps := fun k h => psum_succ xs (sfx s i) k h
  have hpl := fun k => psum_le xs (sfx s i) k
  have hpa := fun h => psum_all hx (s := sfx s i) h
  have hbd := fcB_bound hx (s := sfx s i) (by omega)
  have hat0 := hinv.1 i hi
  have hput := fun (D' : DataW Unit) (hm : IsMap D') h d => miss_put hm i hi h (d := d)
  have HPO := hidv (fun (D' : DataW Unit) (d : DataW Unit) j (hj : j ≤ s.size) (hne : j ≠ i) => (show Maps.has (D'.put (kyS (sfx s i)) d) (kyS (sfx s j)) = Maps.has D' (kyS (sfx s j)) ∧ (D'.put (kyS (sfx s i)) d).atKey (kyS (sfx s j)) (nI 0) = D'.atKey (kyS (sfx s j)) (nI 0) from ⟨has_put_other (ky_ne hj hi hne) _, atKey_put_other (ky_ne hj hi hne) _ _⟩))
  have HPS := hidv (fun (D' : DataW Unit) (hm : IsMap D') (d : DataW Unit) => (show Maps.has (D'.put (kyS (sfx s i)) d) (kyS (sfx s i)) = true ∧ (D'.put (kyS (sfx s i)) d).atKey (kyS (sfx s i)) (nI 0) = d from ⟨has_put_same hm (ky_key _) _, atKey_put_same hm (ky_key _) _ _⟩))
  have hsl : i = s.size → Maps.has D (kyS (sfx s i)) = true := fun h => by rw [h]; exact hinv.2.1
  obtain ⟨t, ht⟩ : ∃ t, sfx s i = t := ⟨_, rfl⟩
  have HT := hidv ht
  simp only [ht] at hksz htsz hkey hex hps hpl hpa hbd hat0 hput hsl ⊢
  rw [ht] at HPO HPS
  have hts60 : t.size ≤ 60 := by omega
  have HIH := hidv ih
  have HRW := hidv hr
  have HA := hidv hA
  have HIN := hidv hinv
  have HEX := hidv hex
  have HPSU := hidv hps
  have HPLE := hidv hpl
  have HPA := hidv hpa
  have HAT := hidv hat0
  have HPU := hidv hput
  have HX := hidv hx
  have hx0 := hx
  have HKEY := hidv hkey
  have HSL := hidv hsl
  obtain ⟨T, hT⟩ : ∃ T, fcB xs t = T := ⟨_, rfl⟩
  rw [hT] at hbd HAT HPA ⊢
  have hbd2 : T ≤ 1152921504606846976 := hbd
  have hn1000 : n ≤ 1000 := by rw [← hn]; exact hx0.1
  rw [hn] at HPLE HPA HIH HRW ⊢
  have HN := hidv hn
  have HFT := hidv hT
  obtain ⟨W, hW⟩ : ∃ W, w.alloc (.cells #[.slice A n c, .map (some M)] 76) = W := ⟨_, rfl⟩
  have hoW := hown.alloc (.cells #[.slice A n c, .map (some M)] 76)
  have hbx := Bx.new w 76 #[.slice A n c, .map (some M)]
  have hgr := World.grownBy_alloc w (.cells #[.slice A n c, .map (some M)] 76) (some M)
  rw [hW] at hoW hbx hgr
  have c0 := hbx.cell 0
  have c1 := hbx.cell 1
  have HGR := hidv hgr
  have HOW := hidv hoW
  have HBX := hidv hbx
  have hzB : B ≤ w.heap.size := by omega
  have hMn : (some w.heap.size : Option Nat) ≠ some M := by intro h; injection h with h; omega
  clear hx0 hr hinv hown hat0 hbx hgr hoW ih hA hex hps hpl hpa hput hx hkey hn hT ht hbd hsl
  cases hh : Maps.has D (kyS t)
  · have hlt0 : i ≠ s.size := fun h => by have := HSL.out h; rw [hh] at this; cases this
    have hts0 : 0 < t.size := by omega
    have hpa := HPA.out hts0
    have HPA2 := hidv hpa
    have HH := hidv hh
    have hhs : Maps.has D (.string t.data.toList) = false := hh
    clear hh hpa
    go_enter Try.func58, Try.ntmps58
    go_wp2_with (at_lookup; refine wpList_lookup_own_ok_int _ rfl _ _ 74 rfl 9 2 .i64 keyS Try.underlying74 Try.underlying2 (zeroI _) M _ D rfl HOW.out _ _ rfl HKEY.out ?_; intro cc hat hwc)
    clear hat hwc hhs
    go_loopw [7, 24] (fun p k wr => ∃ (j : Nat) (D1 : DataW Unit), j ≤ n ∧ k = .int .i64 (j : Int) ∧ p = .int .i64 (psum xs t j : Nat) ∧ Hid (wr.ownsMap Try.prog 9 (plainElem Try.prog 2) M (Maps.size D1) D1) ∧ Hid (CInv xs s D1) ∧ Hid (∀ j ≤ i, Maps.has D1 (kyS (sfx s j)) = Maps.has D (kyS (sfx s j))) ∧ Hid (w.grownBy wr (some M)) ∧ Hid (Bx wr w.heap.size 76 #[.slice A n c, .map (some M)])) (fun _ k _ => n - (intOf k).toNat)
    case atStart => exact ⟨0, D, Nat.zero_le _, rfl, by simp [psum], HOW, HIN, hidv (fun j hj => rfl), HGR, HBX⟩
    case round =>
      obtain ⟨j, D1, hj, rfl, rfl, how, hin, hsa, hgw, hbw⟩ := hrel
      by_cases hltj : j < n
      · have hjx : j < xs.length := by have := HN.out; omega
        obtain ⟨g, o, rfl, hg, hce⟩ := HA.out (by have := HN.out; omega)
        have hbel := below_gr hgw.out hzB hBM
        have d1 := (hbel.cell (p := ⟨g, o + j, none⟩) (by show g < B; omega)).trans (hce j hjx)
        have hx60 := HX.out.2.1 xs[j] (List.getElem_mem _)
        have hx1 : 1 ≤ xs[j].size := by
          have h1 := HX.out.2.2.1 xs[j].data.toList (by unfold Wl; exact List.mem_map_of_mem (List.getElem_mem _))
          simpa using h1
        have hsu := HPSU.out j hjx
        have hle := HPLE.out (j + 1)
        rw [HPA2.out] at hle
        obtain ⟨x, hx⟩ : ∃ x, xs[j] = x := ⟨_, rfl⟩
        simp only [hx] at d1 hx60 hx1 hsu
        have e0 := hbw.out.cell 0
        have e1 := hbw.out.cell 1
        obtain ⟨q, hq⟩ : ∃ q, Lib.hasPrefix t.data.toList x.data.toList = q := ⟨_, rfl⟩
        have hC1 := fun W => cutQ_any t x W hksz q hq
        rw [HEX.out x.size] at hC1 hsu
        rw [hq] at hsu
        have HC1 := hidv hC1
        obtain ⟨P, hP⟩ : ∃ P, psum xs t j = P := ⟨_, rfl⟩
        rw [hP] at hsu ⊢
        cases q
        · have hsu2 : psum xs t (j + 1) = P := by rw [hsu]; rfl
          have HSU := hidv hsu2
          clear hce hC1 hsu hq hle hx hP hsu2
          go_wp2_with fail
          refine (HC1.out _).mono ?_
          rintro e w' ⟨⟨r, rfl, hr⟩, rfl⟩
          clear hr
          go_wp2_with fail
          go_roundw
          case rel => exact ⟨j + 1, D1, by omega, by go_num, by rw [HSU.out], how, hin, hsa, hgw, hbw⟩
          case measure => simp [intOf]; omega
        · have hpl : x.size ≤ t.size := by
            rcases Nat.lt_or_ge t.size x.size with h2 | h2
            · rw [begins_no t x h2] at hq; cases hq
            · exact h2
          have hC2 := HIH.out (i + x.size) wr D1 (by omega) (by omega) (HRW.out.below hbel) how.out hin.out
          rw [if_pos rfl] at hsu
          obtain ⟨R, hR⟩ : ∃ R, fcB xs (sfx s (i + x.size)) = R := ⟨_, rfl⟩
          rw [hR] at hC2 hsu
          obtain ⟨y, hy⟩ : ∃ y, sfx s (i + x.size) = y := ⟨_, rfl⟩
          rw [hy] at hC2 HC1
          have HC2 := hidv hC2
          have HSU := hidv hsu
          have hPR : P + R ≤ 1152921504606846976 := by omega
          have hxx : i + x.size ≤ s.size := by omega
          clear hce hC1 hC2 hsu hq hle hx hP hR hy
          go_wp2_with fail
          refine (HC1.out _).mono ?_
          rintro e w' ⟨⟨r, rfl, hr⟩, rfl⟩
          obtain rfl := hr rfl
          clear hr
          go_wp2_with fail
          refine HC2.out.mono ?_
          rintro e w3 ⟨rfl, D2, how2, hin2, hsa2, hg2⟩
          have HO2 := hidv how2
          have HI2 := hidv hin2
          have HS2 := hidv (show ∀ m ≤ i, Maps.has D2 (kyS (sfx s m)) = Maps.has D (kyS (sfx s m)) from fun m hm => (hsa2 m (by omega)).trans (hsa.out m hm))
          have HG2 := hidv (grown_trans hgw.out hg2)
          have HB2 := hidv (hbw.out.grown hg2 hMn)
          clear how2 hin2 hsa2 hg2 hbel e0 e1 d1
          go_wp2_with fail
          go_roundw
          case rel => exact ⟨j + 1, D2, by omega, by go_num, by rw [HSU.out]; go_num, HO2, HI2, HS2, HG2, HB2⟩
          case measure => simp [intOf]; omega
      · obtain rfl : j = n := by omega
        rw [HPA2.out]
        have e0 := hbw.out.cell 0
        have e1 := hbw.out.cell 1
        have hsz1 := hin.out.2.2
        have HWF := hidv (show (Lit.int IntKind.i64 (T : Int)).wf = true from WalkArith.wf_i64 (by omega))
        have hno : Maps.has D1 (kyS t) = false := by
          have h1 := hsa.out i (Nat.le_refl _)
          rw [HT.out] at h1
          rw [h1]; exact HH.out
        have him := how.out.isMap
        have htd := how.out.tidy keyS
        have hmp := HPU.out D1 him hno (nI T)
        have hsp := size_put htd (k := kyS t) (nI T)
        rw [hno] at hsp
        have hinv2 : CInv xs s (D1.put (kyS t) (nI T)) := by
          refine ⟨fun m hm hhas => ?_, ?_, ?_⟩
          · by_cases hmi : m = i
            · subst hmi
              rw [HT.out, (HPS.out D1 him (nI T)).2, HFT.out]
            · have h2 := HPO.out D1 (nI T) m hm hmi
              rw [h2.1] at hhas
              rw [h2.2]
              exact hin.out.1 m hm hhas
          · rw [(HPO.out D1 (nI T) s.size (Nat.le_refl _) (fun h => hlt0 h.symm)).1]
            exact hin.out.2.1
          · rw [hsp]
            simp only [Bool.false_eq_true, if_false]
            omega
        have HI2 := hidv hinv2
        have HS2 := hidv (show ∀ m < i, Maps.has (D1.put (kyS t) (nI T)) (kyS (sfx s m)) = Maps.has D (kyS (sfx s m)) from fun m hm => by
          rw [(HPO.out D1 (nI T) m (by omega) (by omega)).1]
          exact hsa.out m (by omega))
        have hsz2 : Maps.size D1 ≤ 61 := by omega
        clear hno him htd hmp hsp hinv2 hsz1
        go_wp2_with (at_mapUpdate; refine wpList_mapUpdate_own _ rfl _ _ _ 74 rfl 9 2 keyS Try.underlying74 _ M _ D1 rfl how.out (by unfold maxLen; omega) _ _ _ rfl rfl HKEY.out _ [] (plainElem_int Try.underlying2 HWF.out) ?_; intro w5 hown5 hgr5)
        go_ret
        exact ⟨rfl, D1.put (kyS t) (nI T), own_tight hown5, HI2.out, HS2.out, grown_trans hgw.out hgr5⟩
  · have HH := hidv hh
    have HCC := hidv (HAT.out hh)
    have hhs : Maps.has D (.string t.data.toList) = true := hh
    clear hh
    go_enter Try.func58, Try.ntmps58
    go_wp2_with (at_lookup; refine wpList_lookup_own_ok_int _ rfl _ _ 74 rfl 9 2 .i64 keyS Try.underlying74 Try.underlying2 (zeroI _) M _ D rfl HOW.out _ _ rfl HKEY.out ?_; intro cc hat hwc)
    have hce : cc = (T : Int) := by
      have h1 : (DataW.lit (Lit.int IntKind.i64 cc) : DataW Unit) = DataW.lit (Lit.int IntKind.i64 (T : Int)) := hat.symm.trans HCC.out
      injection h1 with h2
      injection h2
    subst hce
    clear hat hwc hhs
    go_ret
    exact ⟨rfl, D, HOW.out, HIN.out, fun j hj => rfl, HGR.out⟩

theorem count_any (vx : Value) (xs : List ByteArray) (B M : Nat) (s : ByteArray) (hs : s.size ≤ 60) (hx : WsOk xs) (hBM : B ≤ M) : ∀ (N i : Nat) (w : World) (D : DataW Unit), s.size - i ≤ N → i ≤ s.size → Row w B vx (xs.map Value.string) → w.ownsMap Try.prog 9 (plainElem Try.prog 2) M (Maps.size D) D → CInv xs s D →
    Calls Try.prog 58 #[.agg #[vx, .map (some M)], .string (sfx s i)] w fun e w' => e = .returned (.int .i64 (fcB xs (sfx s i) : Nat)) ∧ CAft w w' M xs s i D
  | 0, i, w, D, hN, hi, hr, hown, hinv => count_step vx xs B M s hs hx hBM i hi (fun k w D h1 h2 => by omega) w D hr hown hinv
  | N + 1, i, w, D, hN, hi, hr, hown, hinv => count_step vx xs B M s hs hx hBM i hi (fun k w D h1 h2 hr hown hinv => count_any vx xs B M s hs hx hBM N k w D (by omega) h2 hr hown hinv) w D hr hown hinv

end Go.Proofs.Ytpjidcfdcpjafaa
