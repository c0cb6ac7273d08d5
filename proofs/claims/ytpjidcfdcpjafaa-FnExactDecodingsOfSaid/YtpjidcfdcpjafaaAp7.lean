/-
  The image of a word, of the program and of the model: contracts.
-/
import Derived.Test.YtpjidcfdcpjafaaIm7
import Derived.Test.YtpjidcfdcpjafaaAp7L
import Derived.Test.YtpjidcfdcpjafaaBuild
import Derived.Test.YtpjidcfdcpjafaaShelf
import Derived.Deep.RegionHeld3
namespace Go.Proofs.Ytpjidcfdcpjafaa
open Go.RowKit Go
set_option linter.unusedVariables false

def imgS (xs : List ByteArray) (c : UInt8) : List UInt8 := (xs.getD (c.toNat - 97) ⟨#[]⟩).data.toList
def imgL (l : List UInt8) (xs : List ByteArray) : List UInt8 := l.flatMap (imgS xs)
def imgV (s : ByteArray) (xs : List ByteArray) : ByteArray := ⟨(imgL s.data.toList xs).toArray⟩
theorem imgL_nil (xs : List ByteArray) : imgL [] xs = [] := rfl
theorem imgL_app (l m : List UInt8) (xs : List ByteArray) : imgL (l ++ m) xs = imgL l xs ++ imgL m xs := by
  unfold imgL; rw [List.flatMap_append]
theorem imgL_next {s : ByteArray} (xs : List ByteArray) {k : Nat} (hk : k < s.size) : imgL (s.data.toList.take (k + 1)) xs = imgL (s.data.toList.take k) xs ++ imgS xs s[k] := by
  rw [List.take_succ_eq_append_getElem (by simpa using hk), imgL_app]
  show _ = _
  unfold imgL
  simp [List.flatMap]
  rfl
theorem imgV_data (s : ByteArray) (xs : List ByteArray) : (imgV s xs).data.toList = imgL s.data.toList xs := by simp [imgV]
theorem img_size {xs : List ByteArray} (h : ImgOk xs) (k : Nat) (hk : k < 4) : ∃ hk' : k < xs.length, xs[k].size ≤ 8 := by
  refine ⟨by have := h.1; omega, ?_⟩
  have := h.2 k (by have := h.1; omega)
  unfold imB at this
  rw [Bool.and_eq_true] at this
  exact of_decide_eq_true this.2
theorem imgS_at {xs : List ByteArray} {c : UInt8} {j : Nat} (hc : c.toNat = 97 + j) (hj : j < xs.length) : imgS xs c = xs[j].data.toList := by
  unfold imgS
  rw [hc, Nat.add_sub_cancel_left, List.getD_eq_getElem?_getD, List.getElem?_eq_getElem hj]
  rfl
theorem imgL_bound {xs : List ByteArray} (h : ImgOk xs) : ∀ l : List UInt8, (∀ c ∈ l, Wd.isL c = true) → (imgL l xs).length ≤ 8 * l.length
  | [], _ => by simp [imgL]
  | c :: l, hl => by
    obtain ⟨j, hj, hc, _⟩ := let_at (hl c (by simp))
    obtain ⟨hj', hs⟩ := img_size h j hj
    have h2 := imgL_bound h l (fun d hd => hl d (by simp [hd]))
    have e : imgL (c :: l) xs = imgS xs c ++ imgL l xs := by unfold imgL; simp
    have e2 : xs[j].data.toList.length = xs[j].size := by simp
    rw [e, List.length_cons, List.length_append, imgS_at hc hj', e2]
    omega
theorem imgL_upto {s : ByteArray} {xs : List ByteArray} (hs : Wd.wordB s.data.toList = true) (h : ImgOk xs) (k : Nat) : (imgL (s.data.toList.take k) xs).length ≤ 480 := by
  have h0 := word_all hs
  have h1 := imgL_bound h (s.data.toList.take k) (fun c hc => h0.2 c (List.mem_of_mem_take hc))
  have h2 : (s.data.toList.take k).length ≤ 60 := Nat.le_trans (List.length_take_le' _ _) (by simpa using h0.1)
  omega
theorem imgV_size {s : ByteArray} {xs : List ByteArray} (hs : Wd.wordB s.data.toList = true) (h : ImgOk xs) : (imgV s xs).size ≤ 480 := by
  have h1 := imgL_upto hs h s.data.toList.length
  rw [List.take_length] at h1
  have e : (imgV s xs).data.toList.length = (imgV s xs).size := by simp
  rw [imgV_data] at e
  omega

set_option maxRecDepth 100000 in
set_option maxHeartbeats 800000 in
theorem l07Image_any (s : ByteArray) (v : Value) (xs : List ByteArray) (B : Nat) (w : World) (hs : Wd.wordB s.data.toList = true) (hr : Row w B v (xs.map Value.string)) (hx : ImgOk xs) :
    Calls Try.prog 77 #[v, .string s] w fun e w' => e = .returned (.string (imgV s xs)) ∧ w = w' := by
  obtain ⟨A, c, rfl, hA⟩ := strRow_at hr
  have h4 : xs.length = 4 := hx.1
  obtain ⟨g, o, rfl, hg, hce⟩ := hA (by omega)
  rw [h4]
  have hs60 := (word_all hs).1
  have HCE := hidv hce
  have H4 := hidv h4
  have HX := hidv hx
  have HV := hidv hs
  clear hce h4 hx hA hr hs
  go_enter Try.func77, Try.ntmps77
  go_wp2
  go_loop [5, 6] (fun q i => ∃ k : Nat, k ≤ s.size ∧ i = .int .i64 k ∧ ∃ b : ByteArray, q = .string b ∧ Hid (b.data.toList = imgL (s.data.toList.take k) xs)) (fun _ i => s.size - (intOf i).toNat)
  case atStart => exact ⟨0, Nat.zero_le _, rfl, _, rfl, hidv rfl⟩
  case round =>
    obtain ⟨k, hk, rfl, b, rfl, hq⟩ := hrel
    have hbs : b.size ≤ 480 := by
      have h1 := imgL_upto HV.out HX.out k
      rw [← hq.out] at h1
      simpa using h1
    by_cases hlt : k < s.size
    · have HN := hidv (imgL_next xs hlt)
      obtain ⟨j, hj4, hcj, _⟩ := let_at (word_at HV.out k hlt)
      obtain ⟨hj', hy0⟩ := img_size HX.out j hj4
      have c1 := HCE.out j (by have := H4.out; omega)
      have hsl := imgS_at hcj hj'
      obtain ⟨y, hy⟩ : ∃ y, xs[j] = y := ⟨_, rfl⟩
      rw [hy] at hsl c1 hy0
      have HSL := hidv hsl
      have hcz : (s[k].toNat : Int) = 97 + (j : Int) := by omega
      have hcat : ¬ (9223372036854775807 < b.size + y.size) := by omega
      clear hsl hy hj' hcj
      go_wp2_with fail
      go_round
      case rel => exact ⟨k + 1, by omega, by go_num, _, rfl, hidv (by rw [ByteArray.data_append, Array.toList_append, hq.out, HN.out, HSL.out])⟩
      case measure => simp [intOf]; omega
    · obtain rfl : k = s.size := by omega
      have he : b = imgV s xs := by
        have h1 := hq.out
        rw [List.take_of_length_le (by simp)] at h1
        unfold imgV
        rw [← h1]
      go_wp2
      go_ret
      exact ⟨rfl, rfl⟩

theorem cells_appI (a : List UInt8) (t : ByteArray) : Lib.byteCells a ++ Lib.strCells t = Lib.byteCells (a ++ t.data.toList) := by rw [Lib.strCells_eq, Lib.byteCells_append]

set_option maxRecDepth 100000 in
set_option maxHeartbeats 1600000 in
theorem closI_any (s : ByteArray) (b : Nat) (v : Value) (xs : List ByteArray) (B : Nat) (w : World) (hs : Wd.wordB s.data.toList = true) (hb : w.cell? ⟨b, 0, none⟩ = some v) (hr : Row w B v (xs.map Value.string)) (hB : B ≤ w.heap.size) (hx : ImgOk xs) :
    Calls Try.prog 93 #[.string s, .pointer (some ⟨b, 0, none⟩)] w fun e w' => e = .returned (.string (imgV s xs)) ∧ Below w.heap.size w w' := by
  obtain ⟨A, c, rfl, hA⟩ := strRow_at hr
  have hbl : b < w.heap.size := World.block_lt_of_cell? _ _ hb
  have h4 : xs.length = 4 := hx.1
  obtain ⟨g, o, rfl, hg, hce⟩ := hA (by omega)
  rw [h4] at hb
  have hs60 := (word_all hs).1
  have HCE := hidv hce
  have H4 := hidv h4
  have HX := hidv hx
  have HV := hidv hs
  have HCB := hidv hb
  clear hce h4 hx hA hr hs hb
  go_enter Try.func93, Try.ntmps93
  go_wp2_with fail
  obtain ⟨w0, hw0⟩ : ∃ w0, w0 = w.alloc (.cells #[.pointer none, .slice none 0 0] 65) := ⟨_, rfl⟩
  rw [← hw0]
  have hb0 : Below w.heap.size w w0 := by rw [hw0]; exact (Below.refl _ _).alloc (Nat.le_refl _) _
  have hz0 : w0.heap.size = w.heap.size + 1 := by rw [hw0]; simp
  have hk0 : w0.heap[w.heap.size]? = some (.cells #[.pointer none, .slice none 0 0] 65 (0, 0)) := by rw [hw0]; exact heap_alloc_new w _
  clear hw0
  have hbd1 : Lib.IsBuilder 65 5 w.heap.size w.heap.size (Lib.byteCells (imgL (s.data.toList.take 0) xs)) w0 :=
    .inl ⟨Nat.le_refl _, .slice none 0 0, hk0, World.ownsRow_nil _ _ _ _, by simp [Value.ownBlock]⟩
  have HZ := hidv hz0
  have HD := hidv hbd1
  have HB1 := hidv hb0
  clear hb0 hk0 hbd1 hz0
  go_loopw [8] (fun i wr => ∃ k : Nat, k ≤ s.size ∧ i = .int .i64 k ∧ Hid (Lib.IsBuilder 65 5 w.heap.size w.heap.size (Lib.byteCells (imgL (s.data.toList.take k) xs)) wr) ∧ Hid (Below w.heap.size w wr)) (fun i _ => s.size - (intOf i).toNat)
  case atStart => exact ⟨0, Nat.zero_le _, rfl, HD, HB1⟩
  case round =>
    obtain ⟨k, hk, rfl, hbi, hbw⟩ := hrel
    have hsw := hbw.out.size
    have hpl : (Lib.byteCells (imgL (s.data.toList.take k) xs)).length ≤ 480 := by
      rw [Lib.byteCells_length]
      exact imgL_upto HV.out HX.out k
    by_cases hlt : k < s.size
    · have HN := hidv (imgL_next xs hlt)
      obtain ⟨j, hj4, hcj, hix⟩ := let_at (word_at HV.out k hlt)
      obtain ⟨hj', hy0⟩ := img_size HX.out j hj4
      have c1 := HCE.out j hj'
      have hsl := imgS_at hcj hj'
      have hC1 : ∀ W, Calls Try.prog 94 #[.string { data := #[97, 98, 99, 100] }, .int .u8 (s[k].toNat : Int)] W fun e w' => e = .returned (.int .i64 (j : Int)) ∧ W = w' := fun W => (Try.strings_IndexByte _ _ W).mono (fun e w' h => ⟨by rw [h.1, ← hix]; simp, h.2.symm⟩)
      obtain ⟨y, hy⟩ : ∃ y, xs[j] = y := ⟨_, rfl⟩
      rw [hy] at hsl c1 hy0
      have HSL := hidv hsl
      have C1 := hidv hC1
      have C2 := hidv (fun W (hW : Lib.IsBuilder 65 5 w.heap.size w.heap.size (Lib.byteCells (imgL (s.data.toList.take k) xs)) W) (h2 : w.heap.size ≤ W.heap.size) => writeString_any w.heap.size w.heap.size _ y W hW (by omega) h2)
      have HS := hidv (fun W (hW : Below w.heap.size w W) => (show W.cell? ⟨b, 0, none⟩ = some (.slice (some ⟨g, o, none⟩) 4 c) ∧ W.cell? ⟨g, o + j, none⟩ = some (.string y) ∧ Below w.heap.size w W from ⟨(hW.cell (p := ⟨b, 0, none⟩) hbl).trans HCB.out, (hW.cell (p := ⟨g, _, none⟩) (by show g < _; omega)).trans c1, hW⟩))
      have hbw0 := hbw.out
      have i0 : (0 : Int) ≤ (k : Int) := by omega
      have i1 : (k : Int) < (s.size : Int) := by omega
      have i2 : (0 : Int) ≤ (j : Int) := by omega
      have i3 : (j : Int) < 4 := by omega
      clear hsl hy hj' hcj hix hC1 c1
      go_wp2_with fail
      go_region_held3 (fun W => W.cell? ⟨b, 0, none⟩ = some (.slice (some ⟨g, o, none⟩) 4 c) ∧ W.cell? ⟨g, o + j, none⟩ = some (.string y) ∧ Below w.heap.size w W) (exact HS.out _ (by repeat (first | with_reducible assumption | with_reducible exact Below.refl _ _ | with_reducible refine Below.drew ?_ | with_reducible refine below_al ?_ _))) (first | (go_at_call 94; refine (C1.out _).mono ?_; rintro e w' ⟨rfl, rfl⟩) | (go_at_call 50; refine (C2.out wr.drew (show Lib.IsBuilder _ _ _ _ _ wr.drew from hbi.out) (show w.heap.size ≤ wr.drew.heap.size from hsw)).mono ?_; rintro e w2 ⟨rfl, hbl2, hbw1, hok2⟩; have hbw2 : Below w.heap.size w w2 := (Below.drew hbw0).trans hbw1))
      go_wp2_with fail
      go_roundw
      case rel =>
        refine ⟨k + 1, by omega, by go_num, hidv ?_, hidv hbw2⟩
        rw [HN.out, HSL.out, ← cells_appI]
        exact .inr hbl2
      case measure => simp [intOf]; omega
    · obtain rfl : k = s.size := by omega
      have he : imgL (s.data.toList.take s.size) xs = imgL s.data.toList xs := by rw [List.take_of_length_le (by simp)]
      rw [he] at hbi
      go_wp2_with fail
      refine (Try.Builder_String_any _ _ _ _ hbi.out hsw).mono ?_
      rintro e w' ⟨rfl, hbw2⟩
      go_wp2_with fail
      go_ret
      exact ⟨rfl, hbw.out.trans hbw2⟩

theorem imageBy_any (v : Value) (w : World) (hv : ∃ A n c, v = .slice A n c) :
    Calls Try.prog 61 #[v] w fun e w' => e = .returned (.func (.func 93) #[] #[.pointer (some ⟨w.heap.size, 0, none⟩)]) ∧ Below w.heap.size w w' ∧ Bx w' w.heap.size 24 #[v] := by
  obtain ⟨A, n, c, rfl⟩ := hv
  go_enter Try.func61, Try.ntmps61
  go_wp2_with fail
  go_ret
  exact ⟨rfl, below_al (Below.refl _ _) _, Bx.new _ _ _⟩

/-- What the answer is: the image of a valid word by valid images, unless it is too long. -/
def ApR (xs : List ByteArray) (s y : ByteArray) (c : Int) : Prop :=
  (ImgOk xs ∧ Wd.wordB s.data.toList = true → (60 < (imgV s xs).size → y = ⟨#[]⟩ ∧ c = 3) ∧ ((imgV s xs).size ≤ 60 → y = imgV s xs ∧ c = 0)) ∧ (¬ (ImgOk xs ∧ Wd.wordB s.data.toList = true) → y = ⟨#[]⟩ ∧ c = 1)
theorem apR_ex (xs : List ByteArray) (s : ByteArray) : ∃ y c, ApR xs s y c := by
  by_cases h : ImgOk xs ∧ Wd.wordB s.data.toList = true
  · by_cases h2 : 60 < (imgV s xs).size
    · exact ⟨⟨#[]⟩, 3, fun _ => ⟨fun _ => ⟨rfl, rfl⟩, fun h3 => by omega⟩, fun hn => absurd h hn⟩
    · exact ⟨imgV s xs, 0, fun _ => ⟨fun h3 => by omega, fun _ => ⟨rfl, rfl⟩⟩, fun hn => absurd h hn⟩
  · exact ⟨⟨#[]⟩, 1, fun hy => absurd hy h, fun _ => ⟨rfl, rfl⟩⟩

set_option maxHeartbeats 800000 in
theorem implApply_any (s : ByteArray) (v : Value) (xs : List ByteArray) (B : Nat) (w : World) (hs : s.size ≤ maxLen) (hv : Row w B v (xs.map Value.string)) (hB : B ≤ w.heap.size) (hx : xs.length ≤ 1048576) (hz : ∀ s ∈ xs, s.size ≤ maxLen) (y : ByteArray) (c : Int) (hd : ApR xs s y c) :
    Calls Try.prog 21 #[v, .string s] w fun e w' => e = .returned (.tuple #[.string y, .int .i64 c]) ∧ Below w.heap.size w w' := by
  obtain ⟨q, hq⟩ := iffB (ImgOk xs)
  obtain ⟨A, c9, rfl, _⟩ := strRow_at hv
  obtain ⟨v, hvv⟩ : ∃ v, Value.slice A xs.length c9 = v := ⟨_, rfl⟩
  rw [hvv] at hv ⊢
  have C1 := hidv (implImg_any v xs B w hv hB hx hz q hq)
  have C2 := hidv (fun W => implValidWord_any s W hs)
  have C3 := fun b W (h : Below w.heap.size w W) (hs2 : Wd.wordB s.data.toList = true) (ho : ImgOk xs) (hc : W.cell? ⟨b, 0, none⟩ = some v) => closI_any s b v xs B W hs2 hc (hv.below (h.mono hB)) (Nat.le_trans hB h.size) ho
  have C3 := hidv C3
  have HD := hidv hd
  have HQ := hidv hq
  have hlong : ImgOk xs → Wd.wordB s.data.toList = true → (imgV s xs).size ≤ 480 := fun h1 h2 => imgV_size h2 h1
  obtain ⟨p, hp⟩ : ∃ p, Wd.wordB s.data.toList = p := ⟨_, rfl⟩
  have HP := hidv hp
  rw [hp] at C2
  obtain ⟨n, hn⟩ : ∃ n, xs.length = n := ⟨_, rfl⟩
  rw [hn] at hvv
  clear hd hq hv hz hp hs hn
  subst hvv
  cases q
  · obtain ⟨rfl, rfl⟩ := HD.out.2 (fun h => absurd (HQ.out.mpr h.1) (by decide))
    clear C3 hlong
    go_enter Try.func21, Try.ntmps21
    go_wp2_with fail
    refine C1.out.mono ?_
    rintro e w2 ⟨rfl, hb2⟩
    have HB := hidv hb2
    clear hb2
    go_wp2_with fail
    go_ret2
    exact ⟨rfl, HB.out⟩
  have hok := HQ.out.mp rfl
  cases p
  · obtain ⟨rfl, rfl⟩ := HD.out.2 (fun h => by have h1 := h.2; rw [HP.out] at h1; cases h1)
    clear C3 hok hlong
    go_enter Try.func21, Try.ntmps21
    go_wp2_with fail
    refine C1.out.mono ?_
    rintro e w2 ⟨rfl, hb2⟩
    have HB := hidv hb2
    clear hb2
    go_wp2_with fail
    refine (C2.out _).mono ?_
    rintro e w' ⟨rfl, rfl⟩
    go_wp2_with fail
    go_ret2
    exact ⟨rfl, HB.out⟩
  have HS := HP.out
  have hlo := hlong hok HS
  have hr := HD.out.1 ⟨hok, HS⟩
  have C3 := hidv (fun b W h hc => C3.out b W h HS hok hc)
  obtain ⟨z, hzz⟩ : ∃ z, imgV s xs = z := ⟨_, rfl⟩
  rw [hzz] at hlo hr C3
  clear hlong hzz hok HS
  by_cases h60 : 60 < z.size
  · obtain ⟨rfl, rfl⟩ := hr.1 h60
    clear hr
    go_enter Try.func21, Try.ntmps21
    go_wp2_with fail
    refine C1.out.mono ?_
    rintro e w2 ⟨rfl, hb2⟩
    have HB := hidv hb2
    clear hb2
    go_wp2_with fail
    refine (C2.out _).mono ?_
    rintro e w' ⟨rfl, rfl⟩
    go_wp2_with fail
    refine (imageBy_any _ _ ⟨_, _, _, rfl⟩).mono ?_
    rintro e w3 ⟨rfl, hb3, hbx⟩
    have HB3' := hidv (below_on HB.out hb3)
    have hcx := hbx.cell 0
    have C4 := hidv (C3.out _ w3 HB3'.out hcx)
    have hz3 := hb3.size
    clear hb3 hbx hcx
    go_wp2_with fail
    refine C4.out.mono ?_
    rintro e w4 ⟨rfl, hb4⟩
    have HB3 := hidv (HB3'.out.trans (hb4.mono (by have := HB3'.out.size; omega)))
    clear hb4
    go_wp2_with fail
    go_ret2
    exact ⟨rfl, HB3.out⟩
  · obtain ⟨rfl, rfl⟩ := hr.2 (by omega)
    clear hr
    go_enter Try.func21, Try.ntmps21
    go_wp2_with fail
    refine C1.out.mono ?_
    rintro e w2 ⟨rfl, hb2⟩
    have HB := hidv hb2
    clear hb2
    go_wp2_with fail
    refine (C2.out _).mono ?_
    rintro e w' ⟨rfl, rfl⟩
    go_wp2_with fail
    refine (imageBy_any _ _ ⟨_, _, _, rfl⟩).mono ?_
    rintro e w3 ⟨rfl, hb3, hbx⟩
    have HB3' := hidv (below_on HB.out hb3)
    have hcx := hbx.cell 0
    have C4 := hidv (C3.out _ w3 HB3'.out hcx)
    have hz3 := hb3.size
    clear hb3 hbx hcx
    go_wp2_with fail
    refine C4.out.mono ?_
    rintro e w4 ⟨rfl, hb4⟩
    have HB3 := hidv (HB3'.out.trans (hb4.mono (by have := HB3'.out.size; omega)))
    clear hb4
    go_wp2_with fail
    go_ret2
    exact ⟨rfl, HB3.out⟩

set_option maxHeartbeats 800000 in
theorem specApply_any (s : ByteArray) (v : Value) (xs : List ByteArray) (B : Nat) (w : World) (hs : s.size ≤ maxLen) (hv : Row w B v (xs.map Value.string)) (hB : B ≤ w.heap.size) (hx : xs.length ≤ 1048576) (hz : ∀ s ∈ xs, s.size ≤ maxLen) (y : ByteArray) (c : Int) (hd : ApR xs s y c) :
    Calls Try.prog 34 #[v, .string s] w fun e w' => e = .returned (.tuple #[.string y, .int .i64 c]) ∧ Below w.heap.size w w' := by
  obtain ⟨q, hq⟩ := iffB (ImgOk xs)
  obtain ⟨A, c9, rfl, _⟩ := strRow_at hv
  obtain ⟨v, hvv⟩ : ∃ v, Value.slice A xs.length c9 = v := ⟨_, rfl⟩
  rw [hvv] at hv ⊢
  have C1 := hidv (specImg_any v xs B w hv hB hx hz q hq)
  have C2 := hidv (fun W => specWord_any s W hs)
  have C3 := fun W (h : Below w.heap.size w W) (hs2 : Wd.wordB s.data.toList = true) (ho : ImgOk xs) => (l07Image_any s v xs B W hs2 (hv.below (h.mono hB)) ho).mono (fun e w' h => (show e = .returned (.string (imgV s xs)) ∧ Below W.heap.size W w' from ⟨h.1, h.2 ▸ Below.refl _ _⟩))
  have C3 := hidv C3
  have HD := hidv hd
  have HQ := hidv hq
  have hlong : ImgOk xs → Wd.wordB s.data.toList = true → (imgV s xs).size ≤ 480 := fun h1 h2 => imgV_size h2 h1
  obtain ⟨p, hp⟩ : ∃ p, Wd.wordB s.data.toList = p := ⟨_, rfl⟩
  have HP := hidv hp
  rw [hp] at C2
  obtain ⟨n, hn⟩ : ∃ n, xs.length = n := ⟨_, rfl⟩
  rw [hn] at hvv
  clear hd hq hv hz hp hs hn
  subst hvv
  cases q
  · obtain ⟨rfl, rfl⟩ := HD.out.2 (fun h => absurd (HQ.out.mpr h.1) (by decide))
    clear C3 hlong
    go_enter Try.func34, Try.ntmps34
    go_wp2_with fail
    refine C1.out.mono ?_
    rintro e w2 ⟨rfl, hb2⟩
    have HB := hidv hb2
    clear hb2
    go_wp2_with fail
    go_ret2
    exact ⟨rfl, HB.out⟩
  have hok := HQ.out.mp rfl
  cases p
  · obtain ⟨rfl, rfl⟩ := HD.out.2 (fun h => by have h1 := h.2; rw [HP.out] at h1; cases h1)
    clear C3 hok hlong
    go_enter Try.func34, Try.ntmps34
    go_wp2_with fail
    refine C1.out.mono ?_
    rintro e w2 ⟨rfl, hb2⟩
    have HB := hidv hb2
    clear hb2
    go_wp2_with fail
    refine (C2.out _).mono ?_
    rintro e w' ⟨rfl, rfl⟩
    go_wp2_with fail
    go_ret2
    exact ⟨rfl, HB.out⟩
  have HS := HP.out
  have hlo := hlong hok HS
  have hr := HD.out.1 ⟨hok, HS⟩
  have C3 := hidv (fun W h => C3.out W h HS hok)
  obtain ⟨z, hzz⟩ : ∃ z, imgV s xs = z := ⟨_, rfl⟩
  rw [hzz] at hlo hr C3
  clear hlong hzz hok HS
  by_cases h60 : 60 < z.size
  · obtain ⟨rfl, rfl⟩ := hr.1 h60
    clear hr
    go_enter Try.func34, Try.ntmps34
    go_wp2_with fail
    refine C1.out.mono ?_
    rintro e w2 ⟨rfl, hb2⟩
    have HB := hidv hb2
    clear hb2
    go_wp2_with fail
    refine (C2.out _).mono ?_
    rintro e w' ⟨rfl, rfl⟩
    go_wp2_with fail
    refine (C3.out _ HB.out).mono ?_
    rintro e w3 ⟨rfl, hb3⟩
    have HB3 := hidv (below_on HB.out hb3)
    clear hb3
    go_wp2_with fail
    go_ret2
    exact ⟨rfl, HB3.out⟩
  · obtain ⟨rfl, rfl⟩ := hr.2 (by omega)
    clear hr
    go_enter Try.func34, Try.ntmps34
    go_wp2_with fail
    refine C1.out.mono ?_
    rintro e w2 ⟨rfl, hb2⟩
    have HB := hidv hb2
    clear hb2
    go_wp2_with fail
    refine (C2.out _).mono ?_
    rintro e w' ⟨rfl, rfl⟩
    go_wp2_with fail
    refine (C3.out _ HB.out).mono ?_
    rintro e w3 ⟨rfl, hb3⟩
    have HB3 := hidv (below_on HB.out hb3)
    clear hb3
    go_wp2_with fail
    go_ret2
    exact ⟨rfl, HB3.out⟩

end Go.Proofs.Ytpjidcfdcpjafaa
