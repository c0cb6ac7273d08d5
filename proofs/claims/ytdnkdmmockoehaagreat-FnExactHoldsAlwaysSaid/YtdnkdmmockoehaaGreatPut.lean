/-
  What a term becomes by values, of the program and of the model: contracts.
-/
import Derived.Test.YtdnkdmmockoehaaGreatKind
import Derived.Test.YtdnkdmmockoehaaGreatWalkVV
import Derived.Test.YtdnkdmmockoehaaGreatBuild
import Derived.Test.YtdnkdmmockoehaaGreatShelf
namespace Go.Proofs.YtdnkdmmockoehaaGreat
open Go.RowKit Go

def symTxt (xs : List ByteArray) (c : UInt8) : List UInt8 := if Wd.isL c then [c] else (xs.getD (Wd.unkI c).toNat ⟨#[]⟩).data.toList
def putL (l : List UInt8) (xs : List ByteArray) : List UInt8 := l.flatMap (symTxt xs)
theorem putL_snoc (l : List UInt8) (c : UInt8) (xs : List ByteArray) : putL (l ++ [c]) xs = putL l xs ++ symTxt xs c := by
  unfold putL
  simp [List.flatMap_append]
theorem putL_nil (xs : List ByteArray) : putL [] xs = [] := rfl
theorem putL_next {s : ByteArray} (xs : List ByteArray) {k : Nat} (hk : k < s.size) : putL (s.data.toList.take (k + 1)) xs = putL (s.data.toList.take k) xs ++ symTxt xs s[k] := by
  rw [List.take_succ_eq_append_getElem (by simpa using hk), putL_snoc]
  rfl
theorem valsB_get {xs : List ByteArray} (h : valsB xs = true) (k : Nat) (hk : k < 4) : ∃ hk' : k < xs.length, xs[k].size ≤ 60 := by
  unfold valsB at h
  rw [Bool.and_eq_true, decide_eq_true_eq, List.all_eq_true] at h
  refine ⟨by omega, ?_⟩
  have := Wd.wordB_len (h.2 xs[k] (List.getElem_mem _))
  simpa using this
theorem term_allP {s : ByteArray} (hv : Wd.termB s.data.toList = true) : ∀ c ∈ s.data.toList, Wd.isL c = true ∨ Wd.isL c = false ∧ Wd.isU c = true := by
  unfold Wd.termB at hv
  rw [Bool.and_eq_true, List.all_eq_true] at hv
  intro c hc
  have := hv.2 c hc
  cases h : Wd.isL c
  · rw [h, Bool.false_or] at this
    exact .inr ⟨rfl, this⟩
  · exact .inl rfl
theorem symTxt_letter (xs : List ByteArray) {c : UInt8} (h : Wd.isL c = true) : symTxt xs c = [c] := by
  unfold symTxt
  rw [h]
  rfl
theorem symTxt_unknown {xs : List ByteArray} {c : UInt8} {x : Nat} (h : Wd.isL c = false) (hx : Wd.unkI c = x) (hk : x < xs.length) : symTxt xs c = xs[x].data.toList := by
  unfold symTxt
  rw [h, hx]
  simp [hk]
theorem symTxt_bound {xs : List ByteArray} (h : valsB xs = true) {c : UInt8} (hc : Wd.isL c = true ∨ Wd.isL c = false ∧ Wd.isU c = true) : (symTxt xs c).length ≤ 60 := by
  rcases hc with hl | ⟨hl, hu⟩
  · rw [symTxt_letter xs hl]; simp
  · obtain ⟨x, hx4, hxu, _, _⟩ := symV_unknown hl hu
    obtain ⟨hk, hb⟩ := valsB_get h x hx4
    rw [symTxt_unknown hl hxu hk]
    simpa using hb
theorem putL_bound {xs : List ByteArray} (h : valsB xs = true) : ∀ l : List UInt8, (∀ c ∈ l, Wd.isL c = true ∨ Wd.isL c = false ∧ Wd.isU c = true) → (putL l xs).length ≤ 60 * l.length
  | [], _ => by simp [putL]
  | c :: l, hl => by
    have h1 := symTxt_bound h (hl c (by simp))
    have h2 := putL_bound h l (fun d hd => hl d (by simp [hd]))
    have e : putL (c :: l) xs = symTxt xs c ++ putL l xs := by unfold putL; simp
    rw [e, List.length_cons, List.length_append]
    omega
theorem putL_upto {s : ByteArray} {xs : List ByteArray} (hs : s.size ≤ 24) (hv : Wd.termB s.data.toList = true) (h : valsB xs = true) (k : Nat) : (putL (s.data.toList.take k) xs).length ≤ 1440 := by
  have h1 := putL_bound h (s.data.toList.take k) (fun c hc => term_allP hv c (List.mem_of_mem_take hc))
  have h2 : (s.data.toList.take k).length ≤ 24 := Nat.le_trans (List.length_take_le' _ _) (by simpa using hs)
  omega

/-- Four values of at most M letters. -/
def ValsM (M : Nat) (xs : List ByteArray) : Prop := xs.length = 4 ∧ ∀ s ∈ xs, s.size ≤ M
theorem valsM_of {xs : List ByteArray} (h : valsB xs = true) : ValsM 1000000 xs := by
  unfold valsB at h
  rw [Bool.and_eq_true, decide_eq_true_eq, List.all_eq_true] at h
  refine ⟨h.1, fun s hs => ?_⟩
  have := Wd.wordB_len (h.2 s hs)
  have e : s.data.toList.length = s.size := by simp
  omega
theorem ValsM.get {M : Nat} {xs : List ByteArray} (h : ValsM M xs) (k : Nat) (hk : k < 4) : ∃ hk' : k < xs.length, xs[k].size ≤ M :=
  ⟨by have := h.1; omega, h.2 _ (List.getElem_mem _)⟩
theorem symTxt_boundM {M : Nat} {xs : List ByteArray} (h : ValsM M xs) (hM : 1 ≤ M) {c : UInt8} (hc : Wd.isL c = true ∨ Wd.isL c = false ∧ Wd.isU c = true) : (symTxt xs c).length ≤ M := by
  rcases hc with hl | ⟨hl, hu⟩
  · rw [symTxt_letter xs hl]; simpa using hM
  · obtain ⟨x, hx4, hxu, _, _⟩ := symV_unknown hl hu
    obtain ⟨hk, hb⟩ := h.get x hx4
    rw [symTxt_unknown hl hxu hk]
    simpa using hb
theorem putL_boundM {M : Nat} {xs : List ByteArray} (h : ValsM M xs) (hM : 1 ≤ M) : ∀ l : List UInt8, (∀ c ∈ l, Wd.isL c = true ∨ Wd.isL c = false ∧ Wd.isU c = true) → (putL l xs).length ≤ M * l.length
  | [], _ => by simp [putL]
  | c :: l, hl => by
    have h1 := symTxt_boundM h hM (hl c (by simp))
    have h2 := putL_boundM h hM l (fun d hd => hl d (by simp [hd]))
    have e : putL (c :: l) xs = symTxt xs c ++ putL l xs := by unfold putL; simp
    rw [e, List.length_cons, List.length_append, Nat.mul_succ]
    omega
theorem putL_uptoM {s : ByteArray} {xs : List ByteArray} (hs : s.size ≤ 24) (hv : Wd.termB s.data.toList = true) (h : ValsM 1000000 xs) (k : Nat) : (putL (s.data.toList.take k) xs).length ≤ 24000000 := by
  have h1 := putL_boundM h (by omega) (s.data.toList.take k) (fun c hc => term_allP hv c (List.mem_of_mem_take hc))
  have h2 : (s.data.toList.take k).length ≤ 24 := Nat.le_trans (List.length_take_le' _ _) (by simpa using hs)
  omega
theorem extract_one {s : ByteArray} {k : Nat} (hk : k < s.size) : (s.extract k (k + 1)).data.toList = [s[k]] := by
  rw [Lib.extract_data, show k + 1 - k = 1 by omega]
  rw [List.drop_eq_getElem_cons (by simpa using hk)]
  rfl

theorem slice_one (s : ByteArray) {k : Nat} (hk : k < s.size) (w : World) : (Instr.slice 9 (.string s) (some (.int .i64 (k : Int))) (some (.int .i64 ((k : Int) + 1))) none).run Tryz.prog w = .ok (.string (s.extract k (k + 1))) w := by
  rw [run_slice_string w 9 s .i64 .i64 _ _ Tryz.underlying9 (by omega) (by omega) (by omega), show ((k : Int) + 1).toNat = k + 1 by omega, Int.toNat_natCast]

theorem method_textL (x : Int) (w : World) : (method 260 118 (.int .i64 x) "loop.example/g01143/impl.text").run Tryz.prog w = .ok (93, .int .i64 x) w := by kernel_rfl

theorem kindN_letter {c : UInt8} (h : Wd.isL c = true) : (c.toNat : Int) = (kindN c : Nat) + 97 := by
  have h1 : symV c = .iface 118 (.int .i64 ((c.toNat : Int) - 97)) := by unfold symV; rw [h]; rfl
  rw [(symV_letter h).1] at h1
  have h2 : (((kindN c : Nat) : Int)) = (c.toNat : Int) - 97 := by simpa using h1
  omega

theorem letterText_any (j : Nat) (h : j < 4) (w : World) :
    Calls Tryz.prog 93 #[.int .i64 (j : Int)] w fun e w' => e = .returned (.string ((⟨#[97, 98, 99, 100]⟩ : ByteArray).extract j (j + 1))) ∧ w = w' := by
  have hsl := slice_one ⟨#[97, 98, 99, 100]⟩ (k := j) (show j < 4 from h)
  go_enter Tryz.func93, Tryz.ntmps93
  go_wp2
  go_ret
  exact ⟨rfl, rfl⟩

theorem letterText_bytes {c : UInt8} (h : Wd.isL c = true) : ((⟨#[97, 98, 99, 100]⟩ : ByteArray).extract (kindN c) (kindN c + 1)).data.toList = [c] := by
  have h1 := kindN_letter h
  have h2 := (symV_letter h).2
  have hc : c = (97 + kindN c).toUInt8 := by
    rw [← UInt8.toNat_inj]
    rw [Nat.toUInt8, UInt8.toNat_ofNat']
    omega
  generalize hk : kindN c = k at *
  subst hc
  rcases (show k = 0 ∨ k = 1 ∨ k = 2 ∨ k = 3 by omega) with rfl | rfl | rfl | rfl <;> rfl

theorem SymBlk.kept {w w' : World} {base : Nat} {A : Option Addr} {s : ByteArray} {e : TypeId} {b : Nat} (h : SymBlk w base A s) (hk : Lib.OthersKept e (some b) w w') (hb : b < base) (he : 117 ≠ e) : SymBlk w' base A s := by
  intro h0
  obtain ⟨g, cur, hA, hbg, hg, hc⟩ := h h0
  refine ⟨g, cur, hA, hbg, hk g _ hg (by simp; omega) ?_, hc⟩
  intro c fz e1
  simp only [Obj.cells.injEq] at e1
  exact he e1.2.1

theorem cells_app (a : List UInt8) (t : ByteArray) : Lib.byteCells a ++ Lib.strCells t = Lib.byteCells (a ++ t.data.toList) := by rw [Lib.strCells_eq, Lib.byteCells_append]

set_option maxRecDepth 100000 in
set_option maxHeartbeats 800000 in
theorem textByM_any (s : ByteArray) (v : Value) (xs : List ByteArray) (B : Nat) (w : World) (hs : s.size ≤ 24) (hv : Wd.termB s.data.toList = true) (hr : Row w B v (xs.map Value.string)) (hB : B ≤ w.heap.size) (hx : ValsM 1000000 xs) :
    Calls Tryz.prog 73 #[.string s, v] w fun e w' => e = .returned (.string ⟨(putL s.data.toList xs).toArray⟩) ∧ Below w.heap.size w w' := by
  obtain ⟨A, c, rfl, hA⟩ := strRow_at hr
  have h4 : xs.length = 4 := hx.1
  obtain ⟨g, o, rfl, hg, hce⟩ := hA (by omega)
  rw [h4]
  have HCE := hidv hce
  have H4 := hidv h4
  have HX := hidv hx
  have HV := hidv hv
  clear hce h4 hx hA hr hv
  go_enter Tryz.func73, Tryz.ntmps73
  go_wp2_with fail
  obtain ⟨w0, hw0⟩ : ∃ w0, w0 = w.alloc (.cells #[.pointer none, .slice none 0 0] 127) := ⟨_, rfl⟩
  rw [← hw0]
  have hb0 : Below w.heap.size w w0 := by rw [hw0]; exact (Below.refl _ _).alloc (Nat.le_refl _) _
  have hz0 : w0.heap.size = w.heap.size + 1 := by rw [hw0]; simp
  have hk0 : w0.heap[w.heap.size]? = some (.cells #[.pointer none, .slice none 0 0] 127 (0, 0)) := by rw [hw0]; exact heap_alloc_new w _
  clear hw0
  refine (symbols_blk s w0 hs).mono ?_
  rintro e w1 ⟨A, c', rfl, hsym, hb1⟩
  have hbd1 : Lib.IsBuilder 127 5 w.heap.size w.heap.size (Lib.byteCells (putL (s.data.toList.take 0) xs)) w1 :=
    .inl ⟨Nat.le_refl _, .slice none 0 0, (hb1.block w.heap.size (by omega)).trans hk0, World.ownsRow_nil _ _ _ _, by simp [Value.ownBlock]⟩
  have hbb1 : Below w.heap.size w w1 := hb0.trans (hb1.mono (by omega))
  have HZ := hidv hz0
  have HS := hidv hsym
  have HD := hidv hbd1
  have HB1 := hidv hbb1
  clear hb0 hk0 hsym hb1 hbd1 hbb1 hz0
  go_wp2_with fail
  go_loopw [13] (fun i wr => ∃ k : Nat, k ≤ s.size ∧ i = .int .i64 k ∧ Hid (SymBlk wr w0.heap.size A s) ∧ Hid (Lib.IsBuilder 127 5 w.heap.size w.heap.size (Lib.byteCells (putL (s.data.toList.take k) xs)) wr) ∧ Hid (Below w.heap.size w wr)) (fun i _ => s.size - (intOf i).toNat)
  case atStart => exact ⟨0, Nat.zero_le _, rfl, HS, HD, HB1⟩
  case round =>
    obtain ⟨k, hk, rfl, hsy, hbl, hbw⟩ := hrel
    have hsw := hbw.out.size
    have hpl : (Lib.byteCells (putL (s.data.toList.take k) xs)).length ≤ 24000000 := by
      rw [Lib.byteCells_length]
      exact putL_uptoM hs HV.out HX.out k
    by_cases hlt : k < s.size
    · have HN := hidv (putL_next xs hlt)
      obtain ⟨gs, rfl, hbg, hcs⟩ := hsy.out.cell (by omega)
      have c2 := hcs k hlt
      clear hcs hbg
      rcases term_at HV.out k hlt with hl | ⟨hl, hu⟩
      · obtain ⟨he, hj⟩ := symV_letter hl
        rw [he] at c2
        have HSL := hidv (symTxt_letter xs hl)
        have HLB := hidv (letterText_bytes hl)
        obtain ⟨r, hr⟩ : ∃ r, (⟨#[97, 98, 99, 100]⟩ : ByteArray).extract (kindN s[k]) (kindN s[k] + 1) = r := ⟨_, rfl⟩
        have hlt' := fun wx => letterText_any (kindN s[k]) hj wx
        rw [hr] at HLB hlt'
        have hrs : r.size = 1 := by
          have := congrArg List.length HLB.out
          simpa using this
        have HLT := hidv hlt'
        clear hl he hr hlt' hj
        obtain ⟨j, hjn⟩ : ∃ j, kindN s[k] = j := ⟨_, rfl⟩
        rw [hjn] at c2 HLT
        clear hjn
        have ta := assertLL (j : Nat)
        have hmk := fun (wx : World) => method_textL (j : Int) wx
        go_wp2_with (first | (go_at_call 93; refine (HLT.out _).mono ?_; rintro e w' ⟨rfl, rfl⟩) | (go_at_call 90; refine (writeString_any _ _ _ _ _ hbl.out (by omega) (by omega)).mono ?_; rintro e w' ⟨rfl, hbl2, hbw2, hok2⟩))
        go_roundw
        case rel =>
          refine ⟨k + 1, by omega, by go_num, hidv (hsy.out.kept hok2 (by have := HZ.out; omega) (by decide)), hidv ?_, hidv (hbw.out.trans hbw2)⟩
          rw [HN.out, HSL.out, ← HLB.out, ← cells_app]
          exact .inr hbl2
        case measure => simp [intOf]; omega
      · obtain ⟨x, hx4, hxu, he, _⟩ := symV_unknown hl hu
        rw [he] at c2
        obtain ⟨hk4, hy0⟩ := HX.out.get x hx4
        have c1 : wr.cell? ⟨g, o + x, none⟩ = some (.string xs[x]) := by
          rw [hbw.out.cell (p := ⟨g, o + x, none⟩) (by show g < w.heap.size; omega)]
          exact HCE.out x (by have := H4.out; omega)
        have hsl := symTxt_unknown (xs := xs) hl hxu hk4
        obtain ⟨y, hy⟩ : ∃ y, xs[x] = y := ⟨_, rfl⟩
        rw [hy] at hsl c1 hy0
        have HSL := hidv hsl
        clear hsl hl hu hy hk4 he hxu
        have ta := assertUL (x : Nat)
        have tb := assertUU (x : Nat)
        go_wp2_with (first | (go_at_call 90; refine (writeString_any _ _ _ _ _ hbl.out (by omega) (by omega)).mono ?_; rintro e w' ⟨rfl, hbl2, hbw2, hok2⟩))
        go_roundw
        case rel =>
          refine ⟨k + 1, by omega, by go_num, hidv (hsy.out.kept hok2 (by have := HZ.out; omega) (by decide)), hidv ?_, hidv (hbw.out.trans hbw2)⟩
          rw [HN.out, HSL.out, ← cells_app]
          exact .inr hbl2
        case measure => simp [intOf]; omega
    · obtain rfl : k = s.size := by omega
      have he : putL (s.data.toList.take s.size) xs = putL s.data.toList xs := by rw [List.take_of_length_le (by simp)]
      rw [he] at hbl
      go_wp2_with (first | (go_at_call 92; refine (Tryz.Builder_String_any _ _ _ _ hbl.out hsw).mono ?_; rintro e w' ⟨rfl, hbw2⟩))
      go_ret
      exact ⟨rfl, hbw.out.trans hbw2⟩

theorem textBy_any (s : ByteArray) (v : Value) (xs : List ByteArray) (B : Nat) (w : World) (hs : s.size ≤ 24) (hv : Wd.termB s.data.toList = true) (hr : Row w B v (xs.map Value.string)) (hB : B ≤ w.heap.size) (hx : valsB xs = true) :
    Calls Tryz.prog 73 #[.string s, v] w fun e w' => e = .returned (.string ⟨(putL s.data.toList xs).toArray⟩) ∧ Below w.heap.size w w' := textByM_any s v xs B w hs hv hr hB (valsM_of hx)

theorem vals_sizes {xs : List ByteArray} (h : valsB xs = true) : ∀ s ∈ xs, s.size ≤ maxLen := by
  unfold valsB at h
  rw [Bool.and_eq_true, List.all_eq_true] at h
  intro s hs
  have := Wd.wordB_len (h.2 s hs)
  have e : s.data.toList.length = s.size := by simp
  unfold maxLen
  omega

end Go.Proofs.YtdnkdmmockoehaaGreat
