/-
  HoldsApart: what the model looks for, and the program: contracts.
-/
import Derived.Test.YtjoleenehdfkkaaHoldsI
import Derived.Deep.QuietTactic
import Derived.BigQuiet
namespace Go.Proofs.Ytjoleenehdfkkaa
open Go.RowKit Go
set_option linter.unusedVariables false

/-- Both terms of each equation become different texts by values. -/
def apartB (es : List Eqn) (xs : List ByteArray) : Bool := es.all fun e => !(evenB xs e)
def apartV (es ys : List Eqn) (xs : List ByteArray) : Bool := if sysB es && sysB ys && valsB xs then holdsB es xs && apartB ys xs else false
def apartC (es ys : List Eqn) (xs : List ByteArray) : Int := if sysB es && sysB ys && valsB xs then 0 else 1

set_option maxRecDepth 100000 in
set_option maxHeartbeats 1600000 in
theorem goodApart_any (b : Nat) (v u : Value) (y : Value) (es ys : List Eqn) (xs : List ByteArray) (B C D : Nat) (w : World) (c0 : w.cell? ⟨b, 0, none⟩ = some v) (c1 : w.cell? ⟨b, 1, none⟩ = some y) (c3 : w.cell? ⟨b, 3, none⟩ = some (.bool false))
    (hv : ERow w B v es) (hy : ERow w D y ys) (h : sysB es = true) (h2 : sysB ys = true) (hr : Row w C u (xs.map Value.string)) (hx : valsB xs = true) (hB : B ≤ w.heap.size) (hC : C ≤ w.heap.size) (hD : D ≤ w.heap.size) :
    Calls Try.prog 23 #[.pointer (some ⟨b, 0, none⟩), u] w fun e w' => e = .returned (.bool (holdsB es xs && apartB ys xs)) ∧ Below w.heap.size w w' := by
  have hbl : b < w.heap.size := World.block_lt_of_cell? _ _ c0
  have C0 := hidv (specHolds_any v u es xs B C w hv h hr hx)
  obtain ⟨Av, cv, rfl, _⟩ := hv
  obtain ⟨A, c, rfl, hA⟩ := hy
  obtain ⟨n, hn⟩ : ∃ n, ys.length = n := ⟨_, rfl⟩
  have HA := hidv hA
  rw [hn] at c1
  have h4 : n ≤ 4 := by rw [← hn]; exact sysB_len h2
  have HN := hidv hn
  have HSB := hidv h2
  have HR := hidv hr
  have HX := hidv hx
  have HC1 := hidv c1
  have HC3 := hidv c3
  obtain ⟨q, hq⟩ : ∃ q, (holdsB es xs && apartB ys xs) = q := ⟨_, rfl⟩
  rw [hq]
  obtain ⟨d, hd⟩ : ∃ d, holdsB es xs = d := ⟨_, rfl⟩
  rw [hd] at C0 hq
  have HQ := hidv hq
  obtain ⟨m, hm⟩ : ∃ m, es.length = m := ⟨_, rfl⟩
  rw [hm] at c0 C0
  clear hA hn h hx hr hq hd hm c1 c3 h2
  go_enter Try.func23, Try.ntmps23
  go_wp2_with fail
  refine C0.out.mono ?_
  rintro e w1 ⟨rfl, hb1⟩
  have HB1 := hidv hb1
  clear hb1 c0
  cases d
  · obtain rfl : q = false := by have := HQ.out; simpa using this.symm
    go_wp2_with fail
    go_ret
    exact ⟨rfl, HB1.out⟩
  have HB : Hid (apartB ys xs = q) := hidv (by simpa using HQ.out)
  have y1 := (HB1.out.cell (p := ⟨b, 1, none⟩) hbl).trans HC1.out
  have y3 := (HB1.out.cell (p := ⟨b, 3, none⟩) hbl).trans HC3.out
  have HY1 := hidv y1
  have HY3 := hidv y3
  clear y1 y3
  go_wp2_with fail
  go_loopw [5] (fun i wr => ∃ k : Nat, k ≤ n ∧ i = .int .i64 k ∧ Hid ((ys.take k).all (fun e => !(evenB xs e)) = true) ∧ Hid (∃ m, wr = w1.drewN m)) (fun i _ => n - (intOf i).toNat)
  case atStart => exact ⟨0, Nat.zero_le _, rfl, hidv (by simp), hidv ⟨0, rfl⟩⟩
  case round =>
    obtain ⟨k, hk, rfl, hall, hw⟩ := hrel
    have HBe : Hid (Below w.heap.size w wr) := by
      obtain ⟨m, rfl⟩ := hw.out
      exact below_drewN HB1.out _
    have y1 : wr.cell? ⟨b, 1, none⟩ = some (.slice A n c) := by obtain ⟨m, rfl⟩ := hw.out; exact HY1.out
    have y3 : wr.cell? ⟨b, 3, none⟩ = some (.bool false) := by obtain ⟨m, rfl⟩ := hw.out; exact HY3.out
    by_cases hlt : k < n
    · have hkx : k < ys.length := by have := HN.out; omega
      obtain ⟨g, o, rfl, hg, hce⟩ := HA.out (by omega)
      have hc := hce k hkx
      have c1 : wr.cell? ⟨g, o + k * 2, none⟩ = some (.string ys[k].1) := (HBe.out.cell (p := ⟨g, _, none⟩) (by show g < _; omega)).trans hc.1
      have c2 : wr.cell? ⟨g, o + k * 2 + 1, none⟩ = some (.string ys[k].2) := (HBe.out.cell (p := ⟨g, _, none⟩) (by show g < _; omega)).trans hc.2
      have hrr : Row wr C u (xs.map Value.string) := HR.out.below (HBe.out.mono hC)
      have hsz := sysB_szAt HSB.out k hkx
      have htm := eqnB_terms (sysB_at HSB.out k hkx)
      have hsu := all_succG ys (fun e => !(evenB xs e)) k hkx
      have hfa := all_falseG ys (fun e => !(evenB xs e)) k hkx
      rw [hall.out, Bool.true_and] at hsu
      obtain ⟨⟨x, y⟩, hxy⟩ : ∃ x, ys[k] = x := ⟨_, rfl⟩
      rw [hxy] at c1 c2 hsz htm hsu hfa
      dsimp only at c1 c2 hsz htm
      have C1 := hidv (fun m => (specPut_any x u xs C (wr.drewN m) hsz.1 htm.1 (hrr.drewN m) HX.out).mono (R' := fun e w' => e = .returned (.string ⟨⟨putL x.data.toList xs⟩⟩) ∧ w' = wr.drewN m) fun e w' hh => ⟨hh.1, hh.2.symm⟩)
      have C2 := hidv (fun m => (specPut_any y u xs C (wr.drewN m) hsz.2 htm.2 (hrr.drewN m) HX.out).mono (R' := fun e w' => e = .returned (.string ⟨⟨putL y.data.toList xs⟩⟩) ∧ w' = wr.drewN m) fun e w' hh => ⟨hh.1, hh.2.symm⟩)
      have i1 : (0 : Int) ≤ (k : Int) := by omega
      have i2 : (k : Int) < (n : Int) := by omega
      by_cases hpq : putL x.data.toList xs = putL y.data.toList xs
      · have HFA := hidv (hfa (show (!(evenB xs (x, y))) = false from by rw [show evenB xs (x, y) = true from decide_eq_true hpq]; rfl))
        rw [hpq] at C1
        obtain ⟨p, hp⟩ : ∃ p : ByteArray, ⟨⟨putL y.data.toList xs⟩⟩ = p := ⟨_, rfl⟩
        rw [hp] at C1 C2
        clear hce hc hxy hsz htm hsu hfa hrr hpq hp
        go_wp2
        go_quiet (first | (with_reducible exact Calls.quiet_of_same (C1.out _)) | (with_reducible exact Calls.quiet_of_same (C2.out _)))
        go_wp2
        go_ret
        exact ⟨ret_bool (by rw [← HB.out]; exact HFA.out.symm), below_drewN HBe.out _⟩
      · have HSU := hidv (hsu.trans (show (!(evenB xs (x, y))) = true from by rw [show evenB xs (x, y) = false from decide_eq_false hpq]; rfl))
        have hne := ba_ne hpq
        obtain ⟨p, hp⟩ : ∃ p : ByteArray, ⟨⟨putL x.data.toList xs⟩⟩ = p := ⟨_, rfl⟩
        obtain ⟨r, hr⟩ : ∃ p : ByteArray, ⟨⟨putL y.data.toList xs⟩⟩ = p := ⟨_, rfl⟩
        rw [hp] at C1 hne
        rw [hr] at C2 hne
        have hb1 := toList_ne hne
        clear hce hc hxy hsz htm hsu hfa hrr hpq hp hr hne
        go_wp2
        go_quiet (first | (with_reducible exact Calls.quiet_of_same (C1.out _)) | (with_reducible exact Calls.quiet_of_same (C2.out _)))
        go_wp2
        go_roundw
        case rel => exact ⟨k + 1, by omega, by go_num, HSU, hidv (by obtain ⟨m, rfl⟩ := hw.out; exact ⟨_, World.drewN_drewN _ _ _⟩)⟩
        case measure => simp [intOf]; omega
    · go_wp2
      go_ret
      refine ⟨ret_bool ?_, HBe.out⟩
      have h2 := hall.out
      rw [List.take_of_length_le (by have := HN.out; omega)] at h2
      rw [← HB.out]
      exact h2.symm

theorem implHolds_any (v u : Value) (es : List Eqn) (xs : List ByteArray) (B C : Nat) (w : World) (hv : ERow w B v es) (hB : B ≤ w.heap.size) (hx : es.length ≤ 1048576) (hs : ∀ e ∈ es, e.1.size ≤ maxLen ∧ e.2.size ≤ maxLen) (hr : Row w C u (xs.map Value.string)) (hC : C ≤ w.heap.size) (hxl : xs.length ≤ 1048576) (hxs : ∀ s ∈ xs, s.size ≤ maxLen) :
    Calls Try.prog 27 #[v, u] w fun e w' => e = .returned (.tuple #[.bool (holdsV es xs), .int .i64 (holdsC es xs)]) ∧ Below w.heap.size w w' := by
  unfold holdsV holdsC
  cases h : (sysB es && valsB xs)
  · exact implHolds_bad v u es xs B C w hv hB hx hs hr hC hxl hxs h
  · rw [Bool.and_eq_true] at h
    exact implHolds_ok v u es xs B C w hv hB hx hs hr hC hxl hxs h.1 h.2

set_option maxRecDepth 100000 in
set_option maxHeartbeats 1600000 in
theorem specHoldsApart_any (v u y : Value) (es ys : List Eqn) (xs : List ByteArray) (B C D : Nat) (w : World) (hv : ERow w B v es) (hB : B ≤ w.heap.size) (hx : es.length ≤ 1048576) (hs : ∀ e ∈ es, e.1.size ≤ maxLen ∧ e.2.size ≤ maxLen) (hy : ERow w D y ys) (hD : D ≤ w.heap.size) (hyl : ys.length ≤ 1048576) (hys : ∀ e ∈ ys, e.1.size ≤ maxLen ∧ e.2.size ≤ maxLen)
    (hr : Row w C u (xs.map Value.string)) (hC : C ≤ w.heap.size) (hxl : xs.length ≤ 1048576) (hxs : ∀ s ∈ xs, s.size ≤ maxLen) :
    Calls Try.prog 16 #[v, y, u] w fun e w' => e = .returned (.tuple #[.bool (apartV es ys xs), .int .i64 (apartC es ys xs)]) ∧ Below w.heap.size w w' := by
  have C1 := hidv (specSys_any v es B w hv hB hx hs)
  have C2 := hidv (fun W (hb : Below w.heap.size w W) => specSys_any y ys D W (hy.below (hb.mono hD)) (Nat.le_trans hD hb.size) hyl hys)
  have C3 := hidv (fun W (hb : Below w.heap.size w W) => specVals_any u xs C W (hr.below (hb.mono hC)) hxl hxs)
  have C4 := hidv (fun (b : Nat) W (hb : Below w.heap.size w W) (c0 : W.cell? ⟨b, 0, none⟩ = some v) (c1 : W.cell? ⟨b, 1, none⟩ = some y) (c3 : W.cell? ⟨b, 3, none⟩ = some (.bool false)) (h1 : sysB es = true) (h2 : sysB ys = true) (h3 : valsB xs = true) =>
    goodApart_any b v u y es ys xs B C D W c0 c1 c3 (hv.below (hb.mono hB)) (hy.below (hb.mono hD)) h1 h2 (hr.below (hb.mono hC)) h3 (Nat.le_trans hB hb.size) (Nat.le_trans hC hb.size) (Nat.le_trans hD hb.size))
  obtain ⟨Av, cv, rfl, _⟩ := hv
  obtain ⟨Ay, cy, rfl, _⟩ := hy
  obtain ⟨a, ha⟩ : ∃ a, sysB es = a := ⟨_, rfl⟩
  obtain ⟨b, hb⟩ : ∃ a, sysB ys = a := ⟨_, rfl⟩
  obtain ⟨f, hf⟩ : ∃ b, valsB xs = b := ⟨_, rfl⟩
  obtain ⟨d, hd⟩ : ∃ d, (holdsB es xs && apartB ys xs) = d := ⟨_, rfl⟩
  obtain ⟨n, hn⟩ : ∃ n, es.length = n := ⟨_, rfl⟩
  obtain ⟨m, hm⟩ : ∃ n, ys.length = n := ⟨_, rfl⟩
  unfold apartV apartC
  rw [ha, hb, hf, hd, hn, hm]
  rw [ha, hn] at C1
  rw [hb, hm] at C2
  rw [hf] at C3
  rw [ha, hb, hf, hd, hn, hm] at C4
  clear ha hb hf hd hn hm hr hs hxs hys hx hyl hxl
  cases a
  · go_enter Try.func16, Try.ntmps16
    go_wp2_with fail
    refine C1.out.mono ?_
    rintro e w1 ⟨rfl, hb1⟩
    go_wp2_with fail
    go_ret2
    exact ⟨rfl, hb1⟩
  cases b
  · go_enter Try.func16, Try.ntmps16
    go_wp2_with fail
    refine C1.out.mono ?_
    rintro e w1 ⟨rfl, hb1⟩
    go_wp2_with fail
    refine (C2.out _ hb1).mono ?_
    rintro e w2 ⟨rfl, hb2⟩
    go_wp2_with fail
    go_ret2
    exact ⟨rfl, below_on hb1 hb2⟩
  cases f
  · go_enter Try.func16, Try.ntmps16
    go_wp2_with fail
    refine C1.out.mono ?_
    rintro e w1 ⟨rfl, hb1⟩
    go_wp2_with fail
    refine (C2.out _ hb1).mono ?_
    rintro e w2 ⟨rfl, hb2⟩
    have hbb := below_on hb1 hb2
    go_wp2_with fail
    refine (C3.out _ hbb).mono ?_
    rintro e w3 ⟨rfl, hw3⟩
    obtain rfl : w2 = w3 := hw3
    go_wp2_with fail
    go_ret2
    exact ⟨rfl, hbb⟩
  · go_enter Try.func16, Try.ntmps16
    go_wp2_with fail
    refine C1.out.mono ?_
    rintro e w1 ⟨rfl, hb1⟩
    go_wp2_with fail
    refine (C2.out _ hb1).mono ?_
    rintro e w2 ⟨rfl, hb2⟩
    have hbb := below_on hb1 hb2
    go_wp2_with fail
    refine (C3.out _ hbb).mono ?_
    rintro e w3 ⟨rfl, hw3⟩
    obtain rfl : w2 = w3 := hw3
    go_wp2_with fail
    have hbx := Bx.new w2 54 #[.slice Av n cv, .slice Ay m cy, .pointer none, .bool false, .slice none 0 0, .int .i64 0, .slice none 0 0, .bool false]
    refine (C4.out w2.heap.size _ (below_al hbb _) (hbx.cell 0) (hbx.cell 1) (hbx.cell 3) (by trivial) (by trivial) (by trivial)).mono ?_
    rintro e w4 ⟨rfl, hb4⟩
    have hbf := below_on (below_al hbb _) hb4
    go_wp2_with fail
    go_ret2
    exact ⟨rfl, hbf⟩

set_option maxRecDepth 100000 in
set_option maxHeartbeats 1600000 in
theorem implHoldsApart_any (v u y : Value) (es ys : List Eqn) (xs : List ByteArray) (B C D : Nat) (w : World) (hv : ERow w B v es) (hB : B ≤ w.heap.size) (hx : es.length ≤ 1048576) (hs : ∀ e ∈ es, e.1.size ≤ maxLen ∧ e.2.size ≤ maxLen) (hy : ERow w D y ys) (hD : D ≤ w.heap.size) (hyl : ys.length ≤ 1048576) (hys : ∀ e ∈ ys, e.1.size ≤ maxLen ∧ e.2.size ≤ maxLen)
    (hr : Row w C u (xs.map Value.string)) (hC : C ≤ w.heap.size) (hxl : xs.length ≤ 1048576) (hxs : ∀ s ∈ xs, s.size ≤ maxLen) :
    Calls Try.prog 17 #[v, y, u] w fun e w' => e = .returned (.tuple #[.bool (apartV es ys xs), .int .i64 (apartC es ys xs)]) ∧ Below w.heap.size w w' := by
  have C1 := hidv (implSys_any y ys D w hy hD hyl hys)
  have C2 := hidv (fun W (hb : Below w.heap.size w W) => implHolds_any v u es xs B C W (hv.below (hb.mono hB)) (Nat.le_trans hB hb.size) hx hs (hr.below (hb.mono hC)) (Nat.le_trans hC hb.size) hxl hxs)
  obtain ⟨Av, cv, rfl, _⟩ := hv
  obtain ⟨A, c, rfl, hA⟩ := hy
  obtain ⟨a, ha⟩ : ∃ a, sysB ys = a := ⟨_, rfl⟩
  obtain ⟨n, hn⟩ : ∃ n, ys.length = n := ⟨_, rfl⟩
  obtain ⟨m, hm⟩ : ∃ n, es.length = n := ⟨_, rfl⟩
  obtain ⟨P, hP⟩ : ∃ P, apartV es ys xs = P := ⟨_, rfl⟩
  obtain ⟨Q, hQ⟩ : ∃ Q, apartC es ys xs = Q := ⟨_, rfl⟩
  obtain ⟨p, hp⟩ : ∃ p, holdsV es xs = p := ⟨_, rfl⟩
  obtain ⟨q, hq⟩ : ∃ q, holdsC es xs = q := ⟨_, rfl⟩
  have HA := hidv hA
  have HP := hidv hP
  have HQ := hidv hQ
  have HPP := hidv hp
  have HQQ := hidv hq
  have HR := hidv hr
  have HAA := hidv ha
  rw [hn] at C1 ⊢
  rw [hm] at C2 ⊢
  rw [ha] at C1
  rw [hp, hq] at C2
  rw [hP, hQ]
  have HN := hidv hn
  clear hA hn hm hP hQ hp hq ha hr hs hxs hys
  cases a
  · obtain rfl : P = false := by rw [← HP.out]; unfold apartV; rw [HAA.out]; simp
    obtain rfl : Q = 1 := by rw [← HQ.out]; unfold apartC; rw [HAA.out]; simp
    go_enter Try.func17, Try.ntmps17
    go_wp2_with fail
    refine C1.out.mono ?_
    rintro e w1 ⟨rfl, hb1⟩
    go_wp2_with fail
    go_ret2
    exact ⟨rfl, hb1⟩
  go_enter Try.func17, Try.ntmps17
  go_wp2_with fail
  refine C1.out.mono ?_
  rintro e w0 ⟨rfl, hb0⟩
  go_wp2_with fail
  refine (C2.out _ hb0).mono ?_
  rintro e w1 ⟨rfl, hb1⟩
  have HB1 := hidv (below_on hb0 hb1)
  clear hb0 hb1
  cases p
  · obtain rfl : P = false := by
      rw [← HP.out]; unfold apartV
      have h := HPP.out
      unfold holdsV at h
      rw [HAA.out]
      cases h1 : sysB es <;> cases h2 : valsB xs <;> simp_all
    obtain rfl : Q = q := by rw [← HQ.out, ← HQQ.out]; unfold apartC holdsC; rw [HAA.out, Bool.and_true]
    go_wp2_with fail
    go_ret2
    exact ⟨rfl, HB1.out⟩
  have hgood : (sysB es = true ∧ valsB xs = true) ∧ holdsB es xs = true := by
    have h := HPP.out
    unfold holdsV at h
    cases h1 : sysB es <;> cases h2 : valsB xs <;> simp_all
  obtain rfl : Q = 0 := by rw [← HQ.out]; unfold apartC; rw [HAA.out, hgood.1.1, hgood.1.2]; rfl
  have HB : Hid (apartB ys xs = P) := hidv (by rw [← HP.out]; unfold apartV; rw [HAA.out, hgood.1.1, hgood.1.2, hgood.2]; simp)
  have h4 : n ≤ 4 := by rw [← HN.out]; exact sysB_len HAA.out
  have HX := hidv hgood.1.2
  have HSB := HAA
  clear hgood
  go_wp2_with fail
  go_loopw [26] (fun i wr => ∃ k : Nat, k ≤ n ∧ i = .int .i64 k ∧ Hid ((ys.take k).all (fun e => !(evenB xs e)) = true) ∧ Hid (Below w.heap.size w wr)) (fun i _ => n - (intOf i).toNat)
  case atStart => exact ⟨0, Nat.zero_le _, rfl, hidv (by simp), HB1⟩
  case round =>
    obtain ⟨k, hk, rfl, hall, hbe⟩ := hrel
    by_cases hlt : k < n
    · have hkx : k < ys.length := by have := HN.out; omega
      obtain ⟨g, o, rfl, hg, hce⟩ := HA.out (by omega)
      have c1 : wr.cell? ⟨g, o + k * 2, none⟩ = some (.string ys[k].1) := (hbe.out.cell (p := ⟨g, _, none⟩) (by show g < _; omega)).trans (hce k hkx).1
      have c2 : wr.cell? ⟨g, o + k * 2 + 1, none⟩ = some (.string ys[k].2) := (hbe.out.cell (p := ⟨g, _, none⟩) (by show g < _; omega)).trans (hce k hkx).2
      have hsz := sysB_szAt HSB.out k hkx
      have htm := eqnB_terms (sysB_at HSB.out k hkx)
      have hsu := all_succG ys (fun e => !(evenB xs e)) k hkx
      have hfa := all_falseG ys (fun e => !(evenB xs e)) k hkx
      rw [hall.out, Bool.true_and] at hsu
      obtain ⟨⟨x, y⟩, hxy⟩ : ∃ x, ys[k] = x := ⟨_, rfl⟩
      rw [hxy] at c1 c2 hsz htm hsu hfa
      dsimp only at c1 c2 hsz htm
      obtain ⟨W0, hW0⟩ : ∃ W0, wr.alloc (.cells #[.string x, .string y] 55) = W0 := ⟨_, rfl⟩
      have hbx : Bx W0 wr.heap.size 55 #[.string x, .string y] := by rw [← hW0]; exact Bx.new _ _ _
      have hb0 : Below w.heap.size w W0 := by rw [← hW0]; exact below_al hbe.out _
      have C3 := hidv (fun W (hb : Below w.heap.size w W) => textBy_any x u xs C W hsz.1 htm.1 (HR.out.below (hb.mono hC)) (by have := hb.size; omega) HX.out)
      have C4 := hidv (fun W (hb : Below w.heap.size w W) => textBy_any y u xs C W hsz.2 htm.2 (HR.out.below (hb.mono hC)) (by have := hb.size; omega) HX.out)
      have HS := hidv (fun w' (hw : Below W0.heap.size W0 w') => (show w'.cell? ⟨wr.heap.size, 0, none⟩ = some (.string x) ∧ w'.cell? ⟨wr.heap.size, 1, none⟩ = some (.string y) ∧ Below w.heap.size w w' ∧ Below W0.heap.size W0 w' from
        ⟨(hbx.below hw).two.1, (hbx.below hw).two.2, below_on hb0 hw, hw⟩))
      have HK := hidv (fun w' (hw : Below W0.heap.size W0 w') => below_on hb0 hw)
      by_cases hpq : putL x.data.toList xs = putL y.data.toList xs
      · have HFA := hidv (hfa (show (!(evenB xs (x, y))) = false from by rw [show evenB xs (x, y) = true from decide_eq_true hpq]; rfl))
        rw [hpq] at C3
        obtain ⟨p, hp⟩ : ∃ p : ByteArray, ⟨⟨putL y.data.toList xs⟩⟩ = p := ⟨_, rfl⟩
        rw [hp] at C3 C4
        clear hce hxy hsz htm hsu hfa hpq hp hbx hb0
        go_wp2_with fail
        clear hW0
        go_region_held3 (fun w' => w'.cell? ⟨wr.heap.size, 0, none⟩ = some (.string x) ∧ w'.cell? ⟨wr.heap.size, 1, none⟩ = some (.string y) ∧ Below w.heap.size w w' ∧ Below W0.heap.size W0 w') (first | exact HS.out _ (below_dr _) | exact HS.out _ (by assumption)) (first | (go_at_call 35; (first | with_reducible refine (C3.out _ ?_).mono ?_ | with_reducible refine (C4.out _ ?_).mono ?_); exact HK.out _ (by first | assumption | exact below_dr _); rintro e w3 ⟨rfl, hbw⟩; replace hbw := below_on (show Below W0.heap.size W0 _ from by first | assumption | exact below_dr _) hbw))
        go_wp2
        have HBE := hidv (HK.out _ hbw)
        go_ret2
        exact ⟨ret_boolint (by rw [← HB.out]; exact HFA.out.symm) rfl, HBE.out⟩
      · have HSU := hidv (hsu.trans (show (!(evenB xs (x, y))) = true from by rw [show evenB xs (x, y) = false from decide_eq_false hpq]; rfl))
        have hne := ba_ne hpq
        obtain ⟨p, hp⟩ : ∃ p : ByteArray, ⟨⟨putL x.data.toList xs⟩⟩ = p := ⟨_, rfl⟩
        obtain ⟨q, hq⟩ : ∃ p : ByteArray, ⟨⟨putL y.data.toList xs⟩⟩ = p := ⟨_, rfl⟩
        rw [hp] at C3 hne
        rw [hq] at C4 hne
        have hb1 := toList_ne hne
        clear hce hxy hsz htm hsu hfa hpq hp hq hne hbx hb0
        go_wp2_with fail
        clear hW0
        go_region_held3 (fun w' => w'.cell? ⟨wr.heap.size, 0, none⟩ = some (.string x) ∧ w'.cell? ⟨wr.heap.size, 1, none⟩ = some (.string y) ∧ Below w.heap.size w w' ∧ Below W0.heap.size W0 w') (first | exact HS.out _ (below_dr _) | exact HS.out _ (by assumption)) (first | (go_at_call 35; (first | with_reducible refine (C3.out _ ?_).mono ?_ | with_reducible refine (C4.out _ ?_).mono ?_); exact HK.out _ (by first | assumption | exact below_dr _); rintro e w3 ⟨rfl, hbw⟩; replace hbw := below_on (show Below W0.heap.size W0 _ from by first | assumption | exact below_dr _) hbw))
        go_wp2
        have HBE := hidv (HK.out _ hbw)
        go_roundw
        case rel => exact ⟨k + 1, by omega, by go_num, HSU, HBE⟩
        case measure => simp [intOf]; omega
    · go_wp2
      go_ret2
      refine ⟨ret_boolint ?_ rfl, hbe.out⟩
      have h2 := hall.out
      rw [List.take_of_length_le (by have := HN.out; omega)] at h2
      rw [← HB.out]
      exact h2.symm

theorem apart_both (es ys : List Eqn) (xs : List ByteArray) (hx : es.length ≤ 1048576) (hs : ∀ e ∈ es, e.1.size ≤ maxLen ∧ e.2.size ≤ maxLen) (hyl : ys.length ≤ 1048576) (hys : ∀ e ∈ ys, e.1.size ≤ maxLen ∧ e.2.size ≤ maxLen) (hxl : xs.length ≤ 1048576) (hxs : ∀ s ∈ xs, s.size ≤ maxLen) : ∃ (b : Bool) (c : Int),
    (∀ v y u B D C w, ERow w B v es → B ≤ w.heap.size → ERow w D y ys → D ≤ w.heap.size → Row w C u (xs.map Value.string) → C ≤ w.heap.size → Calls Try.prog 17 #[v, y, u] w fun e w' => e = .returned (.tuple #[.bool b, .int .i64 c]) ∧ Below w.heap.size w w') ∧
    ∀ v y u B D C w, ERow w B v es → B ≤ w.heap.size → ERow w D y ys → D ≤ w.heap.size → Row w C u (xs.map Value.string) → C ≤ w.heap.size → Calls Try.prog 16 #[v, y, u] w fun e w' => e = .returned (.tuple #[.bool b, .int .i64 c]) ∧ Below w.heap.size w w' :=
  ⟨apartV es ys xs, apartC es ys xs, fun v y u B D C w hv hB hy hD hr hC => implHoldsApart_any v u y es ys xs B C D w hv hB hx hs hy hD hyl hys hr hC hxl hxs,
    fun v y u B D C w hv hB hy hD hr hC => specHoldsApart_any v u y es ys xs B C D w hv hB hx hs hy hD hyl hys hr hC hxl hxs⟩

end Go.Proofs.Ytjoleenehdfkkaa
