/-
  Whether a piece, and a family, is valid, in the program and in the model: contracts.
-/
import Derived.Test.YtdnkdmmockoehaaGreatWalkW
import Derived.Test.YtdnkdmmockoehaaGreatAb
import Derived.Test.YtdnkdmmockoehaaGreatFy
namespace Go.Proofs.YtdnkdmmockoehaaGreat
open Go.RowKit Go
set_option linter.unusedVariables false

def PcOk (p : Pc) : Prop := p.1.size ≠ 0 ∧ Wd.wordB p.1.data.toList = true ∧ (0 ≤ p.2.1 ∧ p.2.1 ≤ 60) ∧ (0 ≤ p.2.2 ∧ p.2.2 ≤ 3)
def FamOk (rs : List (List Pc)) : Prop := rs.length = 4 ∧ ∀ r ∈ rs, r.length ≤ 4 ∧ ∀ p ∈ r, PcOk p
theorem isEmptyB {x : ByteArray} : x.toList.isEmpty = decide (x.size = 0) := by
  rw [ByteArray.toList_eq]
  obtain ⟨⟨l⟩⟩ := x
  cases l <;> simp [ByteArray.size]
theorem row_one (w : World) (e : TypeId) (i : Int) : Row (w.alloc (.cells #[.int .i64 i] e)) (w.heap.size + 1) (.slice (some ⟨w.heap.size, 0, none⟩) 1 1) (ints [i]) := by
  refine ⟨_, 1, rfl, fun _ => ⟨w.heap.size, 0, rfl, by omega, fun n x hx => ?_⟩⟩
  have hb := Bx.new w e #[.int .i64 i]
  rcases n with _ | n
  · simp [ints] at hx; subst hx; exact hb.cell 0
  · simp [ints] at hx

theorem three_of {w : World} {g : Nat} {t : TypeId} {a b c : Value} (h : Bx w g t #[a, b, c]) : w.cell? ⟨g, 0, none⟩ = some a ∧ w.cell? ⟨g, 1, none⟩ = some b ∧ w.cell? ⟨g, 2, none⟩ = some c := ⟨h.cell 0, h.cell 1, h.cell 2⟩

set_option maxHeartbeats 400000 in
theorem isPiece_any (x : ByteArray) (f s : Int) (w : World) (hx : x.size ≤ maxLen) (d : Bool) (hd : d = true ↔ PcOk (x, f, s)) :
    Calls Tryz.prog 61 #[.agg #[.string x, .int .i64 f, .int .i64 s]] w fun e w' => e = .returned (.bool d) ∧ Below w.heap.size w w' := by
  have C1 := hidv (fun W => implValidWord_any x W hx)
  have HD := hidv hd
  have he := isEmptyB (x := x)
  by_cases h0 : x.size = 0
  · obtain rfl : d = false := iff_no hd (fun h => h.1 h0)
    rw [decide_eq_true h0] at he
    clear hd h0
    go_enter Tryz.func61, Tryz.ntmps61
    go_wp2
    go_ret
    exact ⟨rfl, (Below.refl _ _).alloc (Nat.le_refl _) _⟩
  rw [decide_eq_false h0] at he
  obtain ⟨b, hb⟩ : ∃ b, Wd.wordB x.data.toList = b := ⟨_, rfl⟩
  rw [hb] at C1
  cases b
  · obtain rfl : d = false := iff_no hd (fun h => by have := h.2.1; rw [hb] at this; cases this)
    clear hd h0 hb
    go_enter Tryz.func61, Tryz.ntmps61
    go_wp2_with fail
    refine (C1.out _).mono ?_
    rintro e w' ⟨rfl, rfl⟩
    go_wp2
    go_ret
    exact ⟨rfl, (Below.refl _ _).alloc (Nat.le_refl _) _⟩
  obtain ⟨d1, hd1⟩ := iffB (InN 61 [f])
  obtain ⟨d2, hd2⟩ := iffB (InN 4 [s])
  have i1 : InN 61 [f] ↔ (0 ≤ f ∧ f ≤ 60) := ⟨fun h => by have := h 0 (by simp); simp at this; omega, fun h j hj => by simp at hj; subst hj; show 0 ≤ f ∧ f < 61; omega⟩
  have i2 : InN 4 [s] ↔ (0 ≤ s ∧ s ≤ 3) := ⟨fun h => by have := h 0 (by simp); simp at this; omega, fun h j hj => by simp at hj; subst hj; show 0 ≤ s ∧ s < 4; omega⟩
  have C2 := hidv (fun v B W (hr : Row W B v (ints [f])) => areBelow_any v [f] B 61 W hr (by simp [maxLen]) d1 hd1)
  have C3 := hidv (fun v B W (hr : Row W B v (ints [s])) => areBelow_any v [s] B 4 W hr (by simp [maxLen]) d2 hd2)
  have hdd : d = (d1 && d2) := by
    rw [Bool.eq_iff_iff, hd, Bool.and_eq_true, hd1, hd2, i1, i2]
    exact ⟨fun h => h.2.2, fun h => ⟨h0, hb, h⟩⟩
  subst hdd
  clear HD hd h0 hb hd1 hd2 i1 i2
  have hb1 : Below w.heap.size w (w.alloc (.cells #[.string x, .int .i64 f, .int .i64 s] 88)) := (Below.refl _ _).alloc (Nat.le_refl _) _
  have hx1 := Bx.new w 88 #[.string x, .int .i64 f, .int .i64 s]
  cases d1
  · go_enter Tryz.func61, Tryz.ntmps61
    go_wp2_with fail
    obtain ⟨W, hW⟩ : ∃ W, w.alloc (.cells #[.string x, .int .i64 f, .int .i64 s] 88) = W := ⟨_, rfl⟩
    rw [hW] at hb1 hx1 ⊢
    clear hW
    refine (C1.out _).mono ?_
    rintro e w' ⟨rfl, rfl⟩
    obtain ⟨x0, x1, x2⟩ := three_of hx1
    go_wp2_with fail
    have hrow := row_one W 2 f
    have hb2 := below_al hb1 (.cells #[.int .i64 f] 2)
    obtain ⟨W2, hW2⟩ : ∃ W2, W.alloc (.cells #[.int .i64 f] 2) = W2 := ⟨_, rfl⟩
    rw [hW2] at hb2 hrow ⊢
    clear hW2
    refine (C2.out _ _ _ hrow).mono ?_
    rintro e w1 ⟨rfl, rfl⟩
    clear hrow x0 x1 x2
    go_wp2
    go_ret
    exact ⟨rfl, hb2⟩
  · go_enter Tryz.func61, Tryz.ntmps61
    go_wp2_with fail
    obtain ⟨W, hW⟩ : ∃ W, w.alloc (.cells #[.string x, .int .i64 f, .int .i64 s] 88) = W := ⟨_, rfl⟩
    rw [hW] at hb1 hx1 ⊢
    clear hW
    refine (C1.out _).mono ?_
    rintro e w' ⟨rfl, rfl⟩
    obtain ⟨x0, x1, x2⟩ := three_of hx1
    go_wp2_with fail
    have hrow := row_one W 2 f
    have hb2 := below_al hb1 (.cells #[.int .i64 f] 2)
    have hx2 := hx1.alloc (.cells #[.int .i64 f] 2)
    obtain ⟨W2, hW2⟩ : ∃ W2, W.alloc (.cells #[.int .i64 f] 2) = W2 := ⟨_, rfl⟩
    rw [hW2] at hb2 hrow hx2 ⊢
    clear hW2
    refine (C2.out _ _ _ hrow).mono ?_
    rintro e w1 ⟨rfl, rfl⟩
    clear hrow x0 x1 x2
    obtain ⟨x0, x1, x2⟩ := three_of hx2
    go_wp2_with fail
    have hrow := row_one w1 2 s
    have hb3 := below_al hb2 (.cells #[.int .i64 s] 2)
    obtain ⟨W3, hW3⟩ : ∃ W3, w1.alloc (.cells #[.int .i64 s] 2) = W3 := ⟨_, rfl⟩
    rw [hW3] at hb3 hrow ⊢
    clear hW3
    refine (C3.out _ _ _ hrow).mono ?_
    rintro e w1 ⟨rfl, rfl⟩
    clear hrow x0 x1 x2
    go_wp2
    go_ret
    exact ⟨by simp, hb3⟩

set_option maxHeartbeats 400000 in
theorem closV_any (x : ByteArray) (f s : Int) (w : World) (hx : x.size ≤ maxLen) (d : Bool) (hd : d = true ↔ PcOk (x, f, s)) :
    Calls Tryz.prog 60 #[.agg #[.string x, .int .i64 f, .int .i64 s]] w fun e w' => e = .returned (.bool (!d)) ∧ Below w.heap.size w w' := by
  have C1 := hidv (fun W => isPiece_any x f s W hx d hd)
  clear hd
  go_enter Tryz.func60, Tryz.ntmps60
  go_wp2_with fail
  refine (C1.out _).mono ?_
  rintro e w1 ⟨rfl, hb1⟩
  have HB := hidv (below_on ((Below.refl _ _).alloc (Nat.le_refl _) _) hb1)
  go_wp2_with fail
  go_ret
  exact ⟨rfl, HB.out⟩

set_option maxRecDepth 100000 in
set_option maxHeartbeats 800000 in
theorem indexV_any (v : Value) (L : List Pc) (B : Nat) (w : World) (hv : QRow w B v L) (hB : B ≤ w.heap.size) (hl : L.length ≤ 1048576) (hs : ∀ p ∈ L, p.1.size ≤ maxLen) :
    Calls Tryz.prog 80 #[v, .func (.func 60) #[] #[]] w fun e w' => ∃ i : Int, e = .returned (.int .i64 i) ∧ (0 ≤ i ↔ ∃ p ∈ L, ¬ PcOk p) ∧ -1 ≤ i ∧ i ≤ 1048576 ∧ Below w.heap.size w w' := by
  obtain ⟨A, c, rfl, hA⟩ := hv
  obtain ⟨n, hn⟩ : ∃ n, L.length = n := ⟨_, rfl⟩
  have HA := hidv hA
  have HS := hidv hs
  rw [hn] at hl ⊢
  have HN := hidv hn
  clear hA hs hn
  go_enter Tryz.func80, Tryz.ntmps80
  go_wp2
  go_loopw [8] (fun i wr => ∃ k : Nat, k ≤ n ∧ i = .int .i64 k ∧ Hid (∀ j (h : j < L.length), j < k → PcOk L[j]) ∧ Hid (Below w.heap.size w wr)) (fun i _ => n - (intOf i).toNat)
  case atStart => exact ⟨0, Nat.zero_le _, rfl, hidv (fun j h hj => by omega), hidv (Below.refl _ _)⟩
  case round =>
    obtain ⟨k, hk, rfl, hall, hbe⟩ := hrel
    by_cases hlt : k < n
    · have hkx : k < L.length := by have := HN.out; omega
      obtain ⟨g, o, rfl, hg, hce⟩ := HA.out (by omega)
      obtain ⟨e1, e2, e3⟩ := hce k hkx
      have c1 := (hbe.out.cell (p := ⟨g, o + k * 3, none⟩) (by show g < w.heap.size; omega)).trans e1
      have c2 := (hbe.out.cell (p := ⟨g, o + k * 3 + 1, none⟩) (by show g < w.heap.size; omega)).trans e2
      have c3 := (hbe.out.cell (p := ⟨g, o + k * 3 + 2, none⟩) (by show g < w.heap.size; omega)).trans e3
      have hmem := List.getElem_mem hkx
      have hsz := HS.out _ hmem
      obtain ⟨⟨x, f, s⟩, hyx⟩ : ∃ a, L[k] = a := ⟨_, rfl⟩
      rw [hyx] at c1 c2 c3 hmem hsz
      dsimp only at c1 c2 c3 hsz
      obtain ⟨d, hd⟩ := iffB (PcOk (x, f, s))
      have HC := hidv (closV_any x f s wr hsz d hd)
      have HQ := hidv hd
      have HME := hidv hmem
      have HYX := hidv hyx
      clear hd hyx hmem hsz e1 e2 e3 hce
      go_wp2_with fail
      refine HC.out.mono ?_
      rintro e w2 ⟨rfl, hb2⟩
      have HB2 := hidv (below_on hbe.out hb2)
      clear hb2
      cases d
      · have hno := hidv (fun h => absurd (HQ.out.mpr h) (by simp) : ¬ PcOk (x, f, s))
        go_wp2_with fail
        go_ret
        exact ⟨_, rfl, ⟨fun _ => ⟨_, HME.out, hno.out⟩, fun _ => by omega⟩, by omega, by omega, HB2.out⟩
      · have hall2 : ∀ j (h : j < L.length), j < k + 1 → PcOk L[j] := fun j h hj => by
          rcases Nat.lt_or_ge j k with h2 | h2
          · exact hall.out j h h2
          · obtain rfl : j = k := by omega
            rw [HYX.out]
            exact HQ.out.mp rfl
        have HALL := hidv hall2
        clear hall2
        go_wp2_with fail
        go_roundw
        case rel => exact ⟨k + 1, by omega, by go_num, HALL, HB2⟩
        case measure => simp [intOf]; omega
    · obtain rfl : k = n := by omega
      have hno : ¬ ∃ p ∈ L, ¬ PcOk p := fun ⟨p, hp, hq⟩ => by
        obtain ⟨j, hj, rfl⟩ := List.getElem_of_mem hp
        exact hq (hall.out j hj (by have := HN.out; omega))
      have HNO := hidv hno
      clear hno
      go_wp2
      go_ret
      exact ⟨_, rfl, ⟨fun h => by omega, fun h => absurd h HNO.out⟩, by omega, by omega, hbe.out⟩

theorem containsV_any (v : Value) (L : List Pc) (B : Nat) (w : World) (hv : QRow w B v L) (hB : B ≤ w.heap.size) (hl : L.length ≤ 1048576) (hs : ∀ p ∈ L, p.1.size ≤ maxLen) (d : Bool) (hd : d = true ↔ ∃ p ∈ L, ¬ PcOk p) :
    Calls Tryz.prog 59 #[v, .func (.func 60) #[] #[]] w fun e w' => e = .returned (.bool d) ∧ Below w.heap.size w w' := by
  have C := hidv (indexV_any v L B w hv hB hl hs)
  obtain ⟨A, c, rfl, hA⟩ := hv
  have HD := hidv hd
  clear hd hA hs
  go_enter Tryz.func59, Tryz.ntmps59
  go_wp2_with fail
  refine C.out.mono ?_
  rintro e w1 ⟨i, rfl, hi, i1, i2, hb1⟩
  have HI := hidv hi
  clear hi
  by_cases h : 0 ≤ i
  · obtain rfl : d = true := iff_yes HD.out (HI.out.mp h)
    go_wp2_with fail
    go_ret
    exact ⟨rfl, hb1⟩
  · obtain rfl : d = false := iff_no HD.out (fun hp => h (HI.out.mpr hp))
    go_wp2_with fail
    go_ret
    exact ⟨ret_bool (decide_eq_false (by omega)), hb1⟩

/-- What a list of pieces of a valid family is. -/
def RowOk (r : List Pc) : Prop := r.length ≤ 4 ∧ ∀ p ∈ r, PcOk p
theorem famOk_of {rs : List (List Pc)} (h4 : rs.length = 4) (h : ∀ j (hj : j < rs.length), RowOk rs[j]) : FamOk rs := ⟨h4, fun r hr => by
  obtain ⟨j, hj, rfl⟩ := List.getElem_of_mem hr
  exact h j hj⟩
theorem FamOk.at {rs : List (List Pc)} (h : FamOk rs) (j : Nat) (hj : j < rs.length) : RowOk rs[j] := h.2 _ (List.getElem_mem _)

set_option maxRecDepth 100000 in
set_option maxHeartbeats 800000 in
theorem implVF_any (v : Value) (rs : List (List Pc)) (B : Nat) (w : World) (hv : Fam w B v rs) (hB : B ≤ w.heap.size) (hz : FamSz rs) (hm : FamMax rs) (d : Bool) (hd : d = true ↔ FamOk rs) :
    Calls Tryz.prog 38 #[v] w fun e w' => e = .returned (.bool d) ∧ Below w.heap.size w w' := by
  obtain ⟨va, rfl, hr⟩ := hv
  obtain ⟨A, c, rfl, hA⟩ := hr.at
  have HA := hidv hA
  have HD := hidv hd
  have HZ := hidv hz
  have HM := hidv hm
  have hl := hm.1
  obtain ⟨n, hn⟩ : ∃ n, rs.length = n := ⟨_, rfl⟩
  rw [hn] at hl ⊢
  have HN := hidv hn
  have hbw : Below w.heap.size w (w.alloc (.cells #[.slice A n c] 34)) := (Below.refl _ _).alloc (Nat.le_refl _) _
  have hbx := (Bx.new w 34 #[.slice A n c])
  clear hA hd hz hm hr hn
  go_enter Tryz.func38, Tryz.ntmps38
  by_cases h4 : ¬ n = 4
  · obtain rfl : d = false := iff_no HD.out (fun h => h4 (HN.out.symm.trans h.1))
    have h5 : ((n : Int) != 4) = true := by rw [bne_iff_ne]; omega
    go_wp2
    go_ret
    exact ⟨rfl, hbw⟩
  obtain rfl : n = 4 := Decidable.not_not.mp h4
  clear h4
  have HBW := hidv hbw
  clear hbw
  go_wp2
  go_loopw [12] (fun i wr => ∃ k : Nat, k ≤ 4 ∧ i = .int .i64 k ∧ Hid (∀ j (h : j < rs.length), j < k → RowOk rs[j]) ∧ Hid (Below w.heap.size w wr)) (fun i _ => 4 - (intOf i).toNat)
  case atStart => exact ⟨0, by omega, rfl, hidv (fun j h hj => by omega), HBW⟩
  case round =>
    obtain ⟨k, hk, rfl, hall, hbe⟩ := hrel
    by_cases hlt : k < 4
    · have hkx : k < rs.length := by have := HN.out; omega
      obtain ⟨g, o, rfl, hg, hce⟩ := HA.out (by have := HN.out; omega)
      obtain ⟨a, cq, e0, r1⟩ := hce k hkx
      have e1 := (hbe.out.cell (p := ⟨g, o + k, none⟩) (by show g < w.heap.size; omega)).trans e0
      obtain ⟨d3, hd3⟩ := iffB (∃ p ∈ rs[k], ¬ PcOk p)
      have hsz := HZ.out.2 rs[k] (List.getElem_mem _)
      have hmx := HM.out.2 rs[k] (List.getElem_mem _)
      have hst := hidv (fun h => (HD.out.mp h).at k hkx : d = true → RowOk rs[k])
      have C3 := hidv (fun W (hW : Below w.heap.size w W) => containsV_any _ rs[k] B W (r1.below (hW.mono hB)) (Nat.le_trans hB hW.size) hmx hsz.2 d3 hd3)
      obtain ⟨r, hr⟩ : ∃ r, rs[k] = r := ⟨_, rfl⟩
      rw [hr] at e1 C3 hst hd3 hmx
      obtain ⟨l, hl2⟩ : ∃ l, r.length = l := ⟨_, rfl⟩
      rw [hl2] at e1 C3 hmx
      have HD3 := hidv hd3
      have HR := hidv hr
      have HL := hidv hl2
      clear hce e0 r1 hsz hd3 hr hl2
      by_cases hl4 : 4 < l
      · obtain rfl : d = false := by
          cases d
          · rfl
          · have := (hst.out rfl).1
            have := HL.out
            omega
        go_wp2
        go_ret
        exact ⟨rfl, hbe.out⟩
      · go_wp2_with fail
        refine (C3.out _ hbe.out).mono ?_
        rintro e w2 ⟨rfl, hb2⟩
        have HB2 := hidv (below_on hbe.out hb2)
        clear hb2
        cases d3
        · have hall2 : ∀ j (h : j < rs.length), j < k + 1 → RowOk rs[j] := fun j h hj => by
            rcases Nat.lt_or_ge j k with h2 | h2
            · exact hall.out j h h2
            · obtain rfl : j = k := by omega
              rw [HR.out]
              exact ⟨by have := HL.out; omega, fun p hp => Classical.byContradiction fun hno => absurd (HD3.out.mpr ⟨p, hp, hno⟩) (by simp)⟩
          have HALL := hidv hall2
          clear hall2
          go_wp2_with fail
          go_roundw
          case rel => exact ⟨k + 1, by omega, by go_num, HALL, HB2⟩
          case measure => simp [intOf]; omega
        · obtain rfl : d = false := by
            cases d
            · rfl
            · obtain ⟨p, hp, hno⟩ := HD3.out.mp rfl
              exact absurd ((hst.out rfl).2 p hp) hno
          go_wp2_with fail
          go_ret
          exact ⟨rfl, HB2.out⟩
    · obtain rfl : d = true := iff_yes HD.out (famOk_of HN.out (fun j h => hall.out j h (by have := HN.out; omega)))
      go_wp2
      go_ret
      exact ⟨rfl, hbe.out⟩

end Go.Proofs.YtdnkdmmockoehaaGreat
