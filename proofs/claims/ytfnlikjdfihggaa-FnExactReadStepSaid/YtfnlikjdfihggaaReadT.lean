/-
  Reading a step: walks, of the program and of the model.
-/
import Derived.Test.YtfnlikjdfihggaaRdS
import Derived.Deep.RegionHeld3
import Derived.Deep.QuietTactic
import Derived.BigQuiet
namespace Go.Proofs.Ytfnlikjdfihggaa
open Go.RowKit Go
set_option linter.unusedVariables false

/-- The library's own variable holds a number (a fact of every world that the row speaks of). -/
def ML (w : World) : Prop := ∃ m, w.cell? ⟨0, 0, none⟩ = some (.int .i64 m)
theorem ML.below {w w' : World} (h : ML w) (hb : Below w.heap.size w w') : ML w' := by
  obtain ⟨m, hm⟩ := h
  exact ⟨m, (hb.cell (p := ⟨_, 0, none⟩) (World.block_lt_of_cell? _ _ hm)).trans hm⟩

def rdV (t : ByteArray) : Value := match rdS t.data.toList with
  | some (x, r) => .tuple #[.agg #[.int .i64 x, .string ⟨⟨r⟩⟩], .int .i64 0]
  | none => .tuple #[.agg #[.int .i64 0, .string ⟨#[]⟩], .int .i64 5]
theorem rdV_some {t : ByteArray} {x : Int} {r : List UInt8} (h : rdS t.data.toList = some (x, r)) : rdV t = .tuple #[.agg #[.int .i64 x, .string ⟨⟨r⟩⟩], .int .i64 0] := by
  unfold rdV; rw [h]
theorem rdV_none {t : ByteArray} (h : rdS t.data.toList = none) : rdV t = .tuple #[.agg #[.int .i64 0, .string ⟨#[]⟩], .int .i64 5] := by
  unfold rdV; rw [h]
theorem stepT_list (x : Int) (y : ByteArray) : (stepT x y).data.toList = stepTL x y.data.toList := by
  unfold stepT stepTL
  split
  · rw [ByteArray.data_append, ByteArray.data_append, Array.toList_append, Array.toList_append]; rfl
  · rfl

theorem cutEq_any (t : ByteArray) (w : World) (ht : t.size ≤ 1048576) (ml : ML w) :
    Calls Try.prog 44 #[.string t, .string ⟨#[61]⟩] w fun e w' => e = .returned (.tuple #[.string ⟨⟨(Lib.cut t.data.toList [61]).1⟩⟩, .string ⟨⟨(Lib.cut t.data.toList [61]).2.1⟩⟩, .bool (Lib.cut t.data.toList [61]).2.2]) ∧ Below w.heap.size w w' := by
  obtain ⟨m, hm⟩ := ml
  refine (Try.strings_Cut t ⟨#[61]⟩ m w (by omega) hm).mono ?_
  rintro e w' ⟨rfl, n, rfl⟩
  exact ⟨rfl, below_drewN (Below.refl _ _) _⟩
theorem idxU_any (a : ByteArray) (w : World) (ml : ML w) :
    Calls Try.prog 45 #[.string ⟨#[88, 89, 90, 87]⟩, .string a] w fun e w' => e = .returned (.int .i64 (Lib.index [88, 89, 90, 87] a.data.toList)) ∧ w' = w := by
  obtain ⟨m, hm⟩ := ml
  exact Try.strings_Index ⟨#[88, 89, 90, 87]⟩ a m w (by decide) hm

set_option maxHeartbeats 800000 in
theorem implReadStep_any (t : ByteArray) (w : World) (ht : t.size ≤ 1048576) (ml : ML w) :
    Calls Try.prog 21 #[.string t] w fun e w' => e = .returned (rdV t) ∧ Below w.heap.size w w' := by
  have hre := read_eq t.data.toList
  have hcl := cut_len t.data.toList
  have C1 := hidv (fun W hW => cutEq_any t W ht hW)
  obtain ⟨a, ha⟩ : ∃ a : ByteArray, ⟨⟨(Lib.cut t.data.toList [61]).1⟩⟩ = a := ⟨_, rfl⟩
  obtain ⟨b, hb⟩ : ∃ a : ByteArray, ⟨⟨(Lib.cut t.data.toList [61]).2.1⟩⟩ = a := ⟨_, rfl⟩
  obtain ⟨f, hf⟩ : ∃ f, (Lib.cut t.data.toList [61]).2.2 = f := ⟨_, rfl⟩
  have hal : (Lib.cut t.data.toList [61]).1 = a.data.toList := by rw [← ha]
  have hbl : (Lib.cut t.data.toList [61]).2.1 = b.data.toList := by rw [← hb]
  rw [ha, hb, hf] at C1
  rw [hal, hbl] at hre
  rw [hbl] at hcl
  have hbs : b.size ≤ 1048576 := by
    have h1 : b.data.toList.length = b.size := by simp
    have h2 : t.data.toList.length = t.size := by simp
    omega
  clear hal hbl ha hb hf hcl
  have c2 := fun W hW => idxU_any a W hW
  obtain ⟨i, hi⟩ : ∃ i, Lib.index [88, 89, 90, 87] a.data.toList = i := ⟨_, rfl⟩
  rw [hi] at c2 hre
  have c3 := fun W => implStepText_any i b W hbs
  obtain ⟨T, hT⟩ : ∃ T, stepT i b = T := ⟨_, rfl⟩
  have hTl : stepTL i b.data.toList = T.data.toList := by rw [← hT, stepT_list]
  rw [hT] at c3
  rw [hTl] at hre
  have C2 := hidv c2
  have C3 := hidv c3
  clear c2 c3 hT hTl hi
  have hcond : (T.data.toList = t.data.toList) ↔ (T.toList == t.toList) = true := by rw [ByteArray.toList_eq, ByteArray.toList_eq, beq_iff_eq]
  obtain ⟨v, hv⟩ : ∃ v, rdV t = v := ⟨_, rfl⟩
  have hres : ((T.toList == t.toList) = true → v = .tuple #[.agg #[.int .i64 i, .string b], .int .i64 0]) ∧ ((T.toList == t.toList) = false → v = .tuple #[.agg #[.int .i64 0, .string ⟨#[]⟩], .int .i64 5]) := by
    refine ⟨fun h => ?_, fun h => ?_⟩
    · rw [if_pos (hcond.2 h)] at hre
      rw [← hv, rdV_some hre]
    · rw [if_neg (fun e => by rw [hcond.1 e] at h; cases h)] at hre
      rw [← hv, rdV_none hre]
  rw [hv]
  have HR := hidv hres
  clear hres hv hre hcond
  go_enter Try.func21, Try.ntmps21
  go_wp2_with fail
  obtain ⟨w0, hw0⟩ : ∃ w0, w0 = w.alloc (.cells #[.int .i64 0, .string ⟨#[]⟩] 37) := ⟨_, rfl⟩
  rw [← hw0]
  have hX := (show Bx w0 w.heap.size 37 #[.int .i64 0, .string ⟨#[]⟩] by rw [hw0]; exact Bx.new _ _ _)
  have HB0 := hidv (show Below w.heap.size w w0 by rw [hw0]; exact (Below.refl _ _).alloc (Nat.le_refl _) _)
  clear hw0
  refine (C1.out _ (ml.below HB0.out)).mono ?_
  rintro e w1 ⟨rfl, hb1⟩
  have HB1 := hidv (below_on HB0.out hb1)
  have HX1 := hidv (hX.below hb1)
  clear hb1 hX
  go_wp2_with fail
  refine (C2.out _ (ml.below HB1.out)).mono ?_
  rintro e w2 ⟨rfl, rfl⟩
  go_wp2_with fail
  refine (C3.out _).mono ?_
  rintro e w3 ⟨rfl, hb3⟩
  have hS := (Bx.new w2 37 #[.int .i64 i, .string b]).below hb3
  have hX := (HX1.out.alloc (.cells #[.int .i64 i, .string b] 37)).below hb3
  have HB3 := hidv (below_on (below_al HB1.out (.cells #[.int .i64 i, .string b] 37)) hb3)
  obtain ⟨s0, s1⟩ := hS.two
  obtain ⟨x0, x1⟩ := hX.two
  have z0 := hX.frozen 0
  have z1 := hX.frozen 1
  have E0 := hidv (((hX.set 0 (.int .i64 i)).set 1 (.string b)).cell 0)
  have E1 := hidv (((hX.set 0 (.int .i64 i)).set 1 (.string b)).cell 1)
  have F0 := hidv (((hX.set 0 (.int .i64 0)).set 1 (.string ⟨#[]⟩)).cell 0)
  have F1 := hidv (((hX.set 0 (.int .i64 0)).set 1 (.string ⟨#[]⟩)).cell 1)
  clear hS hX hb3
  cases hq : (T.toList == t.toList)
  · obtain rfl := HR.out.2 hq
    go_wp2_with fail
    refine bodyPost_ret (v := .tuple #[.agg #[.int .i64 0, .string ⟨#[]⟩], .int .i64 5]) ?_ rfl ⟨rfl, ?_⟩
    · simp [results, Try.results21, go_sem, F0.out, F1.out]
    · exact (HB3.out.setCell (Nat.le_refl _) _).setCell (Nat.le_refl _) _
  · obtain rfl := HR.out.1 hq
    go_wp2_with fail
    refine bodyPost_ret (v := .tuple #[.agg #[.int .i64 i, .string b], .int .i64 0]) ?_ rfl ⟨rfl, ?_⟩
    · simp [results, Try.results21, go_sem, E0.out, E1.out]
    · exact (HB3.out.setCell (Nat.le_refl _) _).setCell (Nat.le_refl _) _

/-- The value without the boxes. -/
def rdA (t : ByteArray) : Value := rdV t
theorem rdV_form (t : ByteArray) : ∃ (x : Int) (y : ByteArray) (c : Int), rdV t = .tuple #[.agg #[.int .i64 x, .string y], .int .i64 c] := by
  cases h : rdS t.data.toList with
  | none => exact ⟨_, _, _, rdV_none h⟩
  | some p => exact ⟨_, _, _, rdV_some (x := p.1) (r := p.2) h⟩

set_option maxHeartbeats 1600000 in
theorem specReadStep_any (t : ByteArray) (w : World) (ht : t.size ≤ 1048576) :
    Calls Try.prog 20 #[.string t] w fun e w' => e = .returned (rdV t) ∧ Below w.heap.size w w' := by
  have hlen : t.data.toList.length = t.size := by simp
  by_cases hsz : 2 ≤ t.size ∧ t.size ≤ 4
  · obtain ⟨h2, h4⟩ := hsz
    have hp0 : 0 < t.size := by omega
    have hp1 : 1 < t.size := by omega
    have i1 : (1 : Int) < (t.size : Int) := by omega
    have hds : t.data.toList = t[0] :: t[1] :: (t.extract 2 t.size).data.toList := by
      match hs : t.data.toList, hlen with
      | [], h => simp at h; omega
      | [_], h => simp at h; omega
      | a :: b :: r, _ =>
        have := lu_ba hs
        subst this
        have hsz : (⟨⟨a :: b :: r⟩⟩ : ByteArray).size = r.length + 2 := rfl
        rw [Lib.extract_data, hsz, Nat.add_sub_cancel]
        show a :: b :: r = a :: b :: r.take r.length
        rw [List.take_length]
    have hrs : (t.extract 2 t.size).size ≤ maxLen := by rw [ByteArray.size_extract]; unfold maxLen; omega
    obtain ⟨r, hr⟩ : ∃ r, t.extract 2 t.size = r := ⟨_, rfl⟩
    rw [hr] at hds hrs
    have hrd : rdS t.data.toList = if t[1] = 61 ∧ Wd.isU t[0] = true ∧ stepB (Wd.unkI t[0]) r.data.toList = true then some (Wd.unkI t[0], r.data.toList) else none := by rw [hds]; rfl
    obtain ⟨q, hq⟩ : ∃ q, Wd.unkI t[0] = q := ⟨_, rfl⟩
    have cU : ∀ W, Calls Try.prog 43 #[.int .u8 (t[0].toNat : Int)] W fun e w' => e = .returned (.int .i64 q) ∧ w' = W := fun W => (unknown_any t[0] W).mono fun e w' ⟨h1, h2⟩ => ⟨by rw [h1, hq], h2.symm⟩
    have cS := fun W => specStep_any q r W hrs
    obtain ⟨sb, hsb⟩ : ∃ b, stepB q r.data.toList = b := ⟨_, rfl⟩
    rw [hsb] at cS
    have hqU : decide (q < 0) = !Wd.isU t[0] := by rw [← hq]; exact unkI_isU
    rw [hq, hsb] at hrd
    have CU := hidv cU
    have CS := hidv cS
    obtain ⟨v, hv⟩ : ∃ v, rdV t = v := ⟨_, rfl⟩
    have hbr : (⟨⟨r.data.toList⟩⟩ : ByteArray) = r := rfl
    have hyes : t[1] = 61 → ¬ q < 0 → sb = true → v = .tuple #[.agg #[.int .i64 q, .string r], .int .i64 0] := fun h1 h2 h3 => by
      rw [← hv, rdV_some (x := q) (r := r.data.toList) (by
        rw [hrd, if_pos]
        refine ⟨h1, ?_, h3⟩
        rw [decide_eq_false h2] at hqU
        cases hh : Wd.isU t[0]
        · rw [hh] at hqU; cases hqU
        · rfl)]
    have hno : (t[1] ≠ 61 ∨ q < 0 ∨ sb = false) → v = .tuple #[.agg #[.int .i64 0, .string ⟨#[]⟩], .int .i64 5] := fun h => by
      rw [← hv, rdV_none (by
        rw [hrd, if_neg]
        rintro ⟨h1, h2, h3⟩
        rcases h with h | h | h
        · exact h h1
        · rw [decide_eq_true h, h2] at hqU; cases hqU
        · rw [h] at h3; cases h3)]
    rw [hv]
    have HY := hidv hyes
    have HN := hidv hno
    have hc1 : (t[1] = 61) ↔ ((t[1].toNat : Int) == 61) = true := by rw [beq_iff_eq, ← UInt8.toNat_inj]; simp; omega
    clear hyes hno hv hrd hds cU cS hqU hq hsb hbr hlen
    by_cases hE : t[1] = 61
    · have hEb : ((t[1].toNat : Int) != 61) = false := by rw [bne, hc1.1 hE]; rfl
      by_cases hQ : q < 0
      · obtain rfl := HN.out (.inr (.inl hQ))
        go_enter Try.func20, Try.ntmps20
        go_wp2_with fail
        refine (CU.out _).mono ?_
        rintro e w' ⟨rfl, rfl⟩
        go_wp2_with fail
        refine bodyPost_ret (v := .tuple #[.agg #[.int .i64 0, .string ⟨#[]⟩], .int .i64 5]) ?_ rfl ⟨rfl, ?_⟩
        · simp [results, Try.results20, go_sem]
        · exact (Below.refl _ _).alloc (Nat.le_refl _) _
      · go_enter Try.func20, Try.ntmps20
        go_wp2_with fail
        refine (CU.out _).mono ?_
        rintro e w' ⟨rfl, rfl⟩
        go_wp2_with fail
        have i2 : (2 : Int) ≤ (t.size : Int) := by omega
        have i0 : (0 : Int) < (t.size : Int) := by omega
        obtain ⟨w0, hw0⟩ : ∃ w0, w0 = w.alloc (.cells #[.int .i64 0, .string ⟨#[]⟩] 37) := ⟨_, rfl⟩
        rw [← hw0]
        have HX := hidv (show Bx w0 w.heap.size 37 #[.int .i64 0, .string ⟨#[]⟩] by rw [hw0]; exact Bx.new _ _ _)
        have HB0 := hidv (show Below w.heap.size w w0 by rw [hw0]; exact (Below.refl _ _).alloc (Nat.le_refl _) _)
        clear hw0
        go_region_held3 (fun w' => Below w0.heap.size w0 w') (repeat (first | assumption | exact Below.refl _ _ | refine Below.drew ?_ | refine below_al ?_ _)) (first | (go_at_call 43; refine (CU.out _).mono ?_; rintro e w' ⟨rfl, rfl⟩))
        all_goals
          go_wp2_with fail
          refine (CS.out _).mono ?_
          rintro e w3 ⟨rfl, hb3⟩
          replace hb3 := below_on (below_dr (w0.alloc (.cells #[.int .i64 q, .string r] 37))) hb3
          have hS := (Bx.new w0 37 #[.int .i64 q, .string r]).below (w' := w3) hb3
          have hX := (HX.out.alloc (.cells #[.int .i64 q, .string r] 37)).below (w' := w3) hb3
          have HB3 := hidv (below_on (below_al HB0.out (.cells #[.int .i64 q, .string r] 37)) (w' := w3) hb3)
          obtain ⟨s0, s1⟩ := hS.two
          obtain ⟨x0, x1⟩ := hX.two
          have z0 := hX.frozen 0
          have z1 := hX.frozen 1
          have E0 := hidv (((hX.set 0 (.int .i64 q)).set 1 (.string r)).cell 0)
          have E1 := hidv (((hX.set 0 (.int .i64 q)).set 1 (.string r)).cell 1)
          have F0 := hidv (((hX.set 0 (.int .i64 0)).set 1 (.string ⟨#[]⟩)).cell 0)
          have F1 := hidv (((hX.set 0 (.int .i64 0)).set 1 (.string ⟨#[]⟩)).cell 1)
          clear hS hX hb3
          cases sb
          · obtain rfl := HN.out (.inr (.inr rfl))
            go_wp2_with fail
            refine bodyPost_ret (v := .tuple #[.agg #[.int .i64 0, .string ⟨#[]⟩], .int .i64 5]) ?_ rfl ⟨rfl, ?_⟩
            · simp [results, Try.results20, go_sem, F0.out, F1.out]
            · exact (HB3.out.setCell (Nat.le_refl _) _).setCell (Nat.le_refl _) _
          · obtain rfl := HY.out hE hQ rfl
            go_wp2_with fail
            refine bodyPost_ret (v := .tuple #[.agg #[.int .i64 q, .string r], .int .i64 0]) ?_ rfl ⟨rfl, ?_⟩
            · simp [results, Try.results20, go_sem, E0.out, E1.out]
            · exact (HB3.out.setCell (Nat.le_refl _) _).setCell (Nat.le_refl _) _
    · obtain rfl := HN.out (.inl hE)
      have hEb : ((t[1].toNat : Int) != 61) = true := by
        rw [bne]
        cases h : ((t[1].toNat : Int) == 61)
        · rfl
        · exact absurd (hc1.2 h) hE
      go_enter Try.func20, Try.ntmps20
      go_wp2_with fail
      refine bodyPost_ret (v := .tuple #[.agg #[.int .i64 0, .string ⟨#[]⟩], .int .i64 5]) ?_ rfl ⟨rfl, ?_⟩
      · simp [results, Try.results20, go_sem]
      · exact (Below.refl _ _).alloc (Nat.le_refl _) _
  · have hn : rdS t.data.toList = none := by
      cases h : rdS t.data.toList with
      | none => rfl
      | some p => have := rdS_len h; omega
    rw [rdV_none hn]
    clear hn hlen
    by_cases h2 : t.size < 2
    · go_enter Try.func20, Try.ntmps20
      go_wp2_with fail
      refine bodyPost_ret (v := .tuple #[.agg #[.int .i64 0, .string ⟨#[]⟩], .int .i64 5]) ?_ rfl ⟨rfl, ?_⟩
      · simp [results, Try.results20, go_sem]
      · exact (Below.refl _ _).alloc (Nat.le_refl _) _
    · have h4 : 4 < t.size := by omega
      go_enter Try.func20, Try.ntmps20
      go_wp2_with fail
      refine bodyPost_ret (v := .tuple #[.agg #[.int .i64 0, .string ⟨#[]⟩], .int .i64 5]) ?_ rfl ⟨rfl, ?_⟩
      · simp [results, Try.results20, go_sem]
      · exact (Below.refl _ _).alloc (Nat.le_refl _) _

end Go.Proofs.Ytfnlikjdfihggaa
