/-
  ReplaceIn, as the model has it: a contract.
-/
import Derived.Test.YtamhhgcghjhifaaDoorRepS
import Derived.Deep.RegionHeld3
import Derived.Deep.AppendLies
import Derived.Deep.QuietTactic
import Derived.BigQuiet
import Derived.Laws.OwnMore
namespace Go.Proofs.YtamhhgcghjhifaaDoor
open Go.RowKit Go
set_option linter.unusedVariables false

theorem repL_mem {c : UInt8} {new : List UInt8} : ∀ {s : List UInt8} {b : UInt8}, b ∈ repL c new s → b ∈ s ∨ b ∈ new
  | [], b, h => by rw [repL_nil] at h; cases h
  | a :: s, b, h => by
    rw [repL_cons, List.mem_append] at h
    rcases h with h | h
    · by_cases ha : a = c
      · rw [if_pos ha] at h; exact .inr h
      · rw [if_neg ha] at h
        rw [List.mem_singleton] at h
        subst h
        exact .inl List.mem_cons_self
    · rcases repL_mem h with h | h
      · exact .inl (List.mem_cons_of_mem _ h)
      · exact .inr h
theorem repL_term {c : UInt8} {t y : List UInt8} (ht : Wd.termB t = true) (hy : Wd.termB y = true) : Wd.termB (repL c y t) = decide ((repL c y t).length ≤ 24) := by
  unfold Wd.termB at ht hy ⊢
  rw [Bool.and_eq_true, List.all_eq_true] at ht hy
  have : (repL c y t).all (fun c => Wd.isL c || Wd.isU c) = true := by
    rw [List.all_eq_true]
    intro b hb
    rcases repL_mem hb with h | h
    · exact ht.2 b h
    · exact hy.2 b h
  rw [this, Bool.and_true]
theorem eqns_len {w : World} {base n : Nat} {v : Value} {es : List Eqn} (hn : es.length = n) (h : w.ownsRow base 42 2 v n (flatE es)) : Eqns w base v es := by
  unfold Eqns
  rw [hn]
  exact h
theorem repL_24 {c : UInt8} {t y : ByteArray} (ht : t.size ≤ 24) (hy : y.size ≤ 24) : (⟨⟨repL c y.data.toList t.data.toList⟩⟩ : ByteArray).size ≤ maxLen := by
  have hbd := repL_bound c y.data.toList t.data.toList
  have h1 : t.data.toList.length = t.size := by simp
  have h2 : y.data.toList.length = y.size := by simp
  rw [h1, h2] at hbd
  have := Nat.mul_le_mul ht (show y.size + 1 ≤ 25 by omega)
  show (repL c y.data.toList t.data.toList).length ≤ maxLen
  unfold maxLen
  omega
theorem sys_fit {c : UInt8} {y : ByteArray} (hy : Wd.termB y.data.toList = true) : ∀ {es : List Eqn}, sysB es = true → sysB (es.map (rpE c y)) = (es.map (rpE c y)).all fitE := by
  intro es h
  unfold sysB at h ⊢
  rw [Bool.and_eq_true, decide_eq_true_eq] at h
  rw [List.length_map, decide_eq_true h.1, Bool.true_and]
  have h2 := List.all_eq_true.1 h.2
  rw [List.all_map, List.all_map]
  have key : ∀ e ∈ es, ((fun e => eqnB e.1 e.2) ∘ rpE c y) e = (fitE ∘ rpE c y) e := by
    intro e he
    have := h2 e he
    unfold eqnB at this
    rw [Bool.and_eq_true] at this
    show eqnB (rpE c y e).1 (rpE c y e).2 = fitE (rpE c y (e.1, e.2))
    rw [fitE_pair]
    show (Wd.termB (repL c y.data.toList e.1.data.toList) && Wd.termB (repL c y.data.toList e.2.data.toList)) = _
    rw [repL_term this.1 hy, repL_term this.2 hy]
  rw [Bool.eq_iff_iff, List.all_eq_true, List.all_eq_true]
  exact ⟨fun h e he => by rw [← key e he]; exact h e he, fun h e he => by rw [key e he]; exact h e he⟩

set_option maxRecDepth 100000 in
set_option maxHeartbeats 1600000 in
theorem specReplaceIn_any (v : Value) (es : List Eqn) (y : ByteArray) (c : UInt8) (B : Nat) (w : World) (hv : ERow w B v es) (hB : B ≤ w.heap.size) (hs : sysB es = true) (hy : Wd.termB y.data.toList = true) (hc : Wd.isU c = true) :
    Calls Tryd.prog 8 #[v, .string ⟨#[c]⟩, .string y] w fun e w' => Below w.heap.size w w' ∧
      ((es.map (rpE c y)).all fitE = true → ∃ u, e = .returned (.tuple #[u, .int .i64 0]) ∧ Eqns w' w.heap.size u (es.map (rpE c y))) ∧
      ((es.map (rpE c y)).all fitE = false → ∃ u, e = .returned (.tuple #[u, .int .i64 3]) ∧ Eqns w' w.heap.size u []) := by
  have hlen : es.length ≤ 4 := by
    unfold sysB at hs
    rw [Bool.and_eq_true, decide_eq_true_eq] at hs
    exact hs.1
  have hall : ∀ e ∈ es, Wd.termB e.1.data.toList = true ∧ Wd.termB e.2.data.toList = true := by
    unfold sysB at hs
    rw [Bool.and_eq_true, List.all_eq_true] at hs
    intro e he
    have := hs.2 e he
    unfold eqnB at this
    rw [Bool.and_eq_true] at this
    exact this
  have HSF := hidv (sys_fit (c := c) hy hs)
  have c1 := specSys_any v es B w hv hB (by omega) (fun e he => ⟨by have := termB_24 (hall e he).1; unfold maxLen; omega, by have := termB_24 (hall e he).2; unfold maxLen; omega⟩)
  rw [hs] at c1
  have hys := termB_24 hy
  have c2 := fun W => specTerm_any y W (by unfold maxLen; omega)
  rw [hy] at c2
  have hneg : ¬ Wd.unkI c < 0 := by
    have := unkI_neg c
    rw [hc] at this
    simpa using this
  have c3 := fun W => unknown_any c W
  obtain ⟨x, hx⟩ : ∃ s : ByteArray, ⟨#[c]⟩ = s := ⟨_, rfl⟩
  rw [hx]
  have h1 : x.size = 1 := by rw [← hx]; rfl
  have hp : 0 < x.size := by omega
  have g0 : x[0] = c := by subst hx; rfl
  have c4 := fun (t : ByteArray) (ht : t.size ≤ 24) W => specReplace_any t y c W ht hys
  rw [← g0] at c3 hneg
  have c4' : ∀ (t : ByteArray) (ht : t.size ≤ 24) W, Calls Tryd.prog 16 #[.string t, .int .u8 (x[0].toNat : Int), .string y] W fun e w' => e = .returned (.string ⟨⟨repL c y.data.toList t.data.toList⟩⟩) ∧ w' = W := by
    intro t ht W
    have := c4 t ht W
    rw [← g0] at this ⊢
    exact this
  obtain ⟨q, hqq⟩ : ∃ q, Wd.unkI x[0] = q := ⟨_, rfl⟩
  rw [hqq] at c3 hneg
  have hs1 : ((x.size : Int) != 1) = false := by rw [h1]; rfl
  have i0 : (0 : Int) < (x.size : Int) := by omega
  have hq0 : 0 ≤ q := by omega
  obtain ⟨A, cp, rfl, hA⟩ := hv
  have HV := hidv hA
  obtain ⟨n, hn⟩ : ∃ n, es.length = n := ⟨_, rfl⟩
  have C1 := hidv c1
  rw [hn] at C1 hlen ⊢
  have HN := hidv hn
  have C2 := hidv c2
  have C3 := hidv c3
  have C4 := hidv c4'
  have HALL := hidv hall
  clear c1 c2 c3 c4 c4' hall hs hy hc hn hA hqq hx g0 h1
  obtain ⟨t0, hi, hz0, hz1, hz2⟩ := info_parts Tryd.infoEr
  go_enter Tryd.func8, Tryd.ntmps8
  go_wp2_with fail
  refine C1.out.mono ?_
  rintro e w1 ⟨rfl, hb1⟩
  have HB1 := hidv hb1
  clear hb1
  go_wp2_with fail
  refine (C2.out _).mono ?_
  rintro e w1 ⟨rfl, rfl⟩
  go_wp2_with fail
  refine (C3.out _).mono ?_
  rintro e w1 ⟨rfl, rfl⟩
  go_wp2_with fail
  go_loopw [8, 9] (fun v i wr => ∃ k : Nat, k ≤ n ∧ i = .int .i64 (k : Int) ∧ Hid (wr.ownsRow w.heap.size 42 2 v k (flatE ((es.take k).map (rpE c y)))) ∧ Hid (Below w.heap.size w wr)) (fun _ i _ => n - (intOf i).toNat)
  case atStart => exact ⟨0, Nat.zero_le _, rfl, hidv (by rw [List.take_zero]; exact World.ownsRow_lit w1 #[] 0 HB1.out.size (Nat.zero_le _) rfl), hidv (HB1.out.alloc HB1.out.size _)⟩
  case round =>
    obtain ⟨k, hk, rfl, hown, hbe⟩ := hrel
    have hzr := hbe.out.size
    by_cases hlt : k < n
    · have hkx : k < es.length := by have := HN.out; omega
      obtain ⟨g, o, rfl, hg, hce⟩ := HV.out (by have := HN.out; omega)
      have c01 := (hce k hkx).1
      have c02 := (hce k hkx).2
      have c1 : wr.cell? ⟨g, o + k * 2, none⟩ = some (.string es[k].1) := (hbe.out.cell (p := ⟨g, _, none⟩) (by show g < _; omega)).trans (hce k hkx).1
      have c2 : wr.cell? ⟨g, o + k * 2 + 1, none⟩ = some (.string es[k].2) := (hbe.out.cell (p := ⟨g, _, none⟩) (by show g < _; omega)).trans (hce k hkx).2
      have d4 := C4.out es[k].1 (termB_24 (HALL.out _ (List.getElem_mem _)).1)
      have d5 := C4.out es[k].2 (termB_24 (HALL.out _ (List.getElem_mem _)).2)
      have htk : (es.take (k + 1)).map (rpE c y) = (es.take k).map (rpE c y) ++ [rpE c y es[k]] := by
        rw [List.take_succ_eq_append_getElem hkx, List.map_append]
        rfl
      obtain ⟨⟨l, r⟩, hlr⟩ : ∃ x, es[k] = x := ⟨_, rfl⟩
      rw [hlr] at c01 c02 c1 c2 d4 d5 htk
      dsimp only at c01 c02 c1 c2 d4 d5
      have hfx : flatE [rpE c y (l, r)] = [.string ⟨⟨repL c y.data.toList l.data.toList⟩⟩, .string ⟨⟨repL c y.data.toList r.data.toList⟩⟩] := rfl
      have HFX := hidv (show flatE ((es.take (k + 1)).map (rpE c y)) = flatE ((es.take k).map (rpE c y)) ++ [.string ⟨⟨repL c y.data.toList l.data.toList⟩⟩, .string ⟨⟨repL c y.data.toList r.data.toList⟩⟩] by rw [htk, flatE_app, hfx])
      obtain ⟨L, hL⟩ : ∃ L : ByteArray, ⟨⟨repL c y.data.toList l.data.toList⟩⟩ = L := ⟨_, rfl⟩
      obtain ⟨R, hR⟩ : ∃ L : ByteArray, ⟨⟨repL c y.data.toList r.data.toList⟩⟩ = L := ⟨_, rfl⟩
      rw [hL] at d4
      rw [hR] at d5
      rw [hL, hR] at HFX
      have D4 := hidv d4
      have D5 := hidv d5
      clear hlr hce d4 d5 htk hfx hL hR
      go_wp2_with fail
      have hown2 : Hid (wr.drew.ownsRow w.heap.size 42 2 _ k (flatE ((es.take k).map (rpE c y)))) := hown
      have hbe2 : Hid (Below w.heap.size w wr.drew) := hidv hbe.out.drew
      have hzr2 : w.heap.size ≤ wr.drew.heap.size := hzr
      have hbe0 := hbe.out
      have HS := hidv (fun w' (hb : Below w.heap.size w w') => (show w'.cell? ⟨g, o + k * 2, none⟩ = some (.string l) ∧ w'.cell? ⟨g, o + k * 2 + 1, none⟩ = some (.string r) ∧ Below w.heap.size w w' from
        ⟨(hb.cell (p := ⟨g, _, none⟩) (by show g < w.heap.size; omega)).trans c01, (hb.cell (p := ⟨g, _, none⟩) (by show g < w.heap.size; omega)).trans c02, hb⟩))
      go_region_held3 (fun w' => w'.cell? ⟨g, o + k * 2, none⟩ = some (.string l) ∧ w'.cell? ⟨g, o + k * 2 + 1, none⟩ = some (.string r) ∧ Below w.heap.size w w') (exact HS.out _ (by repeat (first | assumption | exact Below.refl _ _ | refine Below.drew ?_ | refine below_al ?_ _))) (first | (go_at_call 16; (first | (with_reducible refine (D4.out _).mono ?_) | (with_reducible refine (D5.out _).mono ?_)); rintro e w0 ⟨rfl, rfl⟩) | (refine step_append_lies (o := ⟨some 57, _, _, _, _, _⟩) _ (by rfl) (.tmp 36) (.tmp 56) 27 (by rfl) w.heap.size 42 t0 (.agg #[.string ⟨#[]⟩, .string ⟨#[]⟩]) 2 32 Tryd.underlying27 hi hz0 hz1 hz2 rfl (by decide) _ _ _ (by rfl) (hown2.out.alloc _) ⟨wr.drew.heap.size, 0, none⟩ 1 1 [.string L, .string R] (by rfl) rfl (two_newE wr.drew _ _ _) (two_cellE _ _) (by decide) (by unfold maxLen; omega) (by omega) (by simp; omega) (wr.drew.heap.size + 1) (by simp) ?_; intro v4 cap4 w4 hown4 hgr4 hat4 hlt4; have hb4 : Below w.heap.size w w4 := (below_al hbe2.out _).grown hgr4 (by simp; omega) (fun j hj => (World.ownsRow.lt hown2.out j hj).1)))
      all_goals
        have HO4 := hidv hown4
        have HB4 := hidv hb4
        clear hown4 hb4 hgr4 hat4 hlt4 hown2 hbe2 hzr2 hbe0 c1 c2 c01 c02
        go_wp2_with fail
        go_roundw
        case rel => exact ⟨k + 1, by omega, by go_num, hidv (by rw [HFX.out]; exact HO4.out), HB4⟩
        case measure => simp [intOf]; omega
    · obtain rfl : k = n := by omega
      have h := hown.out
      rw [List.take_of_length_le (by have := HN.out; omega)] at h
      have hE := eqns_len (by rw [List.length_map, HN.out]) h
      have c5 := specSys_any _ (es.map (rpE c y)) wr.heap.size wr hE.row (Nat.le_refl _) (by rw [List.length_map, HN.out]; omega) (fun e he => by
        rw [List.mem_map] at he
        obtain ⟨e0, he0, rfl⟩ := he
        have hl := repL_24 (c := c) (termB_24 (HALL.out _ he0).1) hys
        have hr := repL_24 (c := c) (termB_24 (HALL.out _ he0).2) hys
        exact ⟨hl, hr⟩)
      rw [HSF.out] at c5
      have HE := hidv hE
      clear h hE
      cases hf : (es.map (rpE c y)).all fitE
      · have HF := hidv hf
        rw [hf] at c5
        have C5 := hidv c5
        clear c5 hf
        go_wp2_with fail
        refine C5.out.mono ?_
        rintro e w2 ⟨rfl, hb2⟩
        have HB2 := hidv (below_on hbe.out hb2)
        clear hb2
        go_wp2_with fail
        go_ret2
        exact And.intro (below_al HB2.out _) (And.intro (fun (h : (es.map (rpE c y)).all fitE = true) => absurd (HF.out.symm.trans h) (by decide)) (fun _ => ⟨_, rfl, World.ownsRow_lit w2 #[] 0 HB2.out.size (Nat.zero_le _) rfl⟩))
      · have HF := hidv hf
        rw [hf] at c5
        have C5 := hidv c5
        clear c5 hf
        go_wp2_with fail
        refine C5.out.mono ?_
        rintro e w2 ⟨rfl, hb2⟩
        have HB2 := hidv (below_on hbe.out hb2)
        have HE2 := hidv (HE.out.below hb2)
        clear hb2
        go_wp2_with fail
        go_ret2
        exact And.intro HB2.out (And.intro (fun _ => ⟨_, rfl, HE2.out⟩) (fun (h : (es.map (rpE c y)).all fitE = false) => absurd (HF.out.symm.trans h) (by decide)))

end Go.Proofs.YtamhhgcghjhifaaDoor
