/-
  ReplaceIn, of the program: a contract.
-/
import Derived.Test.YtamhhgcghjhifaaDoorRepI
import Derived.Test.YtamhhgcghjhifaaDoorEqS
namespace Go.Proofs.YtamhhgcghjhifaaDoor
open Go.RowKit Go
set_option linter.unusedVariables false

def rpE (c : UInt8) (y : ByteArray) (e : Eqn) : Eqn := (⟨⟨repL c y.data.toList e.1.data.toList⟩⟩, ⟨⟨repL c y.data.toList e.2.data.toList⟩⟩)
theorem two_newE (w : World) (x y : Value) (t : TypeId) : ∀ (j : Nat) (u : Value), [x, y][j]? = some u → (w.alloc (.cells #[x, y] t)).cell? ((⟨w.heap.size, 0, none⟩ : Addr).add j) = some u := by
  intro j u hu
  match j, hu with
  | 0, hu =>
    obtain rfl : x = u := by simpa using hu
    show (w.alloc (.cells #[x, y] t)).cell? ⟨w.heap.size, 0, none⟩ = some x
    rw [cell_of_row _ _ _ _ _ _ (heap_alloc_new w _)]
    rfl
  | 1, hu =>
    obtain rfl : y = u := by simpa using hu
    show (w.alloc (.cells #[x, y] t)).cell? ⟨w.heap.size, 1, none⟩ = some y
    rw [cell_of_row _ _ _ _ _ _ (heap_alloc_new w _)]
    rfl
  | j + 2, hu => simp at hu
theorem two_cellE (x y : ByteArray) : ∀ u : Value, u ∈ [Value.string x, Value.string y] → u.oneCell' = true := by
  intro u hu
  simp only [List.mem_cons, List.not_mem_nil, or_false] at hu
  rcases hu with rfl | rfl <;> rfl
theorem grow_belowE {w wr w1 : World} {e : TypeId} {n : Nat} {v : Value} {xs : List Value} {o : Obj} (hb : Below w.heap.size w wr) (hown : wr.ownsRow w.heap.size e 2 v n xs)
    (hg : (wr.alloc o).grownBy w1 v.ownBlock) : Below w.heap.size w w1 := by
  have h1 : Below w.heap.size w (wr.alloc o) := hb.alloc hb.size o
  exact h1.grown hg h1.size (fun k hk => (hown.lt k hk).1)
theorem repC_fit {t y : ByteArray} {c : UInt8} : (repL c y.data.toList t.data.toList).length ≤ 24 → repC t y c = 0 ∧ repV t y c = ⟨⟨repL c y.data.toList t.data.toList⟩⟩ := fun h => ⟨if_pos h, if_pos h⟩
theorem repC_long {t y : ByteArray} {c : UInt8} : ¬ (repL c y.data.toList t.data.toList).length ≤ 24 → repC t y c = 3 ∧ repV t y c = ⟨#[]⟩ := fun h => ⟨if_neg h, if_neg h⟩
def fitE (e : Eqn) : Bool := decide (e.1.size ≤ 24) && decide (e.2.size ≤ 24)

theorem fitE_pair (c : UInt8) (y l r : ByteArray) : fitE (rpE c y (l, r)) = (decide ((repL c y.data.toList l.data.toList).length ≤ 24) && decide ((repL c y.data.toList r.data.toList).length ≤ 24)) := rfl
theorem own_below {w w' : World} {base n size : Nat} {e : TypeId} {v : Value} {xs : List Value} (h : w.ownsRow base e size v n xs) (hb : Below w.heap.size w w') : w'.ownsRow base e size v n xs :=
  h.kept (row := none) ⟨hb.os, hb.tape, hb.output, hb.size, fun k hk _ => hb.block k hk⟩ (by
    rcases hv : v.ownBlock with _ | k
    · exact .inl rfl
    · exact .inr (by simp))
theorem Tryd.infoEr : (Tryd.prog.info? 42).map (fun i => (i.zero, i.size, i.bytes)) = some (some (.agg #[.string ⟨#[]⟩, .string ⟨#[]⟩]), 2, 32) := by kernel_rfl

set_option maxRecDepth 100000 in
set_option maxHeartbeats 1600000 in
theorem implReplaceIn_any (v : Value) (es : List Eqn) (y : ByteArray) (c : UInt8) (B : Nat) (w : World) (ml : ML w) (hv : ERow w B v es) (hB : B ≤ w.heap.size) (hs : sysB es = true) (hy : Wd.termB y.data.toList = true) (hc : Wd.isU c = true) :
    Calls Tryd.prog 10 #[v, .string ⟨#[c]⟩, .string y] w fun e w' => Below w.heap.size w w' ∧
      ((es.map (rpE c y)).all fitE = true → ∃ u, e = .returned (.tuple #[u, .int .i64 0]) ∧ Eqns w' w.heap.size u (es.map (rpE c y))) ∧
      ((es.map (rpE c y)).all fitE = false → e = .returned (.tuple #[.slice none 0 0, .int .i64 3])) := by
  have hlen : es.length ≤ 4 := by
    unfold sysB at hs
    rw [Bool.and_eq_true, decide_eq_true_eq] at hs
    exact hs.1
  have hall : ∀ e ∈ es, Wd.termB e.1.data.toList = true ∧ Wd.termB e.2.data.toList = true := by
    unfold sysB at hs
    rw [Bool.and_eq_true, List.all_eq_true] at hs
    intro e he
    have := hs.2 e he
    unfold eqnB at this
    rw [Bool.and_eq_true] at this
    exact this
  have c1 := implSys_any v es B w hv hB (by omega) (fun e he => ⟨by have := termB_24 (hall e he).1; unfold maxLen; omega, by have := termB_24 (hall e he).2; unfold maxLen; omega⟩)
  rw [hs] at c1
  have hys := termB_24 hy
  have c2 := fun W => implValidTerm_any y W (by unfold maxLen; omega)
  rw [hy] at c2
  have c3 := fun W => isU_any ⟨#[c]⟩ W (by have : (⟨#[c]⟩ : ByteArray).size = 1 := rfl; unfold maxLen; omega)
  rw [show uB (⟨#[c]⟩ : ByteArray).data.toList = true from hc] at c3
  have c4 := fun (e : Eqn) (he : e ∈ es) W hW => implReplace_any e.1 y c W hW (hall e he).1 hy hc
  have c5 := fun (e : Eqn) (he : e ∈ es) W hW => implReplace_any e.2 y c W hW (hall e he).2 hy hc
  have C1 := hidv c1
  have C2 := hidv c2
  have C3 := hidv c3
  have C4 := hidv c4
  have C5 := hidv c5
  have HALL := hidv hall
  obtain ⟨A, cp, rfl, hA⟩ := hv
  obtain ⟨n, hn⟩ : ∃ n, es.length = n := ⟨_, rfl⟩
  have HV := hidv hA
  rw [hn] at C1 hlen ⊢
  have HN := hidv hn
  clear c1 c2 c3 c4 c5 hall hs hy hc hn hA
  obtain ⟨s, hsc⟩ : ∃ s : ByteArray, ⟨#[c]⟩ = s := ⟨_, rfl⟩
  rw [hsc] at C3 C4 C5 ⊢
  clear hsc
  go_enter Tryd.func10, Tryd.ntmps10
  go_wp2_with fail
  refine C1.out.mono ?_
  rintro e w1 ⟨rfl, hb1⟩
  go_wp2_with fail
  refine (C2.out _).mono ?_
  rintro e w' ⟨rfl, rfl⟩
  go_wp2_with fail
  refine (C3.out _).mono ?_
  rintro e w' ⟨rfl, rfl⟩
  have HB1 := hidv hb1
  clear hb1
  obtain ⟨i0, hi, hz0, hz1, hz2⟩ := info_parts Tryd.infoEr
  go_wp2_with fail
  go_loopw [8, 28] (fun v i wr => ∃ k : Nat, k ≤ n ∧ i = .int .i64 (k : Int) ∧ Hid (wr.ownsRow w.heap.size 42 2 v k (flatE ((es.take k).map (rpE c y)))) ∧ Hid (Below w.heap.size w wr) ∧ Hid (((es.take k).map (rpE c y)).all fitE = true)) (fun _ i _ => n - (intOf i).toNat)
  case atStart => exact ⟨0, Nat.zero_le _, rfl, hidv (by rw [List.take_zero]; exact World.ownsRow_nil _ _ _ _), HB1, hidv (by rw [List.take_zero]; rfl)⟩
  case round =>
    obtain ⟨k, hk, rfl, hown, hbe, hfit⟩ := hrel
    by_cases hlt : k < n
    · have hkx : k < es.length := by have := HN.out; omega
      obtain ⟨g, o, rfl, hg, hce⟩ := HV.out (by have := HN.out; omega)
      have c1 : wr.cell? ⟨g, o + k * 2, none⟩ = some (.string es[k].1) := (hbe.out.cell (p := ⟨g, _, none⟩) (by show g < _; omega)).trans (hce k hkx).1
      have c2 : wr.cell? ⟨g, o + k * 2 + 1, none⟩ = some (.string es[k].2) := (hbe.out.cell (p := ⟨g, _, none⟩) (by show g < _; omega)).trans (hce k hkx).2
      have d4 := C4.out es[k] (List.getElem_mem _)
      have d5 := C5.out es[k] (List.getElem_mem _)
      have htk : (es.take (k + 1)).map (rpE c y) = (es.take k).map (rpE c y) ++ [rpE c y es[k]] := by
        rw [List.take_succ_eq_append_getElem hkx, List.map_append]
        rfl
      have hmem : rpE c y es[k] ∈ es.map (rpE c y) := List.mem_map.2 ⟨_, List.getElem_mem _, rfl⟩
      obtain ⟨⟨l, r⟩, hlr⟩ : ∃ x, es[k] = x := ⟨_, rfl⟩
      rw [hlr] at c1 c2 d4 d5 htk hmem
      dsimp only at c1 c2 d4 d5
      have D4 := hidv d4
      have D5 := hidv d5
      have HTK := hidv htk
      have HMEM := hidv hmem
      clear hlr hce d4 d5 htk hmem
      go_wp2_with fail
      have HX := hidv (Bx.new wr 42 #[.string l, .string r])
      have HBa := hidv (below_al hbe.out (.cells #[.string l, .string r] 42))
      have HOa := hidv (hown.out.alloc (.cells #[.string l, .string r] 42))
      refine (D4.out _ (ml.below HBa.out)).mono ?_
      rintro e w2 ⟨rfl, hb2⟩
      have HX2 := hidv (HX.out.below hb2)
      have HB2 := hidv (below_on HBa.out hb2)
      have HO2 := hidv (own_below HOa.out hb2)
      obtain ⟨x0, x1⟩ := HX2.out.two
      clear hb2
      go_wp2_with fail
      refine (D5.out _ (ml.below HB2.out)).mono ?_
      rintro e w3 ⟨rfl, hb3⟩
      have HB3 := hidv (below_on HB2.out hb3)
      have HO3 := hidv (own_below HO2.out hb3)
      clear hb3 x0 x1 c1 c2
      by_cases hfl : (repL c y.data.toList l.data.toList).length ≤ 24
      · obtain ⟨e1, e2⟩ := repC_fit hfl
        rw [e1, e2]
        by_cases hfr : (repL c y.data.toList r.data.toList).length ≤ 24
        · obtain ⟨e3, e4⟩ := repC_fit hfr
          rw [e3, e4]
          have hfe : fitE (rpE c y (l, r)) = true := by
            rw [fitE_pair, decide_eq_true hfl, decide_eq_true hfr]
            rfl
          have hfx : flatE [rpE c y (l, r)] = [.string ⟨⟨repL c y.data.toList l.data.toList⟩⟩, .string ⟨⟨repL c y.data.toList r.data.toList⟩⟩] := rfl
          have HF := hidv (show ((es.take (k + 1)).map (rpE c y)).all fitE = true by rw [HTK.out, List.all_append, hfit.out]; simpa using hfe)
          have HFX := hidv (show flatE ((es.take (k + 1)).map (rpE c y)) = flatE ((es.take k).map (rpE c y)) ++ [.string ⟨⟨repL c y.data.toList l.data.toList⟩⟩, .string ⟨⟨repL c y.data.toList r.data.toList⟩⟩] by rw [HTK.out, flatE_app, hfx])
          obtain ⟨L, hL⟩ : ∃ L : ByteArray, ⟨⟨repL c y.data.toList l.data.toList⟩⟩ = L := ⟨_, rfl⟩
          obtain ⟨R, hR⟩ : ∃ L : ByteArray, ⟨⟨repL c y.data.toList r.data.toList⟩⟩ = L := ⟨_, rfl⟩
          rw [hL, hR] at HFX ⊢
          clear hfe hfx hL hR e1 e2 e3 e4 hfl hfr
          go_wp2_with (at_builtin; refine wpList_append_own _ rfl (.tmp 54) (.tmp 58) 27 rfl w.heap.size 42 i0 (.agg #[.string ⟨#[]⟩, .string ⟨#[]⟩]) 2 32 Tryd.underlying27 hi hz0 hz1 hz2 rfl (by decide) _ _ _ rfl (HO3.out.alloc _) ⟨w3.heap.size, 0, none⟩ 1 1 [.string L, .string R] rfl rfl (two_newE w3 _ _ _) (two_cellE _ _) ?_ ?_ ?_ ?_; (unfold maxLen; omega); omega; exact Nat.le_trans HB3.out.size (by simp); intro v1 w4 hown4 hgr4 _)
          go_roundw
          case rel =>
            refine ⟨k + 1, by omega, by go_num, hidv ?_, hidv (grow_belowE HB3.out HO3.out hgr4), HF⟩
            rw [HFX.out]
            exact hown4
          case measure => simp [intOf]; omega
        · obtain ⟨e3, e4⟩ := repC_long hfr
          rw [e3, e4]
          have hne : (es.map (rpE c y)).all fitE = false := by
            rw [List.all_eq_false]
            refine ⟨_, HMEM.out, ?_⟩
            rw [fitE_pair, decide_eq_false hfr]
            simp
          have HNE := hidv hne
          clear hne e1 e2 e3 e4 hfl hfr
          go_wp2_with fail
          go_ret2
          exact ⟨HB3.out, And.intro (fun (h : (es.map (rpE c y)).all fitE = true) => absurd (HNE.out.symm.trans h) (by decide)) (fun _ => rfl)⟩
      · obtain ⟨e1, e2⟩ := repC_long hfl
        rw [e1, e2]
        have hne : (es.map (rpE c y)).all fitE = false := by
          rw [List.all_eq_false]
          refine ⟨_, HMEM.out, ?_⟩
          rw [fitE_pair, decide_eq_false hfl]
          simp
        have HNE := hidv hne
        clear hne e1 e2 hfl
        go_wp2_with fail
        go_ret2
        exact ⟨HB3.out, And.intro (fun (h : (es.map (rpE c y)).all fitE = true) => absurd (HNE.out.symm.trans h) (by decide)) (fun _ => rfl)⟩
    · obtain rfl : k = n := by omega
      have h := hown.out
      have hf := hfit.out
      rw [List.take_of_length_le (by have := HN.out; omega)] at h hf
      have HH := hidv h
      have HF := hidv hf
      clear h hf
      go_wp2_with fail
      go_ret2
      refine ⟨hbe.out, fun _ => ⟨_, rfl, ?_⟩, fun h => by rw [HF.out] at h; cases h⟩
      unfold Eqns
      rw [List.length_map, HN.out]
      exact HH.out

end Go.Proofs.YtamhhgcghjhifaaDoor
