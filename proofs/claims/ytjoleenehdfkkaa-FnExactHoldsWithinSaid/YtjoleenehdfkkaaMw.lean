/-
  The map of a word: what it is, and the program's function: a contract.
-/
import Derived.Test.YtjoleenehdfkkaaLm
import Derived.Deep.RegionHeld3
namespace Go.Proofs.Ytjoleenehdfkkaa
open Go.RowKit Go
set_option linter.unusedVariables false

/-- The map of the letter l. -/
def letM (ns : List (List Int)) (l : Nat) : List Nat := [finM ns l 0, finM ns l 1, finM ns l 2, finM ns l 3]
/-- The map of a word, behind a map. -/
def mapM (ns : List (List Int)) (w : List UInt8) (m : List Nat) : List Nat := w.foldl (fun m c => thenM m (letM ns (c.toNat - 97))) m
/-- Where a word leads from a state. -/
def runM (ns : List (List Int)) (w : List UInt8) (s : Nat) : Nat := w.foldl (fun t c => ((ns.getD t []).getD (c.toNat - 97) 0).toNat) s
theorem thenM_get (A B : List Nat) (i : Nat) (hi : i < 4) : (thenM A B).getD i 0 = B.getD (A.getD i 0) 0 := by
  unfold thenM
  rw [List.getD_eq_getElem?_getD, range_at _ hi]
  rfl
theorem thenM_len (A B : List Nat) : (thenM A B).length = 4 := by simp [thenM]
theorem letM_get (ns : List (List Int)) (l t : Nat) (ht : t < ns.length) (h4 : ns.length ≤ 4) : (letM ns l).getD t 0 = ((ns.getD t []).getD l 0).toNat := by
  have h : t = 0 ∨ t = 1 ∨ t = 2 ∨ t = 3 := by omega
  rcases h with rfl | rfl | rfl | rfl <;> simp [letM, finM, ht]
theorem step_lt {s : Int} {ns es : List (List Int)} (hok : BndOk s ns es) {t l : Nat} (ht : t < ns.length) (hl : l < 4) : ((ns.getD t []).getD l 0).toNat < ns.length := by
  obtain ⟨_, _, _, hr, _⟩ := hok
  obtain ⟨h1, h2⟩ := hr t ht
  have h3 := h2 l (by omega)
  have e1 : ns.getD t [] = ns[t] := by rw [List.getD_eq_getElem?_getD, List.getElem?_eq_getElem ht]; rfl
  have e2 : ns[t].getD l 0 = ns[t][l]'(by omega) := by rw [List.getD_eq_getElem?_getD, List.getElem?_eq_getElem (by omega)]; rfl
  rw [e1, e2]
  omega
theorem finM_lt {s : Int} {ns es : List (List Int)} (hok : BndOk s ns es) {l t : Nat} (ht : t < 4) (hl : l < 4) : finM ns l t < 4 := by
  unfold finM
  split
  · rename_i h
    have := step_lt hok h hl
    have := hok.1.2
    omega
  · exact ht
def wordOk (w : List UInt8) : Prop := ∀ c ∈ w, 97 ≤ c.toNat ∧ c.toNat < 101
theorem mapM_run {s : Int} {ns es : List (List Int)} (hok : BndOk s ns es) (w : List UInt8) : ∀ (m : List Nat), wordOk w → ∀ i, i < 4 → m.getD i 0 < ns.length → (mapM ns w m).getD i 0 = runM ns w (m.getD i 0) := by
  induction w with
  | nil => intro m _ i _ _; rfl
  | cons c w ih =>
    intro m hw i hi hm
    have hc := hw c (by simp)
    have hw' : wordOk w := fun d hd => hw d (by simp [hd])
    have h1 : (thenM m (letM ns (c.toNat - 97))).getD i 0 = ((ns.getD (m.getD i 0) []).getD (c.toNat - 97) 0).toNat := by
      rw [thenM_get _ _ _ hi, letM_get _ _ _ hm hok.1.2]
    have h2 := step_lt hok hm (show c.toNat - 97 < 4 by omega)
    have h3 := ih (thenM m (letM ns (c.toNat - 97))) hw' i hi (by rw [h1]; exact h2)
    show (mapM ns w (thenM m (letM ns (c.toNat - 97)))).getD i 0 = _
    rw [h3, h1]
    rfl
theorem runM_lt {s : Int} {ns es : List (List Int)} (hok : BndOk s ns es) (w : List UInt8) : ∀ t, wordOk w → t < ns.length → runM ns w t < ns.length := by
  induction w with
  | nil => intro t _ h; exact h
  | cons c w ih =>
    intro t hw ht
    have hc := hw c (by simp)
    exact ih _ (fun d hd => hw d (by simp [hd])) (step_lt hok ht (by omega))
theorem mapM_lt {s : Int} {ns es : List (List Int)} (hok : BndOk s ns es) (w : List UInt8) : ∀ (m : List Nat), wordOk w → m.length = 4 → (∀ i, i < 4 → m.getD i 0 < 4) → (mapM ns w m).length = 4 ∧ ∀ i, i < 4 → (mapM ns w m).getD i 0 < 4 := by
  induction w with
  | nil => intro m _ h1 h2; exact ⟨h1, h2⟩
  | cons c w ih =>
    intro m hw h1 h2
    have hc := hw c (by simp)
    refine ih (thenM m (letM ns (c.toNat - 97))) (fun d hd => hw d (by simp [hd])) (thenM_len _ _) (fun i hi => ?_)
    rw [thenM_get _ _ _ hi]
    have h3 := h2 i hi
    obtain ⟨t, ht⟩ : ∃ t, m.getD i 0 = t := ⟨_, rfl⟩
    rw [ht] at h3 ⊢
    have h : t = 0 ∨ t = 1 ∨ t = 2 ∨ t = 3 := by omega
    rcases h with rfl | rfl | rfl | rfl <;> exact finM_lt hok (by omega) (by omega)
theorem mapM_snoc (ns : List (List Int)) (w : List UInt8) (c : UInt8) (m : List Nat) : mapM ns (w ++ [c]) m = thenM (mapM ns w m) (letM ns (c.toNat - 97)) := by
  simp [mapM]
theorem four_of {m : List Nat} (h : m.length = 4) : ∃ a b c d, m = [a, b, c, d] := by
  match m, h with
  | [a, b, c, d], _ => exact ⟨a, b, c, d, rfl⟩

/-- A letter's place among the letters. -/
theorem letter_at {c : UInt8} (h : Wd.isL c = true) : 97 ≤ c.toNat ∧ c.toNat < 101 := by
  unfold Wd.isL at h
  simp at h
  have h1 : 97 ≤ c.toNat := h.1
  have h2 : c.toNat ≤ 100 := h.2
  omega
theorem wordOk_of {l : List UInt8} (h : Wd.wordB l = true) : wordOk l := by
  unfold Wd.wordB at h
  rw [Bool.and_eq_true, List.all_eq_true] at h
  exact fun c hc => letter_at (h.2 c hc)
theorem index_letter {c : UInt8} (h1 : 97 ≤ c.toNat) (h2 : c.toNat < 101) : Lib.indexByte [97, 98, 99, 100] c = ((c.toNat - 97 : Nat) : Int) := by
  have h : c = 97 ∨ c = 98 ∨ c = 99 ∨ c = 100 := by
    have h3 : c.toNat = 97 ∨ c.toNat = 98 ∨ c.toNat = 99 ∨ c.toNat = 100 := by omega
    rcases h3 with h | h | h | h
    · exact .inl (UInt8.toNat_inj.mp h)
    · exact .inr (.inl (UInt8.toNat_inj.mp h))
    · exact .inr (.inr (.inl (UInt8.toNat_inj.mp h)))
    · exact .inr (.inr (.inr (UInt8.toNat_inj.mp h)))
  rcases h with rfl | rfl | rfl | rfl <;> decide
theorem first_below {wa wb w' : World} (h : Below wb.heap.size wb w') (e : wa = wb := by rfl) : Below wa.heap.size wa w' := by subst e; exact h
theorem fin_cell {ns : List (List Int)} {W : World} {g : Nat} (h : Bx W g 84 #[.int .i64 (finM ns 0 0 : Nat), .int .i64 (finM ns 0 1 : Nat), .int .i64 (finM ns 0 2 : Nat), .int .i64 (finM ns 0 3 : Nat), .int .i64 (finM ns 1 0 : Nat), .int .i64 (finM ns 1 1 : Nat), .int .i64 (finM ns 1 2 : Nat), .int .i64 (finM ns 1 3 : Nat), .int .i64 (finM ns 2 0 : Nat), .int .i64 (finM ns 2 1 : Nat), .int .i64 (finM ns 2 2 : Nat), .int .i64 (finM ns 2 3 : Nat), .int .i64 (finM ns 3 0 : Nat), .int .i64 (finM ns 3 1 : Nat), .int .i64 (finM ns 3 2 : Nat), .int .i64 (finM ns 3 3 : Nat)]) (p q : Nat) (hp : p < 4) (hq : q < 4) : W.cell? ⟨g, p * 4 + q, none⟩ = some (.int .i64 (finM ns p q : Nat)) := by
  have h4 : p = 0 ∨ p = 1 ∨ p = 2 ∨ p = 3 := by omega
  have h5 : q = 0 ∨ q = 1 ∨ q = 2 ∨ q = 3 := by omega
  rcases h4 with rfl | rfl | rfl | rfl <;> rcases h5 with rfl | rfl | rfl | rfl <;> exact h.cell _

set_option maxRecDepth 100000 in
set_option maxHeartbeats 3200000 in
theorem mapOfWord_any (v : Value) (s : Int) (ns es : List (List Int)) (B : Nat) (x : ByteArray) (w : World) (hv : Bnd w B v s ns es) (hB : B ≤ w.heap.size) (hok : BndOk s ns es) (hx : Wd.wordB x.data.toList = true)
    (x0 x1 x2 x3 : Nat) (hm : mapM ns x.data.toList [0, 1, 2, 3] = [x0, x1, x2, x3]) :
    Calls Try.prog 30 #[v, .string x] w fun e w' => e = .returned (.agg #[.int .i64 (x0 : Int), .int .i64 (x1 : Int), .int .i64 (x2 : Int), .int .i64 (x3 : Int)]) ∧ Below w.heap.size w w' := by
  have hlen : x.size ≤ 60 := by simpa using Wd.wordB_len hx
  have HW := hidv (wordOk_of hx)
  have HOK := hidv hok
  have HM := hidv hm
  obtain ⟨A, ca, P, cp, rfl⟩ := hv.form
  obtain ⟨n, hn⟩ : ∃ n, ns.length = n := ⟨_, rfl⟩
  obtain ⟨m, hn2⟩ : ∃ n, es.length = n := ⟨_, rfl⟩
  rw [hn, hn2] at hv ⊢
  have HV := hidv hv
  clear hx hok hm hn hn2 hv
  have hb0 := (Bx.new w 34 #[.int .i64 s, .slice A n ca, .slice P m cp]).alloc (.cells #[.int .i64 0, .int .i64 0, .int .i64 0, .int .i64 0] 64)
  have hz0 := Bx.new (w.alloc (.cells #[.int .i64 s, .slice A n ca, .slice P m cp] 34)) 64 #[.int .i64 0, .int .i64 0, .int .i64 0, .int .i64 0]
  rw [World.size_alloc] at hz0
  have HB0 := hidv (show Below w.heap.size w ((w.alloc (.cells #[.int .i64 s, .slice A n ca, .slice P m cp] 34)).alloc (.cells #[.int .i64 0, .int .i64 0, .int .i64 0, .int .i64 0] 64)) from ((Below.refl _ _).alloc (by simp) _).alloc (by simp) _)
  have HBX := hidv hb0
  have HZ0 := hidv hz0
  clear hb0 hz0
  go_enter Try.func30, Try.ntmps30
  go_wp2_with fail
  obtain ⟨W, hW⟩ : ∃ W, ((w.alloc (.cells #[.int .i64 s, .slice A n ca, .slice P m cp] 34)).alloc (.cells #[.int .i64 0, .int .i64 0, .int .i64 0, .int .i64 0] 64)) = W := ⟨_, rfl⟩
  rw [hW] at HB0 HBX HZ0 ⊢
  clear hW
  refine (letters_any _ s ns es B W (HV.out.below (HB0.out.mono hB)) (Nat.le_trans hB HB0.out.size) HOK.out).mono ?_
  rintro e w1 ⟨rfl, hb1⟩
  have HL1 := hidv (Bx.new w1 84 #[.int .i64 (finM ns 0 0 : Nat), .int .i64 (finM ns 0 1 : Nat), .int .i64 (finM ns 0 2 : Nat), .int .i64 (finM ns 0 3 : Nat), .int .i64 (finM ns 1 0 : Nat), .int .i64 (finM ns 1 1 : Nat), .int .i64 (finM ns 1 2 : Nat), .int .i64 (finM ns 1 3 : Nat), .int .i64 (finM ns 2 0 : Nat), .int .i64 (finM ns 2 1 : Nat), .int .i64 (finM ns 2 2 : Nat), .int .i64 (finM ns 2 3 : Nat), .int .i64 (finM ns 3 0 : Nat), .int .i64 (finM ns 3 1 : Nat), .int .i64 (finM ns 3 2 : Nat), .int .i64 (finM ns 3 3 : Nat)])
  have HZ1 := hidv ((HZ0.out.below hb1).alloc (.cells #[.int .i64 (finM ns 0 0 : Nat), .int .i64 (finM ns 0 1 : Nat), .int .i64 (finM ns 0 2 : Nat), .int .i64 (finM ns 0 3 : Nat), .int .i64 (finM ns 1 0 : Nat), .int .i64 (finM ns 1 1 : Nat), .int .i64 (finM ns 1 2 : Nat), .int .i64 (finM ns 1 3 : Nat), .int .i64 (finM ns 2 0 : Nat), .int .i64 (finM ns 2 1 : Nat), .int .i64 (finM ns 2 2 : Nat), .int .i64 (finM ns 2 3 : Nat), .int .i64 (finM ns 3 0 : Nat), .int .i64 (finM ns 3 1 : Nat), .int .i64 (finM ns 3 2 : Nat), .int .i64 (finM ns 3 3 : Nat)] 84))
  have hs1 : w.heap.size + 2 ≤ w1.heap.size := by have h1 := HZ0.out.lt; have h2 := hb1.size; omega
  have HB1 := hidv ((below_on HB0.out hb1).alloc (show w.heap.size ≤ w1.heap.size by omega) (.cells #[.int .i64 (finM ns 0 0 : Nat), .int .i64 (finM ns 0 1 : Nat), .int .i64 (finM ns 0 2 : Nat), .int .i64 (finM ns 0 3 : Nat), .int .i64 (finM ns 1 0 : Nat), .int .i64 (finM ns 1 1 : Nat), .int .i64 (finM ns 1 2 : Nat), .int .i64 (finM ns 1 3 : Nat), .int .i64 (finM ns 2 0 : Nat), .int .i64 (finM ns 2 1 : Nat), .int .i64 (finM ns 2 2 : Nat), .int .i64 (finM ns 2 3 : Nat), .int .i64 (finM ns 3 0 : Nat), .int .i64 (finM ns 3 1 : Nat), .int .i64 (finM ns 3 2 : Nat), .int .i64 (finM ns 3 3 : Nat)] 84))
  clear hb1
  go_wp2_with fail
  refine (staying_any _).mono ?_
  rintro e w2 ⟨rfl, hb2⟩
  have HL2 := hidv ((HL1.out.below hb2).alloc (.cells #[.int .i64 0, .int .i64 1, .int .i64 2, .int .i64 3] 64))
  have HZ2 := hidv ((HZ1.out.below hb2).alloc (.cells #[.int .i64 0, .int .i64 1, .int .i64 2, .int .i64 3] 64))
  have HM2 := hidv (Bx.new w2 64 #[.int .i64 0, .int .i64 1, .int .i64 2, .int .i64 3])
  have hs2 : w1.heap.size + 1 ≤ w2.heap.size := by have h2 := hb2.size; rw [World.size_alloc] at h2; omega
  have HB2 := hidv ((below_on HB1.out hb2).alloc (show w.heap.size ≤ w2.heap.size by omega) (.cells #[.int .i64 0, .int .i64 1, .int .i64 2, .int .i64 3] 64))
  clear hb2
  go_wp2_with fail
  obtain ⟨W3, hW3⟩ : ∃ W, (w2.alloc (.cells #[.int .i64 0, .int .i64 1, .int .i64 2, .int .i64 3] 64)) = W := ⟨_, rfl⟩
  rw [hW3] at HB2 HL2 HZ2 HM2 ⊢
  clear hW3
  obtain ⟨g1, hg1⟩ : ∃ g, w1.heap.size = g := ⟨_, rfl⟩
  obtain ⟨g2, hg2⟩ : ∃ g, w2.heap.size = g := ⟨_, rfl⟩
  rw [hg1] at HL2 hs1 hs2 ⊢
  rw [hg2] at HM2 hs2 ⊢
  clear HL1 HZ1 HB1 hg1 hg2 HBX HZ0 HB0
  go_loopw [13] (fun i wr => ∃ (k a0 a1 a2 a3 : Nat), k ≤ x.size ∧ i = .int .i64 k ∧ Hid (mapM ns (x.data.toList.take k) [0, 1, 2, 3] = [a0, a1, a2, a3]) ∧ Hid (Bx wr g2 64 #[.int .i64 (a0 : Int), .int .i64 (a1 : Int), .int .i64 (a2 : Int), .int .i64 (a3 : Int)]) ∧ Hid (Bx wr g1 84 #[.int .i64 (finM ns 0 0 : Nat), .int .i64 (finM ns 0 1 : Nat), .int .i64 (finM ns 0 2 : Nat), .int .i64 (finM ns 0 3 : Nat), .int .i64 (finM ns 1 0 : Nat), .int .i64 (finM ns 1 1 : Nat), .int .i64 (finM ns 1 2 : Nat), .int .i64 (finM ns 1 3 : Nat), .int .i64 (finM ns 2 0 : Nat), .int .i64 (finM ns 2 1 : Nat), .int .i64 (finM ns 2 2 : Nat), .int .i64 (finM ns 2 3 : Nat), .int .i64 (finM ns 3 0 : Nat), .int .i64 (finM ns 3 1 : Nat), .int .i64 (finM ns 3 2 : Nat), .int .i64 (finM ns 3 3 : Nat)]) ∧ Hid (Bx wr (w.heap.size + 1) 64 #[.int .i64 0, .int .i64 0, .int .i64 0, .int .i64 0]) ∧ Hid (Below w.heap.size w wr)) (fun i _ => x.size - (intOf i).toNat)
  case atStart => exact ⟨0, 0, 1, 2, 3, by omega, rfl, hidv rfl, HM2, HL2, HZ2, HB2⟩
  case round =>
    obtain ⟨k, a0, a1, a2, a3, hk, rfl, hmap, hbm, hbl, hbz, hbe⟩ := hrel
    by_cases hlt : k < x.size
    · have hkl : k < x.data.toList.length := by simpa using hlt
      have hw1 : wordOk (x.data.toList.take k) := fun c hc => HW.out c (List.mem_of_mem_take hc)
      obtain ⟨c, hc⟩ : ∃ c, x.data.toList[k] = c := ⟨_, rfl⟩
      have hcl := HW.out c (by rw [← hc]; exact List.getElem_mem _)
      obtain ⟨hc1, hc2⟩ := hcl
      have hal := (mapM_lt HOK.out (x.data.toList.take k) [0, 1, 2, 3] hw1 rfl (by decide)).2
      rw [hmap.out] at hal
      have q0 := hal 0 (by omega)
      have q1 := hal 1 (by omega)
      have q2 := hal 2 (by omega)
      have q3 := hal 3 (by omega)
      have q0 : a0 < 4 := q0
      have q1 : a1 < 4 := q1
      have q2 : a2 < 4 := q2
      have q3 : a3 < 4 := q3
      obtain ⟨p, hp⟩ : ∃ p, c.toNat - 97 = p := ⟨_, rfl⟩
      have hp4 : p < 4 := by omega
      obtain ⟨b0, b1, b2, b3, hb⟩ := four_of (thenM_len [a0, a1, a2, a3] (letM ns p))
      have hsn : mapM ns (x.data.toList.take (k + 1)) [0, 1, 2, 3] = [b0, b1, b2, b3] := by
        rw [List.take_succ_eq_append_getElem hkl, hc, mapM_snoc, hmap.out, hp, hb]
      have HSN := hidv hsn
      have C1 := hidv (show ∀ W, Calls Try.prog 54 #[.string { data := #[97, 98, 99, 100] }, .int .u8 c.toNat] W fun e w' => e = .returned (.int .i64 (p : Int)) ∧ W = w' from fun W => by
        have h := Try.strings_IndexByte { data := #[97, 98, 99, 100] } c.toNat W
        refine h.mono ?_
        rintro e w' ⟨rfl, rfl⟩
        refine ⟨?_, rfl⟩
        have h2 : Lib.indexByte ({ data := #[97, 98, 99, 100] } : ByteArray).data.toList (c.toNat : Int).toNat.toUInt8 = (p : Int) := by
          rw [show (c.toNat : Int).toNat.toUInt8 = c by simp]
          rw [← hp]; exact index_letter hc1 hc2
        rw [h2])
      have C2 := hidv (fun W => then_any a0 a1 a2 a3 (finM ns p 0) (finM ns p 1) (finM ns p 2) (finM ns p 3) b0 b1 b2 b3 q0 q1 q2 q3 hb W)
      have c0 := hbm.out.cell 0
      have c1 := hbm.out.cell 1
      have c2 := hbm.out.cell 2
      have c3 := hbm.out.cell 3
      have c0 : wr.cell? ⟨g2, 0, none⟩ = some (.int .i64 (a0 : Int)) := c0
      have c1 : wr.cell? ⟨g2, 1, none⟩ = some (.int .i64 (a1 : Int)) := c1
      have c2 : wr.cell? ⟨g2, 2, none⟩ = some (.int .i64 (a2 : Int)) := c2
      have c3 : wr.cell? ⟨g2, 3, none⟩ = some (.int .i64 (a3 : Int)) := c3
      have d0 : wr.cell? ⟨g1, p * 4, none⟩ = some (.int .i64 (finM ns p 0 : Nat)) := fin_cell hbl.out p 0 hp4 (by omega)
      have d1 : wr.cell? ⟨g1, p * 4 + 1, none⟩ = some (.int .i64 (finM ns p 1 : Nat)) := fin_cell hbl.out p 1 hp4 (by omega)
      have d2 : wr.cell? ⟨g1, p * 4 + 2, none⟩ = some (.int .i64 (finM ns p 2 : Nat)) := fin_cell hbl.out p 2 hp4 (by omega)
      have d3 : wr.cell? ⟨g1, p * 4 + 3, none⟩ = some (.int .i64 (finM ns p 3 : Nat)) := fin_cell hbl.out p 3 hp4 (by omega)
      have hix : x[k]'hlt = c := by
        rw [← hc]
        simp [ByteArray.getElem_eq_getElem_data]
      have i1 : (0 : Int) ≤ (k : Int) := by omega
      have i2 : (k : Int) < (x.size : Int) := by omega
      have i3 : (0 : Int) ≤ (p : Int) := by omega
      have i4 : (p : Int) < 4 := by omega
      clear hal hw1 hsn hb
      go_wp2_with fail
      have rf1 := hbe.out
      go_region_with (first | (go_at_call 54; refine (C1.out _).mono ?_; rintro e w5 ⟨rfl, rfl⟩) | (go_at_call 53; refine (C2.out _).mono ?_; rintro e w6 ⟨rfl, hb6⟩; have rf2 : Below wr.heap.size wr wr := Below.refl _ _; have BL6 := below_on (show Below wr.heap.size wr _ from (by repeat (first | with_reducible assumption | with_reducible exact Below.refl _ _ | with_reducible refine Below.drew ?_ | with_reducible refine below_al ?_ _))) hb6; have hm6 := hbm.out.below BL6; have hl6 := hidv (hbl.out.below BL6); have hz6 := hidv (hbz.out.below BL6); have k0 := hm6.cell 0; have k1 := hm6.cell 1; have k2 := hm6.cell 2; have k3 := hm6.cell 3; have l0 := hm6.frozen 0; have l1 := hm6.frozen 1; have l2 := hm6.frozen 2; have l3 := hm6.frozen 3; have hst := (((((hbe.out.trans (BL6.mono hbe.out.size)).setCell (p := ⟨g2, 0, none⟩) (by simp <;> omega) (.int .i64 (b0 : Int))).setCell (p := ⟨g2, 1, none⟩) (by simp <;> omega) (.int .i64 (b1 : Int))).setCell (p := ⟨g2, 2, none⟩) (by simp <;> omega) (.int .i64 (b2 : Int))).setCell (p := ⟨g2, 3, none⟩) (by simp <;> omega) (.int .i64 (b3 : Int)))))
      all_goals (
        go_wp2_with fail
        go_roundw
        case rel => exact ⟨k + 1, b0, b1, b2, b3, by omega, by go_num, HSN, hidv ((((hm6.set 0 _).set 1 _).set 2 _).set 3 _), hidv ((((hl6.out.far _ (by simp <;> omega) _).far _ (by simp <;> omega) _).far _ (by simp <;> omega) _).far _ (by simp <;> omega) _), hidv ((((hz6.out.far _ (by simp <;> omega) _).far _ (by simp <;> omega) _).far _ (by simp <;> omega) _).far _ (by simp <;> omega) _), hidv hst⟩
        case measure => simp [intOf]; omega)
    · have hfull := hmap.out
      rw [List.take_of_length_le (by simp; omega), HM.out] at hfull
      simp only [List.cons.injEq, and_true] at hfull
      obtain ⟨rfl, rfl, rfl, rfl⟩ := hfull
      have y0 : wr.cell? ⟨g2, 0, none⟩ = some (.int .i64 (x0 : Int)) := hbm.out.cell 0
      have y1 : wr.cell? ⟨g2, 1, none⟩ = some (.int .i64 (x1 : Int)) := hbm.out.cell 1
      have y2 : wr.cell? ⟨g2, 2, none⟩ = some (.int .i64 (x2 : Int)) := hbm.out.cell 2
      have y3 : wr.cell? ⟨g2, 3, none⟩ = some (.int .i64 (x3 : Int)) := hbm.out.cell 3
      have z0 : wr.cell? ⟨w.heap.size + 1, 0, none⟩ = some (.int .i64 0) := hbz.out.cell 0
      have f0 : wr.frozen? ⟨w.heap.size + 1, 0, none⟩ = false := hbz.out.frozen 0
      have z1 : wr.cell? ⟨w.heap.size + 1, 1, none⟩ = some (.int .i64 0) := hbz.out.cell 1
      have f1 : wr.frozen? ⟨w.heap.size + 1, 1, none⟩ = false := hbz.out.frozen 1
      have z2 : wr.cell? ⟨w.heap.size + 1, 2, none⟩ = some (.int .i64 0) := hbz.out.cell 2
      have f2 : wr.frozen? ⟨w.heap.size + 1, 2, none⟩ = false := hbz.out.frozen 2
      have z3 : wr.cell? ⟨w.heap.size + 1, 3, none⟩ = some (.int .i64 0) := hbz.out.cell 3
      have f3 : wr.frozen? ⟨w.heap.size + 1, 3, none⟩ = false := hbz.out.frozen 3
      have HF := hidv ((((hbz.out.set 0 (.int .i64 (x0 : Int))).set 1 (.int .i64 (x1 : Int))).set 2 (.int .i64 (x2 : Int))).set 3 (.int .i64 (x3 : Int)))
      have E0 := hidv (HF.out.cell 0)
      have E1 := hidv (HF.out.cell 1)
      have E2 := hidv (HF.out.cell 2)
      have E3 := hidv (HF.out.cell 3)
      go_wp2_with fail
      refine bodyPost_ret (v := .agg #[.int .i64 (x0 : Int), .int .i64 (x1 : Int), .int .i64 (x2 : Int), .int .i64 (x3 : Int)]) ?_ rfl ⟨rfl, ?_⟩
      · simp [results, Try.results30, go_sem, E0.out, E1.out, E2.out, E3.out]
      · exact ((((hbe.out.setCell (by simp) _).setCell (by simp) _).setCell (by simp) _).setCell (by simp) _)

end Go.Proofs.Ytjoleenehdfkkaa
