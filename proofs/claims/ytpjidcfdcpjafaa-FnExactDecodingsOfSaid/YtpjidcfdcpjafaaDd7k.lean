/-
  What is kept while the program lists decodings; slices.Clone of numbers: contracts.
-/
import Derived.Test.YtpjidcfdcpjafaaDd7t
import Derived.Test.YtpjidcfdcpjafaaAk
import Derived.Test.YtpjidcfdcpjafaaEq7
import Derived.Laws.AppendOwnNone
namespace Go.Proofs.Ytpjidcfdcpjafaa
open Go.RowKit Go Go.Maps Go.WideMaps
set_option linter.unusedVariables false

set_option maxRecDepth 100000 in
set_option maxHeartbeats 800000 in
theorem cloneD_some (ad : Addr) (c : Nat) (xs : List Int) (B n : Nat) (w : World) (hv : Row w B (.slice (some ad) n c) (xs.map (Value.int .i64))) (hB : B ≤ w.heap.size) (hl : xs.length = n) (hn : n ≤ 1000000) :
    Calls Try.prog 113 #[.slice (some ad) n c] w fun e w' => ∃ u, e = .returned u ∧ Ints w' w.heap.size u xs ∧ Below w.heap.size w w' := by
  obtain ⟨i0, hi, hz0, hz1, hz2⟩ := info_parts Try.infoN
  obtain ⟨A, c', hve, hA0, hA⟩ := hv.cells
  simp only [Value.slice.injEq] at hve
  obtain ⟨rfl, -, rfl⟩ := hve
  have hlit := World.ownsRow_lit (e := 2) (size := 1) (base := w.heap.size) w #[] 0 (Nat.le_refl _) (Nat.zero_le _) rfl
  have HLIT := hidv hlit
  have HA := hidv hA
  have hnews : ∀ j u, (xs.map (Value.int .i64))[j]? = some u → (w.alloc (.cells #[] 2)).cell? (ad.add j) = some u := by
    intro j u hu
    have h0 : 0 < xs.length := by
      rcases Nat.eq_zero_or_pos xs.length with h1 | h1
      · rw [List.eq_nil_of_length_eq_zero h1] at hu; simp at hu
      · exact h1
    obtain ⟨hb, hc⟩ := HA.out ad rfl (by simpa using h0)
    rw [World.cell?_alloc_lt w _ _ (by rw [show (ad.add j).block = ad.block by unfold Addr.add; split <;> rfl]; omega)]
    exact hc j u hu
  have HN := hidv hnews
  have HL := hidv hl
  have q22 := fun (w : World) => Lib.run_eql_slice_nil (P := Try.prog) w 26 2 (some ad) n c 0 0 Try.underlying26
  clear hnews hA0 hlit hA hv hl
  go_enter Try.func113, Try.ntmps113
  go_wp2_with (at_builtin; refine wpList_append_own _ rfl (.tmp 5) (.tmp 6) 26 rfl w.heap.size 2 i0 (.int .i64 0) 1 8 Try.underlying26 hi hz0 hz1 hz2 rfl (by decide) _ 0 [] rfl HLIT.out ad n c (xs.map (Value.int .i64)) rfl (by simp [HL.out]) HN.out (by intro u hu; simp at hu; obtain ⟨x, _, rfl⟩ := hu; rfl) ?_ ?_ ?_ ?_; (unfold maxLen; omega); omega; simp; intro v1 w1 hown1 hgr1 _)
  have HO := hidv hown1
  have HB1 := hidv (((Below.refl w.heap.size w).alloc (Nat.le_refl _) (.cells #[] 2)).grown hgr1 (by simp) (fun k hk => by have h1 : some w.heap.size = some k := hk; injection h1 with h1; omega))
  clear hown1 hgr1
  go_wp2_with fail
  go_ret
  refine ⟨_, rfl, ?_, HB1.out⟩
  have := HO.out
  simp only [Nat.zero_add, List.nil_append] at this
  unfold Ints
  rw [HL.out]
  exact this
set_option maxRecDepth 100000 in
theorem cloneD_nil (w : World) :
    Calls Try.prog 113 #[.slice none 0 0] w fun e w' => ∃ u, e = .returned u ∧ Ints w' w.heap.size u [] ∧ Below w.heap.size w w' := by
  have q22 := fun (w : World) => Lib.run_eql_slice_nil (P := Try.prog) w 26 2 none 0 0 0 0 Try.underlying26
  go_enter Try.func113, Try.ntmps113
  go_wp2_with fail
  go_ret
  exact ⟨_, rfl, Ints.nil _ _, Below.refl _ _⟩
theorem cloneD_any (v : Value) (xs : List Int) (base : Nat) (w : World) (h : w.ownsRow base 2 1 v xs.length (xs.map (Value.int .i64))) (hn : xs.length ≤ 1000000) :
    Calls Try.prog 113 #[v] w fun e w' => ∃ u, e = .returned u ∧ Ints w' w.heap.size u xs ∧ Below w.heap.size w w' := by
  rcases h.2 with ⟨rfl, h0⟩ | ⟨g, cap, cur, rfl, _⟩
  · obtain rfl : xs = [] := List.eq_nil_of_length_eq_zero h0
    exact cloneD_nil w
  · exact cloneD_some _ _ xs w.heap.size _ w (by have := Row.of_own h; exact this) (Nat.le_refl _) rfl hn

/-- What is kept: all below block B, and each row of numbers that is apart from v. -/
def KeepD (w w' : World) (B base : Nat) (v : Value) : Prop :=
  Below B w w' ∧ ∀ (u : Value) (n : Nat) (ys : List Value), w.ownsRow base 2 1 u n ys → AP v u → w'.ownsRow base 2 1 u n ys
theorem KeepD.refl (w : World) (B base : Nat) (v : Value) : KeepD w w B base v := ⟨Below.refl _ _, fun _ _ _ h _ => h⟩
theorem KeepD.trans {a b c : World} {B base : Nat} {v : Value} (h : KeepD a b B base v) (k : KeepD b c B base v) : KeepD a c B base v :=
  ⟨h.1.trans k.1, fun u n ys h1 h2 => k.2 u n ys (h.2 u n ys h1 h2) h2⟩
theorem KeepD.grown {w w' : World} {B base M : Nat} {v : Value} (h : w.grownBy w' (some M)) (hB : B ≤ w.heap.size) (hM : B ≤ M) (hb : M < base) : KeepD w w' B base v :=
  ⟨below_grown h hB (fun k hk => by cases hk; exact hM), fun u n ys h1 _ => own_other h1 h (fun k hk => by cases hk; exact hb)⟩
theorem KeepD.below {w w' : World} {B base : Nat} {v : Value} (h : Below w.heap.size w w') (hB : B ≤ w.heap.size) : KeepD w w' B base v :=
  ⟨h.mono hB, fun u n ys h1 _ => own_below h1 h⟩
theorem KeepD.row {w w' : World} {B base n : Nat} {v : Value} {ys : List Value} (hg : w.grownBy w' v.ownBlock) (hv : w.ownsRow base 2 1 v n ys) (hB : B ≤ base) (hb : base ≤ w.heap.size) : KeepD w w' B base v :=
  ⟨below_grown hg (Nat.le_trans hB hb) (fun k hk => Nat.le_trans hB (World.ownsRow.lt hv k hk).1), fun u m zs h1 h2 => h1.kept (row := v.ownBlock) hg (by
    rcases hu : u.ownBlock with _ | k
    · exact .inl rfl
    · exact .inr (fun e => h2 k e.symm hu))⟩
theorem KeepD.other {w w' : World} {B base n : Nat} {v x : Value} {ys : List Value} (hg : w.grownBy w' x.ownBlock) (hv : w.ownsRow base 26 1 x n ys) (hB : B ≤ base) (hb : base ≤ w.heap.size) : KeepD w w' B base v :=
  ⟨below_grown hg (Nat.le_trans hB hb) (fun k hk => Nat.le_trans hB (World.ownsRow.lt hv k hk).1), fun u m zs h1 _ => own_kindsD hv h1 (by decide) hg⟩
theorem AP.movedD {w : World} {base n e : Nat} {ys : List Value} {v u : Value} {g cap len H : Nat} (hu : w.ownsRow base e 1 u n ys) (ha : AP v u) (hg : v.ownBlock = some g ∨ g = H) (hH : w.heap.size ≤ H) : AP (.slice (some ⟨g, 0, none⟩) len cap) u := by
  intro k hk hv2
  have hgk : g = k := by simpa [Value.ownBlock] using hk
  subst hgk
  rcases hg with h | h
  · exact ha g h hv2
  · have := (World.ownsRow.lt hu g hv2).2; omega
theorem AP.newD {w : World} {v u : Value} (hv : ∀ k, v.ownBlock = some k → k < w.heap.size) (hu : ∀ k, u.ownBlock = some k → w.heap.size ≤ k) : AP v u := fun k h1 h2 => by
  have := hv k h1
  have := hu k h2
  omega
/-- Two values in one block have one capacity. -/
theorem own_capD {w : World} {b1 b2 e1 e2 n1 n2 g c1 c2 : Nat} {x1 x2 : List Value} (h1 : w.ownsRow b1 e1 1 (.slice (some ⟨g, 0, none⟩) n1 c1) n1 x1) (h2 : w.ownsRow b2 e2 1 (.slice (some ⟨g, 0, none⟩) n2 c2) n2 x2) : c1 = c2 := by
  rcases h1.2 with ⟨h0, _⟩ | ⟨g1, k1, cur1, hv1, _, hg1, _, _, hs1, _⟩
  · cases h0
  rcases h2.2 with ⟨h0, _⟩ | ⟨g2, k2, cur2, hv2, _, hg2, _, _, hs2, _⟩
  · cases h0
  simp only [Value.slice.injEq, Option.some.injEq, Addr.mk.injEq] at hv1 hv2
  obtain ⟨⟨rfl, -⟩, -, rfl⟩ := hv1
  obtain ⟨⟨rfl, -⟩, -, rfl⟩ := hv2
  rw [hg1] at hg2
  simp only [Option.some.injEq, Obj.cells.injEq] at hg2
  obtain ⟨rfl, _⟩ := hg2
  omega
/-- The old value is still what it was, where what was appended to it is. -/
theorem own_backD {w4 w5 : World} {base n g cap H : Nat} {v : Value} {xs ys : List Value} {B : Nat} (hx : xs.length = n) (h4 : w4.ownsRow base 2 1 (.slice (some ⟨g, 0, none⟩) (n + 1) cap) (n + 1) (xs ++ ys)) (hv : w4.ownsRow base 2 1 v n xs) (hor : v.ownBlock = some g ∨ g = H) (hlt : ∀ k, v.ownBlock = some k → k < H)
    (h5 : w5.ownsRow base 2 1 (.slice (some ⟨g, 0, none⟩) (n + 1) cap) (n + 1) (xs ++ ys)) (hk : KeepD w4 w5 B base (.slice (some ⟨g, 0, none⟩) (n + 1) cap)) : w5.ownsRow base 2 1 v n xs := by
  by_cases hg : v.ownBlock = some g
  · rcases hv.2 with ⟨rfl, h0⟩ | ⟨g1, k1, cur1, rfl, _⟩
    · cases hg
    · have e : g1 = g := by simpa [Value.ownBlock] using hg
      subst e
      obtain rfl := own_capD hv h4
      exact own_prefixA h5 hx
  · refine hk.2 v n xs hv (fun k h1 h2 => ?_)
    have e : g = k := by simpa [Value.ownBlock] using h1
    subst e
    exact hg h2

/-- The list of what has been found, in memory. -/
def FoD (w : World) (base : Nat) (v : Value) (rs : List (List Int)) (us : List Value) : Prop := w.ownsRow base 26 1 v rs.length us ∧ CopD w base rs us ∧ us.Pairwise AP
/-- What find leaves. -/
def FSt (w w' : World) (B base p M : Nat) (vx vb : Value) (pre : List Int) (us : List Value) (xs : List ByteArray) (s : ByteArray) (L : List (List Int)) : Prop :=
  ∃ (D' : DataW Unit) (vf' : Value) (us' : List Value), OwnC w' M D' ∧ CInv xs s D' ∧ Bx w' p 78 #[vx, .map (some M), vf'] ∧ FoD w' base vf' L us' ∧ w'.ownsRow base 2 1 vb pre.length (pre.map (Value.int .i64)) ∧ KeepD w w' B base vb ∧
    ∀ v : Value, (∀ k, v.ownBlock = some k → k < w.heap.size) → (∀ u ∈ us, AP v u) → ∀ u ∈ us', AP v u
theorem FSt.next {w wr w4 w5 : World} {B base p M g cap H : Nat} {vx vb : Value} {pre : List Int} {x : Int} {us us1 : List Value} {xs : List ByteArray} {s : ByteArray} {L : List (List Int)}
    (hb0 : ∀ k, vb.ownBlock = some k → k < wr.heap.size) (hkf : KeepD w wr B base vb) (hnr : ∀ v : Value, (∀ k, v.ownBlock = some k → k < w.heap.size) → (∀ u ∈ us, AP v u) → ∀ u ∈ us1, AP v u)
    (k2 : KeepD wr w4 B base vb) (h4 : w4.ownsRow base 2 1 (.slice (some ⟨g, 0, none⟩) (pre.length + 1) cap) (pre.length + 1) (pre.map (Value.int .i64) ++ [.int .i64 x])) (hv4 : w4.ownsRow base 2 1 vb pre.length (pre.map (Value.int .i64))) (hor : vb.ownBlock = some g ∨ g = H) (hH : wr.heap.size ≤ H)
    (hf : FSt w4 w5 B base p M vx (.slice (some ⟨g, 0, none⟩) (pre.length + 1) cap) (pre ++ [x]) us1 xs s L) : FSt w w5 B base p M vx vb pre us xs s L := by
  obtain ⟨D', vf', us', f1, f2, f3, f4, f5, f6, f7⟩ := hf
  have s1 := hkf.1.size
  have s2 := k2.1.size
  refine ⟨D', vf', us', f1, f2, f3, f4, ?_, ⟨(hkf.1.trans k2.1).trans f6.1, fun u n ys h1 h2 => ?_⟩, fun v h1 h2 => ?_⟩
  · rw [List.length_append, List.map_append] at f5
    exact own_backD (by simp) h4 hv4 hor (fun k hk => Nat.lt_of_lt_of_le (hb0 k hk) hH) f5 f6
  · have hr := hkf.2 u n ys h1 h2
    exact f6.2 u n ys (k2.2 u n ys hr h2) (AP.movedD hr h2 hor hH)
  · exact f7 v (fun k hk => by have := h1 k hk; omega) (hnr v h1 h2)

theorem CopD.setCell {w : World} {base p j : Nat} {x : Value} {rs : List (List Int)} {us : List Value} (h : CopD w base rs us) (hp : p < base) : CopD (w.setCell ⟨p, j, none⟩ x) base rs us := ⟨h.1, fun i hi => by
  obtain ⟨hr, h1⟩ := h.2 i hi
  exact ⟨hr, own_other (row := some p) h1 (grown_setCell _ _ _ _) (fun k hk => by cases hk; exact hp)⟩⟩
theorem CopD.lt {w : World} {base : Nat} {rs : List (List Int)} {us : List Value} (h : CopD w base rs us) : ∀ u ∈ us, ∀ k, u.ownBlock = some k → base ≤ k ∧ k < w.heap.size := by
  intro u hu k hk
  obtain ⟨i, hi, rfl⟩ := List.getElem_of_mem hu
  obtain ⟨hr, h1⟩ := h.2 i hi
  exact World.ownsRow.lt h1 k hk
theorem FSt.found {w w3 w4 : World} {B base p M g4 cap4 : Nat} {vx vb vf u : Value} {pre : List Int} {rs : List (List Int)} {us : List Value} {xs : List ByteArray} {s : ByteArray} {D : DataW Unit} {o : Obj}
    (hBb : B ≤ base) (hBp : B ≤ p) (hpb : p < base) (hMb : M < base) (hMp : M ≠ p) (hbw : base ≤ w.heap.size) (hown : OwnC w M D) (hinv : CInv xs s D) (hbx : Bx w p 78 #[vx, .map (some M), vf])
    (hpre : w.ownsRow base 2 1 vb pre.length (pre.map (Value.int .i64))) (hfo : FoD w base vf rs us) (hap : ∀ u ∈ us, AP vb u)
    (hbe : Below w.heap.size w w3) (h3 : w3.ownsRow w.heap.size 2 1 u pre.length (pre.map (Value.int .i64))) (h4 : w4.ownsRow base 26 1 (.slice (some ⟨g4, 0, none⟩) (rs.length + 1) cap4) (rs.length + 1) (us ++ [u])) (hg : (w3.alloc o).grownBy w4 vf.ownBlock) :
    FSt w (w4.setCell ⟨p, 2, none⟩ (.slice (some ⟨g4, 0, none⟩) (rs.length + 1) cap4)) B base p M vx vb pre us xs s (rs ++ [pre]) := by
  have hall : w.grownBy w4 vf.ownBlock := grown_trans (grown_below (below_al hbe o)) hg
  have hvb : ∀ k, vf.ownBlock = some k → base ≤ k := fun k hk => (World.ownsRow.lt hfo.1 k hk).1
  have hneM : some M ≠ vf.ownBlock := fun h => by have := hvb M h.symm; omega
  have hnep : some p ≠ vf.ownBlock := fun h => by have := hvb p h.symm; omega
  have hu4 : w4.ownsRow base 2 1 u pre.length (pre.map (Value.int .i64)) := own_kindsD (World.ownsRow.alloc (own_below hfo.1 hbe) o) (World.ownsRow.alloc (own_wider h3 hbw) o) (by decide) hg
  have hul : ∀ k, u.ownBlock = some k → w.heap.size ≤ k := fun k hk => (World.ownsRow.lt h3 k hk).1
  have hlt := hfo.2.1.lt
  have hsz := hall.size
  refine ⟨D, _, us ++ [u], (hown.kept hall hneM).setCell (a := ⟨p, 2, none⟩) hMp _, hinv, (hbx.grown hall hnep).set 2 _, ⟨?_, ?_, ?_⟩, ?_, ?_, ?_⟩
  · rw [List.length_append]
    exact own_other (row := some p) h4 (grown_setCell _ _ _ _) (fun k hk => by cases hk; exact hpb)
  · exact ((hfo.2.1.grown hfo.1 hall).snoc hu4).setCell hpb
  · rw [List.pairwise_append]
    refine ⟨hfo.2.2, by simp, fun a ha b hb => ?_⟩
    obtain rfl : b = u := by simpa using hb
    exact AP.newD (fun k hk => (hlt a ha k hk).2) hul
  · exact own_other (row := some p) (own_kindsD hfo.1 hpre (by decide) hall) (grown_setCell _ _ _ _) (fun k hk => by cases hk; exact hpb)
  · exact (KeepD.other hall hfo.1 hBb hbw).trans (KeepD.grown (grown_setCell w4 p 2 _) (by omega) hBp hpb)
  · intro v h1 h2 x hx
    rcases List.mem_append.1 hx with h | h
    · exact h2 x h
    · obtain rfl : x = u := by simpa using h
      exact AP.newD h1 hul

theorem dcP_mono (xs : List ByteArray) (pre : List Int) (s : ByteArray) (k : Nat) : ∀ m, k ≤ m → (dcP xs pre s k).length ≤ (dcP xs pre s m).length
  | 0, h => by obtain rfl : k = 0 := by omega
               exact Nat.le_refl _
  | m + 1, h => by
    by_cases h1 : k = m + 1
    · subst h1; exact Nat.le_refl _
    · refine Nat.le_trans (dcP_mono xs pre s k m (by omega)) ?_
      unfold dcP
      rw [List.range_succ, List.flatMap_append, List.length_append]
      exact Nat.le_add_right _ _
theorem FoD.grown {w w' : World} {base M : Nat} {v : Value} {rs : List (List Int)} {us : List Value} (h : FoD w base v rs us) (hg : w.grownBy w' (some M)) (hM : M < base) : FoD w' base v rs us :=
  ⟨own_other h.1 hg (fun k hk => by cases hk; exact hM), ⟨h.2.1.1, fun i hi => by
    obtain ⟨hr, h1⟩ := h.2.1.2 i hi
    exact ⟨hr, own_other h1 hg (fun k hk => by cases hk; exact hM)⟩⟩, h.2.2⟩
/-- Behind a count. -/
theorem FSt.count {w wr w3 : World} {B base p M : Nat} {vx vb vf1 : Value} {pre : List Int} {us us1 : List Value} {xs : List ByteArray} {s : ByteArray} {L : List (List Int)} {D2 : DataW Unit}
    (hB : B ≤ w.heap.size) (hB2 : B ≤ M) (hMb : M < base) (hMp : M ≠ p) (f3 : Bx wr p 78 #[vx, .map (some M), vf1]) (f4 : FoD wr base vf1 L us1) (f5 : wr.ownsRow base 2 1 vb pre.length (pre.map (Value.int .i64))) (f6 : KeepD w wr B base vb) (f7 : ∀ v : Value, (∀ k, v.ownBlock = some k → k < w.heap.size) → (∀ u ∈ us, AP v u) → ∀ u ∈ us1, AP v u)
    (h1 : OwnC w3 M D2) (h2 : CInv xs s D2) (hg : wr.grownBy w3 (some M)) : FSt w w3 B base p M vx vb pre us xs s L :=
  ⟨D2, vf1, us1, h1, h2, f3.grown hg (by intro h; injection h with h; exact hMp h.symm), f4.grown hg hMb, own_other f5 hg (fun k hk => by cases hk; exact hMb), f6.trans (KeepD.grown hg (Nat.le_trans hB f6.1.size) hB2 hMb), f7⟩
/-- Behind an append to what has begun. -/
theorem push_ok {w3 w4 : World} {B base p M g n len cap : Nat} {vx vb vf1 : Value} {ys : List Value} {us1 : List Value} {L : List (List Int)} {D2 : DataW Unit} {o : Obj}
    (f1 : OwnC w3 M D2) (f3 : Bx w3 p 78 #[vx, .map (some M), vf1]) (f4 : FoD w3 base vf1 L us1) (f5 : w3.ownsRow base 2 1 vb n ys) (hap : ∀ u ∈ us1, AP vb u) (hMb : M < base) (hpb : p < base) (hbw : base ≤ w3.heap.size) (hB : B ≤ base)
    (hg : (w3.alloc o).grownBy w4 vb.ownBlock) (hor : vb.ownBlock = some g ∨ g = w3.heap.size + 1) :
    OwnC w4 M D2 ∧ Bx w4 p 78 #[vx, .map (some M), vf1] ∧ FoD w4 base vf1 L us1 ∧ (∀ u ∈ us1, AP (.slice (some ⟨g, 0, none⟩) len cap) u) ∧ KeepD w3 w4 B base vb := by
  have hvb : ∀ k, vb.ownBlock = some k → base ≤ k := fun k hk => (World.ownsRow.lt f5 k hk).1
  have hneM : some M ≠ vb.ownBlock := fun h => by have := hvb M h.symm; omega
  have hnep : some p ≠ vb.ownBlock := fun h => by have := hvb p h.symm; omega
  have hba : Below w3.heap.size w3 (w3.alloc o) := below_al (Below.refl _ _) o
  have k1 : KeepD w3 (w3.alloc o) B base vb := KeepD.below hba (Nat.le_trans hB hbw)
  have k2 : KeepD (w3.alloc o) w4 B base vb := KeepD.row hg (World.ownsRow.alloc f5 o) hB (by rw [World.size_alloc]; omega)
  refine ⟨(f1.alloc o).kept hg hneM, (f3.alloc o).grown hg hnep, ⟨own_kindsD (World.ownsRow.alloc f5 o) (World.ownsRow.alloc f4.1 o) (by decide) hg, ⟨f4.2.1.1, fun i hi => ?_⟩, f4.2.2⟩, fun u hu => ?_, k1.trans k2⟩
  · obtain ⟨hr, h1⟩ := f4.2.1.2 i hi
    exact ⟨hr, (k1.trans k2).2 _ _ _ h1 (hap _ (List.getElem_mem _))⟩
  · obtain ⟨i, hi, rfl⟩ := List.getElem_of_mem hu
    obtain ⟨hr, h1⟩ := f4.2.1.2 i hi
    exact AP.movedD h1 (hap _ (List.getElem_mem _)) hor (Nat.le_succ _)

end Go.Proofs.Ytpjidcfdcpjafaa
