/-
  FamilyOfPowers, of the program and of the model: contracts.
-/
import Derived.Test.YthomkmbobaehkaaFamI
import Derived.Test.YthomkmbobaehkaaSh6
namespace Go.Proofs.Ythomkmbobaehkaa
open Go.RowKit Go
set_option linter.unusedVariables false

/-- What FamilyOfPowers gives: a family and a code. -/
def PfR (r t : ByteArray) (f : Int) (rs : List (List Pc)) (c : Int) : Prop :=
  (famL r.data.toList t.data.toList f = false → rs = [] ∧ c = 1) ∧ (famL r.data.toList t.data.toList f = true → rs = [onceQ [(r, f, 1)] t, [], [], []] ∧ c = 0)
theorem pfR_ex (r t : ByteArray) (f : Int) : ∃ rs c, PfR r t f rs c ∧ rs.length + qTot rs ≤ 100 := by
  cases h : famL r.data.toList t.data.toList f
  · exact ⟨[], 1, ⟨fun _ => ⟨rfl, rfl⟩, fun h2 => (by rw [h] at h2; cases h2)⟩, by simp [qTot]⟩
  · refine ⟨_, 0, ⟨fun h2 => (by rw [h] at h2; cases h2), fun _ => ⟨rfl, rfl⟩⟩, ?_⟩
    unfold onceQ qTot
    split <;> simp

set_option maxRecDepth 100000 in
set_option maxHeartbeats 800000 in
theorem implPf_any (r t : ByteArray) (f : Int) (w : World) (hr : r.size ≤ maxLen) (ht : t.size ≤ maxLen) (rs : List (List Pc)) (c : Int) (hR : PfR r t f rs c) :
    Calls Try.prog 38 #[.agg #[.string r, .string t, .int .i64 f]] w fun e w' => ∃ u, e = .returned (.tuple #[u, .int .i64 c]) ∧ FB w' w.heap.size u rs ∧ Below w.heap.size w w' := by
  have C1 := hidv (fun W => implFam_any r t f W hr ht)
  have D1 := hidv (fun v base W hv hb => withOnce_any v [(r, f, 1)] t base W hv hb (by simp))
  have HR := hidv hR
  have hb1 : Below w.heap.size w ((w.alloc (.cells #[.string r, .string t, .int .i64 f] 63)).alloc (.cells #[.slice none 0 0] 48)) := ((Below.refl _ _).alloc (Nat.le_refl _) _).alloc (by simp) _
  have hy1 := (Bx.new w 63 #[.string r, .string t, .int .i64 f]).alloc (.cells #[.slice none 0 0] 48)
  have hx1 := Bx.new (w.alloc (.cells #[.string r, .string t, .int .i64 f] 63)) 48 #[.slice none 0 0]
  have hz1 : ((w.alloc (.cells #[.string r, .string t, .int .i64 f] 63)).alloc (.cells #[.slice none 0 0] 48)).heap.size = w.heap.size + 2 := by simp
  rw [World.size_alloc] at hx1
  clear hR
  obtain ⟨d, hd⟩ : ∃ d, famL r.data.toList t.data.toList f = d := ⟨_, rfl⟩
  rw [hd] at C1
  have HD := hidv hd
  clear hd
  go_enter Try.func38, Try.ntmps38
  go_wp2_with fail
  obtain ⟨W1, hW1⟩ : ∃ W, (w.alloc (.cells #[.string r, .string t, .int .i64 f] 63)).alloc (.cells #[.slice none 0 0] 48) = W := ⟨_, rfl⟩
  rw [hW1] at hb1 hx1 hy1 hz1 ⊢
  clear hW1
  refine (C1.out _).mono ?_
  rintro e w1 ⟨rfl, hbw⟩
  have s1 := hbw.size
  have hx2 := hx1.below hbw
  have hy2 := hy1.below hbw
  have hb2 := below_on hb1 hbw
  clear hbw hx1 hy1 hb1
  cases d
  · obtain ⟨rfl, rfl⟩ := HR.out.1 HD.out
    have f0 := hx2.frozen 0
    have q0 := hx2.one
    have lq := hx2.lt
    have hxe := (hx2.set 0 (.slice none 0 0)).one
    have hbe := hb2.setCell (p := ⟨w.heap.size + 1, 0, none⟩) (by show w.heap.size ≤ w.heap.size + 1; omega) (.slice none 0 0)
    go_wp2_with fail
    refine bodyPost_ret (v := .tuple #[.agg #[.slice none 0 0], .int .i64 1]) ?_ rfl ⟨_, rfl, fb_none _ _, hbe⟩
    simp [results, Try.results38, go_sem, hxe]
  · obtain ⟨rfl, rfl⟩ := HR.out.2 HD.out
    obtain ⟨y0, y1, y2⟩ := three_of hy2
    have ly := hy2.lt
    have ly1 : w.heap.size < w1.heap.size + 1 := by omega
    go_wp2_with fail
    have hlit : Qws (w1.alloc (.cells #[.string r, .int .i64 f, .int .i64 1] 104)) w1.heap.size (.slice (some ⟨w1.heap.size, 0, none⟩) 1 1) [(r, f, 1)] := qws_lit rfl (Nat.le_refl _) _ _ _
    have hx3 := hx2.alloc (.cells #[.string r, .int .i64 f, .int .i64 1] 104)
    have hb3 := below_al hb2 (.cells #[.string r, .int .i64 f, .int .i64 1] 104)
    have hz3 : (w1.alloc (.cells #[.string r, .int .i64 f, .int .i64 1] 104)).heap.size = w1.heap.size + 1 := by simp
    obtain ⟨W3, hW3⟩ : ∃ W, w1.alloc (.cells #[.string r, .int .i64 f, .int .i64 1] 104) = W := ⟨_, rfl⟩
    rw [hW3] at hlit hx3 hb3 hz3 ⊢
    clear hW3 hx2 hb2 y0 y1 y2 ly ly1 hy2
    refine (D1.out _ _ _ hlit (by omega)).mono ?_
    rintro e W4 ⟨u0, rfl, r0, hb4⟩
    have s4 := hb4.size
    have hx4 := hx3.belowB hb4 (by omega)
    have hb4' := hb3.trans (hb4.mono (by omega))
    obtain ⟨A0, c0, rfl, _⟩ := r0.row
    have R0 := hidv r0
    clear r0 hb4 hx3 hb3 hlit
    have f0 := hx4.frozen 0
    have q0 := hx4.one
    have lq := hx4.lt
    go_wp2_with fail
    obtain ⟨W, hW⟩ : ∃ W, W4.setCell ⟨w.heap.size + 1, 0, none⟩ (.slice (some ⟨W4.heap.size, 0, none⟩) 4 4) = W := ⟨_, rfl⟩
    have hbW : Below w.heap.size w W := by rw [← hW]; exact hb4'.setCell (by show w.heap.size ≤ w.heap.size + 1; omega) _
    have hzW : W.heap.size = W4.heap.size := by rw [← hW]; simp [World.setCell]
    have hxW : Bx W (w.heap.size + 1) 48 #[.slice (some ⟨W4.heap.size, 0, none⟩) 4 4] := by rw [← hW]; exact hx4.set 0 _
    have r0' := (R0.out.setCell (g := w.heap.size + 1) (j := 0) (x := .slice (some ⟨W4.heap.size, 0, none⟩) 4 4) (by omega)).wider (base' := w.heap.size) (by omega)
    rw [hW] at r0' ⊢
    have hfb := qb_four hzW (by omega) r0' (qws_nil _ _) (qws_nil _ _) (qws_nil _ _) (apt_four (by simp [Value.ownBlock]) (by simp [Value.ownBlock]) (by simp [Value.ownBlock]) (by simp [Value.ownBlock]) (by simp [Value.ownBlock]) (by simp [Value.ownBlock]))
    have hxe := (hxW.alloc (.cells #[.slice A0 (onceQ [(r, f, 1)] t).length c0, .slice none 0 0, .slice none 0 0, .slice none 0 0] 83)).one
    refine bodyPost_ret (v := .tuple #[.agg #[.slice (some ⟨W4.heap.size, 0, none⟩) 4 4], .int .i64 0]) ?_ rfl ⟨_, rfl, ⟨_, rfl, hfb⟩, below_al hbW _⟩
    simp [results, Try.results38, go_sem, hxe]

set_option maxRecDepth 100000 in
set_option maxHeartbeats 1600000 in
theorem specPf_any (r t : ByteArray) (f : Int) (w : World) (hr : r.size ≤ maxLen) (ht : t.size ≤ maxLen) (rs : List (List Pc)) (c : Int) (hR : PfR r t f rs c) :
    Calls Try.prog 36 #[.agg #[.string r, .string t, .int .i64 f]] w fun e w' => ∃ u, e = .returned (.tuple #[u, .int .i64 c]) ∧ FB w' w.heap.size u rs ∧ Below w.heap.size w w' := by
  have D1 := hidv (fun W => l06Tail_any r f t W)
  have HR := hidv hR
  have hb1 : Below w.heap.size w ((w.alloc (.cells #[.string r, .string t, .int .i64 f] 63)).alloc (.cells #[.slice none 0 0] 48)) := ((Below.refl _ _).alloc (Nat.le_refl _) _).alloc (by simp) _
  have hy1 := (Bx.new w 63 #[.string r, .string t, .int .i64 f]).alloc (.cells #[.slice none 0 0] 48)
  have hx1 := Bx.new (w.alloc (.cells #[.string r, .string t, .int .i64 f] 63)) 48 #[.slice none 0 0]
  have hz1 : ((w.alloc (.cells #[.string r, .string t, .int .i64 f] 63)).alloc (.cells #[.slice none 0 0] 48)).heap.size = w.heap.size + 2 := by simp
  rw [World.size_alloc] at hx1
  have C1 := hidv (fun W (hy : Bx W w.heap.size 63 #[.string r, .string t, .int .i64 f]) => specFam_any w.heap.size r t f W (three_of hy).1 (three_of hy).2.1 (three_of hy).2.2 hr ht)
  clear hR
  obtain ⟨d, hd⟩ : ∃ d, famL r.data.toList t.data.toList f = d := ⟨_, rfl⟩
  rw [hd] at C1
  have HD := hidv hd
  clear hd
  go_enter Try.func36, Try.ntmps36
  go_wp2_with fail
  obtain ⟨W1, hW1⟩ : ∃ W, (w.alloc (.cells #[.string r, .string t, .int .i64 f] 63)).alloc (.cells #[.slice none 0 0] 48) = W := ⟨_, rfl⟩
  rw [hW1] at hb1 hx1 hy1 hz1 ⊢
  clear hW1
  refine (C1.out _ hy1).mono ?_
  rintro e w1' ⟨rfl, m, rfl⟩
  obtain ⟨w1, hw1⟩ : ∃ W, W1.drewN m = W := ⟨_, rfl⟩
  have hx2 : Bx w1 (w.heap.size + 1) 48 #[.slice none 0 0] := by rw [← hw1]; exact hx1
  have hy2 : Bx w1 w.heap.size 63 #[.string r, .string t, .int .i64 f] := by rw [← hw1]; exact hy1
  have hb2 : Below w.heap.size w w1 := by rw [← hw1]; exact below_drewN hb1 m
  have s1 : w1.heap.size = w.heap.size + 2 := by rw [← hw1]; exact hz1
  rw [hw1]
  clear hw1 hx1 hy1 hb1
  cases d
  · obtain ⟨rfl, rfl⟩ := HR.out.1 HD.out
    have f0 := hx2.frozen 0
    have q0 := hx2.one
    have lq := hx2.lt
    have hxe := (hx2.set 0 (.slice none 0 0)).one
    have hbe := hb2.setCell (p := ⟨w.heap.size + 1, 0, none⟩) (by show w.heap.size ≤ w.heap.size + 1; omega) (.slice none 0 0)
    go_wp2_with fail
    refine bodyPost_ret (v := .tuple #[.agg #[.slice none 0 0], .int .i64 1]) ?_ rfl ⟨_, rfl, fb_none _ _, hbe⟩
    simp [results, Try.results36, go_sem, hxe]
  · obtain ⟨rfl, rfl⟩ := HR.out.2 HD.out
    obtain ⟨y0, y1, y2⟩ := three_of hy2
    have ly := hy2.lt
    go_wp2_with fail
    clear y0 y1 y2 ly hy2
    refine (D1.out _).mono ?_
    rintro e W3 ⟨u0, rfl, r0, hb3⟩
    have s3 := hb3.size
    have hx3 := hx2.below hb3
    have hb3' := below_on hb2 hb3
    have L0 := hidv r0.lt
    obtain ⟨A0, c0, rfl, _⟩ := r0.row
    have R0 := hidv r0
    clear r0 hb3 hx2
    have f0 := hx3.frozen 0
    have q0 := hx3.one
    have lq := hx3.lt
    have lq1 : w.heap.size + 1 < W3.heap.size + 1 := by omega
    have lq2 : w.heap.size + 1 < W3.heap.size + 1 + 1 := by omega
    have lq3 : w.heap.size + 1 < W3.heap.size + 1 + 1 + 1 := by omega
    go_wp2_with fail
    obtain ⟨W, hW⟩ : ∃ W, W3.setCell ⟨w.heap.size + 1, 0, none⟩ (.slice (some ⟨W3.heap.size + 1 + 1 + 1, 0, none⟩) 4 4) = W := ⟨_, rfl⟩
    have hbW : Below w.heap.size w W := by rw [← hW]; exact hb3'.setCell (by show w.heap.size ≤ w.heap.size + 1; omega) _
    have hzW : W.heap.size = W3.heap.size := by rw [← hW]; simp [World.setCell]
    have hxW : Bx W (w.heap.size + 1) 48 #[.slice (some ⟨W3.heap.size + 1 + 1 + 1, 0, none⟩) 4 4] := by rw [← hW]; exact hx3.set 0 _
    have r0 := (R0.out.setCell (g := w.heap.size + 1) (j := 0) (x := .slice (some ⟨W3.heap.size + 1 + 1 + 1, 0, none⟩) 4 4) (by omega)).wider (base' := w.heap.size) (by omega)
    rw [hW] at r0 ⊢
    obtain ⟨V1, hV1⟩ : ∃ V, W.alloc (.cells #[] 104) = V := ⟨_, rfl⟩
    have r1 : Qws V1 w.heap.size (.slice (some ⟨W3.heap.size, 0, none⟩) 0 0) [] := by rw [← hV1]; exact qws_lit0 hzW (by omega)
    have r01 := r0.alloc (.cells #[] 104)
    have z1 : V1.heap.size = W3.heap.size + 1 := by rw [← hV1]; simp [hzW]
    have b1 : Below w.heap.size w V1 := by rw [← hV1]; exact below_al hbW _
    have x1 := hxW.alloc (.cells #[] 104)
    rw [hV1] at r01 x1 ⊢
    obtain ⟨V2, hV2⟩ : ∃ V, V1.alloc (.cells #[] 104) = V := ⟨_, rfl⟩
    have r2 : Qws V2 w.heap.size (.slice (some ⟨W3.heap.size + 1, 0, none⟩) 0 0) [] := by rw [← hV2]; exact qws_lit0 z1 (by omega)
    have r02 := r01.alloc (.cells #[] 104)
    have r12 := r1.alloc (.cells #[] 104)
    have z2 : V2.heap.size = W3.heap.size + 1 + 1 := by rw [← hV2]; simp [z1]
    have b2 : Below w.heap.size w V2 := by rw [← hV2]; exact below_al b1 _
    have x2 := x1.alloc (.cells #[] 104)
    rw [hV2] at r02 r12 x2 ⊢
    obtain ⟨V3, hV3⟩ : ∃ V, V2.alloc (.cells #[] 104) = V := ⟨_, rfl⟩
    have r3 : Qws V3 w.heap.size (.slice (some ⟨W3.heap.size + 1 + 1, 0, none⟩) 0 0) [] := by rw [← hV3]; exact qws_lit0 z2 (by omega)
    have r03 := r02.alloc (.cells #[] 104)
    have r13 := r12.alloc (.cells #[] 104)
    have r23 := r2.alloc (.cells #[] 104)
    have z3 : V3.heap.size = W3.heap.size + 1 + 1 + 1 := by rw [← hV3]; simp [z2]
    have b3 : Below w.heap.size w V3 := by rw [← hV3]; exact below_al b2 _
    have x3 := x2.alloc (.cells #[] 104)
    rw [hV3] at r03 r13 r23 x3 ⊢
    have hfb := qb_four z3 (base := w.heap.size) (by omega) r03 r13 r23 r3 (apt_four (fun a h1 h2 => by have := L0.out a h1; simp [Value.ownBlock] at h2; omega) (fun a h1 h2 => by have := L0.out a h1; simp [Value.ownBlock] at h2; omega) (fun a h1 h2 => by have := L0.out a h1; simp [Value.ownBlock] at h2; omega) (by simp [Value.ownBlock] <;> omega) (by simp [Value.ownBlock] <;> omega) (by simp [Value.ownBlock] <;> omega))
    have hxe := (x3.alloc (.cells #[.slice A0 (onceQ [(r, f, 1)] t).length c0, .slice (some ⟨W3.heap.size, 0, none⟩) 0 0, .slice (some ⟨W3.heap.size + 1, 0, none⟩) 0 0, .slice (some ⟨W3.heap.size + 1 + 1, 0, none⟩) 0 0] 83)).one
    refine bodyPost_ret (v := .tuple #[.agg #[.slice (some ⟨W3.heap.size + 1 + 1 + 1, 0, none⟩) 4 4], .int .i64 0]) ?_ rfl ⟨_, rfl, ⟨_, rfl, hfb⟩, below_al b3 _⟩
    simp [results, Try.results36, go_sem, hxe]

end Go.Proofs.Ythomkmbobaehkaa
