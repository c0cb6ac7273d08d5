/-
  ShiftingFamily, of the program and of the model: contracts.
-/
import Derived.Test.YtlmdmbhmmfdajaaTl
import Derived.Test.YtlmdmbhmmfdajaaCf
namespace Go.Proofs.Ytlmdmbhmmfdajaa
open Go.RowKit Go
set_option linter.unusedVariables false

theorem Qws.wider {w : World} {base base' : Nat} {v : Value} {r : List Pc} (h : Qws w base v r) (hb : base' ≤ base) : Qws w base' v r := own_wider (show w.ownsRow _ _ _ _ _ _ from h) hb
theorem Qws.lt {w : World} {base : Nat} {v : Value} {r : List Pc} (h : Qws w base v r) : ∀ k, v.ownBlock = some k → base ≤ k ∧ k < w.heap.size := World.ownsRow.lt (show w.ownsRow _ _ _ _ _ _ from h)
theorem Qws.setCell {w : World} {base g j : Nat} {x : Value} {v : Value} {r : List Pc} (h : Qws w base v r) (hg : g < base) : Qws (w.setCell ⟨g, j, none⟩ x) base v r := own_other (row := some g) (show w.ownsRow _ _ _ _ _ _ from h) (grown_setCell _ _ _ _) (fun k hk => by cases hk; exact hg)
theorem wordB_app {p q : ByteArray} (hp : Wd.wordB p.data.toList = true) (hq : Wd.wordB q.data.toList = true) : Wd.wordB (p ++ q).data.toList = decide (p.size + q.size ≤ 60) := by
  unfold Wd.wordB at hp hq ⊢
  rw [Bool.and_eq_true] at hp hq
  rw [ByteArray.data_append, Array.toList_append, List.all_append, hp.2, hq.2, List.length_append]
  simp
theorem size_app (p q : ByteArray) : (p ++ q).size = p.size + q.size := by simp
theorem onceQ_nil {s : ByteArray} (h : s.size ≠ 0) : onceQ [] s = [(s, 1, 0)] := by unfold onceQ; rw [if_neg h]; rfl

set_option maxHeartbeats 400000 in
theorem implSh_bad (p q : ByteArray) (w : World) (hs : p.size ≤ maxLen) (ht : q.size ≤ maxLen) (h : (Wd.wordB p.data.toList && Wd.wordB q.data.toList) = false) :
    Calls Try.prog 21 #[.string p, .string q] w fun e w' => ∃ u, e = .returned (.tuple #[u, .int .i64 1]) ∧ FB w' w.heap.size u [] ∧ Below w.heap.size w w' := by
  have c1 := implValidWord_any p
  have c2 := implValidWord_any q
  cases hw : Wd.wordB p.data.toList
  · rw [hw] at c1
    have C1 := hidv (fun W => c1 W hs)
    clear h c1 c2 hw
    go_enter Try.func21, Try.ntmps21
    go_wp2_with fail
    have hb1 : Below w.heap.size w (w.alloc (.cells #[.slice none 0 0] 29)) := (Below.refl _ _).alloc (Nat.le_refl _) _
    have hx1 := Bx.new w 29 #[.slice none 0 0]
    have hz1 : (w.alloc (.cells #[.slice none 0 0] 29)).heap.size = w.heap.size + 1 := by simp
    obtain ⟨W1, hW1⟩ : ∃ W, w.alloc (.cells #[.slice none 0 0] 29) = W := ⟨_, rfl⟩
    rw [hW1] at hb1 hx1 hz1 ⊢
    clear hW1
    refine (C1.out _).mono ?_
    rintro e w' ⟨rfl, rfl⟩
    have f0 := hx1.frozen 0
    have q0 := hx1.one
    have lq := hx1.lt
    have hxe := (hx1.set 0 (.slice none 0 0)).one
    have hbe := hb1.setCell (p := ⟨w.heap.size, 0, none⟩) (Nat.le_refl _) (.slice none 0 0)
    go_wp2_with fail
    refine bodyPost_ret (v := .tuple #[.agg #[.slice none 0 0], .int .i64 1]) ?_ rfl ⟨_, rfl, fb_none _ _, hbe⟩
    simp [results, Try.results21, go_sem, hxe]
  · have hw2 : Wd.wordB q.data.toList = false := by simpa [hw] using h
    rw [hw] at c1
    rw [hw2] at c2
    have C1 := hidv (fun W => c1 W hs)
    have C2 := hidv (fun W => c2 W ht)
    clear h c1 c2 hw hw2
    go_enter Try.func21, Try.ntmps21
    go_wp2_with fail
    have hb1 : Below w.heap.size w (w.alloc (.cells #[.slice none 0 0] 29)) := (Below.refl _ _).alloc (Nat.le_refl _) _
    have hx1 := Bx.new w 29 #[.slice none 0 0]
    have hz1 : (w.alloc (.cells #[.slice none 0 0] 29)).heap.size = w.heap.size + 1 := by simp
    obtain ⟨W1, hW1⟩ : ∃ W, w.alloc (.cells #[.slice none 0 0] 29) = W := ⟨_, rfl⟩
    rw [hW1] at hb1 hx1 hz1 ⊢
    clear hW1
    refine (C1.out _).mono ?_
    rintro e w' ⟨rfl, rfl⟩
    go_wp2_with fail
    refine (C2.out _).mono ?_
    rintro e w' ⟨rfl, rfl⟩
    have f0 := hx1.frozen 0
    have q0 := hx1.one
    have lq := hx1.lt
    have hxe := (hx1.set 0 (.slice none 0 0)).one
    have hbe := hb1.setCell (p := ⟨w.heap.size, 0, none⟩) (Nat.le_refl _) (.slice none 0 0)
    go_wp2_with fail
    refine bodyPost_ret (v := .tuple #[.agg #[.slice none 0 0], .int .i64 1]) ?_ rfl ⟨_, rfl, fb_none _ _, hbe⟩
    simp [results, Try.results21, go_sem, hxe]

set_option maxHeartbeats 400000 in
theorem implSh_state (p q : ByteArray) (w : World) (hp : Wd.wordB p.data.toList = true) (hq : Wd.wordB q.data.toList = true) (h1 : p.size = 0) (h2 : q.size = 0) :
    Calls Try.prog 21 #[.string p, .string q] w fun e w' => ∃ u, e = .returned (.tuple #[u, .int .i64 4]) ∧ FB w' w.heap.size u [] ∧ Below w.heap.size w w' := by
  have c1 := implValidWord_any p
  have c2 := implValidWord_any q
  have hsp := sizeF hp
  have hsq := sizeF hq
  rw [hp] at c1
  rw [hq] at c2
  have C1 := hidv (fun W => c1 W (by unfold maxLen; omega))
  have C2 := hidv (fun W => c2 W (by unfold maxLen; omega))
  have hcat : ¬ (9223372036854775807 < p.size + q.size) := by omega
  have hcat2 : ¬ (9223372036854775807 < q.size + p.size) := by omega
  have he := isEmptyB (x := p ++ q)
  rw [decide_eq_true (by rw [size_app]; omega)] at he
  clear c1 c2 hp hq
  go_enter Try.func21, Try.ntmps21
  go_wp2_with fail
  have hb1 : Below w.heap.size w (w.alloc (.cells #[.slice none 0 0] 29)) := (Below.refl _ _).alloc (Nat.le_refl _) _
  have hx1 := Bx.new w 29 #[.slice none 0 0]
  have hz1 : (w.alloc (.cells #[.slice none 0 0] 29)).heap.size = w.heap.size + 1 := by simp
  obtain ⟨W1, hW1⟩ : ∃ W, w.alloc (.cells #[.slice none 0 0] 29) = W := ⟨_, rfl⟩
  rw [hW1] at hb1 hx1 hz1 ⊢
  clear hW1
  refine (C1.out _).mono ?_
  rintro e w' ⟨rfl, rfl⟩
  go_wp2_with fail
  refine (C2.out _).mono ?_
  rintro e w' ⟨rfl, rfl⟩
  have f0 := hx1.frozen 0
  have q0 := hx1.one
  have lq := hx1.lt
  have hxe := (hx1.set 0 (.slice none 0 0)).one
  have hbe := hb1.setCell (p := ⟨w.heap.size, 0, none⟩) (Nat.le_refl _) (.slice none 0 0)
  go_wp2_with fail
  refine bodyPost_ret (v := .tuple #[.agg #[.slice none 0 0], .int .i64 4]) ?_ rfl ⟨_, rfl, fb_none _ _, hbe⟩
  simp [results, Try.results21, go_sem, hxe]

set_option maxHeartbeats 400000 in
theorem implSh_limit (p q : ByteArray) (w : World) (hp : Wd.wordB p.data.toList = true) (hq : Wd.wordB q.data.toList = true) (h : 60 < p.size + q.size) :
    Calls Try.prog 21 #[.string p, .string q] w fun e w' => ∃ u, e = .returned (.tuple #[u, .int .i64 3]) ∧ FB w' w.heap.size u [] ∧ Below w.heap.size w w' := by
  have c1 := implValidWord_any p
  have c2 := implValidWord_any q
  have hsp := sizeF hp
  have hsq := sizeF hq
  rw [hp] at c1
  rw [hq] at c2
  have C1 := hidv (fun W => c1 W (by unfold maxLen; omega))
  have C2 := hidv (fun W => c2 W (by unfold maxLen; omega))
  have hcat : ¬ (9223372036854775807 < p.size + q.size) := by omega
  have hcat2 : ¬ (9223372036854775807 < q.size + p.size) := by omega
  have he := isEmptyB (x := p ++ q)
  rw [decide_eq_false (by rw [size_app]; omega)] at he
  have c3 := implValidWord_any (p ++ q)
  rw [wordB_app hp hq, decide_eq_false (by omega)] at c3
  have C3 := hidv (fun W => c3 W (by rw [size_app]; unfold maxLen; omega))
  clear c1 c2 c3 hp hq
  go_enter Try.func21, Try.ntmps21
  go_wp2_with fail
  have hb1 : Below w.heap.size w (w.alloc (.cells #[.slice none 0 0] 29)) := (Below.refl _ _).alloc (Nat.le_refl _) _
  have hx1 := Bx.new w 29 #[.slice none 0 0]
  have hz1 : (w.alloc (.cells #[.slice none 0 0] 29)).heap.size = w.heap.size + 1 := by simp
  obtain ⟨W1, hW1⟩ : ∃ W, w.alloc (.cells #[.slice none 0 0] 29) = W := ⟨_, rfl⟩
  rw [hW1] at hb1 hx1 hz1 ⊢
  clear hW1
  refine (C1.out _).mono ?_
  rintro e w' ⟨rfl, rfl⟩
  go_wp2_with fail
  refine (C2.out _).mono ?_
  rintro e w' ⟨rfl, rfl⟩
  go_wp2_with fail
  refine (C3.out _).mono ?_
  rintro e w' ⟨rfl, rfl⟩
  have f0 := hx1.frozen 0
  have q0 := hx1.one
  have lq := hx1.lt
  have hxe := (hx1.set 0 (.slice none 0 0)).one
  have hbe := hb1.setCell (p := ⟨w.heap.size, 0, none⟩) (Nat.le_refl _) (.slice none 0 0)
  go_wp2_with fail
  refine bodyPost_ret (v := .tuple #[.agg #[.slice none 0 0], .int .i64 3]) ?_ rfl ⟨_, rfl, fb_none _ _, hbe⟩
  simp [results, Try.results21, go_sem, hxe]

set_option maxHeartbeats 400000 in
theorem specSh_bad (p q : ByteArray) (w : World) (hs : p.size ≤ maxLen) (ht : q.size ≤ maxLen) (h : (Wd.wordB p.data.toList && Wd.wordB q.data.toList) = false) :
    Calls Try.prog 20 #[.string p, .string q] w fun e w' => ∃ u, e = .returned (.tuple #[u, .int .i64 1]) ∧ FB w' w.heap.size u [] ∧ Below w.heap.size w w' := by
  have c1 := specWord_any p
  have c2 := specWord_any q
  cases hw : Wd.wordB p.data.toList
  · rw [hw] at c1
    have C1 := hidv (fun W => c1 W hs)
    clear h c1 c2 hw
    go_enter Try.func20, Try.ntmps20
    go_wp2_with fail
    have hb1 : Below w.heap.size w (w.alloc (.cells #[.slice none 0 0] 29)) := (Below.refl _ _).alloc (Nat.le_refl _) _
    have hx1 := Bx.new w 29 #[.slice none 0 0]
    have hz1 : (w.alloc (.cells #[.slice none 0 0] 29)).heap.size = w.heap.size + 1 := by simp
    obtain ⟨W1, hW1⟩ : ∃ W, w.alloc (.cells #[.slice none 0 0] 29) = W := ⟨_, rfl⟩
    rw [hW1] at hb1 hx1 hz1 ⊢
    clear hW1
    refine (C1.out _).mono ?_
    rintro e w' ⟨rfl, rfl⟩
    have f0 := hx1.frozen 0
    have q0 := hx1.one
    have lq := hx1.lt
    have hxe := (hx1.set 0 (.slice none 0 0)).one
    have hbe := hb1.setCell (p := ⟨w.heap.size, 0, none⟩) (Nat.le_refl _) (.slice none 0 0)
    go_wp2_with fail
    refine bodyPost_ret (v := .tuple #[.agg #[.slice none 0 0], .int .i64 1]) ?_ rfl ⟨_, rfl, fb_none _ _, hbe⟩
    simp [results, Try.results20, go_sem, hxe]
  · have hw2 : Wd.wordB q.data.toList = false := by simpa [hw] using h
    rw [hw] at c1
    rw [hw2] at c2
    have C1 := hidv (fun W => c1 W hs)
    have C2 := hidv (fun W => c2 W ht)
    clear h c1 c2 hw hw2
    go_enter Try.func20, Try.ntmps20
    go_wp2_with fail
    have hb1 : Below w.heap.size w (w.alloc (.cells #[.slice none 0 0] 29)) := (Below.refl _ _).alloc (Nat.le_refl _) _
    have hx1 := Bx.new w 29 #[.slice none 0 0]
    have hz1 : (w.alloc (.cells #[.slice none 0 0] 29)).heap.size = w.heap.size + 1 := by simp
    obtain ⟨W1, hW1⟩ : ∃ W, w.alloc (.cells #[.slice none 0 0] 29) = W := ⟨_, rfl⟩
    rw [hW1] at hb1 hx1 hz1 ⊢
    clear hW1
    refine (C1.out _).mono ?_
    rintro e w' ⟨rfl, rfl⟩
    go_wp2_with fail
    refine (C2.out _).mono ?_
    rintro e w' ⟨rfl, rfl⟩
    have f0 := hx1.frozen 0
    have q0 := hx1.one
    have lq := hx1.lt
    have hxe := (hx1.set 0 (.slice none 0 0)).one
    have hbe := hb1.setCell (p := ⟨w.heap.size, 0, none⟩) (Nat.le_refl _) (.slice none 0 0)
    go_wp2_with fail
    refine bodyPost_ret (v := .tuple #[.agg #[.slice none 0 0], .int .i64 1]) ?_ rfl ⟨_, rfl, fb_none _ _, hbe⟩
    simp [results, Try.results20, go_sem, hxe]

set_option maxHeartbeats 400000 in
theorem specSh_state (p q : ByteArray) (w : World) (hp : Wd.wordB p.data.toList = true) (hq : Wd.wordB q.data.toList = true) (h1 : p.size = 0) (h2 : q.size = 0) :
    Calls Try.prog 20 #[.string p, .string q] w fun e w' => ∃ u, e = .returned (.tuple #[u, .int .i64 4]) ∧ FB w' w.heap.size u [] ∧ Below w.heap.size w w' := by
  have c1 := specWord_any p
  have c2 := specWord_any q
  have hsp := sizeF hp
  have hsq := sizeF hq
  rw [hp] at c1
  rw [hq] at c2
  have C1 := hidv (fun W => c1 W (by unfold maxLen; omega))
  have C2 := hidv (fun W => c2 W (by unfold maxLen; omega))
  have hcat : ¬ (9223372036854775807 < p.size + q.size) := by omega
  have hcat2 : ¬ (9223372036854775807 < q.size + p.size) := by omega
  have he := isEmptyB (x := p)
  have he2 := isEmptyB (x := q)
  rw [decide_eq_true h1] at he
  rw [decide_eq_true h2] at he2
  clear c1 c2 hp hq
  go_enter Try.func20, Try.ntmps20
  go_wp2_with fail
  have hb1 : Below w.heap.size w (w.alloc (.cells #[.slice none 0 0] 29)) := (Below.refl _ _).alloc (Nat.le_refl _) _
  have hx1 := Bx.new w 29 #[.slice none 0 0]
  have hz1 : (w.alloc (.cells #[.slice none 0 0] 29)).heap.size = w.heap.size + 1 := by simp
  obtain ⟨W1, hW1⟩ : ∃ W, w.alloc (.cells #[.slice none 0 0] 29) = W := ⟨_, rfl⟩
  rw [hW1] at hb1 hx1 hz1 ⊢
  clear hW1
  refine (C1.out _).mono ?_
  rintro e w' ⟨rfl, rfl⟩
  go_wp2_with fail
  refine (C2.out _).mono ?_
  rintro e w' ⟨rfl, rfl⟩
  have f0 := hx1.frozen 0
  have q0 := hx1.one
  have lq := hx1.lt
  have hxe := (hx1.set 0 (.slice none 0 0)).one
  have hbe := hb1.setCell (p := ⟨w.heap.size, 0, none⟩) (Nat.le_refl _) (.slice none 0 0)
  go_wp2_with fail
  refine bodyPost_ret (v := .tuple #[.agg #[.slice none 0 0], .int .i64 4]) ?_ rfl ⟨_, rfl, fb_none _ _, hbe⟩
  simp [results, Try.results20, go_sem, hxe]

set_option maxHeartbeats 400000 in
theorem specSh_limit (p q : ByteArray) (w : World) (hp : Wd.wordB p.data.toList = true) (hq : Wd.wordB q.data.toList = true) (h : 60 < p.size + q.size) :
    Calls Try.prog 20 #[.string p, .string q] w fun e w' => ∃ u, e = .returned (.tuple #[u, .int .i64 3]) ∧ FB w' w.heap.size u [] ∧ Below w.heap.size w w' := by
  have c1 := specWord_any p
  have c2 := specWord_any q
  have hsp := sizeF hp
  have hsq := sizeF hq
  rw [hp] at c1
  rw [hq] at c2
  have C1 := hidv (fun W => c1 W (by unfold maxLen; omega))
  have C2 := hidv (fun W => c2 W (by unfold maxLen; omega))
  have hcat : ¬ (9223372036854775807 < p.size + q.size) := by omega
  have hcat2 : ¬ (9223372036854775807 < q.size + p.size) := by omega
  have he := isEmptyB (x := p)
  have he2 := isEmptyB (x := q)
  have hp0 : p.size ≠ 0 := by omega
  rw [decide_eq_false hp0] at he
  clear c1 c2 hp hq
  go_enter Try.func20, Try.ntmps20
  go_wp2_with fail
  have hb1 : Below w.heap.size w (w.alloc (.cells #[.slice none 0 0] 29)) := (Below.refl _ _).alloc (Nat.le_refl _) _
  have hx1 := Bx.new w 29 #[.slice none 0 0]
  have hz1 : (w.alloc (.cells #[.slice none 0 0] 29)).heap.size = w.heap.size + 1 := by simp
  obtain ⟨W1, hW1⟩ : ∃ W, w.alloc (.cells #[.slice none 0 0] 29) = W := ⟨_, rfl⟩
  rw [hW1] at hb1 hx1 hz1 ⊢
  clear hW1
  refine (C1.out _).mono ?_
  rintro e w' ⟨rfl, rfl⟩
  go_wp2_with fail
  refine (C2.out _).mono ?_
  rintro e w' ⟨rfl, rfl⟩
  have f0 := hx1.frozen 0
  have q0 := hx1.one
  have lq := hx1.lt
  have hxe := (hx1.set 0 (.slice none 0 0)).one
  have hbe := hb1.setCell (p := ⟨w.heap.size, 0, none⟩) (Nat.le_refl _) (.slice none 0 0)
  go_wp2_with fail
  refine bodyPost_ret (v := .tuple #[.agg #[.slice none 0 0], .int .i64 3]) ?_ rfl ⟨_, rfl, fb_none _ _, hbe⟩
  simp [results, Try.results20, go_sem, hxe]

set_option maxRecDepth 100000 in
set_option maxHeartbeats 800000 in
theorem implSh_ok (p q : ByteArray) (w : World) (hp : Wd.wordB p.data.toList = true) (hq : Wd.wordB q.data.toList = true) (h : p.size + q.size ≤ 60) (h0 : ¬ (p.size = 0 ∧ q.size = 0)) :
    Calls Try.prog 21 #[.string p, .string q] w fun e w' => ∃ u, e = .returned (.tuple #[u, .int .i64 0]) ∧ FB w' w.heap.size u [onceQ [(p ++ q, 0, 1)] p, [(q ++ p, 1, 0)], [(p ++ q, 1, 0)], []] ∧ Below w.heap.size w w' := by
  have c1 := implValidWord_any p
  have c2 := implValidWord_any q
  have hsp := sizeF hp
  have hsq := sizeF hq
  rw [hp] at c1
  rw [hq] at c2
  have C1 := hidv (fun W => c1 W (by unfold maxLen; omega))
  have C2 := hidv (fun W => c2 W (by unfold maxLen; omega))
  have hcat : ¬ (9223372036854775807 < p.size + q.size) := by omega
  have hcat2 : ¬ (9223372036854775807 < q.size + p.size) := by omega
  have he := isEmptyB (x := p ++ q)
  rw [decide_eq_false (by rw [size_app]; omega)] at he
  have c3 := implValidWord_any (p ++ q)
  rw [wordB_app hp hq, decide_eq_true h] at c3
  have C3 := hidv (fun W => c3 W (by rw [size_app]; unfold maxLen; omega))
  have o1 : onceQ [] (q ++ p) = [(q ++ p, 1, 0)] := onceQ_nil (by rw [size_app]; omega)
  have o2 : onceQ [] (p ++ q) = [(p ++ q, 1, 0)] := onceQ_nil (by rw [size_app]; omega)
  have D1 := hidv (fun v base W hv hb => withOnce_any v [(p ++ q, 0, 1)] p base W hv hb (by simp))
  have D2 := hidv (fun W => withOnce_any (.slice none 0 0) [] (q ++ p) W.heap.size W (qws_nil _ _) (Nat.le_refl _) (by simp))
  have D3 := hidv (fun W => withOnce_any (.slice none 0 0) [] (p ++ q) W.heap.size W (qws_nil _ _) (Nat.le_refl _) (by simp))
  rw [o1] at D2
  rw [o2] at D3
  clear c1 c2 c3 hp hq o1 o2 h0 h
  go_enter Try.func21, Try.ntmps21
  go_wp2_with fail
  have hb1 : Below w.heap.size w (w.alloc (.cells #[.slice none 0 0] 29)) := (Below.refl _ _).alloc (Nat.le_refl _) _
  have hx1 := Bx.new w 29 #[.slice none 0 0]
  have hz1 : (w.alloc (.cells #[.slice none 0 0] 29)).heap.size = w.heap.size + 1 := by simp
  obtain ⟨W1, hW1⟩ : ∃ W, w.alloc (.cells #[.slice none 0 0] 29) = W := ⟨_, rfl⟩
  rw [hW1] at hb1 hx1 hz1 ⊢
  clear hW1
  refine (C1.out _).mono ?_
  rintro e w' ⟨rfl, rfl⟩
  go_wp2_with fail
  refine (C2.out _).mono ?_
  rintro e w' ⟨rfl, rfl⟩
  go_wp2_with fail
  refine (C3.out _).mono ?_
  rintro e w' ⟨rfl, rfl⟩
  go_wp2_with fail
  have hlit : Qws (W1.alloc (.cells #[.string (p ++ q), .int .i64 0, .int .i64 1] 53)) (w.heap.size + 1) (.slice (some ⟨w.heap.size + 1, 0, none⟩) 1 1) [(p ++ q, 0, 1)] := qws_lit hz1 (Nat.le_refl _) _ _ _
  have hx2 := hx1.alloc (.cells #[.string (p ++ q), .int .i64 0, .int .i64 1] 53)
  have hb2 := below_al hb1 (.cells #[.string (p ++ q), .int .i64 0, .int .i64 1] 53)
  have hz2 : (W1.alloc (.cells #[.string (p ++ q), .int .i64 0, .int .i64 1] 53)).heap.size = w.heap.size + 2 := by simp [hz1]
  obtain ⟨W2, hW2⟩ : ∃ W, W1.alloc (.cells #[.string (p ++ q), .int .i64 0, .int .i64 1] 53) = W := ⟨_, rfl⟩
  rw [hW2] at hlit hx2 hb2 hz2 ⊢
  clear hW2 hx1 hb1 hz1
  refine (D1.out _ _ _ hlit (by omega)).mono ?_
  rintro e W3 ⟨u0, rfl, r0, hb3⟩
  have s3 := hb3.size
  have hx3 := hx2.belowB hb3 (by omega)
  have hb3' := hb2.trans (hb3.mono (by omega))
  have l0 := r0.lt
  obtain ⟨A0, c0, rfl, _⟩ := r0.row
  clear hlit hx2 hb2 hb3
  have R0 := hidv r0
  have L0 := hidv l0
  clear r0 l0
  go_wp2_with fail
  refine (D2.out _).mono ?_
  rintro e W4 ⟨u1, rfl, r1, hb4⟩
  have s4 := hb4.size
  have hx4 := hx3.below hb4
  have hb4' := below_on hb3' hb4
  have R0' := hidv (R0.out.below hb4)
  have L1 := hidv r1.lt
  obtain ⟨A1, c1, rfl, _⟩ := r1.row
  have R1 := hidv r1
  clear r1 hb4 hx3
  go_wp2_with fail
  refine (D3.out _).mono ?_
  rintro e W5 ⟨u2, rfl, r2, hb5⟩
  have s5 := hb5.size
  have hx5 := hx4.below hb5
  have hb5' := below_on hb4' hb5
  have R0'' := hidv (R0'.out.below hb5)
  have R1' := hidv (R1.out.below hb5)
  have L2 := hidv r2.lt
  obtain ⟨A2, c2, rfl, _⟩ := r2.row
  have R2 := hidv r2
  clear r2 hb5 hx4
  have f0 := hx5.frozen 0
  have q0 := hx5.one
  have lq := hx5.lt
  go_wp2_with fail
  obtain ⟨W, hW⟩ : ∃ W, W5.setCell ⟨w.heap.size, 0, none⟩ (.slice (some ⟨W5.heap.size, 0, none⟩) 4 4) = W := ⟨_, rfl⟩
  have hbW : Below w.heap.size w W := by rw [← hW]; exact hb5'.setCell (Nat.le_refl _) _
  have hzW : W.heap.size = W5.heap.size := by rw [← hW]; simp [World.setCell]
  have hxW : Bx W w.heap.size 29 #[.slice (some ⟨W5.heap.size, 0, none⟩) 4 4] := by rw [← hW]; exact hx5.set 0 _
  have q0' := (R0''.out.setCell (g := w.heap.size) (j := 0) (x := .slice (some ⟨W5.heap.size, 0, none⟩) 4 4) (by omega)).wider (base' := w.heap.size) (by omega)
  rw [hW] at q0'
  have q1' := (R1'.out.setCell (g := w.heap.size) (j := 0) (x := .slice (some ⟨W5.heap.size, 0, none⟩) 4 4) (by omega)).wider (base' := w.heap.size) (by omega)
  rw [hW] at q1'
  have q2' := (R2.out.setCell (g := w.heap.size) (j := 0) (x := .slice (some ⟨W5.heap.size, 0, none⟩) 4 4) (by omega)).wider (base' := w.heap.size) (by omega)
  rw [hW] at q2'
  rw [hW]
  have hfb := qb_four hzW (by omega) q0' q1' q2' (qws_nil _ _) (apt_four (fun a h1 h2 => by have := L0.out a h1; have := L1.out a h2; omega) (fun a h1 h2 => by have := L0.out a h1; have := L2.out a h2; omega) (by simp [Value.ownBlock]) (fun a h1 h2 => by have := L1.out a h1; have := L2.out a h2; omega) (by simp [Value.ownBlock]) (by simp [Value.ownBlock]))
  have hxe := (hxW.alloc (.cells #[.slice A0 (onceQ [(p ++ q, 0, 1)] p).length c0, .slice A1 1 c1, .slice A2 1 c2, .slice none 0 0] 50)).one
  refine bodyPost_ret (v := .tuple #[.agg #[.slice (some ⟨W5.heap.size, 0, none⟩) 4 4], .int .i64 0]) ?_ rfl ⟨_, rfl, ⟨_, rfl, hfb⟩, below_al hbW _⟩
  simp [results, Try.results21, go_sem, hxe]

set_option maxRecDepth 100000 in
set_option maxHeartbeats 800000 in
theorem specSh_ok (p q : ByteArray) (w : World) (hp : Wd.wordB p.data.toList = true) (hq : Wd.wordB q.data.toList = true) (h : p.size + q.size ≤ 60) (h0 : ¬ (p.size = 0 ∧ q.size = 0)) :
    Calls Try.prog 20 #[.string p, .string q] w fun e w' => ∃ u, e = .returned (.tuple #[u, .int .i64 0]) ∧ FB w' w.heap.size u [onceQ [(p ++ q, 0, 1)] p, [(q ++ p, 1, 0)], [(p ++ q, 1, 0)], []] ∧ Below w.heap.size w w' := by
  have c1 := specWord_any p
  have c2 := specWord_any q
  have hsp := sizeF hp
  have hsq := sizeF hq
  rw [hp] at c1
  rw [hq] at c2
  have C1 := hidv (fun W => c1 W (by unfold maxLen; omega))
  have C2 := hidv (fun W => c2 W (by unfold maxLen; omega))
  have hcat : ¬ (9223372036854775807 < p.size + q.size) := by omega
  have hcat2 : ¬ (9223372036854775807 < q.size + p.size) := by omega
  have D1 := hidv (fun W => l06Tail_any (p ++ q) 0 p W)
  clear c1 c2 hp hq
  have he := isEmptyB (x := p)
  have he2 := isEmptyB (x := q)
  by_cases hp0 : p.size = 0
  · rw [decide_eq_true hp0] at he
    rw [decide_eq_false (fun hq0 => h0 ⟨hp0, hq0⟩)] at he2
    clear h0 hp0
    go_enter Try.func20, Try.ntmps20
    go_wp2_with fail
    have hb1 : Below w.heap.size w (w.alloc (.cells #[.slice none 0 0] 29)) := (Below.refl _ _).alloc (Nat.le_refl _) _
    have hx1 := Bx.new w 29 #[.slice none 0 0]
    have hz1 : (w.alloc (.cells #[.slice none 0 0] 29)).heap.size = w.heap.size + 1 := by simp
    obtain ⟨W1, hW1⟩ : ∃ W, w.alloc (.cells #[.slice none 0 0] 29) = W := ⟨_, rfl⟩
    rw [hW1] at hb1 hx1 hz1 ⊢
    clear hW1
    refine (C1.out _).mono ?_
    rintro e w' ⟨rfl, rfl⟩
    go_wp2_with fail
    refine (C2.out _).mono ?_
    rintro e w' ⟨rfl, rfl⟩
    go_wp2_with fail
    refine (D1.out _).mono ?_
    rintro e W3 ⟨u0, rfl, r0, hb3⟩
    have s3 := hb3.size
    have hx3 := hx1.below hb3
    have hb3' := below_on hb1 hb3
    have L0 := hidv r0.lt
    obtain ⟨A0, c0, rfl, _⟩ := r0.row
    have R0 := hidv r0
    clear r0 hb3 hx1
    have f0 := hx3.frozen 0
    have q0 := hx3.one
    have lq := hx3.lt
    have lq1 : w.heap.size < W3.heap.size + 1 := by omega
    have lq2 : w.heap.size < W3.heap.size + 1 + 1 := by omega
    have lq3 : w.heap.size < W3.heap.size + 1 + 1 + 1 := by omega
    go_wp2_with fail
    obtain ⟨W, hW⟩ : ∃ W, W3.setCell ⟨w.heap.size, 0, none⟩ (.slice (some ⟨W3.heap.size + 1 + 1 + 1, 0, none⟩) 4 4) = W := ⟨_, rfl⟩
    have hbW : Below w.heap.size w W := by rw [← hW]; exact hb3'.setCell (Nat.le_refl _) _
    have hzW : W.heap.size = W3.heap.size := by rw [← hW]; simp [World.setCell]
    have hxW : Bx W w.heap.size 29 #[.slice (some ⟨W3.heap.size + 1 + 1 + 1, 0, none⟩) 4 4] := by rw [← hW]; exact hx3.set 0 _
    have r0 := (R0.out.setCell (g := w.heap.size) (j := 0) (x := .slice (some ⟨W3.heap.size + 1 + 1 + 1, 0, none⟩) 4 4) (by omega)).wider (base' := w.heap.size) (by omega)
    rw [hW] at r0 ⊢
    obtain ⟨V1, hV1⟩ : ∃ V, W.alloc (.cells #[.string (q ++ p), .int .i64 1, .int .i64 0] 53) = V := ⟨_, rfl⟩
    have r1 : Qws V1 w.heap.size (.slice (some ⟨W3.heap.size, 0, none⟩) 1 1) [(q ++ p, 1, 0)] := by rw [← hV1]; exact qws_lit hzW (by omega) _ _ _
    have r01 := r0.alloc (.cells #[.string (q ++ p), .int .i64 1, .int .i64 0] 53)
    have z1 : V1.heap.size = W3.heap.size + 1 := by rw [← hV1]; simp [hzW]
    have b1 : Below w.heap.size w V1 := by rw [← hV1]; exact below_al hbW _
    have x1 := hxW.alloc (.cells #[.string (q ++ p), .int .i64 1, .int .i64 0] 53)
    rw [hV1] at r01 x1 ⊢
    obtain ⟨V2, hV2⟩ : ∃ V, V1.alloc (.cells #[.string (p ++ q), .int .i64 1, .int .i64 0] 53) = V := ⟨_, rfl⟩
    have r2 : Qws V2 w.heap.size (.slice (some ⟨W3.heap.size + 1, 0, none⟩) 1 1) [(p ++ q, 1, 0)] := by rw [← hV2]; exact qws_lit z1 (by omega) _ _ _
    have r02 := r01.alloc (.cells #[.string (p ++ q), .int .i64 1, .int .i64 0] 53)
    have r12 := r1.alloc (.cells #[.string (p ++ q), .int .i64 1, .int .i64 0] 53)
    have z2 : V2.heap.size = W3.heap.size + 1 + 1 := by rw [← hV2]; simp [z1]
    have b2 : Below w.heap.size w V2 := by rw [← hV2]; exact below_al b1 _
    have x2 := x1.alloc (.cells #[.string (p ++ q), .int .i64 1, .int .i64 0] 53)
    rw [hV2] at r02 r12 x2 ⊢
    obtain ⟨V3, hV3⟩ : ∃ V, V2.alloc (.cells #[] 53) = V := ⟨_, rfl⟩
    have r3 : Qws V3 w.heap.size (.slice (some ⟨W3.heap.size + 1 + 1, 0, none⟩) 0 0) [] := by rw [← hV3]; exact qws_lit0 z2 (by omega)
    have r03 := r02.alloc (.cells #[] 53)
    have r13 := r12.alloc (.cells #[] 53)
    have r23 := r2.alloc (.cells #[] 53)
    have z3 : V3.heap.size = W3.heap.size + 1 + 1 + 1 := by rw [← hV3]; simp [z2]
    have b3 : Below w.heap.size w V3 := by rw [← hV3]; exact below_al b2 _
    have x3 := x2.alloc (.cells #[] 53)
    rw [hV3] at r03 r13 r23 x3 ⊢
    have hfb := qb_four z3 (base := w.heap.size) (by omega) r03 r13 r23 r3 (apt_four (fun a h1 h2 => by have := L0.out a h1; simp [Value.ownBlock] at h2; omega) (fun a h1 h2 => by have := L0.out a h1; simp [Value.ownBlock] at h2; omega) (fun a h1 h2 => by have := L0.out a h1; simp [Value.ownBlock] at h2; omega) (by simp [Value.ownBlock] <;> omega) (by simp [Value.ownBlock] <;> omega) (by simp [Value.ownBlock] <;> omega))
    have hxe := (x3.alloc (.cells #[.slice A0 (onceQ [(p ++ q, 0, 1)] p).length c0, .slice (some ⟨W3.heap.size, 0, none⟩) 1 1, .slice (some ⟨W3.heap.size + 1, 0, none⟩) 1 1, .slice (some ⟨W3.heap.size + 1 + 1, 0, none⟩) 0 0] 50)).one
    refine bodyPost_ret (v := .tuple #[.agg #[.slice (some ⟨W3.heap.size + 1 + 1 + 1, 0, none⟩) 4 4], .int .i64 0]) ?_ rfl ⟨_, rfl, ⟨_, rfl, hfb⟩, below_al b3 _⟩
    simp [results, Try.results20, go_sem, hxe]
  
  · rw [decide_eq_false hp0] at he
    clear h0 hp0 he2
    go_enter Try.func20, Try.ntmps20
    go_wp2_with fail
    have hb1 : Below w.heap.size w (w.alloc (.cells #[.slice none 0 0] 29)) := (Below.refl _ _).alloc (Nat.le_refl _) _
    have hx1 := Bx.new w 29 #[.slice none 0 0]
    have hz1 : (w.alloc (.cells #[.slice none 0 0] 29)).heap.size = w.heap.size + 1 := by simp
    obtain ⟨W1, hW1⟩ : ∃ W, w.alloc (.cells #[.slice none 0 0] 29) = W := ⟨_, rfl⟩
    rw [hW1] at hb1 hx1 hz1 ⊢
    clear hW1
    refine (C1.out _).mono ?_
    rintro e w' ⟨rfl, rfl⟩
    go_wp2_with fail
    refine (C2.out _).mono ?_
    rintro e w' ⟨rfl, rfl⟩
    go_wp2_with fail
    refine (D1.out _).mono ?_
    rintro e W3 ⟨u0, rfl, r0, hb3⟩
    have s3 := hb3.size
    have hx3 := hx1.below hb3
    have hb3' := below_on hb1 hb3
    have L0 := hidv r0.lt
    obtain ⟨A0, c0, rfl, _⟩ := r0.row
    have R0 := hidv r0
    clear r0 hb3 hx1
    have f0 := hx3.frozen 0
    have q0 := hx3.one
    have lq := hx3.lt
    have lq1 : w.heap.size < W3.heap.size + 1 := by omega
    have lq2 : w.heap.size < W3.heap.size + 1 + 1 := by omega
    have lq3 : w.heap.size < W3.heap.size + 1 + 1 + 1 := by omega
    go_wp2_with fail
    obtain ⟨W, hW⟩ : ∃ W, W3.setCell ⟨w.heap.size, 0, none⟩ (.slice (some ⟨W3.heap.size + 1 + 1 + 1, 0, none⟩) 4 4) = W := ⟨_, rfl⟩
    have hbW : Below w.heap.size w W := by rw [← hW]; exact hb3'.setCell (Nat.le_refl _) _
    have hzW : W.heap.size = W3.heap.size := by rw [← hW]; simp [World.setCell]
    have hxW : Bx W w.heap.size 29 #[.slice (some ⟨W3.heap.size + 1 + 1 + 1, 0, none⟩) 4 4] := by rw [← hW]; exact hx3.set 0 _
    have r0 := (R0.out.setCell (g := w.heap.size) (j := 0) (x := .slice (some ⟨W3.heap.size + 1 + 1 + 1, 0, none⟩) 4 4) (by omega)).wider (base' := w.heap.size) (by omega)
    rw [hW] at r0 ⊢
    obtain ⟨V1, hV1⟩ : ∃ V, W.alloc (.cells #[.string (q ++ p), .int .i64 1, .int .i64 0] 53) = V := ⟨_, rfl⟩
    have r1 : Qws V1 w.heap.size (.slice (some ⟨W3.heap.size, 0, none⟩) 1 1) [(q ++ p, 1, 0)] := by rw [← hV1]; exact qws_lit hzW (by omega) _ _ _
    have r01 := r0.alloc (.cells #[.string (q ++ p), .int .i64 1, .int .i64 0] 53)
    have z1 : V1.heap.size = W3.heap.size + 1 := by rw [← hV1]; simp [hzW]
    have b1 : Below w.heap.size w V1 := by rw [← hV1]; exact below_al hbW _
    have x1 := hxW.alloc (.cells #[.string (q ++ p), .int .i64 1, .int .i64 0] 53)
    rw [hV1] at r01 x1 ⊢
    obtain ⟨V2, hV2⟩ : ∃ V, V1.alloc (.cells #[.string (p ++ q), .int .i64 1, .int .i64 0] 53) = V := ⟨_, rfl⟩
    have r2 : Qws V2 w.heap.size (.slice (some ⟨W3.heap.size + 1, 0, none⟩) 1 1) [(p ++ q, 1, 0)] := by rw [← hV2]; exact qws_lit z1 (by omega) _ _ _
    have r02 := r01.alloc (.cells #[.string (p ++ q), .int .i64 1, .int .i64 0] 53)
    have r12 := r1.alloc (.cells #[.string (p ++ q), .int .i64 1, .int .i64 0] 53)
    have z2 : V2.heap.size = W3.heap.size + 1 + 1 := by rw [← hV2]; simp [z1]
    have b2 : Below w.heap.size w V2 := by rw [← hV2]; exact below_al b1 _
    have x2 := x1.alloc (.cells #[.string (p ++ q), .int .i64 1, .int .i64 0] 53)
    rw [hV2] at r02 r12 x2 ⊢
    obtain ⟨V3, hV3⟩ : ∃ V, V2.alloc (.cells #[] 53) = V := ⟨_, rfl⟩
    have r3 : Qws V3 w.heap.size (.slice (some ⟨W3.heap.size + 1 + 1, 0, none⟩) 0 0) [] := by rw [← hV3]; exact qws_lit0 z2 (by omega)
    have r03 := r02.alloc (.cells #[] 53)
    have r13 := r12.alloc (.cells #[] 53)
    have r23 := r2.alloc (.cells #[] 53)
    have z3 : V3.heap.size = W3.heap.size + 1 + 1 + 1 := by rw [← hV3]; simp [z2]
    have b3 : Below w.heap.size w V3 := by rw [← hV3]; exact below_al b2 _
    have x3 := x2.alloc (.cells #[] 53)
    rw [hV3] at r03 r13 r23 x3 ⊢
    have hfb := qb_four z3 (base := w.heap.size) (by omega) r03 r13 r23 r3 (apt_four (fun a h1 h2 => by have := L0.out a h1; simp [Value.ownBlock] at h2; omega) (fun a h1 h2 => by have := L0.out a h1; simp [Value.ownBlock] at h2; omega) (fun a h1 h2 => by have := L0.out a h1; simp [Value.ownBlock] at h2; omega) (by simp [Value.ownBlock] <;> omega) (by simp [Value.ownBlock] <;> omega) (by simp [Value.ownBlock] <;> omega))
    have hxe := (x3.alloc (.cells #[.slice A0 (onceQ [(p ++ q, 0, 1)] p).length c0, .slice (some ⟨W3.heap.size, 0, none⟩) 1 1, .slice (some ⟨W3.heap.size + 1, 0, none⟩) 1 1, .slice (some ⟨W3.heap.size + 1 + 1, 0, none⟩) 0 0] 50)).one
    refine bodyPost_ret (v := .tuple #[.agg #[.slice (some ⟨W3.heap.size + 1 + 1 + 1, 0, none⟩) 4 4], .int .i64 0]) ?_ rfl ⟨_, rfl, ⟨_, rfl, hfb⟩, below_al b3 _⟩
    simp [results, Try.results20, go_sem, hxe]
  

theorem sh_both (p q : ByteArray) (hs : p.size ≤ maxLen) (ht : q.size ≤ maxLen) : ∃ (rs : List (List Pc)) (c : Int), rs.length + qTot rs ≤ 100 ∧
    (∀ w, Calls Try.prog 21 #[.string p, .string q] w fun e w' => ∃ u, e = .returned (.tuple #[u, .int .i64 c]) ∧ FB w' w.heap.size u rs ∧ Below w.heap.size w w') ∧
    ∀ w, Calls Try.prog 20 #[.string p, .string q] w fun e w' => ∃ u, e = .returned (.tuple #[u, .int .i64 c]) ∧ FB w' w.heap.size u rs ∧ Below w.heap.size w w' := by
  cases h : (Wd.wordB p.data.toList && Wd.wordB q.data.toList)
  · exact ⟨[], 1, by simp [qTot], fun w => implSh_bad p q w hs ht h, fun w => specSh_bad p q w hs ht h⟩
  · rw [Bool.and_eq_true] at h
    obtain ⟨hp, hq⟩ := h
    by_cases h0 : p.size = 0 ∧ q.size = 0
    · exact ⟨[], 4, by simp [qTot], fun w => implSh_state p q w hp hq h0.1 h0.2, fun w => specSh_state p q w hp hq h0.1 h0.2⟩
    · by_cases hl : p.size + q.size ≤ 60
      · refine ⟨_, 0, ?_, fun w => implSh_ok p q w hp hq hl h0, fun w => specSh_ok p q w hp hq hl h0⟩
        unfold onceQ qTot
        split <;> simp
      · exact ⟨[], 3, by simp [qTot], fun w => implSh_limit p q w hp hq (by omega), fun w => specSh_limit p q w hp hq (by omega)⟩

end Go.Proofs.Ytlmdmbhmmfdajaa
