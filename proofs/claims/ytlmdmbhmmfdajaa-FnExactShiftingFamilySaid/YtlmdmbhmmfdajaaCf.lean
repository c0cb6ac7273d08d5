/-
  CommutingFamily, of the program and of the model: contracts.
-/
import Derived.Test.YtlmdmbhmmfdajaaQB
import Derived.Test.YtlmdmbhmmfdajaaFv
namespace Go.Proofs.Ytlmdmbhmmfdajaa
open Go.RowKit Go
set_option linter.unusedVariables false

theorem row_two (w : World) (e : TypeId) (i j : Int) : Row (w.alloc (.cells #[.int .i64 i, .int .i64 j] e)) (w.heap.size + 1) (.slice (some ⟨w.heap.size, 0, none⟩) 2 2) (ints [i, j]) := by
  refine ⟨_, 2, rfl, fun _ => ⟨w.heap.size, 0, rfl, by omega, fun n x hx => ?_⟩⟩
  have hb := Bx.new w e #[.int .i64 i, .int .i64 j]
  rcases n with _ | _ | n
  · simp [ints] at hx; subst hx; exact hb.cell 0
  · simp [ints] at hx; subst hx; exact hb.cell 1
  · simp [ints] at hx
theorem row_twoN (w : World) (e : TypeId) (i j : Int) (n : Nat) (hn : w.heap.size = n) : Row (w.alloc (.cells #[.int .i64 i, .int .i64 j] e)) (n + 1) (.slice (some ⟨n, 0, none⟩) 2 2) (ints [i, j]) := by
  subst hn; exact row_two w e i j
theorem sizeF {u : ByteArray} (h : Wd.wordB u.data.toList = true) : u.size ≤ 60 := by
  have := Wd.wordB_len h
  simpa using this

/-- A family's list is built of four rows of the call's own. -/
theorem qb_four {W : World} {base n : Nat} {u0 u1 u2 u3 : Value} {r0 r1 r2 r3 : List Pc} (hn : W.heap.size = n) (hb : base ≤ n) (h0 : Qws W base u0 r0) (h1 : Qws W base u1 r1) (h2 : Qws W base u2 r2) (h3 : Qws W base u3 r3) (ha : AptQ [u0, u1, u2, u3]) :
    QB (W.alloc (.cells #[u0, u1, u2, u3] 50)) base (.slice (some ⟨n, 0, none⟩) 4 4) [r0, r1, r2, r3] := by
  subst hn
  refine ⟨[u0, u1, u2, u3], World.ownsRow_lit W #[u0, u1, u2, u3] 4 hb (by unfold maxLen; omega) rfl, rfl, fun i hi => ?_, ha⟩
  have al : ∀ u r, Qws W base u r → Qws (W.alloc (.cells #[u0, u1, u2, u3] 50)) base u r := fun u r h => World.ownsRow.alloc (show W.ownsRow _ _ _ _ _ _ from h) _
  refine ⟨hi, ?_⟩
  rcases i with _ | _ | _ | _ | i
  · exact al _ _ h0
  · exact al _ _ h1
  · exact al _ _ h2
  · exact al _ _ h3
  · exact absurd hi (by simp)
theorem qws_nil (W : World) (base : Nat) : Qws W base (.slice none 0 0) [] := World.ownsRow_nil _ _ _ _
theorem qws_lit {W : World} {base n : Nat} (hn : W.heap.size = n) (hb : base ≤ n) (x : ByteArray) (f s : Int) : Qws (W.alloc (.cells #[.string x, .int .i64 f, .int .i64 s] 53)) base (.slice (some ⟨n, 0, none⟩) 1 1) [(x, f, s)] := by
  subst hn
  exact World.ownsRow_lit W #[.string x, .int .i64 f, .int .i64 s] 1 hb (by unfold maxLen; omega) rfl
theorem Qws.alloc {W : World} {base : Nat} {u : Value} {r : List Pc} (h : Qws W base u r) (o : Obj) : Qws (W.alloc o) base u r := World.ownsRow.alloc (show W.ownsRow _ _ _ _ _ _ from h) o
theorem apt_four {u0 u1 u2 u3 : Value} (h01 : ∀ a, u0.ownBlock = some a → u1.ownBlock ≠ some a) (h02 : ∀ a, u0.ownBlock = some a → u2.ownBlock ≠ some a) (h03 : ∀ a, u0.ownBlock = some a → u3.ownBlock ≠ some a) (h12 : ∀ a, u1.ownBlock = some a → u2.ownBlock ≠ some a) (h13 : ∀ a, u1.ownBlock = some a → u3.ownBlock ≠ some a) (h23 : ∀ a, u2.ownBlock = some a → u3.ownBlock ≠ some a) : AptQ [u0, u1, u2, u3] := by
  intro i j hi hj hij a ha
  rcases i with _ | _ | _ | _ | i
  · rcases j with _ | _ | _ | _ | j
    · omega
    · exact h01 a ha
    · exact h02 a ha
    · exact h03 a ha
    · exact absurd hj (by simp)
  · rcases j with _ | _ | _ | _ | j
    · omega
    · omega
    · exact h12 a ha
    · exact h13 a ha
    · exact absurd hj (by simp)
  · rcases j with _ | _ | _ | _ | j
    · omega
    · omega
    · omega
    · exact h23 a ha
    · exact absurd hj (by simp)
  · rcases j with _ | _ | _ | _ | j
    · omega
    · omega
    · omega
    · omega
    · exact absurd hj (by simp)
  · exact absurd hi (by simp)

set_option maxHeartbeats 400000 in
theorem implCf_ok (x : ByteArray) (a b : Int) (w : World) (hx : Wd.wordB x.data.toList = true) (h0 : x.size ≠ 0) (hd : InN 4 [a, b]) :
    Calls Try.prog 17 #[.string x, .int .i64 a, .int .i64 b] w fun e w' => ∃ u, e = .returned (.tuple #[u, .int .i64 0]) ∧ FB w' w.heap.size u [[(x, 0, a)], [(x, 0, b)], [], []] ∧ Below w.heap.size w w' := by
  have c1 := implValidWord_any x
  have hs := sizeF hx
  have he := isEmptyB (x := x)
  rw [decide_eq_false h0] at he
  rw [hx] at c1
  have C1 := hidv (fun W => c1 W (by unfold maxLen; omega))
  have C2 := hidv (fun v B W (hr : Row W B v (ints [a, b])) => areBelow_any v [a, b] B 4 W hr (by simp [maxLen]) true ⟨fun _ => hd, fun _ => rfl⟩)
  clear c1 hx hd
  go_enter Try.func17, Try.ntmps17
  go_wp2_with fail
  refine (C1.out _).mono ?_
  rintro e w' ⟨rfl, rfl⟩
  go_wp2_with fail
  have hb1 : Below w.heap.size w (w.alloc (.cells #[.slice none 0 0] 29)) := (Below.refl _ _).alloc (Nat.le_refl _) _
  have hx1 := Bx.new w 29 #[.slice none 0 0]
  have hz1 : (w.alloc (.cells #[.slice none 0 0] 29)).heap.size = w.heap.size + 1 := by simp
  obtain ⟨W1, hW1⟩ : ∃ W, w.alloc (.cells #[.slice none 0 0] 29) = W := ⟨_, rfl⟩
  rw [hW1] at hb1 hx1 hz1 ⊢
  clear hW1
  have hrow := row_twoN W1 2 a b _ hz1
  have hb2 := below_al hb1 (.cells #[.int .i64 a, .int .i64 b] 2)
  have hx2 := hx1.alloc (.cells #[.int .i64 a, .int .i64 b] 2)
  have hz2 : (W1.alloc (.cells #[.int .i64 a, .int .i64 b] 2)).heap.size = w.heap.size + 2 := by simp [hz1]
  obtain ⟨W2, hW2⟩ : ∃ W, W1.alloc (.cells #[.int .i64 a, .int .i64 b] 2) = W := ⟨_, rfl⟩
  rw [hW2] at hb2 hrow hx2 hz2 ⊢
  clear hW2 hx1 hz1 hb1
  refine (C2.out _ _ _ hrow).mono ?_
  rintro e w1 ⟨rfl, rfl⟩
  clear hrow
  have f0 := hx2.frozen 0
  have q0 := hx2.one
  have lq := hx2.lt
  go_wp2_with fail
  obtain ⟨W, hW⟩ : ∃ W, w1.setCell ⟨w.heap.size, 0, none⟩ (.slice (some ⟨w.heap.size + 2 + 1 + 1, 0, none⟩) 4 4) = W := ⟨_, rfl⟩
  have hbW : Below w.heap.size w W := by rw [← hW]; exact hb2.setCell (Nat.le_refl _) _
  have hzW : W.heap.size = w.heap.size + 2 := by rw [← hW]; simp [World.setCell]; exact hz2
  have hxW : Bx W w.heap.size 29 #[.slice (some ⟨w.heap.size + 2 + 1 + 1, 0, none⟩) 4 4] := by rw [← hW]; exact hx2.set 0 _
  rw [hW]
  have hp := qws_lit hzW (base := w.heap.size) (by omega) x 0 a
  have hq := qws_lit (W := W.alloc (.cells #[.string x, .int .i64 0, .int .i64 a] 53)) (n := w.heap.size + 2 + 1) (by simp [hzW]) (base := w.heap.size) (by omega) x 0 b
  have hfb := qb_four (W := (W.alloc (.cells #[.string x, .int .i64 0, .int .i64 a] 53)).alloc (.cells #[.string x, .int .i64 0, .int .i64 b] 53)) (n := w.heap.size + 2 + 1 + 1) (by simp [hzW]) (by omega) (hp.alloc _) hq (qws_nil _ _) (qws_nil _ _) (apt_four (by simp [Value.ownBlock]) (by simp [Value.ownBlock]) (by simp [Value.ownBlock]) (by simp [Value.ownBlock]) (by simp [Value.ownBlock]) (by simp [Value.ownBlock]))
  have hxe := (((hxW.alloc (.cells #[.string x, .int .i64 0, .int .i64 a] 53)).alloc (.cells #[.string x, .int .i64 0, .int .i64 b] 53)).alloc (.cells #[.slice (some ⟨w.heap.size + 2, 0, none⟩) 1 1, .slice (some ⟨w.heap.size + 2 + 1, 0, none⟩) 1 1, .slice none 0 0, .slice none 0 0] 50)).one
  refine bodyPost_ret (v := .tuple #[.agg #[.slice (some ⟨w.heap.size + 2 + 1 + 1, 0, none⟩) 4 4], .int .i64 0]) ?_ rfl ⟨_, rfl, ⟨_, rfl, hfb⟩, below_al (below_al (below_al hbW _) _) _⟩
  simp [results, Try.results17, go_sem, hxe]

/-- The family with no lists. -/
theorem fb_none (W : World) (base : Nat) : FB W base (.agg #[.slice none 0 0]) [] := ⟨_, rfl, [], World.ownsRow_nil _ _ _ _, rfl, fun i hi => absurd hi (by simp), fun i j hi => absurd hi (by simp)⟩
theorem qws_lit0 {W : World} {base n : Nat} (hn : W.heap.size = n) (hb : base ≤ n) : Qws (W.alloc (.cells #[] 53)) base (.slice (some ⟨n, 0, none⟩) 0 0) [] := by
  subst hn
  exact World.ownsRow_lit W #[] 0 hb (by unfold maxLen; omega) rfl
theorem in4 {a b : Int} : InN 4 [a, b] ↔ (0 ≤ a ∧ a ≤ 3) ∧ (0 ≤ b ∧ b ≤ 3) := by
  constructor
  · intro h
    have h1 := h 0 (by simp)
    have h2 := h 1 (by simp)
    simp only [List.getElem_cons_zero, List.getElem_cons_succ] at h1 h2
    omega
  · intro h j hj
    rcases j with _ | _ | j
    · show (0 : Int) ≤ a ∧ a < 4; omega
    · show (0 : Int) ≤ b ∧ b < 4; omega
    · exfalso; have hj2 : j + 1 + 1 < 2 := hj; omega
set_option maxHeartbeats 400000 in
theorem implCf_bad (x : ByteArray) (a b : Int) (w : World) (hs : x.size ≤ maxLen) (h : Wd.wordB x.data.toList = false ∨ x.size = 0) :
    Calls Try.prog 17 #[.string x, .int .i64 a, .int .i64 b] w fun e w' => ∃ u, e = .returned (.tuple #[u, .int .i64 1]) ∧ FB w' w.heap.size u [] ∧ Below w.heap.size w w' := by
  have he := isEmptyB (x := x)
  have c1 := implValidWord_any x
  by_cases h0 : x.size = 0
  · rw [decide_eq_true h0] at he
    clear h c1 h0
    have hb1 : Below w.heap.size w (w.alloc (.cells #[.slice none 0 0] 29)) := (Below.refl _ _).alloc (Nat.le_refl _) _
    have hx1 := Bx.new w 29 #[.slice none 0 0]
    go_enter Try.func17, Try.ntmps17
    go_wp2
    refine bodyPost_ret (v := .tuple #[.agg #[.slice none 0 0], .int .i64 1]) ?_ rfl ⟨_, rfl, fb_none _ _, ?_⟩
    · simp [results, Try.results17, go_sem, hx1.one]
    · first | exact hb1.setCell (p := ⟨w.heap.size, 0, none⟩) (Nat.le_refl _) (.slice none 0 0) | exact hb1
  · rw [decide_eq_false h0] at he
    have hw : Wd.wordB x.data.toList = false := h.resolve_right h0
    rw [hw] at c1
    have C1 := hidv (fun W => c1 W hs)
    clear h c1 h0 hw
    go_enter Try.func17, Try.ntmps17
    go_wp2_with fail
    have hb1 : Below w.heap.size w (w.alloc (.cells #[.slice none 0 0] 29)) := (Below.refl _ _).alloc (Nat.le_refl _) _
    have hx1 := Bx.new w 29 #[.slice none 0 0]
    have hz1 : (w.alloc (.cells #[.slice none 0 0] 29)).heap.size = w.heap.size + 1 := by simp
    obtain ⟨W1, hW1⟩ : ∃ W, w.alloc (.cells #[.slice none 0 0] 29) = W := ⟨_, rfl⟩
    rw [hW1] at hb1 hx1 hz1 ⊢
    clear hW1
    refine (C1.out _).mono ?_
    rintro e w' ⟨rfl, rfl⟩
    have f0 := hx1.frozen 0
    have q0 := hx1.one
    have lq := hx1.lt
    have hxe := (hx1.set 0 (.slice none 0 0)).one
    have hbe := hb1.setCell (p := ⟨w.heap.size, 0, none⟩) (Nat.le_refl _) (.slice none 0 0)
    go_wp2_with fail
    refine bodyPost_ret (v := .tuple #[.agg #[.slice none 0 0], .int .i64 1]) ?_ rfl ⟨_, rfl, fb_none _ _, hbe⟩
    simp [results, Try.results17, go_sem, hxe]

set_option maxHeartbeats 400000 in
theorem implCf_range (x : ByteArray) (a b : Int) (w : World) (hx : Wd.wordB x.data.toList = true) (h0 : x.size ≠ 0) (hd : ¬ InN 4 [a, b]) :
    Calls Try.prog 17 #[.string x, .int .i64 a, .int .i64 b] w fun e w' => ∃ u, e = .returned (.tuple #[u, .int .i64 2]) ∧ FB w' w.heap.size u [] ∧ Below w.heap.size w w' := by
  have c1 := implValidWord_any x
  have hs := sizeF hx
  have he := isEmptyB (x := x)
  rw [decide_eq_false h0] at he
  rw [hx] at c1
  have C1 := hidv (fun W => c1 W (by unfold maxLen; omega))
  have C2 := hidv (fun v B W (hr : Row W B v (ints [a, b])) => areBelow_any v [a, b] B 4 W hr (by simp [maxLen]) false ⟨fun h => by simp at h, fun h => absurd h hd⟩)
  clear c1 hx hd
  go_enter Try.func17, Try.ntmps17
  go_wp2_with fail
  have hb1 : Below w.heap.size w (w.alloc (.cells #[.slice none 0 0] 29)) := (Below.refl _ _).alloc (Nat.le_refl _) _
  have hx1 := Bx.new w 29 #[.slice none 0 0]
  have hz1 : (w.alloc (.cells #[.slice none 0 0] 29)).heap.size = w.heap.size + 1 := by simp
  obtain ⟨W1, hW1⟩ : ∃ W, w.alloc (.cells #[.slice none 0 0] 29) = W := ⟨_, rfl⟩
  rw [hW1] at hb1 hx1 hz1 ⊢
  clear hW1
  refine (C1.out _).mono ?_
  rintro e w' ⟨rfl, rfl⟩
  go_wp2_with fail
  have hrow := row_twoN W1 2 a b _ hz1
  have hb2 := below_al hb1 (.cells #[.int .i64 a, .int .i64 b] 2)
  have hx2 := hx1.alloc (.cells #[.int .i64 a, .int .i64 b] 2)
  obtain ⟨W2, hW2⟩ : ∃ W, W1.alloc (.cells #[.int .i64 a, .int .i64 b] 2) = W := ⟨_, rfl⟩
  rw [hW2] at hb2 hrow hx2 ⊢
  clear hW2 hx1 hz1 hb1
  refine (C2.out _ _ _ hrow).mono ?_
  rintro e w1 ⟨rfl, rfl⟩
  clear hrow
  have f0 := hx2.frozen 0
  have q0 := hx2.one
  have lq := hx2.lt
  have hxe := (hx2.set 0 (.slice none 0 0)).one
  have hbe := hb2.setCell (p := ⟨w.heap.size, 0, none⟩) (Nat.le_refl _) (.slice none 0 0)
  go_wp2_with fail
  refine bodyPost_ret (v := .tuple #[.agg #[.slice none 0 0], .int .i64 2]) ?_ rfl ⟨_, rfl, fb_none _ _, hbe⟩
  simp [results, Try.results17, go_sem, hxe]

set_option maxHeartbeats 400000 in
theorem specCf_bad (x : ByteArray) (a b : Int) (w : World) (hs : x.size ≤ maxLen) (h : Wd.wordB x.data.toList = false ∨ x.size = 0) :
    Calls Try.prog 16 #[.string x, .int .i64 a, .int .i64 b] w fun e w' => ∃ u, e = .returned (.tuple #[u, .int .i64 1]) ∧ FB w' w.heap.size u [] ∧ Below w.heap.size w w' := by
  have he := isEmptyB (x := x)
  have c1 := specWord_any x
  cases hw : Wd.wordB x.data.toList
  · rw [hw] at c1
    have C1 := hidv (fun W => c1 W hs)
    clear h c1 hw he
    go_enter Try.func16, Try.ntmps16
    go_wp2_with fail
    have hb1 : Below w.heap.size w (w.alloc (.cells #[.slice none 0 0] 29)) := (Below.refl _ _).alloc (Nat.le_refl _) _
    have hx1 := Bx.new w 29 #[.slice none 0 0]
    have hz1 : (w.alloc (.cells #[.slice none 0 0] 29)).heap.size = w.heap.size + 1 := by simp
    obtain ⟨W1, hW1⟩ : ∃ W, w.alloc (.cells #[.slice none 0 0] 29) = W := ⟨_, rfl⟩
    rw [hW1] at hb1 hx1 hz1 ⊢
    clear hW1
    refine (C1.out _).mono ?_
    rintro e w' ⟨rfl, rfl⟩
    have f0 := hx1.frozen 0
    have q0 := hx1.one
    have lq := hx1.lt
    have hxe := (hx1.set 0 (.slice none 0 0)).one
    have hbe := hb1.setCell (p := ⟨w.heap.size, 0, none⟩) (Nat.le_refl _) (.slice none 0 0)
    go_wp2_with fail
    refine bodyPost_ret (v := .tuple #[.agg #[.slice none 0 0], .int .i64 1]) ?_ rfl ⟨_, rfl, fb_none _ _, hbe⟩
    simp [results, Try.results16, go_sem, hxe]
  · have h0 : x.size = 0 := h.resolve_left (by rw [hw]; simp)
    rw [hw] at c1
    rw [decide_eq_true h0] at he
    have C1 := hidv (fun W => c1 W hs)
    clear h c1 hw h0
    go_enter Try.func16, Try.ntmps16
    go_wp2_with fail
    have hb1 : Below w.heap.size w (w.alloc (.cells #[.slice none 0 0] 29)) := (Below.refl _ _).alloc (Nat.le_refl _) _
    have hx1 := Bx.new w 29 #[.slice none 0 0]
    have hz1 : (w.alloc (.cells #[.slice none 0 0] 29)).heap.size = w.heap.size + 1 := by simp
    obtain ⟨W1, hW1⟩ : ∃ W, w.alloc (.cells #[.slice none 0 0] 29) = W := ⟨_, rfl⟩
    rw [hW1] at hb1 hx1 hz1 ⊢
    clear hW1
    refine (C1.out _).mono ?_
    rintro e w' ⟨rfl, rfl⟩
    have f0 := hx1.frozen 0
    have q0 := hx1.one
    have lq := hx1.lt
    have hxe := (hx1.set 0 (.slice none 0 0)).one
    have hbe := hb1.setCell (p := ⟨w.heap.size, 0, none⟩) (Nat.le_refl _) (.slice none 0 0)
    go_wp2_with fail
    refine bodyPost_ret (v := .tuple #[.agg #[.slice none 0 0], .int .i64 1]) ?_ rfl ⟨_, rfl, fb_none _ _, hbe⟩
    simp [results, Try.results16, go_sem, hxe]

set_option maxHeartbeats 400000 in
theorem specCf_range (x : ByteArray) (a b : Int) (w : World) (hx : Wd.wordB x.data.toList = true) (h0 : x.size ≠ 0) (hd : ¬ InN 4 [a, b]) :
    Calls Try.prog 16 #[.string x, .int .i64 a, .int .i64 b] w fun e w' => ∃ u, e = .returned (.tuple #[u, .int .i64 2]) ∧ FB w' w.heap.size u [] ∧ Below w.heap.size w w' := by
  have c1 := specWord_any x
  have hs := sizeF hx
  have he := isEmptyB (x := x)
  rw [decide_eq_false h0] at he
  rw [hx] at c1
  have C1 := hidv (fun W => c1 W (by unfold maxLen; omega))
  by_cases h1 : 0 ≤ a ∧ a ≤ 3
  · have h2 : ¬ (0 ≤ b ∧ b ≤ 3) := fun h2 => hd (in4.mpr ⟨h1, h2⟩)
    have C2 := hidv (fun W => l00In_any a 0 3 W true (by simp [h1]))
    have C3 := hidv (fun W => l00In_any b 0 3 W false (by rw [← Bool.not_eq_true, Bool.and_eq_true, decide_eq_true_eq, decide_eq_true_eq]; exact h2))
    clear c1 hx hd h1 h2
    go_enter Try.func16, Try.ntmps16
    go_wp2_with fail
    have hb1 : Below w.heap.size w (w.alloc (.cells #[.slice none 0 0] 29)) := (Below.refl _ _).alloc (Nat.le_refl _) _
    have hx1 := Bx.new w 29 #[.slice none 0 0]
    have hz1 : (w.alloc (.cells #[.slice none 0 0] 29)).heap.size = w.heap.size + 1 := by simp
    obtain ⟨W1, hW1⟩ : ∃ W, w.alloc (.cells #[.slice none 0 0] 29) = W := ⟨_, rfl⟩
    rw [hW1] at hb1 hx1 hz1 ⊢
    clear hW1
    refine (C1.out _).mono ?_
    rintro e w' ⟨rfl, rfl⟩
    go_wp2_with fail
    refine (C2.out _).mono ?_
    rintro e w' ⟨rfl, rfl⟩
    go_wp2_with fail
    refine (C3.out _).mono ?_
    rintro e w' ⟨rfl, rfl⟩
    have f0 := hx1.frozen 0
    have q0 := hx1.one
    have lq := hx1.lt
    have hxe := (hx1.set 0 (.slice none 0 0)).one
    have hbe := hb1.setCell (p := ⟨w.heap.size, 0, none⟩) (Nat.le_refl _) (.slice none 0 0)
    go_wp2_with fail
    refine bodyPost_ret (v := .tuple #[.agg #[.slice none 0 0], .int .i64 2]) ?_ rfl ⟨_, rfl, fb_none _ _, hbe⟩
    simp [results, Try.results16, go_sem, hxe]
  · have C2 := hidv (fun W => l00In_any a 0 3 W false (by rw [← Bool.not_eq_true, Bool.and_eq_true, decide_eq_true_eq, decide_eq_true_eq]; exact h1))
    clear c1 hx hd h1
    go_enter Try.func16, Try.ntmps16
    go_wp2_with fail
    have hb1 : Below w.heap.size w (w.alloc (.cells #[.slice none 0 0] 29)) := (Below.refl _ _).alloc (Nat.le_refl _) _
    have hx1 := Bx.new w 29 #[.slice none 0 0]
    have hz1 : (w.alloc (.cells #[.slice none 0 0] 29)).heap.size = w.heap.size + 1 := by simp
    obtain ⟨W1, hW1⟩ : ∃ W, w.alloc (.cells #[.slice none 0 0] 29) = W := ⟨_, rfl⟩
    rw [hW1] at hb1 hx1 hz1 ⊢
    clear hW1
    refine (C1.out _).mono ?_
    rintro e w' ⟨rfl, rfl⟩
    go_wp2_with fail
    refine (C2.out _).mono ?_
    rintro e w' ⟨rfl, rfl⟩
    have f0 := hx1.frozen 0
    have q0 := hx1.one
    have lq := hx1.lt
    have hxe := (hx1.set 0 (.slice none 0 0)).one
    have hbe := hb1.setCell (p := ⟨w.heap.size, 0, none⟩) (Nat.le_refl _) (.slice none 0 0)
    go_wp2_with fail
    refine bodyPost_ret (v := .tuple #[.agg #[.slice none 0 0], .int .i64 2]) ?_ rfl ⟨_, rfl, fb_none _ _, hbe⟩
    simp [results, Try.results16, go_sem, hxe]

set_option maxHeartbeats 400000 in
theorem specCf_ok (x : ByteArray) (a b : Int) (w : World) (hx : Wd.wordB x.data.toList = true) (h0 : x.size ≠ 0) (hd : InN 4 [a, b]) :
    Calls Try.prog 16 #[.string x, .int .i64 a, .int .i64 b] w fun e w' => ∃ u, e = .returned (.tuple #[u, .int .i64 0]) ∧ FB w' w.heap.size u [[(x, 0, a)], [(x, 0, b)], [], []] ∧ Below w.heap.size w w' := by
  have c1 := specWord_any x
  have hs := sizeF hx
  have he := isEmptyB (x := x)
  rw [decide_eq_false h0] at he
  rw [hx] at c1
  obtain ⟨hd1, hd2⟩ := in4.mp hd
  have C1 := hidv (fun W => c1 W (by unfold maxLen; omega))
  have C2 := hidv (fun W => l00In_any a 0 3 W true (by simp [hd1]))
  have C3 := hidv (fun W => l00In_any b 0 3 W true (by simp [hd2]))
  clear c1 hx hd hd1 hd2
  go_enter Try.func16, Try.ntmps16
  go_wp2_with fail
  have hb1 : Below w.heap.size w (w.alloc (.cells #[.slice none 0 0] 29)) := (Below.refl _ _).alloc (Nat.le_refl _) _
  have hx1 := Bx.new w 29 #[.slice none 0 0]
  have hz1 : (w.alloc (.cells #[.slice none 0 0] 29)).heap.size = w.heap.size + 1 := by simp
  obtain ⟨W1, hW1⟩ : ∃ W, w.alloc (.cells #[.slice none 0 0] 29) = W := ⟨_, rfl⟩
  rw [hW1] at hb1 hx1 hz1 ⊢
  clear hW1
  refine (C1.out _).mono ?_
  rintro e w' ⟨rfl, rfl⟩
  go_wp2_with fail
  refine (C2.out _).mono ?_
  rintro e w' ⟨rfl, rfl⟩
  go_wp2_with fail
  refine (C3.out _).mono ?_
  rintro e w' ⟨rfl, rfl⟩
  have f0 := hx1.frozen 0
  have q0 := hx1.one
  have lq := hx1.lt
  go_wp2_with fail
  obtain ⟨W, hW⟩ : ∃ W, W1.setCell ⟨w.heap.size, 0, none⟩ (.slice (some ⟨w.heap.size + 1 + 1 + 1 + 1 + 1, 0, none⟩) 4 4) = W := ⟨_, rfl⟩
  have hbW : Below w.heap.size w W := by rw [← hW]; exact hb1.setCell (Nat.le_refl _) _
  have hzW : W.heap.size = w.heap.size + 1 := by rw [← hW]; simp [World.setCell]; exact hz1
  have hxW : Bx W w.heap.size 29 #[.slice (some ⟨w.heap.size + 1 + 1 + 1 + 1 + 1, 0, none⟩) 4 4] := by rw [← hW]; exact hx1.set 0 _
  rw [hW]
  obtain ⟨V1, hV1⟩ : ∃ V, W.alloc (.cells #[.string x, .int .i64 0, .int .i64 a] 53) = V := ⟨_, rfl⟩
  have r1 : Qws V1 w.heap.size (.slice (some ⟨w.heap.size + 1, 0, none⟩) 1 1) [(x, 0, a)] := by rw [← hV1]; exact qws_lit hzW (by omega) x 0 a
  have z1 : V1.heap.size = w.heap.size + 1 + 1 := by rw [← hV1]; simp [hzW]
  have b1 : Below w.heap.size w V1 := by rw [← hV1]; exact below_al hbW _
  have x1 : Bx V1 w.heap.size 29 #[.slice (some ⟨w.heap.size + 1 + 1 + 1 + 1 + 1, 0, none⟩) 4 4] := by rw [← hV1]; exact hxW.alloc _
  rw [hV1]
  obtain ⟨V2, hV2⟩ : ∃ V, V1.alloc (.cells #[.string x, .int .i64 0, .int .i64 b] 53) = V := ⟨_, rfl⟩
  have r2 : Qws V2 w.heap.size (.slice (some ⟨w.heap.size + 1 + 1, 0, none⟩) 1 1) [(x, 0, b)] := by rw [← hV2]; exact qws_lit z1 (by omega) x 0 b
  have r1' := r1.alloc (.cells #[.string x, .int .i64 0, .int .i64 b] 53)
  rw [hV2] at r1'
  have z2 : V2.heap.size = w.heap.size + 1 + 1 + 1 := by rw [← hV2]; simp [z1]
  have b2 : Below w.heap.size w V2 := by rw [← hV2]; exact below_al b1 _
  have x2 : Bx V2 w.heap.size 29 #[.slice (some ⟨w.heap.size + 1 + 1 + 1 + 1 + 1, 0, none⟩) 4 4] := by rw [← hV2]; exact x1.alloc _
  rw [hV2]
  obtain ⟨V3, hV3⟩ : ∃ V, V2.alloc (.cells #[] 53) = V := ⟨_, rfl⟩
  have r3 : Qws V3 w.heap.size (.slice (some ⟨w.heap.size + 1 + 1 + 1, 0, none⟩) 0 0) [] := by rw [← hV3]; exact qws_lit0 z2 (by omega)
  have r1'' := r1'.alloc (.cells #[] 53)
  rw [hV3] at r1''
  have r2' := r2.alloc (.cells #[] 53)
  rw [hV3] at r2'
  have z3 : V3.heap.size = w.heap.size + 1 + 1 + 1 + 1 := by rw [← hV3]; simp [z2]
  have b3 : Below w.heap.size w V3 := by rw [← hV3]; exact below_al b2 _
  have x3 : Bx V3 w.heap.size 29 #[.slice (some ⟨w.heap.size + 1 + 1 + 1 + 1 + 1, 0, none⟩) 4 4] := by rw [← hV3]; exact x2.alloc _
  rw [hV3]
  obtain ⟨V4, hV4⟩ : ∃ V, V3.alloc (.cells #[] 53) = V := ⟨_, rfl⟩
  have r4 : Qws V4 w.heap.size (.slice (some ⟨w.heap.size + 1 + 1 + 1 + 1, 0, none⟩) 0 0) [] := by rw [← hV4]; exact qws_lit0 z3 (by omega)
  have r1x := r1''.alloc (.cells #[] 53)
  rw [hV4] at r1x
  have r2x := r2'.alloc (.cells #[] 53)
  rw [hV4] at r2x
  have r3x := r3.alloc (.cells #[] 53)
  rw [hV4] at r3x
  have z4 : V4.heap.size = w.heap.size + 1 + 1 + 1 + 1 + 1 := by rw [← hV4]; simp [z3]
  have b4 : Below w.heap.size w V4 := by rw [← hV4]; exact below_al b3 _
  have x4 : Bx V4 w.heap.size 29 #[.slice (some ⟨w.heap.size + 1 + 1 + 1 + 1 + 1, 0, none⟩) 4 4] := by rw [← hV4]; exact x3.alloc _
  rw [hV4]
  have hfb := qb_four z4 (base := w.heap.size) (by omega) r1x r2x r3x r4 (apt_four (by simp [Value.ownBlock] <;> omega) (by simp [Value.ownBlock] <;> omega) (by simp [Value.ownBlock] <;> omega) (by simp [Value.ownBlock] <;> omega) (by simp [Value.ownBlock] <;> omega) (by simp [Value.ownBlock] <;> omega))
  have hxe := (x4.alloc (.cells #[.slice (some ⟨w.heap.size + 1, 0, none⟩) 1 1, .slice (some ⟨w.heap.size + 1 + 1, 0, none⟩) 1 1, .slice (some ⟨w.heap.size + 1 + 1 + 1, 0, none⟩) 0 0, .slice (some ⟨w.heap.size + 1 + 1 + 1 + 1, 0, none⟩) 0 0] 50)).one
  refine bodyPost_ret (v := .tuple #[.agg #[.slice (some ⟨w.heap.size + 1 + 1 + 1 + 1 + 1, 0, none⟩) 4 4], .int .i64 0]) ?_ rfl ⟨_, rfl, ⟨_, rfl, hfb⟩, below_al b4 _⟩
  simp [results, Try.results16, go_sem, hxe]

theorem cf_both (x : ByteArray) (a b : Int) (hs : x.size ≤ maxLen) : ∃ (rs : List (List Pc)) (c : Int), rs.length + qTot rs ≤ 100 ∧
    (∀ w, Calls Try.prog 17 #[.string x, .int .i64 a, .int .i64 b] w fun e w' => ∃ u, e = .returned (.tuple #[u, .int .i64 c]) ∧ FB w' w.heap.size u rs ∧ Below w.heap.size w w') ∧
    ∀ w, Calls Try.prog 16 #[.string x, .int .i64 a, .int .i64 b] w fun e w' => ∃ u, e = .returned (.tuple #[u, .int .i64 c]) ∧ FB w' w.heap.size u rs ∧ Below w.heap.size w w' := by
  by_cases h : Wd.wordB x.data.toList = false ∨ x.size = 0
  · exact ⟨[], 1, by simp [qTot], fun w => implCf_bad x a b w hs h, fun w => specCf_bad x a b w hs h⟩
  · have hx : Wd.wordB x.data.toList = true := by
      rcases hw : Wd.wordB x.data.toList with _ | _
      · exact absurd (.inl hw) h
      · rfl
    have h0 : x.size ≠ 0 := fun h0 => h (.inr h0)
    by_cases hd : InN 4 [a, b]
    · exact ⟨_, 0, by simp [qTot], fun w => implCf_ok x a b w hx h0 hd, fun w => specCf_ok x a b w hx h0 hd⟩
    · exact ⟨[], 2, by simp [qTot], fun w => implCf_range x a b w hx h0 hd, fun w => specCf_range x a b w hx h0 hd⟩

end Go.Proofs.Ytlmdmbhmmfdajaa
