/-
  Maps of states as arrays of four numbers: that of the empty word, and one behind the other: contracts of the program's functions.
-/
import Derived.Test.YtjoleenehdfkkaaVb3
namespace Go.Proofs.Ytjoleenehdfkkaa
open Go.RowKit Go
set_option linter.unusedVariables false

theorem ix4 (cs : Array Value) (i : Nat) (v : Value) (hi : i < 4) (hv : cs[i]? = some v) (w : World) :
    (Instr.index 64 (.agg cs) (.int .i64 (i : Int))).run Try.prog w = .ok v w := by
  have h1 : (0 : Int) ≤ (i : Int) ∧ (i : Int) < ((4 : Nat) : Int) := by omega
  simp [Instr.index, run_underlying Try.underlying64, asIntOf, part, Try.isAgg2, Try.sizeOf2, go_sem, h1, hv]
  omega

def arrN (xs : List Nat) : Array Value := (xs.map fun n : Nat => Value.int .i64 (n : Int)).toArray
theorem arrN_get (xs : List Nat) (k : Nat) {x : Nat} (h : xs[k]? = some x) : (arrN xs)[k]? = some (.int .i64 (x : Int)) := by
  simp [arrN, h]
theorem arrN_set (xs : List Nat) (k x : Nat) : (arrN xs).setIfInBounds k (.int .i64 (x : Int)) = arrN (xs.set k x) := by
  simp [arrN]

def stTo (k : Nat) : List Nat := (List.range 4).map fun i => if i < k then i else 0
theorem stTo_set : ∀ k, k < 4 → (stTo k).set k k = stTo (k + 1) := by decide
theorem stTo_at : ∀ k, k < 4 → (stTo k)[k]? = some 0 := by decide

set_option maxRecDepth 100000 in
set_option maxHeartbeats 800000 in
theorem staying_any (w : World) :
    Calls Try.prog 52 #[] w fun e w' => e = .returned (.agg #[.int .i64 0, .int .i64 1, .int .i64 2, .int .i64 3]) ∧ Below w.heap.size w w' := by
  have hZ := (Bx.new w 64 #[.int .i64 0, .int .i64 0, .int .i64 0, .int .i64 0]).alloc (.cells #[.int .i64 0, .int .i64 0, .int .i64 0, .int .i64 0] 64)
  have hX := Bx.new (w.alloc (.cells #[.int .i64 0, .int .i64 0, .int .i64 0, .int .i64 0] 64)) 64 #[.int .i64 0, .int .i64 0, .int .i64 0, .int .i64 0]
  rw [World.size_alloc] at hX
  have HZ := hidv hZ
  have HX := hidv hX
  have HB := hidv (show Below w.heap.size w ((w.alloc (.cells #[.int .i64 0, .int .i64 0, .int .i64 0, .int .i64 0] 64)).alloc (.cells #[.int .i64 0, .int .i64 0, .int .i64 0, .int .i64 0] 64)) from ((Below.refl _ _).alloc (by simp) _).alloc (by simp) _)
  clear hZ hX
  go_enter Try.func52, Try.ntmps52
  go_wp2_with fail
  go_loopw [3] (fun i wr => ∃ k : Nat, k ≤ 4 ∧ i = .int .i64 k ∧ Hid (Bx wr (w.heap.size + 1) 64 (arrN (stTo k))) ∧ Hid (Bx wr w.heap.size 64 #[.int .i64 0, .int .i64 0, .int .i64 0, .int .i64 0]) ∧ Hid (Below w.heap.size w wr)) (fun i _ => 4 - (intOf i).toNat)
  case atStart => exact ⟨0, by omega, rfl, HX, HZ, HB⟩
  case round =>
    obtain ⟨k, hk, rfl, hbx, hbz, hbe⟩ := hrel
    by_cases hlt : k < 4
    · have c1 : wr.cell? ⟨w.heap.size + 1, k, none⟩ = some (.int .i64 0) := by
        rw [hbx.out.cell k]
        exact arrN_get _ _ (stTo_at k hlt)
      have f1 : wr.frozen? ⟨w.heap.size + 1, k, none⟩ = false := hbx.out.frozen k
      have HN := hidv (stTo_set k hlt)
      have i1 : (0 : Int) ≤ (k : Int) := by omega
      have i2 : (k : Int) < 4 := by omega
      go_wp2
      go_roundw
      case rel =>
        refine ⟨k + 1, by omega, by go_num, hidv ?_, hidv (hbz.out.far _ (by simp) _), hidv (hbe.out.setCell (by simp) _)⟩
        rw [← HN.out, ← arrN_set]
        exact hbx.out.set _ _
      case measure => simp [intOf]; omega
    · obtain rfl : k = 4 := by omega
      have hbx2 : Bx wr (w.heap.size + 1) 64 #[.int .i64 0, .int .i64 1, .int .i64 2, .int .i64 3] := hbx.out
      have y0 : wr.cell? ⟨w.heap.size + 1, 0, none⟩ = some (.int .i64 0) := hbx2.cell 0
      have y1 : wr.cell? ⟨w.heap.size + 1, 1, none⟩ = some (.int .i64 1) := hbx2.cell 1
      have y2 : wr.cell? ⟨w.heap.size + 1, 2, none⟩ = some (.int .i64 2) := hbx2.cell 2
      have y3 : wr.cell? ⟨w.heap.size + 1, 3, none⟩ = some (.int .i64 3) := hbx2.cell 3
      have z0 : wr.cell? ⟨w.heap.size, 0, none⟩ = some (.int .i64 0) := hbz.out.cell 0
      have f0 : wr.frozen? ⟨w.heap.size, 0, none⟩ = false := hbz.out.frozen 0
      have z1 : wr.cell? ⟨w.heap.size, 1, none⟩ = some (.int .i64 0) := hbz.out.cell 1
      have f1 : wr.frozen? ⟨w.heap.size, 1, none⟩ = false := hbz.out.frozen 1
      have z2 : wr.cell? ⟨w.heap.size, 2, none⟩ = some (.int .i64 0) := hbz.out.cell 2
      have f2 : wr.frozen? ⟨w.heap.size, 2, none⟩ = false := hbz.out.frozen 2
      have z3 : wr.cell? ⟨w.heap.size, 3, none⟩ = some (.int .i64 0) := hbz.out.cell 3
      have f3 : wr.frozen? ⟨w.heap.size, 3, none⟩ = false := hbz.out.frozen 3
      have HF := hidv ((((hbz.out.set 0 (.int .i64 0)).set 1 (.int .i64 1)).set 2 (.int .i64 2)).set 3 (.int .i64 3))
      have E0 := hidv (HF.out.cell 0)
      have E1 := hidv (HF.out.cell 1)
      have E2 := hidv (HF.out.cell 2)
      have E3 := hidv (HF.out.cell 3)
      clear hbx2
      go_wp2
      refine bodyPost_ret (v := .agg #[.int .i64 0, .int .i64 1, .int .i64 2, .int .i64 3]) ?_ rfl ⟨rfl, ?_⟩
      · simp [results, Try.results52, go_sem, E0.out, E1.out, E2.out, E3.out]
      · exact ((((hbe.out.setCell (by simp) _).setCell (by simp) _).setCell (by simp) _).setCell (by simp) _)

/-- The map of a word with the map A and behind it one with the map B. -/
def thenM (A B : List Nat) : List Nat := (List.range 4).map fun i => B.getD (A.getD i 0) 0
def thTo (A B : List Nat) (k : Nat) : List Nat := (List.range 4).map fun i => if i < k then B.getD (A.getD i 0) 0 else 0
theorem thTo_set (A B : List Nat) : ∀ k, k < 4 → (thTo A B k).set k (B.getD (A.getD k 0) 0) = thTo A B (k + 1) := by
  intro k hk
  match k, hk with
  | 0, _ => rfl
  | 1, _ => rfl
  | 2, _ => rfl
  | 3, _ => rfl
theorem thTo_at (A B : List Nat) : ∀ k, k < 4 → (thTo A B k)[k]? = some 0 := by
  intro k hk
  match k, hk with
  | 0, _ => rfl
  | 1, _ => rfl
  | 2, _ => rfl
  | 3, _ => rfl

set_option maxRecDepth 100000 in
set_option maxHeartbeats 800000 in
theorem then_any (a0 a1 a2 a3 b0 b1 b2 b3 x0 x1 x2 x3 : Nat) (h0 : a0 < 4) (h1 : a1 < 4) (h2 : a2 < 4) (h3 : a3 < 4) (hx : thenM [a0, a1, a2, a3] [b0, b1, b2, b3] = [x0, x1, x2, x3]) (w : World) :
    Calls Try.prog 53 #[.agg #[.int .i64 (a0 : Int), .int .i64 (a1 : Int), .int .i64 (a2 : Int), .int .i64 (a3 : Int)], .agg #[.int .i64 (b0 : Int), .int .i64 (b1 : Int), .int .i64 (b2 : Int), .int .i64 (b3 : Int)]] w fun e w' => e = .returned (.agg #[.int .i64 (x0 : Int), .int .i64 (x1 : Int), .int .i64 (x2 : Int), .int .i64 (x3 : Int)]) ∧ Below w.heap.size w w' := by
  have HB := hidv (show Below w.heap.size w ((((w.alloc (.cells #[.int .i64 (a0 : Int), .int .i64 (a1 : Int), .int .i64 (a2 : Int), .int .i64 (a3 : Int)] 64)).alloc (.cells #[.int .i64 (b0 : Int), .int .i64 (b1 : Int), .int .i64 (b2 : Int), .int .i64 (b3 : Int)] 64)).alloc (.cells #[.int .i64 0, .int .i64 0, .int .i64 0, .int .i64 0] 64)).alloc (.cells #[.int .i64 0, .int .i64 0, .int .i64 0, .int .i64 0] 64)) from ((((Below.refl _ _).alloc (by simp) _).alloc (by simp) _).alloc (by simp; omega) _).alloc (by simp; omega) _)
  have hb := ((Bx.new (w.alloc (.cells #[.int .i64 (a0 : Int), .int .i64 (a1 : Int), .int .i64 (a2 : Int), .int .i64 (a3 : Int)] 64)) 64 #[.int .i64 (b0 : Int), .int .i64 (b1 : Int), .int .i64 (b2 : Int), .int .i64 (b3 : Int)]).alloc (.cells #[.int .i64 0, .int .i64 0, .int .i64 0, .int .i64 0] 64)).alloc (.cells #[.int .i64 0, .int .i64 0, .int .i64 0, .int .i64 0] 64)
  rw [World.size_alloc] at hb
  have hz := (Bx.new ((w.alloc (.cells #[.int .i64 (a0 : Int), .int .i64 (a1 : Int), .int .i64 (a2 : Int), .int .i64 (a3 : Int)] 64)).alloc (.cells #[.int .i64 (b0 : Int), .int .i64 (b1 : Int), .int .i64 (b2 : Int), .int .i64 (b3 : Int)] 64)) 64 #[.int .i64 0, .int .i64 0, .int .i64 0, .int .i64 0]).alloc (.cells #[.int .i64 0, .int .i64 0, .int .i64 0, .int .i64 0] 64)
  rw [World.size_alloc, World.size_alloc] at hz
  have hy := (Bx.new (((w.alloc (.cells #[.int .i64 (a0 : Int), .int .i64 (a1 : Int), .int .i64 (a2 : Int), .int .i64 (a3 : Int)] 64)).alloc (.cells #[.int .i64 (b0 : Int), .int .i64 (b1 : Int), .int .i64 (b2 : Int), .int .i64 (b3 : Int)] 64)).alloc (.cells #[.int .i64 0, .int .i64 0, .int .i64 0, .int .i64 0] 64)) 64 #[.int .i64 0, .int .i64 0, .int .i64 0, .int .i64 0])
  rw [World.size_alloc, World.size_alloc, World.size_alloc] at hy
  have HBB := hidv hb
  have HZ := hidv hz
  have HY := hidv hy
  have HX := hidv hx
  obtain ⟨A, hA⟩ : ∃ A, [a0, a1, a2, a3] = A := ⟨_, rfl⟩
  have hal := hidv (show ∀ k, k < 4 → ∃ a, A[k]? = some a ∧ a < 4 from by
    intro k hk
    rw [← hA]
    match k, hk with
    | 0, _ => exact ⟨a0, rfl, h0⟩
    | 1, _ => exact ⟨a1, rfl, h1⟩
    | 2, _ => exact ⟨a2, rfl, h2⟩
    | 3, _ => exact ⟨a3, rfl, h3⟩)
  obtain ⟨AV, hAV⟩ : ∃ AV, arrN [a0, a1, a2, a3] = AV := ⟨_, rfl⟩
  have hav : AV = #[.int .i64 (a0 : Int), .int .i64 (a1 : Int), .int .i64 (a2 : Int), .int .i64 (a3 : Int)] := hAV.symm
  have HAA := hidv hA
  have HAV := hidv hAV
  clear hb hz hy hx hA hAV
  go_enter Try.func53, Try.ntmps53
  go_wp2_with fail
  obtain ⟨W, hW⟩ : ∃ W, ((((w.alloc (.cells #[.int .i64 (a0 : Int), .int .i64 (a1 : Int), .int .i64 (a2 : Int), .int .i64 (a3 : Int)] 64)).alloc (.cells #[.int .i64 (b0 : Int), .int .i64 (b1 : Int), .int .i64 (b2 : Int), .int .i64 (b3 : Int)] 64)).alloc (.cells #[.int .i64 0, .int .i64 0, .int .i64 0, .int .i64 0] 64)).alloc (.cells #[.int .i64 0, .int .i64 0, .int .i64 0, .int .i64 0] 64)) = W := ⟨_, rfl⟩
  rw [hW] at HB HBB HZ HY ⊢
  rw [← hav]
  clear hW hav
  go_loopw [9] (fun i wr => ∃ k : Nat, k ≤ 4 ∧ i = .int .i64 k ∧ Hid (Bx wr (w.heap.size + 1 + 1 + 1) 64 (arrN (thTo A [b0, b1, b2, b3] k))) ∧ Hid (Bx wr (w.heap.size + 1 + 1) 64 #[.int .i64 0, .int .i64 0, .int .i64 0, .int .i64 0]) ∧ Hid (Bx wr (w.heap.size + 1) 64 (arrN [b0, b1, b2, b3])) ∧ Hid (Below w.heap.size w wr)) (fun i _ => 4 - (intOf i).toNat)
  case atStart => exact ⟨0, by omega, rfl, HY, HZ, HBB, HB⟩
  case round =>
    obtain ⟨k, hk, rfl, hbx, hbz, hbb, hbe⟩ := hrel
    by_cases hlt : k < 4
    · obtain ⟨a, ha, ha4⟩ := hal.out k hlt
      have hix := fun W => ix4 AV k (.int .i64 (a : Int)) hlt (by rw [← HAV.out]; exact arrN_get _ _ (by rw [HAA.out]; exact ha)) W
      have hbl : ([b0, b1, b2, b3] : List Nat)[a]? = some (([b0, b1, b2, b3] : List Nat).getD a 0) := by
        rw [List.getD_eq_getElem?_getD, List.getElem?_eq_getElem (by simpa using ha4)]
        rfl
      have c0 : wr.cell? ⟨w.heap.size + 1, a, none⟩ = some (.int .i64 ((([b0, b1, b2, b3] : List Nat).getD a 0 : Nat) : Int)) := by
        rw [hbb.out.cell a]
        exact arrN_get _ _ hbl
      have c1 : wr.cell? ⟨w.heap.size + 1 + 1 + 1, k, none⟩ = some (.int .i64 0) := by
        rw [hbx.out.cell k]
        exact arrN_get _ _ (thTo_at _ _ k hlt)
      have f1 : wr.frozen? ⟨w.heap.size + 1 + 1 + 1, k, none⟩ = false := hbx.out.frozen k
      have hst := thTo_set A [b0, b1, b2, b3] k hlt
      rw [show A.getD k 0 = a by rw [List.getD_eq_getElem?_getD, ha]; rfl] at hst
      obtain ⟨b, hbv⟩ : ∃ b, ([b0, b1, b2, b3] : List Nat).getD a 0 = b := ⟨_, rfl⟩
      rw [hbv] at c0 hst
      have HN := hidv hst
      have i1 : (0 : Int) ≤ (k : Int) := by omega
      have i2 : (k : Int) < 4 := by omega
      have i3 : (0 : Int) ≤ (a : Int) := by omega
      have i4 : (a : Int) < 4 := by omega
      clear hbl hst ha hbv
      go_wp2
      go_roundw
      case rel =>
        refine ⟨k + 1, by omega, by go_num, hidv ?_, hidv (hbz.out.far _ (by simp) _), hidv (hbb.out.far _ (by simp <;> omega) _), hidv (hbe.out.setCell (by simp; omega) _)⟩
        rw [← HN.out, ← arrN_set]
        exact hbx.out.set _ _
      case measure => simp [intOf]; omega
    · obtain rfl : k = 4 := by omega
      have hbx2 : Bx wr (w.heap.size + 1 + 1 + 1) 64 #[.int .i64 (x0 : Int), .int .i64 (x1 : Int), .int .i64 (x2 : Int), .int .i64 (x3 : Int)] := by
        have h := hbx.out
        rw [← HAA.out] at h
        have h2 : thTo [a0, a1, a2, a3] [b0, b1, b2, b3] 4 = [x0, x1, x2, x3] := HX.out
        rw [h2] at h
        exact h
      have y0 : wr.cell? ⟨w.heap.size + 1 + 1 + 1, 0, none⟩ = some (.int .i64 (x0 : Int)) := hbx2.cell 0
      have y1 : wr.cell? ⟨w.heap.size + 1 + 1 + 1, 1, none⟩ = some (.int .i64 (x1 : Int)) := hbx2.cell 1
      have y2 : wr.cell? ⟨w.heap.size + 1 + 1 + 1, 2, none⟩ = some (.int .i64 (x2 : Int)) := hbx2.cell 2
      have y3 : wr.cell? ⟨w.heap.size + 1 + 1 + 1, 3, none⟩ = some (.int .i64 (x3 : Int)) := hbx2.cell 3
      have z0 : wr.cell? ⟨w.heap.size + 1 + 1, 0, none⟩ = some (.int .i64 0) := hbz.out.cell 0
      have f0 : wr.frozen? ⟨w.heap.size + 1 + 1, 0, none⟩ = false := hbz.out.frozen 0
      have z1 : wr.cell? ⟨w.heap.size + 1 + 1, 1, none⟩ = some (.int .i64 0) := hbz.out.cell 1
      have f1 : wr.frozen? ⟨w.heap.size + 1 + 1, 1, none⟩ = false := hbz.out.frozen 1
      have z2 : wr.cell? ⟨w.heap.size + 1 + 1, 2, none⟩ = some (.int .i64 0) := hbz.out.cell 2
      have f2 : wr.frozen? ⟨w.heap.size + 1 + 1, 2, none⟩ = false := hbz.out.frozen 2
      have z3 : wr.cell? ⟨w.heap.size + 1 + 1, 3, none⟩ = some (.int .i64 0) := hbz.out.cell 3
      have f3 : wr.frozen? ⟨w.heap.size + 1 + 1, 3, none⟩ = false := hbz.out.frozen 3
      have HF := hidv ((((hbz.out.set 0 (.int .i64 (x0 : Int))).set 1 (.int .i64 (x1 : Int))).set 2 (.int .i64 (x2 : Int))).set 3 (.int .i64 (x3 : Int)))
      have E0 := hidv (HF.out.cell 0)
      have E1 := hidv (HF.out.cell 1)
      have E2 := hidv (HF.out.cell 2)
      have E3 := hidv (HF.out.cell 3)
      clear hbx2
      go_wp2
      refine bodyPost_ret (v := .agg #[.int .i64 (x0 : Int), .int .i64 (x1 : Int), .int .i64 (x2 : Int), .int .i64 (x3 : Int)]) ?_ rfl ⟨rfl, ?_⟩
      · simp [results, Try.results53, go_sem, E0.out, E1.out, E2.out, E3.out]
      · exact ((((hbe.out.setCell (by simp; omega) _).setCell (by simp; omega) _).setCell (by simp; omega) _).setCell (by simp; omega) _)

end Go.Proofs.Ytjoleenehdfkkaa
