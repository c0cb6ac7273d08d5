/-
  The steps of a stripped equation, of the program: a contract.
-/
import Derived.Test.YtfnlikjdfihggaaSt1
import Derived.Laws.EntriesVeiled
namespace Go.Proofs.Ytfnlikjdfihggaa
open Go.RowKit Go
set_option linter.unusedVariables false

def mkO (x y : ByteArray) (b : Bool) : List Stp := if (b && uB x.data.toList) = true then [(unN x, y)] else []
theorem mk_cases (x y : ByteArray) (b : Bool) : (mkV x y b = .tuple #[.agg #[.int .i64 (unN x), .string y], .bool true] ∧ mkO x y b = [(unN x, y)]) ∨ (mkV x y b = .tuple #[.agg #[.int .i64 0, .string ⟨#[]⟩], .bool false] ∧ mkO x y b = []) := by
  unfold mkV mkO
  split
  · exact .inl ⟨rfl, rfl⟩
  · exact .inr ⟨rfl, rfl⟩
/-- What the first makers make. -/
def stK (a b : ByteArray) : Nat → List Stp
  | 0 => []
  | 1 => mkO a ⟨#[]⟩ true
  | 2 => mkO a ⟨#[]⟩ true ++ mkO b ⟨#[]⟩ true
  | 3 => (mkO a ⟨#[]⟩ true ++ mkO b ⟨#[]⟩ true) ++ mkO a b (uB b.data.toList)
  | 4 => ((mkO a ⟨#[]⟩ true ++ mkO b ⟨#[]⟩ true) ++ mkO a b (uB b.data.toList)) ++ mkO a (b ++ a) (!b.toList.isEmpty)
  | _ => (((mkO a ⟨#[]⟩ true ++ mkO b ⟨#[]⟩ true) ++ mkO a b (uB b.data.toList)) ++ mkO a (b ++ a) (!b.toList.isEmpty)) ++ mkO b (a ++ b) (!a.toList.isEmpty)
theorem mkO_len (x y : ByteArray) (b : Bool) : (mkO x y b).length ≤ 1 := by
  unfold mkO
  split <;> simp
theorem stK_len (a b : ByteArray) : ∀ k, k ≤ 5 → (stK a b k).length ≤ k := by
  intro k hk
  have h1 := mkO_len a ⟨#[]⟩ true
  have h2 := mkO_len b ⟨#[]⟩ true
  have h3 := mkO_len a b (uB b.data.toList)
  have h4 := mkO_len a (b ++ a) (!b.toList.isEmpty)
  have h5 := mkO_len b (a ++ b) (!a.toList.isEmpty)
  rcases (show k = 0 ∨ k = 1 ∨ k = 2 ∨ k = 3 ∨ k = 4 ∨ k = 5 by omega) with rfl | rfl | rfl | rfl | rfl | rfl <;> simp only [stK, List.length_append, List.length_nil] <;> omega

theorem two_newP (w : World) (o : Obj) (x y : Value) (t : TypeId) : ∀ (j : Nat) (u : Value), [x, y][j]? = some u → ((w.alloc o).alloc (.cells #[x, y] t)).cell? ((⟨w.heap.size + 1, 0, none⟩ : Addr).add j) = some u := by
  intro j u hu
  have hn := heap_alloc_new (w.alloc o) (.cells #[x, y] t)
  rw [World.size_alloc] at hn
  match j, hu with
  | 0, hu =>
    obtain rfl : x = u := by simpa using hu
    show ((w.alloc o).alloc (.cells #[x, y] t)).cell? ⟨w.heap.size + 1, 0, none⟩ = some x
    rw [cell_of_row _ _ _ _ _ _ hn]
    rfl
  | 1, hu =>
    obtain rfl : y = u := by simpa using hu
    show ((w.alloc o).alloc (.cells #[x, y] t)).cell? ⟨w.heap.size + 1, 1, none⟩ = some y
    rw [cell_of_row _ _ _ _ _ _ hn]
    rfl
  | j + 2, hu => simp at hu
theorem two_cellP (x : Int) (y : ByteArray) : ∀ u : Value, u ∈ [Value.int .i64 x, Value.string y] → u.oneCell' = true := by
  intro u hu
  simp only [List.mem_cons, List.not_mem_nil, or_false] at hu
  rcases hu with rfl | rfl <;> rfl
theorem own_belowP {w w' : World} {base n size : Nat} {e : TypeId} {v : Value} {xs : List Value} (h : w.ownsRow base e size v n xs) (hb : Below w.heap.size w w') : w'.ownsRow base e size v n xs :=
  h.kept (row := none) ⟨hb.os, hb.tape, hb.output, hb.size, fun k hk _ => hb.block k hk⟩ (by
    rcases hv : v.ownBlock with _ | k
    · exact .inl rfl
    · exact .inr (by simp))
theorem grow_belowP {w wr w1 : World} {e : TypeId} {n : Nat} {v : Value} {xs : List Value} {o o2 : Obj} (hb : Below w.heap.size w wr) (hown : wr.ownsRow w.heap.size e 2 v n xs)
    (hg : ((wr.alloc o).alloc o2).grownBy w1 v.ownBlock) : Below w.heap.size w w1 := by
  have h1 : Below w.heap.size w ((wr.alloc o).alloc o2) := (hb.alloc hb.size o).alloc (by have := hb.size; simp; omega) o2
  exact h1.grown hg h1.size (fun k hk => (hown.lt k hk).1)
theorem Try.infoSt : (Try.prog.info? 37).map (fun i => (i.zero, i.size, i.bytes)) = some (some (.agg #[.int .i64 0, .string ⟨#[]⟩]), 2, 24) := by kernel_rfl
theorem ix5f (cs : Array Value) (i : Nat) (v : Value) (hi : i < 5) (hv : cs[i]? = some v) (w : World) :
    (Instr.index 84 (.agg cs) (.int .i64 (i : Int))).run Try.prog w = .ok v w := by
  have h1 : (0 : Int) ≤ (i : Int) ∧ (i : Int) < ((5 : Nat) : Int) := by omega
  simp [Instr.index, run_underlying Try.underlying84, asIntOf, part, Try.isAgg83, Try.sizeOf83, go_sem, h1, hv]
  try omega

set_option maxRecDepth 100000 in
set_option maxHeartbeats 8000000 in
theorem stepsFrom_any (l r : ByteArray) (w : World) (hl : l.size ≤ 24) (hr : r.size ≤ 24) :
    Calls Try.prog 36 #[.agg #[.string l, .string r]] w fun e w' => ∃ v, e = .returned v ∧ Stps w' w.heap.size v (stK (hd l) (hd r) 5) ∧ Below w.heap.size w w' := by
  have c0 := fun W => headsOf_any l r W hl hr
  have ha24 : (hd l).size ≤ 24 := by unfold hd; rw [ByteArray.size_extract]; omega
  have hb24 : (hd r).size ≤ 24 := by unfold hd; rw [ByteArray.size_extract]; omega
  obtain ⟨a, ha⟩ : ∃ a, hd l = a := ⟨_, rfl⟩
  obtain ⟨b, hb⟩ : ∃ a, hd r = a := ⟨_, rfl⟩
  rw [ha, hb] at c0
  rw [ha] at ha24
  rw [hb] at hb24
  rw [ha, hb]
  have M0 := hidv (fun W => leftByNothing_any a b W ha24 hb24)
  have M1 := hidv (fun W => rightByNothing_any a b W ha24 hb24)
  have M2 := hidv (fun W => leftByRight_any a b W ha24 hb24)
  have M3 := hidv (fun W => leftByRightAndLeft_any a b W ha24 hb24)
  have M4 := hidv (fun W => rightByLeftAndRight_any a b W ha24 hb24)
  have C0 := hidv c0
  have HL := hidv (stK_len a b)
  obtain ⟨i0, hi, hz0, hz1, hz2⟩ := info_parts Try.infoSt
  clear c0 ha hb ha24 hb24
  go_enter Try.func36, Try.ntmps36
  go_wp2_with fail
  refine (C0.out _).mono ?_
  rintro e w1 ⟨rfl, hb1⟩
  have hB1 : Below w.heap.size w w1 := ((Below.refl w.heap.size w).alloc (Nat.le_refl _) _).trans (hb1.mono (by simp))
  have s1 := hB1.size
  have HB2 := hidv ((hB1.alloc s1 (.cells #[.string a, .string b] 81)).alloc (by simp; omega) (.cells #[.func (.func 64) #[.agg #[.string a, .string b]] #[], .func (.func 65) #[.agg #[.string a, .string b]] #[], .func (.func 66) #[.agg #[.string a, .string b]] #[], .func (.func 67) #[.agg #[.string a, .string b]] #[], .func (.func 68) #[.agg #[.string a, .string b]] #[]] 84))
  clear hb1 hB1
  go_wp2_with fail
  generalize hFA : (Value.agg #[.func (.func 64) #[.agg #[.string a, .string b]] #[], .func (.func 65) #[.agg #[.string a, .string b]] #[], .func (.func 66) #[.agg #[.string a, .string b]] #[], .func (.func 67) #[.agg #[.string a, .string b]] #[], .func (.func 68) #[.agg #[.string a, .string b]] #[]]) = FA
  have HFA := hidv hFA
  clear hFA
  have hrd : ∀ k : Nat, k < 5 → ∃ (f : FuncId) (nx : List Stp) (val : Value), (∀ W, (Instr.index 84 FA (.int .i64 (k : Int))).run Try.prog W = .ok (.func (.func f) #[.agg #[.string a, .string b]] #[]) W) ∧ (∀ args W, (callFunc f args).run Try.prog W = .ok (.enter f args) W) ∧
      (∀ W, Calls Try.prog f #[.agg #[.string a, .string b]] W fun e w' => e = .returned val ∧ Below W.heap.size W w') ∧ stK a b (k + 1) = stK a b k ++ nx ∧ ((∃ q s, val = .tuple #[.agg #[.int .i64 q, .string s], .bool true] ∧ nx = [(q, s)]) ∨ (val = .tuple #[.agg #[.int .i64 0, .string ⟨#[]⟩], .bool false] ∧ nx = [])) := by
    intro k hk
    rcases (show k = 0 ∨ k = 1 ∨ k = 2 ∨ k = 3 ∨ k = 4 by omega) with rfl | rfl | rfl | rfl | rfl
    · refine ⟨64, mkO a ⟨#[]⟩ true, _, fun W => by rw [← HFA.out]; exact ix5f _ 0 _ (by omega) rfl W, fun args W => enters_of Try.func64 (by kernel_rfl) rfl args W, M0.out, rfl, ?_⟩
      rcases mk_cases a ⟨#[]⟩ true with ⟨hm, ho⟩ | ⟨hm, ho⟩
      · exact .inl ⟨_, _, hm, ho⟩
      · exact .inr ⟨hm, ho⟩
    · refine ⟨65, mkO b ⟨#[]⟩ true, _, fun W => by rw [← HFA.out]; exact ix5f _ 1 _ (by omega) rfl W, fun args W => enters_of Try.func65 (by kernel_rfl) rfl args W, M1.out, rfl, ?_⟩
      rcases mk_cases b ⟨#[]⟩ true with ⟨hm, ho⟩ | ⟨hm, ho⟩
      · exact .inl ⟨_, _, hm, ho⟩
      · exact .inr ⟨hm, ho⟩
    · refine ⟨66, mkO a b (uB b.data.toList), _, fun W => by rw [← HFA.out]; exact ix5f _ 2 _ (by omega) rfl W, fun args W => enters_of Try.func66 (by kernel_rfl) rfl args W, M2.out, rfl, ?_⟩
      rcases mk_cases a b (uB b.data.toList) with ⟨hm, ho⟩ | ⟨hm, ho⟩
      · exact .inl ⟨_, _, hm, ho⟩
      · exact .inr ⟨hm, ho⟩
    · refine ⟨67, mkO a (b ++ a) (!b.toList.isEmpty), _, fun W => by rw [← HFA.out]; exact ix5f _ 3 _ (by omega) rfl W, fun args W => enters_of Try.func67 (by kernel_rfl) rfl args W, M3.out, rfl, ?_⟩
      rcases mk_cases a (b ++ a) (!b.toList.isEmpty) with ⟨hm, ho⟩ | ⟨hm, ho⟩
      · exact .inl ⟨_, _, hm, ho⟩
      · exact .inr ⟨hm, ho⟩
    · refine ⟨68, mkO b (a ++ b) (!a.toList.isEmpty), _, fun W => by rw [← HFA.out]; exact ix5f _ 4 _ (by omega) rfl W, fun args W => enters_of Try.func68 (by kernel_rfl) rfl args W, M4.out, rfl, ?_⟩
      rcases mk_cases b (a ++ b) (!a.toList.isEmpty) with ⟨hm, ho⟩ | ⟨hm, ho⟩
      · exact .inl ⟨_, _, hm, ho⟩
      · exact .inr ⟨hm, ho⟩
  have HRD := hidv hrd
  clear hrd M0 M1 M2 M3 M4
  go_loopw [5, 24] (fun v i wr => ∃ k : Nat, k ≤ 5 ∧ i = .int .i64 (k : Int) ∧ Hid (wr.ownsRow w.heap.size 37 2 v (stK a b k).length (flatP (stK a b k))) ∧ Hid (Below w.heap.size w wr)) (fun _ i _ => 5 - (intOf i).toNat)
  case atStart => exact ⟨0, by omega, rfl, hidv (World.ownsRow_nil _ _ _ _), HB2⟩
  case round =>
    obtain ⟨k, hk, rfl, hown, hbe⟩ := hrel
    by_cases hk5 : k = 5
    · subst hk5
      go_wp2_with fail
      go_ret
      exact ⟨_, rfl, hown.out, hbe.out⟩
    have hk4 : k < 5 := by omega
    have hlen := HL.out k (by omega)
    obtain ⟨f, nx, val, hix, hcf, m, hnext, hval⟩ := HRD.out k hk4
    obtain ⟨st, hst⟩ : ∃ s, stK a b k = s := ⟨_, rfl⟩
    rw [hst] at hown hlen hnext
    rcases hval with ⟨q, s, hm, ho⟩ | ⟨hm, ho⟩
    · rw [ho] at hnext
      rw [hm] at m
      have HN := hidv hnext
      have M := hidv m
      clear hm ho m hst hnext
      go_wp2_with fail
      refine (M.out _).mono ?_
      rintro e w2 ⟨rfl, hb2⟩
      have HO2 := hidv (own_belowP hown.out hb2)
      have HB2 := hidv (below_on hbe.out hb2)
      clear hb2 hown
      go_wp2_with (at_builtin; refine wpList_append_own _ rfl (.tmp 33) (.tmp 35) 25 rfl w.heap.size 37 i0 (.agg #[.int .i64 0, .string ⟨#[]⟩]) 2 24 Try.underlying25 hi hz0 hz1 hz2 rfl (by decide) _ _ _ rfl ((HO2.out.alloc _).alloc _) ⟨w2.heap.size + 1, 0, none⟩ 1 1 [.int .i64 q, .string s] rfl rfl (two_newP w2 _ _ _ _) (two_cellP _ _) ?_ ?_ ?_ ?_; (unfold maxLen; omega); omega; exact Nat.le_trans HB2.out.size (by simp; omega); intro v1 w4 hown4 hgr4 _)
      go_roundw
      case rel =>
        refine ⟨k + 1, by omega, by go_num, hidv ?_, hidv (grow_belowP HB2.out HO2.out hgr4)⟩
        rw [HN.out, List.length_append, flatP_app]
        exact hown4
      case measure => simp [intOf]; omega
    · rw [ho, List.append_nil] at hnext
      rw [hm] at m
      have HN := hidv hnext
      have M := hidv m
      clear hm ho m hst hnext
      go_wp2_with fail
      refine (M.out _).mono ?_
      rintro e w2 ⟨rfl, hb2⟩
      have HO2 := hidv ((own_belowP hown.out hb2).alloc (.cells #[.int .i64 0, .string ⟨#[]⟩] 37))
      have HB2 := hidv (below_al (below_on hbe.out hb2) (.cells #[.int .i64 0, .string ⟨#[]⟩] 37))
      clear hb2 hown
      go_wp2_with fail
      go_roundw
      case rel =>
        refine ⟨k + 1, by omega, by go_num, hidv ?_, HB2⟩
        rw [HN.out]
        exact HO2.out
      case measure => simp [intOf]; omega

end Go.Proofs.Ytfnlikjdfihggaa
