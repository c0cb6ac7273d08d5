/-
  The surpluses of all equations, in the program: a contract; and IsNoProof of the program.
-/
import Derived.Test.YtgfdcpmjaamhdaaNi
namespace Go.Proofs.Ytgfdcpmjaamhdaa
open Go.RowKit Go
set_option linter.unusedVariables false

theorem Try.infoN8 : (Try.prog.info? 49).map (fun i => (i.zero, i.size, i.bytes)) = some (some (.agg #[.int .i64 0, .int .i64 0, .int .i64 0, .int .i64 0, .int .i64 0, .int .i64 0, .int .i64 0, .int .i64 0]), 8, 64) := by kernel_rfl
theorem eight_new (w : World) (a0 a1 a2 a3 a4 a5 a6 a7 : Value) (t : TypeId) : ∀ (j : Nat) (u : Value), [a0, a1, a2, a3, a4, a5, a6, a7][j]? = some u → (w.alloc (.cells #[a0, a1, a2, a3, a4, a5, a6, a7] t)).cell? ((⟨w.heap.size, 0, none⟩ : Addr).add j) = some u := by
  intro j u hu
  have h := (Bx.new w t #[a0, a1, a2, a3, a4, a5, a6, a7]).cell j
  have e : ((⟨w.heap.size, 0, none⟩ : Addr).add j) = ⟨w.heap.size, j, none⟩ := by
    simp [Addr.add]
    exact fun h => h.symm
  rw [e, h]
  simpa using hu
theorem eight_cell (a0 a1 a2 a3 a4 a5 a6 a7 : Int) : ∀ u : Value, u ∈ [Value.int .i64 a0, .int .i64 a1, .int .i64 a2, .int .i64 a3, .int .i64 a4, .int .i64 a5, .int .i64 a6, .int .i64 a7] → u.oneCell' = true := by
  intro u hu
  simp only [List.mem_cons, List.not_mem_nil, or_false] at hu
  rcases hu with rfl | rfl | rfl | rfl | rfl | rfl | rfl | rfl <;> rfl

/-- The cells of rows, one behind the other. -/
def flat8 (S : List (List Int)) : List Value := S.flatMap ints
theorem flat8_succ (S : List (List Int)) (k : Nat) (h : k < S.length) : flat8 (S.take (k + 1)) = flat8 (S.take k) ++ ints S[k] := by
  unfold flat8
  rw [List.take_succ_eq_append_getElem h, List.flatMap_append]
  simp
theorem flat8_at : ∀ (S : List (List Int)) (hs : ∀ s ∈ S, s.length = 8) (i : Nat) (hi : i < S.length) (k : Nat) (x : Int), (S[i])[k]? = some x → (flat8 S)[i * 8 + k]? = some (.int .i64 x)
  | s :: S, hs, 0, _, k, x, h => by
    have hl : k < (ints s).length := by
      have := (List.getElem?_eq_some_iff.1 h).1
      simpa [ints] using this
    show (ints s ++ flat8 S)[0 * 8 + k]? = _
    rw [Nat.zero_mul, Nat.zero_add, List.getElem?_append_left hl]
    exact ints_at h
  | s :: S, hs, i + 1, hi, k, x, h => by
    have ih := flat8_at S (fun q hq => hs q (by simp [hq])) i (by simpa using hi) k x (by simpa using h)
    have hl : (ints s).length = 8 := by simp [ints]; exact hs s (by simp)
    show (ints s ++ flat8 S)[(i + 1) * 8 + k]? = _
    rw [List.getElem?_append_right (by omega), hl, show (i + 1) * 8 + k - 8 = i * 8 + k by omega]
    exact ih

set_option maxRecDepth 100000 in
set_option maxHeartbeats 1600000 in
theorem surpluses_any (v : Value) (es : List Eqn) (B : Nat) (w : World) (hv : ERow w B v es) (hB : B ≤ w.heap.size) (hs : sysB es = true) :
    Calls Try.prog 19 #[v] w fun e w' => ∃ u, e = .returned u ∧ FRow w' w'.heap.size u (surS es) ∧ Below w.heap.size w w' := by
  obtain ⟨i0, hi, hz0, hz1, hz2⟩ := info_parts Try.infoN8
  obtain ⟨A, c, rfl, hA⟩ := hv
  obtain ⟨n, hn⟩ : ∃ n, es.length = n := ⟨_, rfl⟩
  have h4 : n ≤ 4 := by
    unfold sysB at hs
    rw [Bool.and_eq_true, decide_eq_true_eq] at hs
    have := hs.1
    omega
  have HSO := hidv (surS_ok hs)
  have HA := hidv hA
  have HS := hidv (show ∀ k (hk : k < es.length), eqnB es[k].1 es[k].2 = true from fun k hk => by
    unfold sysB at hs
    rw [Bool.and_eq_true, List.all_eq_true] at hs
    exact hs.2 _ (List.getElem_mem hk))
  rw [hn]
  have HN := hidv hn
  clear hA hs hn
  go_enter Try.func19, Try.ntmps19
  go_wp2_with fail
  go_loopw [3, 8] (fun u i wr => ∃ k : Nat, k ≤ n ∧ i = .int .i64 (k : Int) ∧ Hid (World.ownsRow wr w.heap.size 49 8 u k (flat8 ((surS es).take k))) ∧ Hid (Below w.heap.size w wr)) (fun _ i _ => n - (intOf i).toNat)
  case atStart => exact ⟨0, Nat.zero_le _, rfl, hidv (World.ownsRow_nil _ _ _ _), hidv (Below.refl _ _)⟩
  case round =>
    obtain ⟨k, hk, rfl, hown, hbe⟩ := hrel
    by_cases hlt : k < n
    · have hkx : k < es.length := by have := HN.out; omega
      obtain ⟨g, o, rfl, hg, hce⟩ := HA.out (by have := HN.out; omega)
      have c1 : wr.cell? ⟨g, o + k * 2, none⟩ = some (.string es[k].1) := (hbe.out.cell (p := ⟨g, _, none⟩) (by show g < _; omega)).trans (hce k hkx).1
      have c2 : wr.cell? ⟨g, o + k * 2 + 1, none⟩ = some (.string es[k].2) := (hbe.out.cell (p := ⟨g, _, none⟩) (by show g < _; omega)).trans (hce k hkx).2
      have C := fun W => surplus_any es[k].1 es[k].2 W (HS.out k hkx)
      obtain ⟨hsl, hsg⟩ := surS_get es k hkx
      have hsu := flat8_succ (surS es) k hsl
      rw [hsg] at hsu
      obtain ⟨x0, x1, x2, x3, x4, x5, x6, x7, hS, _⟩ := surL_eight (HS.out k hkx)
      rw [hS] at hsu C
      have HC := hidv (show ∀ W, Calls Try.prog 25 #[.agg #[.string es[k].1, .string es[k].2]] W fun e w' => e = .returned (.agg #[.int .i64 x0, .int .i64 x1, .int .i64 x2, .int .i64 x3, .int .i64 x4, .int .i64 x5, .int .i64 x6, .int .i64 x7]) ∧ Below W.heap.size W w' from C)
      have HSU := hidv hsu
      obtain ⟨x, hx⟩ : ∃ x, es[k].1 = x := ⟨_, rfl⟩
      obtain ⟨y, hy⟩ : ∃ x, es[k].2 = x := ⟨_, rfl⟩
      rw [hx] at c1 HC
      rw [hy] at c2 HC
      have HO1 := hidv (hown.out.alloc (.cells #[.string x, .string y] 41))
      have HB1 := hidv (below_al hbe.out (.cells #[.string x, .string y] 41))
      clear hce hx hy hsg hsu hS C
      go_wp2_with fail
      refine (HC.out _).mono ?_
      rintro e w2 ⟨rfl, hb2⟩
      have HO2 := hidv (own_below HO1.out hb2)
      have HB2 := hidv (below_on HB1.out hb2)
      have hsz := HB2.out.size
      clear hb2 c1 c2
      go_wp2_with (at_builtin; refine wpList_append_own _ rfl (.tmp 12) (.tmp 15) 44 rfl w.heap.size 49 i0 (.agg #[.int .i64 0, .int .i64 0, .int .i64 0, .int .i64 0, .int .i64 0, .int .i64 0, .int .i64 0, .int .i64 0]) 8 64 Try.underlying44 hi hz0 hz1 hz2 rfl (by decide) _ _ _ rfl (HO2.out.alloc _) ⟨w2.heap.size, 0, none⟩ 1 1 [.int .i64 x0, .int .i64 x1, .int .i64 x2, .int .i64 x3, .int .i64 x4, .int .i64 x5, .int .i64 x6, .int .i64 x7] rfl rfl (eight_new w2 _ _ _ _ _ _ _ _ _) (eight_cell _ _ _ _ _ _ _ _) ?_ ?_ ?_ ?_; (unfold maxLen; omega); omega; (simp; omega); intro v1 w5 hown1 hgr1 _)
      have HB3 := hidv (growN HB2.out (Nat.le_refl _) HO2.out hgr1)
      have HO3 := hidv hown1
      clear hown1 hgr1
      go_roundw
      case rel => exact ⟨k + 1, by omega, by go_num, hidv (by rw [HSU.out]; exact HO3.out), HB3⟩
      case measure => simp [intOf]; omega
    · obtain rfl : n = k := by omega
      have hl : (surS es).length = n := by simp [surS, HN.out]
      go_wp2_with fail
      go_ret
      refine ⟨_, rfl, ?_, hbe.out⟩
      have h := hown.out
      rw [List.take_of_length_le (by omega)] at h
      rcases h.2 with ⟨rfl, h0⟩ | ⟨g, cap, cur, rfl, _, hh, _⟩
      · exact ⟨none, 0, by rw [hl]; first | rfl | (rw [h0]; rfl), fun hp => by omega⟩
      · refine ⟨some ⟨g, 0, none⟩, cap, by rw [hl]; rfl, fun hp => ⟨g, rfl, (Array.getElem?_eq_some_iff.1 hh).1, fun i hi k x hx => ?_⟩⟩
        have hk8 : k < 8 := by
          have h1 := (List.getElem?_eq_some_iff.1 hx).1
          have h2 := (HSO.out (surS es)[i] (List.getElem_mem _)).1
          omega
        rw [h.cellAt (i * 8 + k) (by omega)]
        exact flat8_at (surS es) (fun s hs => (HSO.out s hs).1) i hi k x hx

end Go.Proofs.Ytgfdcpmjaamhdaa
