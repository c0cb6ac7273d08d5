/-
  A piece appended to a row of the call's own: withOnce of the program, the tail of the model: contracts.
-/
import Derived.Test.YthomkmbobaehkaaQB
import Derived.Test.YthomkmbobaehkaaFv
namespace Go.Proofs.Ythomkmbobaehkaa
open Go.RowKit Go
set_option linter.unusedVariables false

theorem piece_newT (w : World) (x : ByteArray) (f s : Int) (e : TypeId) : ∀ (j : Nat) (u : Value), [Value.string x, .int .i64 f, .int .i64 s][j]? = some u → (w.alloc (.cells #[.string x, .int .i64 f, .int .i64 s] e)).cell? ((⟨w.heap.size, 0, none⟩ : Addr).add j) = some u := by
  intro j u hu
  have hb := Bx.new w e #[.string x, .int .i64 f, .int .i64 s]
  match j, hu with
  | 0, hu =>
    obtain rfl : Value.string x = u := by simpa using hu
    exact hb.cell 0
  | 1, hu =>
    obtain rfl : Value.int .i64 f = u := by simpa using hu
    exact hb.cell 1
  | 2, hu =>
    obtain rfl : Value.int .i64 s = u := by simpa using hu
    exact hb.cell 2
theorem piece_cellT (x : ByteArray) (f s : Int) : ∀ u ∈ [Value.string x, .int .i64 f, .int .i64 s], u.oneCell' = true := by
  intro u hu
  simp only [List.mem_cons, List.not_mem_nil, or_false] at hu
  rcases hu with rfl | rfl | rfl <;> rfl
/-- A row with a word once behind it, unless the word is empty. -/
def onceQ (r : List Pc) (s : ByteArray) : List Pc := if s.size = 0 then r else r ++ [(s, 1, 0)]

set_option maxRecDepth 100000 in
set_option maxHeartbeats 800000 in
theorem withOnce_any (v : Value) (r : List Pc) (s : ByteArray) (base : Nat) (w : World) (hv : Qws w base v r) (hb : base ≤ w.heap.size) (hr : r.length ≤ 1000) :
    Calls Try.prog 76 #[v, .string s] w fun e w' => ∃ u, e = .returned u ∧ Qws w' base u (onceQ r s) ∧ Below base w w' := by
  have he := isEmptyB (x := s)
  by_cases h0 : s.size = 0
  · rw [decide_eq_true h0] at he
    have ho : onceQ r s = r := if_pos h0
    rw [ho]
    obtain ⟨A, c, rfl, _⟩ := hv.row
    have HV := hidv hv
    clear h0 hv ho
    go_enter Try.func76, Try.ntmps76
    go_wp2
    go_ret
    exact ⟨_, rfl, HV.out, Below.refl _ _⟩
  · rw [decide_eq_false h0] at he
    have ho : onceQ r s = r ++ [(s, 1, 0)] := if_neg h0
    rw [ho]
    obtain ⟨i0, hi, hz0, hz1, hz2⟩ := info_parts Try.infoPc
    have hv' : w.ownsRow base 104 3 v r.length (flatQ r) := hv
    obtain ⟨A, c, rfl, _⟩ := hv.row
    have HV := hidv hv'
    clear hv hv' h0 ho
    obtain ⟨n, hn⟩ : ∃ n, r.length = n := ⟨_, rfl⟩
    rw [hn] at HV hr ⊢
    have HN := hidv hn
    clear hn
    go_enter Try.func76, Try.ntmps76
    go_wp2_with (at_builtin; refine wpList_append_own _ rfl (.tmp 8) (.tmp 11) 83 rfl base 104 i0 (.agg #[.string ⟨#[]⟩, .int .i64 0, .int .i64 0]) 3 32 Try.underlying83 hi hz0 hz1 hz2 rfl (by decide) _ n (flatQ r) rfl (HV.out.alloc _) ⟨w.heap.size, 0, none⟩ 1 1 [.string s, .int .i64 1, .int .i64 0] rfl rfl (piece_newT w s 1 0 _) (piece_cellT s 1 0) ?_ ?_ ?_ ?_; (unfold maxLen; omega); omega; (simp; omega); intro v1 w1 hown1 hgr1 _)
    have HO := hidv hown1
    have hlo := hidv (World.ownsRow.lt HV.out)
    have HB1 := hidv (((Below.refl base w).alloc hb (.cells #[.string s, .int .i64 1, .int .i64 0] 104)).grown hgr1 (by simp; omega) (fun k hk => (hlo.out k hk).1))
    clear hown1 hgr1
    go_wp2_with fail
    go_ret
    refine ⟨_, rfl, ?_, HB1.out⟩
    have h := HO.out
    show World.ownsRow _ base 104 3 _ (r ++ [(s, (1 : Int), (0 : Int))]).length (flatQ (r ++ [(s, (1 : Int), (0 : Int))]))
    rw [flatQ_app, List.length_append, HN.out]
    exact h

set_option maxRecDepth 100000 in
set_option maxHeartbeats 800000 in
theorem l06Tail_any (x : ByteArray) (f : Int) (s : ByteArray) (w : World) :
    Calls Try.prog 74 #[.string x, .int .i64 f, .string s] w fun e w' => ∃ u, e = .returned u ∧ Qws w' w.heap.size u (onceQ [(x, f, 1)] s) ∧ Below w.heap.size w w' := by
  have he := isEmptyB (x := s)
  have hlit : Qws (w.alloc (.cells #[.string x, .int .i64 f, .int .i64 1] 104)) w.heap.size (.slice (some ⟨w.heap.size, 0, none⟩) 1 1) [(x, f, 1)] := World.ownsRow_lit w #[.string x, .int .i64 f, .int .i64 1] 1 (Nat.le_refl _) (by unfold maxLen; omega) rfl
  have hbl : Below w.heap.size w (w.alloc (.cells #[.string x, .int .i64 f, .int .i64 1] 104)) := (Below.refl _ _).alloc (Nat.le_refl _) _
  have hzl : (w.alloc (.cells #[.string x, .int .i64 f, .int .i64 1] 104)).heap.size = w.heap.size + 1 := by simp
  by_cases h0 : s.size = 0
  · rw [decide_eq_true h0] at he
    have ho : onceQ [(x, f, 1)] s = [(x, f, 1)] := if_pos h0
    rw [ho]
    have HV := hidv hlit
    clear h0 hlit ho
    go_enter Try.func74, Try.ntmps74
    go_wp2
    go_ret
    exact ⟨_, rfl, HV.out, hbl⟩
  · rw [decide_eq_false h0] at he
    have ho : onceQ [(x, f, 1)] s = [(x, f, 1)] ++ [(s, 1, 0)] := if_neg h0
    rw [ho]
    obtain ⟨i0, hi, hz0, hz1, hz2⟩ := info_parts Try.infoPc
    have hv' : (w.alloc (.cells #[.string x, .int .i64 f, .int .i64 1] 104)).ownsRow w.heap.size 104 3 _ 1 (flatQ [(x, f, 1)]) := hlit
    have HV := hidv hv'
    clear hlit hv' h0 ho
    go_enter Try.func74, Try.ntmps74
    obtain ⟨W, hW⟩ : ∃ W, w.alloc (.cells #[.string x, .int .i64 f, .int .i64 1] 104) = W := ⟨_, rfl⟩
    rw [hW] at HV hbl hzl
    go_wp2_with (at_builtin; refine wpList_append_own _ rfl (.tmp 14) (.tmp 17) 83 rfl w.heap.size 104 i0 (.agg #[.string ⟨#[]⟩, .int .i64 0, .int .i64 0]) 3 32 Try.underlying83 hi hz0 hz1 hz2 rfl (by decide) _ 1 (flatQ [(x, f, 1)]) rfl (HV.out.alloc _) ⟨w.heap.size + 1, 0, none⟩ 1 1 [.string s, .int .i64 1, .int .i64 0] rfl rfl (by rw [← hzl]; exact piece_newT W s 1 0 _) (piece_cellT s 1 0) ?_ ?_ ?_ ?_; (unfold maxLen; omega); omega; (simp; omega); intro v1 w1 hown1 hgr1 _)
    have HO := hidv hown1
    have hlo := hidv (World.ownsRow.lt HV.out)
    have HB1 := hidv ((below_al hbl (.cells #[.string s, .int .i64 1, .int .i64 0] 104)).grown hgr1 (by simp; omega) (fun k hk => (hlo.out k hk).1))
    clear hown1 hgr1 hW
    go_wp2_with fail
    go_ret
    exact ⟨_, rfl, HO.out, HB1.out⟩

end Go.Proofs.Ythomkmbobaehkaa
