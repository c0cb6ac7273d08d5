/-
  StripEnds, of the program and of the model: contracts.
-/
import Derived.Test.YtfnlikjdfihggaaEq
import Derived.Deep.QuietTactic
import Derived.BigQuiet
import Derived.Deep.RegionHeld3
import Derived.IntWalk
namespace Go.Proofs.Ytfnlikjdfihggaa
open Go.RowKit Go

/-- What is left when equal beginnings are taken away. -/
def stripF : List UInt8 → List UInt8 → List UInt8 × List UInt8
  | a :: u, b :: v => if a = b then stripF u v else (a :: u, b :: v)
  | [], v => ([], v)
  | u, [] => (u, [])
/-- The like at the ends. -/
def stripB (u v : List UInt8) : List UInt8 × List UInt8 := ((stripF u.reverse v.reverse).1.reverse, (stripF u.reverse v.reverse).2.reverse)
def strip2 (u v : List UInt8) : List UInt8 × List UInt8 := stripB (stripF u v).1 (stripF u v).2

theorem stripF_nilL (v : List UInt8) : stripF [] v = ([], v) := by cases v <;> rfl
theorem stripF_nilR (u : List UInt8) : stripF u [] = (u, []) := by cases u <;> rfl
theorem data_cons {x : ByteArray} (h : 0 < x.size) : x.data.toList = x[0] :: (x.extract 1 x.size).data.toList := by
  rw [Lib.extract_data, List.take_of_length_le (by simp)]
  have := List.drop_eq_getElem_cons (l := x.data.toList) (i := 0) (by simpa using h)
  rw [List.drop_zero] at this
  exact this
theorem data_snoc {x : ByteArray} (h : 0 < x.size) : x.data.toList = (x.extract 0 (x.size - 1)).data.toList ++ [x[x.size - 1]] := by
  rw [Lib.extract_data, List.drop_zero, Nat.sub_zero]
  have h1 : x.size - 1 < x.data.toList.length := by simp; omega
  have := List.take_succ_eq_append_getElem h1
  rw [show x.size - 1 + 1 = x.size by omega, List.take_of_length_le (by simp)] at this
  exact this
theorem data_nil {x : ByteArray} (h : x.size = 0) : x.data.toList = [] := List.eq_nil_of_length_eq_zero (by simpa using h)
theorem stripF_same {x y : ByteArray} (hx : 0 < x.size) (hy : 0 < y.size) (h : x[0] = y[0]) : stripF x.data.toList y.data.toList = stripF (x.extract 1 x.size).data.toList (y.extract 1 y.size).data.toList := by
  rw [data_cons hx, data_cons hy, h]
  simp [stripF]
theorem stripF_other {x y : ByteArray} (hx : 0 < x.size) (hy : 0 < y.size) (h : x[0] ≠ y[0]) : stripF x.data.toList y.data.toList = (x.data.toList, y.data.toList) := by
  rw [data_cons hx, data_cons hy]
  simp [stripF, h]
theorem stripF_none {x y : ByteArray} (h : x.size = 0 ∨ y.size = 0) : stripF x.data.toList y.data.toList = (x.data.toList, y.data.toList) := by
  rcases h with h | h
  · rw [data_nil h, stripF_nilL]
  · rw [data_nil h, stripF_nilR]
theorem stripB_same {x y : ByteArray} (hx : 0 < x.size) (hy : 0 < y.size) (h : x[x.size - 1] = y[y.size - 1]) : stripB x.data.toList y.data.toList = stripB (x.extract 0 (x.size - 1)).data.toList (y.extract 0 (y.size - 1)).data.toList := by
  have e1 := data_snoc hx
  have e2 := data_snoc hy
  unfold stripB
  rw [e1, e2, h]
  simp [stripF]
theorem stripB_other {x y : ByteArray} (hx : 0 < x.size) (hy : 0 < y.size) (h : x[x.size - 1] ≠ y[y.size - 1]) : stripB x.data.toList y.data.toList = (x.data.toList, y.data.toList) := by
  have e1 := data_snoc hx
  have e2 := data_snoc hy
  unfold stripB
  rw [e1, e2]
  simp [stripF, h]
theorem stripB_none {x y : ByteArray} (h : x.size = 0 ∨ y.size = 0) : stripB x.data.toList y.data.toList = (x.data.toList, y.data.toList) := by
  unfold stripB
  rcases h with h | h
  · rw [data_nil h, List.reverse_nil, stripF_nilL]
    simp
  · rw [data_nil h, List.reverse_nil, stripF_nilR]
    simp
theorem stripB_sameM {x y : ByteArray} {m n : Nat} (hx : m < x.size) (hy : n < y.size) (hm : x.size = m + 1) (hn : y.size = n + 1) (h : x[m] = y[n]) : stripB x.data.toList y.data.toList = stripB (x.extract 0 m).data.toList (y.extract 0 n).data.toList := by
  obtain rfl : m = x.size - 1 := by omega
  obtain rfl : n = y.size - 1 := by omega
  exact stripB_same (by omega) (by omega) h
theorem stripB_otherM {x y : ByteArray} {m n : Nat} (hx : m < x.size) (hy : n < y.size) (hm : x.size = m + 1) (hn : y.size = n + 1) (h : x[m] ≠ y[n]) : stripB x.data.toList y.data.toList = (x.data.toList, y.data.toList) := by
  obtain rfl : m = x.size - 1 := by omega
  obtain rfl : n = y.size - 1 := by omega
  exact stripB_other (by omega) (by omega) h
theorem ba_of {x : ByteArray} {l : List UInt8} (h : x.data.toList = l) : x = ⟨⟨l⟩⟩ := by
  subst h; rfl
theorem byte_ne {a b : UInt8} (h : a ≠ b) : ((a.toNat : Int) == (b.toNat : Int)) = false := by
  rw [beq_eq_false_iff_ne]
  intro e
  exact h (by rw [← UInt8.toNat_inj]; omega)
theorem byte_eq {a b : UInt8} (h : a = b) : ((a.toNat : Int) == (b.toNat : Int)) = true := by rw [h]; simp

def szOf : Value → Nat | .string s => s.size | _ => 0

set_option maxHeartbeats 800000 in
theorem specStrip_any (l r : ByteArray) (w : World) (hl : l.size ≤ 100) (hr : r.size ≤ 100) :
    Calls Try.prog 34 #[.agg #[.string l, .string r]] w fun e w' => e = .returned (.agg #[.string ⟨⟨(strip2 l.data.toList r.data.toList).1⟩⟩, .string ⟨⟨(strip2 l.data.toList r.data.toList).2⟩⟩]) ∧ Below w.heap.size w w' := by
  obtain ⟨p, hp⟩ : ∃ p, stripF l.data.toList r.data.toList = p := ⟨_, rfl⟩
  have HP := hidv hp
  obtain ⟨q, hq⟩ : ∃ q, strip2 l.data.toList r.data.toList = q := ⟨_, rfl⟩
  rw [hq]
  have HQ : Hid (stripB p.1 p.2 = q) := by
    unfold strip2 at hq
    rw [hp] at hq
    exact hq
  clear hp hq
  go_enter Try.func34, Try.ntmps34
  go_wp2
  obtain ⟨W, hW⟩ : ∃ W, (w.alloc (Obj.cells #[Value.string l, Value.string r] 28)).alloc (Obj.cells #[Value.string ⟨#[]⟩, Value.string ⟨#[]⟩] 28) = W := ⟨_, rfl⟩
  have hbx : Bx W (w.heap.size + 1) 28 #[.string ⟨#[]⟩, .string ⟨#[]⟩] := by
    rw [← hW]
    have := Bx.new (w.alloc (Obj.cells #[Value.string l, Value.string r] 28)) 28 #[.string ⟨#[]⟩, .string ⟨#[]⟩]
    rw [World.size_alloc] at this
    exact this
  have hbw : Below w.heap.size w W := by
    rw [← hW]
    exact ((Below.refl _ _).alloc (Nat.le_refl _) _).alloc (by simp) _
  rw [hW]
  have HBX := hidv hbx
  have HBW := hidv hbw
  clear hW hbx hbw
  go_loopw [3, 4] (fun u v wr => ∃ x y : ByteArray, u = .string x ∧ v = .string y ∧ x.size ≤ 100 ∧ y.size ≤ 100 ∧ Hid (stripF x.data.toList y.data.toList = p) ∧ ∃ n, wr = W.drewN n) (fun u _ _ => szOf u)
  case atStart => exact ⟨l, r, rfl, rfl, hl, hr, HP, 0, rfl⟩
  case round =>
    obtain ⟨x, y, rfl, rfl, hx, hy, hs, n, rfl⟩ := hrel
    by_cases hgo : ∃ (hx1 : 0 < x.size) (hy1 : 0 < y.size), x[0] = y[0]
    · obtain ⟨hxp, hyp, hab⟩ := hgo
      have HST := hidv (stripF_same hxp hyp hab)
      have hbe := byte_eq hab
      clear hab
      go_wp2
      go_quiet (fail)
      go_wp2
      go_roundw
      case rel =>
        refine ⟨_, _, rfl, rfl, ?_, ?_, hidv ?_, _, rfl⟩
        · simp; omega
        · simp; omega
        · rw [← HST.out]
          exact hs.out
      case measure => simp [szOf]; omega
    · have hfin : p = (x.data.toList, y.data.toList) ∧ (x.size = 0 ∨ (0 < x.size ∧ y.size = 0) ∨ (∃ (h1 : 0 < x.size) (h2 : 0 < y.size), ((x[0].toNat : Int) == (y[0].toNat : Int)) = false)) := by
        rw [← hs.out]
        by_cases h1 : 0 < x.size
        · by_cases h2 : 0 < y.size
          · have h3 : x[0] ≠ y[0] := fun h => hgo ⟨h1, h2, h⟩
            exact ⟨stripF_other h1 h2 h3, .inr (.inr ⟨h1, h2, byte_ne h3⟩)⟩
          · exact ⟨stripF_none (.inr (by omega)), .inr (.inl ⟨h1, by omega⟩)⟩
        · exact ⟨stripF_none (.inl (by omega)), .inl (by omega)⟩
      have HFX := hidv hfin.1
      rcases hfin.2 with hx0 | ⟨hxp, hy0⟩ | ⟨hxp, hyp, hab⟩
      all_goals
        clear hfin hgo
        go_wp2
        go_quiet (fail)
        go_wp2
        have HQ2 : Hid (stripB x.data.toList y.data.toList = q) := by
          have := HQ.out
          rw [HFX.out] at this
          exact this
        go_loopw [3, 4] (fun u v wr => ∃ x y : ByteArray, u = .string x ∧ v = .string y ∧ x.size ≤ 100 ∧ y.size ≤ 100 ∧ Hid (stripB x.data.toList y.data.toList = q) ∧ ∃ n, wr = W.drewN n) (fun u _ _ => szOf u)
        case atStart => exact ⟨x, y, rfl, rfl, hx, hy, HQ2, _, World.drewN_drewN _ _ _⟩
        case round =>
          clear HQ2 HFX HQ HP hs
          clear hx hy
          obtain ⟨x', y', rfl, rfl, hx, hy, hs, n', rfl⟩ := hrel
          by_cases hgo : ∃ (m n : Nat) (h1 : m < x'.size) (h2 : n < y'.size), x'.size = m + 1 ∧ y'.size = n + 1 ∧ x'[m] = y'[n]
          · obtain ⟨m1, m2, l1, l2, hm1, hm2, hab⟩ := hgo
            have HST := hidv (stripB_sameM l1 l2 hm1 hm2 hab)
            have hbe := byte_eq hab
            clear hab
            have hxp : 0 < x'.size := by omega
            have hyp : 0 < y'.size := by omega
            have hw1 : (x'.size : Int) - 1 = (m1 : Int) := by omega
            have hw2 : (y'.size : Int) - 1 = (m2 : Int) := by omega
            have HM1 := hidv hm1
            have HM2 := hidv hm2
            clear hm1 hm2
            go_wp2
            go_quiet (fail)
            go_wp2
            go_roundw
            case rel =>
              refine ⟨_, _, rfl, rfl, ?_, ?_, hidv ?_, _, rfl⟩
              · simp; omega
              · simp; omega
              · rw [← HST.out]
                exact hs.out
            case measure => have := HM1.out; simp [szOf]; omega
          · have hfin : q = (x'.data.toList, y'.data.toList) ∧ (x'.size = 0 ∨ (0 < x'.size ∧ y'.size = 0) ∨ (∃ (m n : Nat) (h1 : m < x'.size) (h2 : n < y'.size), x'.size = m + 1 ∧ y'.size = n + 1 ∧ ((x'[m].toNat : Int) == (y'[n].toNat : Int)) = false)) := by
              rw [← hs.out]
              by_cases h1 : 0 < x'.size
              · by_cases h2 : 0 < y'.size
                · have h3 : x'[x'.size - 1] ≠ y'[y'.size - 1] := fun h => hgo ⟨x'.size - 1, y'.size - 1, by omega, by omega, by omega, by omega, h⟩
                  exact ⟨stripB_other h1 h2 h3, .inr (.inr ⟨x'.size - 1, y'.size - 1, by omega, by omega, by omega, by omega, byte_ne h3⟩)⟩
                · exact ⟨stripB_none (.inr (by omega)), .inr (.inl ⟨h1, by omega⟩)⟩
              · exact ⟨stripB_none (.inl (by omega)), .inl (by omega)⟩
            have HFX := hidv hfin.1
            have f0 : ∀ nn, (W.drewN nn).frozen? ⟨w.heap.size + 1, 0, none⟩ = false := fun _ => HBX.out.frozen 0
            have f1 : ∀ nn, (W.drewN nn).frozen? ⟨w.heap.size + 1, 1, none⟩ = false := fun _ => HBX.out.frozen 1
            have g0 : ∀ nn, (W.drewN nn).cell? ⟨w.heap.size + 1, 0, none⟩ = some (.string ⟨#[]⟩) := fun _ => HBX.out.cell 0
            have g1 : ∀ nn, (W.drewN nn).cell? ⟨w.heap.size + 1, 1, none⟩ = some (.string ⟨#[]⟩) := fun _ => HBX.out.cell 1
            have E0 := hidv (fun nn => (((show Bx (W.drewN nn) (w.heap.size + 1) _ _ from HBX.out).set 0 (.string x')).set 1 (.string y')).cell 0)
            have E1 := hidv (fun nn => (((show Bx (W.drewN nn) (w.heap.size + 1) _ _ from HBX.out).set 0 (.string x')).set 1 (.string y')).cell 1)
            rcases hfin.2 with hx0 | ⟨hxp, hy0⟩ | ⟨m1, m2, l1, l2, hm1, hm2, hab⟩
            · clear hfin hgo
              go_wp2
              go_quiet (fail)
              go_wp2
              refine bodyPost_ret (v := .agg #[.string x', .string y']) ?_ rfl ⟨?_, ?_⟩
              · simp [results, Try.results34, go_sem, E0.out, E1.out]
              · rw [HFX.out]
              · exact ((below_drewN HBW.out _).setCell (by simp) _).setCell (by simp) _
            · clear hfin hgo
              go_wp2
              go_quiet (fail)
              go_wp2
              refine bodyPost_ret (v := .agg #[.string x', .string y']) ?_ rfl ⟨?_, ?_⟩
              · simp [results, Try.results34, go_sem, E0.out, E1.out]
              · rw [HFX.out]
              · exact ((below_drewN HBW.out _).setCell (by simp) _).setCell (by simp) _
            · have hxp : 0 < x'.size := by omega
              have hyp : 0 < y'.size := by omega
              have hw1 : (x'.size : Int) - 1 = (m1 : Int) := by omega
              have hw2 : (y'.size : Int) - 1 = (m2 : Int) := by omega
              clear hfin hgo hm1 hm2
              go_wp2
              go_quiet (fail)
              go_wp2
              refine bodyPost_ret (v := .agg #[.string x', .string y']) ?_ rfl ⟨?_, ?_⟩
              · simp [results, Try.results34, go_sem, E0.out, E1.out]
              · rw [HFX.out]
              · exact ((below_drewN HBW.out _).setCell (by simp) _).setCell (by simp) _

end Go.Proofs.Ytfnlikjdfihggaa
