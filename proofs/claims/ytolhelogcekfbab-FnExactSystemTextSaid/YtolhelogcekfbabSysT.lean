/-
  SystemText, of the program and of the model: contracts.
-/
import Derived.Test.YtolhelogcekfbabEqS
import Derived.Test.YtolhelogcekfbabBuild
import Derived.Test.YtolhelogcekfbabShelf
import Derived.Deep.QuietTactic
import Derived.BigQuiet
namespace Go.Proofs.Ytolhelogcekfbab
open Go.RowKit Go
set_option linter.unusedVariables false

/-- The line of an equation, and the lines of a system. -/
def lineE (e : Eqn) : List UInt8 := e.1.data.toList ++ [32, 61, 32] ++ e.2.data.toList ++ [10]
def textE (es : List Eqn) : List UInt8 := es.flatMap lineE
theorem textE_succ (es : List Eqn) (k : Nat) (h : k < es.length) : textE (es.take (k + 1)) = textE (es.take k) ++ lineE es[k] := by
  unfold textE
  rw [List.take_succ_eq_append_getElem h, List.flatMap_append]
  simp
theorem sysB_len {es : List Eqn} (h : sysB es = true) : es.length ≤ 4 := by
  unfold sysB at h
  rw [Bool.and_eq_true, decide_eq_true_eq] at h
  exact h.1
theorem sysB_at {es : List Eqn} (h : sysB es = true) (k : Nat) (hk : k < es.length) : eqnB es[k].1 es[k].2 = true := by
  unfold sysB at h
  rw [Bool.and_eq_true, List.all_eq_true] at h
  exact h.2 _ (List.getElem_mem hk)
theorem sysB_szAt {es : List Eqn} (h : sysB es = true) (k : Nat) (hk : k < es.length) : es[k].1.size ≤ 24 ∧ es[k].2.size ≤ 24 := by
  have h1 := sysB_at h k hk
  unfold eqnB at h1
  rw [Bool.and_eq_true] at h1
  exact ⟨by simpa using Wd.termB_len h1.1, by simpa using Wd.termB_len h1.2⟩
theorem textE_len {es : List Eqn} (h : sysB es = true) : ∀ k, k ≤ es.length → (textE (es.take k)).length ≤ 52 * k
  | 0, _ => by simp [textE]
  | k + 1, hk => by
    have ih := textE_len h k (by omega)
    have hs := sysB_szAt h k (by omega)
    rw [textE_succ es k (by omega), List.length_append]
    have hl : (lineE es[k]).length = es[k].1.size + 3 + es[k].2.size + 1 := by
      unfold lineE
      simp
      omega
    omega
theorem lineE_of (x y : ByteArray) : (x ++ ⟨#[32, 61, 32]⟩ ++ y ++ ⟨#[10]⟩).data.toList = lineE (x, y) := by
  simp only [ByteArray.data_append, Array.toList_append, lineE]

set_option maxRecDepth 100000 in
set_option maxHeartbeats 800000 in
theorem specText_any (v : Value) (es : List Eqn) (B : Nat) (w : World) (hv : ERow w B v es) (hB : B ≤ w.heap.size) (hx : es.length ≤ 1048576) (hs : ∀ e ∈ es, e.1.size ≤ maxLen ∧ e.2.size ≤ maxLen) (h : sysB es = true) :
    Calls Try.prog 19 #[v] w fun e w' => e = .returned (.string ⟨⟨textE es⟩⟩) ∧ Below w.heap.size w w' := by
  have c1 := specSys_any v es B w hv hB hx hs
  rw [h] at c1
  have C1 := hidv c1
  obtain ⟨A, c, rfl, hA⟩ := hv
  obtain ⟨n, hn⟩ : ∃ n, es.length = n := ⟨_, rfl⟩
  have HA := hidv hA
  rw [hn] at C1 ⊢
  have h4 : n ≤ 4 := by rw [← hn]; exact sysB_len h
  have HN := hidv hn
  have HSB := hidv h
  clear c1 hA hn h hx hs
  go_enter Try.func19, Try.ntmps19
  go_wp2_with fail
  refine C1.out.mono ?_
  rintro e w1 ⟨rfl, hb1⟩
  have HB1 := hidv hb1
  clear hb1
  go_wp2_with fail
  go_loopw [3, 4] (fun q i wr => ∃ k : Nat, k ≤ n ∧ i = .int .i64 k ∧ ∃ b : ByteArray, q = .string b ∧ Hid (b.data.toList = textE (es.take k)) ∧ ∃ m, wr = w1.drewN m) (fun _ i _ => n - (intOf i).toNat)
  case atStart => exact ⟨0, Nat.zero_le _, rfl, _, rfl, hidv rfl, 0, rfl⟩
  case round =>
    obtain ⟨k, hk, rfl, b, rfl, hq, m, rfl⟩ := hrel
    by_cases hlt : k < n
    · have hkx : k < es.length := by have := HN.out; omega
      have hbs : b.size ≤ 208 := by
        have h1 := textE_len HSB.out k (by omega)
        rw [← hq.out] at h1
        have h2 : b.data.toList.length = b.size := by simp
        omega
      obtain ⟨g, o, rfl, hg, hce⟩ := HA.out (by omega)
      have c1 : w1.cell? ⟨g, o + k * 2, none⟩ = some (.string es[k].1) := (HB1.out.cell (p := ⟨g, _, none⟩) (by show g < _; omega)).trans (hce k hkx).1
      have c2 : w1.cell? ⟨g, o + k * 2 + 1, none⟩ = some (.string es[k].2) := (HB1.out.cell (p := ⟨g, _, none⟩) (by show g < _; omega)).trans (hce k hkx).2
      have hsz := sysB_szAt HSB.out k hkx
      have HTS := hidv (textE_succ es k hkx)
      obtain ⟨⟨x, y⟩, hxy⟩ : ∃ x, es[k] = x := ⟨_, rfl⟩
      rw [hxy] at c1 c2 hsz HTS
      dsimp only at c1 c2 hsz
      obtain ⟨hsx, hsy⟩ := hsz
      have i1 : (0 : Int) ≤ (k : Int) := by omega
      have i2 : (k : Int) < (n : Int) := by omega
      have z1 : (⟨#[32, 61, 32]⟩ : ByteArray).size ≤ 3 := Nat.le_refl _
      have z2 : (⟨#[10]⟩ : ByteArray).size ≤ 1 := Nat.le_refl _
      clear hxy hce
      go_wp2
      go_quiet (fail)
      go_wp2
      go_roundw
      case rel =>
        refine ⟨k + 1, by omega, by go_num, _, rfl, hidv ?_, _, rfl⟩
        rw [ByteArray.data_append, Array.toList_append, hq.out, lineE_of]
        exact HTS.out.symm
      case measure => simp [intOf]; omega
    · obtain rfl : k = n := by omega
      have he : b = ⟨⟨textE es⟩⟩ := by
        have h1 := hq.out
        rw [List.take_of_length_le (by have := HN.out; omega)] at h1
        rw [← h1]
      go_wp2
      go_ret
      exact ⟨by rw [← he]; rfl, below_drewN HB1.out _⟩

theorem specText_bad (v : Value) (es : List Eqn) (B : Nat) (w : World) (hv : ERow w B v es) (hB : B ≤ w.heap.size) (hx : es.length ≤ 1048576) (hs : ∀ e ∈ es, e.1.size ≤ maxLen ∧ e.2.size ≤ maxLen) (h : sysB es = false) :
    Calls Try.prog 19 #[v] w fun e w' => e = .returned (.string ⟨#[]⟩) ∧ Below w.heap.size w w' := by
  have c1 := specSys_any v es B w hv hB hx hs
  rw [h] at c1
  have C1 := hidv c1
  clear c1 h hs hv
  go_enter Try.func19, Try.ntmps19
  go_wp2_with fail
  refine C1.out.mono ?_
  rintro e w1 ⟨rfl, hb1⟩
  go_wp2_with fail
  go_ret
  exact ⟨rfl, hb1⟩

theorem implText_bad (v : Value) (es : List Eqn) (B : Nat) (w : World) (hv : ERow w B v es) (hB : B ≤ w.heap.size) (hx : es.length ≤ 1048576) (hs : ∀ e ∈ es, e.1.size ≤ maxLen ∧ e.2.size ≤ maxLen) (h : sysB es = false) :
    Calls Try.prog 20 #[v] w fun e w' => e = .returned (.string ⟨#[]⟩) ∧ Below w.heap.size w w' := by
  have c1 := implSys_any v es B w hv hB hx hs
  rw [h] at c1
  have C1 := hidv c1
  clear c1 h hs hv
  go_enter Try.func20, Try.ntmps20
  go_wp2_with fail
  refine C1.out.mono ?_
  rintro e w1 ⟨rfl, hb1⟩
  go_wp2_with fail
  go_ret
  exact ⟨rfl, hb1⟩

theorem isBuilder_below {T e : TypeId} {B b : Nat} {bs : List Value} {w w' : World} (h : Lib.IsBuilder T e B b bs w) (hb : Below w.heap.size w w') : Lib.IsBuilder T e B b bs w' := by
  have key : ∀ p, Lib.BuilderAt T e B b p bs w → Lib.BuilderAt T e B b p bs w' := by
    rintro p ⟨hB, v, hbk, hown, hne⟩
    have hlt : b < w.heap.size := by
      rcases Nat.lt_or_ge b w.heap.size with h' | h'
      · exact h'
      · simp [Array.getElem?_eq_none h'] at hbk
    refine ⟨hB, v, (hb.block b hlt).trans hbk, ?_, hne⟩
    exact hown.kept (row := none) ⟨hb.os, hb.tape, hb.output, hb.size, fun k hk _ => hb.block k hk⟩ (by
      rcases hv : v.ownBlock with _ | k
      · exact .inl rfl
      · exact .inr (by simp))
  rcases h with h | h
  · exact .inl (key _ h)
  · exact .inr (key _ h)
theorem cells_appB (a : List UInt8) (t : ByteArray) : Lib.byteCells a ++ Lib.strCells t = Lib.byteCells (a ++ t.data.toList) := by rw [Lib.strCells_eq, Lib.byteCells_append]

set_option maxRecDepth 100000 in
set_option maxHeartbeats 800000 in
theorem implText_any (v : Value) (es : List Eqn) (B : Nat) (w : World) (hv : ERow w B v es) (hB : B ≤ w.heap.size) (hx : es.length ≤ 1048576) (hs : ∀ e ∈ es, e.1.size ≤ maxLen ∧ e.2.size ≤ maxLen) (h : sysB es = true) :
    Calls Try.prog 20 #[v] w fun e w' => e = .returned (.string ⟨⟨textE es⟩⟩) ∧ Below w.heap.size w w' := by
  have c1 := implSys_any v es B w hv hB hx hs
  rw [h] at c1
  have C1 := hidv c1
  obtain ⟨A, c, rfl, hA⟩ := hv
  obtain ⟨n, hn⟩ : ∃ n, es.length = n := ⟨_, rfl⟩
  have HA := hidv hA
  rw [hn] at C1 ⊢
  have h4 : n ≤ 4 := by rw [← hn]; exact sysB_len h
  have HN := hidv hn
  have HSB := hidv h
  clear c1 hA hn h hx hs
  go_enter Try.func20, Try.ntmps20
  go_wp2_with fail
  refine C1.out.mono ?_
  rintro e w1 ⟨rfl, hb1⟩
  have HB1 := hidv hb1
  clear hb1
  go_wp2_with fail
  obtain ⟨w0, hw0⟩ : ∃ w0, w0 = w1.alloc (.cells #[.pointer none, .slice none 0 0] 74) := ⟨_, rfl⟩
  rw [← hw0]
  have hbd : Lib.IsBuilder 74 5 w1.heap.size w1.heap.size (Lib.byteCells (textE (es.take 0))) w0 := by rw [hw0]; exact Lib.fresh_isBuilder _ _ _
  have HB0 := hidv (show Below w1.heap.size w1 w0 by rw [hw0]; exact (Below.refl _ _).alloc (Nat.le_refl _) _)
  have HD := hidv hbd
  clear hw0 hbd
  go_loopw [11] (fun i wr => ∃ k : Nat, k ≤ n ∧ i = .int .i64 k ∧ Hid (Lib.IsBuilder 74 5 w1.heap.size w1.heap.size (Lib.byteCells (textE (es.take k))) wr) ∧ Hid (Below w1.heap.size w1 wr)) (fun i _ => n - (intOf i).toNat)
  case atStart => exact ⟨0, Nat.zero_le _, rfl, HD, HB0⟩
  case round =>
    obtain ⟨k, hk, rfl, hbl, hbw⟩ := hrel
    have hsw := hbw.out.size
    have hpl : (Lib.byteCells (textE (es.take k))).length ≤ 208 := by
      rw [Lib.byteCells_length]
      have := textE_len HSB.out k (by have := HN.out; omega)
      omega
    by_cases hlt : k < n
    · have hkx : k < es.length := by have := HN.out; omega
      obtain ⟨g, o, rfl, hg, hce⟩ := HA.out (by omega)
      have c1 : wr.cell? ⟨g, o + k * 2, none⟩ = some (.string es[k].1) := ((below_on HB1.out hbw.out).cell (p := ⟨g, _, none⟩) (by show g < _; omega)).trans (hce k hkx).1
      have c2 : wr.cell? ⟨g, o + k * 2 + 1, none⟩ = some (.string es[k].2) := ((below_on HB1.out hbw.out).cell (p := ⟨g, _, none⟩) (by show g < _; omega)).trans (hce k hkx).2
      have hsz := sysB_szAt HSB.out k hkx
      have HTS := hidv (textE_succ es k hkx)
      obtain ⟨⟨x, y⟩, hxy⟩ : ∃ x, es[k] = x := ⟨_, rfl⟩
      rw [hxy] at c1 c2 hsz HTS
      dsimp only at c1 c2 hsz
      obtain ⟨hsx, hsy⟩ := hsz
      have z1 : (⟨#[32, 61, 32]⟩ : ByteArray).size ≤ 3 := Nat.le_refl _
      have z2 : (⟨#[10]⟩ : ByteArray).size ≤ 1 := Nat.le_refl _
      have hbl2 := isBuilder_below hbl.out ((Below.refl wr.heap.size wr).alloc (Nat.le_refl _) (.cells #[.string x, .string y] 44))
      have HBL2 := hidv hbl2
      have hzz : (x ++ ⟨#[32, 61, 32]⟩ ++ y ++ ⟨#[10]⟩ : ByteArray).size ≤ 60 := by
        simp only [ByteArray.size_append]
        omega
      clear hxy hce hbl2
      go_wp2_with fail
      refine (writeString_any _ _ _ _ _ HBL2.out (by omega) (by simp; omega)).mono ?_
      rintro e w3 ⟨rfl, hbl3, hbw3, _⟩
      have HB3 := hidv ((hbw.out.alloc hsw _).trans hbw3)
      have HBL3 := hidv hbl3
      clear hbl3 hbw3
      go_wp2_with fail
      go_roundw
      case rel =>
        refine ⟨k + 1, by omega, by go_num, hidv ?_, HB3⟩
        rw [HTS.out, ← lineE_of, ← cells_appB]
        exact .inr HBL3.out
      case measure => simp [intOf]; omega
    · obtain rfl : k = n := by omega
      have he : textE (es.take k) = textE es := by rw [List.take_of_length_le (by have := HN.out; omega)]
      rw [he] at hbl
      go_wp2_with fail
      refine (Try.Builder_String_any _ _ _ _ hbl.out hsw).mono ?_
      rintro e w3 ⟨rfl, hbw3⟩
      go_wp2_with fail
      go_ret
      exact ⟨rfl, below_on HB1.out (hbw.out.trans hbw3)⟩

end Go.Proofs.Ytolhelogcekfbab
