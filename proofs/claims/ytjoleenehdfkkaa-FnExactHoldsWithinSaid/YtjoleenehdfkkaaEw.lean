/-
  Whether a map ends where it is allowed, in the program: a contract.
-/
import Derived.Test.YtjoleenehdfkkaaL5
import Derived.Deep.QuietTactic
import Derived.BigQuiet
namespace Go.Proofs.Ytjoleenehdfkkaa
open Go.RowKit Go
set_option linter.unusedVariables false

set_option maxRecDepth 100000 in
set_option maxHeartbeats 1600000 in
theorem endsWith_any (v : Value) (st : Nat) (ns es : List (List Int)) (B k : Nat) (x0 x1 x2 x3 T : Nat) (w : World) (hv : Bnd w B v (st : Int) ns es) (hB : B ≤ w.heap.size) (hp : RowsMax maxLen es) (hel : es.length = 4) (hst : st < 4) (hk : k < 4)
    (hT : [x0, x1, x2, x3][st]? = some T) (d : Bool) (hd : d = true ↔ (T : Int) ∈ es.getD k []) :
    Calls Try.prog 29 #[v, .int .i64 (k : Int), .agg #[.int .i64 (x0 : Int), .int .i64 (x1 : Int), .int .i64 (x2 : Int), .int .i64 (x3 : Int)]] w fun e w' => e = .returned (.bool d) ∧ Below w.heap.size w w' := by
  obtain ⟨va, vb, rfl, hv1, hu1⟩ := hv.more hB
  obtain ⟨A, ca, rfl, _⟩ := hv1.at
  obtain ⟨P, cp, rfl, hP⟩ := hu1.at
  obtain ⟨g, o, rfl, hg, hce⟩ := hP (by omega)
  have hke : k < es.length := by omega
  obtain ⟨a, cq, e0, r0⟩ := hce k hke
  have hgd : es.getD k [] = es[k] := by rw [List.getD_eq_getElem?_getD, List.getElem?_eq_getElem hke]; rfl
  have hxl := hp.2 es[k] (List.getElem_mem _)
  rw [hgd] at hd
  obtain ⟨xs, hxs⟩ : ∃ xs, es[k] = xs := ⟨_, rfl⟩
  rw [hxs] at e0 r0 hxl hd
  obtain ⟨n, hn⟩ : ∃ n, ns.length = n := ⟨_, rfl⟩
  rw [hn, hel]
  have hbx := (Bx.new w 34 #[.int .i64 (st : Int), .slice A n ca, .slice (some ⟨g, o, none⟩) 4 cp]).alloc (.cells #[.int .i64 (x0 : Int), .int .i64 (x1 : Int), .int .i64 (x2 : Int), .int .i64 (x3 : Int)] 64)
  have hmx := Bx.new (w.alloc (.cells #[.int .i64 (st : Int), .slice A n ca, .slice (some ⟨g, o, none⟩) 4 cp] 34)) 64 #[.int .i64 (x0 : Int), .int .i64 (x1 : Int), .int .i64 (x2 : Int), .int .i64 (x3 : Int)]
  rw [World.size_alloc] at hmx
  obtain ⟨W, hW⟩ : ∃ W, ((w.alloc (.cells #[.int .i64 (st : Int), .slice A n ca, .slice (some ⟨g, o, none⟩) 4 cp] 34)).alloc (.cells #[.int .i64 (x0 : Int), .int .i64 (x1 : Int), .int .i64 (x2 : Int), .int .i64 (x3 : Int)] 64)) = W := ⟨_, rfl⟩
  have hbe : Below w.heap.size w W := by rw [← hW]; exact ((Below.refl _ _).alloc (by simp) _).alloc (by simp) _
  rw [hW] at hbx hmx
  have HWW := hidv hW
  have HBE := hidv hbe
  obtain ⟨y0, y1, y2⟩ := hbx.three
  have m1 : W.cell? ⟨w.heap.size + 1, st, none⟩ = some (.int .i64 (T : Int)) := by
    rw [hmx.cell st]
    have h : st = 0 ∨ st = 1 ∨ st = 2 ∨ st = 3 := by omega
    rcases h with rfl | rfl | rfl | rfl <;> simp at hT <;> subst hT <;> rfl
  have e1 := (hbe.cell (p := ⟨g, o + k, none⟩) hg).trans e0
  have CC := hidv (fun W' (hW : Row W' w.heap.size (.slice a xs.length cq) (ints xs)) => contains5_any _ xs (T : Int) _ W' hW hxl d hd)
  have HR := hidv (r0.below hbe)
  have i1 : (0 : Int) ≤ (k : Int) := by omega
  have i2 : (k : Int) < 4 := by omega
  have i3 : (0 : Int) ≤ (st : Int) := by omega
  have i4 : (st : Int) < 4 := by omega
  clear hce e0 r0 hgd hxl hxs hd hT hv hu1 hv1 hP hbx hmx hel hke hn hbe hp hW
  go_enter Try.func29, Try.ntmps29
  go_wp2_with fail
  rw [HWW.out]
  go_quiet (first | (go_at_call 50; exact Calls.quiet_of_same (CC.out _ HR.out)))
  go_wp2
  go_ret
  exact ⟨rfl, below_drewN HBE.out _⟩

end Go.Proofs.Ytjoleenehdfkkaa
