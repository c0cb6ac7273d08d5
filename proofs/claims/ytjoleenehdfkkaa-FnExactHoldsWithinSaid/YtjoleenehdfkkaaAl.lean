/-
  Whether a word is allowed, in the model: a contract.
-/
import Derived.Test.YtjoleenehdfkkaaL6
namespace Go.Proofs.Ytjoleenehdfkkaa
open Go.RowKit Go
set_option linter.unusedVariables false

/-- The state to which a word leads from the start. -/
def ends5 (s : Int) (ns : List (List Int)) (x : ByteArray) : Int := (runM ns x.data.toList s.toNat : Int)
/-- A word is allowed for the unknown k. -/
def Allow5 (s : Int) (ns es : List (List Int)) (k : Nat) (x : ByteArray) : Prop := ends5 s ns x ∈ es.getD k []
theorem mapI_at (ns : List (List Int)) (w : List UInt8) (n k : Nat) (hk : k < n) : (mapI ns w n)[k]? = some (runM ns w k : Int) := by
  simp [mapI, hk]

set_option maxRecDepth 100000 in
set_option maxHeartbeats 1600000 in
theorem l05Allows_any (b : Nat) (s : Int) (ns es : List (List Int)) (A P : Option Addr) (ca cp B k : Nat) (x : ByteArray) (w : World) (c0 : w.cell? ⟨b, 0, none⟩ = some (.int .i64 s)) (c1 : w.cell? ⟨b, 1, none⟩ = some (.slice A ns.length ca)) (c2 : w.cell? ⟨b, 2, none⟩ = some (.slice P es.length cp))
    (hv : IRows w B (.slice A ns.length ca) ns) (hu : IRows w B (.slice P es.length cp) es) (hp : RowsMax maxLen es) (hB : B ≤ w.heap.size) (hb : b < w.heap.size) (hok : BndOk s ns es) (hx : Wd.wordB x.data.toList = true) (hk : k < 4) (d : Bool) (hd : d = true ↔ Allow5 s ns es k x) :
    Calls Try.prog 42 #[.pointer (some ⟨b, 0, none⟩), .int .i64 (k : Int), .string x] w fun e w' => e = .returned (.bool d) ∧ Below w.heap.size w w' := by
  obtain ⟨_, _, hue, hP⟩ := hu.at
  simp only [Value.slice.injEq] at hue
  obtain ⟨rfl, -, rfl⟩ := hue
  have hel : es.length = 4 := hok.2.2.1
  obtain ⟨st, hst⟩ : ∃ st : Nat, s = (st : Int) := ⟨s.toNat, by have := hok.2.1; omega⟩
  have hstn : st < ns.length := by have := hok.2.1; omega
  subst hst
  obtain ⟨g, o, rfl, hg, hce⟩ := hP (by omega)
  have hke : k < es.length := by omega
  obtain ⟨a, cq, e0, r0⟩ := hce k hke
  have hgd : es.getD k [] = es[k] := by rw [List.getD_eq_getElem?_getD, List.getElem?_eq_getElem hke]; rfl
  have hxl := hp.2 es[k] (List.getElem_mem _)
  unfold Allow5 ends5 at hd
  rw [hgd, Int.toNat_natCast] at hd
  obtain ⟨xs, hxs⟩ : ∃ xs, es[k] = xs := ⟨_, rfl⟩
  rw [hxs] at e0 r0 hxl hd
  obtain ⟨T, hT⟩ : ∃ T, runM ns x.data.toList st = T := ⟨_, rfl⟩
  rw [hT] at hd
  have CM := hidv (fun W (hW : Below w.heap.size w W) => l05Map_any b (st : Int) ns es A (some ⟨g, o, none⟩) ca cp B x W ((hW.cell (p := ⟨b, 0, none⟩) hb).trans c0) ((hW.cell (p := ⟨b, 1, none⟩) hb).trans c1) ((hW.cell (p := ⟨b, 2, none⟩) hb).trans c2) (hv.below (hW.mono hB)) (Nat.le_trans hB hW.size) (Nat.lt_of_lt_of_le hb hW.size) hok hx)
  have CH := hidv (fun W (hW : Below w.heap.size w W) => has5_any _ xs (T : Int) B W (r0.below (hW.mono hB)) hxl d hd)
  have hgw : g < w.heap.size := by omega
  rw [hel] at c2
  have hc0 := c0
  have HS := hidv (fun W (hW : Below w.heap.size w W) => (show W.cell? ⟨b, 2, none⟩ = some (.slice (some ⟨g, o, none⟩) 4 cp) ∧ W.cell? ⟨b, 0, none⟩ = some (.int .i64 (st : Int)) ∧ W.cell? ⟨g, o + k, none⟩ = some (.slice a xs.length cq) ∧ Below w.heap.size w W from
    ⟨(hW.cell (p := ⟨b, 2, none⟩) hb).trans c2, (hW.cell (p := ⟨b, 0, none⟩) hb).trans hc0, (hW.cell (p := ⟨g, o + k, none⟩) hgw).trans e0, hW⟩))
  have HMI := hidv (show (mapI ns x.data.toList ns.length)[st]? = some (T : Int) from by rw [mapI_at _ _ _ _ hstn, hT])
  have HML := hidv (mapI_len ns x.data.toList ns.length)
  obtain ⟨n, hn⟩ : ∃ n, ns.length = n := ⟨_, rfl⟩
  have HN := hidv hn
  have i1 : (0 : Int) ≤ (k : Int) := by omega
  have i2 : (k : Int) < 4 := by omega
  have i3 : (0 : Int) ≤ (st : Int) := by omega
  have i4 : (st : Int) < (n : Int) := by omega
  have hn0 : 0 < n := by omega
  clear hce e0 r0 hgd hxl hxs hd hT hv hu hp hok hx hP c0 c1 c2 hc0 hel hke hstn hn
  go_enter Try.func42, Try.ntmps42
  go_wp2_with fail
  have rf1 : Below w.heap.size w w := Below.refl _ _
  obtain ⟨z2, z0, z3, _⟩ := HS.out w rf1
  go_region_with (first | (go_at_call 67; refine (CM.out _ (by repeat (first | with_reducible assumption | with_reducible exact Below.refl _ _ | with_reducible refine Below.drew ?_ | with_reducible refine below_al ?_ _))).mono ?_; rintro e w5 ⟨vm, rfl, hvm, hb5⟩; have BL5 := below_on (show Below w.heap.size w _ from (by repeat (first | with_reducible assumption | with_reducible exact Below.refl _ _ | with_reducible refine Below.drew ?_ | with_reducible refine below_al ?_ _))) hb5; obtain ⟨Am, cm, hve, hcm⟩ := hvm.row; obtain ⟨gm, om, hAm, _, hcm2⟩ := hcm (by rw [List.length_map, HML.out, HN.out]; exact hn0); rw [List.length_map, HML.out, HN.out] at hve; subst hve; subst hAm; have m1 := hcm2 st _ (by rw [List.getElem?_map, HMI.out]; rfl); obtain ⟨z2, z0, z3, _⟩ := HS.out _ BL5) | (go_at_call 66; refine (CH.out _ (by repeat (first | with_reducible assumption | with_reducible exact Below.refl _ _ | with_reducible refine Below.drew ?_ | with_reducible refine below_al ?_ _))).mono ?_; rintro e w6 ⟨rfl, hw6⟩))
  all_goals (
    go_wp2_with fail
    go_ret
    exact ⟨rfl, (by repeat (first | with_reducible assumption | with_reducible exact Below.refl _ _ | with_reducible refine Below.drew ?_ | with_reducible refine below_al ?_ _))⟩)

end Go.Proofs.Ytjoleenehdfkkaa
