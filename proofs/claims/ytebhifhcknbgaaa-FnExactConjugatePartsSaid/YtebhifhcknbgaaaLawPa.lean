/-
  The law on ConjugateParts, walked.
-/
import Derived.Test.YtebhifhcknbgaaaEqSS
import Derived.Test.YtebhifhcknbgaaaLawsA
namespace Go.Proofs.Ytebhifhcknbgaaa
open Go.RowKit Go

def blockOf : Value → Nat
  | .slice (some p) _ _ => p.block
  | _ => 0

theorem parts_gs {w : World} {B : Nat} {v : Value} {u : ByteArray} {ks : List Nat} (h : Parts w B v u ks) : ∃ A c gs, v = .slice A ks.length c ∧ gs.length = ks.length ∧ (∀ j (h : j < gs.length) (h' : j < ks.length), B ≤ gs[j] ∧ Two w gs[j] (u.extract 0 ks[j]) (u.extract ks[j] u.size)) ∧
    (∀ i j (hi : i < gs.length) (hj : j < gs.length), i ≠ j → gs[i] ≠ gs[j]) ∧ (0 < ks.length → ∃ a o, A = some ⟨a, o, none⟩ ∧ OuterAt w a o gs ∧ ∀ j (h : j < gs.length), gs[j] ≠ a) := by
  obtain ⟨vs, hown, hl, hp, hd⟩ := h
  have hget : ∀ j (h : j < (vs.map blockOf).length) (h' : j < ks.length), vs[j]? = some (.slice (some ⟨(vs.map blockOf)[j], 0, none⟩) 2 2) ∧ B ≤ (vs.map blockOf)[j] ∧ w.heap[(vs.map blockOf)[j]]? = some (.cells #[.string (u.extract 0 ks[j]), .string (u.extract ks[j] u.size)] 9 (0, 0)) := by
    intro j h h'
    obtain ⟨g, h1, h2, h3⟩ := hp j h'
    have hjl : j < vs.length := by rw [hl]; exact h'
    rw [List.getElem?_eq_getElem hjl] at h1
    have e : (vs.map blockOf)[j] = g := by rw [List.getElem_map, Option.some.inj h1]; rfl
    rw [e, List.getElem?_eq_getElem hjl]
    exact ⟨h1, h2, h3⟩
  have hlen : (vs.map blockOf).length = ks.length := by rw [List.length_map, hl]
  rcases hown.2 with ⟨rfl, h0⟩ | ⟨g0, cap, cur, rfl, hbg, hg, hnc, hcm, hcs, ht⟩
  · exact ⟨none, 0, vs.map blockOf, by rw [h0], hlen, fun j h h' => by omega, fun i j hi hj => by omega, fun h => by omega⟩
  · refine ⟨_, cap, vs.map blockOf, rfl, hlen, fun j h h' => (hget j h h').2, fun i j hi hj hne => ?_, fun hp0 => ⟨g0, 0, rfl, fun j hj => ?_, fun j hj e => ?_⟩⟩
    · have e1 := (hget i hi (by omega)).1
      have e2 := (hget j hj (by omega)).1
      rcases Nat.lt_or_ge i j with h1 | h1
      · exact hd i j _ _ h1 e1 e2
      · exact fun e => hd j i _ _ (by omega) e2 e1 e.symm
    · rw [Nat.zero_add, hown.cellAt j (by omega)]
      exact (hget j hj (by omega)).1
    · have h3 := (hget j hj (by omega)).2.2
      rw [e, hg] at h3
      simp at h3

theorem parts_both (u t : ByteArray) (hu : u.size ≤ maxLen) (ht : t.size ≤ maxLen) : ∃ (ks : List Nat) (c : Int), ks.length ≤ 60 ∧
    (∀ w, Calls Try.prog 21 #[.string u, .string t] w fun e w' => ∃ v, e = .returned (.tuple #[v, .int .i64 c]) ∧ Parts w' w.heap.size v u ks ∧ Below w.heap.size w w') ∧
    ∀ w, Calls Try.prog 44 #[.string u, .string t] w fun e w' => ∃ v, e = .returned (.tuple #[v, .int .i64 c]) ∧ Parts w' w.heap.size v u ks ∧ Below w.heap.size w w' := by
  cases h : (Wd.wordB u.data.toList && Wd.wordB t.data.toList)
  · exact ⟨[], 1, by simp, fun w => implParts_bad u t w hu ht h, fun w => specParts_bad u t w hu ht h⟩
  · rw [Bool.and_eq_true] at h
    have hu0 := size_of_word h.1
    have ht0 := size_of_word h.2
    exact ⟨_, 0, by have := shK_len u t; omega, fun w => implParts_ok u t w hu0 ht0 h.1 h.2 _ rfl, fun w => specParts_ok u t w hu0 ht0 h.1 h.2 _ rfl⟩

theorem OuterAt.below {w w' : World} {a o : Nat} {gs : List Nat} (h : OuterAt w a o gs) (hb : Below w.heap.size w w') : OuterAt w' a o gs :=
  fun j hj => (hb.cell (p := ⟨a, o + j, none⟩) (World.block_lt_of_cell? _ _ (h j hj))).trans (h j hj)
theorem MarkedTo.below {w w' : World} {gs : List Nat} {m n : Nat} (h : MarkedTo w gs m n) (hb : Below w.heap.size w w') : MarkedTo w' gs m n := fun j hj hn => (h j hj hn).below hb

set_option maxRecDepth 100000 in
set_option maxHeartbeats 1600000 in
theorem law_FnExactConjugateParts (a0 a1 : ByteArray) (w : World) (w0 : a0.size ≤ maxLen) (w1 : a1.size ≤ maxLen) :
    Calls Try.prog 12 #[.string a0, .string a1] w fun e w' => e = .returned (.bool true) ∧ Below w.heap.size w w' := by
  obtain ⟨ks, c, hL, h1, h2⟩ := parts_both a0 a1 w0 w1
  unfold maxLen at w0 w1
  have H1 := hidv h1
  have H2 := hidv h2
  clear h1 h2
  by_cases hl0 : (1048576 : Int) < a0.size
  · go_enter Try.func12, Try.ntmps12
    go_wp2
    go_ret
    exact ⟨rfl, Below.refl _ _⟩
  by_cases hl1 : (1048576 : Int) < a1.size
  · go_enter Try.func12, Try.ntmps12
    go_wp2
    go_ret
    exact ⟨rfl, Below.refl _ _⟩
  go_enter Try.func12, Try.ntmps12
  go_wp2_with fail
  refine (H2.out _).mono ?_
  rintro e wa ⟨va, rfl, hva, hba⟩
  obtain ⟨A1, c1, gs, rfl, hgl, hg2, hgd, hgo⟩ := parts_gs hva
  have HGL := hidv hgl
  have HG2 := hidv hg2
  have HGO := hidv hgo
  have HBA := hidv hba
  have saa := hba.size
  clear hgl hg2 hgd hgo hva hba
  go_wp2_with fail
  refine (H1.out _).mono ?_
  rintro e wb ⟨vb, rfl, hvb, hbb⟩
  obtain ⟨A2, c2, fs, rfl, hfl, hf2, hfd, hfo⟩ := parts_gs hvb
  have HFL := hidv hfl
  have HF2 := hidv hf2
  have HFO := hidv hfo
  have HFD := hidv hfd
  have HBB := hidv hbb
  have sab := hbb.size
  clear hfl hf2 hfo hfd hvb hbb
  have heq := hidv (eqSS_any A2 A1 c2 c1 ks.length fs gs wb HFL.out HGL.out (fun h => by obtain ⟨a, o, e, ho, _⟩ := HFO.out h; exact ⟨a, o, e, ho⟩) (fun h => by obtain ⟨a, o, e, ho, _⟩ := HGO.out h; exact ⟨a, o, e, ho.below HBB.out⟩)
    (fun j h h' => ⟨_, _, (HF2.out j h (by have := HFL.out; omega)).2, ((HG2.out j h' (by have := HGL.out; omega)).2).below HBB.out⟩) (by omega))
  go_wp2_with fail
  refine heq.out.mono ?_
  rintro e wc ⟨rfl, hbc⟩
  clear heq
  have sbc := hbc.size
  have HBC := hidv hbc
  clear hbc
  have hmk := hidv (markSS_any A2 c2 1 wa.heap.size ks.length fs wc HFL.out (fun h => by obtain ⟨a, o, e, ho, hne⟩ := HFO.out h; exact ⟨a, o, e, ho.below HBC.out, hne⟩) (fun j h => ⟨_, _, ((HF2.out j h (by have := HFL.out; omega)).2).below HBC.out⟩) HFD.out (fun j h => (HF2.out j h (by have := HFL.out; omega)).1) (by omega) (by omega) (by omega))
  go_wp2_with fail
  refine hmk.out.mono ?_
  rintro e wd ⟨rfl, hmd, hok, hbd⟩
  clear hmk
  have scd := hbd.size
  have HMD := hidv hmd
  have HBD := hidv hbd
  have HFO2 : Hid (0 < ks.length → ∃ a o, A2 = some ⟨a, o, none⟩ ∧ OuterAt wd a o fs) := hidv fun h => by
    obtain ⟨a, o, e, ho, hne⟩ := HFO.out h
    exact ⟨a, o, e, hok a o hne (ho.below HBC.out)⟩
  clear hmd hok hbd
  have hhe := hidv (heldSS_any A2 c2 1 ks.length fs wd HFL.out HFO2.out HMD.out (by omega) (by omega))
  go_wp2_with fail
  refine hhe.out.mono ?_
  rintro e we ⟨rfl, hbe⟩
  clear hhe
  have sde := hbe.size
  have HBE := hidv hbe
  clear hbe
  go_wp2_with fail
  refine (H1.out _).mono ?_
  rintro e wf ⟨vf, rfl, hvf, hbf⟩
  obtain ⟨A3, c3, hs, rfl, hhl, hh2, hhd, hho⟩ := parts_gs hvf
  have sef := hbf.size
  have HBF := hidv hbf
  have HHL := hidv hhl
  have HH2 := hidv hh2
  have HHO := hidv hho
  have HAF : Hid (Below wa.heap.size wa wf) := hidv ((((HBB.out.trans (HBC.out.mono sab)).trans HBD.out).trans (HBE.out.mono (by omega))).trans (HBF.out.mono (by omega)))
  clear hvf hbf hhl hh2 hhd hho
  have heq := hidv (eqSS_any A3 A1 c3 c1 ks.length hs gs wf HHL.out HGL.out (fun h => by obtain ⟨a, o, e, ho, _⟩ := HHO.out h; exact ⟨a, o, e, ho⟩) (fun h => by obtain ⟨a, o, e, ho, _⟩ := HGO.out h; exact ⟨a, o, e, ho.below HAF.out⟩)
    (fun j h h' => ⟨_, _, (HH2.out j h (by have := HHL.out; omega)).2, ((HG2.out j h' (by have := HGL.out; omega)).2).below HAF.out⟩) (by omega))
  go_wp2_with fail
  refine heq.out.mono ?_
  rintro e wg ⟨rfl, hbg⟩
  clear heq
  have sfg := hbg.size
  have HBG := hidv hbg
  clear hbg
  have hhe := hidv (heldSS_any A2 c2 1 ks.length fs wg HFL.out (fun h => by obtain ⟨a, o, e, ho⟩ := HFO2.out h; exact ⟨a, o, e, ((ho.below HBE.out).below HBF.out).below HBG.out⟩) (((HMD.out.below HBE.out).below HBF.out).below HBG.out) (by omega) (by omega))
  go_wp2_with fail
  refine hhe.out.mono ?_
  rintro e wh ⟨rfl, hbh⟩
  clear hhe
  have HBH := hidv hbh
  clear hbh
  go_wp2_with fail
  go_ret
  exact ⟨rfl, HBA.out.trans ((((HAF.out.trans (HBG.out.mono (by omega))).trans (HBH.out.mono (by omega)))).mono saa)⟩

end Go.Proofs.Ytebhifhcknbgaaa
