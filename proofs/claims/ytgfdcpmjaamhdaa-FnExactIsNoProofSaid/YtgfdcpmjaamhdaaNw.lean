/-
  IsNoProof of the program: a contract.
-/
import Derived.Test.YtgfdcpmjaamhdaaNu
namespace Go.Proofs.Ytgfdcpmjaamhdaa
open Go.RowKit Go
set_option linter.unusedVariables false

theorem cap_own {w : World} {base e size n : Nat} {v : Value} {xs : List Value} (h : w.ownsRow base e size v n xs) : ∀ A l cu, v = .slice A l cu → l ≤ cu := by
  intro A l cu he
  rcases h.2 with ⟨rfl, h0⟩ | ⟨g, cap, cur, rfl, hbg, hg, hnc, hcm, hcs, ht⟩
  · injection he with _ h1 h2
    omega
  · injection he with _ h1 h2
    omega

set_option maxRecDepth 100000 in
set_option maxHeartbeats 1600000 in
theorem implNp_any (v u : Value) (es : List Eqn) (F : List Int) (B C : Nat) (w : World) (hv : ERow w B v es) (hB : B ≤ w.heap.size) (hx : es.length ≤ 1048576) (hs : ∀ e ∈ es, e.1.size ≤ maxLen ∧ e.2.size ≤ maxLen) (hu : Row w C u (ints F)) (hcap : ∀ A l cu, u = .slice A l cu → l ≤ cu) (hC : C ≤ w.heap.size) (hF : F.length ≤ 1048576) (d : Bool) (c : Int) (hR : InR es F d c) :
    Calls Try.prog 8 #[v, u] w fun e w' => e = .returned (.tuple #[.bool d, .int .i64 c]) ∧ Below w.heap.size w w' := by
  have C1 := hidv (implSys_any v es B w hv hB hx hs)
  have C2 := hidv (fun W (hW : Below w.heap.size w W) (h : sysB es = true) => surpluses_any v es B W (hv.below (hW.mono hB)) (Nat.le_trans hB hW.size) h)
  have C3 := hidv (fun W z D (hW : Below w.heap.size w W) (hz : FRow W D z (surS es)) (hD : D ≤ W.heap.size) (hok : NpOk (surS es) F es.length) (hd : d = true ↔ NpP (surS es) F es.length) => isProof_any z u (surS es) F es.length D C W hz hD (hu.below (hW.mono hC)) hcap (Nat.le_trans hC hW.size) hok d hd)
  obtain ⟨A, cA, rfl, _⟩ := id hv
  obtain ⟨Au, cu, rfl, hAu⟩ := hu
  obtain ⟨L, hL⟩ : ∃ L, (ints F).length = L := ⟨_, rfl⟩
  have hLF : F.length = L := by rw [← hL]; simp [ints]
  obtain ⟨n, hn⟩ : ∃ n, es.length = n := ⟨_, rfl⟩
  rw [hL] at hAu C3 ⊢
  rw [hn] at C1 C2 C3 ⊢
  have HU := hidv hAu
  have HR := hidv hR
  have HLF := hidv hLF
  have HN := hidv hn
  have hL1 : L ≤ 1048576 := by omega
  have HFA := hidv (show FacOk es F ↔ L = 5 * n ∧ ∀ f ∈ F, -9 ≤ f ∧ f ≤ 9 from by unfold FacOk; rw [hLF, hn])
  have hn0 : n ≤ 1048576 := by omega
  obtain ⟨a, ha⟩ : ∃ a, sysB es = a := ⟨_, rfl⟩
  have HSB := hidv ha
  rw [ha] at C1
  clear hv hs hAu hR hL hLF hn hF ha hcap
  cases a
  · obtain ⟨rfl, rfl⟩ := HR.out.1 (by rw [HSB.out]; simp)
    go_enter Try.func8, Try.ntmps8
    go_wp2_with fail
    refine C1.out.mono ?_
    rintro e w1 ⟨rfl, hb1⟩
    go_wp2_with fail
    go_ret2
    exact ⟨rfl, hb1⟩
  · by_cases hl5 : L = 5 * n
    · have i1 : (L : Int) = 5 * (n : Int) := by omega
      go_enter Try.func8, Try.ntmps8
      go_wp2_with fail
      refine C1.out.mono ?_
      rintro e w1 ⟨rfl, hb1⟩
      have HB1 := hidv hb1
      clear hb1 C1
      subst hl5
      clear i1
      go_wp2_with fail
      go_loopw [19] (fun i wr => ∃ k : Nat, k ≤ 5 * n ∧ i = .int .i64 (k : Int) ∧ Hid (∀ j (h : j < F.length), j < k → -9 ≤ F[j] ∧ F[j] ≤ 9) ∧ Hid (Below w.heap.size w wr)) (fun i _ => 5 * n - (intOf i).toNat)
      case atStart => exact ⟨0, Nat.zero_le _, rfl, hidv (fun j h hj => by omega), HB1⟩
      case round =>
        obtain ⟨k, hk, rfl, hall, hbe⟩ := hrel
        by_cases hlt : k < 5 * n
        · have hkx : k < F.length := by have := HLF.out; omega
          obtain ⟨g, o, rfl, hg, hce⟩ := HU.out (by omega)
          have c1 : wr.cell? ⟨g, o + k, none⟩ = some (.int .i64 F[k]) := (hbe.out.cell (p := ⟨g, _, none⟩) (by show g < _; omega)).trans (hce k _ (ints_at (by simp [hkx])))
          have HME := hidv (List.getElem_mem hkx)
          obtain ⟨f, hf⟩ : ∃ f, F[k] = f := ⟨_, rfl⟩
          rw [hf] at c1 HME
          have HFK := hidv hf
          clear hce hf
          by_cases f1 : f < -9
          · obtain ⟨rfl, rfl⟩ := HR.out.2.1 HSB.out (fun h => by
              have h2 := (HFA.out.mp h).2 f HME.out
              omega)
            go_wp2_with fail
            go_ret2
            exact ⟨rfl, hbe.out⟩
          · by_cases f2 : 9 < f
            · obtain ⟨rfl, rfl⟩ := HR.out.2.1 HSB.out (fun h => by
                have h2 := (HFA.out.mp h).2 f HME.out
                omega)
              go_wp2_with fail
              go_ret2
              exact ⟨rfl, hbe.out⟩
            · have hall2 : ∀ j (h : j < F.length), j < k + 1 → -9 ≤ F[j] ∧ F[j] ≤ 9 := fun j h hj => by
                rcases Nat.lt_or_ge j k with h2 | h2
                · exact hall.out j h h2
                · obtain rfl : j = k := by omega
                  rw [HFK.out]
                  omega
              have HALL := hidv hall2
              clear hall2
              go_wp2_with fail
              go_roundw
              case rel => exact ⟨k + 1, by omega, by go_num, HALL, hbe⟩
              case measure => simp [intOf]; omega
        · have hk5 : k = 5 * n := by omega
          subst hk5
          have HM := hidv (show ∀ f ∈ F, -9 ≤ f ∧ f ≤ 9 from fun f hf => by
            obtain ⟨j, hj, rfl⟩ := List.getElem_of_mem hf
            exact hall.out j hj (by have := HLF.out; omega))
          have hfo : FacOk es F := HFA.out.mpr ⟨by trivial, HM.out⟩
          obtain ⟨hd, rfl⟩ := HR.out.2.2 HSB.out hfo
          have HC3 := hidv (fun W z D hW hz hD => C3.out W z D hW hz hD (by have h := npOk_of HSB.out hfo; rwa [HN.out] at h) (by have h := hd; rwa [HN.out] at h))
          clear hd hfo C3
          go_wp2_with fail
          refine (C2.out _ hbe.out HSB.out).mono ?_
          rintro e w3 ⟨z, rfl, hz, hb3⟩
          have HB3 := hidv (below_on hbe.out hb3)
          have HZ := hidv hz
          clear hz hb3
          go_wp2_with fail
          refine (HC3.out _ _ _ HB3.out HZ.out (Nat.le_refl _)).mono ?_
          rintro e w4 ⟨rfl, hb4⟩
          have HB4 := hidv (below_on HB3.out hb4)
          clear hb4
          go_wp2_with fail
          go_ret2
          exact ⟨rfl, HB4.out⟩
    · obtain ⟨rfl, rfl⟩ := HR.out.2.1 HSB.out (fun h => hl5 (HFA.out.mp h).1)
      have i1 : ¬ (L : Int) = 5 * (n : Int) := by omega
      go_enter Try.func8, Try.ntmps8
      go_wp2_with fail
      refine C1.out.mono ?_
      rintro e w1 ⟨rfl, hb1⟩
      go_wp2_with fail
      go_ret2
      exact ⟨rfl, hb1⟩

end Go.Proofs.Ytgfdcpmjaamhdaa
