/-
  Whether a family is valid, in the model: contracts.
-/
import Derived.Test.YtdnkdmmockoehaaGreatFv
namespace Go.Proofs.YtdnkdmmockoehaaGreat
open Go.RowKit Go
set_option linter.unusedVariables false

set_option maxRecDepth 100000 in
set_option maxHeartbeats 1600000 in
theorem l06Ok_any (b : Nat) (rs : List (List Pc)) (A : Option Addr) (c B : Nat) (w : World) (hb : w.cell? ⟨b, 0, none⟩ = some (.slice A rs.length c)) (hr : QRows w B (.slice A rs.length c) rs) (hB : B ≤ w.heap.size) (hz : FamSz rs) (d : Bool) (hd : d = true ↔ FamOk rs) :
    Calls Tryz.prog 30 #[.pointer (some ⟨b, 0, none⟩)] w fun e w' => e = .returned (.bool d) ∧ Below w.heap.size w w' := by
  obtain ⟨A', c', he, hA⟩ := hr.at
  injection he with he1 _ he2
  subst he1 he2
  have hbl : b < w.heap.size := World.block_lt_of_cell? _ _ hb
  have HA := hidv hA
  have HD := hidv hd
  have HZ := hidv hz
  obtain ⟨n, hn⟩ : ∃ n, rs.length = n := ⟨_, rfl⟩
  rw [hn] at hb
  have HN := hidv hn
  have hlm : n ≤ maxLen := by rw [← hn]; exact hz.1
  clear hA hd hz hr hn
  go_enter Tryz.func30, Tryz.ntmps30
  by_cases h4 : ¬ n = 4
  · obtain rfl : d = false := iff_no HD.out (fun h => h4 (HN.out.symm.trans h.1))
    have h5 : ((n : Int) != 4) = true := by rw [bne_iff_ne]; omega
    go_wp2
    go_ret
    exact ⟨rfl, Below.refl _ _⟩
  obtain rfl : n = 4 := Decidable.not_not.mp h4
  clear h4 hlm
  go_wp2
  go_loopw [3] (fun i wr => ∃ k : Nat, k ≤ 4 ∧ i = .int .i64 k ∧ Hid (∀ j (h : j < rs.length), j < k → RowOk rs[j]) ∧ Hid (Below w.heap.size w wr)) (fun i _ => 4 - (intOf i).toNat)
  case atStart => exact ⟨0, by omega, rfl, hidv (fun j h hj => by omega), hidv (Below.refl _ _)⟩
  case round =>
    obtain ⟨k, hk, rfl, hall, hbe⟩ := hrel
    by_cases hlt : k < 4
    · have hkx : k < rs.length := by have := HN.out; omega
      obtain ⟨g, o, rfl, hg, hce⟩ := HA.out (by have := HN.out; omega)
      obtain ⟨a, cq, e0, r1⟩ := hce k hkx
      have e1 := (hbe.out.cell (p := ⟨g, o + k, none⟩) (by show g < w.heap.size; omega)).trans e0
      have b1 := (hbe.out.cell (p := ⟨b, 0, none⟩) (by show b < w.heap.size; omega)).trans hb
      have hsz := HZ.out.2 rs[k] (List.getElem_mem _)
      have hst := hidv (fun h => (HD.out.mp h).at k hkx : d = true → RowOk rs[k])
      obtain ⟨r, hr⟩ : ∃ r, rs[k] = r := ⟨_, rfl⟩
      rw [hr] at e0 e1 r1 hst hsz
      have HSZ := hidv hsz.2
      have hll := hsz.1
      obtain ⟨aq, cz, hae, hrow⟩ := r1
      injection hae with ha1 _ ha2
      subst ha1 ha2
      obtain ⟨l, hl2⟩ : ∃ l, r.length = l := ⟨_, rfl⟩
      rw [hl2] at e0 e1 hll
      have HROW := hidv hrow
      have HR := hidv hr
      have HL := hidv hl2
      have E0 := hidv e0
      clear hce e0 hsz hr hl2 hrow
      unfold maxLen at hll
      by_cases hl4 : 4 < l
      · obtain rfl : d = false := by
          cases d
          · rfl
          · have := (hst.out rfl).1
            have := HL.out
            omega
        go_wp2
        go_ret
        exact ⟨rfl, hbe.out⟩
      · go_wp2
        clear e1 b1
        go_loopw [4] (fun i wq => ∃ m : Nat, m ≤ l ∧ i = .int .i64 m ∧ Hid (∀ j (h : j < r.length), j < m → PcOk r[j]) ∧ Hid (Below w.heap.size w wq)) (fun i _ => l - (intOf i).toNat)
        case atStart => exact ⟨0, by omega, rfl, hidv (fun j h hj => by omega), hbe⟩
        case round =>
          obtain ⟨m, hm, rfl, hin, hbq⟩ := hrel
          have e1 := (hbq.out.cell (p := ⟨g, o + k, none⟩) (by show g < w.heap.size; omega)).trans E0.out
          have b1 := (hbq.out.cell (p := ⟨b, 0, none⟩) (by show b < w.heap.size; omega)).trans hb
          by_cases hlq : m < l
          · have hmx : m < r.length := by have := HL.out; omega
            obtain ⟨g2, o2, rfl, hg2, hce2⟩ := HROW.out (by omega)
            obtain ⟨u0, u1, u2⟩ := hce2 m hmx
            have x0 := (hbq.out.cell (p := ⟨g2, o2 + m * 3, none⟩) (by show g2 < w.heap.size; omega)).trans u0
            have x1 := (hbq.out.cell (p := ⟨g2, o2 + m * 3 + 1, none⟩) (by show g2 < w.heap.size; omega)).trans u1
            have x2 := (hbq.out.cell (p := ⟨g2, o2 + m * 3 + 2, none⟩) (by show g2 < w.heap.size; omega)).trans u2
            have hxs := HSZ.out r[m] (List.getElem_mem _)
            have hpk := hidv (fun h => (hst.out h).2 r[m] (List.getElem_mem _) : d = true → PcOk r[m])
            obtain ⟨⟨x, f, s⟩, hp⟩ : ∃ p, r[m] = p := ⟨_, rfl⟩
            rw [hp] at x0 x1 x2 hxs hpk
            dsimp only at x0 x1 x2 hxs
            have HP := hidv hp
            have hin2 := hidv (fun (hpo : PcOk (x, f, s)) => (fun j h hj => by
              rcases Nat.lt_or_ge j m with h2 | h2
              · exact hin.out j h h2
              · obtain rfl : j = m := by omega
                rw [HP.out]
                exact hpo : ∀ j (h : j < r.length), j < m + 1 → PcOk r[j]))
            have C1 := hidv (fun W => specWord_any x W hxs)
            have C2 := hidv (fun W v hv => l00In_any f 0 60 W v hv)
            have C3 := hidv (fun W v hv => l00In_any s 0 3 W v hv)
            have he := isEmptyB (x := x)
            clear u0 u1 u2 hce2 hp
            obtain ⟨b4, hb4⟩ : ∃ b, Wd.wordB x.data.toList = b := ⟨_, rfl⟩
            obtain ⟨b5, hb5⟩ : ∃ b, decide (x.size = 0) = b := ⟨_, rfl⟩
            obtain ⟨b6, hb6⟩ : ∃ b, (decide (0 ≤ f) && decide (f ≤ 60)) = b := ⟨_, rfl⟩
            obtain ⟨b7, hb7⟩ : ∃ b, (decide (0 ≤ s) && decide (s ≤ 3)) = b := ⟨_, rfl⟩
            rw [hb5] at he
            rw [hb4] at C1
            have C2' := hidv (fun W => C2.out W b6 hb6)
            have C3' := hidv (fun W => C3.out W b7 hb7)
            have hpc := hidv (show PcOk (x, f, s) ↔ b5 = false ∧ b4 = true ∧ b6 = true ∧ b7 = true from by
              unfold PcOk
              rw [← hb5, ← hb4, ← hb6, ← hb7, decide_eq_false_iff_not, Bool.and_eq_true, Bool.and_eq_true]
              simp only [decide_eq_true_eq])
            clear hb4 hb5 hb6 hb7 C2 C3
            have HDF := hidv (fun (h : ¬ (b5 = false ∧ b4 = true ∧ b6 = true ∧ b7 = true)) => (show d = false from by
              cases d
              · rfl
              · exact absurd (hpc.out.mp (hpk.out rfl)) h))
            have HBX := hidv (below_al hbq.out (.cells #[.string x, .int .i64 f, .int .i64 s] 88))
            cases b4
            · obtain rfl : d = false := HDF.out (by simp)
              go_wp2_with fail
              refine (C1.out _).mono ?_
              rintro e w' ⟨rfl, rfl⟩
              go_wp2
              go_ret
              exact ⟨rfl, HBX.out⟩
            cases b5
            · cases b6
              · obtain rfl : d = false := HDF.out (by simp)
                go_wp2_with fail
                refine (C1.out _).mono ?_
                rintro e w' ⟨rfl, rfl⟩
                go_wp2_with fail
                refine (C2'.out _).mono ?_
                rintro e w' ⟨rfl, rfl⟩
                go_wp2
                go_ret
                exact ⟨rfl, HBX.out⟩
              · cases b7
                · obtain rfl : d = false := HDF.out (by simp)
                  go_wp2_with fail
                  refine (C1.out _).mono ?_
                  rintro e w' ⟨rfl, rfl⟩
                  go_wp2_with fail
                  refine (C2'.out _).mono ?_
                  rintro e w' ⟨rfl, rfl⟩
                  go_wp2_with fail
                  refine (C3'.out _).mono ?_
                  rintro e w' ⟨rfl, rfl⟩
                  go_wp2
                  go_ret
                  exact ⟨rfl, HBX.out⟩
                · have HIN := hidv (hin2.out (hpc.out.mpr (by simp)))
                  go_wp2_with fail
                  refine (C1.out _).mono ?_
                  rintro e w' ⟨rfl, rfl⟩
                  go_wp2_with fail
                  refine (C2'.out _).mono ?_
                  rintro e w' ⟨rfl, rfl⟩
                  go_wp2_with fail
                  refine (C3'.out _).mono ?_
                  rintro e w' ⟨rfl, rfl⟩
                  go_wp2
                  go_roundw
                  case rel => exact ⟨m + 1, by omega, by go_num, HIN, HBX⟩
                  case measure => simp [intOf]; omega
            · obtain rfl : d = false := HDF.out (by simp)
              go_wp2_with fail
              refine (C1.out _).mono ?_
              rintro e w' ⟨rfl, rfl⟩
              go_wp2
              go_ret
              exact ⟨rfl, HBX.out⟩
          · have hall2 : ∀ j (h : j < rs.length), j < k + 1 → RowOk rs[j] := fun j h hj => by
              rcases Nat.lt_or_ge j k with h2 | h2
              · exact hall.out j h h2
              · obtain rfl : j = k := by omega
                rw [HR.out]
                refine ⟨by have := HL.out; omega, fun p hp => ?_⟩
                obtain ⟨q, hq, rfl⟩ := List.getElem_of_mem hp
                exact hin.out q hq (by have := HL.out; omega)
            have HALL := hidv hall2
            clear hall2
            go_wp2
            go_roundw
            case rel => exact ⟨k + 1, by omega, by go_num, HALL, hbq⟩
            case measure => simp [intOf]; omega
    · obtain rfl : d = true := iff_yes HD.out (famOk_of HN.out (fun j h => hall.out j h (by have := HN.out; omega)))
      go_wp2
      go_ret
      exact ⟨rfl, hbe.out⟩

end Go.Proofs.YtdnkdmmockoehaaGreat
