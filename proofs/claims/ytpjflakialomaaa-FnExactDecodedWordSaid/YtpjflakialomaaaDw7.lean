/-
  DecodedWord, of the program and of the model: contracts.
-/
import Derived.Test.YtpjflakialomaaaSt7
import Derived.Test.YtpjflakialomaaaAb
import Derived.Test.YtpjflakialomaaaBuild
import Derived.Test.YtpjflakialomaaaShelf
namespace Go.Proofs.Ytpjflakialomaaa
open Go.RowKit Go
set_option linter.unusedVariables false

/-- The words with these numbers, one behind the other. -/
def decS (xs : List ByteArray) (i : Int) : List UInt8 := (xs.getD i.toNat ⟨#[]⟩).data.toList
def decL (xs : List ByteArray) (ns : List Int) : List UInt8 := ns.flatMap (decS xs)
def decV (xs : List ByteArray) (ns : List Int) : ByteArray := ⟨(decL xs ns).toArray⟩
theorem decL_succ (xs : List ByteArray) (ns : List Int) (k : Nat) (h : k < ns.length) : decL xs (ns.take (k + 1)) = decL xs (ns.take k) ++ decS xs ns[k] := by
  rw [List.take_succ_eq_append_getElem h]
  unfold decL
  rw [List.flatMap_append]
  simp [List.flatMap]
theorem decL_mono (xs : List ByteArray) (ns : List Int) (k : Nat) : (decL xs (ns.take k)).length ≤ (decL xs ns).length := by
  have e : decL xs ns = decL xs (ns.take k) ++ decL xs (ns.drop k) := by
    unfold decL
    rw [← List.flatMap_append, List.take_append_drop]
  rw [e, List.length_append]
  omega
theorem decV_size (xs : List ByteArray) (ns : List Int) : (decV xs ns).size = (decL xs ns).length := by simp [decV, ByteArray.size]

/-- What DecodedWord answers. -/
def DwR (xs : List ByteArray) (ns : List Int) (y : ByteArray) (c : Int) : Prop :=
  (SetOk xs → (InN xs.length ns → (60 < (decL xs ns).length → y = ⟨#[]⟩ ∧ c = 3) ∧ ((decL xs ns).length ≤ 60 → y = decV xs ns ∧ c = 0)) ∧ (¬ InN xs.length ns → y = ⟨#[]⟩ ∧ c = 2)) ∧
  (¬ SetOk xs → y = ⟨#[]⟩ ∧ c = 1)
theorem dwR_ex (xs : List ByteArray) (ns : List Int) : ∃ y c, DwR xs ns y c := by
  unfold DwR
  by_cases h : SetOk xs
  · by_cases h2 : InN xs.length ns
    · by_cases h3 : 60 < (decL xs ns).length
      · exact ⟨⟨#[]⟩, 3, fun _ => ⟨fun _ => ⟨fun _ => ⟨rfl, rfl⟩, fun h4 => by omega⟩, fun hn => absurd h2 hn⟩, fun hn => absurd h hn⟩
      · exact ⟨_, 0, fun _ => ⟨fun _ => ⟨fun h4 => absurd h4 h3, fun _ => ⟨rfl, rfl⟩⟩, fun hn => absurd h2 hn⟩, fun hn => absurd h hn⟩
    · exact ⟨⟨#[]⟩, 2, fun _ => ⟨fun hy => absurd hy h2, fun _ => ⟨rfl, rfl⟩⟩, fun hn => absurd h hn⟩
  · exact ⟨⟨#[]⟩, 1, fun hy => absurd hy h, fun _ => ⟨rfl, rfl⟩⟩
theorem cells_appD (a : List UInt8) (t : ByteArray) : Lib.byteCells a ++ Lib.strCells t = Lib.byteCells (a ++ t.data.toList) := by rw [Lib.strCells_eq, Lib.byteCells_append]
theorem decS_at {xs : List ByteArray} {j : Nat} (h : j < xs.length) : decS xs (j : Int) = xs[j].data.toList := by
  unfold decS
  rw [Int.toNat_natCast, List.getD_eq_getElem?_getD, List.getElem?_eq_getElem h]
  rfl

set_option maxRecDepth 100000 in
set_option maxHeartbeats 1600000 in
theorem implDw_any (vx vn : Value) (xs : List ByteArray) (ns : List Int) (B C : Nat) (w : World) (hv : Row w B vx (xs.map Value.string)) (hB : B ≤ w.heap.size) (hn : Row w C vn (ints ns)) (hC : C ≤ w.heap.size) (hx : xs.length ≤ 1048576) (hnl : ns.length ≤ 1048576) (hs : ∀ s ∈ xs, s.size ≤ maxLen) (y : ByteArray) (c : Int) (hd : DwR xs ns y c) :
    Calls Try.prog 26 #[vx, vn] w fun e w' => e = .returned (.tuple #[.string y, .int .i64 c]) ∧ Below w.heap.size w w' := by
  obtain ⟨q, hq⟩ := iffB (SetOk xs)
  obtain ⟨p, hp⟩ := iffB (InN xs.length ns)
  have CS := hidv (implSet_any vx xs B w hv hB hx hs q hq)
  have CA := hidv (fun W (h : Below w.heap.size w W) => areBelow_any vn ns C xs.length W (hn.below (h.mono hC)) (by unfold maxLen; omega) p hp)
  obtain ⟨A, cx, rfl, hA⟩ := strRow_at hv
  obtain ⟨P, cn, rfl, hP⟩ := hn
  rw [show (ints ns).length = ns.length by simp [ints]] at hP CA ⊢
  obtain ⟨n, hnn⟩ : ∃ n, xs.length = n := ⟨_, rfl⟩
  obtain ⟨m, hmm⟩ : ∃ m, ns.length = m := ⟨_, rfl⟩
  have HA := hidv hA
  have HP := hidv hP
  have HD := hidv hd
  rw [hnn] at CS CA hx ⊢
  rw [hmm] at CA hnl ⊢
  have HN := hidv hnn
  have HM := hidv hmm
  have HQ := hidv hq
  have HPP := hidv hp
  clear hv hA hP hd hs hnn hmm hq hp
  cases q
  · obtain ⟨rfl, rfl⟩ := HD.out.2 (fun h => absurd (HQ.out.mpr h) (by decide))
    go_enter Try.func26, Try.ntmps26
    go_wp2_with fail
    refine CS.out.mono ?_
    rintro e w1 ⟨rfl, hb1⟩
    have HB1 := hidv hb1
    clear hb1
    go_wp2_with fail
    go_ret2
    exact ⟨rfl, HB1.out⟩
  have HR := hidv (HD.out.1 (HQ.out.mp rfl))
  have HSET := hidv (HQ.out.mp rfl)
  cases p
  · obtain ⟨rfl, rfl⟩ := HR.out.2 (fun h => absurd (HPP.out.mpr h) (by decide))
    go_enter Try.func26, Try.ntmps26
    go_wp2_with fail
    refine CS.out.mono ?_
    rintro e w1 ⟨rfl, hb1⟩
    have HB1 := hidv hb1
    clear hb1
    go_wp2_with fail
    refine (CA.out _ HB1.out).mono ?_
    rintro e w2 ⟨rfl, hw2⟩
    subst hw2
    go_wp2_with fail
    go_ret2
    exact ⟨rfl, HB1.out⟩
  have HI := hidv (HPP.out.mp rfl)
  have HR2 := hidv (HR.out.1 HI.out)
  clear HR HQ HPP HD
  go_enter Try.func26, Try.ntmps26
  go_wp2_with fail
  refine CS.out.mono ?_
  rintro e w1 ⟨rfl, hb1⟩
  have HB1 := hidv hb1
  clear hb1
  go_wp2_with fail
  refine (CA.out _ HB1.out).mono ?_
  rintro e w2 ⟨rfl, hw2⟩
  subst hw2
  go_wp2_with fail
  obtain ⟨w0, hw0⟩ : ∃ w0, w0 = w2.alloc (.cells #[.pointer none, .slice none 0 0] 57) := ⟨_, rfl⟩
  rw [← hw0]
  have hsz1 := HB1.out.size
  have hb0 : Below w.heap.size w w0 := by rw [hw0]; exact below_al HB1.out _
  have hz0 : w0.heap.size = w2.heap.size + 1 := by rw [hw0]; simp
  have hk0 : w0.heap[w2.heap.size]? = some (.cells #[.pointer none, .slice none 0 0] 57 (0, 0)) := by rw [hw0]; exact heap_alloc_new w2 _
  clear hw0
  have hbd1 : Lib.IsBuilder 57 5 w.heap.size w2.heap.size (Lib.byteCells (decL xs (ns.take 0))) w0 :=
    .inl ⟨hsz1, .slice none 0 0, hk0, World.ownsRow_nil _ _ _ _, by simp [Value.ownBlock]⟩
  have HZ := hidv hz0
  have HDD := hidv hbd1
  have HB2 := hidv hb0
  clear hb0 hk0 hbd1 hz0
  go_loopw [19] (fun i wr => ∃ k : Nat, k ≤ m ∧ i = .int .i64 k ∧ Hid ((decL xs (ns.take k)).length ≤ 60) ∧ Hid (Lib.IsBuilder 57 5 w.heap.size w2.heap.size (Lib.byteCells (decL xs (ns.take k))) wr) ∧ Hid (Below w.heap.size w wr)) (fun i _ => m - (intOf i).toNat)
  case atStart => exact ⟨0, Nat.zero_le _, rfl, hidv (by simp [decL]), HDD, HB2⟩
  case round =>
    obtain ⟨k, hk, rfl, hle, hbi, hbw⟩ := hrel
    have hsw := hbw.out.size
    by_cases hlt : k < m
    · have hkn : k < ns.length := by have := HM.out; omega
      have hin := HI.out k hkn
      have hsu := decL_succ xs ns k hkn
      obtain ⟨gn, on, rfl, hgn, hcn⟩ := HP.out (by omega)
      have d1 := hcn k _ (map_int_at hkn)
      obtain ⟨z, hz⟩ : ∃ z, ns[k] = z := ⟨_, rfl⟩
      rw [hz] at hin hsu d1
      obtain ⟨hin0, hin1⟩ := hin
      obtain ⟨j, rfl⟩ := Int.eq_ofNat_of_zero_le hin0
      have hjx : j < xs.length := by have := HN.out; omega
      obtain ⟨g, o, rfl, hg, hce⟩ := HA.out (by have := HN.out; omega)
      have d2 := hce j hjx
      have hys := (HSET.out.2.2.1 j hjx).2.2
      rw [decS_at hjx] at hsu
      obtain ⟨x, hx1⟩ : ∃ x, xs[j] = x := ⟨_, rfl⟩
      rw [hx1] at d2 hsu hys
      have c1 := (hbw.out.cell (p := ⟨gn, on + k, none⟩) (by show gn < _; omega)).trans d1
      have c2 := (hbw.out.cell (p := ⟨g, o + j, none⟩) (by show g < _; omega)).trans d2
      have hlen : (Lib.byteCells (decL xs (ns.take k))).length ≤ 60 := by rw [Lib.byteCells_length]; exact hle.out
      have C2 := hidv (writeString_any w.heap.size w2.heap.size _ x wr hbi.out (by omega) (by omega))
      have HSU := hidv hsu
      have hjn : j < n := by have := HN.out; omega
      clear hsu hx1 hce hcn d1 d2 hz hin0 hin1 hlen hjx
      go_wp2_with fail
      refine C2.out.mono ?_
      rintro e w3 ⟨rfl, hbl2, hbw2, hok2⟩
      have hbi2 : Lib.IsBuilder 57 5 w.heap.size w2.heap.size (Lib.byteCells (decL xs (ns.take (k + 1)))) w3 := by
        rw [HSU.out, ← cells_appD]; exact .inr hbl2
      have HBI2 := hidv hbi2
      have HBW2 := hidv (hbw.out.trans hbw2)
      have hL := Try.Builder_Len _ _ _ _ hbi2
      rw [Lib.byteCells_length] at hL
      obtain ⟨t, ht⟩ : ∃ t, (decL xs (ns.take (k + 1))).length = t := ⟨_, rfl⟩
      rw [ht] at hL
      have HT := hidv ht
      have HL := hidv hL
      clear hbl2 hbw2 hok2 hbi2 hL ht
      go_wp2_with fail
      refine HL.out.mono ?_
      rintro e w4 ⟨rfl, hw4⟩
      subst hw4
      by_cases h60 : 60 < t
      · obtain ⟨rfl, rfl⟩ := HR2.out.1 (by have := decL_mono xs ns (k + 1); have := HT.out; omega)
        go_wp2_with fail
        go_ret2
        exact ⟨rfl, HBW2.out⟩
      · go_wp2_with fail
        go_roundw
        case rel => exact ⟨k + 1, by omega, by go_num, hidv (by have := HT.out; omega), HBI2, HBW2⟩
        case measure => simp [intOf]; omega
    · obtain rfl : k = m := by omega
      have he : decL xs (ns.take k) = decL xs ns := by rw [List.take_of_length_le (by have := HM.out; omega)]
      rw [he] at hle hbi
      obtain ⟨rfl, rfl⟩ := HR2.out.2 hle.out
      go_wp2_with fail
      refine (Try.Builder_String_any _ _ _ _ hbi.out hsw).mono ?_
      rintro e w' ⟨rfl, hbw2⟩
      go_wp2_with fail
      go_ret2
      exact ⟨rfl, hbw.out.trans hbw2⟩

set_option maxRecDepth 100000 in
set_option maxHeartbeats 1600000 in
theorem specDw_any (vx vn : Value) (xs : List ByteArray) (ns : List Int) (B C : Nat) (w : World) (hv : Row w B vx (xs.map Value.string)) (hB : B ≤ w.heap.size) (hn : Row w C vn (ints ns)) (hC : C ≤ w.heap.size) (hx : xs.length ≤ 1048576) (hnl : ns.length ≤ 1048576) (hs : ∀ s ∈ xs, s.size ≤ maxLen) (y : ByteArray) (c : Int) (hd : DwR xs ns y c) :
    Calls Try.prog 24 #[vx, vn] w fun e w' => e = .returned (.tuple #[.string y, .int .i64 c]) ∧ Below w.heap.size w w' := by
  obtain ⟨q, hq⟩ := iffB (SetOk xs)
  have CS := hidv (l07Ok_any vx xs B w hv hB hx hs q hq)
  obtain ⟨A, cx, rfl, hA⟩ := strRow_at hv
  obtain ⟨P, cn, rfl, hP⟩ := hn
  rw [show (ints ns).length = ns.length by simp [ints]] at hP ⊢
  obtain ⟨n, hnn⟩ : ∃ n, xs.length = n := ⟨_, rfl⟩
  obtain ⟨m, hmm⟩ : ∃ m, ns.length = m := ⟨_, rfl⟩
  have HA := hidv hA
  have HP := hidv hP
  have HD := hidv hd
  rw [hnn] at CS hx ⊢
  rw [hmm] at hnl ⊢
  have HN := hidv hnn
  have HM := hidv hmm
  have HQ := hidv hq
  clear hv hA hP hd hs hnn hmm hq
  cases q
  · obtain ⟨rfl, rfl⟩ := HD.out.2 (fun h => absurd (HQ.out.mpr h) (by decide))
    go_enter Try.func24, Try.ntmps24
    go_wp2_with fail
    refine CS.out.mono ?_
    rintro e w1 ⟨rfl, m1, hm1⟩
    have HB1 := hidv (below_q hm1)
    clear hm1
    go_wp2_with fail
    go_ret2
    exact ⟨rfl, HB1.out⟩
  have HR := hidv (HD.out.1 (HQ.out.mp rfl))
  have HSET := hidv (HQ.out.mp rfl)
  have h1n : 1 ≤ n := by have := HSET.out.1; have := HN.out; omega
  clear HQ HD
  go_enter Try.func24, Try.ntmps24
  go_wp2_with fail
  refine CS.out.mono ?_
  rintro e w1 ⟨rfl, m1, hm1⟩
  have HB1 := hidv (below_q hm1)
  have hsz1 := HB1.out.size
  clear hm1
  go_wp2_with fail
  go_loop [6] (fun i => ∃ k : Nat, k ≤ m ∧ i = .int .i64 k ∧ Hid (∀ j (h : j < ns.length), j < k → 0 ≤ ns[j] ∧ ns[j] < (n : Int))) (fun i => m - (intOf i).toNat)
  case atStart => exact ⟨0, Nat.zero_le _, rfl, hidv (fun j h hj => by omega)⟩
  case round =>
    obtain ⟨k, hk, rfl, hall⟩ := hrel
    by_cases hlt : k < m
    · have hkn : k < ns.length := by have := HM.out; omega
      obtain ⟨gn, on, rfl, hgn, hcn⟩ := HP.out (by omega)
      have d1 := (HB1.out.cell (p := ⟨gn, on + k, none⟩) (by show gn < _; omega)).trans (hcn k _ (map_int_at hkn))
      obtain ⟨z, hz⟩ : ∃ z, ns[k] = z := ⟨_, rfl⟩
      rw [hz] at d1
      have HZ := hidv hz
      obtain ⟨q, hq⟩ : ∃ q, (decide (0 ≤ z) && decide (z ≤ (n : Int) - 1)) = q := ⟨_, rfl⟩
      have HQ := hidv hq
      have C2 := hidv (fun W => l00In_any z 0 ((n : Int) - 1) W q hq)
      clear hz hcn hq
      cases q
      · obtain ⟨rfl, rfl⟩ := HR.out.2 (fun h => by
          have h1 := h k hkn
          rw [HZ.out, HN.out] at h1
          have h2 := HQ.out
          rw [decide_eq_true h1.1, decide_eq_true (show z ≤ (n : Int) - 1 by omega)] at h2
          cases h2)
        go_wp2_with fail
        refine (C2.out _).mono ?_
        rintro e w' ⟨rfl, rfl⟩
        go_wp2_with fail
        go_ret2
        exact ⟨rfl, HB1.out⟩
      · have HALL := hidv (show ∀ j (h : j < ns.length), j < k + 1 → 0 ≤ ns[j] ∧ ns[j] < (n : Int) from fun j h hj => by
          rcases Nat.lt_or_ge j k with h2 | h2
          · exact hall.out j h h2
          · obtain rfl : j = k := by omega
            have h2 := HQ.out
            rw [Bool.and_eq_true, decide_eq_true_eq, decide_eq_true_eq] at h2
            rw [HZ.out]
            omega)
        go_wp2_with fail
        refine (C2.out _).mono ?_
        rintro e w' ⟨rfl, rfl⟩
        go_wp2_with fail
        go_round
        case rel => exact ⟨k + 1, by omega, by go_num, HALL⟩
        case measure => simp [intOf]; omega
    · obtain rfl : k = m := by omega
      have HI : Hid (InN xs.length ns) := hidv (fun j h => by have := hall.out j h (by have := HM.out; omega); have h2 := HN.out; omega)
      have HR2 := hidv (HR.out.1 HI.out)
      clear hall HR
      go_wp2_with fail
      go_loop [7, 8] (fun q i => ∃ j : Nat, j ≤ k ∧ i = .int .i64 j ∧ Hid ((decL xs (ns.take j)).length ≤ 60) ∧ ∃ b : ByteArray, q = .string b ∧ Hid (b.data.toList = decL xs (ns.take j))) (fun _ i => k - (intOf i).toNat)
      case atStart => exact ⟨0, Nat.zero_le _, rfl, hidv (by simp [decL]), _, rfl, hidv rfl⟩
      case round =>
        obtain ⟨l, hl, rfl, hle, b, rfl, hbq⟩ := hrel
        have hbs : b.size ≤ 60 := by
          have h1 := hle.out
          rw [← hbq.out] at h1
          simpa using h1
        by_cases hlk : l < k
        · have hkn : l < ns.length := by have := HM.out; omega
          have hin := HI.out l hkn
          have hsu := decL_succ xs ns l hkn
          obtain ⟨gn, on, rfl, hgn, hcn⟩ := HP.out (by omega)
          have d1 := hcn l _ (map_int_at hkn)
          obtain ⟨z, hz⟩ : ∃ z, ns[l] = z := ⟨_, rfl⟩
          rw [hz] at hin hsu d1
          obtain ⟨hin0, hin1⟩ := hin
          obtain ⟨j, rfl⟩ := Int.eq_ofNat_of_zero_le hin0
          have hjx : j < xs.length := by omega
          obtain ⟨g, o, rfl, hg, hce⟩ := HA.out (by omega)
          have d2 := hce j hjx
          have hys := (HSET.out.2.2.1 j hjx).2.2
          rw [decS_at hjx] at hsu
          obtain ⟨x, hx1⟩ : ∃ x, xs[j] = x := ⟨_, rfl⟩
          rw [hx1] at d2 hsu hys
          have c1 := (HB1.out.cell (p := ⟨gn, on + l, none⟩) (by show gn < _; omega)).trans d1
          have c2 := (HB1.out.cell (p := ⟨g, o + j, none⟩) (by show g < _; omega)).trans d2
          have HSU := hidv hsu
          have hjn : j < n := by have := HN.out; omega
          have hcat : ¬ (9223372036854775807 < b.size + x.size) := by omega
          have HB2 : Hid ((b ++ x).data.toList = decL xs (ns.take (l + 1))) := hidv (by rw [ByteArray.data_append, Array.toList_append, hbq.out, HSU.out])
          have hts : (b ++ x).size = (decL xs (ns.take (l + 1))).length := by rw [← HB2.out]; simp
          have hts2 : (b ++ x).size = b.size + x.size := by simp
          have hsum : b.size + x.size = (decL xs (ns.take (l + 1))).length := by rw [← hts2]; exact hts
          have HSUM := hidv hsum
          clear hsu hx1 hce hcn d1 d2 hz hin0 hin1 hts hts2 hsum hjx
          by_cases h60 : 60 < b.size + x.size
          · obtain ⟨rfl, rfl⟩ := HR2.out.1 (by have := decL_mono xs ns (l + 1); have := HSUM.out; omega)
            go_wp2_with fail
            go_ret2
            exact ⟨rfl, HB1.out⟩
          · go_wp2_with fail
            go_round
            case rel => exact ⟨l + 1, by omega, by go_num, hidv (by have := HSUM.out; omega), _, rfl, HB2⟩
            case measure => simp [intOf]; omega
        · obtain rfl : l = k := by omega
          have he : decL xs (ns.take l) = decL xs ns := by rw [List.take_of_length_le (by have := HM.out; omega)]
          rw [he] at hle hbq
          obtain ⟨rfl, rfl⟩ := HR2.out.2 hle.out
          have he2 : b = decV xs ns := by unfold decV; rw [← hbq.out]
          go_wp2_with fail
          go_ret2
          exact ⟨by first | rfl | rw [he2], HB1.out⟩

end Go.Proofs.Ytpjflakialomaaa
