/-
  Words with equal images that are not made of shorter ones: the model's search and the program's sieve find the same.
-/
import Derived.Test.YtpjidcfdcpjafaaEq7
namespace Go.Proofs.Ytpjidcfdcpjafaa
open Go.RowKit Go
set_option linter.unusedVariables false

/-- None of the first n beginnings of a word has equal images. -/
def cleanTo (f g : List ByteArray) (w : ByteArray) (n : Nat) : Bool := (List.range n).all fun i => !eqW f g (w.extract 0 (i + 1))
def cleanW (f g : List ByteArray) (w : ByteArray) : Bool := cleanTo f g w w.size
def prW (f g : List ByteArray) (w : ByteArray) : Bool := cleanTo f g w (w.size - 1)
theorem ba_ext {a b : ByteArray} (h : a.data.toList = b.data.toList) : a = b := by
  apply ByteArray.ext
  exact Array.toList_inj.mp h
theorem ext_app (v : ByteArray) (j i : Nat) (h : i ≤ v.size) : (v ++ ltr j).extract 0 i = v.extract 0 i := by
  apply ba_ext
  rw [Lib.extract_data, Lib.extract_data, ByteArray.data_append, Array.toList_append, List.drop_zero, List.drop_zero, Nat.sub_zero]
  rw [List.take_append_of_le_length (by simpa using h)]
theorem ext_all (v : ByteArray) : v.extract 0 v.size = v := by
  apply ba_ext
  rw [Lib.extract_data, List.drop_zero, Nat.sub_zero, List.take_of_length_le (by simp)]
theorem cleanTo_app (f g : List ByteArray) (v : ByteArray) (j n : Nat) (h : n ≤ v.size) : cleanTo f g (v ++ ltr j) n = cleanTo f g v n := by
  unfold cleanTo
  rw [Bool.eq_iff_iff, List.all_eq_true, List.all_eq_true]
  constructor
  · intro hh i hi
    have h1 := hh i hi
    rw [ext_app v j (i + 1) (by have := List.mem_range.1 hi; omega)] at h1
    exact h1
  · intro hh i hi
    rw [ext_app v j (i + 1) (by have := List.mem_range.1 hi; omega)]
    exact hh i hi
theorem size_snoc (v : ByteArray) (j : Nat) : (v ++ ltr j).size = v.size + 1 := by rw [ByteArray.size_append, ltr_size]
theorem clean_snoc (f g : List ByteArray) (v : ByteArray) (j : Nat) : cleanW f g (v ++ ltr j) = (cleanW f g v && !eqW f g (v ++ ltr j)) := by
  unfold cleanW
  rw [size_snoc]
  have e : cleanTo f g (v ++ ltr j) (v.size + 1) = (cleanTo f g (v ++ ltr j) v.size && !eqW f g ((v ++ ltr j).extract 0 (v.size + 1))) := by
    unfold cleanTo
    rw [List.range_succ, List.all_append]
    simp
  have e2 : (v ++ ltr j).extract 0 (v.size + 1) = v ++ ltr j := by
    have := ext_all (v ++ ltr j)
    rw [size_snoc] at this
    exact this
  rw [e, e2, cleanTo_app _ _ _ _ _ (Nat.le_refl _)]
theorem pr_snoc (f g : List ByteArray) (v : ByteArray) (j : Nat) : prW f g (v ++ ltr j) = cleanW f g v := by
  unfold prW cleanW
  rw [size_snoc, Nat.add_sub_cancel, cleanTo_app _ _ _ _ _ (Nat.le_refl _)]
theorem cand_filter (f g : List ByteArray) (P : ByteArray → Bool) (l : Nat) : ∀ ws : List ByteArray, (∀ w ∈ ws, ∀ j, P (w ++ ltr j) = cleanW f g w) → candL (ws.filter (cleanW f g)) l = (candL ws l).filter P
  | [], _ => by simp [candL]
  | w :: ws, h => by
    have ih := cand_filter f g P l ws (fun x hx => h x (by simp [hx]))
    have hw := h w (by simp)
    have e1 : candL (w :: ws) l = candW w l ++ candL ws l := by simp [candL]
    rw [e1, List.filter_append, ← ih]
    cases hc : cleanW f g w
    · rw [List.filter_cons_of_neg (by simp [hc])]
      have : (candW w l).filter P = [] := by
        rw [List.filter_eq_nil_iff]
        intro x hx
        unfold candW at hx
        obtain ⟨j, _, rfl⟩ := List.mem_map.1 hx
        rw [hw j, hc]; decide
      rw [this, List.nil_append]
    · rw [List.filter_cons_of_pos hc]
      have e2 : candL (w :: ws.filter (cleanW f g)) l = candW w l ++ candL (ws.filter (cleanW f g)) l := by simp [candL]
      have : (candW w l).filter P = candW w l := by
        rw [List.filter_eq_self]
        intro x hx
        unfold candW at hx
        obtain ⟨j, _, rfl⟩ := List.mem_map.1 hx
        rw [hw j, hc]
      rw [this, e2]
theorem lev_true (f g : List ByteArray) (l : Nat) : ∀ k, lev true f g l k = (lev false f g l k).filter (cleanW f g)
  | 0 => by
    rw [lev, lev]
    have : cleanW f g ⟨#[]⟩ = true := rfl
    rw [List.filter_cons_of_pos this]
    rfl
  | k + 1 => by
    rw [lev, lev, lev_true f g l k, cand_filter f g (prW f g) l _ (fun w _ j => pr_snoc f g w j), List.filter_filter, List.filter_filter]
    refine List.filter_congr fun x hx => ?_
    obtain ⟨v, _, j, _, rfl⟩ := candL_mem hx
    rw [pr_snoc, clean_snoc]
    unfold keepW
    cases fitW f g (v ++ ltr j) <;> cases cleanW f g v <;> cases eqW f g (v ++ ltr j) <;> rfl
theorem eqs_true (f g : List ByteArray) (l : Nat) : ∀ k, eqs true f g l k = (eqs false f g l k).filter (prW f g)
  | 0 => rfl
  | k + 1 => by
    rw [eqs, eqs, eqs_true f g l k, List.filter_append, lev_true, cand_filter f g (prW f g) l _ (fun w _ j => pr_snoc f g w j), List.filter_filter, List.filter_filter]
    congr 1
    refine List.filter_congr fun x hx => ?_
    rw [Bool.and_comm]

/-- All beginnings of a word that is looked at are looked at. -/
theorem lev_pre {p : Bool} {f g : List ByteArray} {l : Nat} (hl : l ≤ 4) : ∀ k, ∀ w ∈ lev p f g l k, ∀ i ≤ k, w.extract 0 i ∈ lev p f g l i
  | 0, w, hw, i, hi => by
    obtain rfl : i = 0 := by omega
    rw [lev, List.mem_singleton] at hw
    subst hw
    rw [lev, List.mem_singleton]
    rfl
  | k + 1, w, hw, i, hi => by
    have hsz := (lev_word hl (k + 1) w hw).1
    rcases Nat.lt_or_ge i (k + 1) with h | h
    · have hw2 := hw
      rw [lev, List.mem_filter] at hw2
      obtain ⟨v, hv, j, hj, rfl⟩ := candL_mem hw2.1
      have hvs := (lev_word hl k v hv).1
      rw [ext_app v j i (by omega)]
      exact lev_pre hl k v hv i (by omega)
    · obtain rfl : i = k + 1 := by omega
      rw [← hsz, ext_all, hsz]
      exact hw
theorem candL_of {ws : List ByteArray} {l j : Nat} {v : ByteArray} (hv : v ∈ ws) (hj : j < l) : v ++ ltr j ∈ candL ws l := by
  unfold candL candW
  exact List.mem_flatMap.2 ⟨v, hv, List.mem_map.2 ⟨j, List.mem_range.2 hj, rfl⟩⟩
theorem eqs_mem {p : Bool} {f g : List ByteArray} {l : Nat} {w : ByteArray} : ∀ {n : Nat}, w ∈ eqs p f g l n ↔ ∃ k < n, w ∈ candL (lev p f g l k) l ∧ eqW f g w = true
  | 0 => by simp [eqs]
  | n + 1 => by
    rw [eqs, List.mem_append, eqs_mem, List.mem_filter]
    constructor
    · rintro (⟨k, hk, h⟩ | h)
      · exact ⟨k, by omega, h⟩
      · exact ⟨n, by omega, h⟩
    · rintro ⟨k, hk, h⟩
      rcases Nat.lt_or_ge k n with h2 | h2
      · exact .inl ⟨k, h2, h⟩
      · obtain rfl : k = n := by omega
        exact .inr h
/-- A beginning with equal images of a word that is told is told, too. -/
theorem eqs_pre {f g : List ByteArray} {l n : Nat} (hl : l ≤ 4) {w : ByteArray} (hw : w ∈ eqs false f g l n) (i : Nat) (h1 : 1 ≤ i) (hi : i < w.size) (he : eqW f g (w.extract 0 i) = true) : w.extract 0 i ∈ eqs false f g l n := by
  obtain ⟨k, hk, hc, _⟩ := eqs_mem.1 hw
  obtain ⟨v, hv, j, hj, rfl⟩ := candL_mem hc
  have hvs := (lev_word hl k v hv).1
  rw [size_snoc] at hi
  rw [ext_app v j i (by omega)] at he ⊢
  have h2 := lev_pre hl k v hv i (by omega)
  obtain ⟨i, rfl⟩ : ∃ m, i = m + 1 := ⟨i - 1, by omega⟩
  rw [lev, List.mem_filter] at h2
  exact eqs_mem.2 ⟨i, by omega, h2.1, he⟩
theorem eqs_sizes {p : Bool} {f g : List ByteArray} {l : Nat} (hl : l ≤ 4) : ∀ n, (eqs p f g l n).Pairwise (fun a b => a.size ≤ b.size)
  | 0 => by simp [eqs]
  | n + 1 => by
    rw [eqs, List.pairwise_append]
    refine ⟨eqs_sizes hl n, ?_, ?_⟩
    · refine List.Pairwise.imp_of_mem (R := fun _ _ => True) ?_ (List.pairwise_of_forall fun _ _ => trivial)
      intro a b ha hb _
      rw [List.mem_filter] at ha hb
      obtain ⟨v, hv, j, hj, rfl⟩ := candL_mem ha.1
      obtain ⟨v2, hv2, j2, hj2, rfl⟩ := candL_mem hb.1
      rw [size_snoc, size_snoc, (lev_word hl n v hv).1, (lev_word hl n v2 hv2).1]
      exact Nat.le_refl _
    · intro a ha b hb
      have h1 := (eqs_word hl n a ha).1
      rw [List.mem_filter] at hb
      obtain ⟨v2, hv2, j2, hj2, rfl⟩ := candL_mem hb.1
      rw [size_snoc, (lev_word hl n v2 hv2).1]
      omega
theorem snoc_inj {v w : ByteArray} {i j : Nat} (hi : i < 4) (hj : j < 4) (h : v ++ ltr i = w ++ ltr j) : v = w ∧ i = j := by
  have e := congrArg (fun b : ByteArray => b.data.toList) h
  simp only [ByteArray.data_append, Array.toList_append, ltr_data] at e
  have h2 := List.append_inj' e rfl
  refine ⟨ba_ext h2.1, ?_⟩
  have h3 : UInt8.ofNat (97 + i) = UInt8.ofNat (97 + j) := by simpa using h2.2
  have h4 := congrArg UInt8.toNat h3
  rw [UInt8.toNat_ofNat', UInt8.toNat_ofNat'] at h4
  omega
theorem candW_nodup {l : Nat} (hl : l ≤ 4) (w : ByteArray) : (candW w l).Nodup := by
  unfold candW
  rw [List.nodup_iff_pairwise_ne, List.pairwise_map]
  refine List.Pairwise.imp_of_mem ?_ (List.nodup_iff_pairwise_ne.1 List.nodup_range)
  intro a b ha hb hab he
  exact hab (snoc_inj (by have := List.mem_range.1 ha; omega) (by have := List.mem_range.1 hb; omega) he).2
theorem cand_nodup {l : Nat} (hl : l ≤ 4) : ∀ {ws : List ByteArray}, ws.Nodup → (candL ws l).Nodup
  | [], _ => by simp [candL]
  | w :: ws, h => by
    have e1 : candL (w :: ws) l = candW w l ++ candL ws l := by simp [candL]
    rw [List.nodup_cons] at h
    rw [e1, List.nodup_append]
    refine ⟨candW_nodup hl w, cand_nodup hl h.2, ?_⟩
    intro a ha b hb hab
    subst hab
    obtain ⟨v, hv, j, hj, rfl⟩ := candL_mem hb
    unfold candW at ha
    obtain ⟨i, hi, he⟩ := List.mem_map.1 ha
    have := (snoc_inj (by have := List.mem_range.1 hi; omega) (by omega) he).1
    exact h.1 (this ▸ hv)
theorem lev_nodup {p : Bool} {f g : List ByteArray} {l : Nat} (hl : l ≤ 4) : ∀ k, (lev p f g l k).Nodup
  | 0 => by simp [lev]
  | k + 1 => by rw [lev]; exact (cand_nodup hl (lev_nodup hl k)).filter _
theorem eqs_nodup {p : Bool} {f g : List ByteArray} {l : Nat} (hl : l ≤ 4) : ∀ n, (eqs p f g l n).Nodup
  | 0 => by simp [eqs]
  | n + 1 => by
    rw [eqs, List.nodup_append]
    refine ⟨eqs_nodup hl n, (cand_nodup hl (lev_nodup hl n)).filter _, ?_⟩
    intro a ha b hb hab
    subst hab
    have h1 := (eqs_word hl n a ha).1
    rw [List.mem_filter] at hb
    obtain ⟨v, hv, j, hj, rfl⟩ := candL_mem hb.1
    rw [size_snoc, (lev_word hl n v hv).1] at h1
    omega

/-- A prime one is a beginning of the next word just if this is no prime one. -/
theorem sieve {f g : List ByteArray} {l n : Nat} (hl : l ≤ 4) (j : Nat) (hj : j < (eqs false f g l n).length) :
    (∃ q ∈ ((eqs false f g l n).take j).filter (prW f g), Lib.hasPrefix (eqs false f g l n)[j].data.toList q.data.toList = true) ↔ prW f g (eqs false f g l n)[j] = false := by
  have hmem : (eqs false f g l n)[j] ∈ eqs false f g l n := List.getElem_mem _
  obtain ⟨E, hE⟩ : ∃ E, eqs false f g l n = E := ⟨_, rfl⟩
  have hnd := eqs_nodup (p := false) (f := f) (g := g) hl n
  have hsz := eqs_sizes (p := false) (f := f) (g := g) hl n
  have hpre := fun w hw => eqs_pre (f := f) (g := g) (n := n) hl (w := w) hw
  have hwd := eqs_word (p := false) (f := f) (g := g) hl n
  simp only [hE] at hj hmem hnd hsz hpre hwd ⊢
  have hEq : ∀ q ∈ E, eqW f g q = true := fun q hq => by
    rw [← hE] at hq
    obtain ⟨_, _, _, h⟩ := eqs_mem.1 hq
    exact h
  constructor
  · rintro ⟨q, hq, hp⟩
    rw [List.mem_filter] at hq
    obtain ⟨i, hi, hqi⟩ := List.getElem_of_mem hq.1
    rw [List.length_take] at hi
    rw [List.getElem_take] at hqi
    have hne : q ≠ E[j] := fun h => by
      have := (List.getElem_inj (h₀ := by omega) (h₁ := hj) hnd).1 (hqi.trans h)
      omega
    have hqE : q ∈ E := List.mem_of_mem_take hq.1
    have hq1 := (hwd q hqE).2.1
    unfold Lib.hasPrefix at hp
    rw [List.isPrefixOf_iff_prefix, List.prefix_iff_eq_take] at hp
    have e : q.data.toList.length = q.size := by simp
    rw [e] at hp
    have hle : q.size ≤ E[j].size := by
      have h1 := congrArg List.length hp
      rw [List.length_take, e] at h1
      have e2 : E[j].data.toList.length = E[j].size := by simp
      omega
    have hqx : E[j].extract 0 q.size = q := by
      apply ba_ext
      rw [Lib.extract_data, List.drop_zero, Nat.sub_zero]
      exact hp.symm
    have hlt : q.size < E[j].size := by
      rcases Nat.lt_or_ge q.size E[j].size with h | h
      · exact h
      · exact absurd (by
          have : q.size = E[j].size := by omega
          rw [← hqx, this, ext_all]) hne
    unfold prW cleanTo
    rw [List.all_eq_false]
    refine ⟨q.size - 1, List.mem_range.2 (by omega), ?_⟩
    rw [show q.size - 1 + 1 = q.size by omega, hqx, hEq q hqE]
    decide
  · intro h
    -- the shortest beginning with equal images
    have hex : ∃ i, i < E[j].size - 1 ∧ eqW f g (E[j].extract 0 (i + 1)) = true := by
      unfold prW cleanTo at h
      rw [List.all_eq_false] at h
      obtain ⟨i, hi, h2⟩ := h
      exact ⟨i, List.mem_range.1 hi, by simpa using h2⟩
    obtain ⟨i, ⟨hi, he⟩, hmin⟩ : ∃ i, (i < E[j].size - 1 ∧ eqW f g (E[j].extract 0 (i + 1)) = true) ∧ ∀ m < i, ¬ (m < E[j].size - 1 ∧ eqW f g (E[j].extract 0 (m + 1)) = true) := by
      obtain ⟨i0, h0⟩ := hex
      induction i0 using Nat.strongRecOn with
      | _ i0 ih =>
        by_cases hm : ∃ m < i0, m < E[j].size - 1 ∧ eqW f g (E[j].extract 0 (m + 1)) = true
        · obtain ⟨m, hm1, hm2⟩ := hm
          exact ih m hm1 hm2
        · exact ⟨i0, h0, fun m hm1 hm2 => hm ⟨m, hm1, hm2⟩⟩
    have hqE := hpre _ hmem (i + 1) (by omega) (by omega) he
    obtain ⟨q, hq⟩ : ∃ q, E[j].extract 0 (i + 1) = q := ⟨_, rfl⟩
    have hqs : q.size = i + 1 := by rw [← hq]; simp [ByteArray.size_extract]; omega
    have hqd : q.data.toList = E[j].data.toList.take (i + 1) := by rw [← hq, Lib.extract_data, List.drop_zero, Nat.sub_zero]
    rw [hq] at hqE
    obtain ⟨a, ha, hqa⟩ := List.getElem_of_mem hqE
    have haj : a < j := by
      rcases Nat.lt_or_ge a j with h2 | h2
      · exact h2
      · exfalso
        rcases Nat.eq_or_lt_of_le h2 with h3 | h3
        · subst h3
          have h4 := congrArg ByteArray.size hqa
          omega
        · have := (List.pairwise_iff_getElem.1 hsz) j a hj ha h3
          rw [hqa] at this
          omega
    refine ⟨q, List.mem_filter.2 ⟨?_, ?_⟩, ?_⟩
    · rw [← hqa]
      exact List.mem_take_iff_getElem.2 ⟨a, by omega, rfl⟩
    · unfold prW cleanTo
      rw [List.all_eq_true]
      intro m hm
      rw [hqs, Nat.add_sub_cancel] at hm
      have hm2 := List.mem_range.1 hm
      have hx : q.extract 0 (m + 1) = E[j].extract 0 (m + 1) := by
        apply ba_ext
        rw [Lib.extract_data, Lib.extract_data, List.drop_zero, List.drop_zero, Nat.sub_zero, hqd, List.take_take, Nat.min_eq_left (by omega)]
      rw [hx]
      have := hmin m hm2
      cases hh : eqW f g (E[j].extract 0 (m + 1))
      · rfl
      · exact absurd ⟨by omega, hh⟩ this
    · unfold Lib.hasPrefix
      rw [List.isPrefixOf_iff_prefix, hqd]
      exact List.take_prefix _ _

end Go.Proofs.Ytpjidcfdcpjafaa
