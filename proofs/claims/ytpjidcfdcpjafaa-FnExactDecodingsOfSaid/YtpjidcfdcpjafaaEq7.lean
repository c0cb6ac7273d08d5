/-
  Words that fit two lists of images, by their lengths; those with equal images. Three rows of texts of the call's own, side by side.
-/
import Derived.Test.YtpjidcfdcpjafaaAp7
import Derived.Test.YtpjidcfdcpjafaaOv7
import Derived.Test.YtpjidcfdcpjafaaRow2
import Derived.Deep.AppendLies
namespace Go.Proofs.Ytpjidcfdcpjafaa
open Go.RowKit Go
set_option linter.unusedVariables false

/-- The text of a letter. -/
def ltr (l : Nat) : ByteArray := ⟨#[UInt8.ofNat (97 + l)]⟩
def fitW (f g : List ByteArray) (w : ByteArray) : Bool := ovF (imgV w f) (imgV w g)
def eqW (f g : List ByteArray) (w : ByteArray) : Bool := fitW f g w && decide ((imgV w f).size = (imgV w g).size)
def keepW (p : Bool) (f g : List ByteArray) (w : ByteArray) : Bool := fitW f g w && !(p && eqW f g w)
/-- A word with one letter more, the first l letters. -/
def candW (w : ByteArray) (l : Nat) : List ByteArray := (List.range l).map fun j => w ++ ltr j
def candL (ws : List ByteArray) (l : Nat) : List ByteArray := ws.flatMap fun w => candW w l
theorem candW_succ (w : ByteArray) (l : Nat) : candW w (l + 1) = candW w l ++ [w ++ ltr l] := by simp [candW, List.range_succ]
theorem candL_succ (ws : List ByteArray) (l k : Nat) (h : k < ws.length) : candL (ws.take (k + 1)) l = candL (ws.take k) l ++ candW ws[k] l := by
  rw [List.take_succ_eq_append_getElem h]
  unfold candL
  rw [List.flatMap_append]
  simp
/-- The words of k letters that are looked at. -/
def lev (p : Bool) (f g : List ByteArray) (l : Nat) : Nat → List ByteArray
  | 0 => [⟨#[]⟩]
  | k + 1 => (candL (lev p f g l k) l).filter (keepW p f g)
/-- Those with equal images, of up to k letters. -/
def eqs (p : Bool) (f g : List ByteArray) (l : Nat) : Nat → List ByteArray
  | 0 => []
  | k + 1 => eqs p f g l k ++ (candL (lev p f g l k) l).filter (eqW f g)

theorem filter_snoc (P : ByteArray → Bool) (xs : List ByteArray) (x : ByteArray) : (xs ++ [x]).filter P = xs.filter P ++ (if P x then [x] else []) := by
  rw [List.filter_append]
  congr 1
  cases h : P x <;> simp [List.filter, h]

theorem candL_mem {ws : List ByteArray} {l : Nat} {x : ByteArray} (h : x ∈ candL ws l) : ∃ w ∈ ws, ∃ j, j < l ∧ x = w ++ ltr j := by
  unfold candL candW at h
  obtain ⟨w, hw, h2⟩ := List.mem_flatMap.1 h
  obtain ⟨j, hj, rfl⟩ := List.mem_map.1 h2
  exact ⟨w, hw, j, List.mem_range.1 hj, rfl⟩
theorem ltr_data (l : Nat) : (ltr l).data.toList = [UInt8.ofNat (97 + l)] := rfl
theorem ltr_size (l : Nat) : (ltr l).size = 1 := rfl
theorem ltr_letter {l : Nat} (h : l < 4) : Wd.isL (UInt8.ofNat (97 + l)) = true := by
  rcases (show l = 0 ∨ l = 1 ∨ l = 2 ∨ l = 3 by omega) with rfl | rfl | rfl | rfl <;> decide
/-- A word of so many letters. -/
def WordN (k : Nat) (w : ByteArray) : Prop := w.size = k ∧ ∀ c ∈ w.data.toList, Wd.isL c = true
theorem WordN.snoc {k l : Nat} {w : ByteArray} (h : WordN k w) (hl : l < 4) : WordN (k + 1) (w ++ ltr l) := by
  refine ⟨by rw [ByteArray.size_append, h.1, ltr_size], fun c hc => ?_⟩
  rw [ByteArray.data_append, Array.toList_append, ltr_data, List.mem_append, List.mem_singleton] at hc
  rcases hc with hc | rfl
  · exact h.2 c hc
  · exact ltr_letter hl
theorem WordN.word {k : Nat} {w : ByteArray} (h : WordN k w) (hk : k ≤ 60) : Wd.wordB w.data.toList = true := by
  unfold Wd.wordB
  rw [Bool.and_eq_true, List.all_eq_true]
  refine ⟨decide_eq_true ?_, h.2⟩
  have e : w.data.toList.length = w.size := by simp
  rw [e, h.1]; exact hk
theorem lev_word {p : Bool} {f g : List ByteArray} {l : Nat} (hl : l ≤ 4) : ∀ k, ∀ w ∈ lev p f g l k, WordN k w
  | 0, w, hw => by
    rw [lev, List.mem_singleton] at hw
    subst hw
    exact ⟨rfl, by intro c hc; simp at hc⟩
  | k + 1, w, hw => by
    rw [lev, List.mem_filter] at hw
    obtain ⟨v, hv, j, hj, rfl⟩ := candL_mem hw.1
    exact (lev_word hl k v hv).snoc (by omega)
theorem candL_length (ws : List ByteArray) (l : Nat) : (candL ws l).length = l * ws.length := by
  induction ws with
  | nil => simp [candL]
  | cons w ws ih =>
    have e : candL (w :: ws) l = candW w l ++ candL ws l := by simp [candL]
    rw [e, List.length_append, ih, List.length_cons, Nat.mul_succ]
    simp [candW]
    omega
theorem lev_length {p : Bool} {f g : List ByteArray} {l : Nat} (hl : l ≤ 4) : ∀ k, (lev p f g l k).length ≤ 4 ^ k
  | 0 => by simp [lev]
  | k + 1 => by
    have h1 := lev_length (p := p) (f := f) (g := g) hl k
    have h2 := List.length_filter_le (keepW p f g) (candL (lev p f g l k) l)
    rw [candL_length] at h2
    have h3 : l * (lev p f g l k).length ≤ 4 * 4 ^ k := Nat.mul_le_mul hl h1
    rw [lev, Nat.pow_succ]
    omega
theorem eqs_length {p : Bool} {f g : List ByteArray} {l : Nat} (hl : l ≤ 4) : ∀ k, (eqs p f g l k).length ≤ 4 * 4 ^ k
  | 0 => by simp [eqs]
  | k + 1 => by
    have h0 := eqs_length (p := p) (f := f) (g := g) hl k
    have h1 := lev_length (p := p) (f := f) (g := g) hl k
    have h2 := List.length_filter_le (eqW f g) (candL (lev p f g l k) l)
    rw [candL_length] at h2
    have h3 : l * (lev p f g l k).length ≤ 4 * 4 ^ k := Nat.mul_le_mul hl h1
    rw [eqs, Nat.pow_succ, List.length_append]
    omega
theorem eqs_word {p : Bool} {f g : List ByteArray} {l : Nat} (hl : l ≤ 4) : ∀ k, ∀ w ∈ eqs p f g l k, w.size ≤ k ∧ 1 ≤ w.size ∧ (∀ c ∈ w.data.toList, Wd.isL c = true)
  | 0, w, hw => by simp [eqs] at hw
  | k + 1, w, hw => by
    rw [eqs, List.mem_append] at hw
    rcases hw with hw | hw
    · have := eqs_word hl k w hw
      exact ⟨by omega, this.2.1, this.2.2⟩
    · rw [List.mem_filter] at hw
      obtain ⟨v, hv, j, hj, rfl⟩ := candL_mem hw.1
      have := (lev_word hl k v hv).snoc (show j < 4 by omega)
      exact ⟨by rw [this.1]; exact Nat.le_refl _, by rw [this.1]; omega, this.2⟩

/-- Two slices of the call's own lie in different blocks. -/
def AP (v u : Value) : Prop := ∀ k, v.ownBlock = some k → u.ownBlock ≠ some k
theorem AP.symm {v u : Value} (h : AP v u) : AP u v := fun k hk hv => h k hv hk
theorem AP.nil (v : Value) : AP v (.slice none 0 0) := fun k _ h => by cases h
def Rw (w : World) (base : Nat) (v : Value) (n : Nat) (xs : List ByteArray) : Prop := w.ownsRow base 9 1 v n (xs.map Value.string)
theorem Rw.len {w : World} {base n : Nat} {v : Value} {xs : List ByteArray} (h : Rw w base v n xs) : xs.length = n := by
  have := (show w.ownsRow _ _ _ _ _ _ from h).1
  simpa using this
theorem Rw.strs {w : World} {base n : Nat} {v : Value} {xs : List ByteArray} (h : Rw w base v n xs) : Strs w base v xs := by
  have := h.len
  subst this
  exact h
theorem Rw.below {w w' : World} {base n : Nat} {v : Value} {xs : List ByteArray} (h : Rw w base v n xs) (hb : Below w.heap.size w w') : Rw w' base v n xs := own_below h hb
theorem Rw.other {w w' : World} {base n : Nat} {v u : Value} {xs : List ByteArray} (h : Rw w base v n xs) (hg : w.grownBy w' u.ownBlock) (ha : AP v u) : Rw w' base v n xs := by
  refine World.ownsRow.kept (show w.ownsRow _ _ _ _ _ _ from h) hg ?_
  rcases hv : v.ownBlock with _ | k
  · exact .inl rfl
  · exact .inr (fun e => ha k hv e.symm)
theorem Rw.ap_new {w : World} {base n g c m : Nat} {v u : Value} {xs : List ByteArray} (h : Rw w base v n xs) (ha : AP v u) (hg : u.ownBlock = some g ∨ w.heap.size ≤ g) : AP v (.slice (some ⟨g, 0, none⟩) m c) := by
  intro k hk hn
  have e : g = k := by simpa [Value.ownBlock] using hn
  subst e
  rcases hg with h1 | h1
  · exact ha g hk h1
  · have := (World.ownsRow.lt (show w.ownsRow _ _ _ _ _ _ from h) g hk).2
    omega
theorem Rw.nil (w : World) (base : Nat) : Rw w base (.slice none 0 0) 0 [] := World.ownsRow_nil _ _ _ _
theorem Rw.drewN {w : World} {base n : Nat} {v : Value} {xs : List ByteArray} (h : Rw w base v n xs) (m : Nat) : Rw (w.drewN m) base v n xs := h
theorem one_newS (w : World) (x : Value) (t : TypeId) : ∀ (j : Nat) (u : Value), [x][j]? = some u → (w.alloc (.cells #[x] t)).cell? ((⟨w.heap.size, 0, none⟩ : Addr).add j) = some u := by
  intro j u hu
  match j, hu with
  | 0, hu =>
    obtain rfl : x = u := by simpa using hu
    exact (Bx.new w t #[x]).cell 0
theorem one_cell7 (x : ByteArray) : ∀ u : Value, u ∈ [Value.string x] → u.oneCell' = true := by
  intro u hu
  simp only [List.mem_cons, List.not_mem_nil, or_false] at hu
  subst hu; rfl
theorem grow7 {base : Nat} {w w1 w2 : World} {e size n : Nat} {v : Value} {xs : List Value} {o : Obj} (hb : Below base w w1) (hbase : base ≤ w.heap.size) (h : w1.ownsRow base e size v n xs) (hg : (w1.alloc o).grownBy w2 v.ownBlock) : Below base w w2 :=
  (hb.alloc (Nat.le_trans hbase hb.size) o).grown hg (by have := hb.size; simp; omega) (fun k hk => (World.ownsRow.lt h k hk).1)

/-- Three rows of texts, side by side. -/
def Own3 (w : World) (base : Nat) (a b c : Value) (na nb nc : Nat) (A B C : List ByteArray) : Prop := (Rw w base a na A ∧ Rw w base b nb B ∧ Rw w base c nc C) ∧ AP a b ∧ AP a c ∧ AP b c
theorem Own3.below {w w' : World} {base : Nat} {a b c : Value} {na nb nc : Nat} {A B C : List ByteArray} (h : Own3 w base a b c na nb nc A B C) (hb : Below w.heap.size w w') : Own3 w' base a b c na nb nc A B C :=
  ⟨⟨h.1.1.below hb, h.1.2.1.below hb, h.1.2.2.below hb⟩, h.2⟩
theorem Own3.rot {w : World} {base : Nat} {a b c : Value} {na nb nc : Nat} {A B C : List ByteArray} (h : Own3 w base a b c na nb nc A B C) : Own3 w base b c a nb nc na B C A :=
  ⟨⟨h.1.2.1, h.1.2.2, h.1.1⟩, h.2.2.2, h.2.1.symm, h.2.2.1.symm⟩
theorem Own3.swap {w : World} {base : Nat} {a b c : Value} {na nb nc : Nat} {A B C : List ByteArray} (h : Own3 w base a b c na nb nc A B C) : Own3 w base a c b na nc nb A C B :=
  ⟨⟨h.1.1, h.1.2.2, h.1.2.1⟩, h.2.2.1, h.2.1, h.2.2.2.symm⟩
/-- The third one has been appended to. -/
theorem Own3.app {w w' : World} {base : Nat} {a b c : Value} {na nb nc : Nat} {A B C : List ByteArray} {o : Obj} {g cap : Nat} {t : ByteArray} (h : Own3 w base a b c na nb nc A B C)
    (hown : w'.ownsRow base 9 1 (.slice (some ⟨g, 0, none⟩) (nc + 1) cap) (nc + 1) (C.map Value.string ++ [Value.string t])) (hgr : (w.alloc o).grownBy w' c.ownBlock) (hor : c.ownBlock = some g ∨ g = w.heap.size + 1) :
    Own3 w' base a b (.slice (some ⟨g, 0, none⟩) (nc + 1) cap) na nb (nc + 1) A B (C ++ [t]) := by
  have ha : Rw (w.alloc o) base a na A := h.1.1.below ((Below.refl _ _).alloc (Nat.le_refl _) _)
  have hb : Rw (w.alloc o) base b nb B := h.1.2.1.below ((Below.refl _ _).alloc (Nat.le_refl _) _)
  refine ⟨⟨ha.other hgr h.2.2.1, hb.other hgr h.2.2.2, ?_⟩, h.2.1, h.1.1.ap_new h.2.2.1 ?_, h.1.2.1.ap_new h.2.2.2 ?_⟩
  · show w'.ownsRow _ _ _ _ _ _
    rw [List.map_append]
    exact hown
  · rcases hor with h1 | h1
    · exact .inl h1
    · exact .inr (by omega)
  · rcases hor with h1 | h1
    · exact .inl h1
    · exact .inr (by omega)

end Go.Proofs.Ytpjidcfdcpjafaa
