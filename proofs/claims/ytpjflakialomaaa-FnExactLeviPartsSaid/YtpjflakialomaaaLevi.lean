/-
  LeviParts, of the program and of the model: contracts, and the law's walk.
-/
import Derived.Test.YtpjflakialomaaaWalkW
import Derived.Test.YtpjflakialomaaaRow
import Derived.Test.YtpjflakialomaaaOv7
import Derived.Test.YtpjflakialomaaaShelf
import Derived.Below
import Derived.OwnWalk
import Derived.BigQuiet
namespace Go.Proofs.Ytpjflakialomaaa
open Go.RowKit Go
set_option linter.unusedVariables false

theorem levi_pre {x y z t : ByteArray} (h : x ++ y = z ++ t) (hs : z.size ≤ x.size) : Lib.hasPrefix x.data.toList z.data.toList = true := by
  unfold Lib.hasPrefix
  rw [List.isPrefixOf_iff_prefix]
  have h2 : x.data.toList ++ y.data.toList = z.data.toList ++ t.data.toList := by
    have := congrArg (fun b : ByteArray => b.data.toList) h
    simpa using this
  refine List.prefix_of_prefix_length_le (l₃ := x.data.toList ++ y.data.toList) ?_ ?_ (by simpa using hs)
  · rw [h2]; exact List.prefix_append _ _
  · exact List.prefix_append _ _

theorem ov_one (x z : ByteArray) (w : World) (hx : x.size ≤ maxLen) (hz : z.size ≤ maxLen) (hp : Lib.hasPrefix x.data.toList z.data.toList = true) (hl : z.size < x.size) :
    Calls Try.prog 42 #[.string x, .string z] w fun e w' => e = .returned (.tuple #[.int .i64 1, .string (x.extract z.size x.size), .bool true]) ∧ w = w' := by
  have e1 : ovF x z = true := by unfold ovF; rw [if_pos (by omega)]; exact hp
  have e2 : ovR x z = x.extract z.size x.size := by unfold ovR; rw [if_pos (by omega)]
  have e3 : ovS x z = 1 := by unfold ovS; rw [if_pos hl]
  refine (overhang_any x z w hx hz).mono ?_
  rintro e w' ⟨⟨r, rfl, hr⟩, rfl⟩
  exact ⟨by rw [hr e1, e1, e2, e3], rfl⟩
theorem ov_two (x z : ByteArray) (w : World) (hx : x.size ≤ maxLen) (hz : z.size ≤ maxLen) (hp : Lib.hasPrefix z.data.toList x.data.toList = true) (hl : x.size < z.size) :
    Calls Try.prog 42 #[.string x, .string z] w fun e w' => e = .returned (.tuple #[.int .i64 2, .string (z.extract x.size z.size), .bool true]) ∧ w = w' := by
  have e1 : ovF x z = true := by unfold ovF; rw [if_neg (by omega)]; exact hp
  have e2 : ovR x z = z.extract x.size z.size := by unfold ovR; rw [if_neg (by omega)]
  have e3 : ovS x z = 2 := by unfold ovS; rw [if_neg (by omega), if_pos hl]
  refine (overhang_any x z w hx hz).mono ?_
  rintro e w' ⟨⟨r, rfl, hr⟩, rfl⟩
  exact ⟨by rw [hr e1, e1, e2, e3], rfl⟩
theorem ov_zero (x z : ByteArray) (w : World) (hx : x.size ≤ maxLen) (hz : z.size ≤ maxLen) (hp : Lib.hasPrefix x.data.toList z.data.toList = true) (hl : z.size = x.size) :
    Calls Try.prog 42 #[.string x, .string z] w fun e w' => e = .returned (.tuple #[.int .i64 0, .string ⟨#[]⟩, .bool true]) ∧ w = w' := by
  have e1 : ovF x z = true := by unfold ovF; rw [if_pos (by omega)]; exact hp
  have e2 := ov_none x z hl
  have e3 : ovS x z = 0 := by unfold ovS; rw [if_neg (by omega), if_neg (by omega)]
  refine (overhang_any x z w hx hz).mono ?_
  rintro e w' ⟨⟨r, rfl, hr⟩, rfl⟩
  exact ⟨by rw [hr e1, e1, e2, e3], rfl⟩

set_option maxHeartbeats 400000 in
theorem implLevi_bad (x y z t : ByteArray) (w : World) (sx : x.size ≤ maxLen) (sy : y.size ≤ maxLen) (sz : z.size ≤ maxLen) (st : t.size ≤ maxLen) (h : (Wd.wordB x.data.toList && Wd.wordB y.data.toList && Wd.wordB z.data.toList && Wd.wordB t.data.toList) = false) :
    Calls Try.prog 14 #[.string x, .string y, .string z, .string t] w fun e w' => e = .returned (.tuple #[.int .i64 0, .string ⟨#[]⟩, .int .i64 1]) ∧ Below w.heap.size w w' := by
  have c0 := implValidWord_any x w sx
  have c1 := implValidWord_any y w sy
  have c2 := implValidWord_any z w sz
  have c3 := implValidWord_any t w st
  cases h0 : Wd.wordB x.data.toList
  · rw [h0] at c0
    clear h
    clear h0
    go_enter Try.func14, Try.ntmps14
    go_wp2_with fail
    refine c0.mono ?_
    rintro e w' ⟨rfl, rfl⟩
    go_wp2
    go_ret3
    exact ⟨rfl, Below.refl _ _⟩
  · rw [h0] at c0
    cases h1 : Wd.wordB y.data.toList
    · rw [h1] at c1
      clear h
      clear h0
      clear h1
      go_enter Try.func14, Try.ntmps14
      go_wp2_with fail
      refine c0.mono ?_
      rintro e w' ⟨rfl, rfl⟩
      go_wp2_with fail
      refine c1.mono ?_
      rintro e w' ⟨rfl, rfl⟩
      go_wp2
      go_ret3
      exact ⟨rfl, Below.refl _ _⟩
    · rw [h1] at c1
      cases h2 : Wd.wordB z.data.toList
      · rw [h2] at c2
        clear h
        clear h0
        clear h1
        clear h2
        go_enter Try.func14, Try.ntmps14
        go_wp2_with fail
        refine c0.mono ?_
        rintro e w' ⟨rfl, rfl⟩
        go_wp2_with fail
        refine c1.mono ?_
        rintro e w' ⟨rfl, rfl⟩
        go_wp2_with fail
        refine c2.mono ?_
        rintro e w' ⟨rfl, rfl⟩
        go_wp2
        go_ret3
        exact ⟨rfl, Below.refl _ _⟩
      · rw [h2] at c2
        have h3 : Wd.wordB t.data.toList = false := by simpa [h0, h1, h2] using h
        rw [h3] at c3
        clear h
        clear h0
        clear h1
        clear h2
        clear h3
        go_enter Try.func14, Try.ntmps14
        go_wp2_with fail
        refine c0.mono ?_
        rintro e w' ⟨rfl, rfl⟩
        go_wp2_with fail
        refine c1.mono ?_
        rintro e w' ⟨rfl, rfl⟩
        go_wp2_with fail
        refine c2.mono ?_
        rintro e w' ⟨rfl, rfl⟩
        go_wp2_with fail
        refine c3.mono ?_
        rintro e w' ⟨rfl, rfl⟩
        go_wp2
        go_ret3
        exact ⟨rfl, Below.refl _ _⟩

set_option maxHeartbeats 400000 in
theorem implLevi_state (x y z t : ByteArray) (w : World) (sx : x.size ≤ 60) (sy : y.size ≤ 60) (sz : z.size ≤ 60) (st : t.size ≤ 60) (hx : Wd.wordB x.data.toList = true) (hy : Wd.wordB y.data.toList = true) (hz : Wd.wordB z.data.toList = true) (ht : Wd.wordB t.data.toList = true) (h : ((x ++ y).toList == (z ++ t).toList) = false) :
    Calls Try.prog 14 #[.string x, .string y, .string z, .string t] w fun e w' => e = .returned (.tuple #[.int .i64 0, .string ⟨#[]⟩, .int .i64 4]) ∧ Below w.heap.size w w' := by
  have c0 := implValidWord_any x w (by unfold maxLen; omega)
  rw [hx] at c0
  have c1 := implValidWord_any y w (by unfold maxLen; omega)
  rw [hy] at c1
  have c2 := implValidWord_any z w (by unfold maxLen; omega)
  rw [hz] at c2
  have c3 := implValidWord_any t w (by unfold maxLen; omega)
  rw [ht] at c3
  clear hx
  clear hy
  clear hz
  clear ht
  go_enter Try.func14, Try.ntmps14
  go_wp2_with fail
  refine c0.mono ?_
  rintro e w' ⟨rfl, rfl⟩
  go_wp2_with fail
  refine c1.mono ?_
  rintro e w' ⟨rfl, rfl⟩
  go_wp2_with fail
  refine c2.mono ?_
  rintro e w' ⟨rfl, rfl⟩
  go_wp2_with fail
  refine c3.mono ?_
  rintro e w' ⟨rfl, rfl⟩
  go_wp2
  go_ret3
  exact ⟨rfl, Below.refl _ _⟩

set_option maxHeartbeats 400000 in
theorem implLevi_one (x y z t : ByteArray) (w : World) (sx : x.size ≤ 60) (sy : y.size ≤ 60) (sz : z.size ≤ 60) (st : t.size ≤ 60) (hx : Wd.wordB x.data.toList = true) (hy : Wd.wordB y.data.toList = true) (hz : Wd.wordB z.data.toList = true) (ht : Wd.wordB t.data.toList = true) (h : ((x ++ y).toList == (z ++ t).toList) = true) (hp : Lib.hasPrefix x.data.toList z.data.toList = true) (hl : z.size < x.size) :
    Calls Try.prog 14 #[.string x, .string y, .string z, .string t] w fun e w' => e = .returned (.tuple #[.int .i64 1, .string (x.extract z.size x.size), .int .i64 0]) ∧ Below w.heap.size w w' := by
  have c0 := implValidWord_any x w (by unfold maxLen; omega)
  rw [hx] at c0
  have c1 := implValidWord_any y w (by unfold maxLen; omega)
  rw [hy] at c1
  have c2 := implValidWord_any z w (by unfold maxLen; omega)
  rw [hz] at c2
  have c3 := implValidWord_any t w (by unfold maxLen; omega)
  rw [ht] at c3
  clear hx
  clear hy
  clear hz
  clear ht
  have cr := ov_one x z w (by unfold maxLen; omega) (by unfold maxLen; omega) hp hl
  go_enter Try.func14, Try.ntmps14
  go_wp2_with fail
  refine c0.mono ?_
  rintro e w' ⟨rfl, rfl⟩
  go_wp2_with fail
  refine c1.mono ?_
  rintro e w' ⟨rfl, rfl⟩
  go_wp2_with fail
  refine c2.mono ?_
  rintro e w' ⟨rfl, rfl⟩
  go_wp2_with fail
  refine c3.mono ?_
  rintro e w' ⟨rfl, rfl⟩
  go_wp2_with fail
  refine cr.mono ?_
  rintro e w' ⟨rfl, rfl⟩
  go_wp2
  go_ret3
  exact ⟨rfl, Below.refl _ _⟩

set_option maxHeartbeats 400000 in
theorem implLevi_two (x y z t : ByteArray) (w : World) (sx : x.size ≤ 60) (sy : y.size ≤ 60) (sz : z.size ≤ 60) (st : t.size ≤ 60) (hx : Wd.wordB x.data.toList = true) (hy : Wd.wordB y.data.toList = true) (hz : Wd.wordB z.data.toList = true) (ht : Wd.wordB t.data.toList = true) (h : ((x ++ y).toList == (z ++ t).toList) = true) (hp : Lib.hasPrefix z.data.toList x.data.toList = true) (hl : x.size < z.size) :
    Calls Try.prog 14 #[.string x, .string y, .string z, .string t] w fun e w' => e = .returned (.tuple #[.int .i64 2, .string (z.extract x.size z.size), .int .i64 0]) ∧ Below w.heap.size w w' := by
  have c0 := implValidWord_any x w (by unfold maxLen; omega)
  rw [hx] at c0
  have c1 := implValidWord_any y w (by unfold maxLen; omega)
  rw [hy] at c1
  have c2 := implValidWord_any z w (by unfold maxLen; omega)
  rw [hz] at c2
  have c3 := implValidWord_any t w (by unfold maxLen; omega)
  rw [ht] at c3
  clear hx
  clear hy
  clear hz
  clear ht
  have cr := ov_two x z w (by unfold maxLen; omega) (by unfold maxLen; omega) hp hl
  go_enter Try.func14, Try.ntmps14
  go_wp2_with fail
  refine c0.mono ?_
  rintro e w' ⟨rfl, rfl⟩
  go_wp2_with fail
  refine c1.mono ?_
  rintro e w' ⟨rfl, rfl⟩
  go_wp2_with fail
  refine c2.mono ?_
  rintro e w' ⟨rfl, rfl⟩
  go_wp2_with fail
  refine c3.mono ?_
  rintro e w' ⟨rfl, rfl⟩
  go_wp2_with fail
  refine cr.mono ?_
  rintro e w' ⟨rfl, rfl⟩
  go_wp2
  go_ret3
  exact ⟨rfl, Below.refl _ _⟩

set_option maxHeartbeats 400000 in
theorem implLevi_zero (x y z t : ByteArray) (w : World) (sx : x.size ≤ 60) (sy : y.size ≤ 60) (sz : z.size ≤ 60) (st : t.size ≤ 60) (hx : Wd.wordB x.data.toList = true) (hy : Wd.wordB y.data.toList = true) (hz : Wd.wordB z.data.toList = true) (ht : Wd.wordB t.data.toList = true) (h : ((x ++ y).toList == (z ++ t).toList) = true) (hp : Lib.hasPrefix x.data.toList z.data.toList = true) (hl : z.size = x.size) :
    Calls Try.prog 14 #[.string x, .string y, .string z, .string t] w fun e w' => e = .returned (.tuple #[.int .i64 0, .string ⟨#[]⟩, .int .i64 0]) ∧ Below w.heap.size w w' := by
  have c0 := implValidWord_any x w (by unfold maxLen; omega)
  rw [hx] at c0
  have c1 := implValidWord_any y w (by unfold maxLen; omega)
  rw [hy] at c1
  have c2 := implValidWord_any z w (by unfold maxLen; omega)
  rw [hz] at c2
  have c3 := implValidWord_any t w (by unfold maxLen; omega)
  rw [ht] at c3
  clear hx
  clear hy
  clear hz
  clear ht
  have cr := ov_zero x z w (by unfold maxLen; omega) (by unfold maxLen; omega) hp hl
  go_enter Try.func14, Try.ntmps14
  go_wp2_with fail
  refine c0.mono ?_
  rintro e w' ⟨rfl, rfl⟩
  go_wp2_with fail
  refine c1.mono ?_
  rintro e w' ⟨rfl, rfl⟩
  go_wp2_with fail
  refine c2.mono ?_
  rintro e w' ⟨rfl, rfl⟩
  go_wp2_with fail
  refine c3.mono ?_
  rintro e w' ⟨rfl, rfl⟩
  go_wp2_with fail
  refine cr.mono ?_
  rintro e w' ⟨rfl, rfl⟩
  go_wp2
  go_ret3
  exact ⟨rfl, Below.refl _ _⟩

set_option maxHeartbeats 400000 in
theorem specLevi_bad (x y z t : ByteArray) (w : World) (sx : x.size ≤ maxLen) (sy : y.size ≤ maxLen) (sz : z.size ≤ maxLen) (st : t.size ≤ maxLen) (h : (Wd.wordB x.data.toList && Wd.wordB y.data.toList && Wd.wordB z.data.toList && Wd.wordB t.data.toList) = false) :
    Calls Try.prog 13 #[.string x, .string y, .string z, .string t] w fun e w' => e = .returned (.tuple #[.int .i64 0, .string ⟨#[]⟩, .int .i64 1]) ∧ Below w.heap.size w w' := by
  have c0 := specWord_any x w sx
  have c1 := specWord_any y w sy
  have c2 := specWord_any z w sz
  have c3 := specWord_any t w st
  cases h0 : Wd.wordB x.data.toList
  · rw [h0] at c0
    clear h
    clear h0
    go_enter Try.func13, Try.ntmps13
    go_wp2_with fail
    refine c0.mono ?_
    rintro e w' ⟨rfl, rfl⟩
    go_wp2
    go_ret3
    exact ⟨rfl, Below.refl _ _⟩
  · rw [h0] at c0
    cases h1 : Wd.wordB y.data.toList
    · rw [h1] at c1
      clear h
      clear h0
      clear h1
      go_enter Try.func13, Try.ntmps13
      go_wp2_with fail
      refine c0.mono ?_
      rintro e w' ⟨rfl, rfl⟩
      go_wp2_with fail
      refine c1.mono ?_
      rintro e w' ⟨rfl, rfl⟩
      go_wp2
      go_ret3
      exact ⟨rfl, Below.refl _ _⟩
    · rw [h1] at c1
      cases h2 : Wd.wordB z.data.toList
      · rw [h2] at c2
        clear h
        clear h0
        clear h1
        clear h2
        go_enter Try.func13, Try.ntmps13
        go_wp2_with fail
        refine c0.mono ?_
        rintro e w' ⟨rfl, rfl⟩
        go_wp2_with fail
        refine c1.mono ?_
        rintro e w' ⟨rfl, rfl⟩
        go_wp2_with fail
        refine c2.mono ?_
        rintro e w' ⟨rfl, rfl⟩
        go_wp2
        go_ret3
        exact ⟨rfl, Below.refl _ _⟩
      · rw [h2] at c2
        have h3 : Wd.wordB t.data.toList = false := by simpa [h0, h1, h2] using h
        rw [h3] at c3
        clear h
        clear h0
        clear h1
        clear h2
        clear h3
        go_enter Try.func13, Try.ntmps13
        go_wp2_with fail
        refine c0.mono ?_
        rintro e w' ⟨rfl, rfl⟩
        go_wp2_with fail
        refine c1.mono ?_
        rintro e w' ⟨rfl, rfl⟩
        go_wp2_with fail
        refine c2.mono ?_
        rintro e w' ⟨rfl, rfl⟩
        go_wp2_with fail
        refine c3.mono ?_
        rintro e w' ⟨rfl, rfl⟩
        go_wp2
        go_ret3
        exact ⟨rfl, Below.refl _ _⟩

set_option maxHeartbeats 400000 in
theorem specLevi_state (x y z t : ByteArray) (w : World) (sx : x.size ≤ 60) (sy : y.size ≤ 60) (sz : z.size ≤ 60) (st : t.size ≤ 60) (hx : Wd.wordB x.data.toList = true) (hy : Wd.wordB y.data.toList = true) (hz : Wd.wordB z.data.toList = true) (ht : Wd.wordB t.data.toList = true) (h : ((x ++ y).toList == (z ++ t).toList) = false) :
    Calls Try.prog 13 #[.string x, .string y, .string z, .string t] w fun e w' => e = .returned (.tuple #[.int .i64 0, .string ⟨#[]⟩, .int .i64 4]) ∧ Below w.heap.size w w' := by
  have c0 := specWord_any x w (by unfold maxLen; omega)
  rw [hx] at c0
  have c1 := specWord_any y w (by unfold maxLen; omega)
  rw [hy] at c1
  have c2 := specWord_any z w (by unfold maxLen; omega)
  rw [hz] at c2
  have c3 := specWord_any t w (by unfold maxLen; omega)
  rw [ht] at c3
  clear hx
  clear hy
  clear hz
  clear ht
  go_enter Try.func13, Try.ntmps13
  go_wp2_with fail
  refine c0.mono ?_
  rintro e w' ⟨rfl, rfl⟩
  go_wp2_with fail
  refine c1.mono ?_
  rintro e w' ⟨rfl, rfl⟩
  go_wp2_with fail
  refine c2.mono ?_
  rintro e w' ⟨rfl, rfl⟩
  go_wp2_with fail
  refine c3.mono ?_
  rintro e w' ⟨rfl, rfl⟩
  go_wp2
  go_ret3
  exact ⟨rfl, Below.refl _ _⟩

set_option maxHeartbeats 400000 in
theorem specLevi_one (x y z t : ByteArray) (w : World) (sx : x.size ≤ 60) (sy : y.size ≤ 60) (sz : z.size ≤ 60) (st : t.size ≤ 60) (hx : Wd.wordB x.data.toList = true) (hy : Wd.wordB y.data.toList = true) (hz : Wd.wordB z.data.toList = true) (ht : Wd.wordB t.data.toList = true) (h : ((x ++ y).toList == (z ++ t).toList) = true) (hp : Lib.hasPrefix x.data.toList z.data.toList = true) (hl : z.size < x.size) :
    Calls Try.prog 13 #[.string x, .string y, .string z, .string t] w fun e w' => e = .returned (.tuple #[.int .i64 1, .string (x.extract z.size x.size), .int .i64 0]) ∧ Below w.heap.size w w' := by
  have c0 := specWord_any x w (by unfold maxLen; omega)
  rw [hx] at c0
  have c1 := specWord_any y w (by unfold maxLen; omega)
  rw [hy] at c1
  have c2 := specWord_any z w (by unfold maxLen; omega)
  rw [hz] at c2
  have c3 := specWord_any t w (by unfold maxLen; omega)
  rw [ht] at c3
  clear hx
  clear hy
  clear hz
  clear ht
  go_enter Try.func13, Try.ntmps13
  go_wp2_with fail
  refine c0.mono ?_
  rintro e w' ⟨rfl, rfl⟩
  go_wp2_with fail
  refine c1.mono ?_
  rintro e w' ⟨rfl, rfl⟩
  go_wp2_with fail
  refine c2.mono ?_
  rintro e w' ⟨rfl, rfl⟩
  go_wp2_with fail
  refine c3.mono ?_
  rintro e w' ⟨rfl, rfl⟩
  go_wp2
  go_quiet (fail)
  go_wp2
  go_ret3
  exact ⟨rfl, below_drewN (Below.refl _ _) _⟩

set_option maxHeartbeats 400000 in
theorem specLevi_two (x y z t : ByteArray) (w : World) (sx : x.size ≤ 60) (sy : y.size ≤ 60) (sz : z.size ≤ 60) (st : t.size ≤ 60) (hx : Wd.wordB x.data.toList = true) (hy : Wd.wordB y.data.toList = true) (hz : Wd.wordB z.data.toList = true) (ht : Wd.wordB t.data.toList = true) (h : ((x ++ y).toList == (z ++ t).toList) = true) (hp : Lib.hasPrefix z.data.toList x.data.toList = true) (hl : x.size < z.size) :
    Calls Try.prog 13 #[.string x, .string y, .string z, .string t] w fun e w' => e = .returned (.tuple #[.int .i64 2, .string (z.extract x.size z.size), .int .i64 0]) ∧ Below w.heap.size w w' := by
  have c0 := specWord_any x w (by unfold maxLen; omega)
  rw [hx] at c0
  have c1 := specWord_any y w (by unfold maxLen; omega)
  rw [hy] at c1
  have c2 := specWord_any z w (by unfold maxLen; omega)
  rw [hz] at c2
  have c3 := specWord_any t w (by unfold maxLen; omega)
  rw [ht] at c3
  clear hx
  clear hy
  clear hz
  clear ht
  go_enter Try.func13, Try.ntmps13
  go_wp2_with fail
  refine c0.mono ?_
  rintro e w' ⟨rfl, rfl⟩
  go_wp2_with fail
  refine c1.mono ?_
  rintro e w' ⟨rfl, rfl⟩
  go_wp2_with fail
  refine c2.mono ?_
  rintro e w' ⟨rfl, rfl⟩
  go_wp2_with fail
  refine c3.mono ?_
  rintro e w' ⟨rfl, rfl⟩
  go_wp2
  go_quiet (fail)
  go_wp2
  go_ret3
  exact ⟨rfl, below_drewN (Below.refl _ _) _⟩

set_option maxHeartbeats 400000 in
theorem specLevi_zero (x y z t : ByteArray) (w : World) (sx : x.size ≤ 60) (sy : y.size ≤ 60) (sz : z.size ≤ 60) (st : t.size ≤ 60) (hx : Wd.wordB x.data.toList = true) (hy : Wd.wordB y.data.toList = true) (hz : Wd.wordB z.data.toList = true) (ht : Wd.wordB t.data.toList = true) (h : ((x ++ y).toList == (z ++ t).toList) = true) (hp : Lib.hasPrefix x.data.toList z.data.toList = true) (hl : z.size = x.size) :
    Calls Try.prog 13 #[.string x, .string y, .string z, .string t] w fun e w' => e = .returned (.tuple #[.int .i64 0, .string ⟨#[]⟩, .int .i64 0]) ∧ Below w.heap.size w w' := by
  have c0 := specWord_any x w (by unfold maxLen; omega)
  rw [hx] at c0
  have c1 := specWord_any y w (by unfold maxLen; omega)
  rw [hy] at c1
  have c2 := specWord_any z w (by unfold maxLen; omega)
  rw [hz] at c2
  have c3 := specWord_any t w (by unfold maxLen; omega)
  rw [ht] at c3
  clear hx
  clear hy
  clear hz
  clear ht
  go_enter Try.func13, Try.ntmps13
  go_wp2_with fail
  refine c0.mono ?_
  rintro e w' ⟨rfl, rfl⟩
  go_wp2_with fail
  refine c1.mono ?_
  rintro e w' ⟨rfl, rfl⟩
  go_wp2_with fail
  refine c2.mono ?_
  rintro e w' ⟨rfl, rfl⟩
  go_wp2_with fail
  refine c3.mono ?_
  rintro e w' ⟨rfl, rfl⟩
  go_wp2
  go_ret3
  exact ⟨rfl, Below.refl _ _⟩

theorem sizeW {u : ByteArray} (h : Wd.wordB u.data.toList = true) : u.size ≤ 60 := by
  have := Wd.wordB_len h
  simpa using this

theorem levi_both (x y z t : ByteArray) (sx : x.size ≤ maxLen) (sy : y.size ≤ maxLen) (sz : z.size ≤ maxLen) (st : t.size ≤ maxLen) :
    ∃ n s c, (∀ w, Calls Try.prog 14 #[.string x, .string y, .string z, .string t] w (fun e w' => e = .returned (.tuple #[.int .i64 n, .string s, .int .i64 c]) ∧ Below w.heap.size w w')) ∧ ∀ w, Calls Try.prog 13 #[.string x, .string y, .string z, .string t] w (fun e w' => e = .returned (.tuple #[.int .i64 n, .string s, .int .i64 c]) ∧ Below w.heap.size w w') := by
  cases h : (Wd.wordB x.data.toList && Wd.wordB y.data.toList && Wd.wordB z.data.toList && Wd.wordB t.data.toList)
  · exact ⟨_, _, _, fun w => implLevi_bad x y z t w sx sy sz st h, fun w => specLevi_bad x y z t w sx sy sz st h⟩
  · simp only [Bool.and_eq_true] at h
    obtain ⟨⟨⟨hx, hy⟩, hz⟩, ht⟩ := h
    have lx := sizeW hx
    have ly := sizeW hy
    have lz := sizeW hz
    have lt := sizeW ht
    cases he : ((x ++ y).toList == (z ++ t).toList)
    · exact ⟨_, _, _, fun w => implLevi_state x y z t w lx ly lz lt hx hy hz ht he, fun w => specLevi_state x y z t w lx ly lz lt hx hy hz ht he⟩
    · have heq : x ++ y = z ++ t := by
        have h1 : (x ++ y).toList = (z ++ t).toList := by simpa using he
        rw [ByteArray.toList_eq, ByteArray.toList_eq] at h1
        exact ByteArray.ext (Array.toList_inj.mp h1)
      rcases Nat.lt_trichotomy x.size z.size with hl | hl | hl
      · have hp := levi_pre heq.symm (Nat.le_of_lt hl)
        exact ⟨_, _, _, fun w => implLevi_two x y z t w lx ly lz lt hx hy hz ht he hp hl, fun w => specLevi_two x y z t w lx ly lz lt hx hy hz ht he hp hl⟩
      · have hp := levi_pre heq (Nat.le_of_eq hl.symm)
        exact ⟨_, _, _, fun w => implLevi_zero x y z t w lx ly lz lt hx hy hz ht he hp hl.symm, fun w => specLevi_zero x y z t w lx ly lz lt hx hy hz ht he hp hl.symm⟩
      · have hp := levi_pre heq (Nat.le_of_lt hl)
        exact ⟨_, _, _, fun w => implLevi_one x y z t w lx ly lz lt hx hy hz ht he hp hl, fun w => specLevi_one x y z t w lx ly lz lt hx hy hz ht he hp hl⟩

set_option maxHeartbeats 400000 in
theorem law_FnExactLeviParts (a0 a1 a2 a3 : ByteArray) (w : World) (w0 : a0.size ≤ maxLen) (w1 : a1.size ≤ maxLen) (w2 : a2.size ≤ maxLen) (w3 : a3.size ≤ maxLen) :
    Calls Try.prog 3 #[.string a0, .string a1, .string a2, .string a3] w fun e w' => e = .returned (.bool true) ∧ Below w.heap.size w w' := by
  obtain ⟨v1, v2, v3, h1, h2⟩ := levi_both a0 a1 a2 a3 w0 w1 w2 w3
  unfold maxLen at w0 w1 w2 w3
  go_enter Try.func3, Try.ntmps3
  have H1 := hidv h1
  have H2 := hidv h2
  clear h1 h2
  go_wp2_with (first | (go_at_call 13; refine (H2.out _).mono ?_; rintro e w1 ⟨rfl, hb1⟩) | (go_at_call 14; refine (H1.out _).mono ?_; rintro e w2 ⟨rfl, hb2⟩))
  all_goals
    go_ret
    exact ⟨rfl, by first | exact below_on hb1 hb2 | exact Below.refl _ _⟩

end Go.Proofs.Ytpjflakialomaaa
