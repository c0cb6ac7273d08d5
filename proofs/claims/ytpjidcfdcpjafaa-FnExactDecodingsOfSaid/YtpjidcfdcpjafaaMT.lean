/-
  The text of a mark, at any number: a contract.
-/
import Derived.Test.YtpjidcfdcpjafaaRow
import Derived.Laws.BytesArg
import Derived.Deep.RegionHeld3
namespace Go.Proofs.Ytpjidcfdcpjafaa
open Go.RowKit Go

def dig : Nat → List UInt8
  | 0 => []
  | n + 1 => dig ((n + 1) / 10) ++ [UInt8.ofNat (48 + (n + 1) % 10)]
decreasing_by omega
def mT (k : Nat) : ByteArray := ⟨#[109]⟩ ++ ⟨(dig k).toArray⟩

theorem dig_step {j : Nat} (h : 0 < j) : dig j = dig (j / 10) ++ [UInt8.ofNat (48 + j % 10)] := by
  cases j with
  | zero => omega
  | succ n => rw [dig]

theorem dig_len (k : Nat) : (dig k).length ≤ k := by
  induction k using Nat.strongRecOn with
  | _ k ih =>
    rcases Nat.eq_zero_or_pos k with rfl | h
    · rw [dig]; exact Nat.le_refl _
    · have := ih (k / 10) (by omega)
      rw [dig_step h, List.length_append, List.length_singleton]
      omega

theorem byte_conv (W : World) (y : Int) : (convert 22 9 (.slice (some ⟨W.heap.size, 0, none⟩) 1 1)).run Try.prog (W.alloc (.cells #[.int .u8 y] 5)) = .ok (.string (strOfNums [y])) (W.alloc (.cells #[.int .u8 y] 5)) :=
  run_convert_bytes_arg (W.alloc (.cells #[.int .u8 y] 5)) 22 5 Try.underlying22 Try.underlying5 W.heap.size 0 1 1 [y] rfl (fun i hi => by
    obtain rfl : i = 0 := by omega
    rw [cell_of_row _ _ _ _ _ _ (heap_alloc_new W _)]
    rfl) 9 Try.underlying9

theorem u8_digit (d : Nat) (h : d < 10) : IntKind.u8.wrap (48 + (d : Int)) = 48 + (d : Int) := by
  have h1 : ∀ x : Int, IntKind.u8.wrap x = x % 256 := fun x => by kernel_rfl
  rw [h1]
  omega

set_option maxHeartbeats 800000 in
theorem markText_any (k : Nat) (w : World) (hk : 1 ≤ k) (hk2 : k ≤ 8000000) :
    Calls Try.prog 81 #[.int .i64 (k : Int)] w fun e w' => e = .returned (.string (mT k)) ∧ Below w.heap.size w w' := by
  have hcv := byte_conv
  go_enter Try.func81, Try.ntmps81
  go_wp2
  go_loopw [0, 3] (fun i q wr => ∃ (j : Nat) (o : ByteArray), i = .int .i64 (j : Int) ∧ q = .string o ∧ j ≤ 8000000 ∧ Hid (dig j ++ o.data.toList = dig k) ∧ Hid (Below w.heap.size w wr)) (fun i _ _ => (intOf i).toNat)
  case atStart => exact ⟨k, ⟨#[]⟩, rfl, rfl, hk2, hidv (by simp), hidv (Below.refl _ _)⟩
  case round =>
    obtain ⟨j, o, rfl, rfl, hj, hd, hb⟩ := hrel
    have hos : o.size ≤ 8000000 := by
      have h1 := congrArg List.length hd.out
      have h2 := dig_len k
      have h3 : o.data.toList.length = o.size := by simp
      rw [List.length_append] at h1
      omega
    by_cases hlt : 0 < j
    · have hdg := dig_step hlt
      have hr1 : (j : Int) % 10 = ((j % 10 : Nat) : Int) := by omega
      have hr2 : (j : Int).tmod 10 = ((j % 10 : Nat) : Int) := by rw [Int.tmod_eq_emod_of_nonneg (by omega)]; omega
      have hq1 : (j : Int) / 10 = ((j / 10 : Nat) : Int) := by omega
      have hq2 : (j : Int).tdiv 10 = ((j / 10 : Nat) : Int) := by rw [Int.tdiv_eq_ediv_of_nonneg (by omega)]; omega
      have hdl : j % 10 < 10 := Nat.mod_lt _ (by omega)
      have hql : j / 10 < j := by omega
      obtain ⟨d, hd1⟩ : ∃ d, j % 10 = d := ⟨_, rfl⟩
      obtain ⟨m, hm1⟩ : ∃ m, j / 10 = m := ⟨_, rfl⟩
      rw [hd1] at hr1 hr2 hdl hdg
      rw [hm1] at hq1 hq2 hql hdg
      have hu8 := u8_digit d hdl
      have HDG := hidv hdg
      have hss : (strOfNums [48 + (d : Int)]).size = 1 := rfl
      have hsd : (strOfNums [48 + (d : Int)]).data.toList = [UInt8.ofNat (48 + d)] := by
        show [UInt8.ofNat (48 + (d : Int)).toNat] = _
        rw [show (48 + (d : Int)).toNat = 48 + d by omega]
      have HSD := hidv hsd
      clear hdg hd1 hm1 hsd
      have hb2 : Hid (Below w.heap.size w (wr.alloc (.cells #[.int .u8 (48 + (d : Int))] 5))) := hidv (hb.out.alloc hb.out.size _)
      go_wp2
      go_roundw
      case rel =>
        refine ⟨m, _, rfl, rfl, by omega, hidv ?_, hb2⟩
        rw [ByteArray.data_append, Array.toList_append, HSD.out, ← List.append_assoc, ← HDG.out]
        exact hd.out
      case measure => simp [intOf]; omega
    · obtain rfl : j = 0 := by omega
      have he : (⟨#[109]⟩ : ByteArray) ++ o = mT k := by
        unfold mT
        rw [← hd.out, show dig 0 = [] by rw [dig], List.nil_append]
      go_wp2
      go_ret
      exact ⟨by rw [← he]; rfl, hb.out⟩


end Go.Proofs.Ytpjidcfdcpjafaa
