/- RB: several texts in one (R2 RB). -/
import Derived.Test.YtnhhbbjkeekneaaDoorN3
import Derived.Test.YtnhhbbjkeekneaaDoorVA
import Derived.Test.YtnhhbbjkeekneaaDoorVH
/- R2: several texts in one. -/
/- R1: contracts of the document's answers for layer 1 that hold bytes. -/
namespace Go.Proofs.YtnhhbbjkeekneaaDoor
open Go.RowKit Go.V

/-- a fixed number's bytes -/
def fixB (n x : Nat) : List UInt8 := (List.range n).map fun i => UInt8.ofNat (x / 256 ^ (n - 1 - i) % 256)
def okN (n : Int) : Prop := n = 1 ∨ n = 2 ∨ n = 4 ∨ n = 8
instance (n : Int) : Decidable (okN n) := by unfold okN; infer_instance
def fixR (n : Int) (x : Nat) : List UInt8 := if okN n then fixB n.toNat x else []
end Go.Proofs.YtnhhbbjkeekneaaDoor
/- R2: fixed numbers put, by the program and by the document. -/
namespace Go.Proofs.YtnhhbbjkeekneaaDoor
open Go.RowKit Go.V
def fixT (n x k : Nat) : List UInt8 := (List.range k).map fun i => UInt8.ofNat (x / 256 ^ (n - 1 - i) % 256)
theorem fixT_succ (n x k : Nat) : fixT n x (k + 1) = fixT n x k ++ [UInt8.ofNat (x / 256 ^ (n - 1 - k) % 256)] := by simp [fixT, List.range_succ]
theorem okN_cases {n : Int} (h : okN n) : ∃ m : Nat, n = m ∧ (m = 1 ∨ m = 2 ∨ m = 4 ∨ m = 8) := by
  unfold okN at h
  rcases h with h | h | h | h
  · exact ⟨1, h, by omega⟩
  · exact ⟨2, h, by omega⟩
  · exact ⟨4, h, by omega⟩
  · exact ⟨8, h, by omega⟩
theorem okN_bool (n : Int) : decide (n = 1 ∨ n = 2 ∨ n = 4 ∨ n = 8) = decide (okN n) := rfl

theorem fix_byte (x j : Nat) : (x : Int) / 2 ^ (8 * j) % 256 = ((x / 256 ^ j % 256 : Nat) : Int) := by
  rw [show (2 : Int) ^ (8 * j) = ((2 ^ (8 * j) : Nat) : Int) from by push_cast; rfl, Nat.pow_mul, Int.natCast_emod, Int.natCast_ediv]
  rfl
theorem fix_push {n x k : Nat} (bs : List UInt8) : bvs (bs ++ fixT n x k) ++ [.int .u8 ((x : Int) / 2 ^ (8 * (n - 1 - k)) % 256)] = bvs (bs ++ fixT n x (k + 1)) := by
  rw [fix_byte, fixT_succ, ← List.append_assoc, bvs_snoc, byteV_of (by omega)]

set_option maxHeartbeats 400000 in
theorem putx_any (v : Value) (bs : List UInt8) (x : Nat) (n : Int) (F : Nat → Prop) (w : World) (hb : Rd w F v (bys bs)) (_hx : x < 18446744073709551616) (hl : bs.length ≤ 35184372088832) :
    Calls Tryd.prog 39 #[v, .int .u64 (x : Int), .int .i64 n] w fun e w' => ∃ v', e = .returned v' ∧ NewB w w' v' (bs ++ fixR n x) := by
  by_cases ho : okN n
  · obtain ⟨m, rfl, hm⟩ := okN_cases ho
    have hd : decide (okN (m : Int)) = true := decide_eq_true ho
    have Hr : Hid (fixR (m : Int) x = fixT m x m) := by show _ = _; unfold fixR; rw [if_pos ho]; rfl
    have hm8 : m ≤ 8 := by omega
    clear ho hm
    go_enter Tryd.func39, Tryd.ntmps39
    go_wp2_with (fail)
    refine (fsize_any _ _).mono ?_
    rintro e w0 ⟨rfl, rfl⟩
    rw [okN_bool]
    go_wp2_with (fail)
    refine (ext_i v bs _ F _ hb (by omega) (by omega)).mono ?_
    rintro e w1 ⟨v1, rfl, ho1, hB1⟩
    go_wp2
    go_loopw [7, 18] (fun v' i wr => ∃ k : Nat, k ≤ m ∧ i = .int .i64 k ∧ NewB w wr v' (bs ++ fixT m x k)) (fun _ i _ => m - (intOf i).toNat)
    case atStart => exact ⟨0, Nat.zero_le _, rfl, by simpa [fixT] using ho1, hB1⟩
    case round =>
      obtain ⟨k, hk, rfl, hown, hB⟩ := hrel
      by_cases hlt : k < m
      · have hlen : (bs ++ fixT m x k).length ≤ 35184372088840 := by simp [fixT]; omega
        go_wp2_with (refine wp_push (.tmp 21) (.tmp 29) 30 slB rfl rfl rfl rfl rfl rfl rfl rfl (by simp) rfl hown (by simp only [maxLen]; omega) (by omega) hB.size ?_)
        intro v2 w2 hO hG _
        go_wp2
        rw [fix_push] at hO
        refine ⟨⟨k + 1, by omega, by go_num, ?_, hB.grown hG hB.size (fun k hk => (hown.lt k hk).1)⟩, by simp [intOf]; omega⟩
        rw [show (bs ++ fixT m x (k + 1)).length = bs.length + (fixT m x k).length + 1 from by simp [fixT]; omega]
        exact hO
      · go_wp2
        go_ret
        have : k = m := by omega
        subst this
        exact ⟨_, rfl, by rw [Hr.out]; exact ⟨hown, hB⟩⟩
  · have hd : decide (okN n) = false := decide_eq_false ho
    have Hr : Hid (bs ++ fixR n x = bs) := by show _ = _; unfold fixR; rw [if_neg ho]; simp
    clear ho
    go_enter Tryd.func39, Tryd.ntmps39
    go_wp2_with (fail)
    refine (fsize_any _ _).mono ?_
    rintro e w0 ⟨rfl, rfl⟩
    rw [okN_bool]
    go_wp2_with (fail)
    refine (ext_i v bs _ F _ hb (by omega) (by omega)).mono ?_
    rintro e w1 ⟨v1, rfl, ho1, hB1⟩
    go_wp2
    go_ret
    exact ⟨v1, rfl, by rw [Hr.out]; exact ⟨ho1, hB1⟩⟩

end Go.Proofs.YtnhhbbjkeekneaaDoor
/- RB: contract of the document's Bytes (a digest's bytes). -/
namespace Go.Proofs.YtnhhbbjkeekneaaDoor
open Go.RowKit Go.V
end Go.Proofs.YtnhhbbjkeekneaaDoor
