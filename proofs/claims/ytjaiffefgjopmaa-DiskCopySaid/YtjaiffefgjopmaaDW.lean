/- DW: layer 10: wakes. -/
import Derived.Test.YtjaiffefgjopmaaDS
namespace Go.V
open Go.RowKit
def fW : ByteArray := ⟨#[102]⟩
def aW1 : Ac := ⟨0, fW, ByteArray.empty, [1], 0, 0, 0, 0⟩
def aW2 : Ac := ⟨0, fW, ByteArray.empty, [2], 0, 0, 0, 0⟩
def aWs : Ac := ⟨4, ByteArray.empty, ByteArray.empty, [], 0, 0, 0, 0⟩
def aWc : Ac := ⟨5, ByteArray.empty, ByteArray.empty, [], 0, -1, 0, 0⟩
def dW0 : Dk := ⟨9, [], [], -1, false⟩
def dW1 : Dk := ⟨9, [], [aW1], -1, false⟩
def dW2 : Dk := ⟨9, [⟨fW, [1]⟩], [], -1, false⟩
def dW3 : Dk := ⟨9, [⟨fW, [1]⟩], [aW2], -1, false⟩
theorem dW_0 : (⟨roomF 9, [], [], -1, false⟩ : Dk) = dW0 := by rfl
theorem dW_1 : doF dW0 aW1 = (dW1, 0) := by rfl
theorem dW_2 : doF dW1 aWs = (dW2, 0) := by rfl
theorem dW_3 : doF dW2 aW2 = (dW3, 0) := by rfl
theorem dW_4 : doF dW3 aWc = (dW2, 0) := by rfl
theorem dW_f : findF (nowF dW2) fW = some [1] := by rfl
theorem sm_W (a : Ac) (h1 : a.b.length ≤ 1) (h2 : a.keep = 0) (h3 : a.cut = 0) (h4 : a.m = 0) (h5 : a.n.size ≤ 1) (h6 : a.t.size ≤ 1) : AcSm a := ⟨by omega, by omega, by omega, by omega, by unfold maxLen; omega, by unfold maxLen; omega⟩
theorem dk_W0 : DkSm dW0 := ⟨by decide, by decide, by decide, by decide⟩
theorem dk_W1 : DkSm dW1 := ⟨by decide, by decide, by decide, by decide⟩
theorem dk_W2 : DkSm dW2 := ⟨by decide, by decide, by decide, by decide⟩
theorem dk_W3 : DkSm dW3 := ⟨by decide, by decide, by decide, by decide⟩
theorem below_chM {B : Nat} {w a b : World} {M : Nat → Prop} (h : Below B w a) (hc : Ch M a b) (hM : ∀ k, M k → B ≤ k) (hB : B ≤ w.heap.size) : Below B w b :=
  ⟨hc.os.trans h.os, hc.tape.trans h.tape, hc.output.trans h.output, Nat.le_trans h.size hc.size, fun k hk => (hc.block k (by have := h.size; omega) (fun hm => by have := hM k hm; omega)).trans (h.block k hk)⟩
end Go.V
namespace Go.Proofs.Ytjaiffefgjopmaa
open Go.RowKit Go.V
theorem bldPl (x : Int) : ∀ W : World, (Instr.build 32 #[(1, .int .i64 x)]).run Try.prog W = .ok (.agg #[.int .u64 0, .int .i64 x, .int .i64 0]) W := fun _ => by kernel_rfl
set_option maxRecDepth 100000 in
set_option maxHeartbeats 4000000 in
theorem wakes10_any (w : World) :
    Calls Try.prog 9 #[] w fun e w' => e = .returned (.bool true) ∧ Below w.heap.size w w' := by
  go_enter Try.func9, Try.ntmps9
  go_wp2_with (fail)
  refine (new10_any 9 _).mono ?_
  rintro e w1 ⟨v, M, F, rfl, hX, hB1, hF⟩
  rw [dW_0] at hX
  obtain ⟨x, rfl⟩ := hX.ptr
  have hM : ∀ b, M b → w.heap.size ≤ b := fun b h => hF b (.inl h)
  have hs1 := hB1.size
  clear hF
  go_wp2_with (refine wp_bsl slB (.const (.int .u8 1)) rfl rfl (u := byteV 1) rfl rfl ?_; intro w2 hb2 hB2; refine wp_stop ?_)
  have hr2 := rd_one (F := fun b => w1.heap.size ≤ b) hb2 (Nat.le_refl _)
  have hX2 := hX.keep (fun b hb _ => hB2.block b hb) hB2.size
  have hBa := hB1.trans (hB2.mono hs1)
  have hbd := hX.bd
  obtain ⟨g1, hg1⟩ : ∃ g, g = w1.heap.size := ⟨_, rfl⟩
  rw [← hg1] at hr2 hbd ⊢
  clear hg1 hB1 hB2 hb2 hX hs1
  refine wp_go ?_
  go_wp2_with (fail)
  refine (append10_any _ M F (fun b => g1 ≤ b) dW0 aW1 _ _ hX2 dk_W0 (sm_W _ (by decide) rfl rfl rfl (by decide) (by decide)) rfl hr2 (fun b hb hm => by have := hbd b (.inl hm); omega)).mono ?_
  rintro e w3 ⟨rfl, M3, F3, hX3, hC3, hM3, -⟩
  rw [dW_1] at hX3 ⊢
  have hB3 := below_chM hBa hC3 hM (Nat.le_refl _)
  have hN3 : ∀ b, M3 b → w.heap.size ≤ b := fun b h => (hM3 b h).elim (hM b) (fun h => by have := hBa.size; omega)
  clear hX2 hC3 hM3 hM hBa hr2 hbd
  go_wp2_with (fail)
  refine (sync10_any _ M3 F3 dW1 aWs _ hX3 dk_W1 rfl).mono ?_
  rintro e w4 ⟨rfl, M4, F4, hX4, hC4, hM4, -⟩
  rw [dW_2] at hX4
  have hB4 := below_chM hB3 hC4 hN3 (Nat.le_refl _)
  have hN4 : ∀ b, M4 b → w.heap.size ≤ b := fun b h => (hM4 b h).elim (hN3 b) (fun h => by have := hB3.size; omega)
  clear hX3 hC4 hM4 hN3 hB3
  go_wp2_with (refine wp_bsl slB (.const (.int .u8 2)) rfl rfl (u := byteV 2) rfl rfl ?_; intro w5 hb5 hB5; refine wp_stop ?_)
  have hr5 := rd_one (F := fun b => w4.heap.size ≤ b) hb5 (Nat.le_refl _)
  have hX5 := hX4.keep (fun b hb _ => hB5.block b hb) hB5.size
  have hBb := hB4.trans (hB5.mono hB4.size)
  have hbd := hX4.bd
  obtain ⟨g4, hg4⟩ : ∃ g, g = w4.heap.size := ⟨_, rfl⟩
  rw [← hg4] at hr5 hbd ⊢
  clear hg4 hB4 hB5 hb5 hX4
  refine wp_go ?_
  go_wp2_with (fail)
  refine (append10_any _ M4 F4 (fun b => g4 ≤ b) dW2 aW2 _ _ hX5 dk_W2 (sm_W _ (by decide) rfl rfl rfl (by decide) (by decide)) rfl hr5 (fun b hb hm => by have := hbd b (.inl hm); omega)).mono ?_
  rintro e w6 ⟨rfl, M6, F6, hX6, hC6, hM6, -⟩
  rw [dW_3] at hX6
  have hB6 := below_chM hBb hC6 hN4 (Nat.le_refl _)
  have hN6 : ∀ b, M6 b → w.heap.size ≤ b := fun b h => (hM6 b h).elim (hN4 b) (fun h => by have := hBb.size; omega)
  clear hX5 hC6 hM6 hN4 hBb hr5 hbd
  go_wp2_with (refine wp_bld 32 [(1, .const (.int .i64 (-1)))] rfl rfl [(1, .int .i64 (-1))] rfl (bldPl _) ?_)
  refine (crash10_any _ M6 F6 dW3 aWc _ hX6 dk_W3 (sm_W _ (by decide) rfl rfl rfl (by decide) (by decide)) rfl).mono ?_
  rintro e w7 ⟨rfl, M7, F7, hX7, hC7, hM7, -⟩
  rw [dW_4] at hX7
  have hB7 := below_chM hB6 hC7 hN6 (Nat.le_refl _)
  clear hX6 hC7 hM7 hN6 hB6
  go_wp2_with (fail)
  refine (read10_any _ M7 F7 dW2 fW _ hX7 dk_W2 (by unfold maxLen; decide)).mono ?_
  rintro e w8 ⟨vb, rfl, hvb, hB8⟩
  rw [dW_f] at hvb ⊢
  have hX8 := hX7.keep (fun b hb _ => hB8.block b hb) hB8.size
  have hB8' := hB7.trans (hB8.mono hB7.size)
  have hvb : Rd w8 (fun b => w7.heap.size ≤ b) vb (bys [1]) := hvb
  obtain ⟨Ab, cb, rfl⟩ := hvb.shape
  clear hX7 hB7 hB8
  have hr9 := rdLit w8 5 (0, 0) #[.int .u8 1] [1] rfl 1 rfl (by simp [maxLen])
  have hB9 : Below w.heap.size w (w8.alloc (.cells #[.int .u8 1] 5 (0, 0))) := hB8'.alloc hB8'.size _
  have hal : Below w8.heap.size w8 (w8.alloc (.cells #[.int .u8 1] 5 (0, 0))) := (Below.refl _ _).alloc (Nat.le_refl _) _
  have hX9 := hX8.keep (fun b hb _ => hal.block b hb) hal.size
  have hv9 := hvb.below hal
  go_wp2_with (fail)
  refine (same_b _ _ [1] [1] _ _ _ hv9 hr9).mono ?_
  rintro e w10 ⟨rfl, hB10⟩
  rw [decide_eq_true rfl]
  have hX10 := hX9.keep (fun b hb _ => hB10.block b hb) hB10.size
  have hBc := hB9.trans (hB10.mono hB9.size)
  clear hX9 hX8 hB9 hB10 hv9 hr9 hvb hB8' hal
  go_wp2_with (fail)
  refine (pending10_any _ M7 F7 dW2 _ hX10 dk_W2).mono ?_
  rintro e w11 ⟨rfl, hB11⟩
  have hBd := hBc.trans (hB11.mono hBc.size)
  have hp0 : ((dW2.pend.length : Int) == 0) = true := rfl
  clear hX10 hBc hB11
  go_wp2
  go_ret
  exact ⟨rfl, hBd⟩
end Go.Proofs.Ytjaiffefgjopmaa
