/- G2: layer 11: wakes. -/
import Derived.Test.YtcechioeolokcaaGreatDoorGC
import Derived.Lib.SlBytesConst
namespace Go.V
open Go.RowKit
theorem below_chL {w a b : World} {M : Nat → Prop} (h : Below w.heap.size w a) (hc : Ch M a b) (hM : ∀ k, M k → w.heap.size ≤ k) : Below w.heap.size w b :=
  ⟨hc.os.trans h.os, hc.tape.trans h.tape, hc.output.trans h.output, Nat.le_trans h.size hc.size, fun k hk => (hc.block k (by have := h.size; omega) (fun hm => by have := hM k hm; omega)).trans (h.block k hk)⟩
theorem rdLitL (w : World) (t : TypeId) (fr : Nat × Nat) (arr : Array Value) (bs : List UInt8) (h : arr = (bvs bs).toArray) (n : Nat) (hn : bs.length = n) (hm : n ≤ maxLen) : Rd (w.alloc (.cells arr t fr)) (fun b => w.heap.size ≤ b) (.slice (some ⟨w.heap.size, 0, none⟩) n n) (bys bs) := by
  subst hn h
  unfold bys Rd
  refine ⟨_, _, rfl, Nat.le_refl _, hm, fun h0 => by rw [List.eq_nil_of_length_eq_zero h0]; rfl, fun _ => ⟨_, _, rfl, Nat.le_refl _, RdC.of_bytes fun j u hu => ?_⟩⟩
  have hh : (w.alloc (.cells (bvs bs).toArray t fr)).heap[w.heap.size]? = some (.cells (bvs bs).toArray t fr) := heap_alloc_new w _
  rw [Nat.zero_add]
  simp only [World.cell?, hh]
  simpa using hu
theorem d0L_is : (⟨roomF 100, [], [], -1, false⟩ : Dk) = d0L 100 := by rfl
theorem okP_f : okP ⟨#[102]⟩ = true := by decide +kernel
theorem f1_is : (⟨#[102]⟩ : ByteArray) ++ ⟨#[46, 49]⟩ = ⟨#[102, 46, 49]⟩ := by rfl
end Go.V
namespace Go.Proofs.YtcechioeolokcaaGreatDoor
open Go.RowKit Go.V
theorem rec_a : ∃ T : List UInt8, recF 1 [97] = [1, 1, 97] ++ T ∧ T.length = 8 := by
  have e : packed 1 ++ (packed ([97] : List UInt8).length ++ [97]) = [1, 1, 97] := by decide
  refine ⟨(shaF [1, 1, 97]).take 8, ?_, ?_⟩
  · unfold recF
    simp only [e]
  · rw [List.length_take, len_sha]; rfl
theorem LGi.bel {w0 w w' : World} {M F M' F' : Nat → Prop} (h : LGi w w' M F M' F') (hB : Below w0.heap.size w0 w) (hM : ∀ b, M b → w0.heap.size ≤ b) : Below w0.heap.size w0 w' ∧ ∀ b, M' b → w0.heap.size ≤ b :=
  ⟨⟨h.1.os.trans hB.os, h.1.tape.trans hB.tape, h.1.output.trans hB.output, Nat.le_trans hB.size h.1.size, fun k hk => (h.1.block k (by have := hB.size; omega) (fun hm => by have := hM k hm; omega)).trans (hB.block k hk)⟩,
   fun b hb => (h.2.1 b hb).elim (hM b) (fun h => by have := hB.size; omega)⟩
set_option maxRecDepth 100000 in
set_option maxHeartbeats 4000000 in
theorem wakes11_any (w : World) (hK : KX w) :
    Calls Tryz.prog 6 #[] w fun e w' => e = .returned (.bool true) ∧ Below w.heap.size w w' := by
  have kc := fun (w : World) (C : Array Value) (n c : Nat) => Lib.run_convert_bytes_const (P := Tryz.prog) w 33 5 C n c Tryz.underlying33 Tryz.underlying5
  go_enter Tryz.func6, Tryz.ntmps6
  go_wp2_with (fail)
  refine (new10_any 100 _).mono ?_
  rintro e w1 ⟨dv, M, F, rfl, hX, hB1, hMF⟩
  rw [d0L_is] at hX
  obtain ⟨xd, rfl⟩ := hX.ptr
  have hM : ∀ b, M b → w.heap.size ≤ b := fun b h => hMF b (.inl h)
  go_wp2_with (fail)
  refine (open11_new _ ⟨#[102]⟩ M F 100 _ (hK.below hB1) hX (by decide) okP_f (fun e => absurd (hM _ e) (Nat.not_le_of_lt (KS.lt hK)))).mono ?_
  rintro e w2 ⟨lv, vr, M2, F2, rfl, hvr, hL2, hi2⟩
  obtain ⟨hB2, hM2⟩ := hi2.bel hB1 hM
  obtain ⟨xl, _, rfl, _⟩ := hL2.ptr
  obtain ⟨Ar, cr, rfl, _, _⟩ := hvr.slShape
  have hbd := hL2.bd
  have hrd := rdLitL w2 5 (1, 2) #[.int .u8 97] [97] rfl 1 rfl (by simp [maxLen])
  have hrd := hrd.weak (F' := fun b => b < (w2.alloc (.cells #[.int .u8 97] 5 (1, 2))).heap.size) (fun b hb _ => hb)
  have hal : Below w2.heap.size w2 (w2.alloc (.cells #[.int .u8 97] 5 (1, 2))) := (Below.refl _ _).alloc (Nat.le_refl _) _
  have hL3 := hL2.keep (fun b hb _ => hal.block b hb) hal.size
  have hB3 := hB2.trans (hal.mono hB2.size)
  clear hX hMF hM hi2 hL2 hal hvr hB1
  go_wp2_with (fail)
  refine (append11_first _ _ _ M2 F2 _ 100 0 [97] _ _ (hK.below hB3) hL3 (by omega) hrd (fun b hb => hb) (by simp) (by decide)).mono ?_
  rintro e w4 ⟨M4, F4, D4, rfl, hi4, hL4, hf4⟩
  obtain ⟨hB4, hM4⟩ := hi4.bel hB3 hM2
  rw [f1_is] at hf4
  clear hL3 hi4 hrd hB3 hB2 hM2 hbd
  go_wp2_with (fail)
  refine (next11_any _ _ _ M4 F4 D4 [[97]] 2 _ _ hL4).mono ?_
  rintro e w5 ⟨rfl, hB5⟩
  have hL5 := hL4.keep (fun b hb _ => hB5.block b hb) hB5.size
  obtain ⟨Md, Fd, hX5, hsm⟩ := hL5.ix (by omega)
  have hB5' := hB4.trans (hB5.mono hB4.size)
  have hre := read10_any _ Md Fd D4 ⟨#[102, 46, 49]⟩ _ hX5 hsm (by unfold maxLen; decide)
  rw [hf4] at hre
  clear hL4 hB4 hB5 hL5 hX5 hf4
  go_wp2_with (fail)
  refine hre.mono ?_
  rintro e w6 ⟨vb, rfl, hvb, hB6⟩
  have hvb : Rd w6 (fun b => w5.heap.size ≤ b) vb (bys (recF 1 [97])) := hvb
  obtain ⟨T, hT, hTl⟩ := rec_a
  obtain ⟨X, hXe⟩ : ∃ X, X = recF 1 [97] := ⟨_, rfl⟩
  rw [← hXe] at hvb hT
  have hXl : X.length = 11 := by rw [hT, List.length_append, hTl]; rfl
  obtain ⟨A, c, rfl⟩ := hvb.shape
  have hsr := hvb.src
  obtain ⟨g, off, rfl, c0⟩ := hsr.2 0 (.int .u8 1) (by rw [hT]; rfl)
  obtain ⟨g1, o1, e1, c1⟩ := hsr.2 1 (.int .u8 1) (by rw [hT]; rfl)
  obtain ⟨g2, o2, e2, c2⟩ := hsr.2 2 (.int .u8 97) (by rw [hT]; rfl)
  injection e1 with e1
  injection e1 with e1 e3
  subst e1 e3
  injection e2 with e2
  injection e2 with e2 e4
  subst e2 e4
  rw [hXl]
  rw [Nat.add_zero] at c0
  have hBB := hB5'.trans (hB6.mono hB5'.size)
  clear hre hvb hT hTl hXe hXl hsr hB5' hB6
  go_wp2
  go_ret
  exact ⟨rfl, hBB⟩
end Go.Proofs.YtcechioeolokcaaGreatDoor
