/- I9: layer 12: SnapsHalf. -/
import Derived.Test.YtijhicfegbaadaaDoorI8
namespace Go.V
open Go.RowKit
def stN : ByteArray := ⟨#[115, 116, 97, 116, 101]⟩
theorem nm_st : named12 stN = true := by decide +kernel
theorem st_new : stN ++ newN = ⟨#[115, 116, 97, 116, 101, 46, 110, 101, 119]⟩ := by rfl
theorem snC_sm {keep : Nat} {torn cut : Int} (hk : keep < 18446744073709551616) (hc : -9223372036854775808 ≤ cut ∧ cut ≤ 9223372036854775807) : AcSm (snC keep torn cut) := ⟨Nat.zero_le _, hk, hc, (show (-9223372036854775808 : Int) ≤ 0 ∧ (0 : Int) ≤ 9223372036854775807 by decide), by show (0 : Nat) ≤ maxLen; simp [maxLen], by show (0 : Nat) ≤ maxLen; simp [maxLen]⟩
theorem snR_sm : AcSm (snR ⟨#[115, 116, 97, 116, 101, 46, 110, 101, 119]⟩ stN) := ⟨Nat.zero_le _, (show (0 : Nat) < 18446744073709551616 by decide), (show (-9223372036854775808 : Int) ≤ 0 ∧ (0 : Int) ≤ 9223372036854775807 by decide), (show (-9223372036854775808 : Int) ≤ 0 ∧ (0 : Int) ≤ 9223372036854775807 by decide), by show (9 : Nat) ≤ maxLen; simp [maxLen], by show (5 : Nat) ≤ maxLen; simp [maxLen]⟩
theorem doC (d : Dk) (keep : Nat) (torn cut : Int) : doF d (snC keep torn cut) = (crashF d keep torn cut, 0) := by
  unfold doF
  rw [if_neg (show ¬ (snC keep torn cut).k = 4 from by show ¬ (5 : Int) = 4; omega), if_pos (show (snC keep torn cut).k = 5 from rfl)]
  rfl
theorem sn_crash {d : Dk} {c T : Nat} (hu : uq d.syn) (hr : 0 ≤ d.room ∧ d.room ≤ 1048576) (hn : d.syn.length + d.pend.length ≤ c) (ht : tot d.syn + totA d.pend ≤ T) (keep : Nat) (torn cut : Int) : SN (crashF d keep torn cut) c T (fun x => findF (crF keep torn cut 0 d.syn d.pend) x) := by
  obtain ⟨h1, h2⟩ := cr_bd keep torn cut d.pend 0 d.syn
  exact ⟨uq_cr keep torn cut d.pend 0 hu, ⟨rfl, rfl⟩, rfl, fun _ => rfl, hr, by show (crF keep torn cut 0 d.syn d.pend).length ≤ c; omega, by show tot (crF keep torn cut 0 d.syn d.pend) ≤ T; omega⟩
theorem half_all {D : Dk} {c T : Nat} {fl : ByteArray → Option (List UInt8)} (h : SN D c T fl) {n : ByteArray} {b : List UInt8} (hn : named12 n = true) (hc : c ≤ 50000) (hT : T ≤ 50000000) (hb : b.length ≤ 1000000) (keep : Nat) (torn cut : Int) :
    (DkSm { D with pend := [snW (n ++ newN) b] } ∧ SN (crashF { D with pend := [snW (n ++ newN) b] } keep torn cut) (c + 3) (T + b.length) (fun x => findF (crashF { D with pend := [snW (n ++ newN) b] } keep torn cut).syn x) ∧ findF (crashF { D with pend := [snW (n ++ newN) b] } keep torn cut).syn n = fl n) ∧
    (DkSm { D with syn := doneF D.syn (snW (n ++ newN) b) } ∧ DkSm { D with syn := doneF D.syn (snW (n ++ newN) b), pend := [snR (n ++ newN) n] } ∧ SN (crashF { D with syn := doneF D.syn (snW (n ++ newN) b), pend := [snR (n ++ newN) n] } keep torn cut) (c + 3) (T + b.length) (fun x => findF (crashF { D with syn := doneF D.syn (snW (n ++ newN) b), pend := [snR (n ++ newN) n] } keep torn cut).syn x) ∧ (findF (crashF { D with syn := doneF D.syn (snW (n ++ newN) b), pend := [snR (n ++ newN) n] } keep torn cut).syn n = fl n ∨ findF (crashF { D with syn := doneF D.syn (snW (n ++ newN) b), pend := [snR (n ++ newN) n] } keep torn cut).syn n = some b)) ∧
    DkSm { D with syn := doneF (doneF D.syn (snW (n ++ newN) b)) (snR (n ++ newN) n) } ∧ SN (crashF { D with syn := doneF (doneF D.syn (snW (n ++ newN) b)) (snR (n ++ newN) n) } keep torn cut) (c + 3) (T + b.length) (fun x => findF (crashF { D with syn := doneF (doneF D.syn (snW (n ++ newN) b)) (snR (n ++ newN) n) } keep torn cut).syn x) ∧ findF (crashF { D with syn := doneF (doneF D.syn (snW (n ++ newN) b)) (snR (n ++ newN) n) } keep torn cut).syn n = some b := by
  have e1 : (snW (n ++ newN) b).b.length = b.length := rfl
  have e2 : (snR (n ++ newN) n).b.length = 0 := rfl
  have l1 := done_len D.syn (snW (n ++ newN) b)
  have l2 := done_len (doneF D.syn (snW (n ++ newN) b)) (snR (n ++ newN) n)
  have t1 := done_tot D.syn (snW (n ++ newN) b)
  have t2 := done_tot (doneF D.syn (snW (n ++ newN) b)) (snR (n ++ newN) n)
  have hn0 := h.n
  have ht0 := h.t
  have he := h.e
  have hf := h.cm.1
  have hrm := h.r
  have hne : n ≠ n ++ newN := fun e => new_name n e.symm
  have hnz : n ≠ ByteArray.empty := fun e => by have := (named_size hn).1; rw [e] at this; simp at this
  have hfl : ∀ x, findF D.syn x = fl x := h.fs
  refine ⟨⟨⟨?_, ?_, ⟨hrm.1, by show D.room ≤ _; omega⟩, by show _ ≤ D.fuse ∧ D.fuse ≤ _; omega⟩, ?_, ?_⟩, ⟨⟨?_, ?_, ⟨hrm.1, by show D.room ≤ _; omega⟩, by show _ ≤ D.fuse ∧ D.fuse ≤ _; omega⟩, ⟨?_, ?_, ⟨hrm.1, by show D.room ≤ _; omega⟩, by show _ ≤ D.fuse ∧ D.fuse ≤ _; omega⟩, ?_, ?_⟩, ⟨?_, ?_, ⟨hrm.1, by show D.room ≤ _; omega⟩, by show _ ≤ D.fuse ∧ D.fuse ≤ _; omega⟩, ?_, ?_⟩
  · show D.syn.length + 1 ≤ _; omega
  · show tot D.syn + totA [snW (n ++ newN) b] ≤ _; rw [totA_one]; omega
  · exact sn_crash (d := { D with pend := [snW (n ++ newN) b] }) h.u hrm (by show D.syn.length + 1 ≤ _; omega) (by show tot D.syn + totA [snW (n ++ newN) b] ≤ _; rw [totA_one]; omega) keep torn cut
  · show findF (crF keep torn cut 0 D.syn [snW (n ++ newN) b]) n = fl n
    rw [find_cr keep torn cut n [snW (n ++ newN) b] 0 D.syn (fun a ha => by
      rw [List.mem_singleton] at ha
      subst ha
      exact ⟨hne, hnz⟩), hfl]
  · show (doneF D.syn (snW (n ++ newN) b)).length + D.pend.length ≤ _; rw [he]; simp; omega
  · show tot (doneF D.syn (snW (n ++ newN) b)) + totA D.pend ≤ _; rw [he]; unfold totA; simp; omega
  · show (doneF D.syn (snW (n ++ newN) b)).length + 1 ≤ _; omega
  · show tot (doneF D.syn (snW (n ++ newN) b)) + totA [snR (n ++ newN) n] ≤ _; rw [totA_one]; omega
  · exact sn_crash (d := { D with syn := doneF D.syn (snW (n ++ newN) b), pend := [snR (n ++ newN) n] }) (uq_done h.u (snW (n ++ newN) b)) hrm (by show (doneF D.syn (snW (n ++ newN) b)).length + 1 ≤ _; omega) (by show tot (doneF D.syn (snW (n ++ newN) b)) + totA [snR (n ++ newN) n] ≤ _; rw [totA_one]; omega) keep torn cut
  · show findF (crS keep torn cut (doneF D.syn (snW (n ++ newN) b)) 0 (snR (n ++ newN) n)) n = fl n ∨ findF (crS keep torn cut (doneF D.syn (snW (n ++ newN) b)) 0 (snR (n ++ newN) n)) n = some b
    unfold crS
    rw [if_neg (fun e => by have e : (2 : Int) ≤ 1 := e.2; omega)]
    split
    · right
      rw [ren_find h.u, if_pos rfl]
    · left
      rw [find_done _ _ _ hne hnz, hfl]
  · show (doneF (doneF D.syn (snW (n ++ newN) b)) (snR (n ++ newN) n)).length + D.pend.length ≤ _; rw [he]; simp; omega
  · show tot (doneF (doneF D.syn (snW (n ++ newN) b)) (snR (n ++ newN) n)) + totA D.pend ≤ _; rw [he]; unfold totA; simp; omega
  · exact sn_crash (d := { D with syn := doneF (doneF D.syn (snW (n ++ newN) b)) (snR (n ++ newN) n) }) (uq_done (uq_done h.u (snW (n ++ newN) b)) (snR (n ++ newN) n)) hrm (by show (doneF (doneF D.syn (snW (n ++ newN) b)) (snR (n ++ newN) n)).length + D.pend.length ≤ _; rw [he]; simp; omega) (by show tot (doneF (doneF D.syn (snW (n ++ newN) b)) (snR (n ++ newN) n)) + totA D.pend ≤ _; rw [he]; unfold totA; simp; omega) keep torn cut
  · show findF (crF keep torn cut 0 (doneF (doneF D.syn (snW (n ++ newN) b)) (snR (n ++ newN) n)) D.pend) n = some b
    rw [he]
    show findF (doneF (doneF D.syn (snW (n ++ newN) b)) (snR (n ++ newN) n)) n = some b
    rw [ren_find h.u, if_pos rfl]
end Go.V
namespace Go.Proofs.YtijhicfegbaadaaDoor
open Go.RowKit Go.V
set_option maxRecDepth 100000 in
set_option maxHeartbeats 16000000 in
theorem snapsHalf_law (a b : List UInt8) (keep : Nat) (torn cut : Int) (va vb : Value) (F G : Nat → Prop) (w : World) (hK : KS w) (hkp : keep < 18446744073709551616) (hcu : -9223372036854775808 ≤ cut ∧ cut ≤ 9223372036854775807) (ha : Rd w F va (bys a)) (hb : Rd w G vb (bys b)) :
    Calls Tryd.prog 6 #[va, vb, .agg #[.int .u64 (keep : Int), .int .i64 torn, .int .i64 cut]] w fun e w' => e = .returned (.bool true) ∧ Below w.heap.size w w' := by
  obtain ⟨Aa, ca, rfl⟩ := ha.shape
  obtain ⟨Ab, cb, rfl⟩ := hb.shape
  have hB00 : Below w.heap.size w (w.alloc (.cells #[.int .u64 (keep : Int), .int .i64 torn, .int .i64 cut] 45)) := (Below.refl _ _).alloc (Nat.le_refl _) _
  have bp := Blk.new' w 45 [.int .u64 (keep : Int), .int .i64 torn, .int .i64 cut]
  go_enter Tryd.func6, Tryd.ntmps6
  go_wp2_with (fail)
  obtain ⟨w0, hw0⟩ : ∃ w0, w0 = w.alloc (.cells #[.int .u64 (keep : Int), .int .i64 torn, .int .i64 cut] 45) := ⟨_, rfl⟩
  obtain ⟨gp, hgp⟩ : ∃ g, g = w.heap.size := ⟨_, rfl⟩
  have bp : Blk w0 gp 45 [.int .u64 (keep : Int), .int .i64 torn, .int .i64 cut] := by rw [hw0, hgp]; exact bp
  rw [← hw0] at hB00 ⊢
  rw [← hgp]
  have ha := ha.below hB00
  have hb := hb.below hB00
  have K0 : KS w0 := hK.below hB00
  have hw00 := hB00.size
  have hgl := bp.lt
  clear hw0 hgp hK
  have HK := hid K0
  refine (wakes12_any _ K0).mono ?_
  rintro e w1 ⟨rfl, hB1⟩
  by_cases hla : a.length ≤ 1000
  case neg =>
    have h1 : (1000 : Int) < (a.length : Int) := by omega
    go_wp2
    go_ret
    exact ⟨rfl, hB00.trans (hB1.mono hw00)⟩
  have h1 : ¬ (1000 : Int) < (a.length : Int) := by omega
  by_cases hlb : b.length ≤ 1000
  case neg =>
    have h2 : (1000 : Int) < (b.length : Int) := by omega
    go_wp2
    go_ret
    exact ⟨rfl, hB00.trans (hB1.mono hw00)⟩
  have h2 : ¬ (1000 : Int) < (b.length : Int) := by omega
  have hta := told_bd a
  have htb := told_bd b
  clear K0
  go_wp2
  go_loopw [21] (fun iv wr => ∃ i : Nat, i ≤ 3 ∧ iv = .int .i64 i ∧ Below w0.heap.size w0 wr) (fun iv _ => 3 - (intOf iv).toNat)
  case atStart => exact ⟨0, by omega, rfl, hB1⟩
  case round =>
    clear hB1
    obtain ⟨i, hi, rfl, hB1⟩ := hrel
    by_cases hlt : i < 3
    case neg =>
      have hI : ¬ (i : Int) < 3 := by omega
      go_wp2
      go_ret
      exact ⟨rfl, hB00.trans (hB1.mono hw00)⟩
    have hI3 : (i : Int) < 3 := by omega
    have hin1 : IntKind.i64.wrap ((i : Int) + 1) = (i : Int) + 1 := IntWalk.i64_in _ (by omega)
    go_wp2_with (fail)
    refine (new12 65536 w0 _ hB1).mono ?_
    rintro e w2 ⟨xd, M, F0, rfl, hQ, hB2⟩
    rw [show (⟨roomF 65536, [], [], -1, false⟩ : Dk) = dN 65536 from by rfl] at hQ
    have hS : SN (dN 65536) 0 0 (fun _ => none) := SN.new 65536 (by omega)
    clear hB2 hB1
    go_wp2_with (fail)
    refine (save12_ok w0 _ M F0 _ _ 0 0 _ stN a _ _ HK.out hQ hS (by omega) (by omega) nm_st (by omega) (by show ((0 : Nat) : Int) + (toldF a).length ≤ 65536; omega) (hQ.rd ha) (fun y e e2 => by have e : y < w0.heap.size := e; have := hQ.M y e2; omega)).mono ?_
    rintro e w3 ⟨rfl, M3, F3, D3, hQ3, hS3, hr3, _⟩
    have hr3 : D3.room = 65536 := hr3
    clear hQ hS
    have hfa : updF (fun _ => none) stN (toldF a) stN = some (toldF a) := upd_same _ _ _
    go_wp2_with (fail)
    refine (told12_any _ b _ _ (hQ3.rd hb) (by omega)).mono ?_
    rintro e w4 ⟨v4, rfl, ho4, hB4⟩
    have hQ4 := hQ3.below hB4
    have hM3 : ∀ y, M3 y → y < w3.heap.size := fun y e => hQ3.i.bd y (.inl e)
    have hr4 := Rd.of_own ho4
    obtain ⟨A4, c4, rfl⟩ := own_shape ho4
    have hfit := hS3.fits (n := stN) (b := toldF b) (by rw [hr3]; omega)
    obtain ⟨s1, s2, s3, s4⟩ := hS3.steps nm_st hfit
    obtain ⟨⟨m1, x1, y1⟩, ⟨m2, m3, x3, y3⟩, m4, x4, y4⟩ := half_all hS3 (n := stN) (b := toldF b) nm_st (by omega) (by omega) (by omega) keep torn cut
    rw [hfa] at y1 y3
    rw [st_new] at s1 s2 s3 s4 m1 x1 y1 m2 m3 x3 y3 m4 x4 y4
    have hwr := write10_any _ M3 F3 _ D3 (snW ⟨#[115, 116, 97, 116, 101, 46, 110, 101, 119]⟩ (toldF b)) _ _ hQ4.i (hS3.sm (by omega) (by omega)) (snW_sm (by decide) (by omega)) rfl hr4 (fun y e e2 => by have e : w3.heap.size ≤ y := e; have := hM3 y e2; omega)
    rw [s1] at hwr
    have Hwr := hid hwr
    clear hwr hQ3 ho4 hr4 hB4 hM3 s1 hfa hfit
    go_wp2_with (fail)
    refine Hwr.out.mono ?_
    rintro e w5 ⟨rfl, hp⟩
    obtain ⟨M5, F5, hQ5, _⟩ := hQ4.mk' hp
    obtain ⟨d1, hd1⟩ : ∃ d, d = ({ D3 with pend := [snW ⟨#[115, 116, 97, 116, 101, 46, 110, 101, 119]⟩ (toldF b)] } : Dk) := ⟨_, rfl⟩
    obtain ⟨d2, hd2⟩ : ∃ d, d = ({ D3 with syn := doneF D3.syn (snW ⟨#[115, 116, 97, 116, 101, 46, 110, 101, 119]⟩ (toldF b)) } : Dk) := ⟨_, rfl⟩
    obtain ⟨d3, hd3⟩ : ∃ d, d = ({ D3 with syn := doneF D3.syn (snW ⟨#[115, 116, 97, 116, 101, 46, 110, 101, 119]⟩ (toldF b)), pend := [snR ⟨#[115, 116, 97, 116, 101, 46, 110, 101, 119]⟩ stN] } : Dk) := ⟨_, rfl⟩
    obtain ⟨d4, hd4⟩ : ∃ d, d = ({ D3 with syn := doneF (doneF D3.syn (snW ⟨#[115, 116, 97, 116, 101, 46, 110, 101, 119]⟩ (toldF b))) (snR ⟨#[115, 116, 97, 116, 101, 46, 110, 101, 119]⟩ stN) } : Dk) := ⟨_, rfl⟩
    have hQ5 : QX w0 w5 (.pointer (some ⟨xd, 0, none⟩)) M5 F5 d1 := by rw [hd1]; exact hQ5
    rw [← hd1] at s2 m1 x1 y1
    rw [← hd2] at s2 s3 m2
    rw [← hd3] at s3 s4 m3 x3 y3
    rw [← hd4] at s4 m4 x4 y4
    have hr1 : d1.room = 65536 := by rw [hd1]; exact hr3
    have hr3' : d3.room = 65536 := by rw [hd3]; exact hr3
    have hr4' : d4.room = 65536 := by rw [hd4]; exact hr3
    clear hp hQ4 Hwr hS3 hd1 hd2 hd3 hd4
    by_cases hi0 : i = 0
    case pos =>
      have t0 : ¬ (0 : Int) < (i : Int) := by omega
      have t1 : ¬ (1 : Int) < (i : Int) := by omega
      have t2 : ((i : Int) == 2) = false := beq_eq_false_iff_ne.2 (by omega)
      clear s2 s3 s4 m2 m3 x3 y3 m4 x4 y4
      have bp5 := bp.keep (hQ5.B.block gp hgl)
      have c0 := bp5.cellAt 0 _ rfl
      have c1 := bp5.cellAt 1 _ rfl
      have c2 := bp5.cellAt 2 _ rfl
      have hcr := crash10_any _ M5 F5 d1 (snC keep torn cut) _ hQ5.i m1 (snC_sm hkp hcu) rfl
      rw [doC] at hcr
      have Hcr := hid hcr
      clear hcr bp5
      go_wp2_with (fail)
      refine Hcr.out.mono ?_
      rintro e w9 ⟨rfl, hp⟩
      obtain ⟨M9, F9, hQ9, _⟩ := hQ5.mk' hp
      obtain ⟨d9, hd9⟩ : ∃ d, d = crashF d1 keep torn cut := ⟨_, rfl⟩
      have hQ9 : QX w0 w9 (.pointer (some ⟨xd, 0, none⟩)) M9 F9 d9 := by rw [hd9]; exact hQ9
      clear hp Hcr c0 c1 c2 hQ5
      have hx := x1
      have hf := y1
      have hrm9 : d9.room = 65536 := by rw [hd9]; exact hr1
      rw [← hd9] at hx hf
      clear hd9 x1 y1
      have hl := load12_ok w0 _ M9 F9 d9 stN (some (toldF a)) w9 HK.out hQ9 (hx.sm (by omega) (by omega)) hx.cm.2 (by decide) (by rw [hx.now]; exact hf) (fun x e => by injection e with e; rw [← e]; omega)
      rw [load_told nm_st (by omega)] at hl
      have Hl := hid hl
      clear hl
      go_wp2_with (fail)
      refine Hl.out.mono ?_
      rintro e w10 ⟨vt, rfl, hvt, hB10⟩
      obtain ⟨At, ct, rfl⟩ := hvt.shape
      have hQ10 := hQ9.below hB10
      have hv10 := hvt.weak (F' := fun _ => True) (fun _ _ _ => trivial)
      clear hvt Hl hB10
      go_wp2_with (fail)
      refine (same_b _ _ a a _ _ _ hv10 (hQ10.rd ha)).mono ?_
      rw [decide_eq_true rfl]
      rintro e w11 ⟨rfl, hB11⟩
      have hv10 := hv10.below hB11
      have hQ10 := hQ10.below hB11
      clear hB11
      clear hv10
      go_wp2_with (fail)
      refine (save12_ok w0 _ M9 F9 _ d9 _ _ _ stN b _ _ HK.out hQ10 hx (by omega) (by omega) nm_st (by omega) (by rw [hrm9]; omega) (hQ10.rd hb) (fun y e e2 => by have e : y < w0.heap.size := e; have := hQ10.M y e2; omega)).mono ?_
      rintro e w12 ⟨rfl, M12, F12, D12, hQ12, _, _, _⟩
      go_wp2
      go_roundw
      case rel => exact ⟨i + 1, by omega, by go_num, hQ12.B⟩
      case measure => simp [intOf]; omega
    have t0 : (0 : Int) < (i : Int) := by omega
    have hsy := sync10_any _ M5 F5 d1 snS _ hQ5.i m1 rfl
    rw [s2] at hsy
    have Hsy := hid hsy
    clear hsy
    go_wp2_with (fail)
    refine Hsy.out.mono ?_
    rintro e w6 ⟨rfl, hp⟩
    obtain ⟨M6, F6, hQ6, _⟩ := hQ5.mk' hp
    have hrn := rename10_any _ M6 F6 d2 (snR ⟨#[115, 116, 97, 116, 101, 46, 110, 101, 119]⟩ stN) _ hQ6.i m2 snR_sm rfl
    rw [s3] at hrn
    have Hrn := hid hrn
    clear hrn hp Hsy hQ5
    go_wp2_with (fail)
    refine Hrn.out.mono ?_
    rintro e w7 ⟨rfl, hp⟩
    obtain ⟨M7, F7, hQ7, _⟩ := hQ6.mk' hp
    have hQ7 : QX w0 w7 (.pointer (some ⟨xd, 0, none⟩)) M7 F7 d3 := hQ7
    clear hp Hrn hQ6 s2 s3
    by_cases hi1 : i = 1
    case pos =>
      have t1 : ¬ (1 : Int) < (i : Int) := by omega
      have t2 : ((i : Int) == 2) = false := beq_eq_false_iff_ne.2 (by omega)
      clear s4 x1 y1 m4 x4 y4
      have bp5 := bp.keep (hQ7.B.block gp hgl)
      have c0 := bp5.cellAt 0 _ rfl
      have c1 := bp5.cellAt 1 _ rfl
      have c2 := bp5.cellAt 2 _ rfl
      have hcr := crash10_any _ M7 F7 d3 (snC keep torn cut) _ hQ7.i m3 (snC_sm hkp hcu) rfl
      rw [doC] at hcr
      have Hcr := hid hcr
      clear hcr bp5
      go_wp2_with (fail)
      refine Hcr.out.mono ?_
      rintro e w9 ⟨rfl, hp⟩
      obtain ⟨M9, F9, hQ9, _⟩ := hQ7.mk' hp
      obtain ⟨d9, hd9⟩ : ∃ d, d = crashF d3 keep torn cut := ⟨_, rfl⟩
      have hQ9 : QX w0 w9 (.pointer (some ⟨xd, 0, none⟩)) M9 F9 d9 := by rw [hd9]; exact hQ9
      clear hp Hcr c0 c1 c2 hQ7
      have hx := x3
      have hf2 := y3
      have hrm9 : d9.room = 65536 := by rw [hd9]; exact hr3'
      rw [← hd9] at hx hf2
      clear hd9 x3 y3
      by_cases hab : b = a
      case pos =>
        have hf : findF d9.syn stN = some (toldF a) := by rcases hf2 with h | h; exact h; rw [h, hab]
        clear hf2 hab
        have hl := load12_ok w0 _ M9 F9 d9 stN (some (toldF a)) w9 HK.out hQ9 (hx.sm (by omega) (by omega)) hx.cm.2 (by decide) (by rw [hx.now]; exact hf) (fun x e => by injection e with e; rw [← e]; omega)
        rw [load_told nm_st (by omega)] at hl
        have Hl := hid hl
        clear hl
        go_wp2_with (fail)
        refine Hl.out.mono ?_
        rintro e w10 ⟨vt, rfl, hvt, hB10⟩
        obtain ⟨At, ct, rfl⟩ := hvt.shape
        have hQ10 := hQ9.below hB10
        have hv10 := hvt.weak (F' := fun _ => True) (fun _ _ _ => trivial)
        clear hvt Hl hB10
        go_wp2_with (fail)
        refine (same_b _ _ a a _ _ _ hv10 (hQ10.rd ha)).mono ?_
        rw [decide_eq_true rfl]
        rintro e w11 ⟨rfl, hB11⟩
        have hv10 := hv10.below hB11
        have hQ10 := hQ10.below hB11
        clear hB11
        clear hv10
        go_wp2_with (fail)
        refine (save12_ok w0 _ M9 F9 _ d9 _ _ _ stN b _ _ HK.out hQ10 hx (by omega) (by omega) nm_st (by omega) (by rw [hrm9]; omega) (hQ10.rd hb) (fun y e e2 => by have e : y < w0.heap.size := e; have := hQ10.M y e2; omega)).mono ?_
        rintro e w12 ⟨rfl, M12, F12, D12, hQ12, _, _, _⟩
        go_wp2
        go_roundw
        case rel => exact ⟨i + 1, by omega, by go_num, hQ12.B⟩
        case measure => simp [intOf]; omega
      rcases hf2 with hf | hf
      · skip
        have hl := load12_ok w0 _ M9 F9 d9 stN (some (toldF a)) w9 HK.out hQ9 (hx.sm (by omega) (by omega)) hx.cm.2 (by decide) (by rw [hx.now]; exact hf) (fun x e => by injection e with e; rw [← e]; omega)
        rw [load_told nm_st (by omega)] at hl
        have Hl := hid hl
        clear hl
        go_wp2_with (fail)
        refine Hl.out.mono ?_
        rintro e w10 ⟨vt, rfl, hvt, hB10⟩
        obtain ⟨At, ct, rfl⟩ := hvt.shape
        have hQ10 := hQ9.below hB10
        have hv10 := hvt.weak (F' := fun _ => True) (fun _ _ _ => trivial)
        clear hvt Hl hB10
        go_wp2_with (fail)
        refine (same_b _ _ a a _ _ _ hv10 (hQ10.rd ha)).mono ?_
        rw [decide_eq_true rfl]
        rintro e w11 ⟨rfl, hB11⟩
        have hv10 := hv10.below hB11
        have hQ10 := hQ10.below hB11
        clear hB11
        clear hv10
        go_wp2_with (fail)
        refine (save12_ok w0 _ M9 F9 _ d9 _ _ _ stN b _ _ HK.out hQ10 hx (by omega) (by omega) nm_st (by omega) (by rw [hrm9]; omega) (hQ10.rd hb) (fun y e e2 => by have e : y < w0.heap.size := e; have := hQ10.M y e2; omega)).mono ?_
        rintro e w12 ⟨rfl, M12, F12, D12, hQ12, _, _, _⟩
        go_wp2
        go_roundw
        case rel => exact ⟨i + 1, by omega, by go_num, hQ12.B⟩
        case measure => simp [intOf]; omega
      · skip
        have hl := load12_ok w0 _ M9 F9 d9 stN (some (toldF b)) w9 HK.out hQ9 (hx.sm (by omega) (by omega)) hx.cm.2 (by decide) (by rw [hx.now]; exact hf) (fun x e => by injection e with e; rw [← e]; omega)
        rw [load_told nm_st (by omega)] at hl
        have Hl := hid hl
        clear hl
        go_wp2_with (fail)
        refine Hl.out.mono ?_
        rintro e w10 ⟨vt, rfl, hvt, hB10⟩
        obtain ⟨At, ct, rfl⟩ := hvt.shape
        have hQ10 := hQ9.below hB10
        have hv10 := hvt.weak (F' := fun _ => True) (fun _ _ _ => trivial)
        clear hvt Hl hB10
        go_wp2_with (fail)
        refine (same_b _ _ b a _ _ _ hv10 (hQ10.rd ha)).mono ?_
        rw [decide_eq_false hab]
        rintro e w11 ⟨rfl, hB11⟩
        have hv10 := hv10.below hB11
        have hQ10 := hQ10.below hB11
        clear hB11
        go_wp2_with (fail)
        refine (same_b _ _ b b _ _ _ hv10 (hQ10.rd hb)).mono ?_
        rw [decide_eq_true rfl]
        rintro e w11 ⟨rfl, hB11⟩
        have hv10 := hv10.below hB11
        have hQ10 := hQ10.below hB11
        clear hB11
        clear hv10
        go_wp2_with (fail)
        refine (save12_ok w0 _ M9 F9 _ d9 _ _ _ stN b _ _ HK.out hQ10 hx (by omega) (by omega) nm_st (by omega) (by rw [hrm9]; omega) (hQ10.rd hb) (fun y e e2 => by have e : y < w0.heap.size := e; have := hQ10.M y e2; omega)).mono ?_
        rintro e w12 ⟨rfl, M12, F12, D12, hQ12, _, _, _⟩
        go_wp2
        go_roundw
        case rel => exact ⟨i + 1, by omega, by go_num, hQ12.B⟩
        case measure => simp [intOf]; omega
    have t1 : (1 : Int) < (i : Int) := by omega
    have t2 : ((i : Int) == 2) = true := beq_iff_eq.2 (by omega)
    have hsy := sync10_any _ M7 F7 d3 snS _ hQ7.i m3 rfl
    rw [s4] at hsy
    have Hsy := hid hsy
    clear hsy
    go_wp2_with (fail)
    refine Hsy.out.mono ?_
    rintro e w8 ⟨rfl, hp⟩
    obtain ⟨M8, F8, hQ8, _⟩ := hQ7.mk' hp
    have hQ8 : QX w0 w8 (.pointer (some ⟨xd, 0, none⟩)) M8 F8 d4 := hQ8
    clear hp Hsy hQ7 s4 x1 y1 x3 y3
    have bp5 := bp.keep (hQ8.B.block gp hgl)
    have c0 := bp5.cellAt 0 _ rfl
    have c1 := bp5.cellAt 1 _ rfl
    have c2 := bp5.cellAt 2 _ rfl
    have hcr := crash10_any _ M8 F8 d4 (snC keep torn cut) _ hQ8.i m4 (snC_sm hkp hcu) rfl
    rw [doC] at hcr
    have Hcr := hid hcr
    clear hcr bp5
    go_wp2_with (fail)
    refine Hcr.out.mono ?_
    rintro e w9 ⟨rfl, hp⟩
    obtain ⟨M9, F9, hQ9, _⟩ := hQ8.mk' hp
    obtain ⟨d9, hd9⟩ : ∃ d, d = crashF d4 keep torn cut := ⟨_, rfl⟩
    have hQ9 : QX w0 w9 (.pointer (some ⟨xd, 0, none⟩)) M9 F9 d9 := by rw [hd9]; exact hQ9
    clear hp Hcr c0 c1 c2 hQ8
    have hx := x4
    have hf := y4
    have hrm9 : d9.room = 65536 := by rw [hd9]; exact hr4'
    rw [← hd9] at hx hf
    clear hd9 x4 y4
    have hl := load12_ok w0 _ M9 F9 d9 stN (some (toldF b)) w9 HK.out hQ9 (hx.sm (by omega) (by omega)) hx.cm.2 (by decide) (by rw [hx.now]; exact hf) (fun x e => by injection e with e; rw [← e]; omega)
    rw [load_told nm_st (by omega)] at hl
    have Hl := hid hl
    clear hl
    go_wp2_with (fail)
    refine Hl.out.mono ?_
    rintro e w10 ⟨vt, rfl, hvt, hB10⟩
    obtain ⟨At, ct, rfl⟩ := hvt.shape
    have hQ10 := hQ9.below hB10
    have hv10 := hvt.weak (F' := fun _ => True) (fun _ _ _ => trivial)
    clear hvt Hl hB10
    by_cases hab : b = a
    · have Hab := hid hab
      clear hab
      go_wp2_with (fail)
      refine (same_b _ _ b a _ _ _ hv10 (hQ10.rd ha)).mono ?_
      rw [decide_eq_true Hab.out]
      rintro e w11 ⟨rfl, hB11⟩
      have hv10 := hv10.below hB11
      have hQ10 := hQ10.below hB11
      clear hB11
      go_wp2_with (fail)
      refine (same_b _ _ b b _ _ _ hv10 (hQ10.rd hb)).mono ?_
      rw [decide_eq_true rfl]
      rintro e w11 ⟨rfl, hB11⟩
      have hv10 := hv10.below hB11
      have hQ10 := hQ10.below hB11
      clear hB11
      clear hv10
      go_wp2_with (fail)
      refine (save12_ok w0 _ M9 F9 _ d9 _ _ _ stN b _ _ HK.out hQ10 hx (by omega) (by omega) nm_st (by omega) (by rw [hrm9]; omega) (hQ10.rd hb) (fun y e e2 => by have e : y < w0.heap.size := e; have := hQ10.M y e2; omega)).mono ?_
      rintro e w12 ⟨rfl, M12, F12, D12, hQ12, _, _, _⟩
      go_wp2
      go_roundw
      case rel => exact ⟨i + 1, by omega, by go_num, hQ12.B⟩
      case measure => simp [intOf]; omega
    · skip
      go_wp2_with (fail)
      refine (same_b _ _ b a _ _ _ hv10 (hQ10.rd ha)).mono ?_
      rw [decide_eq_false hab]
      rintro e w11 ⟨rfl, hB11⟩
      have hv10 := hv10.below hB11
      have hQ10 := hQ10.below hB11
      clear hB11
      go_wp2_with (fail)
      refine (same_b _ _ b b _ _ _ hv10 (hQ10.rd hb)).mono ?_
      rw [decide_eq_true rfl]
      rintro e w11 ⟨rfl, hB11⟩
      have hv10 := hv10.below hB11
      have hQ10 := hQ10.below hB11
      clear hB11
      go_wp2_with (fail)
      refine (same_b _ _ b b _ _ _ hv10 (hQ10.rd hb)).mono ?_
      rw [decide_eq_true rfl]
      rintro e w11 ⟨rfl, hB11⟩
      have hv10 := hv10.below hB11
      have hQ10 := hQ10.below hB11
      clear hB11
      clear hv10
      go_wp2_with (fail)
      refine (save12_ok w0 _ M9 F9 _ d9 _ _ _ stN b _ _ HK.out hQ10 hx (by omega) (by omega) nm_st (by omega) (by rw [hrm9]; omega) (hQ10.rd hb) (fun y e e2 => by have e : y < w0.heap.size := e; have := hQ10.M y e2; omega)).mono ?_
      rintro e w12 ⟨rfl, M12, F12, D12, hQ12, _, _, _⟩
      go_wp2
      go_roundw
      case rel => exact ⟨i + 1, by omega, by go_num, hQ12.B⟩
      case measure => simp [intOf]; omega
end Go.Proofs.YtijhicfegbaadaaDoor
