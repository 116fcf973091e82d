/- IA: layer 12: SnapsCrash. -/
import Derived.Test.YtijhicfegbaadaaDoorI9
import Derived.Test.YtijhicfegbaadaaDoorD8
import Derived.Test.YtijhicfegbaadaaDoorFA
namespace Go.V
open Go.RowKit
/-- behind the saves: what was synced, and appends to other files that are pending -/
structure PQ (D : Dk) (c T : Nat) (x : Option (List UInt8)) : Prop where
  u : uq D.syn
  cm : calm D
  r : D.room = 131072
  n : D.syn.length + D.pend.length ≤ c
  t : tot D.syn + totA D.pend ≤ T
  p : ∀ a ∈ D.pend, stN ≠ a.n ∧ stN ≠ a.t
  f : findF D.syn stN = x
theorem PQ.sm {D : Dk} {c T : Nat} {x : Option (List UInt8)} (h : PQ D c T x) (hc : c ≤ 1000) (hT : T ≤ 1000000) : DkSm D :=
  ⟨by have := h.n; omega, by have := h.t; omega, by rw [h.r]; omega, by rw [h.cm.1]; omega⟩
theorem PQ.app {D : Dk} {c T : Nat} {x : Option (List UInt8)} (h : PQ D c T x) (a : Ac) (hk : a.k = 0) (hn : stN ≠ a.n) (ht : stN ≠ a.t) : PQ (doF D a).1 (c + 1) (T + a.b.length) x := by
  obtain ⟨h1, h2⟩ := do_pend D a h.cm (by omega)
  have hr : (doF D a).1.room = D.room := by
    rw [do_put (.inl hk), h.cm.2, if_neg (by simp)]
    split
    · rfl
    · split
      · rfl
      · rw [push_calm D a h.cm]
  have hn' := h.n
  have ht' := h.t
  refine ⟨by rw [h1]; exact h.u, do_calm D a h.cm (by omega), hr.trans h.r, ?_, ?_, ?_, by rw [h1]; exact h.f⟩
  · rw [h1]
    rcases h2 with h2 | h2 <;> rw [h2]
    · omega
    · simp; omega
  · rw [h1]
    rcases h2 with h2 | h2 <;> rw [h2]
    · omega
    · rw [totA_app, totA_one]; omega
  · intro y hy
    rcases h2 with h2 | h2 <;> rw [h2] at hy
    · exact h.p y hy
    · rcases List.mem_append.1 hy with hy | hy
      · exact h.p y hy
      · rw [List.mem_singleton] at hy; subst hy; exact ⟨hn, ht⟩
theorem PQ.crash {D : Dk} {c T : Nat} {x : Option (List UInt8)} (h : PQ D c T x) (keep : Nat) (torn cut : Int) : ∃ fl, SN (crashF D keep torn cut) c T fl ∧ findF (crashF D keep torn cut).syn stN = x :=
  ⟨_, sn_crash h.u (by rw [h.r]; omega) h.n h.t keep torn cut, by
    show findF (crF keep torn cut 0 D.syn D.pend) stN = x
    rw [find_cr keep torn cut stN D.pend 0 D.syn h.p]
    exact h.f⟩
theorem snA_sm {n : ByteArray} {b : List UInt8} (hn : n.size ≤ maxLen) (hb : b.length ≤ 1000000) : AcSm (snA n b) := ⟨by show b.length ≤ _; omega, (show (0 : Nat) < 18446744073709551616 by decide), (show (-9223372036854775808 : Int) ≤ 0 ∧ (0 : Int) ≤ 9223372036854775807 by decide), (show (-9223372036854775808 : Int) ≤ 0 ∧ (0 : Int) ≤ 9223372036854775807 by decide), hn, by show (0 : Nat) ≤ maxLen; simp [maxLen]⟩
theorem stN_l : stN.toList = [115, 116, 97, 116, 101] := by decide +kernel
theorem st_ne : stN ≠ ByteArray.empty := fun e => by have := congrArg ByteArray.size e; simp [stN, ByteArray.size] at this
end Go.V
namespace Go.Proofs.YtijhicfegbaadaaDoor
open Go.RowKit Go.V
set_option maxRecDepth 100000 in
set_option maxHeartbeats 16000000 in
theorem snapsCrash_law (l : List (List UInt8)) (m : List Ac) (keep : Nat) (torn cut : Int) (vl vm : Value) (F G : Nat → Prop) (w : World) (hK : KS w) (hkp : keep < 18446744073709551616) (hcu : -9223372036854775808 ≤ cut ∧ cut ≤ 9223372036854775807) (hl : Rd w F vl (tx l)) (hm : Rd w G vm (wds acD m)) (hin : ∀ a ∈ m, AcIn a) :
    Calls Tryd.prog 5 #[vl, vm, .agg #[.int .u64 (keep : Int), .int .i64 torn, .int .i64 cut]] w fun e w' => e = .returned (.bool true) ∧ Below w.heap.size w w' := by
  obtain ⟨Al, cl, rfl, hl1, hl2⟩ := hl.slShape
  obtain ⟨Am, cm, rfl, hm1, hm2⟩ := wds_shape hm
  have hB00 : Below w.heap.size w (w.alloc (.cells #[.int .u64 (keep : Int), .int .i64 torn, .int .i64 cut] 45)) := (Below.refl _ _).alloc (Nat.le_refl _) _
  have bp := Blk.new' w 45 [.int .u64 (keep : Int), .int .i64 torn, .int .i64 cut]
  go_enter Tryd.func5, Tryd.ntmps5
  go_wp2_with (fail)
  obtain ⟨w0, hw0⟩ : ∃ w0, w0 = w.alloc (.cells #[.int .u64 (keep : Int), .int .i64 torn, .int .i64 cut] 45) := ⟨_, rfl⟩
  obtain ⟨gp, hgp⟩ : ∃ g, g = w.heap.size := ⟨_, rfl⟩
  have bp : Blk w0 gp 45 [.int .u64 (keep : Int), .int .i64 torn, .int .i64 cut] := by rw [hw0, hgp]; exact bp
  rw [← hw0] at hB00 ⊢
  rw [← hgp]
  have hl := (hl.below hB00).weak (F' := fun b => b < w0.heap.size) (fun b hb _ => hb)
  have hm := (hm.below hB00).weak (F' := fun b => b < w0.heap.size) (fun b hb _ => hb)
  have K0 : KS w0 := hK.below hB00
  have hw00 := hB00.size
  have hgl := bp.lt
  have Hin := hid hin
  clear hw0 hgp hK hin
  have HK := hid K0
  refine (wakes12_any _ K0).mono ?_
  rintro e w1 ⟨rfl, hB1⟩
  by_cases hll : l.length ≤ 12
  case neg =>
    have h1 : (12 : Int) < (l.length : Int) := by omega
    go_wp2
    go_ret
    exact ⟨rfl, hB00.trans (hB1.mono hw00)⟩
  have h1 : ¬ (12 : Int) < (l.length : Int) := by omega
  by_cases hlm : m.length ≤ 20
  case neg =>
    have h2 : (20 : Int) < (m.length : Int) := by omega
    go_wp2
    go_ret
    exact ⟨rfl, hB00.trans (hB1.mono hw00)⟩
  have h2 : ¬ (20 : Int) < (m.length : Int) := by omega
  clear K0
  go_wp2_with (fail)
  refine (new12 131072 w0 _ hB1).mono ?_
  rintro e w2 ⟨xd, M, F0, rfl, hQ, hB2⟩
  rw [show (⟨roomF 131072, [], [], -1, false⟩ : Dk) = dN 131072 from by rfl] at hQ
  have hS : SN (dN 131072) 0 0 (fun _ => none) := SN.new 131072 (by omega)
  clear hB2 hB1
  obtain ⟨D0, hD0⟩ : ∃ D, D = dN 131072 := ⟨_, rfl⟩
  rw [← hD0] at hQ hS
  have hr0 : D0.room = 131072 := by rw [hD0]; rfl
  clear hD0
  go_wp2
  go_loopw [8, 9, 29] (fun wv av iv wr => ∃ (i : Nat) (M F' : Nat → Prop) (D : Dk) (fl : ByteArray → Option (List UInt8)) (r : Option (List UInt8)), i ≤ l.length ∧ iv = .int .i64 i ∧ QX w0 wr (.pointer (some ⟨xd, 0, none⟩)) M F' D ∧ SN D (2 * i) (518 * i) fl ∧ D.room = 131072 ∧ Hid (fl stN = r.map toldF) ∧ Hid (∀ t, r = some t → t.length ≤ 500) ∧ Hid (av = .int .i64 (loadF (r.map toldF) stN).2) ∧ Hid (loadF (r.map toldF) stN = (r.getD [], (loadF (r.map toldF) stN).2)) ∧ Rd w0 (fun b => b < w0.heap.size) wv (bys (r.getD []))) (fun _ _ iv _ => l.length - (intOf iv).toNat)
  case atStart => exact ⟨0, M, F0, D0, _, none, by omega, rfl, hQ, hS, hr0, by show _ = _; rfl, hid (fun t h => by cases h), by show _ = _; rw [Option.map_none, load_none nm_st], by show _ = _; rw [Option.map_none, load_none nm_st]; rfl, Rd.nil _ _⟩
  case round =>
    clear hQ hS hr0
    obtain ⟨i, M, F', D, fl, r, hi, rfl, hQ, hS, hr, Hfl, Hr5, Hav, Hld, hwv⟩ := hrel
    have Hav' := Hav.out
    subst Hav'
    by_cases hlt : i < l.length
    · obtain ⟨t, ht⟩ : ∃ t, l[i]? = some t := ⟨_, List.getElem?_eq_getElem hlt⟩
      have hIlt : (i : Int) < (l.length : Int) := by omega
      have hin1 : IntKind.i64.wrap ((i : Int) + 1) = (i : Int) + 1 := IntWalk.i64_in _ (by omega)
      obtain ⟨g, off, u, rfl, _, hx, hu⟩ := Rd.elem hl i (bys t) (by rw [List.getElem?_map, ht]; rfl)
      obtain ⟨Au, cu, rfl⟩ := hu.shape
      have hxr := (World.cell?_of_block (hQ.B.block g (lt_of_cell hx))).trans hx
      clear ht hx
      by_cases h500 : 500 < t.length
      · have hI5 : (500 : Int) < (t.length : Int) := by omega
        go_wp2
        go_ret
        exact ⟨rfl, hB00.trans (hQ.B.mono hw00)⟩
      have hI5 : ¬ (500 : Int) < (t.length : Int) := by omega
      have htb := told_bd t
      go_wp2_with (fail)
      refine (save12_ok w0 _ M F' _ D _ _ fl stN t _ _ HK.out hQ hS (by omega) (by omega) nm_st (by omega) (by rw [hr]; omega) (hQ.rd hu) (fun y e e2 => by have e : y < w0.heap.size := e; have := hQ.M y e2; omega)).mono ?_
      rintro e w3 ⟨rfl, M3, F3, D3, hQ3, hS3, hr3, _⟩
      clear hQ hS hxr
      go_wp2
      go_roundw
      case rel => exact ⟨i + 1, M3, F3, D3, _, some t, by omega, by go_num, hQ3, hS3.mono (by omega) (by omega), hr3.trans hr, by show _ = _; exact upd_same _ _ _, hid (fun x h => by injection h with h; subst h; omega), by show _ = _; rw [Option.map_some, load_told nm_st (by omega)], by show _ = _; rw [Option.map_some, load_told nm_st (by omega)]; rfl, hu⟩
      case measure => simp [intOf]; omega
    · have hi' : i = l.length := by omega
      subst hi'
      have hIlt : ¬ (l.length : Int) < (l.length : Int) := by omega
      have hP : PQ D 25 6300 (r.map toldF) := ⟨hS.u, hS.cm, hr, by rw [hS.e]; have := hS.n; simp; omega, by rw [hS.e]; have := hS.t; unfold totA; simp; omega, (fun a ha => by rw [hS.e] at ha; cases ha), by rw [hS.fs]; exact Hfl.out⟩
      obtain ⟨E, hE⟩ : ∃ E, E = (loadF (r.map toldF) stN).2 := ⟨_, rfl⟩
      rw [← hE] at Hld ⊢
      have Hwv := hid hwv
      clear hE hS hr Hav hwv
      go_wp2
      go_loopw [44] (fun iv wr => ∃ (j : Nat) (M F' : Nat → Prop) (D : Dk), j ≤ m.length ∧ iv = .int .i64 j ∧ QX w0 wr (.pointer (some ⟨xd, 0, none⟩)) M F' D ∧ PQ D (25 + j) (6300 + 300 * j) (r.map toldF)) (fun iv _ => m.length - (intOf iv).toNat)
      case atStart => exact ⟨0, M, F', D, by omega, rfl, hQ, hP⟩
      case round =>
        clear hQ hP
        obtain ⟨j, M, F', D, hj, rfl, hQ, hP⟩ := hrel
        by_cases hjl : j < m.length
        · obtain ⟨a, ha⟩ : ∃ a, m[j]? = some a := ⟨_, List.getElem?_eq_getElem hjl⟩
          have hJlt : (j : Int) < (m.length : Int) := by omega
          have hin1 : IntKind.i64.wrap ((j : Int) + 1) = (j : Int) + 1 := IntWalk.i64_in _ (by omega)
          have hmr : Rd wr (fun b => b < w0.heap.size) (.slice Am m.length cm) (wds acD m) := hm.keep (fun b hb _ => ⟨hb, hQ.B.block b hb⟩)
          obtain ⟨g, off, cs, rfl, hg, hrg, he⟩ := wd_el hmr ha
          obtain ⟨u, rfl, hu⟩ := ac_open he
          obtain ⟨Au, cu, rfl⟩ := hu.shape
          have hai := Hin.out a (List.mem_of_getElem? ha)
          have hann := hai.n
          clear ha he hmr hai
          go_wp2_with (first | refine wp_ixa 42 (.tmp 42) (.tmp 44) rfl rfl rfl rfl Tryd.underlying42 hjl sizeAc ?_ | refine wp_ld 47 (.tmp 46) rfl rfl rfl hrg Tryd.underlying47 rfl sizeAc ?_ | refine wp_newst 47 13 (.tmp 47) rfl rfl rfl rfl rfl rfl zeroAc (l := a.l (.slice Au a.b.length cu)) rfl rfl sizeAc (one_ac a _ _ _) (by simp [Act.put]) ?_; intro w4 hx4 hB4 hs4; refine wp_stop ?_)
          have hQ4 := hQ.below hB4
          have hu4 := hu.below hB4
          have hbd := hQ.i.bd
          obtain ⟨gx, hgx⟩ : ∃ g, g = wr.heap.size := ⟨_, rfl⟩
          rw [← hgx] at hx4 ⊢
          have c1 := hx4.cellAt 1 _ rfl
          have c2 := hx4.cellAt 2 _ rfl
          have c3 := hx4.cellAt 3 _ rfl
          clear hgx hQ hu hrg hB4 hs4
          refine wp_go ?_
          by_cases h300 : 300 < a.b.length
          · have hI3 : (300 : Int) < (a.b.length : Int) := by omega
            go_wp2
            go_ret
            exact ⟨rfl, hB00.trans (hQ4.B.mono hw00)⟩
          have hI3 : ¬ (300 : Int) < (a.b.length : Int) := by omega
          have hsm := hP.sm (by omega) (by omega)
          obtain ⟨an, han⟩ : ∃ an, an = a.n := ⟨_, rfl⟩
          obtain ⟨at_, hat⟩ : ∃ at_, at_ = a.t := ⟨_, rfl⟩
          rw [← han] at c1 hann
          rw [← hat] at c2
          by_cases hn1 : an = stN
          · have e1 : (an.toList == [115, 116, 97, 116, 101]) = true := by rw [← stN_l]; exact (Go.Lib.bytes_beq_iff _ _).2 hn1
            clear hn1 han hat
            go_wp2
            go_roundw
            case rel => exact ⟨j + 1, M, F', D, by omega, by go_num, hQ4, hP.u, hP.cm, hP.r, by have := hP.n; omega, by have := hP.t; omega, hP.p, hP.f⟩
            case measure => simp [intOf]; omega
          · have e1 : (an.toList == [115, 116, 97, 116, 101]) = false := by rw [← stN_l]; exact (Go.Lib.bytes_beq_false_iff _ _).2 hn1
            by_cases hn2 : at_ = stN
            · have e2 : (at_.toList == [115, 116, 97, 116, 101]) = true := by rw [← stN_l]; exact (Go.Lib.bytes_beq_iff _ _).2 hn2
              clear hn1 hn2 han hat
              go_wp2
              go_roundw
              case rel => exact ⟨j + 1, M, F', D, by omega, by go_num, hQ4, hP.u, hP.cm, hP.r, by have := hP.n; omega, by have := hP.t; omega, hP.p, hP.f⟩
              case measure => simp [intOf]; omega
            · have e2 : (at_.toList == [115, 116, 97, 116, 101]) = false := by rw [← stN_l]; exact (Go.Lib.bytes_beq_false_iff _ _).2 hn2
              have hP2 := hP.app (snA an a.b) rfl (fun e => hn1 e.symm) st_ne
              have hap := append10_any _ M F' _ D (snA an a.b) _ _ hQ4.i hsm (snA_sm hann (by omega)) rfl hu4 (fun y e e2 => by have e : y < w0.heap.size := e; have := hQ4.M y e2; omega)
              have Hap := hid hap
              have HP2 := hid hP2
              clear hap hP2 hn1 hn2 han hat hP
              go_wp2_with (fail)
              refine Hap.out.mono ?_
              rintro e w5 ⟨rfl, hp⟩
              obtain ⟨M5, F5, hQ5, _⟩ := hQ4.mk' hp
              have hP5 := HP2.out
              obtain ⟨D5, hD5⟩ : ∃ D5, D5 = (doF D (snA an a.b)).1 := ⟨_, rfl⟩
              obtain ⟨E5, hE5⟩ : ∃ E5, E5 = (doF D (snA an a.b)).2 := ⟨_, rfl⟩
              rw [← hE5]
              rw [← hD5] at hQ5 hP5
              have hP5 : PQ D5 (25 + j + 1) (6300 + 300 * j + a.b.length) (r.map toldF) := hP5
              clear hp hD5 hE5 Hap HP2 hQ4 hx4 c1 c2 c3
              go_wp2
              go_roundw
              case rel => exact ⟨j + 1, M5, F5, D5, by omega, by go_num, hQ5, hP5.u, hP5.cm, hP5.r, by have := hP5.n; omega, by have := hP5.t; omega, hP5.p, hP5.f⟩
              case measure => simp [intOf]; omega
        · have hj' : j = m.length := by omega
          subst hj'
          have hJlt : ¬ (m.length : Int) < (m.length : Int) := by omega
          have hsm := hP.sm (by omega) (by omega)
          have bp5 := bp.keep (hQ.B.block gp hgl)
          have c0 := bp5.cellAt 0 _ rfl
          have c1 := bp5.cellAt 1 _ rfl
          have c2 := bp5.cellAt 2 _ rfl
          have hcr := crash10_any _ M F' D (snC keep torn cut) _ hQ.i hsm (snC_sm hkp hcu) rfl
          rw [doC] at hcr
          have Hcr := hid hcr
          obtain ⟨fl9, hx, hf⟩ := hP.crash keep torn cut
          clear hcr bp5 hsm hP
          go_wp2_with (fail)
          refine Hcr.out.mono ?_
          rintro e w9 ⟨rfl, hp⟩
          obtain ⟨M9, F9, hQ9, _⟩ := hQ.mk' hp
          obtain ⟨d9, hd9⟩ : ∃ d, d = crashF D keep torn cut := ⟨_, rfl⟩
          have hQ9 : QX w0 w9 (.pointer (some ⟨xd, 0, none⟩)) M9 F9 d9 := by rw [hd9]; exact hQ9
          rw [← hd9] at hx hf
          have hld := load12_ok w0 _ M9 F9 d9 stN (r.map toldF) w9 HK.out hQ9 (hx.sm (by omega) (by omega)) hx.cm.2 (by decide) (by rw [hx.now]; exact hf) (fun x e => by
            cases hrr : r with
            | none => rw [hrr] at e; cases e
            | some t =>
              rw [hrr] at e
              injection e with e
              have := Hr5.out t hrr
              have := told_bd t
              rw [← e]
              omega)
          rw [Hld.out] at hld
          have Hl := hid hld
          clear hp Hcr c0 c1 c2 hQ hd9 hx hf hld
          obtain ⟨s, hs⟩ : ∃ s, s = r.getD [] := ⟨_, rfl⟩
          rw [← hs] at Hl Hwv
          clear hs
          go_wp2_with (fail)
          refine Hl.out.mono ?_
          rintro e w10 ⟨vt, rfl, hvt, hB10⟩
          obtain ⟨At, ct, rfl⟩ := hvt.shape
          have hQ10 := hQ9.below hB10
          clear Hl hB10 hQ9
          go_wp2_with (fail)
          refine (same_b _ _ s s _ _ _ hvt (hQ10.rd Hwv.out)).mono ?_
          rw [decide_eq_true rfl]
          rintro e w11 ⟨rfl, hB11⟩
          go_wp2
          go_ret
          exact ⟨rfl, hB00.trans ((hQ10.below hB11).B.mono hw00)⟩
end Go.Proofs.YtijhicfegbaadaaDoor
