/- YC: several texts in one. -/
import Derived.Test.YtnhhbbjkeekneaaGreatDoorM1
import Derived.Test.YtnhhbbjkeekneaaGreatDoorVE
import Derived.Test.YtnhhbbjkeekneaaGreatDoorN6
import Derived.Test.YtnhhbbjkeekneaaGreatDoorN8
/- YC: layer 8: contracts of wire: fields, Size, formed. -/
namespace Go.V
open Go.RowKit
def fsz (i : Nat) : Nat := if i < 2 then 1 else 2
def flo (i : Nat) : Nat := if i = 0 then 1 else 0
def fhi (i : Nat) : Nat := if i = 0 then 12 else if i = 1 then 15 else if i = 3 then 40 else 60
def fE (g i : Nat) : List Value := [.pointer (some ⟨g, i, none⟩), .int .i64 (fsz i : Int), .int .i64 (flo i : Int), .int .i64 (fhi i : Int)]
def fV (g : Nat) : List Value := fE g 0 ++ fE g 1 ++ fE g 2 ++ fE g 3 ++ fE g 4
theorem fV_at (g i : Nat) (h : i < 5) : ((fV g).drop (i * 4)).take 4 = fE g i := by
  match i, h with
  | 0, _ => rfl
  | 1, _ => rfl
  | 2, _ => rfl
  | 3, _ => rfl
  | 4, _ => rfl
def soff (i : Nat) : Nat := if i ≤ 2 then i else 2 * i - 2
theorem soff_succ (i : Nat) (h : i < 5) : soff (i + 1) = soff i + fsz i := by
  unfold soff fsz
  repeat' split
  all_goals omega
structure MgSm (m : Mg) : Prop where
  b : m.b.length ≤ 1000000
  p : m.ps.length ≤ 1000
  t : ∀ t ∈ m.ps, t.length ≤ 1000000
theorem len_partsG : ∀ (ps : List (List UInt8)), (∀ t ∈ ps, t.length ≤ 1000000) → (ps.flatMap tb1).length ≤ 1000010 * ps.length
  | [], _ => by simp
  | t :: ps, h => by
    rw [List.flatMap_cons, List.length_append, List.length_cons]
    have h1 : (tb1 t).length ≤ 1000010 := by
      have := psz_bd t.length
      have := h t (by simp)
      unfold tb1
      rw [List.length_append, length_packed]
      omega
    have h2 := len_partsG ps (fun x hx => h x (by simp [hx]))
    omega
theorem one_fE (g i : Nat) : ∀ v ∈ fE g i, v.oneCell' = true := by
  intro v hv
  simp only [fE, List.mem_cons, List.not_mem_nil, or_false] at hv
  rcases hv with rfl | rfl | rfl | rfl <;> rfl
theorem one_fV (g : Nat) : ∀ v ∈ fV g, v.oneCell' = true := by
  intro v hv
  simp only [fV, List.mem_append] at hv
  rcases hv with (((hv | hv) | hv) | hv) | hv <;> exact one_fE _ _ v hv
end Go.V
namespace Go.Proofs.YtnhhbbjkeekneaaGreatDoor
open Go.RowKit Go.V
theorem hb48 (g : Nat) (W : World) : (Instr.build 147 ([(0, .agg #[.pointer (some ⟨g, 0, none⟩), .int .i64 1, .int .i64 1, .int .i64 12]), (1, .agg #[.pointer (some ⟨g, 1, none⟩), .int .i64 1, .int .i64 0, .int .i64 15]), (2, .agg #[.pointer (some ⟨g, 2, none⟩), .int .i64 2, .int .i64 0, .int .i64 60]), (3, .agg #[.pointer (some ⟨g, 3, none⟩), .int .i64 2, .int .i64 0, .int .i64 40]), (4, .agg #[.pointer (some ⟨g, 4, none⟩), .int .i64 2, .int .i64 0, .int .i64 60])] : List (Nat × Value)).toArray).run Tryz.prog W = .ok (.agg (fV g).toArray) W := by kernel_rfl
theorem sizeFs : (Tryz.prog.info? 147).map (·.size) = some 20 := by kernel_rfl
theorem sizeF1 : (Tryz.prog.info? 146).map (·.size) = some 4 := by kernel_rfl
theorem len_by2 {m : Mg} (hh : m.h.length = 32) : (Mg.by m).length = 40 + (psz m.b.length + m.b.length) + psz m.ps.length + (m.ps.flatMap tb1).length := by
  unfold Mg.by
  simp only [List.length_append, len_hd hh, length_packed]
def zF : List Value := [.pointer none, .int .i64 0, .int .i64 0, .int .i64 0]
theorem zeroF1 : (Tryz.prog.info? 146).map (·.zero) = some (some (.agg zF.toArray)) := by kernel_rfl
def zFs : List Value := zF ++ zF ++ zF ++ zF ++ zF
theorem zeroFs : (Tryz.prog.info? 147).map (·.zero) = some (some (.agg zFs.toArray)) := by kernel_rfl
theorem aggF (W : World) : (isAgg 146).run Tryz.prog W = .ok true W := by kernel_rfl
set_option maxRecDepth 100000 in
set_option maxHeartbeats 2000000 in
theorem fields_any (g : Nat) (w : World) :
    Calls Tryz.prog 92 #[.pointer (some ⟨g, 0, none⟩)] w fun e w' => e = .returned (.agg (fV g).toArray) ∧ Below w.heap.size w w' := by
  have hB : Below w.heap.size w (w.alloc (.cells zFs.toArray 147)) := (Below.refl _ _).alloc (Nat.le_refl _) _
  have hz := Blk.new' w 147 zFs
  go_enter Tryz.func92, Tryz.ntmps92
  go_wp2_with (refine wp_new 147 rfl rfl zeroFs ?_; refine wp_stop ?_)
  obtain ⟨w0, hw0⟩ : ∃ w0, w0 = w.alloc (.cells zFs.toArray 147) := ⟨_, rfl⟩
  rw [← hw0] at hB hz ⊢
  clear hw0
  obtain ⟨g0, hg0⟩ : ∃ g0, g0 = w.heap.size := ⟨_, rfl⟩
  rw [← hg0] at hz ⊢
  have hgw : w.heap.size ≤ g0 := by omega
  clear hg0
  refine wp_go ?_
  go_upto_region 1 with (fail)
  refine wp_region_noPanic ?_
  refine wp_region_held_drew (S := fun _ => True) (by kernel_rfl) (trivial) (fun hHeld => ?_)
  refine tkP 0 rfl ?_
  refine tkP 1 rfl ?_
  refine tkP 2 rfl ?_
  refine tkP 3 rfl ?_
  refine tkP 4 rfl ?_
  refine tkP 5 rfl ?_
  refine tkP 6 rfl ?_
  refine tkP 7 rfl ?_
  refine tkP 8 rfl ?_
  refine tkP 9 rfl ?_
  refine tkP 10 rfl ?_
  refine tkP 11 rfl ?_
  refine tkP 12 rfl ?_
  refine tkP 13 rfl ?_
  refine tkP 14 rfl ?_
  refine tkP 15 rfl ?_
  refine tkP 16 rfl ?_
  refine tkP 17 rfl ?_
  refine tkP 18 rfl ?_
  refine tkP 19 rfl ?_
  refine tkY 20 rfl (y_bld (by rfl) 147 [(0, .tmp 6), (1, .tmp 10), (2, .tmp 14), (3, .tmp 18), (4, .tmp 22)] (by rfl) [(0, .agg #[.pointer (some ⟨g, 0, none⟩), .int .i64 1, .int .i64 1, .int .i64 12]), (1, .agg #[.pointer (some ⟨g, 1, none⟩), .int .i64 1, .int .i64 0, .int .i64 15]), (2, .agg #[.pointer (some ⟨g, 2, none⟩), .int .i64 2, .int .i64 0, .int .i64 60]), (3, .agg #[.pointer (some ⟨g, 3, none⟩), .int .i64 2, .int .i64 0, .int .i64 40]), (4, .agg #[.pointer (some ⟨g, 4, none⟩), .int .i64 2, .int .i64 0, .int .i64 60])] (by rfl) (hb48 g)) ?_
  refine rdH 21 rfl (fun K hK => ?_)
  refine step_st 147 (.tmp 2) (.tmp 23) (by rfl) (by rfl) (by rfl) (f := 0) (by rfl) (l := fV g) (by rfl) hz.drew (by simp [fV, fE, zFs, zF]) sizeFs (one_fV g) ?_
  intro w10 hz10 hG10
  refine hK.out _ _ (trivial) (fun hHeld => ?_)
  clear hK K
  try simp only [nP]
  refine wpAnyH_done (by kernel_rfl) ?_ _
  refine NoPanic.normal ?_
  rw [show zFs.take 0 ++ fV g ++ zFs.drop (0 + (fV g).length) = fV g from rfl] at hz10
  go_wp2
  refine ret_cell rfl rfl hz10.whole Tryz.underlying147 rfl sizeFs rfl ?_
  exact ⟨rfl, hB.drew.grown hG10 hB.size (by intro k hk; injection hk with hk; omega)⟩
theorem wpsz_any (n : Nat) (w : World) (hn : n < 9223372036854775808) :
    Calls Tryz.prog 94 #[.int .i64 (n : Int)] w fun e w' => e = .returned (.int .i64 (psz n : Int)) ∧ Below w.heap.size w w' := by
  have hw0 : IntKind.u64.wrap (n : Int) = (n : Int) := by rw [IntKind.wrap_u64]; omega
  have hp := psz_bd n
  go_enter Tryz.func94, Tryz.ntmps94
  go_wp2_with (fail)
  refine (putp_any (.slice none 0 0) [] n nob _ (Rd.nil _ _) (by omega) (by simp)).mono ?_
  rintro e w1 ⟨v1, rfl, ho1, hB1⟩
  rw [List.nil_append, length_packed] at ho1
  obtain ⟨A1, c1, rfl⟩ := own_shape ho1
  go_wp2
  go_ret
  exact ⟨rfl, hB1⟩
theorem tsz_any (v : Value) (t : List UInt8) (F : Nat → Prop) (w : World) (hv : Rd w F v (bys t)) (hn : t.length ≤ 1000000) :
    Calls Tryz.prog 93 #[v] w fun e w' => e = .returned (.int .i64 ((tb1 t).length : Int)) ∧ Below w.heap.size w w' := by
  obtain ⟨A, c, rfl⟩ := hv.shape
  have hp := psz_bd t.length
  have hl : (tb1 t).length = psz t.length + t.length := by unfold tb1; rw [List.length_append, length_packed]
  have hw : IntKind.i64.wrap ((psz t.length : Int) + (t.length : Int)) = (psz t.length : Int) + (t.length : Int) := IntWalk.i64_in _ (by omega)
  go_enter Tryz.func93, Tryz.ntmps93
  go_wp2_with (fail)
  refine (wpsz_any t.length _ (by omega)).mono ?_
  rintro e w1 ⟨rfl, hB1⟩
  go_wp2
  go_ret
  exact ⟨by rw [hl]; simp, hB1⟩
set_option maxRecDepth 100000 in
set_option maxHeartbeats 2000000 in
theorem size8g_any (m : Mg) (ub up : Value) (F1 F2 : Nat → Prop) (w : World) (hh : m.h.length = 32) (hs : MgSm m) (hub : Rd w F1 ub (bys m.b)) (hup : Rd w F2 up (tx m.ps)) :
    Calls Tryz.prog 65 #[m.val ub up] w fun e w' => e = .returned (.int .i64 ((Mg.by m).length : Int)) ∧ Below w.heap.size w w' := by
  obtain ⟨hsb, hsp, hst⟩ := hs
  obtain ⟨AB, cb, rfl⟩ := hub.shape
  obtain ⟨AP, cpp, rfl, _, _⟩ := hup.slShape
  unfold Mg.val
  have hby := len_by2 hh
  have hpb := psz_bd m.b.length
  have hpp := psz_bd m.ps.length
  have htl : (tb1 m.b).length = psz m.b.length + m.b.length := by unfold tb1; rw [List.length_append, length_packed]
  obtain ⟨l, hl⟩ : ∃ l, l = m.l (.slice AB m.b.length cb) (.slice AP m.ps.length cpp) := ⟨_, rfl⟩
  have h37 : l[37]? = some (.slice AB m.b.length cb) := by rw [hl]; exact mg_body hh _ _
  have h38 : l[38]? = some (.slice AP m.ps.length cpp) := by rw [hl]; exact mg_parts hh _ _
  rw [← hl]
  clear hl
  have hvb := Blk.new' w 47 l
  have hB : Below w.heap.size w (w.alloc (.cells l.toArray 47)) := (Below.refl _ _).alloc (Nat.le_refl _) _
  have hub := hub.below hB
  have hup := hup.below hB
  go_enter Tryz.func65, Tryz.ntmps65
  go_wp2_with (fail)
  obtain ⟨w0, hw0⟩ : ∃ w0, w0 = w.alloc (.cells l.toArray 47) := ⟨_, rfl⟩
  rw [← hw0] at hvb hB hub hup ⊢
  clear hw0
  obtain ⟨g, hg⟩ : ∃ g, g = w.heap.size := ⟨_, rfl⟩
  rw [← hg] at hvb ⊢
  clear hg
  refine (fields_any g w0).mono ?_
  rintro e w1 ⟨rfl, hB1⟩
  go_wp2
  go_loopw [3, 9] (fun nv iv wr => ∃ i : Nat, i ≤ 5 ∧ iv = .int .i64 i ∧ nv = .int .i64 ((32 + soff i : Nat) : Int) ∧ Below w0.heap.size w0 wr) (fun _ i _ => 5 - (intOf i).toNat)
  case atStart => exact ⟨0, Nat.zero_le _, rfl, rfl, hB1⟩
  case round =>
    clear hB1
    obtain ⟨i, hi, rfl, rfl, hBr⟩ := hrel
    by_cases hlt : i < 5
    · have hI : (i : Int) < 5 := by omega
      have hss := soff_succ i hlt
      obtain ⟨N, hN⟩ : ∃ N, N = 32 + soff i := ⟨_, rfl⟩
      obtain ⟨s, hs⟩ : ∃ s, s = fsz i := ⟨_, rfl⟩
      have hNb : N ≤ 100 := by rw [hN]; unfold soff; split <;> omega
      have hsb : s ≤ 2 := by rw [hs]; unfold fsz; split <;> omega
      have hc1 : (fE g i)[1]? = some (.int .i64 (s : Int)) := by rw [hs]; rfl
      have hnx : 32 + soff (i + 1) = N + s := by omega
      rw [← hN]
      have Hnx := hid hnx
      have hwr : IntKind.i64.wrap ((N : Int) + (s : Int)) = (N : Int) + (s : Int) := IntWalk.i64_in _ (by omega)
      clear hN hs hnx hss
      go_wp2_with (first | refine wp_idxW 147 (.tmp 8) (.tmp 9) rfl rfl (l := fV g) rfl rfl Tryz.underlying147 hlt aggF sizeF1 ?_; rw [fV_at g i hlt] | refine wp_newst 146 5 (.tmp 11) rfl rfl rfl rfl rfl rfl zeroF1 (l := fE g i) rfl rfl sizeF1 (one_fE g i) (by simp [Act.put]) ?_; intro w2 hf2 hB2 hs2; refine wp_stop ?_)
      have d1 := hf2.cellAt 1 _ hc1
      have hB2 := hBr.trans (hB2.mono hBr.size)
      refine wp_go ?_
      go_wp2
      go_roundw
      case rel => exact ⟨i + 1, by omega, by go_num, by rw [Hnx.out]; simp, hB2⟩
      case measure => simp [intOf]; omega
    · have hi' : i = 5 := by omega
      subst hi'
      have hI : ¬ (5 : Int) < 5 := by omega
      go_upto_region 7 with (fail)
      rw [show 32 + soff 5 = 40 from rfl]
      obtain ⟨T, hT⟩ : ∃ T, T = (tb1 m.b).length := ⟨_, rfl⟩
      obtain ⟨P, hP⟩ : ∃ P, P = psz m.ps.length := ⟨_, rfl⟩
      have hTb : T ≤ 1000010 := by omega
      have hPb : P ≤ 10 := by omega
      have HT := hid hT
      have HP := hid hP
      have hw1 : IntKind.i64.wrap ((T : Int) + (P : Int)) = (T : Int) + (P : Int) := IntWalk.i64_in _ (by omega)
      have hw2 : IntKind.i64.wrap (40 + ((T : Int) + (P : Int))) = 40 + ((T : Int) + (P : Int)) := IntWalk.i64_in _ (by omega)
      have hvr := hvb.below hBr
      have hubr := hub.below hBr
      have hupr := hup.below hBr
      have HB : Hid (∀ W, Ch nob wr W → W.cell? ⟨g, 37, none⟩ = some (.slice AB m.b.length cb)) := fun W h => (hvr.ch h (fun h => h)).cellAt 37 _ h37
      have HQ : Hid (∀ W, Ch nob wr W → W.cell? ⟨g, 38, none⟩ = some (.slice AP m.ps.length cpp)) := fun W h => (hvr.ch h (fun h => h)).cellAt 38 _ h38
      have htz := fun W h => tsz_any (.slice AB m.b.length cb) m.b F1 W h hsb
      have hpz := fun W => wpsz_any m.ps.length W (by omega)
      rw [← hT] at htz
      rw [← hP] at hpz
      have Htz := hid htz
      have Hpz := hid hpz
      clear hT hP htz hpz
      refine wp_region_noPanic ?_
      refine wp_region_held_drew (S := Ch nob wr) (by kernel_rfl) ((Ch.refl _ _).drew) (fun hHeld => ?_)
      refine tkP 0 rfl ?_
      refine tkP 1 rfl ?_
      refine tkF 2 rfl HB.out ?_
      refine tkP 4 rfl ?_
      refine tkF 5 rfl HQ.out ?_
      refine tkP 6 rfl ?_
      refine rdH 3 rfl (fun K hK => ?_)
      go_simp
      refine (Htz.out _ (hubr.ext hHeld)).mono ?_
      rintro e' w11 ⟨rfl, hB11⟩
      have hC11 := hHeld.belowR hB11
      refine hK.out _ _ (hC11) (fun hHeld => ?_)
      clear hK K
      try simp only [nP]
      refine rdH 7 rfl (fun K hK => ?_)
      go_simp
      refine (Hpz.out _).mono ?_
      rintro e' w12 ⟨rfl, hB12⟩
      have hC12 := hC11.belowR hB12
      refine hK.out _ _ (hC12) (fun hHeld => ?_)
      clear hK K
      try simp only [nP]
      refine tkP 8 rfl ?_
      refine tkP 9 rfl ?_
      refine tkP 10 rfl ?_
      refine wpAnyH_done (by kernel_rfl) ?_ _
      refine NoPanic.normal ?_
      have hB2 := hBr.trans (hC12.below.mono hBr.size)
      obtain ⟨N, hN⟩ : ∃ N, N = 40 + (T + P) := ⟨_, rfl⟩
      rw [show (40 : Int) + ((T : Int) + (P : Int)) = (N : Int) from by omega]
      have Hby : Hid ((Mg.by m).length = N + (m.ps.flatMap tb1).length) := by show _ = _; rw [hN, HT.out, HP.out]; omega
      have hNb : N ≤ 2000000 := by omega
      have c38 := (hvb.below hB2).cellAt 38 _ h38
      clear hw1 hw2 HB HQ Htz Hpz hN HT HP hTb hPb hvr hubr hupr hBr hC11 hC12 hHeld
      go_wp2
      clear c38
      go_loopw [3, 30] (fun nv iv wr => ∃ i : Nat, i ≤ m.ps.length ∧ iv = .int .i64 i ∧ nv = .int .i64 ((N + ((m.ps.take i).flatMap tb1).length : Nat) : Int) ∧ Below w0.heap.size w0 wr) (fun _ i _ => m.ps.length - (intOf i).toNat)
      case atStart => exact ⟨0, Nat.zero_le _, rfl, by rw [List.take_zero, List.flatMap_nil]; rfl, hB2⟩
      case round =>
        clear hB2
        obtain ⟨i, hi, rfl, rfl, hBr⟩ := hrel
        by_cases hlt : i < m.ps.length
        · obtain ⟨t, ht⟩ : ∃ t, m.ps[i]? = some t := ⟨_, List.getElem?_eq_getElem hlt⟩
          have hI : (i : Int) < (m.ps.length : Int) := by omega
          obtain ⟨G, off, u, rfl, hG, hcu, hu⟩ := Rd.elem (hup.below hBr) i (bys t) (by rw [List.getElem?_map, ht]; rfl)
          obtain ⟨A1, c1, rfl⟩ := hu.shape
          have htl := hst t (List.mem_of_getElem? ht)
          have hlf := len_partsG (m.ps.take i) (fun x hx => hst x (List.mem_of_mem_take hx))
          rw [List.length_take] at hlf
          obtain ⟨Z, hZ⟩ : ∃ Z, Z = N + ((m.ps.take i).flatMap tb1).length := ⟨_, rfl⟩
          obtain ⟨s, hs⟩ : ∃ s, s = (tb1 t).length := ⟨_, rfl⟩
          have hsl : s ≤ 1000010 := by have := psz_bd t.length; rw [hs]; unfold tb1; rw [List.length_append, length_packed]; omega
          have hZb : Z ≤ 1100000000 := by rw [hZ]; omega
          have hnx : N + ((m.ps.take (i + 1)).flatMap tb1).length = Z + s := by rw [take_snocT ht, List.flatMap_append, List.flatMap_singleton, List.length_append, hZ, hs]; omega
          rw [← hZ]
          have htz := tsz_any _ t _ _ hu (by omega)
          rw [← hs] at htz
          have Hnx := hid hnx
          have Htz := hid htz
          have hwr : IntKind.i64.wrap ((Z : Int) + (s : Int)) = (Z : Int) + (s : Int) := IntWalk.i64_in _ (by omega)
          clear hZ hs hnx htz hlf ht
          go_wp2_with (fail)
          refine Htz.out.mono ?_
          rintro e w2 ⟨rfl, hB2⟩
          have hB2 := hBr.trans (hB2.mono hBr.size)
          go_wp2
          go_roundw
          case rel => exact ⟨i + 1, by omega, by go_num, by rw [Hnx.out]; simp, hB2⟩
          case measure => simp [intOf]; omega
        · have hi' : i = m.ps.length := by omega
          subst hi'
          have hI : ¬ (m.ps.length : Int) < (m.ps.length : Int) := by omega
          rw [List.take_length, ← Hby.out]
          go_wp2
          go_ret
          exact ⟨rfl, hB.trans (hBr.mono hB.size)⟩
end Go.Proofs.YtnhhbbjkeekneaaGreatDoor
/- YD: layer 8: what a reader of messages says, as a list function. -/
namespace Go.Proofs.YtnhhbbjkeekneaaGreatDoor
open Go.RowKit Go.V
def szs8 : List Nat := [1, 1, 2, 2, 2] ++ List.replicate 32 1
/-- fixed numbers, one behind the other, from k on -/
def fldR : List Nat → Nat → List UInt8 → Except Nat (List Nat)
  | [], _, _ => .ok []
  | n :: ns, k, X => match fixRd (n : Int) (X.drop k) with
    | .error e => .error e
    | .ok x => match fldR ns (k + n) X with
      | .error e => .error e
      | .ok xs => .ok (x :: xs)
/-- c texts, one behind the other, from k on; where they end -/
def prtR : Nat → Nat → List UInt8 → Except Nat (List (List UInt8) × Nat)
  | 0, k, _ => .ok ([], k)
  | c + 1, k, X => match textR 65536 (X.drop k) with
    | .error e => .error e
    | .ok (n, z) => match prtR c (k + (z + n)) X with
      | .error e => .error e
      | .ok (ts, k') => .ok (((X.drop k).drop z).take n :: ts, k')
def mkM (xs : List Nat) (b : List UInt8) (ps : List (List UInt8)) : Mg :=
  ⟨(xs.getD 0 0 : Nat), (xs.getD 1 0 : Nat), (xs.getD 2 0 : Nat), (xs.getD 3 0 : Nat), (xs.getD 4 0 : Nat), (xs.drop 5).map UInt8.ofNat, b, ps⟩
/-- the message that X tells, or the error that is met first -/
def rdM (X : List UInt8) : Except Nat Mg := match fldR szs8 0 X with
  | .error e => .error e
  | .ok xs => match textR 65536 (X.drop 40) with
    | .error e => .error e
    | .ok (n, z) => match cntR 16 (readPk (X.drop (40 + (z + n)))) with
      | .error e => .error e
      | .ok (c, y) => match prtR c (40 + (z + n) + y) X with
        | .error e => .error e
        | .ok (ts, k) => if k < X.length then .error 2 else if numB (mkM xs (((X.drop 40).drop z).take n) ts) = true then .ok (mkM xs (((X.drop 40).drop z).take n) ts) else .error 15
theorem fldR_snoc : ∀ (a : List Nat) (n k : Nat) (X : List UInt8) (xs : List Nat) (x : Nat), fldR a k X = .ok xs → fixRd (n : Int) (X.drop (k + a.sum)) = .ok x → fldR (a ++ [n]) k X = .ok (xs ++ [x])
  | [], n, k, X, xs, x, h, h2 => by
    simp only [fldR, Except.ok.injEq] at h
    subst h
    simp only [List.sum_nil, Nat.add_zero] at h2
    simp only [List.nil_append, fldR, h2]
  | m :: a, n, k, X, xs, x, h, h2 => by
    simp only [fldR] at h
    simp only [List.cons_append, fldR]
    cases h3 : fixRd (m : Int) (X.drop k) with
    | error e => rw [h3] at h; cases h
    | ok y =>
      rw [h3] at h
      dsimp only at h ⊢
      cases h4 : fldR a (k + m) X with
      | error e => rw [h4] at h; cases h
      | ok ys =>
        rw [h4] at h
        dsimp only at h
        injection h with h
        subst h
        rw [fldR_snoc a n (k + m) X ys x h4 (by rw [List.sum_cons, ← Nat.add_assoc] at h2; exact h2)]
        rfl
theorem fldR_err : ∀ (a b : List Nat) (n k : Nat) (X : List UInt8) (xs : List Nat) (e : Nat), fldR a k X = .ok xs → fixRd (n : Int) (X.drop (k + a.sum)) = .error e → fldR (a ++ n :: b) k X = .error e
  | [], b, n, k, X, xs, e, h, h2 => by
    simp only [List.sum_nil, Nat.add_zero] at h2
    simp only [List.nil_append, fldR, h2]
  | m :: a, b, n, k, X, xs, e, h, h2 => by
    simp only [fldR] at h
    simp only [List.cons_append, fldR]
    cases h3 : fixRd (m : Int) (X.drop k) with
    | error e => rw [h3] at h; cases h
    | ok y =>
      rw [h3] at h
      dsimp only at h ⊢
      cases h4 : fldR a (k + m) X with
      | error e => rw [h4] at h; cases h
      | ok ys => rw [fldR_err a b n (k + m) X ys e h4 (by rw [List.sum_cons, ← Nat.add_assoc] at h2; exact h2)]
theorem prtR_snoc : ∀ (c k : Nat) (X : List UInt8) (ts : List (List UInt8)) (k' n z : Nat), prtR c k X = .ok (ts, k') → textR 65536 (X.drop k') = .ok (n, z) → prtR (c + 1) k X = .ok (ts ++ [((X.drop k').drop z).take n], k' + (z + n))
  | 0, k, X, ts, k', n, z, h, h2 => by
    simp only [prtR, Except.ok.injEq, Prod.mk.injEq] at h
    obtain ⟨rfl, rfl⟩ := h
    simp only [prtR, h2, List.nil_append]
  | c + 1, k, X, ts, k', n, z, h, h2 => by
    rw [prtR] at h ⊢
    cases h3 : textR 65536 (X.drop k) with
    | error e => rw [h3] at h; cases h
    | ok r =>
      obtain ⟨n1, z1⟩ := r
      rw [h3] at h
      dsimp only at h ⊢
      cases h4 : prtR c (k + (z1 + n1)) X with
      | error e => rw [h4] at h; cases h
      | ok r2 =>
        obtain ⟨ts2, k2⟩ := r2
        rw [h4] at h
        dsimp only at h
        injection h with h
        injection h with h5 h6
        subst h5; subst h6
        rw [prtR_snoc c _ X ts2 k2 n z h4 h2]
        rfl
theorem prtR_err : ∀ (c d k : Nat) (X : List UInt8) (ts : List (List UInt8)) (k' e : Nat), prtR c k X = .ok (ts, k') → textR 65536 (X.drop k') = .error e → prtR (c + (d + 1)) k X = .error e
  | 0, d, k, X, ts, k', e, h, h2 => by
    simp only [prtR, Except.ok.injEq, Prod.mk.injEq] at h
    obtain ⟨rfl, rfl⟩ := h
    rw [Nat.zero_add, prtR, h2]
  | c + 1, d, k, X, ts, k', e, h, h2 => by
    rw [show c + 1 + (d + 1) = (c + (d + 1)) + 1 from by omega]
    rw [prtR] at h ⊢
    cases h3 : textR 65536 (X.drop k) with
    | error e => rw [h3] at h; cases h
    | ok r =>
      obtain ⟨n1, z1⟩ := r
      rw [h3] at h
      dsimp only at h ⊢
      cases h4 : prtR c (k + (z1 + n1)) X with
      | error e => rw [h4] at h; cases h
      | ok r2 =>
        obtain ⟨ts2, k2⟩ := r2
        rw [h4] at h
        dsimp only at h
        injection h with h
        injection h with _ h6
        subst h6
        rw [prtR_err c d _ X ts2 k2 e h4 h2]
theorem prtR_len : ∀ (c k : Nat) (X : List UInt8) (ts : List (List UInt8)) (k' : Nat), prtR c k X = .ok (ts, k') → ts.length = c
  | 0, k, X, ts, k', h => by
    simp only [prtR, Except.ok.injEq, Prod.mk.injEq] at h
    rw [← h.1]; rfl
  | c + 1, k, X, ts, k', h => by
    rw [prtR] at h
    cases h3 : textR 65536 (X.drop k) with
    | error e => rw [h3] at h; cases h
    | ok r =>
      obtain ⟨n1, z1⟩ := r
      rw [h3] at h
      dsimp only at h
      cases h4 : prtR c (k + (z1 + n1)) X with
      | error e => rw [h4] at h; cases h
      | ok r2 =>
        obtain ⟨ts2, k2⟩ := r2
        rw [h4] at h
        dsimp only at h
        injection h with h
        injection h with h5 h6
        rw [← h5, List.length_cons, prtR_len c _ X ts2 k2 h4]
theorem fldR_len : ∀ (a : List Nat) (k : Nat) (X : List UInt8) (xs : List Nat), fldR a k X = .ok xs → xs.length = a.length
  | [], k, X, xs, h => by simp only [fldR, Except.ok.injEq] at h; rw [← h]
  | m :: a, k, X, xs, h => by
    simp only [fldR] at h
    cases h3 : fixRd (m : Int) (X.drop k) with
    | error e => rw [h3] at h; cases h
    | ok y =>
      rw [h3] at h
      dsimp only at h
      cases h4 : fldR a (k + m) X with
      | error e => rw [h4] at h; cases h
      | ok ys =>
        rw [h4] at h
        dsimp only at h
        injection h with h
        rw [← h, List.length_cons, fldR_len a _ X ys h4, List.length_cons]
theorem fixRd_ok {n : Nat} {l : List UInt8} {x : Nat} (ho : okN (n : Int)) (h : fixRd (n : Int) l = .ok x) : n ≤ l.length ∧ x = fixN (l.take n) ∧ x < 256 ^ n := by
  unfold fixRd at h
  rw [if_pos ho, Int.toNat_natCast] at h
  split at h
  · cases h
  · rename_i hl
    injection h with h
    subst h
    refine ⟨by omega, rfl, ?_⟩
    have := fixN_lt (l.take n)
    rwa [List.length_take, Nat.min_eq_left (by omega)] at this
theorem fixRd_err {n : Nat} {l : List UInt8} {e : Nat} (ho : okN (n : Int)) (h : fixRd (n : Int) l = .error e) : e = 1 := by
  unfold fixRd at h
  rw [if_pos ho] at h
  split at h
  · injection h with h; omega
  · cases h
theorem textR_err {most : Int} {l : List UInt8} {e : Nat} (h : textR most l = .error e) : e = 1 ∨ e = 2 ∨ e = 3 := by
  unfold textR at h
  cases hc : cntR most (readPk l) with
  | error e' => rw [hc] at h; dsimp only at h; injection h with h; subst h; exact cntR_err hc
  | ok r =>
    obtain ⟨n, z⟩ := r
    rw [hc] at h
    dsimp only at h
    split at h
    · injection h with h; omega
    · cases h
/-! what was put, whole or cut off -/
/-- pieces that are put and read: fixed numbers -/
def putN : List (Nat × Nat) → List UInt8
  | [] => []
  | (n, x) :: l => fixR (n : Int) x ++ putN l
theorem fix_len (n x : Nat) (ho : okN (n : Int)) : (fixR (n : Int) x).length = n := by
  unfold fixR
  rw [if_pos ho, Int.toNat_natCast]
  simp [fixB]
theorem fldR_put : ∀ (l : List (Nat × Nat)) (_ : ∀ p ∈ l, okN (p.1 : Int) ∧ p.2 < 256 ^ p.1) (k : Nat) (X R : List UInt8) (_ : X.drop k = putN l ++ R), fldR (l.map (·.1)) k X = .ok (l.map (·.2))
  | [], _, k, X, R, _ => rfl
  | (n, x) :: l, h, k, X, R, hX => by
    obtain ⟨ho, hx⟩ := h (n, x) (by simp)
    rw [List.map_cons, fldR, hX, putN, List.append_assoc, fixRd_of n x _ ho hx]
    dsimp only
    rw [fldR_put l (fun p hp => h p (by simp [hp])) (k + n) X R (by rw [← List.drop_drop, hX, putN, List.append_assoc]; exact List.drop_left' (fix_len n x ho))]
    rfl
theorem prtR_put : ∀ (ps : List (List UInt8)) (_ : ∀ t ∈ ps, t.length ≤ 65536) (k : Nat) (X R : List UInt8) (_ : X.drop k = ps.flatMap tb1 ++ R), prtR ps.length k X = .ok (ps, k + (ps.flatMap tb1).length)
  | [], _, k, X, R, _ => by simp [prtR]
  | t :: ps, h, k, X, R, hX => by
    have ht := h t (by simp)
    have e : X.drop k = (packed t.length ++ t) ++ (ps.flatMap tb1 ++ R) := by rw [hX, List.flatMap_cons, tb1, List.append_assoc]
    have hd : X.drop (k + (psz t.length + t.length)) = ps.flatMap tb1 ++ R := by
      rw [← List.drop_drop, e]
      exact List.drop_left' (by rw [List.length_append, length_packed])
    have ht2 : ((X.drop k).drop (psz t.length)).take t.length = t := by
      rw [e, List.append_assoc, ← length_packed, List.drop_left, List.take_left]
    rw [List.length_cons, prtR, show textR 65536 (X.drop k) = .ok (t.length, psz t.length) from by rw [e]; exact textR_of 65536 t _ (by omega) (by omega)]
    dsimp only
    rw [ht2]
    rw [prtR_put ps (fun x hx => h x (by simp [hx])) _ X R hd]
    dsimp only
    rw [List.flatMap_cons, List.length_append, tb1, List.length_append, length_packed]
    congr 2
    omega
/-- a message's head, as numbers -/
def hdN (m : Mg) : List (Nat × Nat) := [(1, un m.k), (1, un m.f), (2, un m.v), (2, un m.r), (2, un m.s)] ++ m.h.map (fun c => (1, c.toNat))
theorem fix1 (c : UInt8) : fixR (1 : Int) c.toNat = [c] := by
  unfold fixR
  rw [if_pos (by unfold okN; omega)]
  simp [fixB, Nat.mod_eq_of_lt c.toNat_lt]
theorem putN_bytes : ∀ (h : List UInt8), putN (h.map (fun c => (1, c.toNat))) = h
  | [] => rfl
  | c :: h => by
    rw [List.map_cons, putN, putN_bytes h]
    rw [show ((1 : Nat) : Int) = (1 : Int) from rfl, fix1]
    rfl
theorem putN_hd (m : Mg) : putN (hdN m) = Mg.hd m := by
  unfold hdN Mg.hd
  rw [List.cons_append, putN, List.cons_append, putN, List.cons_append, putN, List.cons_append, putN, List.cons_append, putN, List.nil_append, putN_bytes]
  simp only [List.append_assoc]
  rfl
theorem hdN_szs {m : Mg} (hh : m.h.length = 32) : (hdN m).map (·.1) = szs8 := by
  unfold hdN szs8
  rw [List.map_append, List.map_map]
  congr 1
  rw [← hh]
  exact List.map_const'
theorem sum_szs8 : szs8.sum = 40 := by decide
structure NumIn (m : Mg) : Prop where
  k : 0 ≤ m.k ∧ m.k ≤ 255
  f : 0 ≤ m.f ∧ m.f ≤ 255
  v : 0 ≤ m.v ∧ m.v ≤ 65535
  r : 0 ≤ m.r ∧ m.r ≤ 65535
  s : 0 ≤ m.s ∧ m.s ≤ 65535
theorem numB_in {m : Mg} (h : numB m = true) : NumIn m := by
  unfold numB at h
  have := of_decide_eq_true h
  exact ⟨by omega, by omega, by omega, by omega, by omega⟩
theorem hdN_ok {m : Mg} (h : NumIn m) : ∀ p ∈ hdN m, okN (p.1 : Int) ∧ p.2 < 256 ^ p.1 := by
  intro p hp
  unfold hdN at hp
  simp only [List.cons_append, List.nil_append, List.mem_cons, List.mem_map] at hp
  obtain ⟨h1, h2, h3, h4, h5⟩ := h
  rcases hp with rfl | rfl | rfl | rfl | rfl | ⟨c, _, rfl⟩
  · exact ⟨by unfold okN; omega, by unfold un; show _ < 256 ^ 1; omega⟩
  · exact ⟨by unfold okN; omega, by unfold un; show _ < 256 ^ 1; omega⟩
  · exact ⟨by unfold okN; omega, by unfold un; show _ < 256 ^ 2; omega⟩
  · exact ⟨by unfold okN; omega, by unfold un; show _ < 256 ^ 2; omega⟩
  · exact ⟨by unfold okN; omega, by unfold un; show _ < 256 ^ 2; omega⟩
  · exact ⟨by unfold okN; omega, by have := c.toNat_lt; show _ < 256 ^ 1; omega⟩
theorem mkM_hd {m : Mg} (h : NumIn m) (b : List UInt8) (ps : List (List UInt8)) : mkM ((hdN m).map (·.2)) b ps = ⟨m.k, m.f, m.v, m.r, m.s, m.h, b, ps⟩ := by
  obtain ⟨h1, h2, h3, h4, h5⟩ := h
  unfold mkM hdN
  have e : ∀ x : Int, 0 ≤ x ∧ x ≤ 65535 → (un x : Int) = x := fun x hx => by unfold un; omega
  simp only [List.cons_append, List.nil_append, List.map_cons, List.map_map, List.getD_cons_zero, List.getD_cons_succ, List.drop_succ_cons, List.drop_zero]
  rw [e m.k (by omega), e m.f (by omega), e m.v (by omega), e m.r (by omega), e m.s (by omega)]
  congr 1
  have : (UInt8.ofNat ∘ (fun x : Nat × Nat => x.2) ∘ fun c : UInt8 => (1, c.toNat)) = id := by funext c; simp
  rw [this, List.map_id]
/-- the pieces of a message's bytes, whatever is behind them -/
theorem rdM_put {m : Mg} (hh : m.h.length = 32) (hn : numB m = true) (hb : m.b.length ≤ 65536) (hp : m.ps.length ≤ 16) (hps : ∀ t ∈ m.ps, t.length ≤ 65536) (R : List UInt8) :
    rdM (Mg.by m ++ R) = if R = [] then .ok m else .error 2 := by
  have hi := numB_in hn
  obtain ⟨X, hX⟩ : ∃ X, X = Mg.by m ++ R := ⟨_, rfl⟩
  rw [← hX]
  have e0 : X = putN (hdN m) ++ ((packed m.b.length ++ m.b) ++ (packed m.ps.length ++ (m.ps.flatMap tb1 ++ R))) := by
    rw [hX, putN_hd]; unfold Mg.by; simp only [List.append_assoc]
  have hl0 : (putN (hdN m)).length = 40 := by rw [putN_hd, len_hd hh]
  have e1 : X.drop 40 = (packed m.b.length ++ m.b) ++ (packed m.ps.length ++ (m.ps.flatMap tb1 ++ R)) := by rw [e0]; exact List.drop_left' hl0
  have e2 : X.drop (40 + (psz m.b.length + m.b.length)) = packed m.ps.length ++ (m.ps.flatMap tb1 ++ R) := by
    rw [← List.drop_drop, e1]; exact List.drop_left' (by rw [List.length_append, length_packed])
  have e3 : X.drop (40 + (psz m.b.length + m.b.length) + psz m.ps.length) = m.ps.flatMap tb1 ++ R := by
    rw [← List.drop_drop, e2]; exact List.drop_left' (by rw [length_packed])
  have f0 : fldR szs8 0 X = .ok ((hdN m).map (·.2)) := by
    rw [← hdN_szs hh]; exact fldR_put (hdN m) (hdN_ok hi) 0 X _ (by rw [List.drop_zero]; exact e0)
  have f1 : textR 65536 (X.drop 40) = .ok (m.b.length, psz m.b.length) := by rw [e1]; exact textR_of 65536 m.b _ (by omega) (by omega)
  have f1' : ((X.drop 40).drop (psz m.b.length)).take m.b.length = m.b := by rw [e1, List.append_assoc, ← length_packed, List.drop_left, List.take_left]
  have f2 : cntR 16 (readPk (X.drop (40 + (psz m.b.length + m.b.length)))) = .ok (m.ps.length, psz m.ps.length) := by rw [e2]; exact cntR_of 16 _ _ (by omega) (by omega)
  have f3 := prtR_put m.ps hps _ X R e3
  have hXl : X.length = 40 + (psz m.b.length + m.b.length) + psz m.ps.length + (m.ps.flatMap tb1).length + R.length := by
    rw [e0]; simp only [List.length_append, hl0, length_packed]; omega
  unfold rdM
  rw [f0]
  dsimp only
  rw [f1]
  dsimp only
  rw [f2]
  dsimp only
  rw [f3]
  dsimp only
  rw [f1', mkM_hd hi]
  by_cases hR : R = []
  · subst hR
    rw [if_neg (by rw [hXl]; simp), if_pos rfl]
    exact if_pos hn
  · have : 0 < R.length := List.length_pos_iff.2 hR
    rw [if_pos (by omega), if_neg hR]
end Go.Proofs.YtnhhbbjkeekneaaGreatDoor
/- YE: layer 8: contracts of wire: formed, bytesOf, Put. -/
namespace Go.V
open Go.RowKit
def fxm (m : Mg) (i : Nat) : Int := if i = 0 then m.k else if i = 1 then m.f else if i = 2 then m.v else if i = 3 then m.r else m.s
theorem mg_num {m : Mg} (ub up : Value) (i : Nat) (h : i < 5) : (m.l ub up)[i]? = some (.int .i64 (fxm m i)) := by
  match i, h with
  | 0, _ => rfl
  | 1, _ => rfl
  | 2, _ => rfl
  | 3, _ => rfl
  | 4, _ => rfl
theorem all5 {p : Nat → Prop} : (∀ j, j < 5 → p j) ↔ p 0 ∧ p 1 ∧ p 2 ∧ p 3 ∧ p 4 := by
  constructor
  · exact fun h => ⟨h 0 (by omega), h 1 (by omega), h 2 (by omega), h 3 (by omega), h 4 (by omega)⟩
  · rintro ⟨h0, h1, h2, h3, h4⟩ j hj
    match j, hj with
    | 0, _ => exact h0
    | 1, _ => exact h1
    | 2, _ => exact h2
    | 3, _ => exact h3
    | 4, _ => exact h4
theorem numB_true {m : Mg} (h : ∀ j, j < 5 → (flo j : Int) ≤ fxm m j ∧ fxm m j ≤ (fhi j : Int)) : numB m = true := by
  unfold numB
  rw [all5] at h
  simp [flo, fhi, fxm] at h
  exact decide_eq_true (by omega)
theorem numB_false {m : Mg} (i : Nat) (hi : i < 5) (h : ¬ ((flo i : Int) ≤ fxm m i ∧ fxm m i ≤ (fhi i : Int))) : numB m = false := by
  unfold numB
  refine decide_eq_false (fun hn => h ?_)
  have : ∀ j, j < 5 → (flo j : Int) ≤ fxm m j ∧ fxm m j ≤ (fhi j : Int) := by
    rw [all5]
    simp [flo, fhi, fxm]
    omega
  exact this i hi
theorem fx_in {m : Mg} (hm : MgIn m) (i : Nat) : in64w (fxm m i) := by
  unfold fxm
  repeat' split
  · exact hm.k
  · exact hm.f
  · exact hm.v
  · exact hm.r
  · exact hm.s
/-- 'append(v, s...)', v the call's own, in a region that draws its order -/
theorem step_app1 {P : Program} {w : World} {ops : Array Oper} {o : Oper} {a : Act} {K : Act → World → Prop} {Q : Exit → Act → World → Prop} {E : Prop} (s x : Operand) {t e : TypeId} {z : Value} {by_ : Nat} (ht : SlT P t e z by_) (hgd : o.guard = none)
    (ho : o.op = .call { callee := .builtin .append, args := #[s, x], argTypes := #[t, t] })
    {base : Nat} {v : Value} {n : Nat} {xs : List Value} (hs : a.eval s = v) (hown : w.ownsRow base e 1 v n xs)
    {A : Option Addr} {m c : Nat} {news : List Value} (hx : a.eval x = .slice A m c) (hsrc : Src w A m news) (h1 : ∀ u ∈ news, u.oneCell' = true)
    (h63 : n + m ≤ maxLen) (hb : (n + m) * by_ ≤ 140737488355328) (hbase : base ≤ w.heap.size)
    (h : ∀ v' w', w'.ownsRow base e 1 v' (n + m) (xs ++ news) → w.grownBy w' v.ownBlock → K (a.put o.dst v') w') :
    if Region.wanted o (yielded ops a.tmps) = true then Oper.wp P o a w K Q else E := by
  have hw : Region.wanted o (yielded ops a.tmps) = true := by simp [Region.wanted, hgd]
  rw [if_pos hw]
  obtain ⟨v', w', hr, h2, h3, _⟩ := run_append_src (P := P) base t o.type e z by_ ht v n xs hown A m c news hsrc h1 h63 hb hbase
  unfold Oper.wp execOp
  simp only [ho, resolve, invoke, builtin, Sem.run_bind, Sem.run_pure, Result.andThen_ok, List.map_toArray, List.map_cons, List.map_nil, hs, hx, hr]
  exact h v' w' h2 h3
end Go.V
namespace Go.Proofs.YtnhhbbjkeekneaaGreatDoor
open Go.RowKit Go.V
theorem okN_fsz (i : Nat) : okN (fsz i : Int) := by
  unfold okN fsz
  split <;> omega
def hp8 (m : Mg) (i : Nat) : List UInt8 := (List.range i).flatMap fun j => fixR (fsz j : Int) (un (fxm m j))
theorem hp8_succ (m : Mg) (i : Nat) : hp8 m (i + 1) = hp8 m i ++ fixR (fsz i : Int) (un (fxm m i)) := by
  unfold hp8
  rw [List.range_succ, List.flatMap_append, List.flatMap_singleton]
theorem hp8_hd (m : Mg) : hp8 m 5 ++ m.h = Mg.hd m := by
  unfold Mg.hd
  congr 1
theorem len_fixS (i x : Nat) : (fixR (fsz i : Int) x).length = fsz i := fix_len (fsz i) x (okN_fsz i)
theorem len_hp8 (m : Mg) : ∀ i, (hp8 m i).length ≤ 2 * i
  | 0 => by unfold hp8; simp
  | i + 1 => by
    rw [hp8_succ, List.length_append, len_fixS]
    have := len_hp8 m i
    have : fsz i ≤ 2 := by unfold fsz; split <;> omega
    omega
set_option maxRecDepth 100000 in
set_option maxHeartbeats 4000000 in
theorem formed8_any (m : Mg) (ub up : Value) (w : World) (hm : MgIn m) :
    Calls Tryz.prog 66 #[m.val ub up] w fun e w' => e = .returned (.bool (numB m)) ∧ Below w.heap.size w w' := by
  have hnum := fun i h => mg_num (m := m) ub up i h
  have hfx := fun i => fx_in hm i
  unfold Mg.val
  obtain ⟨l, hl⟩ : ∃ l, l = m.l ub up := ⟨_, rfl⟩
  rw [← hl] at hnum ⊢
  clear hl hm
  have hvb := Blk.new' w 47 l
  have hB : Below w.heap.size w (w.alloc (.cells l.toArray 47)) := (Below.refl _ _).alloc (Nat.le_refl _) _
  have Hnum := hid hnum
  have Hfx := hid hfx
  clear hnum hfx
  go_enter Tryz.func66, Tryz.ntmps66
  go_wp2_with (fail)
  obtain ⟨w0, hw0⟩ : ∃ w0, w0 = w.alloc (.cells l.toArray 47) := ⟨_, rfl⟩
  rw [← hw0] at hvb hB ⊢
  clear hw0
  obtain ⟨g, hg⟩ : ∃ g, g = w.heap.size := ⟨_, rfl⟩
  rw [← hg] at hvb ⊢
  clear hg
  refine (fields_any g w0).mono ?_
  rintro e w1 ⟨rfl, hB1⟩
  go_wp2
  go_loopw [6] (fun iv wr => ∃ i : Nat, i ≤ 5 ∧ iv = .int .i64 i ∧ Hid (∀ j, j < i → (flo j : Int) ≤ fxm m j ∧ fxm m j ≤ (fhi j : Int)) ∧ Below w0.heap.size w0 wr) (fun i _ => 5 - (intOf i).toNat)
  case atStart => exact ⟨0, Nat.zero_le _, rfl, fun j hj => absurd hj (Nat.not_lt_zero _), hB1⟩
  case round =>
    clear hB1
    obtain ⟨i, hi, rfl, hall, hBr⟩ := hrel
    by_cases hlt : i < 5
    · have hI : (i : Int) < 5 := by omega
      obtain ⟨x, hx⟩ : ∃ x, x = fxm m i := ⟨_, rfl⟩
      obtain ⟨lo, hlo⟩ : ∃ lo, lo = flo i := ⟨_, rfl⟩
      obtain ⟨hi2, hhi⟩ : ∃ hi2, hi2 = fhi i := ⟨_, rfl⟩
      have hl := Hnum.out i hlt
      rw [← hx] at hl
      have e0 : (fE g i)[0]? = some (.pointer (some ⟨g, i, none⟩)) := rfl
      have e2 : (fE g i)[2]? = some (.int .i64 (lo : Int)) := by rw [hlo]; rfl
      have e3 : (fE g i)[3]? = some (.int .i64 (hi2 : Int)) := by rw [hhi]; rfl
      have Hx := hid hx
      have Hlo := hid hlo
      have Hhi := hid hhi
      clear hx hlo hhi
      go_wp2_with (first | refine wp_idxW 147 (.tmp 5) (.tmp 6) rfl rfl (l := fV g) rfl rfl Tryz.underlying147 hlt aggF sizeF1 ?_; rw [fV_at g i hlt] | refine wp_newst 146 4 (.tmp 8) rfl rfl rfl rfl rfl rfl zeroF1 (l := fE g i) rfl rfl sizeF1 (one_fE g i) (by simp [Act.put]) ?_; intro w2 hf2 hB2 hs2; refine wp_stop ?_)
      have hB2 := hBr.trans (hB2.mono hBr.size)
      have hv2 := hvb.below hB2
      obtain ⟨gf, hgf⟩ : ∃ gf, gf = wr.heap.size := ⟨_, rfl⟩
      rw [← hgf] at hf2 ⊢
      clear hgf hs2
      have HP : Hid (∀ W, Ch nob w2 W → W.cell? ⟨gf, 0, none⟩ = some (.pointer (some ⟨g, i, none⟩))) := fun W h => (hf2.ch h (fun h => h)).cellAt 0 _ e0
      have HL : Hid (∀ W, Ch nob w2 W → W.cell? ⟨gf, 2, none⟩ = some (.int .i64 (lo : Int))) := fun W h => (hf2.ch h (fun h => h)).cellAt 2 _ e2
      have HH : Hid (∀ W, Ch nob w2 W → W.cell? ⟨gf, 3, none⟩ = some (.int .i64 (hi2 : Int))) := fun W h => (hf2.ch h (fun h => h)).cellAt 3 _ e3
      have HX : Hid (∀ W, Ch nob w2 W → W.cell? ⟨g, i, none⟩ = some (.int .i64 x)) := fun W h => (hv2.ch h (fun h => h)).cellAt i _ hl
      clear e0 e2 e3 hl hf2 hv2
      refine wp_go ?_
      go_upto_region 4 with (fail)
      by_cases h1 : x < (lo : Int)
      · have hres : Hid (numB m = false) := numB_false i hlt (by rw [← Hx.out, ← Hlo.out]; omega)
        refine wp_region_noPanic ?_
        refine wp_region_held_drew (S := Ch nob w2) (by kernel_rfl) ((Ch.refl _ _).drew) (fun hHeld => ?_)
        refine tkP 0 rfl ?_
        refine tkF 1 rfl HP.out ?_
        refine tkP 2 rfl ?_
        refine tkF 3 rfl HX.out ?_
        refine tkP 4 rfl ?_
        refine tkF 5 rfl HL.out ?_
        refine tkP 6 rfl ?_
        refine tkP 7 rfl ?_
        refine tkS 8 rfl ?_
        refine tkS 9 rfl ?_
        refine tkS 10 rfl ?_
        refine tkS 11 rfl ?_
        refine tkS 12 rfl ?_
        refine tkS 13 rfl ?_
        refine tkS 14 rfl ?_
        refine tkP 15 rfl ?_
        refine wpAnyH_done (by kernel_rfl) ?_ _
        refine NoPanic.normal ?_
        go_wp2
        go_ret
        exact ⟨by rw [hres.out]; rfl, hB.trans (((hB2.trans (hHeld.below.mono hB2.size))).mono hB.size)⟩
      · by_cases h2 : (hi2 : Int) < x
        · have hres : Hid (numB m = false) := numB_false i hlt (by rw [← Hx.out, ← Hhi.out]; omega)
          refine wp_region_noPanic ?_
          refine wp_region_held_drew (S := Ch nob w2) (by kernel_rfl) ((Ch.refl _ _).drew) (fun hHeld => ?_)
          refine tkP 0 rfl ?_
          refine tkF 1 rfl HP.out ?_
          refine tkP 2 rfl ?_
          refine tkF 3 rfl HX.out ?_
          refine tkP 4 rfl ?_
          refine tkF 5 rfl HL.out ?_
          refine tkP 6 rfl ?_
          refine tkP 7 rfl ?_
          refine tkP 8 rfl ?_
          refine tkF 9 rfl HP.out ?_
          refine tkP 10 rfl ?_
          refine tkF 11 rfl HX.out ?_
          refine tkP 12 rfl ?_
          refine tkF 13 rfl HH.out ?_
          refine tkP 14 rfl ?_
          refine tkP 15 rfl ?_
          refine wpAnyH_done (by kernel_rfl) ?_ _
          refine NoPanic.normal ?_
          go_wp2
          go_ret
          exact ⟨by rw [hres.out]; rfl, hB.trans (((hB2.trans (hHeld.below.mono hB2.size))).mono hB.size)⟩
        · refine wp_region_noPanic ?_
          refine wp_region_held_drew (S := Ch nob w2) (by kernel_rfl) ((Ch.refl _ _).drew) (fun hHeld => ?_)
          refine tkP 0 rfl ?_
          refine tkF 1 rfl HP.out ?_
          refine tkP 2 rfl ?_
          refine tkF 3 rfl HX.out ?_
          refine tkP 4 rfl ?_
          refine tkF 5 rfl HL.out ?_
          refine tkP 6 rfl ?_
          refine tkP 7 rfl ?_
          refine tkP 8 rfl ?_
          refine tkF 9 rfl HP.out ?_
          refine tkP 10 rfl ?_
          refine tkF 11 rfl HX.out ?_
          refine tkP 12 rfl ?_
          refine tkF 13 rfl HH.out ?_
          refine tkP 14 rfl ?_
          refine tkP 15 rfl ?_
          refine wpAnyH_done (by kernel_rfl) ?_ _
          refine NoPanic.normal ?_
          go_wp2
          go_roundw
          case rel => exact ⟨i + 1, by omega, by go_num, fun j hj => by
            rcases Nat.lt_or_ge j i with h | h
            · exact hall.out j h
            · have : j = i := by omega
              subst this
              rw [← Hx.out, ← Hlo.out, ← Hhi.out]
              omega, hB2.trans (hHeld.below.mono hB2.size)⟩
          case measure => simp [intOf]; omega
    · have hi' : i = 5 := by omega
      subst hi'
      have hI : ¬ (5 : Int) < 5 := by omega
      have hres : Hid (numB m = true) := numB_true hall.out
      go_wp2
      go_ret
      exact ⟨by rw [hres.out]; rfl, hB.trans (hBr.mono hB.size)⟩
set_option maxRecDepth 100000 in
set_option maxHeartbeats 4000000 in
theorem bytesOf8_any (m : Mg) (ub up : Value) (F1 F2 : Nat → Prop) (w : World) (hm : MgIn m) (hs : MgSm m) (hub : Rd w F1 ub (bys m.b)) (hup : Rd w F2 up (tx m.ps)) :
    Calls Tryz.prog 67 #[m.val ub up] w fun e w' => ∃ v', e = .returned v' ∧ NewB w w' v' (Mg.by m) := by
  have hh := hm.h
  have hsz := fun W h1 h2 => size8g_any m ub up F1 F2 W hh hs h1 h2
  have hnum := fun i h => mg_num (m := m) ub up i h
  have hby := len_by2 hh
  obtain ⟨hsb, hsp, hst⟩ := hs
  obtain ⟨AB, cb, rfl⟩ := hub.shape
  obtain ⟨AP, cpp, rfl, _, _⟩ := hup.slShape
  unfold Mg.val at hsz ⊢
  have hpb := psz_bd m.b.length
  have hpp := psz_bd m.ps.length
  have hpg := len_partsG m.ps hst
  obtain ⟨L, hL⟩ : ∃ L, L = (Mg.by m).length := ⟨_, rfl⟩
  rw [← hL] at hsz
  have hLb : L ≤ 1100000000 := by omega
  obtain ⟨l, hl⟩ : ∃ l, l = m.l (.slice AB m.b.length cb) (.slice AP m.ps.length cpp) := ⟨_, rfl⟩
  have h37 : l[37]? = some (.slice AB m.b.length cb) := by rw [hl]; exact mg_body hh _ _
  have h38 : l[38]? = some (.slice AP m.ps.length cpp) := by rw [hl]; exact mg_parts hh _ _
  have hha : ∀ (j : Nat) v, (bvs m.h)[j]? = some v → l[5 + j]? = some v := by rw [hl]; exact mg_hash hh _ _
  have hmn : l.length = 39 := by rw [hl]; exact len_mg hh _ _
  rw [← hl] at hsz hnum ⊢
  have Hmn := hid hmn
  have Hnum := hid hnum
  have Hha := hid hha
  have Hby := hid hby
  clear hl hL hmn hnum hha hby hm
  have hvb := Blk.new' w 47 l
  have hB : Below w.heap.size w (w.alloc (.cells l.toArray 47)) := (Below.refl _ _).alloc (Nat.le_refl _) _
  have hub := hub.below hB
  have hup := hup.below hB
  have Hsz := hid hsz
  clear hsz
  go_enter Tryz.func67, Tryz.ntmps67
  go_wp2_with (refine wp_ld 47 (.tmp 1) rfl rfl rfl hvb.whole Tryz.underlying47 rfl (by rw [Hmn.out]; exact sizeM) ?_)
  obtain ⟨w0, hw0⟩ : ∃ w0, w0 = w.alloc (.cells l.toArray 47) := ⟨_, rfl⟩
  rw [← hw0] at hvb hB hub hup ⊢
  clear hw0
  have hB0 := hB
  have hBs := hB.size
  obtain ⟨g, hg⟩ : ∃ g, g = w.heap.size := ⟨_, rfl⟩
  rw [← hg] at hvb ⊢
  clear hg hB
  refine (Hsz.out _ hub hup).mono ?_
  rintro e w1 ⟨rfl, hB1⟩
  go_wp2_with (refine wp_mk0 slB rfl (.const (.int .i64 0)) (.tmp 9) rfl rfl L rfl rfl (by omega) (by simp only [maxLen]; omega) ?_; intro w2 hro hB2; refine wp_stop ?_)
  have hB2 := hB1.trans (hB2.mono hB1.size)
  have hro : w2.ownsRow w0.heap.size 5 1 (.slice (some ⟨w1.heap.size, 0, none⟩) 0 L) 0 [] := own_weak hro hB1.size
  obtain ⟨g1, hg1⟩ : ∃ g1, g1 = w1.heap.size := ⟨_, rfl⟩
  rw [← hg1] at hro ⊢
  clear hg1 hB1 Hsz
  refine wp_go ?_
  go_wp2_with (fail)
  refine (fields_any g w2).mono ?_
  rintro e w3 ⟨rfl, hB3⟩
  have hro := own_bel hro hB3
  have hB3 := hB2.trans (hB3.mono hB2.size)
  clear hB2
  go_wp2
  go_loopw [3, 12] (fun bv iv wr => ∃ i : Nat, i ≤ 5 ∧ iv = .int .i64 i ∧ wr.ownsRow w0.heap.size 5 1 bv (hp8 m i).length (bvs (hp8 m i)) ∧ Below w0.heap.size w0 wr) (fun _ i _ => 5 - (intOf i).toNat)
  case atStart => exact ⟨0, Nat.zero_le _, rfl, hro, hB3⟩
  case round =>
    clear hro hB3
    obtain ⟨i, hi, rfl, hro, hBr⟩ := hrel
    by_cases hlt : i < 5
    · have hI : (i : Int) < 5 := by omega
      have hpl := len_hp8 m i
      have hsu := hp8_succ m i
      obtain ⟨P, hP⟩ : ∃ P, P = hp8 m i := ⟨_, rfl⟩
      rw [← hP] at hro hpl hsu
      obtain ⟨q, hq⟩ : ∃ q, q = fixR (fsz i : Int) (un (fxm m i)) := ⟨_, rfl⟩
      have hql : q.length ≤ 2 := by rw [hq, len_fixS]; unfold fsz; split <;> omega
      obtain ⟨x, hx⟩ : ∃ x, x = fxm m i := ⟨_, rfl⟩
      obtain ⟨s, hs⟩ : ∃ s, s = fsz i := ⟨_, rfl⟩
      have hput := fun W => putx_any (.slice none 0 0) [] (un x) (s : Int) nob W (Rd.nil _ _) (un_lt x) (by simp)
      rw [← hq] at hsu
      rw [hx, hs, ← hq, List.nil_append] at hput
      rw [← hx, ← hs] at hput
      have hl := Hnum.out i hlt
      rw [← hx] at hl
      have e0 : (fE g i)[0]? = some (.pointer (some ⟨g, i, none⟩)) := rfl
      have e1 : (fE g i)[1]? = some (.int .i64 (s : Int)) := by rw [hs]; rfl
      have Hsu := hid hsu
      have Hput := hid hput
      have hwx := un_wrap x
      clear hP hq hx hs hsu hput
      go_wp2_with (first | refine wp_idxW 147 (.tmp 11) (.tmp 12) rfl rfl (l := fV g) rfl rfl Tryz.underlying147 hlt aggF sizeF1 ?_; rw [fV_at g i hlt] | refine wp_newst 146 5 (.tmp 14) rfl rfl rfl rfl rfl rfl zeroF1 (l := fE g i) rfl rfl sizeF1 (one_fE g i) (by simp [Act.put]) ?_; intro w2 hf2 hB2 hs2; refine wp_stop ?_)
      have hro := own_bel hro hB2
      have hB2 := hBr.trans (hB2.mono hBr.size)
      have hv2 := hvb.below hB2
      obtain ⟨gf, hgf⟩ : ∃ gf, gf = wr.heap.size := ⟨_, rfl⟩
      rw [← hgf] at hf2 ⊢
      clear hgf hs2
      have HP : Hid (∀ W, Ch (ownB u3) w2 W → W.cell? ⟨gf, 0, none⟩ = some (.pointer (some ⟨g, i, none⟩))) := fun W h => (hf2.ch h (fun h => blk_row hf2 hro (by decide) h.symm)).cellAt 0 _ e0
      have HS : Hid (∀ W, Ch (ownB u3) w2 W → W.cell? ⟨gf, 1, none⟩ = some (.int .i64 (s : Int))) := fun W h => (hf2.ch h (fun h => blk_row hf2 hro (by decide) h.symm)).cellAt 1 _ e1
      have HX : Hid (∀ W, Ch (ownB u3) w2 W → W.cell? ⟨g, i, none⟩ = some (.int .i64 x)) := fun W h => (hv2.ch h (fun h => blk_row hv2 hro (by decide) h.symm)).cellAt i _ hl
      clear e0 e1 hl
      refine wp_go ?_
      go_upto_region 5 with (fail)
      refine wp_region_noPanic ?_
      refine wp_region_held_drew (S := Ch (ownB u3) w2) (by kernel_rfl) ((Ch.refl _ _).drew) (fun hHeld => ?_)
      refine tkP 0 rfl ?_
      refine tkP 1 rfl ?_
      refine tkF 2 rfl HP.out ?_
      refine tkP 3 rfl ?_
      refine tkF 4 rfl HX.out ?_
      refine tkP 5 rfl ?_
      refine tkP 6 rfl ?_
      refine tkF 7 rfl HS.out ?_
      refine rdH 8 rfl (fun K hK => ?_)
      go_simp
      refine (Hput.out _).mono ?_
      rintro e' w11 ⟨v11, rfl, ho11, hB11⟩
      obtain ⟨A11, c11, rfl⟩ := own_shape ho11
      have hC11 := hHeld.belowR hB11
      have hr11 := own_bel (w := w2.drew) hro hB11
      refine hK.out _ _ (hC11) (fun hHeld => ?_)
      clear hK K
      try simp only [nP]
      refine rdH 9 rfl (fun K hK => ?_)
      refine step_app1 (.tmp 15) (.tmp 23) slB (by rfl) (by rfl) (by rfl) hr11 (by rfl) (Rd.of_own ho11).src (oneCell_bvs _) (by simp only [maxLen]; omega) (by omega) (Nat.le_trans hB2.size hC11.size) ?_
      intro v12 w12 ho12 hG12
      have hC12 := hC11.grow hG12 (fun k hk => .inl hk)
      refine hK.out _ _ (hC12) (fun hHeld => ?_)
      clear hK K
      try simp only [nP]
      refine tkP 10 rfl ?_
      refine wpAnyH_done (by kernel_rfl) ?_ _
      refine NoPanic.normal ?_
      have hro := own_join ho12
      rw [← Hsu.out] at hro
      have hB3 := Ch.below_of hB2 hC12 (fun k hk => (hr11.lt k hk).1) hB2.size
      go_wp2
      go_roundw
      case rel => exact ⟨i + 1, by omega, by go_num, hro, hB3⟩
      case measure => simp [intOf]; omega
    · have hi' : i = 5 := by omega
      subst hi'
      have hI : ¬ (5 : Int) < 5 := by omega
      have hB := hBr
      obtain ⟨P0, hP0, hro⟩ : ∃ P, P = hp8 m 5 ∧ wr.ownsRow w0.heap.size 5 1 u3 P.length (bvs P) := ⟨_, rfl, hro⟩
      have hm0 : P0.length ≤ 10 := by rw [hP0]; exact len_hp8 m 5
      have HP0 := hid hP0
      clear hP0 hBr
      have hv := hvb.below hB
      have hsl := fun W => run_sla_all Tryz.underlying32 size8 g 5 (by omega) W
      have hsr : Src wr (some ⟨g, 5, none⟩) 32 (bvs m.h) := ⟨by rw [len_bvs, hh], fun j u hu => ⟨g, 5, rfl, hv.cellAt _ u (Hha.out j u hu)⟩⟩
      go_wp2_with (refine wp_app (.tmp 26) (.tmp 28) slB rfl rfl rfl hro rfl hsr (oneCell_bvs _) (by simp only [maxLen]; omega) (by omega) hB.size ?_; intro y1 z1 hro2 hG1 _; refine wp_stop ?_)
      have hB := hB.grown hG1 hB.size (fun k hk => (hro.lt k hk).1)
      rw [show P0.length + 32 = P0.length + m.h.length from by rw [hh]] at hro2
      obtain ⟨P1, hP1, hro⟩ : ∃ P, P = P0 ++ m.h ∧ z1.ownsRow w0.heap.size 5 1 y1 P.length (bvs P) := ⟨_, rfl, own_join hro2⟩
      have hm1 : P1.length ≤ 42 := by rw [hP1, List.length_append, hh]; omega
      have HP1 := hid hP1
      clear hP1 hro2 hG1 hsr hsl hv
      have c37 := (hvb.below hB).cellAt 37 _ h37
      refine wp_go ?_
      go_wp2_with (fail)
      refine (putt_any (.slice none 0 0) _ [] m.b nob F1 _ (Rd.nil _ _) (hub.below hB) (by simp) (by omega)).mono ?_
      rintro e x6 ⟨v6, rfl, ho6, hB6⟩
      rw [List.nil_append] at ho6
      have hro := own_bel hro hB6
      have hB := hB.trans (hB6.mono hB.size)
      obtain ⟨q6, hq6⟩ : ∃ q, q = packed m.b.length ++ m.b := ⟨_, rfl⟩
      have hl6 : q6.length ≤ 1000010 := by rw [hq6]; rw [List.length_append, length_packed]; omega
      rw [← hq6] at ho6
      have Hq6 := hid hq6
      clear hq6 c37
      obtain ⟨A6, k6, rfl⟩ := own_shape ho6
      go_wp2_with (refine wp_app (.tmp 30) (.tmp 33) slB rfl rfl rfl hro rfl (Rd.of_own ho6).src (oneCell_bvs _) (by simp only [maxLen]; omega) (by omega) hB.size ?_; intro y6 z6 hro2 hG6 _; refine wp_stop ?_)
      have hB := hB.grown hG6 hB.size (fun k hk => (hro.lt k hk).1)
      obtain ⟨P6, hP6, hro⟩ : ∃ P, P = P1 ++ q6 ∧ z6.ownsRow w0.heap.size 5 1 y6 P.length (bvs P) := ⟨_, rfl, own_join hro2⟩
      have hm6 : P6.length ≤ 1000052 := by rw [hP6]; rw [List.length_append]; omega
      have HP6 := hid hP6
      clear hP6 hro2 ho6 hB6 hG6
      have c38 := (hvb.below hB).cellAt 38 _ h38
      have hw0 : IntKind.u64.wrap (m.ps.length : Int) = (m.ps.length : Int) := by rw [IntKind.wrap_u64]; omega
      refine wp_go ?_
      go_wp2_with (fail)
      refine (putp_any (.slice none 0 0) [] m.ps.length nob _ (Rd.nil _ _) (by omega) (by simp)).mono ?_
      rintro e x7 ⟨v7, rfl, ho7, hB7⟩
      rw [List.nil_append] at ho7
      have hro := own_bel hro hB7
      have hB := hB.trans (hB7.mono hB.size)
      obtain ⟨q7, hq7⟩ : ∃ q, q = packed m.ps.length := ⟨_, rfl⟩
      have hl7 : q7.length ≤ 10 := by rw [hq7]; rw [length_packed]; omega
      rw [← hq7] at ho7
      have Hq7 := hid hq7
      clear hq7 c38 hw0
      obtain ⟨A7, k7, rfl⟩ := own_shape ho7
      go_wp2_with (refine wp_app (.tmp 35) (.tmp 40) slB rfl rfl rfl hro rfl (Rd.of_own ho7).src (oneCell_bvs _) (by simp only [maxLen]; omega) (by omega) hB.size ?_; intro y7 z7 hro2 hG7 _; refine wp_stop ?_)
      have hB := hB.grown hG7 hB.size (fun k hk => (hro.lt k hk).1)
      obtain ⟨P7, hP7, hro⟩ : ∃ P, P = P6 ++ q7 ∧ z7.ownsRow w0.heap.size 5 1 y7 P.length (bvs P) := ⟨_, rfl, own_join hro2⟩
      have hm7 : P7.length ≤ 1000062 := by rw [hP7]; rw [List.length_append]; omega
      have HP7 := hid hP7
      clear hP7 hro2 ho7 hB7 hG7
      have HPS : Hid (P7 = ((Mg.hd m) ++ (packed m.b.length ++ m.b)) ++ packed m.ps.length) := by
        show _ = _
        rw [HP7.out, HP6.out, HP1.out, HP0.out, Hq6.out, Hq7.out, hp8_hd]
      clear Hq6 Hq7 HP0 HP1 HP6 HP7
      have c38 := (hvb.below hB).cellAt 38 _ h38
      refine wp_go ?_
      go_wp2
      clear c38
      go_loopw [3, 45] (fun bv iv wr => ∃ i : Nat, i ≤ m.ps.length ∧ iv = .int .i64 i ∧ wr.ownsRow w0.heap.size 5 1 bv (P7 ++ (m.ps.take i).flatMap tb1).length (bvs (P7 ++ (m.ps.take i).flatMap tb1)) ∧ Below w0.heap.size w0 wr) (fun _ i _ => m.ps.length - (intOf i).toNat)
      case atStart => exact ⟨0, Nat.zero_le _, rfl, by rw [List.take_zero, List.flatMap_nil, List.append_nil]; exact hro, hB⟩
      case round =>
        clear hro hB
        obtain ⟨i, hi, rfl, hro, hB⟩ := hrel
        by_cases hlt : i < m.ps.length
        · obtain ⟨t, ht⟩ : ∃ t, m.ps[i]? = some t := ⟨_, List.getElem?_eq_getElem hlt⟩
          have hI : (i : Int) < (m.ps.length : Int) := by omega
          obtain ⟨G, off, u, rfl, hG, hcu, hu⟩ := Rd.elem (hup.below hB) i (bys t) (by rw [List.getElem?_map, ht]; rfl)
          obtain ⟨A1, c1, rfl⟩ := hu.shape
          have htl := hst t (List.mem_of_getElem? ht)
          have hlf := len_partsG (m.ps.take i) (fun x hx => hst x (List.mem_of_mem_take hx))
          have Htk := hid (take_snocT ht)
          obtain ⟨P, hP, hro⟩ : ∃ P, P = P7 ++ (m.ps.take i).flatMap tb1 ∧ wr.ownsRow w0.heap.size 5 1 _ P.length (bvs P) := ⟨_, rfl, hro⟩
          have hPl : P.length ≤ 1100000000 := by rw [hP, List.length_append]; rw [List.length_take] at hlf; omega
          have HP := hid hP
          clear hP ht hlf
          go_wp2_with (fail)
          refine (putt_any (.slice none 0 0) _ [] t nob _ _ (Rd.nil _ _) hu (by simp) (by omega)).mono ?_
          rintro e x9 ⟨v9, rfl, ho9, hB9⟩
          rw [List.nil_append] at ho9
          obtain ⟨q, hq⟩ : ∃ q, q = packed t.length ++ t := ⟨_, rfl⟩
          have hql : q.length ≤ 1000010 := by rw [hq, List.length_append, length_packed]; have := psz_bd t.length; omega
          rw [← hq] at ho9
          have Hq := hid hq
          clear hq
          have hro := own_bel hro hB9
          have hB := hB.trans (hB9.mono hB.size)
          obtain ⟨A9, k9, rfl⟩ := own_shape ho9
          clear hcu hu
          go_wp2_with (refine wp_app (.tmp 49) (.tmp 51) slB rfl rfl rfl hro rfl (Rd.of_own ho9).src (oneCell_bvs _) (by simp only [maxLen]; omega) (by omega) hB.size ?_; intro y9 z9 hro2 hG9 _; refine wp_stop ?_)
          have hB := hB.grown hG9 hB.size (fun k hk => (hro.lt k hk).1)
          have hro2 := own_join hro2
          clear hro ho9 hB9 hG9
          refine wp_go ?_
          go_wp2
          go_roundw
          case rel =>
            refine ⟨i + 1, by omega, by go_num, ?_, hB⟩
            rw [Htk.out, List.flatMap_append, List.flatMap_singleton, ← List.append_assoc, ← HP.out]
            rw [show tb1 t = q from Hq.out.symm]
            exact hro2
          case measure => simp [intOf]; omega
        · have hi' : i = m.ps.length := by omega
          subst hi'
          have hI : ¬ (m.ps.length : Int) < (m.ps.length : Int) := by omega
          rw [List.take_length] at hro
          have hby : Mg.by m = P7 ++ m.ps.flatMap tb1 := by
            rw [HPS.out]; rfl
          have Hby := hid hby
          clear hby
          go_wp2
          go_ret
          exact ⟨_, rfl, by rw [Hby.out]; exact ⟨own_weak hro hBs, hB0.trans (hB.mono hBs)⟩⟩
def errG (m : Mg) : Nat := if 16 < m.ps.length ∨ 65504 < (Mg.by m).length then 4 else if numB m then 0 else 15
theorem errG_M {m : Mg} (hh : m.h.length = 32) (hlo : longB m = false) : errG m = errM m := by
  have := len_by hh hlo
  unfold errG errM
  by_cases h : 16 < m.ps.length
  · rw [if_pos (.inl h), if_pos h]
  · rw [if_neg (by omega), if_neg h]
set_option maxRecDepth 100000 in
set_option maxHeartbeats 4000000 in
theorem put8g_any (m : Mg) (ub up : Value) (F1 F2 : Nat → Prop) (w : World) (hm : MgIn m) (hs : MgSm m) (hub : Rd w F1 ub (bys m.b)) (hup : Rd w F2 up (tx m.ps)) :
    Calls Tryz.prog 33 #[m.val ub up] w fun e w' => ∃ v', e = .returned (.tuple #[v', .int .i64 (errG m : Int)]) ∧ NewB w w' v' (if errG m = 0 then Mg.by m else []) := by
  have hh := hm.h
  have hsz := fun W h1 h2 => size8g_any m ub up F1 F2 W hh hs h1 h2
  have hbo := fun W h1 h2 => bytesOf8_any m ub up F1 F2 W hm hs h1 h2
  have hfm := fun W => formed8_any m ub up W hm
  have hby := len_by2 hh
  have hpb := psz_bd m.b.length
  have hpp := psz_bd m.ps.length
  have hpg := len_partsG m.ps hs.t
  obtain ⟨hsb, hsp, hst⟩ := hs
  have hLb : (Mg.by m).length ≤ 1100000000 := by omega
  obtain ⟨AB, cb, rfl⟩ := hub.shape
  obtain ⟨AP, cpp, rfl, _, _⟩ := hup.slShape
  unfold Mg.val at hsz hbo hfm ⊢
  have herr : errG m = if 16 < m.ps.length ∨ 65504 < (Mg.by m).length then 4 else if numB m then 0 else 15 := rfl
  obtain ⟨E, hE⟩ : ∃ E, E = errG m := ⟨_, rfl⟩
  rw [← hE] at herr ⊢
  clear hE
  obtain ⟨X, hX⟩ : ∃ X, X = Mg.by m := ⟨_, rfl⟩
  rw [← hX] at hsz hbo herr hLb ⊢
  obtain ⟨nb, hnb⟩ : ∃ nb, nb = numB m := ⟨_, rfl⟩
  rw [← hnb] at hfm herr
  obtain ⟨l, hl⟩ : ∃ l, l = m.l (.slice AB m.b.length cb) (.slice AP m.ps.length cpp) := ⟨_, rfl⟩
  have h38 : l[38]? = some (.slice AP m.ps.length cpp) := by rw [hl]; exact mg_parts hh _ _
  have hmn : l.length = 39 := by rw [hl]; exact len_mg hh _ _
  rw [← hl] at hsz hbo hfm ⊢
  have Hmn := hid hmn
  have Herr := hid herr
  have Hsz := hid hsz
  have Hbo := hid hbo
  have Hfm := hid hfm
  clear hl hmn hnb hX herr hsz hbo hfm hby
  have hvb := Blk.new' w 47 l
  have hB : Below w.heap.size w (w.alloc (.cells l.toArray 47)) := (Below.refl _ _).alloc (Nat.le_refl _) _
  have hub := hub.below hB
  have hup := hup.below hB
  have hn0 : ∀ W, Below w.heap.size w W → NewB w W (.slice none 0 0) [] := fun W h => ⟨World.ownsRow_nil _ _ _ _, h⟩
  go_enter Tryz.func33, Tryz.ntmps33
  go_upto_region 1 with (fail)
  obtain ⟨w0, hw0⟩ : ∃ w0, w0 = w.alloc (.cells l.toArray 47) := ⟨_, rfl⟩
  rw [← hw0] at hvb hB hub hup ⊢
  clear hw0
  obtain ⟨g, hg⟩ : ∃ g, g = w.heap.size := ⟨_, rfl⟩
  rw [← hg] at hvb ⊢
  clear hg
  have c38 := hvb.cellAt 38 _ h38
  by_cases h16 : 16 < m.ps.length
  · have hI : (16 : Int) < (m.ps.length : Int) := by omega
    have hE : E = 4 := by rw [Herr.out, if_pos (.inl h16)]
    subst hE
    go_wp2
    go_ret2
    exact ⟨_, rfl, hn0 _ hB⟩
  · have hI : ¬ (16 : Int) < (m.ps.length : Int) := by omega
    go_wp2_with (refine wp_ldg 47 (.tmp 1) (by rfl) rfl rfl hvb.whole Tryz.underlying47 rfl (by rw [Hmn.out]; exact sizeM) ?_)
    refine (Hsz.out _ hub hup).mono ?_
    rintro e w1 ⟨rfl, hB1⟩
    have hvb := hvb.below hB1
    have hub := hub.below hB1
    have hup := hup.below hB1
    have hB := hB.trans (hB1.mono hB.size)
    clear c38 hB1
    by_cases h65 : 65504 < X.length
    · have h65I : (65504 : Int) < (X.length : Int) := by omega
      have hE : E = 4 := by rw [Herr.out, if_pos (.inr h65)]
      subst hE
      go_wp2
      go_ret2
      exact ⟨_, rfl, hn0 _ hB⟩
    · have h65I : ¬ (65504 : Int) < (X.length : Int) := by omega
      have hE : E = if nb = true then 0 else 15 := by rw [Herr.out, if_neg (by omega)]
      have HE := hid hE
      clear hE
      go_wp2_with (refine wp_ld 47 (.tmp 1) rfl rfl rfl hvb.whole Tryz.underlying47 rfl (by rw [Hmn.out]; exact sizeM) ?_)
      refine (Hfm.out _).mono ?_
      rintro e w2 ⟨rfl, hB2⟩
      have hvb := hvb.below hB2
      have hub := hub.below hB2
      have hup := hup.below hB2
      have hB := hB.trans (hB2.mono hB.size)
      clear hB2
      cases nb with
      | true =>
        have hE : E = 0 := by rw [HE.out]; rfl
        clear HE
        subst hE
        go_wp2_with (refine wp_ld 47 (.tmp 1) rfl rfl rfl hvb.whole Tryz.underlying47 rfl (by rw [Hmn.out]; exact sizeM) ?_)
        refine (Hbo.out _ hub hup).mono ?_
        rintro e w3 ⟨v3, rfl, ho3, hB3⟩
        obtain ⟨A3, c3, rfl⟩ := own_shape ho3
        go_wp2
        go_ret2
        exact ⟨_, rfl, own_weak ho3 hB.size, hB.trans (hB3.mono hB.size)⟩
      | false =>
        have hE : E = 15 := by rw [HE.out]; rfl
        clear HE
        subst hE
        go_wp2
        go_ret2
        exact ⟨_, rfl, hn0 _ hB⟩
end Go.Proofs.YtnhhbbjkeekneaaGreatDoor
