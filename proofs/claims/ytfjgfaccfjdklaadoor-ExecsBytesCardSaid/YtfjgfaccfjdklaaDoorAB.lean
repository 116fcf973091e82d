/- AB: several texts in one (AL AQ AR AB). -/
import Derived.Test.YtfjgfaccfjdklaaDoorAC
import Derived.Test.YtfjgfaccfjdklaaDoorA3
import Derived.Test.YtfjgfaccfjdklaaDoorS7
import Derived.Test.YtfjgfaccfjdklaaDoorUC
import Derived.Test.YtfjgfaccfjdklaaDoorVE
import Derived.Test.YtfjgfaccfjdklaaDoorN8
import Derived.Test.YtfjgfaccfjdklaaDoorWA
/- AL: layer 15: contracts of execs over the landed code: PutReply, Put, Digest. -/
namespace Go.Proofs.YtfjgfaccfjdklaaDoor
open Go.RowKit Go.V
theorem fix1u (x : Int) : fixR 1 (u64n x) = [by8 x] := by
  unfold fixR
  have h1 : okN 1 := Or.inl rfl
  rw [if_pos h1]
  show [UInt8.ofNat (u64n x / 256 ^ 0 % 256)] = [UInt8.ofNat (x % 256).toNat]
  rw [Nat.pow_zero, Nat.div_one]
  congr 2
  unfold u64n
  omega
def inI (x : Int) : Value := .int .i64 x
theorem bld4i (a b c d : Int) : ∀ W : World, (Instr.build 80 #[(0, .int .i64 a), (1, .int .i64 b), (2, .int .i64 c), (3, .int .i64 d)]).run Tryd.prog W = .ok (.agg ([a, b, c, d].map inI).toArray) W := fun _ => by kernel_rfl
theorem aggI15 : ∀ W : World, (isAgg 3).run Tryd.prog W = .ok false W := fun W => by kernel_rfl
theorem takeB {l : List Int} {i : Nat} {x : Int} (h : l[i]? = some x) : (l.map by8).take (i + 1) = (l.map by8).take i ++ [by8 x] := by
  rw [List.take_add_one, List.getElem?_map, h]
  rfl
set_option maxRecDepth 100000 in
set_option maxHeartbeats 4000000 in
theorem putrep15_any (r : Rp) (w : World) (hr : i64s r.n) :
    Calls Tryd.prog 18 #[.agg r.l.toArray] w fun e w' => ∃ v', e = .returned v' ∧ NewB w w' v' (rpB r) := by
  obtain ⟨c, s, k, o, n⟩ := r
  have hn : i64s n := hr
  obtain ⟨hn1, hn2⟩ := hn
  have b1 := Blk.new' w 31 [.int .i64 c, .int .i64 s, .int .i64 k, .bool o, .int .i64 n]
  have hB : Below w.heap.size w (w.alloc (.cells #[.int .i64 c, .int .i64 s, .int .i64 k, .bool o, .int .i64 n] 31)) := (Below.refl _ _).alloc (Nat.le_refl _) _
  obtain ⟨d, hd⟩ : ∃ d : Int, d = if o = true then 1 else 0 := ⟨_, rfl⟩
  have hrp : rpB ⟨c, s, k, o, n⟩ = ([c, s, k, d].map by8).take 4 ++ packed (foldN n) := by
    rw [hd]
    cases o <;> rfl
  have Hrp := hid hrp
  have Hd := hid hd
  clear hr hrp hd
  unfold Rp.l
  go_enter Tryd.func18, Tryd.ntmps18
  go_upto_region 2 with (fail)
  obtain ⟨w0, hw0⟩ : ∃ x, x = w.alloc (.cells #[.int .i64 c, .int .i64 s, .int .i64 k, .bool o, .int .i64 n] 31) := ⟨_, rfl⟩
  rw [← hw0] at b1 hB ⊢
  clear hw0
  obtain ⟨g1, hg1⟩ : ∃ g, g = w.heap.size := ⟨_, rfl⟩
  rw [← hg1] at b1 ⊢
  clear hg1
  have c0 := b1.cellAt 0 _ rfl
  have c1 := b1.cellAt 1 _ rfl
  have c2 := b1.cellAt 2 _ rfl
  have c3 := b1.cellAt 3 _ rfl
  go_upto_if 9 with (fail)
  go_cut [3] (fun s3 wx => s3 = .int .i64 d ∧ w0 = wx)
  case first =>
    cases o with
    | false =>
      have hd0 : d = 0 := Hd.out
      subst hd0
      go_wp2
      go_meet
      exact ⟨rfl, rfl⟩
    | true =>
      have hd1 : d = 1 := Hd.out
      subst hd1
      go_wp2
      go_meet
      exact ⟨rfl, rfl⟩
  case rest =>
    obtain ⟨rfl, rfl⟩ := hcut
    have hw4 := bld4i c s k d
    obtain ⟨L, hL⟩ : ∃ L, L = [c, s, k, d] := ⟨_, rfl⟩
    have hLl : L.length = 4 := by rw [hL]; rfl
    rw [← hL] at Hrp hw4
    clear hL
    go_wp2_with (refine wp_bld 80 [(0, .tmp 11), (1, .tmp 13), (2, .tmp 15), (3, .tmp 16)] rfl rfl [(0, .int .i64 c), (1, .int .i64 s), (2, .int .i64 k), (3, .int .i64 d)] rfl hw4 ?_)
    clear hw4
    go_loopw [4, 18] (fun bv iv wr => ∃ i : Nat, i ≤ 4 ∧ iv = .int .i64 i ∧ Rd wr (fun _ => True) bv (bys ((L.map by8).take i)) ∧ Below w0.heap.size w0 wr) (fun _ i _ => 4 - (intOf i).toNat)
    case atStart => exact ⟨0, by omega, rfl, Rd.nil _ (fun _ => True), Below.refl _ _⟩
    case round =>
      obtain ⟨i, hi, rfl, hb, hBr⟩ := hrel
      have hlen : ((L.map by8).take i).length ≤ 4 := by rw [List.length_take]; omega
      by_cases hlt : i < 4
      · have hI : (i : Int) < 4 := by omega
        obtain ⟨x, hx⟩ : ∃ x, L[i]? = some x := ⟨_, List.getElem?_eq_getElem (by omega)⟩
        have hv : (L.map inI)[i]? = some (.int .i64 x) := by rw [List.getElem?_map, hx]; rfl
        have Htk := hid (takeB hx)
        have wx := u64n_w x
        clear hx
        obtain ⟨P, hP⟩ : ∃ P, P = (L.map by8).take i := ⟨_, rfl⟩
        rw [← hP] at hb hlen Htk
        obtain ⟨A, cp, rfl⟩ := Rd.shape hb
        clear hP
        go_wp2_with (refine wp_idx 80 (.tmp 17) (.tmp 18) rfl rfl (l := L.map inI) rfl rfl Tryd.underlying80 hlt aggI15 sizeIk15 hv ?_)
        refine (putx_any _ P (u64n x) 1 _ _ hb (u64n_lt _) (by omega)).mono ?_
        rintro e w4 ⟨v4, rfl, ho4, hB4⟩
        rw [fix1u] at ho4
        have hB4' := hBr.trans (hB4.mono hBr.size)
        have r4 := (Rd.of_own ho4).weak (F' := fun _ => True) (fun _ _ _ => trivial)
        rw [← Htk.out] at r4
        go_wp2
        go_roundw
        case rel => exact ⟨i + 1, by omega, by go_num, r4, hB4'⟩
        case measure => simp [intOf]; omega
      · have hi' : i = 4 := by omega
        subst hi'
        have hI : ¬ (4 : Int) < 4 := by omega
        have b1 := b1.below hBr
        have c4 := b1.cellAt 4 _ rfl
        obtain ⟨P, hP⟩ : ∃ P, P = (L.map by8).take 4 := ⟨_, rfl⟩
        rw [← hP] at hb hlen Hrp
        obtain ⟨A, cp, rfl⟩ := Rd.shape hb
        clear hP c0 c1 c2 c3
        go_wp2_with (fail)
        refine (putf_any _ P n _ _ hb hn1 hn2 (by omega)).mono ?_
        rintro e w4 ⟨v4, rfl, ho4, hB4⟩
        have hB4' := hB.trans ((hBr.trans (hB4.mono hBr.size)).mono hB.size)
        go_wp2
        go_ret
        refine ⟨v4, rfl, ?_, hB4'⟩
        rw [Hrp.out]
        exact own_weak ho4 (Nat.le_trans hB.size hBr.size)
theorem ras_cut : ∀ (a : List Rp) (i : Nat) (x : Rp), a[i]? = some x → ((ras a).drop (i * 5)).take 5 = x.l
  | [], i, x, h => by simp at h
  | y :: a, 0, x, h => by
    simp at h; subst h
    rfl
  | y :: a, i + 1, x, h => by
    have := ras_cut a i x (by simpa using h)
    show ((y.l ++ ras a).drop ((i + 1) * 5)).take 5 = _
    rw [← this, show (i + 1) * 5 = y.l.length + i * 5 from by simp [Rp.l]; omega, List.drop_length_add_append]
theorem bld3s (A1 A2 A3 : Option Addr) (n1 n2 n3 c1 c2 c3 : Nat) : ∀ W : World, (Instr.build 59 #[(0, .slice A1 n1 c1), (1, .slice A2 n2 c2), (2, .slice A3 n3 c3)]).run Tryd.prog W = .ok (.agg ([.slice A1 n1 c1, .slice A2 n2 c2, .slice A3 n3 c3] : List Value).toArray) W := fun _ => by kernel_rfl
theorem aggS15 : ∀ W : World, (isAgg 36).run Tryd.prog W = .ok false W := fun W => by kernel_rfl
theorem sizeS15 : (Tryd.prog.info? 36).map (·.size) = some 1 := by kernel_rfl
theorem sizeRs30 : (Tryd.prog.info? 32).map (·.size) = some 30 := by kernel_rfl
theorem zeroRpl : (Tryd.prog.info? 31).map (·.zero) = some (some (.agg zRpv.toArray)) := by kernel_rfl
theorem aggRp15 : ∀ W : World, (isAgg 31).run Tryd.prog W = .ok true W := fun W => by kernel_rfl
def txsB (l : List (List UInt8)) : List UInt8 := l.flatMap txB
theorem txs_next {l : List (List UInt8)} {i : Nat} {t : List UInt8} (h : l[i]? = some t) : txsB (l.take (i + 1)) = txsB (l.take i) ++ txB t := by
  unfold txsB
  rw [List.take_add_one, h, List.flatMap_append]
  show _ ++ (txB t ++ []) = _
  rw [List.append_nil]
theorem txs_len {l : List (List UInt8)} (h : ∀ t ∈ l, t.length ≤ 186) : ∀ i, (txsB (l.take i)).length ≤ 196 * i := by
  intro i
  induction i with
  | zero => simp [txsB]
  | succ i ih =>
    rcases Nat.lt_or_ge i l.length with hi | hi
    · have e : l[i]? = some l[i] := List.getElem?_eq_getElem hi
      rw [txs_next e, List.length_append]
      have h1 := h _ (List.getElem_mem hi)
      have h2 := len_txB l[i]
      omega
    · rw [List.take_of_length_le (by omega)]
      rw [List.take_of_length_le (by omega)] at ih
      omega
set_option maxRecDepth 100000 in
set_option maxHeartbeats 8000000 in
theorem eput15_any (W : Wo) (w : World) (hW : WoIn W) :
    Calls Tryd.prog 5 #[.agg W.l.toArray] w fun e w' => ∃ v', e = .returned v' ∧ NewB w w' v' (putW W.e) := by
  have hpv := fun X => (show Calls Tryd.prog 15 #[.agg W.v.l.toArray] X (fun e w' => ∃ v', e = .returned v' ∧ NewB X w' v' (putV W.v.n W.v.m)) from put6_any W.v.n W.v.m X hW.v.2)
  have hpu := fun X => (show Calls Tryd.prog 15 #[.agg W.u.l.toArray] X (fun e w' => ∃ v', e = .returned v' ∧ NewB X w' v' (putV W.u.n W.u.m)) from put6_any W.u.n W.u.m X hW.u.2)
  have hpc := fun X => kvput14_any W.c X hW.c
  have hpr := fun (r : Rp) (hr : r ∈ W.a) X => putrep15_any r X (hW.a.2 r hr).n
  have hNl : (nmF W.c).length = 16 := by rw [nm_len, hW.c.len]
  obtain ⟨ts, hts⟩ : ∃ ts, ts = [putV W.v.n W.v.m, putV W.u.n W.u.m, putK (nmF W.c)] := ⟨_, rfl⟩
  have hPW : putW W.e = ((fixR 2 (u64n W.s) ++ fixR 2 (u64n W.f)) ++ txsB ts) ++ rpsB W.a := by
    rw [hts]
    show _ = ((fixR 2 (u64n W.s) ++ fixR 2 (u64n W.f)) ++ (txB (putV W.v.n W.v.m) ++ (txB (putV W.u.n W.u.m) ++ (txB (putK (nmF W.c)) ++ [])))) ++ rpsB W.a
    rw [List.append_nil, ← List.append_assoc, ← List.append_assoc]
    rfl
  have ht0 : ts[0]? = some (putV W.v.n W.v.m) := by rw [hts]; rfl
  have ht1 : ts[1]? = some (putV W.u.n W.u.m) := by rw [hts]; rfl
  have ht2 : ts[2]? = some (putK (nmF W.c)) := by rw [hts]; rfl
  have htl : ts.length = 3 := by rw [hts]; rfl
  have htm : ∀ t ∈ ts, t.length ≤ 186 := by
    rw [hts]
    intro t ht
    simp only [List.mem_cons, List.not_mem_nil, or_false] at ht
    rcases ht with rfl | rfl | rfl
    · have := len_putV W.v.n W.v.m; omega
    · have := len_putV W.u.n W.u.m; omega
    · exact len_putK _ hNl
  clear hts
  have Ht0 := hid ht0
  have Ht1 := hid ht1
  have Ht2 := hid ht2
  have Htl := hid htl
  have Htm := hid htm
  clear ht0 ht1 ht2 htl htm
  have hal := hW.a.1
  have hwl := wol hW
  obtain ⟨Z, hZ⟩ : ∃ Z, Z = putW W.e := ⟨_, rfl⟩
  rw [← hZ] at hPW ⊢
  clear hZ
  have Hpr := hid hpr
  have Hrs : Hid (∀ (X : World) (g : Nat), Blk X g 34 W.l → X.rangeAt g 38 (ras W.a)) := fun X g h => h.range 38 _ (fun q v hv => hwl.as hal q v hv)
  have Hlr : Hid ((ras W.a).length = 30) := by show _ = _; rw [len_ras, hal]
  have Hlc : Hid ((cvs W.c).length = 32) := by show _ = _; rw [len_cvs, hW.c.len]
  have HW := hid hwl
  obtain ⟨l, hl⟩ : ∃ l, l = W.l := ⟨_, rfl⟩
  rw [← hl] at HW Hrs ⊢
  have Hpv := hid hpv
  have Hpu := hid hpu
  have Hpc := hid hpc
  have HPW := hid hPW
  have Hal := hid hal
  clear hl hwl hpv hpu hpc hpr hPW hal hW
  have ws := u64n_w W.s
  have wf := u64n_w W.f
  have b0 := Blk.new' w 34 l
  have hB : Below w.heap.size w (w.alloc (.cells l.toArray 34)) := (Below.refl _ _).alloc (Nat.le_refl _) _
  go_enter Tryd.func5, Tryd.ntmps5
  go_upto_region 1 with (fail)
  obtain ⟨w0, hw0⟩ : ∃ x, x = w.alloc (.cells l.toArray 34) := ⟨_, rfl⟩
  rw [← hw0] at b0 hB ⊢
  clear hw0
  obtain ⟨g1, hg1⟩ : ∃ g, g = w.heap.size := ⟨_, rfl⟩
  rw [← hg1] at b0 ⊢
  clear hg1
  have c0 := b0.cellAt 0 _ HW.out.s
  have Hla := hid (len_fix2 (u64n W.s))
  have Hlb := hid (len_fix2 (u64n W.f))
  go_wp2_with (fail)
  refine (putx_any _ [] (u64n W.s) 2 _ _ (Rd.nil _ (fun _ => True)) (u64n_lt _) (by simp)).mono ?_
  rintro e w1 ⟨v1, rfl, ho1, hB1⟩
  rw [List.nil_append] at ho1
  have c1 := (b0.below hB1).cellAt 1 _ HW.out.f
  obtain ⟨P1, hP1⟩ : ∃ P, P = fixR 2 (u64n W.s) := ⟨_, rfl⟩
  rw [← hP1] at ho1 Hla
  have E1 := hid hP1
  clear hP1
  obtain ⟨A1, cp1, rfl⟩ := Rd.shape (Rd.of_own ho1)
  go_wp2_with (fail)
  refine (putx_any _ P1 (u64n W.f) 2 _ _ (Rd.of_own ho1) (u64n_lt _) (by rw [Hla.out]; omega)).mono ?_
  rintro e w2 ⟨v2, rfl, ho2, hB2⟩
  have hBr := hB1.trans (hB2.mono hB1.size)
  obtain ⟨P2, hP2⟩ : ∃ P, P = P1 ++ fixR 2 (u64n W.f) := ⟨_, rfl⟩
  have HP : Hid (P2.length ≤ 4) := by show _ ≤ _; rw [hP2, List.length_append, Hla.out, Hlb.out]; omega
  rw [← hP2] at ho2
  have hop := own_weak ho2 (base' := w0.heap.size) hB1.size
  have E2 : Hid (P2 = fixR 2 (u64n W.s) ++ fixR 2 (u64n W.f)) := by show _ = _; rw [hP2, E1.out]
  clear hP2 E1 ho2 ho1 hB1 hB2 Hla Hlb c0 c1 ws wf
  have b1 := b0.below hBr
  go_upto_region 3 with (fail)
  have X1 : Hid (∀ Z, Ch nob w2 Z → Blk Z g1 34 l) := fun Z h => b1.below h.below
  refine wp_region_noPanic ?_
  refine wp_region_held_drew (S := Ch nob w2) (by kernel_rfl) ((Ch.refl _ _).drew) (fun hHeld => ?_)
  refine wpAnyH_take (i := 0) (oi := ⟨some 17, _, _, _, _, none⟩) (v := ?_) rfl (by kernel_rfl) (by kernel_rfl) (by kernel_rfl) (fun _ _ _ h => h) (Or.inl ⟨by rfl, ?_⟩) (by assumption) ?_
  rotate_left
  · intro w hSw; go_simp; try with_reducible rfl
  try simp only [Act.put, List.setIfInBounds_toArray, List.set_cons_zero, List.set_cons_succ]
  refine wpAnyH_take (i := 1) (oi := ⟨some 18, .load 24 (.tmp 17), _, _, _, none⟩) (v := _) rfl (by kernel_rfl) (by kernel_rfl) (by kernel_rfl) (fun _ _ _ h => h) (yieldsIf_load_mid (by rfl) 24 (.tmp 17) (by rfl) _ (2) (by rfl) _ _ (fun _ hs => (X1.out _ hs).range 2 W.v.l HW.out.v) Tryd.underlying24 rfl (sizeV)) (by assumption) ?_
  try simp only [Act.put, List.setIfInBounds_toArray, List.set_cons_zero, List.set_cons_succ]
  refine wpAnyH_take (i := 3) (oi := ⟨some 20, _, _, _, _, none⟩) (v := ?_) rfl (by kernel_rfl) (by kernel_rfl) (by kernel_rfl) (fun _ _ _ h => h) (Or.inl ⟨by rfl, ?_⟩) (by assumption) ?_
  rotate_left
  · intro w hSw; go_simp; try with_reducible rfl
  try simp only [Act.put, List.setIfInBounds_toArray, List.set_cons_zero, List.set_cons_succ]
  refine wpAnyH_take (i := 4) (oi := ⟨some 21, .load 24 (.tmp 20), _, _, _, none⟩) (v := _) rfl (by kernel_rfl) (by kernel_rfl) (by kernel_rfl) (fun _ _ _ h => h) (yieldsIf_load_mid (by rfl) 24 (.tmp 20) (by rfl) _ (4) (by rfl) _ _ (fun _ hs => (X1.out _ hs).range 4 W.u.l HW.out.u) Tryd.underlying24 rfl (sizeV)) (by assumption) ?_
  try simp only [Act.put, List.setIfInBounds_toArray, List.set_cons_zero, List.set_cons_succ]
  refine wpAnyH_take (i := 6) (oi := ⟨some 23, _, _, _, _, none⟩) (v := ?_) rfl (by kernel_rfl) (by kernel_rfl) (by kernel_rfl) (fun _ _ _ h => h) (Or.inl ⟨by rfl, ?_⟩) (by assumption) ?_
  rotate_left
  · intro w hSw; go_simp; try with_reducible rfl
  try simp only [Act.put, List.setIfInBounds_toArray, List.set_cons_zero, List.set_cons_succ]
  refine wpAnyH_take (i := 7) (oi := ⟨some 24, .load 27 (.tmp 23), _, _, _, none⟩) (v := _) rfl (by kernel_rfl) (by kernel_rfl) (by kernel_rfl) (fun _ _ _ h => h) (yieldsIf_load_mid (by rfl) 27 (.tmp 23) (by rfl) _ (6) (by rfl) _ _ (fun _ hs => (X1.out _ hs).range 6 (cvs W.c) HW.out.c) Tryd.underlying27 rfl (by rw [Hlc.out]; exact sizeCs)) (by assumption) ?_
  try simp only [Act.put, List.setIfInBounds_toArray, List.set_cons_zero, List.set_cons_succ]
  refine wpAnyH_take (i := 10) (oi := ⟨some 27, _, _, _, _, none⟩) (v := ?_) rfl (by kernel_rfl) (by kernel_rfl) (by kernel_rfl) (fun _ _ _ h => h) (Or.inl ⟨by rfl, ?_⟩) (by assumption) ?_
  rotate_left
  · intro w hSw; go_simp; try with_reducible rfl
  try simp only [Act.put, List.setIfInBounds_toArray, List.set_cons_zero, List.set_cons_succ]
  refine wpAnyH_ready (rs := [2]) (by kernel_rfl) (by simp) ?_
  refine AllReadyH.cons (o := ⟨some 19, _, _, _, _, none⟩) rfl (fun K hK => ?_) AllReadyH.nil
  go_simp
  refine (Hpv.out _).mono ?_
  rintro e' x1 ⟨v3, rfl, ho3, hB3⟩
  obtain ⟨A3, c3, rfl⟩ := own_shape ho3
  have q3 := Rd.of_own ho3
  refine hK.out _ _ (hHeld.belowR hB3) (fun hHeld => ?_)
  clear hK K
  try simp only [Act.put, List.setIfInBounds_toArray, List.set_cons_zero, List.set_cons_succ]
  refine wpAnyH_ready (rs := [5]) (by kernel_rfl) (by simp) ?_
  refine AllReadyH.cons (o := ⟨some 22, _, _, _, _, none⟩) rfl (fun K hK => ?_) AllReadyH.nil
  go_simp
  refine (Hpu.out _).mono ?_
  rintro e' x2 ⟨v4, rfl, ho4, hB4⟩
  obtain ⟨A4, c4, rfl⟩ := own_shape ho4
  have q4 := Rd.of_own ho4
  refine hK.out _ _ (hHeld.belowR hB4) (fun hHeld => ?_)
  clear hK K
  try simp only [Act.put, List.setIfInBounds_toArray, List.set_cons_zero, List.set_cons_succ]
  refine wpAnyH_ready (rs := [8]) (by kernel_rfl) (by simp) ?_
  refine AllReadyH.cons (o := ⟨some 25, _, _, _, _, none⟩) rfl (fun K hK => ?_) AllReadyH.nil
  go_simp
  refine (Hpc.out _).mono ?_
  rintro e' x3 ⟨v5, rfl, ho5, hB5⟩
  obtain ⟨A5, c5, rfl⟩ := own_shape ho5
  have q5 := Rd.of_own ho5
  refine hK.out _ _ (hHeld.belowR hB5) (fun hHeld => ?_)
  clear hK K
  try simp only [Act.put, List.setIfInBounds_toArray, List.set_cons_zero, List.set_cons_succ]
  refine wpAnyH_take (i := 9) (oi := ⟨some 26, _, _, _, _, none⟩) (v := _) rfl (by kernel_rfl) (by kernel_rfl) (by kernel_rfl) (fun _ _ _ h => h) (y_bld (by rfl) 59 [(0, .tmp 19), (1, .tmp 22), (2, .tmp 25)] (by rfl) [(0, .slice A3 _ c3), (1, .slice A4 _ c4), (2, .slice A5 _ c5)] (by rfl) (bld3s _ _ _ _ _ _ _ _ _)) (by assumption) ?_
  try simp only [Act.put, List.setIfInBounds_toArray, List.set_cons_zero, List.set_cons_succ]
  refine wpAnyH_done (by kernel_rfl) ?_ _
  refine NoPanic.normal ?_
  have hBq := hHeld.below
  have hop := own_bel hop hBq
  have hBr := hBr.trans (hBq.mono hBr.size)
  have b1 := b0.below hBr
  clear hHeld X1 hBq
  have Hts : Hid (∀ (i : Nat) x t, ([.slice A3 (putV W.v.n W.v.m).length c3, .slice A4 (putV W.u.n W.u.m).length c4, .slice A5 (putK (nmF W.c)).length c5] : List Value)[i]? = some x → ts[i]? = some t → Rd x3 (fun _ => True) x (bys t)) := by
    intro i x t hx ht
    match i with
    | 0 => rw [Ht0.out] at ht; injection ht with ht; injection hx with hx; rw [← ht, ← hx]; exact ((q3.below hB4).below hB5).weak (F' := fun _ => True) (fun _ _ _ => trivial)
    | 1 => rw [Ht1.out] at ht; injection ht with ht; injection hx with hx; rw [← ht, ← hx]; exact (q4.below hB5).weak (F' := fun _ => True) (fun _ _ _ => trivial)
    | 2 => rw [Ht2.out] at ht; injection ht with ht; injection hx with hx; rw [← ht, ← hx]; exact q5.weak (F' := fun _ => True) (fun _ _ _ => trivial)
    | i + 3 => simp at hx
  obtain ⟨vs, hvs⟩ : ∃ vs : List Value, vs = [.slice A3 (putV W.v.n W.v.m).length c3, .slice A4 (putV W.u.n W.u.m).length c4, .slice A5 (putK (nmF W.c)).length c5] := ⟨_, rfl⟩
  rw [← hvs] at Hts ⊢
  have Hvl : Hid (vs.length = 3) := by show _ = _; rw [hvs]; rfl
  clear hvs q3 q4 q5 hB3 hB4 hB5 Ht0 Ht1 Ht2
  go_wp2
  go_loopw [3, 27] (fun bv iv wr => ∃ i : Nat, i ≤ 3 ∧ iv = .int .i64 i ∧ wr.ownsRow w0.heap.size 5 1 bv (P2 ++ txsB (ts.take i)).length (bvs (P2 ++ txsB (ts.take i))) ∧ Below x3.heap.size x3 wr) (fun _ i _ => 3 - (intOf i).toNat)
  case atStart => exact ⟨0, by omega, rfl, by rw [List.take_zero, show txsB [] = [] from rfl, List.append_nil]; exact hop, Below.refl _ _⟩
  case round =>
    clear hop
    obtain ⟨i, hi, rfl, hop, hBx⟩ := hrel
    have hBw := hBr.trans (hBx.mono hBr.size)
    by_cases hlt : i < 3
    · have hI : (i : Int) < 3 := by omega
      obtain ⟨x, hx⟩ : ∃ x, vs[i]? = some x := ⟨_, List.getElem?_eq_getElem (by rw [Hvl.out]; exact hlt)⟩
      obtain ⟨D, ht⟩ : ∃ t, ts[i]? = some t := ⟨_, List.getElem?_eq_getElem (by rw [Htl.out]; exact hlt)⟩
      have hx3 := (Hts.out i x D hx ht).below hBx
      have hDl := Htm.out D (List.mem_of_getElem? ht)
      have Hnx := hid (txs_next ht)
      have hPl : (P2 ++ txsB (ts.take i)).length ≤ 600 := by
        have := txs_len Htm.out i
        have := HP.out
        rw [List.length_append]
        omega
      obtain ⟨Pi, hPi⟩ : ∃ P, P = P2 ++ txsB (ts.take i) := ⟨_, rfl⟩
      rw [← hPi] at hop hPl
      have Hnx : Hid (P2 ++ txsB (ts.take (i + 1)) = Pi ++ (packed D.length ++ D)) := by
        show _ = _
        rw [Hnx.out, ← List.append_assoc, ← hPi]
        rfl
      obtain ⟨A, cp, rfl⟩ := Rd.shape (Rd.of_own hop)
      obtain ⟨Ax, cx, rfl⟩ := Rd.shape hx3
      have Hx := hid hx
      clear ht hPi hx
      go_wp2_with (refine wp_idx 59 (.tmp 26) (.tmp 27) rfl rfl (l := vs) rfl rfl Tryd.underlying59 hlt aggS15 sizeS15 Hx.out ?_)
      refine (putt_any _ _ Pi D _ _ _ (Rd.of_own hop) hx3 (by omega) (by omega)).mono ?_
      rintro e w4 ⟨v4, rfl, ho4, hB4⟩
      rw [← Hnx.out] at ho4
      have ho4 := own_weak ho4 (Nat.le_trans hBr.size hBx.size)
      have hBx := hBx.trans (hB4.mono hBx.size)
      go_wp2
      go_roundw
      case rel => exact ⟨i + 1, by omega, by go_num, ho4, hBx⟩
      case measure => simp [intOf]; omega
    · have hi' : i = 3 := by omega
      subst hi'
      have hI : ¬ (3 : Int) < 3 := by omega
      rw [List.take_of_length_le (by rw [Htl.out]; omega)] at hop
      have hPl : (P2 ++ txsB ts).length ≤ 600 := by
        have := txs_len Htm.out 3
        rw [List.take_of_length_le (by rw [Htl.out]; omega)] at this
        have := HP.out
        rw [List.length_append]
        omega
      obtain ⟨P3, hP3⟩ : ∃ P, P = P2 ++ txsB ts := ⟨_, rfl⟩
      rw [← hP3] at hop hPl
      have HP3 := hid hPl
      have E3 := hid hP3
      clear hP3 hPl
      have b2 := b0.below hBw
      have hrr := Hrs.out _ _ b2
      go_wp2_with (refine wp_ld 32 (.tmp 34) rfl rfl rfl hrr Tryd.underlying32 rfl (by rw [Hlr.out]; exact sizeRs30) ?_)
      clear hrr
      go_loopw [3, 36] (fun bv iv wr => ∃ i : Nat, i ≤ 6 ∧ iv = .int .i64 i ∧ wr.ownsRow w0.heap.size 5 1 bv (P3 ++ rpsB (W.a.take i)).length (bvs (P3 ++ rpsB (W.a.take i))) ∧ Below w0.heap.size w0 wr) (fun _ i _ => 6 - (intOf i).toNat)
      case atStart => exact ⟨0, by omega, rfl, by rw [List.take_zero, show rpsB [] = [] from rfl, List.append_nil]; exact hop, hBw⟩
      case round =>
        clear hop b2 hBw hBx
        obtain ⟨i, hi, rfl, hop, hBw⟩ := hrel
        by_cases hlt : i < 6
        · have hI : (i : Int) < 6 := by omega
          obtain ⟨r, hr⟩ : ∃ r, W.a[i]? = some r := ⟨_, List.getElem?_eq_getElem (by rw [Hal.out]; omega)⟩
          have Hcut := hid (ras_cut W.a i r hr)
          have hpr1 := Hpr.out r (List.mem_of_getElem? hr)
          have Hpr1 := hid hpr1
          have hrps := len_rpsB (W.a.take i)
          rw [List.length_take] at hrps
          have Hnx := hid (rps_take hr)
          have hPl : (P3 ++ rpsB (W.a.take i)).length ≤ 900 := by
            have := HP3.out
            rw [List.length_append]
            omega
          obtain ⟨Pi, hPi⟩ : ∃ P, P = P3 ++ rpsB (W.a.take i) := ⟨_, rfl⟩
          rw [← hPi] at hop hPl
          have Hnx : Hid (P3 ++ rpsB (W.a.take (i + 1)) = Pi ++ (packed (rpB r).length ++ rpB r)) := by
            show _ = _
            rw [Hnx.out, ← List.append_assoc, ← hPi]
            rfl
          have hor := one_rp r
          have hrl : r.l.length = 5 := rfl
          obtain ⟨lr, hlr⟩ : ∃ q, q = r.l := ⟨_, rfl⟩
          rw [← hlr] at Hcut Hpr1 hor hrl
          have Hrl := hid hrl
          clear hlr hr hPi hpr1 hrps hrl
          go_wp2_with (first | (refine wp_idxW 32 (.tmp 35) (.tmp 36) rfl rfl (l := ras W.a) rfl rfl Tryd.underlying32 hlt aggRp15 sizeR15 ?_; rw [Hcut.out]) | (refine wp_newst 31 7 (.tmp 38) rfl rfl rfl rfl rfl rfl zeroRpl (l := lr) rfl (by rw [Hrl.out]; rfl) (by rw [Hrl.out]; exact sizeR15) hor (by simp [Act.put]) ?_; intro w3 b7 hB3 hs3; refine wp_stop ?_))
          have hop := own_bel hop hB3
          have hBw := hBw.trans (hB3.mono hBw.size)
          obtain ⟨g7, hg7⟩ : ∃ g, g = wr.heap.size := ⟨_, rfl⟩
          rw [← hg7] at b7 ⊢
          clear hB3 hs3 hg7
          obtain ⟨A, cp, hsl⟩ := Rd.shape (Rd.of_own hop)
          subst hsl
          refine wp_go ?_
          go_wp2_with (refine wp_ld 31 (.tmp 7) rfl rfl rfl b7.whole Tryd.underlying31 rfl (by rw [Hrl.out]; exact sizeR15) ?_)
          refine (Hpr1.out _).mono ?_
          rintro e w4 ⟨v4, rfl, ho4, hB4⟩
          have hop := own_bel hop hB4
          have hBw := hBw.trans (hB4.mono hBw.size)
          have hDl := len_rpB r
          obtain ⟨D, hD⟩ : ∃ D, D = rpB r := ⟨_, rfl⟩
          rw [← hD] at ho4 hDl Hnx
          clear hD
          obtain ⟨A4, c4, rfl⟩ := own_shape ho4
          go_wp2_with (fail)
          refine (putt_any _ _ Pi D _ _ _ (Rd.of_own hop) (Rd.of_own ho4) (by omega) (by omega)).mono ?_
          rintro e w5 ⟨v5, rfl, ho5, hB5⟩
          rw [← Hnx.out] at ho5
          have ho5 := own_weak ho5 (base' := w0.heap.size) hBw.size
          have hBw := hBw.trans (hB5.mono hBw.size)
          go_wp2
          go_roundw
          case rel => exact ⟨i + 1, by omega, by go_num, ho5, hBw⟩
          case measure => simp [intOf]; omega
        · have hi' : i = 6 := by omega
          subst hi'
          have hI : ¬ (6 : Int) < 6 := by omega
          rw [List.take_of_length_le (by rw [Hal.out]; omega)] at hop
          go_wp2
          go_ret
          refine ⟨_, rfl, ?_, hB.trans (hBw.mono hB.size)⟩
          rw [HPW.out, ← E2.out, ← E3.out]
          exact own_weak hop hB.size
theorem len_put15 {W : Wo} (hW : WoIn W) : (putW W.e).length ≤ 600 := by
  show ((((((fixR 2 (u64n W.s) ++ fixR 2 (u64n W.f)) ++ txB (putV W.v.n W.v.m)) ++ txB (putV W.u.n W.u.m)) ++ txB (putK (nmF W.c))) ++ rpsB W.a)).length ≤ 600
  have h1 := len_fix2 (u64n W.s)
  have h2 := len_fix2 (u64n W.f)
  have h3 := len_txB (putV W.v.n W.v.m)
  have h4 := len_txB (putV W.u.n W.u.m)
  have h5 := len_txB (putK (nmF W.c))
  have h6 := len_rpsB W.a
  have h7 := len_putV W.v.n W.v.m
  have h8 := len_putV W.u.n W.u.m
  have h9 := len_putK (nmF W.c) (by rw [nm_len, hW.c.len])
  have h10 := hW.a.1
  simp only [List.length_append]
  omega
set_option maxRecDepth 100000 in
set_option maxHeartbeats 4000000 in
theorem edig15_any (W : Wo) (w : World) (hK : KS w) (hW : WoIn W) :
    Calls Tryd.prog 8 #[.agg W.l.toArray] w fun e w' => e = .returned (.agg (bvs (shaF (putW W.e))).toArray) ∧ Below w.heap.size w w' := by
  have hp := hid (fun X => eput15_any W X hW)
  have hl := len_put15 hW
  have hwl := wol hW
  obtain ⟨lw, hlw⟩ : ∃ q, q = W.l := ⟨_, rfl⟩
  rw [← hlw] at hwl hp ⊢
  have HL := hid hwl.len
  obtain ⟨B, hBy⟩ : ∃ B, B = putW W.e := ⟨_, rfl⟩
  rw [← hBy] at hp hl ⊢
  clear hlw hwl hBy hW
  obtain ⟨w0, hw0, b1, b2, hB⟩ := alloc2 w 34 40 lw (zs8 32)
  go_enter Tryd.func8, Tryd.ntmps8
  go_wp2_with (first | (refine wp_new 40 rfl rfl zero25 ?_; refine wp_stop ?_))
  rw [← hw0]
  clear hw0
  obtain ⟨g1, hg1⟩ : ∃ g, g = w.heap.size := ⟨_, rfl⟩
  obtain ⟨g2, hg2⟩ : ∃ g, g = w.heap.size + 1 := ⟨_, rfl⟩
  rw [← hg2] at b2 ⊢
  rw [← hg1] at b1 ⊢
  have hg1w : w.heap.size ≤ g2 := by omega
  clear hg1 hg2
  refine wp_go ?_
  go_wp2_with (refine wp_ld 34 (.tmp 1) rfl rfl rfl b1.whole Tryd.underlying34 rfl (by rw [HL.out]; exact sizeW15) ?_)
  refine (hp.out _).mono ?_
  rintro e w1 ⟨v1, rfl, ho, hB1⟩
  have b2 := b2.below hB1
  have hB := hB.trans (hB1.mono hB.size)
  have hK1 := hK.below hB
  obtain ⟨A, c, rfl⟩ := own_shape ho
  go_wp2_with (fail)
  refine (sum_any _ B _ _ hK1 (Rd.of_own ho) (by omega)).mono ?_
  rintro e w2 ⟨rfl, hB2⟩
  have b2 := b2.below hB2
  have hB := hB.trans (hB2.mono hB.size)
  obtain ⟨H, hH⟩ : ∃ H, H = shaF B := ⟨_, rfl⟩
  have lH : Hid (H.length = 32) := by show _ = _; rw [hH]; exact len_sha _
  rw [← hH]
  have HH := hid hH
  clear hH
  go_wp2_with (refine wp_st 40 (.tmp 2) (.tmp 5) rfl rfl rfl (f := 0) rfl (l := bvs H) rfl b2 (by simp [zs8, len_bvs, lH.out]) (by rw [len_bvs, lH.out]; exact size25) (oneCell_bvs _) ?_; intro w3 k3 G3)
  rw [set25 _ lH.out] at k3
  have hB := hB.grown G3 hB.size (by intro k hk; injection hk with hk; omega)
  refine ret_cell rfl rfl k3.whole und25 rfl (by rw [len_bvs, lH.out]; exact size25) rfl ?_
  exact ⟨by rw [HH.out], hB⟩
end Go.Proofs.YtfjgfaccfjdklaaDoor
/- AQ: layer 14 over the landed code, for layer 15: readPair, Get over the bytes of values. -/
namespace Go.V
open Go.RowKit
/-- the end of a function of three results, of which the middle one lies in a cell -/
theorem ret_mid {P : Program} {fn : Func} {R : Ending → World → Prop} {a : Act} {w : World} {p q s : Tmp} {ty : TypeId} (hf : fn.results = #[.tmp s, .cell p ty, .tmp q]) {b f : Nat} (hp : a.tmps.getD p undef = .pointer (some ⟨b, f, none⟩)) {u v : Value} (hs : a.tmps.getD s undef = v) (hq : a.tmps.getD q undef = u) {l : List Value} (hr : w.rangeAt b f l)
    {d : TypeDesc} (hu : P.underlying ty = some d) (hd : d.isRow = true) (hi : (P.info? ty).map (·.size) = some l.length) (hdf : a.defers = []) (h : R (.returned (.tuple #[v, .agg l.toArray, u])) w) : bodyPost P fn R .ret a w := by
  refine bodyPost_ret (v := .tuple #[v, .agg l.toArray, u]) ?_ hdf h
  have hp' : a.tmps[p]?.getD undef = .pointer (some ⟨b, f, none⟩) := by simpa using hp
  have hq' : a.tmps[q]?.getD undef = u := by simpa using hq
  have hs' : a.tmps[s]?.getD undef = v := by simpa using hs
  simp [results, hf, hp', hq', hs', asAddr, run_loadVar_mid w b f ty l d hr hu hd hi]
theorem len_putK' (s : List (Option Int)) (h : s.length = 16) : (putK s).length ≤ 186 := by
  have h1 := length_packed (cntK s)
  have h2 := psz_bd (cntK s)
  have h3 : ∀ (t : List (Option Int)) (k : Nat), (txtK k t).length ≤ 11 * t.length := by
    intro t
    induction t with
    | nil => intro k; simp [txtK]
    | cons x t ih =>
      intro k
      cases x with
      | none => have := ih (k + 1); show (txtK (k + 1) t).length ≤ _; rw [List.length_cons]; omega
      | some n =>
        have := ih (k + 1)
        have h4 := psz_bd (foldN n)
        show ((UInt8.ofNat k :: packed (foldN n)) ++ txtK (k + 1) t).length ≤ _
        rw [List.length_append, List.length_cons, length_packed, List.length_cons]
        omega
  have := h3 s 0
  show (packed (cntK s) ++ txtK 0 s).length ≤ 186
  rw [List.length_append]
  omega
def toC : Option Int → Cl | none => zC | some n => ⟨true, n⟩
theorem st_toC (c : List Cl) : (nmF c).map toC = stF c := by
  unfold nmF stF
  rw [List.map_map]
  apply List.map_congr_left
  intro x _
  obtain ⟨t, n⟩ := x
  cases t <;> rfl
theorem txt_nil : ∀ (t : List (Option Int)) (k : Nat), cntK t = 0 → txtK k t = []
  | [], _, _ => rfl
  | none :: t, k, h => txt_nil t (k + 1) (by unfold cntK at h ⊢; rw [List.countP_cons] at h; simpa using h)
  | some n :: t, k, h => by
    unfold cntK at h
    rw [List.countP_cons] at h
    simp at h
theorem txt_some : ∀ (t : List (Option Int)) (k : Nat), 0 < cntK t → ∃ d m, t[d]? = some (some m) ∧ txtK k t = (UInt8.ofNat (k + d) :: packed (foldN m)) ++ txtK (k + d + 1) (t.drop (d + 1)) ∧ cntK (t.drop (d + 1)) + 1 = cntK t ∧ ∀ i, i < d → t[i]? = some none
  | [], _, h => by simp [cntK] at h
  | none :: t, k, h => by
    have h' : 0 < cntK t := by unfold cntK at h ⊢; rw [List.countP_cons] at h; simpa using h
    obtain ⟨d, m, h1, h2, h3, h4⟩ := txt_some t (k + 1) h'
    refine ⟨d + 1, m, by simpa using h1, ?_, ?_, ?_⟩
    · show txtK (k + 1) t = _
      rw [h2, show k + 1 + d = k + (d + 1) from by omega]
      rfl
    · show cntK (t.drop (d + 1)) + 1 = cntK (none :: t)
      rw [h3]
      unfold cntK
      rw [List.countP_cons]
      simp
    · intro i hi
      match i with
      | 0 => rfl
      | i + 1 => simpa using h4 i (by omega)
  | some n :: t, k, _ => by
    refine ⟨0, n, rfl, rfl, ?_, fun i hi => absurd hi (by omega)⟩
    show cntK t + 1 = cntK (some n :: t)
    unfold cntK
    rw [List.countP_cons]
    simp
/-- what is read of the values when the first j keys are told -/
def cS (s : List (Option Int)) (j : Nat) : List Cl := (List.range 16).map (fun i => if i < j then toC ((s[i]?).getD none) else zC)
theorem cS_len (s : List (Option Int)) (j : Nat) : (cS s j).length = 16 := by unfold cS; simp
theorem cS_at (s : List (Option Int)) (j i : Nat) (h : i < 16) : (cS s j)[i]? = some (if i < j then toC ((s[i]?).getD none) else zC) := by
  unfold cS
  rw [List.getElem?_map, List.getElem?_range h]
  rfl
theorem cS_next {s : List (Option Int)} {j d : Nat} {m : Int} (hd : j + d < 16) (h1 : s[j + d]? = some (some m)) (h4 : ∀ i, i < d → s[j + i]? = some none) : (cS s j).set (j + d) ⟨true, m⟩ = cS s (j + d + 1) := by
  apply List.ext_getElem?
  intro i
  rcases Nat.lt_or_ge i 16 with hi | hi
  · rw [cS_at _ _ _ hi]
    by_cases e : i = j + d
    · subst e
      rw [List.getElem?_set_self (by rw [cS_len]; exact hd), if_pos (by omega), h1]
      rfl
    · rw [List.getElem?_set_ne (fun h => e h.symm), cS_at _ _ _ hi]
      by_cases hj : i < j
      · rw [if_pos hj, if_pos (by omega)]
      · rw [if_neg hj]
        by_cases hk : i < j + d + 1
        · rw [if_pos hk]
          have := h4 (i - j) (by omega)
          rw [show j + (i - j) = i from by omega] at this
          rw [this]
          rfl
        · rw [if_neg hk]
  · rw [List.getElem?_eq_none (by rw [List.length_set, cS_len]; exact hi), List.getElem?_eq_none (by rw [cS_len]; exact hi)]
theorem cnt_nones : ∀ (t : List (Option Int)), cntK t = 0 → ∀ i, i < t.length → t[i]? = some none
  | [], _, i, h => by simp at h
  | none :: t, h, 0, _ => rfl
  | none :: t, h, i + 1, hi => by
    have := cnt_nones t (by unfold cntK at h ⊢; rw [List.countP_cons] at h; simpa using h) i (by simpa using hi)
    simpa using this
  | some n :: t, h, _, _ => by
    unfold cntK at h
    rw [List.countP_cons] at h
    simp at h
theorem cS_end {s : List (Option Int)} (hs : s.length = 16) {j : Nat} (h : cntK (s.drop j) = 0) : cS s j = s.map toC := by
  apply List.ext_getElem?
  intro i
  rcases Nat.lt_or_ge i 16 with hi | hi
  · rw [cS_at _ _ _ hi, List.getElem?_map, List.getElem?_eq_getElem (by omega)]
    by_cases hj : i < j
    · rw [if_pos hj]; rfl
    · rw [if_neg hj]
      have := cnt_nones _ h (i - j) (by rw [List.length_drop]; omega)
      rw [List.getElem?_drop, show j + (i - j) = i from by omega, List.getElem?_eq_getElem (by omega)] at this
      injection this with this
      rw [this]
      rfl
  · rw [List.getElem?_eq_none (by rw [cS_len]; exact hi), List.getElem?_eq_none (by rw [List.length_map]; omega)]
theorem cS_zero (s : List (Option Int)) : cS s 0 = List.replicate 16 zC := by rfl
end Go.V
namespace Go.Proofs.YtfjgfaccfjdklaaDoor
open Go.RowKit Go.V
theorem rdr_grown {w w' : World} {p : Nat} {F : Nat → Prop} {bs : List UInt8} {k : Nat} {g : Nat} (h : RdR w p F bs k) (G : w.grownBy w' (some g)) (h1 : g ≠ p) (h2 : ∀ b, F b → g ≠ b) : RdR w' p F bs k := by
  obtain ⟨_, hpb, _⟩ := id h
  exact h.keep (G.block _ (lt_of_block hpb) (by intro e; injection e with e; exact h1 e.symm)) (fun b hb hF => G.block _ hb (by intro e; injection e with e; exact h2 b hF e.symm))
theorem rdr_in {w : World} {p : Nat} {F : Nat → Prop} {bs : List UInt8} {k : Nat} (h : RdR w p F bs k) : RdR w p (fun b => F b ∧ b < w.heap.size) bs k := by
  obtain ⟨v, h1, h2, h3, h4⟩ := h
  exact ⟨v, h1, h2.weak (fun b hb hF => ⟨hF, hb⟩), h3, fun h => h4 h.1⟩
theorem rdr_weak {w : World} {p : Nat} {F F' : Nat → Prop} {bs : List UInt8} {k : Nat} (h : RdR w p F bs k) (hF : ∀ b, F b → F' b) (hp : ¬ F' p) : RdR w p F' bs k := by
  obtain ⟨v, h1, h2, h3, _⟩ := h
  exact ⟨v, h1, h2.weak (fun b _ h => hF b h), h3, hp⟩
theorem rdr_no {w : World} {p : Nat} {F : Nat → Prop} {bs : List UInt8} {k : Nat} (h : RdR w p F bs k) : ¬ F p := by
  obtain ⟨_, _, _, _, h4⟩ := h
  exact h4
set_option maxRecDepth 100000 in
set_option maxHeartbeats 4000000 in
theorem kvpair15_any (p : Nat) (F : Nat → Prop) (bs : List UInt8) (k j : Nat) (m : Int) (R : List UInt8) (w : World) (h : RdR w p F bs k) (hj : j < 256) (hm : i64s m) (hd : bs.drop k = (UInt8.ofNat j :: packed (foldN m)) ++ R) :
    Calls Tryd.prog 71 #[rp p] w fun e w' => e = .returned (.tuple #[.int .i64 (j : Int), .agg (Cl.l ⟨true, m⟩).toArray, .int .i64 0]) ∧ RdR w' p F bs (k + (1 + psz (foldN m))) ∧ Ch (only p) w w' := by
  have ho : okN ((1 : Nat) : Int) := Or.inl rfl
  have h1 : fixRd 1 (bs.drop k) = .ok j := by
    rw [hd, show UInt8.ofNat j :: packed (foldN m) = fixR 1 j ++ packed (foldN m) from by rw [fix1 j hj]; rfl, List.append_assoc]
    exact fixRd_of 1 j _ ho (by omega)
  have h2 : readPk (bs.drop (k + 1)) = .ok (foldN m, psz (foldN m)) := by
    rw [← List.drop_drop, hd]
    exact readPk_packed _ _ (foldN_lt m hm.1 hm.2)
  have H1 := hid h1
  have H2 := hid h2
  have hun := unfoldZ_foldN m
  have hwj : IntKind.i64.wrap (j : Int) = (j : Int) := IntWalk.i64_in _ (by omega)
  clear h1 h2 hd ho
  have hnF := rdr_no h
  have h := rdr_in h
  obtain ⟨FF, hFF⟩ : ∃ FF, FF = fun b => F b ∧ b < w.heap.size := ⟨_, rfl⟩
  rw [← hFF] at h
  have hF1 : ∀ b, FF b → F b := fun b hb => by rw [hFF] at hb; exact hb.1
  have hF2 : ∀ b, FF b → b < w.heap.size := fun b hb => by rw [hFF] at hb; exact hb.2
  clear hFF
  have b3 := Blk.new' w 26 zC.l
  have hB : Below w.heap.size w (w.alloc (.cells zC.l.toArray 26)) := (Below.refl _ _).alloc (Nat.le_refl _) _
  have hr0 := h.belowR hB
  have hpl : p < w.heap.size := by obtain ⟨_, h', _⟩ := h; exact lt_of_block h'
  clear h
  go_enter Tryd.func71, Tryd.ntmps71
  go_wp2_with (first | (refine wp_new 26 rfl rfl zeroCl ?_; refine wp_stop ?_))
  obtain ⟨w0, hw0⟩ : ∃ x, x = w.alloc (.cells zC.l.toArray 26) := ⟨_, rfl⟩
  rw [← hw0] at b3 hB hr0 ⊢
  obtain ⟨g3, hg3⟩ : ∃ g, g = w.heap.size := ⟨_, rfl⟩
  rw [← hg3] at b3 hpl hF2 ⊢
  have hg3w : w.heap.size ≤ g3 := by omega
  clear hw0 hg3
  refine wp_go ?_
  have f1 := fixed_any p FF bs k 1 _ hr0
  rw [H1.out] at f1
  have Hf := hid f1
  clear f1 hr0
  go_wp2_with (fail)
  refine Hf.out.mono ?_
  rintro e w1 ⟨rfl, hr1, hC1⟩
  have b3 := b3.ch hC1 (by intro h; have h' : g3 = p := h; omega)
  have hC : Ch (only p) w w1 := ((Ch.of_below hB).weaken (fun _ _ e => e.elim)).trans hC1
  simp only [eF]
  have f2 := folded_any p FF bs (k + 1) _ hr1
  rw [H2.out] at f2
  have Hf2 := hid f2
  clear f2 hr1 Hf hC1 hB
  go_wp2_with (fail)
  refine Hf2.out.mono ?_
  rintro e w2 ⟨rfl, hr2, hC2⟩
  have b3 := b3.ch hC2 (by intro h; have h' : g3 = p := h; omega)
  have hC := hC.trans hC2
  simp only [e2, hun]
  clear hC2 Hf2
  go_wp2_with (fail)
  refine (value14_any m _).mono ?_
  rintro e w3 ⟨rfl, hB3⟩
  have b3 := b3.below hB3
  have hr2 := hr2.belowR hB3
  have hC := hC.belowR hB3
  clear hB3
  go_wp2_with (first | (refine wp_st 26 (.tmp 3) (.tmp 29) rfl rfl rfl (f := 0) rfl (l := Cl.l ⟨true, m⟩) rfl b3 (by show 0 + 2 ≤ 2; omega) sizeCl (one_cl _) ?_; intro w4 k3 G3; refine wp_stop ?_))
  have k3 := blk_all k3 (by show 2 ≤ 2; omega)
  have hC := hC.grow G3 (fun k hk => .inr (by injection hk with hk; omega))
  refine wp_go ?_
  go_wp2
  refine ret_mid rfl rfl rfl rfl k3.whole Tryd.underlying26 rfl sizeCl rfl ?_
  refine ⟨rfl, rdr_weak ?_ hF1 hnF, hC⟩
  have := rdr_grown hr2 G3 (by omega) (fun b hF => by have := hF2 b hF; omega)
  rw [show k + (1 + psz (foldN m)) = k + 1 + psz (foldN m) from by omega]
  exact this
set_option maxRecDepth 100000 in
set_option maxHeartbeats 8000000 in
theorem kvget15_any (s : List (Option Int)) (v : Value) (F : Nat → Prop) (w : World) (hs : s.length = 16) (hi : ∀ m, some m ∈ s → i64s m) (hv : Rd w F v (bys (putK s))) :
    Calls Tryd.prog 50 #[v] w fun e w' => e = .returned (.tuple #[.agg (cvs (s.map toC)).toArray, .int .i64 0]) ∧ Below w.heap.size w w' := by
  have hXl := len_putK' s hs
  have hc16 : cntK s ≤ 16 := by rw [← hs]; exact List.countP_le_length
  obtain ⟨X, hX⟩ : ∃ X, X = putK s := ⟨_, rfl⟩
  have hX1 : X = packed (cntK s) ++ txtK 0 s := hX
  rw [← hX] at hv hXl
  clear hX
  have h1 : cntR 16 (readPk (X.drop 0)) = .ok (cntK s, psz (cntK s)) := by
    rw [List.drop_zero, hX1, readPk_packed _ _ (by omega)]
    unfold cntR
    exact if_neg (by omega)
  have h2 : X.drop (psz (cntK s)) = txtK 0 (s.drop 0) := by
    rw [hX1, ← length_packed, List.drop_left, List.drop_zero]
  have H1 := hid h1
  have H2 := hid h2
  have Hs := hid hs
  have Hi := hid hi
  clear hX1 h1 h2 hs hi
  have b2 := Blk.new' w 27 zCs
  have hB : Below w.heap.size w (w.alloc (.cells zCs.toArray 27)) := (Below.refl _ _).alloc (Nat.le_refl _) _
  obtain ⟨A, cp, rfl⟩ := Rd.shape hv
  have hv0 := hv.below hB
  clear hv
  go_enter Tryd.func50, Tryd.ntmps50
  go_wp2_with (first | (refine wp_new 27 rfl rfl zeroCs ?_; refine wp_stop ?_))
  obtain ⟨w0, hw0⟩ : ∃ x, x = w.alloc (.cells zCs.toArray 27) := ⟨_, rfl⟩
  rw [← hw0] at b2 hB hv0 ⊢
  obtain ⟨g2, hg2⟩ : ∃ g, g = w.heap.size := ⟨_, rfl⟩
  have hgl : w.heap.size < w0.heap.size := b2.lt
  rw [← hg2] at b2 hgl ⊢
  have hg2w : w.heap.size ≤ g2 := by omega
  clear hw0 hg2
  refine wp_go ?_
  go_wp2_with (fail)
  refine (new_any _ X F _ hv0 (by omega)).mono ?_
  rintro e w1 ⟨p, rfl, hp, hr1, hB1⟩
  have b2 := b2.below hB1
  have hB := hB.trans (hB1.mono hB.size)
  have hpl : p < w1.heap.size := by obtain ⟨_, h', _⟩ := id hr1; exact lt_of_block h'
  obtain ⟨FF, hFF⟩ : ∃ FF, FF = fun b => w0.heap.size ≤ b ∧ b < p := ⟨_, rfl⟩
  rw [← hFF] at hr1
  have hF1 : ∀ b, FF b → g2 < b ∧ b < p := fun b hb => by rw [hFF] at hb; omega
  have h2p : g2 < p := by omega
  clear hFF hB1 hv0 hp hgl
  have f1 := count_any p FF X 0 16 _ hr1 (by omega) (by omega)
  rw [H1.out] at f1
  have Hf := hid f1
  clear f1 hr1
  go_wp2_with (fail)
  refine Hf.out.mono ?_
  rintro e w2 ⟨rfl, hr2, hC2⟩
  have b2 := b2.ch hC2 (by intro h; have h' : g2 = p := h; omega)
  have hB := Ch.below_of hB hC2 (fun k hk => by have : k = p := hk; omega) hB.size
  have hs2 := hC2.size
  simp only [eCt]
  rw [show 0 + lenP (.ok (cntK s, psz (cntK s))) = psz (cntK s) from by show 0 + psz (cntK s) = _; omega] at hr2
  clear Hf hC2 H1
  have b7 := Blk.new' w2 27 zCs
  have hB7 : Below w2.heap.size w2 (w2.alloc (.cells zCs.toArray 27)) := (Below.refl _ _).alloc (Nat.le_refl _) _
  go_wp2_with (first | (refine wp_new 27 rfl rfl zeroCs ?_; refine wp_stop ?_))
  obtain ⟨w3, hw3⟩ : ∃ x, x = w2.alloc (.cells zCs.toArray 27) := ⟨_, rfl⟩
  rw [← hw3] at b7 hB7 ⊢
  obtain ⟨g7, hg7⟩ : ∃ g, g = w2.heap.size := ⟨_, rfl⟩
  have hr3 := hr2.belowR hB7
  have b2 := b2.below hB7
  have hB := hB.trans (hB7.mono hB.size)
  rw [← hg7] at b7 hs2 ⊢
  have hp7 : p < g7 := by omega
  clear hw3 hg7 hB7 hr2 hpl hs2
  have Hz : Hid (zCs = cvs (cS s 0)) := by show _ = _; rw [cS_zero]; rfl
  rw [Hz.out] at b7
  refine wp_go ?_
  go_wp2
  go_loopw [8, 25] (fun lv iv wr => ∃ (i j k : Nat) (last : Int), iv = .int .i64 i ∧ lv = .int .i64 last ∧ last < (j : Int) ∧ -1 ≤ last ∧ j ≤ 16 ∧ i + cntK (s.drop j) = cntK s ∧ RdR wr p FF X k ∧ Hid (X.drop k = txtK j (s.drop j)) ∧ Blk wr g7 27 (cvs (cS s j)) ∧ Blk wr g2 27 zCs ∧ Below w.heap.size w wr) (fun _ i _ => cntK s - (intOf i).toNat)
  case atStart => exact ⟨0, 0, _, -1, rfl, rfl, by omega, by omega, by omega, by rw [List.drop_zero, Nat.zero_add], hr3, H2, b7, b2, hB⟩
  case round =>
    clear hr3 b7 b2 hB H2 Hz
    obtain ⟨i, j, k, last, rfl, rfl, hlj, hl1, hj, hij, hr3, Hk, b7, b2, hB⟩ := hrel
    by_cases hlt : i < cntK s
    · have hI : (i : Int) < (cntK s : Int) := by omega
      obtain ⟨d, m, t1, t2, t3, t4⟩ := txt_some (s.drop j) j (by omega)
      have hsl := Hs.out
      obtain ⟨q, hq⟩ : ∃ q, q = j + d := ⟨_, rfl⟩
      have t1 : s[q]? = some (some m) := by rw [List.getElem?_drop, ← hq] at t1; exact t1
      have hq16 : q < 16 := by
        rcases Nat.lt_or_ge q 16 with h | h
        · exact h
        · rw [List.getElem?_eq_none (by omega)] at t1; cases t1
      have hnx : (cS s j).set q ⟨true, m⟩ = cS s (q + 1) := by
        rw [hq]
        exact cS_next (by omega) (by rw [← hq]; exact t1) (fun i hi => by have := t4 i hi; rw [List.getElem?_drop] at this; exact this)
      rw [List.drop_drop, ← hq, show j + (d + 1) = q + 1 from by omega] at t2
      rw [List.drop_drop, show j + (d + 1) = q + 1 from by omega] at t3
      have hkd : X.drop (k + (1 + psz (foldN m))) = txtK (q + 1) (s.drop (q + 1)) := by
        rw [← List.drop_drop, Hk.out, t2, show 1 + psz (foldN m) = (UInt8.ofNat q :: packed (foldN m)).length from by rw [List.length_cons, length_packed]; omega, List.drop_left]
      have Hkd := hid hkd
      have Hpair := hid (fun Y hY => kvpair15_any p FF X k q m (txtK (q + 1) (s.drop (q + 1))) Y hY (by omega) (Hi.out m (List.mem_of_getElem? t1)) (by rw [Hk.out, t2]))
      have Hcv : Hid ((cvs (cS s j)).take (q * 2) ++ Cl.l ⟨true, m⟩ ++ (cvs (cS s j)).drop (q * 2 + 2) = cvs (cS s (q + 1))) := by
        show _ = _
        rw [← hnx, cvs_set _ _ _ (by rw [cS_len]; exact hq16), Nat.mul_comm]
      have Hcl : Hid ((cvs (cS s j)).length = 32) := by show _ = _; rw [len_cvs, cS_len]
      have hqj : j ≤ q := by omega
      have hij2 : (i + 1) + cntK (s.drop (q + 1)) = cntK s := by omega
      obtain ⟨cl, hcl⟩ : ∃ q, q = cvs (cS s j) := ⟨_, rfl⟩
      rw [← hcl] at b7 Hcv Hcl
      clear hcl hnx t1 t2 t3 t4 hkd hsl hij Hk hq
      go_wp2_with (fail)
      refine (Hpair.out _ hr3).mono ?_
      rintro e w4 ⟨rfl, hr4, hC4⟩
      have b2 := b2.ch hC4 (by intro h; have h' : g2 = p := h; omega)
      have b7 := b7.ch hC4 (by intro h; have h' : g7 = p := h; omega)
      have hB := Ch.below_of hB hC4 (fun k hk => by have : k = p := hk; omega) hB.size
      clear Hpair hC4 hr3
      have b10 := Blk.new' w4 26 zC.l
      have hB10 : Below w4.heap.size w4 (w4.alloc (.cells zC.l.toArray 26)) := (Below.refl _ _).alloc (Nat.le_refl _) _
      go_wp2_with (first | (refine wp_new 26 rfl rfl zeroCl ?_; refine wp_stop ?_))
      obtain ⟨w5, hw5⟩ : ∃ x, x = w4.alloc (.cells zC.l.toArray 26) := ⟨_, rfl⟩
      rw [← hw5] at b10 hB10 ⊢
      have h710 := b7.lt
      obtain ⟨g10, hg10⟩ : ∃ g, g = w4.heap.size := ⟨_, rfl⟩
      have hr5 := hr4.belowR hB10
      have b2 := b2.below hB10
      have b7 := b7.below hB10
      have hB := hB.trans (hB10.mono hB.size)
      rw [← hg10] at b10 h710 ⊢
      clear hw5 hg10 hB10 hr4
      refine wp_go ?_
      go_wp2_with (first | (refine wp_st 26 (.tmp 10) (.tmp 31) rfl rfl rfl (f := 0) rfl (l := Cl.l ⟨true, m⟩) rfl b10 (by show 0 + 2 ≤ 2; omega) sizeCl (one_cl _) ?_; intro w6 k10 G6; refine wp_stop ?_))
      have k10 := blk_all k10 (by show 2 ≤ 2; omega)
      have hr6 := rdr_grown hr5 G6 (by omega) (fun b hF => by have := hF1 b hF; omega)
      have b2 := b2.keep (G6.block _ b2.lt (by intro e; injection e with e; omega))
      have b7 := b7.keep (G6.block _ b7.lt (by intro e; injection e with e; omega))
      have hB := hB.grown G6 hB.size (by intro k hk; injection hk with hk; have := hB.size; omega)
      clear G6 hr5 b10
      refine wp_go ?_
      go_wp2_with (fail)
      refine (isKey14_any (q : Int) _).mono ?_
      rintro e w7 ⟨rfl, hB7⟩
      rw [show decide ((0 : Int) ≤ (q : Int) ∧ (q : Int) ≤ 15) = true from decide_eq_true (by omega)]
      have hr7 := hr6.belowR hB7
      have b2 := b2.below hB7
      have b7 := b7.below hB7
      have k10 := k10.below hB7
      have hB := hB.trans (hB7.mono hB.size)
      have hle : ¬ (q : Int) ≤ last := by omega
      clear hB7 hr6
      go_wp2_with (first | refine wp_ld 26 (.tmp 10) rfl rfl rfl k10.whole Tryd.underlying26 rfl sizeCl ?_ | refine wp_ixp 27 (.tmp 7) (.tmp 46) rfl rfl rfl rfl Tryd.underlying27 hq16 sizeCl ?_ | (refine wp_st 26 (.tmp 49) (.tmp 47) rfl rfl rfl (f := 0 + q * 2) rfl (l := Cl.l ⟨true, m⟩) rfl b7 (by rw [Hcl.out]; show 0 + q * 2 + 2 ≤ 32; omega) sizeCl (one_cl _) ?_; intro w8 k7 G8; refine wp_stop ?_))
      rw [Nat.zero_add, show (Cl.l ⟨true, m⟩).length = 2 from rfl, Hcv.out] at k7
      have hr8 := rdr_grown hr7 G8 (by omega) (fun b hF => by have := hF1 b hF; omega)
      have b2 := b2.keep (G8.block _ b2.lt (by intro e; injection e with e; omega))
      have hB := hB.grown G8 hB.size (by intro k hk; injection hk with hk; omega)
      refine wp_go ?_
      go_wp2
      go_roundw
      case rel => exact ⟨i + 1, q + 1, _, (q : Int), by go_num, rfl, by omega, by omega, by omega, hij2, hr8, Hkd, k7, b2, hB⟩
      case measure => simp [intOf]; omega
    · have hI : ¬ (i : Int) < (cntK s : Int) := by omega
      have hc0 : cntK (s.drop j) = 0 := by omega
      have hkl : k = X.length := by
        have h1 : (X.drop k).length = 0 := by rw [Hk.out, txt_nil _ _ hc0]; rfl
        rw [List.length_drop] at h1
        have h2 : k ≤ X.length := by
          obtain ⟨_, _, _, h3, _⟩ := id hr3
          exact h3
        omega
      have Hce : Hid (cS s j = s.map toC) := hid (cS_end Hs.out hc0)
      rw [Hce.out] at b7
      have Hl : Hid ((cvs (s.map toC)).length = 32) := by show _ = _; rw [len_cvs, List.length_map, Hs.out]
      have Ho := hid (one_cvs (s.map toC))
      obtain ⟨cl, hcl⟩ : ∃ q, q = cvs (s.map toC) := ⟨_, rfl⟩
      rw [← hcl] at b7 Hl Ho
      have Hcl := hid hcl
      have hdn := done_any p FF X k _ hr3
      rw [if_neg (by omega)] at hdn
      have Hdn := hid hdn
      clear hdn hcl hkl hc0 hij
      go_wp2_with (fail)
      refine Hdn.out.mono ?_
      rintro e w4 ⟨rfl, n, rfl⟩
      have b2 : Blk (wr.drewN n) g2 27 zCs := b2.keep rfl
      have b7 : Blk (wr.drewN n) g7 27 cl := b7.keep rfl
      have hB := bel_drewN hB n
      obtain ⟨w5, hw5⟩ : ∃ x, x = wr.drewN n := ⟨_, rfl⟩
      rw [← hw5] at b2 b7 hB ⊢
      clear hw5
      go_wp2_with (first | refine wp_ld 27 (.tmp 7) rfl rfl rfl b7.whole Tryd.underlying27 rfl (by rw [Hl.out]; exact sizeCs) ?_ | (refine wp_st 27 (.tmp 2) (.tmp 57) rfl rfl rfl (f := 0) rfl (l := cl) rfl b2 (by rw [Hl.out]; show 0 + 32 ≤ 32; omega) (by rw [Hl.out]; exact sizeCs) Ho.out ?_; intro w6 k2 G6; refine wp_stop ?_))
      have k2 := blk_all k2 (by rw [Hl.out]; show 32 ≤ 32; omega)
      have hB := hB.grown G6 hB.size (by intro k hk; injection hk with hk; omega)
      refine wp_go ?_
      go_wp2
      refine ret_cell1 rfl rfl rfl k2.whole Tryd.underlying27 rfl (by rw [Hl.out]; exact sizeCs) rfl ?_
      exact ⟨by rw [Hcl.out]; rfl, hB⟩
end Go.Proofs.YtfjgfaccfjdklaaDoor
/- AR: layer 15: contracts of execs over the landed code: readNumber, readText, GetReply. -/
namespace Go.Proofs.YtfjgfaccfjdklaaDoor
open Go.RowKit Go.V
theorem fixRd_ap (n x : Nat) (R : List UInt8) (ho : okN (n : Int)) : fixRd (n : Int) (fixR (n : Int) x ++ R) = .ok (x % 256 ^ n) := by
  have hf : fixR (n : Int) x = fixT n x n := by
    unfold fixR
    rw [if_pos ho, Int.toNat_natCast]
    rfl
  have hl : (fixT n x n).length = n := by simp [fixT]
  unfold fixRd
  rw [if_pos ho, Int.toNat_natCast, hf, if_neg (by rw [List.length_append, hl]; omega)]
  congr 1
  have ht : (fixT n x n ++ R).take n = fixT n x n := by
    have := List.take_left (l₁ := fixT n x n) (l₂ := R)
    rwa [hl] at this
  rw [ht, fixN_fixT n x n (Nat.le_refl _), Nat.sub_self, Nat.pow_zero, Nat.div_one]
theorem fixRd_2 (x : Nat) (R : List UInt8) : fixRd 2 (fixR 2 x ++ R) = .ok (x % 65536) := fixRd_ap 2 x R (Or.inr (Or.inl rfl))
theorem fixRd_1 (c : UInt8) (R : List UInt8) : fixRd 1 (c :: R) = .ok c.toNat := by
  have hc : c.toNat < 256 := c.toNat_lt
  have h := fixRd_of 1 c.toNat R (Or.inl rfl) (by omega)
  rw [show fixR ((1 : Nat) : Int) c.toNat = [UInt8.ofNat c.toNat] from fix1 c.toNat hc, UInt8.ofNat_toNat] at h
  exact h
def pg (p g : Nat) : Nat → Prop := fun b => b = p ∨ b = g
set_option maxRecDepth 100000 in
set_option maxHeartbeats 4000000 in
theorem rdnum15_any (p : Nat) (F : Nat → Prop) (bs : List UInt8) (k g off : Nat) (t : TypeId) (cs : List Value) (n : Int) (x : Nat) (w : World) (h : RdR w p F bs k) (hb : Blk w g t cs) (hoff : off < cs.length) (hgp : g ≠ p) (hgF : ∀ b, F b → g ≠ b) (hd : fixRd n (bs.drop k) = .ok x) (hx : x < 9223372036854775808) :
    Calls Tryd.prog 46 #[rp p, .pointer (some ⟨g, off, none⟩), .int .i64 n] w fun e w' => e = .returned (.int .i64 0) ∧ RdR w' p F bs (k + n.toNat) ∧ Blk w' g t (cs.set off (.int .i64 (x : Int))) ∧ Ch (pg p g) w w' := by
  have Hd := hid hd
  have hwx : IntKind.i64.wrap (x : Int) = (x : Int) := IntWalk.i64_in _ (by omega)
  have f1 := fixed_any p F bs k n _ h
  rw [Hd.out] at f1
  have Hf := hid f1
  clear f1 hd h
  go_enter Tryd.func46, Tryd.ntmps46
  go_wp2_with (fail)
  refine Hf.out.mono ?_
  rintro e w1 ⟨rfl, hr1, hC1⟩
  have hb := hb.ch hC1 (by intro h; have h' : g = p := h; omega)
  simp only [eF]
  clear Hf
  go_wp2_with (first | (refine wp_st1 3 (.tmp 21) (.tmp 20) rfl rfl rfl (f := off) rfl (v := .int .i64 (x : Int)) rfl hb hoff sizeIk15 rfl rfl ?_; intro w2 k2 G2; refine wp_stop ?_))
  have hr2 := rdr_grown hr1 G2 hgp hgF
  have hC : Ch (pg p g) w w2 := (hC1.weaken (fun b _ h => Or.inl h)).grow G2 (fun k hk => by injection hk with hk; exact .inl (.inr hk.symm))
  refine wp_go ?_
  go_wp2
  go_ret
  exact ⟨rfl, hr2, k2, hC⟩
set_option maxRecDepth 100000 in
set_option maxHeartbeats 4000000 in
theorem rdtxtV15_any (p : Nat) (F : Nat → Prop) (bs : List UInt8) (k g off : Nat) (t : TypeId) (cs l : List Value) (er : Int) (b R : List UInt8) (w : World) (h : RdR w p F bs k) (hb : Blk w g t cs) (hoff : off + l.length ≤ cs.length) (hgp : g ≠ p) (hgF : ∀ b, F b → g ≠ b) (hd : bs.drop k = txB b ++ R) (hbl : b.length ≤ 1000) (hbs : bs.length ≤ 1000000) (hl : l.length = 2) (hone : ∀ v ∈ l, v.oneCell' = true)
    (hget : ∀ v G X, Rd X G v (bys b) → Calls Tryd.prog 48 #[v] X fun e w' => e = .returned (.tuple #[.agg l.toArray, .int .i64 er]) ∧ Below X.heap.size X w') :
    Calls Tryd.prog 47 #[rp p, .pointer (some ⟨g, off, none⟩), .func (.func 48) #[] #[]] w fun e w' => e = .returned (.int .i64 er) ∧ RdR w' p F bs (k + (psz b.length + b.length)) ∧ Blk w' g t (cs.take off ++ l ++ cs.drop (off + l.length)) ∧ Ch (pg p g) w w' := by
  have hd : bs.drop k = (packed b.length ++ b) ++ R := hd
  have ht := textR_of 1000 b R (by omega) (by omega)
  rw [← hd] at ht
  have f1 := text_any p F bs k 1000 _ h (by omega) (by omega) (by omega)
  rw [ht] at f1
  have hpb : ((bs.drop k).drop (psz b.length)).take b.length = b := by
    rw [hd, List.append_assoc, ← length_packed b.length, List.drop_left, List.take_left]
  have Hf := hid f1
  have Hpb := hid hpb
  have Hget := hid hget
  have Hl := hid hl
  have Ho := hid hone
  clear f1 hd ht h hget hpb hl hone
  go_enter Tryd.func47, Tryd.ntmps47
  go_wp2_with (fail)
  refine Hf.out.mono ?_
  rintro e w1 h1
  unfold TextPost at h1
  dsimp only at h1
  obtain ⟨v, rfl, hv, hr1, hC1⟩ := h1
  rw [Hpb.out] at hv
  have hb := hb.ch hC1 (by intro h; have h' : g = p := h; omega)
  obtain ⟨Av, cv, rfl⟩ := Rd.shape hv
  clear Hf
  go_wp2_with (fail)
  refine (Hget.out _ _ _ hv).mono ?_
  rintro e w2 ⟨rfl, hB2⟩
  have hr2 := hr1.belowR hB2
  have hb := hb.below hB2
  have hC2 := hC1.belowR hB2
  clear hB2 hr1 Hget hv
  go_wp2_with (first | (refine wp_st 24 (.tmp 24) (.tmp 22) rfl rfl rfl (f := off) rfl (l := l) rfl hb hoff (by rw [Hl.out]; exact sizeV) Ho.out ?_; intro w3 k3 G3; refine wp_stop ?_))
  have hr3 := rdr_grown hr2 G3 hgp hgF
  have hC : Ch (pg p g) w w3 := (hC2.weaken (fun b _ h => Or.inl h)).grow G3 (fun k hk => by injection hk with hk; exact .inl (.inr hk.symm))
  refine wp_go ?_
  go_wp2
  go_ret
  exact ⟨rfl, hr3, k3, hC⟩
set_option maxRecDepth 100000 in
set_option maxHeartbeats 4000000 in
theorem rdtxtC15_any (p : Nat) (F : Nat → Prop) (bs : List UInt8) (k g off : Nat) (t : TypeId) (cs l : List Value) (er : Int) (b R : List UInt8) (w : World) (h : RdR w p F bs k) (hb : Blk w g t cs) (hoff : off + l.length ≤ cs.length) (hgp : g ≠ p) (hgF : ∀ b, F b → g ≠ b) (hd : bs.drop k = txB b ++ R) (hbl : b.length ≤ 1000) (hbs : bs.length ≤ 1000000) (hl : l.length = 32) (hone : ∀ v ∈ l, v.oneCell' = true)
    (hget : ∀ v G X, Rd X G v (bys b) → Calls Tryd.prog 50 #[v] X fun e w' => e = .returned (.tuple #[.agg l.toArray, .int .i64 er]) ∧ Below X.heap.size X w') :
    Calls Tryd.prog 49 #[rp p, .pointer (some ⟨g, off, none⟩), .func (.func 50) #[] #[]] w fun e w' => e = .returned (.int .i64 er) ∧ RdR w' p F bs (k + (psz b.length + b.length)) ∧ Blk w' g t (cs.take off ++ l ++ cs.drop (off + l.length)) ∧ Ch (pg p g) w w' := by
  have hd : bs.drop k = (packed b.length ++ b) ++ R := hd
  have ht := textR_of 1000 b R (by omega) (by omega)
  rw [← hd] at ht
  have f1 := text_any p F bs k 1000 _ h (by omega) (by omega) (by omega)
  rw [ht] at f1
  have hpb : ((bs.drop k).drop (psz b.length)).take b.length = b := by
    rw [hd, List.append_assoc, ← length_packed b.length, List.drop_left, List.take_left]
  have Hf := hid f1
  have Hpb := hid hpb
  have Hget := hid hget
  have Hl := hid hl
  have Ho := hid hone
  clear f1 hd ht h hget hpb hl hone
  go_enter Tryd.func49, Tryd.ntmps49
  go_wp2_with (fail)
  refine Hf.out.mono ?_
  rintro e w1 h1
  unfold TextPost at h1
  dsimp only at h1
  obtain ⟨v, rfl, hv, hr1, hC1⟩ := h1
  rw [Hpb.out] at hv
  have hb := hb.ch hC1 (by intro h; have h' : g = p := h; omega)
  obtain ⟨Av, cv, rfl⟩ := Rd.shape hv
  clear Hf
  go_wp2_with (fail)
  refine (Hget.out _ _ _ hv).mono ?_
  rintro e w2 ⟨rfl, hB2⟩
  have hr2 := hr1.belowR hB2
  have hb := hb.below hB2
  have hC2 := hC1.belowR hB2
  clear hB2 hr1 Hget hv
  go_wp2_with (first | (refine wp_st 27 (.tmp 24) (.tmp 22) rfl rfl rfl (f := off) rfl (l := l) rfl hb hoff (by rw [Hl.out]; exact sizeCs) Ho.out ?_; intro w3 k3 G3; refine wp_stop ?_))
  have hr3 := rdr_grown hr2 G3 hgp hgF
  have hC : Ch (pg p g) w w3 := (hC2.weaken (fun b _ h => Or.inl h)).grow G3 (fun k hk => by injection hk with hk; exact .inl (.inr hk.symm))
  refine wp_go ?_
  go_wp2
  go_ret
  exact ⟨rfl, hr3, k3, hC⟩
set_option maxRecDepth 100000 in
set_option maxHeartbeats 4000000 in
theorem rdtxtR15_any (p : Nat) (F : Nat → Prop) (bs : List UInt8) (k g off : Nat) (t : TypeId) (cs l : List Value) (er : Int) (b R : List UInt8) (w : World) (h : RdR w p F bs k) (hb : Blk w g t cs) (hoff : off + l.length ≤ cs.length) (hgp : g ≠ p) (hgF : ∀ b, F b → g ≠ b) (hd : bs.drop k = txB b ++ R) (hbl : b.length ≤ 1000) (hbs : bs.length ≤ 1000000) (hl : l.length = 5) (hone : ∀ v ∈ l, v.oneCell' = true)
    (hget : ∀ v G X, Rd X G v (bys b) → Calls Tryd.prog 52 #[v] X fun e w' => e = .returned (.tuple #[.agg l.toArray, .int .i64 er]) ∧ Below X.heap.size X w') :
    Calls Tryd.prog 51 #[rp p, .pointer (some ⟨g, off, none⟩), .func (.func 52) #[] #[]] w fun e w' => e = .returned (.int .i64 er) ∧ RdR w' p F bs (k + (psz b.length + b.length)) ∧ Blk w' g t (cs.take off ++ l ++ cs.drop (off + l.length)) ∧ Ch (pg p g) w w' := by
  have hd : bs.drop k = (packed b.length ++ b) ++ R := hd
  have ht := textR_of 1000 b R (by omega) (by omega)
  rw [← hd] at ht
  have f1 := text_any p F bs k 1000 _ h (by omega) (by omega) (by omega)
  rw [ht] at f1
  have hpb : ((bs.drop k).drop (psz b.length)).take b.length = b := by
    rw [hd, List.append_assoc, ← length_packed b.length, List.drop_left, List.take_left]
  have Hf := hid f1
  have Hpb := hid hpb
  have Hget := hid hget
  have Hl := hid hl
  have Ho := hid hone
  clear f1 hd ht h hget hpb hl hone
  go_enter Tryd.func51, Tryd.ntmps51
  go_wp2_with (fail)
  refine Hf.out.mono ?_
  rintro e w1 h1
  unfold TextPost at h1
  dsimp only at h1
  obtain ⟨v, rfl, hv, hr1, hC1⟩ := h1
  rw [Hpb.out] at hv
  have hb := hb.ch hC1 (by intro h; have h' : g = p := h; omega)
  obtain ⟨Av, cv, rfl⟩ := Rd.shape hv
  clear Hf
  go_wp2_with (fail)
  refine (Hget.out _ _ _ hv).mono ?_
  rintro e w2 ⟨rfl, hB2⟩
  have hr2 := hr1.belowR hB2
  have hb := hb.below hB2
  have hC2 := hC1.belowR hB2
  clear hB2 hr1 Hget hv
  go_wp2_with (first | (refine wp_st 31 (.tmp 24) (.tmp 22) rfl rfl rfl (f := off) rfl (l := l) rfl hb hoff (by rw [Hl.out]; exact sizeR15) Ho.out ?_; intro w3 k3 G3; refine wp_stop ?_))
  have hr3 := rdr_grown hr2 G3 hgp hgF
  have hC : Ch (pg p g) w w3 := (hC2.weaken (fun b _ h => Or.inl h)).grow G3 (fun k hk => by injection hk with hk; exact .inl (.inr hk.symm))
  refine wp_go ?_
  go_wp2
  go_ret
  exact ⟨rfl, hr3, k3, hC⟩
def rpM (r : Rp) : Rp := ⟨((by8 r.c).toNat : Int), ((by8 r.s).toNat : Int), ((by8 r.k).toNat : Int), r.o, r.n⟩
theorem bldP4 (g h : Nat) : ∀ W : World, (Instr.build 135 #[(0, .pointer (some ⟨g, 0, none⟩)), (1, .pointer (some ⟨g, 1, none⟩)), (2, .pointer (some ⟨g, 2, none⟩)), (3, .pointer (some ⟨h, 0, none⟩))]).run Tryd.prog W = .ok (.agg ([.pointer (some ⟨g, 0, none⟩), .pointer (some ⟨g, 1, none⟩), .pointer (some ⟨g, 2, none⟩), .pointer (some ⟨h, 0, none⟩)] : List Value).toArray) W := fun _ => by kernel_rfl
theorem aggP15 : ∀ W : World, (isAgg 89).run Tryd.prog W = .ok false W := fun W => by kernel_rfl
theorem sizeP15 : (Tryd.prog.info? 89).map (·.size) = some 1 := by kernel_rfl
theorem zeroI15 : (Tryd.prog.info? 3).map (·.zero) = some (some (.int .i64 0)) := by kernel_rfl
set_option maxRecDepth 100000 in
set_option maxHeartbeats 16000000 in
theorem getrep15_any (r : Rp) (v : Value) (F : Nat → Prop) (w : World) (hr : i64s r.n) (hv : Rd w F v (bys (rpB r))) :
    Calls Tryd.prog 52 #[v] w fun e w' => e = .returned (.tuple #[.agg (rpM r).l.toArray, .int .i64 0]) ∧ Below w.heap.size w w' := by
  obtain ⟨c, s, k, o, n⟩ := r
  have hn : i64s n := hr
  obtain ⟨x0, hx0⟩ : ∃ x, x = (by8 c).toNat := ⟨_, rfl⟩
  obtain ⟨x1, hx1⟩ : ∃ x, x = (by8 s).toNat := ⟨_, rfl⟩
  obtain ⟨x2, hx2⟩ : ∃ x, x = (by8 k).toNat := ⟨_, rfl⟩
  obtain ⟨x3, hx3⟩ : ∃ x : Nat, x = if o = true then 1 else 0 := ⟨_, rfl⟩
  have HM : Hid ((rpM ⟨c, s, k, o, n⟩).l = [.int .i64 (x0 : Int), .int .i64 (x1 : Int), .int .i64 (x2 : Int), .bool o, .int .i64 n]) := by
    show _ = _
    rw [hx0, hx1, hx2]
    rfl
  have l0 : x0 < 256 := by rw [hx0]; exact UInt8.toNat_lt _
  have l1 : x1 < 256 := by rw [hx1]; exact UInt8.toNat_lt _
  have l2 : x2 < 256 := by rw [hx2]; exact UInt8.toNat_lt _
  have l3 : x3 < 256 := by rw [hx3]; split <;> omega
  obtain ⟨X, hX⟩ : ∃ X, X = rpB ⟨c, s, k, o, n⟩ := ⟨_, rfl⟩
  rw [← hX] at hv
  have hXe : X = by8 c :: by8 s :: by8 k :: (if o then 1 else 0) :: packed (foldN n) := hX
  have HXl : Hid (X.length = 4 + psz (foldN n)) := by
    show _ = _
    rw [hXe]
    simp only [List.length_cons, length_packed]
    omega
  have D0 : Hid (fixRd 1 (X.drop 0) = .ok x0) := by show _ = _; rw [hXe, hx0]; exact fixRd_1 _ _
  have D1 : Hid (fixRd 1 (X.drop 1) = .ok x1) := by show _ = _; rw [hXe, hx1]; exact fixRd_1 _ _
  have D2 : Hid (fixRd 1 (X.drop 2) = .ok x2) := by show _ = _; rw [hXe, hx2]; exact fixRd_1 _ _
  have D3 : Hid (fixRd 1 (X.drop 3) = .ok x3) := by
    show _ = _
    rw [hXe, hx3]
    have := fixRd_1 (if o then 1 else 0) (packed (foldN n))
    cases o <;> exact this
  have D4 : Hid (readPk (X.drop 4) = .ok (foldN n, psz (foldN n))) := by
    show _ = _
    rw [hXe, ← List.append_nil (packed (foldN n))]
    exact readPk_packed _ _ (foldN_lt n hn.1 hn.2)
  have hpz := psz_bd (foldN n)
  have hXb : X.length ≤ 100 := by rw [HXl.out]; omega
  have Hx3 := hid hx3
  have hun := unfoldZ_foldN n
  clear hX hXe hx0 hx1 hx2 hx3 hr hn
  obtain ⟨A, cp, rfl⟩ := Rd.shape hv
  have b2 := Blk.new' w 31 zRpv
  have hB : Below w.heap.size w (w.alloc (.cells zRpv.toArray 31)) := (Below.refl _ _).alloc (Nat.le_refl _) _
  have hv0 := hv.below hB
  clear hv
  go_enter Tryd.func52, Tryd.ntmps52
  go_wp2_with (first | (refine wp_new 31 rfl rfl zeroRpl ?_; refine wp_stop ?_))
  obtain ⟨w0, hw0⟩ : ∃ x, x = w.alloc (.cells zRpv.toArray 31) := ⟨_, rfl⟩
  rw [← hw0] at b2 hB hv0 ⊢
  obtain ⟨g2, hg2⟩ : ∃ g, g = w.heap.size := ⟨_, rfl⟩
  have hgl : w.heap.size < w0.heap.size := b2.lt
  rw [← hg2] at b2 hgl ⊢
  have hg2w : w.heap.size ≤ g2 := by omega
  clear hw0 hg2
  refine wp_go ?_
  go_wp2_with (fail)
  refine (new_any _ X F _ hv0 (by omega)).mono ?_
  rintro e w1 ⟨p, rfl, hp, hr1, hB1⟩
  have b2 := b2.below hB1
  have hB := hB.trans (hB1.mono hB.size)
  have hpl : p < w1.heap.size := by obtain ⟨_, h', _⟩ := id hr1; exact lt_of_block h'
  obtain ⟨FF, hFF⟩ : ∃ FF, FF = fun b => w0.heap.size ≤ b ∧ b < p := ⟨_, rfl⟩
  rw [← hFF] at hr1
  have hF1 : ∀ b, FF b → g2 < b ∧ b < p := fun b hb => by rw [hFF] at hb; omega
  have h2p : g2 < p := by omega
  clear hFF hB1 hv0 hp hgl
  obtain ⟨W3, hW3, b5, b6, hB3⟩ := alloc2 w1 31 3 zRpv [.int .i64 0]
  go_wp2_with (first | (refine wp_new 31 rfl rfl zeroRpl ?_; refine wp_stop ?_))
  refine wp_go ?_
  go_upto_region 4 with (fail)
  rw [← hW3]
  obtain ⟨g6, hg6⟩ : ∃ g, g = w1.heap.size + 1 := ⟨_, rfl⟩
  have hr3 := hr1.belowR hB3
  have b2 := b2.below hB3
  have hB := hB.trans (hB3.mono hB.size)
  rw [← hg6] at b6 ⊢
  obtain ⟨g5, hg5⟩ : ∃ g, g = w1.heap.size := ⟨_, rfl⟩
  rw [← hg5] at b5 hpl hg6 ⊢
  have h56 : g5 < g6 := by omega
  clear hW3 hg6 hg5 hB3 hr1
  have hP4 := bldP4 g5 g6
  obtain ⟨ps, hps⟩ : ∃ ps : List Value, ps = [.pointer (some ⟨g5, 0, none⟩), .pointer (some ⟨g5, 1, none⟩), .pointer (some ⟨g5, 2, none⟩), .pointer (some ⟨g6, 0, none⟩)] := ⟨_, rfl⟩
  rw [← hps] at hP4
  have P0 : Hid (ps[0]? = some (.pointer (some ⟨g5, 0, none⟩))) := by show _ = _; rw [hps]; rfl
  have P1 : Hid (ps[1]? = some (.pointer (some ⟨g5, 1, none⟩))) := by show _ = _; rw [hps]; rfl
  have P2 : Hid (ps[2]? = some (.pointer (some ⟨g5, 2, none⟩))) := by show _ = _; rw [hps]; rfl
  have P3 : Hid (ps[3]? = some (.pointer (some ⟨g6, 0, none⟩))) := by show _ = _; rw [hps]; rfl
  clear hps
  go_wp2_with (refine wp_bld 135 [(0, .tmp 15), (1, .tmp 16), (2, .tmp 17), (3, .tmp 6)] rfl rfl [(0, .pointer (some ⟨g5, 0, none⟩)), (1, .pointer (some ⟨g5, 1, none⟩)), (2, .pointer (some ⟨g5, 2, none⟩)), (3, .pointer (some ⟨g6, 0, none⟩))] rfl hP4 ?_)
  clear hP4
  obtain ⟨S5, hS5⟩ : ∃ S5 : Nat → List Value, S5 = fun i => [.int .i64 (if 0 < i then (x0 : Int) else 0), .int .i64 (if 1 < i then (x1 : Int) else 0), .int .i64 (if 2 < i then (x2 : Int) else 0), .bool false, .int .i64 0] := ⟨_, rfl⟩
  obtain ⟨S6, hS6⟩ : ∃ S6 : Nat → List Value, S6 = fun i => [.int .i64 (if 3 < i then (x3 : Int) else 0)] := ⟨_, rfl⟩
  have HS5 := hid hS5
  have HS6 := hid hS6
  have b5 : Blk W3 g5 31 (S5 0) := by rw [hS5]; exact b5
  have b6 : Blk W3 g6 3 (S6 0) := by rw [hS6]; exact b6
  clear hS5 hS6
  go_loopw [19] (fun iv wr => ∃ i : Nat, i ≤ 4 ∧ iv = .int .i64 i ∧ RdR wr p FF X i ∧ Blk wr g5 31 (S5 i) ∧ Blk wr g6 3 (S6 i) ∧ Blk wr g2 31 zRpv ∧ Below w.heap.size w wr) (fun i _ => 4 - (intOf i).toNat)
  case atStart => exact ⟨0, by omega, rfl, hr3, b5, b6, b2, hB⟩
  case round =>
    clear hr3 b5 b6 b2 hB
    obtain ⟨i, hi, rfl, hr3, b5, b6, b2, hB⟩ := hrel
    by_cases hlt : i < 4
    · rcases (by omega : i = 0 ∨ i = 1 ∨ i = 2 ∨ i = 3) with rfl | rfl | rfl | rfl
      · have HI : (0 : Int) < 4 := by omega
        have Hn := hid (rdnum15_any p FF X 0 g5 0 31 (S5 0) 1 x0 _ hr3 b5 (by rw [HS5.out]; show 0 < 5; omega) (by omega) (fun b hF => by have := hF1 b hF; omega) D0.out (by omega))
        go_wp2_with (refine wp_idx 135 (.tmp 18) (.tmp 19) rfl rfl (l := ps) rfl (k := 0) rfl Tryd.underlying135 (by omega) aggP15 sizeP15 P0.out ?_)
        refine Hn.out.mono ?_
        rintro e w4 ⟨rfl, hr4, k4, hC4⟩
        have b2 := b2.ch hC4 (by rintro (h | h) <;> omega)
        have bo := b6.ch hC4 (by rintro (h | h) <;> omega)
        have hB := Ch.below_of hB hC4 (fun k hk => by rcases hk with hk | hk <;> have := hB.size <;> omega) hB.size
        have k4 : Blk w4 g5 31 (S5 1) := by
          have e : (S5 0).set 0 (.int .i64 (x0 : Int)) = S5 1 := by rw [HS5.out]; rfl
          rw [← e]; exact k4
        have bo : Blk w4 g6 3 (S6 1) := by
          have e : S6 0 = S6 1 := by rw [HS6.out]; rfl
          rw [← e]; exact bo
        clear Hn hC4
        go_wp2
        go_roundw
        case rel => exact ⟨1, by omega, by go_num, hr4, k4, bo, b2, hB⟩
        case measure => simp [intOf]
      · have HI : (0 : Int) < 4 := by omega
        have Hn := hid (rdnum15_any p FF X 1 g5 1 31 (S5 1) 1 x1 _ hr3 b5 (by rw [HS5.out]; show 1 < 5; omega) (by omega) (fun b hF => by have := hF1 b hF; omega) D1.out (by omega))
        go_wp2_with (refine wp_idx 135 (.tmp 18) (.tmp 19) rfl rfl (l := ps) rfl (k := 1) rfl Tryd.underlying135 (by omega) aggP15 sizeP15 P1.out ?_)
        refine Hn.out.mono ?_
        rintro e w4 ⟨rfl, hr4, k4, hC4⟩
        have b2 := b2.ch hC4 (by rintro (h | h) <;> omega)
        have bo := b6.ch hC4 (by rintro (h | h) <;> omega)
        have hB := Ch.below_of hB hC4 (fun k hk => by rcases hk with hk | hk <;> have := hB.size <;> omega) hB.size
        have k4 : Blk w4 g5 31 (S5 2) := by
          have e : (S5 1).set 1 (.int .i64 (x1 : Int)) = S5 2 := by rw [HS5.out]; rfl
          rw [← e]; exact k4
        have bo : Blk w4 g6 3 (S6 2) := by
          have e : S6 1 = S6 2 := by rw [HS6.out]; rfl
          rw [← e]; exact bo
        clear Hn hC4
        go_wp2
        go_roundw
        case rel => exact ⟨2, by omega, by go_num, hr4, k4, bo, b2, hB⟩
        case measure => simp [intOf]
      · have HI : (0 : Int) < 4 := by omega
        have Hn := hid (rdnum15_any p FF X 2 g5 2 31 (S5 2) 1 x2 _ hr3 b5 (by rw [HS5.out]; show 2 < 5; omega) (by omega) (fun b hF => by have := hF1 b hF; omega) D2.out (by omega))
        go_wp2_with (refine wp_idx 135 (.tmp 18) (.tmp 19) rfl rfl (l := ps) rfl (k := 2) rfl Tryd.underlying135 (by omega) aggP15 sizeP15 P2.out ?_)
        refine Hn.out.mono ?_
        rintro e w4 ⟨rfl, hr4, k4, hC4⟩
        have b2 := b2.ch hC4 (by rintro (h | h) <;> omega)
        have bo := b6.ch hC4 (by rintro (h | h) <;> omega)
        have hB := Ch.below_of hB hC4 (fun k hk => by rcases hk with hk | hk <;> have := hB.size <;> omega) hB.size
        have k4 : Blk w4 g5 31 (S5 3) := by
          have e : (S5 2).set 2 (.int .i64 (x2 : Int)) = S5 3 := by rw [HS5.out]; rfl
          rw [← e]; exact k4
        have bo : Blk w4 g6 3 (S6 3) := by
          have e : S6 2 = S6 3 := by rw [HS6.out]; rfl
          rw [← e]; exact bo
        clear Hn hC4
        go_wp2
        go_roundw
        case rel => exact ⟨3, by omega, by go_num, hr4, k4, bo, b2, hB⟩
        case measure => simp [intOf]
      · have HI : (0 : Int) < 4 := by omega
        have Hn := hid (rdnum15_any p FF X 3 g6 0 3 (S6 3) 1 x3 _ hr3 b6 (by rw [HS6.out]; show 0 < 1; omega) (by omega) (fun b hF => by have := hF1 b hF; omega) D3.out (by omega))
        go_wp2_with (refine wp_idx 135 (.tmp 18) (.tmp 19) rfl rfl (l := ps) rfl (k := 3) rfl Tryd.underlying135 (by omega) aggP15 sizeP15 P3.out ?_)
        refine Hn.out.mono ?_
        rintro e w4 ⟨rfl, hr4, k4, hC4⟩
        have b2 := b2.ch hC4 (by rintro (h | h) <;> omega)
        have bo := b5.ch hC4 (by rintro (h | h) <;> omega)
        have hB := Ch.below_of hB hC4 (fun k hk => by rcases hk with hk | hk <;> have := hB.size <;> omega) hB.size
        have k4 : Blk w4 g6 3 (S6 4) := by
          have e : (S6 3).set 0 (.int .i64 (x3 : Int)) = S6 4 := by rw [HS6.out]; rfl
          rw [← e]; exact k4
        have bo : Blk w4 g5 31 (S5 4) := by
          have e : S5 3 = S5 4 := by rw [HS5.out]; rfl
          rw [← e]; exact bo
        clear Hn hC4
        go_wp2
        go_roundw
        case rel => exact ⟨4, by omega, by go_num, hr4, bo, k4, b2, hB⟩
        case measure => simp [intOf]
    · have hi' : i = 4 := by omega
      subst hi'
      have hI : ¬ (4 : Int) < 4 := by omega
      have b5 : Blk wr g5 31 [.int .i64 (x0 : Int), .int .i64 (x1 : Int), .int .i64 (x2 : Int), .bool false, .int .i64 0] := by
        have e := HS5.out
        rw [e] at b5
        exact b5
      have b6 : Blk wr g6 3 [.int .i64 (x3 : Int)] := by
        have e := HS6.out
        rw [e] at b6
        exact b6
      have f1 := folded_any p FF X 4 _ hr3
      rw [D4.out] at f1
      have Hf := hid f1
      clear f1 hr3 HS5 HS6 P0 P1 P2 P3 D0 D1 D2 D3 D4
      go_wp2_with (fail)
      refine Hf.out.mono ?_
      rintro e w4 ⟨rfl, hr4, hC4⟩
      have b2 := b2.ch hC4 (by intro h; have h' : g2 = p := h; omega)
      have b5 := b5.ch hC4 (by intro h; have h' : g5 = p := h; omega)
      have b6 := b6.ch hC4 (by intro h; have h' : g6 = p := h; omega)
      have hB := Ch.below_of hB hC4 (fun k hk => by have : k = p := hk; omega) hB.size
      simp only [e2, hun]
      rw [show 4 + lenP (.ok (foldN n, psz (foldN n))) = X.length from by show 4 + psz (foldN n) = _; rw [HXl.out]] at hr4
      have hdn := done_any p FF X X.length _ hr4
      rw [if_neg (by omega)] at hdn
      have Hdn := hid hdn
      have d0 := b6.cellAt 0 _ rfl
      clear hdn Hf hC4 hr4
      cases o with
      | false =>
        have hx3 : x3 = 0 := Hx3.out
        subst hx3
        go_wp2_with (fail)
        refine Hdn.out.mono ?_
        rintro e w5 ⟨rfl, m, rfl⟩
        have b2 : Blk (w4.drewN m) g2 31 zRpv := b2.keep rfl
        have b5 : Blk (w4.drewN m) g5 31 [.int .i64 (x0 : Int), .int .i64 (x1 : Int), .int .i64 (x2 : Int), .bool false, .int .i64 0] := b5.keep rfl
        have b6 : Blk (w4.drewN m) g6 3 [.int .i64 0] := b6.keep rfl
        have hB := bel_drewN hB m
        clear d0
        obtain ⟨w5, hw5⟩ : ∃ x, x = w4.drewN m := ⟨_, rfl⟩
        rw [← hw5] at b2 b5 b6 hB ⊢
        clear hw5
        have d0 := b6.cellAt 0 _ rfl
        go_wp2_with (first | refine wp_bld 29 [(0, .tmp 53), (1, .tmp 54)] rfl rfl [(0, .bool false), (1, .int .i64 n)] rfl (bldRv false n) ?_ | (refine wp_st 29 (.tmp 56) (.tmp 55) rfl rfl rfl (f := 3) rfl (l := rvs (false, n)) rfl b5 (by show 3 + 2 ≤ 5; omega) sizeRs (one_rvs _) ?_; intro w6 k5 G6; refine wp_stop ?_))
        have b2 := b2.keep (G6.block _ b2.lt (by intro e; injection e with e; omega))
        have hB := hB.grown G6 hB.size (by intro k hk; injection hk with hk; have := hB.size; omega)
        have k5 : Blk w6 g5 31 (rpM ⟨c, s, k, false, n⟩).l := by rw [HM.out]; exact k5
        have HMl : Hid ((rpM ⟨c, s, k, false, n⟩).l.length = 5) := by show _ = _; rfl
        have HMo := hid (one_rp (rpM ⟨c, s, k, false, n⟩))
        obtain ⟨lr, hlr⟩ : ∃ l, l = (rpM ⟨c, s, k, false, n⟩).l := ⟨_, rfl⟩
        rw [← hlr] at k5 HMl HMo
        have Hlr := hid hlr
        clear hlr G6 d0
        refine wp_go ?_
        go_wp2_with (first | refine wp_ld 31 (.tmp 5) rfl rfl rfl k5.whole Tryd.underlying31 rfl (by rw [HMl.out]; exact sizeR15) ?_ | (refine wp_st 31 (.tmp 2) (.tmp 57) rfl rfl rfl (f := 0) rfl (l := lr) rfl b2 (by rw [HMl.out]; show 0 + 5 ≤ 5; omega) (by rw [HMl.out]; exact sizeR15) HMo.out ?_; intro w7 k2 G7; refine wp_stop ?_))
        have k2 := blk_all k2 (by rw [HMl.out]; show 5 ≤ 5; omega)
        have hB := hB.grown G7 hB.size (by intro k hk; injection hk with hk; omega)
        refine wp_go ?_
        go_wp2
        refine ret_cell1 rfl rfl rfl k2.whole Tryd.underlying31 rfl (by rw [HMl.out]; exact sizeR15) rfl ?_
        exact ⟨by rw [Hlr.out]; rfl, hB⟩
      | true =>
        have hx3 : x3 = 1 := Hx3.out
        subst hx3
        go_wp2_with (fail)
        refine Hdn.out.mono ?_
        rintro e w5 ⟨rfl, m, rfl⟩
        have b2 : Blk (w4.drewN m) g2 31 zRpv := b2.keep rfl
        have b5 : Blk (w4.drewN m) g5 31 [.int .i64 (x0 : Int), .int .i64 (x1 : Int), .int .i64 (x2 : Int), .bool false, .int .i64 0] := b5.keep rfl
        have b6 : Blk (w4.drewN m) g6 3 [.int .i64 1] := b6.keep rfl
        have hB := bel_drewN hB m
        clear d0
        obtain ⟨w5, hw5⟩ : ∃ x, x = w4.drewN m := ⟨_, rfl⟩
        rw [← hw5] at b2 b5 b6 hB ⊢
        clear hw5
        have d0 := b6.cellAt 0 _ rfl
        go_wp2_with (first | refine wp_bld 29 [(0, .tmp 53), (1, .tmp 54)] rfl rfl [(0, .bool true), (1, .int .i64 n)] rfl (bldRv true n) ?_ | (refine wp_st 29 (.tmp 56) (.tmp 55) rfl rfl rfl (f := 3) rfl (l := rvs (true, n)) rfl b5 (by show 3 + 2 ≤ 5; omega) sizeRs (one_rvs _) ?_; intro w6 k5 G6; refine wp_stop ?_))
        have b2 := b2.keep (G6.block _ b2.lt (by intro e; injection e with e; omega))
        have hB := hB.grown G6 hB.size (by intro k hk; injection hk with hk; have := hB.size; omega)
        have k5 : Blk w6 g5 31 (rpM ⟨c, s, k, true, n⟩).l := by rw [HM.out]; exact k5
        have HMl : Hid ((rpM ⟨c, s, k, true, n⟩).l.length = 5) := by show _ = _; rfl
        have HMo := hid (one_rp (rpM ⟨c, s, k, true, n⟩))
        obtain ⟨lr, hlr⟩ : ∃ l, l = (rpM ⟨c, s, k, true, n⟩).l := ⟨_, rfl⟩
        rw [← hlr] at k5 HMl HMo
        have Hlr := hid hlr
        clear hlr G6 d0
        refine wp_go ?_
        go_wp2_with (first | refine wp_ld 31 (.tmp 5) rfl rfl rfl k5.whole Tryd.underlying31 rfl (by rw [HMl.out]; exact sizeR15) ?_ | (refine wp_st 31 (.tmp 2) (.tmp 57) rfl rfl rfl (f := 0) rfl (l := lr) rfl b2 (by rw [HMl.out]; show 0 + 5 ≤ 5; omega) (by rw [HMl.out]; exact sizeR15) HMo.out ?_; intro w7 k2 G7; refine wp_stop ?_))
        have k2 := blk_all k2 (by rw [HMl.out]; show 5 ≤ 5; omega)
        have hB := hB.grown G7 hB.size (by intro k hk; injection hk with hk; omega)
        refine wp_go ?_
        go_wp2
        refine ret_cell1 rfl rfl rfl k2.whole Tryd.underlying31 rfl (by rw [HMl.out]; exact sizeR15) rfl ?_
        exact ⟨by rw [Hlr.out]; rfl, hB⟩
end Go.Proofs.YtfjgfaccfjdklaaDoor
/- AB: layer 15: contracts of execs over the landed code: readWorld, Get (Put, Digest: AL). -/
namespace Go.Proofs.YtfjgfaccfjdklaaDoor
open Go.RowKit Go.V
def gotW (W : Wo) : Wo := ⟨((u64n W.s % 65536 : Nat) : Int), ((u64n W.f % 65536 : Nat) : Int), W.v, W.u, stF W.c, W.a.map rpM⟩
theorem got_in {W : Wo} (h : WoIn W) : WoIn (gotW W) := by
  refine ⟨?_, ?_, h.v, h.u, st_in h.c, ⟨by show (W.a.map rpM).length = 6; rw [List.length_map]; exact h.a.1, fun r hr => ?_⟩⟩
  · show i64s ((u64n W.s % 65536 : Nat) : Int); unfold i64s; omega
  · show i64s ((u64n W.f % 65536 : Nat) : Int); unfold i64s; omega
  · obtain ⟨q, hq, rfl⟩ := List.mem_map.1 hr
    exact ⟨(h.a.2 q hq).n⟩
theorem by8_fit {x : Int} (h : b8i x) : ((by8 x).toNat : Int) = x := by
  unfold b8i at h
  unfold by8
  rw [UInt8.toNat_ofNat_of_lt' (by show (x % 256).toNat < 256; omega)]
  omega
theorem got_fit {W : Wo} (h : Fit W) : gotW W = W := by
  obtain ⟨h1, h2, _, _, h5, h6⟩ := h
  unfold b16 at h1 h2
  have e1 : ((u64n W.s % 65536 : Nat) : Int) = W.s := by unfold u64n; omega
  have e2 : ((u64n W.f % 65536 : Nat) : Int) = W.f := by unfold u64n; omega
  have e3 : stF W.c = W.c := by
    unfold stF
    have : ∀ l : List Cl, (∀ x ∈ l, fitC x) → l.map stC = l := by
      intro l
      induction l with
      | nil => intro _; rfl
      | cons x l ih =>
        intro h
        rw [List.map_cons, ih (fun y hy => h y (List.mem_cons_of_mem _ hy))]
        have hx := h x (by simp)
        obtain ⟨t, n⟩ := x
        cases t with
        | true => rfl
        | false => have : n = 0 := hx rfl; subst this; rfl
    exact this _ h5
  have e4 : W.a.map rpM = W.a := by
    have : ∀ l : List Rp, (∀ x ∈ l, fitR x) → l.map rpM = l := by
      intro l
      induction l with
      | nil => intro _; rfl
      | cons x l ih =>
        intro h
        rw [List.map_cons, ih (fun y hy => h y (List.mem_cons_of_mem _ hy))]
        obtain ⟨h1, h2, h3⟩ := h x (by simp)
        obtain ⟨c, s, k, o, n⟩ := x
        show (⟨((by8 c).toNat : Int), ((by8 s).toNat : Int), ((by8 k).toNat : Int), o, n⟩ : Rp) :: l = _
        rw [by8_fit h1, by8_fit h2, by8_fit h3]
    exact this _ h6
  unfold gotW
  rw [e1, e2, e3, e4]
def zRw : Rp := ⟨0, 0, 0, false, 0⟩
def aS (a : List Rp) (i : Nat) : List Rp := (List.range 6).map (fun j => if j < i then rpM ((a[j]?).getD zRw) else zRw)
theorem aS_len (a : List Rp) (i : Nat) : (aS a i).length = 6 := by unfold aS; simp
theorem aS_at (a : List Rp) (i j : Nat) (h : j < 6) : (aS a i)[j]? = some (if j < i then rpM ((a[j]?).getD zRw) else zRw) := by
  unfold aS
  rw [List.getElem?_map, List.getElem?_range h]
  rfl
theorem aS_next {a : List Rp} {i : Nat} {r : Rp} (hi : i < 6) (h : a[i]? = some r) : (aS a i).set i (rpM r) = aS a (i + 1) := by
  apply List.ext_getElem?
  intro j
  rcases Nat.lt_or_ge j 6 with hj | hj
  · rw [aS_at _ _ _ hj]
    by_cases e : j = i
    · subst e
      rw [List.getElem?_set_self (by rw [aS_len]; exact hi), if_pos (by omega), h]
      rfl
    · rw [List.getElem?_set_ne (fun h => e h.symm), aS_at _ _ _ hj]
      by_cases hk : j < i
      · rw [if_pos hk, if_pos (by omega)]
      · rw [if_neg hk, if_neg (by omega)]
  · rw [List.getElem?_eq_none (by rw [List.length_set, aS_len]; exact hj), List.getElem?_eq_none (by rw [aS_len]; exact hj)]
theorem aS_end {a : List Rp} (h : a.length = 6) : aS a 6 = a.map rpM := by
  apply List.ext_getElem?
  intro j
  rcases Nat.lt_or_ge j 6 with hj | hj
  · rw [aS_at _ _ _ hj, if_pos hj, List.getElem?_map, List.getElem?_eq_getElem (by omega)]
    rfl
  · rw [List.getElem?_eq_none (by rw [aS_len]; exact hj), List.getElem?_eq_none (by rw [List.length_map]; omega)]
theorem bldP2 (g : Nat) (a b : Nat) : ∀ W : World, (Instr.build 90 #[(0, .pointer (some ⟨g, a, none⟩)), (1, .pointer (some ⟨g, b, none⟩))]).run Tryd.prog W = .ok (.agg ([.pointer (some ⟨g, a, none⟩), .pointer (some ⟨g, b, none⟩)] : List Value).toArray) W := fun _ => by kernel_rfl
theorem bldQ2 (g : Nat) (a b : Nat) : ∀ W : World, (Instr.build 93 #[(0, .pointer (some ⟨g, a, none⟩)), (1, .pointer (some ⟨g, b, none⟩))]).run Tryd.prog W = .ok (.agg ([.pointer (some ⟨g, a, none⟩), .pointer (some ⟨g, b, none⟩)] : List Value).toArray) W := fun _ => by kernel_rfl
theorem aggQ15 : ∀ W : World, (isAgg 92).run Tryd.prog W = .ok false W := fun W => by kernel_rfl
theorem sizeQp15 : (Tryd.prog.info? 92).map (·.size) = some 1 := by kernel_rfl
theorem len_tx (b : List UInt8) : (txB b).length = psz b.length + b.length := by unfold txB; rw [List.length_append, length_packed]
theorem rps_drop {a : List Rp} {i : Nat} {r : Rp} (h : a[i]? = some r) : rpsB (a.drop i) = txB (rpB r) ++ rpsB (a.drop (i + 1)) := by
  have hi : i < a.length := (List.getElem?_eq_some_iff.1 h).1
  rw [List.drop_eq_getElem_cons hi]
  have : a[i] = r := (List.getElem?_eq_some_iff.1 h).2
  rw [this]
  rfl
def bothR (W : Wo) : Bool := rgt W.v.n W.v.m && rgt W.u.n W.u.m
theorem got_wrong {n : Int} {M : Nat} (h : rgt n M = false) : putV n M = [] ∧ gotV [] = .tuple #[vw 0 0, .int .i64 1] := by
  refine ⟨by unfold putV; rw [h]; rfl, ?_⟩
  unfold gotV
  rw [if_neg (fun h => absurd h.1 (by decide))]
  rfl
set_option maxRecDepth 100000 in
set_option maxHeartbeats 16000000 in
theorem rdworld15_any (W : Wo) (p g : Nat) (F : Nat → Prop) (w : World) (hW : WoIn W) (h : RdR w p F (putW W.e) 0) (hb : Blk w g 34 zWo.l) (hgp : g ≠ p) (hgF : ∀ b, F b → g ≠ b) :
    Calls Tryd.prog 28 #[rp p, .pointer (some ⟨g, 0, none⟩)] w fun e w' => e = .returned (.int .i64 (if bothR W = true then 0 else 1)) ∧ Ch (pg p g) w w' ∧ (bothR W = true → RdR w' p F (putW W.e) (putW W.e).length ∧ Blk w' g 34 (gotW W).l) := by
  have hXl := len_put15 hW
  obtain ⟨X, hX⟩ : ∃ X, X = putW W.e := ⟨_, rfl⟩
  have hXe : X = fixR 2 (u64n W.s) ++ (fixR 2 (u64n W.f) ++ (txB (putV W.v.n W.v.m) ++ (txB (putV W.u.n W.u.m) ++ (txB (putK (nmF W.c)) ++ rpsB W.a)))) := by
    rw [hX]
    show ((((fixR 2 (u64n W.s) ++ fixR 2 (u64n W.f)) ++ txB (putV W.v.n W.v.m)) ++ txB (putV W.u.n W.u.m)) ++ txB (putK (nmF W.c))) ++ rpsB W.a = _
    simp only [List.append_assoc]
  rw [← hX] at h hXl ⊢
  clear hX
  have n1 := len_fix2 (u64n W.s)
  have n2 := len_fix2 (u64n W.f)
  obtain ⟨pv, hpv⟩ : ∃ q, q = putV W.v.n W.v.m := ⟨_, rfl⟩
  obtain ⟨pu, hpu⟩ : ∃ q, q = putV W.u.n W.u.m := ⟨_, rfl⟩
  obtain ⟨pc, hpc⟩ : ∃ q, q = putK (nmF W.c) := ⟨_, rfl⟩
  have hNl : (nmF W.c).length = 16 := by rw [nm_len, hW.c.len]
  have lv : pv.length ≤ 4 := by rw [hpv]; exact len_putV _ _
  have lu : pu.length ≤ 4 := by rw [hpu]; exact len_putV _ _
  have lc : pc.length ≤ 186 := by rw [hpc]; exact len_putK _ hNl
  rw [← hpv, ← hpu, ← hpc] at hXe
  have e0 : X.drop 0 = fixR 2 (u64n W.s) ++ (fixR 2 (u64n W.f) ++ (txB pv ++ (txB pu ++ (txB pc ++ rpsB W.a)))) := hXe
  have e1 : X.drop 2 = fixR 2 (u64n W.f) ++ (txB pv ++ (txB pu ++ (txB pc ++ rpsB W.a))) := by rw [hXe, ← n1, List.drop_left]
  have e2' : X.drop 4 = txB pv ++ (txB pu ++ (txB pc ++ rpsB W.a)) := by rw [show (4 : Nat) = 2 + 2 from rfl, ← List.drop_drop, e1, ← n2, List.drop_left]
  have e3 : X.drop (4 + (psz pv.length + pv.length)) = txB pu ++ (txB pc ++ rpsB W.a) := by rw [← List.drop_drop, e2', ← len_tx, List.drop_left]
  have e4 : X.drop (4 + (psz pv.length + pv.length) + (psz pu.length + pu.length)) = txB pc ++ rpsB W.a := by rw [← List.drop_drop, e3, ← len_tx, List.drop_left]
  have e5 : X.drop (4 + (psz pv.length + pv.length) + (psz pu.length + pu.length) + (psz pc.length + pc.length)) = rpsB (W.a.drop 0) := by rw [← List.drop_drop, e4, ← len_tx, List.drop_left, List.drop_zero]
  have D0 : Hid (fixRd 2 (X.drop 0) = .ok (u64n W.s % 65536)) := by show _ = _; rw [e0]; exact fixRd_2 _ _
  have D1 : Hid (fixRd 2 (X.drop 2) = .ok (u64n W.f % 65536)) := by show _ = _; rw [e1]; exact fixRd_2 _ _
  have D2 := hid e2'
  have D3 := hid e3
  have D4 := hid e4
  have D5 := hid e5
  obtain ⟨s', hs'⟩ : ∃ x, x = u64n W.s % 65536 := ⟨_, rfl⟩
  obtain ⟨f', hf'⟩ : ∃ x, x = u64n W.f % 65536 := ⟨_, rfl⟩
  rw [← hs'] at D0
  rw [← hf'] at D1
  have ls : s' < 65536 := by rw [hs']; omega
  have lf : f' < 65536 := by rw [hf']; omega
  obtain ⟨V1, hV1⟩ : ∃ V : Wo, V = ⟨(s' : Int), 0, ⟨0, 0⟩, ⟨0, 0⟩, List.replicate 16 zC, List.replicate 6 ⟨0, 0, 0, false, 0⟩⟩ := ⟨_, rfl⟩
  obtain ⟨V2, hV2⟩ : ∃ V : Wo, V = ⟨(s' : Int), (f' : Int), ⟨0, 0⟩, ⟨0, 0⟩, List.replicate 16 zC, List.replicate 6 ⟨0, 0, 0, false, 0⟩⟩ := ⟨_, rfl⟩
  obtain ⟨V3, hV3⟩ : ∃ V : Wo, V = ⟨(s' : Int), (f' : Int), W.v, ⟨0, 0⟩, List.replicate 16 zC, List.replicate 6 ⟨0, 0, 0, false, 0⟩⟩ := ⟨_, rfl⟩
  obtain ⟨V4, hV4⟩ : ∃ V : Wo, V = ⟨(s' : Int), (f' : Int), W.v, W.u, List.replicate 16 zC, List.replicate 6 ⟨0, 0, 0, false, 0⟩⟩ := ⟨_, rfl⟩
  have z0 : i64s 0 := z64
  have hz6 : (List.replicate 6 (⟨0, 0, 0, false, 0⟩ : Rp)).length = 6 ∧ ∀ r ∈ List.replicate 6 (⟨0, 0, 0, false, 0⟩ : Rp), RpIn r := ⟨by simp, fun r hr => by rw [List.eq_of_mem_replicate hr]; exact ⟨z64⟩⟩
  have hz16 : ClIn (List.replicate 16 zC) := ⟨by simp, fun x hx => by rw [List.eq_of_mem_replicate hx]; exact z64⟩
  have hi1 : i64s (s' : Int) := by unfold i64s; omega
  have hi2 : i64s (f' : Int) := by unfold i64s; omega
  have hz2 : i64s (⟨0, 0⟩ : Vw).n ∧ (⟨0, 0⟩ : Vw).m < 65536 := ⟨z64, by show 0 < 65536; omega⟩
  have L1 : Hid (V1.l.length = 68) := by show _ = _; rw [hV1]; exact len_wo ⟨hi1, z64, hz2, hz2, hz16, hz6⟩
  have L2 : Hid (V2.l.length = 68) := by show _ = _; rw [hV2]; exact len_wo ⟨hi1, hi2, hz2, hz2, hz16, hz6⟩
  have L3 : Hid (V3.l.length = 68) := by show _ = _; rw [hV3]; exact len_wo ⟨hi1, hi2, hW.v, hz2, hz16, hz6⟩
  have L4 : Hid (V4.l.length = 68) := by show _ = _; rw [hV4]; exact len_wo ⟨hi1, hi2, hW.v, hW.u, hz16, hz6⟩
  have T1 : Hid (zWo.l.set 0 (.int .i64 (s' : Int)) = V1.l) := by show _ = _; rw [hV1]; rfl
  have T2 : Hid (V1.l.set 1 (.int .i64 (f' : Int)) = V2.l) := by show _ = _; rw [hV1, hV2]; rfl
  have T3 : Hid (V2.l.take 2 ++ W.v.l ++ V2.l.drop 4 = V3.l) := by show _ = _; rw [hV3, hV2]; rfl
  have T4 : Hid (V3.l.take 4 ++ W.u.l ++ V3.l.drop 6 = V4.l) := by show _ = _; rw [hV4, hV3]; rfl
  have h4c : V4.c.length = 16 := by rw [hV4]; exact hz16.len
  have T5 : Hid (V4.l.take 6 ++ cvs (stF W.c) ++ V4.l.drop 38 = (⟨(s' : Int), (f' : Int), W.v, W.u, stF W.c, aS W.a 0⟩ : Wo).l) := by
    show _ = _
    rw [wlo_c V4 _ h4c, hV4]
    rfl
  have T6 : Hid (∀ i r, i < 6 → W.a[i]? = some r → (⟨(s' : Int), (f' : Int), W.v, W.u, stF W.c, aS W.a i⟩ : Wo).l.take (38 + i * 5) ++ (rpM r).l ++ (⟨(s' : Int), (f' : Int), W.v, W.u, stF W.c, aS W.a i⟩ : Wo).l.drop (38 + i * 5 + 5) = (⟨(s' : Int), (f' : Int), W.v, W.u, stF W.c, aS W.a (i + 1)⟩ : Wo).l) := by
    intro i r hi hr
    rw [wlo_a _ i _ (st_in hW.c).len (by rw [aS_len]; exact hi), ← aS_next hi hr]
  have L6 : Hid (∀ i, (⟨(s' : Int), (f' : Int), W.v, W.u, stF W.c, aS W.a i⟩ : Wo).l.length = 68) := by
    intro i
    have h1 : (cvs (stF W.c)).length = 32 := by rw [len_cvs, (st_in hW.c).len]
    have h2 := len_ras (aS W.a i)
    rw [aS_len] at h2
    unfold ras at h2
    simp only [Wo.l, List.length_append, List.length_cons, List.length_nil, h1, h2]
  have Tg : Hid ((⟨(s' : Int), (f' : Int), W.v, W.u, stF W.c, aS W.a 6⟩ : Wo) = gotW W) := by
    show _ = _
    rw [aS_end hW.a.1, hs', hf']
    rfl
  obtain ⟨V6, hV6⟩ : ∃ V6 : Nat → Wo, V6 = fun i => ⟨(s' : Int), (f' : Int), W.v, W.u, stF W.c, aS W.a i⟩ := ⟨_, rfl⟩
  have T5 : Hid (V4.l.take 6 ++ cvs (stF W.c) ++ V4.l.drop 38 = (V6 0).l) := by show _ = _; rw [hV6]; exact T5.out
  have T6 : Hid (∀ i r, i < 6 → W.a[i]? = some r → (V6 i).l.take (38 + i * 5) ++ (rpM r).l ++ (V6 i).l.drop (38 + i * 5 + 5) = (V6 (i + 1)).l) := by rw [hV6]; exact T6.out
  have L6 : Hid (∀ i, (V6 i).l.length = 68) := by rw [hV6]; exact L6.out
  have Tg : Hid (V6 6 = gotW W) := by show _ = _; rw [hV6]; exact Tg.out
  have Lz : Hid (zWo.l.length = 68) := hid len_zWo
  have Hal := hid hW.a.1
  have Hst := hid (st_toC W.c)
  have Lst : Hid ((cvs (stF W.c)).length = 32) := by show _ = _; rw [len_cvs, (st_in hW.c).len]
  have hcget : ∀ v G Y, Rd Y G v (bys pc) → Calls Tryd.prog 50 #[v] Y fun e w' => e = .returned (.tuple #[.agg (cvs (stF W.c)).toArray, .int .i64 0]) ∧ Below Y.heap.size Y w' := by
    intro v G Y hv
    rw [hpc] at hv
    rw [← Hst.out]
    refine kvget15_any (nmF W.c) v G Y hNl (fun m hm => ?_) hv
    obtain ⟨x, hx, hy⟩ := List.mem_map.1 hm
    have := hW.c.n x hx
    unfold nmC at hy
    split at hy
    · injection hy with hy; rw [← hy]; exact this
    · cases hy
  have hrget : ∀ r ∈ W.a, ∀ v G Y, Rd Y G v (bys (rpB r)) → Calls Tryd.prog 52 #[v] Y fun e w' => e = .returned (.tuple #[.agg (rpM r).l.toArray, .int .i64 0]) ∧ Below Y.heap.size Y w' := fun r hr v G Y hv => getrep15_any r v G Y (hW.a.2 r hr).n hv
  have Hcget := hid hcget
  have Hrget := hid hrget
  have hvget : rgt W.v.n W.v.m = true → ∀ v G Y, Rd Y G v (bys pv) → Calls Tryd.prog 48 #[v] Y fun e w' => e = .returned (.tuple #[.agg W.v.l.toArray, .int .i64 0]) ∧ Below Y.heap.size Y w' := by
    intro hr v G Y hv
    have := get6_any v pv G Y hv (by omega)
    rw [hpv, got_put hW.v.2 hr] at this
    exact this
  have huget : rgt W.u.n W.u.m = true → ∀ v G Y, Rd Y G v (bys pu) → Calls Tryd.prog 48 #[v] Y fun e w' => e = .returned (.tuple #[.agg W.u.l.toArray, .int .i64 0]) ∧ Below Y.heap.size Y w' := by
    intro hr v G Y hv
    have := get6_any v pu G Y hv (by omega)
    rw [hpu, got_put hW.u.2 hr] at this
    exact this
  have hvno : rgt W.v.n W.v.m = false → ∀ v G Y, Rd Y G v (bys pv) → Calls Tryd.prog 48 #[v] Y fun e w' => e = .returned (.tuple #[.agg (Vw.l ⟨0, 0⟩).toArray, .int .i64 1]) ∧ Below Y.heap.size Y w' := by
    intro hr v G Y hv
    have := get6_any v pv G Y hv (by omega)
    rw [hpv, (got_wrong hr).1, (got_wrong hr).2] at this
    exact this
  have huno : rgt W.u.n W.u.m = false → ∀ v G Y, Rd Y G v (bys pu) → Calls Tryd.prog 48 #[v] Y fun e w' => e = .returned (.tuple #[.agg (Vw.l ⟨0, 0⟩).toArray, .int .i64 1]) ∧ Below Y.heap.size Y w' := by
    intro hr v G Y hv
    have := get6_any v pu G Y hv (by omega)
    rw [hpu, (got_wrong hr).1, (got_wrong hr).2] at this
    exact this
  have Hvget := hid hvget
  have Huget := hid huget
  have Hvno := hid hvno
  have Huno := hid huno
  clear hvget huget hvno huno hcget hrget hV1 hV2 hV3 hV4 hV6 h4c hz6 hz16 hz2 hi1 hi2 z0 e0 e1 e2' e3 e4 e5 hXe hpv hpu hpc n1 n2 hNl hW hs' hf'
  have B0 := bldP2 g 0 1
  have B1 := bldQ2 g 2 4
  obtain ⟨ps, hps⟩ : ∃ ps : List Value, ps = [.pointer (some ⟨g, 0, none⟩), .pointer (some ⟨g, 1, none⟩)] := ⟨_, rfl⟩
  obtain ⟨qs, hqs⟩ : ∃ qs : List Value, qs = [.pointer (some ⟨g, 2, none⟩), .pointer (some ⟨g, 4, none⟩)] := ⟨_, rfl⟩
  rw [← hps] at B0
  rw [← hqs] at B1
  have P0 : Hid (ps[0]? = some (.pointer (some ⟨g, 0, none⟩))) := by show _ = _; rw [hps]; rfl
  have P1 : Hid (ps[1]? = some (.pointer (some ⟨g, 1, none⟩))) := by show _ = _; rw [hps]; rfl
  have Q0 : Hid (qs[0]? = some (.pointer (some ⟨g, 2, none⟩))) := by show _ = _; rw [hqs]; rfl
  have Q1 : Hid (qs[1]? = some (.pointer (some ⟨g, 4, none⟩))) := by show _ = _; rw [hqs]; rfl
  clear hps hqs
  obtain ⟨er, her⟩ : ∃ x : Int, x = if bothR W = true then 0 else 1 := ⟨_, rfl⟩
  rw [← her]
  have Her := hid her
  clear her
  go_enter Tryd.func28, Tryd.ntmps28
  go_upto_region 1 with (fail)
  refine wp_region_noPanic ?_
  refine wp_region_held_drew (S := Ch nob w) (by kernel_rfl) ((Ch.refl _ _).drew) (fun hHeld => ?_)
  refine wpAnyH_take (i := 0) (oi := ⟨some 14, _, _, _, _, none⟩) (v := ?_) rfl (by kernel_rfl) (by kernel_rfl) (by kernel_rfl) (fun _ _ _ h => h) (Or.inl ⟨by rfl, ?_⟩) (by assumption) ?_
  rotate_left
  · intro w hSw; go_simp; try with_reducible rfl
  try simp only [Act.put, List.setIfInBounds_toArray, List.set_cons_zero, List.set_cons_succ]
  refine wpAnyH_take (i := 1) (oi := ⟨some 15, _, _, _, _, none⟩) (v := ?_) rfl (by kernel_rfl) (by kernel_rfl) (by kernel_rfl) (fun _ _ _ h => h) (Or.inl ⟨by rfl, ?_⟩) (by assumption) ?_
  rotate_left
  · intro w hSw; go_simp; try with_reducible rfl
  try simp only [Act.put, List.setIfInBounds_toArray, List.set_cons_zero, List.set_cons_succ]
  refine wpAnyH_take (i := 2) (oi := ⟨some 16, _, _, _, _, none⟩) (v := ?_) rfl (by kernel_rfl) (by kernel_rfl) (by kernel_rfl) (fun _ _ _ h => h) (Or.inl ⟨by rfl, ?_⟩) (by assumption) ?_
  rotate_left
  · intro w hSw; go_simp; try with_reducible rfl
  try simp only [Act.put, List.setIfInBounds_toArray, List.set_cons_zero, List.set_cons_succ]
  refine wpAnyH_take (i := 3) (oi := ⟨some 17, _, _, _, _, none⟩) (v := ?_) rfl (by kernel_rfl) (by kernel_rfl) (by kernel_rfl) (fun _ _ _ h => h) (Or.inl ⟨by rfl, ?_⟩) (by assumption) ?_
  rotate_left
  · intro w hSw; go_simp; try with_reducible rfl
  try simp only [Act.put, List.setIfInBounds_toArray, List.set_cons_zero, List.set_cons_succ]
  refine wpAnyH_take (i := 4) (oi := ⟨some 18, _, _, _, _, none⟩) (v := ?_) rfl (by kernel_rfl) (by kernel_rfl) (by kernel_rfl) (fun _ _ _ h => h) (Or.inl ⟨by rfl, ?_⟩) (by assumption) ?_
  rotate_left
  · intro w hSw; go_simp; try with_reducible rfl
  try simp only [Act.put, List.setIfInBounds_toArray, List.set_cons_zero, List.set_cons_succ]
  refine wpAnyH_take (i := 5) (oi := ⟨some 19, _, _, _, _, none⟩) (v := ?_) rfl (by kernel_rfl) (by kernel_rfl) (by kernel_rfl) (fun _ _ _ h => h) (Or.inl ⟨by rfl, ?_⟩) (by assumption) ?_
  rotate_left
  · intro w hSw; go_simp; try with_reducible rfl
  try simp only [Act.put, List.setIfInBounds_toArray, List.set_cons_zero, List.set_cons_succ]
  refine wpAnyH_take (i := 6) (oi := ⟨some 20, _, _, _, _, none⟩) (v := _) rfl (by kernel_rfl) (by kernel_rfl) (by kernel_rfl) (fun _ _ _ h => h) (y_bld (by rfl) 90 [(0, .tmp 16), (1, .tmp 19)] (by rfl) [(0, .pointer (some ⟨g, 0, none⟩)), (1, .pointer (some ⟨g, 1, none⟩))] (by rfl) B0) (by assumption) ?_
  try simp only [Act.put, List.setIfInBounds_toArray, List.set_cons_zero, List.set_cons_succ]
  refine wpAnyH_take (i := 7) (oi := ⟨some 21, _, _, _, _, none⟩) (v := ?_) rfl (by kernel_rfl) (by kernel_rfl) (by kernel_rfl) (fun _ _ _ h => h) (Or.inl ⟨by rfl, ?_⟩) (by assumption) ?_
  rotate_left
  · intro w hSw; go_simp; try with_reducible rfl
  try simp only [Act.put, List.setIfInBounds_toArray, List.set_cons_zero, List.set_cons_succ]
  refine wpAnyH_done (by kernel_rfl) ?_ _
  refine NoPanic.normal ?_
  have hr0 := h.belowR hHeld.below
  have hb0 := hb.below hHeld.below
  have hC0 : Ch (pg p g) w _ := hHeld.weaken (fun _ _ e => e.elim)
  clear hHeld h hb
  go_wp2
  go_loopw [21] (fun iv wr => ∃ i : Nat, iv = .int .i64 i ∧ Ch (pg p g) w wr ∧ ((i = 0 ∧ RdR wr p F X 0 ∧ Blk wr g 34 zWo.l) ∨ (i = 1 ∧ RdR wr p F X 2 ∧ Blk wr g 34 V1.l) ∨ (i = 2 ∧ RdR wr p F X 4 ∧ Blk wr g 34 V2.l))) (fun i _ => 2 - (intOf i).toNat)
  case atStart => exact ⟨0, rfl, hC0, .inl ⟨rfl, hr0, hb0⟩⟩
  case round =>
    clear hr0 hb0 hC0
    obtain ⟨i, rfl, hC, ⟨rfl, hr, hb⟩ | ⟨rfl, hr, hb⟩ | ⟨rfl, hr, hb⟩⟩ := hrel
    · have Hn := hid (rdnum15_any p F X 0 g 0 34 zWo.l 2 s' _ hr hb (by rw [Lz.out]; omega) hgp hgF D0.out (by omega))
      go_wp2_with (refine wp_idx 90 (.tmp 20) (.tmp 21) rfl rfl (l := ps) rfl (k := 0) rfl Tryd.underlying90 (by omega) aggP15 sizeP15 P0.out ?_)
      refine Hn.out.mono ?_
      rintro e w4 ⟨rfl, hr4, k4, hC4⟩
      rw [T1.out] at k4
      have hC := hC.trans hC4
      clear Hn hC4
      go_wp2
      go_roundw
      case rel => exact ⟨1, by go_num, hC, .inr (.inl ⟨rfl, hr4, k4⟩)⟩
      case measure => simp [intOf]
    · have Hn := hid (rdnum15_any p F X 2 g 1 34 V1.l 2 f' _ hr hb (by rw [L1.out]; omega) hgp hgF D1.out (by omega))
      go_wp2_with (refine wp_idx 90 (.tmp 20) (.tmp 21) rfl rfl (l := ps) rfl (k := 1) rfl Tryd.underlying90 (by omega) aggP15 sizeP15 P1.out ?_)
      refine Hn.out.mono ?_
      rintro e w4 ⟨rfl, hr4, k4, hC4⟩
      rw [T2.out] at k4
      have hC := hC.trans hC4
      clear Hn hC4
      go_wp2
      go_roundw
      case rel => exact ⟨2, by go_num, hC, .inr (.inr ⟨rfl, hr4, k4⟩)⟩
      case measure => simp [intOf]
    · rw [show ((2 : Nat) : Int) = (2 : Int) from rfl]
      go_upto_region 8 with (fail)
      obtain ⟨wq, hwq⟩ : ∃ x, x = wr := ⟨_, rfl⟩
      rw [← hwq] at hr hb hC ⊢
      clear hwq
      refine wp_region_noPanic ?_
      refine wp_region_held_drew (S := Ch nob wq) (by kernel_rfl) ((Ch.refl _ _).drew) (fun hHeld => ?_)
      refine wpAnyH_take (i := 0) (oi := ⟨some 31, _, _, _, _, none⟩) (v := ?_) rfl (by kernel_rfl) (by kernel_rfl) (by kernel_rfl) (fun _ _ _ h => h) (Or.inl ⟨by rfl, ?_⟩) (by assumption) ?_
      rotate_left
      · intro w hSw; go_simp; try with_reducible rfl
      try simp only [Act.put, List.setIfInBounds_toArray, List.set_cons_zero, List.set_cons_succ]
      refine wpAnyH_take (i := 1) (oi := ⟨some 32, _, _, _, _, none⟩) (v := ?_) rfl (by kernel_rfl) (by kernel_rfl) (by kernel_rfl) (fun _ _ _ h => h) (Or.inl ⟨by rfl, ?_⟩) (by assumption) ?_
      rotate_left
      · intro w hSw; go_simp; try with_reducible rfl
      try simp only [Act.put, List.setIfInBounds_toArray, List.set_cons_zero, List.set_cons_succ]
      refine wpAnyH_take (i := 2) (oi := ⟨some 33, _, _, _, _, none⟩) (v := ?_) rfl (by kernel_rfl) (by kernel_rfl) (by kernel_rfl) (fun _ _ _ h => h) (Or.inl ⟨by rfl, ?_⟩) (by assumption) ?_
      rotate_left
      · intro w hSw; go_simp; try with_reducible rfl
      try simp only [Act.put, List.setIfInBounds_toArray, List.set_cons_zero, List.set_cons_succ]
      refine wpAnyH_take (i := 3) (oi := ⟨some 34, _, _, _, _, none⟩) (v := ?_) rfl (by kernel_rfl) (by kernel_rfl) (by kernel_rfl) (fun _ _ _ h => h) (Or.inl ⟨by rfl, ?_⟩) (by assumption) ?_
      rotate_left
      · intro w hSw; go_simp; try with_reducible rfl
      try simp only [Act.put, List.setIfInBounds_toArray, List.set_cons_zero, List.set_cons_succ]
      refine wpAnyH_take (i := 4) (oi := ⟨some 35, _, _, _, _, none⟩) (v := ?_) rfl (by kernel_rfl) (by kernel_rfl) (by kernel_rfl) (fun _ _ _ h => h) (Or.inl ⟨by rfl, ?_⟩) (by assumption) ?_
      rotate_left
      · intro w hSw; go_simp; try with_reducible rfl
      try simp only [Act.put, List.setIfInBounds_toArray, List.set_cons_zero, List.set_cons_succ]
      refine wpAnyH_take (i := 5) (oi := ⟨some 36, _, _, _, _, none⟩) (v := ?_) rfl (by kernel_rfl) (by kernel_rfl) (by kernel_rfl) (fun _ _ _ h => h) (Or.inl ⟨by rfl, ?_⟩) (by assumption) ?_
      rotate_left
      · intro w hSw; go_simp; try with_reducible rfl
      try simp only [Act.put, List.setIfInBounds_toArray, List.set_cons_zero, List.set_cons_succ]
      refine wpAnyH_take (i := 6) (oi := ⟨some 37, _, _, _, _, none⟩) (v := _) rfl (by kernel_rfl) (by kernel_rfl) (by kernel_rfl) (fun _ _ _ h => h) (y_bld (by rfl) 93 [(0, .tmp 33), (1, .tmp 36)] (by rfl) [(0, .pointer (some ⟨g, 2, none⟩)), (1, .pointer (some ⟨g, 4, none⟩))] (by rfl) B1) (by assumption) ?_
      try simp only [Act.put, List.setIfInBounds_toArray, List.set_cons_zero, List.set_cons_succ]
      refine wpAnyH_take (i := 7) (oi := ⟨some 38, _, _, _, _, none⟩) (v := ?_) rfl (by kernel_rfl) (by kernel_rfl) (by kernel_rfl) (fun _ _ _ h => h) (Or.inl ⟨by rfl, ?_⟩) (by assumption) ?_
      rotate_left
      · intro w hSw; go_simp; try with_reducible rfl
      try simp only [Act.put, List.setIfInBounds_toArray, List.set_cons_zero, List.set_cons_succ]
      refine wpAnyH_done (by kernel_rfl) ?_ _
      refine NoPanic.normal ?_
      have hr0 := hr.belowR hHeld.below
      have hb0 := hb.below hHeld.below
      have hC0 : Ch (pg p g) w _ := hC.trans (hHeld.weaken (fun _ _ e => e.elim))
      clear hHeld hr hb hC
      go_wp2
      go_loopw [38] (fun iv wr => ∃ i : Nat, iv = .int .i64 i ∧ Ch (pg p g) w wr ∧ ((i = 0 ∧ RdR wr p F X 4 ∧ Blk wr g 34 V2.l) ∨ (i = 1 ∧ Hid (rgt W.v.n W.v.m = true) ∧ RdR wr p F X (4 + (psz pv.length + pv.length)) ∧ Blk wr g 34 V3.l) ∨ (i = 2 ∧ Hid (rgt W.v.n W.v.m = true) ∧ Hid (rgt W.u.n W.u.m = true) ∧ RdR wr p F X (4 + (psz pv.length + pv.length) + (psz pu.length + pu.length)) ∧ Blk wr g 34 V4.l))) (fun i _ => 2 - (intOf i).toNat)
      case atStart => exact ⟨0, rfl, hC0, .inl ⟨rfl, hr0, hb0⟩⟩
      case round =>
        clear hr0 hb0 hC0
        obtain ⟨i, rfl, hC, ⟨rfl, hr, hb⟩ | ⟨rfl, hv, hr, hb⟩ | ⟨rfl, hv, hu, hr, hb⟩⟩ := hrel
        · cases hv : rgt W.v.n W.v.m with
          | true =>
            have Hn := hid (rdtxtV15_any p F X 4 g 2 34 V2.l W.v.l 0 pv _ _ hr hb (by rw [L2.out]; show 2 + 2 ≤ 68; omega) hgp hgF D2.out (by omega) (by omega) rfl (one_vw _) (Hvget.out hv))
            have Hv := hid hv
            clear hv
            go_wp2_with (refine wp_idx 93 (.tmp 37) (.tmp 38) rfl rfl (l := qs) rfl (k := 0) rfl Tryd.underlying93 (by omega) aggQ15 sizeQp15 Q0.out ?_)
            refine Hn.out.mono ?_
            rintro e w4 ⟨rfl, hr4, k4, hC4⟩
            have k4 : Blk w4 g 34 V3.l := by rw [← T3.out]; exact k4
            have hC := hC.trans hC4
            clear Hn hC4
            go_wp2
            go_roundw
            case rel => exact ⟨1, by go_num, hC, .inr (.inl ⟨rfl, hid trivial, hr4, k4⟩)⟩
            case measure => simp [intOf]
          | false =>
            have Hn := hid (rdtxtV15_any p F X 4 g 2 34 V2.l (Vw.l ⟨0, 0⟩) 1 pv _ _ hr hb (by rw [L2.out]; show 2 + 2 ≤ 68; omega) hgp hgF D2.out (by omega) (by omega) rfl (one_vw _) (Hvno.out hv))
            have Hbo : Hid (bothR W = false) := by show _ = _; unfold bothR; rw [hv]; rfl
            have Hr1 : Hid (er = 1) := by show _ = _; rw [Her.out, Hbo.out]; rfl
            clear hv
            go_wp2_with (refine wp_idx 93 (.tmp 37) (.tmp 38) rfl rfl (l := qs) rfl (k := 0) rfl Tryd.underlying93 (by omega) aggQ15 sizeQp15 Q0.out ?_)
            refine Hn.out.mono ?_
            rintro e w4 ⟨rfl, hr4, k4, hC4⟩
            have hC := hC.trans hC4
            clear Hn hC4
            go_wp2
            go_ret
            exact ⟨by rw [Hr1.out]; rfl, hC, fun h => by rw [Hbo.out] at h; cases h⟩
        · cases hu : rgt W.u.n W.u.m with
          | true =>
            have Hn := hid (rdtxtV15_any p F X (4 + (psz pv.length + pv.length)) g 4 34 V3.l W.u.l 0 pu _ _ hr hb (by rw [L3.out]; show 4 + 2 ≤ 68; omega) hgp hgF D3.out (by omega) (by omega) rfl (one_vw _) (Huget.out hu))
            have Hv := hv
            have Hu := hid hu
            clear hu
            go_wp2_with (refine wp_idx 93 (.tmp 37) (.tmp 38) rfl rfl (l := qs) rfl (k := 1) rfl Tryd.underlying93 (by omega) aggQ15 sizeQp15 Q1.out ?_)
            refine Hn.out.mono ?_
            rintro e w4 ⟨rfl, hr4, k4, hC4⟩
            have k4 : Blk w4 g 34 V4.l := by rw [← T4.out]; exact k4
            have hC := hC.trans hC4
            clear Hn hC4
            go_wp2
            go_roundw
            case rel => exact ⟨2, by go_num, hC, .inr (.inr ⟨rfl, Hv, hid trivial, hr4, k4⟩)⟩
            case measure => simp [intOf]
          | false =>
            have Hn := hid (rdtxtV15_any p F X (4 + (psz pv.length + pv.length)) g 4 34 V3.l (Vw.l ⟨0, 0⟩) 1 pu _ _ hr hb (by rw [L3.out]; show 4 + 2 ≤ 68; omega) hgp hgF D3.out (by omega) (by omega) rfl (one_vw _) (Huno.out hu))
            have Hbo : Hid (bothR W = false) := by show _ = _; unfold bothR; rw [hu, Bool.and_false]
            have Hr1 : Hid (er = 1) := by show _ = _; rw [Her.out, Hbo.out]; rfl
            clear hu
            go_wp2_with (refine wp_idx 93 (.tmp 37) (.tmp 38) rfl rfl (l := qs) rfl (k := 1) rfl Tryd.underlying93 (by omega) aggQ15 sizeQp15 Q1.out ?_)
            refine Hn.out.mono ?_
            rintro e w4 ⟨rfl, hr4, k4, hC4⟩
            have hC := hC.trans hC4
            clear Hn hC4
            go_wp2
            go_ret
            exact ⟨by rw [Hr1.out]; rfl, hC, fun h => by rw [Hbo.out] at h; cases h⟩
        · rw [show ((2 : Nat) : Int) = (2 : Int) from rfl]
          have Hr0 : Hid (er = 0) := by show _ = _; rw [Her.out]; unfold bothR; rw [hv.out, hu.out]; rfl
          have Hn := hid (rdtxtC15_any p F X _ g 6 34 V4.l (cvs (stF W.c)) 0 pc _ _ hr hb (by rw [L4.out, Lst.out]; omega) hgp hgF D4.out (by omega) (by omega) Lst.out (one_cvs _) Hcget.out)
          have T5 : Hid (V4.l.take 6 ++ cvs (stF W.c) ++ V4.l.drop (6 + (cvs (stF W.c)).length) = (V6 0).l) := by show _ = _; rw [Lst.out]; exact T5.out
          obtain ⟨cc, hcc⟩ : ∃ q, q = cvs (stF W.c) := ⟨_, rfl⟩
          rw [← hcc] at Hn T5
          clear hv hu hcc
          go_wp2_with (fail)
          refine Hn.out.mono ?_
          rintro e w4 ⟨rfl, hr4, k4, hC4⟩
          rw [T5.out] at k4
          have hC := hC.trans hC4
          clear Hn hC4 hr hb
          go_wp2
          go_loopw [56] (fun iv wr => ∃ i k : Nat, i ≤ 6 ∧ iv = .int .i64 i ∧ Ch (pg p g) w wr ∧ RdR wr p F X k ∧ Hid (X.drop k = rpsB (W.a.drop i)) ∧ Blk wr g 34 (V6 i).l) (fun i _ => 6 - (intOf i).toNat)
          case atStart => exact ⟨0, _, by omega, rfl, hC, hr4, D5, k4⟩
          case round =>
            clear hC hr4 k4
            obtain ⟨i, k, hi, rfl, hC, hr, Hk, hb⟩ := hrel
            by_cases hlt : i < 6
            · have hI : (i : Int) < 6 := by omega
              obtain ⟨r, hr'⟩ : ∃ r, W.a[i]? = some r := ⟨_, List.getElem?_eq_getElem (by rw [Hal.out]; omega)⟩
              have hkd : X.drop k = txB (rpB r) ++ rpsB (W.a.drop (i + 1)) := by rw [Hk.out]; exact rps_drop hr'
              have Hkn : Hid (X.drop (k + (psz (rpB r).length + (rpB r).length)) = rpsB (W.a.drop (i + 1))) := by
                show _ = _
                rw [← List.drop_drop, hkd, ← len_tx, List.drop_left]
              have lr := len_rpB r
              have T7 : Hid ((V6 i).l.take (38 + i * 5) ++ (rpM r).l ++ (V6 i).l.drop (38 + i * 5 + (rpM r).l.length) = (V6 (i + 1)).l) := hid (T6.out i r hlt hr')
              have hget := Hrget.out r (List.mem_of_getElem? hr')
              have Hn := hid (rdtxtR15_any p F X k g (38 + i * 5) 34 (V6 i).l (rpM r).l 0 (rpB r) _ _ hr hb (by rw [L6.out]; show 38 + i * 5 + 5 ≤ 68; omega) hgp hgF hkd (by omega) (by omega) rfl (one_rp _) hget)
              clear hget hr' hkd hr hb
              go_wp2_with (refine wp_ixp 32 (.tmp 63) (.tmp 61) rfl rfl rfl rfl Tryd.underlying32 hlt sizeR15 ?_)
              refine Hn.out.mono ?_
              rintro e w5 ⟨rfl, hr5, k5, hC5⟩
              rw [T7.out] at k5
              have hC := hC.trans hC5
              clear Hn hC5
              go_wp2
              go_roundw
              case rel => exact ⟨i + 1, _, by omega, by go_num, hC, hr5, Hkn, k5⟩
              case measure => simp [intOf]; omega
            · have hi' : i = 6 := by omega
              subst hi'
              have hI : ¬ (6 : Int) < 6 := by omega
              have hkl : k = X.length := by
                have h1 : (X.drop k).length = 0 := by rw [Hk.out, List.drop_eq_nil_of_le (by rw [Hal.out]; omega)]; rfl
                rw [List.length_drop] at h1
                have h2 : k ≤ X.length := by
                  obtain ⟨_, _, _, h3, _⟩ := id hr
                  exact h3
                omega
              rw [Tg.out] at hb
              have hr : RdR wr p F X X.length := by rw [← hkl]; exact hr
              clear hkl Hk
              go_wp2
              go_ret
              exact ⟨by rw [Hr0.out]; rfl, hC, fun _ => ⟨hr, hb⟩⟩
theorem bldW0 : ∀ W : World, (Instr.build 34 #[]).run Tryd.prog W = .ok (.agg zWo.l.toArray) W := fun _ => by kernel_rfl
theorem zwo_in : WoIn zWo := ⟨z64, z64, ⟨z64, by show 0 < 65536; omega⟩, ⟨z64, by show 0 < 65536; omega⟩, ⟨by show (List.replicate 16 zC).length = 16; simp, fun x hx => by rw [List.eq_of_mem_replicate hx]; exact z64⟩, ⟨by show (List.replicate 6 _).length = 6; simp, fun r hr => by rw [List.eq_of_mem_replicate hr]; exact ⟨z64⟩⟩⟩
theorem fit_both {W : Wo} (h : Fit W) : bothR W = true := by
  unfold bothR
  rw [h.2.2.1, h.2.2.2.1]
  rfl
set_option maxRecDepth 100000 in
set_option maxHeartbeats 8000000 in
theorem eget15_any (W : Wo) (v : Value) (F : Nat → Prop) (w : World) (hW : WoIn W) (hv : Rd w F v (bys (putW W.e))) :
    Calls Tryd.prog 10 #[v] w fun e w' => ∃ W' c, e = .returned (.tuple #[.agg W'.l.toArray, .int .i64 c]) ∧ WoIn W' ∧ (Fit W → W' = W ∧ c = 0) ∧ Below w.heap.size w w' := by
  have hXl := len_put15 hW
  have hrw := hid (fun p g G Y h1 h2 h3 h4 => rdworld15_any W p g G Y hW h1 h2 h3 h4)
  have HGi := hid (got_in hW)
  have HGf : Hid (Fit W → gotW W = W) := fun h => got_fit h
  have HGb : Hid (Fit W → bothR W = true) := fun h => fit_both h
  have HGl := hid (len_wo HGi.out)
  have HGo := hid (one_wo (gotW W))
  obtain ⟨X, hX⟩ : ∃ X, X = putW W.e := ⟨_, rfl⟩
  rw [← hX] at hv hXl hrw
  clear hX hW
  obtain ⟨A, cp, rfl⟩ := Rd.shape hv
  have b2 := Blk.new' w 34 zWo.l
  have hB : Below w.heap.size w (w.alloc (.cells zWo.l.toArray 34)) := (Below.refl _ _).alloc (Nat.le_refl _) _
  have hv0 := hv.below hB
  have Lz : Hid (zWo.l.length = 68) := hid len_zWo
  have Oz := hid (one_wo zWo)
  clear hv
  go_enter Tryd.func10, Tryd.ntmps10
  go_wp2_with (first | (refine wp_new 34 rfl rfl zeroWo ?_; refine wp_stop ?_))
  obtain ⟨w0, hw0⟩ : ∃ x, x = w.alloc (.cells zWo.l.toArray 34) := ⟨_, rfl⟩
  rw [← hw0] at b2 hB hv0 ⊢
  obtain ⟨g2, hg2⟩ : ∃ g, g = w.heap.size := ⟨_, rfl⟩
  have hgl : w.heap.size < w0.heap.size := b2.lt
  rw [← hg2] at b2 hgl ⊢
  have hg2w : w.heap.size ≤ g2 := by omega
  clear hw0 hg2
  refine wp_go ?_
  go_wp2_with (fail)
  refine (new_any _ X F _ hv0 (by omega)).mono ?_
  rintro e w1 ⟨p, rfl, hp, hr1, hB1⟩
  have b2 := b2.below hB1
  have hB := hB.trans (hB1.mono hB.size)
  have hpl : p < w1.heap.size := by obtain ⟨_, h', _⟩ := id hr1; exact lt_of_block h'
  obtain ⟨FF, hFF⟩ : ∃ FF, FF = fun b => w0.heap.size ≤ b ∧ b < p := ⟨_, rfl⟩
  rw [← hFF] at hr1
  have hF1 : ∀ b, FF b → g2 < b ∧ b < p := fun b hb => by rw [hFF] at hb; omega
  have h2p : g2 < p := by omega
  clear hFF hB1 hv0 hp hgl
  have b5 := Blk.new' w1 34 zWo.l
  have hB5 : Below w1.heap.size w1 (w1.alloc (.cells zWo.l.toArray 34)) := (Below.refl _ _).alloc (Nat.le_refl _) _
  go_wp2_with (first | (refine wp_new 34 rfl rfl zeroWo ?_; refine wp_stop ?_))
  obtain ⟨w3, hw3⟩ : ∃ x, x = w1.alloc (.cells zWo.l.toArray 34) := ⟨_, rfl⟩
  rw [← hw3] at b5 hB5 ⊢
  obtain ⟨g5, hg5⟩ : ∃ g, g = w1.heap.size := ⟨_, rfl⟩
  have hr3 := hr1.belowR hB5
  have b2 := b2.below hB5
  have hB := hB.trans (hB5.mono hB.size)
  rw [← hg5] at b5 hpl ⊢
  clear hw3 hg5 hB5 hr1
  refine wp_go ?_
  have hcall := hrw.out p g5 FF _ hr3 b5 (by omega) (fun b hb => by have := hF1 b hb; omega)
  cases hbo : bothR W with
  | true =>
    rw [hbo] at hcall
    have Hcall := hid (hcall.mono (R' := fun e w' => e = .returned (.int .i64 0) ∧ Ch (pg p g5) w3 w' ∧ RdR w' p FF X X.length ∧ Blk w' g5 34 (gotW W).l) (fun e w' h => ⟨h.1, h.2.1, (h.2.2 rfl).1, (h.2.2 rfl).2⟩))
    clear hcall hbo hrw hr3 b5
    go_wp2_with (fail)
    refine Hcall.out.mono ?_
    rintro e w4 ⟨rfl, hC4, hr4, b5⟩
    have b2 := b2.ch hC4 (by rintro (h | h) <;> omega)
    have hB := Ch.below_of hB hC4 (fun k hk => by rcases hk with hk | hk <;> omega) hB.size
    have hdn := done_any p FF X X.length _ hr4
    rw [if_neg (by omega)] at hdn
    have Hdn := hid hdn
    clear hdn Hcall hC4 hr4
    go_wp2_with (fail)
    refine Hdn.out.mono ?_
    rintro e w5 ⟨rfl, m, rfl⟩
    have b2 : Blk (w4.drewN m) g2 34 zWo.l := b2.keep rfl
    have b5 : Blk (w4.drewN m) g5 34 (gotW W).l := b5.keep rfl
    have hB := bel_drewN hB m
    obtain ⟨w5, hw5⟩ : ∃ x, x = w4.drewN m := ⟨_, rfl⟩
    rw [← hw5] at b2 b5 hB ⊢
    clear hw5
    obtain ⟨V, hV⟩ : ∃ V, V = gotW W := ⟨_, rfl⟩
    rw [← hV] at b5 HGi HGf HGl HGo
    clear hV
    go_wp2_with (first | refine wp_ld 34 (.tmp 5) rfl rfl rfl b5.whole Tryd.underlying34 rfl (by rw [HGl.out]; exact sizeW15) ?_ | (refine wp_st 34 (.tmp 2) (.tmp 19) rfl rfl rfl (f := 0) rfl (l := V.l) rfl b2 (by rw [HGl.out, Lz.out]; omega) (by rw [HGl.out]; exact sizeW15) HGo.out ?_; intro w6 k2 G6; refine wp_stop ?_))
    have k2 := blk_all k2 (by rw [HGl.out, Lz.out]; omega)
    have hB := hB.grown G6 hB.size (by intro k hk; injection hk with hk; omega)
    refine wp_go ?_
    go_wp2
    refine ret_cell1 rfl rfl rfl k2.whole Tryd.underlying34 rfl (by rw [HGl.out]; exact sizeW15) rfl ?_
    exact ⟨V, 0, rfl, HGi.out, fun h => ⟨HGf.out h, rfl⟩, hB⟩
  | false =>
    rw [hbo] at hcall
    have Hcall := hid (hcall.mono (R' := fun e w' => e = .returned (.int .i64 1) ∧ Ch (pg p g5) w3 w') (fun e w' h => ⟨h.1, h.2.1⟩))
    have Hbo := hid hbo
    clear hcall hbo hrw hr3 b5
    go_wp2_with (fail)
    refine Hcall.out.mono ?_
    rintro e w4 ⟨rfl, hC4⟩
    have b2 := b2.ch hC4 (by rintro (h | h) <;> omega)
    have hB := Ch.below_of hB hC4 (fun k hk => by rcases hk with hk | hk <;> omega) hB.size
    clear Hcall hC4
    go_wp2_with (first | refine wp_bld 34 [] rfl rfl [] rfl bldW0 ?_ | (refine wp_st 34 (.tmp 2) (.tmp 17) rfl rfl rfl (f := 0) rfl (l := zWo.l) rfl b2 (by rw [Lz.out]; omega) (by rw [Lz.out]; exact sizeW15) Oz.out ?_; intro w6 k2 G6; refine wp_stop ?_))
    have k2 := blk_all k2 (by rw [Lz.out]; omega)
    have hB := hB.grown G6 hB.size (by intro k hk; injection hk with hk; omega)
    refine wp_go ?_
    go_wp2
    refine ret_cell1 rfl rfl rfl k2.whole Tryd.underlying34 rfl (by rw [Lz.out]; exact sizeW15) rfl ?_
    exact ⟨zWo, 1, rfl, zwo_in, fun h => absurd (HGb.out h) (by rw [Hbo.out]; decide), hB⟩
end Go.Proofs.YtfjgfaccfjdklaaDoor
