/- Cr: several texts in one (NG NT Cr). -/
import Derived.Test.YthbbpfnfnnmdnaaDoorLW
import Derived.Test.YthbbpfnfnnmdnaaDoorNE
import Derived.Test.YthbbpfnfnnmdnaaDoorCp
import Derived.Test.YthbbpfnfnnmdnaaDoorBC
import Derived.Great.Walk
import Derived.Test.YthbbpfnfnnmdnaaDoorCA
/- NG: layer 18: contract of an instance's votesFor. -/
namespace Go.Proofs.YthbbpfnfnnmdnaaDoor
open Go.RowKit Go.V Go.Maps
theorem zU18 (w : World) : (zeroValue 22).run Tryd.prog w = .ok (.int .u16 0) w := by kernel_rfl
theorem zBy18 (w : World) : (zeroValue 35).run Tryd.prog w = .ok (.slice none 0 0) w := by kernel_rfl
theorem bldVw18 (M : Int) : ∀ W : World, (Instr.build 24 #[(1, .int .u16 M)]).run Tryd.prog W = .ok (.agg #[.int .i64 0, .int .u16 M]) W := fun _ => by kernel_rfl
theorem bldPl18 (a b c : Int) : ∀ W : World, (Instr.build 69 #[(0, .int .i64 a), (1, .int .i64 b), (2, .int .i64 c)]).run Tryd.prog W = .ok (.agg #[.int .i64 a, .int .i64 b, .int .i64 c]) W := fun _ => by kernel_rfl
/-- a word that is looked up -/
theorem look_w {w : World} {b : Nat} {B : List (KyG Tryd.prog 72 × Nat)} (h : MpS sM w nob b B) (s : KyG Tryd.prog 72) : (Instr.lookup 63 (.map (some b)) (sM.kv s) false).run Tryd.prog w = .ok (.int .u16 (((findS B s).getD 0 : Nat) : Int)) w := by
  rcases h.run_look 63 22 false Tryd.underlying63 (zU18 w) s with ⟨h1, h2⟩ | ⟨d, v, h1, h2, h3⟩
  · rw [h1]
    exact h2
  · have h2 : v = .int .u16 (d : Int) := h2
    subst h2
    rw [h1]
    exact h3
theorem NvIn.sm {ks : List (List UInt8)} {V : Vc} {slot : Int} {L : List Nv} (h : NvIn ks V slot L) {v : Nv} (hv : v ∈ L) : v.b.length ≤ 1000000 := by
  have ho := (tl_ok (h.v v hv)).1
  unfold opOf at ho
  split at ho
  · rename_i m hm
    unfold opR at hm
    split at hm
    · cases hm
    · split at hm
      · cases hm
      · omega
  · cases ho
set_option maxRecDepth 100000 in
set_option maxHeartbeats 8000000 in
theorem votes18_any (p b0 b1 b2 : Nat) (uk : Value) (F : Nat → Prop) (ks : List (List UInt8)) (V : Vc) (slot : Int) (L : List Nv) (k r : Int) (h : List UInt8) (w : World) (hm : IM w p b0 b1 b2 uk F ks V slot L) (hk : in64w k) (hr : in64w r) (hh : h.length = 32) :
    Calls Tryd.prog 23 #[.pointer (some ⟨p, 0, none⟩), .agg (csB k r h).toArray] w fun e w' => ∃ v', e = .returned v' ∧ Rd w' (fun b => w.heap.size ≤ b) v' (tx (forC L k r h)) ∧ Below w.heap.size w w' := by
  obtain ⟨B, hsm, hBR⟩ := hm.sm
  have hvin := hm.vin
  have Hl34 := hid (len_csB (k := k) (r := r) hh)
  have HFm := hid (for_mem hvin k r h)
  have HMv := hid (fun i hi => mem_vote hvin (k := k) (r := r) (d := h) (i := i) hi)
  have HXl := hid (fun v hv => hvin.sm (v := v) hv)
  have Hmm := hid (hBR.mem hk hr hh)
  have hS16 := hBR.lt hk hr hh
  have Hkv : Hid (.agg (csB k r h).toArray = sM.kv (kyB k r h)) := hid (kyB_v hk hr hh).symm
  have HkP : Hid (∀ j : Nat, j < 16 → .agg #[.int .i64 k, .int .i64 r, .int .i64 (j : Int)] = vM.kv (ky3 k r (j : Int))) := hid (fun j hj => (ky3_v hk hr (by unfold in64w; omega)).symm)
  have hS0 := hid (fun W (hM : MpS sM W nob b2 B) => look_w hM (kyB k r h))
  obtain ⟨S, hS⟩ : ∃ S, S = (findS B (kyB k r h)).getD 0 := ⟨_, rfl⟩
  rw [← hS] at Hmm hS16 hS0
  clear hS
  have hmem := hid (fun W => members_any 0 S W hS16)
  unfold vw at hmem
  rw [Hmm.out] at hmem
  have e0 : (csB k r h)[0]? = some (.int .i64 k) := rfl
  have e1 : (csB k r h)[1]? = some (.int .i64 r) := rfl
  have E0 := hid e0
  have E1 := hid e1
  obtain ⟨l, hl⟩ : ∃ l, l = memC L k r h := ⟨_, rfl⟩
  have hll : l.length ≤ 16 := by
    rw [hl]
    unfold memC
    have := List.length_filter_le (fun i => L.any (isV k r h i)) (List.range 16)
    rw [List.length_range] at this
    exact this
  rw [← hl] at HFm hmem HMv
  obtain ⟨T, hT⟩ : ∃ T, T = forC L k r h := ⟨_, rfl⟩
  rw [← hT] at HFm ⊢
  obtain ⟨lx, hlx⟩ : ∃ lx, lx = csB k r h := ⟨_, rfl⟩
  rw [← hlx] at Hl34 Hkv E0 E1 ⊢
  have hFvs : Hid (∀ i X, findS (entV L) (ky3 k r (i : Int)) = some X → X.length ≤ 1000000) := hid (fun i X hX => by
    obtain ⟨v, hv, _, e2⟩ := mem_ent (findS_mem hX)
    rw [show X = v.b from e2]
    exact HXl.out v hv)
  clear hlx hT hl e0 e1 Hmm hBR hvin HXl
  obtain ⟨W0, hW0⟩ : ∃ x, x = w.alloc (.cells lx.toArray 72) := ⟨_, rfl⟩
  have b3 : Blk W0 w.heap.size 72 lx := by rw [hW0]; exact Blk.new' w 72 lx
  have hB0 : Below w.heap.size w W0 := by rw [hW0]; exact (Below.refl _ _).alloc (Nat.le_refl _) _
  have hm := hm.below hB0
  have hsm := hsm.below hB0
  have hpl := hm.blk.lt
  obtain ⟨f, hf⟩ : ∃ f : Nat → Option (List UInt8), f = fun (i : Nat) => findS (entV L) (ky3 k r (i : Int)) := ⟨_, rfl⟩
  rw [← hf] at HFm
  have Hf := hid (fun i : Nat => congrFun hf i)
  clear hf
  go_enter Tryd.func23, Tryd.ntmps23
  go_upto_region 2 with (fail)
  first | rw [← hW0] | (simp only [List.toArray] at hW0 ⊢; rw [← hW0])
  clear hW0
  obtain ⟨g3, hg3⟩ : ∃ g, g = w.heap.size := ⟨_, rfl⟩
  rw [← hg3] at b3 ⊢
  clear hg3
  have hHC : Hid (∀ W, Ch nob W0 W → W.cell? ⟨p, 7, none⟩ = some (.map (some b2))) := hid fun W hc => (hm.blk.ch hc (fun h => h)).cellAt 7 _ rfl
  have HC := hHC
  have HK : Hid (∀ W, Ch nob W0 W → W.rangeAt g3 0 lx) := hid fun W hc => b3.chAt (fun h => h) hc
  have HS : Hid (∀ W, Ch nob W0 W → (Instr.lookup 63 (.map (some b2)) (sM.kv (kyB k r h)) false).run Tryd.prog W = .ok (.int .u16 (S : Int)) W) := hid fun W hc => hS0.out W (hsm.keep (hc.block b2 hsm.lt (fun h => h)) (fun x _ hx => hx.elim))
  clear hHC
  refine wp_region_noPanic ?_
  refine wp_region_held_drew (S := Ch nob W0) (by kernel_rfl) ((Ch.refl _ _).drew) (fun hHeld => ?_)
  refine tkP 0 rfl ?_
  refine tkP 1 rfl ?_
  refine tkP 2 rfl ?_
  refine tkF 3 rfl HC.out ?_
  refine tkY 4 rfl (yieldsIf_load_mid (by rfl) 72 (.tmp 3) (by rfl) _ (0) (by rfl) _ _ (fun _ hs => HK.out _ hs) Tryd.underlying72 rfl (by rw [Hl34.out]; exact sizeBl18)) ?_
  refine tkY 5 rfl (y_look (T := sM) 63 (.tmp 11) (.tmp 12) (by rfl) (by rfl) (by rfl) (by rfl) Hkv.out HS.out) ?_
  refine tkY 6 rfl (y_bld (by rfl) 24 [(1, .tmp 13)] (by rfl) [(1, .int .u16 (S : Int))] (by rfl) (bldVw18 _)) ?_
  refine tkP 9 rfl ?_
  refine rdH 7 rfl (fun K hK => ?_)
  go_simp
  refine (hmem.out _).mono ?_
  rintro e' w4 ⟨v4, rfl, ho4, hB4⟩
  obtain ⟨A4, c4, rfl⟩ := own_shape ho4
  have hC4 := hHeld.belowR hB4
  refine hK.out _ _ (hC4) (fun hHeld => ?_)
  clear hK K
  try simp only [nP]
  refine tkP 8 rfl ?_
  refine wpAnyH_done (by kernel_rfl) ?_ _
  refine NoPanic.normal ?_
  have hm4 := hm.below hC4.below
  have b3 := b3.below hC4.below
  have hB4' := hB0.trans (hC4.below.mono hB0.size)
  have hsz4 : w.heap.size ≤ w4.heap.size := hB4'.size
  have hg34 : g3 < w4.heap.size := b3.lt
  have hOT := OT.nil w4 35 w4.heap.size nob
  clear HC HK HS hHeld hB4 hm hsm hB0 hC4 hS0 Hkv
  go_wp2
  go_loopw [5, 17] (fun ov iv wr => ∃ (i : Nat) (us' : List Value), i ≤ l.length ∧ iv = .int .i64 i ∧ OT wr 35 w4.heap.size nob ov ((l.take i).filterMap f) us' ∧ Below w4.heap.size w4 wr) (fun _ i _ => l.length - (intOf i).toNat)
  case atStart => exact ⟨0, [], by omega, rfl, hOT, Below.refl _ _⟩
  case round =>
    clear hOT
    obtain ⟨i, us', hi, rfl, hOT, hBr⟩ := hrel
    have hszr := hBr.size
    by_cases hlt : i < l.length
    · have hI : (i : Int) < (l.length : Int) := by omega
      obtain ⟨j, hj⟩ : ∃ j, l[i]? = some j := ⟨_, List.getElem?_eq_getElem hlt⟩
      obtain ⟨g23, c23, hv23, hg1, hg2, hc23⟩ := own_cellAt ho4 i _ (ivs_at l i j hj)
      injection hv23 with hA4 _ hc4
      subst hA4
      obtain ⟨X, hfX, hj16⟩ := HMv.out j (List.mem_of_getElem? hj)
      have hXl : X.length ≤ 1000000000 := Nat.le_trans (hFvs.out j X hfX) (by omega)
      have Hnx := hid (fm_next18 (f := f) hj (by rw [Hf.out]; exact hfX))
      have hfl := fm_len18 (f := f) (L := l) (i := i)
      have HkP := hid (HkP.out j hj16)
      obtain ⟨D, hD⟩ : ∃ D, D = (l.take i).filterMap f := ⟨_, rfl⟩
      rw [← hD] at hOT Hnx hfl
      have c23' := (hBr.cell hg2).trans hc23
      have hmr := hm4.below hBr
      have b3r := b3.below hBr
      clear hj hD hc4 hg1 hc23
      go_upto_region 5 with (fail)
      obtain ⟨wq, hwq⟩ : ∃ wq, wq = wr := ⟨_, rfl⟩
      rw [← hwq] at hOT hBr hszr hmr b3r c23' ⊢
      clear hwq
      have hnp : ∀ y, y < w4.heap.size → ¬ u5.ownBlock = some y := fun y hy e => by have := (hOT.own.lt y e).1; omega
      have HC : Hid (∀ W, Ch (fun x => u5.ownBlock = some x) wq W → W.cell? ⟨p, 6, none⟩ = some (.map (some b1))) := hid fun W hc => (hmr.blk.ch hc (hnp p hm4.blk.lt)).cellAt 6 _ rfl
      have HK0 : Hid (∀ W, Ch (fun x => u5.ownBlock = some x) wq W → W.cell? ⟨g3, 0, none⟩ = some (.int .i64 k)) := hid fun W hc => (b3r.ch hc (hnp g3 hg34)).cellAt 0 _ E0.out
      have HK1 : Hid (∀ W, Ch (fun x => u5.ownBlock = some x) wq W → W.cell? ⟨g3, 1, none⟩ = some (.int .i64 r)) := hid fun W hc => (b3r.ch hc (hnp g3 hg34)).cellAt 1 _ E1.out
      have HM : Hid (∀ W, Ch (fun x => u5.ownBlock = some x) wq W → MpS vM W F b1 (entV L)) := hid fun W hc => hmr.vm.keep (hc.block b1 hmr.vm.lt (hnp b1 hm4.vm.lt)) (fun y hy hF => ⟨hF, hc.block y hy (hnp y (hm4.f y hF).2.2.2)⟩)
      refine wp_region_noPanic ?_
      refine wp_region_held_drew (S := Ch (fun x => u5.ownBlock = some x) wq) (by kernel_rfl) ((Ch.refl _ _).drew) (fun hHeld => ?_)
      refine tkP 0 rfl ?_
      refine tkP 1 rfl ?_
      refine tkP 2 rfl ?_
      refine tkP 3 rfl ?_
      refine tkF 4 rfl HC.out ?_
      refine tkP 5 rfl ?_
      refine tkF 6 rfl HK0.out ?_
      refine tkP 7 rfl ?_
      refine tkF 8 rfl HK1.out ?_
      refine tkP 9 rfl ?_
      refine tkY 10 rfl (y_bld (by rfl) 69 [(0, .tmp 27), (1, .tmp 29), (2, .tmp 30)] (by rfl) [(0, .int .i64 k), (1, .int .i64 r), (2, .int .i64 (j : Int))] (by rfl) (bldPl18 _ _ _)) ?_
      refine rdH 11 rfl (fun K hK => ?_)
      refine step_lookS 62 35 (.tmp 25) (.tmp 31) false (by rfl) (by rfl) Tryd.underlying62 (zBy18 _) (by rfl) (HM.out _ hHeld) (s := ky3 k r (j : Int)) HkP.out ?_ ?_
      · intro h; rw [hfX] at h; cases h
      intro d2 v hd2 hv2
      rw [hfX] at hd2
      injection hd2 with hd2
      subst hd2
      rw [if_neg (by simp)]
      obtain ⟨A6, c6, rfl⟩ := Rd.shape (bs := X) hv2
      refine hK.out _ _ (hHeld) (fun hHeld => ?_)
      clear hK K
      try simp only [nP]
      refine rdH 12 rfl (fun K hK => ?_)
      go_simp
      refine (bclone_any X _ _ _ hv2 hXl).mono ?_
      rintro e' w7 ⟨v7, rfl, ho7, hB7⟩
      obtain ⟨A8, c8, rfl⟩ := own_shape ho7
      have hC7 := hHeld.belowR hB7
      have hOd := hOT.ch (G := nob) (Ch.refl nob wq).drew (fun _ e => e.elim)
      have hv7 := OT.fresh18 hOd ho7 hszr
      have hO7 := hOd.ch (G := nob) (Ch.of_below hB7) (fun _ e => e.elim)
      have hs7 := hB7.size
      refine hK.out _ _ (hC7) (fun hHeld => ?_)
      clear hK K
      try simp only [nP]
      refine rdH 13 rfl (fun K hK => ?_)
      refine step_bs18 slBB8 (.tmp 33) (by rfl) (by rfl) (u := .slice A8 X.length c8) (by rfl) rfl ?_
      rintro gb w9 hgb hb9 hB9
      have hO9 := hO7.ch (G := nob) (Ch.of_below hB9) (fun _ e => e.elim)
      have hv9 := hv7.below hB9
      have hC9 := hC7.belowR hB9
      have hs9 := hB9.size
      refine hK.out _ _ (hC9) (fun hHeld => ?_)
      clear hK K
      try simp only [nP]
      refine rdH 14 rfl (fun K hK => ?_)
      refine step_app18 (.tmp 21) (.tmp 34) slBB8 (by rfl) (by rfl) (by rfl) hO9.own (by rfl) (m := 1) (news := [.slice A8 X.length c8]) ⟨rfl, fun j u hj => ⟨gb, 0, rfl, by cases j with | zero => injection hj with hj; subst hj; exact hb9.cellAt 0 _ rfl | succ j => simp at hj⟩⟩ (by simp [Value.oneCell']) (by simp only [maxLen]; omega) (by omega) (Nat.le_trans hszr (Nat.le_trans hs7 hs9)) ?_
      rintro v10 w10 ho10 hG10 hd10
      refine hK.out _ _ (hC9.grow hG10 (fun k hk => .inl hk)) (fun hHeld => ?_)
      clear hK K
      try simp only [nP]
      refine tkP 15 rfl ?_
      refine wpAnyH_done (by kernel_rfl) ?_ _
      refine NoPanic.normal ?_
      have hO10 := OT.push hO9 hv9 (fun b h => h.elim) ho10 hG10 hd10
      have hB10 : Below w4.heap.size w4 w10 := Ch.below_of hBr hHeld (fun k hk => (hOT.own.lt k hk).1) hszr
      have HO := hid hO10
      have HB := hid hB10
      clear hO10 hB10 HC HK0 HK1 HM hHeld hO9 hv9 ho10 hG10 hd10 hO7 hv7 hOd hC7 hC9 hb9 hB9 hB7 ho7 hv2 hOT hmr b3r c23' hBr hnp
      go_wp2
      go_roundw
      case rel => exact ⟨i + 1, _, by omega, by go_num, by rw [Hnx.out]; exact HO.out, HB.out⟩
      case measure => simp [intOf]; omega
    · have hI : ¬ (i : Int) < (l.length : Int) := by omega
      have htk : l.take i = l := List.take_of_length_le (by omega)
      rw [htk, ← HFm.out] at hOT
      have hfin := hOT.rd
      obtain ⟨Ao, co, rfl⟩ := own_shape hOT.own
      have hBe := hB4'.trans (hBr.mono hsz4)
      clear htk
      go_wp2
      go_ret
      exact ⟨_, rfl, hfin.weak (fun b _ h => Nat.le_trans hsz4 h), hBe⟩
end Go.Proofs.YthbbpfnfnnmdnaaDoor
/- NT: a message that was opened: its cells; '&T{..}' in a region that draws its order. -/
namespace Go.V
open Go.RowKit
section
variable {P : Program} {w : World} {ops : Array Oper} {o : Oper} {a : Act} {K : Act → World → Prop} {Q : Exit → Act → World → Prop} {E : Prop}
/-- '&T{..}', in a region that draws its order -/
theorem step_box18 (t : TypeId) (x : Operand) (hgd : o.guard = none) (ho : o.op = .box t x) {l : List Value} (hx : a.eval x = .agg l.toArray)
    (h : ∀ g w', w.heap.size ≤ g → g < w'.heap.size → Blk w' g t l → Below w.heap.size w w' → K (a.put o.dst (.pointer (some ⟨g, 0, none⟩))) w') : if Region.wanted o (yielded ops a.tmps) = true then Oper.wp P o a w K Q else E := by
  have hw : Region.wanted o (yielded ops a.tmps) = true := by simp [Region.wanted, hgd]
  rw [if_pos hw]
  unfold Oper.wp execOp
  have hr : (Instr.box t (.agg l.toArray)).run P w = .ok (.pointer (some ⟨w.heap.size, 0, none⟩)) (w.alloc (.cells l.toArray t)) := by
    simp [Instr.box, newVar, newRow, Value.cells]
  simp only [ho, hx, Sem.run_bind, Sem.run_pure, hr, Result.andThen_ok]
  exact h _ _ (Nat.le_refl _) (by simp) (Blk.new' w t l) ((Below.refl _ _).alloc (Nat.le_refl _) _)
end
end Go.V
namespace Go.Proofs.YthbbpfnfnnmdnaaDoor
open Go.RowKit Go.V
theorem opofN_pos {ks : List (List UInt8)} {V : Vc} {X : List UInt8} {e : Nat} (h : opOf ks V X = .error e) : e ≠ 0 := by
  unfold opOf at h
  split at h
  · split at h
    · cases h
    · injection h with h; omega
  · rename_i e' he
    injection h with h
    subst h
    exact op_pos he
theorem opofN_ok {ks : List (List UInt8)} {V : Vc} {X : List UInt8} {m : Mg} (h : opOf ks V X = .ok m) : m.h.length = 32 ∧ 0 ≤ m.f ∧ m.f ≤ 15 ∧ 0 ≤ m.r ∧ m.r ≤ 40 := by
  unfold opOf at h
  split at h
  · rename_i m' hm
    split at h
    · injection h with h
      subst h
      have := op_num hm
      unfold numB at this
      have := of_decide_eq_true this
      exact ⟨op_hash hm, by omega, by omega, by omega, by omega⟩
    · cases h
  · cases h
/-- a message's cells -/
structure MF (l : List Value) (x : Mg) : Prop where
  c0 : l[0]? = some (.int .i64 x.k)
  c1 : l[1]? = some (.int .i64 x.f)
  c2 : l[2]? = some (.int .i64 x.v)
  c3 : l[3]? = some (.int .i64 x.r)
  c4 : l[4]? = some (.int .i64 x.s)
  ch : ∀ (j : Nat) (v : Value), (bvs x.h)[j]? = some v → l[5 + j]? = some v
  h : x.h.length = 32
theorem mf_of {x : Mg} (hh : x.h.length = 32) (ub up : Value) : MF (x.l ub up) x := ⟨rfl, rfl, rfl, rfl, rfl, mg_hash hh ub up, hh⟩
/-- what OpenOf tells: a message, whatever the error -/
def Op18 (w : World) (r : Except Nat Mg) (e : Ending) (w' : World) : Prop := ∃ (x : Mg) (A B : Option Addr) (a b c d k : Nat), e = .returned (.tuple #[.agg (x.l (.slice A a b) (.slice B c d)).toArray, .int .i64 (k : Int)]) ∧ x.h.length = 32 ∧ (k = 0 → r = .ok x) ∧ (k ≠ 0 → r = .error k) ∧ Below w.heap.size w w'
def zMg18 : Mg := ⟨0, 0, 0, 0, 0, List.replicate 32 0, [], []⟩
theorem zM_eq18 : zM = zMg18.l (.slice none 0 0) (.slice none 0 0) := by simp [zM, zMg18, Mg.l, zs8, bvs, byteV]
theorem op18 {ks : List (List UInt8)} {V : Vc} {X : List UInt8} {w w' : World} {e : Ending} (h : ReadP w (opOf ks V X) e w') : Op18 w (opOf ks V X) e w' := by
  cases hr : opOf ks V X with
  | error k =>
    rw [hr] at h
    obtain ⟨rfl, hB⟩ := h
    have hk := opofN_pos hr
    exact ⟨zMg18, none, none, 0, 0, 0, 0, k, by rw [zM_eq18], by simp [zMg18], fun h => absurd h hk, fun _ => rfl, hB⟩
  | ok m =>
    rw [hr] at h
    obtain ⟨⟨ub, up, rfl, hub, hup⟩, hB⟩ := h
    obtain ⟨Ab, cb, rfl⟩ := hub.shape
    obtain ⟨Ap, cp, rfl, _, _⟩ := hup.slShape
    exact ⟨m, Ab, Ap, m.b.length, cb, m.ps.length, cp, 0, rfl, (opofN_ok hr).1, fun _ => rfl, fun h => absurd rfl h, hB⟩
end Go.Proofs.YthbbpfnfnnmdnaaDoor
/- Cr: layer 17, the document's side: what ref08.Get and ref09.Open answer (a message and an error, in one struct). -/
namespace Go.Proofs.YthbbpfnfnnmdnaaDoor
open Go.RowKit Go.V
/-- its cells -/
def gM (l : List Value) (e : Nat) : List Value := l ++ [.int .i64 (e : Int)]
theorem len_gM {l : List Value} (h : l.length = 39) (e : Nat) : (gM l e).length = 40 := by unfold gM; rw [List.length_append, h]; rfl
theorem sizeG8 : (Tryd.prog.info? 96).map (·.size) = some 40 := by kernel_rfl
theorem zeroG8 : (Tryd.prog.info? 96).map (·.zero) = some (some (.agg (gM zM 0).toArray)) := by kernel_rfl
theorem bldG8 (e : Nat) : ∀ W : World, (Instr.build 96 [(1, .int .i64 (e : Int))].toArray).run Tryd.prog W = .ok (.agg (gM zM e).toArray) W := fun _ => by kernel_rfl
theorem one_gM {l : List Value} (h : ∀ v ∈ l, v.oneCell' = true) (e : Nat) : ∀ v ∈ gM l e, v.oneCell' = true := by
  intro v hv
  unfold gM at hv
  rw [List.mem_append, List.mem_singleton] at hv
  rcases hv with hv | rfl
  · exact h v hv
  · rfl
theorem gM_err {l : List Value} (h : l.length = 39) (e : Nat) : (gM l e)[39]? = some (.int .i64 (e : Int)) := by
  unfold gM
  rw [List.getElem?_append_right (by omega), h]
  rfl
theorem gM_get {l : List Value} (h : l.length = 39) (e k : Nat) (hk : k < 39) : (gM l e)[k]? = l[k]? := by
  unfold gM
  rw [List.getElem?_append_left (by omega)]
/-- what such a call leaves -/
def RdP (w : World) (r : Except Nat Mg) (e : Ending) (w' : World) : Prop := match r with
  | .ok m => (∃ ub up, e = .returned (.agg (gM (m.l ub up) 0).toArray) ∧ Rd w' (fun b => w.heap.size ≤ b) ub (bys m.b) ∧ Rd w' (fun b => w.heap.size ≤ b) up (tx m.ps)) ∧ Below w.heap.size w w'
  | .error k => e = .returned (.agg (gM zM k).toArray) ∧ Below w.heap.size w w'
end Go.Proofs.YthbbpfnfnnmdnaaDoor
