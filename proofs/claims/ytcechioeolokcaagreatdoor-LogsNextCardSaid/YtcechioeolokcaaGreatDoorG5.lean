/- G5: layer 11: the law LogsNext. -/
import Derived.Test.YtcechioeolokcaaGreatDoorG4
namespace Go.V
open Go.RowKit
/-- '[]T{}' -/
theorem wp_bs0L {P : Program} {w : World} {ops : Array Oper} {rest : List Oper} {o : Oper} {a : Act} {Q : Exit → Act → World → Prop} (t e : TypeId) (hgd : o.guard = none) (ho : o.op = .buildSlice t 0 #[]) (hr : ∀ W : World, (Instr.buildSlice t 0 #[]).run P W = .ok (.slice (some ⟨W.heap.size, 0, none⟩) 0 0) (W.alloc (.cells #[] e)))
    (h : ∀ v w', w'.ownsRow w.heap.size e 1 v 0 [] → Below w.heap.size w w' → wpList P ops Q rest (a.put o.dst v) w') : wpList P ops Q (o :: rest) a w := by
  refine wpList_plain hgd fun K hK => ?_
  unfold Oper.wp execOp
  have e0 : (Array.map (fun (x : Nat × Operand) => (x.1, a.eval x.2)) #[]) = #[] := by simp
  simp only [ho, e0, Sem.run_bind, Sem.run_pure, hr, Result.andThen_ok]
  exact hK _ _ (h _ _ (World.ownsRow_made w #[] 0 (Nat.le_refl _) (by simp [maxLen]) rfl) ((Below.refl _ _).alloc (Nat.le_refl _) _))
theorem src_own {w : World} {base : Nat} {e : TypeId} {A : Option Addr} {n c : Nat} {us : List Value} (ho : w.ownsRow base e 1 (.slice A n c) n us) (hl : us.length = n) : Src w A us.length us := by
  refine ⟨rfl, fun j u hu => ?_⟩
  rcases ho.2 with ⟨_, h0⟩ | ⟨g, cap, cur, hv, hg, hh, _⟩
  · have hj := (List.getElem?_eq_some_iff.1 hu).1
    omega
  · injection hv with hA _ _
    subst hA
    have := ho.cells (g := g) rfl j u hu
    rw [add_mk] at this
    exact ⟨g, 0, rfl, this⟩
theorem src_cut {w : World} {A : Option Addr} {n c k : Nat} {us : List Value} (h : Src w A n us) (hk : k ≤ n) (hnc : n ≤ c) : ∃ A' c', sliced A k n c 1 = .slice A' (us.drop k).length c' ∧ Src w A' (us.drop k).length (us.drop k) := by
  obtain ⟨hl, ha⟩ := h
  unfold sliced
  refine ⟨_, _, by rw [List.length_drop, hl], rfl, fun j u hu => ?_⟩
  rw [List.getElem?_drop] at hu
  obtain ⟨g, off, rfl, hc⟩ := ha (k + j) u hu
  by_cases hck : c = k
  · have := (List.getElem?_eq_some_iff.1 hu).1
    omega
  · rw [if_neg hck]
    exact ⟨g, off + k * 1, by simp [Addr.add], by rw [Nat.mul_one, Nat.add_assoc]; exact hc⟩
theorem TxX.drop {w : World} {F : Nat → Prop} {l : List (List UInt8)} {us : List Value} (h : TxX w F l us) (k : Nat) : TxX w F (l.drop k) (us.drop k) :=
  ⟨by rw [List.length_drop, List.length_drop, h.len], fun i v t hv ht => by
    rw [List.getElem?_drop] at hv ht
    exact h.at_ (k + i) v t hv ht⟩
theorem tx_ownG {w : World} {base : Nat} {e : TypeId} {F G : Nat → Prop} {v : Value} {l : List (List UInt8)} {us : List Value} (ho : w.ownsRow base e 1 v l.length us) (hx : TxX w F l us) (hF : ∀ b, F b → G b) (hb : ∀ b, v.ownBlock = some b → G b) : Rd w G v (tx l) := by
  unfold tx Rd
  have hx := hx.keep (F' := G) (fun b _ h => ⟨hF b h, rfl⟩)
  rcases ho.2 with ⟨rfl, h0⟩ | ⟨g, cap, cur, rfl, hg, hh, h1, h2, h3, h4⟩
  · have : l = [] := List.eq_nil_of_length_eq_zero h0
    subst this
    exact ⟨none, 0, rfl, Nat.le_refl _, by simp [maxLen], fun _ => rfl, fun h => absurd rfl h⟩
  · refine ⟨_, cap, rfl, h1, h2, fun h => by rw [List.eq_nil_of_length_eq_zero h]; rfl, fun _ => ⟨g, 0, rfl, hb g rfl, RdC.ofAt (fun i d hd => ?_)⟩⟩
    rw [List.getElem?_map] at hd
    cases ht : l[i]? with
    | none => rw [ht] at hd; cases hd
    | some t =>
      rw [ht] at hd
      injection hd with hd
      subst hd
      have hil : i < us.length := by rw [hx.len]; exact (List.getElem?_eq_some_iff.1 ht).1
      have hu : us[i]? = some (us[i]'hil) := List.getElem?_eq_getElem hil
      refine ⟨_, ?_, hx.at_ i _ t hu ht⟩
      have := ho.cells (g := g) rfl i _ hu
      rw [add_mk] at this
      exact this
theorem txx_one {w : World} {F : Nat → Prop} {l : List (List UInt8)} {us : List Value} (h : TxX w F l us) : ∀ u ∈ us, u.oneCell' = true := fun u hu => by
  obtain ⟨i, hi, rfl⟩ := List.mem_iff_getElem.1 hu
  have hil : i < l.length := by rw [← h.len]; exact hi
  obtain ⟨A, c, e⟩ := (h.at_ i _ (l[i]'hil) (List.getElem?_eq_getElem hi) (List.getElem?_eq_getElem hil)).shape
  rw [e]; rfl
/-- how many of n texts the last x are, and what is ahead of them -/
def dropN (n : Nat) (x : Int) : Nat := n - (min (max x 0) (n : Int)).toNat
theorem dropN_le (n : Nat) (x : Int) : dropN n x ≤ n := by unfold dropN; omega
theorem dropN_rest (n : Nat) (x : Int) (h : x ≤ 8) : n - dropN n x ≤ 8 := by unfold dropN; omega
end Go.V
namespace Go.Proofs.YtcechioeolokcaaGreatDoor
open Go.RowKit Go.V
set_option maxRecDepth 100000 in
set_option maxHeartbeats 2000000 in
theorem last11_src (us : List Value) (n c : Nat) (A : Option Addr) (x : Int) (w : World) (hs : Src w A n us) (hnc : n ≤ c) (hn : n ≤ 1000000) :
    Calls Tryz.prog 11 #[.slice A n c, .int .i64 x] w fun e w' => ∃ A' c', e = .returned (.slice A' (us.drop (dropN n x)).length c') ∧ Src w' A' (us.drop (dropN n x)).length (us.drop (dropN n x)) ∧ Below w.heap.size w w' := by
  obtain ⟨k, hk, hkl⟩ : ∃ k : Nat, min (max x 0) (n : Int) = (k : Int) ∧ k ≤ n := ⟨(min (max x 0) (n : Int)).toNat, by omega, by omega⟩
  obtain ⟨m, hm⟩ : ∃ m : Nat, (n : Int) - (k : Int) = (m : Int) := ⟨n - k, by omega⟩
  have hwr : IntKind.i64.wrap ((n : Int) - (k : Int)) = (m : Int) := by rw [hm]; exact IntWalk.i64_in _ (by omega)
  have hdm : dropN n x = m := by unfold dropN; omega
  rw [hdm]
  have hml : m ≤ n := by omega
  obtain ⟨A', c', hsl, hs'⟩ := src_cut hs hml hnc
  have hcut : ∀ W, (Instr.slice 28 (.slice A n c) (some (.int .i64 (m : Int))) none none).run Tryz.prog W = .ok (.slice A' (us.drop m).length c') W := fun W => by
    rw [run_cut_l slBBG A n c (m : Int) (by omega) (by omega), Int.toNat_natCast, hsl]
  obtain ⟨L, hL⟩ : ∃ L, L = us.drop m := ⟨_, rfl⟩
  rw [← hL] at hs' hcut ⊢
  clear hL hdm hm hsl
  go_enter Tryz.func11, Tryz.ntmps11
  go_wp2
  go_ret
  exact ⟨A', c', rfl, hs', Below.refl _ _⟩
set_option maxRecDepth 100000 in
set_option maxHeartbeats 8000000 in
theorem logsNext_law (l : List Lc) (vl : Value) (F : Nat → Prop) (w : World) (hK : KX w) (hl : Rd w F vl (wds lcD l)) :
    Calls Tryz.prog 3 #[vl] w fun e w' => e = .returned (.bool true) ∧ Below w.heap.size w w' := by
  have hl := hl.weak (F' := fun b => b < w.heap.size) (fun b hb _ => hb)
  obtain ⟨A, c, rfl, hc1, hc2⟩ := wds_shape hl
  have hbs : ∀ W : World, (Instr.buildSlice 28 0 #[]).run Tryz.prog W = .ok (.slice (some ⟨W.heap.size, 0, none⟩) 0 0) (W.alloc (.cells #[] 33)) := fun W => by kernel_rfl
  have Hbs := hid hbs
  clear hbs
  go_enter Tryz.func3, Tryz.ntmps3
  go_wp2_with (fail)
  refine (wakes11_any _ hK).mono ?_
  rintro e w1 ⟨rfl, hB1⟩
  go_wp2_with (fail)
  refine (long_any11 l _ _ _ (hl.below hB1)).mono ?_
  rintro e w2 ⟨rfl, rfl⟩
  cases hlo : longL l with
  | true =>
    go_wp2
    go_ret
    exact ⟨rfl, hB1⟩
  | false =>
  obtain ⟨hl40, hla⟩ := longL_out hlo
  have Hla := hid hla
  clear hlo hla
  go_wp2_with (fail)
  refine (new10_any 262144 _).mono ?_
  rintro e w3 ⟨dv, M0, F0, rfl, hX, hB2, hMF⟩
  rw [show (⟨roomF 262144, [], [], -1, false⟩ : Dk) = d0L 262144 from by rfl] at hX
  obtain ⟨xd, rfl⟩ := hX.ptr
  have hs1 := hB1.size
  have hM0 : ∀ b, M0 b → w.heap.size ≤ b := fun b h => by have := hMF b (.inl h); omega
  have hB2' := hB1.trans (hB2.mono hs1)
  go_wp2_with (fail)
  refine (open11_new _ kLog M0 F0 262144 _ (hK.below hB2') hX (by decide) okP_log (fun e => absurd (hM0 _ e) (Nat.not_le_of_lt (KS.lt hK)))).mono ?_
  rintro e w4 ⟨lv, vr, M, F1, rfl, hvr, hL3, hi3⟩
  obtain ⟨hB3, hM3⟩ := hi3.bel hB2' hM0
  obtain ⟨xl, _, rfl, _⟩ := hL3.ptr
  obtain ⟨Ar, cr, rfl, _, _⟩ := hvr.slShape
  obtain ⟨D3, hD3⟩ : ∃ D, D = d0L 262144 := ⟨_, rfl⟩
  rw [← hD3] at hL3
  have hA3 := AllX.nil w4 w.heap.size 33 M F1
  clear hX hMF hM0 hi3 hvr hD3 hB2 hB2' hB1 hs1
  go_wp2
  go_loopw [7, 8, 28] (fun nv av iv wr => ∃ (i : Nat) (M F' : Nat → Prop) (D : Dk) (all : List (List UInt8)) (us : List Value) (next : Nat), i ≤ l.length ∧ iv = .int .i64 i ∧ nv = .int .u64 (next : Int) ∧ LG wr (.pointer (some ⟨xl, 0, none⟩)) (.pointer (some ⟨xd, 0, none⟩)) kLog M F' D all next (9 * i) ∧ next ≤ 1 + 9 * i ∧ all.length ≤ i ∧ (∀ t ∈ all, t.length ≤ 700) ∧ AllX wr w.heap.size 33 av all us M F' ∧ (∀ b, M b → w.heap.size ≤ b) ∧ Below w.heap.size w wr) (fun _ _ i _ => l.length - (intOf i).toNat)
  case atStart => exact ⟨0, M, F1, D3, [], [], 1, Nat.zero_le _, rfl, rfl, hL3, by omega, Nat.le_refl _, (fun t h => by cases h), hA3, hM3, hB3⟩
  case round =>
    clear hL3 hA3 hM3 hB3
    obtain ⟨i, M, F', D, all, us, next, hi, rfl, rfl, hL, hnx, hal, h700, hA, hM, hB⟩ := hrel
    obtain ⟨ho1, ho2, hom⟩ := hA
    obtain ⟨Aa, ca, rfl⟩ := own_shape8 ho1
    have hA : AllX wr w.heap.size 33 (.slice Aa all.length ca) all us M F' := ⟨ho1, ho2, hom⟩
    clear ho1 ho2 hom
    by_cases hlt : i < l.length
    · obtain ⟨a, ha⟩ : ∃ a, l[i]? = some a := ⟨_, List.getElem?_eq_getElem hlt⟩
      have hIlt : (i : Int) < (l.length : Int) := by omega
      have hin1 : IntKind.i64.wrap ((i : Int) + 1) = (i : Int) + 1 := IntWalk.i64_in _ (by omega)
      have hlr := hl.below hB
      obtain ⟨g, off, cs, rfl, hg, hr, he⟩ := wd_el hlr ha
      obtain ⟨u, rfl, hu⟩ := lc_open he
      obtain ⟨Au, cu, rfl⟩ := hu.shape
      have hAl := Hla.out a (List.mem_of_getElem? ha)
      have hbd := hL.bd
      clear ha he
      go_wp2_with (first | refine wp_ixa 22 (.tmp 26) (.tmp 28) rfl rfl rfl rfl Tryz.underlying22 hlt sizeLc ?_ | refine wp_ld 37 (.tmp 30) rfl rfl rfl hr Tryz.underlying37 rfl sizeLc ?_ | refine wp_newst 37 10 (.tmp 31) rfl rfl rfl rfl rfl rfl zeroLc (l := a.l (.slice Au a.b.length cu)) rfl rfl sizeLc (one_lc a _ _ _) (by simp [Act.put]) ?_; intro w4 hx4 hB4 hs4; refine wp_stop ?_)
      have hL4 := hL.keep (fun b hb _ => hB4.block b hb) hB4.size
      have hA4 := hA.below hB4
      have hu4 := hu.below hB4
      have hBx := hB.trans (hB4.mono hB.size)
      obtain ⟨gx, hgx⟩ : ∃ g, g = wr.heap.size := ⟨_, rfl⟩
      have hgM : ¬ M gx := fun h => by have := hbd gx (.inl h); omega
      rw [← hgx] at hx4 ⊢
      have c0 := hx4.cellAt 0 _ rfl
      have c1 := hx4.cellAt 1 _ rfl
      have c2 := hx4.cellAt 2 _ rfl
      clear hgx hL hA hu hr hlr hB4 hs4 hB hbd
      refine wp_go ?_
      by_cases k0 : a.k = 0
      · have e0 : (a.k == 0) = true := by rw [k0]; rfl
        clear k0
        go_wp2_with (fail)
        refine (append11_any _ _ _ M F' _ D all next (9 * i) a.b _ _ (hK.below hBx) hL4 ⟨by omega, by omega⟩ hu4 (by omega) (fun b hb => Nat.lt_of_lt_of_le hb hBx.size)).mono ?_
        rintro e w5 ⟨E, M5, F5, D5, rfl, hi5, hE⟩
        obtain ⟨hB5, hM5⟩ := hi5.bel hBx hM
        have hA5 := hA4.ch hi5.1 hM hi5.2.1 hi5.2.2
        have hu5 := hu4.keep (F' := fun b => b < w.heap.size) (fun b hb hF => ⟨hF, hi5.1.block b hb (fun hm => by have h' : b < w.heap.size := hF; have := hM b hm; omega)⟩)
        have hx5 := hx4.keep (hi5.1.block gx hx4.lt hgM)
        have hs5 := hB5.size
        clear hL4 hA4 hi5 hu4 hx4 hM hBx c0 c1 c2
        rcases hE with ⟨rfl, hL5⟩ | ⟨rfl, hL5⟩
        · have hbd5 := hL5.bd
          have c2 := hx5.cellAt 2 _ rfl
          have hnw : IntKind.u64.wrap ((next : Int) + 1) = (next : Int) + 1 := IntWalk.u64_in _ (by omega)
          go_wp2_with (refine wp_push (.tmp 43) (.tmp 45) 46 slBBG rfl rfl rfl rfl rfl (u := .slice Au a.b.length cu) rfl rfl rfl (by simp) rfl hA5.own (by simp only [maxLen]; omega) (by omega) hs5 ?_; intro v6 w6 ho6 hG6 hd6; refine wp_stop ?_)
          have hA6 := hA5.push hu5 hbd5 ho6 hG6 hd6
          have hL6 := hL5.keep (fun b hb hmf => hG6.block b hb (fun e => hA5.m b hmf e.symm)) hG6.size
          have hB6 := hB5.grown hG6 hs5 (fun k hk => (hA5.own.lt k hk).1)
          clear hA5 hL5 hB5 ho6 hG6 hd6 hu5 hbd5 hx5 c2
          refine wp_go ?_
          go_wp2_with (fail)
          refine (next11_any _ _ _ M5 F5 D5 _ (next + 1) _ _ hL6).mono ?_
          rintro e w7 ⟨rfl, hB7⟩
          have hL7 := hL6.keep (fun b hb _ => hB7.block b hb) hB7.size
          have hA7 := hA6.below hB7
          have hB7' := hB6.trans (hB7.mono hB6.size)
          clear hL6 hA6 hB6 hB7
          go_wp2
          go_roundw
          case rel => exact ⟨i + 1, M5, F5, D5, all ++ [a.b], _, next + 1, by omega, by go_num, by go_num, hL7.mono (by omega), by omega, by simp; omega, (fun t ht => by rcases List.mem_append.1 ht with h | h; exact h700 t h; rw [List.mem_singleton] at h; subst h; exact hAl), hA7, hM5, hB7'⟩
          case measure => simp [intOf]; omega
        · go_wp2
          go_ret
          exact ⟨rfl, hB5⟩
      · have e0 : (a.k == 0) = false := by rw [beq_eq_false_iff_ne]; exact k0
        clear k0
        by_cases k2 : a.k = 2
        · have e2 : (a.k == 2) = true := by rw [k2]; rfl
          clear k2
          have hsr := src_own hA4.own hA4.x.len
          rw [hA4.x.len] at hsr
          have hnc : all.length ≤ ca := by
            have := hA4.rd.slShape
            obtain ⟨_, _, e, h, _⟩ := this
            injection e with _ _ e
            omega
          have hbd := hL4.bd
          have Hd8 : Hid (all.length - dropN all.length (min a.n 8) ≤ 8) := dropN_rest _ _ (by omega)
          obtain ⟨d, hd⟩ : ∃ d, d = dropN all.length (min a.n 8) := ⟨_, rfl⟩
          have Hd := hid hd
          have Hd8 : Hid (all.length - d ≤ 8) := by show _ ≤ _; rw [Hd.out]; exact Hd8.out
          clear hd hsr
          go_wp2_with (refine wp_bs0L 28 33 rfl rfl Hbs.out ?_; intro v5 w5 ho5 hB5; refine wp_stop ?_)
          have hA5 := hA4.below hB5
          have hsr5 := src_own hA5.own hA5.x.len
          rw [hA5.x.len] at hsr5
          have c1 := (hx4.below hB5).cellAt 1 _ rfl
          refine wp_go ?_
          go_wp2_with (fail)
          refine (last11_src us all.length ca Aa (min a.n 8) _ hsr5 hnc (by omega)).mono ?_
          rintro e w6 ⟨A6, c6, rfl, hs6, hB6⟩
          have hkl := (hA4.x.drop d).len
          rw [← Hd.out] at hs6 ⊢
          rw [hkl] at hs6 ⊢
          have ho6 := own_bel ho5 hB6
          have hB46 := hB5.trans (hB6.mono hB5.size)
          have h1c := txx_one (hA4.x.drop d)
          have hxd := hA4.x.drop d
          have hkll : (all.drop d).length = all.length - d := List.length_drop ..
          have hkt : ∀ t ∈ all.drop d, t.length ≤ 700 := fun t ht => h700 t (List.mem_of_mem_drop ht)
          obtain ⟨keep, hkeep⟩ : ∃ keep, keep = all.drop d := ⟨_, rfl⟩
          obtain ⟨uk, huk⟩ : ∃ uk, uk = us.drop d := ⟨_, rfl⟩
          rw [← hkeep] at hs6 hkll hkt hxd ⊢
          rw [← huk] at hs6 h1c hxd
          have Hk8 : Hid (keep.length ≤ 8) := by show _ ≤ _; rw [hkll]; exact Hd8.out
          have Hkk : Hid (keep.length ≤ all.length) := by show _ ≤ _; rw [hkll]; omega
          have hk9 := Hk8.out
          clear hA5 hsr5 ho5 hB6 c1 c0 c2 hnc hkl hkll hkeep huk Hd Hd8
          go_wp2_with (refine wp_app (.tmp 52) (.tmp 57) slBBG rfl rfl rfl ho6 rfl hs6 h1c (by simp only [maxLen]; omega) (by omega) hB46.size ?_; intro v7 w7 ho7 hG7 _; refine wp_stop ?_)
          rw [List.nil_append, Nat.zero_add] at ho7
          have hB47 := hB46.grown hG7 hB46.size (fun k hk => (ho6.lt k hk).1)
          have hL7 := hL4.keep (fun b hb _ => hB47.block b hb) hB47.size
          have hBy := hBx.trans (hB47.mono hBx.size)
          have hAk : AllX w7 w.heap.size 33 v7 keep uk M F' := ⟨own_weak ho7 hBx.size, hxd.keep (fun b hb hF => ⟨hF, hB47.block b hb⟩), fun b hb e => by have := (ho7.lt b e).1; have := hbd b hb; omega⟩
          obtain ⟨A7, c7, rfl⟩ := own_shape8 ho7
          have hrk := tx_ownG (G := fun b => b < w.heap.size ∨ (Value.slice A7 keep.length c7).ownBlock = some b) hAk.own hAk.x (fun _ h => .inl h) (fun _ h => .inr h)
          clear hA4 hL4 ho6 ho7 hG7 hs6 h1c hB46 hB47 hB5 hbd hx4 hu4 hBx hgM hxd
          refine wp_go ?_
          go_wp2_with (fail)
          refine (cut11_any _ _ _ M F' _ D all keep next (9 * i) _ _ (hK.below hBy) hL7 ⟨by omega, by omega⟩ hrk (fun b hb hm => hb.elim (fun h => by have := hM b hm; omega) (fun h => hAk.m b (.inl hm) h)) ⟨by have := Hk8.out; omega, fun t ht => by have := hkt t ht; omega⟩).mono ?_
          rintro e w8 ⟨E, M8, F8, D8, rfl, hi8, hE⟩
          obtain ⟨hB8, hM8⟩ := hi8.bel hBy hM
          have hA8 := hAk.ch hi8.1 hM hi8.2.1 hi8.2.2
          clear hL7 hAk hi8 hM hBy hrk
          by_cases hE0 : E = 0
          · subst hE0
            have hL8 := hE rfl
            have hk8 := Hk8.out
            have hcv : IntKind.u64.wrap (keep.length : Int) = (keep.length : Int) := IntWalk.u64_in _ (by omega)
            have hnw : IntKind.u64.wrap ((next : Int) + (keep.length : Int)) = (next : Int) + (keep.length : Int) := IntWalk.u64_in _ (by omega)
            clear hE
            go_wp2_with (fail)
            refine (next11_any _ _ _ M8 F8 D8 _ (next + keep.length) _ _ hL8).mono ?_
            rintro e w9 ⟨rfl, hB9⟩
            have hL9 := hL8.keep (fun b hb _ => hB9.block b hb) hB9.size
            have hA9 := hA8.below hB9
            have hB9' := hB8.trans (hB9.mono hB8.size)
            have hkk := Hkk.out
            clear hL8 hA8 hB8 hB9
            go_wp2
            go_roundw
            case rel => exact ⟨i + 1, M8, F8, D8, keep, uk, next + keep.length, by omega, by go_num, by go_num, hL9.mono (by omega), by omega, by omega, hkt, hA9, hM8, hB9'⟩
            case measure => simp [intOf]; omega
          · have hne : (E != 0) = true := by rw [bne_iff_ne]; exact hE0
            clear hE hE0
            go_wp2
            go_ret
            exact ⟨rfl, hB8⟩
        · have e2 : (a.k == 2) = false := by rw [beq_eq_false_iff_ne]; exact k2
          clear k2
          go_wp2_with (fail)
          refine (sync11_any _ _ _ M F' D all next _ _ (hK.below hBx) hL4 (by omega)).mono ?_
          rintro e w5 ⟨M5, F5, D5, rfl, hi5, hL5⟩
          obtain ⟨hB5, hM5⟩ := hi5.bel hBx hM
          have hA5 := hA4.ch hi5.1 hM hi5.2.1 hi5.2.2
          clear hL4 hA4 hi5 hu4 hx4 hM hBx c0 c1 c2
          go_wp2_with (fail)
          refine (next11_any _ _ _ M5 F5 D5 _ next _ _ hL5).mono ?_
          rintro e w7 ⟨rfl, hB7⟩
          have hL7 := hL5.keep (fun b hb _ => hB7.block b hb) hB7.size
          have hA7 := hA5.below hB7
          have hB7' := hB5.trans (hB7.mono hB5.size)
          clear hL5 hA5 hB5 hB7
          go_wp2
          go_roundw
          case rel => exact ⟨i + 1, M5, F5, D5, all, us, next, by omega, by go_num, rfl, hL7.mono (by omega), by omega, by omega, h700, hA7, hM5, hB7'⟩
          case measure => simp [intOf]; omega
    · have hi' : i = l.length := by omega
      subst hi'
      have hIlt : ¬ (l.length : Int) < (l.length : Int) := by omega
      go_wp2_with (fail)
      refine (sync11_any _ _ _ M F' D all next _ _ (hK.below hB) hL (by omega)).mono ?_
      rintro e w5 ⟨M5, F5, D5, rfl, hi5, hL5⟩
      obtain ⟨hB5, hM5⟩ := hi5.bel hB hM
      have hA5 := hA.ch hi5.1 hM hi5.2.1 hi5.2.2
      clear hL hA hi5 hM hB
      go_wp2_with (fail)
      refine (open11_any _ _ _ M5 F5 D5 all next _ _ (hK.below hB5) hL5 ⟨by omega, by omega⟩).mono ?_
      rintro e w6 ⟨x6, vr, rfl, hvr6, hC6⟩
      have hB6 := below_chL hB5 hC6 hM5
      have hA6 := hA5.ch (M' := nob) (F' := nob) hC6 hM5 (fun b h => h.elim) (fun b h => h.elim)
      obtain ⟨Ar6, cr6, rfl, _, _⟩ := hvr6.slShape
      clear hA5 hL5 hC6 hB5 hM5
      go_wp2_with (fail)
      refine (sameAll11_any _ _ all _ _ _ hvr6 hA6.rd (by omega)).mono ?_
      rintro e w7 ⟨rfl, hB7⟩
      go_wp2
      go_ret
      exact ⟨rfl, hB6.trans (hB7.mono hB6.size)⟩
end Go.Proofs.YtcechioeolokcaaGreatDoor
