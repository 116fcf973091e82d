/- NT: several texts in one (Xl NT). -/
import Derived.Test.YtnhhbbjkeekneaaGreatDoorM1
import Derived.Test.YtnhhbbjkeekneaaGreatDoorXa
import Derived.Great.Walk
/- Xl: layer 19: contracts of stops: greatest, wanted, Some, Enough; of stops that are not there. -/
namespace Go.Proofs.YtnhhbbjkeekneaaGreatDoor
open Go.RowKit Go.V
theorem eno_pos (n : Int) (M : Nat) : rgt n M = true → 0 < enoN n M := by
  intro h
  have hs := rgt_sz h
  have e0 : fltN n M = (szM M - 1) / 3 := by unfold fltN; rw [if_pos h]
  unfold enoN
  rw [if_pos h]
  omega
theorem som_pos (n : Int) (M : Nat) : rgt n M = true → 0 < somN n M := by
  intro h
  unfold somN
  rw [if_pos h]
  omega
theorem eno_le (n : Int) (M : Nat) : enoN n M ≤ 16 ∧ (rgt n M = false → enoN n M = 0) := by
  have := sz_le M
  unfold enoN
  split
  · rename_i h
    exact ⟨by omega, fun h2 => by rw [h] at h2; cases h2⟩
  · exact ⟨by omega, fun _ => rfl⟩
theorem som_le (n : Int) (M : Nat) : somN n M ≤ 16 ∧ (rgt n M = false → somN n M = 0) := by
  have := sz_le M
  unfold somN fltN
  split
  · rename_i h
    exact ⟨by omega, fun h2 => by rw [h] at h2; cases h2⟩
  · exact ⟨by omega, fun _ => rfl⟩
set_option maxRecDepth 100000 in
set_option maxHeartbeats 4000000 in
/-- greatest, whatever the closure: it answers f in each world for which I holds -/
theorem greatest19_any (g : Nat) (cb : Array Value) (eg : ∀ args w, (callFunc g args).run Tryz.prog w = .ok (.enter g args) w) (a b : Int) (f : Nat → Bool) (w : World)
    (hc : ∀ (r : Nat) (Y : World), r < 41 → Below w.heap.size w Y → Calls Tryz.prog g (#[.int .i64 (r : Int)] ++ cb) Y fun e w' => e = .returned (.bool (f r)) ∧ Below Y.heap.size Y w') :
    Calls Tryz.prog 61 #[.int .i64 a, .int .i64 b, .func (.func g) #[] cb] w fun e w' => e = .returned (.int .i64 (grF a b f 41)) ∧ Below w.heap.size w w' := by
  have HC := hid hc
  obtain ⟨R, hR⟩ : ∃ R, R = grF a b f 41 := ⟨_, rfl⟩
  have HR := hid hR
  rw [← hR]
  clear hc hR
  go_enter Tryz.func61, Tryz.ntmps61
  go_wp2
  go_loopw [7] (fun iv wr => ∃ (n : Nat) (i : Int), n ≤ 41 ∧ iv = .int .i64 i ∧ Hid (i = (n : Int) - 1) ∧ Hid (R = grF a b f n) ∧ Below w.heap.size w wr) (fun iv _ => (intOf iv + 1).toNat)
  case atStart => exact ⟨41, 40, Nat.le_refl _, rfl, hid (by omega), HR, Below.refl _ _⟩
  case round =>
    clear HR
    obtain ⟨n, i, hn, rfl, hi, HR, hB⟩ := hrel
    cases n with
    | zero =>
      have hi' : i = -1 := by have := hi.out; omega
      subst hi'
      have hR : R = -1 := HR.out
      subst hR
      clear HR hi
      go_wp2
      go_ret
      exact ⟨rfl, hB⟩
    | succ k =>
      have hi' : i = (k : Int) := by have := hi.out; omega
      subst hi'
      have hk0 : (k : Int) ≥ 0 := by omega
      have hk41 : k < 41 := by omega
      have hwr : IntKind.i64.wrap ((k : Int) - 1) = (k : Int) - 1 := IntWalk.i64_in _ (by omega)
      clear hi
      by_cases ha : (k : Int) > a
      · by_cases hb : (k : Int) < b
        · have hcl := HC.out k wr hk41 hB
          have HD : Hid (f k = true → R = (k : Int)) := hid (fun hf => HR.out.trans (grF_take (by rw [hf, decide_eq_true ⟨ha, hb⟩]; rfl)))
          have HS : Hid (f k = false → R = grF a b f k) := hid (fun hf => HR.out.trans (grF_skip (by rw [hf, Bool.and_false]; exact Bool.false_ne_true)))
          obtain ⟨q, hq⟩ : ∃ q, q = f k := ⟨_, rfl⟩
          rw [← hq] at hcl HD HS
          have hbi : (k : Int) < b := hb
          clear HC HR hq
          cases q with
          | true =>
            have hR : R = (k : Int) := HD.out rfl
            subst hR
            clear HD HS
            go_wp2_with (go_at_fn g; refine hcl.mono ?_; rintro e w' ⟨rfl, hB2⟩)
            go_ret
            exact ⟨rfl, hB.trans (hB2.mono hB.size)⟩
          | false =>
            have HS2 := hid (HS.out rfl)
            clear HD HS
            go_wp2_with (go_at_fn g; refine hcl.mono ?_; rintro e w' ⟨rfl, hB2⟩)
            go_roundw
            case rel => exact ⟨k, (k : Int) - 1, by omega, by go_num, hid rfl, HS2, hB.trans (hB2.mono hB.size)⟩
            case measure => first | (simp [intOf]; done) | (simp [intOf]; omega)
        · have HS : Hid (R = grF a b f k) := hid (HR.out.trans (grF_skip (by rw [decide_eq_false (fun h : a < (k : Int) ∧ _ => hb h.2)]; exact Bool.false_ne_true)))
          clear HC HR
          go_wp2
          go_roundw
          case rel => exact ⟨k, (k : Int) - 1, by omega, by go_num, hid rfl, HS, hB⟩
          case measure => first | (simp [intOf]; done) | (simp [intOf]; omega)
      · have HS : Hid (R = grF a b f k) := hid (HR.out.trans (grF_skip (by rw [decide_eq_false (fun h : a < (k : Int) ∧ _ => ha h.1)]; exact Bool.false_ne_true)))
        clear HC HR
        go_wp2
        go_roundw
        case rel => exact ⟨k, (k : Int) - 1, by omega, by go_num, hid rfl, HS, hB⟩
        case measure => first | (simp [intOf]; done) | (simp [intOf]; omega)
set_option maxRecDepth 100000 in
/-- what wanted asks of each regency -/
theorem wcl19_any (g1 g2 p : Nat) (uk : Value) (F : Nat → Prop) (ks : List (List UInt8)) (V : Vc) (W T : List Nat) (many r : Nat) (w : World) (hr : r < 41) (h : SM w p uk F ks V W T) (b1 : Blk w g1 54 [.pointer (some ⟨p, 0, none⟩)]) (b2 : Blk w g2 3 [.int .i64 (many : Int)]) :
    Calls Tryz.prog 68 #[.int .i64 (r : Int), .pointer (some ⟨g1, 0, none⟩), .pointer (some ⟨g2, 0, none⟩)] w fun e w' => e = .returned (.bool (decide (many ≤ cntW W (r : Int)))) ∧ Below w.heap.size w w' := by
  have hcnt := hid (fun Y (hY : SM Y p uk F ks V W T) => scount19_p p uk F ks V W T r Y hr hY)
  have H1 : Hid (∀ Y, Ch nob w Y → Y.cell? ⟨g1, 0, none⟩ = some (.pointer (some ⟨p, 0, none⟩))) := hid fun Y hc => (b1.below hc.below).cellAt 0 _ rfl
  have H2 : Hid (∀ Y, Ch nob w Y → Y.cell? ⟨g2, 0, none⟩ = some (.int .i64 (many : Int))) := hid fun Y hc => (b2.below hc.below).cellAt 0 _ rfl
  have HM : Hid (∀ Y, Ch nob w Y → SM Y p uk F ks V W T) := hid fun Y hc => h.below hc.below
  obtain ⟨c, hc⟩ : ∃ c, c = cntW W (r : Int) := ⟨_, rfl⟩
  rw [← hc] at hcnt ⊢
  clear hc h b1 b2
  go_enter Tryz.func68, Tryz.ntmps68
  go_upto_region 1 with (fail)
  refine wp_region_noPanic ?_
  refine wp_region_held_drew (S := Ch nob w) (by kernel_rfl) ((Ch.refl _ _).drew) (fun hHeld => ?_)
  refine tkF 0 rfl H1.out ?_
  refine tkP 1 rfl ?_
  refine tkF 3 rfl H2.out ?_
  refine rdH 2 rfl (fun K hK => ?_)
  go_simp
  refine (hcnt.out _ (HM.out _ hHeld)).mono ?_
  rintro e' y1 ⟨rfl, hE1⟩
  refine hK.out _ _ (hHeld.belowR hE1) (fun hHeld => ?_)
  clear hK K
  try simp only [nP]
  refine tkP 4 rfl ?_
  refine tkP 5 rfl ?_
  refine wpAnyH_done (by kernel_rfl) ?_ _
  refine NoPanic.normal ?_
  have hBe := hHeld.below
  go_wp2
  go_ret
  exact ⟨by first | rfl | (congr 2; exact decide_eq_decide.2 (by omega)), hBe⟩
set_option maxRecDepth 100000 in
theorem wanted19_any (p : Nat) (uk : Value) (F : Nat → Prop) (ks : List (List UInt8)) (V : Vc) (W T : List Nat) (a : Int) (many : Nat) (w : World) (_ha : in64w a) (hm : many ≤ 16 ∧ (rgt V.n V.m = false → many = 0)) (hp : rgt V.n V.m = true → 0 < many) (h : SM w p uk F ks V W T) :
    Calls Tryz.prog 34 #[.pointer (some ⟨p, 0, none⟩), .int .i64 a, .int .i64 (many : Int)] w fun e w' => e = .returned (.int .i64 (grW W a many)) ∧ Below w.heap.size w w' := by
  obtain ⟨n, M⟩ := V
  have hvb := h.vb
  dsimp only at hvb hm hp
  obtain ⟨W0, hW0, b3, b5, hB0⟩ := alloc2 w 54 3 [.pointer (some ⟨p, 0, none⟩)] [.int .i64 (many : Int)]
  have h0 := h.below hB0
  have bV := sC_v h0.blk
  have hri := hid (right_any n M · hvb)
  have hcl := hid (fun (g1 g2 r : Nat) (Y : World) h1 h2 h3 h4 => wcl19_any g1 g2 p uk F ks ⟨n, M⟩ W T many r Y h1 h2 h3 h4)
  have K3 := hid (fun Y (hY : Below W0.heap.size W0 Y) => b3.below hY)
  have K5 := hid (fun Y (hY : Below W0.heap.size W0 Y) => b5.below hY)
  have KM := hid (fun Y (hY : Below W0.heap.size W0 Y) => h0.below hY)
  have HN : Hid (rgt n M = false → grW W a many = -1) := hid (fun hf => by rw [hm.2 hf]; exact g_none 41)
  have HG : Hid (rgt n M = true → grF a 41 (fun r => decide (many ≤ cntW W (r : Int))) 41 = grW W a many) := hid (fun ht => gr_gr (hp ht) 41 (Nat.le_refl _) (fun r _ => rfl))
  obtain ⟨G, hG⟩ : ∃ G, G = grW W a many := ⟨_, rfl⟩
  rw [← hG] at HN HG ⊢
  obtain ⟨q, hq⟩ : ∃ q, q = rgt n M := ⟨_, rfl⟩
  rw [← hq] at HN HG hri
  have c3 := b3.cellAt 0 _ rfl
  unfold vw at hri
  clear hG hq h h0 hm hp b3 b5
  go_enter Tryz.func34, Tryz.ntmps34
  go_upto_region 1 with (fail)
  first | rw [← hW0] | (simp only [List.toArray] at hW0 ⊢; rw [← hW0])
  clear hW0
  obtain ⟨g5, hg5⟩ : ∃ g, g = w.heap.size + 1 := ⟨_, rfl⟩
  rw [← hg5] at K5 ⊢
  obtain ⟨g3, hg3⟩ : ∃ g, g = w.heap.size := ⟨_, rfl⟩
  rw [← hg3] at K3 c3 ⊢
  clear hg3 hg5
  go_wp2_with (first | refine wp_ld 24 (.tmp 9) rfl rfl rfl bV Tryz.underlying24 rfl sizeVw17 ?_)
  refine (hri.out _).mono ?_
  rintro e w1 ⟨rfl, hB1⟩
  clear bV c3
  cases q with
  | false =>
    have hG : G = -1 := HN.out rfl
    subst hG
    have hBe := hB0.trans (hB1.mono hB0.size)
    clear HN HG
    go_wp2
    go_ret
    exact ⟨rfl, hBe⟩
  | true =>
    have HGt := hid (HG.out rfl)
    have hgr := greatest19_any 68 #[.pointer (some ⟨g3, 0, none⟩), .pointer (some ⟨g5, 0, none⟩)] (enters_of Tryz.func68 (by decide) rfl) a 41 (fun r => decide (many ≤ cntW W (r : Int))) w1 (fun r Y hr hY => by
      have hB2 := hB1.trans (hY.mono hB1.size)
      exact hcl.out g3 g5 r Y hr (KM.out Y hB2) (K3.out Y hB2) (K5.out Y hB2))
    rw [HGt.out] at hgr
    have hBe := hB0.trans (hB1.mono hB0.size)
    have Hgr := hid hgr
    clear HN HG HGt hgr hcl K3 K5 KM hB1
    go_wp2_with (fail)
    refine Hgr.out.mono ?_
    rintro e w2 ⟨rfl, hB2⟩
    have hBe := hBe.trans (hB2.mono hBe.size)
    clear hB2 Hgr
    go_wp2
    go_ret
    exact ⟨rfl, hBe⟩

set_option maxRecDepth 100000 in
theorem ssome19_any (v : Value) (M N : Nat → Prop) (ks : List (List UInt8)) (V : Vc) (W : List Nat) (r : Int) (w : World) (hr : in64w r) (h : SX w v M N ks V W) :
    Calls Tryz.prog 16 #[v, .int .i64 r] w fun e w' => e = .returned (.int .i64 (grW W r (somN V.n V.m))) ∧ Below w.heap.size w w' := by
  obtain ⟨_, p, uk, F, T, rfl, hm, _⟩ := h
  obtain ⟨n, M0⟩ := V
  have hvb := hm.vb
  dsimp only at hvb
  have hB := hm.blk
  have hso := hid (som_any n M0 · hvb)
  have hwa := hid (fun Y (hY : Below w.heap.size w Y) => wanted19_any p uk F ks ⟨n, M0⟩ W T r (somN n M0) Y hr (som_le n M0) (som_pos n M0) (hm.below hY))
  have bV := sC_v hB
  unfold vw at hso
  clear hm hB
  go_enter Tryz.func16, Tryz.ntmps16
  go_wp2_with (first | refine wp_ld 24 (.tmp 11) rfl rfl rfl bV Tryz.underlying24 rfl sizeVw17 ?_)
  refine (hso.out _).mono ?_
  rintro e w1 ⟨rfl, hB1⟩
  clear bV
  go_wp2_with (fail)
  refine (hwa.out _ hB1).mono ?_
  rintro e w2 ⟨rfl, hB2⟩
  have hBe := hB1.trans (hB2.mono hB1.size)
  clear hB1 hB2
  go_wp2
  go_ret
  exact ⟨rfl, hBe⟩

set_option maxRecDepth 100000 in
theorem senough19_any (v : Value) (M N : Nat → Prop) (ks : List (List UInt8)) (V : Vc) (W : List Nat) (r : Int) (w : World) (hr : in64w r) (h : SX w v M N ks V W) :
    Calls Tryz.prog 17 #[v, .int .i64 r] w fun e w' => e = .returned (.int .i64 (grW W r (enoN V.n V.m))) ∧ Below w.heap.size w w' := by
  obtain ⟨_, p, uk, F, T, rfl, hm, _⟩ := h
  obtain ⟨n, M0⟩ := V
  have hvb := hm.vb
  dsimp only at hvb
  have hB := hm.blk
  have hso := hid (eno_any n M0 · hvb)
  have hwa := hid (fun Y (hY : Below w.heap.size w Y) => wanted19_any p uk F ks ⟨n, M0⟩ W T r (enoN n M0) Y hr (eno_le n M0) (eno_pos n M0) (hm.below hY))
  have bV := sC_v hB
  unfold vw at hso
  clear hm hB
  go_enter Tryz.func17, Tryz.ntmps17
  go_wp2_with (first | refine wp_ld 24 (.tmp 11) rfl rfl rfl bV Tryz.underlying24 rfl sizeVw17 ?_)
  refine (hso.out _).mono ?_
  rintro e w1 ⟨rfl, hB1⟩
  clear bV
  go_wp2_with (fail)
  refine (hwa.out _ hB1).mono ?_
  rintro e w2 ⟨rfl, hB2⟩
  have hBe := hB1.trans (hB2.mono hB1.size)
  clear hB1 hB2
  go_wp2
  go_ret
  exact ⟨rfl, hBe⟩

theorem scount19_any (v : Value) (M N : Nat → Prop) (ks : List (List UInt8)) (V : Vc) (W : List Nat) (r : Nat) (w : World) (hr : r < 41) (h : SX w v M N ks V W) :
    Calls Tryz.prog 18 #[v, .int .i64 (r : Int)] w fun e w' => e = .returned (.int .i64 (cntW W (r : Int) : Int)) ∧ Below w.heap.size w w' := by
  obtain ⟨_, p, uk, F, T, rfl, hm, _⟩ := h
  exact scount19_p p uk F ks V W T r w hr hm
end Go.Proofs.YtnhhbbjkeekneaaGreatDoor
/- NT: a message that was opened: its cells; '&T{..}' in a region that draws its order. -/
namespace Go.V
open Go.RowKit
section
variable {P : Program} {w : World} {ops : Array Oper} {o : Oper} {a : Act} {K : Act → World → Prop} {Q : Exit → Act → World → Prop} {E : Prop}
/-- '&T{..}', in a region that draws its order -/
theorem step_box18 (t : TypeId) (x : Operand) (hgd : o.guard = none) (ho : o.op = .box t x) {l : List Value} (hx : a.eval x = .agg l.toArray)
    (h : ∀ g w', w.heap.size ≤ g → g < w'.heap.size → Blk w' g t l → Below w.heap.size w w' → K (a.put o.dst (.pointer (some ⟨g, 0, none⟩))) w') : if Region.wanted o (yielded ops a.tmps) = true then Oper.wp P o a w K Q else E := by
  have hw : Region.wanted o (yielded ops a.tmps) = true := by simp [Region.wanted, hgd]
  rw [if_pos hw]
  unfold Oper.wp execOp
  have hr : (Instr.box t (.agg l.toArray)).run P w = .ok (.pointer (some ⟨w.heap.size, 0, none⟩)) (w.alloc (.cells l.toArray t)) := by
    simp [Instr.box, newVar, newRow, Value.cells]
  simp only [ho, hx, Sem.run_bind, Sem.run_pure, hr, Result.andThen_ok]
  exact h _ _ (Nat.le_refl _) (by simp) (Blk.new' w t l) ((Below.refl _ _).alloc (Nat.le_refl _) _)
end
end Go.V
namespace Go.Proofs.YtnhhbbjkeekneaaGreatDoor
open Go.RowKit Go.V
theorem opofN_pos {ks : List (List UInt8)} {V : Vc} {X : List UInt8} {e : Nat} (h : opOf ks V X = .error e) : e ≠ 0 := by
  unfold opOf at h
  split at h
  · split at h
    · cases h
    · injection h with h; omega
  · rename_i e' he
    injection h with h
    subst h
    exact op_pos he
theorem opofN_ok {ks : List (List UInt8)} {V : Vc} {X : List UInt8} {m : Mg} (h : opOf ks V X = .ok m) : m.h.length = 32 ∧ 0 ≤ m.f ∧ m.f ≤ 15 ∧ 0 ≤ m.r ∧ m.r ≤ 40 := by
  unfold opOf at h
  split at h
  · rename_i m' hm
    split at h
    · injection h with h
      subst h
      have := op_num hm
      unfold numB at this
      have := of_decide_eq_true this
      exact ⟨op_hash hm, by omega, by omega, by omega, by omega⟩
    · cases h
  · cases h
theorem neNI {a b : Int} (h : a = b) : (a != b) = false := by rw [h]; simp
theorem neNN {a b : Int} (h : a ≠ b) : (a != b) = true := bne_iff_ne.2 h
/-- a message's cells -/
structure MF (l : List Value) (x : Mg) : Prop where
  c0 : l[0]? = some (.int .i64 x.k)
  c1 : l[1]? = some (.int .i64 x.f)
  c2 : l[2]? = some (.int .i64 x.v)
  c3 : l[3]? = some (.int .i64 x.r)
  c4 : l[4]? = some (.int .i64 x.s)
  ch : ∀ (j : Nat) (v : Value), (bvs x.h)[j]? = some v → l[5 + j]? = some v
  h : x.h.length = 32
theorem mf_of {x : Mg} (hh : x.h.length = 32) (ub up : Value) : MF (x.l ub up) x := ⟨rfl, rfl, rfl, rfl, rfl, mg_hash hh ub up, hh⟩
/-- what OpenOf tells: a message, whatever the error -/
def Op18 (w : World) (r : Except Nat Mg) (e : Ending) (w' : World) : Prop := ∃ (x : Mg) (A B : Option Addr) (a b c d k : Nat), e = .returned (.tuple #[.agg (x.l (.slice A a b) (.slice B c d)).toArray, .int .i64 (k : Int)]) ∧ x.h.length = 32 ∧ (k = 0 → r = .ok x) ∧ (k ≠ 0 → r = .error k) ∧ Below w.heap.size w w'
def zMg18 : Mg := ⟨0, 0, 0, 0, 0, List.replicate 32 0, [], []⟩
theorem zM_eq18 : zM = zMg18.l (.slice none 0 0) (.slice none 0 0) := by simp [zM, zMg18, Mg.l, zs8, bvs, byteV]
theorem op18 {ks : List (List UInt8)} {V : Vc} {X : List UInt8} {w w' : World} {e : Ending} (h : ReadP w (opOf ks V X) e w') : Op18 w (opOf ks V X) e w' := by
  cases hr : opOf ks V X with
  | error k =>
    rw [hr] at h
    obtain ⟨rfl, hB⟩ := h
    have hk := opofN_pos hr
    exact ⟨zMg18, none, none, 0, 0, 0, 0, k, by rw [zM_eq18], by simp [zMg18], fun h => absurd h hk, fun _ => rfl, hB⟩
  | ok m =>
    rw [hr] at h
    obtain ⟨⟨ub, up, rfl, hub, hup⟩, hB⟩ := h
    obtain ⟨Ab, cb, rfl⟩ := hub.shape
    obtain ⟨Ap, cp, rfl, _, _⟩ := hup.slShape
    exact ⟨m, Ab, Ap, m.b.length, cb, m.ps.length, cp, 0, rfl, (opofN_ok hr).1, fun _ => rfl, fun h => absurd rfl h, hB⟩
end Go.Proofs.YtnhhbbjkeekneaaGreatDoor
