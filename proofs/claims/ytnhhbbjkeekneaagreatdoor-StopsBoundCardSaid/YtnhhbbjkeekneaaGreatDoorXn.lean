/- Xn: several texts in one (CC Xn). -/
import Derived.Test.YtnhhbbjkeekneaaGreatDoorCF
import Derived.Test.YtnhhbbjkeekneaaGreatDoorCH
import Derived.Test.YtnhhbbjkeekneaaGreatDoorCJ
import Derived.Test.YtnhhbbjkeekneaaGreatDoorM1
import Derived.Test.YtnhhbbjkeekneaaGreatDoorQ7
import Derived.Test.YtnhhbbjkeekneaaGreatDoorCr
import Derived.Test.YtnhhbbjkeekneaaGreatDoorCB
import Derived.Test.YtnhhbbjkeekneaaGreatDoorZp
import Derived.Deep.RegionHeld3
/- CC: layer 17: the contracts of package certs, all in one place: cwho17_any, cpick17_any (CF), cwri17_any (CH), cdec17_any (CJ). -/
namespace Go.Proofs.YtnhhbbjkeekneaaGreatDoor
end Go.Proofs.YtnhhbbjkeekneaaGreatDoor
/- Xn: layer 19: contracts of stops.binding, stops.Valid. -/
namespace Go.Proofs.YtnhhbbjkeekneaaGreatDoor
open Go.RowKit Go.V
/-- what the landed Valid answers -/
def VaP (w : World) (G : Nat → Prop) (T : Int × Bd) (e : Ending) (w' : World) : Prop := ∃ u, e = .returned (.tuple #[.agg (bdL T.2 u).toArray, .int .i64 T.1]) ∧ Rd w' (fun b => G b ∨ w.heap.size ≤ b) u (bys T.2.b) ∧ Below w.heap.size w w'
theorem VaP.err {w w' : World} {G : Nat → Prop} {T : Int × Bd} {er : Int} (h : T = (er, zBd)) (hB : Below w.heap.size w w') : VaP w G T (.returned (.tuple #[.agg (bdL zBd (.slice none 0 0)).toArray, .int .i64 er])) w' := by
  subst h
  exact ⟨_, rfl, Rd.nil _ _, hB⟩
theorem bldB0 : ∀ W : World, (Instr.build 51 [].toArray).run Tryz.prog W = .ok (.agg (bdL zBd (.slice none 0 0)).toArray) W := fun _ => by kernel_rfl
theorem bldB1 (s : Int) : ∀ W : World, (Instr.build 51 [(0, .int .i64 s)].toArray).run Tryz.prog W = .ok (.agg (bdL ⟨s, false, 0, z32, []⟩ (.slice none 0 0)).toArray) W := fun _ => by kernel_rfl
theorem zeroBd19 : (Tryz.prog.info? 51).map (·.zero) = some (some (.agg (bdL zBd (.slice none 0 0)).toArray)) := by kernel_rfl
set_option maxRecDepth 100000 in
theorem bldBb (s r : Int) (h b : List UInt8) (A : Option Addr) (k c : Nat) (hh : h.length = 32) : ∀ W : World, (Instr.build 51 [(0, .int .i64 s), (1, .bool true), (2, .int .i64 r), (3, .agg (bvs h).toArray), (4, .slice A k c)].toArray).run Tryz.prog W = .ok (.agg (bdL ⟨s, true, r, h, b⟩ (.slice A k c)).toArray) W := by
  match h, hh with
  | [a0, a1, a2, a3, a4, a5, a6, a7, a8, a9, a10, a11, a12, a13, a14, a15, a16, a17, a18, a19, a20, a21, a22, a23, a24, a25, a26, a27, a28, a29, a30, a31], _ => intro W; kernel_rfl
/-- four new blocks -/
theorem alloc4 (w : World) (t1 t2 t3 t4 : TypeId) (l1 l2 l3 l4 : List Value) : ∃ W, W = ((((w.alloc (.cells l1.toArray t1)).alloc (.cells l2.toArray t2)).alloc (.cells l3.toArray t3)).alloc (.cells l4.toArray t4)) ∧ Blk W w.heap.size t1 l1 ∧ Blk W (w.heap.size + 1) t2 l2 ∧ Blk W (w.heap.size + 2) t3 l3 ∧ Blk W (w.heap.size + 3) t4 l4 ∧ Below w.heap.size w W := by
  have z4 : (w.alloc (.cells l1.toArray t1)).heap.size = w.heap.size + 1 := by simp
  have z5 : ((w.alloc (.cells l1.toArray t1)).alloc (.cells l2.toArray t2)).heap.size = w.heap.size + 2 := by simp
  have z7 : (((w.alloc (.cells l1.toArray t1)).alloc (.cells l2.toArray t2)).alloc (.cells l3.toArray t3)).heap.size = w.heap.size + 3 := by simp
  have b4 := (((Blk.new' w t1 l1).alloc (.cells l2.toArray t2)).alloc (.cells l3.toArray t3)).alloc (.cells l4.toArray t4)
  have b5 := ((Blk.new' (w.alloc (.cells l1.toArray t1)) t2 l2).alloc (.cells l3.toArray t3)).alloc (.cells l4.toArray t4)
  have b7 := (Blk.new' ((w.alloc (.cells l1.toArray t1)).alloc (.cells l2.toArray t2)) t3 l3).alloc (.cells l4.toArray t4)
  have b8 := Blk.new' (((w.alloc (.cells l1.toArray t1)).alloc (.cells l2.toArray t2)).alloc (.cells l3.toArray t3)) t4 l4
  rw [z4] at b5
  rw [z5] at b7
  rw [z7] at b8
  exact ⟨_, rfl, b4, b5, b7, b8, ((((Below.refl _ _).alloc (Nat.le_refl _) _).alloc (by simp) _).alloc (by simp; omega) _).alloc (by simp; omega) _⟩
set_option maxRecDepth 100000 in
set_option maxHeartbeats 4000000 in
/-- what binding asks of each regency -/
theorem bcl19_any (ks : List (List UInt8)) (V : Vc) (m : Mg) (h : List UInt8) (gk gv gm gh r : Nat) (uk ur ub up : Value) (F H : Nat → Prop) (w : World) (hKS : KS w) (hks : KsSm ks) (hk : Rd w F uk (tx ks)) (hV : in64w V.n ∧ V.m < 65536)
    (hm : MgIn m) (hup : Rd w H up (tx m.ps)) (hP : PsBg m.ps) (hms : -1000000000000 ≤ m.s ∧ m.s ≤ 1000000000000) (hh : h.length = 32) (hr : r < 41)
    (b1 : Blk w gk 40 [uk, ur]) (b2 : Blk w gv 24 [.int .i64 V.n, .int .u16 (V.m : Int)]) (b3 : Blk w gm 47 (m.l ub up)) (b4 : Blk w gh 32 (bvs h)) :
    Calls Tryz.prog 62 #[.int .i64 (r : Int), .pointer (some ⟨gk, 0, none⟩), .pointer (some ⟨gv, 0, none⟩), .pointer (some ⟨gm, 0, none⟩), .pointer (some ⟨gh, 0, none⟩)] w fun e w' => e = .returned (.bool (decide (wriC ks V (r : Int) (m.s + 1) h m.ps = 0))) ∧ Below w.heap.size w w' := by
  obtain ⟨n, M⟩ := V
  have hwr := hid (cwri17_big ks ⟨n, M⟩ m.ps (r : Int) (m.s + 1) h uk ur up F H w hKS hks hk hup hP hV ⟨⟨by omega, by omega⟩, ⟨by omega, by omega⟩⟩ hh)
  obtain ⟨Ap, cp, rfl, _, _⟩ := hup.slShape
  have c4 := b3.cellAt 4 (.int .i64 m.s) rfl
  have c38 := b3.cellAt 38 _ (mg_parts hm.h ub (.slice Ap m.ps.length cp))
  have hwm : IntKind.i64.wrap (m.s + 1) = m.s + 1 := IntWalk.i64_in _ ⟨by omega, by omega⟩
  have Lh : Hid ((bvs h).length = 32) := hid (by rw [len_bvs]; exact hh)
  obtain ⟨lh, hlh⟩ : ∃ l, l = bvs h := ⟨_, rfl⟩
  rw [← hlh] at b4 Lh hwr
  obtain ⟨q, hq⟩ : ∃ q, q = wriC ks ⟨n, M⟩ (r : Int) (m.s + 1) h m.ps := ⟨_, rfl⟩
  rw [← hq] at hwr ⊢
  unfold vw at hwr
  clear hlh hq hup b3
  go_enter Tryz.func62, Tryz.ntmps62
  go_wp2_with (first | refine wp_ld 40 (.tmp 1) rfl rfl rfl b1.whole Tryz.underlying40 rfl sizeKs17 ?_ | refine wp_ld 24 (.tmp 2) rfl rfl rfl b2.whole Tryz.underlying24 rfl sizeVw17 ?_ | refine wp_ld 32 (.tmp 4) rfl rfl rfl b4.whole Tryz.underlying32 rfl (by rw [Lh.out]; exact size25) ?_)
  refine hwr.out.mono ?_
  rintro e w1 ⟨rfl, hB1⟩
  clear b1 b2 b4 c4 c38 hwr
  go_wp2
  go_ret
  exact ⟨by first | rfl | (congr 2; done) | (congr 2; by_cases h : q = 0 <;> simp [h]), hB1⟩
def binC (ks : List (List UInt8)) (R : List Hx) (V : Vc) (m : Mg) : Int × Bd := if (chkb7 R m.b).1 ≠ 0 then ((chkb7 R m.b).1, zBd) else match regC ks V m (regN m) with
  | none => (12, zBd)
  | some r => (0, ⟨m.s, true, (r : Int), shaF m.b, m.b⟩)
set_option maxRecDepth 100000 in
set_option maxHeartbeats 16000000 in
theorem bind19_any (ks : List (List UInt8)) (R : List Hx) (V : Vc) (m : Mg) (uk ur ub up : Value) (F FR G H : Nat → Prop) (w : World) (hKS : KS w) (hks : KsSm ks) (hk : Rd w F uk (tx ks)) (hR : Rd w FR ur (wds hxD R)) (hV : in64w V.n ∧ V.m < 65536)
    (hm : MgIn m) (hub : Rd w G ub (bys m.b)) (hup : Rd w H up (tx m.ps)) (hbl : m.b.length ≤ 1000000) (hP : PsBg m.ps) (hms : -1000000000000 ≤ m.s ∧ m.s ≤ 1000000000000) :
    Calls Tryz.prog 31 #[.agg #[uk, ur], vw V.n V.m, .agg (m.l ub up).toArray] w (VaP w nob (binC ks R V m)) := by
  have hT : binC ks R V m = if (chkb7 R m.b).1 ≠ 0 then ((chkb7 R m.b).1, zBd) else match regC ks V m (regN m) with
      | none => (12, zBd)
      | some r => (0, ⟨m.s, true, (r : Int), shaF m.b, m.b⟩) := rfl
  obtain ⟨T, hTT⟩ : ∃ T, T = binC ks R V m := ⟨_, rfl⟩
  rw [← hTT] at hT ⊢
  clear hTT
  obtain ⟨Ab, cb, rfl⟩ := hub.shape
  obtain ⟨Ap, cp, rfl, _, _⟩ := hup.slShape
  obtain ⟨W0, hW0, b3, b4, b5, b6, hB⟩ := alloc4 w 40 24 47 51 [uk, ur] [.int .i64 V.n, .int .u16 (V.m : Int)] (m.l (.slice Ab m.b.length cb) (.slice Ap m.ps.length cp)) (bdL zBd (.slice none 0 0))
  obtain ⟨gk, hgk⟩ : ∃ g, g = w.heap.size := ⟨_, rfl⟩
  obtain ⟨gv, hgv⟩ : ∃ g, g = w.heap.size + 1 := ⟨_, rfl⟩
  obtain ⟨gm, hgm⟩ : ∃ g, g = w.heap.size + 2 := ⟨_, rfl⟩
  obtain ⟨g6, hg6⟩ : ∃ g, g = w.heap.size + 3 := ⟨_, rfl⟩
  rw [← hgk] at b3
  rw [← hgv] at b4
  rw [← hgm] at b5
  rw [← hg6] at b6
  have hk := hk.weak (F' := fun b => b < w.heap.size) (fun b hb _ => hb)
  have hub := hub.weak (F' := fun b => b < w.heap.size) (fun b hb _ => hb)
  have hup := hup.weak (F' := fun b => b < w.heap.size) (fun b hb _ => hb)
  have hKS := hid (fun Y (h : Below W0.heap.size W0 Y) => hKS.below (hB.trans (h.mono hB.size)))
  have Hk := hid (fun Y (h : Below W0.heap.size W0 Y) => hk.below (hB.trans (h.mono hB.size)))
  have HR := hid (fun Y (h : Below W0.heap.size W0 Y) => hR.below (hB.trans (h.mono hB.size)))
  have Hub := hid (fun Y (h : Below W0.heap.size W0 Y) => hub.below (hB.trans (h.mono hB.size)))
  have Hup := hid (fun Y (h : Below W0.heap.size W0 Y) => hup.below (hB.trans (h.mono hB.size)))
  have K3 := hid (fun Y (h : Below W0.heap.size W0 Y) => b3.below h)
  have K4 := hid (fun Y (h : Below W0.heap.size W0 Y) => b4.below h)
  have K5 := hid (fun Y (h : Below W0.heap.size W0 Y) => b5.below h)
  have K6 := hid (fun Y (h : Below W0.heap.size W0 Y) => b6.below h)
  have h5l := b5.lt
  have h6l := b6.lt
  have hc37 := mg_body hm.h (.slice Ab m.b.length cb) (.slice Ap m.ps.length cp)
  have hc3 : (m.l (.slice Ab m.b.length cb) (.slice Ap m.ps.length cp))[3]? = some (.int .i64 m.r) := rfl
  have hc4 : (m.l (.slice Ab m.b.length cb) (.slice Ap m.ps.length cp))[4]? = some (.int .i64 m.s) := rfl
  have Hcb := hid (fun Y (h : Below W0.heap.size W0 Y) => checkb7_any R m.b uk ur (.slice Ab m.b.length cb) FR (fun b => b < w.heap.size) Y (hKS.out Y h) (HR.out Y h) (Hub.out Y h) hbl)
  have Hsh := hid (fun Y (h : Below W0.heap.size W0 Y) => sum_any (.slice Ab m.b.length cb) m.b (fun b => b < w.heap.size) Y (hKS.out Y h) (Hub.out Y h) (by omega))
  have hcl := hid (fun Y (h : Rd Y (fun b => b < w.heap.size) (.slice Ab m.b.length cb) (bys m.b)) => bclone_any m.b _ _ Y h (by omega))
  obtain ⟨hS, hhS⟩ : ∃ h, h = shaF m.b := ⟨_, rfl⟩
  have HhS : Hid (hS.length = 32) := hid (by rw [hhS]; exact len_sha _)
  have hreg : grF (-1) m.r (fun (r : Nat) => decide (wriC ks V (r : Int) (m.s + 1) hS m.ps = 0)) 41 = regI (regC ks V m (regN m)) := by rw [hhS]; exact reg_gr 41 (fun r _ => rfl)
  have hbd := hid (fun (gh r : Nat) Y (h : Below W0.heap.size W0 Y) h2 h3 => bcl19_any ks V m hS gk gv gm gh r uk ur (.slice Ab m.b.length cb) (.slice Ap m.ps.length cp) (fun b => b < w.heap.size) (fun b => b < w.heap.size) Y (hKS.out Y h) hks (Hk.out Y h) hV hm (Hup.out Y h) hP hms HhS.out h2 (K3.out Y h) (K4.out Y h) (K5.out Y h) h3)
  have Hbb := hid (fun (r : Int) (A : Option Addr) (k c : Nat) => bldBb m.s r hS m.b A k c HhS.out)
  rw [← hhS] at Hsh hT
  have LhL : Hid ((bvs hS).length = 32) := hid (by rw [len_bvs]; exact HhS.out)
  have OhL : Hid (∀ v ∈ bvs hS, v.oneCell' = true) := hid (oneCell_bvs hS)
  obtain ⟨lS, hlS⟩ : ∃ l, l = bvs hS := ⟨_, rfl⟩
  rw [← hlS] at Hsh hbd Hbb LhL OhL
  obtain ⟨lm, hlm⟩ : ∃ l, l = m.l (.slice Ab m.b.length cb) (.slice Ap m.ps.length cp) := ⟨_, rfl⟩
  rw [← hlm] at hW0 K5 hc37 hc3 hc4 ⊢
  have H37 := hid hc37
  have H3 := hid hc3
  have H4 := hid hc4
  obtain ⟨CE, hCE⟩ : ∃ x, x = (chkb7 R m.b).1 := ⟨_, rfl⟩
  unfold CbQ at Hcb
  rw [← hCE] at Hcb hT
  obtain ⟨RC, hRC⟩ : ∃ x, x = regC ks V m (regN m) := ⟨_, rfl⟩
  rw [← hRC] at hreg hT
  have Htt := hid hT
  obtain ⟨f, hf⟩ : ∃ f : Nat → Bool, f = fun (r : Nat) => decide (wriC ks V (r : Int) (m.s + 1) hS m.ps = 0) := ⟨_, rfl⟩
  have Hbd : Hid (∀ (gh r : Nat) (Y : World), Below W0.heap.size W0 Y → r < 41 → Blk Y gh 32 lS → Calls Tryz.prog 62 #[.int .i64 (r : Int), .pointer (some ⟨gk, 0, none⟩), .pointer (some ⟨gv, 0, none⟩), .pointer (some ⟨gm, 0, none⟩), .pointer (some ⟨gh, 0, none⟩)] Y fun e w' => e = .returned (.bool (f r)) ∧ Below Y.heap.size Y w') := hid (fun gh r Y h1 h2 h3 => by rw [hf]; exact hbd.out gh r Y h1 h2 h3)
  rw [← hf] at hreg
  have Hreg := hid hreg
  have hw6 : w.heap.size ≤ g6 := by omega
  have hd36 : gm ≠ g6 := by omega
  clear hT hCE hRC hf hlm hlS hhS hbd hreg hk hR hub hup b3 b4 b5 b6 hc37 hc3 hc4
  unfold vw
  have b3 := K3.out W0 (Below.refl _ _)
  have c37 := (K5.out W0 (Below.refl _ _)).cellAt 37 _ H37.out
  go_enter Tryz.func31, Tryz.ntmps31
  go_wp2_with (first | (refine wp_new 51 rfl rfl zeroBd19 ?_; refine wp_stop ?_))
  first | rw [← hW0] | (simp only [List.toArray] at hW0 ⊢; rw [← hW0])
  try rw [← hg6]
  try rw [← hgm]
  try rw [← hgv]
  try rw [← hgk]
  clear hW0 hg6 hgm hgv hgk
  refine wp_go ?_
  go_wp2_with (first | refine wp_ld 40 (.tmp 3) rfl rfl rfl b3.whole Tryz.underlying40 rfl sizeKs17 ?_)
  refine (Hcb.out _ (Below.refl _ _)).mono ?_
  rintro e w1 ⟨u1, rfl, hu1, hD⟩
  obtain ⟨A1, c1, rfl⟩ := rqs_shape hu1
  clear hu1 Hcb b3 c37
  by_cases c7 : CE ≠ 0
  · have e7 : (CE != 0) = true := bne_iff_ne.2 c7
    have Ht : Hid (T = (CE, zBd)) := hid (Htt.out.trans (if_pos c7))
    clear Htt c7
    have b6 := K6.out _ hD
    have hBz := hB.trans (hD.mono hB.size)
    go_wp2_with (first | refine wp_bld 51 [] rfl rfl [] rfl bldB0 ?_ | (refine wp_st 51 (.tmp 6) (.tmp 21) rfl rfl rfl (f := 0) rfl (l := bdL zBd (.slice none 0 0)) rfl b6 (by exact Nat.le_refl _) sizeBd19 one_bd ?_; intro w9 hd9 hG9; refine wp_stop ?_))
    rw [set_all (bdL zBd (.slice none 0 0)) (bdL zBd (.slice none 0 0)) rfl] at hd9
    refine wp_go ?_
    go_wp2
    refine ret_cell1 rfl rfl rfl hd9.whole Tryz.underlying51 rfl sizeBd19 rfl ?_
    exact VaP.err Ht.out (hBz.grown hG9 hBz.size (by intro k hk; injection hk with hk; omega))
  have e7 : (CE != 0) = false := by simpa using c7
  have Htt := hid (Htt.out.trans (if_neg c7))
  have c37 := (K5.out _ hD).cellAt 37 _ H37.out
  clear c7
  go_wp2_with (fail)
  refine (Hsh.out _ hD).mono ?_
  rintro e w2 ⟨rfl, hB2⟩
  have hD := hD.trans (hB2.mono hD.size)
  clear hB2 Hsh c37
  go_wp2_with (first | (refine wp_newst 32 10 (.tmp 25) rfl rfl rfl rfl rfl rfl zero25 (l := lS) rfl (by rw [LhL.out]; rfl) (by rw [LhL.out]; exact size25) OhL.out (by simp) ?_; intro w3 b10 hB3 hs3; refine wp_stop ?_))
  have hD2 := hD.size
  have hD := hD.trans (hB3.mono hD.size)
  obtain ⟨gh, hgh⟩ : ∃ g, g = w2.heap.size := ⟨_, rfl⟩
  rw [← hgh] at b10 ⊢
  have hgh6 : gh ≠ g6 := by omega
  clear hB3 hs3 hgh hD2
  have hgr := greatest19_any 62 #[.pointer (some ⟨gk, 0, none⟩), .pointer (some ⟨gv, 0, none⟩), .pointer (some ⟨gm, 0, none⟩), .pointer (some ⟨gh, 0, none⟩)] (enters_of Tryz.func62 (by decide) rfl) (-1) m.r f w3 (fun r Y hr hY => Hbd.out gh r Y (hD.trans (hY.mono hD.size)) hr (b10.below hY))
  rw [Hreg.out] at hgr
  have Hgr := hid hgr
  have c3 := (K5.out _ hD).cellAt 3 _ H3.out
  clear hgr Hreg Hbd
  refine wp_go ?_
  go_wp2_with (fail)
  refine Hgr.out.mono ?_
  rintro e w4 ⟨rfl, hB4⟩
  have hD := hD.trans (hB4.mono hD.size)
  have b10 := b10.below hB4
  clear hB4 Hgr c3
  cases RC with
  | none =>
    have Ht : Hid (T = (12, zBd)) := hid Htt.out
    have hrI : regI none = -1 := rfl
    rw [hrI]
    clear Htt hrI
    have b6 := K6.out _ hD
    have hBz := hB.trans (hD.mono hB.size)
    go_wp2_with (first | refine wp_bld 51 [] rfl rfl [] rfl bldB0 ?_ | (refine wp_st 51 (.tmp 6) (.tmp 32) rfl rfl rfl (f := 0) rfl (l := bdL zBd (.slice none 0 0)) rfl b6 (by exact Nat.le_refl _) sizeBd19 one_bd ?_; intro w9 hd9 hG9; refine wp_stop ?_))
    rw [set_all (bdL zBd (.slice none 0 0)) (bdL zBd (.slice none 0 0)) rfl] at hd9
    refine wp_go ?_
    go_wp2
    refine ret_cell1 rfl rfl rfl hd9.whole Tryz.underlying51 rfl sizeBd19 rfl ?_
    exact VaP.err Ht.out (hBz.grown hG9 hBz.size (by intro k hk; injection hk with hk; omega))
  | some r =>
    have Ht : Hid (T = (0, ⟨m.s, true, (r : Int), hS, m.b⟩)) := hid Htt.out
    have hrI : regI (some r) = (r : Int) := rfl
    have hr1 : ((r : Int) == -1) = false := beq_eq_false_iff_ne.2 (by omega)
    rw [hrI]
    clear Htt hrI
    obtain ⟨wq, hwq⟩ : ∃ x, x = w4 := ⟨_, rfl⟩
    rw [← hwq] at hD b10 ⊢
    clear hwq
    go_upto_region 8 with (fail)
    have hq6 : g6 < wq.heap.size := (K6.out _ hD).lt
    have H4 : Hid (∀ W, Ch (fun y => y = g6) wq W → W.cell? ⟨gm, 4, none⟩ = some (.int .i64 m.s)) := hid fun W hc => ((K5.out _ hD).ch hc (fun h => hd36 h)).cellAt 4 _ H4.out
    have H37 : Hid (∀ W, Ch (fun y => y = g6) wq W → W.cell? ⟨gm, 37, none⟩ = some (.slice Ab m.b.length cb)) := hid fun W hc => ((K5.out _ hD).ch hc (fun h => hd36 h)).cellAt 37 _ H37.out
    have HHs : Hid (∀ W, Ch (fun y => y = g6) wq W → W.rangeAt gh 0 lS) := hid fun W hc => (b10.ch hc (fun h => hgh6 h)).whole
    have HB6 : Hid (∀ W, Ch nob wq W → Blk W g6 51 (bdL zBd (.slice none 0 0))) := hid fun W hc => (K6.out _ hD).below hc.below
    have HUb : Hid (∀ W, Ch (fun y => y = g6) wq W → Rd W (fun b => b < w.heap.size) (.slice Ab m.b.length cb) (bys m.b)) := hid fun W hc => (Hub.out _ hD).ch hc (fun b hb h => by have h : b = g6 := h; omega)
    clear b10
    refine wp_region_noPanic ?_
    refine wp_region_held_drew (S := Ch (fun y => y = g6) wq) (by kernel_rfl) ((Ch.refl _ _).drew) (fun hHeld => ?_)
    refine tkP 0 rfl ?_
    refine tkF 1 rfl H4.out ?_
    refine tkP 2 rfl ?_
    refine tkY 3 rfl (yieldsIf_load_mid (by rfl) 32 (.tmp 10) (by rfl) _ (0) (by rfl) _ _ (fun _ hs => HHs.out _ hs) Tryz.underlying32 rfl (by rw [LhL.out]; exact size25)) ?_
    refine tkP 4 rfl ?_
    refine tkF 5 rfl H37.out ?_
    refine rdH 6 rfl (fun K hK => ?_)
    go_simp
    refine (hcl.out _ (HUb.out _ hHeld)).mono ?_
    rintro e' w7 ⟨v7, rfl, ho7, hB7⟩
    obtain ⟨A7, c7, rfl⟩ := own_shape ho7
    have hC7 := hHeld.belowR hB7
    have hb6 := (HB6.out _ ((Ch.refl nob wq).drew)).below hB7
    refine hK.out _ _ (hC7) (fun hHeld => ?_)
    clear hK K
    try simp only [nP]
    refine tkY 7 rfl (y_bld (by rfl) 51 [(0, .tmp 34), (1, .const (.bool true)), (2, .tmp 35), (3, .tmp 36), (4, .tmp 39)] (by rfl) [(0, .int .i64 m.s), (1, .bool true), (2, .int .i64 (r : Int)), (3, .agg lS.toArray), (4, .slice A7 m.b.length c7)] (by rfl) (Hbb.out _ _ _ _)) ?_
    refine rdH 8 rfl (fun K hK => ?_)
    refine step_st 51 (.tmp 6) (.tmp 40) (by rfl) (by rfl) (by rfl) (f := 0) (by rfl) (l := bdL ⟨m.s, true, (r : Int), hS, m.b⟩ (.slice A7 m.b.length c7)) (by rfl) hb6 (by rw [len_bd HhS.out, len_bd (x := zBd) rfl]; omega) (by rw [len_bd HhS.out]; exact sizeBd19) one_bd ?_
    intro w8 hb8 hG8
    rw [set_all (bdL zBd (.slice none 0 0)) (bdL ⟨m.s, true, (r : Int), hS, m.b⟩ (.slice A7 m.b.length c7)) (by rw [len_bd (x := ⟨m.s, true, (r : Int), hS, m.b⟩) HhS.out, len_bd (x := zBd) rfl])] at hb8
    have ho8 := own_keepO ho7 (fun k hk e => hG8.block k hk (fun e2 => by injection e2 with e2; have h1 := (ho7.lt k e).1; have h2 : wq.drew.heap.size = wq.heap.size := rfl; omega))
    refine hK.out _ _ (hC7.grow hG8 (fun k hk => .inl (by injection hk with hk; exact hk.symm))) (fun hHeld => ?_)
    clear hK K
    try simp only [nP]
    refine tkP 9 rfl ?_
    refine wpAnyH_done (by kernel_rfl) ?_ _
    refine NoPanic.normal ?_
    have hBz := hB.trans (hD.mono hB.size)
    have hC := hHeld
    have hWq := Ch.below_of hBz hC (fun k (hk : k = g6) => by omega) hBz.size
    have hf8 := Rd.of_own ho8
    clear hHeld
    go_wp2
    refine ret_cell1 rfl rfl rfl hb8.whole Tryz.underlying51 rfl (by rw [len_bd HhS.out]; exact sizeBd19) rfl ?_
    rw [Ht.out]
    exact ⟨_, rfl, hf8.weak (fun b _ h => .inr (Nat.le_trans hBz.size h)), hWq⟩
end Go.Proofs.YtnhhbbjkeekneaaGreatDoor
