/- NC: several texts in one (Xo NC). -/
import Derived.Test.YtnhhbbjkeekneaaGreatDoorXn
import Derived.Deep.DeepCutAuto
import Derived.Test.YtnhhbbjkeekneaaGreatDoorVA
/- Xo: layer 19: contract of stops.Valid. -/
namespace Go.Proofs.YtnhhbbjkeekneaaGreatDoor
open Go.RowKit Go.V
theorem bin_len (ks : List (List UInt8)) (R : List Hx) (V : Vc) (m : Mg) : (binC ks R V m).2.d.length = 32 := by
  unfold binC
  repeat (first | rfl | exact len_sha _ | split)
set_option maxRecDepth 100000 in
set_option maxHeartbeats 16000000 in
theorem cvalid19_new (ks : List (List UInt8)) (R : List Hx) (V : Vc) (first : Int) (m : Mg) (uk ur ub up : Value) (F FR G H : Nat → Prop) (w : World) (hKS : KS w) (hks : KsSm ks) (hk : Rd w F uk (tx ks)) (hR : Rd w FR ur (wds hxD R)) (hV : in64w V.n ∧ V.m < 65536)
    (hm : MgIn m) (hub : Rd w G ub (bys m.b)) (hup : Rd w H up (tx m.ps)) (hbl : m.b.length ≤ 1000000) (hpl : ∀ X ∈ m.ps, X.length ≤ 1000000) (hpn : m.ps.length ≤ 1000) (hms : -1000000000000 ≤ m.s ∧ m.s ≤ 1000000000000) (_hfi : -1000000000000 ≤ first ∧ first ≤ 1000000000000) :
    Calls Tryz.prog 12 #[.agg #[uk, ur], vw V.n V.m, .int .i64 first, .agg (m.l ub up).toArray] w (VaP w nob (valC ks R V first m)) := by
  have hT : valC ks R V first m = if m.k ≠ 5 then (15, zBd) else if m.v ≠ V.n then (9, zBd) else if m.s < first - 1 then (8, zBd) else if 16 < m.ps.length then (12, zBd)
      else if first ≤ m.s ∧ (decC ks V m.s m.h m.ps).2 ≠ 0 then ((decC ks V m.s m.h m.ps).2, zBd)
      else if m.b.length = 0 then (0, ⟨m.s, false, 0, z32, []⟩)
      else binC ks R V m := rfl
  obtain ⟨T, hTT⟩ : ∃ T, T = valC ks R V first m := ⟨_, rfl⟩
  rw [← hTT] at hT ⊢
  clear hTT
  have hPB : PsBg m.ps := ⟨hpn, hpl⟩
  obtain ⟨n, M⟩ := V
  dsimp only at hT ⊢
  obtain ⟨Ab, cb, rfl⟩ := hub.shape
  obtain ⟨Ap, cp, rfl, _, _⟩ := hup.slShape
  obtain ⟨w0, hW0, b4, b5, b7, b8, hB⟩ := alloc4 w 40 24 47 51 [uk, ur] [.int .i64 n, .int .u16 (M : Int)] (m.l (.slice Ab m.b.length cb) (.slice Ap m.ps.length cp)) (bdL zBd (.slice none 0 0))
  obtain ⟨g4, hg4⟩ : ∃ g, g = w.heap.size := ⟨_, rfl⟩
  obtain ⟨g5, hg5⟩ : ∃ g, g = w.heap.size + 1 := ⟨_, rfl⟩
  obtain ⟨g7, hg7⟩ : ∃ g, g = w.heap.size + 2 := ⟨_, rfl⟩
  obtain ⟨g8, hg8⟩ : ∃ g, g = w.heap.size + 3 := ⟨_, rfl⟩
  rw [← hg4] at b4
  rw [← hg5] at b5
  rw [← hg7] at b7
  rw [← hg8] at b8
  have hw8 : w.heap.size ≤ g8 := by omega
  have hKS := hid (fun Y (h : Below w0.heap.size w0 Y) => hKS.below (hB.trans (h.mono hB.size)))
  have Hk := hid (fun Y (h : Below w0.heap.size w0 Y) => hk.below (hB.trans (h.mono hB.size)))
  have HR := hid (fun Y (h : Below w0.heap.size w0 Y) => hR.below (hB.trans (h.mono hB.size)))
  have Hub := hid (fun Y (h : Below w0.heap.size w0 Y) => hub.below (hB.trans (h.mono hB.size)))
  have Hup := hid (fun Y (h : Below w0.heap.size w0 Y) => hup.below (hB.trans (h.mono hB.size)))
  have K4 := hid (fun Y (h : Below w0.heap.size w0 Y) => b4.below h)
  have K5 := hid (fun Y (h : Below w0.heap.size w0 Y) => b5.below h)
  have K7 := hid (fun Y (h : Below w0.heap.size w0 Y) => b7.below h)
  have K8 := hid (fun Y (h : Below w0.heap.size w0 Y) => b8.below h)
  have H37 := hid (mg_body hm.h (.slice Ab m.b.length cb) (.slice Ap m.ps.length cp))
  have H38 := hid (mg_parts hm.h (.slice Ab m.b.length cb) (.slice Ap m.ps.length cp))
  have Hlh := hid (mg_hash hm.h (.slice Ab m.b.length cb) (.slice Ap m.ps.length cp))
  have H0 : Hid ((m.l (.slice Ab m.b.length cb) (.slice Ap m.ps.length cp))[0]? = some (.int .i64 m.k)) := hid rfl
  have H2 : Hid ((m.l (.slice Ab m.b.length cb) (.slice Ap m.ps.length cp))[2]? = some (.int .i64 m.v)) := hid rfl
  have H4 : Hid ((m.l (.slice Ab m.b.length cb) (.slice Ap m.ps.length cp))[4]? = some (.int .i64 m.s)) := hid rfl
  have Hl39 := hid (len_mg hm.h (.slice Ab m.b.length cb) (.slice Ap m.ps.length cp))
  have Hdc := hid (fun Y (h : Below w0.heap.size w0 Y) => cdec17_big ks ⟨n, M⟩ m.ps m.s m.h uk ur (.slice Ap m.ps.length cp) F H Y (hKS.out Y h) hks (Hk.out Y h) (Hup.out Y h) hPB hV ⟨by omega, by omega⟩ hm.h)
  have Hbi := hid (fun Y (h : Below w0.heap.size w0 Y) => bind19_any ks R ⟨n, M⟩ m uk ur (.slice Ab m.b.length cb) (.slice Ap m.ps.length cp) F FR G H Y (hKS.out Y h) hks (Hk.out Y h) (HR.out Y h) hV hm (Hub.out Y h) (Hup.out Y h) hbl hPB hms)
  have HBl := hid (bin_len ks R ⟨n, M⟩ m)
  have Hd2 := hid (dec2 ks ⟨n, M⟩ m.s m.h m.ps)
  unfold vw at Hdc Hbi ⊢
  unfold VaP at Hbi
  obtain ⟨lm, elm⟩ : ∃ l, l = m.l (.slice Ab m.b.length cb) (.slice Ap m.ps.length cp) := ⟨_, rfl⟩
  rw [← elm] at hW0 K7 H37 H38 Hlh H0 H2 H4 Hl39 Hbi ⊢
  obtain ⟨BC, hBC⟩ : ∃ x, x = binC ks R ⟨n, M⟩ m := ⟨_, rfl⟩
  rw [← hBC] at Hbi HBl hT
  obtain ⟨D1, hD1⟩ : ∃ x, x = (decC ks ⟨n, M⟩ m.s m.h m.ps).1 := ⟨_, rfl⟩
  obtain ⟨D2, hD2⟩ : ∃ x, x = (decC ks ⟨n, M⟩ m.s m.h m.ps).2 := ⟨_, rfl⟩
  rw [← hD2] at Hdc Hd2 hT
  rw [← hD1] at Hdc
  obtain ⟨lh, hlh'⟩ : ∃ l, l = bvs m.h := ⟨_, rfl⟩
  have Lh : Hid (lh.length = 32) := hid (by rw [hlh', len_bvs]; exact hm.h)
  rw [← hlh'] at Hdc Hlh
  have Htt := hid hT
  clear hT elm hBC hD1 hD2 hlh' hk hR hub hup b4 b5 b7 b8 hKS hm hPB hpl
  go_enter Tryz.func12, Tryz.ntmps12
  go_wp2_with (first | (refine wp_new 51 rfl rfl zeroBd19 ?_; refine wp_stop ?_))
  first | rw [← hW0] | (simp only [List.toArray] at hW0 ⊢; rw [← hW0])
  try rw [← hg8]
  try rw [← hg7]
  try rw [← hg5]
  try rw [← hg4]
  clear hW0 hg4 hg5 hg7 hg8
  have hD : Below w0.heap.size w0 w0 := Below.refl _ _
  have m0 := (K7.out _ hD).cellAt 0 _ H0.out
  have m2 := (K7.out _ hD).cellAt 2 _ H2.out
  have m4 := (K7.out _ hD).cellAt 4 _ H4.out
  have m38 := (K7.out _ hD).cellAt 38 _ H38.out
  have v0 := (K5.out _ hD).cellAt 0 _ rfl
  have hf1 : IntKind.i64.wrap (m.s + 1) = m.s + 1 := IntWalk.i64_in _ ⟨by omega, by omega⟩
  refine wp_go ?_
  by_cases c1 : m.k ≠ 5
  · have e1 : (m.k != 5) = true := bne_iff_ne.2 c1
    have Ht : Hid (T = (15, zBd)) := hid (Htt.out.trans (if_pos c1))
    clear Htt
    have b8 := K8.out _ hD
    have hBz := hB.trans (hD.mono hB.size)
    go_wp2_with (first | refine wp_bld 51 [] rfl rfl [] rfl bldB0 ?_ | (refine wp_st 51 (.tmp 8) (.tmp 16) rfl rfl rfl (f := 0) rfl (l := bdL zBd (.slice none 0 0)) rfl b8 (by exact Nat.le_refl _) sizeBd19 one_bd ?_; intro w9 hd9 hG9; refine wp_stop ?_))
    rw [set_all (bdL zBd (.slice none 0 0)) (bdL zBd (.slice none 0 0)) rfl] at hd9
    refine wp_go ?_
    go_wp2
    refine ret_cell1 rfl rfl rfl hd9.whole Tryz.underlying51 rfl sizeBd19 rfl ?_
    exact VaP.err Ht.out (hBz.grown hG9 hBz.size (by intro k hk; injection hk with hk; omega))
  have e1 : (m.k != 5) = false := by simpa using c1
  have Htt := hid (Htt.out.trans (if_neg c1))
  clear c1
  by_cases c2 : m.v ≠ n
  · have e2 : (m.v != n) = true := bne_iff_ne.2 c2
    have Ht : Hid (T = (9, zBd)) := hid (Htt.out.trans (if_pos c2))
    clear Htt
    have b8 := K8.out _ hD
    have hBz := hB.trans (hD.mono hB.size)
    go_wp2_with (first | refine wp_bld 51 [] rfl rfl [] rfl bldB0 ?_ | (refine wp_st 51 (.tmp 8) (.tmp 23) rfl rfl rfl (f := 0) rfl (l := bdL zBd (.slice none 0 0)) rfl b8 (by exact Nat.le_refl _) sizeBd19 one_bd ?_; intro w9 hd9 hG9; refine wp_stop ?_))
    rw [set_all (bdL zBd (.slice none 0 0)) (bdL zBd (.slice none 0 0)) rfl] at hd9
    refine wp_go ?_
    go_wp2
    refine ret_cell1 rfl rfl rfl hd9.whole Tryz.underlying51 rfl sizeBd19 rfl ?_
    exact VaP.err Ht.out (hBz.grown hG9 hBz.size (by intro k hk; injection hk with hk; omega))
  have e2 : (m.v != n) = false := by simpa using c2
  have Htt := hid (Htt.out.trans (if_neg c2))
  clear c2
  by_cases c3 : m.s < first - 1
  · have i1 : m.s < first := by omega
    have i2 : m.s + 1 < first := by omega
    have Ht : Hid (T = (8, zBd)) := hid (Htt.out.trans (if_pos c3))
    clear Htt
    have b8 := K8.out _ hD
    have hBz := hB.trans (hD.mono hB.size)
    go_wp2_with (first | refine wp_bld 51 [] rfl rfl [] rfl bldB0 ?_ | (refine wp_st 51 (.tmp 8) (.tmp 36) rfl rfl rfl (f := 0) rfl (l := bdL zBd (.slice none 0 0)) rfl b8 (by exact Nat.le_refl _) sizeBd19 one_bd ?_; intro w9 hd9 hG9; refine wp_stop ?_))
    rw [set_all (bdL zBd (.slice none 0 0)) (bdL zBd (.slice none 0 0)) rfl] at hd9
    refine wp_go ?_
    go_wp2
    refine ret_cell1 rfl rfl rfl hd9.whole Tryz.underlying51 rfl sizeBd19 rfl ?_
    exact VaP.err Ht.out (hBz.grown hG9 hBz.size (by intro k hk; injection hk with hk; omega))
  have Htt := hid (Htt.out.trans (if_neg c3))
  have i2 : ¬ m.s + 1 < first := by omega
  clear c3
  go_upto_region 5 with (fail)
  go_cut [24] (fun s24 wx => s24 = .bool false ∧ wx = w0)
  case first =>
    by_cases i1 : m.s < first
    · go_wp2
      go_meet
      exact ⟨rfl, rfl⟩
    · go_wp2
      go_meet
      exact ⟨rfl, rfl⟩
  case rest =>
    obtain ⟨rfl, hwx⟩ := hcut
    rw [hwx]
    clear hwx
    by_cases c4 : 16 < m.ps.length
    · have i4 : (m.ps.length : Int) > 16 := by omega
      have Ht : Hid (T = (12, zBd)) := hid (Htt.out.trans (if_pos c4))
      clear Htt
      have b8 := K8.out _ hD
      have hBz := hB.trans (hD.mono hB.size)
      go_wp2_with (first | refine wp_bld 51 [] rfl rfl [] rfl bldB0 ?_ | (refine wp_st 51 (.tmp 8) (.tmp 42) rfl rfl rfl (f := 0) rfl (l := bdL zBd (.slice none 0 0)) rfl b8 (by exact Nat.le_refl _) sizeBd19 one_bd ?_; intro w9 hd9 hG9; refine wp_stop ?_))
      rw [set_all (bdL zBd (.slice none 0 0)) (bdL zBd (.slice none 0 0)) rfl] at hd9
      refine wp_go ?_
      go_wp2
      refine ret_cell1 rfl rfl rfl hd9.whole Tryz.underlying51 rfl sizeBd19 rfl ?_
      exact VaP.err Ht.out (hBz.grown hG9 hBz.size (by intro k hk; injection hk with hk; omega))
    have i4 : ¬ (m.ps.length : Int) > 16 := by omega
    have Htt := hid (Htt.out.trans (if_neg c4))
    clear c4 i2 e1 e2 v0 m0 m2
    by_cases c5 : first ≤ m.s
    · have i5 : m.s ≥ first := c5
      have b4 := K4.out _ hD
      have b5 := K5.out _ hD
      have b7 := K7.out _ hD
      clear c5
      go_wp2_with (first | refine wp_ld 40 (.tmp 4) rfl rfl rfl b4.whole Tryz.underlying40 rfl sizeKs17 ?_ | refine wp_ld 24 (.tmp 5) rfl rfl rfl b5.whole Tryz.underlying24 rfl sizeVw17 ?_ | refine wp_ld 32 (.tmp 52) rfl rfl rfl (b7.range 5 _ Hlh.out) Tryz.underlying32 rfl (by rw [Lh.out]; exact size25) ?_)
      refine (Hdc.out _ hD).mono ?_
      rintro e wc ⟨rfl, hD⟩
      clear b4 b5 b7 m38 m4 Hdc
      by_cases c7 : D2 = 0
      · subst c7
        have Htt := hid (Htt.out.trans (if_neg (fun h => h.2 rfl)))
        have c37 := (K7.out _ hD).cellAt 37 _ H37.out
        by_cases c6 : m.b.length = 0
        · have e6 : ((m.b.length : Int) == 0) = true := by rw [c6]; rfl
          have Ht : Hid (T = (0, ⟨m.s, false, 0, z32, []⟩)) := hid (Htt.out.trans (if_pos c6))
          have c4 := (K7.out _ hD).cellAt 4 _ H4.out
          have b8 := K8.out _ hD
          have hBz := hB.trans (hD.mono hB.size)
          have hbb := bldB1 m.s
          clear Htt c6
          go_wp2_with (first | refine wp_bld 51 [(0, .tmp 68)] rfl rfl [(0, .int .i64 m.s)] rfl hbb ?_ | (refine wp_st 51 (.tmp 8) (.tmp 69) rfl rfl rfl (f := 0) rfl (l := bdL ⟨m.s, false, 0, z32, []⟩ (.slice none 0 0)) rfl b8 (by exact Nat.le_refl _) sizeBd19 one_bd ?_; intro w9 hd9 hG9; refine wp_stop ?_))
          rw [set_all (bdL zBd (.slice none 0 0)) (bdL ⟨m.s, false, 0, z32, []⟩ (.slice none 0 0)) rfl] at hd9
          refine wp_go ?_
          go_wp2
          refine ret_cell1 rfl rfl rfl hd9.whole Tryz.underlying51 rfl sizeBd19 rfl ?_
          rw [Ht.out]
          exact ⟨_, rfl, Rd.nil _ _, hBz.grown hG9 hBz.size (by intro k hk; injection hk with hk; omega)⟩
        · have e6 : ((m.b.length : Int) == 0) = false := beq_eq_false_iff_ne.2 (by omega)
          have Ht := hid (Htt.out.trans (if_neg c6))
          have b4 := K4.out _ hD
          have b5 := K5.out _ hD
          have b7 := K7.out _ hD
          clear Htt c6
          go_wp2_with (first | refine wp_ld 40 (.tmp 4) rfl rfl rfl b4.whole Tryz.underlying40 rfl sizeKs17 ?_ | refine wp_ld 24 (.tmp 5) rfl rfl rfl b5.whole Tryz.underlying24 rfl sizeVw17 ?_ | refine wp_ld 47 (.tmp 7) rfl rfl rfl b7.whole Tryz.underlying47 rfl (by rw [Hl39.out]; exact sizeM) ?_)
          refine (Hbi.out _ hD).mono ?_
          rintro e wq ⟨u, rfl, hu, hBq⟩
          obtain ⟨Au, cu, rfl⟩ := hu.shape
          have b8 := (K8.out _ hD).below hBq
          have hg8 := (K8.out _ hD).lt
          have hsz := hD.size
          have hD := hD.trans (hBq.mono hD.size)
          have hBz := hB.trans (hD.mono hB.size)
          have Hln : Hid (BC.2.d.length = 32) := HBl
          have Hone : Hid (∀ v ∈ bdL BC.2 (.slice Au BC.2.b.length cu), v.oneCell' = true) := hid one_bd
          have Hlen : Hid ((bdL BC.2 (.slice Au BC.2.b.length cu)).length = 36) := hid (len_bd Hln.out _)
          have hu := hu.weak (F' := fun b => w0.heap.size ≤ b ∧ b ≠ g8) (fun b _ h => by rcases h with h | h; exact h.elim; exact ⟨Nat.le_trans hsz h, fun e => by subst e; omega⟩)
          obtain ⟨lb, hlb⟩ : ∃ l, l = bdL BC.2 (.slice Au BC.2.b.length cu) := ⟨_, rfl⟩
          rw [← hlb] at Hone Hlen ⊢
          have Hlb := hid hlb
          clear b4 b5 b7 c37 hlb hBq hg8 hsz
          go_wp2_with (first | (refine wp_st 51 (.tmp 8) (.tmp 74) rfl rfl rfl (f := 0) rfl (l := lb) rfl b8 (by rw [Hlen.out]; exact Nat.le_refl _) (by rw [Hlen.out]; exact sizeBd19) Hone.out ?_; intro w9 hd9 hG9; refine wp_stop ?_))
          rw [set_all (bdL zBd (.slice none 0 0)) lb (by rw [Hlen.out]; rfl)] at hd9
          have hu := hu.keep (F' := fun b => w0.heap.size ≤ b ∧ b ≠ g8) (fun b hb hF => ⟨hF, hG9.block b hb (by intro h; injection h with h; exact hF.2 h)⟩)
          refine wp_go ?_
          go_wp2
          refine ret_cell1 rfl rfl rfl hd9.whole Tryz.underlying51 rfl (by rw [Hlen.out]; exact sizeBd19) rfl ?_
          rw [Ht.out, Hlb.out]
          exact ⟨_, rfl, hu.weak (fun b _ h => .inr (Nat.le_trans hB.size h.1)), hBz.grown hG9 hBz.size (by intro k hk; injection hk with hk; omega)⟩
      · have e7 : (D2 != 0) = true := bne_iff_ne.2 c7
        have Ht : Hid (T = (D2, zBd)) := hid (Htt.out.trans (if_pos ⟨i5, c7⟩))
        clear Htt
        have b8 := K8.out _ hD
        have hBz := hB.trans (hD.mono hB.size)
        go_wp2_with (first | refine wp_bld 51 [] rfl rfl [] rfl bldB0 ?_ | (refine wp_st 51 (.tmp 8) (.tmp 61) rfl rfl rfl (f := 0) rfl (l := bdL zBd (.slice none 0 0)) rfl b8 (by exact Nat.le_refl _) sizeBd19 one_bd ?_; intro w9 hd9 hG9; refine wp_stop ?_))
        rw [set_all (bdL zBd (.slice none 0 0)) (bdL zBd (.slice none 0 0)) rfl] at hd9
        refine wp_go ?_
        go_wp2
        refine ret_cell1 rfl rfl rfl hd9.whole Tryz.underlying51 rfl sizeBd19 rfl ?_
        exact VaP.err Ht.out (hBz.grown hG9 hBz.size (by intro k hk; injection hk with hk; omega))
    · have i5 : ¬ m.s ≥ first := c5
      have Htt := hid (Htt.out.trans (if_neg (fun h => c5 h.1)))
      clear c5
      have c37 := (K7.out _ hD).cellAt 37 _ H37.out
      by_cases c6 : m.b.length = 0
      · have e6 : ((m.b.length : Int) == 0) = true := by rw [c6]; rfl
        have Ht : Hid (T = (0, ⟨m.s, false, 0, z32, []⟩)) := hid (Htt.out.trans (if_pos c6))
        have c4 := (K7.out _ hD).cellAt 4 _ H4.out
        have b8 := K8.out _ hD
        have hBz := hB.trans (hD.mono hB.size)
        have hbb := bldB1 m.s
        clear Htt c6
        go_wp2_with (first | refine wp_bld 51 [(0, .tmp 68)] rfl rfl [(0, .int .i64 m.s)] rfl hbb ?_ | (refine wp_st 51 (.tmp 8) (.tmp 69) rfl rfl rfl (f := 0) rfl (l := bdL ⟨m.s, false, 0, z32, []⟩ (.slice none 0 0)) rfl b8 (by exact Nat.le_refl _) sizeBd19 one_bd ?_; intro w9 hd9 hG9; refine wp_stop ?_))
        rw [set_all (bdL zBd (.slice none 0 0)) (bdL ⟨m.s, false, 0, z32, []⟩ (.slice none 0 0)) rfl] at hd9
        refine wp_go ?_
        go_wp2
        refine ret_cell1 rfl rfl rfl hd9.whole Tryz.underlying51 rfl sizeBd19 rfl ?_
        rw [Ht.out]
        exact ⟨_, rfl, Rd.nil _ _, hBz.grown hG9 hBz.size (by intro k hk; injection hk with hk; omega)⟩
      · have e6 : ((m.b.length : Int) == 0) = false := beq_eq_false_iff_ne.2 (by omega)
        have Ht := hid (Htt.out.trans (if_neg c6))
        have b4 := K4.out _ hD
        have b5 := K5.out _ hD
        have b7 := K7.out _ hD
        clear Htt c6
        go_wp2_with (first | refine wp_ld 40 (.tmp 4) rfl rfl rfl b4.whole Tryz.underlying40 rfl sizeKs17 ?_ | refine wp_ld 24 (.tmp 5) rfl rfl rfl b5.whole Tryz.underlying24 rfl sizeVw17 ?_ | refine wp_ld 47 (.tmp 7) rfl rfl rfl b7.whole Tryz.underlying47 rfl (by rw [Hl39.out]; exact sizeM) ?_)
        refine (Hbi.out _ hD).mono ?_
        rintro e wq ⟨u, rfl, hu, hBq⟩
        obtain ⟨Au, cu, rfl⟩ := hu.shape
        have b8 := (K8.out _ hD).below hBq
        have hg8 := (K8.out _ hD).lt
        have hsz := hD.size
        have hD := hD.trans (hBq.mono hD.size)
        have hBz := hB.trans (hD.mono hB.size)
        have Hln : Hid (BC.2.d.length = 32) := HBl
        have Hone : Hid (∀ v ∈ bdL BC.2 (.slice Au BC.2.b.length cu), v.oneCell' = true) := hid one_bd
        have Hlen : Hid ((bdL BC.2 (.slice Au BC.2.b.length cu)).length = 36) := hid (len_bd Hln.out _)
        have hu := hu.weak (F' := fun b => w0.heap.size ≤ b ∧ b ≠ g8) (fun b _ h => by rcases h with h | h; exact h.elim; exact ⟨Nat.le_trans hsz h, fun e => by subst e; omega⟩)
        obtain ⟨lb, hlb⟩ : ∃ l, l = bdL BC.2 (.slice Au BC.2.b.length cu) := ⟨_, rfl⟩
        rw [← hlb] at Hone Hlen ⊢
        have Hlb := hid hlb
        clear b4 b5 b7 c37 hlb hBq hg8 hsz
        go_wp2_with (first | (refine wp_st 51 (.tmp 8) (.tmp 74) rfl rfl rfl (f := 0) rfl (l := lb) rfl b8 (by rw [Hlen.out]; exact Nat.le_refl _) (by rw [Hlen.out]; exact sizeBd19) Hone.out ?_; intro w9 hd9 hG9; refine wp_stop ?_))
        rw [set_all (bdL zBd (.slice none 0 0)) lb (by rw [Hlen.out]; rfl)] at hd9
        have hu := hu.keep (F' := fun b => w0.heap.size ≤ b ∧ b ≠ g8) (fun b hb hF => ⟨hF, hG9.block b hb (by intro h; injection h with h; exact hF.2 h)⟩)
        refine wp_go ?_
        go_wp2
        refine ret_cell1 rfl rfl rfl hd9.whole Tryz.underlying51 rfl (by rw [Hlen.out]; exact sizeBd19) rfl ?_
        rw [Ht.out, Hlb.out]
        exact ⟨_, rfl, hu.weak (fun b _ h => .inr (Nat.le_trans hB.size h.1)), hBz.grown hG9 hBz.size (by intro k hk; injection hk with hk; omega)⟩
theorem VaP.weak {w w' : World} {G : Nat → Prop} {T : Int × Bd} {e : Ending} (h : VaP w nob T e w') : VaP w G T e w' := by
  obtain ⟨u, h1, h2, h3⟩ := h
  exact ⟨u, h1, h2.weak (fun b _ h => h.elim (fun h => h.elim) .inr), h3⟩
theorem cvalid19_any (ks : List (List UInt8)) (R : List Hx) (V : Vc) (first : Int) (m : Mg) (uk ur ub up : Value) (F FR G H : Nat → Prop) (w : World) (hKS : KS w) (hks : KsSm ks) (hk : Rd w F uk (tx ks)) (hR : Rd w FR ur (wds hxD R)) (hV : in64w V.n ∧ V.m < 65536)
    (hm : MgIn m) (hub : Rd w G ub (bys m.b)) (hup : Rd w H up (tx m.ps)) (hbl : m.b.length ≤ 1000000) (hpl : ∀ X ∈ m.ps, X.length ≤ 1000000) (hpn : m.ps.length ≤ 1000) (hms : -1000000000000 ≤ m.s ∧ m.s ≤ 1000000000000) (hfi : -1000000000000 ≤ first ∧ first ≤ 1000000000000) :
    Calls Tryz.prog 12 #[.agg #[uk, ur], vw V.n V.m, .int .i64 first, .agg (m.l ub up).toArray] w (VaP w G (valC ks R V first m)) :=
  (cvalid19_new ks R V first m uk ur ub up F FR G H w hKS hks hk hR hV hm hub hup hbl hpl hpn hms hfi).mono (fun _ _ h => h.weak)
end Go.Proofs.YtnhhbbjkeekneaaGreatDoor
/- NC: cmp.Compare and cmp.Or at int; a literal of two ints in a region that draws its order. -/
namespace Go.V
/-- which of two numbers is the greater one -/
def cmpZ (x y : Int) : Int := if x < y then -1 else if y < x then 1 else 0
def orZ (x y : Int) : Int := if x ≠ 0 then x else y
end Go.V
namespace Go.Proofs.YtnhhbbjkeekneaaGreatDoor
open Go.RowKit Go.V
theorem nan13_any (x : Int) (w : World) : Calls Tryz.prog 69 #[.int .i64 x] w fun e w' => e = .returned (.bool false) ∧ w' = w := by
  have h : (x != x) = false := by simp
  go_enter Tryz.func69, Tryz.ntmps69
  go_wp2
  go_ret
  exact ⟨by simp, rfl⟩
theorem cmpI13_any (x y : Int) (w : World) : Calls Tryz.prog 44 #[.int .i64 x, .int .i64 y] w fun e w' => e = .returned (.int .i64 (cmpZ x y)) ∧ w' = w := by
  obtain ⟨q, hq⟩ : ∃ q, q = cmpZ x y := ⟨_, rfl⟩
  rw [← hq]
  unfold cmpZ at hq
  have Hq := hid hq
  clear hq
  go_enter Tryz.func44, Tryz.ntmps44
  go_wp2_with (fail)
  refine (nan13_any x _).mono ?_
  rintro e w1 ⟨rfl, hw1⟩
  subst hw1
  go_wp2_with (fail)
  refine (nan13_any y _).mono ?_
  rintro e w1 ⟨rfl, hw1⟩
  subst hw1
  by_cases h1 : x < y
  · have H := hid (Hq.out.trans (if_pos h1))
    clear Hq
    go_wp2
    go_ret
    exact ⟨by rw [H.out]; rfl, rfl⟩
  by_cases h2 : y < x
  · have H := hid ((Hq.out.trans (if_neg h1)).trans (if_pos h2))
    clear Hq
    go_wp2
    go_ret
    exact ⟨by rw [H.out]; rfl, rfl⟩
  have H := hid ((Hq.out.trans (if_neg h1)).trans (if_neg h2))
  clear Hq
  go_wp2
  go_ret
  exact ⟨by rw [H.out]; rfl, rfl⟩
theorem or13_any (x y : Int) (g : Nat) (t : TypeId) (c : Nat) (w : World) (hb : Blk w g t [.int .i64 x, .int .i64 y]) :
    Calls Tryz.prog 43 #[.slice (some ⟨g, 0, none⟩) 2 c] w fun e w' => e = .returned (.int .i64 (orZ x y)) ∧ w' = w := by
  have c0 := hb.cellAt 0 _ rfl
  have c1 := hb.cellAt 1 _ rfl
  obtain ⟨q, hq⟩ : ∃ q, q = orZ x y := ⟨_, rfl⟩
  rw [← hq]
  unfold orZ at hq
  have Hq := hid hq
  clear hq
  go_enter Tryz.func43, Tryz.ntmps43
  by_cases h1 : x = 0
  · have e1 : (x != 0) = false := by simp [h1]
    have H := hid (Hq.out.trans (if_neg (fun h => h h1)))
    clear Hq h1
    by_cases h2 : y = 0
    · have e2 : (y != 0) = false := by simp [h2]
      have H := hid (H.out.trans h2 : q = 0)
      clear h2
      go_wp2
      refine wp_loop_rounds 3 ?_
      rw [rounds_succ]
      go_wp2
      rw [rounds_succ]
      go_wp2
      rw [rounds_succ]
      go_wp2
      go_ret
      exact ⟨by rw [H.out]; rfl, rfl⟩
    · have e2 : (y != 0) = true := by simp [h2]
      clear h2
      go_wp2
      refine wp_loop_rounds 3 ?_
      rw [rounds_succ]
      go_wp2
      rw [rounds_succ]
      go_wp2
      go_ret
      exact ⟨by rw [H.out]; rfl, rfl⟩
  · have e1 : (x != 0) = true := by simp [h1]
    have H := hid (Hq.out.trans (if_pos h1))
    clear Hq h1
    go_wp2
    refine wp_loop_rounds 3 ?_
    rw [rounds_succ]
    go_wp2
    go_ret
    exact ⟨by rw [H.out]; rfl, rfl⟩
section
variable {P : Program} {w : World} {ops : Array Oper} {o : Oper} {a : Act} {K : Act → World → Prop} {Q : Exit → Act → World → Prop} {E : Prop}
theorem step_bs2 (t e : TypeId) (x y : Operand) (hgd : o.guard = none) (ho : o.op = .buildSlice t 2 #[(0, x), (1, y)]) {u v : Value} (hx : a.eval x = u) (hy : a.eval y = v) (hr : ∀ W : World, (Instr.buildSlice t 2 #[(0, u), (1, v)]).run P W = .ok (.slice (some ⟨W.heap.size, 0, none⟩) 2 2) (W.alloc (.cells #[u, v] e)))
    (h : ∀ g w', g = w.heap.size → Blk w' g e [u, v] → w' = w.alloc (.cells #[u, v] e) → K (a.put o.dst (.slice (some ⟨g, 0, none⟩) 2 2)) w') : if Region.wanted o (yielded ops a.tmps) = true then Oper.wp P o a w K Q else E := by
  have hw : Region.wanted o (yielded ops a.tmps) = true := by simp [Region.wanted, hgd]
  rw [if_pos hw]
  have e1 : (Array.map (fun (x : Nat × Operand) => (x.1, a.eval x.2)) #[(0, x), (1, y)]) = #[(0, u), (1, v)] := by simp [hx, hy]
  unfold Oper.wp execOp
  simp only [ho, e1, Sem.run_bind, Sem.run_pure, hr, Result.andThen_ok]
  exact h _ _ rfl (Blk.new' w e [u, v]) rfl
end
end Go.Proofs.YtnhhbbjkeekneaaGreatDoor
