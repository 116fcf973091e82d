/- JZ: layer 13: contract of votes: All. -/
import Derived.Test.YtkoncjcnpconkaaJY
namespace Go.Proofs.Ytkoncjcnpconkaa
open Go.RowKit Go.V Go.Maps
/-- a row of votes of one's own, whose votes' bytes lie beside it -/
structure OV (w : World) (base : Nat) (ov : Value) (l : List Vt) (xs : List Value) : Prop where
  own : w.ownsRow base 27 38 ov l.length xs
  x : WdX w (fun b => base ≤ b ∧ ov.ownBlock ≠ some b) vtD l xs
theorem OV.nil (w : World) (base : Nat) : OV w base (.slice none 0 0) [] [] := ⟨World.ownsRow_nil _ _ _ _, rfl⟩
theorem OV.below {w w' : World} {base : Nat} {ov : Value} {l : List Vt} {xs : List Value} (h : OV w base ov l xs) (hB : Below w.heap.size w w') : OV w' base ov l xs :=
  ⟨own_bel h.own hB, h.x.keep (fun b hb hf => ⟨hf, hB.block b hb⟩)⟩
theorem OV.push {w w' : World} {base : Nat} {ov v' : Value} {l : List Vt} {xs us : List Value} {m : Vt} (h : OV w base ov l xs) (hu : WdEl w (fun b => base ≤ b ∧ ov.ownBlock ≠ some b) vtD m us)
    (ho : w'.ownsRow base 27 38 v' (l.length + 1) (xs ++ us)) (hG : w.grownBy w' ov.ownBlock) (hd : v'.ownBlock = ov.ownBlock ∨ ∃ g, v'.ownBlock = some g ∧ w.heap.size ≤ g) : OV w' base v' (l ++ [m]) (xs ++ us) := by
  have hk : ∀ b, b < w.heap.size → base ≤ b ∧ ov.ownBlock ≠ some b → (base ≤ b ∧ v'.ownBlock ≠ some b) ∧ w'.heap[b]? = w.heap[b]? := fun b hb h1 =>
    ⟨⟨h1.1, fun e2 => hd.elim (fun hd => h1.2 (by rw [← hd]; exact e2)) (fun ⟨g, hd, hg⟩ => by rw [hd] at e2; injection e2 with e2; omega)⟩, hG.block b hb (fun e2 => h1.2 e2.symm)⟩
  exact ⟨by rw [List.length_append]; exact ho, WdX.snoc (hu.keep hk) (h.x.keep hk)⟩
theorem OV.rd {w : World} {base : Nat} {ov : Value} {l : List Vt} {xs : List Value} (h : OV w base ov l xs) : Rd w (fun b => base ≤ b) ov (wds vtD l) := wds_own h.own h.x (fun _ h => h.1) (fun b hb => (h.own.lt b hb).1)
theorem step_appW13 {P : Program} {w : World} {ops : Array Oper} {o : Oper} {a : Act} {Q : Exit → Act → World → Prop} {K : Act → World → Prop} {E : Prop} (s x : Operand) {t e : TypeId} {z : List Value} {sz by_ : Nat} (ht : SlW P t e z sz by_) (hgd : o.guard = none)
    (ho : o.op = .call { callee := .builtin .append, args := #[s, x], argTypes := #[t, t] }) {us : List Value} (hu : us.length = sz) (h1 : ∀ u ∈ us, u.oneCell' = true)
    {base : Nat} {v : Value} {n : Nat} {xs : List Value} (hs : a.eval s = v) (hown : w.ownsRow base e sz v n xs) (hx : a.eval x = .slice (some ⟨w.heap.size, 0, none⟩) 1 1)
    (h63 : n + 1 ≤ maxLen) (hb : (n + 1) * by_ ≤ 140737488355328) (hbase : base ≤ w.heap.size)
    (h : ∀ v' w', w'.ownsRow base e sz v' (n + 1) (xs ++ us) → w.grownBy w' v.ownBlock → (v'.ownBlock = v.ownBlock ∨ ∃ g, v'.ownBlock = some g ∧ w.heap.size ≤ g) → K (a.put o.dst v') w') : if Region.wanted o (yielded ops a.tmps) = true then Oper.wp P o a (w.alloc (.cells us.toArray e)) K Q else E := by
  have hw : Region.wanted o (yielded ops a.tmps) = true := by simp [Region.wanted, hgd]
  rw [if_pos hw]
  obtain ⟨v', w', r1, r2, r3, r4⟩ := run_append_wide (P := P) (w := w) base (ty := o.type) ht v n xs us hown hu h1 h63 hb hbase
  unfold Oper.wp execOp
  simp only [ho, resolve, invoke, builtin, Sem.run_bind, Sem.run_pure, Result.andThen_ok, List.map_toArray, List.map_cons, List.map_nil, hs, hx, r1]
  exact h v' w' r2 r3 r4
theorem own_ne13 {w : World} {b1 b2 s1 s2 n1 n2 : Nat} {e1 e2 : TypeId} {v1 v2 : Value} {xs1 xs2 : List Value} (h1 : w.ownsRow b1 e1 s1 v1 n1 xs1) (h2 : w.ownsRow b2 e2 s2 v2 n2 xs2) (hne : e1 ≠ e2) (k : Nat) (hk : v1.ownBlock = some k) : v2.ownBlock ≠ some k := by
  intro hk2
  rcases h1.2 with ⟨rfl, _⟩ | ⟨g, cap, cur, rfl, _, hb, _⟩
  · simp [Value.ownBlock] at hk
  · rcases h2.2 with ⟨rfl, _⟩ | ⟨g', cap', cur', rfl, _, hb', _⟩
    · simp [Value.ownBlock] at hk2
    · have e1 : g = k := by simpa [Value.ownBlock] using hk
      have e2 : g' = k := by simpa [Value.ownBlock] using hk2
      rw [e1] at hb
      rw [e2, hb] at hb'
      injection hb' with hb'
      injection hb' with _ h _
      exact hne h
theorem len_allF (l : List Vt) : (allF l).length ≤ 2600 := by
  rw [allF_pre, List.length_append, List.length_append]
  have := len_preF l
  have := len_wrotesF l 61
  have := opt_len (accF l)
  omega
/-- what was kept of one kind, in a list -/
def oneF (a : Vt) : List Vt := if a.k = 0 then [] else [a]
theorem oneF_0 {a : Vt} (h : a.k = 0) : oneF a = [] := if_pos h
theorem oneF_1 {a : Vt} (h : a.k ≠ 0) : oneF a = [a] := if_neg h
theorem oneF_len (a : Vt) : (oneF a).length ≤ 1 := by unfold oneF; split <;> simp
theorem acc_one {A : Vt} {B : List Vt} {S : Int} {L : List (K2 × Vt)} (h : BkR B S L A) : (accQ S B).toList = oneF A := by
  rw [wr_tail h]
  by_cases hk : A.k = 0
  · rw [if_pos hk, oneF_0 hk]; rfl
  · rw [if_neg hk, oneF_1 hk]; rfl
theorem pre_one {B : List Vt} (hf : ∀ m ∈ B, partsV m = true) : preF B = oneF (enF13 B) := by
  unfold preF
  rw [ent_pre hf]
  by_cases hk : (enF13 B).k = 0
  · rw [if_neg (fun h => h hk), oneF_0 hk]
  · rw [if_pos hk, oneF_1 hk]
set_option maxRecDepth 100000 in
set_option maxHeartbeats 16000000 in
theorem ball13_any (v : Value) (M F : Nat → Prop) (B : List Vt) (w : World) (h : BX w v M F B) :
    Calls Try.prog 20 #[v] w fun e w' => ∃ vo, e = .returned vo ∧ Rd w' (fun b => w.heap.size ≤ b) vo (wds vtD (allF B)) ∧ Below w.heap.size w w' := by
  obtain ⟨p, b, eb, ep, ab, ap, L, A, rfl, hbm, hM, hall, hbl⟩ := h
  have hpt : ∀ m ∈ B, partsV m = true := fun m hm => err_parts (hall m hm)
  have hal := allF_pre B
  have hlen := len_allF B
  have hws := fun ss hp => wrotes_sorted (ss := ss) hbm.rel hpt hbm.map.uq hp
  have hsmE := ent_sm hall
  have hsmA := acc_sm hbm.rel hall
  have hsmD : ∀ x d, findS L x = some d → VtSm d := fun x d hd => find_sm hbm.rel hall hd
  have hLl := Nat.le_trans hbm.len hbl
  rw [pre_one hpt, show accF B = accQ (slotF B) B from rfl, acc_one hbm.rel] at hal
  obtain ⟨Al, hAl⟩ : ∃ Al, Al = allF B := ⟨_, rfl⟩
  obtain ⟨W61, hW61⟩ : ∃ W61, W61 = wrotesF B 61 := ⟨_, rfl⟩
  obtain ⟨E, hE⟩ : ∃ E, E = enF13 B := ⟨_, rfl⟩
  obtain ⟨S, hS⟩ : ∃ S, S = slotF B := ⟨_, rfl⟩
  rw [← hE] at hbm hsmE hal
  rw [← hS] at hbm
  rw [← hAl] at hlen hal ⊢
  rw [← hW61] at hal hws
  have Hws := hid hws
  have HAl := hid hal
  have HsmD := hid hsmD
  have hcaE := fun W => came13_any E eb ep W
  have hcpE := fun W h1 h2 => copied13_any E eb ep F F W hsmE h1 h2
  have hcaA := fun W => came13_any A ab ap W
  have hcpA := fun W h1 h2 => copied13_any A ab ap F F W hsmA h1 h2
  unfold Vt.val at hcaE hcpE hcaA hcpA
  obtain ⟨AE, ce, rfl⟩ := hbm.eb.shape
  obtain ⟨AF, cf, rfl, _, _⟩ := hbm.ep.slShape
  obtain ⟨AA, ca, rfl⟩ := hbm.ab.shape
  obtain ⟨AC, cc, rfl, _, _⟩ := hbm.ap.slShape
  obtain ⟨qE, hqE⟩ : ∃ q, q = (E.k != 0) := ⟨_, rfl⟩
  obtain ⟨qA, hqA⟩ : ∃ q, q = (A.k != 0) := ⟨_, rfl⟩
  rw [← hqE] at hcaE
  rw [← hqA] at hcaA
  have HcaE := hid hcaE
  have HcpE := hid hcpE
  have HcaA := hid hcaA
  have HcpA := hid hcpA
  have HqE := hid hqE
  have HqA := hid hqA
  obtain ⟨P, hP⟩ : ∃ P, P = oneF E := ⟨_, rfl⟩
  rw [← hP] at hal HAl
  have HP := hid hP
  have hWl : (P ++ W61).length ≤ 2600 := by rw [hal, List.length_append] at hlen; omega
  clear hP
  have hFp : ∀ x, F x → x ≠ p ∧ x ≠ b ∧ x < w.heap.size := hbm.f
  have hpl := hbm.blk.lt
  have hmlt := hbm.map.lt
  clear hal hws hsmE hsmA hsmD hE hS hAl hW61 hqE hqA hcaE hcpE hcaA hcpA hpt hall hbl hM
  go_enter Try.func20, Try.ntmps20
  go_wp2_with (first | refine wp_ld 27 (.tmp 10) rfl rfl rfl (hbm.blk.range 0 _ bk_atE) Try.underlying27 rfl (by rw [len_vt]; exact sizeVt) ?_)
  refine (HcaE.out _).mono ?_
  rintro e' w1 ⟨rfl, hB1⟩
  go_upto_if 12 with (fail)
  go_cut [3] (fun ov wx => ∃ xs, OV wx w.heap.size ov P xs ∧ Below w.heap.size w wx)
  case first =>
    have hb1 := hbm.below hB1
    by_cases hk : E.k = 0
    · have hq : qE = false := by rw [HqE.out, hk]; rfl
      have hp : P = [] := HP.out.trans (oneF_0 hk)
      clear hk
      subst hp
      subst hq
      clear hb1
      go_wp2
      go_meet
      exact ⟨[], OV.nil _ _, hB1⟩
    · have hq : qE = true := by rw [HqE.out]; exact bne_iff_ne.2 hk
      have hp : P = [E] := HP.out.trans (oneF_1 hk)
      clear hk
      subst hp
      subst hq
      go_wp2_with (first | refine wp_ld 27 (.tmp 16) rfl rfl rfl (hb1.blk.range 0 _ bk_atE) Try.underlying27 rfl (by rw [len_vt]; exact sizeVt) ?_)
      refine (HcpE.out _ hb1.eb hb1.ep).mono ?_
      rintro e' w2 ⟨vb, vp, rfl, hr2, hr3, hB2⟩
      obtain ⟨A4, c4, rfl⟩ := hr2.shape
      obtain ⟨A5, c5, rfl, _, _⟩ := hr3.slShape
      have hBo := hB1.trans (hB2.mono hB1.size)
      have hro : w2.ownsRow w.heap.size 27 38 (.slice none 0 0) 0 [] := World.ownsRow_nil _ _ _ _
      have hel : WdEl w2 (fun b => w.heap.size ≤ b ∧ (Value.slice none 0 0).ownBlock ≠ some b) vtD E (E.l (.slice A4 E.b.length c4) (.slice A5 E.ps.length c5)) := vt_mk (hr2.weak (fun x _ h => ⟨Nat.le_trans hB1.size h, by simp [Value.ownBlock]⟩)) (hr3.weak (fun x _ h => ⟨Nat.le_trans hB1.size h, by simp [Value.ownBlock]⟩))
      clear hr2 hr3 hB2 hb1
      go_wp2_with (first | (refine wp_pushW (.tmp 13) (.tmp 18) 19 slV13 rfl rfl rfl rfl rfl (us := E.l (.slice A4 E.b.length c4) (.slice A5 E.ps.length c5)) rfl (len_vt _ _ _) one_vt (by simp) rfl hro (by simp only [maxLen]; omega) (by omega) hBo.size ?_; intro v4 w4 ho4 hG4 hd4; refine wp_stop ?_))
      have hov := (OV.nil w2 w.heap.size).push hel ho4 hG4 hd4
      have hB4 := hBo.grown hG4 hBo.size (fun k hk => (hro.lt k hk).1)
      have Hov := hid hov
      clear hov hel ho4 hG4 hd4 hro
      refine wp_go ?_
      go_wp2
      go_meet
      exact ⟨_, Hov.out, hB4⟩
  case rest =>
  clear HP HqE HcaE HcpE
  obtain ⟨xs, hov, hBc⟩ := hcut
  have hbc := hbm.below hBc
  have c39 := hbc.blk.cellAt 39 _ (bk_at39 (len_vt _ _ _))
  obtain ⟨Au, cu, rfl⟩ : ∃ A c, u3 = .slice A P.length c := by
    rcases hov.own.2 with ⟨h, h0⟩ | ⟨g, cap, cur, h, _⟩
    · exact ⟨none, 0, by rw [h, h0]⟩
    · exact ⟨some ⟨g, 0, none⟩, cap, h⟩
  clear hbm
  go_wp2_with (fail)
  refine (keys13_any (some b) _).mono ?_
  rintro e' w2 ⟨rfl, hw2⟩
  have hbx : Blk w2 wc.heap.size 64 [.map (some b)] := by rw [hw2]; exact Blk.new' wc _ _
  have hB2 : Below wc.heap.size wc w2 := by rw [hw2]; exact (Below.refl _ _).alloc (Nat.le_refl _) _
  obtain ⟨Bm, hBm⟩ : ∃ Bm, Bm = wc.heap.size := ⟨_, rfl⟩
  rw [← hBm] at hbx ⊢
  clear hw2 c39
  have hb2 := hbc.below hB2
  have hov2 := hov.below hB2
  have hB2w := hBc.trans (hB2.mono hBc.size)
  have hso := sorted13 Bm b L (by omega) w2 hbx.lt (hbx.cellAt 0 _ rfl) (hb2.map.keys nob)
  have Hso := hid hso
  clear hso hbc hov hBm hbx hB2 hBc
  go_wp2_with (fail)
  refine Hso.out.mono ?_
  rintro e' w4 ⟨kv, ss, rfl, hps, hro4, hB4⟩
  obtain ⟨hW1, hW2⟩ := Hws.out ss hps
  have hsl : (K2.sorted ss).length = ss.length := by unfold K2.sorted; exact List.length_mergeSort _
  have hsl2 : ss.length ≤ 100001 := by rw [hps.length_eq, List.length_map]; exact hLl
  obtain ⟨KS, hKS⟩ : ∃ KS, KS = K2.sorted ss := ⟨_, rfl⟩
  rw [← hKS] at hro4 hW1 hW2 hsl
  rw [← hsl] at hro4 hsl2
  have HW1 := hid hW1
  have HW2 := hid hW2
  have hb4 := hb2.below hB4
  have hov4 := hov2.below hB4
  have hB4w := hB2w.trans (hB4.mono hB2w.size)
  have hrk := own_weak (base' := 0) hro4 (Nat.zero_le _)
  obtain ⟨AK, ck, rfl⟩ : ∃ A c, kv = .slice A KS.length c := by
    rcases hro4.2 with ⟨h, h0⟩ | ⟨g, cap, cur, h, _⟩
    · exact ⟨none, 0, by rw [h, h0]⟩
    · exact ⟨some ⟨g, 0, none⟩, cap, h⟩
  have hKP : (P ++ KS.map fun x => (findS L x).getD zV).length ≤ 2600 := by rw [hW1]; exact hWl
  clear Hso Hws hW1 hW2 hKS hps hro4 hB4 hb2 hov2 hB2w hsl hWl
  go_wp2
  go_loopw [3, 28] (fun ov iv wr => ∃ i : Nat, i ≤ KS.length ∧ iv = .int .i64 i ∧ Hid (∃ xs, OV wr w.heap.size ov (P ++ (KS.take i).map fun x => (findS L x).getD zV) xs) ∧ wr.ownsRow 0 78 2 (.slice AK KS.length ck) KS.length (K2.rows KS) ∧ BkM wr p b F B E S L A (.slice AE E.b.length ce) (.slice AF E.ps.length cf) (.slice AA A.b.length ca) (.slice AC A.ps.length cc) ∧ Below w.heap.size w wr) (fun _ i _ => KS.length - (intOf i).toNat)
  case atStart => exact ⟨0, Nat.zero_le _, rfl, ⟨xs, by rw [List.take_zero, List.map_nil, List.append_nil]; exact hov4⟩, hrk, hb4, hB4w⟩
  case round =>
    clear hov4 hrk hb4 hB4w
    obtain ⟨i, hi, rfl, hovx, hrk, hbr, hBr⟩ := hrel
    obtain ⟨xs, hov⟩ := hovx.out
    clear hovx
    by_cases hlt : i < KS.length
    · obtain ⟨x, hx⟩ : ∃ x, KS[i]? = some x := ⟨_, List.getElem?_eq_getElem hlt⟩
      have hI : (i : Int) < (KS.length : Int) := by omega
      have hxm := HW2.out x (List.mem_of_getElem? hx)
      obtain ⟨d, hxs⟩ : ∃ d, findS L x = some d := by
        cases hq : findS L x with
        | none => rw [hq] at hxm; cases hxm
        | some d => exact ⟨d, rfl⟩
      have hdsm := HsmD.out x d hxs
      obtain ⟨hr0, hr1⟩ := rows_at KS i x hx
      obtain ⟨gk, cK, hgk, _, _, hrg⟩ := ownW_range hrk (by omega)
      injection hgk with hgk hgk1 hgk2
      clear hgk1 hgk2
      subst hgk
      have hrx : wr.rangeAt gk (0 + i * 2) [.int .i64 x.1.1, .int .i64 x.1.2] := range_part hrg (fun j v hj => by
        match j, hj with
        | 0, hj => simp at hj; subst hj; rw [show 0 + i * 2 + 0 = 2 * i from by omega]; exact hr0
        | 1, hj => simp at hj; subst hj; rw [show 0 + i * 2 + 1 = 2 * i + 1 from by omega]; exact hr1
        | j + 2, hj => simp at hj)
      have Hnx : Hid (P ++ ((KS.take (i + 1)).map fun x => (findS L x).getD zV) = (P ++ (KS.take i).map fun x => (findS L x).getD zV) ++ [d]) := by
        show _ = _
        rw [List.take_add_one, hx, Option.toList_some, List.map_append, List.map_singleton, hxs, List.append_assoc]
        rfl
      have hQl : (P ++ (KS.take i).map fun x => (findS L x).getD zV).length ≤ 2600 := by
        rw [List.length_append, List.length_map, List.length_take]
        rw [List.length_append, List.length_map] at hKP
        omega
      obtain ⟨Q, hQ⟩ : ∃ Q, Q = P ++ (KS.take i).map fun x => (findS L x).getD zV := ⟨_, rfl⟩
      rw [← hQ] at hov hQl Hnx
      clear hQ hx hxm hr0 hr1 hrg
      go_wp2_with (first | refine wp_ixa 75 (.tmp 26) (.tmp 28) rfl rfl rfl rfl Try.underlying75 hlt sizeRg ?_ | refine wp_ld 78 (.tmp 30) rfl rfl rfl hrx Try.underlying78 rfl sizeRg ?_ | (refine wp_newst 78 5 (.tmp 31) rfl rfl rfl rfl rfl rfl zeroRg (l := [.int .i64 x.1.1, .int .i64 x.1.2]) rfl rfl sizeRg (by simp [Value.oneCell']) (by simp [Act.put]) ?_; intro w6 hK6 hB6 hs6; refine wp_stop ?_))
      have hov6 := hov.below hB6
      have hrk6 := own_bel hrk hB6
      have hbr6 := hbr.below hB6
      have hBr6 := hBr.trans (hB6.mono hBr.size)
      obtain ⟨gq, hgq⟩ : ∃ g, g = wr.heap.size := ⟨_, rfl⟩
      rw [← hgq] at hK6 ⊢
      clear hgq hs6 hrx hov hrk hbr hBr hB6
      refine wp_go ?_
      go_upto_region 9 with (fail)
      obtain ⟨wq, hwq⟩ : ∃ wq, wq = w6 := ⟨_, rfl⟩
      rw [← hwq] at hov6 hrk6 hbr6 hBr6 hK6 ⊢
      clear hwq
      have ho := hov6.own
      have hx0 := hov6.x
      have hBq := hBr6
      have hnp : ∀ y, y < w.heap.size → ¬ u3.ownBlock = some y := fun y hy e => by have := (ho.lt y e).1; omega
      have HC : Hid (∀ W, Ch (fun x => u3.ownBlock = some x) wq W → W.cell? ⟨p, 39, none⟩ = some (.map (some b))) := fun W hc => (hbr6.blk.ch hc (hnp p hpl)).cellAt 39 _ (bk_at39 (len_vt _ _ _))
      have HK : Hid (∀ W, Ch (fun x => u3.ownBlock = some x) wq W → W.rangeAt gq 0 [.int .i64 x.1.1, .int .i64 x.1.2]) := fun W hc => (hK6.ch hc (fun e => blk_row hK6 ho (by decide) e.symm)).whole
      have HM : Hid (∀ W, Ch (fun x => u3.ownBlock = some x) wq W → MS wrM W F b L) := fun W hc => hbr6.map.keep (hc.block b hbr6.map.lt (hnp b hmlt)) (fun y hy hF => ⟨hF, hc.block y hy (hnp y (hFp y hF).2.2)⟩)
      refine wp_region_noPanic ?_
      refine wp_region_held_drew (S := Ch (fun x => u3.ownBlock = some x) wq) (by kernel_rfl) ((Ch.refl _ _).drew) (fun hHeld => ?_)
      refine wpAnyH_take (i := 0) (oi := ⟨some 32, _, _, _, _, none⟩) (v := ?_) rfl (by kernel_rfl) (by kernel_rfl) (by kernel_rfl) (fun _ _ _ h => h) (Or.inl ⟨by rfl, ?_⟩) (by assumption) ?_
      rotate_left
      · intro w hSw; go_simp; try with_reducible rfl
      try simp only [Act.put, List.setIfInBounds_toArray, List.set_cons_zero, List.set_cons_succ]
      refine wpAnyH_take (i := 1) (oi := ⟨some 33, _, _, _, _, none⟩) (v := ?_) rfl (by kernel_rfl) (by kernel_rfl) (by kernel_rfl) (fun _ _ _ h => h) (Or.inl ⟨by rfl, ?_⟩) (by assumption) ?_
      rotate_left
      · intro w hSw; go_simp; try with_reducible rfl
      try simp only [Act.put, List.setIfInBounds_toArray, List.set_cons_zero, List.set_cons_succ]
      refine wpAnyH_take (i := 2) (oi := ⟨some 34, _, _, _, _, none⟩) (v := ?_) rfl (by kernel_rfl) (by kernel_rfl) (by kernel_rfl) (fun _ _ _ h => h) (Or.inl ⟨by rfl, ?_⟩) (by assumption) ?_
      rotate_left
      · intro w hSw; go_simp; try with_reducible rfl
      try simp only [Act.put, List.setIfInBounds_toArray, List.set_cons_zero, List.set_cons_succ]
      refine wpAnyH_take (i := 3) (oi := ⟨some 35, _, _, _, _, none⟩) (v := ?_) rfl (by kernel_rfl) (by kernel_rfl) (by kernel_rfl) (fun _ _ _ h => h) (Or.inl ⟨by rfl, ?_⟩) (by assumption) ?_
      rotate_left
      · intro w hSw; go_simp; try with_reducible rfl
      try simp only [Act.put, List.setIfInBounds_toArray, List.set_cons_zero, List.set_cons_succ]
      refine wpAnyH_take (i := 4) (oi := ⟨some 36, _, _, _, _, none⟩) (v := ?_) rfl (by kernel_rfl) (by kernel_rfl) (by kernel_rfl) (fun _ _ _ h => h) (Or.inl ⟨by rfl, ?_⟩) (by assumption) ?_
      rotate_left
      · intro w hSw; have hcw := HC.out w hSw; go_simp; try with_reducible rfl
      try simp only [Act.put, List.setIfInBounds_toArray, List.set_cons_zero, List.set_cons_succ]
      refine wpAnyH_take (i := 5) (oi := ⟨some 37, .load 78 (.tmp 5), _, _, _, none⟩) (v := _) rfl (by kernel_rfl) (by kernel_rfl) (by kernel_rfl) (fun _ _ _ h => h) (yieldsIf_load_mid (by rfl) 78 (.tmp 5) (by rfl) _ (0) (by rfl) _ _ (fun _ hs => HK.out _ hs) Try.underlying78 rfl (sizeRg)) (by assumption) ?_
      try simp only [Act.put, List.setIfInBounds_toArray, List.set_cons_zero, List.set_cons_succ]
      refine wpAnyH_ready (rs := [6]) (by kernel_rfl) (by simp) ?_
      refine AllReadyH.cons (o := ⟨some 38, .lookup _ _ _ _, _, _, _, none⟩) rfl (fun K hK => ?_) AllReadyH.nil
      refine step_lookS 64 27 (.tmp 36) (.tmp 37) false (by rfl) (by rfl) Try.underlying64 (zVote _) (by rfl) (HM.out _ hHeld) (s := x) (by rfl) ?_ ?_
      · intro h; rw [hxs] at h; cases h
      intro d2 v hd2 hv2
      rw [hxs] at hd2
      injection hd2 with hd2
      subst hd2
      rw [if_neg (by simp)]
      obtain ⟨cs2, rfl, hel2⟩ := hv2
      obtain ⟨ub2, up2, rfl, hub2, hup2⟩ := vt_open hel2
      obtain ⟨A6, c6, rfl⟩ := hub2.shape
      obtain ⟨A7, c7, rfl, _, _⟩ := hup2.slShape
      refine hK.out _ _ (hHeld) (fun hHeld => ?_)
      clear hK K
      try simp only [Act.put, List.setIfInBounds_toArray, List.set_cons_zero, List.set_cons_succ]
      refine wpAnyH_ready (rs := [7]) (by kernel_rfl) (by simp) ?_
      refine AllReadyH.cons (o := ⟨some 39, _, _, _, _, none⟩) rfl (fun K hK => ?_) AllReadyH.nil
      go_simp
      refine (copied13_any d (.slice A6 d.b.length c6) (.slice A7 d.ps.length c7) F F _ hdsm hub2 hup2).mono ?_
      rintro e' w7 ⟨vb, vp, rfl, hr7, hr8, hB7⟩
      obtain ⟨A8, c8, rfl⟩ := hr7.shape
      obtain ⟨A9, c9, rfl, _, _⟩ := hr8.slShape
      have hs7 := hHeld.size
      have hC7 := hHeld.belowR hB7
      have ho7 := own_bel (own_keepO ho (w' := wq.drew) (fun k _ _ => rfl)) hB7
      have hx7 := (hx0.keep (w := wq) (w' := wq.drew) (F' := fun b => w.heap.size ≤ b ∧ u3.ownBlock ≠ some b) (fun b hb hF => ⟨hF, rfl⟩)).keep (w' := w7) (F' := fun b => w.heap.size ≤ b ∧ u3.ownBlock ≠ some b) (fun b hb hF => ⟨hF, hB7.block b hb⟩)
      refine hK.out _ _ (hC7) (fun hHeld => ?_)
      clear hK K
      try simp only [Act.put, List.setIfInBounds_toArray, List.set_cons_zero, List.set_cons_succ]
      refine wpAnyH_ready (rs := [8]) (by kernel_rfl) (by simp) ?_
      refine AllReadyH.cons (o := ⟨some 40, .buildSlice _ _ _, _, _, _, none⟩) rfl (fun K hK => ?_) AllReadyH.nil
      refine step_bsW (.tmp 39) slV13 (by rfl) (by rfl) (us := d.l (.slice A8 d.b.length c8) (.slice A9 d.ps.length c9)) (by rfl) (len_vt _ _ _) ?_
      refine hK.out _ _ (hC7.grow (World.grownBy_alloc _ _ none) (fun k hk => by cases hk)) (fun hHeld => ?_)
      clear hK K
      try simp only [Act.put, List.setIfInBounds_toArray, List.set_cons_zero, List.set_cons_succ]
      refine wpAnyH_ready (rs := [9]) (by kernel_rfl) (by simp) ?_
      refine AllReadyH.cons (o := ⟨some 41, _, _, _, _, none⟩) rfl (fun K hK => ?_) AllReadyH.nil
      refine step_appW13 (.tmp 32) (.tmp 40) slV13 (by rfl) (by rfl) (us := d.l (.slice A8 d.b.length c8) (.slice A9 d.ps.length c9)) (len_vt _ _ _) one_vt (by rfl) ho7 (by rfl) (by simp only [maxLen]; omega) (by omega) (Nat.le_trans hBq.size hC7.size) ?_
      intro v9 w9 ho9 hG9 hd9
      refine hK.out _ _ (hC7.grow hG9 (fun k hk => .inl hk)) (fun hHeld => ?_)
      clear hK K
      try simp only [Act.put, List.setIfInBounds_toArray, List.set_cons_zero, List.set_cons_succ]
      refine wpAnyH_take (i := 10) (oi := ⟨some 3, _, _, _, _, none⟩) (v := ?_) rfl (by kernel_rfl) (by kernel_rfl) (by kernel_rfl) (fun _ _ _ h => h) (Or.inl ⟨by rfl, ?_⟩) (by assumption) ?_
      rotate_left
      · intro w hSw; go_simp; try with_reducible rfl
      try simp only [Act.put, List.setIfInBounds_toArray, List.set_cons_zero, List.set_cons_succ]
      refine wpAnyH_done (by kernel_rfl) ?_ _
      refine NoPanic.normal ?_
      have hel : WdEl w7 (fun b => w.heap.size ≤ b ∧ u3.ownBlock ≠ some b) vtD d (d.l (.slice A8 d.b.length c8) (.slice A9 d.ps.length c9)) :=
        vt_mk (hr7.weak (fun y _ h => ⟨Nat.le_trans hBq.size h, fun e => by have := (ho.lt y e).2; have h' : wq.heap.size ≤ y := h; omega⟩)) (hr8.weak (fun y _ h => ⟨Nat.le_trans hBq.size h, fun e => by have := (ho.lt y e).2; have h' : wq.heap.size ≤ y := h; omega⟩))
      have hov9 := (OV.mk ho7 hx7).push hel ho9 hG9 hd9
      rw [← Hnx.out] at hov9
      have hb9 := hbr6.keep (w' := w9) (fun y hy h => hHeld.block y hy (hnp y (by rcases h with rfl | rfl | h; exact hpl; exact hmlt; exact (hFp y h).2.2))) hHeld.size
      have hrk9 := own_keepO hrk6 (w' := w9) (fun k hk e => hHeld.block k hk (own_ne13 hrk6 ho (by decide) k e))
      have hB9 : Below w.heap.size w w9 := Ch.below_of hBr6 hHeld (fun k hk => (ho.lt k hk).1) hBr6.size
      have Hov9 := hid hov9
      have Hb9 := hid hb9
      have Hrk9 := hid hrk9
      have HB9 := hid hB9
      clear hel hov9 hb9 hrk9 hB9 HC HK HM hHeld hov6 hrk6 hbr6 hBr6 hK6 ho hx0 hBq hnp ho7 hx7 hr7 hr8 hB7 hC7 ho9 hG9 hd9 hel2 hub2 hup2
      go_wp2
      go_roundw
      case rel => exact ⟨i + 1, by omega, by go_num, ⟨_, Hov9.out⟩, Hrk9.out, Hb9.out, HB9.out⟩
      case measure => simp [intOf]; omega
    · have hi' : i = KS.length := by omega
      subst hi'
      have hI : ¬ (KS.length : Int) < (KS.length : Int) := by omega
      rw [List.take_length, HW1.out] at hov
      have hlA := congrArg List.length HAl.out
      rw [List.length_append] at hlA
      clear hrk hKP
      go_wp2_with (first | refine wp_ld 27 (.tmp 45) rfl rfl rfl (hbr.blk.range 40 _ (bk_atA (len_vt _ _ _))) Try.underlying27 rfl (by rw [len_vt]; exact sizeVt) ?_)
      refine (HcaA.out _).mono ?_
      rintro e' w5 ⟨rfl, hB5⟩
      have hov5 := hov.below hB5
      have hb5 := hbr.below hB5
      have hB5w := hBr.trans (hB5.mono hBr.size)
      clear hov hbr hBr hB5 HcaA
      by_cases hk : A.k = 0
      · have hq : qA = false := by rw [HqA.out, hk]; rfl
        have hn : OV w5 w.heap.size u3 Al xs := by rw [HAl.out, oneF_0 hk, List.append_nil]; exact hov5
        have Hn := hid hn
        clear hk hn hov5 hb5
        subst hq
        go_wp2
        go_ret
        exact ⟨_, rfl, Hn.out.rd, hB5w⟩
      · have hq : qA = true := by rw [HqA.out]; exact bne_iff_ne.2 hk
        have HA1 := hid (HAl.out.trans (by rw [oneF_1 hk]))
        clear hk
        subst hq
        go_wp2_with (first | refine wp_ld 27 (.tmp 51) rfl rfl rfl (hb5.blk.range 40 _ (bk_atA (len_vt _ _ _))) Try.underlying27 rfl (by rw [len_vt]; exact sizeVt) ?_)
        refine (HcpA.out _ hb5.ab hb5.ap).mono ?_
        rintro e' w6 ⟨vb, vp, rfl, hr6, hr7, hB6⟩
        obtain ⟨A4, c4, rfl⟩ := hr6.shape
        obtain ⟨A5, c5, rfl, _, _⟩ := hr7.slShape
        have hov6 := hov5.below hB6
        have ho5 := hov5.own
        have hBo := hB5w.trans (hB6.mono hB5w.size)
        have hro := hov6.own
        have hel : WdEl w6 (fun b => w.heap.size ≤ b ∧ u3.ownBlock ≠ some b) vtD A (A.l (.slice A4 A.b.length c4) (.slice A5 A.ps.length c5)) := vt_mk (hr6.weak (fun y _ h => ⟨Nat.le_trans hB5w.size h, fun e => by have := (ho5.lt y e).2; have h' : w5.heap.size ≤ y := h; omega⟩)) (hr7.weak (fun y _ h => ⟨Nat.le_trans hB5w.size h, fun e => by have := (ho5.lt y e).2; have h' : w5.heap.size ≤ y := h; omega⟩))
        clear hr6 hr7 hB6 hb5 ho5 hov5
        go_wp2_with (first | (refine wp_pushW (.tmp 48) (.tmp 53) 54 slV13 rfl rfl rfl rfl rfl (us := A.l (.slice A4 A.b.length c4) (.slice A5 A.ps.length c5)) rfl (len_vt _ _ _) one_vt (by simp) rfl hro (by simp only [maxLen]; omega) (by omega) hBo.size ?_; intro v4 w4 ho4 hG4 hd4; refine wp_stop ?_))
        have hov9 := hov6.push hel ho4 hG4 hd4
        have hB9 := hBo.grown hG4 hBo.size (fun k hk => (hro.lt k hk).1)
        rw [← HA1.out] at hov9
        have Hov := hid hov9
        clear hov9 hel ho4 hG4 hd4 hro hov6 hBo
        refine wp_go ?_
        go_wp2
        go_ret
        exact ⟨_, rfl, Hov.out.rd, hB9⟩
end Go.Proofs.Ytkoncjcnpconkaa
