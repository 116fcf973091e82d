/- Xy: layer 19: contract of stops.follow. -/
import Derived.Test.YtnhhbbjkeekneaaGreatDoorXr
namespace Go.Proofs.YtnhhbbjkeekneaaGreatDoor
open Go.RowKit Go.V
/-- what is told by i -/
def fndT (a : List To) (i : Nat) : Option To := a.find? (fun t => decide (t.f = (i : Int)))
def bdF (a : List To) (i : Nat) : Bd := match fndT a i with
  | some t => t.b
  | none => zBd
/-- an array of what is told, one a member -/
structure BsX (w : World) (H : Nat → Prop) (cs : List Value) (f : Nat → Bd) : Prop where
  len : cs.length = 576
  hh : ∀ i, (f i).d.length = 32
  at_ : ∀ i, i < 16 → ∃ u, (∀ (j : Nat) (v : Value), (bdL (f i) u)[j]? = some v → cs[i * 36 + j]? = some v) ∧ Rd w H u (bys (f i).b)
theorem BsX.keep {w w' : World} {H H' : Nat → Prop} {cs : List Value} {f : Nat → Bd} (h : BsX w H cs f) (hF : ∀ b, b < w.heap.size → H b → H' b ∧ w'.heap[b]? = w.heap[b]?) : BsX w' H' cs f := ⟨h.len, h.hh, fun i hi => by obtain ⟨u, h1, h2⟩ := h.at_ i hi; exact ⟨u, h1, h2.keep hF⟩⟩
theorem BsX.below {w w' : World} {H : Nat → Prop} {cs : List Value} {f : Nat → Bd} (h : BsX w H cs f) (hB : Below w.heap.size w w') : BsX w' H cs f := h.keep (fun b hb hF => ⟨hF, hB.block b hb⟩)
theorem BsX.one {w : World} {H : Nat → Prop} {cs : List Value} {f : Nat → Bd} (h : BsX w H cs f) : ∀ v ∈ cs, v.oneCell' = true := by
  intro v hv
  obtain ⟨k, hk⟩ := List.getElem?_of_mem hv
  have hk5 : k < 576 := by have := (List.getElem?_eq_some_iff.1 hk).1; rw [h.len] at this; exact this
  obtain ⟨u, h1, h2⟩ := h.at_ (k / 36) (by omega)
  obtain ⟨A, c, rfl⟩ := h2.shape
  have hl := len_bd (h.hh (k / 36)) (.slice A (f (k / 36)).b.length c)
  obtain ⟨x, hx⟩ : ∃ x, (bdL (f (k / 36)) (.slice A (f (k / 36)).b.length c))[k % 36]? = some x := ⟨_, List.getElem?_eq_getElem (by rw [hl]; omega)⟩
  have := h1 (k % 36) x hx
  rw [show k / 36 * 36 + k % 36 = k from by omega, hk] at this
  injection this with this
  rw [this]
  exact one_bd x (List.mem_of_getElem? hx)
theorem spl_in {cs l : List Value} {f j : Nat} (hf : f + l.length ≤ cs.length) (hj : j < l.length) : (cs.take f ++ l ++ cs.drop (f + l.length))[f + j]? = l[j]? := by
  have hl : (cs.take f).length = f := by rw [List.length_take]; omega
  rw [List.append_assoc, List.getElem?_append_right (by omega), hl, show f + j - f = j from by omega, List.getElem?_append_left hj]
theorem spl_out {cs l : List Value} {f k : Nat} (hf : f + l.length ≤ cs.length) (hk : k < f ∨ f + l.length ≤ k) : (cs.take f ++ l ++ cs.drop (f + l.length))[k]? = cs[k]? := by
  have hl : (cs.take f).length = f := by rw [List.length_take]; omega
  rw [List.append_assoc]
  rcases hk with hk | hk
  · rw [List.getElem?_append_left (by omega), List.getElem?_take, if_pos hk]
  · rw [List.getElem?_append_right (by omega), hl, List.getElem?_append_right (by omega), List.getElem?_drop]
    congr 1
    omega
theorem BsX.put {w : World} {H : Nat → Prop} {cs : List Value} {f f' : Nat → Bd} {a : Nat} {b : Bd} {u : Value} (h : BsX w H cs f) (ha : a < 16) (hb : b.d.length = 32) (hu : Rd w H u (bys b.b)) (e : ∀ i, f' i = if i = a then b else f i) : BsX w H (cs.take (a * 36) ++ bdL b u ++ cs.drop (a * 36 + (bdL b u).length)) f' := by
  have hl := len_bd hb u
  have hc := h.len
  have hf : a * 36 + (bdL b u).length ≤ cs.length := by omega
  refine ⟨?_, fun i => ?_, fun i hi => ?_⟩
  · rw [List.length_append, List.length_append, List.length_take, List.length_drop]; omega
  · rw [e]
    split
    · exact hb
    · exact h.hh i
  · rw [e]
    by_cases hia : i = a
    · subst hia
      rw [if_pos rfl]
      refine ⟨u, fun j v hv => ?_, hu⟩
      rw [spl_in hf (List.getElem?_eq_some_iff.1 hv).1]
      exact hv
    · rw [if_neg hia]
      obtain ⟨x, h1, h2⟩ := h.at_ i hi
      refine ⟨x, fun j v hv => ?_, h2⟩
      have hj := (List.getElem?_eq_some_iff.1 hv).1
      rw [len_bd (h.hh i)] at hj
      rw [spl_out hf (by omega)]
      exact h1 j v hv
theorem own_shapeY {w : World} {base : Nat} {e : TypeId} {s : Nat} {v : Value} {n : Nat} {xs : List Value} (h : w.ownsRow base e s v n xs) : ∃ A c, v = .slice A n c := by
  rcases h.2 with ⟨h, h0⟩ | ⟨g, cap, cur, h, _⟩
  · exact ⟨none, 0, by rw [h, h0]⟩
  · exact ⟨some ⟨g, 0, none⟩, cap, h⟩
def zBs : List Value := (List.replicate 16 (bdL zBd (.slice none 0 0))).flatten
set_option maxRecDepth 100000 in
theorem zero16B : (Tryz.prog.info? 62).map (·.zero) = some (some (.agg zBs.toArray)) := by kernel_rfl
theorem size16B : (Tryz.prog.info? 62).map (·.size) = some 576 := by kernel_rfl
theorem flat_at (l : List Value) : ∀ (n i j : Nat) (v : Value), i < n → l[j]? = some v → ((List.replicate n l).flatten)[i * l.length + j]? = some v
  | 0, i, j, v, hi, _ => by omega
  | n + 1, 0, j, v, _, hv => by
    rw [List.replicate_succ, List.flatten_cons, Nat.zero_mul, Nat.zero_add, List.getElem?_append_left (List.getElem?_eq_some_iff.1 hv).1]
    exact hv
  | n + 1, i + 1, j, v, hi, hv => by
    rw [List.replicate_succ, List.flatten_cons, List.getElem?_append_right (by rw [Nat.add_mul]; omega), show (i + 1) * l.length + j - l.length = i * l.length + j from by rw [Nat.add_mul]; omega]
    exact flat_at l n i j v (by omega) hv
theorem BsX.zero (w : World) (H : Nat → Prop) : BsX w H zBs (bdF []) := by
  have hl : (bdL zBd (.slice none 0 0)).length = 36 := len_bd rfl _
  refine ⟨by unfold zBs; rw [List.length_flatten, List.map_replicate, hl]; rfl, fun i => rfl, fun i hi => ⟨.slice none 0 0, fun j v hv => ?_, Rd.nil _ _⟩⟩
  have hv : (bdL zBd (.slice none 0 0))[j]? = some v := hv
  have := flat_at _ 16 i j v hi hv
  rw [hl] at this
  exact this
theorem bdF_snoc {a : List To} {t : To} {n : Nat} (hn : t.f = (n : Int)) (hno : ¬ a.any (fun s => decide (s.f = t.f)) = true) (i : Nat) : bdF (a ++ [t]) i = if i = n then t.b else bdF a i := by
  unfold bdF fndT
  rw [List.find?_append]
  by_cases hi : i = n
  · subst hi
    rw [if_pos rfl]
    have h1 : a.find? (fun s => decide (s.f = (i : Int))) = none := by
      rw [List.find?_eq_none]
      intro s hs h
      have h := of_decide_eq_true h
      exact hno (List.any_eq_true.2 ⟨s, hs, decide_eq_true (by rw [h, hn])⟩)
    have h2 : [t].find? (fun s => decide (s.f = (i : Int))) = some t := by
      simp [hn]
    rw [h1, h2]
    rfl
  · rw [if_neg hi]
    have h2 : [t].find? (fun s => decide (s.f = (i : Int))) = none := by
      rw [List.find?_eq_none]
      intro s hs h
      rw [List.mem_singleton.1 hs] at h
      have h := of_decide_eq_true h
      omega
    rw [h2, Option.or_none]
theorem fndT_any {a : List To} {i : Nat} (h : a.any (fun t => decide (t.f = (i : Int))) = true) : ∃ t, fndT a i = some t := by
  obtain ⟨s, hs, h1⟩ := List.any_eq_true.1 h
  unfold fndT
  cases hf : a.find? (fun t => decide (t.f = (i : Int))) with
  | some t => exact ⟨t, rfl⟩
  | none => exact absurd h1 (List.find?_eq_none.1 hf s hs)
theorem srt_ms {a : List To} {S : Nat} (hS : SetW S (fun i => a.any (fun t => decide (t.f = (i : Int))))) : srtT a = (memL S 16).filterMap (fndT a) := by
  rw [hS.mem]
  unfold srtT srtN
  have key : ∀ l : List Nat, l.filterMap (fun (i : Nat) => a.find? (fun t => decide (t.f = (i : Int)))) = (l.filter (fun (i : Nat) => a.any (fun t => decide (t.f = (i : Int))))).filterMap (fndT a) := by
    intro l
    induction l with
    | nil => rfl
    | cons x l ih =>
      rw [List.filterMap_cons, List.filter_cons]
      cases hx : a.any (fun t => decide (t.f = (x : Int))) with
      | true =>
        obtain ⟨t, ht⟩ := fndT_any hx
        have ht' : a.find? (fun t => decide (t.f = (x : Int))) = some t := ht
        rw [if_pos rfl, List.filterMap_cons, ht, ht', ih]
      | false =>
        have : a.find? (fun t => decide (t.f = (x : Int))) = none := by
          rw [List.find?_eq_none]
          intro s hs h
          have : a.any (fun t => decide (t.f = (x : Int))) = true := List.any_eq_true.2 ⟨s, hs, h⟩
          rw [hx] at this
          cases this
        rw [this, if_neg (by simp), ih]
  exact key (List.range 16)
theorem bldVw19 (S : Int) : ∀ W : World, (Instr.build 24 [(1, .int .u16 S)].toArray).run Tryz.prog W = .ok (.agg #[.int .i64 0, .int .u16 S]) W := fun _ => by kernel_rfl
set_option maxRecDepth 100000 in
theorem bldCi19 (l : Int) (b : Bool) (d bb : List UInt8) (A : Option Addr) (k c : Nat) (hh : d.length = 32) : ∀ W : World, (Instr.build 35 [(0, .int .i64 l), (1, .bool b), (2, .agg (bvs d).toArray), (3, .slice A k c)].toArray).run Tryz.prog W = .ok (.agg (ciL ⟨l, b, d, bb⟩ (.slice A k c)).toArray) W := by
  match d, hh with
  | [a0, a1, a2, a3, a4, a5, a6, a7, a8, a9, a10, a11, a12, a13, a14, a15, a16, a17, a18, a19, a20, a21, a22, a23, a24, a25, a26, a27, a28, a29, a30, a31], _ => intro W; kernel_rfl
set_option maxRecDepth 100000 in
set_option maxHeartbeats 8000000 in
theorem cfollow19_any (a : List To) (S : Nat) (cs : List Value) (H : Nat → Prop) (w : World) (hS : SetW S (fun i => a.any (fun t => decide (t.f = (i : Int))))) (hB : BsX w H cs (bdF a)) (ha : TosIn a) (hne : a ≠ []) :
    Calls Tryz.prog 23 #[.int .u16 (S : Int), .agg cs.toArray] w fun e w' => ∃ u, e = .returned (.agg (ciL (folC a) u).toArray) ∧ Rd w' (fun b => H b ∨ w.heap.size ≤ b) u (bys (folC a).b) ∧ Below w.heap.size w w' := by
  obtain ⟨m0, l', hsr⟩ : ∃ m l, srtT a = m :: l := by
    cases hs : srtT a with
    | nil =>
      exfalso
      obtain ⟨t, ht⟩ := List.exists_mem_of_ne_nil a hne
      have := (srt_mem ha t).2 ht
      rw [hs] at this
      cases this
    | cons m l => exact ⟨m, l, rfl⟩
  have Hfol := hid (fol_mx ha hsr)
  have hsl : (srtT a).length ≤ 16 := by
    unfold srtT srtN
    have := List.length_filterMap_le (fun (i : Nat) => a.find? (fun t => decide (t.f = (i : Int)))) (List.range 16)
    rwa [List.length_range] at this
  have hms := srt_ms hS
  have hS16 := hS.1
  have hMv : Hid (∀ i ∈ memL S 16, i < 16 ∧ ∃ t, fndT a i = some t) := hid (fun i hi => by
    rw [mem_iff] at hi
    exact ⟨hi.1, fndT_any ((hS.2 i hi.1).symm.trans hi.2)⟩)
  have hmm := hid (fun W => members_any 0 S W hS16)
  unfold vw at hmm
  obtain ⟨l, hl⟩ : ∃ l, l = memL S 16 := ⟨_, rfl⟩
  rw [← hl] at hms hMv hmm
  have hl16 : l.length ≤ 16 := by rw [hl]; exact sz_le S
  have Hms : Hid (l.filterMap (fndT a) = m0 :: l') := hid (by rw [← hms]; exact hsr)
  have hl100 : l'.length ≤ 100 := by rw [hsr] at hsl; simp at hsl; omega
  obtain ⟨W0, hW0, b3, b4, hB0⟩ := alloc2 w 62 35 cs (ciL zCi (.slice none 0 0))
  obtain ⟨G, hG⟩ : ∃ G : Nat → Prop, G = fun b => H b ∧ b < w.heap.size := ⟨_, rfl⟩
  have hGH : ∀ b, G b → H b := fun b h => by rw [hG] at h; exact h.1
  have hGw : ∀ b, G b → b < w.heap.size := fun b h => by rw [hG] at h; exact h.2
  have hBs : BsX w G cs (bdF a) := hB.keep (fun b hb hF => ⟨by rw [hG]; exact ⟨hF, hb⟩, rfl⟩)
  have hBs := hBs.below hB0
  have hs0 := hB0.size
  obtain ⟨R, hR⟩ : ∃ R, R = mxT m0 l' := ⟨_, rfl⟩
  have hmx := hid (fun (v : Value) (Y : World) (F : Nat → Prop) h => maxf19_any m0 l' v F Y hl100 h)
  rw [← hR] at Hfol hmx
  clear hR hG hsr hsl hms hl hS hS16 hB ha hne hl100
  go_enter Tryz.func23, Tryz.ntmps23
  go_wp2_with (first | (refine wp_new 35 rfl rfl zeroCi ?_; refine wp_stop ?_))
  first | rw [← hW0] | (simp only [List.toArray] at hW0 ⊢; rw [← hW0])
  obtain ⟨g4, hg4⟩ : ∃ g, g = w.heap.size + 1 := ⟨_, rfl⟩
  rw [← hg4] at b4
  try rw [← hg4]
  obtain ⟨g3, hg3⟩ : ∃ g, g = w.heap.size := ⟨_, rfl⟩
  rw [← hg3] at b3
  try rw [← hg3]
  have hw4 : w.heap.size ≤ g4 := by omega
  clear hW0 hg3 hg4
  refine wp_go ?_
  go_wp2_with (first | (refine wp_bld 24 [(1, .tmp 9)] rfl rfl [(1, .int .u16 (S : Int))] rfl (bldVw19 _) ?_))
  refine (hmm.out _).mono ?_
  rintro e w2 ⟨v2, rfl, ho2, hB2⟩
  obtain ⟨A2, c2, rfl⟩ := own_shape ho2
  have b3 := b3.below hB2
  have b4 := b4.below hB2
  have hBs := hBs.below hB2
  have hB := hB0.trans (hB2.mono hs0)
  have hs2 := hB.size
  have h3l := b3.lt
  have h4l := b4.lt
  have hn := World.ownsRow_nil w2 w2.heap.size 51 36
  clear hB0 hB2 hs0 hmm
  go_wp2
  go_loopw [5, 13] (fun lv iv wr => ∃ (i : Nat) (us : List Value), i ≤ l.length ∧ iv = .int .i64 (i : Int) ∧ Hid (wr.ownsRow w2.heap.size 51 36 lv ((l.take i).filterMap (fndT a)).length us ∧ WdX wr G toD ((l.take i).filterMap (fndT a)) us) ∧ Below w2.heap.size w2 wr) (fun _ iv _ => l.length - (intOf iv).toNat)
  case atStart => exact ⟨0, [], Nat.zero_le _, rfl, hid ⟨by rw [List.take_zero]; exact hn, by rw [List.take_zero]; rfl⟩, Below.refl _ _⟩
  case round =>
    clear hn
    obtain ⟨i, us, hi, rfl, HO, hBr⟩ := hrel
    obtain ⟨hown, hwx⟩ := HO.out
    have hszr := hBr.size
    have b3r := b3.below hBr
    have b4r := b4.below hBr
    have hBsr := hBs.below hBr
    by_cases hlt : i < l.length
    · have hI : (i : Int) < (l.length : Int) := by omega
      obtain ⟨j, hj⟩ : ∃ j, l[i]? = some j := ⟨_, List.getElem?_eq_getElem hlt⟩
      obtain ⟨g23, c23, hv23, hg1, hg2, hc23⟩ := own_cellAt ho2 i _ (ivs_at l i j hj)
      injection hv23 with hA4 _ hc4
      subst hA4
      obtain ⟨hj16, t, ht⟩ := hMv.out j (List.mem_of_getElem? hj)
      have Hnx : Hid ((l.take (i + 1)).filterMap (fndT a) = (l.take i).filterMap (fndT a) ++ [t]) := hid (by rw [List.take_add_one, hj, List.filterMap_append]; simp [ht])
      have hfl : ((l.take i).filterMap (fndT a)).length ≤ i := by
        have := List.length_filterMap_le (fndT a) (l.take i)
        rw [List.length_take] at this
        omega
      obtain ⟨u, hu1, hu2⟩ := hBsr.at_ j hj16
      have hbt : bdF a j = t.b := by unfold bdF; rw [ht]
      rw [hbt] at hu1 hu2
      obtain ⟨Au, cu, rfl⟩ := hu2.shape
      have hrg : wr.rangeAt g3 (0 + j * 36) (bdL t.b (.slice Au t.b.b.length cu)) := b3r.range _ _ (fun k v hv => by rw [Nat.zero_add]; exact hu1 k v hv)
      have Lt := hid (len_bd t.hh (.slice Au t.b.b.length cu))
      have Ot : Hid (∀ v ∈ bdL t.b (.slice Au t.b.b.length cu), v.oneCell' = true) := hid one_bd
      have Hmk := hid (to_mk hu2)
      obtain ⟨lt, hlt'⟩ : ∃ z, z = bdL t.b (.slice Au t.b.b.length cu) := ⟨_, rfl⟩
      rw [← hlt'] at hrg Lt Ot Hmk
      obtain ⟨D, hD⟩ : ∃ D, D = (l.take i).filterMap (fndT a) := ⟨_, rfl⟩
      rw [← hD] at hown hwx Hnx hfl
      have c23' := (hBr.cell hg2).trans hc23
      have hj16I : (j : Int) < 16 := by omega
      clear hj hD hc4 hg1 hc23 ht hu1 hbt hlt' HO
      go_wp2_with (first | refine wp_ixp 62 (.tmp 3) (.tmp 18) rfl rfl rfl rfl Tryz.underlying62 hj16 sizeBd19 ?_ | refine wp_ld 51 (.tmp 19) rfl rfl rfl hrg Tryz.underlying51 rfl (by rw [Lt.out]; exact sizeBd19) ?_ | (refine wp_pushW (.tmp 17) (.tmp 20) 21 slBd19 rfl rfl rfl rfl rfl (us := lt) rfl Lt.out Ot.out (by simp [Act.put]) rfl hown (by simp only [maxLen]; omega) (by omega) hszr ?_; intro v8 w8 ho8 hG8 hv8; refine wp_stop ?_))
      have hBr := hBr.grown hG8 hszr (fun k hk => (hown.lt k hk).1)
      have hkb : ∀ b, b < wr.heap.size → G b → G b ∧ w8.heap[b]? = wr.heap[b]? := fun b hb hF => ⟨hF, hG8.block b hb (fun e => by have := (hown.lt b e.symm).1; have := hGw b hF; omega)⟩
      have hwx8 : WdX w8 G toD (D ++ [t]) (us ++ lt) := WdX.snoc (Hmk.out.keep hkb) (hwx.keep hkb)
      have ho8 : w8.ownsRow w2.heap.size 51 36 v8 (D ++ [t]).length (us ++ lt) := by rw [List.length_append]; exact ho8
      clear b3r b4r hBsr hown hwx hu2 hG8 hkb hrg
      refine wp_go ?_
      go_wp2
      go_roundw
      case rel => exact ⟨i + 1, us ++ lt, by omega, by go_num, hid (by rw [Hnx.out]; exact ⟨ho8, hwx8⟩), hBr⟩
      case measure => first | (simp [intOf]; done) | (simp [intOf]; omega)
    · have hI : ¬ (i : Int) < (l.length : Int) := by omega
      have htk : l.take i = l := List.take_of_length_le (by omega)
      rw [htk, Hms.out] at hown hwx
      have hrd := wds_own hown hwx (F' := fun b => G b ∨ w2.heap.size ≤ b) (fun b h => .inl h) (fun b h => .inr (hown.lt b h).1)
      have hBw := hB.trans (hBr.mono hs2)
      obtain ⟨Ao, co, rfl⟩ := own_shapeY hown
      have Hrd := hid hrd
      clear htk HO hown hwx b3 b3r hBs hBsr hrd
      go_wp2_with (fail)
      refine (hmx.out _ _ _ Hrd.out).mono ?_
      rintro e w3 ⟨u, rfl, hu, hB3⟩
      obtain ⟨Au, cu, rfl⟩ := hu.shape
      have b4r := b4r.below hB3
      have Lr := hid (len_bd R.hh (.slice Au R.b.b.length cu))
      have Or : Hid (∀ v ∈ bdL R.b (.slice Au R.b.b.length cu), v.oneCell' = true) := hid one_bd
      have R0 := hid (bd_l R.b (.slice Au R.b.b.length cu))
      have R1 := hid (bd_h R.b (.slice Au R.b.b.length cu))
      have R3 := hid (bd_d R.b (.slice Au R.b.b.length cu))
      have R35 := hid (bd_b R.hh (.slice Au R.b.b.length cu))
      have Hbb := hid (bldCi19 R.b.l R.b.h R.b.d R.b.b Au R.b.b.length cu R.hh)
      have Lc : Hid ((ciL (ciB R.b) (.slice Au R.b.b.length cu)).length = 35) := hid (len_ci (x := ciB R.b) R.hh _)
      have Oc : Hid (∀ v ∈ ciL (ciB R.b) (.slice Au R.b.b.length cu), v.oneCell' = true) := hid one_ci
      have Ld : Hid ((bvs R.b.d).length = 32) := hid (by rw [len_bvs]; exact R.hh)
      have hci : ciL ⟨R.b.l, R.b.h, R.b.d, R.b.b⟩ (.slice Au R.b.b.length cu) = ciL (ciB R.b) (.slice Au R.b.b.length cu) := rfl
      rw [hci] at Hbb
      obtain ⟨lc, hlc⟩ : ∃ z, z = ciL (ciB R.b) (.slice Au R.b.b.length cu) := ⟨_, rfl⟩
      rw [← hlc] at Lc Oc Hbb
      have Hlc := hid hlc
      obtain ⟨lr, hlr⟩ : ∃ z, z = bdL R.b (.slice Au R.b.b.length cu) := ⟨_, rfl⟩
      rw [← hlr] at Lr Or R0 R1 R3 R35 ⊢
      obtain ⟨ld, hld⟩ : ∃ z, z = bvs R.b.d := ⟨_, rfl⟩
      rw [← hld] at R3 Hbb Ld
      have hB3w := hBw.trans (hB3.mono hBw.size)
      have hsr : w2.heap.size ≤ wr.heap.size := hszr
      clear hB3 hci hlc hlr hld Hrd hBw
      go_wp2_with (first | (refine wp_newst 51 8 (.tmp 25) rfl rfl rfl rfl rfl rfl zeroBd19 (l := lr) rfl (by rw [Lr.out]; rfl) (by rw [Lr.out]; exact sizeBd19) Or.out (by simp) ?_; intro w4 b8 hB4 hs4; refine wp_stop ?_))
      have b4r := b4r.below hB4
      have hu := hu.below hB4
      have hB4w := hB3w.trans (hB4.mono hB3w.size)
      have c0 := b8.cellAt 0 _ R0.out
      have c1 := b8.cellAt 1 _ R1.out
      have c35 := b8.cellAt 35 _ R35.out
      have c3 := b8.range 3 _ R3.out
      have h4r := b4r.lt
      obtain ⟨g8, hg8⟩ : ∃ g, g = w3.heap.size := ⟨_, rfl⟩
      rw [← hg8] at b8 c0 c1 c35 c3 ⊢
      clear hg8 hB4 hs4 hB3w
      refine wp_go ?_
      go_wp2_with (first | refine wp_ld 32 (.tmp 30) rfl rfl rfl c3 Tryz.underlying32 rfl (by rw [Ld.out]; exact size25) ?_ | refine wp_bld 35 [(0, .tmp 27), (1, .tmp 29), (2, .tmp 31), (3, .tmp 33)] rfl rfl [(0, .int .i64 R.b.l), (1, .bool R.b.h), (2, .agg ld.toArray), (3, .slice Au R.b.b.length cu)] rfl Hbb.out ?_ | (refine wp_st 35 (.tmp 4) (.tmp 34) rfl rfl rfl (f := 0) rfl (l := lc) rfl b4r (by rw [Lc.out, len_ci (x := zCi) rfl]; exact Nat.le_refl _) (by rw [Lc.out]; exact sizeCi) Oc.out ?_; intro w9 hd9 hG9; refine wp_stop ?_))
      rw [set_all _ lc (by rw [Lc.out]; rfl)] at hd9
      have hu := hu.keep (F' := fun b => H b ∨ w.heap.size ≤ b) (fun b hb hF => by
        refine ⟨hF.elim (fun h => .inl (hGH b h)) (fun h => .inr (by omega)), hG9.block b hb (fun e => ?_)⟩
        injection e with e
        rcases hF with h | h
        · have := hGw b h; omega
        · omega)
      refine wp_go ?_
      go_wp2
      refine ret_cell rfl rfl hd9.whole Tryz.underlying35 rfl (by rw [Lc.out]; exact sizeCi) rfl ?_
      rw [Hfol.out, Hlc.out]
      exact ⟨_, rfl, hu, hB4w.grown hG9 hB4w.size (by intro k hk; injection hk with hk; omega)⟩
end Go.Proofs.YtnhhbbjkeekneaaGreatDoor
