/- BQ: several texts in one (BP BQ). -/
import Derived.Test.YtnpgloeldoiekaaB2
import Derived.Test.YtnpgloeldoiekaaMV
import Derived.Test.YtnpgloeldoiekaaOT
import Derived.Test.YtnpgloeldoiekaaBC
import Derived.Test.YtnpgloeldoiekaaQ5
import Derived.BigQuiet
/- BP: layer 16: the landed queue in memory: its keys, what its map holds. -/
namespace Go.Proofs.Ytnpgloeldoiekaa
open Go.RowKit Go.V Go.Maps
/-- the key of a request: whose it is, and which -/
def wfK (p : Int × Int) : Prop := (Lit.int .i64 p.1).wf = true ∧ (Lit.int .i64 p.2).wf = true
instance (p : Int × Int) : Decidable (wfK p) := by unfold wfK; infer_instance
def mkK (p : Int × Int) (h : wfK p) : K2 := ⟨p, h⟩
def ky16 (r : Rq) : K2 := if h : wfK (r.c, r.s) then mkK (r.c, r.s) h else default
theorem wf64 {x : Int} (h1 : -9223372036854775808 ≤ x) (h2 : x ≤ 9223372036854775807) : (Lit.int .i64 x).wf = true := by
  show (decide (IntKind.i64.min ≤ x) && decide (x ≤ IntKind.i64.max)) = true
  rw [Bool.and_eq_true, decide_eq_true_iff, decide_eq_true_iff]
  exact ⟨h1, h2⟩
theorem ky_fm {r : Rq} (h : r.fm = true) : (ky16 r).1 = (r.c, r.s) := by
  have := fm_in h
  have hw : wfK (r.c, r.s) := ⟨wf64 (by show _ ≤ r.c; omega) (by show r.c ≤ _; omega), wf64 (by show _ ≤ r.s; omega) (by show r.s ≤ _; omega)⟩
  unfold ky16
  rw [dif_pos hw]
  rfl
theorem ky_v {r : Rq} (h : r.fm = true) : (ky16 r).v = .agg #[.int .i64 r.c, .int .i64 r.s] := by
  unfold K2.v
  rw [ky_fm h]
theorem ky_eq {x r : Rq} (hx : x.fm = true) (hr : r.fm = true) : ky16 x = ky16 r ↔ x.c = r.c ∧ x.s = r.s := by
  constructor
  · intro h
    have h2 : (ky16 x).1 = (ky16 r).1 := by rw [h]
    rw [ky_fm hx, ky_fm hr] at h2
    injection h2 with h3 h4
    exact ⟨h3, h4⟩
  · rintro ⟨h1, h2⟩
    exact k2_ext (by rw [ky_fm hx, ky_fm hr]; exact h1) (by rw [ky_fm hx, ky_fm hr]; exact h2)
theorem twoPl : TwoInts Try.prog 60 where
  fs := ⟨_, _, Try.underlying60, by rfl, by rfl, by decide, by decide, Try.underlying3, Try.underlying3, by kernel_rfl, by kernel_rfl⟩
  kt := by kernel_rfl
  two := by kernel_rfl
  row := of_decide_eq_true (by kernel_rfl)
  laid := by kernel_rfl
  deep := by kernel_rfl
/-- how a request lies in a map -/
def RqV (w : World) (F : Nat → Prop) (v : Value) (r : Rq) : Prop := ∃ u, v = .agg (r.l u).toArray ∧ Rd w F u (bys r.g)
/-- the map of what waits -/
noncomputable def qM : MK Try.prog 60 K2 Rq := twoPl.mk' RqV (fun h hF => by
  obtain ⟨u, h1, h2⟩ := h
  exact ⟨u, h1, h2.keep hF⟩)
theorem zReq16 (w : World) : (zeroValue 32).run Try.prog w = .ok (.agg zRq16.toArray) w := by kernel_rfl
theorem zeroPl : (Try.prog.info? 60).map (·.zero) = some (some (.agg [Value.int .i64 0, .int .i64 0].toArray)) := by kernel_rfl
theorem sizePl : (Try.prog.info? 60).map (·.size) = some 2 := by kernel_rfl
theorem slPl : SlW Try.prog 56 60 [.int .i64 0, .int .i64 0] 2 16 := .of Try.underlying56 (by kernel_rfl) (by simp) (by omega) (by omega)
/-- what waits, by its keys -/
def ent (l : List Rq) : List (K2 × Rq) := l.map fun r => (ky16 r, r)
theorem ent_len (l : List Rq) : (ent l).length = l.length := by unfold ent; rw [List.length_map]
theorem ent_none {l : List Rq} {r : Rq} (hf : ∀ x ∈ l, x.fm = true) (hr : r.fm = true) (h : hasQ l r = false) : findS (ent l) (ky16 r) = none := by
  unfold findS
  rw [Option.map_eq_none_iff, List.find?_eq_none]
  intro p hp
  obtain ⟨x, hx, rfl⟩ := List.mem_map.1 hp
  intro he
  exact has_not h x hx ((ky_eq (hf x hx) hr).1 (of_decide_eq_true he))
theorem ent_some {l : List Rq} {r : Rq} (hf : ∀ x ∈ l, x.fm = true) (hr : r.fm = true) (h : hasQ l r = true) : ∃ d, findS (ent l) (ky16 r) = some d := by
  cases hq : findS (ent l) (ky16 r) with
  | some d => exact ⟨d, rfl⟩
  | none =>
    exfalso
    unfold hasQ at h
    obtain ⟨x, hx, he⟩ := List.any_eq_true.1 h
    rw [Bool.and_eq_true, decide_eq_true_iff, decide_eq_true_iff] at he
    exact findS_none hq (ky16 x, x) (List.mem_map.2 ⟨x, hx, rfl⟩) ((ky_eq (hf x hx) hr).2 he)
theorem one_eq : ∀ {l : List Rq}, QIn l → ∀ {x r : Rq}, x ∈ l → r ∈ l → ky16 x = ky16 r → x = r := by
  intro l h x r hx hr he
  have he := (ky_eq (h.fm x hx) (h.fm r hr)).1 he
  obtain ⟨i, hi⟩ := List.getElem?_of_mem hx
  obtain ⟨k, hk⟩ := List.getElem?_of_mem hr
  have hil := (List.getElem?_eq_some_iff.1 hi).1
  have hkl := (List.getElem?_eq_some_iff.1 hk).1
  rcases Nat.lt_trichotomy i k with hik | hik | hik
  · have := List.pairwise_iff_getElem.1 h.one i k hil hkl hik
    rw [(List.getElem?_eq_some_iff.1 hi).2, (List.getElem?_eq_some_iff.1 hk).2] at this
    exact absurd he this
  · subst hik
    exact Option.some.inj (hi.symm.trans hk)
  · have := List.pairwise_iff_getElem.1 h.one k i hkl hil hik
    rw [(List.getElem?_eq_some_iff.1 hi).2, (List.getElem?_eq_some_iff.1 hk).2] at this
    exact absurd ⟨he.1.symm, he.2.symm⟩ this
theorem ent_find {l : List Rq} (h : QIn l) {r : Rq} (hr : r ∈ l) : findS (ent l) (ky16 r) = some r := by
  cases hq : findS (ent l) (ky16 r) with
  | none => exact absurd rfl (findS_none hq (ky16 r, r) (List.mem_map.2 ⟨r, hr, rfl⟩))
  | some d =>
    unfold findS at hq
    obtain ⟨p, hp, rfl⟩ := Option.map_eq_some_iff.1 hq
    have hm := List.mem_of_find?_eq_some hp
    have he : p.1 = ky16 r := by
      have := List.find?_some (p := fun p : K2 × Rq => decide (p.1 = ky16 r)) hp
      exact of_decide_eq_true this
    obtain ⟨x, hx, rfl⟩ := List.mem_map.1 hm
    rw [one_eq h hx hr he]
theorem ent_wo {l1 l2 : List Rq} {r : Rq} (h : QIn (l1 ++ r :: l2)) : woS (ent (l1 ++ r :: l2)) (ky16 r) = ent (l1 ++ l2) := by
  have hr : r ∈ l1 ++ r :: l2 := by simp
  have hk : ∀ x, x ∈ l1 ∨ x ∈ l2 → ky16 x ≠ ky16 r := by
    intro x hx he
    have hp := h.one
    rw [List.pairwise_append, List.pairwise_cons] at hp
    obtain ⟨_, ⟨hp1, _⟩, hp2⟩ := hp
    have he := (ky_eq (h.fm x (by rcases hx with hx | hx <;> simp [hx])) (h.fm r hr)).1 he
    rcases hx with hx | hx
    · exact hp2 x hx r (by simp) he
    · exact hp1 x hx ⟨he.1.symm, he.2.symm⟩
  have e : ∀ l : List Rq, (∀ x ∈ l, ky16 x ≠ ky16 r) → woS (ent l) (ky16 r) = ent l := fun l hl => woS_none (fun p hp => by
    obtain ⟨x, hx, rfl⟩ := List.mem_map.1 hp
    exact hl x hx)
  have e3 : woS (ent [r]) (ky16 r) = [] := by unfold woS ent; simp
  unfold ent at e e3 ⊢
  rw [show l1 ++ r :: l2 = l1 ++ ([r] ++ l2) from rfl, List.map_append, List.map_append, woS_app, woS_app, e l1 (fun x hx => hk x (.inl hx)), e l2 (fun x hx => hk x (.inr hx)), e3, List.nil_append, List.map_append]
theorem ent_put {l : List Rq} {r : Rq} (h : findS (ent l) (ky16 r) = none) : ((ky16 r, r) :: woS (ent l) (ky16 r)).Perm (ent (l ++ [r])) := by
  rw [woS_none (findS_none h)]
  unfold ent
  rw [List.map_append]
  exact (List.perm_append_singleton _ _).symm
/-- a queue in memory: p its block, b its map, ov its row of keys, what F holds are the signatures -/
structure QM (w : World) (p b : Nat) (ov : Value) (F : Nat → Prop) (l : List Rq) : Prop where
  blk : Blk w p 58 [ov, .map (some b)]
  row : w.ownsRow 0 60 2 ov l.length (K2.rows (l.map ky16))
  map : MS qM w F b (ent l)
  qin : QIn l
  pb : p ≠ b
  br : ov.ownBlock ≠ some b
  f : ∀ x, F x → x ≠ p ∧ x ≠ b ∧ ov.ownBlock ≠ some x ∧ x < w.heap.size
theorem QM.pr {w : World} {p b : Nat} {ov : Value} {F : Nat → Prop} {l : List Rq} (h : QM w p b ov F l) : ov.ownBlock ≠ some p := fun e => blk_row h.blk h.row (by decide) e.symm
/-- a queue at v, in blocks M, in which l waits -/
def QX (w : World) (v : Value) (M : Nat → Prop) (l : List Rq) : Prop := ∃ (p b : Nat) (ov : Value) (F : Nat → Prop), v = .pointer (some ⟨p, 0, none⟩) ∧ QM w p b ov F l ∧ ∀ x, M x ↔ x = p ∨ x = b ∨ ov.ownBlock = some x ∨ F x
theorem QM.keep {w w' : World} {p b : Nat} {ov : Value} {F : Nat → Prop} {l : List Rq} (h : QM w p b ov F l) (hs : w.heap.size ≤ w'.heap.size) (hk : ∀ x, x = p ∨ x = b ∨ ov.ownBlock = some x ∨ F x → w'.heap[x]? = w.heap[x]?) : QM w' p b ov F l :=
  ⟨h.blk.keep (hk p (.inl rfl)), own_keepO h.row (fun k _ e => hk k (.inr (.inr (.inl e)))), h.map.keep (hk b (.inr (.inl rfl))) (fun x _ hx => ⟨hx, hk x (.inr (.inr (.inr hx)))⟩), h.qin, h.pb, h.br, fun x hx => ⟨(h.f x hx).1, (h.f x hx).2.1, (h.f x hx).2.2.1, Nat.lt_of_lt_of_le (h.f x hx).2.2.2 hs⟩⟩
theorem QM.lt {w : World} {p b : Nat} {ov : Value} {F : Nat → Prop} {l : List Rq} (h : QM w p b ov F l) {x : Nat} (hx : x = p ∨ x = b ∨ ov.ownBlock = some x ∨ F x) : x < w.heap.size := by
  rcases hx with rfl | rfl | hx | hx
  · exact h.blk.lt
  · exact h.map.lt
  · exact (h.row.lt x hx).2
  · exact (h.f x hx).2.2.2
theorem QM.below {w w' : World} {p b : Nat} {ov : Value} {F : Nat → Prop} {l : List Rq} (h : QM w p b ov F l) (hB : Below w.heap.size w w') : QM w' p b ov F l := h.keep hB.size (fun x hx => hB.block x (h.lt hx))
theorem QX.lt {w : World} {v : Value} {M : Nat → Prop} {l : List Rq} (h : QX w v M l) : ∀ b, M b → b < w.heap.size := by
  obtain ⟨p, b, ov, F, _, hm, hM⟩ := h
  exact fun x hx => hm.lt ((hM x).1 hx)
theorem QX.qin {w : World} {v : Value} {M : Nat → Prop} {l : List Rq} (h : QX w v M l) : QIn l := by
  obtain ⟨p, b, ov, F, _, hm, hM⟩ := h
  exact hm.qin
theorem QX.keep {w w' : World} {v : Value} {M : Nat → Prop} {l : List Rq} (h : QX w v M l) (hs : w.heap.size ≤ w'.heap.size) (hk : ∀ b, M b → w'.heap[b]? = w.heap[b]?) : QX w' v M l := by
  obtain ⟨p, b, ov, F, hv, hm, hM⟩ := h
  exact ⟨p, b, ov, F, hv, hm.keep hs (fun x hx => hk x ((hM x).2 hx)), hM⟩
theorem QX.below {w w' : World} {v : Value} {M : Nat → Prop} {l : List Rq} (h : QX w v M l) (hB : Below w.heap.size w w') : QX w' v M l := h.keep hB.size (fun b hb => hB.block b (h.lt b hb))
/-- what a call that writes leaves -/
structure QP (w : World) (M : Nat → Prop) (w' : World) (v : Value) (l : List Rq) (M' : Nat → Prop) : Prop where
  q : QX w' v M' l
  m : ∀ b, M' b → M b ∨ w.heap.size ≤ b
  c : Ch M w w'
theorem QP.rd {w w' : World} {M M' : Nat → Prop} {v : Value} {l : List Rq} (h : QP w M w' v l M') {x : Value} {d : Dat} (hx : Rd w (fun b => ¬ M b) x d) : Rd w' (fun b => ¬ M' b) x d :=
  hx.keep (fun b hb hF => ⟨fun h' => by rcases h.m b h' with h' | h'; exact hF h'; omega, h.c.block b hb hF⟩)
theorem QP.blk {w w' : World} {M M' : Nat → Prop} {v : Value} {l : List Rq} (h : QP w M w' v l M') {g : Nat} {t : TypeId} {cs : List Value} (hb : Blk w g t cs) (hg : ¬ M g) : Blk w' g t cs ∧ ¬ M' g :=
  ⟨hb.ch h.c hg, fun h' => by rcases h.m g h' with h' | h'; exact hg h'; have := hb.lt; omega⟩
theorem QP.bel {w0 w w' : World} {base : Nat} {M M' : Nat → Prop} {v : Value} {l : List Rq} (h : QP w M w' v l M') (hB : Below base w0 w) (hM : ∀ b, M b → base ≤ b) (hb : base ≤ w.heap.size) : Below base w0 w' ∧ ∀ b, M' b → base ≤ b :=
  ⟨Ch.below_of hB h.c hM hb, fun b h' => by rcases h.m b h' with h' | h'; exact hM b h'; omega⟩
end Go.Proofs.Ytnpgloeldoiekaa
/- BQ: layer 16: contracts of queue: formed, copied, done. -/
namespace Go.Proofs.Ytnpgloeldoiekaa
open Go.RowKit Go.V Go.Maps
theorem ret_b16 {b c : Bool} (h : b = c) : Ending.returned (.bool b) = .returned (.bool c) := by rw [h]
set_option maxHeartbeats 1000000 in
theorem formed16_any (r : Rq) (u : Value) (F : Nat → Prop) (w : World) (hu : Rd w F u (bys r.g)) (ha : in64 r.a) (hb : in64 r.b) :
    Calls Try.prog 24 #[.agg (r.l u).toArray] w fun e w' => e = .returned (.bool r.fm) ∧ Below w.heap.size w w' := by
  have hp := fun W h => (show Calls Try.prog 29 #[.agg (r.l u).toArray] W _ from put7_any r u F W h ha hb)
  obtain ⟨q, hq⟩ : ∃ q, q = r.fm := ⟨_, rfl⟩
  rw [← hq] at hp ⊢
  clear hq
  obtain ⟨A, cp, rfl⟩ := hu.shape
  have hvb := Blk.new' w 32 (r.l (.slice A r.g.length cp))
  have hB : Below w.heap.size w (w.alloc (.cells (r.l (.slice A r.g.length cp)).toArray 32)) := (Below.refl _ _).alloc (Nat.le_refl _) _
  have hub := hu.below hB
  have hl := len_l r (.slice A r.g.length cp)
  obtain ⟨L, hL⟩ : ∃ L, L = r.l (.slice A r.g.length cp) := ⟨_, rfl⟩
  rw [← hL] at hp hvb hB hub hl ⊢
  have Hp := hid hp
  have Hl := hid hl
  clear hp hL hu hl
  go_enter Try.func24, Try.ntmps24
  go_wp2_with (first | refine wp_ld 32 (.tmp 1) rfl rfl rfl hvb.whole Try.underlying32 rfl (by rw [Hl.out]; exact sizeRq16) ?_)
  refine (Hp.out _ hub).mono ?_
  rintro e w1 ⟨v1, rfl, ho, hB1⟩
  obtain ⟨A1, c1, rfl⟩ := own_shape ho
  have hBw := hB.trans (hB1.mono hB.size)
  clear ho hvb hub Hp
  cases q with
  | true =>
    go_wp2
    go_ret
    exact ⟨rfl, hBw⟩
  | false =>
    go_wp2
    go_ret
    exact ⟨rfl, hBw⟩
theorem set6q (r : Rq) (u v : Value) : (r.l u).set 6 v = r.l v := rfl
theorem one_l16 {r : Rq} {A : Option Addr} {n c : Nat} : ∀ v ∈ r.l (.slice A n c), v.oneCell' = true := one_rq16 r A n c
theorem zeroRq16 : (Try.prog.info? 32).map (·.zero) = some (some (.agg zRq16.toArray)) := by kernel_rfl
theorem sizeSl16 : (Try.prog.info? 30).map (·.size) = some 1 := by kernel_rfl
set_option maxHeartbeats 2000000 in
theorem copied16_any (r : Rq) (u : Value) (F : Nat → Prop) (w : World) (hu : Rd w F u (bys r.g)) (hg : r.g.length ≤ 1000000) :
    Calls Try.prog 25 #[.agg (r.l u).toArray] w fun e w' => ∃ u', e = .returned (.agg (r.l u').toArray) ∧ Rd w' (fun b => w.heap.size ≤ b) u' (bys r.g) ∧ Below w.heap.size w w' := by
  obtain ⟨A, cp, rfl⟩ := hu.shape
  have hvb := Blk.new' w 32 (r.l (.slice A r.g.length cp))
  have hz := Blk.new' (w.alloc (.cells (r.l (.slice A r.g.length cp)).toArray 32)) 32 zRq16
  have hB : Below w.heap.size w ((w.alloc (.cells (r.l (.slice A r.g.length cp)).toArray 32)).alloc (.cells zRq16.toArray 32)) := ((Below.refl _ _).alloc (Nat.le_refl _) _).alloc (by simp) _
  have hvb := hvb.alloc (.cells zRq16.toArray 32)
  have hub := hu.below hB
  clear hu
  go_enter Try.func25, Try.ntmps25
  go_wp2_with (refine wp_new 32 rfl rfl zeroRq16 ?_; refine wp_stop ?_)
  have hz0 : (w.alloc (.cells (r.l (.slice A r.g.length cp)).toArray 32)).heap.size = w.heap.size + 1 := by simp
  have hsz : ((w.alloc (.cells (r.l (.slice A r.g.length cp)).toArray 32)).alloc (.cells zRq16.toArray 32)).heap.size = w.heap.size + 2 := by simp
  rw [hz0] at hz
  obtain ⟨w0, hw0⟩ : ∃ w0, w0 = (w.alloc (.cells (r.l (.slice A r.g.length cp)).toArray 32)).alloc (.cells zRq16.toArray 32) := ⟨_, rfl⟩
  rw [← hw0] at hvb hz hB hub hsz ⊢
  obtain ⟨g, hgg⟩ : ∃ g, g = w.heap.size := ⟨_, rfl⟩
  obtain ⟨g2, hg2⟩ : ∃ g, g = w.heap.size + 1 := ⟨_, rfl⟩
  rw [← hg2] at hz ⊢
  rw [← hgg] at hvb ⊢
  have hgw : w.heap.size ≤ g := by omega
  have hgw2 : w.heap.size ≤ g2 := by omega
  have hne : g ≠ g2 := by omega
  have hg1 : g < w0.heap.size := by omega
  have hg12 : g2 < w0.heap.size := by omega
  have hBs := hB.size
  clear hw0 hgg hg2 hz0 hsz
  refine wp_go ?_
  have c6 := hvb.cellAt 6 _ rfl
  go_wp2_with (fail)
  refine (bclone_any r.g F _ _ hub (by omega)).mono ?_
  rintro e w2 ⟨v2, rfl, ho2, hB2⟩
  have hr2 := Rd.of_own ho2
  obtain ⟨A2, k2, rfl⟩ := own_shape ho2
  have hv2 := hvb.below hB2
  have hz2 := hz.below hB2
  have hBw2 := hB.trans (hB2.mono hB.size)
  clear c6 ho2 hvb hz hub
  go_wp2_with (refine wp_st1 30 (.tmp 6) (.tmp 5) rfl rfl rfl (f := 6) rfl (v := .slice A2 r.g.length k2) rfl hv2 (by rw [len_l]; omega) sizeSl16 rfl rfl ?_; intro w3 hv3 hG3; refine wp_stop ?_)
  rw [set6q] at hv3
  have hz3 := hz2.keep (hG3.block _ hz2.lt (by intro h; injection h with h; exact hne h.symm))
  have hr3 := hr2.keep (F' := fun b => w0.heap.size ≤ b) (fun b hb hF => ⟨hF, hG3.block _ hb (by intro h; injection h with h; have h' : w0.heap.size ≤ b := hF; omega)⟩)
  have hB3 := hBw2.grown hG3 hBw2.size (fun k hk => by injection hk with hk; omega)
  clear hv2 hz2 hr2 hG3 hB2 hBw2
  obtain ⟨L, hL⟩ : ∃ L, L = r.l (.slice A2 r.g.length k2) := ⟨_, rfl⟩
  have hls : L.length = 7 := by rw [hL]; rfl
  have h1L : ∀ v ∈ L, v.oneCell' = true := by rw [hL]; exact one_l16
  rw [← hL] at hv3
  have HL := hid hL
  clear hL
  refine wp_go ?_
  go_wp2_with (first | refine wp_ld 32 (.tmp 1) rfl rfl rfl hv3.whole Try.underlying32 rfl (by rw [hls]; exact sizeRq16) ?_ | (refine wp_st 32 (.tmp 2) (.tmp 7) rfl rfl rfl (f := 0) rfl (l := L) rfl hz3 (by rw [hls]; exact Nat.le_refl _) (by rw [hls]; exact sizeRq16) h1L ?_; intro w5 hz5 hG5; refine wp_stop ?_))
  have hr5 := hr3.keep (F' := fun b => w0.heap.size ≤ b) (fun b hb hF => ⟨hF, hG5.block _ hb (by intro h; injection h with h; have h' : w0.heap.size ≤ b := hF; omega)⟩)
  have hB5 := hB3.grown hG5 hB3.size (fun k hk => by injection hk with hk; omega)
  rw [show zRq16.take 0 ++ L ++ zRq16.drop (0 + L.length) = L from by rw [hls]; simp [zRq16]] at hz5
  clear hv3 hz3 hr3 hG5 hB3
  refine wp_go ?_
  go_wp2
  refine ret_cell rfl rfl hz5.whole Try.underlying32 rfl (by rw [hls]; exact sizeRq16) rfl ?_
  exact ⟨_, by rw [HL.out], hr5.weak (fun b _ h => Nat.le_trans hBs h), hB5⟩
/-- by clients' last numbers as they lie in memory -/
theorem done16_any (c : Nat) (s q : Int) (X : List Value) (w : World) (_hX : X.length = 30) (hc : c < 6) (hq : X[c * 5 + 1]? = some (.int .i64 q)) :
    Calls Try.prog 27 #[.agg #[.int .i64 (c : Int), .int .i64 s], .agg X.toArray] w fun e w' => e = .returned (.bool (decide (s ≤ q))) ∧ Below w.heap.size w w' := by
  have h1 := (Blk.new' w 60 [.int .i64 (c : Int), .int .i64 s]).alloc (.cells X.toArray 37)
  have h2 := Blk.new' (w.alloc (.cells #[.int .i64 (c : Int), .int .i64 s] 60)) 37 X
  have hB : Below w.heap.size w ((w.alloc (.cells #[.int .i64 (c : Int), .int .i64 s] 60)).alloc (.cells X.toArray 37)) := ((Below.refl _ _).alloc (Nat.le_refl _) _).alloc (by simp) _
  have hz0 : (w.alloc (.cells #[.int .i64 (c : Int), .int .i64 s] 60)).heap.size = w.heap.size + 1 := by simp
  rw [hz0] at h2
  have p0 := h1.cellAt 0 _ rfl
  have p1 := h1.cellAt 1 _ rfl
  have p3 := h2.cellAt _ _ hq
  have hI6 : (c : Int) < 6 := by omega
  clear hq
  go_enter Try.func27, Try.ntmps27
  by_cases hd : s ≤ q
  · have dg : decide (s ≤ q) = true := decide_eq_true hd
    go_upto_region 1 with (fail)
    go_quiet (fail)
    go_wp2
    go_ret
    exact ⟨by rw [dg]; rfl, by first | exact hB | exact bel_drewN hB _⟩
  · have dg : decide (s ≤ q) = false := decide_eq_false hd
    go_upto_region 1 with (fail)
    go_quiet (fail)
    go_wp2
    go_ret
    exact ⟨rfl, by first | exact hB | exact bel_drewN hB _⟩
end Go.Proofs.Ytnpgloeldoiekaa
