/- Cr: several texts in one (Xh I5 Cr). -/
import Derived.Test.YtnhhbbjkeekneaaGreatDoorZq
import Derived.Test.YtnhhbbjkeekneaaGreatDoorXa
import Derived.Test.YtnhhbbjkeekneaaGreatDoorCo
set_option maxRecDepth 100000
set_option maxHeartbeats 16000000
namespace Go.Proofs.YtnhhbbjkeekneaaGreatDoor
open Go.RowKit Go.V
def regI : Option Nat -> Int
 | none => -1
 | some r => (r : Int)
theorem reg_gr {ks : List (List UInt8)} {V : Vc} {m : Mg} {f : Nat -> Bool} : ∀ (n : Nat), (∀ r, r < n -> f r = decide (wriC ks V (r : Int) (m.s + 1) (shaF m.b) m.ps = 0)) -> grF (-1) m.r f n = regI (regC ks V m (min m.r.toNat n))
 | 0, _ => by rw [Nat.min_zero]; rfl
 | n + 1, h => by
  have ih := reg_gr (ks := ks) (V := V) (m := m) (f := f) n (fun r hr => h r (by omega)); by_cases hn : (n : Int) < m.r
  . have e1 : min m.r.toNat (n + 1) = n + 1 := by omega
    have e2 : min m.r.toNat n = n := by omega
    rw [e2] at ih; rw [e1]; unfold grF regC; rw [h n (by omega), ih]; by_cases hw : wriC ks V (n : Int) (m.s + 1) (shaF m.b) m.ps = 0
    . rw [if_pos hw, if_pos (by rw [decide_eq_true hw, decide_eq_true ⟨by omega, hn⟩]; rfl)]; rfl
    . rw [if_neg hw, if_neg (by rw [decide_eq_false hw, Bool.and_false]; exact Bool.false_ne_true)]
  . have e1 : min m.r.toNat (n + 1) = min m.r.toNat n := by omega
    rw [e1, <- ih]; exact grF_skip (by rw [decide_eq_false (fun h : (-1 : Int) < _ /\ _ => hn h.2)]; exact Bool.false_ne_true)
def bndI (b : Bd) : Int := if b.h = true then b.r else -1
def gtB (x y : Bd) : Bool := decide (x.l > y.l \/ (x.l = y.l /\ bndI x > bndI y))
def mxT (m : To) (l : List To) : To := l.foldl (fun m x => if gtB x.b m.b = true then x else m) m
def ciB (b : Bd) : Ci := ⟨b.l, b.h, b.d, b.b⟩
def srtN (a : List To) (n : Nat) : List To := (List.range n).filterMap (fun (i : Nat) => a.find? (fun t => decide (t.f = (i : Int))))
def srtT (a : List To) : List To := srtN a 16
def okB (b : Bd) : Prop := (b.h = true -> 0 <= b.r) /\ (b.h = false -> b.d = z32 /\ b.b = [])
structure TosIn (a : List To) : Prop where
 u : (a.map (fun t => t.f)).Nodup
 f : ∀ t ∈ a, 0 <= t.f /\ t.f < 16
 ok : ∀ t ∈ a, okB t.b
theorem okB_z : okB zBd := ⟨fun h => Bool.noConfusion h, fun _ => ⟨rfl, rfl⟩⟩
theorem okB_f (l : Int) : okB ⟨l, false, 0, z32, []⟩ := ⟨fun h => Bool.noConfusion h, fun _ => ⟨rfl, rfl⟩⟩
theorem okB_t (l : Int) (r : Nat) (d b : List UInt8) : okB ⟨l, true, (r : Int), d, b⟩ := ⟨fun _ => Int.natCast_nonneg _, fun h => Bool.noConfusion h⟩
theorem val_ok (ks : List (List UInt8)) (R : List Hx) (V : Vc) (first : Int) (m : Mg) : okB (valC ks R V first m).2 := by
 unfold valC
 repeat (first | exact okB_z | exact okB_f _ | exact okB_t _ _ _ _ | split)
theorem tos_nil : TosIn [] := ⟨by simp, fun t h => (by cases h), fun t h => (by cases h)⟩
theorem TosIn.snoc {a : List To} (h : TosIn a) {t : To} (h1 : ¬ a.any (fun s => decide (s.f = t.f)) = true) (h2 : 0 <= t.f /\ t.f < 16) (h3 : okB t.b) : TosIn (a ++ [t]) := by
 refine ⟨?_, fun s hs => ?_, fun s hs => ?_⟩
 . rw [List.map_append, List.nodup_append]; refine ⟨h.u, by simp, fun x hx y hy e => h1 ?_⟩; obtain ⟨s, hs, rfl⟩ := List.mem_map.1 hx; have hy : y = t.f := by simpa using hy
   exact List.any_eq_true.2 ⟨s, hs, decide_eq_true (by rw [<- hy]; exact e)⟩
 . rcases List.mem_append.1 hs with hs | hs
   . exact h.f s hs
   . rw [List.mem_singleton.1 hs]; exact h2
 . rcases List.mem_append.1 hs with hs | hs
   . exact h.ok s hs
   . rw [List.mem_singleton.1 hs]; exact h3
theorem TosIn.eq {a : List To} (h : TosIn a) {s t : To} (hs : s ∈ a) (ht : t ∈ a) (hf : s.f = t.f) : s = t := by
 obtain ⟨i, hi⟩ := List.getElem?_of_mem hs; obtain ⟨j, hj⟩ := List.getElem?_of_mem ht; have hu := h.u; obtain ⟨hil, e1⟩ := List.getElem?_eq_some_iff.1 hi; obtain ⟨hjl, e2⟩ := List.getElem?_eq_some_iff.1 hj
 have hij : i = j := by
  have h0 : i < (a.map (fun t => t.f)).length := by rw [List.length_map]; exact hil
  have h1 : j < (a.map (fun t => t.f)).length := by rw [List.length_map]; exact hjl
  refine (List.getElem_inj (h₀ := h0) (h₁ := h1) hu).1 ?_; rw [List.getElem_map, List.getElem_map, e1, e2]; exact hf
 subst hij; rw [hi] at hj; injection hj
def betT (t s : To) : Prop := s.b.l < t.b.l \/ (s.b.l = t.b.l /\ (bndI s.b < bndI t.b \/ (bndI s.b = bndI t.b /\ t.f < s.f)))
theorem betT.trans {a b c : To} (h1 : betT a b) (h2 : betT b c) : betT a c := by
 unfold betT at *
 omega
def TopT (a : List To) (t : To) : Prop := t ∈ a /\ ∀ s ∈ a, s ≠ t -> betT t s
theorem srt_mem {a : List To} (h : TosIn a) (t : To) : t ∈ srtT a ↔ t ∈ a := by
 unfold srtT srtN; rw [List.mem_filterMap]; constructor
 . rintro ⟨i, _, hi⟩; exact List.mem_of_find?_eq_some hi
 . intro ht; have hf := h.f t ht; refine ⟨t.f.toNat, by rw [List.mem_range]; omega, ?_⟩; cases hx : a.find? (fun s => decide (s.f = ((t.f.toNat : Nat) : Int))) with
   | none =>
    have := List.find?_eq_none.1 hx t ht; exact absurd (decide_eq_true (by omega)) this
   | some s =>
    have h1 := List.find?_some hx; have h2 := List.mem_of_find?_eq_some hx; have h1 := of_decide_eq_true h1; rw [h.eq h2 ht (by omega)]
theorem srt_sorted (a : List To) : ∀ n, (srtN a n).Pairwise (fun s t => s.f < t.f) /\ ∀ s ∈ srtN a n, s.f < (n : Int)
 | 0 => ⟨by unfold srtN; simp, fun s hs => by unfold srtN at hs; simp at hs⟩
 | n + 1 => by
  obtain ⟨h1, h2⟩ := srt_sorted a n
  have e : srtN a (n + 1) = srtN a n ++ (a.find? (fun t => decide (t.f = (n : Int)))).toList := by
   unfold srtN; rw [List.range_succ, List.filterMap_append]; cases hx : a.find? (fun t => decide (t.f = (n : Int))) <;> simp [hx]
  rw [e]; cases hx : a.find? (fun t => decide (t.f = (n : Int))) with
  | none =>
   rw [Option.toList_none, List.append_nil]; exact ⟨h1, fun s hs => by have := h2 s hs; omega⟩
  | some t =>
   have ht := List.find?_some hx; have ht : t.f = (n : Int) := of_decide_eq_true ht; have hnt : (n : Int) < ((n + 1 : Nat) : Int) := by omega
   refine ⟨List.pairwise_append.2 ⟨h1, by simp, fun s hs u hu => ?_⟩, fun s hs => ?_⟩
   . have hu : u = t := by simpa using hu
     subst hu; have := h2 s hs; omega
   . rcases List.mem_append.1 hs with hs | hs
     . have := h2 s hs; omega
     . have hs : s = t := by simpa using hs
       subst hs; omega
theorem mx_top : ∀ (l pre : List To) (m : To), m ∈ pre -> (∀ s ∈ pre, s ≠ m -> betT m s) -> (∀ s ∈ pre, ∀ t ∈ l, s.f < t.f) -> l.Pairwise (fun s t => s.f < t.f) -> TopT (pre ++ l) (mxT m l)
 | [], pre, m, hm, hb, _, _ => by
  rw [List.append_nil]; exact ⟨hm, hb⟩
 | x :: l, pre, m, hm, hb, hl, hp => by
  have hx := hl m hm x (by simp); obtain ⟨hp1, hp2⟩ := List.pairwise_cons.1 hp; have e : pre ++ x :: l = (pre ++ [x]) ++ l := by simp
  have hpl : ∀ s ∈ pre ++ [x], ∀ t ∈ l, s.f < t.f := by
   intro s hs t ht; rcases List.mem_append.1 hs with hs | hs
   . exact hl s hs t (List.mem_cons_of_mem _ ht)
   . rw [List.mem_singleton.1 hs]; exact hp1 t ht
  rw [e]; show TopT _ (mxT (if gtB x.b m.b = true then x else m) l); by_cases hg : gtB x.b m.b = true
  . rw [if_pos hg]; unfold gtB at hg; have hg := of_decide_eq_true hg; have hxm : betT x m := by unfold betT; omega
    refine mx_top l (pre ++ [x]) x (by simp) (fun s hs hne => ?_) hpl hp2; rcases List.mem_append.1 hs with hs | hs
    . by_cases hsm : s = m
      . rw [hsm]; exact hxm
      . exact hxm.trans (hb s hs hsm)
    . exact absurd (List.mem_singleton.1 hs) hne
  . rw [if_neg hg]; unfold gtB at hg; rw [decide_eq_true_eq] at hg; refine mx_top l (pre ++ [x]) m (List.mem_append_left _ hm) (fun s hs hne => ?_) hpl hp2; rcases List.mem_append.1 hs with hs | hs
    . exact hb s hs hne
    . rw [List.mem_singleton.1 hs]; unfold betT; omega
theorem top_fol {a : List To} (h : TosIn a) {t : To} (ht : TopT a t) : folC a = ciB t.b := by
 obtain ⟨hm, hb⟩ := ht
 match a, hm with
 | s :: l, hm =>
  have hge := las_ge (s :: l) s.b.l; obtain ⟨c, hc⟩ := nm (lasC s.b.l (s :: l))
  have hmem : ∃ u ∈ s :: l, u.b.l = c := by
   rw [hc]
   have : ∀ (l : List To) (c : Int), lasC c l = c \/ ∃ u ∈ l, u.b.l = lasC c l := by
    intro l
    induction l with
    | nil => intro c; exact .inl rfl
    | cons x l ih =>
     intro c; have e : lasC c (x :: l) = lasC (if x.b.l > c then x.b.l else c) l := rfl; rw [e]; rcases ih (if x.b.l > c then x.b.l else c) with h | ⟨u, hu, h⟩
     . by_cases hx : x.b.l > c
       . rw [if_pos hx] at h |-; exact .inr ⟨x, by simp, h.symm⟩
       . rw [if_neg hx] at h |-; exact .inl h
     . exact .inr ⟨u, List.mem_cons_of_mem _ hu, h⟩
   rcases this (s :: l) s.b.l with h | h
   . exact ⟨s, by simp, h.symm⟩
   . exact h
  rw [<- hc] at hge
  have htl : t.b.l = c := by
   obtain ⟨u, hu, e⟩ := hmem; have h1 := hge.2 t hm; by_cases hut : u = t
   . rw [<- hut]; exact e
   . have := hb u hu hut; unfold betT at this; omega
  have hf : folC (s :: l) = match besC (s :: l) c (s :: l).length with
   | none => ⟨c, false, z32, []⟩
   | some j => match (s :: l)[j]? with
    | none => zCi
    | some x => ⟨c, true, x.b.d, x.b.b⟩ := by rw [hc]; rfl
  rw [hf]; obtain ⟨i, hi⟩ := List.getElem?_of_mem hm; have hil := (List.getElem?_eq_some_iff.1 hi).1; have hok := h.ok t hm; cases hth : t.b.h with
  | false =>
   have hn : besC (s :: l) c (s :: l).length = none := by
    cases hx : besC (s :: l) c (s :: l).length with
    | none => rfl
    | some j =>
     exfalso; obtain ⟨_, x, hj, hw⟩ := bes_lt hx; unfold wanC at hw; rw [Bool.and_eq_true, decide_eq_true_eq] at hw; have hxm := List.mem_of_getElem? hj; have hxo := (h.ok x hxm).1 hw.2; by_cases hxt : x = t
     . rw [hxt] at hw; rw [hw.2] at hth; cases hth
     . have := hb x hxm hxt; unfold betT at this; have e1 : bndI x.b = x.b.r := if_pos hw.2; have e2 : bndI t.b = -1 := by unfold bndI; rw [hth]; rfl
       omega
   rw [hn]; dsimp only; unfold ciB; rw [(hok.2 hth).1, (hok.2 hth).2, htl, hth]
  | true =>
   have hwt : wanC c t = true := by unfold wanC; rw [hth, decide_eq_true htl]; rfl
   cases hx : besC (s :: l) c (s :: l).length with
   | none =>
    have := bes_none hx i hil t hi; rw [hwt] at this; cases this
   | some j =>
    have key : ∀ (n j : Nat), besC (s :: l) c n = some j -> n <= (s :: l).length -> ∀ k, k < n -> k ≠ j -> ∀ x y, (s :: l)[j]? = some x -> (s :: l)[k]? = some y -> wanC c y = true -> y.b.r < x.b.r \/ (y.b.r = x.b.r /\ x.f <= y.f) := by
     intro n
     induction n with
     | zero => intro j h; cases h
     | succ n ih =>
      intro j hj hn k hk hkj x y hx hy hw; obtain ⟨z, hz⟩ : ∃ z, (s :: l)[n]? = some z := ⟨_, List.getElem?_eq_getElem (by omega)⟩
      rw [bes_next hz] at hj
      split at hj
      . rename_i hwz; injection hj with hj
        subst hj; rw [hz] at hx; injection hx with hx
        subst hx; rw [Bool.and_eq_true] at hwz; have hkn : k < n := by omega
        cases hb : besC (s :: l) c n with
        | none =>
         have := bes_none hb k hkn y hy; rw [hw] at this; cases this
        | some q =>
         obtain ⟨_, v, hv, hwv⟩ := bes_lt hb; have h2 := hwz.2; rw [hb] at h2; unfold betC at h2; dsimp only at h2; rw [hv] at h2; dsimp only at h2; rw [Bool.or_eq_true, Bool.and_eq_true, decide_eq_true_eq, decide_eq_true_eq, decide_eq_true_eq] at h2; by_cases hkq : k = q
         . subst hkq; rw [hv] at hy; injection hy with hy
           subst hy; omega
         . have := ih q hb (by omega) k hkn hkq v y hv hy hw; omega
      . rename_i hwz; by_cases hkn : k = n
        . subst hkn; rw [hz] at hy; injection hy with hy
          subst hy; rw [hw, hj] at hwz; unfold betC at hwz; dsimp only at hwz; rw [hx] at hwz; dsimp only at hwz; rw [Bool.true_and, Bool.or_eq_true, Bool.and_eq_true, decide_eq_true_eq, decide_eq_true_eq, decide_eq_true_eq] at hwz; omega
        . exact ih j hj (by omega) k (by omega) hkj x y hx hy hw
    obtain ⟨hjl, x, hj, hwx⟩ := bes_lt hx; dsimp only; rw [hj]; dsimp only
    have hxt : x = t := by
     by_cases hij : i = j
     . subst hij; rw [hi] at hj; injection hj with hj
       exact hj.symm
     . have h1 := key _ j hx (Nat.le_refl _) i hil hij x t hj hi hwt; by_cases hne : x = t
       . exact hne
       . have h2 := hb x (List.mem_of_getElem? hj) hne; unfold wanC at hwx; rw [Bool.and_eq_true, decide_eq_true_eq] at hwx; unfold betT at h2; have e1 : bndI x.b = x.b.r := if_pos hwx.2; have e2 : bndI t.b = t.b.r := if_pos hth; omega
    subst hxt; unfold ciB; rw [hth, htl]
theorem fol_mx {a : List To} (h : TosIn a) {m : To} {l : List To} (hs : srtT a = m :: l) : folC a = ciB (mxT m l).b := by
 obtain ⟨hp, _⟩ := srt_sorted a 16; have hp : (srtT a).Pairwise (fun s t => s.f < t.f) := hp; rw [hs] at hp; obtain ⟨hp1, hp2⟩ := List.pairwise_cons.1 hp; have ht := mx_top l [m] m (by simp) (fun s hs hne => absurd (List.mem_singleton.1 hs) hne) (fun s hs t ht => by rw [List.mem_singleton.1 hs]; exact hp1 t ht) hp2; refine top_fol h ⟨(srt_mem h _).1 (by rw [hs]; exact ht.1), fun s hs2 hne => ht.2 s (by have := (srt_mem h s).2 hs2; rw [hs] at this; exact this) hne⟩
def RtPost (w : World) (bs : List UInt8) (k : Nat) (r : Except Nat (Nat × Nat)) (e : Ending) (w' : World) : Prop := match r with
 | .ok (n, sz) => ∃ v, e = .returned (.agg (gotL 0 v (sz + n) 0).toArray) /\ Rd w' (fun b => w.heap.size <= b) v (bys (((bs.drop k).drop sz).take n)) /\ Below w.heap.size w w'
 | .error er => e = .returned (.agg (gotL 0 (.slice none 0 0) 0 er).toArray) /\ Below w.heap.size w w'
theorem cnt_err {most : Int} {r : Except Nat (Nat × Nat)} {e : Nat} (h : cntR most r = .error e) (hr : ∀ e, r = .error e -> e = 1 \/ e = 2) : 1 <= e /\ e <= 3 := by
 cases r with
 | error e2 =>
  have h : Except.error e2 = Except.error e := h; injection h with h
  subst h; have := hr e2 rfl; omega
 | ok p =>
  obtain ⟨x, n⟩ := p; unfold cntR at h; dsimp only at h
  split at h
  . injection h with h; omega
  . cases h
theorem cnt_ok {most : Int} {bs : List UInt8} {n sz : Nat} (h : cntR most (readPk bs) = .ok (n, sz)) : (n : Int) <= most /\ sz <= bs.length := by
 cases hr : readPk bs with
 | error e => rw [hr] at h; cases h
 | ok p =>
  obtain ⟨x, m⟩ := p; rw [hr] at h; unfold cntR at h; dsimp only at h
  split at h
  . cases h
  . injection h with h
    injection h with h1 h2
    subst h1 h2; exact ⟨by omega, (packed_readPk hr).2.2⟩
theorem rtext_any (v : Value) (bs : List UInt8) (k most : Nat) (F : Nat -> Prop) (w : World) (h : Rd w F v (bys bs)) (hk : k <= bs.length) (hl : bs.length <= 1000000000000) (hm : most <= 1000000000000) :
 Calls Tryz.prog 99 #[v, .int .i64 (k : Int), .int .i64 (most : Int)] w (RtPost w bs k (textR most (bs.drop k))) := by
 obtain ⟨A, c, rfl⟩ := h.shape; have hB0 : Below w.heap.size w (w.alloc (.cells (gotL 0 (.slice none 0 0) 0 0).toArray 155)) := (Below.refl _ _).alloc (Nat.le_refl _) _; have bz := Blk.new' w 155 (gotL 0 (.slice none 0 0) 0 0); have h0 := h.below hB0; go_enter Tryz.func99, Tryz.ntmps99; go_wp2_with (first | (refine wp_new 155 rfl rfl zeroGot ?_; refine wp_stop ?_)); obtain ⟨w0, hw0⟩ := nm (w.alloc (.cells (gotL 0 (.slice none 0 0) 0 0).toArray 155)); obtain ⟨g, hg⟩ := nm (w.heap.size); rw [<- hw0] at bz h0 hB0 |-; rw [<- hg] at bz |-; have hgw : w.heap.size <= g := by omega
 clear hw0 hg; refine wp_go ?_; have hrp := rcount_any _ bs k most F w0 h0 hk hl hm; cases hr : cntR most (readPk (bs.drop k)) with
 | error e =>
  rw [hr] at hrp; have he := cnt_err hr (fun _ h => rd_err h)
  have hR : Hid (∀ W E, RtPost w bs k (textR most (bs.drop k)) W E ↔ (W = .returned (.agg (gotL 0 (.slice none 0 0) 0 e).toArray) /\ Below w.heap.size w E)) := hid fun W E => by
   have h2 : textR most (bs.drop k) = .error e := by unfold textR; rw [hr]
   rw [h2]; exact Iff.rfl
  have Hrp := hid hrp; clear hrp hr; go_wp2_with (fail); refine Hrp.out.mono ?_; rintro e' w1 ⟨rfl, hB1⟩; have bz1 := bz.below hB1; have hB1' := hB0.trans (hB1.mono hB0.size); clear bz h0 hB0 hB1 Hrp; go_wp2_with (first | (refine wp_newst 155 7 (.tmp 14) rfl rfl rfl rfl rfl rfl zeroGot (l := gotL 0 (.slice none 0 0) 0 e) rfl rfl sizeGot (one_got 0 0 e _ _ _) (by simp) ?_; intro w3 hb3 hB3 hs3; refine wp_stop ?_)); have bz3 := bz1.below hB3; have hBB := hB1'.trans (hB3.mono hB1'.size); obtain ⟨g3, hg3⟩ := nm (w1.heap.size); rw [<- hg3] at hb3 |-; clear hg3 bz1 hB1' hB3 hs3; have c3 := hb3.cellAt 3 _ rfl; have c0 := hb3.cellAt 0 _ rfl; have c1 := hb3.cellAt 1 _ rfl; have c2 := hb3.cellAt 2 _ rfl; have ne : ((e : Int) != 0) = true := by rw [bne_iff_ne]; omega
  refine wp_go ?_; go_wp2_with (first | (refine wp_st 155 (.tmp 6) (.tmp 18) rfl rfl rfl (f := 0) rfl (l := gotL 0 (.slice none 0 0) 0 e) rfl bz3 (by simp [gotL]) sizeGot (one_got 0 0 e _ _ _) ?_; intro w9 hb9 hG9; refine wp_stop ?_)); have hB9 := hBB.grown hG9 hBB.size (fun k hk => by injection hk with hk; omega); refine wp_go ?_; go_wp2; refine ret_cell rfl rfl hb9.whole Tryz.underlying155 rfl sizeGot rfl ?_; rw [hR.out]; exact ⟨rfl, hB9⟩
 | ok p =>
  obtain ⟨n, sz⟩ := p; rw [hr] at hrp; obtain ⟨hn, hsz⟩ := cnt_ok hr; rw [List.length_drop] at hsz; have Hr := hid hr; have Hrp := hid hrp; clear hrp hr; go_wp2_with (fail); refine Hrp.out.mono ?_; rintro e' w1 ⟨rfl, hB1⟩; have bz1 := bz.below hB1; have hB1' := hB0.trans (hB1.mono hB0.size); clear bz h0 hB0 hB1 Hrp; go_wp2_with (first | (refine wp_newst 155 7 (.tmp 14) rfl rfl rfl rfl rfl rfl zeroGot (l := gotL n (.slice none 0 0) sz 0) rfl rfl sizeGot (one_got n sz 0 _ _ _) (by simp) ?_; intro w3 hb3 hB3 hs3; refine wp_stop ?_)); have bz3 := bz1.below hB3; have hBB := hB1'.trans (hB3.mono hB1'.size); obtain ⟨g3, hg3⟩ := nm (w1.heap.size); have hg31 : g3 <= w1.heap.size /\ w1.heap.size < w3.heap.size := by omega
  rw [<- hg3] at hb3 |-; clear hg3 bz1 hB1' hB3 hs3; have c3 := hb3.cellAt 3 _ rfl; have c0 := hb3.cellAt 0 _ rfl; have c1 := hb3.cellAt 1 _ rfl; have c2 := hb3.cellAt 2 _ rfl; have hnw : IntKind.i64.wrap (n : Int) = (n : Int) := IntWalk.i64_in _ (by omega); have hf : IntKind.i64.wrap ((k : Int) + (sz : Int)) = ((k + sz : Nat) : Int) := by rw [show (k : Int) + (sz : Int) = ((k + sz : Nat) : Int) from by push_cast; rfl]; exact IntWalk.i64_in _ (by omega)
  have hle : k + sz <= bs.length := by omega
  have hsb : IntKind.i64.wrap ((bs.length : Int) - ((k + sz : Nat) : Int)) = ((bs.length - (k + sz) : Nat) : Int) := by rw [show (bs.length : Int) - ((k + sz : Nat) : Int) = ((bs.length - (k + sz) : Nat) : Int) from by omega]; exact IntWalk.i64_in _ (by omega)
  refine wp_go ?_; by_cases hsh : bs.length - (k + sz) < n
  . have hI : ((bs.length - (k + sz) : Nat) : Int) < (n : Int) := by omega
    have hR : Hid (∀ W E, RtPost w bs k (textR most (bs.drop k)) W E ↔ (W = .returned (.agg (gotL 0 (.slice none 0 0) 0 1).toArray) /\ Below w.heap.size w E)) := hid fun W E => by
     have h2 : textR most (bs.drop k) = .error 1 := by
      unfold textR; rw [Hr.out]; exact if_pos (by rw [List.length_drop]; omega)
     rw [h2]; exact Iff.rfl
    go_wp2_with (first | (refine wp_st 155 (.tmp 6) (.tmp 32) rfl rfl rfl (f := 0) rfl (l := gotL 0 (.slice none 0 0) 0 1) rfl bz3 (by simp [gotL]) sizeGot (one_got 0 0 1 _ _ _) ?_; intro w9 hb9 hG9; refine wp_stop ?_)); have hB9 := hBB.grown hG9 hBB.size (fun k hk => by injection hk with hk; omega); refine wp_go ?_; go_wp2; refine ret_cell rfl rfl hb9.whole Tryz.underlying155 rfl sizeGot rfl ?_; rw [hR.out]; exact ⟨rfl, hB9⟩
  . have hI : ¬ (((bs.length - (k + sz) : Nat) : Int) < (n : Int)) := by omega
    have hle2 : k + sz + n <= bs.length := by omega
    have hR : Hid (∀ W E, RtPost w bs k (textR most (bs.drop k)) W E ↔ ∃ v, W = .returned (.agg (gotL 0 v (sz + n) 0).toArray) /\ Rd E (fun b => w.heap.size <= b) v (bys (((bs.drop k).drop sz).take n)) /\ Below w.heap.size w E) := hid fun W E => by
     have h2 : textR most (bs.drop k) = .ok (n, sz) := by
      unfold textR; rw [Hr.out]; exact if_neg (by rw [List.length_drop]; omega)
     rw [h2]; exact Iff.rfl
    have hsn : IntKind.i64.wrap ((sz : Int) + (n : Int)) = ((sz + n : Nat) : Int) := by rw [show (sz : Int) + (n : Int) = ((sz + n : Nat) : Int) from by push_cast; rfl]; exact IntWalk.i64_in _ (by omega)
    have hto : IntKind.i64.wrap (((k + sz : Nat) : Int) + (n : Int)) = ((k + sz + n : Nat) : Int) := by rw [show ((k + sz : Nat) : Int) + (n : Int) = ((k + sz + n : Nat) : Int) from by push_cast; rfl]; exact IntWalk.i64_in _ (by omega)
    obtain ⟨fr, hfr⟩ := nm (k + sz); obtain ⟨tq, hto2⟩ := nm (fr + n); obtain ⟨sn, hsn2⟩ := nm (sz + n); rw [<- hfr] at hf hsb hI hto; rw [<- hto2] at hto; rw [<- hsn2] at hsn
    have hX : Hid (((bs.drop k).drop sz).take n = (bs.drop (fr : Int).toNat).take ((tq : Int).toNat - (fr : Int).toNat)) := by
     show _ = _; rw [List.drop_drop, Int.toNat_natCast, Int.toNat_natCast, <- hfr]
     congr 1
     omega
    have Hsn := hid hsn2; have hft : fr <= tq /\ tq <= bs.length := by omega
    clear hfr hto2 hsn2 hsh hle hle2 Hr; go_wp2_with (first | (refine wp_newst 155 10 (.tmp 37) rfl rfl rfl rfl rfl rfl zeroGot (l := gotL 0 (.slice none 0 0) sn 0) rfl rfl sizeGot (one_got 0 sn 0 _ _ _) (by simp) ?_; intro w5 hb5 hB5 hs5; refine wp_stop ?_)); have hgl3 := bz3.lt; have bz5 := (bz3.below hB5).drew; have hB5' := (hBB.trans (hB5.mono hBB.size))
    have hrd5 := (h.below hB5').drew; replace hB5' := hB5'.drew; obtain ⟨g5, hg5⟩ := nm (w3.heap.size); have hg53 : g5 ≠ g /\ w.heap.size <= g5 := by omega
    rw [<- hg5] at hb5 |-; clear hg5 bz3 hBB hB5 hs5 hb3 c0 c1 c2 c3 hgl3; have hb5 := hb5.drew; have c1 := hb5.cellAt 1 _ rfl; have h00 : w5.drew.ownsRow w5.drew.heap.size 5 1 (.slice none 0 0) 0 [] := World.ownsRow_nil _ _ _ _; obtain ⟨A', m', c', hcut, hr'⟩ := Rd.cut slB hrd5 (fr : Int) (tq : Int) (by omega) (by omega) (by omega); have hXl : (((bs.drop (fr : Int).toNat).take ((tq : Int).toNat - (fr : Int).toNat))).length = tq - fr := by rw [List.length_take, List.length_drop]; omega
    obtain ⟨X, hXe⟩ := nm ((bs.drop (fr : Int).toNat).take ((tq : Int).toNat - (fr : Int).toNat)); rw [<- hXe] at hr' hXl hX; have hXb : X.length <= 1000000000000 := by omega
    have hm' : m' = X.length := by
     obtain ⟨_, _, e⟩ := hr'.shape; injection e
    subst hm'; have hsr := hr'.src; clear hXe hXl hr'; refine wp_go ?_; go_wp2; refine wp_region_tail 8 (by kernel_rfl) (by kernel_rfl) ?_; simp only [List.take_succ_cons, List.take_zero, List.drop_succ_cons, List.drop_zero]
    repeat still_step
    refine wpStill_nil ?_; refine wp_app (.tmp 39) (.tmp 45) slB rfl rfl rfl h00 rfl hsr (oneCell_bvs X) (by simp only [maxLen]; omega) (by omega) (Nat.le_refl _) ?_; have hg5l := hb5.lt; have hgl := bz5.lt; have hwl := hB5'.size; intro v6 w6 ho6 hG6 _; rw [List.nil_append, Nat.zero_add] at ho6; have hB6 := hB5'.grown hG6 hB5'.size (fun k hk => by cases hk); have hb6 := hb5.keep (hG6.block _ hb5.lt (fun e => by cases e)); have bz6 := bz5.keep (hG6.block _ bz5.lt (fun e => by cases e)); have hrd6 := Rd.of_own ho6; obtain ⟨A6, c6, rfl⟩ := own_shape ho6; have hs1 : (Tryz.prog.info? 33).map (·.size) = some 1 := by kernel_rfl
    refine wp_stop ?_; refine wp_go ?_; go_wp2_with (first | (refine wp_st1 33 (.tmp 47) (.tmp 46) rfl rfl rfl (f := 1) rfl (v := .slice A6 X.length c6) rfl hb6 (by simp [gotL]) hs1 rfl rfl ?_; intro w7 hb7 hG7; refine wp_stop ?_)); have hb7 : Blk w7 g5 155 (gotL 0 (.slice A6 X.length c6) sn 0) := hb7; have hrd7 := hrd6.keep (F' := fun b => w5.drew.heap.size <= b) (fun b hb e => ⟨e, hG7.block b hb (fun e2 => by injection e2 with e2; have e : w5.drew.heap.size <= b := e; omega)⟩); have bz7 := bz6.keep (hG7.block _ bz6.lt (fun e => by injection e with e; exact hg53.1 e.symm)); have hB7 := hB6.grown hG7 hB6.size (fun k hk => by injection hk with hk; omega); clear hb6 bz6 hG7 hrd6 ho6 hB6 hb5 bz5 hG6 hB5' h00 hcut hsr hrd5; have c0 := hb7.cellAt 0 _ rfl; have c1 := hb7.cellAt 1 _ rfl; have c2 := hb7.cellAt 2 _ rfl; have c3 := hb7.cellAt 3 _ rfl; refine wp_go ?_; go_wp2_with (first | (refine wp_st 155 (.tmp 6) (.tmp 48) rfl rfl rfl (f := 0) rfl (l := gotL 0 (.slice A6 X.length c6) sn 0) rfl bz7 (by simp [gotL]) sizeGot (one_got 0 sn 0 _ _ _) ?_; intro w9 hb9 hG9; refine wp_stop ?_)); have hB9 := hB7.grown hG9 hB7.size (fun k hk => by injection hk with hk; omega); refine wp_go ?_; go_wp2; refine ret_cell rfl rfl hb9.whole Tryz.underlying155 rfl sizeGot rfl ?_; rw [hR.out]; refine ⟨.slice A6 X.length c6, by rw [<- Hsn.out]; rfl, ?_, hB9⟩; rw [hX.out]; exact hrd7.keep (fun b hb e => by have e : w5.drew.heap.size <= b := e; exact ⟨show w.heap.size <= b by omega, hG9.block b hb (fun e2 => by injection e2 with e2; omega)⟩)
def gM (l : List Value) (e : Nat) : List Value := l ++ [.int .i64 (e : Int)]
theorem len_gM {l : List Value} (h : l.length = 39) (e : Nat) : (gM l e).length = 40 := by unfold gM; rw [List.length_append, h]; rfl
theorem sizeG8 : (Tryz.prog.info? 69).map (·.size) = some 40 := by kernel_rfl
theorem zeroG8 : (Tryz.prog.info? 69).map (·.zero) = some (some (.agg (gM zM 0).toArray)) := by kernel_rfl
theorem bldG8 (e : Nat) : ∀ W : World, (Instr.build 69 [(1, .int .i64 (e : Int))].toArray).run Tryz.prog W = .ok (.agg (gM zM e).toArray) W := fun _ => by kernel_rfl
theorem one_gM {l : List Value} (h : ∀ v ∈ l, v.oneCell' = true) (e : Nat) : ∀ v ∈ gM l e, v.oneCell' = true := by
 intro v hv; unfold gM at hv; rw [List.mem_append, List.mem_singleton] at hv; rcases hv with hv | rfl
 . exact h v hv
 . rfl
theorem gM_err {l : List Value} (h : l.length = 39) (e : Nat) : (gM l e)[39]? = some (.int .i64 (e : Int)) := by
 unfold gM; rw [List.getElem?_append_right (by omega), h]; rfl
theorem gM_get {l : List Value} (h : l.length = 39) (e k : Nat) (hk : k < 39) : (gM l e)[k]? = l[k]? := by
 unfold gM; rw [List.getElem?_append_left (by omega)]
def RdP (w : World) (r : Except Nat Mg) (e : Ending) (w' : World) : Prop := match r with
 | .ok m => (∃ ub up, e = .returned (.agg (gM (m.l ub up) 0).toArray) /\ Rd w' (fun b => w.heap.size <= b) ub (bys m.b) /\ Rd w' (fun b => w.heap.size <= b) up (tx m.ps)) /\ Below w.heap.size w w'
 | .error k => e = .returned (.agg (gM zM k).toArray) /\ Below w.heap.size w w'
end Go.Proofs.YtnhhbbjkeekneaaGreatDoor
