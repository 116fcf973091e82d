/- CD: several texts in one (Zw CB CD). -/
import Derived.Test.YtnhhbbjkeekneaaGreatDoorZv
import Derived.Test.YtnhhbbjkeekneaaGreatDoorZq
import Derived.Test.YtnhhbbjkeekneaaGreatDoorM1
import Derived.Test.YtnhhbbjkeekneaaGreatDoorXa
import Derived.Test.YtnhhbbjkeekneaaGreatDoorCq
import Derived.Test.YtnhhbbjkeekneaaGreatDoorS3
import Derived.Deep.DeepCutAuto
import Derived.Deep.RegionHeld3
import Derived.Test.YtnhhbbjkeekneaaGreatDoorF
set_option maxRecDepth 100000
set_option maxHeartbeats 16000000
namespace Go.Proofs.YtnhhbbjkeekneaaGreatDoor
open Go.RowKit Go.V
def toD : WD To 36 := ⟨fun t => .atom (.int .i64 t.b.l) :: .atom (.bool t.b.h) :: .atom (.int .i64 t.b.r) :: ((bvs t.b.d).map .atom ++ [bys t.b.b]), fun t => by simp [bvs, t.hh], by omega⟩
theorem to_open {w : World} {F : Nat -> Prop} {t : To} {cs : List Value} (h : WdEl w F toD t cs) : ∃ ub, cs = bdL t.b ub /\ Rd w F ub (bys t.b.b) := by
 obtain ⟨hl, ha⟩ := h; have hh := t.hh
 match cs, hl with
 | c0 :: c1 :: c2 :: cs, hl =>
  have hl : cs.length = 33 := by simpa using hl
  have h0 := ha 0 c0 _ rfl rfl; have h1 := ha 1 c1 _ rfl rfl; have h2 := ha 2 c2 _ rfl rfl; unfold Rd at h0 h1 h2; subst h0 h1 h2; have hat : ∀ j v d, cs[j]? = some v -> ((bvs t.b.d).map Dat.atom ++ [bys t.b.b])[j]? = some d -> Rd w F v d := fun j v d hv hd => ha (j + 3) v d (by simpa using hv) (by simpa [toD] using hd); have hbl : (bvs t.b.d).length = 32 := by simp [bvs, hh]
  obtain ⟨ub, hub⟩ : ∃ ub, cs[32]? = some ub := ⟨_, List.getElem?_eq_getElem (by omega)⟩
  refine ⟨ub, ?_, hat 32 ub _ hub (by rw [List.getElem?_append_right (by simp [hbl])]; simp [hbl])⟩
  have e : cs = bvs t.b.d ++ [ub] := by
   apply List.ext_getElem?; intro j; by_cases hj : j < 32
   . obtain ⟨v, hv⟩ : ∃ v, cs[j]? = some v := ⟨_, List.getElem?_eq_getElem (by omega)⟩
     obtain ⟨u, hu⟩ : ∃ u, (bvs t.b.d)[j]? = some u := ⟨_, List.getElem?_eq_getElem (by omega)⟩
     have := hat j v (.atom u) hv (by rw [List.getElem?_append_left (by simp [hbl]; omega), List.getElem?_map, hu]; rfl); unfold Rd at this; rw [hv, this, List.getElem?_append_left (by omega), hu]
   . by_cases h32 : j = 32
     . subst h32; rw [hub, List.getElem?_append_right (by omega), hbl]; rfl
     . rw [List.getElem?_eq_none (by omega), List.getElem?_eq_none (by simp [hbl]; omega)]
  rw [e]; unfold bdL; simp
theorem to_mk {w : World} {F : Nat -> Prop} {t : To} {ub : Value} (h1 : Rd w F ub (bys t.b.b)) : WdEl w F toD t (bdL t.b ub) := by
 refine ⟨len_bd t.hh ub, fun j v d hv hd => ?_⟩; have hh := t.hh; have hbl : (bvs t.b.d).length = 32 := by simp [bvs, hh]
 match j with
 | 0 => simp [bdL, toD] at hv hd; subst hv hd; unfold Rd; rfl
 | 1 => simp [bdL, toD] at hv hd; subst hv hd; unfold Rd; rfl
 | 2 => simp [bdL, toD] at hv hd; subst hv hd; unfold Rd; rfl
 | j + 3 =>
  have hv : (bvs t.b.d ++ [ub])[j]? = some v := by simpa [bdL] using hv
  have hd : ((bvs t.b.d).map Dat.atom ++ [bys t.b.b])[j]? = some d := by simpa [toD] using hd
  by_cases hj : j < 32
  . rw [List.getElem?_append_left (by omega)] at hv; rw [List.getElem?_append_left (by simp [hbl]; omega), List.getElem?_map, hv] at hd; simp at hd; subst hd; unfold Rd; rfl
  . rw [List.getElem?_append_right (by omega), hbl] at hv; rw [List.getElem?_append_right (by simp [hbl]; omega), List.length_map, hbl] at hd; by_cases h32 : j = 32
    . subst h32; simp at hv hd; subst hv hd; exact h1
    . rw [List.getElem?_eq_none (by simp; omega)] at hv; cases hv
theorem one_bd {x : Bd} {A : Option Addr} {n c : Nat} : ∀ v ∈ bdL x (.slice A n c), v.oneCell' = true := fun v hv => one_td (e := 0) v (List.mem_append_left _ hv)
theorem bd_l (x : Bd) (u : Value) : (bdL x u)[0]? = some (.int .i64 x.l) := rfl
theorem bd_h (x : Bd) (u : Value) : (bdL x u)[1]? = some (.bool x.h) := rfl
theorem bd_r (x : Bd) (u : Value) : (bdL x u)[2]? = some (.int .i64 x.r) := rfl
theorem bd_d (x : Bd) (u : Value) : ∀ (j : Nat) (v : Value), (bvs x.d)[j]? = some v -> (bdL x u)[3 + j]? = some v := by
 intro j v hv; have hj : j < (bvs x.d).length := (List.getElem?_eq_some_iff.1 hv).1; unfold bdL; rw [List.append_assoc, List.getElem?_append_right (by show 3 <= 3 + j; omega), show 3 + j - [Value.int .i64 x.l, .bool x.h, .int .i64 x.r].length = j from by show 3 + j - 3 = j; omega, List.getElem?_append_left hj]; exact hv
theorem bd_b {x : Bd} (h : x.d.length = 32) (u : Value) : (bdL x u)[35]? = some u := by
 have := td_get35 x.l x.h x.r x.d x.b u 0 h; unfold tdL at this
 rwa [List.getElem?_append_left (by rw [len_bd (x := ⟨x.l, x.h, x.r, x.d, x.b⟩) h]; omega)] at this
theorem td_e {x : Bd} (h : x.d.length = 32) (u : Value) (e : Int) : (tdL x u e)[36]? = some (.int .i64 e) := by
 unfold tdL; rw [List.getElem?_append_right (by rw [len_bd h]; omega), len_bd h]; rfl
theorem td_bd (x : Bd) (u : Value) (e : Int) : ∀ (j : Nat) (v : Value), (bdL x u)[j]? = some v -> (tdL x u e)[0 + j]? = some v := by
 intro j v hv; unfold tdL; rw [Nat.zero_add, List.getElem?_append_left (List.getElem?_eq_some_iff.1 hv).1]; exact hv
def zBdL : List Value := bdL zBd (.slice none 0 0)
theorem slBd19 : SlW Tryz.prog 67 51 zBdL 36 80 := .of Tryz.underlying67 (by kernel_rfl) rfl (by omega) (by omega)
theorem sizeBd19 : (Tryz.prog.info? 51).map (·.size) = some 36 := by kernel_rfl
theorem len_ci {x : Ci} (h : x.d.length = 32) (u : Value) : (ciL x u).length = 35 := by unfold ciL; simp [len_bvs, h]
theorem one_ci {x : Ci} {A : Option Addr} {n c : Nat} : ∀ v ∈ ciL x (.slice A n c), v.oneCell' = true := by
 intro v hv; unfold ciL at hv; simp only [List.mem_append, List.mem_cons, List.not_mem_nil, or_false] at hv; rcases hv with ((rfl | rfl) | h) | rfl
 . rfl
 . rfl
 . exact oneCell_bvs _ v h
 . rfl
theorem sizeCi : (Tryz.prog.info? 35).map (·.size) = some 35 := by kernel_rfl
theorem zeroCi : (Tryz.prog.info? 35).map (·.zero) = some (some (.agg (ciL zCi (.slice none 0 0)).toArray)) := by kernel_rfl
theorem bldC0 : ∀ W : World, (Instr.build 35 [].toArray).run Tryz.prog W = .ok (.agg (ciL zCi (.slice none 0 0)).toArray) W := fun _ => by kernel_rfl
theorem bldC1 (l : Int) : ∀ W : World, (Instr.build 35 [(0, .int .i64 l)].toArray).run Tryz.prog W = .ok (.agg (ciL ⟨l, false, z32, []⟩ (.slice none 0 0)).toArray) W := fun _ => by kernel_rfl
theorem ci_set0 (l l2 : Int) (b : Bool) (d bb : List UInt8) (u : Value) : (ciL ⟨l, b, d, bb⟩ u).set 0 (.int .i64 l2) = ciL ⟨l2, b, d, bb⟩ u := rfl
theorem ci_set1 (l : Int) (b b2 : Bool) (d bb : List UInt8) (u : Value) : (ciL ⟨l, b, d, bb⟩ u).set 1 (.bool b2) = ciL ⟨l, b2, d, bb⟩ u := rfl
theorem ci_hash (l : Int) (b : Bool) (d d2 bb : List UInt8) (u : Value) (h1 : d.length = 32) (h2 : d2.length = 32) : (ciL ⟨l, b, d, bb⟩ u).take 2 ++ bvs d2 ++ (ciL ⟨l, b, d, bb⟩ u).drop (2 + (bvs d2).length) = ciL ⟨l, b, d2, bb⟩ u := by
 unfold ciL; rw [len_bvs, h2]; have hb : (bvs d).length = 32 := by rw [len_bvs]; exact h1
 show [Value.int .i64 l, .bool b] ++ bvs d2 ++ (bvs d ++ [u]).drop 32 = _; rw [List.drop_append_of_le_length (by omega), List.drop_of_length_le (by omega)]; simp
theorem ci_set34 (l : Int) (b : Bool) (d bb bb2 : List UInt8) (u v : Value) (h1 : d.length = 32) : (ciL ⟨l, b, d, bb⟩ u).set 34 v = ciL ⟨l, b, d, bb2⟩ v := by
 unfold ciL; have hb : ([Value.int .i64 l, .bool b] ++ bvs d).length = 34 := by rw [List.length_append, len_bvs, h1]; rfl
 show ([Value.int .i64 l, .bool b] ++ bvs d ++ [u]).set 34 v = _; rw [List.set_append_right _ _ (by omega), hb]; rfl
theorem row_to {w : World} {base : Nat} {e : TypeId} {F : Nat -> Prop} {v : Value} {l : List To} {xs : List Value} (ho : w.ownsRow base e 36 v l.length xs) (hx : WdX w F toD l xs) (hn : 0 < l.length) : ∃ g c, v = .slice (some ⟨g, 0, none⟩) l.length c /\ base <= g /\ g < w.heap.size /\ ∀ (j : Nat) (t : To), l[j]? = some t -> ∃ ub, w.rangeAt g (j * 36) (bdL t.b ub) /\ Rd w F ub (bys t.b.b) := by
 obtain ⟨g, c, h1, h2, h3, h4⟩ := ownW_range ho hn; refine ⟨g, c, h1, h2, h3, fun j t hj => ?_⟩; obtain ⟨cs, h5, h6⟩ := hx.get j t hj; obtain ⟨ub, h7, h8⟩ := to_open h5; subst h7; refine ⟨ub, fun i u hu => ?_, h8⟩; have := h4 (j * 36 + i) u (h6 i u hu)
 rwa [Nat.zero_add] at this
def ChQ (w : World) (T : Ci × Int) (e : Ending) (w' : World) : Prop := ∃ u, e = .returned (.tuple #[.agg (ciL T.1 u).toArray, .int .i64 T.2]) /\ Rd w' (fun b => w.heap.size <= b) u (bys T.1.b) /\ Below w.heap.size w w'
theorem ChQ.err {w w' : World} {T : Ci × Int} {er : Int} (h : T = (zCi, er)) (hB : Below w.heap.size w w') : ChQ w T (.returned (.tuple #[.agg (ciL zCi (.slice none 0 0)).toArray, .int .i64 er])) w' := by
 subst h; exact ⟨_, rfl, Rd.nil _ _, hB⟩
theorem isq17_any (n : Int) (M S : Nat) (w : World) (h : M < 65536) (hS : S < 65536) :
 Calls Tryz.prog 58 #[vw n M, .int .u16 (S : Int)] w fun e w' => e = .returned (.bool (decide (quoN n M <= szM S))) /\ Below w.heap.size w w' := by
 have hquo := (quo_any n M · h)
 have hone : ∀ W : World, Calls Tryz.prog 36 #[.int .u16 (S : Int)] W fun e w' => e = .returned (.int .i64 (szM S : Int)) /\ Below W.heap.size W w' := fun W => (ones_any S W hS).mono (by rintro e w1 ⟨rfl, k, rfl⟩; exact ⟨rfl, Go.below_drewN (Below.refl _ _) k⟩); have hbv := Blk.new' w 24 [.int .i64 n, .int .u16 (M : Int)]; have hB : Below w.heap.size w (w.alloc (.cells #[.int .i64 n, .int .u16 (M : Int)] 24)) := (Below.refl _ _).alloc (Nat.le_refl _) _; unfold vw at hquo |-; obtain ⟨wq, hwq⟩ := nm (w.alloc (.cells #[.int .i64 n, .int .u16 (M : Int)] 24)); rw [<- hwq] at hbv hB; obtain ⟨q, hq⟩ := nm (quoN n M); rw [<- hq] at hquo |-; obtain ⟨s, hs⟩ := nm (szM S); rw [<- hs] at hone |-; clear hq hs; have HV : Hid (∀ W, Ch nob wq W -> W.rangeAt w.heap.size 0 [.int .i64 n, .int .u16 (M : Int)]) := fun W h => hbv.chAt (fun h => h) h; obtain ⟨d, hd⟩ := nm (decide (q <= s)); have Hd : Hid (decide (q <= s) = d) := hid hd.symm; rw [<- hd]; obtain ⟨g, hg⟩ := nm (w.heap.size); rw [<- hg] at HV; have Hg := hid hg; clear hbv hd hg; go_enter Tryz.func58, Tryz.ntmps58; go_upto_region 1 with (fail)
 first | rw [<- hwq] | (simp only [List.toArray] at hwq |-; rw [<- hwq])
 rw [<- Hg.out]; clear hwq; refine wp_region_noPanic ?_; refine wp_region_held_drew (S := Ch nob wq) (by kernel_rfl) ((Ch.refl _ _).drew) (fun hHeld => ?_); refine tkP 0 rfl ?_; refine tkY 2 rfl (yieldsIf_load_mid (by rfl) 24 (.tmp 2) (by rfl) _ (0) (by rfl) _ _ (fun _ hs => HV.out _ hs) Tryz.underlying24 rfl (sizeV)) ?_; refine rdH 1 rfl (fun K hK => ?_); go_simp; refine (hone _).mono ?_; rintro e' w11 ⟨rfl, hB11⟩; have hC11 := hHeld.belowR hB11; refine hK.out _ _ (hC11) (fun hHeld => ?_); clear hK K
 try simp only [nP]
 refine rdH 3 rfl (fun K hK => ?_); go_simp; refine (hquo _).mono ?_; rintro e' w12 ⟨rfl, hB12⟩; have hC12 := hC11.belowR hB12; refine hK.out _ _ (hC12) (fun hHeld => ?_); clear hK K
 try simp only [nP]
 refine tkP 4 rfl ?_; refine tkP 5 rfl ?_; refine wpAnyH_done (by kernel_rfl) ?_ _; refine NoPanic.normal ?_; go_wp2; go_ret; exact ⟨ret_b Hd.out, hB.trans (hHeld.below.mono hB.size)⟩
theorem mayp17_any (n : Int) (M : Nat) (P : List (List UInt8)) (A : Option Addr) (c : Nat) (w : World) (h : M < 65536) (hP : P.length <= 1000) :
 Calls Tryz.prog 56 #[vw n M, .slice A P.length c] w fun e w' => e = .returned (.bool (okC ⟨n, M⟩ P)) /\ Below w.heap.size w w' := by
 have hr := (right_any n M · h)
 have hB : Below w.heap.size w (w.alloc (.cells #[.int .i64 n, .int .u16 (M : Int)] 24)) := (Below.refl _ _).alloc (Nat.le_refl _) _; unfold vw at hr |-; have Hok : Hid (okC ⟨n, M⟩ P = (rgt n M && decide (P.length <= 16))) := hid rfl; obtain ⟨ok, hok⟩ := nm (okC ⟨n, M⟩ P); rw [<- hok] at Hok |-; clear hok; obtain ⟨b, hb⟩ := nm (rgt n M); rw [<- hb] at Hok hr; clear hb; go_enter Tryz.func56, Tryz.ntmps56; go_wp2_with (fail); refine (hr _).mono ?_; rintro e w1 ⟨rfl, hB1⟩; have hB1' := hB.trans (hB1.mono hB.size); clear hB1; cases b with
 | false =>
  go_wp2; go_ret; exact ⟨ret_b (by rw [Hok.out]; rfl), hB1'⟩
 | true =>
  by_cases hl : P.length <= 16
  . have hI : (P.length : Int) <= 16 := by omega
    go_wp2; go_ret; exact ⟨ret_b (by rw [Hok.out, decide_eq_true hl]; simp; try omega), hB1'⟩
  . have hI : ¬ (P.length : Int) <= 16 := by omega
    go_wp2; go_ret; exact ⟨ret_b (by rw [Hok.out, decide_eq_false hl]; simp; try omega), hB1'⟩
structure FD (w : World) (gk gv gm : Nat) (uk ur : Value) (n : Int) (M : Nat) (l : List Value) : Prop where
 k : Blk w gk 40 [uk, ur]
 v : Blk w gv 24 [.int .i64 n, .int .u16 (M : Int)]
 m : Blk w gm 47 l
theorem FD.below {w w' : World} {gk gv gm : Nat} {uk ur : Value} {n : Int} {M : Nat} {l : List Value} (h : FD w gk gv gm uk ur n M l) (hB : Below w.heap.size w w') : FD w' gk gv gm uk ur n M l := ⟨h.k.below hB, h.v.below hB, h.m.below hB⟩
theorem FD.keep {w w' : World} {gk gv gm : Nat} {uk ur : Value} {n : Int} {M : Nat} {l : List Value} (h : FD w gk gv gm uk ur n M l) (hB : ∀ b, b = gk \/ b = gv \/ b = gm -> w'.heap[b]? = w.heap[b]?) : FD w' gk gv gm uk ur n M l := ⟨h.k.keep (hB _ (.inl rfl)), h.v.keep (hB _ (.inr (.inl rfl))), h.m.keep (hB _ (.inr (.inr rfl)))⟩
theorem finder17_any (l : List Value) (uk ur : Value) (n : Int) (M : Nat) (w : World) :
 Calls Tryz.prog 57 #[.agg #[uk, ur], vw n M, .agg l.toArray] w fun e w' => ∃ gk gv gm, e = .returned (.func (.func 86) #[] #[.pointer (some ⟨gk, 0, none⟩), .pointer (some ⟨gv, 0, none⟩), .pointer (some ⟨gm, 0, none⟩)]) /\ FD w' gk gv gm uk ur n M l /\ (w.heap.size <= gk /\ w.heap.size <= gv /\ w.heap.size <= gm) /\ Below w.heap.size w w' := by
 obtain ⟨W0, hW0, b4, b5, b6, hB⟩ := alloc3 w 40 24 47 [uk, ur] [.int .i64 n, .int .u16 (M : Int)] l; have hq := hid (fun W (h : W = W0) => (⟨_, _, _, rfl, ⟨h ▸ b4, h ▸ b5, h ▸ b6⟩, ⟨by omega, by omega, by omega⟩, h ▸ hB⟩ : ∃ gk gv gm, Ending.returned (.func (.func 86) #[] #[.pointer (some ⟨w.heap.size, 0, none⟩), .pointer (some ⟨w.heap.size + 1, 0, none⟩), .pointer (some ⟨w.heap.size + 1 + 1, 0, none⟩)]) = .returned (.func (.func 86) #[] #[.pointer (some ⟨gk, 0, none⟩), .pointer (some ⟨gv, 0, none⟩), .pointer (some ⟨gm, 0, none⟩)]) /\ FD W gk gv gm uk ur n M l /\ (w.heap.size <= gk /\ w.heap.size <= gv /\ w.heap.size <= gm) /\ Below w.heap.size w W)); unfold vw; clear b4 b5 b6 hB; go_enter Tryz.func57, Tryz.ntmps57; go_wp2
 first | rw [<- hW0] | (simp only [List.toArray] at hW0 |-; rw [<- hW0])
 go_ret; exact hq.out _ rfl
def zMg : Mg := ⟨0, 0, 0, 0, 0, List.replicate 32 0, [], []⟩
theorem zM_eq : zM = zMg.l (.slice none 0 0) (.slice none 0 0) := by simp [zM, zMg, Mg.l, zs8, bvs, byteV]
def OpP (w : World) (r : Except Nat Mg) (e : Ending) (w' : World) : Prop := ∃ (x : Mg) (A B : Option Addr) (a b c d k : Nat), e = .returned (.tuple #[.agg (x.l (.slice A a b) (.slice B c d)).toArray, .int .i64 (k : Int)]) /\ x.h.length = 32 /\ (k = 0 -> r = .ok x) /\ (k ≠ 0 -> ∃ k', r = .error k') /\ Below w.heap.size w w'
theorem op_P {ks : List (List UInt8)} {V : Vc} {X : List UInt8} {w w' : World} {e : Ending} (h : ReadP w (opOf ks V X) e w') : OpP w (opOf ks V X) e w' := by
 cases hr : opOf ks V X with
 | error k =>
  rw [hr] at h; obtain ⟨rfl, hB⟩ := h; have hk := opof_pos hr; exact ⟨zMg, none, none, 0, 0, 0, 0, k, by rw [zM_eq], by simp [zMg], fun h => absurd h hk, fun _ => ⟨k, rfl⟩, hB⟩
 | ok m =>
  rw [hr] at h; obtain ⟨⟨ub, up, rfl, hub, hup⟩, hB⟩ := h; obtain ⟨Ab, cb, rfl⟩ := hub.shape; obtain ⟨Ap, cp, rfl, _, _⟩ := hup.slShape; exact ⟨m, Ab, Ap, m.b.length, cb, m.ps.length, cp, 0, rfl, (opof_ok hr).1, fun _ => rfl, fun h => absurd rfl h, hB⟩
def FndP (w : World) (o : Option Mg) (e : Ending) (w' : World) : Prop := ∃ l : List Value, e = .returned (.tuple #[.agg l.toArray, .bool o.isSome]) /\ l.length = 39 /\ (∀ v ∈ l, v.oneCell' = true) /\ (∀ m, o = some m -> l[1]? = some (.int .i64 m.f) /\ l[3]? = some (.int .i64 m.r)) /\ Below w.heap.size w w'
theorem fnd_P {ks : List (List UInt8)} {V : Vc} {q : Qc} {X : List UInt8} {x : Mg} {k : Nat} {al : Bool} (hal : al = decide (x.k = q.k /\ x.v = q.v /\ x.s = q.s /\ x.h = q.h)) (h0 : k = 0 -> opOf ks V X = .ok x) (h1 : k ≠ 0 -> ∃ k', opOf ks V X = .error k') : (fndC ks V q X).isSome = (decide (k = 0) && decide (x.v = V.n) && al) /\ ∀ m, fndC ks V q X = some m -> m = x := by
 unfold fndC; by_cases hk : k = 0
 . rw [h0 hk]; dsimp only; rw [hal]; by_cases hc : x.v = V.n /\ x.k = q.k /\ x.v = q.v /\ x.s = q.s /\ x.h = q.h
   . rw [if_pos hc]; refine ⟨?_, fun m h => by injection h with h; exact h.symm⟩; rw [decide_eq_true hk, decide_eq_true hc.1, decide_eq_true hc.2]; rfl
   . rw [if_neg hc]; refine ⟨?_, fun m h => by cases h⟩; rw [decide_eq_true hk, Bool.true_and, <- Bool.decide_and]; exact (decide_eq_false hc).symm
 . obtain ⟨k', hk'⟩ := h1 hk; rw [hk']; refine ⟨?_, fun m h => by cases h⟩; rw [decide_eq_false hk]; rfl
theorem beqT {a b : Int} (h : a = b) : (a == b) = true := by rw [h]; simp
theorem beqF {a b : Int} (h : a ≠ b) : (a == b) = false := by rw [beq_eq_false_iff_ne]; exact h
theorem find17_any (ks : List (List UInt8)) (V : Vc) (X : List UInt8) (m : Mg) (gk gv gm : Nat) (uk ur v ub up : Value) (F G : Nat -> Prop) (w : World) (hKS : KS w) (hks : KsSm ks) (hk : Rd w F uk (tx ks)) (hv : Rd w G v (bys X)) (hX : X.length <= 1000000) (hV : V.m < 65536) (hm : m.h.length = 32) (hD : FD w gk gv gm uk ur V.n V.m (m.l ub up)) :
 Calls Tryz.prog 86 #[v, .pointer (some ⟨gk, 0, none⟩), .pointer (some ⟨gv, 0, none⟩), .pointer (some ⟨gm, 0, none⟩)] w (FndP w (fndC ks V (qOf m) X)) := by
 obtain ⟨n, M⟩ := V; dsimp only at hV hD; obtain ⟨A, c, rfl⟩ := hv.shape; obtain ⟨bk, bv, bm⟩ := hD; have Hm0 : Hid ((m.l ub up)[0]? = some (.int .i64 m.k)) := hid rfl; have Hm2 : Hid ((m.l ub up)[2]? = some (.int .i64 m.v)) := hid rfl; have Hm4 : Hid ((m.l ub up)[4]? = some (.int .i64 m.s)) := hid rfl; have Hmh := hid (mg_hash hm ub up); have b5 := Blk.new' w 47 zM; have hB : Below w.heap.size w (w.alloc (.cells zM.toArray 47)) := (Below.refl _ _).alloc (Nat.le_refl _) _; have Hop := hid (fun F G Y h0 h1 h2 => (openof9_any ks ⟨n, M⟩ X uk ur (.slice A X.length c) F G Y h0 hks h1 h2 hX hV).mono (fun e w' h => op_P h)); have bk := bk.below hB; have bv := bv.below hB; have bm := bm.below hB; have hKS := hKS.below hB; have hk := hk.below hB; have hv := hv.below hB; obtain ⟨lm, hlm⟩ := nm (m.l ub up); rw [<- hlm] at bm Hm0 Hm2 Hm4 Hmh; obtain ⟨o, ho⟩ := nm (fndC ks ⟨n, M⟩ (qOf m) X); rw [<- ho]; have Ho := hid ho; clear ho hlm; obtain ⟨r, hr⟩ := nm (opOf ks ⟨n, M⟩ X); rw [<- hr] at Hop; have Hr := hid hr; clear hr; unfold vw at Hop; go_enter Tryz.func86, Tryz.ntmps86; go_wp2_with (first | (refine wp_new 47 rfl rfl zeroM ?_; refine wp_stop ?_)); obtain ⟨w0, hw0⟩ := nm (w.alloc (.cells zM.toArray 47)); rw [<- hw0] at bk bv bm b5 hB hKS hk hv |-; clear hw0; obtain ⟨g5, hg5⟩ := nm (w.heap.size); rw [<- hg5] at b5 |-; have hw5 : w.heap.size <= g5 := by omega
 clear hg5; refine wp_go ?_; go_wp2_with (first | refine wp_ld 40 (.tmp 1) rfl rfl rfl bk.whole Tryz.underlying40 rfl sizeKs17 ?_ | refine wp_ld 24 (.tmp 2) rfl rfl rfl bv.whole Tryz.underlying24 rfl sizeVw17 ?_); refine (Hop.out _ _ _ hKS hk hv).mono ?_; rintro e w1 ⟨x, xA, xB, a1, a2, a3, a4, k, rfl, hxh, h0, h1, hB1⟩; have bv := bv.below hB1; have bm := bm.below hB1; have b5 := b5.below hB1; have hB := hB.trans (hB1.mono hB.size); have hl39 : (x.l (.slice xA a1 a2) (.slice xB a3 a4)).length = 39 := len_mg hxh _ _; have Hx0 : Hid ((x.l (.slice xA a1 a2) (.slice xB a3 a4))[0]? = some (.int .i64 x.k)) := hid rfl; have Hx1 : Hid ((x.l (.slice xA a1 a2) (.slice xB a3 a4))[1]? = some (.int .i64 x.f)) := hid rfl; have Hx2 : Hid ((x.l (.slice xA a1 a2) (.slice xB a3 a4))[2]? = some (.int .i64 x.v)) := hid rfl; have Hx3 : Hid ((x.l (.slice xA a1 a2) (.slice xB a3 a4))[3]? = some (.int .i64 x.r)) := hid rfl; have Hx4 : Hid ((x.l (.slice xA a1 a2) (.slice xB a3 a4))[4]? = some (.int .i64 x.s)) := hid rfl; have Hxc := hid (mg_hash hxh (.slice xA a1 a2) (.slice xB a3 a4)); have Hlo := hid (mg_one x xA xB a1 a2 a3 a4); obtain ⟨lx, hlx⟩ := nm (x.l (.slice xA a1 a2) (.slice xB a3 a4)); rw [<- hlx] at hl39 Hx0 Hx1 Hx2 Hx3 Hx4 Hxc Hlo |-; have Hl39 := hid hl39; obtain ⟨al, hal⟩ := nm (decide (x.k = m.k /\ x.v = m.v /\ x.s = m.s /\ x.h = m.h)); have HF : Hid (o.isSome = (decide (k = 0) && decide (x.v = n) && al) /\ ∀ m', o = some m' -> m' = x) := hid (by rw [Ho.out]; exact fnd_P (q := qOf m) hal (fun h => Hr.out.symm.trans (h0 h)) (fun h => by obtain ⟨k', h'⟩ := h1 h; exact ⟨k', Hr.out.symm.trans h'⟩)); have Hal := hid hal; clear hlx hl39 hal h0 h1 Ho Hr Hop bk hKS hk hv hB1 hX; go_wp2_with (first | (refine wp_newst 47 7 (.tmp 15) rfl rfl rfl rfl rfl rfl zeroM (l := lx) rfl (by rw [Hl39.out]; exact len_zM) (by rw [Hl39.out]; exact sizeM) Hlo.out (by simp) ?_; intro w2 b7 hB2 hs2; refine wp_stop ?_)); have bv := bv.below hB2; have bm := bm.below hB2; have hl5 := b5.lt; have b5 := b5.below hB2; have hB := hB.trans (hB2.mono hB.size); obtain ⟨g7, hg7⟩ := nm (w1.heap.size); rw [<- hg7] at b7 hl5 |-; clear hs2 hB2 hg7; have x0 := b7.cellAt 0 _ Hx0.out; have x2 := b7.cellAt 2 _ Hx2.out; have x4 := b7.cellAt 4 _ Hx4.out; have m0 := bm.cellAt 0 _ Hm0.out; have m2 := bm.cellAt 2 _ Hm2.out; have m4 := bm.cellAt 4 _ Hm4.out; have v0 := bv.cellAt 0 _ rfl; have xh := b7.range 5 (bvs x.h) (Hxc.out); have mh := bm.range 5 (bvs m.h) (Hmh.out); have Lxh : Hid ((bvs x.h).length = 32) := hid (by rw [len_bvs]; exact hxh); have Lmh : Hid ((bvs m.h).length = 32) := hid (by rw [len_bvs]; exact hm); have Heq := hid (eqH17 x.h m.h hxh hm); clear hxh hm; refine wp_go ?_; go_upto_region 2 with (fail)
 go_cut [9] (fun sc wx => sc = .bool al /\ wx = w2)
 case first =>
  clear Hx0 Hx2 Hx4 Hm0 Hm2 Hm4 HF v0; by_cases h0 : x.k = m.k
  . have b0x := beqT h0; have H0 := hid h0; clear h0; by_cases h2 : x.v = m.v
    . have b2x := beqT h2; have H2 := hid h2; clear h2; by_cases h4 : x.s = m.s
      . have b4x := beqT h4; have H4 := hid h4; clear h4; by_cases hh : x.h = m.h
        . have Ha : Hid (al = true) := hid (by rw [Hal.out]; exact decide_eq_true ⟨H0.out, H2.out, H4.out, hh⟩); have heq : ∀ W : World, (Op.equalIn 10000 32 (.agg (bvs x.h).toArray) (.agg (bvs m.h).toArray)).run Tryz.prog W = .ok true W := by have := Heq.out; rw [decide_eq_true hh] at this; exact this
          clear hh Heq; go_wp2_with (first | refine wp_ldg 32 (.tmp 37) (by rfl) rfl rfl xh Tryz.underlying32 rfl (by rw [Lxh.out]; exact size25) ?_ | refine wp_ldg 32 (.tmp 39) (by rfl) rfl rfl mh Tryz.underlying32 rfl (by rw [Lmh.out]; exact size25) ?_); go_meet; exact ⟨by rw [Ha.out], rfl⟩
        . have Ha : Hid (al = false) := hid (by rw [Hal.out]; exact decide_eq_false (fun h => hh h.2.2.2)); have heq : ∀ W : World, (Op.equalIn 10000 32 (.agg (bvs x.h).toArray) (.agg (bvs m.h).toArray)).run Tryz.prog W = .ok false W := by have := Heq.out; rw [decide_eq_false hh] at this; exact this
          clear hh Heq; go_wp2_with (first | refine wp_ldg 32 (.tmp 37) (by rfl) rfl rfl xh Tryz.underlying32 rfl (by rw [Lxh.out]; exact size25) ?_ | refine wp_ldg 32 (.tmp 39) (by rfl) rfl rfl mh Tryz.underlying32 rfl (by rw [Lmh.out]; exact size25) ?_); go_meet; exact ⟨by rw [Ha.out], rfl⟩
      . have Ha : Hid (al = false) := hid (by rw [Hal.out]; exact decide_eq_false (fun h => h4 h.2.2.1)); have b4x := beqF h4; clear h4 Heq; go_wp2; go_meet; exact ⟨by rw [Ha.out], rfl⟩
    . have Ha : Hid (al = false) := hid (by rw [Hal.out]; exact decide_eq_false (fun h => h2 h.2.1)); have b2x := beqF h2; clear h2 Heq; go_wp2; go_meet; exact ⟨by rw [Ha.out], rfl⟩
  . have Ha : Hid (al = false) := hid (by rw [Hal.out]; exact decide_eq_false (fun h => h0 h.1)); have b0x := beqF h0; clear h0 Heq; go_wp2; go_meet; exact ⟨by rw [Ha.out], rfl⟩
 case rest =>
 obtain ⟨rfl, rfl⟩ := hcut; clear x0 x4 m0 m2 m4 xh mh Heq Hal Lxh Lmh bm; have hlt5 := b5.lt; have Hfin : Hid (∀ W b, o.isSome = b -> Below w.heap.size w W -> FndP w o (.returned (.tuple #[.agg lx.toArray, .bool b])) W) := hid (fun W b hb hBW => ⟨lx, by rw [hb], Hl39.out, Hlo.out, fun m' hm' => by have := HF.out.2 m' hm'; subst this; exact ⟨Hx1.out, Hx3.out⟩, hBW⟩); by_cases hk0 : k = 0
 . have k0 : ((k : Int) == 0) = true := beqT (by omega); by_cases hvn : x.v = n
   . have v0x := beqT hvn; have Hb : Hid (o.isSome = al) := hid (by rw [HF.out.1, decide_eq_true hk0, decide_eq_true hvn]; rfl); clear hvn hk0 HF; go_wp2_with (first | refine wp_ld 47 (.tmp 7) rfl rfl rfl b7.whole Tryz.underlying47 rfl (by rw [Hl39.out]; exact sizeM) ?_ | (refine wp_st 47 (.tmp 5) (.tmp 43) rfl rfl rfl (f := 0) rfl (l := lx) rfl b5 (by rw [len_zM, Hl39.out]; omega) (by rw [Hl39.out]; exact sizeM) Hlo.out ?_; intro w4 k5 G5; refine wp_stop ?_)); rw [set_all _ _ (by rw [len_zM, Hl39.out])] at k5; have hB := hB.grown G5 hB.size (fun k hk => by injection hk with hk; omega); refine wp_go ?_; go_wp2; refine ret_cell1 rfl rfl rfl k5.whole Tryz.underlying47 rfl (by rw [Hl39.out]; exact sizeM) rfl ?_; exact Hfin.out _ _ Hb.out hB
   . have v0x := beqF hvn; have Hb : Hid (o.isSome = false) := hid (by rw [HF.out.1, decide_eq_false hvn, Bool.and_false]; rfl); clear hvn hk0 HF; go_wp2_with (first | refine wp_ld 47 (.tmp 7) rfl rfl rfl b7.whole Tryz.underlying47 rfl (by rw [Hl39.out]; exact sizeM) ?_ | (refine wp_st 47 (.tmp 5) (.tmp 43) rfl rfl rfl (f := 0) rfl (l := lx) rfl b5 (by rw [len_zM, Hl39.out]; omega) (by rw [Hl39.out]; exact sizeM) Hlo.out ?_; intro w4 k5 G5; refine wp_stop ?_)); rw [set_all _ _ (by rw [len_zM, Hl39.out])] at k5; have hB := hB.grown G5 hB.size (fun k hk => by injection hk with hk; omega); refine wp_go ?_; go_wp2; refine ret_cell1 rfl rfl rfl k5.whole Tryz.underlying47 rfl (by rw [Hl39.out]; exact sizeM) rfl ?_; exact Hfin.out _ _ Hb.out hB
 . have k0 : ((k : Int) == 0) = false := beqF (by omega); have Hb : Hid (o.isSome = false) := hid (by rw [HF.out.1, decide_eq_false hk0]; rfl); clear hk0 HF; go_wp2_with (first | refine wp_ld 47 (.tmp 7) rfl rfl rfl b7.whole Tryz.underlying47 rfl (by rw [Hl39.out]; exact sizeM) ?_ | (refine wp_st 47 (.tmp 5) (.tmp 43) rfl rfl rfl (f := 0) rfl (l := lx) rfl b5 (by rw [len_zM, Hl39.out]; omega) (by rw [Hl39.out]; exact sizeM) Hlo.out ?_; intro w4 k5 G5; refine wp_stop ?_)); rw [set_all _ _ (by rw [len_zM, Hl39.out])] at k5; have hB := hB.grown G5 hB.size (fun k hk => by injection hk with hk; omega); refine wp_go ?_; go_wp2; refine ret_cell1 rfl rfl rfl k5.whole Tryz.underlying47 rfl (by rw [Hl39.out]; exact sizeM) rfl ?_; exact Hfin.out _ _ Hb.out hB
end Go.Proofs.YtnhhbbjkeekneaaGreatDoor
