/- B1: layer 16: contracts of the document's Drop and Batch. -/
import Derived.Test.YtnpgloeldoiekaaB0
import Derived.Test.YtnpgloeldoiekaaAP
import Derived.Test.YtnpgloeldoiekaaVE
import Derived.BigQuiet
import Derived.Deep.DeepCutAuto
namespace Go.Proofs.Ytnpgloeldoiekaa
open Go.RowKit Go.V
def zRq16 : List Value := [.int .i64 0, .int .i64 0, .int .i64 0, .int .i64 0, .int .i64 0, .int .i64 0, .slice none 0 0]
theorem slRq16 : SlW Try.prog 27 32 zRq16 7 72 := .of Try.underlying27 (by kernel_rfl) (by simp [zRq16]) (by omega) (by omega)
theorem sizeRq16 : (Try.prog.info? 32).map (·.size) = some 7 := by kernel_rfl
theorem sizeRp16 : (Try.prog.info? 36).map (·.size) = some 5 := by kernel_rfl
theorem one_rq16 (r : Rq) (A : Option Addr) (n c : Nat) : ∀ v ∈ r.l (.slice A n c), v.oneCell' = true := by
  intro v hv
  simp only [Rq.l, List.mem_cons, List.not_mem_nil, or_false] at hv
  rcases hv with rfl | rfl | rfl | rfl | rfl | rfl | rfl <;> rfl
/-- an own row of requests, their signatures elsewhere -/
theorem rqs_own2 {w : World} {base : Nat} {e : TypeId} {F : Nat → Prop} {v : Value} {l : List Rq} {xs : List Value} (ho : w.ownsRow base e 7 v l.length xs) (hx : RqX w F l xs) : Rd w (fun b => F b ∨ base ≤ b) v (rqs l) := by
  unfold rqs Rd
  have hx := hx.keep (F' := fun b => F b ∨ base ≤ b) (fun b _ h => ⟨.inl h, rfl⟩)
  rcases ho.2 with ⟨rfl, h0⟩ | ⟨g, cap, cur, rfl, hg, hh, h1, h2, h3, h4⟩
  · have : l = [] := List.eq_nil_of_length_eq_zero h0
    subst this
    exact ⟨none, 0, rfl, Nat.le_refl _, by simp [maxLen], fun _ => rfl, fun h => absurd rfl h⟩
  · refine ⟨_, cap, rfl, h1, h2, fun h => by rw [List.eq_nil_of_length_eq_zero h]; rfl, fun _ => ⟨g, 0, rfl, .inr hg, rdC_of l 0 (fun i r hi => ?_)⟩⟩
    have hr : w.rangeAt g 0 xs := fun j u hu => by
      have := ho.cells (g := g) rfl j u hu
      rwa [add_mk] at this
    exact hx.el 0 hr i r hi
theorem drp_snoc {a : List Rp} {l : List Rq} {i : Nat} {r : Rq} (h : l[i]? = some r) : drpQ a (l.take (i + 1)) = drpQ a (l.take i) ++ (if dueQ a r = true then [r] else []) := by
  unfold drpQ
  rw [take_snoc' h, List.filter_append]
  congr 1
  by_cases hd : dueQ a r = true
  · rw [if_pos hd]; simp [hd]
  · rw [if_neg hd]; simp [hd]
theorem due_at {a : List Rp} {r : Rq} {ci : Nat} {p : Rp} (hc : r.c = (ci : Int)) (hp : a[ci]? = some p) : dueQ a r = decide (p.s < r.s) := by
  unfold dueQ lastS
  rw [hc, Int.toNat_natCast, hp]
  rfl
theorem ras_s {a : List Rp} {ci : Nat} {p : Rp} (hp : a[ci]? = some p) : (ras a)[ci * 5 + 1]? = some (.int .i64 p.s) := by
  have := ras_at a ci p hp 1 (by omega)
  rw [Nat.mul_comm 5 ci] at this
  rw [this]
  rfl
set_option maxRecDepth 100000 in
set_option maxHeartbeats 4000000 in
theorem rdrop16_any (l : List Rq) (a : List Rp) (v : Value) (F : Nat → Prop) (w : World) (hl : Rd w F v (rqs l)) (hq : QIn l) (ha : a.length = 6) :
    Calls Try.prog 18 #[v, .agg (ras a).toArray] w fun e w' => ∃ v', e = .returned v' ∧ Rd w' (fun b => F b ∨ w.heap.size ≤ b) v' (rqs (drpQ a l)) ∧ Below w.heap.size w w' := by
  obtain ⟨Al, cl, rfl⟩ := rqs_shape hl
  have hl := hl.weak (F' := fun b => F b ∧ b < w.heap.size) (fun b hb hF => ⟨hF, hb⟩)
  have hll := hq.len
  have Hfm := hid hq.fm
  have b3 := Blk.new' w 37 (ras a)
  have hB : Below w.heap.size w (w.alloc (.cells (ras a).toArray 37)) := (Below.refl _ _).alloc (Nat.le_refl _) _
  have Has := hid (fun (ci : Nat) (p : Rp) (h : a[ci]? = some p) => ras_s h)
  obtain ⟨ra, hra⟩ : ∃ q, q = ras a := ⟨_, rfl⟩
  rw [← hra] at b3 hB Has ⊢
  clear hra hq
  go_enter Try.func18, Try.ntmps18
  go_wp2
  obtain ⟨w0, hw0⟩ : ∃ x, x = w.alloc (.cells ra.toArray 37) := ⟨_, rfl⟩
  rw [← hw0] at b3 hB ⊢
  clear hw0
  obtain ⟨g3, hg3⟩ : ∃ g, g = w.heap.size := ⟨_, rfl⟩
  rw [← hg3] at b3 ⊢
  have hg3w : w.heap.size ≤ g3 := by omega
  clear hg3
  go_loopw [5, 6] (fun ov iv wr => ∃ (i : Nat) (xs : List Value), i ≤ l.length ∧ iv = .int .i64 i ∧ wr.ownsRow w0.heap.size 32 7 ov (drpQ a (l.take i)).length xs ∧ RqX wr (fun b => F b ∧ b < w.heap.size) (drpQ a (l.take i)) xs ∧ Below w0.heap.size w0 wr) (fun _ i _ => l.length - (intOf i).toNat)
  case atStart => exact ⟨0, [], Nat.zero_le _, rfl, World.ownsRow_nil _ _ _ _, rfl, Below.refl _ _⟩
  case round =>
    obtain ⟨i, xs, hi, rfl, ho, hx, hBr⟩ := hrel
    have hBw := hB.trans (hBr.mono hB.size)
    have hlen : (drpQ a (l.take i)).length ≤ 12 := Nat.le_trans (List.length_filter_le _ _) (by rw [List.length_take]; omega)
    have hsz := hB.size
    by_cases hlt : i < l.length
    · have hI : (i : Int) < (l.length : Int) := by omega
      obtain ⟨r, hr⟩ : ∃ r, l[i]? = some r := ⟨_, List.getElem?_eq_getElem hlt⟩
      have hlr := hl.below hBw
      obtain ⟨gl, offl, hAl⟩ : ∃ gl offl, Al = some ⟨gl, offl, none⟩ := by
        obtain ⟨gl, offl, c', h⟩ := rqs_spot hlr (by omega)
        injection h with h _ _
        exact ⟨gl, offl, h⟩
      subst hAl
      obtain ⟨u, hru, hu⟩ := rqs_el hlr hr
      obtain ⟨Au, cu, rfl⟩ := Rd.shape hu
      have hfm := fm_in (Hfm.out r (List.mem_of_getElem? hr))
      obtain ⟨ci, hci⟩ : ∃ ci : Nat, r.c = (ci : Int) := ⟨r.c.toNat, by omega⟩
      have hci6 : ci < 6 := by omega
      obtain ⟨p, hp⟩ : ∃ p, a[ci]? = some p := ⟨_, List.getElem?_eq_getElem (by omega)⟩
      have hsn := drp_snoc (a := a) hr
      rw [due_at hci hp] at hsn
      have p0 : wr.cell? ⟨gl, offl + i * 7, none⟩ = some (.int .i64 (ci : Int)) := by rw [← hci]; exact hru 0 _ rfl
      have p1 : wr.cell? ⟨gl, offl + i * 7 + 1, none⟩ = some (.int .i64 r.s) := hru 1 _ rfl
      have q3 : wr.cell? ⟨g3, ci * 5 + 1, none⟩ = some (.int .i64 p.s) := (b3.below hBr).cellAt _ _ (Has.out ci p hp)
      have hI6 : (ci : Int) < 6 := by omega
      obtain ⟨o, hoo⟩ : ∃ o, o = drpQ a (l.take i) := ⟨_, rfl⟩
      rw [← hoo] at ho hx hlen hsn
      clear hoo hp hci hfm hlr hr
      by_cases hd : p.s < r.s
      · have hg : r.s > p.s := hd
        have dg : decide (r.s > p.s) = true := decide_eq_true hd
        rw [decide_eq_true hd, if_pos rfl] at hsn
        have Hsn := hid hsn
        clear hsn
        go_upto_region 5 with (fail)
        go_quiet (fail)
        go_wp2_with (first | refine wp_ixa 27 _ _ rfl rfl rfl (i := i) rfl Try.underlying27 hlt sizeRq16 ?_ | refine wp_ld 32 (.tmp 30) rfl rfl rfl hru Try.underlying32 rfl sizeRq16 ?_ | (refine wp_pushW (.tmp 27) (.tmp 31) 32 slRq16 rfl rfl rfl rfl rfl (us := r.l (.slice Au r.g.length cu)) rfl rfl (one_rq16 r _ _ _) (by simp [Act.put]) rfl ho (by simp only [maxLen]; omega) (by omega) hBr.size ?_; intro v4 w4 ho4 hG4 hv4; refine wp_stop ?_))
        have hk4 : ∀ b, b < w.heap.size → w4.heap[b]? = wr.heap[b]? := fun b hb => hG4.block b (Nat.lt_of_lt_of_le hb hBw.size) (by intro h; have := (ho.lt b h.symm).1; omega)
        have hB4 := (bel_drewN hBr _).grown hG4 hBr.size (fun k hk => (ho.lt k hk).1)
        have hx4 : RqX w4 (fun b => F b ∧ b < w.heap.size) (o ++ [r]) (xs ++ r.l (.slice Au r.g.length cu)) := RqX.snoc (hu.keep (fun b _ hF => ⟨hF, hk4 b hF.2⟩)) (hx.keep (fun b _ hF => ⟨hF, hk4 b hF.2⟩))
        clear hk4 hG4 hv4 p0 p1 q3 hru hu hx ho hg dg hd
        refine wp_go ?_
        go_wp2
        go_roundw
        case rel => exact ⟨i + 1, _, by omega, by go_num, by rw [Hsn.out, List.length_append]; exact ho4, by rw [Hsn.out]; exact hx4, hB4⟩
        case measure => simp [intOf]; omega
      · have hg : ¬ r.s > p.s := hd
        have dg : decide (r.s > p.s) = false := decide_eq_false hd
        rw [decide_eq_false hd, if_neg (by simp), List.append_nil] at hsn
        have Hsn := hid hsn
        clear hsn
        go_upto_region 5 with (fail)
        go_quiet (fail)
        go_wp2
        go_roundw
        case rel => exact ⟨i + 1, xs, by omega, by go_num, by rw [Hsn.out]; exact ho, by rw [Hsn.out]; exact hx.keep (fun b _ hF => ⟨hF, by rfl⟩), by first | exact hBr | exact bel_drewN hBr _⟩
        case measure => simp [intOf]; omega
    · have hi' : i = l.length := by omega
      subst hi'
      have hI : ¬ (l.length : Int) < (l.length : Int) := by omega
      rw [List.take_length] at ho hx
      go_wp2
      go_ret
      exact ⟨_, rfl, (rqs_own2 ho hx).weak (fun b _ h => by rcases h with h | h; exact .inl h.1; exact .inr (by omega)), hBw⟩
/-- as far as those that were taken were looked at: is one to be taken? -/
def okK (a : List Rp) (o : List Rq) (r : Rq) (k : Nat) : Bool := dueQ a r && (o.take k).all (fun x => !(decide (x.c = r.c) && decide (r.s ≤ x.s)))
theorem okK_succ {a : List Rp} {o : List Rq} {r x : Rq} {k : Nat} (h : o[k]? = some x) : okK a o r (k + 1) = (okK a o r k && !(decide (x.c = r.c) && decide (r.s ≤ x.s))) := by
  unfold okK
  rw [take_snoc' h, List.all_append, Bool.and_assoc]
  simp
theorem okK_end (a : List Rp) (o : List Rq) (r : Rq) : okK a o r o.length = okQ a o r := by
  unfold okK okQ
  rw [List.take_length]
theorem bat_full (a : List Rp) : ∀ (l o : List Rq), 4 ≤ o.length → l.foldl (batS a) o = o
  | [], _, _ => rfl
  | x :: l, o, h => by
    have e : batS a o x = o := by unfold batS; rw [if_neg (by omega)]
    show l.foldl (batS a) (batS a o x) = o
    rw [e]
    exact bat_full a l o h
theorem bat_stop {a : List Rp} {l : List Rq} {i : Nat} (h : 4 ≤ (batQ a (l.take i)).length) : batQ a l = batQ a (l.take i) := by
  have e : batQ a l = (l.drop i).foldl (batS a) (batQ a (l.take i)) := by
    unfold batQ
    rw [← List.foldl_append, List.take_append_drop]
  rw [e, bat_full a _ _ h]
theorem bat_next {a : List Rp} {l : List Rq} {i : Nat} {r : Rq} (h : l[i]? = some r) : batQ a (l.take (i + 1)) = batS a (batQ a (l.take i)) r := by
  rw [take_snoc' h, bat_snoc]
set_option maxRecDepth 100000 in
set_option maxHeartbeats 8000000 in
theorem rbatch16_any (l : List Rq) (a : List Rp) (v : Value) (F : Nat → Prop) (w : World) (hl : Rd w F v (rqs l)) (hq : QIn l) (ha : a.length = 6) :
    Calls Try.prog 16 #[v, .agg (ras a).toArray] w fun e w' => ∃ v', e = .returned v' ∧ Rd w' (fun b => F b ∨ w.heap.size ≤ b) v' (rqs (batQ a l)) ∧ Below w.heap.size w w' := by
  obtain ⟨Al, cl, rfl⟩ := rqs_shape hl
  have hl := hl.weak (F' := fun b => F b ∧ b < w.heap.size) (fun b hb hF => ⟨hF, hb⟩)
  have hll := hq.len
  have Hfm := hid hq.fm
  have b3 := Blk.new' w 37 (ras a)
  have hB : Below w.heap.size w (w.alloc (.cells (ras a).toArray 37)) := (Below.refl _ _).alloc (Nat.le_refl _) _
  have Has := hid (fun (ci : Nat) (p : Rp) (h : a[ci]? = some p) => ras_s h)
  obtain ⟨ra, hra⟩ : ∃ q, q = ras a := ⟨_, rfl⟩
  rw [← hra] at b3 hB Has ⊢
  clear hra hq
  go_enter Try.func16, Try.ntmps16
  go_wp2
  obtain ⟨w0, hw0⟩ : ∃ x, x = w.alloc (.cells ra.toArray 37) := ⟨_, rfl⟩
  rw [← hw0] at b3 hB ⊢
  clear hw0
  obtain ⟨g3, hg3⟩ : ∃ g, g = w.heap.size := ⟨_, rfl⟩
  rw [← hg3] at b3 ⊢
  have hg3w : w.heap.size ≤ g3 := by omega
  clear hg3
  go_loopw [5, 6] (fun ov iv wr => ∃ (i : Nat) (xs : List Value), i ≤ l.length ∧ iv = .int .i64 i ∧ wr.ownsRow w0.heap.size 32 7 ov (batQ a (l.take i)).length xs ∧ RqX wr (fun b => F b ∧ b < w.heap.size) (batQ a (l.take i)) xs ∧ Below w0.heap.size w0 wr) (fun _ i _ => l.length - (intOf i).toNat)
  case atStart => exact ⟨0, [], Nat.zero_le _, rfl, World.ownsRow_nil _ _ _ _, rfl, Below.refl _ _⟩
  case round =>
    obtain ⟨i, xs, hi, rfl, ho, hx, hBr⟩ := hrel
    obtain ⟨wo, hwo⟩ : ∃ x, x = wr := ⟨_, rfl⟩
    subst hwo
    have hBw := hB.trans (hBr.mono hB.size)
    have hlen : (batQ a (l.take i)).length ≤ 4 := (bin_all a _).len
    have hsz := hB.size
    have hro := rqs_own2 ho hx
    obtain ⟨Ao, co, rfl⟩ := rqs_shape hro
    by_cases hlt : i < l.length
    · have hI : (i : Int) < (l.length : Int) := by omega
      by_cases h4 : (batQ a (l.take i)).length < 4
      · obtain ⟨r, hr⟩ : ∃ r, l[i]? = some r := ⟨_, List.getElem?_eq_getElem hlt⟩
        have hlr := hl.below hBw
        obtain ⟨gl, offl, hAl⟩ : ∃ gl offl, Al = some ⟨gl, offl, none⟩ := by
          obtain ⟨gl, offl, c', h⟩ := rqs_spot hlr (by omega)
          injection h with h _ _
          exact ⟨gl, offl, h⟩
        subst hAl
        obtain ⟨u, hru, hu⟩ := rqs_el hlr hr
        obtain ⟨Au, cu, rfl⟩ := Rd.shape hu
        have hfm := fm_in (Hfm.out r (List.mem_of_getElem? hr))
        obtain ⟨ci, hci⟩ : ∃ ci : Nat, r.c = (ci : Int) := ⟨r.c.toNat, by omega⟩
        have hci6 : ci < 6 := by omega
        obtain ⟨p, hp⟩ : ∃ p, a[ci]? = some p := ⟨_, List.getElem?_eq_getElem (by omega)⟩
        have hsn := bat_next (a := a) hr
        have hdu := due_at hci hp
        have P0 : Hid (∀ Y, Below wo.heap.size wo Y → Y.cell? ⟨gl, offl + i * 7, none⟩ = some (.int .i64 (ci : Int))) := fun Y h => by have := hru 0 _ rfl; rw [← hci]; exact (h.cell (lt_of_cell this)).trans this
        have P1 : Hid (∀ Y, Below wo.heap.size wo Y → Y.cell? ⟨gl, offl + i * 7 + 1, none⟩ = some (.int .i64 r.s)) := fun Y h => by have := hru 1 _ rfl; exact (h.cell (lt_of_cell this)).trans this
        have p0 := P0.out _ (Below.refl _ _)
        have p1 := P1.out _ (Below.refl _ _)
        have q3 : wo.cell? ⟨g3, ci * 5 + 1, none⟩ = some (.int .i64 p.s) := (b3.below hBr).cellAt _ _ (Has.out ci p hp)
        have hI6 : (ci : Int) < 6 := by omega
        obtain ⟨o, hoo⟩ : ∃ o, o = batQ a (l.take i) := ⟨_, rfl⟩
        rw [← hoo] at ho hx hlen hsn hro h4
        have Hsn := hid hsn
        have Hdu := hid hdu
        have Hci := hid hci
        have hI4 : (o.length : Int) < 4 := by omega
        rw [← hoo]
        clear hoo hp hci hfm hlr hr hsn hdu
        go_upto_region 5 with (fail)
        go_quiet (fail)
        go_wp2
        go_loopw [7, 8] (fun bv kv wr => ∃ k : Nat, k ≤ o.length ∧ kv = .int .i64 k ∧ bv = .bool (okK a o r k) ∧ Below wo.heap.size wo wr) (fun _ k _ => o.length - (intOf k).toNat)
        case atStart => exact ⟨0, Nat.zero_le _, rfl, by unfold okK; rw [Hdu.out]; simp, by first | exact Below.refl _ _ | exact bel_drewN (Below.refl _ _) _⟩
        case round =>
          clear p0 p1 q3
          obtain ⟨k, hk, rfl, rfl, hBk⟩ := hrel
          obtain ⟨B, hBq⟩ : ∃ B, B = okK a o r k := ⟨_, rfl⟩
          rw [← hBq]
          have HB := hid hBq
          clear hBq
          have p0 := P0.out _ hBk
          have p1 := P1.out _ hBk
          by_cases hkl : k < o.length
          · have hI7 : (k : Int) < (o.length : Int) := by omega
            obtain ⟨x, hxk⟩ : ∃ x, o[k]? = some x := ⟨_, List.getElem?_eq_getElem hkl⟩
            have hrk := hro.below hBk
            obtain ⟨go, offo, hAo⟩ : ∃ gl offl, Ao = some ⟨gl, offl, none⟩ := by
              obtain ⟨gl, offl, c', h⟩ := rqs_spot hrk (by omega)
              injection h with h _ _
              exact ⟨gl, offl, h⟩
            subst hAo
            obtain ⟨ux, hrx, _⟩ := rqs_el hrk hxk
            have y0 : wr.cell? ⟨go, offo + k * 7, none⟩ = some (.int .i64 x.c) := hrx 0 _ rfl
            have y1 : wr.cell? ⟨go, offo + k * 7 + 1, none⟩ = some (.int .i64 x.s) := hrx 1 _ rfl
            have hsu := okK_succ (a := a) (r := r) hxk
            rw [← HB.out, Hci.out] at hsu
            clear hxk hrk hrx
            by_cases n1 : x.c = (ci : Int)
            · by_cases n2 : r.s ≤ x.s
              · have Hsu := hid (show okK a o r (k + 1) = false by rw [hsu, decide_eq_true n1, decide_eq_true n2]; simp)
                have n3 : x.s ≥ r.s := n2
                have d3 : decide (x.s ≥ r.s) = true := decide_eq_true n2
                rw [n1] at y0
                clear hsu n1
                go_upto_region 9 with (fail)
                go_quiet (fail)
                go_wp2
                go_roundw
                case rel => exact ⟨k + 1, by omega, by go_num, by rw [Hsu.out], by first | exact hBk | exact bel_drewN hBk _⟩
                case measure => simp [intOf]; omega
              · have Hsu := hid (show okK a o r (k + 1) = B by rw [hsu, decide_eq_true n1, decide_eq_false n2]; simp)
                have n3 : ¬ x.s ≥ r.s := n2
                have d3 : decide (x.s ≥ r.s) = false := decide_eq_false n2
                rw [n1] at y0
                clear hsu n1
                go_upto_region 9 with (fail)
                go_quiet (fail)
                go_wp2
                go_roundw
                case rel => exact ⟨k + 1, by omega, by go_num, by rw [Hsu.out], by first | exact hBk | exact bel_drewN hBk _⟩
                case measure => simp [intOf]; omega
            · have Hsu := hid (show okK a o r (k + 1) = B by rw [hsu, decide_eq_false n1]; simp)
              have n3 : (x.c == (ci : Int)) = false := beq_eq_false_iff_ne.2 n1
              clear hsu
              go_upto_region 9 with (fail)
              go_quiet (fail)
              go_wp2
              go_roundw
              case rel => exact ⟨k + 1, by omega, by go_num, by rw [Hsu.out], by first | exact hBk | exact bel_drewN hBk _⟩
              case measure => simp [intOf]; omega
          · have hk' : k = o.length := by omega
            subst hk'
            have hI7 : ¬ (o.length : Int) < (o.length : Int) := by omega
            have hBr2 := hBr.trans (hBk.mono hBr.size)
            have hbs : batS a o r = if B = true then o ++ [r] else o := by
              unfold batS
              rw [HB.out, okK_end]
              by_cases hok : okQ a o r = true
              · rw [if_pos ⟨h4, hok⟩, if_pos hok]
              · rw [if_neg (fun h => hok h.2), if_neg hok]
            have ho2 := own_bel ho hBk
            have hx2 : RqX wr (fun b => F b ∧ b < w.heap.size) o xs := hx.keep (fun b hb hF => ⟨hF, hBk.block b hb⟩)
            have hu2 := hu.below hBk
            have hru2 : wr.rangeAt gl (offl + i * 7) (r.l (.slice Au r.g.length cu)) := fun j v hv => (hBk.cell (lt_of_cell (hru j v hv))).trans (hru j v hv)
            clear ho hx hu hru hro p0 p1
            cases B with
            | false =>
              have Hn := hid (Hsn.out.trans hbs)
              clear hbs
              go_wp2
              go_roundw
              case rel => exact ⟨i + 1, xs, by omega, by go_num, by rw [Hn.out]; exact ho2, by rw [Hn.out]; exact hx2, hBr2⟩
              case measure => simp [intOf]; omega
            | true =>
              have Hn : Hid (batQ a (l.take (i + 1)) = o ++ [r]) := hid (Hsn.out.trans hbs)
              clear hbs
              go_wp2_with (first | refine wp_ixa 27 _ _ rfl rfl rfl (i := i) rfl Try.underlying27 hlt sizeRq16 ?_ | refine wp_ld 32 (.tmp 68) rfl rfl rfl hru2 Try.underlying32 rfl sizeRq16 ?_ | (refine wp_pushW (.tmp 65) (.tmp 69) 70 slRq16 rfl rfl rfl rfl rfl (us := r.l (.slice Au r.g.length cu)) rfl rfl (one_rq16 r _ _ _) (by simp [Act.put]) rfl ho2 (by simp only [maxLen]; omega) (by omega) hBr2.size ?_; intro v4 w4 ho4 hG4 hv4; refine wp_stop ?_))
              have hBw2 := hB.trans (hBr2.mono hB.size)
              have hk4 : ∀ b, b < w.heap.size → w4.heap[b]? = wr.heap[b]? := fun b hb => hG4.block b (Nat.lt_of_lt_of_le hb hBw2.size) (by intro h; have := (ho2.lt b h.symm).1; omega)
              have hB4 := hBr2.grown hG4 hBr2.size (fun k hk => (ho2.lt k hk).1)
              have hx4 : RqX w4 (fun b => F b ∧ b < w.heap.size) (o ++ [r]) (xs ++ r.l (.slice Au r.g.length cu)) := RqX.snoc (hu2.keep (fun b _ hF => ⟨hF, hk4 b hF.2⟩)) (hx2.keep (fun b _ hF => ⟨hF, hk4 b hF.2⟩))
              clear hk4 hG4 hv4 hru2 hu2 hx2 ho2
              refine wp_go ?_
              go_wp2
              go_roundw
              case rel => exact ⟨i + 1, _, by omega, by go_num, by rw [Hn.out, List.length_append]; exact ho4, by rw [Hn.out]; exact hx4, hB4⟩
              case measure => simp [intOf]; omega
      · have hst := hid (bat_stop (a := a) (l := l) (i := i) (by omega))
        have h44 : 4 ≤ (batQ a (l.take i)).length := by omega
        obtain ⟨o, hoo⟩ : ∃ o, o = batQ a (l.take i) := ⟨_, rfl⟩
        rw [← hoo] at hst hro h44 ⊢
        have hI4 : ¬ (o.length : Int) < 4 := by omega
        clear hoo ho hx
        go_wp2
        go_ret
        exact ⟨_, rfl, by rw [hst.out]; exact hro.weak (fun b _ h => by rcases h with h | h; exact .inl h.1; exact .inr (by omega)), hBw⟩
    · have hi' : i = l.length := by omega
      subst hi'
      have hI : ¬ (l.length : Int) < (l.length : Int) := by omega
      rw [List.take_length] at hro ⊢
      go_wp2
      go_ret
      exact ⟨_, rfl, hro.weak (fun b _ h => by rcases h with h | h; exact .inl h.1; exact .inr (by omega)), hBw⟩
end Go.Proofs.Ytnpgloeldoiekaa
