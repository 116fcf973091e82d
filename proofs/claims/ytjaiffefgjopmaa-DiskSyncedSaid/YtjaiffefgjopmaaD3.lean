/- D3: layer 10: the document's disk in memory: Now, New, burn. -/
import Derived.Test.YtjaiffefgjopmaaD2
namespace Go.V
open Go.RowKit
def tot (l : List Fl) : Nat := (l.map fun f => f.b.length).sum
theorem tot_mem : ∀ {l : List Fl} {f : Fl}, f ∈ l → f.b.length ≤ tot l
  | g :: l, f, h => by
    unfold tot
    rw [List.map_cons, List.sum_cons]
    rcases List.mem_cons.1 h with rfl | h
    · omega
    · have := tot_mem h
      unfold tot at this
      omega
theorem tot_app (a b : List Fl) : tot (a ++ b) = tot a + tot b := by unfold tot; simp
theorem tot_one (f : Fl) : tot [f] = f.b.length := by unfold tot; simp
theorem tot_two (f g : Fl) : tot [f, g] = f.b.length + g.b.length := by unfold tot; simp
theorem wo_cons (f : Fl) (l : List Fl) (n : ByteArray) : woF (f :: l) n = if f.n = n then woF l n else f :: woF l n := by
  unfold woF
  by_cases h : f.n = n
  · rw [if_pos h]; simp [h]
  · rw [if_neg h]; simp [h]
theorem tot_cons (f : Fl) (l : List Fl) : tot (f :: l) = f.b.length + tot l := by unfold tot; simp
def wiT (b : List UInt8) (st : List Fl × Bool) : Nat := tot st.1 + (if st.2 = true then 0 else b.length)
theorem wi_tot (n : ByteArray) (b : List UInt8) : ∀ (l : List Fl) (st : List Fl × Bool), wiT b (l.foldl (wiS n b) st) = wiT b st + tot (woF l n)
  | [], _ => by simp [woF, tot]
  | f :: l, st => by
    rw [List.foldl_cons, wi_tot n b l (wiS n b st f), wo_cons]
    unfold wiS wiT
    split
    · rfl
    · split
      · rename_i h
        rw [tot_app, tot_two, tot_cons]
        simp [h.1]
        omega
      · dsimp only
        rw [tot_app, tot_one, tot_cons]
        omega
theorem with_tot (l : List Fl) (n : ByteArray) (b : List UInt8) : tot (withF l n b) = tot (woF l n) + b.length := by
  have h := wi_tot n b l ([], false)
  have h0 : wiT b ([], false) = b.length := by unfold wiT tot; simp
  rw [h0] at h
  unfold wiT at h
  unfold withF wiF
  split
  · rename_i hq
    rw [if_pos hq] at h
    omega
  · rename_i hq
    rw [if_neg hq] at h
    rw [tot_app, tot_one]
    show _ + b.length = _
    omega
theorem wo_tot : ∀ (l : List Fl) (n : ByteArray), tot (woF l n) + ((findF l n).getD []).length ≤ tot l
  | [], n => by simp [woF, tot, findF]
  | f :: l, n => by
    have h := wo_tot l n
    rw [wo_cons, tot_cons]
    unfold findF
    split
    · have : tot (woF l n) ≤ tot l := by omega
      simp
      omega
    · rw [tot_cons]
      omega
theorem done_tot (l : List Fl) (a : Ac) : tot (doneF l a) ≤ tot l + a.b.length := by
  have h := wo_tot l a.n
  unfold doneF
  split
  · rw [with_tot, List.length_append]; omega
  · split
    · rw [with_tot]; omega
    · split
      · cases hf : findF l a.n with
        | none => dsimp only; omega
        | some b =>
          dsimp only
          rw [with_tot]
          rw [hf] at h
          have h2 := wo_tot (woF l a.n) a.t
          simp at h
          omega
      · split <;> omega
theorem done_len (l : List Fl) (a : Ac) : (doneF l a).length ≤ l.length + 1 := by
  unfold doneF
  split
  · exact with_len _ _ _
  · split
    · exact with_len _ _ _
    · split
      · cases hf : findF l a.n with
        | none => dsimp only; omega
        | some b =>
          dsimp only
          have h1 := with_len (woF l a.n) a.t b
          have h2 := wo_len l a.n
          omega
      · split
        · have := wo_len l a.n; omega
        · omega
structure Dk where
  room : Int
  syn : List Fl
  pend : List Ac
  fuse : Int
  down : Bool
def Dk.l (d : Dk) (vs vp : Value) : List Value := [.int .i64 d.room, vs, vp, .int .i64 d.fuse, .bool d.down]
def nowL (l : List Fl) (p : List Ac) : List Fl := p.foldl doneF l
def nowF (d : Dk) : List Fl := nowL d.syn d.pend
def totA (l : List Ac) : Nat := (l.map fun a => a.b.length).sum
theorem totA_app (a b : List Ac) : totA (a ++ b) = totA a + totA b := by unfold totA; simp
theorem totA_one (f : Ac) : totA [f] = f.b.length := by unfold totA; simp
theorem totA_take (l : List Ac) (i : Nat) : totA (l.take i) ≤ totA l := by
  have : totA l = totA (l.take i) + totA (l.drop i) := by rw [← totA_app, List.take_append_drop]
  omega
theorem totA_mem : ∀ {l : List Ac} {f : Ac}, f ∈ l → f.b.length ≤ totA l
  | g :: l, f, h => by
    unfold totA
    rw [List.map_cons, List.sum_cons]
    rcases List.mem_cons.1 h with rfl | h
    · omega
    · have := totA_mem h
      unfold totA at this
      omega
theorem now_snoc (l : List Fl) (p : List Ac) (a : Ac) : nowL l (p ++ [a]) = doneF (nowL l p) a := by unfold nowL; rw [List.foldl_append]; rfl
theorem now_bd : ∀ (p : List Ac) (l : List Fl), (nowL l p).length ≤ l.length + p.length ∧ tot (nowL l p) ≤ tot l + totA p
  | [], l => ⟨by simp [nowL], by simp [nowL, totA]⟩
  | a :: p, l => by
    have h := now_bd p (doneF l a)
    have h1 := done_len l a
    have h2 := done_tot l a
    have e1 : nowL l (a :: p) = nowL (doneF l a) p := rfl
    have e2 : totA (a :: p) = a.b.length + totA p := by unfold totA; simp
    rw [e1, e2, List.length_cons]
    exact ⟨by omega, by omega⟩
structure DkSm (d : Dk) : Prop where
  n : d.syn.length + d.pend.length ≤ 500000
  t : tot d.syn + totA d.pend ≤ 1000000000
  r : 0 ≤ d.room ∧ d.room ≤ 9223372036854775807
  f : -9223372036854775808 ≤ d.fuse ∧ d.fuse ≤ 9223372036854775807
/-- can one thing more be done? -/
def burnF (d : Dk) : Dk × Bool := ({ d with down := d.down || (d.fuse == 0), fuse := if 0 < d.fuse then d.fuse - 1 else d.fuse }, !(d.down || (d.fuse == 0)))
def only10 (p : Nat) : Nat → Prop := fun b => b = p
theorem own_keep10 {w w' : World} {base : Nat} {e : TypeId} {s : Nat} {v : Value} {n : Nat} {xs : List Value} (h : w.ownsRow base e s v n xs) (hk : ∀ k, k < w.heap.size → v.ownBlock = some k → w'.heap[k]? = w.heap[k]?) : w'.ownsRow base e s v n xs := by
  obtain ⟨h1, h2⟩ := h
  refine ⟨h1, ?_⟩
  rcases h2 with h | ⟨g, cap, cur, rfl, hg, hh, h3⟩
  · exact .inl h
  · exact .inr ⟨g, cap, cur, rfl, hg, (hk g (lt_of_block hh) rfl).trans hh, h3⟩
/-- what the document's disk may read: not its own blocks, nor those of N -/
def dkF (p : Nat) (r : Option Nat) (N : Nat → Prop) : Nat → Prop := fun b => b ≠ p ∧ r ≠ some b ∧ ¬ N b
end Go.V
namespace Go.Proofs.Ytjaiffefgjopmaa
open Go.RowKit Go.V
/-- the document's disk in block p, what is pending in the row r -/
def RX (w : World) (p : Nat) (r : Option Nat) (N : Nat → Prop) (d : Dk) : Prop :=
  ∃ vs vp xs, Blk w p 42 (d.l vs vp) ∧ Rd w (dkF p r N) vs (wds flD d.syn) ∧ w.ownsRow 0 34 8 vp d.pend.length xs ∧ WdX w (dkF p r N) acD d.pend xs ∧ vp.ownBlock = r ∧ r ≠ some p
theorem sizeAc : (Try.prog.info? 34).map (·.size) = some 8 := by kernel_rfl
theorem sizeBool : (Try.prog.info? 4).map (·.size) = some 1 := by kernel_rfl
theorem sizeI10 : (Try.prog.info? 3).map (·.size) = some 1 := by kernel_rfl
theorem sizeDk : (Try.prog.info? 42).map (·.size) = some 5 := by kernel_rfl
def zAc : List Value := [.int .i64 0, .string ByteArray.empty, .string ByteArray.empty, .slice none 0 0, .int .u64 0, .int .i64 0, .int .i64 0, .int .i64 0]
theorem slAc : SlW Try.prog 22 34 zAc 8 96 := .of Try.underlying22 (by kernel_rfl) rfl (by omega) (by omega)
theorem own_shape8 {w : World} {base s : Nat} {e : TypeId} {v : Value} {n : Nat} {xs : List Value} (h : w.ownsRow base e s v n xs) : ∃ A c, v = .slice A n c := by
  rcases h.2 with ⟨rfl, rfl⟩ | ⟨g, cap, cur, rfl, _⟩
  · exact ⟨_, _, rfl⟩
  · exact ⟨_, _, rfl⟩
/-- what is pending, read -/
theorem RX.acts {w : World} {p : Nat} {r : Option Nat} {N : Nat → Prop} {d : Dk} {vp : Value} {xs : List Value} (ho : w.ownsRow 0 34 8 vp d.pend.length xs) (hx : WdX w (dkF p r N) acD d.pend xs) : Rd w (fun b => dkF p r N b ∨ vp.ownBlock = some b) vp (wds acD d.pend) :=
  wds_own ho hx (fun _ h => .inl h) (fun _ h => .inr h)
set_option maxRecDepth 100000 in
set_option maxHeartbeats 2000000 in
theorem now_any (p : Nat) (r : Option Nat) (N : Nat → Prop) (d : Dk) (w : World) (h : RX w p r N d) (hs : DkSm d) (hN : ∀ b, N b → b < w.heap.size) :
    Calls Try.prog 18 #[.pointer (some ⟨p, 0, none⟩)] w fun e w' => ∃ v', e = .returned v' ∧ Rd w' (dkF p r N) v' (wds flD (nowF d)) ∧ Below w.heap.size w w' := by
  obtain ⟨vs, vp, xs, hb, hvs, ho, hx, hr, hrp⟩ := h
  obtain ⟨hsn, hst, _, _⟩ := hs
  have hpl := hb.lt
  have hrl : ∀ b, w.heap.size ≤ b → dkF p r N b := fun b hb2 => ⟨by omega, (by
    rintro e
    rw [← hr] at e
    have := (ho.lt b e).2
    omega), fun h => by have := hN b h; omega⟩
  obtain ⟨A, c, rfl, _, _⟩ := wds_shape hvs
  obtain ⟨Ap, cp, rfl⟩ := own_shape8 ho
  have c1 := hb.cellAt 1 _ rfl
  have hnow : nowF d = nowL d.syn d.pend := rfl
  obtain ⟨R, hR⟩ : ∃ R, R = nowF d := ⟨_, rfl⟩
  rw [← hR] at hnow ⊢
  have Hnow := hid hnow
  clear hnow hR
  go_enter Try.func18, Try.ntmps18
  go_wp2
  clear c1
  go_loopw [3, 4] (fun lv iv wr => ∃ i : Nat, i ≤ d.pend.length ∧ iv = .int .i64 i ∧ Rd wr (dkF p r N) lv (wds flD (nowL d.syn (d.pend.take i))) ∧ Below w.heap.size w wr) (fun _ i _ => d.pend.length - (intOf i).toNat)
  case atStart => exact ⟨0, Nat.zero_le _, rfl, hvs, Below.refl _ _⟩
  case round =>
    obtain ⟨i, hi, rfl, hl, hB⟩ := hrel
    have hbr := hb.below hB
    have c2 := hbr.cellAt 2 _ rfl
    by_cases hlt : i < d.pend.length
    · obtain ⟨a, ha⟩ : ∃ a, d.pend[i]? = some a := ⟨_, List.getElem?_eq_getElem hlt⟩
      have hI : (i : Int) < (d.pend.length : Int) := by omega
      obtain ⟨g, cp', cs, hve, hrg, he⟩ := own_el (own_bel ho hB) (hx.keep (F' := dkF p r N) (fun b hb2 hF => ⟨hF, hB.block b hb2⟩)) ha
      injection hve with hve hve2 hve3
      subst hve hve3
      obtain ⟨u, rfl, hu⟩ := ac_open he
      obtain ⟨Au, cu, rfl⟩ := hu.shape
      have hbd := now_bd (d.pend.take i) d.syn
      have htt := totA_take d.pend i
      rw [List.length_take] at hbd
      have hab := totA_mem (List.mem_of_getElem? ha)
      have hsn2 := now_snoc d.syn (d.pend.take i) a
      rw [← take_snocF ha] at hsn2
      obtain ⟨L, hL⟩ : ∃ L, L = nowL d.syn (d.pend.take i) := ⟨_, rfl⟩
      rw [← hL] at hl hbd hsn2
      obtain ⟨Al, cl, rfl, _, _⟩ := wds_shape hl
      have hfb : ∀ f ∈ L, f.b.length ≤ 1000000000 := fun f hf => by have := tot_mem hf; omega
      have Hsn := hid hsn2
      clear hL hsn2 he
      go_wp2_with (first | refine wp_ixa 22 (.tmp 22) (.tmp 23) rfl rfl rfl rfl Try.underlying22 hlt sizeAc ?_ | refine wp_ld 34 (.tmp 24) rfl rfl rfl hrg Try.underlying34 rfl sizeAc ?_)
      refine (done_any10 L a _ _ (dkF p r N) _ hl hu (by omega) hfb (by omega)).mono ?_
      rintro e w2 ⟨v2, rfl, hr2, hB2⟩
      have hB2' := hB.trans (hB2.mono hB.size)
      have hsz := hB.size
      go_wp2
      go_roundw
      case rel => exact ⟨i + 1, by omega, by go_num, by rw [Hsn.out]; exact hr2.weak (fun b _ h => h.elim id (fun h => hrl b (by omega))), hB2'⟩
      case measure => simp [intOf]; omega
    · have hi' : i = d.pend.length := by omega
      subst hi'
      have hI : ¬ (d.pend.length : Int) < (d.pend.length : Int) := by omega
      rw [List.take_length, ← Hnow.out] at hl
      go_wp2
      go_ret
      exact ⟨_, rfl, hl, hB⟩
set_option maxRecDepth 100000 in
set_option maxHeartbeats 2000000 in
theorem burn_any (p : Nat) (r : Option Nat) (N : Nat → Prop) (d : Dk) (w : World) (h : RX w p r N d) (hf : -9223372036854775808 ≤ d.fuse ∧ d.fuse ≤ 9223372036854775807) :
    Calls Try.prog 32 #[.pointer (some ⟨p, 0, none⟩)] w fun e w' => e = .returned (.bool (burnF d).2) ∧ RX w' p r N (burnF d).1 ∧ Ch (only10 p) w w' := by
  obtain ⟨vs, vp, xs, hb, hvs, ho, hx, hr, hrp⟩ := h
  obtain ⟨A, c, rfl, _, _⟩ := wds_shape hvs
  obtain ⟨Ap, cp, rfl⟩ := own_shape8 ho
  have hbl : burnF d = ({ d with down := d.down || (d.fuse == 0), fuse := if 0 < d.fuse then d.fuse - 1 else d.fuse }, !(d.down || (d.fuse == 0))) := rfl
  have hkeep : ∀ (w' : World) (d' : Dk), Blk w' p 42 (d'.l (.slice A d.syn.length c) (.slice Ap d.pend.length cp)) → w.grownBy w' (some p) → d'.syn = d.syn → d'.pend = d.pend → RX w' p r N d' := fun w' d' hb' hG h1 h2 => by
    have hk : ∀ b, b < w.heap.size → dkF p r N b → dkF p r N b ∧ w'.heap[b]? = w.heap[b]? := fun b hb2 hF => ⟨hF, hG.block b hb2 (by intro e; injection e with e; exact hF.1 e)⟩
    refine ⟨_, _, xs, hb', ?_, ?_, ?_, hr, hrp⟩
    · rw [h1]; exact hvs.keep hk
    · rw [h2]; exact own_keep10 ho (fun k hk2 he => hG.block k hk2 (by intro e; rw [he] at hr; exact hrp (by rw [← hr, ← e])))
    · rw [h2]; exact hx.keep hk
  have hcl : (d.l (.slice A d.syn.length c) (.slice Ap d.pend.length cp)).length = 5 := rfl
  obtain ⟨room, syn, pend, fuse, down⟩ := d
  dsimp only at hf hb hkeep hbl hvs ho hx
  obtain ⟨B, hB⟩ : ∃ B, B = burnF ⟨room, syn, pend, fuse, down⟩ := ⟨_, rfl⟩
  rw [← hB] at hbl ⊢
  have Hbl := hid hbl
  have Hkeep := hid hkeep
  clear hB hbl hkeep hvs ho hx
  have c3 := hb.cellAt 3 _ rfl
  have c4 := hb.cellAt 4 _ rfl
  by_cases h0 : fuse = 0
  · subst h0
    go_enter Try.func32, Try.ntmps32
    go_wp2_with (refine wp_st1 4 (.tmp 10) (.const (.bool true)) rfl rfl rfl (f := 4) rfl (v := .bool true) rfl hb (by rw [hcl]; omega) sizeBool rfl rfl ?_; intro w1 hb1 hG1; refine wp_stop ?_)
    have hb1 : Blk w1 p 42 (Dk.l ⟨room, syn, pend, 0, true⟩ (.slice A syn.length c) (.slice Ap pend.length cp)) := hb1
    have d3 := hb1.cellAt 3 _ rfl
    have d4 := hb1.cellAt 4 _ rfl
    have hRX := Hkeep.out w1 ⟨room, syn, pend, 0, true⟩ hb1 hG1 rfl rfl
    have hC1 : Ch (only10 p) w w1 := (Ch.refl _ _).grow hG1 (fun k hk => .inl (by injection hk with hk; exact hk.symm))
    have Hb2 : Hid (B = (⟨room, syn, pend, 0, true⟩, false)) := by show _ = _; rw [Hbl.out]; simp
    clear c3 c4 hb hb1 hG1 Hkeep Hbl
    refine wp_go ?_
    go_wp2
    go_ret
    exact ⟨by rw [Hb2.out]; rfl, by rw [Hb2.out]; exact hRX, hC1⟩
  · have hb0 : (fuse == 0) = false := by rw [beq_eq_false_iff_ne]; exact h0
    by_cases h1 : 0 < fuse
    · have hw : IntKind.i64.wrap (fuse - 1) = fuse - 1 := IntWalk.i64_in _ (by omega)
      go_enter Try.func32, Try.ntmps32
      go_wp2_with (refine wp_st1 3 (.tmp 22) (.tmp 20) rfl rfl rfl (f := 3) rfl (v := .int .i64 (fuse - 1)) rfl hb (by rw [hcl]; omega) sizeI10 rfl rfl ?_; intro w1 hb1 hG1; refine wp_stop ?_)
      have hb1 : Blk w1 p 42 (Dk.l ⟨room, syn, pend, fuse - 1, down⟩ (.slice A syn.length c) (.slice Ap pend.length cp)) := hb1
      have d4 := hb1.cellAt 4 _ rfl
      have hRX := Hkeep.out w1 ⟨room, syn, pend, fuse - 1, down⟩ hb1 hG1 rfl rfl
      have hC1 : Ch (only10 p) w w1 := (Ch.refl _ _).grow hG1 (fun k hk => .inl (by injection hk with hk; exact hk.symm))
      have Hb2 : Hid (B = (⟨room, syn, pend, fuse - 1, down⟩, !down)) := by show _ = _; rw [Hbl.out, hb0, if_pos h1]; simp
      clear c3 c4 hb hb1 hG1 Hkeep Hbl hw
      refine wp_go ?_
      go_wp2
      go_ret
      exact ⟨by rw [Hb2.out]; rfl, by rw [Hb2.out]; exact hRX, hC1⟩
    · have hRX := Hkeep.out w ⟨room, syn, pend, fuse, down⟩ hb (World.grownBy.refl w _) rfl rfl
      have Hb2 : Hid (B = (⟨room, syn, pend, fuse, down⟩, !down)) := by show _ = _; rw [Hbl.out, hb0, if_neg h1]; simp
      clear Hkeep Hbl
      go_enter Try.func32, Try.ntmps32
      go_wp2
      go_ret
      exact ⟨by rw [Hb2.out]; rfl, by rw [Hb2.out]; exact hRX, Ch.refl _ _⟩
end Go.Proofs.Ytjaiffefgjopmaa
