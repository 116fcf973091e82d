/- DA: layer 10: the law's alike. -/
import Derived.Test.YtjaiffefgjopmaaDW
namespace Go.Proofs.Ytjaiffefgjopmaa
open Go.RowKit Go.V
set_option maxRecDepth 100000 in
set_option maxHeartbeats 4000000 in
theorem alike10_any (va vb : Value) (Ma Fa Mb Fb : Nat → Prop) (da db : Dk) (w : World) (ha : IX w va Ma Fa da) (hb : IX w vb Mb Fb db) (hsa : DkSm da) (hsb : DkSm db) (hua : uq da.syn) (hub : uq db.syn) (hab : nowF da = nowF db) :
    Calls Try.prog 26 #[va, vb] w fun e w' => e = .returned (.bool true) ∧ Below w.heap.size w w' := by
  have hbl : ∀ (n : ByteArray) (A : Option Addr) (k c : Nat) (W : World), (Instr.build 70 #[(0, .string n), (1, .slice A k c)]).run Try.prog W = .ok (.agg #[.string n, .slice A k c]) W := fun _ _ _ _ _ => by kernel_rfl
  have huq : uq (nowF db) := uq_now _ hub
  have hnb : (nowF db).length ≤ 500000 := by have := now_bd db.pend db.syn; have := hsb.n; unfold nowF; omega
  obtain ⟨L, hL⟩ : ∃ L, L = nowF db := ⟨_, rfl⟩
  rw [← hL] at huq hnb hab
  have HL := hid hL
  have Hab := hid hab
  clear hL hab
  obtain ⟨xa, rfl⟩ := ha.ptr
  obtain ⟨xb, rfl⟩ := hb.ptr
  go_enter Try.func26, Try.ntmps26
  go_wp2_with (fail)
  refine (names10_any _ Mb Fb db _ hb hsb).mono ?_
  rintro e w1 ⟨vn, rfl, hn1, hB1⟩
  rw [← HL.out] at hn1
  obtain ⟨An, cn, rfl⟩ := strs_shape hn1
  rw [List.length_map] at hn1 ⊢
  have hb1 := hb.keep (fun b hb _ => hB1.block b hb) hB1.size
  have ha1 := ha.keep (fun b hb _ => hB1.block b hb) hB1.size
  have hn1 := hn1.weak (F' := fun b => b < w1.heap.size) (fun b hb _ => hb)
  clear hb ha
  go_wp2
  go_loopw [5, 13] (fun ov iv wr => ∃ (i : Nat) (xs : List Value), i ≤ L.length ∧ iv = .int .i64 i ∧ wr.ownsRow w1.heap.size 70 2 ov i xs ∧ WdX wr (fun b => ov.ownBlock ≠ some b) flD (L.take i) xs ∧ Below w1.heap.size w1 wr) (fun _ i _ => L.length - (intOf i).toNat)
  case atStart => exact ⟨0, [], Nat.zero_le _, rfl, World.ownsRow_nil _ _ _ _, rfl, Below.refl _ _⟩
  case round =>
    obtain ⟨i, xs, hi, rfl, hro, hx, hB⟩ := hrel
    obtain ⟨Ao, co, rfl⟩ := own_shape8 hro
    by_cases hlt : i < L.length
    · obtain ⟨f, hf⟩ : ∃ f, L[i]? = some f := ⟨_, List.getElem?_eq_getElem hlt⟩
      have hI : (i : Int) < (L.length : Int) := by omega
      have hin : IntKind.i64.wrap ((i : Int) + 1) = (i : Int) + 1 := IntWalk.i64_in _ (by omega)
      have hX := hb1.keep (fun b hb _ => hB.block b hb) hB.size
      have hn2 := hn1.below hB
      obtain ⟨gn, on, rfl, hgn, cs⟩ := strs_el hn2 (i := i) (s := f.n) (by rw [List.getElem?_map, hf]; rfl)
      have Hfd : Hid (findF (nowF db) f.n = some f.b) := by show _ = _; rw [← HL.out]; exact uq_find huq i f hf
      have Hnz : Hid (f.n.size ≤ maxLen) := hX.nm f (by rw [← HL.out]; exact List.mem_of_getElem? hf)
      have hsn := take_snocF hf
      go_wp2_with (fail)
      refine (read10_any _ Mb Fb db f.n _ hX hsb Hnz.out).mono ?_
      rintro e w3 ⟨vx, rfl, hvx, hB3⟩
      rw [Hfd.out] at hvx ⊢
      have hvx : Rd w3 (fun b => wr.heap.size ≤ b) vx (bys f.b) := hvx
      obtain ⟨Ab, cb, rfl⟩ := hvx.shape
      have hro3 := own_bel hro hB3
      have hx3 := hx.keep (fun b hb hF => ⟨hF, hB3.block b hb⟩)
      have hB3' := hB.trans (hB3.mono hB.size)
      have hvx := hvx.weak (F' := fun b => (Value.slice Ao i co).ownBlock ≠ some b) (fun b _ h e => by have := (hro.lt b e).2; have h' : wr.heap.size ≤ b := h; omega)
      have Hsn := hid hsn
      clear hX hn2 cs Hfd hf hsn hro hx hB
      go_wp2_with (first | refine wp_bld 70 [(0, .tmp 24), (1, .tmp 25)] rfl rfl [(0, .string f.n), (1, .slice Ab f.b.length cb)] rfl (hbl _ _ _ _) ?_ | refine wp_pushW (.tmp 23) (.tmp 26) 27 slFl rfl rfl rfl rfl rfl (us := f.l (.slice Ab f.b.length cb)) rfl rfl (one_fl f _ _ _) (by simp [Act.put]) rfl hro3 (by simp only [maxLen]; omega) (by omega) hB3'.size ?_; intro v4 w4 ho4 hG4 hd4; refine wp_stop ?_)
      have hs3 := hB3'.size
      have hkk : ∀ b, b < w3.heap.size → (Value.slice Ao i co).ownBlock ≠ some b → v4.ownBlock ≠ some b ∧ w4.heap[b]? = w3.heap[b]? := fun b hb2 hF => by
        refine ⟨?_, hG4.block b hb2 (fun e => hF e.symm)⟩
        rcases hd4 with h | ⟨g, h, hg⟩
        · rw [h]; exact hF
        · rw [h]; intro e; injection e with e; omega
      have hx4 := (hx3.keep (F' := fun b => v4.ownBlock ≠ some b) hkk).snoc (fl_mk (hvx.keep (F' := fun b => v4.ownBlock ≠ some b) hkk))
      have hB4 := hB3'.grown hG4 hB3'.size (fun k hk => (hro3.lt k hk).1)
      clear hro3 hx3 hvx hG4 hd4 hkk hB3'
      refine wp_go ?_
      go_wp2
      go_roundw
      case rel => exact ⟨i + 1, _, by omega, by go_num, ho4, by rw [Hsn.out]; exact hx4, hB4⟩
      case measure => simp [intOf]; omega
    · have hi' : i = L.length := by omega
      subst hi'
      have hI : ¬ (L.length : Int) < (L.length : Int) := by omega
      rw [List.take_length] at hx
      have hX := ha1.keep (fun b hb _ => hB.block b hb) hB.size
      have hrd := wds_own (F' := fun _ => True) hro hx (fun _ _ => trivial) (fun _ _ => trivial)
      have hBB := hB1.trans (hB.mono hB1.size)
      have hrd2 : Rd wr (fun _ => True) (.slice Ao L.length co) (wds flD (nowF da)) := by rw [Hab.out]; exact hrd
      clear hx hro
      go_wp2_with (fail)
      refine (same10_any _ _ Ma Fa _ da _ hX hsa hua hrd2).mono ?_
      rintro e w5 ⟨rfl, hB5⟩
      go_wp2
      go_ret
      exact ⟨rfl, hBB.trans (hB5.mono hBB.size)⟩
end Go.Proofs.Ytjaiffefgjopmaa
