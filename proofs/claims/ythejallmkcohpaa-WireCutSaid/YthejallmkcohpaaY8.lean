/- Y8: layer 8: the law WireCut. -/
import Derived.Test.YthejallmkcohpaaY7
namespace Go.Proofs.Ythejallmkcohpaa
open Go.RowKit Go.V
theorem one_zM : ∀ v ∈ zM, v.oneCell' = true := by
  intro v hv
  simp only [zM, zs8, List.mem_cons, List.mem_append, List.mem_replicate] at hv
  rcases hv with rfl | rfl | rfl | rfl | rfl | ⟨_, rfl⟩ | rfl | rfl | hv
  all_goals first | rfl | cases hv
set_option maxRecDepth 100000 in
set_option maxHeartbeats 4000000 in
theorem wireCut_law (m : Mg) (ub up : Value) (n : Nat) (y : UInt8) (F1 F2 : Nat → Prop) (w : World) (hm : MgIn m) (hn : n < 65536) (hub : Rd w F1 ub (bys m.b)) (hup : Rd w F2 up (tx m.ps)) :
    Calls Try.prog 5 #[m.val ub up, .int .u16 (n : Int), .int .u8 (y.toNat : Int)] w fun e w' => e = .returned (.bool true) ∧ Below w.heap.size w w' := by
  have hh := hm.h
  have hlong := fun W h1 h2 => long8_any m ub up W hh F1 F2 h1 h2
  have hput := fun hlo W h1 h2 => put8_any m ub up F1 F2 W hm hlo h1 h2
  have hcut := fun hlo he k v F W hk h => cut8_any m k v F W hm hlo he hk h
  have hmore := fun hlo he v F W h => more8_any m y v F W hm hlo he h
  have hlb : longB m = false → (Mg.by m).length ≤ 63260 := fun h => len_by hh h
  have hpos : 1 ≤ (Mg.by m).length := by unfold Mg.by; simp only [List.length_append, len_hd hh]; omega
  obtain ⟨er, her⟩ : ∃ er, er = errM m := ⟨_, rfl⟩
  rw [← her] at hput hcut hmore
  obtain ⟨lg, hlg⟩ : ∃ lg, lg = longB m := ⟨_, rfl⟩
  rw [← hlg] at hlong hput hcut hmore hlb
  clear her hlg
  obtain ⟨P, hP⟩ : ∃ P, P = Mg.by m := ⟨_, rfl⟩
  rw [← hP] at hput hcut hmore hlb hpos
  clear hP
  obtain ⟨AB, cb, rfl⟩ := hub.shape
  obtain ⟨AP, cpp, rfl, _, _⟩ := hup.slShape
  unfold Mg.val at hlong hput ⊢
  have hmn := len_mg hh (.slice AB m.b.length cb) (.slice AP m.ps.length cpp)
  obtain ⟨l, hl⟩ : ∃ l, l = m.l (.slice AB m.b.length cb) (.slice AP m.ps.length cpp) := ⟨_, rfl⟩
  rw [← hl] at hlong hput hmn ⊢
  have Hmn := hid hmn
  clear hl hmn
  have hvb := Blk.new' w 27 l
  have hB : Below w.heap.size w (w.alloc (.cells l.toArray 27)) := (Below.refl _ _).alloc (Nat.le_refl _) _
  have hub := hub.below hB
  have hup := hup.below hB
  have Hlong := hid hlong
  have Hput := hid hput
  have Hcut := hid hcut
  have Hmore := hid hmore
  have Hlb := hid hlb
  clear hlong hput hcut hmore hlb
  go_enter Try.func5, Try.ntmps5
  go_wp2_with (fail)
  refine (wakes8_any _).mono ?_
  rintro e w1 ⟨rfl, hB1⟩
  have hvb := hvb.below hB1
  have hub := hub.below hB1
  have hup := hup.below hB1
  have hB := hB.trans (hB1.mono hB.size)
  obtain ⟨g, hg⟩ : ∃ g, g = w.heap.size := ⟨_, rfl⟩
  rw [← hg] at hvb ⊢
  clear hg hB1
  go_wp2_with (refine wp_ld 27 (.tmp 3) rfl rfl rfl hvb.whole Try.underlying27 rfl (by rw [Hmn.out]; exact sizeM) ?_)
  refine (Hlong.out _ hub hup).mono ?_
  rintro e w2 ⟨rfl, hB2⟩
  have hvb := hvb.below hB2
  have hub := hub.below hB2
  have hup := hup.below hB2
  have hB := hB.trans (hB2.mono hB.size)
  clear hB2
  cases lg with
  | true =>
    go_wp2
    go_ret
    exact ⟨rfl, hB⟩
  | false =>
    have hPl := Hlb.out rfl
    go_wp2_with (refine wp_ld 27 (.tmp 3) rfl rfl rfl hvb.whole Try.underlying27 rfl (by rw [Hmn.out]; exact sizeM) ?_)
    refine (Hput.out (by first | rfl | trivial) _ hub hup).mono ?_
    rintro e w3 ⟨v3, rfl, ho3, hB3⟩
    have hB := hB.trans (hB3.mono hB.size)
    clear hB3 hvb hub hup
    by_cases he : er = 0
    · subst he
      rw [if_pos rfl] at ho3
      obtain ⟨A3, c3, rfl⟩ := own_shape ho3
      have hr3 := Rd.of_own ho3
      obtain ⟨k, hk⟩ : ∃ k, k = n % P.length := ⟨_, rfl⟩
      have hkl : k < P.length := by rw [hk]; exact Nat.mod_lt _ (by omega)
      have hpne : ¬ (P.length : Int) = 0 := by omega
      go_wp2_with (with_reducible refine wp_at 34 rfl ?_)
      rw [show (n : Int) % (P.length : Int) = ((n % P.length : Nat) : Int) from rfl, ← hk]
      clear hk hpne
      obtain ⟨A4, m4, c4, hcu, hr4⟩ := Rd.cut_h slB hr3 (k : Int) (by omega) (by omega)
      rw [show ((k : Int)).toNat = k from rfl] at hr4
      refine wp_on ?_
      go_wp2_with (fail)
      refine (Hcut.out (by first | rfl | trivial) (by first | rfl | trivial) k _ _ _ hkl hr4).mono ?_
      rintro e w4 ⟨rfl, hB4⟩
      have hr3 := hr3.below hB4
      have hB := hB.trans (hB4.mono hB.size)
      clear hcu hr4 hB4
      go_wp2_with (refine wp_newst 27 9 (.tmp 36) rfl rfl rfl rfl rfl rfl zeroM (l := zM) rfl rfl (by rw [len_zM]; exact sizeM) one_zM (by simp) ?_; intro w5 _ hB5 hs5; refine wp_stop ?_)
      have hr3 := hr3.below hB5
      have hB := hB.trans (hB5.mono hB.size)
      clear hB5 hs5
      obtain ⟨g5, hg5⟩ : ∃ g, g = w4.heap.size := ⟨_, rfl⟩
      rw [← hg5]
      clear hg5
      have hal : Below w5.heap.size w5 (w5.alloc (.cells #[] 5)) := (Below.refl _ _).alloc (Nat.le_refl _) _
      have h0 := lit0
      refine wp_go ?_
      go_wp2_with (at_builtin; refine wp_app _ _ slB rfl rfl rfl (lit0_own w5 w5.heap.size (Nat.le_refl _)) rfl (hr3.below hal).src (oneCell_bvs P) (by simp only [maxLen]; omega) (by omega) (by simp) ?_; intro v6 w6 ho6 hG6 _; refine wp_stop ?_)
      have ho6 : w6.ownsRow w5.heap.size 5 1 v6 P.length (bvs P) := by simpa using ho6
      have hG6 : (w5.alloc (.cells #[] 5)).grownBy w6 (some w5.heap.size) := hG6
      have hB6 : Below w5.heap.size w5 w6 := hal.grown hG6 (by simp) (fun k hk => by injection hk with hk; omega)
      have hs5 := hB.size
      have hB := hB.trans (hB6.mono hB.size)
      clear h0 hal hG6 hr3
      refine wp_go ?_
      go_wp2_with (refine wp_push (.tmp 41) (.tmp 42) 43 slB rfl rfl rfl rfl rfl (u := byteV y) rfl rfl rfl (by simp) rfl ho6 (by simp only [maxLen]; omega) (by omega) hB6.size ?_; intro v7 w7 ho7 hG7 _; refine wp_stop ?_)
      have hB := hB.grown hG7 hB.size (fun k hk => by have := (ho6.lt k hk).1; omega)
      have hr7 : Rd w7 (fun b => w5.heap.size ≤ b) v7 (bys (P ++ [y])) := Rd.of_own (n := P.length + 1) (by rw [bvs_snoc]; exact ho7)
      clear ho6 hG7 ho7 hB6 hG6
      refine wp_go ?_
      go_wp2_with (fail)
      refine (Hmore.out (by first | rfl | trivial) (by first | rfl | trivial) _ _ _ hr7).mono ?_
      rintro e w8 ⟨rfl, hB8⟩
      have hB := hB.trans (hB8.mono hB.size)
      clear hB8 hr7
      go_wp2_with (refine wp_newst 27 11 (.tmp 46) rfl rfl rfl rfl rfl rfl zeroM (l := zM) rfl rfl (by rw [len_zM]; exact sizeM) one_zM (by simp) ?_; intro w9 _ hB9 hs9; refine wp_stop ?_)
      have hB := hB.trans (hB9.mono hB.size)
      refine wp_go ?_
      go_wp2
      go_ret
      exact ⟨rfl, hB⟩
    · have hne : ((er : Int) != 0) = true := by rw [bne_iff_ne]; omega
      rw [if_neg he] at ho3
      obtain ⟨A3, c3, rfl⟩ := own_shape ho3
      go_wp2
      go_ret
      exact ⟨rfl, hB⟩
end Go.Proofs.Ythejallmkcohpaa
