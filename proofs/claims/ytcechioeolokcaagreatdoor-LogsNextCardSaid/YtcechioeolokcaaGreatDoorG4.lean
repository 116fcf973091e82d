/- G4: layer 11: the law LogsFull. -/
import Derived.Test.YtcechioeolokcaaGreatDoorG2
namespace Go.V
open Go.RowKit
def kLog : ByteArray := ⟨#[108, 111, 103]⟩
theorem okP_log : okP kLog = true := by decide +kernel
theorem room_u8 {x : Nat} (h : x < 256) : (⟨roomF (x : Int), [], [], -1, false⟩ : Dk) = d0L (x : Int) := by
  have : roomF (x : Int) = (x : Int) := by unfold roomF; rw [if_neg (by omega), if_neg (by omega)]
  rw [this]; rfl
/-- what is told of the texts that were put, as the law keeps them -/
structure AllX (w : World) (base : Nat) (e : TypeId) (av : Value) (all : List (List UInt8)) (us : List Value) (M F : Nat → Prop) : Prop where
  own : w.ownsRow base e 1 av all.length us
  x : TxX w (fun b => b < base) all us
  m : ∀ b, M b ∨ F b → av.ownBlock ≠ some b
theorem AllX.ch {w w' : World} {base : Nat} {e : TypeId} {av : Value} {all : List (List UInt8)} {us : List Value} {M F M' F' : Nat → Prop} (h : AllX w base e av all us M F) (hC : Ch M w w') (hM : ∀ b, M b → base ≤ b) (h1 : ∀ b, M' b → M b ∨ w.heap.size ≤ b) (h2 : ∀ b, F' b → F b ∨ M b ∨ w.heap.size ≤ b) : AllX w' base e av all us M' F' := by
  have hl := fun b e => (h.own.lt b e).2
  refine ⟨own_keep10 h.own (fun k hk e => hC.block k hk (fun hm => h.m k (.inl hm) e)), h.x.keep (fun b hb hF => ⟨hF, hC.block b hb (fun hm => by have h' : b < base := hF; have := hM b hm; omega)⟩), fun b hb e => ?_⟩
  have := hl b e
  rcases hb with hb | hb
  · exact (h1 b hb).elim (fun hm => h.m b (.inl hm) e) (fun h => by omega)
  · exact (h2 b hb).elim (fun hf => h.m b (.inr hf) e) (fun h3 => h3.elim (fun hm => h.m b (.inl hm) e) (fun h => by omega))
theorem AllX.below {w w' : World} {base : Nat} {e : TypeId} {av : Value} {all : List (List UInt8)} {us : List Value} {M F : Nat → Prop} (h : AllX w base e av all us M F) (hB : Below w.heap.size w w') : AllX w' base e av all us M F :=
  ⟨own_keep10 h.own (fun k hk _ => hB.block k hk), h.x.keep (fun b hb hF => ⟨hF, hB.block b hb⟩), h.m⟩
theorem AllX.rd {w : World} {base : Nat} {e : TypeId} {av : Value} {all : List (List UInt8)} {us : List Value} {M F : Nat → Prop} (h : AllX w base e av all us M F) : Rd w (fun _ => True) av (tx all) := by
  have := tx_own (base := 0) (own_weak h.own (Nat.zero_le _)) h.x (fun _ _ => Nat.zero_le _)
  exact this.weak (fun _ _ _ => trivial)
theorem AllX.nil (w : World) (base : Nat) (e : TypeId) (M F : Nat → Prop) : AllX w base e (.slice none 0 0) [] [] M F :=
  ⟨World.ownsRow_nil _ _ _ _, TxX.nil _ _, fun b _ e => by cases e⟩
/-- one more text was put -/
theorem AllX.push {w w' : World} {base : Nat} {e : TypeId} {av v' u : Value} {all : List (List UInt8)} {us : List Value} {M F : Nat → Prop} {t : List UInt8} (h : AllX w base e av all us M F) (hu : Rd w (fun b => b < base) u (bys t)) (hbd : ∀ b, M b ∨ F b → b < w.heap.size)
    (ho : w'.ownsRow base e 1 v' (all.length + 1) (us ++ [u])) (hG : w.grownBy w' av.ownBlock) (hd : v'.ownBlock = av.ownBlock ∨ ∃ g, v'.ownBlock = some g ∧ w.heap.size ≤ g) : AllX w' base e v' (all ++ [t]) (us ++ [u]) M F := by
  have hk : ∀ b, b < w.heap.size → b < base → w'.heap[b]? = w.heap[b]? := fun b hb h1 => hG.block b hb (fun e => by have := (h.own.lt b e.symm).1; omega)
  refine ⟨by rw [List.length_append]; exact ho, (h.x.keep (fun b hb hF => ⟨hF, hk b hb hF⟩)).snoc (hu.keep (fun b hb hF => ⟨hF, hk b hb hF⟩)), fun b hb e => ?_⟩
  rcases hd with hd | ⟨g, hd, hg⟩
  · exact h.m b hb (by rw [← hd]; exact e)
  · rw [hd] at e; injection e with e; have := hbd b hb; omega
end Go.V
namespace Go.Proofs.YtcechioeolokcaaGreatDoor
open Go.RowKit Go.V
set_option maxRecDepth 100000 in
set_option maxHeartbeats 4000000 in
theorem logsFull_law (x : Nat) (l : List (List UInt8)) (vl : Value) (F : Nat → Prop) (w : World) (hK : KX w) (hx : x < 256) (hl : Rd w F vl (tx l)) :
    Calls Tryz.prog 4 #[.int .u8 (x : Int), vl] w fun e w' => e = .returned (.bool true) ∧ Below w.heap.size w w' := by
  have hl := hl.weak (F' := fun b => b < w.heap.size) (fun b hb _ => hb)
  obtain ⟨A, c, rfl, hc1, hc2⟩ := hl.slShape
  have hcv : IntKind.i64.wrap (x : Int) = (x : Int) := IntWalk.i64_in _ (by omega)
  go_enter Tryz.func4, Tryz.ntmps4
  go_wp2_with (fail)
  refine (wakes11_any _ hK).mono ?_
  rintro e w1 ⟨rfl, hB1⟩
  by_cases h40 : 40 < l.length
  · have hI : (40 : Int) < (l.length : Int) := by omega
    go_wp2
    go_ret
    exact ⟨rfl, hB1⟩
  have hI40 : ¬ (40 : Int) < (l.length : Int) := by omega
  go_wp2_with (fail)
  refine (new10_any (x : Int) _).mono ?_
  rintro e w2 ⟨dv, M0, F0, rfl, hX, hB2, hMF⟩
  rw [room_u8 hx] at hX
  obtain ⟨xd, rfl⟩ := hX.ptr
  have hs1 := hB1.size
  have hM0 : ∀ b, M0 b → w.heap.size ≤ b := fun b h => by have := hMF b (.inl h); omega
  have hB2' := hB1.trans (hB2.mono hs1)
  go_wp2_with (fail)
  refine (open11_new _ kLog M0 F0 (x : Int) _ (hK.below hB2') hX ⟨by omega, by omega⟩ okP_log (fun e => absurd (hM0 _ e) (Nat.not_le_of_lt (KS.lt hK)))).mono ?_
  rintro e w3 ⟨lv, vr, M, F1, rfl, hvr, hL3, hi3⟩
  obtain ⟨hB3, hM3⟩ := hi3.bel hB2' hM0
  obtain ⟨xl, _, rfl, _⟩ := hL3.ptr
  obtain ⟨Ar, cr, rfl, _, _⟩ := hvr.slShape
  obtain ⟨D3, hD3⟩ : ∃ D, D = d0L (x : Int) := ⟨_, rfl⟩
  rw [← hD3] at hL3
  have hA3 := AllX.nil w3 w.heap.size 33 M F1
  clear hX hMF hM0 hi3 hvr hD3 hB2 hB2' hB1 hs1
  go_wp2
  go_loopw [9, 33] (fun av iv wr => ∃ (i : Nat) (M F' : Nat → Prop) (D : Dk) (all : List (List UInt8)) (us : List Value) (next : Nat), i ≤ l.length ∧ iv = .int .i64 i ∧ LG wr (.pointer (some ⟨xl, 0, none⟩)) (.pointer (some ⟨xd, 0, none⟩)) kLog M F' D all next i ∧ next ≤ 1 + i ∧ all.length ≤ i ∧ AllX wr w.heap.size 33 av all us M F' ∧ (∀ b, M b → w.heap.size ≤ b) ∧ Below w.heap.size w wr) (fun _ i _ => l.length - (intOf i).toNat)
  case atStart => exact ⟨0, M, F1, D3, [], [], 1, Nat.zero_le _, rfl, hL3, by omega, Nat.le_refl _, hA3, hM3, hB3⟩
  case round =>
    clear hL3 hA3 hM3 hB3
    obtain ⟨i, M, F', D, all, us, next, hi, rfl, hL, hnx, hal, hA, hM, hB⟩ := hrel
    by_cases hlt : i < l.length
    · obtain ⟨t, ht⟩ : ∃ t, l[i]? = some t := ⟨_, List.getElem?_eq_getElem hlt⟩
      have hIlt : (i : Int) < (l.length : Int) := by omega
      have hin1 : IntKind.i64.wrap ((i : Int) + 1) = (i : Int) + 1 := IntWalk.i64_in _ (by omega)
      obtain ⟨G1, off1, u1, rfl, _, hx1, hu1⟩ := Rd.elem (hl.below hB) i (bys t) (by rw [List.getElem?_map, ht]; rfl)
      obtain ⟨Au, cu, rfl⟩ := hu1.shape
      clear ht
      by_cases h300 : 300 < t.length
      · have hI3 : (300 : Int) < (t.length : Int) := by omega
        go_wp2
        go_ret
        exact ⟨rfl, hB⟩
      have hI3 : ¬ (300 : Int) < (t.length : Int) := by omega
      have hbd := hL.bd
      obtain ⟨ho1, ho2, hom⟩ := hA
      obtain ⟨Aa, ca, rfl⟩ := own_shape8 ho1
      have hA : AllX wr w.heap.size 33 (.slice Aa all.length ca) all us M F' := ⟨ho1, ho2, hom⟩
      clear ho1 ho2 hom
      go_wp2_with (fail)
      refine (append11_any _ _ _ M F' _ D all next i t _ _ (hK.below hB) hL ⟨by omega, by omega⟩ hu1 (by omega) (fun b hb => Nat.lt_of_lt_of_le hb hB.size)).mono ?_
      rintro e w5 ⟨E, M5, F5, D5, rfl, hi5, hE⟩
      obtain ⟨hB5, hM5⟩ := hi5.bel hB hM
      have hA5 := hA.ch hi5.1 hM hi5.2.1 hi5.2.2
      have hu5 := hu1.keep (F' := fun b => b < w.heap.size) (fun b hb hF => ⟨hF, hi5.1.block b hb (fun hm => by have h' : b < w.heap.size := hF; have := hM b hm; omega)⟩)
      have hs5 := hB5.size
      clear hL hA hi5 hu1 hx1 hbd hM hB
      rcases hE with ⟨rfl, hL5⟩ | ⟨rfl, hL5⟩
      · have hbd5 := hL5.bd
        go_wp2_with (refine wp_push (.tmp 45) (.tmp 46) 47 slBBG rfl rfl rfl rfl rfl (u := .slice Au t.length cu) rfl rfl rfl (by simp) rfl hA5.own (by simp only [maxLen]; omega) (by omega) hs5 ?_; intro v6 w6 ho6 hG6 hd6; refine wp_stop ?_)
        have hA6 := hA5.push hu5 hbd5 ho6 hG6 hd6
        have hL6 := hL5.keep (fun b hb hmf => hG6.block b hb (fun e => hA5.m b hmf e.symm)) hG6.size
        have hB6 := hB5.grown hG6 hs5 (fun k hk => (hA5.own.lt k hk).1)
        clear hA5 hL5 hB5 ho6 hG6 hd6 hu5 hbd5
        refine wp_go ?_
        go_wp2
        go_roundw
        case rel => exact ⟨i + 1, M5, F5, D5, all ++ [t], _, next + 1, by omega, by go_num, hL6, by omega, by simp; omega, hA6, hM5, hB6⟩
        case measure => simp [intOf]; omega
      · go_wp2
        go_roundw
        case rel => exact ⟨i + 1, M5, F5, D5, all, us, next, by omega, by go_num, hL5, by omega, by omega, hA5, hM5, hB5⟩
        case measure => simp [intOf]; omega
    · have hi' : i = l.length := by omega
      subst hi'
      have hIlt : ¬ (l.length : Int) < (l.length : Int) := by omega
      obtain ⟨ho1, ho2, hom⟩ := hA
      obtain ⟨Aa, ca, rfl⟩ := own_shape8 ho1
      have hA : AllX wr w.heap.size 33 (.slice Aa all.length ca) all us M F' := ⟨ho1, ho2, hom⟩
      clear ho1 ho2 hom
      go_wp2_with (fail)
      refine (sync11_any _ _ _ M F' D all next _ _ (hK.below hB) hL (by omega)).mono ?_
      rintro e w5 ⟨M5, F5, D5, rfl, hi5, hL5⟩
      obtain ⟨hB5, hM5⟩ := hi5.bel hB hM
      have hA5 := hA.ch hi5.1 hM hi5.2.1 hi5.2.2
      clear hL hA hi5 hM hB
      go_wp2_with (fail)
      refine (open11_any _ _ _ M5 F5 D5 all next _ _ (hK.below hB5) hL5 ⟨by omega, by omega⟩).mono ?_
      rintro e w6 ⟨x6, vr, rfl, hvr6, hC6⟩
      have hB6 := below_chL hB5 hC6 hM5
      have hA6 := hA5.ch (M' := nob) (F' := nob) hC6 hM5 (fun b h => h.elim) (fun b h => h.elim)
      obtain ⟨Ar6, cr6, rfl, _, _⟩ := hvr6.slShape
      clear hA5 hL5 hC6 hB5 hM5
      go_wp2_with (fail)
      refine (sameAll11_any _ _ all _ _ _ hvr6 hA6.rd (by omega)).mono ?_
      rintro e w7 ⟨rfl, hB7⟩
      go_wp2
      go_ret
      exact ⟨rfl, hB6.trans (hB7.mono hB6.size)⟩
end Go.Proofs.YtcechioeolokcaaGreatDoor
