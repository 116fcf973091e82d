/- Kx: several texts in one (Ks Kx). -/
import Derived.Test.YthbbpfnfnnmdnaaDoorCk
import Derived.Test.YthbbpfnfnnmdnaaDoorAV
import Derived.Test.YthbbpfnfnnmdnaaDoorCz
/- Ks: layer 18: the laws' wakes. -/
namespace Go.Proofs.YthbbpfnfnnmdnaaDoor
open Go.RowKit Go.V
theorem bldV18 : ∀ W : World, (Instr.build 24 #[(1, .int .u16 15)]).run Tryd.prog W = .ok (.agg #[.int .i64 0, .int .u16 15]) W := fun _ => by kernel_rfl
theorem bldH18 : ∀ W : World, (Instr.build 41 #[(0, .int .u8 9)]).run Tryd.prog W = .ok (.agg (bvs h9).toArray) W := fun _ => by kernel_rfl
theorem bldW18 (f : Int) : ∀ W : World, (Instr.build 59 #[(0, .int .i64 2), (1, .int .i64 f), (4, .int .i64 1), (5, .agg (bvs h9).toArray)]).run Tryd.prog W = .ok (.agg ((⟨2, f, 0, 0, 1, h9, [], []⟩ : Mg).l (.slice none 0 0) (.slice none 0 0)).toArray) W := fun _ => by kernel_rfl
theorem eqlH18 : ∀ W : World, (Go.binOp BinOp.eql 41 (.agg (bvs h9).toArray) (.agg (bvs h9).toArray)).run Tryd.prog W = .ok (.bool true) W := fun _ => by kernel_rfl
theorem wriS18 (v : Value) (M N : Nat → Prop) (w : World) (hKS : KS w) (h : NX w v M N ks17 ⟨0, 15⟩ 1 (lW 3)) :
    Calls Tryd.prog 12 #[v, .int .i64 0] w fun e w' => ∃ A c, e = .returned (.tuple #[.agg (bvs h9).toArray, .slice A 3 c, .bool true]) ∧ Below w.heap.size w w' := by
  have := iwritten18_any v M N ks17 ⟨0, 15⟩ 1 (lW 3) 0 w hKS (by unfold in64w; decide) h
  rw [mst_W] at this
  refine this.mono ?_
  rintro e w' ⟨u, rfl, hu, hB⟩
  have hu : Rd w' _ u (tx (forC (lW 3) 2 0 h9)) := hu
  obtain ⟨A, c, rfl, _, _⟩ := hu.slShape
  rw [for_W]
  exact ⟨A, c, rfl, hB⟩
set_option maxRecDepth 100000 in
set_option maxHeartbeats 8000000 in
theorem wakes18_any (w : World) (hK : KS w) :
    Calls Tryd.prog 7 #[] w fun e w' => e = .returned (.bool true) ∧ Below w.heap.size w w' := by
  have hbv := bldV18
  go_enter Tryd.func7, Tryd.ntmps7
  go_wp2_with (fail)
  refine (table18_any _).mono ?_
  rintro e w1 ⟨uk, rfl, hk, hB⟩
  have Hin : Hid (Calls Tryd.prog 9 #[.agg #[uk, .slice none 0 0], .agg #[.int .i64 0, .int .u16 15], .int .i64 1] w1 fun e w' => ∃ v M, e = .returned v ∧ NX w' v M (fun b => w.heap.size ≤ b ∧ b < w1.heap.size) ks17 ⟨0, 15⟩ 1 [] ∧ (∀ b, M b → w1.heap.size ≤ b) ∧ Below w1.heap.size w1 w') :=
    hid (inew18_any ks17 ⟨0, 15⟩ 1 uk (.slice none 0 0) _ w1 (hK.below hB) ks17_sm hk ⟨by unfold in64w; decide, by decide⟩ (by unfold in64w; decide))
  go_wp2_with (refine wp_bld 24 [(1, .const (.int .u16 15))] rfl rfl [(1, .int .u16 15)] rfl hbv ?_)
  refine (Hin.out).mono ?_
  rintro e w2 ⟨xv, M0, rfl, hx, hM0, hB2⟩
  have hs1 := hB.size
  have hM0 : ∀ b, M0 b → w.heap.size ≤ b := fun b h => Nat.le_trans hs1 (hM0 b h)
  have hB := hB.trans (hB2.mono hB.size)
  obtain ⟨N, hN⟩ : ∃ N : Nat → Prop, N = fun b => w.heap.size ≤ b ∧ b < w1.heap.size := ⟨_, rfl⟩
  rw [← hN] at hx
  clear hN Hin hB2 hk hs1 hbv
  go_wp2
  go_loopw [11] (fun iv wr => ∃ (i : Nat) (M : Nat → Prop), i ≤ 3 ∧ iv = .int .i64 i ∧ Hid (NX wr xv M N ks17 ⟨0, 15⟩ 1 (lW i) ∧ ∀ b, M b → w.heap.size ≤ b) ∧ Below w.heap.size w wr) (fun i _ => 3 - (intOf i).toNat)
  case atStart => exact ⟨0, M0, by omega, rfl, hid ⟨hx, hM0⟩, hB⟩
  case round =>
    clear hx hM0 hB
    obtain ⟨i, M, hi, rfl, Hx, hBr⟩ := hrel
    have hKr := hK.below hBr
    by_cases hlt : i < 3
    · have hI : (i : Int) < 3 := by omega
      have hsl := sV18_len hlt
      have hbm := bldW18 (i : Int)
      have hbh := bldH18
      have hse : ∀ (uk : Value) (Y : World), KS Y → Rd Y (fun b => wr.heap.size ≤ b) uk (tx ks17) → Calls Tryd.prog 18 #[.agg #[uk, .slice none 0 0], .agg ((⟨2, (i : Int), 0, 0, 1, h9, [], []⟩ : Mg).l (.slice none 0 0) (.slice none 0 0)).toArray] Y fun e w' => ∃ v', e = .returned (.tuple #[v', .int .i64 0]) ∧ NewB Y w' v' (sV18 i) := by
        intro uk Y h1 h2
        have := seal9_any ks17 (mV i) uk (.slice none 0 0) (.slice none 0 0) (.slice none 0 0) _ nob nob Y h1 (mV_in hlt) (mV_sm i) ks17_sm h2 (Rd.nil _ _) (Rd.nil _ _)
        rw [mV_err hlt, if_pos rfl] at this
        exact this
      have Hse := hid hse
      have htk : ∀ (u : Value) (F : Nat → Prop) (Y : World), KS Y → NX Y xv M N ks17 ⟨0, 15⟩ 1 (lW i) → Rd Y F u (bys (sV18 i)) → Calls Tryd.prog 11 #[xv, u] Y fun e w' => e = .returned (.int .i64 0) ∧ ∃ M', NP Y M w' xv N ks17 ⟨0, 15⟩ 1 (lW (i + 1)) M' := by
        intro u F Y h1 h2 h3
        have := itake18_any xv M N ks17 ⟨0, 15⟩ 1 (lW i) (sV18 i) u F Y h1 ks17_sm h2 h3 (by omega)
        rw [(tk_W hlt).1, (tk_W hlt).2] at this
        exact this
      have Htk := hid htk
      obtain ⟨lm, hlm⟩ : ∃ l, l = (⟨2, (i : Int), 0, 0, 1, h9, [], []⟩ : Mg).l (.slice none 0 0) (.slice none 0 0) := ⟨_, rfl⟩
      rw [← hlm] at hbm Hse
      obtain ⟨lh, hlh⟩ : ∃ l, l = bvs h9 := ⟨_, rfl⟩
      rw [← hlh] at hbm hbh
      obtain ⟨S, hS⟩ : ∃ S, S = sV18 i := ⟨_, rfl⟩
      rw [← hS] at Hse Htk hsl
      clear hlm hlh hS hse htk
      go_wp2_with (fail)
      refine (table18_any _).mono ?_
      rintro e w3 ⟨uk3, rfl, hk3, hB3⟩
      have hBr3 := hBr.trans (hB3.mono hBr.size)
      go_wp2_with (first | refine wp_bld 41 [(0, .const (.int .u8 9))] rfl rfl [(0, .int .u8 9)] rfl hbh ?_ | refine wp_bld 59 [(0, .const (.int .i64 2)), (1, .tmp 16), (4, .const (.int .i64 1)), (5, .tmp 17)] rfl rfl [(0, .int .i64 2), (1, .int .i64 (i : Int)), (4, .int .i64 1), (5, .agg lh.toArray)] rfl hbm ?_)
      refine (Hse.out uk3 _ (hKr.below hB3) hk3).mono ?_
      rintro e w4 ⟨v4, rfl, ho4, hB4⟩
      have hv4 := (Rd.of_own ho4)
      obtain ⟨A4, c4, rfl⟩ := own_shape ho4
      have hB34 := hB3.trans (hB4.mono hB3.size)
      have hBr4 := hBr.trans (hB34.mono hBr.size)
      have hx4 := Hx.out.1.below hB34
      have hM4 := Hx.out.2
      clear hB3 hB4 hBr3 ho4 Hse hbm hbh hk3
      go_wp2_with (fail)
      refine (Htk.out _ _ _ (hKr.below hB34) hx4 hv4).mono ?_
      rintro e w5 ⟨rfl, M5, hP⟩
      have hB5 := Ch.below_of hBr4 hP.c hM4 hBr4.size
      have hM5 : ∀ b, M5 b → w.heap.size ≤ b := fun b h => by
        rcases hP.m b h with h | h
        · exact hM4 b h
        · have := hBr4.size; omega
      have hx5 := hP.x
      clear hP Htk hv4
      go_wp2
      go_roundw
      case rel => exact ⟨i + 1, M5, by omega, by go_num, hid ⟨hx5, hM5⟩, hB5⟩
      case measure => simp [intOf]; omega
    · have hi' : i = 3 := by omega
      subst hi'
      have hI : ¬ (3 : Int) < 3 := by omega
      have Hws := hid (wriS18 xv M N wr hKr Hx.out.1)
      have heq := eqlH18
      obtain ⟨lh, hlh⟩ : ∃ l, l = bvs h9 := ⟨_, rfl⟩
      have Lh : Hid (lh.length = 32) := hid (by rw [hlh]; rfl)
      have Oh : Hid (∀ v ∈ lh, v.oneCell' = true) := hid (by rw [hlh]; exact oneCell_bvs _)
      have hbh := bldH18
      rw [← hlh] at Hws heq hbh
      clear hlh
      go_wp2_with (fail)
      refine (Hws.out).mono ?_
      rintro e w6 ⟨A6, c6, rfl, hB6⟩
      have hBz := hBr.trans (hB6.mono hBr.size)
      go_wp2_with (refine wp_newst 41 5 (.tmp 30) rfl rfl rfl rfl rfl rfl zero25 (l := lh) rfl (by rw [Lh.out]; rfl) (by rw [Lh.out]; exact size25) Oh.out (by simp [Act.put]) ?_; intro w7 b7 hB7 hs7; refine wp_stop ?_)
      have hBz := hBz.trans (hB7.mono hBz.size)
      refine wp_go ?_
      go_wp2_with (first | refine wp_ldg 41 (.tmp 5) (by rfl) rfl rfl b7.whole Tryd.underlying41 rfl (by rw [Lh.out]; exact size25) ?_ | refine wp_bldw 41 [(0, .const (.int .u8 9))] (by rfl) rfl [(0, .int .u8 9)] rfl hbh ?_)
      go_ret
      exact ⟨by simp, hBz⟩
end Go.Proofs.YthbbpfnfnnmdnaaDoor
/- Kx: layer 18: what the laws share: votes taken one by one; Written and Accepted by cases. -/
namespace Go.Proofs.YthbbpfnfnnmdnaaDoor
open Go.RowKit Go.V
/-- what is kept behind some acts -/
def tksF (V : Vc) (slot : Int) (L : List Nv) (l : List At) : List Nv := l.foldl (fun L a => tkL ks17 V slot L a.b) L
theorem tks_next {V : Vc} {slot : Int} {L : List Nv} {l : List At} {i : Nat} {a : At} (h : l[i]? = some a) : tksF V slot L (l.take (i + 1)) = tkL ks17 V slot (tksF V slot L (l.take i)) a.b := by
  unfold tksF
  rw [List.take_add_one, h, Option.toList_some, List.foldl_append]
  rfl
theorem tkL_len {V : Vc} {slot : Int} {L : List Nv} {X : List UInt8} : (tkL ks17 V slot L X).length ≤ L.length + 1 := by
  rcases (tk_kept (ks := ks17) (V := V) (slot := slot) (L := L) (X := X)) with ⟨_, m, h⟩ | h
  · rw [h, List.length_append]; exact Nat.le_refl _
  · rw [h]; omega
theorem tks_len' {V : Vc} {slot : Int} : ∀ (l : List At) (L : List Nv), (tksF V slot L l).length ≤ L.length + l.length
  | [], _ => Nat.le_refl _
  | a :: l, L => by
    have h1 := tks_len' (V := V) (slot := slot) l (tkL ks17 V slot L a.b)
    have h2 := tkL_len (V := V) (slot := slot) (L := L) (X := a.b)
    show (tksF V slot (tkL ks17 V slot L a.b) l).length ≤ _
    rw [List.length_cons]
    omega
theorem tks_len (V : Vc) (slot : Int) (l : List At) {i : Nat} : (tksF V slot [] (l.take i)).length ≤ i := by
  have := tks_len' (V := V) (slot := slot) (l.take i) []
  rw [List.length_take, List.length_nil] at this
  omega
theorem tks_in {V : Vc} {slot : Int} : ∀ (l : List At) (L : List Nv), NvIn ks17 V slot L → NvIn ks17 V slot (tksF V slot L l)
  | [], _, h => h
  | a :: l, _, h => tks_in l _ (tk_in h a.b)
theorem tkL_b {V : Vc} {slot : Int} {L : List Nv} {X : List UInt8} : ∀ v ∈ tkL ks17 V slot L X, v ∈ L ∨ v.b = X := by
  intro v hv
  rcases (tk_kept (ks := ks17) (V := V) (slot := slot) (L := L) (X := X)) with ⟨_, m, h⟩ | h
  · rw [h] at hv
    rcases List.mem_append.1 hv with hv | hv
    · exact .inl hv
    · rw [List.mem_singleton.1 hv]; exact .inr rfl
  · rw [h] at hv; exact .inl hv
theorem tks_b {V : Vc} {slot : Int} : ∀ (l : List At) (L : List Nv) (n : Nat), (∀ v ∈ L, v.b.length ≤ n) → (∀ a ∈ l, a.b.length ≤ n) → ∀ v ∈ tksF V slot L l, v.b.length ≤ n
  | [], _, _, h, _ => h
  | a :: l, _, n, h, ha => tks_b l _ n (fun v hv => by
      rcases tkL_b v hv with hv | hv
      · exact h v hv
      · rw [hv]; exact ha a (by simp)) (fun x hx => ha x (by simp [hx]))
theorem tks_sub {V : Vc} {slot : Int} : ∀ (l : List At) (L : List Nv), ∀ v ∈ L, v ∈ tksF V slot L l
  | [], _, _, hv => hv
  | a :: l, _, v, hv => tks_sub l _ v (tk_sub a.b v hv)
theorem longT_bd {l : List At} (h : longT l = false) : l.length ≤ 60 ∧ ∀ a ∈ l, a.b.length ≤ 500 := by
  unfold longT at h
  rw [decide_eq_false_iff_not] at h
  refine ⟨?_, fun a ha => ?_⟩
  · rcases Nat.lt_or_ge 60 l.length with h' | h'
    · exact absurd (.inl h') h
    · exact h'
  · rcases Nat.lt_or_ge 500 a.b.length with h' | h'
    · exact absurd (.inr ⟨a, ha, h'⟩) h
    · exact h'
theorem mst_mem {V : Vc} {L : List Nv} {k r : Int} {d : List UInt8} (h : mstC V L k r = some d) : ∃ v ∈ L, v.m.h = d := by
  unfold mstC at h
  obtain ⟨v, hv, rfl⟩ := Option.map_eq_some_iff.1 h
  exact ⟨v, List.mem_of_find?_eq_some hv, rfl⟩
theorem mst_len {ks : List (List UInt8)} {V : Vc} {slot : Int} {L : List Nv} (hi : NvIn ks V slot L) {k r : Int} {d : List UInt8} (h : mstC V L k r = some d) : d.length = 32 := by
  obtain ⟨v, hv, rfl⟩ := mst_mem h
  exact (opof_ok (tl_ok (hi.v v hv)).1).1
theorem for_sm {L : List Nv} {k r : Int} {d : List UInt8} {n : Nat} (h : ∀ v ∈ L, v.b.length ≤ n) : ∀ X ∈ forC L k r d, X.length ≤ n := by
  intro X hX
  obtain ⟨i, v, _, hv, _, rfl⟩ := mem_for hX
  exact h v hv
def zH : List UInt8 := List.replicate 32 0
theorem wri18_none {v : Value} {M N : Nat → Prop} {V : Vc} {slot : Int} {L : List Nv} {r : Int} (hm : mstC V L 2 r = none) (hr : in64w r) (w : World) (hKS : KS w) (h : NX w v M N ks17 V slot L) :
    Calls Tryd.prog 12 #[v, .int .i64 r] w fun e w' => ∃ A c, e = .returned (.tuple #[.agg (bvs zH).toArray, .slice A 0 c, .bool false]) ∧ Below w.heap.size w w' := by
  have := iwritten18_any v M N ks17 V slot L r w hKS hr h
  rw [hm] at this
  refine this.mono ?_
  rintro e w' ⟨u, rfl, hu, hB⟩
  have hu : Rd w' _ u (tx []) := hu
  obtain ⟨A, c, rfl, _, _⟩ := hu.slShape
  exact ⟨A, c, rfl, hB⟩
theorem wri18_some {v : Value} {M N : Nat → Prop} {V : Vc} {slot : Int} {L : List Nv} {r : Int} {d : List UInt8} (hm : mstC V L 2 r = some d) (hr : in64w r) (w : World) (hKS : KS w) (h : NX w v M N ks17 V slot L) :
    Calls Tryd.prog 12 #[v, .int .i64 r] w fun e w' => ∃ A c, e = .returned (.tuple #[.agg (bvs d).toArray, .slice A (forC L 2 r d).length c, .bool true]) ∧ Rd w' (fun b => M b ∨ w.heap.size ≤ b) (.slice A (forC L 2 r d).length c) (tx (forC L 2 r d)) ∧ Below w.heap.size w w' := by
  have := iwritten18_any v M N ks17 V slot L r w hKS hr h
  rw [hm] at this
  refine this.mono ?_
  rintro e w' ⟨u, rfl, hu, hB⟩
  have hu : Rd w' _ u (tx (forC L 2 r d)) := hu
  obtain ⟨A, c, rfl, _, _⟩ := hu.slShape
  exact ⟨A, c, rfl, hu, hB⟩
theorem acc18_none {v : Value} {M N : Nat → Prop} {V : Vc} {slot : Int} {L : List Nv} (hm : accC V L = none) (w : World) (hKS : KS w) (h : NX w v M N ks17 V slot L) :
    Calls Tryd.prog 14 #[v] w fun e w' => ∃ A c, e = .returned (.tuple #[.int .i64 0, .agg (bvs zH).toArray, .slice A 0 c, .bool false]) ∧ Below w.heap.size w w' := by
  have := iaccepted18_any v M N ks17 V slot L w hKS h
  rw [hm] at this
  refine this.mono ?_
  rintro e w' ⟨u, rfl, hu, hB⟩
  have hu : Rd w' _ u (tx []) := hu
  obtain ⟨A, c, rfl, _, _⟩ := hu.slShape
  exact ⟨A, c, rfl, hB⟩
theorem acc18_some {v : Value} {M N : Nat → Prop} {V : Vc} {slot : Int} {L : List Nv} {r : Nat} {d : List UInt8} (hm : accC V L = some r) (hd : mstC V L 3 (r : Int) = some d) (w : World) (hKS : KS w) (h : NX w v M N ks17 V slot L) :
    Calls Tryd.prog 14 #[v] w fun e w' => ∃ A c, e = .returned (.tuple #[.int .i64 (r : Int), .agg (bvs d).toArray, .slice A (forC L 3 (r : Int) d).length c, .bool true]) ∧ Rd w' (fun b => M b ∨ w.heap.size ≤ b) (.slice A (forC L 3 (r : Int) d).length c) (tx (forC L 3 (r : Int) d)) ∧ Below w.heap.size w w' := by
  have := iaccepted18_any v M N ks17 V slot L w hKS h
  rw [hm] at this
  refine this.mono ?_
  rintro e w' ⟨u, rfl, hu, hB⟩
  have e1 : ((some r : Option Nat).bind fun r => mstC V L 3 (r : Int)) = some d := hd
  rw [e1] at hu ⊢
  have hu : Rd w' _ u (tx (forC L 3 (r : Int) d)) := hu
  obtain ⟨A, c, rfl, _, _⟩ := hu.slShape
  exact ⟨A, c, rfl, hu, hB⟩
theorem wri18_uni {v : Value} {M N : Nat → Prop} {V : Vc} {slot : Int} {L : List Nv} {r : Int} {H : List UInt8} {P : List (List UInt8)} {q : Bool} (h1 : tolH (mstC V L 2 r) = H) (h2 : tolP (mstC V L 2 r) (forC L 2 r) = P) (h3 : (mstC V L 2 r).isSome = q) (hr : in64w r) (w : World) (hKS : KS w) (h : NX w v M N ks17 V slot L) :
    Calls Tryd.prog 12 #[v, .int .i64 r] w fun e w' => ∃ A c, e = .returned (.tuple #[.agg (bvs H).toArray, .slice A P.length c, .bool q]) ∧ Rd w' (fun b => M b ∨ w.heap.size ≤ b) (.slice A P.length c) (tx P) ∧ Below w.heap.size w w' := by
  have := iwritten18_any v M N ks17 V slot L r w hKS hr h
  rw [h1, h2, h3] at this
  refine this.mono ?_
  rintro e w' ⟨u, rfl, hu, hB⟩
  obtain ⟨A, c, rfl, _, _⟩ := hu.slShape
  exact ⟨A, c, rfl, hu, hB⟩
theorem acc18_uni {v : Value} {M N : Nat → Prop} {V : Vc} {slot : Int} {L : List Nv} {r : Int} {H : List UInt8} {P : List (List UInt8)} {q : Bool} (h0 : (((accC V L).getD 0 : Nat) : Int) = r) (h1 : tolH ((accC V L).bind fun r => mstC V L 3 (r : Int)) = H) (h2 : tolP ((accC V L).bind fun r => mstC V L 3 (r : Int)) (forC L 3 (((accC V L).getD 0 : Nat) : Int)) = P) (h3 : (accC V L).isSome = q) (w : World) (hKS : KS w) (h : NX w v M N ks17 V slot L) :
    Calls Tryd.prog 14 #[v] w fun e w' => ∃ A c, e = .returned (.tuple #[.int .i64 r, .agg (bvs H).toArray, .slice A P.length c, .bool q]) ∧ Rd w' (fun b => M b ∨ w.heap.size ≤ b) (.slice A P.length c) (tx P) ∧ Below w.heap.size w w' := by
  have := iaccepted18_any v M N ks17 V slot L w hKS h
  rw [h1, h2, h3, h0] at this
  refine this.mono ?_
  rintro e w' ⟨u, rfl, hu, hB⟩
  obtain ⟨A, c, rfl, _, _⟩ := hu.slShape
  exact ⟨A, c, rfl, hu, hB⟩
theorem tolH_len {ks : List (List UInt8)} {V : Vc} {slot : Int} {L : List Nv} (hi : NvIn ks V slot L) (k r : Int) : (tolH (mstC V L k r)).length = 32 := by
  cases hm : mstC V L k r with
  | none => rfl
  | some d => exact mst_len hi hm
theorem tolP_len (o : Option (List UInt8)) (L : List Nv) (k r : Int) : (tolP o (forC L k r)).length ≤ 16 := by
  cases o with
  | none => exact Nat.zero_le _
  | some d => exact for_le L k r d
theorem accH_len {ks : List (List UInt8)} {V : Vc} {slot : Int} {L : List Nv} (hi : NvIn ks V slot L) : (tolH ((accC V L).bind fun r => mstC V L 3 (r : Int))).length = 32 := by
  cases ha : accC V L with
  | none => rfl
  | some r => exact tolH_len hi 3 (r : Int)
theorem sizeVw18 : (Tryd.prog.info? 24).map (·.size) = some 2 := by kernel_rfl
theorem sizeAt18 : (Tryd.prog.info? 37).map (·.size) = some 2 := by kernel_rfl
theorem zeroAt18 : (Tryd.prog.info? 37).map (·.zero) = some (some (.agg [Value.int .i64 0, .slice none 0 0].toArray)) := by kernel_rfl
end Go.Proofs.YthbbpfnfnnmdnaaDoor
