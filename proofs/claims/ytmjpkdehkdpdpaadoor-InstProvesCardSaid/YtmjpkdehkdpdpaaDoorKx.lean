/- Kx: layer 18: what the laws share: votes taken one by one; Written and Accepted by cases. -/
import Derived.Test.YtmjpkdehkdpdpaaDoorKs
import Derived.Test.YtmjpkdehkdpdpaaDoorCz
namespace Go.Proofs.YtmjpkdehkdpdpaaDoor
open Go.RowKit Go.V
/-- what is kept behind some acts -/
def tksF (V : Vc) (slot : Int) (L : List Nv) (l : List At) : List Nv := l.foldl (fun L a => tkL ks17 V slot L a.b) L
theorem tks_next {V : Vc} {slot : Int} {L : List Nv} {l : List At} {i : Nat} {a : At} (h : l[i]? = some a) : tksF V slot L (l.take (i + 1)) = tkL ks17 V slot (tksF V slot L (l.take i)) a.b := by
  unfold tksF
  rw [List.take_add_one, h, Option.toList_some, List.foldl_append]
  rfl
theorem tkL_len {V : Vc} {slot : Int} {L : List Nv} {X : List UInt8} : (tkL ks17 V slot L X).length ≤ L.length + 1 := by
  rcases (tk_kept (ks := ks17) (V := V) (slot := slot) (L := L) (X := X)) with ⟨_, m, h⟩ | h
  · rw [h, List.length_append]; exact Nat.le_refl _
  · rw [h]; omega
theorem tks_len' {V : Vc} {slot : Int} : ∀ (l : List At) (L : List Nv), (tksF V slot L l).length ≤ L.length + l.length
  | [], _ => Nat.le_refl _
  | a :: l, L => by
    have h1 := tks_len' (V := V) (slot := slot) l (tkL ks17 V slot L a.b)
    have h2 := tkL_len (V := V) (slot := slot) (L := L) (X := a.b)
    show (tksF V slot (tkL ks17 V slot L a.b) l).length ≤ _
    rw [List.length_cons]
    omega
theorem tks_len (V : Vc) (slot : Int) (l : List At) {i : Nat} : (tksF V slot [] (l.take i)).length ≤ i := by
  have := tks_len' (V := V) (slot := slot) (l.take i) []
  rw [List.length_take, List.length_nil] at this
  omega
theorem tks_in {V : Vc} {slot : Int} : ∀ (l : List At) (L : List Nv), NvIn ks17 V slot L → NvIn ks17 V slot (tksF V slot L l)
  | [], _, h => h
  | a :: l, _, h => tks_in l _ (tk_in h a.b)
theorem tkL_b {V : Vc} {slot : Int} {L : List Nv} {X : List UInt8} : ∀ v ∈ tkL ks17 V slot L X, v ∈ L ∨ v.b = X := by
  intro v hv
  rcases (tk_kept (ks := ks17) (V := V) (slot := slot) (L := L) (X := X)) with ⟨_, m, h⟩ | h
  · rw [h] at hv
    rcases List.mem_append.1 hv with hv | hv
    · exact .inl hv
    · rw [List.mem_singleton.1 hv]; exact .inr rfl
  · rw [h] at hv; exact .inl hv
theorem tks_b {V : Vc} {slot : Int} : ∀ (l : List At) (L : List Nv) (n : Nat), (∀ v ∈ L, v.b.length ≤ n) → (∀ a ∈ l, a.b.length ≤ n) → ∀ v ∈ tksF V slot L l, v.b.length ≤ n
  | [], _, _, h, _ => h
  | a :: l, _, n, h, ha => tks_b l _ n (fun v hv => by
      rcases tkL_b v hv with hv | hv
      · exact h v hv
      · rw [hv]; exact ha a (by simp)) (fun x hx => ha x (by simp [hx]))
theorem tks_sub {V : Vc} {slot : Int} : ∀ (l : List At) (L : List Nv), ∀ v ∈ L, v ∈ tksF V slot L l
  | [], _, _, hv => hv
  | a :: l, _, v, hv => tks_sub l _ v (tk_sub a.b v hv)
theorem longT_bd {l : List At} (h : longT l = false) : l.length ≤ 60 ∧ ∀ a ∈ l, a.b.length ≤ 500 := by
  unfold longT at h
  rw [decide_eq_false_iff_not] at h
  refine ⟨?_, fun a ha => ?_⟩
  · rcases Nat.lt_or_ge 60 l.length with h' | h'
    · exact absurd (.inl h') h
    · exact h'
  · rcases Nat.lt_or_ge 500 a.b.length with h' | h'
    · exact absurd (.inr ⟨a, ha, h'⟩) h
    · exact h'
theorem mst_mem {V : Vc} {L : List Nv} {k r : Int} {d : List UInt8} (h : mstC V L k r = some d) : ∃ v ∈ L, v.m.h = d := by
  unfold mstC at h
  obtain ⟨v, hv, rfl⟩ := Option.map_eq_some_iff.1 h
  exact ⟨v, List.mem_of_find?_eq_some hv, rfl⟩
theorem mst_len {ks : List (List UInt8)} {V : Vc} {slot : Int} {L : List Nv} (hi : NvIn ks V slot L) {k r : Int} {d : List UInt8} (h : mstC V L k r = some d) : d.length = 32 := by
  obtain ⟨v, hv, rfl⟩ := mst_mem h
  exact (opof_ok (tl_ok (hi.v v hv)).1).1
theorem for_sm {L : List Nv} {k r : Int} {d : List UInt8} {n : Nat} (h : ∀ v ∈ L, v.b.length ≤ n) : ∀ X ∈ forC L k r d, X.length ≤ n := by
  intro X hX
  obtain ⟨i, v, _, hv, _, rfl⟩ := mem_for hX
  exact h v hv
def zH : List UInt8 := List.replicate 32 0
theorem zH_len : zH.length = 32 := rfl
theorem wri18_none {v : Value} {M N : Nat → Prop} {V : Vc} {slot : Int} {L : List Nv} {r : Int} (hm : mstC V L 2 r = none) (hr : in64w r) (w : World) (hKS : KS w) (h : NX w v M N ks17 V slot L) :
    Calls Tryd.prog 12 #[v, .int .i64 r] w fun e w' => ∃ A c, e = .returned (.tuple #[.agg (bvs zH).toArray, .slice A 0 c, .bool false]) ∧ Below w.heap.size w w' := by
  have := iwritten18_any v M N ks17 V slot L r w hKS hr h
  rw [hm] at this
  refine this.mono ?_
  rintro e w' ⟨u, rfl, hu, hB⟩
  have hu : Rd w' _ u (tx []) := hu
  obtain ⟨A, c, rfl, _, _⟩ := hu.slShape
  exact ⟨A, c, rfl, hB⟩
theorem wri18_some {v : Value} {M N : Nat → Prop} {V : Vc} {slot : Int} {L : List Nv} {r : Int} {d : List UInt8} (hm : mstC V L 2 r = some d) (hr : in64w r) (w : World) (hKS : KS w) (h : NX w v M N ks17 V slot L) :
    Calls Tryd.prog 12 #[v, .int .i64 r] w fun e w' => ∃ A c, e = .returned (.tuple #[.agg (bvs d).toArray, .slice A (forC L 2 r d).length c, .bool true]) ∧ Rd w' (fun b => M b ∨ w.heap.size ≤ b) (.slice A (forC L 2 r d).length c) (tx (forC L 2 r d)) ∧ Below w.heap.size w w' := by
  have := iwritten18_any v M N ks17 V slot L r w hKS hr h
  rw [hm] at this
  refine this.mono ?_
  rintro e w' ⟨u, rfl, hu, hB⟩
  have hu : Rd w' _ u (tx (forC L 2 r d)) := hu
  obtain ⟨A, c, rfl, _, _⟩ := hu.slShape
  exact ⟨A, c, rfl, hu, hB⟩
theorem acc18_none {v : Value} {M N : Nat → Prop} {V : Vc} {slot : Int} {L : List Nv} (hm : accC V L = none) (w : World) (hKS : KS w) (h : NX w v M N ks17 V slot L) :
    Calls Tryd.prog 14 #[v] w fun e w' => ∃ A c, e = .returned (.tuple #[.int .i64 0, .agg (bvs zH).toArray, .slice A 0 c, .bool false]) ∧ Below w.heap.size w w' := by
  have := iaccepted18_any v M N ks17 V slot L w hKS h
  rw [hm] at this
  refine this.mono ?_
  rintro e w' ⟨u, rfl, hu, hB⟩
  have hu : Rd w' _ u (tx []) := hu
  obtain ⟨A, c, rfl, _, _⟩ := hu.slShape
  exact ⟨A, c, rfl, hB⟩
theorem acc18_some {v : Value} {M N : Nat → Prop} {V : Vc} {slot : Int} {L : List Nv} {r : Nat} {d : List UInt8} (hm : accC V L = some r) (hd : mstC V L 3 (r : Int) = some d) (w : World) (hKS : KS w) (h : NX w v M N ks17 V slot L) :
    Calls Tryd.prog 14 #[v] w fun e w' => ∃ A c, e = .returned (.tuple #[.int .i64 (r : Int), .agg (bvs d).toArray, .slice A (forC L 3 (r : Int) d).length c, .bool true]) ∧ Rd w' (fun b => M b ∨ w.heap.size ≤ b) (.slice A (forC L 3 (r : Int) d).length c) (tx (forC L 3 (r : Int) d)) ∧ Below w.heap.size w w' := by
  have := iaccepted18_any v M N ks17 V slot L w hKS h
  rw [hm] at this
  refine this.mono ?_
  rintro e w' ⟨u, rfl, hu, hB⟩
  have e1 : ((some r : Option Nat).bind fun r => mstC V L 3 (r : Int)) = some d := hd
  rw [e1] at hu ⊢
  have hu : Rd w' _ u (tx (forC L 3 (r : Int) d)) := hu
  obtain ⟨A, c, rfl, _, _⟩ := hu.slShape
  exact ⟨A, c, rfl, hu, hB⟩
theorem wri18_uni {v : Value} {M N : Nat → Prop} {V : Vc} {slot : Int} {L : List Nv} {r : Int} {H : List UInt8} {P : List (List UInt8)} {q : Bool} (h1 : tolH (mstC V L 2 r) = H) (h2 : tolP (mstC V L 2 r) (forC L 2 r) = P) (h3 : (mstC V L 2 r).isSome = q) (hr : in64w r) (w : World) (hKS : KS w) (h : NX w v M N ks17 V slot L) :
    Calls Tryd.prog 12 #[v, .int .i64 r] w fun e w' => ∃ A c, e = .returned (.tuple #[.agg (bvs H).toArray, .slice A P.length c, .bool q]) ∧ Rd w' (fun b => M b ∨ w.heap.size ≤ b) (.slice A P.length c) (tx P) ∧ Below w.heap.size w w' := by
  have := iwritten18_any v M N ks17 V slot L r w hKS hr h
  rw [h1, h2, h3] at this
  refine this.mono ?_
  rintro e w' ⟨u, rfl, hu, hB⟩
  obtain ⟨A, c, rfl, _, _⟩ := hu.slShape
  exact ⟨A, c, rfl, hu, hB⟩
theorem acc18_uni {v : Value} {M N : Nat → Prop} {V : Vc} {slot : Int} {L : List Nv} {r : Int} {H : List UInt8} {P : List (List UInt8)} {q : Bool} (h0 : (((accC V L).getD 0 : Nat) : Int) = r) (h1 : tolH ((accC V L).bind fun r => mstC V L 3 (r : Int)) = H) (h2 : tolP ((accC V L).bind fun r => mstC V L 3 (r : Int)) (forC L 3 (((accC V L).getD 0 : Nat) : Int)) = P) (h3 : (accC V L).isSome = q) (w : World) (hKS : KS w) (h : NX w v M N ks17 V slot L) :
    Calls Tryd.prog 14 #[v] w fun e w' => ∃ A c, e = .returned (.tuple #[.int .i64 r, .agg (bvs H).toArray, .slice A P.length c, .bool q]) ∧ Rd w' (fun b => M b ∨ w.heap.size ≤ b) (.slice A P.length c) (tx P) ∧ Below w.heap.size w w' := by
  have := iaccepted18_any v M N ks17 V slot L w hKS h
  rw [h1, h2, h3, h0] at this
  refine this.mono ?_
  rintro e w' ⟨u, rfl, hu, hB⟩
  obtain ⟨A, c, rfl, _, _⟩ := hu.slShape
  exact ⟨A, c, rfl, hu, hB⟩
theorem tolH_len {ks : List (List UInt8)} {V : Vc} {slot : Int} {L : List Nv} (hi : NvIn ks V slot L) (k r : Int) : (tolH (mstC V L k r)).length = 32 := by
  cases hm : mstC V L k r with
  | none => rfl
  | some d => exact mst_len hi hm
theorem tolP_len (o : Option (List UInt8)) (L : List Nv) (k r : Int) : (tolP o (forC L k r)).length ≤ 16 := by
  cases o with
  | none => exact Nat.zero_le _
  | some d => exact for_le L k r d
theorem accH_len {ks : List (List UInt8)} {V : Vc} {slot : Int} {L : List Nv} (hi : NvIn ks V slot L) : (tolH ((accC V L).bind fun r => mstC V L 3 (r : Int))).length = 32 := by
  cases ha : accC V L with
  | none => rfl
  | some r => exact tolH_len hi 3 (r : Int)
theorem sizeVw18 : (Tryd.prog.info? 24).map (·.size) = some 2 := by kernel_rfl
theorem sizeAt18 : (Tryd.prog.info? 37).map (·.size) = some 2 := by kernel_rfl
theorem zeroAt18 : (Tryd.prog.info? 37).map (·.zero) = some (some (.agg [Value.int .i64 0, .slice none 0 0].toArray)) := by kernel_rfl
end Go.Proofs.YtmjpkdehkdpdpaaDoor
