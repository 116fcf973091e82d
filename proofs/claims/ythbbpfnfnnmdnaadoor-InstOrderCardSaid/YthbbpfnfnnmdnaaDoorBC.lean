/- BC: several texts in one (NB BC). -/
import Derived.Test.YthbbpfnfnnmdnaaDoorVH
import Derived.Test.YthbbpfnfnnmdnaaDoorCq
import Derived.Test.YthbbpfnfnnmdnaaDoorCA
import Derived.Test.YthbbpfnfnnmdnaaDoorVA
import Derived.Test.YthbbpfnfnnmdnaaDoorN3
/- NB: layer 18: the landed instance's maps: votes by their places, words by what they are for. -/
namespace Go.Proofs.YthbbpfnfnnmdnaaDoor
open Go.RowKit Go.V Go.Maps
theorem plK : StKey Tryd.prog 69 := ⟨⟨_, Tryd.underlying69⟩, by kernel_rfl, of_decide_eq_true (by kernel_rfl), by kernel_rfl, by kernel_rfl⟩
theorem blK : StKey Tryd.prog 72 := ⟨⟨_, Tryd.underlying72⟩, by kernel_rfl, of_decide_eq_true (by kernel_rfl), by kernel_rfl, by kernel_rfl⟩
theorem in_wf {x : Int} (h : in64w x) : (Lit.int .i64 x).wf = true := wfI h.1 h.2
theorem size3 : ∃ n, Tryd.prog.types.size = n + 2 := ⟨Tryd.prog.types.size - 2, by have : 2 ≤ Tryd.prog.types.size := of_decide_eq_true (by kernel_rfl); omega⟩
def cs3 (k r f : Int) : List Value := [.int .i64 k, .int .i64 r, .int .i64 f]
def csB (k r : Int) (h : List UInt8) : List Value := [.int .i64 k, .int .i64 r] ++ bvs h
theorem isI (d : Nat) {x : Int} (h : in64w x) : (Tryd.prog.keyLits (d + 1) 3 [.int .i64 x]).isSome = true := lits_int d _ _ _ Tryd.underlying3 (in_wf h)
theorem cellsI : Tryd.prog.cellsOf 3 = 1 := by kernel_rfl
theorem cells8 : Tryd.prog.cellsOf 5 = 1 := by kernel_rfl
theorem cellsH : Tryd.prog.cellsOf 41 = 32 := by kernel_rfl
theorem cellsP : Tryd.prog.cellsOf 69 = 3 := by kernel_rfl
theorem cellsB : Tryd.prog.cellsOf 72 = 34 := by kernel_rfl
theorem isP {k r f : Int} (hk : in64w k) (hr : in64w r) (hf : in64w f) : (cs3 k r f).length = Tryd.prog.cellsOf 69 ∧ (Tryd.prog.keyLits (Tryd.prog.types.size + 1) 69 (cs3 k r f)).isSome = true := by
  have hl : (cs3 k r f).length = Tryd.prog.cellsOf 69 := by rw [cellsP]; rfl
  refine ⟨hl, ?_⟩
  obtain ⟨n, hn⟩ := size3
  rw [hn]
  refine lits_st _ _ _ _ Tryd.underlying69 hl (by kernel_rfl) (fun x hx => ?_)
  simp only [List.mem_cons, List.not_mem_nil, or_false] at hx
  rcases hx with rfl | rfl | rfl
  · rw [cellsI]; exact isI _ hk
  · rw [cellsI]; exact isI _ hr
  · rw [cellsI]; exact isI _ hf
theorem isB {k r : Int} {h : List UInt8} (hk : in64w k) (hr : in64w r) (hh : h.length = 32) : (csB k r h).length = Tryd.prog.cellsOf 72 ∧ (Tryd.prog.keyLits (Tryd.prog.types.size + 1) 72 (csB k r h)).isSome = true := by
  have hl : (csB k r h).length = Tryd.prog.cellsOf 72 := by rw [cellsB]; simp [csB, bvs, hh]
  refine ⟨hl, ?_⟩
  obtain ⟨n, hn⟩ := size3
  rw [hn]
  refine lits_st _ _ _ _ Tryd.underlying72 hl (by kernel_rfl) (fun x hx => ?_)
  simp only [List.mem_cons, List.not_mem_nil, or_false] at hx
  rcases hx with rfl | rfl | rfl
  · rw [cellsI]; exact isI _ hk
  · rw [cellsI]; exact isI _ hr
  · have e : ((csB k r h).drop 2).take 32 = bvs h := by
      show (bvs h).take 32 = _
      exact List.take_of_length_le (by simp [bvs, hh])
    show (Tryd.prog.keyLits (n + 1 + 1) _ (((csB k r h).drop 2).take (Tryd.prog.cellsOf 41))).isSome = true
    rw [cellsH, e]
    refine lits_arr _ _ 5 32 _ Tryd.underlying41 (by rw [cellsH]; simp [bvs, hh]) cells8 (by simp [bvs, hh]) (fun v hv => ?_)
    obtain ⟨b, _, rfl⟩ := List.mem_map.1 hv
    exact lits_int _ _ _ _ Tryd.underlying5 (wfU8 b)
theorem in0 : in64w 0 := by unfold in64w; omega
noncomputable instance : Inhabited (KyG Tryd.prog 69) := ⟨⟨_, isP in0 in0 in0⟩⟩
noncomputable instance : Inhabited (KyG Tryd.prog 72) := ⟨⟨_, isB (h := List.replicate 32 0) in0 in0 (by simp)⟩⟩
@[irreducible] noncomputable def ky3 (k r f : Int) : KyG Tryd.prog 69 := kyG _ _ (cs3 k r f)
@[irreducible] noncomputable def kyB (k r : Int) (h : List UInt8) : KyG Tryd.prog 72 := kyG _ _ (csB k r h)
theorem ky3_v {k r f : Int} (hk : in64w k) (hr : in64w r) (hf : in64w f) : (ky3 k r f).v = .agg #[.int .i64 k, .int .i64 r, .int .i64 f] := by unfold ky3; exact kyG_v (isP hk hr hf)
theorem kyB_v {k r : Int} {h : List UInt8} (hk : in64w k) (hr : in64w r) (hh : h.length = 32) : (kyB k r h).v = .agg (csB k r h).toArray := by unfold kyB; exact kyG_v (isB hk hr hh)
theorem ky3_eq {k r f k' r' f' : Int} (hk : in64w k) (hr : in64w r) (hf : in64w f) (hk' : in64w k') (hr' : in64w r') (hf' : in64w f') : ky3 k r f = ky3 k' r' f' ↔ k = k' ∧ r = r' ∧ f = f' := by
  constructor
  · intro e
    unfold ky3 at e
    have := kyG_eq (isP hk hr hf) (isP hk' hr' hf') e
    unfold cs3 at this
    simpa using this
  · rintro ⟨rfl, rfl, rfl⟩; rfl
theorem bvs_inj : ∀ {a b : List UInt8}, bvs a = bvs b → a = b
  | [], [], _ => rfl
  | [], _ :: _, h => by cases h
  | _ :: _, [], h => by cases h
  | x :: a, y :: b, h => by
    have h : byteV x :: bvs a = byteV y :: bvs b := h
    injection h with h1 h2
    have h1 : Value.int .u8 (x.toNat : Int) = .int .u8 (y.toNat : Int) := h1
    injection h1 with _ h1
    have h1 : x = y := UInt8.toNat_inj.1 (by omega)
    rw [h1, bvs_inj h2]
theorem kyB_eq {k r k' r' : Int} {h h' : List UInt8} (hk : in64w k) (hr : in64w r) (hh : h.length = 32) (hk' : in64w k') (hr' : in64w r') (hh' : h'.length = 32) : kyB k r h = kyB k' r' h' ↔ k = k' ∧ r = r' ∧ h = h' := by
  constructor
  · intro e
    unfold kyB at e
    have := kyG_eq (isB hk hr hh) (isB hk' hr' hh') e
    unfold csB at this
    simp only [List.cons_append, List.nil_append, List.cons.injEq, Value.int.injEq, true_and] at this
    exact ⟨this.1, this.2.1, bvs_inj this.2.2⟩
  · rintro ⟨rfl, rfl, rfl⟩; rfl
/-- the votes' map; the words' -/
noncomputable def vM : MK Tryd.prog 69 (KyG Tryd.prog 69) (List UInt8) := plK.mk' (fun w F v X => Rd w F v (bys X)) (fun h hF => h.keep hF)
noncomputable def sM : MK Tryd.prog 72 (KyG Tryd.prog 72) Nat := blK.mk' (fun _ _ v S => v = .int .u16 (S : Int)) (fun h _ => h)
noncomputable def entV (L : List Nv) : List (KyG Tryd.prog 69 × List UInt8) := L.map fun v => (ky3 v.m.k v.m.r v.m.f, v.b)
theorem ent_mem {L : List Nv} {v : Nv} (h : v ∈ L) : (ky3 v.m.k v.m.r v.m.f, v.b) ∈ entV L := by
  unfold entV
  exact List.mem_map_of_mem (f := fun v : Nv => (ky3 v.m.k v.m.r v.m.f, v.b)) h
theorem mem_ent {L : List Nv} {p : KyG Tryd.prog 69 × List UInt8} (h : p ∈ entV L) : ∃ v ∈ L, p.1 = ky3 v.m.k v.m.r v.m.f ∧ p.2 = v.b := by
  unfold entV at h
  obtain ⟨v, hv, e⟩ := List.mem_map.1 h
  exact ⟨v, hv, by rw [← e], by rw [← e]⟩
/-- numbers that are a vote's -/
structure Nb (m : Mg) : Prop where
  k : in64w m.k
  r : in64w m.r
  f : 0 ≤ m.f ∧ m.f < 16
  h : m.h.length = 32
theorem Nb.fi {m : Mg} (h : Nb m) : in64w m.f := by have := h.f; unfold in64w; omega
theorem op_nb {ks : List (List UInt8)} {V : Vc} {X : List UInt8} {m : Mg} (h : opOf ks V X = .ok m) : Nb m ∧ 0 ≤ m.r ∧ m.r ≤ 40 := by
  unfold opOf at h
  split at h
  · rename_i m' hm
    split at h
    · injection h with h
      subst h
      have hh := op_hash hm
      have := op_num hm
      unfold numB at this
      have := of_decide_eq_true this
      exact ⟨⟨by unfold in64w; omega, by unfold in64w; omega, by omega, hh⟩, by omega⟩
    · cases h
  · cases h
theorem NvIn.nb {ks : List (List UInt8)} {V : Vc} {slot : Int} {L : List Nv} (h : NvIn ks V slot L) {v : Nv} (hv : v ∈ L) : Nb v.m ∧ 0 ≤ v.m.r ∧ v.m.r ≤ 40 := op_nb (tl_ok (h.v v hv)).1
theorem vf_none {L : List Nv} {m : Mg} (hL : ∀ v ∈ L, Nb v.m) (hm : Nb m) : findS (entV L) (ky3 m.k m.r m.f) = none ↔ L.any (sameV m) = false := by
  constructor
  · intro h
    cases ha : L.any (sameV m) with
    | false => rfl
    | true =>
      obtain ⟨v, hv, hs⟩ := List.any_eq_true.1 ha
      have hs := of_decide_eq_true hs
      exact absurd ((ky3_eq (hL v hv).k (hL v hv).r (hL v hv).fi hm.k hm.r hm.fi).2 ⟨hs.2.1, hs.2.2, hs.1⟩) (findS_none h _ (ent_mem hv))
  · intro h
    unfold findS
    rw [Option.map_eq_none_iff, List.find?_eq_none]
    intro p hp he
    obtain ⟨v, hv, e1, _⟩ := mem_ent hp
    have he := of_decide_eq_true he
    rw [e1] at he
    have he := (ky3_eq (hL v hv).k (hL v hv).r (hL v hv).fi hm.k hm.r hm.fi).1 he
    exact any_same h v hv ⟨he.2.2, he.1, he.2.1⟩
theorem vf_some {ks : List (List UInt8)} {V : Vc} {slot : Int} {L : List Nv} (hI : NvIn ks V slot L) {v : Nv} (hv : v ∈ L) : findS (entV L) (ky3 v.m.k v.m.r v.m.f) = some v.b := by
  have hL : ∀ v ∈ L, Nb v.m := fun v hv => (hI.nb hv).1
  have hm := hL v hv
  cases hq : findS (entV L) (ky3 v.m.k v.m.r v.m.f) with
  | none =>
    have h1 := (vf_none hL hm).1 hq
    have h2 : L.any (sameV v.m) = true := List.any_eq_true.2 ⟨v, hv, decide_eq_true ⟨rfl, rfl, rfl⟩⟩
    rw [h1] at h2
    cases h2
  | some X =>
    have hx := findS_mem hq
    obtain ⟨u, hu, h1, h2⟩ := mem_ent hx
    have h1 : ky3 v.m.k v.m.r v.m.f = ky3 u.m.k u.m.r u.m.f := h1
    have h2 : X = u.b := h2
    have h1 := h1.symm
    have h1 := (ky3_eq (hL u hu).k (hL u hu).r (hL u hu).fi hm.k hm.r hm.fi).1 h1
    have := hI.one hu hv ⟨h1.2.2, h1.1, h1.2.1⟩
    rw [this] at h2
    exact congrArg some h2
theorem vf_put {L : List Nv} {m : Mg} (hL : ∀ v ∈ L, Nb v.m) (hm : Nb m) (X : List UInt8) (h : L.any (sameV m) = false) : ((ky3 m.k m.r m.f, X) :: woS (entV L) (ky3 m.k m.r m.f)).Perm (entV (L ++ [⟨m, X⟩])) := by
  rw [woS_none (findS_none ((vf_none hL hm).2 h))]
  unfold entV
  rw [List.map_append]
  exact (List.perm_append_singleton _ _).symm
/-- the words tell who voted for what -/
structure BR (L : List Nv) (B : List (KyG Tryd.prog 72 × Nat)) : Prop where
  ks : ∀ p ∈ B, ∃ k r h, in64w k ∧ in64w r ∧ h.length = 32 ∧ p.1 = kyB k r h
  st : ∀ k r h, in64w k → in64w r → h.length = 32 → SetW ((findS B (kyB k r h)).getD 0) (fun i => L.any (isV k r h i))
  len : B.length ≤ L.length
theorem BR.nil : BR [] [] := by
  refine ⟨?_, ?_, Nat.le_refl _⟩
  · intro p hp
    cases hp
  · intro k r h _ _ _
    exact SetW.zero
theorem BR.lt {L : List Nv} {B : List (KyG Tryd.prog 72 × Nat)} (h : BR L B) {k r : Int} {d : List UInt8} (hk : in64w k) (hr : in64w r) (hd : d.length = 32) : (findS B (kyB k r d)).getD 0 < 65536 := (h.st k r d hk hr hd).1
theorem BR.put {L : List Nv} {B : List (KyG Tryd.prog 72 × Nat)} (h : BR L B) {m : Mg} (hm : Nb m) (X : List UInt8) : BR (L ++ [⟨m, X⟩]) ((kyB m.k m.r m.h, putB ((findS B (kyB m.k m.r m.h)).getD 0) m.f.toNat) :: woS B (kyB m.k m.r m.h)) := by
  refine ⟨fun p hp => ?_, fun k r d hk hr hd => ?_, ?_⟩
  · rcases List.mem_cons.1 hp with rfl | hp
    · exact ⟨_, _, _, hm.k, hm.r, hm.h, rfl⟩
    · exact h.ks p (List.mem_filter.1 hp).1
  · rw [findS_put]
    have hs := h.st k r d hk hr hd
    by_cases he : k = m.k ∧ r = m.r ∧ d = m.h
    · obtain ⟨rfl, rfl, rfl⟩ := he
      rw [if_pos rfl]
      refine (hs.put (i := m.f.toNat) (by have := hm.f; omega)).congr (fun i hi => ?_)
      rw [List.any_append]
      congr 1
      show _ = (isV m.k m.r m.h i ⟨m, X⟩ || false)
      rw [Bool.or_false, Bool.eq_iff_iff, decide_eq_true_eq]
      unfold isV
      rw [decide_eq_true_eq]
      have := hm.f
      constructor
      · rintro rfl; exact ⟨by show m.f = _; omega, rfl, rfl, rfl⟩
      · rintro ⟨h1, _⟩; have h1 : m.f = (i : Int) := h1; omega
    · rw [if_neg (fun e => he ((kyB_eq hk hr hd hm.k hm.r hm.h).1 e))]
      refine hs.congr (fun i hi => ?_)
      rw [List.any_append]
      have : [(⟨m, X⟩ : Nv)].any (isV k r d i) = false := by
        show (isV k r d i ⟨m, X⟩ || false) = false
        rw [Bool.or_false]
        exact decide_eq_false (fun e => he ⟨e.2.1.symm, e.2.2.1.symm, e.2.2.2.symm⟩)
      rw [this, Bool.or_false]
  · have : (woS B (kyB m.k m.r m.h)).length ≤ B.length := List.length_filter_le _ _
    have := h.len
    simp
    omega
theorem BR.mem {L : List Nv} {B : List (KyG Tryd.prog 72 × Nat)} (h : BR L B) {k r : Int} {d : List UInt8} (hk : in64w k) (hr : in64w r) (hd : d.length = 32) : memL ((findS B (kyB k r d)).getD 0) 16 = memC L k r d := (h.st k r d hk hr hd).mem
theorem BR.sz {L : List Nv} {B : List (KyG Tryd.prog 72 × Nat)} (h : BR L B) {k r : Int} {d : List UInt8} (hk : in64w k) (hr : in64w r) (hd : d.length = 32) : szM ((findS B (kyB k r d)).getD 0) = (memC L k r d).length := by
  unfold szM
  rw [h.mem hk hr hd]
/-- enough members of the view -/
def qOK (V : Vc) (S : Nat) : Bool := rgt V.n V.m && decide (quoN V.n V.m ≤ szM S)
theorem rgt_quo {n : Int} {M : Nat} (h : rgt n M = true) : 0 < quoN n M := by
  unfold quoN
  rw [if_pos h]
  omega
theorem q_enf {L : List Nv} {B : List (KyG Tryd.prog 72 × Nat)} (h : BR L B) (V : Vc) {k r : Int} {d : List UInt8} (hk : in64w k) (hr : in64w r) (hd : d.length = 32) : qOK V ((findS B (kyB k r d)).getD 0) = enfC V L k r d := by
  rw [Bool.eq_iff_iff, enf_iff]
  unfold qOK
  rw [Bool.and_eq_true, decide_eq_true_eq, h.sz hk hr hd]
  constructor
  · rintro ⟨h1, h2⟩; exact ⟨rgt_quo h1, h2⟩
  · rintro ⟨h1, h2⟩; exact ⟨(quo_rgt h1).1, h2⟩
/-- what a walk over some of the words tells: the least regency's -/
def Best (V : Vc) (k lo hi : Int) (D : List (KyG Tryd.prog 72 × Nat)) : Option (Int × List UInt8) → Prop
  | none => ∀ r d, in64w r → d.length = 32 → lo ≤ r → r ≤ hi → ∀ S, (kyB k r d, S) ∈ D → qOK V S = false
  | some (r, d) => in64w r ∧ d.length = 32 ∧ lo ≤ r ∧ r ≤ hi ∧ (∃ S, (kyB k r d, S) ∈ D ∧ qOK V S = true) ∧ ∀ r' d', in64w r' → d'.length = 32 → lo ≤ r' → r' ≤ hi → ∀ S, (kyB k r' d', S) ∈ D → qOK V S = true → r ≤ r'
theorem Best.nil (V : Vc) (k lo hi : Int) : Best V k lo hi [] none := fun _ _ _ _ _ _ S h => by cases h
/-- the step -/
def stepB (V : Vc) (k lo hi : Int) (o : Option (Int × List UInt8)) (k' r' : Int) (d' : List UInt8) (S : Nat) : Option (Int × List UInt8) :=
  if (k' = k ∧ lo ≤ r' ∧ r' ≤ hi) ∧ qOK V S = true ∧ (∀ x, o = some x → r' < x.1) then some (r', d') else o
theorem Best.step {V : Vc} {k lo hi : Int} {D : List (KyG Tryd.prog 72 × Nat)} {o : Option (Int × List UInt8)} (h : Best V k lo hi D o) (hk : in64w k) {k' r' : Int} {d' : List UInt8} {S : Nat} (hk' : in64w k') (hr' : in64w r') (hd' : d'.length = 32) : Best V k lo hi (D ++ [(kyB k' r' d', S)]) (stepB V k lo hi o k' r' d' S) := by
  have hmem : ∀ {r : Int} {d : List UInt8} {T : Nat}, in64w r → d.length = 32 → (kyB k r d, T) ∈ D ++ [(kyB k' r' d', S)] → (kyB k r d, T) ∈ D ∨ (k = k' ∧ r = r' ∧ d = d' ∧ T = S) := by
    intro r d T hr hd hm
    rcases List.mem_append.1 hm with hm | hm
    · exact .inl hm
    · have hm := List.mem_singleton.1 hm
      injection hm with h1 h2
      have := (kyB_eq hk hr hd hk' hr' hd').1 h1
      exact .inr ⟨this.1, this.2.1, this.2.2, h2⟩
  unfold stepB
  by_cases hc : (k' = k ∧ lo ≤ r' ∧ r' ≤ hi) ∧ qOK V S = true ∧ (∀ x, o = some x → r' < x.1)
  · rw [if_pos hc]
    obtain ⟨⟨rfl, h1, h2⟩, h3, h4⟩ := hc
    refine ⟨hr', hd', h1, h2, ⟨S, by simp, h3⟩, fun r d hr hd hl hh T hm hq => ?_⟩
    rcases hmem hr hd hm with hm | ⟨_, e, _, _⟩
    · cases o with
      | none => have := h r d hr hd hl hh T hm; rw [hq] at this; cases this
      | some x =>
        have := h4 x rfl
        have := h.2.2.2.2.2 r d hr hd hl hh T hm hq
        omega
    · omega
  · rw [if_neg hc]
    cases o with
    | none =>
      intro r d hr hd hl hh T hm
      rcases hmem hr hd hm with hm | ⟨e1, e2, e3, e4⟩
      · exact h r d hr hd hl hh T hm
      · subst e1 e2 e4
        cases hq : qOK V T with
        | false => rfl
        | true => exact absurd ⟨⟨rfl, hl, hh⟩, hq, fun x hx => by cases hx⟩ hc
    | some x =>
      obtain ⟨h1, h2, h3, h4, ⟨T0, h5, h5'⟩, h6⟩ := h
      refine ⟨h1, h2, h3, h4, ⟨T0, List.mem_append_left _ h5, h5'⟩, fun r d hr hd hl hh T hm hq => ?_⟩
      rcases hmem hr hd hm with hm | ⟨e1, e2, e3, e4⟩
      · exact h6 r d hr hd hl hh T hm hq
      · subst e1 e2 e4
        apply Classical.byContradiction
        intro hn
        exact hc ⟨⟨rfl, hl, hh⟩, hq, fun y hy => by injection hy with hy; subst hy; show r < x.1; omega⟩
theorem Best.perm {V : Vc} {k lo hi : Int} {D D' : List (KyG Tryd.prog 72 × Nat)} {o : Option (Int × List UInt8)} (h : Best V k lo hi D o) (hp : D.Perm D') : Best V k lo hi D' o := by
  cases o with
  | none => exact fun r d hr hd hl hh T hm => h r d hr hd hl hh T (hp.mem_iff.2 hm)
  | some x =>
    obtain ⟨h1, h2, h3, h4, ⟨T0, h5, h5'⟩, h6⟩ := h
    exact ⟨h1, h2, h3, h4, ⟨T0, hp.mem_iff.1 h5, h5'⟩, fun r d hr hd hl hh T hm hq => h6 r d hr hd hl hh T (hp.mem_iff.2 hm) hq⟩
theorem enf_mem {L : List Nv} {B : List (KyG Tryd.prog 72 × Nat)} (h : BR L B) {V : Vc} {k r : Int} {d : List UInt8} (hk : in64w k) (hr : in64w r) (hd : d.length = 32) (he : enfC V L k r d = true) : ∃ S, (kyB k r d, S) ∈ B ∧ qOK V S = true := by
  rw [← q_enf h V hk hr hd] at he
  cases hf : findS B (kyB k r d) with
  | none =>
    rw [hf] at he
    exfalso
    unfold qOK at he
    rw [Bool.and_eq_true, decide_eq_true_eq] at he
    have h1 := rgt_quo he.1
    have h2 : szM ((none : Option Nat).getD 0) = 0 := by decide +kernel
    omega
  | some S =>
    rw [hf] at he
    exact ⟨S, findS_mem hf, he⟩
theorem mem_enf {L : List Nv} {B : List (KyG Tryd.prog 72 × Nat)} (h : BR L B) (hu : (B.map (·.1)).Nodup) {V : Vc} {k r : Int} {d : List UInt8} (hk : in64w k) (hr : in64w r) (hd : d.length = 32) {S : Nat} (hm : (kyB k r d, S) ∈ B) : qOK V S = enfC V L k r d := by
  rw [← q_enf h V hk hr hd, findS_uq hu hm]
  rfl
/-- of one regency: the digest for which a quorum votes -/
theorem best_mst {ks : List (List UInt8)} {V : Vc} {slot : Int} {L : List Nv} (hI : NvIn ks V slot L) {B : List (KyG Tryd.prog 72 × Nat)} (h : BR L B) (hu : (B.map (·.1)).Nodup) {k r : Int} (hk : in64w k) (hr : in64w r) {o : Option (Int × List UInt8)} (hb : Best V k r r B o) : mstC V L k r = o.map (·.2) ∧ ∀ x, o = some x → x.1 = r := by
  cases o with
  | none =>
    refine ⟨?_, fun x hx => by cases hx⟩
    cases hm : mstC V L k r with
    | none => rfl
    | some d =>
      exfalso
      have he := (mst_iff hI).1 hm
      have hd : d.length = 32 := by
        unfold mstC at hm
        obtain ⟨v, hv, rfl⟩ := Option.map_eq_some_iff.1 hm
        exact (hI.nb (List.mem_of_find?_eq_some hv)).1.h
      obtain ⟨S, hS, hq⟩ := enf_mem h hk hr hd he
      have := hb r d hr hd (Int.le_refl _) (Int.le_refl _) S hS
      rw [hq] at this
      cases this
  | some x =>
    obtain ⟨r', d⟩ := x
    obtain ⟨h1, h2, h3, h4, ⟨S, h5, h5'⟩, h6⟩ := hb
    have e : r' = r := by omega
    subst e
    refine ⟨?_, fun x hx => by injection hx with hx; rw [← hx]⟩
    rw [mem_enf h hu hk h1 h2 h5] at h5'
    exact (mst_iff hI).2 h5'
theorem mst_in {ks : List (List UInt8)} {V : Vc} {slot : Int} {L : List Nv} (hI : NvIn ks V slot L) {k r : Int} {d : List UInt8} (hm : mstC V L k r = some d) : d.length = 32 ∧ 0 ≤ r ∧ r ≤ 40 := by
  unfold mstC at hm
  obtain ⟨v, hv, rfl⟩ := Option.map_eq_some_iff.1 hm
  have h1 := hI.nb (List.mem_of_find?_eq_some hv)
  have h2 := List.find?_some hv
  rw [Bool.and_eq_true, decide_eq_true_eq] at h2
  refine ⟨h1.1.h, ?_, ?_⟩
  · rw [← h2.1.2]; exact h1.2.1
  · rw [← h2.1.2]; exact h1.2.2
/-- of all regencies: the least -/
theorem best_acc {ks : List (List UInt8)} {V : Vc} {slot : Int} {L : List Nv} (hI : NvIn ks V slot L) {B : List (KyG Tryd.prog 72 × Nat)} (h : BR L B) (hu : (B.map (·.1)).Nodup) {o : Option (Int × List UInt8)} (hb : Best V 3 0 40 B o) :
    match o with | none => accC V L = none | some (r, d) => ∃ n : Nat, r = (n : Int) ∧ accC V L = some n ∧ mstC V L 3 (n : Int) = some d := by
  have h3 : in64w 3 := by unfold in64w; omega
  cases o with
  | none =>
    show accC V L = none
    unfold accC
    rw [List.find?_eq_none]
    intro n hn hs
    have hn := List.mem_range.1 hn
    obtain ⟨d, hd⟩ := Option.isSome_iff_exists.1 hs
    have he := (mst_iff hI).1 hd
    have h32 := (mst_in hI hd).1
    have hr : in64w (n : Int) := by unfold in64w; omega
    obtain ⟨S, hS, hq⟩ := enf_mem h h3 hr h32 he
    have := hb n d hr h32 (by omega) (by omega) S hS
    rw [hq] at this
    cases this
  | some x =>
    obtain ⟨r, d⟩ := x
    obtain ⟨h1, h2, h3', h4, ⟨S, h5, h5'⟩, h6⟩ := hb
    obtain ⟨n, rfl⟩ := Int.eq_ofNat_of_zero_le h3'
    rw [mem_enf h hu h3 h1 h2 h5] at h5'
    have hm := (mst_iff hI).2 h5'
    refine ⟨n, rfl, ?_, hm⟩
    unfold accC
    refine List.find?_range_eq_some.2 ⟨by rw [hm]; rfl, List.mem_range.2 (by omega), fun j hj => ?_⟩
    cases hj2 : mstC V L 3 (j : Int) with
    | none => rfl
    | some d' =>
      exfalso
      have he := (mst_iff hI).1 hj2
      have hin := mst_in hI hj2
      have hr : in64w (j : Int) := by unfold in64w; omega
      obtain ⟨S', hS', hq'⟩ := enf_mem h h3 hr hin.1 he
      have := h6 j d' hr hin.1 (by omega) (by omega) S' hS' hq'
      omega
/-- the votes for it, by rising members -/
theorem for_mem {ks : List (List UInt8)} {V : Vc} {slot : Int} {L : List Nv} (hI : NvIn ks V slot L) (k r : Int) (d : List UInt8) : forC L k r d = (memC L k r d).filterMap (fun (i : Nat) => findS (entV L) (ky3 k r (i : Int))) := by
  unfold forC memC
  rw [List.filterMap_filter]
  congr 1
  funext i
  cases hf : L.find? (isV k r d i) with
  | none =>
    rw [List.find?_eq_none] at hf
    have : L.any (isV k r d i) = false := by
      cases ha : L.any (isV k r d i) with
      | false => rfl
      | true =>
        obtain ⟨v, hv, hp⟩ := List.any_eq_true.1 ha
        exact absurd hp (hf v hv)
    rw [this]
    rfl
  | some v =>
    have hv := List.mem_of_find?_eq_some hf
    have hp := List.find?_some hf
    have : L.any (isV k r d i) = true := List.any_eq_true.2 ⟨v, hv, hp⟩
    rw [this, if_pos rfl]
    have hp := of_decide_eq_true hp
    have := vf_some hI hv
    rw [hp.1, hp.2.1, hp.2.2.1] at this
    rw [this]
    rfl
theorem mem_vote {ks : List (List UInt8)} {V : Vc} {slot : Int} {L : List Nv} (hI : NvIn ks V slot L) {k r : Int} {d : List UInt8} {i : Nat} (h : i ∈ memC L k r d) : ∃ X, findS (entV L) (ky3 k r (i : Int)) = some X ∧ i < 16 := by
  unfold memC at h
  rw [List.mem_filter, List.mem_range] at h
  obtain ⟨v, hv, hp⟩ := List.any_eq_true.1 h.2
  have hp := of_decide_eq_true hp
  have := vf_some hI hv
  rw [hp.1, hp.2.1, hp.2.2.1] at this
  exact ⟨_, this, h.1⟩
end Go.Proofs.YthbbpfnfnnmdnaaDoor
/- BC: bytes.Clone. -/
namespace Go.Proofs.YthbbpfnfnnmdnaaDoor
open Go.RowKit Go.V
set_option maxRecDepth 100000 in
set_option maxHeartbeats 2000000 in
theorem bclone_any (bs : List UInt8) (F : Nat → Prop) (v : Value) (w : World) (h : Rd w F v (bys bs)) (hb : bs.length ≤ 1000000000) :
    Calls Tryd.prog 21 #[v] w fun e w' => ∃ v', e = .returned v' ∧ w'.ownsRow w.heap.size 5 1 v' bs.length (bvs bs) ∧ Below w.heap.size w w' := by
  obtain ⟨A, c, rfl⟩ := h.shape
  have hsr := h.src
  cases A with
  | none =>
    obtain ⟨h0, h1⟩ := hsr.none0
    have h2 : Hid (bs = []) := List.eq_nil_of_length_eq_zero h0
    rw [h0]
    clear h h0 h1 hsr
    have hnil := fun W : World => (by kernel_rfl : (Go.binOp BinOp.eql 35 (.slice none 0 c) (.slice none 0 0)).run Tryd.prog W = .ok (.bool true) W)
    go_enter Tryd.func21, Tryd.ntmps21
    go_wp2
    go_ret
    exact ⟨_, rfl, by rw [h2.out]; exact World.ownsRow_nil _ _ _ _, Below.refl _ _⟩
  | some ad =>
    have hnil := fun W : World => (by kernel_rfl : (Go.binOp BinOp.eql 35 (.slice (some ad) bs.length c) (.slice none 0 0)).run Tryd.prog W = .ok (.bool false) W)
    have Hbs := hid (fun W : World => (by kernel_rfl : (Instr.buildSlice 35 0 #[]).run Tryd.prog W = .ok (.slice (some ⟨W.heap.size, 0, none⟩) 0 0) (W.alloc (.cells #[] 5))))
    go_enter Tryd.func21, Tryd.ntmps21
    go_wp2_with (first | (refine wp_bs0 35 5 rfl rfl Hbs.out ?_; intro v9 w9 ho9 hB9; have hsr9 := (h.below hB9).src) | (refine wp_app (.tmp 5) (.tmp 6) slB rfl rfl rfl ho9 rfl hsr9 (oneCell_bvs _) (by simp only [maxLen]; omega) (by omega) hB9.size ?_; intro v8 w8 ho8 hG8 _; refine wp_stop ?_) | go_in)
    have hB8 : Below w.heap.size w w8 := hB9.grown hG8 hB9.size (fun k hk => (ho9.lt k hk).1)
    rw [List.nil_append, Nat.zero_add] at ho8
    obtain ⟨A8, c8, rfl⟩ := own_shape ho8
    clear ho9 hB9 hG8 hsr hsr9 h
    refine wp_go ?_
    go_wp2
    go_ret
    exact ⟨_, rfl, ho8, hB8⟩
end Go.Proofs.YthbbpfnfnnmdnaaDoor
