/- CB: several texts in one (Cg QL QM QN Cs W4 Ct Cu Cw F Cx Cy Cz Zv Zw CB). -/
import Derived.Test.YtnhhbbjkeekneaaGreatDoorM1
import Derived.Test.YtnhhbbjkeekneaaGreatDoorCr
import Derived.Test.YtnhhbbjkeekneaaGreatDoorOT
import Derived.Test.YtnhhbbjkeekneaaGreatDoorSA
import Derived.Deep.DeepCutAuto
import Derived.Deep.RegionHeld3
import Derived.Test.YtnhhbbjkeekneaaGreatDoorK3
import Derived.Test.YtnhhbbjkeekneaaGreatDoorZp
import Derived.Test.YtnhhbbjkeekneaaGreatDoorQE
import Derived.Test.YtnhhbbjkeekneaaGreatDoorQ7
import Derived.BigQuiet
import Derived.Test.YtnhhbbjkeekneaaGreatDoorT5
import Derived.Test.YtnhhbbjkeekneaaGreatDoorRB
import Derived.Test.YtnhhbbjkeekneaaGreatDoorCq
import Derived.Test.YtnhhbbjkeekneaaGreatDoorW2
import Derived.Test.YtnhhbbjkeekneaaGreatDoorV
import Derived.OpenShut
import Derived.ChangeOld
import Derived.ShutString
import Derived.Test.YtnhhbbjkeekneaaGreatDoorS3
/- Cg: layer 17, the document's side: contract of ref08.Get over any bytes. -/
namespace Go.V
open Go.RowKit
end Go.V
namespace Go.Proofs.YtnhhbbjkeekneaaGreatDoor
open Go.RowKit Go.V
theorem fill_set (l : List UInt8) (i n : Nat) (hi : i < n) (hl : n ≤ l.length) : (l.take i ++ List.replicate (n - i) 0).set i (l[i]'(by omega)) = l.take (i + 1) ++ List.replicate (n - (i + 1)) 0 := by
  rw [List.set_append_right _ _ (by rw [List.length_take]; omega), List.length_take, show i - min i l.length = 0 from by omega, show n - i = (n - (i + 1)) + 1 from by omega, List.replicate_succ, List.set_cons_zero, List.take_succ_eq_append_getElem (by omega), List.append_assoc]
  rfl
end Go.Proofs.YtnhhbbjkeekneaaGreatDoor
/- QL: layer 7, the document's side over any bytes: contract of text. -/
namespace Go.Proofs.YtnhhbbjkeekneaaGreatDoor
open Go.RowKit Go.V
/-- a request that was read, and the error: cells -/
def gqL (l : List Value) (e : Int) : List Value := l ++ [.int .i64 e]
def gqE (e : Int) : List Value := gqL zQ e
/-- what the document's reading of a request answers -/
def GrQ (w : World) (r : Except Nat Rq) (e : Ending) (w' : World) : Prop := match r with
  | .ok r => ∃ u, e = .returned (.agg (gqL (r.l u) 0).toArray) ∧ Rd w' (fun b => w.heap.size ≤ b) u (bys r.g) ∧ Below w.heap.size w w'
  | .error er => e = .returned (.agg (gqE (er : Int)).toArray) ∧ Below w.heap.size w w'
theorem GrQ.err {w w' : World} {r : Except Nat Rq} {er : Nat} (h : r = .error er) (hB : Below w.heap.size w w') : GrQ w r (.returned (.agg (gqE (er : Int)).toArray)) w' := by rw [h]; exact ⟨rfl, hB⟩
end Go.Proofs.YtnhhbbjkeekneaaGreatDoor
/- QM: layer 7, the document's side over any bytes: contract of Get. -/
namespace Go.Proofs.YtnhhbbjkeekneaaGreatDoor
open Go.RowKit Go.V
end Go.Proofs.YtnhhbbjkeekneaaGreatDoor
/- QN: layer 7, the document's side over any bytes: contracts of GetBatch, Check, CheckBatch. -/
namespace Go.Proofs.YtnhhbbjkeekneaaGreatDoor
open Go.RowKit Go.V
end Go.Proofs.YtnhhbbjkeekneaaGreatDoor
/- Cs: layer 17, the document's side: contract of ref09.Open over that of ref08.Get. -/
namespace Go.Proofs.YtnhhbbjkeekneaaGreatDoor
open Go.RowKit Go.V
end Go.Proofs.YtnhhbbjkeekneaaGreatDoor
/- W4: layer 6: contracts of the document's answers: members, how many must agree, who leads. -/
namespace Go.Proofs.YtnhhbbjkeekneaaGreatDoor
open Go.RowKit Go.V
end Go.Proofs.YtnhhbbjkeekneaaGreatDoor
/- Ct: layer 17, the document's side: contract of ref09.OpenOf over that of ref09.Open. -/
namespace Go.Proofs.YtnhhbbjkeekneaaGreatDoor
open Go.RowKit Go.V
end Go.Proofs.YtnhhbbjkeekneaaGreatDoor
/- Cu: layer 17, the document's side: contract of ref17.Counts. -/
namespace Go.Proofs.YtnhhbbjkeekneaaGreatDoor
open Go.RowKit Go.V
def qOf (m : Mg) : Qc := ⟨m.k, m.v, m.r, m.s, m.h⟩
theorem opof_pos {ks : List (List UInt8)} {V : Vc} {X : List UInt8} {e : Nat} (h : opOf ks V X = .error e) : e ≠ 0 := by
  unfold opOf at h
  split at h
  · split at h
    · cases h
    · injection h with h; omega
  · rename_i e' he
    injection h with h
    subst h
    exact op_pos he
theorem opof_ok {ks : List (List UInt8)} {V : Vc} {X : List UInt8} {m : Mg} (h : opOf ks V X = .ok m) : m.h.length = 32 ∧ 0 ≤ m.f := by
  unfold opOf at h
  split at h
  · rename_i m' hm
    split at h
    · rename_i hb
      injection h with h
      subst h
      unfold hasB at hb
      rw [Bool.and_eq_true, decide_eq_true_eq] at hb
      exact ⟨op_hash hm, by omega⟩
    · cases h
  · cases h
theorem eqH17 (p q : List UInt8) (hp : p.length = 32) (hq : q.length = 32) : ∀ W : World, (Op.equalIn 10000 32 (.agg (bvs p).toArray) (.agg (bvs q).toArray)).run Tryz.prog W = .ok (decide (p = q)) W := fun W => by
  have := run_equalIn_bytes (P := Tryz.prog) W 9998 32 5 32 Tryz.underlying32 Tryz.underlying5 Tryz.sizeOf5 p q hp hq
  rw [show decide (p = q) = (p == q) from by rw [Bool.eq_iff_iff]; simp]
  exact this
theorem bneI {a b : Int} (h : a = b) : (a != b) = false := by rw [h]; simp
theorem bneN {a b : Int} (h : a ≠ b) : (a != b) = true := bne_iff_ne.2 h
end Go.Proofs.YtnhhbbjkeekneaaGreatDoor
/- Cw: layer 17, the document's side: contract of ref17.Who. -/
namespace Go.Proofs.YtnhhbbjkeekneaaGreatDoor
open Go.RowKit Go.V
end Go.Proofs.YtnhhbbjkeekneaaGreatDoor
/- F: opening the arguments of a law to what this seat's words say of them. No project text. -/
namespace Go.V
open Go.ChangeShapes Go.WideShapes Go.ChangeAt Go.RowKit

theorem u8_of_wf {n : Int} (h : (Lit.int .u8 n).wf = true) : 0 ≤ n ∧ n < 256 := by
  simp [Lit.wf, IntKind.min, IntKind.max, IntKind.signed, IntKind.bits] at h
  omega
theorem i64_of_wf {n : Int} (h : (Lit.int .i64 n).wf = true) : -9223372036854775808 ≤ n ∧ n ≤ 9223372036854775807 := by
  simp [Lit.wf, IntKind.min, IntKind.max, IntKind.signed, IntKind.bits] at h
  omega

theorem u16_of_wf {n : Int} (h : (Lit.int .u16 n).wf = true) : ∃ m : Nat, n = (m : Int) ∧ m < 65536 := by
  simp [Lit.wf, IntKind.min, IntKind.max, IntKind.signed, IntKind.bits] at h
  exact ⟨n.toNat, by omega, by omega⟩
theorem spot_none {W : World} {x : Addr} {v : Value} (h : W.cell? x = some v) : x.spot = none := by
  unfold World.cell? at h
  split at h
  · split at h
    · cases h
    · rename_i hs; simpa using hs
  · cases h
end Go.V
/- Cx: layer 17, the document's side: contract of ref17.Pick. -/
namespace Go.Proofs.YtnhhbbjkeekneaaGreatDoor
open Go.RowKit Go.V
end Go.Proofs.YtnhhbbjkeekneaaGreatDoor
/- Cy: layer 17, the document's side: contracts of ref17.Written, Decided. -/
namespace Go.Proofs.YtnhhbbjkeekneaaGreatDoor
open Go.RowKit Go.V
/-- the message that is asked for -/
def aM (k n r s : Int) (h : List UInt8) : Mg := ⟨k, 0, n, r, s, h, [], []⟩
def aL (k n r s : Int) (h : List UInt8) : List Value := (aM k n r s h).l (.slice none 0 0) (.slice none 0 0)
set_option maxRecDepth 100000 in
theorem bldA17 (k n r s : Int) (h : List UInt8) (hh : h.length = 32) : ∀ W : World, (Instr.build 47 [(0, .int .i64 k), (2, .int .i64 n), (3, .int .i64 r), (4, .int .i64 s), (5, .agg (bvs h).toArray)].toArray).run Tryz.prog W = .ok (.agg (aL k n r s h).toArray) W := by
  match h, hh with
  | [a0, a1, a2, a3, a4, a5, a6, a7, a8, a9, a10, a11, a12, a13, a14, a15, a16, a17, a18, a19, a20, a21, a22, a23, a24, a25, a26, a27, a28, a29, a30, a31], _ => intro W; kernel_rfl
theorem len_aL (k n r s : Int) (h : List UInt8) (hh : h.length = 32) : (aL k n r s h).length = 39 := len_mg hh _ _
theorem one_aL (k n r s : Int) (h : List UInt8) : ∀ v ∈ aL k n r s h, v.oneCell' = true := one_mg
end Go.Proofs.YtnhhbbjkeekneaaGreatDoor
/- Cz: layer 17, the document's side: contract of ref17.Decided. -/
namespace Go.Proofs.YtnhhbbjkeekneaaGreatDoor
open Go.RowKit Go.V
theorem dec_no {ks : List (List UInt8)} {n : Int} {M : Nat} {s : Int} {h : List UInt8} {P : List (List UInt8)} (hx : ¬ (rgt n M = true ∧ P.length ≤ 16)) : decC ks ⟨n, M⟩ s h P = (0, 12) := by
  unfold decC
  rw [if_neg (fun hy => hx ?_)]
  unfold okC at hy
  rw [Bool.and_eq_true, decide_eq_true_eq] at hy
  exact hy
theorem dec_at {ks : List (List UInt8)} {n : Int} {M : Nat} {s : Int} {h : List UInt8} {P : List (List UInt8)} {r : Nat} (hx : rgt n M = true ∧ P.length ≤ 16) (hr : r ≤ 40) (he : quoN n M ≤ (whoC ks ⟨n, M⟩ ⟨3, n, (r : Int), s, h⟩ P).length) (hn : ∀ k : Nat, k < r → enC ks ⟨n, M⟩ ⟨3, n, (k : Int), s, h⟩ P = false) : decC ks ⟨n, M⟩ s h P = ((r : Int), 0) := by
  have e : leaC ks ⟨n, M⟩ s h P = some r := lea_of (V := ⟨n, M⟩) hr (decide_eq_true he) hn
  unfold decC
  rw [if_pos (by unfold okC; rw [Bool.and_eq_true, decide_eq_true_eq]; exact hx), e]
theorem dec_none {ks : List (List UInt8)} {n : Int} {M : Nat} {s : Int} {h : List UInt8} {P : List (List UInt8)} (hn : ∀ k : Nat, k < 41 → enC ks ⟨n, M⟩ ⟨3, n, (k : Int), s, h⟩ P = false) : decC ks ⟨n, M⟩ s h P = (0, 12) := by
  have e : leaC ks ⟨n, M⟩ s h P = none := by
    unfold leaC
    rw [List.find?_eq_none]
    intro k hk
    have := hn k (List.mem_range.1 hk)
    rw [this]
    decide
  unfold decC
  rw [e]
  split <;> rfl
end Go.Proofs.YtnhhbbjkeekneaaGreatDoor
/- Zv: layer 19, the document's side: contract of Valid. -/
namespace Go.Proofs.YtnhhbbjkeekneaaGreatDoor
open Go.RowKit Go.V
theorem td_get35 (s : Int) (b : Bool) (r : Int) (d : List UInt8) (bb : List UInt8) (u : Value) (e : Int) (h1 : d.length = 32) : (tdL ⟨s, b, r, d, bb⟩ u e)[35]? = some u := by
  unfold tdL bdL
  have hb : ([Value.int .i64 s, .bool b, .int .i64 r] ++ bvs d).length = 35 := by rw [List.length_append, len_bvs, h1]; rfl
  show ([Value.int .i64 s, .bool b, .int .i64 r] ++ bvs d ++ [u] ++ [Value.int .i64 e])[35]? = _
  rw [List.getElem?_append_left (by rw [List.length_append, hb]; show 35 < 35 + 1; omega), List.getElem?_append_right (by omega), hb]
  rfl
end Go.Proofs.YtnhhbbjkeekneaaGreatDoor
/- Zw: layer 19: what is told, as rows; a choice's cells. -/
namespace Go.Proofs.YtnhhbbjkeekneaaGreatDoor
open Go.RowKit Go.V
def toD : WD To 36 := ⟨fun t => .atom (.int .i64 t.b.l) :: .atom (.bool t.b.h) :: .atom (.int .i64 t.b.r) :: ((bvs t.b.d).map .atom ++ [bys t.b.b]), fun t => by simp [bvs, t.hh], by omega⟩
theorem to_open {w : World} {F : Nat → Prop} {t : To} {cs : List Value} (h : WdEl w F toD t cs) : ∃ ub, cs = bdL t.b ub ∧ Rd w F ub (bys t.b.b) := by
  obtain ⟨hl, ha⟩ := h
  have hh := t.hh
  match cs, hl with
  | c0 :: c1 :: c2 :: cs, hl =>
    have hl : cs.length = 33 := by simpa using hl
    have h0 := ha 0 c0 _ rfl rfl
    have h1 := ha 1 c1 _ rfl rfl
    have h2 := ha 2 c2 _ rfl rfl
    unfold Rd at h0 h1 h2
    subst h0 h1 h2
    have hat : ∀ j v d, cs[j]? = some v → ((bvs t.b.d).map Dat.atom ++ [bys t.b.b])[j]? = some d → Rd w F v d := fun j v d hv hd => ha (j + 3) v d (by simpa using hv) (by simpa [toD] using hd)
    have hbl : (bvs t.b.d).length = 32 := by simp [bvs, hh]
    obtain ⟨ub, hub⟩ : ∃ ub, cs[32]? = some ub := ⟨_, List.getElem?_eq_getElem (by omega)⟩
    refine ⟨ub, ?_, hat 32 ub _ hub (by rw [List.getElem?_append_right (by simp [hbl])]; simp [hbl])⟩
    have e : cs = bvs t.b.d ++ [ub] := by
      apply List.ext_getElem?
      intro j
      by_cases hj : j < 32
      · obtain ⟨v, hv⟩ : ∃ v, cs[j]? = some v := ⟨_, List.getElem?_eq_getElem (by omega)⟩
        obtain ⟨u, hu⟩ : ∃ u, (bvs t.b.d)[j]? = some u := ⟨_, List.getElem?_eq_getElem (by omega)⟩
        have := hat j v (.atom u) hv (by rw [List.getElem?_append_left (by simp [hbl]; omega), List.getElem?_map, hu]; rfl)
        unfold Rd at this
        rw [hv, this, List.getElem?_append_left (by omega), hu]
      · by_cases h32 : j = 32
        · subst h32
          rw [hub, List.getElem?_append_right (by omega), hbl]; rfl
        · rw [List.getElem?_eq_none (by omega), List.getElem?_eq_none (by simp [hbl]; omega)]
    rw [e]
    unfold bdL
    simp
theorem to_mk {w : World} {F : Nat → Prop} {t : To} {ub : Value} (h1 : Rd w F ub (bys t.b.b)) : WdEl w F toD t (bdL t.b ub) := by
  refine ⟨len_bd t.hh ub, fun j v d hv hd => ?_⟩
  have hh := t.hh
  have hbl : (bvs t.b.d).length = 32 := by simp [bvs, hh]
  match j with
  | 0 => simp [bdL, toD] at hv hd; subst hv hd; unfold Rd; rfl
  | 1 => simp [bdL, toD] at hv hd; subst hv hd; unfold Rd; rfl
  | 2 => simp [bdL, toD] at hv hd; subst hv hd; unfold Rd; rfl
  | j + 3 =>
    have hv : (bvs t.b.d ++ [ub])[j]? = some v := by simpa [bdL] using hv
    have hd : ((bvs t.b.d).map Dat.atom ++ [bys t.b.b])[j]? = some d := by simpa [toD] using hd
    by_cases hj : j < 32
    · rw [List.getElem?_append_left (by omega)] at hv
      rw [List.getElem?_append_left (by simp [hbl]; omega), List.getElem?_map, hv] at hd
      simp at hd
      subst hd
      unfold Rd
      rfl
    · rw [List.getElem?_append_right (by omega), hbl] at hv
      rw [List.getElem?_append_right (by simp [hbl]; omega), List.length_map, hbl] at hd
      by_cases h32 : j = 32
      · subst h32; simp at hv hd; subst hv hd; exact h1
      · rw [List.getElem?_eq_none (by simp; omega)] at hv; cases hv
theorem one_bd {x : Bd} {A : Option Addr} {n c : Nat} : ∀ v ∈ bdL x (.slice A n c), v.oneCell' = true := fun v hv => one_td (e := 0) v (List.mem_append_left _ hv)
theorem bd_l (x : Bd) (u : Value) : (bdL x u)[0]? = some (.int .i64 x.l) := rfl
theorem bd_h (x : Bd) (u : Value) : (bdL x u)[1]? = some (.bool x.h) := rfl
theorem bd_r (x : Bd) (u : Value) : (bdL x u)[2]? = some (.int .i64 x.r) := rfl
theorem bd_d (x : Bd) (u : Value) : ∀ (j : Nat) (v : Value), (bvs x.d)[j]? = some v → (bdL x u)[3 + j]? = some v := by
  intro j v hv
  have hj : j < (bvs x.d).length := (List.getElem?_eq_some_iff.1 hv).1
  unfold bdL
  rw [List.append_assoc, List.getElem?_append_right (by show 3 ≤ 3 + j; omega), show 3 + j - [Value.int .i64 x.l, .bool x.h, .int .i64 x.r].length = j from by show 3 + j - 3 = j; omega, List.getElem?_append_left hj]
  exact hv
theorem bd_b {x : Bd} (h : x.d.length = 32) (u : Value) : (bdL x u)[35]? = some u := by
  have := td_get35 x.l x.h x.r x.d x.b u 0 h
  unfold tdL at this
  rwa [List.getElem?_append_left (by rw [len_bd (x := ⟨x.l, x.h, x.r, x.d, x.b⟩) h]; omega)] at this
def zBdL : List Value := bdL zBd (.slice none 0 0)
theorem slBd19 : SlW Tryz.prog 67 51 zBdL 36 80 := .of Tryz.underlying67 (by kernel_rfl) rfl (by omega) (by omega)
theorem sizeBd19 : (Tryz.prog.info? 51).map (·.size) = some 36 := by kernel_rfl
theorem len_ci {x : Ci} (h : x.d.length = 32) (u : Value) : (ciL x u).length = 35 := by unfold ciL; simp [len_bvs, h]
theorem one_ci {x : Ci} {A : Option Addr} {n c : Nat} : ∀ v ∈ ciL x (.slice A n c), v.oneCell' = true := by
  intro v hv
  unfold ciL at hv
  simp only [List.mem_append, List.mem_cons, List.not_mem_nil, or_false] at hv
  rcases hv with ((rfl | rfl) | h) | rfl
  · rfl
  · rfl
  · exact oneCell_bvs _ v h
  · rfl
theorem sizeCi : (Tryz.prog.info? 35).map (·.size) = some 35 := by kernel_rfl
theorem zeroCi : (Tryz.prog.info? 35).map (·.zero) = some (some (.agg (ciL zCi (.slice none 0 0)).toArray)) := by kernel_rfl
theorem bldC0 : ∀ W : World, (Instr.build 35 [].toArray).run Tryz.prog W = .ok (.agg (ciL zCi (.slice none 0 0)).toArray) W := fun _ => by kernel_rfl
/-- what the document's Choose answers -/
def ChQ (w : World) (T : Ci × Int) (e : Ending) (w' : World) : Prop := ∃ u, e = .returned (.tuple #[.agg (ciL T.1 u).toArray, .int .i64 T.2]) ∧ Rd w' (fun b => w.heap.size ≤ b) u (bys T.1.b) ∧ Below w.heap.size w w'
theorem ChQ.err {w w' : World} {T : Ci × Int} {er : Int} (h : T = (zCi, er)) (hB : Below w.heap.size w w') : ChQ w T (.returned (.tuple #[.agg (ciL zCi (.slice none 0 0)).toArray, .int .i64 er])) w' := by
  subst h
  exact ⟨_, rfl, Rd.nil _ _, hB⟩
end Go.Proofs.YtnhhbbjkeekneaaGreatDoor
/- CB: layer 17, contracts of certs' small functions: members of a set, quorums, what may prove; what finds votes. -/
namespace Go.Proofs.YtnhhbbjkeekneaaGreatDoor
open Go.RowKit Go.V
set_option maxRecDepth 100000 in
set_option maxHeartbeats 1000000 in
theorem isq17_any (n : Int) (M S : Nat) (w : World) (h : M < 65536) (hS : S < 65536) :
    Calls Tryz.prog 58 #[vw n M, .int .u16 (S : Int)] w fun e w' => e = .returned (.bool (decide (quoN n M ≤ szM S))) ∧ Below w.heap.size w w' := by
  have hquo := (quo_any n M · h)
  have hone : ∀ W : World, Calls Tryz.prog 36 #[.int .u16 (S : Int)] W fun e w' => e = .returned (.int .i64 (szM S : Int)) ∧ Below W.heap.size W w' := fun W => (ones_any S W hS).mono (by rintro e w1 ⟨rfl, k, rfl⟩; exact ⟨rfl, Go.below_drewN (Below.refl _ _) k⟩)
  have hbv := Blk.new' w 24 [.int .i64 n, .int .u16 (M : Int)]
  have hB : Below w.heap.size w (w.alloc (.cells #[.int .i64 n, .int .u16 (M : Int)] 24)) := (Below.refl _ _).alloc (Nat.le_refl _) _
  unfold vw at hquo ⊢
  obtain ⟨wq, hwq⟩ : ∃ x, x = w.alloc (.cells #[.int .i64 n, .int .u16 (M : Int)] 24) := ⟨_, rfl⟩
  rw [← hwq] at hbv hB
  obtain ⟨q, hq⟩ : ∃ q, q = quoN n M := ⟨_, rfl⟩
  rw [← hq] at hquo ⊢
  obtain ⟨s, hs⟩ : ∃ s, s = szM S := ⟨_, rfl⟩
  rw [← hs] at hone ⊢
  clear hq hs
  have HV : Hid (∀ W, Ch nob wq W → W.rangeAt w.heap.size 0 [.int .i64 n, .int .u16 (M : Int)]) := fun W h => hbv.chAt (fun h => h) h
  obtain ⟨d, hd⟩ : ∃ d, d = decide (q ≤ s) := ⟨_, rfl⟩
  have Hd : Hid (decide (q ≤ s) = d) := hid hd.symm
  rw [← hd]
  obtain ⟨g, hg⟩ : ∃ g, g = w.heap.size := ⟨_, rfl⟩
  rw [← hg] at HV
  have Hg := hid hg
  clear hbv hd hg
  go_enter Tryz.func58, Tryz.ntmps58
  go_upto_region 1 with (fail)
  first | rw [← hwq] | (simp only [List.toArray] at hwq ⊢; rw [← hwq])
  rw [← Hg.out]
  clear hwq
  refine wp_region_noPanic ?_
  refine wp_region_held_drew (S := Ch nob wq) (by kernel_rfl) ((Ch.refl _ _).drew) (fun hHeld => ?_)
  refine tkP 0 rfl ?_
  refine tkY 2 rfl (yieldsIf_load_mid (by rfl) 24 (.tmp 2) (by rfl) _ (0) (by rfl) _ _ (fun _ hs => HV.out _ hs) Tryz.underlying24 rfl (sizeV)) ?_
  refine rdH 1 rfl (fun K hK => ?_)
  go_simp
  refine (hone _).mono ?_
  rintro e' w11 ⟨rfl, hB11⟩
  have hC11 := hHeld.belowR hB11
  refine hK.out _ _ (hC11) (fun hHeld => ?_)
  clear hK K
  try simp only [nP]
  refine rdH 3 rfl (fun K hK => ?_)
  go_simp
  refine (hquo _).mono ?_
  rintro e' w12 ⟨rfl, hB12⟩
  have hC12 := hC11.belowR hB12
  refine hK.out _ _ (hC12) (fun hHeld => ?_)
  clear hK K
  try simp only [nP]
  refine tkP 4 rfl ?_
  refine tkP 5 rfl ?_
  refine wpAnyH_done (by kernel_rfl) ?_ _
  refine NoPanic.normal ?_
  go_wp2
  go_ret
  exact ⟨ret_b Hd.out, hB.trans (hHeld.below.mono hB.size)⟩
set_option maxHeartbeats 1000000 in
theorem mayp17_any (n : Int) (M : Nat) (P : List (List UInt8)) (A : Option Addr) (c : Nat) (w : World) (h : M < 65536) (hP : P.length ≤ 1000) :
    Calls Tryz.prog 56 #[vw n M, .slice A P.length c] w fun e w' => e = .returned (.bool (okC ⟨n, M⟩ P)) ∧ Below w.heap.size w w' := by
  have hr := (right_any n M · h)
  have hB : Below w.heap.size w (w.alloc (.cells #[.int .i64 n, .int .u16 (M : Int)] 24)) := (Below.refl _ _).alloc (Nat.le_refl _) _
  unfold vw at hr ⊢
  have Hok : Hid (okC ⟨n, M⟩ P = (rgt n M && decide (P.length ≤ 16))) := hid rfl
  obtain ⟨ok, hok⟩ : ∃ x, x = okC ⟨n, M⟩ P := ⟨_, rfl⟩
  rw [← hok] at Hok ⊢
  clear hok
  obtain ⟨b, hb⟩ : ∃ b, b = rgt n M := ⟨_, rfl⟩
  rw [← hb] at Hok hr
  clear hb
  go_enter Tryz.func56, Tryz.ntmps56
  go_wp2_with (fail)
  refine (hr _).mono ?_
  rintro e w1 ⟨rfl, hB1⟩
  have hB1' := hB.trans (hB1.mono hB.size)
  clear hB1
  cases b with
  | false =>
    go_wp2
    go_ret
    exact ⟨ret_b (by rw [Hok.out]; rfl), hB1'⟩
  | true =>
    by_cases hl : P.length ≤ 16
    · have hI : (P.length : Int) ≤ 16 := by omega
      go_wp2
      go_ret
      exact ⟨ret_b (by rw [Hok.out, decide_eq_true hl]; simp; try omega), hB1'⟩
    · have hI : ¬ (P.length : Int) ≤ 16 := by omega
      go_wp2
      go_ret
      exact ⟨ret_b (by rw [Hok.out, decide_eq_false hl]; simp; try omega), hB1'⟩
end Go.Proofs.YtnhhbbjkeekneaaGreatDoor
