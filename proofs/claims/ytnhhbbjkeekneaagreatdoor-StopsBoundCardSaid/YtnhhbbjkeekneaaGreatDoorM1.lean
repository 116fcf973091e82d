/- M1: several texts in one (CK VH M1). -/
import Derived.Test.YtnhhbbjkeekneaaGreatDoorVA
import Derived.Deep.RegionHeld3
import Derived.Lib.BitFns
/- CK: short forms of the steps of a walk through a region that draws its order. No project text. -/
namespace Go.V
open Go.RowKit
theorem nP : (∀ (a : Act) (d : Option Tmp) (v : Value), a.put d v = (match d with | some t => { a with tmps := a.tmps.setIfInBounds t v } | none => a)) ∧ (∀ (l : List Value) (i : Nat) (v : Value), l.toArray.setIfInBounds i v = (l.set i v).toArray) ∧ (∀ (l : List Bool) (i : Nat) (v : Bool), l.toArray.setIfInBounds i v = (l.set i v).toArray)
    ∧ (∀ (x v : Value) (l : List Value), (x :: l).set 0 v = v :: l) ∧ (∀ (x v : Value) (l : List Value) (n : Nat), (x :: l).set (n + 1) v = x :: l.set n v) ∧ (∀ (x v : Bool) (l : List Bool), (x :: l).set 0 v = v :: l) ∧ (∀ (x v : Bool) (l : List Bool) (n : Nat), (x :: l).set (n + 1) v = x :: l.set n v) := by
  refine ⟨fun a d v => ?_, fun l i v => ?_, fun l i v => ?_, fun _ _ _ => rfl, fun _ _ _ _ => rfl, fun _ _ _ => rfl, fun _ _ _ _ => rfl⟩
  · cases d <;> rfl
  · exact List.setIfInBounds_toArray ..
  · exact List.setIfInBounds_toArray ..
section
variable {P : Program} {md : Region.Mode} {ops : Array Oper} {Q : Exit → Act → World → Prop} {S : World → Prop} {fuel : Nat} {listed l' : Array Bool} {a a' : Act} {w : World} {o : Oper} {v : Value} {d : Option Tmp} {p : Op} {ty : TypeId} {ps : String} {af : Array Edge} {g : Option (Nat × Bool)}
/-- operation i first, by what it yields -/
theorem tkY (i : Nat) (hi : ops[i]? = some ⟨d, p, ty, ps, af, g⟩) (hy : YieldsIf P ops S ⟨d, p, ty, ps, af, g⟩ v a) (h : wpAnyH P md ops Q S fuel l' a' w)
    (hs : Region.noSelect ops = true := by kernel_rfl) (hf : Region.free md ops listed i = true := by kernel_rfl) (hr : (Region.ready md ops listed).contains i = true := by kernel_rfl)
    (hQ : ∀ c a w, Q (.panic c) (a.put d v) w → Q (.panic c) a w := by exact fun _ _ _ h => h) (hS : S w := by assumption)
    (hl : listed.setIfInBounds i true = l' := by (try simp only [List.setIfInBounds_toArray, List.set_cons_zero, List.set_cons_succ]) <;> rfl)
    (hp : a.put d v = a' := by (try simp only [Act.put, List.setIfInBounds_toArray, List.set_cons_zero, List.set_cons_succ]) <;> rfl) : wpAnyH P md ops Q S (fuel + 1) listed a w := by
  subst hl hp
  exact wpAnyH_take hi hs hf hr hQ hy hS h
/-- operation i first: it reckons -/
theorem tkP (i : Nat) (hi : ops[i]? = some ⟨d, p, ty, ps, af, g⟩) (h : wpAnyH P md ops Q S fuel l' a' w)
    (hy : YieldsIf P ops S ⟨d, p, ty, ps, af, g⟩ v a := by exact .inl ⟨by rfl, fun w hSw => by go_simp; try with_reducible rfl⟩)
    (hs : Region.noSelect ops = true := by kernel_rfl) (hf : Region.free md ops listed i = true := by kernel_rfl) (hr : (Region.ready md ops listed).contains i = true := by kernel_rfl)
    (hQ : ∀ c a w, Q (.panic c) (a.put d v) w → Q (.panic c) a w := by exact fun _ _ _ h => h) (hS : S w := by assumption)
    (hl : listed.setIfInBounds i true = l' := by (try simp only [List.setIfInBounds_toArray, List.set_cons_zero, List.set_cons_succ]) <;> rfl)
    (hp : a.put d v = a' := by (try simp only [Act.put, List.setIfInBounds_toArray, List.set_cons_zero, List.set_cons_succ]) <;> rfl) : wpAnyH P md ops Q S (fuel + 1) listed a w := by
  subst hl hp
  exact wpAnyH_take hi hs hf hr hQ hy hS h
/-- operation i first: it isn't wanted -/
theorem tkS (i : Nat) (hi : ops[i]? = some ⟨d, p, ty, ps, af, g⟩) (h : wpAnyH P md ops Q S fuel l' a' w)
    (hy : Region.wanted ⟨d, p, ty, ps, af, g⟩ (yielded ops a.tmps) = false := by rfl)
    (hs : Region.noSelect ops = true := by kernel_rfl) (hf : Region.free md ops listed i = true := by kernel_rfl) (hr : (Region.ready md ops listed).contains i = true := by kernel_rfl)
    (hQ : ∀ c a w, Q (.panic c) (a.put d undef) w → Q (.panic c) a w := by exact fun _ _ _ h => h) (hS : S w := by assumption)
    (hl : listed.setIfInBounds i true = l' := by (try simp only [List.setIfInBounds_toArray, List.set_cons_zero, List.set_cons_succ]) <;> rfl)
    (hp : a.put d undef = a' := by (try simp only [Act.put, List.setIfInBounds_toArray, List.set_cons_zero, List.set_cons_succ]) <;> rfl) : wpAnyH P md ops Q S (fuel + 1) listed a w := by
  subst hl hp
  exact wpAnyH_take hi hs hf hr hQ (.inr ⟨hy, rfl⟩) hS h
/-- operation i first, by a fact of a cell -/
theorem tkF (i : Nat) (hi : ops[i]? = some ⟨d, p, ty, ps, af, g⟩) {C : World → Prop} (hC : ∀ w, S w → C w) (h : wpAnyH P md ops Q S fuel l' a' w)
    (hy : (∀ w, S w → C w) → YieldsIf P ops S ⟨d, p, ty, ps, af, g⟩ v a := by exact fun hC => .inl ⟨by rfl, fun w hSw => by have hcw := hC w hSw; go_simp; try with_reducible rfl⟩)
    (hs : Region.noSelect ops = true := by kernel_rfl) (hf : Region.free md ops listed i = true := by kernel_rfl) (hr : (Region.ready md ops listed).contains i = true := by kernel_rfl)
    (hQ : ∀ c a w, Q (.panic c) (a.put d v) w → Q (.panic c) a w := by exact fun _ _ _ h => h) (hS : S w := by assumption)
    (hl : listed.setIfInBounds i true = l' := by (try simp only [List.setIfInBounds_toArray, List.set_cons_zero, List.set_cons_succ]) <;> rfl)
    (hp : a.put d v = a' := by (try simp only [Act.put, List.setIfInBounds_toArray, List.set_cons_zero, List.set_cons_succ]) <;> rfl) : wpAnyH P md ops Q S (fuel + 1) listed a w := by
  subst hl hp
  exact wpAnyH_take hi hs hf hr hQ (hy hC) hS h
/-- the one operation that may come up -/
theorem rdH (i : Nat) (hi : ops[i]? = some ⟨d, p, ty, ps, af, g⟩)
    (h : ∀ K' : Act → World → Prop, Shut (∀ a w, S w → (S w → wpAnyH P md ops Q S fuel (listed.setIfInBounds i true) a w) → K' a w) → if Region.wanted ⟨d, p, ty, ps, af, g⟩ (yielded ops a.tmps) = true then Oper.wp P ⟨d, p, ty, ps, af, g⟩ a w K' Q else K' (a.put d undef) w)
    (hr : Region.ready md ops listed = [i] := by kernel_rfl) : wpAnyH P md ops Q S (fuel + 1) listed a w := wpAnyH_ready hr (by simp) (AllReadyH.cons hi h AllReadyH.nil)
end
end Go.V
/- VH: digests as cells. -/
namespace Go.Proofs.YtnhhbbjkeekneaaGreatDoor
open Go.RowKit Go.V
theorem len_bvs (bs : List UInt8) : (bvs bs).length = bs.length := by simp [bvs]
theorem bvs_at (l : List UInt8) (k : Nat) (x : UInt8) (h : l[k]? = some x) : (bvs l)[k]? = some (byteV x) := by simp [bvs, h]
theorem size25 : (Tryz.prog.info? 32).map (·.size) = some 32 := by kernel_rfl
theorem size8 : (Tryz.prog.info? 5).map (·.size) = some 1 := by kernel_rfl
def zs8 (n : Nat) : List Value := List.replicate n (.int .u8 0)
theorem zero25 : (Tryz.prog.info? 32).map (·.zero) = some (some (.agg (zs8 32).toArray)) := by kernel_rfl
/-- 32 bytes, the first k of l, the rest noughts -/
def part32 (l : List UInt8) (k : Nat) : List Value := (bvs l).take k ++ List.replicate (32 - k) (.int .u8 0)
theorem part32_0 (l : List UInt8) : part32 l 0 = List.replicate 32 (.int .u8 0) := by simp [part32]
theorem part32_len (l : List UInt8) (k : Nat) (hl : l.length = 32) (hk : k ≤ 32) : (part32 l k).length = 32 := by simp [part32, len_bvs, hl]; omega
theorem part32_set (l : List UInt8) (k : Nat) (hl : l.length = 32) (hk : k < 32) (c : UInt8) (hc : l[k]? = some c) : (part32 l k).set k (byteV c) = part32 l (k + 1) :=
  fill_set _ _ 32 k (by rw [len_bvs, hl]) hk _ (bvs_at l k c hc)
theorem part32_end (l : List UInt8) (hl : l.length = 32) : part32 l 32 = bvs l := by simp [part32, List.take_of_length_le, len_bvs, hl]
end Go.Proofs.YtnhhbbjkeekneaaGreatDoor
/- M1: plain mathematics of packed, folded and fixed numbers. No project text, no Go. -/
namespace Go.V

/-- a packed number's bytes -/
def packedF : Nat → Nat → List UInt8
  | 0, x => [UInt8.ofNat x]
  | k + 1, x => if x < 128 then [UInt8.ofNat x] else UInt8.ofNat (x % 128 + 128) :: packedF k (x / 128)
def packed (x : Nat) : List UInt8 := packedF 9 x
def psF : Nat → Nat → Nat
  | 0, _ => 1
  | k + 1, x => if x < 128 then 1 else psF k (x / 128) + 1
def psz (x : Nat) : Nat := psF 9 x
theorem length_packedF : ∀ k x, (packedF k x).length = psF k x
  | 0, x => rfl
  | k + 1, x => by
    unfold packedF psF
    split
    · rfl
    · simp [length_packedF k]
theorem length_packed (x : Nat) : (packed x).length = psz x := length_packedF 9 x
theorem psF_pos : ∀ k x, 1 ≤ psF k x ∧ psF k x ≤ k + 1
  | 0, x => by simp [psF]
  | k + 1, x => by
    unfold psF
    have := psF_pos k (x / 128)
    split <;> omega
theorem psz_bd (x : Nat) : 1 ≤ psz x ∧ psz x ≤ 10 := psF_pos 9 x
theorem bitLenAux_zero : ∀ f, Lib.bitLenAux f 0 = 0
  | 0 => rfl
  | f + 1 => by simp [Lib.bitLenAux]
theorem bitLenAux_step (f x : Nat) (h : x ≠ 0) : Lib.bitLenAux (f + 1) x = 1 + Lib.bitLenAux f (x / 2) := by simp [Lib.bitLenAux, h]
theorem bitLenAux_fuel : ∀ f x g, x < 2 ^ f → f ≤ g → Lib.bitLenAux g x = Lib.bitLenAux f x
  | 0, x, g, h, _ => by
    have : x = 0 := by simpa using h
    subst this
    rw [bitLenAux_zero, bitLenAux_zero]
  | f + 1, x, g, h, hg => by
    by_cases hx : x = 0
    · subst hx; rw [bitLenAux_zero, bitLenAux_zero]
    · obtain ⟨g', rfl⟩ : ∃ g', g = g' + 1 := ⟨g - 1, by omega⟩
      rw [bitLenAux_step _ _ hx, bitLenAux_step _ _ hx, bitLenAux_fuel f (x / 2) g' (by rw [Nat.pow_succ] at h; omega) (by omega)]
theorem bitLenAux_le : ∀ f x, Lib.bitLenAux f x ≤ f
  | 0, x => Nat.le_refl _
  | f + 1, x => by
    have := bitLenAux_le f (x / 2)
    simp only [Lib.bitLenAux]
    split <;> omega
theorem bitLenAux_seven (f x : Nat) (h : 128 ≤ x) : Lib.bitLenAux (f + 7) x = 7 + Lib.bitLenAux f (x / 128) := by
  rw [show f + 7 = f + 6 + 1 from rfl, bitLenAux_step _ _ (by omega), bitLenAux_step _ _ (by omega), bitLenAux_step _ _ (by omega), bitLenAux_step _ _ (by omega), bitLenAux_step _ _ (by omega), bitLenAux_step _ _ (by omega), bitLenAux_step _ _ (by omega)]
  rw [show x / 2 / 2 / 2 / 2 / 2 / 2 / 2 = x / 128 from by omega]
  omega
theorem bitLenAux_pos (f x : Nat) (h : x ≠ 0) : 1 ≤ Lib.bitLenAux (f + 1) x := by rw [bitLenAux_step _ _ h]; omega
theorem psF_bits : ∀ k x, x < 128 ^ (k + 1) → psF k x = max 1 ((Lib.bitLenAux (7 * (k + 1)) x + 6) / 7)
  | 0, x, _ => by
    have := bitLenAux_le 7 x
    unfold psF
    simp only [Nat.zero_add, Nat.mul_one]
    omega
  | k + 1, x, h => by
    unfold psF
    split
    · rename_i hx
      have h1 := bitLenAux_fuel 7 x (7 * (k + 1 + 1)) (by omega) (by omega)
      have := bitLenAux_le 7 x
      rw [h1]
      omega
    · rename_i hx
      have ih := psF_bits k (x / 128) (by rw [Nat.pow_succ] at h; omega)
      rw [show 7 * (k + 1 + 1) = 7 * (k + 1) + 7 from by omega, bitLenAux_seven _ _ (by omega), ih]
      have h2 := bitLenAux_pos (7 * (k + 1) - 1) (x / 128) (by omega)
      rw [show 7 * (k + 1) - 1 + 1 = 7 * (k + 1) from by omega] at h2
      omega
theorem psz_bits (x : Nat) (h : x < 18446744073709551616) : psz x = max 1 ((Lib.bitLen x + 6) / 7) := by
  unfold psz Lib.bitLen
  rw [psF_bits 9 x (by omega), bitLenAux_fuel 64 x (7 * (9 + 1)) (by omega) (by omega)]
theorem bitLen_le (x : Nat) : Lib.bitLen x ≤ 64 := bitLenAux_le 64 x

/-- the bytes as they are put, the size given -/
def apk (x size : Nat) : List UInt8 := (List.range size).map fun i => if i + 1 = size then UInt8.ofNat (x / 128 ^ i % 128) else UInt8.ofNat (x / 128 ^ i % 128 + 128)
theorem apk_step (x n : Nat) : apk x (n + 2) = UInt8.ofNat (x % 128 + 128) :: apk (x / 128) (n + 1) := by
  unfold apk
  rw [List.range_succ_eq_map, List.map_cons, List.map_map]
  congr 1
  · simp
  · apply List.map_congr_left
    intro i _
    simp only [Function.comp, Nat.succ_eq_add_one, Nat.div_div_eq_div_mul, Nat.pow_succ, Nat.mul_comm 128]
    congr 1
    apply propext
    omega
theorem apk_psF : ∀ k x, x < 128 ^ (k + 1) → apk x (psF k x) = packedF k x
  | 0, x, h => by
    have : x % 128 = x := Nat.mod_eq_of_lt (by simpa using h)
    simp [psF, packedF, apk, this]
  | k + 1, x, h => by
    unfold psF packedF
    split
    · rename_i hx
      have : x % 128 = x := Nat.mod_eq_of_lt hx
      simp [apk, this]
    · have ih := apk_psF k (x / 128) (by rw [Nat.pow_succ] at h; omega)
      have := psF_pos k (x / 128)
      obtain ⟨m, hm⟩ : ∃ m, psF k (x / 128) = m + 1 := ⟨psF k (x / 128) - 1, by omega⟩
      rw [hm] at ih ⊢
      rw [apk_step, ih]
theorem apk_psz (x : Nat) (h : x < 18446744073709551616) : apk x (psz x) = packed x := apk_psF 9 x (by omega)

/-- folding -/
def foldN (x : Int) : Nat := if x < 0 then (-2 * x - 1).toNat else (2 * x).toNat
def unfoldZ (x : Nat) : Int := if x % 2 = 1 then -(x / 2 : Nat) - 1 else (x / 2 : Nat)
theorem foldN_lt (x : Int) (h1 : -9223372036854775808 ≤ x) (h2 : x ≤ 9223372036854775807) : foldN x < 18446744073709551616 := by unfold foldN; split <;> omega
theorem unfoldZ_bd (x : Nat) (h : x < 18446744073709551616) : -9223372036854775808 ≤ unfoldZ x ∧ unfoldZ x ≤ 9223372036854775807 := by unfold unfoldZ; split <;> omega

/-- reading a packed number: k bytes may still be read -/
def rdF : Nat → Bool → List UInt8 → Except Nat (Nat × Nat)
  | 0, _, _ => .error 2
  | _ + 1, _, [] => .error 1
  | k + 1, first, c :: bs =>
    if c.toNat < 128 then (if (c.toNat = 0 ∧ first = false) ∨ (k = 0 ∧ 1 < c.toNat) then .error 2 else .ok (c.toNat, 1))
    else match rdF k false bs with
      | .ok (x, n) => .ok (c.toNat % 128 + 128 * x, n + 1)
      | .error e => .error e
def readPk (bs : List UInt8) : Except Nat (Nat × Nat) := rdF 10 true bs
theorem rdF_err : ∀ k f bs e, rdF k f bs = .error e → e = 1 ∨ e = 2
  | 0, f, bs, e, h => by simp [rdF] at h; omega
  | k + 1, f, [], e, h => by simp [rdF] at h; omega
  | k + 1, f, c :: bs, e, h => by
    unfold rdF at h
    split at h
    · split at h <;> simp at h
      omega
    · split at h
      · simp at h
      · rename_i h'
        simp at h
        subst h
        exact rdF_err k false bs _ h'
/-- what is put is read back -/
theorem rdF_packedF : ∀ k x first (rest : List UInt8), x < 128 ^ k * 2 → (x = 0 → first = true) → rdF (k + 1) first (packedF k x ++ rest) = .ok (x, psF k x)
  | 0, x, first, rest, h, h0 => by
    have hx : (UInt8.ofNat x).toNat = x := by simp [UInt8.toNat_ofNat']; omega
    simp only [packedF, List.singleton_append, rdF, hx, psF]
    rw [if_pos (by omega), if_neg]
    rintro (⟨h1, h2⟩ | ⟨_, h2⟩)
    · rw [h0 h1] at h2; cases h2
    · omega
  | k + 1, x, first, rest, h, h0 => by
    unfold packedF
    split
    · rename_i hx
      have e : (UInt8.ofNat x).toNat = x := by simp [UInt8.toNat_ofNat']; omega
      simp only [List.singleton_append, rdF, e, psF, if_pos hx]
      rw [if_neg]
      rintro (⟨h1, h2⟩ | ⟨h1, h2⟩)
      · rw [h0 h1] at h2; cases h2
      · omega
    · rename_i hx
      have e : (UInt8.ofNat (x % 128 + 128)).toNat = x % 128 + 128 := by simp [UInt8.toNat_ofNat']; omega
      have ih := rdF_packedF k (x / 128) false rest (by rw [Nat.pow_succ] at h; omega) (by omega)
      rw [List.cons_append]
      rw [rdF, e, if_neg (by omega), ih]
      simp only [psF, if_neg hx]
      congr 2
      omega
theorem readPk_packed (x : Nat) (rest : List UInt8) (h : x < 18446744073709551616) : readPk (packed x ++ rest) = .ok (x, psz x) := rdF_packedF 9 x true rest (by omega) (fun _ => rfl)
/-- what is read, put again, is the bytes that were read -/
theorem packedF_rdF : ∀ k first bs x n, rdF (k + 1) first bs = .ok (x, n) → packedF k x = bs.take n ∧ x < 128 ^ k * 2 ∧ n ≤ bs.length ∧ (first = false → x ≠ 0)
  | k, first, [], x, n, h => by simp [rdF] at h
  | 0, first, c :: bs, x, n, h => by
    rw [rdF] at h
    split at h
    · split at h
      · simp at h
      · rename_i h1 h2
        simp at h
        obtain ⟨rfl, rfl⟩ := h
        refine ⟨by simp [packedF], by omega, by simp, ?_⟩
        intro hf hc
        exact h2 (.inl ⟨hc, hf⟩)
    · simp [rdF] at h
  | k + 1, first, c :: bs, x, n, h => by
    rw [rdF] at h
    split at h
    · split at h
      · simp at h
      · rename_i h1 h2
        simp at h
        obtain ⟨rfl, rfl⟩ := h
        refine ⟨by simp [packedF, h1], ?_, by simp, ?_⟩
        · have : 0 < 128 ^ k := Nat.pow_pos (by omega)
          rw [Nat.pow_succ]; omega
        · intro hf hc
          exact h2 (.inl ⟨hc, hf⟩)
    · rename_i hc
      split at h
      · rename_i x' n' hr
        simp at h
        obtain ⟨rfl, rfl⟩ := h
        obtain ⟨i1, i2, i3, i4⟩ := packedF_rdF k false bs x' n' hr
        have hx' := i4 rfl
        have hlt := c.toNat_lt
        refine ⟨?_, by rw [Nat.pow_succ]; omega, by simp; omega, fun _ => by omega⟩
        rw [packedF, if_neg (by omega), show (c.toNat % 128 + 128 * x') % 128 + 128 = c.toNat from by omega, show (c.toNat % 128 + 128 * x') / 128 = x' from by omega, i1]
        simp
      · simp at h
theorem packed_readPk {bs : List UInt8} {x n : Nat} (h : readPk bs = .ok (x, n)) : packed x = bs.take n ∧ x < 18446744073709551616 ∧ n ≤ bs.length := by
  obtain ⟨h1, h2, h3, _⟩ := packedF_rdF 9 true bs x n h
  exact ⟨h1, by omega, h3⟩

/-- what a packed number's reading is after i bytes, all of them 128 or more -/
def accP : Nat → List UInt8 → Nat
  | 0, _ => 0
  | _ + 1, [] => 0
  | i + 1, c :: bs => c.toNat % 128 + 128 * accP i bs
def big : Nat → List UInt8 → Prop
  | 0, _ => True
  | _ + 1, [] => False
  | i + 1, c :: bs => 128 ≤ c.toNat ∧ big i bs
theorem accP_lt : ∀ i l, accP i l < 128 ^ i
  | 0, _ => by simp [accP]
  | i + 1, [] => by simp only [accP]; exact Nat.pow_pos (by omega)
  | i + 1, c :: bs => by
    have := accP_lt i bs
    simp only [accP, Nat.pow_succ]
    omega
theorem accP_snoc : ∀ i (l : List UInt8) (h : i < l.length), accP (i + 1) l = accP i l + 128 ^ i * (l[i].toNat % 128)
  | 0, c :: bs, _ => by simp [accP]
  | i + 1, c :: bs, h => by
    have := accP_snoc i bs (by simpa using h)
    rw [accP, this]
    simp only [accP, List.getElem_cons_succ, Nat.mul_add, Nat.pow_succ, Nat.mul_comm (128 ^ i) 128, Nat.mul_assoc]
    omega
theorem big_snoc : ∀ i (l : List UInt8) (h : i < l.length), big i l → 128 ≤ l[i].toNat → big (i + 1) l
  | 0, c :: bs, _, _, hc => by simpa [big] using hc
  | i + 1, c :: bs, h, hb, hc => by
    simp only [big] at hb
    have := big_snoc i bs (by simpa using h) hb.2 (by simpa using hc)
    exact ⟨hb.1, this⟩
def liftP (acc m i : Nat) : Except Nat (Nat × Nat) → Except Nat (Nat × Nat)
  | .ok (x, n) => .ok (acc + m * x, n + i)
  | .error e => .error e
theorem rdF_big : ∀ i j f (l : List UInt8), big i l → rdF (i + j) f l = liftP (accP i l) (128 ^ i) i (rdF j (f && i == 0) (l.drop i))
  | 0, j, f, l, _ => by
    simp only [Nat.zero_add, List.drop_zero, accP, Nat.pow_zero, beq_self_eq_true, Bool.and_true]
    cases h : rdF j f l <;> simp [liftP]
  | i + 1, j, f, [], h => by simp [big] at h
  | i + 1, j, f, c :: bs, h => by
    simp only [big] at h
    have ih := rdF_big i j false bs h.2
    rw [show i + 1 + j = i + j + 1 from by omega, rdF, if_neg (by omega), ih]
    simp only [Bool.false_and, List.drop_succ_cons, accP]
    have : (f && i + 1 == 0) = false := by simp
    rw [this]
    cases hr : rdF j false (bs.drop i) with
    | error e => simp [liftP]
    | ok r =>
      obtain ⟨x, n⟩ := r
      simp only [liftP, Nat.mul_add, Nat.pow_succ, ← Nat.mul_assoc, Nat.mul_comm (128 ^ i) 128]
      congr 2
      omega
theorem rdF_at (i : Nat) (l : List UInt8) (hi : i ≤ 10) (hb : big i l) : readPk l = liftP (accP i l) (128 ^ i) i (rdF (10 - i) (i == 0) (l.drop i)) := by
  have := rdF_big i (10 - i) true l hb
  rw [show i + (10 - i) = 10 from by omega, Bool.true_and] at this
  exact this
theorem readPk_end (l : List UInt8) (hb : big 10 l) : readPk l = .error 2 := by rw [rdF_at 10 l (by omega) hb]; rfl
theorem readPk_short (i : Nat) (l : List UInt8) (hi : i < 10) (hl : l.length = i) (hb : big i l) : readPk l = .error 1 := by
  rw [rdF_at i l (by omega) hb, List.drop_of_length_le (by omega)]
  obtain ⟨j, hj⟩ : ∃ j, 10 - i = j + 1 := ⟨9 - i, by omega⟩
  rw [hj]
  rfl
theorem readPk_last (i : Nat) (l : List UInt8) (hi : i < 10) (hl : i < l.length) (hb : big i l) (hc : l[i].toNat < 128) :
    readPk l = if (l[i].toNat = 0 ∧ 0 < i) ∨ (i = 9 ∧ 1 < l[i].toNat) then .error 2 else .ok (accP i l + 128 ^ i * l[i].toNat, i + 1) := by
  rw [rdF_at i l (by omega) hb, List.drop_eq_getElem_cons hl]
  obtain ⟨j, hj⟩ : ∃ j, 10 - i = j + 1 := ⟨9 - i, by omega⟩
  rw [hj, rdF, if_pos hc]
  have e1 : ((i == 0) = false) ↔ 0 < i := by simp; omega
  have e2 : j = 0 ↔ i = 9 := by omega
  simp only [e1, e2]
  split
  · rfl
  · simp only [liftP]
    congr 2
    omega
end Go.V
