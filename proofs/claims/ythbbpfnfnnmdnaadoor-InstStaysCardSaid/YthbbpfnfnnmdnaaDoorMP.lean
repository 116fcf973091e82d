/- MP: several texts in one (R2 D0 MP). -/
import Derived.Test.YthbbpfnfnnmdnaaDoorN3
import Derived.Test.YthbbpfnfnnmdnaaDoorLW
import Derived.Lib.SlicesS
import Derived.Maps.RangeWalk
import Derived.Maps.OwnSet
/- R2: several texts in one. -/
/- R1: contracts of the document's answers for layer 1 that hold bytes. -/
namespace Go.Proofs.YthbbpfnfnnmdnaaDoor
open Go.RowKit Go.V

theorem take_eq_succ {a b : List UInt8} {k : Nat} (ha : k < a.length) (hb : k < b.length) (h : a.take k = b.take k) (he : a[k].toNat = b[k].toNat) : a.take (k + 1) = b.take (k + 1) := by
  rw [List.take_succ_eq_append_getElem ha, List.take_succ_eq_append_getElem hb, h, UInt8.toNat_inj.1 he]

set_option maxHeartbeats 400000 in
theorem same_any (v u : Value) (a b : List UInt8) (F G : Nat → Prop) (w : World) (ha : Rd w F v (bys a)) (hb : Rd w G u (bys b)) :
    Calls Tryd.prog 27 #[v, u] w fun e w' => e = .returned (.bool (decide (a = b))) ∧ ∃ n, w' = w.drewN n := by
  obtain ⟨A, c, rfl⟩ := ha.shape
  obtain ⟨B, d, rfl⟩ := hb.shape
  have hca := ha.cap.2
  have hm : a.length ≤ 9223372036854775807 := by
    obtain ⟨_, c', e, _, h2, _⟩ := ha.bytes
    injection e with e1 e2 e3
    unfold maxLen at h2
    omega
  by_cases hl : a.length = b.length
  · have hn : ((a.length : Int) != (b.length : Int)) = false := by rw [bne_eq_false_iff_eq]; omega
    have Hl := hid hl
    clear hl
    go_enter Tryd.func27, Tryd.ntmps27
    go_wp2
    go_loopw [5] (fun i wr => ∃ k : Nat, k ≤ a.length ∧ i = .int .i64 k ∧ a.take k = b.take k ∧ ∃ n, wr = w.drewN n) (fun i _ => a.length - (intOf i).toNat)
    case atStart => exact ⟨0, Nat.zero_le _, rfl, rfl, 0, rfl⟩
    case round =>
      obtain ⟨k, hk, rfl, htk, n, rfl⟩ := hrel
      have Htk := hid htk
      clear htk
      by_cases hlt : k < a.length
      · have hlb : k < b.length := by have := Hl.out; omega
        obtain ⟨g, off, rfl, _, hc1⟩ := ha.byteAt k hlt
        obtain ⟨g2, off2, rfl, _, hc2⟩ := hb.byteAt k hlb
        obtain ⟨x, hx⟩ : ∃ x, x = a[k] := ⟨_, rfl⟩
        obtain ⟨y, hy⟩ : ∃ y, y = b[k] := ⟨_, rfl⟩
        rw [← hx] at hc1
        rw [← hy] at hc2
        have hli : (k : Int) < (b.length : Int) := by omega
        by_cases he : x.toNat = y.toNat
        · have hb1 : ((x.toNat : Int) != (y.toNat : Int)) = false := by rw [bne_eq_false_iff_eq]; omega
          have hsucc := hid (take_eq_succ hlt hlb Htk.out (by rw [← hx, ← hy]; exact he))
          clear he hx hy
          go_wp2
          go_quiet (fail)
          go_wp2
          go_roundw
          case rel => exact ⟨k + 1, by omega, by go_num, hsucc.out, _, rfl⟩
          case measure => simp [intOf]; omega
        · have hb1 : ((x.toNat : Int) != (y.toNat : Int)) = true := by rw [bne_iff_ne]; omega
          have hne : Hid (decide (a = b) = false) := decide_eq_false (by
            rintro rfl
            rw [← hy] at hx
            exact he (by rw [hx]))
          clear he hx hy
          go_wp2
          go_quiet (fail)
          go_wp2
          go_ret
          exact ⟨by rw [hne.out]; rfl, _, World.drewN_drewN _ _ _⟩
      · have heq : Hid (decide (a = b) = true) := decide_eq_true (by
          have h1 := Htk.out
          rw [List.take_of_length_le (by omega), List.take_of_length_le (by have := Hl.out; omega)] at h1
          exact h1)
        go_wp2
        go_ret
        exact ⟨by rw [heq.out]; rfl, _, rfl⟩
  · have hn : ((a.length : Int) != (b.length : Int)) = true := by rw [bne_iff_ne]; omega
    have hne : Hid (decide (a = b) = false) := decide_eq_false (by rintro rfl; exact hl rfl)
    go_enter Tryd.func27, Tryd.ntmps27
    go_wp2
    go_ret
    exact ⟨by rw [hne.out]; rfl, 0, rfl⟩

theorem same_b (v u : Value) (a b : List UInt8) (F G : Nat → Prop) (w : World) (ha : Rd w F v (bys a)) (hb : Rd w G u (bys b)) :
    Calls Tryd.prog 27 #[v, u] w fun e w' => e = .returned (.bool (decide (a = b))) ∧ Below w.heap.size w w' :=
  (same_any v u a b F G w ha hb).mono fun _ _ ⟨he, n, hn⟩ => ⟨he, by rw [hn]; exact below_drewN (Below.refl _ _) n⟩

/-- a fixed number's bytes -/
def fixB (n x : Nat) : List UInt8 := (List.range n).map fun i => UInt8.ofNat (x / 256 ^ (n - 1 - i) % 256)
def okN (n : Int) : Prop := n = 1 ∨ n = 2 ∨ n = 4 ∨ n = 8
instance (n : Int) : Decidable (okN n) := by unfold okN; infer_instance
def fixR (n : Int) (x : Nat) : List UInt8 := if okN n then fixB n.toNat x else []
end Go.Proofs.YthbbpfnfnnmdnaaDoor
/- R2: fixed numbers put, by the program and by the document. -/
namespace Go.Proofs.YthbbpfnfnnmdnaaDoor
open Go.RowKit Go.V
def fixT (n x k : Nat) : List UInt8 := (List.range k).map fun i => UInt8.ofNat (x / 256 ^ (n - 1 - i) % 256)
theorem fixT_succ (n x k : Nat) : fixT n x (k + 1) = fixT n x k ++ [UInt8.ofNat (x / 256 ^ (n - 1 - k) % 256)] := by simp [fixT, List.range_succ]
theorem okN_cases {n : Int} (h : okN n) : ∃ m : Nat, n = m ∧ (m = 1 ∨ m = 2 ∨ m = 4 ∨ m = 8) := by
  unfold okN at h
  rcases h with h | h | h | h
  · exact ⟨1, h, by omega⟩
  · exact ⟨2, h, by omega⟩
  · exact ⟨4, h, by omega⟩
  · exact ⟨8, h, by omega⟩
theorem okN_bool (n : Int) : decide (n = 1 ∨ n = 2 ∨ n = 4 ∨ n = 8) = decide (okN n) := rfl

theorem fix_byte (x j : Nat) : (x : Int) / 2 ^ (8 * j) % 256 = ((x / 256 ^ j % 256 : Nat) : Int) := by
  rw [show (2 : Int) ^ (8 * j) = ((2 ^ (8 * j) : Nat) : Int) from by push_cast; rfl, Nat.pow_mul, Int.natCast_emod, Int.natCast_ediv]
  rfl
theorem fix_push {n x k : Nat} (bs : List UInt8) : bvs (bs ++ fixT n x k) ++ [.int .u8 ((x : Int) / 2 ^ (8 * (n - 1 - k)) % 256)] = bvs (bs ++ fixT n x (k + 1)) := by
  rw [fix_byte, fixT_succ, ← List.append_assoc, bvs_snoc, byteV_of (by omega)]

set_option maxHeartbeats 400000 in
theorem putx_any (v : Value) (bs : List UInt8) (x : Nat) (n : Int) (F : Nat → Prop) (w : World) (hb : Rd w F v (bys bs)) (_hx : x < 18446744073709551616) (hl : bs.length ≤ 35184372088832) :
    Calls Tryd.prog 51 #[v, .int .u64 (x : Int), .int .i64 n] w fun e w' => ∃ v', e = .returned v' ∧ NewB w w' v' (bs ++ fixR n x) := by
  by_cases ho : okN n
  · obtain ⟨m, rfl, hm⟩ := okN_cases ho
    have hd : decide (okN (m : Int)) = true := decide_eq_true ho
    have Hr : Hid (fixR (m : Int) x = fixT m x m) := by show _ = _; unfold fixR; rw [if_pos ho]; rfl
    have hm8 : m ≤ 8 := by omega
    clear ho hm
    go_enter Tryd.func51, Tryd.ntmps51
    go_wp2_with (fail)
    refine (fsize_any _ _).mono ?_
    rintro e w0 ⟨rfl, rfl⟩
    rw [okN_bool]
    go_wp2_with (fail)
    refine (ext_i v bs _ F _ hb (by omega) (by omega)).mono ?_
    rintro e w1 ⟨v1, rfl, ho1, hB1⟩
    go_wp2
    go_loopw [7, 18] (fun v' i wr => ∃ k : Nat, k ≤ m ∧ i = .int .i64 k ∧ NewB w wr v' (bs ++ fixT m x k)) (fun _ i _ => m - (intOf i).toNat)
    case atStart => exact ⟨0, Nat.zero_le _, rfl, by simpa [fixT] using ho1, hB1⟩
    case round =>
      obtain ⟨k, hk, rfl, hown, hB⟩ := hrel
      by_cases hlt : k < m
      · have hlen : (bs ++ fixT m x k).length ≤ 35184372088840 := by simp [fixT]; omega
        go_wp2_with (refine wp_push (.tmp 21) (.tmp 29) 30 slB rfl rfl rfl rfl rfl rfl rfl rfl (by simp) rfl hown (by simp only [maxLen]; omega) (by omega) hB.size ?_)
        intro v2 w2 hO hG _
        go_wp2
        rw [fix_push] at hO
        refine ⟨⟨k + 1, by omega, by go_num, ?_, hB.grown hG hB.size (fun k hk => (hown.lt k hk).1)⟩, by simp [intOf]; omega⟩
        rw [show (bs ++ fixT m x (k + 1)).length = bs.length + (fixT m x k).length + 1 from by simp [fixT]; omega]
        exact hO
      · go_wp2
        go_ret
        have : k = m := by omega
        subst this
        exact ⟨_, rfl, by rw [Hr.out]; exact ⟨hown, hB⟩⟩
  · have hd : decide (okN n) = false := decide_eq_false ho
    have Hr : Hid (bs ++ fixR n x = bs) := by show _ = _; unfold fixR; rw [if_neg ho]; simp
    clear ho
    go_enter Tryd.func51, Tryd.ntmps51
    go_wp2_with (fail)
    refine (fsize_any _ _).mono ?_
    rintro e w0 ⟨rfl, rfl⟩
    rw [okN_bool]
    go_wp2_with (fail)
    refine (ext_i v bs _ F _ hb (by omega) (by omega)).mono ?_
    rintro e w1 ⟨v1, rfl, ho1, hB1⟩
    go_wp2
    go_ret
    exact ⟨v1, rfl, by rw [Hr.out]; exact ⟨ho1, hB1⟩⟩

set_option maxHeartbeats 400000 in
theorem refx_any (x : Nat) (n : Int) (w : World) (hx : x < 18446744073709551616) :
    Calls Tryd.prog 94 #[.int .u64 (x : Int), .int .i64 n] w fun e w' => ∃ v', e = .returned v' ∧ NewB w w' v' (fixR n x) := by
  by_cases ho : okN n
  · obtain ⟨m, rfl, hm⟩ := okN_cases ho
    have hd : decide (okN (m : Int)) = true := decide_eq_true ho
    have Hr : Hid (fixR (m : Int) x = fixT m x m) := by show _ = _; unfold fixR; rw [if_pos ho]; rfl
    have hm8 : m ≤ 8 := by omega
    have hm1 : 1 ≤ m := by omega
    clear ho hm
    go_enter Tryd.func94, Tryd.ntmps94
    go_wp2_with (fail)
    refine (wide_any _ _).mono ?_
    rintro e w0 ⟨rfl, rfl⟩
    rw [okN_bool]
    go_wp2
    go_loopw [5, 6] (fun v' i wr => ∃ k : Nat, k ≤ m ∧ i = .int .i64 k ∧ NewB w wr v' (fixT m x k)) (fun _ i _ => m - (intOf i).toNat)
    case atStart => exact ⟨0, Nat.zero_le _, rfl, World.ownsRow_nil _ _ _ _, Below.refl _ _⟩
    case round =>
      obtain ⟨k, hk, rfl, hown, hB⟩ := hrel
      by_cases hlt : k < m
      · have hlen : (fixT m x k).length ≤ 8 := by simp [fixT]; omega
        go_wp2
        go_loop [7, 8] (fun y j => ∃ i : Nat, k ≤ i ∧ i ≤ m - 1 ∧ j = .int .i64 i ∧ y = .int .u64 ((x / 256 ^ (i - k) : Nat) : Int)) (fun _ j => m - (intOf j).toNat)
        case atStart => exact ⟨k, Nat.le_refl _, by omega, rfl, by simp⟩
        case round =>
          obtain ⟨i, hki, him, rfl, rfl⟩ := hrel
          have hy : x / 256 ^ (i - k) < 18446744073709551616 := Nat.lt_of_le_of_lt (Nat.div_le_self _ _) hx
          by_cases hi : i < m - 1
          · have Hs : Hid (x / 256 ^ (i - k) / 256 = x / 256 ^ (i + 1 - k)) := by
              show _ = _
              rw [Nat.div_div_eq_div_mul, show i + 1 - k = (i - k) + 1 from by omega, Nat.pow_succ]
            obtain ⟨y, hye⟩ : ∃ y, y = x / 256 ^ (i - k) := ⟨_, rfl⟩
            rw [← hye] at hy Hs ⊢
            clear hye
            go_wp2
            go_round
            case rel => exact ⟨i + 1, by omega, by omega, by go_num, by rw [← Hs.out]; go_num⟩
            case measure => simp [intOf]; omega
          · have Hs : Hid (i - k = m - 1 - k) := by show _ = _; omega
            obtain ⟨y, hye⟩ : ∃ y, y = x / 256 ^ (i - k) := ⟨_, rfl⟩
            rw [← hye] at hy ⊢
            have Hy := hid hye
            clear hye
            go_wp2_with (refine wp_push (.tmp 28) (.tmp 31) 32 slB rfl rfl rfl rfl rfl rfl rfl rfl (by simp) rfl hown (by simp only [maxLen]; omega) (by omega) hB.size ?_)
            intro v2 w2 hO hG _
            go_wp2
            have hy1 : y = x / 256 ^ (m - 1 - k) := by rw [← Hs.out]; exact Hy.out
            rw [show ((y : Int) % 256) = ((y % 256 : Nat) : Int) from by omega, ← byteV_of (by omega), ← bvs_snoc, hy1, ← fixT_succ] at hO
            refine ⟨⟨k + 1, by omega, by go_num, ?_, hB.grown hG hB.size (fun k hk => (hown.lt k hk).1)⟩, by simp [intOf]; omega⟩
            rw [show (fixT m x (k + 1)).length = (fixT m x k).length + 1 from by simp [fixT]]
            exact hO
      · go_wp2
        go_ret
        have : k = m := by omega
        subst this
        exact ⟨_, rfl, by rw [Hr.out]; exact ⟨hown, hB⟩⟩
  · have hd : decide (okN n) = false := decide_eq_false ho
    have Hr : Hid (fixR n x = []) := by show _ = _; unfold fixR; rw [if_neg ho]
    clear ho
    go_enter Tryd.func94, Tryd.ntmps94
    go_wp2_with (fail)
    refine (wide_any _ _).mono ?_
    rintro e w0 ⟨rfl, rfl⟩
    rw [okN_bool]
    go_wp2
    go_ret
    exact ⟨_, rfl, by rw [Hr.out]; exact ⟨World.ownsRow_nil _ _ _ _, Below.refl _ _⟩⟩
end Go.Proofs.YthbbpfnfnnmdnaaDoor
/- D0: layer 10: files and acts as lists, in memory; the document's find, without. -/
namespace Go.V
open Go.RowKit
structure Fl where
  n : ByteArray
  b : List UInt8
structure Ac where
  k : Int
  n : ByteArray
  t : ByteArray
  b : List UInt8
  keep : Nat
  torn : Int
  cut : Int
  m : Int
def Fl.l (f : Fl) (u : Value) : List Value := [.string f.n, u]
def Ac.l (a : Ac) (u : Value) : List Value := [.int .i64 a.k, .string a.n, .string a.t, u, .int .u64 (a.keep : Int), .int .i64 a.torn, .int .i64 a.cut, .int .i64 a.m]
/-- the bytes of a file, if it is there -/
def findF : List Fl → ByteArray → Option (List UInt8)
  | [], _ => none
  | f :: l, n => if f.n = n then some f.b else findF l n
instance : DecidableEq ByteArray := inferInstance
def woF (l : List Fl) (n : ByteArray) : List Fl := l.filter fun f => decide (f.n ≠ n)
end Go.V
namespace Go.Proofs.YthbbpfnfnnmdnaaDoor
open Go.RowKit Go.V
end Go.Proofs.YthbbpfnfnnmdnaaDoor
/- MP: maps from names to bytes: a block that is a map, told by a list of files. No project text. -/
namespace Go.V
open Go.RowKit Go.Maps Go.ChangeShapes Go.WideShapes Go.ChangeMaps
def mkl (s : ByteArray) : Lit := .string s.data.toList
theorem mkl_inj {s t : ByteArray} (h : mkl s = mkl t) : s = t := by
  unfold mkl at h
  injection h with h
  have : s.data = t.data := Array.toList_inj.1 h
  cases s; cases t; cases this; rfl
theorem mkl_key (s : ByteArray) : WideAt.IsKeyLit (mkl s) := by unfold mkl; simp [WideAt.IsKeyLit]
theorem mkl_same (s t : ByteArray) : (mkl s).sameKey (mkl t) = decide (s = t) := by
  by_cases h : s = t
  · subst h; rw [decide_eq_true rfl]; exact WideAt.sameKey_self (mkl_key s)
  · rw [decide_eq_false h]
    cases hs : (mkl s).sameKey (mkl t) with
    | false => rfl
    | true => exact absurd (mkl_inj (WideAt.sameKey_eq hs)) h
/-- how an element that is a slice reads: as itself -/
def heldR (v : Value) : Option (DataW Value × List MemPlace) := match v with
  | .slice _ _ _ => some (.held v, [])
  | _ => none
def entF (p : Fl × Value) : Lit × DataW Value := (mkl p.1.n, .held p.2)
/-- block b is a map that holds the files of L -/
def FMs (P : Program) (k : TypeId) (w : World) (F : Nat → Prop) (b : Nat) (L : List Fl) : Prop :=
  ∃ (l : List (Fl × Value)) (es : List (Lit × DataW Value)), l.map (·.1) = L ∧ w.ownsMap P k heldR b l.length (.map es) ∧ es.Perm (l.map entF) ∧ ∀ p ∈ l, Rd w F p.2 (bys p.1.b) ∧ p.1.n.size ≤ maxLen
theorem own_tight {P : Program} {k : TypeId} {R : Value → Option (DataW Value × List MemPlace)} {w : World} {b n : Nat} {D : DataW Value} (h : w.ownsMap P k R b n D) : w.ownsMap P k R b (Maps.size D) D := by
  obtain ⟨es, clock, hb, Fh, _, rfl⟩ := h
  exact ⟨es, clock, hb, Fh, by simp [Maps.size, length_sorted], rfl⟩
theorem perm_lift {α β : Type} {f : α → β} {L L' : List β} (h : L.Perm L') : ∀ l : List α, l.map f = L → ∃ l' : List α, l'.map f = L' ∧ l.Perm l' := by
  induction h with
  | nil => exact fun l h => ⟨l, h, .refl _⟩
  | cons x _ ih =>
    intro l h
    match l, h with
    | a :: r, h =>
      rw [List.map_cons] at h
      injection h with h1 h2
      obtain ⟨r', h3, h4⟩ := ih r h2
      exact ⟨a :: r', by rw [List.map_cons, h1, h3], h4.cons a⟩
  | swap x y r =>
    intro l h
    match l, h with
    | a :: c :: t, h =>
      rw [List.map_cons, List.map_cons] at h
      injection h with h1 h2
      injection h2 with h2 h3
      exact ⟨c :: a :: t, by rw [List.map_cons, List.map_cons, h1, h2, h3], .swap _ _ _⟩
  | trans _ _ ih1 ih2 =>
    intro l h
    obtain ⟨l1, h1, h2⟩ := ih1 l h
    obtain ⟨l2, h3, h4⟩ := ih2 l1 h1
    exact ⟨l2, h3, h2.trans h4⟩
variable {P : Program} {k : TypeId} {w : World} {F : Nat → Prop} {b : Nat} {L : List Fl}
theorem FMs.lt (h : FMs P k w F b L) : b < w.heap.size := by
  obtain ⟨l, es, _, ho, _⟩ := h
  exact ho.lt
theorem FMs.keep {w' : World} {F' : Nat → Prop} (h : FMs P k w F b L) (hb : w'.heap[b]? = w.heap[b]?) (hF : ∀ x, x < w.heap.size → F x → F' x ∧ w'.heap[x]? = w.heap[x]?) : FMs P k w' F' b L := by
  obtain ⟨l, es, h1, ⟨es0, clock, h2, h3⟩, h4, h5⟩ := h
  exact ⟨l, es, h1, ⟨es0, clock, hb.trans h2, h3⟩, h4, fun p hp => ⟨(h5 p hp).1.keep hF, (h5 p hp).2⟩⟩
theorem FMs.below {w' : World} (h : FMs P k w F b L) (hB : Below w.heap.size w w') : FMs P k w' F b L :=
  h.keep (hB.block b h.lt) (fun x hx hF => ⟨hF, hB.block x hx⟩)
theorem FMs.weak {F' : Nat → Prop} (h : FMs P k w F b L) (hF : ∀ x, x < w.heap.size → F x → F' x) : FMs P k w F' b L :=
  h.keep rfl (fun x hx h => ⟨hF x hx h, rfl⟩)
theorem FMs.name (h : FMs P k w F b L) : ∀ f ∈ L, f.n.size ≤ maxLen := by
  obtain ⟨l, es, rfl, _, _, h5⟩ := h
  intro f hf
  obtain ⟨p, hp, rfl⟩ := List.mem_map.1 hf
  exact (h5 p hp).2
theorem ents_uq (K : Keyed P k) {n : Nat} {l : List (Fl × Value)} {es : List (Lit × DataW Value)} (ho : w.ownsMap P k heldR b n (.map es)) (hp : es.Perm (l.map entF)) : (l.map fun p => p.1.n).Nodup := by
  obtain ⟨es', he, h2, _⟩ := ho.entries K
  cases he
  have h3 := (hp.pairwise_iff (fun {a b} (h : a.1 ≠ b.1) => h.symm)).1 h2
  rw [List.pairwise_map] at h3
  rw [List.Nodup, List.pairwise_map]
  exact h3.imp (fun h e => h (by unfold entF; rw [e]))
theorem FMs.uq (K : Keyed P k) (h : FMs P k w F b L) : (L.map Fl.n).Nodup := by
  obtain ⟨l, es, rfl, ho, hp, _⟩ := h
  have := ents_uq K ho hp
  rwa [List.map_map]
theorem FMs.perm {L' : List Fl} (h : FMs P k w F b L) (hL : L.Perm L') : FMs P k w F b L' := by
  obtain ⟨l, es, rfl, ho, hp, h5⟩ := h
  obtain ⟨l', h1, h2⟩ : ∃ l' : List (Fl × Value), l'.map (·.1) = L' ∧ l.Perm l' := perm_lift hL l rfl
  exact ⟨l', es, h1, by rw [← h2.length_eq]; exact ho, hp.trans (h2.map _), fun p hp => h5 p (h2.mem_iff.2 hp)⟩
theorem any_find {α : Type} (f : α → Bool) : ∀ l : List α, l.any f = (l.find? f).isSome
  | [] => rfl
  | x :: l => by
    rw [List.any_cons, List.find?_cons]
    cases h : f x
    · rw [Bool.false_or]; exact any_find f l
    · rfl
/-- what is found at a name -/
theorem ent_find (s : ByteArray) : ∀ (l : List (Fl × Value)), ((l.map entF).find? fun q => q.1.sameKey (mkl s)) = (l.find? fun p => decide (p.1.n = s)).map entF
  | [] => rfl
  | p :: l => by
    rw [List.map_cons, List.find?_cons, List.find?_cons]
    have : (entF p).1.sameKey (mkl s) = decide (p.1.n = s) := mkl_same _ _
    rw [this]
    by_cases h : p.1.n = s
    · rw [decide_eq_true h]; rfl
    · rw [decide_eq_false h]; exact ent_find s l
theorem find_perm {α : Type} {f : α → Bool} {l l' : List α} (h : l.Perm l') (hu : l.Pairwise fun x y => ¬ (f x = true ∧ f y = true)) : l.find? f = l'.find? f := by
  induction h with
  | nil => rfl
  | cons x _ ih =>
    rw [List.find?_cons, List.find?_cons]
    rw [List.pairwise_cons] at hu
    rw [ih hu.2]
  | swap x y l =>
    rw [List.find?_cons, List.find?_cons, List.find?_cons, List.find?_cons]
    rw [List.pairwise_cons] at hu
    have := hu.1 x (by simp)
    cases hx : f x <;> cases hy : f y <;> simp_all
  | trans h1 _ ih1 ih2 =>
    rw [ih1 hu, ih2 ((h1.pairwise_iff (fun {a b} h => fun e => h ⟨e.2, e.1⟩)).1 hu)]
theorem fl_find (s : ByteArray) : ∀ (l : List (Fl × Value)), findF (l.map (·.1)) s = (l.find? fun p => decide (p.1.n = s)).map fun p => p.1.b
  | [] => rfl
  | p :: l => by
    rw [List.map_cons, findF, List.find?_cons]
    by_cases h : p.1.n = s
    · rw [if_pos h, decide_eq_true h]; rfl
    · rw [if_neg h, decide_eq_false h]; exact fl_find s l
theorem uq_pair {l : List (Fl × Value)} (h : (l.map fun p => p.1.n).Nodup) (s : ByteArray) : (l.map entF).Pairwise fun x y => ¬ (x.1.sameKey (mkl s) = true ∧ y.1.sameKey (mkl s) = true) := by
  rw [List.Nodup, List.pairwise_map] at h
  rw [List.pairwise_map]
  refine h.imp (fun {p q} hne hh => hne ?_)
  have h1 : decide (p.1.n = s) = true := by rw [← mkl_same]; exact hh.1
  have h2 : decide (q.1.n = s) = true := by rw [← mkl_same]; exact hh.2
  rw [of_decide_eq_true h1, of_decide_eq_true h2]
/-- the slice at a name -/
theorem FMs.find (K : Keyed P k) (h : FMs P k w F b L) (s : ByteArray) : ∃ (l : List (Fl × Value)) (es : List (Lit × DataW Value)), w.ownsMap P k heldR b l.length (.map es) ∧
    ((findF L s = none ∧ Maps.has (.map es) (mkl s) = false ∧ ∀ z : DataW Value, (DataW.map es).atKey (mkl s) z = z) ∨
     ∃ c v, findF L s = some c ∧ Rd w F v (bys c) ∧ Maps.has (.map es) (mkl s) = true ∧ ∀ z : DataW Value, (DataW.map es).atKey (mkl s) z = .held v) := by
  obtain ⟨l, es, rfl, ho, hp, h5⟩ := h
  refine ⟨l, es, ho, ?_⟩
  have hu := ents_uq K ho hp
  have hf : (es.find? fun q => q.1.sameKey (mkl s)) = (l.find? fun p => decide (p.1.n = s)).map entF := by
    rw [← ent_find]
    exact find_perm hp ((hp.pairwise_iff (fun {a b} h => fun e => h ⟨e.2, e.1⟩)).2 (uq_pair hu s))
  have hat : ∀ z : DataW Value, (DataW.map es).atKey (mkl s) z = match (l.find? fun p => decide (p.1.n = s)) with | some p => .held p.2 | none => z := fun z => by
    unfold DataW.atKey
    dsimp only
    rw [hf]
    cases l.find? fun p => decide (p.1.n = s) <;> rfl
  have hha : Maps.has (.map es) (mkl s) = (l.find? fun p => decide (p.1.n = s)).isSome := by
    rw [Maps.has_eq, any_find, hf]
    cases l.find? fun p => decide (p.1.n = s) <;> rfl
  rw [fl_find]
  cases hq : l.find? fun p => decide (p.1.n = s) with
  | none =>
    rw [hq] at hha
    exact .inl ⟨rfl, hha, fun z => by rw [hat, hq]⟩
  | some p =>
    rw [hq] at hha
    exact .inr ⟨p.1.b, p.2, rfl, (h5 p (List.mem_of_find?_eq_some hq)).1, hha, fun z => by rw [hat, hq]⟩
section
variable {ops : Array Oper} {rest : List Oper} {o : Oper} {a : Act} {Q : Exit → Act → World → Prop}
end
theorem woF_map (l : List (Fl × Value)) (s : ByteArray) : woF (l.map (·.1)) s = (l.filter fun p => decide (p.1.n ≠ s)).map (·.1) := by
  unfold woF
  rw [List.filter_map]
  rfl
theorem ent_filter (s : ByteArray) (l : List (Fl × Value)) : (l.map entF).filter (fun q => !q.1.sameKey (mkl s)) = (l.filter fun p => decide (p.1.n ≠ s)).map entF := by
  rw [List.filter_map]
  congr 1
  refine List.filter_congr (fun p _ => ?_)
  show (!(mkl p.1.n).sameKey (mkl s)) = _
  rw [mkl_same]
  by_cases h : p.1.n = s <;> simp [h]
/-- the datum behind a store -/
theorem FMs.put_of {w' : World} {F' : Nat → Prop} {n : Nat} {l : List (Fl × Value)} {es : List (Lit × DataW Value)} {s : ByteArray} {bs : List UInt8} {v : Value} (h1 : l.map (·.1) = L) (hp : es.Perm (l.map entF)) (h5 : ∀ p ∈ l, Rd w' F' p.2 (bys p.1.b) ∧ p.1.n.size ≤ maxLen)
    (hs : s.size ≤ maxLen) (hv : Rd w' F' v (bys bs)) (ho : w'.ownsMap P k heldR b n ((DataW.map es).put (mkl s) (.held v))) : FMs P k w' F' b (⟨s, bs⟩ :: woF L s) := by
  subst h1
  have hpp : (DataW.insert (mkl s, DataW.held v) (es.filter fun p => !p.1.sameKey (mkl s))).Perm (((⟨s, bs⟩, v) :: l.filter fun p => decide (p.1.n ≠ s)).map entF) := by
    refine (insert_perm _ _).trans ?_
    rw [List.map_cons, ← ent_filter]
    exact (hp.filter _).cons _
  refine ⟨(⟨s, bs⟩, v) :: l.filter fun p => decide (p.1.n ≠ s), _, by rw [List.map_cons, woF_map], ?_, hpp, fun p hp => ?_⟩
  · have := own_tight ho
    have e1 : Maps.size ((DataW.map es).put (mkl s) (.held v)) = ((⟨s, bs⟩, v) :: l.filter fun p => decide (p.1.n ≠ s)).length := by
      show (DataW.insert (mkl s, DataW.held v) (es.filter fun p => !p.1.sameKey (mkl s))).length = _
      rw [hpp.length_eq, List.length_map]
    rw [e1] at this
    exact this
  · rcases List.mem_cons.1 hp with rfl | hp
    · exact ⟨hv, hs⟩
    · exact h5 p (List.mem_filter.1 hp).1
section
variable {ops : Array Oper} {rest : List Oper} {o : Oper} {a : Act} {Q : Exit → Act → World → Prop}
end
/-- a range over the map, by iterator r: dn have come, rs are still to come -/
def FRs (P : Program) (k : TypeId) (w : World) (F : Nat → Prop) (b r : Nat) (dn rs : List Fl) : Prop :=
  ∃ (ld lr : List (Fl × Value)) (es : List (Lit × DataW Value)) (left : Lit → Bool) (cnt : Nat), ld.map (·.1) = dn ∧ lr.map (·.1) = rs ∧ w.ranges P k heldR b r (ld ++ lr).length (.map es) left cnt ∧ es.Perm ((ld ++ lr).map entF) ∧
    (∀ p ∈ ld ++ lr, Rd w F p.2 (bys p.1.b) ∧ p.1.n.size ≤ maxLen) ∧ ∀ s, left (mkl s) = true ↔ ∃ p ∈ lr, p.1.n = s
theorem FRs.owns {r : Nat} {dn rs : List Fl} (h : FRs P k w F b r dn rs) : FMs P k w F b (dn ++ rs) := by
  obtain ⟨ld, lr, es, left, cnt, rfl, rfl, h3, h4, h5, _⟩ := h
  exact ⟨ld ++ lr, es, by rw [List.map_append], h3.owns, h4, h5⟩
theorem FRs.keep {w' : World} {F' : Nat → Prop} {r : Nat} {dn rs : List Fl} (h : FRs P k w F b r dn rs) (hb : w'.heap[b]? = w.heap[b]?) (hr : w'.heap[r]? = w.heap[r]?) (hF : ∀ x, x < w.heap.size → F x → F' x ∧ w'.heap[x]? = w.heap[x]?) : FRs P k w' F' b r dn rs ∧ w'.rangeLeft b r = w.rangeLeft b r := by
  obtain ⟨ld, lr, es, left, cnt, h1, h2, ⟨es0, clock, since, seen, c0, q1, q2, q3, q4, q5, q6⟩, h4, h5, h6⟩ := h
  exact ⟨⟨ld, lr, es, left, cnt, h1, h2, ⟨es0, clock, since, seen, c0, hb.trans q1, q2, q3, q4, hr.trans q5, q6⟩, h4, fun p hp => ⟨(h5 p hp).1.keep hF, (h5 p hp).2⟩, h6⟩, by unfold World.rangeLeft; rw [hb, hr]⟩
section
variable {ops : Array Oper} {rest : List Oper} {o : Oper} {a : Act} {Q : Exit → Act → World → Prop}
end
end Go.V
