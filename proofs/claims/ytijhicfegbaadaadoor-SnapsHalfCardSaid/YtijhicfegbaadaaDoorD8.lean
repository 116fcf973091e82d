/- D8: several texts in one (D0 D1 D2 D3 D4 D5 D6 D7 D8). -/
import Derived.Test.YtijhicfegbaadaaDoorLW
import Derived.Test.YtijhicfegbaadaaDoorR2
import Derived.Lib.SlicesS
import Derived.Deep.DeepCutAuto
/- D0: layer 10: files and acts as lists, in memory; the document's find, without. -/
namespace Go.V
open Go.RowKit
structure Fl where
  n : ByteArray
  b : List UInt8
structure Ac where
  k : Int
  n : ByteArray
  t : ByteArray
  b : List UInt8
  keep : Nat
  torn : Int
  cut : Int
  m : Int
def flD : WD Fl 2 := ⟨fun f => [.atom (.string f.n), bys f.b], fun _ => rfl, by omega⟩
def acD : WD Ac 8 := ⟨fun a => [.atom (.int .i64 a.k), .atom (.string a.n), .atom (.string a.t), bys a.b, .atom (.int .u64 (a.keep : Int)), .atom (.int .i64 a.torn), .atom (.int .i64 a.cut), .atom (.int .i64 a.m)], fun _ => rfl, by omega⟩
def Fl.l (f : Fl) (u : Value) : List Value := [.string f.n, u]
def Ac.l (a : Ac) (u : Value) : List Value := [.int .i64 a.k, .string a.n, .string a.t, u, .int .u64 (a.keep : Int), .int .i64 a.torn, .int .i64 a.cut, .int .i64 a.m]
theorem fl_open {w : World} {F : Nat → Prop} {f : Fl} {cs : List Value} (h : WdEl w F flD f cs) : ∃ u, cs = f.l u ∧ Rd w F u (bys f.b) := by
  obtain ⟨hl, ha⟩ := h
  match cs, hl with
  | [c0, c1], _ =>
    have h0 := ha 0 c0 _ rfl rfl
    have h1 := ha 1 c1 _ rfl rfl
    unfold Rd at h0
    subst h0
    exact ⟨c1, rfl, h1⟩
theorem fl_mk {w : World} {F : Nat → Prop} {f : Fl} {u : Value} (h : Rd w F u (bys f.b)) : WdEl w F flD f (f.l u) :=
  ⟨rfl, fun j v d hv hd => by
    match j with
    | 0 => simp [Fl.l, flD] at hv hd; subst hv hd; unfold Rd; rfl
    | 1 => simp [Fl.l, flD] at hv hd; subst hv hd; exact h
    | j + 2 => simp [Fl.l] at hv⟩
theorem ac_open {w : World} {F : Nat → Prop} {a : Ac} {cs : List Value} (h : WdEl w F acD a cs) : ∃ u, cs = a.l u ∧ Rd w F u (bys a.b) := by
  obtain ⟨hl, ha⟩ := h
  match cs, hl with
  | [c0, c1, c2, c3, c4, c5, c6, c7], _ =>
    have h0 := ha 0 c0 _ rfl rfl
    have h1 := ha 1 c1 _ rfl rfl
    have h2 := ha 2 c2 _ rfl rfl
    have h3 := ha 3 c3 _ rfl rfl
    have h4 := ha 4 c4 _ rfl rfl
    have h5 := ha 5 c5 _ rfl rfl
    have h6 := ha 6 c6 _ rfl rfl
    have h7 := ha 7 c7 _ rfl rfl
    unfold Rd at h0 h1 h2 h4 h5 h6 h7
    subst h0 h1 h2 h4 h5 h6 h7
    exact ⟨c3, rfl, h3⟩
theorem ac_mk {w : World} {F : Nat → Prop} {a : Ac} {u : Value} (h : Rd w F u (bys a.b)) : WdEl w F acD a (a.l u) :=
  ⟨rfl, fun j v d hv hd => by
    match j with
    | 0 => simp [Ac.l, acD] at hv hd; subst hv hd; unfold Rd; rfl
    | 1 => simp [Ac.l, acD] at hv hd; subst hv hd; unfold Rd; rfl
    | 2 => simp [Ac.l, acD] at hv hd; subst hv hd; unfold Rd; rfl
    | 3 => simp [Ac.l, acD] at hv hd; subst hv hd; exact h
    | 4 => simp [Ac.l, acD] at hv hd; subst hv hd; unfold Rd; rfl
    | 5 => simp [Ac.l, acD] at hv hd; subst hv hd; unfold Rd; rfl
    | 6 => simp [Ac.l, acD] at hv hd; subst hv hd; unfold Rd; rfl
    | 7 => simp [Ac.l, acD] at hv hd; subst hv hd; unfold Rd; rfl
    | j + 8 => simp [Ac.l] at hv⟩
theorem one_fl (f : Fl) (A : Option Addr) (n c : Nat) : ∀ v ∈ f.l (.slice A n c), v.oneCell' = true := by
  intro v hv
  simp [Fl.l] at hv
  rcases hv with rfl | rfl <;> rfl
theorem one_ac (a : Ac) (A : Option Addr) (n c : Nat) : ∀ v ∈ a.l (.slice A n c), v.oneCell' = true := by
  intro v hv
  simp [Ac.l] at hv
  rcases hv with rfl | rfl | rfl | rfl | rfl | rfl | rfl | rfl <;> rfl
/-- the bytes of a file, if it is there -/
def findF : List Fl → ByteArray → Option (List UInt8)
  | [], _ => none
  | f :: l, n => if f.n = n then some f.b else findF l n
instance : DecidableEq ByteArray := inferInstance
def woF (l : List Fl) (n : ByteArray) : List Fl := l.filter fun f => decide (f.n ≠ n)
def gtS (a b : ByteArray) : Bool := !(Op.bytesLess a.toList b.toList || a.toList == b.toList)
/-- 'with': as the document's loop goes -/
def wiS (n : ByteArray) (b : List UInt8) (st : List Fl × Bool) (f : Fl) : List Fl × Bool :=
  if f.n = n then st else if st.2 = false ∧ gtS f.n n = true then (st.1 ++ [⟨n, b⟩, f], true) else (st.1 ++ [f], st.2)
def wiF (l : List Fl) (n : ByteArray) (b : List UInt8) : List Fl × Bool := l.foldl (wiS n b) ([], false)
def withF (l : List Fl) (n : ByteArray) (b : List UInt8) : List Fl := if (wiF l n b).2 then (wiF l n b).1 else (wiF l n b).1 ++ [⟨n, b⟩]
def doneF (l : List Fl) (a : Ac) : List Fl :=
  if a.k = 0 then withF l a.n ((findF l a.n).getD [] ++ a.b) else if a.k = 1 then withF l a.n a.b else if a.k = 2 then (match findF l a.n with
    | some b => withF (woF l a.n) a.t b
    | none => l) else if a.k = 3 then woF l a.n else l
theorem find_skip : ∀ (l : List Fl) (n : ByteArray) (i : Nat), (∀ j f, j < i → l[j]? = some f → f.n ≠ n) → ∀ f, l[i]? = some f → f.n = n → findF l n = some f.b
  | [], _, _, _, f, h, _ => by simp at h
  | x :: l, n, 0, _, f, h, hn => by
    simp at h
    subst h
    exact if_pos hn
  | x :: l, n, i + 1, ha, f, h, hn => by
    have h0 := ha 0 x (by omega) rfl
    rw [findF, if_neg h0]
    exact find_skip l n i (fun j g hj hg => ha (j + 1) g (by omega) (by simpa using hg)) f (by simpa using h) hn
theorem find_none : ∀ (l : List Fl) (n : ByteArray), (∀ (j : Nat) (f : Fl), l[j]? = some f → f.n ≠ n) → findF l n = none
  | [], _, _ => rfl
  | x :: l, n, ha => by
    rw [findF, if_neg (ha 0 x rfl)]
    exact find_none l n (fun j g hg => ha (j + 1) g (by simpa using hg))
theorem take_snocF {α : Type} {l : List α} {i : Nat} {r : α} (h : l[i]? = some r) : l.take (i + 1) = l.take i ++ [r] := by
  rw [List.take_add_one, h]; rfl
end Go.V
namespace Go.Proofs.YtijhicfegbaadaaDoor
open Go.RowKit Go.V
def zFl : List Value := [.string ByteArray.empty, .slice none 0 0]
end Go.Proofs.YtijhicfegbaadaaDoor
/- D1: layer 10: the document's without, with. -/
namespace Go.V
open Go.RowKit
theorem wo_snoc (l : List Fl) (f : Fl) (n : ByteArray) : woF (l ++ [f]) n = if f.n = n then woF l n else woF l n ++ [f] := by
  unfold woF
  rw [List.filter_append]
  by_cases h : f.n = n
  · rw [if_pos h]; simp [h]
  · rw [if_neg h]; simp [h]
theorem wi_snoc (l : List Fl) (f : Fl) (n : ByteArray) (b : List UInt8) : wiF (l ++ [f]) n b = wiS n b (wiF l n b) f := by
  unfold wiF
  rw [List.foldl_append]
  rfl
theorem wo_len (l : List Fl) (n : ByteArray) : (woF l n).length ≤ l.length := List.length_filter_le _ _
def wiN (st : List Fl × Bool) : Nat := st.1.length + (if st.2 = true then 0 else 1)
theorem wiS_len (n : ByteArray) (b : List UInt8) (st : List Fl × Bool) (f : Fl) : wiN (wiS n b st f) ≤ wiN st + 1 := by
  unfold wiS wiN
  split
  · omega
  · split
    · rename_i h
      simp [h.1]
    · simp only [List.length_append, List.length_singleton]
      omega
theorem wi_len (n : ByteArray) (b : List UInt8) : ∀ (l : List Fl) (st : List Fl × Bool), wiN (l.foldl (wiS n b) st) ≤ wiN st + l.length
  | [], _ => Nat.le_refl _
  | f :: l, st => by
    have h := wi_len n b l (wiS n b st f)
    have h2 := wiS_len n b st f
    rw [List.foldl_cons, List.length_cons]
    omega
theorem wiF_N (l : List Fl) (n : ByteArray) (b : List UInt8) : wiN (wiF l n b) ≤ l.length + 1 := by
  have := wi_len n b l ([], false)
  unfold wiF
  have h : wiN (([] : List Fl), false) = 1 := rfl
  omega
theorem wiF_len (l : List Fl) (n : ByteArray) (b : List UInt8) : (wiF l n b).1.length ≤ l.length + 1 := by
  have := wiF_N l n b
  unfold wiN at this
  omega
theorem with_len (l : List Fl) (n : ByteArray) (b : List UInt8) : (withF l n b).length ≤ l.length + 1 := by
  have h := wiF_N l n b
  unfold wiN at h
  unfold withF
  split
  · omega
  · rename_i hq
    rw [if_neg hq] at h
    rw [List.length_append, List.length_singleton]
    omega
theorem wp_ixag {P : Program} {w : World} {ops : Array Oper} {rest : List Oper} {o : Oper} {a : Act} {Q : Exit → Act → World → Prop} (t : TypeId) (x y : Operand) (hw : Region.wanted o (yielded ops a.tmps) = true) (ho : o.op = .indexAddr t x y) {g off n c : Nat} (hx : a.eval x = .slice (some ⟨g, off, none⟩) n c) {i : Nat} (hy : a.eval y = .int .i64 (i : Int))
    {e : TypeId} (hu : P.underlying t = some (.slice e)) (hi : i < n) {s : Nat} (hsz : (P.info? e).map (·.size) = some s)
    (h : wpList P ops Q rest (a.put o.dst (.pointer (some ⟨g, off + i * s, none⟩))) w) : wpList P ops Q (o :: rest) a w := by
  refine wpList_step fun K hK => ?_
  rw [if_pos hw]
  cases hq : P.info? e with
  | none => simp [hq] at hsz
  | some f =>
    have hs : f.size = s := by simpa [hq] using hsz
    have h1 : (0 : Int) ≤ (i : Int) ∧ (i : Int) < (n : Int) := by omega
    have hr : (Instr.indexAt t (.slice (some ⟨g, off, none⟩) n c) (.int .i64 (i : Int))).run P w = .ok (.pointer (some ⟨g, off + i * s, none⟩)) w := by
      simp [Instr.indexAt, asIntOf, run_underlying hu, sizeOf, typeInfo, hq, hs, h1, add_mk]
      intro hh
      exact absurd hh (by omega)
    unfold Oper.wp execOp
    simp only [ho, hx, hy, Sem.run_bind, Sem.run_pure, hr, Result.andThen_ok]
    exact hK _ _ h
end Go.V
namespace Go.Proofs.YtijhicfegbaadaaDoor
open Go.RowKit Go.V
end Go.Proofs.YtijhicfegbaadaaDoor
/- D2: layer 10: the document's named, Done. -/
namespace Go.V
open Go.RowKit
def namF (n : ByteArray) : Bool := decide (1 ≤ n.size ∧ n.size ≤ 24)
end Go.V
namespace Go.Proofs.YtijhicfegbaadaaDoor
open Go.RowKit Go.V
end Go.Proofs.YtijhicfegbaadaaDoor
/- D3: layer 10: the document's disk in memory: Now, New, burn. -/
namespace Go.V
open Go.RowKit
def tot (l : List Fl) : Nat := (l.map fun f => f.b.length).sum
theorem tot_mem : ∀ {l : List Fl} {f : Fl}, f ∈ l → f.b.length ≤ tot l
  | g :: l, f, h => by
    unfold tot
    rw [List.map_cons, List.sum_cons]
    rcases List.mem_cons.1 h with rfl | h
    · omega
    · have := tot_mem h
      unfold tot at this
      omega
theorem tot_app (a b : List Fl) : tot (a ++ b) = tot a + tot b := by unfold tot; simp
theorem tot_one (f : Fl) : tot [f] = f.b.length := by unfold tot; simp
theorem tot_two (f g : Fl) : tot [f, g] = f.b.length + g.b.length := by unfold tot; simp
theorem wo_cons (f : Fl) (l : List Fl) (n : ByteArray) : woF (f :: l) n = if f.n = n then woF l n else f :: woF l n := by
  unfold woF
  by_cases h : f.n = n
  · rw [if_pos h]; simp [h]
  · rw [if_neg h]; simp [h]
theorem tot_cons (f : Fl) (l : List Fl) : tot (f :: l) = f.b.length + tot l := by unfold tot; simp
def wiT (b : List UInt8) (st : List Fl × Bool) : Nat := tot st.1 + (if st.2 = true then 0 else b.length)
theorem wi_tot (n : ByteArray) (b : List UInt8) : ∀ (l : List Fl) (st : List Fl × Bool), wiT b (l.foldl (wiS n b) st) = wiT b st + tot (woF l n)
  | [], _ => by simp [woF, tot]
  | f :: l, st => by
    rw [List.foldl_cons, wi_tot n b l (wiS n b st f), wo_cons]
    unfold wiS wiT
    split
    · rfl
    · split
      · rename_i h
        rw [tot_app, tot_two, tot_cons]
        simp [h.1]
        omega
      · dsimp only
        rw [tot_app, tot_one, tot_cons]
        omega
theorem with_tot (l : List Fl) (n : ByteArray) (b : List UInt8) : tot (withF l n b) = tot (woF l n) + b.length := by
  have h := wi_tot n b l ([], false)
  have h0 : wiT b ([], false) = b.length := by unfold wiT tot; simp
  rw [h0] at h
  unfold wiT at h
  unfold withF wiF
  split
  · rename_i hq
    rw [if_pos hq] at h
    omega
  · rename_i hq
    rw [if_neg hq] at h
    rw [tot_app, tot_one]
    show _ + b.length = _
    omega
theorem wo_tot : ∀ (l : List Fl) (n : ByteArray), tot (woF l n) + ((findF l n).getD []).length ≤ tot l
  | [], n => by simp [woF, tot, findF]
  | f :: l, n => by
    have h := wo_tot l n
    rw [wo_cons, tot_cons]
    unfold findF
    split
    · have : tot (woF l n) ≤ tot l := by omega
      simp
      omega
    · rw [tot_cons]
      omega
theorem done_tot (l : List Fl) (a : Ac) : tot (doneF l a) ≤ tot l + a.b.length := by
  have h := wo_tot l a.n
  unfold doneF
  split
  · rw [with_tot, List.length_append]; omega
  · split
    · rw [with_tot]; omega
    · split
      · cases hf : findF l a.n with
        | none => dsimp only; omega
        | some b =>
          dsimp only
          rw [with_tot]
          rw [hf] at h
          have h2 := wo_tot (woF l a.n) a.t
          simp at h
          omega
      · split <;> omega
theorem done_len (l : List Fl) (a : Ac) : (doneF l a).length ≤ l.length + 1 := by
  unfold doneF
  split
  · exact with_len _ _ _
  · split
    · exact with_len _ _ _
    · split
      · cases hf : findF l a.n with
        | none => dsimp only; omega
        | some b =>
          dsimp only
          have h1 := with_len (woF l a.n) a.t b
          have h2 := wo_len l a.n
          omega
      · split
        · have := wo_len l a.n; omega
        · omega
structure Dk where
  room : Int
  syn : List Fl
  pend : List Ac
  fuse : Int
  down : Bool
def Dk.l (d : Dk) (vs vp : Value) : List Value := [.int .i64 d.room, vs, vp, .int .i64 d.fuse, .bool d.down]
def nowL (l : List Fl) (p : List Ac) : List Fl := p.foldl doneF l
def nowF (d : Dk) : List Fl := nowL d.syn d.pend
def totA (l : List Ac) : Nat := (l.map fun a => a.b.length).sum
theorem totA_app (a b : List Ac) : totA (a ++ b) = totA a + totA b := by unfold totA; simp
theorem totA_one (f : Ac) : totA [f] = f.b.length := by unfold totA; simp
theorem totA_take (l : List Ac) (i : Nat) : totA (l.take i) ≤ totA l := by
  have : totA l = totA (l.take i) + totA (l.drop i) := by rw [← totA_app, List.take_append_drop]
  omega
theorem totA_mem : ∀ {l : List Ac} {f : Ac}, f ∈ l → f.b.length ≤ totA l
  | g :: l, f, h => by
    unfold totA
    rw [List.map_cons, List.sum_cons]
    rcases List.mem_cons.1 h with rfl | h
    · omega
    · have := totA_mem h
      unfold totA at this
      omega
theorem now_snoc (l : List Fl) (p : List Ac) (a : Ac) : nowL l (p ++ [a]) = doneF (nowL l p) a := by unfold nowL; rw [List.foldl_append]; rfl
theorem now_bd : ∀ (p : List Ac) (l : List Fl), (nowL l p).length ≤ l.length + p.length ∧ tot (nowL l p) ≤ tot l + totA p
  | [], l => ⟨by simp [nowL], by simp [nowL, totA]⟩
  | a :: p, l => by
    have h := now_bd p (doneF l a)
    have h1 := done_len l a
    have h2 := done_tot l a
    have e1 : nowL l (a :: p) = nowL (doneF l a) p := rfl
    have e2 : totA (a :: p) = a.b.length + totA p := by unfold totA; simp
    rw [e1, e2, List.length_cons]
    exact ⟨by omega, by omega⟩
structure DkSm (d : Dk) : Prop where
  n : d.syn.length + d.pend.length ≤ 500000
  t : tot d.syn + totA d.pend ≤ 1000000000
  r : 0 ≤ d.room ∧ d.room ≤ 9223372036854775807
  f : -9223372036854775808 ≤ d.fuse ∧ d.fuse ≤ 9223372036854775807
/-- can one thing more be done? -/
def burnF (d : Dk) : Dk × Bool := ({ d with down := d.down || (d.fuse == 0), fuse := if 0 < d.fuse then d.fuse - 1 else d.fuse }, !(d.down || (d.fuse == 0)))
def only10 (p : Nat) : Nat → Prop := fun b => b = p
theorem own_keep10 {w w' : World} {base : Nat} {e : TypeId} {s : Nat} {v : Value} {n : Nat} {xs : List Value} (h : w.ownsRow base e s v n xs) (hk : ∀ k, k < w.heap.size → v.ownBlock = some k → w'.heap[k]? = w.heap[k]?) : w'.ownsRow base e s v n xs := by
  obtain ⟨h1, h2⟩ := h
  refine ⟨h1, ?_⟩
  rcases h2 with h | ⟨g, cap, cur, rfl, hg, hh, h3⟩
  · exact .inl h
  · exact .inr ⟨g, cap, cur, rfl, hg, (hk g (lt_of_block hh) rfl).trans hh, h3⟩
/-- what the document's disk may read: not its own blocks, nor those of N -/
def dkF (p : Nat) (r : Option Nat) (N : Nat → Prop) : Nat → Prop := fun b => b ≠ p ∧ r ≠ some b ∧ ¬ N b
end Go.V
namespace Go.Proofs.YtijhicfegbaadaaDoor
open Go.RowKit Go.V
theorem sizeAc : (Tryd.prog.info? 47).map (·.size) = some 8 := by kernel_rfl
theorem sizeBool : (Tryd.prog.info? 4).map (·.size) = some 1 := by kernel_rfl
theorem sizeI10 : (Tryd.prog.info? 3).map (·.size) = some 1 := by kernel_rfl
def zAc : List Value := [.int .i64 0, .string ByteArray.empty, .string ByteArray.empty, .slice none 0 0, .int .u64 0, .int .i64 0, .int .i64 0, .int .i64 0]
theorem slAc : SlW Tryd.prog 42 47 zAc 8 96 := .of Tryd.underlying42 (by kernel_rfl) rfl (by omega) (by omega)
theorem own_shape8 {w : World} {base s : Nat} {e : TypeId} {v : Value} {n : Nat} {xs : List Value} (h : w.ownsRow base e s v n xs) : ∃ A c, v = .slice A n c := by
  rcases h.2 with ⟨rfl, rfl⟩ | ⟨g, cap, cur, rfl, _⟩
  · exact ⟨_, _, rfl⟩
  · exact ⟨_, _, rfl⟩
end Go.Proofs.YtijhicfegbaadaaDoor
/- D4: layer 10: the document's New, crash. -/
namespace Go.V
open Go.RowKit
def roomF (x : Int) : Int := if x < 0 then 0 else if 1048576 < x then 1048576 else x
/-- an act of which the first c bytes alone were put -/
def tornF (a : Ac) (c : Int) : Ac := { a with b := a.b.take (if c < 0 then 0 else c.toNat) }
def crS (keep : Nat) (torn cut : Int) (l : List Fl) (i : Nat) (a : Ac) : List Fl :=
  if (i : Int) = torn ∧ a.k ≤ 1 then doneF l (tornF a cut) else if keep / 2 ^ (i % 64) % 2 = 1 then doneF l a else l
def crF (keep : Nat) (torn cut : Int) : Nat → List Fl → List Ac → List Fl
  | _, l, [] => l
  | i, l, a :: p => crF keep torn cut (i + 1) (crS keep torn cut l i a) p
def crashF (d : Dk) (keep : Nat) (torn cut : Int) : Dk := { d with syn := crF keep torn cut 0 d.syn d.pend, pend := [], fuse := -1, down := false }
theorem cr_snoc (keep : Nat) (torn cut : Int) : ∀ (p : List Ac) (i : Nat) (l : List Fl) (a : Ac), crF keep torn cut i l (p ++ [a]) = crS keep torn cut (crF keep torn cut i l p) (i + p.length) a
  | [], i, l, a => rfl
  | b :: p, i, l, a => by
    rw [List.cons_append, crF, cr_snoc keep torn cut p (i + 1), crF, List.length_cons, show i + 1 + p.length = i + (p.length + 1) from by omega]
theorem crS_bd (keep : Nat) (torn cut : Int) (l : List Fl) (i : Nat) (a : Ac) : (crS keep torn cut l i a).length ≤ l.length + 1 ∧ tot (crS keep torn cut l i a) ≤ tot l + a.b.length := by
  unfold crS
  split
  · have h1 := done_len l (tornF a cut)
    have h2 := done_tot l (tornF a cut)
    have h3 : (tornF a cut).b.length ≤ a.b.length := by unfold tornF; simp; omega
    exact ⟨h1, by omega⟩
  · split
    · exact ⟨done_len _ _, done_tot _ _⟩
    · exact ⟨by omega, by omega⟩
theorem cr_bd (keep : Nat) (torn cut : Int) : ∀ (p : List Ac) (i : Nat) (l : List Fl), (crF keep torn cut i l p).length ≤ l.length + p.length ∧ tot (crF keep torn cut i l p) ≤ tot l + totA p
  | [], i, l => ⟨by simp [crF], by simp [crF, totA]⟩
  | a :: p, i, l => by
    have h := cr_bd keep torn cut p (i + 1) (crS keep torn cut l i a)
    have h1 := crS_bd keep torn cut l i a
    have e2 : totA (a :: p) = a.b.length + totA p := by unfold totA; simp
    rw [crF, e2, List.length_cons]
    exact ⟨by omega, by omega⟩
theorem bit_step (k j : Nat) : k / 2 ^ j / 2 = k / 2 ^ (j + 1) := by rw [Nat.div_div_eq_div_mul, Nat.pow_succ]
end Go.V
namespace Go.Proofs.YtijhicfegbaadaaDoor
open Go.RowKit Go.V
theorem zeroAc : (Tryd.prog.info? 47).map (·.zero) = some (some (.agg zAc.toArray)) := by kernel_rfl
theorem tornF_l (a : Ac) (c : Int) (u : Value) : (tornF a c).l u = a.l u := rfl
theorem rd_own10 {w w' : World} {p : Nat} {n : Nat} {v : Value} {xs : List Value} (ho : w.ownsRow 0 47 8 v n xs) (hC : Ch (only10 p) w w') (hp : v.ownBlock ≠ some p) : w'.ownsRow 0 47 8 v n xs :=
  own_keep10 ho (fun k hk he => hC.block k hk (fun h => by have h' : k = p := h; rw [h'] at he; exact hp he))
end Go.Proofs.YtijhicfegbaadaaDoor
/- D5: layer 10: the document's crash. -/
namespace Go.V
open Go.RowKit
end Go.V
namespace Go.Proofs.YtijhicfegbaadaaDoor
open Go.RowKit Go.V
theorem sizeSlB10 : (Tryd.prog.info? 22).map (·.size) = some 1 := by kernel_rfl
theorem sizeAl10 : (Tryd.prog.info? 42).map (·.size) = some 1 := by kernel_rfl
end Go.Proofs.YtijhicfegbaadaaDoor
/- D6: layer 10: the document's Do, case by case. -/
namespace Go.V
open Go.RowKit
def dkG (p : Nat) (r : Option Nat) : Nat → Prop := fun b => b = p ∨ r = some b
end Go.V
namespace Go.Proofs.YtijhicfegbaadaaDoor
open Go.RowKit Go.V
theorem sizePlan10 : (Tryd.prog.info? 45).map (·.size) = some 3 := by kernel_rfl
end Go.Proofs.YtijhicfegbaadaaDoor
/- D7: layer 10: the document's Do: sizes, what is found, what is pending. -/
namespace Go.V
open Go.RowKit
def pushF (d : Dk) (a : Ac) : Dk × Int := if (burnF d).2 = true then ({ (burnF d).1 with pend := d.pend ++ [a] }, 0) else ((burnF d).1, 14)
def findR (d : Dk) (a : Ac) : Dk × Int := if (findF (nowF d) a.n).isNone = true then (d, 13) else pushF d a
def szA (a : Ac) (l : List Fl) : Nat := a.b.length + (l.map fun f => if a.k = 0 ∨ f.n ≠ a.n then f.b.length else 0).sum
def sizeR (d : Dk) (a : Ac) : Dk × Int := if d.room < (szA a (nowF d) : Int) then (d, 4) else pushF d a
theorem szA_snoc (a : Ac) (l : List Fl) (f : Fl) : szA a (l ++ [f]) = szA a l + (if a.k = 0 ∨ f.n ≠ a.n then f.b.length else 0) := by
  unfold szA
  rw [List.map_append, List.sum_append]
  simp
  omega
theorem szA_le (a : Ac) : ∀ l : List Fl, szA a l ≤ a.b.length + tot l
  | [] => by simp [szA, tot]
  | f :: l => by
    have h := szA_le a l
    unfold szA tot at h ⊢
    rw [List.map_cons, List.sum_cons, List.map_cons, List.sum_cons]
    split <;> omega
theorem tot_take (l : List Fl) (i : Nat) : tot (l.take i) ≤ tot l := by
  have : tot l = tot (l.take i) + tot (l.drop i) := by rw [← tot_app, List.take_append_drop]
  omega
theorem ch_cell {w W : World} {g o : Nat} {u : Value} (h : Ch nob w W) (hc : w.cell? ⟨g, o, none⟩ = some u) : W.cell? ⟨g, o, none⟩ = some u :=
  (World.cell?_of_block (a := ⟨g, o, none⟩) (h.block g (lt_of_cell hc) (fun h => h))).trans hc
theorem step_appW5 {P : Program} {w : World} {ops : Array Oper} {o : Oper} {a : Act} {Q : Exit → Act → World → Prop} {K : Act → World → Prop} {E : Prop} (s x : Operand) {t e : TypeId} {z : List Value} {sz by_ : Nat} (ht : SlW P t e z sz by_) (hgd : o.guard = none)
    (ho : o.op = .call { callee := .builtin .append, args := #[s, x], argTypes := #[t, t] }) {us : List Value} (hu : us.length = sz) (h1 : ∀ u ∈ us, u.oneCell' = true)
    {base : Nat} {v : Value} {n : Nat} {xs : List Value} (hs : a.eval s = v) (hown : w.ownsRow base e sz v n xs) (hx : a.eval x = .slice (some ⟨w.heap.size, 0, none⟩) 1 1)
    (h63 : n + 1 ≤ maxLen) (hb : (n + 1) * by_ ≤ 140737488355328) (hbase : base ≤ w.heap.size)
    (h : ∀ v' w', w'.ownsRow base e sz v' (n + 1) (xs ++ us) → w.grownBy w' v.ownBlock → (v'.ownBlock = v.ownBlock ∨ ∃ g, v'.ownBlock = some g ∧ w.heap.size ≤ g) → K (a.put o.dst v') w') : if Region.wanted o (yielded ops a.tmps) = true then Oper.wp P o a (w.alloc (.cells us.toArray e)) K Q else E := by
  have hw : Region.wanted o (yielded ops a.tmps) = true := by simp [Region.wanted, hgd]
  rw [if_pos hw]
  obtain ⟨v', w', r1, r2, r3, r4⟩ := run_append_wide (P := P) (w := w) base (ty := o.type) ht v n xs us hown hu h1 h63 hb hbase
  unfold Oper.wp execOp
  simp only [ho, resolve, invoke, builtin, Sem.run_bind, Sem.run_pure, Result.andThen_ok, List.map_toArray, List.map_cons, List.map_nil, hs, hx, r1]
  exact h v' w' r2 r3 r4
end Go.V
namespace Go.Proofs.YtijhicfegbaadaaDoor
open Go.RowKit Go.V
theorem WdX.drew {w : World} {F : Nat → Prop} {k : Nat} {α : Type} {T : WD α k} {l : List α} {xs : List Value} (h : WdX w F T l xs) : WdX w.drew F T l xs := WdX.keep (w := w) (w' := w.drew) (fun _ _ hF => ⟨hF, rfl⟩) h
theorem own_drew10 {w : World} {base s : Nat} {e : TypeId} {v : Value} {n : Nat} {xs : List Value} (h : w.ownsRow base e s v n xs) : w.drew.ownsRow base e s v n xs := own_keep10 h (fun _ _ _ => rfl)
end Go.Proofs.YtijhicfegbaadaaDoor
/- D8: layer 10: the document's Do, in one. -/
namespace Go.V
open Go.RowKit
/-- what an act does to the document's disk; its error -/
def doF (d : Dk) (a : Ac) : Dk × Int :=
  if a.k = 4 then (if (burnF d).2 = true then ({ (burnF d).1 with syn := nowF d, pend := [] }, 0) else ((burnF d).1, 0))
  else if a.k = 5 then (crashF d a.keep a.torn a.cut, 0)
  else if a.k = 6 then (d, 0)
  else if a.k = 7 then (if d.down = true then (d, 0) else ({ d with fuse := a.m }, 0))
  else if d.down = true then (d, 14)
  else if namF a.n = false ∨ (a.k = 2 ∧ namF a.t = false) then (d, 15)
  else if a.k ≤ 1 then sizeR d a else findR d a
structure AcSm (a : Ac) : Prop where
  b : a.b.length ≤ 1000000000
  keep : a.keep < 18446744073709551616
  cut : -9223372036854775808 ≤ a.cut ∧ a.cut ≤ 9223372036854775807
  m : -9223372036854775808 ≤ a.m ∧ a.m ≤ 9223372036854775807
  nn : a.n.size ≤ maxLen
  tt : a.t.size ≤ maxLen
end Go.V
namespace Go.Proofs.YtijhicfegbaadaaDoor
open Go.RowKit Go.V
end Go.Proofs.YtijhicfegbaadaaDoor
