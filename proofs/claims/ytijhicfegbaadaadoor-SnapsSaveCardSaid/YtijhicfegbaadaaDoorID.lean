/- ID: layer 12: Save and Load as the laws want them. -/
import Derived.Test.YtijhicfegbaadaaDoorIC
import Derived.Test.YtijhicfegbaadaaDoorR2
namespace Go.V
open Go.RowKit
/-- the files behind a Save of b by the name n -/
def updF (fl : ByteArray → Option (List UInt8)) (n : ByteArray) (b : List UInt8) : ByteArray → Option (List UInt8) := fun x => if x = n then some b else if x = n ++ newN then none else fl x
theorem upd_same (fl : ByteArray → Option (List UInt8)) (n : ByteArray) (b : List UInt8) : updF fl n b n = some b := if_pos rfl
end Go.V
namespace Go.Proofs.YtijhicfegbaadaaDoor
open Go.RowKit Go.V
/-- a disk at dv behind the world w0: it says D, which is at rest with the files fl -/
structure QX (w0 w : World) (dv : Value) (M F : Nat → Prop) (D : Dk) : Prop where
  i : IX w dv M F D
  B : Below w0.heap.size w0 w
  M : ∀ b, M b → w0.heap.size ≤ b
theorem QX.below {w0 w w' : World} {dv : Value} {M F : Nat → Prop} {D : Dk} (h : QX w0 w dv M F D) (hB : Below w.heap.size w w') : QX w0 w' dv M F D :=
  ⟨h.i.keep (fun b hb _ => hB.block b hb) hB.size, h.B.trans (hB.mono h.B.size), h.M⟩
theorem QX.mk' {w0 w w' : World} {dv : Value} {M F : Nat → Prop} {D D' : Dk} (h : QX w0 w dv M F D) (hp : IXp w M F dv D' w') : ∃ M' F', QX w0 w' dv M' F' D' ∧ Ch M w w' := by
  obtain ⟨M', F', hI, hB, hM, hC⟩ := hp.bel h.B h.M
  exact ⟨M', F', ⟨hI, hB, hM⟩, hC⟩
theorem QX.ks {w0 w : World} {dv : Value} {M F : Nat → Prop} {D : Dk} (h : QX w0 w dv M F D) (hK : KS w0) : KS w := hK.below h.B
theorem QX.rd {w0 w : World} {dv : Value} {M F G : Nat → Prop} {D : Dk} {v : Value} {d : Dat} (h : QX w0 w dv M F D) (hv : Rd w0 G v d) : Rd w (fun b => b < w0.heap.size) v d :=
  hv.keep (fun b hb _ => ⟨hb, h.B.block b hb⟩)
theorem save12_ok (w0 : World) (dv : Value) (M F G : Nat → Prop) (D : Dk) (c T : Nat) (fl : ByteArray → Option (List UInt8)) (n : ByteArray) (t : List UInt8) (vt : Value) (w : World) (hK : KS w0) (h : QX w0 w dv M F D) (hS : SN D c T fl) (hc : c ≤ 50000) (hT : T ≤ 50000000) (hn : named12 n = true) (ht : t.length ≤ 65536) (hr : (T : Int) + (toldF t).length ≤ D.room) (hvt : Rd w G vt (bys t)) (hG : ∀ b, G b → ¬ M b) :
    Calls Tryd.prog 15 #[dv, .string n, vt] w fun e w' => e = .returned (.int .i64 0) ∧ ∃ M' F' D', QX w0 w' dv M' F' D' ∧ SN D' (c + 2) (T + (toldF t).length) (updF fl n (toldF t)) ∧ D'.room = D.room ∧ Ch M w w' := by
  obtain ⟨hsv, hrm, hS1⟩ := hS.saved hn hr
  have hs := named_size hn
  refine (save12_any dv M F G D c T fl n t vt w (h.ks hK) h.i hS hc hT (by omega) ht hvt hG (fun e => absurd (h.M _ e) (Nat.not_le_of_lt hK.lt))).mono ?_
  rintro e w1 ⟨rfl, hp⟩
  rw [hsv] at hp ⊢
  obtain ⟨M', F', hQ, hC⟩ := h.mk' hp
  exact ⟨rfl, M', F', _, hQ, hS1, hrm, hC⟩
theorem load12_ok (w0 : World) (dv : Value) (M F : Nat → Prop) (D : Dk) (n : ByteArray) (r : Option (List UInt8)) (w : World) (hK : KS w0) (h : QX w0 w dv M F D) (hs : DkSm D) (hd : D.down = false) (hn : n.size ≤ 1000) (hr : findF (nowF D) n = r) (hb : ∀ b, r = some b → b.length ≤ 1000000) :
    Calls Tryd.prog 11 #[dv, .string n] w fun e w' => ∃ vt, e = .returned (.tuple #[vt, .int .i64 (loadF r n).2]) ∧ Rd w' (fun b => w.heap.size ≤ b) vt (bys (loadF r n).1) ∧ Below w.heap.size w w' := by
  have := load12_any dv M F D n w (h.ks hK) h.i hs hd (by rw [hr]; exact hb) hn
  rw [hr] at this
  exact this
theorem load_told {n : ByteArray} {t : List UInt8} (hn : named12 n = true) (ht : t.length ≤ 65536) : loadF (some (toldF t)) n = (t, 0) := by
  unfold loadF
  rw [if_neg (by rw [hn]; simp)]
  dsimp only
  rw [readS_told ht]
end Go.Proofs.YtijhicfegbaadaaDoor
