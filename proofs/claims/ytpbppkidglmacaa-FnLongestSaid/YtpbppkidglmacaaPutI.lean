/- GridPut of the program, by its contract. -/
import Derived.Test.YtpbppkidglmacaaBunF
namespace Go.Proofs.Ytpbppkidglmacaa
open Go.RowKit Go.Shelf
attribute [local go_sem] Oper.semAt_some

/-- What GridPut takes. -/
def PutIn (ss : List ByteArray) (cell : Int) (t : ByteArray) (n m c : Nat) (b : UInt8) : Prop := IsGrid n m ss ∧ cell = (c : Int) ∧ c < n * m ∧ t = ⟨#[b]⟩ ∧ isLet b = true
def PutOut (ss : List ByteArray) (cell : Int) (t : ByteArray) (ok : Bool) (res : List ByteArray) : Prop :=
  (∃ n m c b, PutIn ss cell t n m c b ∧ ok = true ∧ res = textsOf n m ((pad (flat ss)).set c b)) ∨ ((∀ n m c b, ¬ PutIn ss cell t n m c b) ∧ ok = false ∧ res = [])
theorem PutOut.uniq {ss : List ByteArray} {cell : Int} {t : ByteArray} {ok ok' : Bool} {res res' : List ByteArray} (h : PutOut ss cell t ok res) (h' : PutOut ss cell t ok' res') : ok' = ok ∧ res' = res := by
  rcases h with ⟨n, m, c, b, hg, rfl, rfl⟩ | ⟨hn, rfl, rfl⟩ <;> rcases h' with ⟨n', m', c', b', hg', rfl, rfl⟩ | ⟨hn', rfl, rfl⟩
  · obtain ⟨g1, g2, _, g4, _⟩ := hg
    obtain ⟨k1, k2, _, k4, _⟩ := hg'
    obtain ⟨rfl, rfl⟩ := g1.uniq k1
    obtain rfl : c = c' := by omega
    rw [g4] at k4
    obtain rfl : b = b' := by simpa using k4
    exact ⟨rfl, rfl⟩
  · exact absurd hg (hn' _ _ _ _)
  · exact absurd hg' (hn _ _ _ _)
  · exact ⟨rfl, rfl⟩
theorem PutOut.len {ss : List ByteArray} {cell : Int} {t : ByteArray} {ok : Bool} {res : List ByteArray} (h : PutOut ss cell t ok res) : res.length ≤ 1048576 := by
  rcases h with ⟨n, m, c, b, hg, _, rfl⟩ | ⟨_, _, rfl⟩
  · have h1 := hg.1.2.2.1
    rw [textsOf_length]; omega
  · simp

set_option maxHeartbeats 400000 in
theorem letterIn_other (t : ByteArray) (w : World) (ht : t.size ≠ 1) :
    Calls Try.prog 93 #[.string t] w fun e w' => e = .returned (.bool false) ∧ w = w' := by
  have hne : ((t.size : Int) == 1) = false := by rw [beq_eq_false_iff_ne]; omega
  go_enter Try.func93, Try.ntmps93
  go_wp2_with fail
  go_ret
  exact ⟨rfl, rfl⟩

theorem one_byte {t : ByteArray} (h : t.size = 1) : ∃ b, t = ⟨#[b]⟩ := by
  obtain ⟨⟨l⟩⟩ := t
  match l, h with
  | [b], _ => exact ⟨b, rfl⟩
section
variable {F : Fence} {m : Nat} {P : Program} {ops : Array Oper} {rest : List Oper} {o : Oper} {a : Act} {w : World} {Q : Exit → Act → World → Prop}
theorem wpListIn_load_row_g (hO : Open F P) (hw : Region.wanted o (yielded ops a.tmps) = true) (ty : TypeId) (x : Operand) (ho : o.op = .load ty x)
    (g : Nat) (hx : a.eval x = .pointer (some ⟨g, 0, none⟩)) (t : TypeId) (cs : Array Value) (fr : Nat × Nat) (d : TypeDesc) (hg : w.heap[g]? = some (.cells cs t fr))
    (hu : P.underlying ty = some d) (hd : (match d with | .struct _ | .array _ _ => true | _ => false) = true) (hi : (P.info? ty).map (·.size) = some cs.size)
    (h : wpListIn F m P ops Q rest (a.put o.dst (.agg cs)) w) : wpListIn F m P ops Q (o :: rest) a w := by
  unfold wpListIn
  rw [if_pos hw]
  refine ⟨fun f _ => hO.fn f, ?_⟩
  rw [Oper.semAt_eq _ _ _ (fun c e => by rw [ho] at e; cases e)]
  unfold execOp
  simp only [ho, hx, Instr.loadAt, Instr.sureAddr, Sem.run_bind, Sem.run_pure, Result.andThen_ok, run_loadVar_row w g t ty cs fr d hg hu hd hi]
  rw [Oper.uponIn_value]
  exact h
end

end Go.Proofs.Ytpbppkidglmacaa
