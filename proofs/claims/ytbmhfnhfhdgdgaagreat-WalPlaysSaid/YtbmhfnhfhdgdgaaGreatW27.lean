/- The document's List by lists; the bytes of its disk. No condition but the widths. -/
import Derived.Test.YtbmhfnhfhdgdgaaGreatW25
import Derived.Test.YtbmhfnhfhdgdgaaGreatW14
namespace Go.Proofs.YtbmhfnhfhdgdgaaGreat
open Go.RowKit Go.Maps
variable {w : World} {G : Nat -> Prop} {L : DiskL} {room p n : Nat}
theorem rlist_at10 (G : Nat -> Prop) (p room : Nat) (L : DiskL) (w : World) (hR : RAt w G p room L) (hS : Sane room L) : Calls Tryz.prog 49 #[.pointer (some ⟨p, 0, none⟩)] w fun e w' => ∃ v, e = .returned v /\ OwnS w' w.heap.size v (L.map (·.1)) /\ Below w.heap.size w w' := by
 obtain ⟨v, X, rfl, hx⟩ := hR;have hlen := hS.few;rw [absX_length] at hlen;have e : (absX X).map (·.1) = X.map (·.1) := by unfold absX mapK; rw [List.map_map]; rfl
 rw [e];exact rlist_any G p room v X w hx hlen
theorem RAt.bytes (h : RAt w G p room L) : ∀ q ∈ L, ∀ x ∈ q.2.1, x < 256 := by
 obtain ⟨v, X, rfl, hx⟩ := h;intro q hq x hxm;unfold absX mapK at hq;obtain ⟨y, hy, rfl⟩ := List.mem_map.1 hq;exact (hx.each y hy).2.2 x hxm
theorem read_bytes (h : RAt w G p room L) (k : Str) : ∀ x ∈ (readL k L).1, x < 256 := by
 unfold readL;rcases e : getK k L with _ | a
 ·intro x hx;exact absurd hx List.not_mem_nil
 ·exact h.bytes _ (getK_mem e)
theorem read_len (h : Sane room L) (k : Str) : (readL k L).1.length <= 1073741824 := by
 unfold readL;rcases e : getK k L with _ | a
 ·exact Nat.zero_le _
 ·show a.1.length <= _
  exact h.len e
theorem val_max : ∀ (s : Str) (v n : Nat), valD v s = some n -> n + 1 <= (v + 1) * 10 ^ s.length
 | [], v, n, h => by
  have : v = n := Option.some.inj h;simp [this]
 | c :: cs, v, n, h => by
  unfold valD at h;split at h
  ·cases h
  ·rename_i hc
   have ih := val_max cs _ n h;have h57 : c <= 57 := by
    rcases Nat.lt_or_ge 57 c.toNat with h5 | h5
    ·exact absurd (.inr (UInt8.lt_iff_toNat_lt.2 h5)) hc
    ·exact UInt8.le_iff_toNat_le.2 h5
   have h9 : c.toNat <= 57 := UInt8.le_iff_toNat_le.1 h57;have e : v * 10 + (c.toNat - 48) + 1 <= (v + 1) * 10 := by omega
   rw [List.length_cons, Nat.pow_succ, Nat.mul_comm (10 ^ cs.length) 10, <- Nat.mul_assoc];exact Nat.le_trans ih (Nat.mul_le_mul_right _ e)
theorem num_max {k s : Str} (h : numL k s = some n) : n <= 99999999 := by
 unfold numL at h;split at h
 ·cases h
 ·rename_i hc
  have hl : s.length = k.length + 9 := Decidable.byContradiction fun h9 => hc (.inl h9)
  have := val_max _ _ _ h;rw [List.length_drop, hl, show k.length + 9 - (k.length + 1) = 8 by omega] at this;omega
end Go.Proofs.YtbmhfnhfhdgdgaaGreat
