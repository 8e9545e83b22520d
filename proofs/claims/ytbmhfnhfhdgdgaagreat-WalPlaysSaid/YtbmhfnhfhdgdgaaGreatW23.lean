/- The contract of the disk's Crash. No condition. What each call does to a disk, as lists; the program's calls by it. No condition but the widths. Names in a row  -/
import Derived.Test.YtbmhfnhfhdgdgaaGreatW22
import Derived.Deep.CutRange
import Derived.Test.YtbmhfnhfhdgdgaaGreatW20
namespace Go.Proofs.YtbmhfnhfhdgdgaaGreat
open Go.RowKit Go.Maps Go.Sort
variable {w w' : World} {F : Nat -> Prop} {B room d : Nat}
theorem OwnS.form {v : Value} {ks : List Str} (h : OwnS w B v ks) : ∃ A c, v = .slice A ks.length c /\ ks.length <= c /\ c <= 9223372036854775807 /\ ∀ i, i < ks.length -> ∃ g, A = some ⟨g, 0, none⟩ /\ B <= g /\ g < w.heap.size /\ w.cell? ⟨g, i, none⟩ = some (encStr (ks.getD i [])) := by
 unfold OwnS at h;rcases h.2 with ⟨rfl, hn⟩ | ⟨g, cap, cur, rfl, hb, hg, h1, h2, _⟩
 ·exact ⟨none, 0, by rw [hn], by omega, by decide, fun i hi => by omega⟩
 ·refine ⟨_, cap, rfl, h1, by unfold maxLen at h2; omega, fun i hi => ⟨g, rfl, hb, heap_lt hg, ?_⟩⟩;rw [World.ownsRow.cellAt h i (by omega)];simp [hi]
theorem OwnS.turn {S : Nat -> Prop} {v : Value} {ks : List Str} (h : OwnS w B v ks) (t : Turn S w w') (ho : Off S v) : OwnS w' B v ks := by
 unfold OwnS at h ⊢;refine ⟨h.1, ?_⟩;rcases h.2 with hn | ⟨g, cap, cur, hv, h1, h2, r⟩
 ·exact .inl hn
 ·refine .inr ⟨g, cap, cur, hv, h1, ?_, r⟩;rw [t.block g (heap_lt h2) (ho g (by rw [hv]; rfl))];exact h2
theorem OwnS.lt {v : Value} {ks : List Str} (h : OwnS w B v ks) : ∀ g, v.ownBlock = some g -> B <= g /\ g < w.heap.size := World.ownsRow.lt h
theorem lookL {X : List (Str × Fil)} (h : Shell w F d room X) {k : Str} {a : Fil} (hk : k.length <= maxLen) (hg : getK k X = some a) : ∃ mv, w.cell? ⟨d, 2, none⟩ = some (.map mv) /\ (Instr.lookup 74 (.map mv) (encStr k) false).run Tryz.prog w = .ok (filV a) w := by
 obtain ⟨mv, hB, hm⟩ := h.cells;refine ⟨mv, hB.cell 2, ?_⟩;rcases hm with ⟨_, rfl⟩ | ⟨b, rfl, _, hm⟩
 ·cases hg
 ·have := look_val hm ⟨k.toArray⟩ (by simpa [ByteArray.size] using hk);have e : (⟨k.toArray⟩ : ByteArray).data.toList = k := by simp
  rw [e, hg] at this;exact this
theorem lay_name (F : Nat -> Prop) (d room : Nat) (X : List (Str × Fil)) (k : Str) (A : Option Addr) (n c l : Nat) (xs : List Nat) (w : World) (hS : Shell w F d room X) (hf : Files w F (delK k X)) (hs : k.length <= 64) (hn : xs.length = n) (hl : l <= n)
  (ho : Own w 0 (.slice A n c) xs) (hb : ∀ x ∈ xs, x < 256) (hF : ∀ g, (Value.slice A n c).ownBlock = some g -> F g /\ ∀ p ∈ delK k X, p.2.1.ownBlock ≠ some g)
  (hu : sumK filL (delK k X) + n <= room) (hfew : (getK k X).isSome = true \/ X.length < 256) :
  Calls Tryz.prog 30 #[.pointer (some ⟨d, 0, none⟩), encStr k, .agg #[.slice A n c, .int .i64 l]] w fun e w' => e = .returned (.tuple #[]) /\
   ∃ F', DiskAt w' F' d room (putK k (xs, l) (absX X)) /\ Next F w F' w' :=
 lay_disk F d room X ⟨k.toArray⟩ A n c l xs w hS hf hs hn hl ho hb hF hu hfew
set_option maxRecDepth 100000 in
set_option maxHeartbeats 3200000 in
theorem crash_core (F : Nat -> Prop) (d room : Nat) (L : DiskL) (z : Int) (draw : Nat) (w : World) (hD : DiskAt w F d room L) (hz : max z 0 = (draw : Int)) :
  Calls Tryz.prog 26 #[.pointer (some ⟨d, 0, none⟩), .int .i64 z] w fun e w' => e = .returned (.tuple #[]) /\ ∃ F', DiskAt w' F' d room (crashD draw L) /\ Next F w F' w' := by
 obtain ⟨hrise, hlen, hul, hr, hby, hkl⟩ := hD.facts;clear hul hby;have HL := hide (list_any F d room L w hD);have HD := hide hD;have HR := hide hrise;have HK := hide hkl;have HZ := hide hz;obtain ⟨ks, hks⟩ : ∃ ks, ks = L.map (·.1) := ⟨_, rfl⟩;rw [<- hks] at HL;obtain ⟨N, hN⟩ : ∃ N, N = ks.length := ⟨_, rfl⟩;have hNL : N = L.length := by rw [hN, hks, List.length_map]
 rw [<- hNL] at hlen;have HKS := hide hks;have HN := hide hN;have HNL := hide hNL;clear hD hrise hkl hN hks hNL;go_enter Tryz.func26, Tryz.ntmps26;go_wp2_with fail
 refine HL.out.mono ?_;rintro e w1 ⟨v, rfl, o1, k1⟩;obtain ⟨A1, c1, rfl, hc1, hc2, hcell1⟩ := o1.form;clear hcell1;rw [<- HN.out] at o1 hc1 ⊢;have D1 := hide (HD.out.below k1);have N1 := hide (Next.of_below F k1);have O1 : Hid (OwnS w1 w.heap.size (.slice A1 N c1) ks /\ ∀ g, (Value.slice A1 N c1).ownBlock = some g -> ¬ F g) := ⟨o1, fun g hg hf => by
  have h1 := (o1.lt g hg).1;have h2 := HD.out.low g hf;omega⟩
 clear o1 k1 HL;go_wp2_with fail
 go_loopw [13] (fun i wr => ∃ (j : Nat) (F' : Nat -> Prop), j <= N /\ i = .int .i64 (j : Int) /\ Hid (DiskAt wr F' d room (crashTo draw j L)) /\ Hid (Next F w F' wr) /\ Hid (OwnS wr w.heap.size (.slice A1 N c1) ks /\ ∀ g, (Value.slice A1 N c1).ownBlock = some g -> ¬ F' g)) (fun i _ => N - (intOf i).toNat)
 case atStart => exact ⟨0, F, Nat.zero_le _, rfl, by unfold Hid; rw [crashTo_zero]; exact D1.out, N1, O1⟩
 case round =>
  obtain ⟨j, F', hj, rfl, hDj, hNj, hOj⟩ := hrel;by_cases hlt : j < N
  ·obtain ⟨A2, c2, e2, _, _, hcell⟩ := hOj.out.1.form;have hjL : j < L.length := by rw [<- HNL.out]; exact hlt
   obtain ⟨g, rfl, hg1, hg2, hck⟩ := hcell j (by rw [<- HN.out]; exact hlt);obtain ⟨rfl, e2a, rfl⟩ : A1 = some ⟨g, 0, none⟩ /\ N = ks.length /\ c1 = c2 := by cases e2; exact ⟨rfl, rfl, rfl⟩
   clear e2 e2a;obtain ⟨k, hk⟩ : ∃ k, k = ks.getD j [] := ⟨_, rfl⟩;have hkL : L[j].1 = k := by rw [hk, HKS.out]; simp [hjL]
   rw [<- hk] at hck;obtain ⟨xs, l, hxl⟩ : ∃ xs l, L[j].2 = (xs, l) := ⟨_, _, rfl⟩;have hget := crashTo_get draw j L HR.out hjL;have hstep := crashTo_step draw j L HR.out hjL;rw [hkL, hxl] at hget hstep;obtain ⟨X, A, c, hX, hS, hf, hx, ho, hb, hl, hn30⟩ := disk_found hDj.out hget;obtain ⟨n, hn⟩ : ∃ n, n = xs.length := ⟨_, rfl⟩;rw [<- hn] at hx ho hl hn30;have hk64 : k.length <= 64 := hS.names _ (getK_mem hx);obtain ⟨mv, cm, hlook⟩ := lookL hS (by unfold maxLen; omega) hx;have hlook : (Instr.lookup 74 (.map mv) (encStr k) false).run Tryz.prog wr = .ok (.agg #[.slice A n c, .int .i64 (l : Int)]) wr := hlook;have hdl : d < wr.heap.size := hS.low d hS.own;have HX := hide hX;have HS := hide hS;have HF := hide hf;have HGX := hide hx;have HO := hide ho;have HB := hide hb;have HNX := hide hn;have HST := hide hstep;have HLK := hide hlook;clear hk hkL hxl hget hstep hX hS hf hx ho hb hn hlook hcell;go_wp2_with (at_lookup; refine halt ?_)
   refine ⟨?_⟩;refine wpList_lookup_run rfl _ _ _ _ rfl _ _ _ rfl rfl HLK.out ?_;obtain ⟨q1, hq1⟩ : ∃ q1, q1 = draw % (n - l + 1) := ⟨_, rfl⟩;obtain ⟨q2, hq2⟩ : ∃ q2, q2 = (q1 + j) % (n - l + 1) := ⟨_, rfl⟩;have hu1 : q1 < n - l + 1 := by rw [hq1]; exact Nat.mod_lt _ (by omega)
   have hu2 : q2 < n - l + 1 := by rw [hq2]; exact Nat.mod_lt _ (by omega)
   have eu : (n : Int) - (l : Int) + 1 = ((n - l + 1 : Nat) : Int) := by omega
   have r1 : (draw : Int).tmod ((n : Int) - (l : Int) + 1) = (q1 : Int) := by
    rw [eu, hq1, Int.tmod_eq_emod_of_nonneg (by omega)];exact (Int.natCast_emod _ _).symm
   have r2 : ((q1 : Int) + (j : Int)).tmod ((n : Int) - (l : Int) + 1) = (q2 : Int) := by
    rw [eu, hq2, Int.tmod_eq_emod_of_nonneg (by omega)];have e : (q1 : Int) + (j : Int) = ((q1 + j : Nat) : Int) := by omega
    rw [e];exact (Int.natCast_emod _ _).symm
   have hnz : ¬ ((n : Int) - (l : Int) + 1 = 0) := by omega
   obtain ⟨m, hm⟩ : ∃ m, m = l + q2 := ⟨_, rfl⟩;have HKK : Hid ((l : Int) + (q2 : Int) = (m : Int)) := by unfold Hid; omega
   have hmn : m <= n := by omega
   have hlm : l <= m := by omega
   have C1 : Hid (crash1 draw j (xs, l) = (xs.take m, m)) := by
    unfold Hid crash1;simp only;rw [<- HNX.out, <- hq1, <- hq2, <- hm]
   have hb1 : q1 <= 1073741824 := by omega
   have hb2 : q2 <= 1073741824 := by omega
   have hjb : j <= 256 := by omega
   have hw1 : IntKind.i64.wrap ((q1 : Int) + (j : Int)) = (q1 : Int) + (j : Int) := by rw [IntKind.wrap_i64]; omega
   have hw2 : IntKind.i64.wrap ((l : Int) + (q2 : Int)) = (l : Int) + (q2 : Int) := by rw [IntKind.wrap_i64]; omega
   clear hq1 hq2 eu hm;go_wp2_with fail
   have ka := below_alloc wr (.cells #[.slice A n c, .int .i64 (l : Int)] 82);have b2 := Blk.new (B := 0) wr 82 #[.slice A n c, .int .i64 (l : Int)] (Nat.zero_le _);have es : (wr.alloc (.cells #[.slice A n c, .int .i64 (l : Int)] 82)).heap.size = wr.heap.size + 1 := by simp
   obtain ⟨W2, hW2⟩ : ∃ W2, W2 = wr.alloc (.cells #[.slice A n c, .int .i64 (l : Int)] 82) := ⟨_, rfl⟩;rw [<- hW2] at ka b2 es ⊢;have f0 : W2.cell? ⟨wr.heap.size, 0, none⟩ = some (.slice A n c) := b2.cell 0;have f1 : W2.cell? ⟨wr.heap.size, 1, none⟩ = some (.int .i64 (l : Int)) := b2.cell 1;have B2 := hide b2;have KA := hide ka;have ES := hide es;have IO := hide (HO.out.isB.keep ka);clear ka b2 es hW2
   go_cut [] from 31 to 51 (fun wc => Hid (∃ A5 c5, Own wc W2.heap.size (.slice A5 m c5) (xs.take m) /\ Blk wc 0 82 wr.heap.size [.slice A5 m c5, .int .i64 (l : Int)] /\ W2.grownBy wc (some wr.heap.size)))
   case first =>
    go_region_with (go_at_call 99; rw [HKK.out]; refine (cutF_any A n c l m xs _ (by exact IO.out) HNX.out.symm (by omega) (by omega)).mono ?_; rintro e w5 ⟨A5, c5, rfl, o5, k5⟩; have K5 : Below W2.heap.size W2 w5 := ⟨k5.os, k5.tape, k5.output, k5.size, k5.block⟩; have B5 := B2.out.keep K5; have f05 : w5.cell? ⟨wr.heap.size, 0, none⟩ = some (.slice A n c) := B5.cell 0; have f15 : w5.cell? ⟨wr.heap.size, 1, none⟩ = some (.int .i64 (l : Int)) := B5.cell 1; have z0 := B5.frozen 0; have z1 := B5.frozen 1)
    all_goals
     have B7 := (B5.stored 0 (.slice A5 m c5)).stored 1 (.int .i64 (l : Int));have g7 : w5.grownBy ((w5.setCell ⟨wr.heap.size, 0, none⟩ (.slice A5 m c5)).setCell ⟨wr.heap.size, 1, none⟩ (.int .i64 (l : Int))) (some wr.heap.size) := (grown_set w5 _ 0 _).trans (grown_set _ _ 1 _);have o5' : Own w5 W2.heap.size (.slice A5 m c5) (xs.take m) := o5;have o7 : Own ((w5.setCell ⟨wr.heap.size, 0, none⟩ (.slice A5 m c5)).setCell ⟨wr.heap.size, 1, none⟩ (.int .i64 (l : Int))) W2.heap.size (.slice A5 m c5) (xs.take m) := by
      refine o5'.turn (Turn.of_grown g7) ?_;intro i hi e;have e : i = wr.heap.size := by simpa using e
      have h1 := (o5'.lt i hi).1;have h2 := ES.out;omega
     have G7 : W2.grownBy ((w5.setCell ⟨wr.heap.size, 0, none⟩ (.slice A5 m c5)).setCell ⟨wr.heap.size, 1, none⟩ (.int .i64 (l : Int))) (some wr.heap.size) := World.grownBy.trans ⟨K5.os, K5.tape, K5.output, K5.size, fun i hi _ => K5.block i hi⟩ g7;have KE := hide (And.intro o7 (And.intro B7 G7));clear B7 g7 o7 G7 o5 o5' k5 f05 f15 z0 z1;go_wp2_with fail
     go_meet
     case rel => exact ⟨A5, c5, KE.out.1, KE.out.2.1, KE.out.2.2⟩
   case rest =>
    clear f0 f1 r1 r2 hw1 hw2;obtain ⟨A5, c5, oc, bc, gc⟩ := hcut.out;have kc : Below wr.heap.size wr wc := KA.out.grown gc KA.out.size (fun i e => by cases e; exact Nat.le_refl _);have x0 : wc.cell? ⟨wr.heap.size, 0, none⟩ = some (.slice A5 m c5) := bc.cell 0;have x1 : wc.cell? ⟨wr.heap.size, 1, none⟩ = some (.int .i64 (l : Int)) := bc.cell 1;have y1 := bc.frozen 1;have g8 := grown_set wc wr.heap.size 1 (.int .i64 (m : Int));have k8 : Below wr.heap.size wr (wc.setCell ⟨wr.heap.size, 1, none⟩ (.int .i64 (m : Int))) := kc.grown g8 kc.size (fun i e => by cases e; exact Nat.le_refl _);have o8 : Own (wc.setCell ⟨wr.heap.size, 1, none⟩ (.int .i64 (m : Int))) W2.heap.size (.slice A5 m c5) (xs.take m) := oc.turn (Turn.of_grown g8) (fun i hi e => by
     have e : i = wr.heap.size := by simpa using e
     have h1 := (oc.lt i hi).1;have h2 := ES.out;omega)
    have o8' : Own (wc.setCell ⟨wr.heap.size, 1, none⟩ (.int .i64 (m : Int))) wr.heap.size (.slice A5 m c5) (xs.take m) := o8.down KA.out.size;have OO := hide (off_others (k := k) HF.out HS.out.low o8');have S8 := hide ((HS.out.below k8).more (F' := fun g => F' g \/ (Value.slice A5 m c5).ownBlock = some g) (fun g => .inl) (fun g hg => by
     rcases hg with h | h
     ·exact Nat.lt_of_lt_of_le (HS.out.low g h) k8.size
     ·exact (o8.lt g h).2))
    have F8 := hide (((HF.out.turn (S := fun _ => False) (Turn.of_below _ k8) (fun _ _ => id)).sub (fun p (hp : p ∈ delK k X) => (mem_delK.1 hp).1)).u8 (U8.refl _) (F' := fun g => F' g \/ (Value.slice A5 m c5).ownBlock = some g) (fun g => .inl));have HG : Hid (∀ g, (F' g \/ (Value.slice A5 m c5).ownBlock = some g) -> F' g \/ wr.heap.size <= g) := fun g hg => by
     rcases hg with h | h
     ·exact .inl h
     ·exact .inr (o8'.lt g h).1
    have O8 := hide (o8.down (Nat.zero_le _));have K8 := hide k8;have HT : Hid ((xs.take m).length = m) := by unfold Hid; rw [List.length_take, <- HNX.out]; omega
    have HU : Hid (sumK filL (delK k X) + m <= room) := by
     have h1 := sumK_del filL k HS.out.rise;rw [HGX.out] at h1;have h4 : ((some ((Value.slice A n c, xs, l) : Fil)).map filL).getD 0 = xs.length := rfl;rw [h4, <- HNX.out] at h1;have h2 := HS.out.used;unfold Hid;omega
    clear oc bc gc kc g8 k8 o8 o8' hcut;go_wp2_with fail
    clear x0 x1 y1;refine (lay_name _ d room X k A5 m c5 m (xs.take m) _ S8.out F8.out hk64 HT.out (Nat.le_refl _) O8.out (fun x hx => HB.out x (List.mem_of_mem_take hx)) (fun g hg => ⟨.inr hg, OO.out g hg⟩) HU.out (.inl (by rw [HGX.out]; rfl))).mono ?_;rintro e w9 ⟨rfl, F9, d9, n9⟩;have n9' : Next F' wr F9 w9 := Next.of_more (Turn.of_below F' K8.out) n9 HG.out;rw [<- HX.out, <- C1.out, HST.out] at d9;have o9 : OwnS w9 w.heap.size (.slice (some ⟨g, 0, none⟩) N c1) ks := hOj.out.1.turn n9'.turn (fun i hi hf => hOj.out.2 i hi hf);have D9 := hide d9;have N9 := hide (hNj.out.trans n9');have O9 : Hid (OwnS w9 w.heap.size (.slice (some ⟨g, 0, none⟩) N c1) ks /\ ∀ i, (Value.slice (some ⟨g, 0, none⟩) N c1).ownBlock = some i -> ¬ F9 i) := ⟨o9, fun i hi hf => by
     rcases n9'.foot i hf with h | h
     ·exact hOj.out.2 i hi h
     ·have := (hOj.out.1.lt i hi).2;omega⟩
    clear d9 n9 n9' o9;go_wp2_with fail
    go_roundw
    case rel => exact ⟨j + 1, F9, by omega, by go_num, D9, N9, O9⟩
    case measure => simp [intOf]; omega
  ·obtain rfl : j = N := by omega
   have d9 := hDj.out;rw [HNL.out, crashTo_all] at d9;have KE := hide (And.intro d9 hNj.out);clear d9;go_wp2_with fail
   go_end0;exact ⟨rfl, F', KE.out⟩
theorem crash_any (F : Nat -> Prop) (d room : Nat) (L : DiskL) (z : Int) (w : World) (hD : DiskAt w F d room L) :
  Calls Tryz.prog 26 #[.pointer (some ⟨d, 0, none⟩), .int .i64 z] w fun e w' => e = .returned (.tuple #[]) /\ ∃ F', DiskAt w' F' d room (crashD z.toNat L) /\ Next F w F' w' :=
 crash_core F d room L z z.toNat w hD (by omega)
end Go.Proofs.YtbmhfnhfhdgdgaaGreat
namespace Go.Proofs.YtbmhfnhfhdgdgaaGreat
open Go.RowKit Go.Maps
section
variable (F : Nat -> Prop) (d room : Nat) (L : DiskL) (s : ByteArray) (w : World) (hD : DiskAt w F d room L) (hs : s.size <= 1099511627776)
include hD hs
theorem sync_any : Calls Tryz.prog 98 #[.pointer (some ⟨d, 0, none⟩), .string s] w fun e w' => e = .returned (.int .i64 ((syncL s.data.toList L).2 : Nat)) /\ ∃ F', DiskAt w' F' d room (syncL s.data.toList L).1 /\ Next F w F' w' := by
 unfold syncL;rcases hg : getK s.data.toList L with _ | ⟨xs, l⟩
 ·refine (sync_none F d room L s w hD hs hg).mono ?_;rintro e w' ⟨rfl, k⟩;exact ⟨rfl, F, hD.below k, Next.of_below F k⟩
 ·exact sync_some F d room L s xs l w hD hs hg
theorem remove_any : Calls Tryz.prog 64 #[.pointer (some ⟨d, 0, none⟩), .string s] w fun e w' => e = .returned (.int .i64 ((remL s.data.toList L).2 : Nat)) /\ ∃ F', DiskAt w' F' d room (remL s.data.toList L).1 /\ Next F w F' w' := by
 unfold remL;rcases hg : getK s.data.toList L with _ | a
 ·refine (remove_none F d room L s w hD hs hg).mono ?_;rintro e w' ⟨rfl, k⟩;exact ⟨rfl, F, hD.below k, Next.of_below F k⟩
 ·refine (remove_some F d room L s a w hD hs hg).mono ?_;rintro e w' ⟨rfl, h, k⟩;exact ⟨rfl, F, h, k⟩
theorem cutD_any (z : Int) : Calls Tryz.prog 52 #[.pointer (some ⟨d, 0, none⟩), .string s, .int .i64 z] w fun e w' => e = .returned (.int .i64 ((cutL s.data.toList z L).2 : Nat)) /\ ∃ F', DiskAt w' F' d room (cutL s.data.toList z L).1 /\ Next F w F' w' := by
 unfold cutL;rcases hg : getK s.data.toList L with _ | ⟨xs, l⟩
 ·refine (cutD_none F d room L s z w hD hs hg).mono ?_;rintro e w' ⟨rfl, k⟩;exact ⟨rfl, F, hD.below k, Next.of_below F k⟩
 ·dsimp only;by_cases hz : z < 0 \/ (xs.length : Int) < z
  ·rw [if_pos hz];refine (cutD_arg F d room L s xs l z w hD hs hg hz).mono ?_;rintro e w' ⟨rfl, k⟩;exact ⟨rfl, F, hD.below k, Next.of_below F k⟩
  ·rw [if_neg hz];obtain ⟨k, rfl⟩ : ∃ k : Nat, z = (k : Int) := ⟨z.toNat, by omega⟩;exact cutD_ok F d room L s xs l k w hD hs hg (by omega)
theorem read_any : Calls Tryz.prog 56 #[.pointer (some ⟨d, 0, none⟩), .string s] w fun e w' => ∃ v, e = .returned (.tuple #[v, .int .i64 ((readL s.data.toList L).2 : Nat)]) /\ Own w' w.heap.size v (readL s.data.toList L).1 /\ Below w.heap.size w w' := by
 unfold readL;rcases hg : getK s.data.toList L with _ | ⟨xs, l⟩
 ·refine (read_none F d room L s w hD hs hg).mono ?_;rintro e w' ⟨rfl, k⟩;exact ⟨_, rfl, World.ownsRow_nil _ _ _ _, k⟩
 ·exact read_some F d room L s xs l w hD hs hg
end
end Go.Proofs.YtbmhfnhfhdgdgaaGreat
namespace Go.Proofs.YtbmhfnhfhdgdgaaGreat
open Go.RowKit
variable {w : World} {B n : Nat}
theorem str_at (k : Str) : ∃ s : ByteArray, encStr k = .string s /\ s.data.toList = k := ⟨⟨k.toArray⟩, rfl, by simp⟩
theorem OwnS.rows {v : Value} {ks : List Str} (h : OwnS w B v ks) (hn : ks.length = n) : ∃ A c, v = .slice A n c /\ n <= c /\ c <= 9223372036854775807 /\ ∀ i, i < n -> ∃ g, A = some ⟨g, 0, none⟩ /\ w.cell? ⟨g, i, none⟩ = some (encStr (ks.getD i [])) := by
 subst hn;obtain ⟨A, c, e, h1, h2, h3⟩ := h.form;exact ⟨A, c, e, h1, h2, fun i hi => by
  obtain ⟨g, e, _, _, q⟩ := h3 i hi;exact ⟨g, e, q⟩⟩
end Go.Proofs.YtbmhfnhfhdgdgaaGreat
namespace Go.Proofs.YtbmhfnhfhdgdgaaGreat
open Go.RowKit Go.Maps
variable {w w' : World} {G : Nat -> Prop} {L : DiskL} {B room p : Nat}
def cellsF : List (Str × Fil) -> List Value
 | [] => []
 | p :: r => encStr p.1 :: p.2.1 :: .int .i64 (p.2.2.2 : Int) :: cellsF r
theorem cellsF_length : ∀ X : List (Str × Fil), (cellsF X).length = X.length * 3
 | [] => rfl
 | p :: r => by simp only [cellsF, List.length_cons, cellsF_length r]; omega
theorem cellsF_append : ∀ X Y : List (Str × Fil), cellsF (X ++ Y) = cellsF X ++ cellsF Y
 | [], _ => rfl
 | p :: r, Y => by simp [cellsF, cellsF_append r Y]
theorem cellsF_at : ∀ (X : List (Str × Fil)) (i : Nat) (h : i < X.length), (cellsF X)[i * 3]? = some (encStr X[i].1) /\ (cellsF X)[i * 3 + 1]? = some X[i].2.1 /\ (cellsF X)[i * 3 + 2]? = some (.int .i64 (X[i].2.2.2 : Int))
 | p :: r, 0, _ => by simp [cellsF]
 | p :: r, i + 1, h => by
  have h' : i < r.length := by simpa using h
  obtain ⟨h1, h2, h3⟩ := cellsF_at r i h';have e1 : (i + 1) * 3 = i * 3 + 3 := by omega
  have e2 : (i + 1) * 3 + 1 = i * 3 + 1 + 3 := by omega
  have e3 : (i + 1) * 3 + 2 = i * 3 + 2 + 3 := by omega
  rw [e1];refine ⟨?_, ?_, ?_⟩
  ·simpa [cellsF] using h1
  ·show (cellsF (p :: r))[i * 3 + 1 + 3]? = _
   simpa [cellsF] using h2
  ·show (cellsF (p :: r))[i * 3 + 2 + 3]? = _
   simpa [cellsF] using h3
theorem cellsF_set1 : ∀ (X : List (Str × Fil)) (i : Nat) (h : i < X.length) (v : Value) (xs : List Nat), (cellsF X).set (i * 3 + 1) v = cellsF (X.set i (X[i].1, (v, xs, X[i].2.2.2)))
 | p :: r, 0, _, v, xs => by simp [cellsF]
 | p :: r, i + 1, h, v, xs => by
  have h' : i < r.length := by simpa using h
  have ih := cellsF_set1 r i h' v xs;have e2 : (i + 1) * 3 + 1 = i * 3 + 1 + 3 := by omega
  rw [e2];simp only [cellsF, List.set_cons_succ, ih, List.getElem_cons_succ]
theorem cellsF_set2 : ∀ (X : List (Str × Fil)) (i : Nat) (h : i < X.length) (l : Nat), (cellsF X).set (i * 3 + 2) (.int .i64 (l : Int)) = cellsF (X.set i (X[i].1, (X[i].2.1, X[i].2.2.1, l)))
 | p :: r, 0, _, l => by simp [cellsF]
 | p :: r, i + 1, h, l => by
  have h' : i < r.length := by simpa using h
  have ih := cellsF_set2 r i h' l;have e2 : (i + 1) * 3 + 2 = i * 3 + 2 + 3 := by omega
  rw [e2];simp only [cellsF, List.set_cons_succ, ih, List.getElem_cons_succ]
def OwnF (w : World) (B : Nat) (v : Value) (X : List (Str × Fil)) : Prop := w.ownsRow B 91 3 v X.length (cellsF X)
structure RShell (w : World) (G : Nat -> Prop) (p room : Nat) (v : Value) (X : List (Str × Fil)) : Prop where
 cells : Blk w 0 79 p [.int .i64 (room : Int), v]
 row : OwnF w 0 v X
 mine : ∀ g, v.ownBlock = some g -> G g
 own : G p
 low : ∀ k, G k -> k < w.heap.size
 each : ∀ q ∈ X, Own w 0 q.2.1 q.2.2.1 /\ (∀ g, q.2.1.ownBlock = some g -> G g) /\ ∀ x ∈ q.2.2.1, x < 256
def RAt (w : World) (G : Nat -> Prop) (p room : Nat) (L : DiskL) : Prop := ∃ v X, L = absX X /\ RShell w G p room v X
theorem rise_abs {X : List (Str × Fil)} (h : Rise (absX X)) : Rise X := by
 unfold Rise absX mapK at h;rw [List.pairwise_map] at h;exact h
theorem OwnF.turn {S : Nat -> Prop} {v : Value} {X : List (Str × Fil)} (h : OwnF w B v X) (t : Turn S w w') (ho : Off S v) : OwnF w' B v X := by
 unfold OwnF at h ⊢;refine ⟨h.1, ?_⟩;rcases h.2 with hn | ⟨g, cap, cur, hv, h1, h2, r⟩
 ·exact .inl hn
 ·refine .inr ⟨g, cap, cur, hv, h1, ?_, r⟩;rw [t.block g (heap_lt h2) (ho g (by rw [hv]; rfl))];exact h2
theorem RShell.turn {S : Nat -> Prop} {v : Value} {X : List (Str × Fil)} (h : RShell w G p room v X) (t : Turn S w w') (hS : ∀ g, G g -> ¬ S g) : RShell w' G p room v X :=
 ⟨h.cells.turn t (hS p h.own), h.row.turn t (fun g hg => hS g (h.mine g hg)), h.mine, h.own, fun k hk => Nat.lt_of_lt_of_le (h.low k hk) t.size,
  fun q hq => ⟨(h.each q hq).1.turn t (fun g hg => hS g ((h.each q hq).2.1 g hg)), (h.each q hq).2⟩⟩
theorem RShell.below {v : Value} {X : List (Str × Fil)} (h : RShell w G p room v X) (k : Below w.heap.size w w') : RShell w' G p room v X := h.turn (S := fun _ => False) (Turn.of_below _ k) (fun _ _ => id)
theorem RAt.turn {S : Nat -> Prop} (h : RAt w G p room L) (t : Turn S w w') (hS : ∀ g, G g -> ¬ S g) : RAt w' G p room L := by
 obtain ⟨v, X, e, h⟩ := h;exact ⟨v, X, e, h.turn t hS⟩
theorem RAt.below (h : RAt w G p room L) (k : Below w.heap.size w w') : RAt w' G p room L := h.turn (S := fun _ => False) (Turn.of_below _ k) (fun _ _ => id)
theorem RAt.low (h : RAt w G p room L) : ∀ k, G k -> k < w.heap.size := by
 obtain ⟨v, X, e, h⟩ := h;exact h.low
theorem RShell.form {v : Value} {X : List (Str × Fil)} (h : RShell w G p room v X) : ∃ A c, v = .slice A X.length c /\ X.length <= c /\ c <= 9223372036854775807 /\ (A = none -> c = 0) /\
  ∀ i (hi : i < X.length), ∃ g, A = some ⟨g, 0, none⟩ /\ G g /\ g < w.heap.size /\ w.cell? ⟨g, i * 3, none⟩ = some (encStr X[i].1) /\ w.cell? ⟨g, i * 3 + 1, none⟩ = some X[i].2.1 /\ w.cell? ⟨g, i * 3 + 2, none⟩ = some (.int .i64 (X[i].2.2.2 : Int)) /\ ∀ j, w.frozen? ⟨g, j, none⟩ = false := by
 have hr := h.row;unfold OwnF at hr;rcases hr.2 with ⟨rfl, hn⟩ | ⟨g, cap, cur, rfl, hb, hg, h1, h2, _⟩
 ·exact ⟨none, 0, by rw [hn], by omega, by decide, fun _ => rfl, fun i hi => by omega⟩
 ·refine ⟨_, cap, rfl, h1, by unfold maxLen at h2; omega, (fun e => by cases e), fun i hi => ?_⟩;have hl := cellsF_length X;obtain ⟨q0, q1, q2⟩ := cellsF_at X i hi;exact ⟨g, rfl, h.mine g rfl, heap_lt hg, by rw [World.ownsRow.cellAt hr _ (by omega)]; exact q0, by rw [World.ownsRow.cellAt hr _ (by omega)]; exact q1, by rw [World.ownsRow.cellAt hr _ (by omega)]; exact q2, fun j => World.ownsRow.frozenAt hr j⟩
def posK {α : Type} (k : Str) (l : List (Str × α)) : Nat := (l.takeWhile fun p => bytesBefore p.1 k).length
theorem pos_unique {α : Type} {k : Str} : ∀ {l : List (Str × α)} {j : Nat}, j <= l.length -> (∀ i (h : i < l.length), i < j -> bytesBefore l[i].1 k = true) -> (∀ h : j < l.length, bytesBefore l[j].1 k = false) -> j = posK k l
 | [], j, h, _, _ => by simp at h; simp [h, posK]
 | y :: r, 0, _, _, h2 => by
  have := h2 (by simp);simp only [List.getElem_cons_zero] at this;simp [posK, this]
 | y :: r, j + 1, h, h1, h2 => by
  have h0 := h1 0 (by simp) (by omega);simp only [List.getElem_cons_zero] at h0;have ih := pos_unique (k := k) (l := r) (j := j) (by simpa using h) (fun i hi hij => by
   have := h1 (i + 1) (by simpa using hi) (by omega);simpa using this) (fun hj => by
   have := h2 (by simpa using hj);simpa using this)
  unfold posK at ih ⊢;rw [List.takeWhile_cons, h0];simp only [if_true, List.length_cons];omega
theorem less_is (k : Str) (s : ByteArray) : Op.bytesLess k s.toList = bytesBefore k s.data.toList := by
 rw [Lib.toList_data];generalize s.data.toList = y
 induction k generalizing y with
 | nil => cases y <;> rfl
 | cons u x ih =>
  cases y with
  | nil => rfl
  | cons v y =>
   simp only [Op.bytesLess, bytesBefore, ih]
theorem same_is (k : List UInt8) (s : ByteArray) : (k == s.toList) = decide (k = s.data.toList) := by
 rw [Lib.toList_data];by_cases h : k = s.data.toList
 ·rw [decide_eq_true h, beq_iff_eq];exact h
 ·rw [decide_eq_false h, beq_eq_false_iff_ne];exact h
theorem pos_some {α : Type} {X : List (Str × α)} (hr : Rise X) {k : Str} {j : Nat} (hj : j < X.length) (hb : ∀ i (h : i < X.length), i < j -> bytesBefore X[i].1 k = true) (hn : bytesBefore X[j].1 k = false) : (getK k X).isSome = decide (X[j].1 = k) := by
 by_cases e : X[j].1 = k
 ·rw [decide_eq_true e, <- e, getK_at hr j hj]
  rfl
 ·rw [decide_eq_false e];rcases hg : getK k X with _ | a
  ·rfl
  ·obtain ⟨m, hm, he⟩ := List.mem_iff_getElem.1 (getK_mem hg);have hk : X[m].1 = k := by rw [he]
   exfalso;rcases Nat.lt_trichotomy m j with h | h | h
   ·have := hb m hm h;rw [hk, WideAt.bytes_irrefl] at this;cases this
   ·subst h;exact e hk
   ·have := List.pairwise_iff_getElem.1 hr j m hj hm h;rw [hk, hn] at this;cases this
theorem pos_none {α : Type} {X : List (Str × α)} {k : Str} (hb : ∀ i (h : i < X.length), bytesBefore X[i].1 k = true) : getK k X = none := by
 rcases hg : getK k X with _ | a
 ·rfl
 ·obtain ⟨m, hm, he⟩ := List.mem_iff_getElem.1 (getK_mem hg);have hk : X[m].1 = k := by rw [he]
  have := hb m hm;rw [hk, WideAt.bytes_irrefl] at this;cases this
end Go.Proofs.YtbmhfnhfhdgdgaaGreat
namespace Go.Proofs.YtbmhfnhfhdgdgaaGreat
open Go.RowKit Go.Maps Go.Sort
theorem rnew_any (room : Nat) (w : World) (_h : room <= 1073741824) :
  Calls Tryz.prog 8 #[.int .i64 (room : Int)] w fun e w' => ∃ p G, e = .returned (.tuple #[.pointer (some ⟨p, 0, none⟩), .int .i64 0]) /\ RAt w' G p room [] /\ (∀ k, G k -> w.heap.size <= k) /\ Below w.heap.size w w' := by
 go_enter Tryz.func8, Tryz.ntmps8;go_wp2_with fail
 go_ret2;refine ⟨w.heap.size, fun k => k = w.heap.size, rfl, ⟨.slice none 0 0, [], rfl, ⟨Blk.new (B := 0) w _ _ (Nat.zero_le _), World.ownsRow_nil _ _ _ _, (fun g hg => by simp [Value.ownBlock] at hg), rfl, ?_, (fun q hq => by cases hq)⟩⟩, fun k hk => by omega, below_alloc _ _⟩;rintro k rfl;simp
theorem rnew_bad (z : Int) (w : World) (h : z < 0 \/ 1073741824 < z) :
  Calls Tryz.prog 8 #[.int .i64 z] w fun e w' => e = .returned (.tuple #[.pointer none, .int .i64 1]) /\ w = w' := by
 rcases h with h | h
 ·go_enter Tryz.func8, Tryz.ntmps8;go_wp2_with fail
  go_ret2;exact ⟨rfl, rfl⟩
 ·have h0 : ¬ z < 0 := by omega
  go_enter Tryz.func8, Tryz.ntmps8;go_wp2_with fail
  go_ret2;exact ⟨rfl, rfl⟩
theorem rIsName_any (s : ByteArray) (w : World) (_hs : s.size <= 9223372036854775807) :
  Calls Tryz.prog 31 #[.string s] w fun e w' => e = .returned (.bool (decide (1 <= s.size /\ s.size <= 64))) /\ w = w' := by
 by_cases h1 : 1 <= s.size
 ·have e : decide (1 <= s.size /\ s.size <= 64) = decide ((s.size : Int) <= 64) := by
   rw [decide_eq_decide];omega
  rw [e];clear e;go_enter Tryz.func31, Tryz.ntmps31;go_wp2
  go_ret;exact ⟨rfl, rfl⟩
 ·have e : decide (1 <= s.size /\ s.size <= 64) = false := decide_eq_false (fun h => h1 h.1);rw [e];clear e;go_enter Tryz.func31, Tryz.ntmps31;go_wp2
  go_ret;exact ⟨rfl, rfl⟩
theorem pos_le {α : Type} (k : Str) (l : List (Str × α)) : posK k l <= l.length := by
 unfold posK;exact List.Sublist.length_le (List.takeWhile_sublist _)
set_option maxRecDepth 100000 in
set_option maxHeartbeats 1600000 in
theorem spot_any (G : Nat -> Prop) (p room : Nat) (v : Value) (X : List (Str × Fil)) (s : ByteArray) (w : World) (h : RShell w G p room v X) (hrise : Rise X) :
  Calls Tryz.prog 32 #[.pointer (some ⟨p, 0, none⟩), .string s] w fun e w' => e = .returned (.tuple #[.int .i64 ((posK s.data.toList X : Nat) : Int), .bool (getK s.data.toList X).isSome]) /\ ∃ d, w' = w.drewN d := by
 obtain ⟨A, c, rfl, hlc, hc63, _, hcell⟩ := h.form;have c1 : w.cell? ⟨p, 1, none⟩ = some (.slice A X.length c) := h.cells.cell 1;have HX := hide h;have HRI := hide hrise;obtain ⟨N, hN⟩ : ∃ N, N = X.length := ⟨_, rfl⟩;rw [<- hN] at c1 hlc;have HN := hide hN;have HC := hide hcell;clear h hcell hN hrise;go_enter Tryz.func32, Tryz.ntmps32;go_wp2_with fail
 go_loopw [6] (fun i wr => ∃ j : Nat, j <= N /\ i = .int .i64 (j : Int) /\ Hid (∀ i (h : i < X.length), i < j -> bytesBefore X[i].1 s.data.toList = true) /\ wr = w) (fun i _ => N - (intOf i).toNat)
 case atStart => exact ⟨0, Nat.zero_le _, rfl, (fun i h h0 => by omega), rfl⟩
 case round =>
  obtain ⟨j, hj, rfl, hb, rfl⟩ := hrel;by_cases hlt : j < N
  ·have hjX : j < X.length := by rw [<- HN.out]; exact hlt
   obtain ⟨g, rfl, _, hgl, q0, q1, q2, _⟩ := HC.out j hjX;obtain ⟨k, hk⟩ : ∃ k, k = X[j].1 := ⟨_, rfl⟩;rw [<- hk] at q0;have hless := less_is k s;have hsame := same_is k s;have hpos := pos_some HRI.out hjX hb.out;have huni := pos_unique (k := s.data.toList) (by omega : j <= X.length) hb.out;rw [<- hk] at hpos;have hkn := hk;clear hk q1 q2;rcases hbb : bytesBefore k s.data.toList with _ | _
   ·have hl : Op.bytesLess k s.toList = false := hless.trans hbb;have HI : Hid ((getK s.data.toList X).isSome = decide (k = s.data.toList)) := hpos hbb;have HJ : Hid (j = posK s.data.toList X) := huni (fun _ => by rw [<- hkn]; exact hbb);have hq : (k == s.toList) = true /\ k = s.data.toList \/ (k == s.toList) = false /\ ¬ k = s.data.toList := by
     by_cases e : k = s.data.toList
     ·exact .inl ⟨by rw [hsame]; exact decide_eq_true e, e⟩
     ·exact .inr ⟨by rw [hsame]; exact decide_eq_false e, e⟩
    clear hless hsame hpos huni hkn hbb;rcases hq with ⟨hq, hke⟩ | ⟨hq, hke⟩
    all_goals
     have HKE := hide hke;clear hke;go_wp2_with fail
     go_region
     go_wp2_with fail
     go_ret2;refine ⟨?_, 1, rfl⟩;rw [HI.out, <- HJ.out]
     first
      | (rw [decide_eq_true HKE.out]; rfl)
      | (rw [decide_eq_false HKE.out]; rfl)
   ·have hl : Op.bytesLess k s.toList = true := hless.trans hbb;have HB : Hid (∀ i (h : i < X.length), i < j + 1 -> bytesBefore X[i].1 s.data.toList = true) := fun i h hij => by
     by_cases e : i = j
     ·subst e;rw [<- hkn];exact hbb
     ·exact hb.out i h (by omega)
    clear hless hsame hpos huni hkn hbb;go_wp2_with fail
    go_roundw
    case rel => exact ⟨j + 1, by omega, by go_num, HB, trivial⟩
    case measure => simp [intOf]; omega
  ·obtain rfl : j = N := by omega
   have hall : ∀ i (h : i < X.length), bytesBefore X[i].1 s.data.toList = true := fun i h => hb.out i h (by rw [HN.out]; exact h)
   have HI := hide (pos_none hall);have HJ : Hid (j = posK s.data.toList X) := pos_unique (by rw [HN.out]; exact Nat.le_refl _) hb.out (fun h => by rw [HN.out] at h; omega);go_wp2_with fail
   go_region
   go_wp2_with fail
   go_ret2;exact ⟨by rw [HI.out, <- HJ.out]; rfl, 1, rfl⟩
end Go.Proofs.YtbmhfnhfhdgdgaaGreat
namespace Go.Proofs.YtbmhfnhfhdgdgaaGreat
open Go.RowKit Go.Maps
variable {w w' : World} {G G' : Nat -> Prop} {B room p g c : Nat}
theorem Tryz.info_file : (Tryz.prog.info? 91).map (fun i => (i.zero, i.size, i.bytes)) = some (some (.agg #[.string ⟨#[]⟩, .slice none 0 0, .int .i64 0]), 3, 48) := by kernel_rfl
def IsF (w : World) (u : Value) (Y : List (Str × Fil)) : Prop :=
 (∃ A c, u = .slice A Y.length c /\ (A = none -> c = 0 /\ Y = []) /\ ∀ ad, A = some ad -> ∀ j z, (cellsF Y)[j]? = some z -> w.cell? (ad.add j) = some z) /\ ∀ z ∈ cellsF Y, z.oneCell' = true
theorem IsF.below {u : Value} {Y : List (Str × Fil)} (h : IsF w u Y) (k : Below w.heap.size w w') : IsF w' u Y := by
 obtain ⟨⟨A, c, e, h1, h2⟩, h3⟩ := h;exact ⟨⟨A, c, e, h1, fun ad ha j z hz => by
  have := h2 ad ha j z hz;exact (k.cell (cell_lt this)).trans this⟩, h3⟩
theorem one_cells : ∀ {X : List (Str × Fil)}, (∀ q ∈ X, Own w 0 q.2.1 q.2.2.1) -> ∀ z ∈ cellsF X, z.oneCell' = true
 | [], _, z, hz => by cases hz
 | p :: r, h, z, hz => by
  simp only [cellsF, List.mem_cons] at hz;rcases hz with rfl | rfl | rfl | hz
  ·rfl
  ·obtain ⟨A, c, e, _⟩ := (h p (by simp)).form;rw [e]
   rfl
  ·rfl
  ·exact one_cells (fun q hq => h q (by simp [hq])) z hz
theorem cellsF_take (X : List (Str × Fil)) (i : Nat) (hi : i <= X.length) : cellsF (X.take i) = (cellsF X).take (i * 3) := by
 have h := cellsF_append (X.take i) (X.drop i);rw [List.take_append_drop] at h;rw [h, List.take_left'];rw [cellsF_length, List.length_take];congr 1;omega
theorem cellsF_drop (X : List (Str × Fil)) (i : Nat) (hi : i <= X.length) : cellsF (X.drop i) = (cellsF X).drop (i * 3) := by
 have h := cellsF_append (X.take i) (X.drop i);rw [List.take_append_drop] at h;rw [h, List.drop_left'];rw [cellsF_length, List.length_take];congr 1;omega
theorem OwnF.take {A : Option Addr} {X : List (Str × Fil)} (h : OwnF w B (.slice A X.length c) X) (h1 : ∀ q ∈ X, Own w 0 q.2.1 q.2.2.1) (i : Nat) (hi : i <= X.length) : IsF w (.slice A i c) (X.take i) := by
 have hl : (X.take i).length = i := by rw [List.length_take]; omega
 refine ⟨⟨A, c, by rw [hl], fun e => ?_, fun ad e j z hz => ?_⟩, one_cells fun q hq => h1 q (List.mem_of_mem_take hq)⟩
 ·subst e;unfold OwnF at h;rcases h.2 with ⟨e, hn⟩ | ⟨g, cap, cur, e, _⟩
  ·simp only [Value.slice.injEq] at e;have : X = [] := List.eq_nil_of_length_eq_zero hn;exact ⟨e.2.2, by rw [this]; simp⟩
  ·simp at e
 ·subst e;rw [cellsF_take X i hi, List.getElem?_take] at hz;split at hz
  ·unfold OwnF at h;rcases h.2 with ⟨e, hn⟩ | ⟨g, cap, cur, e, _⟩
   ·simp at e
   ·simp only [Value.slice.injEq, Option.some.injEq] at e;obtain ⟨rfl, _, _⟩ := e;rw [add_off, Nat.zero_add];have hj : j < (cellsF X).length := (List.getElem?_eq_some_iff.1 hz).1;rw [World.ownsRow.cellAt h j (by rw [cellsF_length] at hj; exact hj)];exact hz
  ·cases hz
theorem OwnF.drop {A : Option Addr} {X : List (Str × Fil)} (h : OwnF w B (.slice A X.length c) X) (h1 : ∀ q ∈ X, Own w 0 q.2.1 q.2.2.1) (i : Nat) (hi : i <= X.length) (A' : Option Addr) (hA : A = none /\ A' = none \/ ∃ g, A = some ⟨g, 0, none⟩ /\ A' = some ⟨g, if c = i then 0 else i * 3, none⟩) :
  IsF w (.slice A' (X.length - i) (c - i)) (X.drop i) := by
 have hl : (X.drop i).length = X.length - i := List.length_drop;refine ⟨⟨A', c - i, by rw [hl], fun e => ?_, fun ad e j z hz => ?_⟩, one_cells fun q hq => h1 q (List.mem_of_mem_drop hq)⟩
 ·subst e;rcases hA with ⟨rfl, _⟩ | ⟨g, _, e⟩
  ·unfold OwnF at h;rcases h.2 with ⟨e, hn⟩ | ⟨g, cap, cur, e, _⟩
   ·simp only [Value.slice.injEq] at e;have : X = [] := List.eq_nil_of_length_eq_zero hn;exact ⟨by omega, by rw [this]; simp⟩
   ·simp at e
  ·cases e
 ·subst e;rw [cellsF_drop X i hi, List.getElem?_drop] at hz;have hj : i * 3 + j < (cellsF X).length := (List.getElem?_eq_some_iff.1 hz).1;rw [cellsF_length] at hj;rcases hA with ⟨_, e⟩ | ⟨g, rfl, e⟩
  ·cases e
  ·unfold OwnF at h;rcases h.2 with ⟨e', hn⟩ | ⟨g', cap, cur, e', _, _, hcap, _⟩
   ·simp at e'
   ·simp only [Value.slice.injEq, Option.some.injEq, Addr.mk.injEq] at e';obtain ⟨⟨rfl, _, _⟩, hn', hc'⟩ := e';subst hc';rw [if_neg (by omega)] at e;cases e
    rw [add_off, World.ownsRow.cellAt h _ (by omega)];exact hz
theorem isF_one (w : World) (k : Str) (A : Option Addr) (n c : Nat) (xs : List Nat) (l b : Nat) (hb : b = w.heap.size) :
  IsF (w.alloc (.cells #[encStr k, .slice A n c, .int .i64 (l : Int)] 91)) (.slice (some ⟨b, 0, none⟩) 1 1) [(k, (.slice A n c, xs, l))] := by
 subst hb;refine ⟨⟨_, 1, rfl, (fun e => by cases e), fun ad e j z hz => ?_⟩, fun z hz => ?_⟩
 ·cases e
  rw [add_off, Nat.zero_add, cell_of_row _ _ _ _ _ (0, 0) (heap_alloc_new w _)];rw [<- Array.getElem?_toList];exact hz
 ·simp only [cellsF, List.mem_cons] at hz;rcases hz with rfl | rfl | rfl | hz
  ·rfl
  ·rfl
  ·rfl
  ·cases hz
theorem OwnF.empty (w : World) : OwnF (w.alloc (.cells #[] 91)) w.heap.size (.slice (some ⟨w.heap.size, 0, none⟩) 0 0) [] := by
 unfold OwnF;exact ⟨rfl, .inr ⟨_, 0, #[], rfl, Nat.le_refl _, heap_alloc_new w _, Nat.le_refl _, Nat.zero_le _, rfl, rfl⟩⟩
theorem wpList_append_files {ops : Array Oper} {rest : List Oper} {o : Oper} {a : Act} {Q : Exit -> Act -> World -> Prop} (hgd : o.guard = none) (s x : Operand)
  (ho : o.op = .call { callee := .builtin .append, args := #[s, x], argTypes := #[77, 77] })
  (B : Nat) (v : Value) (X : List (Str × Fil)) (hs : a.eval s = v) (hown : OwnF w B v X)
  (u : Value) (Y : List (Str × Fil)) (hx : a.eval x = u) (hr : IsF w u Y)
  (hlen : X.length + Y.length <= 1073741824) (hbase : B <= w.heap.size)
  (h : ∀ v' w', OwnF w' B v' (X ++ Y) -> w.grownBy w' v.ownBlock -> Below B w w' -> (v'.ownBlock = v.ownBlock \/ v'.ownBlock = some w.heap.size) -> wpList Tryz.prog ops Q rest (a.put o.dst v') w') : wpList Tryz.prog ops Q (o :: rest) a w := by
 obtain ⟨i0, hi, hz0, hz1, hz2⟩ := info_parts Tryz.info_file;obtain ⟨⟨A, c, rfl, hn, hc⟩, h1⟩ := hr;have fin : ∀ v' w', w'.ownsRow B 91 3 v' (X.length + Y.length) (cellsF X ++ cellsF Y) -> w.grownBy w' v.ownBlock -> (v'.ownBlock = v.ownBlock \/ v'.ownBlock = some w.heap.size) -> wpList Tryz.prog ops Q rest (a.put o.dst v') w' := by
  intro v' w' hown' hg hl;exact h v' w' (by unfold OwnF; rw [List.length_append, cellsF_append]; exact hown') hg ((Below.refl _ _).grown hg hbase fun k hk => (hown.lt k hk).1) hl
 rcases A with _ | ad
 ·obtain ⟨rfl, rfl⟩ := hn rfl;exact wpList_append_own_none hgd s x _ ho B 91 i0 3 Tryz.underlying77 hi v _ _ hs hown hx (fin v w (by simpa [cellsF, OwnF] using hown) (World.grownBy.refl w _) (.inl rfl))
 ·exact wpList_append_own_at w hgd s x _ ho B 91 i0 _ 3 48 Tryz.underlying77 hi hz0 hz1 hz2 rfl (by decide) v _ _ hs hown ad Y.length c (cellsF Y) hx (cellsF_length Y) (hc ad rfl) h1 (by unfold maxLen; omega) (by omega) hbase (fun v' w' h1 h2 _ h4 => fin v' w' h1 h2 h4)
theorem RShell.newrow {v v' : Value} {X Y : List (Str × Fil)} (h : RShell w G p room v X) (hv : OwnF w 0 v' Y) (hm : ∀ g, v'.ownBlock = some g -> G g)
  (he : ∀ q ∈ Y, Own w 0 q.2.1 q.2.2.1 /\ (∀ g, q.2.1.ownBlock = some g -> G g) /\ ∀ x ∈ q.2.2.1, x < 256) : RShell (w.setCell ⟨p, 1, none⟩ v') G p room v' Y := by
 have gs := grown_set w p 1 v';have hu : U8 w (w.setCell ⟨p, 1, none⟩ v') := u8_set h.cells (by decide);refine ⟨h.cells.stored 1 v', hv.turn (Turn.of_grown gs) (fun g hg e => ?_), hm, h.own, fun k hk => by simpa using h.low k hk, fun q hq => ⟨hu.own (he q hq).1, (he q hq).2⟩⟩;have e : g = p := by simpa using e
 subst e;unfold OwnF at hv;rcases hv.2 with ⟨rfl, _⟩ | ⟨g', cap, cur, rfl, _, hh, _⟩
 ·simp [Value.ownBlock] at hg
 ·have e2 : g' = g := by simpa [Value.ownBlock] using hg
  subst e2;obtain ⟨_, c3, h3, _⟩ := h.cells;rw [hh] at h3;simp only [Option.some.injEq, Obj.cells.injEq] at h3;exact absurd h3.2.1 (by decide)
theorem OwnF.down {B' : Nat} {v : Value} {X : List (Str × Fil)} (h : OwnF w B v X) (hb : B' <= B) : OwnF w B' v X := ownsRow_down h hb
theorem OwnF.lt {v : Value} {X : List (Str × Fil)} (h : OwnF w B v X) : ∀ g, v.ownBlock = some g -> B <= g /\ g < w.heap.size := World.ownsRow.lt h
theorem RShell.more {v : Value} {X : List (Str × Fil)} (h : RShell w G p room v X) (hG : ∀ k, G k -> G' k) (hl : ∀ k, G' k -> k < w.heap.size) : RShell w G' p room v X :=
 ⟨h.cells, h.row, fun g hg => hG g (h.mine g hg), hG p h.own, hl, fun q hq => ⟨(h.each q hq).1, fun g hg => hG g ((h.each q hq).2.1 g hg), (h.each q hq).2.2⟩⟩
section
variable {α : Type}
theorem before_asym {a b : Str} (h : bytesBefore a b = true) : bytesBefore b a = false := by
 rcases hb : bytesBefore b a with _ | _
 ·rfl
 ·have := WideShapes.bytes_trans _ _ _ h hb;rw [WideAt.bytes_irrefl] at this;cases this
theorem posK_cons_lt {k : Str} {y : Str × α} {r : List (Str × α)} (h : bytesBefore y.1 k = true) : posK k (y :: r) = posK k r + 1 := by
 simp [posK, h]
theorem posK_cons_ge {k : Str} {y : Str × α} {r : List (Str × α)} (h : bytesBefore y.1 k = false) : posK k (y :: r) = 0 := by
 simp [posK, h]
theorem ins_at (k : Str) (a : α) : ∀ {l : List (Str × α)}, (∀ p ∈ l, p.1 ≠ k) -> insK (k, a) l = l.take (posK k l) ++ (k, a) :: l.drop (posK k l)
 | [], _ => rfl
 | y :: r, h => by
  have hy := h y (by simp);unfold insK;by_cases hb : bytesBefore k y.1 = true
  ·rw [if_pos hb, posK_cons_ge (before_asym hb)]
   rfl
  ·rw [if_neg hb];have hb' : bytesBefore y.1 k = true := by
    rcases WideAt.bytes_total k y.1 hy.symm with h' | h'
    ·exact absurd h' hb
    ·exact h'
   rw [posK_cons_lt hb', ins_at k a (fun p hp => h p (by simp [hp]))]
   rfl
theorem get_at {k : Str} : ∀ {l : List (Str × α)} {a : α}, Rise l -> getK k l = some a -> l[posK k l]? = some (k, a)
 | [], a, _, h => by cases h
 | y :: r, a, hr, h => by
  obtain ⟨h1, h2⟩ := List.pairwise_cons.1 hr;rcases List.mem_cons.1 (getK_mem h) with e | hm
  ·subst e;rw [posK_cons_ge (show bytesBefore (k, _).1 k = false from WideAt.bytes_irrefl k)]
   rfl
  ·have hb := h1 _ hm;rw [posK_cons_lt hb, List.getElem?_cons_succ];exact get_at h2 (mem_getK h2 hm)
theorem del_at {k : Str} : ∀ {l : List (Str × α)} {a : α}, Rise l -> getK k l = some a -> delK k l = l.take (posK k l) ++ l.drop (posK k l + 1)
 | [], a, _, h => by cases h
 | y :: r, a, hr, h => by
  obtain ⟨h1, h2⟩ := List.pairwise_cons.1 hr;rcases List.mem_cons.1 (getK_mem h) with e | hm
  ·subst e;rw [posK_cons_ge (show bytesBefore (k, _).1 k = false from WideAt.bytes_irrefl k)];have hd : delK k r = r := by
    unfold delK;rw [List.filter_eq_self];intro p hp;have := before_ne (h1 p hp);simp [Ne.symm this]
   show delK k ((k, a) :: r) = _
   unfold delK at hd ⊢;rw [List.filter_cons];simp [hd]
  ·have hb := h1 _ hm;rw [posK_cons_lt hb];have ih := del_at h2 (mem_getK h2 hm);have hne := before_ne hb;unfold delK at ih ⊢;rw [List.filter_cons, ih];simp [hne]
theorem put_at {k : Str} (b : α) : ∀ {l : List (Str × α)} {a : α}, Rise l -> getK k l = some a -> putK k b l = l.set (posK k l) (k, b)
 | [], a, _, h => by cases h
 | y :: r, a, hr, h => by
  obtain ⟨h1, h2⟩ := List.pairwise_cons.1 hr;rcases List.mem_cons.1 (getK_mem h) with e | hm
  ·subst e;rw [posK_cons_ge (show bytesBefore (k, _).1 k = false from WideAt.bytes_irrefl k)];have hd : delK k ((k, a) :: r) = r := by
    unfold delK;rw [List.filter_cons];simp only [beq_self_eq_true, Bool.not_true, Bool.false_eq_true, if_false];rw [List.filter_eq_self];intro p hp;have := before_ne (h1 p hp);simp [Ne.symm this]
   unfold putK;rw [hd, List.set_cons_zero];rcases r with _ | ⟨z, r⟩
   ·rfl
   ·unfold insK;rw [if_pos (h1 z (by simp))]
  ·have hb := h1 _ hm;rw [posK_cons_lt hb];have ih := put_at b h2 (mem_getK h2 hm);have hne := before_ne hb;unfold putK at ih ⊢;have hd : delK k (y :: r) = y :: delK k r := by
    unfold delK;rw [List.filter_cons];simp [hne]
   rw [hd];unfold insK;rw [if_neg (by rw [before_asym hb]; simp), ih]
   rfl
end
theorem posK_get {α : Type} {k : Str} {l : List (Str × α)} {a : α} (hr : Rise l) (h : getK k l = some a) : ∃ hj : posK k l < l.length, l[posK k l] = (k, a) := by
 have := get_at hr h;obtain ⟨h1, h2⟩ := List.getElem?_eq_some_iff.1 this;exact ⟨h1, h2⟩
theorem RShell.set1 {X : List (Str × Fil)} (h : RShell w G p room (.slice (some ⟨g, 0, none⟩) X.length c) X) (i : Nat) (hi : i < X.length) {u : Value} {xs : List Nat}
  (ho : Own w 0 u xs) (hm : ∀ b, u.ownBlock = some b -> G b) (hb : ∀ x ∈ xs, x < 256) :
  RShell (w.setCell ⟨g, i * 3 + 1, none⟩ u) G p room (.slice (some ⟨g, 0, none⟩) X.length c) (X.set i (X[i].1, (u, xs, X[i].2.2.2))) := by
 have hr := h.row;unfold OwnF at hr;have hu : U8 w (w.setCell ⟨g, i * 3 + 1, none⟩ u) := by
  rcases hr.2 with ⟨e, _⟩ | ⟨g', cap, cur, e, _, hh, _⟩
  ·simp at e
  ·simp only [Value.slice.injEq, Option.some.injEq, Addr.mk.injEq] at e;obtain ⟨⟨rfl, _⟩, _⟩ := e;exact u8_set (cs := cur.toList) ⟨Nat.zero_le _, cur, hh, rfl⟩ (by decide)
 have hne : ¬ (some p = some g) := by
  intro e;have e : p = g := by simpa using e
  subst e;obtain ⟨_, c3, h3, _⟩ := h.cells;rcases hr.2 with ⟨e, _⟩ | ⟨g', cap, cur, e, _, hh, _⟩
  ·simp at e
  ·simp only [Value.slice.injEq, Option.some.injEq, Addr.mk.injEq] at e;obtain ⟨⟨rfl, _⟩, _⟩ := e;rw [hh] at h3;simp only [Option.some.injEq, Obj.cells.injEq] at h3;exact absurd h3.2.1 (by decide)
 have hl : (X.set i (X[i].1, (u, xs, X[i].2.2.2))).length = X.length := List.length_set;refine ⟨h.cells.turn (Turn.of_grown (grown_set w g (i * 3 + 1) u)) hne, ?_, h.mine, h.own, fun k hk => by simpa using h.low k hk, fun q hq => ?_⟩
 ·have := (World.ownsRow.stored hr (i * 3 + 1) u).1;rw [cellsF_set1 X i hi u xs] at this;unfold OwnF;rw [hl];exact this
 ·rcases List.mem_or_eq_of_mem_set hq with hq | rfl
  ·exact ⟨hu.own (h.each q hq).1, (h.each q hq).2⟩
  ·exact ⟨hu.own ho, hm, hb⟩
theorem RShell.set2 {X : List (Str × Fil)} (h : RShell w G p room (.slice (some ⟨g, 0, none⟩) X.length c) X) (i : Nat) (hi : i < X.length) (l : Nat) :
  RShell (w.setCell ⟨g, i * 3 + 2, none⟩ (.int .i64 (l : Int))) G p room (.slice (some ⟨g, 0, none⟩) X.length c) (X.set i (X[i].1, (X[i].2.1, X[i].2.2.1, l))) := by
 have hr := h.row;unfold OwnF at hr;have hu : U8 w (w.setCell ⟨g, i * 3 + 2, none⟩ (.int .i64 (l : Int))) := by
  rcases hr.2 with ⟨e, _⟩ | ⟨g', cap, cur, e, _, hh, _⟩
  ·simp at e
  ·simp only [Value.slice.injEq, Option.some.injEq, Addr.mk.injEq] at e;obtain ⟨⟨rfl, _⟩, _⟩ := e;exact u8_set (cs := cur.toList) ⟨Nat.zero_le _, cur, hh, rfl⟩ (by decide)
 have hne : ¬ (some p = some g) := by
  intro e;have e : p = g := by simpa using e
  subst e;obtain ⟨_, c3, h3, _⟩ := h.cells;rcases hr.2 with ⟨e, _⟩ | ⟨g', cap, cur, e, _, hh, _⟩
  ·simp at e
  ·simp only [Value.slice.injEq, Option.some.injEq, Addr.mk.injEq] at e;obtain ⟨⟨rfl, _⟩, _⟩ := e;rw [hh] at h3;simp only [Option.some.injEq, Obj.cells.injEq] at h3;exact absurd h3.2.1 (by decide)
 have hl : (X.set i (X[i].1, (X[i].2.1, X[i].2.2.1, l))).length = X.length := List.length_set;refine ⟨h.cells.turn (Turn.of_grown (grown_set w g (i * 3 + 2) _)) hne, ?_, h.mine, h.own, fun k hk => by simpa using h.low k hk, fun q hq => ?_⟩
 ·have := (World.ownsRow.stored hr (i * 3 + 2) (.int .i64 (l : Int))).1;rw [cellsF_set2 X i hi l] at this;unfold OwnF;rw [hl];exact this
 ·rcases List.mem_or_eq_of_mem_set hq with hq | rfl
  ·exact ⟨hu.own (h.each q hq).1, (h.each q hq).2⟩
  ·have := h.each X[i] (List.getElem_mem hi);exact ⟨hu.own this.1, this.2⟩
theorem step_append_files {ops : Array Oper} {o : Oper} {a : Act} {K : Act -> World -> Prop} {Q : Exit -> Act -> World -> Prop} {E : Prop} (hgd : o.guard = none) (s x : Operand)
  (ho : o.op = .call { callee := .builtin .append, args := #[s, x], argTypes := #[77, 77] })
  (B : Nat) (v : Value) (X : List (Str × Fil)) (hs : a.eval s = v) (hown : OwnF w B v X)
  (u : Value) (Y : List (Str × Fil)) (hx : a.eval x = u) (hr : IsF w u Y)
  (hlen : X.length + Y.length <= 1073741824) (hbase : B <= w.heap.size)
  (h : ∀ v' w', OwnF w' B v' (X ++ Y) -> Below B w w' -> K (a.put o.dst v') w') : if Region.wanted o (yielded ops a.tmps) = true then Oper.wp Tryz.prog o a w K Q else E := by
 have hw : Region.wanted o (yielded ops a.tmps) = true := by simp [Region.wanted, hgd]
 rw [if_pos hw];obtain ⟨i0, hi, hz0, hz1, hz2⟩ := info_parts Tryz.info_file;obtain ⟨⟨A, c, rfl, hn, hc⟩, h1⟩ := hr;have fin : ∀ v' w', w'.ownsRow B 91 3 v' (X.length + Y.length) (cellsF X ++ cellsF Y) -> w.grownBy w' v.ownBlock -> K (a.put o.dst v') w' := by
  intro v' w' hown' hg;exact h v' w' (by unfold OwnF; rw [List.length_append, cellsF_append]; exact hown') ((Below.refl _ _).grown hg hbase fun k hk => (hown.lt k hk).1)
 rcases A with _ | ad
 ·obtain ⟨rfl, rfl⟩ := hn rfl;have hrun := run_append_owned_none (P := Tryz.prog) (w := w) B 77 o.type 91 i0 3 Tryz.underlying77 hi v _ _ hown;unfold Oper.wp;simp [execOp, ho, resolve, invoke, builtin, hs, hx, hrun, Result.andThen];exact fin v w (by simpa [cellsF, OwnF] using hown) (World.grownBy.refl w _)
 ·exact wp_append_own w s x _ ho B 91 i0 _ 3 48 Tryz.underlying77 hi hz0 hz1 hz2 rfl (by decide) v _ _ hs hown ad Y.length c (cellsF Y) hx (cellsF_length Y) (hc ad rfl) h1 (by unfold maxLen; omega) (by omega) hbase (fun v' w' h1 h2 _ => fin v' w' h1 h2)
end Go.Proofs.YtbmhfnhfhdgdgaaGreat
