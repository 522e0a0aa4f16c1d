package tests

import (
	"slices"
	"testing"

	"loop.example/g00374/impl"
)

func TestMapOf(t *testing.T) {
	for n := 4; n <= 12; n++ {
		m, ok := impl.MapOf(newChip(n))
		same(t, "ok", ok, true)
		same(t, "no pages", m, slices.Repeat([]int64{-1}, 4*(n-3)))
	}
	m, ok := impl.MapOf(someMember().Chip)
	same(t, "ok", ok, true)
	same(t, "map", m, someMember().Map)
	c := newChip(4)
	for b := range c.Blocks {
		fillBlock(c, b, int64(20-4*b), 0, 1, 2, 3)
	}
	m, ok = impl.MapOf(c)
	same(t, "ok", ok, true)
	same(t, "the newest ahead of others", m, []int64{0, 1, 2, 3})
}

func TestMapOfRefuses(t *testing.T) {
	for name, c := range wrongChips() {
		m, ok := impl.MapOf(c)
		same(t, name, ok, false)
		same(t, name, len(m), 0)
	}
	for n := 4; n <= 12; n++ {
		room := int64(4 * (n - 3))
		c := newChip(n)
		c.Blocks[n-1].Pages[0] = used(room-1, 1, "abcd")
		m, ok := impl.MapOf(c)
		same(t, "the last log", ok, true)
		same(t, "its place", m[room-1], int64(4*(n-1)))
		c.Blocks[n-1].Pages[1] = used(room, 2, "abcd")
		m, ok = impl.MapOf(c)
		same(t, "one log behind it", ok, false)
		same(t, "no map", len(m), 0)
		// An older page without room is as wrong as the newest one.
		c.Blocks[0].Pages[0] = used(0, 3, "abcd")
		_, ok = impl.MapOf(c)
		same(t, "an older page of a log behind", ok, false)
	}
}

func TestMapOfIsNew(t *testing.T) {
	c := roomy(someMember().Chip)
	m, _ := impl.MapOf(c)
	for i := range m {
		m[i] = 99
	}
	same(t, "argument", copyChip(c), someMember().Chip)
	roomUntouched(t, c)
	m, _ = impl.MapOf(c)
	same(t, "once more", m, someMember().Map)
}

func TestMapOfByManyThrows(t *testing.T) {
	d := dice(3)
	for range 1000 {
		f := thrown(&d)
		m, ok := impl.MapOf(f.Chip)
		same(t, "ok", ok, true)
		same(t, "map", m, mapByHand(f.Chip))
	}
}

// tidyByHand goes by the words of the document: the ops, Open, and whether there are any.
func tidyByHand(c impl.Chip) ([]impl.COp, int64, bool) {
	if !impl.ChipOk(c) {
		return nil, 0, false
	}
	top, open := int64(0), int64(0)
	var begun, free []int64
	for b, block := range c.Blocks {
		count := 0
		for _, p := range block.Pages {
			if p.Used && p.Log >= int64(4*(len(c.Blocks)-3)) {
				return nil, 0, false
			}
			if p.Used {
				count++
			}
			if p.Seq > top {
				top, open = p.Seq, int64(b)
			}
		}
		if count == 0 {
			free = append(free, int64(b))
		}
		if count > 0 && count < 4 {
			begun = append(begun, int64(b))
		}
		if block.Wear == impl.MaxWear {
			return nil, 0, false
		}
	}
	if len(begun) > 1 || top > impl.MaxSeq-11 {
		return nil, 0, false
	}
	if len(begun) == 1 {
		open = begun[0]
	}
	if slices.ContainsFunc(free, func(b int64) bool { return b != open }) {
		return nil, open, true
	}
	ops := emptiedByHand(impl.Ftl{Chip: c, Map: mapByHand(c), Open: open}, top+1)
	room := slices.IndexFunc(c.Blocks[open].Pages, func(p impl.Page) bool { return !p.Used })
	if room < 0 || len(ops)-1 > 4-room {
		return nil, 0, false
	}
	return ops, open, true
}

// recovers asks for what TidyOps and Recovered tell of a chip that can be recovered, and answers the member.
func recovers(t *testing.T, c impl.Chip) impl.Ftl {
	t.Helper()
	as := copyChip(c)
	want, open, able := tidyByHand(c)
	same(t, "able", able, true)
	ops, ok := impl.TidyOps(c)
	same(t, "TidyOps", ok, true)
	same(t, "how many ops", len(ops), len(want))
	same(t, "ops", append([]impl.COp{}, ops...), append([]impl.COp{}, want...))
	g, ok := impl.Recovered(c)
	same(t, "Recovered", ok, true)
	same(t, "right", impl.FtlOk(g), true)
	d := doneByHand(c, want)
	top := int64(0)
	for _, block := range d.Blocks {
		for _, p := range block.Pages {
			top = max(top, p.Seq)
		}
	}
	same(t, "member", g, impl.Ftl{Chip: d, Map: mapByHand(d), Seq: top + 1, Open: open})
	same(t, "argument", c, as)
	return g
}

func unrecovered(t *testing.T, name string, c impl.Chip) {
	t.Helper()
	as := copyChip(c)
	ops, ok := impl.TidyOps(c)
	same(t, name+": TidyOps", ok, false)
	same(t, name+": ops", len(ops), 0)
	f, ok := impl.Recovered(c)
	same(t, name+": Recovered", ok, false)
	same(t, name+": member", f, impl.Ftl{})
	same(t, name+": argument", c, as)
}

// endures asks that the chip is recovered so that all logs read as wanted, also when the power is lost at each op of that, and once more behind it.
func endures(t *testing.T, c impl.Chip, want []string) impl.Ftl {
	t.Helper()
	f := recovers(t, c)
	same(t, "what is read", readAll(t, f), want)
	ops, _ := impl.TidyOps(c)
	for k := range ops {
		g := recovers(t, doneByHand(c, ops[:k]))
		same(t, "what is read when the recovery was cut", readAll(t, g), want)
	}
	g := recovers(t, f.Chip)
	same(t, "nothing is left to do", g.Chip, f.Chip)
	same(t, "map", g.Map, f.Map)
	return f
}

// survives asks for promise 4 at each number of the first ops of one write.
func survives(t *testing.T, f impl.Ftl, log int64, data string) {
	t.Helper()
	ops, _ := impl.OpsOf(f, log, data)
	was := readAll(t, f)
	for k := range ops {
		f := endures(t, doneByHand(f.Chip, ops[:k]), was)
		// What is recovered can write on.
		writes(t, f, log, data)
	}
	was[log] = data
	writes(t, endures(t, doneByHand(f.Chip, ops), was), log, "more")
}

// Promise 4: power lost between any two ops.
func TestPowerLostAtWrites(t *testing.T) {
	for _, f := range []impl.Ftl{someMember(), fullOpen(), oneFree()} {
		for log := range f.Map {
			survives(t, f, int64(log), "data")
		}
	}
	for n := int64(4); n <= impl.MaxBlocks; n++ {
		f, _ := impl.FtlNew(n)
		survives(t, f, n-4, "data")
	}
}

// Behind the first copies the victim has the fewest newest pages still, so what is left of them is copied, and it is erased.
func TestPowerLostAheadOfErasing(t *testing.T) {
	f := oneFree()
	ops, _ := impl.OpsOf(f, 7, "data")
	same(t, "copies, an erasing, the page", len(ops), 4)
	cases := [][]impl.COp{
		nil,
		{program(1, used(4, 41, dataOf(7))), erase(2)},
		{erase(2)},
		nil,
		nil,
	}
	for k, want := range cases {
		c := doneByHand(f.Chip, ops[:k])
		tidy, ok := impl.TidyOps(c)
		same(t, "ok", ok, true)
		same(t, "ops", append([]impl.COp{}, tidy...), append([]impl.COp{}, want...))
		g, ok := impl.Recovered(c)
		same(t, "recovered", ok, true)
		same(t, "open", g.Open, []int64{4, 1, 1, 1, 1}[k])
		same(t, "seq", g.Seq, []int64{17, 42, 42, 42, 43}[k])
		same(t, "wear", g.Chip.Blocks[2].Wear, []int64{3, 4, 4, 4, 4}[k])
	}
}

// A victim without newest pages is erased with no copy ahead: behind that no block is begun.
func TestPowerLostBehindErasingAlone(t *testing.T) {
	c := newChip(4)
	fillBlock(c, 0, 9, 0, 1, 2, 3)
	fillBlock(c, 2, 1, 0, 1, 2, 3)
	fillBlock(c, 3, 5, 0, 1, 2, 2)
	f := impl.Ftl{Chip: c, Map: mapByHand(c), Seq: 20, Open: 3}
	ops, _ := impl.OpsOf(f, 3, "data")
	same(t, "ops", ops, []impl.COp{erase(2), program(1, used(3, 20, "data"))})
	survives(t, f, 3, "data")
	g, _ := impl.Recovered(doneByHand(c, ops[:1]))
	same(t, "open", g.Open, int64(0))
	same(t, "seq", g.Seq, int64(13))
}

func TestPowerLostByManyThrows(t *testing.T) {
	d := dice(7)
	for range 1000 {
		f := crowded(&d)
		survives(t, f, d.below(int64(len(f.Map))), dataOf(d.below(10000)))
		if t.Failed() {
			t.Fatal(f)
		}
	}
}

// A life of a member: each write is cut at some op, each recovery too, again and again.
func TestPowerLostAgainAndAgain(t *testing.T) {
	d := dice(8)
	for n := int64(4); n <= impl.MaxBlocks; n++ {
		f, _ := impl.FtlNew(n)
		want := slices.Repeat([]string{zeros}, int(impl.RoomFor(n)))
		for i := range int64(400) {
			log, data := d.below(impl.RoomFor(n)), dataOf(i)
			ops, _ := impl.OpsOf(f, log, data)
			cut := d.below(int64(len(ops)) + 1)
			if cut == int64(len(ops)) {
				want[log] = data
			}
			c := doneByHand(f.Chip, ops[:cut])
			for d.below(3) > 0 {
				tidy, _ := impl.TidyOps(c)
				c = doneByHand(c, tidy[:d.below(int64(len(tidy))+1)])
			}
			f = recovers(t, c)
			same(t, "what is read", readAll(t, f), want)
			if t.Failed() {
				t.Fatal(n, i)
			}
		}
	}
}

func TestRecoveredOpen(t *testing.T) {
	for n := 4; n <= impl.MaxBlocks; n++ {
		g := recovers(t, newChip(n))
		f, _ := impl.FtlNew(int64(n))
		same(t, "without pages", g, f)
	}
	c := newChip(6)
	fillBlock(c, 4, 5, 0, 1, 2, 3)
	fillBlock(c, 2, 1, 0, 1, 2, 3)
	same(t, "none begun: the block of the greatest Seq", recovers(t, c).Open, int64(4))
	c.Blocks[2].Pages[1].Seq = 90
	g := recovers(t, c)
	same(t, "the greatest Seq inside a block", g.Open, int64(2))
	same(t, "seq", g.Seq, int64(91))
	fillBlock(c, 5, 20, 3)
	g = recovers(t, c)
	same(t, "one begun, without the greatest Seq", g.Open, int64(5))
	same(t, "seq", g.Seq, int64(91))
	fillBlock(c, 5, 20, 3, 2, 1)
	same(t, "one begun, full but one", recovers(t, c).Open, int64(5))
	ops, ok := impl.TidyOps(c)
	same(t, "no ops", len(ops), 0)
	same(t, "ok", ok, true)
}

// begunChip has no free block; block 1 is begun with this many pages, all others are full and have two newest pages each.
func begunChip(pages int) impl.Chip {
	c := oneFree().Chip
	fillBlock(c, 1, 20, []int64{0, 0, 0, 0}[:pages]...)
	// The newest page of log 0 is none of these.
	c.Blocks[2].Pages[0].Seq = 30
	return c
}

// Each reason for which nothing is recovered, by itself.
func TestNotRecovered(t *testing.T) {
	for name, c := range wrongChips() {
		unrecovered(t, name, c)
	}
	c := newChip(5)
	c.Blocks[3].Pages[0] = used(7, 1, "data")
	recovers(t, c)
	c.Blocks[3].Pages[0].Log = 8
	unrecovered(t, "a log without room", c)

	c = newChip(6)
	fillBlock(c, 2, 1, 0, 1, 2)
	recovers(t, c)
	for count := 1; count <= 3; count++ {
		fillBlock(c, 4, 10, []int64{0, 1, 2}[:count]...)
		unrecovered(t, "two begun", c)
	}
	fillBlock(c, 4, 10, 0, 1, 2, 3)
	recovers(t, c)
	fillBlock(c, 0, 20, 0)
	fillBlock(c, 5, 24, 0)
	unrecovered(t, "three begun", c)
}

func TestRecoveredLimits(t *testing.T) {
	for _, c := range []impl.Chip{someMember().Chip, fullOpen().Chip, begunChip(1), begunChip(2)} {
		page := &c.Blocks[3].Pages[3]
		for _, top := range []int64{impl.MaxSeq - 12, impl.MaxSeq - 11} {
			page.Seq = top
			recovers(t, c)
		}
		for _, top := range []int64{impl.MaxSeq - 10, impl.MaxSeq - 9, impl.MaxSeq} {
			page.Seq = top
			unrecovered(t, "the greatest Seq", c)
		}
		page.Seq = 77
		for b := range c.Blocks {
			wear := c.Blocks[b].Wear
			c.Blocks[b].Wear = impl.MaxWear - 1
			recovers(t, c)
			c.Blocks[b].Wear = impl.MaxWear
			unrecovered(t, "wear", c)
			c.Blocks[b].Wear = wear
		}
	}
	c := newChip(4)
	c.Blocks[3].Wear = impl.MaxWear
	unrecovered(t, "wear of a chip without pages", c)
}

func TestRecoveredRoom(t *testing.T) {
	g := recovers(t, begunChip(1))
	same(t, "three pages of room for two", impl.NextOf(g.Chip, 1), int64(3))
	g = recovers(t, begunChip(2))
	same(t, "two pages of room for two", impl.NextOf(g.Chip, 1), int64(-1))
	writes(t, g, 3, "data")
	unrecovered(t, "one page of room for two", begunChip(3))
	c := begunChip(3)
	// One newest page less in block 0: it fits.
	c.Blocks[1].Pages[2].Log, c.Blocks[1].Pages[2].Seq = 6, 60
	same(t, "one page of room for one", recovers(t, c).Open, int64(1))
	// None in block 0: it is erased alone.
	c.Blocks[1].Pages[1].Log, c.Blocks[1].Pages[1].Seq = 7, 61
	ops, _ := impl.TidyOps(c)
	same(t, "nothing to copy", ops, []impl.COp{erase(0)})
	recovers(t, c)
	// All blocks are full: not even a block without newest pages is erased.
	fillBlock(c, 1, 60, 6, 7, 6, 7)
	unrecovered(t, "open is full", c)
	unrecovered(t, "open is full, with newest pages", begunChip(4))
}

// Chips of all kinds, most of which no write leaves so.
func TestRecoveryByManyThrows(t *testing.T) {
	d := dice(9)
	able, refused := 0, 0
	for range 6000 {
		c := thrown(&d).Chip
		for b := range c.Blocks {
			many := []int64{0, 1, 2, 3, 4, 4, 4, 4, 4, 4, 4, 4, 4, 4, 4, 4}[d.below(16)]
			for k := range c.Blocks[b].Pages {
				c.Blocks[b].Pages[k] = impl.Page{}
				if int64(k) < many {
					seq := int64(100*k+b) + 1
					c.Blocks[b].Pages[k] = used(d.below(4*int64(len(c.Blocks)-3)), seq, dataOf(seq))
				}
			}
		}
		if _, _, ok := tidyByHand(c); ok {
			able++
			recovers(t, c)
		} else {
			refused++
			unrecovered(t, "thrown", c)
		}
		if t.Failed() {
			t.Fatal(c)
		}
	}
	same(t, "many of each kind", able > 500 && refused > 500, true)
}

// Promise 9: arguments stay as they were, and answers do not share memory with them.
func TestRecoveryLeavesNothing(t *testing.T) {
	for _, want := range []impl.Chip{newChip(4), someMember().Chip, begunChip(2), begunChip(3)} {
		c := roomy(want)
		for range 2 {
			ops, ok := impl.TidyOps(c)
			for i := range ops {
				ops[i].Page = used(33, 333, "ink.")
			}
			f, fine := impl.Recovered(c)
			same(t, "both", ok, fine)
			ownLists(t, f.Chip)
			scribbleMember(f)
			same(t, "argument", copyChip(c), want)
			roomUntouched(t, c)
		}
	}
}
