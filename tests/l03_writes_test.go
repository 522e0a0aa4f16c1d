package tests

import (
	"math"
	"slices"
	"strings"
	"testing"

	"loop.example/g00374/impl"
)

func program(block int64, p impl.Page) impl.COp {
	return impl.COp{Kind: impl.OpProgram, Block: block, Page: p}
}

func erase(block int64) impl.COp {
	return impl.COp{Kind: impl.OpErase, Block: block}
}

// fullOpen has Open full and three other blocks free, alike in Wear but the first one.
func fullOpen() impl.Ftl {
	c := newChip(6)
	fillBlock(c, 1, 1, 0, 1, 2, 0)
	fillBlock(c, 3, 5, 1, 4, 4, 5)
	for b, wear := range []int64{8, 7, 6, 7, 6, 6} {
		c.Blocks[b].Wear = wear
	}
	return impl.Ftl{Chip: c, Map: mapByHand(c), Seq: 9, Open: 3}
}

// oneFree has Open full, one other block free, and in each full one two newest pages; the least worn of these, block 2, has those of the logs 0 and 4.
func oneFree() impl.Ftl {
	c := newChip(5)
	fillBlock(c, 0, 1, 6, 1, 2, 7)
	fillBlock(c, 2, 5, 0, 1, 4, 2)
	fillBlock(c, 3, 9, 5, 2, 1, 1)
	fillBlock(c, 4, 13, 3, 3, 2, 2)
	for b, wear := range []int64{4, 9, 3, 4, 4} {
		c.Blocks[b].Wear = wear
	}
	return impl.Ftl{Chip: c, Map: mapByHand(c), Seq: 40, Open: 4}
}

// crowded is a member whose Open is full, with one free block, filled by the dice.
func crowded(d *dice) impl.Ftl {
	blocks := 4 + d.below(9)
	c := newChip(int(blocks))
	free := d.below(blocks)
	seqs := make([]int64, 4*blocks)
	for i := range seqs {
		at := d.below(int64(i) + 1)
		seqs[i], seqs[at] = seqs[at], int64(i)+1
	}
	logs := 1 + d.below(4*(blocks-3))
	for b := range blocks {
		c.Blocks[b].Wear = d.below(3)
		for k := int64(0); k < 4 && b != free; k++ {
			seq := seqs[4*b+k]
			c.Blocks[b].Pages[k] = used(d.below(logs), seq, dataOf(seq))
		}
	}
	open := (free + 1 + d.below(blocks-1)) % blocks
	return impl.Ftl{Chip: c, Map: mapByHand(c), Seq: 4*blocks + 1 + d.below(9), Open: open}
}

// opsByHand goes by the words of the document, at a member and arguments that are as it wants them.
func opsByHand(f impl.Ftl, log int64, data string) []impl.COp {
	var ops []impl.COp
	into, seq := f.Open, f.Seq
	if f.Chip.Blocks[f.Open].Pages[3].Used {
		var free []int
		for b, block := range f.Chip.Blocks {
			if !block.Pages[0].Used {
				free = append(free, b)
			}
		}
		into = int64(free[0])
		for _, b := range free {
			if f.Chip.Blocks[b].Wear < f.Chip.Blocks[into].Wear {
				into = int64(b)
			}
		}
		if len(free) == 1 {
			f.Open = into
			ops = emptiedByHand(f, seq)
			seq += int64(len(ops) - 1)
		}
	}
	return append(ops, program(into, used(log, seq, data)))
}

// emptiedByHand are the ops that empty the victim of f into its Open.
func emptiedByHand(f impl.Ftl, seq int64) []impl.COp {
	var ops []impl.COp
	victim := victimByHand(f)
	for k, p := range f.Chip.Blocks[victim].Pages {
		if f.Map[p.Log] == 4*victim+int64(k) {
			ops = append(ops, program(f.Open, used(p.Log, seq, p.Data)))
			seq++
		}
	}
	return append(ops, erase(victim))
}

// doneByHand does ops that the chip takes.
func doneByHand(c impl.Chip, ops []impl.COp) impl.Chip {
	c = copyChip(c)
	for _, op := range ops {
		block := &c.Blocks[op.Block]
		if op.Kind == impl.OpErase {
			*block = impl.Block{Wear: block.Wear + 1, Pages: make([]impl.Page, 4)}
			continue
		}
		next := slices.IndexFunc(block.Pages, func(p impl.Page) bool { return !p.Used })
		block.Pages[next] = op.Page
	}
	return c
}

func readAll(t *testing.T, f impl.Ftl) []string {
	t.Helper()
	l := make([]string, 4*(len(f.Chip.Blocks)-3))
	for log := range l {
		s, ok := impl.PageAt(f, int64(log))
		same(t, "a log that is read", ok, true)
		l[log] = s
	}
	return l
}

// writes asks for all that promise 3 says of one write, and answers the member behind it.
func writes(t *testing.T, f impl.Ftl, log int64, data string) impl.Ftl {
	t.Helper()
	as := copyMember(f)
	ops, ok := impl.OpsOf(f, log, data)
	same(t, "OpsOf", ok, true)
	same(t, "ops", ops, opsByHand(f, log, data))
	for k, op := range ops {
		if op.Kind == impl.OpErase {
			named := mapByHand(doneByHand(f.Chip, ops[:k]))
			spared := slices.ContainsFunc(named, func(place int64) bool { return place >= 0 && place/4 == op.Block })
			same(t, "a newest page in the block that is erased", spared, false)
		}
	}
	c, ok := impl.Did(f.Chip, ops)
	same(t, "Did", ok, true)
	same(t, "chip", c, doneByHand(f.Chip, ops))
	g, code := impl.Written(f, log, data)
	same(t, "code", code, int64(impl.NdDone))
	last := ops[len(ops)-1]
	same(t, "member", g, impl.Ftl{Chip: c, Map: mapByHand(c), Seq: last.Page.Seq + 1, Open: last.Block})
	same(t, "right", impl.FtlOk(g), true)
	want := readAll(t, f)
	want[log] = data
	same(t, "what is read", readAll(t, g), want)
	same(t, "argument", f, as)
	return g
}

// Promise 3: what is written is read, and all else as it was.
func TestWrittenToNew(t *testing.T) {
	for n := int64(4); n <= impl.MaxBlocks; n++ {
		f, _ := impl.FtlNew(n)
		for _, log := range []int64{0, 1, impl.RoomFor(n) - 1} {
			ops, _ := impl.OpsOf(f, log, "data")
			same(t, "ops", ops, []impl.COp{program(0, used(log, 1, "data"))})
			g := writes(t, f, log, "data")
			same(t, "seq", g.Seq, int64(2))
			same(t, "open", g.Open, int64(0))
			same(t, "place", g.Map[log], int64(0))
		}
	}
}

func TestWrittenToOpenWithRoom(t *testing.T) {
	f := someMember()
	for _, log := range []int64{0, 4, 7} {
		ops, _ := impl.OpsOf(f, log, "\x00\xff \n")
		same(t, "ops", ops, []impl.COp{program(4, used(log, 15, "\x00\xff \n"))})
		g := writes(t, f, log, "\x00\xff \n")
		same(t, "place", g.Map[log], int64(18))
		// The last page of Open is still Open's.
		g = writes(t, g, 5, "last")
		same(t, "place", g.Map[5], int64(19))
		same(t, "open", g.Open, int64(4))
		writes(t, g, 5, "more")
	}
	f.Seq = 700
	ops, _ := impl.OpsOf(f, 1, "data")
	same(t, "a Seq far above those of pages", ops, []impl.COp{program(4, used(1, 700, "data"))})
}

func TestWrittenToNewBlock(t *testing.T) {
	f := fullOpen()
	cases := []struct {
		name  string
		wears []int64
		want  int64
	}{
		{"the first of two alike in least wear", []int64{8, 7, 6, 7, 6, 6}, 2},
		{"alike in wear: the first", []int64{6, 7, 6, 7, 6, 6}, 0},
		{"the least wear behind", []int64{8, 7, 6, 7, 6, 5}, 5},
		{"the least wear between", []int64{8, 7, 6, 7, 5, 6}, 4},
		{"blocks that are full are not asked", []int64{8, 0, 7, 0, 6, 6}, 4},
		{"great wears", []int64{impl.MaxWear - 1, 0, impl.MaxWear - 1, 0, impl.MaxWear - 2, impl.MaxWear - 1}, 4},
	}
	for _, c := range cases {
		for b, wear := range c.wears {
			f.Chip.Blocks[b].Wear = wear
		}
		ops, _ := impl.OpsOf(f, 3, "data")
		same(t, c.name, ops, []impl.COp{program(c.want, used(3, 9, "data"))})
		same(t, c.name, writes(t, f, 3, "data").Open, c.want)
	}
	// Two free blocks are still more than one.
	fillBlock(f.Chip, 0, 9, 9, 9, 9, 9)
	fillBlock(f.Chip, 2, 13, 9, 9, 9, 9)
	f.Map, f.Seq = mapByHand(f.Chip), 17
	ops, _ := impl.OpsOf(f, 3, "data")
	same(t, "two free", ops, []impl.COp{program(4, used(3, 17, "data"))})
	writes(t, f, 3, "data")
	// Open is free itself: nothing is asked of other blocks.
	f.Open = 5
	ops, _ = impl.OpsOf(f, 3, "data")
	same(t, "open is free", ops, []impl.COp{program(5, used(3, 17, "data"))})
	writes(t, f, 3, "data")
}

func TestWrittenWithVictim(t *testing.T) {
	f := oneFree()
	same(t, "right", impl.FtlOk(f), true)
	for _, log := range []int64{0, 1, 4, 7} {
		ops, _ := impl.OpsOf(f, log, "data")
		same(t, "ops", ops, []impl.COp{
			program(1, used(0, 40, dataOf(5))), program(1, used(4, 41, dataOf(7))), erase(2), program(1, used(log, 42, "data")),
		})
		g := writes(t, f, log, "data")
		same(t, "wear of the victim", g.Chip.Blocks[2].Wear, int64(4))
		same(t, "seq", g.Seq, int64(43))
		same(t, "open", g.Open, int64(1))
	}
}

// The victim is asked for with the new block as Open, so it may be the old Open.
func TestWrittenVictimIsOldOpen(t *testing.T) {
	c := newChip(4)
	fillBlock(c, 0, 1, 0, 1, 2, 2)
	fillBlock(c, 1, 10, 3, 3, 3, 3)
	fillBlock(c, 2, 5, 1, 1, 2, 2)
	f := impl.Ftl{Chip: c, Map: mapByHand(c), Seq: 14, Open: 0}
	same(t, "another is VictimOf", impl.VictimOf(f), int64(1))
	ops, _ := impl.OpsOf(f, 2, "data")
	same(t, "the old open block", ops, []impl.COp{program(3, used(0, 14, dataOf(1))), erase(0), program(3, used(2, 15, "data"))})
	writes(t, f, 2, "data")
	// Without newest pages it is erased, and nothing is copied.
	fillBlock(c, 2, 5, 1, 0, 2, 2)
	f.Map = mapByHand(c)
	ops, _ = impl.OpsOf(f, 2, "data")
	same(t, "nothing to copy", ops, []impl.COp{erase(0), program(3, used(2, 14, "data"))})
	writes(t, f, 2, "data")
}

// The greatest chip, filled as evenly as can be, has three pages to copy, and one page left for the log.
func TestWrittenVictimWithThree(t *testing.T) {
	c := newChip(12)
	for b := int64(0); b < 11; b++ {
		fillBlock(c, int(b), 4*b+1, 0, 3*b+1, 3*b+2, 3*b+3)
	}
	c.Blocks[0].Pages[0].Seq = 500
	c.Blocks[1].Pages[0].Log, c.Blocks[2].Pages[0].Log = 34, 35
	f := impl.Ftl{Chip: c, Map: mapByHand(c), Seq: 501, Open: 10}
	same(t, "every log has a page", slices.Contains(f.Map, -1), false)
	ops, _ := impl.OpsOf(f, 35, "data")
	same(t, "ops", ops, []impl.COp{
		program(11, used(10, 501, dataOf(14))), program(11, used(11, 502, dataOf(15))), program(11, used(12, 503, dataOf(16))),
		erase(3), program(11, used(35, 504, "data")),
	})
	g := writes(t, f, 35, "data")
	g = writes(t, g, 0, "next")
	writes(t, g, 5, "more")
}

func TestWritesByManyThrows(t *testing.T) {
	d := dice(5)
	for i := range 3000 {
		f := thrown(&d)
		if i%2 == 0 {
			f = crowded(&d)
		}
		writes(t, f, d.below(int64(len(f.Map))), dataOf(d.below(10000)))
		if t.Failed() {
			t.Fatal(f)
		}
	}
}

func TestWritesOneByOne(t *testing.T) {
	d := dice(6)
	for n := int64(4); n <= impl.MaxBlocks; n++ {
		f, _ := impl.FtlNew(n)
		logs, datas := make([]int64, 100), make([]string, 100)
		g := f
		for i := range logs {
			logs[i], datas[i] = d.below(impl.RoomFor(n)), dataOf(int64(i))
			g = writes(t, g, logs[i], datas[i])
		}
		h, code := impl.WrittenAll(f, logs, datas)
		same(t, "code", code, int64(impl.NdDone))
		same(t, "all written", h, g)
	}
}

// refuses asks for one code of Written and WrittenAll, with the member as it is, and for no ops.
func refuses(t *testing.T, name string, f impl.Ftl, log int64, data string, code int64) {
	t.Helper()
	as := copyMember(f)
	ops, ok := impl.OpsOf(f, log, data)
	same(t, name+": OpsOf", ok, false)
	same(t, name+": ops", len(ops), 0)
	g, got := impl.Written(f, log, data)
	same(t, name+": code", got, code)
	same(t, name+": member", g, as)
	g, got = impl.WrittenAll(f, []int64{log}, []string{data})
	same(t, name+": code of all", got, code)
	same(t, name+": member of all", g, as)
	same(t, name+": argument", f, as)
}

func TestWriteRefusals(t *testing.T) {
	for _, f := range []impl.Ftl{someMember(), fullOpen(), oneFree()} {
		room := int64(len(f.Map))
		for _, log := range append(outside(room), 39, 40) {
			if log >= 0 && log < room {
				continue
			}
			refuses(t, "log outside", f, log, "data", impl.NdForm)
		}
		for _, data := range []string{"", "abc", "abcde", "é.é", strings.Repeat("x", 1000)} {
			refuses(t, "data", f, 0, data, impl.NdForm)
		}
		f.Seq = impl.MaxSeq - 10
		writes(t, f, 1, "data")
		for _, seq := range []int64{impl.MaxSeq - 9, impl.MaxSeq - 1, impl.MaxSeq} {
			f.Seq = seq
			refuses(t, "seq", f, 1, "data", impl.NdWorn)
			refuses(t, "seq, and a log outside", f, room, "data", impl.NdForm)
			refuses(t, "seq, and data", f, 1, "abc", impl.NdForm)
		}
		f.Seq = 50
		for b := range f.Chip.Blocks {
			wear := f.Chip.Blocks[b].Wear
			f.Chip.Blocks[b].Wear = impl.MaxWear - 1
			writes(t, f, 1, "data")
			f.Chip.Blocks[b].Wear = impl.MaxWear
			refuses(t, "wear", f, 1, "data", impl.NdWorn)
			refuses(t, "wear, and a log outside", f, -1, "data", impl.NdForm)
			refuses(t, "wear, and data", f, 1, "", impl.NdForm)
			f.Chip.Blocks[b].Wear = wear
		}
	}
}

// A victim that is worn out by its erasing stops the next write.
func TestWrittenWearsOut(t *testing.T) {
	f := oneFree()
	for b := range f.Chip.Blocks {
		f.Chip.Blocks[b].Wear = impl.MaxWear - 1
	}
	g := writes(t, f, 1, "data")
	same(t, "worn out", g.Chip.Blocks[0].Wear, int64(impl.MaxWear))
	refuses(t, "worn out", g, 1, "data", impl.NdWorn)
	h, code := impl.WrittenAll(f, []int64{1, 2}, []string{"data", "more"})
	same(t, "code", code, int64(impl.NdWorn))
	same(t, "as it was", h, f)
}

func TestWritesOfWrongMembers(t *testing.T) {
	refused := func(name string, f impl.Ftl) {
		t.Helper()
		for _, w := range []struct {
			log  int64
			data string
		}{{0, "data"}, {-1, "data"}, {99, "data"}, {0, "abc"}} {
			ops, ok := impl.OpsOf(f, w.log, w.data)
			same(t, name+": OpsOf", ok, false)
			same(t, name+": ops", len(ops), 0)
			g, code := impl.Written(f, w.log, w.data)
			same(t, name+": code", code, int64(impl.NdWrong))
			same(t, name+": member", g, impl.Ftl{})
			g, code = impl.WrittenAll(f, []int64{w.log}, []string{w.data})
			same(t, name+": code of all", code, int64(impl.NdWrong))
			same(t, name+": member of all", g, impl.Ftl{})
		}
		for _, logs := range [][]int64{nil, make([]int64, 1), make([]int64, 101)} {
			g, code := impl.WrittenAll(f, logs, nil)
			same(t, name+": code of many", code, int64(impl.NdWrong))
			same(t, name+": member of many", g, impl.Ftl{})
		}
	}
	for name, f := range wrongMembers() {
		refused(name, f)
	}
	for name, c := range wrongChips() {
		refused(name, impl.Ftl{Chip: c, Map: []int64{-1, -1, -1, -1}, Seq: 1000, Open: 2})
	}
	worn := someMember()
	worn.Seq, worn.Map, worn.Chip.Blocks[0].Wear = impl.MaxSeq, nil, impl.MaxWear
	refused("worn, and wrong", worn)
}

func TestWrittenAllLimits(t *testing.T) {
	f := someMember()
	datas := slices.Repeat([]string{"data"}, 102)
	g, code := impl.WrittenAll(f, make([]int64, 100), datas[:100])
	same(t, "100", code, int64(impl.NdDone))
	same(t, "right", impl.FtlOk(g), true)
	for _, n := range [][2]int{{101, 101}, {102, 102}, {100, 99}, {100, 101}, {1, 0}, {0, 1}, {101, 100}, {2, 1}, {1, 2}} {
		g, code := impl.WrittenAll(f, make([]int64, n[0]), datas[:n[1]])
		same(t, "counts", code, int64(impl.NdForm))
		same(t, "as it was", g, someMember())
	}
	for _, logs := range [][]int64{nil, {}} {
		g, code := impl.WrittenAll(f, logs, nil)
		same(t, "none", code, int64(impl.NdDone))
		same(t, "as it was", g, someMember())
	}
	// The counts are asked for ahead of the writes.
	f.Seq = impl.MaxSeq
	g, code = impl.WrittenAll(f, make([]int64, 101), datas[:101])
	same(t, "counts ahead of the writes", code, int64(impl.NdForm))
	same(t, "as it was", g, f)
	_, code = impl.WrittenAll(f, make([]int64, 2), datas[:1])
	same(t, "counts ahead of the writes", code, int64(impl.NdForm))
	_, code = impl.WrittenAll(f, nil, nil)
	same(t, "nothing to write", code, int64(impl.NdDone))
}

// A write that is refused behind others leaves none of these.
func TestWrittenAllRefusesLater(t *testing.T) {
	cases := []struct {
		name  string
		seq   int64
		logs  []int64
		datas []string
		code  int64
	}{
		{"log", 15, []int64{0, 1, 8}, []string{"aaaa", "bbbb", "cccc"}, impl.NdForm},
		{"log below", 15, []int64{0, -1, 1}, []string{"aaaa", "bbbb", "cccc"}, impl.NdForm},
		{"data", 15, []int64{0, 1, 2}, []string{"aaaa", "bbbb", "ccc"}, impl.NdForm},
		{"the last Seq", impl.MaxSeq - 11, []int64{0, 1}, []string{"aaaa", "bbbb"}, impl.NdDone},
		{"behind the last Seq", impl.MaxSeq - 11, []int64{0, 1, 2}, []string{"aaaa", "bbbb", "cccc"}, impl.NdWorn},
		{"first seq, then data", impl.MaxSeq - 11, []int64{0, 1, 2, 3}, []string{"aaaa", "bbbb", "cccc", "ddd"}, impl.NdWorn},
		{"first data, then seq", impl.MaxSeq - 11, []int64{0, 1, 2}, []string{"aaaa", "bbb", "cccc"}, impl.NdForm},
		{"both at once", impl.MaxSeq - 11, []int64{0, 1, 2}, []string{"aaaa", "bbbb", "ccc"}, impl.NdForm},
	}
	for _, c := range cases {
		f := someMember()
		f.Seq = c.seq
		g, code := impl.WrittenAll(f, c.logs, c.datas)
		same(t, c.name, code, c.code)
		if c.code != impl.NdDone {
			same(t, c.name, g, f)
		}
	}
}

func TestDid(t *testing.T) {
	c := someMember().Chip
	for _, ops := range [][]impl.COp{
		nil,
		{},
		{erase(1)},
		{erase(0), erase(4), erase(0)},
		{program(4, used(39, 100, "data")), program(4, used(0, 99, "more"))},
		{erase(0), program(0, used(1, 5, "data")), erase(0), program(0, used(1, 5, "data"))},
		slices.Repeat([]impl.COp{erase(3)}, 20),
	} {
		d, ok := impl.Did(c, ops)
		same(t, "ok", ok, true)
		same(t, "chip", d, doneByHand(c, ops))
		same(t, "argument", c, someMember().Chip)
		ownLists(t, d)
	}
}

func TestDidRefuses(t *testing.T) {
	c := someMember().Chip
	refused := func(name string, ops ...impl.COp) {
		t.Helper()
		d, ok := impl.Did(c, ops)
		same(t, name, ok, false)
		same(t, name, d, impl.Chip{})
		d, ok = impl.Did(c, append([]impl.COp{erase(3)}, append(ops, erase(3))...))
		same(t, name+" between others", ok, false)
		same(t, name+" between others", d, impl.Chip{})
	}
	refused("too many", slices.Repeat([]impl.COp{erase(3)}, 21)...)
	page := used(1, 100, "data")
	for _, kind := range []int64{0, 3, -1, math.MinInt64, math.MaxInt64, 1<<32 + 1} {
		refused("kind", impl.COp{Kind: kind})
		refused("kind with a page", impl.COp{Kind: kind, Page: page})
	}
	for _, p := range []impl.Page{page, {Used: true}, {Log: 1}, {Log: -1}, {Seq: 1}, {Data: "data"}, {Data: "\x00"}} {
		refused("an erasing with a page", impl.COp{Kind: impl.OpErase, Page: p})
	}
	for _, block := range outside(5) {
		if block < 0 || block > 4 {
			refused("program outside", program(block, page))
			refused("erase outside", erase(block))
		}
	}
	for _, p := range []impl.Page{{}, {Log: 1, Seq: 100, Data: "data"}, used(40, 100, "data"), used(-1, 100, "data"), used(1, 0, "data"),
		used(1, impl.MaxSeq+1, "data"), used(1, 100, "abc"), used(1, 100, "abcde"), used(1, 8, "data")} {
		refused("page", program(1, p))
	}
	refused("full", program(0, page))
	refused("full by an op ahead", program(4, used(0, 50, "data")), program(4, used(0, 51, "data")), program(4, used(0, 52, "data")))
	refused("Seq of an op ahead", program(4, used(0, 50, "data")), program(1, used(0, 50, "data")))
	c.Blocks[2].Wear = impl.MaxWear
	refused("worn", erase(2))
	c.Blocks[2].Wear = impl.MaxWear - 1
	_, ok := impl.Did(c, []impl.COp{erase(2)})
	same(t, "worn by one less", ok, true)
	refused("worn by an op ahead", erase(2), erase(2))
	for name, c := range wrongChips() {
		for _, ops := range [][]impl.COp{nil, {erase(0)}} {
			d, ok := impl.Did(c, ops)
			same(t, name, ok, false)
			same(t, name, d, impl.Chip{})
		}
	}
}

// inRoom is the same list with a piece of room behind it that nobody may write to.
func inRoom[T any](l []T, behind T) []T {
	return append(slices.Clone(l), behind)[:len(l)]
}

func roomyMember(f impl.Ftl) impl.Ftl {
	f.Chip, f.Map = roomy(f.Chip), inRoom(f.Map, 55)
	return f
}

func asItWas(t *testing.T, name string, f, want impl.Ftl) {
	t.Helper()
	same(t, name, copyMember(f), want)
	same(t, name+": room behind the map", f.Map[:len(f.Map)+1][len(f.Map)], int64(55))
	roomUntouched(t, f.Chip)
}

func scribbleMember(f impl.Ftl) {
	scribble(f.Chip)
	named := f.Map[:cap(f.Map)]
	for i := range named {
		named[i] = 99
	}
}

// Promise 9: arguments stay as they were, and answers do not share memory with them.
func TestWritesLeaveNothing(t *testing.T) {
	for _, want := range []impl.Ftl{someMember(), fullOpen(), oneFree()} {
		f := roomyMember(want)
		logs, datas := inRoom([]int64{0, 1, 2}, 7), inRoom([]string{"aaaa", "bbbb", "cccc"}, "room")
		for range 2 {
			for _, code := range []int64{impl.NdDone, impl.NdForm} {
				log := code * 50
				g, got := impl.Written(f, log, "data")
				same(t, "code", got, code)
				ownLists(t, g.Chip)
				scribbleMember(g)
				asItWas(t, "Written", f, want)
				logs[2] = log
				g, got = impl.WrittenAll(f, logs, datas)
				same(t, "code of all", got, code)
				ownLists(t, g.Chip)
				scribbleMember(g)
				asItWas(t, "WrittenAll", f, want)
				same(t, "logs", logs[:4], []int64{0, 1, log, 7})
				same(t, "datas", datas[:4], []string{"aaaa", "bbbb", "cccc", "room"})
			}
			for _, n := range []int{0, 3} {
				g, got := impl.WrittenAll(f, logs[:n], nil)
				same(t, "code of none", got, int64(min(n, impl.NdForm)))
				scribbleMember(g)
				asItWas(t, "WrittenAll of none", f, want)
			}
			ops, _ := impl.OpsOf(f, 1, "data")
			for i := range ops {
				ops[i].Page = used(33, 333, "ink.")
			}
			asItWas(t, "OpsOf", f, want)
			for _, l := range [][]impl.COp{nil, opsByHand(f, 1, "data")} {
				ops := inRoom(l, erase(77))
				c, _ := impl.Did(f.Chip, ops)
				ownLists(t, c)
				scribble(c)
				asItWas(t, "Did", f, want)
				same(t, "ops", ops[:len(l)+1], append(slices.Clone(l), erase(77)))
			}
		}
	}
}
