package impl

import "slices"

func MapOf(c Chip) ([]int64, bool) {
	s, ok := cellsOf(c)
	if !ok {
		return nil, false
	}
	return newestPlaces(s)
}

func TidyOps(c Chip) ([]COp, bool) {
	s, ok := cellsOf(c)
	if !ok {
		return nil, false
	}
	_, ops, ok := tidying(s)
	if !ok {
		return nil, false
	}
	return toldOps(ops), true
}

func Recovered(c Chip) (Ftl, bool) {
	s, ok := cellsOf(c)
	if !ok {
		return Ftl{}, false
	}
	open, ops, ok := tidying(s)
	if !ok {
		return Ftl{}, false
	}
	// A block with room for the victim's pages refuses none of these ops.
	s, _ = s.afterAll(ops)
	return memberOf(s, s.top().seq+1, open), true
}

// lastTidySeq leaves a Seq for each page that is copied; where none is, a write
// can follow still.
const lastTidySeq = MaxSeq - 11

type newestPage struct {
	seq   int64
	place int64
}

// newestPlaces tells the newest pages log by log, so that the order of the map
// they are gathered in is never seen.
func newestPlaces(s chipCells) ([]int64, bool) {
	room := RoomFor(s.count)
	newest := map[int64]newestPage{}
	for place, p := range usedPages(s) {
		if p.Log >= room {
			return nil, false
		}
		// A log that is not there yet has Seq 0, below that of every page.
		if p.Seq > newest[p.Log].seq {
			newest[p.Log] = newestPage{seq: p.Seq, place: place}
		}
	}
	places := make([]int64, room)
	for log := range places {
		places[log] = unnamed
		if n, ok := newest[int64(log)]; ok {
			places[log] = n.place
		}
	}
	return places, true
}

// top is Seq 0 at place 0 without pages: below every right Seq, and in the block
// that is open then.
func (s chipCells) top() newestPage {
	var top newestPage
	for place, p := range usedPages(s) {
		if p.Seq > top.seq {
			top = newestPage{seq: p.Seq, place: place}
		}
	}
	return top
}

// openBlock is false when more than one block is begun: then no write left the
// chip so.
func (s chipCells) openBlock() (int64, bool) {
	open, begun := s.top().place/PageCount, 0
	for b := range s.count {
		if s.blocks[b].begun() {
			open = b
			begun++
		}
	}
	return open, begun <= 1
}

func (s chipCells) freeBut(open int64) bool {
	return slices.ContainsFunc(s.freeBlocks(), func(b int64) bool { return b != open })
}

// tidying tells the open block and what is left to do of a write that was
// emptying a victim when the power was lost.
func tidying(s chipCells) (int64, []chipOp, bool) {
	named, ok := newestPlaces(s)
	if !ok {
		return 0, nil, false
	}
	open, ok := s.openBlock()
	if !ok || s.top().seq > lastTidySeq || s.worn() {
		return 0, nil, false
	}
	if s.freeBut(open) {
		return open, nil, true
	}
	victim, room := victimBut(s, named, open), s.blocks[open].room()
	if victim < 0 || room == 0 || validCounts(named)[victim] > room {
		return 0, nil, false
	}
	return open, emptying(s, named, victim, open, s.top().seq+1), true
}
