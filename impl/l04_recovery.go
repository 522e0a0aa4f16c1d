package impl

func MapOf(c Chip) ([]int64, bool) {
	s, ok := cellsOf(c)
	if !ok {
		return nil, false
	}
	return newestPlaces(s)
}

func Recovered(c Chip) (Ftl, bool) { return Ftl{}, false }

func TidyOps(c Chip) ([]COp, bool) { return nil, false }

type newestPage struct {
	seq   int64
	place int64
}

// newestPlaces tells the newest pages log by log, so that the order of the map
// they are gathered in is never seen.
func newestPlaces(s chipCells) ([]int64, bool) {
	room := RoomFor(s.count)
	newest := map[int64]newestPage{}
	for place, p := range usedPages(s) {
		if p.Log >= room {
			return nil, false
		}
		// A log that is not there yet has Seq 0, below that of every page.
		if p.Seq > newest[p.Log].seq {
			newest[p.Log] = newestPage{seq: p.Seq, place: place}
		}
	}
	places := make([]int64, room)
	for log := range places {
		places[log] = unnamed
		if n, ok := newest[int64(log)]; ok {
			places[log] = n.place
		}
	}
	return places, true
}
