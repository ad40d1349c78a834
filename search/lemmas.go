package search

// store is the facts that are kept, from the oldest to the youngest, and the most that were kept at once.
type store struct {
	room int
	kept []fact
	most int
}

// keep keeps a fact; if there is no room, the oldest one goes.
func (s *store) keep(found fact) {
	if s.room <= 0 {
		return
	}
	if len(s.kept) >= s.room {
		s.kept = s.kept[1:]
	}
	s.kept = append(s.kept, found)
	if len(s.kept) > s.most {
		s.most = len(s.kept)
	}
}
