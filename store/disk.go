package store

import (
	"peristyle/api"
	"peristyle/extent"
	"peristyle/journal"
	"peristyle/slots"
	"peristyle/vint"
	"strings"
)

const (
	slotBlocks   = 2 // the first ones of a device: those of the slots
	leastJournal = 8
	leastState   = 12
	shares       = 40 // of a device, of which a region has some
	journalShare = 1
	stateShare   = 3
	nought       = "\x00"
	lastTurn     = 1 << 32 // that slots may have
	turnAnew     = 3       // behind the last one; that ahead of it has a slot, too
)

// regions are a device's blocks behind the slots. They do not mingle, as segments, that come and go, leave gaps: of 2000 blocks the longest state that must have room (146 blocks) finds it in a region of its own, and the segments of the greatest tables that must have it (1620 blocks, whatever the gaps are) in what is left.
type regions struct {
	journal  api.Extent
	states   [2]api.Extent // for the states of even turns, and for those of odd ones
	segments int           // the first block of what is left
}

func regionsOf(size int) regions {
	records := api.Extent{First: slotBlocks, Count: max(leastJournal, size*journalShare/shares)}
	even := api.Extent{First: end(records), Count: max(leastState, size*stateShare/shares)}
	odd := api.Extent{First: end(even), Count: even.Count}
	return regions{records, [2]api.Extent{even, odd}, end(odd)}
}

// end is the block behind an extent's last one.
func end(at api.Extent) int { return at.First + at.Count }

// state is where a state of a turn lies, of so many bytes.
func (r regions) state(turn, bytes int) api.Extent {
	return api.Extent{First: r.states[turn%slotBlocks].First, Count: extent.For(bytes)}
}

// room is which blocks are free for segments, if a state is sure.
func room(size int, sure state) (*extent.Map, api.Errno) {
	m, _ := extent.New(size)
	m.Take(api.Extent{Count: regionsOf(size).segments})
	for ref := range sure.refs() {
		if m.Take(ref.At) != api.OK {
			return nil, api.ErrCorrupt
		}
	}
	return m, api.OK
}

// write makes a draft sure: its segments and its state first, which lie in blocks that were free, then the slot.
func (s *Store) write(n *draft) api.Errno {
	for _, at := range n.beside.Waiting() {
		bytes, _ := n.beside.Read(at)
		if errno := s.d.Write(at, bytes); errno != api.OK {
			return errno
		}
	}
	turn, errno := s.writeState(n.bytes)
	if errno != api.OK {
		return errno
	}
	for _, f := range n.freed {
		f.twin.part()
	}
	s.state, s.turn, s.journal = n.state, turn, nil
	if turn != lastTurn {
		s.journal, _ = journal.Begin(s.d, regionsOf(s.d.Size()).journal, turn)
	}
	return api.OK
}

// writeState lays a state as that of the next turn.
func (s *Store) writeState(bytes string) (int, api.Errno) {
	if s.turn == lastTurn {
		return turnAnew, s.beginAnew(bytes)
	}
	turn := s.turn + 1
	return turn, slots.Lay(s.d, regionsOf(s.d.Size()).state(turn, len(bytes)), turn, bytes)
}

// beginAnew lays a state behind that of the last turn, which has no records: its journal can be emptied ahead, so that none of long ago, of a turn that comes again, comes back. What is sure is the last turn's state, till its slot is that of the turn ahead of the new one.
func (s *Store) beginAnew(bytes string) api.Errno {
	r := regionsOf(s.d.Size())
	for k := range r.journal.Count {
		if errno := s.d.Write(r.journal.First+k, strings.Repeat(nought, api.BlockSize)); errno != api.OK {
			return errno
		}
	}
	at := r.state(turnAnew, len(bytes))
	if errno := slots.Lay(s.d, at, turnAnew, bytes); errno != api.OK {
		return errno
	}
	if errno := s.d.Write(lastTurn%slotBlocks, slots.Slot(at, turnAnew-1, bytes)); errno != api.OK {
		return errno
	}
	return s.d.Sync()
}

// readState reads the state that was laid last.
func (s *Store) readState() api.Errno {
	bytes, at, turn, errno := slots.Read(s.d)
	if errno == api.ErrNone {
		return api.OK
	}
	if errno != api.OK {
		return errno
	}
	s.turn = turn
	if s.state, errno = takeState(bytes); errno != api.OK {
		return errno
	}
	size := s.d.Size()
	if at != regionsOf(size).state(turn, len(bytes)) {
		return api.ErrCorrupt
	}
	if _, errno := room(size, s.state); errno != api.OK {
		return errno
	}
	for k := range s.tables {
		if !s.agree(s.d, k) {
			return api.ErrCorrupt
		}
	}
	return s.readOther()
}

// readOther asks of the slot that was written ahead of the last one, that it is there: were it noughts, it might be the greater one that was lost. Beside the last turn's that of a turn anew may stand, which was broken off.
func (s *Store) readOther() api.Errno {
	block, errno := s.d.Read((s.turn + 1) % slotBlocks)
	if errno != api.OK {
		return errno
	}
	turn, _, _ := vint.Take(block)
	if turn != s.turn-1 && (s.turn != lastTurn || turn != turnAnew) {
		return api.ErrCorrupt
	}
	return api.OK
}

// readJournal does again what was done since the state was laid.
func (s *Store) readJournal() api.Errno {
	at := regionsOf(s.d.Size()).journal
	last, errno := journal.Open(s.d, at, max(s.turn, 1))
	if errno != api.OK {
		return errno
	}
	if errno := s.readBlocks(at, at.Count-last.Room()); errno != api.OK {
		return errno
	}
	n := &draft{state: s.state.copied(), d: s.d}
	for _, record := range last.Records() {
		one, errno := takeDeed(record)
		if errno != api.OK || n.do(one) != api.OK {
			return api.ErrCorrupt
		}
	}
	s.state = n.state
	return api.OK
}

// readBlocks asks of the journal's blocks whether they may stand there: behind the records, so many blocks, only parts of turns ahead, and of one record that was not made sure; none of the last turn. Others tell of a record, or a slot, that was lost.
func (s *Store) readBlocks(at api.Extent, records int) api.Errno {
	for k := range at.Count {
		block, errno := s.d.Read(at.First + k)
		if errno != api.OK {
			return errno
		}
		if strings.Trim(block, nought) == "" {
			continue
		}
		turn, number, ahead := partOf(block)
		isOfRecords := k < records || k-ahead == records
		if number != k || turn > s.turn || turn == s.turn && !isOfRecords || turn == lastTurn {
			return api.ErrCorrupt
		}
	}
	return api.OK
}

// partOf are the turn of a journal's part, the number of its block, and how many parts come ahead of it.
func partOf(block string) (int, int, int) {
	r := &reader{rest: block}
	return r.number(), r.number(), r.number()
}
