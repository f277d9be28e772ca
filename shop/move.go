package shop

import (
	"scrivenry/api"
	"scrivenry/hot"
)

// stage is how far a move has come.
type stage int

const (
	over    stage = iota // there is no move
	begun                // the other slot has nothing of it yet
	copying              // the other slot has a head, and some revisions
	done                 // the other slot has Done, and all revisions
	moved                // the archive is at the slot that was the other one
)

// move is a move of the log from the slot that the archive is at to the other one.
type move struct {
	stage stage
	floor int // the revision that the log begins at then
	said  int // the last revision that the other slot has
}

// twofold tells if what is added goes behind both slots. The slot that is moved to needs it as soon
// as it says Done: from then on a crash may leave it whole, and it is opened in the old one's place.
func (m move) twofold() bool { return m.stage == done || m.stage == moved }

// Keep begins a move to the other slot, in which the log begins at revision floor.
func (s *Shop) Keep(floor int) api.Errno {
	if s.move.stage != over {
		return api.ErrBusy
	}
	if e := s.has(floor); e != api.OK {
		return e
	}
	// A log that had no greater gen could not be told from the old one: none is begun.
	if s.log.Gen >= api.MaxNum {
		return api.ErrFull
	}
	s.move = move{stage: begun, floor: floor, said: floor}
	return api.OK
}

// Step does one step of the move, and tells if there was one.
func (s *Shop) Step() bool {
	switch s.move.stage {
	case begun:
		s.sayHead()
	case copying:
		s.sayNext()
	case done:
		s.change()
	case moved:
		s.clear(1 - s.at)
		s.move = move{}
	default:
		return false
	}
	return true
}

// sayHead begins the log in the other slot.
func (s *Shop) sayHead() {
	floor := s.move.floor
	text, _ := s.Text(floor) // Keep found that it is there.
	head, _ := hot.Head(s.log.Gen+1, floor, text, tableAt(s.log, floor))
	s.clear(1 - s.at)
	s.say(1-s.at, head)
	s.move.stage = copying
}

// sayNext says in the other slot what the log has next: a revision, or Done, if there is none.
func (s *Shop) sayNext() {
	if s.move.said == s.Head() {
		s.say(1-s.at, hot.Done())
		s.move.stage = done
		return
	}
	frame, _ := hot.Rev(s.log.Revs[s.move.said-s.log.Base]) // A log's revisions are right.
	s.say(1-s.at, frame)
	s.move.said++
}

// change makes the other slot safe, and the one that the archive is at.
func (s *Shop) change() {
	s.at = 1 - s.at
	s.makeSafe(s.at)
	s.log, _ = hot.Read(s.disk.Slots[s.at].Data) // It is what was said there, step by step.
	s.safe = s.Head()
	s.move.stage = moved
}

// tableAt tells a log's table as it was at revision r, which the log has.
func tableAt(l api.Log, r int) [api.MaxWho + 1]api.Sess {
	table := l.First
	for i, v := range l.Revs[:r-l.Base] {
		table[v.Who] = api.Sess{Seq: v.Seq, Rev: l.Base + i + 1}
	}
	return table
}
