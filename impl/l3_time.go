package impl

import "cmp"

// MaxTime is the maximum of the components of a time.
const MaxTime = 99

// Time is a partially ordered time.
type Time struct {
	Epoch int
	Round int
}

func (t Time) isValid() bool {
	return isUpTo(t.Epoch, MaxTime) && isUpTo(t.Round, MaxTime)
}

func (t Time) lessEqual(other Time) bool {
	return t.Epoch <= other.Epoch && t.Round <= other.Round
}

func (t Time) compare(other Time) int {
	return cmp.Or(cmp.Compare(t.Epoch, other.Epoch), cmp.Compare(t.Round, other.Round))
}

func (t Time) before(other Time) bool {
	return t.compare(other) < 0
}

func (t Time) join(other Time) Time {
	return Time{Epoch: max(t.Epoch, other.Epoch), Round: max(t.Round, other.Round)}
}

func (t Time) meet(other Time) Time {
	return Time{Epoch: min(t.Epoch, other.Epoch), Round: min(t.Round, other.Round)}
}

// ValidTime reports whether a time is valid.
func ValidTime(t Time) bool {
	return t.isValid()
}

// TimeLessEqual is the partial order of times.
func TimeLessEqual(a Time, b Time) bool {
	return a.lessEqual(b)
}

// TimeBefore is a total order of times.
func TimeBefore(a Time, b Time) bool {
	return a.before(b)
}

// TimeJoin returns the least upper bound.
func TimeJoin(a Time, b Time) Time {
	return a.join(b)
}

// TimeMeet returns the greatest lower bound.
func TimeMeet(a Time, b Time) Time {
	return a.meet(b)
}
