package sea

import (
	"iter"

	"escribano/api"
	"escribano/told"
)

// Arrival is whether a ship calls at a port, and on which day; the day is 0 if it does not.
type Arrival struct {
	Made bool
	Day  int
}

// isOn reports whether it is on a day.
func (a Arrival) isOn(day int) bool { return a == Arrival{true, day} }

// IsUntil reports whether it is on a day, or before it.
func (a Arrival) IsUntil(day int) bool { return a.Made && a.Day <= day }

// IsBefore reports whether it is, and the other one is on a later day, or never.
func (a Arrival) IsBefore(o Arrival) bool { return a.Made && !o.IsUntil(a.Day) }

// Days returns the least and the greatest day of what arrives so in truths, and whether it does, or ErrZero if there is no truth.
func Days(arrivals iter.Seq[Arrival]) (api.Span, int, api.Errno) {
	var tally told.Tally
	days := api.Span{Lo: api.MaxShDay}
	for a := range arrivals {
		tally.Add(a.Made)
		if a.Made {
			days = api.Span{Lo: min(days.Lo, a.Day), Hi: max(days.Hi, a.Day)}
		}
	}
	how, e := tally.How()
	if e != api.OK || how == api.Never {
		return api.Span{}, how, e
	}
	return days, how, api.OK
}
