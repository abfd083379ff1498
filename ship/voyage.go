package ship

import (
	"slices"

	"escribano/api"
)

// fare is how a ship fares: how many days it is late, and how many of its calls it makes.
type fare struct{ late, made int }

// voyage is a ship that is looked at, and how it fares.
type voyage struct {
	api.ShShip
	fare
}

// arrival is whether a ship calls at a port, and on which day; the day is 0 if it does not.
type arrival struct {
	made bool
	day  int
}

// voyages returns all ways in which a ship can fare.
func voyages(s api.ShShip) []voyage {
	var l []voyage
	for late := s.Late.Lo; late <= s.Late.Hi; late++ {
		for made := range len(s.Calls) + 1 {
			l = append(l, voyage{s, fare{late, made}})
		}
	}
	return l
}

// sinks reports whether the ship does not fare as if it makes all its calls.
func (v voyage) sinks() bool { return v.fare != fare{v.late, len(v.Calls)} }

// calls returns whether, and when, the ship calls at a port.
func (v voyage) calls(port int) arrival {
	at := callAt(v.Calls[:v.made], port)
	if at < 0 {
		return arrival{}
	}
	return arrival{true, v.Sails + v.Calls[at].After + v.late}
}

// callAt returns the index of the call at a port, or -1.
func callAt(calls []api.ShCall, port int) int {
	return slices.IndexFunc(calls, func(c api.ShCall) bool { return c.Port == port })
}

// takes reports whether a ship takes letters to a port from a day on.
func takes(s api.ShShip, port, day int) bool { return s.Sails >= day && callAt(s.Calls, port) >= 0 }

// isOn reports whether it is on a day.
func (a arrival) isOn(day int) bool { return a == arrival{true, day} }

// isUntil reports whether it is on a day, or before it.
func (a arrival) isUntil(day int) bool { return a.made && a.day <= day }

// isBefore reports whether it is, and the other one is on a later day, or never.
func (a arrival) isBefore(o arrival) bool { return a.made && !o.isUntil(a.day) }
