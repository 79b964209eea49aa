package ring

import (
	"slices"

	"minikin/api"
	"minikin/small"
)

const (
	mostMachines = 6
	mostColours  = 6
	mostConfigs  = 20000
	stays        = -1 // in a table: the machine may not move
)

// A state is a configuration while it is worked on: the colour of each machine, and 0 where there is none.
type state [mostMachines]int

// configs returns how many configurations a protocol of a size has, 0 if there is no protocol of that size.
func configs(machines, colours int) int {
	if machines < 2 || machines > mostMachines || colours < 2 || colours > mostColours {
		return 0
	}
	n := 1
	for range machines {
		n *= colours
	}
	if n > mostConfigs {
		return 0
	}
	return n
}

func (r Rules) isProtocol() bool {
	if configs(r.Machines, r.Colours) == 0 || len(r.Next) != r.Machines {
		return false
	}
	for _, table := range r.Next {
		if !isTable(table, r.Colours) {
			return false
		}
	}
	return true
}

func isTable(table []int, colours int) bool {
	if len(table) != colours*colours*colours {
		return false
	}
	for at, next := range table {
		own := at / colours % colours
		if next < stays || next >= colours || next == own {
			return false
		}
	}
	return true
}

// stateOf returns the state in list: ErrRules if r is no protocol, ErrShape if list does not have a colour for each machine, ErrArg if one is out of range.
func stateOf(r Rules, list []int) (state, api.Errno) {
	if e := Check(r); e != api.OK {
		return state{}, e
	}
	if len(list) != r.Machines {
		return state{}, api.ErrShape
	}
	var s state
	for machine, colour := range list {
		if colour < 0 || colour >= r.Colours {
			return state{}, api.ErrArg
		}
		s[machine] = colour
	}
	return s, api.OK
}

// list returns a state as the list of the colours of the machines.
func (r Rules) list(s state) []int {
	return slices.Clone(s[:r.Machines])
}

// has reports whether a configuration has that number.
func (r Rules) has(number int) bool {
	return number >= 0 && number < configs(r.Machines, r.Colours)
}

func (r Rules) number(s state) int {
	number := 0
	for _, colour := range s[:r.Machines] {
		number = number*r.Colours + colour
	}
	return number
}

// state returns the state that has a number.
func (r Rules) state(number int) state {
	var s state
	for machine := r.Machines - 1; machine >= 0; machine-- {
		s[machine] = number % r.Colours
		number /= r.Colours
	}
	return s
}

// next returns the colour that a machine takes, or stays.
func (r Rules) next(s state, machine int) int {
	before := s[(machine+r.Machines-1)%r.Machines]
	after := s[(machine+1)%r.Machines]
	return r.Next[machine][(before*r.Colours+s[machine])*r.Colours+after]
}

// ready returns the machines that may move.
func (r Rules) ready(s state) small.Set {
	var ready small.Set
	for machine := range r.Machines {
		if r.next(s, machine) != stays {
			ready |= small.One(machine)
		}
	}
	return ready
}

// move returns the state after the joint step of machines that are ready.
func (r Rules) move(s state, machines small.Set) state {
	after := s
	for machine := range machines.All() {
		after[machine] = r.next(s, machine)
	}
	return after
}
