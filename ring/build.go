package ring

// build returns the protocol in which a machine moves by a rule: the colour that it takes, or stays, by its own colour and those of the machines before and after it.
func build(machines, colours int, rule func(machine, before, own, after int) int) Rules {
	r := Rules{Machines: machines, Colours: colours}
	for machine := range machines {
		var table []int
		for before := range colours {
			for own := range colours {
				for after := range colours {
					table = append(table, rule(machine, before, own, after))
				}
			}
		}
		r.Next = append(r.Next, table)
	}
	return r
}

func dijkstra(machines, colours int) Rules {
	return build(machines, colours, func(machine, before, own, _ int) int {
		switch {
		case machine == 0 && before == own:
			return (own + 1) % colours
		case machine > 0 && before != own:
			return before
		}
		return stays
	})
}

func four(machines int) Rules {
	last := machines - 1
	return build(machines, 4, func(machine, before, own, after int) int {
		switch machine {
		case 0:
			return moveFirst(own, after)
		case last:
			return moveLast(before, own)
		case last - 1:
			// The last machine behaves as if its u were 0, whatever its colour says; otherwise no machine could move where all u are 1.
			after = join(x(after), 0)
		}
		return moveMiddle(before, own, after)
	})
}

// x and u are the parts of a colour of the protocol with four colours.
func x(colour int) int { return colour / 2 }

func u(colour int) int { return colour % 2 }

func join(x, u int) int { return 2*x + u }

func moveFirst(own, after int) int {
	if x(after) == x(own) && u(after) == 0 {
		return join(1-x(own), 1)
	}
	return stays
}

func moveLast(before, own int) int {
	if x(before) != x(own) {
		return join(x(before), 0)
	}
	return stays
}

func moveMiddle(before, own, after int) int {
	switch {
	case x(before) != x(own):
		return join(x(before), 1)
	case u(own) == 1 && x(after) == x(own) && u(after) == 0:
		return join(x(own), 0)
	}
	return stays
}
