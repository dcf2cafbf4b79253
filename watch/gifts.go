package watch

import (
	"slices"

	"letterlock/api"
	"letterlock/rights"
)

// gifts are the capabilities that each plugin was given. Their own rights count, also where their gate was cut: what was given was given.
type gifts [api.MaxPlugins][]api.Node

// may tells whether a plugin, or one that it is linked with, was given one capability of a cell that has all of a right.
func (g gifts) may(p, cell, right int) bool {
	return slices.ContainsFunc(g.circle(p), func(q int) bool {
		return slices.ContainsFunc(g[q], func(n api.Node) bool {
			return !isFunc(n) && n.Cell == cell && rights.Has(n.Rights, right)
		})
	})
}

// circle tells a plugin and all that it is linked with; nobody, if there is no such plugin.
func (g gifts) circle(p int) []int {
	if p < 0 || p >= len(g) {
		return nil
	}
	circle := []int{p}
	// It grows while it is gone through: so those are found, too, that are linked by way of others.
	for at := 0; at < len(circle); at++ {
		for q := range g {
			if !slices.Contains(circle, q) && g.touch(circle[at], q) {
				circle = append(circle, q)
			}
		}
	}
	return circle
}

// touch tells whether one of two plugins was given a capability of a function of the other one.
func (g gifts) touch(p, q int) bool {
	return g.knows(p, q) || g.knows(q, p)
}

// knows tells whether p was given a capability of a function of q.
func (g gifts) knows(p, q int) bool {
	return slices.ContainsFunc(g[p], func(n api.Node) bool { return isFunc(n) && n.Plugin == q })
}

func isFunc(n api.Node) bool { return n.Plugin >= 0 }
