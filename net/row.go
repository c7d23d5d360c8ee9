package net

import "reeve/api"

// row is letters as container/heap wants them: who is to come first stands at the front.
type row []api.Letter

func (r row) Len() int { return len(r) }

// Less puts the older letter first; of those of one age the one that there was first.
func (r row) Less(i, j int) bool {
	if r[i].Age != r[j].Age {
		return r[i].Age > r[j].Age
	}
	return r[i].ID < r[j].ID
}

func (r row) Swap(i, j int) { r[i], r[j] = r[j], r[i] }

func (r *row) Push(x any) { *r = append(*r, x.(api.Letter)) }

func (r *row) Pop() any {
	last := r.Len() - 1
	l := (*r)[last]
	*r = (*r)[:last]
	return l
}
