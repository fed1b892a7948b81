package doc

import (
	"sort"

	"quire/api"
	"quire/ids"
)

// voids: the ids of void operations, by clients, of whom each one's become known in order.
type voids map[uint64][]api.Range

func (v voids) add(own api.Range) { v[own.Client] = append(v[own.Client], own) }

func (v voids) has(id api.Id) bool { return hasId(v[id.Client], id) }

// hasId answers whether a range of l has id; they are in order, and no two overlap. It asks the one that can: ids.Has of all of them would go through each.
func hasId(l []api.Range, id api.Id) bool {
	behind := sort.Search(len(l), func(i int) bool {
		return ids.Less(id, api.Id{Client: l[i].Client, Clock: l[i].From})
	})
	return behind > 0 && ids.Has(l[behind-1:behind], id)
}
