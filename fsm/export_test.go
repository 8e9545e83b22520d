package fsm

// SetNext is a volume of which very many keys were assigned.
func (t *Table) SetNext(id int, key uint64) { t.rows.row(id).next = key }

// SetEpoch is a volume that was changed very often.
func (t *Table) SetEpoch(id, epoch int) { t.rows.row(id).epoch = epoch }
