namespace Go.PM
/-- a goal at which the walk stands -/
def Held (p : Prop) : Prop := p
theorem held {p : Prop} (h : Held p) : p := h
end Go.PM
